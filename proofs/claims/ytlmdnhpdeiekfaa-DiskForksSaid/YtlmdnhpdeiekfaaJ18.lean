/- The document's Ask of a disk, by its contract. -/
import Derived.Test.YtlmdnhpdeiekfaaJ17
namespace Go.Proofs.Ytlmdnhpdeiekfaa
open Go.RowKit Go.Lib
set_option linter.unusedVariables false

/-- What the document's Ask answers. -/
def askR (d : Nat → Prt) (n : Nat) (j : Jb) : Int := if ownD d n j.1 < 0 then 7 else askP (d (ownD d n j.1).toNat) j.2.1 (sizeJ j)
theorem askP_cases (p : Prt) (s z : Int) : (z ≤ 0 ∧ askP p s z = 3) ∨ (¬ z ≤ 0 ∧ ¬ z % 16 = 0 ∧ askP p s z = 3) ∨ (¬ z ≤ 0 ∧ z % 16 = 0 ∧ 32 < z ∧ askP p s z = 4) ∨ ((z = 16 ∨ z = 32) ∧ s < 0 ∧ askP p s z = 6) ∨ ((z = 16 ∨ z = 32) ∧ ¬ s < 0 ∧ p.2.2 - z / 16 < s ∧ askP p s z = 6) ∨ ((z = 16 ∨ z = 32) ∧ ¬ s < 0 ∧ ¬ p.2.2 - z / 16 < s ∧ askP p s z = 0) := by
  unfold askP
  by_cases h1 : z ≤ 0
  · exact .inl ⟨h1, by rw [if_pos (.inl (by omega))]⟩
  · by_cases h2 : z % 16 = 0
    · by_cases h3 : 32 < z
      · exact .inr (.inr (.inl ⟨h1, h2, h3, by rw [if_neg (by omega), if_pos h3]⟩))
      · have hz : z = 16 ∨ z = 32 := by omega
        rw [if_neg (by omega), if_neg h3]
        unfold hasB
        by_cases h4 : s < 0
        · exact .inr (.inr (.inr (.inl ⟨hz, h4, by rw [if_neg]; simp; omega⟩)))
        · by_cases h5 : p.2.2 - z / 16 < s
          · exact .inr (.inr (.inr (.inr (.inl ⟨hz, h4, h5, by rw [if_neg]; simp; omega⟩))))
          · exact .inr (.inr (.inr (.inr (.inr ⟨hz, h4, h5, by rw [if_pos]; simp; omega⟩))))
    · exact .inr (.inl ⟨h1, h2, by rw [if_pos (.inr h2)]⟩)
def AskV (v : Int) (w : World) (e : Ending) (w' : World) : Prop := e = .returned (.int .i64 v) ∧ Below w.heap.size w w'
set_option maxRecDepth 20000 in
set_option maxHeartbeats 3200000 in
theorem rask_any (A : Option Addr) (n c : Nat) (d : Nat → Prt) (j : Jb) (w : World) (x : Nat) (bv : Value) (bz : Bool) (j0 : Jb) (st : Int) (h : RDk w x (.slice A n c) bv bz j0 st) (hst : PrtsV w A n d) (hn : n ≤ 1000) (hw : ∀ i, i < n → Within (d i)) :
    Calls Try.prog 22 #[.pointer (some ⟨x, 0, none⟩), jbv j] w (AskV (askR d n j) w) := by
  obtain ⟨o, s, m, b, t⟩ := j
  have hb0 : Below w.heap.size w (w.alloc (.cells #[.int .i64 o, .int .i64 s, .int .i64 m, .bool b, .string t] 52)) := (Below.refl _ _).alloc (Nat.le_refl _) _
  have HO := Lib.hid (rdown_any A n c d o _ x bv bz j0 st (h.below hb0) (hst.below hb0) hn)
  have x0 : (w.alloc (.cells #[.int .i64 o, .int .i64 s, .int .i64 m, .bool b, .string t] 52)).cell? ⟨x, 0, none⟩ = some (.slice A n c) := Blk.cell (h.below hb0) 0
  have hjb := Blk.new w 52 #[.int .i64 o, .int .i64 s, .int .i64 m, .bool b, .string t]
  have y1 : (w.alloc (.cells #[.int .i64 o, .int .i64 s, .int .i64 m, .bool b, .string t] 52)).cell? ⟨w.heap.size, 1, none⟩ = some (.int .i64 s) := hjb.cell 1
  have HB0 := Lib.hid hb0
  have hst2 := hst.below hb0
  clear h hst hb0 hjb
  rcases ownD_cases d n o with ⟨i, hi, hio, _⟩ | ⟨hio, _⟩
  · have hv : askR d n (o, s, m, b, t) = askP (d i) s (sizeJ (o, s, m, b, t)) := by
      unfold askR
      simp only [hio]
      rw [if_neg (by omega)]
      rfl
    rw [hv]
    rw [hio] at HO
    obtain ⟨g, off, rfl, hg, hc⟩ := hst2.2 (by omega)
    obtain ⟨_, _, c2⟩ := hc i hi
    have hwi := hw i hi
    clear hc hv hio hst2 hw
    generalize d i = p at c2 hwi ⊢
    obtain ⟨po, pf, pc⟩ := p
    obtain ⟨w1, w2, w3, w4⟩ := hwi
    simp only at c2 w1 w2 w3 w4
    have u1 : IntKind.i64.wrap (pc - 1) = pc - 1 := by rw [IntKind.wrap_i64]; omega
    have u2 : IntKind.i64.wrap (pc - 2) = pc - 2 := by rw [IntKind.wrap_i64]; omega
    have i1 : (i : Int) < (n : Int) := by omega
    have i2 : ¬ (i : Int) < 0 := by omega
    obtain ⟨z, hz⟩ : ∃ z, sizeJ (o, s, m, b, t) = z := ⟨_, rfl⟩
    rw [hz]
    clear w1 w2 w3 w4
    have hk := askP_cases (po, pf, pc) s z
    obtain ⟨v, hv⟩ : ∃ v, v = askP (po, pf, pc) s z := ⟨_, rfl⟩
    rw [← hv] at hk ⊢
    clear hv
    cases b with
    | true =>
      have hsz : (t.size : Int) = z := hz
      clear hz
      rcases hk with ⟨h1, rfl⟩ | ⟨h1, h2, rfl⟩ | ⟨h1, h2, h3, rfl⟩ | ⟨hz, h4, rfl⟩ | ⟨hz, h4, h5, rfl⟩ | ⟨hz, h4, h5, rfl⟩
      · go_enter Try.func22, Try.ntmps22
        go_wp2_with (go_at_call 37; (with_reducible refine HO.out.mono ?_); rintro e w9 ⟨rfl, rfl⟩)
        go_ret
        exact ⟨rfl, HB0.out⟩
      · have h2' : (z % 16 != 0) = true := by simpa using h2
        have h2'' : Int.tmod z 16 = z % 16 := Int.tmod_eq_emod_of_nonneg (by omega)
        clear h2
        go_enter Try.func22, Try.ntmps22
        go_wp2_with (go_at_call 37; (with_reducible refine HO.out.mono ?_); rintro e w9 ⟨rfl, rfl⟩)
        go_ret
        exact ⟨rfl, HB0.out⟩
      · obtain ⟨q, rfl⟩ : ∃ q, z = q * 16 := ⟨z / 16, by omega⟩
        have h2' : (q * 16 % 16 != 0) = false := by simp
        clear h2
        go_enter Try.func22, Try.ntmps22
        go_wp2_with (go_at_call 37; (with_reducible refine HO.out.mono ?_); rintro e w9 ⟨rfl, rfl⟩)
        go_ret
        exact ⟨rfl, HB0.out⟩
      all_goals
        rcases hz with rfl | rfl
        all_goals
          first
            | (have h4' : decide (s < 0) = false := by simpa using h4)
            | (have h4' : decide (s < 0) = true := by simpa using h4)
          go_enter Try.func22, Try.ntmps22
          go_wp2_with (go_at_call 37; (with_reducible refine HO.out.mono ?_); rintro e w9 ⟨rfl, rfl⟩)
          go_quiet (fail)
          go_wp2
          go_ret
          exact ⟨rfl, below_drewN HB0.out _⟩
    | false =>
      have hsz : m = z := hz
      subst hsz
      clear hz
      rcases hk with ⟨h1, rfl⟩ | ⟨h1, h2, rfl⟩ | ⟨h1, h2, h3, rfl⟩ | ⟨hz, h4, rfl⟩ | ⟨hz, h4, h5, rfl⟩ | ⟨hz, h4, h5, rfl⟩
      · go_enter Try.func22, Try.ntmps22
        go_wp2_with (go_at_call 37; (with_reducible refine HO.out.mono ?_); rintro e w9 ⟨rfl, rfl⟩)
        go_ret
        exact ⟨rfl, HB0.out⟩
      · have h2' : (m % 16 != 0) = true := by simpa using h2
        have h2'' : Int.tmod m 16 = m % 16 := Int.tmod_eq_emod_of_nonneg (by omega)
        clear h2
        go_enter Try.func22, Try.ntmps22
        go_wp2_with (go_at_call 37; (with_reducible refine HO.out.mono ?_); rintro e w9 ⟨rfl, rfl⟩)
        go_ret
        exact ⟨rfl, HB0.out⟩
      · obtain ⟨q, rfl⟩ : ∃ q, m = q * 16 := ⟨m / 16, by omega⟩
        have h2' : (q * 16 % 16 != 0) = false := by simp
        clear h2
        go_enter Try.func22, Try.ntmps22
        go_wp2_with (go_at_call 37; (with_reducible refine HO.out.mono ?_); rintro e w9 ⟨rfl, rfl⟩)
        go_ret
        exact ⟨rfl, HB0.out⟩
      all_goals
        rcases hz with rfl | rfl
        all_goals
          first
            | (have h4' : decide (s < 0) = false := by simpa using h4)
            | (have h4' : decide (s < 0) = true := by simpa using h4)
          go_enter Try.func22, Try.ntmps22
          go_wp2_with (go_at_call 37; (with_reducible refine HO.out.mono ?_); rintro e w9 ⟨rfl, rfl⟩)
          go_quiet (fail)
          go_wp2
          go_ret
          exact ⟨rfl, below_drewN HB0.out _⟩
  · have hv : askR d n (o, s, m, b, t) = 7 := by
      unfold askR
      simp only [hio]
      rfl
    rw [hv]
    rw [hio] at HO
    clear hv hst2 hw x0
    go_enter Try.func22, Try.ntmps22
    go_wp2_with (go_at_call 37; (with_reducible refine HO.out.mono ?_); rintro e w9 ⟨rfl, rfl⟩)
    go_ret
    exact ⟨rfl, HB0.out⟩
end Go.Proofs.Ytlmdnhpdeiekfaa
