/- Ask of package disk, by its contract. -/
import Derived.Test.YtlmdnhpdeiekfaaJ1
namespace Go.Proofs.Ytlmdnhpdeiekfaa
open Go.RowKit Go.Lib Go.Sort
set_option linter.unusedVariables false

/-- What is wrong with a job of so many bytes whose owner has the row p. -/
def askP (p : Prt) (s n : Int) : Int := if n < 1 ∨ ¬ n % 16 = 0 then 3 else if 32 < n then 4 else if hasB p s (n / 16) then 0 else 6
/-- What is wrong with a job. -/
def askD (T : Nat → Prt) (j : Jb) : Int := if noT T j.1 then 7 else askP (T j.1.toNat) j.2.1 (sizeJ j)

theorem job_cells {w W : World} {j : Jb} (hb : Below (w.heap.size + 1) (w.alloc (.cells #[.int .i64 j.1, .int .i64 j.2.1, .int .i64 j.2.2.1, .bool j.2.2.2.1, .string j.2.2.2.2] 36)) W) :
    W.cell? ⟨w.heap.size, 0, none⟩ = some (.int .i64 j.1) ∧ W.cell? ⟨w.heap.size, 1, none⟩ = some (.int .i64 j.2.1) ∧ W.cell? ⟨w.heap.size, 2, none⟩ = some (.int .i64 j.2.2.1) ∧ W.cell? ⟨w.heap.size, 3, none⟩ = some (.bool j.2.2.2.1) ∧ W.cell? ⟨w.heap.size, 4, none⟩ = some (.string j.2.2.2.2) := by
  have h := (Blk.new w 36 #[.int .i64 j.1, .int .i64 j.2.1, .int .i64 j.2.2.1, .bool j.2.2.2.1, .string j.2.2.2.2]).below hb (by omega)
  exact ⟨h.cell 0, h.cell 1, h.cell 2, h.cell 3, h.cell 4⟩
theorem part_cells {w W : World} {p : Prt} (hb : Below (w.heap.size + 1) (w.alloc (.cells #[.int .i64 p.1, .int .i64 p.2.1, .int .i64 p.2.2] 59)) W) :
    W.cell? ⟨w.heap.size, 0, none⟩ = some (.int .i64 p.1) ∧ W.cell? ⟨w.heap.size, 1, none⟩ = some (.int .i64 p.2.1) ∧ W.cell? ⟨w.heap.size, 2, none⟩ = some (.int .i64 p.2.2) := by
  have h := (Blk.new w 59 #[.int .i64 p.1, .int .i64 p.2.1, .int .i64 p.2.2]).below hb (by omega)
  exact ⟨h.cell 0, h.cell 1, h.cell 2⟩

theorem ask_core {w : World} {d : Value} {j : Jb} {p : Prt} {e0 c : Int} (hp : Within p) (hs : fitI j.2.1)
    (hfind : Calls Try.prog 29 #[d, .int .i64 j.1] (w.alloc (.cells #[.int .i64 j.1, .int .i64 j.2.1, .int .i64 j.2.2.1, .bool j.2.2.2.1, .string j.2.2.2.2] 36)) fun e w' => e = .returned (.tuple #[prv p, .int .i64 e0]) ∧ (w.alloc (.cells #[.int .i64 j.1, .int .i64 j.2.1, .int .i64 j.2.2.1, .bool j.2.2.2.1, .string j.2.2.2.2] 36)).grownBy w' none)
    (hc : c = if e0 = 0 then askP p j.2.1 (sizeJ j) else e0) :
    Calls Try.prog 19 #[d, jbv j] w fun e w' => e = .returned (.int .i64 c) ∧ w.grownBy w' none := by
  obtain ⟨o, s, n, b, t⟩ := j
  obtain ⟨po, pf, pc⟩ := p
  simp only at hs hfind
  have hsize := fun W => jsize_any (o, s, n, b, t) W
  have hhas := fun z W => has_any (po, pf, pc) hp s z hs W
  try simp only at hsize hhas
  generalize sizeJ (o, s, n, b, t) = z at hsize hc
  have HF := Lib.hid hfind
  have HZ := Lib.hid hsize
  have HB0 : Hid (Below w.heap.size w (w.alloc (.cells #[.int .i64 o, .int .i64 s, .int .i64 n, .bool b, .string t] 36))) := Lib.hid ((Below.refl _ _).alloc (Nat.le_refl _) _)
  have HJ := Lib.hid (fun (W : World) (hb : Below (w.heap.size + 1) (w.alloc (.cells #[.int .i64 o, .int .i64 s, .int .i64 n, .bool b, .string t] 36)) W) => job_cells (j := (o, s, n, b, t)) hb)
  have HP := Lib.hid (fun (w1 W : World) (hb : Below (w1.heap.size + 1) (w1.alloc (.cells #[.int .i64 po, .int .i64 pf, .int .i64 pc] 59)) W) => part_cells (p := (po, pf, pc)) hb)
  have cases : (e0 ≠ 0 ∧ c = e0) ∨ (e0 = 0 ∧ z < 1 ∧ c = 3) ∨ (e0 = 0 ∧ 1 ≤ z ∧ ¬ z % 16 = 0 ∧ c = 3) ∨ (e0 = 0 ∧ 1 ≤ z ∧ z % 16 = 0 ∧ 32 < z ∧ c = 4) ∨ (e0 = 0 ∧ 1 ≤ z ∧ z % 16 = 0 ∧ z ≤ 32 ∧ hasB (po, pf, pc) s (z / 16) = false ∧ c = 6) ∨ (e0 = 0 ∧ 1 ≤ z ∧ z % 16 = 0 ∧ z ≤ 32 ∧ hasB (po, pf, pc) s (z / 16) = true ∧ c = 0) := by
    unfold askP at hc
    by_cases h0 : e0 = 0
    · rw [if_pos h0] at hc
      by_cases h1 : z < 1
      · rw [if_pos (.inl h1)] at hc
        exact .inr (.inl ⟨h0, h1, hc⟩)
      · by_cases h2 : z % 16 = 0
        · rw [if_neg (by omega)] at hc
          by_cases h3 : 32 < z
          · rw [if_pos h3] at hc
            exact .inr (.inr (.inr (.inl ⟨h0, by omega, h2, h3, hc⟩)))
          · rw [if_neg h3] at hc
            cases h4 : hasB (po, pf, pc) s (z / 16) with
            | false =>
              simp [h4] at hc
              exact .inr (.inr (.inr (.inr (.inl ⟨h0, by omega, h2, by omega, by simp, hc⟩))))
            | true =>
              simp [h4] at hc
              exact .inr (.inr (.inr (.inr (.inr ⟨h0, by omega, h2, by omega, by simp, hc⟩))))
        · rw [if_pos (.inr h2)] at hc
          exact .inr (.inr (.inl ⟨h0, by omega, h2, hc⟩))
    · rw [if_neg h0] at hc
      exact .inl ⟨h0, hc⟩
  clear hc hfind hsize hs hp
  rcases cases with ⟨h0, rfl⟩ | ⟨rfl, h1, rfl⟩ | ⟨rfl, h1, h2, rfl⟩ | ⟨rfl, h1, h2, h3, rfl⟩ | ⟨rfl, h1, h2, h3, h4, rfl⟩ | ⟨rfl, h1, h2, h3, h4, rfl⟩
  · have h0' : (c != 0) = true := by simpa using h0
    clear hhas h0
    go_enter Try.func19, Try.ntmps19
    go_wp2_with (first
      | (go_at_call 29; with_reducible refine HF.out.mono ?_; rintro e w1 ⟨rfl, g1⟩; have b1 := below_of_only g1 (B := w.heap.size + 1) (by simp) (by simp); have K1 := Lib.hid (HB0.out.trans (b1.mono (by omega))); obtain ⟨c0, c1, c2, c3, c4⟩ := HJ.out _ (b1.alloc (by have := b1.size; simp at this; omega) (.cells #[.int .i64 po, .int .i64 pf, .int .i64 pc] 59)); have B1 := Lib.hid b1; clear b1 g1)
      | (go_at_call 31; with_reducible refine (HZ.out _).mono ?_; rintro e w2 ⟨rfl, g2⟩; have K2 := Lib.hid ((K1.out.alloc K1.out.size (.cells #[.int .i64 po, .int .i64 pf, .int .i64 pc] 59)).trans (below_of_only g2 (by have := K1.out.size; simp; omega) (by simp))); clear g2))
    go_ret
    exact ⟨rfl, only_far K2.out⟩
  · clear hhas
    go_enter Try.func19, Try.ntmps19
    go_wp2_with (first
      | (go_at_call 29; with_reducible refine HF.out.mono ?_; rintro e w1 ⟨rfl, g1⟩; have b1 := below_of_only g1 (B := w.heap.size + 1) (by simp) (by simp); have K1 := Lib.hid (HB0.out.trans (b1.mono (by omega))); obtain ⟨c0, c1, c2, c3, c4⟩ := HJ.out _ (b1.alloc (by have := b1.size; simp at this; omega) (.cells #[.int .i64 po, .int .i64 pf, .int .i64 pc] 59)); have B1 := Lib.hid b1; clear b1 g1)
      | (go_at_call 31; with_reducible refine (HZ.out _).mono ?_; rintro e w2 ⟨rfl, g2⟩; have K2 := Lib.hid ((K1.out.alloc K1.out.size (.cells #[.int .i64 po, .int .i64 pf, .int .i64 pc] 59)).trans (below_of_only g2 (by have := K1.out.size; simp; omega) (by simp))); clear g2))
    go_ret
    exact ⟨rfl, only_far K2.out⟩
  · have h2' : (z % 16 != 0) = true := by simpa using h2
    clear hhas h2
    go_enter Try.func19, Try.ntmps19
    go_wp2_with (first
      | (go_at_call 29; with_reducible refine HF.out.mono ?_; rintro e w1 ⟨rfl, g1⟩; have b1 := below_of_only g1 (B := w.heap.size + 1) (by simp) (by simp); have K1 := Lib.hid (HB0.out.trans (b1.mono (by omega))); obtain ⟨c0, c1, c2, c3, c4⟩ := HJ.out _ (b1.alloc (by have := b1.size; simp at this; omega) (.cells #[.int .i64 po, .int .i64 pf, .int .i64 pc] 59)); have B1 := Lib.hid b1; clear b1 g1)
      | (go_at_call 31; with_reducible refine (HZ.out _).mono ?_; rintro e w2 ⟨rfl, g2⟩; have K2 := Lib.hid ((K1.out.alloc K1.out.size (.cells #[.int .i64 po, .int .i64 pf, .int .i64 pc] 59)).trans (below_of_only g2 (by have := K1.out.size; simp; omega) (by simp))); clear g2))
    go_ret
    exact ⟨rfl, only_far K2.out⟩
  · obtain ⟨q, rfl⟩ : ∃ q, z = q * 16 := ⟨z / 16, by omega⟩
    clear hhas h2
    have h2' : (q * 16 % 16 != 0) = false := by simp
    go_enter Try.func19, Try.ntmps19
    go_wp2_with (first
      | (go_at_call 29; with_reducible refine HF.out.mono ?_; rintro e w1 ⟨rfl, g1⟩; have b1 := below_of_only g1 (B := w.heap.size + 1) (by simp) (by simp); have K1 := Lib.hid (HB0.out.trans (b1.mono (by omega))); obtain ⟨c0, c1, c2, c3, c4⟩ := HJ.out _ (b1.alloc (by have := b1.size; simp at this; omega) (.cells #[.int .i64 po, .int .i64 pf, .int .i64 pc] 59)); have B1 := Lib.hid b1; clear b1 g1)
      | (go_at_call 31; with_reducible refine (HZ.out _).mono ?_; rintro e w2 ⟨rfl, g2⟩; have K2 := Lib.hid ((K1.out.alloc K1.out.size (.cells #[.int .i64 po, .int .i64 pf, .int .i64 pc] 59)).trans (below_of_only g2 (by have := K1.out.size; simp; omega) (by simp))); clear g2))
    go_ret
    exact ⟨rfl, only_far K2.out⟩
  all_goals
    have hz2 : z = 16 ∨ z = 32 := by omega
    have hv := hhas (z / 16)
    rw [h4] at hv
    have HH := Lib.hid hv
    clear hhas hv h4 h2 h1 h3
    rcases hz2 with rfl | rfl
    all_goals
      go_enter Try.func19, Try.ntmps19
      go_wp2_with (first
        | (go_at_call 29; with_reducible refine HF.out.mono ?_; rintro e w1 ⟨rfl, g1⟩; have b1 := below_of_only g1 (B := w.heap.size + 1) (by simp) (by simp); have K1 := Lib.hid (HB0.out.trans (b1.mono (by omega))); obtain ⟨c0, c1, c2, c3, c4⟩ := HJ.out _ (b1.alloc (by have := b1.size; simp at this; omega) (.cells #[.int .i64 po, .int .i64 pf, .int .i64 pc] 59)); have B1 := Lib.hid b1; clear b1 g1)
        | (go_at_call 31; with_reducible refine (HZ.out _).mono ?_; rintro e w2 ⟨rfl, g2⟩; have b2 := below_of_only g2 (B := w1.heap.size + 1) (by simp) (by simp); have K2 := Lib.hid ((K1.out.alloc K1.out.size (.cells #[.int .i64 po, .int .i64 pf, .int .i64 pc] 59)).trans (b2.mono (by have := K1.out.size; omega))); obtain ⟨p0, p1, p2⟩ := HP.out _ _ b2; obtain ⟨c0, c1, c2, c3, c4⟩ := HJ.out _ ((B1.out.alloc (by have := B1.out.size; simp at this; omega) (.cells #[.int .i64 po, .int .i64 pf, .int .i64 pc] 59)).trans (b2.mono (by have := B1.out.size; simp at this; omega))); clear g2 b2)
        | (go_at_call 30; (first | with_reducible refine (HH.out _).mono ?_ | refine (HH.out _).mono ?_); rintro e w3 ⟨rfl, g3⟩; have K3 := Lib.hid (K2.out.trans (below_of_only g3 K2.out.size (by simp))); clear g3))
      go_ret
      exact ⟨rfl, only_far K3.out⟩
end Go.Proofs.Ytlmdnhpdeiekfaa
