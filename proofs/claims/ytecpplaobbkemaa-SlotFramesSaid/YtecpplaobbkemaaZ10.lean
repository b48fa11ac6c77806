import Derived.Test.YtecpplaobbkemaaZ09
import Derived.ShutString
import Derived.ChangeOld
import Derived.Lib.SmallJoins
set_option linter.all false
/- The law of frames, walked. -/
namespace Go.Proofs.Ytecpplaobbkemaa
open Go.RowKit Go.Lib Go.Sort Go.ChangeShapes Go.WideShapes Go.ChangeAt Go.Deep
set_option linter.unusedVariables false

/-- A span that came in by value. -/
theorem open_span17 {H : Type} {enc : TypeId × Value → H} {W : World} {base b0 : Nat} {spare : Nat → Bool} {held : Bool} {r : Reach} {v : Value} {d : DataW H} {p : List MemPlace}
    (hv : Value.okWide Try.prog W r b0 45 v) (h : DataW.Trod enc Try.prog W base spare held 45 v d p) : ∃ s : Int × Int, v = spv s ∧ fitI s.1 ∧ fitI s.2 := by
  obtain ⟨cs, rfl, hsz⟩ := okWide_struct Try.underlying45 hv
  obtain ⟨c0, c1, rfl⟩ : ∃ c0 c1, cs = #[c0, c1] := by
    have hz : cs.size = 2 := hsz.trans (by kernel_rfl)
    obtain ⟨l⟩ := cs
    match l, hz with
    | [c0, c1], _ => exact ⟨c0, c1, rfl⟩
  obtain ⟨fuel, hf⟩ := h
  replace hf : DataW.trod enc Try.prog W base spare held fuel 45 [c0, c1] = some (d, p) := hf
  obtain ⟨n0, y0, h0⟩ := open_fieldc Try.underlying45 (by kernel_rfl) hf (i := 0) rfl (c := c0) rfl
  obtain ⟨n1, y1, h1⟩ := open_fieldc Try.underlying45 (by kernel_rfl) hf (i := 1) rfl (c := c1) rfl
  obtain ⟨a, e0, _, w0⟩ := DataW.trod_int Try.underlying3 h0
  obtain ⟨b, e1, _, w1⟩ := DataW.trod_int Try.underlying3 h1
  injection e0 with e0 _
  injection e1 with e1 _
  subst e0 e1
  exact ⟨(a, b), rfl, fitI_of w0, fitI_of w1⟩
/-- How many units begin, tick by tick. -/
def wtN (f : Int) (n : Nat) (d : Nat → W3) (o a : Int) : Nat → Int
  | 0 => 0
  | k + 1 => wtN f n d o a k + if begB f n d (a + k) o then 1 else 0
theorem wtN_le (f : Int) (n : Nat) (d : Nat → W3) (o a : Int) : ∀ k, 0 ≤ wtN f n d o a k ∧ wtN f n d o a k ≤ k
  | 0 => by simp [wtN]
  | k + 1 => by
    have := wtN_le f n d o a k
    rw [wtN]
    split <;> omega
theorem meet_one {f x : Int} (h0 : 0 ≤ x) (h1 : x < f) : meetsB (x, x + 1) (0, f) = true ∧ meetV (x, x + 1) (0, f) = (x, x + 1) := by
  have hm : meetsB (x, x + 1) (0, f) = true := by
    unfold meetsB isB holdsB
    simp
    omega
  refine ⟨hm, ?_⟩
  unfold meetV
  rw [if_pos hm]
  unfold bothOf
  simp only
  rw [if_neg (by omega), if_neg (by omega)]
theorem countV_cnt {s : Int × Int} {f x : Int} (hr : rightB f = true) (hs : isB s = true) (h2 : s.2 ≤ 2147483647) (h0 : 0 ≤ x) (h1 : x < f) : countV s (x, x + 1) f = cntT (x, x + 1) f s.1 (s.2 - s.1).toNat := by
  obtain ⟨f1, f2⟩ := (rightB_iff f).1 hr
  obtain ⟨m1, m2⟩ := meet_one h0 h1
  have hs' : 0 ≤ s.1 ∧ s.1 < s.2 := by simpa [isB] using hs
  unfold countV
  rw [if_pos ⟨hr, hs, h2, m1⟩, m2, cntT_is (by omega) h0 (by show x < x + 1; omega) (by show x + 1 ≤ f; omega)]
  rw [show s.1 + (((s.2 - s.1).toNat : Nat) : Int) = s.2 by omega]
theorem countV_none {s p : Int × Int} {f : Int} (h : ¬ (isB s = true ∧ s.2 ≤ 2147483647)) : countV s p f = 0 := by
  unfold countV
  rw [if_neg (fun k => h ⟨k.2.1, k.2.2.1⟩)]
theorem smC_none {s : Int × Int} {f : Int} (h : ¬ (isB s = true ∧ s.2 ≤ 2147483647)) : ∀ l, smC s f l = 0
  | [] => rfl
  | x :: l => by rw [smC, countV_none h, smC_none h l]; rfl
/-- The sum of what is counted for each. -/
def smT (f a : Int) (k : Nat) : List Int → Int
  | [] => 0
  | x :: l => cntT (x, x + 1) f a k + smT f a k l
theorem smC_smT {s : Int × Int} {f : Int} (hr : rightB f = true) (hs : isB s = true) (h2 : s.2 ≤ 2147483647) : ∀ l : List Int, (∀ x ∈ l, 0 ≤ x ∧ x < f) → smC s f l = smT f s.1 (s.2 - s.1).toNat l
  | [], _ => rfl
  | x :: l, h => by
    have hx := h x (by simp)
    rw [smC, smT, countV_cnt hr hs h2 hx.1 hx.2, smC_smT hr hs h2 l (fun y hy => h y (by simp [hy]))]
theorem smT_zero (f a : Int) : ∀ l, smT f a 0 l = 0
  | [] => rfl
  | x :: l => by rw [smT, smT_zero f a l]; simp [cntT]
theorem smT_step (f a : Int) (k : Nat) : ∀ l : List Int, l.Pairwise (· < ·) → (∀ x ∈ l, 0 ≤ x) → smT f a (k + 1) l = smT f a k l + if (a + k) % f ∈ l then 1 else 0
  | [], _, _ => by simp [smT]
  | x :: l, hp, h0 => by
    rw [List.pairwise_cons] at hp
    rw [smT, smT, smT_step f a k l hp.2 (fun y hy => h0 y (by simp [hy])), cntT]
    have hx := h0 x (by simp)
    by_cases e : (a + k) % f = x
    · have hh : holdsB (x, x + 1) ((a + k) % f) = true := by unfold holdsB; simp; omega
      have hn : ¬ (a + k) % f ∈ l := fun k2 => by have := hp.1 _ k2; omega
      rw [if_pos hh, if_neg hn, if_pos (by rw [e]; simp)]
      omega
    · have hh : ¬ holdsB (x, x + 1) ((a + k) % f) = true := by unfold holdsB; simp; omega
      rw [if_neg hh]
      by_cases hl : (a + k) % f ∈ l
      · rw [if_pos hl, if_pos (by simp [hl])]
        omega
      · rw [if_neg hl, if_neg (by simp [hl, e])]
        omega
theorem smT_wt {F n : Nat} {d : Nat → W3} {o a : Int} (hF : 1 ≤ F) (ha : 0 ≤ a) : ∀ k, smT F a k (rfL F n d o F) = wtN F n d o a k
  | 0 => smT_zero _ _ _
  | k + 1 => by
    have hb0 := Int.emod_nonneg (a + k) (show (F : Int) ≠ 0 by omega)
    have hb1 := Int.emod_lt_of_pos (a + k) (show (0 : Int) < F by omega)
    rw [smT_step _ _ _ _ (rfL_up _ _ _ _ _) (fun x hx => (mem_rfL.1 hx).1), smT_wt hF ha k, wtN, begB_mod (t := a + k) (by omega) (by omega)]
    congr 1
    by_cases e : begB F n d ((a + k) % F) o = true
    · rw [if_pos e, if_pos (mem_rfL.2 ⟨hb0, hb1, e⟩)]
    · rw [if_neg e, if_neg (fun k2 => e (mem_rfL.1 k2).2.2)]
theorem ahead_frame {t f : Int} {p : Int × Int} (hf : 0 < f) : aheadV (t + f) p f - aheadV t p f = p.2 - p.1 := by
  unfold aheadV
  rw [show (t + f) % f = t % f by simp, Int.add_ediv_of_dvd_right (Int.dvd_refl f), Int.ediv_self (by omega), Int.add_mul]
  omega
theorem smC_frame {f a : Int} (hr : rightB f = true) (h0 : 0 ≤ a) (h2 : a + f ≤ 2147483647) : ∀ l : List Int, (∀ x ∈ l, 0 ≤ x ∧ x < f) → smC (a, a + f) f l = l.length
  | [], _ => rfl
  | x :: l, h => by
    obtain ⟨f1, f2⟩ := (rightB_iff f).1 hr
    have hx := h x (by simp)
    obtain ⟨m1, m2⟩ := meet_one hx.1 hx.2
    have hc : countV (a, a + f) (x, x + 1) f = 1 := by
      unfold countV
      rw [if_pos ⟨hr, by simp [isB]; omega, h2, m1⟩, m2]
      have := ahead_frame (t := a) (f := f) (p := (x, x + 1)) (by omega)
      simp only at this ⊢
      omega
    rw [smC, hc, smC_frame hr h0 h2 l (fun y hy => h y (by simp [hy]))]
    simp
    omega
theorem smC_pos {s : Int × Int} {F n : Nat} {d : Nat → W3} {o : Int} (hr : rightB F = true) (hs : isB s = true) (h2 : s.2 ≤ 2147483647) : smC s F (rfL F n d o F) = wtN F n d o s.1 (s.2 - s.1).toNat := by
  obtain ⟨f1, f2⟩ := (rightB_iff F).1 hr
  have hs' : 0 ≤ s.1 ∧ s.1 < s.2 := by simpa [isB] using hs
  rw [smC_smT hr hs h2 _ (fun x hx => ⟨(mem_rfL.1 hx).1, (mem_rfL.1 hx).2.1⟩), smT_wt (by omega) hs'.1]
end Go.Proofs.Ytecpplaobbkemaa

/- The law of frames, walked. -/
namespace Go.Proofs.Ytecpplaobbkemaa
open Go.RowKit Go.Lib Go.Sort
set_option linter.unusedVariables false

theorem spc {W : World} {g : Nat} {a b : Int} (h : Blk W g 45 #[.int .i64 a, .int .i64 b]) : W.cell? ⟨g, 0, none⟩ = some (.int .i64 a) ∧ W.cell? ⟨g, 1, none⟩ = some (.int .i64 b) := ⟨h.cell 0, h.cell 1⟩
theorem belw {w w' : World} (g : w.grownBy w' none) : Below w.heap.size w w' := below_of_only g (Nat.le_refl _) (by simp)
set_option maxRecDepth 20000 in
set_option maxHeartbeats 3200000 in
theorem slotframes_walk (f : Int) (A : Option Addr) (len cap : Nat) (d : Nat → W3) (o : Int) (s : Int × Int) (w : World) (hf : fitI f) (hst : Row3 w A len d) (hfit : ∀ i, i < len → FitW3 (d i)) (hlc : len ≤ cap) (hcm : cap ≤ 9223372036854775807) (ho : fitI o) (hs : fitI s.1 ∧ fitI s.2) : Calls Try.prog 6 #[.int .i64 f, .slice A len cap, .int .i64 o, spv s] w fun e w' => e = .returned (.bool true) ∧ Below w.heap.size w w' := by
  have HL := Lib.hid (fun W => live17_any W)
  obtain ⟨n, hn⟩ : ∃ n, n = min len 32 := ⟨_, rfl⟩
  have hn32 : n ≤ 32 := by omega
  obtain ⟨W1, hW1, g1, hp1⟩ := box1 w 45 #[.int .i64 s.1, .int .i64 s.2]
  have G1 := Lib.hid g1
  have P1 := Lib.hid hp1
  have hst1 := hst.grown g1
  have hr : Row3 W1 A n d := hst1.cut n (by omega)
  have HM := Lib.hid (made17_any f A len cap d W1 hst1 hlc hcm n hn)
  have HR := Lib.hid hr
  clear g1 hp1
  by_cases hE : f ≤ 200 ∧ tabE f n d = 0
  case neg =>
    have HMN := Lib.hid (HM.out.mono fun e w' hv => (show (e = .returned (.tuple #[.pointer none, .slice A n cap]) ∧ Below W1.heap.size W1 w') from ⟨by
      rcases hv.2 with ⟨a, b, _⟩ | ⟨_, a⟩
      · exact absurd ⟨a, b⟩ hE
      · exact a, hv.1⟩))
    clear hst hst1 hfit hr hE HM hn
    obtain ⟨sa, sb⟩ := s
    go_enter Try.func6, Try.ntmps6
    go_upto_region 1 with (fail)
    rw [← hW1]
    clear hW1
    go_wp2_with (first
      | (go_at_call 11; (with_reducible refine HMN.out.mono ?_); rintro e w1 ⟨rfl, b1⟩; have G2 := Lib.hid (only_trans G1.out (only_far b1)); clear b1)
      | (go_at_call 10; (with_reducible refine (HL.out _).mono ?_); rintro e w2 ⟨rfl, b2⟩; have G3 := Lib.hid (only_trans G2.out (only_far b2)); clear b2))
    go_ret
    exact ⟨rfl, belw G3.out⟩
  obtain ⟨h200, hz⟩ := hE
  have HMY := Lib.hid (HM.out.mono fun e w' hv => (show (∃ b, e = .returned (.tuple #[.pointer (some ⟨b, 0, none⟩), .slice A n cap]) ∧ Tb17 w' b f n d ∧ Below W1.heap.size W1 w') from by
    rcases hv.2 with ⟨_, _, b, e1, e2⟩ | ⟨a, _⟩
    · exact ⟨b, e1, e2, hv.1⟩
    · exact absurd ⟨h200, hz⟩ a))
  obtain ⟨hrb, hnz⟩ := tabE_zero.1 hz
  have hg := good_of hnz
  obtain ⟨f1, f2⟩ := (rightB_iff f).1 hrb
  obtain ⟨F, rfl⟩ : ∃ F : Nat, f = (F : Int) := ⟨f.toNat, by omega⟩
  have HB1 := Lib.hid (fun (W : World) (b : Nat) (h : Tb17 W b F n d) (s : Int × Int) => (show Calls Try.prog 19 #[.pointer (some ⟨b, 0, none⟩), spv s, .int .i64 o] W (fun e w' => e = .returned (.int .i64 (smC s F (rfL F n d o F))) ∧ W.grownBy w' none) from by
    obtain ⟨A', c', d', h1, h2, h3, h4⟩ := h
    rw [← starts_same hg h3 h4 o]
    exact sbetween_any b F A' n c' d' s o W h1 hrb h2 (by omega)))
  have HU1 := Lib.hid (fun (W : World) (b : Nat) (h : Tb17 W b F n d) => (show Calls Try.prog 16 #[.pointer (some ⟨b, 0, none⟩), .int .i64 o] W (fun e w' => e = .returned (.int .i64 ((rfL F n d o F).length : Int)) ∧ W.grownBy w' none) from by
    obtain ⟨A', c', d', h1, h2, h3, h4⟩ := h
    rw [← starts_same hg h3 h4 o]
    exact units_any b F A' n c' d' o W h1 h2 f2 (by omega)))
  have HBG := Lib.hid (fun (W : World) (h : Row3 W A n d) (t : Int) (h2 : t ≤ 9223372036854775807) => beg17_any F A n cap d t o W h hrb hg (by omega) h2)
  have HI := Lib.hid (fun W => ris_any s W)
  by_cases hgood : isB s = true ∧ s.2 ≤ 2147483647
  case neg =>
    have HB := Lib.hid (fun (W : World) (b : Nat) (h : Tb17 W b F n d) => (show Calls Try.prog 19 #[.pointer (some ⟨b, 0, none⟩), spv s, .int .i64 o] W (fun e w' => e = .returned (.int .i64 0) ∧ W.grownBy w' none) from by
      have := HB1.out W b h s
      rw [smC_none hgood] at this
      exact this))
    have key : isB s = false ∨ (isB s = true ∧ 2147483647 < s.2) := by
      cases hb : isB s with
      | false => exact .inl rfl
      | true => exact .inr ⟨rfl, by
          have : ¬ s.2 ≤ 2147483647 := fun k => hgood ⟨hb, k⟩
          omega⟩
    clear hst hst1 hfit hr hz hgood HM hn HB1 HU1 HBG hrb hnz hg hf ho
    obtain ⟨sa, sb⟩ := s
    simp only at key hs
    generalize isB (sa, sb) = v at HI key
    rcases key with rfl | ⟨rfl, q1⟩
    all_goals
      go_enter Try.func6, Try.ntmps6
      go_upto_region 1 with (fail)
      rw [← hW1]
      clear hW1
      go_wp2_with (first
        | (go_at_call 11; (with_reducible refine HMY.out.mono ?_); rintro e w1 ⟨b, rfl, tb1, b1⟩; have G2 := Lib.hid (only_trans G1.out (only_far b1)); have P2 := Lib.hid (P1.out.only (only_far b1) (by simp)); obtain ⟨c2, e2⟩ := spc P2.out; have T1 := Lib.hid tb1; clear b1 tb1)
        | (go_at_call 19; (with_reducible refine (HB.out _ _ T1.out).mono ?_); rintro e w2 ⟨rfl, g2⟩; have G3 := Lib.hid (only_trans G2.out g2); have P3 := Lib.hid (P2.out.only g2 (by simp)); obtain ⟨c3, e3⟩ := spc P3.out; clear g2)
        | (go_at_call 20; (with_reducible refine (HI.out _).mono ?_); rintro e w3 ⟨rfl, g3⟩; have G4 := Lib.hid (only_trans G3.out g3); have P4 := Lib.hid (P3.out.only g3 (by simp)); obtain ⟨c4, e4⟩ := spc P4.out; clear g3)
        | (go_at_call 10; (with_reducible refine (HL.out _).mono ?_); rintro e w4 ⟨rfl, b4⟩; have G5 := Lib.hid (only_trans G4.out (only_far b4)); clear b4))
      go_ret
      exact ⟨by first | rfl | simp, belw G5.out⟩
  obtain ⟨hb1, hb2⟩ := hgood
  have hsab : 0 ≤ s.1 ∧ s.1 < s.2 := by simpa [isB] using hb1
  obtain ⟨K, hK⟩ : ∃ K, K = (s.2 - s.1).toNat := ⟨_, rfl⟩
  obtain ⟨M, hM⟩ : ∃ M, wtN F n d o s.1 K = M := ⟨_, rfl⟩
  have hMle := wtN_le F n d o s.1 K
  rw [hM] at hMle
  have HB := Lib.hid (fun (W : World) (b : Nat) (h : Tb17 W b F n d) => (show Calls Try.prog 19 #[.pointer (some ⟨b, 0, none⟩), spv s, .int .i64 o] W (fun e w' => e = .returned (.int .i64 M) ∧ W.grownBy w' none) from by
    have := HB1.out W b h s
    rw [smC_pos hrb hb1 hb2, ← hK, hM] at this
    exact this))
  rw [hb1] at HI
  by_cases h600 : 600 < s.2 - s.1
  · clear hst hst1 hfit hr hz HM hn HB1 HU1 HBG hrb hnz hg hf ho hb1 hM
    obtain ⟨sa, sb⟩ := s
    simp only at hs h600 hb2 hsab hK
    have q1 : ¬ 2147483647 < sb := by omega
    have q2 : 0 ≤ M := hMle.1
    have u1 : IntKind.i64.wrap (sb - sa) = sb - sa := by rw [IntKind.wrap_i64]; omega
    go_enter Try.func6, Try.ntmps6
    go_upto_region 1 with (fail)
    rw [← hW1]
    clear hW1
    go_wp2_with (first
      | (go_at_call 11; (with_reducible refine HMY.out.mono ?_); rintro e w1 ⟨b, rfl, tb1, b1⟩; have G2 := Lib.hid (only_trans G1.out (only_far b1)); have P2 := Lib.hid (P1.out.only (only_far b1) (by simp)); obtain ⟨c2, e2⟩ := spc P2.out; have T1 := Lib.hid tb1; clear b1 tb1)
      | (go_at_call 19; (with_reducible refine (HB.out _ _ T1.out).mono ?_); rintro e w2 ⟨rfl, g2⟩; have G3 := Lib.hid (only_trans G2.out g2); have P3 := Lib.hid (P2.out.only g2 (by simp)); obtain ⟨c3, e3⟩ := spc P3.out; clear g2)
      | (go_at_call 20; (with_reducible refine (HI.out _).mono ?_); rintro e w3 ⟨rfl, g3⟩; have G4 := Lib.hid (only_trans G3.out g3); have P4 := Lib.hid (P3.out.only g3 (by simp)); obtain ⟨c4, e4⟩ := spc P4.out; clear g3)
      | (go_at_call 10; (with_reducible refine (HL.out _).mono ?_); rintro e w4 ⟨rfl, b4⟩; have G5 := Lib.hid (only_trans G4.out (only_far b4)); clear b4))
    go_ret
    exact ⟨by first | rfl | simp [q2], belw G5.out⟩
  · obtain ⟨L, hL⟩ : ∃ L, L = rfL F n d o F := ⟨_, rfl⟩
    rw [← hL] at HU1
    have HB2 := Lib.hid (fun (W : World) (b : Nat) (h : Tb17 W b F n d) => (show Calls Try.prog 19 #[.pointer (some ⟨b, 0, none⟩), spv (s.1, s.1 + F), .int .i64 o] W (fun e w' => ∃ r, e = .returned (.int .i64 r) ∧ (s.1 + F ≤ 2147483647 → r = L.length) ∧ W.grownBy w' none) from
      (HB1.out W b h (s.1, s.1 + F)).mono fun e w' ⟨a1, a2⟩ => ⟨_, a1, fun k => by rw [smC_frame hrb hsab.1 k _ (fun x hx => ⟨(mem_rfL.1 hx).1, (mem_rfL.1 hx).2.1⟩), hL], a2⟩))
    have HSTEP := Lib.hid (fun k : Nat => (show wtN F n d o s.1 (k + 1) = wtN F n d o s.1 k + if begB F n d (s.1 + k) o then 1 else 0 from rfl))
    have HWL := Lib.hid (fun k : Nat => wtN_le F n d o s.1 k)
    clear hst hst1 hfit hr hz HM hn HB1 hrb hnz hg hf ho hb1 hL
    obtain ⟨sa, sb⟩ := s
    simp only at hs h600 hb2 hsab hK hM HB2 HSTEP HWL
    generalize L.length = l at *
    have q1 : ¬ 2147483647 < sb := by omega
    have u1 : IntKind.i64.wrap (sb - sa) = sb - sa := by rw [IntKind.wrap_i64]; omega
    have u2 : IntKind.i64.wrap (sa + (F : Int)) = sa + F := by rw [IntKind.wrap_i64]; omega
    go_enter Try.func6, Try.ntmps6
    go_upto_region 1 with (fail)
    rw [← hW1]
    clear hW1
    go_wp2_with (first
      | (go_at_call 11; (with_reducible refine HMY.out.mono ?_); rintro e w1 ⟨b, rfl, tb1, b1⟩; have G2 := Lib.hid (only_trans G1.out (only_far b1)); have R2 := Lib.hid (row_below HR.out b1); have P2 := Lib.hid (P1.out.only (only_far b1) (by simp)); obtain ⟨c2, e2⟩ := spc P2.out; have T1 := Lib.hid tb1; clear b1 tb1)
      | (go_at_call 19; (with_reducible refine (HB.out _ _ T1.out).mono ?_); rintro e w2 ⟨rfl, g2⟩; have G3 := Lib.hid (only_trans G2.out g2); have T2 := Lib.hid (T1.out.grown g2); have R3 := Lib.hid (R2.out.grown g2); have P3 := Lib.hid (P2.out.only g2 (by simp)); obtain ⟨c3, e3⟩ := spc P3.out; clear g2)
      | (go_at_call 20; (with_reducible refine (HI.out _).mono ?_); rintro e w3 ⟨rfl, g3⟩; have G4 := Lib.hid (only_trans G3.out g3); have T3 := Lib.hid (T2.out.grown g3); have R4 := Lib.hid (R3.out.grown g3); have P4 := Lib.hid (P3.out.only g3 (by simp)); obtain ⟨c4, e4⟩ := spc P4.out; clear g3))
    go_loopw [11, 12] (fun x y wr => ∃ (k : Nat), x = .int .i64 (wtN F n d o sa k) ∧ y = .int .i64 (sa + k) ∧ k ≤ K ∧ Hid (w3.grownBy wr none)) (fun _ y _ => (sb - intOf y).toNat)
    case atStart => exact ⟨0, rfl, by simp, by omega, Lib.hid (only_refl _ _)⟩
    case round =>
      obtain ⟨k, rfl, rfl, hk, HG⟩ := hrel
      have P5 := Lib.hid (P4.out.only HG.out (by simp))
      obtain ⟨c5, e5⟩ := spc P5.out
      by_cases hkK : k < K
      · have i1 : sa + (k : Int) < sb := by omega
        have hbg := HBG.out wr (R4.out.grown HG.out) (sa + k) (by omega)
        have hst := HSTEP.out k
        have hwl := HWL.out k
        generalize wtN F n d o sa k = v at hst hwl ⊢
        have u3 : IntKind.i64.wrap (sa + (k : Int) + 1) = sa + k + 1 := by rw [IntKind.wrap_i64]; omega
        have u4 : IntKind.i64.wrap (v + 1) = v + 1 := by rw [IntKind.wrap_i64]; omega
        have hk1 : sa + ((k + 1 : Nat) : Int) = sa + k + 1 := by omega
        generalize begB F n d (sa + k) o = bb at hbg hst
        have HBE := Lib.hid hbg
        have HST := Lib.hid hst
        clear hbg hst
        cases bb with
        | true =>
          go_wp2_with (go_at_call 18; (with_reducible refine HBE.out.mono ?_); rintro e w5 ⟨rfl, g5⟩; have G5 := Lib.hid (only_trans HG.out g5); clear g5)
          go_roundw
          case rel => exact ⟨k + 1, by rw [HST.out]; rfl, by rw [hk1], by omega, G5⟩
          case measure => simp [intOf] <;> omega
        | false =>
          go_wp2_with (go_at_call 18; (with_reducible refine HBE.out.mono ?_); rintro e w5 ⟨rfl, g5⟩; have G5 := Lib.hid (only_trans HG.out g5); clear g5)
          go_roundw
          case rel => exact ⟨k + 1, by rw [HST.out]; simp, by rw [hk1], by omega, G5⟩
          case measure => simp [intOf] <;> omega
      · obtain rfl : k = K := by omega
        have i1 : ¬ sa + (k : Int) < sb := by omega
        rw [hM]
        have T5 := Lib.hid (T3.out.grown HG.out)
        by_cases hF : 2147483647 < sa + (F : Int)
        · go_wp2_with (first
            | (go_at_call 19; (with_reducible refine (HB2.out _ _ T5.out).mono ?_); rintro e w6 ⟨r, rfl, _, g6⟩; have G6 := Lib.hid (only_trans (only_trans G4.out HG.out) g6); have P6 := Lib.hid (P5.out.only g6 (by simp)); obtain ⟨c6, e6⟩ := spc P6.out; clear g6)
            | (go_at_call 10; (with_reducible refine (HL.out _).mono ?_); rintro e w7 ⟨rfl, b7⟩; have G7 := Lib.hid (only_trans G6.out (only_far b7)); have P7 := Lib.hid (P6.out.only (only_far b7) (by simp)); obtain ⟨c7, e7⟩ := spc P7.out; clear b7))
          go_ret
          exact ⟨by first | rfl | simp, belw G7.out⟩
        · have hF2 : sa + (F : Int) ≤ 2147483647 := by omega
          go_wp2_with (first
            | (go_at_call 19; (with_reducible refine (HB2.out _ _ T5.out).mono ?_); rintro e w6 ⟨r, rfl, hr6, g6⟩; obtain rfl := hr6 hF2; have G6 := Lib.hid (only_trans (only_trans G4.out HG.out) g6); have T6 := Lib.hid (T5.out.grown g6); have P6 := Lib.hid (P5.out.only g6 (by simp)); obtain ⟨c6, e6⟩ := spc P6.out; clear g6 hr6)
            | (go_at_call 10; (with_reducible refine (HL.out _).mono ?_); rintro e w7 ⟨rfl, b7⟩; have G7 := Lib.hid (only_trans G6.out (only_far b7)); have T7 := Lib.hid (T6.out.grown (only_far b7)); have P7 := Lib.hid (P6.out.only (only_far b7) (by simp)); obtain ⟨c7, e7⟩ := spc P7.out; clear b7)
            | (go_at_call 16; (with_reducible refine (HU1.out _ _ T7.out).mono ?_); rintro e w8 ⟨rfl, g8⟩; have G8 := Lib.hid (only_trans G7.out g8); clear g8))
          go_ret
          exact ⟨by first | rfl | simp, belw G8.out⟩
end Go.Proofs.Ytecpplaobbkemaa

/- SlotFrames: in each row of as1 many ticks as1 a frame has, just as1 many of an owner's units begin as1 it has, whatever the number of ticks, the slots, the owner and the span. -/
namespace Go.Proofs.Ytecpplaobbkemaa
open Go.RowKit Go.Lib Go.ChangeShapes Go.WideShapes Go.ChangeAt Go.Deep Go.Joins
open Go.ChangeMaps (open_string shut_string)
set_option linter.unusedVariables false

theorem QFP_own : ownKnob Try.prog.godebug = none := by kernel_rfl
theorem QFP_laid : laidOutB Try.prog = true := by kernel_rfl
set_option maxRecDepth 100000 in
theorem QFP_lifted (os : Os) (started : os.Started) (H : Type) (enc : TypeId × Value → H) :
    ReturnsInHanded {} Try.checked os 6 .any (Rows.slotFramesSpec.pre6 enc Try.prog Try.f6 Rows.slotFramesRow.domain false) (Rows.slotFramesSpec.post enc Try.prog Try.f6 false true false false) := by
  refine returnsInHanded_of_change (C := Try.checked) QFP_own started (by kernel_rfl) Try.func6
    (ChangeSpec.witness6 (enc := enc) (C := Try.checked) false ⟨#[], #[.int .i64 0, .slice none 0 0, .int .i64 0, .agg #[.int .i64 0, .int .i64 0]], []⟩ 8 (by kernel_rfl) (by kernel_rfl) (by kernel_rfl) (by kernel_rfl)) ?_
  intro W base args ds gs before hval0 hW hcnd _
  have hval : ∀ (j : Nat) t v, Try.f6.params[j]? = some t → args[j]? = some v → Value.okWide Try.prog W .any base t v := hval0
  have hW' := hW
  obtain ⟨p, q, hA0, hV, rfl, hfz, hnd⟩ := hW
  have hA : DataW.TrodAll enc Try.prog W 0 (fun _ => true) true Try.f6.params.toList args.toList ds p := hA0
  rw [Try.params6] at hA hval
  obtain ⟨v0, vs0, d0, ds0, p0, q0, hargs, rfl, rfl, h0, r0⟩ := trodAll_cons hA
  obtain ⟨v1, vs1, d1, ds1, p1, q1, rfl, rfl, rfl, h1, r1⟩ := trodAll_cons r0
  obtain ⟨v2, vs2, d2, ds2, p2, q2, rfl, rfl, rfl, h2, r2⟩ := trodAll_cons r1
  obtain ⟨v3, vs3, d3, ds3, p3, q3, rfl, rfl, rfl, h3, r3⟩ := trodAll_cons r2
  obtain ⟨rfl, rfl, rfl⟩ := trodAll_nil r3
  obtain rfl : args = #[v0, v1, v2, v3] := by cases args; simp_all
  obtain ⟨rfl, rfl⟩ := trodVars_none hV
  obtain ⟨a0, rfl, rfl, rfl, w0⟩ := open_int Try.underlying3 (hval 0 3 v0 rfl rfl) h0
  obtain ⟨A1, len1, cap1, rfl⟩ := okWide_slice Try.underlying22 (hval 1 22 v1 rfl rfl)
  have k1 := h1
  have lt1 : ∀ x ∈ p1, x.block < W.heap.size := by obtain ⟨m, hm⟩ := k1; exact DataW.trod_lt m _ _ _ hm
  obtain ⟨fuel1, hf1⟩ := h1
  obtain ⟨hlc1, hcm1, D1, hst1, hfit1⟩ := open_slots (by simpa [Value.cells] using hf1)
  obtain ⟨a2, rfl, rfl, rfl, w2⟩ := open_int Try.underlying3 (hval 2 3 v2 rfl rfl) h2
  obtain ⟨D3, rfl, hfit3⟩ := open_span17 (hval 3 45 v3 rfl rfl) h3
  have k3 := h3
  have lt3 : ∀ x ∈ p3, x.block < W.heap.size := by obtain ⟨m, hm⟩ := k3; exact DataW.trod_lt m _ _ _ hm
  clear hA0 hval0
  refine (slotframes_walk a0 A1 len1 cap1 D1 a2 D3 W (fitI_of w0) hst1 hfit1 hlc1 hcm1 (fitI_of w2) hfit3).mono fun e W' ⟨he, bel⟩ => ?_
  subst he
  exact ⟨_, rfl, _, _, _, [], _, [], hW', trodAll_mk1 (shut_bool Try.underlying4 _), (trodAll_cons_mk (shut_int Try.underlying3 w0) (trodAll_cons_mk (Below.trod QFP_laid (by kernel_rfl) (of_decide_eq_true (by kernel_rfl)) k1 bel lt1) (trodAll_cons_mk (shut_int Try.underlying3 w2) (trodAll_cons_mk (Below.trod QFP_laid (by kernel_rfl) (of_decide_eq_true (by kernel_rfl)) k3 bel lt3) trodAll_mk0)))), rfl, bel.frame _, fun h => by cases h⟩

theorem QFP_holds : Rows.SlotFramesSaid :=
  OpenClaim.holds_of_wide 6 Try.f6 rfl rfl rfl rfl rfl rfl rfl ⟨rfl, rfl, rfl, rfl, rfl⟩ rfl rfl rfl rfl rfl (by kernel_rfl) Try.func6 (by kernel_rfl)
    (of_decide_eq_true (by kernel_rfl)) (by unfold Func.isWrapper; first | (rw [if_pos (by decide +kernel)]; kernel_rfl) | (rw [if_neg (by decide +kernel)]; exact ⟨rfl, rfl⟩))
    (fun os started H enc _ => QFP_lifted os started H enc)
#print axioms QFP_holds
end Go.Proofs.Ytecpplaobbkemaa
