/- Start of package disk, by its contract; a disk's own cells are set. -/
import Derived.Test.YtlmdnhpdeiekfaaJ6
namespace Go.Proofs.Ytlmdnhpdeiekfaa
open Go.RowKit Go.Lib Go.Sort
set_option linter.unusedVariables false

section
variable {w w' : World} {b : Nat} {S : Nat → UInt8} {T : Nat → Prt} {bz : Bool} {j : Jb} {st : Int} {v : Value}
theorem Dsk.setBusy (h : Dsk w b S T bz j st v) (x : Bool) : Dsk (w.setCell ⟨b, 8219, none⟩ (.bool x)) b S T x j st v := by
  obtain ⟨cs, h0, h1, h2, h3, h4, h5, h6, h7, h8, h9, h10, h11⟩ := h
  refine ⟨_, h0.put 8219 (.bool x), by simpa using h1, fun k hk => ?_, fun k hk => ?_, ?_, ?_, ?_, ?_, ?_, ?_, ?_, ?_⟩
  · rw [Array.getElem?_setIfInBounds, if_neg (by omega)]; exact h2 k hk
  · rw [Array.getElem?_setIfInBounds, if_neg (by omega), Array.getElem?_setIfInBounds, if_neg (by omega), Array.getElem?_setIfInBounds, if_neg (by omega)]; exact h3 k hk
  all_goals first | (rw [Array.getElem?_setIfInBounds, if_neg (by omega)]; assumption) | (rw [Array.getElem?_setIfInBounds, if_pos rfl, if_pos (by omega)])
theorem Dsk.setJ0 (h : Dsk w b S T bz j st v) (x : Int) : Dsk (w.setCell ⟨b, 8220, none⟩ (.int .i64 x)) b S T bz (x, j.2.1, j.2.2.1, j.2.2.2.1, j.2.2.2.2) st v := by
  obtain ⟨cs, h0, h1, h2, h3, h4, h5, h6, h7, h8, h9, h10, h11⟩ := h
  refine ⟨_, h0.put 8220 (.int .i64 x), by simpa using h1, fun k hk => ?_, fun k hk => ?_, ?_, ?_, ?_, ?_, ?_, ?_, ?_, ?_⟩
  · rw [Array.getElem?_setIfInBounds, if_neg (by omega)]; exact h2 k hk
  · rw [Array.getElem?_setIfInBounds, if_neg (by omega), Array.getElem?_setIfInBounds, if_neg (by omega), Array.getElem?_setIfInBounds, if_neg (by omega)]; exact h3 k hk
  all_goals first | (rw [Array.getElem?_setIfInBounds, if_neg (by omega)]; assumption) | (rw [Array.getElem?_setIfInBounds, if_pos rfl, if_pos (by omega)])
theorem Dsk.setJ1 (h : Dsk w b S T bz j st v) (x : Int) : Dsk (w.setCell ⟨b, 8221, none⟩ (.int .i64 x)) b S T bz (j.1, x, j.2.2.1, j.2.2.2.1, j.2.2.2.2) st v := by
  obtain ⟨cs, h0, h1, h2, h3, h4, h5, h6, h7, h8, h9, h10, h11⟩ := h
  refine ⟨_, h0.put 8221 (.int .i64 x), by simpa using h1, fun k hk => ?_, fun k hk => ?_, ?_, ?_, ?_, ?_, ?_, ?_, ?_, ?_⟩
  · rw [Array.getElem?_setIfInBounds, if_neg (by omega)]; exact h2 k hk
  · rw [Array.getElem?_setIfInBounds, if_neg (by omega), Array.getElem?_setIfInBounds, if_neg (by omega), Array.getElem?_setIfInBounds, if_neg (by omega)]; exact h3 k hk
  all_goals first | (rw [Array.getElem?_setIfInBounds, if_neg (by omega)]; assumption) | (rw [Array.getElem?_setIfInBounds, if_pos rfl, if_pos (by omega)])
theorem Dsk.setJ2 (h : Dsk w b S T bz j st v) (x : Int) : Dsk (w.setCell ⟨b, 8222, none⟩ (.int .i64 x)) b S T bz (j.1, j.2.1, x, j.2.2.2.1, j.2.2.2.2) st v := by
  obtain ⟨cs, h0, h1, h2, h3, h4, h5, h6, h7, h8, h9, h10, h11⟩ := h
  refine ⟨_, h0.put 8222 (.int .i64 x), by simpa using h1, fun k hk => ?_, fun k hk => ?_, ?_, ?_, ?_, ?_, ?_, ?_, ?_, ?_⟩
  · rw [Array.getElem?_setIfInBounds, if_neg (by omega)]; exact h2 k hk
  · rw [Array.getElem?_setIfInBounds, if_neg (by omega), Array.getElem?_setIfInBounds, if_neg (by omega), Array.getElem?_setIfInBounds, if_neg (by omega)]; exact h3 k hk
  all_goals first | (rw [Array.getElem?_setIfInBounds, if_neg (by omega)]; assumption) | (rw [Array.getElem?_setIfInBounds, if_pos rfl, if_pos (by omega)])
theorem Dsk.setJ3 (h : Dsk w b S T bz j st v) (x : Bool) : Dsk (w.setCell ⟨b, 8223, none⟩ (.bool x)) b S T bz (j.1, j.2.1, j.2.2.1, x, j.2.2.2.2) st v := by
  obtain ⟨cs, h0, h1, h2, h3, h4, h5, h6, h7, h8, h9, h10, h11⟩ := h
  refine ⟨_, h0.put 8223 (.bool x), by simpa using h1, fun k hk => ?_, fun k hk => ?_, ?_, ?_, ?_, ?_, ?_, ?_, ?_, ?_⟩
  · rw [Array.getElem?_setIfInBounds, if_neg (by omega)]; exact h2 k hk
  · rw [Array.getElem?_setIfInBounds, if_neg (by omega), Array.getElem?_setIfInBounds, if_neg (by omega), Array.getElem?_setIfInBounds, if_neg (by omega)]; exact h3 k hk
  all_goals first | (rw [Array.getElem?_setIfInBounds, if_neg (by omega)]; assumption) | (rw [Array.getElem?_setIfInBounds, if_pos rfl, if_pos (by omega)])
theorem Dsk.setJ4 (h : Dsk w b S T bz j st v) (x : ByteArray) : Dsk (w.setCell ⟨b, 8224, none⟩ (.string x)) b S T bz (j.1, j.2.1, j.2.2.1, j.2.2.2.1, x) st v := by
  obtain ⟨cs, h0, h1, h2, h3, h4, h5, h6, h7, h8, h9, h10, h11⟩ := h
  refine ⟨_, h0.put 8224 (.string x), by simpa using h1, fun k hk => ?_, fun k hk => ?_, ?_, ?_, ?_, ?_, ?_, ?_, ?_, ?_⟩
  · rw [Array.getElem?_setIfInBounds, if_neg (by omega)]; exact h2 k hk
  · rw [Array.getElem?_setIfInBounds, if_neg (by omega), Array.getElem?_setIfInBounds, if_neg (by omega), Array.getElem?_setIfInBounds, if_neg (by omega)]; exact h3 k hk
  all_goals first | (rw [Array.getElem?_setIfInBounds, if_neg (by omega)]; assumption) | (rw [Array.getElem?_setIfInBounds, if_pos rfl, if_pos (by omega)])
theorem Dsk.setStart (h : Dsk w b S T bz j st v) (x : Int) : Dsk (w.setCell ⟨b, 8225, none⟩ (.int .i64 x)) b S T bz j x v := by
  obtain ⟨cs, h0, h1, h2, h3, h4, h5, h6, h7, h8, h9, h10, h11⟩ := h
  refine ⟨_, h0.put 8225 (.int .i64 x), by simpa using h1, fun k hk => ?_, fun k hk => ?_, ?_, ?_, ?_, ?_, ?_, ?_, ?_, ?_⟩
  · rw [Array.getElem?_setIfInBounds, if_neg (by omega)]; exact h2 k hk
  · rw [Array.getElem?_setIfInBounds, if_neg (by omega), Array.getElem?_setIfInBounds, if_neg (by omega), Array.getElem?_setIfInBounds, if_neg (by omega)]; exact h3 k hk
  all_goals first | (rw [Array.getElem?_setIfInBounds, if_neg (by omega)]; assumption) | (rw [Array.getElem?_setIfInBounds, if_pos rfl, if_pos (by omega)])

/-- Busy, job and start are set, in the text's order. -/
theorem Dsk.setAll (h : Dsk w b S T bz j st v) (x1 : Bool) (x : Jb) (x2 : Int) : Dsk (((((((w.setCell ⟨b, 8219, none⟩ (.bool x1)).setCell ⟨b, 8220, none⟩ (.int .i64 x.1)).setCell ⟨b, 8221, none⟩ (.int .i64 x.2.1)).setCell ⟨b, 8222, none⟩ (.int .i64 x.2.2.1)).setCell ⟨b, 8223, none⟩ (.bool x.2.2.2.1)).setCell ⟨b, 8224, none⟩ (.string x.2.2.2.2)).setCell ⟨b, 8225, none⟩ (.int .i64 x2)) b S T x1 x x2 v :=
  ((((((h.setBusy x1).setJ0 x.1).setJ1 x.2.1).setJ2 x.2.2.1).setJ3 x.2.2.2.1).setJ4 x.2.2.2.2).setStart x2
theorem only_seven (w : World) (b : Nat) (v1 v2 v3 v4 v5 v6 v7 : Value) : w.grownBy (((((((w.setCell ⟨b, 8219, none⟩ v1).setCell ⟨b, 8220, none⟩ v2).setCell ⟨b, 8221, none⟩ v3).setCell ⟨b, 8222, none⟩ v4).setCell ⟨b, 8223, none⟩ v5).setCell ⟨b, 8224, none⟩ v6).setCell ⟨b, 8225, none⟩ v7) (some b) :=
  only_put (only_put (only_put (only_put (only_put (only_put (only_put (only_refl _ _) _ _) _ _) _ _) _ _) _ _) _ _) _ _

/-- What Start answers. -/
def startV (T : Nat → Prt) (bz : Bool) (tick : Int) (x : Jb) : Int := if tick < 0 ∨ 2147483647 < tick then 2 else if bz then 13 else askD T x
theorem start_nil (tick : Int) (x : Jb) (w : World) : Calls Try.prog 13 #[.pointer none, .int .i64 tick, jbv x] w fun e w' => e = .returned (.int .i64 1) ∧ w.grownBy w' none := by
  obtain ⟨o, s, n, wr, t⟩ := x
  go_enter Try.func13, Try.ntmps13
  go_wp2
  go_ret
  exact ⟨rfl, only_alloc (only_refl _ _) _⟩
theorem start_bad (h : Dsk w b S T bz j st v) (hT : ∀ k, k < 9 → Within (T k)) (tick : Int) (x : Jb) (hx : FitJ x) (hc : startV T bz tick x ≠ 0) : Calls Try.prog 13 #[.pointer (some ⟨b, 0, none⟩), .int .i64 tick, jbv x] w fun e w' => e = .returned (.int .i64 (startV T bz tick x)) ∧ w.grownBy w' none := by
  have c0 := h.busy
  have hd := h.grown (only_alloc (only_refl w none) (.cells #[.int .i64 x.1, .int .i64 x.2.1, .int .i64 x.2.2.1, .bool x.2.2.2.1, .string x.2.2.2.2] 36))
  have HA := Lib.hid (ask_any hd hT x hx)
  have d0 := hd.busy
  have HB0 : Hid (w.grownBy (w.alloc (.cells #[.int .i64 x.1, .int .i64 x.2.1, .int .i64 x.2.2.1, .bool x.2.2.2.1, .string x.2.2.2.2] 36)) none) := Lib.hid (only_alloc (only_refl w none) _)
  unfold startV at hc ⊢
  by_cases h1 : tick < 0
  · rw [if_pos (.inl h1)]
    obtain ⟨o, s, n, wr, t⟩ := x
    clear h hd hc
    go_enter Try.func13, Try.ntmps13
    go_wp2
    go_ret
    exact ⟨rfl, HB0.out⟩
  · by_cases h2 : 2147483647 < tick
    · rw [if_pos (.inr h2)]
      obtain ⟨o, s, n, wr, t⟩ := x
      clear h hd hc
      go_enter Try.func13, Try.ntmps13
      go_wp2
      go_ret
      exact ⟨rfl, HB0.out⟩
    · rw [if_neg (by omega)] at hc ⊢
      cases bz with
      | true =>
        simp only [if_true]
        obtain ⟨o, s, n, wr, t⟩ := x
        clear h hd hc
        go_enter Try.func13, Try.ntmps13
        go_wp2
        go_ret
        exact ⟨rfl, HB0.out⟩
      | false =>
        simp only [if_false, Bool.false_eq_true] at hc ⊢
        obtain ⟨o, s, n, wr, t⟩ := x
        generalize askD T (o, s, n, wr, t) = c at HA hc ⊢
        have hc' : (c == 0) = false := beq_eq_false_iff_ne.2 hc
        clear h hd hc
        go_enter Try.func13, Try.ntmps13
        go_wp2_with (go_at_call 19; with_reducible refine HA.out.mono ?_; rintro e w1 ⟨rfl, g1⟩; have G1 := Lib.hid (only_trans HB0.out g1); clear g1)
        go_ret
        exact ⟨rfl, G1.out⟩
theorem start_ok (h : Dsk w b S T bz j st v) (hT : ∀ k, k < 9 → Within (T k)) (tick : Int) (x : Jb) (hx : FitJ x) (hc : startV T bz tick x = 0) : Calls Try.prog 13 #[.pointer (some ⟨b, 0, none⟩), .int .i64 tick, jbv x] w fun e w' => e = .returned (.int .i64 0) ∧ Dsk w' b S T true x tick v ∧ w.grownBy w' (some b) := by
  have hd := h.grown (only_alloc (only_refl w none) (.cells #[.int .i64 x.1, .int .i64 x.2.1, .int .i64 x.2.2.1, .bool x.2.2.2.1, .string x.2.2.2.2] 36))
  have ha := ask_any hd hT x hx
  have d0 := hd.busy
  have hb0 : w.grownBy (w.alloc (.cells #[.int .i64 x.1, .int .i64 x.2.1, .int .i64 x.2.2.1, .bool x.2.2.2.1, .string x.2.2.2.2] 36)) none := only_alloc (only_refl w none) _
  have hlt := h.lt
  unfold startV at hc
  by_cases h1 : tick < 0 ∨ 2147483647 < tick
  · rw [if_pos h1] at hc
    cases hc
  · rw [if_neg h1] at hc
    cases bz with
    | true => simp at hc
    | false =>
      simp only [if_false, Bool.false_eq_true] at hc
      rw [hc] at ha
      have t0 : ¬ tick < 0 := by omega
      have t1 : ¬ 2147483647 < tick := by omega
      have HA := Lib.hid ha
      have HD := Lib.hid hd
      have HB0 := Lib.hid hb0
      have NB := Blk.new w 36 #[.int .i64 x.1, .int .i64 x.2.1, .int .i64 x.2.2.1, .bool x.2.2.2.1, .string x.2.2.2.2]
      have HNB := Lib.hid NB
      obtain ⟨o, s, n, wr, t⟩ := x
      clear h hd hc h1 ha hb0 hT hx NB
      go_enter Try.func13, Try.ntmps13
      go_wp2_with (go_at_call 19; with_reducible refine HA.out.mono ?_; rintro e w1 ⟨rfl, g1⟩; have D1 := Lib.hid (HD.out.grown g1); have X1 := (HNB.out.only g1 (by simp)); have c0 := X1.cell 0; have c1 := X1.cell 1; have c2 := X1.cell 2; have c3 := X1.cell 3; have c4 := X1.cell 4; simp at c0 c1 c2 c3 c4; have G1 := Lib.hid (only_trans HB0.out g1); clear g1 X1)
      have f0 := D1.out.free 8219
      have f1 := D1.out.free 8220
      have f2 := D1.out.free 8221
      have f3 := D1.out.free 8222
      have f4 := D1.out.free 8223
      have f5 := D1.out.free 8224
      have f6 := D1.out.free 8225
      have b0 := D1.out.busy
      obtain ⟨b1, b2, b3, b4, b5⟩ := D1.out.job
      have b6 := D1.out.start
      have hbx : ¬ w.heap.size = b := by omega
      have hbx2 : ¬ b = w.heap.size := by omega
      go_region
      all_goals
        go_wp2
        go_ret
        exact ⟨rfl, (D1.out.setAll true (o, s, n, wr, t) tick).grown (only_drewN (only_refl _ none) 1), only_trans (only_any G1.out _) (only_drewN (only_seven w1 b _ _ _ _ _ _ _) 1)⟩
end
end Go.Proofs.Ytlmdnhpdeiekfaa
