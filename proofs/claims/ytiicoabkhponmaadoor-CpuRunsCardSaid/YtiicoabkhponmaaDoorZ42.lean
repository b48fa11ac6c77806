import Derived.Test.YtiicoabkhponmaaDoorZ16
import Derived.Test.YtiicoabkhponmaaDoorZ41
set_option linter.all false
/- What Give and Wake leave; a state stored into a box; only new blocks. -/
namespace Go.Proofs.YtiicoabkhponmaaDoor
open Go.RowKit Go.Lib
set_option linter.unusedVariables false
set_option maxRecDepth 8000

/-- A state with a number given, and one woken. -/
def Cu.gave (a : Cu.Af) (x n : Int) : Cu.Af := if 0 ≤ x ∧ x < 8 then { a with r := Cu.upd a.r x.toNat (n % 65536) } else a
def Cu.woke (a : Cu.Af) : Cu.Af := { a with md := if a.md = 1 then 0 else a.md }
theorem Cu.gave_any (a : Cu.Af) (x n : Int) (W : World) : Calls Tryd.prog 17 #[.agg #[.int .i64 (a).pc, .int .i64 ((a).r 0), .int .i64 ((a).r 1), .int .i64 ((a).r 2), .int .i64 ((a).r 3), .int .i64 ((a).r 4), .int .i64 ((a).r 5), .int .i64 ((a).r 6), .int .i64 ((a).r 7), .int .i64 (a).md], .int .i64 x, .int .i64 n] W fun e w' => e = .returned (.agg #[.int .i64 ((Cu.gave a x n)).pc, .int .i64 (((Cu.gave a x n)).r 0), .int .i64 (((Cu.gave a x n)).r 1), .int .i64 (((Cu.gave a x n)).r 2), .int .i64 (((Cu.gave a x n)).r 3), .int .i64 (((Cu.gave a x n)).r 4), .int .i64 (((Cu.gave a x n)).r 5), .int .i64 (((Cu.gave a x n)).r 6), .int .i64 (((Cu.gave a x n)).r 7), .int .i64 ((Cu.gave a x n)).md]) ∧ W.grownBy w' none := by
  unfold Cu.gave
  by_cases h : 0 ≤ x ∧ x < 8
  · obtain ⟨k, rfl⟩ := Int.eq_ofNat_of_zero_le h.1
    simp only [if_pos h, Int.toNat_natCast]
    exact Cu.give_in a.pc a.md n a.r k (by omega) W
  · simp only [if_neg h]
    exact Cu.give_off a.pc a.md x n a.r h W
theorem Cu.woke_any (a : Cu.Af) (W : World) : Calls Tryd.prog 18 #[.agg #[.int .i64 (a).pc, .int .i64 ((a).r 0), .int .i64 ((a).r 1), .int .i64 ((a).r 2), .int .i64 ((a).r 3), .int .i64 ((a).r 4), .int .i64 ((a).r 5), .int .i64 ((a).r 6), .int .i64 ((a).r 7), .int .i64 (a).md]] W fun e w' => e = .returned (.agg #[.int .i64 ((Cu.woke a)).pc, .int .i64 (((Cu.woke a)).r 0), .int .i64 (((Cu.woke a)).r 1), .int .i64 (((Cu.woke a)).r 2), .int .i64 (((Cu.woke a)).r 3), .int .i64 (((Cu.woke a)).r 4), .int .i64 (((Cu.woke a)).r 5), .int .i64 (((Cu.woke a)).r 6), .int .i64 (((Cu.woke a)).r 7), .int .i64 ((Cu.woke a)).md]) ∧ W.grownBy w' none := Cu.wake_any a.pc a.md a.r W
/-- The cells of a state, where only new blocks came. -/
theorem Cu.s16 {W0 W : World} {b : Nat} {s0 s1 s2 s3 s4 s5 s6 s7 s8 s9 : Value} (h : Blk W0 b 24 #[s0, s1, s2, s3, s4, s5, s6, s7, s8, s9]) (g : W0.grownBy W none) : W0.grownBy W none ∧ W.cell? ⟨b, 0, none⟩ = some s0 ∧ W.cell? ⟨b, 1, none⟩ = some s1 ∧ W.cell? ⟨b, 2, none⟩ = some s2 ∧ W.cell? ⟨b, 3, none⟩ = some s3 ∧ W.cell? ⟨b, 4, none⟩ = some s4 ∧ W.cell? ⟨b, 5, none⟩ = some s5 ∧ W.cell? ⟨b, 6, none⟩ = some s6 ∧ W.cell? ⟨b, 7, none⟩ = some s7 ∧ W.cell? ⟨b, 8, none⟩ = some s8 ∧ W.cell? ⟨b, 9, none⟩ = some s9 := ⟨g, Cu.cells10 (h.only g (by simp))⟩
theorem Cu.grow_new {w w' w2 : World} {b : Nat} (h : w.grownBy w' none) (g : w'.grownBy w2 (some b)) (hb : w.heap.size ≤ b) : w.grownBy w2 none :=
  ⟨g.os.trans h.os, g.tape.trans h.tape, g.output.trans h.output, Nat.le_trans h.size g.size, fun i hi hn => (g.block i (Nat.lt_of_lt_of_le hi h.size) (fun e => by injection e with e; omega)).trans (h.block i hi hn)⟩
theorem Cu.put10z {W : World} {b : Nat} {t : TypeId} {s0 s1 s2 s3 s4 s5 s6 s7 s8 s9 : Value} (h : Blk W b t #[s0, s1, s2, s3, s4, s5, s6, s7, s8, s9]) (y0 y1 y2 y3 y4 y5 y6 y7 y8 y9 : Value) :
    ∀ W', W' = (((((((((W.setCell ⟨b, 0, none⟩ y0).setCell ⟨b, 1, none⟩ y1).setCell ⟨b, 2, none⟩ y2).setCell ⟨b, 3, none⟩ y3).setCell ⟨b, 4, none⟩ y4).setCell ⟨b, 5, none⟩ y5).setCell ⟨b, 6, none⟩ y6).setCell ⟨b, 7, none⟩ y7).setCell ⟨b, 8, none⟩ y8).setCell ⟨b, 9, none⟩ y9 → Blk W' b t #[y0, y1, y2, y3, y4, y5, y6, y7, y8, y9] ∧ W.grownBy W' (some b) := by
  rintro W' rfl
  refine ⟨?_, only_put (only_put (only_put (only_put (only_put (only_put (only_put (only_put (only_put (only_put (only_refl _ _) 0 y0) 1 y1) 2 y2) 3 y3) 4 y4) 5 y5) 6 y6) 7 y7) 8 y8) 9 y9⟩
  have q := ((((((((((h.put 0 y0).put 1 y1).put 2 y2).put 3 y3).put 4 y4).put 5 y5).put 6 y6).put 7 y7).put 8 y8).put 9 y9)
  simp only [List.setIfInBounds_toArray, List.set_cons_zero, List.set_cons_succ] at q
  exact q
end Go.Proofs.YtiicoabkhponmaaDoor
