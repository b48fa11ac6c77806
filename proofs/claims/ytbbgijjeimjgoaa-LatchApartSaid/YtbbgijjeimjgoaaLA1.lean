/- A board in memory; what asks it, by contract. -/
import Derived.Test.YtbbgijjeimjgoaaLA0
import Derived.Test.YtbbgijjeimjgoaaRows
import Derived.WalkKit
import Derived.ProofKit
import Derived.OpenShut
import Derived.WalkLawsBesides
import Derived.WalkSpells
import Derived.BigQuiet
import Derived.Deep.QuietTactic
import Derived.StillTailTactics
import Derived.Deep.Cut
import Derived.Deep.RegionHeld3
import Derived.Deep.RegionLaw
import Derived.BigRegion
import Derived.WalkMore
import Derived.Lib.BitFns
import Derived.Lib.Hide
import Derived.IntWalk
namespace Go.Proofs.Ytbbgijjeimjgoaa
open Go.RowKit Go.Lib
set_option linter.unusedVariables false

/-- The cells of a board: how many owners, and each one's two rows. -/
def Lt.brdC (c : Nat) (o : Nat → Nat × Nat) : Array Value := #[.int .i64 c, .int .i64 (o 0).1, .int .i64 (o 0).2, .int .i64 (o 1).1, .int .i64 (o 1).2, .int .i64 (o 2).1, .int .i64 (o 2).2, .int .i64 (o 3).1, .int .i64 (o 3).2, .int .i64 (o 4).1, .int .i64 (o 4).2, .int .i64 (o 5).1, .int .i64 (o 5).2, .int .i64 (o 6).1, .int .i64 (o 6).2, .int .i64 (o 7).1, .int .i64 (o 7).2]
def Lt.upd (o : Nat → Nat × Nat) (i : Nat) (x : Nat × Nat) : Nat → Nat × Nat := fun j => if j = i then x else o j
theorem Lt.upd_at (o : Nat → Nat × Nat) (i : Nat) (x : Nat × Nat) : Lt.upd o i x i = x := by simp [Lt.upd]
theorem Lt.upd_off (o : Nat → Nat × Nat) {i j : Nat} (x : Nat × Nat) (h : j ≠ i) : Lt.upd o i x j = o j := by simp [Lt.upd, h]
theorem Lt.brdC_l (c : Nat) (o : Nat → Nat × Nat) {k : Nat} (h : k < 8) : (Lt.brdC c o)[1 + k * 2]? = some (.int .i64 (o k).1) := by
  rcases Lt.eight h with rfl | rfl | rfl | rfl | rfl | rfl | rfl | rfl <;> rfl
theorem Lt.brdC_d (c : Nat) (o : Nat → Nat × Nat) {k : Nat} (h : k < 8) : (Lt.brdC c o)[1 + k * 2 + 1]? = some (.int .i64 (o k).2) := by
  rcases Lt.eight h with rfl | rfl | rfl | rfl | rfl | rfl | rfl | rfl <;> rfl
theorem Lt.brdC_putl (c : Nat) (o : Nat → Nat × Nat) {k : Nat} (h : k < 8) (x : Nat) : (Lt.brdC c o).setIfInBounds (1 + k * 2) (.int .i64 x) = Lt.brdC c (Lt.upd o k (x, (o k).2)) := by
  rcases Lt.eight h with rfl | rfl | rfl | rfl | rfl | rfl | rfl | rfl <;> simp [Lt.brdC, Lt.upd]
theorem Lt.brdC_putd (c : Nat) (o : Nat → Nat × Nat) {k : Nat} (h : k < 8) (x : Nat) : (Lt.brdC c o).setIfInBounds (1 + k * 2 + 1) (.int .i64 x) = Lt.brdC c (Lt.upd o k ((o k).1, x)) := by
  rcases Lt.eight h with rfl | rfl | rfl | rfl | rfl | rfl | rfl | rfl <;> simp [Lt.brdC, Lt.upd]
/-- A board in memory. -/
structure Lt.Brd (w : World) (b c : Nat) (o : Nat → Nat × Nat) : Prop where
  blk : Blk w b 42 (Lt.brdC c o)
  cnt : c ≤ 8
  lt : ∀ i, i < 8 → (o i).1 < 256 ∧ (o i).2 < 256
section
variable {w w' : World} {b c : Nat} {o : Nat → Nat × Nat}
theorem Lt.Brd.only {row : Option Nat} (h : Lt.Brd w b c o) (k : w.grownBy w' row) (hr : some b ≠ row) : Lt.Brd w' b c o := ⟨h.blk.only k hr, h.cnt, h.lt⟩
theorem Lt.Brd.below {B : Nat} (h : Lt.Brd w b c o) (k : Below B w w') (hr : b < B) : Lt.Brd w' b c o := ⟨h.blk.below k hr, h.cnt, h.lt⟩
theorem Lt.Brd.putl (h : Lt.Brd w b c o) {k : Nat} (hk : k < 8) {x : Nat} (hx : x < 256) : Lt.Brd (w.setCell ⟨b, 1 + k * 2, none⟩ (.int .i64 x)) b c (Lt.upd o k (x, (o k).2)) :=
  ⟨by rw [← Lt.brdC_putl c o hk x]; exact h.blk.put _ _, h.cnt, fun i hi => by
    by_cases e : i = k
    · subst e; rw [Lt.upd_at]; exact ⟨hx, (h.lt i hi).2⟩
    · rw [Lt.upd_off _ _ e]; exact h.lt i hi⟩
theorem Lt.Brd.putd (h : Lt.Brd w b c o) {k : Nat} (hk : k < 8) {x : Nat} (hx : x < 256) : Lt.Brd (w.setCell ⟨b, 1 + k * 2 + 1, none⟩ (.int .i64 x)) b c (Lt.upd o k ((o k).1, x)) :=
  ⟨by rw [← Lt.brdC_putd c o hk x]; exact h.blk.put _ _, h.cnt, fun i hi => by
    by_cases e : i = k
    · subst e; rw [Lt.upd_at]; exact ⟨(h.lt i hi).1, hx⟩
    · rw [Lt.upd_off _ _ e]; exact h.lt i hi⟩
theorem Lt.Brd.drewN (h : Lt.Brd w b c o) (n : Nat) : Lt.Brd (w.drewN n) b c o := ⟨h.blk.drewN n, h.cnt, h.lt⟩
end

theorem Lt.has_nil (x : Int) (w : World) : Calls Try.prog 21 #[.pointer none, .int .i64 x] w fun e w' => e = .returned (.bool false) ∧ w = w' := by
  go_enter Try.func21, Try.ntmps21
  go_wp2
  go_ret
  exact ⟨rfl, rfl⟩
theorem Lt.has_yes (b c i : Nat) (o : Nat → Nat × Nat) (w : World) (h : Lt.Brd w b c o) (hi : i < c) : Calls Try.prog 21 #[.pointer (some ⟨b, 0, none⟩), .int .i64 ((i : Int) + 1)] w fun e w' => e = .returned (.bool true) ∧ w = w' := by
  have c0 : w.cell? ⟨b, 0, none⟩ = some (.int .i64 c) := h.blk.cell 0
  have i1 : (1 : Int) ≤ (i : Int) + 1 := by omega
  have i2 : (i : Int) + 1 ≤ (c : Int) := by omega
  clear h hi
  go_enter Try.func21, Try.ntmps21
  go_wp2
  go_ret
  exact ⟨rfl, rfl⟩
theorem Lt.has_no (b c : Nat) (x : Int) (o : Nat → Nat × Nat) (w : World) (h : Lt.Brd w b c o) (hi : ¬ (1 ≤ x ∧ x ≤ c)) : Calls Try.prog 21 #[.pointer (some ⟨b, 0, none⟩), .int .i64 x] w fun e w' => e = .returned (.bool false) ∧ w = w' := by
  have c0 : w.cell? ⟨b, 0, none⟩ = some (.int .i64 c) := h.blk.cell 0
  by_cases i1 : (1 : Int) ≤ x
  · have i2 : ¬ x ≤ (c : Int) := fun e => hi ⟨i1, e⟩
    clear h hi
    go_enter Try.func21, Try.ntmps21
    go_wp2
    go_ret
    exact ⟨rfl, rfl⟩
  · clear h hi
    go_enter Try.func21, Try.ntmps21
    go_wp2
    go_ret
    exact ⟨rfl, rfl⟩
theorem Lt.latched_nil (x : Int) (w : World) : Calls Try.prog 13 #[.pointer none, .int .i64 x] w fun e w' => e = .returned (.int .i64 0) ∧ w = w' := by
  go_enter Try.func13, Try.ntmps13
  go_wp2_with (go_at_call 21; refine (Lt.has_nil _ _).mono ?_; rintro e w' ⟨rfl, rfl⟩)
  go_ret
  exact ⟨rfl, rfl⟩
theorem Lt.latched_no (b c : Nat) (x : Int) (o : Nat → Nat × Nat) (w : World) (h : Lt.Brd w b c o) (hi : ¬ (1 ≤ x ∧ x ≤ c)) : Calls Try.prog 13 #[.pointer (some ⟨b, 0, none⟩), .int .i64 x] w fun e w' => e = .returned (.int .i64 0) ∧ w = w' := by
  have HC := Lib.hid (Lt.has_no b c x o w h hi)
  clear h hi
  go_enter Try.func13, Try.ntmps13
  go_wp2_with (go_at_call 21; (with_reducible refine HC.out.mono ?_); rintro e w' ⟨rfl, rfl⟩)
  go_ret
  exact ⟨rfl, rfl⟩
theorem Lt.latched_yes (b c i : Nat) (o : Nat → Nat × Nat) (w : World) (h : Lt.Brd w b c o) (hi : i < c) : Calls Try.prog 13 #[.pointer (some ⟨b, 0, none⟩), .int .i64 ((i : Int) + 1)] w fun e w' => e = .returned (.int .i64 (o i).1) ∧ w = w' := by
  have HC := Lib.hid (Lt.has_yes b c i o w h hi)
  have i8 : i < 8 := Nat.lt_of_lt_of_le hi h.cnt
  have c0 : w.cell? ⟨b, 1 + i * 2, none⟩ = some (.int .i64 (o i).1) := (h.blk.cell _).trans (Lt.brdC_l c o i8)
  have i0 : (0 : Int) ≤ (i : Int) := by omega
  have i9 : (i : Int) < 8 := by omega
  clear h hi
  go_enter Try.func13, Try.ntmps13
  go_wp2_with (go_at_call 21; (with_reducible refine HC.out.mono ?_); rintro e w' ⟨rfl, rfl⟩)
  go_ret
  exact ⟨rfl, rfl⟩
end Go.Proofs.Ytbbgijjeimjgoaa
