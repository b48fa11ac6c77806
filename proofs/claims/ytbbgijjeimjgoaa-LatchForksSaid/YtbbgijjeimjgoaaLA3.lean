/- A board: every call by one contract; a new board, a fork; the law's own example. -/
import Derived.Test.YtbbgijjeimjgoaaLA2
import Derived.Deep.WholeRow
namespace Go.Proofs.Ytbbgijjeimjgoaa
open Go.RowKit Go.Lib
set_option linter.unusedVariables false

def Lt.isO (c : Nat) (x : Int) : Prop := 1 ≤ x ∧ x ≤ c
instance (c : Nat) (x : Int) : Decidable (Lt.isO c x) := by unfold Lt.isO; infer_instance
def Lt.idx (x : Int) : Nat := (x - 1).toNat
def Lt.raiseE (c : Nat) (x y : Int) : Int := if Lt.isO c x then (if 0 ≤ y ∧ y ≤ 255 then 0 else 2) else 7
def Lt.raiseO (c : Nat) (o : Nat → Nat × Nat) (x y : Int) : Nat → Nat × Nat := if Lt.isO c x ∧ 0 ≤ y ∧ y ≤ 255 then Lt.upd o (Lt.idx x) ((o (Lt.idx x)).1 ||| y.toNat, (o (Lt.idx x)).2) else o
def Lt.openX (c : Nat) (o : Nat → Nat × Nat) (x : Int) : Nat := if Lt.isO c x then (o (Lt.idx x)).1 else 0
def Lt.openO (c : Nat) (o : Nat → Nat × Nat) (x : Int) : Nat → Nat × Nat := if Lt.isO c x then Lt.upd o (Lt.idx x) (0, (o (Lt.idx x)).2 ||| (o (Lt.idx x)).1) else o
def Lt.takeX (c : Nat) (o : Nat → Nat × Nat) (x : Int) : Nat := if Lt.isO c x then (o (Lt.idx x)).2 else 0
def Lt.takeO (c : Nat) (o : Nat → Nat × Nat) (x : Int) : Nat → Nat × Nat := if Lt.isO c x then Lt.upd o (Lt.idx x) ((o (Lt.idx x)).1, 0) else o
theorem Lt.is_at {c : Nat} {x : Int} (h : Lt.isO c x) : ∃ i : Nat, i < c ∧ x = (i : Int) + 1 ∧ Lt.idx x = i := by
  obtain ⟨h1, h2⟩ := h
  refine ⟨(x - 1).toNat, by omega, by omega, rfl⟩
theorem Lt.raise_any (b c : Nat) (x y : Int) (o : Nat → Nat × Nat) (w : World) (h : Lt.Brd w b c o) : Calls Try.prog 10 #[.pointer (some ⟨b, 0, none⟩), .int .i64 x, .int .i64 y] w fun e w' => e = .returned (.int .i64 (Lt.raiseE c x y)) ∧ Lt.Brd w' b c (Lt.raiseO c o x y) ∧ w.grownBy w' (some b) := by
  by_cases hx : Lt.isO c x
  · by_cases hy : 0 ≤ y ∧ y ≤ 255
    · have e1 : Lt.raiseE c x y = 0 := by unfold Lt.raiseE; rw [if_pos hx, if_pos hy]
      have e2 : Lt.raiseO c o x y = Lt.upd o (Lt.idx x) ((o (Lt.idx x)).1 ||| y.toNat, (o (Lt.idx x)).2) := by unfold Lt.raiseO; rw [if_pos ⟨hx, hy⟩]
      rw [e1, e2]
      obtain ⟨i, hi, rfl, he⟩ := Lt.is_at hx
      rw [he]
      obtain ⟨z, rfl⟩ : ∃ z : Nat, y = z := ⟨y.toNat, by omega⟩
      exact Lt.raise_yes b c i z o w h hi (by omega)
    · have e1 : Lt.raiseE c x y = 2 := by unfold Lt.raiseE; rw [if_pos hx, if_neg hy]
      have e2 : Lt.raiseO c o x y = o := by unfold Lt.raiseO; rw [if_neg (fun q => hy q.2)]
      rw [e1, e2]
      obtain ⟨i, hi, rfl, he⟩ := Lt.is_at hx
      refine (Lt.raise_arg b c i y o w h hi hy).mono fun e w' q => ⟨q.1, q.2 ▸ h, q.2 ▸ only_refl _ _⟩
  · have e1 : Lt.raiseE c x y = 7 := by unfold Lt.raiseE; rw [if_neg hx]
    have e2 : Lt.raiseO c o x y = o := by unfold Lt.raiseO; rw [if_neg (fun q => hx q.1)]
    rw [e1, e2]
    refine (Lt.raise_no b c x y o w h hx).mono fun e w' q => ⟨q.1, q.2 ▸ h, q.2 ▸ only_refl _ _⟩
theorem Lt.open_any (b c : Nat) (x : Int) (o : Nat → Nat × Nat) (w : World) (h : Lt.Brd w b c o) : Calls Try.prog 11 #[.pointer (some ⟨b, 0, none⟩), .int .i64 x] w fun e w' => e = .returned (.int .i64 (Lt.openX c o x)) ∧ Lt.Brd w' b c (Lt.openO c o x) ∧ w.grownBy w' (some b) := by
  unfold Lt.openX Lt.openO
  by_cases hx : Lt.isO c x
  · rw [if_pos hx, if_pos hx]
    obtain ⟨i, hi, rfl, he⟩ := Lt.is_at hx
    rw [he]
    exact Lt.open_yes b c i o w h hi
  · rw [if_neg hx, if_neg hx]
    refine (Lt.open_no b c x o w h hx).mono fun e w' q => ⟨q.1, q.2 ▸ h, q.2 ▸ only_refl _ _⟩
theorem Lt.take_any (b c : Nat) (x : Int) (o : Nat → Nat × Nat) (w : World) (h : Lt.Brd w b c o) : Calls Try.prog 12 #[.pointer (some ⟨b, 0, none⟩), .int .i64 x] w fun e w' => e = .returned (.int .i64 (Lt.takeX c o x)) ∧ Lt.Brd w' b c (Lt.takeO c o x) ∧ w.grownBy w' (some b) := by
  unfold Lt.takeX Lt.takeO
  by_cases hx : Lt.isO c x
  · rw [if_pos hx, if_pos hx]
    obtain ⟨i, hi, rfl, he⟩ := Lt.is_at hx
    rw [he]
    exact Lt.take_yes b c i o w h hi
  · rw [if_neg hx, if_neg hx]
    refine (Lt.take_no b c x o w h hx).mono fun e w' q => ⟨q.1, q.2 ▸ h, q.2 ▸ only_refl _ _⟩
theorem Lt.latched_any (b c : Nat) (x : Int) (o : Nat → Nat × Nat) (w : World) (h : Lt.Brd w b c o) : Calls Try.prog 13 #[.pointer (some ⟨b, 0, none⟩), .int .i64 x] w fun e w' => e = .returned (.int .i64 (Lt.openX c o x)) ∧ w = w' := by
  unfold Lt.openX
  by_cases hx : Lt.isO c x
  · rw [if_pos hx]
    obtain ⟨i, hi, rfl, he⟩ := Lt.is_at hx
    rw [he]
    exact Lt.latched_yes b c i o w h hi
  · rw [if_neg hx]
    exact Lt.latched_no b c x o w h hx
theorem Lt.delivered_any (b c : Nat) (x : Int) (o : Nat → Nat × Nat) (w : World) (h : Lt.Brd w b c o) : Calls Try.prog 14 #[.pointer (some ⟨b, 0, none⟩), .int .i64 x] w fun e w' => e = .returned (.int .i64 (Lt.takeX c o x)) ∧ w = w' := by
  unfold Lt.takeX
  by_cases hx : Lt.isO c x
  · rw [if_pos hx]
    obtain ⟨i, hi, rfl, he⟩ := Lt.is_at hx
    rw [he]
    exact Lt.delivered_yes b c i o w h hi
  · rw [if_neg hx]
    exact Lt.delivered_no b c x o w h hx
/-- So many owners. -/
def Lt.cap (x : Int) : Nat := if x < 0 then 0 else if 8 < x then 8 else x.toNat
def Lt.o0 : Nat → Nat × Nat := fun _ => (0, 0)
theorem Lt.cap_le (x : Int) : Lt.cap x ≤ 8 := by unfold Lt.cap; split <;> (try split) <;> omega
theorem Lt.brd_new (w : World) (c : Nat) (h : c ≤ 8) : Lt.Brd (w.alloc (.cells (Lt.brdC c Lt.o0) 42)) w.heap.size c Lt.o0 := ⟨Blk.new w _ _, h, fun i _ => by simp [Lt.o0]⟩
theorem Lt.new_any (x : Int) (w : World) : Calls Try.prog 6 #[.int .i64 x] w fun e w' => e = .returned (.pointer (some ⟨w.heap.size, 0, none⟩)) ∧ w' = w.alloc (.cells (Lt.brdC (Lt.cap x) Lt.o0) 42) := by
  by_cases h0 : x < 0
  · have e : Lt.cap x = 0 := by unfold Lt.cap; rw [if_pos h0]
    rw [e]
    have m1 : max x 0 = 0 := by omega
    clear e
    go_enter Try.func6, Try.ntmps6
    go_wp2
    go_ret
    exact ⟨rfl, rfl⟩
  · have m1 : max x 0 = x := by omega
    by_cases h8 : 8 < x
    · have e : Lt.cap x = 8 := by unfold Lt.cap; rw [if_neg h0, if_pos h8]
      rw [e]
      have m2 : min x 8 = 8 := by omega
      clear e
      go_enter Try.func6, Try.ntmps6
      go_wp2
      go_ret
      exact ⟨rfl, rfl⟩
    · have e : Lt.cap x = x.toNat := by unfold Lt.cap; rw [if_neg h0, if_neg h8]
      rw [e]
      obtain ⟨z, rfl⟩ : ∃ z : Nat, x = z := ⟨x.toNat, by omega⟩
      have m2 : min (z : Int) 8 = z := by omega
      rw [show ((z : Int)).toNat = z from rfl]
      clear e
      go_enter Try.func6, Try.ntmps6
      go_wp2
      go_ret
      exact ⟨rfl, rfl⟩
end Go.Proofs.Ytbbgijjeimjgoaa
