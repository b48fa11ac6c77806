/- Are all spans that do not meet: the contract of Apart. -/
import Derived.Test.YthneljkaieckeaaV2
namespace Go.Proofs.Ythneljkaieckeaa
open Go.RowKit Go.Lib Go.Sort
set_option linter.unusedVariables false

theorem isB_iff (p : Int × Int) : isB p = true ↔ isS p := by simp [isB, isS]
def IndexV (n : Nat) (d : Nat → Int × Int) (w : World) (e : Ending) (w' : World) : Prop :=
  ∃ j : Int, e = .returned (.int .i64 j) ∧ (j < 0 → ∀ i, i < n → isS (d i)) ∧ -1 ≤ j ∧ j < 1000001 ∧ Below w.heap.size w w'
def ContainsV (n : Nat) (d : Nat → Int × Int) (w : World) (e : Ending) (w' : World) : Prop :=
  ∃ r : Bool, e = .returned (.bool r) ∧ (r = false → ∀ i, i < n → isS (d i)) ∧ Below w.heap.size w w'
/-- What Apart says. -/
def ApartV (n : Nat) (d : Nat → Int × Int) (w : World) (e : Ending) (w' : World) : Prop :=
  ∃ (r : Bool), e = .returned (.bool r) ∧ (r = true → (∀ i, i < n → isS (d i)) ∧ ∃ d', So.Perm 0 n d d' ∧ So.Sorted d' 0 n ∧ ∀ i j, i < j → j < n → isS (d' i) → isS (d' j) → (d' i).2 ≤ (d' j).1) ∧ Below w.heap.size w w'
end Go.Proofs.Ythneljkaieckeaa
