/- The document's order of spans, place by place: its contract. -/
import Derived.Test.YtgineifljofljaaT7
import Derived.Test.YtgineifljofljaaS5
namespace Go.Proofs.Ytgineifljofljaa
open Go.RowKit Go.Lib Go.Sort
set_option linter.unusedVariables false

def ltB (a b : Int × Int) : Bool := decide (a.1 < b.1) || (decide (a.1 = b.1) && decide (a.2 < b.2))
theorem ltB_iff (a b : Int × Int) : ltB a b = true ↔ So.lt a b := by simp [ltB, So.lt]
theorem less_any (a b : Int × Int) (w : World) : Calls Try.prog 39 #[spv a, spv b] w fun e w' => e = .returned (.bool (ltB a b)) ∧ w.grownBy w' none := by
  obtain ⟨a1, a2⟩ := a
  obtain ⟨b1, b2⟩ := b
  have e : ltB (a1, a2) (b1, b2) = (decide (a1 < b1) || (decide (a1 = b1) && decide (a2 < b2))) := rfl
  have E := Lib.hid e
  clear e
  by_cases h1 : a1 < b1
  · have r : ltB (a1, a2) (b1, b2) = true := by rw [E.out]; simp [h1]
    clear E
    go_enter Try.func39, Try.ntmps39
    go_wp2
    go_ret
    exact ⟨by simp [r], only_alloc (only_alloc (only_refl _ _) _) _⟩
  · by_cases h2 : a1 = b1
    · have r : ltB (a1, a2) (b1, b2) = decide (a2 < b2) := by rw [E.out]; simp [h1, h2]
      clear E
      subst h2
      clear h1
      go_enter Try.func39, Try.ntmps39
      go_wp2
      go_ret
      exact ⟨by simp [r], only_alloc (only_alloc (only_refl _ _) _) _⟩
    · have r : ltB (a1, a2) (b1, b2) = false := by rw [E.out]; simp [h1, h2]
      clear E
      go_enter Try.func39, Try.ntmps39
      go_wp2
      go_ret
      exact ⟨by simp [r], only_alloc (only_alloc (only_refl _ _) _) _⟩
end Go.Proofs.Ytgineifljofljaa
