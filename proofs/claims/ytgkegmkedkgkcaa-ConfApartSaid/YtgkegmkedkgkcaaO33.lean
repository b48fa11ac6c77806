/- The law of tables that are right, walked. -/
import Derived.Test.YtgkegmkedkgkcaaO32
namespace Go.Proofs.Ytgkegmkedkgkcaa
open Go.RowKit Go.Lib Go.Sort
set_option linter.unusedVariables false

theorem apart_walk (c : Cf) (w : World) (h : CfV w c ∧ FitCf c) : Calls Try.prog 3 #[cfv c] w fun e w' => e = .returned (.bool true) ∧ Below w.heap.size w w' := by
  by_cases hr : fltL c = []
  · exact (apart_right c w h.1 h.2 hr).mono fun e w' k => ⟨k.1, below_of_only k.2 (Nat.le_refl _) (by simp)⟩
  · exact (apart_wrong c w h.1 h.2 hr).mono fun e w' k => ⟨k.1, below_of_only k.2 (Nat.le_refl _) (by simp)⟩
end Go.Proofs.Ytgkegmkedkgkcaa
