/- The law of moves, walked. -/
import Derived.Test.YtgkegmkedkgkcaaO26
namespace Go.Proofs.Ytgkegmkedkgkcaa
open Go.RowKit Go.Lib Go.Sort
set_option linter.unusedVariables false

theorem moves_walk (c : Cf) (a b : Int) (w : World) (h : CfV w c ∧ FitCf c) (ha : 0 ≤ a ∧ a ≤ 255) (hb : fitI b) : Calls Try.prog 4 #[cfv c, .int .u8 a, .int .i64 b] w fun e w' => e = .returned (.bool true) ∧ Below w.heap.size w w' := by
  obtain ⟨i, rfl⟩ : ∃ i : Nat, a = i := ⟨a.toNat, by omega⟩
  by_cases hr : fltL c = []
  · exact (moves_right c i b w (by omega) hb h.1 h.2 hr).mono fun e w' k => ⟨k.1, below_of_only k.2 (Nat.le_refl _) (by simp)⟩
  · exact (moves_wrong c i b w h.1 h.2 hr).mono fun e w' k => ⟨k.1, below_of_only k.2 (Nat.le_refl _) (by simp)⟩
end Go.Proofs.Ytgkegmkedkgkcaa
