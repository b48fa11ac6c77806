/- Package code: a name's code, what may be, by their contracts. -/
import Derived.Test.YtgjpjmolfdiahaaDoorKN1
import Derived.Deep.RegionHeld3
namespace Go.Proofs.YtgjpjmolfdiahaaDoor
open Go.RowKit Go.Lib
set_option linter.unusedVariables false

theorem nm_index (k : Nat) (hk : k < 16) (w : World) : (Instr.index 94 (.agg #[.string (nmL 0), .string (nmL 1), .string (nmL 2), .string (nmL 3), .string (nmL 4), .string (nmL 5), .string (nmL 6), .string (nmL 7), .string (nmL 8), .string (nmL 9), .string (nmL 10), .string (nmL 11), .string (nmL 12), .string (nmL 13), .string (nmL 14), .string (nmL 15)]) (.int .i64 k)).run Tryd.prog w = .ok (.string (nmL k)) w := by
  have key : k = 0 ∨ k = 1 ∨ k = 2 ∨ k = 3 ∨ k = 4 ∨ k = 5 ∨ k = 6 ∨ k = 7 ∨ k = 8 ∨ k = 9 ∨ k = 10 ∨ k = 11 ∨ k = 12 ∨ k = 13 ∨ k = 14 ∨ k = 15 := by omega
  rcases key with rfl | rfl | rfl | rfl | rfl | rfl | rfl | rfl | rfl | rfl | rfl | rfl | rfl | rfl | rfl | rfl
  all_goals (show Sem.run _ _ w = _; kernel_rfl)
set_option maxRecDepth 20000 in
theorem named_any (t : ByteArray) (w : World) (hG : Nm w) : Calls Tryd.prog 61 #[.string t] w fun e w' => e = .returned (.tuple #[.int .u8 (ndV t).1, .bool (ndV t).2]) ∧ w = w' := by
  have c0 := hG.at' 0 (by omega)
  have c1 := hG.at' 1 (by omega)
  have c2 := hG.at' 2 (by omega)
  have c3 := hG.at' 3 (by omega)
  have c4 := hG.at' 4 (by omega)
  have c5 := hG.at' 5 (by omega)
  have c6 := hG.at' 6 (by omega)
  have c7 := hG.at' 7 (by omega)
  have c8 := hG.at' 8 (by omega)
  have c9 := hG.at' 9 (by omega)
  have c10 := hG.at' 10 (by omega)
  have c11 := hG.at' 11 (by omega)
  have c12 := hG.at' 12 (by omega)
  have c13 := hG.at' 13 (by omega)
  have c14 := hG.at' 14 (by omega)
  have c15 := hG.at' 15 (by omega)
  have HI := Lib.hid nm_index
  have HA := Lib.hid (fun k (hk : k < 16) (h : nmL k = t) => ndV_at hk h)
  have HN := Lib.hid (fun (h : ∀ k, k < 16 → nmL k ≠ t) => ndV_none h)
  generalize ndV t = r at HA HN ⊢
  have hnm : ∃ nm : Nat → ByteArray, nm = nmL := ⟨_, rfl⟩
  obtain ⟨nm, hnm⟩ := hnm
  rw [← hnm] at c0 c1 c2 c3 c4 c5 c6 c7 c8 c9 c10 c11 c12 c13 c14 c15 HI HA HN
  have HNM := Lib.hid hnm
  clear hG hnm
  go_enter Tryd.func61, Tryd.ntmps61
  go_wp2
  clear c0 c1 c2 c3 c4 c5 c6 c7 c8 c9 c10 c11 c12 c13 c14 c15
  go_loopw [7] (fun y wr => ∃ k : Nat, y = .int .i64 k ∧ k ≤ 16 ∧ Hid (∀ j, j < k → nm j ≠ t) ∧ w = wr) (fun y _ => 16 - (intOf y).toNat)
  case atStart => exact ⟨0, rfl, by omega, Lib.hid (fun j hj => by omega), rfl⟩
  case round =>
    obtain ⟨k, rfl, hk, HK, rfl⟩ := hrel
    by_cases hin : k < 16
    · have i1 : (k : Int) < 16 := by omega
      have hx := HI.out k hin
      by_cases he : nm k = t
      · have HF := Lib.hid (HA.out k hin he)
        have hc8 : IntKind.u8.wrap (k : Int) = (k : Int) := by rw [IntKind.wrap_u8]; omega
        subst he
        go_wp2
        go_ret2
        exact ⟨by first | (rw [HF.out]; done) | (rw [HF.out]; rfl), rfl⟩
      · have hne := str_ne19 he
        have HKK := Lib.hid (show ∀ j, j < k + 1 → nm j ≠ t from fun j hj => by
          by_cases e : j = k
          · rw [e]; exact he
          · exact HK.out j (by omega))
        clear he
        go_wp2
        go_roundw
        case rel => exact ⟨k + 1, by go_num, by omega, HKK, by first | rfl | trivial⟩
        case measure => simp [intOf] <;> omega
    · obtain rfl : k = 16 := by omega
      have HF := Lib.hid (HN.out HK.out)
      go_wp2
      go_ret2
      exact ⟨by first | (rw [HF.out]; done) | (rw [HF.out]; rfl), rfl⟩
/-- An instruction that may be. -/
def mayI (k : Nat) (x n : Int) : Bool := decide (k < 16) && decide (0 ≤ x ∧ x ≤ mxX k) && decide (0 ≤ n ∧ n ≤ mxN k)
end Go.Proofs.YtgjpjmolfdiahaaDoor
