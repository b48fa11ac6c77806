/- A part of a row of spans is turned: its contract. -/
import Derived.Test.YtgineifljofljaaT1
namespace Go.Proofs.Ytgineifljofljaa
open Go.RowKit Go.Lib Go.Sort
set_option linter.unusedVariables false

set_option maxHeartbeats 1600000 in
theorem rotate_any (g n cap a m b : Nat) (d : Nat → Int × Int) (w : World) (h : RowS w g n cap d) (ham : a < m) (hmb : m < b) (hb : b ≤ n) (hn : n ≤ 4611686018427387904) :
    Calls Try.prog 44 #[.slice (some ⟨g, 0, none⟩) n cap, .int .i64 a, .int .i64 m, .int .i64 b, .func (.func 37) #[] #[]] w fun r w' => r = .returned (.tuple #[]) ∧ RowS w' g n cap (So.rot d a m b) ∧ w.grownBy w' (some g) := by
  have H := Lib.hid h
  clear h
  have i1 : IntKind.i64.wrap ((m : Int) - (a : Int)) = ((m - a : Nat) : Int) := by rw [IntKind.wrap_i64]; omega
  have i2 : IntKind.i64.wrap ((b : Int) - (m : Int)) = ((b - m : Nat) : Int) := by rw [IntKind.wrap_i64]; omega
  go_enter Try.func44, Try.ntmps44
  go_wp2
  go_loopw [10, 11] (fun x y wr => ∃ (i j : Nat) (e : Nat → Int × Int), x = .int .i64 i ∧ y = .int .i64 j ∧ 0 < i ∧ 0 < j ∧ i ≤ m - a ∧ j ≤ b - m ∧ Hid (So.rot e (m - i) m (m + j) = So.rot d a m b) ∧ RowS wr g n cap e ∧ w.grownBy wr (some g)) (fun x y _ => (intOf x).toNat + (intOf y).toNat)
  case atStart => exact ⟨m - a, b - m, d, rfl, rfl, by omega, by omega, by omega, by omega, Lib.hid (by rw [show m - (m - a) = a by omega, show m + (b - m) = b by omega]), H.out, only_refl _ _⟩
  case round =>
    obtain ⟨i, j, e, rfl, rfl, hi0, hj0, hi, hj, HE, hR, hg⟩ := hrel
    have HR := Lib.hid hR
    have HG := Lib.hid hg
    clear hR hg
    rcases Nat.lt_trichotomy j i with hij | hij | hij
    · have HC := Lib.hid (swap_any g n cap (m - i) m j e wr HR.out (by omega) (by omega) hn)
      have i3 : IntKind.i64.wrap ((m : Int) - (i : Int)) = ((m - i : Nat) : Int) := by rw [IntKind.wrap_i64]; omega
      have i4 : IntKind.i64.wrap ((i : Int) - (j : Int)) = ((i - j : Nat) : Int) := by rw [IntKind.wrap_i64]; omega
      have n1 : ¬ (i : Int) = (j : Int) := by omega
      have n2 : (j : Int) < (i : Int) := by omega
      go_wp2_with (go_at_call 45; refine HC.out.mono ?_; rintro e w1 ⟨rfl, h1, h2⟩)
      go_roundw
      case rel => exact ⟨i - j, j, _, rfl, rfl, by omega, hj0, by omega, hj, Lib.hid ((So.rot_more e (by omega) hij).trans HE.out), h1, only_trans HG.out h2⟩
      case measure => simp [intOf] <;> omega
    · subst hij
      have HC := Lib.hid (swap_any g n cap (m - j) m j e wr HR.out (by omega) (by omega) hn)
      have i3 : IntKind.i64.wrap ((m : Int) - (j : Int)) = ((m - j : Nat) : Int) := by rw [IntKind.wrap_i64]; omega
      go_wp2_with (go_at_call 45; refine HC.out.mono ?_; rintro e w1 ⟨rfl, h1, h2⟩)
      go_end0
      refine ⟨rfl, ?_, only_trans HG.out h2⟩
      rw [← HE.out, ← So.rot_same _ (show j ≤ m by omega)]
      exact h1
    · have HC := Lib.hid (swap_any g n cap (m - i) (m + j - i) i e wr HR.out (by omega) (by omega) hn)
      have i3 : IntKind.i64.wrap ((m : Int) - (i : Int)) = ((m - i : Nat) : Int) := by rw [IntKind.wrap_i64]; omega
      have i4 : IntKind.i64.wrap ((j : Int) - (i : Int)) = ((j - i : Nat) : Int) := by rw [IntKind.wrap_i64]; omega
      have i5 : IntKind.i64.wrap ((m : Int) + (j : Int)) = ((m + j : Nat) : Int) := by rw [IntKind.wrap_i64]; omega
      have i6 : IntKind.i64.wrap (((m + j : Nat) : Int) - (i : Int)) = ((m + j - i : Nat) : Int) := by rw [IntKind.wrap_i64]; omega
      have i7 : IntKind.i64.wrap ((m : Int) + (j : Int) - (i : Int)) = ((m + j - i : Nat) : Int) := by rw [IntKind.wrap_i64]; omega
      have n1 : ¬ (i : Int) = (j : Int) := by omega
      have n2 : ¬ (j : Int) < (i : Int) := by omega
      go_wp2_with (go_at_call 45; refine HC.out.mono ?_; rintro e w1 ⟨rfl, h1, h2⟩)
      go_roundw
      case rel => exact ⟨i, j - i, _, rfl, rfl, hi0, by omega, hi, by omega, Lib.hid ((So.rot_less e (by omega) hij).trans HE.out), h1, only_trans HG.out h2⟩
      case measure => simp [intOf] <;> omega
end Go.Proofs.Ytgineifljofljaa
