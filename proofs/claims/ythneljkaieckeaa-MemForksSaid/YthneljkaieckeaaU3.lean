/- Are two rows of spans the same: the contract of the document's Same. -/
import Derived.Test.YthneljkaieckeaaU2
namespace Go.Proofs.Ythneljkaieckeaa
open Go.RowKit Go.Lib Go.Sort
set_option linter.unusedVariables false

set_option maxHeartbeats 1600000 in
theorem same_any (A B : Option Addr) (n ca cb : Nat) (d e : Nat → Int × Int) (w : World) (hA : Spans w A n ca d) (hB : Spans w B n cb e) (hde : ∀ k, k < n → d k = e k) (hn : n ≤ 1000000) :
    Calls Try.prog 16 #[.slice A n ca, .slice B n cb] w fun r w' => r = .returned (.bool true) ∧ Below w.heap.size w w' := by
  have HA := Lib.hid hA
  have HB := Lib.hid hB
  have HDE := Lib.hid hde
  clear hA hB hde
  go_enter Try.func16, Try.ntmps16
  go_wp2
  go_loopw [5] (fun x wr => ∃ (k : Nat), x = .int .i64 k ∧ k ≤ n ∧ Below w.heap.size w wr) (fun x _ => n - (intOf x).toNat)
  case atStart => exact ⟨0, rfl, by omega, Below.refl _ _⟩
  case round =>
    obtain ⟨k, rfl, hk, hb⟩ := hrel
    have HBE := Lib.hid hb
    clear hb
    by_cases hkn : k < n
    · obtain ⟨b1, o1, rfl, hb1, hc1⟩ := (HA.out.below HBE.out).2 (by omega)
      obtain ⟨b2, o2, rfl, hb2, hc2⟩ := (HB.out.below HBE.out).2 (by omega)
      have c0 := (hc1 k hkn).1
      have c1 := (hc1 k hkn).2
      have c2 := (hc2 k hkn).1
      have c3 := (hc2 k hkn).2
      rw [← HDE.out k hkn] at c2 c3
      clear hc1 hc2
      obtain ⟨x, hx⟩ : ∃ x, x = d k := ⟨_, rfl⟩
      rw [← hx] at c0 c1 c2 c3
      clear hx
      have i1 : (k : Int) < (n : Int) := by omega
      go_wp2
      go_quiet (fail)
      go_wp2
      go_roundw
      case rel => exact ⟨k + 1, by go_num, by omega, below_drewN HBE.out _⟩
      case measure => simp [intOf] <;> omega
    · obtain rfl : k = n := by omega
      go_wp2
      go_ret
      exact ⟨rfl, HBE.out⟩
end Go.Proofs.Ythneljkaieckeaa
