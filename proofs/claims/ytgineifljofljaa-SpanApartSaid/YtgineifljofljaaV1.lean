/- Is a place in one of some spans: the contract of the document's In. Are they small: that of its Small. -/
import Derived.Test.YtgineifljofljaaU4
import Derived.Test.YtgineifljofljaaV0
namespace Go.Proofs.Ytgineifljofljaa
open Go.RowKit Go.Lib Go.Sort
set_option linter.unusedVariables false

set_option maxHeartbeats 1600000 in
theorem rin_any (A : Option Addr) (n cap : Nat) (d : Nat → Int × Int) (at' : Int) (w : World) (hsp : Spans w A n cap d) (hn : n ≤ 1000000) :
    Calls Try.prog 27 #[.slice A n cap, .int .i64 at'] w fun r w' => r = .returned (.bool (inN d at' n)) ∧ Below w.heap.size w w' := by
  have HSP := Lib.hid hsp
  clear hsp
  go_enter Try.func27, Try.ntmps27
  go_wp2
  go_loopw [5] (fun x wr => ∃ (k : Nat), x = .int .i64 k ∧ k ≤ n ∧ Hid (inN d at' k = false) ∧ Below w.heap.size w wr) (fun x _ => n - (intOf x).toNat)
  case atStart => exact ⟨0, rfl, by omega, Lib.hid rfl, Below.refl _ _⟩
  case round =>
    obtain ⟨k, rfl, hk, HF, hb⟩ := hrel
    have HBE := Lib.hid hb
    clear hb
    by_cases hkn : k < n
    · obtain ⟨b1, o1, rfl, hb1, hc1⟩ := (HSP.out.below HBE.out).2 (by omega)
      have c0 := (hc1 k hkn).1
      have c1 := (hc1 k hkn).2
      clear hc1
      have hnx : inN d at' (k + 1) = holdsB (d k) at' := by show (inN d at' k || _) = _; rw [HF.out, Bool.false_or]
      have HNX := Lib.hid hnx
      clear hnx
      obtain ⟨x, hx⟩ : ∃ x, x = d k := ⟨_, rfl⟩
      rw [← hx] at c0 c1
      have HX := Lib.hid hx
      clear hx
      have i1 : (k : Int) < (n : Int) := by omega
      obtain ⟨r, hr⟩ : ∃ r, r = holdsB x at' := ⟨_, rfl⟩
      have hcall := fun W => rholds_any x at' W
      simp only [← hr] at hcall
      rw [HX.out] at hr
      have HCALL := Lib.hid hcall
      have HRR := Lib.hid hr
      clear hcall hr
      cases r with
      | true =>
        have hfin : inN d at' n = true := (inN_iff d at' n).2 ⟨k, hkn, HRR.out.symm⟩
        have HFIN := Lib.hid hfin
        clear hfin
        go_wp2_with (go_at_call 11; refine (HCALL.out _).mono ?_; rintro e w2 ⟨rfl, g2⟩; have HB2 := Lib.hid (HBE.out.trans (below_of_only g2 HBE.out.size (by simp))); clear g2)
        go_ret
        exact ⟨by rw [HFIN.out]; rfl, HB2.out⟩
      | false =>
        go_wp2_with (go_at_call 11; refine (HCALL.out _).mono ?_; rintro e w2 ⟨rfl, g2⟩; have HB2 := Lib.hid (HBE.out.trans (below_of_only g2 HBE.out.size (by simp))); clear g2)
        go_roundw
        case rel => exact ⟨k + 1, by go_num, by omega, Lib.hid (HNX.out.trans HRR.out.symm), HB2.out⟩
        case measure => simp [intOf] <;> omega
    · obtain rfl : k = n := by omega
      go_wp2
      go_ret
      exact ⟨by rw [HF.out]; rfl, HBE.out⟩

/-- What Small says. -/
def SmallV (n : Nat) (d : Nat → Int × Int) (w : World) (e : Ending) (w' : World) : Prop :=
  ∃ r : Bool, e = .returned (.bool r) ∧ (r = true → n ≤ 30 ∧ ∀ i, i < n → (d i).2 ≤ 300) ∧ Below w.heap.size w w'
set_option maxHeartbeats 1600000 in
theorem small_any (A : Option Addr) (n cap : Nat) (d : Nat → Int × Int) (w : World) (hsp : Spans w A n cap d) (hn : n ≤ maxLen) :
    Calls Try.prog 23 #[.slice A n cap] w (SmallV n d w) := by
  have HSP := Lib.hid hsp
  clear hsp
  unfold maxLen at hn
  by_cases h30 : n ≤ 30
  · go_enter Try.func23, Try.ntmps23
    go_wp2
    go_loopw [3] (fun x wr => ∃ (k : Nat), x = .int .i64 k ∧ k ≤ n ∧ Hid (∀ i, i < k → (d i).2 ≤ 300) ∧ Below w.heap.size w wr) (fun x _ => n - (intOf x).toNat)
    case atStart => exact ⟨0, rfl, by omega, Lib.hid (by omega), Below.refl _ _⟩
    case round =>
      obtain ⟨k, rfl, hk, HF, hb⟩ := hrel
      have HBE := Lib.hid hb
      clear hb
      by_cases hkn : k < n
      · obtain ⟨b1, o1, rfl, hb1, hc1⟩ := (HSP.out.below HBE.out).2 (by omega)
        have c0 := (hc1 k hkn).1
        have c1 := (hc1 k hkn).2
        clear hc1
        obtain ⟨x, hx⟩ : ∃ x, x = d k := ⟨_, rfl⟩
        rw [← hx] at c0 c1
        have HX := Lib.hid hx
        clear hx
        have i1 : (k : Int) < (n : Int) := by omega
        by_cases hx3 : 300 < x.2
        · go_wp2
          go_ret
          exact ⟨false, rfl, fun h => (by cases h), HBE.out⟩
        · go_wp2
          go_roundw
          case rel =>
            refine ⟨k + 1, by go_num, by omega, Lib.hid fun i hi => ?_, HBE.out⟩
            by_cases e : i = k
            · subst e; rw [← HX.out]; omega
            · exact HF.out i (by omega)
          case measure => simp [intOf] <;> omega
      · obtain rfl : k = n := by omega
        go_wp2
        go_ret
        exact ⟨true, rfl, fun _ => ⟨h30, HF.out⟩, HBE.out⟩
  · go_enter Try.func23, Try.ntmps23
    go_wp2
    go_ret
    exact ⟨false, rfl, fun h => (by cases h), Below.refl _ _⟩
end Go.Proofs.Ytgineifljofljaa
