/- Are all spans that do not meet: the contract of Apart. -/
import Derived.Test.YtgineifljofljaaV2
namespace Go.Proofs.Ytgineifljofljaa
open Go.RowKit Go.Lib Go.Sort
set_option linter.unusedVariables false

theorem isB_iff (p : Int × Int) : isB p = true ↔ isS p := by simp [isB, isS]
theorem notIs_any (p : Int × Int) (w : World) : Calls Try.prog 35 #[spv p] w fun e w' => e = .returned (.bool (!isB p)) ∧ w.grownBy w' none := by
  obtain ⟨a, b⟩ := p
  obtain ⟨r, hr⟩ : ∃ r, r = isB (a, b) := ⟨_, rfl⟩
  have hcall := fun W => is_any (a, b) W
  simp only [← hr] at hcall ⊢
  have HC := Lib.hid hcall
  clear hcall hr
  go_enter Try.func35, Try.ntmps35
  go_wp2_with (go_at_call 13; refine (HC.out _).mono ?_; rintro e w2 ⟨rfl, g2⟩)
  go_ret
  exact ⟨rfl, only_trans (only_alloc (only_refl _ _) _) g2⟩

def IndexV (n : Nat) (d : Nat → Int × Int) (w : World) (e : Ending) (w' : World) : Prop :=
  ∃ j : Int, e = .returned (.int .i64 j) ∧ (j < 0 → ∀ i, i < n → isS (d i)) ∧ -1 ≤ j ∧ j < 1000001 ∧ Below w.heap.size w w'
set_option maxHeartbeats 1600000 in
theorem indexf_any (A : Option Addr) (n cap : Nat) (d : Nat → Int × Int) (w : World) (hsp : Spans w A n cap d) (hn : n ≤ 1000000) :
    Calls Try.prog 32 #[.slice A n cap, .func (.func 35) #[] #[]] w (IndexV n d w) := by
  have HSP := Lib.hid hsp
  clear hsp
  go_enter Try.func32, Try.ntmps32
  go_wp2
  go_loopw [8] (fun x wr => ∃ (k : Nat), x = .int .i64 k ∧ k ≤ n ∧ Hid (∀ i, i < k → isS (d i)) ∧ Below w.heap.size w wr) (fun x _ => n - (intOf x).toNat)
  case atStart => exact ⟨0, rfl, by omega, Lib.hid (by omega), Below.refl _ _⟩
  case round =>
    obtain ⟨k, rfl, hk, HF, hb⟩ := hrel
    have HBE := Lib.hid hb
    clear hb
    by_cases hkn : k < n
    · obtain ⟨b1, o1, rfl, hb1, hc1⟩ := (HSP.out.below HBE.out).2 (by omega)
      have c0 := (hc1 k hkn).1
      have c1 := (hc1 k hkn).2
      clear hc1
      obtain ⟨x, hx⟩ : ∃ x, x = d k := ⟨_, rfl⟩
      rw [← hx] at c0 c1
      have HX := Lib.hid hx
      clear hx
      have i1 : (k : Int) < (n : Int) := by omega
      obtain ⟨r, hr⟩ : ∃ r, r = isB x := ⟨_, rfl⟩
      have hcall := fun W => notIs_any x W
      simp only [← hr] at hcall
      rw [HX.out] at hr
      have HCALL := Lib.hid hcall
      have HRR := Lib.hid hr
      clear hcall hr
      cases r with
      | true =>
        go_wp2_with (go_at_call 35; refine (HCALL.out _).mono ?_; rintro e w2 ⟨rfl, g2⟩; have HB2 := Lib.hid (HBE.out.trans (below_of_only g2 HBE.out.size (by simp))); clear g2)
        go_roundw
        case rel =>
          refine ⟨k + 1, by go_num, by omega, Lib.hid fun i hi => ?_, HB2.out⟩
          by_cases e : i = k
          · subst e; exact (isB_iff _).1 HRR.out.symm
          · exact HF.out i (by omega)
        case measure => simp [intOf] <;> omega
      | false =>
        go_wp2_with (go_at_call 35; refine (HCALL.out _).mono ?_; rintro e w2 ⟨rfl, g2⟩; have HB2 := Lib.hid (HBE.out.trans (below_of_only g2 HBE.out.size (by simp))); clear g2)
        go_ret
        exact ⟨k, rfl, fun h => absurd h (by omega), by omega, by omega, HB2.out⟩
    · obtain rfl : k = n := by omega
      go_wp2
      go_ret
      exact ⟨-1, rfl, fun _ => HF.out, by omega, by omega, HBE.out⟩

def ContainsV (n : Nat) (d : Nat → Int × Int) (w : World) (e : Ending) (w' : World) : Prop :=
  ∃ r : Bool, e = .returned (.bool r) ∧ (r = false → ∀ i, i < n → isS (d i)) ∧ Below w.heap.size w w'
theorem contains_any (A : Option Addr) (n cap : Nat) (d : Nat → Int × Int) (w : World) (hsp : Spans w A n cap d) (hn : n ≤ 1000000) :
    Calls Try.prog 34 #[.slice A n cap, .func (.func 35) #[] #[]] w (ContainsV n d w) := by
  have hi := indexf_any A n cap d w hsp hn
  have HI := Lib.hid hi
  clear hi hsp
  go_enter Try.func34, Try.ntmps34
  go_wp2_with (go_at_call 32; refine HI.out.mono ?_; rintro e w2 ⟨j, rfl, h1, h2, h3, h4⟩; have H1 := Lib.hid h1; have H4 := Lib.hid h4; clear h1 h4)
  go_ret
  exact ⟨_, rfl, fun h => H1.out (by simp at h; omega), H4.out⟩

/-- What Apart says. -/
def ApartV (n : Nat) (d : Nat → Int × Int) (w : World) (e : Ending) (w' : World) : Prop :=
  ∃ (r : Bool), e = .returned (.bool r) ∧ (r = true → (∀ i, i < n → isS (d i)) ∧ ∃ d', So.Perm 0 n d d' ∧ So.Sorted d' 0 n ∧ ∀ i j, i < j → j < n → isS (d' i) → isS (d' j) → (d' i).2 ≤ (d' j).1) ∧ Below w.heap.size w w'
set_option maxHeartbeats 800000 in
theorem apart_any (A : Option Addr) (n cap : Nat) (d : Nat → Int × Int) (w : World) (hsp : Spans w A n cap d) (hn : n ≤ 60) :
    Calls Try.prog 19 #[.slice A n cap] w (ApartV n d w) := by
  have hi := contains_any A n cap d w hsp (by omega)
  have HI := Lib.hid hi
  have HSP := Lib.hid hsp
  clear hi hsp
  go_enter Try.func19, Try.ntmps19
  go_wp2_with fail
  refine HI.out.mono ?_
  rintro e w2 ⟨r, rfl, h1, h4⟩
  have H1 := Lib.hid h1
  have H4 := Lib.hid h4
  clear h1 h4 HI
  cases r with
  | true =>
    go_wp2
    go_ret
    exact ⟨false, rfl, fun h => (by cases h), H4.out⟩
  | false =>
    go_wp2_with (go_at_call 31; refine (someMeet_any A n cap d _ (HSP.out.below H4.out) hn).mono ?_; rintro e w3 ⟨r, d', rfl, q1, q2, q3, q4⟩; have Q1 := Lib.hid q1; have Q2 := Lib.hid q2; have Q3 := Lib.hid q3; have Q4 := Lib.hid (H4.out.trans (q4.mono H4.out.size)); clear q1 q2 q3 q4)
    go_ret
    exact ⟨!r, rfl, fun h => ⟨H1.out (by first | rfl | trivial), d', Q1.out, Q2.out, Q3.out (by simpa using h)⟩, Q4.out⟩
end Go.Proofs.Ytgineifljofljaa
