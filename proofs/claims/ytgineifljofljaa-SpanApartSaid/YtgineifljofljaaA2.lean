/- First: sort.Search over someMeet: the contracts. -/
import Derived.Test.YtgineifljofljaaA1
namespace Go.Proofs.Ytgineifljofljaa
open Go.RowKit Go.Lib Go.Sort
set_option linter.unusedVariables false

/-- The spans lie as a value in block g. -/
def Boxed (w : World) (g : Nat) (A : Option Addr) (n cap : Nat) : Prop := w.cell? ⟨g, 0, none⟩ = some (.slice A n cap) ∧ g < w.heap.size
theorem Boxed.below {w w' : World} {g : Nat} {A : Option Addr} {n cap : Nat} (h : Boxed w g A n cap) (hb : Below w.heap.size w w') : Boxed w' g A n cap := ⟨(hb.cell (p := ⟨g, 0, none⟩) h.2).trans h.1, Nat.lt_of_lt_of_le h.2 hb.size⟩

theorem some_at (A : Option Addr) (n cap : Nat) (d : Nat → Int × Int) (g k : Nat) (w : World) (hsp : Spans w A n cap d) (hn : n ≤ 60) (hc : n ≤ cap) (hg : Boxed w g A n cap) (hk : k < n) (hcap : cap ≤ 9223372036854775807) :
    Calls Try.prog 30 #[.int .i64 k, .pointer (some ⟨g, 0, none⟩)] w fun e w' => e = .returned (.bool (pairB d (k + 1))) ∧ Below w.heap.size w w' := by
  have hs := some_any A (k + 1) cap d w (hsp.cut (k + 1) (by omega)) (by omega)
  obtain ⟨r, hr⟩ : ∃ r, r = pairB d (k + 1) := ⟨_, rfl⟩
  rw [← hr] at hs ⊢
  have HS := Lib.hid hs
  have c0 := hg.1
  have i1 : (k : Int) + 1 ≤ (cap : Int) := by omega
  have i2 : (k : Int) + 1 ≤ (n : Int) := by omega
  clear hs hsp hg hr
  go_enter Try.func30, Try.ntmps30
  go_wp2_with (go_at_call 31; refine HS.out.mono ?_; rintro e w2 ⟨rfl, b2⟩)
  go_ret
  exact ⟨rfl, b2⟩

/-- The least k for which two of the first k + 1 meet. -/
def LeastV (d : Nat → Int × Int) (n : Nat) (w : World) (e : Ending) (w' : World) : Prop :=
  ∃ k : Nat, e = .returned (.int .i64 k) ∧ k ≤ n ∧ pairB d k = false ∧ (k < n → pairB d (k + 1) = true) ∧ Below w.heap.size w w'
theorem pair_more {d : Nat → Int × Int} {a b : Nat} (h : a ≤ b) (hp : pairB d b = false) : pairB d a = false :=
  (pairB_none d a).2 fun k hk i hi => (pairB_none d b).1 hp k (by omega) i hi

set_option maxHeartbeats 1600000 in
theorem search_any (A : Option Addr) (n cap : Nat) (d : Nat → Int × Int) (g : Nat) (w : World) (hsp : Spans w A n cap d) (hn : n ≤ 60) (hc : n ≤ cap) (hg : Boxed w g A n cap) (hcap : cap ≤ 9223372036854775807) :
    Calls Try.prog 29 #[.int .i64 n, .func (.func 30) #[] #[.pointer (some ⟨g, 0, none⟩)]] w (LeastV d n w) := by
  have HSP := Lib.hid hsp
  have HGB := Lib.hid hg
  clear hsp hg
  go_enter Try.func29, Try.ntmps29
  go_wp2
  go_loopw [5, 6] (fun x y wr => ∃ (i j : Nat), x = .int .i64 i ∧ y = .int .i64 j ∧ i ≤ j ∧ j ≤ n ∧ Hid (pairB d i = false) ∧ Hid (j < n → pairB d (j + 1) = true) ∧ Below w.heap.size w wr) (fun x y _ => (intOf y).toNat - (intOf x).toNat)
  case atStart => exact ⟨0, n, rfl, rfl, by omega, by omega, Lib.hid ((pairB_none d 0).2 (fun k hk => by omega)), Lib.hid (fun h => by omega), Below.refl _ _⟩
  case round =>
    obtain ⟨i, j, rfl, rfl, hij, hj, HI, HJ, hb⟩ := hrel
    have HBE := Lib.hid hb
    clear hb
    by_cases hlt : i < j
    · obtain ⟨k, hk⟩ : ∃ k, k = (i + j) / 2 := ⟨_, rfl⟩
      have j3 : IntKind.i64.wrap ((i : Int) + (j : Int)) = ((i + j : Nat) : Int) := by rw [IntKind.wrap_i64]; omega
      have j4 : (i : Int) < (j : Int) := by omega
      have j5 : ((i : Int) + (j : Int)) / 2 = (k : Int) := by omega
      have hik : i ≤ k := by omega
      have hkj : k < j := by omega
      clear hk
      obtain ⟨r, hr⟩ : ∃ r, r = pairB d (k + 1) := ⟨_, rfl⟩
      have hcall := some_at A n cap d g k wr (HSP.out.below HBE.out) hn hc (HGB.out.below HBE.out) (by omega) hcap
      rw [← hr] at hcall
      have HCALL := Lib.hid hcall
      have HR := Lib.hid hr
      clear hcall hr
      cases r with
      | true =>
        go_wp2_with (go_at_call 30; refine HCALL.out.mono ?_; rintro e w2 ⟨rfl, b2⟩; have HB2 := Lib.hid (HBE.out.trans (b2.mono HBE.out.size)); clear b2)
        go_roundw
        case rel => exact ⟨i, k, rfl, by first | rfl | go_num, by omega, by omega, HI, Lib.hid (fun _ => HR.out.symm), HB2.out⟩
        case measure => simp [intOf] <;> omega
      | false =>
        go_wp2_with (go_at_call 30; refine HCALL.out.mono ?_; rintro e w2 ⟨rfl, b2⟩; have HB2 := Lib.hid (HBE.out.trans (b2.mono HBE.out.size)); clear b2)
        go_roundw
        case rel => exact ⟨k + 1, j, by first | rfl | go_num, rfl, by omega, by omega, Lib.hid HR.out.symm, HJ, HB2.out⟩
        case measure => simp [intOf] <;> omega
    · obtain rfl : i = j := by omega
      go_wp2
      go_ret
      exact ⟨i, rfl, hj, HI.out, HJ.out, HBE.out⟩
end Go.Proofs.Ytgineifljofljaa
