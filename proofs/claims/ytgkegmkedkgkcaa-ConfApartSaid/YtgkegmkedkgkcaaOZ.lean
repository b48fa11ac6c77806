/- Which two meet first, for tables: the contract of the document's First. -/
import Derived.Test.YtgkegmkedkgkcaaO28
import Derived.Lib.QuietBelow
namespace Go.Proofs.Ytgkegmkedkgkcaa
open Go.RowKit Go.Lib Go.Sort
set_option linter.unusedVariables false

/-- The first two of n spans that meet, or that none do. -/
def First (d : Nat → Int × Int) (n : Nat) (x y : Int) : Prop :=
  (x = -1 ∧ y = -1 ∧ ∀ k, k < n → ∀ i, i < k → meetsB (d i) (d k) = false) ∨
  ∃ i k : Nat, x = i ∧ y = k ∧ i < k ∧ k < n ∧ meetsB (d i) (d k) = true ∧ (∀ j, j < i → meetsB (d j) (d k) = false) ∧ ∀ k', k' < k → ∀ j, j < k' → meetsB (d j) (d k') = false
def FirstV (d : Nat → Int × Int) (n : Nat) (w : World) (e : Ending) (w' : World) : Prop :=
  ∃ x y : Int, e = .returned (.tuple #[.int .i64 x, .int .i64 y]) ∧ First d n x y ∧ Below w.heap.size w w'

set_option maxRecDepth 100000 in
set_option maxHeartbeats 3200000 in
theorem rfirst_any (A : Option Addr) (n cap : Nat) (d : Nat → Int × Int) (w : World) (hsp : Spans w A n cap d) (hn : n ≤ 1000000) :
    Calls Try.prog 10 #[.slice A n cap] w (FirstV d n w) := by
  have HSP := Lib.hid hsp
  clear hsp
  go_enter Try.func10, Try.ntmps10
  go_wp2
  go_loopw [4] (fun x wr => ∃ (k : Nat), x = .int .i64 k ∧ k ≤ n ∧ Hid (∀ k', k' < k → ∀ j, j < k' → meetsB (d j) (d k') = false) ∧ Below w.heap.size w wr) (fun x _ => n - (intOf x).toNat)
  case atStart => exact ⟨0, rfl, by omega, Lib.hid (fun k' h => by omega), Below.refl _ _⟩
  case round =>
    obtain ⟨k, rfl, hk, HK, hb⟩ := hrel
    have HBE := Lib.hid hb
    clear hb
    by_cases hkn : k < n
    · obtain ⟨b, off, rfl, hbl, hc0⟩ := HSP.out.2 (by omega)
      have HC := Lib.hid hc0
      clear hc0
      have i1 : (k : Int) < (n : Int) := by omega
      go_wp2
      go_loopw [5] (fun x wq => ∃ (i : Nat), x = .int .i64 i ∧ i ≤ k ∧ Hid (∀ j, j < i → meetsB (d j) (d k) = false) ∧ Below w.heap.size w wq) (fun x _ => k - (intOf x).toNat)
      case atStart => exact ⟨0, rfl, by omega, Lib.hid (fun j h => by omega), HBE.out⟩
      case round =>
        obtain ⟨i, rfl, hi, HI, hb2⟩ := hrel
        have HB2 := Lib.hid hb2
        clear hb2
        by_cases hik : i < k
        · have c0 := (HB2.out.cell (p := ⟨b, off + i * 2, none⟩) hbl).trans (HC.out i (by omega)).1
          have c1 := (HB2.out.cell (p := ⟨b, off + i * 2 + 1, none⟩) hbl).trans (HC.out i (by omega)).2
          have c2 := (HB2.out.cell (p := ⟨b, off + k * 2, none⟩) hbl).trans (HC.out k hkn).1
          have c3 := (HB2.out.cell (p := ⟨b, off + k * 2 + 1, none⟩) hbl).trans (HC.out k hkn).2
          have i2 : (i : Int) < (n : Int) := by omega
          have i3 : (i : Int) < (k : Int) := by omega
          obtain ⟨r, hr⟩ : ∃ r, r = meetsB (d i) (d k) := ⟨_, rfl⟩
          have hcall : ∀ W, Calls Try.prog 17 #[spv (d i), spv (d k)] W fun e w' => e = .returned (.bool r) ∧ Below W.heap.size W w' := fun W => (meets_any (d i) (d k) W).mono fun e w' ⟨h1, h2⟩ => ⟨by rw [h1, hr], below_of_only h2 (Nat.le_refl _) (by simp)⟩
          obtain ⟨x, hx⟩ : ∃ x, x = d i := ⟨_, rfl⟩
          obtain ⟨y, hy⟩ : ∃ y, y = d k := ⟨_, rfl⟩
          rw [← hx] at c0 c1 hcall
          rw [← hy] at c2 c3 hcall
          have HCALL := Lib.hid hcall
          have HR := Lib.hid hr
          have k0 := fun d os => cell_regrown c0 d os
          have k1 := fun d os => cell_regrown c1 d os
          have k2 := fun d os => cell_regrown c2 d os
          have k3 := fun d os => cell_regrown c3 d os
          clear hx hy hcall hr c0 c1 c2 c3
          go_wp2
          refine wp_region_quiet_below (by kernel_rfl) (by kernel_rfl) ?_
          repeat (quiet_step ((go_at_call 17; exact Calls.regrown_of (HCALL.out _))))
          refine wpQuiet_nil ?_
          rintro _ ⟨⟨dq, osq⟩, rfl⟩
          have hbq := HB2.out.trans ((below_regrown wr dq osq).mono HB2.out.size)
          generalize grow (redrawn wr dq) osq = w9 at hbq ⊢
          have HBQ := Lib.hid hbq
          clear hbq k0 k1 k2 k3
          cases r with
          | true =>
            go_wp2
            go_ret2
            exact ⟨_, _, rfl, .inr ⟨i, k, rfl, rfl, hik, hkn, HR.out.symm, HI.out, HK.out⟩, HBQ.out⟩
          | false =>
            go_wp2
            go_roundw
            case rel =>
              refine ⟨i + 1, by go_num, by omega, Lib.hid fun j hj => ?_, HBQ.out⟩
              by_cases e : j = i
              · subst e; exact HR.out.symm
              · exact HI.out j (by omega)
            case measure => simp [intOf] <;> omega
        · obtain rfl : i = k := by omega
          go_wp2
          go_roundw
          case rel =>
            refine ⟨i + 1, by go_num, by omega, Lib.hid fun k' hk' => ?_, HB2.out⟩
            by_cases e : k' = i
            · subst e; exact HI.out
            · exact HK.out k' (by omega)
          case measure => simp [intOf] <;> omega
    · obtain rfl : k = n := by omega
      go_wp2
      go_ret2
      exact ⟨_, _, rfl, .inl ⟨rfl, rfl, HK.out⟩, HBE.out⟩
end Go.Proofs.Ytgkegmkedkgkcaa
