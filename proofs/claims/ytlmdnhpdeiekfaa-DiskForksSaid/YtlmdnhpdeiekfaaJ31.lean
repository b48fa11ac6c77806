/- The law's step on both disks; what the device's sectors answer, by rows. -/
import Derived.Test.YtlmdnhpdeiekfaaJ30
namespace Go.Proofs.Ytlmdnhpdeiekfaa
open Go.RowKit Go.Lib
set_option linter.unusedVariables false

theorem noT_at {d : Nat → Prt} {n i : Nat} (he : newE d n = 0) (hi : i < n) : noT (tblN d n) (d i).1 = false ∧ tblN d n (d i).1.toNat = d i := by
  have hmi := mayB_iff.1 (newE_may he i hi)
  have ht := tbl_own he hi
  refine ⟨?_, ht⟩
  unfold noT
  rw [ht]
  simp
  omega
/-- A sector of row i. -/
theorem sect_in {d : Nat → Prt} {n i k : Nat} (S : Nat → UInt8) (he : newE d n = 0) (hi : i < n) (hk : (k : Int) < (d i).2.2) : sectV S (tblN d n) (d i).1 k = (⟨(((rowsL S d i).drop (16 * k)).take 16).toArray⟩, 0) := by
  have hmi := mayB_iff.1 (newE_may he i hi)
  obtain ⟨h1, h2⟩ := noT_at he hi
  have hh : hasB (d i) k 1 = true := by
    unfold hasB
    simp
    omega
  unfold sectV
  rw [h1, h2, hh]
  simp only [if_true, if_false, Bool.false_eq_true]
  unfold rowsL
  rw [secL_cut _ _ _ _ _ (by omega), secS_eq, show ((d i).2.1 + (k : Int)).toNat * 16 = 16 * (d i).2.1.toNat + 16 * k by omega]
/-- Behind a row's last sector. -/
theorem sect_end {d : Nat → Prt} {n i : Nat} (S : Nat → UInt8) (he : newE d n = 0) (hi : i < n) : sectV S (tblN d n) (d i).1 (d i).2.2 = (⟨#[]⟩, 6) := by
  obtain ⟨h1, h2⟩ := noT_at he hi
  have hh : hasB (d i) (d i).2.2 1 = false := by
    unfold hasB
    simp
  unfold sectV
  rw [h1, h2, hh]
  simp
/-- Owner 0 has none. -/
theorem sect_none (S : Nat → UInt8) (T : Nat → Prt) : sectV S T 0 0 = (⟨#[]⟩, 7) := by
  unfold sectV noT
  simp
section
variable {w w1 w' : World} {d : Nat → Prt} {n b x : Nat} {A : Option Addr} {c B : Nat} {S : Nat → UInt8} {bz : Bool} {jd jr : Jb} {sd sr : Int} {bv v : Value} {E : Nat → Value} {m : Nat} {rc : Nat → Rec}
/-- The law's step. -/
theorem step14_any (h : Tw w d n b x A c B S bz jd jr sd sr bv v E m rc) (he : newE d n = 0) (hn : n ≤ 8) (kd tick : Int) (j : Jb) (ht : fitI tick) (hj : FitJ j) (hm : m ≤ 900) :
    Calls Try.prog 11 #[.pointer (some ⟨b, 0, none⟩), .pointer (some ⟨x, 0, none⟩), .agg #[.int .i64 kd, .int .i64 tick, .int .i64 j.1, .int .i64 j.2.1, .int .i64 j.2.2.1, .bool j.2.2.2.1, .string j.2.2.2.2]] w (StepT w d n b x A c B m bv v) := by
  by_cases hkd : kd = 0
  · exact step14_start h he hn kd tick j hkd ht hj hm
  · exact step14_end h he hn kd tick j hkd ht hj hm
end
end Go.Proofs.Ytlmdnhpdeiekfaa
