/- The document's rows of bits: a bit, a power, what is latched and delivered, by contract. -/
import Derived.Test.YtbbgijjeimjgoaaLA4
namespace Go.Proofs.Ytbbgijjeimjgoaa
open Go.RowKit Go.Lib
set_option linter.unusedVariables false
set_option maxRecDepth 8000

theorem Lt.half (b k : Nat) : b / 2 ^ k / 2 = b / 2 ^ (k + 1) := by rw [Nat.div_div_eq_div_mul, Nat.pow_succ]
set_option maxHeartbeats 800000 in
theorem Lt.bit_any (b k : Nat) (hb : b < 256) (hk : k < 8) (w : World) : Calls Try.prog 22 #[.int .i64 b, .int .i64 k] w fun e w' => e = .returned (.bool (b.testBit k)) ∧ w = w' := by
  have HF := Lib.hid (show b.testBit k = decide (((b / 2 ^ k % 2 : Nat) : Int) = 1) from by
    rw [Nat.testBit_eq_decide_div_mod_eq]
    congr 1
    apply propext
    omega)
  generalize b.testBit k = r at *
  have HB := Lib.hid hb
  clear hb
  go_enter Try.func22, Try.ntmps22
  go_wp2
  go_loopw [0, 5] (fun x y wr => ∃ i z : Nat, x = .int .i64 z ∧ y = .int .i64 i ∧ i ≤ k ∧ Hid (z = b / 2 ^ i) ∧ z < 256 ∧ w = wr) (fun _ y _ => 8 - (intOf y).toNat)
  case atStart => exact ⟨0, b, rfl, rfl, Nat.zero_le _, Lib.hid (by simp), HB.out, rfl⟩
  case round =>
    obtain ⟨i, z, rfl, rfl, hi, HZ, hz, rfl⟩ := hrel
    have z0 : (0 : Int) ≤ (z : Int) := by omega
    by_cases hin : i < k
    · have i1 : (i : Int) < (k : Int) := by omega
      have HZ2 := Lib.hid (show z / 2 = b / 2 ^ (i + 1) ∧ z / 2 < 256 from ⟨by rw [HZ.out, Lt.half], by omega⟩)
      have HI := Lib.hid (show i + 1 ≤ k ∧ k < 8 from ⟨by omega, hk⟩)
      go_wp2
      go_roundw
      case rel => exact ⟨i + 1, z / 2, by first | rfl | go_num | (simp; done) | (congr 1; omega), by go_num, HI.out.1, Lib.hid HZ2.out.1, HZ2.out.2, by first | rfl | trivial⟩
      case measure =>
        have := HI.out
        simp [intOf]
        omega
    · obtain rfl : i = k := by omega
      have HR := Lib.hid (show r = decide (((z % 2 : Nat) : Int) = 1) from by rw [HF.out, HZ.out])
      go_wp2
      go_ret
      exact ⟨by rw [HR.out]; simp [BEq.beq]; try rfl, rfl⟩
set_option maxHeartbeats 800000 in
theorem Lt.power_any (k : Nat) (hk : k < 8) (w : World) : Calls Try.prog 23 #[.int .i64 k] w fun e w' => e = .returned (.int .i64 (2 ^ k : Nat)) ∧ w = w' := by
  have HX := Lib.hid (show ∀ i, i < 8 → 2 ^ i ≤ 128 from fun i hi => Nat.pow_le_pow_right (n := 2) (by omega) (show i ≤ 7 by omega))
  have HS := Lib.hid (show ∀ i, 2 * 2 ^ i = 2 ^ (i + 1) from fun i => by rw [Nat.pow_succ]; omega)
  have H0 := Lib.hid (show 2 ^ 0 = 1 from rfl)
  obtain ⟨f, hf⟩ : ∃ f : Nat → Nat, f = fun i => 2 ^ i := ⟨_, rfl⟩
  have hk2 : 2 ^ k = f k := by rw [hf]
  rw [hk2]
  replace HX := Lib.hid (show ∀ i, i < 8 → f i ≤ 128 from fun i hi => by rw [hf]; exact HX.out i hi)
  replace HS := Lib.hid (show ∀ i, 2 * f i = f (i + 1) from fun i => by rw [hf]; exact HS.out i)
  replace H0 := Lib.hid (show f 0 = 1 from by rw [hf])
  clear hf hk2
  go_enter Try.func23, Try.ntmps23
  go_wp2
  go_loopw [3, 4] (fun x y wr => ∃ i z : Nat, x = .int .i64 z ∧ y = .int .i64 i ∧ i ≤ k ∧ Hid (z = f i) ∧ z ≤ 128 ∧ w = wr) (fun _ y _ => 8 - (intOf y).toNat)
  case atStart => exact ⟨0, 1, rfl, rfl, Nat.zero_le _, Lib.hid H0.out.symm, by omega, rfl⟩
  case round =>
    obtain ⟨i, z, rfl, rfl, hi, HZ, hz, rfl⟩ := hrel
    by_cases hin : i < k
    · have i1 : (i : Int) < (k : Int) := by omega
      have z0 : (0 : Int) ≤ (z : Int) := by omega
      have HZ2 := Lib.hid (show 2 * z = f (i + 1) ∧ 2 * z ≤ 128 from by
        have a := HS.out i
        have b := HX.out (i + 1) (by omega)
        rw [← HZ.out] at a
        exact ⟨a, by omega⟩)
      have HI := Lib.hid (show i + 1 ≤ k ∧ k < 8 from ⟨by omega, hk⟩)
      go_wp2
      go_roundw
      case rel => exact ⟨i + 1, 2 * z, by go_num, by go_num, HI.out.1, Lib.hid HZ2.out.1, HZ2.out.2, by first | rfl | trivial⟩
      case measure =>
        have := HI.out
        simp [intOf]
        omega
    · obtain rfl : i = k := by omega
      go_wp2
      go_ret
      exact ⟨by rw [HZ.out]; rfl, rfl⟩
/-- What a row's cells are good for in a walk. -/
theorem Lt.row_r {w : World} {b : Nat} {r : Nat → Nat} {d : Nat → Bool} (h : Blk w b 46 (Lt.rowC r d)) {k : Nat} (hk : k < 8) : w.cell? ⟨b, k, none⟩ = some (.int .i64 (r k)) := (h.cell k).trans (Lt.rowC_r r d hk)
theorem Lt.row_d {w : World} {b : Nat} {r : Nat → Nat} {d : Nat → Bool} (h : Blk w b 46 (Lt.rowC r d)) {k : Nat} (hk : k < 8) : w.cell? ⟨b, 8 + k, none⟩ = some (.bool (d k)) := (h.cell (8 + k)).trans (Lt.rowC_d r d hk)
set_option maxHeartbeats 1600000 in
theorem Lt.rlatched_any (j n m : Nat) (r : Nat → Nat) (d : Nat → Bool) (w : World) (h : Lt.Rw j n m r d) : Calls Try.prog 19 #[.agg (Lt.rowC r d)] w fun e w' => e = .returned (.int .i64 n) ∧ w.grownBy w' none := by
  obtain ⟨W, hW, G, P, Z⟩ := Lt.box1 w 46 (Lt.rowC r d)
  have HL := Lib.hid (show n = Lt.lat (fun i => decide (0 < r i)) 8 from h.latched.symm)
  have HT := Lib.hid (Lt.lat_lt (fun i => decide (0 < r i)))
  have HP := Lib.hid P
  have HG := Lib.hid G
  have HS := Lib.hid (show ∀ k, Lt.lat (fun i => decide (0 < r i)) (k + 1) = Lt.lat (fun i => decide (0 < r i)) k + if decide (0 < r k) = true then 2 ^ k else 0 from fun k => rfl)
  have H0 := Lib.hid (show Lt.lat (fun i => decide (0 < r i)) 0 = 0 from rfl)
  generalize Lt.lat (fun i => decide (0 < r i)) = f at *
  clear P G h
  go_enter Try.func19, Try.ntmps19
  go_upto_region 1 with (fail)
  try rw [← hW]
  clear hW
  go_wp2
  go_loopw [3, 4] (fun x y wr => ∃ k z : Nat, x = .int .i64 z ∧ y = .int .i64 k ∧ k ≤ 8 ∧ Hid (z = f k) ∧ z < 256 ∧ W = wr) (fun _ y _ => 8 - (intOf y).toNat)
  case atStart => exact ⟨0, 0, rfl, rfl, Nat.zero_le _, Lib.hid H0.out.symm, by omega, rfl⟩
  case round =>
    obtain ⟨k, z, rfl, rfl, hk, HZ, hz, rfl⟩ := hrel
    by_cases hin : k < 8
    · have i1 : (k : Int) < 8 := by omega
      have i0 : (0 : Int) ≤ (k : Int) := by omega
      have c0 := Lt.row_r HP.out hin
      have HI := Lib.hid (show k + 1 ≤ 8 from hin)
      have HQ := Lib.hid (Lt.power_any k hin W)
      have hp : 2 ^ k ≤ 128 := Nat.pow_le_pow_right (n := 2) (by omega) (show k ≤ 7 by omega)
      by_cases hr : 0 < r k
      · have i2 : (0 : Int) < ((r k : Nat) : Int) := by omega
        have HZ2 := Lib.hid (show z + 2 ^ k = f (k + 1) ∧ z + 2 ^ k < 256 from by
          have a := HS.out k
          rw [if_pos (by simpa using hr), ← HZ.out] at a
          have b := HT.out (k + 1)
          rw [a] at b
          have c : 2 ^ (k + 1) ≤ 256 := Nat.pow_le_pow_right (n := 2) (by omega) (show k + 1 ≤ 8 by omega)
          exact ⟨a.symm, by omega⟩)
        generalize 2 ^ k = q at *
        have q0 : (0 : Int) ≤ (q : Int) := by omega
        have q1 : (q : Int) ≤ 128 := by omega
        clear hp
        go_wp2_with (go_at_call 23; (with_reducible refine HQ.out.mono ?_); rintro e w' ⟨rfl, rfl⟩)
        go_roundw
        case rel => exact ⟨k + 1, z + q, by go_num, by go_num, HI.out, Lib.hid HZ2.out.1, HZ2.out.2, by first | rfl | trivial⟩
        case measure =>
          have := HI.out
          simp [intOf]
          omega
      · have i2 : ¬ (0 : Int) < ((r k : Nat) : Int) := by omega
        have HZ2 := Lib.hid (show z = f (k + 1) from by
          have a := HS.out k
          rw [if_neg (by simpa using hr), ← HZ.out] at a
          omega)
        clear hp HQ
        go_wp2
        go_roundw
        case rel => exact ⟨k + 1, z, by first | rfl | go_num, by go_num, HI.out, HZ2, by omega, by first | rfl | trivial⟩
        case measure =>
          have := HI.out
          simp [intOf]
          omega
    · obtain rfl : k = 8 := by omega
      have HE := Lib.hid (show n = z from by rw [HL.out, HZ.out])
      go_wp2
      go_ret
      exact ⟨by rw [HE.out]; rfl, HG.out⟩
set_option maxHeartbeats 1600000 in
theorem Lt.rdelivered_any (j n m : Nat) (r : Nat → Nat) (d : Nat → Bool) (w : World) (h : Lt.Rw j n m r d) : Calls Try.prog 20 #[.agg (Lt.rowC r d)] w fun e w' => e = .returned (.int .i64 m) ∧ w.grownBy w' none := by
  obtain ⟨W, hW, G, P, Z⟩ := Lt.box1 w 46 (Lt.rowC r d)
  have HL := Lib.hid (show m = Lt.lat d 8 from h.delivered.symm)
  have HT := Lib.hid (Lt.lat_lt d)
  have HP := Lib.hid P
  have HG := Lib.hid G
  have HS := Lib.hid (show ∀ k, Lt.lat d (k + 1) = Lt.lat d k + if d k = true then 2 ^ k else 0 from fun k => rfl)
  have H0 := Lib.hid (show Lt.lat d 0 = 0 from rfl)
  generalize Lt.lat d = f at *
  clear P G h
  go_enter Try.func20, Try.ntmps20
  go_upto_region 1 with (fail)
  try rw [← hW]
  clear hW
  go_wp2
  go_loopw [3, 4] (fun x y wr => ∃ k z : Nat, x = .int .i64 z ∧ y = .int .i64 k ∧ k ≤ 8 ∧ Hid (z = f k) ∧ z < 256 ∧ W = wr) (fun _ y _ => 8 - (intOf y).toNat)
  case atStart => exact ⟨0, 0, rfl, rfl, Nat.zero_le _, Lib.hid H0.out.symm, by omega, rfl⟩
  case round =>
    obtain ⟨k, z, rfl, rfl, hk, HZ, hz, rfl⟩ := hrel
    by_cases hin : k < 8
    · have i1 : (k : Int) < 8 := by omega
      have i0 : (0 : Int) ≤ (k : Int) := by omega
      have c0 := Lt.row_d HP.out hin
      have HI := Lib.hid (show k + 1 ≤ 8 from hin)
      have HQ := Lib.hid (Lt.power_any k hin W)
      have hp : 2 ^ k ≤ 128 := Nat.pow_le_pow_right (n := 2) (by omega) (show k ≤ 7 by omega)
      cases hr : d k with
      | true =>
        have HZ2 := Lib.hid (show z + 2 ^ k = f (k + 1) ∧ z + 2 ^ k < 256 from by
          have a := HS.out k
          rw [if_pos hr, ← HZ.out] at a
          have b := HT.out (k + 1)
          rw [a] at b
          have c : 2 ^ (k + 1) ≤ 256 := Nat.pow_le_pow_right (n := 2) (by omega) (show k + 1 ≤ 8 by omega)
          exact ⟨a.symm, by omega⟩)
        rw [hr] at c0
        clear hr
        generalize 2 ^ k = q at *
        have q0 : (0 : Int) ≤ (q : Int) := by omega
        have q1 : (q : Int) ≤ 128 := by omega
        clear hp
        go_wp2_with (go_at_call 23; (with_reducible refine HQ.out.mono ?_); rintro e w' ⟨rfl, rfl⟩)
        go_roundw
        case rel => exact ⟨k + 1, z + q, by go_num, by go_num, HI.out, Lib.hid HZ2.out.1, HZ2.out.2, by first | rfl | trivial⟩
        case measure =>
          have := HI.out
          simp [intOf]
          omega
      | false =>
        have HZ2 := Lib.hid (show z = f (k + 1) from by
          have a := HS.out k
          rw [if_neg (by simp [hr]), ← HZ.out] at a
          omega)
        rw [hr] at c0
        clear hp HQ hr
        go_wp2
        go_roundw
        case rel => exact ⟨k + 1, z, by first | rfl | go_num, by go_num, HI.out, HZ2, by omega, by first | rfl | trivial⟩
        case measure =>
          have := HI.out
          simp [intOf]
          omega
    · obtain rfl : k = 8 := by omega
      have HE := Lib.hid (show m = z from by rw [HL.out, HZ.out])
      go_wp2
      go_ret
      exact ⟨by rw [HE.out]; rfl, HG.out⟩
end Go.Proofs.Ytbbgijjeimjgoaa
