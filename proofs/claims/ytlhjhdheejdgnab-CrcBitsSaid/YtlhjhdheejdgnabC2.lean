/- The check of sixteen bits: in how many bits texts are unlike, each by its contract; and the law's walk. -/
import Derived.Test.YtlhjhdheejdgnabC1
import Derived.Laws.BitsAllLaws
namespace Go.Proofs.Ytlhjhdheejdgnab
open Go.RowKit Go.Lib
set_option linter.unusedVariables false

namespace Cr
/-- In how many of their first k bits two bytes are unlike. -/
def unB (x y : Nat) : Nat → Nat
  | 0 => 0
  | k + 1 => unB x y k + if bitOf x k = bitOf y k then 0 else 1
def byteAt (s : ByteArray) (i : Nat) : Nat := if h : i < s.size then s[i].toNat else 0
/-- In how many bits of their first i bytes two texts are unlike. -/
def unT (a b : ByteArray) : Nat → Nat
  | 0 => 0
  | i + 1 => unT a b i + unB (byteAt a i) (byteAt b i) 8

theorem unB_le (x y k : Nat) : unB x y k ≤ k := by
  induction k with
  | zero => simp [unB]
  | succ k ih => rw [unB]; split <;> omega
theorem unB_same (x k : Nat) : unB x x k = 0 := by
  induction k with
  | zero => simp [unB]
  | succ k ih => rw [unB, ih]; simp
theorem unT_le (a b : ByteArray) (i : Nat) : unT a b i ≤ 8 * i := by
  induction i with
  | zero => simp [unT]
  | succ i ih => rw [unT]; have := unB_le (byteAt a i) (byteAt b i) 8; omega
theorem unT_same (a : ByteArray) (i : Nat) : unT a a i = 0 := by
  induction i with
  | zero => simp [unT]
  | succ i ih => rw [unT, ih, unB_same]
theorem bitOf_xor (x y k : Nat) : bitOf (x ^^^ y) k = if bitOf x k = bitOf y k then 0 else 1 := by
  unfold bitOf
  rw [Nat.xor_div_two_pow, xor_mod2]
theorem unB_xor (x y k : Nat) : unB x y k = unB (x ^^^ y) 0 k := by
  induction k with
  | zero => simp [unB]
  | succ k ih =>
    rw [unB, unB, ih, bitOf_xor]
    have : bitOf 0 k = 0 := by simp [bitOf]
    rw [this]
    split <;> simp_all
theorem ones_all : ∀ n : Fin 256, Bt.ones 16 n.val = unB n.val 0 8 := by decide +kernel
theorem ones_xor (x y : Nat) (hx : x < 256) (hy : y < 256) : Bt.ones 16 (x ^^^ y) = unB x y 8 := by
  have h : x ^^^ y < 2 ^ 8 := Nat.xor_lt_two_pow (by omega) (by omega)
  rw [unB_xor]
  exact ones_all ⟨x ^^^ y, by omega⟩
theorem byteAt_lt (s : ByteArray) (i : Nat) : byteAt s i < 256 := by
  unfold byteAt
  split
  · exact byte_lt _
  · omega
end Cr

theorem cbits_any (a b : ByteArray) (w : World) (h : a.size = b.size) (hs : a.size ≤ 1000) : Calls Try.prog 12 #[.string a, .string b] w fun e w' => e = .returned (.int .i64 (Cr.unT a b a.size)) ∧ ∃ q, w.drewN q = w' := by
  have hz : (a.size : Int) = (b.size : Int) := by omega
  have hne : ((a.size : Int) != (b.size : Int)) = false := by simp [hz]
  obtain ⟨n, hn⟩ : ∃ n, n = a.size := ⟨_, rfl⟩
  have ha : (a.size : Int) = (n : Int) := by omega
  have hb : (b.size : Int) = (n : Int) := by omega
  go_enter Try.func12, Try.ntmps12
  go_wp2
  go_loopw [5, 14] (fun c k wr => ∃ (x i q : Nat), c = .int .i64 x ∧ k = .int .i64 i ∧ i ≤ n ∧ x ≤ 8 * i ∧ Hid (x = Cr.unT a b i) ∧ wr = w.drewN q) (fun _ k _ => (n - intOf k).toNat)
  case atStart => exact ⟨0, 0, 0, rfl, rfl, by omega, by omega, by unfold Hid; simp [Cr.unT], rfl⟩
  case round =>
    obtain ⟨x, i, q, rfl, rfl, hi, hx, H, rfl⟩ := hrel
    by_cases h8 : i < n
    · have ia : i < a.size := by omega
      have ib : i < b.size := by omega
      have ia' : (i : Int) < (a.size : Int) := by omega
      have ib' : (i : Int) < (b.size : Int) := by omega
      have l1 := byte_lt a[i]
      have l2 := byte_lt b[i]
      have hx8 := u8_xor_nat a[i].toNat b[i].toNat l1 l2
      have hxl : a[i].toNat ^^^ b[i].toNat < 2 ^ 8 := Nat.xor_lt_two_pow (by omega) (by omega)
      have hw : wrap64 ((a[i].toNat ^^^ b[i].toNat : Nat) : Int) = ((a[i].toNat ^^^ b[i].toNat : Nat) : Int) := IntWalk.wrap64_in _ ⟨by omega, by omega⟩
      have hc : ∀ w, Calls Try.prog 17 #[.int .i64 ((a[i].toNat ^^^ b[i].toNat : Nat) : Int)] w fun e w' => e = .returned (.int .i64 ((Cr.unB a[i].toNat b[i].toNat 8 : Nat) : Int)) ∧ ∃ q, w.drewN q = w' := fun w => by
        have := count_any ((a[i].toNat ^^^ b[i].toNat : Nat) : Int) w
        have e : (((a[i].toNat ^^^ b[i].toNat : Nat) : Int) % 65536).toNat = a[i].toNat ^^^ b[i].toNat := by omega
        rw [e, Cr.ones_xor _ _ l1 l2] at this
        exact this
      have hn : x + Cr.unB a[i].toNat b[i].toNat 8 = Cr.unT a b (i + 1) := by
        rw [Cr.unT, Cr.byteAt, Cr.byteAt, dif_pos ia, dif_pos ib, H.out]
      have hl := Cr.unB_le a[i].toNat b[i].toNat 8
      generalize Cr.unB a[i].toNat b[i].toNat 8 = y at hc hn hl
      generalize a[i].toNat ^^^ b[i].toNat = z at hx8 hw hc
      have HC := Lib.hid hc
      have HN := Lib.hid hn
      clear hc hn H hxl
      go_wp2
      go_quiet ((go_at_call 17; with_reducible exact quiet_draws2 (HC.out _)))
      go_wp2
      go_round
      case rel =>
        exact ⟨x + y, i + 1, _, by go_num, by go_num, by omega, by omega, HN, rfl⟩
      case measure => simp [intOf]; omega
    · obtain rfl : i = n := by omega
      go_wp2
      go_ret
      exact ⟨ret_int (by rw [H.out, hn]), q, rfl⟩

theorem cbits_off (a b : ByteArray) (w : World) (h : a.size ≠ b.size) : Calls Try.prog 12 #[.string a, .string b] w fun e w' => e = .returned (.int .i64 (-1)) ∧ w = w' := by
  have hne : ((a.size : Int) != (b.size : Int)) = true := bne_iff_ne.2 (by omega)
  clear h
  go_enter Try.func12, Try.ntmps12
  go_wp2
  go_ret
  exact ⟨rfl, rfl⟩

theorem unlike_any (a b : ByteArray) (w : World) (h : a.size = b.size) (hs : a.size ≤ 1000) : Calls Try.prog 13 #[.string a, .string b] w fun e w' => e = .returned (.int .i64 (Cr.unT a b a.size)) ∧ ∃ q, w.drewN q = w' := by
  obtain ⟨n, hn⟩ : ∃ n, n = a.size := ⟨_, rfl⟩
  have ha : (a.size : Int) = (n : Int) := by omega
  go_enter Try.func13, Try.ntmps13
  go_wp2
  go_loopw [5, 6] (fun c k wr => ∃ (x i q : Nat), c = .int .i64 x ∧ k = .int .i64 i ∧ i ≤ n ∧ x ≤ 8 * i ∧ Hid (x = Cr.unT a b i) ∧ wr = w.drewN q) (fun _ k _ => (n - intOf k).toNat)
  case atStart => exact ⟨0, 0, 0, rfl, rfl, by omega, by omega, by unfold Hid; simp [Cr.unT], rfl⟩
  case round =>
    obtain ⟨x, i, q, rfl, rfl, hi, hx, H, rfl⟩ := hrel
    by_cases h8 : i < n
    · have ia : i < a.size := by omega
      have ib : i < b.size := by omega
      have ia' : (i : Int) < (a.size : Int) := by omega
      have ib' : (i : Int) < (b.size : Int) := by omega
      have l1 := byte_lt a[i]
      have l2 := byte_lt b[i]
      have hn2 : x + Cr.unB a[i].toNat b[i].toNat 8 = Cr.unT a b (i + 1) := by
        rw [Cr.unT, Cr.byteAt, Cr.byteAt, dif_pos ia, dif_pos ib, H.out]
      have HN := Lib.hid hn2
      clear hn2 H
      go_wp2
      go_loopw [5, 7] (fun c k wr => ∃ (y j r : Nat), c = .int .i64 y ∧ k = .int .i64 j ∧ j ≤ 8 ∧ y ≤ x + j ∧ Hid (y = x + Cr.unB a[i].toNat b[i].toNat j) ∧ wr = w.drewN r) (fun _ k _ => (8 - intOf k).toNat)
      case atStart => exact ⟨x, 0, q, rfl, rfl, by omega, by omega, by unfold Hid; simp [Cr.unB], rfl⟩
      case round =>
        obtain ⟨y, j, r, rfl, rfl, hj, hy, HY, rfl⟩ := hrel
        by_cases h9 : j < 8
        · have hB1 : ∀ w, Calls Try.prog 18 #[.int .u8 a[i].toNat, .int .i64 j] w fun e w' => e = .returned (.int .i64 (Cr.bitOf a[i].toNat j)) ∧ w = w' := fun w => bit_any a[i].toNat j w l1 h9
          have hB2 : ∀ w, Calls Try.prog 18 #[.int .u8 b[i].toNat, .int .i64 j] w fun e w' => e = .returned (.int .i64 (Cr.bitOf b[i].toNat j)) ∧ w = w' := fun w => bit_any b[i].toNat j w l2 h9
          have hs2 : Cr.unB a[i].toNat b[i].toNat (j + 1) = Cr.unB a[i].toNat b[i].toNat j + if Cr.bitOf a[i].toNat j = Cr.bitOf b[i].toNat j then 0 else 1 := by rw [Cr.unB]
          generalize Cr.bitOf a[i].toNat j = u at hB1 hs2
          generalize Cr.bitOf b[i].toNat j = v at hB2 hs2
          have HB1 := Lib.hid hB1
          have HB2 := Lib.hid hB2
          by_cases he : u = v
          · have he' : ((u : Int) != (v : Int)) = false := by simp [he]
            rw [if_pos he] at hs2
            have HS := Lib.hid hs2
            clear hB1 hB2 hs2 he
            go_wp2
            go_quiet (first | (go_at_call 18; with_reducible exact quiet_same2 (HB1.out _)) | (go_at_call 18; with_reducible exact quiet_same2 (HB2.out _)))
            go_wp2
            go_round
            case rel => exact ⟨y, j + 1, _, by go_num, by go_num, by omega, by omega, by have := HS.out; have := HY.out; unfold Hid; omega, rfl⟩
            case measure => simp [intOf]; omega
          · have he' : ((u : Int) != (v : Int)) = true := bne_iff_ne.2 (by omega)
            rw [if_neg he] at hs2
            have HS := Lib.hid hs2
            clear hB1 hB2 hs2 he
            go_wp2
            go_quiet (first | (go_at_call 18; with_reducible exact quiet_same2 (HB1.out _)) | (go_at_call 18; with_reducible exact quiet_same2 (HB2.out _)))
            go_wp2
            go_round
            case rel => exact ⟨y + 1, j + 1, _, by go_num, by go_num, by omega, by omega, by have := HS.out; have := HY.out; unfold Hid; omega, rfl⟩
            case measure => simp [intOf]; omega
        · obtain rfl : j = 8 := by omega
          go_wp2
          go_round
          case rel => exact ⟨y, i + 1, r, by go_num, by go_num, by omega, by omega, by have := HN.out; have := HY.out; unfold Hid; omega, rfl⟩
          case measure => simp [intOf]; omega
    · obtain rfl : i = n := by omega
      go_wp2
      go_ret
      exact ⟨ret_int (by rw [H.out, hn]), q, rfl⟩

theorem bits8_walk (a b : ByteArray) (w : World) : Calls Try.prog 5 #[.string a, .string b] w fun e w' => e = .returned (.bool true) ∧ Below w.heap.size w w' := by
  have HL := Lib.hid (fun w => live8_any w)
  by_cases hs : (300 : Int) < (a.size : Int)
  · go_enter Try.func5, Try.ntmps5
    go_wp2_with (go_at_call 6; refine (HL.out _).mono ?_; rintro e w' ⟨rfl, rfl⟩)
    go_ret
    exact ⟨rfl, Below.refl _ _⟩
  · by_cases ht : (300 : Int) < (b.size : Int)
    · go_enter Try.func5, Try.ntmps5
      go_wp2_with (go_at_call 6; refine (HL.out _).mono ?_; rintro e w' ⟨rfl, rfl⟩)
      go_ret
      exact ⟨rfl, Below.refl _ _⟩
    · by_cases he : a.size = b.size
      · have he' : ((a.size : Int) != (b.size : Int)) = false := by simp [he]
        have HB := Lib.hid (fun w => cbits_any a b w he (by omega))
        have HU := Lib.hid (fun w => unlike_any a b w he (by omega))
        have HS := Lib.hid (show ∀ w, Calls Try.prog 12 #[.string a, .string a] w fun e w' => e = .returned (.int .i64 0) ∧ ∃ q, w.drewN q = w' from fun w => by
          have := cbits_any a a w rfl (by omega)
          rw [Cr.unT_same] at this
          exact this)
        clear he
        generalize Cr.unT a b a.size = v at HB HU
        go_enter Try.func5, Try.ntmps5
        go_wp2_with (first | (go_at_call 6; refine (HL.out _).mono ?_; rintro e w' ⟨rfl, rfl⟩) | (go_at_call 12; with_reducible refine (HB.out _).mono ?_; rintro e w' ⟨rfl, q1, rfl⟩) | (go_at_call 12; with_reducible refine (HS.out _).mono ?_; rintro e w' ⟨rfl, q3, rfl⟩) | (go_at_call 13; with_reducible refine (HU.out _).mono ?_; rintro e w' ⟨rfl, q2, rfl⟩))
        go_ret
        exact ⟨rfl, below_drewN (Below.refl _ _) _⟩
      · have he' : ((a.size : Int) != (b.size : Int)) = true := bne_iff_ne.2 (by omega)
        have HB := Lib.hid (fun w => cbits_off a b w he)
        clear he
        go_enter Try.func5, Try.ntmps5
        go_wp2_with (first | (go_at_call 6; refine (HL.out _).mono ?_; rintro e w' ⟨rfl, rfl⟩) | (go_at_call 12; with_reducible refine (HB.out _).mono ?_; rintro e w' ⟨rfl, rfl⟩))
        go_ret
        exact ⟨rfl, Below.refl _ _⟩
end Go.Proofs.Ytlhjhdheejdgnab
