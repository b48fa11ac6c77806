/- The functions of package bits, and of the document's answers for it, that only reckon: each by its contract. -/
import Derived.Test.YtblchpaoffdniabRows
import Derived.Test.YtblchpaoffdniabB0
import Derived.Test.YtblchpaoffdniabK
import Derived.WalkKit
import Derived.ProofKit
import Derived.OpenShut
import Derived.WalkLawsBesides
import Derived.WalkSpells
import Derived.BigQuiet
import Derived.Deep.QuietTactic
import Derived.Lib.BitFns
import Derived.Lib.Hide
namespace Go.Proofs.Ytblchpaoffdniab
open Go.RowKit Go.Lib
set_option linter.unusedVariables false

theorem low_any (n : Int) (w : World) : Calls Try.prog 8 #[.int .i64 n] w fun e w' => e = .returned (.int .i64 (n % 256)) ∧ w = w' := by
  go_enter Try.func8, Try.ntmps8
  go_wp2
  go_ret
  exact ⟨by simp [Bt.and255], rfl⟩

theorem high_any (n : Int) (w : World) : Calls Try.prog 10 #[.int .i64 n] w fun e w' => e = .returned (.int .i64 (n / 256 % 256)) ∧ w = w' := by
  go_enter Try.func10, Try.ntmps10
  go_wp2
  go_ret
  exact ⟨by simp [Bt.and255], rfl⟩

theorem rest_any (n m : Int) (w : World) (h : 0 < m) (h' : m ≤ 65536) : Calls Try.prog 32 #[.int .i64 n, .int .i64 m] w fun e w' => e = .returned (.int .i64 (n % m)) ∧ w = w' := by
  have hr := Bt.rest_of n m h
  have hlo : -65536 < n.tmod m := by have := Int.lt_tmod_of_pos n h; omega
  by_cases hn : n.tmod m < 0
  · rw [if_pos hn] at hr
    go_enter Try.func32, Try.ntmps32
    go_wp2
    go_ret
    exact ⟨by simp, rfl⟩
  · rw [if_neg hn] at hr
    go_enter Try.func32, Try.ntmps32
    go_wp2
    go_ret
    exact ⟨by simp, rfl⟩

theorem rlow_any (n : Int) (w : World) : Calls Try.prog 9 #[.int .i64 n] w fun e w' => e = .returned (.int .i64 (n % 256)) ∧ w = w' := by
  go_enter Try.func9, Try.ntmps9
  go_wp2_with (go_at_call 32; refine (rest_any _ _ _ (by omega) (by omega)).mono ?_; rintro e w' ⟨rfl, rfl⟩)
  go_ret
  exact ⟨rfl, rfl⟩

theorem rhigh_any (n : Int) (w : World) : Calls Try.prog 11 #[.int .i64 n] w fun e w' => e = .returned (.int .i64 (n / 256 % 256)) ∧ w = w' := by
  have hb : 0 ≤ n % 65536 := by omega
  have hs : n % 65536 / 256 = n / 256 % 256 := by omega
  have HS := Lib.hid hs
  clear hs
  go_enter Try.func11, Try.ntmps11
  go_wp2_with (go_at_call 32; refine (rest_any _ _ _ (by omega) (by omega)).mono ?_; rintro e w' ⟨rfl, rfl⟩)
  go_ret
  exact ⟨by simp [HS.out], rfl⟩

theorem two_any (n m : Int) (w : World)  : Calls Try.prog 12 #[.int .i64 n, .int .i64 m] w fun e w' => e = .returned (.int .i64 (n % 256 + 256 * (m % 256))) ∧ w = w' := by
  have b1 : 0 ≤ n % 256 := by omega
  have b2 : n % 256 < 256 := by omega
  have b3 : 0 ≤ m % 256 := by omega
  have b4 : m % 256 < 256 := by omega
  go_enter Try.func12, Try.ntmps12
  go_wp2_with (go_at_call 8; refine (low_any _ _).mono ?_; rintro e w' ⟨rfl, rfl⟩)
  go_ret
  exact ⟨by simp [Bt.or256 _ _ b1 b2 b3 b4], rfl⟩

theorem rtwo_any (n m : Int) (w : World)  : Calls Try.prog 13 #[.int .i64 n, .int .i64 m] w fun e w' => e = .returned (.int .i64 (n % 256 + 256 * (m % 256))) ∧ w = w' := by
  have b1 : 0 ≤ n % 256 := by omega
  have b2 : n % 256 < 256 := by omega
  have b3 : 0 ≤ m % 256 := by omega
  have b4 : m % 256 < 256 := by omega
  go_enter Try.func13, Try.ntmps13
  go_wp2_with (go_at_call 32; refine (rest_any _ _ _ (by omega) (by omega)).mono ?_; rintro e w' ⟨rfl, rfl⟩)
  go_ret
  exact ⟨rfl, rfl⟩

theorem pop8_ones : ∀ n : Fin 256, pop8 (n.val : Int) = (Bt.ones 8 n.val : Int) := by decide +kernel
theorem pop8_is (b : Int) (h0 : 0 ≤ b) (h1 : b ≤ 255) : pop8 b = (Bt.ones 8 b.toNat : Int) := by
  have e := pop8_ones ⟨b.toNat, by omega⟩
  simp only [Int.toNat_of_nonneg h0] at e
  exact e

set_option maxRecDepth 100000 in
theorem ones_any (n : Int) (h0 : 0 ≤ n) (h1 : n < 65536) (w : World)  : Calls Try.prog 33 #[.int .u16 n] w fun e w' => e = .returned (.int .i64 (Bt.ones 16 n.toNat)) ∧ ∃ q, w.drewN q = w' := by
  have hm := Bt.and255u n h0 h1
  have k0 : 0 ≤ n / 256 := by omega
  have k1 : n / 256 ≤ 255 := by omega
  have k2 : 0 ≤ n % 256 := by omega
  have k3 : n % 256 ≤ 255 := by omega
  have f1 := pop8_is (n / 256) k0 k1
  have f2 := pop8_is (n % 256) k2 k3
  have b1 := Bt.ones_le 8 (n / 256).toNat
  have b2 := Bt.ones_le 8 (n % 256).toNat
  have p1 : 0 ≤ pop8 (n / 256) := by rw [f1]; omega
  have p2 : 0 ≤ pop8 (n % 256) := by rw [f2]; omega
  have p3 : pop8 (n / 256) ≤ 8 := by rw [f1]; omega
  have p4 : pop8 (n % 256) ≤ 8 := by rw [f2]; omega
  have F1 := Lib.hid f1; clear f1 b1
  have F2 := Lib.hid f2; clear f2 b2
  have hs : IntKind.u8.wrap (pop8 (n / 256) + pop8 (n % 256)) = pop8 (n / 256) + pop8 (n % 256) := by rw [IntKind.wrap_u8]; omega
  go_enter Try.func33, Try.ntmps33
  go_wp2
  go_quiet (fail)
  go_wp2
  go_ret
  refine ⟨ret_int ?_, nq, rfl⟩
  rw [F1.out, F2.out, Bt.ones_16 n.toNat (by omega)]
  have q1 : (n / 256).toNat = n.toNat / 256 := by omega
  have q2 : (n % 256).toNat = n.toNat % 256 := by omega
  rw [q1, q2]
  simp

theorem count_any (n : Int) (w : World) : Calls Try.prog 16 #[.int .i64 n] w fun e w' => e = .returned (.int .i64 (Bt.ones 16 (n % 65536).toNat)) ∧ ∃ q, w.drewN q = w' := by
  have hw : IntKind.u16.wrap n = n % 65536 := by simp [IntKind.wrap, IntKind.bits, IntKind.signed]
  have b0 : 0 ≤ n % 65536 := by omega
  have b1 : n % 65536 < 65536 := by omega
  go_enter Try.func16, Try.ntmps16
  go_wp2_with (go_at_call 33; refine (ones_any _ b0 b1 _).mono ?_; rintro e w' ⟨rfl, q, rfl⟩)
  go_ret
  exact ⟨rfl, q, rfl⟩

theorem rcount_any (n : Int) (w : World) : Calls Try.prog 17 #[.int .i64 n] w fun e w' => e = .returned (.int .i64 (Bt.ones 16 (n % 65536).toNat)) ∧ w = w' := by
  have b0 : 0 ≤ n % 65536 := by omega
  have b1 : n % 65536 < 65536 := by omega
  go_enter Try.func17, Try.ntmps17
  go_wp2_with (go_at_call 32; refine (rest_any _ _ _ (by omega) (by omega)).mono ?_; rintro e w' ⟨rfl, rfl⟩)
  go_loop [3, 4] (fun o k => ∃ (x y f : Nat), o = .int .i64 x ∧ k = .int .i64 y ∧ f ≤ 16 ∧ y < 2 ^ f ∧ x + f ≤ 16 ∧ Hid (x + Bt.ones f y = Bt.ones 16 (n % 65536).toNat)) (fun _ k => (intOf k).toNat)
  case atStart =>
    refine ⟨0, (n % 65536).toNat, 16, rfl, by rw [Int.toNat_of_nonneg b0], by omega, by omega, by omega, by unfold Hid; omega⟩
  case round =>
    obtain ⟨x, y, f, rfl, rfl, hf, hy, hx, H⟩ := hrel
    have hy2 : y < 65536 := Nat.lt_of_lt_of_le hy (Nat.pow_le_pow_right (by omega) hf)
    by_cases h0 : 0 < y
    · obtain ⟨f, rfl⟩ : ∃ g, f = g + 1 := ⟨f - 1, by
        have : f ≠ 0 := by rintro rfl; simp at hy; omega
        omega⟩
      have hy3 : y / 2 < 2 ^ f := by rw [Nat.pow_succ] at hy; omega
      have HY := Lib.hid hy3
      clear hy hy3
      go_wp2
      go_round
      case rel =>
        refine ⟨x + y % 2, y / 2, f, by go_num, by go_num, by omega, HY.out, by omega, ?_⟩
        have := H.out
        rw [Bt.ones, if_neg (by omega)] at this
        unfold Hid
        omega
      case measure => simp [intOf]; omega
    · obtain rfl : y = 0 := by omega
      have hz : Bt.ones f 0 = 0 := Bt.ones_zero f
      have H2 : Hid (x = Bt.ones 16 (n % 65536).toNat) := by have := H.out; unfold Hid; omega
      clear H hz hy
      go_wp2
      go_ret
      exact ⟨ret_int (by rw [← H2.out]), rfl⟩

theorem run_two_bytes (x y : Int) (W : World) : (convert 43 9 (.slice (some ⟨W.heap.size, 0, none⟩) 2 2)).run Try.prog (W.alloc (.cells #[.int .u8 x, .int .u8 y] 5)) =
    .ok (.string ⟨#[UInt8.ofNat x.toNat, UInt8.ofNat y.toNat]⟩) (W.alloc (.cells #[.int .u8 x, .int .u8 y] 5)) := by
  have h := run_convert_bytes_arg (P := Try.prog) (W.alloc (.cells #[.int .u8 x, .int .u8 y] 5)) 43 5 Try.underlying43 Try.underlying5 W.heap.size 0 2 2 [x, y] rfl (by
    intro i hi
    match i, hi with
    | 0, _ => simp
    | 1, _ => simp) 9 Try.underlying9
  rw [h]
  congr 2

theorem put_any (n : Int) (w : World) : Calls Try.prog 14 #[.int .i64 n] w fun e w' => e = .returned (.string (Bt.put n)) ∧ w.alloc (.cells #[.int .u8 (n % 256), .int .u8 (n / 256 % 256)] 5) = w' := by
  have hk := run_two_bytes (n % 256) (n / 256 % 256) w
  go_enter Try.func14, Try.ntmps14
  go_wp2_with (first | (go_at_call 8; refine (low_any _ _).mono ?_; rintro e w' ⟨rfl, rfl⟩) | (go_at_call 10; refine (high_any _ _).mono ?_; rintro e w' ⟨rfl, rfl⟩))
  go_ret
  exact ⟨rfl, rfl⟩

theorem rput_any (n : Int) (w : World) : Calls Try.prog 15 #[.int .i64 n] w fun e w' => e = .returned (.string (Bt.put n)) ∧ w.alloc (.cells #[.int .u8 (n % 256), .int .u8 (n / 256 % 256)] 5) = w' := by
  have hk := run_two_bytes (n % 256) (n / 256 % 256) w
  go_enter Try.func15, Try.ntmps15
  go_wp2_with (first | (go_at_call 9; refine (rlow_any _ _).mono ?_; rintro e w' ⟨rfl, rfl⟩) | (go_at_call 11; refine (rhigh_any _ _).mono ?_; rintro e w' ⟨rfl, rfl⟩))
  go_ret
  exact ⟨rfl, rfl⟩

theorem new_any (s : ByteArray) (w : World) : Calls Try.prog 18 #[.string s] w fun e w' => e = .returned (.pointer (some ⟨w.heap.size, 0, none⟩)) ∧ w.alloc (.cells #[.int .i64 0, .string s, .int .i64 0] 58) = w' := by
  go_enter Try.func18, Try.ntmps18
  go_wp2
  go_ret
  exact ⟨rfl, rfl⟩
end Go.Proofs.Ytblchpaoffdniab
