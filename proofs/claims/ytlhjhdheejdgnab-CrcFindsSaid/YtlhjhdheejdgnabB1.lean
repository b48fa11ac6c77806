/- The functions of package bits, and of the document's answers for it, that only reckon: each by its contract. -/
import Derived.Test.YtlhjhdheejdgnabRows
import Derived.Test.YtlhjhdheejdgnabB0
import Derived.Test.YtlhjhdheejdgnabK
import Derived.WalkKit
import Derived.ProofKit
import Derived.OpenShut
import Derived.WalkLawsBesides
import Derived.WalkSpells
import Derived.BigQuiet
import Derived.Deep.QuietTactic
import Derived.Lib.BitFns
import Derived.Lib.Hide
namespace Go.Proofs.Ytlhjhdheejdgnab
open Go.RowKit Go.Lib
set_option linter.unusedVariables false

theorem low_any (n : Int) (w : World) : Calls Try.prog 22 #[.int .i64 n] w fun e w' => e = .returned (.int .i64 (n % 256)) ∧ w = w' := by
  go_enter Try.func22, Try.ntmps22
  go_wp2
  go_ret
  exact ⟨by simp [Bt.and255], rfl⟩

theorem high_any (n : Int) (w : World) : Calls Try.prog 21 #[.int .i64 n] w fun e w' => e = .returned (.int .i64 (n / 256 % 256)) ∧ w = w' := by
  go_enter Try.func21, Try.ntmps21
  go_wp2
  go_ret
  exact ⟨by simp [Bt.and255], rfl⟩

theorem two_any (n m : Int) (w : World)  : Calls Try.prog 20 #[.int .i64 n, .int .i64 m] w fun e w' => e = .returned (.int .i64 (n % 256 + 256 * (m % 256))) ∧ w = w' := by
  have b1 : 0 ≤ n % 256 := by omega
  have b2 : n % 256 < 256 := by omega
  have b3 : 0 ≤ m % 256 := by omega
  have b4 : m % 256 < 256 := by omega
  go_enter Try.func20, Try.ntmps20
  go_wp2_with (go_at_call 22; refine (low_any _ _).mono ?_; rintro e w' ⟨rfl, rfl⟩)
  go_ret
  exact ⟨by simp [Bt.or256 _ _ b1 b2 b3 b4], rfl⟩

theorem pop8_ones : ∀ n : Fin 256, pop8 (n.val : Int) = (Bt.ones 8 n.val : Int) := by decide +kernel
theorem pop8_is (b : Int) (h0 : 0 ≤ b) (h1 : b ≤ 255) : pop8 b = (Bt.ones 8 b.toNat : Int) := by
  have e := pop8_ones ⟨b.toNat, by omega⟩
  simp only [Int.toNat_of_nonneg h0] at e
  exact e

set_option maxRecDepth 100000 in
theorem ones_any (n : Int) (h0 : 0 ≤ n) (h1 : n < 65536) (w : World)  : Calls Try.prog 24 #[.int .u16 n] w fun e w' => e = .returned (.int .i64 (Bt.ones 16 n.toNat)) ∧ ∃ q, w.drewN q = w' := by
  have hm := Bt.and255u n h0 h1
  have k0 : 0 ≤ n / 256 := by omega
  have k1 : n / 256 ≤ 255 := by omega
  have k2 : 0 ≤ n % 256 := by omega
  have k3 : n % 256 ≤ 255 := by omega
  have f1 := pop8_is (n / 256) k0 k1
  have f2 := pop8_is (n % 256) k2 k3
  have b1 := Bt.ones_le 8 (n / 256).toNat
  have b2 := Bt.ones_le 8 (n % 256).toNat
  have p1 : 0 ≤ pop8 (n / 256) := by rw [f1]; omega
  have p2 : 0 ≤ pop8 (n % 256) := by rw [f2]; omega
  have p3 : pop8 (n / 256) ≤ 8 := by rw [f1]; omega
  have p4 : pop8 (n % 256) ≤ 8 := by rw [f2]; omega
  have F1 := Lib.hid f1; clear f1 b1
  have F2 := Lib.hid f2; clear f2 b2
  have hs : IntKind.u8.wrap (pop8 (n / 256) + pop8 (n % 256)) = pop8 (n / 256) + pop8 (n % 256) := by rw [IntKind.wrap_u8]; omega
  go_enter Try.func24, Try.ntmps24
  go_wp2
  go_quiet (fail)
  go_wp2
  go_ret
  refine ⟨ret_int ?_, nq, rfl⟩
  rw [F1.out, F2.out, Bt.ones_16 n.toNat (by omega)]
  have q1 : (n / 256).toNat = n.toNat / 256 := by omega
  have q2 : (n % 256).toNat = n.toNat % 256 := by omega
  rw [q1, q2]
  simp

theorem count_any (n : Int) (w : World) : Calls Try.prog 17 #[.int .i64 n] w fun e w' => e = .returned (.int .i64 (Bt.ones 16 (n % 65536).toNat)) ∧ ∃ q, w.drewN q = w' := by
  have hw : IntKind.u16.wrap n = n % 65536 := by simp [IntKind.wrap, IntKind.bits, IntKind.signed]
  have b0 : 0 ≤ n % 65536 := by omega
  have b1 : n % 65536 < 65536 := by omega
  go_enter Try.func17, Try.ntmps17
  go_wp2_with (go_at_call 24; refine (ones_any _ b0 b1 _).mono ?_; rintro e w' ⟨rfl, q, rfl⟩)
  go_ret
  exact ⟨rfl, q, rfl⟩

theorem run_two_bytes (x y : Int) (W : World) : (convert 34 9 (.slice (some ⟨W.heap.size, 0, none⟩) 2 2)).run Try.prog (W.alloc (.cells #[.int .u8 x, .int .u8 y] 5)) =
    .ok (.string ⟨#[UInt8.ofNat x.toNat, UInt8.ofNat y.toNat]⟩) (W.alloc (.cells #[.int .u8 x, .int .u8 y] 5)) := by
  have h := run_convert_bytes_arg (P := Try.prog) (W.alloc (.cells #[.int .u8 x, .int .u8 y] 5)) 34 5 Try.underlying34 Try.underlying5 W.heap.size 0 2 2 [x, y] rfl (by
    intro i hi
    match i, hi with
    | 0, _ => simp
    | 1, _ => simp) 9 Try.underlying9
  rw [h]
  congr 2

theorem put_any (n : Int) (w : World) : Calls Try.prog 19 #[.int .i64 n] w fun e w' => e = .returned (.string (Bt.put n)) ∧ w.alloc (.cells #[.int .u8 (n % 256), .int .u8 (n / 256 % 256)] 5) = w' := by
  have hk := run_two_bytes (n % 256) (n / 256 % 256) w
  go_enter Try.func19, Try.ntmps19
  go_wp2_with (first | (go_at_call 22; refine (low_any _ _).mono ?_; rintro e w' ⟨rfl, rfl⟩) | (go_at_call 21; refine (high_any _ _).mono ?_; rintro e w' ⟨rfl, rfl⟩))
  go_ret
  exact ⟨rfl, rfl⟩

end Go.Proofs.Ytlhjhdheejdgnab
