/- The functions of package bits, and of the document's answers for it, that only reckon: each by its contract. -/
import Derived.Test.YtgjpjmolfdiahaaDoorRows
import Derived.Test.YtgjpjmolfdiahaaDoorB0
import Derived.Test.YtgjpjmolfdiahaaDoorK
import Derived.WalkKit
import Derived.ProofKit
import Derived.OpenShut
import Derived.WalkLawsBesides
import Derived.WalkSpells
import Derived.BigQuiet
import Derived.Deep.QuietTactic
import Derived.Lib.BitFns
import Derived.Lib.Hide
namespace Go.Proofs.YtgjpjmolfdiahaaDoor
open Go.RowKit Go.Lib
set_option linter.unusedVariables false

theorem low_any (n : Int) (w : World) : Calls Tryd.prog 63 #[.int .i64 n] w fun e w' => e = .returned (.int .i64 (n % 256)) ∧ w = w' := by
  go_enter Tryd.func63, Tryd.ntmps63
  go_wp2
  go_ret
  exact ⟨by simp [Bt.and255], rfl⟩

theorem high_any (n : Int) (w : World) : Calls Tryd.prog 64 #[.int .i64 n] w fun e w' => e = .returned (.int .i64 (n / 256 % 256)) ∧ w = w' := by
  go_enter Tryd.func64, Tryd.ntmps64
  go_wp2
  go_ret
  exact ⟨by simp [Bt.and255], rfl⟩

theorem rest_any (n m : Int) (w : World) (h : 0 < m) (h' : m ≤ 65536) : Calls Tryd.prog 49 #[.int .i64 n, .int .i64 m] w fun e w' => e = .returned (.int .i64 (n % m)) ∧ w = w' := by
  have hr := Bt.rest_of n m h
  have hlo : -65536 < n.tmod m := by have := Int.lt_tmod_of_pos n h; omega
  by_cases hn : n.tmod m < 0
  · rw [if_pos hn] at hr
    go_enter Tryd.func49, Tryd.ntmps49
    go_wp2
    go_ret
    exact ⟨by simp, rfl⟩
  · rw [if_neg hn] at hr
    go_enter Tryd.func49, Tryd.ntmps49
    go_wp2
    go_ret
    exact ⟨by simp, rfl⟩

theorem rlow_any (n : Int) (w : World) : Calls Tryd.prog 29 #[.int .i64 n] w fun e w' => e = .returned (.int .i64 (n % 256)) ∧ w = w' := by
  go_enter Tryd.func29, Tryd.ntmps29
  go_wp2_with (go_at_call 49; refine (rest_any _ _ _ (by omega) (by omega)).mono ?_; rintro e w' ⟨rfl, rfl⟩)
  go_ret
  exact ⟨rfl, rfl⟩

theorem rhigh_any (n : Int) (w : World) : Calls Tryd.prog 30 #[.int .i64 n] w fun e w' => e = .returned (.int .i64 (n / 256 % 256)) ∧ w = w' := by
  have hb : 0 ≤ n % 65536 := by omega
  have hs : n % 65536 / 256 = n / 256 % 256 := by omega
  have HS := Lib.hid hs
  clear hs
  go_enter Tryd.func30, Tryd.ntmps30
  go_wp2_with (go_at_call 49; refine (rest_any _ _ _ (by omega) (by omega)).mono ?_; rintro e w' ⟨rfl, rfl⟩)
  go_ret
  exact ⟨by simp [HS.out], rfl⟩

theorem pop8_ones : ∀ n : Fin 256, pop8 (n.val : Int) = (Bt.ones 8 n.val : Int) := by decide +kernel
theorem pop8_is (b : Int) (h0 : 0 ≤ b) (h1 : b ≤ 255) : pop8 b = (Bt.ones 8 b.toNat : Int) := by
  have e := pop8_ones ⟨b.toNat, by omega⟩
  simp only [Int.toNat_of_nonneg h0] at e
  exact e

theorem run_two_bytes (x y : Int) (W : World) : (convert 50 9 (.slice (some ⟨W.heap.size, 0, none⟩) 2 2)).run Tryd.prog (W.alloc (.cells #[.int .u8 x, .int .u8 y] 5)) =
    .ok (.string ⟨#[UInt8.ofNat x.toNat, UInt8.ofNat y.toNat]⟩) (W.alloc (.cells #[.int .u8 x, .int .u8 y] 5)) := by
  have h := run_convert_bytes_arg (P := Tryd.prog) (W.alloc (.cells #[.int .u8 x, .int .u8 y] 5)) 50 5 Tryd.underlying50 Tryd.underlying5 W.heap.size 0 2 2 [x, y] rfl (by
    intro i hi
    match i, hi with
    | 0, _ => simp
    | 1, _ => simp) 9 Tryd.underlying9
  rw [h]
  congr 2

theorem put_any (n : Int) (w : World) : Calls Tryd.prog 48 #[.int .i64 n] w fun e w' => e = .returned (.string (Bt.put n)) ∧ w.alloc (.cells #[.int .u8 (n % 256), .int .u8 (n / 256 % 256)] 5) = w' := by
  have hk := run_two_bytes (n % 256) (n / 256 % 256) w
  go_enter Tryd.func48, Tryd.ntmps48
  go_wp2_with (first | (go_at_call 63; refine (low_any _ _).mono ?_; rintro e w' ⟨rfl, rfl⟩) | (go_at_call 64; refine (high_any _ _).mono ?_; rintro e w' ⟨rfl, rfl⟩))
  go_ret
  exact ⟨rfl, rfl⟩

theorem rput_any (n : Int) (w : World) : Calls Tryd.prog 17 #[.int .i64 n] w fun e w' => e = .returned (.string (Bt.put n)) ∧ w.alloc (.cells #[.int .u8 (n % 256), .int .u8 (n / 256 % 256)] 5) = w' := by
  have hk := run_two_bytes (n % 256) (n / 256 % 256) w
  go_enter Tryd.func17, Tryd.ntmps17
  go_wp2_with (first | (go_at_call 29; refine (rlow_any _ _).mono ?_; rintro e w' ⟨rfl, rfl⟩) | (go_at_call 30; refine (rhigh_any _ _).mono ?_; rintro e w' ⟨rfl, rfl⟩))
  go_ret
  exact ⟨rfl, rfl⟩

end Go.Proofs.YtgjpjmolfdiahaaDoor
