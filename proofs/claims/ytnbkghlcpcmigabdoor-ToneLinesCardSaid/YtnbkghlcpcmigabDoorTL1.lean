/- Symbol, Says and shift, and the document's symbols, each by its contract; which symbols are the same. -/
import Derived.Test.YtnbkghlcpcmigabDoorTL0
namespace Go.Proofs.YtnbkghlcpcmigabDoor
open Go.RowKit Go.Lib
set_option linter.unusedVariables false

theorem gy_lt (n : Nat) : gy (n % 4) < 4 := by
  rcases (by omega : n % 4 = 0 ∨ n % 4 = 1 ∨ n % 4 = 2 ∨ n % 4 = 3) with h | h | h | h <;> rw [h] <;> decide
theorem gy_gy (n : Nat) : gy (gy (n % 4)) = n % 4 := by
  rcases (by omega : n % 4 = 0 ∨ n % 4 = 1 ∨ n % 4 = 2 ∨ n % 4 = 3) with h | h | h | h <;> rw [h] <;> rfl
theorem Gr.at {w : World} (h : Gr w) (q : Nat) (hq : q < 4) : w.cell? ⟨0, q, none⟩ = some (.int .i64 (gy q)) := by
  rcases (by omega : q = 0 ∨ q = 1 ∨ q = 2 ∨ q = 3) with rfl | rfl | rfl | rfl
  · exact h.c0
  · exact h.c1
  · exact h.c2
  · exact h.c3

set_option maxRecDepth 100000 in
theorem says_any (n : Nat) (w : World) (hG : Gr w) : Calls Tryd.prog 16 #[Sy n] w fun e w' => e = .returned (.int .i64 ((n % 4 : Nat) : Int)) ∧ w = w' := by
  have hq := gy_lt n
  have hg := hG.at (gy (n % 4)) hq
  rw [gy_gy] at hg
  unfold Sy sx sz
  generalize n % 4 = m at hg hq
  generalize gy m = q at hg hq
  have H1 := Lib.hid (fun w => quarter_any q hq w)
  have i1 : ¬ (q : Int) < 0 := by omega
  have i2 : (q : Int) < 4 := by omega
  generalize hz : qz q = z at H1
  clear hz
  go_enter Tryd.func16, Tryd.ntmps16
  go_wp2_with (go_at_call 21; with_reducible refine (H1.out _).mono ?_; rintro e w' ⟨rfl, rfl⟩)
  go_ret
  exact ⟨rfl, rfl⟩

theorem shift_any (i : Nat) (hi : i < 4) (w : World) : Calls Tryd.prog 15 #[.int .i64 i] w fun e w' => e = .returned (.int .i64 (2 * (3 - i) : Nat)) ∧ w = w' := by
  go_enter Tryd.func15, Tryd.ntmps15
  go_wp2
  go_ret
  exact ⟨ret_int (by omega), rfl⟩

set_option maxRecDepth 100000 in
theorem symbol_any (n : Nat) (w : World) (hG : Gr w) : Calls Tryd.prog 14 #[.int .i64 n] w fun e w' => e = .returned (Sy n) ∧ w = w' := by
  have hg := hG.at (n % 4) (by omega)
  have hand : bits .and .i64 (n : Int) 3 = ((n % 4 : Nat) : Int) := by rw [bits_and3]; omega
  have hm : n % 4 < 4 := by omega
  unfold Sy sx sz
  generalize n % 4 = m at hg hm hand
  have hT : ∀ w, Calls Tryd.prog 20 #[Cx sA sA, .int .i64 (gy m)] w fun e w' => e = .returned (Cx (qz (gy m)).1 (qz (gy m)).2) ∧ w = w' := by
    intro w
    rcases (by omega : m = 0 ∨ m = 1 ∨ m = 2 ∨ m = 3) with rfl | rfl | rfl | rfl
    · exact turn_any sA sA 0 0 (by decide) w
    · exact turn_any sA sA 1 1 (by decide) w
    · exact turn_any sA sA 3 3 (by decide) w
    · exact turn_any sA sA 2 2 (by decide) w
  have HT := Lib.hid hT
  clear hT
  have i2 : (m : Int) < 4 := by omega
  generalize gy m = q at hg HT
  go_enter Tryd.func14, Tryd.ntmps14
  go_wp2_with (go_at_call 20; with_reducible refine (HT.out _).mono ?_; rintro e w' ⟨rfl, rfl⟩)
  go_ret
  exact ⟨rfl, rfl⟩

theorem left_any (n : Nat) (w : World) : Calls Tryd.prog 17 #[.int .i64 n] w fun e w' => e = .returned (.int .i64 (n % 4 : Nat)) ∧ w = w' := by
  have i1 : ¬ (n : Int) % 4 < 0 := by omega
  go_enter Tryd.func17, Tryd.ntmps17
  go_wp2
  go_ret
  exact ⟨rfl, rfl⟩

theorem rsymbol_any (n : Nat) (w : World) : Calls Tryd.prog 11 #[.int .i64 n] w fun e w' => e = .returned (Sy n) ∧ w = w' := by
  have HL := Lib.hid (fun w => left_any n w)
  have hm : n % 4 < 4 := by omega
  unfold Sy sx sz
  generalize n % 4 = m at hm HL
  rcases (by omega : m = 0 ∨ m = 1 ∨ m = 2 ∨ m = 3) with rfl | rfl | rfl | rfl
  all_goals
    go_enter Tryd.func11, Tryd.ntmps11
    go_wp2_with (go_at_call 17; with_reducible refine (HL.out _).mono ?_; rintro e w' ⟨rfl, rfl⟩)
    go_ret
    exact ⟨rfl, rfl⟩

theorem none_any (a : Nat) (w : World) (h : (FloatKind.f64.format.order a a != some Ordering.eq) = false) : Calls Tryd.prog 18 #[.float .f64 a] w fun e w' => e = .returned (.bool false) ∧ w = w' := by
  go_enter Tryd.func18, Tryd.ntmps18
  go_wp2
  go_ret
  exact ⟨rfl, rfl⟩
theorem bits64_run (a : Nat) (w : World) : (callFunc 19 #[.float .f64 a]).run Tryd.prog w = .ok (.value (.int .u64 a)) w := by
  have hf : Tryd.prog.funcs[19]? = some Tryd.f19 := Tryd.func19
  rw [run_callFunc_extern hf (by kernel_rfl) (by kernel_rfl) (by kernel_rfl) (e := Extern.MathFloatBits.float64bits) (by kernel_rfl)]
  rfl

theorem same_any (a : Nat) (w : World) (h : (FloatKind.f64.format.order a a != some Ordering.eq) = false) : Calls Tryd.prog 12 #[.float .f64 a, .float .f64 a] w fun e w' => e = .returned (.bool true) ∧ w = w' := by
  have HN := Lib.hid (fun w => none_any a w h)
  have hb := fun w => bits64_run a w
  clear h
  go_enter Tryd.func12, Tryd.ntmps12
  go_wp2_with (go_at_call 18; with_reducible refine (HN.out _).mono ?_; rintro e w' ⟨rfl, rfl⟩)
  go_ret
  exact ⟨rfl, rfl⟩

theorem qz_some (q : Nat) : (FloatKind.f64.format.order (qz q).1 (qz q).1 != some Ordering.eq) = false ∧ (FloatKind.f64.format.order (qz q).2 (qz q).2 != some Ordering.eq) = false := by
  match q with
  | 0 => decide +kernel
  | 1 => decide +kernel
  | 2 => decide +kernel
  | n + 3 =>
    show (FloatKind.f64.format.order sA sA != some Ordering.eq) = false ∧ (FloatKind.f64.format.order sB sB != some Ordering.eq) = false
    decide +kernel

theorem sameC_any (n : Nat) (w : World) : Calls Tryd.prog 7 #[Sy n, Sy n] w fun e w' => e = .returned (.bool true) ∧ w = w' := by
  unfold Sy sx sz
  have H1 := Lib.hid (fun w => same_any _ w (qz_some (gy (n % 4))).1)
  have H2 := Lib.hid (fun w => same_any _ w (qz_some (gy (n % 4))).2)
  generalize qz (gy (n % 4)) = z at H1 H2
  go_enter Tryd.func7, Tryd.ntmps7
  go_wp2_with (first | (go_at_call 12; with_reducible refine (H1.out _).mono ?_; rintro e w' ⟨rfl, rfl⟩) | (go_at_call 12; with_reducible refine (H2.out _).mono ?_; rintro e w' ⟨rfl, rfl⟩))
  go_ret
  exact ⟨rfl, rfl⟩
end Go.Proofs.YtnbkghlcpcmigabDoor
