import Derived.Test.YtiicoabkhponmaaDoorZ25
import Derived.Deep.RegionHeld3
set_option linter.all false
/- Package cpu: Give and Wake, by contract. -/
namespace Go.Proofs.YtiicoabkhponmaaDoor
open Go.RowKit Go.Lib
set_option linter.unusedVariables false
set_option maxRecDepth 8000

theorem Cu.wake_any (pc md : Int) (r : Nat → Int) (w : World) : Calls Tryd.prog 18 #[.agg #[.int .i64 pc, .int .i64 (r 0), .int .i64 (r 1), .int .i64 (r 2), .int .i64 (r 3), .int .i64 (r 4), .int .i64 (r 5), .int .i64 (r 6), .int .i64 (r 7), .int .i64 md]] w fun x w' => x = .returned (.agg #[.int .i64 pc, .int .i64 (r 0), .int .i64 (r 1), .int .i64 (r 2), .int .i64 (r 3), .int .i64 (r 4), .int .i64 (r 5), .int .i64 (r 6), .int .i64 (r 7), .int .i64 (if md = 1 then 0 else md)]) ∧ w.grownBy w' none := by
  by_cases h : md = 1
  · rw [if_pos h]
    subst h
    go_enter Tryd.func18, Tryd.ntmps18
    go_wp2
    refine bodyPost_ret (v := .agg #[.int .i64 pc, .int .i64 (r 0), .int .i64 (r 1), .int .i64 (r 2), .int .i64 (r 3), .int .i64 (r 4), .int .i64 (r 5), .int .i64 (r 6), .int .i64 (r 7), .int .i64 0]) (by simp [results, Tryd.results18, go_sem]) rfl ⟨rfl, ?_⟩
    repeat (first | exact only_refl _ _ | refine only_alloc ?_ _)
  · rw [if_neg h]
    have h1 : (md == 1) = false := by simpa using h
    go_enter Tryd.func18, Tryd.ntmps18
    go_wp2
    refine bodyPost_ret (v := .agg #[.int .i64 pc, .int .i64 (r 0), .int .i64 (r 1), .int .i64 (r 2), .int .i64 (r 3), .int .i64 (r 4), .int .i64 (r 5), .int .i64 (r 6), .int .i64 (r 7), .int .i64 md]) (by simp [results, Tryd.results18, go_sem]) rfl ⟨rfl, ?_⟩
    repeat (first | exact only_refl _ _ | refine only_alloc ?_ _)
theorem Cu.give_off (pc md x n : Int) (r : Nat → Int) (hx : ¬ (0 ≤ x ∧ x < 8)) (w : World) : Calls Tryd.prog 17 #[.agg #[.int .i64 pc, .int .i64 (r 0), .int .i64 (r 1), .int .i64 (r 2), .int .i64 (r 3), .int .i64 (r 4), .int .i64 (r 5), .int .i64 (r 6), .int .i64 (r 7), .int .i64 md], .int .i64 x, .int .i64 n] w fun e w' => e = .returned (.agg #[.int .i64 pc, .int .i64 (r 0), .int .i64 (r 1), .int .i64 (r 2), .int .i64 (r 3), .int .i64 (r 4), .int .i64 (r 5), .int .i64 (r 6), .int .i64 (r 7), .int .i64 md]) ∧ w.grownBy w' none := by
  have key : x < 0 ∨ (0 ≤ x ∧ ¬ x < 8) := by omega
  rcases key with h | ⟨h, h2⟩
  all_goals
    go_enter Tryd.func17, Tryd.ntmps17
    go_wp2
    refine bodyPost_ret (v := .agg #[.int .i64 pc, .int .i64 (r 0), .int .i64 (r 1), .int .i64 (r 2), .int .i64 (r 3), .int .i64 (r 4), .int .i64 (r 5), .int .i64 (r 6), .int .i64 (r 7), .int .i64 md]) (by simp [results, Tryd.results17, go_sem]) rfl ⟨rfl, ?_⟩
    repeat (first | exact only_refl _ _ | refine only_alloc ?_ _)
theorem Cu.give_in (pc md n : Int) (r : Nat → Int) (x : Nat) (hx : x < 8) (w : World) : Calls Tryd.prog 17 #[.agg #[.int .i64 pc, .int .i64 (r 0), .int .i64 (r 1), .int .i64 (r 2), .int .i64 (r 3), .int .i64 (r 4), .int .i64 (r 5), .int .i64 (r 6), .int .i64 (r 7), .int .i64 md], .int .i64 x, .int .i64 n] w fun e w' => e = .returned (.agg #[.int .i64 pc, .int .i64 (Cu.upd r x (n % 65536) 0), .int .i64 (Cu.upd r x (n % 65536) 1), .int .i64 (Cu.upd r x (n % 65536) 2), .int .i64 (Cu.upd r x (n % 65536) 3), .int .i64 (Cu.upd r x (n % 65536) 4), .int .i64 (Cu.upd r x (n % 65536) 5), .int .i64 (Cu.upd r x (n % 65536) 6), .int .i64 (Cu.upd r x (n % 65536) 7), .int .i64 md]) ∧ w.grownBy w' none := by
  have key : x = 0 ∨ x = 1 ∨ x = 2 ∨ x = 3 ∨ x = 4 ∨ x = 5 ∨ x = 6 ∨ x = 7 := by omega
  rcases key with rfl | rfl | rfl | rfl | rfl | rfl | rfl | rfl
  · go_enter Tryd.func17, Tryd.ntmps17
    go_wp2_with (go_at_call 24; (with_reducible refine (Cu.two_any _ _).mono ?_); rintro e w' ⟨rfl, rfl⟩)
    refine bodyPost_ret (v := .agg #[.int .i64 pc, .int .i64 (n % 65536), .int .i64 (r 1), .int .i64 (r 2), .int .i64 (r 3), .int .i64 (r 4), .int .i64 (r 5), .int .i64 (r 6), .int .i64 (r 7), .int .i64 md]) (by simp [results, Tryd.results17, go_sem]) rfl ⟨rfl, ?_⟩
    repeat (first | exact only_refl _ _ | refine only_alloc ?_ _)
  · go_enter Tryd.func17, Tryd.ntmps17
    go_wp2_with (go_at_call 24; (with_reducible refine (Cu.two_any _ _).mono ?_); rintro e w' ⟨rfl, rfl⟩)
    refine bodyPost_ret (v := .agg #[.int .i64 pc, .int .i64 (r 0), .int .i64 (n % 65536), .int .i64 (r 2), .int .i64 (r 3), .int .i64 (r 4), .int .i64 (r 5), .int .i64 (r 6), .int .i64 (r 7), .int .i64 md]) (by simp [results, Tryd.results17, go_sem]) rfl ⟨rfl, ?_⟩
    repeat (first | exact only_refl _ _ | refine only_alloc ?_ _)
  · go_enter Tryd.func17, Tryd.ntmps17
    go_wp2_with (go_at_call 24; (with_reducible refine (Cu.two_any _ _).mono ?_); rintro e w' ⟨rfl, rfl⟩)
    refine bodyPost_ret (v := .agg #[.int .i64 pc, .int .i64 (r 0), .int .i64 (r 1), .int .i64 (n % 65536), .int .i64 (r 3), .int .i64 (r 4), .int .i64 (r 5), .int .i64 (r 6), .int .i64 (r 7), .int .i64 md]) (by simp [results, Tryd.results17, go_sem]) rfl ⟨rfl, ?_⟩
    repeat (first | exact only_refl _ _ | refine only_alloc ?_ _)
  · go_enter Tryd.func17, Tryd.ntmps17
    go_wp2_with (go_at_call 24; (with_reducible refine (Cu.two_any _ _).mono ?_); rintro e w' ⟨rfl, rfl⟩)
    refine bodyPost_ret (v := .agg #[.int .i64 pc, .int .i64 (r 0), .int .i64 (r 1), .int .i64 (r 2), .int .i64 (n % 65536), .int .i64 (r 4), .int .i64 (r 5), .int .i64 (r 6), .int .i64 (r 7), .int .i64 md]) (by simp [results, Tryd.results17, go_sem]) rfl ⟨rfl, ?_⟩
    repeat (first | exact only_refl _ _ | refine only_alloc ?_ _)
  · go_enter Tryd.func17, Tryd.ntmps17
    go_wp2_with (go_at_call 24; (with_reducible refine (Cu.two_any _ _).mono ?_); rintro e w' ⟨rfl, rfl⟩)
    refine bodyPost_ret (v := .agg #[.int .i64 pc, .int .i64 (r 0), .int .i64 (r 1), .int .i64 (r 2), .int .i64 (r 3), .int .i64 (n % 65536), .int .i64 (r 5), .int .i64 (r 6), .int .i64 (r 7), .int .i64 md]) (by simp [results, Tryd.results17, go_sem]) rfl ⟨rfl, ?_⟩
    repeat (first | exact only_refl _ _ | refine only_alloc ?_ _)
  · go_enter Tryd.func17, Tryd.ntmps17
    go_wp2_with (go_at_call 24; (with_reducible refine (Cu.two_any _ _).mono ?_); rintro e w' ⟨rfl, rfl⟩)
    refine bodyPost_ret (v := .agg #[.int .i64 pc, .int .i64 (r 0), .int .i64 (r 1), .int .i64 (r 2), .int .i64 (r 3), .int .i64 (r 4), .int .i64 (n % 65536), .int .i64 (r 6), .int .i64 (r 7), .int .i64 md]) (by simp [results, Tryd.results17, go_sem]) rfl ⟨rfl, ?_⟩
    repeat (first | exact only_refl _ _ | refine only_alloc ?_ _)
  · go_enter Tryd.func17, Tryd.ntmps17
    go_wp2_with (go_at_call 24; (with_reducible refine (Cu.two_any _ _).mono ?_); rintro e w' ⟨rfl, rfl⟩)
    refine bodyPost_ret (v := .agg #[.int .i64 pc, .int .i64 (r 0), .int .i64 (r 1), .int .i64 (r 2), .int .i64 (r 3), .int .i64 (r 4), .int .i64 (r 5), .int .i64 (n % 65536), .int .i64 (r 7), .int .i64 md]) (by simp [results, Tryd.results17, go_sem]) rfl ⟨rfl, ?_⟩
    repeat (first | exact only_refl _ _ | refine only_alloc ?_ _)
  · go_enter Tryd.func17, Tryd.ntmps17
    go_wp2_with (go_at_call 24; (with_reducible refine (Cu.two_any _ _).mono ?_); rintro e w' ⟨rfl, rfl⟩)
    refine bodyPost_ret (v := .agg #[.int .i64 pc, .int .i64 (r 0), .int .i64 (r 1), .int .i64 (r 2), .int .i64 (r 3), .int .i64 (r 4), .int .i64 (r 5), .int .i64 (r 6), .int .i64 (n % 65536), .int .i64 md]) (by simp [results, Tryd.results17, go_sem]) rfl ⟨rfl, ?_⟩
    repeat (first | exact only_refl _ _ | refine only_alloc ?_ _)
end Go.Proofs.YtiicoabkhponmaaDoor
