/- MemNil: its walk. -/
import Derived.Test.YthneljkaieckeaaMM4
namespace Go.Proofs.Ythneljkaieckeaa
open Go.RowKit Go.Lib Go.Sort
set_option linter.unusedVariables false

theorem nil_check (a n : Int) (w : World) : Calls Try.prog 27 #[.pointer none, .int .i64 a, .int .i64 n] w fun r w' => r = .returned (.int .i64 1) ∧ w = w' := by
  go_enter Try.func27, Try.ntmps27
  go_wp2
  go_ret
  exact ⟨rfl, rfl⟩
theorem nil_get (a : Int) (w : World) : Calls Try.prog 22 #[.pointer none, .int .i64 a] w fun r w' => r = .returned (.tuple #[.int .i64 0, .int .i64 1]) ∧ w = w' := by
  go_enter Try.func22, Try.ntmps22
  go_wp2_with (go_at_call 27; refine (nil_check _ _ _).mono ?_; rintro e w' ⟨rfl, rfl⟩)
  go_ret2
  exact ⟨rfl, rfl⟩
theorem nil_get2 (a : Int) (w : World) : Calls Try.prog 23 #[.pointer none, .int .i64 a] w fun r w' => r = .returned (.tuple #[.int .i64 0, .int .i64 1]) ∧ w = w' := by
  go_enter Try.func23, Try.ntmps23
  go_wp2_with (go_at_call 27; refine (nil_check _ _ _).mono ?_; rintro e w' ⟨rfl, rfl⟩)
  go_ret2
  exact ⟨rfl, rfl⟩
theorem nil_text (a n : Int) (w : World) : Calls Try.prog 10 #[.pointer none, .int .i64 a, .int .i64 n] w fun r w' => r = .returned (.tuple #[.string .empty, .int .i64 1]) ∧ w = w' := by
  go_enter Try.func10, Try.ntmps10
  go_wp2_with (go_at_call 27; refine (nil_check _ _ _).mono ?_; rintro e w' ⟨rfl, rfl⟩)
  go_ret2
  exact ⟨rfl, rfl⟩
theorem nil_set (a n : Int) (w : World) : Calls Try.prog 20 #[.pointer none, .int .i64 a, .int .i64 n] w fun r w' => r = .returned (.int .i64 1) ∧ w = w' := by
  go_enter Try.func20, Try.ntmps20
  go_wp2_with (go_at_call 27; refine (nil_check _ _ _).mono ?_; rintro e w' ⟨rfl, rfl⟩)
  go_ret
  exact ⟨rfl, rfl⟩
theorem nil_put (a : Int) (s : ByteArray) (w : World) : Calls Try.prog 25 #[.pointer none, .int .i64 a, .string s] w fun r w' => r = .returned (.int .i64 1) ∧ w = w' := by
  go_enter Try.func25, Try.ntmps25
  go_wp2_with (go_at_call 27; refine (nil_check _ _ _).mono ?_; rintro e w' ⟨rfl, rfl⟩)
  go_ret
  exact ⟨rfl, rfl⟩
theorem nil_set2 (a n : Int) (w : World) : Calls Try.prog 24 #[.pointer none, .int .i64 a, .int .i64 n] w fun r w' => r = .returned (.int .i64 1) ∧ Below w.heap.size w w' := by
  go_enter Try.func24, Try.ntmps24
  go_wp2_with (first | (go_at_call 35; refine (put_any _ _).mono ?_; rintro e w1 ⟨rfl, rfl⟩) | (go_at_call 25; refine (nil_put _ _ _).mono ?_; rintro e w' ⟨rfl, rfl⟩))
  go_ret
  exact ⟨rfl, (Below.refl _ _).alloc (Nat.le_refl _) _⟩
theorem nil_size (w : World) : Calls Try.prog 11 #[.pointer none] w fun r w' => r = .returned (.int .i64 0) ∧ w = w' := by
  go_enter Try.func11, Try.ntmps11
  go_wp2
  go_ret
  exact ⟨rfl, rfl⟩
theorem nil_fork (w : World) : Calls Try.prog 13 #[.pointer none] w fun r w' => r = .returned (.pointer none) ∧ w = w' := by
  go_enter Try.func13, Try.ntmps13
  go_wp2
  go_ret
  exact ⟨rfl, rfl⟩
theorem nil_extend (w : World) : Calls Try.prog 28 #[.slice none 0 0, spv (0, 0)] w fun r w' => r = .returned (.slice none 0 0) ∧ Below w.heap.size w w' := by
  go_enter Try.func28, Try.ntmps28
  go_wp2_with (go_at_call 37; refine (is_no (0, 0) _ (by simp)).mono ?_; rintro e w2 ⟨rfl, g2⟩; have B2 := Lib.hid (((Below.refl w.heap.size w).alloc (Nat.le_refl _) (.cells #[.int .i64 0, .int .i64 0] 59)).trans (below_of_only g2 (by simp) (by simp))); clear g2)
  go_ret
  exact ⟨rfl, B2.out⟩
theorem nil_diff (m : Nat) (B : Nat) (w : World) (h : MemV w B m []) : Calls Try.prog 14 #[.pointer none, .pointer (some ⟨m, 0, none⟩)] w fun r w' => r = .returned (.slice none 0 0) ∧ Below w.heap.size w w' := by
  have hs := size_any w B m [] h
  have HS := Lib.hid hs
  clear hs h
  go_enter Try.func14, Try.ntmps14
  go_wp2_with (first | (go_at_call 11; (with_reducible refine (nil_size _).mono ?_); rintro e w1 ⟨rfl, rfl⟩) | (go_at_call 11; refine HS.out.mono ?_; rintro e w1 ⟨rfl, rfl⟩))
  refine wp_loop_rounds 1 ?_
  rw [rounds_succ]
  go_wp2_with (first | (go_at_call 11; (with_reducible refine (nil_size _).mono ?_); rintro e w1 ⟨rfl, rfl⟩) | (go_at_call 11; refine HS.out.mono ?_; rintro e w1 ⟨rfl, rfl⟩) | (go_at_call 28; refine (nil_extend _).mono ?_; rintro e w2 ⟨rfl, b2⟩))
  go_ret
  exact ⟨rfl, b2⟩

set_option maxRecDepth 100000 in
set_option maxHeartbeats 1600000 in
theorem mnil_walk (a n : Int) (s : ByteArray) (w : World) : Calls Try.prog 6 #[.int .i64 a, .int .i64 n, .string s] w fun e w' => e = .returned (.bool true) ∧ Below w.heap.size w w' := by
  go_enter Try.func6, Try.ntmps6
  go_wp2_with (first | (go_at_call 8; refine (mlive_any _).mono ?_; rintro e w1 ⟨rfl, b1⟩; have B1 := Lib.hid b1; clear b1) | (go_at_call 22; refine (nil_get _ _).mono ?_; rintro e w' ⟨rfl, rfl⟩) | (go_at_call 23; refine (nil_get2 _ _).mono ?_; rintro e w' ⟨rfl, rfl⟩) | (go_at_call 10; refine (nil_text _ _ _).mono ?_; rintro e w' ⟨rfl, rfl⟩) | (go_at_call 20; refine (nil_set _ _ _).mono ?_; rintro e w' ⟨rfl, rfl⟩) | (go_at_call 24; refine (nil_set2 _ _ _).mono ?_; rintro e w2 ⟨rfl, b2⟩; have B2 := Lib.hid (B1.out.trans (b2.mono B1.out.size)); clear b2) | (go_at_call 25; refine (nil_put _ _ _).mono ?_; rintro e w' ⟨rfl, rfl⟩) | (go_at_call 11; refine (nil_size _).mono ?_; rintro e w' ⟨rfl, rfl⟩) | (go_at_call 13; refine (nil_fork _).mono ?_; rintro e w' ⟨rfl, rfl⟩) | (go_at_call 18; refine (mnew_any _ _).mono ?_; rintro e w3 ⟨m, rfl, hm, b3⟩; have HM := Lib.hid (by simpa [sizeOf'] using hm : MemV w3 w2.heap.size m []); have B3 := Lib.hid (B2.out.trans (b3.mono B2.out.size)); clear hm b3) | (go_at_call 14; refine (nil_diff _ _ _ HM.out).mono ?_; rintro e w4 ⟨rfl, b4⟩; have B4 := Lib.hid (B3.out.trans (b4.mono B3.out.size)); clear b4))
  go_ret
  exact ⟨rfl, B4.out⟩
end Go.Proofs.Ythneljkaieckeaa
