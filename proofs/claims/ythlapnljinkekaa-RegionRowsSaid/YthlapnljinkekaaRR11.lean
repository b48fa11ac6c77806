/- What every law of package region asks first; RegionNil: its walk. -/
import Derived.Test.YthlapnljinkekaaRR10
namespace Go.Proofs.Ythlapnljinkekaa
open Go.RowKit Go.Lib Go.Sort
set_option linter.unusedVariables false

abbrev liveL : List Reg := [(2, 200, 64)]
theorem new_live (W : World) (g c : Nat) (h : Blk W g 30 #[.int .i64 2, .int .i64 200, .int .i64 64]) : Calls Try.prog 7 #[.slice (some ⟨g, 0, none⟩) 1 c] W fun e w' => ∃ t, e = .returned (.tuple #[.pointer (some ⟨t, 0, none⟩), .int .i64 0]) ∧ TabV w' W.heap.size t liveL ∧ Below W.heap.size W w' := by
  have hr : Regs W (some ⟨g, 0, none⟩) 1 c (fun _ => (2, 200, 64)) := ⟨fun e => (by cases e), fun _ => ⟨g, 0, rfl, h.lt, fun i hi => by
    obtain rfl : i = 0 := by omega
    exact ⟨h.cell 0, h.cell 1, h.cell 2⟩⟩⟩
  refine (tnew_any _ 1 c _ W hr (fun i _ => by unfold Fits fitI; simp) (by omega)).mono ?_
  rintro e w' ⟨hb, ⟨_, t, he, ht⟩ | ⟨hn, _⟩⟩
  · exact ⟨t, he, ht, hb⟩
  · exact absurd (by decide) hn
theorem map_live {W : World} {B t : Nat} (h : TabV W B t liveL) : (Calls Try.prog 16 #[.pointer (some ⟨t, 0, none⟩), .int .i64 2, .int .i64 60, .int .i64 4] W fun e w' => e = .returned (.tuple #[.int .i64 260, .int .i64 0]) ∧ W.grownBy w' none) ∧ (Calls Try.prog 16 #[.pointer (some ⟨t, 0, none⟩), .int .i64 2, .int .i64 60, .int .i64 5] W fun e w' => e = .returned (.tuple #[.int .i64 0, .int .i64 6]) ∧ W.grownBy w' none) := by
  have hm : AllMay liveL := fun r hr => by
    obtain rfl : r = (2, 200, 64) := by simpa using hr
    decide
  have h1 := map_any 60 4 h hm (show fitI 2 by decide) (show fitI 60 by decide)
  have h2 := map_any 60 5 h hm (show fitI 2 by decide) (show fitI 60 by decide)
  have e1 : mapV liveL 2 60 4 = (260, 0) := by decide
  have e2 : mapV liveL 2 60 5 = (0, 6) := by decide
  rw [e1] at h1
  rw [e2] at h2
  exact ⟨h1, h2⟩
theorem back_live {W : World} {B t : Nat} (h : TabV W B t liveL) : Calls Try.prog 18 #[.pointer (some ⟨t, 0, none⟩), .int .i64 263] W fun e w' => e = .returned (.tuple #[.int .i64 2, .int .i64 63]) ∧ Below W.heap.size W w' := by
  have hm : AllMay liveL := fun r hr => by
    obtain rfl : r = (2, 200, 64) := by simpa using hr
    decide
  refine (back_any 263 h (by decide) (by decide) hm).mono ?_
  rintro e w' ⟨o, k, rfl, hk, hb⟩
  refine ⟨?_, hb⟩
  rcases hk with ⟨r, hr, _, rfl, rfl⟩ | ⟨hn, _⟩
  · obtain rfl : r = (2, 200, 64) := by simpa using hr
    rfl
  · have := hn (2, 200, 64) (List.mem_cons_self ..)
    exact absurd this (by decide)

theorem rlive_any (w : World) : Calls Try.prog 9 #[] w fun e w' => e = .returned (.bool true) ∧ Below w.heap.size w w' := by
  go_enter Try.func9, Try.ntmps9
  go_wp2_with (first
    | (go_at_call 7; refine (new_live _ _ _ (Blk.new w _ _)).mono ?_; rintro e w1 ⟨t, rfl, ht, b1⟩; have T1 := Lib.hid ht; have B1 := Lib.hid (((Below.refl w.heap.size w).alloc (Nat.le_refl _) (.cells #[.int .i64 2, .int .i64 200, .int .i64 64] 30)).trans (b1.mono (by simp))); clear ht b1)
    | (go_at_call 16; ((with_reducible refine (map_live T1.out).1.mono ?_)); rintro e w2 ⟨rfl, g2⟩; have T2 := Lib.hid (T1.out.below (below_of_only g2 (Nat.le_refl _) (by simp))); have B2 := Lib.hid (B1.out.trans (below_of_only g2 B1.out.size (by simp))); clear g2)
    | (go_at_call 16; ((with_reducible refine (map_live T2.out).2.mono ?_)); rintro e w3 ⟨rfl, g3⟩; have T3 := Lib.hid (T2.out.below (below_of_only g3 (Nat.le_refl _) (by simp))); have B3 := Lib.hid (B2.out.trans (below_of_only g3 B2.out.size (by simp))); clear g3)
    | (go_at_call 18; refine (back_live T3.out).mono ?_; rintro e w4 ⟨rfl, b4⟩; have B4 := Lib.hid (B3.out.trans (b4.mono B3.out.size)); clear b4))
  go_ret
  exact ⟨rfl, B4.out⟩

set_option maxRecDepth 100000 in
theorem rnil_walk (o a n : Int) (w : World) : Calls Try.prog 6 #[.int .i64 o, .int .i64 a, .int .i64 n] w fun e w' => e = .returned (.bool true) ∧ Below w.heap.size w w' := by
  go_enter Try.func6, Try.ntmps6
  go_wp2_with (first
    | (go_at_call 10; refine (find_nil _ _).mono ?_; rintro e w1 ⟨rfl, g1⟩; have B1 := Lib.hid (below_of_only g1 (Nat.le_refl w.heap.size) (by simp)); clear g1)
    | (go_at_call 16; refine (map_nil _ _ _ _).mono ?_; rintro e w2 ⟨rfl, g2⟩; have B2 := Lib.hid ((B1.out.alloc B1.out.size (.cells #[.int .i64 0, .int .i64 0, .int .i64 0] 30)).trans (below_of_only g2 (Nat.le_trans B1.out.size (by simp)) (by simp))); clear g2)
    | (go_at_call 18; refine (back_nil _ _).mono ?_; rintro e w3 ⟨rfl, rfl⟩)
    | (go_at_call 9; refine (rlive_any _).mono ?_; rintro e w4 ⟨rfl, b4⟩; have B4 := Lib.hid (B2.out.trans (b4.mono B2.out.size)); clear b4)
    | (go_at_call 12; refine (all_nil _).mono ?_; rintro e w5 ⟨rfl, rfl⟩)
    | (go_at_call 14; refine (tspan_nil _ _).mono ?_; rintro e w6 ⟨rfl, g6⟩; have B6 := Lib.hid (B4.out.trans (below_of_only g6 B4.out.size (by simp))); clear g6))
  go_ret
  exact ⟨rfl, B6.out⟩
end Go.Proofs.Ythlapnljinkekaa
