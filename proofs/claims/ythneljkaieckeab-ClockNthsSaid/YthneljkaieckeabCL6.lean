/- What every law of package clock asks first; the document's Offset and Next. -/
import Derived.Test.YthneljkaieckeabCL5
namespace Go.Proofs.Ythneljkaieckeab
open Go.RowKit Go.Lib Go.Sort
set_option linter.unusedVariables false

theorem roff_any (t f : Int) (w : World) (h0 : 0 ≤ t) (h1 : 1 ≤ f) (h2 : t ≤ 9223372036854775807) : Calls Try.prog 10 #[.int .i64 t, .int .i64 f] w fun r w' => r = .returned (.int .i64 (t % f)) ∧ w = w' := by
  obtain ⟨a, b, c⟩ := ticks (t := t) (f := f) (by omega)
  have q0 : 0 ≤ t / f := Int.ediv_nonneg h0 (by omega)
  have q1 : t / f ≤ t := Int.ediv_le_self _ h0
  have q2 : 0 ≤ t / f * f := Int.mul_nonneg q0 (by omega)
  have q3 : t / f * f ≤ t := by rw [Int.mul_comm]; omega
  have q4 : t - t / f * f = t % f := by rw [Int.mul_comm]; omega
  have Q4 := Lib.hid q4
  clear a b c q4
  go_enter Try.func10, Try.ntmps10
  go_wp2
  go_ret
  exact ⟨ret_int Q4.out, rfl⟩

theorem nth_live (W : World) (g cap : Nat) (h : Blk W g 31 #[.int .i64 4, .int .i64 6]) : Calls Try.prog 18 #[.int .i64 0, .int .i64 3, .int .i64 10, .slice (some ⟨g, 0, none⟩) 1 cap] W fun r w' => r = .returned (.int .i64 14) ∧ Below W.heap.size W w' := by
  have hs : Spans W (some ⟨g, 0, none⟩) 1 cap (fun _ => (4, 6)) := ⟨fun e => (by cases e), fun _ => ⟨g, 0, rfl, h.lt, fun i hi => by
    obtain rfl : i = 0 := by omega
    exact ⟨h.cell 0, h.cell 1⟩⟩⟩
  refine (nth_any 0 3 10 (by omega) _ 1 cap _ W hs (by omega)).mono ?_
  rintro e w' ⟨r, rfl, hb, p, E, hp, hE, hr⟩
  refine ⟨?_, hb⟩
  have hp' : p = fun x => rightB 10 && decide (0 ≤ x ∧ x < 10) && inN (fun _ => (4, 6)) x 1 := funext hp
  subst hp'
  have e2 : E = 2 := by rw [hE]; decide
  subst e2
  rcases hr with ⟨_, q⟩ | ⟨_, _, _, _, _, _, _, hP, hG⟩
  · omega
  · have g1 : gT (fun x => rightB 10 && decide (0 ≤ x ∧ x < 10) && inN (fun _ => (4, 6)) x 1) 10 2 14 = 2 := by decide
    have g0 : gT (fun x => rightB 10 && decide (0 ≤ x ∧ x < 10) && inN (fun _ => (4, 6)) x 1) 10 2 0 = 0 := by decide
    have := gT_one (t := r) (u := 14) (by omega) hE hP (by decide) (by rw [hG, g0, g1]; rfl)
    rw [this]

theorem clive_any (w : World) : Calls Try.prog 12 #[] w fun e w' => e = .returned (.bool true) ∧ Below w.heap.size w w' := by
  have hf : ∀ W, Calls Try.prog 7 #[.int .i64 37, .int .i64 10] W fun r w' => r = .returned (.tuple #[.int .i64 3, .int .i64 7]) ∧ ∃ q, W.drewN q = w' := fun W => by
    have := frame_any 37 10 W (by omega)
    have e : frV 37 10 = (3, 7) := by decide
    rw [e] at this
    exact this
  have ha : ∀ W, Calls Try.prog 11 #[.int .i64 3, .int .i64 7, .int .i64 10] W fun r w' => r = .returned (.int .i64 37) ∧ W.grownBy w' none := fun W => by
    have := at_any 3 7 10 W
    have e : atV 3 7 10 = 37 := by decide
    rw [e] at this
    exact this
  have hn : ∀ W, Calls Try.prog 13 #[.int .i64 37, .int .i64 5, .int .i64 10] W fun r w' => r = .returned (.int .i64 45) ∧ W.grownBy w' none := fun W => by
    have := next_any 37 5 10 W
    have e : nextV 37 5 10 = 45 := by decide
    rw [e] at this
    exact this
  have hr : ∀ W, Calls Try.prog 9 #[.int .i64 1] W fun r w' => r = .returned (.bool true) ∧ W = w' := fun W => by
    have := right_any 1 W
    have e : rightB 1 = true := by decide
    rw [e] at this
    exact this
  have HF := Lib.hid hf
  have HA := Lib.hid ha
  have HN := Lib.hid hn
  have HR := Lib.hid hr
  clear hf ha hn hr
  go_enter Try.func12, Try.ntmps12
  go_wp2_with (first
    | (go_at_call 7; refine (HF.out _).mono ?_; rintro e w1 ⟨rfl, dq, rfl⟩; have B1 := Lib.hid (below_drewN (Below.refl w.heap.size w) dq))
    | (go_at_call 11; refine (HA.out _).mono ?_; rintro e w2 ⟨rfl, g2⟩; have B2 := Lib.hid (B1.out.trans (below_of_only g2 B1.out.size (by simp))); clear g2)
    | (go_at_call 13; refine (HN.out _).mono ?_; rintro e w3 ⟨rfl, g3⟩; have B3 := Lib.hid (B2.out.trans (below_of_only g3 B2.out.size (by simp))); clear g3)
    | (go_at_call 18; refine (nth_live _ _ _ (Blk.new w3 _ _)).mono ?_; rintro e w4 ⟨rfl, b4⟩; have B4 := Lib.hid ((B3.out.alloc B3.out.size (.cells #[.int .i64 4, .int .i64 6] 31)).trans (b4.mono (Nat.le_trans B3.out.size (by simp)))); clear b4)
    | (go_at_call 9; refine (HR.out _).mono ?_; rintro e w5 ⟨rfl, rfl⟩))
  go_ret
  exact ⟨rfl, B4.out⟩
end Go.Proofs.Ythneljkaieckeab
