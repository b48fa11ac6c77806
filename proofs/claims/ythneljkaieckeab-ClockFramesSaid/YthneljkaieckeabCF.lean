/- ClockFrames: its walk. -/
import Derived.Test.YthneljkaieckeabCL6
namespace Go.Proofs.Ythneljkaieckeab
open Go.RowKit Go.Lib Go.Sort
set_option linter.unusedVariables false

set_option maxRecDepth 100000 in
set_option maxHeartbeats 3200000 in
theorem frames_walk (t q o f : Int) (w : World) (bt : -9223372036854775808 ≤ t ∧ t ≤ 9223372036854775807) : Calls Try.prog 3 #[.int .i64 t, .int .i64 q, .int .i64 o, .int .i64 f] w fun e w' => e = .returned (.bool true) ∧ Below w.heap.size w w' := by
  obtain ⟨_, bt⟩ := bt
  have hr := rright_any f
  have hr2 := right_any f
  have hfr : ∀ u W, u ≤ 9223372036854775807 → Calls Try.prog 7 #[.int .i64 u, .int .i64 f] W fun r w' => r = .returned (.tuple #[.int .i64 (frV u f).1, .int .i64 (frV u f).2]) ∧ ∃ q, W.drewN q = w' := fun u W h => frame_any u f W h
  by_cases hf : rightB f = true
  · obtain ⟨f1, f2⟩ := (rightB_iff f).1 hf
    rw [hf] at hr hr2
    have HR := Lib.hid hr
    have HR2 := Lib.hid hr2
    -- the first half
    have first : (t < 0 ∧ frV t f = (0, 0)) ∨ (0 ≤ t ∧ frV t f = (t / f, t % f)) := by
      by_cases h : 0 ≤ t
      · exact .inr ⟨h, by simp [frV, hf, h]⟩
      · exact .inl ⟨by omega, by simp [frV, h]⟩
    -- the second half
    have second : (q < 0 ∧ atV q o f = -1) ∨ (0 ≤ q ∧ 2147483647 < q ∧ atV q o f = -1) ∨ (0 ≤ q ∧ q ≤ 2147483647 ∧ o < 0 ∧ atV q o f = -1) ∨ (0 ≤ q ∧ q ≤ 2147483647 ∧ 0 ≤ o ∧ f ≤ o ∧ atV q o f = -1) ∨ (0 ≤ q ∧ q ≤ 2147483647 ∧ 0 ≤ o ∧ o < f ∧ atV q o f = q * f + o) := by
      by_cases h1 : q < 0
      · exact .inl ⟨h1, by unfold atV; rw [if_neg (by omega)]⟩
      · by_cases h2 : 2147483647 < q
        · exact .inr (.inl ⟨by omega, h2, by unfold atV; rw [if_neg (by omega)]⟩)
        · by_cases h3 : o < 0
          · exact .inr (.inr (.inl ⟨by omega, by omega, h3, by unfold atV; rw [if_neg (by rw [offB_iff]; omega)]⟩))
          · by_cases h4 : f ≤ o
            · exact .inr (.inr (.inr (.inl ⟨by omega, by omega, by omega, h4, by unfold atV; rw [if_neg (by rw [offB_iff]; omega)]⟩)))
            · exact .inr (.inr (.inr (.inr ⟨by omega, by omega, by omega, by omega, by unfold atV; rw [if_pos (by rw [offB_iff]; omega)]⟩)))
    have hat : ∀ W, Calls Try.prog 11 #[.int .i64 q, .int .i64 o, .int .i64 f] W fun r w' => r = .returned (.int .i64 (atV q o f)) ∧ W.grownBy w' none := at_any q o f
    have hfr1 := fun W => hfr t W bt
    clear hr hr2
    obtain ⟨tk, r0, r1⟩ := ticks (t := t) (f := f) (by omega)
    have hf2 : q ≤ 2147483647 → 0 ≤ q → 0 ≤ o → o < f → ∀ W, Calls Try.prog 7 #[.int .i64 (q * f + o), .int .i64 f] W fun r w' => r = .returned (.tuple #[.int .i64 q, .int .i64 o]) ∧ ∃ q, W.drewN q = w' := fun q1 q0 o0 o1 W => by
      obtain ⟨p1, p2⟩ := prod_small q0 q1 f1 f2
      have := hfr (q * f + o) W (by omega)
      have e := tick_one (f := f) (q := q) o0 o1
      have e2 : frV (q * f + o) f = (q, o) := by unfold frV; rw [if_pos ⟨hf, by omega⟩, e.1, e.2]
      rw [e2] at this
      exact this
    have HF2' := Lib.hid hf2
    clear hf2 hfr
    rcases first with ⟨t0, e1⟩ | ⟨t0, e1⟩
    · rw [e1] at hfr1
      have HF1 := Lib.hid hfr1
      clear hfr1 e1 tk r0 r1 hf
      rcases second with ⟨q0, e2⟩ | ⟨q0, q1, e2⟩ | ⟨q0, q1, o0, e2⟩ | ⟨q0, q1, o0, o1, e2⟩ | ⟨q0, q1, o0, o1, e2⟩
      iterate 4
        · rw [e2] at hat
          have HAT := Lib.hid hat
          clear hat e2 HF2'
          go_enter Try.func3, Try.ntmps3
          go_wp2_with (first | (go_at_call 7; (with_reducible refine (HF1.out _).mono ?_); rintro e w1 ⟨rfl, dq, rfl⟩; have B1 := Lib.hid (below_drewN (Below.refl w.heap.size w) dq)) | (go_at_call 8; refine (HR.out _).mono ?_; rintro e w2 ⟨rfl, rfl⟩) | (go_at_call 9; refine (HR2.out _).mono ?_; rintro e w3 ⟨rfl, rfl⟩) | (go_at_call 11; (with_reducible refine (HAT.out _).mono ?_); rintro e w4 ⟨rfl, g4⟩; have B4 := Lib.hid (B1.out.trans (below_of_only g4 B1.out.size (by simp))); clear g4) | (go_at_call 12; refine (clive_any _).mono ?_; rintro e w5 ⟨rfl, b5⟩; have B5 := Lib.hid (B4.out.trans (b5.mono B4.out.size)); clear b5))
          go_ret
          exact ⟨by first | rfl | simp, B5.out⟩
      · rw [e2] at hat
        have HAT := Lib.hid hat
        have HF2 := Lib.hid (HF2'.out q1 q0 o0 o1)
        clear hat e2 HF2'
        go_enter Try.func3, Try.ntmps3
        go_wp2_with (first | (go_at_call 7; (with_reducible refine (HF1.out _).mono ?_); rintro e w1 ⟨rfl, dq, rfl⟩; have B1 := Lib.hid (below_drewN (Below.refl w.heap.size w) dq)) | (go_at_call 8; refine (HR.out _).mono ?_; rintro e w2 ⟨rfl, rfl⟩) | (go_at_call 9; refine (HR2.out _).mono ?_; rintro e w3 ⟨rfl, rfl⟩) | (go_at_call 11; (with_reducible refine (HAT.out _).mono ?_); rintro e w4 ⟨rfl, g4⟩; have B4 := Lib.hid (B1.out.trans (below_of_only g4 B1.out.size (by simp))); clear g4) | (go_at_call 7; (with_reducible refine (HF2.out _).mono ?_); rintro e w7 ⟨rfl, dq7, rfl⟩; have B7 := Lib.hid (below_drewN B4.out dq7)) | (go_at_call 12; refine (clive_any _).mono ?_; rintro e w5 ⟨rfl, b5⟩; have B5 := Lib.hid (B7.out.trans (b5.mono B7.out.size)); clear b5))
        go_ret
        exact ⟨by first | rfl | simp, B5.out⟩
    · rw [e1] at hfr1
      have HF1 := Lib.hid hfr1
      have u0 : 0 ≤ t / f := Int.ediv_nonneg t0 (by omega)
      have u1 : t / f ≤ t := Int.ediv_le_self _ t0
      by_cases hbig : t / f ≤ 2147483647
      · have ha1 := at_any (t / f) (t % f) f
        have e3 : atV (t / f) (t % f) f = t := by unfold atV; rw [if_pos ⟨by rw [offB_iff]; omega, u0, hbig⟩, Int.mul_comm]; omega
        rw [e3] at ha1
        have HA1 := Lib.hid ha1
        clear hfr1 e1 tk r0 r1 hf ha1 e3
        rcases second with ⟨q0, e2⟩ | ⟨q0, q1, e2⟩ | ⟨q0, q1, o0, e2⟩ | ⟨q0, q1, o0, o1, e2⟩ | ⟨q0, q1, o0, o1, e2⟩
        iterate 4
          · rw [e2] at hat
            have HAT := Lib.hid hat
            clear hat e2 HF2'
            go_enter Try.func3, Try.ntmps3
            go_wp2_with (first | (go_at_call 7; (with_reducible refine (HF1.out _).mono ?_); rintro e w1 ⟨rfl, dq, rfl⟩; have B1 := Lib.hid (below_drewN (Below.refl w.heap.size w) dq)) | (go_at_call 8; refine (HR.out _).mono ?_; rintro e w2 ⟨rfl, rfl⟩) | (go_at_call 9; refine (HR2.out _).mono ?_; rintro e w3 ⟨rfl, rfl⟩) | (go_at_call 10; refine (roff_any t f _ t0 f1 bt).mono ?_; rintro e w' ⟨rfl, rfl⟩) | (go_at_call 11; (with_reducible refine (HA1.out _).mono ?_); rintro e w6 ⟨rfl, g6⟩; have B6 := Lib.hid (B1.out.trans (below_of_only g6 B1.out.size (by simp))); clear g6) | (go_at_call 11; (with_reducible refine (HAT.out _).mono ?_); rintro e w4 ⟨rfl, g4⟩; have B4 := Lib.hid (B6.out.trans (below_of_only g4 B6.out.size (by simp))); clear g4) | (go_at_call 12; refine (clive_any _).mono ?_; rintro e w5 ⟨rfl, b5⟩; have B5 := Lib.hid (B4.out.trans (b5.mono B4.out.size)); clear b5))
            go_ret
            exact ⟨by first | rfl | simp, B5.out⟩
        · rw [e2] at hat
          have HAT := Lib.hid hat
          have HF2 := Lib.hid (HF2'.out q1 q0 o0 o1)
          clear hat e2 HF2'
          go_enter Try.func3, Try.ntmps3
          go_wp2_with (first | (go_at_call 7; (with_reducible refine (HF1.out _).mono ?_); rintro e w1 ⟨rfl, dq, rfl⟩; have B1 := Lib.hid (below_drewN (Below.refl w.heap.size w) dq)) | (go_at_call 8; refine (HR.out _).mono ?_; rintro e w2 ⟨rfl, rfl⟩) | (go_at_call 9; refine (HR2.out _).mono ?_; rintro e w3 ⟨rfl, rfl⟩) | (go_at_call 10; refine (roff_any t f _ t0 f1 bt).mono ?_; rintro e w' ⟨rfl, rfl⟩) | (go_at_call 11; (with_reducible refine (HA1.out _).mono ?_); rintro e w6 ⟨rfl, g6⟩; have B6 := Lib.hid (B1.out.trans (below_of_only g6 B1.out.size (by simp))); clear g6) | (go_at_call 11; (with_reducible refine (HAT.out _).mono ?_); rintro e w4 ⟨rfl, g4⟩; have B4 := Lib.hid (B6.out.trans (below_of_only g4 B6.out.size (by simp))); clear g4) | (go_at_call 7; (with_reducible refine (HF2.out _).mono ?_); rintro e w7 ⟨rfl, dq7, rfl⟩; have B7 := Lib.hid (below_drewN B4.out dq7)) | (go_at_call 12; refine (clive_any _).mono ?_; rintro e w5 ⟨rfl, b5⟩; have B5 := Lib.hid (B7.out.trans (b5.mono B7.out.size)); clear b5))
          go_ret
          exact ⟨by first | rfl | simp, B5.out⟩
      · clear hfr1 e1 tk r0 r1 hf
        rcases second with ⟨q0, e2⟩ | ⟨q0, q1, e2⟩ | ⟨q0, q1, o0, e2⟩ | ⟨q0, q1, o0, o1, e2⟩ | ⟨q0, q1, o0, o1, e2⟩
        iterate 4
          · rw [e2] at hat
            have HAT := Lib.hid hat
            clear hat e2 HF2'
            go_enter Try.func3, Try.ntmps3
            go_wp2_with (first | (go_at_call 7; (with_reducible refine (HF1.out _).mono ?_); rintro e w1 ⟨rfl, dq, rfl⟩; have B1 := Lib.hid (below_drewN (Below.refl w.heap.size w) dq)) | (go_at_call 8; refine (HR.out _).mono ?_; rintro e w2 ⟨rfl, rfl⟩) | (go_at_call 9; refine (HR2.out _).mono ?_; rintro e w3 ⟨rfl, rfl⟩) | (go_at_call 10; refine (roff_any t f _ t0 f1 bt).mono ?_; rintro e w' ⟨rfl, rfl⟩) | (go_at_call 11; (with_reducible refine (HAT.out _).mono ?_); rintro e w4 ⟨rfl, g4⟩; have B4 := Lib.hid (B1.out.trans (below_of_only g4 B1.out.size (by simp))); clear g4) | (go_at_call 12; refine (clive_any _).mono ?_; rintro e w5 ⟨rfl, b5⟩; have B5 := Lib.hid (B4.out.trans (b5.mono B4.out.size)); clear b5))
            go_ret
            exact ⟨by first | rfl | simp, B5.out⟩
        · rw [e2] at hat
          have HAT := Lib.hid hat
          have HF2 := Lib.hid (HF2'.out q1 q0 o0 o1)
          clear hat e2 HF2'
          go_enter Try.func3, Try.ntmps3
          go_wp2_with (first | (go_at_call 7; (with_reducible refine (HF1.out _).mono ?_); rintro e w1 ⟨rfl, dq, rfl⟩; have B1 := Lib.hid (below_drewN (Below.refl w.heap.size w) dq)) | (go_at_call 8; refine (HR.out _).mono ?_; rintro e w2 ⟨rfl, rfl⟩) | (go_at_call 9; refine (HR2.out _).mono ?_; rintro e w3 ⟨rfl, rfl⟩) | (go_at_call 10; refine (roff_any t f _ t0 f1 bt).mono ?_; rintro e w' ⟨rfl, rfl⟩) | (go_at_call 11; (with_reducible refine (HAT.out _).mono ?_); rintro e w4 ⟨rfl, g4⟩; have B4 := Lib.hid (B1.out.trans (below_of_only g4 B1.out.size (by simp))); clear g4) | (go_at_call 7; (with_reducible refine (HF2.out _).mono ?_); rintro e w7 ⟨rfl, dq7, rfl⟩; have B7 := Lib.hid (below_drewN B4.out dq7)) | (go_at_call 12; refine (clive_any _).mono ?_; rintro e w5 ⟨rfl, b5⟩; have B5 := Lib.hid (B7.out.trans (b5.mono B7.out.size)); clear b5))
          go_ret
          exact ⟨by first | rfl | simp, B5.out⟩
  · have hff : rightB f = false := by simpa using hf
    rw [hff] at hr hr2
    have HR := Lib.hid hr
    have HR2 := Lib.hid hr2
    have e1 : frV t f = (0, 0) := by simp [frV, hf]
    have e2 : atV q o f = -1 := by unfold atV; rw [offB_is, hff]; simp
    have hfr1 := fun W => hfr t W bt
    have hat := at_any q o f
    rw [e1] at hfr1
    rw [e2] at hat
    have HF1 := Lib.hid hfr1
    have HAT := Lib.hid hat
    clear hr hr2 hfr1 hat hf hff e1 e2 hfr
    go_enter Try.func3, Try.ntmps3
    go_wp2_with (first | (go_at_call 7; refine (HF1.out _).mono ?_; rintro e w1 ⟨rfl, dq, rfl⟩; have B1 := Lib.hid (below_drewN (Below.refl w.heap.size w) dq)) | (go_at_call 8; refine (HR.out _).mono ?_; rintro e w2 ⟨rfl, rfl⟩) | (go_at_call 9; refine (HR2.out _).mono ?_; rintro e w3 ⟨rfl, rfl⟩) | (go_at_call 11; refine (HAT.out _).mono ?_; rintro e w4 ⟨rfl, g4⟩; have B4 := Lib.hid (B1.out.trans (below_of_only g4 B1.out.size (by simp))); clear g4) | (go_at_call 12; refine (clive_any _).mono ?_; rintro e w5 ⟨rfl, b5⟩; have B5 := Lib.hid (B4.out.trans (b5.mono B4.out.size)); clear b5))
    go_ret
    exact ⟨rfl, B5.out⟩
end Go.Proofs.Ythneljkaieckeab
