/- ClockNext: its walk. -/
import Derived.Test.YthneljkaieckeabCL6
namespace Go.Proofs.Ythneljkaieckeab
open Go.RowKit Go.Lib Go.Sort
set_option linter.unusedVariables false

set_option maxHeartbeats 1600000 in
theorem rnext_any (t o f : Int) (w : World) (ho : offB o f = true) (ht : t ≤ 2147483647) : Calls Try.prog 14 #[.int .i64 t, .int .i64 o, .int .i64 f] w fun r w' => r = .returned (.int .i64 (nextV t o f)) ∧ w = w' := by
  obtain ⟨f1, f2, o1, o2⟩ := (offB_iff o f).1 ho
  obtain ⟨n1, n2, n3⟩ := next_is ho ht
  obtain ⟨T, hT⟩ : ∃ T, T = nextV t o f := ⟨_, rfl⟩
  rw [← hT] at n1 n2 n3 ⊢
  clear hT
  have hoff : ∀ m, 0 ≤ m → m ≤ T → m % f = o → max t 0 ≤ m → m = T := fun m m0 m1 m2 m3 => by
    rcases Int.lt_or_eq_of_le m1 with q | q
    · exact absurd (m2.trans n3.symm) (off_far (by omega) q (by omega))
    · exact q
  have HOFF := Lib.hid hoff
  have N3 := Lib.hid n3
  clear hoff n3
  have hcase : (t < 0 ∧ max t 0 = 0) ∨ (0 ≤ t ∧ max t 0 = t) := by omega
  rcases hcase with ⟨t0, e⟩ | ⟨t0, e⟩
  all_goals
    rw [e] at n1 n2 HOFF
    clear e
    go_enter Try.func14, Try.ntmps14
    go_wp2
    go_loopw [7] (fun x wr => ∃ m : Int, x = .int .i64 m ∧ 0 ≤ m ∧ Hid (max t 0 ≤ m) ∧ m ≤ T ∧ w = wr) (fun x _ => (T - intOf x).toNat)
    case atStart => exact ⟨_, rfl, by omega, by unfold Hid; omega, n1, rfl⟩
    case round =>
      obtain ⟨m, rfl, m0, M3, m1, rfl⟩ := hrel
      by_cases hm : m % f = o
      · have e := HOFF.out m m0 m1 hm (by have := M3.out; omega)
        subst e
        go_wp2_with (go_at_call 10; refine (roff_any _ f _ m0 f1 (by omega)).mono ?_; rintro e w' ⟨rfl, rfl⟩)
        go_ret
        exact ⟨rfl, rfl⟩
      · have hne : m < T := by
          rcases Int.lt_or_eq_of_le m1 with q | q
          · exact q
          · exact absurd (by rw [q]; exact N3.out) hm
        go_wp2_with (go_at_call 10; refine (roff_any _ f _ m0 f1 (by omega)).mono ?_; rintro e w' ⟨rfl, rfl⟩)
        go_roundw
        case rel => exact ⟨m + 1, by first | rfl | go_num, by omega, by have := M3.out; unfold Hid; omega, by omega, by first | rfl | trivial⟩
        case measure => simp [intOf] <;> omega

set_option maxRecDepth 100000 in
set_option maxHeartbeats 3200000 in
theorem next_walk (t o f : Int) (w : World) : Calls Try.prog 4 #[.int .i64 t, .int .i64 o, .int .i64 f] w fun e w' => e = .returned (.bool true) ∧ Below w.heap.size w w' := by
  have hn := next_any t o f
  have hr := rright_any f
  by_cases hgood : offB o f = true ∧ t ≤ 2147483647
  · obtain ⟨ho, ht⟩ := hgood
    obtain ⟨f1, f2, o1, o2⟩ := (offB_iff o f).1 ho
    have hfr : rightB f = true := (rightB_iff f).2 ⟨f1, f2⟩
    obtain ⟨n1, n2, n3⟩ := next_is ho ht
    have hrn := fun W => rnext_any t o f W ho ht
    obtain ⟨T, hT⟩ : ∃ T, T = nextV t o f := ⟨_, rfl⟩
    rw [← hT] at n1 n2 hn hrn
    rw [hfr] at hr
    have HN := Lib.hid hn
    have HR := Lib.hid hr
    have HRN := Lib.hid hrn
    clear hn hr hrn hT hfr ho n3
    have hcase : (t < 0 ∧ max t 0 = 0) ∨ (0 ≤ t ∧ max t 0 = t) := by omega
    rcases hcase with ⟨t0, e⟩ | ⟨t0, e⟩
    all_goals
      rw [e] at n1 n2
      clear e
      go_enter Try.func4, Try.ntmps4
      go_wp2_with (first | (go_at_call 13; refine (HN.out _).mono ?_; rintro e w1 ⟨rfl, g1⟩; have B1 := Lib.hid (below_of_only g1 (Nat.le_refl _) (by simp)); clear g1) | (go_at_call 8; refine (HR.out _).mono ?_; rintro e w2 ⟨rfl, rfl⟩) | (go_at_call 12; refine (clive_any _).mono ?_; rintro e w5 ⟨rfl, b5⟩; have B5 := Lib.hid (B1.out.trans (b5.mono B1.out.size)); clear b5) | (go_at_call 14; refine (HRN.out _).mono ?_; rintro e w6 ⟨rfl, rfl⟩))
      go_ret
      exact ⟨by first | rfl | (simp; done) | (simp; omega), B5.out⟩
  · have hv : nextV t o f = -1 := by unfold nextV; rw [if_neg hgood]
    rw [hv] at hn
    have HN := Lib.hid hn
    have hc : rightB f = false ∨ (rightB f = true ∧ o < 0) ∨ (rightB f = true ∧ 0 ≤ o ∧ f ≤ o) ∨ (rightB f = true ∧ 0 ≤ o ∧ o < f ∧ 2147483647 < t) := by
      rw [offB_iff] at hgood
      rcases Bool.eq_false_or_eq_true (rightB f) with q | q
      · have q' := (rightB_iff f).1 q
        refine .inr ?_
        by_cases h1 : o < 0
        · exact .inl ⟨q, h1⟩
        · by_cases h2 : f ≤ o
          · exact .inr (.inl ⟨q, by omega, h2⟩)
          · exact .inr (.inr ⟨q, by omega, by omega, by omega⟩)
      · exact .inl q
    clear hn hv hgood
    rcases hc with q | ⟨q, h1⟩ | ⟨q, h1, h2⟩ | ⟨q, h1, h2, h3⟩
    all_goals
      rw [q] at hr
      have HR := Lib.hid hr
      clear hr q
      go_enter Try.func4, Try.ntmps4
      go_wp2_with (first | (go_at_call 13; refine (HN.out _).mono ?_; rintro e w1 ⟨rfl, g1⟩; have B1 := Lib.hid (below_of_only g1 (Nat.le_refl _) (by simp)); clear g1) | (go_at_call 8; refine (HR.out _).mono ?_; rintro e w2 ⟨rfl, rfl⟩) | (go_at_call 12; refine (clive_any _).mono ?_; rintro e w5 ⟨rfl, b5⟩; have B5 := Lib.hid (B1.out.trans (b5.mono B1.out.size)); clear b5))
      go_ret
      exact ⟨by first | rfl | (simp; done) | (simp; omega), B5.out⟩
end Go.Proofs.Ythneljkaieckeab
