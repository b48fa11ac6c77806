/- Package clock: ticks of offsets, the next tick, how many: each call by its contract. -/
import Derived.Test.YthneljkaieckeabCL0
import Derived.Deep.RegionWith
namespace Go.Proofs.Ythneljkaieckeab
open Go.RowKit Go.Lib Go.Sort
set_option linter.unusedVariables false

theorem off_any (o f : Int) (w : World) : Calls Try.prog 22 #[.int .i64 o, .int .i64 f] w fun r w' => r = .returned (.bool (offB o f)) ∧ w.grownBy w' none := by
  have hc := right_any f w
  obtain ⟨x, hx⟩ : ∃ x, x = rightB f := ⟨_, rfl⟩
  rw [← hx] at hc
  have HC := Lib.hid hc
  have hv : offB o f = (x && holdsB (0, f) o) := by rw [hx]; exact offB_is o f
  have HV := Lib.hid hv
  clear hc hx hv
  cases x with
  | true =>
    go_enter Try.func22, Try.ntmps22
    go_wp2_with (first | (go_at_call 9; refine HC.out.mono ?_; rintro e w' ⟨rfl, rfl⟩) | (go_at_call 25; refine (whole_any _ _).mono ?_; rintro e w2 ⟨rfl, g2⟩) | (go_at_call 30; refine (holds_any (0, f) o _).mono ?_; rintro e w3 ⟨rfl, g3⟩))
    go_ret
    rw [HV.out]
    exact ⟨rfl, only_trans g2 g3⟩
  | false =>
    go_enter Try.func22, Try.ntmps22
    go_wp2_with (first | (go_at_call 9; refine HC.out.mono ?_; rintro e w' ⟨rfl, rfl⟩))
    go_ret
    rw [HV.out]
    exact ⟨rfl, only_refl _ _⟩

/-- The tick of an offset in a frame. -/
def atV (q o f : Int) : Int := if offB o f = true ∧ 0 ≤ q ∧ q ≤ 2147483647 then q * f + o else -1
theorem prod_small {q f : Int} (h0 : 0 ≤ q) (h1 : q ≤ 2147483647) (f0 : 1 ≤ f) (f1 : f ≤ 4096) : 0 ≤ q * f ∧ q * f ≤ 8796093018112 := by
  refine ⟨Int.mul_nonneg h0 (by omega), ?_⟩
  have := Int.mul_le_mul h1 f1 (by omega) (by omega)
  omega
theorem at_any (q o f : Int) (w : World) : Calls Try.prog 11 #[.int .i64 q, .int .i64 o, .int .i64 f] w fun r w' => r = .returned (.int .i64 (atV q o f)) ∧ w.grownBy w' none := by
  have hc := off_any o f w
  by_cases ho : offB o f = true
  · have ho' := (offB_iff o f).1 ho
    obtain ⟨f1, f2, o1, o2⟩ := ho'
    rw [ho] at hc
    by_cases h0 : 0 ≤ q
    · by_cases h1 : q ≤ 2147483647
      · have hv : atV q o f = q * f + o := by simp [atV, ho, h0, h1]
        obtain ⟨p1, p2⟩ := prod_small h0 h1 f1 f2
        have HC := Lib.hid hc
        rw [hv]
        clear hc ho hv
        go_enter Try.func11, Try.ntmps11
        go_wp2_with (go_at_call 22; refine HC.out.mono ?_; rintro e w2 ⟨rfl, g2⟩)
        go_ret
        exact ⟨by first | rfl | simp, g2⟩
      · have hv : atV q o f = -1 := by simp [atV, h1]
        have HC := Lib.hid hc
        rw [hv]
        clear hc ho hv
        go_enter Try.func11, Try.ntmps11
        go_wp2_with (go_at_call 22; refine HC.out.mono ?_; rintro e w2 ⟨rfl, g2⟩)
        go_ret
        exact ⟨rfl, g2⟩
    · have hv : atV q o f = -1 := by simp [atV, h0]
      have HC := Lib.hid hc
      rw [hv]
      clear hc ho hv
      go_enter Try.func11, Try.ntmps11
      go_wp2_with (go_at_call 22; refine HC.out.mono ?_; rintro e w2 ⟨rfl, g2⟩)
      go_ret
      exact ⟨rfl, g2⟩
  · have hf : offB o f = false := by simpa using ho
    have hv : atV q o f = -1 := by simp [atV, hf]
    rw [hf] at hc
    have HC := Lib.hid hc
    rw [hv]
    clear hc ho hv hf
    go_enter Try.func11, Try.ntmps11
    go_wp2_with (go_at_call 22; refine HC.out.mono ?_; rintro e w2 ⟨rfl, g2⟩)
    go_ret
    exact ⟨rfl, g2⟩

theorem only_drew {a w : World} {row : Option Nat} (h : a.grownBy w row) {q : Nat} : a.grownBy (w.drewN q) row := only_drewN h q

theorem next_any (t o f : Int) (w : World) : Calls Try.prog 13 #[.int .i64 t, .int .i64 o, .int .i64 f] w fun r w' => r = .returned (.int .i64 (nextV t o f)) ∧ w.grownBy w' none := by
  have hc := off_any o f w
  by_cases ho : offB o f = true
  · have ho' := (offB_iff o f).1 ho
    obtain ⟨f1, f2, o1, o2⟩ := ho'
    rw [ho] at hc
    by_cases h1 : t ≤ 2147483647
    · have HC := Lib.hid hc
      have hv : nextV t o f = (if o < (max t 0) % f then max t 0 + (o + f) - (max t 0) % f else max t 0 + o - (max t 0) % f) := by unfold nextV; rw [if_pos ⟨ho, h1⟩]
      obtain ⟨m, hm⟩ : ∃ m, m = max t 0 := ⟨_, rfl⟩
      have hm0 : 0 ≤ m := by omega
      have hm1 : m ≤ 2147483647 := by omega
      obtain ⟨ra, r0, r1⟩ := ticks (t := m) (f := f) (by omega)
      clear ra
      have hfr : frV m f = (m / f, m % f) := by simp [frV, rightB, f1, f2, hm0]
      rw [← hm] at hv
      have hfa : ∀ W, Calls Try.prog 7 #[.int .i64 m, .int .i64 f] W fun r w' => r = .returned (.tuple #[.int .i64 (m / f), .int .i64 (m % f)]) ∧ ∃ q, W.drewN q = w' := fun W => by
        have := frame_any m f W (by omega)
        rw [hfr] at this
        exact this
      have HFA := Lib.hid hfa
      clear hfa hfr hc ho
      obtain ⟨r, hr⟩ : ∃ r, r = m % f := ⟨_, rfl⟩
      obtain ⟨q, hq⟩ : ∃ q, q = m / f := ⟨_, rfl⟩
      rw [← hr] at r0 r1 hv HFA
      rw [← hq] at HFA
      clear hr hq
      have hcase : (t < 0 ∧ m = 0) ∨ (0 ≤ t ∧ m = t) := by omega
      rcases hcase with ⟨ht, hmt⟩ | ⟨ht, hmt⟩
      all_goals
        subst hmt
        clear hm
        by_cases hlt : o < r
        · rw [if_pos hlt] at hv
          rw [hv]
          clear hv
          go_enter Try.func13, Try.ntmps13
          go_wp2_with (first | (go_at_call 22; refine HC.out.mono ?_; rintro e w2 ⟨rfl, g2⟩) | (go_at_call 7; refine (HFA.out _).mono ?_; rintro e w3 ⟨rfl, dq, rfl⟩))
          go_ret
          exact ⟨ret_int (by omega), only_drew g2⟩
        · rw [if_neg hlt] at hv
          rw [hv]
          clear hv
          go_enter Try.func13, Try.ntmps13
          go_wp2_with (first | (go_at_call 22; refine HC.out.mono ?_; rintro e w2 ⟨rfl, g2⟩) | (go_at_call 7; refine (HFA.out _).mono ?_; rintro e w3 ⟨rfl, dq, rfl⟩))
          go_ret
          exact ⟨ret_int (by omega), only_drew g2⟩
    · have hv : nextV t o f = -1 := by simp [nextV, h1]
      have HC := Lib.hid hc
      rw [hv]
      clear hc ho hv
      go_enter Try.func13, Try.ntmps13
      go_wp2_with (go_at_call 22; refine HC.out.mono ?_; rintro e w2 ⟨rfl, g2⟩)
      go_ret
      exact ⟨rfl, g2⟩
  · have hf : offB o f = false := by simpa using ho
    have hv : nextV t o f = -1 := by simp [nextV, hf]
    rw [hf] at hc
    have HC := Lib.hid hc
    rw [hv]
    clear hc ho hv hf
    go_enter Try.func13, Try.ntmps13
    go_wp2_with (go_at_call 22; refine HC.out.mono ?_; rintro e w2 ⟨rfl, g2⟩)
    go_ret
    exact ⟨rfl, g2⟩
end Go.Proofs.Ythneljkaieckeab
