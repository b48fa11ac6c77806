/- The functions of package clock that only reckon: each by its contract. -/
import Derived.Test.YthneljkaieckeabM2
namespace Go.Proofs.Ythneljkaieckeab
open Go.RowKit Go.Lib Go.Sort
set_option linter.unusedVariables false

/-- Can a frame have so many ticks? -/
def rightB (f : Int) : Bool := decide (1 ≤ f ∧ f ≤ 4096)
theorem right_any (f : Int) (w : World) : Calls Try.prog 9 #[.int .i64 f] w fun r w' => r = .returned (.bool (rightB f)) ∧ w = w' := by
  have key : (1 ≤ f ∧ f ≤ 4096 ∧ rightB f = true) ∨ (1 ≤ f ∧ ¬ f ≤ 4096 ∧ rightB f = false) ∨ (¬ 1 ≤ f ∧ rightB f = false) := by
    by_cases h1 : 1 ≤ f <;> by_cases h2 : f ≤ 4096 <;> simp [rightB, h1, h2]
  rcases key with ⟨h1, h2, e⟩ | ⟨h1, h2, e⟩ | ⟨h1, e⟩
  all_goals
    have E := Lib.hid e
    clear e
    go_enter Try.func9, Try.ntmps9
    go_wp2
    go_ret
    rw [E.out]
    exact ⟨by first | rfl | simp, rfl⟩
theorem rright_any (f : Int) (w : World) : Calls Try.prog 8 #[.int .i64 f] w fun r w' => r = .returned (.bool (rightB f)) ∧ w = w' := by
  have key : (1 ≤ f ∧ f ≤ 4096 ∧ rightB f = true) ∨ (1 ≤ f ∧ ¬ f ≤ 4096 ∧ rightB f = false) ∨ (¬ 1 ≤ f ∧ rightB f = false) := by
    by_cases h1 : 1 ≤ f <;> by_cases h2 : f ≤ 4096 <;> simp [rightB, h1, h2]
  rcases key with ⟨h1, h2, e⟩ | ⟨h1, h2, e⟩ | ⟨h1, e⟩
  all_goals
    have E := Lib.hid e
    clear e
    go_enter Try.func8, Try.ntmps8
    go_wp2
    go_ret
    rw [E.out]
    exact ⟨by first | rfl | simp, rfl⟩
theorem rightB_iff (f : Int) : rightB f = true ↔ 1 ≤ f ∧ f ≤ 4096 := by simp [rightB]

/-- A tick's frame and its offset there, if there is a frame. -/
def frV (t f : Int) : Int × Int := if rightB f = true ∧ 0 ≤ t then (t / f, t % f) else (0, 0)
theorem frame_any (t f : Int) (w : World) (ht2 : t ≤ 9223372036854775807) : Calls Try.prog 7 #[.int .i64 t, .int .i64 f] w fun r w' => r = .returned (.tuple #[.int .i64 (frV t f).1, .int .i64 (frV t f).2]) ∧ ∃ q, w.drewN q = w' := by
  by_cases hf : rightB f = true
  · have hf' := (rightB_iff f).1 hf
    obtain ⟨f1, f2⟩ := hf'
    have hc := right_any f w
    rw [hf] at hc
    have HC := Lib.hid hc
    by_cases ht : 0 ≤ t
    · have e : frV t f = (t / f, t % f) := by simp [frV, hf, ht]
      rw [e]
      have q0 : 0 ≤ t / f := Int.ediv_nonneg ht (by omega)
      have q1 : t / f ≤ t := Int.ediv_le_self _ ht
      have q2 : 0 ≤ t % f := Int.emod_nonneg _ (by omega)
      have q3 : t % f < f := Int.emod_lt_of_pos _ (by omega)
      clear hc hf e
      go_enter Try.func7, Try.ntmps7
      go_wp2_with (go_at_call 9; refine HC.out.mono ?_; rintro e w' ⟨rfl, rfl⟩)
      go_quiet (fail)
      go_wp2
      go_ret2
      exact ⟨rfl, _, rfl⟩
    · have e : frV t f = (0, 0) := by simp [frV, ht]
      rw [e]
      clear hc hf e
      go_enter Try.func7, Try.ntmps7
      go_wp2_with (go_at_call 9; refine HC.out.mono ?_; rintro e w' ⟨rfl, rfl⟩)
      go_ret2
      exact ⟨rfl, 0, rfl⟩
  · have e : frV t f = (0, 0) := by simp [frV, hf]
    have hff : rightB f = false := by simpa using hf
    have hc := right_any f w
    rw [hff] at hc
    have HC := Lib.hid hc
    rw [e]
    clear hc hf e hff
    go_enter Try.func7, Try.ntmps7
    go_wp2_with (go_at_call 9; refine HC.out.mono ?_; rintro e w' ⟨rfl, rfl⟩)
    go_ret2
    exact ⟨rfl, 0, rfl⟩

theorem whole_any (f : Int) (w : World) : Calls Try.prog 25 #[.int .i64 f] w fun r w' => r = .returned (spv (0, f)) ∧ w.grownBy w' none := by
  go_enter Try.func25, Try.ntmps25
  go_wp2
  have hb := Blk.new w 31 #[.int .i64 0, .int .i64 f]
  have e4 := hb.cell 0
  have e5 := hb.cell 1
  simp at e4 e5
  exact bodyPost_ret (v := spv (0, f)) (by simp [results, Try.results25, go_sem, e4, e5]) rfl ⟨rfl, only_alloc (only_refl _ _) _⟩
end Go.Proofs.Ythneljkaieckeab
