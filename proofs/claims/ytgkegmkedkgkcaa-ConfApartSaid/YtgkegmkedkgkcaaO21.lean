/- Plain facts: when nothing is wrong; both ways of telling it; a client that is moved. -/
import Derived.Test.YtgkegmkedkgkcaaO20
namespace Go.Proofs.Ytgkegmkedkgkcaa
open Go.RowKit Go.Lib Go.Sort
set_option linter.unusedVariables false

theorem askL_nil {p : Int → Bool} {why f : Int} {m : Nat} : askL p why f m = [] ↔ ∀ i : Nat, i < m → p (f + i) = false := by
  induction m with
  | zero => simp [askL]
  | succ m ih =>
    unfold askL
    constructor
    · intro h i hi
      cases hp : p (f + m)
      · rw [hp, if_neg (by decide), ih] at h
        by_cases e : i = m
        · rw [e]; exact hp
        · exact h i (by omega)
      · rw [hp, if_pos rfl] at h
        simp at h
    · intro h
      rw [h m (by omega), if_neg (by decide), ih]
      exact fun i hi => h i (by omega)
/-- Rows from 1 on. -/
theorem ask_rows {p : Int → Bool} {h : Nat → Bool} {why : Int} {n : Nat} (hn : n ≤ 32) (e : ∀ b : Nat, h b = (decide (1 ≤ b ∧ b ≤ n) && p b)) : askL p why 1 n = [] ↔ ∀ b, b ≤ 32 → h b = false := by
  rw [askL_nil]
  constructor
  · intro g b hb
    rw [e]
    by_cases hr : 1 ≤ b ∧ b ≤ n
    · have := g (b - 1) (by omega)
      rw [show (1 : Int) + ((b - 1 : Nat) : Int) = b by omega] at this
      rw [this, Bool.and_false]
    · rw [decide_eq_false hr, Bool.false_and]
  · intro g i hi
    have := g (i + 1) (by omega)
    rw [e, decide_eq_true (by omega), Bool.true_and] at this
    rw [← this]
    congr 1
    omega
theorem ask_own {p : Int → Bool} {h : Nat → Bool} {why : Int} {n : Nat} (hn : n ≤ 32) (e : ∀ b : Nat, h b = (decide (b ≤ n) && p b)) : askL p why 0 (n + 1) = [] ↔ ∀ b, b ≤ 32 → h b = false := by
  rw [askL_nil]
  constructor
  · intro g b hb
    rw [e]
    by_cases hr : b ≤ n
    · have := g b (by omega)
      rw [show (0 : Int) + (b : Int) = b by omega] at this
      rw [this, Bool.and_false]
    · rw [decide_eq_false hr, Bool.false_and]
  · intro g i hi
    have := g i (by omega)
    rw [e, decide_eq_true (by omega), Bool.true_and] at this
    rw [show (0 : Int) + (i : Int) = i by omega]
    exact this
theorem to_row (b : Nat) : ((b : Int) - 1).toNat = b - 1 := by omega
theorem none_nine (c : Cf) : NoneB c 11 0 ↔ (∀ b, b ≤ 32 → hasB c 2 b = false) ∧ (∀ b, b ≤ 32 → hasB c 3 b = false) ∧ (∀ b, b ≤ 32 → hasB c 4 b = false) ∧ (∀ b, b ≤ 32 → hasB c 5 b = false) ∧ (∀ b, b ≤ 32 → hasB c 6 b = false) ∧ (∀ b, b ≤ 32 → hasB c 7 b = false) ∧ (∀ b, b ≤ 32 → hasB c 8 b = false) ∧ (∀ b, b ≤ 32 → hasB c 9 b = false) ∧ (∀ b, b ≤ 32 → hasB c 10 b = false) := by
  constructor
  · rintro ⟨h, _⟩
    exact ⟨h 2 (by omega) (by omega), h 3 (by omega) (by omega), h 4 (by omega) (by omega), h 5 (by omega) (by omega), h 6 (by omega) (by omega), h 7 (by omega) (by omega), h 8 (by omega) (by omega), h 9 (by omega) (by omega), h 10 (by omega) (by omega)⟩
  · rintro ⟨h2, h3, h4, h5, h6, h7, h8, h9, h10⟩
    refine ⟨fun a ha hl b hb => ?_, fun b hb => by omega⟩
    have key : a = 2 ∨ a = 3 ∨ a = 4 ∨ a = 5 ∨ a = 6 ∨ a = 7 ∨ a = 8 ∨ a = 9 ∨ a = 10 := by omega
    rcases key with rfl | rfl | rfl | rfl | rfl | rfl | rfl | rfl | rfl
    · exact h2 b hb
    · exact h3 b hb
    · exact h4 b hb
    · exact h5 b hb
    · exact h6 b hb
    · exact h7 b hb
    · exact h8 b hb
    · exact h9 b hb
    · exact h10 b hb
theorem none_flt (c : Cf) : fltL c = [] ↔ frB c = true ∧ NoneB c 11 0 := by
  unfold fltL
  cases hfr : frB c
  · simp
  · have hb := frB_iff.1 hfr
    rw [if_pos rfl, none_nine]
    have e2 : fl2 c = [] ↔ ∀ b, b ≤ 32 → hasB c 2 b = false := ask_rows (by omega) fun b => by rw [to_row]; rfl
    have e3 : fl3 c = [] ↔ ∀ b, b ≤ 32 → hasB c 3 b = false := ask_rows (by omega) fun b => by rw [to_row]; rfl
    have e4 : fl4 c = [] ↔ ∀ b, b ≤ 32 → hasB c 4 b = false := ask_rows (by omega) fun b => by rw [to_row]; rfl
    have e5 : fl5 c = [] ↔ ∀ b, b ≤ 32 → hasB c 5 b = false := ask_rows (by omega) fun b => by rw [to_row]; rfl
    have e6 : fl6 c = [] ↔ ∀ b, b ≤ 32 → hasB c 6 b = false := ask_own (by omega) fun b => rfl
    have e7 : fl7 c = [] ↔ ∀ b, b ≤ 32 → hasB c 7 b = false := ask_own (n := 0) (by omega) fun b => by
      show (decide (b = 0) && shwB c) = _
      congr 1
      simp
    have e8 : fl8 c = [] ↔ ∀ b, b ≤ 32 → hasB c 8 b = false := ask_rows (by omega) fun b => by rw [to_row]; rfl
    have e9 : fl9 c = [] ↔ ∀ b, b ≤ 32 → hasB c 9 b = false := ask_rows (by omega) fun b => by rw [to_row]; rfl
    have e10 : fl10 c = [] ↔ ∀ b, b ≤ 32 → hasB c 10 b = false := ask_rows (by omega) fun b => by rw [to_row]; rfl
    simp only [List.append_eq_nil_iff, e2, e3, e4, e5, e6, e7, e8, e9, e10, and_assoc, true_and]
end Go.Proofs.Ytgkegmkedkgkcaa
