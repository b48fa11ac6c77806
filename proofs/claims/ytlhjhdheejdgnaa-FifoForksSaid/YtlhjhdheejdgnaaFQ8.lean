/- A deed that looks; and any deed. -/
import Derived.Test.YtlhjhdheejdgnaaFQ7
namespace Go.Proofs.Ytlhjhdheejdgnaa
open Go.RowKit Go.Lib
set_option linter.unusedVariables false

section
variable {w : World} {q x : Nat} {v u : Value} {L : List ByteArray} {lim dr : Nat}
theorem StepV.stay {W : World} (h : Two w q x v u L lim dr) (hW : Below w.heap.size w W) : StepV w q x v u L lim dr (.returned (.bool true)) W :=
  ⟨rfl, L, dr, StepW.stay h hW, by omega, by omega⟩

set_option maxHeartbeats 1600000 in
theorem step_look (h : Two w q x v u L lim dr) (hn : L.length ≤ 10000) (d n : Int) (t : ByteArray) (d0 : d ≠ 0) (d1 : d ≠ 1) (d2 : d ≠ 2) :
    Calls Try.prog 9 #[.pointer (some ⟨q, 0, none⟩), .pointer (some ⟨x, 0, none⟩), .agg #[.int .i64 d, .int .i64 n, .string t]] w (StepV w q x v u L lim dr) := by
  have hB : Below w.heap.size w (w.alloc (.cells #[.int .i64 d, .int .i64 n, .string t] 29)) := (Below.refl w.heap.size w).alloc (Nat.le_refl _) _
  have hT := h.below hB
  have FIN := Lib.hid (fun nq => StepV.stay (W := (w.alloc (.cells #[.int .i64 d, .int .i64 n, .string t] 29)).drewN nq) h (below_drewN hB nq))
  have k0 : (d == 0) = false := beq_eq_false_iff_ne.2 d0
  have k1 : (d == 1) = false := beq_eq_false_iff_ne.2 d1
  have k2 : (d == 2) = false := beq_eq_false_iff_ne.2 d2
  have hl : (sv L).length = L.length := by simp
  obtain ⟨A, c, hf⟩ := hT.2.1.2.1.form
  rw [hl] at hf
  have cx : (w.alloc (.cells #[.int .i64 d, .int .i64 n, .string t] 29)).cell? ⟨x, 0, none⟩ = some (.slice A L.length c) := by rw [← hf]; exact hT.2.1.1.cell 0
  have hxl : x < w.heap.size := h.2.1.1.lt
  by_cases hoff : n < 0 ∨ (L.length : Int) ≤ n
  · have P := Lib.hid (fpeek_off n hT.1 (by rw [hl]; exact hoff))
    by_cases h0 : n < 0
    · have g0 : decide (n < 0) = true := decide_eq_true h0
      clear h hT hf hoff hB d0 d1 d2
      go_enter Try.func9, Try.ntmps9
      go_wp2_with (go_at_call 29; refine P.out.mono ?_; rintro e w' ⟨rfl, rfl⟩)
      go_quiet (fail)
      go_wp2
      go_ret
      exact FIN.out _
    · have h1 : (L.length : Int) ≤ n := by omega
      have g0 : decide (n < 0) = false := decide_eq_false h0
      clear h hT hf hoff hB d0 d1 d2
      go_enter Try.func9, Try.ntmps9
      go_wp2_with (go_at_call 29; refine P.out.mono ?_; rintro e w' ⟨rfl, rfl⟩)
      go_quiet (fail)
      go_wp2
      go_ret
      exact FIN.out _
  · obtain ⟨k, rfl⟩ := Int.eq_ofNat_of_zero_le (show 0 ≤ n by omega)
    have hk : k < L.length := by omega
    have hk' : (k : Int) < (L.length : Int) := by omega
    have hi : (sv L)[k]'(by rw [hl]; exact hk) = .string L[k] := by simp [sv]
    have hp := fpeek_in k hT.1 (by rw [hl]; exact hk) (by rw [hl]; omega)
    rw [hi] at hp
    have g0 : decide ((k : Int) < 0) = false := decide_eq_false (by omega)
    have hce : ∃ g off, A = some ⟨g, off, none⟩ ∧ (w.alloc (.cells #[.int .i64 d, .int .i64 (k : Int), .string t] 29)).cell? ⟨g, off + k, none⟩ = some (.string L[k]) := by
      rcases hT.2.1.2.1 with ⟨_, hz⟩ | ⟨g, off, cap, hv, _, _, _, _, h6⟩
      · simp [sv] at hz
        rw [hz] at hk
        simp at hk
      · rw [hf] at hv
        injection hv with e1 e2 e3
        refine ⟨g, off, e1, ?_⟩
        rw [h6 k (by rw [hl]; exact hk), hi]
    obtain ⟨g, off, rfl, ce⟩ := hce
    have P := Lib.hid hp
    have hgl : g < w.heap.size := h.2.1.2.1.lt g (by rw [hf]; rfl)
    generalize L[k] = s at *
    clear h hT hf hoff hB d0 d1 d2 hp hi
    go_enter Try.func9, Try.ntmps9
    go_wp2_with (go_at_call 29; refine P.out.mono ?_; rintro e w' ⟨rfl, rfl⟩)
    go_quiet (fail)
    go_wp2
    go_quiet (fail)
    go_wp2
    go_ret
    have fin : ∀ W : World, (∃ m, W = (w.alloc (.cells #[.int .i64 d, .int .i64 (k : Int), .string t] 29)).drewN m) → StepV w q x v u L lim dr (.returned (.bool true)) W := by
      rintro W ⟨m, rfl⟩
      exact FIN.out m
    exact fin _ ⟨_, World.drewN_drewN ..⟩

theorem step_any (h : Two w q x v u L lim dr) (hn : L.length ≤ 10000) (hd : dr ≤ 10000) (d n : Int) (t : ByteArray) :
    Calls Try.prog 9 #[.pointer (some ⟨q, 0, none⟩), .pointer (some ⟨x, 0, none⟩), .agg #[.int .i64 d, .int .i64 n, .string t]] w (StepV w q x v u L lim dr) := by
  by_cases d0 : d = 0
  · subst d0
    exact step_push h hn hd n t
  · by_cases d1 : d = 1
    · subst d1
      exact step_pop h hn n t
    · by_cases d2 : d = 2
      · subst d2
        exact step_take h hn n t
      · exact step_look h hn d n t d0 d1 d2
end
end Go.Proofs.Ytlhjhdheejdgnaa
