/- Both queues between two deeds. -/
import Derived.Test.YtlhjhdheejdgnaaFQ8
import Derived.Test.YtlhjhdheejdgnaaFR2
namespace Go.Proofs.Ytlhjhdheejdgnaa
open Go.RowKit Go.Lib
set_option linter.unusedVariables false

/-- Both queues as the law holds them between two deeds. -/
def TwoB (w : World) (B q x lim n : Nat) : Prop := ∃ v u L dr, Two w q x v u L lim dr ∧ (∀ i, OwnQ q v i → B ≤ i) ∧ (∀ i, OwnQ x u i → B ≤ i) ∧ L.length ≤ n ∧ dr ≤ n

section
variable {w : World} {q x : Nat} {v u : Value} {L : List ByteArray} {lim dr : Nat}
theorem two_len (h : Two w q x v u L lim dr) : Calls Try.prog 10 #[.pointer (some ⟨q, 0, none⟩)] w fun e w' => e = .returned (.int .i64 L.length) ∧ w = w' := by
  have := flen_any h.1
  rw [show (sv L).length = L.length from by simp] at this
  exact this
theorem two_drops (h : Two w q x v u L lim dr) : Calls Try.prog 11 #[.pointer (some ⟨q, 0, none⟩)] w fun e w' => e = .returned (.int .i64 dr) ∧ w = w' := fdrops_any h.1
theorem two_limit (h : Two w q x v u L lim dr) : Calls Try.prog 12 #[.pointer (some ⟨q, 0, none⟩)] w fun e w' => e = .returned (.int .i64 lim) ∧ w = w' := flimit_any h.1
theorem two_cells (h : Two w q x v u L lim dr) : ∃ A c, w.cell? ⟨x, 0, none⟩ = some (.slice A L.length c) ∧ w.cell? ⟨x, 1, none⟩ = some (.int .i64 lim) ∧ w.cell? ⟨x, 2, none⟩ = some (.int .i64 dr) := by
  obtain ⟨A, c, hf⟩ := h.2.1.2.1.form
  rw [show (sv L).length = L.length from by simp] at hf
  subst hf
  exact ⟨A, c, h.2.1.1.cell 0, h.2.1.1.cell 1, h.2.1.1.cell 2⟩
end

theorem two_row {w : World} {q x : Nat} {v u : Value} {L : List ByteArray} {lim dr : Nat} (h : Two w q x v u L lim dr) : ∃ A c, w.cell? ⟨x, 0, none⟩ = some (.slice A L.length c) ∧ RowQ w (.slice A L.length c) (sv L) := by
  obtain ⟨A, c, hf⟩ := h.2.1.2.1.form
  rw [show (sv L).length = L.length from by simp] at hf
  have h2 := h.2.1.2.1
  subst hf
  exact ⟨A, c, h.2.1.1.cell 0, h2⟩

/-- What a step leaves, from B on. -/
theorem StepV.next {w w' : World} {B q x lim n dr : Nat} {v u : Value} {L : List ByteArray} {e : Ending} (hB : B ≤ w.heap.size) (hv : ∀ i, OwnQ q v i → B ≤ i) (hu : ∀ i, OwnQ x u i → B ≤ i) (hL : L.length ≤ n) (hd : dr ≤ n) (h : StepV w q x v u L lim dr e w') :
    e = .returned (.bool true) ∧ TwoB w' B q x lim (n + 1) ∧ Below B w w' := by
  obtain ⟨h1, L', dr', ⟨v', u', h2, h3, h4, h5⟩, h6, h7⟩ := h
  refine ⟨h1, ⟨v', u', L', dr', h2, fun i hi => ?_, fun i hi => ?_, by omega, by omega⟩, h3.below hB fun i hi hn => ?_⟩
  · rcases h4 i hi with h | h
    · exact hv i h
    · omega
  · rcases h5 i hi with h | h
    · exact hu i h
    · omega
  · rcases hn with hn | hn
    · have := hv i hn
      omega
    · have := hu i (.inl hn)
      omega

theorem stepB_any (w : World) (B q x lim n : Nat) (h : TwoB w B q x lim n) (hB : B ≤ w.heap.size) (hn : n ≤ 1000) (d m : Int) (t : ByteArray) :
    Calls Try.prog 9 #[.pointer (some ⟨q, 0, none⟩), .pointer (some ⟨x, 0, none⟩), .agg #[.int .i64 d, .int .i64 m, .string t]] w fun e w' => e = .returned (.bool true) ∧ TwoB w' B q x lim (n + 1) ∧ Below B w w' := by
  obtain ⟨v, u, L, dr, h1, h2, h3, h4, h5⟩ := h
  exact (step_any h1 (by omega) (by omega) d m t).mono fun e w' k => StepV.next hB h2 h3 h4 h5 k

end Go.Proofs.Ytlhjhdheejdgnaa
