/- Both disks just made. -/
import Derived.Test.YtlmdnhpdeiekfaaJ32
namespace Go.Proofs.Ytlmdnhpdeiekfaa
open Go.RowKit Go.Lib
set_option linter.unusedVariables false

/-- Both disks just made tell the same. -/
theorem Tw.new {w1 w2 w3 w4 : World} {d : Nat → Prt} {n b : Nat} {A : Option Addr} {c B : Nat} {e : Ending} (hB : B ≤ w1.heap.size) (hb : w1.heap.size ≤ b) (hd : Dsk w2 b (fun _ => 0) (tblN d n) false noJob 0 (.slice none 0 0)) (hp : PrtsV w1 A n d) (hA : ∀ k, A.map (·.block) = some k → k < w1.heap.size)
    (b2 : Below w1.heap.size w1 w2) (b3 : Below w2.heap.size w2 w3) (hn : NewD A n c d w3 e w4) (rc : Nat → Rec) : ∃ x bv E, e = .returned (.pointer (some ⟨x, 0, none⟩)) ∧ Tw w4 d n b x A c B (fun _ => 0) false noJob noJob 0 0 bv (.slice none 0 0) E 0 rc ∧ w3.heap.size ≤ x ∧ Below w3.heap.size w3 w4 := by
  obtain ⟨x, bv, E, he, hx, hy, hxs, h1, h2, b4⟩ := hn
  have hbl := hd.lt
  have s2 := b2.size
  have s3 := b3.size
  refine ⟨x, bv, E, he, ⟨(hd.below b3).below b4, LogV.nil _ _ _, hx, ((hp.below b2).below b3).below b4, hy.congr (fun i hi => ?_), (fun hf => by cases hf), by omega, fun k hk => ?_, fun k hk => ?_, fun i hi k hk => ?_, ⟨by simp [Value.ownBlock], by simp [Value.ownBlock]⟩, by omega, by omega, fun k hk => ?_⟩, hxs, b4⟩
  · unfold zeroL rowsL
    rw [secL_zero]
  · have := hA k hk
    refine ⟨by omega, by omega, fun h => ?_, by simp [Value.ownBlock]⟩
    have := h1 k h
    omega
  · have := h1 k hk
    exact ⟨by omega, by omega, by simp [Value.ownBlock]⟩
  · have := h2 i k hi hk
    exact ⟨by omega, by omega, by simp [Value.ownBlock]⟩
  · have := h1 k hk
    omega
end Go.Proofs.Ytlmdnhpdeiekfaa
