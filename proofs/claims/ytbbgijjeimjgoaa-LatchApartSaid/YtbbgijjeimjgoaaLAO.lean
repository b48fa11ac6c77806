/- How the deeds of the laws of latch are opened. -/
import Derived.Test.YtbbgijjeimjgoaaLA4
import Derived.Test.YtbbgijjeimjgoaaF
namespace Go.Proofs.Ytbbgijjeimjgoaa
open Go.RowKit Go.Lib Go.ChangeShapes Go.WideShapes Go.ChangeAt Go.Deep
set_option linter.unusedVariables false

def fitI (x : Int) : Prop := -9223372036854775808 ≤ x ∧ x ≤ 9223372036854775807
theorem fitI_of {x : Int} (w : (Lit.int .i64 x).wf = true) : fitI x := by
  simp only [Lit.wf, Bool.and_eq_true, decide_eq_true_eq] at w
  have e1 : IntKind.i64.min = -9223372036854775808 := by kernel_rfl
  have e2 : IntKind.i64.max = 9223372036854775807 := by kernel_rfl
  unfold fitI
  omega
def Lt.Fit (d : Lt.Ded) : Prop := fitI d.1 ∧ fitI d.2.1 ∧ fitI d.2.2
theorem open_dl {H : Type} {enc : TypeId × Value → H} {w : World} {base : Nat} {spare : Nat → Bool} {held : Bool} {A : Option Addr} {len cap fuel : Nat} {x : DataW H × List MemPlace}
    (h : DataW.trod enc Try.prog w base spare held fuel 22 [.slice A len cap] = some x) : len ≤ cap ∧ cap ≤ 9223372036854775807 ∧ ∃ d, Lt.DedL w A len d ∧ ∀ i, i < len → Lt.Fit (d i) := by
  obtain ⟨h1, h2, h3, h4⟩ := open_structs Try.underlying22 Try.underlying28 (by kernel_rfl) (by kernel_rfl) (by decide) h
  refine ⟨h1, by unfold maxLen at h2; omega, ?_⟩
  by_cases hp : 0 < len
  · obtain ⟨b, off, hA, hb, hc⟩ := h4 hp
    have hx : ∀ i, ∃ r : Lt.Ded, i < len → (w.cell? ⟨b, off + i * 3, none⟩ = some (.int .i64 r.1) ∧ w.cell? ⟨b, off + i * 3 + 1, none⟩ = some (.int .i64 r.2.1) ∧ w.cell? ⟨b, off + i * 3 + 2, none⟩ = some (.int .i64 r.2.2)) ∧ Lt.Fit r := by
      intro i
      by_cases hi : i < len
      · obtain ⟨v0, n0, y0, c0, r0⟩ := hc i hi 0 _ rfl
        obtain ⟨v1, n1, y1, c1, r1⟩ := hc i hi 1 _ rfl
        obtain ⟨v2, n2, y2, c2, r2⟩ := hc i hi 2 _ rfl
        obtain ⟨p0, e0, _, w0⟩ := DataW.trod_int Try.underlying3 r0
        obtain ⟨p1, e1, _, w1⟩ := DataW.trod_int Try.underlying3 r1
        obtain ⟨p2, e2, _, w2⟩ := DataW.trod_int Try.underlying3 r2
        injection e0 with e0 _
        injection e1 with e1 _
        injection e2 with e2 _
        subst e0 e1 e2
        exact ⟨(p0, p1, p2), fun _ => ⟨⟨c0, c1, c2⟩, fitI_of w0, fitI_of w1, fitI_of w2⟩⟩
      · exact ⟨(0, 0, 0), fun h => absurd h hi⟩
    exact ⟨fun i => Classical.choose (hx i), fun _ => ⟨b, off, hA, hb, fun i hi => (Classical.choose_spec (hx i) hi).1⟩, fun i hi => (Classical.choose_spec (hx i) hi).2⟩
  · exact ⟨fun _ => (0, 0, 0), fun h => absurd h hp, fun i hi => absurd hi (by omega)⟩
theorem latchapart_run (A : Option Addr) (n cp : Nat) (d : Nat → Lt.Ded) (ow : Int) (w : World) (hd : Lt.DedL w A n d) (hf : ∀ i, i < n → Lt.Fit (d i)) (hn : n ≤ cp) (hc : cp ≤ 9223372036854775807) (hi : fitI ow) : Calls Try.prog 4 #[.slice A n cp, .int .i64 ow] w fun e w' => e = .returned (.bool true) ∧ Below w.heap.size w w' :=
  latchapart_walk A n cp d ow w hd (by omega)
end Go.Proofs.Ytbbgijjeimjgoaa
