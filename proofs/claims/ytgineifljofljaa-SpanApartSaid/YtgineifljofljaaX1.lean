/- Spans that came in: their numbers. -/
import Derived.Test.YtgineifljofljaaS3
import Derived.ShutString
import Derived.ChangeOld
namespace Go.Proofs.Ytgineifljofljaa
open Go.RowKit Go.Lib Go.ChangeShapes Go.WideShapes Go.ChangeAt Go.Deep
set_option linter.unusedVariables false

theorem spans_in {H : Type} {enc : TypeId × Value → H} {w : World} {base : Nat} {spare : Nat → Bool} {held : Bool} {A : Option Addr} {len cap fuel : Nat} {x : DataW H × List MemPlace}
    (h : DataW.trod enc Try.prog w base spare held fuel 31 [.slice A len cap] = some x) : len ≤ cap ∧ cap ≤ maxLen ∧ ∃ d, Spans w A len cap d := by
  obtain ⟨h1, h2, h3, h4⟩ := open_structs Try.underlying31 Try.underlying23 (by kernel_rfl) (by kernel_rfl) (by decide) h
  refine ⟨h1, h2, ?_⟩
  by_cases hp : 0 < len
  · obtain ⟨b, off, hA, hb, hc⟩ := h4 hp
    have hx : ∀ i, ∃ p : Int × Int, i < len → w.cell? ⟨b, off + i * 2, none⟩ = some (.int .i64 p.1) ∧ w.cell? ⟨b, off + i * 2 + 1, none⟩ = some (.int .i64 p.2) := by
      intro i
      by_cases hi : i < len
      · obtain ⟨v0, n0, y0, c0, r0⟩ := hc i hi 0 _ rfl
        obtain ⟨v1, n1, y1, c1, r1⟩ := hc i hi 1 _ rfl
        obtain ⟨p, e0, _, _⟩ := DataW.trod_int Try.underlying3 r0
        obtain ⟨q, e1, _, _⟩ := DataW.trod_int Try.underlying3 r1
        injection e0 with e0 _
        injection e1 with e1 _
        subst e0 e1
        exact ⟨(p, q), fun _ => ⟨c0, c1⟩⟩
      · exact ⟨(0, 0), fun h => absurd h hi⟩
    exact ⟨fun i => Classical.choose (hx i), h3, fun _ => ⟨b, off, hA, hb, fun i hi => Classical.choose_spec (hx i) hi⟩⟩
  · exact ⟨fun _ => (0, 0), h3, fun h => absurd h hp⟩

end Go.Proofs.Ytgineifljofljaa
