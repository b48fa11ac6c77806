/- How rows and jobs that came in are opened. -/
import Derived.Test.YtlmdnhpdeiekfaaJ11
import Derived.Test.YtlmdnhpdeiekfaaF
namespace Go.Proofs.Ytlmdnhpdeiekfaa
open Go.RowKit Go.Lib Go.ChangeShapes Go.WideShapes Go.ChangeAt Go.Deep
set_option linter.unusedVariables false

/-- Rows that came in: their numbers, which fit. -/
theorem open_prts {H : Type} {enc : TypeId × Value → H} {w : World} {base : Nat} {spare : Nat → Bool} {held : Bool} {A : Option Addr} {len cap fuel : Nat} {x : DataW H × List MemPlace}
    (h : DataW.trod enc Try.prog w base spare held fuel 22 [.slice A len cap] = some x) : len ≤ cap ∧ cap ≤ 9223372036854775807 ∧ ∃ d, PrtsV w A len d ∧ ∀ i, i < len → FitP (d i) := by
  obtain ⟨h1, h2, h3, h4⟩ := open_structs Try.underlying22 Try.underlying59 (by kernel_rfl) (by kernel_rfl) (by decide) h
  refine ⟨h1, by unfold maxLen at h2; omega, ?_⟩
  by_cases hp : 0 < len
  · obtain ⟨b, off, hA, hb, hc⟩ := h4 hp
    have hx : ∀ i, ∃ r : Prt, i < len → (w.cell? ⟨b, off + i * 3, none⟩ = some (.int .i64 r.1) ∧ w.cell? ⟨b, off + i * 3 + 1, none⟩ = some (.int .i64 r.2.1) ∧ w.cell? ⟨b, off + i * 3 + 2, none⟩ = some (.int .i64 r.2.2)) ∧ FitP r := by
      intro i
      by_cases hi : i < len
      · obtain ⟨v0, n0, y0, c0, r0⟩ := hc i hi 0 _ rfl
        obtain ⟨v1, n1, y1, c1, r1⟩ := hc i hi 1 _ rfl
        obtain ⟨v2, n2, y2, c2, r2⟩ := hc i hi 2 _ rfl
        obtain ⟨p, e0, _, w0⟩ := DataW.trod_int Try.underlying3 r0
        obtain ⟨q, e1, _, w1⟩ := DataW.trod_int Try.underlying3 r1
        obtain ⟨s, e2, _, w2⟩ := DataW.trod_int Try.underlying3 r2
        injection e0 with e0 _
        injection e1 with e1 _
        injection e2 with e2 _
        subst e0 e1 e2
        exact ⟨(p, q, s), fun _ => ⟨⟨c0, c1, c2⟩, fitI_of w0, fitI_of w1, fitI_of w2⟩⟩
      · exact ⟨(0, 0, 0), fun h => absurd h hi⟩
    exact ⟨fun i => Classical.choose (hx i), ⟨fun h => (h3 h).1, fun _ => ⟨b, off, hA, hb, fun i hi => (Classical.choose_spec (hx i) hi).1⟩⟩, fun i hi => (Classical.choose_spec (hx i) hi).2⟩
  · exact ⟨fun _ => (0, 0, 0), ⟨fun h => (h3 h).1, fun h => absurd h hp⟩, fun i hi => absurd hi (by omega)⟩

/-- One field of a struct by value whose fields are one cell each. -/
theorem open_field {H : Type} {enc : TypeId × Value → H} {P : Program} {w : World} {base : Nat} {spare : Nat → Bool} {held : Bool} {t : TypeId} {fs : Array Field} {fuel : Nat} {cs : List Value} {x : DataW H × List MemPlace}
    (hs : P.underlying t = some (.struct fs)) (hone : oneCellFields P fs = true) (h : DataW.trod enc P w base spare held fuel t cs = some x) {i : Nat} {f : Field} (hf : fs[i]? = some f) {c : Value} (hc : cs[i]? = some c) :
    ∃ n y, DataW.trod enc P w base spare held n f.type [c] = some y := by
  obtain ⟨xs, n, _, _, _, hlen, hfld⟩ := DataW.trod_struct hs h
  obtain ⟨o, k⟩ := hone_of hone i f hf
  have h1 := hfld i f hf
  have hi : i < fs.size := (Array.getElem?_eq_some_iff.1 hf).1
  have hcl : i < cs.length := (List.getElem?_eq_some_iff.1 hc).1
  have hce : cs[i] = c := (List.getElem?_eq_some_iff.1 hc).2
  rw [o, k, List.getElem?_eq_getElem (by omega), List.drop_eq_getElem_cons hcl, hce] at h1
  exact ⟨n, _, by simpa using h1⟩
theorem cut5 {cs : Array Value} (h : cs.size = 5) : ∃ c0 c1 c2 c3 c4, cs = #[c0, c1, c2, c3, c4] := by
  obtain ⟨l⟩ := cs
  match l, h with
  | [c0, c1, c2, c3, c4], _ => exact ⟨c0, c1, c2, c3, c4, rfl⟩
/-- A job's five cells. -/
theorem open_job5 {H : Type} {enc : TypeId × Value → H} {w : World} {base : Nat} {spare : Nat → Bool} {held : Bool} {fuel : Nat} {c0 c1 c2 c3 c4 : Value} {x : DataW H × List MemPlace}
    (hf : DataW.trod enc Try.prog w base spare held fuel 36 [c0, c1, c2, c3, c4] = some x) : ∃ j : Jb, FitJ j ∧ c0 = .int .i64 j.1 ∧ c1 = .int .i64 j.2.1 ∧ c2 = .int .i64 j.2.2.1 ∧ c3 = .bool j.2.2.2.1 ∧ c4 = .string j.2.2.2.2 := by
  obtain ⟨n0, y0, h0⟩ := open_field Try.underlying36 (by kernel_rfl) hf (i := 0) rfl (c := c0) rfl
  obtain ⟨n1, y1, h1⟩ := open_field Try.underlying36 (by kernel_rfl) hf (i := 1) rfl (c := c1) rfl
  obtain ⟨n2, y2, h2⟩ := open_field Try.underlying36 (by kernel_rfl) hf (i := 2) rfl (c := c2) rfl
  obtain ⟨n3, y3, h3⟩ := open_field Try.underlying36 (by kernel_rfl) hf (i := 3) rfl (c := c3) rfl
  obtain ⟨n4, y4, h4⟩ := open_field Try.underlying36 (by kernel_rfl) hf (i := 4) rfl (c := c4) rfl
  obtain ⟨o, e0, _, w0⟩ := DataW.trod_int Try.underlying3 h0
  obtain ⟨s, e1, _, w1⟩ := DataW.trod_int Try.underlying3 h1
  obtain ⟨n, e2, _, w2⟩ := DataW.trod_int Try.underlying3 h2
  obtain ⟨b, e3, _⟩ := DataW.trod_bool Try.underlying4 h3
  obtain ⟨t, e4, _, w4⟩ := DataW.trod_string Try.underlying9 h4
  injection e0 with e0 _
  injection e1 with e1 _
  injection e2 with e2 _
  injection e3 with e3 _
  injection e4 with e4 _
  exact ⟨(o, s, n, b, t), ⟨fitI_of w0, fitI_of w1, fitI_of w2, by unfold maxLen at w4; show (t.size : Int) ≤ _; omega⟩, e0, e1, e2, e3, e4⟩
/-- A job that came in by value. -/
theorem open_job {H : Type} {enc : TypeId × Value → H} {W : World} {base b0 : Nat} {spare : Nat → Bool} {held : Bool} {r : Reach} {v : Value} {d : DataW H} {p : List MemPlace}
    (hv : Value.okWide Try.prog W r b0 36 v) (h : DataW.Trod enc Try.prog W base spare held 36 v d p) : ∃ j : Jb, v = jbv j ∧ FitJ j := by
  obtain ⟨cs, rfl, hsz⟩ := okWide_struct Try.underlying36 hv
  obtain ⟨c0, c1, c2, c3, c4, rfl⟩ := cut5 (hsz.trans (by kernel_rfl))
  obtain ⟨fuel, hf⟩ := h
  obtain ⟨j, hj, rfl, rfl, rfl, rfl, rfl⟩ := open_job5 hf
  exact ⟨j, rfl, hj⟩
end Go.Proofs.Ytlmdnhpdeiekfaa
