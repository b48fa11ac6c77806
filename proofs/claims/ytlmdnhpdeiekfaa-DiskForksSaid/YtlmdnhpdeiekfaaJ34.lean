/- How deeds on disks that came in are opened. -/
import Derived.Test.YtlmdnhpdeiekfaaJO
import Derived.Test.YtlmdnhpdeiekfaaJ33
namespace Go.Proofs.Ytlmdnhpdeiekfaa
open Go.RowKit Go.Lib Go.ChangeShapes Go.WideShapes Go.ChangeAt Go.Deep
set_option linter.unusedVariables false

section
variable {H : Type} {enc : TypeId × Value → H} {P : Program} {w : World} {base : Nat} {spare : Nat → Bool} {held : Bool}
/-- The cells of a slice of elements of k cells each, element by element, and what each reads as. -/
theorem open_wide {t e : TypeId} {fuel k : Nat} {A : Option Addr} {len cap : Nat} {x : DataW H × List MemPlace} (ht : P.underlying t = some (.slice e)) (hC : P.cellsOf e = k) (hpos : 0 < k) (h : DataW.trod enc P w base spare held fuel t [.slice A len cap] = some x) :
    len ≤ cap ∧ cap ≤ maxLen ∧ (A = none → len = 0 ∧ cap = 0) ∧ (0 < len → ∃ b off, A = some ⟨b, off, none⟩ ∧ b < w.heap.size ∧
      ∀ i, i < len → ∃ (cs : List Value) (n : Nat) (y : DataW H × List MemPlace), cs.length = k ∧ DataW.trod enc P w base spare held n e cs = some y ∧ ∀ j, j < k → w.cell? ⟨b, off + (i * k + j), none⟩ = cs[j]?) := by
  rcases open_slice ht h with ⟨hcs, _⟩ | ⟨a, l, c, m, n, D, Pl, hcs, hb, hl, hm, hmm, hx, hi⟩
  · injection hcs with hcs _
    injection hcs with h1 h2 h3
    subst h1 h2 h3
    exact ⟨Nat.le_refl _, by simp [maxLen], fun _ => ⟨rfl, rfl⟩, fun h0 => absurd h0 (by omega)⟩
  · injection hcs with hcs _
    injection hcs with h1 h2 h3
    subst h1 h2 h3
    refine ⟨hl, hm, fun h0 => (by cases h0), fun hpl => ?_⟩
    have hml : len ≤ m := by rw [hmm]; split <;> omega
    have main : ∀ i, i < len → ∃ (cs : List Value) (n : Nat) (y : DataW H × List MemPlace), cs.length = k ∧ DataW.trod enc P w base spare held n e cs = some y ∧ ∀ j, j < k → w.cell? (a.add (i * k + j)) = cs[j]? := by
      intro i hil
      obtain ⟨cs', hc, ht'⟩ := hi i (by omega)
      rw [hC] at hc
      obtain ⟨_, hcl, hat⟩ := World.cells?_some hc
      refine ⟨cs', n, _, hcl, ht', fun j hj => ?_⟩
      rw [← add_add_plain]
      exact hat j hj
    obtain ⟨cs0, _, _, hl0, _, hc0⟩ := main 0 hpl
    obtain ⟨v0, hv0⟩ : ∃ v, cs0[0]? = some v := ⟨_, List.getElem?_eq_getElem (by omega)⟩
    have hc00 := (hc0 0 hpos).trans hv0
    have hsp : a.spot = none := by
      have := World.cell?_spot hc00
      simpa [Addr.add] using this
    obtain ⟨b, off, sp⟩ := a
    simp only at hsp
    subst hsp
    have hbl : b < w.heap.size := by
      rcases Nat.lt_or_ge b w.heap.size with hlt | hge
      · exact hlt
      · have hp := addr_plain hc00
        rw [hp] at hc00
        simp [World.cell?, Array.getElem?_eq_none hge] at hc00
    refine ⟨b, off, rfl, hbl, fun i hil => ?_⟩
    obtain ⟨cs, n2, y, h1, h2, h3⟩ := main i hil
    refine ⟨cs, n2, y, h1, h2, fun j hj => ?_⟩
    have h4 := h3 j hj
    obtain ⟨v, hv⟩ : ∃ v, cs[j]? = some v := ⟨_, List.getElem?_eq_getElem (by omega)⟩
    rw [hv] at h4
    have hp := addr_plain h4
    rw [hp] at h4
    rw [h4, hv]
end
/-- A deed: what it does, its tick, its job. -/
abbrev Dd := Int × Int × Jb
def FitDd (x : Dd) : Prop := fitI x.2.1 ∧ FitJ x.2.2
def DdC (w : World) (b o : Nat) (x : Dd) : Prop := w.cell? ⟨b, o, none⟩ = some (.int .i64 x.1) ∧ w.cell? ⟨b, o + 1, none⟩ = some (.int .i64 x.2.1) ∧ w.cell? ⟨b, o + 2, none⟩ = some (.int .i64 x.2.2.1) ∧ w.cell? ⟨b, o + 3, none⟩ = some (.int .i64 x.2.2.2.1) ∧ w.cell? ⟨b, o + 4, none⟩ = some (.int .i64 x.2.2.2.2.1) ∧ w.cell? ⟨b, o + 5, none⟩ = some (.bool x.2.2.2.2.2.1) ∧ w.cell? ⟨b, o + 6, none⟩ = some (.string x.2.2.2.2.2.2)
/-- Deeds that came in. -/
def DedP (w : World) (A : Option Addr) (len : Nat) (D : Nat → Dd) : Prop := 0 < len → ∃ b off, A = some ⟨b, off, none⟩ ∧ b < w.heap.size ∧ ∀ i, i < len → DdC w b (off + i * 7) (D i)
theorem DdC.below {w w' : World} {b o : Nat} {x : Dd} (h : DdC w b o x) (hg : b < w.heap.size) (hb : Below w.heap.size w w') : DdC w' b o x := by
  obtain ⟨h0, h1, h2, h3, h4, h5, h6⟩ := h
  exact ⟨(hb.cell (p := ⟨b, _, none⟩) hg).trans h0, (hb.cell (p := ⟨b, _, none⟩) hg).trans h1, (hb.cell (p := ⟨b, _, none⟩) hg).trans h2, (hb.cell (p := ⟨b, _, none⟩) hg).trans h3, (hb.cell (p := ⟨b, _, none⟩) hg).trans h4, (hb.cell (p := ⟨b, _, none⟩) hg).trans h5, (hb.cell (p := ⟨b, _, none⟩) hg).trans h6⟩
theorem DedP.below {w w' : World} {A : Option Addr} {len : Nat} {D : Nat → Dd} (h : DedP w A len D) (hb : Below w.heap.size w w') : DedP w' A len D := fun hp => by
  obtain ⟨b, off, e, hg, hc⟩ := h hp
  exact ⟨b, off, e, Nat.lt_of_lt_of_le hg hb.size, fun i hi => (hc i hi).below hg hb⟩
theorem cut7 {cs : List Value} (h : cs.length = 7) : ∃ c0 c1 c2 c3 c4 c5 c6, cs = [c0, c1, c2, c3, c4, c5, c6] := by
  match cs, h with
  | [c0, c1, c2, c3, c4, c5, c6], _ => exact ⟨c0, c1, c2, c3, c4, c5, c6, rfl⟩
/-- A deed's seven cells. -/
theorem open_deed7 {H : Type} {enc : TypeId × Value → H} {w : World} {base : Nat} {spare : Nat → Bool} {held : Bool} {fuel : Nat} {c0 c1 c2 c3 c4 c5 c6 : Value} {x : DataW H × List MemPlace}
    (hf : DataW.trod enc Try.prog w base spare held fuel 38 [c0, c1, c2, c3, c4, c5, c6] = some x) : ∃ D : Dd, FitDd D ∧ c0 = .int .i64 D.1 ∧ c1 = .int .i64 D.2.1 ∧ c2 = .int .i64 D.2.2.1 ∧ c3 = .int .i64 D.2.2.2.1 ∧ c4 = .int .i64 D.2.2.2.2.1 ∧ c5 = .bool D.2.2.2.2.2.1 ∧ c6 = .string D.2.2.2.2.2.2 := by
  obtain ⟨xs, n, _, _, _, hlen, hfld⟩ := DataW.trod_struct Try.underlying38 hf
  have h0 := hfld 0 _ rfl
  have h1 := hfld 1 _ rfl
  have h2 := hfld 2 _ rfl
  have hxl : xs.length = 3 := hlen
  rw [List.getElem?_eq_getElem (show 0 < xs.length by omega)] at h0
  rw [List.getElem?_eq_getElem (show 1 < xs.length by omega)] at h1
  rw [List.getElem?_eq_getElem (show 2 < xs.length by omega)] at h2
  have g0 : DataW.trod enc Try.prog w base spare held n 3 [c0] = some xs[0] := h0
  have g1 : DataW.trod enc Try.prog w base spare held n 3 [c1] = some xs[1] := h1
  have g2 : DataW.trod enc Try.prog w base spare held n 36 [c2, c3, c4, c5, c6] = some xs[2] := h2
  obtain ⟨p, e0, _, w0⟩ := DataW.trod_int Try.underlying3 g0
  obtain ⟨q, e1, _, w1⟩ := DataW.trod_int Try.underlying3 g1
  obtain ⟨j, hj, e2, e3, e4, e5, e6⟩ := open_job5 g2
  injection e0 with e0 _
  injection e1 with e1 _
  exact ⟨(p, q, j), ⟨fitI_of w1, hj⟩, e0, e1, e2, e3, e4, e5, e6⟩
theorem open_dds {H : Type} {enc : TypeId × Value → H} {w : World} {base : Nat} {spare : Nat → Bool} {held : Bool} {A : Option Addr} {len cap fuel : Nat} {x : DataW H × List MemPlace}
    (h : DataW.trod enc Try.prog w base spare held fuel 23 [.slice A len cap] = some x) : len ≤ cap ∧ cap ≤ 9223372036854775807 ∧ ∃ d, DedP w A len d ∧ ∀ i, i < len → FitDd (d i) := by
  obtain ⟨h1, h2, h3, h4⟩ := open_wide (k := 7) Try.underlying23 (by kernel_rfl) (by decide) h
  refine ⟨h1, by unfold maxLen at h2; omega, ?_⟩
  by_cases hp : 0 < len
  · obtain ⟨b, off, hA, hb, hc⟩ := h4 hp
    have hx : ∀ i, ∃ r : Dd, i < len → DdC w b (off + i * 7) r ∧ FitDd r := by
      intro i
      by_cases hi : i < len
      · obtain ⟨cs, n, y, hcl, ht, hcell⟩ := hc i hi
        obtain ⟨c0, c1, c2, c3, c4, c5, c6, rfl⟩ := cut7 hcl
        obtain ⟨D, hD, e0, e1, e2, e3, e4, e5, e6⟩ := open_deed7 ht
        have q0 := hcell 0 (by omega)
        have q1 := hcell 1 (by omega)
        have q2 := hcell 2 (by omega)
        have q3 := hcell 3 (by omega)
        have q4 := hcell 4 (by omega)
        have q5 := hcell 5 (by omega)
        have q6 := hcell 6 (by omega)
        subst e0 e1 e2 e3 e4 e5 e6
        exact ⟨D, fun _ => ⟨⟨q0, q1, q2, q3, q4, q5, q6⟩, hD⟩⟩
      · exact ⟨(0, 0, 0, 0, 0, false, .empty), fun h => absurd h hi⟩
    exact ⟨fun i => Classical.choose (hx i), fun _ => ⟨b, off, hA, hb, fun i hi => (Classical.choose_spec (hx i) hi).1⟩, fun i hi => (Classical.choose_spec (hx i) hi).2⟩
  · exact ⟨fun _ => (0, 0, 0, 0, 0, false, .empty), fun h => absurd h hp, fun i hi => absurd hi (by omega)⟩
end Go.Proofs.Ytlmdnhpdeiekfaa
