import Derived.Test.YtdlioicljpgmaaaDoorZ03
import Derived.ProofKit
import Derived.LaidMore
import Derived.OpenShut
import Derived.ShutString
import Derived.ChangeOld
import Derived.Stop.Joined
import Derived.Lib.SmallJoins
import Derived.Test.YtdlioicljpgmaaaDoorZ02
import Derived.Test.YtdlioicljpgmaaaDoorZ18
import Derived.Test.YtdlioicljpgmaaaDoorCards
import Derived.Test.YtdlioicljpgmaaaDoorTie
import Derived.SevenTiedAt
set_option linter.all false
/- How a law of package code is opened: the table as1 it was laid; codes, instructions and texts that came in. -/
namespace Go.Proofs.YtdlioicljpgmaaaDoor
open Go.RowKit Go.Lib Go.ChangeShapes Go.WideShapes Go.ChangeAt Go.Deep Go.Joins
open Go.ChangeMaps (open_string shut_string)
set_option linter.unusedVariables false
set_option maxRecDepth 8000

theorem kd_own : ownKnob Tryd.prog.godebug = none := by kernel_rfl
theorem kd_laid : laidOutB Tryd.prog = true := by kernel_rfl
theorem names_at : Tryd.prog.globalNamed "campanile/code.names" = some 0 := by kernel_rfl
theorem names_type : (Tryd.prog.globals[0]?).map (·.type) = some 141 := by kernel_rfl
theorem cells_string : Tryd.prog.cellsOf 9 = 1 := by kernel_rfl
def laid1 : List (String × DataW Unit) := [("campanile/code.names", Rows.laid_campanile_code_names)]
/-- The door's own heap meets the condition: three closed facts. -/
theorem kd_door (os : Os) (args : Array Value) : laidMetH Tryd.prog laid1 ((World.doorLaid Tryd.prog 400 os).forCall (fun _ _ => 0) ⟨#[], args, []⟩).memory :=
  laidMetH_of_parts3 (fuel := 8) (laidMet_of_run' 8 (by kernel_rfl) (by kernel_rfl)) (by kernel_rfl) (by kernel_rfl)
theorem laid_names : (Rows.laid_campanile_code_names : DataW Unit) = .agg ((List.range 16).map fun k => .lit (.string (nmX k))) := by rfl
/-- What the condition gives the walks: the table's cells. -/
theorem nm_of_laid {W : World} (h : laidMetH Tryd.prog laid1 W) : Nm W := by
  rw [MakeChecks.laidMetH_plain _ _ _ (by kernel_rfl)] at h
  obtain ⟨ps, ⟨g0, t0, cs0, f0, p0, q0, hg0, ht0, hv0, hd0, _, _⟩, _, _⟩ := h
  obtain rfl := Option.some.inj (names_at.symm.trans hg0)
  obtain rfl := Option.some.inj (names_type.symm.trans ht0)
  obtain ⟨xs, m1, rfl, hx1, hlen, hn4, hel⟩ := DataW.trod_array Tryd.underlying141 hd0
  rw [cells_string] at hel
  have hc : ∀ i, W.cell? ⟨0, i, none⟩ = cs0[i]? := fun i => World.var?_cell hg0 hv0 i
  have hx2 : xs.map Prod.fst = (List.range 16).map fun k => .lit (.string (nmX k)) := by
    have := hx1
    rw [laid_names] at this
    simp only [Prod.mk.injEq, DataW.agg.injEq] at this
    exact this.1.symm
  have one : ∀ k, k < 16 → W.cell? ⟨0, k, none⟩ = some (.string (nmL k)) := by
    intro k hk
    have hkl : k < xs.length := by omega
    have h1 := hel k hk
    rw [List.getElem?_eq_getElem hkl, Nat.mul_one] at h1
    obtain ⟨s, e1, e2, _⟩ := DataW.trod_string Tryd.underlying9 h1
    have e4 : (xs.map Prod.fst)[k]? = some (.lit (.string (nmX k))) := by
      rw [hx2]
      simp [hk]
    rw [List.getElem?_map, List.getElem?_eq_getElem hkl] at e4
    simp only [Option.map_some, Option.some.injEq] at e4
    rw [e2] at e4
    simp only [DataW.lit.injEq, Lit.string.injEq] at e4
    have hs : s = nmL k := by
      unfold nmL
      rw [← e4]
    rw [hc k, ← hs]
    have e3 : cs0.toList[k]? = some (.string s) := by
      have := congrArg (fun l => l[0]?) e1
      simpa [List.getElem?_take, List.getElem?_drop] using this
    simpa using e3
  refine ⟨one, ?_⟩
  have c0 := one 0 (by omega)
  rcases Nat.eq_zero_or_pos W.heap.size with hz | hz
  · have : W.heap = #[] := Array.eq_empty_of_size_eq_zero hz
    simp [World.cell?, this] at c0
  · exact hz
section
variable {H : Type} {enc : TypeId × Value → H} {W : World} {base b0 : Nat} {spare : Nat → Bool} {held : Bool} {r : Reach} {v : Value} {d : DataW H} {p : List MemPlace}
theorem kd_string (hv : Value.okWide Tryd.prog W r b0 9 v) (h : DataW.Trod enc Tryd.prog W base spare held 9 v d p) : ∃ s : ByteArray, v = .string s ∧ s.size ≤ 9223372036854775807 := by
  obtain ⟨s, rfl, _, _, hs⟩ := open_string Tryd.underlying9 hv h
  exact ⟨s, rfl, by unfold maxLen at hs; omega⟩
theorem kd_in_u8 {n : Int} (w : (Lit.int .u8 n).wf = true) : 0 ≤ n ∧ n ≤ 255 := by
  simp only [Lit.wf, Bool.and_eq_true, decide_eq_true_eq] at w
  have e1 : IntKind.u8.min = 0 := by kernel_rfl
  have e2 : IntKind.u8.max = 255 := by kernel_rfl
  omega
theorem kd_code (hv : Value.okWide Tryd.prog W r b0 102 v) (h : DataW.Trod enc Tryd.prog W base spare held 102 v d p) : ∃ k : Nat, v = .int .u8 k ∧ k < 256 := by
  obtain ⟨a, rfl, _, _, w⟩ := open_int Tryd.underlying102 hv h
  have := kd_in_u8 w
  exact ⟨a.toNat, by rw [Int.toNat_of_nonneg this.1], by omega⟩
theorem kd_field {P : Program} {w : World} {t : TypeId} {fs : Array Field} {fuel : Nat} {cs : List Value} {x : DataW H × List MemPlace}
    (hs : P.underlying t = some (.struct fs)) (hone : oneCellFields P fs = true) (h : DataW.trod enc P w base spare held fuel t cs = some x) {i : Nat} {f : Field} (hf : fs[i]? = some f) {c : Value} (hc : cs[i]? = some c) :
    ∃ n y, DataW.trod enc P w base spare held n f.type [c] = some y := by
  obtain ⟨xs, n, _, _, _, hlen, hfld⟩ := DataW.trod_struct hs h
  obtain ⟨o, k⟩ := hone_of hone i f hf
  have h1 := hfld i f hf
  have hi : i < fs.size := (Array.getElem?_eq_some_iff.1 hf).1
  have hcl : i < cs.length := (List.getElem?_eq_some_iff.1 hc).1
  have hce : cs[i] = c := (List.getElem?_eq_some_iff.1 hc).2
  rw [o, k, List.getElem?_eq_getElem (by omega), List.drop_eq_getElem_cons hcl, hce] at h1
  exact ⟨n, _, by simpa using h1⟩
theorem kd_cut {cs : Array Value} (h : cs.size = 3) : ∃ c0 c1 c2, cs = #[c0, c1, c2] := by
  obtain ⟨l⟩ := cs
  match l, h with
  | [c0, c1, c2], _ => exact ⟨c0, c1, c2, rfl⟩
theorem kd_instr (hv : Value.okWide Tryd.prog W r b0 104 v) (h : DataW.Trod enc Tryd.prog W base spare held 104 v d p) : ∃ (k : Nat) (x n : Int), v = .agg #[.int .u8 k, .int .i64 x, .int .i64 n] ∧ k < 256 := by
  obtain ⟨cs, rfl, hsz⟩ := okWide_struct Tryd.underlying104 hv
  obtain ⟨c0, c1, c2, rfl⟩ := kd_cut (hsz.trans (by kernel_rfl))
  obtain ⟨fuel, hf⟩ := h
  obtain ⟨n0, y0, h0⟩ := kd_field Tryd.underlying104 (by kernel_rfl) hf (i := 0) rfl (c := c0) rfl
  obtain ⟨n1, y1, h1⟩ := kd_field Tryd.underlying104 (by kernel_rfl) hf (i := 1) rfl (c := c1) rfl
  obtain ⟨n2, y2, h2⟩ := kd_field Tryd.underlying104 (by kernel_rfl) hf (i := 2) rfl (c := c2) rfl
  obtain ⟨a0, e0, _, w0⟩ := DataW.trod_int Tryd.underlying102 h0
  obtain ⟨a1, e1, _, w1⟩ := DataW.trod_int Tryd.underlying3 h1
  obtain ⟨a2, e2, _, w2⟩ := DataW.trod_int Tryd.underlying3 h2
  injection e0 with e0 _
  injection e1 with e1 _
  injection e2 with e2 _
  subst e0 e1 e2
  have := kd_in_u8 w0
  exact ⟨a0.toNat, a1, a2, by rw [Int.toNat_of_nonneg this.1], by omega⟩
end
end Go.Proofs.YtdlioicljpgmaaaDoor

/- How a slice of elements of several cells that came in is opened. -/
namespace Go.Proofs.YtdlioicljpgmaaaDoor
open Go.RowKit Go.Lib Go.ChangeShapes Go.WideShapes Go.ChangeAt Go.Deep
set_option linter.unusedVariables false

section
variable {H : Type} {enc : TypeId × Value → H} {P : Program} {w : World} {base : Nat} {spare : Nat → Bool} {held : Bool}
/-- The cells of a slice of elements of k cells each, element by element, and what each reads as1. -/
theorem open_wide {t e : TypeId} {fuel k : Nat} {A : Option Addr} {len cap : Nat} {x : DataW H × List MemPlace} (ht : P.underlying t = some (.slice e)) (hC : P.cellsOf e = k) (hpos : 0 < k) (h : DataW.trod enc P w base spare held fuel t [.slice A len cap] = some x) :
    len ≤ cap ∧ cap ≤ maxLen ∧ (A = none → len = 0 ∧ cap = 0) ∧ (0 < len → ∃ b off, A = some ⟨b, off, none⟩ ∧ b < w.heap.size ∧
      ∀ i, i < len → ∃ (cs : List Value) (n : Nat) (y : DataW H × List MemPlace), cs.length = k ∧ DataW.trod enc P w base spare held n e cs = some y ∧ ∀ j, j < k → w.cell? ⟨b, off + (i * k + j), none⟩ = cs[j]?) := by
  rcases open_slice ht h with ⟨hcs, _⟩ | ⟨a, l, c, m, n, D, Pl, hcs, hb, hl, hm, hmm, hx, hi⟩
  · injection hcs with hcs _
    injection hcs with h1 h2 h3
    subst h1 h2 h3
    exact ⟨Nat.le_refl _, by simp [maxLen], fun _ => ⟨rfl, rfl⟩, fun h0 => absurd h0 (by omega)⟩
  · injection hcs with hcs _
    injection hcs with h1 h2 h3
    subst h1 h2 h3
    refine ⟨hl, hm, fun h0 => (by cases h0), fun hpl => ?_⟩
    have hml : len ≤ m := by rw [hmm]; split <;> omega
    have main : ∀ i, i < len → ∃ (cs : List Value) (n : Nat) (y : DataW H × List MemPlace), cs.length = k ∧ DataW.trod enc P w base spare held n e cs = some y ∧ ∀ j, j < k → w.cell? (a.add (i * k + j)) = cs[j]? := by
      intro i hil
      obtain ⟨cs', hc, ht'⟩ := hi i (by omega)
      rw [hC] at hc
      obtain ⟨_, hcl, hat⟩ := World.cells?_some hc
      refine ⟨cs', n, _, hcl, ht', fun j hj => ?_⟩
      rw [← add_add_plain]
      exact hat j hj
    obtain ⟨cs0, _, _, hl0, _, hc0⟩ := main 0 hpl
    obtain ⟨v0, hv0⟩ : ∃ v, cs0[0]? = some v := ⟨_, List.getElem?_eq_getElem (by omega)⟩
    have hc00 := (hc0 0 hpos).trans hv0
    have hsp : a.spot = none := by
      have := World.cell?_spot hc00
      simpa [Addr.add] using this
    obtain ⟨b, off, sp⟩ := a
    simp only at hsp
    subst hsp
    have hbl : b < w.heap.size := by
      rcases Nat.lt_or_ge b w.heap.size with hlt | hge
      · exact hlt
      · have hp := addr_plain hc00
        rw [hp] at hc00
        simp [World.cell?, Array.getElem?_eq_none hge] at hc00
    refine ⟨b, off, rfl, hbl, fun i hil => ?_⟩
    obtain ⟨cs, n2, y, h1, h2, h3⟩ := main i hil
    refine ⟨cs, n2, y, h1, h2, fun j hj => ?_⟩
    have h4 := h3 j hj
    obtain ⟨v, hv⟩ : ∃ v, cs[j]? = some v := ⟨_, List.getElem?_eq_getElem (by omega)⟩
    rw [hv] at h4
    have hp := addr_plain h4
    rw [hp] at h4
    rw [h4, hv]
end
end Go.Proofs.YtdlioicljpgmaaaDoor

/- How the laws of package part are opened: what may be told, and deeds, that came in. -/
namespace Go.Proofs.YtdlioicljpgmaaaDoor
open Go.RowKit Go.Lib Go.ChangeShapes Go.WideShapes Go.ChangeAt Go.Deep Go.Joins
set_option linter.unusedVariables false
set_option maxRecDepth 8000

def Pt.fitI (x : Int) : Prop := -9223372036854775808 ≤ x ∧ x ≤ 9223372036854775807
theorem Pt.fitI_of {x : Int} (w : (Lit.int .i64 x).wf = true) : Pt.fitI x := by
  simp only [Lit.wf, Bool.and_eq_true, decide_eq_true_eq] at w
  have e1 : IntKind.i64.min = -9223372036854775808 := by kernel_rfl
  have e2 : IntKind.i64.max = 9223372036854775807 := by kernel_rfl
  unfold Pt.fitI
  omega
theorem Pt.cut5a {cs : Array Value} (h : cs.size = 5) : ∃ c0 c1 c2 c3 c4, cs = #[c0, c1, c2, c3, c4] := by
  obtain ⟨l⟩ := cs
  match l, h with
  | [c0, c1, c2, c3, c4], _ => exact ⟨c0, c1, c2, c3, c4, rfl⟩
theorem Pt.cut6 {cs : List Value} (h : cs.length = 6) : ∃ c0 c1 c2 c3 c4 c5, cs = [c0, c1, c2, c3, c4, c5] := by
  match cs, h with
  | [c0, c1, c2, c3, c4, c5], _ => exact ⟨c0, c1, c2, c3, c4, c5, rfl⟩
/-- A deed. -/
structure Pt.Dd where
  o : Bool
  x : Pt.F
def Pt.DdC (w : World) (b o : Nat) (y : Pt.Dd) : Prop := w.cell? ⟨b, o, none⟩ = some (.bool y.o) ∧ w.cell? ⟨b, o + 1, none⟩ = some (.int .i64 y.x.t) ∧ w.cell? ⟨b, o + 2, none⟩ = some (.int .i64 y.x.f) ∧ w.cell? ⟨b, o + 3, none⟩ = some (.int .i64 y.x.d) ∧ w.cell? ⟨b, o + 4, none⟩ = some (.int .i64 y.x.p) ∧ w.cell? ⟨b, o + 5, none⟩ = some (.int .i64 y.x.b)
/-- Deeds that came in. -/
def Pt.DdP (w : World) (A : Option Addr) (len : Nat) (d : Nat → Pt.Dd) : Prop := 0 < len → ∃ b off, A = some ⟨b, off, none⟩ ∧ b < w.heap.size ∧ ∀ i, i < len → Pt.DdC w b (off + i * 6) (d i)
theorem Pt.DdC.below {w w' : World} {b o : Nat} {y : Pt.Dd} (h : Pt.DdC w b o y) (hg : b < w.heap.size) (hb : Below w.heap.size w w') : Pt.DdC w' b o y := by
  obtain ⟨h0, h1, h2, h3, h4, h5⟩ := h
  exact ⟨(hb.cell (p := ⟨b, _, none⟩) hg).trans h0, (hb.cell (p := ⟨b, _, none⟩) hg).trans h1, (hb.cell (p := ⟨b, _, none⟩) hg).trans h2, (hb.cell (p := ⟨b, _, none⟩) hg).trans h3, (hb.cell (p := ⟨b, _, none⟩) hg).trans h4, (hb.cell (p := ⟨b, _, none⟩) hg).trans h5⟩
theorem Pt.DdP.grown {w w' : World} {A : Option Addr} {len : Nat} {d : Nat → Pt.Dd} (h : Pt.DdP w A len d) (g : w.grownBy w' none) : Pt.DdP w' A len d := fun hp => by
  obtain ⟨b, off, e, hg, hc⟩ := h hp
  exact ⟨b, off, e, Nat.lt_of_lt_of_le hg g.size, fun i hi => (hc i hi).below hg (below_of_only g (Nat.le_refl _) (fun k hk => by cases hk))⟩
section
variable {H : Type} {enc : TypeId × Value → H} {W : World} {base b0 : Nat} {spare : Nat → Bool} {held : Bool} {r : Reach} {v : Value} {d : DataW H} {p : List MemPlace}
theorem Pt.facts5 {fuel : Nat} {c0 c1 c2 c3 c4 : Value} {x : DataW H × List MemPlace} (hf : DataW.trod enc Tryd.prog W base spare held fuel 42 [c0, c1, c2, c3, c4] = some x) : ∃ x : Pt.F, c0 = .int .i64 x.t ∧ c1 = .int .i64 x.f ∧ c2 = .int .i64 x.d ∧ c3 = .int .i64 x.p ∧ c4 = .int .i64 x.b := by
  obtain ⟨n0, y0, h0⟩ := kd_field Tryd.underlying42 (by kernel_rfl) hf (i := 0) rfl (c := c0) rfl
  obtain ⟨n1, y1, h1⟩ := kd_field Tryd.underlying42 (by kernel_rfl) hf (i := 1) rfl (c := c1) rfl
  obtain ⟨n2, y2, h2⟩ := kd_field Tryd.underlying42 (by kernel_rfl) hf (i := 2) rfl (c := c2) rfl
  obtain ⟨n3, y3, h3⟩ := kd_field Tryd.underlying42 (by kernel_rfl) hf (i := 3) rfl (c := c3) rfl
  obtain ⟨n4, y4, h4⟩ := kd_field Tryd.underlying42 (by kernel_rfl) hf (i := 4) rfl (c := c4) rfl
  obtain ⟨a0, e0, _, _⟩ := DataW.trod_int Tryd.underlying3 h0
  obtain ⟨a1, e1, _, _⟩ := DataW.trod_int Tryd.underlying3 h1
  obtain ⟨a2, e2, _, _⟩ := DataW.trod_int Tryd.underlying3 h2
  obtain ⟨a3, e3, _, _⟩ := DataW.trod_int Tryd.underlying3 h3
  obtain ⟨a4, e4, _, _⟩ := DataW.trod_int Tryd.underlying3 h4
  injection e0 with e0 _
  injection e1 with e1 _
  injection e2 with e2 _
  injection e3 with e3 _
  injection e4 with e4 _
  exact ⟨⟨a0, a1, a2, a3, a4⟩, e0, e1, e2, e3, e4⟩
theorem Pt.open_facts (hv : Value.okWide Tryd.prog W r b0 42 v) (h : DataW.Trod enc Tryd.prog W base spare held 42 v d p) : ∃ x : Pt.F, v = .agg #[.int .i64 x.t, .int .i64 x.f, .int .i64 x.d, .int .i64 x.p, .int .i64 x.b] := by
  obtain ⟨cs, rfl, hsz⟩ := okWide_struct Tryd.underlying42 hv
  obtain ⟨c0, c1, c2, c3, c4, rfl⟩ := Pt.cut5a (hsz.trans (by kernel_rfl))
  obtain ⟨fuel, hf⟩ := h
  obtain ⟨x, e0, e1, e2, e3, e4⟩ := Pt.facts5 (x := (d, p)) hf
  exact ⟨x, by rw [e0, e1, e2, e3, e4]⟩
theorem Pt.open_dds {A : Option Addr} {len cap fuel : Nat} {x : DataW H × List MemPlace}
    (h : DataW.trod enc Tryd.prog W base spare held fuel 22 [.slice A len cap] = some x) : len ≤ cap ∧ cap ≤ 9223372036854775807 ∧ ∃ d, Pt.DdP W A len d := by
  obtain ⟨h1, h2, h3, h4⟩ := open_wide (k := 6) Tryd.underlying22 (by kernel_rfl) (by decide) h
  refine ⟨h1, by unfold maxLen at h2; omega, ?_⟩
  by_cases hp : 0 < len
  · obtain ⟨b, off, hA, hb, hc⟩ := h4 hp
    have hx : ∀ i, ∃ r : Pt.Dd, i < len → Pt.DdC W b (off + i * 6) r := by
      intro i
      by_cases hi : i < len
      · obtain ⟨cs, n, y, hcl, ht, hcell⟩ := hc i hi
        obtain ⟨c0, c1, c2, c3, c4, c5, rfl⟩ := Pt.cut6 hcl
        obtain ⟨xs, n', _, _, _, hlen, hfld⟩ := DataW.trod_struct Tryd.underlying44 ht
        have hxl : xs.length = 2 := hlen
        have q0 := hfld 0 _ rfl
        have q1 := hfld 1 _ rfl
        rw [List.getElem?_eq_getElem (show 0 < xs.length by omega)] at q0
        rw [List.getElem?_eq_getElem (show 1 < xs.length by omega)] at q1
        have g0 : DataW.trod enc Tryd.prog W base spare held n' 4 [c0] = some xs[0] := q0
        have g1 : DataW.trod enc Tryd.prog W base spare held n' 42 [c1, c2, c3, c4, c5] = some xs[1] := q1
        obtain ⟨a0, e0, _⟩ := DataW.trod_bool Tryd.underlying4 g0
        obtain ⟨x, e1, e2, e3, e4, e5⟩ := Pt.facts5 g1
        injection e0 with e0 _
        subst e0 e1 e2 e3 e4 e5
        exact ⟨⟨a0, x⟩, fun _ => ⟨hcell 0 (by omega), hcell 1 (by omega), hcell 2 (by omega), hcell 3 (by omega), hcell 4 (by omega), hcell 5 (by omega)⟩⟩
      · exact ⟨⟨false, ⟨0, 0, 0, 0, 0⟩⟩, fun h => absurd h hi⟩
    exact ⟨fun i => Classical.choose (hx i), fun _ => ⟨b, off, hA, hb, fun i hi => Classical.choose_spec (hx i) hi⟩⟩
  · exact ⟨fun _ => ⟨false, ⟨0, 0, 0, 0, 0⟩⟩, fun h => absurd h hp⟩
end
end Go.Proofs.YtdlioicljpgmaaaDoor

/- The row of PartResults: what a hypercall tells is the document's: for every number and what may be told the law returns true, where the package's table starts as1 the program's text lays it. -/
namespace Go.Proofs.YtdlioicljpgmaaaDoor
open Go.RowKit Go.Lib Go.ChangeShapes Go.WideShapes Go.ChangeAt Go.Deep Go.Joins
open Go.ChangeMaps (open_string shut_string)
set_option linter.unusedVariables false

set_option maxRecDepth 100000 in
theorem partResults_lifted (os : Os) (started : os.Started) (H : Type) (enc : TypeId × Value → H) :
    ReturnsInHanded {} Tryd.checked os 5 .any (fun w args => (Rows.partResultsSpec.pre enc Tryd.prog Tryd.f5 [] false w args ∧ laidMetH Tryd.prog laid1 w) ∧ sizedMet enc Tryd.prog Tryd.f5 (OpenSpec.ofChange Rows.partResultsSpec) false w args)
      (Rows.partResultsSpec.post enc Tryd.prog Tryd.f5 false true false false) := by
  refine returnsInHanded_of_change_and (C := Tryd.checked) (X := fun w _ => laidMetH Tryd.prog laid1 w) (fun _ _ _ hh h => h.of_heap hh) kd_own started (by kernel_rfl) Tryd.func5
    (ChangeSpec.witness_shaped (enc := enc) (C := Tryd.checked) (os := os) (X := fun w _ => laidMetH Tryd.prog laid1 w) false (World.doorLaid Tryd.prog 400 os) #[.int .i64 0, .agg #[.int .i64 0, .int .i64 0, .int .i64 0, .int .i64 0, .int .i64 0]] 8 rfl (World.shaped_of_RefB (by kernel_rfl) (by kernel_rfl)) (by kernel_rfl) (by kernel_rfl) (by kernel_rfl) (kd_door os _)) ?_
  intro W base args ds gs before hval0 hW _ _ hL _
  have hval : ∀ (j : Nat) t v, Tryd.f5.params[j]? = some t → args[j]? = some v → Value.okWide Tryd.prog W .any base t v := hval0
  have hW' := hW
  obtain ⟨p, q, hA0, hV, rfl, hfz, hnd⟩ := hW
  have hA : DataW.TrodAll enc Tryd.prog W 0 (fun _ => true) true Tryd.f5.params.toList args.toList ds p := hA0
  rw [Tryd.params5] at hA hval
  obtain ⟨v0, vs0, d0, ds0, p0, q0, hargs, rfl, rfl, h0, r0⟩ := trodAll_cons hA
  obtain ⟨v1, vs1, d1, ds1, p1, q1, rfl, rfl, rfl, h1, r1⟩ := trodAll_cons r0
  obtain ⟨rfl, rfl, rfl⟩ := trodAll_nil r1
  obtain rfl : args = #[v0, v1] := by cases args; simp_all
  obtain ⟨rfl, rfl⟩ := trodVars_none hV
  obtain ⟨a0, rfl, rfl, rfl, w0⟩ := open_int Tryd.underlying3 (hval 0 3 v0 rfl rfl) h0
  have k1 := h1
  have lt1 : ∀ x ∈ p1, x.block < W.heap.size := by obtain ⟨m, hm⟩ := k1; exact DataW.trod_lt m _ _ _ hm
  obtain ⟨x1, rfl⟩ := Pt.open_facts (hval 1 42 v1 rfl rfl) h1
  clear hA0 hval0
  refine (Pt.results_walk a0 x1 W (nm_of_laid hL)).mono fun e W' ⟨he, bel⟩ => ?_
  subst he
  exact ⟨_, rfl, _, _, _, [], _, [], hW', trodAll_mk1 (shut_bool Tryd.underlying4 _), (trodAll_cons_mk (shut_int Tryd.underlying3 w0) (trodAll_cons_mk (Below.trod kd_laid (by kernel_rfl) (of_decide_eq_true (by kernel_rfl)) k1 bel lt1) trodAll_mk0)), rfl, bel.frame _, fun h => by cases h⟩
theorem partResults_holds : Rows.PartResultsSaid :=
  OpenClaim.holds_of_wide 5 Tryd.f5 rfl rfl rfl rfl rfl rfl rfl ⟨rfl, rfl, rfl, rfl, rfl⟩ rfl rfl rfl rfl rfl (by kernel_rfl) Tryd.func5 (by kernel_rfl)
    (of_decide_eq_true (by kernel_rfl)) (by unfold Func.isWrapper; first | (rw [if_pos (by decide +kernel)]; kernel_rfl) | (rw [if_neg (by decide +kernel)]; exact ⟨rfl, rfl⟩))
    (fun os started H enc _ => partResults_lifted os started H enc)
#print axioms partResults_holds
end Go.Proofs.YtdlioicljpgmaaaDoor

/- PartResults: what a hypercall tells is the document's: for every number and what may be told the law returns true. No condition but the tied card's: the package's table starts as1 the program's text lays it. -/
namespace Go.Proofs.YtdlioicljpgmaaaDoor
open Go

theorem partResults_card : Rows.PartResultsCardSaid :=
  Claim7.holds_tied_plain_at .later [] [.data] true _ false
    partResults_holds (fun _ h => by cases h) (by kernel_rfl) (fun _ h => by cases h) partResults_row_tie rfl ⟨rfl, rfl⟩ (by kernel_rfl) rfl
    (fun f fn hf hfn => by
      obtain rfl : f = 5 := Option.some.inj ((show Tryd.prog.funcNamed "campanile/campanilelaw27.PartResults" = some 5 by kernel_rfl).symm.trans hf) |>.symm
      obtain rfl : fn = Tryd.f5 := (Option.some.inj (Tryd.func5.symm.trans hfn)).symm
      exact ⟨by kernel_rfl, fun j t ht => by
        rw [Tryd.params5] at ht
        have hm : t ∈ [3, 42] := by simpa using Array.mem_of_getElem? ht
        have hall : ([3, 42].all fun u => !Tryd.prog.wantsStandIn u) = true := by kernel_rfl
        exact (show Tryd.prog.wantsStandIn t = false by simpa using List.all_eq_true.1 hall t hm)⟩)
    (by kernel_rfl)
#print axioms partResults_card
end Go.Proofs.YtdlioicljpgmaaaDoor
