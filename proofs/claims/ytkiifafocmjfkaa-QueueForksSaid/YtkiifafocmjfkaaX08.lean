import Derived.Test.YtkiifafocmjfkaaX02
import Derived.Test.YtkiifafocmjfkaaX05
import Derived.Test.YtkiifafocmjfkaaX07
import Derived.Lib.QuietBelow
import Derived.Deep.RegionWith
import Derived.Deep.Cut
import Derived.Deep.CutRange
set_option linter.all false
/- How a slice of elements of several cells that came in is opened. -/
namespace Go.Proofs.Ytkiifafocmjfkaa
open Go.RowKit Go.Lib Go.ChangeShapes Go.WideShapes Go.ChangeAt Go.Deep
set_option linter.unusedVariables false

section
variable {H : Type} {enc : TypeId × Value → H} {P : Program} {w : World} {base : Nat} {spare : Nat → Bool} {held : Bool}
/-- The cells of a slice of elements of k cells each, element by element, and what each reads as1. -/
theorem open_wide {t e : TypeId} {fuel k : Nat} {A : Option Addr} {len cap : Nat} {x : DataW H × List MemPlace} (ht : P.underlying t = some (.slice e)) (hC : P.cellsOf e = k) (hpos : 0 < k) (h : DataW.trod enc P w base spare held fuel t [.slice A len cap] = some x) :
    len ≤ cap ∧ cap ≤ maxLen ∧ (A = none → len = 0 ∧ cap = 0) ∧ (0 < len → ∃ b off, A = some ⟨b, off, none⟩ ∧ b < w.heap.size ∧
      ∀ i, i < len → ∃ (cs : List Value) (n : Nat) (y : DataW H × List MemPlace), cs.length = k ∧ DataW.trod enc P w base spare held n e cs = some y ∧ ∀ j, j < k → w.cell? ⟨b, off + (i * k + j), none⟩ = cs[j]?) := by
  rcases open_slice ht h with ⟨hcs, _⟩ | ⟨a, l, c, m, n, D, Pl, hcs, hb, hl, hm, hmm, hx, hi⟩
  · injection hcs with hcs _
    injection hcs with h1 h2 h3
    subst h1 h2 h3
    exact ⟨Nat.le_refl _, by simp [maxLen], fun _ => ⟨rfl, rfl⟩, fun h0 => absurd h0 (by omega)⟩
  · injection hcs with hcs _
    injection hcs with h1 h2 h3
    subst h1 h2 h3
    refine ⟨hl, hm, fun h0 => (by cases h0), fun hpl => ?_⟩
    have hml : len ≤ m := by rw [hmm]; split <;> omega
    have main : ∀ i, i < len → ∃ (cs : List Value) (n : Nat) (y : DataW H × List MemPlace), cs.length = k ∧ DataW.trod enc P w base spare held n e cs = some y ∧ ∀ j, j < k → w.cell? (a.add (i * k + j)) = cs[j]? := by
      intro i hil
      obtain ⟨cs', hc, ht'⟩ := hi i (by omega)
      rw [hC] at hc
      obtain ⟨_, hcl, hat⟩ := World.cells?_some hc
      refine ⟨cs', n, _, hcl, ht', fun j hj => ?_⟩
      rw [← add_add_plain]
      exact hat j hj
    obtain ⟨cs0, _, _, hl0, _, hc0⟩ := main 0 hpl
    obtain ⟨v0, hv0⟩ : ∃ v, cs0[0]? = some v := ⟨_, List.getElem?_eq_getElem (by omega)⟩
    have hc00 := (hc0 0 hpos).trans hv0
    have hsp : a.spot = none := by
      have := World.cell?_spot hc00
      simpa [Addr.add] using this
    obtain ⟨b, off, sp⟩ := a
    simp only at hsp
    subst hsp
    have hbl : b < w.heap.size := by
      rcases Nat.lt_or_ge b w.heap.size with hlt | hge
      · exact hlt
      · have hp := addr_plain hc00
        rw [hp] at hc00
        simp [World.cell?, Array.getElem?_eq_none hge] at hc00
    refine ⟨b, off, rfl, hbl, fun i hil => ?_⟩
    obtain ⟨cs, n2, y, h1, h2, h3⟩ := main i hil
    refine ⟨cs, n2, y, h1, h2, fun j hj => ?_⟩
    have h4 := h3 j hj
    obtain ⟨v, hv⟩ : ∃ v, cs[j]? = some v := ⟨_, List.getElem?_eq_getElem (by omega)⟩
    rw [hv] at h4
    have hp := addr_plain h4
    rw [hp] at h4
    rw [h4, hv]
end
end Go.Proofs.Ytkiifafocmjfkaa

/- How deeds on a queue that came in are opened. -/
namespace Go.Proofs.Ytkiifafocmjfkaa
open Go.RowKit Go.Lib Go.ChangeShapes Go.WideShapes Go.ChangeAt Go.Deep
set_option linter.unusedVariables false
set_option maxRecDepth 8000

structure Qu.Dd where
  dd : Int
  it : Qu.It
  st : Int
  n : Int
def Qu.DdC (w : World) (b o : Nat) (x : Qu.Dd) : Prop := w.cell? ⟨b, o, none⟩ = some (.int .i64 x.dd) ∧ w.cell? ⟨b, o + 1, none⟩ = some (.int .i64 x.it.k) ∧ w.cell? ⟨b, o + 2, none⟩ = some (.int .u8 x.it.wh) ∧ w.cell? ⟨b, o + 3, none⟩ = some (.int .u8 x.it.st) ∧ w.cell? ⟨b, o + 4, none⟩ = some (.int .i64 x.it.ad) ∧ w.cell? ⟨b, o + 5, none⟩ = some (.int .i64 x.it.ln) ∧ w.cell? ⟨b, o + 6, none⟩ = some (.int .i64 x.it.ar) ∧ w.cell? ⟨b, o + 7, none⟩ = some (.bool x.it.bad) ∧ w.cell? ⟨b, o + 8, none⟩ = some (.int .i64 x.st) ∧ w.cell? ⟨b, o + 9, none⟩ = some (.int .i64 x.n)
/-- Deeds that came in. -/
def Qu.DdP (w : World) (A : Option Addr) (len : Nat) (d : Nat → Qu.Dd) : Prop := 0 < len → ∃ b off, A = some ⟨b, off, none⟩ ∧ b < w.heap.size ∧ ∀ i, i < len → Qu.DdC w b (off + i * 10) (d i)
theorem Qu.DdC.below {w w' : World} {b o : Nat} {x : Qu.Dd} (h : Qu.DdC w b o x) (hg : b < w.heap.size) (hb : Below w.heap.size w w') : Qu.DdC w' b o x := by
  obtain ⟨h0, h1, h2, h3, h4, h5, h6, h7, h8, h9⟩ := h
  exact ⟨(hb.cell (p := ⟨b, _, none⟩) hg).trans h0, (hb.cell (p := ⟨b, _, none⟩) hg).trans h1, (hb.cell (p := ⟨b, _, none⟩) hg).trans h2, (hb.cell (p := ⟨b, _, none⟩) hg).trans h3, (hb.cell (p := ⟨b, _, none⟩) hg).trans h4, (hb.cell (p := ⟨b, _, none⟩) hg).trans h5, (hb.cell (p := ⟨b, _, none⟩) hg).trans h6, (hb.cell (p := ⟨b, _, none⟩) hg).trans h7, (hb.cell (p := ⟨b, _, none⟩) hg).trans h8, (hb.cell (p := ⟨b, _, none⟩) hg).trans h9⟩
theorem Qu.DdP.below {w w' : World} {A : Option Addr} {len : Nat} {d : Nat → Qu.Dd} (h : Qu.DdP w A len d) (hb : Below w.heap.size w w') : Qu.DdP w' A len d := fun hp => by
  obtain ⟨b, off, e, hg, hc⟩ := h hp
  exact ⟨b, off, e, Nat.lt_of_lt_of_le hg hb.size, fun i hi => (hc i hi).below hg hb⟩
theorem Qu.DdP.grown {w w' : World} {A : Option Addr} {len : Nat} {d : Nat → Qu.Dd} (h : Qu.DdP w A len d) (g : w.grownBy w' none) : Qu.DdP w' A len d := h.below (below_of_only g (Nat.le_refl _) (fun k hk => by cases hk))
theorem Qu.cut5 {cs : List Value} (h : cs.length = 5) : ∃ c0 c1 c2 c3 c4, cs = [c0, c1, c2, c3, c4] := by
  match cs, h with
  | [c0, c1, c2, c3, c4], _ => exact ⟨c0, c1, c2, c3, c4, rfl⟩
theorem Qu.cut10 {cs : List Value} (h : cs.length = 10) : ∃ c0 c1 c2 c3 c4 c5 c6 c7 c8 c9, cs = [c0, c1, c2, c3, c4, c5, c6, c7, c8, c9] := by
  match cs, h with
  | [c0, c1, c2, c3, c4, c5, c6, c7, c8, c9], _ => exact ⟨c0, c1, c2, c3, c4, c5, c6, c7, c8, c9, rfl⟩
section
variable {H : Type} {enc : TypeId × Value → H} {w : World} {base : Nat} {spare : Nat → Bool} {held : Bool} {fuel : Nat}
theorem Qu.open_desc {c0 c1 c2 c3 c4 : Value} {x : DataW H × List MemPlace} (hf : DataW.trod enc Try.prog w base spare held fuel 33 [c0, c1, c2, c3, c4] = some x) :
    ∃ wh st ad ln ar : Int, c0 = .int .u8 wh ∧ c1 = .int .u8 st ∧ c2 = .int .i64 ad ∧ c3 = .int .i64 ln ∧ c4 = .int .i64 ar := by
  obtain ⟨xs, n, _, _, _, hlen, hfld⟩ := DataW.trod_struct Try.underlying33 hf
  have hxl : xs.length = 5 := hlen
  have h0 := hfld 0 _ rfl
  have h1 := hfld 1 _ rfl
  have h2 := hfld 2 _ rfl
  have h3 := hfld 3 _ rfl
  have h4 := hfld 4 _ rfl
  rw [List.getElem?_eq_getElem (show 0 < xs.length by omega)] at h0
  rw [List.getElem?_eq_getElem (show 1 < xs.length by omega)] at h1
  rw [List.getElem?_eq_getElem (show 2 < xs.length by omega)] at h2
  rw [List.getElem?_eq_getElem (show 3 < xs.length by omega)] at h3
  rw [List.getElem?_eq_getElem (show 4 < xs.length by omega)] at h4
  have g0 : DataW.trod enc Try.prog w base spare held n 31 [c0] = some xs[0] := h0
  have g1 : DataW.trod enc Try.prog w base spare held n 5 [c1] = some xs[1] := h1
  have g2 : DataW.trod enc Try.prog w base spare held n 3 [c2] = some xs[2] := h2
  have g3 : DataW.trod enc Try.prog w base spare held n 3 [c3] = some xs[3] := h3
  have g4 : DataW.trod enc Try.prog w base spare held n 3 [c4] = some xs[4] := h4
  obtain ⟨p0, e0, _, _⟩ := DataW.trod_int Try.underlying31 g0
  obtain ⟨p1, e1, _, _⟩ := DataW.trod_int Try.underlying5 g1
  obtain ⟨p2, e2, _, _⟩ := DataW.trod_int Try.underlying3 g2
  obtain ⟨p3, e3, _, _⟩ := DataW.trod_int Try.underlying3 g3
  obtain ⟨p4, e4, _, _⟩ := DataW.trod_int Try.underlying3 g4
  injection e0 with e0 _
  injection e1 with e1 _
  injection e2 with e2 _
  injection e3 with e3 _
  injection e4 with e4 _
  exact ⟨p0, p1, p2, p3, p4, e0, e1, e2, e3, e4⟩
theorem Qu.open_item {c0 c1 c2 c3 c4 c5 c6 : Value} {x : DataW H × List MemPlace} (hf : DataW.trod enc Try.prog w base spare held fuel 35 [c0, c1, c2, c3, c4, c5, c6] = some x) :
    ∃ I : Qu.It, c0 = .int .i64 I.k ∧ c1 = .int .u8 I.wh ∧ c2 = .int .u8 I.st ∧ c3 = .int .i64 I.ad ∧ c4 = .int .i64 I.ln ∧ c5 = .int .i64 I.ar ∧ c6 = .bool I.bad := by
  obtain ⟨xs, n, _, _, _, hlen, hfld⟩ := DataW.trod_struct Try.underlying35 hf
  have hxl : xs.length = 3 := hlen
  have h0 := hfld 0 _ rfl
  have h1 := hfld 1 _ rfl
  have h2 := hfld 2 _ rfl
  rw [List.getElem?_eq_getElem (show 0 < xs.length by omega)] at h0
  rw [List.getElem?_eq_getElem (show 1 < xs.length by omega)] at h1
  rw [List.getElem?_eq_getElem (show 2 < xs.length by omega)] at h2
  have g0 : DataW.trod enc Try.prog w base spare held n 3 [c0] = some xs[0] := h0
  have g1 : DataW.trod enc Try.prog w base spare held n 33 [c1, c2, c3, c4, c5] = some xs[1] := h1
  have g2 : DataW.trod enc Try.prog w base spare held n 4 [c6] = some xs[2] := h2
  obtain ⟨p0, e0, _, _⟩ := DataW.trod_int Try.underlying3 g0
  obtain ⟨a, b, c, d, e, q1, q2, q3, q4, q5⟩ := Qu.open_desc g1
  obtain ⟨p2, e2, _⟩ := DataW.trod_bool Try.underlying4 g2
  injection e0 with e0 _
  injection e2 with e2 _
  exact ⟨⟨p0, a, b, c, d, e, p2⟩, e0, q1, q2, q3, q4, q5, e2⟩
theorem Qu.open_deed {c0 c1 c2 c3 c4 c5 c6 c7 c8 c9 : Value} {x : DataW H × List MemPlace} (hf : DataW.trod enc Try.prog w base spare held fuel 37 [c0, c1, c2, c3, c4, c5, c6, c7, c8, c9] = some x) :
    ∃ x : Qu.Dd, c0 = .int .i64 x.dd ∧ c1 = .int .i64 x.it.k ∧ c2 = .int .u8 x.it.wh ∧ c3 = .int .u8 x.it.st ∧ c4 = .int .i64 x.it.ad ∧ c5 = .int .i64 x.it.ln ∧ c6 = .int .i64 x.it.ar ∧ c7 = .bool x.it.bad ∧ c8 = .int .i64 x.st ∧ c9 = .int .i64 x.n := by
  obtain ⟨xs, n, _, _, _, hlen, hfld⟩ := DataW.trod_struct Try.underlying37 hf
  have hxl : xs.length = 4 := hlen
  have h0 := hfld 0 _ rfl
  have h1 := hfld 1 _ rfl
  have h2 := hfld 2 _ rfl
  have h3 := hfld 3 _ rfl
  rw [List.getElem?_eq_getElem (show 0 < xs.length by omega)] at h0
  rw [List.getElem?_eq_getElem (show 1 < xs.length by omega)] at h1
  rw [List.getElem?_eq_getElem (show 2 < xs.length by omega)] at h2
  rw [List.getElem?_eq_getElem (show 3 < xs.length by omega)] at h3
  have g0 : DataW.trod enc Try.prog w base spare held n 3 [c0] = some xs[0] := h0
  have g1 : DataW.trod enc Try.prog w base spare held n 35 [c1, c2, c3, c4, c5, c6, c7] = some xs[1] := h1
  have g2 : DataW.trod enc Try.prog w base spare held n 3 [c8] = some xs[2] := h2
  have g3 : DataW.trod enc Try.prog w base spare held n 3 [c9] = some xs[3] := h3
  obtain ⟨p0, e0, _, _⟩ := DataW.trod_int Try.underlying3 g0
  obtain ⟨I, q1, q2, q3, q4, q5, q6, q7⟩ := Qu.open_item g1
  obtain ⟨p2, e2, _, _⟩ := DataW.trod_int Try.underlying3 g2
  obtain ⟨p3, e3, _, _⟩ := DataW.trod_int Try.underlying3 g3
  injection e0 with e0 _
  injection e2 with e2 _
  injection e3 with e3 _
  exact ⟨⟨p0, I, p2, p3⟩, e0, q1, q2, q3, q4, q5, q6, q7, e2, e3⟩
theorem Qu.open_dds {A : Option Addr} {len cap : Nat} {x : DataW H × List MemPlace}
    (h : DataW.trod enc Try.prog w base spare held fuel 22 [.slice A len cap] = some x) : len ≤ cap ∧ cap ≤ 9223372036854775807 ∧ ∃ d, Qu.DdP w A len d ∧ ∀ i, i < len → True := by
  obtain ⟨h1, h2, h3, h4⟩ := open_wide (k := 10) Try.underlying22 (by kernel_rfl) (by decide) h
  refine ⟨h1, by unfold maxLen at h2; omega, ?_⟩
  by_cases hp : 0 < len
  · obtain ⟨b, off, hA, hb, hc⟩ := h4 hp
    have hx : ∀ i, ∃ r : Qu.Dd, i < len → Qu.DdC w b (off + i * 10) r := by
      intro i
      by_cases hi : i < len
      · obtain ⟨cs, n, y, hcl, ht, hcell⟩ := hc i hi
        obtain ⟨c0, c1, c2, c3, c4, c5, c6, c7, c8, c9, rfl⟩ := Qu.cut10 hcl
        obtain ⟨x, e0, e1, e2, e3, e4, e5, e6, e7, e8, e9⟩ := Qu.open_deed ht
        subst e0 e1 e2 e3 e4 e5 e6 e7 e8 e9
        exact ⟨x, fun _ => ⟨hcell 0 (by omega), hcell 1 (by omega), hcell 2 (by omega), hcell 3 (by omega), hcell 4 (by omega), hcell 5 (by omega), hcell 6 (by omega), hcell 7 (by omega), hcell 8 (by omega), hcell 9 (by omega)⟩⟩
      · exact ⟨⟨0, Qu.z, 0, 0⟩, fun h => absurd h hi⟩
    exact ⟨fun i => Classical.choose (hx i), fun _ => ⟨b, off, hA, hb, fun i hi => Classical.choose_spec (hx i) hi⟩, fun _ _ => trivial⟩
  · exact ⟨fun _ => ⟨0, Qu.z, 0, 0⟩, fun h => absurd h hp, fun _ _ => trivial⟩
end
end Go.Proofs.Ytkiifafocmjfkaa

/- What a queue tells is the document's. -/
namespace Go.Proofs.Ytkiifafocmjfkaa
open Go.RowKit Go.Lib Go.Sort
set_option linter.unusedVariables false
set_option maxRecDepth 8000

theorem Qu.bel {w W : World} (g : w.grownBy W none) : Below w.heap.size w W := below_of_only g (Nat.le_refl _) (fun k hk => by cases hk)
theorem Qu.calls_bel {f : FuncId} {a : Array Value} {w : World} {v : Value} (h : Calls Try.prog f a w fun e w' => e = .returned v ∧ w.grownBy w' none) : Calls Try.prog f a w fun e w' => e = .returned v ∧ Below w.heap.size w w' := h.mono fun _ _ hh => ⟨hh.1, Qu.bel hh.2⟩
theorem Qu.regr (w : World) (d : Nat) (os : Array Obj) : w.grownBy (grow (redrawn w d) os) none := Qu.grow_of (below_regrown w d os)
theorem Qu.told_any {w : World} {q bw bd lim : Nat} {vw vd : Value} {L : List Qu.It} {D : List Qu.Cl} {A A2 : Option Addr} {c c2 : Nat} (h : Qu.Qv w q bw bd vw vd L D lim) (hd : Qu.Dr w (.slice A L.length c) (.slice A2 D.length c2) L D) : Calls Try.prog 9 #[.pointer (some ⟨q, 0, none⟩), .agg #[.slice A L.length c, .slice A2 D.length c2, .int .i64 lim]] w fun e w' => e = .returned (.bool true) ∧ w.grownBy w' none := by
  have g1 : w.grownBy (w.alloc (.cells #[.slice A L.length c, .slice A2 D.length c2, .int .i64 lim] 27)) none := only_alloc (only_refl _ none) _
  have hb := Blk.new w 27 #[.slice A L.length c, .slice A2 D.length c2, .int .i64 lim]
  obtain ⟨W, hW⟩ : ∃ W, W = w.alloc (.cells #[.slice A L.length c, .slice A2 D.length c2, .int .i64 lim] 27) := ⟨_, rfl⟩
  rw [← hW] at g1 hb
  have h1 := h.grown g1
  have hd1 := hd.grown g1
  have hsm := h.sm
  have hl6 := h.l16
  have HWT := Lib.hid (fun (d : Nat) (os : Array Obj) => (Qu.waits_any (h1.grown (Qu.regr W d os))).mono fun e w' (hh : _ ∧ _) => (⟨hh.1, hh.2 ▸ Below.refl _ _⟩ : e = .returned (.int .i64 L.length) ∧ Below (grow (redrawn W d) os).heap.size (grow (redrawn W d) os) w'))
  have HLN := Lib.hid (fun (d : Nat) (os : Array Obj) => Qu.calls_bel (Qu.len_any (h1.grown (Qu.regr W d os))))
  have HBL := Lib.hid (fun (d : Nat) (os : Array Obj) => Qu.calls_bel (Qu.backlog_any _ q bw bd lim vw vd L D (h1.grown (Qu.regr W d os))))
  have HRB := Lib.hid (fun (d : Nat) (os : Array Obj) => Qu.calls_bel (Qu.rbacklog_any A A2 c c2 lim L D _ (hd1.grown (Qu.regr W d os)) (by omega)))
  obtain ⟨n, hn⟩ : ∃ n, L.length = n := ⟨_, rfl⟩
  obtain ⟨n2, hn2⟩ : ∃ n2, D.length = n2 := ⟨_, rfl⟩
  obtain ⟨z, hz⟩ : ∃ z, Qu.cnt L = z := ⟨_, rfl⟩
  rw [hn] at HWT
  rw [hn, hn2] at HLN
  rw [hz] at HBL
  rw [hn, hn2, hz] at HRB
  rw [hn, hn2] at hW hb
  rw [hn, hn2]
  have c0 : W.cell? ⟨w.heap.size, 0, none⟩ = some (.slice A n c) := hb.cell 0
  have c1 : W.cell? ⟨w.heap.size, 1, none⟩ = some (.slice A2 n2 c2) := hb.cell 1
  have c2' : W.cell? ⟨w.heap.size, 2, none⟩ = some (.int .i64 lim) := hb.cell 2
  have r0 := fun d os => cell_regrown c0 d os
  have r1 := fun d os => cell_regrown c1 d os
  have r2 := fun d os => cell_regrown c2' d os
  have u1 : IntKind.i64.wrap ((n : Int) + (n2 : Int)) = (n : Int) + (n2 : Int) := by rw [IntKind.wrap_i64]; omega
  have G1 := Lib.hid g1
  clear h hd h1 hd1 hb g1 c0 c1 c2' hsm hl6 hn hn2 hz
  go_enter Try.func9, Try.ntmps9
  go_upto_region 1 with (fail)
  rw [← hW]
  clear hW
  refine wp_region_quiet_below (by kernel_rfl) (by kernel_rfl) ?_
  repeat (quiet_step ((first
    | (go_at_call 18; with_reducible exact Calls.regrown_of (HWT.out _ _))
    | (go_at_call 16; with_reducible exact Calls.regrown_of (HLN.out _ _))
    | (go_at_call 19; with_reducible exact Calls.regrown_of (HBL.out _ _))
    | (go_at_call 26; with_reducible exact Calls.regrown_of (HRB.out _ _)))))
  refine wpQuiet_nil ?_
  rintro _ ⟨⟨dq, osq⟩, rfl⟩
  go_wp2
  go_ret
  exact ⟨by first | rfl | (simp; done), only_trans G1.out (Qu.regr W dq osq)⟩
end Go.Proofs.Ytkiifafocmjfkaa

/- The law's step: its boxes; what it leaves. -/
namespace Go.Proofs.Ytkiifafocmjfkaa
open Go.RowKit Go.Lib
set_option linter.unusedVariables false
set_option maxRecDepth 8000

/-- The boxes of step: the document's queue, the deed, the answer. -/
structure Qu.Sb (w W : World) (v1 v2 : Value) (lim : Nat) (d : Int) (y : Qu.Dd) : Prop where
  qb : Blk W w.heap.size 27 #[v1, v2, .int .i64 lim]
  db : Blk W (w.heap.size + 1) 37 #[.int .i64 d, .int .i64 y.it.k, .int .u8 y.it.wh, .int .u8 y.it.st, .int .i64 y.it.ad, .int .i64 y.it.ln, .int .i64 y.it.ar, .bool y.it.bad, .int .i64 y.st, .int .i64 y.n]
  rb : Blk W (w.heap.size + 1 + 1) 27 #[.slice none 0 0, .slice none 0 0, .int .i64 0]
section
variable {w W W' : World} {v1 v2 : Value} {lim : Nat} {d : Int} {y : Qu.Dd}
theorem Qu.Sb.grown (h : Qu.Sb w W v1 v2 lim d y) (g : W.grownBy W' none) : Qu.Sb w W' v1 v2 lim d y := ⟨h.qb.only g (by simp), h.db.only g (by simp), h.rb.only g (by simp)⟩
theorem Qu.Sb.keeps {S : Nat → Prop} (h : Qu.Sb w W v1 v2 lim d y) (k : Keeps S W W') (hS : ∀ i, S i → i < w.heap.size ∨ w.heap.size + 1 + 1 < i) : Qu.Sb w W' v1 v2 lim d y :=
  ⟨h.qb.keeps k (fun e => by have := hS _ e; omega), h.db.keeps k (fun e => by have := hS _ e; omega), h.rb.keeps k (fun e => by have := hS _ e; omega)⟩
theorem Qu.sb_new (w : World) (v1 v2 : Value) (lim : Nat) (d : Int) (y : Qu.Dd) : ∃ W, W = ((w.alloc (.cells #[v1, v2, .int .i64 lim] 27)).alloc (.cells #[.int .i64 d, .int .i64 y.it.k, .int .u8 y.it.wh, .int .u8 y.it.st, .int .i64 y.it.ad, .int .i64 y.it.ln, .int .i64 y.it.ar, .bool y.it.bad, .int .i64 y.st, .int .i64 y.n] 37)).alloc (.cells #[.slice none 0 0, .slice none 0 0, .int .i64 0] 27) ∧ Qu.Sb w W v1 v2 lim d y ∧ w.grownBy W none ∧ w.heap.size + 1 + 1 < W.heap.size := by
  refine ⟨_, rfl, ⟨((Blk.new _ _ _).alloc _).alloc _, ?_, ?_⟩, only_alloc (only_alloc (only_alloc (only_refl _ none) _) _) _, by simp⟩
  · have := (Blk.new (w.alloc (.cells #[v1, v2, .int .i64 lim] 27)) 37 #[.int .i64 d, .int .i64 y.it.k, .int .u8 y.it.wh, .int .u8 y.it.st, .int .i64 y.it.ad, .int .i64 y.it.ln, .int .i64 y.it.ar, .bool y.it.bad, .int .i64 y.st, .int .i64 y.n]).alloc (.cells #[.slice none 0 0, .slice none 0 0, .int .i64 0] 27)
    simpa using this
  · have := Blk.new ((w.alloc (.cells #[v1, v2, .int .i64 lim] 27)).alloc (.cells #[.int .i64 d, .int .i64 y.it.k, .int .u8 y.it.wh, .int .u8 y.it.st, .int .i64 y.it.ad, .int .i64 y.it.ln, .int .i64 y.it.ar, .bool y.it.bad, .int .i64 y.st, .int .i64 y.n] 37)) 27 #[.slice none 0 0, .slice none 0 0, .int .i64 0]
    simpa using this
theorem Qu.cells3 {b : Nat} {t : TypeId} {x0 x1 x2 : Value} (h : Blk W b t #[x0, x1, x2]) : (W.cell? ⟨b, 0, none⟩ = some x0 ∧ W.cell? ⟨b, 1, none⟩ = some x1 ∧ W.cell? ⟨b, 2, none⟩ = some x2) ∧ W.frozen? ⟨b, 0, none⟩ = false ∧ W.frozen? ⟨b, 1, none⟩ = false ∧ W.frozen? ⟨b, 2, none⟩ = false := ⟨⟨h.cell 0, h.cell 1, h.cell 2⟩, h.free 0, h.free 1, h.free 2⟩
theorem Qu.cells10 {b : Nat} (h : Blk W b 37 #[.int .i64 d, .int .i64 y.it.k, .int .u8 y.it.wh, .int .u8 y.it.st, .int .i64 y.it.ad, .int .i64 y.it.ln, .int .i64 y.it.ar, .bool y.it.bad, .int .i64 y.st, .int .i64 y.n]) : W.cell? ⟨b, 0, none⟩ = some (.int .i64 d) ∧ W.cell? ⟨b, 1, none⟩ = some (.int .i64 y.it.k) ∧ W.cell? ⟨b, 2, none⟩ = some (.int .u8 y.it.wh) ∧ W.cell? ⟨b, 3, none⟩ = some (.int .u8 y.it.st) ∧ W.cell? ⟨b, 4, none⟩ = some (.int .i64 y.it.ad) ∧ W.cell? ⟨b, 5, none⟩ = some (.int .i64 y.it.ln) ∧ W.cell? ⟨b, 6, none⟩ = some (.int .i64 y.it.ar) ∧ W.cell? ⟨b, 7, none⟩ = some (.bool y.it.bad) ∧ W.cell? ⟨b, 8, none⟩ = some (.int .i64 y.st) ∧ W.cell? ⟨b, 9, none⟩ = some (.int .i64 y.n) := ⟨h.cell 0, h.cell 1, h.cell 2, h.cell 3, h.cell 4, h.cell 5, h.cell 6, h.cell 7, h.cell 8, h.cell 9⟩
end
/-- The program's queue and the document's, side by side. -/
def Qu.Tw (w W : World) (q bw bd lim : Nat) (A : Option Addr) (n c : Nat) (A2 : Option Addr) (n2 c2 : Nat) : Prop :=
  ∃ vw vd L D, Qu.Own w W q bw bd vw vd L D lim ∧ Qu.Dr W (.slice A n c) (.slice A2 n2 c2) L D ∧ n = L.length ∧ n2 = D.length ∧ ∀ i, Qu.Do (.slice A n c) (.slice A2 n2 c2) i → ¬ Qu.Ft q bw bd vw vd i
section
variable {w W W' : World} {q bw bd lim n c n2 c2 : Nat} {A A2 : Option Addr}
theorem Qu.Tw.grown (h : Qu.Tw w W q bw bd lim A n c A2 n2 c2) (g : W.grownBy W' none) : Qu.Tw w W' q bw bd lim A n c A2 n2 c2 := by
  obtain ⟨vw, vd, L, D, h1, h2, h3, h4, h5⟩ := h
  exact ⟨vw, vd, L, D, h1.grown g, h2.grown g, h3, h4, h5⟩
theorem Qu.Tw.gr (h : Qu.Tw w W q bw bd lim A n c A2 n2 c2) : w.grownBy W none := by
  obtain ⟨vw, vd, L, D, h1, h2, h3, h4, h5⟩ := h
  exact h1.gr
end
/-- The same, and what of the world before is as1 it was. -/
def Qu.Twf (B : World) (x1 x2 p1 p2 : Value) (w W : World) (q bw bd lim : Nat) (A : Option Addr) (n c : Nat) (A2 : Option Addr) (n2 c2 : Nat) : Prop :=
  ∃ vw vd L D, Qu.Own w W q bw bd vw vd L D lim ∧ Qu.Dr W (.slice A n c) (.slice A2 n2 c2) L D ∧ n = L.length ∧ n2 = D.length ∧ (∀ i, Qu.Do (.slice A n c) (.slice A2 n2 c2) i → ¬ Qu.Ft q bw bd vw vd i) ∧ Keeps (Qu.Ft q bw bd x1 x2) B W ∧ (∀ i, Qu.Ft q bw bd vw vd i → Qu.Ft q bw bd x1 x2 i ∨ B.heap.size ≤ i) ∧ ∀ i, Qu.Do (.slice A n c) (.slice A2 n2 c2) i → Qu.Do p1 p2 i ∨ B.heap.size ≤ i
/-- What the document's call leaves beside the program's queue, and then the program's. -/
structure Qu.Mid (B : World) (p1 p2 : Value) (w W : World) (q bw bd : Nat) (vw vd : Value) (L : List Qu.It) (D : List Qu.Cl) (lim : Nat) (u1 u2 : Value) (L' : List Qu.It) (D' : List Qu.Cl) : Prop where
  ow : Qu.Own w W q bw bd vw vd L D lim
  dr : Qu.Dr W u1 u2 L' D'
  ap : ∀ i, Qu.Do u1 u2 i → ¬ Qu.Ft q bw bd vw vd i
  fr : B.grownBy W none
  df : ∀ i, Qu.Do u1 u2 i → Qu.Do p1 p2 i ∨ B.heap.size ≤ i
section
variable {B w W W' : World} {q bw bd lim : Nat} {p1 p2 vw vd u1 u2 : Value} {L L' : List Qu.It} {D D' : List Qu.Cl}
theorem Qu.Mid.grown (h : Qu.Mid B p1 p2 w W q bw bd vw vd L D lim u1 u2 L' D') (g : W.grownBy W' none) : Qu.Mid B p1 p2 w W' q bw bd vw vd L D lim u1 u2 L' D' := ⟨h.ow.grown g, h.dr.grown g, h.ap, only_trans h.fr g, h.df⟩
/-- The program's call, behind the document's, and then a box that is written. -/
theorem Qu.Mid.both2 {A A2 : Option Addr} {n c n2 c2 b : Nat} {W'' : World} (h : Qu.Mid B p1 p2 w W q bw bd vw vd L D lim (.slice A n c) (.slice A2 n2 c2) L' D') (hn : n = L'.length) (hn2 : n2 = D'.length) (k : Qu.Nx w W q bw bd vw vd W' L' D' lim) (g : W'.grownBy W'' (some b)) (hb : b < W.heap.size) (hnf : ¬ Qu.Ft q bw bd vw vd b) (ho : ¬ Qu.Do (.slice A n c) (.slice A2 n2 c2) b) (hw : w.heap.size ≤ b) (hB : B.heap.size ≤ b := by omega) : Qu.Twf B vw vd p1 p2 w W'' q bw bd lim A n c A2 n2 c2 := by
  obtain ⟨vw', vd', k1, k2, k3⟩ := k
  have kp := Keeps.of_only g (S := fun i => i = b) (fun i e => by injection e with e; exact e.symm)
  have n1 : ¬ Qu.Ft q bw bd vw' vd' b := fun e => (k3 b e).elim hnf (fun e => by omega)
  have s1 := h.fr.size
  have s2 := k2.size
  have kb : Keeps (Qu.Ft q bw bd vw vd) B W'' := by
    have q1 := (Keeps.of_only h.fr (S := Qu.Ft q bw bd vw vd) (by simp)).trans k2
    exact ⟨kp.1.trans q1.1, kp.2.1.trans q1.2.1, kp.2.2.1.trans q1.2.2.1, Nat.le_trans q1.2.2.2.1 kp.2.2.2.1, fun i hi hn => (kp.2.2.2.2 i (by omega) (by omega)).trans (q1.2.2.2.2 i hi hn)⟩
  exact ⟨vw', vd', L', D', k1.keeps kp (fun i hi e => n1 (e ▸ hi)) (fun i hi e => by omega), (h.dr.keeps k2 (fun i hi => h.ap i hi)).keeps kp (fun i hi e => ho (e ▸ hi)), hn, hn2, fun i hi e => (k3 i e).elim (h.ap i hi) (fun e => by have := h.dr.lt i hi; omega),
    kb, fun i hi => (k3 i hi).elim .inl (fun e => .inr (by omega)), h.df⟩
/-- The document's call, ahead of the program's. -/
theorem Qu.Mid.first {v1 v2 : Value} {mk : Value → Value} {e : Ending} (ho : Qu.Own w W q bw bd vw vd L D lim) (ha : ∀ i, Qu.Do v1 v2 i → ¬ Qu.Ft q bw bd vw vd i) (h : Qu.DV W v1 v2 L' D' lim mk e W') (hB : B.grownBy W none) : ∃ A n c A2 n2 c2, e = .returned (mk (.agg #[.slice A n c, .slice A2 n2 c2, .int .i64 lim])) ∧ Qu.Mid B v1 v2 w W' q bw bd vw vd L D lim (.slice A n c) (.slice A2 n2 c2) L' D' ∧ n = L'.length ∧ n2 = D'.length ∧ W.grownBy W' none ∧ ∀ i, Qu.Do (.slice A n c) (.slice A2 n2 c2) i → Qu.Do v1 v2 i ∨ W.heap.size ≤ i := by
  obtain ⟨A, c, A2, c2, h1, h2, h3, h4⟩ := h
  have s1 := hB.size
  exact ⟨A, _, c, A2, _, c2, h1, ⟨ho.grown h3, h2, fun i hi e => (h4 i hi).elim (fun q => ha i q e) (fun q => by have := ho.lt i e; omega), only_trans hB h3, fun i hi => (h4 i hi).elim .inl (fun e => .inr (by omega))⟩, rfl, rfl, h3, h4⟩
end
/-- What step leaves. -/
def Qu.StepV (B : World) (x1 x2 p1 p2 : Value) (w : World) (q bw bd lim : Nat) (e : Ending) (W' : World) : Prop := ∃ A n c A2 n2 c2, e = .returned (.tuple #[.agg #[.slice A n c, .slice A2 n2 c2, .int .i64 lim], .bool true]) ∧ Qu.Twf B x1 x2 p1 p2 w W' q bw bd lim A n c A2 n2 c2
end Go.Proofs.Ytkiifafocmjfkaa
