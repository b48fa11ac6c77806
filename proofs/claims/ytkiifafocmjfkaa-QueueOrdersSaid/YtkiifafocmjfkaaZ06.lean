import Derived.Test.YtkiifafocmjfkaaZ01
import Derived.Test.YtkiifafocmjfkaaZ05
import Derived.LoopTactic
import Derived.BigQuiet
import Derived.ShutString
import Derived.ChangeOld
import Derived.Lib.SmallJoins
set_option linter.all false
/- How deeds on a queue that came in are opened. -/
namespace Go.Proofs.Ytkiifafocmjfkaa
open Go.RowKit Go.Lib Go.ChangeShapes Go.WideShapes Go.ChangeAt Go.Deep
set_option linter.unusedVariables false
set_option maxRecDepth 8000

structure Qu.Dd where
  dd : Int
  it : Qu.It
  st : Int
  n : Int
def Qu.DdC (w : World) (b o : Nat) (x : Qu.Dd) : Prop := w.cell? ⟨b, o, none⟩ = some (.int .i64 x.dd) ∧ w.cell? ⟨b, o + 1, none⟩ = some (.int .i64 x.it.k) ∧ w.cell? ⟨b, o + 2, none⟩ = some (.int .u8 x.it.wh) ∧ w.cell? ⟨b, o + 3, none⟩ = some (.int .u8 x.it.st) ∧ w.cell? ⟨b, o + 4, none⟩ = some (.int .i64 x.it.ad) ∧ w.cell? ⟨b, o + 5, none⟩ = some (.int .i64 x.it.ln) ∧ w.cell? ⟨b, o + 6, none⟩ = some (.int .i64 x.it.ar) ∧ w.cell? ⟨b, o + 7, none⟩ = some (.bool x.it.bad) ∧ w.cell? ⟨b, o + 8, none⟩ = some (.int .i64 x.st) ∧ w.cell? ⟨b, o + 9, none⟩ = some (.int .i64 x.n)
/-- Deeds that came in. -/
def Qu.DdP (w : World) (A : Option Addr) (len : Nat) (d : Nat → Qu.Dd) : Prop := 0 < len → ∃ b off, A = some ⟨b, off, none⟩ ∧ b < w.heap.size ∧ ∀ i, i < len → Qu.DdC w b (off + i * 10) (d i)
theorem Qu.DdC.below {w w' : World} {b o : Nat} {x : Qu.Dd} (h : Qu.DdC w b o x) (hg : b < w.heap.size) (hb : Below w.heap.size w w') : Qu.DdC w' b o x := by
  obtain ⟨h0, h1, h2, h3, h4, h5, h6, h7, h8, h9⟩ := h
  exact ⟨(hb.cell (p := ⟨b, _, none⟩) hg).trans h0, (hb.cell (p := ⟨b, _, none⟩) hg).trans h1, (hb.cell (p := ⟨b, _, none⟩) hg).trans h2, (hb.cell (p := ⟨b, _, none⟩) hg).trans h3, (hb.cell (p := ⟨b, _, none⟩) hg).trans h4, (hb.cell (p := ⟨b, _, none⟩) hg).trans h5, (hb.cell (p := ⟨b, _, none⟩) hg).trans h6, (hb.cell (p := ⟨b, _, none⟩) hg).trans h7, (hb.cell (p := ⟨b, _, none⟩) hg).trans h8, (hb.cell (p := ⟨b, _, none⟩) hg).trans h9⟩
theorem Qu.DdP.below {w w' : World} {A : Option Addr} {len : Nat} {d : Nat → Qu.Dd} (h : Qu.DdP w A len d) (hb : Below w.heap.size w w') : Qu.DdP w' A len d := fun hp => by
  obtain ⟨b, off, e, hg, hc⟩ := h hp
  exact ⟨b, off, e, Nat.lt_of_lt_of_le hg hb.size, fun i hi => (hc i hi).below hg hb⟩
theorem Qu.DdP.grown {w w' : World} {A : Option Addr} {len : Nat} {d : Nat → Qu.Dd} (h : Qu.DdP w A len d) (g : w.grownBy w' none) : Qu.DdP w' A len d := h.below (below_of_only g (Nat.le_refl _) (fun k hk => by cases hk))
theorem Qu.cut5 {cs : List Value} (h : cs.length = 5) : ∃ c0 c1 c2 c3 c4, cs = [c0, c1, c2, c3, c4] := by
  match cs, h with
  | [c0, c1, c2, c3, c4], _ => exact ⟨c0, c1, c2, c3, c4, rfl⟩
theorem Qu.cut10 {cs : List Value} (h : cs.length = 10) : ∃ c0 c1 c2 c3 c4 c5 c6 c7 c8 c9, cs = [c0, c1, c2, c3, c4, c5, c6, c7, c8, c9] := by
  match cs, h with
  | [c0, c1, c2, c3, c4, c5, c6, c7, c8, c9], _ => exact ⟨c0, c1, c2, c3, c4, c5, c6, c7, c8, c9, rfl⟩
section
variable {H : Type} {enc : TypeId × Value → H} {w : World} {base : Nat} {spare : Nat → Bool} {held : Bool} {fuel : Nat}
theorem Qu.open_desc {c0 c1 c2 c3 c4 : Value} {x : DataW H × List MemPlace} (hf : DataW.trod enc Try.prog w base spare held fuel 33 [c0, c1, c2, c3, c4] = some x) :
    ∃ wh st ad ln ar : Int, c0 = .int .u8 wh ∧ c1 = .int .u8 st ∧ c2 = .int .i64 ad ∧ c3 = .int .i64 ln ∧ c4 = .int .i64 ar := by
  obtain ⟨xs, n, _, _, _, hlen, hfld⟩ := DataW.trod_struct Try.underlying33 hf
  have hxl : xs.length = 5 := hlen
  have h0 := hfld 0 _ rfl
  have h1 := hfld 1 _ rfl
  have h2 := hfld 2 _ rfl
  have h3 := hfld 3 _ rfl
  have h4 := hfld 4 _ rfl
  rw [List.getElem?_eq_getElem (show 0 < xs.length by omega)] at h0
  rw [List.getElem?_eq_getElem (show 1 < xs.length by omega)] at h1
  rw [List.getElem?_eq_getElem (show 2 < xs.length by omega)] at h2
  rw [List.getElem?_eq_getElem (show 3 < xs.length by omega)] at h3
  rw [List.getElem?_eq_getElem (show 4 < xs.length by omega)] at h4
  have g0 : DataW.trod enc Try.prog w base spare held n 31 [c0] = some xs[0] := h0
  have g1 : DataW.trod enc Try.prog w base spare held n 5 [c1] = some xs[1] := h1
  have g2 : DataW.trod enc Try.prog w base spare held n 3 [c2] = some xs[2] := h2
  have g3 : DataW.trod enc Try.prog w base spare held n 3 [c3] = some xs[3] := h3
  have g4 : DataW.trod enc Try.prog w base spare held n 3 [c4] = some xs[4] := h4
  obtain ⟨p0, e0, _, _⟩ := DataW.trod_int Try.underlying31 g0
  obtain ⟨p1, e1, _, _⟩ := DataW.trod_int Try.underlying5 g1
  obtain ⟨p2, e2, _, _⟩ := DataW.trod_int Try.underlying3 g2
  obtain ⟨p3, e3, _, _⟩ := DataW.trod_int Try.underlying3 g3
  obtain ⟨p4, e4, _, _⟩ := DataW.trod_int Try.underlying3 g4
  injection e0 with e0 _
  injection e1 with e1 _
  injection e2 with e2 _
  injection e3 with e3 _
  injection e4 with e4 _
  exact ⟨p0, p1, p2, p3, p4, e0, e1, e2, e3, e4⟩
theorem Qu.open_item {c0 c1 c2 c3 c4 c5 c6 : Value} {x : DataW H × List MemPlace} (hf : DataW.trod enc Try.prog w base spare held fuel 35 [c0, c1, c2, c3, c4, c5, c6] = some x) :
    ∃ I : Qu.It, c0 = .int .i64 I.k ∧ c1 = .int .u8 I.wh ∧ c2 = .int .u8 I.st ∧ c3 = .int .i64 I.ad ∧ c4 = .int .i64 I.ln ∧ c5 = .int .i64 I.ar ∧ c6 = .bool I.bad := by
  obtain ⟨xs, n, _, _, _, hlen, hfld⟩ := DataW.trod_struct Try.underlying35 hf
  have hxl : xs.length = 3 := hlen
  have h0 := hfld 0 _ rfl
  have h1 := hfld 1 _ rfl
  have h2 := hfld 2 _ rfl
  rw [List.getElem?_eq_getElem (show 0 < xs.length by omega)] at h0
  rw [List.getElem?_eq_getElem (show 1 < xs.length by omega)] at h1
  rw [List.getElem?_eq_getElem (show 2 < xs.length by omega)] at h2
  have g0 : DataW.trod enc Try.prog w base spare held n 3 [c0] = some xs[0] := h0
  have g1 : DataW.trod enc Try.prog w base spare held n 33 [c1, c2, c3, c4, c5] = some xs[1] := h1
  have g2 : DataW.trod enc Try.prog w base spare held n 4 [c6] = some xs[2] := h2
  obtain ⟨p0, e0, _, _⟩ := DataW.trod_int Try.underlying3 g0
  obtain ⟨a, b, c, d, e, q1, q2, q3, q4, q5⟩ := Qu.open_desc g1
  obtain ⟨p2, e2, _⟩ := DataW.trod_bool Try.underlying4 g2
  injection e0 with e0 _
  injection e2 with e2 _
  exact ⟨⟨p0, a, b, c, d, e, p2⟩, e0, q1, q2, q3, q4, q5, e2⟩
theorem Qu.open_deed {c0 c1 c2 c3 c4 c5 c6 c7 c8 c9 : Value} {x : DataW H × List MemPlace} (hf : DataW.trod enc Try.prog w base spare held fuel 37 [c0, c1, c2, c3, c4, c5, c6, c7, c8, c9] = some x) :
    ∃ x : Qu.Dd, c0 = .int .i64 x.dd ∧ c1 = .int .i64 x.it.k ∧ c2 = .int .u8 x.it.wh ∧ c3 = .int .u8 x.it.st ∧ c4 = .int .i64 x.it.ad ∧ c5 = .int .i64 x.it.ln ∧ c6 = .int .i64 x.it.ar ∧ c7 = .bool x.it.bad ∧ c8 = .int .i64 x.st ∧ c9 = .int .i64 x.n := by
  obtain ⟨xs, n, _, _, _, hlen, hfld⟩ := DataW.trod_struct Try.underlying37 hf
  have hxl : xs.length = 4 := hlen
  have h0 := hfld 0 _ rfl
  have h1 := hfld 1 _ rfl
  have h2 := hfld 2 _ rfl
  have h3 := hfld 3 _ rfl
  rw [List.getElem?_eq_getElem (show 0 < xs.length by omega)] at h0
  rw [List.getElem?_eq_getElem (show 1 < xs.length by omega)] at h1
  rw [List.getElem?_eq_getElem (show 2 < xs.length by omega)] at h2
  rw [List.getElem?_eq_getElem (show 3 < xs.length by omega)] at h3
  have g0 : DataW.trod enc Try.prog w base spare held n 3 [c0] = some xs[0] := h0
  have g1 : DataW.trod enc Try.prog w base spare held n 35 [c1, c2, c3, c4, c5, c6, c7] = some xs[1] := h1
  have g2 : DataW.trod enc Try.prog w base spare held n 3 [c8] = some xs[2] := h2
  have g3 : DataW.trod enc Try.prog w base spare held n 3 [c9] = some xs[3] := h3
  obtain ⟨p0, e0, _, _⟩ := DataW.trod_int Try.underlying3 g0
  obtain ⟨I, q1, q2, q3, q4, q5, q6, q7⟩ := Qu.open_item g1
  obtain ⟨p2, e2, _, _⟩ := DataW.trod_int Try.underlying3 g2
  obtain ⟨p3, e3, _, _⟩ := DataW.trod_int Try.underlying3 g3
  injection e0 with e0 _
  injection e2 with e2 _
  injection e3 with e3 _
  exact ⟨⟨p0, I, p2, p3⟩, e0, q1, q2, q3, q4, q5, q6, q7, e2, e3⟩
theorem Qu.open_dds {A : Option Addr} {len cap : Nat} {x : DataW H × List MemPlace}
    (h : DataW.trod enc Try.prog w base spare held fuel 22 [.slice A len cap] = some x) : len ≤ cap ∧ cap ≤ 9223372036854775807 ∧ ∃ d, Qu.DdP w A len d ∧ ∀ i, i < len → True := by
  obtain ⟨h1, h2, h3, h4⟩ := open_wide (k := 10) Try.underlying22 (by kernel_rfl) (by decide) h
  refine ⟨h1, by unfold maxLen at h2; omega, ?_⟩
  by_cases hp : 0 < len
  · obtain ⟨b, off, hA, hb, hc⟩ := h4 hp
    have hx : ∀ i, ∃ r : Qu.Dd, i < len → Qu.DdC w b (off + i * 10) r := by
      intro i
      by_cases hi : i < len
      · obtain ⟨cs, n, y, hcl, ht, hcell⟩ := hc i hi
        obtain ⟨c0, c1, c2, c3, c4, c5, c6, c7, c8, c9, rfl⟩ := Qu.cut10 hcl
        obtain ⟨x, e0, e1, e2, e3, e4, e5, e6, e7, e8, e9⟩ := Qu.open_deed ht
        subst e0 e1 e2 e3 e4 e5 e6 e7 e8 e9
        exact ⟨x, fun _ => ⟨hcell 0 (by omega), hcell 1 (by omega), hcell 2 (by omega), hcell 3 (by omega), hcell 4 (by omega), hcell 5 (by omega), hcell 6 (by omega), hcell 7 (by omega), hcell 8 (by omega), hcell 9 (by omega)⟩⟩
      · exact ⟨⟨0, Qu.z, 0, 0⟩, fun h => absurd h hi⟩
    exact ⟨fun i => Classical.choose (hx i), fun _ => ⟨b, off, hA, hb, fun i hi => Classical.choose_spec (hx i) hi⟩, fun _ _ => trivial⟩
  · exact ⟨fun _ => ⟨0, Qu.z, 0, 0⟩, fun h => absurd h hp, fun _ _ => trivial⟩
end
end Go.Proofs.Ytkiifafocmjfkaa

/- QueueOrders: what holds between two deeds. -/
namespace Go.Proofs.Ytkiifafocmjfkaa
open Go.RowKit Go.Lib Go.Shelf
set_option linter.unusedVariables false
set_option maxRecDepth 8000

def Qu.two (c : Qu.Cl) : Bool := c.st == 2
/-- po were posted, fi finished; pb: whether each that was put is wrong. -/
structure Qu.Inv (po fi : Nat) (pb : List Bool) (L : List Qu.It) (D : List Qu.Cl) : Prop where
  le : po ≤ pb.length
  fl : pb.drop po = D.map Qu.two ++ L.map (·.bad)
  nm : ∀ (j : Nat) (k : Int), (D.map (·.it.k) ++ L.map (·.k))[j]? = some k → k = ((po + j : Nat) : Int)
  ct : fi = (pb.take po).count false + (D.map Qu.two).count false
section
variable {po fi : Nat} {pb : List Bool} {L : List Qu.It} {D : List Qu.Cl}
theorem Qu.Inv.start : Qu.Inv 0 0 [] [] [] := ⟨Nat.le_refl _, rfl, by simp, rfl⟩
theorem Qu.Inv.len (h : Qu.Inv po fi pb L D) : po + (D.length + L.length) = pb.length := by
  have := congrArg List.length h.fl
  have hl := h.le
  simp at this
  omega
theorem Qu.Inv.put (h : Qu.Inv po fi pb L D) (x : Qu.It) (hx : x.k = (pb.length : Int)) : Qu.Inv po fi (pb ++ [x.bad]) (L ++ [x]) D := by
  have hl := h.len
  refine ⟨by have := h.le; simp; omega, ?_, fun j k hk => ?_, ?_⟩
  · rw [List.drop_append_of_le_length h.le, h.fl]
    simp
  · rw [List.map_append, ← List.append_assoc] at hk
    by_cases hj : j < (D.map (·.it.k) ++ L.map (·.k)).length
    · rw [List.getElem?_append_left hj] at hk
      exact h.nm j k hk
    · rw [List.getElem?_append_right (by omega)] at hk
      have hj2 := (List.getElem?_eq_some_iff.1 hk).1
      simp at hj hj2 hk
      have hj3 : j = D.length + L.length := by omega
      subst hj3
      simp at hk
      rw [← hk, hx]
      omega
  · rw [List.take_append_of_le_length h.le]
    exact h.ct
theorem Qu.wr_two (l : List Qu.It) : (l.map Qu.wr).map Qu.two = l.map fun _ => true := by
  rw [List.map_map]
  exact List.map_congr_left fun x _ => rfl
theorem Qu.lead_all : ∀ (L : List Qu.It), ∀ x ∈ L.takeWhile (·.bad), x.bad = true
  | [], x, hx => by simp at hx
  | y :: l, x, hx => by
    rw [List.takeWhile_cons] at hx
    split at hx
    · rename_i hy
      rcases List.mem_cons.1 hx with rfl | hx
      · exact hy
      · exact Qu.lead_all l x hx
    · simp at hx
theorem Qu.dropWhile_head : ∀ {L : List Qu.It} {x : Qu.It} {l : List Qu.It}, L.dropWhile (·.bad) = x :: l → x.bad = false
  | [], x, l, h => by simp at h
  | y :: l', x, l, h => by
    rw [List.dropWhile_cons] at h
    split at h
    · exact Qu.dropWhile_head h
    · rename_i hy
      injection h with h _
      subst h
      simpa using hy
theorem Qu.lead_bad (L : List Qu.It) : ((L.takeWhile (·.bad)).map fun _ => true) = (L.takeWhile (·.bad)).map (·.bad) := by
  refine List.map_congr_left fun x hx => ?_
  exact (Qu.lead_all L x hx).symm
theorem Qu.Inv.settle (h : Qu.Inv po fi pb L D) : Qu.Inv po fi pb (L.dropWhile (·.bad)) (D ++ (L.takeWhile (·.bad)).map Qu.wr) := by
  have hs : L.takeWhile (·.bad) ++ L.dropWhile (·.bad) = L := List.takeWhile_append_dropWhile
  refine ⟨h.le, ?_, fun j k hk => h.nm j k ?_, ?_⟩
  · rw [h.fl, List.map_append, Qu.wr_two, Qu.lead_bad, List.append_assoc, ← List.map_append, hs]
  · rw [← hk]
    have e1 : ((L.takeWhile (·.bad)).map Qu.wr).map (·.it.k) = (L.takeWhile (·.bad)).map (·.k) := by
      rw [List.map_map]; exact List.map_congr_left fun x _ => rfl
    rw [List.map_append, e1, List.append_assoc, ← List.map_append, hs]
  · rw [List.map_append, Qu.wr_two, List.count_append, h.ct]
    have : ((L.takeWhile (·.bad)).map fun _ => true).count false = 0 := by
      rw [List.count_eq_zero]
      intro hm
      simp at hm
    omega
theorem Qu.Inv.fin {x : Qu.It} {l : List Qu.It} (h : Qu.Inv po fi pb (x :: l) D) (hx : x.bad = false) (n : Int) : Qu.Inv po (fi + 1) pb l (D ++ [⟨x, 1, n⟩]) := by
  have e2 : Qu.two ⟨x, 1, n⟩ = false := rfl
  refine ⟨h.le, ?_, fun j k hk => h.nm j k ?_, ?_⟩
  · rw [h.fl]
    simp [hx, e2]
  · rw [← hk]
    simp
  · rw [List.map_append, List.count_append, h.ct]
    simp [e2]
    omega
theorem Qu.Inv.post (h : Qu.Inv po fi pb L D) : Qu.Inv (po + D.length) fi pb L [] := by
  have hl := h.len
  have e1 : pb.drop (po + D.length) = L.map (·.bad) := by
    rw [← List.drop_drop, h.fl]
    simp
  refine ⟨by omega, by simpa using e1, fun j k hk => ?_, ?_⟩
  · have := h.nm (D.length + j) k (by
      rw [List.getElem?_append_right (by simp)]
      simpa using hk)
    rw [this]
    omega
  · have e2 : pb.take (po + D.length) = pb.take po ++ D.map Qu.two := by
      rw [List.take_add, h.fl]
      congr 1
      rw [List.take_append_of_le_length (by simp)]
      exact List.take_of_length_le (by simp)
    rw [e2, List.count_append, h.ct]
    simp
theorem Qu.Inv.at (h : Qu.Inv po fi pb L D) {k : Nat} {c : Qu.Cl} (hk : D[k]? = some c) : c.it.k = ((po + k : Nat) : Int) ∧ pb[po + k]? = some (c.st == 2) := by
  have hlt := (List.getElem?_eq_some_iff.1 hk).1
  constructor
  · refine h.nm k _ ?_
    rw [List.getElem?_append_left (by simpa using hlt)]
    simp [hk]
  · have : (pb.drop po)[k]? = some (c.st == 2) := by
      rw [h.fl, List.getElem?_append_left (by simpa using hlt)]
      simp [hk, Qu.two]
    simpa using this
end
/-- The queue, and the row of what was put, between two deeds. -/
def Qu.St (w W : World) (q bw bd lim po fi : Nat) (A : Option Addr) (c n : Nat) (pb : List Bool) : Prop :=
  ∃ vw vd L D, Qu.Own w W q bw bd vw vd L D lim ∧ RowQ W (.slice A n c) (pb.map .bool) ∧ (∀ i, (Value.slice A n c).ownBlock = some i → w.heap.size ≤ i ∧ ¬ Qu.Ft q bw bd vw vd i) ∧ Qu.Inv po fi pb L D ∧ n = pb.length
/-- The same with one more that was put, which is not in the row yet. -/
def Qu.StP (w W : World) (q bw bd lim po fi : Nat) (A : Option Addr) (c n : Nat) (pb : List Bool) (b : Bool) : Prop :=
  ∃ vw vd L D, Qu.Own w W q bw bd vw vd L D lim ∧ RowQ W (.slice A n c) (pb.map .bool) ∧ (∀ i, (Value.slice A n c).ownBlock = some i → w.heap.size ≤ i ∧ ¬ Qu.Ft q bw bd vw vd i) ∧ Qu.Inv po fi (pb ++ [b]) L D ∧ n = pb.length
section
variable {w W W' : World} {q bw bd lim po fi : Nat} {A : Option Addr} {c n : Nat} {pb : List Bool}
theorem Qu.St.grown (h : Qu.St w W q bw bd lim po fi A c n pb) (g : W.grownBy W' none) : Qu.St w W' q bw bd lim po fi A c n pb := by
  obtain ⟨vw, vd, L, D, h1, h2, h3, h4, h5⟩ := h
  exact ⟨vw, vd, L, D, h1.grown g, h2.keeps (S := fun _ => False) (Keeps.of_only g (by simp)) (fun _ _ h => h), h3, h4, h5⟩
theorem Qu.St.gr (h : Qu.St w W q bw bd lim po fi A c n pb) : w.grownBy W none := by
  obtain ⟨vw, vd, L, D, h1, _⟩ := h
  exact h1.gr
theorem Qu.row_q {vw vd vw' vd' : Value} {v : Value} {l : List Value} (hr : RowQ W v l) (ha : ∀ i, v.ownBlock = some i → w.heap.size ≤ i ∧ ¬ Qu.Ft q bw bd vw vd i) (hk : Keeps (Qu.Ft q bw bd vw vd) W W') (hf : ∀ i, Qu.Ft q bw bd vw' vd' i → Qu.Ft q bw bd vw vd i ∨ W.heap.size ≤ i) :
    RowQ W' v l ∧ ∀ i, v.ownBlock = some i → w.heap.size ≤ i ∧ ¬ Qu.Ft q bw bd vw' vd' i :=
  ⟨hr.keeps hk (fun i hi => (ha i hi).2), fun i hi => ⟨(ha i hi).1, fun hn => (hf i hn).elim (ha i hi).2 (fun e => by have := hr.lt i hi; omega)⟩⟩
theorem Qu.low_keeps {vw vd : Value} {wr : World} (hlt : ∀ i, Qu.Ft q bw bd vw vd i → i < wr.heap.size) (hk : Keeps (Qu.Ft q bw bd vw vd) W W') : Keeps (fun i => i < wr.heap.size) W W' := hk.mono fun i _ hi => hlt i hi
theorem Qu.St.put {wr : World} (h : Qu.St w wr q bw bd lim po fi A c n pb) (g : wr.grownBy W none) (x : Qu.It) (hx : x.k = (n : Int)) :
    (Calls Try.prog 11 #[.pointer (some ⟨q, 0, none⟩), .agg #[.int .i64 x.k, .int .u8 x.wh, .int .u8 x.st, .int .i64 x.ad, .int .i64 x.ln, .int .i64 x.ar, .bool x.bad]] W fun e W' => e = .returned (.bool true) ∧ Qu.StP w W' q bw bd lim po fi A c n pb x.bad ∧ Keeps (fun i => i < wr.heap.size) W W') ∨
    (Calls Try.prog 11 #[.pointer (some ⟨q, 0, none⟩), .agg #[.int .i64 x.k, .int .u8 x.wh, .int .u8 x.st, .int .i64 x.ad, .int .i64 x.ln, .int .i64 x.ar, .bool x.bad]] W fun e W' => e = .returned (.bool false) ∧ Qu.St w W' q bw bd lim po fi A c n pb) := by
  obtain ⟨vw, vd, L, D, h1, h2, h3, h4, h5⟩ := h
  have h2' := h2.keeps (S := fun _ => False) (Keeps.of_only g (by simp)) (fun _ _ h => h)
  by_cases hl : L.length + D.length < lim
  · refine .inl (((h1.grown g).put x).mono fun e W' hh => ?_)
    rw [if_pos hl] at hh
    obtain ⟨he, vw', vd', k1, k2, k3⟩ := hh
    obtain ⟨r1, r2⟩ := Qu.row_q h2' h3 k2 k3
    exact ⟨he, ⟨vw', vd', _, _, k1, r1, r2, h4.put x (by rw [hx, h5]), h5⟩, Qu.low_keeps h1.lt k2⟩
  · refine .inr (((h1.grown g).put x).mono fun e W' hh => ?_)
    rw [if_neg hl] at hh
    obtain ⟨he, vw', vd', k1, k2, k3⟩ := hh
    obtain ⟨r1, r2⟩ := Qu.row_q h2' h3 k2 k3
    exact ⟨he, vw', vd', _, _, k1, r1, r2, h4, h5⟩
theorem Qu.St.settle {wr : World} (h : Qu.St w wr q bw bd lim po fi A c n pb) (g : wr.grownBy W none) : Calls Try.prog 12 #[.pointer (some ⟨q, 0, none⟩)] W fun e W' => (∃ z : Int, e = .returned (.int .i64 z)) ∧ Qu.St w W' q bw bd lim po fi A c n pb := by
  obtain ⟨vw, vd, L, D, h1, h2, h3, h4, h5⟩ := h
  refine (h1.grown g).settle.mono fun e W' hh => ?_
  obtain ⟨he, vw', vd', k1, k2, k3⟩ := hh
  obtain ⟨r1, r2⟩ := Qu.row_q (h2.keeps (S := fun _ => False) (Keeps.of_only g (by simp)) (fun _ _ h => h)) h3 k2 k3
  exact ⟨⟨_, he⟩, vw', vd', _, _, k1, r1, r2, h4.settle, h5⟩
theorem Qu.St.head {wr : World} (h : Qu.St w wr q bw bd lim po fi A c n pb) (g : wr.grownBy W none) : Calls Try.prog 13 #[.pointer (some ⟨q, 0, none⟩)] W fun e W' => (∃ v, e = .returned v) ∧ Qu.St w W' q bw bd lim po fi A c n pb := by
  obtain ⟨vw, vd, L, D, h1, h2, h3, h4, h5⟩ := h
  refine (h1.grown g).head.mono fun e W' hh => ?_
  obtain ⟨he, vw', vd', k1, k2, k3⟩ := hh
  obtain ⟨r1, r2⟩ := Qu.row_q (h2.keeps (S := fun _ => False) (Keeps.of_only g (by simp)) (fun _ _ h => h)) h3 k2 k3
  exact ⟨⟨_, he⟩, vw', vd', _, _, k1, r1, r2, h4.settle, h5⟩
theorem Qu.St.finish {wr : World} (h : Qu.St w wr q bw bd lim po fi A c n pb) (g : wr.grownBy W none) (z : Int) :
    (Calls Try.prog 14 #[.pointer (some ⟨q, 0, none⟩), .int .i64 1, .int .i64 z] W fun e W' => e = .returned (.int .i64 0) ∧ Qu.St w W' q bw bd lim po (fi + 1) A c n pb) ∨
    (Calls Try.prog 14 #[.pointer (some ⟨q, 0, none⟩), .int .i64 1, .int .i64 z] W fun e W' => e = .returned (.int .i64 9) ∧ Qu.St w W' q bw bd lim po fi A c n pb) := by
  obtain ⟨vw, vd, L, D, h1, h2, h3, h4, h5⟩ := h
  have hs := h4.settle
  cases hL : L.dropWhile (·.bad) with
  | nil =>
    refine .inr (((h1.grown g).finish 1 z).mono fun e W' hh => ?_)
    obtain ⟨he, vw', vd', k1, k2, k3⟩ := hh
    obtain ⟨r1, r2⟩ := Qu.row_q (h2.keeps (S := fun _ => False) (Keeps.of_only g (by simp)) (fun _ _ h => h)) h3 k2 k3
    rw [hL] at he k1 hs
    exact ⟨by rw [he, if_pos rfl], vw', vd', _, _, k1, r1, r2, by simpa [Qu.fin] using hs, h5⟩
  | cons x l =>
    refine .inl (((h1.grown g).finish 1 z).mono fun e W' hh => ?_)
    obtain ⟨he, vw', vd', k1, k2, k3⟩ := hh
    obtain ⟨r1, r2⟩ := Qu.row_q (h2.keeps (S := fun _ => False) (Keeps.of_only g (by simp)) (fun _ _ h => h)) h3 k2 k3
    rw [hL] at he k1 hs
    exact ⟨by rw [he, if_neg (by simp)], vw', vd', _, _, k1, r1, r2, hs.fin (Qu.dropWhile_head hL) z, h5⟩
/-- What Post leaves. -/
def Qu.PostV (w : World) (q bw bd lim po fi : Nat) (A : Option Addr) (c n : Nat) (pb : List Bool) (e : Ending) (W' : World) : Prop :=
  ∃ (D : List Qu.Cl) (A3 : Option Addr) (c3 : Nat), e = .returned (.slice A3 D.length c3) ∧ D.length ≤ 16 ∧ RowZ 9 W' (.slice A3 D.length c3) D.length (Fc.L D) ∧ Qu.St w W' q bw bd lim (po + D.length) fi A c n pb ∧ ∀ (k : Nat) (x : Qu.Cl), D[k]? = some x → x.it.k = ((po + k : Nat) : Int) ∧ pb[po + k]? = some (x.st == 2)
theorem Qu.St.post {wr : World} (h : Qu.St w wr q bw bd lim po fi A c n pb) (g : wr.grownBy W none) : Calls Try.prog 15 #[.pointer (some ⟨q, 0, none⟩)] W (Qu.PostV w q bw bd lim po fi A c n pb) := by
  obtain ⟨vw, vd, L, D, h1, h2, h3, h4, h5⟩ := h
  refine (h1.grown g).post.mono fun e W' hh => ?_
  obtain ⟨out, he, ho, hq, vw', vd', k1, k2, k3⟩ := hh
  obtain ⟨r1, r2⟩ := Qu.row_q (h2.keeps (S := fun _ => False) (Keeps.of_only g (by simp)) (fun _ _ h => h)) h3 k2 k3
  obtain ⟨A3, c3, rfl⟩ := ho.form
  have hs := h4.settle
  refine ⟨_, A3, c3, he, ?_, ho, ⟨vw', vd', _, _, k1, r1, r2, hs.post, h5⟩, fun k x hk => hs.at hk⟩
  have e1 : (L.takeWhile (·.bad)).length ≤ L.length := by
    have := congrArg List.length (List.takeWhile_append_dropWhile (p := fun x : Qu.It => x.bad) (l := L))
    rw [List.length_append] at this
    omega
  have := h1.qv.sm
  have := h1.qv.l16
  simp
  omega
theorem Qu.St.len (h : Qu.St w W q bw bd lim po fi A c n pb) : Calls Try.prog 16 #[.pointer (some ⟨q, 0, none⟩)] W fun e W' => e = .returned (.int .i64 ((n : Int) - (po : Int))) ∧ W.grownBy W' none := by
  obtain ⟨vw, vd, L, D, h1, h2, h3, h4, h5⟩ := h
  refine h1.len.mono fun e W' hh => ⟨?_, hh.2⟩
  have := h4.len
  rw [hh.1]
  congr 2
  omega
theorem Qu.St.facts (h : Qu.St w W q bw bd lim po fi A c n pb) : po ≤ n ∧ (pb.take po).count false ≤ fi ∧ n = pb.length := by
  obtain ⟨vw, vd, L, D, h1, h2, h3, h4, h5⟩ := h
  have := h4.le
  have := h4.ct
  exact ⟨by omega, by omega, h5⟩
theorem Qu.bool_info : (Try.prog.info? 4).map (fun i => (i.zero, i.size, i.bytes)) = some (some (.bool false), 1, 1) := by kernel_rfl
/-- One more in the row. -/
theorem Qu.StP.push {b : Bool} (h : Qu.StP w W q bw bd lim po fi A c n pb b) (hn : n ≤ 1000) : ∃ A2 c2 W4, (Builtin.append_ #[41, 41] 41 #[.slice A n c, .slice (some ⟨W.heap.size, 0, none⟩) 1 1]).run Try.prog (W.alloc (.cells #[.bool b] 4)) = .ok (.slice A2 (n + 1) c2) W4 ∧ Qu.St w W4 q bw bd lim po fi A2 c2 (n + 1) (pb ++ [b]) := by
  obtain ⟨vw, vd, L, D, h1, h2, h3, h4, h5⟩ := h
  obtain ⟨i0, hi0, hz0, hz1, hz2⟩ := info_parts Qu.bool_info
  have hsrc : Src Try.prog 1 41 (.slice (some ⟨W.heap.size, 0, none⟩) 1 1) 1 [.bool b] (W.alloc (.cells #[.bool b] 4)) := Src.ofSlice _ Try.underlying41 _ _ _ _ rfl (by
    intro j u hj
    rw [addr_at, (Blk.new W 4 #[.bool b]).cell, Nat.zero_add]
    simpa using hj) (by simp [Value.oneCell'])
  have g1 : W.grownBy (W.alloc (.cells #[.bool b] 4)) none := only_alloc (only_refl _ none) _
  have hrow := h2.alloc (.cells #[.bool b] 4)
  obtain ⟨v', W4, hk, hr, hg, ho, A2, c2, rfl⟩ := run_push (P := Try.prog) _ 41 4 41 i0 _ 1 Try.underlying41 hi0 hz0 hz1 hz2 (by omega) rfl _ _ hrow (fun u hu => by obtain ⟨x, _, rfl⟩ := List.mem_map.1 hu; rfl) _ (.bool b) hsrc (by simp; omega)
  have e5 : (pb.map Value.bool).length = n := by simp [h5]
  rw [e5] at hk hr ho
  have kp : Keeps (fun i => (Value.slice A n c).ownBlock = some i) (W.alloc (.cells #[.bool b] 4)) W4 := Keeps.of_only hg (fun k hk => hk)
  refine ⟨A2, c2, W4, hk, vw, vd, L, D, (h1.grown g1).keeps kp (fun i hi e => (h3 i e).2 hi) (fun i hi e => by have := (h3 i e).1; omega), by simpa using hr, fun i hi => ?_, h4, by simp [h5]⟩
  rcases ho with ho | ho
  · rw [ho] at hi
    exact h3 i hi
  · rw [ho] at hi
    injection hi with hi
    simp at hi
    have := h1.gr.size
    exact ⟨by omega, fun e => by have := h1.lt _ e; omega⟩
theorem Qu.cl_cells {A3 : Option Addr} {c3 m : Nat} {D : List Qu.Cl} (h : RowZ 9 W (.slice A3 m c3) m (Fc.L D)) (hm : m = D.length) {i : Nat} {x : Qu.Cl} (hx : D[i]? = some x) : ∃ g off, A3 = some ⟨g, off, none⟩ ∧ m ≤ c3 ∧ W.cell? ⟨g, off + i * 9, none⟩ = some (.int .i64 x.it.k) ∧ W.cell? ⟨g, off + i * 9 + 7, none⟩ = some (.int .i64 x.st) := by
  have hi := (List.getElem?_eq_some_iff.1 hx).1
  have hxe := (List.getElem?_eq_some_iff.1 hx).2
  rcases h.2 with ⟨e, hz⟩ | ⟨g, off, cap, e, k1, k2, k3, k4, k5⟩
  · omega
  · injection e with e1 e2 e3
    refine ⟨g, off, e1, by omega, k5 (i * 9) _ (by have := Fc.L_get D hi (j := 0) (by omega); rw [hxe] at this; exact this), ?_⟩
    rw [Nat.add_assoc]
    exact k5 (i * 9 + 7) _ (by have := Fc.L_get D hi (j := 7) (by omega); rw [hxe] at this; exact this)
/-- The row's cells. -/
theorem Qu.St.cell (h : Qu.St w W q bw bd lim po fi A c n pb) {i : Nat} (hi : i < n) : ∃ b off, A = some ⟨b, off, none⟩ ∧ ∀ u, pb[i]? = some u → W.cell? ⟨b, off + i, none⟩ = some (.bool u) := by
  obtain ⟨vw, vd, L, D, h1, h2, h3, h4, h5⟩ := h
  rcases h2 with ⟨e, hz⟩ | ⟨g, off, cap, e, k1, k2, k3, k4, k5⟩
  · simp at hz
    rw [hz] at h5
    simp at h5
    omega
  · injection e with e1 e2 e3
    refine ⟨g, off, e1, fun u hu => ?_⟩
    have := k5 i (by simp; omega)
    rw [this]
    have hl : i < pb.length := by omega
    rw [List.getElem?_eq_getElem hl] at hu
    injection hu with hu
    simp [hu]
end
end Go.Proofs.Ytkiifafocmjfkaa

/- QueueOrders walked. -/
namespace Go.Proofs.Ytkiifafocmjfkaa
open Go.RowKit Go.Lib Go.Shelf
set_option linter.unusedVariables false
set_option maxRecDepth 8000

theorem Qu.below {w W : World} (g : w.grownBy W none) : Below w.heap.size w W := below_of_only g (Nat.le_refl _) (fun k hk => by cases hk)
theorem Qu.St.start {w W : World} {q bw bd lim : Nat} (h : Qu.Own w W q bw bd (.slice none 0 0) (.slice none 0 0) [] [] lim) : Qu.St w W q bw bd lim 0 0 none 0 0 [] :=
  ⟨_, _, _, _, h, .inl ⟨rfl, rfl⟩, fun i hi => by simp [Value.ownBlock] at hi, Qu.Inv.start, rfl⟩
theorem Qu.cf_succ {pb : List Bool} {i : Nat} {b : Bool} (h : pb[i]? = some b) : (pb.take (i + 1)).count false = (pb.take i).count false + (if b then 0 else 1) := by
  rw [List.take_add_one, h]
  cases b <;> simp
set_option maxRecDepth 20000 in
set_option maxHeartbeats 6400000 in
theorem Qu.orders_walk (limit : Int) (A : Option Addr) (k c : Nat) (d : Nat → Qu.Dd) (w : World) (hd : Qu.DdP w A k d) (hk : k ≤ c) (hc : c ≤ 9223372036854775807) : Calls Try.prog 4 #[.int .i64 limit, .slice A k c] w fun e w' => e = .returned (.bool true) ∧ Below w.heap.size w w' := by
  have HN := Lib.hid (Qu.new_any limit w)
  obtain ⟨lim, hlim⟩ : ∃ lim, limQ (min limit 16) = lim := ⟨_, rfl⟩
  rw [hlim] at HN
  have HD := Lib.hid hd
  have HKC := Lib.hid hk
  clear hd hlim hk
  go_enter Try.func4, Try.ntmps4
  go_wp2_with (go_at_call 6; (with_reducible refine HN.out.mono ?_); rintro e w1 hh; obtain ⟨q, bw, bd, rfl, ho⟩ := hh.own; have O1 := Lib.hid (Qu.St.start ho); clear hh ho)
  go_loopw [6, 7, 8, 9] (fun p po fi y wr => ∃ (j np nf n c2 : Nat) (A2 : Option Addr) (pb : List Bool), p = .slice A2 n c2 ∧ po = .int .i64 np ∧ fi = .int .i64 nf ∧ y = .int .i64 j ∧ j ≤ 80 ∧ Hid (j ≤ k ∧ n ≤ j ∧ nf ≤ j) ∧ Hid (Qu.St w wr q bw bd lim np nf A2 c2 n pb)) (fun _ _ _ y _ => 80 - (intOf y).toNat)
  case atStart => exact ⟨0, 0, 0, 0, 0, none, [], rfl, rfl, rfl, rfl, by omega, Lib.hid ⟨Nat.zero_le _, Nat.zero_le _, Nat.zero_le _⟩, O1⟩
  case round =>
    obtain ⟨j, np, nf, n, c2, A2, pb, rfl, rfl, rfl, rfl, hj8, HB, HS⟩ := hrel
    clear O1
    by_cases hin : j < k ∧ j < 80
    case neg =>
      have key : (¬ (j : Int) < (k : Int)) ∨ ((j : Int) < (k : Int) ∧ ¬ (j : Int) < 80) := by omega
      clear hin
      rcases key with i1 | ⟨i1, i2⟩
      all_goals
        go_upto_region 29 with (fail)
        go_loopw [13, 14] (fun x y wz => ∃ i : Nat, x = .int .i64 ((pb.take i).count false : Nat) ∧ y = .int .i64 i ∧ i ≤ 80 ∧ Hid (i ≤ np) ∧ wz = wr) (fun _ y _ => 80 - (intOf y).toNat)
        case atStart => exact ⟨0, rfl, rfl, by omega, Lib.hid (Nat.zero_le _), rfl⟩
        case round =>
          obtain ⟨i, rfl, rfl, hi8, HI, rfl⟩ := hrel
          by_cases hip : i < np
          · have hnn : i < n := by have := HS.out.facts; omega
            have HN1 := Lib.hid (show i + 1 ≤ np ∧ i + 1 ≤ 80 from ⟨hip, by have := HS.out.facts; have := HB.out; omega⟩)
            obtain ⟨g, off, rfl, hcell⟩ := HS.out.cell hnn
            obtain ⟨b, hb⟩ : ∃ b, pb[i]? = some b := ⟨_, List.getElem?_eq_getElem (by have := HS.out.facts; omega)⟩
            have c0 := hcell b hb
            have HCS := Lib.hid (Qu.cf_succ hb)
            have HC8 := Lib.hid (show (pb.take i).count false ≤ 80 from by have := List.count_le_length (a := false) (l := pb.take i); simp at this; omega)
            have i3 : (i : Int) < (np : Int) := by omega
            have i4 : (i : Int) < (n : Int) := by omega
            have i5 : (0 : Int) ≤ (i : Int) := by omega
            have u1 : IntKind.i64.wrap ((i : Int) + 1) = ((i + 1 : Nat) : Int) := by rw [IntKind.wrap_i64]; omega
            clear hcell hb hip hnn
            obtain ⟨z, hz⟩ : ∃ z, (pb.take i).count false = z := ⟨_, rfl⟩
            rw [hz] at HCS HC8 ⊢
            clear hz
            have u2 : IntKind.i64.wrap ((z : Int) + 1) = ((z + 1 : Nat) : Int) := by rw [IntKind.wrap_i64]; have := HC8.out; omega
            cases b
            · go_wp2
              go_roundw
              case rel => exact ⟨i + 1, by rw [HCS.out]; go_num, by go_num, HN1.out.2, Lib.hid HN1.out.1, trivial⟩
              case measure =>
                have := HN1.out
                simp [intOf]
                omega
            · go_wp2
              go_roundw
              case rel => exact ⟨i + 1, by rw [HCS.out]; rfl, by go_num, HN1.out.2, Lib.hid HN1.out.1, trivial⟩
              case measure =>
                have := HN1.out
                simp [intOf]
                omega
          · have i3 : ¬ (i : Int) < (np : Int) := by omega
            obtain rfl : i = np := by have := HI.out; omega
            have hF := HS.out.facts
            have i5 : (((pb.take i).count false : Nat) : Int) ≤ (nf : Int) := by omega
            have i6 : IntKind.i64.wrap ((i : Int) + ((n : Int) - (i : Int))) = (n : Int) := by rw [IntKind.wrap_i64]; have := HB.out; omega
            clear hF hip
            go_wp2_with (first
              | (go_at_call 10; (with_reducible refine (Qu.live_any _).mono ?_); rintro e w3 ⟨rfl, g3⟩; have S3 := Lib.hid (HS.out.grown g3); clear g3)
              | (go_at_call 16; (with_reducible refine S3.out.len.mono ?_); rintro e w4 ⟨rfl, g4⟩; have G4 := Lib.hid (only_trans S3.out.gr g4); clear g4))
            go_ret
            exact ⟨by first | rfl | (simp; done), Qu.below G4.out⟩
    case pos =>
      obtain ⟨h1, h2⟩ := hin
      obtain ⟨g, off, rfl, hg, hcs⟩ := HD.out (by omega)
      have HC := Lib.hid (((HD.out.grown HS.out.gr) (by omega)))
      obtain ⟨g', off', e', hg', hcs'⟩ := HC.out
      obtain ⟨rfl, rfl⟩ : g = g' ∧ off = off' := by injection e' with e'; injection e' with e1 e2; exact ⟨e1, e2⟩
      obtain ⟨a0, a1, a2, a3, a4, a5, a6, a7, a8, a9⟩ := hcs' j h1
      have i1 : (j : Int) < (k : Int) := by omega
      have i2 : (j : Int) < 80 := by omega
      have i3 : (0 : Int) ≤ (j : Int) := by omega
      have u1 : IntKind.i64.wrap ((j : Int) + 1) = ((j + 1 : Nat) : Int) := by rw [IntKind.wrap_i64]; omega
      have KK := Lib.hid (show j + 1 ≤ 80 ∧ j + 1 ≤ k from ⟨by omega, by omega⟩)
      clear hg hcs hg' hcs' e' HC h1 h2
      generalize (d j).dd = dd at *
      generalize (d j).it.k = ky at *
      generalize (d j).it.wh = wh at *
      generalize (d j).it.st = st at *
      generalize (d j).it.ad = ad at *
      generalize (d j).it.ln = ln at *
      generalize (d j).it.ar = ar at *
      generalize (d j).it.bad = bad at *
      generalize (d j).st = ds at *
      generalize (d j).n = dn at *
      by_cases d0 : dd = 0
      · subst d0
        have u3 : IntKind.i64.wrap (n : Int) = (n : Int) := by rw [IntKind.wrap_i64]; have := HB.out; omega
        have g1 : wr.grownBy (wr.alloc (.cells #[.int .i64 0, .int .i64 (n : Int), .int .u8 wh, .int .u8 st, .int .i64 ad, .int .i64 ln, .int .i64 ar, .bool bad, .int .i64 ds, .int .i64 dn] 37)) none := only_alloc (only_refl _ none) _
        have HBX := Lib.hid (Blk.new wr 37 #[.int .i64 0, .int .i64 (n : Int), .int .u8 wh, .int .u8 st, .int .i64 ad, .int .i64 ln, .int .i64 ar, .bool bad, .int .i64 ds, .int .i64 dn])
        rcases HS.out.put g1 ⟨(n : Int), wh, st, ad, ln, ar, bad⟩ rfl with hput | hput
        · have HP := Lib.hid hput
          clear g1 hput
          go_upto_region 19 with (go_at_call 11; (with_reducible refine HP.out.mono ?_); rintro e w2 ⟨rfl, hst, hkp⟩)
          have hb2 := HBX.out.keeps hkp (Nat.lt_irrefl _)
          have c7 : w2.cell? ⟨wr.heap.size, 7, none⟩ = some (.bool bad) := hb2.cell 7
          obtain ⟨A4, c4, w4, hk4, hs4⟩ := hst.push (by have := HB.out; omega)
          have HK4 := Lib.hid hk4
          have HS4 := Lib.hid hs4
          clear hb2 hkp hst hk4 hs4 HP HBX
          go_wp2_with (at_builtin; refine wpList_append_eq rfl (.tmp 80) (.tmp 84) 41 rfl HK4.out rfl rfl ?_)
          go_roundw
          case rel => exact ⟨j + 1, np, nf, n + 1, c4, A4, pb ++ [bad], rfl, rfl, rfl, by go_num, KK.out.1, Lib.hid ⟨KK.out.2, by have := HB.out; omega, by have := HB.out; omega⟩, HS4⟩
          case measure =>
            have := KK.out
            simp [intOf]
            omega
        · have HP := Lib.hid hput
          clear g1 hput HBX
          go_wp2_with (go_at_call 11; (with_reducible refine HP.out.mono ?_); rintro e w2 ⟨rfl, hst⟩; have HS4 := Lib.hid hst; clear hst)
          go_roundw
          case rel => exact ⟨j + 1, np, nf, n, c2, A2, pb, rfl, rfl, rfl, by go_num, KK.out.1, Lib.hid ⟨KK.out.2, by have := HB.out; omega, by have := HB.out; omega⟩, HS4⟩
          case measure =>
            have := KK.out
            simp [intOf]
            omega
      have e0 : (dd == 0) = false := by simpa using d0
      by_cases d1 : dd = 1
      · subst d1
        have g1 : wr.grownBy (wr.alloc (.cells #[.int .i64 1, .int .i64 ky, .int .u8 wh, .int .u8 st, .int .i64 ad, .int .i64 ln, .int .i64 ar, .bool bad, .int .i64 ds, .int .i64 dn] 37)) none := only_alloc (only_refl _ none) _
        have HP := Lib.hid (HS.out.settle g1)
        clear g1
        go_wp2_with (go_at_call 12; (with_reducible refine HP.out.mono ?_); rintro e w2 ⟨⟨z, rfl⟩, hst⟩; have HS4 := Lib.hid hst; clear hst)
        go_roundw
        case rel => exact ⟨j + 1, np, nf, n, c2, A2, pb, rfl, rfl, rfl, by go_num, KK.out.1, Lib.hid ⟨KK.out.2, by have := HB.out; omega, by have := HB.out; omega⟩, HS4⟩
        case measure =>
          have := KK.out
          simp [intOf]
          omega
      have e1 : (dd == 1) = false := by simpa using d1
      by_cases d2 : dd = 2
      · subst d2
        have g1 : wr.grownBy (wr.alloc (.cells #[.int .i64 2, .int .i64 ky, .int .u8 wh, .int .u8 st, .int .i64 ad, .int .i64 ln, .int .i64 ar, .bool bad, .int .i64 ds, .int .i64 dn] 37)) none := only_alloc (only_refl _ none) _
        have HP := Lib.hid (HS.out.head g1)
        clear g1
        go_wp2_with (go_at_call 13; (with_reducible refine HP.out.mono ?_); rintro e w2 ⟨⟨z, rfl⟩, hst⟩; have HS4 := Lib.hid hst; clear hst)
        go_roundw
        case rel => exact ⟨j + 1, np, nf, n, c2, A2, pb, rfl, rfl, rfl, by go_num, KK.out.1, Lib.hid ⟨KK.out.2, by have := HB.out; omega, by have := HB.out; omega⟩, HS4⟩
        case measure =>
          have := KK.out
          simp [intOf]
          omega
      have e2 : (dd == 2) = false := by simpa using d2
      by_cases d3 : dd = 3
      · subst d3
        have g1 : wr.grownBy (wr.alloc (.cells #[.int .i64 3, .int .i64 ky, .int .u8 wh, .int .u8 st, .int .i64 ad, .int .i64 ln, .int .i64 ar, .bool bad, .int .i64 ds, .int .i64 dn] 37)) none := only_alloc (only_refl _ none) _
        have u4 : IntKind.i64.wrap ((nf : Int) + 1) = ((nf + 1 : Nat) : Int) := by rw [IntKind.wrap_i64]; have := HB.out; omega
        rcases HS.out.finish g1 (j : Int) with hput | hput
        all_goals
          have HP := Lib.hid hput
          clear g1 hput
          go_wp2_with (go_at_call 14; (with_reducible refine HP.out.mono ?_); rintro e w2 ⟨rfl, hst⟩; have HS4 := Lib.hid hst; clear hst)
        · skip
          go_roundw
          case rel => exact ⟨j + 1, np, nf + 1, n, c2, A2, pb, rfl, rfl, by go_num, by go_num, KK.out.1, Lib.hid ⟨KK.out.2, by have := HB.out; omega, by have := HB.out; omega⟩, HS4⟩
          case measure =>
            have := KK.out
            simp [intOf]
            omega
        · skip
          go_roundw
          case rel => exact ⟨j + 1, np, nf, n, c2, A2, pb, rfl, rfl, rfl, by go_num, KK.out.1, Lib.hid ⟨KK.out.2, by have := HB.out; omega, by have := HB.out; omega⟩, HS4⟩
          case measure =>
            have := KK.out
            simp [intOf]
            omega
      have e3 : (dd == 3) = false := by simpa using d3
      have g1 : wr.grownBy (wr.alloc (.cells #[.int .i64 dd, .int .i64 ky, .int .u8 wh, .int .u8 st, .int .i64 ad, .int .i64 ln, .int .i64 ar, .bool bad, .int .i64 ds, .int .i64 dn] 37)) none := only_alloc (only_refl _ none) _
      have HP := Lib.hid (HS.out.post g1)
      clear g1 d0 d1 d2 d3
      go_upto_region 11 with (go_at_call 15; (with_reducible refine HP.out.mono ?_); rintro e w2 ⟨D, A3, c3, rfl, hl, hro, hst, hat⟩)
      have HRO := Lib.hid hro
      have HST := Lib.hid hst
      have HAT := Lib.hid hat
      have HL := Lib.hid hl
      obtain ⟨m9, hm9⟩ : ∃ m9, m9 = D.length := ⟨_, rfl⟩
      rw [← hm9]
      have HM := Lib.hid hm9
      rw [← hm9] at HRO HST HL
      clear hm9 hro hst hat hl HP HS
      go_loopw [7, 12] (fun po y wz => ∃ i m : Nat, po = .int .i64 m ∧ y = .int .i64 i ∧ i ≤ 16 ∧ Hid (i ≤ m9) ∧ Hid (m = np + i) ∧ Hid (w2.grownBy wz none)) (fun _ y _ => 16 - (intOf y).toNat)
      case atStart => exact ⟨0, np, rfl, rfl, by omega, Lib.hid (Nat.zero_le _), Lib.hid rfl, Lib.hid (only_refl _ none)⟩
      case round =>
        obtain ⟨i, m, rfl, rfl, hi6, HI, HMM, HG⟩ := hrel
        by_cases him : i < m9
        · obtain ⟨x, hx⟩ : ∃ x, D[i]? = some x := ⟨_, List.getElem?_eq_getElem (by have := HM.out; omega)⟩
          have hF := HST.out.facts
          have hat := HAT.out i x hx
          rw [← HMM.out] at hat
          obtain ⟨g3, o3, rfl, hc9, b0, b7⟩ := Qu.cl_cells (HRO.out.grown HG.out) HM.out hx
          have hmn : m < n := by have := HMM.out; omega
          obtain ⟨g2, o2, rfl, hpb⟩ := (HST.out.grown HG.out).cell hmn
          have p0 := hpb _ hat.2
          rw [hat.1] at b0
          have KI := Lib.hid (show i + 1 ≤ m9 ∧ i + 1 ≤ 16 from ⟨him, by have := HL.out; omega⟩)
          have KM := Lib.hid (show m + 1 = np + (i + 1) by have := HMM.out; omega)
          have i4 : (i : Int) < (m9 : Int) := by omega
          have i5 : (0 : Int) ≤ (i : Int) := by omega
          have i6 : decide (n ≤ m) = false := by simp; omega
          have i7 : ((m : Int) != (m : Int)) = false := by simp
          have i8 : (m : Int) < (n : Int) := by omega
          have i9 : (0 : Int) ≤ (m : Int) := by omega
          have u5 : IntKind.i64.wrap ((i : Int) + 1) = ((i + 1 : Nat) : Int) := by rw [IntKind.wrap_i64]; omega
          have u6 : IntKind.i64.wrap ((m : Int) + 1) = ((m + 1 : Nat) : Int) := by rw [IntKind.wrap_i64]; have := HB.out; omega
          by_cases h2 : x.st = 2
          · rw [h2] at b7 p0
            replace p0 : wr.cell? ⟨g2, o2 + m, none⟩ = some (.bool true) := p0
            clear hx hat hF hpb hmn hc9 him h2
            go_wp2
            go_quiet (fail)
            go_wp2
            go_roundw
            case rel => exact ⟨i + 1, m + 1, by go_num, by go_num, KI.out.2, Lib.hid KI.out.1, Lib.hid KM.out, Lib.hid (only_drewN HG.out _)⟩
            case measure =>
              have := KI.out
              simp [intOf]
              omega
          · have hs2 : (x.st == 2) = false := by simpa using h2
            rw [hs2] at p0
            generalize x.st = sx at *
            clear hx hat hF hpb hmn hc9 him h2
            go_wp2
            go_quiet (fail)
            go_wp2
            go_roundw
            case rel => exact ⟨i + 1, m + 1, by go_num, by go_num, KI.out.2, Lib.hid KI.out.1, Lib.hid KM.out, Lib.hid (only_drewN HG.out _)⟩
            case measure =>
              have := KI.out
              simp [intOf]
              omega
        · have i4 : ¬ (i : Int) < (m9 : Int) := by omega
          have hmm : m = np + m9 := by have := HMM.out; have := HI.out; omega
          have HS4 := Lib.hid (HST.out.grown HG.out)
          rw [← hmm] at HS4
          clear hmm him
          go_wp2
          go_roundw
          case rel => exact ⟨j + 1, m, nf, n, c2, A2, pb, rfl, rfl, rfl, by go_num, KK.out.1, Lib.hid ⟨KK.out.2, by have := HB.out; omega, by have := HB.out; omega⟩, HS4⟩
          case measure =>
            have := KK.out
            simp [intOf]
            omega
end Go.Proofs.Ytkiifafocmjfkaa

/- QueueOrders: requests are posted in the order in which they were put, each once; one that is not wrong only behind a Finish of its own, one that is wrong without: for every limit and deeds the law returns true. -/
namespace Go.Proofs.Ytkiifafocmjfkaa
open Go.RowKit Go.Lib Go.ChangeShapes Go.WideShapes Go.ChangeAt Go.Deep Go.Joins
open Go.ChangeMaps (open_string shut_string)
set_option linter.unusedVariables false

theorem queueOrders_own : ownKnob Try.prog.godebug = none := by kernel_rfl
theorem queueOrders_laid : laidOutB Try.prog = true := by kernel_rfl
set_option maxRecDepth 100000 in
theorem queueOrders_lifted (os : Os) (started : os.Started) (H : Type) (enc : TypeId × Value → H) :
    ReturnsInHanded {} Try.checked os 4 .any (Rows.queueOrdersSpec.pre6 enc Try.prog Try.f4 Rows.queueOrdersRow.domain false) (Rows.queueOrdersSpec.post enc Try.prog Try.f4 false true false false) := by
  refine returnsInHanded_of_change (C := Try.checked) queueOrders_own started (by kernel_rfl) Try.func4
    (ChangeSpec.witness6 (enc := enc) (C := Try.checked) false ⟨#[], #[.int .i64 0, .slice none 0 0], []⟩ 8 (by kernel_rfl) (by kernel_rfl) (by kernel_rfl) (by kernel_rfl)) ?_
  intro W base args ds gs before hval0 hW hcnd _
  have hval : ∀ (j : Nat) t v, Try.f4.params[j]? = some t → args[j]? = some v → Value.okWide Try.prog W .any base t v := hval0
  have hW' := hW
  obtain ⟨p, q, hA0, hV, rfl, hfz, hnd⟩ := hW
  have hA : DataW.TrodAll enc Try.prog W 0 (fun _ => true) true Try.f4.params.toList args.toList ds p := hA0
  rw [Try.params4] at hA hval
  obtain ⟨v0, vs0, d0, ds0, p0, q0, hargs, rfl, rfl, h0, r0⟩ := trodAll_cons hA
  obtain ⟨v1, vs1, d1, ds1, p1, q1, rfl, rfl, rfl, h1, r1⟩ := trodAll_cons r0
  obtain ⟨rfl, rfl, rfl⟩ := trodAll_nil r1
  obtain rfl : args = #[v0, v1] := by cases args; simp_all
  obtain ⟨rfl, rfl⟩ := trodVars_none hV
  obtain ⟨a0, rfl, rfl, rfl, w0⟩ := open_int Try.underlying3 (hval 0 3 v0 rfl rfl) h0
  obtain ⟨A1, len1, cap1, rfl⟩ := okWide_slice Try.underlying22 (hval 1 22 v1 rfl rfl)
  have k1 := h1
  have lt1 : ∀ x ∈ p1, x.block < W.heap.size := by obtain ⟨m, hm⟩ := k1; exact DataW.trod_lt m _ _ _ hm
  obtain ⟨fuel1, hf1⟩ := h1
  obtain ⟨hlc1, hcm1, D1, hst1, hfit1⟩ := Qu.open_dds (by simpa [Value.cells] using hf1)
  clear hA0 hval0
  refine (Qu.orders_walk a0 A1 len1 cap1 D1 W hst1 hlc1 hcm1).mono fun e W' ⟨he, bel⟩ => ?_
  subst he
  exact ⟨_, rfl, _, _, _, [], _, [], hW', trodAll_mk1 (shut_bool Try.underlying4 _), (trodAll_cons_mk (shut_int Try.underlying3 w0) (trodAll_cons_mk (Below.trod queueOrders_laid (by kernel_rfl) (of_decide_eq_true (by kernel_rfl)) k1 bel lt1) trodAll_mk0)), rfl, bel.frame _, fun h => by cases h⟩

theorem queueOrders_holds : Rows.QueueOrdersSaid :=
  OpenClaim.holds_of_wide 4 Try.f4 rfl rfl rfl rfl rfl rfl rfl ⟨rfl, rfl, rfl, rfl, rfl⟩ rfl rfl rfl rfl rfl (by kernel_rfl) Try.func4 (by kernel_rfl)
    (of_decide_eq_true (by kernel_rfl)) (by unfold Func.isWrapper; first | (rw [if_pos (by decide +kernel)]; kernel_rfl) | (rw [if_neg (by decide +kernel)]; exact ⟨rfl, rfl⟩))
    (fun os started H enc _ => queueOrders_lifted os started H enc)
#print axioms queueOrders_holds
end Go.Proofs.Ytkiifafocmjfkaa
