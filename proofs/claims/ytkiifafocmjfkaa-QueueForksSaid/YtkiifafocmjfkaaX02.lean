import Derived.Test.YtkiifafocmjfkaaX01
import Derived.Deep.RegionLaw
import Derived.ProofKit
import Derived.OpenShut
import Derived.ShutString
import Derived.ChangeOld
import Derived.Deep.Slices
import Derived.Deep.Fields
import Derived.Lib.Hide
import Derived.Test.YtkiifafocmjfkaaRows
import Derived.BigQuiet
import Derived.Maps.AppendAt
import Derived.RangeFuncNested
import Derived.RangeFuncBound
import Derived.RangeFuncCalls
import Derived.RangeFuncLeaves
import Derived.RangeFuncBox
import Derived.RangeFuncFrom
import Derived.Shelf.Abstract
import Derived.Shelf.RegionOpen
import Derived.WalkKit
import Derived.OwnWalkIn
import Derived.TacticsInMore
import Derived.LoopNIn
import Derived.LoopIn
set_option linter.all false
/- A row made anew with one more at its end: what two appends do, in whatever order their rows are laid. No program is spoken of here. -/
namespace Go.Proofs.Ytkiifafocmjfkaa
open Go.RowKit Go.Lib
set_option linter.unusedVariables false

/-- append where its run is known, as1 a step of a region that draws its order. -/
theorem Zz.step_app {P : Program} {ops : Array Oper} {o : Oper} {a : Act} {W : World} {K : Act → World → Prop} {Q : Exit → Act → World → Prop} {E : Prop} (hgd : o.guard = none) (s x : Operand) (t : TypeId) (ho : o.op = .call { callee := .builtin .append, args := #[s, x], argTypes := #[t, t] })
    {v xs v' : Value} {w' : World} (hr : (Builtin.append_ #[t, t] o.type #[v, xs]).run P W = .ok v' w') (hs : a.eval s = v) (hx : a.eval x = xs) (h : K (a.put o.dst v') w') : if Region.wanted o (yielded ops a.tmps) = true then Oper.wp P o a W K Q else E := by
  have hw : Region.wanted o (yielded ops a.tmps) = true := by simp [Region.wanted, hgd]
  rw [if_pos hw]
  unfold Oper.wp execOp
  simp only [ho, resolve, invoke, builtin, Sem.run_bind, Sem.run_pure, Result.andThen_ok, List.map_toArray, List.map_cons, List.map_nil, hs, hx, hr]
  exact h

/-- What the two appends leave. -/
def Zz.Fin (s : Nat) (W : World) (n : Nat) (xs x : List Value) (v2 : Value) (W4 : World) : Prop :=
  RowZ s W4 v2 (n + 1) (xs ++ x) ∧ Below W.heap.size W W4 ∧ (∀ i, v2.ownBlock = some i → W.heap.size ≤ i) ∧ ∃ A c, v2 = .slice A (n + 1) c
section
variable {P : Program} {s : Nat} {t e ty : TypeId} {i : TypeInfo} {z : Value} {bytes : Nat}
theorem Zz.apps (ht : P.underlying t = some (.slice e)) (hi : P.info? e = some i) (hz : i.zero = some z) (hs : i.size = s) (hby : i.bytes = bytes) (hb16 : bytes ≤ 64) (hzs : z.cells.size = s)
    (W W1 : World) (b n : Nat) (v : Value) (xs x : List Value) (hb : b < W1.heap.size) (hbB : W.heap.size ≤ b) (h01 : W.grownBy W1 none) (hrow : RowZ s W v n xs) (h1 : ∀ u ∈ xs, u.oneCell' = true) (hn : n ≤ 1000) (hx : x.length = s) (hx1 : ∀ u ∈ x, u.oneCell' = true) :
    ∃ v1 W2, (Builtin.append_ #[t, t] ty #[.slice (some ⟨b, 0, none⟩) 0 0, v]).run P W1 = .ok v1 W2 ∧ (∃ A c, v1 = .slice (some A) n c) ∧ W1.grownBy W2 none ∧
      ∀ W3 g, W2.grownBy W3 none → (∀ (j : Nat) (u : Value), x[j]? = some u → W3.cell? ⟨g, j, none⟩ = some u) → ∃ v2 W4, (Builtin.append_ #[t, t] ty #[v1, .slice (some ⟨g, 0, none⟩) 1 1]).run P W3 = .ok v2 W4 ∧ Zz.Fin s W n xs x v2 W4 := by
  have hsrc := (hrow.grown h01).src (P := P) t e ht h1
  obtain ⟨v1, W2, hk, hr, hg, ho, hf⟩ := run_allZ (P := P) W1 t e ty i z bytes ht hi hz hs hby hb16 hzs b n hb v xs hsrc (by omega)
  refine ⟨v1, W2, hk, hf, hg, fun W3 g h23 hc => ?_⟩
  have hsx : Src P s t (.slice (some ⟨g, 0, none⟩) 1 1) 1 x W3 := Src.ofSlice _ ht _ _ _ _ (by omega) (by
    intro j u hj
    rw [addr_at, Nat.zero_add]
    exact hc j u hj) hx1
  obtain ⟨v2, W4, hk2, hr2, hg2, ho2⟩ := run_pushZ (P := P) W3 t e ty i z bytes ht hi hz hs hby hb16 hzs _ _ _ (hr.grown h23) h1 _ _ hsx (by omega)
  have s01 := h01.size
  have s12 := hg.size
  have s23 := h23.size
  have hv1 : ∀ i, v1.ownBlock = some i → W.heap.size ≤ i := fun i hi => by
    rcases ho with ho | ho
    · rw [ho] at hi; injection hi with hi; omega
    · rw [ho] at hi; injection hi with hi; omega
  refine ⟨v2, W4, hk2, hr2, ?_, fun i hi => ?_, hr2.form⟩
  · have b3 : Below W.heap.size W W3 := below_of_only (only_trans (only_trans h01 hg) h23) (Nat.le_refl _) (by simp)
    exact b3.trans (below_of_only hg2 (by omega) hv1)
  · rcases ho2 with ho2 | ho2
    · exact hv1 i (ho2 ▸ hi)
    · rw [ho2] at hi; injection hi with hi; omega
/-- The three orders. -/
theorem Zz.three (ht : P.underlying t = some (.slice e)) (hi : P.info? e = some i) (hz : i.zero = some z) (hs : i.size = s) (hby : i.bytes = bytes) (hb16 : bytes ≤ 64) (hzs : z.cells.size = s)
    (W : World) (n : Nat) (v : Value) (xs : List Value) (x : Array Value) (hrow : RowZ s W v n xs) (h1 : ∀ u ∈ xs, u.oneCell' = true) (hn : n ≤ 1000) (hx : x.size = s) (hx1 : ∀ u ∈ x.toList, u.oneCell' = true) :
    (∃ a c W2 b d W4, (Builtin.append_ #[t, t] ty #[.slice (some ⟨W.heap.size, 0, none⟩) 0 0, v]).run P (W.alloc (.cells #[] e)).drew = .ok (.slice (some a) n c) W2 ∧ Below W.heap.size W W2 ∧
      (Builtin.append_ #[t, t] ty #[.slice (some a) n c, .slice (some ⟨W2.heap.size, 0, none⟩) 1 1]).run P (W2.alloc (.cells x e)) = .ok (.slice b (n + 1) d) W4 ∧ Zz.Fin s W n xs x.toList (.slice b (n + 1) d) W4) ∧
    (∃ a c W2 b d W4, (Builtin.append_ #[t, t] ty #[.slice (some ⟨W.heap.size, 0, none⟩) 0 0, v]).run P ((W.alloc (.cells #[] e)).alloc (.cells x e)).drew = .ok (.slice (some a) n c) W2 ∧ Below W.heap.size W W2 ∧
      (Builtin.append_ #[t, t] ty #[.slice (some a) n c, .slice (some ⟨W.heap.size + 1, 0, none⟩) 1 1]).run P W2 = .ok (.slice b (n + 1) d) W4 ∧ Zz.Fin s W n xs x.toList (.slice b (n + 1) d) W4) ∧
    (∃ a c W2 b d W4, (Builtin.append_ #[t, t] ty #[.slice (some ⟨W.heap.size + 1, 0, none⟩) 0 0, v]).run P ((W.alloc (.cells x e)).alloc (.cells #[] e)).drew = .ok (.slice (some a) n c) W2 ∧ Below W.heap.size W W2 ∧
      (Builtin.append_ #[t, t] ty #[.slice (some a) n c, .slice (some ⟨W.heap.size, 0, none⟩) 1 1]).run P W2 = .ok (.slice b (n + 1) d) W4 ∧ Zz.Fin s W n xs x.toList (.slice b (n + 1) d) W4) := by
  have cells : ∀ (W3 : World) (g : Nat), Blk W3 g e x → ∀ (j : Nat) (u : Value), x.toList[j]? = some u → W3.cell? ⟨g, j, none⟩ = some u := fun W3 g h j u hu => by
    rw [h.cell]; simpa using hu
  have g1 : W.grownBy (W.alloc (.cells #[] e)).drew none := only_drewN (only_alloc (only_refl _ none) _) 1
  have g2 : W.grownBy ((W.alloc (.cells #[] e)).alloc (.cells x e)).drew none := only_drewN (only_alloc (only_alloc (only_refl _ none) _) _) 1
  have g3 : W.grownBy ((W.alloc (.cells x e)).alloc (.cells #[] e)).drew none := only_drewN (only_alloc (only_alloc (only_refl _ none) _) _) 1
  have bel : ∀ {W1 W2 : World}, W.grownBy W1 none → W1.grownBy W2 none → Below W.heap.size W W2 := fun a b => below_of_only (only_trans a b) (Nat.le_refl _) (by simp)
  refine ⟨?_, ?_, ?_⟩
  · obtain ⟨v1, W2, k, ⟨a, c, rfl⟩, g, nx⟩ := Zz.apps (ty := ty) ht hi hz hs hby hb16 hzs W _ W.heap.size n v xs x.toList (by simp) (Nat.le_refl _) g1 hrow h1 hn (by simpa using hx) hx1
    obtain ⟨v2, W4, k2, h⟩ := nx (W2.alloc (.cells x e)) W2.heap.size (only_alloc (only_refl _ none) _) (cells _ _ (Blk.new W2 _ _))
    obtain ⟨b, d, rfl⟩ := h.2.2.2
    exact ⟨a, c, W2, b, d, W4, k, bel g1 g, k2, h⟩
  · obtain ⟨v1, W2, k, ⟨a, c, rfl⟩, g, nx⟩ := Zz.apps (ty := ty) ht hi hz hs hby hb16 hzs W _ W.heap.size n v xs x.toList (by simp; omega) (Nat.le_refl _) g2 hrow h1 hn (by simpa using hx) hx1
    have hb : Blk ((W.alloc (.cells #[] e)).alloc (.cells x e)).drew (W.heap.size + 1) e x := by
      have := (Blk.new (W.alloc (.cells #[] e)) e x).drewN 1
      rw [show (W.alloc (.cells #[] e)).heap.size = W.heap.size + 1 by simp] at this
      exact this
    obtain ⟨v2, W4, k2, h⟩ := nx W2 (W.heap.size + 1) (only_refl _ none) (cells _ _ (hb.only g (by simp)))
    obtain ⟨b, d, rfl⟩ := h.2.2.2
    exact ⟨a, c, W2, b, d, W4, k, bel g2 g, k2, h⟩
  · obtain ⟨v1, W2, k, ⟨a, c, rfl⟩, g, nx⟩ := Zz.apps (ty := ty) ht hi hz hs hby hb16 hzs W _ (W.heap.size + 1) n v xs x.toList (by simp) (by omega) g3 hrow h1 hn (by simpa using hx) hx1
    have hb : Blk ((W.alloc (.cells x e)).alloc (.cells #[] e)).drew W.heap.size e x := ((Blk.new W e x).alloc _).drewN 1
    obtain ⟨v2, W4, k2, h⟩ := nx W2 W.heap.size (only_refl _ none) (cells _ _ (hb.only g (by simp)))
    obtain ⟨b, d, rfl⟩ := h.2.2.2
    exact ⟨a, c, W2, b, d, W4, k, bel g3 g, k2, h⟩
end
end Go.Proofs.Ytkiifafocmjfkaa

/- Requests and such as1 are done, as1 cells; rows of them. No program is spoken of here. -/
namespace Go.Proofs.Ytkiifafocmjfkaa
open Go.RowKit Go.Lib
set_option linter.unusedVariables false

structure Qu.It where
  k : Int
  wh : Int
  st : Int
  ad : Int
  ln : Int
  ar : Int
  bad : Bool
structure Qu.Cl where
  it : Qu.It
  st : Int
  n : Int
theorem Qu.zc_len (z : Array Value) (n s : Nat) (h : z.size = s) : (Builtin.zeroCells z n).toList.length = n * s := by
  rw [Array.length_toList, size_zeroCells, h]
theorem Qu.zc_one (z : Array Value) (n : Nat) (h : ∀ i, i < z.size → (z[i]!).oneCell' = true) : ∀ u ∈ (Builtin.zeroCells z n).toList, u.oneCell' = true := by
  intro u hu
  simp [Builtin.zeroCells] at hu
  obtain ⟨a, h1, rfl⟩ := hu
  have : 0 < z.size := by
    rcases Nat.eq_zero_or_pos z.size with e | e
    · rw [e] at h1; omega
    · exact e
  exact h _ (Nat.mod_lt _ this)
def Fi.C (x : Qu.It) : List Value := [.int .i64 x.k, .int .u8 x.wh, .int .u8 x.st, .int .i64 x.ad, .int .i64 x.ln, .int .i64 x.ar, .bool x.bad]
def Fi.L (l : List Qu.It) : List Value := l.flatMap Fi.C
theorem Fi.C_len (x : Qu.It) : (Fi.C x).length = 7 := rfl
theorem Fi.L_app (a b : List Qu.It) : Fi.L (a ++ b) = Fi.L a ++ Fi.L b := by simp [Fi.L]
theorem Fi.L_one (x : Qu.It) : Fi.L [x] = Fi.C x := by simp [Fi.L]
theorem Fi.L_len (l : List Qu.It) : (Fi.L l).length = l.length * 7 := by
  induction l with
  | nil => rfl
  | cons f l ih =>
    have : Fi.L (f :: l) = Fi.C f ++ Fi.L l := rfl
    rw [this, List.length_append, ih, Fi.C_len, List.length_cons, Nat.add_mul]
    omega
theorem Fi.C_cell (x : Qu.It) : ∀ u ∈ Fi.C x, u.oneCell' = true := by
  intro u hu
  simp [Fi.C] at hu
  rcases hu with rfl | rfl | rfl | rfl | rfl | rfl | rfl <;> rfl
theorem Fi.L_cell (l : List Qu.It) : ∀ u ∈ Fi.L l, u.oneCell' = true := by
  intro u hu
  simp only [Fi.L, List.mem_flatMap] at hu
  obtain ⟨f, _, hf⟩ := hu
  exact Fi.C_cell f u hf
theorem Fi.L_drop (l : List Qu.It) (k : Nat) (hk : k ≤ l.length) : (Fi.L l).drop (k * 7) = Fi.L (l.drop k) := by
  have h : Fi.L l = Fi.L (l.take k) ++ Fi.L (l.drop k) := by rw [← Fi.L_app, List.take_append_drop]
  rw [h, List.drop_left' (by rw [Fi.L_len, List.length_take, Nat.min_eq_left hk])]
theorem Fi.L_get (l : List Qu.It) {i : Nat} (hi : i < l.length) {j : Nat} (hj : j < 7) : (Fi.L l)[i * 7 + j]? = (Fi.C l[i])[j]? := by
  have h : Fi.L l = Fi.L (l.take i) ++ (Fi.C l[i] ++ Fi.L (l.drop (i + 1))) := by
    rw [← Fi.L_one l[i], ← Fi.L_app, ← Fi.L_app]
    congr 1
    rw [List.singleton_append, ← List.drop_eq_getElem_cons hi, List.take_append_drop]
  have hl : (Fi.L (l.take i)).length = i * 7 := by rw [Fi.L_len, List.length_take, Nat.min_eq_left (Nat.le_of_lt hi)]
  rw [h, List.getElem?_append_right (by omega), hl, Nat.add_sub_cancel_left, List.getElem?_append_left (by rw [Fi.C_len]; exact hj)]
def Fc.C (x : Qu.Cl) : List Value := [.int .i64 x.it.k, .int .u8 x.it.wh, .int .u8 x.it.st, .int .i64 x.it.ad, .int .i64 x.it.ln, .int .i64 x.it.ar, .bool x.it.bad, .int .i64 x.st, .int .i64 x.n]
def Fc.L (l : List Qu.Cl) : List Value := l.flatMap Fc.C
theorem Fc.C_len (x : Qu.Cl) : (Fc.C x).length = 9 := rfl
theorem Fc.L_app (a b : List Qu.Cl) : Fc.L (a ++ b) = Fc.L a ++ Fc.L b := by simp [Fc.L]
theorem Fc.L_one (x : Qu.Cl) : Fc.L [x] = Fc.C x := by simp [Fc.L]
theorem Fc.L_len (l : List Qu.Cl) : (Fc.L l).length = l.length * 9 := by
  induction l with
  | nil => rfl
  | cons f l ih =>
    have : Fc.L (f :: l) = Fc.C f ++ Fc.L l := rfl
    rw [this, List.length_append, ih, Fc.C_len, List.length_cons, Nat.add_mul]
    omega
theorem Fc.C_cell (x : Qu.Cl) : ∀ u ∈ Fc.C x, u.oneCell' = true := by
  intro u hu
  simp [Fc.C] at hu
  rcases hu with rfl | rfl | rfl | rfl | rfl | rfl | rfl | rfl | rfl <;> rfl
theorem Fc.L_cell (l : List Qu.Cl) : ∀ u ∈ Fc.L l, u.oneCell' = true := by
  intro u hu
  simp only [Fc.L, List.mem_flatMap] at hu
  obtain ⟨f, _, hf⟩ := hu
  exact Fc.C_cell f u hf
theorem Fc.L_drop (l : List Qu.Cl) (k : Nat) (hk : k ≤ l.length) : (Fc.L l).drop (k * 9) = Fc.L (l.drop k) := by
  have h : Fc.L l = Fc.L (l.take k) ++ Fc.L (l.drop k) := by rw [← Fc.L_app, List.take_append_drop]
  rw [h, List.drop_left' (by rw [Fc.L_len, List.length_take, Nat.min_eq_left hk])]
theorem Fc.L_get (l : List Qu.Cl) {i : Nat} (hi : i < l.length) {j : Nat} (hj : j < 9) : (Fc.L l)[i * 9 + j]? = (Fc.C l[i])[j]? := by
  have h : Fc.L l = Fc.L (l.take i) ++ (Fc.C l[i] ++ Fc.L (l.drop (i + 1))) := by
    rw [← Fc.L_one l[i], ← Fc.L_app, ← Fc.L_app]
    congr 1
    rw [List.singleton_append, ← List.drop_eq_getElem_cons hi, List.take_append_drop]
  have hl : (Fc.L (l.take i)).length = i * 9 := by rw [Fc.L_len, List.length_take, Nat.min_eq_left (Nat.le_of_lt hi)]
  rw [h, List.getElem?_append_right (by omega), hl, Nat.add_sub_cancel_left, List.getElem?_append_left (by rw [Fc.C_len]; exact hj)]
end Go.Proofs.Ytkiifafocmjfkaa

/- How a slice of structs that came in is opened: each element's fields as1 cells. -/
namespace Go.Proofs.Ytkiifafocmjfkaa
open Go.RowKit Go.Lib Go.ChangeShapes Go.WideShapes Go.ChangeAt Go.Deep

theorem addr_plain {w : World} {a : Addr} {i : Nat} {v : Value} (h : w.cell? (a.add i) = some v) : a.add i = ⟨a.block, a.off + i, none⟩ := by
  have hs := World.cell?_spot h
  unfold Addr.add at hs ⊢
  split at hs
  · obtain ⟨b, o, s⟩ := a
    simp_all
  · rename_i h0
    rw [if_neg h0]

theorem add_add_plain {a : Addr} (i j : Nat) : (a.add i).add j = a.add (i + j) := by
  unfold Addr.add
  by_cases hi : i = 0 <;> by_cases hj : j = 0 <;> simp [hi, hj, Nat.add_assoc]

section
variable {H : Type} {enc : TypeId × Value → H} {P : Program} {w : World} {base : Nat} {spare : Nat → Bool} {held : Bool}

/-- The cells of a slice of structs, row by row, and what each reads as1. -/
theorem open_structs {t e : TypeId} {fs : Array Field} {fuel : Nat} {A : Option Addr} {len cap : Nat} {x : DataW H × List MemPlace} (ht : P.underlying t = some (.slice e)) (he : P.underlying e = some (.struct fs))
    (hone : oneCellFields P fs = true) (hC : P.cellsOf e = fs.size) (hpos : 0 < fs.size) (h : DataW.trod enc P w base spare held fuel t [.slice A len cap] = some x) :
    len ≤ cap ∧ cap ≤ maxLen ∧ (A = none → len = 0 ∧ cap = 0) ∧ (0 < len → ∃ b off, A = some ⟨b, off, none⟩ ∧ b < w.heap.size ∧
      ∀ i, i < len → ∀ (j : Nat) (f : Field), fs[j]? = some f → ∃ (v : Value) (n : Nat) (y : DataW H × List MemPlace), w.cell? ⟨b, off + (i * fs.size + j), none⟩ = some v ∧ DataW.trod enc P w base spare held n f.type [v] = some y) := by
  rcases open_slice ht h with ⟨hcs, _⟩ | ⟨a, l, c, m, n, D, Pl, hcs, hb, hl, hm, hmm, hx, hi⟩
  · injection hcs with hcs _
    injection hcs with h1 h2 h3
    subst h1 h2 h3
    exact ⟨Nat.le_refl _, by simp [maxLen], fun _ => ⟨rfl, rfl⟩, fun h0 => absurd h0 (by omega)⟩
  · injection hcs with hcs _
    injection hcs with h1 h2 h3
    subst h1 h2 h3
    refine ⟨hl, hm, fun h0 => (by cases h0), fun hpl => ?_⟩
    have hml : len ≤ m := by rw [hmm]; split <;> omega
    have main : ∀ i, i < len → ∀ (j : Nat) (f : Field), fs[j]? = some f → ∃ (v : Value) (n : Nat) (y : DataW H × List MemPlace), w.cell? (a.add (i * fs.size + j)) = some v ∧ DataW.trod enc P w base spare held n f.type [v] = some y := by
      intro i hil j f hj
      obtain ⟨cs', hc, ht'⟩ := hi i (by omega)
      rw [hC] at hc
      obtain ⟨ys, n', hn', hy, hlen, hyl, hf⟩ := DataW.trod_struct he ht'
      obtain ⟨_, hcl, hat⟩ := World.cells?_some hc
      obtain ⟨ho, hk⟩ := hone_of hone j f hj
      have hjl : j < fs.size := (Array.getElem?_eq_some_iff.1 hj).1
      have hcell := hat j hjl
      have hv : cs'[j]? = some (cs'[j]'(by omega)) := List.getElem?_eq_getElem (by omega)
      have h1 := hf j f hj
      rw [ho, hk] at h1
      have hd : (cs'.drop j).take 1 = [cs'[j]'(by omega)] := by
        rw [List.drop_eq_getElem_cons (by omega)]
        rfl
      rw [hd] at h1
      have hys : ys[j]? = some (ys[j]'(by omega)) := List.getElem?_eq_getElem (by omega)
      refine ⟨_, n', _, ?_, h1.trans hys⟩
      rw [← add_add_plain, hcell, hv]
    obtain ⟨f0, hf0⟩ : ∃ f, fs[0]? = some f := ⟨_, Array.getElem?_eq_getElem hpos⟩
    obtain ⟨v0, _, _, hc0, _⟩ := main 0 hpl 0 f0 hf0
    have hsp : a.spot = none := by
      have := World.cell?_spot hc0
      simpa [Addr.add] using this
    obtain ⟨b, off, sp⟩ := a
    simp only at hsp
    subst hsp
    have hbl : b < w.heap.size := by
      rcases Nat.lt_or_ge b w.heap.size with hlt | hge
      · exact hlt
      · have hp := addr_plain hc0
        rw [hp] at hc0
        simp [World.cell?, Array.getElem?_eq_none hge] at hc0
    refine ⟨b, off, rfl, hbl, fun i hil j f hj => ?_⟩
    obtain ⟨v, n2, y, hc2, hy2⟩ := main i hil j f hj
    have hp := addr_plain hc2
    rw [hp] at hc2
    exact ⟨v, n2, y, hc2, hy2⟩
end
end Go.Proofs.Ytkiifafocmjfkaa

/- Queues of Qu.It: each call by its contract. -/
namespace Go.Proofs.Ytkiifafocmjfkaa
open Go.RowKit Go.Lib
set_option linter.unusedVariables false

/-- A limit as1 it counts. -/
def limQ (n : Int) : Nat := (min (max n 0) 65536).toNat
theorem Fi.info : (Try.prog.info? 35).map (fun i => (i.zero, i.size, i.bytes)) = some (some (.agg #[.int .i64 0, .int .u8 0, .int .u8 0, .int .i64 0, .int .i64 0, .int .i64 0, .bool false]), 7, 48) := by kernel_rfl
/-- A queue lies in block b: its things, its limit, its drops. -/
def Fi.Que (w : World) (b : Nat) (v : Value) (l : List Qu.It) (lim dr : Nat) : Prop :=
  Blk w b 78 #[v, .int .i64 lim, .int .i64 dr] ∧ RowZ 7 w v l.length (Fi.L l) ∧ v.ownBlock ≠ some b
theorem Fi.Que.lt {w : World} {b : Nat} {v : Value} {l : List Qu.It} {lim dr : Nat} (h : Fi.Que w b v l lim dr) : ∀ i, OwnQ b v i → i < w.heap.size := by
  rintro i (rfl | hi)
  · exact h.1.lt
  · exact h.2.1.lt i hi
theorem Fi.Que.keeps {w w' : World} {b : Nat} {v : Value} {l : List Qu.It} {lim dr : Nat} {S : Nat → Prop} (h : Fi.Que w b v l lim dr) (k : Keeps S w w') (hn : ∀ i, OwnQ b v i → ¬ S i) : Fi.Que w' b v l lim dr :=
  ⟨h.1.keeps k (hn b (.inl rfl)), h.2.1.keeps k fun i hi => hn i (.inr hi), h.2.2⟩
theorem Fi.Que.grown {w w' : World} {b : Nat} {v : Value} {l : List Qu.It} {lim dr : Nat} (h : Fi.Que w b v l lim dr) (g : w.grownBy w' none) : Fi.Que w' b v l lim dr := h.keeps (S := fun _ => False) (Keeps.of_only g (by simp)) (fun _ _ h => h)
/-- What a call that writes a queue leaves. -/
def Fi.QueN (w : World) (b : Nat) (v : Value) (lim : Nat) (w' : World) (l' : List Qu.It) (dr' : Nat) : Prop :=
  ∃ v', Fi.Que w' b v' l' lim dr' ∧ Keeps (OwnQ b v) w w' ∧ ∀ i, OwnQ b v' i → OwnQ b v i ∨ w.heap.size ≤ i
theorem Fi.QueN.stay {w : World} {b : Nat} {v : Value} {l : List Qu.It} {lim dr : Nat} (h : Fi.Que w b v l lim dr) : Fi.QueN w b v lim w l dr := ⟨v, h, Keeps.refl _ _, fun i hi => .inl hi⟩
theorem Fi.QueN.before {w0 w w' : World} {b : Nat} {v : Value} {lim dr' : Nat} {l' : List Qu.It} (g : w0.grownBy w none) (h : Fi.QueN w b v lim w' l' dr') : Fi.QueN w0 b v lim w' l' dr' := by
  obtain ⟨v', h1, h2, h3⟩ := h
  exact ⟨v', h1, (Keeps.of_only g (by simp)).trans h2, fun i hi => (h3 i hi).imp id (fun h => Nat.le_trans g.size h)⟩

theorem Fi.new_any (n : Int) (w : World) : Calls Try.prog 20 #[.int .i64 n] w fun e w' => e = .returned (.pointer (some ⟨w.heap.size, 0, none⟩)) ∧ w.alloc (.cells #[.slice none 0 0, .int .i64 (limQ n), .int .i64 0] 78) = w' := by
  by_cases h0 : n < 0
  · have E := Lib.hid (show ((limQ n : Nat) : Int) = 0 by unfold limQ; omega)
    go_enter Try.func20, Try.ntmps20
    go_wp2
    go_ret
    exact ⟨rfl, by rw [E.out]⟩
  · by_cases h1 : 65536 < n
    · have E := Lib.hid (show ((limQ n : Nat) : Int) = 65536 by unfold limQ; omega)
      go_enter Try.func20, Try.ntmps20
      go_wp2
      go_ret
      exact ⟨rfl, by rw [E.out]⟩
    · have E := Lib.hid (show ((limQ n : Nat) : Int) = n by unfold limQ; omega)
      go_enter Try.func20, Try.ntmps20
      go_wp2
      go_ret
      exact ⟨rfl, by rw [E.out]⟩
section
variable {w : World} {b : Nat} {v : Value} {l : List Qu.It} {lim dr : Nat}
theorem Fi.len_any (h : Fi.Que w b v l lim dr) : Calls Try.prog 36 #[.pointer (some ⟨b, 0, none⟩)] w fun e w' => e = .returned (.int .i64 l.length) ∧ w = w' := by
  have c0 : w.cell? ⟨b, 0, none⟩ = some v := h.1.cell 0
  obtain ⟨A, c, rfl⟩ := h.2.1.form
  clear h
  go_enter Try.func36, Try.ntmps36
  go_wp2
  go_ret
  exact ⟨rfl, rfl⟩
theorem Fi.limit_any (h : Fi.Que w b v l lim dr) : Calls Try.prog 27 #[.pointer (some ⟨b, 0, none⟩)] w fun e w' => e = .returned (.int .i64 lim) ∧ w = w' := by
  have c0 : w.cell? ⟨b, 1, none⟩ = some (.int .i64 lim) := h.1.cell 1
  clear h
  go_enter Try.func27, Try.ntmps27
  go_wp2
  go_ret
  exact ⟨rfl, rfl⟩
theorem Fi.push_off (x : Qu.It) (h : Fi.Que w b v l lim dr) (hl : lim ≤ l.length) (hd : dr ≤ 1000000) :
    Calls Try.prog 28 #[.pointer (some ⟨b, 0, none⟩), .agg #[.int .i64 x.k, .int .u8 x.wh, .int .u8 x.st, .int .i64 x.ad, .int .i64 x.ln, .int .i64 x.ar, .bool x.bad]] w fun e w' => e = .returned (.bool false) ∧ Fi.QueN w b v lim w' l (dr + 1) := by
  have hb := h.1.alloc (.cells #[.int .i64 x.k, .int .u8 x.wh, .int .u8 x.st, .int .i64 x.ad, .int .i64 x.ln, .int .i64 x.ar, .bool x.bad] 35)
  have c0 : w.cell? ⟨b, 0, none⟩ = some v := h.1.cell 0
  have c1 : w.cell? ⟨b, 1, none⟩ = some (.int .i64 lim) := h.1.cell 1
  have c2 : w.cell? ⟨b, 2, none⟩ = some (.int .i64 dr) := h.1.cell 2
  have k0 : (w.alloc (.cells #[.int .i64 x.k, .int .u8 x.wh, .int .u8 x.st, .int .i64 x.ad, .int .i64 x.ln, .int .i64 x.ar, .bool x.bad] 35)).cell? ⟨b, 0, none⟩ = some v := hb.cell 0
  have k1 : (w.alloc (.cells #[.int .i64 x.k, .int .u8 x.wh, .int .u8 x.st, .int .i64 x.ad, .int .i64 x.ln, .int .i64 x.ar, .bool x.bad] 35)).cell? ⟨b, 1, none⟩ = some (.int .i64 lim) := hb.cell 1
  have k2 : (w.alloc (.cells #[.int .i64 x.k, .int .u8 x.wh, .int .u8 x.st, .int .i64 x.ad, .int .i64 x.ln, .int .i64 x.ar, .bool x.bad] 35)).cell? ⟨b, 2, none⟩ = some (.int .i64 dr) := hb.cell 2
  have f2 := hb.free 2
  have H := Lib.hid h
  have HB := Lib.hid hb
  have hl' : (lim : Int) ≤ (l.length : Int) := by omega
  obtain ⟨A, c, rfl⟩ := h.2.1.form
  clear h hb
  go_enter Try.func28, Try.ntmps28
  go_wp2
  go_quiet (fail)
  go_wp2
  go_ret
  refine ⟨rfl, _, ⟨((HB.out.drewN nq).put 2 (.int .i64 ((dr : Int) + 1))), ((H.out.2.1.alloc _).drewN nq).put H.out.2.2 _, H.out.2.2⟩, (((Keeps.refl _ _).alloc _).drew nq).put (.inl (.inl rfl)) _, fun i hi => .inl hi⟩
theorem Fi.news (W : World) (x : Qu.It) : ∀ j u, (Fi.C x)[j]? = some u → (W.alloc (.cells #[.int .i64 x.k, .int .u8 x.wh, .int .u8 x.st, .int .i64 x.ad, .int .i64 x.ln, .int .i64 x.ar, .bool x.bad] 35)).cell? ((⟨W.heap.size, 0, none⟩ : Addr).add j) = some u := by
  intro j u hj
  rw [addr_at, (Blk.new W 35 #[.int .i64 x.k, .int .u8 x.wh, .int .u8 x.st, .int .i64 x.ad, .int .i64 x.ln, .int .i64 x.ar, .bool x.bad]).cell, Nat.zero_add]
  simpa [Fi.C] using hj
set_option maxRecDepth 20000 in
set_option maxHeartbeats 1600000 in
theorem Fi.push_on (x : Qu.It) (h : Fi.Que w b v l lim dr) (hl : l.length < lim) (hn : l.length ≤ 1000000) :
    Calls Try.prog 28 #[.pointer (some ⟨b, 0, none⟩), .agg #[.int .i64 x.k, .int .u8 x.wh, .int .u8 x.st, .int .i64 x.ad, .int .i64 x.ln, .int .i64 x.ar, .bool x.bad]] w fun e w' => e = .returned (.bool true) ∧ Fi.QueN w b v lim w' (l ++ [x]) dr := by
  obtain ⟨i0, hi0, hz0, hz1, hz2⟩ := info_parts Fi.info
  have hb := h.1.alloc (.cells #[.int .i64 x.k, .int .u8 x.wh, .int .u8 x.st, .int .i64 x.ad, .int .i64 x.ln, .int .i64 x.ar, .bool x.bad] 35)
  have c0 : w.cell? ⟨b, 0, none⟩ = some v := h.1.cell 0
  have c1 : w.cell? ⟨b, 1, none⟩ = some (.int .i64 lim) := h.1.cell 1
  have k0 : (w.alloc (.cells #[.int .i64 x.k, .int .u8 x.wh, .int .u8 x.st, .int .i64 x.ad, .int .i64 x.ln, .int .i64 x.ar, .bool x.bad] 35)).cell? ⟨b, 0, none⟩ = some v := hb.cell 0
  have k1 : (w.alloc (.cells #[.int .i64 x.k, .int .u8 x.wh, .int .u8 x.st, .int .i64 x.ad, .int .i64 x.ln, .int .i64 x.ar, .bool x.bad] 35)).cell? ⟨b, 1, none⟩ = some (.int .i64 lim) := hb.cell 1
  have f0 := hb.free 0
  have H := Lib.hid h
  have HB := Lib.hid hb
  have hl' : (l.length : Int) < (lim : Int) := by omega
  have HNEWB := Lib.hid (Blk.new w 35 #[.int .i64 x.k, .int .u8 x.wh, .int .u8 x.st, .int .i64 x.ad, .int .i64 x.ln, .int .i64 x.ar, .bool x.bad])
  obtain ⟨A, c, hv⟩ := h.2.1.form
  subst hv
  clear h hb
  go_enter Try.func28, Try.ntmps28
  go_wp2
  go_quiet (fail)
  have hx := HNEWB.out.drewN nq
  obtain ⟨W0, hW0⟩ : ∃ W0, W0 = (w.alloc (.cells #[.int .i64 x.k, .int .u8 x.wh, .int .u8 x.st, .int .i64 x.ad, .int .i64 x.ln, .int .i64 x.ar, .bool x.bad] 35)).drewN nq := ⟨_, rfl⟩
  have y0 : W0.cell? ⟨w.heap.size, 0, none⟩ = some (.int .i64 x.k) := by rw [hW0]; exact hx.cell 0
  have y1 : W0.cell? ⟨w.heap.size, 1, none⟩ = some (.int .u8 x.wh) := by rw [hW0]; exact hx.cell 1
  have y2 : W0.cell? ⟨w.heap.size, 2, none⟩ = some (.int .u8 x.st) := by rw [hW0]; exact hx.cell 2
  have y3 : W0.cell? ⟨w.heap.size, 3, none⟩ = some (.int .i64 x.ad) := by rw [hW0]; exact hx.cell 3
  have y4 : W0.cell? ⟨w.heap.size, 4, none⟩ = some (.int .i64 x.ln) := by rw [hW0]; exact hx.cell 4
  have y5 : W0.cell? ⟨w.heap.size, 5, none⟩ = some (.int .i64 x.ar) := by rw [hW0]; exact hx.cell 5
  have y6 : W0.cell? ⟨w.heap.size, 6, none⟩ = some (.bool x.bad) := by rw [hW0]; exact hx.cell 6
  have q0 : W0.cell? ⟨b, 0, none⟩ = some (.slice A l.length c) := by rw [hW0]; exact k0
  have hB0 : Blk W0 b 78 #[.slice A l.length c, .int .i64 lim, .int .i64 dr] := by rw [hW0]; exact HB.out.drewN nq
  have hK0 : Keeps (OwnQ b (.slice A l.length c)) w W0 := by rw [hW0]; exact ((Keeps.refl _ w).alloc _).drew nq
  have hR0 : RowZ 7 W0 (.slice A l.length c) l.length (Fi.L l) := by rw [hW0]; exact (H.out.2.1.alloc _).drewN nq
  have hsz0 : w.heap.size ≤ W0.heap.size := hK0.size
  rw [← hW0]
  clear hW0 hx c0 c1 k0 k1 f0
  have hrow : RowZ 7 (W0.alloc (.cells #[.int .i64 x.k, .int .u8 x.wh, .int .u8 x.st, .int .i64 x.ad, .int .i64 x.ln, .int .i64 x.ar, .bool x.bad] 35)).drew (.slice A l.length c) l.length (Fi.L l) := (hR0.alloc _).drewN 1
  have hsrc : Src Try.prog 7 71 (.slice (some ⟨W0.heap.size, 0, none⟩) 1 1) 1 (Fi.C x) (W0.alloc (.cells #[.int .i64 x.k, .int .u8 x.wh, .int .u8 x.st, .int .i64 x.ad, .int .i64 x.ln, .int .i64 x.ar, .bool x.bad] 35)).drew := Src.ofSlice _ Try.underlying71 _ _ _ _ rfl (Fi.news W0 x) (Fi.C_cell x)
  obtain ⟨v', w', hk, hr, hg, ho⟩ := run_pushZ (P := Try.prog) _ 71 35 71 i0 _ 48 Try.underlying71 hi0 hz0 hz1 hz2 (by omega) rfl _ _ _ hrow (Fi.L_cell l) _ _ hsrc hn
  have hb0 := (hB0.alloc (.cells #[.int .i64 x.k, .int .u8 x.wh, .int .u8 x.st, .int .i64 x.ad, .int .i64 x.ln, .int .i64 x.ar, .bool x.bad] 35)).drewN 1
  have hb1 := hb0.only hg (fun e => H.out.2.2 e.symm)
  have d0 : w'.cell? ⟨b, 0, none⟩ = some (.slice A l.length c) := hb1.cell 0
  have e0 := hb1.free 0
  have hne : v'.ownBlock ≠ some b := by
    rcases ho with ho | ho
    · rw [ho]
      exact H.out.2.2
    · rw [ho]
      intro q
      injection q with q
      exact absurd hb0.lt (by rw [← q]; exact Nat.lt_irrefl _)
  have fin : Fi.QueN w b (.slice A l.length c) lim (w'.setCell ⟨b, 0, none⟩ v') (l ++ [x]) dr := by
    refine ⟨_, ⟨hb1.put 0 _, ?_, hne⟩, Keeps.put (Keeps.trans ((hK0.alloc _).drew 1) (Keeps.of_only hg (fun k hk => .inr hk))) (.inl (.inl rfl)) _, ?_⟩
    · rw [Fi.L_app, Fi.L_one, List.length_append]
      exact hr.put hne _
    · rintro i (rfl | hi)
      · exact .inl (.inl rfl)
      · rcases ho with ho | ho
        · exact .inl (.inr (ho ▸ hi))
        · rw [ho] at hi
          injection hi with hi
          exact .inr (by simp at hi; omega)
  obtain ⟨A', c', rfl⟩ := hr.form
  have FIN := Lib.hid fin
  have HK := Lib.hid hk
  clear fin hne hb0 hb1 ho hg hr hrow hsrc hk hB0 hK0 hR0
  have q1 := Go.Lib.cell?_alloc_some (.cells #[.int .i64 x.k, .int .u8 x.wh, .int .u8 x.st, .int .i64 x.ad, .int .i64 x.ln, .int .i64 x.ar, .bool x.bad] 35) q0
  go_wp2
  go_region_law (refine Zz.step_app rfl (.tmp 28) (.tmp 30) 71 rfl HK.out rfl rfl ?_)
  all_goals
    go_wp2
    go_ret
    exact ⟨rfl, FIN.out⟩
end
end Go.Proofs.Ytkiifafocmjfkaa

/- Queues of Qu.It: let, Clone, Take, Peek, Pop: their contracts. -/
namespace Go.Proofs.Ytkiifafocmjfkaa
open Go.RowKit Go.Lib
set_option linter.unusedVariables false

theorem Fi.zero (w : World) : (zeroValue 35).run Try.prog w = .ok (.agg #[.int .i64 0, .int .u8 0, .int .u8 0, .int .i64 0, .int .i64 0, .int .i64 0, .bool false]) w := by
  obtain ⟨i0, hi0, hz0, _, _⟩ := info_parts Fi.info
  simp [zeroValue, typeInfo, hi0, hz0]
theorem Fi.zcells (n : Nat) : (Builtin.zeroCells (Value.agg #[.int .i64 0, .int .u8 0, .int .u8 0, .int .i64 0, .int .i64 0, .int .i64 0, .bool false]).cells n).toList.length = n * 7 := Qu.zc_len _ n 7 rfl
theorem Fi.zone (n : Nat) : ∀ u ∈ (Builtin.zeroCells (Value.agg #[.int .i64 0, .int .u8 0, .int .u8 0, .int .i64 0, .int .i64 0, .int .i64 0, .bool false]).cells n).toList, u.oneCell' = true := Qu.zc_one _ n (by
  intro i hi
  have hi' : i < 7 := hi
  have : i = 0 ∨ i = 1 ∨ i = 2 ∨ i = 3 ∨ i = 4 ∨ i = 5 ∨ i = 6 := by omega
  rcases this with rfl | rfl | rfl | rfl | rfl | rfl | rfl <;> rfl)
section
variable {w : World} {b : Nat} {v : Value} {l : List Qu.It} {lim dr : Nat}
set_option maxRecDepth 20000 in
set_option maxHeartbeats 1600000 in
theorem Fi.let_any (n : Nat) (h : Fi.Que w b v l lim dr) (h0 : 0 < n) (hi : n ≤ l.length) (hn : l.length ≤ 1000000) :
    Calls Try.prog 42 #[.pointer (some ⟨b, 0, none⟩), .int .i64 n] w fun e w' => e = .returned (.tuple #[]) ∧ Fi.QueN w b v lim w' (l.drop n) dr := by
  have c0 : w.cell? ⟨b, 0, none⟩ = some v := h.1.cell 0
  have hB := h.1
  have hob := h.2.2
  obtain ⟨hxl, hz | ⟨g, off, cap, rfl, h2, h3, h4, h5, h6⟩⟩ := h.2.1
  · omega
  · have hgb : g ≠ b := by intro e; subst e; exact hob rfl
    have hR := RowZ.cleared (w := w) (Builtin.zeroCells (Value.agg #[.int .i64 0, .int .u8 0, .int .u8 0, .int .i64 0, .int .i64 0, .int .i64 0, .bool false]).cells n).toList hxl (k := n) (Fi.zcells n) h2 h3 h4 h5 h6 hi
    have hns : n * 7 ≤ cap * 7 := Nat.mul_le_mul_right 7 (by omega)
    have hk := run_clear_sized (P := Try.prog) w 71 35 0 (.agg #[.int .i64 0, .int .u8 0, .int .u8 0, .int .i64 0, .int .i64 0, .int .i64 0, .bool false]) Try.underlying71 Fi.zero g off n cap h0 (Fi.zone n) (by rw [Fi.zcells]; intro j hj; exact (h5 j (by omega)).1) (by rw [Fi.zcells]; intro j hj; exact (h5 j (by omega)).2)
    have hg := only_cells w g off (Builtin.zeroCells (Value.agg #[.int .i64 0, .int .u8 0, .int .u8 0, .int .i64 0, .int .i64 0, .int .i64 0, .bool false]).cells n).toList
    generalize w.setCells g off (Builtin.zeroCells (Value.agg #[.int .i64 0, .int .u8 0, .int .u8 0, .int .i64 0, .int .i64 0, .int .i64 0, .bool false]).cells n).toList = w1 at *
    have hB1 := hB.only hg (by simpa using Ne.symm hgb)
    have d0 : w1.cell? ⟨b, 0, none⟩ = some (.slice (some ⟨g, off, none⟩) l.length cap) := hB1.cell 0
    have e0 := hB1.free 0
    rw [Fi.L_drop l n hi] at hR
    have hld : (l.drop n).length = l.length - n := List.length_drop ..
    have fin : Fi.QueN w b (.slice (some ⟨g, off, none⟩) l.length cap) lim (w1.setCell ⟨b, 0, none⟩ (.slice (some ⟨g, off + n * 7, none⟩) (l.length - n) (cap - n))) (l.drop n) dr :=
      ⟨_, ⟨hB1.put 0 _, by rw [hld]; exact hR.put (by simpa [Value.ownBlock] using hgb) _, by simpa [Value.ownBlock] using hgb⟩, (Keeps.of_only hg (fun k hk => .inr (by simpa [Value.ownBlock] using hk))).put (.inl (.inl rfl)) _, fun i hi => .inl (by simpa [OwnQ, Value.ownBlock] using hi)⟩
    have FIN := Lib.hid fin
    have fin2 : cap = n → Fi.QueN w b (.slice (some ⟨g, off, none⟩) l.length cap) lim (w1.setCell ⟨b, 0, none⟩ (.slice (some ⟨g, off, none⟩) (l.length - n) 0)) (l.drop n) dr := by
      intro e
      have hl : l.drop n = [] := List.drop_eq_nil_of_le (by omega)
      have hz : l.length - n = 0 := by omega
      rw [hl, hz]
      exact ⟨_, ⟨hB1.put 0 _, (RowZ.empty 7 off (Nat.lt_of_lt_of_le h4 hg.size)).put (by simpa [Value.ownBlock] using hgb) _, by simpa [Value.ownBlock] using hgb⟩, (Keeps.of_only hg (fun k hk => .inr (by simpa [Value.ownBlock] using hk))).put (.inl (.inl rfl)) _, fun i hi => .inl (by simpa [OwnQ, Value.ownBlock] using hi)⟩
    have FIN2 := Lib.hid fin2
    have hnc : n ≤ cap := by omega
    have i1 : (n : Int) ≤ (cap : Int) := by omega
    have i2 : (n : Int) ≤ (l.length : Int) := by omega
    have i3 : (l.length : Int) ≤ (cap : Int) := by omega
    clear fin fin2 hR hB hB1 h h5 h6 hg hxl hld hns
    go_enter Try.func42, Try.ntmps42
    go_wp2_with (at_builtin; refine wpList_clear_eq rfl (.tmp 9) 71 rfl hk rfl ?_)
    · subst h
      go_end0
      exact ⟨rfl, FIN2.out rfl⟩
    · go_end0
      exact ⟨rfl, FIN.out⟩
theorem Fi.eq_nil (w : World) : (binOp BinOp.eql 71 (.slice none 0 0) (.slice none 0 0)).run Try.prog w = .ok (.bool true) w := by kernel_rfl
theorem Fi.eq_some (g o n cap : Nat) (w : World) : (binOp BinOp.eql 71 (.slice (some ⟨g, o, none⟩) n cap) (.slice none 0 0)).run Try.prog w = .ok (.bool false) w := by kernel_rfl
/-- What a clone answers. -/
def Fi.Clo (w : World) (l : List Qu.It) (v' : Value) (w' : World) : Prop := RowZ 7 w' v' l.length (Fi.L l) ∧ (∀ i, v'.ownBlock = some i → w.heap.size ≤ i) ∧ w.grownBy w' none
set_option maxRecDepth 100000 in
theorem Fi.clone_any (l : List Qu.It) (v : Value) (w : World) (h : RowZ 7 w v l.length (Fi.L l)) (hn : l.length ≤ 1000) : Calls Try.prog 41 #[v] w fun r w' => ∃ v', r = .returned v' ∧ Fi.Clo w l v' w' := by
  obtain ⟨i0, hi0, hz0, hz1, hz2⟩ := info_parts Fi.info
  have H := Lib.hid h
  rcases h.2 with ⟨rfl, hz⟩ | ⟨g, off, cap, rfl, hcap, hm, hlt, _⟩
  · have hs := Fi.eq_nil w
    have hl0 : l = [] := List.eq_nil_of_length_eq_zero hz
    subst hl0
    clear h hz
    go_enter Try.func41, Try.ntmps41
    go_wp2
    go_ret
    exact ⟨.slice none 0 0, rfl, RowZ.nil _ _, fun i hi => by simp [Value.ownBlock] at hi, only_refl _ _⟩
  · have hs := Fi.eq_some g off l.length cap w
    have hsrc := (H.out.alloc (.cells #[] 35)).src (P := Try.prog) 71 35 Try.underlying71 (Fi.L_cell l)
    obtain ⟨v', w', hk, hr, hb, ho, A', c', rfl⟩ := run_allZ (P := Try.prog) (w.alloc (.cells #[] 35)) 71 35 71 i0 _ 48 Try.underlying71 hi0 hz0 hz1 hz2 (by omega) rfl w.heap.size l.length (by simp) _ _ hsrc (by omega)
    have HK := Lib.hid hk
    have HR := Lib.hid hr
    have HB := Lib.hid (only_trans (only_alloc (only_refl w none) _) hb)
    have HO := Lib.hid ho
    clear hk hr hb ho hsrc h
    go_enter Try.func41, Try.ntmps41
    go_wp2_with (at_builtin; refine wpList_append_eq rfl (.tmp 5) (.tmp 6) 71 rfl HK.out rfl rfl ?_)
    go_ret
    refine ⟨.slice (some A') l.length c', rfl, HR.out, fun i hi => ?_, HB.out⟩
    rcases HO.out with ho | ho
    · rw [ho] at hi
      injection hi with hi
      omega
    · rw [ho] at hi
      injection hi with hi
      simp at hi
      omega
theorem Fi.first {g off cap n : Nat} (h : RowZ 7 w (.slice (some ⟨g, off, none⟩) l.length cap) l.length (Fi.L l)) (hn : n ≤ l.length) : RowZ 7 w (.slice (some ⟨g, off, none⟩) n cap) (l.take n).length (Fi.L (l.take n)) := by
  have hl : (l.take n).length = n := by rw [List.length_take, Nat.min_eq_left hn]
  have hh : Fi.L l = Fi.L (l.take n) ++ Fi.L (l.drop n) := by rw [← Fi.L_app, List.take_append_drop]
  rcases h.2 with ⟨e, e0⟩ | ⟨g', off', cap', e, h2, h3, h4, h5, h6⟩
  · cases e
  · injection e with e1 e2 e3
    injection e1 with e1
    injection e1 with e4 e5
    subst e4 e5 e3
    rw [hl]
    refine ⟨by rw [Fi.L_len, hl], .inr ⟨g, off, cap, rfl, by omega, h3, h4, h5, fun j u hu => h6 j u ?_⟩⟩
    rw [hh, List.getElem?_append_left (List.getElem?_eq_some_iff.1 hu).1]
    exact hu
theorem Fi.take_0 (n : Int) (h : Fi.Que w b v l lim dr) (hn : n < 1) : Calls Try.prog 31 #[.pointer (some ⟨b, 0, none⟩), .int .i64 n] w fun e w' => e = .returned (.slice none 0 0) ∧ w = w' := by
  have HL := Lib.hid (Fi.len_any h)
  have i1 : ¬ (l.length : Int) < n := by omega
  have i2 : n ≤ (l.length : Int) := by omega
  clear h
  go_enter Try.func31, Try.ntmps31
  go_wp2_with (go_at_call 36; (with_reducible refine HL.out.mono ?_); rintro e w' ⟨rfl, rfl⟩)
  go_ret
  exact ⟨rfl, rfl⟩
set_option maxHeartbeats 1600000 in
theorem Fi.take_n (n : Nat) (h : Fi.Que w b v l lim dr) (h0 : 0 < n) (hn : n ≤ l.length) (hl : l.length ≤ 1000) : Calls Try.prog 31 #[.pointer (some ⟨b, 0, none⟩), .int .i64 n] w fun e w' => ∃ out, e = .returned out ∧ RowZ 7 w' out n (Fi.L (l.take n)) ∧ (∀ i, out.ownBlock = some i → w.heap.size ≤ i) ∧ Fi.QueN w b v lim w' (l.drop n) dr := by
  have HL := Lib.hid (Fi.len_any h)
  have c0 : w.cell? ⟨b, 0, none⟩ = some v := h.1.cell 0
  have H := Lib.hid h
  have hlen : (l.take n).length = n := by rw [List.length_take, Nat.min_eq_left hn]
  rcases h.2.1.2 with ⟨rfl, hz⟩ | ⟨g, off, cap, rfl, hcap, hm, hlt, _⟩
  · omega
  · have HC := Lib.hid (Fi.clone_any (l.take n) (.slice (some ⟨g, off, none⟩) n cap) w (Fi.first h.2.1 hn) (by omega))
    have HLT := Lib.hid (fun (w1 : World) (q : Fi.Que w1 b (.slice (some ⟨g, off, none⟩) l.length cap) l lim dr) => Fi.let_any n q h0 hn (by omega))
    have i1 : ¬ (l.length : Int) < (n : Int) := by omega
    have i2 : (n : Int) ≤ (l.length : Int) := by omega
    have i3 : ¬ (n : Int) < 1 := by omega
    have i4 : (n : Int) ≤ (cap : Int) := by omega
    have i5 : (0 : Int) < (n : Int) := by omega
    have i6 : n ≤ cap := by omega
    have HLN := Lib.hid hlen
    clear h hlen hm hlt hl hn h0
    go_enter Try.func31, Try.ntmps31
    go_wp2_with (first
      | (go_at_call 36; (with_reducible refine HL.out.mono ?_); rintro e w' ⟨rfl, rfl⟩)
      | (go_at_call 41; (with_reducible refine HC.out.mono ?_); rintro e w1 ⟨out, rfl, r1, o1, g1⟩; have R1 := Lib.hid r1; have O1 := Lib.hid o1; have G1 := Lib.hid g1; have Q1 := Lib.hid (H.out.grown g1); clear r1 o1 g1)
      | (go_at_call 42; (with_reducible refine (HLT.out _ Q1.out).mono ?_); rintro e w2 ⟨rfl, q2⟩; have Q2 := Lib.hid q2; clear q2))
    go_ret
    refine ⟨_, rfl, ?_, O1.out, Q2.out.before G1.out⟩
    have hr := R1.out
    rw [HLN.out] at hr
    obtain ⟨v', q1, q2, q3⟩ := Q2.out
    refine hr.keeps q2 fun i hi hn => ?_
    have := O1.out i hi
    have := H.out.lt i hn
    omega
set_option maxRecDepth 20000 in
set_option maxHeartbeats 1600000 in
theorem Fi.peek_in (x : Qu.It) (h : Fi.Que w b v (x :: l) lim dr) (hn : (x :: l).length ≤ 1000000) :
    Calls Try.prog 32 #[.pointer (some ⟨b, 0, none⟩), .int .i64 0] w fun e w' => e = .returned (.tuple #[.agg #[.int .i64 x.k, .int .u8 x.wh, .int .u8 x.st, .int .i64 x.ad, .int .i64 x.ln, .int .i64 x.ar, .bool x.bad], .bool true]) ∧ w.grownBy w' none := by
  have c0 : w.cell? ⟨b, 0, none⟩ = some v := h.1.cell 0
  have hlt := h.1.lt
  have HL := Lib.hid (show ∀ W, Fi.Que W b v (x :: l) lim dr → Calls Try.prog 36 #[.pointer (some ⟨b, 0, none⟩)] W fun e w' => e = .returned (.int .i64 (l.length + 1)) ∧ W = w' from fun W hW => by
    have := Fi.len_any hW
    rw [List.length_cons, Int.natCast_add, Int.natCast_one] at this
    exact this)
  have HW := Lib.hid (show Fi.Que (w.alloc (.cells #[.int .i64 0, .int .u8 0, .int .u8 0, .int .i64 0, .int .i64 0, .int .i64 0, .bool false] 35)) b v (x :: l) lim dr from h.grown (only_alloc (only_refl w none) _))
  have d0 : (w.alloc (.cells #[.int .i64 0, .int .u8 0, .int .u8 0, .int .i64 0, .int .i64 0, .int .i64 0, .bool false] 35)).cell? ⟨b, 0, none⟩ = some v := Go.Lib.cell?_alloc_some _ c0
  obtain ⟨hxl, h0 | ⟨g, off, cap, rfl, h2, h3, h4, h5, h6⟩⟩ := h.2.1
  · exact absurd h0.2 (by simp)
  · have a0 : w.cell? ⟨g, off, none⟩ = some (.int .i64 x.k) := h6 0 _ rfl
    have a1 : w.cell? ⟨g, off + 1, none⟩ = some (.int .u8 x.wh) := h6 1 _ rfl
    have a2 : w.cell? ⟨g, off + 2, none⟩ = some (.int .u8 x.st) := h6 2 _ rfl
    have a3 : w.cell? ⟨g, off + 3, none⟩ = some (.int .i64 x.ad) := h6 3 _ rfl
    have a4 : w.cell? ⟨g, off + 4, none⟩ = some (.int .i64 x.ln) := h6 4 _ rfl
    have a5 : w.cell? ⟨g, off + 5, none⟩ = some (.int .i64 x.ar) := h6 5 _ rfl
    have a6 : w.cell? ⟨g, off + 6, none⟩ = some (.bool x.bad) := h6 6 _ rfl
    have g0 : (w.alloc (.cells #[.int .i64 0, .int .u8 0, .int .u8 0, .int .i64 0, .int .i64 0, .int .i64 0, .bool false] 35)).cell? ⟨g, off, none⟩ = some (.int .i64 x.k) := Go.Lib.cell?_alloc_some _ a0
    have g1 : (w.alloc (.cells #[.int .i64 0, .int .u8 0, .int .u8 0, .int .i64 0, .int .i64 0, .int .i64 0, .bool false] 35)).cell? ⟨g, off + 1, none⟩ = some (.int .u8 x.wh) := Go.Lib.cell?_alloc_some _ a1
    have g2 : (w.alloc (.cells #[.int .i64 0, .int .u8 0, .int .u8 0, .int .i64 0, .int .i64 0, .int .i64 0, .bool false] 35)).cell? ⟨g, off + 2, none⟩ = some (.int .u8 x.st) := Go.Lib.cell?_alloc_some _ a2
    have g3 : (w.alloc (.cells #[.int .i64 0, .int .u8 0, .int .u8 0, .int .i64 0, .int .i64 0, .int .i64 0, .bool false] 35)).cell? ⟨g, off + 3, none⟩ = some (.int .i64 x.ad) := Go.Lib.cell?_alloc_some _ a3
    have g4 : (w.alloc (.cells #[.int .i64 0, .int .u8 0, .int .u8 0, .int .i64 0, .int .i64 0, .int .i64 0, .bool false] 35)).cell? ⟨g, off + 4, none⟩ = some (.int .i64 x.ln) := Go.Lib.cell?_alloc_some _ a4
    have g5 : (w.alloc (.cells #[.int .i64 0, .int .u8 0, .int .u8 0, .int .i64 0, .int .i64 0, .int .i64 0, .bool false] 35)).cell? ⟨g, off + 5, none⟩ = some (.int .i64 x.ar) := Go.Lib.cell?_alloc_some _ a5
    have g6 : (w.alloc (.cells #[.int .i64 0, .int .u8 0, .int .u8 0, .int .i64 0, .int .i64 0, .int .i64 0, .bool false] 35)).cell? ⟨g, off + 6, none⟩ = some (.bool x.bad) := Go.Lib.cell?_alloc_some _ a6
    have i1 : ¬ ((l.length : Int) + 1 ≤ 0) := by omega
    have i2 : (0 : Int) < ((l.length + 1 : Nat) : Int) := by omega
    clear h h2 h3 h4 h5 h6 hxl a0 a1 a2 a3 a4 a5 a6 hn
    go_enter Try.func32, Try.ntmps32
    go_wp2_with (go_at_call 36; with_reducible refine (HL.out _ HW.out).mono ?_; rintro e w' ⟨rfl, rfl⟩)
    refine bodyPost_ret (v := .tuple #[.agg #[.int .i64 x.k, .int .u8 x.wh, .int .u8 x.st, .int .i64 x.ad, .int .i64 x.ln, .int .i64 x.ar, .bool x.bad], .bool true]) (by simp [results, Try.results32, go_sem]) rfl ⟨rfl, only_alloc (only_refl _ _) _⟩
set_option maxRecDepth 20000 in
theorem Fi.peek_off (h : Fi.Que w b v [] lim dr) :
    Calls Try.prog 32 #[.pointer (some ⟨b, 0, none⟩), .int .i64 0] w fun e w' => e = .returned (.tuple #[.agg #[.int .i64 0, .int .u8 0, .int .u8 0, .int .i64 0, .int .i64 0, .int .i64 0, .bool false], .bool false]) ∧ w.grownBy w' none := by
  have HL := Lib.hid (fun W (hW : Fi.Que W b v [] lim dr) => Fi.len_any hW)
  have HW := Lib.hid (show Fi.Que (w.alloc (.cells #[.int .i64 0, .int .u8 0, .int .u8 0, .int .i64 0, .int .i64 0, .int .i64 0, .bool false] 35)) b v [] lim dr from h.grown (only_alloc (only_refl w none) _))
  clear h
  go_enter Try.func32, Try.ntmps32
  go_wp2_with (go_at_call 36; with_reducible refine (HL.out _ HW.out).mono ?_; rintro e w' ⟨rfl, rfl⟩)
  refine bodyPost_ret (v := .tuple #[.agg #[.int .i64 0, .int .u8 0, .int .u8 0, .int .i64 0, .int .i64 0, .int .i64 0, .bool false], .bool false]) (by simp [results, Try.results32, go_sem]) rfl ⟨rfl, only_alloc (only_alloc (only_refl _ _) _) _⟩
end
end Go.Proofs.Ytkiifafocmjfkaa

/- The requests of a queue, gone through: the iterator and its caller. -/
namespace Go.Proofs.Ytkiifafocmjfkaa
open Go.RowKit Go.Lib Go.Shelf
attribute [local go_sem] Oper.semAt_some
set_option linter.unusedVariables false

def Qu.z : Qu.It := ⟨0, 0, 0, 0, 0, 0, false⟩
/-- The first k requests by their places. -/
def Qu.placed (L : List Qu.It) (k : Nat) : List (Nat × Qu.It) := (List.range k).map fun j => (j, L[j]?.getD Qu.z)
theorem Qu.placed_succ (L : List Qu.It) (k : Nat) : Qu.placed L (k + 1) = Qu.placed L k ++ [(k, L[k]?.getD Qu.z)] := by simp [Qu.placed, List.range_succ]
theorem Qu.placed_length (L : List Qu.It) (k : Nat) : (Qu.placed L k).length = k := by simp [Qu.placed]
/-- Some blocks are as1 they were. -/
def Qu.Kp (P : Nat → Prop) (A B : World) : Prop := A.heap.size ≤ B.heap.size ∧ ∀ i, P i → B.heap[i]? = A.heap[i]?
theorem Qu.Kp.refl (P : Nat → Prop) (A : World) : Qu.Kp P A A := ⟨Nat.le_refl _, fun _ _ => rfl⟩
theorem Qu.Kp.trans {P : Nat → Prop} {A B C : World} (h : Qu.Kp P A B) (k : Qu.Kp P B C) : Qu.Kp P A C := ⟨Nat.le_trans h.1 k.1, fun i hi => (k.2 i hi).trans (h.2 i hi)⟩
theorem Qu.Kp.cell {P : Nat → Prop} {A B : World} (h : Qu.Kp P A B) {p : Addr} (hp : P p.block) : B.cell? p = A.cell? p := by
  simp only [World.cell?, h.2 _ hp]
theorem Qu.Kp.book {P : Nat → Prop} {w : World} (hP : ∀ i, P i → i < w.heap.size) (W : World) (l : Nat) (o o' : Obj) (hl : w.heap.size ≤ l) (_ : W.heap[l]? = some o) (_ : o.isCells = false) (_ : o.isWalk = false) : Qu.Kp P W (W.putObj l o') := by
  have g := grownBy_putObj' W l o'
  have hlt := (Array.getElem?_eq_some_iff.1 ‹W.heap[l]? = some o›).1
  exact ⟨g.size, fun i hi => g.block i (by have := hP i hi; omega) (fun e => by injection e with e; have := hP i hi; omega)⟩
theorem Qu.Kp.of_grown {P : Nat → Prop} {A B : World} {row : Option Nat} (g : A.grownBy B row) (h : ∀ i, P i → i < A.heap.size ∧ some i ≠ row) : Qu.Kp P A B := ⟨g.size, fun i hi => g.block i (h i hi).1 (h i hi).2⟩
theorem Qu.Kp.of_keeps {P S : Nat → Prop} {A B : World} (g : Keeps S A B) (h : ∀ i, P i → i < A.heap.size ∧ ¬ S i) : Qu.Kp P A B := ⟨g.size, fun i hi => g.2.2.2.2 i (h i hi).1 (h i hi).2⟩

set_option maxRecDepth 100000 in
set_option maxHeartbeats 4000000 in
theorem Qu.all1_in (n : Nat) (hn : 1 ≤ n) (l Bs b lim dr : Nat) (P : Nat → Prop) (v : Value) (L : List Qu.It) (hL : L.length ≤ 100000) (J Jx : List (Nat × Qu.It) → World → Prop)
    (W : World) (hBs : W.cell? ⟨Bs, 0, none⟩ = some (.pointer (some ⟨b, 0, none⟩))) (hQ : Fi.Que W b v L lim dr) (hP : ∀ i, P i ↔ OwnQ b v i ∨ i = Bs) (hA : AbidesFrom W.heap.size J)
    (hY : ∀ pre x W, J pre W → pre.length < L.length → YieldAt Fence.wide (n - 1) Try.prog l #[.int .i64 (x.1 : Int), .agg #[.int .i64 x.2.k, .int .u8 x.2.wh, .int .u8 x.2.st, .int .i64 x.2.ad, .int .i64 x.2.ln, .int .i64 x.2.ar, .bool x.2.bad]] W fun e W' =>
      (e = .returned (.bool true) ∧ J (pre ++ [x]) W' ∧ Qu.Kp P W W') ∨ (e = .returned (.bool false) ∧ Jx (pre ++ [x]) W'))
    (h0 : J [] W) :
    CallsIn Fence.wide n Try.prog 40 #[.func (.yield l) #[] #[], .pointer (some ⟨Bs, 0, none⟩)] W fun e W' => (∃ v, e = .returned v) ∧
      ((∃ ys, ys = Qu.placed L L.length ∧ J ys W') ∨ (∃ pre, (∃ k, k ≤ L.length ∧ pre = Qu.placed L k) ∧ Jx pre W')) := by
  have c0 : W.cell? ⟨b, 0, none⟩ = some v := hQ.1.cell 0
  obtain ⟨A, c, rfl⟩ := hQ.2.1.form
  have hrow := hQ.2.1
  have HBL := Lib.hid (show Bs < W.heap.size from block_lt_of_cell hBs)
  refine callsIn_of_wp Try.func40 rfl trivial ?_ rfl
  simp only [Try.ntmps40, List.size_toArray, List.length_cons, List.length_nil, Nat.reduceAdd, Nat.reduceSub, Array.replicate_succ, Array.replicate_zero, List.push_toArray, List.append_toArray, List.nil_append, List.cons_append]
  gi_wp2
  gi_loopw [12] (fun i wr => ∃ k : Nat, k ≤ L.length ∧ i = .int .i64 k ∧ J (Qu.placed L k) wr ∧ Hid (Qu.Kp P W wr))
    (fun i _ => L.length - (intOf i).toNat)
  case atStart => exact ⟨0, Nat.zero_le _, rfl, h0, Lib.hid (Qu.Kp.refl _ _)⟩
  case round =>
    obtain ⟨k, hk, rfl, hJs, HNX⟩ := hrel
    by_cases hkl : k < L.length
    · obtain ⟨x, hx⟩ : ∃ x, x = L[k]?.getD Qu.z := ⟨_, rfl⟩
      have hxk : L[k] = x := by rw [hx]; simp [hkl]
      have hcx : ∃ g off, A = some ⟨g, off, none⟩ ∧ ∀ j u, (Fi.C x)[j]? = some u → wr.cell? ⟨g, off + k * 7 + j, none⟩ = some u := by
        rcases hrow.2 with ⟨e, hz⟩ | ⟨g, off, cap, hv, _, _, _, _, h6⟩
        · omega
        · injection hv with hv1 hv2 hv3
          refine ⟨g, off, hv1, fun j u hu => ?_⟩
          have hj : j < 7 := by
            have := (List.getElem?_eq_some_iff.1 hu).1
            rw [Fi.C_len] at this
            exact this
          rw [HNX.out.cell (p := ⟨g, off + k * 7 + j, none⟩) ((hP g).2 (.inl (.inr (by rw [hv1]; rfl)))), Nat.add_assoc]
          exact h6 _ u (by rw [Fi.L_get L hkl hj, hxk]; exact hu)
      obtain ⟨g, off, rfl, hcx⟩ := hcx
      have a0 : wr.cell? ⟨g, off + k * 7, none⟩ = some (.int .i64 x.k) := hcx 0 _ rfl
      have a1 : wr.cell? ⟨g, off + k * 7 + 1, none⟩ = some (.int .u8 x.wh) := hcx 1 _ rfl
      have a2 : wr.cell? ⟨g, off + k * 7 + 2, none⟩ = some (.int .u8 x.st) := hcx 2 _ rfl
      have a3 : wr.cell? ⟨g, off + k * 7 + 3, none⟩ = some (.int .i64 x.ad) := hcx 3 _ rfl
      have a4 : wr.cell? ⟨g, off + k * 7 + 4, none⟩ = some (.int .i64 x.ln) := hcx 4 _ rfl
      have a5 : wr.cell? ⟨g, off + k * 7 + 5, none⟩ = some (.int .i64 x.ar) := hcx 5 _ rfl
      have a6 : wr.cell? ⟨g, off + k * 7 + 6, none⟩ = some (.bool x.bad) := hcx 6 _ rfl
      have k0 : (0 : Int) ≤ (k : Int) := by omega
      have hk' : (k : Int) < (L.length : Int) := by omega
      have HS := Lib.hid hx
      have HJ := Lib.hid hJs
      have HC0 := Lib.hid c0
      have HPL := Lib.hid (show (Qu.placed L k).length < L.length by rw [Qu.placed_length]; exact hkl)
      clear hx c0 hcx hxk hJs
      have g2 : wr.grownBy (wr.alloc (.cells #[.int .i64 x.k, .int .u8 x.wh, .int .u8 x.st, .int .i64 x.ad, .int .i64 x.ln, .int .i64 x.ar, .bool x.bad] 35)) none := only_alloc (only_refl _ none) _
      have J2 := hA _ _ _ none HJ.out g2 (fun r e => by cases e)
      have K2 := Lib.hid (HNX.out.trans (Qu.Kp.of_grown (P := P) g2 (fun i hi => ⟨by
        rcases (hP i).1 hi with h | h
        · exact Nat.lt_of_lt_of_le (hQ.lt i h) HNX.out.1
        · rw [h]; exact Nat.lt_of_lt_of_le HBL.out HNX.out.1, by simp⟩)))
      obtain ⟨fn, tmps, assign, body, hy, hR⟩ := hY _ (k, x) (wr.alloc (.cells #[.int .i64 x.k, .int .u8 x.wh, .int .u8 x.st, .int .i64 x.ad, .int .i64 x.ln, .int .i64 x.ar, .bool x.bad] 35)) J2 HPL.out
      dsimp only at hy
      clear g2 J2
      gi_wp2
      refine hR.mono ?_
      rintro e W3 (⟨rfl, hJ3, hk3⟩ | ⟨rfl, hJx3⟩)
      · gi_wp2
        go_roundw
        case rel => exact ⟨k + 1, by omega, by simp, by rw [Qu.placed_succ, ← HS.out]; exact hJ3, Lib.hid (K2.out.trans hk3)⟩
        case measure => simp [intOf]; omega
      · gi_wp2
        refine bodyPost_ret (results_none rfl _ _ _) rfl ?_
        exact ⟨⟨_, rfl⟩, .inr ⟨_, ⟨k + 1, by omega, by rw [Qu.placed_succ, ← HS.out]⟩, hJx3⟩⟩
    · obtain rfl : k = L.length := by omega
      gi_wp2
      go_end0
      exact ⟨⟨_, rfl⟩, .inl ⟨_, rfl, hJs⟩⟩
end Go.Proofs.Ytkiifafocmjfkaa
