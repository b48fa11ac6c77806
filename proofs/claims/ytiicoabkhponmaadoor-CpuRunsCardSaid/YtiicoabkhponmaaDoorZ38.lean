import Derived.Test.YtiicoabkhponmaaDoorZ37
import Derived.Lib.QuietBelow
set_option linter.all false
/- The boxes of CpuSteps. -/
namespace Go.Proofs.YtiicoabkhponmaaDoor
open Go.RowKit Go.Lib
set_option linter.unusedVariables false
set_option maxRecDepth 8000

/-- The boxes of CpuSteps: V the view's bytes, U the document's. -/
structure Cu.Sv (w W : World) (bs m g bv bx : Nat) (p q : List UInt8) (vl : Int) (V U : List UInt8) (A : Option Addr) (cap : Nat) (sc xc : Array Value) : Prop where
  sb : Blk W bs 24 sc
  xb : Blk W bx 32 xc
  vb : Blk W bv 28 #[.pointer (some ⟨m, 0, none⟩), .int .i64 300, .int .i64 vl]
  me : MemG W w.heap.size m g (p ++ V ++ q)
  ar : Ints W A cap (num U)
  o1 : OffI U A bs
  o2 : OffI U A g
  o3 : OffI U A bx
  gr : w.grownBy W none
  nm : Nm w
  lt : w.heap.size ≤ bs ∧ bs < m ∧ bs < g ∧ m < bv ∧ g < bv ∧ bv < bx
section
variable {w W W1 W' : World} {bs m g bv bx bo : Nat} {p q : List UInt8} {vl : Int} {V U V' U' : List UInt8} {A A' : Option Addr} {cap cap' : Nat} {sc xc sc' : Array Value} {oa ob : Array Value}
theorem Cu.Sv.NM (h : Cu.Sv w W bs m g bv bx p q vl V U A cap sc xc) : Nm W := h.nm.grown h.gr (by simp)
theorem Cu.Sv.grown (h : Cu.Sv w W bs m g bv bx p q vl V U A cap sc xc) (k : W.grownBy W' none) : Cu.Sv w W' bs m g bv bx p q vl V U A cap sc xc :=
  ⟨h.sb.only k (by simp), h.xb.only k (by simp), h.vb.only k (by simp), h.me.grown k, Cu.ints_gr h.ar k, h.o1, h.o2, h.o3, only_trans h.gr k, h.nm, h.lt⟩
theorem Cu.Sv.off (h : Cu.Sv w W bs m g bv bx p q vl V U A cap sc xc) {i : Nat} (hi : bx < i) (ho : OffI U A i) (k : W.grownBy W' (some i)) : Cu.Sv w W' bs m g bv bx p q vl V U A cap sc xc := by
  have l := h.lt
  have ne : ∀ x, x < i → some x ≠ some i := fun x hx e => by injection e with e; omega
  exact ⟨h.sb.only k (ne _ (by omega)), h.xb.only k (ne _ (by omega)), h.vb.only k (ne _ (by omega)), h.me.far k (by omega) (by omega), h.ar.farI k ho, h.o1, h.o2, h.o3, Cu.grow_none h.gr k (by omega), h.nm, h.lt⟩
theorem Cu.Sv.step (h : Cu.Sv w W bs m g bv bx p q vl V U A cap sc xc) (hm : MemG W' w.heap.size m g (p ++ V' ++ q)) (k : W.grownBy W' (some g)) : Cu.Sv w W' bs m g bv bx p q vl V' U A cap sc xc := by
  have l := h.lt
  have ne : ∀ x, x ≠ g → some x ≠ some g := fun x hx e => by injection e with e; omega
  exact ⟨h.sb.only k (ne _ (by omega)), h.xb.only k (ne _ (by omega)), h.vb.only k (ne _ (by omega)), hm, h.ar.farI k h.o2, h.o1, h.o2, h.o3, Cu.grow_none h.gr k (by omega), h.nm, h.lt⟩
theorem Cu.Sv.putS (h : Cu.Sv w W bs m g bv bx p q vl V U A cap sc xc) (hb : Blk W' bs 24 sc') (k : W.grownBy W' (some bs)) : Cu.Sv w W' bs m g bv bx p q vl V U A cap sc' xc := by
  have l := h.lt
  have ne : ∀ x, x ≠ bs → some x ≠ some bs := fun x hx e => by injection e with e; omega
  exact ⟨hb, h.xb.only k (ne _ (by omega)), h.vb.only k (ne _ (by omega)), h.me.far k (by omega) (by omega), h.ar.farI k h.o1, h.o1, h.o2, h.o3, Cu.grow_none h.gr k (by omega), h.nm, h.lt⟩
theorem Cu.Sv.putX (h : Cu.Sv w W bs m g bv bx p q vl V U A cap sc xc) (hb : Blk W' bx 32 sc') (k : W.grownBy W' (some bx)) : Cu.Sv w W' bs m g bv bx p q vl V U A cap sc sc' := by
  have l := h.lt
  have ne : ∀ x, x ≠ bx → some x ≠ some bx := fun x hx e => by injection e with e; omega
  exact ⟨h.sb.only k (ne _ (by omega)), hb, h.vb.only k (ne _ (by omega)), h.me.far k (by omega) (by omega), h.ar.farI k h.o3, h.o1, h.o2, h.o3, Cu.grow_none h.gr k (by omega), h.nm, h.lt⟩
/-- The document's step: new bytes. -/
theorem Cu.Sv.rstep (h : Cu.Sv w W bs m g bv bx p q vl V U A cap sc xc) (k : W.grownBy W' none) (hA : Ints W' A' cap' (num U')) (ho : ∀ i, i < W.heap.size → OffI U A i → OffI U' A' i) : Cu.Sv w W' bs m g bv bx p q vl V U' A' cap' sc xc :=
  ⟨h.sb.only k (by simp), h.xb.only k (by simp), h.vb.only k (by simp), h.me.grown k, hA, ho _ h.sb.lt h.o1, ho _ h.me.lt.1 h.o2, ho _ h.xb.lt h.o3, only_trans h.gr k, h.nm, h.lt⟩
/-- And the two of what a step did. -/
def Cu.So (w W : World) (bs m g bv bx bo : Nat) (p q : List UInt8) (vl : Int) (V U : List UInt8) (A : Option Addr) (cap : Nat) (sc xc oa ob : Array Value) : Prop :=
  Cu.Sv w W bs m g bv bx p q vl V U A cap sc xc ∧ Blk W bo 36 oa ∧ Blk W (bo + 1) 37 ob ∧ bx < bo ∧ OffI U A bo ∧ OffI U A (bo + 1)
theorem Cu.so_new (h : Cu.Sv w W bs m g bv bx p q vl V U A cap sc xc) : Cu.So w ((W.alloc (.cells #[.int .i64 0, .int .i64 0, .int .i64 0, .int .i64 0] 36)).alloc (.cells #[.int .i64 0, .int .i64 0, .int .i64 0, .int .i64 0] 37)) bs m g bv bx W.heap.size p q vl V U A cap sc xc #[.int .i64 0, .int .i64 0, .int .i64 0, .int .i64 0] #[.int .i64 0, .int .i64 0, .int .i64 0, .int .i64 0] := by
  refine ⟨h.grown (only_alloc (only_alloc (only_refl W none) _) _), (Blk.new _ _ _).alloc _, ?_, h.xb.lt, Cu.offi_new h.ar (Nat.le_refl _), Cu.offi_new h.ar (Nat.le_succ _)⟩
  have := Blk.new (W.alloc (.cells #[.int .i64 0, .int .i64 0, .int .i64 0, .int .i64 0] 36)) 37 #[.int .i64 0, .int .i64 0, .int .i64 0, .int .i64 0]
  simpa using this
theorem Cu.So.step (h : Cu.So w W bs m g bv bx bo p q vl V U A cap sc xc oa ob) (hm : MemG W' w.heap.size m g (p ++ V' ++ q)) (k : W.grownBy W' (some g)) : Cu.So w W' bs m g bv bx bo p q vl V' U A cap sc xc oa ob := by
  have l := h.1.lt
  have l2 := h.2.2.2.1
  exact ⟨h.1.step hm k, h.2.1.only k (fun e => by injection e with e; omega), h.2.2.1.only k (fun e => by injection e with e; omega), l2, h.2.2.2.2⟩
theorem Cu.So.rstep (h : Cu.So w W bs m g bv bx bo p q vl V U A cap sc xc oa ob) (k : W.grownBy W' none) (hA : Ints W' A' cap' (num U')) (ho : ∀ i, i < W.heap.size → OffI U A i → OffI U' A' i) : Cu.So w W' bs m g bv bx bo p q vl V U' A' cap' sc xc oa ob :=
  ⟨h.1.rstep k hA ho, h.2.1.only k (by simp), h.2.2.1.only k (by simp), h.2.2.2.1, ho _ h.2.1.lt h.2.2.2.2.1, ho _ h.2.2.1.lt h.2.2.2.2.2⟩
end
section
variable {ty uy : TypeId}
theorem Cu.put14y {W : World} {bs bo : Nat} {s0 s1 s2 s3 s4 s5 s6 s7 s8 s9 z0 z1 z2 z3 : Value} (h : Blk W bs ty #[s0, s1, s2, s3, s4, s5, s6, s7, s8, s9]) (ho : Blk W bo uy #[z0, z1, z2, z3]) (hne : bs ≠ bo) (y0 y1 y2 y3 y4 y5 y6 y7 y8 y9 x0 x1 x2 x3 : Value) :
    ∀ W', W' = (((((((((((((W.setCell ⟨bs, 0, none⟩ y0).setCell ⟨bs, 1, none⟩ y1).setCell ⟨bs, 2, none⟩ y2).setCell ⟨bs, 3, none⟩ y3).setCell ⟨bs, 4, none⟩ y4).setCell ⟨bs, 5, none⟩ y5).setCell ⟨bs, 6, none⟩ y6).setCell ⟨bs, 7, none⟩ y7).setCell ⟨bs, 8, none⟩ y8).setCell ⟨bs, 9, none⟩ y9).setCell ⟨bo, 0, none⟩ x0).setCell ⟨bo, 1, none⟩ x1).setCell ⟨bo, 2, none⟩ x2).setCell ⟨bo, 3, none⟩ x3 → ∃ W1, (W.grownBy W1 (some bs) ∧ Blk W1 bs ty #[y0, y1, y2, y3, y4, y5, y6, y7, y8, y9]) ∧ W1.grownBy W' (some bo) ∧ Blk W' bo uy #[x0, x1, x2, x3] := by
  rintro W' rfl
  refine ⟨(((((((((W.setCell ⟨bs, 0, none⟩ y0).setCell ⟨bs, 1, none⟩ y1).setCell ⟨bs, 2, none⟩ y2).setCell ⟨bs, 3, none⟩ y3).setCell ⟨bs, 4, none⟩ y4).setCell ⟨bs, 5, none⟩ y5).setCell ⟨bs, 6, none⟩ y6).setCell ⟨bs, 7, none⟩ y7).setCell ⟨bs, 8, none⟩ y8).setCell ⟨bs, 9, none⟩ y9, ⟨?_, ?_⟩, ?_, ?_⟩
  · exact only_put (only_put (only_put (only_put (only_put (only_put (only_put (only_put (only_put (only_put (only_refl _ _) 0 y0) 1 y1) 2 y2) 3 y3) 4 y4) 5 y5) 6 y6) 7 y7) 8 y8) 9 y9
  · have b := ((((((((((h.put 0 y0).put 1 y1).put 2 y2).put 3 y3).put 4 y4).put 5 y5).put 6 y6).put 7 y7).put 8 y8).put 9 y9)
    simp only [List.setIfInBounds_toArray, List.set_cons_zero, List.set_cons_succ] at b
    exact b
  · exact only_put (only_put (only_put (only_put (only_refl _ _) 0 x0) 1 x1) 2 x2) 3 x3
  · have b := ((((((((((((((ho.far (p := ⟨bs, 0, none⟩) (Ne.symm hne) y0).far (p := ⟨bs, 1, none⟩) (Ne.symm hne) y1).far (p := ⟨bs, 2, none⟩) (Ne.symm hne) y2).far (p := ⟨bs, 3, none⟩) (Ne.symm hne) y3).far (p := ⟨bs, 4, none⟩) (Ne.symm hne) y4).far (p := ⟨bs, 5, none⟩) (Ne.symm hne) y5).far (p := ⟨bs, 6, none⟩) (Ne.symm hne) y6).far (p := ⟨bs, 7, none⟩) (Ne.symm hne) y7).far (p := ⟨bs, 8, none⟩) (Ne.symm hne) y8).far (p := ⟨bs, 9, none⟩) (Ne.symm hne) y9).put 0 x0).put 1 x1).put 2 x2).put 3 x3)
    simp only [List.setIfInBounds_toArray, List.set_cons_zero, List.set_cons_succ] at b
    exact b
end
section
variable {w W W1 W' : World} {bs m g bv bx bo : Nat} {p q : List UInt8} {vl : Int} {V U V' U' : List UInt8} {A A' : Option Addr} {cap cap' : Nat} {sc xc sc' : Array Value} {oa ob : Array Value}
theorem Cu.So.put1 {s0 s1 s2 s3 s4 s5 s6 s7 s8 s9 z0 z1 z2 z3 : Value} (h : Cu.So w W bs m g bv bx bo p q vl V U A cap #[s0, s1, s2, s3, s4, s5, s6, s7, s8, s9] xc oa #[z0, z1, z2, z3]) (y0 y1 y2 y3 y4 y5 y6 y7 y8 y9 x0 x1 x2 x3 : Value) :
    ∀ W', W' = (((((((((((((W.setCell ⟨bs, 0, none⟩ y0).setCell ⟨bs, 1, none⟩ y1).setCell ⟨bs, 2, none⟩ y2).setCell ⟨bs, 3, none⟩ y3).setCell ⟨bs, 4, none⟩ y4).setCell ⟨bs, 5, none⟩ y5).setCell ⟨bs, 6, none⟩ y6).setCell ⟨bs, 7, none⟩ y7).setCell ⟨bs, 8, none⟩ y8).setCell ⟨bs, 9, none⟩ y9).setCell ⟨bo + 1, 0, none⟩ x0).setCell ⟨bo + 1, 1, none⟩ x1).setCell ⟨bo + 1, 2, none⟩ x2).setCell ⟨bo + 1, 3, none⟩ x3 → Cu.So w W' bs m g bv bx bo p q vl V U A cap #[y0, y1, y2, y3, y4, y5, y6, y7, y8, y9] xc oa #[x0, x1, x2, x3] := by
  intro W' hW
  have l := h.1.lt
  have l2 := h.2.2.2.1
  obtain ⟨W1, ⟨k1, b1⟩, k2, b2⟩ := Cu.put14y h.1.sb h.2.2.1 (by omega) y0 y1 y2 y3 y4 y5 y6 y7 y8 y9 x0 x1 x2 x3 W' hW
  exact ⟨(h.1.putS b1 k1).off (by omega) h.2.2.2.2.2 k2, (h.2.1.only k1 (fun e => by injection e with e; omega)).only k2 (fun e => by injection e with e; omega), b2, l2, h.2.2.2.2⟩
theorem Cu.So.put2 {s0 s1 s2 s3 s4 s5 s6 s7 s8 s9 z0 z1 z2 z3 : Value} (h : Cu.So w W bs m g bv bx bo p q vl V U A cap sc #[s0, s1, s2, s3, s4, s5, s6, s7, s8, s9] #[z0, z1, z2, z3] ob) (y0 y1 y2 y3 y4 y5 y6 y7 y8 y9 x0 x1 x2 x3 : Value) :
    ∀ W', W' = (((((((((((((W.setCell ⟨bx, 0, none⟩ y0).setCell ⟨bx, 1, none⟩ y1).setCell ⟨bx, 2, none⟩ y2).setCell ⟨bx, 3, none⟩ y3).setCell ⟨bx, 4, none⟩ y4).setCell ⟨bx, 5, none⟩ y5).setCell ⟨bx, 6, none⟩ y6).setCell ⟨bx, 7, none⟩ y7).setCell ⟨bx, 8, none⟩ y8).setCell ⟨bx, 9, none⟩ y9).setCell ⟨bo, 0, none⟩ x0).setCell ⟨bo, 1, none⟩ x1).setCell ⟨bo, 2, none⟩ x2).setCell ⟨bo, 3, none⟩ x3 → Cu.So w W' bs m g bv bx bo p q vl V U A cap sc #[y0, y1, y2, y3, y4, y5, y6, y7, y8, y9] #[x0, x1, x2, x3] ob := by
  intro W' hW
  have l := h.1.lt
  have l2 := h.2.2.2.1
  obtain ⟨W1, ⟨k1, b1⟩, k2, b2⟩ := Cu.put14y h.1.xb h.2.1 (by omega) y0 y1 y2 y3 y4 y5 y6 y7 y8 y9 x0 x1 x2 x3 W' hW
  exact ⟨(h.1.putX b1 k1).off (by omega) h.2.2.2.2.1 k2, b2, (h.2.2.1.only k1 (fun e => by injection e with e; omega)).only k2 (fun e => by injection e with e; omega), l2, h.2.2.2.2⟩
/-- Behind the view and the document's state. -/
theorem Cu.sv_new {w W0 w1 w2 : World} {r : Nat → Int} {pc md : Int} {a : Cu.Af} (hs : Blk W0 bs 24 (Cu.stC pc r md)) (hb : bs = w.heap.size) (hz : W0.heap.size = w.heap.size + 1) (g0 : w.grownBy W0 none) (hm : MemG w1 W0.heap.size m g (p ++ V ++ q)) (b1 : Below W0.heap.size W0 w1) (hA : Ints w1 A cap (num V)) (ho : ∀ i, i < W0.heap.size ∨ i = g → OffI V A i)
    (g2 : (w1.alloc (.cells #[.pointer (some ⟨m, 0, none⟩), .int .i64 300, .int .i64 vl] 28)).grownBy w2 none) (hN : Nm w) (ha : a = ⟨V, pc, r, md, 0, 0, 0, 0⟩) :
    Cu.Sv w (w2.alloc (.cells (Cu.stC pc r md) 32)) bs m g w1.heap.size w2.heap.size p q vl a.v a.v A cap (Cu.stC a.pc a.r a.md) (Cu.stC a.pc a.r a.md) := by
  subst ha
  have a1 := Cu.grow_of b1
  have l1 := hm.1
  have l2 := hm.2.1
  have l5 := hm.lt
  have z1 : (w1.alloc (.cells #[.pointer (some ⟨m, 0, none⟩), .int .i64 300, .int .i64 vl] 28)).heap.size = w1.heap.size + 1 := by simp
  have zs := g2.size
  have k2 : w2.grownBy (w2.alloc (.cells (Cu.stC pc r md) 32)) none := only_alloc (only_refl _ none) _
  have k1 : w1.grownBy w2 none := only_trans (only_alloc (only_refl _ none) _) g2
  have k12 := only_trans k1 k2
  exact ⟨(hs.only a1 (by simp)).only k12 (by simp), Blk.new _ _ _, ((Blk.new w1 28 #[.pointer (some ⟨m, 0, none⟩), .int .i64 300, .int .i64 vl]).only g2 (by simp)).only k2 (by simp), Cu.memg_low (hm.grown k12) (by omega), Cu.ints_gr hA k12, ho _ (.inl (by omega)), ho _ (.inr rfl), Cu.offi_new (Cu.ints_gr hA k1) (Nat.le_refl _), only_trans g0 (only_trans a1 k12), hN, by omega⟩
end

end Go.Proofs.YtiicoabkhponmaaDoor
