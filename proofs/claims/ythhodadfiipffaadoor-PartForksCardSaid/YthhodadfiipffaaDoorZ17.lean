import Derived.Test.YthhodadfiipffaaDoorZ16
import Derived.Deep.Cut
import Derived.LoopTactic
import Derived.Lib.QuietBelow
import Derived.Deep.RegionHeld3
import Derived.Test.YthhodadfiipffaaDoorZ14
import Derived.BigQuiet
set_option linter.all false
/- The boxes and the two memories of CpuMoves. -/
namespace Go.Proofs.YthhodadfiipffaaDoor
open Go.RowKit Go.Lib
set_option linter.unusedVariables false
set_option maxRecDepth 8000

structure Cu.Mv (w W : World) (bs m1 g1 bv m2 g2 bw bt : Nat) (p1 q1 p2 q2 : List UInt8) (n1 n2 vl : Int) (V1 V2 : List UInt8) (sc tc : Array Value) : Prop where
  sb : Blk W bs 55 sc
  tb : Blk W bt 55 tc
  vb : Blk W bv 31 #[.pointer (some ⟨m1, 0, none⟩), .int .i64 n1, .int .i64 vl]
  wb : Blk W bw 31 #[.pointer (some ⟨m2, 0, none⟩), .int .i64 n2, .int .i64 vl]
  me1 : MemG W w.heap.size m1 g1 (p1 ++ V1 ++ q1)
  me2 : MemG W w.heap.size m2 g2 (p2 ++ V2 ++ q2)
  gr : w.grownBy W none
  nm : Nm w
  lt : w.heap.size ≤ bs ∧ bs < m1 ∧ bs < g1 ∧ m1 < bv ∧ g1 < bv ∧ bv < m2 ∧ bv < g2 ∧ m2 < bw ∧ g2 < bw ∧ bw < bt
theorem Cu.grow_none {w W W' : World} {i : Nat} (h : w.grownBy W none) (k : W.grownBy W' (some i)) (hi : w.heap.size ≤ i) : w.grownBy W' none :=
  ⟨k.os.trans h.os, k.tape.trans h.tape, k.output.trans h.output, Nat.le_trans h.size k.size, fun b hb _ => (k.block b (Nat.lt_of_lt_of_le hb h.size) (fun e => by injection e with e; omega)).trans (h.block b hb (by simp))⟩
section
variable {w W W' : World} {bs m1 g1 bv m2 g2 bw bt : Nat} {p1 q1 p2 q2 : List UInt8} {n1 n2 vl : Int} {V1 V2 V' : List UInt8} {sc tc sc' : Array Value}
theorem Cu.Mv.NM (h : Cu.Mv w W bs m1 g1 bv m2 g2 bw bt p1 q1 p2 q2 n1 n2 vl V1 V2 sc tc) : Nm W := h.nm.grown h.gr (by simp)
theorem Cu.Mv.grown (h : Cu.Mv w W bs m1 g1 bv m2 g2 bw bt p1 q1 p2 q2 n1 n2 vl V1 V2 sc tc) (k : W.grownBy W' none) : Cu.Mv w W' bs m1 g1 bv m2 g2 bw bt p1 q1 p2 q2 n1 n2 vl V1 V2 sc tc :=
  ⟨h.sb.only k (by simp), h.tb.only k (by simp), h.vb.only k (by simp), h.wb.only k (by simp), h.me1.grown k, h.me2.grown k, only_trans h.gr k, h.nm, h.lt⟩
/-- A block above all was written. -/
theorem Cu.Mv.off (h : Cu.Mv w W bs m1 g1 bv m2 g2 bw bt p1 q1 p2 q2 n1 n2 vl V1 V2 sc tc) {i : Nat} (hi : bt < i) (k : W.grownBy W' (some i)) : Cu.Mv w W' bs m1 g1 bv m2 g2 bw bt p1 q1 p2 q2 n1 n2 vl V1 V2 sc tc := by
  have l := h.lt
  have ne : ∀ x, x < i → some x ≠ some i := fun x hx e => by injection e with e; omega
  exact ⟨h.sb.only k (ne _ (by omega)), h.tb.only k (ne _ (by omega)), h.vb.only k (ne _ (by omega)), h.wb.only k (ne _ (by omega)), h.me1.far k (by omega) (by omega), h.me2.far k (by omega) (by omega), Cu.grow_none h.gr k (by omega), h.nm, h.lt⟩
theorem Cu.Mv.step1 (h : Cu.Mv w W bs m1 g1 bv m2 g2 bw bt p1 q1 p2 q2 n1 n2 vl V1 V2 sc tc) (hm : MemG W' w.heap.size m1 g1 (p1 ++ V' ++ q1)) (k : W.grownBy W' (some g1)) : Cu.Mv w W' bs m1 g1 bv m2 g2 bw bt p1 q1 p2 q2 n1 n2 vl V' V2 sc tc := by
  have l := h.lt
  have ne : ∀ x, x ≠ g1 → some x ≠ some g1 := fun x hx e => by injection e with e; omega
  exact ⟨h.sb.only k (ne _ (by omega)), h.tb.only k (ne _ (by omega)), h.vb.only k (ne _ (by omega)), h.wb.only k (ne _ (by omega)), hm, h.me2.far k (by omega) (by omega), Cu.grow_none h.gr k (by omega), h.nm, h.lt⟩
theorem Cu.Mv.step2 (h : Cu.Mv w W bs m1 g1 bv m2 g2 bw bt p1 q1 p2 q2 n1 n2 vl V1 V2 sc tc) (hm : MemG W' w.heap.size m2 g2 (p2 ++ V' ++ q2)) (k : W.grownBy W' (some g2)) : Cu.Mv w W' bs m1 g1 bv m2 g2 bw bt p1 q1 p2 q2 n1 n2 vl V1 V' sc tc := by
  have l := h.lt
  have ne : ∀ x, x ≠ g2 → some x ≠ some g2 := fun x hx e => by injection e with e; omega
  exact ⟨h.sb.only k (ne _ (by omega)), h.tb.only k (ne _ (by omega)), h.vb.only k (ne _ (by omega)), h.wb.only k (ne _ (by omega)), h.me1.far k (by omega) (by omega), hm, Cu.grow_none h.gr k (by omega), h.nm, h.lt⟩
theorem Cu.Mv.putS (h : Cu.Mv w W bs m1 g1 bv m2 g2 bw bt p1 q1 p2 q2 n1 n2 vl V1 V2 sc tc) (hb : Blk W' bs 55 sc') (k : W.grownBy W' (some bs)) : Cu.Mv w W' bs m1 g1 bv m2 g2 bw bt p1 q1 p2 q2 n1 n2 vl V1 V2 sc' tc := by
  have l := h.lt
  have ne : ∀ x, x ≠ bs → some x ≠ some bs := fun x hx e => by injection e with e; omega
  exact ⟨hb, h.tb.only k (ne _ (by omega)), h.vb.only k (ne _ (by omega)), h.wb.only k (ne _ (by omega)), h.me1.far k (by omega) (by omega), h.me2.far k (by omega) (by omega), Cu.grow_none h.gr k (by omega), h.nm, h.lt⟩
theorem Cu.Mv.putT (h : Cu.Mv w W bs m1 g1 bv m2 g2 bw bt p1 q1 p2 q2 n1 n2 vl V1 V2 sc tc) (hb : Blk W' bt 55 sc') (k : W.grownBy W' (some bt)) : Cu.Mv w W' bs m1 g1 bv m2 g2 bw bt p1 q1 p2 q2 n1 n2 vl V1 V2 sc sc' := by
  have l := h.lt
  have ne : ∀ x, x ≠ bt → some x ≠ some bt := fun x hx e => by injection e with e; omega
  exact ⟨h.sb.only k (ne _ (by omega)), hb, h.vb.only k (ne _ (by omega)), h.wb.only k (ne _ (by omega)), h.me1.far k (by omega) (by omega), h.me2.far k (by omega) (by omega), Cu.grow_none h.gr k (by omega), h.nm, h.lt⟩
end

/-- A state's ten stores, then what a step did. -/
theorem Cu.put14 {W : World} {bs bo : Nat} {s0 s1 s2 s3 s4 s5 s6 s7 s8 s9 z0 z1 z2 z3 : Value} (h : Blk W bs 55 #[s0, s1, s2, s3, s4, s5, s6, s7, s8, s9]) (ho : Blk W bo 90 #[z0, z1, z2, z3]) (hne : bs ≠ bo) (p0 p1 p2 p3 p4 p5 p6 p7 p8 p9 o0 o1 o2 o3 : Value) :
    ∀ W', W' = ((((((((((((((W.setCell ⟨bs, 0, none⟩ p0).setCell ⟨bs, 1, none⟩ p1).setCell ⟨bs, 2, none⟩ p2).setCell ⟨bs, 3, none⟩ p3).setCell ⟨bs, 4, none⟩ p4).setCell ⟨bs, 5, none⟩ p5).setCell ⟨bs, 6, none⟩ p6).setCell ⟨bs, 7, none⟩ p7).setCell ⟨bs, 8, none⟩ p8).setCell ⟨bs, 9, none⟩ p9).setCell ⟨bo, 0, none⟩ o0).setCell ⟨bo, 1, none⟩ o1).setCell ⟨bo, 2, none⟩ o2).setCell ⟨bo, 3, none⟩ o3) → ∃ W1, (W.grownBy W1 (some bs) ∧ Blk W1 bs 55 #[p0, p1, p2, p3, p4, p5, p6, p7, p8, p9]) ∧ W1.grownBy W' (some bo) ∧ Blk W' bo 90 #[o0, o1, o2, o3] := by
  rintro W' rfl
  refine ⟨((((((((((W.setCell ⟨bs, 0, none⟩ p0).setCell ⟨bs, 1, none⟩ p1).setCell ⟨bs, 2, none⟩ p2).setCell ⟨bs, 3, none⟩ p3).setCell ⟨bs, 4, none⟩ p4).setCell ⟨bs, 5, none⟩ p5).setCell ⟨bs, 6, none⟩ p6).setCell ⟨bs, 7, none⟩ p7).setCell ⟨bs, 8, none⟩ p8).setCell ⟨bs, 9, none⟩ p9), ⟨?_, ?_⟩, ?_, ?_⟩
  · exact only_put (only_put (only_put (only_put (only_put (only_put (only_put (only_put (only_put (only_put (only_refl _ _) 0 p0) 1 p1) 2 p2) 3 p3) 4 p4) 5 p5) 6 p6) 7 p7) 8 p8) 9 p9
  · have b := ((((((((((h.put 0 p0).put 1 p1).put 2 p2).put 3 p3).put 4 p4).put 5 p5).put 6 p6).put 7 p7).put 8 p8).put 9 p9)
    simp only [List.setIfInBounds_toArray, List.set_cons_zero, List.set_cons_succ] at b
    exact b
  · exact only_put (only_put (only_put (only_put (only_refl _ _) 0 o0) 1 o1) 2 o2) 3 o3
  · have b := ((((((((((((((ho.far (p := ⟨bs, 0, none⟩) (Ne.symm hne) p0).far (p := ⟨bs, 1, none⟩) (Ne.symm hne) p1).far (p := ⟨bs, 2, none⟩) (Ne.symm hne) p2).far (p := ⟨bs, 3, none⟩) (Ne.symm hne) p3).far (p := ⟨bs, 4, none⟩) (Ne.symm hne) p4).far (p := ⟨bs, 5, none⟩) (Ne.symm hne) p5).far (p := ⟨bs, 6, none⟩) (Ne.symm hne) p6).far (p := ⟨bs, 7, none⟩) (Ne.symm hne) p7).far (p := ⟨bs, 8, none⟩) (Ne.symm hne) p8).far (p := ⟨bs, 9, none⟩) (Ne.symm hne) p9).put 0 o0).put 1 o1).put 2 o2).put 3 o3)
    simp only [List.setIfInBounds_toArray, List.set_cons_zero, List.set_cons_succ] at b
    exact b
theorem Cu.cells10 {W : World} {b : Nat} {t : TypeId} {s0 s1 s2 s3 s4 s5 s6 s7 s8 s9 : Value} (h : Blk W b t #[s0, s1, s2, s3, s4, s5, s6, s7, s8, s9]) : W.cell? ⟨b, 0, none⟩ = some s0 ∧ W.cell? ⟨b, 1, none⟩ = some s1 ∧ W.cell? ⟨b, 2, none⟩ = some s2 ∧ W.cell? ⟨b, 3, none⟩ = some s3 ∧ W.cell? ⟨b, 4, none⟩ = some s4 ∧ W.cell? ⟨b, 5, none⟩ = some s5 ∧ W.cell? ⟨b, 6, none⟩ = some s6 ∧ W.cell? ⟨b, 7, none⟩ = some s7 ∧ W.cell? ⟨b, 8, none⟩ = some s8 ∧ W.cell? ⟨b, 9, none⟩ = some s9 := ⟨h.cell 0, h.cell 1, h.cell 2, h.cell 3, h.cell 4, h.cell 5, h.cell 6, h.cell 7, h.cell 8, h.cell 9⟩
theorem Cu.free10 {W : World} {b : Nat} {t : TypeId} {s0 s1 s2 s3 s4 s5 s6 s7 s8 s9 : Value} (h : Blk W b t #[s0, s1, s2, s3, s4, s5, s6, s7, s8, s9]) : W.frozen? ⟨b, 0, none⟩ = false ∧ W.frozen? ⟨b, 1, none⟩ = false ∧ W.frozen? ⟨b, 2, none⟩ = false ∧ W.frozen? ⟨b, 3, none⟩ = false ∧ W.frozen? ⟨b, 4, none⟩ = false ∧ W.frozen? ⟨b, 5, none⟩ = false ∧ W.frozen? ⟨b, 6, none⟩ = false ∧ W.frozen? ⟨b, 7, none⟩ = false ∧ W.frozen? ⟨b, 8, none⟩ = false ∧ W.frozen? ⟨b, 9, none⟩ = false := ⟨h.free 0, h.free 1, h.free 2, h.free 3, h.free 4, h.free 5, h.free 6, h.free 7, h.free 8, h.free 9⟩
theorem Cu.cells4 {W : World} {b : Nat} {t : TypeId} {s0 s1 s2 s3 : Value} (h : Blk W b t #[s0, s1, s2, s3]) : W.cell? ⟨b, 0, none⟩ = some s0 ∧ W.cell? ⟨b, 1, none⟩ = some s1 ∧ W.cell? ⟨b, 2, none⟩ = some s2 ∧ W.cell? ⟨b, 3, none⟩ = some s3 := ⟨h.cell 0, h.cell 1, h.cell 2, h.cell 3⟩
theorem Cu.free4 {W : World} {b : Nat} {t : TypeId} {s0 s1 s2 s3 : Value} (h : Blk W b t #[s0, s1, s2, s3]) : W.frozen? ⟨b, 0, none⟩ = false ∧ W.frozen? ⟨b, 1, none⟩ = false ∧ W.frozen? ⟨b, 2, none⟩ = false ∧ W.frozen? ⟨b, 3, none⟩ = false := ⟨h.free 0, h.free 1, h.free 2, h.free 3⟩
end Go.Proofs.YthhodadfiipffaaDoor

/- CpuMoves walked. -/
namespace Go.Proofs.YthhodadfiipffaaDoor
open Go.RowKit Go.Lib Go.Sort
set_option linter.unusedVariables false
set_option maxRecDepth 20000
attribute [-go_sem] Go.run_neq_struct

/-- The same in both views, step by step. -/
theorem Cu.step_f (V : List UInt8) (pc md : Int) (r : Nat → Int) (p q : List UInt8) (vl : Nat) (hV : V.length = vl) (hl : p.length + vl + q.length ≤ 16384) (hpc : pc ≤ 9223372036854775807) (B m g : Nat) (x : Int) (hx : x = p.length) (j : Nat) (W : World) (h : MemG W B m g (p ++ (Cu.stN V pc r md j).v ++ q)) (hN : Nm W) :
    Calls Tryd.prog 36 #[.agg #[.pointer (some ⟨m, 0, none⟩), .int .i64 x, .int .i64 vl], .agg #[.int .i64 (Cu.stN V pc r md j).pc, .int .i64 ((Cu.stN V pc r md j).r 0), .int .i64 ((Cu.stN V pc r md j).r 1), .int .i64 ((Cu.stN V pc r md j).r 2), .int .i64 ((Cu.stN V pc r md j).r 3), .int .i64 ((Cu.stN V pc r md j).r 4), .int .i64 ((Cu.stN V pc r md j).r 5), .int .i64 ((Cu.stN V pc r md j).r 6), .int .i64 ((Cu.stN V pc r md j).r 7), .int .i64 (Cu.stN V pc r md j).md]] W fun e w' => e = .returned (.tuple #[.agg #[.int .i64 (Cu.stN V pc r md (j + 1)).pc, .int .i64 ((Cu.stN V pc r md (j + 1)).r 0), .int .i64 ((Cu.stN V pc r md (j + 1)).r 1), .int .i64 ((Cu.stN V pc r md (j + 1)).r 2), .int .i64 ((Cu.stN V pc r md (j + 1)).r 3), .int .i64 ((Cu.stN V pc r md (j + 1)).r 4), .int .i64 ((Cu.stN V pc r md (j + 1)).r 5), .int .i64 ((Cu.stN V pc r md (j + 1)).r 6), .int .i64 ((Cu.stN V pc r md (j + 1)).r 7), .int .i64 (Cu.stN V pc r md (j + 1)).md], .agg #[.int .i64 (Cu.stN V pc r md (j + 1)).o1, .int .i64 (Cu.stN V pc r md (j + 1)).o2, .int .i64 (Cu.stN V pc r md (j + 1)).o3, .int .i64 (Cu.stN V pc r md (j + 1)).o4]]) ∧ MemG w' B m g (p ++ (Cu.stN V pc r md (j + 1)).v ++ q) ∧ W.grownBy w' (some g) := by
  have hlen := Cu.stN_len V pc r md j
  have hp := Cu.stN_pc V pc r md (by omega) hpc j
  have hs := Cu.step_any W B m g p (Cu.stN V pc r md j).v q h hN (by simp only [List.length_append]; omega) (Cu.stN V pc r md j).pc hp (Cu.stN V pc r md j).r (Cu.stN V pc r md j).md
  rw [hlen, hV, ← hx] at hs
  exact hs

theorem Cu.grow_of {W W' : World} (b : Below W.heap.size W W') : W.grownBy W' none := ⟨b.os, b.tape, b.output, b.size, fun i hi _ => b.block i hi⟩
section
variable {w W0 w1 w2 : World} {bs m1 g1 m2 g2 : Nat} {p1 q1 p2 q2 V : List UInt8} {n1 n2 vl : Int} {sc : Array Value}
/-- Behind the two views. -/
def Cu.Pre2 (w W : World) (bs m1 g1 bv m2 g2 bw : Nat) (p1 q1 p2 q2 V : List UInt8) (n1 n2 vl : Int) (sc : Array Value) : Prop :=
  Blk W bs 55 sc ∧ Blk W bv 31 #[.pointer (some ⟨m1, 0, none⟩), .int .i64 n1, .int .i64 vl] ∧ Blk W bw 31 #[.pointer (some ⟨m2, 0, none⟩), .int .i64 n2, .int .i64 vl] ∧ MemG W w.heap.size m1 g1 (p1 ++ V ++ q1) ∧ MemG W w.heap.size m2 g2 (p2 ++ V ++ q2) ∧ w.grownBy W none ∧
  (w.heap.size ≤ bs ∧ bs < m1 ∧ bs < g1 ∧ m1 < bv ∧ g1 < bv ∧ bv < m2 ∧ bv < g2 ∧ m2 < bw ∧ g2 < bw ∧ bw < W.heap.size)
theorem Cu.pre (hs : Blk W0 bs 55 sc) (hb : bs = w.heap.size) (hz : W0.heap.size = w.heap.size + 1) (g0 : w.grownBy W0 none) (hm1 : MemG w1 W0.heap.size m1 g1 (p1 ++ V ++ q1)) (b1 : Below W0.heap.size W0 w1)
    (hm2 : MemG w2 (w1.alloc (.cells #[.pointer (some ⟨m1, 0, none⟩), .int .i64 n1, .int .i64 vl] 31)).heap.size m2 g2 (p2 ++ V ++ q2)) (b2 : Below (w1.alloc (.cells #[.pointer (some ⟨m1, 0, none⟩), .int .i64 n1, .int .i64 vl] 31)).heap.size (w1.alloc (.cells #[.pointer (some ⟨m1, 0, none⟩), .int .i64 n1, .int .i64 vl] 31)) w2) :
    Cu.Pre2 w (w2.alloc (.cells #[.pointer (some ⟨m2, 0, none⟩), .int .i64 n2, .int .i64 vl] 31)) bs m1 g1 w1.heap.size m2 g2 w2.heap.size p1 q1 p2 q2 V n1 n2 vl sc := by
  have a1 := Cu.grow_of b1
  have a2 := Cu.grow_of b2
  have n0 : ∀ (W : World) (o : Obj), W.grownBy (W.alloc o) none := fun W o => only_alloc (only_refl W none) o
  have l1 := hm1.1
  have l2 := hm1.2.1
  have l3 := hm2.1
  have l4 := hm2.2.1
  have l5 := hm1.lt
  have l6 := hm2.lt
  have z1 : (w1.alloc (.cells #[.pointer (some ⟨m1, 0, none⟩), .int .i64 n1, .int .i64 vl] 31)).heap.size = w1.heap.size + 1 := by simp
  have hv := Blk.new w1 31 #[.pointer (some ⟨m1, 0, none⟩), .int .i64 n1, .int .i64 vl]
  generalize hW : w1.alloc (.cells #[.pointer (some ⟨m1, 0, none⟩), .int .i64 n1, .int .i64 vl] 31) = w1' at *
  have a12 : w1.grownBy w1' none := by rw [← hW]; exact n0 _ _
  have all : w1'.grownBy (w2.alloc (.cells #[.pointer (some ⟨m2, 0, none⟩), .int .i64 n2, .int .i64 vl] 31)) none := only_trans a2 (n0 _ _)
  have a01 : w1.grownBy (w2.alloc (.cells #[.pointer (some ⟨m2, 0, none⟩), .int .i64 n2, .int .i64 vl] 31)) none := only_trans a12 all
  refine ⟨hs.only (only_trans a1 a01) (by simp), hv.only all (by simp), Blk.new _ _ _, Cu.memg_low (hm1.grown a01) (by omega), Cu.memg_low (hm2.grown (n0 _ _)) (by omega), only_trans g0 (only_trans a1 a01), ?_⟩
  have z2 : (w2.alloc (.cells #[.pointer (some ⟨m2, 0, none⟩), .int .i64 n2, .int .i64 vl] 31)).heap.size = w2.heap.size + 1 := by simp
  omega
theorem Cu.start {W : World} {bv bw : Nat} {r : Nat → Int} {pc md : Int} {a : Cu.Af} (h : Cu.Pre2 w W bs m1 g1 bv m2 g2 bw p1 q1 p2 q2 V n1 n2 vl (Cu.stC pc r md)) (hN : Nm w) (ha : a = ⟨V, pc, r, md, 0, 0, 0, 0⟩) :
    Cu.Mv w (W.alloc (.cells (Cu.stC pc r md) 55)) bs m1 g1 bv m2 g2 bw W.heap.size p1 q1 p2 q2 n1 n2 vl a.v a.v (Cu.stC a.pc a.r a.md) (Cu.stC a.pc a.r a.md) := by
  subst ha
  obtain ⟨h1, h2, h3, h4, h5, h6, h7⟩ := h
  have k : W.grownBy (W.alloc (.cells (Cu.stC pc r md) 55)) none := only_alloc (only_refl W none) _
  exact ⟨h1.only k (by simp), Blk.new _ _ _, h2.only k (by simp), h3.only k (by simp), h4.grown k, h5.grown k, only_trans h6 k, hN, h7⟩
end
section
variable {w W W' : World} {bs m1 g1 bv m2 g2 bw bt bo : Nat} {p1 q1 p2 q2 : List UInt8} {n1 n2 vl : Int} {V1 V2 V' : List UInt8} {sc tc sc' : Array Value} {oa ob : Array Value}
/-- The boxes, and the two of what a step did. -/
def Cu.Mo (w W : World) (bs m1 g1 bv m2 g2 bw bt bo : Nat) (p1 q1 p2 q2 : List UInt8) (n1 n2 vl : Int) (V1 V2 : List UInt8) (sc tc oa ob : Array Value) : Prop :=
  Cu.Mv w W bs m1 g1 bv m2 g2 bw bt p1 q1 p2 q2 n1 n2 vl V1 V2 sc tc ∧ Blk W bo 90 oa ∧ Blk W (bo + 1) 90 ob ∧ bt < bo
theorem Cu.round1 (h : Cu.Mv w W bs m1 g1 bv m2 g2 bw bt p1 q1 p2 q2 n1 n2 vl V1 V2 sc tc) : Cu.Mo w ((W.alloc (.cells #[.int .i64 0, .int .i64 0, .int .i64 0, .int .i64 0] 90)).alloc (.cells #[.int .i64 0, .int .i64 0, .int .i64 0, .int .i64 0] 90)) bs m1 g1 bv m2 g2 bw bt W.heap.size p1 q1 p2 q2 n1 n2 vl V1 V2 sc tc #[.int .i64 0, .int .i64 0, .int .i64 0, .int .i64 0] #[.int .i64 0, .int .i64 0, .int .i64 0, .int .i64 0] := by
  refine ⟨h.grown (only_alloc (only_alloc (only_refl W none) _) _), (Blk.new _ _ _).alloc _, ?_, h.tb.lt⟩
  have := Blk.new (W.alloc (.cells #[.int .i64 0, .int .i64 0, .int .i64 0, .int .i64 0] 90)) 90 #[.int .i64 0, .int .i64 0, .int .i64 0, .int .i64 0]
  simpa using this
theorem Cu.round2 (h : Cu.Mo w W bs m1 g1 bv m2 g2 bw bt bo p1 q1 p2 q2 n1 n2 vl V1 V2 sc tc oa ob) (hm : MemG W' w.heap.size m1 g1 (p1 ++ V' ++ q1)) (k : W.grownBy W' (some g1)) : Cu.Mo w W' bs m1 g1 bv m2 g2 bw bt bo p1 q1 p2 q2 n1 n2 vl V' V2 sc tc oa ob := by
  have l := h.1.lt
  have l2 := h.2.2.2
  exact ⟨h.1.step1 hm k, h.2.1.only k (fun e => by injection e with e; omega), h.2.2.1.only k (fun e => by injection e with e; omega), l2⟩
theorem Cu.round3 (h : Cu.Mo w W bs m1 g1 bv m2 g2 bw bt bo p1 q1 p2 q2 n1 n2 vl V1 V2 sc tc oa ob) (hm : MemG W' w.heap.size m2 g2 (p2 ++ V' ++ q2)) (k : W.grownBy W' (some g2)) : Cu.Mo w W' bs m1 g1 bv m2 g2 bw bt bo p1 q1 p2 q2 n1 n2 vl V1 V' sc tc oa ob := by
  have l := h.1.lt
  have l2 := h.2.2.2
  exact ⟨h.1.step2 hm k, h.2.1.only k (fun e => by injection e with e; omega), h.2.2.1.only k (fun e => by injection e with e; omega), l2⟩
theorem Cu.put_s {s0 s1 s2 s3 s4 s5 s6 s7 s8 s9 z0 z1 z2 z3 : Value} (h : Cu.Mo w W bs m1 g1 bv m2 g2 bw bt bo p1 q1 p2 q2 n1 n2 vl V1 V2 #[s0, s1, s2, s3, s4, s5, s6, s7, s8, s9] tc #[z0, z1, z2, z3] ob) (y0 y1 y2 y3 y4 y5 y6 y7 y8 y9 x0 x1 x2 x3 : Value) :
    ∀ W', W' = ((((((((((((((W.setCell ⟨bs, 0, none⟩ y0).setCell ⟨bs, 1, none⟩ y1).setCell ⟨bs, 2, none⟩ y2).setCell ⟨bs, 3, none⟩ y3).setCell ⟨bs, 4, none⟩ y4).setCell ⟨bs, 5, none⟩ y5).setCell ⟨bs, 6, none⟩ y6).setCell ⟨bs, 7, none⟩ y7).setCell ⟨bs, 8, none⟩ y8).setCell ⟨bs, 9, none⟩ y9).setCell ⟨bo, 0, none⟩ x0).setCell ⟨bo, 1, none⟩ x1).setCell ⟨bo, 2, none⟩ x2).setCell ⟨bo, 3, none⟩ x3) → Cu.Mo w W' bs m1 g1 bv m2 g2 bw bt bo p1 q1 p2 q2 n1 n2 vl V1 V2 #[y0, y1, y2, y3, y4, y5, y6, y7, y8, y9] tc #[x0, x1, x2, x3] ob := by
  intro W' hW
  have l := h.1.lt
  have l2 := h.2.2.2
  obtain ⟨W1, ⟨k1, b1⟩, k2, b2⟩ := Cu.put14 h.1.sb h.2.1 (by omega) y0 y1 y2 y3 y4 y5 y6 y7 y8 y9 x0 x1 x2 x3 W' hW
  exact ⟨(h.1.putS b1 k1).off (by omega) k2, b2, (h.2.2.1.only k1 (fun e => by injection e with e; omega)).only k2 (fun e => by injection e with e; omega), l2⟩
theorem Cu.put_t {s0 s1 s2 s3 s4 s5 s6 s7 s8 s9 z0 z1 z2 z3 : Value} (h : Cu.Mo w W bs m1 g1 bv m2 g2 bw bt bo p1 q1 p2 q2 n1 n2 vl V1 V2 sc #[s0, s1, s2, s3, s4, s5, s6, s7, s8, s9] oa #[z0, z1, z2, z3]) (y0 y1 y2 y3 y4 y5 y6 y7 y8 y9 x0 x1 x2 x3 : Value) :
    ∀ W', W' = ((((((((((((((W.setCell ⟨bt, 0, none⟩ y0).setCell ⟨bt, 1, none⟩ y1).setCell ⟨bt, 2, none⟩ y2).setCell ⟨bt, 3, none⟩ y3).setCell ⟨bt, 4, none⟩ y4).setCell ⟨bt, 5, none⟩ y5).setCell ⟨bt, 6, none⟩ y6).setCell ⟨bt, 7, none⟩ y7).setCell ⟨bt, 8, none⟩ y8).setCell ⟨bt, 9, none⟩ y9).setCell ⟨bo + 1, 0, none⟩ x0).setCell ⟨bo + 1, 1, none⟩ x1).setCell ⟨bo + 1, 2, none⟩ x2).setCell ⟨bo + 1, 3, none⟩ x3) → Cu.Mo w W' bs m1 g1 bv m2 g2 bw bt bo p1 q1 p2 q2 n1 n2 vl V1 V2 sc #[y0, y1, y2, y3, y4, y5, y6, y7, y8, y9] oa #[x0, x1, x2, x3] := by
  intro W' hW
  have l := h.1.lt
  have l2 := h.2.2.2
  obtain ⟨W1, ⟨k1, b1⟩, k2, b2⟩ := Cu.put14 h.1.tb h.2.2.1 (by omega) y0 y1 y2 y3 y4 y5 y6 y7 y8 y9 x0 x1 x2 x3 W' hW
  exact ⟨(h.1.putT b1 k1).off (by omega) k2, (h.2.1.only k1 (fun e => by injection e with e; omega)).only k2 (fun e => by injection e with e; omega), b2, l2⟩
end
theorem Cu.below {w W : World} (h : w.grownBy W none) : Below w.heap.size w W := below_of_only h (Nat.le_refl _) (fun k hk => by cases hk)
theorem Cu.text_re {W : World} {B m g vl x : Nat} {p V q : List UInt8} (hx : x = p.length) (hV : V.length = vl) (hl : p.length + vl + q.length ≤ 16384) (h : MemG W B m g (p ++ V ++ q)) :
    Calls Tryd.prog 41 #[.agg #[.pointer (some ⟨m, 0, none⟩), .int .i64 x, .int .i64 vl]] W fun e w' => e = .returned (.string ⟨V.toArray⟩) ∧ Below W.heap.size W w' := by
  subst hx hV
  exact (Cu.text_any W B m p V q h.mem (by simp only [List.length_append]; exact hl)).mono fun e w' ⟨e1, g⟩ => ⟨e1, Cu.below g⟩
end Go.Proofs.YthhodadfiipffaaDoor

/- Package cpu: Give and Wake, by contract. -/
namespace Go.Proofs.YthhodadfiipffaaDoor
open Go.RowKit Go.Lib
set_option linter.unusedVariables false
set_option maxRecDepth 8000

theorem Cu.wake_any (pc md : Int) (r : Nat → Int) (w : World) : Calls Tryd.prog 35 #[.agg #[.int .i64 pc, .int .i64 (r 0), .int .i64 (r 1), .int .i64 (r 2), .int .i64 (r 3), .int .i64 (r 4), .int .i64 (r 5), .int .i64 (r 6), .int .i64 (r 7), .int .i64 md]] w fun x w' => x = .returned (.agg #[.int .i64 pc, .int .i64 (r 0), .int .i64 (r 1), .int .i64 (r 2), .int .i64 (r 3), .int .i64 (r 4), .int .i64 (r 5), .int .i64 (r 6), .int .i64 (r 7), .int .i64 (if md = 1 then 0 else md)]) ∧ w.grownBy w' none := by
  by_cases h : md = 1
  · rw [if_pos h]
    subst h
    go_enter Tryd.func35, Tryd.ntmps35
    go_wp2
    refine bodyPost_ret (v := .agg #[.int .i64 pc, .int .i64 (r 0), .int .i64 (r 1), .int .i64 (r 2), .int .i64 (r 3), .int .i64 (r 4), .int .i64 (r 5), .int .i64 (r 6), .int .i64 (r 7), .int .i64 0]) (by simp [results, Tryd.results35, go_sem]) rfl ⟨rfl, ?_⟩
    repeat (first | exact only_refl _ _ | refine only_alloc ?_ _)
  · rw [if_neg h]
    have h1 : (md == 1) = false := by simpa using h
    go_enter Tryd.func35, Tryd.ntmps35
    go_wp2
    refine bodyPost_ret (v := .agg #[.int .i64 pc, .int .i64 (r 0), .int .i64 (r 1), .int .i64 (r 2), .int .i64 (r 3), .int .i64 (r 4), .int .i64 (r 5), .int .i64 (r 6), .int .i64 (r 7), .int .i64 md]) (by simp [results, Tryd.results35, go_sem]) rfl ⟨rfl, ?_⟩
    repeat (first | exact only_refl _ _ | refine only_alloc ?_ _)
theorem Cu.give_off (pc md x n : Int) (r : Nat → Int) (hx : ¬ (0 ≤ x ∧ x < 8)) (w : World) : Calls Tryd.prog 37 #[.agg #[.int .i64 pc, .int .i64 (r 0), .int .i64 (r 1), .int .i64 (r 2), .int .i64 (r 3), .int .i64 (r 4), .int .i64 (r 5), .int .i64 (r 6), .int .i64 (r 7), .int .i64 md], .int .i64 x, .int .i64 n] w fun e w' => e = .returned (.agg #[.int .i64 pc, .int .i64 (r 0), .int .i64 (r 1), .int .i64 (r 2), .int .i64 (r 3), .int .i64 (r 4), .int .i64 (r 5), .int .i64 (r 6), .int .i64 (r 7), .int .i64 md]) ∧ w.grownBy w' none := by
  have key : x < 0 ∨ (0 ≤ x ∧ ¬ x < 8) := by omega
  rcases key with h | ⟨h, h2⟩
  all_goals
    go_enter Tryd.func37, Tryd.ntmps37
    go_wp2
    refine bodyPost_ret (v := .agg #[.int .i64 pc, .int .i64 (r 0), .int .i64 (r 1), .int .i64 (r 2), .int .i64 (r 3), .int .i64 (r 4), .int .i64 (r 5), .int .i64 (r 6), .int .i64 (r 7), .int .i64 md]) (by simp [results, Tryd.results37, go_sem]) rfl ⟨rfl, ?_⟩
    repeat (first | exact only_refl _ _ | refine only_alloc ?_ _)
theorem Cu.give_in (pc md n : Int) (r : Nat → Int) (x : Nat) (hx : x < 8) (w : World) : Calls Tryd.prog 37 #[.agg #[.int .i64 pc, .int .i64 (r 0), .int .i64 (r 1), .int .i64 (r 2), .int .i64 (r 3), .int .i64 (r 4), .int .i64 (r 5), .int .i64 (r 6), .int .i64 (r 7), .int .i64 md], .int .i64 x, .int .i64 n] w fun e w' => e = .returned (.agg #[.int .i64 pc, .int .i64 (Cu.upd r x (n % 65536) 0), .int .i64 (Cu.upd r x (n % 65536) 1), .int .i64 (Cu.upd r x (n % 65536) 2), .int .i64 (Cu.upd r x (n % 65536) 3), .int .i64 (Cu.upd r x (n % 65536) 4), .int .i64 (Cu.upd r x (n % 65536) 5), .int .i64 (Cu.upd r x (n % 65536) 6), .int .i64 (Cu.upd r x (n % 65536) 7), .int .i64 md]) ∧ w.grownBy w' none := by
  have key : x = 0 ∨ x = 1 ∨ x = 2 ∨ x = 3 ∨ x = 4 ∨ x = 5 ∨ x = 6 ∨ x = 7 := by omega
  rcases key with rfl | rfl | rfl | rfl | rfl | rfl | rfl | rfl
  · go_enter Tryd.func37, Tryd.ntmps37
    go_wp2_with (go_at_call 43; (with_reducible refine (Cu.two_any _ _).mono ?_); rintro e w' ⟨rfl, rfl⟩)
    refine bodyPost_ret (v := .agg #[.int .i64 pc, .int .i64 (n % 65536), .int .i64 (r 1), .int .i64 (r 2), .int .i64 (r 3), .int .i64 (r 4), .int .i64 (r 5), .int .i64 (r 6), .int .i64 (r 7), .int .i64 md]) (by simp [results, Tryd.results37, go_sem]) rfl ⟨rfl, ?_⟩
    repeat (first | exact only_refl _ _ | refine only_alloc ?_ _)
  · go_enter Tryd.func37, Tryd.ntmps37
    go_wp2_with (go_at_call 43; (with_reducible refine (Cu.two_any _ _).mono ?_); rintro e w' ⟨rfl, rfl⟩)
    refine bodyPost_ret (v := .agg #[.int .i64 pc, .int .i64 (r 0), .int .i64 (n % 65536), .int .i64 (r 2), .int .i64 (r 3), .int .i64 (r 4), .int .i64 (r 5), .int .i64 (r 6), .int .i64 (r 7), .int .i64 md]) (by simp [results, Tryd.results37, go_sem]) rfl ⟨rfl, ?_⟩
    repeat (first | exact only_refl _ _ | refine only_alloc ?_ _)
  · go_enter Tryd.func37, Tryd.ntmps37
    go_wp2_with (go_at_call 43; (with_reducible refine (Cu.two_any _ _).mono ?_); rintro e w' ⟨rfl, rfl⟩)
    refine bodyPost_ret (v := .agg #[.int .i64 pc, .int .i64 (r 0), .int .i64 (r 1), .int .i64 (n % 65536), .int .i64 (r 3), .int .i64 (r 4), .int .i64 (r 5), .int .i64 (r 6), .int .i64 (r 7), .int .i64 md]) (by simp [results, Tryd.results37, go_sem]) rfl ⟨rfl, ?_⟩
    repeat (first | exact only_refl _ _ | refine only_alloc ?_ _)
  · go_enter Tryd.func37, Tryd.ntmps37
    go_wp2_with (go_at_call 43; (with_reducible refine (Cu.two_any _ _).mono ?_); rintro e w' ⟨rfl, rfl⟩)
    refine bodyPost_ret (v := .agg #[.int .i64 pc, .int .i64 (r 0), .int .i64 (r 1), .int .i64 (r 2), .int .i64 (n % 65536), .int .i64 (r 4), .int .i64 (r 5), .int .i64 (r 6), .int .i64 (r 7), .int .i64 md]) (by simp [results, Tryd.results37, go_sem]) rfl ⟨rfl, ?_⟩
    repeat (first | exact only_refl _ _ | refine only_alloc ?_ _)
  · go_enter Tryd.func37, Tryd.ntmps37
    go_wp2_with (go_at_call 43; (with_reducible refine (Cu.two_any _ _).mono ?_); rintro e w' ⟨rfl, rfl⟩)
    refine bodyPost_ret (v := .agg #[.int .i64 pc, .int .i64 (r 0), .int .i64 (r 1), .int .i64 (r 2), .int .i64 (r 3), .int .i64 (n % 65536), .int .i64 (r 5), .int .i64 (r 6), .int .i64 (r 7), .int .i64 md]) (by simp [results, Tryd.results37, go_sem]) rfl ⟨rfl, ?_⟩
    repeat (first | exact only_refl _ _ | refine only_alloc ?_ _)
  · go_enter Tryd.func37, Tryd.ntmps37
    go_wp2_with (go_at_call 43; (with_reducible refine (Cu.two_any _ _).mono ?_); rintro e w' ⟨rfl, rfl⟩)
    refine bodyPost_ret (v := .agg #[.int .i64 pc, .int .i64 (r 0), .int .i64 (r 1), .int .i64 (r 2), .int .i64 (r 3), .int .i64 (r 4), .int .i64 (n % 65536), .int .i64 (r 6), .int .i64 (r 7), .int .i64 md]) (by simp [results, Tryd.results37, go_sem]) rfl ⟨rfl, ?_⟩
    repeat (first | exact only_refl _ _ | refine only_alloc ?_ _)
  · go_enter Tryd.func37, Tryd.ntmps37
    go_wp2_with (go_at_call 43; (with_reducible refine (Cu.two_any _ _).mono ?_); rintro e w' ⟨rfl, rfl⟩)
    refine bodyPost_ret (v := .agg #[.int .i64 pc, .int .i64 (r 0), .int .i64 (r 1), .int .i64 (r 2), .int .i64 (r 3), .int .i64 (r 4), .int .i64 (r 5), .int .i64 (n % 65536), .int .i64 (r 7), .int .i64 md]) (by simp [results, Tryd.results37, go_sem]) rfl ⟨rfl, ?_⟩
    repeat (first | exact only_refl _ _ | refine only_alloc ?_ _)
  · go_enter Tryd.func37, Tryd.ntmps37
    go_wp2_with (go_at_call 43; (with_reducible refine (Cu.two_any _ _).mono ?_); rintro e w' ⟨rfl, rfl⟩)
    refine bodyPost_ret (v := .agg #[.int .i64 pc, .int .i64 (r 0), .int .i64 (r 1), .int .i64 (r 2), .int .i64 (r 3), .int .i64 (r 4), .int .i64 (r 5), .int .i64 (r 6), .int .i64 (n % 65536), .int .i64 md]) (by simp [results, Tryd.results37, go_sem]) rfl ⟨rfl, ?_⟩
    repeat (first | exact only_refl _ _ | refine only_alloc ?_ _)
end Go.Proofs.YthhodadfiipffaaDoor

/- Package part: what may be told; a hypercall's result. -/
namespace Go.Proofs.YthhodadfiipffaaDoor
open Go.RowKit Go.Lib
set_option linter.unusedVariables false
set_option maxRecDepth 8000

/-- What a client may be told. -/
structure Pt.F where
  t : Int
  f : Int
  d : Int
  p : Int
  b : Int
def Pt.res (n : Int) (x : Pt.F) : Int := (if n = 1 then x.t else if n = 2 then x.d else if n = 3 then x.p else if n = 4 then x.b else if n = 5 then x.f else 65535) % 65536
theorem Pt.res_lt (n : Int) (x : Pt.F) : 0 ≤ Pt.res n x ∧ Pt.res n x < 65536 := by unfold Pt.res; omega
theorem Pt.w16 (v : Int) : wrap64 (IntKind.u16.wrap v) = v % 65536 := by
  have h : IntKind.u16.wrap v = v % 65536 := by simp [IntKind.wrap, IntKind.bits, IntKind.signed]
  rw [h]
  unfold wrap64
  omega
theorem Pt.qleft {P : Program} {f : FuncId} {args : Array Value} {w : World} {n : Nat} {v : Value} (h : Calls P f args (w.drewN n) fun e w' => e = .returned v ∧ w.drewN n = w') : Calls P f args (w.drewN n) fun e w'' => e = .returned v ∧ ∃ m, w'' = w.drewN m := h.mono fun _ _ ⟨he, hm⟩ => ⟨he, n, hm.symm⟩
theorem Pt.result_any (n : Int) (x : Pt.F) (w : World) : Calls Tryd.prog 20 #[.int .i64 n, .agg #[.int .i64 x.t, .int .i64 x.f, .int .i64 x.d, .int .i64 x.p, .int .i64 x.b]] w fun e w' => e = .returned (.int .i64 (Pt.res n x)) ∧ w.grownBy w' none := by
  unfold Pt.res
  by_cases h1 : n = 1
  · subst h1
    go_enter Tryd.func20, Tryd.ntmps20
    go_wp2
    go_ret
    exact ⟨congrArg (fun z => Ending.returned (Value.int .i64 z)) (Pt.w16 x.t), only_alloc (only_refl _ none) _⟩
  have b1 : (n == 1) = false := by simpa using h1
  by_cases h2 : n = 2
  · subst h2
    go_enter Tryd.func20, Tryd.ntmps20
    go_wp2
    go_ret
    exact ⟨congrArg (fun z => Ending.returned (Value.int .i64 z)) (Pt.w16 x.d), only_alloc (only_refl _ none) _⟩
  have b2 : (n == 2) = false := by simpa using h2
  by_cases h3 : n = 3
  · subst h3
    go_enter Tryd.func20, Tryd.ntmps20
    go_wp2
    go_ret
    exact ⟨congrArg (fun z => Ending.returned (Value.int .i64 z)) (Pt.w16 x.p), only_alloc (only_refl _ none) _⟩
  have b3 : (n == 3) = false := by simpa using h3
  by_cases h4 : n = 4
  · subst h4
    go_enter Tryd.func20, Tryd.ntmps20
    go_wp2
    go_ret
    exact ⟨congrArg (fun z => Ending.returned (Value.int .i64 z)) (Pt.w16 x.b), only_alloc (only_refl _ none) _⟩
  have b4 : (n == 4) = false := by simpa using h4
  by_cases h5 : n = 5
  · subst h5
    go_enter Tryd.func20, Tryd.ntmps20
    go_wp2
    go_ret
    exact ⟨congrArg (fun z => Ending.returned (Value.int .i64 z)) (Pt.w16 x.f), only_alloc (only_refl _ none) _⟩
  have b5 : (n == 5) = false := by simpa using h5
  simp only [if_neg h1, if_neg h2, if_neg h3, if_neg h4, if_neg h5]
  go_enter Tryd.func20, Tryd.ntmps20
  go_wp2
  go_ret
  exact ⟨rfl, only_alloc (only_refl _ none) _⟩
theorem Pt.facts_any (x : Pt.F) (w : World) : Calls Tryd.prog 22 #[.agg #[.int .i64 x.t, .int .i64 x.f, .int .i64 x.d, .int .i64 x.p, .int .i64 x.b]] w fun e w' => e = .returned (.agg #[.int .i64 x.t, .int .i64 x.f, .int .i64 x.d, .int .i64 x.p, .int .i64 x.b]) ∧ w.grownBy w' none := by
  go_enter Tryd.func22, Tryd.ntmps22
  go_wp2
  refine bodyPost_ret (v := .agg #[.int .i64 x.t, .int .i64 x.f, .int .i64 x.d, .int .i64 x.p, .int .i64 x.b]) (by simp [results, Tryd.results22, go_sem]) rfl ⟨rfl, ?_⟩
  repeat (first | exact only_refl _ _ | refine only_alloc ?_ _)
set_option maxHeartbeats 3200000 in
theorem Pt.rresult_any (n : Int) (x : Pt.F) (w : World) : Calls Tryd.prog 21 #[.int .i64 n, .agg #[.int .i64 x.t, .int .i64 x.f, .int .i64 x.d, .int .i64 x.p, .int .i64 x.b]] w fun e w' => e = .returned (.int .i64 (Pt.res n x)) ∧ w.grownBy w' none := by
  unfold Pt.res
  by_cases h1 : n = 1
  · subst h1
    have HE := Lib.hid (show x.t % 256 + 256 * (x.t / 256 % 256) = x.t % 65536 by omega)
    have hw1 : IntKind.i64.wrap (256 * (x.t / 256 % 256)) = 256 * (x.t / 256 % 256) := by rw [IntKind.wrap_i64]; omega
    have hw2 : IntKind.i64.wrap (x.t % 256 + 256 * (x.t / 256 % 256)) = x.t % 256 + 256 * (x.t / 256 % 256) := by rw [IntKind.wrap_i64]; omega
    go_enter Tryd.func21, Tryd.ntmps21
    go_wp2
    go_quiet (first
      | (go_at_call 39; with_reducible exact Pt.qleft (rlow_any _ _))
      | (go_at_call 40; with_reducible exact Pt.qleft (rhigh_any _ _)))
    go_wp2
    go_ret
    exact ⟨congrArg (fun z => Ending.returned (Value.int .i64 z)) HE.out, by repeat (first | exact only_refl _ _ | refine only_drewN ?_ _ | refine only_alloc ?_ _)⟩
  by_cases h2 : n = 2
  · subst h2
    have HE := Lib.hid (show x.d % 256 + 256 * (x.d / 256 % 256) = x.d % 65536 by omega)
    have hw1 : IntKind.i64.wrap (256 * (x.d / 256 % 256)) = 256 * (x.d / 256 % 256) := by rw [IntKind.wrap_i64]; omega
    have hw2 : IntKind.i64.wrap (x.d % 256 + 256 * (x.d / 256 % 256)) = x.d % 256 + 256 * (x.d / 256 % 256) := by rw [IntKind.wrap_i64]; omega
    go_enter Tryd.func21, Tryd.ntmps21
    go_wp2
    go_quiet (first
      | (go_at_call 39; with_reducible exact Pt.qleft (rlow_any _ _))
      | (go_at_call 40; with_reducible exact Pt.qleft (rhigh_any _ _)))
    go_wp2
    go_ret
    exact ⟨congrArg (fun z => Ending.returned (Value.int .i64 z)) HE.out, by repeat (first | exact only_refl _ _ | refine only_drewN ?_ _ | refine only_alloc ?_ _)⟩
  by_cases h3 : n = 3
  · subst h3
    have HE := Lib.hid (show x.p % 256 + 256 * (x.p / 256 % 256) = x.p % 65536 by omega)
    have hw1 : IntKind.i64.wrap (256 * (x.p / 256 % 256)) = 256 * (x.p / 256 % 256) := by rw [IntKind.wrap_i64]; omega
    have hw2 : IntKind.i64.wrap (x.p % 256 + 256 * (x.p / 256 % 256)) = x.p % 256 + 256 * (x.p / 256 % 256) := by rw [IntKind.wrap_i64]; omega
    go_enter Tryd.func21, Tryd.ntmps21
    go_wp2
    go_quiet (first
      | (go_at_call 39; with_reducible exact Pt.qleft (rlow_any _ _))
      | (go_at_call 40; with_reducible exact Pt.qleft (rhigh_any _ _)))
    go_wp2
    go_ret
    exact ⟨congrArg (fun z => Ending.returned (Value.int .i64 z)) HE.out, by repeat (first | exact only_refl _ _ | refine only_drewN ?_ _ | refine only_alloc ?_ _)⟩
  by_cases h4 : n = 4
  · subst h4
    have HE := Lib.hid (show x.b % 256 + 256 * (x.b / 256 % 256) = x.b % 65536 by omega)
    have hw1 : IntKind.i64.wrap (256 * (x.b / 256 % 256)) = 256 * (x.b / 256 % 256) := by rw [IntKind.wrap_i64]; omega
    have hw2 : IntKind.i64.wrap (x.b % 256 + 256 * (x.b / 256 % 256)) = x.b % 256 + 256 * (x.b / 256 % 256) := by rw [IntKind.wrap_i64]; omega
    go_enter Tryd.func21, Tryd.ntmps21
    go_wp2
    go_quiet (first
      | (go_at_call 39; with_reducible exact Pt.qleft (rlow_any _ _))
      | (go_at_call 40; with_reducible exact Pt.qleft (rhigh_any _ _)))
    go_wp2
    go_ret
    exact ⟨congrArg (fun z => Ending.returned (Value.int .i64 z)) HE.out, by repeat (first | exact only_refl _ _ | refine only_drewN ?_ _ | refine only_alloc ?_ _)⟩
  by_cases h5 : n = 5
  · subst h5
    have HE := Lib.hid (show x.f % 256 + 256 * (x.f / 256 % 256) = x.f % 65536 by omega)
    have hw1 : IntKind.i64.wrap (256 * (x.f / 256 % 256)) = 256 * (x.f / 256 % 256) := by rw [IntKind.wrap_i64]; omega
    have hw2 : IntKind.i64.wrap (x.f % 256 + 256 * (x.f / 256 % 256)) = x.f % 256 + 256 * (x.f / 256 % 256) := by rw [IntKind.wrap_i64]; omega
    go_enter Tryd.func21, Tryd.ntmps21
    go_wp2
    go_quiet (first
      | (go_at_call 39; with_reducible exact Pt.qleft (rlow_any _ _))
      | (go_at_call 40; with_reducible exact Pt.qleft (rhigh_any _ _)))
    go_wp2
    go_ret
    exact ⟨congrArg (fun z => Ending.returned (Value.int .i64 z)) HE.out, by repeat (first | exact only_refl _ _ | refine only_drewN ?_ _ | refine only_alloc ?_ _)⟩
  simp only [if_neg h1, if_neg h2, if_neg h3, if_neg h4, if_neg h5]
  have key : n < 1 ∨ (¬ n < 1 ∧ 5 < n) := by omega
  clear h1 h2 h3 h4 h5
  rcases key with h | ⟨h, h2⟩
  all_goals
    go_enter Tryd.func21, Tryd.ntmps21
    go_wp2
    go_ret
    exact ⟨rfl, by repeat (first | exact only_refl _ _ | refine only_drewN ?_ _ | refine only_alloc ?_ _)⟩
end Go.Proofs.YthhodadfiipffaaDoor
