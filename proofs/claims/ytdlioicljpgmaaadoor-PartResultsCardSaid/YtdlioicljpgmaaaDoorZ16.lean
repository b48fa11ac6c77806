import Derived.Test.YtdlioicljpgmaaaDoorZ15
import Derived.LoopTactic
import Derived.Lib.QuietBelow
import Derived.Deep.RegionHeld3
import Derived.Test.YtdlioicljpgmaaaDoorZ13
import Derived.BigQuiet
set_option linter.all false
/- CpuMoves walked. -/
namespace Go.Proofs.YtdlioicljpgmaaaDoor
open Go.RowKit Go.Lib Go.Sort
set_option linter.unusedVariables false
set_option maxRecDepth 20000
attribute [-go_sem] Go.run_neq_struct

/-- The same in both views, step by step. -/
theorem Cu.step_f (V : List UInt8) (pc md : Int) (r : Nat → Int) (p q : List UInt8) (vl : Nat) (hV : V.length = vl) (hl : p.length + vl + q.length ≤ 16384) (hpc : pc ≤ 9223372036854775807) (B m g : Nat) (x : Int) (hx : x = p.length) (j : Nat) (W : World) (h : MemG W B m g (p ++ (Cu.stN V pc r md j).v ++ q)) (hN : Nm W) :
    Calls Tryd.prog 36 #[.agg #[.pointer (some ⟨m, 0, none⟩), .int .i64 x, .int .i64 vl], .agg #[.int .i64 (Cu.stN V pc r md j).pc, .int .i64 ((Cu.stN V pc r md j).r 0), .int .i64 ((Cu.stN V pc r md j).r 1), .int .i64 ((Cu.stN V pc r md j).r 2), .int .i64 ((Cu.stN V pc r md j).r 3), .int .i64 ((Cu.stN V pc r md j).r 4), .int .i64 ((Cu.stN V pc r md j).r 5), .int .i64 ((Cu.stN V pc r md j).r 6), .int .i64 ((Cu.stN V pc r md j).r 7), .int .i64 (Cu.stN V pc r md j).md]] W fun e w' => e = .returned (.tuple #[.agg #[.int .i64 (Cu.stN V pc r md (j + 1)).pc, .int .i64 ((Cu.stN V pc r md (j + 1)).r 0), .int .i64 ((Cu.stN V pc r md (j + 1)).r 1), .int .i64 ((Cu.stN V pc r md (j + 1)).r 2), .int .i64 ((Cu.stN V pc r md (j + 1)).r 3), .int .i64 ((Cu.stN V pc r md (j + 1)).r 4), .int .i64 ((Cu.stN V pc r md (j + 1)).r 5), .int .i64 ((Cu.stN V pc r md (j + 1)).r 6), .int .i64 ((Cu.stN V pc r md (j + 1)).r 7), .int .i64 (Cu.stN V pc r md (j + 1)).md], .agg #[.int .i64 (Cu.stN V pc r md (j + 1)).o1, .int .i64 (Cu.stN V pc r md (j + 1)).o2, .int .i64 (Cu.stN V pc r md (j + 1)).o3, .int .i64 (Cu.stN V pc r md (j + 1)).o4]]) ∧ MemG w' B m g (p ++ (Cu.stN V pc r md (j + 1)).v ++ q) ∧ W.grownBy w' (some g) := by
  have hlen := Cu.stN_len V pc r md j
  have hp := Cu.stN_pc V pc r md (by omega) hpc j
  have hs := Cu.step_any W B m g p (Cu.stN V pc r md j).v q h hN (by simp only [List.length_append]; omega) (Cu.stN V pc r md j).pc hp (Cu.stN V pc r md j).r (Cu.stN V pc r md j).md
  rw [hlen, hV, ← hx] at hs
  exact hs

theorem Cu.grow_of {W W' : World} (b : Below W.heap.size W W') : W.grownBy W' none := ⟨b.os, b.tape, b.output, b.size, fun i hi _ => b.block i hi⟩
section
variable {w W0 w1 w2 : World} {bs m1 g1 m2 g2 : Nat} {p1 q1 p2 q2 V : List UInt8} {n1 n2 vl : Int} {sc : Array Value}
/-- Behind the two views. -/
def Cu.Pre2 (w W : World) (bs m1 g1 bv m2 g2 bw : Nat) (p1 q1 p2 q2 V : List UInt8) (n1 n2 vl : Int) (sc : Array Value) : Prop :=
  Blk W bs 55 sc ∧ Blk W bv 31 #[.pointer (some ⟨m1, 0, none⟩), .int .i64 n1, .int .i64 vl] ∧ Blk W bw 31 #[.pointer (some ⟨m2, 0, none⟩), .int .i64 n2, .int .i64 vl] ∧ MemG W w.heap.size m1 g1 (p1 ++ V ++ q1) ∧ MemG W w.heap.size m2 g2 (p2 ++ V ++ q2) ∧ w.grownBy W none ∧
  (w.heap.size ≤ bs ∧ bs < m1 ∧ bs < g1 ∧ m1 < bv ∧ g1 < bv ∧ bv < m2 ∧ bv < g2 ∧ m2 < bw ∧ g2 < bw ∧ bw < W.heap.size)
theorem Cu.pre (hs : Blk W0 bs 55 sc) (hb : bs = w.heap.size) (hz : W0.heap.size = w.heap.size + 1) (g0 : w.grownBy W0 none) (hm1 : MemG w1 W0.heap.size m1 g1 (p1 ++ V ++ q1)) (b1 : Below W0.heap.size W0 w1)
    (hm2 : MemG w2 (w1.alloc (.cells #[.pointer (some ⟨m1, 0, none⟩), .int .i64 n1, .int .i64 vl] 31)).heap.size m2 g2 (p2 ++ V ++ q2)) (b2 : Below (w1.alloc (.cells #[.pointer (some ⟨m1, 0, none⟩), .int .i64 n1, .int .i64 vl] 31)).heap.size (w1.alloc (.cells #[.pointer (some ⟨m1, 0, none⟩), .int .i64 n1, .int .i64 vl] 31)) w2) :
    Cu.Pre2 w (w2.alloc (.cells #[.pointer (some ⟨m2, 0, none⟩), .int .i64 n2, .int .i64 vl] 31)) bs m1 g1 w1.heap.size m2 g2 w2.heap.size p1 q1 p2 q2 V n1 n2 vl sc := by
  have a1 := Cu.grow_of b1
  have a2 := Cu.grow_of b2
  have n0 : ∀ (W : World) (o : Obj), W.grownBy (W.alloc o) none := fun W o => only_alloc (only_refl W none) o
  have l1 := hm1.1
  have l2 := hm1.2.1
  have l3 := hm2.1
  have l4 := hm2.2.1
  have l5 := hm1.lt
  have l6 := hm2.lt
  have z1 : (w1.alloc (.cells #[.pointer (some ⟨m1, 0, none⟩), .int .i64 n1, .int .i64 vl] 31)).heap.size = w1.heap.size + 1 := by simp
  have hv := Blk.new w1 31 #[.pointer (some ⟨m1, 0, none⟩), .int .i64 n1, .int .i64 vl]
  generalize hW : w1.alloc (.cells #[.pointer (some ⟨m1, 0, none⟩), .int .i64 n1, .int .i64 vl] 31) = w1' at *
  have a12 : w1.grownBy w1' none := by rw [← hW]; exact n0 _ _
  have all : w1'.grownBy (w2.alloc (.cells #[.pointer (some ⟨m2, 0, none⟩), .int .i64 n2, .int .i64 vl] 31)) none := only_trans a2 (n0 _ _)
  have a01 : w1.grownBy (w2.alloc (.cells #[.pointer (some ⟨m2, 0, none⟩), .int .i64 n2, .int .i64 vl] 31)) none := only_trans a12 all
  refine ⟨hs.only (only_trans a1 a01) (by simp), hv.only all (by simp), Blk.new _ _ _, Cu.memg_low (hm1.grown a01) (by omega), Cu.memg_low (hm2.grown (n0 _ _)) (by omega), only_trans g0 (only_trans a1 a01), ?_⟩
  have z2 : (w2.alloc (.cells #[.pointer (some ⟨m2, 0, none⟩), .int .i64 n2, .int .i64 vl] 31)).heap.size = w2.heap.size + 1 := by simp
  omega
theorem Cu.start {W : World} {bv bw : Nat} {r : Nat → Int} {pc md : Int} {a : Cu.Af} (h : Cu.Pre2 w W bs m1 g1 bv m2 g2 bw p1 q1 p2 q2 V n1 n2 vl (Cu.stC pc r md)) (hN : Nm w) (ha : a = ⟨V, pc, r, md, 0, 0, 0, 0⟩) :
    Cu.Mv w (W.alloc (.cells (Cu.stC pc r md) 55)) bs m1 g1 bv m2 g2 bw W.heap.size p1 q1 p2 q2 n1 n2 vl a.v a.v (Cu.stC a.pc a.r a.md) (Cu.stC a.pc a.r a.md) := by
  subst ha
  obtain ⟨h1, h2, h3, h4, h5, h6, h7⟩ := h
  have k : W.grownBy (W.alloc (.cells (Cu.stC pc r md) 55)) none := only_alloc (only_refl W none) _
  exact ⟨h1.only k (by simp), Blk.new _ _ _, h2.only k (by simp), h3.only k (by simp), h4.grown k, h5.grown k, only_trans h6 k, hN, h7⟩
end
section
variable {w W W' : World} {bs m1 g1 bv m2 g2 bw bt bo : Nat} {p1 q1 p2 q2 : List UInt8} {n1 n2 vl : Int} {V1 V2 V' : List UInt8} {sc tc sc' : Array Value} {oa ob : Array Value}
/-- The boxes, and the two of what a step did. -/
def Cu.Mo (w W : World) (bs m1 g1 bv m2 g2 bw bt bo : Nat) (p1 q1 p2 q2 : List UInt8) (n1 n2 vl : Int) (V1 V2 : List UInt8) (sc tc oa ob : Array Value) : Prop :=
  Cu.Mv w W bs m1 g1 bv m2 g2 bw bt p1 q1 p2 q2 n1 n2 vl V1 V2 sc tc ∧ Blk W bo 90 oa ∧ Blk W (bo + 1) 90 ob ∧ bt < bo
theorem Cu.round1 (h : Cu.Mv w W bs m1 g1 bv m2 g2 bw bt p1 q1 p2 q2 n1 n2 vl V1 V2 sc tc) : Cu.Mo w ((W.alloc (.cells #[.int .i64 0, .int .i64 0, .int .i64 0, .int .i64 0] 90)).alloc (.cells #[.int .i64 0, .int .i64 0, .int .i64 0, .int .i64 0] 90)) bs m1 g1 bv m2 g2 bw bt W.heap.size p1 q1 p2 q2 n1 n2 vl V1 V2 sc tc #[.int .i64 0, .int .i64 0, .int .i64 0, .int .i64 0] #[.int .i64 0, .int .i64 0, .int .i64 0, .int .i64 0] := by
  refine ⟨h.grown (only_alloc (only_alloc (only_refl W none) _) _), (Blk.new _ _ _).alloc _, ?_, h.tb.lt⟩
  have := Blk.new (W.alloc (.cells #[.int .i64 0, .int .i64 0, .int .i64 0, .int .i64 0] 90)) 90 #[.int .i64 0, .int .i64 0, .int .i64 0, .int .i64 0]
  simpa using this
theorem Cu.round2 (h : Cu.Mo w W bs m1 g1 bv m2 g2 bw bt bo p1 q1 p2 q2 n1 n2 vl V1 V2 sc tc oa ob) (hm : MemG W' w.heap.size m1 g1 (p1 ++ V' ++ q1)) (k : W.grownBy W' (some g1)) : Cu.Mo w W' bs m1 g1 bv m2 g2 bw bt bo p1 q1 p2 q2 n1 n2 vl V' V2 sc tc oa ob := by
  have l := h.1.lt
  have l2 := h.2.2.2
  exact ⟨h.1.step1 hm k, h.2.1.only k (fun e => by injection e with e; omega), h.2.2.1.only k (fun e => by injection e with e; omega), l2⟩
theorem Cu.round3 (h : Cu.Mo w W bs m1 g1 bv m2 g2 bw bt bo p1 q1 p2 q2 n1 n2 vl V1 V2 sc tc oa ob) (hm : MemG W' w.heap.size m2 g2 (p2 ++ V' ++ q2)) (k : W.grownBy W' (some g2)) : Cu.Mo w W' bs m1 g1 bv m2 g2 bw bt bo p1 q1 p2 q2 n1 n2 vl V1 V' sc tc oa ob := by
  have l := h.1.lt
  have l2 := h.2.2.2
  exact ⟨h.1.step2 hm k, h.2.1.only k (fun e => by injection e with e; omega), h.2.2.1.only k (fun e => by injection e with e; omega), l2⟩
theorem Cu.put_s {s0 s1 s2 s3 s4 s5 s6 s7 s8 s9 z0 z1 z2 z3 : Value} (h : Cu.Mo w W bs m1 g1 bv m2 g2 bw bt bo p1 q1 p2 q2 n1 n2 vl V1 V2 #[s0, s1, s2, s3, s4, s5, s6, s7, s8, s9] tc #[z0, z1, z2, z3] ob) (y0 y1 y2 y3 y4 y5 y6 y7 y8 y9 x0 x1 x2 x3 : Value) :
    ∀ W', W' = ((((((((((((((W.setCell ⟨bs, 0, none⟩ y0).setCell ⟨bs, 1, none⟩ y1).setCell ⟨bs, 2, none⟩ y2).setCell ⟨bs, 3, none⟩ y3).setCell ⟨bs, 4, none⟩ y4).setCell ⟨bs, 5, none⟩ y5).setCell ⟨bs, 6, none⟩ y6).setCell ⟨bs, 7, none⟩ y7).setCell ⟨bs, 8, none⟩ y8).setCell ⟨bs, 9, none⟩ y9).setCell ⟨bo, 0, none⟩ x0).setCell ⟨bo, 1, none⟩ x1).setCell ⟨bo, 2, none⟩ x2).setCell ⟨bo, 3, none⟩ x3) → Cu.Mo w W' bs m1 g1 bv m2 g2 bw bt bo p1 q1 p2 q2 n1 n2 vl V1 V2 #[y0, y1, y2, y3, y4, y5, y6, y7, y8, y9] tc #[x0, x1, x2, x3] ob := by
  intro W' hW
  have l := h.1.lt
  have l2 := h.2.2.2
  obtain ⟨W1, ⟨k1, b1⟩, k2, b2⟩ := Cu.put14 h.1.sb h.2.1 (by omega) y0 y1 y2 y3 y4 y5 y6 y7 y8 y9 x0 x1 x2 x3 W' hW
  exact ⟨(h.1.putS b1 k1).off (by omega) k2, b2, (h.2.2.1.only k1 (fun e => by injection e with e; omega)).only k2 (fun e => by injection e with e; omega), l2⟩
theorem Cu.put_t {s0 s1 s2 s3 s4 s5 s6 s7 s8 s9 z0 z1 z2 z3 : Value} (h : Cu.Mo w W bs m1 g1 bv m2 g2 bw bt bo p1 q1 p2 q2 n1 n2 vl V1 V2 sc #[s0, s1, s2, s3, s4, s5, s6, s7, s8, s9] oa #[z0, z1, z2, z3]) (y0 y1 y2 y3 y4 y5 y6 y7 y8 y9 x0 x1 x2 x3 : Value) :
    ∀ W', W' = ((((((((((((((W.setCell ⟨bt, 0, none⟩ y0).setCell ⟨bt, 1, none⟩ y1).setCell ⟨bt, 2, none⟩ y2).setCell ⟨bt, 3, none⟩ y3).setCell ⟨bt, 4, none⟩ y4).setCell ⟨bt, 5, none⟩ y5).setCell ⟨bt, 6, none⟩ y6).setCell ⟨bt, 7, none⟩ y7).setCell ⟨bt, 8, none⟩ y8).setCell ⟨bt, 9, none⟩ y9).setCell ⟨bo + 1, 0, none⟩ x0).setCell ⟨bo + 1, 1, none⟩ x1).setCell ⟨bo + 1, 2, none⟩ x2).setCell ⟨bo + 1, 3, none⟩ x3) → Cu.Mo w W' bs m1 g1 bv m2 g2 bw bt bo p1 q1 p2 q2 n1 n2 vl V1 V2 sc #[y0, y1, y2, y3, y4, y5, y6, y7, y8, y9] oa #[x0, x1, x2, x3] := by
  intro W' hW
  have l := h.1.lt
  have l2 := h.2.2.2
  obtain ⟨W1, ⟨k1, b1⟩, k2, b2⟩ := Cu.put14 h.1.tb h.2.2.1 (by omega) y0 y1 y2 y3 y4 y5 y6 y7 y8 y9 x0 x1 x2 x3 W' hW
  exact ⟨(h.1.putT b1 k1).off (by omega) k2, (h.2.1.only k1 (fun e => by injection e with e; omega)).only k2 (fun e => by injection e with e; omega), b2, l2⟩
end
theorem Cu.below {w W : World} (h : w.grownBy W none) : Below w.heap.size w W := below_of_only h (Nat.le_refl _) (fun k hk => by cases hk)
theorem Cu.text_re {W : World} {B m g vl x : Nat} {p V q : List UInt8} (hx : x = p.length) (hV : V.length = vl) (hl : p.length + vl + q.length ≤ 16384) (h : MemG W B m g (p ++ V ++ q)) :
    Calls Tryd.prog 41 #[.agg #[.pointer (some ⟨m, 0, none⟩), .int .i64 x, .int .i64 vl]] W fun e w' => e = .returned (.string ⟨V.toArray⟩) ∧ Below W.heap.size W w' := by
  subst hx hV
  exact (Cu.text_any W B m p V q h.mem (by simp only [List.length_append]; exact hl)).mono fun e w' ⟨e1, g⟩ => ⟨e1, Cu.below g⟩
end Go.Proofs.YtdlioicljpgmaaaDoor

/- Package cpu: Give and Wake, by contract. -/
namespace Go.Proofs.YtdlioicljpgmaaaDoor
open Go.RowKit Go.Lib
set_option linter.unusedVariables false
set_option maxRecDepth 8000

theorem Cu.wake_any (pc md : Int) (r : Nat → Int) (w : World) : Calls Tryd.prog 35 #[.agg #[.int .i64 pc, .int .i64 (r 0), .int .i64 (r 1), .int .i64 (r 2), .int .i64 (r 3), .int .i64 (r 4), .int .i64 (r 5), .int .i64 (r 6), .int .i64 (r 7), .int .i64 md]] w fun x w' => x = .returned (.agg #[.int .i64 pc, .int .i64 (r 0), .int .i64 (r 1), .int .i64 (r 2), .int .i64 (r 3), .int .i64 (r 4), .int .i64 (r 5), .int .i64 (r 6), .int .i64 (r 7), .int .i64 (if md = 1 then 0 else md)]) ∧ w.grownBy w' none := by
  by_cases h : md = 1
  · rw [if_pos h]
    subst h
    go_enter Tryd.func35, Tryd.ntmps35
    go_wp2
    refine bodyPost_ret (v := .agg #[.int .i64 pc, .int .i64 (r 0), .int .i64 (r 1), .int .i64 (r 2), .int .i64 (r 3), .int .i64 (r 4), .int .i64 (r 5), .int .i64 (r 6), .int .i64 (r 7), .int .i64 0]) (by simp [results, Tryd.results35, go_sem]) rfl ⟨rfl, ?_⟩
    repeat (first | exact only_refl _ _ | refine only_alloc ?_ _)
  · rw [if_neg h]
    have h1 : (md == 1) = false := by simpa using h
    go_enter Tryd.func35, Tryd.ntmps35
    go_wp2
    refine bodyPost_ret (v := .agg #[.int .i64 pc, .int .i64 (r 0), .int .i64 (r 1), .int .i64 (r 2), .int .i64 (r 3), .int .i64 (r 4), .int .i64 (r 5), .int .i64 (r 6), .int .i64 (r 7), .int .i64 md]) (by simp [results, Tryd.results35, go_sem]) rfl ⟨rfl, ?_⟩
    repeat (first | exact only_refl _ _ | refine only_alloc ?_ _)
theorem Cu.give_off (pc md x n : Int) (r : Nat → Int) (hx : ¬ (0 ≤ x ∧ x < 8)) (w : World) : Calls Tryd.prog 37 #[.agg #[.int .i64 pc, .int .i64 (r 0), .int .i64 (r 1), .int .i64 (r 2), .int .i64 (r 3), .int .i64 (r 4), .int .i64 (r 5), .int .i64 (r 6), .int .i64 (r 7), .int .i64 md], .int .i64 x, .int .i64 n] w fun e w' => e = .returned (.agg #[.int .i64 pc, .int .i64 (r 0), .int .i64 (r 1), .int .i64 (r 2), .int .i64 (r 3), .int .i64 (r 4), .int .i64 (r 5), .int .i64 (r 6), .int .i64 (r 7), .int .i64 md]) ∧ w.grownBy w' none := by
  have key : x < 0 ∨ (0 ≤ x ∧ ¬ x < 8) := by omega
  rcases key with h | ⟨h, h2⟩
  all_goals
    go_enter Tryd.func37, Tryd.ntmps37
    go_wp2
    refine bodyPost_ret (v := .agg #[.int .i64 pc, .int .i64 (r 0), .int .i64 (r 1), .int .i64 (r 2), .int .i64 (r 3), .int .i64 (r 4), .int .i64 (r 5), .int .i64 (r 6), .int .i64 (r 7), .int .i64 md]) (by simp [results, Tryd.results37, go_sem]) rfl ⟨rfl, ?_⟩
    repeat (first | exact only_refl _ _ | refine only_alloc ?_ _)
theorem Cu.give_in (pc md n : Int) (r : Nat → Int) (x : Nat) (hx : x < 8) (w : World) : Calls Tryd.prog 37 #[.agg #[.int .i64 pc, .int .i64 (r 0), .int .i64 (r 1), .int .i64 (r 2), .int .i64 (r 3), .int .i64 (r 4), .int .i64 (r 5), .int .i64 (r 6), .int .i64 (r 7), .int .i64 md], .int .i64 x, .int .i64 n] w fun e w' => e = .returned (.agg #[.int .i64 pc, .int .i64 (Cu.upd r x (n % 65536) 0), .int .i64 (Cu.upd r x (n % 65536) 1), .int .i64 (Cu.upd r x (n % 65536) 2), .int .i64 (Cu.upd r x (n % 65536) 3), .int .i64 (Cu.upd r x (n % 65536) 4), .int .i64 (Cu.upd r x (n % 65536) 5), .int .i64 (Cu.upd r x (n % 65536) 6), .int .i64 (Cu.upd r x (n % 65536) 7), .int .i64 md]) ∧ w.grownBy w' none := by
  have key : x = 0 ∨ x = 1 ∨ x = 2 ∨ x = 3 ∨ x = 4 ∨ x = 5 ∨ x = 6 ∨ x = 7 := by omega
  rcases key with rfl | rfl | rfl | rfl | rfl | rfl | rfl | rfl
  · go_enter Tryd.func37, Tryd.ntmps37
    go_wp2_with (go_at_call 43; (with_reducible refine (Cu.two_any _ _).mono ?_); rintro e w' ⟨rfl, rfl⟩)
    refine bodyPost_ret (v := .agg #[.int .i64 pc, .int .i64 (n % 65536), .int .i64 (r 1), .int .i64 (r 2), .int .i64 (r 3), .int .i64 (r 4), .int .i64 (r 5), .int .i64 (r 6), .int .i64 (r 7), .int .i64 md]) (by simp [results, Tryd.results37, go_sem]) rfl ⟨rfl, ?_⟩
    repeat (first | exact only_refl _ _ | refine only_alloc ?_ _)
  · go_enter Tryd.func37, Tryd.ntmps37
    go_wp2_with (go_at_call 43; (with_reducible refine (Cu.two_any _ _).mono ?_); rintro e w' ⟨rfl, rfl⟩)
    refine bodyPost_ret (v := .agg #[.int .i64 pc, .int .i64 (r 0), .int .i64 (n % 65536), .int .i64 (r 2), .int .i64 (r 3), .int .i64 (r 4), .int .i64 (r 5), .int .i64 (r 6), .int .i64 (r 7), .int .i64 md]) (by simp [results, Tryd.results37, go_sem]) rfl ⟨rfl, ?_⟩
    repeat (first | exact only_refl _ _ | refine only_alloc ?_ _)
  · go_enter Tryd.func37, Tryd.ntmps37
    go_wp2_with (go_at_call 43; (with_reducible refine (Cu.two_any _ _).mono ?_); rintro e w' ⟨rfl, rfl⟩)
    refine bodyPost_ret (v := .agg #[.int .i64 pc, .int .i64 (r 0), .int .i64 (r 1), .int .i64 (n % 65536), .int .i64 (r 3), .int .i64 (r 4), .int .i64 (r 5), .int .i64 (r 6), .int .i64 (r 7), .int .i64 md]) (by simp [results, Tryd.results37, go_sem]) rfl ⟨rfl, ?_⟩
    repeat (first | exact only_refl _ _ | refine only_alloc ?_ _)
  · go_enter Tryd.func37, Tryd.ntmps37
    go_wp2_with (go_at_call 43; (with_reducible refine (Cu.two_any _ _).mono ?_); rintro e w' ⟨rfl, rfl⟩)
    refine bodyPost_ret (v := .agg #[.int .i64 pc, .int .i64 (r 0), .int .i64 (r 1), .int .i64 (r 2), .int .i64 (n % 65536), .int .i64 (r 4), .int .i64 (r 5), .int .i64 (r 6), .int .i64 (r 7), .int .i64 md]) (by simp [results, Tryd.results37, go_sem]) rfl ⟨rfl, ?_⟩
    repeat (first | exact only_refl _ _ | refine only_alloc ?_ _)
  · go_enter Tryd.func37, Tryd.ntmps37
    go_wp2_with (go_at_call 43; (with_reducible refine (Cu.two_any _ _).mono ?_); rintro e w' ⟨rfl, rfl⟩)
    refine bodyPost_ret (v := .agg #[.int .i64 pc, .int .i64 (r 0), .int .i64 (r 1), .int .i64 (r 2), .int .i64 (r 3), .int .i64 (n % 65536), .int .i64 (r 5), .int .i64 (r 6), .int .i64 (r 7), .int .i64 md]) (by simp [results, Tryd.results37, go_sem]) rfl ⟨rfl, ?_⟩
    repeat (first | exact only_refl _ _ | refine only_alloc ?_ _)
  · go_enter Tryd.func37, Tryd.ntmps37
    go_wp2_with (go_at_call 43; (with_reducible refine (Cu.two_any _ _).mono ?_); rintro e w' ⟨rfl, rfl⟩)
    refine bodyPost_ret (v := .agg #[.int .i64 pc, .int .i64 (r 0), .int .i64 (r 1), .int .i64 (r 2), .int .i64 (r 3), .int .i64 (r 4), .int .i64 (n % 65536), .int .i64 (r 6), .int .i64 (r 7), .int .i64 md]) (by simp [results, Tryd.results37, go_sem]) rfl ⟨rfl, ?_⟩
    repeat (first | exact only_refl _ _ | refine only_alloc ?_ _)
  · go_enter Tryd.func37, Tryd.ntmps37
    go_wp2_with (go_at_call 43; (with_reducible refine (Cu.two_any _ _).mono ?_); rintro e w' ⟨rfl, rfl⟩)
    refine bodyPost_ret (v := .agg #[.int .i64 pc, .int .i64 (r 0), .int .i64 (r 1), .int .i64 (r 2), .int .i64 (r 3), .int .i64 (r 4), .int .i64 (r 5), .int .i64 (n % 65536), .int .i64 (r 7), .int .i64 md]) (by simp [results, Tryd.results37, go_sem]) rfl ⟨rfl, ?_⟩
    repeat (first | exact only_refl _ _ | refine only_alloc ?_ _)
  · go_enter Tryd.func37, Tryd.ntmps37
    go_wp2_with (go_at_call 43; (with_reducible refine (Cu.two_any _ _).mono ?_); rintro e w' ⟨rfl, rfl⟩)
    refine bodyPost_ret (v := .agg #[.int .i64 pc, .int .i64 (r 0), .int .i64 (r 1), .int .i64 (r 2), .int .i64 (r 3), .int .i64 (r 4), .int .i64 (r 5), .int .i64 (r 6), .int .i64 (n % 65536), .int .i64 md]) (by simp [results, Tryd.results37, go_sem]) rfl ⟨rfl, ?_⟩
    repeat (first | exact only_refl _ _ | refine only_alloc ?_ _)
end Go.Proofs.YtdlioicljpgmaaaDoor

/- Package part: what may be told; a hypercall's result. -/
namespace Go.Proofs.YtdlioicljpgmaaaDoor
open Go.RowKit Go.Lib
set_option linter.unusedVariables false
set_option maxRecDepth 8000

/-- What a client may be told. -/
structure Pt.F where
  t : Int
  f : Int
  d : Int
  p : Int
  b : Int
def Pt.res (n : Int) (x : Pt.F) : Int := (if n = 1 then x.t else if n = 2 then x.d else if n = 3 then x.p else if n = 4 then x.b else if n = 5 then x.f else 65535) % 65536
theorem Pt.res_lt (n : Int) (x : Pt.F) : 0 ≤ Pt.res n x ∧ Pt.res n x < 65536 := by unfold Pt.res; omega
theorem Pt.w16 (v : Int) : wrap64 (IntKind.u16.wrap v) = v % 65536 := by
  have h : IntKind.u16.wrap v = v % 65536 := by simp [IntKind.wrap, IntKind.bits, IntKind.signed]
  rw [h]
  unfold wrap64
  omega
theorem Pt.qleft {P : Program} {f : FuncId} {args : Array Value} {w : World} {n : Nat} {v : Value} (h : Calls P f args (w.drewN n) fun e w' => e = .returned v ∧ w.drewN n = w') : Calls P f args (w.drewN n) fun e w'' => e = .returned v ∧ ∃ m, w'' = w.drewN m := h.mono fun _ _ ⟨he, hm⟩ => ⟨he, n, hm.symm⟩
theorem Pt.result_any (n : Int) (x : Pt.F) (w : World) : Calls Tryd.prog 20 #[.int .i64 n, .agg #[.int .i64 x.t, .int .i64 x.f, .int .i64 x.d, .int .i64 x.p, .int .i64 x.b]] w fun e w' => e = .returned (.int .i64 (Pt.res n x)) ∧ w.grownBy w' none := by
  unfold Pt.res
  by_cases h1 : n = 1
  · subst h1
    go_enter Tryd.func20, Tryd.ntmps20
    go_wp2
    go_ret
    exact ⟨congrArg (fun z => Ending.returned (Value.int .i64 z)) (Pt.w16 x.t), only_alloc (only_refl _ none) _⟩
  have b1 : (n == 1) = false := by simpa using h1
  by_cases h2 : n = 2
  · subst h2
    go_enter Tryd.func20, Tryd.ntmps20
    go_wp2
    go_ret
    exact ⟨congrArg (fun z => Ending.returned (Value.int .i64 z)) (Pt.w16 x.d), only_alloc (only_refl _ none) _⟩
  have b2 : (n == 2) = false := by simpa using h2
  by_cases h3 : n = 3
  · subst h3
    go_enter Tryd.func20, Tryd.ntmps20
    go_wp2
    go_ret
    exact ⟨congrArg (fun z => Ending.returned (Value.int .i64 z)) (Pt.w16 x.p), only_alloc (only_refl _ none) _⟩
  have b3 : (n == 3) = false := by simpa using h3
  by_cases h4 : n = 4
  · subst h4
    go_enter Tryd.func20, Tryd.ntmps20
    go_wp2
    go_ret
    exact ⟨congrArg (fun z => Ending.returned (Value.int .i64 z)) (Pt.w16 x.b), only_alloc (only_refl _ none) _⟩
  have b4 : (n == 4) = false := by simpa using h4
  by_cases h5 : n = 5
  · subst h5
    go_enter Tryd.func20, Tryd.ntmps20
    go_wp2
    go_ret
    exact ⟨congrArg (fun z => Ending.returned (Value.int .i64 z)) (Pt.w16 x.f), only_alloc (only_refl _ none) _⟩
  have b5 : (n == 5) = false := by simpa using h5
  simp only [if_neg h1, if_neg h2, if_neg h3, if_neg h4, if_neg h5]
  go_enter Tryd.func20, Tryd.ntmps20
  go_wp2
  go_ret
  exact ⟨rfl, only_alloc (only_refl _ none) _⟩
theorem Pt.facts_any (x : Pt.F) (w : World) : Calls Tryd.prog 22 #[.agg #[.int .i64 x.t, .int .i64 x.f, .int .i64 x.d, .int .i64 x.p, .int .i64 x.b]] w fun e w' => e = .returned (.agg #[.int .i64 x.t, .int .i64 x.f, .int .i64 x.d, .int .i64 x.p, .int .i64 x.b]) ∧ w.grownBy w' none := by
  go_enter Tryd.func22, Tryd.ntmps22
  go_wp2
  refine bodyPost_ret (v := .agg #[.int .i64 x.t, .int .i64 x.f, .int .i64 x.d, .int .i64 x.p, .int .i64 x.b]) (by simp [results, Tryd.results22, go_sem]) rfl ⟨rfl, ?_⟩
  repeat (first | exact only_refl _ _ | refine only_alloc ?_ _)
set_option maxHeartbeats 3200000 in
theorem Pt.rresult_any (n : Int) (x : Pt.F) (w : World) : Calls Tryd.prog 21 #[.int .i64 n, .agg #[.int .i64 x.t, .int .i64 x.f, .int .i64 x.d, .int .i64 x.p, .int .i64 x.b]] w fun e w' => e = .returned (.int .i64 (Pt.res n x)) ∧ w.grownBy w' none := by
  unfold Pt.res
  by_cases h1 : n = 1
  · subst h1
    have HE := Lib.hid (show x.t % 256 + 256 * (x.t / 256 % 256) = x.t % 65536 by omega)
    have hw1 : IntKind.i64.wrap (256 * (x.t / 256 % 256)) = 256 * (x.t / 256 % 256) := by rw [IntKind.wrap_i64]; omega
    have hw2 : IntKind.i64.wrap (x.t % 256 + 256 * (x.t / 256 % 256)) = x.t % 256 + 256 * (x.t / 256 % 256) := by rw [IntKind.wrap_i64]; omega
    go_enter Tryd.func21, Tryd.ntmps21
    go_wp2
    go_quiet (first
      | (go_at_call 39; with_reducible exact Pt.qleft (rlow_any _ _))
      | (go_at_call 40; with_reducible exact Pt.qleft (rhigh_any _ _)))
    go_wp2
    go_ret
    exact ⟨congrArg (fun z => Ending.returned (Value.int .i64 z)) HE.out, by repeat (first | exact only_refl _ _ | refine only_drewN ?_ _ | refine only_alloc ?_ _)⟩
  by_cases h2 : n = 2
  · subst h2
    have HE := Lib.hid (show x.d % 256 + 256 * (x.d / 256 % 256) = x.d % 65536 by omega)
    have hw1 : IntKind.i64.wrap (256 * (x.d / 256 % 256)) = 256 * (x.d / 256 % 256) := by rw [IntKind.wrap_i64]; omega
    have hw2 : IntKind.i64.wrap (x.d % 256 + 256 * (x.d / 256 % 256)) = x.d % 256 + 256 * (x.d / 256 % 256) := by rw [IntKind.wrap_i64]; omega
    go_enter Tryd.func21, Tryd.ntmps21
    go_wp2
    go_quiet (first
      | (go_at_call 39; with_reducible exact Pt.qleft (rlow_any _ _))
      | (go_at_call 40; with_reducible exact Pt.qleft (rhigh_any _ _)))
    go_wp2
    go_ret
    exact ⟨congrArg (fun z => Ending.returned (Value.int .i64 z)) HE.out, by repeat (first | exact only_refl _ _ | refine only_drewN ?_ _ | refine only_alloc ?_ _)⟩
  by_cases h3 : n = 3
  · subst h3
    have HE := Lib.hid (show x.p % 256 + 256 * (x.p / 256 % 256) = x.p % 65536 by omega)
    have hw1 : IntKind.i64.wrap (256 * (x.p / 256 % 256)) = 256 * (x.p / 256 % 256) := by rw [IntKind.wrap_i64]; omega
    have hw2 : IntKind.i64.wrap (x.p % 256 + 256 * (x.p / 256 % 256)) = x.p % 256 + 256 * (x.p / 256 % 256) := by rw [IntKind.wrap_i64]; omega
    go_enter Tryd.func21, Tryd.ntmps21
    go_wp2
    go_quiet (first
      | (go_at_call 39; with_reducible exact Pt.qleft (rlow_any _ _))
      | (go_at_call 40; with_reducible exact Pt.qleft (rhigh_any _ _)))
    go_wp2
    go_ret
    exact ⟨congrArg (fun z => Ending.returned (Value.int .i64 z)) HE.out, by repeat (first | exact only_refl _ _ | refine only_drewN ?_ _ | refine only_alloc ?_ _)⟩
  by_cases h4 : n = 4
  · subst h4
    have HE := Lib.hid (show x.b % 256 + 256 * (x.b / 256 % 256) = x.b % 65536 by omega)
    have hw1 : IntKind.i64.wrap (256 * (x.b / 256 % 256)) = 256 * (x.b / 256 % 256) := by rw [IntKind.wrap_i64]; omega
    have hw2 : IntKind.i64.wrap (x.b % 256 + 256 * (x.b / 256 % 256)) = x.b % 256 + 256 * (x.b / 256 % 256) := by rw [IntKind.wrap_i64]; omega
    go_enter Tryd.func21, Tryd.ntmps21
    go_wp2
    go_quiet (first
      | (go_at_call 39; with_reducible exact Pt.qleft (rlow_any _ _))
      | (go_at_call 40; with_reducible exact Pt.qleft (rhigh_any _ _)))
    go_wp2
    go_ret
    exact ⟨congrArg (fun z => Ending.returned (Value.int .i64 z)) HE.out, by repeat (first | exact only_refl _ _ | refine only_drewN ?_ _ | refine only_alloc ?_ _)⟩
  by_cases h5 : n = 5
  · subst h5
    have HE := Lib.hid (show x.f % 256 + 256 * (x.f / 256 % 256) = x.f % 65536 by omega)
    have hw1 : IntKind.i64.wrap (256 * (x.f / 256 % 256)) = 256 * (x.f / 256 % 256) := by rw [IntKind.wrap_i64]; omega
    have hw2 : IntKind.i64.wrap (x.f % 256 + 256 * (x.f / 256 % 256)) = x.f % 256 + 256 * (x.f / 256 % 256) := by rw [IntKind.wrap_i64]; omega
    go_enter Tryd.func21, Tryd.ntmps21
    go_wp2
    go_quiet (first
      | (go_at_call 39; with_reducible exact Pt.qleft (rlow_any _ _))
      | (go_at_call 40; with_reducible exact Pt.qleft (rhigh_any _ _)))
    go_wp2
    go_ret
    exact ⟨congrArg (fun z => Ending.returned (Value.int .i64 z)) HE.out, by repeat (first | exact only_refl _ _ | refine only_drewN ?_ _ | refine only_alloc ?_ _)⟩
  simp only [if_neg h1, if_neg h2, if_neg h3, if_neg h4, if_neg h5]
  have key : n < 1 ∨ (¬ n < 1 ∧ 5 < n) := by omega
  clear h1 h2 h3 h4 h5
  rcases key with h | ⟨h, h2⟩
  all_goals
    go_enter Tryd.func21, Tryd.ntmps21
    go_wp2
    go_ret
    exact ⟨rfl, by repeat (first | exact only_refl _ _ | refine only_drewN ?_ _ | refine only_alloc ?_ _)⟩
end Go.Proofs.YtdlioicljpgmaaaDoor

/- Package part: a partition in memory; New. -/
namespace Go.Proofs.YtdlioicljpgmaaaDoor
open Go.RowKit Go.Lib
set_option linter.unusedVariables false
set_option maxRecDepth 8000

/-- A partition's cells. -/
def Pt.cs (m : Nat) (base size ow pc : Int) (r : Nat → Int) (md : Int) : Array Value := #[.pointer (some ⟨m, 0, none⟩), .int .i64 base, .int .i64 size, .int .i64 ow, .int .i64 pc, .int .i64 (r 0), .int .i64 (r 1), .int .i64 (r 2), .int .i64 (r 3), .int .i64 (r 4), .int .i64 (r 5), .int .i64 (r 6), .int .i64 (r 7), .int .i64 md]
/-- A partition in block b, its memory in m with the bytes in g. -/
structure Pt.Q (W : World) (B b m g : Nat) (p V q : List UInt8) (ow pc : Int) (r : Nat → Int) (md : Int) : Prop where
  blk : Blk W b 76 (Pt.cs m p.length V.length ow pc r md)
  mem : MemG W B m g (p ++ V ++ q)
  ne : b ≠ g ∧ b ≠ m
  pcb : pc ≤ 9223372036854775807
  lim : (p ++ V ++ q).length ≤ 1000
section
variable {W W' : World} {B b m g : Nat} {p V q V' : List UInt8} {ow pc md pc' md' : Int} {r r' : Nat → Int}
theorem Pt.Q.lt (h : Pt.Q W B b m g p V q ow pc r md) : b < W.heap.size ∧ g < W.heap.size ∧ m < W.heap.size := ⟨h.blk.lt, h.mem.lt.1, h.mem.lt.2⟩
theorem Pt.Q.grown (h : Pt.Q W B b m g p V q ow pc r md) (k : W.grownBy W' none) : Pt.Q W' B b m g p V q ow pc r md := ⟨h.blk.only k (by simp), h.mem.grown k, h.ne, h.pcb, h.lim⟩
theorem Pt.Q.off (h : Pt.Q W B b m g p V q ow pc r md) {i : Nat} (k : W.grownBy W' (some i)) (h1 : b ≠ i) (h2 : m ≠ i) (h3 : g ≠ i) : Pt.Q W' B b m g p V q ow pc r md :=
  ⟨h.blk.only k (fun e => by injection e with e; exact h1 e), h.mem.far k h3 h2, h.ne, h.pcb, h.lim⟩
theorem Pt.len3 (p V q : List UInt8) : (p ++ V ++ q).length = p.length + V.length + q.length := by simp; omega
end
theorem Pt.there_ok (w : World) (B m base size n : Nat) (l : List UInt8) (h : MemV w B m l) (hl : l.length = n) (hb : base + size ≤ n) (hn : n ≤ 16384) : Calls Tryd.prog 26 #[.agg #[.pointer (some ⟨m, 0, none⟩), .int .i64 base, .int .i64 size]] w fun e w' => e = .returned (.bool true) ∧ w.grownBy w' none := by
  have g1 : w.grownBy (w.alloc (.cells #[.pointer (some ⟨m, 0, none⟩), .int .i64 base, .int .i64 size] 31)) none := only_alloc (only_refl _ none) _
  have hx := Blk.new w 31 #[.pointer (some ⟨m, 0, none⟩), .int .i64 base, .int .i64 size]
  obtain ⟨W, hW⟩ : ∃ W, W = w.alloc (.cells #[.pointer (some ⟨m, 0, none⟩), .int .i64 base, .int .i64 size] 31) := ⟨_, rfl⟩
  rw [← hW] at g1 hx
  have HS := Lib.hid (fun k => show Calls Tryd.prog 34 #[.pointer (some ⟨m, 0, none⟩)] (W.drewN k) fun e w' => e = .returned (.int .i64 n) ∧ W.drewN k = w' from by
    have := size_any (W.drewN k) B m l ((h.grown g1).drewN k)
    rw [hl] at this
    exact this)
  have c0 : W.cell? ⟨w.heap.size, 0, none⟩ = some (.pointer (some ⟨m, 0, none⟩)) := hx.cell 0
  have c1 : W.cell? ⟨w.heap.size, 1, none⟩ = some (.int .i64 base) := hx.cell 1
  have c2 : W.cell? ⟨w.heap.size, 2, none⟩ = some (.int .i64 size) := hx.cell 2
  have i1 : (0 : Int) ≤ (size : Int) := by omega
  have i2 : (0 : Int) ≤ (base : Int) := by omega
  have i3 : (size : Int) ≤ (n : Int) - (base : Int) := by omega
  have d1 : decide ((0 : Int) ≤ (size : Int)) = true := by simp
  have d2 : decide ((0 : Int) ≤ (base : Int)) = true := by simp
  have d3 : decide ((size : Int) ≤ (n : Int) - (base : Int)) = true := by simp; omega
  have u1 : IntKind.i64.wrap ((n : Int) - (base : Int)) = (n : Int) - (base : Int) := by rw [IntKind.wrap_i64]; omega
  have G1 := Lib.hid g1
  clear g1 hx h hl
  go_enter Tryd.func26, Tryd.ntmps26
  go_upto_region 1 with (fail)
  rw [← hW]
  clear hW
  go_quiet ((go_at_call 34; with_reducible exact Pt.qleft (HS.out _)))
  go_wp2
  go_ret
  exact ⟨by first | rfl | (simp; done), only_drewN G1.out _⟩
set_option maxHeartbeats 1600000 in
/-- New, of what may be. -/
theorem Pt.new_ok (w : World) (B m g : Nat) (p V q : List UInt8) (h : MemG w B m g (p ++ V ++ q)) (hl : (p ++ V ++ q).length ≤ 1000) (ow : Int) (ho : 1 ≤ ow ∧ ow ≤ 8) (s : ByteArray) (hs : s.size ≤ V.length) :
    Calls Tryd.prog 8 #[.int .i64 ow, .agg #[.pointer (some ⟨m, 0, none⟩), .int .i64 p.length, .int .i64 V.length], .string s] w fun e w' => ∃ b, e = .returned (.tuple #[.pointer (some ⟨b, 0, none⟩), .int .i64 0]) ∧ Pt.Q w' B b m g p (over V 0 s.data.toList) q ow 0 (fun _ => 0) 0 ∧ w.grownBy w' (some g) ∧ w.heap.size ≤ b := by
  have hlen := Pt.len3 p V q
  have hsl : s.data.toList.length = s.size := by rw [Array.length_toList]; rfl
  have g1 : w.grownBy (w.alloc (.cells #[.pointer (some ⟨m, 0, none⟩), .int .i64 p.length, .int .i64 V.length] 31)) none := only_alloc (only_refl _ none) _
  have hx := Blk.new w 31 #[.pointer (some ⟨m, 0, none⟩), .int .i64 p.length, .int .i64 V.length]
  obtain ⟨W, hW⟩ : ∃ W, W = w.alloc (.cells #[.pointer (some ⟨m, 0, none⟩), .int .i64 p.length, .int .i64 V.length] 31) := ⟨_, rfl⟩
  rw [← hW] at g1 hx
  have HT := Lib.hid (Pt.there_ok W B m p.length V.length _ _ (h.grown g1).mem rfl (by omega) (by omega))
  have HP := Lib.hid (fun W' (kk : W.grownBy W' none) => show Calls Tryd.prog 13 #[.pointer (some ⟨m, 0, none⟩), .int .i64 p.length, .string s] W' fun r w' => (∃ v, r = .returned v) ∧ MemG w' B m g (p ++ over V 0 s.data.toList ++ q) ∧ W'.grownBy w' (some g) from by
    refine (mput_any W' B m g _ (p.length : Int) s ((h.grown g1).grown kk) (by omega) (by omega)).mono fun e w' hh => ?_
    have ec : chk (p ++ V ++ q).length (p.length : Int) (s.size : Nat) = 0 := by
      have := Cu.chk_in (base := p.length) (size := V.length) (k := 0) (n := s.size) (Cu.at_in (p := p) (V := V) (q := q) (by omega)) (by omega)
      rw [Nat.add_zero] at this
      exact this
    rw [ec, if_pos rfl, Int.toNat_natCast] at hh
    have e2 := Cu.at_over (p := p) (V := V) (q := q) (k := 0) (bs := s.data.toList) (by omega)
    rw [Nat.add_zero] at e2
    rw [e2] at hh
    exact ⟨⟨_, hh.1⟩, hh.2⟩)
  have hol : (over V 0 s.data.toList).length = V.length := over_len (by omega)
  have HOL := Lib.hid hol
  have HLIM := Lib.hid (show (p ++ over V 0 s.data.toList ++ q).length ≤ 1000 by rw [Pt.len3, hol]; omega)
  have HLT := Lib.hid h.lt
  have HX := Lib.hid hx
  have G1 := Lib.hid g1
  obtain ⟨i1, i2⟩ := ho
  have i3 : ¬ ow < 1 := by omega
  have i4 : ¬ 8 < ow := by omega
  have i5 : ¬ (V.length : Int) < (s.size : Int) := by omega
  obtain ⟨vl, hvl⟩ : ∃ vl, V.length = vl := ⟨_, rfl⟩
  obtain ⟨pl, hpl⟩ : ∃ pl, p.length = pl := ⟨_, rfl⟩
  have HV := Lib.hid hvl
  have HPL := Lib.hid hpl
  rw [hvl] at HT HX HOL i5 hW
  rw [hpl] at HT HX HP hW
  rw [hvl, hpl]
  clear g1 hx h hl hlen hsl hs hol i1 i2 hvl hpl
  obtain ⟨c0, c1, c2⟩ : W.cell? ⟨w.heap.size, 0, none⟩ = some (.pointer (some ⟨m, 0, none⟩)) ∧ W.cell? ⟨w.heap.size, 1, none⟩ = some (.int .i64 pl) ∧ W.cell? ⟨w.heap.size, 2, none⟩ = some (.int .i64 vl) := ⟨HX.out.cell 0, HX.out.cell 1, HX.out.cell 2⟩
  go_enter Tryd.func8, Tryd.ntmps8
  go_upto_region 1 with (fail)
  rw [← hW]
  clear hW
  go_wp2_with (first
    | (go_at_call 26; (with_reducible refine HT.out.mono ?_); rintro e w2 ⟨rfl, g2⟩; have G2 := Lib.hid g2; clear g2; clear c0 c1 c2; obtain ⟨c0, c1, c2⟩ : w2.cell? ⟨w.heap.size, 0, none⟩ = some (.pointer (some ⟨m, 0, none⟩)) ∧ w2.cell? ⟨w.heap.size, 1, none⟩ = some (.int .i64 pl) ∧ w2.cell? ⟨w.heap.size, 2, none⟩ = some (.int .i64 vl) := (by have hh := HX.out.only G2.out (by simp); exact ⟨hh.cell 0, hh.cell 1, hh.cell 2⟩))
    | (go_at_call 13; (with_reducible refine (HP.out _ G2.out).mono ?_); rintro e w3 ⟨⟨z, rfl⟩, hm, g3⟩; have M3 := Lib.hid hm; have G3 := Lib.hid g3; clear hm g3; clear c0 c1 c2; obtain ⟨c0, c1, c2⟩ : w3.cell? ⟨w.heap.size, 0, none⟩ = some (.pointer (some ⟨m, 0, none⟩)) ∧ w3.cell? ⟨w.heap.size, 1, none⟩ = some (.int .i64 pl) ∧ w3.cell? ⟨w.heap.size, 2, none⟩ = some (.int .i64 vl) := (by have hh := (HX.out.only G2.out (by simp)).only G3.out (fun e => by injection e with e; have := HLT.out; omega); exact ⟨hh.cell 0, hh.cell 1, hh.cell 2⟩)))
  have hb := Blk.new w3 76 (Pt.cs m pl vl ow 0 (fun _ => 0) 0)
  have g4 : w3.grownBy (w3.alloc (.cells (Pt.cs m pl vl ow 0 (fun _ => 0) 0) 76)) none := only_alloc (only_refl _ none) _
  have hs1 := G1.out.size
  have hs2 := G2.out.size
  have hs3 := G3.out.size
  have hm3 := M3.out.lt
  have e1 := HOL.out
  have e2 := HPL.out
  go_ret2
  refine ⟨w3.heap.size, rfl, ⟨?_, M3.out.grown g4, by omega, by omega, HLIM.out⟩, ?_, by omega⟩
  · rw [e1, e2]
    exact hb
  · exact only_trans (only_trans (only_any (only_trans G1.out G2.out) _) G3.out) (only_any g4 _)
end Go.Proofs.YtdlioicljpgmaaaDoor
