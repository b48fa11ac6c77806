import Derived.Test.YtiicoabkhponmaaDoorZ24
import Derived.LoopTactic
import Derived.Lib.QuietBelow
set_option linter.all false
/- CpuMoves walked. -/
namespace Go.Proofs.YtiicoabkhponmaaDoor
open Go.RowKit Go.Lib Go.Sort
set_option linter.unusedVariables false
set_option maxRecDepth 20000
attribute [-go_sem] Go.run_neq_struct

/-- The same in both views, step by step. -/
theorem Cu.step_f (V : List UInt8) (pc md : Int) (r : Nat → Int) (p q : List UInt8) (vl : Nat) (hV : V.length = vl) (hl : p.length + vl + q.length ≤ 16384) (hpc : pc ≤ 9223372036854775807) (B m g : Nat) (x : Int) (hx : x = p.length) (j : Nat) (W : World) (h : MemG W B m g (p ++ (Cu.stN V pc r md j).v ++ q)) (hN : Nm W) :
    Calls Tryd.prog 10 #[.agg #[.pointer (some ⟨m, 0, none⟩), .int .i64 x, .int .i64 vl], .agg #[.int .i64 (Cu.stN V pc r md j).pc, .int .i64 ((Cu.stN V pc r md j).r 0), .int .i64 ((Cu.stN V pc r md j).r 1), .int .i64 ((Cu.stN V pc r md j).r 2), .int .i64 ((Cu.stN V pc r md j).r 3), .int .i64 ((Cu.stN V pc r md j).r 4), .int .i64 ((Cu.stN V pc r md j).r 5), .int .i64 ((Cu.stN V pc r md j).r 6), .int .i64 ((Cu.stN V pc r md j).r 7), .int .i64 (Cu.stN V pc r md j).md]] W fun e w' => e = .returned (.tuple #[.agg #[.int .i64 (Cu.stN V pc r md (j + 1)).pc, .int .i64 ((Cu.stN V pc r md (j + 1)).r 0), .int .i64 ((Cu.stN V pc r md (j + 1)).r 1), .int .i64 ((Cu.stN V pc r md (j + 1)).r 2), .int .i64 ((Cu.stN V pc r md (j + 1)).r 3), .int .i64 ((Cu.stN V pc r md (j + 1)).r 4), .int .i64 ((Cu.stN V pc r md (j + 1)).r 5), .int .i64 ((Cu.stN V pc r md (j + 1)).r 6), .int .i64 ((Cu.stN V pc r md (j + 1)).r 7), .int .i64 (Cu.stN V pc r md (j + 1)).md], .agg #[.int .i64 (Cu.stN V pc r md (j + 1)).o1, .int .i64 (Cu.stN V pc r md (j + 1)).o2, .int .i64 (Cu.stN V pc r md (j + 1)).o3, .int .i64 (Cu.stN V pc r md (j + 1)).o4]]) ∧ MemG w' B m g (p ++ (Cu.stN V pc r md (j + 1)).v ++ q) ∧ W.grownBy w' (some g) := by
  have hlen := Cu.stN_len V pc r md j
  have hp := Cu.stN_pc V pc r md (by omega) hpc j
  have hs := Cu.step_any W B m g p (Cu.stN V pc r md j).v q h hN (by simp only [List.length_append]; omega) (Cu.stN V pc r md j).pc hp (Cu.stN V pc r md j).r (Cu.stN V pc r md j).md
  rw [hlen, hV, ← hx] at hs
  exact hs

theorem Cu.grow_of {W W' : World} (b : Below W.heap.size W W') : W.grownBy W' none := ⟨b.os, b.tape, b.output, b.size, fun i hi _ => b.block i hi⟩
section
variable {w W0 w1 w2 : World} {bs m1 g1 m2 g2 : Nat} {p1 q1 p2 q2 V : List UInt8} {n1 n2 vl : Int} {sc : Array Value}
/-- Behind the two views. -/
def Cu.Pre2 (w W : World) (bs m1 g1 bv m2 g2 bw : Nat) (p1 q1 p2 q2 V : List UInt8) (n1 n2 vl : Int) (sc : Array Value) : Prop :=
  Blk W bs 24 sc ∧ Blk W bv 28 #[.pointer (some ⟨m1, 0, none⟩), .int .i64 n1, .int .i64 vl] ∧ Blk W bw 28 #[.pointer (some ⟨m2, 0, none⟩), .int .i64 n2, .int .i64 vl] ∧ MemG W w.heap.size m1 g1 (p1 ++ V ++ q1) ∧ MemG W w.heap.size m2 g2 (p2 ++ V ++ q2) ∧ w.grownBy W none ∧
  (w.heap.size ≤ bs ∧ bs < m1 ∧ bs < g1 ∧ m1 < bv ∧ g1 < bv ∧ bv < m2 ∧ bv < g2 ∧ m2 < bw ∧ g2 < bw ∧ bw < W.heap.size)
theorem Cu.pre (hs : Blk W0 bs 24 sc) (hb : bs = w.heap.size) (hz : W0.heap.size = w.heap.size + 1) (g0 : w.grownBy W0 none) (hm1 : MemG w1 W0.heap.size m1 g1 (p1 ++ V ++ q1)) (b1 : Below W0.heap.size W0 w1)
    (hm2 : MemG w2 (w1.alloc (.cells #[.pointer (some ⟨m1, 0, none⟩), .int .i64 n1, .int .i64 vl] 28)).heap.size m2 g2 (p2 ++ V ++ q2)) (b2 : Below (w1.alloc (.cells #[.pointer (some ⟨m1, 0, none⟩), .int .i64 n1, .int .i64 vl] 28)).heap.size (w1.alloc (.cells #[.pointer (some ⟨m1, 0, none⟩), .int .i64 n1, .int .i64 vl] 28)) w2) :
    Cu.Pre2 w (w2.alloc (.cells #[.pointer (some ⟨m2, 0, none⟩), .int .i64 n2, .int .i64 vl] 28)) bs m1 g1 w1.heap.size m2 g2 w2.heap.size p1 q1 p2 q2 V n1 n2 vl sc := by
  have a1 := Cu.grow_of b1
  have a2 := Cu.grow_of b2
  have n0 : ∀ (W : World) (o : Obj), W.grownBy (W.alloc o) none := fun W o => only_alloc (only_refl W none) o
  have l1 := hm1.1
  have l2 := hm1.2.1
  have l3 := hm2.1
  have l4 := hm2.2.1
  have l5 := hm1.lt
  have l6 := hm2.lt
  have z1 : (w1.alloc (.cells #[.pointer (some ⟨m1, 0, none⟩), .int .i64 n1, .int .i64 vl] 28)).heap.size = w1.heap.size + 1 := by simp
  have hv := Blk.new w1 28 #[.pointer (some ⟨m1, 0, none⟩), .int .i64 n1, .int .i64 vl]
  generalize hW : w1.alloc (.cells #[.pointer (some ⟨m1, 0, none⟩), .int .i64 n1, .int .i64 vl] 28) = w1' at *
  have a12 : w1.grownBy w1' none := by rw [← hW]; exact n0 _ _
  have all : w1'.grownBy (w2.alloc (.cells #[.pointer (some ⟨m2, 0, none⟩), .int .i64 n2, .int .i64 vl] 28)) none := only_trans a2 (n0 _ _)
  have a01 : w1.grownBy (w2.alloc (.cells #[.pointer (some ⟨m2, 0, none⟩), .int .i64 n2, .int .i64 vl] 28)) none := only_trans a12 all
  refine ⟨hs.only (only_trans a1 a01) (by simp), hv.only all (by simp), Blk.new _ _ _, Cu.memg_low (hm1.grown a01) (by omega), Cu.memg_low (hm2.grown (n0 _ _)) (by omega), only_trans g0 (only_trans a1 a01), ?_⟩
  have z2 : (w2.alloc (.cells #[.pointer (some ⟨m2, 0, none⟩), .int .i64 n2, .int .i64 vl] 28)).heap.size = w2.heap.size + 1 := by simp
  omega
theorem Cu.start {W : World} {bv bw : Nat} {r : Nat → Int} {pc md : Int} {a : Cu.Af} (h : Cu.Pre2 w W bs m1 g1 bv m2 g2 bw p1 q1 p2 q2 V n1 n2 vl (Cu.stC pc r md)) (hN : Nm w) (ha : a = ⟨V, pc, r, md, 0, 0, 0, 0⟩) :
    Cu.Mv w (W.alloc (.cells (Cu.stC pc r md) 24)) bs m1 g1 bv m2 g2 bw W.heap.size p1 q1 p2 q2 n1 n2 vl a.v a.v (Cu.stC a.pc a.r a.md) (Cu.stC a.pc a.r a.md) := by
  subst ha
  obtain ⟨h1, h2, h3, h4, h5, h6, h7⟩ := h
  have k : W.grownBy (W.alloc (.cells (Cu.stC pc r md) 24)) none := only_alloc (only_refl W none) _
  exact ⟨h1.only k (by simp), Blk.new _ _ _, h2.only k (by simp), h3.only k (by simp), h4.grown k, h5.grown k, only_trans h6 k, hN, h7⟩
end
section
variable {w W W' : World} {bs m1 g1 bv m2 g2 bw bt bo : Nat} {p1 q1 p2 q2 : List UInt8} {n1 n2 vl : Int} {V1 V2 V' : List UInt8} {sc tc sc' : Array Value} {oa ob : Array Value}
/-- The boxes, and the two of what a step did. -/
def Cu.Mo (w W : World) (bs m1 g1 bv m2 g2 bw bt bo : Nat) (p1 q1 p2 q2 : List UInt8) (n1 n2 vl : Int) (V1 V2 : List UInt8) (sc tc oa ob : Array Value) : Prop :=
  Cu.Mv w W bs m1 g1 bv m2 g2 bw bt p1 q1 p2 q2 n1 n2 vl V1 V2 sc tc ∧ Blk W bo 37 oa ∧ Blk W (bo + 1) 37 ob ∧ bt < bo
theorem Cu.round1 (h : Cu.Mv w W bs m1 g1 bv m2 g2 bw bt p1 q1 p2 q2 n1 n2 vl V1 V2 sc tc) : Cu.Mo w ((W.alloc (.cells #[.int .i64 0, .int .i64 0, .int .i64 0, .int .i64 0] 37)).alloc (.cells #[.int .i64 0, .int .i64 0, .int .i64 0, .int .i64 0] 37)) bs m1 g1 bv m2 g2 bw bt W.heap.size p1 q1 p2 q2 n1 n2 vl V1 V2 sc tc #[.int .i64 0, .int .i64 0, .int .i64 0, .int .i64 0] #[.int .i64 0, .int .i64 0, .int .i64 0, .int .i64 0] := by
  refine ⟨h.grown (only_alloc (only_alloc (only_refl W none) _) _), (Blk.new _ _ _).alloc _, ?_, h.tb.lt⟩
  have := Blk.new (W.alloc (.cells #[.int .i64 0, .int .i64 0, .int .i64 0, .int .i64 0] 37)) 37 #[.int .i64 0, .int .i64 0, .int .i64 0, .int .i64 0]
  simpa using this
theorem Cu.round2 (h : Cu.Mo w W bs m1 g1 bv m2 g2 bw bt bo p1 q1 p2 q2 n1 n2 vl V1 V2 sc tc oa ob) (hm : MemG W' w.heap.size m1 g1 (p1 ++ V' ++ q1)) (k : W.grownBy W' (some g1)) : Cu.Mo w W' bs m1 g1 bv m2 g2 bw bt bo p1 q1 p2 q2 n1 n2 vl V' V2 sc tc oa ob := by
  have l := h.1.lt
  have l2 := h.2.2.2
  exact ⟨h.1.step1 hm k, h.2.1.only k (fun e => by injection e with e; omega), h.2.2.1.only k (fun e => by injection e with e; omega), l2⟩
theorem Cu.round3 (h : Cu.Mo w W bs m1 g1 bv m2 g2 bw bt bo p1 q1 p2 q2 n1 n2 vl V1 V2 sc tc oa ob) (hm : MemG W' w.heap.size m2 g2 (p2 ++ V' ++ q2)) (k : W.grownBy W' (some g2)) : Cu.Mo w W' bs m1 g1 bv m2 g2 bw bt bo p1 q1 p2 q2 n1 n2 vl V1 V' sc tc oa ob := by
  have l := h.1.lt
  have l2 := h.2.2.2
  exact ⟨h.1.step2 hm k, h.2.1.only k (fun e => by injection e with e; omega), h.2.2.1.only k (fun e => by injection e with e; omega), l2⟩
theorem Cu.put_s {s0 s1 s2 s3 s4 s5 s6 s7 s8 s9 z0 z1 z2 z3 : Value} (h : Cu.Mo w W bs m1 g1 bv m2 g2 bw bt bo p1 q1 p2 q2 n1 n2 vl V1 V2 #[s0, s1, s2, s3, s4, s5, s6, s7, s8, s9] tc #[z0, z1, z2, z3] ob) (y0 y1 y2 y3 y4 y5 y6 y7 y8 y9 x0 x1 x2 x3 : Value) :
    ∀ W', W' = ((((((((((((((W.setCell ⟨bs, 0, none⟩ y0).setCell ⟨bs, 1, none⟩ y1).setCell ⟨bs, 2, none⟩ y2).setCell ⟨bs, 3, none⟩ y3).setCell ⟨bs, 4, none⟩ y4).setCell ⟨bs, 5, none⟩ y5).setCell ⟨bs, 6, none⟩ y6).setCell ⟨bs, 7, none⟩ y7).setCell ⟨bs, 8, none⟩ y8).setCell ⟨bs, 9, none⟩ y9).setCell ⟨bo, 0, none⟩ x0).setCell ⟨bo, 1, none⟩ x1).setCell ⟨bo, 2, none⟩ x2).setCell ⟨bo, 3, none⟩ x3) → Cu.Mo w W' bs m1 g1 bv m2 g2 bw bt bo p1 q1 p2 q2 n1 n2 vl V1 V2 #[y0, y1, y2, y3, y4, y5, y6, y7, y8, y9] tc #[x0, x1, x2, x3] ob := by
  intro W' hW
  have l := h.1.lt
  have l2 := h.2.2.2
  obtain ⟨W1, ⟨k1, b1⟩, k2, b2⟩ := Cu.put14 h.1.sb h.2.1 (by omega) y0 y1 y2 y3 y4 y5 y6 y7 y8 y9 x0 x1 x2 x3 W' hW
  exact ⟨(h.1.putS b1 k1).off (by omega) k2, b2, (h.2.2.1.only k1 (fun e => by injection e with e; omega)).only k2 (fun e => by injection e with e; omega), l2⟩
theorem Cu.put_t {s0 s1 s2 s3 s4 s5 s6 s7 s8 s9 z0 z1 z2 z3 : Value} (h : Cu.Mo w W bs m1 g1 bv m2 g2 bw bt bo p1 q1 p2 q2 n1 n2 vl V1 V2 sc #[s0, s1, s2, s3, s4, s5, s6, s7, s8, s9] oa #[z0, z1, z2, z3]) (y0 y1 y2 y3 y4 y5 y6 y7 y8 y9 x0 x1 x2 x3 : Value) :
    ∀ W', W' = ((((((((((((((W.setCell ⟨bt, 0, none⟩ y0).setCell ⟨bt, 1, none⟩ y1).setCell ⟨bt, 2, none⟩ y2).setCell ⟨bt, 3, none⟩ y3).setCell ⟨bt, 4, none⟩ y4).setCell ⟨bt, 5, none⟩ y5).setCell ⟨bt, 6, none⟩ y6).setCell ⟨bt, 7, none⟩ y7).setCell ⟨bt, 8, none⟩ y8).setCell ⟨bt, 9, none⟩ y9).setCell ⟨bo + 1, 0, none⟩ x0).setCell ⟨bo + 1, 1, none⟩ x1).setCell ⟨bo + 1, 2, none⟩ x2).setCell ⟨bo + 1, 3, none⟩ x3) → Cu.Mo w W' bs m1 g1 bv m2 g2 bw bt bo p1 q1 p2 q2 n1 n2 vl V1 V2 sc #[y0, y1, y2, y3, y4, y5, y6, y7, y8, y9] oa #[x0, x1, x2, x3] := by
  intro W' hW
  have l := h.1.lt
  have l2 := h.2.2.2
  obtain ⟨W1, ⟨k1, b1⟩, k2, b2⟩ := Cu.put14 h.1.tb h.2.2.1 (by omega) y0 y1 y2 y3 y4 y5 y6 y7 y8 y9 x0 x1 x2 x3 W' hW
  exact ⟨(h.1.putT b1 k1).off (by omega) k2, (h.2.1.only k1 (fun e => by injection e with e; omega)).only k2 (fun e => by injection e with e; omega), b2, l2⟩
end
theorem Cu.live3 (w W : World) (hN : Nm W) (h : w.grownBy W none) : Calls Tryd.prog 7 #[] W fun e w' => e = .returned (.bool true) ∧ w.grownBy w' none :=
  (Cu.live_any W hN hN.pos).mono fun e w' ⟨e1, b⟩ => ⟨e1, only_trans h ⟨b.os, b.tape, b.output, b.size, fun i hi _ => b.block i hi⟩⟩
theorem Cu.below {w W : World} (h : w.grownBy W none) : Below w.heap.size w W := below_of_only h (Nat.le_refl _) (fun k hk => by cases hk)
theorem Cu.text_re {W : World} {B m g vl x : Nat} {p V q : List UInt8} (hx : x = p.length) (hV : V.length = vl) (hl : p.length + vl + q.length ≤ 16384) (h : MemG W B m g (p ++ V ++ q)) :
    Calls Tryd.prog 12 #[.agg #[.pointer (some ⟨m, 0, none⟩), .int .i64 x, .int .i64 vl]] W fun e w' => e = .returned (.string ⟨V.toArray⟩) ∧ Below W.heap.size W w' := by
  subst hx hV
  exact (Cu.text_any W B m p V q h.mem (by simp only [List.length_append]; exact hl)).mono fun e w' ⟨e1, g⟩ => ⟨e1, Cu.below g⟩
set_option maxHeartbeats 12800000 in
theorem Cu.moves_ok (s : ByteArray) (vl : Nat) (pc md : Int) (r : Nat → Int) (n b : Int) (w : World) (hN : Nm w) (hpc : pc ≤ 9223372036854775807) (bn : 0 ≤ n ∧ n ≤ 255) (bb : 0 ≤ b ∧ b ≤ 65535) (h1 : s.size ≤ 400) (h3 : vl ≤ 400) : Calls Tryd.prog 5 #[.string s, .int .i64 vl, Cu.stV pc r md, .int .u8 n, .int .u16 b] w fun e w' => e = .returned (.bool true) ∧ Below w.heap.size w w' := by
  obtain ⟨x, hx⟩ := Int.eq_ofNat_of_zero_le (show 0 ≤ b % 500 from by omega)
  have hbt : b.tmod 500 = (x : Int) := by rw [Int.tmod_eq_emod_of_nonneg bb.1]; exact hx
  have hx5 : x ≤ 500 := by omega
  obtain ⟨N, hNN⟩ := Int.eq_ofNat_of_zero_le (show 0 ≤ n % 60 from by omega)
  have hnt : n.tmod 60 = (N : Int) := by rw [Int.tmod_eq_emod_of_nonneg bn.1]; exact hNN
  have hN60 : N < 60 := by omega
  have HV1 := Lib.hid (show ∀ W, Calls Tryd.prog 8 #[.string s, .int .i64 300, .int .i64 vl] W fun e w' => ∃ m g v, e = .returned (.tuple #[.pointer (some ⟨m, 0, none⟩), .agg #[.pointer (some ⟨m, 0, none⟩), .int .i64 300, .int .i64 vl], v]) ∧ MemG w' W.heap.size m g (Cu.z 300 ++ Cu.v0 s vl ++ Cu.z (1000 - 300 - vl)) ∧ Below W.heap.size W w' from Cu.view_any s 300 vl h1 (by omega) (by omega))
  have HV2 := Lib.hid (show ∀ W, Calls Tryd.prog 8 #[.string s, .int .i64 x, .int .i64 vl] W fun e w' => ∃ m g v, e = .returned (.tuple #[.pointer (some ⟨m, 0, none⟩), .agg #[.pointer (some ⟨m, 0, none⟩), .int .i64 x, .int .i64 vl], v]) ∧ MemG w' W.heap.size m g (Cu.z x ++ Cu.v0 s vl ++ Cu.z (1000 - x - vl)) ∧ Below W.heap.size W w' from Cu.view_any s x vl h1 hx5 (by omega))
  have s4 : (s.size : Int) ≤ 400 := by omega
  have s5 : (vl : Int) ≤ 400 := by omega
  have HS1 := Lib.hid (fun m g B j W => Cu.step_f (Cu.v0 s vl) pc md r (Cu.z 300) (Cu.z (1000 - 300 - vl)) vl (Cu.v0_len _ _) (by rw [Cu.z_len, Cu.z_len]; omega) hpc B m g 300 (by rw [Cu.z_len]; rfl) j W)
  have HS2 := Lib.hid (fun m g B j W => Cu.step_f (Cu.v0 s vl) pc md r (Cu.z x) (Cu.z (1000 - x - vl)) vl (Cu.v0_len _ _) (by rw [Cu.z_len, Cu.z_len]; omega) hpc B m g x (by rw [Cu.z_len]) j W)
  have HVL := Lib.hid (fun j => show (Cu.stN (Cu.v0 s vl) pc r md j).v.length = vl from (Cu.stN_len _ _ _ _ j).trans (Cu.v0_len _ _))
  have HF0 := Lib.hid (show Cu.stN (Cu.v0 s vl) pc r md 0 = ⟨Cu.v0 s vl, pc, r, md, 0, 0, 0, 0⟩ from rfl)
  generalize Cu.stN (Cu.v0 s vl) pc r md = f at HS1 HS2 HF0 HVL
  have HP1 := Lib.hid (Cu.z_len 300)
  have HP2 := Lib.hid (Cu.z_len x)
  have HQ1 := Lib.hid (Cu.z_len (1000 - 300 - vl))
  have HQ2 := Lib.hid (Cu.z_len (1000 - x - vl))
  generalize Cu.v0 s vl = V at *
  generalize Cu.z 300 = p1 at *
  generalize Cu.z x = p2 at *
  generalize Cu.z (1000 - 300 - vl) = q1 at *
  generalize Cu.z (1000 - x - vl) = q2 at *
  clear hx hNN
  obtain ⟨W0, hW0, g0, hB0⟩ := ibox w 24 (Cu.stC pc r md)
  have z0 : W0.heap.size = w.heap.size + 1 := by rw [hW0]; simp
  have HB0 := Lib.hid hB0
  have HG0 := Lib.hid g0
  have HZ0 := Lib.hid z0
  have HN0 := Lib.hid (hN.grown g0 (by simp))
  have HNw := Lib.hid hN
  clear hB0 g0 z0 hN
  unfold Cu.stV
  unfold Cu.stC at hW0 HB0 ⊢
  go_enter Tryd.func5, Tryd.ntmps5
  go_upto_region 1 with (fail)
  rw [← hW0]
  obtain ⟨bs, hbs⟩ : ∃ bs, bs = w.heap.size := ⟨_, rfl⟩
  rw [← hbs] at HB0 ⊢
  have HBS := Lib.hid hbs
  clear hW0 hbs
  go_upto_region 5 with (first
    | (go_at_call 8; (with_reducible refine (HV1.out _).mono ?_); rintro e w1 ⟨m1, g1, v1, rfl, hm1, b1⟩; have HM1 := Lib.hid hm1; have HB1 := Lib.hid b1; clear hm1 b1)
    | (go_at_call 8; (with_reducible refine (HV2.out _).mono ?_); rintro e w2 ⟨m2, g2, v2, rfl, hm2, b2⟩; have HM2 := Lib.hid hm2; have HB2 := Lib.hid b2; clear hm2 b2))
  -- all boxes but t's
  have HPRE := Lib.hid (Cu.pre (bs := bs) (n2 := (x : Int)) HB0.out HBS.out HZ0.out HG0.out HM1.out HB1.out HM2.out HB2.out)
  obtain ⟨bv, hbv⟩ : ∃ bv, bv = w1.heap.size := ⟨_, rfl⟩
  obtain ⟨bw, hbw⟩ : ∃ bw, bw = w2.heap.size := ⟨_, rfl⟩
  obtain ⟨W4, hW4⟩ : ∃ W4, W4 = w2.alloc (.cells #[.pointer (some ⟨m2, 0, none⟩), .int .i64 x, .int .i64 vl] 28) := ⟨_, rfl⟩
  rw [← hW4, ← hbv, ← hbw] at HPRE ⊢
  clear hW4 hbv hbw HM1 HB1 HM2 HB2 HB0
  obtain ⟨k0, k1, k2, k3, k4, k5, k6, k7, k8, k9⟩ := Cu.cells10 HPRE.out.1
  go_upto_region 6 with (fail)
  have HMV := Lib.hid (Cu.start HPRE.out HNw.out HF0.out)
  obtain ⟨bt, hbt2⟩ : ∃ bt, bt = W4.heap.size := ⟨_, rfl⟩
  obtain ⟨W5, hW5⟩ : ∃ W5, W5 = W4.alloc (.cells (Cu.stC pc r md) 24) := ⟨_, rfl⟩
  rw [← hW5, ← hbt2] at HMV
  rw [show W4.alloc (.cells #[.int .i64 pc, .int .i64 (r 0), .int .i64 (r 1), .int .i64 (r 2), .int .i64 (r 3), .int .i64 (r 4), .int .i64 (r 5), .int .i64 (r 6), .int .i64 (r 7), .int .i64 md] 24) = W5 from hW5.symm, ← hbt2]
  clear hW5 hbt2 HPRE k0 k1 k2 k3 k4 k5 k6 k7 k8 k9
  go_wp2
  go_loopw [18] (fun y wr => ∃ j : Nat, y = .int .i64 j ∧ j ≤ N ∧ Hid (Cu.Mv w wr bs m1 g1 bv m2 g2 bw bt p1 q1 p2 q2 300 x vl (f j).v (f j).v (Cu.stC (f j).pc (f j).r (f j).md) (Cu.stC (f j).pc (f j).r (f j).md))) (fun y _ => N - (Go.RowKit.intOf y).toNat)
  case atStart => exact ⟨0, rfl, by omega, HMV⟩
  case round =>
    obtain ⟨j, rfl, hj, HM⟩ := hrel
    clear HMV
    by_cases hjn : j < N
    · have j1 : (j : Int) < (N : Int) := by omega
      have HC := Lib.hid (Cu.round1 HM.out)
      go_upto_region 10 with (fail)
      obtain ⟨bo, hbo⟩ : ∃ bo, bo = wr.heap.size := ⟨_, rfl⟩
      obtain ⟨W6, hW6⟩ : ∃ W6, W6 = (wr.alloc (.cells #[.int .i64 0, .int .i64 0, .int .i64 0, .int .i64 0] 37)).alloc (.cells #[.int .i64 0, .int .i64 0, .int .i64 0, .int .i64 0] 37) := ⟨_, rfl⟩
      rw [← hW6, ← hbo] at HC ⊢
      clear hW6 hbo
      obtain ⟨k0, k1, k2, k3, k4, k5, k6, k7, k8, k9⟩ := Cu.cells10 HC.out.1.sb
      obtain ⟨v0, v1, v2⟩ := in3 HC.out.1.vb
      have HL := Lib.hid HC.out.1.lt
      have HL2 := Lib.hid HC.out.2.2.2
      have e1 : ¬ bs = bo := by have := HL.out; have := HL2.out; omega
      have e2 : ¬ bo = bs := by have := HL.out; have := HL2.out; omega
      have HSA := Lib.hid (HS1.out _ _ _ j _ HC.out.1.me1 HC.out.1.NM)
      go_upto_region 11 with (go_at_call 10; (with_reducible refine HSA.out.mono ?_); rintro e w7 ⟨rfl, hm7, g7⟩; have HD := Lib.hid (Cu.round2 HC.out hm7 g7); clear hm7 g7 k0 k1 k2 k3 k4 k5 k6 k7 k8 k9 v0 v1 v2; obtain ⟨k0, k1, k2, k3, k4, k5, k6, k7, k8, k9⟩ := Cu.cells10 HD.out.1.sb; obtain ⟨f0, f1, f2, f3, f4, f5, f6, f7, f8, f9⟩ := Cu.free10 HD.out.1.sb; obtain ⟨c0, c1, c2, c3⟩ := Cu.cells4 HD.out.2.1; obtain ⟨d0, d1, d2, d3⟩ := Cu.free4 HD.out.2.1)
      clear k0 k1 k2 k3 k4 k5 k6 k7 k8 k9 f0 f1 f2 f3 f4 f5 f6 f7 f8 f9 c0 c1 c2 c3 d0 d1 d2 d3 HC
      obtain ⟨W8, hW8⟩ : ∃ W8, W8 = ((((((((((((((w7.setCell ⟨bs, 0, none⟩ (.int .i64 (f (j + 1)).pc)).setCell ⟨bs, 1, none⟩ (.int .i64 ((f (j + 1)).r 0))).setCell ⟨bs, 2, none⟩ (.int .i64 ((f (j + 1)).r 1))).setCell ⟨bs, 3, none⟩ (.int .i64 ((f (j + 1)).r 2))).setCell ⟨bs, 4, none⟩ (.int .i64 ((f (j + 1)).r 3))).setCell ⟨bs, 5, none⟩ (.int .i64 ((f (j + 1)).r 4))).setCell ⟨bs, 6, none⟩ (.int .i64 ((f (j + 1)).r 5))).setCell ⟨bs, 7, none⟩ (.int .i64 ((f (j + 1)).r 6))).setCell ⟨bs, 8, none⟩ (.int .i64 ((f (j + 1)).r 7))).setCell ⟨bs, 9, none⟩ (.int .i64 (f (j + 1)).md)).setCell ⟨bo, 0, none⟩ (.int .i64 (f (j + 1)).o1)).setCell ⟨bo, 1, none⟩ (.int .i64 (f (j + 1)).o2)).setCell ⟨bo, 2, none⟩ (.int .i64 (f (j + 1)).o3)).setCell ⟨bo, 3, none⟩ (.int .i64 (f (j + 1)).o4)) := ⟨_, rfl⟩
      have HE := Lib.hid (Cu.put_s HD.out (.int .i64 (f (j + 1)).pc) (.int .i64 ((f (j + 1)).r 0)) (.int .i64 ((f (j + 1)).r 1)) (.int .i64 ((f (j + 1)).r 2)) (.int .i64 ((f (j + 1)).r 3)) (.int .i64 ((f (j + 1)).r 4)) (.int .i64 ((f (j + 1)).r 5)) (.int .i64 ((f (j + 1)).r 6)) (.int .i64 ((f (j + 1)).r 7)) (.int .i64 (f (j + 1)).md) (.int .i64 (f (j + 1)).o1) (.int .i64 (f (j + 1)).o2) (.int .i64 (f (j + 1)).o3) (.int .i64 (f (j + 1)).o4) _ hW8)
      rw [← hW8]
      clear hW8 HD e1 e2
      obtain ⟨k0, k1, k2, k3, k4, k5, k6, k7, k8, k9⟩ := Cu.cells10 HE.out.1.tb
      obtain ⟨v0, v1, v2⟩ := in3 HE.out.1.wb
      have e1 : ¬ bt = bo + 1 := by have := HL.out; have := HL2.out; omega
      have e2 : ¬ bo + 1 = bt := by have := HL.out; have := HL2.out; omega
      have HSB := Lib.hid (HS2.out _ _ _ j _ HE.out.1.me2 HE.out.1.NM)
      go_upto_region 12 with (go_at_call 10; (with_reducible refine HSB.out.mono ?_); rintro e w9 ⟨rfl, hm9, g9⟩; have HH := Lib.hid (Cu.round3 HE.out hm9 g9); clear hm9 g9 k0 k1 k2 k3 k4 k5 k6 k7 k8 k9 v0 v1 v2; obtain ⟨k0, k1, k2, k3, k4, k5, k6, k7, k8, k9⟩ := Cu.cells10 HH.out.1.tb; obtain ⟨f0, f1, f2, f3, f4, f5, f6, f7, f8, f9⟩ := Cu.free10 HH.out.1.tb; obtain ⟨c0, c1, c2, c3⟩ := Cu.cells4 HH.out.2.2.1; obtain ⟨d0, d1, d2, d3⟩ := Cu.free4 HH.out.2.2.1)
      clear k0 k1 k2 k3 k4 k5 k6 k7 k8 k9 f0 f1 f2 f3 f4 f5 f6 f7 f8 f9 c0 c1 c2 c3 d0 d1 d2 d3 HE
      obtain ⟨W10, hW10⟩ : ∃ W10, W10 = ((((((((((((((w9.setCell ⟨bt, 0, none⟩ (.int .i64 (f (j + 1)).pc)).setCell ⟨bt, 1, none⟩ (.int .i64 ((f (j + 1)).r 0))).setCell ⟨bt, 2, none⟩ (.int .i64 ((f (j + 1)).r 1))).setCell ⟨bt, 3, none⟩ (.int .i64 ((f (j + 1)).r 2))).setCell ⟨bt, 4, none⟩ (.int .i64 ((f (j + 1)).r 3))).setCell ⟨bt, 5, none⟩ (.int .i64 ((f (j + 1)).r 4))).setCell ⟨bt, 6, none⟩ (.int .i64 ((f (j + 1)).r 5))).setCell ⟨bt, 7, none⟩ (.int .i64 ((f (j + 1)).r 6))).setCell ⟨bt, 8, none⟩ (.int .i64 ((f (j + 1)).r 7))).setCell ⟨bt, 9, none⟩ (.int .i64 (f (j + 1)).md)).setCell ⟨bo + 1, 0, none⟩ (.int .i64 (f (j + 1)).o1)).setCell ⟨bo + 1, 1, none⟩ (.int .i64 (f (j + 1)).o2)).setCell ⟨bo + 1, 2, none⟩ (.int .i64 (f (j + 1)).o3)).setCell ⟨bo + 1, 3, none⟩ (.int .i64 (f (j + 1)).o4)) := ⟨_, rfl⟩
      have HI := Lib.hid (Cu.put_t HH.out (.int .i64 (f (j + 1)).pc) (.int .i64 ((f (j + 1)).r 0)) (.int .i64 ((f (j + 1)).r 1)) (.int .i64 ((f (j + 1)).r 2)) (.int .i64 ((f (j + 1)).r 3)) (.int .i64 ((f (j + 1)).r 4)) (.int .i64 ((f (j + 1)).r 5)) (.int .i64 ((f (j + 1)).r 6)) (.int .i64 ((f (j + 1)).r 7)) (.int .i64 (f (j + 1)).md) (.int .i64 (f (j + 1)).o1) (.int .i64 (f (j + 1)).o2) (.int .i64 (f (j + 1)).o3) (.int .i64 (f (j + 1)).o4) _ hW10)
      rw [← hW10]
      clear hW10 HH e1 e2
      obtain ⟨k0, k1, k2, k3, k4, k5, k6, k7, k8, k9⟩ := Cu.cells10 HI.out.1.sb
      obtain ⟨t0, t1, t2, t3, t4, t5, t6, t7, t8, t9⟩ := Cu.cells10 HI.out.1.tb
      obtain ⟨c0, c1, c2, c3⟩ := Cu.cells4 HI.out.2.1
      obtain ⟨d0, d1, d2, d3⟩ := Cu.cells4 HI.out.2.2.1
      have hq1 : ∀ W, (binOp BinOp.neq 24 (.agg #[.int .i64 (f (j + 1)).pc, .int .i64 ((f (j + 1)).r 0), .int .i64 ((f (j + 1)).r 1), .int .i64 ((f (j + 1)).r 2), .int .i64 ((f (j + 1)).r 3), .int .i64 ((f (j + 1)).r 4), .int .i64 ((f (j + 1)).r 5), .int .i64 ((f (j + 1)).r 6), .int .i64 ((f (j + 1)).r 7), .int .i64 (f (j + 1)).md]) (.agg #[.int .i64 (f (j + 1)).pc, .int .i64 ((f (j + 1)).r 0), .int .i64 ((f (j + 1)).r 1), .int .i64 ((f (j + 1)).r 2), .int .i64 ((f (j + 1)).r 3), .int .i64 ((f (j + 1)).r 4), .int .i64 ((f (j + 1)).r 5), .int .i64 ((f (j + 1)).r 6), .int .i64 ((f (j + 1)).r 7), .int .i64 (f (j + 1)).md])).run Tryd.prog W = .ok (.bool false) W := fun W => Cu.neq_st _ _ _ W
      have hq2 : ∀ W, (binOp BinOp.neq 37 (.agg #[.int .i64 (f (j + 1)).o1, .int .i64 (f (j + 1)).o2, .int .i64 (f (j + 1)).o3, .int .i64 (f (j + 1)).o4]) (.agg #[.int .i64 (f (j + 1)).o1, .int .i64 (f (j + 1)).o2, .int .i64 (f (j + 1)).o3, .int .i64 (f (j + 1)).o4])).run Tryd.prog W = .ok (.bool false) W := fun W => Cu.neq_out _ _ _ _ W
      go_wp2
      go_roundw
      case rel => exact ⟨j + 1, by go_num, by omega, Lib.hid HI.out.1⟩
      case measure => simp [Go.RowKit.intOf]; omega
    · have hje : j = N := by omega
      subst hje
      have j1 : ¬ (j : Int) < (j : Int) := by omega
      obtain ⟨v0, v1, v2⟩ := in3 HM.out.vb
      obtain ⟨u0, u1, u2⟩ := in3 HM.out.wb
      go_upto_region 14 with (fail)
      have v0r := fun d os => cell_regrown v0 d os
      have v1r := fun d os => cell_regrown v1 d os
      have v2r := fun d os => cell_regrown v2 d os
      have u0r := fun d os => cell_regrown u0 d os
      have u1r := fun d os => cell_regrown u1 d os
      have u2r := fun d os => cell_regrown u2 d os
      have HT1 := Lib.hid (fun (d : Nat) (os : Array Obj) => Cu.text_re (p := p1) (q := q1) (x := 300) HP1.out.symm (HVL.out j) (show p1.length + vl + q1.length ≤ 16384 by rw [HP1.out, HQ1.out]; omega) (HM.out.grown (Cu.grow_of (below_regrown wr d os))).me1)
      have HT2 := Lib.hid (fun (d : Nat) (os : Array Obj) => Cu.text_re (p := p2) (q := q2) (x := x) HP2.out.symm (HVL.out j) (show p2.length + vl + q2.length ≤ 16384 by rw [HP2.out, HQ2.out]; omega) (HM.out.grown (Cu.grow_of (below_regrown wr d os))).me2)
      have HL := Lib.hid (fun (d : Nat) (os : Array Obj) => Cu.live_any (grow (redrawn wr d) os) ((HM.out.grown (Cu.grow_of (below_regrown wr d os))).NM) ((HM.out.grown (Cu.grow_of (below_regrown wr d os))).NM.pos))
      have HGR := Lib.hid HM.out.gr
      generalize (⟨(f j).v.toArray⟩ : ByteArray) = tx at HT1 HT2
      clear v0 v1 v2 u0 u1 u2
      refine wp_region_quiet_below (by kernel_rfl) (by kernel_rfl) ?_
      repeat (quiet_step ((first
        | (go_at_call 7; with_reducible exact Calls.regrown_of (HL.out _ _))
        | (go_at_call 12; with_reducible exact Calls.regrown_of (HT1.out _ _))
        | (go_at_call 12; with_reducible exact Calls.regrown_of (HT2.out _ _)))))
      refine wpQuiet_nil ?_
      rintro _ ⟨⟨dq, osq⟩, rfl⟩
      have HBE := Lib.hid (only_trans HGR.out (Cu.grow_of (below_regrown wr dq osq)))
      clear v0r v1r v2r u0r u1r u2r HT1 HT2 HL
      generalize grow (redrawn wr dq) osq = wz at HBE ⊢
      go_wp2
      go_ret
      exact ⟨by first | rfl | simp, Cu.below HBE.out⟩

end Go.Proofs.YtiicoabkhponmaaDoor
