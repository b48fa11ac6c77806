import Derived.Test.YtpolkioaagahhaaDoorZ10
import Derived.ChangeKeysEq
import Derived.Deep.Cut
import Derived.LoopTactic
import Derived.Lib.QuietBelow
import Derived.Test.YtpolkioaagahhaaDoorZ02
import Derived.ProofKit
import Derived.LaidMore
import Derived.OpenShut
import Derived.ShutString
import Derived.ChangeOld
import Derived.Stop.Joined
import Derived.Lib.SmallJoins
import Derived.Test.YtpolkioaagahhaaDoorCards
import Derived.Test.YtpolkioaagahhaaDoorTie
import Derived.SevenTiedAt
set_option linter.all false
/- States, and what steps did, held against themselves. -/
namespace Go.Proofs.YtpolkioaagahhaaDoor
open Go.RowKit Go.Lib
set_option linter.unusedVariables false
set_option maxRecDepth 8000
theorem Cu.int_info : ∃ i, Tryd.prog.info? 3 = some i := Option.isSome_iff_exists.1 (show (Tryd.prog.info? 3).isSome = true by kernel_rfl)
theorem Cu.int_cells : Tryd.prog.cellsOf 3 = 1 := by kernel_rfl
/-- Eight numbers are the same as1 themselves. -/
theorem Cu.eql_regs (x0 x1 x2 x3 x4 x5 x6 x7 : Int) (w : World) : (Op.equalIn 9999 22 (.agg #[.int .i64 x0, .int .i64 x1, .int .i64 x2, .int .i64 x3, .int .i64 x4, .int .i64 x5, .int .i64 x6, .int .i64 x7]) (.agg #[.int .i64 x0, .int .i64 x1, .int .i64 x2, .int .i64 x3, .int .i64 x4, .int .i64 x5, .int .i64 x6, .int .i64 x7])).run Tryd.prog w = .ok true w := by
  obtain ⟨i, hi⟩ := Cu.int_info
  rw [run_equalIn_array (P := Tryd.prog) w 9998 (t := 22) (e := 3) (n := 8) (i := i) _ _ Tryd.underlying22 hi, Cu.int_cells]
  simp [Op.eqItems, List.range, List.range.loop, part, run_equalIn_int _ _ _ _ _ _ _ Tryd.underlying3, go_sem]

theorem Cu.neq_st (pc : Int) (r : Nat → Int) (md : Int) (w : World) : (binOp BinOp.neq 24 (Cu.stV pc r md) (Cu.stV pc r md)).run Tryd.prog w = .ok (.bool false) w := by
  unfold Cu.stV Cu.stC
  rw [run_neq_struct, run_equalIn_agg w 9999 _ _ _ (by kernel_rfl) (by kernel_rfl)]
  have hf : (Tryd.prog.fieldsOf 24).toList.map (fun f => (f.name, f.type, f.offset)) = [("Pc", 3, 0), ("R", 22, 1), ("Mode", 3, 9)] := by kernel_rfl
  generalize (Tryd.prog.fieldsOf 24).toList = fs at hf
  have hlen := congrArg List.length hf
  simp only [List.length_map, List.length_cons, List.length_nil] at hlen
  obtain ⟨f0, f1, f2, rfl⟩ : ∃ f0 f1 f2, fs = [f0, f1, f2] := by
    match fs, hlen with
    | [f0, f1, f2], _ => exact ⟨f0, f1, f2, rfl⟩
  simp only [List.map_cons, List.map_nil, List.cons.injEq, Prod.mk.injEq, and_true] at hf
  obtain ⟨⟨p0, q0, r0⟩, ⟨p1, q1, r1⟩, ⟨p2, q2, r2⟩⟩ := hf
  simp [Op.eqFields, p0, q0, r0, p1, q1, r1, p2, q2, r2, part, run_equalIn_int _ _ _ _ _ _ _ Tryd.underlying3, go_sem, Cu.eql_regs]
theorem Cu.eql_st2 (pc : Int) (r : Nat → Int) (md : Int) (w : World) : (binOp BinOp.eql 24 (Cu.stV pc r md) (Cu.stV pc r md)).run Tryd.prog w = .ok (.bool true) w := by
  unfold Cu.stV Cu.stC
  rw [run_eql_struct, run_equalIn_agg w 9999 _ _ _ (by kernel_rfl) (by kernel_rfl)]
  have hf : (Tryd.prog.fieldsOf 24).toList.map (fun f => (f.name, f.type, f.offset)) = [("Pc", 3, 0), ("R", 22, 1), ("Mode", 3, 9)] := by kernel_rfl
  generalize (Tryd.prog.fieldsOf 24).toList = fs at hf
  have hlen := congrArg List.length hf
  simp only [List.length_map, List.length_cons, List.length_nil] at hlen
  obtain ⟨f0, f1, f2, rfl⟩ : ∃ f0 f1 f2, fs = [f0, f1, f2] := by
    match fs, hlen with
    | [f0, f1, f2], _ => exact ⟨f0, f1, f2, rfl⟩
  simp only [List.map_cons, List.map_nil, List.cons.injEq, Prod.mk.injEq, and_true] at hf
  obtain ⟨⟨p0, q0, r0⟩, ⟨p1, q1, r1⟩, ⟨p2, q2, r2⟩⟩ := hf
  simp [Op.eqFields, p0, q0, r0, p1, q1, r1, p2, q2, r2, part, run_equalIn_int _ _ _ _ _ _ _ Tryd.underlying3, go_sem, Cu.eql_regs]
theorem Cu.neq_rst (pc : Int) (r : Nat → Int) (md : Int) (w : World) : (binOp BinOp.neq 32 (Cu.stV pc r md) (Cu.stV pc r md)).run Tryd.prog w = .ok (.bool false) w := by
  unfold Cu.stV Cu.stC
  rw [run_neq_struct, run_equalIn_agg w 9999 _ _ _ (by kernel_rfl) (by kernel_rfl)]
  have hf : (Tryd.prog.fieldsOf 32).toList.map (fun f => (f.name, f.type, f.offset)) = [("Pc", 3, 0), ("R", 22, 1), ("Mode", 3, 9)] := by kernel_rfl
  generalize (Tryd.prog.fieldsOf 32).toList = fs at hf
  have hlen := congrArg List.length hf
  simp only [List.length_map, List.length_cons, List.length_nil] at hlen
  obtain ⟨f0, f1, f2, rfl⟩ : ∃ f0 f1 f2, fs = [f0, f1, f2] := by
    match fs, hlen with
    | [f0, f1, f2], _ => exact ⟨f0, f1, f2, rfl⟩
  simp only [List.map_cons, List.map_nil, List.cons.injEq, Prod.mk.injEq, and_true] at hf
  obtain ⟨⟨p0, q0, r0⟩, ⟨p1, q1, r1⟩, ⟨p2, q2, r2⟩⟩ := hf
  simp [Op.eqFields, p0, q0, r0, p1, q1, r1, p2, q2, r2, part, run_equalIn_int _ _ _ _ _ _ _ Tryd.underlying3, go_sem, Cu.eql_regs]
theorem Cu.neq_out (a b c d : Int) (w : World) : (binOp BinOp.neq 37 (Cu.outV a b c d) (Cu.outV a b c d)).run Tryd.prog w = .ok (.bool false) w := by
  unfold Cu.outV
  rw [run_neq_struct, run_equalIn_agg w 9999 _ _ _ (by kernel_rfl) (by kernel_rfl)]
  have hf : (Tryd.prog.fieldsOf 37).toList.map (fun f => (f.name, f.type, f.offset)) = [("What", 3, 0), ("N", 3, 1), ("X", 3, 2), ("Err", 34, 3)] := by kernel_rfl
  generalize (Tryd.prog.fieldsOf 37).toList = fs at hf
  have hlen := congrArg List.length hf
  simp only [List.length_map, List.length_cons, List.length_nil] at hlen
  obtain ⟨f0, f1, f2, f3, rfl⟩ : ∃ f0 f1 f2 f3, fs = [f0, f1, f2, f3] := by
    match fs, hlen with
    | [f0, f1, f2, f3], _ => exact ⟨f0, f1, f2, f3, rfl⟩
  simp only [List.map_cons, List.map_nil, List.cons.injEq, Prod.mk.injEq, and_true] at hf
  obtain ⟨⟨p0, q0, r0⟩, ⟨p1, q1, r1⟩, ⟨p2, q2, r2⟩, ⟨p3, q3, r3⟩⟩ := hf
  simp [Op.eqFields, p0, q0, r0, p1, q1, r1, p2, q2, r2, p3, q3, r3, part, run_equalIn_int _ _ _ _ _ _ _ Tryd.underlying3, run_equalIn_int _ _ _ _ _ _ _ Tryd.underlying34, go_sem]
end Go.Proofs.YtpolkioaagahhaaDoor

/- The boxes and the two memories of CpuMoves. -/
namespace Go.Proofs.YtpolkioaagahhaaDoor
open Go.RowKit Go.Lib
set_option linter.unusedVariables false
set_option maxRecDepth 8000

structure Cu.Mv (w W : World) (bs m1 g1 bv m2 g2 bw bt : Nat) (p1 q1 p2 q2 : List UInt8) (n1 n2 vl : Int) (V1 V2 : List UInt8) (sc tc : Array Value) : Prop where
  sb : Blk W bs 24 sc
  tb : Blk W bt 24 tc
  vb : Blk W bv 28 #[.pointer (some ⟨m1, 0, none⟩), .int .i64 n1, .int .i64 vl]
  wb : Blk W bw 28 #[.pointer (some ⟨m2, 0, none⟩), .int .i64 n2, .int .i64 vl]
  me1 : MemG W w.heap.size m1 g1 (p1 ++ V1 ++ q1)
  me2 : MemG W w.heap.size m2 g2 (p2 ++ V2 ++ q2)
  gr : w.grownBy W none
  nm : Nm w
  lt : w.heap.size ≤ bs ∧ bs < m1 ∧ bs < g1 ∧ m1 < bv ∧ g1 < bv ∧ bv < m2 ∧ bv < g2 ∧ m2 < bw ∧ g2 < bw ∧ bw < bt
theorem Cu.grow_none {w W W' : World} {i : Nat} (h : w.grownBy W none) (k : W.grownBy W' (some i)) (hi : w.heap.size ≤ i) : w.grownBy W' none :=
  ⟨k.os.trans h.os, k.tape.trans h.tape, k.output.trans h.output, Nat.le_trans h.size k.size, fun b hb _ => (k.block b (Nat.lt_of_lt_of_le hb h.size) (fun e => by injection e with e; omega)).trans (h.block b hb (by simp))⟩
section
variable {w W W' : World} {bs m1 g1 bv m2 g2 bw bt : Nat} {p1 q1 p2 q2 : List UInt8} {n1 n2 vl : Int} {V1 V2 V' : List UInt8} {sc tc sc' : Array Value}
theorem Cu.Mv.NM (h : Cu.Mv w W bs m1 g1 bv m2 g2 bw bt p1 q1 p2 q2 n1 n2 vl V1 V2 sc tc) : Nm W := h.nm.grown h.gr (by simp)
theorem Cu.Mv.grown (h : Cu.Mv w W bs m1 g1 bv m2 g2 bw bt p1 q1 p2 q2 n1 n2 vl V1 V2 sc tc) (k : W.grownBy W' none) : Cu.Mv w W' bs m1 g1 bv m2 g2 bw bt p1 q1 p2 q2 n1 n2 vl V1 V2 sc tc :=
  ⟨h.sb.only k (by simp), h.tb.only k (by simp), h.vb.only k (by simp), h.wb.only k (by simp), h.me1.grown k, h.me2.grown k, only_trans h.gr k, h.nm, h.lt⟩
/-- A block above all was written. -/
theorem Cu.Mv.off (h : Cu.Mv w W bs m1 g1 bv m2 g2 bw bt p1 q1 p2 q2 n1 n2 vl V1 V2 sc tc) {i : Nat} (hi : bt < i) (k : W.grownBy W' (some i)) : Cu.Mv w W' bs m1 g1 bv m2 g2 bw bt p1 q1 p2 q2 n1 n2 vl V1 V2 sc tc := by
  have l := h.lt
  have ne : ∀ x, x < i → some x ≠ some i := fun x hx e => by injection e with e; omega
  exact ⟨h.sb.only k (ne _ (by omega)), h.tb.only k (ne _ (by omega)), h.vb.only k (ne _ (by omega)), h.wb.only k (ne _ (by omega)), h.me1.far k (by omega) (by omega), h.me2.far k (by omega) (by omega), Cu.grow_none h.gr k (by omega), h.nm, h.lt⟩
theorem Cu.Mv.step1 (h : Cu.Mv w W bs m1 g1 bv m2 g2 bw bt p1 q1 p2 q2 n1 n2 vl V1 V2 sc tc) (hm : MemG W' w.heap.size m1 g1 (p1 ++ V' ++ q1)) (k : W.grownBy W' (some g1)) : Cu.Mv w W' bs m1 g1 bv m2 g2 bw bt p1 q1 p2 q2 n1 n2 vl V' V2 sc tc := by
  have l := h.lt
  have ne : ∀ x, x ≠ g1 → some x ≠ some g1 := fun x hx e => by injection e with e; omega
  exact ⟨h.sb.only k (ne _ (by omega)), h.tb.only k (ne _ (by omega)), h.vb.only k (ne _ (by omega)), h.wb.only k (ne _ (by omega)), hm, h.me2.far k (by omega) (by omega), Cu.grow_none h.gr k (by omega), h.nm, h.lt⟩
theorem Cu.Mv.step2 (h : Cu.Mv w W bs m1 g1 bv m2 g2 bw bt p1 q1 p2 q2 n1 n2 vl V1 V2 sc tc) (hm : MemG W' w.heap.size m2 g2 (p2 ++ V' ++ q2)) (k : W.grownBy W' (some g2)) : Cu.Mv w W' bs m1 g1 bv m2 g2 bw bt p1 q1 p2 q2 n1 n2 vl V1 V' sc tc := by
  have l := h.lt
  have ne : ∀ x, x ≠ g2 → some x ≠ some g2 := fun x hx e => by injection e with e; omega
  exact ⟨h.sb.only k (ne _ (by omega)), h.tb.only k (ne _ (by omega)), h.vb.only k (ne _ (by omega)), h.wb.only k (ne _ (by omega)), h.me1.far k (by omega) (by omega), hm, Cu.grow_none h.gr k (by omega), h.nm, h.lt⟩
theorem Cu.Mv.putS (h : Cu.Mv w W bs m1 g1 bv m2 g2 bw bt p1 q1 p2 q2 n1 n2 vl V1 V2 sc tc) (hb : Blk W' bs 24 sc') (k : W.grownBy W' (some bs)) : Cu.Mv w W' bs m1 g1 bv m2 g2 bw bt p1 q1 p2 q2 n1 n2 vl V1 V2 sc' tc := by
  have l := h.lt
  have ne : ∀ x, x ≠ bs → some x ≠ some bs := fun x hx e => by injection e with e; omega
  exact ⟨hb, h.tb.only k (ne _ (by omega)), h.vb.only k (ne _ (by omega)), h.wb.only k (ne _ (by omega)), h.me1.far k (by omega) (by omega), h.me2.far k (by omega) (by omega), Cu.grow_none h.gr k (by omega), h.nm, h.lt⟩
theorem Cu.Mv.putT (h : Cu.Mv w W bs m1 g1 bv m2 g2 bw bt p1 q1 p2 q2 n1 n2 vl V1 V2 sc tc) (hb : Blk W' bt 24 sc') (k : W.grownBy W' (some bt)) : Cu.Mv w W' bs m1 g1 bv m2 g2 bw bt p1 q1 p2 q2 n1 n2 vl V1 V2 sc sc' := by
  have l := h.lt
  have ne : ∀ x, x ≠ bt → some x ≠ some bt := fun x hx e => by injection e with e; omega
  exact ⟨h.sb.only k (ne _ (by omega)), hb, h.vb.only k (ne _ (by omega)), h.wb.only k (ne _ (by omega)), h.me1.far k (by omega) (by omega), h.me2.far k (by omega) (by omega), Cu.grow_none h.gr k (by omega), h.nm, h.lt⟩
end

/-- A state's ten stores, then what a step did. -/
theorem Cu.put14 {W : World} {bs bo : Nat} {s0 s1 s2 s3 s4 s5 s6 s7 s8 s9 z0 z1 z2 z3 : Value} (h : Blk W bs 24 #[s0, s1, s2, s3, s4, s5, s6, s7, s8, s9]) (ho : Blk W bo 37 #[z0, z1, z2, z3]) (hne : bs ≠ bo) (p0 p1 p2 p3 p4 p5 p6 p7 p8 p9 o0 o1 o2 o3 : Value) :
    ∀ W', W' = ((((((((((((((W.setCell ⟨bs, 0, none⟩ p0).setCell ⟨bs, 1, none⟩ p1).setCell ⟨bs, 2, none⟩ p2).setCell ⟨bs, 3, none⟩ p3).setCell ⟨bs, 4, none⟩ p4).setCell ⟨bs, 5, none⟩ p5).setCell ⟨bs, 6, none⟩ p6).setCell ⟨bs, 7, none⟩ p7).setCell ⟨bs, 8, none⟩ p8).setCell ⟨bs, 9, none⟩ p9).setCell ⟨bo, 0, none⟩ o0).setCell ⟨bo, 1, none⟩ o1).setCell ⟨bo, 2, none⟩ o2).setCell ⟨bo, 3, none⟩ o3) → ∃ W1, (W.grownBy W1 (some bs) ∧ Blk W1 bs 24 #[p0, p1, p2, p3, p4, p5, p6, p7, p8, p9]) ∧ W1.grownBy W' (some bo) ∧ Blk W' bo 37 #[o0, o1, o2, o3] := by
  rintro W' rfl
  refine ⟨((((((((((W.setCell ⟨bs, 0, none⟩ p0).setCell ⟨bs, 1, none⟩ p1).setCell ⟨bs, 2, none⟩ p2).setCell ⟨bs, 3, none⟩ p3).setCell ⟨bs, 4, none⟩ p4).setCell ⟨bs, 5, none⟩ p5).setCell ⟨bs, 6, none⟩ p6).setCell ⟨bs, 7, none⟩ p7).setCell ⟨bs, 8, none⟩ p8).setCell ⟨bs, 9, none⟩ p9), ⟨?_, ?_⟩, ?_, ?_⟩
  · exact only_put (only_put (only_put (only_put (only_put (only_put (only_put (only_put (only_put (only_put (only_refl _ _) 0 p0) 1 p1) 2 p2) 3 p3) 4 p4) 5 p5) 6 p6) 7 p7) 8 p8) 9 p9
  · have b := ((((((((((h.put 0 p0).put 1 p1).put 2 p2).put 3 p3).put 4 p4).put 5 p5).put 6 p6).put 7 p7).put 8 p8).put 9 p9)
    simp only [List.setIfInBounds_toArray, List.set_cons_zero, List.set_cons_succ] at b
    exact b
  · exact only_put (only_put (only_put (only_put (only_refl _ _) 0 o0) 1 o1) 2 o2) 3 o3
  · have b := ((((((((((((((ho.far (p := ⟨bs, 0, none⟩) (Ne.symm hne) p0).far (p := ⟨bs, 1, none⟩) (Ne.symm hne) p1).far (p := ⟨bs, 2, none⟩) (Ne.symm hne) p2).far (p := ⟨bs, 3, none⟩) (Ne.symm hne) p3).far (p := ⟨bs, 4, none⟩) (Ne.symm hne) p4).far (p := ⟨bs, 5, none⟩) (Ne.symm hne) p5).far (p := ⟨bs, 6, none⟩) (Ne.symm hne) p6).far (p := ⟨bs, 7, none⟩) (Ne.symm hne) p7).far (p := ⟨bs, 8, none⟩) (Ne.symm hne) p8).far (p := ⟨bs, 9, none⟩) (Ne.symm hne) p9).put 0 o0).put 1 o1).put 2 o2).put 3 o3)
    simp only [List.setIfInBounds_toArray, List.set_cons_zero, List.set_cons_succ] at b
    exact b
theorem Cu.cells10 {W : World} {b : Nat} {t : TypeId} {s0 s1 s2 s3 s4 s5 s6 s7 s8 s9 : Value} (h : Blk W b t #[s0, s1, s2, s3, s4, s5, s6, s7, s8, s9]) : W.cell? ⟨b, 0, none⟩ = some s0 ∧ W.cell? ⟨b, 1, none⟩ = some s1 ∧ W.cell? ⟨b, 2, none⟩ = some s2 ∧ W.cell? ⟨b, 3, none⟩ = some s3 ∧ W.cell? ⟨b, 4, none⟩ = some s4 ∧ W.cell? ⟨b, 5, none⟩ = some s5 ∧ W.cell? ⟨b, 6, none⟩ = some s6 ∧ W.cell? ⟨b, 7, none⟩ = some s7 ∧ W.cell? ⟨b, 8, none⟩ = some s8 ∧ W.cell? ⟨b, 9, none⟩ = some s9 := ⟨h.cell 0, h.cell 1, h.cell 2, h.cell 3, h.cell 4, h.cell 5, h.cell 6, h.cell 7, h.cell 8, h.cell 9⟩
theorem Cu.free10 {W : World} {b : Nat} {t : TypeId} {s0 s1 s2 s3 s4 s5 s6 s7 s8 s9 : Value} (h : Blk W b t #[s0, s1, s2, s3, s4, s5, s6, s7, s8, s9]) : W.frozen? ⟨b, 0, none⟩ = false ∧ W.frozen? ⟨b, 1, none⟩ = false ∧ W.frozen? ⟨b, 2, none⟩ = false ∧ W.frozen? ⟨b, 3, none⟩ = false ∧ W.frozen? ⟨b, 4, none⟩ = false ∧ W.frozen? ⟨b, 5, none⟩ = false ∧ W.frozen? ⟨b, 6, none⟩ = false ∧ W.frozen? ⟨b, 7, none⟩ = false ∧ W.frozen? ⟨b, 8, none⟩ = false ∧ W.frozen? ⟨b, 9, none⟩ = false := ⟨h.free 0, h.free 1, h.free 2, h.free 3, h.free 4, h.free 5, h.free 6, h.free 7, h.free 8, h.free 9⟩
theorem Cu.cells4 {W : World} {b : Nat} {t : TypeId} {s0 s1 s2 s3 : Value} (h : Blk W b t #[s0, s1, s2, s3]) : W.cell? ⟨b, 0, none⟩ = some s0 ∧ W.cell? ⟨b, 1, none⟩ = some s1 ∧ W.cell? ⟨b, 2, none⟩ = some s2 ∧ W.cell? ⟨b, 3, none⟩ = some s3 := ⟨h.cell 0, h.cell 1, h.cell 2, h.cell 3⟩
theorem Cu.free4 {W : World} {b : Nat} {t : TypeId} {s0 s1 s2 s3 : Value} (h : Blk W b t #[s0, s1, s2, s3]) : W.frozen? ⟨b, 0, none⟩ = false ∧ W.frozen? ⟨b, 1, none⟩ = false ∧ W.frozen? ⟨b, 2, none⟩ = false ∧ W.frozen? ⟨b, 3, none⟩ = false := ⟨h.free 0, h.free 1, h.free 2, h.free 3⟩
end Go.Proofs.YtpolkioaagahhaaDoor

/- CpuMoves walked. -/
namespace Go.Proofs.YtpolkioaagahhaaDoor
open Go.RowKit Go.Lib Go.Sort
set_option linter.unusedVariables false
set_option maxRecDepth 20000
attribute [-go_sem] Go.run_neq_struct

/-- The same in both views, step by step. -/
theorem Cu.step_f (V : List UInt8) (pc md : Int) (r : Nat → Int) (p q : List UInt8) (vl : Nat) (hV : V.length = vl) (hl : p.length + vl + q.length ≤ 16384) (hpc : pc ≤ 9223372036854775807) (B m g : Nat) (x : Int) (hx : x = p.length) (j : Nat) (W : World) (h : MemG W B m g (p ++ (Cu.stN V pc r md j).v ++ q)) (hN : Nm W) :
    Calls Tryd.prog 10 #[.agg #[.pointer (some ⟨m, 0, none⟩), .int .i64 x, .int .i64 vl], .agg #[.int .i64 (Cu.stN V pc r md j).pc, .int .i64 ((Cu.stN V pc r md j).r 0), .int .i64 ((Cu.stN V pc r md j).r 1), .int .i64 ((Cu.stN V pc r md j).r 2), .int .i64 ((Cu.stN V pc r md j).r 3), .int .i64 ((Cu.stN V pc r md j).r 4), .int .i64 ((Cu.stN V pc r md j).r 5), .int .i64 ((Cu.stN V pc r md j).r 6), .int .i64 ((Cu.stN V pc r md j).r 7), .int .i64 (Cu.stN V pc r md j).md]] W fun e w' => e = .returned (.tuple #[.agg #[.int .i64 (Cu.stN V pc r md (j + 1)).pc, .int .i64 ((Cu.stN V pc r md (j + 1)).r 0), .int .i64 ((Cu.stN V pc r md (j + 1)).r 1), .int .i64 ((Cu.stN V pc r md (j + 1)).r 2), .int .i64 ((Cu.stN V pc r md (j + 1)).r 3), .int .i64 ((Cu.stN V pc r md (j + 1)).r 4), .int .i64 ((Cu.stN V pc r md (j + 1)).r 5), .int .i64 ((Cu.stN V pc r md (j + 1)).r 6), .int .i64 ((Cu.stN V pc r md (j + 1)).r 7), .int .i64 (Cu.stN V pc r md (j + 1)).md], .agg #[.int .i64 (Cu.stN V pc r md (j + 1)).o1, .int .i64 (Cu.stN V pc r md (j + 1)).o2, .int .i64 (Cu.stN V pc r md (j + 1)).o3, .int .i64 (Cu.stN V pc r md (j + 1)).o4]]) ∧ MemG w' B m g (p ++ (Cu.stN V pc r md (j + 1)).v ++ q) ∧ W.grownBy w' (some g) := by
  have hlen := Cu.stN_len V pc r md j
  have hp := Cu.stN_pc V pc r md (by omega) hpc j
  have hs := Cu.step_any W B m g p (Cu.stN V pc r md j).v q h hN (by simp only [List.length_append]; omega) (Cu.stN V pc r md j).pc hp (Cu.stN V pc r md j).r (Cu.stN V pc r md j).md
  rw [hlen, hV, ← hx] at hs
  exact hs

theorem Cu.grow_of {W W' : World} (b : Below W.heap.size W W') : W.grownBy W' none := ⟨b.os, b.tape, b.output, b.size, fun i hi _ => b.block i hi⟩
section
variable {w W0 w1 w2 : World} {bs m1 g1 m2 g2 : Nat} {p1 q1 p2 q2 V : List UInt8} {n1 n2 vl : Int} {sc : Array Value}
/-- Behind the two views. -/
def Cu.Pre2 (w W : World) (bs m1 g1 bv m2 g2 bw : Nat) (p1 q1 p2 q2 V : List UInt8) (n1 n2 vl : Int) (sc : Array Value) : Prop :=
  Blk W bs 24 sc ∧ Blk W bv 28 #[.pointer (some ⟨m1, 0, none⟩), .int .i64 n1, .int .i64 vl] ∧ Blk W bw 28 #[.pointer (some ⟨m2, 0, none⟩), .int .i64 n2, .int .i64 vl] ∧ MemG W w.heap.size m1 g1 (p1 ++ V ++ q1) ∧ MemG W w.heap.size m2 g2 (p2 ++ V ++ q2) ∧ w.grownBy W none ∧
  (w.heap.size ≤ bs ∧ bs < m1 ∧ bs < g1 ∧ m1 < bv ∧ g1 < bv ∧ bv < m2 ∧ bv < g2 ∧ m2 < bw ∧ g2 < bw ∧ bw < W.heap.size)
theorem Cu.pre (hs : Blk W0 bs 24 sc) (hb : bs = w.heap.size) (hz : W0.heap.size = w.heap.size + 1) (g0 : w.grownBy W0 none) (hm1 : MemG w1 W0.heap.size m1 g1 (p1 ++ V ++ q1)) (b1 : Below W0.heap.size W0 w1)
    (hm2 : MemG w2 (w1.alloc (.cells #[.pointer (some ⟨m1, 0, none⟩), .int .i64 n1, .int .i64 vl] 28)).heap.size m2 g2 (p2 ++ V ++ q2)) (b2 : Below (w1.alloc (.cells #[.pointer (some ⟨m1, 0, none⟩), .int .i64 n1, .int .i64 vl] 28)).heap.size (w1.alloc (.cells #[.pointer (some ⟨m1, 0, none⟩), .int .i64 n1, .int .i64 vl] 28)) w2) :
    Cu.Pre2 w (w2.alloc (.cells #[.pointer (some ⟨m2, 0, none⟩), .int .i64 n2, .int .i64 vl] 28)) bs m1 g1 w1.heap.size m2 g2 w2.heap.size p1 q1 p2 q2 V n1 n2 vl sc := by
  have a1 := Cu.grow_of b1
  have a2 := Cu.grow_of b2
  have n0 : ∀ (W : World) (o : Obj), W.grownBy (W.alloc o) none := fun W o => only_alloc (only_refl W none) o
  have l1 := hm1.1
  have l2 := hm1.2.1
  have l3 := hm2.1
  have l4 := hm2.2.1
  have l5 := hm1.lt
  have l6 := hm2.lt
  have z1 : (w1.alloc (.cells #[.pointer (some ⟨m1, 0, none⟩), .int .i64 n1, .int .i64 vl] 28)).heap.size = w1.heap.size + 1 := by simp
  have hv := Blk.new w1 28 #[.pointer (some ⟨m1, 0, none⟩), .int .i64 n1, .int .i64 vl]
  generalize hW : w1.alloc (.cells #[.pointer (some ⟨m1, 0, none⟩), .int .i64 n1, .int .i64 vl] 28) = w1' at *
  have a12 : w1.grownBy w1' none := by rw [← hW]; exact n0 _ _
  have all : w1'.grownBy (w2.alloc (.cells #[.pointer (some ⟨m2, 0, none⟩), .int .i64 n2, .int .i64 vl] 28)) none := only_trans a2 (n0 _ _)
  have a01 : w1.grownBy (w2.alloc (.cells #[.pointer (some ⟨m2, 0, none⟩), .int .i64 n2, .int .i64 vl] 28)) none := only_trans a12 all
  refine ⟨hs.only (only_trans a1 a01) (by simp), hv.only all (by simp), Blk.new _ _ _, Cu.memg_low (hm1.grown a01) (by omega), Cu.memg_low (hm2.grown (n0 _ _)) (by omega), only_trans g0 (only_trans a1 a01), ?_⟩
  have z2 : (w2.alloc (.cells #[.pointer (some ⟨m2, 0, none⟩), .int .i64 n2, .int .i64 vl] 28)).heap.size = w2.heap.size + 1 := by simp
  omega
theorem Cu.start {W : World} {bv bw : Nat} {r : Nat → Int} {pc md : Int} {a : Cu.Af} (h : Cu.Pre2 w W bs m1 g1 bv m2 g2 bw p1 q1 p2 q2 V n1 n2 vl (Cu.stC pc r md)) (hN : Nm w) (ha : a = ⟨V, pc, r, md, 0, 0, 0, 0⟩) :
    Cu.Mv w (W.alloc (.cells (Cu.stC pc r md) 24)) bs m1 g1 bv m2 g2 bw W.heap.size p1 q1 p2 q2 n1 n2 vl a.v a.v (Cu.stC a.pc a.r a.md) (Cu.stC a.pc a.r a.md) := by
  subst ha
  obtain ⟨h1, h2, h3, h4, h5, h6, h7⟩ := h
  have k : W.grownBy (W.alloc (.cells (Cu.stC pc r md) 24)) none := only_alloc (only_refl W none) _
  exact ⟨h1.only k (by simp), Blk.new _ _ _, h2.only k (by simp), h3.only k (by simp), h4.grown k, h5.grown k, only_trans h6 k, hN, h7⟩
end
section
variable {w W W' : World} {bs m1 g1 bv m2 g2 bw bt bo : Nat} {p1 q1 p2 q2 : List UInt8} {n1 n2 vl : Int} {V1 V2 V' : List UInt8} {sc tc sc' : Array Value} {oa ob : Array Value}
/-- The boxes, and the two of what a step did. -/
def Cu.Mo (w W : World) (bs m1 g1 bv m2 g2 bw bt bo : Nat) (p1 q1 p2 q2 : List UInt8) (n1 n2 vl : Int) (V1 V2 : List UInt8) (sc tc oa ob : Array Value) : Prop :=
  Cu.Mv w W bs m1 g1 bv m2 g2 bw bt p1 q1 p2 q2 n1 n2 vl V1 V2 sc tc ∧ Blk W bo 37 oa ∧ Blk W (bo + 1) 37 ob ∧ bt < bo
theorem Cu.round1 (h : Cu.Mv w W bs m1 g1 bv m2 g2 bw bt p1 q1 p2 q2 n1 n2 vl V1 V2 sc tc) : Cu.Mo w ((W.alloc (.cells #[.int .i64 0, .int .i64 0, .int .i64 0, .int .i64 0] 37)).alloc (.cells #[.int .i64 0, .int .i64 0, .int .i64 0, .int .i64 0] 37)) bs m1 g1 bv m2 g2 bw bt W.heap.size p1 q1 p2 q2 n1 n2 vl V1 V2 sc tc #[.int .i64 0, .int .i64 0, .int .i64 0, .int .i64 0] #[.int .i64 0, .int .i64 0, .int .i64 0, .int .i64 0] := by
  refine ⟨h.grown (only_alloc (only_alloc (only_refl W none) _) _), (Blk.new _ _ _).alloc _, ?_, h.tb.lt⟩
  have := Blk.new (W.alloc (.cells #[.int .i64 0, .int .i64 0, .int .i64 0, .int .i64 0] 37)) 37 #[.int .i64 0, .int .i64 0, .int .i64 0, .int .i64 0]
  simpa using this
theorem Cu.round2 (h : Cu.Mo w W bs m1 g1 bv m2 g2 bw bt bo p1 q1 p2 q2 n1 n2 vl V1 V2 sc tc oa ob) (hm : MemG W' w.heap.size m1 g1 (p1 ++ V' ++ q1)) (k : W.grownBy W' (some g1)) : Cu.Mo w W' bs m1 g1 bv m2 g2 bw bt bo p1 q1 p2 q2 n1 n2 vl V' V2 sc tc oa ob := by
  have l := h.1.lt
  have l2 := h.2.2.2
  exact ⟨h.1.step1 hm k, h.2.1.only k (fun e => by injection e with e; omega), h.2.2.1.only k (fun e => by injection e with e; omega), l2⟩
theorem Cu.round3 (h : Cu.Mo w W bs m1 g1 bv m2 g2 bw bt bo p1 q1 p2 q2 n1 n2 vl V1 V2 sc tc oa ob) (hm : MemG W' w.heap.size m2 g2 (p2 ++ V' ++ q2)) (k : W.grownBy W' (some g2)) : Cu.Mo w W' bs m1 g1 bv m2 g2 bw bt bo p1 q1 p2 q2 n1 n2 vl V1 V' sc tc oa ob := by
  have l := h.1.lt
  have l2 := h.2.2.2
  exact ⟨h.1.step2 hm k, h.2.1.only k (fun e => by injection e with e; omega), h.2.2.1.only k (fun e => by injection e with e; omega), l2⟩
theorem Cu.put_s {s0 s1 s2 s3 s4 s5 s6 s7 s8 s9 z0 z1 z2 z3 : Value} (h : Cu.Mo w W bs m1 g1 bv m2 g2 bw bt bo p1 q1 p2 q2 n1 n2 vl V1 V2 #[s0, s1, s2, s3, s4, s5, s6, s7, s8, s9] tc #[z0, z1, z2, z3] ob) (y0 y1 y2 y3 y4 y5 y6 y7 y8 y9 x0 x1 x2 x3 : Value) :
    ∀ W', W' = ((((((((((((((W.setCell ⟨bs, 0, none⟩ y0).setCell ⟨bs, 1, none⟩ y1).setCell ⟨bs, 2, none⟩ y2).setCell ⟨bs, 3, none⟩ y3).setCell ⟨bs, 4, none⟩ y4).setCell ⟨bs, 5, none⟩ y5).setCell ⟨bs, 6, none⟩ y6).setCell ⟨bs, 7, none⟩ y7).setCell ⟨bs, 8, none⟩ y8).setCell ⟨bs, 9, none⟩ y9).setCell ⟨bo, 0, none⟩ x0).setCell ⟨bo, 1, none⟩ x1).setCell ⟨bo, 2, none⟩ x2).setCell ⟨bo, 3, none⟩ x3) → Cu.Mo w W' bs m1 g1 bv m2 g2 bw bt bo p1 q1 p2 q2 n1 n2 vl V1 V2 #[y0, y1, y2, y3, y4, y5, y6, y7, y8, y9] tc #[x0, x1, x2, x3] ob := by
  intro W' hW
  have l := h.1.lt
  have l2 := h.2.2.2
  obtain ⟨W1, ⟨k1, b1⟩, k2, b2⟩ := Cu.put14 h.1.sb h.2.1 (by omega) y0 y1 y2 y3 y4 y5 y6 y7 y8 y9 x0 x1 x2 x3 W' hW
  exact ⟨(h.1.putS b1 k1).off (by omega) k2, b2, (h.2.2.1.only k1 (fun e => by injection e with e; omega)).only k2 (fun e => by injection e with e; omega), l2⟩
theorem Cu.put_t {s0 s1 s2 s3 s4 s5 s6 s7 s8 s9 z0 z1 z2 z3 : Value} (h : Cu.Mo w W bs m1 g1 bv m2 g2 bw bt bo p1 q1 p2 q2 n1 n2 vl V1 V2 sc #[s0, s1, s2, s3, s4, s5, s6, s7, s8, s9] oa #[z0, z1, z2, z3]) (y0 y1 y2 y3 y4 y5 y6 y7 y8 y9 x0 x1 x2 x3 : Value) :
    ∀ W', W' = ((((((((((((((W.setCell ⟨bt, 0, none⟩ y0).setCell ⟨bt, 1, none⟩ y1).setCell ⟨bt, 2, none⟩ y2).setCell ⟨bt, 3, none⟩ y3).setCell ⟨bt, 4, none⟩ y4).setCell ⟨bt, 5, none⟩ y5).setCell ⟨bt, 6, none⟩ y6).setCell ⟨bt, 7, none⟩ y7).setCell ⟨bt, 8, none⟩ y8).setCell ⟨bt, 9, none⟩ y9).setCell ⟨bo + 1, 0, none⟩ x0).setCell ⟨bo + 1, 1, none⟩ x1).setCell ⟨bo + 1, 2, none⟩ x2).setCell ⟨bo + 1, 3, none⟩ x3) → Cu.Mo w W' bs m1 g1 bv m2 g2 bw bt bo p1 q1 p2 q2 n1 n2 vl V1 V2 sc #[y0, y1, y2, y3, y4, y5, y6, y7, y8, y9] oa #[x0, x1, x2, x3] := by
  intro W' hW
  have l := h.1.lt
  have l2 := h.2.2.2
  obtain ⟨W1, ⟨k1, b1⟩, k2, b2⟩ := Cu.put14 h.1.tb h.2.2.1 (by omega) y0 y1 y2 y3 y4 y5 y6 y7 y8 y9 x0 x1 x2 x3 W' hW
  exact ⟨(h.1.putT b1 k1).off (by omega) k2, (h.2.1.only k1 (fun e => by injection e with e; omega)).only k2 (fun e => by injection e with e; omega), b2, l2⟩
end
theorem Cu.live3 (w W : World) (hN : Nm W) (h : w.grownBy W none) : Calls Tryd.prog 7 #[] W fun e w' => e = .returned (.bool true) ∧ w.grownBy w' none :=
  (Cu.live_any W hN hN.pos).mono fun e w' ⟨e1, b⟩ => ⟨e1, only_trans h ⟨b.os, b.tape, b.output, b.size, fun i hi _ => b.block i hi⟩⟩
theorem Cu.below {w W : World} (h : w.grownBy W none) : Below w.heap.size w W := below_of_only h (Nat.le_refl _) (fun k hk => by cases hk)
theorem Cu.text_re {W : World} {B m g vl x : Nat} {p V q : List UInt8} (hx : x = p.length) (hV : V.length = vl) (hl : p.length + vl + q.length ≤ 16384) (h : MemG W B m g (p ++ V ++ q)) :
    Calls Tryd.prog 12 #[.agg #[.pointer (some ⟨m, 0, none⟩), .int .i64 x, .int .i64 vl]] W fun e w' => e = .returned (.string ⟨V.toArray⟩) ∧ Below W.heap.size W w' := by
  subst hx hV
  exact (Cu.text_any W B m p V q h.mem (by simp only [List.length_append]; exact hl)).mono fun e w' ⟨e1, g⟩ => ⟨e1, Cu.below g⟩
set_option maxHeartbeats 12800000 in
theorem Cu.moves_ok (s : ByteArray) (vl : Nat) (pc md : Int) (r : Nat → Int) (n b : Int) (w : World) (hN : Nm w) (hpc : pc ≤ 9223372036854775807) (bn : 0 ≤ n ∧ n ≤ 255) (bb : 0 ≤ b ∧ b ≤ 65535) (h1 : s.size ≤ 400) (h3 : vl ≤ 400) : Calls Tryd.prog 5 #[.string s, .int .i64 vl, Cu.stV pc r md, .int .u8 n, .int .u16 b] w fun e w' => e = .returned (.bool true) ∧ Below w.heap.size w w' := by
  obtain ⟨x, hx⟩ := Int.eq_ofNat_of_zero_le (show 0 ≤ b % 500 from by omega)
  have hbt : b.tmod 500 = (x : Int) := by rw [Int.tmod_eq_emod_of_nonneg bb.1]; exact hx
  have hx5 : x ≤ 500 := by omega
  obtain ⟨N, hNN⟩ := Int.eq_ofNat_of_zero_le (show 0 ≤ n % 60 from by omega)
  have hnt : n.tmod 60 = (N : Int) := by rw [Int.tmod_eq_emod_of_nonneg bn.1]; exact hNN
  have hN60 : N < 60 := by omega
  have HV1 := Lib.hid (show ∀ W, Calls Tryd.prog 8 #[.string s, .int .i64 300, .int .i64 vl] W fun e w' => ∃ m g v, e = .returned (.tuple #[.pointer (some ⟨m, 0, none⟩), .agg #[.pointer (some ⟨m, 0, none⟩), .int .i64 300, .int .i64 vl], v]) ∧ MemG w' W.heap.size m g (Cu.z 300 ++ Cu.v0 s vl ++ Cu.z (1000 - 300 - vl)) ∧ Below W.heap.size W w' from Cu.view_any s 300 vl h1 (by omega) (by omega))
  have HV2 := Lib.hid (show ∀ W, Calls Tryd.prog 8 #[.string s, .int .i64 x, .int .i64 vl] W fun e w' => ∃ m g v, e = .returned (.tuple #[.pointer (some ⟨m, 0, none⟩), .agg #[.pointer (some ⟨m, 0, none⟩), .int .i64 x, .int .i64 vl], v]) ∧ MemG w' W.heap.size m g (Cu.z x ++ Cu.v0 s vl ++ Cu.z (1000 - x - vl)) ∧ Below W.heap.size W w' from Cu.view_any s x vl h1 hx5 (by omega))
  have s4 : (s.size : Int) ≤ 400 := by omega
  have s5 : (vl : Int) ≤ 400 := by omega
  have HS1 := Lib.hid (fun m g B j W => Cu.step_f (Cu.v0 s vl) pc md r (Cu.z 300) (Cu.z (1000 - 300 - vl)) vl (Cu.v0_len _ _) (by rw [Cu.z_len, Cu.z_len]; omega) hpc B m g 300 (by rw [Cu.z_len]; rfl) j W)
  have HS2 := Lib.hid (fun m g B j W => Cu.step_f (Cu.v0 s vl) pc md r (Cu.z x) (Cu.z (1000 - x - vl)) vl (Cu.v0_len _ _) (by rw [Cu.z_len, Cu.z_len]; omega) hpc B m g x (by rw [Cu.z_len]) j W)
  have HVL := Lib.hid (fun j => show (Cu.stN (Cu.v0 s vl) pc r md j).v.length = vl from (Cu.stN_len _ _ _ _ j).trans (Cu.v0_len _ _))
  have HF0 := Lib.hid (show Cu.stN (Cu.v0 s vl) pc r md 0 = ⟨Cu.v0 s vl, pc, r, md, 0, 0, 0, 0⟩ from rfl)
  generalize Cu.stN (Cu.v0 s vl) pc r md = f at HS1 HS2 HF0 HVL
  have HP1 := Lib.hid (Cu.z_len 300)
  have HP2 := Lib.hid (Cu.z_len x)
  have HQ1 := Lib.hid (Cu.z_len (1000 - 300 - vl))
  have HQ2 := Lib.hid (Cu.z_len (1000 - x - vl))
  generalize Cu.v0 s vl = V at *
  generalize Cu.z 300 = p1 at *
  generalize Cu.z x = p2 at *
  generalize Cu.z (1000 - 300 - vl) = q1 at *
  generalize Cu.z (1000 - x - vl) = q2 at *
  clear hx hNN
  obtain ⟨W0, hW0, g0, hB0⟩ := ibox w 24 (Cu.stC pc r md)
  have z0 : W0.heap.size = w.heap.size + 1 := by rw [hW0]; simp
  have HB0 := Lib.hid hB0
  have HG0 := Lib.hid g0
  have HZ0 := Lib.hid z0
  have HN0 := Lib.hid (hN.grown g0 (by simp))
  have HNw := Lib.hid hN
  clear hB0 g0 z0 hN
  unfold Cu.stV
  unfold Cu.stC at hW0 HB0 ⊢
  go_enter Tryd.func5, Tryd.ntmps5
  go_upto_region 1 with (fail)
  rw [← hW0]
  obtain ⟨bs, hbs⟩ : ∃ bs, bs = w.heap.size := ⟨_, rfl⟩
  rw [← hbs] at HB0 ⊢
  have HBS := Lib.hid hbs
  clear hW0 hbs
  go_upto_region 5 with (first
    | (go_at_call 8; (with_reducible refine (HV1.out _).mono ?_); rintro e w1 ⟨m1, g1, v1, rfl, hm1, b1⟩; have HM1 := Lib.hid hm1; have HB1 := Lib.hid b1; clear hm1 b1)
    | (go_at_call 8; (with_reducible refine (HV2.out _).mono ?_); rintro e w2 ⟨m2, g2, v2, rfl, hm2, b2⟩; have HM2 := Lib.hid hm2; have HB2 := Lib.hid b2; clear hm2 b2))
  -- all boxes but t's
  have HPRE := Lib.hid (Cu.pre (bs := bs) (n2 := (x : Int)) HB0.out HBS.out HZ0.out HG0.out HM1.out HB1.out HM2.out HB2.out)
  obtain ⟨bv, hbv⟩ : ∃ bv, bv = w1.heap.size := ⟨_, rfl⟩
  obtain ⟨bw, hbw⟩ : ∃ bw, bw = w2.heap.size := ⟨_, rfl⟩
  obtain ⟨W4, hW4⟩ : ∃ W4, W4 = w2.alloc (.cells #[.pointer (some ⟨m2, 0, none⟩), .int .i64 x, .int .i64 vl] 28) := ⟨_, rfl⟩
  rw [← hW4, ← hbv, ← hbw] at HPRE ⊢
  clear hW4 hbv hbw HM1 HB1 HM2 HB2 HB0
  obtain ⟨k0, k1, k2, k3, k4, k5, k6, k7, k8, k9⟩ := Cu.cells10 HPRE.out.1
  go_upto_region 6 with (fail)
  have HMV := Lib.hid (Cu.start HPRE.out HNw.out HF0.out)
  obtain ⟨bt, hbt2⟩ : ∃ bt, bt = W4.heap.size := ⟨_, rfl⟩
  obtain ⟨W5, hW5⟩ : ∃ W5, W5 = W4.alloc (.cells (Cu.stC pc r md) 24) := ⟨_, rfl⟩
  rw [← hW5, ← hbt2] at HMV
  rw [show W4.alloc (.cells #[.int .i64 pc, .int .i64 (r 0), .int .i64 (r 1), .int .i64 (r 2), .int .i64 (r 3), .int .i64 (r 4), .int .i64 (r 5), .int .i64 (r 6), .int .i64 (r 7), .int .i64 md] 24) = W5 from hW5.symm, ← hbt2]
  clear hW5 hbt2 HPRE k0 k1 k2 k3 k4 k5 k6 k7 k8 k9
  go_wp2
  go_loopw [18] (fun y wr => ∃ j : Nat, y = .int .i64 j ∧ j ≤ N ∧ Hid (Cu.Mv w wr bs m1 g1 bv m2 g2 bw bt p1 q1 p2 q2 300 x vl (f j).v (f j).v (Cu.stC (f j).pc (f j).r (f j).md) (Cu.stC (f j).pc (f j).r (f j).md))) (fun y _ => N - (Go.RowKit.intOf y).toNat)
  case atStart => exact ⟨0, rfl, by omega, HMV⟩
  case round =>
    obtain ⟨j, rfl, hj, HM⟩ := hrel
    clear HMV
    by_cases hjn : j < N
    · have j1 : (j : Int) < (N : Int) := by omega
      have HC := Lib.hid (Cu.round1 HM.out)
      go_upto_region 10 with (fail)
      obtain ⟨bo, hbo⟩ : ∃ bo, bo = wr.heap.size := ⟨_, rfl⟩
      obtain ⟨W6, hW6⟩ : ∃ W6, W6 = (wr.alloc (.cells #[.int .i64 0, .int .i64 0, .int .i64 0, .int .i64 0] 37)).alloc (.cells #[.int .i64 0, .int .i64 0, .int .i64 0, .int .i64 0] 37) := ⟨_, rfl⟩
      rw [← hW6, ← hbo] at HC ⊢
      clear hW6 hbo
      obtain ⟨k0, k1, k2, k3, k4, k5, k6, k7, k8, k9⟩ := Cu.cells10 HC.out.1.sb
      obtain ⟨v0, v1, v2⟩ := in3 HC.out.1.vb
      have HL := Lib.hid HC.out.1.lt
      have HL2 := Lib.hid HC.out.2.2.2
      have e1 : ¬ bs = bo := by have := HL.out; have := HL2.out; omega
      have e2 : ¬ bo = bs := by have := HL.out; have := HL2.out; omega
      have HSA := Lib.hid (HS1.out _ _ _ j _ HC.out.1.me1 HC.out.1.NM)
      go_upto_region 11 with (go_at_call 10; (with_reducible refine HSA.out.mono ?_); rintro e w7 ⟨rfl, hm7, g7⟩; have HD := Lib.hid (Cu.round2 HC.out hm7 g7); clear hm7 g7 k0 k1 k2 k3 k4 k5 k6 k7 k8 k9 v0 v1 v2; obtain ⟨k0, k1, k2, k3, k4, k5, k6, k7, k8, k9⟩ := Cu.cells10 HD.out.1.sb; obtain ⟨f0, f1, f2, f3, f4, f5, f6, f7, f8, f9⟩ := Cu.free10 HD.out.1.sb; obtain ⟨c0, c1, c2, c3⟩ := Cu.cells4 HD.out.2.1; obtain ⟨d0, d1, d2, d3⟩ := Cu.free4 HD.out.2.1)
      clear k0 k1 k2 k3 k4 k5 k6 k7 k8 k9 f0 f1 f2 f3 f4 f5 f6 f7 f8 f9 c0 c1 c2 c3 d0 d1 d2 d3 HC
      obtain ⟨W8, hW8⟩ : ∃ W8, W8 = ((((((((((((((w7.setCell ⟨bs, 0, none⟩ (.int .i64 (f (j + 1)).pc)).setCell ⟨bs, 1, none⟩ (.int .i64 ((f (j + 1)).r 0))).setCell ⟨bs, 2, none⟩ (.int .i64 ((f (j + 1)).r 1))).setCell ⟨bs, 3, none⟩ (.int .i64 ((f (j + 1)).r 2))).setCell ⟨bs, 4, none⟩ (.int .i64 ((f (j + 1)).r 3))).setCell ⟨bs, 5, none⟩ (.int .i64 ((f (j + 1)).r 4))).setCell ⟨bs, 6, none⟩ (.int .i64 ((f (j + 1)).r 5))).setCell ⟨bs, 7, none⟩ (.int .i64 ((f (j + 1)).r 6))).setCell ⟨bs, 8, none⟩ (.int .i64 ((f (j + 1)).r 7))).setCell ⟨bs, 9, none⟩ (.int .i64 (f (j + 1)).md)).setCell ⟨bo, 0, none⟩ (.int .i64 (f (j + 1)).o1)).setCell ⟨bo, 1, none⟩ (.int .i64 (f (j + 1)).o2)).setCell ⟨bo, 2, none⟩ (.int .i64 (f (j + 1)).o3)).setCell ⟨bo, 3, none⟩ (.int .i64 (f (j + 1)).o4)) := ⟨_, rfl⟩
      have HE := Lib.hid (Cu.put_s HD.out (.int .i64 (f (j + 1)).pc) (.int .i64 ((f (j + 1)).r 0)) (.int .i64 ((f (j + 1)).r 1)) (.int .i64 ((f (j + 1)).r 2)) (.int .i64 ((f (j + 1)).r 3)) (.int .i64 ((f (j + 1)).r 4)) (.int .i64 ((f (j + 1)).r 5)) (.int .i64 ((f (j + 1)).r 6)) (.int .i64 ((f (j + 1)).r 7)) (.int .i64 (f (j + 1)).md) (.int .i64 (f (j + 1)).o1) (.int .i64 (f (j + 1)).o2) (.int .i64 (f (j + 1)).o3) (.int .i64 (f (j + 1)).o4) _ hW8)
      rw [← hW8]
      clear hW8 HD e1 e2
      obtain ⟨k0, k1, k2, k3, k4, k5, k6, k7, k8, k9⟩ := Cu.cells10 HE.out.1.tb
      obtain ⟨v0, v1, v2⟩ := in3 HE.out.1.wb
      have e1 : ¬ bt = bo + 1 := by have := HL.out; have := HL2.out; omega
      have e2 : ¬ bo + 1 = bt := by have := HL.out; have := HL2.out; omega
      have HSB := Lib.hid (HS2.out _ _ _ j _ HE.out.1.me2 HE.out.1.NM)
      go_upto_region 12 with (go_at_call 10; (with_reducible refine HSB.out.mono ?_); rintro e w9 ⟨rfl, hm9, g9⟩; have HH := Lib.hid (Cu.round3 HE.out hm9 g9); clear hm9 g9 k0 k1 k2 k3 k4 k5 k6 k7 k8 k9 v0 v1 v2; obtain ⟨k0, k1, k2, k3, k4, k5, k6, k7, k8, k9⟩ := Cu.cells10 HH.out.1.tb; obtain ⟨f0, f1, f2, f3, f4, f5, f6, f7, f8, f9⟩ := Cu.free10 HH.out.1.tb; obtain ⟨c0, c1, c2, c3⟩ := Cu.cells4 HH.out.2.2.1; obtain ⟨d0, d1, d2, d3⟩ := Cu.free4 HH.out.2.2.1)
      clear k0 k1 k2 k3 k4 k5 k6 k7 k8 k9 f0 f1 f2 f3 f4 f5 f6 f7 f8 f9 c0 c1 c2 c3 d0 d1 d2 d3 HE
      obtain ⟨W10, hW10⟩ : ∃ W10, W10 = ((((((((((((((w9.setCell ⟨bt, 0, none⟩ (.int .i64 (f (j + 1)).pc)).setCell ⟨bt, 1, none⟩ (.int .i64 ((f (j + 1)).r 0))).setCell ⟨bt, 2, none⟩ (.int .i64 ((f (j + 1)).r 1))).setCell ⟨bt, 3, none⟩ (.int .i64 ((f (j + 1)).r 2))).setCell ⟨bt, 4, none⟩ (.int .i64 ((f (j + 1)).r 3))).setCell ⟨bt, 5, none⟩ (.int .i64 ((f (j + 1)).r 4))).setCell ⟨bt, 6, none⟩ (.int .i64 ((f (j + 1)).r 5))).setCell ⟨bt, 7, none⟩ (.int .i64 ((f (j + 1)).r 6))).setCell ⟨bt, 8, none⟩ (.int .i64 ((f (j + 1)).r 7))).setCell ⟨bt, 9, none⟩ (.int .i64 (f (j + 1)).md)).setCell ⟨bo + 1, 0, none⟩ (.int .i64 (f (j + 1)).o1)).setCell ⟨bo + 1, 1, none⟩ (.int .i64 (f (j + 1)).o2)).setCell ⟨bo + 1, 2, none⟩ (.int .i64 (f (j + 1)).o3)).setCell ⟨bo + 1, 3, none⟩ (.int .i64 (f (j + 1)).o4)) := ⟨_, rfl⟩
      have HI := Lib.hid (Cu.put_t HH.out (.int .i64 (f (j + 1)).pc) (.int .i64 ((f (j + 1)).r 0)) (.int .i64 ((f (j + 1)).r 1)) (.int .i64 ((f (j + 1)).r 2)) (.int .i64 ((f (j + 1)).r 3)) (.int .i64 ((f (j + 1)).r 4)) (.int .i64 ((f (j + 1)).r 5)) (.int .i64 ((f (j + 1)).r 6)) (.int .i64 ((f (j + 1)).r 7)) (.int .i64 (f (j + 1)).md) (.int .i64 (f (j + 1)).o1) (.int .i64 (f (j + 1)).o2) (.int .i64 (f (j + 1)).o3) (.int .i64 (f (j + 1)).o4) _ hW10)
      rw [← hW10]
      clear hW10 HH e1 e2
      obtain ⟨k0, k1, k2, k3, k4, k5, k6, k7, k8, k9⟩ := Cu.cells10 HI.out.1.sb
      obtain ⟨t0, t1, t2, t3, t4, t5, t6, t7, t8, t9⟩ := Cu.cells10 HI.out.1.tb
      obtain ⟨c0, c1, c2, c3⟩ := Cu.cells4 HI.out.2.1
      obtain ⟨d0, d1, d2, d3⟩ := Cu.cells4 HI.out.2.2.1
      have hq1 : ∀ W, (binOp BinOp.neq 24 (.agg #[.int .i64 (f (j + 1)).pc, .int .i64 ((f (j + 1)).r 0), .int .i64 ((f (j + 1)).r 1), .int .i64 ((f (j + 1)).r 2), .int .i64 ((f (j + 1)).r 3), .int .i64 ((f (j + 1)).r 4), .int .i64 ((f (j + 1)).r 5), .int .i64 ((f (j + 1)).r 6), .int .i64 ((f (j + 1)).r 7), .int .i64 (f (j + 1)).md]) (.agg #[.int .i64 (f (j + 1)).pc, .int .i64 ((f (j + 1)).r 0), .int .i64 ((f (j + 1)).r 1), .int .i64 ((f (j + 1)).r 2), .int .i64 ((f (j + 1)).r 3), .int .i64 ((f (j + 1)).r 4), .int .i64 ((f (j + 1)).r 5), .int .i64 ((f (j + 1)).r 6), .int .i64 ((f (j + 1)).r 7), .int .i64 (f (j + 1)).md])).run Tryd.prog W = .ok (.bool false) W := fun W => Cu.neq_st _ _ _ W
      have hq2 : ∀ W, (binOp BinOp.neq 37 (.agg #[.int .i64 (f (j + 1)).o1, .int .i64 (f (j + 1)).o2, .int .i64 (f (j + 1)).o3, .int .i64 (f (j + 1)).o4]) (.agg #[.int .i64 (f (j + 1)).o1, .int .i64 (f (j + 1)).o2, .int .i64 (f (j + 1)).o3, .int .i64 (f (j + 1)).o4])).run Tryd.prog W = .ok (.bool false) W := fun W => Cu.neq_out _ _ _ _ W
      go_wp2
      go_roundw
      case rel => exact ⟨j + 1, by go_num, by omega, Lib.hid HI.out.1⟩
      case measure => simp [Go.RowKit.intOf]; omega
    · have hje : j = N := by omega
      subst hje
      have j1 : ¬ (j : Int) < (j : Int) := by omega
      obtain ⟨v0, v1, v2⟩ := in3 HM.out.vb
      obtain ⟨u0, u1, u2⟩ := in3 HM.out.wb
      go_upto_region 14 with (fail)
      have v0r := fun d os => cell_regrown v0 d os
      have v1r := fun d os => cell_regrown v1 d os
      have v2r := fun d os => cell_regrown v2 d os
      have u0r := fun d os => cell_regrown u0 d os
      have u1r := fun d os => cell_regrown u1 d os
      have u2r := fun d os => cell_regrown u2 d os
      have HT1 := Lib.hid (fun (d : Nat) (os : Array Obj) => Cu.text_re (p := p1) (q := q1) (x := 300) HP1.out.symm (HVL.out j) (show p1.length + vl + q1.length ≤ 16384 by rw [HP1.out, HQ1.out]; omega) (HM.out.grown (Cu.grow_of (below_regrown wr d os))).me1)
      have HT2 := Lib.hid (fun (d : Nat) (os : Array Obj) => Cu.text_re (p := p2) (q := q2) (x := x) HP2.out.symm (HVL.out j) (show p2.length + vl + q2.length ≤ 16384 by rw [HP2.out, HQ2.out]; omega) (HM.out.grown (Cu.grow_of (below_regrown wr d os))).me2)
      have HL := Lib.hid (fun (d : Nat) (os : Array Obj) => Cu.live_any (grow (redrawn wr d) os) ((HM.out.grown (Cu.grow_of (below_regrown wr d os))).NM) ((HM.out.grown (Cu.grow_of (below_regrown wr d os))).NM.pos))
      have HGR := Lib.hid HM.out.gr
      generalize (⟨(f j).v.toArray⟩ : ByteArray) = tx at HT1 HT2
      clear v0 v1 v2 u0 u1 u2
      refine wp_region_quiet_below (by kernel_rfl) (by kernel_rfl) ?_
      repeat (quiet_step ((first
        | (go_at_call 7; with_reducible exact Calls.regrown_of (HL.out _ _))
        | (go_at_call 12; with_reducible exact Calls.regrown_of (HT1.out _ _))
        | (go_at_call 12; with_reducible exact Calls.regrown_of (HT2.out _ _)))))
      refine wpQuiet_nil ?_
      rintro _ ⟨⟨dq, osq⟩, rfl⟩
      have HBE := Lib.hid (only_trans HGR.out (Cu.grow_of (below_regrown wr dq osq)))
      clear v0r v1r v2r u0r u1r u2r HT1 HT2 HL
      generalize grow (redrawn wr dq) osq = wz at HBE ⊢
      go_wp2
      go_ret
      exact ⟨by first | rfl | simp, Cu.below HBE.out⟩

end Go.Proofs.YtpolkioaagahhaaDoor

/- How a law of package code is opened: the table as1 it was laid; codes, instructions and texts that came in. -/
namespace Go.Proofs.YtpolkioaagahhaaDoor
open Go.RowKit Go.Lib Go.ChangeShapes Go.WideShapes Go.ChangeAt Go.Deep Go.Joins
open Go.ChangeMaps (open_string shut_string)
set_option linter.unusedVariables false
set_option maxRecDepth 8000

theorem kd_own : ownKnob Tryd.prog.godebug = none := by kernel_rfl
theorem kd_laid : laidOutB Tryd.prog = true := by kernel_rfl
theorem names_at : Tryd.prog.globalNamed "campanile/code.names" = some 0 := by kernel_rfl
theorem names_type : (Tryd.prog.globals[0]?).map (·.type) = some 109 := by kernel_rfl
theorem cells_string : Tryd.prog.cellsOf 9 = 1 := by kernel_rfl
def laid1 : List (String × DataW Unit) := [("campanile/code.names", Rows.laid_campanile_code_names)]
/-- The door's own heap meets the condition: three closed facts. -/
theorem kd_door (os : Os) (args : Array Value) : laidMetH Tryd.prog laid1 ((World.doorLaid Tryd.prog 400 os).forCall (fun _ _ => 0) ⟨#[], args, []⟩).memory :=
  laidMetH_of_parts3 (fuel := 8) (laidMet_of_run' 8 (by kernel_rfl) (by kernel_rfl)) (by kernel_rfl) (by kernel_rfl)
theorem laid_names : (Rows.laid_campanile_code_names : DataW Unit) = .agg ((List.range 16).map fun k => .lit (.string (nmX k))) := by rfl
/-- What the condition gives the walks: the table's cells. -/
theorem nm_of_laid {W : World} (h : laidMetH Tryd.prog laid1 W) : Nm W := by
  rw [MakeChecks.laidMetH_plain _ _ _ (by kernel_rfl)] at h
  obtain ⟨ps, ⟨g0, t0, cs0, f0, p0, q0, hg0, ht0, hv0, hd0, _, _⟩, _, _⟩ := h
  obtain rfl := Option.some.inj (names_at.symm.trans hg0)
  obtain rfl := Option.some.inj (names_type.symm.trans ht0)
  obtain ⟨xs, m1, rfl, hx1, hlen, hn4, hel⟩ := DataW.trod_array Tryd.underlying109 hd0
  rw [cells_string] at hel
  have hc : ∀ i, W.cell? ⟨0, i, none⟩ = cs0[i]? := fun i => World.var?_cell hg0 hv0 i
  have hx2 : xs.map Prod.fst = (List.range 16).map fun k => .lit (.string (nmX k)) := by
    have := hx1
    rw [laid_names] at this
    simp only [Prod.mk.injEq, DataW.agg.injEq] at this
    exact this.1.symm
  have one : ∀ k, k < 16 → W.cell? ⟨0, k, none⟩ = some (.string (nmL k)) := by
    intro k hk
    have hkl : k < xs.length := by omega
    have h1 := hel k hk
    rw [List.getElem?_eq_getElem hkl, Nat.mul_one] at h1
    obtain ⟨s, e1, e2, _⟩ := DataW.trod_string Tryd.underlying9 h1
    have e4 : (xs.map Prod.fst)[k]? = some (.lit (.string (nmX k))) := by
      rw [hx2]
      simp [hk]
    rw [List.getElem?_map, List.getElem?_eq_getElem hkl] at e4
    simp only [Option.map_some, Option.some.injEq] at e4
    rw [e2] at e4
    simp only [DataW.lit.injEq, Lit.string.injEq] at e4
    have hs : s = nmL k := by
      unfold nmL
      rw [← e4]
    rw [hc k, ← hs]
    have e3 : cs0.toList[k]? = some (.string s) := by
      have := congrArg (fun l => l[0]?) e1
      simpa [List.getElem?_take, List.getElem?_drop] using this
    simpa using e3
  refine ⟨one, ?_⟩
  have c0 := one 0 (by omega)
  rcases Nat.eq_zero_or_pos W.heap.size with hz | hz
  · have : W.heap = #[] := Array.eq_empty_of_size_eq_zero hz
    simp [World.cell?, this] at c0
  · exact hz
section
variable {H : Type} {enc : TypeId × Value → H} {W : World} {base b0 : Nat} {spare : Nat → Bool} {held : Bool} {r : Reach} {v : Value} {d : DataW H} {p : List MemPlace}
theorem kd_string (hv : Value.okWide Tryd.prog W r b0 9 v) (h : DataW.Trod enc Tryd.prog W base spare held 9 v d p) : ∃ s : ByteArray, v = .string s ∧ s.size ≤ 9223372036854775807 := by
  obtain ⟨s, rfl, _, _, hs⟩ := open_string Tryd.underlying9 hv h
  exact ⟨s, rfl, by unfold maxLen at hs; omega⟩
theorem kd_in_u8 {n : Int} (w : (Lit.int .u8 n).wf = true) : 0 ≤ n ∧ n ≤ 255 := by
  simp only [Lit.wf, Bool.and_eq_true, decide_eq_true_eq] at w
  have e1 : IntKind.u8.min = 0 := by kernel_rfl
  have e2 : IntKind.u8.max = 255 := by kernel_rfl
  omega
theorem kd_code (hv : Value.okWide Tryd.prog W r b0 65 v) (h : DataW.Trod enc Tryd.prog W base spare held 65 v d p) : ∃ k : Nat, v = .int .u8 k ∧ k < 256 := by
  obtain ⟨a, rfl, _, _, w⟩ := open_int Tryd.underlying65 hv h
  have := kd_in_u8 w
  exact ⟨a.toNat, by rw [Int.toNat_of_nonneg this.1], by omega⟩
theorem kd_field {P : Program} {w : World} {t : TypeId} {fs : Array Field} {fuel : Nat} {cs : List Value} {x : DataW H × List MemPlace}
    (hs : P.underlying t = some (.struct fs)) (hone : oneCellFields P fs = true) (h : DataW.trod enc P w base spare held fuel t cs = some x) {i : Nat} {f : Field} (hf : fs[i]? = some f) {c : Value} (hc : cs[i]? = some c) :
    ∃ n y, DataW.trod enc P w base spare held n f.type [c] = some y := by
  obtain ⟨xs, n, _, _, _, hlen, hfld⟩ := DataW.trod_struct hs h
  obtain ⟨o, k⟩ := hone_of hone i f hf
  have h1 := hfld i f hf
  have hi : i < fs.size := (Array.getElem?_eq_some_iff.1 hf).1
  have hcl : i < cs.length := (List.getElem?_eq_some_iff.1 hc).1
  have hce : cs[i] = c := (List.getElem?_eq_some_iff.1 hc).2
  rw [o, k, List.getElem?_eq_getElem (by omega), List.drop_eq_getElem_cons hcl, hce] at h1
  exact ⟨n, _, by simpa using h1⟩
theorem kd_cut {cs : Array Value} (h : cs.size = 3) : ∃ c0 c1 c2, cs = #[c0, c1, c2] := by
  obtain ⟨l⟩ := cs
  match l, h with
  | [c0, c1, c2], _ => exact ⟨c0, c1, c2, rfl⟩
theorem kd_instr (hv : Value.okWide Tryd.prog W r b0 67 v) (h : DataW.Trod enc Tryd.prog W base spare held 67 v d p) : ∃ (k : Nat) (x n : Int), v = .agg #[.int .u8 k, .int .i64 x, .int .i64 n] ∧ k < 256 := by
  obtain ⟨cs, rfl, hsz⟩ := okWide_struct Tryd.underlying67 hv
  obtain ⟨c0, c1, c2, rfl⟩ := kd_cut (hsz.trans (by kernel_rfl))
  obtain ⟨fuel, hf⟩ := h
  obtain ⟨n0, y0, h0⟩ := kd_field Tryd.underlying67 (by kernel_rfl) hf (i := 0) rfl (c := c0) rfl
  obtain ⟨n1, y1, h1⟩ := kd_field Tryd.underlying67 (by kernel_rfl) hf (i := 1) rfl (c := c1) rfl
  obtain ⟨n2, y2, h2⟩ := kd_field Tryd.underlying67 (by kernel_rfl) hf (i := 2) rfl (c := c2) rfl
  obtain ⟨a0, e0, _, w0⟩ := DataW.trod_int Tryd.underlying65 h0
  obtain ⟨a1, e1, _, w1⟩ := DataW.trod_int Tryd.underlying3 h1
  obtain ⟨a2, e2, _, w2⟩ := DataW.trod_int Tryd.underlying3 h2
  injection e0 with e0 _
  injection e1 with e1 _
  injection e2 with e2 _
  subst e0 e1 e2
  have := kd_in_u8 w0
  exact ⟨a0.toNat, a1, a2, by rw [Int.toNat_of_nonneg this.1], by omega⟩
end
end Go.Proofs.YtpolkioaagahhaaDoor

/- How the laws of cpu are opened: a state that came in by value. -/
namespace Go.Proofs.YtpolkioaagahhaaDoor
open Go.RowKit Go.Lib Go.ChangeShapes Go.WideShapes Go.ChangeAt Go.Deep Go.Joins
set_option linter.unusedVariables false
set_option maxRecDepth 8000

def Cu.fitI (x : Int) : Prop := -9223372036854775808 ≤ x ∧ x ≤ 9223372036854775807
theorem Cu.fitI_of {x : Int} (w : (Lit.int .i64 x).wf = true) : Cu.fitI x := by
  simp only [Lit.wf, Bool.and_eq_true, decide_eq_true_eq] at w
  have e1 : IntKind.i64.min = -9223372036854775808 := by kernel_rfl
  have e2 : IntKind.i64.max = 9223372036854775807 := by kernel_rfl
  unfold Cu.fitI
  omega
theorem Cu.in_u8 {n : Int} (w : (Lit.int .u8 n).wf = true) : 0 ≤ n ∧ n ≤ 255 := kd_in_u8 w
theorem Cu.in_u16 {n : Int} (w : (Lit.int .u16 n).wf = true) : 0 ≤ n ∧ n ≤ 65535 := by
  simp only [Lit.wf, Bool.and_eq_true, decide_eq_true_eq] at w
  have e1 : IntKind.u16.min = 0 := by kernel_rfl
  have e2 : IntKind.u16.max = 65535 := by kernel_rfl
  omega
theorem Cu.cut10 {cs : Array Value} (h : cs.size = 10) : ∃ c0 c1 c2 c3 c4 c5 c6 c7 c8 c9, cs = #[c0, c1, c2, c3, c4, c5, c6, c7, c8, c9] := by
  obtain ⟨l⟩ := cs
  match l, h with
  | [c0, c1, c2, c3, c4, c5, c6, c7, c8, c9], _ => exact ⟨c0, c1, c2, c3, c4, c5, c6, c7, c8, c9, rfl⟩
section
variable {H : Type} {enc : TypeId × Value → H} {W : World} {base b0 : Nat} {spare : Nat → Bool} {held : Bool} {r : Reach} {v : Value} {d : DataW H} {p : List MemPlace}
theorem Cu.regs_of {m : Nat} {c1 c2 c3 c4 c5 c6 c7 c8 : Value} {x : DataW H × List MemPlace} (h : DataW.trod enc Tryd.prog W base spare held m 22 [c1, c2, c3, c4, c5, c6, c7, c8] = some x) :
    ∃ q : Nat → Int, c1 = .int .i64 (q 0) ∧ c2 = .int .i64 (q 1) ∧ c3 = .int .i64 (q 2) ∧ c4 = .int .i64 (q 3) ∧ c5 = .int .i64 (q 4) ∧ c6 = .int .i64 (q 5) ∧ c7 = .int .i64 (q 6) ∧ c8 = .int .i64 (q 7) := by
  obtain ⟨xs, n, _, _, _, hlen, hel⟩ := DataW.trod_array Tryd.underlying22 h
  rw [Cu.int_cells] at hel
  have one : ∀ i (hi : i < 8) c, [c1, c2, c3, c4, c5, c6, c7, c8][i]? = some c → ∃ q : Int, c = .int .i64 q := by
    intro i hi c hc
    have h1 := hel i hi
    rw [Nat.mul_one, List.getElem?_eq_getElem (by omega)] at h1
    have hcl := (List.getElem?_eq_some_iff.1 hc)
    obtain ⟨hcl, hce⟩ := hcl
    rw [List.drop_eq_getElem_cons hcl, hce] at h1
    have h2 : DataW.trod enc Tryd.prog W base spare held n 3 [c] = some (xs[i]'(by omega)) := by simpa using h1
    obtain ⟨a, e, _, _⟩ := DataW.trod_int Tryd.underlying3 h2
    injection e with e _
    exact ⟨a, e⟩
  obtain ⟨q1, e1⟩ := one 0 (by omega) c1 rfl
  obtain ⟨q2, e2⟩ := one 1 (by omega) c2 rfl
  obtain ⟨q3, e3⟩ := one 2 (by omega) c3 rfl
  obtain ⟨q4, e4⟩ := one 3 (by omega) c4 rfl
  obtain ⟨q5, e5⟩ := one 4 (by omega) c5 rfl
  obtain ⟨q6, e6⟩ := one 5 (by omega) c6 rfl
  obtain ⟨q7, e7⟩ := one 6 (by omega) c7 rfl
  obtain ⟨q8, e8⟩ := one 7 (by omega) c8 rfl
  exact ⟨fun i => match i with | 0 => q1 | 1 => q2 | 2 => q3 | 3 => q4 | 4 => q5 | 5 => q6 | 6 => q7 | _ => q8, e1, e2, e3, e4, e5, e6, e7, e8⟩
theorem Cu.open_state (hv : Value.okWide Tryd.prog W r b0 24 v) (h : DataW.Trod enc Tryd.prog W base spare held 24 v d p) : ∃ (pc md : Int) (q : Nat → Int), v = Cu.stV pc q md ∧ pc ≤ 9223372036854775807 := by
  obtain ⟨cs, rfl, hsz⟩ := okWide_struct Tryd.underlying24 hv
  obtain ⟨c0, c1, c2, c3, c4, c5, c6, c7, c8, c9, rfl⟩ := Cu.cut10 (hsz.trans (by kernel_rfl))
  obtain ⟨fuel, hf⟩ := h
  obtain ⟨xs, n, _, _, _, hlen, hfld⟩ := DataW.trod_struct Tryd.underlying24 hf
  have h0 : DataW.trod enc Tryd.prog W base spare held n 3 (([c0, c1, c2, c3, c4, c5, c6, c7, c8, c9].drop 0).take (Tryd.prog.cellsOf 3)) = xs[0]? := hfld 0 _ rfl
  have h1 : DataW.trod enc Tryd.prog W base spare held n 22 (([c0, c1, c2, c3, c4, c5, c6, c7, c8, c9].drop 1).take (Tryd.prog.cellsOf 22)) = xs[1]? := hfld 1 _ rfl
  have h2 : DataW.trod enc Tryd.prog W base spare held n 3 (([c0, c1, c2, c3, c4, c5, c6, c7, c8, c9].drop 9).take (Tryd.prog.cellsOf 3)) = xs[2]? := hfld 2 _ rfl
  have e8 : Tryd.prog.cellsOf 22 = 8 := by kernel_rfl
  have l3 : xs.length = 3 := hlen
  rw [Cu.int_cells] at h0 h2
  rw [e8] at h1
  rw [List.getElem?_eq_getElem (by omega)] at h0 h1 h2
  have g0 : DataW.trod enc Tryd.prog W base spare held n 3 [c0] = some (xs[0]'(by omega)) := by simpa [Value.cells] using h0
  have g1 : DataW.trod enc Tryd.prog W base spare held n 22 [c1, c2, c3, c4, c5, c6, c7, c8] = some (xs[1]'(by omega)) := by simpa [Value.cells] using h1
  have g2 : DataW.trod enc Tryd.prog W base spare held n 3 [c9] = some (xs[2]'(by omega)) := by simpa [Value.cells] using h2
  obtain ⟨a, ea, _, wa⟩ := DataW.trod_int Tryd.underlying3 g0
  obtain ⟨m, em, _, _⟩ := DataW.trod_int Tryd.underlying3 g2
  injection ea with ea _
  injection em with em _
  obtain ⟨q, rfl, rfl, rfl, rfl, rfl, rfl, rfl, rfl⟩ := Cu.regs_of g1
  subst ea em
  exact ⟨a, m, q, rfl, (Cu.fitI_of wa).2⟩
end
end Go.Proofs.YtpolkioaagahhaaDoor

/- CpuMoves, whatever its input. -/
namespace Go.Proofs.YtpolkioaagahhaaDoor
open Go.RowKit Go.Lib
set_option linter.unusedVariables false
set_option maxRecDepth 20000

theorem Cu.moves_walk (s : ByteArray) (size : Int) (pc md : Int) (r : Nat → Int) (n b : Int) (w : World) (hN : Nm w) (hss : s.size ≤ 9223372036854775807) (hz : Cu.fitI size) (hpc : pc ≤ 9223372036854775807) (bn : 0 ≤ n ∧ n ≤ 255) (bb : 0 ≤ b ∧ b ≤ 65535) : Calls Tryd.prog 5 #[.string s, .int .i64 size, Cu.stV pc r md, .int .u8 n, .int .u16 b] w fun e w' => e = .returned (.bool true) ∧ Below w.heap.size w w' := by
  by_cases hok : s.size ≤ 400 ∧ 0 ≤ size ∧ size ≤ 400
  · obtain ⟨h1, h2, h3⟩ := hok
    obtain ⟨vl, rfl⟩ := Int.eq_ofNat_of_zero_le h2
    exact Cu.moves_ok s vl pc md r n b w hN hpc bn bb h1 (by omega)
  · have key : 400 < (s.size : Int) ∨ ((s.size : Int) ≤ 400 ∧ size < 0) ∨ ((s.size : Int) ≤ 400 ∧ 0 ≤ size ∧ 400 < size) := by omega
    obtain ⟨W0, hW0, g0, hB0⟩ := ibox w 24 (Cu.stC pc r md)
    have HL := Lib.hid (Cu.live3 w W0 (hN.grown g0 (by simp)) g0)
    unfold Cu.stV
    unfold Cu.stC at hW0 ⊢
    clear hok hN g0 hB0
    rcases key with h | ⟨h, h2⟩ | ⟨h, h2, h3⟩
    all_goals
      go_enter Tryd.func5, Tryd.ntmps5
      go_upto_region 1 with (fail)
      rw [← hW0]
      clear hW0
      go_wp2_with (go_at_call 7; (with_reducible refine HL.out.mono ?_); rintro e w1 ⟨rfl, g1⟩)
      go_ret
      exact ⟨rfl, Cu.below g1⟩
end Go.Proofs.YtpolkioaagahhaaDoor

/- The row of CpuMoves: two views with the same bytes, wherever they stand, do the same: for every text, size, state, number of steps and place the law returns true, where the package's table starts as1 the program's text lays it. -/
namespace Go.Proofs.YtpolkioaagahhaaDoor
open Go.RowKit Go.Lib Go.ChangeShapes Go.WideShapes Go.ChangeAt Go.Deep Go.Joins
open Go.ChangeMaps (open_string shut_string)
set_option linter.unusedVariables false

set_option maxRecDepth 100000 in
theorem cpuMoves_lifted (os : Os) (started : os.Started) (H : Type) (enc : TypeId × Value → H) :
    ReturnsInHanded {} Tryd.checked os 5 .any (fun w args => (Rows.cpuMovesSpec.pre enc Tryd.prog Tryd.f5 [] false w args ∧ laidMetH Tryd.prog laid1 w) ∧ sizedMet enc Tryd.prog Tryd.f5 (OpenSpec.ofChange Rows.cpuMovesSpec) false w args)
      (Rows.cpuMovesSpec.post enc Tryd.prog Tryd.f5 false true false false) := by
  refine returnsInHanded_of_change_and (C := Tryd.checked) (X := fun w _ => laidMetH Tryd.prog laid1 w) (fun _ _ _ hh h => h.of_heap hh) kd_own started (by kernel_rfl) Tryd.func5
    (ChangeSpec.witness_shaped (enc := enc) (C := Tryd.checked) (os := os) (X := fun w _ => laidMetH Tryd.prog laid1 w) false (World.doorLaid Tryd.prog 400 os) #[.string .empty, .int .i64 0, .agg #[.int .i64 0, .int .i64 0, .int .i64 0, .int .i64 0, .int .i64 0, .int .i64 0, .int .i64 0, .int .i64 0, .int .i64 0, .int .i64 0], .int .u8 0, .int .u16 0] 8 rfl (World.shaped_of_RefB (by kernel_rfl) (by kernel_rfl)) (by kernel_rfl) (by kernel_rfl) (by kernel_rfl) (kd_door os _)) ?_
  intro W base args ds gs before hval0 hW _ _ hL _
  have hval : ∀ (j : Nat) t v, Tryd.f5.params[j]? = some t → args[j]? = some v → Value.okWide Tryd.prog W .any base t v := hval0
  have hW' := hW
  obtain ⟨p, q, hA0, hV, rfl, hfz, hnd⟩ := hW
  have hA : DataW.TrodAll enc Tryd.prog W 0 (fun _ => true) true Tryd.f5.params.toList args.toList ds p := hA0
  rw [Tryd.params5] at hA hval
  obtain ⟨v0, vs0, d0, ds0, p0, q0, hargs, rfl, rfl, h0, r0⟩ := trodAll_cons hA
  obtain ⟨v1, vs1, d1, ds1, p1, q1, rfl, rfl, rfl, h1, r1⟩ := trodAll_cons r0
  obtain ⟨v2, vs2, d2, ds2, p2, q2, rfl, rfl, rfl, h2, r2⟩ := trodAll_cons r1
  obtain ⟨v3, vs3, d3, ds3, p3, q3, rfl, rfl, rfl, h3, r3⟩ := trodAll_cons r2
  obtain ⟨v4, vs4, d4, ds4, p4, q4, rfl, rfl, rfl, h4, r4⟩ := trodAll_cons r3
  obtain ⟨rfl, rfl, rfl⟩ := trodAll_nil r4
  obtain rfl : args = #[v0, v1, v2, v3, v4] := by cases args; simp_all
  obtain ⟨rfl, rfl⟩ := trodVars_none hV
  have k0 := h0
  have lt0 : ∀ x ∈ p0, x.block < W.heap.size := by obtain ⟨m, hm⟩ := k0; exact DataW.trod_lt m _ _ _ hm
  obtain ⟨s0, rfl, hs0⟩ := kd_string (hval 0 9 v0 rfl rfl) h0
  obtain ⟨a1, rfl, rfl, rfl, w1⟩ := open_int Tryd.underlying3 (hval 1 3 v1 rfl rfl) h1
  have k2 := h2
  have lt2 : ∀ x ∈ p2, x.block < W.heap.size := by obtain ⟨m, hm⟩ := k2; exact DataW.trod_lt m _ _ _ hm
  obtain ⟨pc2, md2, r2', rfl, hs2⟩ := Cu.open_state (hval 2 24 v2 rfl rfl) h2
  obtain ⟨a3, rfl, rfl, rfl, w3⟩ := open_int Tryd.underlying5 (hval 3 5 v3 rfl rfl) h3
  obtain ⟨a4, rfl, rfl, rfl, w4⟩ := open_int Tryd.underlying50 (hval 4 50 v4 rfl rfl) h4
  clear hA0 hval0
  refine (Cu.moves_walk s0 a1 pc2 md2 r2' a3 a4 W (nm_of_laid hL) hs0 (Cu.fitI_of w1) hs2 (Cu.in_u8 w3) (Cu.in_u16 w4)).mono fun e W' ⟨he, bel⟩ => ?_
  subst he
  exact ⟨_, rfl, _, _, _, [], _, [], hW', trodAll_mk1 (shut_bool Tryd.underlying4 _), (trodAll_cons_mk (Below.trod kd_laid (by kernel_rfl) (of_decide_eq_true (by kernel_rfl)) k0 bel lt0) (trodAll_cons_mk (shut_int Tryd.underlying3 w1) (trodAll_cons_mk (Below.trod kd_laid (by kernel_rfl) (of_decide_eq_true (by kernel_rfl)) k2 bel lt2) (trodAll_cons_mk (shut_int Tryd.underlying5 w3) (trodAll_cons_mk (shut_int Tryd.underlying50 w4) trodAll_mk0))))), rfl, bel.frame _, fun h => by cases h⟩
theorem cpuMoves_holds : Rows.CpuMovesSaid :=
  OpenClaim.holds_of_wide 5 Tryd.f5 rfl rfl rfl rfl rfl rfl rfl ⟨rfl, rfl, rfl, rfl, rfl⟩ rfl rfl rfl rfl rfl (by kernel_rfl) Tryd.func5 (by kernel_rfl)
    (of_decide_eq_true (by kernel_rfl)) (by unfold Func.isWrapper; first | (rw [if_pos (by decide +kernel)]; kernel_rfl) | (rw [if_neg (by decide +kernel)]; exact ⟨rfl, rfl⟩))
    (fun os started H enc _ => cpuMoves_lifted os started H enc)
#print axioms cpuMoves_holds
end Go.Proofs.YtpolkioaagahhaaDoor

/- CpuMoves: two views with the same bytes, wherever they stand, do the same: for every text, size, state, number of steps and place the law returns true. No condition but the tied card's: the package's table starts as1 the program's text lays it. -/
namespace Go.Proofs.YtpolkioaagahhaaDoor
open Go

theorem cpuMoves_card : Rows.CpuMovesCardSaid :=
  Claim7.holds_tied_plain_at .later [] [.data] true _ false
    cpuMoves_holds (fun _ h => by cases h) (by kernel_rfl) (fun _ h => by cases h) cpuMoves_row_tie rfl ⟨rfl, rfl⟩ (by kernel_rfl) rfl
    (fun f fn hf hfn => by
      obtain rfl : f = 5 := Option.some.inj ((show Tryd.prog.funcNamed "campanile/campanilelaw21.CpuMoves" = some 5 by kernel_rfl).symm.trans hf) |>.symm
      obtain rfl : fn = Tryd.f5 := (Option.some.inj (Tryd.func5.symm.trans hfn)).symm
      exact ⟨by kernel_rfl, fun j t ht => by
        rw [Tryd.params5] at ht
        have hm : t ∈ [9, 3, 24, 5, 50] := by simpa using Array.mem_of_getElem? ht
        have hall : ([9, 3, 24, 5, 50].all fun u => !Tryd.prog.wantsStandIn u) = true := by kernel_rfl
        exact (show Tryd.prog.wantsStandIn t = false by simpa using List.all_eq_true.1 hall t hm)⟩)
    (by kernel_rfl)
#print axioms cpuMoves_card
end Go.Proofs.YtpolkioaagahhaaDoor
