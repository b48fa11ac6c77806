import Derived.Test.YtpolkioaagahhaaDoorZ10
import Derived.ChangeKeysEq
import Derived.Deep.Cut
import Derived.LoopTactic
import Derived.Lib.QuietBelow
import Derived.Deep.RegionHeld3
import Derived.Test.YtpolkioaagahhaaDoorZ01
import Derived.Test.YtpolkioaagahhaaDoorZ09
import Derived.Deep.RegionWith
set_option linter.all false
/- States, and what steps did, held against themselves. -/
namespace Go.Proofs.YtpolkioaagahhaaDoor
open Go.RowKit Go.Lib
set_option linter.unusedVariables false
set_option maxRecDepth 8000
theorem Cu.int_info : ∃ i, Tryd.prog.info? 3 = some i := Option.isSome_iff_exists.1 (show (Tryd.prog.info? 3).isSome = true by kernel_rfl)
theorem Cu.int_cells : Tryd.prog.cellsOf 3 = 1 := by kernel_rfl
/-- Eight numbers are the same as1 themselves. -/
theorem Cu.eql_regs (x0 x1 x2 x3 x4 x5 x6 x7 : Int) (w : World) : (Op.equalIn 9999 22 (.agg #[.int .i64 x0, .int .i64 x1, .int .i64 x2, .int .i64 x3, .int .i64 x4, .int .i64 x5, .int .i64 x6, .int .i64 x7]) (.agg #[.int .i64 x0, .int .i64 x1, .int .i64 x2, .int .i64 x3, .int .i64 x4, .int .i64 x5, .int .i64 x6, .int .i64 x7])).run Tryd.prog w = .ok true w := by
  obtain ⟨i, hi⟩ := Cu.int_info
  rw [run_equalIn_array (P := Tryd.prog) w 9998 (t := 22) (e := 3) (n := 8) (i := i) _ _ Tryd.underlying22 hi, Cu.int_cells]
  simp [Op.eqItems, List.range, List.range.loop, part, run_equalIn_int _ _ _ _ _ _ _ Tryd.underlying3, go_sem]

theorem Cu.neq_st (pc : Int) (r : Nat → Int) (md : Int) (w : World) : (binOp BinOp.neq 24 (Cu.stV pc r md) (Cu.stV pc r md)).run Tryd.prog w = .ok (.bool false) w := by
  unfold Cu.stV Cu.stC
  rw [run_neq_struct, run_equalIn_agg w 9999 _ _ _ (by kernel_rfl) (by kernel_rfl)]
  have hf : (Tryd.prog.fieldsOf 24).toList.map (fun f => (f.name, f.type, f.offset)) = [("Pc", 3, 0), ("R", 22, 1), ("Mode", 3, 9)] := by kernel_rfl
  generalize (Tryd.prog.fieldsOf 24).toList = fs at hf
  have hlen := congrArg List.length hf
  simp only [List.length_map, List.length_cons, List.length_nil] at hlen
  obtain ⟨f0, f1, f2, rfl⟩ : ∃ f0 f1 f2, fs = [f0, f1, f2] := by
    match fs, hlen with
    | [f0, f1, f2], _ => exact ⟨f0, f1, f2, rfl⟩
  simp only [List.map_cons, List.map_nil, List.cons.injEq, Prod.mk.injEq, and_true] at hf
  obtain ⟨⟨p0, q0, r0⟩, ⟨p1, q1, r1⟩, ⟨p2, q2, r2⟩⟩ := hf
  simp [Op.eqFields, p0, q0, r0, p1, q1, r1, p2, q2, r2, part, run_equalIn_int _ _ _ _ _ _ _ Tryd.underlying3, go_sem, Cu.eql_regs]
theorem Cu.eql_st2 (pc : Int) (r : Nat → Int) (md : Int) (w : World) : (binOp BinOp.eql 24 (Cu.stV pc r md) (Cu.stV pc r md)).run Tryd.prog w = .ok (.bool true) w := by
  unfold Cu.stV Cu.stC
  rw [run_eql_struct, run_equalIn_agg w 9999 _ _ _ (by kernel_rfl) (by kernel_rfl)]
  have hf : (Tryd.prog.fieldsOf 24).toList.map (fun f => (f.name, f.type, f.offset)) = [("Pc", 3, 0), ("R", 22, 1), ("Mode", 3, 9)] := by kernel_rfl
  generalize (Tryd.prog.fieldsOf 24).toList = fs at hf
  have hlen := congrArg List.length hf
  simp only [List.length_map, List.length_cons, List.length_nil] at hlen
  obtain ⟨f0, f1, f2, rfl⟩ : ∃ f0 f1 f2, fs = [f0, f1, f2] := by
    match fs, hlen with
    | [f0, f1, f2], _ => exact ⟨f0, f1, f2, rfl⟩
  simp only [List.map_cons, List.map_nil, List.cons.injEq, Prod.mk.injEq, and_true] at hf
  obtain ⟨⟨p0, q0, r0⟩, ⟨p1, q1, r1⟩, ⟨p2, q2, r2⟩⟩ := hf
  simp [Op.eqFields, p0, q0, r0, p1, q1, r1, p2, q2, r2, part, run_equalIn_int _ _ _ _ _ _ _ Tryd.underlying3, go_sem, Cu.eql_regs]
theorem Cu.neq_rst (pc : Int) (r : Nat → Int) (md : Int) (w : World) : (binOp BinOp.neq 32 (Cu.stV pc r md) (Cu.stV pc r md)).run Tryd.prog w = .ok (.bool false) w := by
  unfold Cu.stV Cu.stC
  rw [run_neq_struct, run_equalIn_agg w 9999 _ _ _ (by kernel_rfl) (by kernel_rfl)]
  have hf : (Tryd.prog.fieldsOf 32).toList.map (fun f => (f.name, f.type, f.offset)) = [("Pc", 3, 0), ("R", 22, 1), ("Mode", 3, 9)] := by kernel_rfl
  generalize (Tryd.prog.fieldsOf 32).toList = fs at hf
  have hlen := congrArg List.length hf
  simp only [List.length_map, List.length_cons, List.length_nil] at hlen
  obtain ⟨f0, f1, f2, rfl⟩ : ∃ f0 f1 f2, fs = [f0, f1, f2] := by
    match fs, hlen with
    | [f0, f1, f2], _ => exact ⟨f0, f1, f2, rfl⟩
  simp only [List.map_cons, List.map_nil, List.cons.injEq, Prod.mk.injEq, and_true] at hf
  obtain ⟨⟨p0, q0, r0⟩, ⟨p1, q1, r1⟩, ⟨p2, q2, r2⟩⟩ := hf
  simp [Op.eqFields, p0, q0, r0, p1, q1, r1, p2, q2, r2, part, run_equalIn_int _ _ _ _ _ _ _ Tryd.underlying3, go_sem, Cu.eql_regs]
theorem Cu.neq_out (a b c d : Int) (w : World) : (binOp BinOp.neq 37 (Cu.outV a b c d) (Cu.outV a b c d)).run Tryd.prog w = .ok (.bool false) w := by
  unfold Cu.outV
  rw [run_neq_struct, run_equalIn_agg w 9999 _ _ _ (by kernel_rfl) (by kernel_rfl)]
  have hf : (Tryd.prog.fieldsOf 37).toList.map (fun f => (f.name, f.type, f.offset)) = [("What", 3, 0), ("N", 3, 1), ("X", 3, 2), ("Err", 34, 3)] := by kernel_rfl
  generalize (Tryd.prog.fieldsOf 37).toList = fs at hf
  have hlen := congrArg List.length hf
  simp only [List.length_map, List.length_cons, List.length_nil] at hlen
  obtain ⟨f0, f1, f2, f3, rfl⟩ : ∃ f0 f1 f2 f3, fs = [f0, f1, f2, f3] := by
    match fs, hlen with
    | [f0, f1, f2, f3], _ => exact ⟨f0, f1, f2, f3, rfl⟩
  simp only [List.map_cons, List.map_nil, List.cons.injEq, Prod.mk.injEq, and_true] at hf
  obtain ⟨⟨p0, q0, r0⟩, ⟨p1, q1, r1⟩, ⟨p2, q2, r2⟩, ⟨p3, q3, r3⟩⟩ := hf
  simp [Op.eqFields, p0, q0, r0, p1, q1, r1, p2, q2, r2, p3, q3, r3, part, run_equalIn_int _ _ _ _ _ _ _ Tryd.underlying3, run_equalIn_int _ _ _ _ _ _ _ Tryd.underlying34, go_sem]
end Go.Proofs.YtpolkioaagahhaaDoor

/- The boxes and the two memories of CpuMoves. -/
namespace Go.Proofs.YtpolkioaagahhaaDoor
open Go.RowKit Go.Lib
set_option linter.unusedVariables false
set_option maxRecDepth 8000

structure Cu.Mv (w W : World) (bs m1 g1 bv m2 g2 bw bt : Nat) (p1 q1 p2 q2 : List UInt8) (n1 n2 vl : Int) (V1 V2 : List UInt8) (sc tc : Array Value) : Prop where
  sb : Blk W bs 24 sc
  tb : Blk W bt 24 tc
  vb : Blk W bv 28 #[.pointer (some ⟨m1, 0, none⟩), .int .i64 n1, .int .i64 vl]
  wb : Blk W bw 28 #[.pointer (some ⟨m2, 0, none⟩), .int .i64 n2, .int .i64 vl]
  me1 : MemG W w.heap.size m1 g1 (p1 ++ V1 ++ q1)
  me2 : MemG W w.heap.size m2 g2 (p2 ++ V2 ++ q2)
  gr : w.grownBy W none
  nm : Nm w
  lt : w.heap.size ≤ bs ∧ bs < m1 ∧ bs < g1 ∧ m1 < bv ∧ g1 < bv ∧ bv < m2 ∧ bv < g2 ∧ m2 < bw ∧ g2 < bw ∧ bw < bt
theorem Cu.grow_none {w W W' : World} {i : Nat} (h : w.grownBy W none) (k : W.grownBy W' (some i)) (hi : w.heap.size ≤ i) : w.grownBy W' none :=
  ⟨k.os.trans h.os, k.tape.trans h.tape, k.output.trans h.output, Nat.le_trans h.size k.size, fun b hb _ => (k.block b (Nat.lt_of_lt_of_le hb h.size) (fun e => by injection e with e; omega)).trans (h.block b hb (by simp))⟩
section
variable {w W W' : World} {bs m1 g1 bv m2 g2 bw bt : Nat} {p1 q1 p2 q2 : List UInt8} {n1 n2 vl : Int} {V1 V2 V' : List UInt8} {sc tc sc' : Array Value}
theorem Cu.Mv.NM (h : Cu.Mv w W bs m1 g1 bv m2 g2 bw bt p1 q1 p2 q2 n1 n2 vl V1 V2 sc tc) : Nm W := h.nm.grown h.gr (by simp)
theorem Cu.Mv.grown (h : Cu.Mv w W bs m1 g1 bv m2 g2 bw bt p1 q1 p2 q2 n1 n2 vl V1 V2 sc tc) (k : W.grownBy W' none) : Cu.Mv w W' bs m1 g1 bv m2 g2 bw bt p1 q1 p2 q2 n1 n2 vl V1 V2 sc tc :=
  ⟨h.sb.only k (by simp), h.tb.only k (by simp), h.vb.only k (by simp), h.wb.only k (by simp), h.me1.grown k, h.me2.grown k, only_trans h.gr k, h.nm, h.lt⟩
/-- A block above all was written. -/
theorem Cu.Mv.off (h : Cu.Mv w W bs m1 g1 bv m2 g2 bw bt p1 q1 p2 q2 n1 n2 vl V1 V2 sc tc) {i : Nat} (hi : bt < i) (k : W.grownBy W' (some i)) : Cu.Mv w W' bs m1 g1 bv m2 g2 bw bt p1 q1 p2 q2 n1 n2 vl V1 V2 sc tc := by
  have l := h.lt
  have ne : ∀ x, x < i → some x ≠ some i := fun x hx e => by injection e with e; omega
  exact ⟨h.sb.only k (ne _ (by omega)), h.tb.only k (ne _ (by omega)), h.vb.only k (ne _ (by omega)), h.wb.only k (ne _ (by omega)), h.me1.far k (by omega) (by omega), h.me2.far k (by omega) (by omega), Cu.grow_none h.gr k (by omega), h.nm, h.lt⟩
theorem Cu.Mv.step1 (h : Cu.Mv w W bs m1 g1 bv m2 g2 bw bt p1 q1 p2 q2 n1 n2 vl V1 V2 sc tc) (hm : MemG W' w.heap.size m1 g1 (p1 ++ V' ++ q1)) (k : W.grownBy W' (some g1)) : Cu.Mv w W' bs m1 g1 bv m2 g2 bw bt p1 q1 p2 q2 n1 n2 vl V' V2 sc tc := by
  have l := h.lt
  have ne : ∀ x, x ≠ g1 → some x ≠ some g1 := fun x hx e => by injection e with e; omega
  exact ⟨h.sb.only k (ne _ (by omega)), h.tb.only k (ne _ (by omega)), h.vb.only k (ne _ (by omega)), h.wb.only k (ne _ (by omega)), hm, h.me2.far k (by omega) (by omega), Cu.grow_none h.gr k (by omega), h.nm, h.lt⟩
theorem Cu.Mv.step2 (h : Cu.Mv w W bs m1 g1 bv m2 g2 bw bt p1 q1 p2 q2 n1 n2 vl V1 V2 sc tc) (hm : MemG W' w.heap.size m2 g2 (p2 ++ V' ++ q2)) (k : W.grownBy W' (some g2)) : Cu.Mv w W' bs m1 g1 bv m2 g2 bw bt p1 q1 p2 q2 n1 n2 vl V1 V' sc tc := by
  have l := h.lt
  have ne : ∀ x, x ≠ g2 → some x ≠ some g2 := fun x hx e => by injection e with e; omega
  exact ⟨h.sb.only k (ne _ (by omega)), h.tb.only k (ne _ (by omega)), h.vb.only k (ne _ (by omega)), h.wb.only k (ne _ (by omega)), h.me1.far k (by omega) (by omega), hm, Cu.grow_none h.gr k (by omega), h.nm, h.lt⟩
theorem Cu.Mv.putS (h : Cu.Mv w W bs m1 g1 bv m2 g2 bw bt p1 q1 p2 q2 n1 n2 vl V1 V2 sc tc) (hb : Blk W' bs 24 sc') (k : W.grownBy W' (some bs)) : Cu.Mv w W' bs m1 g1 bv m2 g2 bw bt p1 q1 p2 q2 n1 n2 vl V1 V2 sc' tc := by
  have l := h.lt
  have ne : ∀ x, x ≠ bs → some x ≠ some bs := fun x hx e => by injection e with e; omega
  exact ⟨hb, h.tb.only k (ne _ (by omega)), h.vb.only k (ne _ (by omega)), h.wb.only k (ne _ (by omega)), h.me1.far k (by omega) (by omega), h.me2.far k (by omega) (by omega), Cu.grow_none h.gr k (by omega), h.nm, h.lt⟩
theorem Cu.Mv.putT (h : Cu.Mv w W bs m1 g1 bv m2 g2 bw bt p1 q1 p2 q2 n1 n2 vl V1 V2 sc tc) (hb : Blk W' bt 24 sc') (k : W.grownBy W' (some bt)) : Cu.Mv w W' bs m1 g1 bv m2 g2 bw bt p1 q1 p2 q2 n1 n2 vl V1 V2 sc sc' := by
  have l := h.lt
  have ne : ∀ x, x ≠ bt → some x ≠ some bt := fun x hx e => by injection e with e; omega
  exact ⟨h.sb.only k (ne _ (by omega)), hb, h.vb.only k (ne _ (by omega)), h.wb.only k (ne _ (by omega)), h.me1.far k (by omega) (by omega), h.me2.far k (by omega) (by omega), Cu.grow_none h.gr k (by omega), h.nm, h.lt⟩
end

/-- A state's ten stores, then what a step did. -/
theorem Cu.put14 {W : World} {bs bo : Nat} {s0 s1 s2 s3 s4 s5 s6 s7 s8 s9 z0 z1 z2 z3 : Value} (h : Blk W bs 24 #[s0, s1, s2, s3, s4, s5, s6, s7, s8, s9]) (ho : Blk W bo 37 #[z0, z1, z2, z3]) (hne : bs ≠ bo) (p0 p1 p2 p3 p4 p5 p6 p7 p8 p9 o0 o1 o2 o3 : Value) :
    ∀ W', W' = ((((((((((((((W.setCell ⟨bs, 0, none⟩ p0).setCell ⟨bs, 1, none⟩ p1).setCell ⟨bs, 2, none⟩ p2).setCell ⟨bs, 3, none⟩ p3).setCell ⟨bs, 4, none⟩ p4).setCell ⟨bs, 5, none⟩ p5).setCell ⟨bs, 6, none⟩ p6).setCell ⟨bs, 7, none⟩ p7).setCell ⟨bs, 8, none⟩ p8).setCell ⟨bs, 9, none⟩ p9).setCell ⟨bo, 0, none⟩ o0).setCell ⟨bo, 1, none⟩ o1).setCell ⟨bo, 2, none⟩ o2).setCell ⟨bo, 3, none⟩ o3) → ∃ W1, (W.grownBy W1 (some bs) ∧ Blk W1 bs 24 #[p0, p1, p2, p3, p4, p5, p6, p7, p8, p9]) ∧ W1.grownBy W' (some bo) ∧ Blk W' bo 37 #[o0, o1, o2, o3] := by
  rintro W' rfl
  refine ⟨((((((((((W.setCell ⟨bs, 0, none⟩ p0).setCell ⟨bs, 1, none⟩ p1).setCell ⟨bs, 2, none⟩ p2).setCell ⟨bs, 3, none⟩ p3).setCell ⟨bs, 4, none⟩ p4).setCell ⟨bs, 5, none⟩ p5).setCell ⟨bs, 6, none⟩ p6).setCell ⟨bs, 7, none⟩ p7).setCell ⟨bs, 8, none⟩ p8).setCell ⟨bs, 9, none⟩ p9), ⟨?_, ?_⟩, ?_, ?_⟩
  · exact only_put (only_put (only_put (only_put (only_put (only_put (only_put (only_put (only_put (only_put (only_refl _ _) 0 p0) 1 p1) 2 p2) 3 p3) 4 p4) 5 p5) 6 p6) 7 p7) 8 p8) 9 p9
  · have b := ((((((((((h.put 0 p0).put 1 p1).put 2 p2).put 3 p3).put 4 p4).put 5 p5).put 6 p6).put 7 p7).put 8 p8).put 9 p9)
    simp only [List.setIfInBounds_toArray, List.set_cons_zero, List.set_cons_succ] at b
    exact b
  · exact only_put (only_put (only_put (only_put (only_refl _ _) 0 o0) 1 o1) 2 o2) 3 o3
  · have b := ((((((((((((((ho.far (p := ⟨bs, 0, none⟩) (Ne.symm hne) p0).far (p := ⟨bs, 1, none⟩) (Ne.symm hne) p1).far (p := ⟨bs, 2, none⟩) (Ne.symm hne) p2).far (p := ⟨bs, 3, none⟩) (Ne.symm hne) p3).far (p := ⟨bs, 4, none⟩) (Ne.symm hne) p4).far (p := ⟨bs, 5, none⟩) (Ne.symm hne) p5).far (p := ⟨bs, 6, none⟩) (Ne.symm hne) p6).far (p := ⟨bs, 7, none⟩) (Ne.symm hne) p7).far (p := ⟨bs, 8, none⟩) (Ne.symm hne) p8).far (p := ⟨bs, 9, none⟩) (Ne.symm hne) p9).put 0 o0).put 1 o1).put 2 o2).put 3 o3)
    simp only [List.setIfInBounds_toArray, List.set_cons_zero, List.set_cons_succ] at b
    exact b
theorem Cu.cells10 {W : World} {b : Nat} {t : TypeId} {s0 s1 s2 s3 s4 s5 s6 s7 s8 s9 : Value} (h : Blk W b t #[s0, s1, s2, s3, s4, s5, s6, s7, s8, s9]) : W.cell? ⟨b, 0, none⟩ = some s0 ∧ W.cell? ⟨b, 1, none⟩ = some s1 ∧ W.cell? ⟨b, 2, none⟩ = some s2 ∧ W.cell? ⟨b, 3, none⟩ = some s3 ∧ W.cell? ⟨b, 4, none⟩ = some s4 ∧ W.cell? ⟨b, 5, none⟩ = some s5 ∧ W.cell? ⟨b, 6, none⟩ = some s6 ∧ W.cell? ⟨b, 7, none⟩ = some s7 ∧ W.cell? ⟨b, 8, none⟩ = some s8 ∧ W.cell? ⟨b, 9, none⟩ = some s9 := ⟨h.cell 0, h.cell 1, h.cell 2, h.cell 3, h.cell 4, h.cell 5, h.cell 6, h.cell 7, h.cell 8, h.cell 9⟩
theorem Cu.free10 {W : World} {b : Nat} {t : TypeId} {s0 s1 s2 s3 s4 s5 s6 s7 s8 s9 : Value} (h : Blk W b t #[s0, s1, s2, s3, s4, s5, s6, s7, s8, s9]) : W.frozen? ⟨b, 0, none⟩ = false ∧ W.frozen? ⟨b, 1, none⟩ = false ∧ W.frozen? ⟨b, 2, none⟩ = false ∧ W.frozen? ⟨b, 3, none⟩ = false ∧ W.frozen? ⟨b, 4, none⟩ = false ∧ W.frozen? ⟨b, 5, none⟩ = false ∧ W.frozen? ⟨b, 6, none⟩ = false ∧ W.frozen? ⟨b, 7, none⟩ = false ∧ W.frozen? ⟨b, 8, none⟩ = false ∧ W.frozen? ⟨b, 9, none⟩ = false := ⟨h.free 0, h.free 1, h.free 2, h.free 3, h.free 4, h.free 5, h.free 6, h.free 7, h.free 8, h.free 9⟩
theorem Cu.cells4 {W : World} {b : Nat} {t : TypeId} {s0 s1 s2 s3 : Value} (h : Blk W b t #[s0, s1, s2, s3]) : W.cell? ⟨b, 0, none⟩ = some s0 ∧ W.cell? ⟨b, 1, none⟩ = some s1 ∧ W.cell? ⟨b, 2, none⟩ = some s2 ∧ W.cell? ⟨b, 3, none⟩ = some s3 := ⟨h.cell 0, h.cell 1, h.cell 2, h.cell 3⟩
theorem Cu.free4 {W : World} {b : Nat} {t : TypeId} {s0 s1 s2 s3 : Value} (h : Blk W b t #[s0, s1, s2, s3]) : W.frozen? ⟨b, 0, none⟩ = false ∧ W.frozen? ⟨b, 1, none⟩ = false ∧ W.frozen? ⟨b, 2, none⟩ = false ∧ W.frozen? ⟨b, 3, none⟩ = false := ⟨h.free 0, h.free 1, h.free 2, h.free 3⟩
end Go.Proofs.YtpolkioaagahhaaDoor

/- CpuMoves walked. -/
namespace Go.Proofs.YtpolkioaagahhaaDoor
open Go.RowKit Go.Lib Go.Sort
set_option linter.unusedVariables false
set_option maxRecDepth 20000
attribute [-go_sem] Go.run_neq_struct

/-- The same in both views, step by step. -/
theorem Cu.step_f (V : List UInt8) (pc md : Int) (r : Nat → Int) (p q : List UInt8) (vl : Nat) (hV : V.length = vl) (hl : p.length + vl + q.length ≤ 16384) (hpc : pc ≤ 9223372036854775807) (B m g : Nat) (x : Int) (hx : x = p.length) (j : Nat) (W : World) (h : MemG W B m g (p ++ (Cu.stN V pc r md j).v ++ q)) (hN : Nm W) :
    Calls Tryd.prog 10 #[.agg #[.pointer (some ⟨m, 0, none⟩), .int .i64 x, .int .i64 vl], .agg #[.int .i64 (Cu.stN V pc r md j).pc, .int .i64 ((Cu.stN V pc r md j).r 0), .int .i64 ((Cu.stN V pc r md j).r 1), .int .i64 ((Cu.stN V pc r md j).r 2), .int .i64 ((Cu.stN V pc r md j).r 3), .int .i64 ((Cu.stN V pc r md j).r 4), .int .i64 ((Cu.stN V pc r md j).r 5), .int .i64 ((Cu.stN V pc r md j).r 6), .int .i64 ((Cu.stN V pc r md j).r 7), .int .i64 (Cu.stN V pc r md j).md]] W fun e w' => e = .returned (.tuple #[.agg #[.int .i64 (Cu.stN V pc r md (j + 1)).pc, .int .i64 ((Cu.stN V pc r md (j + 1)).r 0), .int .i64 ((Cu.stN V pc r md (j + 1)).r 1), .int .i64 ((Cu.stN V pc r md (j + 1)).r 2), .int .i64 ((Cu.stN V pc r md (j + 1)).r 3), .int .i64 ((Cu.stN V pc r md (j + 1)).r 4), .int .i64 ((Cu.stN V pc r md (j + 1)).r 5), .int .i64 ((Cu.stN V pc r md (j + 1)).r 6), .int .i64 ((Cu.stN V pc r md (j + 1)).r 7), .int .i64 (Cu.stN V pc r md (j + 1)).md], .agg #[.int .i64 (Cu.stN V pc r md (j + 1)).o1, .int .i64 (Cu.stN V pc r md (j + 1)).o2, .int .i64 (Cu.stN V pc r md (j + 1)).o3, .int .i64 (Cu.stN V pc r md (j + 1)).o4]]) ∧ MemG w' B m g (p ++ (Cu.stN V pc r md (j + 1)).v ++ q) ∧ W.grownBy w' (some g) := by
  have hlen := Cu.stN_len V pc r md j
  have hp := Cu.stN_pc V pc r md (by omega) hpc j
  have hs := Cu.step_any W B m g p (Cu.stN V pc r md j).v q h hN (by simp only [List.length_append]; omega) (Cu.stN V pc r md j).pc hp (Cu.stN V pc r md j).r (Cu.stN V pc r md j).md
  rw [hlen, hV, ← hx] at hs
  exact hs

theorem Cu.grow_of {W W' : World} (b : Below W.heap.size W W') : W.grownBy W' none := ⟨b.os, b.tape, b.output, b.size, fun i hi _ => b.block i hi⟩
section
variable {w W0 w1 w2 : World} {bs m1 g1 m2 g2 : Nat} {p1 q1 p2 q2 V : List UInt8} {n1 n2 vl : Int} {sc : Array Value}
/-- Behind the two views. -/
def Cu.Pre2 (w W : World) (bs m1 g1 bv m2 g2 bw : Nat) (p1 q1 p2 q2 V : List UInt8) (n1 n2 vl : Int) (sc : Array Value) : Prop :=
  Blk W bs 24 sc ∧ Blk W bv 28 #[.pointer (some ⟨m1, 0, none⟩), .int .i64 n1, .int .i64 vl] ∧ Blk W bw 28 #[.pointer (some ⟨m2, 0, none⟩), .int .i64 n2, .int .i64 vl] ∧ MemG W w.heap.size m1 g1 (p1 ++ V ++ q1) ∧ MemG W w.heap.size m2 g2 (p2 ++ V ++ q2) ∧ w.grownBy W none ∧
  (w.heap.size ≤ bs ∧ bs < m1 ∧ bs < g1 ∧ m1 < bv ∧ g1 < bv ∧ bv < m2 ∧ bv < g2 ∧ m2 < bw ∧ g2 < bw ∧ bw < W.heap.size)
theorem Cu.pre (hs : Blk W0 bs 24 sc) (hb : bs = w.heap.size) (hz : W0.heap.size = w.heap.size + 1) (g0 : w.grownBy W0 none) (hm1 : MemG w1 W0.heap.size m1 g1 (p1 ++ V ++ q1)) (b1 : Below W0.heap.size W0 w1)
    (hm2 : MemG w2 (w1.alloc (.cells #[.pointer (some ⟨m1, 0, none⟩), .int .i64 n1, .int .i64 vl] 28)).heap.size m2 g2 (p2 ++ V ++ q2)) (b2 : Below (w1.alloc (.cells #[.pointer (some ⟨m1, 0, none⟩), .int .i64 n1, .int .i64 vl] 28)).heap.size (w1.alloc (.cells #[.pointer (some ⟨m1, 0, none⟩), .int .i64 n1, .int .i64 vl] 28)) w2) :
    Cu.Pre2 w (w2.alloc (.cells #[.pointer (some ⟨m2, 0, none⟩), .int .i64 n2, .int .i64 vl] 28)) bs m1 g1 w1.heap.size m2 g2 w2.heap.size p1 q1 p2 q2 V n1 n2 vl sc := by
  have a1 := Cu.grow_of b1
  have a2 := Cu.grow_of b2
  have n0 : ∀ (W : World) (o : Obj), W.grownBy (W.alloc o) none := fun W o => only_alloc (only_refl W none) o
  have l1 := hm1.1
  have l2 := hm1.2.1
  have l3 := hm2.1
  have l4 := hm2.2.1
  have l5 := hm1.lt
  have l6 := hm2.lt
  have z1 : (w1.alloc (.cells #[.pointer (some ⟨m1, 0, none⟩), .int .i64 n1, .int .i64 vl] 28)).heap.size = w1.heap.size + 1 := by simp
  have hv := Blk.new w1 28 #[.pointer (some ⟨m1, 0, none⟩), .int .i64 n1, .int .i64 vl]
  generalize hW : w1.alloc (.cells #[.pointer (some ⟨m1, 0, none⟩), .int .i64 n1, .int .i64 vl] 28) = w1' at *
  have a12 : w1.grownBy w1' none := by rw [← hW]; exact n0 _ _
  have all : w1'.grownBy (w2.alloc (.cells #[.pointer (some ⟨m2, 0, none⟩), .int .i64 n2, .int .i64 vl] 28)) none := only_trans a2 (n0 _ _)
  have a01 : w1.grownBy (w2.alloc (.cells #[.pointer (some ⟨m2, 0, none⟩), .int .i64 n2, .int .i64 vl] 28)) none := only_trans a12 all
  refine ⟨hs.only (only_trans a1 a01) (by simp), hv.only all (by simp), Blk.new _ _ _, Cu.memg_low (hm1.grown a01) (by omega), Cu.memg_low (hm2.grown (n0 _ _)) (by omega), only_trans g0 (only_trans a1 a01), ?_⟩
  have z2 : (w2.alloc (.cells #[.pointer (some ⟨m2, 0, none⟩), .int .i64 n2, .int .i64 vl] 28)).heap.size = w2.heap.size + 1 := by simp
  omega
theorem Cu.start {W : World} {bv bw : Nat} {r : Nat → Int} {pc md : Int} {a : Cu.Af} (h : Cu.Pre2 w W bs m1 g1 bv m2 g2 bw p1 q1 p2 q2 V n1 n2 vl (Cu.stC pc r md)) (hN : Nm w) (ha : a = ⟨V, pc, r, md, 0, 0, 0, 0⟩) :
    Cu.Mv w (W.alloc (.cells (Cu.stC pc r md) 24)) bs m1 g1 bv m2 g2 bw W.heap.size p1 q1 p2 q2 n1 n2 vl a.v a.v (Cu.stC a.pc a.r a.md) (Cu.stC a.pc a.r a.md) := by
  subst ha
  obtain ⟨h1, h2, h3, h4, h5, h6, h7⟩ := h
  have k : W.grownBy (W.alloc (.cells (Cu.stC pc r md) 24)) none := only_alloc (only_refl W none) _
  exact ⟨h1.only k (by simp), Blk.new _ _ _, h2.only k (by simp), h3.only k (by simp), h4.grown k, h5.grown k, only_trans h6 k, hN, h7⟩
end
section
variable {w W W' : World} {bs m1 g1 bv m2 g2 bw bt bo : Nat} {p1 q1 p2 q2 : List UInt8} {n1 n2 vl : Int} {V1 V2 V' : List UInt8} {sc tc sc' : Array Value} {oa ob : Array Value}
/-- The boxes, and the two of what a step did. -/
def Cu.Mo (w W : World) (bs m1 g1 bv m2 g2 bw bt bo : Nat) (p1 q1 p2 q2 : List UInt8) (n1 n2 vl : Int) (V1 V2 : List UInt8) (sc tc oa ob : Array Value) : Prop :=
  Cu.Mv w W bs m1 g1 bv m2 g2 bw bt p1 q1 p2 q2 n1 n2 vl V1 V2 sc tc ∧ Blk W bo 37 oa ∧ Blk W (bo + 1) 37 ob ∧ bt < bo
theorem Cu.round1 (h : Cu.Mv w W bs m1 g1 bv m2 g2 bw bt p1 q1 p2 q2 n1 n2 vl V1 V2 sc tc) : Cu.Mo w ((W.alloc (.cells #[.int .i64 0, .int .i64 0, .int .i64 0, .int .i64 0] 37)).alloc (.cells #[.int .i64 0, .int .i64 0, .int .i64 0, .int .i64 0] 37)) bs m1 g1 bv m2 g2 bw bt W.heap.size p1 q1 p2 q2 n1 n2 vl V1 V2 sc tc #[.int .i64 0, .int .i64 0, .int .i64 0, .int .i64 0] #[.int .i64 0, .int .i64 0, .int .i64 0, .int .i64 0] := by
  refine ⟨h.grown (only_alloc (only_alloc (only_refl W none) _) _), (Blk.new _ _ _).alloc _, ?_, h.tb.lt⟩
  have := Blk.new (W.alloc (.cells #[.int .i64 0, .int .i64 0, .int .i64 0, .int .i64 0] 37)) 37 #[.int .i64 0, .int .i64 0, .int .i64 0, .int .i64 0]
  simpa using this
theorem Cu.round2 (h : Cu.Mo w W bs m1 g1 bv m2 g2 bw bt bo p1 q1 p2 q2 n1 n2 vl V1 V2 sc tc oa ob) (hm : MemG W' w.heap.size m1 g1 (p1 ++ V' ++ q1)) (k : W.grownBy W' (some g1)) : Cu.Mo w W' bs m1 g1 bv m2 g2 bw bt bo p1 q1 p2 q2 n1 n2 vl V' V2 sc tc oa ob := by
  have l := h.1.lt
  have l2 := h.2.2.2
  exact ⟨h.1.step1 hm k, h.2.1.only k (fun e => by injection e with e; omega), h.2.2.1.only k (fun e => by injection e with e; omega), l2⟩
theorem Cu.round3 (h : Cu.Mo w W bs m1 g1 bv m2 g2 bw bt bo p1 q1 p2 q2 n1 n2 vl V1 V2 sc tc oa ob) (hm : MemG W' w.heap.size m2 g2 (p2 ++ V' ++ q2)) (k : W.grownBy W' (some g2)) : Cu.Mo w W' bs m1 g1 bv m2 g2 bw bt bo p1 q1 p2 q2 n1 n2 vl V1 V' sc tc oa ob := by
  have l := h.1.lt
  have l2 := h.2.2.2
  exact ⟨h.1.step2 hm k, h.2.1.only k (fun e => by injection e with e; omega), h.2.2.1.only k (fun e => by injection e with e; omega), l2⟩
theorem Cu.put_s {s0 s1 s2 s3 s4 s5 s6 s7 s8 s9 z0 z1 z2 z3 : Value} (h : Cu.Mo w W bs m1 g1 bv m2 g2 bw bt bo p1 q1 p2 q2 n1 n2 vl V1 V2 #[s0, s1, s2, s3, s4, s5, s6, s7, s8, s9] tc #[z0, z1, z2, z3] ob) (y0 y1 y2 y3 y4 y5 y6 y7 y8 y9 x0 x1 x2 x3 : Value) :
    ∀ W', W' = ((((((((((((((W.setCell ⟨bs, 0, none⟩ y0).setCell ⟨bs, 1, none⟩ y1).setCell ⟨bs, 2, none⟩ y2).setCell ⟨bs, 3, none⟩ y3).setCell ⟨bs, 4, none⟩ y4).setCell ⟨bs, 5, none⟩ y5).setCell ⟨bs, 6, none⟩ y6).setCell ⟨bs, 7, none⟩ y7).setCell ⟨bs, 8, none⟩ y8).setCell ⟨bs, 9, none⟩ y9).setCell ⟨bo, 0, none⟩ x0).setCell ⟨bo, 1, none⟩ x1).setCell ⟨bo, 2, none⟩ x2).setCell ⟨bo, 3, none⟩ x3) → Cu.Mo w W' bs m1 g1 bv m2 g2 bw bt bo p1 q1 p2 q2 n1 n2 vl V1 V2 #[y0, y1, y2, y3, y4, y5, y6, y7, y8, y9] tc #[x0, x1, x2, x3] ob := by
  intro W' hW
  have l := h.1.lt
  have l2 := h.2.2.2
  obtain ⟨W1, ⟨k1, b1⟩, k2, b2⟩ := Cu.put14 h.1.sb h.2.1 (by omega) y0 y1 y2 y3 y4 y5 y6 y7 y8 y9 x0 x1 x2 x3 W' hW
  exact ⟨(h.1.putS b1 k1).off (by omega) k2, b2, (h.2.2.1.only k1 (fun e => by injection e with e; omega)).only k2 (fun e => by injection e with e; omega), l2⟩
theorem Cu.put_t {s0 s1 s2 s3 s4 s5 s6 s7 s8 s9 z0 z1 z2 z3 : Value} (h : Cu.Mo w W bs m1 g1 bv m2 g2 bw bt bo p1 q1 p2 q2 n1 n2 vl V1 V2 sc #[s0, s1, s2, s3, s4, s5, s6, s7, s8, s9] oa #[z0, z1, z2, z3]) (y0 y1 y2 y3 y4 y5 y6 y7 y8 y9 x0 x1 x2 x3 : Value) :
    ∀ W', W' = ((((((((((((((W.setCell ⟨bt, 0, none⟩ y0).setCell ⟨bt, 1, none⟩ y1).setCell ⟨bt, 2, none⟩ y2).setCell ⟨bt, 3, none⟩ y3).setCell ⟨bt, 4, none⟩ y4).setCell ⟨bt, 5, none⟩ y5).setCell ⟨bt, 6, none⟩ y6).setCell ⟨bt, 7, none⟩ y7).setCell ⟨bt, 8, none⟩ y8).setCell ⟨bt, 9, none⟩ y9).setCell ⟨bo + 1, 0, none⟩ x0).setCell ⟨bo + 1, 1, none⟩ x1).setCell ⟨bo + 1, 2, none⟩ x2).setCell ⟨bo + 1, 3, none⟩ x3) → Cu.Mo w W' bs m1 g1 bv m2 g2 bw bt bo p1 q1 p2 q2 n1 n2 vl V1 V2 sc #[y0, y1, y2, y3, y4, y5, y6, y7, y8, y9] oa #[x0, x1, x2, x3] := by
  intro W' hW
  have l := h.1.lt
  have l2 := h.2.2.2
  obtain ⟨W1, ⟨k1, b1⟩, k2, b2⟩ := Cu.put14 h.1.tb h.2.2.1 (by omega) y0 y1 y2 y3 y4 y5 y6 y7 y8 y9 x0 x1 x2 x3 W' hW
  exact ⟨(h.1.putT b1 k1).off (by omega) k2, (h.2.1.only k1 (fun e => by injection e with e; omega)).only k2 (fun e => by injection e with e; omega), b2, l2⟩
end
theorem Cu.live3 (w W : World) (hN : Nm W) (h : w.grownBy W none) : Calls Tryd.prog 7 #[] W fun e w' => e = .returned (.bool true) ∧ w.grownBy w' none :=
  (Cu.live_any W hN hN.pos).mono fun e w' ⟨e1, b⟩ => ⟨e1, only_trans h ⟨b.os, b.tape, b.output, b.size, fun i hi _ => b.block i hi⟩⟩
theorem Cu.below {w W : World} (h : w.grownBy W none) : Below w.heap.size w W := below_of_only h (Nat.le_refl _) (fun k hk => by cases hk)
theorem Cu.text_re {W : World} {B m g vl x : Nat} {p V q : List UInt8} (hx : x = p.length) (hV : V.length = vl) (hl : p.length + vl + q.length ≤ 16384) (h : MemG W B m g (p ++ V ++ q)) :
    Calls Tryd.prog 12 #[.agg #[.pointer (some ⟨m, 0, none⟩), .int .i64 x, .int .i64 vl]] W fun e w' => e = .returned (.string ⟨V.toArray⟩) ∧ Below W.heap.size W w' := by
  subst hx hV
  exact (Cu.text_any W B m p V q h.mem (by simp only [List.length_append]; exact hl)).mono fun e w' ⟨e1, g⟩ => ⟨e1, Cu.below g⟩
set_option maxHeartbeats 12800000 in
theorem Cu.moves_ok (s : ByteArray) (vl : Nat) (pc md : Int) (r : Nat → Int) (n b : Int) (w : World) (hN : Nm w) (hpc : pc ≤ 9223372036854775807) (bn : 0 ≤ n ∧ n ≤ 255) (bb : 0 ≤ b ∧ b ≤ 65535) (h1 : s.size ≤ 400) (h3 : vl ≤ 400) : Calls Tryd.prog 5 #[.string s, .int .i64 vl, Cu.stV pc r md, .int .u8 n, .int .u16 b] w fun e w' => e = .returned (.bool true) ∧ Below w.heap.size w w' := by
  obtain ⟨x, hx⟩ := Int.eq_ofNat_of_zero_le (show 0 ≤ b % 500 from by omega)
  have hbt : b.tmod 500 = (x : Int) := by rw [Int.tmod_eq_emod_of_nonneg bb.1]; exact hx
  have hx5 : x ≤ 500 := by omega
  obtain ⟨N, hNN⟩ := Int.eq_ofNat_of_zero_le (show 0 ≤ n % 60 from by omega)
  have hnt : n.tmod 60 = (N : Int) := by rw [Int.tmod_eq_emod_of_nonneg bn.1]; exact hNN
  have hN60 : N < 60 := by omega
  have HV1 := Lib.hid (show ∀ W, Calls Tryd.prog 8 #[.string s, .int .i64 300, .int .i64 vl] W fun e w' => ∃ m g v, e = .returned (.tuple #[.pointer (some ⟨m, 0, none⟩), .agg #[.pointer (some ⟨m, 0, none⟩), .int .i64 300, .int .i64 vl], v]) ∧ MemG w' W.heap.size m g (Cu.z 300 ++ Cu.v0 s vl ++ Cu.z (1000 - 300 - vl)) ∧ Below W.heap.size W w' from Cu.view_any s 300 vl h1 (by omega) (by omega))
  have HV2 := Lib.hid (show ∀ W, Calls Tryd.prog 8 #[.string s, .int .i64 x, .int .i64 vl] W fun e w' => ∃ m g v, e = .returned (.tuple #[.pointer (some ⟨m, 0, none⟩), .agg #[.pointer (some ⟨m, 0, none⟩), .int .i64 x, .int .i64 vl], v]) ∧ MemG w' W.heap.size m g (Cu.z x ++ Cu.v0 s vl ++ Cu.z (1000 - x - vl)) ∧ Below W.heap.size W w' from Cu.view_any s x vl h1 hx5 (by omega))
  have s4 : (s.size : Int) ≤ 400 := by omega
  have s5 : (vl : Int) ≤ 400 := by omega
  have HS1 := Lib.hid (fun m g B j W => Cu.step_f (Cu.v0 s vl) pc md r (Cu.z 300) (Cu.z (1000 - 300 - vl)) vl (Cu.v0_len _ _) (by rw [Cu.z_len, Cu.z_len]; omega) hpc B m g 300 (by rw [Cu.z_len]; rfl) j W)
  have HS2 := Lib.hid (fun m g B j W => Cu.step_f (Cu.v0 s vl) pc md r (Cu.z x) (Cu.z (1000 - x - vl)) vl (Cu.v0_len _ _) (by rw [Cu.z_len, Cu.z_len]; omega) hpc B m g x (by rw [Cu.z_len]) j W)
  have HVL := Lib.hid (fun j => show (Cu.stN (Cu.v0 s vl) pc r md j).v.length = vl from (Cu.stN_len _ _ _ _ j).trans (Cu.v0_len _ _))
  have HF0 := Lib.hid (show Cu.stN (Cu.v0 s vl) pc r md 0 = ⟨Cu.v0 s vl, pc, r, md, 0, 0, 0, 0⟩ from rfl)
  generalize Cu.stN (Cu.v0 s vl) pc r md = f at HS1 HS2 HF0 HVL
  have HP1 := Lib.hid (Cu.z_len 300)
  have HP2 := Lib.hid (Cu.z_len x)
  have HQ1 := Lib.hid (Cu.z_len (1000 - 300 - vl))
  have HQ2 := Lib.hid (Cu.z_len (1000 - x - vl))
  generalize Cu.v0 s vl = V at *
  generalize Cu.z 300 = p1 at *
  generalize Cu.z x = p2 at *
  generalize Cu.z (1000 - 300 - vl) = q1 at *
  generalize Cu.z (1000 - x - vl) = q2 at *
  clear hx hNN
  obtain ⟨W0, hW0, g0, hB0⟩ := ibox w 24 (Cu.stC pc r md)
  have z0 : W0.heap.size = w.heap.size + 1 := by rw [hW0]; simp
  have HB0 := Lib.hid hB0
  have HG0 := Lib.hid g0
  have HZ0 := Lib.hid z0
  have HN0 := Lib.hid (hN.grown g0 (by simp))
  have HNw := Lib.hid hN
  clear hB0 g0 z0 hN
  unfold Cu.stV
  unfold Cu.stC at hW0 HB0 ⊢
  go_enter Tryd.func5, Tryd.ntmps5
  go_upto_region 1 with (fail)
  rw [← hW0]
  obtain ⟨bs, hbs⟩ : ∃ bs, bs = w.heap.size := ⟨_, rfl⟩
  rw [← hbs] at HB0 ⊢
  have HBS := Lib.hid hbs
  clear hW0 hbs
  go_upto_region 5 with (first
    | (go_at_call 8; (with_reducible refine (HV1.out _).mono ?_); rintro e w1 ⟨m1, g1, v1, rfl, hm1, b1⟩; have HM1 := Lib.hid hm1; have HB1 := Lib.hid b1; clear hm1 b1)
    | (go_at_call 8; (with_reducible refine (HV2.out _).mono ?_); rintro e w2 ⟨m2, g2, v2, rfl, hm2, b2⟩; have HM2 := Lib.hid hm2; have HB2 := Lib.hid b2; clear hm2 b2))
  -- all boxes but t's
  have HPRE := Lib.hid (Cu.pre (bs := bs) (n2 := (x : Int)) HB0.out HBS.out HZ0.out HG0.out HM1.out HB1.out HM2.out HB2.out)
  obtain ⟨bv, hbv⟩ : ∃ bv, bv = w1.heap.size := ⟨_, rfl⟩
  obtain ⟨bw, hbw⟩ : ∃ bw, bw = w2.heap.size := ⟨_, rfl⟩
  obtain ⟨W4, hW4⟩ : ∃ W4, W4 = w2.alloc (.cells #[.pointer (some ⟨m2, 0, none⟩), .int .i64 x, .int .i64 vl] 28) := ⟨_, rfl⟩
  rw [← hW4, ← hbv, ← hbw] at HPRE ⊢
  clear hW4 hbv hbw HM1 HB1 HM2 HB2 HB0
  obtain ⟨k0, k1, k2, k3, k4, k5, k6, k7, k8, k9⟩ := Cu.cells10 HPRE.out.1
  go_upto_region 6 with (fail)
  have HMV := Lib.hid (Cu.start HPRE.out HNw.out HF0.out)
  obtain ⟨bt, hbt2⟩ : ∃ bt, bt = W4.heap.size := ⟨_, rfl⟩
  obtain ⟨W5, hW5⟩ : ∃ W5, W5 = W4.alloc (.cells (Cu.stC pc r md) 24) := ⟨_, rfl⟩
  rw [← hW5, ← hbt2] at HMV
  rw [show W4.alloc (.cells #[.int .i64 pc, .int .i64 (r 0), .int .i64 (r 1), .int .i64 (r 2), .int .i64 (r 3), .int .i64 (r 4), .int .i64 (r 5), .int .i64 (r 6), .int .i64 (r 7), .int .i64 md] 24) = W5 from hW5.symm, ← hbt2]
  clear hW5 hbt2 HPRE k0 k1 k2 k3 k4 k5 k6 k7 k8 k9
  go_wp2
  go_loopw [18] (fun y wr => ∃ j : Nat, y = .int .i64 j ∧ j ≤ N ∧ Hid (Cu.Mv w wr bs m1 g1 bv m2 g2 bw bt p1 q1 p2 q2 300 x vl (f j).v (f j).v (Cu.stC (f j).pc (f j).r (f j).md) (Cu.stC (f j).pc (f j).r (f j).md))) (fun y _ => N - (Go.RowKit.intOf y).toNat)
  case atStart => exact ⟨0, rfl, by omega, HMV⟩
  case round =>
    obtain ⟨j, rfl, hj, HM⟩ := hrel
    clear HMV
    by_cases hjn : j < N
    · have j1 : (j : Int) < (N : Int) := by omega
      have HC := Lib.hid (Cu.round1 HM.out)
      go_upto_region 10 with (fail)
      obtain ⟨bo, hbo⟩ : ∃ bo, bo = wr.heap.size := ⟨_, rfl⟩
      obtain ⟨W6, hW6⟩ : ∃ W6, W6 = (wr.alloc (.cells #[.int .i64 0, .int .i64 0, .int .i64 0, .int .i64 0] 37)).alloc (.cells #[.int .i64 0, .int .i64 0, .int .i64 0, .int .i64 0] 37) := ⟨_, rfl⟩
      rw [← hW6, ← hbo] at HC ⊢
      clear hW6 hbo
      obtain ⟨k0, k1, k2, k3, k4, k5, k6, k7, k8, k9⟩ := Cu.cells10 HC.out.1.sb
      obtain ⟨v0, v1, v2⟩ := in3 HC.out.1.vb
      have HL := Lib.hid HC.out.1.lt
      have HL2 := Lib.hid HC.out.2.2.2
      have e1 : ¬ bs = bo := by have := HL.out; have := HL2.out; omega
      have e2 : ¬ bo = bs := by have := HL.out; have := HL2.out; omega
      have HSA := Lib.hid (HS1.out _ _ _ j _ HC.out.1.me1 HC.out.1.NM)
      go_upto_region 11 with (go_at_call 10; (with_reducible refine HSA.out.mono ?_); rintro e w7 ⟨rfl, hm7, g7⟩; have HD := Lib.hid (Cu.round2 HC.out hm7 g7); clear hm7 g7 k0 k1 k2 k3 k4 k5 k6 k7 k8 k9 v0 v1 v2; obtain ⟨k0, k1, k2, k3, k4, k5, k6, k7, k8, k9⟩ := Cu.cells10 HD.out.1.sb; obtain ⟨f0, f1, f2, f3, f4, f5, f6, f7, f8, f9⟩ := Cu.free10 HD.out.1.sb; obtain ⟨c0, c1, c2, c3⟩ := Cu.cells4 HD.out.2.1; obtain ⟨d0, d1, d2, d3⟩ := Cu.free4 HD.out.2.1)
      clear k0 k1 k2 k3 k4 k5 k6 k7 k8 k9 f0 f1 f2 f3 f4 f5 f6 f7 f8 f9 c0 c1 c2 c3 d0 d1 d2 d3 HC
      obtain ⟨W8, hW8⟩ : ∃ W8, W8 = ((((((((((((((w7.setCell ⟨bs, 0, none⟩ (.int .i64 (f (j + 1)).pc)).setCell ⟨bs, 1, none⟩ (.int .i64 ((f (j + 1)).r 0))).setCell ⟨bs, 2, none⟩ (.int .i64 ((f (j + 1)).r 1))).setCell ⟨bs, 3, none⟩ (.int .i64 ((f (j + 1)).r 2))).setCell ⟨bs, 4, none⟩ (.int .i64 ((f (j + 1)).r 3))).setCell ⟨bs, 5, none⟩ (.int .i64 ((f (j + 1)).r 4))).setCell ⟨bs, 6, none⟩ (.int .i64 ((f (j + 1)).r 5))).setCell ⟨bs, 7, none⟩ (.int .i64 ((f (j + 1)).r 6))).setCell ⟨bs, 8, none⟩ (.int .i64 ((f (j + 1)).r 7))).setCell ⟨bs, 9, none⟩ (.int .i64 (f (j + 1)).md)).setCell ⟨bo, 0, none⟩ (.int .i64 (f (j + 1)).o1)).setCell ⟨bo, 1, none⟩ (.int .i64 (f (j + 1)).o2)).setCell ⟨bo, 2, none⟩ (.int .i64 (f (j + 1)).o3)).setCell ⟨bo, 3, none⟩ (.int .i64 (f (j + 1)).o4)) := ⟨_, rfl⟩
      have HE := Lib.hid (Cu.put_s HD.out (.int .i64 (f (j + 1)).pc) (.int .i64 ((f (j + 1)).r 0)) (.int .i64 ((f (j + 1)).r 1)) (.int .i64 ((f (j + 1)).r 2)) (.int .i64 ((f (j + 1)).r 3)) (.int .i64 ((f (j + 1)).r 4)) (.int .i64 ((f (j + 1)).r 5)) (.int .i64 ((f (j + 1)).r 6)) (.int .i64 ((f (j + 1)).r 7)) (.int .i64 (f (j + 1)).md) (.int .i64 (f (j + 1)).o1) (.int .i64 (f (j + 1)).o2) (.int .i64 (f (j + 1)).o3) (.int .i64 (f (j + 1)).o4) _ hW8)
      rw [← hW8]
      clear hW8 HD e1 e2
      obtain ⟨k0, k1, k2, k3, k4, k5, k6, k7, k8, k9⟩ := Cu.cells10 HE.out.1.tb
      obtain ⟨v0, v1, v2⟩ := in3 HE.out.1.wb
      have e1 : ¬ bt = bo + 1 := by have := HL.out; have := HL2.out; omega
      have e2 : ¬ bo + 1 = bt := by have := HL.out; have := HL2.out; omega
      have HSB := Lib.hid (HS2.out _ _ _ j _ HE.out.1.me2 HE.out.1.NM)
      go_upto_region 12 with (go_at_call 10; (with_reducible refine HSB.out.mono ?_); rintro e w9 ⟨rfl, hm9, g9⟩; have HH := Lib.hid (Cu.round3 HE.out hm9 g9); clear hm9 g9 k0 k1 k2 k3 k4 k5 k6 k7 k8 k9 v0 v1 v2; obtain ⟨k0, k1, k2, k3, k4, k5, k6, k7, k8, k9⟩ := Cu.cells10 HH.out.1.tb; obtain ⟨f0, f1, f2, f3, f4, f5, f6, f7, f8, f9⟩ := Cu.free10 HH.out.1.tb; obtain ⟨c0, c1, c2, c3⟩ := Cu.cells4 HH.out.2.2.1; obtain ⟨d0, d1, d2, d3⟩ := Cu.free4 HH.out.2.2.1)
      clear k0 k1 k2 k3 k4 k5 k6 k7 k8 k9 f0 f1 f2 f3 f4 f5 f6 f7 f8 f9 c0 c1 c2 c3 d0 d1 d2 d3 HE
      obtain ⟨W10, hW10⟩ : ∃ W10, W10 = ((((((((((((((w9.setCell ⟨bt, 0, none⟩ (.int .i64 (f (j + 1)).pc)).setCell ⟨bt, 1, none⟩ (.int .i64 ((f (j + 1)).r 0))).setCell ⟨bt, 2, none⟩ (.int .i64 ((f (j + 1)).r 1))).setCell ⟨bt, 3, none⟩ (.int .i64 ((f (j + 1)).r 2))).setCell ⟨bt, 4, none⟩ (.int .i64 ((f (j + 1)).r 3))).setCell ⟨bt, 5, none⟩ (.int .i64 ((f (j + 1)).r 4))).setCell ⟨bt, 6, none⟩ (.int .i64 ((f (j + 1)).r 5))).setCell ⟨bt, 7, none⟩ (.int .i64 ((f (j + 1)).r 6))).setCell ⟨bt, 8, none⟩ (.int .i64 ((f (j + 1)).r 7))).setCell ⟨bt, 9, none⟩ (.int .i64 (f (j + 1)).md)).setCell ⟨bo + 1, 0, none⟩ (.int .i64 (f (j + 1)).o1)).setCell ⟨bo + 1, 1, none⟩ (.int .i64 (f (j + 1)).o2)).setCell ⟨bo + 1, 2, none⟩ (.int .i64 (f (j + 1)).o3)).setCell ⟨bo + 1, 3, none⟩ (.int .i64 (f (j + 1)).o4)) := ⟨_, rfl⟩
      have HI := Lib.hid (Cu.put_t HH.out (.int .i64 (f (j + 1)).pc) (.int .i64 ((f (j + 1)).r 0)) (.int .i64 ((f (j + 1)).r 1)) (.int .i64 ((f (j + 1)).r 2)) (.int .i64 ((f (j + 1)).r 3)) (.int .i64 ((f (j + 1)).r 4)) (.int .i64 ((f (j + 1)).r 5)) (.int .i64 ((f (j + 1)).r 6)) (.int .i64 ((f (j + 1)).r 7)) (.int .i64 (f (j + 1)).md) (.int .i64 (f (j + 1)).o1) (.int .i64 (f (j + 1)).o2) (.int .i64 (f (j + 1)).o3) (.int .i64 (f (j + 1)).o4) _ hW10)
      rw [← hW10]
      clear hW10 HH e1 e2
      obtain ⟨k0, k1, k2, k3, k4, k5, k6, k7, k8, k9⟩ := Cu.cells10 HI.out.1.sb
      obtain ⟨t0, t1, t2, t3, t4, t5, t6, t7, t8, t9⟩ := Cu.cells10 HI.out.1.tb
      obtain ⟨c0, c1, c2, c3⟩ := Cu.cells4 HI.out.2.1
      obtain ⟨d0, d1, d2, d3⟩ := Cu.cells4 HI.out.2.2.1
      have hq1 : ∀ W, (binOp BinOp.neq 24 (.agg #[.int .i64 (f (j + 1)).pc, .int .i64 ((f (j + 1)).r 0), .int .i64 ((f (j + 1)).r 1), .int .i64 ((f (j + 1)).r 2), .int .i64 ((f (j + 1)).r 3), .int .i64 ((f (j + 1)).r 4), .int .i64 ((f (j + 1)).r 5), .int .i64 ((f (j + 1)).r 6), .int .i64 ((f (j + 1)).r 7), .int .i64 (f (j + 1)).md]) (.agg #[.int .i64 (f (j + 1)).pc, .int .i64 ((f (j + 1)).r 0), .int .i64 ((f (j + 1)).r 1), .int .i64 ((f (j + 1)).r 2), .int .i64 ((f (j + 1)).r 3), .int .i64 ((f (j + 1)).r 4), .int .i64 ((f (j + 1)).r 5), .int .i64 ((f (j + 1)).r 6), .int .i64 ((f (j + 1)).r 7), .int .i64 (f (j + 1)).md])).run Tryd.prog W = .ok (.bool false) W := fun W => Cu.neq_st _ _ _ W
      have hq2 : ∀ W, (binOp BinOp.neq 37 (.agg #[.int .i64 (f (j + 1)).o1, .int .i64 (f (j + 1)).o2, .int .i64 (f (j + 1)).o3, .int .i64 (f (j + 1)).o4]) (.agg #[.int .i64 (f (j + 1)).o1, .int .i64 (f (j + 1)).o2, .int .i64 (f (j + 1)).o3, .int .i64 (f (j + 1)).o4])).run Tryd.prog W = .ok (.bool false) W := fun W => Cu.neq_out _ _ _ _ W
      go_wp2
      go_roundw
      case rel => exact ⟨j + 1, by go_num, by omega, Lib.hid HI.out.1⟩
      case measure => simp [Go.RowKit.intOf]; omega
    · have hje : j = N := by omega
      subst hje
      have j1 : ¬ (j : Int) < (j : Int) := by omega
      obtain ⟨v0, v1, v2⟩ := in3 HM.out.vb
      obtain ⟨u0, u1, u2⟩ := in3 HM.out.wb
      go_upto_region 14 with (fail)
      have v0r := fun d os => cell_regrown v0 d os
      have v1r := fun d os => cell_regrown v1 d os
      have v2r := fun d os => cell_regrown v2 d os
      have u0r := fun d os => cell_regrown u0 d os
      have u1r := fun d os => cell_regrown u1 d os
      have u2r := fun d os => cell_regrown u2 d os
      have HT1 := Lib.hid (fun (d : Nat) (os : Array Obj) => Cu.text_re (p := p1) (q := q1) (x := 300) HP1.out.symm (HVL.out j) (show p1.length + vl + q1.length ≤ 16384 by rw [HP1.out, HQ1.out]; omega) (HM.out.grown (Cu.grow_of (below_regrown wr d os))).me1)
      have HT2 := Lib.hid (fun (d : Nat) (os : Array Obj) => Cu.text_re (p := p2) (q := q2) (x := x) HP2.out.symm (HVL.out j) (show p2.length + vl + q2.length ≤ 16384 by rw [HP2.out, HQ2.out]; omega) (HM.out.grown (Cu.grow_of (below_regrown wr d os))).me2)
      have HL := Lib.hid (fun (d : Nat) (os : Array Obj) => Cu.live_any (grow (redrawn wr d) os) ((HM.out.grown (Cu.grow_of (below_regrown wr d os))).NM) ((HM.out.grown (Cu.grow_of (below_regrown wr d os))).NM.pos))
      have HGR := Lib.hid HM.out.gr
      generalize (⟨(f j).v.toArray⟩ : ByteArray) = tx at HT1 HT2
      clear v0 v1 v2 u0 u1 u2
      refine wp_region_quiet_below (by kernel_rfl) (by kernel_rfl) ?_
      repeat (quiet_step ((first
        | (go_at_call 7; with_reducible exact Calls.regrown_of (HL.out _ _))
        | (go_at_call 12; with_reducible exact Calls.regrown_of (HT1.out _ _))
        | (go_at_call 12; with_reducible exact Calls.regrown_of (HT2.out _ _)))))
      refine wpQuiet_nil ?_
      rintro _ ⟨⟨dq, osq⟩, rfl⟩
      have HBE := Lib.hid (only_trans HGR.out (Cu.grow_of (below_regrown wr dq osq)))
      clear v0r v1r v2r u0r u1r u2r HT1 HT2 HL
      generalize grow (redrawn wr dq) osq = wz at HBE ⊢
      go_wp2
      go_ret
      exact ⟨by first | rfl | simp, Cu.below HBE.out⟩

end Go.Proofs.YtpolkioaagahhaaDoor

/- The document's words for package cpu: word, breaks, made; a state for the document's. -/
namespace Go.Proofs.YtpolkioaagahhaaDoor
open Go.RowKit Go.Lib
set_option linter.unusedVariables false
set_option maxRecDepth 8000

theorem Cu.word_any (n : Int) (w : World) : Calls Tryd.prog 28 #[.int .i64 n] w fun e w' => e = .returned (.int .i64 (n % 65536)) ∧ w = w' := by
  have HE := Lib.hid (show n % 256 + 256 * (n / 256 % 256) = n % 65536 from by omega)
  have b0 : 0 ≤ n / 256 % 256 := by omega
  have b1 : n / 256 % 256 < 256 := by omega
  go_enter Tryd.func28, Tryd.ntmps28
  go_wp2_with (first
    | (go_at_call 38; (with_reducible refine (rlow_any _ _).mono ?_); rintro e w' ⟨rfl, rfl⟩)
    | (go_at_call 49; (with_reducible refine (rhigh_any _ _).mono ?_); rintro e w' ⟨rfl, rfl⟩))
  go_ret
  exact ⟨ret_int HE.out, rfl⟩
theorem Cu.breaks_any (pc md e : Int) (r : Nat → Int) (w : World) : Calls Tryd.prog 30 #[.agg #[.int .i64 pc, .int .i64 (r 0), .int .i64 (r 1), .int .i64 (r 2), .int .i64 (r 3), .int .i64 (r 4), .int .i64 (r 5), .int .i64 (r 6), .int .i64 (r 7), .int .i64 md], .int .i64 e] w fun x w' => x = .returned (.tuple #[.agg #[.int .i64 pc, .int .i64 (r 0), .int .i64 (r 1), .int .i64 (r 2), .int .i64 (r 3), .int .i64 (r 4), .int .i64 (r 5), .int .i64 (r 6), .int .i64 (r 7), .int .i64 3], .agg #[.int .i64 5, .int .i64 0, .int .i64 0, .int .i64 e]]) ∧ w.grownBy w' none := by
  go_enter Tryd.func30, Tryd.ntmps30
  go_wp2
  refine bodyPost_ret (v := .tuple #[.agg #[.int .i64 pc, .int .i64 (r 0), .int .i64 (r 1), .int .i64 (r 2), .int .i64 (r 3), .int .i64 (r 4), .int .i64 (r 5), .int .i64 (r 6), .int .i64 (r 7), .int .i64 3], .agg #[.int .i64 5, .int .i64 0, .int .i64 0, .int .i64 e]]) (by simp [results, Tryd.results30, go_sem]) rfl ⟨rfl, ?_⟩
  repeat (first | exact only_refl _ _ | refine only_alloc ?_ _)
theorem Cu.made21_any (k : Nat) (x y n : Int) (hk : k = 3 ∨ k = 4 ∨ k = 5 ∨ k = 6) (hx : 0 ≤ x ∧ x < 65536) (hy : 0 ≤ y ∧ y < 65536) (w : World) : Calls Tryd.prog 32 #[.int .u8 k, .int .i64 x, .int .i64 y] w fun e w' => e = .returned (.int .i64 (Cu.mkV k n x y)) ∧ w = w' := by
  obtain ⟨x0, x1⟩ := hx
  obtain ⟨y0, y1⟩ := hy
  rcases hk with rfl | rfl | rfl | rfl
  all_goals
    go_enter Tryd.func32, Tryd.ntmps32
    go_wp2_with (go_at_call 28; (with_reducible refine (Cu.word_any _ _).mono ?_); rintro e w' ⟨rfl, rfl⟩)
    go_ret
    exact ⟨rfl, rfl⟩
theorem Cu.ref_any (pc md : Int) (r : Nat → Int) (w : World) : Calls Tryd.prog 9 #[.agg #[.int .i64 pc, .int .i64 (r 0), .int .i64 (r 1), .int .i64 (r 2), .int .i64 (r 3), .int .i64 (r 4), .int .i64 (r 5), .int .i64 (r 6), .int .i64 (r 7), .int .i64 md]] w fun x w' => x = .returned (.agg #[.int .i64 pc, .int .i64 (r 0), .int .i64 (r 1), .int .i64 (r 2), .int .i64 (r 3), .int .i64 (r 4), .int .i64 (r 5), .int .i64 (r 6), .int .i64 (r 7), .int .i64 md]) ∧ w.grownBy w' none := by
  go_enter Tryd.func9, Tryd.ntmps9
  go_wp2
  refine bodyPost_ret (v := .agg #[.int .i64 pc, .int .i64 (r 0), .int .i64 (r 1), .int .i64 (r 2), .int .i64 (r 3), .int .i64 (r 4), .int .i64 (r 5), .int .i64 (r 6), .int .i64 (r 7), .int .i64 md]) (by simp [results, Tryd.results9, go_sem]) rfl ⟨rfl, ?_⟩
  repeat (first | exact only_refl _ _ | refine only_alloc ?_ _)
set_option maxHeartbeats 3200000 in
theorem Cu.rstep_off (b : Value) (pc md : Int) (r : Nat → Int) (hmd : md ≠ 0) (w : World) : Calls Tryd.prog 11 #[b, .agg #[.int .i64 pc, .int .i64 (r 0), .int .i64 (r 1), .int .i64 (r 2), .int .i64 (r 3), .int .i64 (r 4), .int .i64 (r 5), .int .i64 (r 6), .int .i64 (r 7), .int .i64 md]] w fun x w' => x = .returned (.tuple #[b, .agg #[.int .i64 pc, .int .i64 (r 0), .int .i64 (r 1), .int .i64 (r 2), .int .i64 (r 3), .int .i64 (r 4), .int .i64 (r 5), .int .i64 (r 6), .int .i64 (r 7), .int .i64 md], .agg #[.int .i64 0, .int .i64 0, .int .i64 0, .int .i64 0]]) ∧ w.grownBy w' none := by
  have h1 : (md == 0) = false := by simpa using hmd
  have h2 : (md != 0) = true := by simpa using hmd
  go_enter Tryd.func11, Tryd.ntmps11
  go_upto_region 2 with (fail)
  go_region_with (fail)
  go_wp2
  refine bodyPost_ret (v := .tuple #[b, .agg #[.int .i64 pc, .int .i64 (r 0), .int .i64 (r 1), .int .i64 (r 2), .int .i64 (r 3), .int .i64 (r 4), .int .i64 (r 5), .int .i64 (r 6), .int .i64 (r 7), .int .i64 md], .agg #[.int .i64 0, .int .i64 0, .int .i64 0, .int .i64 0]]) (by simp [results, Tryd.results11, go_sem]) rfl ⟨rfl, ?_⟩
  first | exact only_drewN (only_alloc (only_alloc (only_alloc (only_refl _ _) _) _) _) 1 | (repeat (first | exact only_refl _ _ | refine only_alloc ?_ _))
end Go.Proofs.YtpolkioaagahhaaDoor

/- Sorted rows are one and the same; Total; what every law of package span asks first. -/
namespace Go.Proofs.YtpolkioaagahhaaDoor
open Go.RowKit Go.Lib Go.Sort
set_option linter.unusedVariables false

namespace So
def lst (n : Nat) (d : Nat → P2) : List P2 := (List.range n).map d
theorem lst_perm {n : Nat} {d e : Nat → P2} (h : Perm 0 n d e) : (lst n e).Perm (lst n d) := by
  obtain ⟨s, t, h1, h2, h3, h4⟩ := h
  have hs : ∀ k, k < n → s k < n := fun k hk => by
    rcases Nat.lt_or_ge (s k) n with h | h
    · exact h
    · have := h3 (s k) (by omega)
      have e2 := h1 (s k)
      rw [this] at e2
      have e1 := h1 k
      rw [e1] at e2
      omega
  have ht : ∀ k, k < n → t k < n := fun k hk => by
    rcases Nat.lt_or_ge (t k) n with h | h
    · exact h
    · have := h3 (t k) (by omega)
      rw [h2] at this
      omega
  have hp : ((List.range n).map s).Perm (List.range n) := by
    refine (List.perm_ext_iff_of_nodup ?_ List.nodup_range).2 fun a => ?_
    · refine List.Pairwise.map _ ?_ (List.nodup_range (n := n))
      intro a b hab e
      exact hab (by rw [← h1 a, ← h1 b, e])
    · simp only [List.mem_map, List.mem_range]
      exact ⟨fun ⟨k, hk, e⟩ => e ▸ hs k hk, fun hk => ⟨t a, ht a hk, h2 a⟩⟩
  have he : lst n e = ((List.range n).map s).map d := by
    unfold lst
    rw [List.map_map]
    apply List.map_congr_left
    intro k _
    exact h4 k
  rw [he]
  exact hp.map d
theorem lst_sorted {n : Nat} {d : Nat → P2} (h : Sorted d 0 n) : (lst n d).Pairwise le := by
  unfold lst
  rw [List.pairwise_map]
  have := List.pairwise_lt_range (n := n)
  refine this.imp_of_mem ?_
  intro a b ha hb hab
  exact h a b (by omega) hab (List.mem_range.1 hb)
theorem sorted_one {n : Nat} {d e f : Nat → P2} (he : Perm 0 n d e) (hf : Perm 0 n d f) (se : Sorted e 0 n) (sf : Sorted f 0 n) : ∀ k, k < n → e k = f k := by
  have hl : lst n e = lst n f := List.Perm.eq_of_pairwise (fun a b _ _ h k => le_antisymm h k) (lst_sorted se) (lst_sorted sf) ((lst_perm he).trans (lst_perm hf).symm)
  intro k hk
  have h1 : (lst n e)[k]? = some (e k) := by simp [lst, hk]
  have h2 : (lst n f)[k]? = some (f k) := by simp [lst, hk]
  rw [hl, h2] at h1
  injection h1 with h1
  exact h1.symm
end So
theorem mTo_ext {d e : Nat → Int × Int} {n : Nat} (h : ∀ k, k < n → d k = e k) : mTo d n = mTo e n := by
  induction n with
  | zero => rfl
  | succ n ih =>
    show mStep _ _ _ = mStep _ _ _
    rw [ih (fun k hk => h k (by omega)), h n (by omega)]

/-- How many places n spans have, as1 the text adds them up. -/
def tTo (o : Nat → Int × Int) : Nat → Int
  | 0 => 0
  | k + 1 => wrap64 (tTo o k + wrap64 ((o k).2 - (o k).1))

def TotalV (B n : Nat) (d : Nat → Int × Int) (w : World) (e : Ending) (w' : World) : Prop :=
  ∃ d', e = .returned (.int .i64 (tTo (mTo d' n).2 (mTo d' n).1)) ∧ So.Perm 0 n d d' ∧ So.Sorted d' 0 n ∧ Below B w w'

/-- The short trial's spans, and those in order. -/
def L0 : Nat → Int × Int := fun k => if k = 0 then (5, 7) else if k = 1 then (1, 3) else (3, 4)
theorem L0_sorted {d' : Nat → Int × Int} (hp : So.Perm 0 3 L0 d') (hs : So.Sorted d' 0 3) : mTo d' 3 = mTo (fun k => if k = 0 then (1, 3) else if k = 1 then (3, 4) else (5, 7)) 3 := by
  have p2 : So.Perm 0 3 L0 (So.swp (So.swp L0 0 1) 1 2) := (So.Perm.swp L0 ⟨by omega, by omega⟩ ⟨by omega, by omega⟩).trans (So.Perm.swp _ ⟨by omega, by omega⟩ ⟨by omega, by omega⟩)
  have q : ∀ k, k < 3 → So.swp (So.swp L0 0 1) 1 2 k = (fun k => if k = 0 then ((1, 3) : Int × Int) else if k = 1 then (3, 4) else (5, 7)) k := by
    intro k hk
    match k, hk with
    | 0, _ => rfl
    | 1, _ => rfl
    | 2, _ => rfl
  have s2 : So.Sorted (So.swp (So.swp L0 0 1) 1 2) 0 3 := by
    intro a b _ h1 h2
    have : (a = 0 ∧ b = 1) ∨ (a = 0 ∧ b = 2) ∨ (a = 1 ∧ b = 2) := by omega
    rcases this with ⟨rfl, rfl⟩ | ⟨rfl, rfl⟩ | ⟨rfl, rfl⟩
    · unfold So.le So.lt; rw [q 0 (by omega), q 1 (by omega)]; simp
    · unfold So.le So.lt; rw [q 0 (by omega), q 2 (by omega)]; simp
    · unfold So.le So.lt; rw [q 1 (by omega), q 2 (by omega)]; simp
  exact mTo_ext fun k hk => (So.sorted_one hp p2 hs s2 k hk).trans (q k hk)

def L1 : Nat → Int × Int := (mTo (fun k => if k = 0 then (1, 3) else if k = 1 then (3, 4) else (5, 7)) 3).2
theorem L1_n : (mTo (fun k => if k = 0 then ((1, 3) : Int × Int) else if k = 1 then (3, 4) else (5, 7)) 3).1 = 2 := by decide
theorem L1_0 : L1 0 = (1, 4) := by decide
theorem L1_1 : L1 1 = (5, 7) := by decide
theorem L1_total {d' : Nat → Int × Int} (hp : So.Perm 0 2 L1 d') (hs : So.Sorted d' 0 2) : tTo (mTo d' 2).2 (mTo d' 2).1 = 5 := by
  have s2 : So.Sorted L1 0 2 := by
    intro a b _ h1 h2
    obtain ⟨rfl, rfl⟩ : a = 0 ∧ b = 1 := by omega
    unfold So.le So.lt; rw [L1_0, L1_1]; simp
  have h : mTo d' 2 = mTo (fun k => if k = 0 then ((1, 4) : Int × Int) else (5, 7)) 2 := mTo_ext fun k hk => (So.sorted_one hp (So.Perm.refl _ _ _) hs s2 k hk).trans (by
    match k, hk with
    | 0, _ => exact L1_0
    | 1, _ => exact L1_1)
  rw [h]
  decide +kernel

def LiveM (B : Nat) (w : World) (e : Ending) (w' : World) : Prop := ∃ g cap, e = .returned (.slice (some ⟨g, 0, none⟩) 2 cap) ∧ RowS w' g 2 cap L1 ∧ Below B w w'

end Go.Proofs.YtpolkioaagahhaaDoor

/- Meet, Holds, In, and the document's answers for them: their contracts. -/
namespace Go.Proofs.YtpolkioaagahhaaDoor
open Go.RowKit Go.Lib Go.Sort
set_option linter.unusedVariables false

def isB (p : Int × Int) : Bool := decide (0 ≤ p.1 ∧ p.1 < p.2)
def holdsB (p : Int × Int) (k : Int) : Bool := decide (0 ≤ p.1 ∧ p.1 ≤ k ∧ k < p.2)
def inB (p : Int × Int) (n : Int) : Bool := decide (0 ≤ p.1 ∧ p.1 < p.2 ∧ p.2 ≤ n)
def meetsB (a b : Int × Int) : Bool := isB a && isB b && (holdsB a b.1 || holdsB b a.1)
def bothOf (a b : Int × Int) : Int × Int := (if a.1 < b.1 then b.1 else a.1, if b.2 < a.2 then b.2 else a.2)
def meetV (a b : Int × Int) : Int × Int := if meetsB a b then bothOf a b else (0, 0)

theorem is_any (p : Int × Int) (w : World) : Calls Tryd.prog 51 #[spv p] w fun e w' => e = .returned (.bool (isB p)) ∧ w.grownBy w' none := by
  by_cases h : 0 ≤ p.1 ∧ p.1 < p.2
  · have e : isB p = true := by simp [isB, h]
    rw [e]; exact is_yes p w h.1 h.2
  · have e : isB p = false := by simp [isB]; omega
    rw [e]; exact is_no p w h

/-- The two boxed spans of a call, in a world behind calls that lay blocks alone. -/
theorem boxes {w w2 : World} {p q : Int × Int} (g : ((w.alloc (.cells #[.int .i64 p.1, .int .i64 p.2] 49)).alloc (.cells #[.int .i64 q.1, .int .i64 q.2] 49)).grownBy w2 none) :
    w2.cell? ⟨w.heap.size, 0, none⟩ = some (.int .i64 p.1) ∧ w2.cell? ⟨w.heap.size, 1, none⟩ = some (.int .i64 p.2) ∧ w2.cell? ⟨w.heap.size + 1, 0, none⟩ = some (.int .i64 q.1) ∧ w2.cell? ⟨w.heap.size + 1, 1, none⟩ = some (.int .i64 q.2) := by
  have h1 := ((Blk.new w 49 #[.int .i64 p.1, .int .i64 p.2]).alloc (.cells #[.int .i64 q.1, .int .i64 q.2] 49)).only g (by simp)
  have h2 := (Blk.new (w.alloc (.cells #[.int .i64 p.1, .int .i64 p.2] 49)) 49 #[.int .i64 q.1, .int .i64 q.2]).only g (by simp)
  refine ⟨h1.cell 0, h1.cell 1, ?_, ?_⟩
  · simpa using h2.cell 0
  · simpa using h2.cell 1

end Go.Proofs.YtpolkioaagahhaaDoor

/- Meet: its contract; what it has to do with the document's answer. -/
namespace Go.Proofs.YtpolkioaagahhaaDoor
open Go.RowKit Go.Lib Go.Sort
set_option linter.unusedVariables false

theorem meets_iff (a b : Int × Int) : meetsB a b = (isB a && isB b && isB (bothOf a b)) := by
  obtain ⟨a1, a2⟩ := a
  obtain ⟨b1, b2⟩ := b
  rw [Bool.eq_iff_iff]
  by_cases h1 : a1 < b1 <;> by_cases h2 : b2 < a2 <;> simp only [meetsB, isB, holdsB, bothOf, Bool.and_eq_true, Bool.or_eq_true, decide_eq_true_eq, h1, h2, if_true, if_false] <;> omega
theorem holds_meet (a b : Int × Int) (k : Int) : holdsB (meetV a b) k = (holdsB a k && holdsB b k) := by
  obtain ⟨a1, a2⟩ := a
  obtain ⟨b1, b2⟩ := b
  rw [Bool.eq_iff_iff]
  by_cases h : meetsB (a1, a2) (b1, b2) = true
  · have h' := h
    simp only [meetsB, isB, holdsB, Bool.and_eq_true, Bool.or_eq_true, decide_eq_true_eq] at h'
    by_cases h1 : a1 < b1 <;> by_cases h2 : b2 < a2 <;> simp only [meetV, h, holdsB, bothOf, Bool.and_eq_true, decide_eq_true_eq, h1, h2, if_true, if_false] <;> omega
  · have h' := h
    simp only [meetsB, isB, holdsB, Bool.and_eq_true, Bool.or_eq_true, decide_eq_true_eq] at h'
    simp only [meetV, h, holdsB, Bool.and_eq_true, decide_eq_true_eq, if_false, Bool.false_eq_true]
    omega

theorem boxes3 {w w2 : World} {p q : Int × Int} (g : (((w.alloc (.cells #[.int .i64 p.1, .int .i64 p.2] 49)).alloc (.cells #[.int .i64 q.1, .int .i64 q.2] 49)).alloc (.cells #[.int .i64 0, .int .i64 0] 49)).grownBy w2 none) :
    w2.cell? ⟨w.heap.size, 0, none⟩ = some (.int .i64 p.1) ∧ w2.cell? ⟨w.heap.size, 1, none⟩ = some (.int .i64 p.2) ∧ w2.cell? ⟨w.heap.size + 1, 0, none⟩ = some (.int .i64 q.1) ∧ w2.cell? ⟨w.heap.size + 1, 1, none⟩ = some (.int .i64 q.2) ∧
    w2.cell? ⟨w.heap.size + 1 + 1, 0, none⟩ = some (.int .i64 0) ∧ w2.cell? ⟨w.heap.size + 1 + 1, 1, none⟩ = some (.int .i64 0) ∧ w2.frozen? ⟨w.heap.size + 1 + 1, 0, none⟩ = false ∧ w2.frozen? ⟨w.heap.size + 1 + 1, 1, none⟩ = false := by
  have h1 := (((Blk.new w 49 #[.int .i64 p.1, .int .i64 p.2]).alloc (.cells #[.int .i64 q.1, .int .i64 q.2] 49)).alloc (.cells #[.int .i64 0, .int .i64 0] 49)).only g (by simp)
  have h2 := ((Blk.new (w.alloc (.cells #[.int .i64 p.1, .int .i64 p.2] 49)) 49 #[.int .i64 q.1, .int .i64 q.2]).alloc (.cells #[.int .i64 0, .int .i64 0] 49)).only g (by simp)
  have h3 := (Blk.new ((w.alloc (.cells #[.int .i64 p.1, .int .i64 p.2] 49)).alloc (.cells #[.int .i64 q.1, .int .i64 q.2] 49)) 49 #[.int .i64 0, .int .i64 0]).only g (by simp)
  refine ⟨h1.cell 0, h1.cell 1, ?_, ?_, ?_, ?_, ?_, ?_⟩
  · simpa using h2.cell 0
  · simpa using h2.cell 1
  · simpa using h3.cell 0
  · simpa using h3.cell 1
  · simpa using h3.free 0
  · simpa using h3.free 1

/-- Only blocks from B on were written. -/
theorem only_far {a w : World} (h : Below a.heap.size a w) : a.grownBy w none := ⟨h.os, h.tape, h.output, h.size, fun i hi _ => h.block i hi⟩

end Go.Proofs.YtpolkioaagahhaaDoor

/- A deed that writes, done to the memory and to the document's: the contract of the law's own 'wrote'. -/
namespace Go.Proofs.YtpolkioaagahhaaDoor
open Go.RowKit Go.Lib Go.Sort
set_option linter.unusedVariables false

/-- What the numbers lie in is not the memory's row of bytes. -/
def Off (A : Option Addr) (g : Nat) : Prop := ∀ b off, A = some ⟨b, off, none⟩ → b ≠ g
theorem Ints.far {w w' : World} {A : Option Addr} {cap g : Nat} {l : List Int} (h : Ints w A cap l) (hb : w.grownBy w' (some g)) (ho : Off A g) : Ints w' A cap l := by
  refine ⟨h.1, fun hp => ?_⟩
  obtain ⟨b, off, h1, h2, h3⟩ := h.2 hp
  refine ⟨b, off, h1, Nat.lt_of_lt_of_le h2 hb.size, fun i hi => ?_⟩
  have e := hb.block b h2 (fun e => ho b off h1 (by injection e))
  rw [← h3 i hi]
  simp [World.cell?, e]
/-- The same, where there is anything. -/
def OffI (l : List UInt8) (A : Option Addr) (g : Nat) : Prop := 0 < l.length → Off A g
theorem Ints.farI {w w' : World} {A : Option Addr} {cap g : Nat} {l : List UInt8} (h : Ints w A cap (num l)) (hb : w.grownBy w' (some g)) (ho : OffI l A g) : Ints w' A cap (num l) := by
  refine ⟨h.1, fun hp => ?_⟩
  exact (h.far hb (ho (by rw [num_len] at hp; exact hp))).2 hp
theorem OwnN.off {w : World} {B g n c : Nat} {A : Option Addr} {l : List Int} (h : OwnN w B (.slice A n c) l) (hg : g < B) : Off A g := fun b off e => by
  subst e
  have := h.blk b rfl
  omega

theorem off_new {k g : Nat} (h : g < k) : Off (some ⟨k, 0, none⟩) g := fun b off e => by
  injection e with e
  injection e with e1 e2
  omega
theorem two_ints (w : World) (x y : Int) : Ints (w.alloc (.cells #[.int .i64 x, .int .i64 y] 3)) (some ⟨w.heap.size, 0, none⟩) 2 [x, y] :=
  ⟨fun e => (by cases e), fun _ => ⟨w.heap.size, 0, rfl, (Blk.new w _ _).lt, fun i hi => by
    match i, hi with
    | 0, _ => exact (Blk.new w 3 #[.int .i64 x, .int .i64 y]).cell 0
    | 1, _ => exact (Blk.new w 3 #[.int .i64 x, .int .i64 y]).cell 1⟩⟩

/-- The bytes that a deed writes. -/
def bsOf (d n : Int) (t : ByteArray) : List UInt8 := if d = 0 then [low8 n] else if d = 1 then [low8 n, low8 (n / 256)] else t.data.toList
/-- A memory behind such a deed. -/
def wroteL (l : List UInt8) (at' : Int) (bs : List UInt8) : List UInt8 := if thereB l.length at' bs.length = true then over l at'.toNat bs else l
theorem there_fit {len : Nat} {at' n : Int} (h : thereB len at' n = true) : 0 ≤ at' ∧ at' + n ≤ len := by
  simp [thereB] at h
  omega
theorem wroteL_len (l : List UInt8) (at' : Int) (bs : List UInt8) : (wroteL l at' bs).length = l.length := by
  unfold wroteL
  split
  · rename_i h
    have := there_fit h
    exact over_len (by omega)
  · rfl

theorem low8_mod (x : Int) : low8 (x % 256) = low8 x := by
  unfold low8
  rw [Int.emod_emod_of_dvd x (Int.dvd_refl 256)]
theorem low8_of (b : UInt8) : low8 (b.toNat : Int) = b := by
  have h := b.toNat_lt
  apply UInt8.toNat_inj.1
  have := low8_num (b.toNat : Int)
  omega
theorem num_low (l : List UInt8) : (num l).map low8 = l := by
  induction l with
  | nil => rfl
  | cons b l ih =>
    show low8 (b.toNat : Int) :: (num l).map low8 = b :: l
    rw [low8_of, ih]
theorem over_set {l : List UInt8} {k : Nat} {b : UInt8} (h : k < l.length) : over l k [b] = l.set k b := by
  have := over_snoc (l := l) (bs := []) (a := k) (x := b) (by simpa using h)
  simpa [over_nil] using this

/-- What is left behind such a deed. -/
def WroteV (B m g len : Nat) (l2 : List UInt8) (w : World) (e : Ending) (w' : World) : Prop :=
  ∃ A c, e = .returned (.tuple #[.slice A len c, .bool true]) ∧ MemG w' B m g l2 ∧ Ints w' A c (num l2) ∧ OffI l2 A g ∧ w.grownBy w' (some g)

/-- What stands behind the write itself: is it there, and the document's part. -/
theorem with_end (A : Option Addr) (cap : Nat) (l : List UInt8) (at' : Int) (A2 : Option Addr) (cap2 : Nat) (xs : List Int) (bs : List UInt8) (hbs : xs.map low8 = bs) (len : Nat) (hlen : len = l.length) (m : Nat) (hm : m = xs.length) (g : Nat) (w : World) (hg : g < w.heap.size) (hA : Ints w A cap (num l)) (hX : Ints w A2 cap2 xs) (ht : thereB l.length at' bs.length = true) (hl : l.length ≤ 1000) :
    Calls Tryd.prog 22 #[.slice A len cap, .int .i64 at', .slice A2 m cap2] w fun r w' => ∃ A3 c3, r = .returned (.slice A3 len c3) ∧ Ints w' A3 c3 (num (wroteL l at' bs)) ∧ Off A3 g ∧ Below w.heap.size w w' := by
  obtain ⟨h0, h1⟩ := there_fit ht
  obtain ⟨k, rfl⟩ : ∃ k : Nat, at' = k := ⟨at'.toNat, by omega⟩
  have hxl : xs.length = bs.length := by rw [← hbs, List.length_map]
  refine (rwith_any A cap l k A2 cap2 m xs hm len hlen w hA hX (by omega) hl).mono ?_
  rintro e w' ⟨v, rfl, hv, hb⟩
  rw [hbs] at hv
  have e1 : over l k bs = wroteL l (k : Int) bs := by unfold wroteL; rw [if_pos ht]; simp
  rw [e1] at hv
  obtain ⟨A3, c3, rfl, hi, _⟩ := hv.ints
  have e2 : (num (wroteL l (k : Int) bs)).length = len := by rw [num_len, wroteL_len, hlen]
  refine ⟨A3, c3, by rw [e2], hi, ?_, hb⟩
  exact hv.off hg

end Go.Proofs.YtpolkioaagahhaaDoor

/- The document's reading and writing instructions, by contract. -/
namespace Go.Proofs.YtpolkioaagahhaaDoor
open Go.RowKit Go.Lib
set_option linter.unusedVariables false
set_option maxRecDepth 8000

/-- The boxes of access: a state, an instruction, the state that is answered. -/
structure Cu.Ab (w W : World) (S I : Array Value) : Prop where
  sb : Blk W w.heap.size 32 S
  ib : Blk W (w.heap.size + 1) 67 I
  rs : Blk W (w.heap.size + 1 + 1) 32 #[.int .i64 0, .int .i64 0, .int .i64 0, .int .i64 0, .int .i64 0, .int .i64 0, .int .i64 0, .int .i64 0, .int .i64 0, .int .i64 0]
  gr : w.grownBy W none
theorem Cu.ab_new (w : World) (S I : Array Value) : Cu.Ab w (((w.alloc (.cells S 32)).alloc (.cells I 67)).alloc (.cells #[.int .i64 0, .int .i64 0, .int .i64 0, .int .i64 0, .int .i64 0, .int .i64 0, .int .i64 0, .int .i64 0, .int .i64 0, .int .i64 0] 32)) S I := by
  have b1 := Blk.new (w.alloc (.cells S 32)) 67 I
  have b2 := Blk.new ((w.alloc (.cells S 32)).alloc (.cells I 67)) 32 #[.int .i64 0, .int .i64 0, .int .i64 0, .int .i64 0, .int .i64 0, .int .i64 0, .int .i64 0, .int .i64 0, .int .i64 0, .int .i64 0]
  exact ⟨((Blk.new _ _ _).alloc _).alloc _, by simpa using b1.alloc _, by simpa using b2, only_alloc (only_alloc (only_alloc (only_refl _ _) _) _) _⟩
section
variable {w W W' : World} {S I : Array Value}
theorem Cu.Ab.grown (h : Cu.Ab w W S I) (k : W.grownBy W' none) : Cu.Ab w W' S I := ⟨h.sb.only k (by simp), h.ib.only k (by simp), h.rs.only k (by simp), only_trans h.gr k⟩
theorem Cu.Ab.put (h : Cu.Ab w W S I) (i : Nat) (v : Value) : Cu.Ab w (W.setCell ⟨w.heap.size, i, none⟩ v) (S.setIfInBounds i v) I :=
  ⟨h.sb.put i v, h.ib.far (p := ⟨w.heap.size, i, none⟩) (by show w.heap.size + 1 ≠ w.heap.size; omega) v, h.rs.far (p := ⟨w.heap.size, i, none⟩) (by show w.heap.size + 1 + 1 ≠ w.heap.size; omega) v, only_putc h.gr (p := ⟨w.heap.size, i, none⟩) (Nat.le_refl _) v⟩
theorem Cu.Ab.fin (h : Cu.Ab w W S I) (y0 y1 y2 y3 y4 y5 y6 y7 y8 y9 : Value) : ∀ W', W' = (((((((((((W.setCell ⟨w.heap.size + 1 + 1, 0, none⟩ y0).setCell ⟨w.heap.size + 1 + 1, 1, none⟩ y1).setCell ⟨w.heap.size + 1 + 1, 2, none⟩ y2).setCell ⟨w.heap.size + 1 + 1, 3, none⟩ y3).setCell ⟨w.heap.size + 1 + 1, 4, none⟩ y4).setCell ⟨w.heap.size + 1 + 1, 5, none⟩ y5).setCell ⟨w.heap.size + 1 + 1, 6, none⟩ y6).setCell ⟨w.heap.size + 1 + 1, 7, none⟩ y7).setCell ⟨w.heap.size + 1 + 1, 8, none⟩ y8).setCell ⟨w.heap.size + 1 + 1, 9, none⟩ y9)).drew → (W'.cell? ⟨w.heap.size + 1 + 1, 0, none⟩ = some y0 ∧ W'.cell? ⟨w.heap.size + 1 + 1, 1, none⟩ = some y1 ∧ W'.cell? ⟨w.heap.size + 1 + 1, 2, none⟩ = some y2 ∧ W'.cell? ⟨w.heap.size + 1 + 1, 3, none⟩ = some y3 ∧ W'.cell? ⟨w.heap.size + 1 + 1, 4, none⟩ = some y4 ∧ W'.cell? ⟨w.heap.size + 1 + 1, 5, none⟩ = some y5 ∧ W'.cell? ⟨w.heap.size + 1 + 1, 6, none⟩ = some y6 ∧ W'.cell? ⟨w.heap.size + 1 + 1, 7, none⟩ = some y7 ∧ W'.cell? ⟨w.heap.size + 1 + 1, 8, none⟩ = some y8 ∧ W'.cell? ⟨w.heap.size + 1 + 1, 9, none⟩ = some y9) ∧ w.grownBy W' none ∧ W.grownBy W' (some (w.heap.size + 1 + 1)) := by
  rintro W' rfl
  have b := ((((((((((h.rs.put 0 y0).put 1 y1).put 2 y2).put 3 y3).put 4 y4).put 5 y5).put 6 y6).put 7 y7).put 8 y8).put 9 y9)
  simp only [List.setIfInBounds_toArray, List.set_cons_zero, List.set_cons_succ] at b
  exact ⟨Cu.cells10 (b.drewN 1), only_drewN (only_putc (only_putc (only_putc (only_putc (only_putc (only_putc (only_putc (only_putc (only_putc (only_putc (h.gr) (p := ⟨w.heap.size + 1 + 1, 0, none⟩) (by show w.heap.size ≤ w.heap.size + 1 + 1; omega) y0) (p := ⟨w.heap.size + 1 + 1, 1, none⟩) (by show w.heap.size ≤ w.heap.size + 1 + 1; omega) y1) (p := ⟨w.heap.size + 1 + 1, 2, none⟩) (by show w.heap.size ≤ w.heap.size + 1 + 1; omega) y2) (p := ⟨w.heap.size + 1 + 1, 3, none⟩) (by show w.heap.size ≤ w.heap.size + 1 + 1; omega) y3) (p := ⟨w.heap.size + 1 + 1, 4, none⟩) (by show w.heap.size ≤ w.heap.size + 1 + 1; omega) y4) (p := ⟨w.heap.size + 1 + 1, 5, none⟩) (by show w.heap.size ≤ w.heap.size + 1 + 1; omega) y5) (p := ⟨w.heap.size + 1 + 1, 6, none⟩) (by show w.heap.size ≤ w.heap.size + 1 + 1; omega) y6) (p := ⟨w.heap.size + 1 + 1, 7, none⟩) (by show w.heap.size ≤ w.heap.size + 1 + 1; omega) y7) (p := ⟨w.heap.size + 1 + 1, 8, none⟩) (by show w.heap.size ≤ w.heap.size + 1 + 1; omega) y8) (p := ⟨w.heap.size + 1 + 1, 9, none⟩) (by show w.heap.size ≤ w.heap.size + 1 + 1; omega) y9) 1, only_drewN (only_put (only_put (only_put (only_put (only_put (only_put (only_put (only_put (only_put (only_put (only_refl _ _) 0 y0) 1 y1) 2 y2) 3 y3) 4 y4) 5 y5) 6 y6) 7 y7) 8 y8) 9 y9) 1⟩
end
theorem Cu.num_at {V : List UInt8} {k : Nat} (h : k < V.length) : (num V)[k]'(by rw [num_len]; exact h) = ((V.getD k 0).toNat : Int) := by
  simp [num, List.getD_eq_getElem?_getD, h]
/-- What access answers. -/
def Cu.Acc (w : World) (V : List UInt8) (A0 : Option Addr) (V' : List UInt8) (pc md : Int) (r : Nat → Int) (ok : Bool) (e : Ending) (w' : World) : Prop :=
  ∃ (A : Option Addr) (n c : Nat), e = .returned (.tuple #[.slice A n c, .agg #[.int .i64 pc, .int .i64 (r 0), .int .i64 (r 1), .int .i64 (r 2), .int .i64 (r 3), .int .i64 (r 4), .int .i64 (r 5), .int .i64 (r 6), .int .i64 (r 7), .int .i64 md], .bool ok]) ∧ n = V'.length ∧ Ints w' A c (num V') ∧ w.grownBy w' none ∧ ∀ i, i < w.heap.size → OffI V A0 i → OffI V' A i
theorem Cu.acc_mk {w w' : World} {V V' : List UInt8} {A0 : Option Addr} {pc md : Int} {r : Nat → Int} {ok : Bool} {A : Option Addr} {n c : Nat} (hn : n = V'.length) (hA : Ints w' A c (num V')) (hg : w.grownBy w' none) (ho : ∀ i, i < w.heap.size → OffI V A0 i → OffI V' A i) : Cu.Acc w V A0 V' pc md r ok (.returned (.tuple #[.slice A n c, .agg #[.int .i64 pc, .int .i64 (r 0), .int .i64 (r 1), .int .i64 (r 2), .int .i64 (r 3), .int .i64 (r 4), .int .i64 (r 5), .int .i64 (r 6), .int .i64 (r 7), .int .i64 md], .bool ok])) w' := ⟨A, n, c, rfl, hn, hA, hg, ho⟩
theorem Cu.ints_new (W : World) (xs : List Int) (cs : Array Value) (h : cs = (iCells xs).toArray) : Ints (W.alloc (.cells cs 3)) (some ⟨W.heap.size, 0, none⟩) xs.length xs := by
  refine ⟨(fun e => by cases e), fun hp => ⟨W.heap.size, 0, rfl, by simp, fun i hi => ?_⟩⟩
  have hb := (Blk.new W 3 cs).cell (0 + i)
  rw [hb, h]
  simp [iCells, hi]
theorem Cu.ints_gr {w w' : World} {A : Option Addr} {c : Nat} {l : List Int} (h : Ints w A c l) (k : w.grownBy w' none) : Ints w' A c l := h.below (Cu.below k)
end Go.Proofs.YtpolkioaagahhaaDoor
