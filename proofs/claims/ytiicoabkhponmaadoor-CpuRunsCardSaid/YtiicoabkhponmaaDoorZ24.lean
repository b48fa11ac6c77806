import Derived.Test.YtiicoabkhponmaaDoorZ23
import Derived.ChangeKeysEq
import Derived.Deep.Cut
set_option linter.all false
/- The law's three steps. -/
namespace Go.Proofs.YtiicoabkhponmaaDoor
open Go.RowKit Go.Lib
set_option linter.unusedVariables false
set_option maxRecDepth 20000

def Cu.lv : List UInt8 := [1, 1, 7, 0, 3, 1, 1, 0, 0, 0, 0, 0]
def Cu.lf : Nat → Cu.Af := Cu.stN Cu.lv 0 (fun _ => 0) 0
theorem Cu.lf_1 : (Cu.lf 1).md = 0 ∧ (Cu.lf 1).o1 = 1 := ⟨by kernel_rfl, by kernel_rfl⟩
theorem Cu.lf_2 : (Cu.lf 2).md = 0 ∧ (Cu.lf 2).o1 = 1 := ⟨by kernel_rfl, by kernel_rfl⟩
theorem Cu.lf_3 : (Cu.lf 3).md = 2 ∧ (Cu.lf 3).o1 = 4 ∧ (Cu.lf 3).pc = 8 ∧ (Cu.lf 3).r 1 = 14 := ⟨by kernel_rfl, by kernel_rfl, by kernel_rfl, by kernel_rfl⟩
theorem Cu.lf_end {j : Nat} (h : Cu.Ends Cu.lf 9 j) : j = 3 := by
  by_cases h3 : 3 < j
  · have := (h.1.1 3 h3).2
    rw [Cu.lf_3.1] at this
    exact absurd this (by decide)
  · have hj : j = 0 ∨ j = 1 ∨ j = 2 ∨ j = 3 := by omega
    rcases hj with rfl | rfl | rfl | rfl
    · rcases h.2 with e | e | e
      · omega
      · exact absurd (show (Cu.lf 0).md = 0 from rfl) e
      · omega
    · rcases h.2 with e | e | e
      · omega
      · exact absurd Cu.lf_1.1 e
      · rw [Cu.lf_1.2] at e; omega
    · rcases h.2 with e | e | e
      · omega
      · exact absurd Cu.lf_2.1 e
      · rw [Cu.lf_2.2] at e; omega
    · rfl
/-- Run on a memory that holds the three instructions. -/
theorem Cu.lrun_any (w : World) (B m g : Nat) (p q : List UInt8) (h : MemG w B m g (p ++ Cu.lv ++ q)) (hB : 0 < B) (hN : Nm w) (hl : (p ++ Cu.lv ++ q).length ≤ 16384) :
    Calls Tryd.prog 16 #[Cu.vw m p.length 12, Cu.stV 0 (fun _ => 0) 0, .int .i64 9] w fun e w' => ∃ v, e = .returned (.tuple #[Cu.stV (Cu.lf 3).pc (Cu.lf 3).r (Cu.lf 3).md, v]) ∧ RowZ 4 w' v 3 (Cu.outs Cu.lf 3) ∧ w.grownBy w' (some g) := by
  have hg0 : some g ≠ some 0 := fun e => by injection e with e; have := h.1; omega
  have := Cu.run_walk w B m g 12 p q Cu.lf 0 0 9 (fun _ => 0) (by omega) rfl h (fun j W hm hg => by
    have hlen := Cu.stN_len Cu.lv 0 (fun _ => 0) 0 j
    have hp := Cu.stN_pc Cu.lv 0 (fun _ => 0) 0 (by decide) (by decide) j
    have hs := Cu.step_any W B m g p (Cu.lf j).v q hm (hN.grown hg hg0) (by
      have e : (p ++ (Cu.lf j).v ++ q).length = (p ++ Cu.lv ++ q).length := by
        simp only [List.length_append]
        rw [show (Cu.lf j).v.length = Cu.lv.length from hlen]
      omega) (Cu.lf j).pc hp (Cu.lf j).r (Cu.lf j).md
    rw [show ((Cu.lf j).v.length : Int) = 12 from by rw [show (Cu.lf j).v.length = Cu.lv.length from hlen]; rfl] at hs
    exact hs)
  refine this.mono fun e w' ⟨j, v, he, h1, h2, h3, h4⟩ => ?_
  have hj := Cu.lf_end he
  subst hj
  exact ⟨v, h1, h2, h4⟩
end Go.Proofs.YtiicoabkhponmaaDoor

/- The law's live. -/
namespace Go.Proofs.YtiicoabkhponmaaDoor
open Go.RowKit Go.Lib
set_option linter.unusedVariables false
set_option maxRecDepth 20000

theorem Cu.row3 {w : World} {v : Value} (h : RowZ 4 w v 3 (Cu.outs Cu.lf 3)) : ∃ b off c, v = .slice (some ⟨b, off, none⟩) 3 c ∧ 3 ≤ c ∧ b < w.heap.size ∧ w.cell? ⟨b, off + 8, none⟩ = some (.int .i64 4) := by
  rcases h.2 with ⟨h0, h9⟩ | ⟨g', off', cap', h1, h2, h3, h4, h5, hc⟩
  · exact absurd h9 (by decide)
  · refine ⟨g', off', cap', h1, h2, h4, hc 8 _ ?_⟩
    show (Cu.outs Cu.lf 3)[8]? = some (.int .i64 4)
    have e : Cu.outs Cu.lf 3 = [.int .i64 (Cu.lf 1).o1, .int .i64 (Cu.lf 1).o2, .int .i64 (Cu.lf 1).o3, .int .i64 (Cu.lf 1).o4, .int .i64 (Cu.lf 2).o1, .int .i64 (Cu.lf 2).o2, .int .i64 (Cu.lf 2).o3, .int .i64 (Cu.lf 2).o4, .int .i64 (Cu.lf 3).o1, .int .i64 (Cu.lf 3).o2, .int .i64 (Cu.lf 3).o3, .int .i64 (Cu.lf 3).o4] := rfl
    rw [e, Cu.lf_3.2.1]
    rfl
theorem Cu.fresh {w w1 w2 : World} {g : Nat} (hb : Below w.heap.size w w1) (k : w1.grownBy w2 (some g)) (hg : w.heap.size ≤ g) : w.grownBy w2 none :=
  ⟨k.os.trans hb.os, k.tape.trans hb.tape, k.output.trans hb.output, Nat.le_trans hb.size k.size, fun i hi _ => (k.block i (Nat.lt_of_lt_of_le hi hb.size) (fun e => by injection e with e; omega)).trans (hb.block i hi)⟩
theorem Cu.fresh2 {w w1 w2 : World} {g : Nat} (hb : w.grownBy w1 none) (k : w1.grownBy w2 (some g)) (hg : w.heap.size ≤ g) : w.grownBy w2 none :=
  ⟨k.os.trans hb.os, k.tape.trans hb.tape, k.output.trans hb.output, Nat.le_trans hb.size k.size, fun i hi _ => (k.block i (Nat.lt_of_lt_of_le hi hb.size) (fun e => by injection e with e; omega)).trans (hb.block i hi (by simp))⟩
set_option maxHeartbeats 3200000 in
theorem Cu.live_any (w : World) (hN : Nm w) (hw : 0 < w.heap.size) : Calls Tryd.prog 7 #[] w fun e w' => e = .returned (.bool true) ∧ Below w.heap.size w w' := by
  have HNE := Lib.hid (show ∀ W, Calls Tryd.prog 19 #[.int .i64 200] W fun r w' => ∃ m g, r = .returned (.pointer (some ⟨m, 0, none⟩)) ∧ MemG w' W.heap.size m g (Cu.z 200) ∧ Below W.heap.size W w' from fun W => (mnew_any 200 W).mono fun e w' ⟨m, h1, h2, h3⟩ => by
    obtain ⟨g, h4⟩ := h2.named
    exact ⟨m, g, h1, h4, h3⟩)
  have HPU := Lib.hid (show ∀ W B m g, MemG W B m g (Cu.z 200) → Calls Tryd.prog 20 #[.pointer (some ⟨m, 0, none⟩), .int .i64 130, .string ⟨#[1, 1, 7, 0, 3, 1, 1, 0, 0, 0, 0, 0]⟩] W fun r w' => r = .returned (.int .i64 0) ∧ MemG w' B m g (Cu.z 130 ++ Cu.lv ++ Cu.z 58) ∧ W.grownBy w' (some g) from fun W B m g h => by
    have := mput_any W B m g (Cu.z 200) 130 ⟨#[1, 1, 7, 0, 3, 1, 1, 0, 0, 0, 0, 0]⟩ h (by rw [Cu.z_len]; omega) (by decide)
    have ec : chk (Cu.z 200).length 130 ((⟨#[1, 1, 7, 0, 3, 1, 1, 0, 0, 0, 0, 0]⟩ : ByteArray).size : Nat) = 0 := by rw [Cu.z_len]; decide
    rw [ec, if_pos rfl] at this
    have e2 : over (Cu.z 200) (130 : Int).toNat (⟨#[1, 1, 7, 0, 3, 1, 1, 0, 0, 0, 0, 0]⟩ : ByteArray).data.toList = Cu.z 130 ++ Cu.lv ++ Cu.z 58 := by decide
    rw [e2] at this
    exact this)
  have HRU := Lib.hid (show ∀ W m g, MemG W w.heap.size m g (Cu.z 130 ++ Cu.lv ++ Cu.z 58) → w.grownBy W none → Calls Tryd.prog 16 #[.agg #[.pointer (some ⟨m, 0, none⟩), .int .i64 130, .int .i64 12], .agg #[.int .i64 0, .int .i64 0, .int .i64 0, .int .i64 0, .int .i64 0, .int .i64 0, .int .i64 0, .int .i64 0, .int .i64 0, .int .i64 0], .int .i64 9] W fun e w' => ∃ b off c x0 x2 x3 x4 x5 x6 x7, e = .returned (.tuple #[.agg #[.int .i64 8, .int .i64 x0, .int .i64 14, .int .i64 x2, .int .i64 x3, .int .i64 x4, .int .i64 x5, .int .i64 x6, .int .i64 x7, .int .i64 2], .slice (some ⟨b, off, none⟩) 3 c]) ∧ 3 ≤ c ∧ b < w'.heap.size ∧ w'.cell? ⟨b, off + 8, none⟩ = some (.int .i64 4) ∧ W.grownBy w' (some g) from fun W m g h hg => by
    have := Cu.lrun_any W w.heap.size m g (Cu.z 130) (Cu.z 58) h hw (hN.grown hg (by simp)) (by decide)
    refine this.mono fun e w' ⟨v, h1, h2, h3⟩ => ?_
    obtain ⟨b, off, c, rfl, k1, k2, k3⟩ := Cu.row3 h2
    refine ⟨b, off, c, (Cu.lf 3).r 0, (Cu.lf 3).r 2, (Cu.lf 3).r 3, (Cu.lf 3).r 4, (Cu.lf 3).r 5, (Cu.lf 3).r 6, (Cu.lf 3).r 7, ?_, k1, k2, k3, h3⟩
    rw [h1]
    unfold Cu.stV Cu.stC
    rw [Cu.lf_3.2.2.1, Cu.lf_3.2.2.2, Cu.lf_3.1])
  go_enter Tryd.func7, Tryd.ntmps7
  go_upto_region 4 with (first
    | (go_at_call 19; (with_reducible refine (HNE.out _).mono ?_); rintro e w1 ⟨m, g, rfl, hm, b1⟩; have HM := Lib.hid hm; have HB := Lib.hid b1; clear hm b1)
    | (go_at_call 20; (with_reducible refine (HPU.out _ _ _ _ HM.out).mono ?_); rintro e w2 ⟨rfl, hm2, b2⟩; have HM2 := Lib.hid hm2; have HG2 := Lib.hid (show w.grownBy w2 none from Cu.fresh HB.out b2 HM.out.1); clear hm2 b2)
    | (go_at_call 16; (with_reducible refine (HRU.out _ _ _ HM2.out HG2.out).mono ?_); rintro e w3 ⟨b, off, c, x0, x2, x3, x4, x5, x6, x7, rfl, k1, k2, k3, b3⟩; have HG3 := Lib.hid (Cu.fresh2 HG2.out b3 HM.out.1); have K1 := Lib.hid k1; have K2 := Lib.hid k2; have K3 := Lib.hid k3; clear k1 k2 k3 b3))
  have HB4 := Lib.hid (Blk.new w3 24 #[.int .i64 8, .int .i64 x0, .int .i64 14, .int .i64 x2, .int .i64 x3, .int .i64 x4, .int .i64 x5, .int .i64 x6, .int .i64 x7, .int .i64 2])
  have HG4 := Lib.hid (only_trans HG3.out (only_alloc (only_refl w3 none) (.cells #[.int .i64 8, .int .i64 x0, .int .i64 14, .int .i64 x2, .int .i64 x3, .int .i64 x4, .int .i64 x5, .int .i64 x6, .int .i64 x7, .int .i64 2] 24)))
  have HC8 := Lib.hid ((World.cell?_alloc_lt w3 (.cells #[.int .i64 8, .int .i64 x0, .int .i64 14, .int .i64 x2, .int .i64 x3, .int .i64 x4, .int .i64 x5, .int .i64 x6, .int .i64 x7, .int .i64 2] 24) ⟨b, off + 8, none⟩ K2.out).trans K3.out)
  obtain ⟨W4, hW4⟩ : ∃ W4, W4 = w3.alloc (.cells #[.int .i64 8, .int .i64 x0, .int .i64 14, .int .i64 x2, .int .i64 x3, .int .i64 x4, .int .i64 x5, .int .i64 x6, .int .i64 x7, .int .i64 2] 24) := ⟨_, rfl⟩
  rw [← hW4] at HB4 HG4 HC8 ⊢
  clear hW4
  have c0 := HB4.out.cell 0
  have c2 := HB4.out.cell 2
  have c9 := HB4.out.cell 9
  have c8 := HC8.out
  go_wp2
  go_ret
  exact ⟨rfl, below_of_only HG4.out (Nat.le_refl _) (fun k hk => by cases hk)⟩
end Go.Proofs.YtiicoabkhponmaaDoor

/- States, and what steps did, held against themselves. -/
namespace Go.Proofs.YtiicoabkhponmaaDoor
open Go.RowKit Go.Lib
set_option linter.unusedVariables false
set_option maxRecDepth 8000
theorem Cu.int_info : ∃ i, Tryd.prog.info? 3 = some i := Option.isSome_iff_exists.1 (show (Tryd.prog.info? 3).isSome = true by kernel_rfl)
theorem Cu.int_cells : Tryd.prog.cellsOf 3 = 1 := by kernel_rfl
/-- Eight numbers are the same as1 themselves. -/
theorem Cu.eql_regs (x0 x1 x2 x3 x4 x5 x6 x7 : Int) (w : World) : (Op.equalIn 9999 22 (.agg #[.int .i64 x0, .int .i64 x1, .int .i64 x2, .int .i64 x3, .int .i64 x4, .int .i64 x5, .int .i64 x6, .int .i64 x7]) (.agg #[.int .i64 x0, .int .i64 x1, .int .i64 x2, .int .i64 x3, .int .i64 x4, .int .i64 x5, .int .i64 x6, .int .i64 x7])).run Tryd.prog w = .ok true w := by
  obtain ⟨i, hi⟩ := Cu.int_info
  rw [run_equalIn_array (P := Tryd.prog) w 9998 (t := 22) (e := 3) (n := 8) (i := i) _ _ Tryd.underlying22 hi, Cu.int_cells]
  simp [Op.eqItems, List.range, List.range.loop, part, run_equalIn_int _ _ _ _ _ _ _ Tryd.underlying3, go_sem]

theorem Cu.neq_st (pc : Int) (r : Nat → Int) (md : Int) (w : World) : (binOp BinOp.neq 24 (Cu.stV pc r md) (Cu.stV pc r md)).run Tryd.prog w = .ok (.bool false) w := by
  unfold Cu.stV Cu.stC
  rw [run_neq_struct, run_equalIn_agg w 9999 _ _ _ (by kernel_rfl) (by kernel_rfl)]
  have hf : (Tryd.prog.fieldsOf 24).toList.map (fun f => (f.name, f.type, f.offset)) = [("Pc", 3, 0), ("R", 22, 1), ("Mode", 3, 9)] := by kernel_rfl
  generalize (Tryd.prog.fieldsOf 24).toList = fs at hf
  have hlen := congrArg List.length hf
  simp only [List.length_map, List.length_cons, List.length_nil] at hlen
  obtain ⟨f0, f1, f2, rfl⟩ : ∃ f0 f1 f2, fs = [f0, f1, f2] := by
    match fs, hlen with
    | [f0, f1, f2], _ => exact ⟨f0, f1, f2, rfl⟩
  simp only [List.map_cons, List.map_nil, List.cons.injEq, Prod.mk.injEq, and_true] at hf
  obtain ⟨⟨p0, q0, r0⟩, ⟨p1, q1, r1⟩, ⟨p2, q2, r2⟩⟩ := hf
  simp [Op.eqFields, p0, q0, r0, p1, q1, r1, p2, q2, r2, part, run_equalIn_int _ _ _ _ _ _ _ Tryd.underlying3, go_sem, Cu.eql_regs]
theorem Cu.eql_st2 (pc : Int) (r : Nat → Int) (md : Int) (w : World) : (binOp BinOp.eql 24 (Cu.stV pc r md) (Cu.stV pc r md)).run Tryd.prog w = .ok (.bool true) w := by
  unfold Cu.stV Cu.stC
  rw [run_eql_struct, run_equalIn_agg w 9999 _ _ _ (by kernel_rfl) (by kernel_rfl)]
  have hf : (Tryd.prog.fieldsOf 24).toList.map (fun f => (f.name, f.type, f.offset)) = [("Pc", 3, 0), ("R", 22, 1), ("Mode", 3, 9)] := by kernel_rfl
  generalize (Tryd.prog.fieldsOf 24).toList = fs at hf
  have hlen := congrArg List.length hf
  simp only [List.length_map, List.length_cons, List.length_nil] at hlen
  obtain ⟨f0, f1, f2, rfl⟩ : ∃ f0 f1 f2, fs = [f0, f1, f2] := by
    match fs, hlen with
    | [f0, f1, f2], _ => exact ⟨f0, f1, f2, rfl⟩
  simp only [List.map_cons, List.map_nil, List.cons.injEq, Prod.mk.injEq, and_true] at hf
  obtain ⟨⟨p0, q0, r0⟩, ⟨p1, q1, r1⟩, ⟨p2, q2, r2⟩⟩ := hf
  simp [Op.eqFields, p0, q0, r0, p1, q1, r1, p2, q2, r2, part, run_equalIn_int _ _ _ _ _ _ _ Tryd.underlying3, go_sem, Cu.eql_regs]
theorem Cu.neq_rst (pc : Int) (r : Nat → Int) (md : Int) (w : World) : (binOp BinOp.neq 32 (Cu.stV pc r md) (Cu.stV pc r md)).run Tryd.prog w = .ok (.bool false) w := by
  unfold Cu.stV Cu.stC
  rw [run_neq_struct, run_equalIn_agg w 9999 _ _ _ (by kernel_rfl) (by kernel_rfl)]
  have hf : (Tryd.prog.fieldsOf 32).toList.map (fun f => (f.name, f.type, f.offset)) = [("Pc", 3, 0), ("R", 22, 1), ("Mode", 3, 9)] := by kernel_rfl
  generalize (Tryd.prog.fieldsOf 32).toList = fs at hf
  have hlen := congrArg List.length hf
  simp only [List.length_map, List.length_cons, List.length_nil] at hlen
  obtain ⟨f0, f1, f2, rfl⟩ : ∃ f0 f1 f2, fs = [f0, f1, f2] := by
    match fs, hlen with
    | [f0, f1, f2], _ => exact ⟨f0, f1, f2, rfl⟩
  simp only [List.map_cons, List.map_nil, List.cons.injEq, Prod.mk.injEq, and_true] at hf
  obtain ⟨⟨p0, q0, r0⟩, ⟨p1, q1, r1⟩, ⟨p2, q2, r2⟩⟩ := hf
  simp [Op.eqFields, p0, q0, r0, p1, q1, r1, p2, q2, r2, part, run_equalIn_int _ _ _ _ _ _ _ Tryd.underlying3, go_sem, Cu.eql_regs]
theorem Cu.neq_out (a b c d : Int) (w : World) : (binOp BinOp.neq 37 (Cu.outV a b c d) (Cu.outV a b c d)).run Tryd.prog w = .ok (.bool false) w := by
  unfold Cu.outV
  rw [run_neq_struct, run_equalIn_agg w 9999 _ _ _ (by kernel_rfl) (by kernel_rfl)]
  have hf : (Tryd.prog.fieldsOf 37).toList.map (fun f => (f.name, f.type, f.offset)) = [("What", 3, 0), ("N", 3, 1), ("X", 3, 2), ("Err", 34, 3)] := by kernel_rfl
  generalize (Tryd.prog.fieldsOf 37).toList = fs at hf
  have hlen := congrArg List.length hf
  simp only [List.length_map, List.length_cons, List.length_nil] at hlen
  obtain ⟨f0, f1, f2, f3, rfl⟩ : ∃ f0 f1 f2 f3, fs = [f0, f1, f2, f3] := by
    match fs, hlen with
    | [f0, f1, f2, f3], _ => exact ⟨f0, f1, f2, f3, rfl⟩
  simp only [List.map_cons, List.map_nil, List.cons.injEq, Prod.mk.injEq, and_true] at hf
  obtain ⟨⟨p0, q0, r0⟩, ⟨p1, q1, r1⟩, ⟨p2, q2, r2⟩, ⟨p3, q3, r3⟩⟩ := hf
  simp [Op.eqFields, p0, q0, r0, p1, q1, r1, p2, q2, r2, p3, q3, r3, part, run_equalIn_int _ _ _ _ _ _ _ Tryd.underlying3, run_equalIn_int _ _ _ _ _ _ _ Tryd.underlying34, go_sem]
end Go.Proofs.YtiicoabkhponmaaDoor

/- The boxes and the two memories of CpuMoves. -/
namespace Go.Proofs.YtiicoabkhponmaaDoor
open Go.RowKit Go.Lib
set_option linter.unusedVariables false
set_option maxRecDepth 8000

structure Cu.Mv (w W : World) (bs m1 g1 bv m2 g2 bw bt : Nat) (p1 q1 p2 q2 : List UInt8) (n1 n2 vl : Int) (V1 V2 : List UInt8) (sc tc : Array Value) : Prop where
  sb : Blk W bs 24 sc
  tb : Blk W bt 24 tc
  vb : Blk W bv 28 #[.pointer (some ⟨m1, 0, none⟩), .int .i64 n1, .int .i64 vl]
  wb : Blk W bw 28 #[.pointer (some ⟨m2, 0, none⟩), .int .i64 n2, .int .i64 vl]
  me1 : MemG W w.heap.size m1 g1 (p1 ++ V1 ++ q1)
  me2 : MemG W w.heap.size m2 g2 (p2 ++ V2 ++ q2)
  gr : w.grownBy W none
  nm : Nm w
  lt : w.heap.size ≤ bs ∧ bs < m1 ∧ bs < g1 ∧ m1 < bv ∧ g1 < bv ∧ bv < m2 ∧ bv < g2 ∧ m2 < bw ∧ g2 < bw ∧ bw < bt
theorem Cu.grow_none {w W W' : World} {i : Nat} (h : w.grownBy W none) (k : W.grownBy W' (some i)) (hi : w.heap.size ≤ i) : w.grownBy W' none :=
  ⟨k.os.trans h.os, k.tape.trans h.tape, k.output.trans h.output, Nat.le_trans h.size k.size, fun b hb _ => (k.block b (Nat.lt_of_lt_of_le hb h.size) (fun e => by injection e with e; omega)).trans (h.block b hb (by simp))⟩
section
variable {w W W' : World} {bs m1 g1 bv m2 g2 bw bt : Nat} {p1 q1 p2 q2 : List UInt8} {n1 n2 vl : Int} {V1 V2 V' : List UInt8} {sc tc sc' : Array Value}
theorem Cu.Mv.NM (h : Cu.Mv w W bs m1 g1 bv m2 g2 bw bt p1 q1 p2 q2 n1 n2 vl V1 V2 sc tc) : Nm W := h.nm.grown h.gr (by simp)
theorem Cu.Mv.grown (h : Cu.Mv w W bs m1 g1 bv m2 g2 bw bt p1 q1 p2 q2 n1 n2 vl V1 V2 sc tc) (k : W.grownBy W' none) : Cu.Mv w W' bs m1 g1 bv m2 g2 bw bt p1 q1 p2 q2 n1 n2 vl V1 V2 sc tc :=
  ⟨h.sb.only k (by simp), h.tb.only k (by simp), h.vb.only k (by simp), h.wb.only k (by simp), h.me1.grown k, h.me2.grown k, only_trans h.gr k, h.nm, h.lt⟩
/-- A block above all was written. -/
theorem Cu.Mv.off (h : Cu.Mv w W bs m1 g1 bv m2 g2 bw bt p1 q1 p2 q2 n1 n2 vl V1 V2 sc tc) {i : Nat} (hi : bt < i) (k : W.grownBy W' (some i)) : Cu.Mv w W' bs m1 g1 bv m2 g2 bw bt p1 q1 p2 q2 n1 n2 vl V1 V2 sc tc := by
  have l := h.lt
  have ne : ∀ x, x < i → some x ≠ some i := fun x hx e => by injection e with e; omega
  exact ⟨h.sb.only k (ne _ (by omega)), h.tb.only k (ne _ (by omega)), h.vb.only k (ne _ (by omega)), h.wb.only k (ne _ (by omega)), h.me1.far k (by omega) (by omega), h.me2.far k (by omega) (by omega), Cu.grow_none h.gr k (by omega), h.nm, h.lt⟩
theorem Cu.Mv.step1 (h : Cu.Mv w W bs m1 g1 bv m2 g2 bw bt p1 q1 p2 q2 n1 n2 vl V1 V2 sc tc) (hm : MemG W' w.heap.size m1 g1 (p1 ++ V' ++ q1)) (k : W.grownBy W' (some g1)) : Cu.Mv w W' bs m1 g1 bv m2 g2 bw bt p1 q1 p2 q2 n1 n2 vl V' V2 sc tc := by
  have l := h.lt
  have ne : ∀ x, x ≠ g1 → some x ≠ some g1 := fun x hx e => by injection e with e; omega
  exact ⟨h.sb.only k (ne _ (by omega)), h.tb.only k (ne _ (by omega)), h.vb.only k (ne _ (by omega)), h.wb.only k (ne _ (by omega)), hm, h.me2.far k (by omega) (by omega), Cu.grow_none h.gr k (by omega), h.nm, h.lt⟩
theorem Cu.Mv.step2 (h : Cu.Mv w W bs m1 g1 bv m2 g2 bw bt p1 q1 p2 q2 n1 n2 vl V1 V2 sc tc) (hm : MemG W' w.heap.size m2 g2 (p2 ++ V' ++ q2)) (k : W.grownBy W' (some g2)) : Cu.Mv w W' bs m1 g1 bv m2 g2 bw bt p1 q1 p2 q2 n1 n2 vl V1 V' sc tc := by
  have l := h.lt
  have ne : ∀ x, x ≠ g2 → some x ≠ some g2 := fun x hx e => by injection e with e; omega
  exact ⟨h.sb.only k (ne _ (by omega)), h.tb.only k (ne _ (by omega)), h.vb.only k (ne _ (by omega)), h.wb.only k (ne _ (by omega)), h.me1.far k (by omega) (by omega), hm, Cu.grow_none h.gr k (by omega), h.nm, h.lt⟩
theorem Cu.Mv.putS (h : Cu.Mv w W bs m1 g1 bv m2 g2 bw bt p1 q1 p2 q2 n1 n2 vl V1 V2 sc tc) (hb : Blk W' bs 24 sc') (k : W.grownBy W' (some bs)) : Cu.Mv w W' bs m1 g1 bv m2 g2 bw bt p1 q1 p2 q2 n1 n2 vl V1 V2 sc' tc := by
  have l := h.lt
  have ne : ∀ x, x ≠ bs → some x ≠ some bs := fun x hx e => by injection e with e; omega
  exact ⟨hb, h.tb.only k (ne _ (by omega)), h.vb.only k (ne _ (by omega)), h.wb.only k (ne _ (by omega)), h.me1.far k (by omega) (by omega), h.me2.far k (by omega) (by omega), Cu.grow_none h.gr k (by omega), h.nm, h.lt⟩
theorem Cu.Mv.putT (h : Cu.Mv w W bs m1 g1 bv m2 g2 bw bt p1 q1 p2 q2 n1 n2 vl V1 V2 sc tc) (hb : Blk W' bt 24 sc') (k : W.grownBy W' (some bt)) : Cu.Mv w W' bs m1 g1 bv m2 g2 bw bt p1 q1 p2 q2 n1 n2 vl V1 V2 sc sc' := by
  have l := h.lt
  have ne : ∀ x, x ≠ bt → some x ≠ some bt := fun x hx e => by injection e with e; omega
  exact ⟨h.sb.only k (ne _ (by omega)), hb, h.vb.only k (ne _ (by omega)), h.wb.only k (ne _ (by omega)), h.me1.far k (by omega) (by omega), h.me2.far k (by omega) (by omega), Cu.grow_none h.gr k (by omega), h.nm, h.lt⟩
end

/-- A state's ten stores, then what a step did. -/
theorem Cu.put14 {W : World} {bs bo : Nat} {s0 s1 s2 s3 s4 s5 s6 s7 s8 s9 z0 z1 z2 z3 : Value} (h : Blk W bs 24 #[s0, s1, s2, s3, s4, s5, s6, s7, s8, s9]) (ho : Blk W bo 37 #[z0, z1, z2, z3]) (hne : bs ≠ bo) (p0 p1 p2 p3 p4 p5 p6 p7 p8 p9 o0 o1 o2 o3 : Value) :
    ∀ W', W' = ((((((((((((((W.setCell ⟨bs, 0, none⟩ p0).setCell ⟨bs, 1, none⟩ p1).setCell ⟨bs, 2, none⟩ p2).setCell ⟨bs, 3, none⟩ p3).setCell ⟨bs, 4, none⟩ p4).setCell ⟨bs, 5, none⟩ p5).setCell ⟨bs, 6, none⟩ p6).setCell ⟨bs, 7, none⟩ p7).setCell ⟨bs, 8, none⟩ p8).setCell ⟨bs, 9, none⟩ p9).setCell ⟨bo, 0, none⟩ o0).setCell ⟨bo, 1, none⟩ o1).setCell ⟨bo, 2, none⟩ o2).setCell ⟨bo, 3, none⟩ o3) → ∃ W1, (W.grownBy W1 (some bs) ∧ Blk W1 bs 24 #[p0, p1, p2, p3, p4, p5, p6, p7, p8, p9]) ∧ W1.grownBy W' (some bo) ∧ Blk W' bo 37 #[o0, o1, o2, o3] := by
  rintro W' rfl
  refine ⟨((((((((((W.setCell ⟨bs, 0, none⟩ p0).setCell ⟨bs, 1, none⟩ p1).setCell ⟨bs, 2, none⟩ p2).setCell ⟨bs, 3, none⟩ p3).setCell ⟨bs, 4, none⟩ p4).setCell ⟨bs, 5, none⟩ p5).setCell ⟨bs, 6, none⟩ p6).setCell ⟨bs, 7, none⟩ p7).setCell ⟨bs, 8, none⟩ p8).setCell ⟨bs, 9, none⟩ p9), ⟨?_, ?_⟩, ?_, ?_⟩
  · exact only_put (only_put (only_put (only_put (only_put (only_put (only_put (only_put (only_put (only_put (only_refl _ _) 0 p0) 1 p1) 2 p2) 3 p3) 4 p4) 5 p5) 6 p6) 7 p7) 8 p8) 9 p9
  · have b := ((((((((((h.put 0 p0).put 1 p1).put 2 p2).put 3 p3).put 4 p4).put 5 p5).put 6 p6).put 7 p7).put 8 p8).put 9 p9)
    simp only [List.setIfInBounds_toArray, List.set_cons_zero, List.set_cons_succ] at b
    exact b
  · exact only_put (only_put (only_put (only_put (only_refl _ _) 0 o0) 1 o1) 2 o2) 3 o3
  · have b := ((((((((((((((ho.far (p := ⟨bs, 0, none⟩) (Ne.symm hne) p0).far (p := ⟨bs, 1, none⟩) (Ne.symm hne) p1).far (p := ⟨bs, 2, none⟩) (Ne.symm hne) p2).far (p := ⟨bs, 3, none⟩) (Ne.symm hne) p3).far (p := ⟨bs, 4, none⟩) (Ne.symm hne) p4).far (p := ⟨bs, 5, none⟩) (Ne.symm hne) p5).far (p := ⟨bs, 6, none⟩) (Ne.symm hne) p6).far (p := ⟨bs, 7, none⟩) (Ne.symm hne) p7).far (p := ⟨bs, 8, none⟩) (Ne.symm hne) p8).far (p := ⟨bs, 9, none⟩) (Ne.symm hne) p9).put 0 o0).put 1 o1).put 2 o2).put 3 o3)
    simp only [List.setIfInBounds_toArray, List.set_cons_zero, List.set_cons_succ] at b
    exact b
theorem Cu.cells10 {W : World} {b : Nat} {t : TypeId} {s0 s1 s2 s3 s4 s5 s6 s7 s8 s9 : Value} (h : Blk W b t #[s0, s1, s2, s3, s4, s5, s6, s7, s8, s9]) : W.cell? ⟨b, 0, none⟩ = some s0 ∧ W.cell? ⟨b, 1, none⟩ = some s1 ∧ W.cell? ⟨b, 2, none⟩ = some s2 ∧ W.cell? ⟨b, 3, none⟩ = some s3 ∧ W.cell? ⟨b, 4, none⟩ = some s4 ∧ W.cell? ⟨b, 5, none⟩ = some s5 ∧ W.cell? ⟨b, 6, none⟩ = some s6 ∧ W.cell? ⟨b, 7, none⟩ = some s7 ∧ W.cell? ⟨b, 8, none⟩ = some s8 ∧ W.cell? ⟨b, 9, none⟩ = some s9 := ⟨h.cell 0, h.cell 1, h.cell 2, h.cell 3, h.cell 4, h.cell 5, h.cell 6, h.cell 7, h.cell 8, h.cell 9⟩
theorem Cu.free10 {W : World} {b : Nat} {t : TypeId} {s0 s1 s2 s3 s4 s5 s6 s7 s8 s9 : Value} (h : Blk W b t #[s0, s1, s2, s3, s4, s5, s6, s7, s8, s9]) : W.frozen? ⟨b, 0, none⟩ = false ∧ W.frozen? ⟨b, 1, none⟩ = false ∧ W.frozen? ⟨b, 2, none⟩ = false ∧ W.frozen? ⟨b, 3, none⟩ = false ∧ W.frozen? ⟨b, 4, none⟩ = false ∧ W.frozen? ⟨b, 5, none⟩ = false ∧ W.frozen? ⟨b, 6, none⟩ = false ∧ W.frozen? ⟨b, 7, none⟩ = false ∧ W.frozen? ⟨b, 8, none⟩ = false ∧ W.frozen? ⟨b, 9, none⟩ = false := ⟨h.free 0, h.free 1, h.free 2, h.free 3, h.free 4, h.free 5, h.free 6, h.free 7, h.free 8, h.free 9⟩
theorem Cu.cells4 {W : World} {b : Nat} {t : TypeId} {s0 s1 s2 s3 : Value} (h : Blk W b t #[s0, s1, s2, s3]) : W.cell? ⟨b, 0, none⟩ = some s0 ∧ W.cell? ⟨b, 1, none⟩ = some s1 ∧ W.cell? ⟨b, 2, none⟩ = some s2 ∧ W.cell? ⟨b, 3, none⟩ = some s3 := ⟨h.cell 0, h.cell 1, h.cell 2, h.cell 3⟩
theorem Cu.free4 {W : World} {b : Nat} {t : TypeId} {s0 s1 s2 s3 : Value} (h : Blk W b t #[s0, s1, s2, s3]) : W.frozen? ⟨b, 0, none⟩ = false ∧ W.frozen? ⟨b, 1, none⟩ = false ∧ W.frozen? ⟨b, 2, none⟩ = false ∧ W.frozen? ⟨b, 3, none⟩ = false := ⟨h.free 0, h.free 1, h.free 2, h.free 3⟩
end Go.Proofs.YtiicoabkhponmaaDoor
