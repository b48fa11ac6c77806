/- The document's rows of bits: loads and stores of a whole row; Raise, Open, Take, by contract. -/
import Derived.Test.YtbbgijjeimjgoaaLB1
import Derived.Test.YtbbgijjeimjgoaaFQ0
namespace Go.Proofs.Ytbbgijjeimjgoaa
open Go.RowKit Go.Lib
set_option linter.unusedVariables false
set_option maxRecDepth 8000

theorem Lt.row_info : (Try.prog.info? 46).map (·.size) = some 16 := by kernel_rfl
theorem Lt.rowC_size (r : Nat → Nat) (d : Nat → Bool) : (Lt.rowC r d).size = 16 := rfl
theorem Lt.rowC_one (r : Nat → Nat) (d : Nat → Bool) : ∀ v ∈ (Lt.rowC r d).toList, v.oneCell' = true := by
  intro v hv
  simp [Lt.rowC] at hv
  rcases hv with rfl | rfl | rfl | rfl | rfl | rfl | rfl | rfl | rfl | rfl | rfl | rfl | rfl | rfl | rfl | rfl <;> rfl
theorem Lt.add_pl (b o j : Nat) : (⟨b, o, none⟩ : Addr).add j = ⟨b, o + j, none⟩ := by unfold Addr.add; split <;> simp_all
theorem Lt.run_ld (w : World) (b o : Nat) (cs : Array Value) (hs : cs.size = 16) (hc : ∀ j u, cs[j]? = some u → w.cell? ⟨b, o + j, none⟩ = some u) : (Instr.loadAt 46 (.pointer (some ⟨b, o, none⟩))).run Try.prog w = .ok (.agg cs) w := by
  have hl : (loadCells ⟨b, o, none⟩ cs.toList.length).run Try.prog w = .ok cs.toList.toArray w :=
    run_loadCells_list (P := Try.prog) w ⟨b, o, none⟩ cs.toList (fun j v hv => by
      rw [Lt.add_pl]
      exact hc j v (by simpa using hv))
  have hi := Lt.row_info
  cases hq : Try.prog.info? 46 with
  | none => simp [hq] at hi
  | some i =>
    have hs2 : i.size = cs.size := by rw [hs]; simpa [hq] using hi
    have hagg : (isAgg 46).run Try.prog w = .ok true w := by
      unfold isAgg
      rw [Sem.run_bind, run_underlying Try.underlying46 w]
      rfl
    simp only [Array.length_toList, Array.toArray_toList] at hl
    simp only [Instr.loadAt, Instr.sureAddr, Sem.run_bind, Sem.run_pure, Result.andThen]
    simp [loadVar, Sem.run_bind, hagg, sizeOf, typeInfo, hq, hs2, hl]
theorem Lt.run_st (w : World) (b o : Nat) (cs : Array Value) (hs : cs.size = 16) (h1 : ∀ v ∈ cs.toList, v.oneCell' = true) (hc : ∀ j, j < 16 → (w.cell? ⟨b, o + j, none⟩).isSome = true) (hf : ∀ j, j < 16 → w.frozen? ⟨b, o + j, none⟩ = false) :
    (Instr.storeAt 46 (.pointer (some ⟨b, o, none⟩)) (.agg cs)).run Try.prog w = .ok () (w.setCells b o cs.toList) := by
  have hst := run_storeCells_cells (P := Try.prog) b o cs.toList 0 w (fun j hj => by simpa using hc j (by simp at hj; omega)) (fun j hj => by simpa using hf j (by simp at hj; omega)) h1
  have hi := Lt.row_info
  cases hq : Try.prog.info? 46 with
  | none => simp [hq] at hi
  | some i =>
    have hs2 : i.size = cs.size := by rw [hs]; simpa [hq] using hi
    simp only [Instr.storeAt, Instr.sureAddr, Sem.run_bind, Sem.run_pure, Result.andThen]
    simp only [Nat.add_zero] at hst
    simp [storeVar, sizeOf, typeInfo, hq, Value.cells, hs2, hst]
theorem Lt.wp_ld {ops : Array Oper} {Q : Exit → Act → World → Prop} {rest : List Oper} {a : Act} {o : Oper} (hg : o.guard = none) (p : Operand) (hop : o.op = Op.load 46 p) (w : World) (b f : Nat) (cs : Array Value) (hs : cs.size = 16) (hc : ∀ j u, cs[j]? = some u → w.cell? ⟨b, f + j, none⟩ = some u) (hp : a.eval p = .pointer (some ⟨b, f, none⟩)) (hK : wpList Try.prog ops Q rest (a.put o.dst (.agg cs)) w) :
    wpList Try.prog ops Q (o :: rest) a w := by
  have hrun := Lt.run_ld w b f cs hs hc
  refine wpList_plain hg fun K' hK' => ?_
  unfold Oper.wp
  simp [execOp, hop, hp, hrun, Result.andThen]
  exact hK' _ _ hK
theorem Lt.wp_st {ops : Array Oper} {Q : Exit → Act → World → Prop} {rest : List Oper} {a : Act} {o : Oper} (hg : o.guard = none) (p v : Operand) (hop : o.op = Op.store 46 p v) (w : World) (b f : Nat) (cs : Array Value) (hs : cs.size = 16) (h1 : ∀ v ∈ cs.toList, v.oneCell' = true) (hc : ∀ j, j < 16 → (w.cell? ⟨b, f + j, none⟩).isSome = true) (hf : ∀ j, j < 16 → w.frozen? ⟨b, f + j, none⟩ = false) (hp : a.eval p = .pointer (some ⟨b, f, none⟩)) (hv : a.eval v = .agg cs) (hK : wpList Try.prog ops Q rest (a.put o.dst undef) (w.setCells b f cs.toList)) :
    wpList Try.prog ops Q (o :: rest) a w := by
  have hrun := Lt.run_st w b f cs hs h1 hc hf
  refine wpList_plain hg fun K' hK' => ?_
  unfold Oper.wp
  simp [execOp, hop, hp, hv, hrun, Result.andThen]
  exact hK' _ _ hK
theorem Lt.blk_set {w : World} {b : Nat} {t : TypeId} {old cs : Array Value} (h : Blk w b t old) (hs : old.size = cs.size) : Blk (w.setCells b 0 cs.toList) b t cs := by
  have key : ∀ (vs : List Value) (o : Nat) (W : World) (cur : Array Value), Blk W b t cur → o + vs.length ≤ cur.size → Blk (W.setCells b o vs) b t (cur.toList.take o ++ vs ++ cur.toList.drop (o + vs.length)).toArray := by
    intro vs
    induction vs with
    | nil => intro o W cur h _; simpa [World.setCells] using h
    | cons v r ih =>
      intro o W cur h hl
      simp only [List.length_cons] at hl
      have hp := h.put o v
      have hk := ih (o + 1) _ _ hp (by simp; omega)
      have e : (cur.setIfInBounds o v).toList.take (o + 1) ++ r ++ (cur.setIfInBounds o v).toList.drop (o + 1 + r.length) = cur.toList.take o ++ (v :: r) ++ cur.toList.drop (o + (v :: r).length) := by
        apply List.ext_getElem?
        intro i
        have ho : o < cur.toList.length := by simp; omega
        have e1 : (cur.setIfInBounds o v).toList = cur.toList.set o v := by simp
        rw [e1, List.take_set, List.drop_set_of_lt (by omega)]
        have e2 : (cur.toList.take (o + 1)).set o v = cur.toList.take o ++ [v] := by
          rw [List.take_succ_eq_append_getElem ho, List.set_append_right _ _ (by rw [List.length_take]; omega), List.length_take, Nat.min_eq_left (Nat.le_of_lt ho), Nat.sub_self]
          rfl
        rw [e2]
        simp [show o + 1 + r.length = o + (r.length + 1) by omega]
      rw [World.setCells, ← e]
      exact hk
  have := key cs.toList 0 w old h (by simp; omega)
  rw [List.take_zero, List.nil_append, Nat.zero_add, List.drop_of_length_le (by simp; omega), List.append_nil] at this
  simpa using this
theorem Lt.blk_at {w : World} {b : Nat} {t : TypeId} {cs : Array Value} (h : Blk w b t cs) : ∀ j u, cs[j]? = some u → w.cell? ⟨b, 0 + j, none⟩ = some u := fun j u hu => by rw [Nat.zero_add, h.cell j]; exact hu
theorem Lt.blk_some {w : World} {b : Nat} {t : TypeId} {cs : Array Value} (h : Blk w b t cs) (hs : cs.size = 16) : ∀ j, j < 16 → (w.cell? ⟨b, 0 + j, none⟩).isSome = true := fun j hj => by rw [Nat.zero_add, h.cell j, Array.getElem?_eq_getElem (by omega)]; rfl
theorem Lt.blk_free {w : World} {b : Nat} {t : TypeId} {cs : Array Value} (h : Blk w b t cs) : ∀ j, j < 16 → w.frozen? ⟨b, 0 + j, none⟩ = false := fun j hj => by rw [Nat.zero_add]; exact h.free j
/-- The two boxes that a call begins with: its row, and its result. -/
def Lt.z0 : Nat → Nat := fun _ => 0
def Lt.f0 : Nat → Bool := fun _ => false
theorem Lt.two_box (w : World) (cs : Array Value) : ∃ W, W = (w.alloc (.cells cs 46)).alloc (.cells (Lt.rowC Lt.z0 Lt.f0) 46) ∧ Blk W w.heap.size 46 cs ∧ Blk W (w.heap.size + 1) 46 (Lt.rowC Lt.z0 Lt.f0) ∧ w.grownBy W none := by
  obtain ⟨W1, h1, g1, p1, z1⟩ := Lt.box1 w 46 cs
  obtain ⟨W2, h2, g2, p2, z2⟩ := Lt.box1 W1 46 (Lt.rowC Lt.z0 Lt.f0)
  exact ⟨W2, by rw [h2, h1], p1.only g2 (by simp), by rw [← z1]; exact p2, only_trans g1 g2⟩
/-- Only blocks that are new were written. -/
structure Lt.Nw (w w' : World) : Prop where
  os : w'.os = w.os
  tape : w'.tape = w.tape
  output : w'.output = w.output
  size : w.heap.size ≤ w'.heap.size
  block : ∀ i, i < w.heap.size → w'.heap[i]? = w.heap[i]?
theorem Lt.Nw.of {w w' : World} (h : w.grownBy w' none) : Lt.Nw w w' := ⟨h.os, h.tape, h.output, h.size, fun i hi => h.block i hi (by simp)⟩
theorem Lt.Nw.out {w w' : World} (h : Lt.Nw w w') : w.grownBy w' none := ⟨h.os, h.tape, h.output, h.size, fun i hi _ => h.block i hi⟩
theorem Lt.Nw.put {w w' w2 : World} {b : Nat} (h : Lt.Nw w w') (g : w'.grownBy w2 (some b)) (hb : w.heap.size ≤ b) : Lt.Nw w w2 :=
  ⟨g.os.trans h.os, g.tape.trans h.tape, g.output.trans h.output, Nat.le_trans h.size g.size, fun i hi => (g.block i (Nat.lt_of_lt_of_le hi h.size) (fun e => by injection e with e; omega)).trans (h.block i hi)⟩
theorem Lt.Nw.grow {w w' w2 : World} (h : Lt.Nw w w') (g : w'.grownBy w2 none) : Lt.Nw w w2 := Lt.Nw.of (only_trans h.out g)

def Lt.mixR (r r' : Nat → Nat) (k : Nat) : Nat → Nat := fun i => if i < k then r' i else r i
def Lt.mixD (d d' : Nat → Bool) (k : Nat) : Nat → Bool := fun i => if i < k then d' i else d i
theorem Lt.mixR_0 (r r' : Nat → Nat) : Lt.mixR r r' 0 = r := by funext i; simp [Lt.mixR]
theorem Lt.mixD_0 (r r' : Nat → Bool) : Lt.mixD r r' 0 = r := by funext i; simp [Lt.mixD]
theorem Lt.mixR_at (r r' : Nat → Nat) (k : Nat) : Lt.mixR r r' k k = r k := by simp [Lt.mixR]
theorem Lt.mixD_at (r r' : Nat → Bool) (k : Nat) : Lt.mixD r r' k k = r k := by simp [Lt.mixD]
theorem Lt.rowC_ext {r r' : Nat → Nat} {d d' : Nat → Bool} (h1 : ∀ i, i < 8 → r i = r' i) (h2 : ∀ i, i < 8 → d i = d' i) : Lt.rowC r d = Lt.rowC r' d' := by
  unfold Lt.rowC
  simp [h1, h2]
theorem Lt.mixR_put (r r' : Nat → Nat) (d : Nat → Bool) {k : Nat} (h : k < 8) : (Lt.rowC (Lt.mixR r r' k) d).setIfInBounds k (.int .i64 (r' k)) = Lt.rowC (Lt.mixR r r' (k + 1)) d := by
  have := Lt.rowC_putr (Lt.mixR r r' k) (Lt.mixR r r' (k + 1)) d h (fun i hi hk => by
    unfold Lt.mixR
    by_cases q : i < k
    · rw [if_pos q, if_pos (by omega)]
    · rw [if_neg q, if_neg (by omega)])
  rw [← this]
  simp [Lt.mixR]
theorem Lt.mixD_put (r : Nat → Nat) (d d' : Nat → Bool) {k : Nat} (h : k < 8) : (Lt.rowC r (Lt.mixD d d' k)).setIfInBounds (8 + k) (.bool (d' k)) = Lt.rowC r (Lt.mixD d d' (k + 1)) := by
  have := Lt.rowC_putd r (Lt.mixD d d' k) (Lt.mixD d d' (k + 1)) h (fun i hi hk => by
    unfold Lt.mixD
    by_cases q : i < k
    · rw [if_pos q, if_pos (by omega)]
    · rw [if_neg q, if_neg (by omega)])
  rw [← this]
  simp [Lt.mixD]
theorem Lt.mixR_8 (r r' : Nat → Nat) (d : Nat → Bool) : Lt.rowC (Lt.mixR r r' 8) d = Lt.rowC r' d := Lt.rowC_ext (fun i hi => by simp [Lt.mixR, hi]) (fun _ _ => rfl)
theorem Lt.mix_8 (r r' : Nat → Nat) (d d' : Nat → Bool) : Lt.rowC (Lt.mixR r r' 8) (Lt.mixD d d' 8) = Lt.rowC r' d' := Lt.rowC_ext (fun i hi => by simp [Lt.mixR, hi]) (fun i hi => by simp [Lt.mixD, hi])
theorem Lt.blk_put_r {w : World} {b : Nat} {r r' : Nat → Nat} {d : Nat → Bool} {k : Nat} (h : Blk w b 46 (Lt.rowC (Lt.mixR r r' k) d)) (hk : k < 8) : Blk (w.setCell ⟨b, k, none⟩ (.int .i64 (r' k))) b 46 (Lt.rowC (Lt.mixR r r' (k + 1)) d) := by
  have := h.put k (.int .i64 (r' k))
  rw [Lt.mixR_put r r' d hk] at this
  exact this
theorem Lt.blk_put_d {w : World} {b : Nat} {r : Nat → Nat} {d d' : Nat → Bool} {k : Nat} (h : Blk w b 46 (Lt.rowC r (Lt.mixD d d' k))) (hk : k < 8) : Blk (w.setCell ⟨b, 8 + k, none⟩ (.bool (d' k))) b 46 (Lt.rowC r (Lt.mixD d d' (k + 1))) := by
  have := h.put (8 + k) (.bool (d' k))
  rw [Lt.mixD_put r d d' hk] at this
  exact this
theorem Lt.run_lv {w : World} {b : Nat} {cs : Array Value} (h : Blk w b 46 cs) (hs : cs.size = 16) : (loadVar 46 ⟨b, 0, none⟩).run Try.prog w = .ok (.agg cs) w :=
  run_loadVar_row w b 46 46 cs (0, 0) _ h Try.underlying46 rfl (by rw [Lt.row_info, hs])
theorem Lt.res_cell {fn : Func} {p : Tmp} (h : fn.results = #[.cell p 46]) (tmps : Array Value) (w : World) (b : Nat) (cs : Array Value) (hp : tmps.getD p undef = .pointer (some ⟨b, 0, none⟩)) (hl : (loadVar 46 ⟨b, 0, none⟩).run Try.prog w = .ok (.agg cs) w) : (results fn tmps).run Try.prog w = .ok (.agg cs) w := by
  have hp2 : tmps[p]?.getD undef = .pointer (some ⟨b, 0, none⟩) := by simpa using hp
  simp only [results, h]
  simp [Sem.run_bind, Result.andThen, hp2, asAddr, hl]
theorem Lt.res_cell_tmp {fn : Func} {p u : Tmp} (h : fn.results = #[.cell p 46, .tmp u]) (tmps : Array Value) (w : World) (b : Nat) (cs : Array Value) (hp : tmps.getD p undef = .pointer (some ⟨b, 0, none⟩)) (hl : (loadVar 46 ⟨b, 0, none⟩).run Try.prog w = .ok (.agg cs) w) : (results fn tmps).run Try.prog w = .ok (.tuple #[.agg cs, tmps.getD u undef]) w := by
  have hp2 : tmps[p]?.getD undef = .pointer (some ⟨b, 0, none⟩) := by simpa using hp
  simp only [results, h]
  simp [Sem.run_bind, Result.andThen, hp2, asAddr, hl]
def Lt.RowE (j n m : Nat) (e : Ending) : Prop := ∃ r d, e = .returned (.agg (Lt.rowC r d)) ∧ Lt.Rw j n m r d
set_option maxRecDepth 20000 in
set_option maxHeartbeats 3200000 in
theorem Lt.rraise_any (j n m bt : Nat) (r : Nat → Nat) (d : Nat → Bool) (w : World) (h : Lt.Rw j n m r d) (hj : j ≤ 1000) (hb : bt < 256) : Calls Try.prog 16 #[.agg (Lt.rowC r d), .int .i64 bt] w fun e w' => Lt.RowE (j + 1) (n ||| bt) m e ∧ w.grownBy w' none := by
  obtain ⟨W, hW, P1, P2, G⟩ := Lt.two_box w (Lt.rowC r d)
  obtain ⟨r', hr'⟩ : ∃ r' : Nat → Nat, r' = fun i => if bt.testBit i then r i + 1 else r i := ⟨_, rfl⟩
  have HR := Lib.hid (show Lt.Rw (j + 1) (n ||| bt) m r' d from by rw [hr']; exact h.raise hb)
  have HT := Lib.hid (show ∀ k, bt.testBit k = true → ((r k : Nat) : Int) + 1 = (r' k : Nat) from fun k hk => by rw [hr']; simp [hk])
  have HF := Lib.hid (show ∀ k, bt.testBit k = false → r' k = r k from fun k hk => by rw [hr']; simp [hk])
  have HB := Lib.hid h.hb
  have HBT := Lib.hid hb
  have HM0 := Lib.hid (show Blk W w.heap.size 46 (Lt.rowC (Lt.mixR r r' 0) d) from by rw [Lt.mixR_0]; exact P1)
  have HP2 := Lib.hid P2
  have HG := Lib.hid (Lt.Nw.of G)
  have HZ := Lib.hid P2.lt
  clear hr' h P1 P2 G hb
  go_enter Try.func16, Try.ntmps16
  go_upto_region 1 with (fail)
  have hW' : W = (w.alloc (.cells (Lt.rowC r d) 46)).alloc (.cells #[.int .i64 0, .int .i64 0, .int .i64 0, .int .i64 0, .int .i64 0, .int .i64 0, .int .i64 0, .int .i64 0, .bool false, .bool false, .bool false, .bool false, .bool false, .bool false, .bool false, .bool false] 46) := hW
  rw [← hW']
  clear hW hW'
  go_wp2
  go_loopw [5] (fun y wr => ∃ k : Nat, y = .int .i64 k ∧ k ≤ 8 ∧ Hid (Blk wr w.heap.size 46 (Lt.rowC (Lt.mixR r r' k) d)) ∧ Hid (Blk wr (w.heap.size + 1) 46 (Lt.rowC Lt.z0 Lt.f0)) ∧ Hid (Lt.Nw w wr)) (fun y _ => 8 - (intOf y).toNat)
  case atStart => exact ⟨0, rfl, Nat.zero_le _, HM0, HP2, HG⟩
  case round =>
    obtain ⟨k, rfl, hk, HM, HQ, HN⟩ := hrel
    clear HM0 HP2 HG HZ
    by_cases hin : k < 8
    · have i1 : (k : Int) < 8 := by omega
      have i0 : (0 : Int) ≤ (k : Int) := by omega
      have HI := Lib.hid (show k + 1 ≤ 8 from hin)
      have HC := Lib.hid (Lt.bit_any bt k HBT.out hin wr)
      cases ht : bt.testBit k with
      | true =>
        rw [ht] at HC
        have c0 := Lt.row_r HM.out hin
        rw [Lt.mixR_at] at c0
        have f0 := HM.out.free k
        have u1 : IntKind.i64.wrap (((r k : Nat) : Int) + 1) = (r' k : Nat) := by
          rw [← HT.out k ht, IntKind.wrap_i64]
          have := HB.out k
          omega
        have hb0 : ((r k : Nat) : Int) + 1 ≤ 9223372036854775807 := by have := HB.out k; omega
        have u2 := HT.out k ht
        have NM := Lib.hid (Lt.blk_put_r HM.out hin)
        have NQ := Lib.hid (HQ.out.far (p := ⟨w.heap.size, k, none⟩) (by simp) (.int .i64 (r' k)))
        have NN := Lib.hid (HN.out.put (only_put (only_refl wr (some w.heap.size)) k (.int .i64 (r' k))) (Nat.le_refl _))
        clear ht HM HQ HN hk
        go_wp2_with (go_at_call 22; (with_reducible refine HC.out.mono ?_); rintro e w' ⟨rfl, rfl⟩)
        go_roundw
        case rel => exact ⟨k + 1, by go_num, HI.out, by first | exact NM | trace_state, NQ, NN⟩
        case measure =>
          have := HI.out
          simp [intOf]
          omega
      | false =>
        rw [ht] at HC
        have NM := Lib.hid (show Blk wr w.heap.size 46 (Lt.rowC (Lt.mixR r r' (k + 1)) d) from by
          have : Lt.rowC (Lt.mixR r r' (k + 1)) d = Lt.rowC (Lt.mixR r r' k) d := Lt.rowC_ext (fun i hi => by
            unfold Lt.mixR
            by_cases q : i < k
            · rw [if_pos q, if_pos (by omega)]
            · by_cases q2 : i = k
              · subst q2
                rw [if_neg q, if_pos (by omega), HF.out i ht]
              · rw [if_neg q, if_neg (by omega)]) (fun _ _ => rfl)
          rw [this]; exact HM.out)
        clear ht HM hk
        go_wp2_with (go_at_call 22; (with_reducible refine HC.out.mono ?_); rintro e w' ⟨rfl, rfl⟩)
        go_roundw
        case rel => exact ⟨k + 1, by go_num, HI.out, NM, HQ, HN⟩
        case measure =>
          have := HI.out
          simp [intOf]
          omega
    · obtain rfl : k = 8 := by omega
      have hm := HM.out
      rw [Lt.mixR_8] at hm
      have HX := Lib.hid hm
      have FB := Lib.hid (Lt.blk_set (cs := Lt.rowC r' d) HQ.out rfl)
      have FN := Lib.hid (HN.out.put (only_cells wr (w.heap.size + 1) 0 (Lt.rowC r' d).toList) (Nat.le_succ _))
      have HS := Lib.hid (Lt.rowC_size r' d)
      have H1 := Lib.hid (Lt.rowC_one r' d)
      obtain ⟨cs, hcs⟩ : ∃ cs, cs = Lt.rowC r' d := ⟨_, rfl⟩
      rw [← hcs] at HX FB FN HS H1
      have HCS := Lib.hid hcs
      clear hm HM hin hcs
      go_upto_region 6 with (fail)
      go_wp2_with (first
        | (refine Lt.wp_ld (o := ⟨some 20, .load 46 (.tmp 2), _, _, _, none⟩) rfl (.tmp 2) rfl wr w.heap.size 0 cs HS.out (Lt.blk_at HX.out) rfl ?_)
        | (refine Lt.wp_st (o := ⟨none, .store 46 (.tmp 4) (.tmp 20), _, _, _, none⟩) rfl (.tmp 4) (.tmp 20) rfl wr (w.heap.size + 1) 0 cs HS.out H1.out (Lt.blk_some HQ.out rfl) (Lt.blk_free HQ.out) rfl rfl ?_))
      exact bodyPost_ret (Lt.res_cell Try.results16 _ _ _ cs rfl (Lt.run_lv FB.out HS.out)) rfl ⟨⟨r', d, by rw [HCS.out], HR.out⟩, FN.out.out⟩
end Go.Proofs.Ytbbgijjeimjgoaa
