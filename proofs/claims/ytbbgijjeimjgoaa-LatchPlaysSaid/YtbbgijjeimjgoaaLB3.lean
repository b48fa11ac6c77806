/- The document's rows of bits: Take and Open, by contract. -/
import Derived.Test.YtbbgijjeimjgoaaLB2
namespace Go.Proofs.Ytbbgijjeimjgoaa
open Go.RowKit Go.Lib
set_option linter.unusedVariables false
set_option maxRecDepth 8000

theorem Lt.b8_info : (Try.prog.info? 44).map (·.size) = some 8 := by kernel_rfl
def Lt.ff8 : Array Value := #[.bool false, .bool false, .bool false, .bool false, .bool false, .bool false, .bool false, .bool false]
theorem Lt.run_s8 (w : World) (b o : Nat) (hc : ∀ j, j < 8 → (w.cell? ⟨b, o + j, none⟩).isSome = true) (hf : ∀ j, j < 8 → w.frozen? ⟨b, o + j, none⟩ = false) :
    (Instr.storeAt 44 (.pointer (some ⟨b, o, none⟩)) (.agg Lt.ff8)).run Try.prog w = .ok () (w.setCells b o Lt.ff8.toList) := by
  have hst := run_storeCells_cells (P := Try.prog) b o Lt.ff8.toList 0 w (fun j hj => by simpa using hc j (by simp [Lt.ff8] at hj; omega)) (fun j hj => by simpa using hf j (by simp [Lt.ff8] at hj; omega)) (by
    intro v hv
    simp [Lt.ff8] at hv
    subst hv
    rfl)
  have hi := Lt.b8_info
  cases hq : Try.prog.info? 44 with
  | none => simp [hq] at hi
  | some i =>
    have hs2 : i.size = Lt.ff8.size := by rw [show Lt.ff8.size = 8 from rfl]; simpa [hq] using hi
    simp only [Instr.storeAt, Instr.sureAddr, Sem.run_bind, Sem.run_pure, Result.andThen]
    simp only [Nat.add_zero] at hst
    simp [storeVar, sizeOf, typeInfo, hq, Value.cells, hs2, hst]
theorem Lt.wp_s8 {ops : Array Oper} {Q : Exit → Act → World → Prop} {rest : List Oper} {a : Act} {o : Oper} (hg : o.guard = none) (p v : Operand) (hop : o.op = Op.store 44 p v) (w : World) (b f : Nat) (hc : ∀ j, j < 8 → (w.cell? ⟨b, f + j, none⟩).isSome = true) (hf : ∀ j, j < 8 → w.frozen? ⟨b, f + j, none⟩ = false) (hp : a.eval p = .pointer (some ⟨b, f, none⟩)) (hv : a.eval v = .agg Lt.ff8) (hK : wpList Try.prog ops Q rest (a.put o.dst undef) (w.setCells b f Lt.ff8.toList)) :
    wpList Try.prog ops Q (o :: rest) a w := by
  have hrun := Lt.run_s8 w b f hc hf
  refine wpList_plain hg fun K' hK' => ?_
  unfold Oper.wp
  simp [execOp, hop, hp, hv, hrun, Result.andThen]
  exact hK' _ _ hK
theorem Lt.blk_s8 {w : World} {b : Nat} {r : Nat → Nat} {d : Nat → Bool} (h : Blk w b 46 (Lt.rowC r d)) : Blk (w.setCells b 8 Lt.ff8.toList) b 46 (Lt.rowC r Lt.f0) := by
  have := (((((((h.put 8 (.bool false)).put 9 (.bool false)).put 10 (.bool false)).put 11 (.bool false)).put 12 (.bool false)).put 13 (.bool false)).put 14 (.bool false)).put 15 (.bool false)
  have e : ((((((((Lt.rowC r d).setIfInBounds 8 (.bool false)).setIfInBounds 9 (.bool false)).setIfInBounds 10 (.bool false)).setIfInBounds 11 (.bool false)).setIfInBounds 12 (.bool false)).setIfInBounds 13 (.bool false)).setIfInBounds 14 (.bool false)).setIfInBounds 15 (.bool false) = Lt.rowC r Lt.f0 := by simp [Lt.rowC, Lt.f0]
  rw [e] at this
  simpa [World.setCells, Lt.ff8] using this
def Lt.RowX (j n m : Nat) (x : Nat) (e : Ending) : Prop := ∃ r d, e = .returned (.tuple #[.agg (Lt.rowC r d), .int .i64 x]) ∧ Lt.Rw j n m r d
set_option maxRecDepth 20000 in
set_option maxHeartbeats 3200000 in
theorem Lt.rtake_any (j n m : Nat) (r : Nat → Nat) (d : Nat → Bool) (w : World) (h : Lt.Rw j n m r d) : Calls Try.prog 18 #[.agg (Lt.rowC r d)] w fun e w' => Lt.RowX j n 0 m e ∧ w.grownBy w' none := by
  obtain ⟨W, hW, P1, P2, G⟩ := Lt.two_box w (Lt.rowC r d)
  have HR := Lib.hid (show Lt.Rw j n 0 r Lt.f0 from h.take)
  have HD := Lib.hid (Lt.rdelivered_any j n m r d W h)
  have HP1 := Lib.hid P1
  have HP2 := Lib.hid P2
  have HG := Lib.hid (Lt.Nw.of G)
  have HL := Lib.hid (show w.heap.size < W.heap.size ∧ w.heap.size + 1 < W.heap.size from ⟨P1.lt, P2.lt⟩)
  have HS := Lib.hid (Lt.rowC_size r d)
  have H1 := Lib.hid (Lt.rowC_one r Lt.f0)
  clear h P1 P2 G
  go_enter Try.func18, Try.ntmps18
  go_upto_region 1 with (fail)
  have hW' : W = (w.alloc (.cells (Lt.rowC r d) 46)).alloc (.cells #[.int .i64 0, .int .i64 0, .int .i64 0, .int .i64 0, .int .i64 0, .int .i64 0, .int .i64 0, .int .i64 0, .bool false, .bool false, .bool false, .bool false, .bool false, .bool false, .bool false, .bool false] 46) := hW
  rw [← hW']
  clear hW hW'
  go_upto_region 2 with (first
    | (refine Lt.wp_ld (o := ⟨some 5, .load 46 (.tmp 1), _, _, _, none⟩) rfl (.tmp 1) rfl W w.heap.size 0 (Lt.rowC r d) HS.out (Lt.blk_at HP1.out) rfl ?_)
    | (go_at_call 20; (with_reducible refine HD.out.mono ?_); rintro e w2 ⟨rfl, g2⟩; have Q1 := Lib.hid (HP1.out.only g2 (by simp)); have Q2 := Lib.hid (HP2.out.only g2 (by simp)); have N2 := Lib.hid (HG.out.grow g2); clear g2))
  have R1 := Lib.hid (Lt.blk_s8 Q1.out)
  have R2 := Lib.hid (Q2.out.only (only_cells w2 w.heap.size 8 Lt.ff8.toList) (by simp))
  have N3 := Lib.hid (N2.out.put (only_cells w2 w.heap.size 8 Lt.ff8.toList) (Nat.le_refl _))
  have HC8 := Lib.hid (show ∀ j, j < 8 → (w2.cell? ⟨w.heap.size, 8 + j, none⟩).isSome = true from fun j hj => by rw [Lt.row_d Q1.out hj]; rfl)
  have HF8 := Lib.hid (show ∀ j, j < 8 → w2.frozen? ⟨w.heap.size, 8 + j, none⟩ = false from fun j hj => Q1.out.free _)
  go_upto_region 3 with (refine Lt.wp_s8 (o := ⟨none, .store 44 (.tmp 8) (.tmp 7), _, _, _, none⟩) rfl (.tmp 8) (.tmp 7) rfl w2 w.heap.size 8 HC8.out HF8.out rfl rfl ?_)
  obtain ⟨w3, hw3⟩ : ∃ w3, w3 = w2.setCells w.heap.size 8 Lt.ff8.toList := ⟨_, rfl⟩
  rw [← hw3] at R1 R2 N3 ⊢
  clear hw3 HC8 HF8 Q1 Q2 N2 HP1 HP2 HG HD
  have FB := Lib.hid (Lt.blk_set (cs := Lt.rowC r Lt.f0) R2.out rfl)
  have FN := Lib.hid (N3.out.put (only_cells w3 (w.heap.size + 1) 0 (Lt.rowC r Lt.f0).toList) (Nat.le_succ _))
  have HS2 := Lib.hid (Lt.rowC_size r Lt.f0)
  obtain ⟨cs, hcs⟩ : ∃ cs, cs = Lt.rowC r Lt.f0 := ⟨_, rfl⟩
  rw [← hcs] at R1 FB FN H1 HS2
  have HCS := Lib.hid hcs
  clear hcs
  go_wp2_with (first
    | (refine Lt.wp_ld (o := ⟨some 9, .load 46 (.tmp 1), _, _, _, none⟩) rfl (.tmp 1) rfl w3 w.heap.size 0 cs HS2.out (Lt.blk_at R1.out) rfl ?_)
    | (refine Lt.wp_st (o := ⟨none, .store 46 (.tmp 2) (.tmp 9), _, _, _, none⟩) rfl (.tmp 2) (.tmp 9) rfl w3 (w.heap.size + 1) 0 cs HS2.out H1.out (Lt.blk_some R2.out rfl) (Lt.blk_free R2.out) rfl rfl ?_))
  exact bodyPost_ret (Lt.res_cell_tmp Try.results18 _ _ _ cs rfl (Lt.run_lv FB.out HS2.out)) rfl ⟨⟨r, Lt.f0, by rw [HCS.out]; rfl, HR.out⟩, FN.out.out⟩
set_option maxRecDepth 20000 in
set_option maxHeartbeats 3200000 in
theorem Lt.ropen_any (j n m : Nat) (r : Nat → Nat) (d : Nat → Bool) (w : World) (h : Lt.Rw j n m r d) : Calls Try.prog 17 #[.agg (Lt.rowC r d)] w fun e w' => Lt.RowX j 0 (m ||| n) n e ∧ w.grownBy w' none := by
  obtain ⟨W, hW, P1, P2, G⟩ := Lt.two_box w (Lt.rowC r d)
  obtain ⟨d', hd'⟩ : ∃ d' : Nat → Bool, d' = fun i => d i || decide (0 < r i) := ⟨_, rfl⟩
  have HR := Lib.hid (show Lt.Rw j 0 (m ||| n) Lt.z0 d' from by rw [hd']; exact h.open)
  have HD := Lib.hid (Lt.rlatched_any j n m r d W h)
  have HV := Lib.hid (show ∀ i, d' i = (d i || decide (0 < r i)) from fun i => by rw [hd'])
  have HP1 := Lib.hid P1
  have HP2 := Lib.hid P2
  have HG := Lib.hid (Lt.Nw.of G)
  have HS := Lib.hid (Lt.rowC_size r d)
  have H1 := Lib.hid (Lt.rowC_one Lt.z0 d')
  clear h P1 P2 G hd'
  go_enter Try.func17, Try.ntmps17
  go_upto_region 1 with (fail)
  have hW' : W = (w.alloc (.cells (Lt.rowC r d) 46)).alloc (.cells #[.int .i64 0, .int .i64 0, .int .i64 0, .int .i64 0, .int .i64 0, .int .i64 0, .int .i64 0, .int .i64 0, .bool false, .bool false, .bool false, .bool false, .bool false, .bool false, .bool false, .bool false] 46) := hW
  rw [← hW']
  clear hW hW'
  go_upto_region 2 with (first
    | (refine Lt.wp_ld (o := ⟨some 6, .load 46 (.tmp 1), _, _, _, none⟩) rfl (.tmp 1) rfl W w.heap.size 0 (Lt.rowC r d) HS.out (Lt.blk_at HP1.out) rfl ?_)
    | (go_at_call 19; (with_reducible refine HD.out.mono ?_); rintro e w2 ⟨rfl, g2⟩; have Q1 := Lib.hid (HP1.out.only g2 (by simp)); have Q2 := Lib.hid (HP2.out.only g2 (by simp)); have N2 := Lib.hid (HG.out.grow g2); clear g2))
  replace Q1 := Lib.hid (show Blk w2 w.heap.size 46 (Lt.rowC (Lt.mixR r Lt.z0 0) (Lt.mixD d d' 0)) from by rw [Lt.mixR_0, Lt.mixD_0]; exact Q1.out)
  clear HP1 HP2 HG HD
  go_wp2
  go_loopw [5] (fun y wr => ∃ k : Nat, y = .int .i64 k ∧ k ≤ 8 ∧ Hid (Blk wr w.heap.size 46 (Lt.rowC (Lt.mixR r Lt.z0 k) (Lt.mixD d d' k))) ∧ Hid (Blk wr (w.heap.size + 1) 46 (Lt.rowC Lt.z0 Lt.f0)) ∧ Hid (Lt.Nw w wr)) (fun y _ => 8 - (intOf y).toNat)
  case atStart => exact ⟨0, rfl, Nat.zero_le _, Q1, Q2, N2⟩
  case round =>
    obtain ⟨k, rfl, hk, HM, HQ, HN⟩ := hrel
    clear Q1 Q2 N2
    by_cases hin : k < 8
    · have i1 : (k : Int) < 8 := by omega
      have i0 : (0 : Int) ≤ (k : Int) := by omega
      have HI := Lib.hid (show k + 1 ≤ 8 from hin)
      have c0 := Lt.row_r HM.out hin
      have c1 := Lt.row_d HM.out hin
      rw [Lt.mixR_at] at c0
      rw [Lt.mixD_at] at c1
      have f0 := HM.out.free k
      have f1 := HM.out.free (8 + k)
      have NM := Lib.hid (show Blk ((wr.setCell ⟨w.heap.size, 8 + k, none⟩ (.bool (d' k))).setCell ⟨w.heap.size, k, none⟩ (.int .i64 0)) w.heap.size 46 (Lt.rowC (Lt.mixR r Lt.z0 (k + 1)) (Lt.mixD d d' (k + 1))) from Lt.blk_put_r (Lt.blk_put_d HM.out hin) hin)
      have NQ := Lib.hid (show Blk ((wr.setCell ⟨w.heap.size, 8 + k, none⟩ (.bool (d' k))).setCell ⟨w.heap.size, k, none⟩ (.int .i64 0)) (w.heap.size + 1) 46 (Lt.rowC Lt.z0 Lt.f0) from (HQ.out.far (by simp) _).far (by simp) _)
      have NN := Lib.hid (show Lt.Nw w ((wr.setCell ⟨w.heap.size, 8 + k, none⟩ (.bool (d' k))).setCell ⟨w.heap.size, k, none⟩ (.int .i64 0)) from HN.out.put (only_put (only_put (only_refl wr (some w.heap.size)) (8 + k) _) k _) (Nat.le_refl _))
      have hv := HV.out k
      cases hd : d k with
      | true =>
        rw [hd] at hv c1
        rw [Bool.true_or] at hv
        rw [hv] at NM NQ NN
        clear hv hd HM HQ HN hk
        go_wp2
        go_roundw
        case rel => exact ⟨k + 1, by go_num, HI.out, NM, NQ, NN⟩
        case measure =>
          have := HI.out
          simp [intOf]
          omega
      | false =>
        rw [hd] at hv c1
        rw [Bool.false_or] at hv
        by_cases hr : 0 < r k
        · have i2 : (0 : Int) < ((r k : Nat) : Int) := by omega
          rw [decide_eq_true hr] at hv
          rw [hv] at NM NQ NN
          clear hv hd HM HQ HN hk
          go_wp2
          go_roundw
          case rel => exact ⟨k + 1, by go_num, HI.out, NM, NQ, NN⟩
          case measure =>
            have := HI.out
            simp [intOf]
            omega
        · have i2 : ¬ (0 : Int) < ((r k : Nat) : Int) := by omega
          rw [decide_eq_false hr] at hv
          rw [hv] at NM NQ NN
          have hr0 : r k = 0 := by omega
          rw [hr0] at c0
          clear hv hd HM HQ HN hk hr i2 hr0
          go_wp2
          go_roundw
          case rel => exact ⟨k + 1, by go_num, HI.out, NM, NQ, NN⟩
          case measure =>
            have := HI.out
            simp [intOf]
            omega
    · obtain rfl : k = 8 := by omega
      have hm := HM.out
      rw [Lt.mix_8] at hm
      have HX := Lib.hid hm
      have FB := Lib.hid (Lt.blk_set (cs := Lt.rowC Lt.z0 d') HQ.out rfl)
      have FN := Lib.hid (HN.out.put (only_cells wr (w.heap.size + 1) 0 (Lt.rowC Lt.z0 d').toList) (Nat.le_succ _))
      have HS2 := Lib.hid (Lt.rowC_size Lt.z0 d')
      obtain ⟨cs, hcs⟩ : ∃ cs, cs = Lt.rowC Lt.z0 d' := ⟨_, rfl⟩
      rw [← hcs] at HX FB FN HS2 H1
      have HCS := Lib.hid hcs
      clear hm HM hin hcs
      go_upto_region 7 with (fail)
      go_wp2_with (first
        | (refine Lt.wp_ld (o := ⟨some 29, .load 46 (.tmp 1), _, _, _, none⟩) rfl (.tmp 1) rfl wr w.heap.size 0 cs HS2.out (Lt.blk_at HX.out) rfl ?_)
        | (refine Lt.wp_st (o := ⟨none, .store 46 (.tmp 2) (.tmp 29), _, _, _, none⟩) rfl (.tmp 2) (.tmp 29) rfl wr (w.heap.size + 1) 0 cs HS2.out H1.out (Lt.blk_some HQ.out rfl) (Lt.blk_free HQ.out) rfl rfl ?_))
      exact bodyPost_ret (Lt.res_cell_tmp Try.results17 _ _ _ cs rfl (Lt.run_lv FB.out HS2.out)) rfl ⟨⟨Lt.z0, d', by rw [HCS.out]; rfl, HR.out⟩, FN.out.out⟩
end Go.Proofs.Ytbbgijjeimjgoaa
