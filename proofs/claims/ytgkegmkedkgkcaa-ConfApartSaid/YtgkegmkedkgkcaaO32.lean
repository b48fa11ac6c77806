/- The law of tables that are right, walked: the windows. -/
import Derived.Test.YtgkegmkedkgkcaaO31
import Derived.Deep.CutRange
namespace Go.Proofs.Ytgkegmkedkgkcaa
open Go.RowKit Go.Lib Go.Sort
set_option linter.unusedVariables false

theorem step_app_eq {P : Program} {ops : Array Oper} {o : Oper} {a : Act} {W : World} {K : Act → World → Prop} {Q : Exit → Act → World → Prop} {E : Prop} (hgd : o.guard = none) (s x : Operand) (t : TypeId) (ho : o.op = .call { callee := .builtin .append, args := #[s, x], argTypes := #[t, t] })
    {v xs v' : Value} {w' : World} (hr : (Builtin.append_ #[t, t] o.type #[v, xs]).run P W = .ok v' w') (hs : a.eval s = v) (hx : a.eval x = xs) (h : K (a.put o.dst v') w') : if Region.wanted o (yielded ops a.tmps) = true then Oper.wp P o a W K Q else E := by
  have hw : Region.wanted o (yielded ops a.tmps) = true := by simp [Region.wanted, hgd]
  rw [if_pos hw]
  unfold Oper.wp execOp
  simp only [ho, resolve, invoke, builtin, Sem.run_bind, Sem.run_pure, Result.andThen_ok, List.map_toArray, List.map_cons, List.map_nil, hs, hx, hr]
  exact h
theorem int_info : (Try.prog.info? 3).map (fun i => (i.zero, i.size, i.bytes)) = some (some (.int .i64 0), 1, 8) := by kernel_rfl
/-- Where the law begins with the windows. -/
theorem lw_start (c : Cf) (w w2 w4 : World) (hbox : BoxC w2 w.heap.size c) (hbel : Below w.heap.size w w2) (hown : w4.ownsRow w2.heap.size 3 1 (.slice (some ⟨w2.heap.size + 3, 0, none⟩) (c.cn + 1) (c.cn + 1)) (c.cn + 1) (madeCells (Value.int .i64 0).cells ((c.cn + 1) * 1)).toList) (hg : (((w2.alloc (.cells #[] 36)).alloc (.cells #[] 36)).alloc (.cells #[] 36)).grownBy w4 none) :
    LW c w w2.heap.size (.slice (some ⟨w2.heap.size, 0, none⟩) 0 0) w4 0 0 := by
  have hl : (madeCells (Value.int .i64 0).cells ((c.cn + 1) * 1)).toList = List.replicate (c.cn + 1) (.int .i64 0) := by
    have h : (Value.int .i64 0).cells = #[.int .i64 0] := rfl
    rw [h, toList_madeCells_one]
    simp
  have hs := hg.size
  simp at hs
  have hbl : Blk w4 (w2.heap.size + 3) 3 (hvC c 0) := by
    rw [hvC_zero c _ hl]
    rcases hown.2 with ⟨h0, _⟩ | ⟨g', cap, cur, h1, hB, h2, h3, h4, h5, h6⟩
    · cases h0
    · injection h1 with e1 e2 e3
      injection e1 with e1
      injection e1 with e1
      subst e1 e3
      have hs5 : cur.toList.length = (c.cn + 1) * 1 := by simpa using h5
      rw [List.take_of_length_le (by omega)] at h6
      rw [← h6]
      exact h2
  have g3 : w2.grownBy w4 none := only_trans (only_alloc (only_alloc (only_alloc (only_refl _ _) _) _) _) hg
  have hlt := hbox.lt
  have hlt4 := hbl.lt
  refine ⟨RowZ.empty 2 0 (by omega), fun k hk => ?_, hbl, hbox.only g3 (by simp), hbel.trans (below_of_only g3 hbel.size (by simp)), by omega, hlt⟩
  simp [Value.ownBlock] at hk
  omega
theorem HvB.drewN {c : Cf} {w wr : World} {h j : Nat} (k : HvB c w h wr j) (n : Nat) : HvB c w h (wr.drewN n) j := ⟨k.1.drewN n, Blk.drewN k.2.1 n, below_drewN k.2.2.1 n, k.2.2.2⟩
theorem LW.drewN {c : Cf} {w wr : World} {h i j : Nat} {s : Value} (k : LW c w h s wr i j) (n : Nat) : LW c w h s (wr.drewN n) i j := ⟨k.1.drewN n, k.2.1, k.2.2.drewN n⟩
theorem LW.slots {c : Cf} {w wr : World} {h N1 : Nat} {s : Value} (k : LW c w h s wr c.wn c.wn) (hN : N1 = wr.heap.size) : LS c w h N1 s (.slice (some ⟨h + 1, 0, none⟩) 0 0) wr 0 := by
  obtain ⟨h1, h2, h3⟩ := k
  have h4 := h3.2.2.2.1
  subst hN
  refine ⟨RowZ.empty 2 0 (by omega), fun q hq => ?_, h3, h1, ⟨fun q hq => ⟨?_, h1.lt q hq⟩, h2⟩, Nat.le_refl _, h4⟩
  · simp [Value.ownBlock] at hq
    omega
  · rcases h2 q hq with e | e <;> omega
theorem LS.mems {c : Cf} {w wr w5 : World} {h N1 : Nat} {sw s : Value} {A5 : Option Addr} {c5 : Nat} (k : LS c w h N1 sw s wr c.sn) (hr5 : RowZ 3 w5 (.slice A5 c.cn c5) c.cn (rgC c.cd c.cn)) (ho5 : ∀ q, (Value.slice A5 c.cn c5).ownBlock = some q → wr.heap.size < q) (hb5 : Below wr.heap.size wr w5) : LR c w h w5.heap.size sw s (.slice A5 c.cn c5) (.slice (some ⟨h + 2, 0, none⟩) 0 0) w5 0 := by
  obtain ⟨h1, h2, h3, h4, ⟨h5, h5'⟩, h6, h7⟩ := k
  have g := only_of_below hb5
  have hs := g.size
  refine ⟨RowZ.empty 2 0 (by omega), fun q hq => ?_, h3.only g (fun q hq => by cases hq), ⟨h4.grown g, fun q hq => ?_⟩, ⟨h1.grown g, fun q hq => ?_⟩, ⟨hr5, fun q hq => ?_⟩, Nat.le_refl _, by omega⟩
  · simp [Value.ownBlock] at hq
    omega
  · have := h4.lt q hq
    rcases h5' q hq with e | e <;> omega
  · have := h1.lt q hq
    rcases h2 q hq with e | e <;> omega
  · have := ho5 q hq
    have := hr5.lt q hq
    omega
set_option maxRecDepth 40000 in
set_option maxHeartbeats 6400000 in
theorem apart_right (c : Cf) (w : World) (hc : CfV w c) (hf : FitCf c) (hr : fltL c = []) : Calls Try.prog 3 #[cfv c] w fun e w' => e = .returned (.bool true) ∧ w.grownBy w' none := by
  obtain ⟨i0, hi0, hz0, hz1, hz2⟩ := info_parts int_info
  obtain ⟨W1, hW, G0, hA⟩ := box1 w 26 #[.int .i64 c.fr, .slice c.wA c.wn c.wc, .slice c.sA c.sn c.sc, .slice c.cA c.cn c.cc]
  obtain ⟨k0, k1, k2, k3⟩ := cf_cells (c := c) hA
  have HP := Lib.hid (apart_of c hr)
  have HC := Lib.hid (show Calls Try.prog 5 #[.agg #[.int .i64 c.fr, .slice c.wA c.wn c.wc, .slice c.sA c.sn c.sc, .slice c.cA c.cn c.cc]] W1 (fun e w' => e = .returned (.bool true) ∧ W1.grownBy w' none) from by
    have := check_any c W1 (hc.grown G0) hf
    rw [decide_eq_true hr] at this
    exact this)
  have HL := Lib.hid (fun W => live15_any W)
  have HR1 := Lib.hid hc.1
  have HR2 := Lib.hid hc.2.1
  have HR3 := Lib.hid hc.2.2
  have HCF := Lib.hid hc
  have HFC := Lib.hid hf
  have HA := Lib.hid (show BoxC W1 w.heap.size c from hA)
  have HB1 := Lib.hid (below_of_only G0 (Nat.le_refl _) (by simp))
  replace G0 := Lib.hid G0
  have hfew := HP.out.few
  have hw1 : IntKind.i64.wrap ((c.cn : Int) + 1) = (c.cn : Int) + 1 := by rw [IntKind.wrap_i64]; omega
  have HCN := Lib.hid hfew
  show Calls Try.prog 3 #[.agg #[.int .i64 c.fr, .slice c.wA c.wn c.wc, .slice c.sA c.sn c.sc, .slice c.cA c.cn c.cc]] w _
  clear hA hc hf hr hfew
  go_enter Try.func3, Try.ntmps3
  go_upto_region 1 with (fail)
  rw [← hW]
  clear hW
  go_upto_region 4 with (go_at_call 5; (with_reducible refine HC.out.mono ?_); rintro e w2 ⟨rfl, g2⟩; have G2 := Lib.hid g2; replace HA := Lib.hid (HA.out.only g2 (by simp)); have B2 := Lib.hid (HB1.out.trans (below_of_only g2 HB1.out.size (by simp))); have a3 : (((w2.alloc (.cells #[] 36)).alloc (.cells #[] 36)).alloc (.cells #[] 36)).cell? ⟨w.heap.size, 3, none⟩ = some (.slice c.cA c.cn c.cc) := (((HA.out.alloc _).alloc _).alloc _).cell 3; clear g2 k0 k1 k2 k3)
  obtain ⟨w4, hmk, hown, hg⟩ := run_make_full (P := Try.prog) (((w2.alloc (.cells #[] 36)).alloc (.cells #[] 36)).alloc (.cells #[] 36)) w2.heap.size 32 3 i0 (.int .i64 0) 1 Try.underlying32 hi0 hz0 hz1 .i64 .i64 (c.cn + 1) (by rw [hz2]; have := HCN.out; omega) (by unfold maxLen; have := HCN.out; omega) (by simp only [World.size_alloc]; omega)
  rw [show ((c.cn + 1 : Nat) : Int) = (c.cn : Int) + 1 from rfl] at hmk
  have hsz : (((w2.alloc (.cells #[] 36)).alloc (.cells #[] 36)).alloc (.cells #[] 36)).heap.size = w2.heap.size + 3 := by simp
  rw [hsz] at hmk hown
  have LW0 := Lib.hid (lw_start c w w2 w4 HA.out B2.out hown hg)
  clear hown hg hsz
  go_upto_region 5 with (fail)
  clear hmk a3
  go_wp2
  go_loopw [3, 7] (fun s y wr => ∃ i : Nat, y = .int .i64 i ∧ i ≤ c.wn ∧ Hid (LW c w w2.heap.size s wr i i)) (fun s y _ => c.wn - (intOf y).toNat)
  case atStart => exact ⟨0, rfl, by omega, LW0⟩
  case round =>
    obtain ⟨i, rfl, hi, HN⟩ := hrel
    obtain ⟨k0, k1, k2, k3⟩ := cf_cells HN.out.2.2.2.1
    by_cases hin : i < c.wn
    · have i1 : (i : Int) < (c.wn : Int) := by omega
      have i0' : (0 : Int) ≤ (i : Int) := by omega
      have i9 : i < 10 := by have := HCN.out; omega
      obtain ⟨b', off, hA', hb', hcl⟩ := HR1.out.2 (by omega)
      have hcw := hcl i hin
      have hwin := HP.out.win i hin
      obtain ⟨va, vc, rfl⟩ := HN.out.1.form
      obtain ⟨v', w', hk, hns⟩ := LW.push HN.out (by omega) (w2 := (wr.alloc (.cells #[.int .i64 (c.wd i).2.1, .int .i64 (c.wd i).2.2] 36)).drew) (g := wr.heap.size) (only_drewN (only_alloc (only_refl _ _) _) 1) ((Blk.new wr _ _).drewN 1)
      have hcnt := cntW_le c (c.wd i).1 i
      obtain ⟨o, ho⟩ : ∃ o : Nat, (c.wd i).1 = (o : Int) := ⟨(c.wd i).1.toNat, by omega⟩
      rw [ho] at hcnt
      have hcount := fun (wx : World) (k : LW c w w2.heap.size v' wx (i + 1) i) => LW.count k ho
      obtain ⟨x, hx⟩ : ∃ x, x = c.wd i := ⟨_, rfl⟩
      have hlast := (spL_get (d := wsp c.wd) (n := i + 1) (i := i) (by omega)).2
      rw [show (wsp c.wd i).2 = (c.wd i).2.2 from rfl] at hlast
      rw [← hx] at hcw hwin hk ho hlast
      replace hx := Lib.hid hx
      obtain ⟨x0, x1, x2⟩ := x
      simp only at ho hwin hk hlast
      subst ho
      have HCE := Lib.hid (fun (W : World) (hW : Below w.heap.size w W) => (show W.cell? ⟨b', off + i * 3, none⟩ = some (.int .i64 o) ∧ W.cell? ⟨b', off + i * 3 + 1, none⟩ = some (.int .i64 x1) ∧ W.cell? ⟨b', off + i * 3 + 2, none⟩ = some (.int .i64 x2) from by
        rw [hW.cell (p := ⟨b', off + i * 3, none⟩) hb', hW.cell (p := ⟨b', off + i * 3 + 1, none⟩) hb', hW.cell (p := ⟨b', off + i * 3 + 2, none⟩) hb']
        exact hcw))
      obtain ⟨e0, e1, e2⟩ := HCE.out wr HN.out.2.2.2.2.1
      obtain ⟨y0, y1, y2⟩ := HCE.out w' hns.2.2.2.2.1
      obtain ⟨m0, m1, m2, m3⟩ := cf_cells hns.2.2.2.1
      have HBW := Lib.hid (only_drewN (only_alloc (only_refl wr none) (.cells #[.int .i64 x1, .int .i64 x2] 36)) 1)
      obtain ⟨z0, z1, z2⟩ := HCE.out _ (HN.out.2.2.2.2.1.trans (below_of_only HBW.out HN.out.2.2.2.2.1.size (by simp)))
      obtain ⟨n0, n1, n2, n3⟩ := cf_cells (HN.out.2.2.2.1.only HBW.out (by simp))
      rw [hA'] at k1 m1 n1
      have HK := Lib.hid hk
      have NS2 := Lib.hid hns
      have HCT := Lib.hid hcount
      have HLS := Lib.hid hlast
      have HCL := Lib.hid hcnt
      have HWN := Lib.hid hwin
      clear hk hns hcount hlast hcnt hcl hcw HBW hA' hwin
      go_upto_region 8 with (fail)
      go_region_held3 (fun W => W.cell? ⟨w.heap.size, 1, none⟩ = some (.slice (some ⟨b', off, none⟩) c.wn c.wc) ∧ W.cell? ⟨b', off + i * 3 + 1, none⟩ = some (.int .i64 x1) ∧ W.cell? ⟨b', off + i * 3 + 2, none⟩ = some (.int .i64 x2)) (first | exact ⟨k1, e1, e2⟩ | exact ⟨m1, y1, y2⟩ | exact ⟨n1, z1, z2⟩ | go_keep) (first
        | (refine step_app_eq rfl (.tmp 42) (.tmp 56) 31 rfl HK.out rfl rfl ?_))
      obtain ⟨va', vc', hv'⟩ := NS2.out.1.form
      have hcell : ∃ gq oq, va' = some ⟨gq, oq, none⟩ ∧ w'.cell? ⟨gq, oq + i * 2 + 1, none⟩ = some (.int .i64 x2) := by
        rcases NS2.out.1 with ⟨_, ⟨_, e⟩ | ⟨gq, oq, cap, e, _, _, _, _, q5⟩⟩
        · omega
        · rw [hv'] at e
          injection e with e _ _
          exact ⟨gq, oq, e, by rw [Nat.add_assoc]; exact q5 _ _ HLS.out⟩
      obtain ⟨gq, oq, rfl, hq⟩ := hcell
      subst hv'
      have t1 : ¬ (o : Int) < 0 := by omega
      have t2 : ¬ (c.cn : Int) + 1 ≤ (o : Int) := by have := HWN.out; omega
      have t3 : ¬ c.fr < x2 := by have := HWN.out; omega
      have t4 : (o : Int) < (c.cn : Int) + 1 := by omega
      have t5 : (0 : Int) ≤ (o : Int) := by omega
      have bz := NS2.out.2.2.1
      have h0 : w'.cell? ⟨w2.heap.size + 3, o, none⟩ = some (.int .i64 (cntW c o i)) := by
        rw [bz.cell o, hvC_at c i (by have := HWN.out; omega)]
      have f0 := bz.free o
      have hw3 : IntKind.i64.wrap (cntW c o i + 1) = cntW c o i + 1 := by have := HCL.out; rw [IntKind.wrap_i64]; omega
      have NS3 := Lib.hid (fun (n : Nat) => HCT.out (w'.drewN n) (LW.drewN NS2.out n))
      clear bz e0 e1 e2 y1 y2 k0 k1 k2 k3 n0 n1 n2 n3 z0 z1 z2 HK
      generalize cntW c o i = cq at h0 hw3 NS3
      replace NS2 := Lib.hid NS2.out.2.2
      go_upto_region 9 with (fail)
      go_quiet (first | fail)
      go_wp2
      go_roundw
      case rel => exact ⟨i + 1, by go_num, by omega, Lib.hid (NS3.out _)⟩
      case measure => simp [intOf] <;> omega
    · obtain rfl : i = c.wn := by omega
      have i1 : ¬ (c.wn : Int) < (c.wn : Int) := by omega
      obtain ⟨A3, c3, rfl⟩ := HN.out.1.form
      obtain ⟨N1, hN1⟩ : ∃ N1, N1 = wr.heap.size := ⟨_, rfl⟩
      have LS0 := Lib.hid (LW.slots HN.out hN1)
      clear hN1 HN
      go_wp2
      clear k0 k1 k2 k3
      go_loopw [4, 8] (fun s y wx => ∃ i : Nat, y = .int .i64 i ∧ i ≤ c.sn ∧ Hid (LS c w w2.heap.size N1 (.slice A3 c.wn c3) s wx i)) (fun s y _ => c.sn - (intOf y).toNat)
      case atStart => exact ⟨0, rfl, by omega, LS0⟩
      case round =>
        obtain ⟨i, rfl, hi, HN⟩ := hrel
        obtain ⟨k0, k1, k2, k3⟩ := cf_cells HN.out.2.2.1.2.1
        by_cases hin : i < c.sn
        · have i1 : (i : Int) < (c.sn : Int) := by omega
          have i0' : (0 : Int) ≤ (i : Int) := by omega
          have i9 : i < 40 := by have := HCN.out; omega
          obtain ⟨b', off, hA', hb', hcl⟩ := HR2.out.2 (by omega)
          have hcw := hcl i hin
          obtain ⟨va, vc, rfl⟩ := HN.out.1.form
          obtain ⟨v', w', hk, hns⟩ := LS.push HN.out (by omega) (w2 := (wr.alloc (.cells #[.int .i64 (c.sd i).2.1, .int .i64 (c.sd i).2.2] 36)).drew) (g := wr.heap.size) (only_drewN (only_alloc (only_refl _ _) _) 1) ((Blk.new wr _ _).drewN 1)
          obtain ⟨x, hx⟩ : ∃ x, x = c.sd i := ⟨_, rfl⟩
          rw [← hx] at hcw hk
          replace hx := Lib.hid hx
          obtain ⟨x0, x1, x2⟩ := x
          simp only at hk
          have HCE := Lib.hid (fun (W : World) (hW : Below w.heap.size w W) => (show W.cell? ⟨b', off + i * 3 + 1, none⟩ = some (.int .i64 x1) ∧ W.cell? ⟨b', off + i * 3 + 2, none⟩ = some (.int .i64 x2) from by
            rw [hW.cell (p := ⟨b', off + i * 3 + 1, none⟩) hb', hW.cell (p := ⟨b', off + i * 3 + 2, none⟩) hb']
            exact hcw.2))
          obtain ⟨e1, e2⟩ := HCE.out wr HN.out.2.2.1.2.2.1
          obtain ⟨y1, y2⟩ := HCE.out w' hns.2.2.1.2.2.1
          obtain ⟨m0, m1, m2, m3⟩ := cf_cells hns.2.2.1.2.1
          have HBW := Lib.hid (only_drewN (only_alloc (only_refl wr none) (.cells #[.int .i64 x1, .int .i64 x2] 36)) 1)
          obtain ⟨z1, z2⟩ := HCE.out _ (HN.out.2.2.1.2.2.1.trans (below_of_only HBW.out HN.out.2.2.1.2.2.1.size (by simp)))
          obtain ⟨n0, n1, n2, n3⟩ := cf_cells (HN.out.2.2.1.2.1.only HBW.out (by simp))
          rw [hA'] at k2 m2 n2
          have HK := Lib.hid hk
          have NS2 := Lib.hid hns
          clear hk hns hcl hcw HBW hA'
          go_upto_region 15 with (fail)
          go_region_held3 (fun W => W.cell? ⟨w.heap.size, 2, none⟩ = some (.slice (some ⟨b', off, none⟩) c.sn c.sc) ∧ W.cell? ⟨b', off + i * 3 + 1, none⟩ = some (.int .i64 x1) ∧ W.cell? ⟨b', off + i * 3 + 2, none⟩ = some (.int .i64 x2)) (first | exact ⟨k2, e1, e2⟩ | exact ⟨m2, y1, y2⟩ | exact ⟨n2, z1, z2⟩ | go_keep) (first
            | (refine step_app_eq rfl (.tmp 104) (.tmp 118) 31 rfl HK.out rfl rfl ?_))
          clear k0 k1 k2 k3 m0 m1 m2 m3 n0 n1 n2 n3 e1 e2 y1 y2 z1 z2
          go_wp2
          go_roundw
          case rel => exact ⟨i + 1, by go_num, by omega, NS2⟩
          case measure => simp [intOf] <;> omega
        · obtain rfl : i = c.sn := by omega
          have i1 : ¬ (c.sn : Int) < (c.sn : Int) := by omega
          obtain ⟨A4, c4, rfl⟩ := HN.out.1.form
          have HRG := Lib.hid (show Calls Try.prog 8 #[.agg #[.int .i64 c.fr, .slice c.wA c.wn c.wc, .slice c.sA c.sn c.sc, .slice c.cA c.cn c.cc]] wr (RegionsV c wr) from regions_any c wr (HCF.out.grown (only_of_below HN.out.2.2.1.2.2.1)) (by have := HCN.out; omega))
          go_upto_region 19 with (go_at_call 8; (with_reducible refine HRG.out.mono ?_); rintro e w5 ⟨A5, c5, rfl, hr5, ho5, hb5⟩; have LR0 := Lib.hid (LS.mems HN.out hr5 ho5 hb5); clear hr5 ho5 hb5 HN k0 k1 k2 k3; obtain ⟨k0, k1, k2, k3⟩ := cf_cells LR0.out.2.2.1.2.1)
          obtain ⟨N2, hN2⟩ : ∃ N2, N2 = w5.heap.size := ⟨_, rfl⟩
          rw [← hN2] at LR0
          clear hN2
          go_wp2
          clear k0 k1 k2 k3
          go_loopw [5, 10] (fun s y wx => ∃ i : Nat, y = .int .i64 i ∧ i ≤ c.cn ∧ Hid (LR c w w2.heap.size N2 (.slice A3 c.wn c3) (.slice A4 c.sn c4) (.slice A5 c.cn c5) s wx i)) (fun s y _ => c.cn - (intOf y).toNat)
          case atStart => exact ⟨0, rfl, by omega, LR0⟩
          case round =>
            obtain ⟨i, rfl, hi, HN⟩ := hrel
            obtain ⟨k0, k1, k2, k3⟩ := cf_cells HN.out.2.2.1.2.1
            by_cases hin : i < c.cn
            · have i1 : (i : Int) < (c.cn : Int) := by omega
              have i0' : (0 : Int) ≤ (i : Int) := by omega
              have i9 : i < 9 := by have := HCN.out; omega
              have i2 : (0 : Int) ≤ (i : Int) + 1 := by omega
              have i3 : (i : Int) + 1 < (c.cn : Int) + 1 := by omega
              have hw2 : IntKind.i64.wrap ((i : Int) + 1) = (i : Int) + 1 := by rw [IntKind.wrap_i64]; omega
              obtain ⟨b', off, hA', hb', hcl⟩ := (HR3.out.grown (only_of_below HN.out.2.2.1.2.2.1)).2 (by omega)
              obtain ⟨c0, c1, _, _, c4', _⟩ := hcl i hin
              have hgd := HP.out.good i hin
              have hqu := HP.out.quota i hin
              have hw3 : IntKind.i64.wrap ((c.cd i).base + (c.cd i).size) = (c.cd i).base + (c.cd i).size := by rw [IntKind.wrap_i64]; omega
              have HQ := Lib.hid (fun (W : World) (g : wr.grownBy W none) => (show Calls Try.prog 9 #[.agg #[.int .i64 c.fr, .slice c.wA c.wn c.wc, .slice c.sA c.sn c.sc, .slice c.cA c.cn c.cc], .int .i64 ((i : Int) + 1)] W (fun e w' => e = .returned (.int .i64 (unitsV c ((i : Int) + 1))) ∧ W.grownBy w' none) from units_any c _ W (HCF.out.grown (only_trans (only_of_below HN.out.2.2.1.2.2.1) g)) HFC.out))
              have h1c : wr.cell? ⟨w2.heap.size + 3, i + 1, none⟩ = some (.int .i64 1) := by
                have := HN.out.2.2.1.1.cell (i + 1)
                rw [this, hvC_at c c.wn (by omega), HP.out.one (i + 1) (by omega)]
              have hrow5 := HN.out.2.2.2.2.2.1.1
              have hlc : ∃ gl ol, A5 = some ⟨gl, ol, none⟩ ∧ gl < wr.heap.size ∧ ∀ W, (RowZ 3 W (.slice A5 c.cn c5) c.cn (rgC c.cd c.cn)) → W.cell? ⟨gl, ol + i * 3, none⟩ = some (.int .i64 ((i : Int) + 1)) ∧ W.cell? ⟨gl, ol + i * 3 + 1, none⟩ = some (.int .i64 (c.cd i).base) ∧ W.cell? ⟨gl, ol + i * 3 + 2, none⟩ = some (.int .i64 (c.cd i).size) := by
                rcases hrow5 with ⟨_, ⟨_, e⟩ | ⟨gl, ol, cap, e, _, _, q4, _, _⟩⟩
                · omega
                · injection e with e e2 e3
                  refine ⟨gl, ol, e, q4, fun W hW => ?_⟩
                  rcases hW with ⟨_, ⟨_, f⟩ | ⟨gl', ol', cap', f, _, _, _, _, q5⟩⟩
                  · omega
                  · injection f with f f2 f3
                    rw [e] at f
                    injection f with f
                    injection f with f f4
                    subst f f4
                    have g0 : ∀ t u, t < 3 → [Value.int .i64 ((i : Int) + 1), .int .i64 (c.cd i).base, .int .i64 (c.cd i).size][t]? = some u → W.cell? ⟨gl, ol + i * 3 + t, none⟩ = some u := fun t u ht hu => by
                      rw [Nat.add_assoc]
                      refine q5 _ u ?_
                      unfold rgC
                      rw [flat_get _ 3 (fun i => rfl) _ i t hin ht]
                      exact hu
                    exact ⟨g0 0 _ (by omega) rfl, g0 1 _ (by omega) rfl, g0 2 _ (by omega) rfl⟩
              obtain ⟨gl, ol, hA5, hgl, hlc⟩ := hlc
              subst hA5
              obtain ⟨l0, l1, l2⟩ := hlc wr hrow5
              obtain ⟨va, vc, rfl⟩ := HN.out.1.form
              have HPU := Lib.hid (fun (wz : World) (g : wr.grownBy wz none) => LR.push (HN.out.only g) (by omega) (w2 := (wz.alloc (.cells #[.int .i64 (c.cd i).base, .int .i64 ((c.cd i).base + (c.cd i).size)] 36)).drew) (g := wz.heap.size) (only_drewN (only_alloc (only_refl _ _) _) 1) ((Blk.new wz _ _).drewN 1))
              have HLC := Lib.hid hlc
              have HX := Lib.hid (fun (wz : World) (g : wr.grownBy wz none) => (HN.out.only g))
              rw [hA'] at k3
              replace HQ := HQ.out
              rw [hA'] at HQ
              replace HQ := Lib.hid HQ
              clear hrow5 hcl hlc hA' hgd HN
              generalize unitsV c ((i : Int) + 1) = un at HQ hqu
              generalize (c.cd i).quota = qo at c4' hqu
              generalize (c.cd i).base = x0 at c0 l1 hw3 HPU HLC
              generalize (c.cd i).size = x1 at c1 l2 hw3 HPU HLC
              have t1 : ¬ un < qo := by omega
              go_upto_region 22 with (fail)
              have j0 := fun dd os => cell_regrown k0 dd os
              have j1 := fun dd os => cell_regrown k1 dd os
              have j2 := fun dd os => cell_regrown k2 dd os
              have j3 := fun dd os => cell_regrown k3 dd os
              have m0 := fun dd os => cell_regrown c0 dd os
              have m1 := fun dd os => cell_regrown c1 dd os
              have m4 := fun dd os => cell_regrown c4' dd os
              have p0 := fun dd os => cell_regrown l0 dd os
              have p1 := fun dd os => cell_regrown l1 dd os
              have p2 := fun dd os => cell_regrown l2 dd os
              have h1 := fun dd os => cell_regrown h1c dd os
              clear k0 k1 k2 k3 c0 c1 c4' l0 l1 l2 h1c
              refine wp_region_quiet_below (by kernel_rfl) (by kernel_rfl) ?_
              repeat (go_big_quiet_step ((first | (go_at_call 9; with_reducible exact rg1 (HQ.out _ (only_re wr _ _))))))
              refine wpQuiet_nil ?_
              intro w6 hw6
              obtain ⟨p, rfl⟩ := hw6
              have G6 := Lib.hid (only_re wr p.d p.os)
              clear j0 j1 j2 j3 m0 m1 m4 p0 p1 p2 h1
              generalize grow (redrawn wr p.d) p.os = w6 at G6 ⊢
              have HN6 := Lib.hid (HX.out w6 G6.out)
              obtain ⟨v', w', hk, hns⟩ := HPU.out w6 G6.out
              obtain ⟨e1', e0, e1⟩ := HLC.out w6 HN6.out.2.2.2.2.2.1.1
              obtain ⟨y0', y0, y1⟩ := HLC.out w' hns.2.2.2.2.2.1.1
              have HBW := Lib.hid (only_drewN (only_alloc (only_refl w6 none) (.cells #[.int .i64 x0, .int .i64 (x0 + x1)] 36)) 1)
              obtain ⟨z0', z0, z1⟩ := HLC.out _ (HN6.out.only HBW.out).2.2.2.2.2.1.1
              have HK := Lib.hid hk
              have NS2 := Lib.hid hns
              clear hk hns HBW e1' y0' z0'
              go_upto_region 24 with (fail)
              go_region_held3 (fun W => W.cell? ⟨gl, ol + i * 3 + 1, none⟩ = some (.int .i64 x0) ∧ W.cell? ⟨gl, ol + i * 3 + 2, none⟩ = some (.int .i64 x1)) (first | with_reducible exact ⟨e0, e1⟩ | with_reducible exact ⟨y0, y1⟩ | with_reducible exact ⟨z0, z1⟩ | go_keep) (first
                | (refine step_app_eq rfl (.tmp 175) (.tmp 193) 31 rfl HK.out rfl rfl ?_))
              clear e0 e1 y0 y1 z0 z1
              go_wp2
              go_roundw
              case rel => exact ⟨i + 1, by go_num, by omega, NS2⟩
              case measure => simp [intOf] <;> omega
            · obtain rfl : i = c.cn := by omega
              have i1 : ¬ (c.cn : Int) < (c.cn : Int) := by omega
              obtain ⟨A6, c6, rfl⟩ := HN.out.1.form
              have HF1 := Lib.hid (fun (W : World) (k : LR c w w2.heap.size N2 (.slice A3 c.wn c3) (.slice A4 c.sn c4) (.slice A5 c.cn c5) (.slice A6 c.cn c6) W c.cn) => (show Calls Try.prog 10 #[.slice A3 c.wn c3] W (fun e w' => ∃ y, e = .returned (.tuple #[.int .i64 (-1), .int .i64 y]) ∧ W.grownBy w' none) from (rfirst_any A3 c.wn c3 (wsp c.wd) W (spans_rowz k.2.2.2.1.1) (by have := HCN.out; omega)).mono fun e w' q => by
                obtain ⟨x, y, rfl, q1, q2⟩ := q
                exact ⟨y, by rw [first_no q1 HP.out.wins], only_of_below q2⟩))
              have HF2 := Lib.hid (fun (W : World) (k : LR c w w2.heap.size N2 (.slice A3 c.wn c3) (.slice A4 c.sn c4) (.slice A5 c.cn c5) (.slice A6 c.cn c6) W c.cn) => (show Calls Try.prog 10 #[.slice A4 c.sn c4] W (fun e w' => ∃ y, e = .returned (.tuple #[.int .i64 (-1), .int .i64 y]) ∧ W.grownBy w' none) from (rfirst_any A4 c.sn c4 (wsp c.sd) W (spans_rowz k.2.2.2.2.1.1) (by have := HCN.out; omega)).mono fun e w' q => by
                obtain ⟨x, y, rfl, q1, q2⟩ := q
                exact ⟨y, by rw [first_no q1 HP.out.slots], only_of_below q2⟩))
              have HF3 := Lib.hid (fun (W : World) (k : LR c w w2.heap.size N2 (.slice A3 c.wn c3) (.slice A4 c.sn c4) (.slice A5 c.cn c5) (.slice A6 c.cn c6) W c.cn) => (show Calls Try.prog 10 #[.slice A6 c.cn c6] W (fun e w' => ∃ y, e = .returned (.tuple #[.int .i64 (-1), .int .i64 y]) ∧ W.grownBy w' none) from (rfirst_any A6 c.cn c6 _ W (spans_rowz k.1) (by have := HCN.out; omega)).mono fun e w' q => by
                obtain ⟨x, y, rfl, q1, q2⟩ := q
                exact ⟨y, by rw [first_no q1 HP.out.mems], only_of_below q2⟩))
              have HH := Lib.hid (fun (W : World) (k : LR c w w2.heap.size N2 (.slice A3 c.wn c3) (.slice A4 c.sn c4) (.slice A5 c.cn c5) (.slice A6 c.cn c6) W c.cn) => (show W.cell? ⟨w2.heap.size + 3, 0, none⟩ = some (.int .i64 1) from by
                rw [k.2.2.1.1.cell 0, hvC_at c c.wn (by omega), HP.out.one 0 (by omega)]))
              have i4 : (0 : Int) < (c.cn : Int) + 1 := by omega
              go_upto_region 26 with (go_at_call 10; (with_reducible refine (HF1.out wr HN.out).mono ?_); rintro e w7 ⟨y1, rfl, g7⟩; have H7 := Lib.hid (HN.out.only g7); clear g7 k0 k1 k2 k3)
              go_upto_region 27 with (go_at_call 10; (with_reducible refine (HF2.out w7 H7.out).mono ?_); rintro e w8 ⟨y2, rfl, g8⟩; have H8 := Lib.hid (H7.out.only g8); clear g8)
              go_upto_region 28 with (go_at_call 10; (with_reducible refine (HF3.out w8 H8.out).mono ?_); rintro e w9 ⟨y3, rfl, g9⟩; have H9 := Lib.hid (H8.out.only g9); clear g9)
              go_wp2_with (go_at_call 6; (with_reducible refine (HL.out _).mono ?_); rintro e w10 ⟨rfl, g10⟩; have H10 := Lib.hid (H9.out.only g10); clear g10; have h0 := HH.out _ H10.out)
              go_ret
              exact ⟨rfl, only_of_below H10.out.2.2.1.2.2.1⟩
end Go.Proofs.Ytgkegmkedkgkcaa
