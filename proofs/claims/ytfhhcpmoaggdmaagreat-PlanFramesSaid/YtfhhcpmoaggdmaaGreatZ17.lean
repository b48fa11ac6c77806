import Derived.Test.YtfhhcpmoaggdmaaGreatZ16
set_option linter.all false
/- PlanRows, walked: above all clients. -/
namespace Go.Proofs.YtfhhcpmoaggdmaaGreat
open Go.RowKit Go.Lib Go.Sort
attribute [-go_sem] Go.run_neq_struct
attribute [-go_sem] Go.run_eql_struct
set_option linter.unusedVariables false

set_option maxRecDepth 20000 in
set_option maxHeartbeats 3200000 in
theorem planrows_p (c : Cf) (what owner : Int) (w : World) (hc : CfV w c) (hf : FitCf c) (h0 : fltL c = []) (h2 : fitI owner) (hn : (c.cn : Int) < owner) :
    Calls Tryz.prog 3 #[cfv c, .int .i64 what, .int .i64 owner] w fun e w' => e = .returned (.bool true) ∧ w.grownBy w' none := by
  obtain ⟨W1, hW, g1, hB⟩ := box1 w 26 (cfA c)
  have HG := Lib.hid g1
  have R := Lib.hid (right_of c h0)
  have HL := Lib.hid (fun W => live18_any W)
  have HN := Lib.hid (show Calls Tryz.prog 6 #[.agg #[.int .i64 c.fr, .slice c.wA c.wn c.wc, .slice c.sA c.sn c.sc, .slice c.cA c.cn c.cc]] W1 (fun e w' => ∃ b P, e = .returned (.tuple #[.pointer (some ⟨b, 0, none⟩), .int .i64 0]) ∧ PX w' b P c ∧ W1.grownBy w' none) from
    (pnew_any c W1 (hc.grown g1) hf).mono fun e w' h => by
      obtain ⟨g, ⟨hne, _⟩ | ⟨_, b, P, he, hp⟩⟩ := h
      · exact absurd h0 hne
      · exact ⟨b, P, he, hp, g⟩)
  have HFA := Lib.hid (fun (W : World) (q : W1.grownBy W none) => (show Calls Tryz.prog 7 #[.agg #[.int .i64 c.fr, .slice c.wA c.wn c.wc, .slice c.sA c.sn c.sc, .slice c.cA c.cn c.cc]] W (RFaultsV c W) from rfaults_any c W ((hc.grown g1).grown q) hf))
  have HCL := Lib.hid (show ∀ W, W1.grownBy W none → W.cell? ⟨w.heap.size, 0, none⟩ = some (.int .i64 c.fr) ∧ W.cell? ⟨w.heap.size, 1, none⟩ = some (.slice c.wA c.wn c.wc) ∧ W.cell? ⟨w.heap.size, 2, none⟩ = some (.slice c.sA c.sn c.sc) ∧ W.cell? ⟨w.heap.size, 3, none⟩ = some (.slice c.cA c.cn c.cc) from fun W q => cf_cells (show BoxC W w.heap.size c from hB.only q (by simp)))
  have HCV := Lib.hid (fun (W : World) (q : W1.grownBy W none) => (hc.grown g1).grown q)
  have HFC := Lib.hid hf
  have H0 := Lib.hid h0
  obtain ⟨c0, c1, c2, c3⟩ := HCL.out W1 (only_refl _ _)
  clear hc hf g1 hB h0
  show Calls Tryz.prog 3 #[.agg #[.int .i64 c.fr, .slice c.wA c.wn c.wc, .slice c.sA c.sn c.sc, .slice c.cA c.cn c.cc], .int .i64 what, .int .i64 owner] w _
  have hfew := R.out.few
  have i1 : (1 : Int) ≤ owner := by omega
  have i2 : decide (owner ≤ (c.cn : Int)) = false := by rw [decide_eq_false_iff_not]; omega
  have i5 : (owner == 0) = false := by rw [beq_eq_false_iff_ne]; omega
  have hic : isC c.cn owner = false := by unfold isC; simp; omega
  have HNO := Lib.hid (show ¬ (0 ≤ owner ∧ owner ≤ c.cn) from by omega)
  have HIC := Lib.hid hic
  have HFO := Lib.hid h2
  clear hic hfew h2
  go_enter Tryz.func3, Tryz.ntmps3
  go_upto_region 1 with (fail)
  rw [← hW]
  clear hW
  go_upto_region 4 with (first
    | (go_at_call 6; (with_reducible refine HN.out.mono ?_); rintro e w2 ⟨b, P, rfl, hx, g2⟩; have G2 := Lib.hid g2; have X2 := Lib.hid hx; obtain ⟨d0, d1, d2, d3⟩ := HCL.out w2 g2; clear g2 hx)
    | (go_at_call 7; (with_reducible refine (HFA.out _ G2.out).mono ?_); rintro e w3 ⟨A, n, k, rfl, hn, hn2, g3⟩; obtain rfl := right_faults H0.out hn; have G3 := Lib.hid (only_trans G2.out g3); have X3 := Lib.hid (X2.out.grown g3); obtain ⟨e0, e1, e2, e3⟩ := HCL.out w3 G3.out; clear g3 hn d0 d1 d2 d3))
  have HPQ := Lib.hid (fun q : Nat => pq_of (X3.out.grown (only_drewN (only_refl w3 none) q)))
  go_quiet (first | (go_at_call 9; with_reducible exact quiet_same (HPQ.out _).frame) | (go_at_call 10; with_reducible exact quiet_same (HPQ.out _).owners))
  have G4 := Lib.hid (only_drewN G3.out nq)
  have X4 := Lib.hid (X3.out.grown (only_drewN (only_refl w3 none) nq))
  clear e0 e1 e2 e3 HPQ
  obtain ⟨e0, e1, e2, e3⟩ := HCL.out _ G4.out
  generalize w3.drewN nq = w4 at G4 X4 e0 e1 e2 e3 ⊢
  have HCI := Lib.hid (show Calls Tryz.prog 11 #[.pointer (some ⟨b, 0, none⟩), .int .i64 owner] w4 (fun e w' => e = .returned (.tuple #[.agg #[.int .i64 0, .int .i64 0, .int .i64 0, .int .i64 0, .int .i64 0, .int .i64 0, .int .i64 0, .int .i64 0, .int .i64 0, .int .i64 0], .int .i64 7]) ∧ w4.grownBy w' none) from by
    have := pcli X4.out owner
    rw [HIC.out, if_neg (by decide)] at this
    exact this)
  go_upto_region 7 with (go_at_call 11; (with_reducible refine HCI.out.mono ?_); rintro e w5 ⟨rfl, g5⟩; have G5 := Lib.hid (only_trans G4.out g5); have X5 := Lib.hid (X4.out.grown g5); clear g5 e0 e1 e2 e3)
  obtain ⟨w6, hw6⟩ : ∃ w6, w6 = w5.alloc (.cells #[.int .i64 0, .int .i64 0, .int .i64 0, .int .i64 0, .int .i64 0, .int .i64 0, .int .i64 0, .int .i64 0, .int .i64 0, .int .i64 0] 36) := ⟨_, rfl⟩
  have B9 := Lib.hid (show Blk w6 w5.heap.size 36 (clA zCli) from by rw [hw6]; exact Blk.new _ _ _)
  have g6 : w5.grownBy w6 none := by rw [hw6]; exact only_alloc (only_refl _ _) _
  have G6 := Lib.hid (only_trans G5.out g6)
  have X6 := Lib.hid (X5.out.grown g6)
  rw [← hw6]
  clear hw6 g6
  obtain ⟨e0, e1, e2, e3⟩ := HCL.out w6 G6.out
  have HZX := Lib.hid (show ∃ x, x = zCli from ⟨_, rfl⟩)
  obtain ⟨x, hx⟩ := HZX.out
  rw [← hx] at B9
  have hq : ∀ w : World, (binOp BinOp.neq 36 (.agg #[.int .i64 x.base, .int .i64 x.size, .int .i64 x.ring, .int .i64 x.at', .int .i64 x.quota, .int .i64 x.queue, .int .i64 x.mac, .int .i64 x.chan, .int .i64 x.first, .int .i64 x.secs]) (.agg #[.int .i64 0, .int .i64 0, .int .i64 0, .int .i64 0, .int .i64 0, .int .i64 0, .int .i64 0, .int .i64 0, .int .i64 0, .int .i64 0])).run Tryz.prog w = .ok (.bool false) w := by
    intro w
    rw [hx]
    exact neq_cli18 0 0 0 0 0 0 0 0 0 0 w
  clear hx HZX
  obtain ⟨z0, z1, z2, z3, z4, z5, z6, z7, z8, z9, f0, f1, f2, f3, f4, f5, f6, f7, f8, f9⟩ := box10c B9.out
  clear f0 f1 f2 f3 f4 f5 f6 f7 f8 f9
  go_upto_region 8 with (fail)
  go_quiet (first | fail)
  have G7 := Lib.hid (only_drewN G6.out nq)
  have X7 := Lib.hid (X6.out.grown (only_drewN (only_refl w6 none) nq))
  have C9 := Lib.hid (B9.out.drewN nq)
  clear z0 z1 z2 z3 z4 z5 z6 z7 z8 z9 hq e0 e1 e2 e3 B9 X6 G6
  generalize w6.drewN nq = w7 at G7 X7 C9 ⊢
  go_upto_region 11 with (fail)
  obtain ⟨w8, hw8⟩ : ∃ w8, w8 = w7.alloc (.cells #[.int .i64 0, .int .i64 0] 40) := ⟨_, rfl⟩
  have g8 : w7.grownBy w8 none := by rw [hw8]; exact only_alloc (only_refl _ _) _
  have B12 := Lib.hid (show Blk w8 w7.heap.size 40 #[.int .i64 0, .int .i64 0] from by rw [hw8]; exact Blk.new _ _ _)
  have G8 := Lib.hid (only_trans G7.out g8)
  have X8 := Lib.hid (X7.out.grown g8)
  have D9 := Lib.hid (C9.out.only g8 (by simp))
  have hs7 := Lib.hid (show W1.heap.size ≤ w7.heap.size ∧ w5.heap.size < w7.heap.size from ⟨G7.out.size, C9.out.lt⟩)
  have h78 := Lib.hid g8
  rw [← hw8]
  clear hw8 g8
  obtain ⟨e0, e1, e2, e3⟩ := HCL.out w8 G8.out
  have HWN := Lib.hid (fun (W : World) (q : PX W b P c) => (show Calls Tryz.prog 17 #[.pointer (some ⟨b, 0, none⟩), .int .i64 owner] W (fun e w' => e = .returned (.agg #[.int .i64 0, .int .i64 0]) ∧ W.grownBy w' none) from by
    have := pwnd q owner
    rw [win_no R.out HNO.out] at this
    exact this))
  have G11 := G8
  have X11 := X8
  have J9 := D9
  have J12 := B12
  have hq3 := fun w : World => eq_span18 0 0 w
  have HPW := Lib.hid (fun (W : World) (q : PX W b P c) => (show Calls Tryz.prog 18 #[.pointer (some ⟨b, 0, none⟩), .int .i64 what, .int .i64 owner] W (fun e w' => e = .returned (.int .i64 (-1)) ∧ W.grownBy w' none) from by
    have := pwhn R.out q what owner
    rw [show whenC c what owner = -1 from by unfold whenC; rw [HIC.out, if_pos (.inr (.inr rfl))]] at this
    exact this))
  have HFD := Lib.hid (fun (W : World) (q : PX W b P c) => (show Calls Tryz.prog 15 #[.pointer (some ⟨P.rb, 0, none⟩), .int .i64 owner] W (fun e w' => e = .returned (.tuple #[.agg #[.int .i64 0, .int .i64 0, .int .i64 0], .int .i64 7]) ∧ W.grownBy w' none) from by
    have := pfnd q owner HFO.out
    rw [HIC.out, if_neg (by decide)] at this
    exact this))
  have HRG := Lib.hid (fun (W : World) (q : PX W b P c) => (pq_of q).regs)
  clear e0 e1 e2 e3
  go_upto_region 17 with (first
    | (go_at_call 14; (with_reducible refine (HRG.out _ X11.out).mono ?_); rintro e w12 ⟨rfl, rfl⟩)
    | (go_at_call 15; (with_reducible refine (HFD.out _ X11.out).mono ?_); rintro e w13 ⟨rfl, g13⟩; have G13 := Lib.hid (only_trans G11.out g13); have X13 := Lib.hid (X11.out.grown g13); have K9 := Lib.hid (J9.out.only g13 (by simp)); have K12 := Lib.hid (J12.out.only g13 (by simp)); clear g13))
  obtain ⟨w14, hw14⟩ : ∃ w14, w14 = w13.alloc (.cells #[.int .i64 0, .int .i64 0, .int .i64 0] 44) := ⟨_, rfl⟩
  have g14 : w13.grownBy w14 none := by rw [hw14]; exact only_alloc (only_refl _ _) _
  have B14 : Blk w14 w13.heap.size 44 #[.int .i64 0, .int .i64 0, .int .i64 0] := by rw [hw14]; exact Blk.new _ _ _
  have G14 := Lib.hid (only_trans G13.out g14)
  have X14 := Lib.hid (X13.out.grown g14)
  have L9 := K9.out.only g14 (by simp)
  have L12 := Lib.hid (K12.out.only g14 (by simp))
  rw [← hw14]
  clear hw14 g14
  have m0 := fun d os => blk_re B14 d os 0
  have m1 := fun d os => blk_re B14 d os 1
  have m2 := fun d os => blk_re B14 d os 2
  have m3 := fun d os => blk_re L9 d os 0
  have m4 := fun d os => blk_re L9 d os 1
  simp at m0 m1 m2 m3 m4
  clear B14 L9
  refine wp_region_quiet_below (by kernel_rfl) (by kernel_rfl) ?_
  repeat (go_big_quiet_step ((fail)))
  refine wpQuiet_nil ?_
  intro w15 hw15
  obtain ⟨p15, rfl⟩ := hw15
  have G15 := Lib.hid (only_trans G14.out (only_re w14 p15.d p15.os))
  have X15 := Lib.hid (X14.out.grown (only_re w14 p15.d p15.os))
  have N12 := L12.out.only (only_re w14 p15.d p15.os) (by simp)
  clear m0 m1 m2 m3 m4
  generalize grow (redrawn w14 p15.d) p15.os = w15 at G15 X15 N12 ⊢
  have n0 := fun d os => blk_re N12 d os 0
  have n1 := fun d os => blk_re N12 d os 1
  simp at n0 n1
  have HX16 := Lib.hid (fun dd os => X15.out.grown (only_re w15 dd os))
  clear N12
  go_upto_region 19 with (fail)
  refine wp_region_quiet_below (by kernel_rfl) (by kernel_rfl) ?_
  repeat (go_big_quiet_step ((first
    | (go_at_call 8; with_reducible exact rg1 (HL.out _))
    | (go_at_call 17; with_reducible exact rg1 (HWN.out _ (HX16.out _ _)))
    | (go_at_call 18; with_reducible exact rg1 (HPW.out _ (HX16.out _ _))))))
  refine wpQuiet_nil ?_
  intro w16 hw16
  obtain ⟨p16, rfl⟩ := hw16
  have G16 := Lib.hid (only_trans G15.out (only_re w15 p16.d p16.os))
  clear n0 n1
  generalize grow (redrawn w15 p16.d) p16.os = w16 at G16 ⊢
  go_wp2
  go_ret
  exact ⟨by first | rfl | simp, only_trans HG.out G16.out⟩
end Go.Proofs.YtfhhcpmoaggdmaaGreat

/- PlanRows, walked: all cases. -/
namespace Go.Proofs.YtfhhcpmoaggdmaaGreat
open Go.RowKit Go.Lib Go.Sort
set_option linter.unusedVariables false

theorem planrows_walk (c : Cf) (what owner : Int) (w : World) (hh : CfV w c ∧ FitCf c) (h1 : fitI what) (h2 : fitI owner) :
    Calls Tryz.prog 3 #[cfv c, .int .i64 what, .int .i64 owner] w fun e w' => e = .returned (.bool true) ∧ Below w.heap.size w w' := by
  refine Calls.mono (?_ : Calls Tryz.prog 3 #[cfv c, .int .i64 what, .int .i64 owner] w fun e w' => e = .returned (.bool true) ∧ w.grownBy w' none) fun e w' h => ⟨h.1, below_of_only h.2 (Nat.le_refl _) (by simp)⟩
  obtain ⟨hc, hf⟩ := hh
  by_cases h0 : fltL c = []
  · by_cases ho : 1 ≤ owner ∧ owner ≤ c.cn
    · obtain ⟨i, rfl⟩ : ∃ i : Nat, owner = (i : Int) + 1 := ⟨(owner - 1).toNat, by omega⟩
      by_cases hk : what = 1 ∨ what = 2
      · exact planrows_c c what 0 w hc hf h0 i (by omega) hk
      · exact planrows_b c what 0 w hc hf h0 i (by omega) (by omega)
    · by_cases hz : owner = 0
      · subst hz
        exact planrows_z c what 0 w hc hf h0 rfl
      · by_cases hn : owner < 0
        · exact planrows_n c what owner w hc hf h0 h2 hn
        · exact planrows_p c what owner w hc hf h0 h2 (by omega)
  · exact planrows_no c what owner w hc hf h0
end Go.Proofs.YtfhhcpmoaggdmaaGreat
