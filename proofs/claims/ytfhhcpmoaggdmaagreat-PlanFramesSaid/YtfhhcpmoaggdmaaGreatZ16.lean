import Derived.Test.YtfhhcpmoaggdmaaGreatZ15
set_option linter.all false
/- PlanRows, walked. -/
namespace Go.Proofs.YtfhhcpmoaggdmaaGreat
open Go.RowKit Go.Lib Go.Sort
attribute [-go_sem] Go.run_neq_struct
attribute [-go_sem] Go.run_eql_struct
set_option linter.unusedVariables false

theorem wrong_faults {c : Cf} {n : Nat} (h : fltL c ≠ []) (hn : n = 0 ↔ frB c = true ∧ NoneB c 11 0) : (0 : Int) < (n : Int) := by
  have : n ≠ 0 := fun e => h ((none_flt c).2 (hn.1 e))
  omega
theorem right_faults {c : Cf} {n : Nat} (h : fltL c = []) (hn : n = 0 ↔ frB c = true ∧ NoneB c 11 0) : n = 0 := hn.2 ((none_flt c).1 h)
/-- What a plan of right tables tells of owners, all calls at once. -/
structure PQ (c : Cf) (W : World) (b : Nat) (P : Pln) : Prop where
  frame : Calls Tryz.prog 9 #[.pointer (some ⟨b, 0, none⟩)] W fun e w' => e = .returned (.int .i64 c.fr) ∧ W = w'
  owners : Calls Tryz.prog 10 #[.pointer (some ⟨b, 0, none⟩)] W fun e w' => e = .returned (.int .i64 c.cn) ∧ W = w'
  regs : Calls Tryz.prog 14 #[.pointer (some ⟨b, 0, none⟩)] W fun e w' => e = .returned (.pointer (some ⟨P.rb, 0, none⟩)) ∧ W = w'
theorem pq_of {c : Cf} {W : World} {b : Nat} {P : Pln} (x : PX W b P c) : PQ c W b P := by
  have h1 := pframe_any b P W x.pl
  have h2 := powners_any b P W x.pl
  rw [x.fr] at h1
  rw [x.cn] at h2
  exact ⟨h1, h2, pregions_any b P W x.pl⟩
theorem pcli {c : Cf} {W : World} {b : Nat} {P : Pln} (x : PX W b P c) (o : Int) : Calls Tryz.prog 11 #[.pointer (some ⟨b, 0, none⟩), .int .i64 o] W fun e w' => e = .returned (if isC c.cn o = true then .tuple #[clv (c.cd (o - 1).toNat), .int .i64 0] else .tuple #[clv zCli, .int .i64 7]) ∧ W.grownBy w' none := by
  have := pclient_any b P o W x.pl
  rw [x.cn, x.cd] at this
  exact this
theorem pwnd {c : Cf} {W : World} {b : Nat} {P : Pln} (x : PX W b P c) (o : Int) : Calls Tryz.prog 17 #[.pointer (some ⟨b, 0, none⟩), .int .i64 o] W fun e w' => e = .returned (spv (w3s (fdW (qWindow o) c.wn c.wd))) ∧ W.grownBy w' none := by
  have := pwin_any b P o W x.pl
  rw [x.wn, x.wd] at this
  exact this
theorem ioV_of {c : Cf} {W : World} {b : Nat} {P : Pln} (x : PX W b P c) : ioV P = ioC c := by
  unfold ioV ioC
  rw [x.wn, x.wd]
def whenC (c : Cf) (k o : Int) : Int := if k < 1 ∨ 2 < k ∨ isC c.cn o = false then -1 else ioC c + 2 * (o - 1) + k - 1
theorem pwhn {c : Cf} (R : RightF c) {W : World} {b : Nat} {P : Pln} (x : PX W b P c) (k o : Int) : Calls Tryz.prog 18 #[.pointer (some ⟨b, 0, none⟩), .int .i64 k, .int .i64 o] W fun e w' => e = .returned (.int .i64 (whenC c k o)) ∧ W.grownBy w' none := by
  have hio := io_le R
  have := pwhen_any b P k o W x.pl (by rw [ioV_of x]; omega)
  have e : whenV P k o = whenC c k o := by
    unfold whenV whenC
    rw [x.cn, ioV_of x]
  rw [e] at this
  exact this
theorem pfnd {c : Cf} {W : World} {b : Nat} {P : Pln} (x : PX W b P c) (o : Int) (ho : fitI o) : Calls Tryz.prog 15 #[.pointer (some ⟨P.rb, 0, none⟩), .int .i64 o] W fun e w' => e = .returned (if isC c.cn o = true then .tuple #[.agg #[.int .i64 o, .int .i64 (c.cd (o - 1).toNat).base, .int .i64 (c.cd (o - 1).toNat).size], .int .i64 0] else .tuple #[.agg #[.int .i64 0, .int .i64 0, .int .i64 0], .int .i64 7]) ∧ W.grownBy w' none := by
  obtain ⟨B, ht⟩ := x.rg
  by_cases h : 1 ≤ o ∧ o ≤ c.cn
  · rw [if_pos (by unfold isC; simp; omega)]
    exact Rg.find_some ht ho (look18 c h)
  · rw [if_neg (by unfold isC; simp; omega)]
    exact Rg.find_none ht ho (look18_no c h)
set_option maxRecDepth 20000 in
set_option maxHeartbeats 3200000 in
theorem planrows_no (c : Cf) (what owner : Int) (w : World) (hc : CfV w c) (hf : FitCf c) (hn : fltL c ≠ []) :
    Calls Tryz.prog 3 #[cfv c, .int .i64 what, .int .i64 owner] w fun e w' => e = .returned (.bool true) ∧ w.grownBy w' none := by
  obtain ⟨W1, hW, g1, hB⟩ := box1 w 26 (cfA c)
  have HG := Lib.hid g1
  have HL := Lib.hid (fun W => live18_any W)
  have HN := Lib.hid (show Calls Tryz.prog 6 #[.agg #[.int .i64 c.fr, .slice c.wA c.wn c.wc, .slice c.sA c.sn c.sc, .slice c.cA c.cn c.cc]] W1 (fun e w' => e = .returned (.tuple #[.pointer none, .int .i64 11]) ∧ W1.grownBy w' none) from
    (pnew_any c W1 (hc.grown g1) hf).mono fun e w' h => by
      obtain ⟨g, ⟨_, he⟩ | ⟨h0, _⟩⟩ := h
      · exact ⟨he, g⟩
      · exact absurd h0 hn)
  have HFA := Lib.hid (fun (W : World) (q : W1.grownBy W none) => (show Calls Tryz.prog 7 #[.agg #[.int .i64 c.fr, .slice c.wA c.wn c.wc, .slice c.sA c.sn c.sc, .slice c.cA c.cn c.cc]] W (RFaultsV c W) from rfaults_any c W ((hc.grown g1).grown q) hf))
  have HCL := Lib.hid (show ∀ W, W1.grownBy W none → W.cell? ⟨w.heap.size, 0, none⟩ = some (.int .i64 c.fr) ∧ W.cell? ⟨w.heap.size, 1, none⟩ = some (.slice c.wA c.wn c.wc) ∧ W.cell? ⟨w.heap.size, 2, none⟩ = some (.slice c.sA c.sn c.sc) ∧ W.cell? ⟨w.heap.size, 3, none⟩ = some (.slice c.cA c.cn c.cc) from fun W q => cf_cells (show BoxC W w.heap.size c from hB.only q (by simp)))
  have HNE := Lib.hid hn
  obtain ⟨c0, c1, c2, c3⟩ := HCL.out W1 (only_refl _ _)
  clear hc hf g1 hB hn
  show Calls Tryz.prog 3 #[.agg #[.int .i64 c.fr, .slice c.wA c.wn c.wc, .slice c.sA c.sn c.sc, .slice c.cA c.cn c.cc], .int .i64 what, .int .i64 owner] w _
  go_enter Tryz.func3, Tryz.ntmps3
  go_upto_region 1 with (fail)
  rw [← hW]
  clear hW
  go_wp2_with (first
    | (go_at_call 6; (with_reducible refine HN.out.mono ?_); rintro e w2 ⟨rfl, g2⟩; have G2 := Lib.hid g2; obtain ⟨d0, d1, d2, d3⟩ := HCL.out w2 g2; clear g2)
    | (go_at_call 7; (with_reducible refine (HFA.out _ G2.out).mono ?_); rintro e w3 ⟨A, n, k, rfl, hn, hn2, g3⟩; have hn3 := wrong_faults HNE.out hn; have G3 := Lib.hid (only_trans G2.out g3); clear g3 hn)
    | (go_at_call 8; (with_reducible refine (HL.out _).mono ?_); rintro e w4 ⟨rfl, g4⟩; have G4 := Lib.hid (only_trans G3.out g4); clear g4))
  go_ret
  exact ⟨by first | rfl | simp, only_trans HG.out G4.out⟩
set_option maxRecDepth 20000 in
set_option maxHeartbeats 3200000 in
theorem planrows_c (c : Cf) (what owner : Int) (w : World) (hc : CfV w c) (hf : FitCf c) (h0 : fltL c = []) (i : Nat) (hin : i < c.cn) (hk : what = 1 ∨ what = 2) :
    Calls Tryz.prog 3 #[cfv c, .int .i64 what, .int .i64 ((i : Int) + 1)] w fun e w' => e = .returned (.bool true) ∧ w.grownBy w' none := by
  obtain ⟨W1, hW, g1, hB⟩ := box1 w 26 (cfA c)
  have HG := Lib.hid g1
  have R := Lib.hid (right_of c h0)
  have HL := Lib.hid (fun W => live18_any W)
  have HN := Lib.hid (show Calls Tryz.prog 6 #[.agg #[.int .i64 c.fr, .slice c.wA c.wn c.wc, .slice c.sA c.sn c.sc, .slice c.cA c.cn c.cc]] W1 (fun e w' => ∃ b P, e = .returned (.tuple #[.pointer (some ⟨b, 0, none⟩), .int .i64 0]) ∧ PX w' b P c ∧ W1.grownBy w' none) from
    (pnew_any c W1 (hc.grown g1) hf).mono fun e w' h => by
      obtain ⟨g, ⟨hne, _⟩ | ⟨_, b, P, he, hp⟩⟩ := h
      · exact absurd h0 hne
      · exact ⟨b, P, he, hp, g⟩)
  have HFA := Lib.hid (fun (W : World) (q : W1.grownBy W none) => (show Calls Tryz.prog 7 #[.agg #[.int .i64 c.fr, .slice c.wA c.wn c.wc, .slice c.sA c.sn c.sc, .slice c.cA c.cn c.cc]] W (RFaultsV c W) from rfaults_any c W ((hc.grown g1).grown q) hf))
  have HCL := Lib.hid (show ∀ W, W1.grownBy W none → W.cell? ⟨w.heap.size, 0, none⟩ = some (.int .i64 c.fr) ∧ W.cell? ⟨w.heap.size, 1, none⟩ = some (.slice c.wA c.wn c.wc) ∧ W.cell? ⟨w.heap.size, 2, none⟩ = some (.slice c.sA c.sn c.sc) ∧ W.cell? ⟨w.heap.size, 3, none⟩ = some (.slice c.cA c.cn c.cc) from fun W q => cf_cells (show BoxC W w.heap.size c from hB.only q (by simp)))
  have HCV := Lib.hid (fun (W : World) (q : W1.grownBy W none) => (hc.grown g1).grown q)
  have HFC := Lib.hid hf
  have H0 := Lib.hid h0
  obtain ⟨c0, c1, c2, c3⟩ := HCL.out W1 (only_refl _ _)
  clear hc hf g1 hB h0
  show Calls Tryz.prog 3 #[.agg #[.int .i64 c.fr, .slice c.wA c.wn c.wc, .slice c.sA c.sn c.sc, .slice c.cA c.cn c.cc], .int .i64 what, .int .i64 ((i : Int) + 1)] w _
  have hfew := R.out.few
  have i1 : (i : Int) + 1 ≤ (c.cn : Int) := by omega
  have i2 : (1 : Int) ≤ (i : Int) + 1 := by omega
  have i3 : (i : Int) < (c.cn : Int) := by omega
  have i4 : (0 : Int) ≤ (i : Int) := by omega
  have i5 : ((i : Int) + 1 == 0) = false := by rw [beq_eq_false_iff_ne]; omega
  have u1 : IntKind.i64.wrap ((i : Int) + 1 - 1) = i := by rw [IntKind.wrap_i64]; omega
  have u2 : IntKind.i64.wrap (i : Int) = i := by rw [IntKind.wrap_i64]; omega
  have hic : isC c.cn ((i : Int) + 1) = true := by unfold isC; simp; omega
  have e1n : ((i : Int) + 1 - 1).toNat = i := by omega
  have HIC := Lib.hid hic
  have HE1 := Lib.hid e1n
  clear hic e1n hfew
  go_enter Tryz.func3, Tryz.ntmps3
  go_upto_region 1 with (fail)
  rw [← hW]
  clear hW
  go_upto_region 4 with (first
    | (go_at_call 6; (with_reducible refine HN.out.mono ?_); rintro e w2 ⟨b, P, rfl, hx, g2⟩; have G2 := Lib.hid g2; have X2 := Lib.hid hx; obtain ⟨d0, d1, d2, d3⟩ := HCL.out w2 g2; clear g2 hx)
    | (go_at_call 7; (with_reducible refine (HFA.out _ G2.out).mono ?_); rintro e w3 ⟨A, n, k, rfl, hn, hn2, g3⟩; obtain rfl := right_faults H0.out hn; have G3 := Lib.hid (only_trans G2.out g3); have X3 := Lib.hid (X2.out.grown g3); obtain ⟨e0, e1, e2, e3⟩ := HCL.out w3 G3.out; clear g3 hn d0 d1 d2 d3))
  have HPQ := Lib.hid (fun q : Nat => pq_of (X3.out.grown (only_drewN (only_refl w3 none) q)))
  go_quiet (first | (go_at_call 9; with_reducible exact quiet_same (HPQ.out _).frame) | (go_at_call 10; with_reducible exact quiet_same (HPQ.out _).owners))
  have G4 := Lib.hid (only_drewN G3.out nq)
  have X4 := Lib.hid (X3.out.grown (only_drewN (only_refl w3 none) nq))
  clear e0 e1 e2 e3 HPQ
  obtain ⟨e0, e1, e2, e3⟩ := HCL.out _ G4.out
  generalize w3.drewN nq = w4 at G4 X4 e0 e1 e2 e3 ⊢
  have HCI := Lib.hid (show Calls Tryz.prog 11 #[.pointer (some ⟨b, 0, none⟩), .int .i64 ((i : Int) + 1)] w4 (fun e w' => e = .returned (.tuple #[.agg #[.int .i64 (c.cd i).base, .int .i64 (c.cd i).size, .int .i64 (c.cd i).ring, .int .i64 (c.cd i).at', .int .i64 (c.cd i).quota, .int .i64 (c.cd i).queue, .int .i64 (c.cd i).mac, .int .i64 (c.cd i).chan, .int .i64 (c.cd i).first, .int .i64 (c.cd i).secs], .int .i64 0]) ∧ w4.grownBy w' none) from by
    have := pcli X4.out ((i : Int) + 1)
    rw [if_pos HIC.out, HE1.out] at this
    exact this)
  have HX := Lib.hid (show ∃ x, x = c.cd i from ⟨_, rfl⟩)
  obtain ⟨x, hx⟩ := HX.out
  rw [← hx] at HCI
  have hxx := Lib.hid hx
  clear hx HX
  go_upto_region 7 with (go_at_call 11; (with_reducible refine HCI.out.mono ?_); rintro e w5 ⟨rfl, g5⟩; have G5 := Lib.hid (only_trans G4.out g5); have X5 := Lib.hid (X4.out.grown g5); clear g5 e0 e1 e2 e3)
  obtain ⟨w6, hw6⟩ : ∃ w6, w6 = w5.alloc (.cells #[.int .i64 x.base, .int .i64 x.size, .int .i64 x.ring, .int .i64 x.at', .int .i64 x.quota, .int .i64 x.queue, .int .i64 x.mac, .int .i64 x.chan, .int .i64 x.first, .int .i64 x.secs] 36) := ⟨_, rfl⟩
  have B9 := Lib.hid (show Blk w6 w5.heap.size 36 (clA x) from by rw [hw6]; exact Blk.new _ _ _)
  have g6 : w5.grownBy w6 none := by rw [hw6]; exact only_alloc (only_refl _ _) _
  have G6 := Lib.hid (only_trans G5.out g6)
  have X6 := Lib.hid (X5.out.grown g6)
  rw [← hw6]
  clear hw6 g6
  obtain ⟨e0, e1, e2, e3⟩ := HCL.out w6 G6.out
  have HCV6 := HCV.out w6 G6.out
  obtain ⟨bs, off, hA, hbs, hcs⟩ := HCV6.2.2.2 (by omega)
  obtain ⟨s0, s1, s2, s3, s4, s5, s6, s7, s8, s9⟩ := hcs i hin
  rw [← hxx.out] at s0 s1 s2 s3 s4 s5 s6 s7 s8 s9
  rw [hA] at e3
  have hq := fun w : World => neq_cli18 x.base x.size x.ring x.at' x.quota x.queue x.mac x.chan x.first x.secs w
  obtain ⟨z0, z1, z2, z3, z4, z5, z6, z7, z8, z9, f0, f1, f2, f3, f4, f5, f6, f7, f8, f9⟩ := box10c B9.out
  clear hcs HCV6 hA f0 f1 f2 f3 f4 f5 f6 f7 f8 f9
  go_upto_region 8 with (fail)
  go_quiet (first | fail)
  have G7 := Lib.hid (only_drewN G6.out nq)
  have X7 := Lib.hid (X6.out.grown (only_drewN (only_refl w6 none) nq))
  have C9 := Lib.hid (B9.out.drewN nq)
  clear z0 z1 z2 z3 z4 z5 z6 z7 z8 z9 s0 s1 s2 s3 s4 s5 s6 s7 s8 s9 hq e0 e1 e2 e3 hbs B9 X6 G6
  generalize w6.drewN nq = w7 at G7 X7 C9 ⊢
  go_upto_region 11 with (fail)
  obtain ⟨w8, hw8⟩ : ∃ w8, w8 = w7.alloc (.cells #[.int .i64 0, .int .i64 0] 40) := ⟨_, rfl⟩
  have g8 : w7.grownBy w8 none := by rw [hw8]; exact only_alloc (only_refl _ _) _
  have B12 := Lib.hid (show Blk w8 w7.heap.size 40 #[.int .i64 0, .int .i64 0] from by rw [hw8]; exact Blk.new _ _ _)
  have G8 := Lib.hid (only_trans G7.out g8)
  have X8 := Lib.hid (X7.out.grown g8)
  have D9 := Lib.hid (C9.out.only g8 (by simp))
  have hs7 := Lib.hid (show W1.heap.size ≤ w7.heap.size ∧ w5.heap.size < w7.heap.size from ⟨G7.out.size, C9.out.lt⟩)
  have h78 := Lib.hid g8
  rw [← hw8]
  clear hw8 g8
  obtain ⟨e0, e1, e2, e3⟩ := HCL.out w8 G8.out
  have HRW := Lib.hid (show Calls Tryz.prog 12 #[.agg #[.int .i64 c.fr, .slice c.wA c.wn c.wc, .slice c.sA c.sn c.sc, .slice c.cA c.cn c.cc], .int .i64 ((i : Int) + 1)] w8 (fun e w' => e = .returned (spv (w3s (fdW (qWindow ((i : Int) + 1)) c.wn c.wd))) ∧ w8.grownBy w' none) from rwindow_any c ((i : Int) + 1) w8 (HCV.out w8 G8.out) (by have := R.out.few; omega))
  have HWN := Lib.hid (fun (W : World) (q : PX W b P c) => pwnd q ((i : Int) + 1))
  generalize fdW (qWindow ((i : Int) + 1)) c.wn c.wd = r at HRW HWN
  obtain ⟨r0, r1, r2⟩ := r
  replace HRW := Lib.hid (show Calls Tryz.prog 12 #[.agg #[.int .i64 c.fr, .slice c.wA c.wn c.wc, .slice c.sA c.sn c.sc, .slice c.cA c.cn c.cc], .int .i64 ((i : Int) + 1)] w8 (fun e w' => e = .returned (.agg #[.int .i64 r1, .int .i64 r2]) ∧ w8.grownBy w' none) from HRW.out)
  replace HWN := Lib.hid (fun (W : World) (q : PX W b P c) => (show Calls Tryz.prog 17 #[.pointer (some ⟨b, 0, none⟩), .int .i64 ((i : Int) + 1)] W (fun e w' => e = .returned (.agg #[.int .i64 r1, .int .i64 r2]) ∧ W.grownBy w' none) from HWN.out W q))
  go_upto_region 13 with (go_at_call 12; (with_reducible refine HRW.out.mono ?_); rintro e w9 ⟨rfl, g9⟩; have G9 := Lib.hid (only_trans G8.out g9); have X9 := Lib.hid (X8.out.grown g9); have E9 := Lib.hid (D9.out.only g9 (by simp)); have E12 := Lib.hid (B12.out.only g9 (by simp)); have HG79 := Lib.hid (only_trans h78.out g9); obtain ⟨y0, y1, fy0, fy1⟩ := box2c E12.out; clear g9 e0 e1 e2 e3)
  obtain ⟨w10, hw10⟩ : ∃ w10, w10 = (w9.setCell ⟨w7.heap.size, 0, none⟩ (.int .i64 r1)).setCell ⟨w7.heap.size, 1, none⟩ (.int .i64 r2) := ⟨_, rfl⟩
  have F12 := Lib.hid (show Blk w10 w7.heap.size 40 #[.int .i64 r1, .int .i64 r2] from by rw [hw10]; exact (E12.out.put 0 (.int .i64 r1)).put 1 (.int .i64 r2))
  have F9 := Lib.hid (show Blk w10 w5.heap.size 36 (clA x) from by rw [hw10]; exact (E9.out.far (p := ⟨w7.heap.size, 0, none⟩) (by show w5.heap.size ≠ w7.heap.size; have := hs7.out; omega) _).far (p := ⟨w7.heap.size, 1, none⟩) (by show w5.heap.size ≠ w7.heap.size; have := hs7.out; omega) _)
  have G10 := Lib.hid (show W1.grownBy w10 none from by rw [hw10]; exact only_putc (only_putc G9.out (p := ⟨w7.heap.size, 0, none⟩) hs7.out.1 _) (p := ⟨w7.heap.size, 1, none⟩) hs7.out.1 _)
  have g710 : w7.grownBy w10 none := by rw [hw10]; exact only_putc (only_putc HG79.out (p := ⟨w7.heap.size, 0, none⟩) (Nat.le_refl _) _) (p := ⟨w7.heap.size, 1, none⟩) (Nat.le_refl _) _
  have X10 := Lib.hid (X7.out.grown g710)
  rw [← hw10]
  clear hw10 y0 y1 fy0 fy1 g710
  obtain ⟨e0, e1, e2, e3⟩ := HCL.out w10 G10.out
  have hk12 : 1 ≤ what ∧ what ≤ 2 := by omega
  have HRWH := Lib.hid (show Calls Tryz.prog 13 #[.agg #[.int .i64 c.fr, .slice c.wA c.wn c.wc, .slice c.sA c.sn c.sc, .slice c.cA c.cn c.cc], .int .i64 what, .int .i64 ((i : Int) + 1)] w10 (fun e w' => e = .returned (.int .i64 (whenC c what ((i : Int) + 1))) ∧ w10.grownBy w' none) from by
    have hio := io_le R.out
    have := rwhen_any c what ((i : Int) + 1) w10 (HCV.out w10 G10.out) (by have := R.out.few; omega) ⟨hio.1, hio.2.1⟩ hk12 (by have := R.out.few; omega)
    rw [show ioC c + 2 * ((i : Int) + 1) - 3 + what = whenC c what ((i : Int) + 1) from by
      unfold whenC
      rw [HIC.out, if_neg (by simp; omega)]
      omega] at this
    exact this)
  have HPW := Lib.hid (fun (W : World) (q : PX W b P c) => pwhn R.out q what ((i : Int) + 1))
  have HFD := Lib.hid (fun (W : World) (q : PX W b P c) => (show Calls Tryz.prog 15 #[.pointer (some ⟨P.rb, 0, none⟩), .int .i64 ((i : Int) + 1)] W (fun e w' => e = .returned (.tuple #[.agg #[.int .i64 ((i : Int) + 1), .int .i64 x.base, .int .i64 x.size], .int .i64 0]) ∧ W.grownBy w' none) from by
    have := pfnd q ((i : Int) + 1) (by have := R.out.few; unfold fitI; omega)
    rw [if_pos HIC.out, HE1.out, ← hxx.out] at this
    exact this))
  have hmay : Rg.mayB ((i : Int) + 1, x.base, x.size) = true ∧ IntKind.i64.wrap (x.base + x.size) = x.base + x.size := by
    have := Rg.chkN_may R.out.regs (rd18 c i) (Sr.lst_mem.2 ⟨i, hin, rfl⟩)
    simp only [rd18] at this
    rw [← hxx.out] at this
    refine ⟨this, ?_⟩
    rw [Rg.mayB_iff] at this
    rw [IntKind.wrap_i64]
    simp only at this
    omega
  obtain ⟨hmay, u3⟩ := hmay
  have HSP := Lib.hid (fun W => (show Calls Tryz.prog 16 #[.agg #[.int .i64 ((i : Int) + 1), .int .i64 x.base, .int .i64 x.size]] W (fun e w' => e = .returned (.agg #[.int .i64 x.base, .int .i64 (x.base + x.size)]) ∧ W.grownBy w' none) from Rg.rspan_any ((i : Int) + 1, x.base, x.size) hmay W))
  have HRG := Lib.hid (fun (W : World) (q : PX W b P c) => (pq_of q).regs)
  have hq2 := fun w : World => neq_span18 x.base (x.base + x.size) w
  have hq3 := fun w : World => eq_span18 r1 r2 w
  clear hmay hk12
  generalize whenC c what ((i : Int) + 1) = V at HRWH HPW
  rcases hk with rfl | rfl
  all_goals
    go_upto_region 17 with (first
      | (go_at_call 13; (with_reducible refine HRWH.out.mono ?_); rintro e w11 ⟨rfl, g11⟩; have G11 := Lib.hid (only_trans G10.out g11); have X11 := Lib.hid (X10.out.grown g11); have J9 := Lib.hid (F9.out.only g11 (by simp)); have J12 := Lib.hid (F12.out.only g11 (by simp)); clear g11 e0 e1 e2 e3)
      | (go_at_call 14; (with_reducible refine (HRG.out _ X11.out).mono ?_); rintro e w12 ⟨rfl, rfl⟩)
      | (go_at_call 15; (with_reducible refine (HFD.out _ X11.out).mono ?_); rintro e w13 ⟨rfl, g13⟩; have G13 := Lib.hid (only_trans G11.out g13); have X13 := Lib.hid (X11.out.grown g13); have K9 := Lib.hid (J9.out.only g13 (by simp)); have K12 := Lib.hid (J12.out.only g13 (by simp)); clear g13))
    obtain ⟨w14, hw14⟩ : ∃ w14, w14 = w13.alloc (.cells #[.int .i64 ((i : Int) + 1), .int .i64 x.base, .int .i64 x.size] 44) := ⟨_, rfl⟩
    have g14 : w13.grownBy w14 none := by rw [hw14]; exact only_alloc (only_refl _ _) _
    have B14 : Blk w14 w13.heap.size 44 #[.int .i64 ((i : Int) + 1), .int .i64 x.base, .int .i64 x.size] := by rw [hw14]; exact Blk.new _ _ _
    have G14 := Lib.hid (only_trans G13.out g14)
    have X14 := Lib.hid (X13.out.grown g14)
    have L9 := K9.out.only g14 (by simp)
    have L12 := Lib.hid (K12.out.only g14 (by simp))
    rw [← hw14]
    clear hw14 g14
    have m0 := fun d os => blk_re B14 d os 0
    have m1 := fun d os => blk_re B14 d os 1
    have m2 := fun d os => blk_re B14 d os 2
    have m3 := fun d os => blk_re L9 d os 0
    have m4 := fun d os => blk_re L9 d os 1
    simp at m0 m1 m2 m3 m4
    clear B14 L9
    refine wp_region_quiet_below (by kernel_rfl) (by kernel_rfl) ?_
    repeat (go_big_quiet_step ((first | (go_at_call 16; with_reducible exact rg1 (HSP.out _)))))
    refine wpQuiet_nil ?_
    intro w15 hw15
    obtain ⟨p15, rfl⟩ := hw15
    have G15 := Lib.hid (only_trans G14.out (only_re w14 p15.d p15.os))
    have X15 := Lib.hid (X14.out.grown (only_re w14 p15.d p15.os))
    have N12 := L12.out.only (only_re w14 p15.d p15.os) (by simp)
    clear m0 m1 m2 m3 m4
    generalize grow (redrawn w14 p15.d) p15.os = w15 at G15 X15 N12 ⊢
    have n0 := fun d os => blk_re N12 d os 0
    have n1 := fun d os => blk_re N12 d os 1
    simp at n0 n1
    have HX16 := Lib.hid (fun dd os => X15.out.grown (only_re w15 dd os))
    clear N12
    go_upto_region 19 with (fail)
    refine wp_region_quiet_below (by kernel_rfl) (by kernel_rfl) ?_
    repeat (go_big_quiet_step ((first
      | (go_at_call 8; with_reducible exact rg1 (HL.out _))
      | (go_at_call 17; with_reducible exact rg1 (HWN.out _ (HX16.out _ _)))
      | (go_at_call 18; with_reducible exact rg1 (HPW.out _ (HX16.out _ _))))))
    refine wpQuiet_nil ?_
    intro w16 hw16
    obtain ⟨p16, rfl⟩ := hw16
    have G16 := Lib.hid (only_trans G15.out (only_re w15 p16.d p16.os))
    clear n0 n1
    generalize grow (redrawn w15 p16.d) p16.os = w16 at G16 ⊢
    go_wp2
    go_ret
    exact ⟨by first | rfl | simp, only_trans HG.out G16.out⟩
end Go.Proofs.YtfhhcpmoaggdmaaGreat

/- PlanRows, walked: a client, of no duty. -/
namespace Go.Proofs.YtfhhcpmoaggdmaaGreat
open Go.RowKit Go.Lib Go.Sort
attribute [-go_sem] Go.run_neq_struct
attribute [-go_sem] Go.run_eql_struct
set_option linter.unusedVariables false

set_option maxRecDepth 20000 in
set_option maxHeartbeats 3200000 in
theorem planrows_b (c : Cf) (what owner : Int) (w : World) (hc : CfV w c) (hf : FitCf c) (h0 : fltL c = []) (i : Nat) (hin : i < c.cn) (hk : ¬ what = 1 ∧ ¬ what = 2) :
    Calls Tryz.prog 3 #[cfv c, .int .i64 what, .int .i64 ((i : Int) + 1)] w fun e w' => e = .returned (.bool true) ∧ w.grownBy w' none := by
  obtain ⟨W1, hW, g1, hB⟩ := box1 w 26 (cfA c)
  have HG := Lib.hid g1
  have R := Lib.hid (right_of c h0)
  have HL := Lib.hid (fun W => live18_any W)
  have HN := Lib.hid (show Calls Tryz.prog 6 #[.agg #[.int .i64 c.fr, .slice c.wA c.wn c.wc, .slice c.sA c.sn c.sc, .slice c.cA c.cn c.cc]] W1 (fun e w' => ∃ b P, e = .returned (.tuple #[.pointer (some ⟨b, 0, none⟩), .int .i64 0]) ∧ PX w' b P c ∧ W1.grownBy w' none) from
    (pnew_any c W1 (hc.grown g1) hf).mono fun e w' h => by
      obtain ⟨g, ⟨hne, _⟩ | ⟨_, b, P, he, hp⟩⟩ := h
      · exact absurd h0 hne
      · exact ⟨b, P, he, hp, g⟩)
  have HFA := Lib.hid (fun (W : World) (q : W1.grownBy W none) => (show Calls Tryz.prog 7 #[.agg #[.int .i64 c.fr, .slice c.wA c.wn c.wc, .slice c.sA c.sn c.sc, .slice c.cA c.cn c.cc]] W (RFaultsV c W) from rfaults_any c W ((hc.grown g1).grown q) hf))
  have HCL := Lib.hid (show ∀ W, W1.grownBy W none → W.cell? ⟨w.heap.size, 0, none⟩ = some (.int .i64 c.fr) ∧ W.cell? ⟨w.heap.size, 1, none⟩ = some (.slice c.wA c.wn c.wc) ∧ W.cell? ⟨w.heap.size, 2, none⟩ = some (.slice c.sA c.sn c.sc) ∧ W.cell? ⟨w.heap.size, 3, none⟩ = some (.slice c.cA c.cn c.cc) from fun W q => cf_cells (show BoxC W w.heap.size c from hB.only q (by simp)))
  have HCV := Lib.hid (fun (W : World) (q : W1.grownBy W none) => (hc.grown g1).grown q)
  have HFC := Lib.hid hf
  have H0 := Lib.hid h0
  obtain ⟨c0, c1, c2, c3⟩ := HCL.out W1 (only_refl _ _)
  clear hc hf g1 hB h0
  show Calls Tryz.prog 3 #[.agg #[.int .i64 c.fr, .slice c.wA c.wn c.wc, .slice c.sA c.sn c.sc, .slice c.cA c.cn c.cc], .int .i64 what, .int .i64 ((i : Int) + 1)] w _
  have hfew := R.out.few
  have i1 : (i : Int) + 1 ≤ (c.cn : Int) := by omega
  have i2 : (1 : Int) ≤ (i : Int) + 1 := by omega
  have i3 : (i : Int) < (c.cn : Int) := by omega
  have i4 : (0 : Int) ≤ (i : Int) := by omega
  have i5 : ((i : Int) + 1 == 0) = false := by rw [beq_eq_false_iff_ne]; omega
  have u1 : IntKind.i64.wrap ((i : Int) + 1 - 1) = i := by rw [IntKind.wrap_i64]; omega
  have u2 : IntKind.i64.wrap (i : Int) = i := by rw [IntKind.wrap_i64]; omega
  have hic : isC c.cn ((i : Int) + 1) = true := by unfold isC; simp; omega
  have e1n : ((i : Int) + 1 - 1).toNat = i := by omega
  have HIC := Lib.hid hic
  have HE1 := Lib.hid e1n
  clear hic e1n hfew
  go_enter Tryz.func3, Tryz.ntmps3
  go_upto_region 1 with (fail)
  rw [← hW]
  clear hW
  go_upto_region 4 with (first
    | (go_at_call 6; (with_reducible refine HN.out.mono ?_); rintro e w2 ⟨b, P, rfl, hx, g2⟩; have G2 := Lib.hid g2; have X2 := Lib.hid hx; obtain ⟨d0, d1, d2, d3⟩ := HCL.out w2 g2; clear g2 hx)
    | (go_at_call 7; (with_reducible refine (HFA.out _ G2.out).mono ?_); rintro e w3 ⟨A, n, k, rfl, hn, hn2, g3⟩; obtain rfl := right_faults H0.out hn; have G3 := Lib.hid (only_trans G2.out g3); have X3 := Lib.hid (X2.out.grown g3); obtain ⟨e0, e1, e2, e3⟩ := HCL.out w3 G3.out; clear g3 hn d0 d1 d2 d3))
  have HPQ := Lib.hid (fun q : Nat => pq_of (X3.out.grown (only_drewN (only_refl w3 none) q)))
  go_quiet (first | (go_at_call 9; with_reducible exact quiet_same (HPQ.out _).frame) | (go_at_call 10; with_reducible exact quiet_same (HPQ.out _).owners))
  have G4 := Lib.hid (only_drewN G3.out nq)
  have X4 := Lib.hid (X3.out.grown (only_drewN (only_refl w3 none) nq))
  clear e0 e1 e2 e3 HPQ
  obtain ⟨e0, e1, e2, e3⟩ := HCL.out _ G4.out
  generalize w3.drewN nq = w4 at G4 X4 e0 e1 e2 e3 ⊢
  have HCI := Lib.hid (show Calls Tryz.prog 11 #[.pointer (some ⟨b, 0, none⟩), .int .i64 ((i : Int) + 1)] w4 (fun e w' => e = .returned (.tuple #[.agg #[.int .i64 (c.cd i).base, .int .i64 (c.cd i).size, .int .i64 (c.cd i).ring, .int .i64 (c.cd i).at', .int .i64 (c.cd i).quota, .int .i64 (c.cd i).queue, .int .i64 (c.cd i).mac, .int .i64 (c.cd i).chan, .int .i64 (c.cd i).first, .int .i64 (c.cd i).secs], .int .i64 0]) ∧ w4.grownBy w' none) from by
    have := pcli X4.out ((i : Int) + 1)
    rw [if_pos HIC.out, HE1.out] at this
    exact this)
  have HX := Lib.hid (show ∃ x, x = c.cd i from ⟨_, rfl⟩)
  obtain ⟨x, hx⟩ := HX.out
  rw [← hx] at HCI
  have hxx := Lib.hid hx
  clear hx HX
  go_upto_region 7 with (go_at_call 11; (with_reducible refine HCI.out.mono ?_); rintro e w5 ⟨rfl, g5⟩; have G5 := Lib.hid (only_trans G4.out g5); have X5 := Lib.hid (X4.out.grown g5); clear g5 e0 e1 e2 e3)
  obtain ⟨w6, hw6⟩ : ∃ w6, w6 = w5.alloc (.cells #[.int .i64 x.base, .int .i64 x.size, .int .i64 x.ring, .int .i64 x.at', .int .i64 x.quota, .int .i64 x.queue, .int .i64 x.mac, .int .i64 x.chan, .int .i64 x.first, .int .i64 x.secs] 36) := ⟨_, rfl⟩
  have B9 := Lib.hid (show Blk w6 w5.heap.size 36 (clA x) from by rw [hw6]; exact Blk.new _ _ _)
  have g6 : w5.grownBy w6 none := by rw [hw6]; exact only_alloc (only_refl _ _) _
  have G6 := Lib.hid (only_trans G5.out g6)
  have X6 := Lib.hid (X5.out.grown g6)
  rw [← hw6]
  clear hw6 g6
  obtain ⟨e0, e1, e2, e3⟩ := HCL.out w6 G6.out
  have HCV6 := HCV.out w6 G6.out
  obtain ⟨bs, off, hA, hbs, hcs⟩ := HCV6.2.2.2 (by omega)
  obtain ⟨s0, s1, s2, s3, s4, s5, s6, s7, s8, s9⟩ := hcs i hin
  rw [← hxx.out] at s0 s1 s2 s3 s4 s5 s6 s7 s8 s9
  rw [hA] at e3
  have hq := fun w : World => neq_cli18 x.base x.size x.ring x.at' x.quota x.queue x.mac x.chan x.first x.secs w
  obtain ⟨z0, z1, z2, z3, z4, z5, z6, z7, z8, z9, f0, f1, f2, f3, f4, f5, f6, f7, f8, f9⟩ := box10c B9.out
  clear hcs HCV6 hA f0 f1 f2 f3 f4 f5 f6 f7 f8 f9
  go_upto_region 8 with (fail)
  go_quiet (first | fail)
  have G7 := Lib.hid (only_drewN G6.out nq)
  have X7 := Lib.hid (X6.out.grown (only_drewN (only_refl w6 none) nq))
  have C9 := Lib.hid (B9.out.drewN nq)
  clear z0 z1 z2 z3 z4 z5 z6 z7 z8 z9 s0 s1 s2 s3 s4 s5 s6 s7 s8 s9 hq e0 e1 e2 e3 hbs B9 X6 G6
  generalize w6.drewN nq = w7 at G7 X7 C9 ⊢
  go_upto_region 11 with (fail)
  obtain ⟨w8, hw8⟩ : ∃ w8, w8 = w7.alloc (.cells #[.int .i64 0, .int .i64 0] 40) := ⟨_, rfl⟩
  have g8 : w7.grownBy w8 none := by rw [hw8]; exact only_alloc (only_refl _ _) _
  have B12 := Lib.hid (show Blk w8 w7.heap.size 40 #[.int .i64 0, .int .i64 0] from by rw [hw8]; exact Blk.new _ _ _)
  have G8 := Lib.hid (only_trans G7.out g8)
  have X8 := Lib.hid (X7.out.grown g8)
  have D9 := Lib.hid (C9.out.only g8 (by simp))
  have hs7 := Lib.hid (show W1.heap.size ≤ w7.heap.size ∧ w5.heap.size < w7.heap.size from ⟨G7.out.size, C9.out.lt⟩)
  have h78 := Lib.hid g8
  rw [← hw8]
  clear hw8 g8
  obtain ⟨e0, e1, e2, e3⟩ := HCL.out w8 G8.out
  have HRW := Lib.hid (show Calls Tryz.prog 12 #[.agg #[.int .i64 c.fr, .slice c.wA c.wn c.wc, .slice c.sA c.sn c.sc, .slice c.cA c.cn c.cc], .int .i64 ((i : Int) + 1)] w8 (fun e w' => e = .returned (spv (w3s (fdW (qWindow ((i : Int) + 1)) c.wn c.wd))) ∧ w8.grownBy w' none) from rwindow_any c ((i : Int) + 1) w8 (HCV.out w8 G8.out) (by have := R.out.few; omega))
  have HWN := Lib.hid (fun (W : World) (q : PX W b P c) => pwnd q ((i : Int) + 1))
  generalize fdW (qWindow ((i : Int) + 1)) c.wn c.wd = r at HRW HWN
  obtain ⟨r0, r1, r2⟩ := r
  replace HRW := Lib.hid (show Calls Tryz.prog 12 #[.agg #[.int .i64 c.fr, .slice c.wA c.wn c.wc, .slice c.sA c.sn c.sc, .slice c.cA c.cn c.cc], .int .i64 ((i : Int) + 1)] w8 (fun e w' => e = .returned (.agg #[.int .i64 r1, .int .i64 r2]) ∧ w8.grownBy w' none) from HRW.out)
  replace HWN := Lib.hid (fun (W : World) (q : PX W b P c) => (show Calls Tryz.prog 17 #[.pointer (some ⟨b, 0, none⟩), .int .i64 ((i : Int) + 1)] W (fun e w' => e = .returned (.agg #[.int .i64 r1, .int .i64 r2]) ∧ W.grownBy w' none) from HWN.out W q))
  go_upto_region 13 with (go_at_call 12; (with_reducible refine HRW.out.mono ?_); rintro e w9 ⟨rfl, g9⟩; have G9 := Lib.hid (only_trans G8.out g9); have X9 := Lib.hid (X8.out.grown g9); have E9 := Lib.hid (D9.out.only g9 (by simp)); have E12 := Lib.hid (B12.out.only g9 (by simp)); have HG79 := Lib.hid (only_trans h78.out g9); obtain ⟨y0, y1, fy0, fy1⟩ := box2c E12.out; clear g9 e0 e1 e2 e3)
  obtain ⟨w10, hw10⟩ : ∃ w10, w10 = (w9.setCell ⟨w7.heap.size, 0, none⟩ (.int .i64 r1)).setCell ⟨w7.heap.size, 1, none⟩ (.int .i64 r2) := ⟨_, rfl⟩
  have F12 := Lib.hid (show Blk w10 w7.heap.size 40 #[.int .i64 r1, .int .i64 r2] from by rw [hw10]; exact (E12.out.put 0 (.int .i64 r1)).put 1 (.int .i64 r2))
  have F9 := Lib.hid (show Blk w10 w5.heap.size 36 (clA x) from by rw [hw10]; exact (E9.out.far (p := ⟨w7.heap.size, 0, none⟩) (by show w5.heap.size ≠ w7.heap.size; have := hs7.out; omega) _).far (p := ⟨w7.heap.size, 1, none⟩) (by show w5.heap.size ≠ w7.heap.size; have := hs7.out; omega) _)
  have G10 := Lib.hid (show W1.grownBy w10 none from by rw [hw10]; exact only_putc (only_putc G9.out (p := ⟨w7.heap.size, 0, none⟩) hs7.out.1 _) (p := ⟨w7.heap.size, 1, none⟩) hs7.out.1 _)
  have g710 : w7.grownBy w10 none := by rw [hw10]; exact only_putc (only_putc HG79.out (p := ⟨w7.heap.size, 0, none⟩) (Nat.le_refl _) _) (p := ⟨w7.heap.size, 1, none⟩) (Nat.le_refl _) _
  have X10 := Lib.hid (X7.out.grown g710)
  rw [← hw10]
  clear hw10 y0 y1 fy0 fy1 g710
  obtain ⟨e0, e1, e2, e3⟩ := HCL.out w10 G10.out
  have HPW := Lib.hid (fun (W : World) (q : PX W b P c) => (show Calls Tryz.prog 18 #[.pointer (some ⟨b, 0, none⟩), .int .i64 what, .int .i64 ((i : Int) + 1)] W (fun e w' => e = .returned (.int .i64 (-1)) ∧ W.grownBy w' none) from by
    have := pwhn R.out q what ((i : Int) + 1)
    rw [show whenC c what ((i : Int) + 1) = -1 from by unfold whenC; rw [if_pos (by omega)]] at this
    exact this))
  have k1 : (what == 1) = false := by simpa using hk.1
  have k2 : (what == 2) = false := by simpa using hk.2
  have G11 := G10
  have X11 := X10
  have J9 := F9
  have J12 := F12
  have HFD := Lib.hid (fun (W : World) (q : PX W b P c) => (show Calls Tryz.prog 15 #[.pointer (some ⟨P.rb, 0, none⟩), .int .i64 ((i : Int) + 1)] W (fun e w' => e = .returned (.tuple #[.agg #[.int .i64 ((i : Int) + 1), .int .i64 x.base, .int .i64 x.size], .int .i64 0]) ∧ W.grownBy w' none) from by
    have := pfnd q ((i : Int) + 1) (by have := R.out.few; unfold fitI; omega)
    rw [if_pos HIC.out, HE1.out, ← hxx.out] at this
    exact this))
  have hmay : Rg.mayB ((i : Int) + 1, x.base, x.size) = true ∧ IntKind.i64.wrap (x.base + x.size) = x.base + x.size := by
    have := Rg.chkN_may R.out.regs (rd18 c i) (Sr.lst_mem.2 ⟨i, hin, rfl⟩)
    simp only [rd18] at this
    rw [← hxx.out] at this
    refine ⟨this, ?_⟩
    rw [Rg.mayB_iff] at this
    rw [IntKind.wrap_i64]
    simp only at this
    omega
  obtain ⟨hmay, u3⟩ := hmay
  have HSP := Lib.hid (fun W => (show Calls Tryz.prog 16 #[.agg #[.int .i64 ((i : Int) + 1), .int .i64 x.base, .int .i64 x.size]] W (fun e w' => e = .returned (.agg #[.int .i64 x.base, .int .i64 (x.base + x.size)]) ∧ W.grownBy w' none) from Rg.rspan_any ((i : Int) + 1, x.base, x.size) hmay W))
  have HRG := Lib.hid (fun (W : World) (q : PX W b P c) => (pq_of q).regs)
  have hq2 := fun w : World => neq_span18 x.base (x.base + x.size) w
  have hq3 := fun w : World => eq_span18 r1 r2 w
  clear hmay hk e0 e1 e2 e3
  go_upto_region 17 with (first
    | (go_at_call 14; (with_reducible refine (HRG.out _ X11.out).mono ?_); rintro e w12 ⟨rfl, rfl⟩)
    | (go_at_call 15; (with_reducible refine (HFD.out _ X11.out).mono ?_); rintro e w13 ⟨rfl, g13⟩; have G13 := Lib.hid (only_trans G11.out g13); have X13 := Lib.hid (X11.out.grown g13); have K9 := Lib.hid (J9.out.only g13 (by simp)); have K12 := Lib.hid (J12.out.only g13 (by simp)); clear g13))
  obtain ⟨w14, hw14⟩ : ∃ w14, w14 = w13.alloc (.cells #[.int .i64 ((i : Int) + 1), .int .i64 x.base, .int .i64 x.size] 44) := ⟨_, rfl⟩
  have g14 : w13.grownBy w14 none := by rw [hw14]; exact only_alloc (only_refl _ _) _
  have B14 : Blk w14 w13.heap.size 44 #[.int .i64 ((i : Int) + 1), .int .i64 x.base, .int .i64 x.size] := by rw [hw14]; exact Blk.new _ _ _
  have G14 := Lib.hid (only_trans G13.out g14)
  have X14 := Lib.hid (X13.out.grown g14)
  have L9 := K9.out.only g14 (by simp)
  have L12 := Lib.hid (K12.out.only g14 (by simp))
  rw [← hw14]
  clear hw14 g14
  have m0 := fun d os => blk_re B14 d os 0
  have m1 := fun d os => blk_re B14 d os 1
  have m2 := fun d os => blk_re B14 d os 2
  have m3 := fun d os => blk_re L9 d os 0
  have m4 := fun d os => blk_re L9 d os 1
  simp at m0 m1 m2 m3 m4
  clear B14 L9
  refine wp_region_quiet_below (by kernel_rfl) (by kernel_rfl) ?_
  repeat (go_big_quiet_step ((first | (go_at_call 16; with_reducible exact rg1 (HSP.out _)))))
  refine wpQuiet_nil ?_
  intro w15 hw15
  obtain ⟨p15, rfl⟩ := hw15
  have G15 := Lib.hid (only_trans G14.out (only_re w14 p15.d p15.os))
  have X15 := Lib.hid (X14.out.grown (only_re w14 p15.d p15.os))
  have N12 := L12.out.only (only_re w14 p15.d p15.os) (by simp)
  clear m0 m1 m2 m3 m4
  generalize grow (redrawn w14 p15.d) p15.os = w15 at G15 X15 N12 ⊢
  have n0 := fun d os => blk_re N12 d os 0
  have n1 := fun d os => blk_re N12 d os 1
  simp at n0 n1
  have HX16 := Lib.hid (fun dd os => X15.out.grown (only_re w15 dd os))
  clear N12
  go_upto_region 19 with (fail)
  refine wp_region_quiet_below (by kernel_rfl) (by kernel_rfl) ?_
  repeat (go_big_quiet_step ((first
    | (go_at_call 8; with_reducible exact rg1 (HL.out _))
    | (go_at_call 17; with_reducible exact rg1 (HWN.out _ (HX16.out _ _)))
    | (go_at_call 18; with_reducible exact rg1 (HPW.out _ (HX16.out _ _))))))
  refine wpQuiet_nil ?_
  intro w16 hw16
  obtain ⟨p16, rfl⟩ := hw16
  have G16 := Lib.hid (only_trans G15.out (only_re w15 p16.d p16.os))
  clear n0 n1
  generalize grow (redrawn w15 p16.d) p16.os = w16 at G16 ⊢
  go_wp2
  go_ret
  exact ⟨by first | rfl | simp, only_trans HG.out G16.out⟩
end Go.Proofs.YtfhhcpmoaggdmaaGreat

/- PlanRows, walked: the I/O partition. -/
namespace Go.Proofs.YtfhhcpmoaggdmaaGreat
open Go.RowKit Go.Lib Go.Sort
attribute [-go_sem] Go.run_neq_struct
attribute [-go_sem] Go.run_eql_struct
set_option linter.unusedVariables false

set_option maxRecDepth 20000 in
set_option maxHeartbeats 3200000 in
theorem planrows_z (c : Cf) (what owner : Int) (w : World) (hc : CfV w c) (hf : FitCf c) (h0 : fltL c = []) (hz : (0 : Int) = 0) :
    Calls Tryz.prog 3 #[cfv c, .int .i64 what, .int .i64 0] w fun e w' => e = .returned (.bool true) ∧ w.grownBy w' none := by
  obtain ⟨W1, hW, g1, hB⟩ := box1 w 26 (cfA c)
  have HG := Lib.hid g1
  have R := Lib.hid (right_of c h0)
  have HL := Lib.hid (fun W => live18_any W)
  have HN := Lib.hid (show Calls Tryz.prog 6 #[.agg #[.int .i64 c.fr, .slice c.wA c.wn c.wc, .slice c.sA c.sn c.sc, .slice c.cA c.cn c.cc]] W1 (fun e w' => ∃ b P, e = .returned (.tuple #[.pointer (some ⟨b, 0, none⟩), .int .i64 0]) ∧ PX w' b P c ∧ W1.grownBy w' none) from
    (pnew_any c W1 (hc.grown g1) hf).mono fun e w' h => by
      obtain ⟨g, ⟨hne, _⟩ | ⟨_, b, P, he, hp⟩⟩ := h
      · exact absurd h0 hne
      · exact ⟨b, P, he, hp, g⟩)
  have HFA := Lib.hid (fun (W : World) (q : W1.grownBy W none) => (show Calls Tryz.prog 7 #[.agg #[.int .i64 c.fr, .slice c.wA c.wn c.wc, .slice c.sA c.sn c.sc, .slice c.cA c.cn c.cc]] W (RFaultsV c W) from rfaults_any c W ((hc.grown g1).grown q) hf))
  have HCL := Lib.hid (show ∀ W, W1.grownBy W none → W.cell? ⟨w.heap.size, 0, none⟩ = some (.int .i64 c.fr) ∧ W.cell? ⟨w.heap.size, 1, none⟩ = some (.slice c.wA c.wn c.wc) ∧ W.cell? ⟨w.heap.size, 2, none⟩ = some (.slice c.sA c.sn c.sc) ∧ W.cell? ⟨w.heap.size, 3, none⟩ = some (.slice c.cA c.cn c.cc) from fun W q => cf_cells (show BoxC W w.heap.size c from hB.only q (by simp)))
  have HCV := Lib.hid (fun (W : World) (q : W1.grownBy W none) => (hc.grown g1).grown q)
  have HFC := Lib.hid hf
  have H0 := Lib.hid h0
  obtain ⟨c0, c1, c2, c3⟩ := HCL.out W1 (only_refl _ _)
  clear hc hf g1 hB h0
  show Calls Tryz.prog 3 #[.agg #[.int .i64 c.fr, .slice c.wA c.wn c.wc, .slice c.sA c.sn c.sc, .slice c.cA c.cn c.cc], .int .i64 what, .int .i64 0] w _
  have hfew := R.out.few
  have hic : isC c.cn 0 = false := by unfold isC; simp
  have HIC := Lib.hid hic
  have HFO := Lib.hid (show fitI 0 from by unfold fitI; omega)
  have h00 : ((0 : Int) == 0) = true := by simp
  clear hic hfew
  go_enter Tryz.func3, Tryz.ntmps3
  go_upto_region 1 with (fail)
  rw [← hW]
  clear hW
  go_upto_region 4 with (first
    | (go_at_call 6; (with_reducible refine HN.out.mono ?_); rintro e w2 ⟨b, P, rfl, hx, g2⟩; have G2 := Lib.hid g2; have X2 := Lib.hid hx; obtain ⟨d0, d1, d2, d3⟩ := HCL.out w2 g2; clear g2 hx)
    | (go_at_call 7; (with_reducible refine (HFA.out _ G2.out).mono ?_); rintro e w3 ⟨A, n, k, rfl, hn, hn2, g3⟩; obtain rfl := right_faults H0.out hn; have G3 := Lib.hid (only_trans G2.out g3); have X3 := Lib.hid (X2.out.grown g3); obtain ⟨e0, e1, e2, e3⟩ := HCL.out w3 G3.out; clear g3 hn d0 d1 d2 d3))
  have HPQ := Lib.hid (fun q : Nat => pq_of (X3.out.grown (only_drewN (only_refl w3 none) q)))
  go_quiet (first | (go_at_call 9; with_reducible exact quiet_same (HPQ.out _).frame) | (go_at_call 10; with_reducible exact quiet_same (HPQ.out _).owners))
  have G4 := Lib.hid (only_drewN G3.out nq)
  have X4 := Lib.hid (X3.out.grown (only_drewN (only_refl w3 none) nq))
  clear e0 e1 e2 e3 HPQ
  obtain ⟨e0, e1, e2, e3⟩ := HCL.out _ G4.out
  generalize w3.drewN nq = w4 at G4 X4 e0 e1 e2 e3 ⊢
  have HCI := Lib.hid (show Calls Tryz.prog 11 #[.pointer (some ⟨b, 0, none⟩), .int .i64 0] w4 (fun e w' => e = .returned (.tuple #[.agg #[.int .i64 0, .int .i64 0, .int .i64 0, .int .i64 0, .int .i64 0, .int .i64 0, .int .i64 0, .int .i64 0, .int .i64 0, .int .i64 0], .int .i64 7]) ∧ w4.grownBy w' none) from by
    have := pcli X4.out 0
    rw [HIC.out, if_neg (by decide)] at this
    exact this)
  go_upto_region 7 with (go_at_call 11; (with_reducible refine HCI.out.mono ?_); rintro e w5 ⟨rfl, g5⟩; have G5 := Lib.hid (only_trans G4.out g5); have X5 := Lib.hid (X4.out.grown g5); clear g5 e0 e1 e2 e3)
  obtain ⟨w6, hw6⟩ : ∃ w6, w6 = w5.alloc (.cells #[.int .i64 0, .int .i64 0, .int .i64 0, .int .i64 0, .int .i64 0, .int .i64 0, .int .i64 0, .int .i64 0, .int .i64 0, .int .i64 0] 36) := ⟨_, rfl⟩
  have B9 := Lib.hid (show Blk w6 w5.heap.size 36 (clA zCli) from by rw [hw6]; exact Blk.new _ _ _)
  have g6 : w5.grownBy w6 none := by rw [hw6]; exact only_alloc (only_refl _ _) _
  have G6 := Lib.hid (only_trans G5.out g6)
  have X6 := Lib.hid (X5.out.grown g6)
  rw [← hw6]
  clear hw6 g6
  obtain ⟨e0, e1, e2, e3⟩ := HCL.out w6 G6.out
  have HZX := Lib.hid (show ∃ x, x = zCli from ⟨_, rfl⟩)
  obtain ⟨x, hx⟩ := HZX.out
  rw [← hx] at B9
  have hq : ∀ w : World, (binOp BinOp.neq 36 (.agg #[.int .i64 x.base, .int .i64 x.size, .int .i64 x.ring, .int .i64 x.at', .int .i64 x.quota, .int .i64 x.queue, .int .i64 x.mac, .int .i64 x.chan, .int .i64 x.first, .int .i64 x.secs]) (.agg #[.int .i64 0, .int .i64 0, .int .i64 0, .int .i64 0, .int .i64 0, .int .i64 0, .int .i64 0, .int .i64 0, .int .i64 0, .int .i64 0])).run Tryz.prog w = .ok (.bool false) w := by
    intro w
    rw [hx]
    exact neq_cli18 0 0 0 0 0 0 0 0 0 0 w
  clear hx HZX
  obtain ⟨z0, z1, z2, z3, z4, z5, z6, z7, z8, z9, f0, f1, f2, f3, f4, f5, f6, f7, f8, f9⟩ := box10c B9.out
  clear f0 f1 f2 f3 f4 f5 f6 f7 f8 f9
  go_upto_region 8 with (fail)
  go_quiet (first | fail)
  have G7 := Lib.hid (only_drewN G6.out nq)
  have X7 := Lib.hid (X6.out.grown (only_drewN (only_refl w6 none) nq))
  have C9 := Lib.hid (B9.out.drewN nq)
  clear z0 z1 z2 z3 z4 z5 z6 z7 z8 z9 hq e0 e1 e2 e3 B9 X6 G6
  generalize w6.drewN nq = w7 at G7 X7 C9 ⊢
  go_upto_region 11 with (fail)
  obtain ⟨w8, hw8⟩ : ∃ w8, w8 = w7.alloc (.cells #[.int .i64 0, .int .i64 0] 40) := ⟨_, rfl⟩
  have g8 : w7.grownBy w8 none := by rw [hw8]; exact only_alloc (only_refl _ _) _
  have B12 := Lib.hid (show Blk w8 w7.heap.size 40 #[.int .i64 0, .int .i64 0] from by rw [hw8]; exact Blk.new _ _ _)
  have G8 := Lib.hid (only_trans G7.out g8)
  have X8 := Lib.hid (X7.out.grown g8)
  have D9 := Lib.hid (C9.out.only g8 (by simp))
  have hs7 := Lib.hid (show W1.heap.size ≤ w7.heap.size ∧ w5.heap.size < w7.heap.size from ⟨G7.out.size, C9.out.lt⟩)
  have h78 := Lib.hid g8
  rw [← hw8]
  clear hw8 g8
  obtain ⟨e0, e1, e2, e3⟩ := HCL.out w8 G8.out
  have HRW := Lib.hid (show Calls Tryz.prog 12 #[.agg #[.int .i64 c.fr, .slice c.wA c.wn c.wc, .slice c.sA c.sn c.sc, .slice c.cA c.cn c.cc], .int .i64 0] w8 (fun e w' => e = .returned (spv (w3s (fdW (qWindow 0) c.wn c.wd))) ∧ w8.grownBy w' none) from rwindow_any c 0 w8 (HCV.out w8 G8.out) (by have := R.out.few; omega))
  have HWN := Lib.hid (fun (W : World) (q : PX W b P c) => pwnd q 0)
  generalize fdW (qWindow 0) c.wn c.wd = r at HRW HWN
  obtain ⟨r0, r1, r2⟩ := r
  replace HRW := Lib.hid (show Calls Tryz.prog 12 #[.agg #[.int .i64 c.fr, .slice c.wA c.wn c.wc, .slice c.sA c.sn c.sc, .slice c.cA c.cn c.cc], .int .i64 0] w8 (fun e w' => e = .returned (.agg #[.int .i64 r1, .int .i64 r2]) ∧ w8.grownBy w' none) from HRW.out)
  replace HWN := Lib.hid (fun (W : World) (q : PX W b P c) => (show Calls Tryz.prog 17 #[.pointer (some ⟨b, 0, none⟩), .int .i64 0] W (fun e w' => e = .returned (.agg #[.int .i64 r1, .int .i64 r2]) ∧ W.grownBy w' none) from HWN.out W q))
  go_upto_region 13 with (go_at_call 12; (with_reducible refine HRW.out.mono ?_); rintro e w9 ⟨rfl, g9⟩; have G9 := Lib.hid (only_trans G8.out g9); have X9 := Lib.hid (X8.out.grown g9); have E9 := Lib.hid (D9.out.only g9 (by simp)); have E12 := Lib.hid (B12.out.only g9 (by simp)); have HG79 := Lib.hid (only_trans h78.out g9); obtain ⟨y0, y1, fy0, fy1⟩ := box2c E12.out; clear g9 e0 e1 e2 e3)
  obtain ⟨w10, hw10⟩ : ∃ w10, w10 = (w9.setCell ⟨w7.heap.size, 0, none⟩ (.int .i64 r1)).setCell ⟨w7.heap.size, 1, none⟩ (.int .i64 r2) := ⟨_, rfl⟩
  have F12 := Lib.hid (show Blk w10 w7.heap.size 40 #[.int .i64 r1, .int .i64 r2] from by rw [hw10]; exact (E12.out.put 0 (.int .i64 r1)).put 1 (.int .i64 r2))
  have F9 := Lib.hid (show Blk w10 w5.heap.size 36 (clA x) from by rw [hw10]; exact (E9.out.far (p := ⟨w7.heap.size, 0, none⟩) (by show w5.heap.size ≠ w7.heap.size; have := hs7.out; omega) _).far (p := ⟨w7.heap.size, 1, none⟩) (by show w5.heap.size ≠ w7.heap.size; have := hs7.out; omega) _)
  have G10 := Lib.hid (show W1.grownBy w10 none from by rw [hw10]; exact only_putc (only_putc G9.out (p := ⟨w7.heap.size, 0, none⟩) hs7.out.1 _) (p := ⟨w7.heap.size, 1, none⟩) hs7.out.1 _)
  have g710 : w7.grownBy w10 none := by rw [hw10]; exact only_putc (only_putc HG79.out (p := ⟨w7.heap.size, 0, none⟩) (Nat.le_refl _) _) (p := ⟨w7.heap.size, 1, none⟩) (Nat.le_refl _) _
  have X10 := Lib.hid (X7.out.grown g710)
  rw [← hw10]
  clear hw10 y0 y1 fy0 fy1 g710
  obtain ⟨e0, e1, e2, e3⟩ := HCL.out w10 G10.out
  have HPW := Lib.hid (fun (W : World) (q : PX W b P c) => (show Calls Tryz.prog 18 #[.pointer (some ⟨b, 0, none⟩), .int .i64 what, .int .i64 0] W (fun e w' => e = .returned (.int .i64 (-1)) ∧ W.grownBy w' none) from by
    have := pwhn R.out q what 0
    rw [show whenC c what 0 = -1 from by unfold whenC; rw [HIC.out, if_pos (.inr (.inr rfl))]] at this
    exact this))
  have HFD := Lib.hid (fun (W : World) (q : PX W b P c) => (show Calls Tryz.prog 15 #[.pointer (some ⟨P.rb, 0, none⟩), .int .i64 0] W (fun e w' => e = .returned (.tuple #[.agg #[.int .i64 0, .int .i64 0, .int .i64 0], .int .i64 7]) ∧ W.grownBy w' none) from by
    have := pfnd q 0 HFO.out
    rw [HIC.out, if_neg (by decide)] at this
    exact this))
  have HRG := Lib.hid (fun (W : World) (q : PX W b P c) => (pq_of q).regs)
  have hq3 := fun w : World => eq_span18 r1 r2 w
  have G11 := G10
  have X11 := X10
  have J9 := F9
  have J12 := F12
  clear e0 e1 e2 e3
  go_upto_region 17 with (first
    | (go_at_call 14; (with_reducible refine (HRG.out _ X11.out).mono ?_); rintro e w12 ⟨rfl, rfl⟩)
    | (go_at_call 15; (with_reducible refine (HFD.out _ X11.out).mono ?_); rintro e w13 ⟨rfl, g13⟩; have G13 := Lib.hid (only_trans G11.out g13); have X13 := Lib.hid (X11.out.grown g13); have K9 := Lib.hid (J9.out.only g13 (by simp)); have K12 := Lib.hid (J12.out.only g13 (by simp)); clear g13))
  obtain ⟨w14, hw14⟩ : ∃ w14, w14 = w13.alloc (.cells #[.int .i64 0, .int .i64 0, .int .i64 0] 44) := ⟨_, rfl⟩
  have g14 : w13.grownBy w14 none := by rw [hw14]; exact only_alloc (only_refl _ _) _
  have B14 : Blk w14 w13.heap.size 44 #[.int .i64 0, .int .i64 0, .int .i64 0] := by rw [hw14]; exact Blk.new _ _ _
  have G14 := Lib.hid (only_trans G13.out g14)
  have X14 := Lib.hid (X13.out.grown g14)
  have L9 := K9.out.only g14 (by simp)
  have L12 := Lib.hid (K12.out.only g14 (by simp))
  rw [← hw14]
  clear hw14 g14
  have m0 := fun d os => blk_re B14 d os 0
  have m1 := fun d os => blk_re B14 d os 1
  have m2 := fun d os => blk_re B14 d os 2
  have m3 := fun d os => blk_re L9 d os 0
  have m4 := fun d os => blk_re L9 d os 1
  simp at m0 m1 m2 m3 m4
  clear B14 L9
  refine wp_region_quiet_below (by kernel_rfl) (by kernel_rfl) ?_
  repeat (go_big_quiet_step ((fail)))
  refine wpQuiet_nil ?_
  intro w15 hw15
  obtain ⟨p15, rfl⟩ := hw15
  have G15 := Lib.hid (only_trans G14.out (only_re w14 p15.d p15.os))
  have X15 := Lib.hid (X14.out.grown (only_re w14 p15.d p15.os))
  have N12 := L12.out.only (only_re w14 p15.d p15.os) (by simp)
  clear m0 m1 m2 m3 m4
  generalize grow (redrawn w14 p15.d) p15.os = w15 at G15 X15 N12 ⊢
  have n0 := fun d os => blk_re N12 d os 0
  have n1 := fun d os => blk_re N12 d os 1
  simp at n0 n1
  have HX16 := Lib.hid (fun dd os => X15.out.grown (only_re w15 dd os))
  clear N12
  go_upto_region 19 with (fail)
  refine wp_region_quiet_below (by kernel_rfl) (by kernel_rfl) ?_
  repeat (go_big_quiet_step ((first
    | (go_at_call 8; with_reducible exact rg1 (HL.out _))
    | (go_at_call 17; with_reducible exact rg1 (HWN.out _ (HX16.out _ _)))
    | (go_at_call 18; with_reducible exact rg1 (HPW.out _ (HX16.out _ _))))))
  refine wpQuiet_nil ?_
  intro w16 hw16
  obtain ⟨p16, rfl⟩ := hw16
  have G16 := Lib.hid (only_trans G15.out (only_re w15 p16.d p16.os))
  clear n0 n1
  generalize grow (redrawn w15 p16.d) p16.os = w16 at G16 ⊢
  go_wp2
  go_ret
  exact ⟨by first | rfl | simp, only_trans HG.out G16.out⟩
end Go.Proofs.YtfhhcpmoaggdmaaGreat

/- PlanRows, walked: below 0. -/
namespace Go.Proofs.YtfhhcpmoaggdmaaGreat
open Go.RowKit Go.Lib Go.Sort
attribute [-go_sem] Go.run_neq_struct
attribute [-go_sem] Go.run_eql_struct
set_option linter.unusedVariables false

set_option maxRecDepth 20000 in
set_option maxHeartbeats 3200000 in
theorem planrows_n (c : Cf) (what owner : Int) (w : World) (hc : CfV w c) (hf : FitCf c) (h0 : fltL c = []) (h2 : fitI owner) (hn : owner < 0) :
    Calls Tryz.prog 3 #[cfv c, .int .i64 what, .int .i64 owner] w fun e w' => e = .returned (.bool true) ∧ w.grownBy w' none := by
  obtain ⟨W1, hW, g1, hB⟩ := box1 w 26 (cfA c)
  have HG := Lib.hid g1
  have R := Lib.hid (right_of c h0)
  have HL := Lib.hid (fun W => live18_any W)
  have HN := Lib.hid (show Calls Tryz.prog 6 #[.agg #[.int .i64 c.fr, .slice c.wA c.wn c.wc, .slice c.sA c.sn c.sc, .slice c.cA c.cn c.cc]] W1 (fun e w' => ∃ b P, e = .returned (.tuple #[.pointer (some ⟨b, 0, none⟩), .int .i64 0]) ∧ PX w' b P c ∧ W1.grownBy w' none) from
    (pnew_any c W1 (hc.grown g1) hf).mono fun e w' h => by
      obtain ⟨g, ⟨hne, _⟩ | ⟨_, b, P, he, hp⟩⟩ := h
      · exact absurd h0 hne
      · exact ⟨b, P, he, hp, g⟩)
  have HFA := Lib.hid (fun (W : World) (q : W1.grownBy W none) => (show Calls Tryz.prog 7 #[.agg #[.int .i64 c.fr, .slice c.wA c.wn c.wc, .slice c.sA c.sn c.sc, .slice c.cA c.cn c.cc]] W (RFaultsV c W) from rfaults_any c W ((hc.grown g1).grown q) hf))
  have HCL := Lib.hid (show ∀ W, W1.grownBy W none → W.cell? ⟨w.heap.size, 0, none⟩ = some (.int .i64 c.fr) ∧ W.cell? ⟨w.heap.size, 1, none⟩ = some (.slice c.wA c.wn c.wc) ∧ W.cell? ⟨w.heap.size, 2, none⟩ = some (.slice c.sA c.sn c.sc) ∧ W.cell? ⟨w.heap.size, 3, none⟩ = some (.slice c.cA c.cn c.cc) from fun W q => cf_cells (show BoxC W w.heap.size c from hB.only q (by simp)))
  have HCV := Lib.hid (fun (W : World) (q : W1.grownBy W none) => (hc.grown g1).grown q)
  have HFC := Lib.hid hf
  have H0 := Lib.hid h0
  obtain ⟨c0, c1, c2, c3⟩ := HCL.out W1 (only_refl _ _)
  clear hc hf g1 hB h0
  show Calls Tryz.prog 3 #[.agg #[.int .i64 c.fr, .slice c.wA c.wn c.wc, .slice c.sA c.sn c.sc, .slice c.cA c.cn c.cc], .int .i64 what, .int .i64 owner] w _
  have hfew := R.out.few
  have i1 : ¬ (1 : Int) ≤ owner := by omega
  have i5 : (owner == 0) = false := by rw [beq_eq_false_iff_ne]; omega
  have hic : isC c.cn owner = false := by unfold isC; simp; omega
  have HNO := Lib.hid (show ¬ (0 ≤ owner ∧ owner ≤ c.cn) from by omega)
  have HIC := Lib.hid hic
  have HFO := Lib.hid h2
  clear hic hfew h2
  go_enter Tryz.func3, Tryz.ntmps3
  go_upto_region 1 with (fail)
  rw [← hW]
  clear hW
  go_upto_region 4 with (first
    | (go_at_call 6; (with_reducible refine HN.out.mono ?_); rintro e w2 ⟨b, P, rfl, hx, g2⟩; have G2 := Lib.hid g2; have X2 := Lib.hid hx; obtain ⟨d0, d1, d2, d3⟩ := HCL.out w2 g2; clear g2 hx)
    | (go_at_call 7; (with_reducible refine (HFA.out _ G2.out).mono ?_); rintro e w3 ⟨A, n, k, rfl, hn, hn2, g3⟩; obtain rfl := right_faults H0.out hn; have G3 := Lib.hid (only_trans G2.out g3); have X3 := Lib.hid (X2.out.grown g3); obtain ⟨e0, e1, e2, e3⟩ := HCL.out w3 G3.out; clear g3 hn d0 d1 d2 d3))
  have HPQ := Lib.hid (fun q : Nat => pq_of (X3.out.grown (only_drewN (only_refl w3 none) q)))
  go_quiet (first | (go_at_call 9; with_reducible exact quiet_same (HPQ.out _).frame) | (go_at_call 10; with_reducible exact quiet_same (HPQ.out _).owners))
  have G4 := Lib.hid (only_drewN G3.out nq)
  have X4 := Lib.hid (X3.out.grown (only_drewN (only_refl w3 none) nq))
  clear e0 e1 e2 e3 HPQ
  obtain ⟨e0, e1, e2, e3⟩ := HCL.out _ G4.out
  generalize w3.drewN nq = w4 at G4 X4 e0 e1 e2 e3 ⊢
  have HCI := Lib.hid (show Calls Tryz.prog 11 #[.pointer (some ⟨b, 0, none⟩), .int .i64 owner] w4 (fun e w' => e = .returned (.tuple #[.agg #[.int .i64 0, .int .i64 0, .int .i64 0, .int .i64 0, .int .i64 0, .int .i64 0, .int .i64 0, .int .i64 0, .int .i64 0, .int .i64 0], .int .i64 7]) ∧ w4.grownBy w' none) from by
    have := pcli X4.out owner
    rw [HIC.out, if_neg (by decide)] at this
    exact this)
  go_upto_region 7 with (go_at_call 11; (with_reducible refine HCI.out.mono ?_); rintro e w5 ⟨rfl, g5⟩; have G5 := Lib.hid (only_trans G4.out g5); have X5 := Lib.hid (X4.out.grown g5); clear g5 e0 e1 e2 e3)
  obtain ⟨w6, hw6⟩ : ∃ w6, w6 = w5.alloc (.cells #[.int .i64 0, .int .i64 0, .int .i64 0, .int .i64 0, .int .i64 0, .int .i64 0, .int .i64 0, .int .i64 0, .int .i64 0, .int .i64 0] 36) := ⟨_, rfl⟩
  have B9 := Lib.hid (show Blk w6 w5.heap.size 36 (clA zCli) from by rw [hw6]; exact Blk.new _ _ _)
  have g6 : w5.grownBy w6 none := by rw [hw6]; exact only_alloc (only_refl _ _) _
  have G6 := Lib.hid (only_trans G5.out g6)
  have X6 := Lib.hid (X5.out.grown g6)
  rw [← hw6]
  clear hw6 g6
  obtain ⟨e0, e1, e2, e3⟩ := HCL.out w6 G6.out
  have HZX := Lib.hid (show ∃ x, x = zCli from ⟨_, rfl⟩)
  obtain ⟨x, hx⟩ := HZX.out
  rw [← hx] at B9
  have hq : ∀ w : World, (binOp BinOp.neq 36 (.agg #[.int .i64 x.base, .int .i64 x.size, .int .i64 x.ring, .int .i64 x.at', .int .i64 x.quota, .int .i64 x.queue, .int .i64 x.mac, .int .i64 x.chan, .int .i64 x.first, .int .i64 x.secs]) (.agg #[.int .i64 0, .int .i64 0, .int .i64 0, .int .i64 0, .int .i64 0, .int .i64 0, .int .i64 0, .int .i64 0, .int .i64 0, .int .i64 0])).run Tryz.prog w = .ok (.bool false) w := by
    intro w
    rw [hx]
    exact neq_cli18 0 0 0 0 0 0 0 0 0 0 w
  clear hx HZX
  obtain ⟨z0, z1, z2, z3, z4, z5, z6, z7, z8, z9, f0, f1, f2, f3, f4, f5, f6, f7, f8, f9⟩ := box10c B9.out
  clear f0 f1 f2 f3 f4 f5 f6 f7 f8 f9
  go_upto_region 8 with (fail)
  go_quiet (first | fail)
  have G7 := Lib.hid (only_drewN G6.out nq)
  have X7 := Lib.hid (X6.out.grown (only_drewN (only_refl w6 none) nq))
  have C9 := Lib.hid (B9.out.drewN nq)
  clear z0 z1 z2 z3 z4 z5 z6 z7 z8 z9 hq e0 e1 e2 e3 B9 X6 G6
  generalize w6.drewN nq = w7 at G7 X7 C9 ⊢
  go_upto_region 11 with (fail)
  obtain ⟨w8, hw8⟩ : ∃ w8, w8 = w7.alloc (.cells #[.int .i64 0, .int .i64 0] 40) := ⟨_, rfl⟩
  have g8 : w7.grownBy w8 none := by rw [hw8]; exact only_alloc (only_refl _ _) _
  have B12 := Lib.hid (show Blk w8 w7.heap.size 40 #[.int .i64 0, .int .i64 0] from by rw [hw8]; exact Blk.new _ _ _)
  have G8 := Lib.hid (only_trans G7.out g8)
  have X8 := Lib.hid (X7.out.grown g8)
  have D9 := Lib.hid (C9.out.only g8 (by simp))
  have hs7 := Lib.hid (show W1.heap.size ≤ w7.heap.size ∧ w5.heap.size < w7.heap.size from ⟨G7.out.size, C9.out.lt⟩)
  have h78 := Lib.hid g8
  rw [← hw8]
  clear hw8 g8
  obtain ⟨e0, e1, e2, e3⟩ := HCL.out w8 G8.out
  have HWN := Lib.hid (fun (W : World) (q : PX W b P c) => (show Calls Tryz.prog 17 #[.pointer (some ⟨b, 0, none⟩), .int .i64 owner] W (fun e w' => e = .returned (.agg #[.int .i64 0, .int .i64 0]) ∧ W.grownBy w' none) from by
    have := pwnd q owner
    rw [win_no R.out HNO.out] at this
    exact this))
  have G11 := G8
  have X11 := X8
  have J9 := D9
  have J12 := B12
  have hq3 := fun w : World => eq_span18 0 0 w
  have HPW := Lib.hid (fun (W : World) (q : PX W b P c) => (show Calls Tryz.prog 18 #[.pointer (some ⟨b, 0, none⟩), .int .i64 what, .int .i64 owner] W (fun e w' => e = .returned (.int .i64 (-1)) ∧ W.grownBy w' none) from by
    have := pwhn R.out q what owner
    rw [show whenC c what owner = -1 from by unfold whenC; rw [HIC.out, if_pos (.inr (.inr rfl))]] at this
    exact this))
  have HFD := Lib.hid (fun (W : World) (q : PX W b P c) => (show Calls Tryz.prog 15 #[.pointer (some ⟨P.rb, 0, none⟩), .int .i64 owner] W (fun e w' => e = .returned (.tuple #[.agg #[.int .i64 0, .int .i64 0, .int .i64 0], .int .i64 7]) ∧ W.grownBy w' none) from by
    have := pfnd q owner HFO.out
    rw [HIC.out, if_neg (by decide)] at this
    exact this))
  have HRG := Lib.hid (fun (W : World) (q : PX W b P c) => (pq_of q).regs)
  clear e0 e1 e2 e3
  go_upto_region 17 with (first
    | (go_at_call 14; (with_reducible refine (HRG.out _ X11.out).mono ?_); rintro e w12 ⟨rfl, rfl⟩)
    | (go_at_call 15; (with_reducible refine (HFD.out _ X11.out).mono ?_); rintro e w13 ⟨rfl, g13⟩; have G13 := Lib.hid (only_trans G11.out g13); have X13 := Lib.hid (X11.out.grown g13); have K9 := Lib.hid (J9.out.only g13 (by simp)); have K12 := Lib.hid (J12.out.only g13 (by simp)); clear g13))
  obtain ⟨w14, hw14⟩ : ∃ w14, w14 = w13.alloc (.cells #[.int .i64 0, .int .i64 0, .int .i64 0] 44) := ⟨_, rfl⟩
  have g14 : w13.grownBy w14 none := by rw [hw14]; exact only_alloc (only_refl _ _) _
  have B14 : Blk w14 w13.heap.size 44 #[.int .i64 0, .int .i64 0, .int .i64 0] := by rw [hw14]; exact Blk.new _ _ _
  have G14 := Lib.hid (only_trans G13.out g14)
  have X14 := Lib.hid (X13.out.grown g14)
  have L9 := K9.out.only g14 (by simp)
  have L12 := Lib.hid (K12.out.only g14 (by simp))
  rw [← hw14]
  clear hw14 g14
  have m0 := fun d os => blk_re B14 d os 0
  have m1 := fun d os => blk_re B14 d os 1
  have m2 := fun d os => blk_re B14 d os 2
  have m3 := fun d os => blk_re L9 d os 0
  have m4 := fun d os => blk_re L9 d os 1
  simp at m0 m1 m2 m3 m4
  clear B14 L9
  refine wp_region_quiet_below (by kernel_rfl) (by kernel_rfl) ?_
  repeat (go_big_quiet_step ((fail)))
  refine wpQuiet_nil ?_
  intro w15 hw15
  obtain ⟨p15, rfl⟩ := hw15
  have G15 := Lib.hid (only_trans G14.out (only_re w14 p15.d p15.os))
  have X15 := Lib.hid (X14.out.grown (only_re w14 p15.d p15.os))
  have N12 := L12.out.only (only_re w14 p15.d p15.os) (by simp)
  clear m0 m1 m2 m3 m4
  generalize grow (redrawn w14 p15.d) p15.os = w15 at G15 X15 N12 ⊢
  have n0 := fun d os => blk_re N12 d os 0
  have n1 := fun d os => blk_re N12 d os 1
  simp at n0 n1
  have HX16 := Lib.hid (fun dd os => X15.out.grown (only_re w15 dd os))
  clear N12
  go_upto_region 19 with (fail)
  refine wp_region_quiet_below (by kernel_rfl) (by kernel_rfl) ?_
  repeat (go_big_quiet_step ((first
    | (go_at_call 8; with_reducible exact rg1 (HL.out _))
    | (go_at_call 17; with_reducible exact rg1 (HWN.out _ (HX16.out _ _)))
    | (go_at_call 18; with_reducible exact rg1 (HPW.out _ (HX16.out _ _))))))
  refine wpQuiet_nil ?_
  intro w16 hw16
  obtain ⟨p16, rfl⟩ := hw16
  have G16 := Lib.hid (only_trans G15.out (only_re w15 p16.d p16.os))
  clear n0 n1
  generalize grow (redrawn w15 p16.d) p16.os = w16 at G16 ⊢
  go_wp2
  go_ret
  exact ⟨by first | rfl | simp, only_trans HG.out G16.out⟩
end Go.Proofs.YtfhhcpmoaggdmaaGreat
