import Derived.Test.YtfhhcpmoaggdmaaGreatZ17
import Derived.Test.YtfhhcpmoaggdmaaGreatZ08
set_option linter.all false
/- PlanTicks, walked. -/
namespace Go.Proofs.YtfhhcpmoaggdmaaGreat
open Go.RowKit Go.Lib Go.Sort
attribute [-go_sem] Go.run_neq_struct
attribute [-go_sem] Go.run_eql_struct
set_option linter.unusedVariables false

set_option maxRecDepth 20000 in
set_option maxHeartbeats 3200000 in
theorem planticks_no (c : Cf) (tick : Int) (w : World) (hc : CfV w c) (hf : FitCf c) (hn : fltL c ≠ []) :
    Calls Tryz.prog 4 #[cfv c, .int .i64 tick] w fun e w' => e = .returned (.bool true) ∧ w.grownBy w' none := by
  obtain ⟨W1, hW, g1, hB⟩ := box1 w 26 (cfA c)
  have HG := Lib.hid g1
  have HL := Lib.hid (fun W => live18_any W)
  have HN := Lib.hid (show Calls Tryz.prog 6 #[.agg #[.int .i64 c.fr, .slice c.wA c.wn c.wc, .slice c.sA c.sn c.sc, .slice c.cA c.cn c.cc]] W1 (fun e w' => e = .returned (.tuple #[.pointer none, .int .i64 11]) ∧ W1.grownBy w' none) from
    (pnew_any c W1 (hc.grown g1) hf).mono fun e w' h => by
      obtain ⟨g, ⟨_, he⟩ | ⟨h0, _⟩⟩ := h
      · exact ⟨he, g⟩
      · exact absurd h0 hn)
  have HFA := Lib.hid (fun (W : World) (q : W1.grownBy W none) => (show Calls Tryz.prog 7 #[.agg #[.int .i64 c.fr, .slice c.wA c.wn c.wc, .slice c.sA c.sn c.sc, .slice c.cA c.cn c.cc]] W (RFaultsV c W) from rfaults_any c W ((hc.grown g1).grown q) hf))
  have HCL := Lib.hid (show ∀ W, W1.grownBy W none → W.cell? ⟨w.heap.size, 0, none⟩ = some (.int .i64 c.fr) ∧ W.cell? ⟨w.heap.size, 1, none⟩ = some (.slice c.wA c.wn c.wc) ∧ W.cell? ⟨w.heap.size, 2, none⟩ = some (.slice c.sA c.sn c.sc) ∧ W.cell? ⟨w.heap.size, 3, none⟩ = some (.slice c.cA c.cn c.cc) from fun W q => cf_cells (show BoxC W w.heap.size c from hB.only q (by simp)))
  have HNE := Lib.hid hn
  obtain ⟨c0, c1, c2, c3⟩ := HCL.out W1 (only_refl _ _)
  clear hc hf g1 hB hn
  show Calls Tryz.prog 4 #[.agg #[.int .i64 c.fr, .slice c.wA c.wn c.wc, .slice c.sA c.sn c.sc, .slice c.cA c.cn c.cc], .int .i64 tick] w _
  go_enter Tryz.func4, Tryz.ntmps4
  go_upto_region 1 with (fail)
  rw [← hW]
  clear hW
  go_wp2_with (first
    | (go_at_call 6; (with_reducible refine HN.out.mono ?_); rintro e w2 ⟨rfl, g2⟩; have G2 := Lib.hid g2; clear g2)
    | (go_at_call 8; (with_reducible refine (HL.out _).mono ?_); rintro e w4 ⟨rfl, g4⟩; have G4 := Lib.hid (only_trans G2.out g4); obtain ⟨d0, d1, d2, d3⟩ := HCL.out w4 G4.out; clear g4)
    | (go_at_call 7; (with_reducible refine (HFA.out _ G4.out).mono ?_); rintro e w3 ⟨A, n, k, rfl, hn, hn2, g3⟩; have hn3 := wrong_faults HNE.out hn; have G3 := Lib.hid (only_trans G4.out g3); clear g3 hn))
  go_ret
  exact ⟨by first | rfl | (simp; done) | (simp; omega), only_trans HG.out G3.out⟩
/-- What the document's Duty and the plan's answer alike. -/
theorem duty_same {c : Cf} (R : RightF c) (t : Int) : dutyV c.cn (offV c.fr t - ioC c) = rdV c t := by
  unfold rdV offV
  by_cases h : t < 0
  · rw [if_pos h, if_pos h]
    have := io_le R
    unfold dutyV
    rw [if_pos (by omega)]
  · rw [if_neg h, if_neg h]
theorem pdty {c : Cf} (R : RightF c) {W : World} {b : Nat} {P : Pln} (x : PX W b P c) (t : Int) (ht : t ≤ 9223372036854775807) : Calls Tryz.prog 26 #[.pointer (some ⟨b, 0, none⟩), .int .i64 t] W fun e w' => e = .returned (.agg #[.int .i64 (rdV c t).1, .int .i64 (rdV c t).2]) ∧ W.grownBy w' none := by
  have hio := io_le R
  have := pduty_any b P t W x.pl (by rw [x.fr]; exact R.fr) ht (by rw [ioV_of x]; omega)
  rw [x.fr, x.cn, ioV_of x, duty_same R] at this
  exact this
theorem kc_of {W W' : World} (g : W.grownBy W' none) : ∀ b i, b < W.heap.size → W'.cell? ⟨b, i, none⟩ = W.cell? ⟨b, i, none⟩ := fun b i h => cell_heap (g.block b h (by simp)) i
theorem kf_of {W W' : World} (g : W.grownBy W' none) : ∀ b i, b < W.heap.size → W'.frozen? ⟨b, i, none⟩ = W.frozen? ⟨b, i, none⟩ := fun b i h => by
  have := g.block b h (by simp)
  simp only [World.frozen?, this]
def runC (c : Cf) (t : Int) : Int := if t < 0 then 0 else (fdW (rRn (t % c.fr)) c.wn c.wd).1
def opnC (c : Cf) (t : Int) : Int := if t < 0 then 0 else (fdW (rOp (t % c.fr)) c.wn c.wd).1
theorem prns {c : Cf} (R : RightF c) {W : World} {b : Nat} {P : Pln} (x : PX W b P c) (t : Int) (ht : t ≤ 9223372036854775807) : Calls Tryz.prog 22 #[.pointer (some ⟨b, 0, none⟩), .int .i64 t] W fun e w' => e = .returned (.int .i64 (runC c t)) ∧ W.grownBy w' none := by
  have := pruns_any b P t W x.pl (by rw [x.fr]; exact R.fr) ht
  rw [x.fr, x.wn, x.wd, show (fdW (qRuns (offV c.fr t)) c.wn c.wd).1 = runC c t from by
    unfold offV runC
    by_cases h : t < 0
    · rw [if_pos h, if_pos h]; exact run_neg R
    · rw [if_neg h, if_neg h]; exact run_same R _] at this
  exact this
theorem popn {c : Cf} (R : RightF c) {W : World} {b : Nat} {P : Pln} (x : PX W b P c) (t : Int) (ht : t ≤ 9223372036854775807) : Calls Tryz.prog 24 #[.pointer (some ⟨b, 0, none⟩), .int .i64 t] W fun e w' => e = .returned (.int .i64 (opnC c t)) ∧ W.grownBy w' none := by
  have := popens_any b P t W x.pl (by rw [x.fr]; exact R.fr) ht
  rw [x.fr, x.wn, x.wd, show (fdW (qOpens (offV c.fr t)) c.wn c.wd).1 = opnC c t from by
    unfold offV opnC
    by_cases h : t < 0
    · rw [if_pos h, if_pos h]; exact open_neg R
    · rw [if_neg h, if_neg h]; exact open_same R _] at this
  exact this
theorem pbs {c : Cf} (R : RightF c) {W : World} {b : Nat} {P : Pln} (x : PX W b P c) (t : Int) (ht : t ≤ 9223372036854775807) : Calls Tryz.prog 20 #[.pointer (some ⟨b, 0, none⟩), .int .i64 t] W fun e w' => e = .returned (stv (stepV c.fr c.sn c.sd t)) ∧ W.grownBy w' none := by
  obtain ⟨A, c', d', h1, h2, h3⟩ := x.tb
  have hfew := R.few
  have := pbus_any b P t A c.sn c' d' W x.pl (by rw [x.fr]; exact h1) (by rw [x.fr]; exact R.fr) (by rw [x.fr]; exact h2) (by omega) ht
  rw [x.fr, stepV_perm (good_of R.slots) h3] at this
  exact this
theorem rbs {c : Cf} (R : RightF c) {W : World} (hc : CfV W c) (t : Int) (ht : t ≤ 9223372036854775807) : Calls Tryz.prog 21 #[.int .i64 c.fr, .slice c.sA c.sn c.sc, .int .i64 t] W fun e w' => e = .returned (stv (stepV c.fr c.sn c.sd t)) ∧ W.grownBy w' none := by
  have hfew := R.few
  exact rat17_any c.fr c.sA c.sn c.sc c.sd t W hc.2.1 R.fr (good_of R.slots) (by omega) ht
set_option maxRecDepth 20000 in
set_option maxHeartbeats 3200000 in
theorem planticks_c (c : Cf) (tick : Int) (w : World) (hc : CfV w c) (hf : FitCf c) (h0 : fltL c = []) (ht : tick ≤ 9223372036854775807) :
    Calls Tryz.prog 4 #[cfv c, .int .i64 tick] w fun e w' => e = .returned (.bool true) ∧ w.grownBy w' none := by
  obtain ⟨W1, hW, g1, hB⟩ := box1 w 26 (cfA c)
  have HG := Lib.hid g1
  have R := Lib.hid (right_of c h0)
  have HL := Lib.hid (fun W => live18_any W)
  have HN := Lib.hid (show Calls Tryz.prog 6 #[.agg #[.int .i64 c.fr, .slice c.wA c.wn c.wc, .slice c.sA c.sn c.sc, .slice c.cA c.cn c.cc]] W1 (fun e w' => ∃ b P, e = .returned (.tuple #[.pointer (some ⟨b, 0, none⟩), .int .i64 0]) ∧ PX w' b P c ∧ W1.grownBy w' none) from
    (pnew_any c W1 (hc.grown g1) hf).mono fun e w' h => by
      obtain ⟨g, ⟨hne, _⟩ | ⟨_, b, P, he, hp⟩⟩ := h
      · exact absurd h0 hne
      · exact ⟨b, P, he, hp, g⟩)
  have HFA := Lib.hid (fun (W : World) (q : W1.grownBy W none) => (show Calls Tryz.prog 7 #[.agg #[.int .i64 c.fr, .slice c.wA c.wn c.wc, .slice c.sA c.sn c.sc, .slice c.cA c.cn c.cc]] W (RFaultsV c W) from rfaults_any c W ((hc.grown g1).grown q) hf))
  have HCL := Lib.hid (show ∀ W, W1.grownBy W none → W.cell? ⟨w.heap.size, 0, none⟩ = some (.int .i64 c.fr) ∧ W.cell? ⟨w.heap.size, 1, none⟩ = some (.slice c.wA c.wn c.wc) ∧ W.cell? ⟨w.heap.size, 2, none⟩ = some (.slice c.sA c.sn c.sc) ∧ W.cell? ⟨w.heap.size, 3, none⟩ = some (.slice c.cA c.cn c.cc) from fun W q => cf_cells (show BoxC W w.heap.size c from hB.only q (by simp)))
  have HCV := Lib.hid (fun (W : World) (q : W1.grownBy W none) => (hc.grown g1).grown q)
  have HFC := Lib.hid hf
  have H0 := Lib.hid h0
  obtain ⟨c0, c1, c2, c3⟩ := HCL.out W1 (only_refl _ _)

  have hfew := R.out.few
  have hio := io_le R.out
  have HRD := Lib.hid (fun (W : World) (q : W1.grownBy W none) => (show Calls Tryz.prog 19 #[.agg #[.int .i64 c.fr, .slice c.wA c.wn c.wc, .slice c.sA c.sn c.sc, .slice c.cA c.cn c.cc], .int .i64 tick] W (fun e w' => e = .returned (.tuple #[.int .i64 (rdV c tick).1, .int .i64 (rdV c tick).2]) ∧ W.grownBy w' none) from rduty_any c tick W (HCV.out W q) (by omega) (by omega) R.out.fr ht ⟨hio.1, hio.2.1⟩))
  have HRR := Lib.hid (fun (W : World) (q : W1.grownBy W none) => (show Calls Tryz.prog 23 #[.agg #[.int .i64 c.fr, .slice c.wA c.wn c.wc, .slice c.sA c.sn c.sc, .slice c.cA c.cn c.cc], .int .i64 tick] W (fun e w' => e = .returned (.int .i64 (runC c tick)) ∧ W.grownBy w' none) from rruns_any c tick W (HCV.out W q) (by omega) R.out.fr ht))
  have HRO := Lib.hid (fun (W : World) (q : W1.grownBy W none) => (show Calls Tryz.prog 25 #[.agg #[.int .i64 c.fr, .slice c.wA c.wn c.wc, .slice c.sA c.sn c.sc, .slice c.cA c.cn c.cc], .int .i64 tick] W (fun e w' => e = .returned (.int .i64 (opnC c tick)) ∧ W.grownBy w' none) from ropens_any c tick W (HCV.out W q) (by omega) R.out.fr ht))
  have HRB := Lib.hid (fun (W : World) (q : W1.grownBy W none) => rbs R.out (HCV.out W q) tick ht)
  have HPD := Lib.hid (fun (W : World) (b : Nat) (P : Pln) (x : PX W b P c) => pdty R.out x tick ht)
  have HPR := Lib.hid (fun (W : World) (b : Nat) (P : Pln) (x : PX W b P c) => prns R.out x tick ht)
  have HPO := Lib.hid (fun (W : World) (b : Nat) (P : Pln) (x : PX W b P c) => popn R.out x tick ht)
  have HPB := Lib.hid (fun (W : World) (b : Nat) (P : Pln) (x : PX W b P c) => pbs R.out x tick ht)
  clear hc hf g1 hB h0 hfew hio ht
  generalize rdV c tick = rd at HRD HPD
  generalize runC c tick = rr at HRR HPR
  generalize opnC c tick = ro at HRO HPO
  generalize stepV c.fr c.sn c.sd tick = sv at HRB HPB
  obtain ⟨rd1, rd2⟩ := rd
  obtain ⟨s0, s1, s2⟩ := sv
  have hqd := fun w : World => eq_duty rd1 rd2 w
  show Calls Tryz.prog 4 #[.agg #[.int .i64 c.fr, .slice c.wA c.wn c.wc, .slice c.sA c.sn c.sc, .slice c.cA c.cn c.cc], .int .i64 tick] w _
  go_enter Tryz.func4, Tryz.ntmps4
  go_upto_region 1 with (fail)
  rw [← hW]
  clear hW
  go_upto_region 5 with (first
    | (go_at_call 6; (with_reducible refine HN.out.mono ?_); rintro e w2 ⟨b, P, rfl, hx, g2⟩; have G2 := Lib.hid g2; have X2 := Lib.hid hx; obtain ⟨d0, d1, d2, d3⟩ := HCL.out w2 g2; clear g2 hx)
    | (go_at_call 19; (with_reducible refine (HRD.out _ G2.out).mono ?_); rintro e w3 ⟨rfl, g3⟩; have G3 := Lib.hid (only_trans G2.out g3); have X3 := Lib.hid (X2.out.grown g3); obtain ⟨e0, e1, e2, e3⟩ := HCL.out w3 G3.out; clear g3 d0 d1 d2 d3))
  have HD : Hid (w3.grownBy w3.drew none) := Lib.hid (only_drewN (only_refl w3 none) 1)
  have HS3 := Lib.hid (show ∀ W, w3.grownBy W none → W.cell? ⟨w.heap.size, 0, none⟩ = some (.int .i64 c.fr) ∧ W.cell? ⟨w.heap.size, 2, none⟩ = some (.slice c.sA c.sn c.sc) from fun W q => by obtain ⟨q0, q1, q2, q3⟩ := HCL.out W (only_trans G3.out q); exact ⟨q0, q2⟩)
  have HB := Lib.hid (fun W (q : w3.grownBy W none) => (show Calls Tryz.prog 20 #[.pointer (some ⟨b, 0, none⟩), .int .i64 tick] W (fun e w' => e = .returned (.agg #[.int .i64 s0, .int .i64 s1, .int .i64 s2]) ∧ W.grownBy w' none) from HPB.out W b P (X3.out.grown q)))
  have HA := Lib.hid (fun W (q : w3.grownBy W none) => (show Calls Tryz.prog 21 #[.int .i64 c.fr, .slice c.sA c.sn c.sc, .int .i64 tick] W (fun e w' => e = .returned (.agg #[.int .i64 s0, .int .i64 s1, .int .i64 s2]) ∧ W.grownBy w' none) from HRB.out W (only_trans G3.out q)))
  clear e1 e3 c0 c1 c2 c3
  go_cut [9, 10] from 35 to 92 (fun s t wx => ∃ gx gy : Nat, s = .pointer (some ⟨gx, 0, none⟩) ∧ t = .pointer (some ⟨gy, 0, none⟩) ∧ w3.grownBy wx none ∧ (wx.cell? ⟨gx, 0, none⟩ = some (.int .i64 s0) ∧ wx.cell? ⟨gx, 1, none⟩ = some (.int .i64 s1) ∧ wx.cell? ⟨gx, 2, none⟩ = some (.int .i64 s2)) ∧ (wx.cell? ⟨gy, 0, none⟩ = some (.int .i64 s0) ∧ wx.cell? ⟨gy, 1, none⟩ = some (.int .i64 s1) ∧ wx.cell? ⟨gy, 2, none⟩ = some (.int .i64 s2)))
  case first =>
    refine wp_region_held_drew (S := fun W => W.cell? ⟨w.heap.size, 0, none⟩ = some (.int .i64 c.fr) ∧ W.cell? ⟨w.heap.size, 2, none⟩ = some (.slice c.sA c.sn c.sc)) (by kernel_rfl) (HS3.out _ HD.out) (fun hHeld => ?_)
    obtain ⟨v0, hn⟩ : ∃ W, W = w3.drew := ⟨_, rfl⟩
    have G0 : Hid (w3.grownBy v0 none) := Lib.hid (by rw [hn]; exact HD.out)
    rw [← hn] at hHeld ⊢
    clear hn
    refine wpAnyH_take (i := 0) (oi := _) (v := ?_) rfl (by kernel_rfl) (by kernel_rfl) (by kernel_rfl) (fun _ _ _ h => h) (Or.inl ⟨by rfl, ?_⟩) (by assumption) ?_
    case refine_2 => intro w hSw; (try dsimp only at hSw); go_simp; try with_reducible rfl
    try simp only [Act.put, List.setIfInBounds_toArray, List.set_cons_zero, List.set_cons_succ]
    refine wpAnyH_take (i := 1) (oi := _) (v := ?_) rfl (by kernel_rfl) (by kernel_rfl) (by kernel_rfl) (fun _ _ _ h => h) (Or.inl ⟨by rfl, ?_⟩) (by assumption) ?_
    case refine_2 => intro w hSw; (try dsimp only at hSw); go_simp; try with_reducible rfl
    try simp only [Act.put, List.setIfInBounds_toArray, List.set_cons_zero, List.set_cons_succ]
    refine wpAnyH_take (i := 3) (oi := _) (v := ?_) rfl (by kernel_rfl) (by kernel_rfl) (by kernel_rfl) (fun _ _ _ h => h) (Or.inl ⟨by rfl, ?_⟩) (by assumption) ?_
    case refine_2 => intro w hSw; (try dsimp only at hSw); go_simp; try with_reducible rfl
    try simp only [Act.put, List.setIfInBounds_toArray, List.set_cons_zero, List.set_cons_succ]
    refine wpAnyH_take (i := 4) (oi := _) (v := ?_) rfl (by kernel_rfl) (by kernel_rfl) (by kernel_rfl) (fun _ _ _ h => h) (Or.inl ⟨by rfl, ?_⟩) (by assumption) ?_
    case refine_2 => intro w hSw; (try dsimp only at hSw); go_simp; try with_reducible rfl
    try simp only [Act.put, List.setIfInBounds_toArray, List.set_cons_zero, List.set_cons_succ]
    refine wpAnyH_take (i := 5) (oi := _) (v := ?_) rfl (by kernel_rfl) (by kernel_rfl) (by kernel_rfl) (fun _ _ _ h => h) (Or.inl ⟨by rfl, ?_⟩) (by assumption) ?_
    case refine_2 => intro w hSw; (try dsimp only at hSw); go_simp; try with_reducible rfl
    try simp only [Act.put, List.setIfInBounds_toArray, List.set_cons_zero, List.set_cons_succ]
    refine wpAnyH_take (i := 6) (oi := _) (v := ?_) rfl (by kernel_rfl) (by kernel_rfl) (by kernel_rfl) (fun _ _ _ h => h) (Or.inl ⟨by rfl, ?_⟩) (by assumption) ?_
    case refine_2 => intro w hSw; (try dsimp only at hSw); go_simp; try with_reducible rfl
    try simp only [Act.put, List.setIfInBounds_toArray, List.set_cons_zero, List.set_cons_succ]
    refine wpAnyH_take (i := 7) (oi := _) (v := ?_) rfl (by kernel_rfl) (by kernel_rfl) (by kernel_rfl) (fun _ _ _ h => h) (Or.inl ⟨by rfl, ?_⟩) (by assumption) ?_
    case refine_2 => intro w hSw; (try dsimp only at hSw); go_simp; try with_reducible rfl
    try simp only [Act.put, List.setIfInBounds_toArray, List.set_cons_zero, List.set_cons_succ]
    refine wpAnyH_ready (rs := [2, 9, 10]) (by kernel_rfl) (by simp) ?_
    refine AllReadyH.cons (o := _) rfl (fun K hK => ?_) (AllReadyH.cons (o := _) rfl (fun K hK => ?_) (AllReadyH.cons (o := _) rfl (fun K hK => ?_) AllReadyH.nil))
    · go_simp
      refine (HB.out _ G0.out).mono ?_
      rintro e v1 ⟨rfl, gn⟩
      try simp only []
      have G1 := Lib.hid (only_trans G0.out gn)
      clear gn
      refine hK.out _ _ (HS3.out _ G1.out) (fun hHeld => ?_)
      clear hK K
      try simp only [Act.put, List.setIfInBounds_toArray, List.set_cons_zero, List.set_cons_succ]
      refine wpAnyH_ready (rs := [8, 9, 10]) (by kernel_rfl) (by simp) ?_
      refine AllReadyH.cons (o := _) rfl (fun K hK => ?_) (AllReadyH.cons (o := _) rfl (fun K hK => ?_) (AllReadyH.cons (o := _) rfl (fun K hK => ?_) AllReadyH.nil))
      · go_simp
        refine (HA.out _ G1.out).mono ?_
        rintro e v2 ⟨rfl, gn⟩
        try simp only []
        have G2 := Lib.hid (only_trans G1.out gn)
        clear gn
        refine hK.out _ _ (HS3.out _ G2.out) (fun hHeld => ?_)
        clear hK K
        try simp only [Act.put, List.setIfInBounds_toArray, List.set_cons_zero, List.set_cons_succ]
        refine wpAnyH_ready (rs := [9, 10]) (by kernel_rfl) (by simp) ?_
        refine AllReadyH.cons (o := _) rfl (fun K hK => ?_) (AllReadyH.cons (o := _) rfl (fun K hK => ?_) AllReadyH.nil)
        · go_simp
          refine hK.out _ _ (HS3.out _ (only_alloc G2.out (.cells #[.int .i64 0, .int .i64 0, .int .i64 0] 56))) (fun hHeld => ?_)
          clear hK K
          try simp only [Act.put, List.setIfInBounds_toArray, List.set_cons_zero, List.set_cons_succ]
          obtain ⟨v3, hn⟩ : ∃ W, W = v2.alloc (.cells #[.int .i64 0, .int .i64 0, .int .i64 0] 56) := ⟨_, rfl⟩
          have gn : v2.grownBy v3 none := by rw [hn]; exact only_alloc (only_refl _ _) _
          have K9_3 := Lib.hid (show Blk v3 v2.heap.size 56 #[.int .i64 0, .int .i64 0, .int .i64 0] from by rw [hn]; exact Blk.new _ _ _)
          have G3 := Lib.hid (only_trans G2.out gn)
          have L9 := Lib.hid (show w3.heap.size ≤ v2.heap.size from G2.out.size)
          rw [← hn] at hHeld ⊢
          clear hn gn
          refine wpAnyH_ready (rs := [10]) (by kernel_rfl) (by simp) ?_
          refine AllReadyH.cons (o := _) rfl (fun K hK => ?_) AllReadyH.nil
          · go_simp
            refine hK.out _ _ (HS3.out _ (only_alloc G3.out (.cells #[.int .i64 0, .int .i64 0, .int .i64 0] 58))) (fun hHeld => ?_)
            clear hK K
            try simp only [Act.put, List.setIfInBounds_toArray, List.set_cons_zero, List.set_cons_succ]
            obtain ⟨v4, hn⟩ : ∃ W, W = v3.alloc (.cells #[.int .i64 0, .int .i64 0, .int .i64 0] 58) := ⟨_, rfl⟩
            have gn : v3.grownBy v4 none := by rw [hn]; exact only_alloc (only_refl _ _) _
            have K10_4 := Lib.hid (show Blk v4 v3.heap.size 58 #[.int .i64 0, .int .i64 0, .int .i64 0] from by rw [hn]; exact Blk.new _ _ _)
            have G4 := Lib.hid (only_trans G3.out gn)
            have L10 := Lib.hid (show w3.heap.size ≤ v3.heap.size from G3.out.size)
            have K9_4 := Lib.hid (K9_3.out.only gn (by simp))
            have NE := Lib.hid (show v2.heap.size ≠ v3.heap.size from by have := K9_3.out.lt; omega)
            rw [← hn] at hHeld ⊢
            clear hn gn
            obtain ⟨a0, a1, a2, af0, af1, af2⟩ := box3c K9_4.out
            obtain ⟨c0, c1, c2, cf0, cf1, cf2⟩ := box3c K10_4.out
            have ne1 : ¬ v2.heap.size = v3.heap.size := by have := NE.out; omega
            have ne2 : ¬ v3.heap.size = v2.heap.size := by have := NE.out; omega
            obtain ⟨y1, hy1⟩ : ∃ W, W = ((v4.setCell ⟨v2.heap.size, 0, none⟩ (.int .i64 s0)).setCell ⟨v2.heap.size, 1, none⟩ (.int .i64 s1)).setCell ⟨v2.heap.size, 2, none⟩ (.int .i64 s2) := ⟨_, rfl⟩
            have A1 := Lib.hid (show Blk y1 v2.heap.size 56 #[.int .i64 s0, .int .i64 s1, .int .i64 s2] from by rw [hy1]; exact ((K9_4.out.put 0 (.int .i64 s0)).put 1 (.int .i64 s1)).put 2 (.int .i64 s2))
            have C1 := Lib.hid (show Blk y1 v3.heap.size 58 #[.int .i64 0, .int .i64 0, .int .i64 0] from by rw [hy1]; exact ((K10_4.out.far (p := ⟨v2.heap.size, 0, none⟩) ne2 _).far (p := ⟨v2.heap.size, 1, none⟩) ne2 _).far (p := ⟨v2.heap.size, 2, none⟩) ne2 _)
            have GY := Lib.hid (show w3.grownBy y1 none from by rw [hy1]; exact only_putc (only_putc (only_putc G4.out (p := ⟨v2.heap.size, 0, none⟩) L9.out _) (p := ⟨v2.heap.size, 1, none⟩) L9.out _) (p := ⟨v2.heap.size, 2, none⟩) L9.out _)
            refine wpAnyH_ready (rs := [11]) (by kernel_rfl) (by simp) ?_
            refine AllReadyH.cons (o := _) rfl (fun K hK => ?_) AllReadyH.nil
            go_simp
            refine hK.out _ _ (by rw [← hy1]; exact HS3.out _ GY.out) (fun hHeld => ?_)
            clear hK K
            try simp only [Act.put, List.setIfInBounds_toArray, List.set_cons_zero, List.set_cons_succ]
            rw [← hy1] at hHeld ⊢
            clear hy1 a0 a1 a2 af0 af1 af2 c0 c1 c2 cf0 cf1 cf2
            obtain ⟨c0, c1, c2, cf0, cf1, cf2⟩ := box3c C1.out
            obtain ⟨y2, hy2⟩ : ∃ W, W = ((y1.setCell ⟨v3.heap.size, 0, none⟩ (.int .i64 s0)).setCell ⟨v3.heap.size, 1, none⟩ (.int .i64 s1)).setCell ⟨v3.heap.size, 2, none⟩ (.int .i64 s2) := ⟨_, rfl⟩
            have C2 := (show Blk y2 v3.heap.size 58 #[.int .i64 s0, .int .i64 s1, .int .i64 s2] from by rw [hy2]; exact ((C1.out.put 0 (.int .i64 s0)).put 1 (.int .i64 s1)).put 2 (.int .i64 s2))
            have A2 := (show Blk y2 v2.heap.size 56 #[.int .i64 s0, .int .i64 s1, .int .i64 s2] from by rw [hy2]; exact ((A1.out.far (p := ⟨v3.heap.size, 0, none⟩) ne1 _).far (p := ⟨v3.heap.size, 1, none⟩) ne1 _).far (p := ⟨v3.heap.size, 2, none⟩) ne1 _)
            have GZ := (show w3.grownBy y2 none from by rw [hy2]; exact only_putc (only_putc (only_putc GY.out (p := ⟨v3.heap.size, 0, none⟩) L10.out _) (p := ⟨v3.heap.size, 1, none⟩) L10.out _) (p := ⟨v3.heap.size, 2, none⟩) L10.out _)
            replace C2 := Lib.hid C2
            replace A2 := Lib.hid A2
            replace GZ := Lib.hid GZ
            refine wpAnyH_ready (rs := [12]) (by kernel_rfl) (by simp) ?_
            refine AllReadyH.cons (o := _) rfl (fun K hK => ?_) AllReadyH.nil
            go_simp
            refine hK.out _ _ (by rw [← hy2]; exact HS3.out _ GZ.out) (fun hHeld => ?_)
            clear hK K
            try simp only [Act.put, List.setIfInBounds_toArray, List.set_cons_zero, List.set_cons_succ]
            rw [← hy2] at hHeld ⊢
            clear hy2 c0 c1 c2 cf0 cf1 cf2
            refine wpAnyH_done (by kernel_rfl) ?_ _
            go_wp2_with (fail)
            go_meet
            case rel => exact ⟨_, _, rfl, rfl, GZ.out, ⟨A2.out.cell 0, A2.out.cell 1, A2.out.cell 2⟩, ⟨C2.out.cell 0, C2.out.cell 1, C2.out.cell 2⟩⟩
        · go_simp
          refine hK.out _ _ (HS3.out _ (only_alloc G2.out (.cells #[.int .i64 0, .int .i64 0, .int .i64 0] 58))) (fun hHeld => ?_)
          clear hK K
          try simp only [Act.put, List.setIfInBounds_toArray, List.set_cons_zero, List.set_cons_succ]
          obtain ⟨v3, hn⟩ : ∃ W, W = v2.alloc (.cells #[.int .i64 0, .int .i64 0, .int .i64 0] 58) := ⟨_, rfl⟩
          have gn : v2.grownBy v3 none := by rw [hn]; exact only_alloc (only_refl _ _) _
          have K10_3 := Lib.hid (show Blk v3 v2.heap.size 58 #[.int .i64 0, .int .i64 0, .int .i64 0] from by rw [hn]; exact Blk.new _ _ _)
          have G3 := Lib.hid (only_trans G2.out gn)
          have L10 := Lib.hid (show w3.heap.size ≤ v2.heap.size from G2.out.size)
          rw [← hn] at hHeld ⊢
          clear hn gn
          refine wpAnyH_ready (rs := [9]) (by kernel_rfl) (by simp) ?_
          refine AllReadyH.cons (o := _) rfl (fun K hK => ?_) AllReadyH.nil
          · go_simp
            refine hK.out _ _ (HS3.out _ (only_alloc G3.out (.cells #[.int .i64 0, .int .i64 0, .int .i64 0] 56))) (fun hHeld => ?_)
            clear hK K
            try simp only [Act.put, List.setIfInBounds_toArray, List.set_cons_zero, List.set_cons_succ]
            obtain ⟨v4, hn⟩ : ∃ W, W = v3.alloc (.cells #[.int .i64 0, .int .i64 0, .int .i64 0] 56) := ⟨_, rfl⟩
            have gn : v3.grownBy v4 none := by rw [hn]; exact only_alloc (only_refl _ _) _
            have K9_4 := Lib.hid (show Blk v4 v3.heap.size 56 #[.int .i64 0, .int .i64 0, .int .i64 0] from by rw [hn]; exact Blk.new _ _ _)
            have G4 := Lib.hid (only_trans G3.out gn)
            have L9 := Lib.hid (show w3.heap.size ≤ v3.heap.size from G3.out.size)
            have K10_4 := Lib.hid (K10_3.out.only gn (by simp))
            have NE := Lib.hid (show v2.heap.size ≠ v3.heap.size from by have := K10_3.out.lt; omega)
            rw [← hn] at hHeld ⊢
            clear hn gn
            obtain ⟨a0, a1, a2, af0, af1, af2⟩ := box3c K9_4.out
            obtain ⟨c0, c1, c2, cf0, cf1, cf2⟩ := box3c K10_4.out
            have ne1 : ¬ v3.heap.size = v2.heap.size := by have := NE.out; omega
            have ne2 : ¬ v2.heap.size = v3.heap.size := by have := NE.out; omega
            obtain ⟨y1, hy1⟩ : ∃ W, W = ((v4.setCell ⟨v3.heap.size, 0, none⟩ (.int .i64 s0)).setCell ⟨v3.heap.size, 1, none⟩ (.int .i64 s1)).setCell ⟨v3.heap.size, 2, none⟩ (.int .i64 s2) := ⟨_, rfl⟩
            have A1 := Lib.hid (show Blk y1 v3.heap.size 56 #[.int .i64 s0, .int .i64 s1, .int .i64 s2] from by rw [hy1]; exact ((K9_4.out.put 0 (.int .i64 s0)).put 1 (.int .i64 s1)).put 2 (.int .i64 s2))
            have C1 := Lib.hid (show Blk y1 v2.heap.size 58 #[.int .i64 0, .int .i64 0, .int .i64 0] from by rw [hy1]; exact ((K10_4.out.far (p := ⟨v3.heap.size, 0, none⟩) ne2 _).far (p := ⟨v3.heap.size, 1, none⟩) ne2 _).far (p := ⟨v3.heap.size, 2, none⟩) ne2 _)
            have GY := Lib.hid (show w3.grownBy y1 none from by rw [hy1]; exact only_putc (only_putc (only_putc G4.out (p := ⟨v3.heap.size, 0, none⟩) L9.out _) (p := ⟨v3.heap.size, 1, none⟩) L9.out _) (p := ⟨v3.heap.size, 2, none⟩) L9.out _)
            refine wpAnyH_ready (rs := [11]) (by kernel_rfl) (by simp) ?_
            refine AllReadyH.cons (o := _) rfl (fun K hK => ?_) AllReadyH.nil
            go_simp
            refine hK.out _ _ (by rw [← hy1]; exact HS3.out _ GY.out) (fun hHeld => ?_)
            clear hK K
            try simp only [Act.put, List.setIfInBounds_toArray, List.set_cons_zero, List.set_cons_succ]
            rw [← hy1] at hHeld ⊢
            clear hy1 a0 a1 a2 af0 af1 af2 c0 c1 c2 cf0 cf1 cf2
            obtain ⟨c0, c1, c2, cf0, cf1, cf2⟩ := box3c C1.out
            obtain ⟨y2, hy2⟩ : ∃ W, W = ((y1.setCell ⟨v2.heap.size, 0, none⟩ (.int .i64 s0)).setCell ⟨v2.heap.size, 1, none⟩ (.int .i64 s1)).setCell ⟨v2.heap.size, 2, none⟩ (.int .i64 s2) := ⟨_, rfl⟩
            have C2 := (show Blk y2 v2.heap.size 58 #[.int .i64 s0, .int .i64 s1, .int .i64 s2] from by rw [hy2]; exact ((C1.out.put 0 (.int .i64 s0)).put 1 (.int .i64 s1)).put 2 (.int .i64 s2))
            have A2 := (show Blk y2 v3.heap.size 56 #[.int .i64 s0, .int .i64 s1, .int .i64 s2] from by rw [hy2]; exact ((A1.out.far (p := ⟨v2.heap.size, 0, none⟩) ne1 _).far (p := ⟨v2.heap.size, 1, none⟩) ne1 _).far (p := ⟨v2.heap.size, 2, none⟩) ne1 _)
            have GZ := (show w3.grownBy y2 none from by rw [hy2]; exact only_putc (only_putc (only_putc GY.out (p := ⟨v2.heap.size, 0, none⟩) L10.out _) (p := ⟨v2.heap.size, 1, none⟩) L10.out _) (p := ⟨v2.heap.size, 2, none⟩) L10.out _)
            replace C2 := Lib.hid C2
            replace A2 := Lib.hid A2
            replace GZ := Lib.hid GZ
            refine wpAnyH_ready (rs := [12]) (by kernel_rfl) (by simp) ?_
            refine AllReadyH.cons (o := _) rfl (fun K hK => ?_) AllReadyH.nil
            go_simp
            refine hK.out _ _ (by rw [← hy2]; exact HS3.out _ GZ.out) (fun hHeld => ?_)
            clear hK K
            try simp only [Act.put, List.setIfInBounds_toArray, List.set_cons_zero, List.set_cons_succ]
            rw [← hy2] at hHeld ⊢
            clear hy2 c0 c1 c2 cf0 cf1 cf2
            refine wpAnyH_done (by kernel_rfl) ?_ _
            go_wp2_with (fail)
            go_meet
            case rel => exact ⟨_, _, rfl, rfl, GZ.out, ⟨A2.out.cell 0, A2.out.cell 1, A2.out.cell 2⟩, ⟨C2.out.cell 0, C2.out.cell 1, C2.out.cell 2⟩⟩
      · go_simp
        refine hK.out _ _ (HS3.out _ (only_alloc G1.out (.cells #[.int .i64 0, .int .i64 0, .int .i64 0] 56))) (fun hHeld => ?_)
        clear hK K
        try simp only [Act.put, List.setIfInBounds_toArray, List.set_cons_zero, List.set_cons_succ]
        obtain ⟨v2, hn⟩ : ∃ W, W = v1.alloc (.cells #[.int .i64 0, .int .i64 0, .int .i64 0] 56) := ⟨_, rfl⟩
        have gn : v1.grownBy v2 none := by rw [hn]; exact only_alloc (only_refl _ _) _
        have K9_2 := Lib.hid (show Blk v2 v1.heap.size 56 #[.int .i64 0, .int .i64 0, .int .i64 0] from by rw [hn]; exact Blk.new _ _ _)
        have G2 := Lib.hid (only_trans G1.out gn)
        have L9 := Lib.hid (show w3.heap.size ≤ v1.heap.size from G1.out.size)
        rw [← hn] at hHeld ⊢
        clear hn gn
        refine wpAnyH_ready (rs := [8, 10]) (by kernel_rfl) (by simp) ?_
        refine AllReadyH.cons (o := _) rfl (fun K hK => ?_) (AllReadyH.cons (o := _) rfl (fun K hK => ?_) AllReadyH.nil)
        · go_simp
          refine (HA.out _ G2.out).mono ?_
          rintro e v3 ⟨rfl, gn⟩
          try simp only []
          have G3 := Lib.hid (only_trans G2.out gn)
          have K9_3 := Lib.hid (K9_2.out.only gn (by simp))
          clear gn
          refine hK.out _ _ (HS3.out _ G3.out) (fun hHeld => ?_)
          clear hK K
          try simp only [Act.put, List.setIfInBounds_toArray, List.set_cons_zero, List.set_cons_succ]
          refine wpAnyH_ready (rs := [10]) (by kernel_rfl) (by simp) ?_
          refine AllReadyH.cons (o := _) rfl (fun K hK => ?_) AllReadyH.nil
          · go_simp
            refine hK.out _ _ (HS3.out _ (only_alloc G3.out (.cells #[.int .i64 0, .int .i64 0, .int .i64 0] 58))) (fun hHeld => ?_)
            clear hK K
            try simp only [Act.put, List.setIfInBounds_toArray, List.set_cons_zero, List.set_cons_succ]
            obtain ⟨v4, hn⟩ : ∃ W, W = v3.alloc (.cells #[.int .i64 0, .int .i64 0, .int .i64 0] 58) := ⟨_, rfl⟩
            have gn : v3.grownBy v4 none := by rw [hn]; exact only_alloc (only_refl _ _) _
            have K10_4 := Lib.hid (show Blk v4 v3.heap.size 58 #[.int .i64 0, .int .i64 0, .int .i64 0] from by rw [hn]; exact Blk.new _ _ _)
            have G4 := Lib.hid (only_trans G3.out gn)
            have L10 := Lib.hid (show w3.heap.size ≤ v3.heap.size from G3.out.size)
            have K9_4 := Lib.hid (K9_3.out.only gn (by simp))
            have NE := Lib.hid (show v1.heap.size ≠ v3.heap.size from by have := K9_3.out.lt; omega)
            rw [← hn] at hHeld ⊢
            clear hn gn
            obtain ⟨a0, a1, a2, af0, af1, af2⟩ := box3c K9_4.out
            obtain ⟨c0, c1, c2, cf0, cf1, cf2⟩ := box3c K10_4.out
            have ne1 : ¬ v1.heap.size = v3.heap.size := by have := NE.out; omega
            have ne2 : ¬ v3.heap.size = v1.heap.size := by have := NE.out; omega
            obtain ⟨y1, hy1⟩ : ∃ W, W = ((v4.setCell ⟨v1.heap.size, 0, none⟩ (.int .i64 s0)).setCell ⟨v1.heap.size, 1, none⟩ (.int .i64 s1)).setCell ⟨v1.heap.size, 2, none⟩ (.int .i64 s2) := ⟨_, rfl⟩
            have A1 := Lib.hid (show Blk y1 v1.heap.size 56 #[.int .i64 s0, .int .i64 s1, .int .i64 s2] from by rw [hy1]; exact ((K9_4.out.put 0 (.int .i64 s0)).put 1 (.int .i64 s1)).put 2 (.int .i64 s2))
            have C1 := Lib.hid (show Blk y1 v3.heap.size 58 #[.int .i64 0, .int .i64 0, .int .i64 0] from by rw [hy1]; exact ((K10_4.out.far (p := ⟨v1.heap.size, 0, none⟩) ne2 _).far (p := ⟨v1.heap.size, 1, none⟩) ne2 _).far (p := ⟨v1.heap.size, 2, none⟩) ne2 _)
            have GY := Lib.hid (show w3.grownBy y1 none from by rw [hy1]; exact only_putc (only_putc (only_putc G4.out (p := ⟨v1.heap.size, 0, none⟩) L9.out _) (p := ⟨v1.heap.size, 1, none⟩) L9.out _) (p := ⟨v1.heap.size, 2, none⟩) L9.out _)
            refine wpAnyH_ready (rs := [11]) (by kernel_rfl) (by simp) ?_
            refine AllReadyH.cons (o := _) rfl (fun K hK => ?_) AllReadyH.nil
            go_simp
            refine hK.out _ _ (by rw [← hy1]; exact HS3.out _ GY.out) (fun hHeld => ?_)
            clear hK K
            try simp only [Act.put, List.setIfInBounds_toArray, List.set_cons_zero, List.set_cons_succ]
            rw [← hy1] at hHeld ⊢
            clear hy1 a0 a1 a2 af0 af1 af2 c0 c1 c2 cf0 cf1 cf2
            obtain ⟨c0, c1, c2, cf0, cf1, cf2⟩ := box3c C1.out
            obtain ⟨y2, hy2⟩ : ∃ W, W = ((y1.setCell ⟨v3.heap.size, 0, none⟩ (.int .i64 s0)).setCell ⟨v3.heap.size, 1, none⟩ (.int .i64 s1)).setCell ⟨v3.heap.size, 2, none⟩ (.int .i64 s2) := ⟨_, rfl⟩
            have C2 := (show Blk y2 v3.heap.size 58 #[.int .i64 s0, .int .i64 s1, .int .i64 s2] from by rw [hy2]; exact ((C1.out.put 0 (.int .i64 s0)).put 1 (.int .i64 s1)).put 2 (.int .i64 s2))
            have A2 := (show Blk y2 v1.heap.size 56 #[.int .i64 s0, .int .i64 s1, .int .i64 s2] from by rw [hy2]; exact ((A1.out.far (p := ⟨v3.heap.size, 0, none⟩) ne1 _).far (p := ⟨v3.heap.size, 1, none⟩) ne1 _).far (p := ⟨v3.heap.size, 2, none⟩) ne1 _)
            have GZ := (show w3.grownBy y2 none from by rw [hy2]; exact only_putc (only_putc (only_putc GY.out (p := ⟨v3.heap.size, 0, none⟩) L10.out _) (p := ⟨v3.heap.size, 1, none⟩) L10.out _) (p := ⟨v3.heap.size, 2, none⟩) L10.out _)
            replace C2 := Lib.hid C2
            replace A2 := Lib.hid A2
            replace GZ := Lib.hid GZ
            refine wpAnyH_ready (rs := [12]) (by kernel_rfl) (by simp) ?_
            refine AllReadyH.cons (o := _) rfl (fun K hK => ?_) AllReadyH.nil
            go_simp
            refine hK.out _ _ (by rw [← hy2]; exact HS3.out _ GZ.out) (fun hHeld => ?_)
            clear hK K
            try simp only [Act.put, List.setIfInBounds_toArray, List.set_cons_zero, List.set_cons_succ]
            rw [← hy2] at hHeld ⊢
            clear hy2 c0 c1 c2 cf0 cf1 cf2
            refine wpAnyH_done (by kernel_rfl) ?_ _
            go_wp2_with (fail)
            go_meet
            case rel => exact ⟨_, _, rfl, rfl, GZ.out, ⟨A2.out.cell 0, A2.out.cell 1, A2.out.cell 2⟩, ⟨C2.out.cell 0, C2.out.cell 1, C2.out.cell 2⟩⟩
        · go_simp
          refine hK.out _ _ (HS3.out _ (only_alloc G2.out (.cells #[.int .i64 0, .int .i64 0, .int .i64 0] 58))) (fun hHeld => ?_)
          clear hK K
          try simp only [Act.put, List.setIfInBounds_toArray, List.set_cons_zero, List.set_cons_succ]
          obtain ⟨v3, hn⟩ : ∃ W, W = v2.alloc (.cells #[.int .i64 0, .int .i64 0, .int .i64 0] 58) := ⟨_, rfl⟩
          have gn : v2.grownBy v3 none := by rw [hn]; exact only_alloc (only_refl _ _) _
          have K10_3 := Lib.hid (show Blk v3 v2.heap.size 58 #[.int .i64 0, .int .i64 0, .int .i64 0] from by rw [hn]; exact Blk.new _ _ _)
          have G3 := Lib.hid (only_trans G2.out gn)
          have L10 := Lib.hid (show w3.heap.size ≤ v2.heap.size from G2.out.size)
          have K9_3 := Lib.hid (K9_2.out.only gn (by simp))
          have NE := Lib.hid (show v1.heap.size ≠ v2.heap.size from by have := K9_2.out.lt; omega)
          rw [← hn] at hHeld ⊢
          clear hn gn
          refine wpAnyH_ready (rs := [8]) (by kernel_rfl) (by simp) ?_
          refine AllReadyH.cons (o := _) rfl (fun K hK => ?_) AllReadyH.nil
          · go_simp
            refine (HA.out _ G3.out).mono ?_
            rintro e v4 ⟨rfl, gn⟩
            try simp only []
            have G4 := Lib.hid (only_trans G3.out gn)
            have K9_4 := Lib.hid (K9_3.out.only gn (by simp))
            have K10_4 := Lib.hid (K10_3.out.only gn (by simp))
            clear gn
            refine hK.out _ _ (HS3.out _ G4.out) (fun hHeld => ?_)
            clear hK K
            try simp only [Act.put, List.setIfInBounds_toArray, List.set_cons_zero, List.set_cons_succ]
            obtain ⟨a0, a1, a2, af0, af1, af2⟩ := box3c K9_4.out
            obtain ⟨c0, c1, c2, cf0, cf1, cf2⟩ := box3c K10_4.out
            have ne1 : ¬ v1.heap.size = v2.heap.size := by have := NE.out; omega
            have ne2 : ¬ v2.heap.size = v1.heap.size := by have := NE.out; omega
            obtain ⟨y1, hy1⟩ : ∃ W, W = ((v4.setCell ⟨v1.heap.size, 0, none⟩ (.int .i64 s0)).setCell ⟨v1.heap.size, 1, none⟩ (.int .i64 s1)).setCell ⟨v1.heap.size, 2, none⟩ (.int .i64 s2) := ⟨_, rfl⟩
            have A1 := Lib.hid (show Blk y1 v1.heap.size 56 #[.int .i64 s0, .int .i64 s1, .int .i64 s2] from by rw [hy1]; exact ((K9_4.out.put 0 (.int .i64 s0)).put 1 (.int .i64 s1)).put 2 (.int .i64 s2))
            have C1 := Lib.hid (show Blk y1 v2.heap.size 58 #[.int .i64 0, .int .i64 0, .int .i64 0] from by rw [hy1]; exact ((K10_4.out.far (p := ⟨v1.heap.size, 0, none⟩) ne2 _).far (p := ⟨v1.heap.size, 1, none⟩) ne2 _).far (p := ⟨v1.heap.size, 2, none⟩) ne2 _)
            have GY := Lib.hid (show w3.grownBy y1 none from by rw [hy1]; exact only_putc (only_putc (only_putc G4.out (p := ⟨v1.heap.size, 0, none⟩) L9.out _) (p := ⟨v1.heap.size, 1, none⟩) L9.out _) (p := ⟨v1.heap.size, 2, none⟩) L9.out _)
            refine wpAnyH_ready (rs := [11]) (by kernel_rfl) (by simp) ?_
            refine AllReadyH.cons (o := _) rfl (fun K hK => ?_) AllReadyH.nil
            go_simp
            refine hK.out _ _ (by rw [← hy1]; exact HS3.out _ GY.out) (fun hHeld => ?_)
            clear hK K
            try simp only [Act.put, List.setIfInBounds_toArray, List.set_cons_zero, List.set_cons_succ]
            rw [← hy1] at hHeld ⊢
            clear hy1 a0 a1 a2 af0 af1 af2 c0 c1 c2 cf0 cf1 cf2
            obtain ⟨c0, c1, c2, cf0, cf1, cf2⟩ := box3c C1.out
            obtain ⟨y2, hy2⟩ : ∃ W, W = ((y1.setCell ⟨v2.heap.size, 0, none⟩ (.int .i64 s0)).setCell ⟨v2.heap.size, 1, none⟩ (.int .i64 s1)).setCell ⟨v2.heap.size, 2, none⟩ (.int .i64 s2) := ⟨_, rfl⟩
            have C2 := (show Blk y2 v2.heap.size 58 #[.int .i64 s0, .int .i64 s1, .int .i64 s2] from by rw [hy2]; exact ((C1.out.put 0 (.int .i64 s0)).put 1 (.int .i64 s1)).put 2 (.int .i64 s2))
            have A2 := (show Blk y2 v1.heap.size 56 #[.int .i64 s0, .int .i64 s1, .int .i64 s2] from by rw [hy2]; exact ((A1.out.far (p := ⟨v2.heap.size, 0, none⟩) ne1 _).far (p := ⟨v2.heap.size, 1, none⟩) ne1 _).far (p := ⟨v2.heap.size, 2, none⟩) ne1 _)
            have GZ := (show w3.grownBy y2 none from by rw [hy2]; exact only_putc (only_putc (only_putc GY.out (p := ⟨v2.heap.size, 0, none⟩) L10.out _) (p := ⟨v2.heap.size, 1, none⟩) L10.out _) (p := ⟨v2.heap.size, 2, none⟩) L10.out _)
            replace C2 := Lib.hid C2
            replace A2 := Lib.hid A2
            replace GZ := Lib.hid GZ
            refine wpAnyH_ready (rs := [12]) (by kernel_rfl) (by simp) ?_
            refine AllReadyH.cons (o := _) rfl (fun K hK => ?_) AllReadyH.nil
            go_simp
            refine hK.out _ _ (by rw [← hy2]; exact HS3.out _ GZ.out) (fun hHeld => ?_)
            clear hK K
            try simp only [Act.put, List.setIfInBounds_toArray, List.set_cons_zero, List.set_cons_succ]
            rw [← hy2] at hHeld ⊢
            clear hy2 c0 c1 c2 cf0 cf1 cf2
            refine wpAnyH_done (by kernel_rfl) ?_ _
            go_wp2_with (fail)
            go_meet
            case rel => exact ⟨_, _, rfl, rfl, GZ.out, ⟨A2.out.cell 0, A2.out.cell 1, A2.out.cell 2⟩, ⟨C2.out.cell 0, C2.out.cell 1, C2.out.cell 2⟩⟩
      · go_simp
        refine hK.out _ _ (HS3.out _ (only_alloc G1.out (.cells #[.int .i64 0, .int .i64 0, .int .i64 0] 58))) (fun hHeld => ?_)
        clear hK K
        try simp only [Act.put, List.setIfInBounds_toArray, List.set_cons_zero, List.set_cons_succ]
        obtain ⟨v2, hn⟩ : ∃ W, W = v1.alloc (.cells #[.int .i64 0, .int .i64 0, .int .i64 0] 58) := ⟨_, rfl⟩
        have gn : v1.grownBy v2 none := by rw [hn]; exact only_alloc (only_refl _ _) _
        have K10_2 := Lib.hid (show Blk v2 v1.heap.size 58 #[.int .i64 0, .int .i64 0, .int .i64 0] from by rw [hn]; exact Blk.new _ _ _)
        have G2 := Lib.hid (only_trans G1.out gn)
        have L10 := Lib.hid (show w3.heap.size ≤ v1.heap.size from G1.out.size)
        rw [← hn] at hHeld ⊢
        clear hn gn
        refine wpAnyH_ready (rs := [8, 9]) (by kernel_rfl) (by simp) ?_
        refine AllReadyH.cons (o := _) rfl (fun K hK => ?_) (AllReadyH.cons (o := _) rfl (fun K hK => ?_) AllReadyH.nil)
        · go_simp
          refine (HA.out _ G2.out).mono ?_
          rintro e v3 ⟨rfl, gn⟩
          try simp only []
          have G3 := Lib.hid (only_trans G2.out gn)
          have K10_3 := Lib.hid (K10_2.out.only gn (by simp))
          clear gn
          refine hK.out _ _ (HS3.out _ G3.out) (fun hHeld => ?_)
          clear hK K
          try simp only [Act.put, List.setIfInBounds_toArray, List.set_cons_zero, List.set_cons_succ]
          refine wpAnyH_ready (rs := [9]) (by kernel_rfl) (by simp) ?_
          refine AllReadyH.cons (o := _) rfl (fun K hK => ?_) AllReadyH.nil
          · go_simp
            refine hK.out _ _ (HS3.out _ (only_alloc G3.out (.cells #[.int .i64 0, .int .i64 0, .int .i64 0] 56))) (fun hHeld => ?_)
            clear hK K
            try simp only [Act.put, List.setIfInBounds_toArray, List.set_cons_zero, List.set_cons_succ]
            obtain ⟨v4, hn⟩ : ∃ W, W = v3.alloc (.cells #[.int .i64 0, .int .i64 0, .int .i64 0] 56) := ⟨_, rfl⟩
            have gn : v3.grownBy v4 none := by rw [hn]; exact only_alloc (only_refl _ _) _
            have K9_4 := Lib.hid (show Blk v4 v3.heap.size 56 #[.int .i64 0, .int .i64 0, .int .i64 0] from by rw [hn]; exact Blk.new _ _ _)
            have G4 := Lib.hid (only_trans G3.out gn)
            have L9 := Lib.hid (show w3.heap.size ≤ v3.heap.size from G3.out.size)
            have K10_4 := Lib.hid (K10_3.out.only gn (by simp))
            have NE := Lib.hid (show v1.heap.size ≠ v3.heap.size from by have := K10_3.out.lt; omega)
            rw [← hn] at hHeld ⊢
            clear hn gn
            obtain ⟨a0, a1, a2, af0, af1, af2⟩ := box3c K9_4.out
            obtain ⟨c0, c1, c2, cf0, cf1, cf2⟩ := box3c K10_4.out
            have ne1 : ¬ v3.heap.size = v1.heap.size := by have := NE.out; omega
            have ne2 : ¬ v1.heap.size = v3.heap.size := by have := NE.out; omega
            obtain ⟨y1, hy1⟩ : ∃ W, W = ((v4.setCell ⟨v3.heap.size, 0, none⟩ (.int .i64 s0)).setCell ⟨v3.heap.size, 1, none⟩ (.int .i64 s1)).setCell ⟨v3.heap.size, 2, none⟩ (.int .i64 s2) := ⟨_, rfl⟩
            have A1 := Lib.hid (show Blk y1 v3.heap.size 56 #[.int .i64 s0, .int .i64 s1, .int .i64 s2] from by rw [hy1]; exact ((K9_4.out.put 0 (.int .i64 s0)).put 1 (.int .i64 s1)).put 2 (.int .i64 s2))
            have C1 := Lib.hid (show Blk y1 v1.heap.size 58 #[.int .i64 0, .int .i64 0, .int .i64 0] from by rw [hy1]; exact ((K10_4.out.far (p := ⟨v3.heap.size, 0, none⟩) ne2 _).far (p := ⟨v3.heap.size, 1, none⟩) ne2 _).far (p := ⟨v3.heap.size, 2, none⟩) ne2 _)
            have GY := Lib.hid (show w3.grownBy y1 none from by rw [hy1]; exact only_putc (only_putc (only_putc G4.out (p := ⟨v3.heap.size, 0, none⟩) L9.out _) (p := ⟨v3.heap.size, 1, none⟩) L9.out _) (p := ⟨v3.heap.size, 2, none⟩) L9.out _)
            refine wpAnyH_ready (rs := [11]) (by kernel_rfl) (by simp) ?_
            refine AllReadyH.cons (o := _) rfl (fun K hK => ?_) AllReadyH.nil
            go_simp
            refine hK.out _ _ (by rw [← hy1]; exact HS3.out _ GY.out) (fun hHeld => ?_)
            clear hK K
            try simp only [Act.put, List.setIfInBounds_toArray, List.set_cons_zero, List.set_cons_succ]
            rw [← hy1] at hHeld ⊢
            clear hy1 a0 a1 a2 af0 af1 af2 c0 c1 c2 cf0 cf1 cf2
            obtain ⟨c0, c1, c2, cf0, cf1, cf2⟩ := box3c C1.out
            obtain ⟨y2, hy2⟩ : ∃ W, W = ((y1.setCell ⟨v1.heap.size, 0, none⟩ (.int .i64 s0)).setCell ⟨v1.heap.size, 1, none⟩ (.int .i64 s1)).setCell ⟨v1.heap.size, 2, none⟩ (.int .i64 s2) := ⟨_, rfl⟩
            have C2 := (show Blk y2 v1.heap.size 58 #[.int .i64 s0, .int .i64 s1, .int .i64 s2] from by rw [hy2]; exact ((C1.out.put 0 (.int .i64 s0)).put 1 (.int .i64 s1)).put 2 (.int .i64 s2))
            have A2 := (show Blk y2 v3.heap.size 56 #[.int .i64 s0, .int .i64 s1, .int .i64 s2] from by rw [hy2]; exact ((A1.out.far (p := ⟨v1.heap.size, 0, none⟩) ne1 _).far (p := ⟨v1.heap.size, 1, none⟩) ne1 _).far (p := ⟨v1.heap.size, 2, none⟩) ne1 _)
            have GZ := (show w3.grownBy y2 none from by rw [hy2]; exact only_putc (only_putc (only_putc GY.out (p := ⟨v1.heap.size, 0, none⟩) L10.out _) (p := ⟨v1.heap.size, 1, none⟩) L10.out _) (p := ⟨v1.heap.size, 2, none⟩) L10.out _)
            replace C2 := Lib.hid C2
            replace A2 := Lib.hid A2
            replace GZ := Lib.hid GZ
            refine wpAnyH_ready (rs := [12]) (by kernel_rfl) (by simp) ?_
            refine AllReadyH.cons (o := _) rfl (fun K hK => ?_) AllReadyH.nil
            go_simp
            refine hK.out _ _ (by rw [← hy2]; exact HS3.out _ GZ.out) (fun hHeld => ?_)
            clear hK K
            try simp only [Act.put, List.setIfInBounds_toArray, List.set_cons_zero, List.set_cons_succ]
            rw [← hy2] at hHeld ⊢
            clear hy2 c0 c1 c2 cf0 cf1 cf2
            refine wpAnyH_done (by kernel_rfl) ?_ _
            go_wp2_with (fail)
            go_meet
            case rel => exact ⟨_, _, rfl, rfl, GZ.out, ⟨A2.out.cell 0, A2.out.cell 1, A2.out.cell 2⟩, ⟨C2.out.cell 0, C2.out.cell 1, C2.out.cell 2⟩⟩
        · go_simp
          refine hK.out _ _ (HS3.out _ (only_alloc G2.out (.cells #[.int .i64 0, .int .i64 0, .int .i64 0] 56))) (fun hHeld => ?_)
          clear hK K
          try simp only [Act.put, List.setIfInBounds_toArray, List.set_cons_zero, List.set_cons_succ]
          obtain ⟨v3, hn⟩ : ∃ W, W = v2.alloc (.cells #[.int .i64 0, .int .i64 0, .int .i64 0] 56) := ⟨_, rfl⟩
          have gn : v2.grownBy v3 none := by rw [hn]; exact only_alloc (only_refl _ _) _
          have K9_3 := Lib.hid (show Blk v3 v2.heap.size 56 #[.int .i64 0, .int .i64 0, .int .i64 0] from by rw [hn]; exact Blk.new _ _ _)
          have G3 := Lib.hid (only_trans G2.out gn)
          have L9 := Lib.hid (show w3.heap.size ≤ v2.heap.size from G2.out.size)
          have K10_3 := Lib.hid (K10_2.out.only gn (by simp))
          have NE := Lib.hid (show v1.heap.size ≠ v2.heap.size from by have := K10_2.out.lt; omega)
          rw [← hn] at hHeld ⊢
          clear hn gn
          refine wpAnyH_ready (rs := [8]) (by kernel_rfl) (by simp) ?_
          refine AllReadyH.cons (o := _) rfl (fun K hK => ?_) AllReadyH.nil
          · go_simp
            refine (HA.out _ G3.out).mono ?_
            rintro e v4 ⟨rfl, gn⟩
            try simp only []
            have G4 := Lib.hid (only_trans G3.out gn)
            have K10_4 := Lib.hid (K10_3.out.only gn (by simp))
            have K9_4 := Lib.hid (K9_3.out.only gn (by simp))
            clear gn
            refine hK.out _ _ (HS3.out _ G4.out) (fun hHeld => ?_)
            clear hK K
            try simp only [Act.put, List.setIfInBounds_toArray, List.set_cons_zero, List.set_cons_succ]
            obtain ⟨a0, a1, a2, af0, af1, af2⟩ := box3c K9_4.out
            obtain ⟨c0, c1, c2, cf0, cf1, cf2⟩ := box3c K10_4.out
            have ne1 : ¬ v2.heap.size = v1.heap.size := by have := NE.out; omega
            have ne2 : ¬ v1.heap.size = v2.heap.size := by have := NE.out; omega
            obtain ⟨y1, hy1⟩ : ∃ W, W = ((v4.setCell ⟨v2.heap.size, 0, none⟩ (.int .i64 s0)).setCell ⟨v2.heap.size, 1, none⟩ (.int .i64 s1)).setCell ⟨v2.heap.size, 2, none⟩ (.int .i64 s2) := ⟨_, rfl⟩
            have A1 := Lib.hid (show Blk y1 v2.heap.size 56 #[.int .i64 s0, .int .i64 s1, .int .i64 s2] from by rw [hy1]; exact ((K9_4.out.put 0 (.int .i64 s0)).put 1 (.int .i64 s1)).put 2 (.int .i64 s2))
            have C1 := Lib.hid (show Blk y1 v1.heap.size 58 #[.int .i64 0, .int .i64 0, .int .i64 0] from by rw [hy1]; exact ((K10_4.out.far (p := ⟨v2.heap.size, 0, none⟩) ne2 _).far (p := ⟨v2.heap.size, 1, none⟩) ne2 _).far (p := ⟨v2.heap.size, 2, none⟩) ne2 _)
            have GY := Lib.hid (show w3.grownBy y1 none from by rw [hy1]; exact only_putc (only_putc (only_putc G4.out (p := ⟨v2.heap.size, 0, none⟩) L9.out _) (p := ⟨v2.heap.size, 1, none⟩) L9.out _) (p := ⟨v2.heap.size, 2, none⟩) L9.out _)
            refine wpAnyH_ready (rs := [11]) (by kernel_rfl) (by simp) ?_
            refine AllReadyH.cons (o := _) rfl (fun K hK => ?_) AllReadyH.nil
            go_simp
            refine hK.out _ _ (by rw [← hy1]; exact HS3.out _ GY.out) (fun hHeld => ?_)
            clear hK K
            try simp only [Act.put, List.setIfInBounds_toArray, List.set_cons_zero, List.set_cons_succ]
            rw [← hy1] at hHeld ⊢
            clear hy1 a0 a1 a2 af0 af1 af2 c0 c1 c2 cf0 cf1 cf2
            obtain ⟨c0, c1, c2, cf0, cf1, cf2⟩ := box3c C1.out
            obtain ⟨y2, hy2⟩ : ∃ W, W = ((y1.setCell ⟨v1.heap.size, 0, none⟩ (.int .i64 s0)).setCell ⟨v1.heap.size, 1, none⟩ (.int .i64 s1)).setCell ⟨v1.heap.size, 2, none⟩ (.int .i64 s2) := ⟨_, rfl⟩
            have C2 := (show Blk y2 v1.heap.size 58 #[.int .i64 s0, .int .i64 s1, .int .i64 s2] from by rw [hy2]; exact ((C1.out.put 0 (.int .i64 s0)).put 1 (.int .i64 s1)).put 2 (.int .i64 s2))
            have A2 := (show Blk y2 v2.heap.size 56 #[.int .i64 s0, .int .i64 s1, .int .i64 s2] from by rw [hy2]; exact ((A1.out.far (p := ⟨v1.heap.size, 0, none⟩) ne1 _).far (p := ⟨v1.heap.size, 1, none⟩) ne1 _).far (p := ⟨v1.heap.size, 2, none⟩) ne1 _)
            have GZ := (show w3.grownBy y2 none from by rw [hy2]; exact only_putc (only_putc (only_putc GY.out (p := ⟨v1.heap.size, 0, none⟩) L10.out _) (p := ⟨v1.heap.size, 1, none⟩) L10.out _) (p := ⟨v1.heap.size, 2, none⟩) L10.out _)
            replace C2 := Lib.hid C2
            replace A2 := Lib.hid A2
            replace GZ := Lib.hid GZ
            refine wpAnyH_ready (rs := [12]) (by kernel_rfl) (by simp) ?_
            refine AllReadyH.cons (o := _) rfl (fun K hK => ?_) AllReadyH.nil
            go_simp
            refine hK.out _ _ (by rw [← hy2]; exact HS3.out _ GZ.out) (fun hHeld => ?_)
            clear hK K
            try simp only [Act.put, List.setIfInBounds_toArray, List.set_cons_zero, List.set_cons_succ]
            rw [← hy2] at hHeld ⊢
            clear hy2 c0 c1 c2 cf0 cf1 cf2
            refine wpAnyH_done (by kernel_rfl) ?_ _
            go_wp2_with (fail)
            go_meet
            case rel => exact ⟨_, _, rfl, rfl, GZ.out, ⟨A2.out.cell 0, A2.out.cell 1, A2.out.cell 2⟩, ⟨C2.out.cell 0, C2.out.cell 1, C2.out.cell 2⟩⟩
    · go_simp
      refine hK.out _ _ (HS3.out _ (only_alloc G0.out (.cells #[.int .i64 0, .int .i64 0, .int .i64 0] 56))) (fun hHeld => ?_)
      clear hK K
      try simp only [Act.put, List.setIfInBounds_toArray, List.set_cons_zero, List.set_cons_succ]
      obtain ⟨v1, hn⟩ : ∃ W, W = v0.alloc (.cells #[.int .i64 0, .int .i64 0, .int .i64 0] 56) := ⟨_, rfl⟩
      have gn : v0.grownBy v1 none := by rw [hn]; exact only_alloc (only_refl _ _) _
      have K9_1 := Lib.hid (show Blk v1 v0.heap.size 56 #[.int .i64 0, .int .i64 0, .int .i64 0] from by rw [hn]; exact Blk.new _ _ _)
      have G1 := Lib.hid (only_trans G0.out gn)
      have L9 := Lib.hid (show w3.heap.size ≤ v0.heap.size from G0.out.size)
      rw [← hn] at hHeld ⊢
      clear hn gn
      refine wpAnyH_ready (rs := [2, 10]) (by kernel_rfl) (by simp) ?_
      refine AllReadyH.cons (o := _) rfl (fun K hK => ?_) (AllReadyH.cons (o := _) rfl (fun K hK => ?_) AllReadyH.nil)
      · go_simp
        refine (HB.out _ G1.out).mono ?_
        rintro e v2 ⟨rfl, gn⟩
        try simp only []
        have G2 := Lib.hid (only_trans G1.out gn)
        have K9_2 := Lib.hid (K9_1.out.only gn (by simp))
        clear gn
        refine hK.out _ _ (HS3.out _ G2.out) (fun hHeld => ?_)
        clear hK K
        try simp only [Act.put, List.setIfInBounds_toArray, List.set_cons_zero, List.set_cons_succ]
        refine wpAnyH_ready (rs := [8, 10]) (by kernel_rfl) (by simp) ?_
        refine AllReadyH.cons (o := _) rfl (fun K hK => ?_) (AllReadyH.cons (o := _) rfl (fun K hK => ?_) AllReadyH.nil)
        · go_simp
          refine (HA.out _ G2.out).mono ?_
          rintro e v3 ⟨rfl, gn⟩
          try simp only []
          have G3 := Lib.hid (only_trans G2.out gn)
          have K9_3 := Lib.hid (K9_2.out.only gn (by simp))
          clear gn
          refine hK.out _ _ (HS3.out _ G3.out) (fun hHeld => ?_)
          clear hK K
          try simp only [Act.put, List.setIfInBounds_toArray, List.set_cons_zero, List.set_cons_succ]
          refine wpAnyH_ready (rs := [10]) (by kernel_rfl) (by simp) ?_
          refine AllReadyH.cons (o := _) rfl (fun K hK => ?_) AllReadyH.nil
          · go_simp
            refine hK.out _ _ (HS3.out _ (only_alloc G3.out (.cells #[.int .i64 0, .int .i64 0, .int .i64 0] 58))) (fun hHeld => ?_)
            clear hK K
            try simp only [Act.put, List.setIfInBounds_toArray, List.set_cons_zero, List.set_cons_succ]
            obtain ⟨v4, hn⟩ : ∃ W, W = v3.alloc (.cells #[.int .i64 0, .int .i64 0, .int .i64 0] 58) := ⟨_, rfl⟩
            have gn : v3.grownBy v4 none := by rw [hn]; exact only_alloc (only_refl _ _) _
            have K10_4 := Lib.hid (show Blk v4 v3.heap.size 58 #[.int .i64 0, .int .i64 0, .int .i64 0] from by rw [hn]; exact Blk.new _ _ _)
            have G4 := Lib.hid (only_trans G3.out gn)
            have L10 := Lib.hid (show w3.heap.size ≤ v3.heap.size from G3.out.size)
            have K9_4 := Lib.hid (K9_3.out.only gn (by simp))
            have NE := Lib.hid (show v0.heap.size ≠ v3.heap.size from by have := K9_3.out.lt; omega)
            rw [← hn] at hHeld ⊢
            clear hn gn
            obtain ⟨a0, a1, a2, af0, af1, af2⟩ := box3c K9_4.out
            obtain ⟨c0, c1, c2, cf0, cf1, cf2⟩ := box3c K10_4.out
            have ne1 : ¬ v0.heap.size = v3.heap.size := by have := NE.out; omega
            have ne2 : ¬ v3.heap.size = v0.heap.size := by have := NE.out; omega
            obtain ⟨y1, hy1⟩ : ∃ W, W = ((v4.setCell ⟨v0.heap.size, 0, none⟩ (.int .i64 s0)).setCell ⟨v0.heap.size, 1, none⟩ (.int .i64 s1)).setCell ⟨v0.heap.size, 2, none⟩ (.int .i64 s2) := ⟨_, rfl⟩
            have A1 := Lib.hid (show Blk y1 v0.heap.size 56 #[.int .i64 s0, .int .i64 s1, .int .i64 s2] from by rw [hy1]; exact ((K9_4.out.put 0 (.int .i64 s0)).put 1 (.int .i64 s1)).put 2 (.int .i64 s2))
            have C1 := Lib.hid (show Blk y1 v3.heap.size 58 #[.int .i64 0, .int .i64 0, .int .i64 0] from by rw [hy1]; exact ((K10_4.out.far (p := ⟨v0.heap.size, 0, none⟩) ne2 _).far (p := ⟨v0.heap.size, 1, none⟩) ne2 _).far (p := ⟨v0.heap.size, 2, none⟩) ne2 _)
            have GY := Lib.hid (show w3.grownBy y1 none from by rw [hy1]; exact only_putc (only_putc (only_putc G4.out (p := ⟨v0.heap.size, 0, none⟩) L9.out _) (p := ⟨v0.heap.size, 1, none⟩) L9.out _) (p := ⟨v0.heap.size, 2, none⟩) L9.out _)
            refine wpAnyH_ready (rs := [11]) (by kernel_rfl) (by simp) ?_
            refine AllReadyH.cons (o := _) rfl (fun K hK => ?_) AllReadyH.nil
            go_simp
            refine hK.out _ _ (by rw [← hy1]; exact HS3.out _ GY.out) (fun hHeld => ?_)
            clear hK K
            try simp only [Act.put, List.setIfInBounds_toArray, List.set_cons_zero, List.set_cons_succ]
            rw [← hy1] at hHeld ⊢
            clear hy1 a0 a1 a2 af0 af1 af2 c0 c1 c2 cf0 cf1 cf2
            obtain ⟨c0, c1, c2, cf0, cf1, cf2⟩ := box3c C1.out
            obtain ⟨y2, hy2⟩ : ∃ W, W = ((y1.setCell ⟨v3.heap.size, 0, none⟩ (.int .i64 s0)).setCell ⟨v3.heap.size, 1, none⟩ (.int .i64 s1)).setCell ⟨v3.heap.size, 2, none⟩ (.int .i64 s2) := ⟨_, rfl⟩
            have C2 := (show Blk y2 v3.heap.size 58 #[.int .i64 s0, .int .i64 s1, .int .i64 s2] from by rw [hy2]; exact ((C1.out.put 0 (.int .i64 s0)).put 1 (.int .i64 s1)).put 2 (.int .i64 s2))
            have A2 := (show Blk y2 v0.heap.size 56 #[.int .i64 s0, .int .i64 s1, .int .i64 s2] from by rw [hy2]; exact ((A1.out.far (p := ⟨v3.heap.size, 0, none⟩) ne1 _).far (p := ⟨v3.heap.size, 1, none⟩) ne1 _).far (p := ⟨v3.heap.size, 2, none⟩) ne1 _)
            have GZ := (show w3.grownBy y2 none from by rw [hy2]; exact only_putc (only_putc (only_putc GY.out (p := ⟨v3.heap.size, 0, none⟩) L10.out _) (p := ⟨v3.heap.size, 1, none⟩) L10.out _) (p := ⟨v3.heap.size, 2, none⟩) L10.out _)
            replace C2 := Lib.hid C2
            replace A2 := Lib.hid A2
            replace GZ := Lib.hid GZ
            refine wpAnyH_ready (rs := [12]) (by kernel_rfl) (by simp) ?_
            refine AllReadyH.cons (o := _) rfl (fun K hK => ?_) AllReadyH.nil
            go_simp
            refine hK.out _ _ (by rw [← hy2]; exact HS3.out _ GZ.out) (fun hHeld => ?_)
            clear hK K
            try simp only [Act.put, List.setIfInBounds_toArray, List.set_cons_zero, List.set_cons_succ]
            rw [← hy2] at hHeld ⊢
            clear hy2 c0 c1 c2 cf0 cf1 cf2
            refine wpAnyH_done (by kernel_rfl) ?_ _
            go_wp2_with (fail)
            go_meet
            case rel => exact ⟨_, _, rfl, rfl, GZ.out, ⟨A2.out.cell 0, A2.out.cell 1, A2.out.cell 2⟩, ⟨C2.out.cell 0, C2.out.cell 1, C2.out.cell 2⟩⟩
        · go_simp
          refine hK.out _ _ (HS3.out _ (only_alloc G2.out (.cells #[.int .i64 0, .int .i64 0, .int .i64 0] 58))) (fun hHeld => ?_)
          clear hK K
          try simp only [Act.put, List.setIfInBounds_toArray, List.set_cons_zero, List.set_cons_succ]
          obtain ⟨v3, hn⟩ : ∃ W, W = v2.alloc (.cells #[.int .i64 0, .int .i64 0, .int .i64 0] 58) := ⟨_, rfl⟩
          have gn : v2.grownBy v3 none := by rw [hn]; exact only_alloc (only_refl _ _) _
          have K10_3 := Lib.hid (show Blk v3 v2.heap.size 58 #[.int .i64 0, .int .i64 0, .int .i64 0] from by rw [hn]; exact Blk.new _ _ _)
          have G3 := Lib.hid (only_trans G2.out gn)
          have L10 := Lib.hid (show w3.heap.size ≤ v2.heap.size from G2.out.size)
          have K9_3 := Lib.hid (K9_2.out.only gn (by simp))
          have NE := Lib.hid (show v0.heap.size ≠ v2.heap.size from by have := K9_2.out.lt; omega)
          rw [← hn] at hHeld ⊢
          clear hn gn
          refine wpAnyH_ready (rs := [8]) (by kernel_rfl) (by simp) ?_
          refine AllReadyH.cons (o := _) rfl (fun K hK => ?_) AllReadyH.nil
          · go_simp
            refine (HA.out _ G3.out).mono ?_
            rintro e v4 ⟨rfl, gn⟩
            try simp only []
            have G4 := Lib.hid (only_trans G3.out gn)
            have K9_4 := Lib.hid (K9_3.out.only gn (by simp))
            have K10_4 := Lib.hid (K10_3.out.only gn (by simp))
            clear gn
            refine hK.out _ _ (HS3.out _ G4.out) (fun hHeld => ?_)
            clear hK K
            try simp only [Act.put, List.setIfInBounds_toArray, List.set_cons_zero, List.set_cons_succ]
            obtain ⟨a0, a1, a2, af0, af1, af2⟩ := box3c K9_4.out
            obtain ⟨c0, c1, c2, cf0, cf1, cf2⟩ := box3c K10_4.out
            have ne1 : ¬ v0.heap.size = v2.heap.size := by have := NE.out; omega
            have ne2 : ¬ v2.heap.size = v0.heap.size := by have := NE.out; omega
            obtain ⟨y1, hy1⟩ : ∃ W, W = ((v4.setCell ⟨v0.heap.size, 0, none⟩ (.int .i64 s0)).setCell ⟨v0.heap.size, 1, none⟩ (.int .i64 s1)).setCell ⟨v0.heap.size, 2, none⟩ (.int .i64 s2) := ⟨_, rfl⟩
            have A1 := Lib.hid (show Blk y1 v0.heap.size 56 #[.int .i64 s0, .int .i64 s1, .int .i64 s2] from by rw [hy1]; exact ((K9_4.out.put 0 (.int .i64 s0)).put 1 (.int .i64 s1)).put 2 (.int .i64 s2))
            have C1 := Lib.hid (show Blk y1 v2.heap.size 58 #[.int .i64 0, .int .i64 0, .int .i64 0] from by rw [hy1]; exact ((K10_4.out.far (p := ⟨v0.heap.size, 0, none⟩) ne2 _).far (p := ⟨v0.heap.size, 1, none⟩) ne2 _).far (p := ⟨v0.heap.size, 2, none⟩) ne2 _)
            have GY := Lib.hid (show w3.grownBy y1 none from by rw [hy1]; exact only_putc (only_putc (only_putc G4.out (p := ⟨v0.heap.size, 0, none⟩) L9.out _) (p := ⟨v0.heap.size, 1, none⟩) L9.out _) (p := ⟨v0.heap.size, 2, none⟩) L9.out _)
            refine wpAnyH_ready (rs := [11]) (by kernel_rfl) (by simp) ?_
            refine AllReadyH.cons (o := _) rfl (fun K hK => ?_) AllReadyH.nil
            go_simp
            refine hK.out _ _ (by rw [← hy1]; exact HS3.out _ GY.out) (fun hHeld => ?_)
            clear hK K
            try simp only [Act.put, List.setIfInBounds_toArray, List.set_cons_zero, List.set_cons_succ]
            rw [← hy1] at hHeld ⊢
            clear hy1 a0 a1 a2 af0 af1 af2 c0 c1 c2 cf0 cf1 cf2
            obtain ⟨c0, c1, c2, cf0, cf1, cf2⟩ := box3c C1.out
            obtain ⟨y2, hy2⟩ : ∃ W, W = ((y1.setCell ⟨v2.heap.size, 0, none⟩ (.int .i64 s0)).setCell ⟨v2.heap.size, 1, none⟩ (.int .i64 s1)).setCell ⟨v2.heap.size, 2, none⟩ (.int .i64 s2) := ⟨_, rfl⟩
            have C2 := (show Blk y2 v2.heap.size 58 #[.int .i64 s0, .int .i64 s1, .int .i64 s2] from by rw [hy2]; exact ((C1.out.put 0 (.int .i64 s0)).put 1 (.int .i64 s1)).put 2 (.int .i64 s2))
            have A2 := (show Blk y2 v0.heap.size 56 #[.int .i64 s0, .int .i64 s1, .int .i64 s2] from by rw [hy2]; exact ((A1.out.far (p := ⟨v2.heap.size, 0, none⟩) ne1 _).far (p := ⟨v2.heap.size, 1, none⟩) ne1 _).far (p := ⟨v2.heap.size, 2, none⟩) ne1 _)
            have GZ := (show w3.grownBy y2 none from by rw [hy2]; exact only_putc (only_putc (only_putc GY.out (p := ⟨v2.heap.size, 0, none⟩) L10.out _) (p := ⟨v2.heap.size, 1, none⟩) L10.out _) (p := ⟨v2.heap.size, 2, none⟩) L10.out _)
            replace C2 := Lib.hid C2
            replace A2 := Lib.hid A2
            replace GZ := Lib.hid GZ
            refine wpAnyH_ready (rs := [12]) (by kernel_rfl) (by simp) ?_
            refine AllReadyH.cons (o := _) rfl (fun K hK => ?_) AllReadyH.nil
            go_simp
            refine hK.out _ _ (by rw [← hy2]; exact HS3.out _ GZ.out) (fun hHeld => ?_)
            clear hK K
            try simp only [Act.put, List.setIfInBounds_toArray, List.set_cons_zero, List.set_cons_succ]
            rw [← hy2] at hHeld ⊢
            clear hy2 c0 c1 c2 cf0 cf1 cf2
            refine wpAnyH_done (by kernel_rfl) ?_ _
            go_wp2_with (fail)
            go_meet
            case rel => exact ⟨_, _, rfl, rfl, GZ.out, ⟨A2.out.cell 0, A2.out.cell 1, A2.out.cell 2⟩, ⟨C2.out.cell 0, C2.out.cell 1, C2.out.cell 2⟩⟩
      · go_simp
        refine hK.out _ _ (HS3.out _ (only_alloc G1.out (.cells #[.int .i64 0, .int .i64 0, .int .i64 0] 58))) (fun hHeld => ?_)
        clear hK K
        try simp only [Act.put, List.setIfInBounds_toArray, List.set_cons_zero, List.set_cons_succ]
        obtain ⟨v2, hn⟩ : ∃ W, W = v1.alloc (.cells #[.int .i64 0, .int .i64 0, .int .i64 0] 58) := ⟨_, rfl⟩
        have gn : v1.grownBy v2 none := by rw [hn]; exact only_alloc (only_refl _ _) _
        have K10_2 := Lib.hid (show Blk v2 v1.heap.size 58 #[.int .i64 0, .int .i64 0, .int .i64 0] from by rw [hn]; exact Blk.new _ _ _)
        have G2 := Lib.hid (only_trans G1.out gn)
        have L10 := Lib.hid (show w3.heap.size ≤ v1.heap.size from G1.out.size)
        have K9_2 := Lib.hid (K9_1.out.only gn (by simp))
        have NE := Lib.hid (show v0.heap.size ≠ v1.heap.size from by have := K9_1.out.lt; omega)
        rw [← hn] at hHeld ⊢
        clear hn gn
        refine wpAnyH_ready (rs := [2]) (by kernel_rfl) (by simp) ?_
        refine AllReadyH.cons (o := _) rfl (fun K hK => ?_) AllReadyH.nil
        · go_simp
          refine (HB.out _ G2.out).mono ?_
          rintro e v3 ⟨rfl, gn⟩
          try simp only []
          have G3 := Lib.hid (only_trans G2.out gn)
          have K9_3 := Lib.hid (K9_2.out.only gn (by simp))
          have K10_3 := Lib.hid (K10_2.out.only gn (by simp))
          clear gn
          refine hK.out _ _ (HS3.out _ G3.out) (fun hHeld => ?_)
          clear hK K
          try simp only [Act.put, List.setIfInBounds_toArray, List.set_cons_zero, List.set_cons_succ]
          refine wpAnyH_ready (rs := [8]) (by kernel_rfl) (by simp) ?_
          refine AllReadyH.cons (o := _) rfl (fun K hK => ?_) AllReadyH.nil
          · go_simp
            refine (HA.out _ G3.out).mono ?_
            rintro e v4 ⟨rfl, gn⟩
            try simp only []
            have G4 := Lib.hid (only_trans G3.out gn)
            have K9_4 := Lib.hid (K9_3.out.only gn (by simp))
            have K10_4 := Lib.hid (K10_3.out.only gn (by simp))
            clear gn
            refine hK.out _ _ (HS3.out _ G4.out) (fun hHeld => ?_)
            clear hK K
            try simp only [Act.put, List.setIfInBounds_toArray, List.set_cons_zero, List.set_cons_succ]
            obtain ⟨a0, a1, a2, af0, af1, af2⟩ := box3c K9_4.out
            obtain ⟨c0, c1, c2, cf0, cf1, cf2⟩ := box3c K10_4.out
            have ne1 : ¬ v0.heap.size = v1.heap.size := by have := NE.out; omega
            have ne2 : ¬ v1.heap.size = v0.heap.size := by have := NE.out; omega
            obtain ⟨y1, hy1⟩ : ∃ W, W = ((v4.setCell ⟨v0.heap.size, 0, none⟩ (.int .i64 s0)).setCell ⟨v0.heap.size, 1, none⟩ (.int .i64 s1)).setCell ⟨v0.heap.size, 2, none⟩ (.int .i64 s2) := ⟨_, rfl⟩
            have A1 := Lib.hid (show Blk y1 v0.heap.size 56 #[.int .i64 s0, .int .i64 s1, .int .i64 s2] from by rw [hy1]; exact ((K9_4.out.put 0 (.int .i64 s0)).put 1 (.int .i64 s1)).put 2 (.int .i64 s2))
            have C1 := Lib.hid (show Blk y1 v1.heap.size 58 #[.int .i64 0, .int .i64 0, .int .i64 0] from by rw [hy1]; exact ((K10_4.out.far (p := ⟨v0.heap.size, 0, none⟩) ne2 _).far (p := ⟨v0.heap.size, 1, none⟩) ne2 _).far (p := ⟨v0.heap.size, 2, none⟩) ne2 _)
            have GY := Lib.hid (show w3.grownBy y1 none from by rw [hy1]; exact only_putc (only_putc (only_putc G4.out (p := ⟨v0.heap.size, 0, none⟩) L9.out _) (p := ⟨v0.heap.size, 1, none⟩) L9.out _) (p := ⟨v0.heap.size, 2, none⟩) L9.out _)
            refine wpAnyH_ready (rs := [11]) (by kernel_rfl) (by simp) ?_
            refine AllReadyH.cons (o := _) rfl (fun K hK => ?_) AllReadyH.nil
            go_simp
            refine hK.out _ _ (by rw [← hy1]; exact HS3.out _ GY.out) (fun hHeld => ?_)
            clear hK K
            try simp only [Act.put, List.setIfInBounds_toArray, List.set_cons_zero, List.set_cons_succ]
            rw [← hy1] at hHeld ⊢
            clear hy1 a0 a1 a2 af0 af1 af2 c0 c1 c2 cf0 cf1 cf2
            obtain ⟨c0, c1, c2, cf0, cf1, cf2⟩ := box3c C1.out
            obtain ⟨y2, hy2⟩ : ∃ W, W = ((y1.setCell ⟨v1.heap.size, 0, none⟩ (.int .i64 s0)).setCell ⟨v1.heap.size, 1, none⟩ (.int .i64 s1)).setCell ⟨v1.heap.size, 2, none⟩ (.int .i64 s2) := ⟨_, rfl⟩
            have C2 := (show Blk y2 v1.heap.size 58 #[.int .i64 s0, .int .i64 s1, .int .i64 s2] from by rw [hy2]; exact ((C1.out.put 0 (.int .i64 s0)).put 1 (.int .i64 s1)).put 2 (.int .i64 s2))
            have A2 := (show Blk y2 v0.heap.size 56 #[.int .i64 s0, .int .i64 s1, .int .i64 s2] from by rw [hy2]; exact ((A1.out.far (p := ⟨v1.heap.size, 0, none⟩) ne1 _).far (p := ⟨v1.heap.size, 1, none⟩) ne1 _).far (p := ⟨v1.heap.size, 2, none⟩) ne1 _)
            have GZ := (show w3.grownBy y2 none from by rw [hy2]; exact only_putc (only_putc (only_putc GY.out (p := ⟨v1.heap.size, 0, none⟩) L10.out _) (p := ⟨v1.heap.size, 1, none⟩) L10.out _) (p := ⟨v1.heap.size, 2, none⟩) L10.out _)
            replace C2 := Lib.hid C2
            replace A2 := Lib.hid A2
            replace GZ := Lib.hid GZ
            refine wpAnyH_ready (rs := [12]) (by kernel_rfl) (by simp) ?_
            refine AllReadyH.cons (o := _) rfl (fun K hK => ?_) AllReadyH.nil
            go_simp
            refine hK.out _ _ (by rw [← hy2]; exact HS3.out _ GZ.out) (fun hHeld => ?_)
            clear hK K
            try simp only [Act.put, List.setIfInBounds_toArray, List.set_cons_zero, List.set_cons_succ]
            rw [← hy2] at hHeld ⊢
            clear hy2 c0 c1 c2 cf0 cf1 cf2
            refine wpAnyH_done (by kernel_rfl) ?_ _
            go_wp2_with (fail)
            go_meet
            case rel => exact ⟨_, _, rfl, rfl, GZ.out, ⟨A2.out.cell 0, A2.out.cell 1, A2.out.cell 2⟩, ⟨C2.out.cell 0, C2.out.cell 1, C2.out.cell 2⟩⟩
    · go_simp
      refine hK.out _ _ (HS3.out _ (only_alloc G0.out (.cells #[.int .i64 0, .int .i64 0, .int .i64 0] 58))) (fun hHeld => ?_)
      clear hK K
      try simp only [Act.put, List.setIfInBounds_toArray, List.set_cons_zero, List.set_cons_succ]
      obtain ⟨v1, hn⟩ : ∃ W, W = v0.alloc (.cells #[.int .i64 0, .int .i64 0, .int .i64 0] 58) := ⟨_, rfl⟩
      have gn : v0.grownBy v1 none := by rw [hn]; exact only_alloc (only_refl _ _) _
      have K10_1 := Lib.hid (show Blk v1 v0.heap.size 58 #[.int .i64 0, .int .i64 0, .int .i64 0] from by rw [hn]; exact Blk.new _ _ _)
      have G1 := Lib.hid (only_trans G0.out gn)
      have L10 := Lib.hid (show w3.heap.size ≤ v0.heap.size from G0.out.size)
      rw [← hn] at hHeld ⊢
      clear hn gn
      refine wpAnyH_ready (rs := [2, 9]) (by kernel_rfl) (by simp) ?_
      refine AllReadyH.cons (o := _) rfl (fun K hK => ?_) (AllReadyH.cons (o := _) rfl (fun K hK => ?_) AllReadyH.nil)
      · go_simp
        refine (HB.out _ G1.out).mono ?_
        rintro e v2 ⟨rfl, gn⟩
        try simp only []
        have G2 := Lib.hid (only_trans G1.out gn)
        have K10_2 := Lib.hid (K10_1.out.only gn (by simp))
        clear gn
        refine hK.out _ _ (HS3.out _ G2.out) (fun hHeld => ?_)
        clear hK K
        try simp only [Act.put, List.setIfInBounds_toArray, List.set_cons_zero, List.set_cons_succ]
        refine wpAnyH_ready (rs := [8, 9]) (by kernel_rfl) (by simp) ?_
        refine AllReadyH.cons (o := _) rfl (fun K hK => ?_) (AllReadyH.cons (o := _) rfl (fun K hK => ?_) AllReadyH.nil)
        · go_simp
          refine (HA.out _ G2.out).mono ?_
          rintro e v3 ⟨rfl, gn⟩
          try simp only []
          have G3 := Lib.hid (only_trans G2.out gn)
          have K10_3 := Lib.hid (K10_2.out.only gn (by simp))
          clear gn
          refine hK.out _ _ (HS3.out _ G3.out) (fun hHeld => ?_)
          clear hK K
          try simp only [Act.put, List.setIfInBounds_toArray, List.set_cons_zero, List.set_cons_succ]
          refine wpAnyH_ready (rs := [9]) (by kernel_rfl) (by simp) ?_
          refine AllReadyH.cons (o := _) rfl (fun K hK => ?_) AllReadyH.nil
          · go_simp
            refine hK.out _ _ (HS3.out _ (only_alloc G3.out (.cells #[.int .i64 0, .int .i64 0, .int .i64 0] 56))) (fun hHeld => ?_)
            clear hK K
            try simp only [Act.put, List.setIfInBounds_toArray, List.set_cons_zero, List.set_cons_succ]
            obtain ⟨v4, hn⟩ : ∃ W, W = v3.alloc (.cells #[.int .i64 0, .int .i64 0, .int .i64 0] 56) := ⟨_, rfl⟩
            have gn : v3.grownBy v4 none := by rw [hn]; exact only_alloc (only_refl _ _) _
            have K9_4 := Lib.hid (show Blk v4 v3.heap.size 56 #[.int .i64 0, .int .i64 0, .int .i64 0] from by rw [hn]; exact Blk.new _ _ _)
            have G4 := Lib.hid (only_trans G3.out gn)
            have L9 := Lib.hid (show w3.heap.size ≤ v3.heap.size from G3.out.size)
            have K10_4 := Lib.hid (K10_3.out.only gn (by simp))
            have NE := Lib.hid (show v0.heap.size ≠ v3.heap.size from by have := K10_3.out.lt; omega)
            rw [← hn] at hHeld ⊢
            clear hn gn
            obtain ⟨a0, a1, a2, af0, af1, af2⟩ := box3c K9_4.out
            obtain ⟨c0, c1, c2, cf0, cf1, cf2⟩ := box3c K10_4.out
            have ne1 : ¬ v3.heap.size = v0.heap.size := by have := NE.out; omega
            have ne2 : ¬ v0.heap.size = v3.heap.size := by have := NE.out; omega
            obtain ⟨y1, hy1⟩ : ∃ W, W = ((v4.setCell ⟨v3.heap.size, 0, none⟩ (.int .i64 s0)).setCell ⟨v3.heap.size, 1, none⟩ (.int .i64 s1)).setCell ⟨v3.heap.size, 2, none⟩ (.int .i64 s2) := ⟨_, rfl⟩
            have A1 := Lib.hid (show Blk y1 v3.heap.size 56 #[.int .i64 s0, .int .i64 s1, .int .i64 s2] from by rw [hy1]; exact ((K9_4.out.put 0 (.int .i64 s0)).put 1 (.int .i64 s1)).put 2 (.int .i64 s2))
            have C1 := Lib.hid (show Blk y1 v0.heap.size 58 #[.int .i64 0, .int .i64 0, .int .i64 0] from by rw [hy1]; exact ((K10_4.out.far (p := ⟨v3.heap.size, 0, none⟩) ne2 _).far (p := ⟨v3.heap.size, 1, none⟩) ne2 _).far (p := ⟨v3.heap.size, 2, none⟩) ne2 _)
            have GY := Lib.hid (show w3.grownBy y1 none from by rw [hy1]; exact only_putc (only_putc (only_putc G4.out (p := ⟨v3.heap.size, 0, none⟩) L9.out _) (p := ⟨v3.heap.size, 1, none⟩) L9.out _) (p := ⟨v3.heap.size, 2, none⟩) L9.out _)
            refine wpAnyH_ready (rs := [11]) (by kernel_rfl) (by simp) ?_
            refine AllReadyH.cons (o := _) rfl (fun K hK => ?_) AllReadyH.nil
            go_simp
            refine hK.out _ _ (by rw [← hy1]; exact HS3.out _ GY.out) (fun hHeld => ?_)
            clear hK K
            try simp only [Act.put, List.setIfInBounds_toArray, List.set_cons_zero, List.set_cons_succ]
            rw [← hy1] at hHeld ⊢
            clear hy1 a0 a1 a2 af0 af1 af2 c0 c1 c2 cf0 cf1 cf2
            obtain ⟨c0, c1, c2, cf0, cf1, cf2⟩ := box3c C1.out
            obtain ⟨y2, hy2⟩ : ∃ W, W = ((y1.setCell ⟨v0.heap.size, 0, none⟩ (.int .i64 s0)).setCell ⟨v0.heap.size, 1, none⟩ (.int .i64 s1)).setCell ⟨v0.heap.size, 2, none⟩ (.int .i64 s2) := ⟨_, rfl⟩
            have C2 := (show Blk y2 v0.heap.size 58 #[.int .i64 s0, .int .i64 s1, .int .i64 s2] from by rw [hy2]; exact ((C1.out.put 0 (.int .i64 s0)).put 1 (.int .i64 s1)).put 2 (.int .i64 s2))
            have A2 := (show Blk y2 v3.heap.size 56 #[.int .i64 s0, .int .i64 s1, .int .i64 s2] from by rw [hy2]; exact ((A1.out.far (p := ⟨v0.heap.size, 0, none⟩) ne1 _).far (p := ⟨v0.heap.size, 1, none⟩) ne1 _).far (p := ⟨v0.heap.size, 2, none⟩) ne1 _)
            have GZ := (show w3.grownBy y2 none from by rw [hy2]; exact only_putc (only_putc (only_putc GY.out (p := ⟨v0.heap.size, 0, none⟩) L10.out _) (p := ⟨v0.heap.size, 1, none⟩) L10.out _) (p := ⟨v0.heap.size, 2, none⟩) L10.out _)
            replace C2 := Lib.hid C2
            replace A2 := Lib.hid A2
            replace GZ := Lib.hid GZ
            refine wpAnyH_ready (rs := [12]) (by kernel_rfl) (by simp) ?_
            refine AllReadyH.cons (o := _) rfl (fun K hK => ?_) AllReadyH.nil
            go_simp
            refine hK.out _ _ (by rw [← hy2]; exact HS3.out _ GZ.out) (fun hHeld => ?_)
            clear hK K
            try simp only [Act.put, List.setIfInBounds_toArray, List.set_cons_zero, List.set_cons_succ]
            rw [← hy2] at hHeld ⊢
            clear hy2 c0 c1 c2 cf0 cf1 cf2
            refine wpAnyH_done (by kernel_rfl) ?_ _
            go_wp2_with (fail)
            go_meet
            case rel => exact ⟨_, _, rfl, rfl, GZ.out, ⟨A2.out.cell 0, A2.out.cell 1, A2.out.cell 2⟩, ⟨C2.out.cell 0, C2.out.cell 1, C2.out.cell 2⟩⟩
        · go_simp
          refine hK.out _ _ (HS3.out _ (only_alloc G2.out (.cells #[.int .i64 0, .int .i64 0, .int .i64 0] 56))) (fun hHeld => ?_)
          clear hK K
          try simp only [Act.put, List.setIfInBounds_toArray, List.set_cons_zero, List.set_cons_succ]
          obtain ⟨v3, hn⟩ : ∃ W, W = v2.alloc (.cells #[.int .i64 0, .int .i64 0, .int .i64 0] 56) := ⟨_, rfl⟩
          have gn : v2.grownBy v3 none := by rw [hn]; exact only_alloc (only_refl _ _) _
          have K9_3 := Lib.hid (show Blk v3 v2.heap.size 56 #[.int .i64 0, .int .i64 0, .int .i64 0] from by rw [hn]; exact Blk.new _ _ _)
          have G3 := Lib.hid (only_trans G2.out gn)
          have L9 := Lib.hid (show w3.heap.size ≤ v2.heap.size from G2.out.size)
          have K10_3 := Lib.hid (K10_2.out.only gn (by simp))
          have NE := Lib.hid (show v0.heap.size ≠ v2.heap.size from by have := K10_2.out.lt; omega)
          rw [← hn] at hHeld ⊢
          clear hn gn
          refine wpAnyH_ready (rs := [8]) (by kernel_rfl) (by simp) ?_
          refine AllReadyH.cons (o := _) rfl (fun K hK => ?_) AllReadyH.nil
          · go_simp
            refine (HA.out _ G3.out).mono ?_
            rintro e v4 ⟨rfl, gn⟩
            try simp only []
            have G4 := Lib.hid (only_trans G3.out gn)
            have K10_4 := Lib.hid (K10_3.out.only gn (by simp))
            have K9_4 := Lib.hid (K9_3.out.only gn (by simp))
            clear gn
            refine hK.out _ _ (HS3.out _ G4.out) (fun hHeld => ?_)
            clear hK K
            try simp only [Act.put, List.setIfInBounds_toArray, List.set_cons_zero, List.set_cons_succ]
            obtain ⟨a0, a1, a2, af0, af1, af2⟩ := box3c K9_4.out
            obtain ⟨c0, c1, c2, cf0, cf1, cf2⟩ := box3c K10_4.out
            have ne1 : ¬ v2.heap.size = v0.heap.size := by have := NE.out; omega
            have ne2 : ¬ v0.heap.size = v2.heap.size := by have := NE.out; omega
            obtain ⟨y1, hy1⟩ : ∃ W, W = ((v4.setCell ⟨v2.heap.size, 0, none⟩ (.int .i64 s0)).setCell ⟨v2.heap.size, 1, none⟩ (.int .i64 s1)).setCell ⟨v2.heap.size, 2, none⟩ (.int .i64 s2) := ⟨_, rfl⟩
            have A1 := Lib.hid (show Blk y1 v2.heap.size 56 #[.int .i64 s0, .int .i64 s1, .int .i64 s2] from by rw [hy1]; exact ((K9_4.out.put 0 (.int .i64 s0)).put 1 (.int .i64 s1)).put 2 (.int .i64 s2))
            have C1 := Lib.hid (show Blk y1 v0.heap.size 58 #[.int .i64 0, .int .i64 0, .int .i64 0] from by rw [hy1]; exact ((K10_4.out.far (p := ⟨v2.heap.size, 0, none⟩) ne2 _).far (p := ⟨v2.heap.size, 1, none⟩) ne2 _).far (p := ⟨v2.heap.size, 2, none⟩) ne2 _)
            have GY := Lib.hid (show w3.grownBy y1 none from by rw [hy1]; exact only_putc (only_putc (only_putc G4.out (p := ⟨v2.heap.size, 0, none⟩) L9.out _) (p := ⟨v2.heap.size, 1, none⟩) L9.out _) (p := ⟨v2.heap.size, 2, none⟩) L9.out _)
            refine wpAnyH_ready (rs := [11]) (by kernel_rfl) (by simp) ?_
            refine AllReadyH.cons (o := _) rfl (fun K hK => ?_) AllReadyH.nil
            go_simp
            refine hK.out _ _ (by rw [← hy1]; exact HS3.out _ GY.out) (fun hHeld => ?_)
            clear hK K
            try simp only [Act.put, List.setIfInBounds_toArray, List.set_cons_zero, List.set_cons_succ]
            rw [← hy1] at hHeld ⊢
            clear hy1 a0 a1 a2 af0 af1 af2 c0 c1 c2 cf0 cf1 cf2
            obtain ⟨c0, c1, c2, cf0, cf1, cf2⟩ := box3c C1.out
            obtain ⟨y2, hy2⟩ : ∃ W, W = ((y1.setCell ⟨v0.heap.size, 0, none⟩ (.int .i64 s0)).setCell ⟨v0.heap.size, 1, none⟩ (.int .i64 s1)).setCell ⟨v0.heap.size, 2, none⟩ (.int .i64 s2) := ⟨_, rfl⟩
            have C2 := (show Blk y2 v0.heap.size 58 #[.int .i64 s0, .int .i64 s1, .int .i64 s2] from by rw [hy2]; exact ((C1.out.put 0 (.int .i64 s0)).put 1 (.int .i64 s1)).put 2 (.int .i64 s2))
            have A2 := (show Blk y2 v2.heap.size 56 #[.int .i64 s0, .int .i64 s1, .int .i64 s2] from by rw [hy2]; exact ((A1.out.far (p := ⟨v0.heap.size, 0, none⟩) ne1 _).far (p := ⟨v0.heap.size, 1, none⟩) ne1 _).far (p := ⟨v0.heap.size, 2, none⟩) ne1 _)
            have GZ := (show w3.grownBy y2 none from by rw [hy2]; exact only_putc (only_putc (only_putc GY.out (p := ⟨v0.heap.size, 0, none⟩) L10.out _) (p := ⟨v0.heap.size, 1, none⟩) L10.out _) (p := ⟨v0.heap.size, 2, none⟩) L10.out _)
            replace C2 := Lib.hid C2
            replace A2 := Lib.hid A2
            replace GZ := Lib.hid GZ
            refine wpAnyH_ready (rs := [12]) (by kernel_rfl) (by simp) ?_
            refine AllReadyH.cons (o := _) rfl (fun K hK => ?_) AllReadyH.nil
            go_simp
            refine hK.out _ _ (by rw [← hy2]; exact HS3.out _ GZ.out) (fun hHeld => ?_)
            clear hK K
            try simp only [Act.put, List.setIfInBounds_toArray, List.set_cons_zero, List.set_cons_succ]
            rw [← hy2] at hHeld ⊢
            clear hy2 c0 c1 c2 cf0 cf1 cf2
            refine wpAnyH_done (by kernel_rfl) ?_ _
            go_wp2_with (fail)
            go_meet
            case rel => exact ⟨_, _, rfl, rfl, GZ.out, ⟨A2.out.cell 0, A2.out.cell 1, A2.out.cell 2⟩, ⟨C2.out.cell 0, C2.out.cell 1, C2.out.cell 2⟩⟩
      · go_simp
        refine hK.out _ _ (HS3.out _ (only_alloc G1.out (.cells #[.int .i64 0, .int .i64 0, .int .i64 0] 56))) (fun hHeld => ?_)
        clear hK K
        try simp only [Act.put, List.setIfInBounds_toArray, List.set_cons_zero, List.set_cons_succ]
        obtain ⟨v2, hn⟩ : ∃ W, W = v1.alloc (.cells #[.int .i64 0, .int .i64 0, .int .i64 0] 56) := ⟨_, rfl⟩
        have gn : v1.grownBy v2 none := by rw [hn]; exact only_alloc (only_refl _ _) _
        have K9_2 := Lib.hid (show Blk v2 v1.heap.size 56 #[.int .i64 0, .int .i64 0, .int .i64 0] from by rw [hn]; exact Blk.new _ _ _)
        have G2 := Lib.hid (only_trans G1.out gn)
        have L9 := Lib.hid (show w3.heap.size ≤ v1.heap.size from G1.out.size)
        have K10_2 := Lib.hid (K10_1.out.only gn (by simp))
        have NE := Lib.hid (show v0.heap.size ≠ v1.heap.size from by have := K10_1.out.lt; omega)
        rw [← hn] at hHeld ⊢
        clear hn gn
        refine wpAnyH_ready (rs := [2]) (by kernel_rfl) (by simp) ?_
        refine AllReadyH.cons (o := _) rfl (fun K hK => ?_) AllReadyH.nil
        · go_simp
          refine (HB.out _ G2.out).mono ?_
          rintro e v3 ⟨rfl, gn⟩
          try simp only []
          have G3 := Lib.hid (only_trans G2.out gn)
          have K10_3 := Lib.hid (K10_2.out.only gn (by simp))
          have K9_3 := Lib.hid (K9_2.out.only gn (by simp))
          clear gn
          refine hK.out _ _ (HS3.out _ G3.out) (fun hHeld => ?_)
          clear hK K
          try simp only [Act.put, List.setIfInBounds_toArray, List.set_cons_zero, List.set_cons_succ]
          refine wpAnyH_ready (rs := [8]) (by kernel_rfl) (by simp) ?_
          refine AllReadyH.cons (o := _) rfl (fun K hK => ?_) AllReadyH.nil
          · go_simp
            refine (HA.out _ G3.out).mono ?_
            rintro e v4 ⟨rfl, gn⟩
            try simp only []
            have G4 := Lib.hid (only_trans G3.out gn)
            have K10_4 := Lib.hid (K10_3.out.only gn (by simp))
            have K9_4 := Lib.hid (K9_3.out.only gn (by simp))
            clear gn
            refine hK.out _ _ (HS3.out _ G4.out) (fun hHeld => ?_)
            clear hK K
            try simp only [Act.put, List.setIfInBounds_toArray, List.set_cons_zero, List.set_cons_succ]
            obtain ⟨a0, a1, a2, af0, af1, af2⟩ := box3c K9_4.out
            obtain ⟨c0, c1, c2, cf0, cf1, cf2⟩ := box3c K10_4.out
            have ne1 : ¬ v1.heap.size = v0.heap.size := by have := NE.out; omega
            have ne2 : ¬ v0.heap.size = v1.heap.size := by have := NE.out; omega
            obtain ⟨y1, hy1⟩ : ∃ W, W = ((v4.setCell ⟨v1.heap.size, 0, none⟩ (.int .i64 s0)).setCell ⟨v1.heap.size, 1, none⟩ (.int .i64 s1)).setCell ⟨v1.heap.size, 2, none⟩ (.int .i64 s2) := ⟨_, rfl⟩
            have A1 := Lib.hid (show Blk y1 v1.heap.size 56 #[.int .i64 s0, .int .i64 s1, .int .i64 s2] from by rw [hy1]; exact ((K9_4.out.put 0 (.int .i64 s0)).put 1 (.int .i64 s1)).put 2 (.int .i64 s2))
            have C1 := Lib.hid (show Blk y1 v0.heap.size 58 #[.int .i64 0, .int .i64 0, .int .i64 0] from by rw [hy1]; exact ((K10_4.out.far (p := ⟨v1.heap.size, 0, none⟩) ne2 _).far (p := ⟨v1.heap.size, 1, none⟩) ne2 _).far (p := ⟨v1.heap.size, 2, none⟩) ne2 _)
            have GY := Lib.hid (show w3.grownBy y1 none from by rw [hy1]; exact only_putc (only_putc (only_putc G4.out (p := ⟨v1.heap.size, 0, none⟩) L9.out _) (p := ⟨v1.heap.size, 1, none⟩) L9.out _) (p := ⟨v1.heap.size, 2, none⟩) L9.out _)
            refine wpAnyH_ready (rs := [11]) (by kernel_rfl) (by simp) ?_
            refine AllReadyH.cons (o := _) rfl (fun K hK => ?_) AllReadyH.nil
            go_simp
            refine hK.out _ _ (by rw [← hy1]; exact HS3.out _ GY.out) (fun hHeld => ?_)
            clear hK K
            try simp only [Act.put, List.setIfInBounds_toArray, List.set_cons_zero, List.set_cons_succ]
            rw [← hy1] at hHeld ⊢
            clear hy1 a0 a1 a2 af0 af1 af2 c0 c1 c2 cf0 cf1 cf2
            obtain ⟨c0, c1, c2, cf0, cf1, cf2⟩ := box3c C1.out
            obtain ⟨y2, hy2⟩ : ∃ W, W = ((y1.setCell ⟨v0.heap.size, 0, none⟩ (.int .i64 s0)).setCell ⟨v0.heap.size, 1, none⟩ (.int .i64 s1)).setCell ⟨v0.heap.size, 2, none⟩ (.int .i64 s2) := ⟨_, rfl⟩
            have C2 := (show Blk y2 v0.heap.size 58 #[.int .i64 s0, .int .i64 s1, .int .i64 s2] from by rw [hy2]; exact ((C1.out.put 0 (.int .i64 s0)).put 1 (.int .i64 s1)).put 2 (.int .i64 s2))
            have A2 := (show Blk y2 v1.heap.size 56 #[.int .i64 s0, .int .i64 s1, .int .i64 s2] from by rw [hy2]; exact ((A1.out.far (p := ⟨v0.heap.size, 0, none⟩) ne1 _).far (p := ⟨v0.heap.size, 1, none⟩) ne1 _).far (p := ⟨v0.heap.size, 2, none⟩) ne1 _)
            have GZ := (show w3.grownBy y2 none from by rw [hy2]; exact only_putc (only_putc (only_putc GY.out (p := ⟨v0.heap.size, 0, none⟩) L10.out _) (p := ⟨v0.heap.size, 1, none⟩) L10.out _) (p := ⟨v0.heap.size, 2, none⟩) L10.out _)
            replace C2 := Lib.hid C2
            replace A2 := Lib.hid A2
            replace GZ := Lib.hid GZ
            refine wpAnyH_ready (rs := [12]) (by kernel_rfl) (by simp) ?_
            refine AllReadyH.cons (o := _) rfl (fun K hK => ?_) AllReadyH.nil
            go_simp
            refine hK.out _ _ (by rw [← hy2]; exact HS3.out _ GZ.out) (fun hHeld => ?_)
            clear hK K
            try simp only [Act.put, List.setIfInBounds_toArray, List.set_cons_zero, List.set_cons_succ]
            rw [← hy2] at hHeld ⊢
            clear hy2 c0 c1 c2 cf0 cf1 cf2
            refine wpAnyH_done (by kernel_rfl) ?_ _
            go_wp2_with (fail)
            go_meet
            case rel => exact ⟨_, _, rfl, rfl, GZ.out, ⟨A2.out.cell 0, A2.out.cell 1, A2.out.cell 2⟩, ⟨C2.out.cell 0, C2.out.cell 1, C2.out.cell 2⟩⟩
  case rest =>
    obtain ⟨gx, gy, rfl, rfl, GQ, ⟨x0, x1, x2⟩, ⟨y0, y1, y2⟩⟩ := hcut
    have GC := Lib.hid (only_trans G3.out GQ)
    have X5 := Lib.hid (X3.out.grown GQ)
    have HDU := Lib.hid (fun W (q : PX W b P c) => (show Calls Tryz.prog 26 #[.pointer (some ⟨b, 0, none⟩), .int .i64 tick] W (fun e w' => e = .returned (.agg #[.int .i64 rd1, .int .i64 rd2]) ∧ W.grownBy w' none) from HPD.out W b P q))
    clear HPD HPB HRB HRD HB HA HS3 HD HN HFA GQ X2 G2 HCV
    try clear e0 e2
    have r0 := fun d os => (HCL.out _ (only_trans GC.out (only_re wc d os))).1
    have r1 := fun d os => (HCL.out _ (only_trans GC.out (only_re wc d os))).2.1
    have r2 := fun d os => (HCL.out _ (only_trans GC.out (only_re wc d os))).2.2.1
    have r3 := fun d os => (HCL.out _ (only_trans GC.out (only_re wc d os))).2.2.2
    have l0 := fun d os => cell_regrown x0 d os
    have l1 := fun d os => cell_regrown x1 d os
    have l2 := fun d os => cell_regrown x2 d os
    have m0 := fun d os => cell_regrown y0 d os
    have m1 := fun d os => cell_regrown y1 d os
    have m2 := fun d os => cell_regrown y2 d os
    have HXQ := Lib.hid (fun dd os => X5.out.grown (only_re wc dd os))
    have HGQ := Lib.hid (fun dd os => only_trans GC.out (only_re wc dd os))
    clear x0 x1 x2 y0 y1 y2
    go_upto_region 6 with (fail)
    refine wp_region_quiet_below (by kernel_rfl) (by kernel_rfl) ?_
    repeat (go_big_quiet_step ((first
      | (go_at_call 8; with_reducible exact rg1 (HL.out _))
      | (go_at_call 22; with_reducible exact rg1 (HPR.out _ _ _ (HXQ.out _ _)))
      | (go_at_call 23; with_reducible exact rg1 (HRR.out _ (HGQ.out _ _)))
      | (go_at_call 24; with_reducible exact rg1 (HPO.out _ _ _ (HXQ.out _ _)))
      | (go_at_call 25; with_reducible exact rg1 (HRO.out _ (HGQ.out _ _)))
      | (go_at_call 26; with_reducible exact rg1 (HDU.out _ (HXQ.out _ _))))))
    refine wpQuiet_nil ?_
    intro w6 hw6
    obtain ⟨p6, rfl⟩ := hw6
    have G6 := Lib.hid (only_trans GC.out (only_re wc p6.d p6.os))
    clear r0 r1 r2 r3 l0 l1 l2 m0 m1 m2
    generalize grow (redrawn wc p6.d) p6.os = w6 at G6 ⊢
    go_wp2
    go_ret
    exact ⟨by first | rfl | simp, only_trans HG.out G6.out⟩
theorem planticks_walk (c : Cf) (tick : Int) (w : World) (hh : CfV w c ∧ FitCf c) (h1 : fitI tick) :
    Calls Tryz.prog 4 #[cfv c, .int .i64 tick] w fun e w' => e = .returned (.bool true) ∧ Below w.heap.size w w' := by
  refine Calls.mono (?_ : Calls Tryz.prog 4 #[cfv c, .int .i64 tick] w fun e w' => e = .returned (.bool true) ∧ w.grownBy w' none) fun e w' h => ⟨h.1, below_of_only h.2 (Nat.le_refl _) (by simp)⟩
  obtain ⟨hc, hf⟩ := hh
  by_cases h0 : fltL c = []
  · exact planticks_c c tick w hc hf h0 (by unfold fitI at h1; omega)
  · exact planticks_no c tick w hc hf h0
end Go.Proofs.YtfhhcpmoaggdmaaGreat
