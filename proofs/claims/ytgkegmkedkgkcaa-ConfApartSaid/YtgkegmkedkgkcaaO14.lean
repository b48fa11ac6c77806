/- The document's word on one fault of one row, by its contract: 2, 4, 8, 10. -/
import Derived.Test.YtgkegmkedkgkcaaO13
namespace Go.Proofs.Ytgkegmkedkgkcaa
open Go.RowKit Go.Lib Go.Sort
set_option linter.unusedVariables false


set_option maxRecDepth 40000 in
set_option maxHeartbeats 3200000 in
theorem has2_any (c : Cf) (w : World) (hc : CfV w c) (hf : FitCf c) (row : Nat) (h32 : row ≤ 1000) : Calls Try.prog 14 #[cfv c, .int .i64 2, .int .i64 row] w fun e w' => e = .returned (.bool (decide (1 ≤ row ∧ row ≤ c.cn) && badC (c.cd (row - 1)))) ∧ w.grownBy w' none := by
  obtain ⟨W1, hW, G0, hA⟩ := box1 w 26 #[.int .i64 c.fr, .slice c.wA c.wn c.wc, .slice c.sA c.sn c.sc, .slice c.cA c.cn c.cc]
  obtain ⟨k0, k1, k2, k3⟩ := cf_cells (c := c) hA
  replace G0 := Lib.hid G0
  show Calls Try.prog 14 #[.agg #[.int .i64 c.fr, .slice c.wA c.wn c.wc, .slice c.sA c.sn c.sc, .slice c.cA c.cn c.cc], .int .i64 2, .int .i64 row] w _
  clear hA
  by_cases hr0 : row = 0
  · subst hr0
    clear hc hf h32
    go_enter Try.func14, Try.ntmps14
    go_upto_region 1 with (fail)
    rw [← hW]
    clear hW
    go_wp2_with (fail)
    go_ret
    exact ⟨rfl, G0.out⟩
  by_cases hin : row ≤ c.cn
  · obtain ⟨i, rfl⟩ : ∃ i, row = i + 1 := ⟨row - 1, by omega⟩
    have hrow := hc.2.2
    have hfit := hf.2.2.2
    have hi : i < c.cn := by omega
    have hq := fun (W : World) (hW' : W1.grownBy W none) => (show Calls Try.prog 35 #[.agg #[.int .i64 (c.cd i).base, .int .i64 (c.cd i).size, .int .i64 (c.cd i).ring, .int .i64 (c.cd i).at', .int .i64 (c.cd i).quota, .int .i64 (c.cd i).queue, .int .i64 (c.cd i).mac, .int .i64 (c.cd i).chan, .int .i64 (c.cd i).first, .int .i64 (c.cd i).secs]] W (fun e w' => e = .returned (.bool (badC (c.cd i))) ∧ W.grownBy w' none) from rbad_any (c.cd i) (hfit.2.2 i hi) W)
    have HQ := Lib.hid hq
    obtain ⟨b, off, hA, hb, hcl⟩ := (hrow.grown G0.out).2 (by omega)
    have hcell := hcl i hi
    have hres : (decide (1 ≤ i + 1 ∧ i + 1 ≤ c.cn) && badC (c.cd (i + 1 - 1))) = badC (c.cd i) := by
      rw [Nat.add_sub_cancel, decide_eq_true (by omega), Bool.true_and]
    rw [hres]
    have hw : IntKind.i64.wrap (((i + 1 : Nat) : Int) - 1) = (i : Int) := by rw [IntKind.wrap_i64]; omega
    generalize ((i + 1 : Nat) : Int) = r at hw HQ ⊢
    obtain ⟨z, hz⟩ : ∃ z, z = (badC (c.cd i)) := ⟨_, rfl⟩
    rw [← hz] at HQ ⊢
    clear hz hres hq
    obtain ⟨fr, wA, wn, wc, wd, sA, sn, sc, sd, cA, cn, cc, cd⟩ := c
    simp only at hA hcell hi k0 k1 k2 k3 HQ hW ⊢
    subst hA
    have i1 : (i : Int) < (cn : Int) := by omega
    have hd1 : decide ((i : Int) < (cn : Int)) = true := decide_eq_true i1
    have i0 : (0 : Int) ≤ (i : Int) := by omega
    have hd0 : decide ((0 : Int) ≤ (i : Int)) = true := decide_eq_true i0
    clear hrow hcl hfit hc hf h32 hr0 hin
    obtain ⟨x, hx⟩ : ∃ x, x = cd i := ⟨_, rfl⟩
    rw [← hx] at hcell HQ
    clear hx
    obtain ⟨x1, x2, x3, x4, x5, x6, x7, x8, x9, x10⟩ := x
    obtain ⟨c0, c1, c2, c3, c4, c5, c6, c7, c8, c9⟩ := hcell
    simp only at c0 c1 c2 c3 c4 c5 c6 c7 c8 c9 HQ
    go_enter Try.func14, Try.ntmps14
    go_upto_region 1 with (fail)
    rw [← hW]
    clear hW
    go_wp2_with (go_at_call 35; (with_reducible refine (HQ.out W1 (only_refl _ _)).mono ?_); rintro e w2 ⟨rfl, g2⟩; have G2 := Lib.hid (only_trans G0.out g2); clear g2)
    go_ret
    exact ⟨rfl, G2.out⟩
  · obtain ⟨i, rfl⟩ : ∃ i, row = i + 1 := ⟨row - 1, by omega⟩
    have hres : (decide (1 ≤ i + 1 ∧ i + 1 ≤ c.cn) && badC (c.cd (i + 1 - 1))) = false := by
      rw [decide_eq_false (by omega), Bool.false_and]
    rw [hres]
    have hw : IntKind.i64.wrap (((i + 1 : Nat) : Int) - 1) = (i : Int) := by rw [IntKind.wrap_i64]; omega
    generalize ((i + 1 : Nat) : Int) = r at hw ⊢
    have i1 : ¬ (i : Int) < (c.cn : Int) := by omega
    have hd1 : decide ((i : Int) < (c.cn : Int)) = false := decide_eq_false i1
    have i0 : (0 : Int) ≤ (i : Int) := by omega
    have hd0 : decide ((0 : Int) ≤ (i : Int)) = true := decide_eq_true i0
    clear hres hc hf h32 hr0 hin
    go_enter Try.func14, Try.ntmps14
    go_upto_region 1 with (fail)
    rw [← hW]
    clear hW
    go_wp2_with (fail)
    go_ret
    exact ⟨rfl, G0.out⟩

set_option maxRecDepth 40000 in
set_option maxHeartbeats 3200000 in
theorem has4_any (c : Cf) (w : World) (hc : CfV w c) (hf : FitCf c) (row : Nat) (h32 : row ≤ 1000) : Calls Try.prog 14 #[cfv c, .int .i64 4, .int .i64 row] w fun e w' => e = .returned (.bool (decide (1 ≤ row ∧ row ≤ c.wn) && badW c (c.wd (row - 1)))) ∧ w.grownBy w' none := by
  obtain ⟨W1, hW, G0, hA⟩ := box1 w 26 #[.int .i64 c.fr, .slice c.wA c.wn c.wc, .slice c.sA c.sn c.sc, .slice c.cA c.cn c.cc]
  obtain ⟨k0, k1, k2, k3⟩ := cf_cells (c := c) hA
  replace G0 := Lib.hid G0
  show Calls Try.prog 14 #[.agg #[.int .i64 c.fr, .slice c.wA c.wn c.wc, .slice c.sA c.sn c.sc, .slice c.cA c.cn c.cc], .int .i64 4, .int .i64 row] w _
  clear hA
  by_cases hr0 : row = 0
  · subst hr0
    clear hc hf h32
    go_enter Try.func14, Try.ntmps14
    go_upto_region 1 with (fail)
    rw [← hW]
    clear hW
    go_upto_region 14 with (fail)
    have j0 := fun dd os => cell_regrown k0 dd os
    have j1 := fun dd os => cell_regrown k1 dd os
    have j2 := fun dd os => cell_regrown k2 dd os
    have j3 := fun dd os => cell_regrown k3 dd os
    clear k0 k1 k2 k3
    refine wp_region_quiet_below (by kernel_rfl) (by kernel_rfl) ?_
    repeat (go_big_quiet_step ((fail)))
    refine wpQuiet_nil ?_
    intro w3 hw3
    obtain ⟨p, rfl⟩ := hw3
    have G3 := Lib.hid (only_trans G0.out (only_re W1 p.d p.os))
    clear j0 j1 j2 j3
    generalize grow (redrawn W1 p.d) p.os = w3 at G3 ⊢
    go_wp2
    go_ret
    exact ⟨by simp, G3.out⟩
  by_cases hin : row ≤ c.wn
  · obtain ⟨i, rfl⟩ : ∃ i, row = i + 1 := ⟨row - 1, by omega⟩
    have hrow := hc.1
    have hfit := hf.2.1
    have hi : i < c.wn := by omega
    have hq := fun (W : World) (hW' : W1.grownBy W none) => (show Calls Try.prog 37 #[.agg #[.int .i64 c.fr, .slice c.wA c.wn c.wc, .slice c.sA c.sn c.sc, .slice c.cA c.cn c.cc], .agg #[.int .i64 (c.wd i).1, .int .i64 (c.wd i).2.1, .int .i64 (c.wd i).2.2]] W (fun e w' => e = .returned (.bool (badW c (c.wd i))) ∧ W.grownBy w' none) from rbadw_any c (c.wd i) W)
    have HQ := Lib.hid hq
    obtain ⟨b, off, hA, hb, hcl⟩ := (hrow.grown G0.out).2 (by omega)
    have hcell := hcl i hi
    have hres : (decide (1 ≤ i + 1 ∧ i + 1 ≤ c.wn) && badW c (c.wd (i + 1 - 1))) = badW c (c.wd i) := by
      rw [Nat.add_sub_cancel, decide_eq_true (by omega), Bool.true_and]
    rw [hres]
    have hw : IntKind.i64.wrap (((i + 1 : Nat) : Int) - 1) = (i : Int) := by rw [IntKind.wrap_i64]; omega
    generalize ((i + 1 : Nat) : Int) = r at hw HQ ⊢
    obtain ⟨z, hz⟩ : ∃ z, z = (badW c (c.wd i)) := ⟨_, rfl⟩
    rw [← hz] at HQ ⊢
    clear hz hres hq
    obtain ⟨fr, wA, wn, wc, wd, sA, sn, sc, sd, cA, cn, cc, cd⟩ := c
    simp only at hA hcell hi k0 k1 k2 k3 HQ hW ⊢
    subst hA
    have i1 : (i : Int) < (wn : Int) := by omega
    have hd1 : decide ((i : Int) < (wn : Int)) = true := decide_eq_true i1
    have i0 : (0 : Int) ≤ (i : Int) := by omega
    have hd0 : decide ((0 : Int) ≤ (i : Int)) = true := decide_eq_true i0
    clear hrow hcl hfit hc hf h32 hr0 hin
    obtain ⟨x, hx⟩ : ∃ x, x = wd i := ⟨_, rfl⟩
    rw [← hx] at hcell HQ
    clear hx
    obtain ⟨x1, x2, x3⟩ := x
    obtain ⟨c0, c1, c2⟩ := hcell
    simp only at c0 c1 c2 HQ
    go_enter Try.func14, Try.ntmps14
    go_upto_region 1 with (fail)
    rw [← hW]
    clear hW
    go_upto_region 14 with (fail)
    have j0 := fun dd os => cell_regrown k0 dd os
    have j1 := fun dd os => cell_regrown k1 dd os
    have j2 := fun dd os => cell_regrown k2 dd os
    have j3 := fun dd os => cell_regrown k3 dd os
    have m0 := fun dd os => cell_regrown c0 dd os
    have m1 := fun dd os => cell_regrown c1 dd os
    have m2 := fun dd os => cell_regrown c2 dd os
    clear k0 k1 k2 k3 c0 c1 c2
    refine wp_region_quiet_below (by kernel_rfl) (by kernel_rfl) ?_
    repeat (go_big_quiet_step ((first | (go_at_call 37; with_reducible exact rg1 (HQ.out _ (only_re W1 _ _))))))
    refine wpQuiet_nil ?_
    intro w3 hw3
    obtain ⟨p, rfl⟩ := hw3
    have G3 := Lib.hid (only_trans G0.out (only_re W1 p.d p.os))
    clear j0 j1 j2 j3 m0 m1 m2
    generalize grow (redrawn W1 p.d) p.os = w3 at G3 ⊢
    go_wp2
    go_ret
    exact ⟨rfl, G3.out⟩
  · obtain ⟨i, rfl⟩ : ∃ i, row = i + 1 := ⟨row - 1, by omega⟩
    have hres : (decide (1 ≤ i + 1 ∧ i + 1 ≤ c.wn) && badW c (c.wd (i + 1 - 1))) = false := by
      rw [decide_eq_false (by omega), Bool.false_and]
    rw [hres]
    have hw : IntKind.i64.wrap (((i + 1 : Nat) : Int) - 1) = (i : Int) := by rw [IntKind.wrap_i64]; omega
    generalize ((i + 1 : Nat) : Int) = r at hw ⊢
    have i1 : ¬ (i : Int) < (c.wn : Int) := by omega
    have hd1 : decide ((i : Int) < (c.wn : Int)) = false := decide_eq_false i1
    have i0 : (0 : Int) ≤ (i : Int) := by omega
    have hd0 : decide ((0 : Int) ≤ (i : Int)) = true := decide_eq_true i0
    clear hres hc hf h32 hr0 hin
    go_enter Try.func14, Try.ntmps14
    go_upto_region 1 with (fail)
    rw [← hW]
    clear hW
    go_upto_region 14 with (fail)
    have j0 := fun dd os => cell_regrown k0 dd os
    have j1 := fun dd os => cell_regrown k1 dd os
    have j2 := fun dd os => cell_regrown k2 dd os
    have j3 := fun dd os => cell_regrown k3 dd os
    clear k0 k1 k2 k3
    refine wp_region_quiet_below (by kernel_rfl) (by kernel_rfl) ?_
    repeat (go_big_quiet_step ((fail)))
    refine wpQuiet_nil ?_
    intro w3 hw3
    obtain ⟨p, rfl⟩ := hw3
    have G3 := Lib.hid (only_trans G0.out (only_re W1 p.d p.os))
    clear j0 j1 j2 j3
    generalize grow (redrawn W1 p.d) p.os = w3 at G3 ⊢
    go_wp2
    go_ret
    exact ⟨by simp, G3.out⟩

set_option maxRecDepth 40000 in
set_option maxHeartbeats 3200000 in
theorem has8_any (c : Cf) (w : World) (hc : CfV w c) (hf : FitCf c) (row : Nat) (h32 : row ≤ 1000) : Calls Try.prog 14 #[cfv c, .int .i64 8, .int .i64 row] w fun e w' => e = .returned (.bool (decide (1 ≤ row ∧ row ≤ c.sn) && badS c (c.sd (row - 1)))) ∧ w.grownBy w' none := by
  obtain ⟨W1, hW, G0, hA⟩ := box1 w 26 #[.int .i64 c.fr, .slice c.wA c.wn c.wc, .slice c.sA c.sn c.sc, .slice c.cA c.cn c.cc]
  obtain ⟨k0, k1, k2, k3⟩ := cf_cells (c := c) hA
  replace G0 := Lib.hid G0
  show Calls Try.prog 14 #[.agg #[.int .i64 c.fr, .slice c.wA c.wn c.wc, .slice c.sA c.sn c.sc, .slice c.cA c.cn c.cc], .int .i64 8, .int .i64 row] w _
  clear hA
  by_cases hr0 : row = 0
  · subst hr0
    clear hc hf h32
    go_enter Try.func14, Try.ntmps14
    go_upto_region 1 with (fail)
    rw [← hW]
    clear hW
    go_upto_region 38 with (fail)
    have j0 := fun dd os => cell_regrown k0 dd os
    have j1 := fun dd os => cell_regrown k1 dd os
    have j2 := fun dd os => cell_regrown k2 dd os
    have j3 := fun dd os => cell_regrown k3 dd os
    clear k0 k1 k2 k3
    refine wp_region_quiet_below (by kernel_rfl) (by kernel_rfl) ?_
    repeat (go_big_quiet_step ((fail)))
    refine wpQuiet_nil ?_
    intro w3 hw3
    obtain ⟨p, rfl⟩ := hw3
    have G3 := Lib.hid (only_trans G0.out (only_re W1 p.d p.os))
    clear j0 j1 j2 j3
    generalize grow (redrawn W1 p.d) p.os = w3 at G3 ⊢
    go_wp2
    go_ret
    exact ⟨by simp, G3.out⟩
  by_cases hin : row ≤ c.sn
  · obtain ⟨i, rfl⟩ : ∃ i, row = i + 1 := ⟨row - 1, by omega⟩
    have hrow := hc.2.1
    have hfit := hf.2.2.1
    have hi : i < c.sn := by omega
    have hq := fun (W : World) (hW' : W1.grownBy W none) => (show Calls Try.prog 38 #[.agg #[.int .i64 c.fr, .slice c.wA c.wn c.wc, .slice c.sA c.sn c.sc, .slice c.cA c.cn c.cc], .agg #[.int .i64 (c.sd i).1, .int .i64 (c.sd i).2.1, .int .i64 (c.sd i).2.2]] W (fun e w' => e = .returned (.bool (badS c (c.sd i))) ∧ W.grownBy w' none) from rbads_any c (c.sd i) hf.1 W)
    have HQ := Lib.hid hq
    obtain ⟨b, off, hA, hb, hcl⟩ := (hrow.grown G0.out).2 (by omega)
    have hcell := hcl i hi
    have hres : (decide (1 ≤ i + 1 ∧ i + 1 ≤ c.sn) && badS c (c.sd (i + 1 - 1))) = badS c (c.sd i) := by
      rw [Nat.add_sub_cancel, decide_eq_true (by omega), Bool.true_and]
    rw [hres]
    have hw : IntKind.i64.wrap (((i + 1 : Nat) : Int) - 1) = (i : Int) := by rw [IntKind.wrap_i64]; omega
    generalize ((i + 1 : Nat) : Int) = r at hw HQ ⊢
    obtain ⟨z, hz⟩ : ∃ z, z = (badS c (c.sd i)) := ⟨_, rfl⟩
    rw [← hz] at HQ ⊢
    clear hz hres hq
    obtain ⟨fr, wA, wn, wc, wd, sA, sn, sc, sd, cA, cn, cc, cd⟩ := c
    simp only at hA hcell hi k0 k1 k2 k3 HQ hW ⊢
    subst hA
    have i1 : (i : Int) < (sn : Int) := by omega
    have hd1 : decide ((i : Int) < (sn : Int)) = true := decide_eq_true i1
    have i0 : (0 : Int) ≤ (i : Int) := by omega
    have hd0 : decide ((0 : Int) ≤ (i : Int)) = true := decide_eq_true i0
    clear hrow hcl hfit hc hf h32 hr0 hin
    obtain ⟨x, hx⟩ : ∃ x, x = sd i := ⟨_, rfl⟩
    rw [← hx] at hcell HQ
    clear hx
    obtain ⟨x1, x2, x3⟩ := x
    obtain ⟨c0, c1, c2⟩ := hcell
    simp only at c0 c1 c2 HQ
    go_enter Try.func14, Try.ntmps14
    go_upto_region 1 with (fail)
    rw [← hW]
    clear hW
    go_upto_region 38 with (fail)
    have j0 := fun dd os => cell_regrown k0 dd os
    have j1 := fun dd os => cell_regrown k1 dd os
    have j2 := fun dd os => cell_regrown k2 dd os
    have j3 := fun dd os => cell_regrown k3 dd os
    have m0 := fun dd os => cell_regrown c0 dd os
    have m1 := fun dd os => cell_regrown c1 dd os
    have m2 := fun dd os => cell_regrown c2 dd os
    clear k0 k1 k2 k3 c0 c1 c2
    refine wp_region_quiet_below (by kernel_rfl) (by kernel_rfl) ?_
    repeat (go_big_quiet_step ((first | (go_at_call 38; with_reducible exact rg1 (HQ.out _ (only_re W1 _ _))))))
    refine wpQuiet_nil ?_
    intro w3 hw3
    obtain ⟨p, rfl⟩ := hw3
    have G3 := Lib.hid (only_trans G0.out (only_re W1 p.d p.os))
    clear j0 j1 j2 j3 m0 m1 m2
    generalize grow (redrawn W1 p.d) p.os = w3 at G3 ⊢
    go_wp2
    go_ret
    exact ⟨rfl, G3.out⟩
  · obtain ⟨i, rfl⟩ : ∃ i, row = i + 1 := ⟨row - 1, by omega⟩
    have hres : (decide (1 ≤ i + 1 ∧ i + 1 ≤ c.sn) && badS c (c.sd (i + 1 - 1))) = false := by
      rw [decide_eq_false (by omega), Bool.false_and]
    rw [hres]
    have hw : IntKind.i64.wrap (((i + 1 : Nat) : Int) - 1) = (i : Int) := by rw [IntKind.wrap_i64]; omega
    generalize ((i + 1 : Nat) : Int) = r at hw ⊢
    have i1 : ¬ (i : Int) < (c.sn : Int) := by omega
    have hd1 : decide ((i : Int) < (c.sn : Int)) = false := decide_eq_false i1
    have i0 : (0 : Int) ≤ (i : Int) := by omega
    have hd0 : decide ((0 : Int) ≤ (i : Int)) = true := decide_eq_true i0
    clear hres hc hf h32 hr0 hin
    go_enter Try.func14, Try.ntmps14
    go_upto_region 1 with (fail)
    rw [← hW]
    clear hW
    go_upto_region 38 with (fail)
    have j0 := fun dd os => cell_regrown k0 dd os
    have j1 := fun dd os => cell_regrown k1 dd os
    have j2 := fun dd os => cell_regrown k2 dd os
    have j3 := fun dd os => cell_regrown k3 dd os
    clear k0 k1 k2 k3
    refine wp_region_quiet_below (by kernel_rfl) (by kernel_rfl) ?_
    repeat (go_big_quiet_step ((fail)))
    refine wpQuiet_nil ?_
    intro w3 hw3
    obtain ⟨p, rfl⟩ := hw3
    have G3 := Lib.hid (only_trans G0.out (only_re W1 p.d p.os))
    clear j0 j1 j2 j3
    generalize grow (redrawn W1 p.d) p.os = w3 at G3 ⊢
    go_wp2
    go_ret
    exact ⟨by simp, G3.out⟩

set_option maxRecDepth 40000 in
set_option maxHeartbeats 3200000 in
theorem has10_any (c : Cf) (w : World) (hc : CfV w c) (hf : FitCf c) (row : Nat) (h32 : row ≤ 1000) : Calls Try.prog 14 #[cfv c, .int .i64 10, .int .i64 row] w fun e w' => e = .returned (.bool (decide (1 ≤ row ∧ row ≤ c.cn) && decide (unitsV c row < (c.cd (row - 1)).quota))) ∧ w.grownBy w' none := by
  obtain ⟨W1, hW, G0, hA⟩ := box1 w 26 #[.int .i64 c.fr, .slice c.wA c.wn c.wc, .slice c.sA c.sn c.sc, .slice c.cA c.cn c.cc]
  obtain ⟨k0, k1, k2, k3⟩ := cf_cells (c := c) hA
  replace G0 := Lib.hid G0
  show Calls Try.prog 14 #[.agg #[.int .i64 c.fr, .slice c.wA c.wn c.wc, .slice c.sA c.sn c.sc, .slice c.cA c.cn c.cc], .int .i64 10, .int .i64 row] w _
  clear hA
  by_cases hr0 : row = 0
  · subst hr0
    clear hc hf h32
    go_enter Try.func14, Try.ntmps14
    go_upto_region 1 with (fail)
    rw [← hW]
    clear hW
    go_upto_region 47 with (fail)
    have j0 := fun dd os => cell_regrown k0 dd os
    have j1 := fun dd os => cell_regrown k1 dd os
    have j2 := fun dd os => cell_regrown k2 dd os
    have j3 := fun dd os => cell_regrown k3 dd os
    clear k0 k1 k2 k3
    refine wp_region_quiet_below (by kernel_rfl) (by kernel_rfl) ?_
    repeat (go_big_quiet_step ((fail)))
    refine wpQuiet_nil ?_
    intro w3 hw3
    obtain ⟨p, rfl⟩ := hw3
    have G3 := Lib.hid (only_trans G0.out (only_re W1 p.d p.os))
    clear j0 j1 j2 j3
    generalize grow (redrawn W1 p.d) p.os = w3 at G3 ⊢
    go_wp2
    go_ret
    exact ⟨by simp, G3.out⟩
  by_cases hin : row ≤ c.cn
  · obtain ⟨i, rfl⟩ : ∃ i, row = i + 1 := ⟨row - 1, by omega⟩
    have hrow := hc.2.2
    have hfit := hf.2.2.2
    have hi : i < c.cn := by omega
    have hq := fun (W : World) (hW' : W1.grownBy W none) => (show Calls Try.prog 39 #[.agg #[.int .i64 c.fr, .slice c.wA c.wn c.wc, .slice c.sA c.sn c.sc, .slice c.cA c.cn c.cc], .int .i64 ((i + 1 : Nat) : Int)] W (fun e w' => e = .returned (.int .i64 (unitsV c (i + 1 : Nat))) ∧ W.grownBy w' none) from runits_any c ((i + 1 : Nat) : Int) W (hc.grown (only_trans G0.out hW')) hf)
    have HQ := Lib.hid hq
    obtain ⟨b, off, hA, hb, hcl⟩ := (hrow.grown G0.out).2 (by omega)
    have hcell := hcl i hi
    have hres : (decide (1 ≤ i + 1 ∧ i + 1 ≤ c.cn) && decide (unitsV c (i + 1 : Nat) < (c.cd (i + 1 - 1)).quota)) = decide (unitsV c (i + 1 : Nat) < (c.cd i).quota) := by
      rw [Nat.add_sub_cancel, decide_eq_true (by omega), Bool.true_and]
    rw [hres]
    have hw : IntKind.i64.wrap (((i + 1 : Nat) : Int) - 1) = (i : Int) := by rw [IntKind.wrap_i64]; omega
    generalize ((i + 1 : Nat) : Int) = r at hw HQ ⊢
    obtain ⟨z, hz⟩ : ∃ z, z = (unitsV c r) := ⟨_, rfl⟩
    rw [← hz] at HQ ⊢
    clear hz hres hq
    obtain ⟨q, hqq⟩ : ∃ q, q = (c.cd i).quota := ⟨_, rfl⟩
    rw [← hqq]
    obtain ⟨fr, wA, wn, wc, wd, sA, sn, sc, sd, cA, cn, cc, cd⟩ := c
    simp only at hA hcell hi k0 k1 k2 k3 HQ hW hqq ⊢
    subst hA
    have i1 : (i : Int) < (cn : Int) := by omega
    have hd1 : decide ((i : Int) < (cn : Int)) = true := decide_eq_true i1
    have i0 : (0 : Int) ≤ (i : Int) := by omega
    have hd0 : decide ((0 : Int) ≤ (i : Int)) = true := decide_eq_true i0
    clear hrow hcl hfit hc hf h32 hr0 hin
    obtain ⟨x, hx⟩ : ∃ x, x = cd i := ⟨_, rfl⟩
    rw [← hx] at hcell hqq
    clear hx
    obtain ⟨x1, x2, x3, x4, x5, x6, x7, x8, x9, x10⟩ := x
    obtain ⟨c0, c1, c2, c3, c4, c5, c6, c7, c8, c9⟩ := hcell
    simp only at c0 c1 c2 c3 c4 c5 c6 c7 c8 c9 HQ hqq
    subst hqq
    go_enter Try.func14, Try.ntmps14
    go_upto_region 1 with (fail)
    rw [← hW]
    clear hW
    go_upto_region 47 with (fail)
    have j0 := fun dd os => cell_regrown k0 dd os
    have j1 := fun dd os => cell_regrown k1 dd os
    have j2 := fun dd os => cell_regrown k2 dd os
    have j3 := fun dd os => cell_regrown k3 dd os
    have m0 := fun dd os => cell_regrown c0 dd os
    have m1 := fun dd os => cell_regrown c1 dd os
    have m2 := fun dd os => cell_regrown c2 dd os
    have m3 := fun dd os => cell_regrown c3 dd os
    have m4 := fun dd os => cell_regrown c4 dd os
    have m5 := fun dd os => cell_regrown c5 dd os
    have m6 := fun dd os => cell_regrown c6 dd os
    have m7 := fun dd os => cell_regrown c7 dd os
    have m8 := fun dd os => cell_regrown c8 dd os
    have m9 := fun dd os => cell_regrown c9 dd os
    clear k0 k1 k2 k3 c0 c1 c2 c3 c4 c5 c6 c7 c8 c9
    refine wp_region_quiet_below (by kernel_rfl) (by kernel_rfl) ?_
    repeat (go_big_quiet_step ((first | (go_at_call 39; with_reducible exact rg1 (HQ.out _ (only_re W1 _ _))))))
    refine wpQuiet_nil ?_
    intro w3 hw3
    obtain ⟨p, rfl⟩ := hw3
    have G3 := Lib.hid (only_trans G0.out (only_re W1 p.d p.os))
    clear j0 j1 j2 j3 m0 m1 m2 m3 m4 m5 m6 m7 m8 m9
    generalize grow (redrawn W1 p.d) p.os = w3 at G3 ⊢
    go_wp2
    go_ret
    exact ⟨by simp, G3.out⟩
  · obtain ⟨i, rfl⟩ : ∃ i, row = i + 1 := ⟨row - 1, by omega⟩
    have hres : (decide (1 ≤ i + 1 ∧ i + 1 ≤ c.cn) && decide (unitsV c (i + 1 : Nat) < (c.cd (i + 1 - 1)).quota)) = false := by
      rw [decide_eq_false (by omega), Bool.false_and]
    rw [hres]
    have hw : IntKind.i64.wrap (((i + 1 : Nat) : Int) - 1) = (i : Int) := by rw [IntKind.wrap_i64]; omega
    generalize ((i + 1 : Nat) : Int) = r at hw ⊢
    have i1 : ¬ (i : Int) < (c.cn : Int) := by omega
    have hd1 : decide ((i : Int) < (c.cn : Int)) = false := decide_eq_false i1
    have i0 : (0 : Int) ≤ (i : Int) := by omega
    have hd0 : decide ((0 : Int) ≤ (i : Int)) = true := decide_eq_true i0
    clear hres hc hf h32 hr0 hin
    go_enter Try.func14, Try.ntmps14
    go_upto_region 1 with (fail)
    rw [← hW]
    clear hW
    go_upto_region 47 with (fail)
    have j0 := fun dd os => cell_regrown k0 dd os
    have j1 := fun dd os => cell_regrown k1 dd os
    have j2 := fun dd os => cell_regrown k2 dd os
    have j3 := fun dd os => cell_regrown k3 dd os
    clear k0 k1 k2 k3
    refine wp_region_quiet_below (by kernel_rfl) (by kernel_rfl) ?_
    repeat (go_big_quiet_step ((fail)))
    refine wpQuiet_nil ?_
    intro w3 hw3
    obtain ⟨p, rfl⟩ := hw3
    have G3 := Lib.hid (only_trans G0.out (only_re W1 p.d p.os))
    clear j0 j1 j2 j3
    generalize grow (redrawn W1 p.d) p.os = w3 at G3 ⊢
    go_wp2
    go_ret
    exact ⟨by simp, G3.out⟩
end Go.Proofs.Ytgkegmkedkgkcaa
