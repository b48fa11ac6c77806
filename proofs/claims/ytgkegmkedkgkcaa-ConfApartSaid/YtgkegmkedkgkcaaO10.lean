/- The functions that Faults hands in, by their contracts. -/
import Derived.Test.YtgkegmkedkgkcaaO9
namespace Go.Proofs.Ytgkegmkedkgkcaa
open Go.RowKit Go.Lib Go.Sort
set_option linter.unusedVariables false

theorem cf_cells {w : World} {g : Nat} {c : Cf} (h : BoxC w g c) : w.cell? ⟨g, 0, none⟩ = some (.int .i64 c.fr) ∧ w.cell? ⟨g, 1, none⟩ = some (.slice c.wA c.wn c.wc) ∧ w.cell? ⟨g, 2, none⟩ = some (.slice c.sA c.sn c.sc) ∧ w.cell? ⟨g, 3, none⟩ = some (.slice c.cA c.cn c.cc) := ⟨h.cell 0, h.cell 1, h.cell 2, h.cell 3⟩

set_option maxRecDepth 20000 in
theorem f2_any (c : Cf) (g : Nat) (w : World) (hc : CfV w c) (hf : FitCf c) (hg : BoxC w g c) (i : Nat) (r : Int) (hr : r = i + 1) (hi : i < c.cn) (h32 : i ≤ 1000) : Calls Try.prog 19 #[.int .i64 r, .pointer (some ⟨g, 0, none⟩)] w fun e w' => e = .returned (.bool (badC (c.cd i))) ∧ w.grownBy w' none := by
  have hw : IntKind.i64.wrap (r - 1) = (i : Int) := by rw [IntKind.wrap_i64]; omega
  have HQ := Lib.hid (fun W => badc_any (c.cd i) (hf.2.2.2.2.2 i hi) W)
  obtain ⟨k0, k1, k2, k3⟩ := cf_cells hg
  obtain ⟨b, off, hA, hb, hcl⟩ := hc.2.2.2 (by omega)
  have hcell := hcl i hi
  obtain ⟨fr, wA, wn, wc, wd, sA, sn, sc, sd, cA, cn, cc, cd⟩ := c
  simp only at hA hcell hi k3 HQ ⊢
  subst hA
  have i1 : (i : Int) < (cn : Int) := by omega
  have i0 : (0 : Int) ≤ (i : Int) := by omega
  clear hcl hc hf hg hr h32 k0 k1 k2
  generalize cd i = x at hcell HQ ⊢
  obtain ⟨x1, x2, x3, x4, x5, x6, x7, x8, x9, x10⟩ := x
  obtain ⟨c0, c1, c2, c3, c4, c5, c6, c7, c8, c9⟩ := hcell
  simp only at c0 c1 c2 c3 c4 c5 c6 c7 c8 c9
  go_enter Try.func19, Try.ntmps19
  go_wp2_with (go_at_call 20; (with_reducible refine (HQ.out _).mono ?_); rintro e w2 ⟨rfl, g2⟩; have G2 := Lib.hid g2; clear g2)
  go_ret
  exact ⟨rfl, G2.out⟩

set_option maxRecDepth 20000 in
set_option maxHeartbeats 1600000 in
theorem f3_any (c : Cf) (g : Nat) (w : World) (hc : CfV w c) (hf : FitCf c) (hg : BoxC w g c) (i : Nat) (r : Int) (hr : r = i + 1) (hi : i < c.cn) (h32 : i ≤ 1000) : Calls Try.prog 21 #[.int .i64 r, .pointer (some ⟨g, 0, none⟩)] w fun e w' => e = .returned (.bool (shB (c.cd i) c.cd i)) ∧ w.grownBy w' none := by
  have hw : IntKind.i64.wrap (r - 1) = (i : Int) := by rw [IntKind.wrap_i64]; omega
  have hrow := hc.2.2
  have hfit := hf.2.2.2
  have HQ := Lib.hid (fun (W : World) (hW : w.grownBy W none) => (show Calls Try.prog 22 #[.agg #[.int .i64 (c.cd i).base, .int .i64 (c.cd i).size, .int .i64 (c.cd i).ring, .int .i64 (c.cd i).at', .int .i64 (c.cd i).quota, .int .i64 (c.cd i).queue, .int .i64 (c.cd i).mac, .int .i64 (c.cd i).chan, .int .i64 (c.cd i).first, .int .i64 (c.cd i).secs], .slice c.cA i c.cc] W (fun e w' => e = .returned (.bool (shB (c.cd i) c.cd i)) ∧ W.grownBy w' none) from shared_any (c.cd i) (hfit.2.2 i hi) c.cA i c.cc c.cd W ((hrow.cut i (by omega)).grown hW) (by omega) (fun k hk => hfit.2.2 k (by omega))))
  obtain ⟨k0, k1, k2, k3⟩ := cf_cells hg
  have hlt := hg.lt
  obtain ⟨b, off, hA, hb, hcl⟩ := hrow.2 (by omega)
  have hcell := hcl i hi
  have hcap : i ≤ c.cc := by have := hfit.1; omega
  obtain ⟨z, hz⟩ : ∃ z, z = (shB (c.cd i) c.cd i) := ⟨_, rfl⟩
  rw [← hz] at HQ ⊢
  obtain ⟨fr, wA, wn, wc, wd, sA, sn, sc, sd, cA, cn, cc, cd⟩ := c
  simp only at hA hcell hi k0 k1 k2 k3 hcap HQ
  subst hA
  have i1 : (i : Int) < (cn : Int) := by omega
  have i2 : (i : Int) ≤ (cc : Int) := by omega
  have i0 : (0 : Int) ≤ (i : Int) := by omega
  clear hrow hcl hfit hc hf hg hr hz h32
  obtain ⟨x, hx⟩ : ∃ x, x = cd i := ⟨_, rfl⟩
  rw [← hx] at hcell HQ
  clear hx
  obtain ⟨x1, x2, x3, x4, x5, x6, x7, x8, x9, x10⟩ := x
  obtain ⟨c0, c1, c2, c3, c4, c5, c6, c7, c8, c9⟩ := hcell
  simp only at c0 c1 c2 c3 c4 c5 c6 c7 c8 c9
  have j0 := fun dd os => cell_regrown k0 dd os
  have j1 := fun dd os => cell_regrown k1 dd os
  have j2 := fun dd os => cell_regrown k2 dd os
  have j3 := fun dd os => cell_regrown k3 dd os
  have m0 := fun dd os => cell_regrown c0 dd os
  have m1 := fun dd os => cell_regrown c1 dd os
  have m2 := fun dd os => cell_regrown c2 dd os
  have m3 := fun dd os => cell_regrown c3 dd os
  have m4 := fun dd os => cell_regrown c4 dd os
  have m5 := fun dd os => cell_regrown c5 dd os
  have m6 := fun dd os => cell_regrown c6 dd os
  have m7 := fun dd os => cell_regrown c7 dd os
  have m8 := fun dd os => cell_regrown c8 dd os
  have m9 := fun dd os => cell_regrown c9 dd os
  clear k0 k1 k2 k3 c0 c1 c2 c3 c4 c5 c6 c7 c8 c9
  go_enter Try.func21, Try.ntmps21
  go_upto_region 1 with (fail)
  refine wp_region_quiet_below (by kernel_rfl) (by kernel_rfl) ?_
  repeat (go_big_quiet_step ((first | (go_at_call 22; go_loud (with_reducible exact rg1 (HQ.out _ (only_re w _ _)))))))
  refine wpQuiet_nil ?_
  intro w3 hw3
  obtain ⟨p, rfl⟩ := hw3
  have G3 := Lib.hid (only_re w p.d p.os)
  clear j0 j1 j2 j3 m0 m1 m2 m3 m4 m5 m6 m7 m8 m9
  generalize grow (redrawn w p.d) p.os = w3 at G3 ⊢
  go_wp2
  go_ret
  exact ⟨rfl, G3.out⟩

set_option maxRecDepth 20000 in
set_option maxHeartbeats 1600000 in
theorem f4_any (c : Cf) (g : Nat) (w : World) (hc : CfV w c) (hf : FitCf c) (hg : BoxC w g c) (i : Nat) (r : Int) (hr : r = i + 1) (hi : i < c.wn) (h32 : i ≤ 1000) : Calls Try.prog 23 #[.int .i64 r, .pointer (some ⟨g, 0, none⟩)] w fun e w' => e = .returned (.bool (badW c (c.wd i))) ∧ w.grownBy w' none := by
  have hw : IntKind.i64.wrap (r - 1) = (i : Int) := by rw [IntKind.wrap_i64]; omega
  have hrow := hc.1
  have hfit := hf.2.1
  have HQ := Lib.hid (fun (W : World) (hW : w.grownBy W none) => (show Calls Try.prog 24 #[.agg #[.int .i64 c.fr, .slice c.wA c.wn c.wc, .slice c.sA c.sn c.sc, .slice c.cA c.cn c.cc], .agg #[.int .i64 (c.wd i).1, .int .i64 (c.wd i).2.1, .int .i64 (c.wd i).2.2]] W (fun e w' => e = .returned (.bool (badW c (c.wd i))) ∧ W.grownBy w' none) from badw_any c (c.wd i) W))
  obtain ⟨k0, k1, k2, k3⟩ := cf_cells hg
  have hlt := hg.lt
  obtain ⟨b, off, hA, hb, hcl⟩ := hrow.2 (by omega)
  have hcell := hcl i hi
  have hcap : i ≤ c.wc := by have := hfit.1; omega
  obtain ⟨z, hz⟩ : ∃ z, z = (badW c (c.wd i)) := ⟨_, rfl⟩
  rw [← hz] at HQ ⊢
  obtain ⟨fr, wA, wn, wc, wd, sA, sn, sc, sd, cA, cn, cc, cd⟩ := c
  simp only at hA hcell hi k0 k1 k2 k3 hcap HQ
  subst hA
  have i1 : (i : Int) < (wn : Int) := by omega
  have i2 : (i : Int) ≤ (wc : Int) := by omega
  have i0 : (0 : Int) ≤ (i : Int) := by omega
  clear hrow hcl hfit hc hf hg hr hz h32
  obtain ⟨x, hx⟩ : ∃ x, x = wd i := ⟨_, rfl⟩
  rw [← hx] at hcell HQ
  clear hx
  obtain ⟨x1, x2, x3⟩ := x
  obtain ⟨c0, c1, c2⟩ := hcell
  simp only at c0 c1 c2
  have j0 := fun dd os => cell_regrown k0 dd os
  have j1 := fun dd os => cell_regrown k1 dd os
  have j2 := fun dd os => cell_regrown k2 dd os
  have j3 := fun dd os => cell_regrown k3 dd os
  have m0 := fun dd os => cell_regrown c0 dd os
  have m1 := fun dd os => cell_regrown c1 dd os
  have m2 := fun dd os => cell_regrown c2 dd os
  clear k0 k1 k2 k3 c0 c1 c2
  go_enter Try.func23, Try.ntmps23
  go_upto_region 1 with (fail)
  refine wp_region_quiet_below (by kernel_rfl) (by kernel_rfl) ?_
  repeat (go_big_quiet_step ((first | (go_at_call 24; go_loud (with_reducible exact rg1 (HQ.out _ (only_re w _ _)))))))
  refine wpQuiet_nil ?_
  intro w3 hw3
  obtain ⟨p, rfl⟩ := hw3
  have G3 := Lib.hid (only_re w p.d p.os)
  clear j0 j1 j2 j3 m0 m1 m2
  generalize grow (redrawn w p.d) p.os = w3 at G3 ⊢
  go_wp2
  go_ret
  exact ⟨rfl, G3.out⟩

set_option maxRecDepth 20000 in
set_option maxHeartbeats 1600000 in
theorem f5_any (c : Cf) (g : Nat) (w : World) (hc : CfV w c) (hf : FitCf c) (hg : BoxC w g c) (i : Nat) (r : Int) (hr : r = i + 1) (hi : i < c.wn) (h32 : i ≤ 1000) : Calls Try.prog 25 #[.int .i64 r, .pointer (some ⟨g, 0, none⟩)] w fun e w' => e = .returned (.bool (anyB (fun k => wM (c.wd i) (c.wd k)) i)) ∧ w.grownBy w' none := by
  have hw : IntKind.i64.wrap (r - 1) = (i : Int) := by rw [IntKind.wrap_i64]; omega
  have hrow := hc.1
  have hfit := hf.2.1
  have HQ := Lib.hid (fun (W : World) (hW : w.grownBy W none) => (show Calls Try.prog 26 #[.agg #[.int .i64 (c.wd i).1, .int .i64 (c.wd i).2.1, .int .i64 (c.wd i).2.2], .slice c.wA i c.wc] W (fun e w' => e = .returned (.bool (anyB (fun k => wM (c.wd i) (c.wd k)) i)) ∧ W.grownBy w' none) from wms_any (c.wd i) c.wA i c.wc c.wd W ((hrow.cut i (by omega)).grown hW) (by omega)))
  obtain ⟨k0, k1, k2, k3⟩ := cf_cells hg
  have hlt := hg.lt
  obtain ⟨b, off, hA, hb, hcl⟩ := hrow.2 (by omega)
  have hcell := hcl i hi
  have hcap : i ≤ c.wc := by have := hfit.1; omega
  obtain ⟨z, hz⟩ : ∃ z, z = (anyB (fun k => wM (c.wd i) (c.wd k)) i) := ⟨_, rfl⟩
  rw [← hz] at HQ ⊢
  obtain ⟨fr, wA, wn, wc, wd, sA, sn, sc, sd, cA, cn, cc, cd⟩ := c
  simp only at hA hcell hi k0 k1 k2 k3 hcap HQ
  subst hA
  have i1 : (i : Int) < (wn : Int) := by omega
  have i2 : (i : Int) ≤ (wc : Int) := by omega
  have i0 : (0 : Int) ≤ (i : Int) := by omega
  clear hrow hcl hfit hc hf hg hr hz h32
  obtain ⟨x, hx⟩ : ∃ x, x = wd i := ⟨_, rfl⟩
  rw [← hx] at hcell HQ
  clear hx
  obtain ⟨x1, x2, x3⟩ := x
  obtain ⟨c0, c1, c2⟩ := hcell
  simp only at c0 c1 c2
  have j0 := fun dd os => cell_regrown k0 dd os
  have j1 := fun dd os => cell_regrown k1 dd os
  have j2 := fun dd os => cell_regrown k2 dd os
  have j3 := fun dd os => cell_regrown k3 dd os
  have m0 := fun dd os => cell_regrown c0 dd os
  have m1 := fun dd os => cell_regrown c1 dd os
  have m2 := fun dd os => cell_regrown c2 dd os
  clear k0 k1 k2 k3 c0 c1 c2
  go_enter Try.func25, Try.ntmps25
  go_upto_region 1 with (fail)
  refine wp_region_quiet_below (by kernel_rfl) (by kernel_rfl) ?_
  repeat (go_big_quiet_step ((first | (go_at_call 26; go_loud (with_reducible exact rg1 (HQ.out _ (only_re w _ _)))))))
  refine wpQuiet_nil ?_
  intro w3 hw3
  obtain ⟨p, rfl⟩ := hw3
  have G3 := Lib.hid (only_re w p.d p.os)
  clear j0 j1 j2 j3 m0 m1 m2
  generalize grow (redrawn w p.d) p.os = w3 at G3 ⊢
  go_wp2
  go_ret
  exact ⟨rfl, G3.out⟩

set_option maxRecDepth 20000 in
set_option maxHeartbeats 1600000 in
theorem f8_any (c : Cf) (g : Nat) (w : World) (hc : CfV w c) (hf : FitCf c) (hg : BoxC w g c) (i : Nat) (r : Int) (hr : r = i + 1) (hi : i < c.sn) (h32 : i ≤ 1000) : Calls Try.prog 31 #[.int .i64 r, .pointer (some ⟨g, 0, none⟩)] w fun e w' => e = .returned (.bool (badS c (c.sd i))) ∧ w.grownBy w' none := by
  have hw : IntKind.i64.wrap (r - 1) = (i : Int) := by rw [IntKind.wrap_i64]; omega
  have hrow := hc.2.1
  have hfit := hf.2.2.1
  have HQ := Lib.hid (fun (W : World) (hW : w.grownBy W none) => (show Calls Try.prog 16 #[.agg #[.int .i64 c.fr, .slice c.wA c.wn c.wc, .slice c.sA c.sn c.sc, .slice c.cA c.cn c.cc], .agg #[.int .i64 (c.sd i).1, .int .i64 (c.sd i).2.1, .int .i64 (c.sd i).2.2]] W (fun e w' => e = .returned (.bool (badS c (c.sd i))) ∧ W.grownBy w' none) from bads_any c (c.sd i) (hfit.2.2 i hi) hf.1 W))
  obtain ⟨k0, k1, k2, k3⟩ := cf_cells hg
  have hlt := hg.lt
  obtain ⟨b, off, hA, hb, hcl⟩ := hrow.2 (by omega)
  have hcell := hcl i hi
  have hcap : i ≤ c.sc := by have := hfit.1; omega
  obtain ⟨z, hz⟩ : ∃ z, z = (badS c (c.sd i)) := ⟨_, rfl⟩
  rw [← hz] at HQ ⊢
  obtain ⟨fr, wA, wn, wc, wd, sA, sn, sc, sd, cA, cn, cc, cd⟩ := c
  simp only at hA hcell hi k0 k1 k2 k3 hcap HQ
  subst hA
  have i1 : (i : Int) < (sn : Int) := by omega
  have i2 : (i : Int) ≤ (sc : Int) := by omega
  have i0 : (0 : Int) ≤ (i : Int) := by omega
  clear hrow hcl hfit hc hf hg hr hz h32
  obtain ⟨x, hx⟩ : ∃ x, x = sd i := ⟨_, rfl⟩
  rw [← hx] at hcell HQ
  clear hx
  obtain ⟨x1, x2, x3⟩ := x
  obtain ⟨c0, c1, c2⟩ := hcell
  simp only at c0 c1 c2
  have j0 := fun dd os => cell_regrown k0 dd os
  have j1 := fun dd os => cell_regrown k1 dd os
  have j2 := fun dd os => cell_regrown k2 dd os
  have j3 := fun dd os => cell_regrown k3 dd os
  have m0 := fun dd os => cell_regrown c0 dd os
  have m1 := fun dd os => cell_regrown c1 dd os
  have m2 := fun dd os => cell_regrown c2 dd os
  clear k0 k1 k2 k3 c0 c1 c2
  go_enter Try.func31, Try.ntmps31
  go_upto_region 1 with (fail)
  refine wp_region_quiet_below (by kernel_rfl) (by kernel_rfl) ?_
  repeat (go_big_quiet_step ((first | (go_at_call 16; go_loud (with_reducible exact rg1 (HQ.out _ (only_re w _ _)))))))
  refine wpQuiet_nil ?_
  intro w3 hw3
  obtain ⟨p, rfl⟩ := hw3
  have G3 := Lib.hid (only_re w p.d p.os)
  clear j0 j1 j2 j3 m0 m1 m2
  generalize grow (redrawn w p.d) p.os = w3 at G3 ⊢
  go_wp2
  go_ret
  exact ⟨rfl, G3.out⟩

set_option maxRecDepth 20000 in
set_option maxHeartbeats 1600000 in
theorem f9_any (c : Cf) (g : Nat) (w : World) (hc : CfV w c) (hf : FitCf c) (hg : BoxC w g c) (i : Nat) (r : Int) (hr : r = i + 1) (hi : i < c.sn) (h32 : i ≤ 1000) : Calls Try.prog 32 #[.int .i64 r, .pointer (some ⟨g, 0, none⟩)] w fun e w' => e = .returned (.bool (anyB (fun k => sM (c.sd i) (c.sd k)) i)) ∧ w.grownBy w' none := by
  have hw : IntKind.i64.wrap (r - 1) = (i : Int) := by rw [IntKind.wrap_i64]; omega
  have hrow := hc.2.1
  have hfit := hf.2.2.1
  have HQ := Lib.hid (fun (W : World) (hW : w.grownBy W none) => (show Calls Try.prog 33 #[.agg #[.int .i64 (c.sd i).1, .int .i64 (c.sd i).2.1, .int .i64 (c.sd i).2.2], .slice c.sA i c.sc] W (fun e w' => e = .returned (.bool (anyB (fun k => sM (c.sd i) (c.sd k)) i)) ∧ W.grownBy w' none) from sms_any (c.sd i) c.sA i c.sc c.sd W ((hrow.cut i (by omega)).grown hW) (by omega)))
  obtain ⟨k0, k1, k2, k3⟩ := cf_cells hg
  have hlt := hg.lt
  obtain ⟨b, off, hA, hb, hcl⟩ := hrow.2 (by omega)
  have hcell := hcl i hi
  have hcap : i ≤ c.sc := by have := hfit.1; omega
  obtain ⟨z, hz⟩ : ∃ z, z = (anyB (fun k => sM (c.sd i) (c.sd k)) i) := ⟨_, rfl⟩
  rw [← hz] at HQ ⊢
  obtain ⟨fr, wA, wn, wc, wd, sA, sn, sc, sd, cA, cn, cc, cd⟩ := c
  simp only at hA hcell hi k0 k1 k2 k3 hcap HQ
  subst hA
  have i1 : (i : Int) < (sn : Int) := by omega
  have i2 : (i : Int) ≤ (sc : Int) := by omega
  have i0 : (0 : Int) ≤ (i : Int) := by omega
  clear hrow hcl hfit hc hf hg hr hz h32
  obtain ⟨x, hx⟩ : ∃ x, x = sd i := ⟨_, rfl⟩
  rw [← hx] at hcell HQ
  clear hx
  obtain ⟨x1, x2, x3⟩ := x
  obtain ⟨c0, c1, c2⟩ := hcell
  simp only at c0 c1 c2
  have j0 := fun dd os => cell_regrown k0 dd os
  have j1 := fun dd os => cell_regrown k1 dd os
  have j2 := fun dd os => cell_regrown k2 dd os
  have j3 := fun dd os => cell_regrown k3 dd os
  have m0 := fun dd os => cell_regrown c0 dd os
  have m1 := fun dd os => cell_regrown c1 dd os
  have m2 := fun dd os => cell_regrown c2 dd os
  clear k0 k1 k2 k3 c0 c1 c2
  go_enter Try.func32, Try.ntmps32
  go_upto_region 1 with (fail)
  refine wp_region_quiet_below (by kernel_rfl) (by kernel_rfl) ?_
  repeat (go_big_quiet_step ((first | (go_at_call 33; go_loud (with_reducible exact rg1 (HQ.out _ (only_re w _ _)))))))
  refine wpQuiet_nil ?_
  intro w3 hw3
  obtain ⟨p, rfl⟩ := hw3
  have G3 := Lib.hid (only_re w p.d p.os)
  clear j0 j1 j2 j3 m0 m1 m2
  generalize grow (redrawn w p.d) p.os = w3 at G3 ⊢
  go_wp2
  go_ret
  exact ⟨rfl, G3.out⟩
end Go.Proofs.Ytgkegmkedkgkcaa
