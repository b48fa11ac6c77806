/- The functions that Faults hands in, by their contracts: owners, units. -/
import Derived.Test.YtgkegmkedkgkcaaO10
namespace Go.Proofs.Ytgkegmkedkgkcaa
open Go.RowKit Go.Lib Go.Sort
set_option linter.unusedVariables false

theorem f6_any (c : Cf) (g : Nat) (w : World) (hc : CfV w c) (hf : FitCf c) (hg : BoxC w g c) (o : Int) : Calls Try.prog 27 #[.int .i64 o, .pointer (some ⟨g, 0, none⟩)] w fun e w' => e = .returned (.bool (decide (fwI c o < 0))) ∧ w.grownBy w' none := by
  have HQ := Lib.hid (show Calls Try.prog 28 #[.agg #[.int .i64 c.fr, .slice c.wA c.wn c.wc, .slice c.sA c.sn c.sc, .slice c.cA c.cn c.cc], .int .i64 o] w (fun e w' => e = .returned (.bool (decide (fwI c o < 0))) ∧ w.grownBy w' none) from now_any c o w hc hf)
  obtain ⟨k0, k1, k2, k3⟩ := cf_cells hg
  generalize decide (fwI c o < 0) = z at HQ ⊢
  clear hc hf hg
  go_enter Try.func27, Try.ntmps27
  go_wp2_with (go_at_call 28; (with_reducible refine HQ.out.mono ?_); rintro e w2 ⟨rfl, g2⟩; have G2 := Lib.hid g2; clear g2)
  go_ret
  exact ⟨rfl, G2.out⟩
theorem f7_any (c : Cf) (g : Nat) (w : World) (hc : CfV w c) (hf : FitCf c) (hg : BoxC w g c) (o : Int) (hn : c.cn ≤ 1000) : Calls Try.prog 29 #[.int .i64 o, .pointer (some ⟨g, 0, none⟩)] w fun e w' => e = .returned (.bool (shwB c)) ∧ w.grownBy w' none := by
  have HQ := Lib.hid (show Calls Try.prog 30 #[.agg #[.int .i64 c.fr, .slice c.wA c.wn c.wc, .slice c.sA c.sn c.sc, .slice c.cA c.cn c.cc]] w (fun e w' => e = .returned (.bool (shwB c)) ∧ w.grownBy w' none) from shw_any c w hc hf hn)
  obtain ⟨k0, k1, k2, k3⟩ := cf_cells hg
  generalize shwB c = z at HQ ⊢
  clear hc hf hg hn
  go_enter Try.func29, Try.ntmps29
  go_wp2_with (go_at_call 30; (with_reducible refine HQ.out.mono ?_); rintro e w2 ⟨rfl, g2⟩; have G2 := Lib.hid g2; clear g2)
  go_ret
  exact ⟨rfl, G2.out⟩
set_option maxRecDepth 20000 in
set_option maxHeartbeats 1600000 in
theorem f10_any (c : Cf) (g : Nat) (w : World) (hc : CfV w c) (hf : FitCf c) (hg : BoxC w g c) (i : Nat) (r : Int) (hr : r = i + 1) (hi : i < c.cn) (h32 : i ≤ 1000) : Calls Try.prog 34 #[.int .i64 r, .pointer (some ⟨g, 0, none⟩)] w fun e w' => e = .returned (.bool (decide (unitsV c r < (c.cd i).quota))) ∧ w.grownBy w' none := by
  have hw : IntKind.i64.wrap (r - 1) = (i : Int) := by rw [IntKind.wrap_i64]; omega
  have HQ := Lib.hid (fun (W : World) (hW : w.grownBy W none) => (show Calls Try.prog 9 #[.agg #[.int .i64 c.fr, .slice c.wA c.wn c.wc, .slice c.sA c.sn c.sc, .slice c.cA c.cn c.cc], .int .i64 r] W (fun e w' => e = .returned (.int .i64 (unitsV c r)) ∧ W.grownBy w' none) from units_any c r W (hc.grown hW) hf))
  obtain ⟨k0, k1, k2, k3⟩ := cf_cells hg
  obtain ⟨b, off, hA, hb, hcl⟩ := hc.2.2.2 (by omega)
  have c4 := (hcl i hi).2.2.2.2.1
  generalize unitsV c r = z at HQ ⊢
  obtain ⟨fr, wA, wn, wc, wd, sA, sn, sc, sd, cA, cn, cc, cd⟩ := c
  simp only at hA c4 hi k0 k1 k2 k3 HQ ⊢
  subst hA
  have i1 : (i : Int) < (cn : Int) := by omega
  have i0 : (0 : Int) ≤ (i : Int) := by omega
  clear hcl hc hf hg hr h32
  generalize (cd i).quota = q at c4 ⊢
  have j0 := fun dd os => cell_regrown k0 dd os
  have j1 := fun dd os => cell_regrown k1 dd os
  have j2 := fun dd os => cell_regrown k2 dd os
  have j3 := fun dd os => cell_regrown k3 dd os
  have m4 := fun dd os => cell_regrown c4 dd os
  clear k0 k1 k2 k3 c4
  go_enter Try.func34, Try.ntmps34
  go_upto_region 1 with (fail)
  refine wp_region_quiet_below (by kernel_rfl) (by kernel_rfl) ?_
  repeat (go_big_quiet_step ((first | (go_at_call 9; go_loud (with_reducible exact rg1 (HQ.out _ (only_re w _ _)))))))
  refine wpQuiet_nil ?_
  intro w3 hw3
  obtain ⟨p, rfl⟩ := hw3
  have G3 := Lib.hid (only_re w p.d p.os)
  clear j0 j1 j2 j3 m4
  generalize grow (redrawn w p.d) p.os = w3 at G3 ⊢
  go_wp2
  go_ret
  exact ⟨rfl, G3.out⟩
end Go.Proofs.Ytgkegmkedkgkcaa
