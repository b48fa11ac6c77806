/- The I/O partition's window; units; regions: by their contracts. -/
import Derived.Test.YtgkegmkedkgkcaaO6
namespace Go.Proofs.Ytgkegmkedkgkcaa
open Go.RowKit Go.Lib Go.Sort
set_option linter.unusedVariables false

theorem CfV.box {w : World} {c : Cf} (h : CfV w c) (W : World) (g : w.grownBy W none) : CfV W c := h.grown g
/-- Is the first window of the owner 0 too short? -/
def shwB (c : Cf) : Bool := if fwI c 0 < 0 then false else if badW c (c.wd (fwI c 0).toNat) then false else decide ((c.wd (fwI c 0).toNat).2.2 - (c.wd (fwI c 0).toNat).2.1 < 2 * c.cn)
def shV (c : Cf) (x : W3) : Bool := !badW c x && decide (x.2.2 - x.2.1 < 2 * c.cn)
set_option maxHeartbeats 1600000 in
theorem shw_any (c : Cf) (w : World) (hc : CfV w c) (hf : FitCf c) (hn : c.cn ≤ 1000) : Calls Try.prog 30 #[cfv c] w fun e w' => e = .returned (.bool (shwB c)) ∧ w.grownBy w' none := by
  have HF := Lib.hid (fun W (hg : w.grownBy W none) => fw_any c 0 W (hc.grown hg) hf)
  have hcase : (fwI c 0 < 0 ∧ shwB c = false) ∨ ∃ i : Nat, fwI c 0 = i ∧ i < c.wn ∧ shwB c = shV c (c.wd i) := by
    rcases fstI_cases (fun i => decide ((c.wd i).1 = 0)) c.wn with ⟨i, hi, e, _⟩ | ⟨e, _⟩
    · refine .inr ⟨i, e, hi, ?_⟩
      have e' : fwI c 0 = i := e
      unfold shwB
      rw [e', if_neg (by omega), Int.toNat_natCast]
      unfold shV
      cases badW c (c.wd i) <;> simp
    · have e' : fwI c 0 = -1 := e
      refine .inl ⟨by omega, ?_⟩
      unfold shwB
      rw [e', if_pos (by omega)]
  have hw := hc.1
  have hfr := hf.1
  have HBW := Lib.hid (fun (x : W3) (W : World) => badw_any c x W)
  have HCN := Lib.hid (fun (x : W3) => badW_no (c := c) (x := x))
  generalize shwB c = r at hcase ⊢
  generalize fwI c 0 = q at HF hcase
  have hl := hf.2.1.1
  obtain ⟨fr, wA, wn, wc, wd, sA, sn, sc, sd, cA, cn, cc, cd⟩ := c
  simp only at hw hcase hfr hn HCN hl
  have HF : Hid (∀ W, w.grownBy W none → Calls Try.prog 52 #[.agg #[.int .i64 fr, .slice wA wn wc, .slice sA sn sc, .slice cA cn cc], .int .i64 0] W fun e w' => e = .returned (.int .i64 q) ∧ W.grownBy w' none) := HF
  show Calls Try.prog 30 #[.agg #[.int .i64 fr, .slice wA wn wc, .slice sA sn sc, .slice cA cn cc]] w _
  obtain ⟨W1, hW, G0, hA⟩ := box1 w 26 #[.int .i64 fr, .slice wA wn wc, .slice sA sn sc, .slice cA cn cc]
  have G0 := Lib.hid G0
  have HA := Lib.hid hA
  have k1 := fun i => hA.cell i
  rcases hcase with ⟨h0, rfl⟩ | ⟨i, rfl, hi, hr⟩
  · have hd : decide (q < 0) = true := decide_eq_true h0
    clear hA hc hf hw
    go_enter Try.func30, Try.ntmps30
    go_upto_region 1 with (fail)
    rw [← hW]
    clear hW
    go_upto_region 2 with (go_at_call 52; (with_reducible refine (HF.out _ G0.out).mono ?_); rintro e w2 ⟨rfl, g2⟩; have A2 := Lib.hid (HA.out.only g2 (by simp)); have G2 := Lib.hid (only_trans G0.out g2); clear g2 k1)
    have k2 := blk_re A2.out
    refine wp_region_quiet_below (by kernel_rfl) (by kernel_rfl) ?_
    repeat (go_big_quiet_step ((fail)))
    refine wpQuiet_nil ?_
    intro w3 hw3
    obtain ⟨p, rfl⟩ := hw3
    have G3 := Lib.hid (only_trans G2.out (only_re w2 p.d p.os))
    clear k2
    generalize grow (redrawn w2 p.d) p.os = w3 at G3 ⊢
    go_wp2
    go_ret
    exact ⟨rfl, G3.out⟩
  · have hd : decide ((i : Int) < 0) = false := decide_eq_false (by omega)
    obtain ⟨b, off, rfl, hb, hcl⟩ := hw.2 (by omega)
    have HCL := Lib.hid (fun W (hg : w.grownBy W none) => (hcl i hi).grown hb hg)
    have HBWi := Lib.hid (fun W => HBW.out (wd i) W)
    have HNi := Lib.hid (HCN.out (wd i))
    rw [hr]
    have i1 : (i : Int) < (wn : Int) := by omega
    clear hA hc hf hw hcl HCN hr hb
    obtain ⟨x, hx⟩ : ∃ x, x = wd i := ⟨_, rfl⟩
    rw [← hx] at HCL HBWi HNi ⊢
    clear hx
    obtain ⟨x1, x2, x3⟩ := x
    show Calls Try.prog 30 #[.agg #[.int .i64 fr, .slice (some ⟨b, off, none⟩) wn wc, .slice sA sn sc, .slice cA cn cc]] w fun e w' => e = .returned (.bool (!badW ⟨fr, some ⟨b, off, none⟩, wn, wc, wd, sA, sn, sc, sd, cA, cn, cc, cd⟩ (x1, x2, x3) && decide (x3 - x2 < 2 * (cn : Int)))) ∧ w.grownBy w' none
    have HBWi : Hid (∀ W, Calls Try.prog 24 #[.agg #[.int .i64 fr, .slice (some ⟨b, off, none⟩) wn wc, .slice sA sn sc, .slice cA cn cc], .agg #[.int .i64 x1, .int .i64 x2, .int .i64 x3]] W fun e w' => e = .returned (.bool (badW ⟨fr, some ⟨b, off, none⟩, wn, wc, wd, sA, sn, sc, sd, cA, cn, cc, cd⟩ (x1, x2, x3))) ∧ W.grownBy w' none) := HBWi
    simp only at HNi
    generalize badW ⟨fr, some ⟨b, off, none⟩, wn, wc, wd, sA, sn, sc, sd, cA, cn, cc, cd⟩ (x1, x2, x3) = r2 at HBWi HNi ⊢
    have hwr : r2 = false → IntKind.i64.wrap (x3 - x2) = x3 - x2 := fun h => by
      have := HNi.out.1 h
      unfold fitI at hfr
      rw [IntKind.wrap_i64]
      omega
    have hw2 : IntKind.i64.wrap (2 * (cn : Int)) = 2 * (cn : Int) := by rw [IntKind.wrap_i64]; omega
    clear hfr hn HNi
    cases r2
    · have hwr := hwr rfl
      go_enter Try.func30, Try.ntmps30
      go_upto_region 1 with (fail)
      rw [← hW]
      clear hW
      go_upto_region 2 with (go_at_call 52; (with_reducible refine (HF.out _ G0.out).mono ?_); rintro e w2 ⟨rfl, g2⟩; have A2 := Lib.hid (HA.out.only g2 (by simp)); have G2 := Lib.hid (only_trans G0.out g2); clear g2 k1)
      have k2 := blk_re A2.out
      obtain ⟨l0, l1, l2⟩ := HCL.out _ G2.out
      have m0 := fun dd os => cell_regrown l0 dd os
      have m1 := fun dd os => cell_regrown l1 dd os
      have m2 := fun dd os => cell_regrown l2 dd os
      simp only at m0 m1 m2
      clear l0 l1 l2
      refine wp_region_quiet_below (by kernel_rfl) (by kernel_rfl) ?_
      repeat (go_big_quiet_step ((first | (go_at_call 24; with_reducible exact rg1 (HBWi.out _)))))
      refine wpQuiet_nil ?_
      intro w3 hw3
      obtain ⟨p, rfl⟩ := hw3
      have A3 := Lib.hid (A2.out.only (only_re w2 p.d p.os) (by simp))
      have G3 := Lib.hid (only_trans G2.out (only_re w2 p.d p.os))
      clear k2 m0 m1 m2
      generalize grow (redrawn w2 p.d) p.os = w3 at A3 G3 ⊢
      go_upto_region 4 with (fail)
      have k3 := blk_re A3.out
      obtain ⟨l0, l1, l2⟩ := HCL.out _ G3.out
      have m1 := fun dd os => cell_regrown l1 dd os
      have m2 := fun dd os => cell_regrown l2 dd os
      simp only at m1 m2
      clear l0 l1 l2
      refine wp_region_quiet_below (by kernel_rfl) (by kernel_rfl) ?_
      repeat (go_big_quiet_step ((fail)))
      refine wpQuiet_nil ?_
      intro w4 hw4
      obtain ⟨p4, rfl⟩ := hw4
      have G4 := Lib.hid (only_trans G3.out (only_re w3 p4.d p4.os))
      clear k3 m1 m2
      generalize grow (redrawn w3 p4.d) p4.os = w4 at G4 ⊢
      go_wp2
      go_ret
      exact ⟨by simp, G4.out⟩
    · clear hwr
      go_enter Try.func30, Try.ntmps30
      go_upto_region 1 with (fail)
      rw [← hW]
      clear hW
      go_upto_region 2 with (go_at_call 52; (with_reducible refine (HF.out _ G0.out).mono ?_); rintro e w2 ⟨rfl, g2⟩; have A2 := Lib.hid (HA.out.only g2 (by simp)); have G2 := Lib.hid (only_trans G0.out g2); clear g2 k1)
      have k2 := blk_re A2.out
      obtain ⟨l0, l1, l2⟩ := HCL.out _ G2.out
      have m0 := fun dd os => cell_regrown l0 dd os
      have m1 := fun dd os => cell_regrown l1 dd os
      have m2 := fun dd os => cell_regrown l2 dd os
      simp only at m0 m1 m2
      clear l0 l1 l2
      refine wp_region_quiet_below (by kernel_rfl) (by kernel_rfl) ?_
      repeat (go_big_quiet_step ((first | (go_at_call 24; with_reducible exact rg1 (HBWi.out _)))))
      refine wpQuiet_nil ?_
      intro w3 hw3
      obtain ⟨p, rfl⟩ := hw3
      have G3 := Lib.hid (only_trans G2.out (only_re w2 p.d p.os))
      clear k2 m0 m1 m2
      generalize grow (redrawn w2 p.d) p.os = w3 at G3 ⊢
      go_wp2
      go_ret
      exact ⟨by simp, G3.out⟩
end Go.Proofs.Ytgkegmkedkgkcaa
