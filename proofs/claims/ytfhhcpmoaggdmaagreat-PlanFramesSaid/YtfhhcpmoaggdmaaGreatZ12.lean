import Derived.Test.YtfhhcpmoaggdmaaGreatZ11
import Derived.BigRegion
import Derived.Deep.CutRange
set_option linter.all false
/- The document's word on one fault of one row, by its contract: 5. -/
namespace Go.Proofs.YtfhhcpmoaggdmaaGreat
open Go.RowKit Go.Lib Go.Sort
set_option linter.unusedVariables false

set_option maxRecDepth 40000 in
set_option maxHeartbeats 6400000 in
theorem has5_any (c : Cf) (w : World) (hc : CfV w c) (hf : FitCf c) (row : Nat) (h32 : row ≤ 1000) : Calls Tryz.prog 34 #[cfv c, .int .i64 5, .int .i64 row] w fun e w' => e = .returned (.bool (decide (1 ≤ row ∧ row ≤ c.wn) && anyB (fun k => wM (c.wd (row - 1)) (c.wd k)) (row - 1))) ∧ w.grownBy w' none := by
  obtain ⟨W1, hW, G0, hA⟩ := box1 w 26 #[.int .i64 c.fr, .slice c.wA c.wn c.wc, .slice c.sA c.sn c.sc, .slice c.cA c.cn c.cc]
  obtain ⟨k0, k1, k2, k3⟩ := cf_cells (c := c) hA
  have HA := Lib.hid (show BoxC W1 w.heap.size c from hA)
  have HROW := Lib.hid (hc.1.grown G0)
  replace G0 := Lib.hid G0
  show Calls Tryz.prog 34 #[.agg #[.int .i64 c.fr, .slice c.wA c.wn c.wc, .slice c.sA c.sn c.sc, .slice c.cA c.cn c.cc], .int .i64 5, .int .i64 row] w _
  have hm : c.wn ≤ 9223372036854775807 := by have := hf.2.1; omega
  clear hA hc hf
  by_cases hr0 : row = 0
  · subst hr0
    go_enter Tryz.func34, Tryz.ntmps34
    go_upto_region 1 with (fail)
    rw [← hW]
    clear hW
    go_wp2
    go_loopw [11] (fun x wr => x = .int .i64 0 ∧ wr = W1) (fun x _ => 0)
    case atStart => exact ⟨rfl, rfl⟩
    case round =>
      obtain ⟨rfl, rfl⟩ := hrel
      go_wp2
      go_ret
      exact ⟨by simp, G0.out⟩
  obtain ⟨i, rfl⟩ : ∃ i, row = i + 1 := ⟨row - 1, by omega⟩
  rw [Nat.add_sub_cancel]
  have hw : IntKind.i64.wrap (((i + 1 : Nat) : Int) - 1) = (i : Int) := by rw [IntKind.wrap_i64]; omega
  obtain ⟨r, hr⟩ : ∃ r, r = ((i + 1 : Nat) : Int) := ⟨_, rfl⟩
  rw [← hr] at hw ⊢
  clear hr hr0
  by_cases hin : i < c.wn
  · have hres : (decide (1 ≤ i + 1 ∧ i + 1 ≤ c.wn) && anyB (fun k => wM (c.wd i) (c.wd k)) i) = anyB (fun k => wM (c.wd i) (c.wd k)) i := by
      rw [decide_eq_true (by omega), Bool.true_and]
    rw [hres]
    clear hres
    have HNO := Lib.hid (anyB_no (q := fun k => wM (c.wd i) (c.wd k)) (n := i))
    have HYE := Lib.hid (anyB_iff (q := fun k => wM (c.wd i) (c.wd k)) (n := i))
    generalize anyB (fun k => wM (c.wd i) (c.wd k)) i = z at HNO HYE ⊢
    have i1 : (i : Int) < (c.wn : Int) := by omega
    have i0 : (0 : Int) ≤ (i : Int) := by omega
    go_enter Tryz.func34, Tryz.ntmps34
    go_upto_region 1 with (fail)
    rw [← hW]
    clear hW
    go_wp2
    clear k0 k1 k2 k3
    go_loopw [11] (fun x wr => ∃ k : Nat, x = .int .i64 k ∧ k ≤ i ∧ Hid (∀ j, j < k → wM (c.wd i) (c.wd j) = false) ∧ Hid (BoxC wr w.heap.size c) ∧ Hid (W1.grownBy wr none)) (fun x _ => i - (intOf x).toNat)
    case atStart => exact ⟨0, rfl, by omega, Lib.hid (fun k hk => absurd hk (by omega)), HA, Lib.hid (only_refl _ _)⟩
    case round =>
      obtain ⟨k, rfl, hk, HN, HAW, HG⟩ := hrel
      obtain ⟨k0, k1, k2, k3⟩ := cf_cells HAW.out
      by_cases hki : k < i
      · have l1 : (k : Int) < (i : Int) := by omega
        have l2 : (k : Int) < (c.wn : Int) := by omega
        have l0 : (0 : Int) ≤ (k : Int) := by omega
        obtain ⟨b, off, hsA, hb, hcl⟩ := (HROW.out.grown HG.out).2 (by omega)
        obtain ⟨c0, c1, c2⟩ := hcl i hin
        obtain ⟨d0, d1, d2⟩ := hcl k (by omega)
        rw [hsA] at k1
        clear hsA
        have HX := Lib.hid (show wM (c.wd i) (c.wd k) = true → z = true from fun h => HYE.out.2 ⟨k, hki, h⟩)
        have HX2 := Lib.hid (show wM (c.wd i) (c.wd k) = false → ∀ j, j < k + 1 → wM (c.wd i) (c.wd j) = false from fun h j hj => by
          by_cases e : j = k
          · rw [e]; exact h
          · exact HN.out j (by omega))
        have hn0 : w.heap.size < wr.heap.size := HAW.out.lt
        clear hcl HN
        have hgo : ∃ sx sy, sx = c.wd i ∧ sy = c.wd k := ⟨_, _, rfl, rfl⟩
        obtain ⟨sx, sy, hsx, hsy⟩ := hgo
        rw [← hsx] at c0 c1 c2 HX HX2
        rw [← hsy] at d0 d1 d2 HX
        have HX3 := Lib.hid (show wM sx sy = false → _ from by rw [hsx, hsy]; rw [hsx] at HX2; exact HX2.out)
        clear HX2
        obtain ⟨x1, x2, x3⟩ := sx
        obtain ⟨y1, y2, y3⟩ := sy
        simp only at c0 c1 c2 d0 d1 d2
        replace hsx := Lib.hid hsx
        replace hsy := Lib.hid hsy
        have HMT := Lib.hid (fun W => meets_any (x2, x3) (y2, y3) W)
        have hsm : wM (x1, x2, x3) (y1, y2, y3) = (decide (x1 = y1) || meetsB (x2, x3) (y2, y3)) := rfl
        rw [hsm] at HX HX3
        clear hsm
        generalize meetsB (x2, x3) (y2, y3) = r2 at HMT HX HX3
        by_cases ho : x1 = y1
        · have hd : (x1 == y1) = true := by simpa using ho
          rw [decide_eq_true ho, Bool.true_or] at HX
          clear HX3 ho
          go_upto_region 19 with (fail)
          go_region
          all_goals
            clear c0 c1 c2 d0 d1 d2 k0 k1 k2 k3
            go_wp2
            go_ret
            exact ⟨ret_bool (HX.out (by first | rfl | trivial)).symm, only_trans G0.out (only_trans HG.out (two_only wr _ _))⟩
        · have hd : (x1 == y1) = false := by simpa using ho
          rw [decide_eq_false ho, Bool.false_or] at HX HX3
          clear ho
          go_upto_region 19 with (fail)
          go_region
          all_goals
            clear c0 c1 c2 d0 d1 d2 k0 k1 k2 k3
            go_wp2_with (go_at_call 56; go_loud (with_reducible refine (HMT.out _).mono ?_); rintro e w5 ⟨rfl, g5⟩; go_loud (have A5 := Lib.hid (Blk.only (two_blk HAW.out _ _) g5 (by simp))); go_loud (have G5 := Lib.hid (only_trans HG.out (only_trans (two_only wr _ _) g5))); clear g5; cases r2)
            · go_roundw
              case rel => exact ⟨k + 1, by go_num, by omega, Lib.hid (HX3.out (by first | rfl | trivial)), A5, G5⟩
              case measure => simp [intOf] <;> omega
            · go_ret
              exact ⟨ret_bool (HX.out (by first | rfl | trivial)).symm, only_trans G0.out G5.out⟩
      · obtain rfl : k = i := by omega
        have l1 : ¬ (k : Int) < (k : Int) := by omega
        have HZ := Lib.hid (HNO.out.2 HN.out)
        clear HN
        go_wp2
        go_ret
        exact ⟨ret_bool HZ.out.symm, only_trans G0.out HG.out⟩
  · have hres : (decide (1 ≤ i + 1 ∧ i + 1 ≤ c.wn) && anyB (fun k => wM (c.wd i) (c.wd k)) i) = false := by
      rw [decide_eq_false (by omega), Bool.false_and]
    rw [hres]
    clear hres
    have i1 : ¬ (i : Int) < (c.wn : Int) := by omega
    go_enter Tryz.func34, Tryz.ntmps34
    go_upto_region 1 with (fail)
    rw [← hW]
    clear hW
    go_wp2
    go_loopw [11] (fun x wr => x = .int .i64 0 ∧ wr = W1) (fun x _ => 0)
    case atStart => exact ⟨rfl, rfl⟩
    case round =>
      obtain ⟨rfl, rfl⟩ := hrel
      by_cases h0 : 0 < i
      · have j1 : (0 : Int) < (i : Int) := by omega
        go_wp2
        go_ret
        exact ⟨rfl, G0.out⟩
      · have j1 : ¬ (0 : Int) < (i : Int) := by omega
        go_wp2
        go_ret
        exact ⟨rfl, G0.out⟩
end Go.Proofs.YtfhhcpmoaggdmaaGreat

/- The document's word on one fault of one row, by its contract: 3. -/
namespace Go.Proofs.YtfhhcpmoaggdmaaGreat
open Go.RowKit Go.Lib Go.Sort
set_option linter.unusedVariables false

theorem shB_any (x : Cl) (d : Nat → Cl) (n : Nat) : shB x d n = anyB (fun k => !badC x && (!badC (d k) && cM x (d k))) n := by
  unfold shB
  cases badC x <;> simp [anyB]
/-- Two clients in boxes of their own. -/
def BoxXY (w : World) (gx gy : Nat) (x y : Cl) : Prop := Blk w gx 36 (clA x) ∧ Blk w gy 36 (clA y)
theorem BoxXY.grown {w w' : World} {gx gy : Nat} {x y : Cl} (h : BoxXY w gx gy x y) (g : w.grownBy w' none) : BoxXY w' gx gy x y := ⟨h.1.only g (by simp), h.2.only g (by simp)⟩
theorem cl_cells {w : World} {g : Nat} {x : Cl} (h : Blk w g 36 (clA x)) : w.cell? ⟨g, 0, none⟩ = some (.int .i64 x.base) ∧ w.cell? ⟨g, 1, none⟩ = some (.int .i64 x.size) ∧ w.cell? ⟨g, 2, none⟩ = some (.int .i64 x.ring) ∧ w.cell? ⟨g, 3, none⟩ = some (.int .i64 x.at') ∧ w.cell? ⟨g, 4, none⟩ = some (.int .i64 x.quota) ∧ w.cell? ⟨g, 5, none⟩ = some (.int .i64 x.queue) ∧ w.cell? ⟨g, 6, none⟩ = some (.int .i64 x.mac) ∧ w.cell? ⟨g, 7, none⟩ = some (.int .i64 x.chan) ∧ w.cell? ⟨g, 8, none⟩ = some (.int .i64 x.first) ∧ w.cell? ⟨g, 9, none⟩ = some (.int .i64 x.secs) :=
  ⟨h.cell 0, h.cell 1, h.cell 2, h.cell 3, h.cell 4, h.cell 5, h.cell 6, h.cell 7, h.cell 8, h.cell 9⟩
theorem xy_a (w : World) (x y : Cl) : ∃ W, W = ((w.alloc (.cells (clA x) 36)).alloc (.cells (clA y) 36)).drew ∧ BoxXY W w.heap.size (w.heap.size + 1) x y ∧ w.grownBy W none :=
  ⟨_, rfl, ⟨(((Blk.new w 36 (clA x)).alloc _).drewN 1), by show Blk (World.drewN _ 1) _ _ _; simpa using ((Blk.new (w.alloc (.cells (clA x) 36)) 36 (clA y)).drewN 1)⟩, two_only w _ _⟩
theorem xy_b (w : World) (x y : Cl) : ∃ W, W = ((w.alloc (.cells (clA y) 36)).alloc (.cells (clA x) 36)).drew ∧ BoxXY W (w.heap.size + 1) w.heap.size x y ∧ w.grownBy W none :=
  ⟨_, rfl, ⟨by show Blk (World.drewN _ 1) _ _ _; simpa using ((Blk.new (w.alloc (.cells (clA y) 36)) 36 (clA x)).drewN 1), (((Blk.new w 36 (clA y)).alloc _).drewN 1)⟩, two_only w _ _⟩
set_option maxRecDepth 40000 in
set_option maxHeartbeats 6400000 in
theorem has3_any (c : Cf) (w : World) (hc : CfV w c) (hf : FitCf c) (row : Nat) (h32 : row ≤ 1000) : Calls Tryz.prog 34 #[cfv c, .int .i64 3, .int .i64 row] w fun e w' => e = .returned (.bool (decide (1 ≤ row ∧ row ≤ c.cn) && shB (c.cd (row - 1)) c.cd (row - 1))) ∧ w.grownBy w' none := by
  obtain ⟨W1, hW, G0, hA⟩ := box1 w 26 #[.int .i64 c.fr, .slice c.wA c.wn c.wc, .slice c.sA c.sn c.sc, .slice c.cA c.cn c.cc]
  obtain ⟨k0, k1, k2, k3⟩ := cf_cells (c := c) hA
  have HA := Lib.hid (show BoxC W1 w.heap.size c from hA)
  have HROW := Lib.hid (hc.2.2.grown G0)
  replace G0 := Lib.hid G0
  show Calls Tryz.prog 34 #[.agg #[.int .i64 c.fr, .slice c.wA c.wn c.wc, .slice c.sA c.sn c.sc, .slice c.cA c.cn c.cc], .int .i64 3, .int .i64 row] w _
  have HFT := Lib.hid hf.2.2.2.2.2
  have hm : c.cn ≤ 9223372036854775807 := by have := hf.2.2.2; omega
  clear hA hc hf
  by_cases hr0 : row = 0
  · subst hr0
    go_enter Tryz.func34, Tryz.ntmps34
    go_upto_region 1 with (fail)
    rw [← hW]
    clear hW
    go_wp2
    go_loopw [8] (fun x wr => x = .int .i64 0 ∧ wr = W1) (fun x _ => 0)
    case atStart => exact ⟨rfl, rfl⟩
    case round =>
      obtain ⟨rfl, rfl⟩ := hrel
      go_wp2
      go_ret
      exact ⟨by simp, G0.out⟩
  obtain ⟨i, rfl⟩ : ∃ i, row = i + 1 := ⟨row - 1, by omega⟩
  rw [Nat.add_sub_cancel]
  have hw : IntKind.i64.wrap (((i + 1 : Nat) : Int) - 1) = (i : Int) := by rw [IntKind.wrap_i64]; omega
  obtain ⟨r, hr⟩ : ∃ r, r = ((i + 1 : Nat) : Int) := ⟨_, rfl⟩
  rw [← hr] at hw ⊢
  clear hr hr0
  by_cases hin : i < c.cn
  · have hres : (decide (1 ≤ i + 1 ∧ i + 1 ≤ c.cn) && shB (c.cd i) c.cd i) = shB (c.cd i) c.cd i := by
      rw [decide_eq_true (by omega), Bool.true_and]
    rw [hres, shB_any]
    clear hres
    have HNO := Lib.hid (anyB_no (q := fun k => !badC (c.cd i) && (!badC (c.cd k) && cM (c.cd i) (c.cd k))) (n := i))
    have HYE := Lib.hid (anyB_iff (q := fun k => !badC (c.cd i) && (!badC (c.cd k) && cM (c.cd i) (c.cd k))) (n := i))
    generalize anyB (fun k => !badC (c.cd i) && (!badC (c.cd k) && cM (c.cd i) (c.cd k))) i = z at HNO HYE ⊢
    have i1 : (i : Int) < (c.cn : Int) := by omega
    have i0 : (0 : Int) ≤ (i : Int) := by omega
    go_enter Tryz.func34, Tryz.ntmps34
    go_upto_region 1 with (fail)
    rw [← hW]
    clear hW
    go_wp2
    clear k0 k1 k2 k3
    go_loopw [8] (fun x wr => ∃ k : Nat, x = .int .i64 k ∧ k ≤ i ∧ Hid (∀ j, j < k → (!badC (c.cd i) && (!badC (c.cd j) && cM (c.cd i) (c.cd j))) = false) ∧ Hid (BoxC wr w.heap.size c) ∧ Hid (W1.grownBy wr none)) (fun x _ => i - (intOf x).toNat)
    case atStart => exact ⟨0, rfl, by omega, Lib.hid (fun k hk => absurd hk (by omega)), HA, Lib.hid (only_refl _ _)⟩
    case round =>
      obtain ⟨k, rfl, hk, HN, HAW, HG⟩ := hrel
      obtain ⟨k0, k1, k2, k3⟩ := cf_cells HAW.out
      by_cases hki : k < i
      · have l1 : (k : Int) < (i : Int) := by omega
        have l2 : (k : Int) < (c.cn : Int) := by omega
        have l0 : (0 : Int) ≤ (k : Int) := by omega
        obtain ⟨b, off, hsA, hb, hcl⟩ := (HROW.out.grown HG.out).2 (by omega)
        obtain ⟨c0, c1, c2, c3, c4, c5, c6, c7, c8, c9⟩ := hcl i hin
        obtain ⟨d0, d1, d2, d3, d4, d5, d6, d7, d8, d9⟩ := hcl k (by omega)
        have hfx := HFT.out i hin
        have hfy := HFT.out k (by omega)
        rw [hsA] at k3
        clear hsA
        have HX := Lib.hid (show (!badC (c.cd i) && (!badC (c.cd k) && cM (c.cd i) (c.cd k))) = true → z = true from fun h => HYE.out.2 ⟨k, hki, h⟩)
        have HX2 := Lib.hid (show (!badC (c.cd i) && (!badC (c.cd k) && cM (c.cd i) (c.cd k))) = false → ∀ j, j < k + 1 → (!badC (c.cd i) && (!badC (c.cd j) && cM (c.cd i) (c.cd j))) = false from fun h j hj => by
          by_cases e : j = k
          · rw [e]; exact h
          · exact HN.out j (by omega))
        have hn0 : w.heap.size < wr.heap.size := HAW.out.lt
        clear hcl HN
        obtain ⟨sx, hsx⟩ : ∃ sx, sx = c.cd i := ⟨_, rfl⟩
        obtain ⟨sy, hsy⟩ : ∃ sy, sy = c.cd k := ⟨_, rfl⟩
        have HX3 := Lib.hid (show (!badC sx && (!badC sy && cM sx sy)) = false → ∀ j, j < k + 1 → (!badC (c.cd i) && (!badC (c.cd j) && cM (c.cd i) (c.cd j))) = false from by rw [hsx, hsy]; exact HX2.out)
        have HX4 := Lib.hid (show (!badC sx && (!badC sy && cM sx sy)) = true → z = true from by rw [hsx, hsy]; exact HX.out)
        clear HX2 HX
        rw [← hsx] at c0 c1 c2 c3 c4 c5 c6 c7 c8 c9 hfx
        rw [← hsy] at d0 d1 d2 d3 d4 d5 d6 d7 d8 d9 hfy
        replace hsx := Lib.hid hsx
        replace hsy := Lib.hid hsy
        have HBX := Lib.hid (fun W => rbad_any sx hfx W)
        have HBY := Lib.hid (fun W => rbad_any sy hfy W)
        have HM1 := Lib.hid (show badC sx = false → badC sy = false → ∀ W, Calls Tryz.prog 54 #[.int .i64 sx.base, .int .i64 sx.size, .int .i64 sy.base, .int .i64 sy.size] W (fun e w' => e = .returned (.bool (meetsB (sx.base, sx.base + sx.size) (sy.base, sy.base + sy.size))) ∧ W.grownBy w' none) from fun h1 h2 W => rmeet_any _ _ _ _ (goodC_fit h1).1 (goodC_fit h2).1 W)
        have HM2 := Lib.hid (show badC sx = false → badC sy = false → ∀ W, Calls Tryz.prog 54 #[.int .i64 sx.first, .int .i64 sx.secs, .int .i64 sy.first, .int .i64 sy.secs] W (fun e w' => e = .returned (.bool (meetsB (sx.first, sx.first + sx.secs) (sy.first, sy.first + sy.secs))) ∧ W.grownBy w' none) from fun h1 h2 W => rmeet_any _ _ _ _ (goodC_fit h1).2 (goodC_fit h2).2 W)
        have hcm : cM sx sy = (decide (sx.mac = sy.mac) || decide (sx.chan = sy.chan) || meetsB (sx.base, sx.base + sx.size) (sy.base, sy.base + sy.size) || meetsB (sx.first, sx.first + sx.secs) (sy.first, sy.first + sy.secs)) := rfl
        rw [hcm] at HX4 HX3
        clear hcm
        generalize badC sx = r1 at HBX HM1 HM2 HX4 HX3
        generalize badC sy = r2 at HBY HM1 HM2 HX4 HX3
        generalize meetsB (sx.base, sx.base + sx.size) (sy.base, sy.base + sy.size) = z1 at HM1 HX4 HX3
        generalize meetsB (sx.first, sx.first + sx.secs) (sy.first, sy.first + sy.secs) = z2 at HM2 HX4 HX3
        obtain ⟨x0, x1, x2, x3, x4, x5, x6, x7, x8, x9⟩ := sx
        obtain ⟨y0, y1, y2, y3, y4, y5, y6, y7, y8, y9⟩ := sy
        simp only at c0 c1 c2 c3 c4 c5 c6 c7 c8 c9 d0 d1 d2 d3 d4 d5 d6 d7 d8 d9 HM1 HM2 HX4 HX3
        replace HBX := Lib.hid (show ∀ W, Calls Tryz.prog 53 #[.agg #[.int .i64 x0, .int .i64 x1, .int .i64 x2, .int .i64 x3, .int .i64 x4, .int .i64 x5, .int .i64 x6, .int .i64 x7, .int .i64 x8, .int .i64 x9]] W (fun e w' => e = .returned (.bool r1) ∧ W.grownBy w' none) from HBX.out)
        replace HBY := Lib.hid (show ∀ W, Calls Tryz.prog 53 #[.agg #[.int .i64 y0, .int .i64 y1, .int .i64 y2, .int .i64 y3, .int .i64 y4, .int .i64 y5, .int .i64 y6, .int .i64 y7, .int .i64 y8, .int .i64 y9]] W (fun e w' => e = .returned (.bool r2) ∧ W.grownBy w' none) from HBY.out)
        obtain ⟨bm, hbm⟩ : ∃ bm, bm = decide (x6 = y6) := ⟨_, rfl⟩
        obtain ⟨bc, hbc⟩ : ∃ bc, bc = decide (x7 = y7) := ⟨_, rfl⟩
        rw [← hbm, ← hbc] at HX4 HX3
        have hdm : (x6 == y6) = bm := by rw [hbm]; rfl
        have hdc : (x7 == y7) = bc := by rw [hbc]; rfl
        clear hbm hbc hfx hfy
        go_upto_region 9 with (fail)
        go_cut [9, 10] from 43 to 108 (fun s t wx => ∃ gx gy : Nat, s = .pointer (some ⟨gx, 0, none⟩) ∧ t = .pointer (some ⟨gy, 0, none⟩) ∧ BoxXY wx gx gy ⟨x0, x1, x2, x3, x4, x5, x6, x7, x8, x9⟩ ⟨y0, y1, y2, y3, y4, y5, y6, y7, y8, y9⟩ ∧ BoxC wx w.heap.size c ∧ W1.grownBy wx none)
        case first =>
          go_region
          · obtain ⟨W2, hW2, XY, g2⟩ := xy_a wr ⟨x0, x1, x2, x3, x4, x5, x6, x7, x8, x9⟩ ⟨y0, y1, y2, y3, y4, y5, y6, y7, y8, y9⟩
            have hW3 : W2 = ((wr.alloc (.cells #[.int .i64 x0, .int .i64 x1, .int .i64 x2, .int .i64 x3, .int .i64 x4, .int .i64 x5, .int .i64 x6, .int .i64 x7, .int .i64 x8, .int .i64 x9] 36)).alloc (.cells #[.int .i64 y0, .int .i64 y1, .int .i64 y2, .int .i64 y3, .int .i64 y4, .int .i64 y5, .int .i64 y6, .int .i64 y7, .int .i64 y8, .int .i64 y9] 36)).drew := hW2
            rw [← hW3]
            clear hW2 hW3 c0 c1 c2 c3 c4 c5 c6 c7 c8 c9 d0 d1 d2 d3 d4 d5 d6 d7 d8 d9 k0 k1 k2 k3
            go_wp2_with (fail)
            go_meet
            case rel => exact ⟨_, _, rfl, rfl, XY, Blk.only HAW.out g2 (by simp), only_trans HG.out g2⟩
          · obtain ⟨W2, hW2, XY, g2⟩ := xy_b wr ⟨x0, x1, x2, x3, x4, x5, x6, x7, x8, x9⟩ ⟨y0, y1, y2, y3, y4, y5, y6, y7, y8, y9⟩
            have hW3 : W2 = ((wr.alloc (.cells #[.int .i64 y0, .int .i64 y1, .int .i64 y2, .int .i64 y3, .int .i64 y4, .int .i64 y5, .int .i64 y6, .int .i64 y7, .int .i64 y8, .int .i64 y9] 36)).alloc (.cells #[.int .i64 x0, .int .i64 x1, .int .i64 x2, .int .i64 x3, .int .i64 x4, .int .i64 x5, .int .i64 x6, .int .i64 x7, .int .i64 x8, .int .i64 x9] 36)).drew := hW2
            rw [← hW3]
            clear hW2 hW3 c0 c1 c2 c3 c4 c5 c6 c7 c8 c9 d0 d1 d2 d3 d4 d5 d6 d7 d8 d9 k0 k1 k2 k3
            go_wp2_with (fail)
            go_meet
            case rel => exact ⟨_, _, rfl, rfl, XY, Blk.only HAW.out g2 (by simp), only_trans HG.out g2⟩
        case rest =>
          obtain ⟨gx, gy, rfl, rfl, XY, A5, G5⟩ := hcut
          replace XY := Lib.hid XY
          replace A5 := Lib.hid A5
          replace G5 := Lib.hid G5
          clear c0 c1 c2 c3 c4 c5 c6 c7 c8 c9 d0 d1 d2 d3 d4 d5 d6 d7 d8 d9 k0 k1 k2 k3
          obtain ⟨c0, c1, c2, c3, c4, c5, c6, c7, c8, c9⟩ := cl_cells XY.out.1
          obtain ⟨d0, d1, d2, d3, d4, d5, d6, d7, d8, d9⟩ := cl_cells XY.out.2
          simp only at c0 c1 c2 c3 c4 c5 c6 c7 c8 c9 d0 d1 d2 d3 d4 d5 d6 d7 d8 d9
          cases bm
          · cases bc
            · go_wp2_with (first | (go_at_call 53; (with_reducible refine (HBX.out _).mono ?_); rintro e w5 ⟨rfl, g5⟩; replace A5 := Lib.hid (A5.out.only g5 (by simp)); replace G5 := Lib.hid (only_trans G5.out g5); replace XY := Lib.hid (XY.out.grown g5); clear g5; try clear c0 c1 c2 c3 c4 c5 c6 c7 c8 c9; try clear d0 d1 d2 d3 d4 d5 d6 d7 d8 d9; obtain ⟨c0, c1, c2, c3, c4, c5, c6, c7, c8, c9⟩ := cl_cells XY.out.1; obtain ⟨d0, d1, d2, d3, d4, d5, d6, d7, d8, d9⟩ := cl_cells XY.out.2; simp only at c0 c1 c2 c3 c4 c5 c6 c7 c8 c9 d0 d1 d2 d3 d4 d5 d6 d7 d8 d9; cases r1) | (go_at_call 53; (with_reducible refine (HBY.out _).mono ?_); rintro e w5 ⟨rfl, g5⟩; replace A5 := Lib.hid (A5.out.only g5 (by simp)); replace G5 := Lib.hid (only_trans G5.out g5); replace XY := Lib.hid (XY.out.grown g5); clear g5; try clear c0 c1 c2 c3 c4 c5 c6 c7 c8 c9; try clear d0 d1 d2 d3 d4 d5 d6 d7 d8 d9; obtain ⟨c0, c1, c2, c3, c4, c5, c6, c7, c8, c9⟩ := cl_cells XY.out.1; obtain ⟨d0, d1, d2, d3, d4, d5, d6, d7, d8, d9⟩ := cl_cells XY.out.2; simp only at c0 c1 c2 c3 c4 c5 c6 c7 c8 c9 d0 d1 d2 d3 d4 d5 d6 d7 d8 d9; cases r2) | (go_at_call 54; (with_reducible refine (HM1.out (by first | rfl | trivial) (by first | rfl | trivial) _).mono ?_); rintro e w5 ⟨rfl, g5⟩; replace A5 := Lib.hid (A5.out.only g5 (by simp)); replace G5 := Lib.hid (only_trans G5.out g5); replace XY := Lib.hid (XY.out.grown g5); clear g5; try clear c0 c1 c2 c3 c4 c5 c6 c7 c8 c9; try clear d0 d1 d2 d3 d4 d5 d6 d7 d8 d9; obtain ⟨c0, c1, c2, c3, c4, c5, c6, c7, c8, c9⟩ := cl_cells XY.out.1; obtain ⟨d0, d1, d2, d3, d4, d5, d6, d7, d8, d9⟩ := cl_cells XY.out.2; simp only at c0 c1 c2 c3 c4 c5 c6 c7 c8 c9 d0 d1 d2 d3 d4 d5 d6 d7 d8 d9; cases z1) | (go_at_call 54; (with_reducible refine (HM2.out (by first | rfl | trivial) (by first | rfl | trivial) _).mono ?_); rintro e w5 ⟨rfl, g5⟩; replace A5 := Lib.hid (A5.out.only g5 (by simp)); replace G5 := Lib.hid (only_trans G5.out g5); replace XY := Lib.hid (XY.out.grown g5); clear g5; try clear c0 c1 c2 c3 c4 c5 c6 c7 c8 c9; try clear d0 d1 d2 d3 d4 d5 d6 d7 d8 d9; obtain ⟨c0, c1, c2, c3, c4, c5, c6, c7, c8, c9⟩ := cl_cells XY.out.1; obtain ⟨d0, d1, d2, d3, d4, d5, d6, d7, d8, d9⟩ := cl_cells XY.out.2; simp only at c0 c1 c2 c3 c4 c5 c6 c7 c8 c9 d0 d1 d2 d3 d4 d5 d6 d7 d8 d9; cases z2))
              all_goals first
                | (go_ret
                   exact ⟨ret_bool (HX4.out (by first | rfl | trivial)).symm, only_trans G0.out G5.out⟩)
                | (go_roundw
                   case rel => exact ⟨k + 1, by go_num, by omega, Lib.hid (HX3.out (by first | rfl | trivial)), A5, G5⟩
                   case measure => simp [intOf] <;> omega)
            · go_wp2_with (first | (go_at_call 53; (with_reducible refine (HBX.out _).mono ?_); rintro e w5 ⟨rfl, g5⟩; replace A5 := Lib.hid (A5.out.only g5 (by simp)); replace G5 := Lib.hid (only_trans G5.out g5); replace XY := Lib.hid (XY.out.grown g5); clear g5; try clear c0 c1 c2 c3 c4 c5 c6 c7 c8 c9; try clear d0 d1 d2 d3 d4 d5 d6 d7 d8 d9; obtain ⟨c0, c1, c2, c3, c4, c5, c6, c7, c8, c9⟩ := cl_cells XY.out.1; obtain ⟨d0, d1, d2, d3, d4, d5, d6, d7, d8, d9⟩ := cl_cells XY.out.2; simp only at c0 c1 c2 c3 c4 c5 c6 c7 c8 c9 d0 d1 d2 d3 d4 d5 d6 d7 d8 d9; cases r1) | (go_at_call 53; (with_reducible refine (HBY.out _).mono ?_); rintro e w5 ⟨rfl, g5⟩; replace A5 := Lib.hid (A5.out.only g5 (by simp)); replace G5 := Lib.hid (only_trans G5.out g5); replace XY := Lib.hid (XY.out.grown g5); clear g5; try clear c0 c1 c2 c3 c4 c5 c6 c7 c8 c9; try clear d0 d1 d2 d3 d4 d5 d6 d7 d8 d9; obtain ⟨c0, c1, c2, c3, c4, c5, c6, c7, c8, c9⟩ := cl_cells XY.out.1; obtain ⟨d0, d1, d2, d3, d4, d5, d6, d7, d8, d9⟩ := cl_cells XY.out.2; simp only at c0 c1 c2 c3 c4 c5 c6 c7 c8 c9 d0 d1 d2 d3 d4 d5 d6 d7 d8 d9; cases r2) | (go_at_call 54; (with_reducible refine (HM1.out (by first | rfl | trivial) (by first | rfl | trivial) _).mono ?_); rintro e w5 ⟨rfl, g5⟩; replace A5 := Lib.hid (A5.out.only g5 (by simp)); replace G5 := Lib.hid (only_trans G5.out g5); replace XY := Lib.hid (XY.out.grown g5); clear g5; try clear c0 c1 c2 c3 c4 c5 c6 c7 c8 c9; try clear d0 d1 d2 d3 d4 d5 d6 d7 d8 d9; obtain ⟨c0, c1, c2, c3, c4, c5, c6, c7, c8, c9⟩ := cl_cells XY.out.1; obtain ⟨d0, d1, d2, d3, d4, d5, d6, d7, d8, d9⟩ := cl_cells XY.out.2; simp only at c0 c1 c2 c3 c4 c5 c6 c7 c8 c9 d0 d1 d2 d3 d4 d5 d6 d7 d8 d9; cases z1) | (go_at_call 54; (with_reducible refine (HM2.out (by first | rfl | trivial) (by first | rfl | trivial) _).mono ?_); rintro e w5 ⟨rfl, g5⟩; replace A5 := Lib.hid (A5.out.only g5 (by simp)); replace G5 := Lib.hid (only_trans G5.out g5); replace XY := Lib.hid (XY.out.grown g5); clear g5; try clear c0 c1 c2 c3 c4 c5 c6 c7 c8 c9; try clear d0 d1 d2 d3 d4 d5 d6 d7 d8 d9; obtain ⟨c0, c1, c2, c3, c4, c5, c6, c7, c8, c9⟩ := cl_cells XY.out.1; obtain ⟨d0, d1, d2, d3, d4, d5, d6, d7, d8, d9⟩ := cl_cells XY.out.2; simp only at c0 c1 c2 c3 c4 c5 c6 c7 c8 c9 d0 d1 d2 d3 d4 d5 d6 d7 d8 d9; cases z2))
              all_goals first
                | (go_ret
                   exact ⟨ret_bool (HX4.out (by first | rfl | trivial)).symm, only_trans G0.out G5.out⟩)
                | (go_roundw
                   case rel => exact ⟨k + 1, by go_num, by omega, Lib.hid (HX3.out (by first | rfl | trivial)), A5, G5⟩
                   case measure => simp [intOf] <;> omega)
          · clear hdc
            go_wp2_with (first | (go_at_call 53; (with_reducible refine (HBX.out _).mono ?_); rintro e w5 ⟨rfl, g5⟩; replace A5 := Lib.hid (A5.out.only g5 (by simp)); replace G5 := Lib.hid (only_trans G5.out g5); replace XY := Lib.hid (XY.out.grown g5); clear g5; try clear c0 c1 c2 c3 c4 c5 c6 c7 c8 c9; try clear d0 d1 d2 d3 d4 d5 d6 d7 d8 d9; obtain ⟨c0, c1, c2, c3, c4, c5, c6, c7, c8, c9⟩ := cl_cells XY.out.1; obtain ⟨d0, d1, d2, d3, d4, d5, d6, d7, d8, d9⟩ := cl_cells XY.out.2; simp only at c0 c1 c2 c3 c4 c5 c6 c7 c8 c9 d0 d1 d2 d3 d4 d5 d6 d7 d8 d9; cases r1) | (go_at_call 53; (with_reducible refine (HBY.out _).mono ?_); rintro e w5 ⟨rfl, g5⟩; replace A5 := Lib.hid (A5.out.only g5 (by simp)); replace G5 := Lib.hid (only_trans G5.out g5); replace XY := Lib.hid (XY.out.grown g5); clear g5; try clear c0 c1 c2 c3 c4 c5 c6 c7 c8 c9; try clear d0 d1 d2 d3 d4 d5 d6 d7 d8 d9; obtain ⟨c0, c1, c2, c3, c4, c5, c6, c7, c8, c9⟩ := cl_cells XY.out.1; obtain ⟨d0, d1, d2, d3, d4, d5, d6, d7, d8, d9⟩ := cl_cells XY.out.2; simp only at c0 c1 c2 c3 c4 c5 c6 c7 c8 c9 d0 d1 d2 d3 d4 d5 d6 d7 d8 d9; cases r2) | (go_at_call 54; (with_reducible refine (HM1.out (by first | rfl | trivial) (by first | rfl | trivial) _).mono ?_); rintro e w5 ⟨rfl, g5⟩; replace A5 := Lib.hid (A5.out.only g5 (by simp)); replace G5 := Lib.hid (only_trans G5.out g5); replace XY := Lib.hid (XY.out.grown g5); clear g5; try clear c0 c1 c2 c3 c4 c5 c6 c7 c8 c9; try clear d0 d1 d2 d3 d4 d5 d6 d7 d8 d9; obtain ⟨c0, c1, c2, c3, c4, c5, c6, c7, c8, c9⟩ := cl_cells XY.out.1; obtain ⟨d0, d1, d2, d3, d4, d5, d6, d7, d8, d9⟩ := cl_cells XY.out.2; simp only at c0 c1 c2 c3 c4 c5 c6 c7 c8 c9 d0 d1 d2 d3 d4 d5 d6 d7 d8 d9; cases z1) | (go_at_call 54; (with_reducible refine (HM2.out (by first | rfl | trivial) (by first | rfl | trivial) _).mono ?_); rintro e w5 ⟨rfl, g5⟩; replace A5 := Lib.hid (A5.out.only g5 (by simp)); replace G5 := Lib.hid (only_trans G5.out g5); replace XY := Lib.hid (XY.out.grown g5); clear g5; try clear c0 c1 c2 c3 c4 c5 c6 c7 c8 c9; try clear d0 d1 d2 d3 d4 d5 d6 d7 d8 d9; obtain ⟨c0, c1, c2, c3, c4, c5, c6, c7, c8, c9⟩ := cl_cells XY.out.1; obtain ⟨d0, d1, d2, d3, d4, d5, d6, d7, d8, d9⟩ := cl_cells XY.out.2; simp only at c0 c1 c2 c3 c4 c5 c6 c7 c8 c9 d0 d1 d2 d3 d4 d5 d6 d7 d8 d9; cases z2))
            all_goals first
              | (go_ret
                 exact ⟨ret_bool (HX4.out (by first | rfl | trivial)).symm, only_trans G0.out G5.out⟩)
              | (go_roundw
                 case rel => exact ⟨k + 1, by go_num, by omega, Lib.hid (HX3.out (by first | rfl | trivial)), A5, G5⟩
                 case measure => simp [intOf] <;> omega)
      · obtain rfl : k = i := by omega
        have l1 : ¬ (k : Int) < (k : Int) := by omega
        have HZ := Lib.hid (HNO.out.2 HN.out)
        clear HN
        go_wp2
        go_ret
        exact ⟨ret_bool HZ.out.symm, only_trans G0.out HG.out⟩
  · have hres : (decide (1 ≤ i + 1 ∧ i + 1 ≤ c.cn) && shB (c.cd i) c.cd i) = false := by
      rw [decide_eq_false (by omega), Bool.false_and]
    rw [hres]
    clear hres
    have i1 : ¬ (i : Int) < (c.cn : Int) := by omega
    go_enter Tryz.func34, Tryz.ntmps34
    go_upto_region 1 with (fail)
    rw [← hW]
    clear hW
    go_wp2
    go_loopw [8] (fun x wr => x = .int .i64 0 ∧ wr = W1) (fun x _ => 0)
    case atStart => exact ⟨rfl, rfl⟩
    case round =>
      obtain ⟨rfl, rfl⟩ := hrel
      by_cases h0 : 0 < i
      · have j1 : (0 : Int) < (i : Int) := by omega
        go_wp2
        go_ret
        exact ⟨rfl, G0.out⟩
      · have j1 : ¬ (0 : Int) < (i : Int) := by omega
        go_wp2
        go_ret
        exact ⟨rfl, G0.out⟩
end Go.Proofs.YtfhhcpmoaggdmaaGreat

/- Whether anything is wrong, the document's way, by its contract. -/
namespace Go.Proofs.YtfhhcpmoaggdmaaGreat
open Go.RowKit Go.Lib Go.Sort
set_option linter.unusedVariables false

/-- The document's word on one fault of one row. -/
def hasB (c : Cf) (why row : Nat) : Bool :=
  if why = 2 then decide (1 ≤ row ∧ row ≤ c.cn) && badC (c.cd (row - 1))
  else if why = 3 then decide (1 ≤ row ∧ row ≤ c.cn) && shB (c.cd (row - 1)) c.cd (row - 1)
  else if why = 4 then decide (1 ≤ row ∧ row ≤ c.wn) && badW c (c.wd (row - 1))
  else if why = 5 then decide (1 ≤ row ∧ row ≤ c.wn) && anyB (fun k => wM (c.wd (row - 1)) (c.wd k)) (row - 1)
  else if why = 6 then decide (row ≤ c.cn) && decide (fwI c row < 0)
  else if why = 7 then decide (row = 0) && shwB c
  else if why = 8 then decide (1 ≤ row ∧ row ≤ c.sn) && badS c (c.sd (row - 1))
  else if why = 9 then decide (1 ≤ row ∧ row ≤ c.sn) && anyB (fun k => sM (c.sd (row - 1)) (c.sd k)) (row - 1)
  else decide (1 ≤ row ∧ row ≤ c.cn) && decide (unitsV c row < (c.cd (row - 1)).quota)
theorem has_any (c : Cf) (w : World) (hc : CfV w c) (hf : FitCf c) (hcn : c.cn ≤ 1000) (why row : Nat) (h2 : 2 ≤ why) (h10 : why ≤ 10) (h32 : row ≤ 1000) : Calls Tryz.prog 34 #[cfv c, .int .i64 why, .int .i64 row] w fun e w' => e = .returned (.bool (hasB c why row)) ∧ w.grownBy w' none := by
  have key : why = 2 ∨ why = 3 ∨ why = 4 ∨ why = 5 ∨ why = 6 ∨ why = 7 ∨ why = 8 ∨ why = 9 ∨ why = 10 := by omega
  rcases key with rfl | rfl | rfl | rfl | rfl | rfl | rfl | rfl | rfl
  · exact has2_any c w hc hf row h32
  · exact has3_any c w hc hf row h32
  · exact has4_any c w hc hf row h32
  · exact has5_any c w hc hf row h32
  · exact has6_any c w hc hf row h32
  · exact has7_any c w hc hf row h32 hcn
  · exact has8_any c w hc hf row h32
  · exact has9_any c w hc hf row h32
  · exact has10_any c w hc hf row h32
/-- Nothing is wrong ahead of this fault of this row. -/
def NoneB (c : Cf) (y r : Nat) : Prop := (∀ a, 2 ≤ a → a < y → ∀ b, b ≤ 32 → hasB c a b = false) ∧ ∀ b, b < r → hasB c y b = false
/-- What was told so far. -/
def OutV (c : Cf) (w : World) (s : Value) (wr : World) (y r : Nat) : Prop :=
  ∃ L : List (Int × Int), RowZ 2 wr s L.length (flC L) ∧ (∀ k, s.ownBlock = some k → w.heap.size < k) ∧ L.length ≤ 33 * (y - 2) + r ∧ (L = [] ↔ NoneB c y r) ∧ BoxC wr w.heap.size c ∧ Below w.heap.size w wr
/-- What the document's Faults answers, so far as1 it is asked for. -/
def RFaultsV (c : Cf) (w : World) (e : Ending) (w' : World) : Prop := ∃ A n k, e = .returned (.slice A n k) ∧ (n = 0 ↔ frB c = true ∧ NoneB c 11 0) ∧ n ≤ 1000 ∧ w.grownBy w' none
theorem NoneB.next {c : Cf} {y : Nat} (hy : 2 ≤ y) : NoneB c y 33 ↔ NoneB c (y + 1) 0 := by
  constructor
  · rintro ⟨h1, h2⟩
    refine ⟨fun a ha hl b hb => ?_, fun b hb => by omega⟩
    by_cases e : a = y
    · rw [e]; exact h2 b (by omega)
    · exact h1 a ha (by omega) b hb
  · rintro ⟨h1, h2⟩
    exact ⟨fun a ha hl b hb => h1 a ha (by omega) b hb, fun b hb => h1 y hy (by omega) b (by omega)⟩
theorem NoneB.row {c : Cf} {y r : Nat} : NoneB c y (r + 1) ↔ NoneB c y r ∧ hasB c y r = false := by
  constructor
  · rintro ⟨h1, h2⟩
    exact ⟨⟨h1, fun b hb => h2 b (by omega)⟩, h2 r (by omega)⟩
  · rintro ⟨⟨h1, h2⟩, h3⟩
    refine ⟨h1, fun b hb => ?_⟩
    by_cases e : b = r
    · rw [e]; exact h3
    · exact h2 b (by omega)
theorem OutV.pass {c : Cf} {w wr w2 : World} {s : Value} {y r : Nat} (h : OutV c w s wr y r) (g : wr.grownBy w2 none) (hh : hasB c y r = false) : OutV c w s w2 y (r + 1) := by
  obtain ⟨L, h1, h2, h3, h4, h5, h6⟩ := h
  have hs := h6.size
  exact ⟨L, h1.grown g, h2, by omega, by rw [h4, NoneB.row]; exact ⟨fun x => ⟨x, hh⟩, fun x => x.1⟩, h5.only g (by simp), h6.trans (below_of_only g hs (by simp))⟩
theorem OutV.next {c : Cf} {w wr : World} {s : Value} {y : Nat} (h : OutV c w s wr y 33) (hy : 2 ≤ y) : OutV c w s wr (y + 1) 0 := by
  obtain ⟨L, h1, h2, h3, h4, h5, h6⟩ := h
  exact ⟨L, h1, h2, by omega, by rw [h4, NoneB.next hy], h5, h6⟩
end Go.Proofs.YtfhhcpmoaggdmaaGreat

/- The document's Faults, by its contract. -/
namespace Go.Proofs.YtfhhcpmoaggdmaaGreat
open Go.RowKit Go.Lib Go.Sort
set_option linter.unusedVariables false

theorem only_of_below {w w' : World} (h : Below w.heap.size w w') : w.grownBy w' none := only_far h
set_option maxRecDepth 20000 in
set_option maxHeartbeats 3200000 in
theorem rfaults_any (c : Cf) (w : World) (hc : CfV w c) (hf : FitCf c) : Calls Tryz.prog 7 #[cfv c] w (RFaultsV c w) := by
  obtain ⟨W1, hW, G0, hA⟩ := box1 w 26 #[.int .i64 c.fr, .slice c.wA c.wn c.wc, .slice c.sA c.sn c.sc, .slice c.cA c.cn c.cc]
  obtain ⟨k0, k1, k2, k3⟩ := cf_cells (c := c) hA
  have HCF := Lib.hid (fun (W : World) (g : w.grownBy W none) => (show Calls Tryz.prog 33 #[.agg #[.int .i64 c.fr, .slice c.wA c.wn c.wc, .slice c.sA c.sn c.sc, .slice c.cA c.cn c.cc]] W (fun e w' => e = .returned (.bool (frB c)) ∧ W.grownBy w' none) from rframe_any c W))
  have HFI := Lib.hid (frB_iff (c := c))
  have HHA := Lib.hid (show frB c = true → ∀ (W : World), w.grownBy W none → ∀ (why row : Nat), 2 ≤ why → why ≤ 10 → row ≤ 1000 → Calls Tryz.prog 34 #[.agg #[.int .i64 c.fr, .slice c.wA c.wn c.wc, .slice c.sA c.sn c.sc, .slice c.cA c.cn c.cc], .int .i64 why, .int .i64 row] W (fun e w' => e = .returned (.bool (hasB c why row)) ∧ W.grownBy w' none) from fun hfr W g why row h1 h2 h3 => has_any c W (hc.grown g) hf (by have := frB_iff.1 hfr; omega) why row h1 h2 h3)
  have HA := Lib.hid (show BoxC W1 w.heap.size c from hA)
  have HB1 := Lib.hid (show Below w.heap.size w W1 by rw [hW]; exact (Below.refl _ _).alloc (Nat.le_refl _) _)
  replace G0 := Lib.hid G0
  show Calls Tryz.prog 7 #[.agg #[.int .i64 c.fr, .slice c.wA c.wn c.wc, .slice c.sA c.sn c.sc, .slice c.cA c.cn c.cc]] w _
  clear hA hc hf
  cases hfr : frB c
  · have HV := Lib.hid (show ∀ (A : Option Addr) (k : Nat) (w' : World), w.grownBy w' none → RFaultsV c w (.returned (.slice A 1 k)) w' from fun A k w' g => ⟨A, 1, k, rfl, by rw [hfr]; simp, by omega, g⟩)
    rw [hfr] at HCF
    clear hfr HHA HFI
    go_enter Tryz.func7, Tryz.ntmps7
    go_upto_region 1 with (fail)
    rw [← hW]
    clear hW
    go_wp2_with (go_at_call 33; (with_reducible refine (HCF.out W1 G0.out).mono ?_); rintro e w2 ⟨rfl, g2⟩; have G2 := Lib.hid (only_trans G0.out g2); clear g2)
    go_ret
    exact HV.out _ _ _ (only_alloc G2.out _)
  · have HV := Lib.hid (show ∀ (s : Value) (w' : World), OutV c w s w' 11 0 → RFaultsV c w (.returned s) w' from fun s w' h => by
      obtain ⟨L, h1, h2, h3, h4, h5, h6⟩ := h
      obtain ⟨A, k, rfl⟩ := h1.form
      exact ⟨A, L.length, k, rfl, by rw [hfr, List.length_eq_zero_iff, h4]; simp, by omega, only_of_below h6⟩)
    have HH := Lib.hid (HHA.out hfr)
    rw [hfr] at HCF
    clear hfr HHA HFI
    have HST := Lib.hid (show ∀ w2, W1.grownBy w2 none → OutV c w (.slice (some ⟨w2.heap.size, 0, none⟩) 0 0) (w2.alloc (.cells #[] 83)) 2 0 from fun w2 g => by
      have hs := HB1.out.size
      have hl := HA.out.lt
      have hz := g.size
      refine ⟨[], ?_, fun k hk => ?_, by simp, ⟨fun _ => ⟨fun a ha hl b hb => by omega, fun b hb => by omega⟩, fun _ => rfl⟩, (HA.out.only g (by simp)).alloc _, ((HB1.out.trans (below_of_only g hs (by simp))).alloc (by omega) _)⟩
      · exact RowZ.empty 2 0 (by simp)
      · simp [Value.ownBlock] at hk
        omega)
    go_enter Tryz.func7, Tryz.ntmps7
    go_upto_region 1 with (fail)
    rw [← hW]
    clear hW
    go_wp2_with (go_at_call 33; (with_reducible refine (HCF.out W1 G0.out).mono ?_); rintro e w2 ⟨rfl, g2⟩; have ST := Lib.hid (HST.out w2 g2); clear g2 k0 k1 k2 k3)
    go_loopw [3, 4] (fun s x wr => ∃ y : Nat, x = .int .i64 y ∧ 2 ≤ y ∧ y ≤ 11 ∧ Hid (OutV c w s wr y 0)) (fun s x _ => 11 - (intOf x).toNat)
    case atStart => exact ⟨2, rfl, by omega, by omega, ST⟩
    case round =>
      obtain ⟨y, rfl, hy2, hy, HO⟩ := hrel
      by_cases hy10 : y ≤ 10
      · have i1 : (y : Int) ≤ 10 := by omega
        go_wp2
        go_loopw [3, 5] (fun s x wr => ∃ r : Nat, x = .int .i64 r ∧ r ≤ 33 ∧ Hid (OutV c w s wr y r)) (fun s x _ => 33 - (intOf x).toNat)
        case atStart => exact ⟨0, rfl, by omega, HO⟩
        case round =>
          obtain ⟨r, rfl, hr, HR⟩ := hrel
          by_cases hr32 : r ≤ 32
          · have i2 : (r : Int) ≤ 32 := by omega
            have HCI := Lib.hid (HH.out wr (by obtain ⟨L, _, _, _, _, _, h6⟩ := HR.out; exact only_of_below h6) y r hy2 hy10 (by omega))
            have HPA := Lib.hid (fun w2 => OutV.pass (w2 := w2) HR.out)
            have HRW := Lib.hid (NoneB.row (c := c) (y := y) (r := r))
            generalize hasB c y r = z at HCI HPA HRW
            obtain ⟨k0, k1, k2, k3⟩ := cf_cells (by obtain ⟨L, _, _, _, _, h5, _⟩ := HR.out; exact h5)
            cases z
            · go_wp2_with (go_at_call 34; (with_reducible refine HCI.out.mono ?_); rintro e w2 ⟨rfl, g2⟩; have R2 := Lib.hid (HPA.out _ g2 rfl); clear g2 k0 k1 k2 k3)
              go_roundw
              case rel => exact ⟨r + 1, by go_num, by omega, R2⟩
              case measure => simp [intOf] <;> omega
            · obtain ⟨L, hrow, hown, hlen, hnone, hbox, hbel⟩ := HR.out
              obtain ⟨va, vc, rfl⟩ := hrow.form
              have G3 := Lib.hid (fun (w2 : World) (g2 : wr.grownBy w2 none) => (show ∃ v' w', (Builtin.append_ #[31, 31] 31 #[.slice va L.length vc, .slice (some ⟨w2.heap.size, 0, none⟩) 1 1]).run Tryz.prog (w2.alloc (.cells #[.int .i64 r, .int .i64 y] 83)) = .ok v' w' ∧ OutV c w v' w' y (r + 1) from by
                obtain ⟨i0, hi0, hz0, hz1, hz2⟩ := info_parts fault_info
                have hrow3 := (hrow.grown g2).alloc (.cells #[.int .i64 r, .int .i64 y] 83)
                have hsrc : Src Tryz.prog 2 31 (.slice (some ⟨w2.heap.size, 0, none⟩) 1 1) 1 [.int .i64 r, .int .i64 y] (w2.alloc (.cells #[.int .i64 r, .int .i64 y] 83)) := Src.ofSlice _ Tryz.underlying31 _ _ _ _ rfl (fun j u hu => by
                  have hj := (Blk.new w2 83 #[.int .i64 r, .int .i64 y]).cell j
                  rw [addr_at, Nat.zero_add, hj]
                  simpa using hu) (by simp [Value.oneCell'])
                obtain ⟨v', w', hk, hr3, hg', ho⟩ := run_pushZ (P := Tryz.prog) _ 31 83 31 i0 _ 16 Tryz.underlying31 hi0 hz0 hz1 hz2 (by omega) rfl _ _ _ hrow3 (flC_one _) _ _ hsrc (by omega)
                have hs2 := g2.size
                have hs1 := hbel.size
                have hl := hbox.lt
                have hbox2 := (hbox.only g2 (by simp)).alloc (.cells #[.int .i64 r, .int .i64 y] 83)
                have hbel2 := (hbel.trans (below_of_only g2 hs1 (by simp))).alloc (Nat.le_trans hs1 hs2) (.cells #[.int .i64 r, .int .i64 y] 83)
                refine ⟨v', w', hk, L ++ [((r : Int), (y : Int))], ?_, fun k hk => ?_, ?_, ?_, hbox2.only hg' (fun e => ?_), hbel2.trans (below_of_only hg' hbel2.size (fun k hk => ?_))⟩
                · have e2 : flC (L ++ [((r : Int), (y : Int))]) = flC L ++ [.int .i64 r, .int .i64 y] := by rw [flC_app]; rfl
                  rw [e2, List.length_append]
                  exact hr3
                · rcases ho with ho | ho
                  · exact hown k (ho ▸ hk)
                  · rw [ho] at hk
                    injection hk with hk
                    rw [← hk]
                    simp
                    omega
                · rw [List.length_append]
                  simp
                  omega
                · refine ⟨fun e => ?_, fun e => ?_⟩
                  · simp at e
                  · have := (HRW.out.1 e).2
                    cases this
                · have := hown _ e.symm
                  omega
                · have := hown k hk
                  omega))
              clear hrow hown hlen hnone hbox hbel HR HPA HRW
              generalize L.length = ln at G3 ⊢
              go_wp2_with (first | (go_at_call 34; (with_reducible refine HCI.out.mono ?_); rintro e w2 ⟨rfl, g2⟩; clear k0 k1 k2 k3; obtain ⟨v', w', HK, R2⟩ := G3.out _ g2; clear G3 g2; replace HK := Lib.hid HK; replace R2 := Lib.hid R2) | (at_builtin; refine wpList_append_eq rfl (.tmp 24) (.tmp 28) 31 rfl HK.out rfl rfl ?_))
              go_roundw
              case rel => exact ⟨r + 1, by go_num, by omega, R2⟩
              case measure => simp [intOf] <;> omega
          · obtain rfl : r = 33 := by omega
            have i2 : ¬ ((33 : Nat) : Int) ≤ 32 := by omega
            have R2 := Lib.hid (HR.out.next hy2)
            clear HR
            go_wp2
            go_roundw
            case rel => exact ⟨y + 1, by go_num, by omega, by omega, R2⟩
            case measure => simp [intOf] <;> omega
      · obtain rfl : y = 11 := by omega
        have i1 : ¬ ((11 : Nat) : Int) ≤ 10 := by omega
        go_wp2
        go_ret
        exact HV.out _ _ HO.out
end Go.Proofs.YtfhhcpmoaggdmaaGreat

/- Plain facts: when nothing is wrong; both ways of telling it; a client that is moved. -/
namespace Go.Proofs.YtfhhcpmoaggdmaaGreat
open Go.RowKit Go.Lib Go.Sort
set_option linter.unusedVariables false

theorem askL_nil {p : Int → Bool} {why f : Int} {m : Nat} : askL p why f m = [] ↔ ∀ i : Nat, i < m → p (f + i) = false := by
  induction m with
  | zero => simp [askL]
  | succ m ih =>
    unfold askL
    constructor
    · intro h i hi
      cases hp : p (f + m)
      · rw [hp, if_neg (by decide), ih] at h
        by_cases e : i = m
        · rw [e]; exact hp
        · exact h i (by omega)
      · rw [hp, if_pos rfl] at h
        simp at h
    · intro h
      rw [h m (by omega), if_neg (by decide), ih]
      exact fun i hi => h i (by omega)
/-- Rows from 1 on. -/
theorem ask_rows {p : Int → Bool} {h : Nat → Bool} {why : Int} {n : Nat} (hn : n ≤ 32) (e : ∀ b : Nat, h b = (decide (1 ≤ b ∧ b ≤ n) && p b)) : askL p why 1 n = [] ↔ ∀ b, b ≤ 32 → h b = false := by
  rw [askL_nil]
  constructor
  · intro g b hb
    rw [e]
    by_cases hr : 1 ≤ b ∧ b ≤ n
    · have := g (b - 1) (by omega)
      rw [show (1 : Int) + ((b - 1 : Nat) : Int) = b by omega] at this
      rw [this, Bool.and_false]
    · rw [decide_eq_false hr, Bool.false_and]
  · intro g i hi
    have := g (i + 1) (by omega)
    rw [e, decide_eq_true (by omega), Bool.true_and] at this
    rw [← this]
    congr 1
    omega
theorem ask_own {p : Int → Bool} {h : Nat → Bool} {why : Int} {n : Nat} (hn : n ≤ 32) (e : ∀ b : Nat, h b = (decide (b ≤ n) && p b)) : askL p why 0 (n + 1) = [] ↔ ∀ b, b ≤ 32 → h b = false := by
  rw [askL_nil]
  constructor
  · intro g b hb
    rw [e]
    by_cases hr : b ≤ n
    · have := g b (by omega)
      rw [show (0 : Int) + (b : Int) = b by omega] at this
      rw [this, Bool.and_false]
    · rw [decide_eq_false hr, Bool.false_and]
  · intro g i hi
    have := g i (by omega)
    rw [e, decide_eq_true (by omega), Bool.true_and] at this
    rw [show (0 : Int) + (i : Int) = i by omega]
    exact this
theorem to_row (b : Nat) : ((b : Int) - 1).toNat = b - 1 := by omega
theorem none_nine (c : Cf) : NoneB c 11 0 ↔ (∀ b, b ≤ 32 → hasB c 2 b = false) ∧ (∀ b, b ≤ 32 → hasB c 3 b = false) ∧ (∀ b, b ≤ 32 → hasB c 4 b = false) ∧ (∀ b, b ≤ 32 → hasB c 5 b = false) ∧ (∀ b, b ≤ 32 → hasB c 6 b = false) ∧ (∀ b, b ≤ 32 → hasB c 7 b = false) ∧ (∀ b, b ≤ 32 → hasB c 8 b = false) ∧ (∀ b, b ≤ 32 → hasB c 9 b = false) ∧ (∀ b, b ≤ 32 → hasB c 10 b = false) := by
  constructor
  · rintro ⟨h, _⟩
    exact ⟨h 2 (by omega) (by omega), h 3 (by omega) (by omega), h 4 (by omega) (by omega), h 5 (by omega) (by omega), h 6 (by omega) (by omega), h 7 (by omega) (by omega), h 8 (by omega) (by omega), h 9 (by omega) (by omega), h 10 (by omega) (by omega)⟩
  · rintro ⟨h2, h3, h4, h5, h6, h7, h8, h9, h10⟩
    refine ⟨fun a ha hl b hb => ?_, fun b hb => by omega⟩
    have key : a = 2 ∨ a = 3 ∨ a = 4 ∨ a = 5 ∨ a = 6 ∨ a = 7 ∨ a = 8 ∨ a = 9 ∨ a = 10 := by omega
    rcases key with rfl | rfl | rfl | rfl | rfl | rfl | rfl | rfl | rfl
    · exact h2 b hb
    · exact h3 b hb
    · exact h4 b hb
    · exact h5 b hb
    · exact h6 b hb
    · exact h7 b hb
    · exact h8 b hb
    · exact h9 b hb
    · exact h10 b hb
theorem none_flt (c : Cf) : fltL c = [] ↔ frB c = true ∧ NoneB c 11 0 := by
  unfold fltL
  cases hfr : frB c
  · simp
  · have hb := frB_iff.1 hfr
    rw [if_pos rfl, none_nine]
    have e2 : fl2 c = [] ↔ ∀ b, b ≤ 32 → hasB c 2 b = false := ask_rows (by omega) fun b => by rw [to_row]; rfl
    have e3 : fl3 c = [] ↔ ∀ b, b ≤ 32 → hasB c 3 b = false := ask_rows (by omega) fun b => by rw [to_row]; rfl
    have e4 : fl4 c = [] ↔ ∀ b, b ≤ 32 → hasB c 4 b = false := ask_rows (by omega) fun b => by rw [to_row]; rfl
    have e5 : fl5 c = [] ↔ ∀ b, b ≤ 32 → hasB c 5 b = false := ask_rows (by omega) fun b => by rw [to_row]; rfl
    have e6 : fl6 c = [] ↔ ∀ b, b ≤ 32 → hasB c 6 b = false := ask_own (by omega) fun b => rfl
    have e7 : fl7 c = [] ↔ ∀ b, b ≤ 32 → hasB c 7 b = false := ask_own (n := 0) (by omega) fun b => by
      show (decide (b = 0) && shwB c) = _
      congr 1
      simp
    have e8 : fl8 c = [] ↔ ∀ b, b ≤ 32 → hasB c 8 b = false := ask_rows (by omega) fun b => by rw [to_row]; rfl
    have e9 : fl9 c = [] ↔ ∀ b, b ≤ 32 → hasB c 9 b = false := ask_rows (by omega) fun b => by rw [to_row]; rfl
    have e10 : fl10 c = [] ↔ ∀ b, b ≤ 32 → hasB c 10 b = false := ask_rows (by omega) fun b => by rw [to_row]; rfl
    simp only [List.append_eq_nil_iff, e2, e3, e4, e5, e6, e7, e8, e9, e10, and_assoc, true_and]
end Go.Proofs.YtfhhcpmoaggdmaaGreat

/- Plain facts: tables that are right, and a client that is moved. -/
namespace Go.Proofs.YtfhhcpmoaggdmaaGreat
open Go.RowKit Go.Lib Go.Sort
set_option linter.unusedVariables false

theorem meetsC_symm (a b : Int × Int) : meetsB a b = meetsB b a := by
  unfold meetsB
  rw [Bool.and_comm (isB a), Bool.or_comm]
/-- What is right with tables, but for the clients' own rows. -/
def RestC (c : Cf) : Prop := fl4 c = [] ∧ fl5 c = [] ∧ fl6 c = [] ∧ fl7 c = [] ∧ fl8 c = [] ∧ fl9 c = [] ∧ fl10 c = []
theorem right_iff (c : Cf) : fltL c = [] ↔ frB c = true ∧ (∀ i, i < c.cn → badC (c.cd i) = false) ∧ (∀ i, i < c.cn → ∀ j, j < i → cM (c.cd i) (c.cd j) = false) ∧ RestC c := by
  unfold fltL
  cases hfr : frB c
  · simp
  · have e2 : fl2 c = [] ↔ ∀ i, i < c.cn → badC (c.cd i) = false := by
      unfold fl2
      rw [askL_nil]
      constructor
      · intro h i hi
        have := h i hi
        rw [show ((1 : Int) + (i : Int) - 1).toNat = i by omega] at this
        exact this
      · intro h i hi
        rw [show ((1 : Int) + (i : Int) - 1).toNat = i by omega]
        exact h i hi
    have e3 : fl3 c = [] ↔ ∀ i, i < c.cn → shB (c.cd i) c.cd i = false := by
      unfold fl3
      rw [askL_nil]
      constructor
      · intro h i hi
        have := h i hi
        rw [show ((1 : Int) + (i : Int) - 1).toNat = i by omega] at this
        exact this
      · intro h i hi
        rw [show ((1 : Int) + (i : Int) - 1).toNat = i by omega]
        exact h i hi
    simp only [if_pos, List.append_eq_nil_iff, e2, e3, and_assoc, true_and, RestC]
    constructor
    · rintro ⟨h2, h3, h⟩
      refine ⟨h2, fun i hi j hj => ?_, h⟩
      have := h3 i hi
      rw [shB_any, anyB_no] at this
      have := this j hj
      rw [h2 i hi, h2 j (by omega)] at this
      simpa using this
    · rintro ⟨h2, h3, h⟩
      refine ⟨h2, fun i hi => ?_, h⟩
      rw [shB_any, anyB_no]
      intro j hj
      rw [h3 i hi j hj, Bool.and_false, Bool.and_false]
/-- Tables with one client moved. -/
def movC (c : Cf) (k : Nat) (b : Int) (A : Option Addr) (cap : Nat) : Cf := { c with cA := A, cc := cap, cd := fun j => if j = k then { c.cd k with base := b } else c.cd j }
theorem mov_at (c : Cf) (k : Nat) (b : Int) (A : Option Addr) (cap : Nat) : (movC c k b A cap).cd k = { c.cd k with base := b } := if_pos rfl
theorem mov_off (c : Cf) {k j : Nat} (b : Int) (A : Option Addr) (cap : Nat) (h : j ≠ k) : (movC c k b A cap).cd j = c.cd j := if_neg h
theorem mov_quota (c : Cf) (k j : Nat) (b : Int) (A : Option Addr) (cap : Nat) : ((movC c k b A cap).cd j).quota = (c.cd j).quota := by
  by_cases h : j = k
  · rw [h, mov_at]
  · rw [mov_off c b A cap h]
theorem mov_units (c : Cf) (k : Nat) (b : Int) (A : Option Addr) (cap : Nat) (o : Int) : unitsV (movC c k b A cap) o = unitsV c o := by
  have h : ∀ n, unZ (movC c k b A cap) o n = unZ c o n := by
    intro n
    induction n with
    | zero => rfl
    | succ n ih =>
      unfold unZ
      rw [ih]
      rfl
  unfold unitsV
  rw [h]
  rfl
theorem mov_rest (c : Cf) (k : Nat) (b : Int) (A : Option Addr) (cap : Nat) : RestC (movC c k b A cap) ↔ RestC c := by
  have e10 : fl10 (movC c k b A cap) = fl10 c := by
    unfold fl10
    congr 1
    funext r
    rw [mov_units, mov_quota]
  unfold RestC
  rw [e10]
  rfl
theorem meets_apart {a n b m : Int} (ha : 0 ≤ a) (hn : 0 < n) (hb : 0 ≤ b) (hm : 0 < m) : meetsB (a, a + n) (b, b + m) = false ↔ a + n ≤ b ∨ b + m ≤ a := by
  unfold meetsB isB holdsB
  simp only [Bool.and_eq_false_iff, Bool.or_eq_false_iff, decide_eq_false_iff_not]
  omega
/-- May the client stand there? -/
def FreeP (c : Cf) (k : Nat) (b : Int) : Prop := 128 ≤ b ∧ b ≤ 16384 - (c.cd k).size ∧ ∀ j, j < c.cn → j = k ∨ (c.cd j).base + (c.cd j).size ≤ b ∨ b + (c.cd k).size ≤ (c.cd j).base
theorem good_size {x : Cl} (h : badC x = false) : 32 ≤ x.size ∧ x.size ≤ 1024 ∧ 128 ≤ x.base ∧ x.base ≤ 16384 - x.size := by
  have := badC_no.1 h
  unfold GoodC at this
  omega
theorem moved_iff (c : Cf) (k : Nat) (b : Int) (A : Option Addr) (cap : Nat) (hk : k < c.cn) (h : fltL c = []) : fltL (movC c k b A cap) = [] ↔ FreeP c k b := by
  obtain ⟨h1, h2, h3, h4⟩ := (right_iff c).1 h
  have hkk := good_size (h2 k hk)
  have hbk : badC { c.cd k with base := b } = false ↔ 128 ≤ b ∧ b ≤ 16384 - (c.cd k).size := by
    have g := badC_no.1 (h2 k hk)
    rw [badC_no]
    unfold GoodC at g ⊢
    simp only
    constructor
    · intro q; exact ⟨q.2.2.1, q.2.2.2.1⟩
    · intro q; exact ⟨g.1, g.2.1, q.1, q.2, g.2.2.2.2⟩
  have hM : ∀ i j, i < c.cn → j < i → cM (c.cd i) (c.cd j) = false ∧ cM (c.cd j) (c.cd i) = false := fun i j hi hj => by
    have := h3 i hi j hj
    refine ⟨this, ?_⟩
    unfold cM at this ⊢
    rw [meetsC_symm _ ((c.cd i).base, _), meetsC_symm _ ((c.cd i).first, _), show decide ((c.cd j).mac = (c.cd i).mac) = decide ((c.cd i).mac = (c.cd j).mac) from decide_eq_decide.2 ⟨Eq.symm, Eq.symm⟩, show decide ((c.cd j).chan = (c.cd i).chan) = decide ((c.cd i).chan = (c.cd j).chan) from decide_eq_decide.2 ⟨Eq.symm, Eq.symm⟩]
    exact this
  have hM2 : ∀ j, j < c.cn → j ≠ k → cM (c.cd k) (c.cd j) = false ∧ cM (c.cd j) (c.cd k) = false := fun j hj hne => by
    by_cases hlt : j < k
    · exact hM k j hk hlt
    · exact (hM j k hj (by omega)).symm
  have hX : ∀ j, j < c.cn → j ≠ k → cM { c.cd k with base := b } (c.cd j) = meetsB (b, b + (c.cd k).size) ((c.cd j).base, (c.cd j).base + (c.cd j).size) := fun j hj hne => by
    have := (hM2 j hj hne).1
    unfold cM at this ⊢
    simp only [Bool.or_eq_false_iff] at this
    obtain ⟨⟨⟨m1, m2⟩, m3⟩, m4⟩ := this
    simp only [m1, m2, m4, Bool.false_or, Bool.or_false]
  have hY : ∀ j, j < c.cn → j ≠ k → cM (c.cd j) { c.cd k with base := b } = meetsB (b, b + (c.cd k).size) ((c.cd j).base, (c.cd j).base + (c.cd j).size) := fun j hj hne => by
    have := (hM2 j hj hne).2
    unfold cM at this ⊢
    simp only [Bool.or_eq_false_iff] at this
    obtain ⟨⟨⟨m1, m2⟩, m3⟩, m4⟩ := this
    simp only [m1, m2, m4, Bool.false_or, Bool.or_false]
    exact meetsC_symm _ _
  rw [right_iff, mov_rest]
  have e1 : frB (movC c k b A cap) = true := h1
  constructor
  · rintro ⟨_, g2, g3, _⟩
    have gk := g2 k hk
    rw [mov_at, hbk] at gk
    refine ⟨gk.1, gk.2, fun j hj => ?_⟩
    by_cases e : j = k
    · exact .inl e
    · right
      have hj2 := good_size (h2 j hj)
      have hz : meetsB (b, b + (c.cd k).size) ((c.cd j).base, (c.cd j).base + (c.cd j).size) = false := by
        by_cases hlt : j < k
        · have := g3 k hk j hlt
          rw [mov_at, mov_off c b A cap e, hX j hj e] at this
          exact this
        · have := g3 j hj k (by omega)
          rw [mov_at, mov_off c b A cap e, hY j hj e] at this
          exact this
      rw [meets_apart (by omega) (by omega) (by omega) (by omega)] at hz
      omega
  · rintro ⟨f1, f2, f3⟩
    have hz : ∀ j, j < c.cn → j ≠ k → meetsB (b, b + (c.cd k).size) ((c.cd j).base, (c.cd j).base + (c.cd j).size) = false := fun j hj e => by
      have hj2 := good_size (h2 j hj)
      rw [meets_apart (by omega) (by omega) (by omega) (by omega)]
      rcases f3 j hj with q | q | q
      · exact absurd q e
      · exact .inr q
      · exact .inl q
    refine ⟨e1, fun i hi => ?_, fun i hi j hj => ?_, h4⟩
    · by_cases e : i = k
      · rw [e, mov_at, hbk]; exact ⟨f1, f2⟩
      · rw [mov_off c b A cap e]; exact h2 i hi
    · have hi' : i < c.cn := hi
      by_cases e : i = k
      · have ej : j ≠ k := by omega
        rw [e, mov_at, mov_off c b A cap ej, hX j (by omega) ej]
        exact hz j (by omega) ej
      · rw [mov_off c b A cap e]
        by_cases ej : j = k
        · rw [ej, mov_at, hY i hi' e]
          exact hz i hi' e
        · rw [mov_off c b A cap ej]
          exact h3 i hi' j hj
end Go.Proofs.YtfhhcpmoaggdmaaGreat
