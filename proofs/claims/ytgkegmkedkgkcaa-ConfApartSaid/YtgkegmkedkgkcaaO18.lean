/- The document's word on one fault of one row, by its contract: 3. -/
import Derived.Test.YtgkegmkedkgkcaaO17
import Derived.Deep.CutRange
import Derived.BigRegion
namespace Go.Proofs.Ytgkegmkedkgkcaa
open Go.RowKit Go.Lib Go.Sort
set_option linter.unusedVariables false

theorem shB_any (x : Cl) (d : Nat → Cl) (n : Nat) : shB x d n = anyB (fun k => !badC x && (!badC (d k) && cM x (d k))) n := by
  unfold shB
  cases badC x <;> simp [anyB]
/-- Two clients in boxes of their own. -/
def BoxXY (w : World) (gx gy : Nat) (x y : Cl) : Prop := Blk w gx 43 (clA x) ∧ Blk w gy 43 (clA y)
theorem BoxXY.grown {w w' : World} {gx gy : Nat} {x y : Cl} (h : BoxXY w gx gy x y) (g : w.grownBy w' none) : BoxXY w' gx gy x y := ⟨h.1.only g (by simp), h.2.only g (by simp)⟩
theorem cl_cells {w : World} {g : Nat} {x : Cl} (h : Blk w g 43 (clA x)) : w.cell? ⟨g, 0, none⟩ = some (.int .i64 x.base) ∧ w.cell? ⟨g, 1, none⟩ = some (.int .i64 x.size) ∧ w.cell? ⟨g, 2, none⟩ = some (.int .i64 x.ring) ∧ w.cell? ⟨g, 3, none⟩ = some (.int .i64 x.at') ∧ w.cell? ⟨g, 4, none⟩ = some (.int .i64 x.quota) ∧ w.cell? ⟨g, 5, none⟩ = some (.int .i64 x.queue) ∧ w.cell? ⟨g, 6, none⟩ = some (.int .i64 x.mac) ∧ w.cell? ⟨g, 7, none⟩ = some (.int .i64 x.chan) ∧ w.cell? ⟨g, 8, none⟩ = some (.int .i64 x.first) ∧ w.cell? ⟨g, 9, none⟩ = some (.int .i64 x.secs) :=
  ⟨h.cell 0, h.cell 1, h.cell 2, h.cell 3, h.cell 4, h.cell 5, h.cell 6, h.cell 7, h.cell 8, h.cell 9⟩
theorem xy_a (w : World) (x y : Cl) : ∃ W, W = ((w.alloc (.cells (clA x) 43)).alloc (.cells (clA y) 43)).drew ∧ BoxXY W w.heap.size (w.heap.size + 1) x y ∧ w.grownBy W none :=
  ⟨_, rfl, ⟨(((Blk.new w 43 (clA x)).alloc _).drewN 1), by show Blk (World.drewN _ 1) _ _ _; simpa using ((Blk.new (w.alloc (.cells (clA x) 43)) 43 (clA y)).drewN 1)⟩, two_only w _ _⟩
theorem xy_b (w : World) (x y : Cl) : ∃ W, W = ((w.alloc (.cells (clA y) 43)).alloc (.cells (clA x) 43)).drew ∧ BoxXY W (w.heap.size + 1) w.heap.size x y ∧ w.grownBy W none :=
  ⟨_, rfl, ⟨by show Blk (World.drewN _ 1) _ _ _; simpa using ((Blk.new (w.alloc (.cells (clA y) 43)) 43 (clA x)).drewN 1), (((Blk.new w 43 (clA y)).alloc _).drewN 1)⟩, two_only w _ _⟩
set_option maxRecDepth 40000 in
set_option maxHeartbeats 6400000 in
theorem has3_any (c : Cf) (w : World) (hc : CfV w c) (hf : FitCf c) (row : Nat) (h32 : row ≤ 1000) : Calls Try.prog 14 #[cfv c, .int .i64 3, .int .i64 row] w fun e w' => e = .returned (.bool (decide (1 ≤ row ∧ row ≤ c.cn) && shB (c.cd (row - 1)) c.cd (row - 1))) ∧ w.grownBy w' none := by
  obtain ⟨W1, hW, G0, hA⟩ := box1 w 26 #[.int .i64 c.fr, .slice c.wA c.wn c.wc, .slice c.sA c.sn c.sc, .slice c.cA c.cn c.cc]
  obtain ⟨k0, k1, k2, k3⟩ := cf_cells (c := c) hA
  have HA := Lib.hid (show BoxC W1 w.heap.size c from hA)
  have HROW := Lib.hid (hc.2.2.grown G0)
  replace G0 := Lib.hid G0
  show Calls Try.prog 14 #[.agg #[.int .i64 c.fr, .slice c.wA c.wn c.wc, .slice c.sA c.sn c.sc, .slice c.cA c.cn c.cc], .int .i64 3, .int .i64 row] w _
  have HFT := Lib.hid hf.2.2.2.2.2
  have hm : c.cn ≤ 9223372036854775807 := by have := hf.2.2.2; omega
  clear hA hc hf
  by_cases hr0 : row = 0
  · subst hr0
    go_enter Try.func14, Try.ntmps14
    go_upto_region 1 with (fail)
    rw [← hW]
    clear hW
    go_wp2
    go_loopw [8] (fun x wr => x = .int .i64 0 ∧ wr = W1) (fun x _ => 0)
    case atStart => exact ⟨rfl, rfl⟩
    case round =>
      obtain ⟨rfl, rfl⟩ := hrel
      go_wp2
      go_ret
      exact ⟨by simp, G0.out⟩
  obtain ⟨i, rfl⟩ : ∃ i, row = i + 1 := ⟨row - 1, by omega⟩
  rw [Nat.add_sub_cancel]
  have hw : IntKind.i64.wrap (((i + 1 : Nat) : Int) - 1) = (i : Int) := by rw [IntKind.wrap_i64]; omega
  obtain ⟨r, hr⟩ : ∃ r, r = ((i + 1 : Nat) : Int) := ⟨_, rfl⟩
  rw [← hr] at hw ⊢
  clear hr hr0
  by_cases hin : i < c.cn
  · have hres : (decide (1 ≤ i + 1 ∧ i + 1 ≤ c.cn) && shB (c.cd i) c.cd i) = shB (c.cd i) c.cd i := by
      rw [decide_eq_true (by omega), Bool.true_and]
    rw [hres, shB_any]
    clear hres
    have HNO := Lib.hid (anyB_no (q := fun k => !badC (c.cd i) && (!badC (c.cd k) && cM (c.cd i) (c.cd k))) (n := i))
    have HYE := Lib.hid (anyB_iff (q := fun k => !badC (c.cd i) && (!badC (c.cd k) && cM (c.cd i) (c.cd k))) (n := i))
    generalize anyB (fun k => !badC (c.cd i) && (!badC (c.cd k) && cM (c.cd i) (c.cd k))) i = z at HNO HYE ⊢
    have i1 : (i : Int) < (c.cn : Int) := by omega
    have i0 : (0 : Int) ≤ (i : Int) := by omega
    go_enter Try.func14, Try.ntmps14
    go_upto_region 1 with (fail)
    rw [← hW]
    clear hW
    go_wp2
    clear k0 k1 k2 k3
    go_loopw [8] (fun x wr => ∃ k : Nat, x = .int .i64 k ∧ k ≤ i ∧ Hid (∀ j, j < k → (!badC (c.cd i) && (!badC (c.cd j) && cM (c.cd i) (c.cd j))) = false) ∧ Hid (BoxC wr w.heap.size c) ∧ Hid (W1.grownBy wr none)) (fun x _ => i - (intOf x).toNat)
    case atStart => exact ⟨0, rfl, by omega, Lib.hid (fun k hk => absurd hk (by omega)), HA, Lib.hid (only_refl _ _)⟩
    case round =>
      obtain ⟨k, rfl, hk, HN, HAW, HG⟩ := hrel
      obtain ⟨k0, k1, k2, k3⟩ := cf_cells HAW.out
      by_cases hki : k < i
      · have l1 : (k : Int) < (i : Int) := by omega
        have l2 : (k : Int) < (c.cn : Int) := by omega
        have l0 : (0 : Int) ≤ (k : Int) := by omega
        obtain ⟨b, off, hsA, hb, hcl⟩ := (HROW.out.grown HG.out).2 (by omega)
        obtain ⟨c0, c1, c2, c3, c4, c5, c6, c7, c8, c9⟩ := hcl i hin
        obtain ⟨d0, d1, d2, d3, d4, d5, d6, d7, d8, d9⟩ := hcl k (by omega)
        have hfx := HFT.out i hin
        have hfy := HFT.out k (by omega)
        rw [hsA] at k3
        clear hsA
        have HX := Lib.hid (show (!badC (c.cd i) && (!badC (c.cd k) && cM (c.cd i) (c.cd k))) = true → z = true from fun h => HYE.out.2 ⟨k, hki, h⟩)
        have HX2 := Lib.hid (show (!badC (c.cd i) && (!badC (c.cd k) && cM (c.cd i) (c.cd k))) = false → ∀ j, j < k + 1 → (!badC (c.cd i) && (!badC (c.cd j) && cM (c.cd i) (c.cd j))) = false from fun h j hj => by
          by_cases e : j = k
          · rw [e]; exact h
          · exact HN.out j (by omega))
        have hn0 : w.heap.size < wr.heap.size := HAW.out.lt
        clear hcl HN
        obtain ⟨sx, hsx⟩ : ∃ sx, sx = c.cd i := ⟨_, rfl⟩
        obtain ⟨sy, hsy⟩ : ∃ sy, sy = c.cd k := ⟨_, rfl⟩
        have HX3 := Lib.hid (show (!badC sx && (!badC sy && cM sx sy)) = false → ∀ j, j < k + 1 → (!badC (c.cd i) && (!badC (c.cd j) && cM (c.cd i) (c.cd j))) = false from by rw [hsx, hsy]; exact HX2.out)
        have HX4 := Lib.hid (show (!badC sx && (!badC sy && cM sx sy)) = true → z = true from by rw [hsx, hsy]; exact HX.out)
        clear HX2 HX
        rw [← hsx] at c0 c1 c2 c3 c4 c5 c6 c7 c8 c9 hfx
        rw [← hsy] at d0 d1 d2 d3 d4 d5 d6 d7 d8 d9 hfy
        replace hsx := Lib.hid hsx
        replace hsy := Lib.hid hsy
        have HBX := Lib.hid (fun W => rbad_any sx hfx W)
        have HBY := Lib.hid (fun W => rbad_any sy hfy W)
        have HM1 := Lib.hid (show badC sx = false → badC sy = false → ∀ W, Calls Try.prog 36 #[.int .i64 sx.base, .int .i64 sx.size, .int .i64 sy.base, .int .i64 sy.size] W (fun e w' => e = .returned (.bool (meetsB (sx.base, sx.base + sx.size) (sy.base, sy.base + sy.size))) ∧ W.grownBy w' none) from fun h1 h2 W => rmeet_any _ _ _ _ (goodC_fit h1).1 (goodC_fit h2).1 W)
        have HM2 := Lib.hid (show badC sx = false → badC sy = false → ∀ W, Calls Try.prog 36 #[.int .i64 sx.first, .int .i64 sx.secs, .int .i64 sy.first, .int .i64 sy.secs] W (fun e w' => e = .returned (.bool (meetsB (sx.first, sx.first + sx.secs) (sy.first, sy.first + sy.secs))) ∧ W.grownBy w' none) from fun h1 h2 W => rmeet_any _ _ _ _ (goodC_fit h1).2 (goodC_fit h2).2 W)
        have hcm : cM sx sy = (decide (sx.mac = sy.mac) || decide (sx.chan = sy.chan) || meetsB (sx.base, sx.base + sx.size) (sy.base, sy.base + sy.size) || meetsB (sx.first, sx.first + sx.secs) (sy.first, sy.first + sy.secs)) := rfl
        rw [hcm] at HX4 HX3
        clear hcm
        generalize badC sx = r1 at HBX HM1 HM2 HX4 HX3
        generalize badC sy = r2 at HBY HM1 HM2 HX4 HX3
        generalize meetsB (sx.base, sx.base + sx.size) (sy.base, sy.base + sy.size) = z1 at HM1 HX4 HX3
        generalize meetsB (sx.first, sx.first + sx.secs) (sy.first, sy.first + sy.secs) = z2 at HM2 HX4 HX3
        obtain ⟨x0, x1, x2, x3, x4, x5, x6, x7, x8, x9⟩ := sx
        obtain ⟨y0, y1, y2, y3, y4, y5, y6, y7, y8, y9⟩ := sy
        simp only at c0 c1 c2 c3 c4 c5 c6 c7 c8 c9 d0 d1 d2 d3 d4 d5 d6 d7 d8 d9 HM1 HM2 HX4 HX3
        replace HBX := Lib.hid (show ∀ W, Calls Try.prog 35 #[.agg #[.int .i64 x0, .int .i64 x1, .int .i64 x2, .int .i64 x3, .int .i64 x4, .int .i64 x5, .int .i64 x6, .int .i64 x7, .int .i64 x8, .int .i64 x9]] W (fun e w' => e = .returned (.bool r1) ∧ W.grownBy w' none) from HBX.out)
        replace HBY := Lib.hid (show ∀ W, Calls Try.prog 35 #[.agg #[.int .i64 y0, .int .i64 y1, .int .i64 y2, .int .i64 y3, .int .i64 y4, .int .i64 y5, .int .i64 y6, .int .i64 y7, .int .i64 y8, .int .i64 y9]] W (fun e w' => e = .returned (.bool r2) ∧ W.grownBy w' none) from HBY.out)
        obtain ⟨bm, hbm⟩ : ∃ bm, bm = decide (x6 = y6) := ⟨_, rfl⟩
        obtain ⟨bc, hbc⟩ : ∃ bc, bc = decide (x7 = y7) := ⟨_, rfl⟩
        rw [← hbm, ← hbc] at HX4 HX3
        have hdm : (x6 == y6) = bm := by rw [hbm]; rfl
        have hdc : (x7 == y7) = bc := by rw [hbc]; rfl
        clear hbm hbc hfx hfy
        go_upto_region 9 with (fail)
        go_cut [9, 10] from 43 to 108 (fun s t wx => ∃ gx gy : Nat, s = .pointer (some ⟨gx, 0, none⟩) ∧ t = .pointer (some ⟨gy, 0, none⟩) ∧ BoxXY wx gx gy ⟨x0, x1, x2, x3, x4, x5, x6, x7, x8, x9⟩ ⟨y0, y1, y2, y3, y4, y5, y6, y7, y8, y9⟩ ∧ BoxC wx w.heap.size c ∧ W1.grownBy wx none)
        case first =>
          go_region
          · obtain ⟨W2, hW2, XY, g2⟩ := xy_a wr ⟨x0, x1, x2, x3, x4, x5, x6, x7, x8, x9⟩ ⟨y0, y1, y2, y3, y4, y5, y6, y7, y8, y9⟩
            have hW3 : W2 = ((wr.alloc (.cells #[.int .i64 x0, .int .i64 x1, .int .i64 x2, .int .i64 x3, .int .i64 x4, .int .i64 x5, .int .i64 x6, .int .i64 x7, .int .i64 x8, .int .i64 x9] 43)).alloc (.cells #[.int .i64 y0, .int .i64 y1, .int .i64 y2, .int .i64 y3, .int .i64 y4, .int .i64 y5, .int .i64 y6, .int .i64 y7, .int .i64 y8, .int .i64 y9] 43)).drew := hW2
            rw [← hW3]
            clear hW2 hW3 c0 c1 c2 c3 c4 c5 c6 c7 c8 c9 d0 d1 d2 d3 d4 d5 d6 d7 d8 d9 k0 k1 k2 k3
            go_wp2_with (fail)
            go_meet
            case rel => exact ⟨_, _, rfl, rfl, XY, Blk.only HAW.out g2 (by simp), only_trans HG.out g2⟩
          · obtain ⟨W2, hW2, XY, g2⟩ := xy_b wr ⟨x0, x1, x2, x3, x4, x5, x6, x7, x8, x9⟩ ⟨y0, y1, y2, y3, y4, y5, y6, y7, y8, y9⟩
            have hW3 : W2 = ((wr.alloc (.cells #[.int .i64 y0, .int .i64 y1, .int .i64 y2, .int .i64 y3, .int .i64 y4, .int .i64 y5, .int .i64 y6, .int .i64 y7, .int .i64 y8, .int .i64 y9] 43)).alloc (.cells #[.int .i64 x0, .int .i64 x1, .int .i64 x2, .int .i64 x3, .int .i64 x4, .int .i64 x5, .int .i64 x6, .int .i64 x7, .int .i64 x8, .int .i64 x9] 43)).drew := hW2
            rw [← hW3]
            clear hW2 hW3 c0 c1 c2 c3 c4 c5 c6 c7 c8 c9 d0 d1 d2 d3 d4 d5 d6 d7 d8 d9 k0 k1 k2 k3
            go_wp2_with (fail)
            go_meet
            case rel => exact ⟨_, _, rfl, rfl, XY, Blk.only HAW.out g2 (by simp), only_trans HG.out g2⟩
        case rest =>
          obtain ⟨gx, gy, rfl, rfl, XY, A5, G5⟩ := hcut
          replace XY := Lib.hid XY
          replace A5 := Lib.hid A5
          replace G5 := Lib.hid G5
          clear c0 c1 c2 c3 c4 c5 c6 c7 c8 c9 d0 d1 d2 d3 d4 d5 d6 d7 d8 d9 k0 k1 k2 k3
          obtain ⟨c0, c1, c2, c3, c4, c5, c6, c7, c8, c9⟩ := cl_cells XY.out.1
          obtain ⟨d0, d1, d2, d3, d4, d5, d6, d7, d8, d9⟩ := cl_cells XY.out.2
          simp only at c0 c1 c2 c3 c4 c5 c6 c7 c8 c9 d0 d1 d2 d3 d4 d5 d6 d7 d8 d9
          cases bm
          · cases bc
            · go_wp2_with (first | (go_at_call 35; (with_reducible refine (HBX.out _).mono ?_); rintro e w5 ⟨rfl, g5⟩; replace A5 := Lib.hid (A5.out.only g5 (by simp)); replace G5 := Lib.hid (only_trans G5.out g5); replace XY := Lib.hid (XY.out.grown g5); clear g5; try clear c0 c1 c2 c3 c4 c5 c6 c7 c8 c9; try clear d0 d1 d2 d3 d4 d5 d6 d7 d8 d9; obtain ⟨c0, c1, c2, c3, c4, c5, c6, c7, c8, c9⟩ := cl_cells XY.out.1; obtain ⟨d0, d1, d2, d3, d4, d5, d6, d7, d8, d9⟩ := cl_cells XY.out.2; simp only at c0 c1 c2 c3 c4 c5 c6 c7 c8 c9 d0 d1 d2 d3 d4 d5 d6 d7 d8 d9; cases r1) | (go_at_call 35; (with_reducible refine (HBY.out _).mono ?_); rintro e w5 ⟨rfl, g5⟩; replace A5 := Lib.hid (A5.out.only g5 (by simp)); replace G5 := Lib.hid (only_trans G5.out g5); replace XY := Lib.hid (XY.out.grown g5); clear g5; try clear c0 c1 c2 c3 c4 c5 c6 c7 c8 c9; try clear d0 d1 d2 d3 d4 d5 d6 d7 d8 d9; obtain ⟨c0, c1, c2, c3, c4, c5, c6, c7, c8, c9⟩ := cl_cells XY.out.1; obtain ⟨d0, d1, d2, d3, d4, d5, d6, d7, d8, d9⟩ := cl_cells XY.out.2; simp only at c0 c1 c2 c3 c4 c5 c6 c7 c8 c9 d0 d1 d2 d3 d4 d5 d6 d7 d8 d9; cases r2) | (go_at_call 36; (with_reducible refine (HM1.out (by first | rfl | trivial) (by first | rfl | trivial) _).mono ?_); rintro e w5 ⟨rfl, g5⟩; replace A5 := Lib.hid (A5.out.only g5 (by simp)); replace G5 := Lib.hid (only_trans G5.out g5); replace XY := Lib.hid (XY.out.grown g5); clear g5; try clear c0 c1 c2 c3 c4 c5 c6 c7 c8 c9; try clear d0 d1 d2 d3 d4 d5 d6 d7 d8 d9; obtain ⟨c0, c1, c2, c3, c4, c5, c6, c7, c8, c9⟩ := cl_cells XY.out.1; obtain ⟨d0, d1, d2, d3, d4, d5, d6, d7, d8, d9⟩ := cl_cells XY.out.2; simp only at c0 c1 c2 c3 c4 c5 c6 c7 c8 c9 d0 d1 d2 d3 d4 d5 d6 d7 d8 d9; cases z1) | (go_at_call 36; (with_reducible refine (HM2.out (by first | rfl | trivial) (by first | rfl | trivial) _).mono ?_); rintro e w5 ⟨rfl, g5⟩; replace A5 := Lib.hid (A5.out.only g5 (by simp)); replace G5 := Lib.hid (only_trans G5.out g5); replace XY := Lib.hid (XY.out.grown g5); clear g5; try clear c0 c1 c2 c3 c4 c5 c6 c7 c8 c9; try clear d0 d1 d2 d3 d4 d5 d6 d7 d8 d9; obtain ⟨c0, c1, c2, c3, c4, c5, c6, c7, c8, c9⟩ := cl_cells XY.out.1; obtain ⟨d0, d1, d2, d3, d4, d5, d6, d7, d8, d9⟩ := cl_cells XY.out.2; simp only at c0 c1 c2 c3 c4 c5 c6 c7 c8 c9 d0 d1 d2 d3 d4 d5 d6 d7 d8 d9; cases z2))
              all_goals first
                | (go_ret
                   exact ⟨ret_bool (HX4.out (by first | rfl | trivial)).symm, only_trans G0.out G5.out⟩)
                | (go_roundw
                   case rel => exact ⟨k + 1, by go_num, by omega, Lib.hid (HX3.out (by first | rfl | trivial)), A5, G5⟩
                   case measure => simp [intOf] <;> omega)
            · go_wp2_with (first | (go_at_call 35; (with_reducible refine (HBX.out _).mono ?_); rintro e w5 ⟨rfl, g5⟩; replace A5 := Lib.hid (A5.out.only g5 (by simp)); replace G5 := Lib.hid (only_trans G5.out g5); replace XY := Lib.hid (XY.out.grown g5); clear g5; try clear c0 c1 c2 c3 c4 c5 c6 c7 c8 c9; try clear d0 d1 d2 d3 d4 d5 d6 d7 d8 d9; obtain ⟨c0, c1, c2, c3, c4, c5, c6, c7, c8, c9⟩ := cl_cells XY.out.1; obtain ⟨d0, d1, d2, d3, d4, d5, d6, d7, d8, d9⟩ := cl_cells XY.out.2; simp only at c0 c1 c2 c3 c4 c5 c6 c7 c8 c9 d0 d1 d2 d3 d4 d5 d6 d7 d8 d9; cases r1) | (go_at_call 35; (with_reducible refine (HBY.out _).mono ?_); rintro e w5 ⟨rfl, g5⟩; replace A5 := Lib.hid (A5.out.only g5 (by simp)); replace G5 := Lib.hid (only_trans G5.out g5); replace XY := Lib.hid (XY.out.grown g5); clear g5; try clear c0 c1 c2 c3 c4 c5 c6 c7 c8 c9; try clear d0 d1 d2 d3 d4 d5 d6 d7 d8 d9; obtain ⟨c0, c1, c2, c3, c4, c5, c6, c7, c8, c9⟩ := cl_cells XY.out.1; obtain ⟨d0, d1, d2, d3, d4, d5, d6, d7, d8, d9⟩ := cl_cells XY.out.2; simp only at c0 c1 c2 c3 c4 c5 c6 c7 c8 c9 d0 d1 d2 d3 d4 d5 d6 d7 d8 d9; cases r2) | (go_at_call 36; (with_reducible refine (HM1.out (by first | rfl | trivial) (by first | rfl | trivial) _).mono ?_); rintro e w5 ⟨rfl, g5⟩; replace A5 := Lib.hid (A5.out.only g5 (by simp)); replace G5 := Lib.hid (only_trans G5.out g5); replace XY := Lib.hid (XY.out.grown g5); clear g5; try clear c0 c1 c2 c3 c4 c5 c6 c7 c8 c9; try clear d0 d1 d2 d3 d4 d5 d6 d7 d8 d9; obtain ⟨c0, c1, c2, c3, c4, c5, c6, c7, c8, c9⟩ := cl_cells XY.out.1; obtain ⟨d0, d1, d2, d3, d4, d5, d6, d7, d8, d9⟩ := cl_cells XY.out.2; simp only at c0 c1 c2 c3 c4 c5 c6 c7 c8 c9 d0 d1 d2 d3 d4 d5 d6 d7 d8 d9; cases z1) | (go_at_call 36; (with_reducible refine (HM2.out (by first | rfl | trivial) (by first | rfl | trivial) _).mono ?_); rintro e w5 ⟨rfl, g5⟩; replace A5 := Lib.hid (A5.out.only g5 (by simp)); replace G5 := Lib.hid (only_trans G5.out g5); replace XY := Lib.hid (XY.out.grown g5); clear g5; try clear c0 c1 c2 c3 c4 c5 c6 c7 c8 c9; try clear d0 d1 d2 d3 d4 d5 d6 d7 d8 d9; obtain ⟨c0, c1, c2, c3, c4, c5, c6, c7, c8, c9⟩ := cl_cells XY.out.1; obtain ⟨d0, d1, d2, d3, d4, d5, d6, d7, d8, d9⟩ := cl_cells XY.out.2; simp only at c0 c1 c2 c3 c4 c5 c6 c7 c8 c9 d0 d1 d2 d3 d4 d5 d6 d7 d8 d9; cases z2))
              all_goals first
                | (go_ret
                   exact ⟨ret_bool (HX4.out (by first | rfl | trivial)).symm, only_trans G0.out G5.out⟩)
                | (go_roundw
                   case rel => exact ⟨k + 1, by go_num, by omega, Lib.hid (HX3.out (by first | rfl | trivial)), A5, G5⟩
                   case measure => simp [intOf] <;> omega)
          · clear hdc
            go_wp2_with (first | (go_at_call 35; (with_reducible refine (HBX.out _).mono ?_); rintro e w5 ⟨rfl, g5⟩; replace A5 := Lib.hid (A5.out.only g5 (by simp)); replace G5 := Lib.hid (only_trans G5.out g5); replace XY := Lib.hid (XY.out.grown g5); clear g5; try clear c0 c1 c2 c3 c4 c5 c6 c7 c8 c9; try clear d0 d1 d2 d3 d4 d5 d6 d7 d8 d9; obtain ⟨c0, c1, c2, c3, c4, c5, c6, c7, c8, c9⟩ := cl_cells XY.out.1; obtain ⟨d0, d1, d2, d3, d4, d5, d6, d7, d8, d9⟩ := cl_cells XY.out.2; simp only at c0 c1 c2 c3 c4 c5 c6 c7 c8 c9 d0 d1 d2 d3 d4 d5 d6 d7 d8 d9; cases r1) | (go_at_call 35; (with_reducible refine (HBY.out _).mono ?_); rintro e w5 ⟨rfl, g5⟩; replace A5 := Lib.hid (A5.out.only g5 (by simp)); replace G5 := Lib.hid (only_trans G5.out g5); replace XY := Lib.hid (XY.out.grown g5); clear g5; try clear c0 c1 c2 c3 c4 c5 c6 c7 c8 c9; try clear d0 d1 d2 d3 d4 d5 d6 d7 d8 d9; obtain ⟨c0, c1, c2, c3, c4, c5, c6, c7, c8, c9⟩ := cl_cells XY.out.1; obtain ⟨d0, d1, d2, d3, d4, d5, d6, d7, d8, d9⟩ := cl_cells XY.out.2; simp only at c0 c1 c2 c3 c4 c5 c6 c7 c8 c9 d0 d1 d2 d3 d4 d5 d6 d7 d8 d9; cases r2) | (go_at_call 36; (with_reducible refine (HM1.out (by first | rfl | trivial) (by first | rfl | trivial) _).mono ?_); rintro e w5 ⟨rfl, g5⟩; replace A5 := Lib.hid (A5.out.only g5 (by simp)); replace G5 := Lib.hid (only_trans G5.out g5); replace XY := Lib.hid (XY.out.grown g5); clear g5; try clear c0 c1 c2 c3 c4 c5 c6 c7 c8 c9; try clear d0 d1 d2 d3 d4 d5 d6 d7 d8 d9; obtain ⟨c0, c1, c2, c3, c4, c5, c6, c7, c8, c9⟩ := cl_cells XY.out.1; obtain ⟨d0, d1, d2, d3, d4, d5, d6, d7, d8, d9⟩ := cl_cells XY.out.2; simp only at c0 c1 c2 c3 c4 c5 c6 c7 c8 c9 d0 d1 d2 d3 d4 d5 d6 d7 d8 d9; cases z1) | (go_at_call 36; (with_reducible refine (HM2.out (by first | rfl | trivial) (by first | rfl | trivial) _).mono ?_); rintro e w5 ⟨rfl, g5⟩; replace A5 := Lib.hid (A5.out.only g5 (by simp)); replace G5 := Lib.hid (only_trans G5.out g5); replace XY := Lib.hid (XY.out.grown g5); clear g5; try clear c0 c1 c2 c3 c4 c5 c6 c7 c8 c9; try clear d0 d1 d2 d3 d4 d5 d6 d7 d8 d9; obtain ⟨c0, c1, c2, c3, c4, c5, c6, c7, c8, c9⟩ := cl_cells XY.out.1; obtain ⟨d0, d1, d2, d3, d4, d5, d6, d7, d8, d9⟩ := cl_cells XY.out.2; simp only at c0 c1 c2 c3 c4 c5 c6 c7 c8 c9 d0 d1 d2 d3 d4 d5 d6 d7 d8 d9; cases z2))
            all_goals first
              | (go_ret
                 exact ⟨ret_bool (HX4.out (by first | rfl | trivial)).symm, only_trans G0.out G5.out⟩)
              | (go_roundw
                 case rel => exact ⟨k + 1, by go_num, by omega, Lib.hid (HX3.out (by first | rfl | trivial)), A5, G5⟩
                 case measure => simp [intOf] <;> omega)
      · obtain rfl : k = i := by omega
        have l1 : ¬ (k : Int) < (k : Int) := by omega
        have HZ := Lib.hid (HNO.out.2 HN.out)
        clear HN
        go_wp2
        go_ret
        exact ⟨ret_bool HZ.out.symm, only_trans G0.out HG.out⟩
  · have hres : (decide (1 ≤ i + 1 ∧ i + 1 ≤ c.cn) && shB (c.cd i) c.cd i) = false := by
      rw [decide_eq_false (by omega), Bool.false_and]
    rw [hres]
    clear hres
    have i1 : ¬ (i : Int) < (c.cn : Int) := by omega
    go_enter Try.func14, Try.ntmps14
    go_upto_region 1 with (fail)
    rw [← hW]
    clear hW
    go_wp2
    go_loopw [8] (fun x wr => x = .int .i64 0 ∧ wr = W1) (fun x _ => 0)
    case atStart => exact ⟨rfl, rfl⟩
    case round =>
      obtain ⟨rfl, rfl⟩ := hrel
      by_cases h0 : 0 < i
      · have j1 : (0 : Int) < (i : Int) := by omega
        go_wp2
        go_ret
        exact ⟨rfl, G0.out⟩
      · have j1 : ¬ (0 : Int) < (i : Int) := by omega
        go_wp2
        go_ret
        exact ⟨rfl, G0.out⟩
end Go.Proofs.Ytgkegmkedkgkcaa
