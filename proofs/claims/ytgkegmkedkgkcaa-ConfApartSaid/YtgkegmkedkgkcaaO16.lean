/- The document's word on one fault of one row, by its contract: 9. -/
import Derived.Test.YtgkegmkedkgkcaaO15
import Derived.BigRegion
namespace Go.Proofs.Ytgkegmkedkgkcaa
open Go.RowKit Go.Lib Go.Sort
set_option linter.unusedVariables false

theorem two_blk {w : World} {g : Nat} {t : TypeId} {cs : Array Value} (h : Blk w g t cs) (o1 o2 : Obj) : Blk ((w.alloc o1).alloc o2).drew g t cs := ((h.alloc o1).alloc o2).drewN 1
theorem two_only (w : World) (o1 o2 : Obj) : w.grownBy ((w.alloc o1).alloc o2).drew none := only_drewN (only_alloc (only_alloc (only_refl _ _) _) _) 1
set_option maxRecDepth 40000 in
set_option maxHeartbeats 6400000 in
theorem has9_any (c : Cf) (w : World) (hc : CfV w c) (hf : FitCf c) (row : Nat) (h32 : row ≤ 1000) : Calls Try.prog 14 #[cfv c, .int .i64 9, .int .i64 row] w fun e w' => e = .returned (.bool (decide (1 ≤ row ∧ row ≤ c.sn) && anyB (fun k => sM (c.sd (row - 1)) (c.sd k)) (row - 1))) ∧ w.grownBy w' none := by
  obtain ⟨W1, hW, G0, hA⟩ := box1 w 26 #[.int .i64 c.fr, .slice c.wA c.wn c.wc, .slice c.sA c.sn c.sc, .slice c.cA c.cn c.cc]
  obtain ⟨k0, k1, k2, k3⟩ := cf_cells (c := c) hA
  have HA := Lib.hid (show BoxC W1 w.heap.size c from hA)
  have HROW := Lib.hid (hc.2.1.grown G0)
  replace G0 := Lib.hid G0
  show Calls Try.prog 14 #[.agg #[.int .i64 c.fr, .slice c.wA c.wn c.wc, .slice c.sA c.sn c.sc, .slice c.cA c.cn c.cc], .int .i64 9, .int .i64 row] w _
  have hm : c.sn ≤ 9223372036854775807 := by have := hf.2.2.1; omega
  clear hA hc hf
  by_cases hr0 : row = 0
  · subst hr0
    go_enter Try.func14, Try.ntmps14
    go_upto_region 1 with (fail)
    rw [← hW]
    clear hW
    go_wp2
    go_loopw [16] (fun x wr => x = .int .i64 0 ∧ wr = W1) (fun x _ => 0)
    case atStart => exact ⟨rfl, rfl⟩
    case round =>
      obtain ⟨rfl, rfl⟩ := hrel
      go_wp2
      go_ret
      exact ⟨by simp, G0.out⟩
  obtain ⟨i, rfl⟩ : ∃ i, row = i + 1 := ⟨row - 1, by omega⟩
  rw [Nat.add_sub_cancel]
  have hw : IntKind.i64.wrap (((i + 1 : Nat) : Int) - 1) = (i : Int) := by rw [IntKind.wrap_i64]; omega
  obtain ⟨r, hr⟩ : ∃ r, r = ((i + 1 : Nat) : Int) := ⟨_, rfl⟩
  rw [← hr] at hw ⊢
  clear hr hr0
  by_cases hin : i < c.sn
  · have hres : (decide (1 ≤ i + 1 ∧ i + 1 ≤ c.sn) && anyB (fun k => sM (c.sd i) (c.sd k)) i) = anyB (fun k => sM (c.sd i) (c.sd k)) i := by
      rw [decide_eq_true (by omega), Bool.true_and]
    rw [hres]
    clear hres
    have HNO := Lib.hid (anyB_no (q := fun k => sM (c.sd i) (c.sd k)) (n := i))
    have HYE := Lib.hid (anyB_iff (q := fun k => sM (c.sd i) (c.sd k)) (n := i))
    generalize anyB (fun k => sM (c.sd i) (c.sd k)) i = z at HNO HYE ⊢
    have i1 : (i : Int) < (c.sn : Int) := by omega
    have i0 : (0 : Int) ≤ (i : Int) := by omega
    go_enter Try.func14, Try.ntmps14
    go_upto_region 1 with (fail)
    rw [← hW]
    clear hW
    go_wp2
    clear k0 k1 k2 k3
    go_loopw [16] (fun x wr => ∃ k : Nat, x = .int .i64 k ∧ k ≤ i ∧ Hid (∀ j, j < k → sM (c.sd i) (c.sd j) = false) ∧ Hid (BoxC wr w.heap.size c) ∧ Hid (W1.grownBy wr none)) (fun x _ => i - (intOf x).toNat)
    case atStart => exact ⟨0, rfl, by omega, Lib.hid (fun k hk => absurd hk (by omega)), HA, Lib.hid (only_refl _ _)⟩
    case round =>
      obtain ⟨k, rfl, hk, HN, HAW, HG⟩ := hrel
      obtain ⟨k0, k1, k2, k3⟩ := cf_cells HAW.out
      by_cases hki : k < i
      · have l1 : (k : Int) < (i : Int) := by omega
        have l2 : (k : Int) < (c.sn : Int) := by omega
        have l0 : (0 : Int) ≤ (k : Int) := by omega
        obtain ⟨b, off, hsA, hb, hcl⟩ := (HROW.out.grown HG.out).2 (by omega)
        obtain ⟨c0, c1, c2⟩ := hcl i hin
        obtain ⟨d0, d1, d2⟩ := hcl k (by omega)
        rw [hsA] at k2
        clear hsA
        have HX := Lib.hid (show sM (c.sd i) (c.sd k) = true → z = true from fun h => HYE.out.2 ⟨k, hki, h⟩)
        have HX2 := Lib.hid (show sM (c.sd i) (c.sd k) = false → ∀ j, j < k + 1 → sM (c.sd i) (c.sd j) = false from fun h j hj => by
          by_cases e : j = k
          · rw [e]; exact h
          · exact HN.out j (by omega))
        have hn0 : w.heap.size < wr.heap.size := HAW.out.lt
        clear hcl HN
        have hgo : ∃ sx sy, sx = c.sd i ∧ sy = c.sd k := ⟨_, _, rfl, rfl⟩
        obtain ⟨sx, sy, hsx, hsy⟩ := hgo
        rw [← hsx] at c0 c1 c2 HX HX2
        rw [← hsy] at d0 d1 d2 HX
        have HX3 := Lib.hid (show sM sx sy = false → _ from by rw [hsx, hsy]; rw [hsx] at HX2; exact HX2.out)
        clear HX2
        obtain ⟨x1, x2, x3⟩ := sx
        obtain ⟨y1, y2, y3⟩ := sy
        simp only at c0 c1 c2 d0 d1 d2
        replace hsx := Lib.hid hsx
        replace hsy := Lib.hid hsy
        have HMT := Lib.hid (fun W => meets_any (x2, x3) (y2, y3) W)
        have hsm : sM (x1, x2, x3) (y1, y2, y3) = meetsB (x2, x3) (y2, y3) := rfl
        rw [hsm] at HX HX3
        clear hsm
        generalize meetsB (x2, x3) (y2, y3) = r2 at HMT HX HX3
        go_upto_region 43 with (fail)
        go_region
        all_goals
          clear c0 c1 c2 d0 d1 d2 k0 k1 k2 k3
          go_wp2_with (go_at_call 17; go_loud (with_reducible refine (HMT.out _).mono ?_); rintro e w5 ⟨rfl, g5⟩; go_loud (have A5 := Lib.hid (Blk.only (two_blk HAW.out _ _) g5 (by simp))); go_loud (have G5 := Lib.hid (only_trans HG.out (only_trans (two_only wr _ _) g5))); clear g5; cases r2)
          · go_roundw
            case rel => exact ⟨k + 1, by go_num, by omega, Lib.hid (HX3.out (by first | rfl | trivial)), A5, G5⟩
            case measure => simp [intOf] <;> omega
          · go_ret
            exact ⟨ret_bool (HX.out (by first | rfl | trivial)).symm, only_trans G0.out G5.out⟩
      · obtain rfl : k = i := by omega
        have l1 : ¬ (k : Int) < (k : Int) := by omega
        have HZ := Lib.hid (HNO.out.2 HN.out)
        clear HN
        go_wp2
        go_ret
        exact ⟨ret_bool HZ.out.symm, only_trans G0.out HG.out⟩
  · have hres : (decide (1 ≤ i + 1 ∧ i + 1 ≤ c.sn) && anyB (fun k => sM (c.sd i) (c.sd k)) i) = false := by
      rw [decide_eq_false (by omega), Bool.false_and]
    rw [hres]
    clear hres
    have i1 : ¬ (i : Int) < (c.sn : Int) := by omega
    go_enter Try.func14, Try.ntmps14
    go_upto_region 1 with (fail)
    rw [← hW]
    clear hW
    go_wp2
    go_loopw [16] (fun x wr => x = .int .i64 0 ∧ wr = W1) (fun x _ => 0)
    case atStart => exact ⟨rfl, rfl⟩
    case round =>
      obtain ⟨rfl, rfl⟩ := hrel
      by_cases h0 : 0 < i
      · have j1 : (0 : Int) < (i : Int) := by omega
        go_wp2
        go_ret
        exact ⟨rfl, G0.out⟩
      · have j1 : ¬ (0 : Int) < (i : Int) := by omega
        go_wp2
        go_ret
        exact ⟨rfl, G0.out⟩
end Go.Proofs.Ytgkegmkedkgkcaa
