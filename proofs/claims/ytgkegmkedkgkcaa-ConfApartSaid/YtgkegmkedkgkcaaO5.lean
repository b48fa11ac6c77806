/- What two rows have both, and whether a row ahead has it: by their contracts. -/
import Derived.Test.YtgkegmkedkgkcaaO4
namespace Go.Proofs.Ytgkegmkedkgkcaa
open Go.RowKit Go.Lib Go.Sort
set_option linter.unusedVariables false

/-- Two windows of one owner, or at one time. -/
def wM (x y : W3) : Bool := decide (x.1 = y.1) || meetsB (w3s x) (w3s y)
def sM (x y : W3) : Bool := meetsB (w3s x) (w3s y)
/-- Two clients that have something both. -/
def cM (x y : Cl) : Bool := decide (x.mac = y.mac) || decide (x.chan = y.chan) || meetsB (x.base, x.base + x.size) (y.base, y.base + y.size) || meetsB (x.first, x.first + x.secs) (y.first, y.first + y.secs)
theorem goodC_fit {x : Cl} (h : badC x = false) : fitI (x.base + x.size) ∧ fitI (x.first + x.secs) := by
  have := badC_no.1 h
  unfold GoodC at this
  unfold fitI
  omega
set_option maxHeartbeats 1600000 in
theorem wm_any (x y : W3) (g : Nat) (w : World) (hg : Blk w g 34 #[.int .i64 x.1, .int .i64 x.2.1, .int .i64 x.2.2]) : Calls Try.prog 51 #[w3v y, .pointer (some ⟨g, 0, none⟩)] w fun e w' => e = .returned (.bool (wM x y)) ∧ w.grownBy w' none := by
  obtain ⟨x1, x2, x3⟩ := x
  obtain ⟨y1, y2, y3⟩ := y
  have hr : wM (x1, x2, x3) (y1, y2, y3) = (decide (x1 = y1) || meetsB (x2, x3) (y2, y3)) := rfl
  rw [hr]
  clear hr
  have HX := Lib.hid (fun W => ticks_any (x1, x2, x3) W)
  have HY := Lib.hid (fun W => ticks_any (y1, y2, y3) W)
  have HM := Lib.hid (fun W => meet_conf (x2, x3) (y2, y3) W)
  generalize meetsB (x2, x3) (y2, y3) = r at *
  obtain ⟨W1, hW, G0, hB⟩ := box1 w 34 #[.int .i64 y1, .int .i64 y2, .int .i64 y3]
  have k1 := blk_re (hg.only G0 (by simp))
  have k2 := blk_re hB
  have G0 := Lib.hid G0
  have hne : ¬ g = w.heap.size := by have := hg.lt; omega
  clear hB hg
  simp only at k1
  by_cases he : x1 = y1
  all_goals
    first | (have hd : (x1 == y1) = true := by simpa using he) | (have hd : (x1 == y1) = false := by simpa using he)
    go_enter Try.func51, Try.ntmps51
    go_upto_region 1 with (fail)
    rw [← hW]
    clear hW
    refine wp_region_quiet_below (by kernel_rfl) (by kernel_rfl) ?_
    repeat (go_big_quiet_step ((first | (go_at_call 42; with_reducible exact rg1 (HX.out _)) | (go_at_call 42; with_reducible exact rg1 (HY.out _)) | (go_at_call 47; with_reducible exact rg1 (HM.out _)))))
    refine wpQuiet_nil ?_
    intro w3 hw3
    obtain ⟨p, rfl⟩ := hw3
    have G3 := Lib.hid (only_trans G0.out (only_re W1 p.d p.os))
    clear k1 k2
    generalize grow (redrawn W1 p.d) p.os = w3 at G3 ⊢
    go_wp2
    go_ret
    exact ⟨by simp [he], G3.out⟩
set_option maxHeartbeats 1600000 in
theorem sm_any (x y : W3) (g : Nat) (w : World) (hg : Blk w g 37 #[.int .i64 x.1, .int .i64 x.2.1, .int .i64 x.2.2]) : Calls Try.prog 54 #[w3v y, .pointer (some ⟨g, 0, none⟩)] w fun e w' => e = .returned (.bool (sM x y)) ∧ w.grownBy w' none := by
  obtain ⟨x1, x2, x3⟩ := x
  obtain ⟨y1, y2, y3⟩ := y
  have hr : sM (x1, x2, x3) (y1, y2, y3) = meetsB (x2, x3) (y2, y3) := rfl
  rw [hr]
  clear hr
  have HX := Lib.hid (fun W => ticks_any (x1, x2, x3) W)
  have HY := Lib.hid (fun W => ticks_any (y1, y2, y3) W)
  have HM := Lib.hid (fun W => meet_conf (x2, x3) (y2, y3) W)
  generalize meetsB (x2, x3) (y2, y3) = r at *
  obtain ⟨W1, hW, G0, hB⟩ := box1 w 37 #[.int .i64 y1, .int .i64 y2, .int .i64 y3]
  have k1 := blk_re (hg.only G0 (by simp))
  have k2 := blk_re hB
  have G0 := Lib.hid G0
  have hne : ¬ g = w.heap.size := by have := hg.lt; omega
  clear hB hg
  simp only at k1
  go_enter Try.func54, Try.ntmps54
  go_upto_region 1 with (fail)
  rw [← hW]
  clear hW
  refine wp_region_quiet_below (by kernel_rfl) (by kernel_rfl) ?_
  repeat (go_big_quiet_step ((first | (go_at_call 42; with_reducible exact rg1 (HX.out _)) | (go_at_call 42; with_reducible exact rg1 (HY.out _)) | (go_at_call 47; with_reducible exact rg1 (HM.out _)))))
  refine wpQuiet_nil ?_
  intro w3 hw3
  obtain ⟨p, rfl⟩ := hw3
  have G3 := Lib.hid (only_trans G0.out (only_re W1 p.d p.os))
  clear k1 k2
  generalize grow (redrawn W1 p.d) p.os = w3 at G3 ⊢
  go_wp2
  go_ret
  exact ⟨by simp, G3.out⟩
set_option maxHeartbeats 3200000 in
theorem cm_any (x y : Cl) (hx : badC x = false) (hy : FitCl y) (g : Nat) (w : World) (hg : Blk w g 43 (clA x)) : Calls Try.prog 46 #[clv y, .pointer (some ⟨g, 0, none⟩)] w fun e w' => e = .returned (.bool (!badC y && cM x y)) ∧ w.grownBy w' none := by
  have HB := Lib.hid (fun W => badc_any y hy W)
  obtain ⟨fx1, fx2⟩ := goodC_fit hx
  have HMX := Lib.hid (fun W => memory_any x fx1 W)
  have HSX := Lib.hid (fun W => sectors_any x fx2 W)
  cases hby : badC y
  case true =>
    rw [hby] at HB
    simp only [Bool.not_true, Bool.false_and]
    obtain ⟨x1, x2, x3, x4, x5, x6, x7, x8, x9, x10⟩ := x
    obtain ⟨y1, y2, y3, y4, y5, y6, y7, y8, y9, y10⟩ := y
    show Calls Try.prog 46 #[.agg #[.int .i64 y1, .int .i64 y2, .int .i64 y3, .int .i64 y4, .int .i64 y5, .int .i64 y6, .int .i64 y7, .int .i64 y8, .int .i64 y9, .int .i64 y10], .pointer (some ⟨g, 0, none⟩)] w _
    obtain ⟨W1, hW, G0, hB⟩ := box1 w 43 #[.int .i64 y1, .int .i64 y2, .int .i64 y3, .int .i64 y4, .int .i64 y5, .int .i64 y6, .int .i64 y7, .int .i64 y8, .int .i64 y9, .int .i64 y10]
    have k1 := blk_re (hg.only G0 (by simp))
    have k2 := blk_re hB
    have G0 := Lib.hid G0
    have hne : ¬ g = w.heap.size := by have := hg.lt; omega
    clear hB hg hby hx hy fx1 fx2 HMX HSX
    go_enter Try.func46, Try.ntmps46
    go_upto_region 1 with (fail)
    rw [← hW]
    clear hW
    refine wp_region_quiet_below (by kernel_rfl) (by kernel_rfl) ?_
    repeat (go_big_quiet_step ((first | (go_at_call 20; with_reducible exact rg1 (HB.out _)))))
    refine wpQuiet_nil ?_
    intro w3 hw3
    obtain ⟨p, rfl⟩ := hw3
    have G3 := Lib.hid (only_trans G0.out (only_re W1 p.d p.os))
    clear k1 k2
    generalize grow (redrawn W1 p.d) p.os = w3 at G3 ⊢
    go_wp2
    go_ret
    exact ⟨by simp, G3.out⟩
  case false =>
    rw [hby] at HB
    obtain ⟨fy1, fy2⟩ := goodC_fit hby
    have HMY := Lib.hid (fun W => memory_any y fy1 W)
    have HSY := Lib.hid (fun W => sectors_any y fy2 W)
    simp only [Bool.not_false, Bool.true_and]
    obtain ⟨x1, x2, x3, x4, x5, x6, x7, x8, x9, x10⟩ := x
    obtain ⟨y1, y2, y3, y4, y5, y6, y7, y8, y9, y10⟩ := y
    have hr : cM ⟨x1, x2, x3, x4, x5, x6, x7, x8, x9, x10⟩ ⟨y1, y2, y3, y4, y5, y6, y7, y8, y9, y10⟩ = (decide (x7 = y7) || decide (x8 = y8) || meetsB (x1, x1 + x2) (y1, y1 + y2) || meetsB (x9, x9 + x10) (y9, y9 + y10)) := rfl
    rw [hr]
    clear hr
    simp only at HMX HSX HMY HSY
    have HM := Lib.hid (fun W => meet_conf (x1, x1 + x2) (y1, y1 + y2) W)
    have HS := Lib.hid (fun W => meet_conf (x9, x9 + x10) (y9, y9 + y10) W)
    generalize meetsB (x1, x1 + x2) (y1, y1 + y2) = r at *
    generalize meetsB (x9, x9 + x10) (y9, y9 + y10) = s at *
    show Calls Try.prog 46 #[.agg #[.int .i64 y1, .int .i64 y2, .int .i64 y3, .int .i64 y4, .int .i64 y5, .int .i64 y6, .int .i64 y7, .int .i64 y8, .int .i64 y9, .int .i64 y10], .pointer (some ⟨g, 0, none⟩)] w _
    obtain ⟨W1, hW, G0, hB⟩ := box1 w 43 #[.int .i64 y1, .int .i64 y2, .int .i64 y3, .int .i64 y4, .int .i64 y5, .int .i64 y6, .int .i64 y7, .int .i64 y8, .int .i64 y9, .int .i64 y10]
    have k1 := blk_re (hg.only G0 (by simp))
    have k2 := blk_re hB
    have G0 := Lib.hid G0
    have hne : ¬ g = w.heap.size := by have := hg.lt; omega
    clear hB hg hby hx hy fx1 fx2 fy1 fy2
    have key : (x7 = y7) ∨ (¬ x7 = y7 ∧ x8 = y8) ∨ (¬ x7 = y7 ∧ ¬ x8 = y8 ∧ r = true) ∨ (¬ x7 = y7 ∧ ¬ x8 = y8 ∧ r = false) := by
      cases r <;> by_cases h1 : x7 = y7 <;> by_cases h2 : x8 = y8 <;> simp [h1, h2]
    rcases key with h1 | ⟨h1, h2⟩ | ⟨h1, h2, rfl⟩ | ⟨h1, h2, rfl⟩
    all_goals
      first | (have hd : (x7 == y7) = true := by simpa using h1) | (have hd : (x7 == y7) = false := by simpa using h1)
      try first | (have hd2 : (x8 == y8) = true := by simpa using h2) | (have hd2 : (x8 == y8) = false := by simpa using h2)
      go_enter Try.func46, Try.ntmps46
      go_upto_region 1 with (fail)
      rw [← hW]
      clear hW
      refine wp_region_quiet_below (by kernel_rfl) (by kernel_rfl) ?_
      repeat (go_big_quiet_step ((first | (go_at_call 20; with_reducible exact rg1 (HB.out _)) | (go_at_call 48; with_reducible exact rg1 (HMX.out _)) | (go_at_call 48; with_reducible exact rg1 (HMY.out _)) | (go_at_call 49; with_reducible exact rg1 (HSX.out _)) | (go_at_call 49; with_reducible exact rg1 (HSY.out _)) | (go_at_call 47; with_reducible exact rg1 (HM.out _)) | (go_at_call 47; with_reducible exact rg1 (HS.out _)))))
      refine wpQuiet_nil ?_
      intro w3 hw3
      obtain ⟨p, rfl⟩ := hw3
      have G3 := Lib.hid (only_trans G0.out (only_re W1 p.d p.os))
      clear k1 k2
      generalize grow (redrawn W1 p.d) p.os = w3 at G3 ⊢
      go_wp2
      go_ret
      exact ⟨by simp [*], G3.out⟩
end Go.Proofs.Ytgkegmkedkgkcaa
