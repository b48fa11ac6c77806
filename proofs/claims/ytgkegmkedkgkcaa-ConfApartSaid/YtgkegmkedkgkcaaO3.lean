/- Windows and slots that may not be, by their contracts. -/
import Derived.Test.YtgkegmkedkgkcaaO2
namespace Go.Proofs.Ytgkegmkedkgkcaa
open Go.RowKit Go.Lib Go.Sort
set_option linter.unusedVariables false

theorem rmeet_any (a n b m : Int) (h1 : fitI (a + n)) (h2 : fitI (b + m)) (w : World) : Calls Try.prog 36 #[.int .i64 a, .int .i64 n, .int .i64 b, .int .i64 m] w fun e w' => e = .returned (.bool (meetsB (a, a + n) (b, b + m))) ∧ w.grownBy w' none := by
  have e1 : IntKind.i64.wrap (a + n) = a + n := by unfold fitI at h1; rw [IntKind.wrap_i64]; omega
  have e2 : IntKind.i64.wrap (b + m) = b + m := by unfold fitI at h2; rw [IntKind.wrap_i64]; omega
  have HM := Lib.hid (fun W => meets_any (a, a + n) (b, b + m) W)
  generalize meetsB (a, a + n) (b, b + m) = r at HM ⊢
  clear h1 h2
  go_enter Try.func36, Try.ntmps36
  go_wp2_with (go_at_call 17; ((with_reducible refine (HM.out _).mono ?_)); rintro e w2 ⟨rfl, g2⟩; have G2 := Lib.hid g2; clear g2)
  go_ret
  exact ⟨rfl, G2.out⟩
/-- Is a window one that may not be? -/
def badW (c : Cf) (x : W3) : Bool := !(wiB x.1 0 c.cn) || !(inB (w3s x) c.fr)
def badS (c : Cf) (x : W3) : Bool := !(wiB x.1 1 c.cn) || !(inB (w3s x) c.fr) || decide (x.2.2 - x.2.1 < 4)
theorem inB_iff {p : Int × Int} {n : Int} : inB p n = true ↔ 0 ≤ p.1 ∧ p.1 < p.2 ∧ p.2 ≤ n := decide_eq_true_iff
theorem badW_no {c : Cf} {x : W3} : badW c x = false ↔ 0 ≤ x.1 ∧ x.1 ≤ c.cn ∧ 0 ≤ x.2.1 ∧ x.2.1 < x.2.2 ∧ x.2.2 ≤ c.fr := by
  unfold badW
  simp only [Bool.or_eq_false_iff, Bool.not_eq_false', wiB_iff, inB_iff, and_assoc]
theorem badS_no {c : Cf} {x : W3} : badS c x = false ↔ 1 ≤ x.1 ∧ x.1 ≤ c.cn ∧ 0 ≤ x.2.1 ∧ x.2.1 < x.2.2 ∧ x.2.2 ≤ c.fr ∧ 4 ≤ x.2.2 - x.2.1 := by
  unfold badS
  simp only [Bool.or_eq_false_iff, Bool.not_eq_false', wiB_iff, inB_iff, and_assoc, decide_eq_false_iff_not, Int.not_lt]
set_option maxHeartbeats 1600000 in
theorem rbadw_any (c : Cf) (x : W3) (w : World) : Calls Try.prog 37 #[cfv c, w3v x] w fun e w' => e = .returned (.bool (badW c x)) ∧ w.grownBy w' none := by
  have HN := Lib.hid (badW_no (c := c) (x := x))
  generalize badW c x = r at HN ⊢
  obtain ⟨fr, wA, wn, wc, wd, sA, sn, sc, sd, cA, cn, cc, cd⟩ := c
  obtain ⟨o, a, b⟩ := x
  simp only at HN
  go_enter Try.func37, Try.ntmps37
  go_wp2
  all_goals
    go_ret
    refine ⟨ret_bool ?_, only_alloc (only_alloc (only_refl _ _) _) _⟩
    have h4 := HN.out
    cases r <;> simp at h4 ⊢ <;> omega
set_option maxHeartbeats 1600000 in
theorem rbads_any (c : Cf) (x : W3) (hc : fitI c.fr) (w : World) : Calls Try.prog 38 #[cfv c, w3v x] w fun e w' => e = .returned (.bool (badS c x)) ∧ w.grownBy w' none := by
  have HN := Lib.hid (badS_no (c := c) (x := x))
  generalize badS c x = r at HN ⊢
  obtain ⟨fr, wA, wn, wc, wd, sA, sn, sc, sd, cA, cn, cc, cd⟩ := c
  obtain ⟨o, a, b⟩ := x
  unfold fitI at hc
  simp only at HN hc
  go_enter Try.func38, Try.ntmps38
  go_wp2
  all_goals
    go_ret
    refine ⟨ret_bool ?_, only_alloc (only_alloc (only_refl _ _) _) _⟩
    have h4 := HN.out
    cases r <;> simp at h4 ⊢ <;> omega
set_option maxHeartbeats 1600000 in
theorem badw_any (c : Cf) (x : W3) (w : World) : Calls Try.prog 24 #[cfv c, w3v x] w fun e w' => e = .returned (.bool (badW c x)) ∧ w.grownBy w' none := by
  obtain ⟨fr, wA, wn, wc, wd, sA, sn, sc, sd, cA, cn, cc, cd⟩ := c
  obtain ⟨o, a, b⟩ := x
  have hr : badW ⟨fr, wA, wn, wc, wd, sA, sn, sc, sd, cA, cn, cc, cd⟩ (o, a, b) = (!(wiB o 0 cn) || !(inB (a, b) fr)) := rfl
  rw [hr]
  clear hr
  show Calls Try.prog 24 #[.agg #[.int .i64 fr, .slice wA wn wc, .slice sA sn sc, .slice cA cn cc], .agg #[.int .i64 o, .int .i64 a, .int .i64 b]] w _
  have HW := Lib.hid (fun W => within_any o 0 cn W)
  have HT := Lib.hid (fun W => ticks_any (o, a, b) W)
  have HI := Lib.hid (fun W => in_any (a, b) fr W)
  generalize wiB o 0 cn = c1 at *
  generalize inB (a, b) fr = c2 at *
  obtain ⟨W1, hW, G0, hA, hB⟩ := box2 w 26 #[.int .i64 fr, .slice wA wn wc, .slice sA sn sc, .slice cA cn cc] 34 #[.int .i64 o, .int .i64 a, .int .i64 b]
  have k1 := blk_re hA
  have k2 := blk_re hB
  have G0 := Lib.hid G0
  clear hA hB
  cases c1 <;> (
    go_enter Try.func24, Try.ntmps24
    go_upto_region 1 with (fail)
    rw [← hW]
    clear hW
    refine wp_region_quiet_below (by kernel_rfl) (by kernel_rfl) ?_
    repeat (go_big_quiet_step ((first | (go_at_call 40; with_reducible exact rg0 (HW.out _)) | (go_at_call 42; with_reducible exact rg1 (HT.out _)) | (go_at_call 41; with_reducible exact rg1 (HI.out _)))))
    refine wpQuiet_nil ?_
    intro w3 hw3
    obtain ⟨p, rfl⟩ := hw3
    have G3 := Lib.hid (only_trans G0.out (only_re W1 p.d p.os))
    clear k1 k2
    generalize grow (redrawn W1 p.d) p.os = w3 at G3 ⊢
    go_wp2
    go_ret
    exact ⟨by simp, G3.out⟩)
set_option maxHeartbeats 1600000 in
theorem bads_any (c : Cf) (x : W3) (hx : FitW3 x) (hc : fitI c.fr) (w : World) : Calls Try.prog 16 #[cfv c, w3v x] w fun e w' => e = .returned (.bool (badS c x)) ∧ w.grownBy w' none := by
  obtain ⟨fr, wA, wn, wc, wd, sA, sn, sc, sd, cA, cn, cc, cd⟩ := c
  obtain ⟨o, a, b⟩ := x
  have hr : badS ⟨fr, wA, wn, wc, wd, sA, sn, sc, sd, cA, cn, cc, cd⟩ (o, a, b) = (!(wiB o 1 cn) || !(inB (a, b) fr) || decide (b - a < 4)) := rfl
  rw [hr]
  clear hr
  show Calls Try.prog 16 #[.agg #[.int .i64 fr, .slice wA wn wc, .slice sA sn sc, .slice cA cn cc], .agg #[.int .i64 o, .int .i64 a, .int .i64 b]] w _
  have HW := Lib.hid (fun W => within_any o 1 cn W)
  have HT := Lib.hid (fun W => ticks_any (o, a, b) W)
  have HI := Lib.hid (fun W => in_any (a, b) fr W)
  have hw : inB (a, b) fr = true → IntKind.i64.wrap (b - a) = b - a := fun h => by
    have := inB_iff.1 h
    unfold fitI at hc
    simp only at this hc
    rw [IntKind.wrap_i64]
    omega
  generalize wiB o 1 cn = c1 at *
  generalize inB (a, b) fr = c2 at *
  obtain ⟨W1, hW, G0, hA, hB⟩ := box2 w 26 #[.int .i64 fr, .slice wA wn wc, .slice sA sn sc, .slice cA cn cc] 37 #[.int .i64 o, .int .i64 a, .int .i64 b]
  have k1 := blk_re hA
  have k2 := blk_re hB
  have G0 := Lib.hid G0
  clear hA hB hx hc
  cases c1 <;> cases c2 <;> (
    try have hw := hw rfl
    go_enter Try.func16, Try.ntmps16
    go_upto_region 1 with (fail)
    rw [← hW]
    clear hW
    refine wp_region_quiet_below (by kernel_rfl) (by kernel_rfl) ?_
    repeat (go_big_quiet_step ((first | (go_at_call 40; with_reducible exact rg0 (HW.out _)) | (go_at_call 42; with_reducible exact rg1 (HT.out _)) | (go_at_call 41; with_reducible exact rg1 (HI.out _)))))
    refine wpQuiet_nil ?_
    intro w3 hw3
    obtain ⟨p, rfl⟩ := hw3
    have G3 := Lib.hid (only_trans G0.out (only_re W1 p.d p.os))
    clear k1 k2
    generalize grow (redrawn W1 p.d) p.os = w3 at G3 ⊢
    go_wp2
    go_ret
    exact ⟨by simp, G3.out⟩)
end Go.Proofs.Ytgkegmkedkgkcaa
