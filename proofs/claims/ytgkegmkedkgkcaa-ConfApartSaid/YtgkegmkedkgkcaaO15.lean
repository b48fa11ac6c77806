/- The document's word on one fault of one row, by its contract: 6, 7. -/
import Derived.Test.YtgkegmkedkgkcaaO14
namespace Go.Proofs.Ytgkegmkedkgkcaa
open Go.RowKit Go.Lib Go.Sort
set_option linter.unusedVariables false

theorem fwI_at {c : Cf} {o : Int} {i : Nat} (hi : i < c.wn) (h : (c.wd i).1 = o) (hb : ∀ k, k < i → (c.wd k).1 ≠ o) : fwI c o = i := fstI_at hi (decide_eq_true h) (fun k hk => decide_eq_false (hb k hk))
theorem fwI_none {c : Cf} {o : Int} (h : ∀ k, k < c.wn → (c.wd k).1 ≠ o) : fwI c o = -1 := fstI_none (fun k hk => decide_eq_false (h k hk))
theorem shwB_at {c : Cf} {i : Nat} (e : fwI c 0 = i) : shwB c = shV c (c.wd i) := by
  unfold shwB
  rw [e, if_neg (by omega), Int.toNat_natCast]
  unfold shV
  cases badW c (c.wd i) <;> simp
theorem shwB_none {c : Cf} (e : fwI c 0 = -1) : shwB c = false := by
  unfold shwB
  rw [e, if_pos (by omega)]
set_option maxRecDepth 40000 in
set_option maxHeartbeats 3200000 in
theorem has6_any (c : Cf) (w : World) (hc : CfV w c) (hf : FitCf c) (row : Nat) (h32 : row ≤ 1000) : Calls Try.prog 14 #[cfv c, .int .i64 6, .int .i64 row] w fun e w' => e = .returned (.bool (decide (row ≤ c.cn) && decide (fwI c row < 0))) ∧ w.grownBy w' none := by
  obtain ⟨W1, hW, G0, hA⟩ := box1 w 26 #[.int .i64 c.fr, .slice c.wA c.wn c.wc, .slice c.sA c.sn c.sc, .slice c.cA c.cn c.cc]
  obtain ⟨k0, k1, k2, k3⟩ := cf_cells (c := c) hA
  have HROW := Lib.hid (hc.1.grown G0)
  replace G0 := Lib.hid G0
  show Calls Try.prog 14 #[.agg #[.int .i64 c.fr, .slice c.wA c.wn c.wc, .slice c.sA c.sn c.sc, .slice c.cA c.cn c.cc], .int .i64 6, .int .i64 row] w _
  have HAT := Lib.hid (fun (i : Nat) => fwI_at (c := c) (o := row) (i := i))
  have HNO := Lib.hid (fwI_none (c := c) (o := row))
  generalize fwI c row = q at HAT HNO ⊢
  have hw0 : IntKind.i64.wrap ((row : Int) - 1) = (row : Int) - 1 := by rw [IntKind.wrap_i64]; omega
  have hm : c.wn ≤ 9223372036854775807 := by have := hf.2.1; omega
  clear hA hc hf h32
  go_enter Try.func14, Try.ntmps14
  go_upto_region 1 with (fail)
  rw [← hW]
  clear hW
  go_wp2
  go_loopw [14] (fun x wr => ∃ i : Nat, x = .int .i64 i ∧ i ≤ c.wn ∧ Hid (∀ k, k < i → (c.wd k).1 ≠ row) ∧ wr = W1) (fun x _ => c.wn - (intOf x).toNat)
  case atStart => exact ⟨0, rfl, by omega, Lib.hid (fun k hk => absurd hk (by omega)), rfl⟩
  case round =>
    obtain ⟨i, rfl, hi, HN, rfl⟩ := hrel
    by_cases hin : i < c.wn
    · have i1 : (i : Int) < (c.wn : Int) := by omega
      obtain ⟨b, off, hwA, hb, hcl⟩ := HROW.out.2 (by omega)
      obtain ⟨c0, _, _⟩ := hcl i hin
      rw [hwA] at k1
      have HX := Lib.hid (HAT.out i hin)
      have HX2 := Lib.hid (show ((c.wd i).1 ≠ row → ∀ k, k < i + 1 → (c.wd k).1 ≠ row) from fun h k hk => by
        by_cases e : k = i
        · rw [e]; exact h
        · exact HN.out k (by omega))
      clear hcl hb
      generalize (c.wd i).1 = o at c0 HX HX2
      by_cases ho : o = row
      · have hd : (o == (row : Int)) = true := by simpa using ho
        have hq := HX.out ho HN.out
        have HQ := Lib.hid hq
        clear hq
        go_wp2
        go_ret
        refine ⟨ret_bool ?_, G0.out⟩
        rw [HQ.out, decide_eq_false (show ¬ (i : Int) < 0 by omega), Bool.and_false]
      · have hd : (o == (row : Int)) = false := by simpa using ho
        go_wp2
        go_roundw
        case rel => exact ⟨i + 1, by go_num, by omega, Lib.hid (HX2.out ho), (by first | rfl | trivial)⟩
        case measure => simp [intOf] <;> omega
    · obtain rfl : i = c.wn := by omega
      have i1 : ¬ (c.wn : Int) < (c.wn : Int) := by omega
      have HQ := Lib.hid (HNO.out HN.out)
      go_wp2
      go_ret
      refine ⟨ret_bool ?_, G0.out⟩
      rw [HQ.out, decide_eq_true (show (-1 : Int) < 0 by omega), Bool.and_true]
      try (rw [Bool.eq_iff_iff]; simp)
set_option maxRecDepth 40000 in
set_option maxHeartbeats 3200000 in
theorem has7_any (c : Cf) (w : World) (hc : CfV w c) (hf : FitCf c) (row : Nat) (h32 : row ≤ 1000) (hcn : c.cn ≤ 1000) : Calls Try.prog 14 #[cfv c, .int .i64 7, .int .i64 row] w fun e w' => e = .returned (.bool (decide (row = 0) && shwB c)) ∧ w.grownBy w' none := by
  obtain ⟨W1, hW, G0, hA⟩ := box1 w 26 #[.int .i64 c.fr, .slice c.wA c.wn c.wc, .slice c.sA c.sn c.sc, .slice c.cA c.cn c.cc]
  obtain ⟨k0, k1, k2, k3⟩ := cf_cells (c := c) hA
  have HROW := Lib.hid (hc.1.grown G0)
  replace G0 := Lib.hid G0
  show Calls Try.prog 14 #[.agg #[.int .i64 c.fr, .slice c.wA c.wn c.wc, .slice c.sA c.sn c.sc, .slice c.cA c.cn c.cc], .int .i64 7, .int .i64 row] w _
  have hw0 : IntKind.i64.wrap ((row : Int) - 1) = (row : Int) - 1 := by rw [IntKind.wrap_i64]; omega
  have hfr := hf.1
  have HBW := Lib.hid (fun (x : W3) (W : World) => (show Calls Try.prog 37 #[.agg #[.int .i64 c.fr, .slice c.wA c.wn c.wc, .slice c.sA c.sn c.sc, .slice c.cA c.cn c.cc], .agg #[.int .i64 x.1, .int .i64 x.2.1, .int .i64 x.2.2]] W (fun e w' => e = .returned (.bool (badW c x)) ∧ W.grownBy w' none) from rbadw_any c x W))
  have HBN := Lib.hid (fun (x : W3) => badW_no (c := c) (x := x))
  have hm : c.wn ≤ 9223372036854775807 := by have := hf.2.1; omega
  clear hA hc hf h32
  by_cases hr : row = 0
  · subst hr
    have hd9 : (decide ((0 : Nat) = 0) && shwB c) = shwB c := by simp
    rw [hd9]
    clear hd9
    have HAT := Lib.hid (fun (i : Nat) (hi : i < c.wn) (h : (c.wd i).1 = 0) hb => shwB_at (fwI_at (c := c) (o := 0) hi h hb))
    have HNO := Lib.hid (fun h => shwB_none (fwI_none (c := c) (o := 0) h))
    generalize shwB c = z at HAT HNO ⊢
    go_enter Try.func14, Try.ntmps14
    go_upto_region 1 with (fail)
    rw [← hW]
    clear hW
    go_wp2
    go_loopw [15] (fun x wr => ∃ i : Nat, x = .int .i64 i ∧ i ≤ c.wn ∧ Hid (∀ k, k < i → (c.wd k).1 ≠ 0) ∧ wr = W1) (fun x _ => c.wn - (intOf x).toNat)
    case atStart => exact ⟨0, rfl, by omega, Lib.hid (fun k hk => absurd hk (by omega)), rfl⟩
    case round =>
      obtain ⟨i, rfl, hi, HN, rfl⟩ := hrel
      by_cases hin : i < c.wn
      · have i1 : (i : Int) < (c.wn : Int) := by omega
        have i0 : (0 : Int) ≤ (i : Int) := by omega
        obtain ⟨b, off, hwA, hb, hcl⟩ := HROW.out.2 (by omega)
        obtain ⟨c0, c1, c2⟩ := hcl i hin
        rw [hwA] at k1
        have HX := Lib.hid (HAT.out i hin)
        have HX2 := Lib.hid (show ((c.wd i).1 ≠ 0 → ∀ k, k < i + 1 → (c.wd k).1 ≠ 0) from fun h k hk => by
          by_cases e : k = i
          · rw [e]; exact h
          · exact HN.out k (by omega))
        have hbn := HBN.out (c.wd i)
        have HBX := Lib.hid (HBW.out (c.wd i))
        unfold shV at HX
        clear hcl hb
        generalize c.wd i = x at c0 c1 c2 HX HX2 hbn HBX
        obtain ⟨x1, x2, x3⟩ := x
        simp only at c0 c1 c2 HX HX2 hbn HBX
        rw [hwA] at HBX
        by_cases ho : x1 = 0
        · subst ho
          have HQ := Lib.hid (HX.out rfl HN.out)
          clear HX HX2
          generalize badW c (0, x2, x3) = r2 at hbn HBX HQ
          have hw1 : r2 = false → IntKind.i64.wrap (x3 - x2) = x3 - x2 := fun h => by
            have := hbn.1 h
            unfold fitI at hfr
            rw [IntKind.wrap_i64]
            omega
          have hw2 : IntKind.i64.wrap (2 * (c.cn : Int)) = 2 * (c.cn : Int) := by rw [IntKind.wrap_i64]; omega
          clear hbn
          have HC1 := Lib.hid c1
          have HC2 := Lib.hid c2
          have HK := Lib.hid (And.intro k0 (And.intro k1 (And.intro k2 k3)))
          go_upto_region 35 with (fail)
          have j0 := fun dd os => cell_regrown k0 dd os
          have j1 := fun dd os => cell_regrown k1 dd os
          have j2 := fun dd os => cell_regrown k2 dd os
          have j3 := fun dd os => cell_regrown k3 dd os
          have m0 := fun dd os => cell_regrown c0 dd os
          have m1 := fun dd os => cell_regrown c1 dd os
          have m2 := fun dd os => cell_regrown c2 dd os
          clear k0 k1 k2 k3 c0 c1 c2
          cases r2 <;> (
            try replace hw1 := hw1 rfl
            refine wp_region_quiet_below (by kernel_rfl) (by kernel_rfl) ?_
            repeat (go_big_quiet_step ((first | (go_at_call 37; with_reducible exact rg1 (HBX.out _)))))
            refine wpQuiet_nil ?_
            intro w3 hw3
            obtain ⟨p, rfl⟩ := hw3
            have G3 := Lib.hid (only_trans G0.out (only_re wr p.d p.os))
            clear j0 j1 j2 j3 m0 m1 m2
            generalize grow (redrawn wr p.d) p.os = w3 at G3 ⊢
            go_wp2
            go_ret
            exact ⟨by rw [HQ.out]; simp, G3.out⟩)
        · have hd : (x1 == 0) = false := by simpa using ho
          clear HX HBX hbn
          go_wp2
          go_roundw
          case rel => exact ⟨i + 1, by go_num, by omega, Lib.hid (HX2.out ho), (by first | rfl | trivial)⟩
          case measure => simp [intOf] <;> omega
      · obtain rfl : i = c.wn := by omega
        have i1 : ¬ (c.wn : Int) < (c.wn : Int) := by omega
        have HQ := Lib.hid (HNO.out HN.out)
        go_wp2
        go_ret
        exact ⟨ret_bool HQ.out.symm, G0.out⟩
  · have hd : ((row : Int) == 0) = false := by simp; omega
    have hd9 : (decide (row = 0) && shwB c) = false := by simp [hr]
    rw [hd9]
    clear hd9 HBW HBN
    go_enter Try.func14, Try.ntmps14
    go_upto_region 1 with (fail)
    rw [← hW]
    clear hW
    go_wp2
    go_loopw [15] (fun x wr => x = .int .i64 0 ∧ wr = W1) (fun x _ => 0)
    case atStart => exact ⟨rfl, rfl⟩
    case round =>
      obtain ⟨rfl, rfl⟩ := hrel
      by_cases h0 : 0 < c.wn
      · have i1 : (0 : Int) < (c.wn : Int) := by omega
        go_wp2
        go_ret
        exact ⟨rfl, G0.out⟩
      · have i1 : ¬ (0 : Int) < (c.wn : Int) := by omega
        go_wp2
        go_ret
        exact ⟨rfl, G0.out⟩
end Go.Proofs.Ytgkegmkedkgkcaa
