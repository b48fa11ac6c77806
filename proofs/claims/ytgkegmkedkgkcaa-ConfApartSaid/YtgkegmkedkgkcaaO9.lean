/- The document's units of an owner, by the contracts. -/
import Derived.Test.YtgkegmkedkgkcaaO8
namespace Go.Proofs.Ytgkegmkedkgkcaa
open Go.RowKit Go.Lib Go.Sort
set_option linter.unusedVariables false

set_option maxRecDepth 20000 in
set_option maxHeartbeats 3200000 in
theorem runits_any (c : Cf) (o : Int) (w : World) (hc : CfV w c) (hf : FitCf c) : Calls Try.prog 39 #[cfv c, .int .i64 o] w fun e w' => e = .returned (.int .i64 (unitsV c o)) ∧ w.grownBy w' none := by
  have HBF := Lib.hid (fun W => rframe_any c W)
  have hfr := hf.1
  have HBS := Lib.hid (fun (x : W3) (W : World) => rbads_any c x hfr W)
  have hsl := hf.2.2.1
  have HBN := Lib.hid (fun (x : W3) => badS_no (c := c) (x := x))
  have hfi := frB_iff (c := c)
  have HUL := Lib.hid (fun h => unZ_le (c := c) h o)
  have HUN := Lib.hid (fun n => show unZ c o (n + 1) = if (c.sd n).1 = o ∧ badS c (c.sd n) = false then unZ c o n + ((c.sd n).2.2 - (c.sd n).2.1) / 4 else unZ c o n from rfl)
  have HU0 := Lib.hid (show unZ c o 0 = 0 from rfl)
  unfold unitsV
  generalize frB c = r at HBF hfi ⊢
  have HROW := Lib.hid hc.2.1
  generalize unZ c o = U at HUL HUN HU0 ⊢
  generalize badS c = BS at HBS HBN HUN
  obtain ⟨fr, wA, wn, wc, wd, sA, sn, sc, sd, cA, cn, cc, cd⟩ := c
  simp only at HROW HUN HBN hfi HUL hfr hsl
  replace HBF : Hid (∀ W, Calls Try.prog 13 #[.agg #[.int .i64 fr, .slice wA wn wc, .slice sA sn sc, .slice cA cn cc]] W fun e w' => e = .returned (.bool r) ∧ W.grownBy w' none) := HBF
  replace HBS : Hid (∀ (x : W3) (W : World), Calls Try.prog 38 #[.agg #[.int .i64 fr, .slice wA wn wc, .slice sA sn sc, .slice cA cn cc], .agg #[.int .i64 x.1, .int .i64 x.2.1, .int .i64 x.2.2]] W fun e w' => e = .returned (.bool (BS x)) ∧ W.grownBy w' none) := HBS
  show Calls Try.prog 39 #[.agg #[.int .i64 fr, .slice wA wn wc, .slice sA sn sc, .slice cA cn cc], .int .i64 o] w fun e w' => e = .returned (.int .i64 (if r = true then U sn else 0)) ∧ w.grownBy w' none
  obtain ⟨W1, hW, G0, hA⟩ := box1 w 26 #[.int .i64 fr, .slice wA wn wc, .slice sA sn sc, .slice cA cn cc]
  replace G0 := Lib.hid G0
  have HA := Lib.hid hA
  have k1 := fun i => hA.cell i
  obtain ⟨hsc, hsm, _⟩ := hsl
  clear hA hc hf
  cases r
  · clear hfi
    by_cases h0 : 0 < sn
    · have i1 : (0 : Int) < (sn : Int) := by omega
      go_enter Try.func39, Try.ntmps39
      go_upto_region 1 with (fail)
      rw [← hW]
      clear hW
      go_wp2_with (fail)
      go_loopw [5, 6] (fun y z wr => y = .int .i64 0 ∧ z = .int .i64 0 ∧ wr = W1) (fun _ _ _ => 0)
      case atStart => exact ⟨rfl, rfl, rfl⟩
      case round =>
        obtain ⟨rfl, rfl, rfl⟩ := hrel
        go_wp2_with (go_at_call 13; (with_reducible refine (HBF.out _).mono ?_); rintro e w2 ⟨rfl, g2⟩; have G2 := Lib.hid (only_trans G0.out g2); clear g2)
        go_ret
        exact ⟨by simp, G2.out⟩
    · obtain rfl : sn = 0 := by omega
      go_enter Try.func39, Try.ntmps39
      go_upto_region 1 with (fail)
      rw [← hW]
      clear hW
      go_wp2_with (fail)
      go_loopw [5, 6] (fun y z wr => y = .int .i64 0 ∧ z = .int .i64 0 ∧ wr = W1) (fun _ _ _ => 0)
      case atStart => exact ⟨rfl, rfl, rfl⟩
      case round =>
        obtain ⟨rfl, rfl, rfl⟩ := hrel
        go_wp2_with (fail)
        go_ret
        exact ⟨by simp, G0.out⟩
  · replace hfi := hfi.1 rfl
    have HUB := Lib.hid (HUL.out hfi.2.1)
    have hsn : sn ≤ 32 := hfi.2.2.2.2.2
    have hfr2 : fr ≤ 4096 := hfi.2.1
    clear hfi HUL
    go_enter Try.func39, Try.ntmps39
    go_upto_region 1 with (fail)
    rw [← hW]
    clear hW
    go_wp2_with (fail)
    clear k1
    go_loopw [5, 6] (fun y z wr => ∃ i : Nat, y = .int .i64 (U i) ∧ z = .int .i64 i ∧ i ≤ sn ∧ Hid (Blk wr w.heap.size 26 #[.int .i64 fr, .slice wA wn wc, .slice sA sn sc, .slice cA cn cc]) ∧ Hid (w.grownBy wr none)) (fun _ z _ => sn - (intOf z).toNat)
    case atStart => exact ⟨0, by rw [HU0.out], rfl, by omega, HA, G0⟩
    case round =>
      obtain ⟨i, rfl, rfl, hi, HAW, HG⟩ := hrel
      clear HA G0
      obtain ⟨a0, a1, a2, a3⟩ := cells4 HAW.out
      by_cases hin : i < sn
      · have i1 : (i : Int) < (sn : Int) := by omega
        have hub := HUB.out i
        have hu := HUN.out i
        have hbn := HBN.out (sd i)
        have HBSX := Lib.hid (HBS.out (sd i))
        go_upto_region 5 with (go_at_call 13; (with_reducible refine (HBF.out _).mono ?_); rintro e w4 ⟨rfl, g4⟩; have A4 := Lib.hid (HAW.out.only g4 (by simp)); have G4 := Lib.hid (only_trans HG.out g4); clear g4)
        clear a0 a1 a2 a3
        obtain ⟨b, off, rfl, hb, hcl⟩ := (HROW.out.grown G4.out).2 (by omega)
        obtain ⟨c0, c1, c2⟩ := hcl i hin
        clear hcl hb
        obtain ⟨x, hx⟩ : ∃ x, x = sd i := ⟨_, rfl⟩
        rw [← hx] at c0 c1 c2 hu hbn HBSX
        clear hx
        obtain ⟨x1, x2, x3⟩ := x
        simp only at c0 c1 c2 hu hbn HBSX
        generalize BS (x1, x2, x3) = r2 at hu hbn HBSX
        generalize U i = u at hu hub ⊢
        have k4 := blk_re A4.out
        have m0 := fun dd os => cell_regrown c0 dd os
        have m1 := fun dd os => cell_regrown c1 dd os
        have m2 := fun dd os => cell_regrown c2 dd os
        have HC1 := Lib.hid c1
        have HC2 := Lib.hid c2
        clear c0 c1 c2
        by_cases ho : x1 = o
        · subst ho
          have hd : (x1 == x1) = true := by simp
          have hw1 : r2 = false → IntKind.i64.wrap (x3 - x2) = x3 - x2 ∧ IntKind.i64.wrap (u + (x3 - x2) / 4) = u + (x3 - x2) / 4 ∧ IntKind.i64.wrap ((x3 - x2).tdiv 4) = (x3 - x2) / 4 := fun h => by
            have := hbn.1 h
            rw [Int.tdiv_eq_ediv_of_nonneg (by omega), IntKind.wrap_i64, IntKind.wrap_i64, IntKind.wrap_i64]
            omega
          have HU' := Lib.hid hu
          clear hu hbn hub
          cases r2
          · obtain ⟨hw1, hw2, hw3⟩ := hw1 rfl
            have HU2 : Hid (U (i + 1) = u + (x3 - x2) / 4) := Lib.hid (by rw [HU'.out, if_pos ⟨rfl, rfl⟩])
            clear HU'
            refine wp_region_quiet_below (by kernel_rfl) (by kernel_rfl) ?_
            repeat (go_big_quiet_step ((first | (go_at_call 38; with_reducible exact rg1 (HBSX.out _)))))
            refine wpQuiet_nil ?_
            intro w5 hw5
            obtain ⟨p5, rfl⟩ := hw5
            have A5 := Lib.hid (A4.out.only (only_re w4 p5.d p5.os) (by simp))
            have G5 := Lib.hid (only_trans G4.out (only_re w4 p5.d p5.os))
            have c1 := m1 p5.d p5.os
            have c2 := m2 p5.d p5.os
            clear k4 m0 m1 m2
            generalize grow (redrawn w4 p5.d) p5.os = w5 at A5 G5 c1 c2 ⊢
            go_upto_region 6 with (fail)
            have k4 := blk_re A5.out
            have m1 := fun dd os => cell_regrown c1 dd os
            have m2 := fun dd os => cell_regrown c2 dd os
            clear c1 c2
            refine wp_region_quiet_below (by kernel_rfl) (by kernel_rfl) ?_
            repeat (go_big_quiet_step ((fail)))
            refine wpQuiet_nil ?_
            intro w6 hw6
            obtain ⟨p6, rfl⟩ := hw6
            have A6 := Lib.hid (A5.out.only (only_re w5 p6.d p6.os) (by simp))
            have G6 := Lib.hid (only_trans G5.out (only_re w5 p6.d p6.os))
            clear k4 m1 m2
            generalize grow (redrawn w5 p6.d) p6.os = w6 at A6 G6 ⊢
            go_wp2_with (fail)
            go_roundw
            case rel => exact ⟨i + 1, by rw [HU2.out], by go_num, by omega, A6, G6⟩
            case measure => simp [intOf] <;> omega
          · have HU2 : Hid (U (i + 1) = u) := Lib.hid (by rw [HU'.out, if_neg (by simp)])
            clear HU' hw1
            refine wp_region_quiet_below (by kernel_rfl) (by kernel_rfl) ?_
            repeat (go_big_quiet_step ((first | (go_at_call 38; with_reducible exact rg1 (HBSX.out _)))))
            refine wpQuiet_nil ?_
            intro w5 hw5
            obtain ⟨p5, rfl⟩ := hw5
            have A5 := Lib.hid (A4.out.only (only_re w4 p5.d p5.os) (by simp))
            have G5 := Lib.hid (only_trans G4.out (only_re w4 p5.d p5.os))
            clear k4 m0 m1 m2
            generalize grow (redrawn w4 p5.d) p5.os = w5 at A5 G5 ⊢
            go_wp2_with (fail)
            go_roundw
            case rel => exact ⟨i + 1, by rw [HU2.out], by go_num, by omega, A5, G5⟩
            case measure => simp [intOf] <;> omega
        · have hd : (x1 == o) = false := by simpa using ho
          have HU2 : Hid (U (i + 1) = u) := Lib.hid (by rw [hu, if_neg (fun h => ho h.1)])
          clear hu hbn hub
          refine wp_region_quiet_below (by kernel_rfl) (by kernel_rfl) ?_
          repeat (go_big_quiet_step ((fail)))
          refine wpQuiet_nil ?_
          intro w5 hw5
          obtain ⟨p5, rfl⟩ := hw5
          have A5 := Lib.hid (A4.out.only (only_re w4 p5.d p5.os) (by simp))
          have G5 := Lib.hid (only_trans G4.out (only_re w4 p5.d p5.os))
          clear k4 m0 m1 m2
          generalize grow (redrawn w4 p5.d) p5.os = w5 at A5 G5 ⊢
          go_wp2_with (fail)
          go_roundw
          case rel => exact ⟨i + 1, by rw [HU2.out], by go_num, by omega, A5, G5⟩
          case measure => simp [intOf] <;> omega
      · obtain rfl : i = sn := by omega
        have i1 : ¬ (i : Int) < (i : Int) := by omega
        go_wp2
        go_ret
        exact ⟨by simp, HG.out⟩
end Go.Proofs.Ytgkegmkedkgkcaa
