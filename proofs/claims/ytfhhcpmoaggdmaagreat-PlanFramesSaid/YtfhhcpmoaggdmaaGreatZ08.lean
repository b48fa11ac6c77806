import Derived.Test.YtfhhcpmoaggdmaaGreatZ07
import Derived.Test.YtfhhcpmoaggdmaaGreatZ06
set_option linter.all false
/- Units of an owner, by the contracts. -/
namespace Go.Proofs.YtfhhcpmoaggdmaaGreat
open Go.RowKit Go.Lib Go.Sort
set_option linter.unusedVariables false

theorem cells4 {w : World} {g : Nat} {t : TypeId} {v0 v1 v2 v3 : Value} (h : Blk w g t #[v0, v1, v2, v3]) : w.cell? ⟨g, 0, none⟩ = some v0 ∧ w.cell? ⟨g, 1, none⟩ = some v1 ∧ w.cell? ⟨g, 2, none⟩ = some v2 ∧ w.cell? ⟨g, 3, none⟩ = some v3 := ⟨h.cell 0, h.cell 1, h.cell 2, h.cell 3⟩
/-- The units of an owner in the first n slots. -/
def unZ (c : Cf) (o : Int) : Nat → Int
  | 0 => 0
  | n + 1 => if (c.sd n).1 = o ∧ badS c (c.sd n) = false then unZ c o n + ((c.sd n).2.2 - (c.sd n).2.1) / 4 else unZ c o n
def unitsV (c : Cf) (o : Int) : Int := if frB c then unZ c o c.sn else 0
theorem unZ_le {c : Cf} (hf : c.fr ≤ 4096) (o : Int) (n : Nat) : 0 ≤ unZ c o n ∧ unZ c o n ≤ 1024 * n := by
  induction n with
  | zero => exact ⟨Int.le_refl _, by simp [unZ]⟩
  | succ n ih =>
    unfold unZ
    split
    · rename_i h
      have := badS_no.1 h.2
      omega
    · omega
set_option maxRecDepth 20000 in
set_option maxHeartbeats 3200000 in
theorem units_any (c : Cf) (o : Int) (w : World) (hc : CfV w c) (hf : FitCf c) : Calls Tryz.prog 85 #[cfv c, .int .i64 o] w fun e w' => e = .returned (.int .i64 (unitsV c o)) ∧ w.grownBy w' none := by
  have HBF := Lib.hid (fun W => badf_any c W)
  have hfr := hf.1
  have HBS := Lib.hid (fun (x : W3) (hx : FitW3 x) (W : World) => bads_any c x hx hfr W)
  have HFS := Lib.hid hf.2.2.1
  have HBN := Lib.hid (fun (x : W3) => badS_no (c := c) (x := x))
  have hfi := frB_iff (c := c)
  have HUL := Lib.hid (fun h => unZ_le (c := c) h o)
  have HUN := Lib.hid (fun n => show unZ c o (n + 1) = if (c.sd n).1 = o ∧ badS c (c.sd n) = false then unZ c o n + ((c.sd n).2.2 - (c.sd n).2.1) / 4 else unZ c o n from rfl)
  have HU0 := Lib.hid (show unZ c o 0 = 0 from rfl)
  unfold unitsV
  generalize frB c = r at HBF hfi ⊢
  have HROW := Lib.hid hc.2.1
  generalize unZ c o = U at HUL HUN HU0 ⊢
  generalize badS c = BS at HBS HBN HUN
  obtain ⟨fr, wA, wn, wc, wd, sA, sn, sc, sd, cA, cn, cc, cd⟩ := c
  simp only at HFS HROW HUN HBN hfi HUL hfr
  have HBF : Hid (∀ W, Calls Tryz.prog 66 #[.agg #[.int .i64 fr, .slice wA wn wc, .slice sA sn sc, .slice cA cn cc]] W fun e w' => e = .returned (.bool !r) ∧ W.grownBy w' none) := HBF
  have HBS : Hid (∀ (x : W3) (hx : FitW3 x) (W : World), Calls Tryz.prog 81 #[.agg #[.int .i64 fr, .slice wA wn wc, .slice sA sn sc, .slice cA cn cc], .agg #[.int .i64 x.1, .int .i64 x.2.1, .int .i64 x.2.2]] W fun e w' => e = .returned (.bool (BS x)) ∧ W.grownBy w' none) := HBS
  show Calls Tryz.prog 85 #[.agg #[.int .i64 fr, .slice wA wn wc, .slice sA sn sc, .slice cA cn cc], .int .i64 o] w fun e w' => e = .returned (.int .i64 (if r = true then U sn else 0)) ∧ w.grownBy w' none
  obtain ⟨W1, hW, G0, hA⟩ := box1 w 26 #[.int .i64 fr, .slice wA wn wc, .slice sA sn sc, .slice cA cn cc]
  replace G0 := Lib.hid G0
  have HA := Lib.hid hA
  have k1 := fun i => hA.cell i
  clear hA hc hf
  cases r
  · clear hfi
    go_enter Tryz.func85, Tryz.ntmps85
    go_upto_region 1 with (fail)
    rw [← hW]
    clear hW
    go_wp2_with (go_at_call 66; (with_reducible refine (HBF.out _).mono ?_); rintro e w2 ⟨rfl, g2⟩; have G2 := Lib.hid (only_trans G0.out g2); clear g2)
    go_ret
    exact ⟨by simp, G2.out⟩
  · replace hfi := hfi.1 rfl
    have HUB := Lib.hid (HUL.out hfi.2.1)
    have hsn : sn ≤ 32 := hfi.2.2.2.2.2
    have hfr2 : fr ≤ 4096 := hfi.2.1
    clear hfi HUL
    go_enter Tryz.func85, Tryz.ntmps85
    go_upto_region 1 with (fail)
    rw [← hW]
    clear hW
    go_upto_region 4 with (go_at_call 66; (with_reducible refine (HBF.out _).mono ?_); rintro e w2 ⟨rfl, g2⟩; have A2 := Lib.hid (HA.out.only g2 (by simp)); have G2 := Lib.hid (only_trans G0.out g2); clear g2 k1)
    have k2 := fun i => A2.out.cell i
    go_wp2_with (fail)
    clear k2
    go_loopw [5, 13] (fun y z wr => ∃ i : Nat, y = .int .i64 (U i) ∧ z = .int .i64 i ∧ i ≤ sn ∧ Hid (Blk wr w.heap.size 26 #[.int .i64 fr, .slice wA wn wc, .slice sA sn sc, .slice cA cn cc]) ∧ Hid (w.grownBy wr none)) (fun _ z _ => sn - (intOf z).toNat)
    case atStart => exact ⟨0, by rw [HU0.out], rfl, by omega, A2, G2⟩
    case round =>
      obtain ⟨i, rfl, rfl, hi, HAW, HG⟩ := hrel
      clear A2 G2
      by_cases hin : i < sn
      · have i1 : (i : Int) < (sn : Int) := by omega
        obtain ⟨b, off, rfl, hb, hcl⟩ := (HROW.out.grown HG.out).2 (by omega)
        obtain ⟨c0, c1, c2⟩ := hcl i hin
        have hfx := HFS.out.2.2 i hin
        have hu := HUN.out i
        have hub := HUB.out i
        have hbn := HBN.out (sd i)
        have HBSX := Lib.hid (HBS.out (sd i) hfx)
        clear hcl hb hfx
        obtain ⟨x, hx⟩ : ∃ x, x = sd i := ⟨_, rfl⟩
        rw [← hx] at c0 c1 c2 hu hbn HBSX
        clear hx
        obtain ⟨x1, x2, x3⟩ := x
        simp only at c0 c1 c2 hu hbn HBSX
        generalize BS (x1, x2, x3) = r2 at hu hbn HBSX
        generalize U i = u at hu hub ⊢
        have HX := Lib.hid (Blk.new wr 84 #[.int .i64 x1, .int .i64 x2, .int .i64 x3])
        have HA2 := Lib.hid (HAW.out.alloc (.cells #[.int .i64 x1, .int .i64 x2, .int .i64 x3] 84))
        obtain ⟨a0, a1, a2, a3⟩ := cells4 HAW.out
        have hlt : w.heap.size < wr.heap.size := HAW.out.lt
        have hne : ¬ w.heap.size = wr.heap.size := by have := HAW.out.lt; omega
        have hne' : ¬ wr.heap.size = w.heap.size := by omega
        by_cases ho : x1 = o
        · subst ho
          have hd : (x1 == x1) = true := by simp
          have hw1 : r2 = false → IntKind.i64.wrap (x3 - x2) = x3 - x2 ∧ IntKind.i64.wrap (u + (x3 - x2) / 4) = u + (x3 - x2) / 4 ∧ IntKind.i64.wrap ((x3 - x2).tdiv 4) = (x3 - x2) / 4 := fun h => by
            have := hbn.1 h
            rw [Int.tdiv_eq_ediv_of_nonneg (by omega), IntKind.wrap_i64, IntKind.wrap_i64, IntKind.wrap_i64]
            omega
          have HU' := Lib.hid hu
          clear hu hbn hub
          cases r2
          · obtain ⟨hw1, hw2, hw3⟩ := hw1 rfl
            have HU2 : Hid (U (i + 1) = u + (x3 - x2) / 4) := Lib.hid (by rw [HU'.out, if_pos ⟨rfl, rfl⟩])
            clear HU'
            go_wp2_with (go_at_call 81; go_loud (with_reducible refine (HBSX.out _).mono ?_); rintro e w4 ⟨rfl, g4⟩; have hx4 := HX.out.only g4 (by simp); have q4 := fun i => hx4.cell i; have A4 := Lib.hid (HA2.out.only g4 (by simp)); have G4 := Lib.hid (only_trans (only_trans HG.out (only_alloc (only_refl _ _) _)) g4); clear g4 hx4 a0 a1 a2 a3)
            go_roundw
            case rel => exact ⟨i + 1, by rw [HU2.out], by go_num, by omega, A4, G4⟩
            case measure => simp [intOf] <;> omega
          · have HU2 : Hid (U (i + 1) = u) := Lib.hid (by rw [HU'.out, if_neg (by simp)])
            clear HU' hw1
            go_wp2_with (go_at_call 81; (with_reducible refine (HBSX.out _).mono ?_); rintro e w4 ⟨rfl, g4⟩; have A4 := Lib.hid (HA2.out.only g4 (by simp)); have G4 := Lib.hid (only_trans (only_trans HG.out (only_alloc (only_refl _ _) _)) g4); clear g4 a0 a1 a2 a3)
            go_roundw
            case rel => exact ⟨i + 1, by rw [HU2.out], by go_num, by omega, A4, G4⟩
            case measure => simp [intOf] <;> omega
        · have hd : (x1 == o) = false := by simpa using ho
          have HU2 : Hid (U (i + 1) = u) := Lib.hid (by rw [hu, if_neg (fun h => ho h.1)])
          clear hu hbn hub
          go_wp2_with (fail)
          go_roundw
          case rel => exact ⟨i + 1, by rw [HU2.out], by go_num, by omega, HA2, Lib.hid (only_trans HG.out (only_alloc (only_refl _ _) _))⟩
          case measure => simp [intOf] <;> omega
      · obtain rfl : i = sn := by omega
        have i1 : ¬ (i : Int) < (i : Int) := by omega
        go_wp2
        go_ret
        exact ⟨by simp, HG.out⟩
end Go.Proofs.YtfhhcpmoaggdmaaGreat

/- The document's units of an owner, by the contracts. -/
namespace Go.Proofs.YtfhhcpmoaggdmaaGreat
open Go.RowKit Go.Lib Go.Sort
set_option linter.unusedVariables false

set_option maxRecDepth 20000 in
set_option maxHeartbeats 3200000 in
theorem runits_any (c : Cf) (o : Int) (w : World) (hc : CfV w c) (hf : FitCf c) : Calls Tryz.prog 58 #[cfv c, .int .i64 o] w fun e w' => e = .returned (.int .i64 (unitsV c o)) ∧ w.grownBy w' none := by
  have HBF := Lib.hid (fun W => rframe_any c W)
  have hfr := hf.1
  have HBS := Lib.hid (fun (x : W3) (W : World) => rbads_any c x hfr W)
  have hsl := hf.2.2.1
  have HBN := Lib.hid (fun (x : W3) => badS_no (c := c) (x := x))
  have hfi := frB_iff (c := c)
  have HUL := Lib.hid (fun h => unZ_le (c := c) h o)
  have HUN := Lib.hid (fun n => show unZ c o (n + 1) = if (c.sd n).1 = o ∧ badS c (c.sd n) = false then unZ c o n + ((c.sd n).2.2 - (c.sd n).2.1) / 4 else unZ c o n from rfl)
  have HU0 := Lib.hid (show unZ c o 0 = 0 from rfl)
  unfold unitsV
  generalize frB c = r at HBF hfi ⊢
  have HROW := Lib.hid hc.2.1
  generalize unZ c o = U at HUL HUN HU0 ⊢
  generalize badS c = BS at HBS HBN HUN
  obtain ⟨fr, wA, wn, wc, wd, sA, sn, sc, sd, cA, cn, cc, cd⟩ := c
  simp only at HROW HUN HBN hfi HUL hfr hsl
  replace HBF : Hid (∀ W, Calls Tryz.prog 33 #[.agg #[.int .i64 fr, .slice wA wn wc, .slice sA sn sc, .slice cA cn cc]] W fun e w' => e = .returned (.bool r) ∧ W.grownBy w' none) := HBF
  replace HBS : Hid (∀ (x : W3) (W : World), Calls Tryz.prog 57 #[.agg #[.int .i64 fr, .slice wA wn wc, .slice sA sn sc, .slice cA cn cc], .agg #[.int .i64 x.1, .int .i64 x.2.1, .int .i64 x.2.2]] W fun e w' => e = .returned (.bool (BS x)) ∧ W.grownBy w' none) := HBS
  show Calls Tryz.prog 58 #[.agg #[.int .i64 fr, .slice wA wn wc, .slice sA sn sc, .slice cA cn cc], .int .i64 o] w fun e w' => e = .returned (.int .i64 (if r = true then U sn else 0)) ∧ w.grownBy w' none
  obtain ⟨W1, hW, G0, hA⟩ := box1 w 26 #[.int .i64 fr, .slice wA wn wc, .slice sA sn sc, .slice cA cn cc]
  replace G0 := Lib.hid G0
  have HA := Lib.hid hA
  have k1 := fun i => hA.cell i
  obtain ⟨hsc, hsm, _⟩ := hsl
  clear hA hc hf
  cases r
  · clear hfi
    by_cases h0 : 0 < sn
    · have i1 : (0 : Int) < (sn : Int) := by omega
      go_enter Tryz.func58, Tryz.ntmps58
      go_upto_region 1 with (fail)
      rw [← hW]
      clear hW
      go_wp2_with (fail)
      go_loopw [5, 6] (fun y z wr => y = .int .i64 0 ∧ z = .int .i64 0 ∧ wr = W1) (fun _ _ _ => 0)
      case atStart => exact ⟨rfl, rfl, rfl⟩
      case round =>
        obtain ⟨rfl, rfl, rfl⟩ := hrel
        go_wp2_with (go_at_call 33; (with_reducible refine (HBF.out _).mono ?_); rintro e w2 ⟨rfl, g2⟩; have G2 := Lib.hid (only_trans G0.out g2); clear g2)
        go_ret
        exact ⟨by simp, G2.out⟩
    · obtain rfl : sn = 0 := by omega
      go_enter Tryz.func58, Tryz.ntmps58
      go_upto_region 1 with (fail)
      rw [← hW]
      clear hW
      go_wp2_with (fail)
      go_loopw [5, 6] (fun y z wr => y = .int .i64 0 ∧ z = .int .i64 0 ∧ wr = W1) (fun _ _ _ => 0)
      case atStart => exact ⟨rfl, rfl, rfl⟩
      case round =>
        obtain ⟨rfl, rfl, rfl⟩ := hrel
        go_wp2_with (fail)
        go_ret
        exact ⟨by simp, G0.out⟩
  · replace hfi := hfi.1 rfl
    have HUB := Lib.hid (HUL.out hfi.2.1)
    have hsn : sn ≤ 32 := hfi.2.2.2.2.2
    have hfr2 : fr ≤ 4096 := hfi.2.1
    clear hfi HUL
    go_enter Tryz.func58, Tryz.ntmps58
    go_upto_region 1 with (fail)
    rw [← hW]
    clear hW
    go_wp2_with (fail)
    clear k1
    go_loopw [5, 6] (fun y z wr => ∃ i : Nat, y = .int .i64 (U i) ∧ z = .int .i64 i ∧ i ≤ sn ∧ Hid (Blk wr w.heap.size 26 #[.int .i64 fr, .slice wA wn wc, .slice sA sn sc, .slice cA cn cc]) ∧ Hid (w.grownBy wr none)) (fun _ z _ => sn - (intOf z).toNat)
    case atStart => exact ⟨0, by rw [HU0.out], rfl, by omega, HA, G0⟩
    case round =>
      obtain ⟨i, rfl, rfl, hi, HAW, HG⟩ := hrel
      clear HA G0
      obtain ⟨a0, a1, a2, a3⟩ := cells4 HAW.out
      by_cases hin : i < sn
      · have i1 : (i : Int) < (sn : Int) := by omega
        have hub := HUB.out i
        have hu := HUN.out i
        have hbn := HBN.out (sd i)
        have HBSX := Lib.hid (HBS.out (sd i))
        go_upto_region 5 with (go_at_call 33; (with_reducible refine (HBF.out _).mono ?_); rintro e w4 ⟨rfl, g4⟩; have A4 := Lib.hid (HAW.out.only g4 (by simp)); have G4 := Lib.hid (only_trans HG.out g4); clear g4)
        clear a0 a1 a2 a3
        obtain ⟨b, off, rfl, hb, hcl⟩ := (HROW.out.grown G4.out).2 (by omega)
        obtain ⟨c0, c1, c2⟩ := hcl i hin
        clear hcl hb
        obtain ⟨x, hx⟩ : ∃ x, x = sd i := ⟨_, rfl⟩
        rw [← hx] at c0 c1 c2 hu hbn HBSX
        clear hx
        obtain ⟨x1, x2, x3⟩ := x
        simp only at c0 c1 c2 hu hbn HBSX
        generalize BS (x1, x2, x3) = r2 at hu hbn HBSX
        generalize U i = u at hu hub ⊢
        have k4 := blk_re A4.out
        have m0 := fun dd os => cell_regrown c0 dd os
        have m1 := fun dd os => cell_regrown c1 dd os
        have m2 := fun dd os => cell_regrown c2 dd os
        have HC1 := Lib.hid c1
        have HC2 := Lib.hid c2
        clear c0 c1 c2
        by_cases ho : x1 = o
        · subst ho
          have hd : (x1 == x1) = true := by simp
          have hw1 : r2 = false → IntKind.i64.wrap (x3 - x2) = x3 - x2 ∧ IntKind.i64.wrap (u + (x3 - x2) / 4) = u + (x3 - x2) / 4 ∧ IntKind.i64.wrap ((x3 - x2).tdiv 4) = (x3 - x2) / 4 := fun h => by
            have := hbn.1 h
            rw [Int.tdiv_eq_ediv_of_nonneg (by omega), IntKind.wrap_i64, IntKind.wrap_i64, IntKind.wrap_i64]
            omega
          have HU' := Lib.hid hu
          clear hu hbn hub
          cases r2
          · obtain ⟨hw1, hw2, hw3⟩ := hw1 rfl
            have HU2 : Hid (U (i + 1) = u + (x3 - x2) / 4) := Lib.hid (by rw [HU'.out, if_pos ⟨rfl, rfl⟩])
            clear HU'
            refine wp_region_quiet_below (by kernel_rfl) (by kernel_rfl) ?_
            repeat (go_big_quiet_step ((first | (go_at_call 57; with_reducible exact rg1 (HBSX.out _)))))
            refine wpQuiet_nil ?_
            intro w5 hw5
            obtain ⟨p5, rfl⟩ := hw5
            have A5 := Lib.hid (A4.out.only (only_re w4 p5.d p5.os) (by simp))
            have G5 := Lib.hid (only_trans G4.out (only_re w4 p5.d p5.os))
            have c1 := m1 p5.d p5.os
            have c2 := m2 p5.d p5.os
            clear k4 m0 m1 m2
            generalize grow (redrawn w4 p5.d) p5.os = w5 at A5 G5 c1 c2 ⊢
            go_upto_region 6 with (fail)
            have k4 := blk_re A5.out
            have m1 := fun dd os => cell_regrown c1 dd os
            have m2 := fun dd os => cell_regrown c2 dd os
            clear c1 c2
            refine wp_region_quiet_below (by kernel_rfl) (by kernel_rfl) ?_
            repeat (go_big_quiet_step ((fail)))
            refine wpQuiet_nil ?_
            intro w6 hw6
            obtain ⟨p6, rfl⟩ := hw6
            have A6 := Lib.hid (A5.out.only (only_re w5 p6.d p6.os) (by simp))
            have G6 := Lib.hid (only_trans G5.out (only_re w5 p6.d p6.os))
            clear k4 m1 m2
            generalize grow (redrawn w5 p6.d) p6.os = w6 at A6 G6 ⊢
            go_wp2_with (fail)
            go_roundw
            case rel => exact ⟨i + 1, by rw [HU2.out], by go_num, by omega, A6, G6⟩
            case measure => simp [intOf] <;> omega
          · have HU2 : Hid (U (i + 1) = u) := Lib.hid (by rw [HU'.out, if_neg (by simp)])
            clear HU' hw1
            refine wp_region_quiet_below (by kernel_rfl) (by kernel_rfl) ?_
            repeat (go_big_quiet_step ((first | (go_at_call 57; with_reducible exact rg1 (HBSX.out _)))))
            refine wpQuiet_nil ?_
            intro w5 hw5
            obtain ⟨p5, rfl⟩ := hw5
            have A5 := Lib.hid (A4.out.only (only_re w4 p5.d p5.os) (by simp))
            have G5 := Lib.hid (only_trans G4.out (only_re w4 p5.d p5.os))
            clear k4 m0 m1 m2
            generalize grow (redrawn w4 p5.d) p5.os = w5 at A5 G5 ⊢
            go_wp2_with (fail)
            go_roundw
            case rel => exact ⟨i + 1, by rw [HU2.out], by go_num, by omega, A5, G5⟩
            case measure => simp [intOf] <;> omega
        · have hd : (x1 == o) = false := by simpa using ho
          have HU2 : Hid (U (i + 1) = u) := Lib.hid (by rw [hu, if_neg (fun h => ho h.1)])
          clear hu hbn hub
          refine wp_region_quiet_below (by kernel_rfl) (by kernel_rfl) ?_
          repeat (go_big_quiet_step ((fail)))
          refine wpQuiet_nil ?_
          intro w5 hw5
          obtain ⟨p5, rfl⟩ := hw5
          have A5 := Lib.hid (A4.out.only (only_re w4 p5.d p5.os) (by simp))
          have G5 := Lib.hid (only_trans G4.out (only_re w4 p5.d p5.os))
          clear k4 m0 m1 m2
          generalize grow (redrawn w4 p5.d) p5.os = w5 at A5 G5 ⊢
          go_wp2_with (fail)
          go_roundw
          case rel => exact ⟨i + 1, by rw [HU2.out], by go_num, by omega, A5, G5⟩
          case measure => simp [intOf] <;> omega
      · obtain rfl : i = sn := by omega
        have i1 : ¬ (i : Int) < (i : Int) := by omega
        go_wp2
        go_ret
        exact ⟨by simp, HG.out⟩
end Go.Proofs.YtfhhcpmoaggdmaaGreat

/- The functions that Faults hands in, by their contracts. -/
namespace Go.Proofs.YtfhhcpmoaggdmaaGreat
open Go.RowKit Go.Lib Go.Sort
set_option linter.unusedVariables false

theorem cf_cells {w : World} {g : Nat} {c : Cf} (h : BoxC w g c) : w.cell? ⟨g, 0, none⟩ = some (.int .i64 c.fr) ∧ w.cell? ⟨g, 1, none⟩ = some (.slice c.wA c.wn c.wc) ∧ w.cell? ⟨g, 2, none⟩ = some (.slice c.sA c.sn c.sc) ∧ w.cell? ⟨g, 3, none⟩ = some (.slice c.cA c.cn c.cc) := ⟨h.cell 0, h.cell 1, h.cell 2, h.cell 3⟩

set_option maxRecDepth 20000 in
theorem f2_any (c : Cf) (g : Nat) (w : World) (hc : CfV w c) (hf : FitCf c) (hg : BoxC w g c) (i : Nat) (r : Int) (hr : r = i + 1) (hi : i < c.cn) (h32 : i ≤ 1000) : Calls Tryz.prog 68 #[.int .i64 r, .pointer (some ⟨g, 0, none⟩)] w fun e w' => e = .returned (.bool (badC (c.cd i))) ∧ w.grownBy w' none := by
  have hw : IntKind.i64.wrap (r - 1) = (i : Int) := by rw [IntKind.wrap_i64]; omega
  have HQ := Lib.hid (fun W => badc_any (c.cd i) (hf.2.2.2.2.2 i hi) W)
  obtain ⟨k0, k1, k2, k3⟩ := cf_cells hg
  obtain ⟨b, off, hA, hb, hcl⟩ := hc.2.2.2 (by omega)
  have hcell := hcl i hi
  obtain ⟨fr, wA, wn, wc, wd, sA, sn, sc, sd, cA, cn, cc, cd⟩ := c
  simp only at hA hcell hi k3 HQ ⊢
  subst hA
  have i1 : (i : Int) < (cn : Int) := by omega
  have i0 : (0 : Int) ≤ (i : Int) := by omega
  clear hcl hc hf hg hr h32 k0 k1 k2
  generalize cd i = x at hcell HQ ⊢
  obtain ⟨x1, x2, x3, x4, x5, x6, x7, x8, x9, x10⟩ := x
  obtain ⟨c0, c1, c2, c3, c4, c5, c6, c7, c8, c9⟩ := hcell
  simp only at c0 c1 c2 c3 c4 c5 c6 c7 c8 c9
  go_enter Tryz.func68, Tryz.ntmps68
  go_wp2_with (go_at_call 69; (with_reducible refine (HQ.out _).mono ?_); rintro e w2 ⟨rfl, g2⟩; have G2 := Lib.hid g2; clear g2)
  go_ret
  exact ⟨rfl, G2.out⟩

set_option maxRecDepth 20000 in
set_option maxHeartbeats 1600000 in
theorem f3_any (c : Cf) (g : Nat) (w : World) (hc : CfV w c) (hf : FitCf c) (hg : BoxC w g c) (i : Nat) (r : Int) (hr : r = i + 1) (hi : i < c.cn) (h32 : i ≤ 1000) : Calls Tryz.prog 70 #[.int .i64 r, .pointer (some ⟨g, 0, none⟩)] w fun e w' => e = .returned (.bool (shB (c.cd i) c.cd i)) ∧ w.grownBy w' none := by
  have hw : IntKind.i64.wrap (r - 1) = (i : Int) := by rw [IntKind.wrap_i64]; omega
  have hrow := hc.2.2
  have hfit := hf.2.2.2
  have HQ := Lib.hid (fun (W : World) (hW : w.grownBy W none) => (show Calls Tryz.prog 71 #[.agg #[.int .i64 (c.cd i).base, .int .i64 (c.cd i).size, .int .i64 (c.cd i).ring, .int .i64 (c.cd i).at', .int .i64 (c.cd i).quota, .int .i64 (c.cd i).queue, .int .i64 (c.cd i).mac, .int .i64 (c.cd i).chan, .int .i64 (c.cd i).first, .int .i64 (c.cd i).secs], .slice c.cA i c.cc] W (fun e w' => e = .returned (.bool (shB (c.cd i) c.cd i)) ∧ W.grownBy w' none) from shared_any (c.cd i) (hfit.2.2 i hi) c.cA i c.cc c.cd W ((hrow.cut i (by omega)).grown hW) (by omega) (fun k hk => hfit.2.2 k (by omega))))
  obtain ⟨k0, k1, k2, k3⟩ := cf_cells hg
  have hlt := hg.lt
  obtain ⟨b, off, hA, hb, hcl⟩ := hrow.2 (by omega)
  have hcell := hcl i hi
  have hcap : i ≤ c.cc := by have := hfit.1; omega
  obtain ⟨z, hz⟩ : ∃ z, z = (shB (c.cd i) c.cd i) := ⟨_, rfl⟩
  rw [← hz] at HQ ⊢
  obtain ⟨fr, wA, wn, wc, wd, sA, sn, sc, sd, cA, cn, cc, cd⟩ := c
  simp only at hA hcell hi k0 k1 k2 k3 hcap HQ
  subst hA
  have i1 : (i : Int) < (cn : Int) := by omega
  have i2 : (i : Int) ≤ (cc : Int) := by omega
  have i0 : (0 : Int) ≤ (i : Int) := by omega
  clear hrow hcl hfit hc hf hg hr hz h32
  obtain ⟨x, hx⟩ : ∃ x, x = cd i := ⟨_, rfl⟩
  rw [← hx] at hcell HQ
  clear hx
  obtain ⟨x1, x2, x3, x4, x5, x6, x7, x8, x9, x10⟩ := x
  obtain ⟨c0, c1, c2, c3, c4, c5, c6, c7, c8, c9⟩ := hcell
  simp only at c0 c1 c2 c3 c4 c5 c6 c7 c8 c9
  have j0 := fun dd os => cell_regrown k0 dd os
  have j1 := fun dd os => cell_regrown k1 dd os
  have j2 := fun dd os => cell_regrown k2 dd os
  have j3 := fun dd os => cell_regrown k3 dd os
  have m0 := fun dd os => cell_regrown c0 dd os
  have m1 := fun dd os => cell_regrown c1 dd os
  have m2 := fun dd os => cell_regrown c2 dd os
  have m3 := fun dd os => cell_regrown c3 dd os
  have m4 := fun dd os => cell_regrown c4 dd os
  have m5 := fun dd os => cell_regrown c5 dd os
  have m6 := fun dd os => cell_regrown c6 dd os
  have m7 := fun dd os => cell_regrown c7 dd os
  have m8 := fun dd os => cell_regrown c8 dd os
  have m9 := fun dd os => cell_regrown c9 dd os
  clear k0 k1 k2 k3 c0 c1 c2 c3 c4 c5 c6 c7 c8 c9
  go_enter Tryz.func70, Tryz.ntmps70
  go_upto_region 1 with (fail)
  refine wp_region_quiet_below (by kernel_rfl) (by kernel_rfl) ?_
  repeat (go_big_quiet_step ((first | (go_at_call 71; go_loud (with_reducible exact rg1 (HQ.out _ (only_re w _ _)))))))
  refine wpQuiet_nil ?_
  intro w3 hw3
  obtain ⟨p, rfl⟩ := hw3
  have G3 := Lib.hid (only_re w p.d p.os)
  clear j0 j1 j2 j3 m0 m1 m2 m3 m4 m5 m6 m7 m8 m9
  generalize grow (redrawn w p.d) p.os = w3 at G3 ⊢
  go_wp2
  go_ret
  exact ⟨rfl, G3.out⟩

set_option maxRecDepth 20000 in
set_option maxHeartbeats 1600000 in
theorem f4_any (c : Cf) (g : Nat) (w : World) (hc : CfV w c) (hf : FitCf c) (hg : BoxC w g c) (i : Nat) (r : Int) (hr : r = i + 1) (hi : i < c.wn) (h32 : i ≤ 1000) : Calls Tryz.prog 72 #[.int .i64 r, .pointer (some ⟨g, 0, none⟩)] w fun e w' => e = .returned (.bool (badW c (c.wd i))) ∧ w.grownBy w' none := by
  have hw : IntKind.i64.wrap (r - 1) = (i : Int) := by rw [IntKind.wrap_i64]; omega
  have hrow := hc.1
  have hfit := hf.2.1
  have HQ := Lib.hid (fun (W : World) (hW : w.grownBy W none) => (show Calls Tryz.prog 73 #[.agg #[.int .i64 c.fr, .slice c.wA c.wn c.wc, .slice c.sA c.sn c.sc, .slice c.cA c.cn c.cc], .agg #[.int .i64 (c.wd i).1, .int .i64 (c.wd i).2.1, .int .i64 (c.wd i).2.2]] W (fun e w' => e = .returned (.bool (badW c (c.wd i))) ∧ W.grownBy w' none) from badw_any c (c.wd i) W))
  obtain ⟨k0, k1, k2, k3⟩ := cf_cells hg
  have hlt := hg.lt
  obtain ⟨b, off, hA, hb, hcl⟩ := hrow.2 (by omega)
  have hcell := hcl i hi
  have hcap : i ≤ c.wc := by have := hfit.1; omega
  obtain ⟨z, hz⟩ : ∃ z, z = (badW c (c.wd i)) := ⟨_, rfl⟩
  rw [← hz] at HQ ⊢
  obtain ⟨fr, wA, wn, wc, wd, sA, sn, sc, sd, cA, cn, cc, cd⟩ := c
  simp only at hA hcell hi k0 k1 k2 k3 hcap HQ
  subst hA
  have i1 : (i : Int) < (wn : Int) := by omega
  have i2 : (i : Int) ≤ (wc : Int) := by omega
  have i0 : (0 : Int) ≤ (i : Int) := by omega
  clear hrow hcl hfit hc hf hg hr hz h32
  obtain ⟨x, hx⟩ : ∃ x, x = wd i := ⟨_, rfl⟩
  rw [← hx] at hcell HQ
  clear hx
  obtain ⟨x1, x2, x3⟩ := x
  obtain ⟨c0, c1, c2⟩ := hcell
  simp only at c0 c1 c2
  have j0 := fun dd os => cell_regrown k0 dd os
  have j1 := fun dd os => cell_regrown k1 dd os
  have j2 := fun dd os => cell_regrown k2 dd os
  have j3 := fun dd os => cell_regrown k3 dd os
  have m0 := fun dd os => cell_regrown c0 dd os
  have m1 := fun dd os => cell_regrown c1 dd os
  have m2 := fun dd os => cell_regrown c2 dd os
  clear k0 k1 k2 k3 c0 c1 c2
  go_enter Tryz.func72, Tryz.ntmps72
  go_upto_region 1 with (fail)
  refine wp_region_quiet_below (by kernel_rfl) (by kernel_rfl) ?_
  repeat (go_big_quiet_step ((first | (go_at_call 73; go_loud (with_reducible exact rg1 (HQ.out _ (only_re w _ _)))))))
  refine wpQuiet_nil ?_
  intro w3 hw3
  obtain ⟨p, rfl⟩ := hw3
  have G3 := Lib.hid (only_re w p.d p.os)
  clear j0 j1 j2 j3 m0 m1 m2
  generalize grow (redrawn w p.d) p.os = w3 at G3 ⊢
  go_wp2
  go_ret
  exact ⟨rfl, G3.out⟩

set_option maxRecDepth 20000 in
set_option maxHeartbeats 1600000 in
theorem f5_any (c : Cf) (g : Nat) (w : World) (hc : CfV w c) (hf : FitCf c) (hg : BoxC w g c) (i : Nat) (r : Int) (hr : r = i + 1) (hi : i < c.wn) (h32 : i ≤ 1000) : Calls Tryz.prog 74 #[.int .i64 r, .pointer (some ⟨g, 0, none⟩)] w fun e w' => e = .returned (.bool (anyB (fun k => wM (c.wd i) (c.wd k)) i)) ∧ w.grownBy w' none := by
  have hw : IntKind.i64.wrap (r - 1) = (i : Int) := by rw [IntKind.wrap_i64]; omega
  have hrow := hc.1
  have hfit := hf.2.1
  have HQ := Lib.hid (fun (W : World) (hW : w.grownBy W none) => (show Calls Tryz.prog 75 #[.agg #[.int .i64 (c.wd i).1, .int .i64 (c.wd i).2.1, .int .i64 (c.wd i).2.2], .slice c.wA i c.wc] W (fun e w' => e = .returned (.bool (anyB (fun k => wM (c.wd i) (c.wd k)) i)) ∧ W.grownBy w' none) from wms_any (c.wd i) c.wA i c.wc c.wd W ((hrow.cut i (by omega)).grown hW) (by omega)))
  obtain ⟨k0, k1, k2, k3⟩ := cf_cells hg
  have hlt := hg.lt
  obtain ⟨b, off, hA, hb, hcl⟩ := hrow.2 (by omega)
  have hcell := hcl i hi
  have hcap : i ≤ c.wc := by have := hfit.1; omega
  obtain ⟨z, hz⟩ : ∃ z, z = (anyB (fun k => wM (c.wd i) (c.wd k)) i) := ⟨_, rfl⟩
  rw [← hz] at HQ ⊢
  obtain ⟨fr, wA, wn, wc, wd, sA, sn, sc, sd, cA, cn, cc, cd⟩ := c
  simp only at hA hcell hi k0 k1 k2 k3 hcap HQ
  subst hA
  have i1 : (i : Int) < (wn : Int) := by omega
  have i2 : (i : Int) ≤ (wc : Int) := by omega
  have i0 : (0 : Int) ≤ (i : Int) := by omega
  clear hrow hcl hfit hc hf hg hr hz h32
  obtain ⟨x, hx⟩ : ∃ x, x = wd i := ⟨_, rfl⟩
  rw [← hx] at hcell HQ
  clear hx
  obtain ⟨x1, x2, x3⟩ := x
  obtain ⟨c0, c1, c2⟩ := hcell
  simp only at c0 c1 c2
  have j0 := fun dd os => cell_regrown k0 dd os
  have j1 := fun dd os => cell_regrown k1 dd os
  have j2 := fun dd os => cell_regrown k2 dd os
  have j3 := fun dd os => cell_regrown k3 dd os
  have m0 := fun dd os => cell_regrown c0 dd os
  have m1 := fun dd os => cell_regrown c1 dd os
  have m2 := fun dd os => cell_regrown c2 dd os
  clear k0 k1 k2 k3 c0 c1 c2
  go_enter Tryz.func74, Tryz.ntmps74
  go_upto_region 1 with (fail)
  refine wp_region_quiet_below (by kernel_rfl) (by kernel_rfl) ?_
  repeat (go_big_quiet_step ((first | (go_at_call 75; go_loud (with_reducible exact rg1 (HQ.out _ (only_re w _ _)))))))
  refine wpQuiet_nil ?_
  intro w3 hw3
  obtain ⟨p, rfl⟩ := hw3
  have G3 := Lib.hid (only_re w p.d p.os)
  clear j0 j1 j2 j3 m0 m1 m2
  generalize grow (redrawn w p.d) p.os = w3 at G3 ⊢
  go_wp2
  go_ret
  exact ⟨rfl, G3.out⟩

set_option maxRecDepth 20000 in
set_option maxHeartbeats 1600000 in
theorem f8_any (c : Cf) (g : Nat) (w : World) (hc : CfV w c) (hf : FitCf c) (hg : BoxC w g c) (i : Nat) (r : Int) (hr : r = i + 1) (hi : i < c.sn) (h32 : i ≤ 1000) : Calls Tryz.prog 80 #[.int .i64 r, .pointer (some ⟨g, 0, none⟩)] w fun e w' => e = .returned (.bool (badS c (c.sd i))) ∧ w.grownBy w' none := by
  have hw : IntKind.i64.wrap (r - 1) = (i : Int) := by rw [IntKind.wrap_i64]; omega
  have hrow := hc.2.1
  have hfit := hf.2.2.1
  have HQ := Lib.hid (fun (W : World) (hW : w.grownBy W none) => (show Calls Tryz.prog 81 #[.agg #[.int .i64 c.fr, .slice c.wA c.wn c.wc, .slice c.sA c.sn c.sc, .slice c.cA c.cn c.cc], .agg #[.int .i64 (c.sd i).1, .int .i64 (c.sd i).2.1, .int .i64 (c.sd i).2.2]] W (fun e w' => e = .returned (.bool (badS c (c.sd i))) ∧ W.grownBy w' none) from bads_any c (c.sd i) (hfit.2.2 i hi) hf.1 W))
  obtain ⟨k0, k1, k2, k3⟩ := cf_cells hg
  have hlt := hg.lt
  obtain ⟨b, off, hA, hb, hcl⟩ := hrow.2 (by omega)
  have hcell := hcl i hi
  have hcap : i ≤ c.sc := by have := hfit.1; omega
  obtain ⟨z, hz⟩ : ∃ z, z = (badS c (c.sd i)) := ⟨_, rfl⟩
  rw [← hz] at HQ ⊢
  obtain ⟨fr, wA, wn, wc, wd, sA, sn, sc, sd, cA, cn, cc, cd⟩ := c
  simp only at hA hcell hi k0 k1 k2 k3 hcap HQ
  subst hA
  have i1 : (i : Int) < (sn : Int) := by omega
  have i2 : (i : Int) ≤ (sc : Int) := by omega
  have i0 : (0 : Int) ≤ (i : Int) := by omega
  clear hrow hcl hfit hc hf hg hr hz h32
  obtain ⟨x, hx⟩ : ∃ x, x = sd i := ⟨_, rfl⟩
  rw [← hx] at hcell HQ
  clear hx
  obtain ⟨x1, x2, x3⟩ := x
  obtain ⟨c0, c1, c2⟩ := hcell
  simp only at c0 c1 c2
  have j0 := fun dd os => cell_regrown k0 dd os
  have j1 := fun dd os => cell_regrown k1 dd os
  have j2 := fun dd os => cell_regrown k2 dd os
  have j3 := fun dd os => cell_regrown k3 dd os
  have m0 := fun dd os => cell_regrown c0 dd os
  have m1 := fun dd os => cell_regrown c1 dd os
  have m2 := fun dd os => cell_regrown c2 dd os
  clear k0 k1 k2 k3 c0 c1 c2
  go_enter Tryz.func80, Tryz.ntmps80
  go_upto_region 1 with (fail)
  refine wp_region_quiet_below (by kernel_rfl) (by kernel_rfl) ?_
  repeat (go_big_quiet_step ((first | (go_at_call 81; go_loud (with_reducible exact rg1 (HQ.out _ (only_re w _ _)))))))
  refine wpQuiet_nil ?_
  intro w3 hw3
  obtain ⟨p, rfl⟩ := hw3
  have G3 := Lib.hid (only_re w p.d p.os)
  clear j0 j1 j2 j3 m0 m1 m2
  generalize grow (redrawn w p.d) p.os = w3 at G3 ⊢
  go_wp2
  go_ret
  exact ⟨rfl, G3.out⟩

set_option maxRecDepth 20000 in
set_option maxHeartbeats 1600000 in
theorem f9_any (c : Cf) (g : Nat) (w : World) (hc : CfV w c) (hf : FitCf c) (hg : BoxC w g c) (i : Nat) (r : Int) (hr : r = i + 1) (hi : i < c.sn) (h32 : i ≤ 1000) : Calls Tryz.prog 82 #[.int .i64 r, .pointer (some ⟨g, 0, none⟩)] w fun e w' => e = .returned (.bool (anyB (fun k => sM (c.sd i) (c.sd k)) i)) ∧ w.grownBy w' none := by
  have hw : IntKind.i64.wrap (r - 1) = (i : Int) := by rw [IntKind.wrap_i64]; omega
  have hrow := hc.2.1
  have hfit := hf.2.2.1
  have HQ := Lib.hid (fun (W : World) (hW : w.grownBy W none) => (show Calls Tryz.prog 83 #[.agg #[.int .i64 (c.sd i).1, .int .i64 (c.sd i).2.1, .int .i64 (c.sd i).2.2], .slice c.sA i c.sc] W (fun e w' => e = .returned (.bool (anyB (fun k => sM (c.sd i) (c.sd k)) i)) ∧ W.grownBy w' none) from sms_any (c.sd i) c.sA i c.sc c.sd W ((hrow.cut i (by omega)).grown hW) (by omega)))
  obtain ⟨k0, k1, k2, k3⟩ := cf_cells hg
  have hlt := hg.lt
  obtain ⟨b, off, hA, hb, hcl⟩ := hrow.2 (by omega)
  have hcell := hcl i hi
  have hcap : i ≤ c.sc := by have := hfit.1; omega
  obtain ⟨z, hz⟩ : ∃ z, z = (anyB (fun k => sM (c.sd i) (c.sd k)) i) := ⟨_, rfl⟩
  rw [← hz] at HQ ⊢
  obtain ⟨fr, wA, wn, wc, wd, sA, sn, sc, sd, cA, cn, cc, cd⟩ := c
  simp only at hA hcell hi k0 k1 k2 k3 hcap HQ
  subst hA
  have i1 : (i : Int) < (sn : Int) := by omega
  have i2 : (i : Int) ≤ (sc : Int) := by omega
  have i0 : (0 : Int) ≤ (i : Int) := by omega
  clear hrow hcl hfit hc hf hg hr hz h32
  obtain ⟨x, hx⟩ : ∃ x, x = sd i := ⟨_, rfl⟩
  rw [← hx] at hcell HQ
  clear hx
  obtain ⟨x1, x2, x3⟩ := x
  obtain ⟨c0, c1, c2⟩ := hcell
  simp only at c0 c1 c2
  have j0 := fun dd os => cell_regrown k0 dd os
  have j1 := fun dd os => cell_regrown k1 dd os
  have j2 := fun dd os => cell_regrown k2 dd os
  have j3 := fun dd os => cell_regrown k3 dd os
  have m0 := fun dd os => cell_regrown c0 dd os
  have m1 := fun dd os => cell_regrown c1 dd os
  have m2 := fun dd os => cell_regrown c2 dd os
  clear k0 k1 k2 k3 c0 c1 c2
  go_enter Tryz.func82, Tryz.ntmps82
  go_upto_region 1 with (fail)
  refine wp_region_quiet_below (by kernel_rfl) (by kernel_rfl) ?_
  repeat (go_big_quiet_step ((first | (go_at_call 83; go_loud (with_reducible exact rg1 (HQ.out _ (only_re w _ _)))))))
  refine wpQuiet_nil ?_
  intro w3 hw3
  obtain ⟨p, rfl⟩ := hw3
  have G3 := Lib.hid (only_re w p.d p.os)
  clear j0 j1 j2 j3 m0 m1 m2
  generalize grow (redrawn w p.d) p.os = w3 at G3 ⊢
  go_wp2
  go_ret
  exact ⟨rfl, G3.out⟩
end Go.Proofs.YtfhhcpmoaggdmaaGreat

/- The document's word on plans: an owner's window, by its contract; package plan: the bus. -/
namespace Go.Proofs.YtfhhcpmoaggdmaaGreat
open Go.RowKit Go.Lib Go.Sort
set_option linter.unusedVariables false

theorem fdW_at {p : W3 → Bool} {n i : Nat} {d : Nat → W3} (hi : i < n) (h : p (d i) = true) (hb : ∀ k, k < i → p (d k) = false) : fdW p n d = d i := by
  unfold fdW
  rw [fstI_at (q := fun i => p (d i)) hi h hb, if_neg (by omega)]
  rfl
theorem fdW_none {p : W3 → Bool} {n : Nat} {d : Nat → W3} (h : ∀ k, k < n → p (d k) = false) : fdW p n d = (0, 0, 0) := by
  unfold fdW
  rw [fstI_none (q := fun i => p (d i)) h, if_pos (by omega)]
theorem pbus_any (b : Nat) (P : Pln) (t : Int) (A : Option Addr) (n c : Nat) (d : Nat → W3) (w : World) (h : PlnV w b P) (hT : TbS w P.sb P.fr A n c d) (hr : rightB P.fr = true) (hg : GoodS P.fr n d) (hn : n ≤ 1000) (ht : t ≤ 9223372036854775807) :
    Calls Tryz.prog 20 #[.pointer (some ⟨b, 0, none⟩), .int .i64 t] w fun e w' => e = .returned (stv (stepV P.fr n d t)) ∧ w.grownBy w' none := by
  obtain ⟨W1, hW, g1, hS⟩ := box1 w 56 #[.int .i64 0, .int .i64 0, .int .i64 0]
  have HSL := Lib.hid (pslots_any b P W1 (h.grown g1))
  have HAT := Lib.hid (stat_any P.sb P.fr A n c d t W1 (hT.grown g1) hr hg hn ht)
  have HG := Lib.hid g1
  have HS := Lib.hid hS
  clear h hT hr hg g1 hS
  generalize stepV P.fr n d t = r at *
  obtain ⟨r0, r1, r2⟩ := r
  go_enter Tryz.func20, Tryz.ntmps20
  go_upto_region 1 with (fail)
  rw [← hW]
  clear hW
  go_wp2_with (first
    | (go_at_call 40; (with_reducible refine HSL.out.mono ?_); rintro e w2 ⟨rfl, rfl⟩)
    | (go_at_call 41; (with_reducible refine HAT.out.mono ?_); rintro e w3 ⟨rfl, g3⟩; have S3 := Lib.hid (HS.out.only g3 (by simp)); have G3 := Lib.hid (only_trans HG.out g3); obtain ⟨z0, z1, z2, f0, f1, f2⟩ := box3c S3.out; clear g3))
  have bf := (((S3.out.put 0 (.int .i64 r0)).put 1 (.int .i64 r1)).put 2 (.int .i64 r2))
  have q0 := bf.cell 0
  have q1 := bf.cell 1
  have q2 := bf.cell 2
  simp at q0 q1 q2
  refine bodyPost_ret (v := .agg #[.int .i64 r0, .int .i64 r1, .int .i64 r2]) (by simp [results, Tryz.results20, go_sem, q0, q1, q2]) rfl ⟨rfl, only_putc (only_putc (only_putc G3.out (p := ⟨w.heap.size, 0, none⟩) (Nat.le_refl _) _) (p := ⟨w.heap.size, 1, none⟩) (Nat.le_refl _) _) (p := ⟨w.heap.size, 2, none⟩) (Nat.le_refl _) _⟩
set_option maxRecDepth 20000 in
set_option maxHeartbeats 1600000 in
theorem rwindow_any (c : Cf) (o : Int) (w : World) (h : CfV w c) (hn : c.wn ≤ 9223372036854775807) : Calls Tryz.prog 12 #[cfv c, .int .i64 o] w fun e w' => e = .returned (spv (w3s (fdW (qWindow o) c.wn c.wd))) ∧ w.grownBy w' none := by
  obtain ⟨W1, hW, g1, hC, hS⟩ := box2 w 26 (cfA c) 40 #[.int .i64 0, .int .i64 0]
  have hsz : W1.heap.size = w.heap.size + 2 := by rw [hW]; simp
  have HG := Lib.hid g1
  have HC := Lib.hid (show BoxC W1 w.heap.size c from hC)
  have HS := Lib.hid hS
  have HR := Lib.hid (h.grown g1).1
  have HB := Lib.hid (show 0 < c.wn → ∃ b off, c.wA = some ⟨b, off, none⟩ ∧ b < w.heap.size from fun k => by obtain ⟨b, off, e, q, _⟩ := h.1.2 k; exact ⟨b, off, e, q⟩)
  have HV0 := Lib.hid (fun q => fdW_none (p := qWindow o) (n := c.wn) (d := c.wd) q)
  have HV1 := Lib.hid (fun i hi q k => fdW_at (p := qWindow o) (n := c.wn) (i := i) (d := c.wd) hi q k)
  clear h g1 hC hS
  obtain ⟨fr, wA, wn, wc, wd, sA, sn, sc, sd, cA, cn, cc, cd⟩ := c
  simp only at HR HB HV0 HV1 hn ⊢
  generalize fdW (qWindow o) wn wd = r at *
  obtain ⟨r0, r1, r2⟩ := r
  obtain ⟨c0, c1, c2, c3⟩ := cf_cells HC.out
  go_enter Tryz.func12, Tryz.ntmps12
  go_upto_region 1 with (fail)
  rw [← hW]
  clear hW
  go_wp2
  go_loopw [5] (fun y wr => ∃ (i : Nat), y = .int .i64 i ∧ i ≤ wn ∧ Hid (∀ k, k < i → qWindow o (wd k) = false) ∧ wr = W1) (fun y _ => wn - (intOf y).toNat)
  case atStart => exact ⟨0, rfl, by omega, Lib.hid (fun k hk => absurd hk (by omega)), rfl⟩
  case round =>
    obtain ⟨i, rfl, hi, HN, rfl⟩ := hrel
    by_cases hin : i < wn
    · have i1 : (i : Int) < (wn : Int) := by omega
      have i2 : (0 : Int) ≤ (i : Int) := by omega
      obtain ⟨b, off, rfl, hb, hc⟩ := HR.out.2 (by omega)
      obtain ⟨s0, s1, s2⟩ := hc i hin
      have HQ := Lib.hid (show qWindow o (wd i) = ((wd i).1 == o) from rfl)
      have HV1' := Lib.hid (fun q => HV1.out i hin q HN.out)
      obtain ⟨x, hx⟩ : ∃ x, x = wd i := ⟨_, rfl⟩
      rw [← hx] at s0 s1 s2 HQ HV1'
      have HX := Lib.hid hx
      clear hx hc
      obtain ⟨x0, x1, x2⟩ := x
      simp only at s0 s1 s2 HQ
      obtain ⟨z0, z1, f0, f1⟩ := box2c HS.out
      by_cases he : x0 = o
      · subst he
        have hr := HV1'.out (by rw [HQ.out]; simp)
        injection hr with hr0 hr
        injection hr with hr1 hr2
        subst hr0 hr1 hr2
        have hne : ¬ b = w.heap.size + 1 := fun e => by
          obtain ⟨b', off', e', q'⟩ := HB.out (by omega)
          injection e' with e'
          injection e' with e' _
          omega
        have hne' : ¬ w.heap.size + 1 = b := fun e => hne e.symm
        go_upto_region 5 with (fail)
        go_region_held3 (fun W => W.cell? ⟨w.heap.size, 1, none⟩ = some (.slice (some ⟨b, off, none⟩) wn wc) ∧ W.cell? ⟨b, off + i * 3 + 1, none⟩ = some (.int .i64 r1) ∧ W.cell? ⟨b, off + i * 3 + 2, none⟩ = some (.int .i64 r2)) (first | exact ⟨c1, s1, s2⟩ | go_keep) (first | fail)
        obtain ⟨w9, hw9⟩ : ∃ w9, w9 = ((wr.setCell ⟨w.heap.size + 1, 0, none⟩ (.int .i64 r1)).setCell ⟨w.heap.size + 1, 1, none⟩ (.int .i64 r2)).drew := ⟨_, rfl⟩
        have bf : Blk w9 (w.heap.size + 1) 40 #[.int .i64 r1, .int .i64 r2] := by
          rw [hw9]
          exact ((HS.out.put 0 (.int .i64 r1)).put 1 (.int .i64 r2)).only (only_drewN (only_refl _ none) 1) (by simp)
        have g9 : w.grownBy w9 none := by
          rw [hw9]
          exact only_drewN (only_putc (only_putc HG.out (p := ⟨w.heap.size + 1, 0, none⟩) (Nat.le_succ _) _) (p := ⟨w.heap.size + 1, 1, none⟩) (Nat.le_succ _) _) 1
        rw [← hw9]
        clear hw9
        have q0 := bf.cell 0
        have q1 := bf.cell 1
        simp at q0 q1
        go_wp2
        refine bodyPost_ret (v := .agg #[.int .i64 r1, .int .i64 r2]) (by simp [results, Tryz.results12, go_sem, q0, q1]) rfl ⟨rfl, g9⟩
      · have hf : qWindow o (wd i) = false := by rw [← HX.out]; show (x0 == o) = false; simpa using he
        go_wp2
        go_roundw
        case rel => exact ⟨i + 1, by go_num, by omega, Lib.hid (fun k hk => by
          by_cases e : k = i
          · rw [e]; exact hf
          · exact HN.out k (by omega)), by first | rfl | trivial⟩
        case measure => simp [intOf] <;> omega
    · obtain rfl : i = wn := by omega
      have i1 : ¬ (i : Int) < (i : Int) := by omega
      have hr := HV0.out HN.out
      injection hr with hr0 hr
      injection hr with hr1 hr2
      subst hr0 hr1 hr2
      obtain ⟨z0, z1, f0, f1⟩ := box2c HS.out
      go_wp2
      have bf := ((HS.out.put 0 (.int .i64 0)).put 1 (.int .i64 0))
      have q0 := bf.cell 0
      have q1 := bf.cell 1
      simp at q0 q1
      refine bodyPost_ret (v := .agg #[.int .i64 0, .int .i64 0]) (by simp [results, Tryz.results12, go_sem, q0, q1]) rfl ⟨rfl, only_putc (only_putc HG.out (p := ⟨w.heap.size + 1, 0, none⟩) (Nat.le_succ _) _) (p := ⟨w.heap.size + 1, 1, none⟩) (Nat.le_succ _) _⟩
end Go.Proofs.YtfhhcpmoaggdmaaGreat

/- The document's word on plans: when a duty is, by its contract. -/
namespace Go.Proofs.YtfhhcpmoaggdmaaGreat
open Go.RowKit Go.Lib Go.Sort
set_option linter.unusedVariables false

/-- Where the I/O partition's window begins, as1 the tables say. -/
def ioC (c : Cf) : Int := (fdW (qWindow 0) c.wn c.wd).2.1
set_option maxRecDepth 20000 in
set_option maxHeartbeats 1600000 in
theorem rwhen_any (c : Cf) (k o : Int) (w : World) (h : CfV w c) (hn : c.wn ≤ 9223372036854775807) (ha : 0 ≤ ioC c ∧ ioC c ≤ 4096) (hk : 1 ≤ k ∧ k ≤ 2) (ho : 1 ≤ o ∧ o ≤ 1000) :
    Calls Tryz.prog 13 #[cfv c, .int .i64 k, .int .i64 o] w fun e w' => e = .returned (.int .i64 (ioC c + 2 * o - 3 + k)) ∧ w.grownBy w' none := by
  obtain ⟨W1, hW, g1, hC⟩ := box1 w 26 (cfA c)
  have HWN := Lib.hid (show Calls Tryz.prog 12 #[cfv c, .int .i64 0] W1 (fun e w' => e = .returned (.agg #[.int .i64 (ioC c), .int .i64 (fdW (qWindow 0) c.wn c.wd).2.2]) ∧ W1.grownBy w' none) from rwindow_any c 0 W1 (h.grown g1) hn)
  have HG := Lib.hid g1
  obtain ⟨c0, c1, c2, c3⟩ := cf_cells (show BoxC W1 w.heap.size c from hC)
  clear h g1 hC
  generalize ioC c = a at *
  generalize (fdW (qWindow 0) c.wn c.wd).2.2 = z at *
  have hfd := fun w : World => run_fs a z w
  have u1 : IntKind.i64.wrap (2 * o) = 2 * o := by rw [IntKind.wrap_i64]; omega
  have u2 : IntKind.i64.wrap (a + 2 * o) = a + 2 * o := by rw [IntKind.wrap_i64]; omega
  have u3 : IntKind.i64.wrap (a + 2 * o - 3) = a + 2 * o - 3 := by rw [IntKind.wrap_i64]; omega
  have u4 : IntKind.i64.wrap (a + 2 * o - 3 + k) = a + 2 * o - 3 + k := by rw [IntKind.wrap_i64]; omega
  go_enter Tryz.func13, Tryz.ntmps13
  go_upto_region 1 with (fail)
  rw [← hW]
  clear hW
  go_wp2_with (go_at_call 12; (with_reducible refine HWN.out.mono ?_); rintro e w2 ⟨rfl, g2⟩; have G2 := Lib.hid (only_trans HG.out g2); clear g2)
  go_ret
  exact ⟨rfl, G2.out⟩
end Go.Proofs.YtfhhcpmoaggdmaaGreat

/- The document's word on what the bus is at a tick, by its contract. -/
namespace Go.Proofs.YtfhhcpmoaggdmaaGreat
open Go.RowKit Go.Lib Go.Sort
set_option linter.unusedVariables false

/-- Within a slot: unit k is the one, if the offset is in it. -/
theorem stp_unit {x : W3} {at' : Int} {k : Nat} (h1 : x.2.1 + 4 * (k : Int) ≤ at') (h2 : at' < x.2.1 + 4 * (k : Int) + 4) (h3 : x.2.1 + 4 * (k : Int) + 4 ≤ x.2.2) : stp x at' = (x.1, (k : Int), at' - (x.2.1 + 4 * (k : Int))) := by
  unfold stp
  have a1 : (at' - x.2.1) / 4 = (k : Int) := by omega
  have a2 : (k : Int) < (x.2.2 - x.2.1) / 4 := by omega
  rw [a1, if_pos a2]
  congr 2
  omega
theorem stp_idle {x : W3} {at' : Int} {k : Nat} (h1 : x.2.1 + 4 * (k : Int) ≤ at') (h3 : ¬ x.2.1 + 4 * (k : Int) + 4 ≤ x.2.2) : stp x at' = (x.1, -1, 0) := by
  unfold stp
  rw [if_neg]
  omega
set_option maxRecDepth 20000 in
set_option maxHeartbeats 3200000 in
theorem rat17_any (f : Int) (A : Option Addr) (n c : Nat) (d : Nat → W3) (t : Int) (w : World) (h : Row3 w A n d) (hr : rightB f = true) (hg : GoodS f n d) (hn : n ≤ 1000) (ht : t ≤ 9223372036854775807) :
    Calls Tryz.prog 21 #[.int .i64 f, .slice A n c, .int .i64 t] w fun e w' => e = .returned (stv (stepV f n d t)) ∧ w.grownBy w' none := by
  obtain ⟨f1, f2⟩ := (rightB_iff f).1 hr
  obtain ⟨W1, hW, G1, hR⟩ := box1 w 58 #[.int .i64 0, .int .i64 0, .int .i64 0]
  have GG := Lib.hid G1
  have HR := Lib.hid hR
  have HT := Lib.hid (h.grown G1)
  have HA := Lib.hid (show 0 < n → ∃ b off, A = some ⟨b, off, none⟩ ∧ b < w.heap.size from fun k => by obtain ⟨b, off, e, q, _⟩ := h.2 k; exact ⟨b, off, e, q⟩)
  have HW1 := Lib.hid (show ∀ W, W1.grownBy W none → W.cell? ⟨w.heap.size, 0, none⟩ = some (.int .i64 0) ∧ W.cell? ⟨w.heap.size, 1, none⟩ = some (.int .i64 0) ∧ W.cell? ⟨w.heap.size, 2, none⟩ = some (.int .i64 0) ∧ W.frozen? ⟨w.heap.size, 0, none⟩ = false ∧ W.frozen? ⟨w.heap.size, 1, none⟩ = false ∧ W.frozen? ⟨w.heap.size, 2, none⟩ = false ∧ Blk W w.heap.size 58 #[.int .i64 0, .int .i64 0, .int .i64 0] ∧ w.grownBy W none from fun W g => by
    have r := hR.only g (by simp)
    exact ⟨r.cell 0, r.cell 1, r.cell 2, r.free 0, r.free 1, r.free 2, r, only_trans G1 g⟩)
  by_cases h0 : t < 0
  · rw [stepV_neg h0]
    obtain ⟨c0, c1, c2, q0, q1, q2, _, _⟩ := HW1.out W1 (only_refl _ _)
    clear hR G1 h hr hg
    go_enter Tryz.func21, Tryz.ntmps21
    go_upto_region 1 with (fail)
    rw [← hW]
    clear hW
    go_wp2
    have bf := (((HR.out.put 0 (.int .i64 0)).put 1 (.int .i64 (-1))).put 2 (.int .i64 0))
    have r0 := bf.cell 0
    have r1 := bf.cell 1
    have r2 := bf.cell 2
    simp at r0 r1 r2
    refine bodyPost_ret (v := .agg #[.int .i64 0, .int .i64 (-1), .int .i64 0]) (by simp [results, Tryz.results21, go_sem, r0, r1, r2]) rfl ⟨rfl, only_putc (only_putc (only_putc GG.out (p := ⟨w.heap.size, 0, none⟩) (Nat.le_refl _) _) (p := ⟨w.heap.size, 1, none⟩) (Nat.le_refl _) _) (p := ⟨w.heap.size, 2, none⟩) (Nat.le_refl _) _⟩
  have x0 := Int.emod_nonneg t (show f ≠ 0 by omega)
  have x1 := Int.emod_lt_of_pos t (show 0 < f by omega)
  have HO := Lib.hid (fun W => (show Calls Tryz.prog 39 #[.int .i64 t, .int .i64 f] W (fun e w' => e = .returned (.int .i64 (t % f)) ∧ W = w') from roff_any t f W (by omega) f1 ht))
  have HV0 := Lib.hid (fun k => stepV_none (f := f) (n := n) (d := d) (t := t) (by omega) k)
  have HV1 := Lib.hid (fun i hi k => stepV_any (f := f) hg (t := t) (by omega) (i := i) hi k)
  have HGD := Lib.hid hg.1
  generalize stepV f n d t = r at HV0 HV1 ⊢
  generalize t % f = x at *
  clear hR G1 h hr hg
  go_enter Tryz.func21, Tryz.ntmps21
  go_upto_region 1 with (fail)
  rw [← hW]
  clear hW
  go_wp2_with (go_at_call 39; (with_reducible refine (HO.out _).mono ?_); rintro e w2 ⟨rfl, rfl⟩)
  go_loopw [8] (fun y wr => ∃ (i : Nat), y = .int .i64 i ∧ i ≤ n ∧ Hid (∀ k, k < i → hasS d x k = false) ∧ Hid (W1.grownBy wr none)) (fun y _ => n - (intOf y).toNat)
  case atStart => exact ⟨0, rfl, by omega, Lib.hid (fun k hk => by omega), Lib.hid (only_refl _ _)⟩
  case round =>
    obtain ⟨i, rfl, hi, HN, HG⟩ := hrel
    obtain ⟨c0, c1, c2, q0, q1, q2, hRw, hGw⟩ := HW1.out wr HG.out
    have RW := Lib.hid hRw
    have GW := Lib.hid hGw
    clear hRw hGw
    by_cases hin : i < n
    · have i1 : (i : Int) < (n : Int) := by omega
      obtain ⟨bs, off, rfl, hbs0⟩ := HA.out (by omega)
      obtain ⟨bs', off', hA, hbs, hcs⟩ := (HT.out.grown HG.out).2 (by omega)
      injection hA with hA
      injection hA with hA1 hA2
      subst hA1 hA2
      obtain ⟨s0, s1, s2⟩ := hcs i hin
      have hgd := HGD.out i hin
      have HRV := Lib.hid (HV1.out i hin)
      have HHS := Lib.hid (show hasS d x i = holdsB (w3s (d i)) x from rfl)
      have hns : ¬ bs = w.heap.size := by omega
      have hns' : ¬ w.heap.size = bs := by omega
      clear hcs
      obtain ⟨y0, hy0⟩ : ∃ y, y = d i := ⟨_, rfl⟩
      rw [← hy0] at s0 s1 s2 hgd HRV HHS
      have HYI := Lib.hid hy0
      clear hy0
      obtain ⟨so, sa, sb⟩ := y0
      simp only at s0 s1 s2 hgd
      have hh : (hasS d x i = false ∧ (x < sa ∨ (¬ x < sa ∧ sb ≤ x))) ∨ (hasS d x i = true ∧ ¬ x < sa ∧ ¬ sb ≤ x) := by
        rw [HHS.out]
        unfold holdsB w3s
        by_cases a1 : x < sa
        · exact .inl ⟨by simp; omega, .inl a1⟩
        · by_cases a2 : sb ≤ x
          · exact .inl ⟨by simp; omega, .inr ⟨a1, a2⟩⟩
          · exact .inr ⟨by simp; omega, a1, a2⟩
      clear HHS
      rcases hh with ⟨hfl, hh⟩ | ⟨htr, hh1, hh2⟩
      · have HN2 := Lib.hid (show ∀ k, k < i + 1 → hasS d x k = false from fun k hk => by
          by_cases e : k = i
          · rw [e]; exact hfl
          · exact HN.out k (by omega))
        clear hfl
        rcases hh with g1 | ⟨g1, g2⟩
        all_goals
          go_wp2
          go_roundw
          case rel => exact ⟨i + 1, by go_num, by omega, HN2, HG⟩
          case measure => simp [intOf] <;> omega
      · have HRS := Lib.hid (HRV.out htr)
        clear htr HRV
        have g3 : sa ≤ x := by omega
        have g4 : x < sb := by omega
        have g5 : sb ≤ 4096 := by omega
        have g6 : 0 ≤ sa := by omega
        clear hgd
        go_wp2
        go_loopw [9, 10] (fun y z wq => ∃ (k : Nat) (p : Int), y = .int .i64 k ∧ z = .int .i64 p ∧ k ≤ 4096 ∧ sa ≤ p ∧ p ≤ x ∧ Hid (p = sa + 4 * (k : Int)) ∧ Hid (wr = wq)) (fun y z _ => (sb - intOf z).toNat)
        case atStart => exact ⟨0, sa, rfl, rfl, by omega, by omega, by omega, Lib.hid (by omega), Lib.hid rfl⟩
        case round =>
          obtain ⟨k, p, rfl, rfl, hk9, hp1, hp2, HPK, HWQ⟩ := hrel
          obtain rfl := HWQ.out
          have u1 : IntKind.i64.wrap (p + 4) = p + 4 := by rw [IntKind.wrap_i64]; omega
          have u2 : IntKind.i64.wrap (x - p) = x - p := by rw [IntKind.wrap_i64]; omega
          by_cases hq : p + 4 ≤ sb
          · by_cases hx4 : x < p + 4
            · have HRZ := Lib.hid (show r = (so, (k : Int), x - p) from by
                have e := HPK.out
                rw [HRS.out, stp_unit (k := k) (by simp only; omega) (by simp only; omega) (by simp only; omega), e])
              go_wp2
              have bf := (((RW.out.put 0 (.int .i64 so)).put 1 (.int .i64 (k : Int))).put 2 (.int .i64 (x - p)))
              have r0 := bf.cell 0
              have r1 := bf.cell 1
              have r2 := bf.cell 2
              simp at r0 r1 r2
              refine bodyPost_ret (v := .agg #[.int .i64 so, .int .i64 (k : Int), .int .i64 (x - p)]) (by simp [results, Tryz.results21, go_sem, r0, r1, r2]) rfl ⟨by rw [HRZ.out], only_putc (only_putc (only_putc GW.out (p := ⟨w.heap.size, 0, none⟩) (Nat.le_refl _) _) (p := ⟨w.heap.size, 1, none⟩) (Nat.le_refl _) _) (p := ⟨w.heap.size, 2, none⟩) (Nat.le_refl _) _⟩
            · have hkk : k < 4096 := by have := HPK.out; omega
              go_wp2
              go_roundw
              case rel => exact ⟨k + 1, p + 4, by go_num, by go_num, by omega, by omega, by omega, Lib.hid (by have := HPK.out; omega), Lib.hid (by first | trivial | rfl)⟩
              case measure => simp [intOf] <;> omega
          · have HRZ := Lib.hid (show r = (so, -1, 0) from by
              have e := HPK.out
              rw [HRS.out, stp_idle (k := k) (by simp only; omega) (by simp only; omega)])
            go_wp2
            have bf := (((RW.out.put 0 (.int .i64 so)).put 1 (.int .i64 (-1))).put 2 (.int .i64 0))
            have r0 := bf.cell 0
            have r1 := bf.cell 1
            have r2 := bf.cell 2
            simp at r0 r1 r2
            refine bodyPost_ret (v := .agg #[.int .i64 so, .int .i64 (-1), .int .i64 0]) (by simp [results, Tryz.results21, go_sem, r0, r1, r2]) rfl ⟨by rw [HRZ.out], only_putc (only_putc (only_putc GW.out (p := ⟨w.heap.size, 0, none⟩) (Nat.le_refl _) _) (p := ⟨w.heap.size, 1, none⟩) (Nat.le_refl _) _) (p := ⟨w.heap.size, 2, none⟩) (Nat.le_refl _) _⟩
    · have i1 : ¬ (i : Int) < (n : Int) := by omega
      have HRZ := Lib.hid (HV0.out (fun k hk => HN.out k (by omega)))
      go_wp2
      have bf := (((RW.out.put 0 (.int .i64 0)).put 1 (.int .i64 (-1))).put 2 (.int .i64 0))
      have r0 := bf.cell 0
      have r1 := bf.cell 1
      have r2 := bf.cell 2
      simp at r0 r1 r2
      refine bodyPost_ret (v := .agg #[.int .i64 0, .int .i64 (-1), .int .i64 0]) (by simp [results, Tryz.results21, go_sem, r0, r1, r2]) rfl ⟨by rw [HRZ.out], only_putc (only_putc (only_putc GW.out (p := ⟨w.heap.size, 0, none⟩) (Nat.le_refl _) _) (p := ⟨w.heap.size, 1, none⟩) (Nat.le_refl _) _) (p := ⟨w.heap.size, 2, none⟩) (Nat.le_refl _) _⟩
end Go.Proofs.YtfhhcpmoaggdmaaGreat
