/- Units of an owner, by the contracts. -/
import Derived.Test.YtgkegmkedkgkcaaO7
namespace Go.Proofs.Ytgkegmkedkgkcaa
open Go.RowKit Go.Lib Go.Sort
set_option linter.unusedVariables false

theorem cells4 {w : World} {g : Nat} {t : TypeId} {v0 v1 v2 v3 : Value} (h : Blk w g t #[v0, v1, v2, v3]) : w.cell? ⟨g, 0, none⟩ = some v0 ∧ w.cell? ⟨g, 1, none⟩ = some v1 ∧ w.cell? ⟨g, 2, none⟩ = some v2 ∧ w.cell? ⟨g, 3, none⟩ = some v3 := ⟨h.cell 0, h.cell 1, h.cell 2, h.cell 3⟩
/-- The units of an owner in the first n slots. -/
def unZ (c : Cf) (o : Int) : Nat → Int
  | 0 => 0
  | n + 1 => if (c.sd n).1 = o ∧ badS c (c.sd n) = false then unZ c o n + ((c.sd n).2.2 - (c.sd n).2.1) / 4 else unZ c o n
def unitsV (c : Cf) (o : Int) : Int := if frB c then unZ c o c.sn else 0
theorem unZ_le {c : Cf} (hf : c.fr ≤ 4096) (o : Int) (n : Nat) : 0 ≤ unZ c o n ∧ unZ c o n ≤ 1024 * n := by
  induction n with
  | zero => exact ⟨Int.le_refl _, by simp [unZ]⟩
  | succ n ih =>
    unfold unZ
    split
    · rename_i h
      have := badS_no.1 h.2
      omega
    · omega
set_option maxRecDepth 20000 in
set_option maxHeartbeats 3200000 in
theorem units_any (c : Cf) (o : Int) (w : World) (hc : CfV w c) (hf : FitCf c) : Calls Try.prog 9 #[cfv c, .int .i64 o] w fun e w' => e = .returned (.int .i64 (unitsV c o)) ∧ w.grownBy w' none := by
  have HBF := Lib.hid (fun W => badf_any c W)
  have hfr := hf.1
  have HBS := Lib.hid (fun (x : W3) (hx : FitW3 x) (W : World) => bads_any c x hx hfr W)
  have HFS := Lib.hid hf.2.2.1
  have HBN := Lib.hid (fun (x : W3) => badS_no (c := c) (x := x))
  have hfi := frB_iff (c := c)
  have HUL := Lib.hid (fun h => unZ_le (c := c) h o)
  have HUN := Lib.hid (fun n => show unZ c o (n + 1) = if (c.sd n).1 = o ∧ badS c (c.sd n) = false then unZ c o n + ((c.sd n).2.2 - (c.sd n).2.1) / 4 else unZ c o n from rfl)
  have HU0 := Lib.hid (show unZ c o 0 = 0 from rfl)
  unfold unitsV
  generalize frB c = r at HBF hfi ⊢
  have HROW := Lib.hid hc.2.1
  generalize unZ c o = U at HUL HUN HU0 ⊢
  generalize badS c = BS at HBS HBN HUN
  obtain ⟨fr, wA, wn, wc, wd, sA, sn, sc, sd, cA, cn, cc, cd⟩ := c
  simp only at HFS HROW HUN HBN hfi HUL hfr
  have HBF : Hid (∀ W, Calls Try.prog 15 #[.agg #[.int .i64 fr, .slice wA wn wc, .slice sA sn sc, .slice cA cn cc]] W fun e w' => e = .returned (.bool !r) ∧ W.grownBy w' none) := HBF
  have HBS : Hid (∀ (x : W3) (hx : FitW3 x) (W : World), Calls Try.prog 16 #[.agg #[.int .i64 fr, .slice wA wn wc, .slice sA sn sc, .slice cA cn cc], .agg #[.int .i64 x.1, .int .i64 x.2.1, .int .i64 x.2.2]] W fun e w' => e = .returned (.bool (BS x)) ∧ W.grownBy w' none) := HBS
  show Calls Try.prog 9 #[.agg #[.int .i64 fr, .slice wA wn wc, .slice sA sn sc, .slice cA cn cc], .int .i64 o] w fun e w' => e = .returned (.int .i64 (if r = true then U sn else 0)) ∧ w.grownBy w' none
  obtain ⟨W1, hW, G0, hA⟩ := box1 w 26 #[.int .i64 fr, .slice wA wn wc, .slice sA sn sc, .slice cA cn cc]
  replace G0 := Lib.hid G0
  have HA := Lib.hid hA
  have k1 := fun i => hA.cell i
  clear hA hc hf
  cases r
  · clear hfi
    go_enter Try.func9, Try.ntmps9
    go_upto_region 1 with (fail)
    rw [← hW]
    clear hW
    go_wp2_with (go_at_call 15; (with_reducible refine (HBF.out _).mono ?_); rintro e w2 ⟨rfl, g2⟩; have G2 := Lib.hid (only_trans G0.out g2); clear g2)
    go_ret
    exact ⟨by simp, G2.out⟩
  · replace hfi := hfi.1 rfl
    have HUB := Lib.hid (HUL.out hfi.2.1)
    have hsn : sn ≤ 32 := hfi.2.2.2.2.2
    have hfr2 : fr ≤ 4096 := hfi.2.1
    clear hfi HUL
    go_enter Try.func9, Try.ntmps9
    go_upto_region 1 with (fail)
    rw [← hW]
    clear hW
    go_upto_region 4 with (go_at_call 15; (with_reducible refine (HBF.out _).mono ?_); rintro e w2 ⟨rfl, g2⟩; have A2 := Lib.hid (HA.out.only g2 (by simp)); have G2 := Lib.hid (only_trans G0.out g2); clear g2 k1)
    have k2 := fun i => A2.out.cell i
    go_wp2_with (fail)
    clear k2
    go_loopw [5, 13] (fun y z wr => ∃ i : Nat, y = .int .i64 (U i) ∧ z = .int .i64 i ∧ i ≤ sn ∧ Hid (Blk wr w.heap.size 26 #[.int .i64 fr, .slice wA wn wc, .slice sA sn sc, .slice cA cn cc]) ∧ Hid (w.grownBy wr none)) (fun _ z _ => sn - (intOf z).toNat)
    case atStart => exact ⟨0, by rw [HU0.out], rfl, by omega, A2, G2⟩
    case round =>
      obtain ⟨i, rfl, rfl, hi, HAW, HG⟩ := hrel
      clear A2 G2
      by_cases hin : i < sn
      · have i1 : (i : Int) < (sn : Int) := by omega
        obtain ⟨b, off, rfl, hb, hcl⟩ := (HROW.out.grown HG.out).2 (by omega)
        obtain ⟨c0, c1, c2⟩ := hcl i hin
        have hfx := HFS.out.2.2 i hin
        have hu := HUN.out i
        have hub := HUB.out i
        have hbn := HBN.out (sd i)
        have HBSX := Lib.hid (HBS.out (sd i) hfx)
        clear hcl hb hfx
        obtain ⟨x, hx⟩ : ∃ x, x = sd i := ⟨_, rfl⟩
        rw [← hx] at c0 c1 c2 hu hbn HBSX
        clear hx
        obtain ⟨x1, x2, x3⟩ := x
        simp only at c0 c1 c2 hu hbn HBSX
        generalize BS (x1, x2, x3) = r2 at hu hbn HBSX
        generalize U i = u at hu hub ⊢
        have HX := Lib.hid (Blk.new wr 37 #[.int .i64 x1, .int .i64 x2, .int .i64 x3])
        have HA2 := Lib.hid (HAW.out.alloc (.cells #[.int .i64 x1, .int .i64 x2, .int .i64 x3] 37))
        obtain ⟨a0, a1, a2, a3⟩ := cells4 HAW.out
        have hlt : w.heap.size < wr.heap.size := HAW.out.lt
        have hne : ¬ w.heap.size = wr.heap.size := by have := HAW.out.lt; omega
        have hne' : ¬ wr.heap.size = w.heap.size := by omega
        by_cases ho : x1 = o
        · subst ho
          have hd : (x1 == x1) = true := by simp
          have hw1 : r2 = false → IntKind.i64.wrap (x3 - x2) = x3 - x2 ∧ IntKind.i64.wrap (u + (x3 - x2) / 4) = u + (x3 - x2) / 4 ∧ IntKind.i64.wrap ((x3 - x2).tdiv 4) = (x3 - x2) / 4 := fun h => by
            have := hbn.1 h
            rw [Int.tdiv_eq_ediv_of_nonneg (by omega), IntKind.wrap_i64, IntKind.wrap_i64, IntKind.wrap_i64]
            omega
          have HU' := Lib.hid hu
          clear hu hbn hub
          cases r2
          · obtain ⟨hw1, hw2, hw3⟩ := hw1 rfl
            have HU2 : Hid (U (i + 1) = u + (x3 - x2) / 4) := Lib.hid (by rw [HU'.out, if_pos ⟨rfl, rfl⟩])
            clear HU'
            go_wp2_with (go_at_call 16; go_loud (with_reducible refine (HBSX.out _).mono ?_); rintro e w4 ⟨rfl, g4⟩; have hx4 := HX.out.only g4 (by simp); have q4 := fun i => hx4.cell i; have A4 := Lib.hid (HA2.out.only g4 (by simp)); have G4 := Lib.hid (only_trans (only_trans HG.out (only_alloc (only_refl _ _) _)) g4); clear g4 hx4 a0 a1 a2 a3)
            go_roundw
            case rel => exact ⟨i + 1, by rw [HU2.out], by go_num, by omega, A4, G4⟩
            case measure => simp [intOf] <;> omega
          · have HU2 : Hid (U (i + 1) = u) := Lib.hid (by rw [HU'.out, if_neg (by simp)])
            clear HU' hw1
            go_wp2_with (go_at_call 16; (with_reducible refine (HBSX.out _).mono ?_); rintro e w4 ⟨rfl, g4⟩; have A4 := Lib.hid (HA2.out.only g4 (by simp)); have G4 := Lib.hid (only_trans (only_trans HG.out (only_alloc (only_refl _ _) _)) g4); clear g4 a0 a1 a2 a3)
            go_roundw
            case rel => exact ⟨i + 1, by rw [HU2.out], by go_num, by omega, A4, G4⟩
            case measure => simp [intOf] <;> omega
        · have hd : (x1 == o) = false := by simpa using ho
          have HU2 : Hid (U (i + 1) = u) := Lib.hid (by rw [hu, if_neg (fun h => ho h.1)])
          clear hu hbn hub
          go_wp2_with (fail)
          go_roundw
          case rel => exact ⟨i + 1, by rw [HU2.out], by go_num, by omega, HA2, Lib.hid (only_trans HG.out (only_alloc (only_refl _ _) _))⟩
          case measure => simp [intOf] <;> omega
      · obtain rfl : i = sn := by omega
        have i1 : ¬ (i : Int) < (i : Int) := by omega
        go_wp2
        go_ret
        exact ⟨by simp, HG.out⟩
end Go.Proofs.Ytgkegmkedkgkcaa
