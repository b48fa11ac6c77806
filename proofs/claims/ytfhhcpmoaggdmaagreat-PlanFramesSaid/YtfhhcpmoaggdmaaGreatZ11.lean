import Derived.Test.YtfhhcpmoaggdmaaGreatZ10
import Derived.BigRegion
set_option linter.all false
/- Package conf: all that is wrong, by its contract. -/
namespace Go.Proofs.YtfhhcpmoaggdmaaGreat
open Go.RowKit Go.Lib Go.Sort
set_option linter.unusedVariables false

def fl2 (c : Cf) : List (Int × Int) := askL (fun r => badC (c.cd (r - 1).toNat)) 2 1 c.cn
def fl3 (c : Cf) : List (Int × Int) := askL (fun r => shB (c.cd (r - 1).toNat) c.cd (r - 1).toNat) 3 1 c.cn
def fl4 (c : Cf) : List (Int × Int) := askL (fun r => badW c (c.wd (r - 1).toNat)) 4 1 c.wn
def fl5 (c : Cf) : List (Int × Int) := askL (fun r => anyB (fun k => wM (c.wd (r - 1).toNat) (c.wd k)) (r - 1).toNat) 5 1 c.wn
def fl6 (c : Cf) : List (Int × Int) := askL (fun o => decide (fwI c o < 0)) 6 0 (c.cn + 1)
def fl7 (c : Cf) : List (Int × Int) := askL (fun _ => shwB c) 7 0 1
def fl8 (c : Cf) : List (Int × Int) := askL (fun r => badS c (c.sd (r - 1).toNat)) 8 1 c.sn
def fl9 (c : Cf) : List (Int × Int) := askL (fun r => anyB (fun k => sM (c.sd (r - 1).toNat) (c.sd k)) (r - 1).toNat) 9 1 c.sn
def fl10 (c : Cf) : List (Int × Int) := askL (fun r => decide (unitsV c r < (c.cd (r - 1).toNat).quota)) 10 1 c.cn
/-- All that is wrong, by why, then by row. -/
def fltL (c : Cf) : List (Int × Int) := if frB c then fl2 c ++ fl3 c ++ fl4 c ++ fl5 c ++ fl6 c ++ fl7 c ++ fl8 c ++ fl9 c ++ fl10 c else [(0, 1)]
def FaultsV (c : Cf) (w : World) (e : Ending) (w' : World) : Prop := ∃ v, e = .returned v ∧ RowZ 2 w' v (fltL c).length (flC (fltL c)) ∧ (∀ k, v.ownBlock = some k → w.heap.size ≤ k) ∧ Below w.heap.size w w'
/-- What ask leaves, one kind of faults added. -/
def AskV (b : Nat) (L A : List (Int × Int)) (w : World) (e : Ending) (w' : World) : Prop := e = .returned (.tuple #[]) ∧ FltS w' b (L ++ A) ∧ Below b w w'
def AskC (g b k : Nat) (why f l : Int) (A : List (Int × Int)) (w : World) : Prop := ∀ (W : World) (L : List (Int × Int)), FltS W b L → L.length ≤ 1000 → Below b w W → Calls Tryz.prog 67 #[.int .i64 why, .int .i64 f, .int .i64 l, .func (.func k) #[] #[.pointer (some ⟨g, 0, none⟩)], .pointer (some ⟨b, 0, none⟩)] W (AskV b L A W)
section
variable {c : Cf} {g b : Nat} {w : World} (hf : FitCf c) (h0 : frB c = true) (hP : ∀ W, Below b w W → CfV W c ∧ BoxC W g c)
include hf h0 hP
theorem asks2 : AskC g b 68 2 1 c.cn (fl2 c) w := fun W L hS hL hb => by
  obtain ⟨q1, q2, q3, q4, q5, q6⟩ := frB_iff.1 h0
  refine (ask2_any b g (fun r => badC (c.cd (r - 1).toNat)) 2 1 c.cn c.cn L W (by omega) (by omega) (by omega) hL hS ?_)
  exact fun i hi W' hW' => by
    obtain ⟨h1, h2⟩ := hP W' (hb.trans hW')
    have e : ((1 : Int) + i - 1).toNat = i := by omega
    have := f2_any c g W' h1 hf h2 i (1 + i) (by omega) hi (by omega)
    simpa only [e] using this
theorem asks3 : AskC g b 70 3 1 c.cn (fl3 c) w := fun W L hS hL hb => by
  obtain ⟨q1, q2, q3, q4, q5, q6⟩ := frB_iff.1 h0
  refine (ask3_any b g (fun r => shB (c.cd (r - 1).toNat) c.cd (r - 1).toNat) 3 1 c.cn c.cn L W (by omega) (by omega) (by omega) hL hS ?_)
  exact fun i hi W' hW' => by
    obtain ⟨h1, h2⟩ := hP W' (hb.trans hW')
    have e : ((1 : Int) + i - 1).toNat = i := by omega
    have := f3_any c g W' h1 hf h2 i (1 + i) (by omega) hi (by omega)
    simpa only [e] using this
theorem asks4 : AskC g b 72 4 1 c.wn (fl4 c) w := fun W L hS hL hb => by
  obtain ⟨q1, q2, q3, q4, q5, q6⟩ := frB_iff.1 h0
  refine (ask4_any b g (fun r => badW c (c.wd (r - 1).toNat)) 4 1 c.wn c.wn L W (by omega) (by omega) (by omega) hL hS ?_)
  exact fun i hi W' hW' => by
    obtain ⟨h1, h2⟩ := hP W' (hb.trans hW')
    have e : ((1 : Int) + i - 1).toNat = i := by omega
    have := f4_any c g W' h1 hf h2 i (1 + i) (by omega) hi (by omega)
    simpa only [e] using this
theorem asks5 : AskC g b 74 5 1 c.wn (fl5 c) w := fun W L hS hL hb => by
  obtain ⟨q1, q2, q3, q4, q5, q6⟩ := frB_iff.1 h0
  refine (ask5_any b g (fun r => anyB (fun k => wM (c.wd (r - 1).toNat) (c.wd k)) (r - 1).toNat) 5 1 c.wn c.wn L W (by omega) (by omega) (by omega) hL hS ?_)
  exact fun i hi W' hW' => by
    obtain ⟨h1, h2⟩ := hP W' (hb.trans hW')
    have e : ((1 : Int) + i - 1).toNat = i := by omega
    have := f5_any c g W' h1 hf h2 i (1 + i) (by omega) hi (by omega)
    simpa only [e] using this
theorem asks6 : AskC g b 76 6 0 c.cn (fl6 c) w := fun W L hS hL hb => by
  obtain ⟨q1, q2, q3, q4, q5, q6⟩ := frB_iff.1 h0
  refine (ask6_any b g (fun o => decide (fwI c o < 0)) 6 0 c.cn (c.cn + 1) L W (by omega) (by omega) (by omega) hL hS ?_)
  exact fun i hi W' hW' => by
    obtain ⟨h1, h2⟩ := hP W' (hb.trans hW')
    exact f6_any c g W' h1 hf h2 (0 + i)
theorem asks7 : AskC g b 78 7 0 0 (fl7 c) w := fun W L hS hL hb => by
  obtain ⟨q1, q2, q3, q4, q5, q6⟩ := frB_iff.1 h0
  refine (ask7_any b g (fun _ => shwB c) 7 0 0 1 L W (by omega) (by omega) (by omega) hL hS ?_)
  exact fun i hi W' hW' => by
    obtain ⟨h1, h2⟩ := hP W' (hb.trans hW')
    exact f7_any c g W' h1 hf h2 (0 + i) (by omega)
theorem asks8 : AskC g b 80 8 1 c.sn (fl8 c) w := fun W L hS hL hb => by
  obtain ⟨q1, q2, q3, q4, q5, q6⟩ := frB_iff.1 h0
  refine (ask8_any b g (fun r => badS c (c.sd (r - 1).toNat)) 8 1 c.sn c.sn L W (by omega) (by omega) (by omega) hL hS ?_)
  exact fun i hi W' hW' => by
    obtain ⟨h1, h2⟩ := hP W' (hb.trans hW')
    have e : ((1 : Int) + i - 1).toNat = i := by omega
    have := f8_any c g W' h1 hf h2 i (1 + i) (by omega) hi (by omega)
    simpa only [e] using this
theorem asks9 : AskC g b 82 9 1 c.sn (fl9 c) w := fun W L hS hL hb => by
  obtain ⟨q1, q2, q3, q4, q5, q6⟩ := frB_iff.1 h0
  refine (ask9_any b g (fun r => anyB (fun k => sM (c.sd (r - 1).toNat) (c.sd k)) (r - 1).toNat) 9 1 c.sn c.sn L W (by omega) (by omega) (by omega) hL hS ?_)
  exact fun i hi W' hW' => by
    obtain ⟨h1, h2⟩ := hP W' (hb.trans hW')
    have e : ((1 : Int) + i - 1).toNat = i := by omega
    have := f9_any c g W' h1 hf h2 i (1 + i) (by omega) hi (by omega)
    simpa only [e] using this
theorem asks10 : AskC g b 84 10 1 c.cn (fl10 c) w := fun W L hS hL hb => by
  obtain ⟨q1, q2, q3, q4, q5, q6⟩ := frB_iff.1 h0
  refine (ask10_any b g (fun r => decide (unitsV c r < (c.cd (r - 1).toNat).quota)) 10 1 c.cn c.cn L W (by omega) (by omega) (by omega) hL hS ?_)
  exact fun i hi W' hW' => by
    obtain ⟨h1, h2⟩ := hP W' (hb.trans hW')
    have e : ((1 : Int) + i - 1).toNat = i := by omega
    have := f10_any c g W' h1 hf h2 i (1 + i) (by omega) hi (by omega)
    simpa only [e] using this
end
theorem fl2_len (c : Cf) (h0 : frB c = true) : (fl2 c).length ≤ 33 := by
  obtain ⟨q1, q2, q3, q4, q5, q6⟩ := frB_iff.1 h0
  have := askL_len (fun r => badC (c.cd (r - 1).toNat)) 2 1 c.cn
  unfold fl2
  omega
theorem fl3_len (c : Cf) (h0 : frB c = true) : (fl3 c).length ≤ 33 := by
  obtain ⟨q1, q2, q3, q4, q5, q6⟩ := frB_iff.1 h0
  have := askL_len (fun r => shB (c.cd (r - 1).toNat) c.cd (r - 1).toNat) 3 1 c.cn
  unfold fl3
  omega
theorem fl4_len (c : Cf) (h0 : frB c = true) : (fl4 c).length ≤ 33 := by
  obtain ⟨q1, q2, q3, q4, q5, q6⟩ := frB_iff.1 h0
  have := askL_len (fun r => badW c (c.wd (r - 1).toNat)) 4 1 c.wn
  unfold fl4
  omega
theorem fl5_len (c : Cf) (h0 : frB c = true) : (fl5 c).length ≤ 33 := by
  obtain ⟨q1, q2, q3, q4, q5, q6⟩ := frB_iff.1 h0
  have := askL_len (fun r => anyB (fun k => wM (c.wd (r - 1).toNat) (c.wd k)) (r - 1).toNat) 5 1 c.wn
  unfold fl5
  omega
theorem fl6_len (c : Cf) (h0 : frB c = true) : (fl6 c).length ≤ 33 := by
  obtain ⟨q1, q2, q3, q4, q5, q6⟩ := frB_iff.1 h0
  have := askL_len (fun o => decide (fwI c o < 0)) 6 0 (c.cn + 1)
  unfold fl6
  omega
theorem fl7_len (c : Cf) (h0 : frB c = true) : (fl7 c).length ≤ 33 := by
  obtain ⟨q1, q2, q3, q4, q5, q6⟩ := frB_iff.1 h0
  have := askL_len (fun _ => shwB c) 7 0 1
  unfold fl7
  omega
theorem fl8_len (c : Cf) (h0 : frB c = true) : (fl8 c).length ≤ 33 := by
  obtain ⟨q1, q2, q3, q4, q5, q6⟩ := frB_iff.1 h0
  have := askL_len (fun r => badS c (c.sd (r - 1).toNat)) 8 1 c.sn
  unfold fl8
  omega
theorem fl9_len (c : Cf) (h0 : frB c = true) : (fl9 c).length ≤ 33 := by
  obtain ⟨q1, q2, q3, q4, q5, q6⟩ := frB_iff.1 h0
  have := askL_len (fun r => anyB (fun k => sM (c.sd (r - 1).toNat) (c.sd k)) (r - 1).toNat) 9 1 c.sn
  unfold fl9
  omega
theorem fl10_len (c : Cf) (h0 : frB c = true) : (fl10 c).length ≤ 33 := by
  obtain ⟨q1, q2, q3, q4, q5, q6⟩ := frB_iff.1 h0
  have := askL_len (fun r => decide (unitsV c r < (c.cd (r - 1).toNat).quota)) 10 1 c.cn
  unfold fl10
  omega

set_option maxRecDepth 40000 in
set_option maxHeartbeats 6400000 in
theorem faults_any (c : Cf) (w : World) (hc : CfV w c) (hf : FitCf c) : Calls Tryz.prog 46 #[cfv c] w (FaultsV c w) := by
  have HBF := Lib.hid (fun W => (show Calls Tryz.prog 66 #[.agg #[.int .i64 c.fr, .slice c.wA c.wn c.wc, .slice c.sA c.sn c.sc, .slice c.cA c.cn c.cc]] W _ from badf_any c W))
  obtain ⟨W1, hW, G0, hA⟩ := box1 w 26 #[.int .i64 c.fr, .slice c.wA c.wn c.wc, .slice c.sA c.sn c.sc, .slice c.cA c.cn c.cc]
  have HA := Lib.hid (show BoxC W1 w.heap.size c from hA)
  have HC := Lib.hid hc
  have HFI := Lib.hid hf
  replace G0 := Lib.hid G0
  show Calls Tryz.prog 46 #[.agg #[.int .i64 c.fr, .slice c.wA c.wn c.wc, .slice c.sA c.sn c.sc, .slice c.cA c.cn c.cc]] w (FaultsV c w)
  obtain ⟨k0, k1, k2, k3⟩ := cf_cells hA
  clear hA hc hf
  cases h0 : frB c
  · rw [h0] at HBF
    have HL := Lib.hid (show fltL c = [(0, 1)] by unfold fltL; rw [h0]; simp)
    clear h0
    go_enter Tryz.func46, Tryz.ntmps46
    go_upto_region 1 with (fail)
    rw [← hW]
    clear hW
    go_wp2_with (go_at_call 66; (with_reducible refine (HBF.out _).mono ?_); rintro e w2 ⟨rfl, g2⟩; have G2 := Lib.hid (only_trans G0.out g2); clear g2 k0 k1 k2 k3)
    go_ret
    unfold FaultsV
    rw [HL.out]
    have hlt := G2.out.size
    have hlt2 : w.heap.size ≤ w2.heap.size := hlt
    exact ⟨_, rfl, RowZ.new w2 _ 83 _ rfl (by decide) (by decide) (by decide) (fun j u hu => by simpa [flC] using hu), fun k hk => by
      have : w2.heap.size = k := by simpa [Value.ownBlock] using hk
      omega, below_of_only (only_alloc G2.out _) (Nat.le_refl _) (by simp)⟩
  · rw [h0] at HBF
    have H0 := Lib.hid h0
    have HL := Lib.hid (show fltL c = fl2 c ++ fl3 c ++ fl4 c ++ fl5 c ++ fl6 c ++ fl7 c ++ fl8 c ++ fl9 c ++ fl10 c by unfold fltL; rw [h0]; simp)
    clear h0
    go_enter Tryz.func46, Tryz.ntmps46
    go_upto_region 1 with (fail)
    rw [← hW]
    clear hW
    go_upto_region 3 with (go_at_call 66; (with_reducible refine (HBF.out _).mono ?_); rintro e w2 ⟨rfl, g2⟩; have A2 := Lib.hid (HA.out.only g2 (by simp)); have G2 := Lib.hid (only_trans G0.out g2); clear g2 k0 k1 k2 k3)
    obtain ⟨W3, hW3, G3, hB3⟩ := box1 w2 31 #[.slice none 0 0]
    obtain ⟨b, hb⟩ : ∃ b, b = w2.heap.size := ⟨_, rfl⟩
    have hlt := A2.out.lt
    have F3 := Lib.hid (show FltS W3 b [] from ⟨_, by rw [hb]; exact hB3, RowZ.nil 2 _, by simp [Value.ownBlock]⟩)
    have A3 := Lib.hid (A2.out.only G3 (by simp))
    replace G3 := Lib.hid (only_trans G2.out G3)
    have hbb : w.heap.size < b := by omega
    go_upto_region 5 with (fail)
    rw [← hW3, ← hb]
    replace hb := Lib.hid hb
    clear hW3
    obtain ⟨k0, k1, k2, k3⟩ := cf_cells A3.out
    have j1 := fun dd os => cell_regrown k1 dd os
    have j2 := fun dd os => cell_regrown k2 dd os
    have j3 := fun dd os => cell_regrown k3 dd os
    clear k0 k1 k2 k3
    refine wp_region_quiet_below (by kernel_rfl) (by kernel_rfl) ?_
    repeat (go_big_quiet_step ((fail)))
    refine wpQuiet_nil ?_
    intro w4 hw4
    obtain ⟨p, rfl⟩ := hw4
    have F4 := Lib.hid (F3.out.grown (only_re W3 p.d p.os))
    have A4 := Lib.hid (A3.out.only (only_re W3 p.d p.os) (by simp))
    have G4 := Lib.hid (only_trans G3.out (only_re W3 p.d p.os))
    clear j1 j2 j3
    generalize grow (redrawn W3 p.d) p.os = w4 at F4 A4 G4 ⊢
    have hP : ∀ W, Below b w4 W → CfV W c ∧ BoxC W w.heap.size c := fun W hWb => by
      have hs := G4.out.size
      have g5 : w.grownBy W none := only_far ((below_of_only G4.out (Nat.le_refl _) (by simp)).trans (hWb.mono (Nat.le_of_lt hbb)))
      exact ⟨HC.out.grown g5, Blk.below A4.out hWb hbb⟩
    have HA2 := Lib.hid (asks2 HFI.out H0.out hP)
    have HE2 := Lib.hid (fl2_len c H0.out)
    have HA3 := Lib.hid (asks3 HFI.out H0.out hP)
    have HE3 := Lib.hid (fl3_len c H0.out)
    have HA4 := Lib.hid (asks4 HFI.out H0.out hP)
    have HE4 := Lib.hid (fl4_len c H0.out)
    have HA5 := Lib.hid (asks5 HFI.out H0.out hP)
    have HE5 := Lib.hid (fl5_len c H0.out)
    have HA6 := Lib.hid (asks6 HFI.out H0.out hP)
    have HE6 := Lib.hid (fl6_len c H0.out)
    have HA7 := Lib.hid (asks7 HFI.out H0.out hP)
    have HE7 := Lib.hid (fl7_len c H0.out)
    have HA8 := Lib.hid (asks8 HFI.out H0.out hP)
    have HE8 := Lib.hid (fl8_len c H0.out)
    have HA9 := Lib.hid (asks9 HFI.out H0.out hP)
    have HE9 := Lib.hid (fl9_len c H0.out)
    have HA10 := Lib.hid (asks10 HFI.out H0.out hP)
    have HE10 := Lib.hid (fl10_len c H0.out)
    clear hP
    unfold AskC AskV at HA2 HA3 HA4 HA5 HA6 HA7 HA8 HA9 HA10
    generalize fl2 c = L2 at HL HA2 HE2
    generalize fl3 c = L3 at HL HA3 HE3
    generalize fl4 c = L4 at HL HA4 HE4
    generalize fl5 c = L5 at HL HA5 HE5
    generalize fl6 c = L6 at HL HA6 HE6
    generalize fl7 c = L7 at HL HA7 HE7
    generalize fl8 c = L8 at HL HA8 HE8
    generalize fl9 c = L9 at HL HA9 HE9
    generalize fl10 c = L10 at HL HA10 HE10
    have B4 := Lib.hid (Below.refl b w4)
    have LN4 : Hid ((([] : List (Int × Int))).length ≤ 1000) := Lib.hid (by simp; try omega)
    have LN5 : Hid (((([] : List (Int × Int)) ++ L2)).length ≤ 1000) := Lib.hid (by have := HE2.out; simp; try omega)
    have LN6 : Hid ((((([] : List (Int × Int)) ++ L2) ++ L3)).length ≤ 1000) := Lib.hid (by have := HE2.out; have := HE3.out; simp; try omega)
    have LN7 : Hid (((((([] : List (Int × Int)) ++ L2) ++ L3) ++ L4)).length ≤ 1000) := Lib.hid (by have := HE2.out; have := HE3.out; have := HE4.out; simp; try omega)
    have LN8 : Hid ((((((([] : List (Int × Int)) ++ L2) ++ L3) ++ L4) ++ L5)).length ≤ 1000) := Lib.hid (by have := HE2.out; have := HE3.out; have := HE4.out; have := HE5.out; simp; try omega)
    have LN9 : Hid (((((((([] : List (Int × Int)) ++ L2) ++ L3) ++ L4) ++ L5) ++ L6)).length ≤ 1000) := Lib.hid (by have := HE2.out; have := HE3.out; have := HE4.out; have := HE5.out; have := HE6.out; simp; try omega)
    have LN10 : Hid ((((((((([] : List (Int × Int)) ++ L2) ++ L3) ++ L4) ++ L5) ++ L6) ++ L7)).length ≤ 1000) := Lib.hid (by have := HE2.out; have := HE3.out; have := HE4.out; have := HE5.out; have := HE6.out; have := HE7.out; simp; try omega)
    have LN11 : Hid (((((((((([] : List (Int × Int)) ++ L2) ++ L3) ++ L4) ++ L5) ++ L6) ++ L7) ++ L8)).length ≤ 1000) := Lib.hid (by have := HE2.out; have := HE3.out; have := HE4.out; have := HE5.out; have := HE6.out; have := HE7.out; have := HE8.out; simp; try omega)
    have LN12 : Hid ((((((((((([] : List (Int × Int)) ++ L2) ++ L3) ++ L4) ++ L5) ++ L6) ++ L7) ++ L8) ++ L9)).length ≤ 1000) := Lib.hid (by have := HE2.out; have := HE3.out; have := HE4.out; have := HE5.out; have := HE6.out; have := HE7.out; have := HE8.out; have := HE9.out; simp; try omega)
    have LN13 : Hid (((((((((((([] : List (Int × Int)) ++ L2) ++ L3) ++ L4) ++ L5) ++ L6) ++ L7) ++ L8) ++ L9) ++ L10)).length ≤ 1000) := Lib.hid (by have := HE2.out; have := HE3.out; have := HE4.out; have := HE5.out; have := HE6.out; have := HE7.out; have := HE8.out; have := HE9.out; have := HE10.out; simp; try omega)
    go_upto_region 15 with (first
      | (go_at_call 67; (with_reducible refine (HA2.out _ _ F4.out LN4.out B4.out).mono ?_); rintro e w5 ⟨rfl, s, bb⟩; have F5 := Lib.hid s; have B5 := Lib.hid (B4.out.trans bb); clear s bb)
      | (go_at_call 67; (with_reducible refine (HA3.out _ _ F5.out LN5.out B5.out).mono ?_); rintro e w6 ⟨rfl, s, bb⟩; have F6 := Lib.hid s; have B6 := Lib.hid (B5.out.trans bb); clear s bb)
      | (go_at_call 67; (with_reducible refine (HA4.out _ _ F6.out LN6.out B6.out).mono ?_); rintro e w7 ⟨rfl, s, bb⟩; have F7 := Lib.hid s; have B7 := Lib.hid (B6.out.trans bb); clear s bb)
      | (go_at_call 67; (with_reducible refine (HA5.out _ _ F7.out LN7.out B7.out).mono ?_); rintro e w8 ⟨rfl, s, bb⟩; have F8 := Lib.hid s; have B8 := Lib.hid (B7.out.trans bb); clear s bb)
      | (go_at_call 67; (with_reducible refine (HA6.out _ _ F8.out LN8.out B8.out).mono ?_); rintro e w9 ⟨rfl, s, bb⟩; have F9 := Lib.hid s; have B9 := Lib.hid (B8.out.trans bb); clear s bb)
      | (go_at_call 67; (with_reducible refine (HA7.out _ _ F9.out LN9.out B9.out).mono ?_); rintro e w10 ⟨rfl, s, bb⟩; have F10 := Lib.hid s; have B10 := Lib.hid (B9.out.trans bb); clear s bb)
      | (go_at_call 67; (with_reducible refine (HA8.out _ _ F10.out LN10.out B10.out).mono ?_); rintro e w11 ⟨rfl, s, bb⟩; have F11 := Lib.hid s; have B11 := Lib.hid (B10.out.trans bb); clear s bb)
      | (go_at_call 67; (with_reducible refine (HA9.out _ _ F11.out LN11.out B11.out).mono ?_); rintro e w12 ⟨rfl, s, bb⟩; have F12 := Lib.hid s; have B12 := Lib.hid (B11.out.trans bb); clear s bb)
      | (go_at_call 67; (with_reducible refine (HA10.out _ _ F12.out LN12.out B12.out).mono ?_); rintro e w13 ⟨rfl, s, bb⟩; have F13 := Lib.hid s; have B13 := Lib.hid (B12.out.trans bb); clear s bb))
    have hfin : FltS w13 b (fltL c) := by
      rw [HL.out]
      exact F13.out
    have HBW := Lib.hid ((below_of_only G4.out (Nat.le_refl w.heap.size) (by simp)).trans (B13.out.mono (Nat.le_of_lt hbb)))
    obtain ⟨v, hv1, hv2, hv3⟩ := hfin
    have c0 : w13.cell? ⟨b, 0, none⟩ = some v := hv1.cell 0
    have HV := Lib.hid (And.intro hv2 hv3)
    obtain ⟨va, vc, rfl⟩ := hv2.form
    generalize hfl : (fltL c).length = ln at c0 HV
    clear hv1 hv2 hv3
    go_wp2
    go_ret
    unfold FaultsV
    rw [hfl]
    exact ⟨_, rfl, HV.out.1, fun k hk => by have := HV.out.2 k hk; omega, HBW.out⟩
theorem check_any (c : Cf) (w : World) (hc : CfV w c) (hf : FitCf c) : Calls Tryz.prog 27 #[cfv c] w fun e w' => e = .returned (.bool (decide (fltL c = []))) ∧ w.grownBy w' none := by
  obtain ⟨W1, hW, G0, hA⟩ := box1 w 26 #[.int .i64 c.fr, .slice c.wA c.wn c.wc, .slice c.sA c.sn c.sc, .slice c.cA c.cn c.cc]
  have HF := Lib.hid (show Calls Tryz.prog 46 #[.agg #[.int .i64 c.fr, .slice c.wA c.wn c.wc, .slice c.sA c.sn c.sc, .slice c.cA c.cn c.cc]] W1 (FaultsV c W1) from faults_any c W1 (hc.grown G0) hf)
  show Calls Tryz.prog 27 #[.agg #[.int .i64 c.fr, .slice c.wA c.wn c.wc, .slice c.sA c.sn c.sc, .slice c.cA c.cn c.cc]] w _
  obtain ⟨k0, k1, k2, k3⟩ := cf_cells (c := c) hA
  have hd : decide (fltL c = []) = decide ((fltL c).length = 0) := by
    congr 1
    simp
  rw [hd]
  clear hd
  unfold FaultsV at HF
  generalize hn : (fltL c).length = n at HF ⊢
  replace hn := Lib.hid hn
  replace G0 := Lib.hid G0
  clear hA hc hf
  go_enter Tryz.func27, Tryz.ntmps27
  go_upto_region 1 with (fail)
  rw [← hW]
  clear hW
  go_wp2_with (go_at_call 46; (with_reducible refine HF.out.mono ?_); rintro e w2 ⟨v, rfl, hr, _, g2⟩; obtain ⟨va, vc, rfl⟩ := hr.form; have G2 := Lib.hid (only_trans G0.out (only_far g2)); clear g2 hr k0 k1 k2 k3)
  go_ret
  refine ⟨(?_ : _ = Ending.returned (.bool (decide (n = 0)))), G2.out⟩
  exact ret_bool (a := ((n : Int) == 0)) (by rw [Bool.eq_iff_iff]; simp)
end Go.Proofs.YtfhhcpmoaggdmaaGreat

/- The document's word on one fault of one row, by its contract: 2, 4, 8, 10. -/
namespace Go.Proofs.YtfhhcpmoaggdmaaGreat
open Go.RowKit Go.Lib Go.Sort
set_option linter.unusedVariables false


set_option maxRecDepth 40000 in
set_option maxHeartbeats 3200000 in
theorem has2_any (c : Cf) (w : World) (hc : CfV w c) (hf : FitCf c) (row : Nat) (h32 : row ≤ 1000) : Calls Tryz.prog 34 #[cfv c, .int .i64 2, .int .i64 row] w fun e w' => e = .returned (.bool (decide (1 ≤ row ∧ row ≤ c.cn) && badC (c.cd (row - 1)))) ∧ w.grownBy w' none := by
  obtain ⟨W1, hW, G0, hA⟩ := box1 w 26 #[.int .i64 c.fr, .slice c.wA c.wn c.wc, .slice c.sA c.sn c.sc, .slice c.cA c.cn c.cc]
  obtain ⟨k0, k1, k2, k3⟩ := cf_cells (c := c) hA
  replace G0 := Lib.hid G0
  show Calls Tryz.prog 34 #[.agg #[.int .i64 c.fr, .slice c.wA c.wn c.wc, .slice c.sA c.sn c.sc, .slice c.cA c.cn c.cc], .int .i64 2, .int .i64 row] w _
  clear hA
  by_cases hr0 : row = 0
  · subst hr0
    clear hc hf h32
    go_enter Tryz.func34, Tryz.ntmps34
    go_upto_region 1 with (fail)
    rw [← hW]
    clear hW
    go_wp2_with (fail)
    go_ret
    exact ⟨rfl, G0.out⟩
  by_cases hin : row ≤ c.cn
  · obtain ⟨i, rfl⟩ : ∃ i, row = i + 1 := ⟨row - 1, by omega⟩
    have hrow := hc.2.2
    have hfit := hf.2.2.2
    have hi : i < c.cn := by omega
    have hq := fun (W : World) (hW' : W1.grownBy W none) => (show Calls Tryz.prog 53 #[.agg #[.int .i64 (c.cd i).base, .int .i64 (c.cd i).size, .int .i64 (c.cd i).ring, .int .i64 (c.cd i).at', .int .i64 (c.cd i).quota, .int .i64 (c.cd i).queue, .int .i64 (c.cd i).mac, .int .i64 (c.cd i).chan, .int .i64 (c.cd i).first, .int .i64 (c.cd i).secs]] W (fun e w' => e = .returned (.bool (badC (c.cd i))) ∧ W.grownBy w' none) from rbad_any (c.cd i) (hfit.2.2 i hi) W)
    have HQ := Lib.hid hq
    obtain ⟨b, off, hA, hb, hcl⟩ := (hrow.grown G0.out).2 (by omega)
    have hcell := hcl i hi
    have hres : (decide (1 ≤ i + 1 ∧ i + 1 ≤ c.cn) && badC (c.cd (i + 1 - 1))) = badC (c.cd i) := by
      rw [Nat.add_sub_cancel, decide_eq_true (by omega), Bool.true_and]
    rw [hres]
    have hw : IntKind.i64.wrap (((i + 1 : Nat) : Int) - 1) = (i : Int) := by rw [IntKind.wrap_i64]; omega
    generalize ((i + 1 : Nat) : Int) = r at hw HQ ⊢
    obtain ⟨z, hz⟩ : ∃ z, z = (badC (c.cd i)) := ⟨_, rfl⟩
    rw [← hz] at HQ ⊢
    clear hz hres hq
    obtain ⟨fr, wA, wn, wc, wd, sA, sn, sc, sd, cA, cn, cc, cd⟩ := c
    simp only at hA hcell hi k0 k1 k2 k3 HQ hW ⊢
    subst hA
    have i1 : (i : Int) < (cn : Int) := by omega
    have hd1 : decide ((i : Int) < (cn : Int)) = true := decide_eq_true i1
    have i0 : (0 : Int) ≤ (i : Int) := by omega
    have hd0 : decide ((0 : Int) ≤ (i : Int)) = true := decide_eq_true i0
    clear hrow hcl hfit hc hf h32 hr0 hin
    obtain ⟨x, hx⟩ : ∃ x, x = cd i := ⟨_, rfl⟩
    rw [← hx] at hcell HQ
    clear hx
    obtain ⟨x1, x2, x3, x4, x5, x6, x7, x8, x9, x10⟩ := x
    obtain ⟨c0, c1, c2, c3, c4, c5, c6, c7, c8, c9⟩ := hcell
    simp only at c0 c1 c2 c3 c4 c5 c6 c7 c8 c9 HQ
    go_enter Tryz.func34, Tryz.ntmps34
    go_upto_region 1 with (fail)
    rw [← hW]
    clear hW
    go_wp2_with (go_at_call 53; (with_reducible refine (HQ.out W1 (only_refl _ _)).mono ?_); rintro e w2 ⟨rfl, g2⟩; have G2 := Lib.hid (only_trans G0.out g2); clear g2)
    go_ret
    exact ⟨rfl, G2.out⟩
  · obtain ⟨i, rfl⟩ : ∃ i, row = i + 1 := ⟨row - 1, by omega⟩
    have hres : (decide (1 ≤ i + 1 ∧ i + 1 ≤ c.cn) && badC (c.cd (i + 1 - 1))) = false := by
      rw [decide_eq_false (by omega), Bool.false_and]
    rw [hres]
    have hw : IntKind.i64.wrap (((i + 1 : Nat) : Int) - 1) = (i : Int) := by rw [IntKind.wrap_i64]; omega
    generalize ((i + 1 : Nat) : Int) = r at hw ⊢
    have i1 : ¬ (i : Int) < (c.cn : Int) := by omega
    have hd1 : decide ((i : Int) < (c.cn : Int)) = false := decide_eq_false i1
    have i0 : (0 : Int) ≤ (i : Int) := by omega
    have hd0 : decide ((0 : Int) ≤ (i : Int)) = true := decide_eq_true i0
    clear hres hc hf h32 hr0 hin
    go_enter Tryz.func34, Tryz.ntmps34
    go_upto_region 1 with (fail)
    rw [← hW]
    clear hW
    go_wp2_with (fail)
    go_ret
    exact ⟨rfl, G0.out⟩

set_option maxRecDepth 40000 in
set_option maxHeartbeats 3200000 in
theorem has4_any (c : Cf) (w : World) (hc : CfV w c) (hf : FitCf c) (row : Nat) (h32 : row ≤ 1000) : Calls Tryz.prog 34 #[cfv c, .int .i64 4, .int .i64 row] w fun e w' => e = .returned (.bool (decide (1 ≤ row ∧ row ≤ c.wn) && badW c (c.wd (row - 1)))) ∧ w.grownBy w' none := by
  obtain ⟨W1, hW, G0, hA⟩ := box1 w 26 #[.int .i64 c.fr, .slice c.wA c.wn c.wc, .slice c.sA c.sn c.sc, .slice c.cA c.cn c.cc]
  obtain ⟨k0, k1, k2, k3⟩ := cf_cells (c := c) hA
  replace G0 := Lib.hid G0
  show Calls Tryz.prog 34 #[.agg #[.int .i64 c.fr, .slice c.wA c.wn c.wc, .slice c.sA c.sn c.sc, .slice c.cA c.cn c.cc], .int .i64 4, .int .i64 row] w _
  clear hA
  by_cases hr0 : row = 0
  · subst hr0
    clear hc hf h32
    go_enter Tryz.func34, Tryz.ntmps34
    go_upto_region 1 with (fail)
    rw [← hW]
    clear hW
    go_upto_region 14 with (fail)
    have j0 := fun dd os => cell_regrown k0 dd os
    have j1 := fun dd os => cell_regrown k1 dd os
    have j2 := fun dd os => cell_regrown k2 dd os
    have j3 := fun dd os => cell_regrown k3 dd os
    clear k0 k1 k2 k3
    refine wp_region_quiet_below (by kernel_rfl) (by kernel_rfl) ?_
    repeat (go_big_quiet_step ((fail)))
    refine wpQuiet_nil ?_
    intro w3 hw3
    obtain ⟨p, rfl⟩ := hw3
    have G3 := Lib.hid (only_trans G0.out (only_re W1 p.d p.os))
    clear j0 j1 j2 j3
    generalize grow (redrawn W1 p.d) p.os = w3 at G3 ⊢
    go_wp2
    go_ret
    exact ⟨by simp, G3.out⟩
  by_cases hin : row ≤ c.wn
  · obtain ⟨i, rfl⟩ : ∃ i, row = i + 1 := ⟨row - 1, by omega⟩
    have hrow := hc.1
    have hfit := hf.2.1
    have hi : i < c.wn := by omega
    have hq := fun (W : World) (hW' : W1.grownBy W none) => (show Calls Tryz.prog 55 #[.agg #[.int .i64 c.fr, .slice c.wA c.wn c.wc, .slice c.sA c.sn c.sc, .slice c.cA c.cn c.cc], .agg #[.int .i64 (c.wd i).1, .int .i64 (c.wd i).2.1, .int .i64 (c.wd i).2.2]] W (fun e w' => e = .returned (.bool (badW c (c.wd i))) ∧ W.grownBy w' none) from rbadw_any c (c.wd i) W)
    have HQ := Lib.hid hq
    obtain ⟨b, off, hA, hb, hcl⟩ := (hrow.grown G0.out).2 (by omega)
    have hcell := hcl i hi
    have hres : (decide (1 ≤ i + 1 ∧ i + 1 ≤ c.wn) && badW c (c.wd (i + 1 - 1))) = badW c (c.wd i) := by
      rw [Nat.add_sub_cancel, decide_eq_true (by omega), Bool.true_and]
    rw [hres]
    have hw : IntKind.i64.wrap (((i + 1 : Nat) : Int) - 1) = (i : Int) := by rw [IntKind.wrap_i64]; omega
    generalize ((i + 1 : Nat) : Int) = r at hw HQ ⊢
    obtain ⟨z, hz⟩ : ∃ z, z = (badW c (c.wd i)) := ⟨_, rfl⟩
    rw [← hz] at HQ ⊢
    clear hz hres hq
    obtain ⟨fr, wA, wn, wc, wd, sA, sn, sc, sd, cA, cn, cc, cd⟩ := c
    simp only at hA hcell hi k0 k1 k2 k3 HQ hW ⊢
    subst hA
    have i1 : (i : Int) < (wn : Int) := by omega
    have hd1 : decide ((i : Int) < (wn : Int)) = true := decide_eq_true i1
    have i0 : (0 : Int) ≤ (i : Int) := by omega
    have hd0 : decide ((0 : Int) ≤ (i : Int)) = true := decide_eq_true i0
    clear hrow hcl hfit hc hf h32 hr0 hin
    obtain ⟨x, hx⟩ : ∃ x, x = wd i := ⟨_, rfl⟩
    rw [← hx] at hcell HQ
    clear hx
    obtain ⟨x1, x2, x3⟩ := x
    obtain ⟨c0, c1, c2⟩ := hcell
    simp only at c0 c1 c2 HQ
    go_enter Tryz.func34, Tryz.ntmps34
    go_upto_region 1 with (fail)
    rw [← hW]
    clear hW
    go_upto_region 14 with (fail)
    have j0 := fun dd os => cell_regrown k0 dd os
    have j1 := fun dd os => cell_regrown k1 dd os
    have j2 := fun dd os => cell_regrown k2 dd os
    have j3 := fun dd os => cell_regrown k3 dd os
    have m0 := fun dd os => cell_regrown c0 dd os
    have m1 := fun dd os => cell_regrown c1 dd os
    have m2 := fun dd os => cell_regrown c2 dd os
    clear k0 k1 k2 k3 c0 c1 c2
    refine wp_region_quiet_below (by kernel_rfl) (by kernel_rfl) ?_
    repeat (go_big_quiet_step ((first | (go_at_call 55; with_reducible exact rg1 (HQ.out _ (only_re W1 _ _))))))
    refine wpQuiet_nil ?_
    intro w3 hw3
    obtain ⟨p, rfl⟩ := hw3
    have G3 := Lib.hid (only_trans G0.out (only_re W1 p.d p.os))
    clear j0 j1 j2 j3 m0 m1 m2
    generalize grow (redrawn W1 p.d) p.os = w3 at G3 ⊢
    go_wp2
    go_ret
    exact ⟨rfl, G3.out⟩
  · obtain ⟨i, rfl⟩ : ∃ i, row = i + 1 := ⟨row - 1, by omega⟩
    have hres : (decide (1 ≤ i + 1 ∧ i + 1 ≤ c.wn) && badW c (c.wd (i + 1 - 1))) = false := by
      rw [decide_eq_false (by omega), Bool.false_and]
    rw [hres]
    have hw : IntKind.i64.wrap (((i + 1 : Nat) : Int) - 1) = (i : Int) := by rw [IntKind.wrap_i64]; omega
    generalize ((i + 1 : Nat) : Int) = r at hw ⊢
    have i1 : ¬ (i : Int) < (c.wn : Int) := by omega
    have hd1 : decide ((i : Int) < (c.wn : Int)) = false := decide_eq_false i1
    have i0 : (0 : Int) ≤ (i : Int) := by omega
    have hd0 : decide ((0 : Int) ≤ (i : Int)) = true := decide_eq_true i0
    clear hres hc hf h32 hr0 hin
    go_enter Tryz.func34, Tryz.ntmps34
    go_upto_region 1 with (fail)
    rw [← hW]
    clear hW
    go_upto_region 14 with (fail)
    have j0 := fun dd os => cell_regrown k0 dd os
    have j1 := fun dd os => cell_regrown k1 dd os
    have j2 := fun dd os => cell_regrown k2 dd os
    have j3 := fun dd os => cell_regrown k3 dd os
    clear k0 k1 k2 k3
    refine wp_region_quiet_below (by kernel_rfl) (by kernel_rfl) ?_
    repeat (go_big_quiet_step ((fail)))
    refine wpQuiet_nil ?_
    intro w3 hw3
    obtain ⟨p, rfl⟩ := hw3
    have G3 := Lib.hid (only_trans G0.out (only_re W1 p.d p.os))
    clear j0 j1 j2 j3
    generalize grow (redrawn W1 p.d) p.os = w3 at G3 ⊢
    go_wp2
    go_ret
    exact ⟨by simp, G3.out⟩

set_option maxRecDepth 40000 in
set_option maxHeartbeats 3200000 in
theorem has8_any (c : Cf) (w : World) (hc : CfV w c) (hf : FitCf c) (row : Nat) (h32 : row ≤ 1000) : Calls Tryz.prog 34 #[cfv c, .int .i64 8, .int .i64 row] w fun e w' => e = .returned (.bool (decide (1 ≤ row ∧ row ≤ c.sn) && badS c (c.sd (row - 1)))) ∧ w.grownBy w' none := by
  obtain ⟨W1, hW, G0, hA⟩ := box1 w 26 #[.int .i64 c.fr, .slice c.wA c.wn c.wc, .slice c.sA c.sn c.sc, .slice c.cA c.cn c.cc]
  obtain ⟨k0, k1, k2, k3⟩ := cf_cells (c := c) hA
  replace G0 := Lib.hid G0
  show Calls Tryz.prog 34 #[.agg #[.int .i64 c.fr, .slice c.wA c.wn c.wc, .slice c.sA c.sn c.sc, .slice c.cA c.cn c.cc], .int .i64 8, .int .i64 row] w _
  clear hA
  by_cases hr0 : row = 0
  · subst hr0
    clear hc hf h32
    go_enter Tryz.func34, Tryz.ntmps34
    go_upto_region 1 with (fail)
    rw [← hW]
    clear hW
    go_upto_region 38 with (fail)
    have j0 := fun dd os => cell_regrown k0 dd os
    have j1 := fun dd os => cell_regrown k1 dd os
    have j2 := fun dd os => cell_regrown k2 dd os
    have j3 := fun dd os => cell_regrown k3 dd os
    clear k0 k1 k2 k3
    refine wp_region_quiet_below (by kernel_rfl) (by kernel_rfl) ?_
    repeat (go_big_quiet_step ((fail)))
    refine wpQuiet_nil ?_
    intro w3 hw3
    obtain ⟨p, rfl⟩ := hw3
    have G3 := Lib.hid (only_trans G0.out (only_re W1 p.d p.os))
    clear j0 j1 j2 j3
    generalize grow (redrawn W1 p.d) p.os = w3 at G3 ⊢
    go_wp2
    go_ret
    exact ⟨by simp, G3.out⟩
  by_cases hin : row ≤ c.sn
  · obtain ⟨i, rfl⟩ : ∃ i, row = i + 1 := ⟨row - 1, by omega⟩
    have hrow := hc.2.1
    have hfit := hf.2.2.1
    have hi : i < c.sn := by omega
    have hq := fun (W : World) (hW' : W1.grownBy W none) => (show Calls Tryz.prog 57 #[.agg #[.int .i64 c.fr, .slice c.wA c.wn c.wc, .slice c.sA c.sn c.sc, .slice c.cA c.cn c.cc], .agg #[.int .i64 (c.sd i).1, .int .i64 (c.sd i).2.1, .int .i64 (c.sd i).2.2]] W (fun e w' => e = .returned (.bool (badS c (c.sd i))) ∧ W.grownBy w' none) from rbads_any c (c.sd i) hf.1 W)
    have HQ := Lib.hid hq
    obtain ⟨b, off, hA, hb, hcl⟩ := (hrow.grown G0.out).2 (by omega)
    have hcell := hcl i hi
    have hres : (decide (1 ≤ i + 1 ∧ i + 1 ≤ c.sn) && badS c (c.sd (i + 1 - 1))) = badS c (c.sd i) := by
      rw [Nat.add_sub_cancel, decide_eq_true (by omega), Bool.true_and]
    rw [hres]
    have hw : IntKind.i64.wrap (((i + 1 : Nat) : Int) - 1) = (i : Int) := by rw [IntKind.wrap_i64]; omega
    generalize ((i + 1 : Nat) : Int) = r at hw HQ ⊢
    obtain ⟨z, hz⟩ : ∃ z, z = (badS c (c.sd i)) := ⟨_, rfl⟩
    rw [← hz] at HQ ⊢
    clear hz hres hq
    obtain ⟨fr, wA, wn, wc, wd, sA, sn, sc, sd, cA, cn, cc, cd⟩ := c
    simp only at hA hcell hi k0 k1 k2 k3 HQ hW ⊢
    subst hA
    have i1 : (i : Int) < (sn : Int) := by omega
    have hd1 : decide ((i : Int) < (sn : Int)) = true := decide_eq_true i1
    have i0 : (0 : Int) ≤ (i : Int) := by omega
    have hd0 : decide ((0 : Int) ≤ (i : Int)) = true := decide_eq_true i0
    clear hrow hcl hfit hc hf h32 hr0 hin
    obtain ⟨x, hx⟩ : ∃ x, x = sd i := ⟨_, rfl⟩
    rw [← hx] at hcell HQ
    clear hx
    obtain ⟨x1, x2, x3⟩ := x
    obtain ⟨c0, c1, c2⟩ := hcell
    simp only at c0 c1 c2 HQ
    go_enter Tryz.func34, Tryz.ntmps34
    go_upto_region 1 with (fail)
    rw [← hW]
    clear hW
    go_upto_region 38 with (fail)
    have j0 := fun dd os => cell_regrown k0 dd os
    have j1 := fun dd os => cell_regrown k1 dd os
    have j2 := fun dd os => cell_regrown k2 dd os
    have j3 := fun dd os => cell_regrown k3 dd os
    have m0 := fun dd os => cell_regrown c0 dd os
    have m1 := fun dd os => cell_regrown c1 dd os
    have m2 := fun dd os => cell_regrown c2 dd os
    clear k0 k1 k2 k3 c0 c1 c2
    refine wp_region_quiet_below (by kernel_rfl) (by kernel_rfl) ?_
    repeat (go_big_quiet_step ((first | (go_at_call 57; with_reducible exact rg1 (HQ.out _ (only_re W1 _ _))))))
    refine wpQuiet_nil ?_
    intro w3 hw3
    obtain ⟨p, rfl⟩ := hw3
    have G3 := Lib.hid (only_trans G0.out (only_re W1 p.d p.os))
    clear j0 j1 j2 j3 m0 m1 m2
    generalize grow (redrawn W1 p.d) p.os = w3 at G3 ⊢
    go_wp2
    go_ret
    exact ⟨rfl, G3.out⟩
  · obtain ⟨i, rfl⟩ : ∃ i, row = i + 1 := ⟨row - 1, by omega⟩
    have hres : (decide (1 ≤ i + 1 ∧ i + 1 ≤ c.sn) && badS c (c.sd (i + 1 - 1))) = false := by
      rw [decide_eq_false (by omega), Bool.false_and]
    rw [hres]
    have hw : IntKind.i64.wrap (((i + 1 : Nat) : Int) - 1) = (i : Int) := by rw [IntKind.wrap_i64]; omega
    generalize ((i + 1 : Nat) : Int) = r at hw ⊢
    have i1 : ¬ (i : Int) < (c.sn : Int) := by omega
    have hd1 : decide ((i : Int) < (c.sn : Int)) = false := decide_eq_false i1
    have i0 : (0 : Int) ≤ (i : Int) := by omega
    have hd0 : decide ((0 : Int) ≤ (i : Int)) = true := decide_eq_true i0
    clear hres hc hf h32 hr0 hin
    go_enter Tryz.func34, Tryz.ntmps34
    go_upto_region 1 with (fail)
    rw [← hW]
    clear hW
    go_upto_region 38 with (fail)
    have j0 := fun dd os => cell_regrown k0 dd os
    have j1 := fun dd os => cell_regrown k1 dd os
    have j2 := fun dd os => cell_regrown k2 dd os
    have j3 := fun dd os => cell_regrown k3 dd os
    clear k0 k1 k2 k3
    refine wp_region_quiet_below (by kernel_rfl) (by kernel_rfl) ?_
    repeat (go_big_quiet_step ((fail)))
    refine wpQuiet_nil ?_
    intro w3 hw3
    obtain ⟨p, rfl⟩ := hw3
    have G3 := Lib.hid (only_trans G0.out (only_re W1 p.d p.os))
    clear j0 j1 j2 j3
    generalize grow (redrawn W1 p.d) p.os = w3 at G3 ⊢
    go_wp2
    go_ret
    exact ⟨by simp, G3.out⟩

set_option maxRecDepth 40000 in
set_option maxHeartbeats 3200000 in
theorem has10_any (c : Cf) (w : World) (hc : CfV w c) (hf : FitCf c) (row : Nat) (h32 : row ≤ 1000) : Calls Tryz.prog 34 #[cfv c, .int .i64 10, .int .i64 row] w fun e w' => e = .returned (.bool (decide (1 ≤ row ∧ row ≤ c.cn) && decide (unitsV c row < (c.cd (row - 1)).quota))) ∧ w.grownBy w' none := by
  obtain ⟨W1, hW, G0, hA⟩ := box1 w 26 #[.int .i64 c.fr, .slice c.wA c.wn c.wc, .slice c.sA c.sn c.sc, .slice c.cA c.cn c.cc]
  obtain ⟨k0, k1, k2, k3⟩ := cf_cells (c := c) hA
  replace G0 := Lib.hid G0
  show Calls Tryz.prog 34 #[.agg #[.int .i64 c.fr, .slice c.wA c.wn c.wc, .slice c.sA c.sn c.sc, .slice c.cA c.cn c.cc], .int .i64 10, .int .i64 row] w _
  clear hA
  by_cases hr0 : row = 0
  · subst hr0
    clear hc hf h32
    go_enter Tryz.func34, Tryz.ntmps34
    go_upto_region 1 with (fail)
    rw [← hW]
    clear hW
    go_upto_region 47 with (fail)
    have j0 := fun dd os => cell_regrown k0 dd os
    have j1 := fun dd os => cell_regrown k1 dd os
    have j2 := fun dd os => cell_regrown k2 dd os
    have j3 := fun dd os => cell_regrown k3 dd os
    clear k0 k1 k2 k3
    refine wp_region_quiet_below (by kernel_rfl) (by kernel_rfl) ?_
    repeat (go_big_quiet_step ((fail)))
    refine wpQuiet_nil ?_
    intro w3 hw3
    obtain ⟨p, rfl⟩ := hw3
    have G3 := Lib.hid (only_trans G0.out (only_re W1 p.d p.os))
    clear j0 j1 j2 j3
    generalize grow (redrawn W1 p.d) p.os = w3 at G3 ⊢
    go_wp2
    go_ret
    exact ⟨by simp, G3.out⟩
  by_cases hin : row ≤ c.cn
  · obtain ⟨i, rfl⟩ : ∃ i, row = i + 1 := ⟨row - 1, by omega⟩
    have hrow := hc.2.2
    have hfit := hf.2.2.2
    have hi : i < c.cn := by omega
    have hq := fun (W : World) (hW' : W1.grownBy W none) => (show Calls Tryz.prog 58 #[.agg #[.int .i64 c.fr, .slice c.wA c.wn c.wc, .slice c.sA c.sn c.sc, .slice c.cA c.cn c.cc], .int .i64 ((i + 1 : Nat) : Int)] W (fun e w' => e = .returned (.int .i64 (unitsV c (i + 1 : Nat))) ∧ W.grownBy w' none) from runits_any c ((i + 1 : Nat) : Int) W (hc.grown (only_trans G0.out hW')) hf)
    have HQ := Lib.hid hq
    obtain ⟨b, off, hA, hb, hcl⟩ := (hrow.grown G0.out).2 (by omega)
    have hcell := hcl i hi
    have hres : (decide (1 ≤ i + 1 ∧ i + 1 ≤ c.cn) && decide (unitsV c (i + 1 : Nat) < (c.cd (i + 1 - 1)).quota)) = decide (unitsV c (i + 1 : Nat) < (c.cd i).quota) := by
      rw [Nat.add_sub_cancel, decide_eq_true (by omega), Bool.true_and]
    rw [hres]
    have hw : IntKind.i64.wrap (((i + 1 : Nat) : Int) - 1) = (i : Int) := by rw [IntKind.wrap_i64]; omega
    generalize ((i + 1 : Nat) : Int) = r at hw HQ ⊢
    obtain ⟨z, hz⟩ : ∃ z, z = (unitsV c r) := ⟨_, rfl⟩
    rw [← hz] at HQ ⊢
    clear hz hres hq
    obtain ⟨q, hqq⟩ : ∃ q, q = (c.cd i).quota := ⟨_, rfl⟩
    rw [← hqq]
    obtain ⟨fr, wA, wn, wc, wd, sA, sn, sc, sd, cA, cn, cc, cd⟩ := c
    simp only at hA hcell hi k0 k1 k2 k3 HQ hW hqq ⊢
    subst hA
    have i1 : (i : Int) < (cn : Int) := by omega
    have hd1 : decide ((i : Int) < (cn : Int)) = true := decide_eq_true i1
    have i0 : (0 : Int) ≤ (i : Int) := by omega
    have hd0 : decide ((0 : Int) ≤ (i : Int)) = true := decide_eq_true i0
    clear hrow hcl hfit hc hf h32 hr0 hin
    obtain ⟨x, hx⟩ : ∃ x, x = cd i := ⟨_, rfl⟩
    rw [← hx] at hcell hqq
    clear hx
    obtain ⟨x1, x2, x3, x4, x5, x6, x7, x8, x9, x10⟩ := x
    obtain ⟨c0, c1, c2, c3, c4, c5, c6, c7, c8, c9⟩ := hcell
    simp only at c0 c1 c2 c3 c4 c5 c6 c7 c8 c9 HQ hqq
    subst hqq
    go_enter Tryz.func34, Tryz.ntmps34
    go_upto_region 1 with (fail)
    rw [← hW]
    clear hW
    go_upto_region 47 with (fail)
    have j0 := fun dd os => cell_regrown k0 dd os
    have j1 := fun dd os => cell_regrown k1 dd os
    have j2 := fun dd os => cell_regrown k2 dd os
    have j3 := fun dd os => cell_regrown k3 dd os
    have m0 := fun dd os => cell_regrown c0 dd os
    have m1 := fun dd os => cell_regrown c1 dd os
    have m2 := fun dd os => cell_regrown c2 dd os
    have m3 := fun dd os => cell_regrown c3 dd os
    have m4 := fun dd os => cell_regrown c4 dd os
    have m5 := fun dd os => cell_regrown c5 dd os
    have m6 := fun dd os => cell_regrown c6 dd os
    have m7 := fun dd os => cell_regrown c7 dd os
    have m8 := fun dd os => cell_regrown c8 dd os
    have m9 := fun dd os => cell_regrown c9 dd os
    clear k0 k1 k2 k3 c0 c1 c2 c3 c4 c5 c6 c7 c8 c9
    refine wp_region_quiet_below (by kernel_rfl) (by kernel_rfl) ?_
    repeat (go_big_quiet_step ((first | (go_at_call 58; with_reducible exact rg1 (HQ.out _ (only_re W1 _ _))))))
    refine wpQuiet_nil ?_
    intro w3 hw3
    obtain ⟨p, rfl⟩ := hw3
    have G3 := Lib.hid (only_trans G0.out (only_re W1 p.d p.os))
    clear j0 j1 j2 j3 m0 m1 m2 m3 m4 m5 m6 m7 m8 m9
    generalize grow (redrawn W1 p.d) p.os = w3 at G3 ⊢
    go_wp2
    go_ret
    exact ⟨by simp, G3.out⟩
  · obtain ⟨i, rfl⟩ : ∃ i, row = i + 1 := ⟨row - 1, by omega⟩
    have hres : (decide (1 ≤ i + 1 ∧ i + 1 ≤ c.cn) && decide (unitsV c (i + 1 : Nat) < (c.cd (i + 1 - 1)).quota)) = false := by
      rw [decide_eq_false (by omega), Bool.false_and]
    rw [hres]
    have hw : IntKind.i64.wrap (((i + 1 : Nat) : Int) - 1) = (i : Int) := by rw [IntKind.wrap_i64]; omega
    generalize ((i + 1 : Nat) : Int) = r at hw ⊢
    have i1 : ¬ (i : Int) < (c.cn : Int) := by omega
    have hd1 : decide ((i : Int) < (c.cn : Int)) = false := decide_eq_false i1
    have i0 : (0 : Int) ≤ (i : Int) := by omega
    have hd0 : decide ((0 : Int) ≤ (i : Int)) = true := decide_eq_true i0
    clear hres hc hf h32 hr0 hin
    go_enter Tryz.func34, Tryz.ntmps34
    go_upto_region 1 with (fail)
    rw [← hW]
    clear hW
    go_upto_region 47 with (fail)
    have j0 := fun dd os => cell_regrown k0 dd os
    have j1 := fun dd os => cell_regrown k1 dd os
    have j2 := fun dd os => cell_regrown k2 dd os
    have j3 := fun dd os => cell_regrown k3 dd os
    clear k0 k1 k2 k3
    refine wp_region_quiet_below (by kernel_rfl) (by kernel_rfl) ?_
    repeat (go_big_quiet_step ((fail)))
    refine wpQuiet_nil ?_
    intro w3 hw3
    obtain ⟨p, rfl⟩ := hw3
    have G3 := Lib.hid (only_trans G0.out (only_re W1 p.d p.os))
    clear j0 j1 j2 j3
    generalize grow (redrawn W1 p.d) p.os = w3 at G3 ⊢
    go_wp2
    go_ret
    exact ⟨by simp, G3.out⟩
end Go.Proofs.YtfhhcpmoaggdmaaGreat

/- The document's word on one fault of one row, by its contract: 6, 7. -/
namespace Go.Proofs.YtfhhcpmoaggdmaaGreat
open Go.RowKit Go.Lib Go.Sort
set_option linter.unusedVariables false

theorem fwI_at {c : Cf} {o : Int} {i : Nat} (hi : i < c.wn) (h : (c.wd i).1 = o) (hb : ∀ k, k < i → (c.wd k).1 ≠ o) : fwI c o = i := fstI_at hi (decide_eq_true h) (fun k hk => decide_eq_false (hb k hk))
theorem fwI_none {c : Cf} {o : Int} (h : ∀ k, k < c.wn → (c.wd k).1 ≠ o) : fwI c o = -1 := fstI_none (fun k hk => decide_eq_false (h k hk))
theorem shwB_at {c : Cf} {i : Nat} (e : fwI c 0 = i) : shwB c = shV c (c.wd i) := by
  unfold shwB
  rw [e, if_neg (by omega), Int.toNat_natCast]
  unfold shV
  cases badW c (c.wd i) <;> simp
theorem shwB_none {c : Cf} (e : fwI c 0 = -1) : shwB c = false := by
  unfold shwB
  rw [e, if_pos (by omega)]
set_option maxRecDepth 40000 in
set_option maxHeartbeats 3200000 in
theorem has6_any (c : Cf) (w : World) (hc : CfV w c) (hf : FitCf c) (row : Nat) (h32 : row ≤ 1000) : Calls Tryz.prog 34 #[cfv c, .int .i64 6, .int .i64 row] w fun e w' => e = .returned (.bool (decide (row ≤ c.cn) && decide (fwI c row < 0))) ∧ w.grownBy w' none := by
  obtain ⟨W1, hW, G0, hA⟩ := box1 w 26 #[.int .i64 c.fr, .slice c.wA c.wn c.wc, .slice c.sA c.sn c.sc, .slice c.cA c.cn c.cc]
  obtain ⟨k0, k1, k2, k3⟩ := cf_cells (c := c) hA
  have HROW := Lib.hid (hc.1.grown G0)
  replace G0 := Lib.hid G0
  show Calls Tryz.prog 34 #[.agg #[.int .i64 c.fr, .slice c.wA c.wn c.wc, .slice c.sA c.sn c.sc, .slice c.cA c.cn c.cc], .int .i64 6, .int .i64 row] w _
  have HAT := Lib.hid (fun (i : Nat) => fwI_at (c := c) (o := row) (i := i))
  have HNO := Lib.hid (fwI_none (c := c) (o := row))
  generalize fwI c row = q at HAT HNO ⊢
  have hw0 : IntKind.i64.wrap ((row : Int) - 1) = (row : Int) - 1 := by rw [IntKind.wrap_i64]; omega
  have hm : c.wn ≤ 9223372036854775807 := by have := hf.2.1; omega
  clear hA hc hf h32
  go_enter Tryz.func34, Tryz.ntmps34
  go_upto_region 1 with (fail)
  rw [← hW]
  clear hW
  go_wp2
  go_loopw [14] (fun x wr => ∃ i : Nat, x = .int .i64 i ∧ i ≤ c.wn ∧ Hid (∀ k, k < i → (c.wd k).1 ≠ row) ∧ wr = W1) (fun x _ => c.wn - (intOf x).toNat)
  case atStart => exact ⟨0, rfl, by omega, Lib.hid (fun k hk => absurd hk (by omega)), rfl⟩
  case round =>
    obtain ⟨i, rfl, hi, HN, rfl⟩ := hrel
    by_cases hin : i < c.wn
    · have i1 : (i : Int) < (c.wn : Int) := by omega
      obtain ⟨b, off, hwA, hb, hcl⟩ := HROW.out.2 (by omega)
      obtain ⟨c0, _, _⟩ := hcl i hin
      rw [hwA] at k1
      have HX := Lib.hid (HAT.out i hin)
      have HX2 := Lib.hid (show ((c.wd i).1 ≠ row → ∀ k, k < i + 1 → (c.wd k).1 ≠ row) from fun h k hk => by
        by_cases e : k = i
        · rw [e]; exact h
        · exact HN.out k (by omega))
      clear hcl hb
      generalize (c.wd i).1 = o at c0 HX HX2
      by_cases ho : o = row
      · have hd : (o == (row : Int)) = true := by simpa using ho
        have hq := HX.out ho HN.out
        have HQ := Lib.hid hq
        clear hq
        go_wp2
        go_ret
        refine ⟨ret_bool ?_, G0.out⟩
        rw [HQ.out, decide_eq_false (show ¬ (i : Int) < 0 by omega), Bool.and_false]
      · have hd : (o == (row : Int)) = false := by simpa using ho
        go_wp2
        go_roundw
        case rel => exact ⟨i + 1, by go_num, by omega, Lib.hid (HX2.out ho), (by first | rfl | trivial)⟩
        case measure => simp [intOf] <;> omega
    · obtain rfl : i = c.wn := by omega
      have i1 : ¬ (c.wn : Int) < (c.wn : Int) := by omega
      have HQ := Lib.hid (HNO.out HN.out)
      go_wp2
      go_ret
      refine ⟨ret_bool ?_, G0.out⟩
      rw [HQ.out, decide_eq_true (show (-1 : Int) < 0 by omega), Bool.and_true]
      try (rw [Bool.eq_iff_iff]; simp)
set_option maxRecDepth 40000 in
set_option maxHeartbeats 3200000 in
theorem has7_any (c : Cf) (w : World) (hc : CfV w c) (hf : FitCf c) (row : Nat) (h32 : row ≤ 1000) (hcn : c.cn ≤ 1000) : Calls Tryz.prog 34 #[cfv c, .int .i64 7, .int .i64 row] w fun e w' => e = .returned (.bool (decide (row = 0) && shwB c)) ∧ w.grownBy w' none := by
  obtain ⟨W1, hW, G0, hA⟩ := box1 w 26 #[.int .i64 c.fr, .slice c.wA c.wn c.wc, .slice c.sA c.sn c.sc, .slice c.cA c.cn c.cc]
  obtain ⟨k0, k1, k2, k3⟩ := cf_cells (c := c) hA
  have HROW := Lib.hid (hc.1.grown G0)
  replace G0 := Lib.hid G0
  show Calls Tryz.prog 34 #[.agg #[.int .i64 c.fr, .slice c.wA c.wn c.wc, .slice c.sA c.sn c.sc, .slice c.cA c.cn c.cc], .int .i64 7, .int .i64 row] w _
  have hw0 : IntKind.i64.wrap ((row : Int) - 1) = (row : Int) - 1 := by rw [IntKind.wrap_i64]; omega
  have hfr := hf.1
  have HBW := Lib.hid (fun (x : W3) (W : World) => (show Calls Tryz.prog 55 #[.agg #[.int .i64 c.fr, .slice c.wA c.wn c.wc, .slice c.sA c.sn c.sc, .slice c.cA c.cn c.cc], .agg #[.int .i64 x.1, .int .i64 x.2.1, .int .i64 x.2.2]] W (fun e w' => e = .returned (.bool (badW c x)) ∧ W.grownBy w' none) from rbadw_any c x W))
  have HBN := Lib.hid (fun (x : W3) => badW_no (c := c) (x := x))
  have hm : c.wn ≤ 9223372036854775807 := by have := hf.2.1; omega
  clear hA hc hf h32
  by_cases hr : row = 0
  · subst hr
    have hd9 : (decide ((0 : Nat) = 0) && shwB c) = shwB c := by simp
    rw [hd9]
    clear hd9
    have HAT := Lib.hid (fun (i : Nat) (hi : i < c.wn) (h : (c.wd i).1 = 0) hb => shwB_at (fwI_at (c := c) (o := 0) hi h hb))
    have HNO := Lib.hid (fun h => shwB_none (fwI_none (c := c) (o := 0) h))
    generalize shwB c = z at HAT HNO ⊢
    go_enter Tryz.func34, Tryz.ntmps34
    go_upto_region 1 with (fail)
    rw [← hW]
    clear hW
    go_wp2
    go_loopw [15] (fun x wr => ∃ i : Nat, x = .int .i64 i ∧ i ≤ c.wn ∧ Hid (∀ k, k < i → (c.wd k).1 ≠ 0) ∧ wr = W1) (fun x _ => c.wn - (intOf x).toNat)
    case atStart => exact ⟨0, rfl, by omega, Lib.hid (fun k hk => absurd hk (by omega)), rfl⟩
    case round =>
      obtain ⟨i, rfl, hi, HN, rfl⟩ := hrel
      by_cases hin : i < c.wn
      · have i1 : (i : Int) < (c.wn : Int) := by omega
        have i0 : (0 : Int) ≤ (i : Int) := by omega
        obtain ⟨b, off, hwA, hb, hcl⟩ := HROW.out.2 (by omega)
        obtain ⟨c0, c1, c2⟩ := hcl i hin
        rw [hwA] at k1
        have HX := Lib.hid (HAT.out i hin)
        have HX2 := Lib.hid (show ((c.wd i).1 ≠ 0 → ∀ k, k < i + 1 → (c.wd k).1 ≠ 0) from fun h k hk => by
          by_cases e : k = i
          · rw [e]; exact h
          · exact HN.out k (by omega))
        have hbn := HBN.out (c.wd i)
        have HBX := Lib.hid (HBW.out (c.wd i))
        unfold shV at HX
        clear hcl hb
        generalize c.wd i = x at c0 c1 c2 HX HX2 hbn HBX
        obtain ⟨x1, x2, x3⟩ := x
        simp only at c0 c1 c2 HX HX2 hbn HBX
        rw [hwA] at HBX
        by_cases ho : x1 = 0
        · subst ho
          have HQ := Lib.hid (HX.out rfl HN.out)
          clear HX HX2
          generalize badW c (0, x2, x3) = r2 at hbn HBX HQ
          have hw1 : r2 = false → IntKind.i64.wrap (x3 - x2) = x3 - x2 := fun h => by
            have := hbn.1 h
            unfold fitI at hfr
            rw [IntKind.wrap_i64]
            omega
          have hw2 : IntKind.i64.wrap (2 * (c.cn : Int)) = 2 * (c.cn : Int) := by rw [IntKind.wrap_i64]; omega
          clear hbn
          have HC1 := Lib.hid c1
          have HC2 := Lib.hid c2
          have HK := Lib.hid (And.intro k0 (And.intro k1 (And.intro k2 k3)))
          go_upto_region 35 with (fail)
          have j0 := fun dd os => cell_regrown k0 dd os
          have j1 := fun dd os => cell_regrown k1 dd os
          have j2 := fun dd os => cell_regrown k2 dd os
          have j3 := fun dd os => cell_regrown k3 dd os
          have m0 := fun dd os => cell_regrown c0 dd os
          have m1 := fun dd os => cell_regrown c1 dd os
          have m2 := fun dd os => cell_regrown c2 dd os
          clear k0 k1 k2 k3 c0 c1 c2
          cases r2 <;> (
            try replace hw1 := hw1 rfl
            refine wp_region_quiet_below (by kernel_rfl) (by kernel_rfl) ?_
            repeat (go_big_quiet_step ((first | (go_at_call 55; with_reducible exact rg1 (HBX.out _)))))
            refine wpQuiet_nil ?_
            intro w3 hw3
            obtain ⟨p, rfl⟩ := hw3
            have G3 := Lib.hid (only_trans G0.out (only_re wr p.d p.os))
            clear j0 j1 j2 j3 m0 m1 m2
            generalize grow (redrawn wr p.d) p.os = w3 at G3 ⊢
            go_wp2
            go_ret
            exact ⟨by rw [HQ.out]; simp, G3.out⟩)
        · have hd : (x1 == 0) = false := by simpa using ho
          clear HX HBX hbn
          go_wp2
          go_roundw
          case rel => exact ⟨i + 1, by go_num, by omega, Lib.hid (HX2.out ho), (by first | rfl | trivial)⟩
          case measure => simp [intOf] <;> omega
      · obtain rfl : i = c.wn := by omega
        have i1 : ¬ (c.wn : Int) < (c.wn : Int) := by omega
        have HQ := Lib.hid (HNO.out HN.out)
        go_wp2
        go_ret
        exact ⟨ret_bool HQ.out.symm, G0.out⟩
  · have hd : ((row : Int) == 0) = false := by simp; omega
    have hd9 : (decide (row = 0) && shwB c) = false := by simp [hr]
    rw [hd9]
    clear hd9 HBW HBN
    go_enter Tryz.func34, Tryz.ntmps34
    go_upto_region 1 with (fail)
    rw [← hW]
    clear hW
    go_wp2
    go_loopw [15] (fun x wr => x = .int .i64 0 ∧ wr = W1) (fun x _ => 0)
    case atStart => exact ⟨rfl, rfl⟩
    case round =>
      obtain ⟨rfl, rfl⟩ := hrel
      by_cases h0 : 0 < c.wn
      · have i1 : (0 : Int) < (c.wn : Int) := by omega
        go_wp2
        go_ret
        exact ⟨rfl, G0.out⟩
      · have i1 : ¬ (0 : Int) < (c.wn : Int) := by omega
        go_wp2
        go_ret
        exact ⟨rfl, G0.out⟩
end Go.Proofs.YtfhhcpmoaggdmaaGreat

/- The document's word on one fault of one row, by its contract: 9. -/
namespace Go.Proofs.YtfhhcpmoaggdmaaGreat
open Go.RowKit Go.Lib Go.Sort
set_option linter.unusedVariables false

theorem two_blk {w : World} {g : Nat} {t : TypeId} {cs : Array Value} (h : Blk w g t cs) (o1 o2 : Obj) : Blk ((w.alloc o1).alloc o2).drew g t cs := ((h.alloc o1).alloc o2).drewN 1
theorem two_only (w : World) (o1 o2 : Obj) : w.grownBy ((w.alloc o1).alloc o2).drew none := only_drewN (only_alloc (only_alloc (only_refl _ _) _) _) 1
set_option maxRecDepth 40000 in
set_option maxHeartbeats 6400000 in
theorem has9_any (c : Cf) (w : World) (hc : CfV w c) (hf : FitCf c) (row : Nat) (h32 : row ≤ 1000) : Calls Tryz.prog 34 #[cfv c, .int .i64 9, .int .i64 row] w fun e w' => e = .returned (.bool (decide (1 ≤ row ∧ row ≤ c.sn) && anyB (fun k => sM (c.sd (row - 1)) (c.sd k)) (row - 1))) ∧ w.grownBy w' none := by
  obtain ⟨W1, hW, G0, hA⟩ := box1 w 26 #[.int .i64 c.fr, .slice c.wA c.wn c.wc, .slice c.sA c.sn c.sc, .slice c.cA c.cn c.cc]
  obtain ⟨k0, k1, k2, k3⟩ := cf_cells (c := c) hA
  have HA := Lib.hid (show BoxC W1 w.heap.size c from hA)
  have HROW := Lib.hid (hc.2.1.grown G0)
  replace G0 := Lib.hid G0
  show Calls Tryz.prog 34 #[.agg #[.int .i64 c.fr, .slice c.wA c.wn c.wc, .slice c.sA c.sn c.sc, .slice c.cA c.cn c.cc], .int .i64 9, .int .i64 row] w _
  have hm : c.sn ≤ 9223372036854775807 := by have := hf.2.2.1; omega
  clear hA hc hf
  by_cases hr0 : row = 0
  · subst hr0
    go_enter Tryz.func34, Tryz.ntmps34
    go_upto_region 1 with (fail)
    rw [← hW]
    clear hW
    go_wp2
    go_loopw [16] (fun x wr => x = .int .i64 0 ∧ wr = W1) (fun x _ => 0)
    case atStart => exact ⟨rfl, rfl⟩
    case round =>
      obtain ⟨rfl, rfl⟩ := hrel
      go_wp2
      go_ret
      exact ⟨by simp, G0.out⟩
  obtain ⟨i, rfl⟩ : ∃ i, row = i + 1 := ⟨row - 1, by omega⟩
  rw [Nat.add_sub_cancel]
  have hw : IntKind.i64.wrap (((i + 1 : Nat) : Int) - 1) = (i : Int) := by rw [IntKind.wrap_i64]; omega
  obtain ⟨r, hr⟩ : ∃ r, r = ((i + 1 : Nat) : Int) := ⟨_, rfl⟩
  rw [← hr] at hw ⊢
  clear hr hr0
  by_cases hin : i < c.sn
  · have hres : (decide (1 ≤ i + 1 ∧ i + 1 ≤ c.sn) && anyB (fun k => sM (c.sd i) (c.sd k)) i) = anyB (fun k => sM (c.sd i) (c.sd k)) i := by
      rw [decide_eq_true (by omega), Bool.true_and]
    rw [hres]
    clear hres
    have HNO := Lib.hid (anyB_no (q := fun k => sM (c.sd i) (c.sd k)) (n := i))
    have HYE := Lib.hid (anyB_iff (q := fun k => sM (c.sd i) (c.sd k)) (n := i))
    generalize anyB (fun k => sM (c.sd i) (c.sd k)) i = z at HNO HYE ⊢
    have i1 : (i : Int) < (c.sn : Int) := by omega
    have i0 : (0 : Int) ≤ (i : Int) := by omega
    go_enter Tryz.func34, Tryz.ntmps34
    go_upto_region 1 with (fail)
    rw [← hW]
    clear hW
    go_wp2
    clear k0 k1 k2 k3
    go_loopw [16] (fun x wr => ∃ k : Nat, x = .int .i64 k ∧ k ≤ i ∧ Hid (∀ j, j < k → sM (c.sd i) (c.sd j) = false) ∧ Hid (BoxC wr w.heap.size c) ∧ Hid (W1.grownBy wr none)) (fun x _ => i - (intOf x).toNat)
    case atStart => exact ⟨0, rfl, by omega, Lib.hid (fun k hk => absurd hk (by omega)), HA, Lib.hid (only_refl _ _)⟩
    case round =>
      obtain ⟨k, rfl, hk, HN, HAW, HG⟩ := hrel
      obtain ⟨k0, k1, k2, k3⟩ := cf_cells HAW.out
      by_cases hki : k < i
      · have l1 : (k : Int) < (i : Int) := by omega
        have l2 : (k : Int) < (c.sn : Int) := by omega
        have l0 : (0 : Int) ≤ (k : Int) := by omega
        obtain ⟨b, off, hsA, hb, hcl⟩ := (HROW.out.grown HG.out).2 (by omega)
        obtain ⟨c0, c1, c2⟩ := hcl i hin
        obtain ⟨d0, d1, d2⟩ := hcl k (by omega)
        rw [hsA] at k2
        clear hsA
        have HX := Lib.hid (show sM (c.sd i) (c.sd k) = true → z = true from fun h => HYE.out.2 ⟨k, hki, h⟩)
        have HX2 := Lib.hid (show sM (c.sd i) (c.sd k) = false → ∀ j, j < k + 1 → sM (c.sd i) (c.sd j) = false from fun h j hj => by
          by_cases e : j = k
          · rw [e]; exact h
          · exact HN.out j (by omega))
        have hn0 : w.heap.size < wr.heap.size := HAW.out.lt
        clear hcl HN
        have hgo : ∃ sx sy, sx = c.sd i ∧ sy = c.sd k := ⟨_, _, rfl, rfl⟩
        obtain ⟨sx, sy, hsx, hsy⟩ := hgo
        rw [← hsx] at c0 c1 c2 HX HX2
        rw [← hsy] at d0 d1 d2 HX
        have HX3 := Lib.hid (show sM sx sy = false → _ from by rw [hsx, hsy]; rw [hsx] at HX2; exact HX2.out)
        clear HX2
        obtain ⟨x1, x2, x3⟩ := sx
        obtain ⟨y1, y2, y3⟩ := sy
        simp only at c0 c1 c2 d0 d1 d2
        replace hsx := Lib.hid hsx
        replace hsy := Lib.hid hsy
        have HMT := Lib.hid (fun W => meets_any (x2, x3) (y2, y3) W)
        have hsm : sM (x1, x2, x3) (y1, y2, y3) = meetsB (x2, x3) (y2, y3) := rfl
        rw [hsm] at HX HX3
        clear hsm
        generalize meetsB (x2, x3) (y2, y3) = r2 at HMT HX HX3
        go_upto_region 43 with (fail)
        go_region
        all_goals
          clear c0 c1 c2 d0 d1 d2 k0 k1 k2 k3
          go_wp2_with (go_at_call 56; go_loud (with_reducible refine (HMT.out _).mono ?_); rintro e w5 ⟨rfl, g5⟩; go_loud (have A5 := Lib.hid (Blk.only (two_blk HAW.out _ _) g5 (by simp))); go_loud (have G5 := Lib.hid (only_trans HG.out (only_trans (two_only wr _ _) g5))); clear g5; cases r2)
          · go_roundw
            case rel => exact ⟨k + 1, by go_num, by omega, Lib.hid (HX3.out (by first | rfl | trivial)), A5, G5⟩
            case measure => simp [intOf] <;> omega
          · go_ret
            exact ⟨ret_bool (HX.out (by first | rfl | trivial)).symm, only_trans G0.out G5.out⟩
      · obtain rfl : k = i := by omega
        have l1 : ¬ (k : Int) < (k : Int) := by omega
        have HZ := Lib.hid (HNO.out.2 HN.out)
        clear HN
        go_wp2
        go_ret
        exact ⟨ret_bool HZ.out.symm, only_trans G0.out HG.out⟩
  · have hres : (decide (1 ≤ i + 1 ∧ i + 1 ≤ c.sn) && anyB (fun k => sM (c.sd i) (c.sd k)) i) = false := by
      rw [decide_eq_false (by omega), Bool.false_and]
    rw [hres]
    clear hres
    have i1 : ¬ (i : Int) < (c.sn : Int) := by omega
    go_enter Tryz.func34, Tryz.ntmps34
    go_upto_region 1 with (fail)
    rw [← hW]
    clear hW
    go_wp2
    go_loopw [16] (fun x wr => x = .int .i64 0 ∧ wr = W1) (fun x _ => 0)
    case atStart => exact ⟨rfl, rfl⟩
    case round =>
      obtain ⟨rfl, rfl⟩ := hrel
      by_cases h0 : 0 < i
      · have j1 : (0 : Int) < (i : Int) := by omega
        go_wp2
        go_ret
        exact ⟨rfl, G0.out⟩
      · have j1 : ¬ (0 : Int) < (i : Int) := by omega
        go_wp2
        go_ret
        exact ⟨rfl, G0.out⟩
end Go.Proofs.YtfhhcpmoaggdmaaGreat
