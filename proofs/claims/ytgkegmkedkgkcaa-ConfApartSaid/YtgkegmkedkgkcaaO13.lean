/- Package conf: all that is wrong, by its contract. -/
import Derived.Test.YtgkegmkedkgkcaaO12
namespace Go.Proofs.Ytgkegmkedkgkcaa
open Go.RowKit Go.Lib Go.Sort
set_option linter.unusedVariables false

def fl2 (c : Cf) : List (Int × Int) := askL (fun r => badC (c.cd (r - 1).toNat)) 2 1 c.cn
def fl3 (c : Cf) : List (Int × Int) := askL (fun r => shB (c.cd (r - 1).toNat) c.cd (r - 1).toNat) 3 1 c.cn
def fl4 (c : Cf) : List (Int × Int) := askL (fun r => badW c (c.wd (r - 1).toNat)) 4 1 c.wn
def fl5 (c : Cf) : List (Int × Int) := askL (fun r => anyB (fun k => wM (c.wd (r - 1).toNat) (c.wd k)) (r - 1).toNat) 5 1 c.wn
def fl6 (c : Cf) : List (Int × Int) := askL (fun o => decide (fwI c o < 0)) 6 0 (c.cn + 1)
def fl7 (c : Cf) : List (Int × Int) := askL (fun _ => shwB c) 7 0 1
def fl8 (c : Cf) : List (Int × Int) := askL (fun r => badS c (c.sd (r - 1).toNat)) 8 1 c.sn
def fl9 (c : Cf) : List (Int × Int) := askL (fun r => anyB (fun k => sM (c.sd (r - 1).toNat) (c.sd k)) (r - 1).toNat) 9 1 c.sn
def fl10 (c : Cf) : List (Int × Int) := askL (fun r => decide (unitsV c r < (c.cd (r - 1).toNat).quota)) 10 1 c.cn
/-- All that is wrong, by why, then by row. -/
def fltL (c : Cf) : List (Int × Int) := if frB c then fl2 c ++ fl3 c ++ fl4 c ++ fl5 c ++ fl6 c ++ fl7 c ++ fl8 c ++ fl9 c ++ fl10 c else [(0, 1)]
def FaultsV (c : Cf) (w : World) (e : Ending) (w' : World) : Prop := ∃ v, e = .returned v ∧ RowZ 2 w' v (fltL c).length (flC (fltL c)) ∧ (∀ k, v.ownBlock = some k → w.heap.size ≤ k) ∧ Below w.heap.size w w'
/-- What ask leaves, one kind of faults added. -/
def AskV (b : Nat) (L A : List (Int × Int)) (w : World) (e : Ending) (w' : World) : Prop := e = .returned (.tuple #[]) ∧ FltS w' b (L ++ A) ∧ Below b w w'
def AskC (g b k : Nat) (why f l : Int) (A : List (Int × Int)) (w : World) : Prop := ∀ (W : World) (L : List (Int × Int)), FltS W b L → L.length ≤ 1000 → Below b w W → Calls Try.prog 18 #[.int .i64 why, .int .i64 f, .int .i64 l, .func (.func k) #[] #[.pointer (some ⟨g, 0, none⟩)], .pointer (some ⟨b, 0, none⟩)] W (AskV b L A W)
section
variable {c : Cf} {g b : Nat} {w : World} (hf : FitCf c) (h0 : frB c = true) (hP : ∀ W, Below b w W → CfV W c ∧ BoxC W g c)
include hf h0 hP
theorem asks2 : AskC g b 19 2 1 c.cn (fl2 c) w := fun W L hS hL hb => by
  obtain ⟨q1, q2, q3, q4, q5, q6⟩ := frB_iff.1 h0
  refine (ask2_any b g (fun r => badC (c.cd (r - 1).toNat)) 2 1 c.cn c.cn L W (by omega) (by omega) (by omega) hL hS ?_)
  exact fun i hi W' hW' => by
    obtain ⟨h1, h2⟩ := hP W' (hb.trans hW')
    have e : ((1 : Int) + i - 1).toNat = i := by omega
    have := f2_any c g W' h1 hf h2 i (1 + i) (by omega) hi (by omega)
    simpa only [e] using this
theorem asks3 : AskC g b 21 3 1 c.cn (fl3 c) w := fun W L hS hL hb => by
  obtain ⟨q1, q2, q3, q4, q5, q6⟩ := frB_iff.1 h0
  refine (ask3_any b g (fun r => shB (c.cd (r - 1).toNat) c.cd (r - 1).toNat) 3 1 c.cn c.cn L W (by omega) (by omega) (by omega) hL hS ?_)
  exact fun i hi W' hW' => by
    obtain ⟨h1, h2⟩ := hP W' (hb.trans hW')
    have e : ((1 : Int) + i - 1).toNat = i := by omega
    have := f3_any c g W' h1 hf h2 i (1 + i) (by omega) hi (by omega)
    simpa only [e] using this
theorem asks4 : AskC g b 23 4 1 c.wn (fl4 c) w := fun W L hS hL hb => by
  obtain ⟨q1, q2, q3, q4, q5, q6⟩ := frB_iff.1 h0
  refine (ask4_any b g (fun r => badW c (c.wd (r - 1).toNat)) 4 1 c.wn c.wn L W (by omega) (by omega) (by omega) hL hS ?_)
  exact fun i hi W' hW' => by
    obtain ⟨h1, h2⟩ := hP W' (hb.trans hW')
    have e : ((1 : Int) + i - 1).toNat = i := by omega
    have := f4_any c g W' h1 hf h2 i (1 + i) (by omega) hi (by omega)
    simpa only [e] using this
theorem asks5 : AskC g b 25 5 1 c.wn (fl5 c) w := fun W L hS hL hb => by
  obtain ⟨q1, q2, q3, q4, q5, q6⟩ := frB_iff.1 h0
  refine (ask5_any b g (fun r => anyB (fun k => wM (c.wd (r - 1).toNat) (c.wd k)) (r - 1).toNat) 5 1 c.wn c.wn L W (by omega) (by omega) (by omega) hL hS ?_)
  exact fun i hi W' hW' => by
    obtain ⟨h1, h2⟩ := hP W' (hb.trans hW')
    have e : ((1 : Int) + i - 1).toNat = i := by omega
    have := f5_any c g W' h1 hf h2 i (1 + i) (by omega) hi (by omega)
    simpa only [e] using this
theorem asks6 : AskC g b 27 6 0 c.cn (fl6 c) w := fun W L hS hL hb => by
  obtain ⟨q1, q2, q3, q4, q5, q6⟩ := frB_iff.1 h0
  refine (ask6_any b g (fun o => decide (fwI c o < 0)) 6 0 c.cn (c.cn + 1) L W (by omega) (by omega) (by omega) hL hS ?_)
  exact fun i hi W' hW' => by
    obtain ⟨h1, h2⟩ := hP W' (hb.trans hW')
    exact f6_any c g W' h1 hf h2 (0 + i)
theorem asks7 : AskC g b 29 7 0 0 (fl7 c) w := fun W L hS hL hb => by
  obtain ⟨q1, q2, q3, q4, q5, q6⟩ := frB_iff.1 h0
  refine (ask7_any b g (fun _ => shwB c) 7 0 0 1 L W (by omega) (by omega) (by omega) hL hS ?_)
  exact fun i hi W' hW' => by
    obtain ⟨h1, h2⟩ := hP W' (hb.trans hW')
    exact f7_any c g W' h1 hf h2 (0 + i) (by omega)
theorem asks8 : AskC g b 31 8 1 c.sn (fl8 c) w := fun W L hS hL hb => by
  obtain ⟨q1, q2, q3, q4, q5, q6⟩ := frB_iff.1 h0
  refine (ask8_any b g (fun r => badS c (c.sd (r - 1).toNat)) 8 1 c.sn c.sn L W (by omega) (by omega) (by omega) hL hS ?_)
  exact fun i hi W' hW' => by
    obtain ⟨h1, h2⟩ := hP W' (hb.trans hW')
    have e : ((1 : Int) + i - 1).toNat = i := by omega
    have := f8_any c g W' h1 hf h2 i (1 + i) (by omega) hi (by omega)
    simpa only [e] using this
theorem asks9 : AskC g b 32 9 1 c.sn (fl9 c) w := fun W L hS hL hb => by
  obtain ⟨q1, q2, q3, q4, q5, q6⟩ := frB_iff.1 h0
  refine (ask9_any b g (fun r => anyB (fun k => sM (c.sd (r - 1).toNat) (c.sd k)) (r - 1).toNat) 9 1 c.sn c.sn L W (by omega) (by omega) (by omega) hL hS ?_)
  exact fun i hi W' hW' => by
    obtain ⟨h1, h2⟩ := hP W' (hb.trans hW')
    have e : ((1 : Int) + i - 1).toNat = i := by omega
    have := f9_any c g W' h1 hf h2 i (1 + i) (by omega) hi (by omega)
    simpa only [e] using this
theorem asks10 : AskC g b 34 10 1 c.cn (fl10 c) w := fun W L hS hL hb => by
  obtain ⟨q1, q2, q3, q4, q5, q6⟩ := frB_iff.1 h0
  refine (ask10_any b g (fun r => decide (unitsV c r < (c.cd (r - 1).toNat).quota)) 10 1 c.cn c.cn L W (by omega) (by omega) (by omega) hL hS ?_)
  exact fun i hi W' hW' => by
    obtain ⟨h1, h2⟩ := hP W' (hb.trans hW')
    have e : ((1 : Int) + i - 1).toNat = i := by omega
    have := f10_any c g W' h1 hf h2 i (1 + i) (by omega) hi (by omega)
    simpa only [e] using this
end
theorem fl2_len (c : Cf) (h0 : frB c = true) : (fl2 c).length ≤ 33 := by
  obtain ⟨q1, q2, q3, q4, q5, q6⟩ := frB_iff.1 h0
  have := askL_len (fun r => badC (c.cd (r - 1).toNat)) 2 1 c.cn
  unfold fl2
  omega
theorem fl3_len (c : Cf) (h0 : frB c = true) : (fl3 c).length ≤ 33 := by
  obtain ⟨q1, q2, q3, q4, q5, q6⟩ := frB_iff.1 h0
  have := askL_len (fun r => shB (c.cd (r - 1).toNat) c.cd (r - 1).toNat) 3 1 c.cn
  unfold fl3
  omega
theorem fl4_len (c : Cf) (h0 : frB c = true) : (fl4 c).length ≤ 33 := by
  obtain ⟨q1, q2, q3, q4, q5, q6⟩ := frB_iff.1 h0
  have := askL_len (fun r => badW c (c.wd (r - 1).toNat)) 4 1 c.wn
  unfold fl4
  omega
theorem fl5_len (c : Cf) (h0 : frB c = true) : (fl5 c).length ≤ 33 := by
  obtain ⟨q1, q2, q3, q4, q5, q6⟩ := frB_iff.1 h0
  have := askL_len (fun r => anyB (fun k => wM (c.wd (r - 1).toNat) (c.wd k)) (r - 1).toNat) 5 1 c.wn
  unfold fl5
  omega
theorem fl6_len (c : Cf) (h0 : frB c = true) : (fl6 c).length ≤ 33 := by
  obtain ⟨q1, q2, q3, q4, q5, q6⟩ := frB_iff.1 h0
  have := askL_len (fun o => decide (fwI c o < 0)) 6 0 (c.cn + 1)
  unfold fl6
  omega
theorem fl7_len (c : Cf) (h0 : frB c = true) : (fl7 c).length ≤ 33 := by
  obtain ⟨q1, q2, q3, q4, q5, q6⟩ := frB_iff.1 h0
  have := askL_len (fun _ => shwB c) 7 0 1
  unfold fl7
  omega
theorem fl8_len (c : Cf) (h0 : frB c = true) : (fl8 c).length ≤ 33 := by
  obtain ⟨q1, q2, q3, q4, q5, q6⟩ := frB_iff.1 h0
  have := askL_len (fun r => badS c (c.sd (r - 1).toNat)) 8 1 c.sn
  unfold fl8
  omega
theorem fl9_len (c : Cf) (h0 : frB c = true) : (fl9 c).length ≤ 33 := by
  obtain ⟨q1, q2, q3, q4, q5, q6⟩ := frB_iff.1 h0
  have := askL_len (fun r => anyB (fun k => sM (c.sd (r - 1).toNat) (c.sd k)) (r - 1).toNat) 9 1 c.sn
  unfold fl9
  omega
theorem fl10_len (c : Cf) (h0 : frB c = true) : (fl10 c).length ≤ 33 := by
  obtain ⟨q1, q2, q3, q4, q5, q6⟩ := frB_iff.1 h0
  have := askL_len (fun r => decide (unitsV c r < (c.cd (r - 1).toNat).quota)) 10 1 c.cn
  unfold fl10
  omega

set_option maxRecDepth 40000 in
set_option maxHeartbeats 6400000 in
theorem faults_any (c : Cf) (w : World) (hc : CfV w c) (hf : FitCf c) : Calls Try.prog 11 #[cfv c] w (FaultsV c w) := by
  have HBF := Lib.hid (fun W => (show Calls Try.prog 15 #[.agg #[.int .i64 c.fr, .slice c.wA c.wn c.wc, .slice c.sA c.sn c.sc, .slice c.cA c.cn c.cc]] W _ from badf_any c W))
  obtain ⟨W1, hW, G0, hA⟩ := box1 w 26 #[.int .i64 c.fr, .slice c.wA c.wn c.wc, .slice c.sA c.sn c.sc, .slice c.cA c.cn c.cc]
  have HA := Lib.hid (show BoxC W1 w.heap.size c from hA)
  have HC := Lib.hid hc
  have HFI := Lib.hid hf
  replace G0 := Lib.hid G0
  show Calls Try.prog 11 #[.agg #[.int .i64 c.fr, .slice c.wA c.wn c.wc, .slice c.sA c.sn c.sc, .slice c.cA c.cn c.cc]] w (FaultsV c w)
  obtain ⟨k0, k1, k2, k3⟩ := cf_cells hA
  clear hA hc hf
  cases h0 : frB c
  · rw [h0] at HBF
    have HL := Lib.hid (show fltL c = [(0, 1)] by unfold fltL; rw [h0]; simp)
    clear h0
    go_enter Try.func11, Try.ntmps11
    go_upto_region 1 with (fail)
    rw [← hW]
    clear hW
    go_wp2_with (go_at_call 15; (with_reducible refine (HBF.out _).mono ?_); rintro e w2 ⟨rfl, g2⟩; have G2 := Lib.hid (only_trans G0.out g2); clear g2 k0 k1 k2 k3)
    go_ret
    unfold FaultsV
    rw [HL.out]
    have hlt := G2.out.size
    have hlt2 : w.heap.size ≤ w2.heap.size := hlt
    exact ⟨_, rfl, RowZ.new w2 _ 49 _ rfl (by decide) (by decide) (by decide) (fun j u hu => by simpa [flC] using hu), fun k hk => by
      have : w2.heap.size = k := by simpa [Value.ownBlock] using hk
      omega, below_of_only (only_alloc G2.out _) (Nat.le_refl _) (by simp)⟩
  · rw [h0] at HBF
    have H0 := Lib.hid h0
    have HL := Lib.hid (show fltL c = fl2 c ++ fl3 c ++ fl4 c ++ fl5 c ++ fl6 c ++ fl7 c ++ fl8 c ++ fl9 c ++ fl10 c by unfold fltL; rw [h0]; simp)
    clear h0
    go_enter Try.func11, Try.ntmps11
    go_upto_region 1 with (fail)
    rw [← hW]
    clear hW
    go_upto_region 3 with (go_at_call 15; (with_reducible refine (HBF.out _).mono ?_); rintro e w2 ⟨rfl, g2⟩; have A2 := Lib.hid (HA.out.only g2 (by simp)); have G2 := Lib.hid (only_trans G0.out g2); clear g2 k0 k1 k2 k3)
    obtain ⟨W3, hW3, G3, hB3⟩ := box1 w2 29 #[.slice none 0 0]
    obtain ⟨b, hb⟩ : ∃ b, b = w2.heap.size := ⟨_, rfl⟩
    have hlt := A2.out.lt
    have F3 := Lib.hid (show FltS W3 b [] from ⟨_, by rw [hb]; exact hB3, RowZ.nil 2 _, by simp [Value.ownBlock]⟩)
    have A3 := Lib.hid (A2.out.only G3 (by simp))
    replace G3 := Lib.hid (only_trans G2.out G3)
    have hbb : w.heap.size < b := by omega
    go_upto_region 5 with (fail)
    rw [← hW3, ← hb]
    replace hb := Lib.hid hb
    clear hW3
    obtain ⟨k0, k1, k2, k3⟩ := cf_cells A3.out
    have j1 := fun dd os => cell_regrown k1 dd os
    have j2 := fun dd os => cell_regrown k2 dd os
    have j3 := fun dd os => cell_regrown k3 dd os
    clear k0 k1 k2 k3
    refine wp_region_quiet_below (by kernel_rfl) (by kernel_rfl) ?_
    repeat (go_big_quiet_step ((fail)))
    refine wpQuiet_nil ?_
    intro w4 hw4
    obtain ⟨p, rfl⟩ := hw4
    have F4 := Lib.hid (F3.out.grown (only_re W3 p.d p.os))
    have A4 := Lib.hid (A3.out.only (only_re W3 p.d p.os) (by simp))
    have G4 := Lib.hid (only_trans G3.out (only_re W3 p.d p.os))
    clear j1 j2 j3
    generalize grow (redrawn W3 p.d) p.os = w4 at F4 A4 G4 ⊢
    have hP : ∀ W, Below b w4 W → CfV W c ∧ BoxC W w.heap.size c := fun W hWb => by
      have hs := G4.out.size
      have g5 : w.grownBy W none := only_far ((below_of_only G4.out (Nat.le_refl _) (by simp)).trans (hWb.mono (Nat.le_of_lt hbb)))
      exact ⟨HC.out.grown g5, Blk.below A4.out hWb hbb⟩
    have HA2 := Lib.hid (asks2 HFI.out H0.out hP)
    have HE2 := Lib.hid (fl2_len c H0.out)
    have HA3 := Lib.hid (asks3 HFI.out H0.out hP)
    have HE3 := Lib.hid (fl3_len c H0.out)
    have HA4 := Lib.hid (asks4 HFI.out H0.out hP)
    have HE4 := Lib.hid (fl4_len c H0.out)
    have HA5 := Lib.hid (asks5 HFI.out H0.out hP)
    have HE5 := Lib.hid (fl5_len c H0.out)
    have HA6 := Lib.hid (asks6 HFI.out H0.out hP)
    have HE6 := Lib.hid (fl6_len c H0.out)
    have HA7 := Lib.hid (asks7 HFI.out H0.out hP)
    have HE7 := Lib.hid (fl7_len c H0.out)
    have HA8 := Lib.hid (asks8 HFI.out H0.out hP)
    have HE8 := Lib.hid (fl8_len c H0.out)
    have HA9 := Lib.hid (asks9 HFI.out H0.out hP)
    have HE9 := Lib.hid (fl9_len c H0.out)
    have HA10 := Lib.hid (asks10 HFI.out H0.out hP)
    have HE10 := Lib.hid (fl10_len c H0.out)
    clear hP
    unfold AskC AskV at HA2 HA3 HA4 HA5 HA6 HA7 HA8 HA9 HA10
    generalize fl2 c = L2 at HL HA2 HE2
    generalize fl3 c = L3 at HL HA3 HE3
    generalize fl4 c = L4 at HL HA4 HE4
    generalize fl5 c = L5 at HL HA5 HE5
    generalize fl6 c = L6 at HL HA6 HE6
    generalize fl7 c = L7 at HL HA7 HE7
    generalize fl8 c = L8 at HL HA8 HE8
    generalize fl9 c = L9 at HL HA9 HE9
    generalize fl10 c = L10 at HL HA10 HE10
    have B4 := Lib.hid (Below.refl b w4)
    have LN4 : Hid ((([] : List (Int × Int))).length ≤ 1000) := Lib.hid (by simp; try omega)
    have LN5 : Hid (((([] : List (Int × Int)) ++ L2)).length ≤ 1000) := Lib.hid (by have := HE2.out; simp; try omega)
    have LN6 : Hid ((((([] : List (Int × Int)) ++ L2) ++ L3)).length ≤ 1000) := Lib.hid (by have := HE2.out; have := HE3.out; simp; try omega)
    have LN7 : Hid (((((([] : List (Int × Int)) ++ L2) ++ L3) ++ L4)).length ≤ 1000) := Lib.hid (by have := HE2.out; have := HE3.out; have := HE4.out; simp; try omega)
    have LN8 : Hid ((((((([] : List (Int × Int)) ++ L2) ++ L3) ++ L4) ++ L5)).length ≤ 1000) := Lib.hid (by have := HE2.out; have := HE3.out; have := HE4.out; have := HE5.out; simp; try omega)
    have LN9 : Hid (((((((([] : List (Int × Int)) ++ L2) ++ L3) ++ L4) ++ L5) ++ L6)).length ≤ 1000) := Lib.hid (by have := HE2.out; have := HE3.out; have := HE4.out; have := HE5.out; have := HE6.out; simp; try omega)
    have LN10 : Hid ((((((((([] : List (Int × Int)) ++ L2) ++ L3) ++ L4) ++ L5) ++ L6) ++ L7)).length ≤ 1000) := Lib.hid (by have := HE2.out; have := HE3.out; have := HE4.out; have := HE5.out; have := HE6.out; have := HE7.out; simp; try omega)
    have LN11 : Hid (((((((((([] : List (Int × Int)) ++ L2) ++ L3) ++ L4) ++ L5) ++ L6) ++ L7) ++ L8)).length ≤ 1000) := Lib.hid (by have := HE2.out; have := HE3.out; have := HE4.out; have := HE5.out; have := HE6.out; have := HE7.out; have := HE8.out; simp; try omega)
    have LN12 : Hid ((((((((((([] : List (Int × Int)) ++ L2) ++ L3) ++ L4) ++ L5) ++ L6) ++ L7) ++ L8) ++ L9)).length ≤ 1000) := Lib.hid (by have := HE2.out; have := HE3.out; have := HE4.out; have := HE5.out; have := HE6.out; have := HE7.out; have := HE8.out; have := HE9.out; simp; try omega)
    have LN13 : Hid (((((((((((([] : List (Int × Int)) ++ L2) ++ L3) ++ L4) ++ L5) ++ L6) ++ L7) ++ L8) ++ L9) ++ L10)).length ≤ 1000) := Lib.hid (by have := HE2.out; have := HE3.out; have := HE4.out; have := HE5.out; have := HE6.out; have := HE7.out; have := HE8.out; have := HE9.out; have := HE10.out; simp; try omega)
    go_upto_region 15 with (first
      | (go_at_call 18; (with_reducible refine (HA2.out _ _ F4.out LN4.out B4.out).mono ?_); rintro e w5 ⟨rfl, s, bb⟩; have F5 := Lib.hid s; have B5 := Lib.hid (B4.out.trans bb); clear s bb)
      | (go_at_call 18; (with_reducible refine (HA3.out _ _ F5.out LN5.out B5.out).mono ?_); rintro e w6 ⟨rfl, s, bb⟩; have F6 := Lib.hid s; have B6 := Lib.hid (B5.out.trans bb); clear s bb)
      | (go_at_call 18; (with_reducible refine (HA4.out _ _ F6.out LN6.out B6.out).mono ?_); rintro e w7 ⟨rfl, s, bb⟩; have F7 := Lib.hid s; have B7 := Lib.hid (B6.out.trans bb); clear s bb)
      | (go_at_call 18; (with_reducible refine (HA5.out _ _ F7.out LN7.out B7.out).mono ?_); rintro e w8 ⟨rfl, s, bb⟩; have F8 := Lib.hid s; have B8 := Lib.hid (B7.out.trans bb); clear s bb)
      | (go_at_call 18; (with_reducible refine (HA6.out _ _ F8.out LN8.out B8.out).mono ?_); rintro e w9 ⟨rfl, s, bb⟩; have F9 := Lib.hid s; have B9 := Lib.hid (B8.out.trans bb); clear s bb)
      | (go_at_call 18; (with_reducible refine (HA7.out _ _ F9.out LN9.out B9.out).mono ?_); rintro e w10 ⟨rfl, s, bb⟩; have F10 := Lib.hid s; have B10 := Lib.hid (B9.out.trans bb); clear s bb)
      | (go_at_call 18; (with_reducible refine (HA8.out _ _ F10.out LN10.out B10.out).mono ?_); rintro e w11 ⟨rfl, s, bb⟩; have F11 := Lib.hid s; have B11 := Lib.hid (B10.out.trans bb); clear s bb)
      | (go_at_call 18; (with_reducible refine (HA9.out _ _ F11.out LN11.out B11.out).mono ?_); rintro e w12 ⟨rfl, s, bb⟩; have F12 := Lib.hid s; have B12 := Lib.hid (B11.out.trans bb); clear s bb)
      | (go_at_call 18; (with_reducible refine (HA10.out _ _ F12.out LN12.out B12.out).mono ?_); rintro e w13 ⟨rfl, s, bb⟩; have F13 := Lib.hid s; have B13 := Lib.hid (B12.out.trans bb); clear s bb))
    have hfin : FltS w13 b (fltL c) := by
      rw [HL.out]
      exact F13.out
    have HBW := Lib.hid ((below_of_only G4.out (Nat.le_refl w.heap.size) (by simp)).trans (B13.out.mono (Nat.le_of_lt hbb)))
    obtain ⟨v, hv1, hv2, hv3⟩ := hfin
    have c0 : w13.cell? ⟨b, 0, none⟩ = some v := hv1.cell 0
    have HV := Lib.hid (And.intro hv2 hv3)
    obtain ⟨va, vc, rfl⟩ := hv2.form
    generalize hfl : (fltL c).length = ln at c0 HV
    clear hv1 hv2 hv3
    go_wp2
    go_ret
    unfold FaultsV
    rw [hfl]
    exact ⟨_, rfl, HV.out.1, fun k hk => by have := HV.out.2 k hk; omega, HBW.out⟩
theorem check_any (c : Cf) (w : World) (hc : CfV w c) (hf : FitCf c) : Calls Try.prog 5 #[cfv c] w fun e w' => e = .returned (.bool (decide (fltL c = []))) ∧ w.grownBy w' none := by
  obtain ⟨W1, hW, G0, hA⟩ := box1 w 26 #[.int .i64 c.fr, .slice c.wA c.wn c.wc, .slice c.sA c.sn c.sc, .slice c.cA c.cn c.cc]
  have HF := Lib.hid (show Calls Try.prog 11 #[.agg #[.int .i64 c.fr, .slice c.wA c.wn c.wc, .slice c.sA c.sn c.sc, .slice c.cA c.cn c.cc]] W1 (FaultsV c W1) from faults_any c W1 (hc.grown G0) hf)
  show Calls Try.prog 5 #[.agg #[.int .i64 c.fr, .slice c.wA c.wn c.wc, .slice c.sA c.sn c.sc, .slice c.cA c.cn c.cc]] w _
  obtain ⟨k0, k1, k2, k3⟩ := cf_cells (c := c) hA
  have hd : decide (fltL c = []) = decide ((fltL c).length = 0) := by
    congr 1
    simp
  rw [hd]
  clear hd
  unfold FaultsV at HF
  generalize hn : (fltL c).length = n at HF ⊢
  replace hn := Lib.hid hn
  replace G0 := Lib.hid G0
  clear hA hc hf
  go_enter Try.func5, Try.ntmps5
  go_upto_region 1 with (fail)
  rw [← hW]
  clear hW
  go_wp2_with (go_at_call 11; (with_reducible refine HF.out.mono ?_); rintro e w2 ⟨v, rfl, hr, _, g2⟩; obtain ⟨va, vc, rfl⟩ := hr.form; have G2 := Lib.hid (only_trans G0.out (only_far g2)); clear g2 hr k0 k1 k2 k3)
  go_ret
  refine ⟨(?_ : _ = Ending.returned (.bool (decide (n = 0)))), G2.out⟩
  exact ret_bool (a := ((n : Int) == 0)) (by rw [Bool.eq_iff_iff]; simp)
end Go.Proofs.Ytgkegmkedkgkcaa
