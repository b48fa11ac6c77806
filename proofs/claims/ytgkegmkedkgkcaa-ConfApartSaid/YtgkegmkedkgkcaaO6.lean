/- Rows against those ahead; an owner's first window: by their contracts. -/
import Derived.Test.YtgkegmkedkgkcaaO5
namespace Go.Proofs.Ytgkegmkedkgkcaa
open Go.RowKit Go.Lib Go.Sort
set_option linter.unusedVariables false

theorem wms_any (x : W3) (A : Option Addr) (n cap : Nat) (d : Nat → W3) (w : World) (hst : Row3 w A n d) (hm : n ≤ 9223372036854775807) : Calls Try.prog 26 #[w3v x, .slice A n cap] w fun e w' => e = .returned (.bool (anyB (fun i => wM x (d i)) n)) ∧ w.grownBy w' none := by
  obtain ⟨x1, x2, x3⟩ := x
  show Calls Try.prog 26 #[.agg #[.int .i64 x1, .int .i64 x2, .int .i64 x3], .slice A n cap] w _
  obtain ⟨W1, hW, G0, hB⟩ := box1 w 34 #[.int .i64 x1, .int .i64 x2, .int .i64 x3]
  have HC := Lib.hid (hasw_any w.heap.size (fun i => wM (x1, x2, x3) (d i)) A n cap d W1 (hst.grown G0) hm (fun i hi W hg => wm_any (x1, x2, x3) (d i) w.heap.size W (hB.only hg (by simp))))
  generalize anyB (fun i => wM (x1, x2, x3) (d i)) n = r at HC ⊢
  have G0 := Lib.hid G0
  clear hB hst
  go_enter Try.func26, Try.ntmps26
  go_upto_region 1 with (fail)
  rw [← hW]
  clear hW
  go_wp2_with (go_at_call 50; (with_reducible refine HC.out.mono ?_); rintro e w2 ⟨rfl, g2⟩; have G2 := Lib.hid (only_trans G0.out g2); clear g2)
  go_ret
  exact ⟨rfl, G2.out⟩
theorem sms_any (x : W3) (A : Option Addr) (n cap : Nat) (d : Nat → W3) (w : World) (hst : Row3 w A n d) (hm : n ≤ 9223372036854775807) : Calls Try.prog 33 #[w3v x, .slice A n cap] w fun e w' => e = .returned (.bool (anyB (fun i => sM x (d i)) n)) ∧ w.grownBy w' none := by
  obtain ⟨x1, x2, x3⟩ := x
  show Calls Try.prog 33 #[.agg #[.int .i64 x1, .int .i64 x2, .int .i64 x3], .slice A n cap] w _
  obtain ⟨W1, hW, G0, hB⟩ := box1 w 37 #[.int .i64 x1, .int .i64 x2, .int .i64 x3]
  have HC := Lib.hid (hass_any w.heap.size (fun i => sM (x1, x2, x3) (d i)) A n cap d W1 (hst.grown G0) hm (fun i hi W hg => sm_any (x1, x2, x3) (d i) w.heap.size W (hB.only hg (by simp))))
  generalize anyB (fun i => sM (x1, x2, x3) (d i)) n = r at HC ⊢
  have G0 := Lib.hid G0
  clear hB hst
  go_enter Try.func33, Try.ntmps33
  go_upto_region 1 with (fail)
  rw [← hW]
  clear hW
  go_wp2_with (go_at_call 53; (with_reducible refine HC.out.mono ?_); rintro e w2 ⟨rfl, g2⟩; have G2 := Lib.hid (only_trans G0.out g2); clear g2)
  go_ret
  exact ⟨rfl, G2.out⟩
/-- A client that has something that one ahead of it has too. -/
def shB (x : Cl) (d : Nat → Cl) (n : Nat) : Bool := !badC x && anyB (fun i => !badC (d i) && cM x (d i)) n
set_option maxHeartbeats 800000 in
theorem shared_any (x : Cl) (hx : FitCl x) (A : Option Addr) (n cap : Nat) (d : Nat → Cl) (w : World) (hst : RowC w A n d) (hm : n ≤ 9223372036854775807) (hf : ∀ i, i < n → FitCl (d i)) : Calls Try.prog 22 #[clv x, .slice A n cap] w fun e w' => e = .returned (.bool (shB x d n)) ∧ w.grownBy w' none := by
  have HB := Lib.hid (fun W => badc_any x hx W)
  unfold shB
  cases hb : badC x
  · rw [hb] at HB
    simp only [Bool.not_false, Bool.true_and]
    obtain ⟨x1, x2, x3, x4, x5, x6, x7, x8, x9, x10⟩ := x
    show Calls Try.prog 22 #[.agg #[.int .i64 x1, .int .i64 x2, .int .i64 x3, .int .i64 x4, .int .i64 x5, .int .i64 x6, .int .i64 x7, .int .i64 x8, .int .i64 x9, .int .i64 x10], .slice A n cap] w _
    obtain ⟨W1, hW, G0, hB⟩ := box1 w 43 #[.int .i64 x1, .int .i64 x2, .int .i64 x3, .int .i64 x4, .int .i64 x5, .int .i64 x6, .int .i64 x7, .int .i64 x8, .int .i64 x9, .int .i64 x10]
    have HC := Lib.hid (fun (W : World) (hg : W1.grownBy W none) => hasc_any w.heap.size (fun i => !badC (d i) && cM ⟨x1, x2, x3, x4, x5, x6, x7, x8, x9, x10⟩ (d i)) A n cap d W ((hst.grown G0).grown hg) hm (fun i hi W' hg' => cm_any ⟨x1, x2, x3, x4, x5, x6, x7, x8, x9, x10⟩ (d i) hb (hf i hi) w.heap.size W' ((hB.only hg (by simp)).only hg' (by simp))))
    generalize anyB (fun i => !badC (d i) && cM ⟨x1, x2, x3, x4, x5, x6, x7, x8, x9, x10⟩ (d i)) n = r at HC ⊢
    have G0 := Lib.hid G0
    have k1 := fun i => hB.cell i
    clear hB hst hx hb hf
    go_enter Try.func22, Try.ntmps22
    go_upto_region 1 with (fail)
    rw [← hW]
    clear hW
    go_wp2_with (first
      | (go_at_call 20; (with_reducible refine (HB.out _).mono ?_); rintro e w1 ⟨rfl, g1⟩; have G1 := Lib.hid g1; clear g1 k1)
      | (go_at_call 45; (with_reducible refine (HC.out _ G1.out).mono ?_); rintro e w2 ⟨rfl, g2⟩; have G2 := Lib.hid (only_trans (only_trans G0.out G1.out) g2); clear g2))
    go_ret
    exact ⟨rfl, G2.out⟩
  · rw [hb] at HB
    simp only [Bool.not_true, Bool.false_and]
    obtain ⟨x1, x2, x3, x4, x5, x6, x7, x8, x9, x10⟩ := x
    show Calls Try.prog 22 #[.agg #[.int .i64 x1, .int .i64 x2, .int .i64 x3, .int .i64 x4, .int .i64 x5, .int .i64 x6, .int .i64 x7, .int .i64 x8, .int .i64 x9, .int .i64 x10], .slice A n cap] w _
    obtain ⟨W1, hW, G0, hB⟩ := box1 w 43 #[.int .i64 x1, .int .i64 x2, .int .i64 x3, .int .i64 x4, .int .i64 x5, .int .i64 x6, .int .i64 x7, .int .i64 x8, .int .i64 x9, .int .i64 x10]
    have G0 := Lib.hid G0
    have k1 := fun i => hB.cell i
    clear hB hst hx hb hf
    go_enter Try.func22, Try.ntmps22
    go_upto_region 1 with (fail)
    rw [← hW]
    clear hW
    go_wp2_with (go_at_call 20; (with_reducible refine (HB.out _).mono ?_); rintro e w1 ⟨rfl, g1⟩; have G1 := Lib.hid g1; clear g1 k1)
    go_ret
    exact ⟨rfl, only_trans G0.out G1.out⟩
theorem fw1_any (o : Int) (y : W3) (g : Nat) (w : World) (hg : Blk w g 3 #[.int .i64 o]) : Calls Try.prog 60 #[w3v y, .pointer (some ⟨g, 0, none⟩)] w fun e w' => e = .returned (.bool (decide (y.1 = o))) ∧ w.grownBy w' none := by
  obtain ⟨y1, y2, y3⟩ := y
  show Calls Try.prog 60 #[.agg #[.int .i64 y1, .int .i64 y2, .int .i64 y3], .pointer (some ⟨g, 0, none⟩)] w _
  obtain ⟨W1, hW, G0, hB⟩ := box1 w 34 #[.int .i64 y1, .int .i64 y2, .int .i64 y3]
  have k1 := fun i => (hg.only G0 (by simp)).cell i
  have k2 := fun i => hB.cell i
  have G0 := Lib.hid G0
  clear hB hg
  go_enter Try.func60, Try.ntmps60
  go_upto_region 1 with (fail)
  rw [← hW]
  clear hW
  go_wp2
  go_ret
  exact ⟨ret_bool (by simp [Bool.beq_eq_decide_eq]), G0.out⟩
/-- The place of an owner's first window; -1: none. -/
def fwI (c : Cf) (o : Int) : Int := fstI (fun i => decide ((c.wd i).1 = o)) c.wn
theorem fw_any (c : Cf) (o : Int) (w : World) (hc : CfV w c) (hf : FitCf c) : Calls Try.prog 52 #[cfv c, .int .i64 o] w fun e w' => e = .returned (.int .i64 (fwI c o)) ∧ w.grownBy w' none := by
  unfold fwI
  have hw := hc.1
  have hm : c.wn ≤ 9223372036854775807 := by have := hf.2.1; omega
  obtain ⟨fr, wA, wn, wc, wd, sA, sn, sc, sd, cA, cn, cc, cd⟩ := c
  simp only at hw hm ⊢
  show Calls Try.prog 52 #[.agg #[.int .i64 fr, .slice wA wn wc, .slice sA sn sc, .slice cA cn cc], .int .i64 o] w _
  obtain ⟨W1, hW, G0, hA, hB⟩ := box2 w 26 #[.int .i64 fr, .slice wA wn wc, .slice sA sn sc, .slice cA cn cc] 3 #[.int .i64 o]
  have HC := Lib.hid (idxf_any (w.heap.size + 1) (fun i => decide ((wd i).1 = o)) wA wn wc wd W1 (hw.grown G0) hm (fun i hi W hg => fw1_any o (wd i) (w.heap.size + 1) W (hB.only hg (by simp))))
  generalize fstI (fun i => decide ((wd i).1 = o)) wn = r at HC ⊢
  have G0 := Lib.hid G0
  have k1 := fun i => hA.cell i
  clear hA hB hw hc hf
  go_enter Try.func52, Try.ntmps52
  go_upto_region 1 with (fail)
  rw [← hW]
  clear hW
  go_wp2_with (go_at_call 59; (with_reducible refine HC.out.mono ?_); rintro e w2 ⟨rfl, g2⟩; have G2 := Lib.hid (only_trans G0.out g2); clear g2)
  go_ret
  exact ⟨rfl, G2.out⟩
theorem now_any (c : Cf) (o : Int) (w : World) (hc : CfV w c) (hf : FitCf c) : Calls Try.prog 28 #[cfv c, .int .i64 o] w fun e w' => e = .returned (.bool (decide (fwI c o < 0))) ∧ w.grownBy w' none := by
  have HF := Lib.hid (fun W (hg : w.grownBy W none) => fw_any c o W (hc.grown hg) hf)
  generalize fwI c o = r at HF ⊢
  obtain ⟨fr, wA, wn, wc, wd, sA, sn, sc, sd, cA, cn, cc, cd⟩ := c
  have HF : Hid (∀ W, w.grownBy W none → Calls Try.prog 52 #[.agg #[.int .i64 fr, .slice wA wn wc, .slice sA sn sc, .slice cA cn cc], .int .i64 o] W fun e w' => e = .returned (.int .i64 r) ∧ W.grownBy w' none) := HF
  show Calls Try.prog 28 #[.agg #[.int .i64 fr, .slice wA wn wc, .slice sA sn sc, .slice cA cn cc], .int .i64 o] w _
  obtain ⟨W1, hW, G0, hA⟩ := box1 w 26 #[.int .i64 fr, .slice wA wn wc, .slice sA sn sc, .slice cA cn cc]
  have G0 := Lib.hid G0
  have k1 := fun i => hA.cell i
  clear hA hc hf
  go_enter Try.func28, Try.ntmps28
  go_upto_region 1 with (fail)
  rw [← hW]
  clear hW
  go_wp2_with (go_at_call 52; (with_reducible refine (HF.out _ G0.out).mono ?_); rintro e w2 ⟨rfl, g2⟩; have G2 := Lib.hid (only_trans G0.out g2); clear g2)
  go_ret
  exact ⟨rfl, G2.out⟩
end Go.Proofs.Ytgkegmkedkgkcaa
