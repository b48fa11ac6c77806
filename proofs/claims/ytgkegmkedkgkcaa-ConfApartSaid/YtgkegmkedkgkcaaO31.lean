/- The law of tables that are right, walked: tables in which something is wrong. -/
import Derived.Test.YtgkegmkedkgkcaaO30
namespace Go.Proofs.Ytgkegmkedkgkcaa
open Go.RowKit Go.Lib Go.Sort
set_option linter.unusedVariables false

set_option maxRecDepth 20000 in
set_option maxHeartbeats 1600000 in
theorem apart_wrong (c : Cf) (w : World) (hc : CfV w c) (hf : FitCf c) (hr : fltL c ≠ []) : Calls Try.prog 3 #[cfv c] w fun e w' => e = .returned (.bool true) ∧ w.grownBy w' none := by
  obtain ⟨W1, hW, G0, hA⟩ := box1 w 26 #[.int .i64 c.fr, .slice c.wA c.wn c.wc, .slice c.sA c.sn c.sc, .slice c.cA c.cn c.cc]
  obtain ⟨k0, k1, k2, k3⟩ := cf_cells (c := c) hA
  have HF := Lib.hid (fun (W : World) (g : w.grownBy W none) => (show Calls Try.prog 7 #[.agg #[.int .i64 c.fr, .slice c.wA c.wn c.wc, .slice c.sA c.sn c.sc, .slice c.cA c.cn c.cc]] W (RFaultsV c W) from rfaults_any c W (hc.grown g) hf))
  have HC := Lib.hid (fun (W : World) (g : w.grownBy W none) => (show Calls Try.prog 5 #[.agg #[.int .i64 c.fr, .slice c.wA c.wn c.wc, .slice c.sA c.sn c.sc, .slice c.cA c.cn c.cc]] W (fun e w' => e = .returned (.bool false) ∧ W.grownBy w' none) from by
    have := check_any c W (hc.grown g) hf
    rw [decide_eq_false hr] at this
    exact this))
  have HL := Lib.hid (fun W => live15_any W)
  have HN := Lib.hid (show ∀ n : Nat, (n = 0 ↔ frB c = true ∧ NoneB c 11 0) → (0 : Int) < (n : Int) from fun n h => by
    have : n ≠ 0 := fun e => hr ((none_flt c).2 (h.1 e))
    omega)
  have HA := Lib.hid (show BoxC W1 w.heap.size c from hA)
  replace G0 := Lib.hid G0
  show Calls Try.prog 3 #[.agg #[.int .i64 c.fr, .slice c.wA c.wn c.wc, .slice c.sA c.sn c.sc, .slice c.cA c.cn c.cc]] w _
  clear hA hc hf hr
  go_enter Try.func3, Try.ntmps3
  go_upto_region 1 with (fail)
  rw [← hW]
  clear hW
  go_wp2_with (first
    | (go_at_call 5; (with_reducible refine (HC.out _ G0.out).mono ?_); rintro e w2 ⟨rfl, g2⟩; have G2 := Lib.hid (only_trans G0.out g2); replace HA := Lib.hid (HA.out.only g2 (by simp)); clear g2 k0 k1 k2 k3)
    | (go_at_call 6; (with_reducible refine (HL.out _).mono ?_); rintro e w3 ⟨rfl, g3⟩; have G3 := Lib.hid (only_trans G2.out g3); replace HA := Lib.hid (HA.out.only g3 (by simp)); clear g3; obtain ⟨k0, k1, k2, k3⟩ := cf_cells HA.out)
    | (go_at_call 7; (with_reducible refine (HF.out _ G3.out).mono ?_); rintro e w4 ⟨A, n, k, rfl, hn, hn2, g4⟩; have hn3 := HN.out n hn; have G4 := Lib.hid (only_trans G3.out g4); clear g4 hn))
  go_ret
  exact ⟨ret_bool (decide_eq_true (by omega)), G4.out⟩
end Go.Proofs.Ytgkegmkedkgkcaa
