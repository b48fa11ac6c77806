import Derived.Test.YteoaaogfloljlaaDoorZ01
import Derived.Deep.RegionHeld3
import Derived.Deep.Cut
import Derived.Lib.QuietBelow
import Derived.BigQuiet
import Derived.Lib.SplitLaws
set_option linter.all false
/- Package code, and the document's word: which instructions may be, by their contracts. -/
namespace Go.Proofs.YteoaaogfloljlaaDoor
open Go.RowKit Go.Lib
set_option linter.unusedVariables false

theorem ibox (w : World) (t : TypeId) (cs : Array Value) : ∃ W, W = w.alloc (.cells cs t) ∧ w.grownBy W none ∧ Blk W w.heap.size t cs := ⟨_, rfl, only_alloc (only_refl _ _) _, Blk.new w t cs⟩
theorem in3 {W : World} {g : Nat} {t : TypeId} {a b c : Value} (h : Blk W g t #[a, b, c]) : W.cell? ⟨g, 0, none⟩ = some a ∧ W.cell? ⟨g, 1, none⟩ = some b ∧ W.cell? ⟨g, 2, none⟩ = some c := ⟨h.cell 0, h.cell 1, h.cell 2⟩
theorem nm_some {k : Nat} (h : k < 16) : nmL k ≠ ⟨#[]⟩ := by
  intro e
  have := nmL_some ⟨k, h⟩
  apply this
  have := congrArg (fun b : ByteArray => b.data.toList) e
  simpa [nmL] using this
set_option maxHeartbeats 1600000 in
theorem may_any (k : Nat) (x n : Int) (hk : k < 256) (w : World) (hG : Nm w) : Calls Tryd.prog 11 #[.agg #[.int .u8 k, .int .i64 x, .int .i64 n]] w fun e w' => e = .returned (.bool (mayI k x n)) ∧ w.grownBy w' none := by
  obtain ⟨W1, hW, g1, hB⟩ := ibox w 26 #[.int .u8 k, .int .i64 x, .int .i64 n]
  obtain ⟨c0, c1, c2⟩ := in3 hB
  have HN := Lib.hid (fun q => name_any k hk (W1.drewN q) (hG.grown (only_drewN g1 q) (by simp)))
  have HX := Lib.hid (fun W => mostx_any k hk W)
  have HM := Lib.hid (fun W => mostn_any k hk W)
  have HUX := Lib.hid (fun W => upto_any x (mxX k) W)
  have HUN := Lib.hid (fun W => upto_any n (mxN k) W)
  have HV := Lib.hid (show mayI k x n = (decide (k < 16) && decide (0 ≤ x ∧ x ≤ mxX k) && decide (0 ≤ n ∧ n ≤ mxN k)) from rfl)
  have HG := Lib.hid g1
  clear hB g1 hG
  generalize mayI k x n = r at HV ⊢
  generalize decide (0 ≤ x ∧ x ≤ mxX k) = bx at HUX HV
  generalize decide (0 ≤ n ∧ n ≤ mxN k) = bn at HUN HV
  generalize mxX k = mx at *
  generalize mxN k = mn at *
  by_cases h : k < 16
  · have hne := str_ne19 (nm_some h)
    have hne2 : (nmL k).toList ≠ [] := by
      intro e
      rw [e] at hne
      simp at hne
    rw [decide_eq_true h] at HV
    generalize nmL k = nm at *
    cases bx <;> cases bn
    all_goals
      go_enter Tryd.func11, Tryd.ntmps11
      go_upto_region 1 with (fail)
      rw [← hW]
      clear hW
      go_quiet (first
        | (go_at_call 21; with_reducible exact quiet_same (HN.out _))
        | (go_at_call 23; with_reducible exact quiet_same (HX.out _))
        | (go_at_call 24; with_reducible exact quiet_same (HM.out _))
        | (go_at_call 22; with_reducible exact quiet_same (HUX.out _))
        | (go_at_call 22; with_reducible exact quiet_same (HUN.out _)))
      go_wp2
      go_ret
      exact ⟨by rw [HV.out]; first | rfl | (simp; done) | (simp; exact hne2), only_drewN HG.out _⟩
  · have he : nmL k = ⟨#[]⟩ := nmL_none (by omega)
    rw [decide_eq_false h] at HV
    rw [he] at HN
    go_enter Tryd.func11, Tryd.ntmps11
    go_upto_region 1 with (fail)
    rw [← hW]
    clear hW
    go_quiet (first
      | (go_at_call 21; with_reducible exact quiet_same (HN.out _))
      | (go_at_call 23; with_reducible exact quiet_same (HX.out _))
      | (go_at_call 24; with_reducible exact quiet_same (HM.out _))
      | (go_at_call 22; with_reducible exact quiet_same (HUX.out _))
      | (go_at_call 22; with_reducible exact quiet_same (HUN.out _)))
    go_wp2
    go_ret
    exact ⟨by rw [HV.out]; first | rfl | (simp; done) | (simp; exact hne2), only_drewN HG.out _⟩
theorem mayI_iff {k : Nat} {x n : Int} : mayI k x n = true ↔ k < 16 ∧ (0 ≤ x ∧ x ≤ mxX k) ∧ (0 ≤ n ∧ n ≤ mxN k) := by
  unfold mayI
  simp [and_assoc]
theorem mayI_facts {k : Nat} {x n : Int} (h : mayI k x n = true) : k < 16 ∧ 0 ≤ x ∧ x ≤ 7 ∧ 0 ≤ n ∧ n ≤ 65535 := by
  obtain ⟨h1, h2, h3⟩ := mayI_iff.1 h
  have e1 : mxX k ≤ 7 := by unfold mxX; split <;> omega
  have e2 : mxN k ≤ 65535 := by unfold mxN; split <;> (try split) <;> omega
  omega
set_option maxHeartbeats 1600000 in
theorem rmay_s0 (k : Nat) (x n : Int) (w : World) (h1 : k < 16 ∧ 0 ≤ x ∧ x ≤ 7 ∧ 0 ≤ n ∧ n ≤ 65535) (hk : k = 0) (hn : n ≠ 0) : Calls Tryd.prog 4 #[.agg #[.int .u8 k, .int .i64 x, .int .i64 n]] w fun e w' => e = .returned (.bool false) ∧ w.grownBy w' none := by
  obtain ⟨W1, hW, g1, hB⟩ := ibox w 26 #[.int .u8 k, .int .i64 x, .int .i64 n]
  obtain ⟨c0, c1, c2⟩ := in3 hB
  have hw : IntKind.i64.wrap (k : Int) = (k : Int) := by rw [IntKind.wrap_i64]; omega
  have HG := Lib.hid g1
  obtain ⟨k1, x1, x2, n1, n2⟩ := h1
  have b0 : ¬ (15 : Int) < k := by omega
  have b1 : ¬ x < 0 := by omega
  have b2 : ¬ 7 < x := by omega
  have b3 : ¬ n < 0 := by omega
  have b4 : ¬ 65535 < n := by omega
  clear hB g1
  have z0 : ((k : Int) == 0) = true := by rw [beq_iff_eq]; omega
  have z0n : ((k : Int) != 0) = false := by rw [bne_eq_false_iff_eq]; omega
  have z1 : ((k : Int) == 15) = false := by rw [beq_eq_false_iff_ne]; omega
  have z1n : ((k : Int) != 15) = true := by rw [bne_iff_ne]; omega
  have z2 : ((k : Int) == 11) = false := by rw [beq_eq_false_iff_ne]; omega
  have z2n : ((k : Int) != 11) = true := by rw [bne_iff_ne]; omega
  have z3 : ¬ (2 : Int) ≤ k := by omega
  have y0 : (n == 0) = false := by rw [beq_eq_false_iff_ne]; omega
  have y1 : (n != 0) = true := by rw [bne_iff_ne]; omega
  clear hk hn
  go_enter Tryd.func4, Tryd.ntmps4
  go_upto_region 1 with (fail)
  rw [← hW]
  clear hW
  go_wp2
  go_ret
  exact ⟨by first | rfl | simp, HG.out⟩
set_option maxHeartbeats 1600000 in
theorem rmay_s0z (k : Nat) (x n : Int) (w : World) (h1 : k < 16 ∧ 0 ≤ x ∧ x ≤ 7 ∧ 0 ≤ n ∧ n ≤ 65535) (hk : k = 0) (hn : n = 0) : Calls Tryd.prog 4 #[.agg #[.int .u8 k, .int .i64 x, .int .i64 n]] w fun e w' => e = .returned (.bool (x == 0)) ∧ w.grownBy w' none := by
  obtain ⟨W1, hW, g1, hB⟩ := ibox w 26 #[.int .u8 k, .int .i64 x, .int .i64 n]
  obtain ⟨c0, c1, c2⟩ := in3 hB
  have hw : IntKind.i64.wrap (k : Int) = (k : Int) := by rw [IntKind.wrap_i64]; omega
  have HG := Lib.hid g1
  obtain ⟨k1, x1, x2, n1, n2⟩ := h1
  have b0 : ¬ (15 : Int) < k := by omega
  have b1 : ¬ x < 0 := by omega
  have b2 : ¬ 7 < x := by omega
  have b3 : ¬ n < 0 := by omega
  have b4 : ¬ 65535 < n := by omega
  clear hB g1
  have z0 : ((k : Int) == 0) = true := by rw [beq_iff_eq]; omega
  have z0n : ((k : Int) != 0) = false := by rw [bne_eq_false_iff_eq]; omega
  have z1 : ((k : Int) == 15) = false := by rw [beq_eq_false_iff_ne]; omega
  have z1n : ((k : Int) != 15) = true := by rw [bne_iff_ne]; omega
  have z2 : ((k : Int) == 11) = false := by rw [beq_eq_false_iff_ne]; omega
  have z2n : ((k : Int) != 11) = true := by rw [bne_iff_ne]; omega
  have z3 : ¬ (2 : Int) ≤ k := by omega
  have y0 : (n == 0) = true := by rw [beq_iff_eq]; omega
  have y1 : (n != 0) = false := by rw [bne_eq_false_iff_eq]; omega
  clear hk hn
  go_enter Tryd.func4, Tryd.ntmps4
  go_upto_region 1 with (fail)
  rw [← hW]
  clear hW
  go_wp2
  go_ret
  exact ⟨by first | rfl | simp, HG.out⟩
set_option maxHeartbeats 1600000 in
theorem rmay_s15 (k : Nat) (x n : Int) (w : World) (h1 : k < 16 ∧ 0 ≤ x ∧ x ≤ 7 ∧ 0 ≤ n ∧ n ≤ 65535) (hk : k = 15) (hn : n ≠ 0) : Calls Tryd.prog 4 #[.agg #[.int .u8 k, .int .i64 x, .int .i64 n]] w fun e w' => e = .returned (.bool false) ∧ w.grownBy w' none := by
  obtain ⟨W1, hW, g1, hB⟩ := ibox w 26 #[.int .u8 k, .int .i64 x, .int .i64 n]
  obtain ⟨c0, c1, c2⟩ := in3 hB
  have hw : IntKind.i64.wrap (k : Int) = (k : Int) := by rw [IntKind.wrap_i64]; omega
  have HG := Lib.hid g1
  obtain ⟨k1, x1, x2, n1, n2⟩ := h1
  have b0 : ¬ (15 : Int) < k := by omega
  have b1 : ¬ x < 0 := by omega
  have b2 : ¬ 7 < x := by omega
  have b3 : ¬ n < 0 := by omega
  have b4 : ¬ 65535 < n := by omega
  clear hB g1
  have z0 : ((k : Int) == 0) = false := by rw [beq_eq_false_iff_ne]; omega
  have z0n : ((k : Int) != 0) = true := by rw [bne_iff_ne]; omega
  have z1 : ((k : Int) == 15) = true := by rw [beq_iff_eq]; omega
  have z1n : ((k : Int) != 15) = false := by rw [bne_eq_false_iff_eq]; omega
  have z2 : ((k : Int) == 11) = false := by rw [beq_eq_false_iff_ne]; omega
  have z2n : ((k : Int) != 11) = true := by rw [bne_iff_ne]; omega
  have z3 : (2 : Int) ≤ k := by omega
  have z4 : ¬ (k : Int) ≤ 10 := by omega
  have y0 : (n == 0) = false := by rw [beq_eq_false_iff_ne]; omega
  have y1 : (n != 0) = true := by rw [bne_iff_ne]; omega
  clear hk hn
  go_enter Tryd.func4, Tryd.ntmps4
  go_upto_region 1 with (fail)
  rw [← hW]
  clear hW
  go_wp2
  go_ret
  exact ⟨by first | rfl | simp, HG.out⟩
set_option maxHeartbeats 1600000 in
theorem rmay_s15z (k : Nat) (x n : Int) (w : World) (h1 : k < 16 ∧ 0 ≤ x ∧ x ≤ 7 ∧ 0 ≤ n ∧ n ≤ 65535) (hk : k = 15) (hn : n = 0) : Calls Tryd.prog 4 #[.agg #[.int .u8 k, .int .i64 x, .int .i64 n]] w fun e w' => e = .returned (.bool (x == 0)) ∧ w.grownBy w' none := by
  obtain ⟨W1, hW, g1, hB⟩ := ibox w 26 #[.int .u8 k, .int .i64 x, .int .i64 n]
  obtain ⟨c0, c1, c2⟩ := in3 hB
  have hw : IntKind.i64.wrap (k : Int) = (k : Int) := by rw [IntKind.wrap_i64]; omega
  have HG := Lib.hid g1
  obtain ⟨k1, x1, x2, n1, n2⟩ := h1
  have b0 : ¬ (15 : Int) < k := by omega
  have b1 : ¬ x < 0 := by omega
  have b2 : ¬ 7 < x := by omega
  have b3 : ¬ n < 0 := by omega
  have b4 : ¬ 65535 < n := by omega
  clear hB g1
  have z0 : ((k : Int) == 0) = false := by rw [beq_eq_false_iff_ne]; omega
  have z0n : ((k : Int) != 0) = true := by rw [bne_iff_ne]; omega
  have z1 : ((k : Int) == 15) = true := by rw [beq_iff_eq]; omega
  have z1n : ((k : Int) != 15) = false := by rw [bne_eq_false_iff_eq]; omega
  have z2 : ((k : Int) == 11) = false := by rw [beq_eq_false_iff_ne]; omega
  have z2n : ((k : Int) != 11) = true := by rw [bne_iff_ne]; omega
  have z3 : (2 : Int) ≤ k := by omega
  have z4 : ¬ (k : Int) ≤ 10 := by omega
  have y0 : (n == 0) = true := by rw [beq_iff_eq]; omega
  have y1 : (n != 0) = false := by rw [bne_eq_false_iff_eq]; omega
  clear hk hn
  go_enter Tryd.func4, Tryd.ntmps4
  go_upto_region 1 with (fail)
  rw [← hW]
  clear hW
  go_wp2
  go_ret
  exact ⟨by first | rfl | simp, HG.out⟩
set_option maxHeartbeats 1600000 in
theorem rmay_j (k : Nat) (x n : Int) (w : World) (h1 : k < 16 ∧ 0 ≤ x ∧ x ≤ 7 ∧ 0 ≤ n ∧ n ≤ 65535) (hk : k = 11) : Calls Tryd.prog 4 #[.agg #[.int .u8 k, .int .i64 x, .int .i64 n]] w fun e w' => e = .returned (.bool (x == 0)) ∧ w.grownBy w' none := by
  obtain ⟨W1, hW, g1, hB⟩ := ibox w 26 #[.int .u8 k, .int .i64 x, .int .i64 n]
  obtain ⟨c0, c1, c2⟩ := in3 hB
  have hw : IntKind.i64.wrap (k : Int) = (k : Int) := by rw [IntKind.wrap_i64]; omega
  have HG := Lib.hid g1
  obtain ⟨k1, x1, x2, n1, n2⟩ := h1
  have b0 : ¬ (15 : Int) < k := by omega
  have b1 : ¬ x < 0 := by omega
  have b2 : ¬ 7 < x := by omega
  have b3 : ¬ n < 0 := by omega
  have b4 : ¬ 65535 < n := by omega
  clear hB g1
  have z0 : ((k : Int) == 0) = false := by rw [beq_eq_false_iff_ne]; omega
  have z0n : ((k : Int) != 0) = true := by rw [bne_iff_ne]; omega
  have z1 : ((k : Int) == 15) = false := by rw [beq_eq_false_iff_ne]; omega
  have z1n : ((k : Int) != 15) = true := by rw [bne_iff_ne]; omega
  have z2 : ((k : Int) == 11) = true := by rw [beq_iff_eq]; omega
  have z2n : ((k : Int) != 11) = false := by rw [bne_eq_false_iff_eq]; omega
  have z3 : (2 : Int) ≤ k := by omega
  have z4 : ¬ (k : Int) ≤ 10 := by omega
  clear hk
  go_enter Tryd.func4, Tryd.ntmps4
  go_upto_region 1 with (fail)
  rw [← hW]
  clear hW
  go_wp2
  go_ret
  exact ⟨by first | rfl | simp, HG.out⟩
set_option maxHeartbeats 1600000 in
theorem rmay_r (k : Nat) (x n : Int) (w : World) (h1 : k < 16 ∧ 0 ≤ x ∧ x ≤ 7 ∧ 0 ≤ n ∧ n ≤ 65535) (hk : 2 ≤ k ∧ k ≤ 10) (hn : n ≤ 7) : Calls Tryd.prog 4 #[.agg #[.int .u8 k, .int .i64 x, .int .i64 n]] w fun e w' => e = .returned (.bool true) ∧ w.grownBy w' none := by
  obtain ⟨W1, hW, g1, hB⟩ := ibox w 26 #[.int .u8 k, .int .i64 x, .int .i64 n]
  obtain ⟨c0, c1, c2⟩ := in3 hB
  have hw : IntKind.i64.wrap (k : Int) = (k : Int) := by rw [IntKind.wrap_i64]; omega
  have HG := Lib.hid g1
  obtain ⟨k1, x1, x2, n1, n2⟩ := h1
  have b0 : ¬ (15 : Int) < k := by omega
  have b1 : ¬ x < 0 := by omega
  have b2 : ¬ 7 < x := by omega
  have b3 : ¬ n < 0 := by omega
  have b4 : ¬ 65535 < n := by omega
  clear hB g1
  have z0 : ((k : Int) == 0) = false := by rw [beq_eq_false_iff_ne]; omega
  have z0n : ((k : Int) != 0) = true := by rw [bne_iff_ne]; omega
  have z1 : ((k : Int) == 15) = false := by rw [beq_eq_false_iff_ne]; omega
  have z1n : ((k : Int) != 15) = true := by rw [bne_iff_ne]; omega
  have z2 : ((k : Int) == 11) = false := by rw [beq_eq_false_iff_ne]; omega
  have z2n : ((k : Int) != 11) = true := by rw [bne_iff_ne]; omega
  have z3 : (2 : Int) ≤ k := by omega
  have z4 : (k : Int) ≤ 10 := by omega
  have y7 : ¬ 7 < n := by omega
  clear hk hn
  go_enter Tryd.func4, Tryd.ntmps4
  go_upto_region 1 with (fail)
  rw [← hW]
  clear hW
  go_wp2
  go_ret
  exact ⟨by first | rfl | simp, HG.out⟩
set_option maxHeartbeats 1600000 in
theorem rmay_rn (k : Nat) (x n : Int) (w : World) (h1 : k < 16 ∧ 0 ≤ x ∧ x ≤ 7 ∧ 0 ≤ n ∧ n ≤ 65535) (hk : 2 ≤ k ∧ k ≤ 10) (hn : 7 < n) : Calls Tryd.prog 4 #[.agg #[.int .u8 k, .int .i64 x, .int .i64 n]] w fun e w' => e = .returned (.bool false) ∧ w.grownBy w' none := by
  obtain ⟨W1, hW, g1, hB⟩ := ibox w 26 #[.int .u8 k, .int .i64 x, .int .i64 n]
  obtain ⟨c0, c1, c2⟩ := in3 hB
  have hw : IntKind.i64.wrap (k : Int) = (k : Int) := by rw [IntKind.wrap_i64]; omega
  have HG := Lib.hid g1
  obtain ⟨k1, x1, x2, n1, n2⟩ := h1
  have b0 : ¬ (15 : Int) < k := by omega
  have b1 : ¬ x < 0 := by omega
  have b2 : ¬ 7 < x := by omega
  have b3 : ¬ n < 0 := by omega
  have b4 : ¬ 65535 < n := by omega
  clear hB g1
  have z0 : ((k : Int) == 0) = false := by rw [beq_eq_false_iff_ne]; omega
  have z0n : ((k : Int) != 0) = true := by rw [bne_iff_ne]; omega
  have z1 : ((k : Int) == 15) = false := by rw [beq_eq_false_iff_ne]; omega
  have z1n : ((k : Int) != 15) = true := by rw [bne_iff_ne]; omega
  have z2 : ((k : Int) == 11) = false := by rw [beq_eq_false_iff_ne]; omega
  have z2n : ((k : Int) != 11) = true := by rw [bne_iff_ne]; omega
  have z3 : (2 : Int) ≤ k := by omega
  have z4 : (k : Int) ≤ 10 := by omega
  have y7 : (7 : Int) < n := by omega
  clear hk hn
  go_enter Tryd.func4, Tryd.ntmps4
  go_upto_region 1 with (fail)
  rw [← hW]
  clear hW
  go_wp2
  go_ret
  exact ⟨by first | rfl | simp, HG.out⟩
set_option maxHeartbeats 1600000 in
theorem rmay_o1 (k : Nat) (x n : Int) (w : World) (h1 : k < 16 ∧ 0 ≤ x ∧ x ≤ 7 ∧ 0 ≤ n ∧ n ≤ 65535) (hk : k = 1) : Calls Tryd.prog 4 #[.agg #[.int .u8 k, .int .i64 x, .int .i64 n]] w fun e w' => e = .returned (.bool true) ∧ w.grownBy w' none := by
  obtain ⟨W1, hW, g1, hB⟩ := ibox w 26 #[.int .u8 k, .int .i64 x, .int .i64 n]
  obtain ⟨c0, c1, c2⟩ := in3 hB
  have hw : IntKind.i64.wrap (k : Int) = (k : Int) := by rw [IntKind.wrap_i64]; omega
  have HG := Lib.hid g1
  obtain ⟨k1, x1, x2, n1, n2⟩ := h1
  have b0 : ¬ (15 : Int) < k := by omega
  have b1 : ¬ x < 0 := by omega
  have b2 : ¬ 7 < x := by omega
  have b3 : ¬ n < 0 := by omega
  have b4 : ¬ 65535 < n := by omega
  clear hB g1
  have z0 : ((k : Int) == 0) = false := by rw [beq_eq_false_iff_ne]; omega
  have z0n : ((k : Int) != 0) = true := by rw [bne_iff_ne]; omega
  have z1 : ((k : Int) == 15) = false := by rw [beq_eq_false_iff_ne]; omega
  have z1n : ((k : Int) != 15) = true := by rw [bne_iff_ne]; omega
  have z2 : ((k : Int) == 11) = false := by rw [beq_eq_false_iff_ne]; omega
  have z2n : ((k : Int) != 11) = true := by rw [bne_iff_ne]; omega
  have z3 : ¬ (2 : Int) ≤ k := by omega
  clear hk
  go_enter Tryd.func4, Tryd.ntmps4
  go_upto_region 1 with (fail)
  rw [← hW]
  clear hW
  go_wp2
  go_ret
  exact ⟨by first | rfl | simp, HG.out⟩
set_option maxHeartbeats 1600000 in
theorem rmay_o2 (k : Nat) (x n : Int) (w : World) (h1 : k < 16 ∧ 0 ≤ x ∧ x ≤ 7 ∧ 0 ≤ n ∧ n ≤ 65535) (hk : 12 ≤ k ∧ k ≤ 14) : Calls Tryd.prog 4 #[.agg #[.int .u8 k, .int .i64 x, .int .i64 n]] w fun e w' => e = .returned (.bool true) ∧ w.grownBy w' none := by
  obtain ⟨W1, hW, g1, hB⟩ := ibox w 26 #[.int .u8 k, .int .i64 x, .int .i64 n]
  obtain ⟨c0, c1, c2⟩ := in3 hB
  have hw : IntKind.i64.wrap (k : Int) = (k : Int) := by rw [IntKind.wrap_i64]; omega
  have HG := Lib.hid g1
  obtain ⟨k1, x1, x2, n1, n2⟩ := h1
  have b0 : ¬ (15 : Int) < k := by omega
  have b1 : ¬ x < 0 := by omega
  have b2 : ¬ 7 < x := by omega
  have b3 : ¬ n < 0 := by omega
  have b4 : ¬ 65535 < n := by omega
  clear hB g1
  have z0 : ((k : Int) == 0) = false := by rw [beq_eq_false_iff_ne]; omega
  have z0n : ((k : Int) != 0) = true := by rw [bne_iff_ne]; omega
  have z1 : ((k : Int) == 15) = false := by rw [beq_eq_false_iff_ne]; omega
  have z1n : ((k : Int) != 15) = true := by rw [bne_iff_ne]; omega
  have z2 : ((k : Int) == 11) = false := by rw [beq_eq_false_iff_ne]; omega
  have z2n : ((k : Int) != 11) = true := by rw [bne_iff_ne]; omega
  have z3 : (2 : Int) ≤ k := by omega
  have z4 : ¬ (k : Int) ≤ 10 := by omega
  clear hk
  go_enter Tryd.func4, Tryd.ntmps4
  go_upto_region 1 with (fail)
  rw [← hW]
  clear hW
  go_wp2
  go_ret
  exact ⟨by first | rfl | simp, HG.out⟩
set_option maxHeartbeats 1600000 in
theorem rmay_out (k : Nat) (x n : Int) (hk : k < 256) (w : World) (h1 : ¬ (k < 16 ∧ 0 ≤ x ∧ x ≤ 7 ∧ 0 ≤ n ∧ n ≤ 65535)) : Calls Tryd.prog 4 #[.agg #[.int .u8 k, .int .i64 x, .int .i64 n]] w fun e w' => e = .returned (.bool false) ∧ w.grownBy w' none := by
  obtain ⟨W1, hW, g1, hB⟩ := ibox w 26 #[.int .u8 k, .int .i64 x, .int .i64 n]
  obtain ⟨c0, c1, c2⟩ := in3 hB
  have hw : IntKind.i64.wrap (k : Int) = (k : Int) := by rw [IntKind.wrap_i64]; omega
  have HG := Lib.hid g1
  clear hB g1
  have a1 : (15 : Int) < k ∨ (¬ (15 : Int) < k ∧ x < 0) ∨ (¬ (15 : Int) < k ∧ ¬ x < 0 ∧ 7 < x) ∨ (¬ (15 : Int) < k ∧ ¬ x < 0 ∧ ¬ 7 < x ∧ n < 0) ∨ (¬ (15 : Int) < k ∧ ¬ x < 0 ∧ ¬ 7 < x ∧ ¬ n < 0 ∧ 65535 < n) := by omega
  clear h1
  rcases a1 with a | ⟨a, b⟩ | ⟨a, b, c⟩ | ⟨a, b, c, d⟩ | ⟨a, b, c, d, e⟩
  all_goals
    go_enter Tryd.func4, Tryd.ntmps4
    go_upto_region 1 with (fail)
    rw [← hW]
    clear hW
    go_wp2
    go_ret
    exact ⟨rfl, HG.out⟩
theorem rmay_any (k : Nat) (x n : Int) (hk : k < 256) (w : World) : Calls Tryd.prog 4 #[.agg #[.int .u8 k, .int .i64 x, .int .i64 n]] w fun e w' => e = .returned (.bool (mayI k x n)) ∧ w.grownBy w' none := by
  by_cases h1 : k < 16 ∧ 0 ≤ x ∧ x ≤ 7 ∧ 0 ≤ n ∧ n ≤ 65535
  case neg =>
    rw [show mayI k x n = false from by
      cases e : mayI k x n
      · rfl
      · exact absurd (mayI_facts e) h1]
    exact rmay_out k x n hk w h1
  have e1 : mxX k = if k = 0 ∨ k = 15 ∨ k = 11 then 0 else 7 := rfl
  have e2 : mxN k = if k = 0 ∨ k = 15 then 0 else if 2 ≤ k ∧ k ≤ 10 then 7 else 65535 := by unfold mxN rgB; simp
  have val : ∀ b : Bool, (b = true ↔ k < 16 ∧ (0 ≤ x ∧ x ≤ mxX k) ∧ (0 ≤ n ∧ n ≤ mxN k)) → mayI k x n = b := fun b hb => by rw [Bool.eq_iff_iff, mayI_iff, hb]
  have key : k = 0 ∨ k = 15 ∨ k = 11 ∨ (2 ≤ k ∧ k ≤ 10) ∨ k = 1 ∨ (12 ≤ k ∧ k ≤ 14) := by omega
  rcases key with h | h | h | h | h | h
  · rw [if_pos (by omega)] at e1 e2
    by_cases hn : n = 0
    · rw [val (x == 0) (by rw [e1, e2, beq_iff_eq]; omega)]
      exact rmay_s0z k x n w h1 h hn
    · rw [val false (by rw [e1, e2]; simp; omega)]
      exact rmay_s0 k x n w h1 h hn
  · rw [if_pos (by omega)] at e1 e2
    by_cases hn : n = 0
    · rw [val (x == 0) (by rw [e1, e2, beq_iff_eq]; omega)]
      exact rmay_s15z k x n w h1 h hn
    · rw [val false (by rw [e1, e2]; simp; omega)]
      exact rmay_s15 k x n w h1 h hn
  · rw [if_pos (by omega)] at e1
    rw [if_neg (by omega), if_neg (by omega)] at e2
    rw [val (x == 0) (by rw [e1, e2, beq_iff_eq]; omega)]
    exact rmay_j k x n w h1 h
  · rw [if_neg (by omega)] at e1
    rw [if_neg (by omega), if_pos h] at e2
    by_cases hn : n ≤ 7
    · rw [val true (by rw [e1, e2]; simp; omega)]
      exact rmay_r k x n w h1 h hn
    · rw [val false (by rw [e1, e2]; simp; omega)]
      exact rmay_rn k x n w h1 h (by omega)
  · rw [if_neg (by omega)] at e1
    rw [if_neg (by omega), if_neg (by omega)] at e2
    rw [val true (by rw [e1, e2]; simp; omega)]
    exact rmay_o1 k x n w h1 h
  · rw [if_neg (by omega)] at e1
    rw [if_neg (by omega), if_neg (by omega)] at e2
    rw [val true (by rw [e1, e2]; simp; omega)]
    exact rmay_o2 k x n w h1 h
end Go.Proofs.YteoaaogfloljlaaDoor

/- Package code: Put, by its contract. -/
namespace Go.Proofs.YteoaaogfloljlaaDoor
open Go.RowKit Go.Lib
set_option linter.unusedVariables false

/-- An instruction's bytes. -/
def ptI (k : Nat) (x n : Int) : ByteArray := ⟨#[UInt8.ofNat k, UInt8.ofNat x.toNat, UInt8.ofNat (n % 256).toNat, UInt8.ofNat (n / 256 % 256).toNat]⟩
/-- What is kept between two calls on the writer: the instruction's cells, the writer, what lies below. -/
def PkI (w0 W : World) (b k : Nat) (x n : Int) (l : List UInt8) : Prop :=
  Blk W w0.heap.size 26 #[.int .u8 k, .int .i64 x, .int .i64 n] ∧ Wr W b b (some l) ∧ Below w0.heap.size w0 W ∧ w0.heap.size < b ∧ b < W.heap.size
section
variable {w0 W W' : World} {b k : Nat} {x n : Int} {l l' : List UInt8}
theorem PkI.step (h : PkI w0 W b k x n l) (h' : Wr W' b b (some l')) (hb : Below b W W') : PkI w0 W' b k x n l' :=
  ⟨h.1.below hb h.2.2.2.1, h', h.2.2.1.trans (hb.mono (Nat.le_of_lt h.2.2.2.1)), h.2.2.2.1, Nat.lt_of_lt_of_le h.2.2.2.2 hb.size⟩
theorem PkI.cells (h : PkI w0 W b k x n l) : W.cell? ⟨w0.heap.size, 0, none⟩ = some (.int .u8 k) ∧ W.cell? ⟨w0.heap.size, 1, none⟩ = some (.int .i64 x) ∧ W.cell? ⟨w0.heap.size, 2, none⟩ = some (.int .i64 n) := ⟨h.1.cell 0, h.1.cell 1, h.1.cell 2⟩
theorem pki_byte (m : Int) (h : PkI w0 W b k x n l) (hl : l.length ≤ 1000) (h0 : 0 ≤ m ∧ m ≤ 255) :
    Calls Tryd.prog 66 #[.pointer (some ⟨b, 0, none⟩), .int .i64 m] W fun r w' => r = .returned (.tuple #[]) ∧ PkI w0 w' b k x n (l ++ [UInt8.ofNat m.toNat]) := by
  have hx : wrNext (some l) 0 m .empty = some (l ++ [UInt8.ofNat m.toNat]) := by simp [wrNext, stepBytes, h0.1, h0.2]
  have := wbyte_any b b m .empty (some l) W h.2.1 (Nat.le_refl _) (Nat.le_of_lt h.2.2.2.2) (fun l' e => by injection e with e; subst e; omega)
  rw [hx] at this
  exact this.mono fun _ _ ⟨e, q, c⟩ => ⟨e, h.step q c⟩
theorem pki_two (m : Int) (h : PkI w0 W b k x n l) (hl : l.length ≤ 1000) (h0 : 0 ≤ m ∧ m ≤ 65535) :
    Calls Tryd.prog 67 #[.pointer (some ⟨b, 0, none⟩), .int .i64 m] W fun r w' => r = .returned (.tuple #[]) ∧ PkI w0 w' b k x n (l ++ [UInt8.ofNat (m % 256).toNat, UInt8.ofNat (m / 256 % 256).toNat]) := by
  have hx : wrNext (some l) 1 m .empty = some (l ++ [UInt8.ofNat (m % 256).toNat, UInt8.ofNat (m / 256 % 256).toNat]) := by simp [wrNext, stepBytes, h0.1, h0.2, Bt.put]
  have := wtwo_any b b m .empty (some l) W h.2.1 (Nat.le_refl _) (Nat.le_of_lt h.2.2.2.2) (fun l' e => by injection e with e; subst e; omega)
  rw [hx] at this
  exact this.mono fun _ _ ⟨e, q, c⟩ => ⟨e, h.step q c⟩
theorem pki_err (h : PkI w0 W b k x n l) : Calls Tryd.prog 69 #[.pointer (some ⟨b, 0, none⟩)] W fun r w' => r = .returned (.int .i64 0) ∧ W = w' := werr_any b b _ W h.2.1
theorem pki_all (h : PkI w0 W b k x n l) : Calls Tryd.prog 68 #[.pointer (some ⟨b, 0, none⟩)] W fun r w' => r = .returned (.string ⟨l.toArray⟩) ∧ W = w' := wbytes_any b b _ W h.2.1
end
theorem pki_new {w0 W : World} {k : Nat} {x n : Int} (hb : Blk W w0.heap.size 26 #[.int .u8 k, .int .i64 x, .int .i64 n]) (hl : Below w0.heap.size w0 W) : PkI w0 (W.alloc (.cells #[.int .i64 0, .slice none 0 0] 112)) W.heap.size k x n [] :=
  ⟨hb.alloc _, ⟨.slice none 0 0, Blk.new _ _ _, World.ownsRow_nil _ _ _ _⟩, hl.alloc (Nat.le_of_lt hb.lt) _, hb.lt, by simp⟩
set_option maxHeartbeats 1600000 in
theorem put_yes (k : Nat) (x n : Int) (hk : k < 256) (w : World) (hG : Nm w) (hm : mayI k x n = true) : Calls Tryd.prog 56 #[.agg #[.int .u8 k, .int .i64 x, .int .i64 n]] w fun e w' => e = .returned (.tuple #[.string (ptI k x n), .int .i64 0]) ∧ w.grownBy w' none := by
  obtain ⟨k1, x1, x2, n1, n2⟩ := mayI_facts hm
  obtain ⟨W1, hW, g1, hB⟩ := ibox w 26 #[.int .u8 k, .int .i64 x, .int .i64 n]
  obtain ⟨c0, c1, c2⟩ := in3 hB
  have hw : IntKind.i64.wrap (k : Int) = (k : Int) := by rw [IntKind.wrap_i64]; omega
  have HM := Lib.hid (may_any k x n hk W1 (hG.grown g1 (by simp)))
  rw [hm] at HM
  have HB := Lib.hid hB
  have HG := Lib.hid g1
  have HP := Lib.hid (show (⟨([] ++ [UInt8.ofNat (k : Int).toNat] ++ [UInt8.ofNat x.toNat] ++ [UInt8.ofNat (n % 256).toNat, UInt8.ofNat (n / 256 % 256).toNat]).toArray⟩ : ByteArray) = ptI k x n from by simp [ptI])
  have F1 := Lib.hid (show 0 ≤ (k : Int) ∧ (k : Int) ≤ 255 from by omega)
  have F2 := Lib.hid (show 0 ≤ x ∧ x ≤ 255 from by omega)
  have F3 := Lib.hid (show 0 ≤ n ∧ n ≤ 65535 from ⟨n1, n2⟩)
  clear hB g1 hG hm k1 x1 x2 n1 n2
  go_enter Tryd.func56, Tryd.ntmps56
  go_upto_region 1 with (fail)
  rw [← hW]
  clear hW
  go_upto_region 4 with (go_at_call 11; (with_reducible refine HM.out.mono ?_); rintro e w2 ⟨rfl, g2⟩; have B2 := Lib.hid (HB.out.only g2 (by simp)); have G2 := Lib.hid (only_trans HG.out g2); clear g2 c0 c1 c2)
  have P0 := Lib.hid (pki_new (w0 := w) B2.out (below_of_only G2.out (Nat.le_refl _) (by simp)))
  obtain ⟨c0, c1, c2⟩ := P0.out.cells
  obtain ⟨b, hb⟩ : ∃ b, b = w2.heap.size := ⟨_, rfl⟩
  obtain ⟨w3, hw3⟩ : ∃ w3, w3 = w2.alloc (.cells #[.int .i64 0, .slice none 0 0] 112) := ⟨_, rfl⟩
  rw [← hw3] at P0 c0 c1 c2 ⊢
  rw [← hb] at P0 ⊢
  clear hb hw3
  go_wp2_with (first
    | (go_at_call 66; (with_reducible refine (pki_byte _ P0.out (by decide) F1.out).mono ?_); rintro e w4 ⟨rfl, p1⟩; have P1 := Lib.hid p1; clear c0 c1 c2; obtain ⟨c0, c1, c2⟩ := p1.cells; clear p1)
    | (go_at_call 66; (with_reducible refine (pki_byte _ P1.out (by simp) F2.out).mono ?_); rintro e w5 ⟨rfl, p2⟩; have P2 := Lib.hid p2; clear c0 c1 c2; obtain ⟨c0, c1, c2⟩ := p2.cells; clear p2)
    | (go_at_call 67; (with_reducible refine (pki_two _ P2.out (by simp) F3.out).mono ?_); rintro e w6 ⟨rfl, p3⟩; have P3 := Lib.hid p3; clear c0 c1 c2 p3)
    | (go_at_call 68; (with_reducible refine (pki_all P3.out).mono ?_); rintro e w7 ⟨rfl, rfl⟩)
    | (go_at_call 69; (with_reducible refine (pki_err P3.out).mono ?_); rintro e w8 ⟨rfl, rfl⟩))
  go_ret2
  exact ⟨rfl, ⟨P3.out.2.2.1.os, P3.out.2.2.1.tape, P3.out.2.2.1.output, P3.out.2.2.1.size, fun i hi _ => P3.out.2.2.1.block i hi⟩⟩
set_option maxHeartbeats 1600000 in
theorem put_no (k : Nat) (x n : Int) (hk : k < 256) (w : World) (hG : Nm w) (hm : mayI k x n = false) : Calls Tryd.prog 56 #[.agg #[.int .u8 k, .int .i64 x, .int .i64 n]] w fun e w' => e = .returned (.tuple #[.string ⟨#[]⟩, .int .i64 12]) ∧ w.grownBy w' none := by
  obtain ⟨W1, hW, g1, hB⟩ := ibox w 26 #[.int .u8 k, .int .i64 x, .int .i64 n]
  obtain ⟨c0, c1, c2⟩ := in3 hB
  have HM := Lib.hid (may_any k x n hk W1 (hG.grown g1 (by simp)))
  rw [hm] at HM
  have HG := Lib.hid g1
  clear hB g1 hG hm
  go_enter Tryd.func56, Tryd.ntmps56
  go_upto_region 1 with (fail)
  rw [← hW]
  clear hW
  go_wp2_with (go_at_call 11; (with_reducible refine HM.out.mono ?_); rintro e w2 ⟨rfl, g2⟩; have G2 := Lib.hid (only_trans HG.out g2); clear g2 c0 c1 c2)
  go_ret2
  exact ⟨rfl, G2.out⟩
end Go.Proofs.YteoaaogfloljlaaDoor

/- Programs of text: lines, words, and what a text makes, in plain form. -/
namespace Go.Proofs.YteoaaogfloljlaaDoor
open Go.RowKit Go.Lib
set_option linter.unusedVariables false

/-- A text's parts between a byte. -/
def Am.spl (y : UInt8) : List UInt8 → List (List UInt8)
  | [] => [[]]
  | c :: l => if c = y then [] :: Am.spl y l else (c :: (Am.spl y l).headD []) :: (Am.spl y l).tail
theorem Am.spl_ne (y : UInt8) : ∀ l, Am.spl y l ≠ []
  | [] => by simp [Am.spl]
  | c :: l => by unfold Am.spl; split <;> simp
theorem Am.spl_cons (y : UInt8) (l : List UInt8) : ∃ a r, Am.spl y l = a :: r := by
  cases h : Am.spl y l with
  | nil => exact absurd h (Am.spl_ne y l)
  | cons a r => exact ⟨a, r, rfl⟩
theorem Am.spl_none (y : UInt8) : ∀ l, y ∉ l → Am.spl y l = [l]
  | [], _ => rfl
  | c :: l, h => by
    simp only [List.mem_cons, not_or] at h
    rw [Am.spl, if_neg (fun e => h.1 e.symm), Am.spl_none y l h.2]
    rfl
theorem Am.spl_at (y : UInt8) : ∀ (l r : List UInt8), y ∉ l → Am.spl y (l ++ y :: r) = l :: Am.spl y r
  | [], r, _ => by simp [Am.spl]
  | c :: l, r, h => by
    simp only [List.mem_cons, not_or] at h
    rw [List.cons_append, Am.spl, if_neg (fun e => h.1 e.symm), Am.spl_at y l r h.2]
    rfl
theorem Am.spl_len (y : UInt8) : ∀ l, (Am.spl y l).length = l.count y + 1
  | [] => rfl
  | c :: l => by
    unfold Am.spl
    by_cases h : c = y
    · subst h
      rw [if_pos rfl, List.length_cons, Am.spl_len c l, List.count_cons_self]
    · rw [if_neg h, List.count_cons_of_ne h, ← Am.spl_len y l]
      obtain ⟨a, r, e⟩ := Am.spl_cons y l
      simp [e]
theorem Am.spl_sum (y : UInt8) : ∀ l, ∀ x ∈ Am.spl y l, x.length ≤ l.length
  | [], x, hx => by simp [Am.spl] at hx; simp [hx]
  | c :: l, x, hx => by
    unfold Am.spl at hx
    obtain ⟨a, r, e⟩ := Am.spl_cons y l
    have ih := Am.spl_sum y l
    by_cases h : c = y
    · rw [if_pos h, List.mem_cons] at hx
      rcases hx with rfl | hx
      · simp
      · have := ih x hx
        simp; omega
    · rw [if_neg h, e, List.mem_cons] at hx
      rcases hx with rfl | hx
      · have := ih a (by rw [e]; simp)
        simp; omega
      · have := ih x (by rw [e]; exact List.mem_cons_of_mem _ hx)
        simp; omega
/-- The library's Split, at a byte. -/
theorem Am.splitK_one (y : UInt8) : ∀ (l : List UInt8) (k : Nat), l.count y = k → Go.Lib.splitK [y] 0 k l = Am.spl y l
  | [], k, h => by
    simp at h
    subst h
    rfl
  | c :: l, k, h => by
    by_cases e : c = y
    · subst e
      rw [List.count_cons_self] at h
      obtain ⟨k', rfl⟩ : ∃ k', k = k' + 1 := ⟨l.count c, h.symm⟩
      have hix : Go.Lib.index (c :: l) [c] = 0 := by rw [Go.Lib.index]; simp [List.isPrefixOf]
      rw [Am.spl, if_pos rfl, Go.Lib.splitK, hix, ← Am.splitK_one c l k' (by omega)]
      simp
    · rw [List.count_cons_of_ne e] at h
      rw [Am.spl, if_neg e]
      cases k with
      | zero =>
        rw [Am.spl_none y l (by rw [List.count_eq_zero] at h; exact h)]
        rfl
      | succ k =>
        have ih := Am.splitK_one y l (k + 1) h
        have hm : Go.Lib.index l [y] ≠ -1 := fun q => by
          have := Go.Lib.count_miss q
          rw [Go.Lib.count_one] at this
          omega
        have hge := Go.Lib.index_ge l [y]
        obtain ⟨i, hi⟩ : ∃ i : Nat, Go.Lib.index l [y] = i := ⟨(Go.Lib.index l [y]).toNat, by omega⟩
        have hp : ([y] : List UInt8).isPrefixOf (c :: l) = false := by simp [List.isPrefixOf, Ne.symm e]
        have hix : Go.Lib.index (c :: l) [y] = ((i + 1 : Nat) : Int) := by
          rw [Go.Lib.index, hp, hi]
          have : ((i : Int) == -1) = false := by rw [beq_eq_false_iff_ne]; omega
          simp [this]
        rw [← ih, Go.Lib.splitK, Go.Lib.splitK, hix, hi]
        have n1 : (((i + 1 : Nat) : Int) == -1) = false := by rw [beq_eq_false_iff_ne]; omega
        have n2 : ((i : Int) == -1) = false := by rw [beq_eq_false_iff_ne]; omega
        simp [n1, n2]
        intro z
        omega
theorem Am.split_all (s : ByteArray) (y : UInt8) : (Go.Lib.splitB ⟨#[y]⟩ 0 (Go.Lib.countB s ⟨#[y]⟩) s).map (·.data.toList) = Am.spl y s.data.toList := by
  rw [Go.Lib.splitB_data]
  exact Am.splitK_one y s.data.toList _ (Go.Lib.count_one y s.data.toList).symm

/-- Is a word one that a label may have? -/
def Am.isName (w : List UInt8) : Bool := decide (1 ≤ w.length) && (decide (w.length ≤ 16) && w.all fun c => decide (97 ≤ c.toNat) && decide (c.toNat ≤ 122))
/-- The number that decimal digits go on to make, if it is not above another one. -/
def Am.dec (most : Nat) : List UInt8 → Nat → Option Nat
  | [], n => some n
  | c :: l, n => if c.toNat < 48 ∨ 57 < c.toNat then none else if most < n * 10 + (c.toNat - 48) then none else Am.dec most l (n * 10 + (c.toNat - 48))
/-- The number of a word. -/
def Am.num (w : List UInt8) (most : Nat) : Option Nat := if w = [] ∨ (1 < w.length ∧ w.head? = some 48) then none else Am.dec most w 0
/-- The register of a word. -/
def Am.reg (w : List UInt8) : Option Nat := if w.head? = some 114 then Am.num w.tail 7 else none
/-- The number of a word, or the name that it is. -/
def Am.val (w : List UInt8) : Option (Nat × List UInt8) := if Am.isName w then some (0, w) else (Am.num w 65535).map fun n => (n, [])
theorem Am.dec_le {most : Nat} : ∀ (l : List UInt8) (n m : Nat), n ≤ most → Am.dec most l n = some m → m ≤ most
  | [], n, m, h, e => by simp [Am.dec] at e; omega
  | c :: l, n, m, h, e => by
    unfold Am.dec at e
    split at e
    · cases e
    · split at e
      · cases e
      · exact Am.dec_le l _ m (by omega) e
theorem Am.num_le {w : List UInt8} {most n : Nat} (h : Am.num w most = some n) : n ≤ most := by
  unfold Am.num at h
  split at h
  · cases h
  · exact Am.dec_le w 0 n (Nat.zero_le _) h
theorem Am.reg_le {w : List UInt8} {n : Nat} (h : Am.reg w = some n) : n ≤ 7 := by
  unfold Am.reg at h
  split at h
  · exact Am.num_le h
  · cases h
theorem Am.val_le {w m : List UInt8} {n : Nat} (h : Am.val w = some (n, m)) : n ≤ 65535 ∧ (m = [] ∨ (m = w ∧ n = 0 ∧ Am.isName w = true)) := by
  unfold Am.val at h
  split at h
  · rename_i q
    simp at h
    exact ⟨by omega, Or.inr ⟨h.2.symm, h.1.symm, q⟩⟩
  · cases e : Am.num w 65535 with
    | none => rw [e] at h; cases h
    | some k =>
      rw [e] at h
      simp at h
      exact ⟨by have := Am.num_le e; omega, Or.inl (by first | exact h.2 | exact h.2.symm)⟩
/-- An instruction's bytes. -/
def Am.pt (k x n : Nat) : List UInt8 := [UInt8.ofNat k, UInt8.ofNat x, UInt8.ofNat (n % 256), UInt8.ofNat (n / 256 % 256)]
/-- What an instruction's words make: bytes, and a name for the last two; or nothing. -/
def Am.ins (k : Nat) (r : List (List UInt8)) : Option (List UInt8 × List UInt8) :=
  if k = 0 ∨ k = 15 then (if r = [] then some (Am.pt k 0 0, []) else none)
  else if k = 11 then (if r.length = 1 then (Am.val (r.getD 0 [])).map fun v => (Am.pt k 0 v.1, v.2) else none)
  else if r.length = 2 then (Am.reg (r.getD 0 [])).bind fun x =>
    if k = 14 then (Am.num (r.getD 1 []) 65535).map fun n => (Am.pt k x n, [])
    else if rgB k then (Am.reg (r.getD 1 [])).map fun n => (Am.pt k x n, [])
    else (Am.val (r.getD 1 [])).map fun v => (Am.pt k x v.1, v.2)
  else none
/-- What a line is: passed over (0), a label (1), bytes with a name for the last two (2), or wrong (3). -/
structure Am.Ln where
  kind : Nat
  bs : List UInt8
  nm : List UInt8
def Am.lnO (o : Option (List UInt8 × List UInt8)) : Am.Ln := match o with | some v => ⟨2, v.1, v.2⟩ | none => ⟨3, [], []⟩
def Am.sen (v : List UInt8) (r : List (List UInt8)) : Am.Ln :=
  if v = [98, 121, 116, 101] then Am.lnO (if r.length = 1 then (Am.num (r.getD 0 []) 255).map fun n => ([UInt8.ofNat n], []) else none)
  else if v = [116, 119, 111] then Am.lnO (if r.length = 1 then (Am.val (r.getD 0 [])).map fun q => ([UInt8.ofNat (q.1 % 256), UInt8.ofNat (q.1 / 256 % 256)], q.2) else none)
  else if (ndV ⟨v.toArray⟩).2 = true then Am.lnO (Am.ins (ndV ⟨v.toArray⟩).1.toNat r) else ⟨3, [], []⟩
def Am.line (s : List UInt8) : Am.Ln :=
  if s = [] ∨ s.head? = some 35 then ⟨0, [], []⟩
  else if s.getLast? = some 58 then (if Am.isName s.dropLast then ⟨1, [], s.dropLast⟩ else ⟨3, [], []⟩)
  else Am.sen ((Am.spl 32 s).headD []) (Am.spl 32 s).tail
/-- What was read of a text: the program, labels with their places, names that wait for their places (line, name, place of the two bytes). -/
structure Am.St where
  pr : List UInt8
  lb : List (List UInt8 × Nat)
  ws : List (Nat × List UInt8 × Nat)
def Am.look (lb : List (List UInt8 × Nat)) (n : List UInt8) : Option Nat := (lb.find? fun x => decide (x.1 = n)).map (·.2)
/-- What a line (number i) makes of what was read; or why it is wrong. -/
def Am.one (i : Nat) (l : Am.Ln) (st : Am.St) : Int × Am.St :=
  if l.kind = 0 then (0, st)
  else if l.kind = 1 then (if (Am.look st.lb l.nm).isSome then (14, st) else (0, ⟨st.pr, st.lb ++ [(l.nm, st.pr.length)], st.ws⟩))
  else if l.kind = 2 then (if 1024 < st.pr.length + l.bs.length then (4, st) else (0, ⟨st.pr ++ l.bs, st.lb, if l.nm = [] then st.ws else st.ws ++ [(i, l.nm, st.pr.length + l.bs.length - 2)]⟩))
  else (3, st)
/-- All lines: why one is wrong, which, and what was read. -/
def Am.go : Nat → List (List UInt8) → Am.St → Int × Nat × Am.St
  | _, [], st => (0, 0, st)
  | i, l :: r, st => if (Am.one (i + 1) (Am.line l) st).1 = 0 then Am.go (i + 1) r (Am.one (i + 1) (Am.line l) st).2 else ((Am.one (i + 1) (Am.line l) st).1, i + 1, st)
/-- A number's two bytes put at a place. -/
def Am.put2 (p : List UInt8) (q n : Nat) : List UInt8 := (p.set q (UInt8.ofNat (n % 256))).set (q + 1) (UInt8.ofNat (n / 256 % 256))
def Am.ful (lb : List (List UInt8 × Nat)) : List (Nat × List UInt8 × Nat) → List UInt8 → Int × Nat × List UInt8
  | [], p => (0, 0, p)
  | x :: r, p => match Am.look lb x.2.1 with
    | none => (14, x.1, p)
    | some a => Am.ful lb r (Am.put2 p x.2.2 a)
def Am.st0 : Am.St := ⟨[], [], []⟩
/-- What a text makes: why it is wrong, at which line, the program, the labels. -/
def Am.read (s : List UInt8) : Int × Nat × List UInt8 × List (List UInt8 × Nat) :=
  if 65536 < s.length then (4, 0, [], [])
  else if (Am.go 0 (Am.spl 10 s) Am.st0).1 = 0 then
    (if (Am.ful (Am.go 0 (Am.spl 10 s) Am.st0).2.2.lb (Am.go 0 (Am.spl 10 s) Am.st0).2.2.ws (Am.go 0 (Am.spl 10 s) Am.st0).2.2.pr).1 = 0 then
      (0, 0, (Am.ful (Am.go 0 (Am.spl 10 s) Am.st0).2.2.lb (Am.go 0 (Am.spl 10 s) Am.st0).2.2.ws (Am.go 0 (Am.spl 10 s) Am.st0).2.2.pr).2.2, (Am.go 0 (Am.spl 10 s) Am.st0).2.2.lb)
     else ((Am.ful (Am.go 0 (Am.spl 10 s) Am.st0).2.2.lb (Am.go 0 (Am.spl 10 s) Am.st0).2.2.ws (Am.go 0 (Am.spl 10 s) Am.st0).2.2.pr).1, (Am.ful (Am.go 0 (Am.spl 10 s) Am.st0).2.2.lb (Am.go 0 (Am.spl 10 s) Am.st0).2.2.ws (Am.go 0 (Am.spl 10 s) Am.st0).2.2.pr).2.1, [], []))
  else ((Am.go 0 (Am.spl 10 s) Am.st0).1, (Am.go 0 (Am.spl 10 s) Am.st0).2.1, [], [])

/-- Two lines ahead that are passed over. -/
def Am.shW (ws : List (Nat × List UInt8 × Nat)) : List (Nat × List UInt8 × Nat) := ws.map fun x => (x.1 + 2, x.2)
def Am.shS (st : Am.St) : Am.St := ⟨st.pr, st.lb, Am.shW st.ws⟩
theorem Am.one_sh (i : Nat) (l : Am.Ln) (st : Am.St) : Am.one (i + 2) l (Am.shS st) = ((Am.one i l st).1, Am.shS (Am.one i l st).2) := by
  unfold Am.one
  by_cases h0 : l.kind = 0
  · simp only [h0, if_true]
  · by_cases h1 : l.kind = 1
    · simp only [h1, if_true, Nat.one_ne_zero, if_false]
      by_cases h : (Am.look st.lb l.nm).isSome = true
      · rw [if_pos h, if_pos (show (Am.look (Am.shS st).lb l.nm).isSome = true from h)]
      · rw [if_neg h, if_neg (show ¬ (Am.look (Am.shS st).lb l.nm).isSome = true from h)]
        rfl
    · by_cases h2 : l.kind = 2
      · rw [if_neg h0, if_neg h1, if_pos h2, if_neg h0, if_neg h1, if_pos h2]
        by_cases h : 1024 < st.pr.length + l.bs.length
        · rw [if_pos h, if_pos (show 1024 < (Am.shS st).pr.length + l.bs.length from h)]
        · rw [if_neg h, if_neg (show ¬ 1024 < (Am.shS st).pr.length + l.bs.length from h)]
          by_cases hn : l.nm = []
          · simp only [hn, if_true]; rfl
          · simp only [hn, if_false]
            simp [Am.shS, Am.shW]
      · rw [if_neg h0, if_neg h1, if_neg h2, if_neg h0, if_neg h1, if_neg h2]
theorem Am.go_sh : ∀ (l : List (List UInt8)) (i : Nat) (st : Am.St), (Am.go (i + 2) l (Am.shS st)).1 = (Am.go i l st).1 ∧ ((Am.go i l st).1 = 0 → (Am.go (i + 2) l (Am.shS st)).2.2 = Am.shS (Am.go i l st).2.2) ∧ ((Am.go i l st).1 ≠ 0 → (Am.go (i + 2) l (Am.shS st)).2.1 = (Am.go i l st).2.1 + 2)
  | [], i, st => ⟨rfl, fun _ => rfl, fun h => absurd rfl h⟩
  | x :: r, i, st => by
    have e := Am.one_sh (i + 1) (Am.line x) st
    unfold Am.go
    rw [show i + 2 + 1 = i + 1 + 2 from by omega, e]
    by_cases h : (Am.one (i + 1) (Am.line x) st).1 = 0
    · rw [if_pos h, if_pos h]
      exact Am.go_sh r (i + 1) _
    · rw [if_neg h, if_neg h]
      exact ⟨rfl, fun q => absurd q h, fun _ => by simp⟩
theorem Am.ful_sh (lb : List (List UInt8 × Nat)) : ∀ (ws : List (Nat × List UInt8 × Nat)) (p : List UInt8), (Am.ful lb (Am.shW ws) p).1 = (Am.ful lb ws p).1 ∧ (Am.ful lb (Am.shW ws) p).2.2 = (Am.ful lb ws p).2.2 ∧ ((Am.ful lb ws p).1 ≠ 0 → (Am.ful lb (Am.shW ws) p).2.1 = (Am.ful lb ws p).2.1 + 2)
  | [], p => ⟨rfl, rfl, fun h => absurd rfl h⟩
  | x :: r, p => by
    simp only [Am.shW, List.map_cons, Am.ful]
    cases Am.look lb x.2.1 with
    | none => exact ⟨rfl, rfl, fun _ => rfl⟩
    | some a => exact Am.ful_sh lb r _
theorem Am.read_sh (x s : List UInt8) (h1 : x.head? = some 35) (h2 : (10 : UInt8) ∉ x) (hl : (x ++ 10 :: 10 :: s).length ≤ 65536) :
    (Am.read (x ++ 10 :: 10 :: s)).1 = (Am.read s).1 ∧ (Am.read (x ++ 10 :: 10 :: s)).2.2.1 = (Am.read s).2.2.1 ∧ ((Am.read s).1 = 0 → (Am.read (x ++ 10 :: 10 :: s)).2.1 = 0 ∧ (Am.read s).2.1 = 0) ∧ ((Am.read s).1 ≠ 0 → (Am.read (x ++ 10 :: 10 :: s)).2.1 = (Am.read s).2.1 + 2) := by
  have hl2 : ¬ 65536 < s.length := by simp at hl; omega
  have e0 : Am.spl 10 (x ++ 10 :: 10 :: s) = x :: [] :: Am.spl 10 s := by
    rw [Am.spl_at 10 x _ h2]
    have := Am.spl_at 10 [] s (by simp)
    rw [List.nil_append] at this
    rw [this]
  have k1 : Am.line x = ⟨0, [], []⟩ := by unfold Am.line; rw [if_pos (Or.inr h1)]
  have k2 : Am.line [] = ⟨0, [], []⟩ := by unfold Am.line; rw [if_pos (Or.inl rfl)]
  have e1 : Am.go 0 (Am.spl 10 (x ++ 10 :: 10 :: s)) Am.st0 = Am.go 2 (Am.spl 10 s) (Am.shS Am.st0) := by
    rw [e0]
    simp only [Am.go, k1, k2, Am.one, if_true]
    rfl
  obtain ⟨g1, g2, g3⟩ := Am.go_sh (Am.spl 10 s) 0 Am.st0
  rw [Nat.zero_add] at g1 g2 g3
  unfold Am.read
  rw [if_neg (by omega), if_neg hl2, e1]
  by_cases h : (Am.go 0 (Am.spl 10 s) Am.st0).1 = 0
  · rw [if_pos (by rw [g1]; exact h), if_pos h, g2 h]
    obtain ⟨f1, f2, f3⟩ := Am.ful_sh (Am.go 0 (Am.spl 10 s) Am.st0).2.2.lb (Am.go 0 (Am.spl 10 s) Am.st0).2.2.ws (Am.go 0 (Am.spl 10 s) Am.st0).2.2.pr
    by_cases q : (Am.ful (Am.go 0 (Am.spl 10 s) Am.st0).2.2.lb (Am.go 0 (Am.spl 10 s) Am.st0).2.2.ws (Am.go 0 (Am.spl 10 s) Am.st0).2.2.pr).1 = 0
    · rw [if_pos (show (Am.ful (Am.shS (Am.go 0 (Am.spl 10 s) Am.st0).2.2).lb (Am.shS (Am.go 0 (Am.spl 10 s) Am.st0).2.2).ws (Am.shS (Am.go 0 (Am.spl 10 s) Am.st0).2.2).pr).1 = 0 from f1.trans q), if_pos q]
      exact ⟨rfl, f2, fun _ => ⟨rfl, rfl⟩, fun h => absurd rfl h⟩
    · rw [if_neg (show ¬ (Am.ful (Am.shS (Am.go 0 (Am.spl 10 s) Am.st0).2.2).lb (Am.shS (Am.go 0 (Am.spl 10 s) Am.st0).2.2).ws (Am.shS (Am.go 0 (Am.spl 10 s) Am.st0).2.2).pr).1 = 0 from fun z => q (f1.symm.trans z)), if_neg q]
      exact ⟨f1, rfl, fun z => absurd z q, fun z => f3 z⟩
  · rw [if_neg (by rw [g1]; exact h), if_neg h]
    exact ⟨g1, rfl, fun z => absurd z h, fun z => g3 z⟩
end Go.Proofs.YteoaaogfloljlaaDoor
