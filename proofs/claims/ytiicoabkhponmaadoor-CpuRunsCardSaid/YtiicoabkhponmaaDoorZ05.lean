import Derived.Test.YtiicoabkhponmaaDoorZ04
import Derived.Deep.RegionHeld3
import Derived.Deep.Cut
import Derived.Lib.QuietBelow
import Derived.BigQuiet
set_option linter.all false
/- Package code, and the document's word: which instructions may be, by their contracts. -/
namespace Go.Proofs.YtiicoabkhponmaaDoor
open Go.RowKit Go.Lib
set_option linter.unusedVariables false

theorem ibox (w : World) (t : TypeId) (cs : Array Value) : ∃ W, W = w.alloc (.cells cs t) ∧ w.grownBy W none ∧ Blk W w.heap.size t cs := ⟨_, rfl, only_alloc (only_refl _ _) _, Blk.new w t cs⟩
theorem in3 {W : World} {g : Nat} {t : TypeId} {a b c : Value} (h : Blk W g t #[a, b, c]) : W.cell? ⟨g, 0, none⟩ = some a ∧ W.cell? ⟨g, 1, none⟩ = some b ∧ W.cell? ⟨g, 2, none⟩ = some c := ⟨h.cell 0, h.cell 1, h.cell 2⟩
theorem nm_some {k : Nat} (h : k < 16) : nmL k ≠ ⟨#[]⟩ := by
  intro e
  have := nmL_some ⟨k, h⟩
  apply this
  have := congrArg (fun b : ByteArray => b.data.toList) e
  simpa [nmL] using this
set_option maxHeartbeats 1600000 in
theorem may_any (k : Nat) (x n : Int) (hk : k < 256) (w : World) (hG : Nm w) : Calls Tryd.prog 58 #[.agg #[.int .u8 k, .int .i64 x, .int .i64 n]] w fun e w' => e = .returned (.bool (mayI k x n)) ∧ w.grownBy w' none := by
  obtain ⟨W1, hW, g1, hB⟩ := ibox w 67 #[.int .u8 k, .int .i64 x, .int .i64 n]
  obtain ⟨c0, c1, c2⟩ := in3 hB
  have HN := Lib.hid (fun q => name_any k hk (W1.drewN q) (hG.grown (only_drewN g1 q) (by simp)))
  have HX := Lib.hid (fun W => mostx_any k hk W)
  have HM := Lib.hid (fun W => mostn_any k hk W)
  have HUX := Lib.hid (fun W => upto_any x (mxX k) W)
  have HUN := Lib.hid (fun W => upto_any n (mxN k) W)
  have HV := Lib.hid (show mayI k x n = (decide (k < 16) && decide (0 ≤ x ∧ x ≤ mxX k) && decide (0 ≤ n ∧ n ≤ mxN k)) from rfl)
  have HG := Lib.hid g1
  clear hB g1 hG
  generalize mayI k x n = r at HV ⊢
  generalize decide (0 ≤ x ∧ x ≤ mxX k) = bx at HUX HV
  generalize decide (0 ≤ n ∧ n ≤ mxN k) = bn at HUN HV
  generalize mxX k = mx at *
  generalize mxN k = mn at *
  by_cases h : k < 16
  · have hne := str_ne19 (nm_some h)
    have hne2 : (nmL k).toList ≠ [] := by
      intro e
      rw [e] at hne
      simp at hne
    rw [decide_eq_true h] at HV
    generalize nmL k = nm at *
    cases bx <;> cases bn
    all_goals
      go_enter Tryd.func58, Tryd.ntmps58
      go_upto_region 1 with (fail)
      rw [← hW]
      clear hW
      go_quiet (first
        | (go_at_call 64; with_reducible exact quiet_same (HN.out _))
        | (go_at_call 66; with_reducible exact quiet_same (HX.out _))
        | (go_at_call 67; with_reducible exact quiet_same (HM.out _))
        | (go_at_call 65; with_reducible exact quiet_same (HUX.out _))
        | (go_at_call 65; with_reducible exact quiet_same (HUN.out _)))
      go_wp2
      go_ret
      exact ⟨by rw [HV.out]; first | rfl | (simp; done) | (simp; exact hne2), only_drewN HG.out _⟩
  · have he : nmL k = ⟨#[]⟩ := nmL_none (by omega)
    rw [decide_eq_false h] at HV
    rw [he] at HN
    go_enter Tryd.func58, Tryd.ntmps58
    go_upto_region 1 with (fail)
    rw [← hW]
    clear hW
    go_quiet (first
      | (go_at_call 64; with_reducible exact quiet_same (HN.out _))
      | (go_at_call 66; with_reducible exact quiet_same (HX.out _))
      | (go_at_call 67; with_reducible exact quiet_same (HM.out _))
      | (go_at_call 65; with_reducible exact quiet_same (HUX.out _))
      | (go_at_call 65; with_reducible exact quiet_same (HUN.out _)))
    go_wp2
    go_ret
    exact ⟨by rw [HV.out]; first | rfl | (simp; done) | (simp; exact hne2), only_drewN HG.out _⟩
theorem mayI_iff {k : Nat} {x n : Int} : mayI k x n = true ↔ k < 16 ∧ (0 ≤ x ∧ x ≤ mxX k) ∧ (0 ≤ n ∧ n ≤ mxN k) := by
  unfold mayI
  simp [and_assoc]
theorem mayI_facts {k : Nat} {x n : Int} (h : mayI k x n = true) : k < 16 ∧ 0 ≤ x ∧ x ≤ 7 ∧ 0 ≤ n ∧ n ≤ 65535 := by
  obtain ⟨h1, h2, h3⟩ := mayI_iff.1 h
  have e1 : mxX k ≤ 7 := by unfold mxX; split <;> omega
  have e2 : mxN k ≤ 65535 := by unfold mxN; split <;> (try split) <;> omega
  omega
set_option maxHeartbeats 1600000 in
theorem rmay_s0 (k : Nat) (x n : Int) (w : World) (h1 : k < 16 ∧ 0 ≤ x ∧ x ≤ 7 ∧ 0 ≤ n ∧ n ≤ 65535) (hk : k = 0) (hn : n ≠ 0) : Calls Tryd.prog 50 #[.agg #[.int .u8 k, .int .i64 x, .int .i64 n]] w fun e w' => e = .returned (.bool false) ∧ w.grownBy w' none := by
  obtain ⟨W1, hW, g1, hB⟩ := ibox w 67 #[.int .u8 k, .int .i64 x, .int .i64 n]
  obtain ⟨c0, c1, c2⟩ := in3 hB
  have hw : IntKind.i64.wrap (k : Int) = (k : Int) := by rw [IntKind.wrap_i64]; omega
  have HG := Lib.hid g1
  obtain ⟨k1, x1, x2, n1, n2⟩ := h1
  have b0 : ¬ (15 : Int) < k := by omega
  have b1 : ¬ x < 0 := by omega
  have b2 : ¬ 7 < x := by omega
  have b3 : ¬ n < 0 := by omega
  have b4 : ¬ 65535 < n := by omega
  clear hB g1
  have z0 : ((k : Int) == 0) = true := by rw [beq_iff_eq]; omega
  have z0n : ((k : Int) != 0) = false := by rw [bne_eq_false_iff_eq]; omega
  have z1 : ((k : Int) == 15) = false := by rw [beq_eq_false_iff_ne]; omega
  have z1n : ((k : Int) != 15) = true := by rw [bne_iff_ne]; omega
  have z2 : ((k : Int) == 11) = false := by rw [beq_eq_false_iff_ne]; omega
  have z2n : ((k : Int) != 11) = true := by rw [bne_iff_ne]; omega
  have z3 : ¬ (2 : Int) ≤ k := by omega
  have y0 : (n == 0) = false := by rw [beq_eq_false_iff_ne]; omega
  have y1 : (n != 0) = true := by rw [bne_iff_ne]; omega
  clear hk hn
  go_enter Tryd.func50, Tryd.ntmps50
  go_upto_region 1 with (fail)
  rw [← hW]
  clear hW
  go_wp2
  go_ret
  exact ⟨by first | rfl | simp, HG.out⟩
set_option maxHeartbeats 1600000 in
theorem rmay_s0z (k : Nat) (x n : Int) (w : World) (h1 : k < 16 ∧ 0 ≤ x ∧ x ≤ 7 ∧ 0 ≤ n ∧ n ≤ 65535) (hk : k = 0) (hn : n = 0) : Calls Tryd.prog 50 #[.agg #[.int .u8 k, .int .i64 x, .int .i64 n]] w fun e w' => e = .returned (.bool (x == 0)) ∧ w.grownBy w' none := by
  obtain ⟨W1, hW, g1, hB⟩ := ibox w 67 #[.int .u8 k, .int .i64 x, .int .i64 n]
  obtain ⟨c0, c1, c2⟩ := in3 hB
  have hw : IntKind.i64.wrap (k : Int) = (k : Int) := by rw [IntKind.wrap_i64]; omega
  have HG := Lib.hid g1
  obtain ⟨k1, x1, x2, n1, n2⟩ := h1
  have b0 : ¬ (15 : Int) < k := by omega
  have b1 : ¬ x < 0 := by omega
  have b2 : ¬ 7 < x := by omega
  have b3 : ¬ n < 0 := by omega
  have b4 : ¬ 65535 < n := by omega
  clear hB g1
  have z0 : ((k : Int) == 0) = true := by rw [beq_iff_eq]; omega
  have z0n : ((k : Int) != 0) = false := by rw [bne_eq_false_iff_eq]; omega
  have z1 : ((k : Int) == 15) = false := by rw [beq_eq_false_iff_ne]; omega
  have z1n : ((k : Int) != 15) = true := by rw [bne_iff_ne]; omega
  have z2 : ((k : Int) == 11) = false := by rw [beq_eq_false_iff_ne]; omega
  have z2n : ((k : Int) != 11) = true := by rw [bne_iff_ne]; omega
  have z3 : ¬ (2 : Int) ≤ k := by omega
  have y0 : (n == 0) = true := by rw [beq_iff_eq]; omega
  have y1 : (n != 0) = false := by rw [bne_eq_false_iff_eq]; omega
  clear hk hn
  go_enter Tryd.func50, Tryd.ntmps50
  go_upto_region 1 with (fail)
  rw [← hW]
  clear hW
  go_wp2
  go_ret
  exact ⟨by first | rfl | simp, HG.out⟩
set_option maxHeartbeats 1600000 in
theorem rmay_s15 (k : Nat) (x n : Int) (w : World) (h1 : k < 16 ∧ 0 ≤ x ∧ x ≤ 7 ∧ 0 ≤ n ∧ n ≤ 65535) (hk : k = 15) (hn : n ≠ 0) : Calls Tryd.prog 50 #[.agg #[.int .u8 k, .int .i64 x, .int .i64 n]] w fun e w' => e = .returned (.bool false) ∧ w.grownBy w' none := by
  obtain ⟨W1, hW, g1, hB⟩ := ibox w 67 #[.int .u8 k, .int .i64 x, .int .i64 n]
  obtain ⟨c0, c1, c2⟩ := in3 hB
  have hw : IntKind.i64.wrap (k : Int) = (k : Int) := by rw [IntKind.wrap_i64]; omega
  have HG := Lib.hid g1
  obtain ⟨k1, x1, x2, n1, n2⟩ := h1
  have b0 : ¬ (15 : Int) < k := by omega
  have b1 : ¬ x < 0 := by omega
  have b2 : ¬ 7 < x := by omega
  have b3 : ¬ n < 0 := by omega
  have b4 : ¬ 65535 < n := by omega
  clear hB g1
  have z0 : ((k : Int) == 0) = false := by rw [beq_eq_false_iff_ne]; omega
  have z0n : ((k : Int) != 0) = true := by rw [bne_iff_ne]; omega
  have z1 : ((k : Int) == 15) = true := by rw [beq_iff_eq]; omega
  have z1n : ((k : Int) != 15) = false := by rw [bne_eq_false_iff_eq]; omega
  have z2 : ((k : Int) == 11) = false := by rw [beq_eq_false_iff_ne]; omega
  have z2n : ((k : Int) != 11) = true := by rw [bne_iff_ne]; omega
  have z3 : (2 : Int) ≤ k := by omega
  have z4 : ¬ (k : Int) ≤ 10 := by omega
  have y0 : (n == 0) = false := by rw [beq_eq_false_iff_ne]; omega
  have y1 : (n != 0) = true := by rw [bne_iff_ne]; omega
  clear hk hn
  go_enter Tryd.func50, Tryd.ntmps50
  go_upto_region 1 with (fail)
  rw [← hW]
  clear hW
  go_wp2
  go_ret
  exact ⟨by first | rfl | simp, HG.out⟩
set_option maxHeartbeats 1600000 in
theorem rmay_s15z (k : Nat) (x n : Int) (w : World) (h1 : k < 16 ∧ 0 ≤ x ∧ x ≤ 7 ∧ 0 ≤ n ∧ n ≤ 65535) (hk : k = 15) (hn : n = 0) : Calls Tryd.prog 50 #[.agg #[.int .u8 k, .int .i64 x, .int .i64 n]] w fun e w' => e = .returned (.bool (x == 0)) ∧ w.grownBy w' none := by
  obtain ⟨W1, hW, g1, hB⟩ := ibox w 67 #[.int .u8 k, .int .i64 x, .int .i64 n]
  obtain ⟨c0, c1, c2⟩ := in3 hB
  have hw : IntKind.i64.wrap (k : Int) = (k : Int) := by rw [IntKind.wrap_i64]; omega
  have HG := Lib.hid g1
  obtain ⟨k1, x1, x2, n1, n2⟩ := h1
  have b0 : ¬ (15 : Int) < k := by omega
  have b1 : ¬ x < 0 := by omega
  have b2 : ¬ 7 < x := by omega
  have b3 : ¬ n < 0 := by omega
  have b4 : ¬ 65535 < n := by omega
  clear hB g1
  have z0 : ((k : Int) == 0) = false := by rw [beq_eq_false_iff_ne]; omega
  have z0n : ((k : Int) != 0) = true := by rw [bne_iff_ne]; omega
  have z1 : ((k : Int) == 15) = true := by rw [beq_iff_eq]; omega
  have z1n : ((k : Int) != 15) = false := by rw [bne_eq_false_iff_eq]; omega
  have z2 : ((k : Int) == 11) = false := by rw [beq_eq_false_iff_ne]; omega
  have z2n : ((k : Int) != 11) = true := by rw [bne_iff_ne]; omega
  have z3 : (2 : Int) ≤ k := by omega
  have z4 : ¬ (k : Int) ≤ 10 := by omega
  have y0 : (n == 0) = true := by rw [beq_iff_eq]; omega
  have y1 : (n != 0) = false := by rw [bne_eq_false_iff_eq]; omega
  clear hk hn
  go_enter Tryd.func50, Tryd.ntmps50
  go_upto_region 1 with (fail)
  rw [← hW]
  clear hW
  go_wp2
  go_ret
  exact ⟨by first | rfl | simp, HG.out⟩
set_option maxHeartbeats 1600000 in
theorem rmay_j (k : Nat) (x n : Int) (w : World) (h1 : k < 16 ∧ 0 ≤ x ∧ x ≤ 7 ∧ 0 ≤ n ∧ n ≤ 65535) (hk : k = 11) : Calls Tryd.prog 50 #[.agg #[.int .u8 k, .int .i64 x, .int .i64 n]] w fun e w' => e = .returned (.bool (x == 0)) ∧ w.grownBy w' none := by
  obtain ⟨W1, hW, g1, hB⟩ := ibox w 67 #[.int .u8 k, .int .i64 x, .int .i64 n]
  obtain ⟨c0, c1, c2⟩ := in3 hB
  have hw : IntKind.i64.wrap (k : Int) = (k : Int) := by rw [IntKind.wrap_i64]; omega
  have HG := Lib.hid g1
  obtain ⟨k1, x1, x2, n1, n2⟩ := h1
  have b0 : ¬ (15 : Int) < k := by omega
  have b1 : ¬ x < 0 := by omega
  have b2 : ¬ 7 < x := by omega
  have b3 : ¬ n < 0 := by omega
  have b4 : ¬ 65535 < n := by omega
  clear hB g1
  have z0 : ((k : Int) == 0) = false := by rw [beq_eq_false_iff_ne]; omega
  have z0n : ((k : Int) != 0) = true := by rw [bne_iff_ne]; omega
  have z1 : ((k : Int) == 15) = false := by rw [beq_eq_false_iff_ne]; omega
  have z1n : ((k : Int) != 15) = true := by rw [bne_iff_ne]; omega
  have z2 : ((k : Int) == 11) = true := by rw [beq_iff_eq]; omega
  have z2n : ((k : Int) != 11) = false := by rw [bne_eq_false_iff_eq]; omega
  have z3 : (2 : Int) ≤ k := by omega
  have z4 : ¬ (k : Int) ≤ 10 := by omega
  clear hk
  go_enter Tryd.func50, Tryd.ntmps50
  go_upto_region 1 with (fail)
  rw [← hW]
  clear hW
  go_wp2
  go_ret
  exact ⟨by first | rfl | simp, HG.out⟩
set_option maxHeartbeats 1600000 in
theorem rmay_r (k : Nat) (x n : Int) (w : World) (h1 : k < 16 ∧ 0 ≤ x ∧ x ≤ 7 ∧ 0 ≤ n ∧ n ≤ 65535) (hk : 2 ≤ k ∧ k ≤ 10) (hn : n ≤ 7) : Calls Tryd.prog 50 #[.agg #[.int .u8 k, .int .i64 x, .int .i64 n]] w fun e w' => e = .returned (.bool true) ∧ w.grownBy w' none := by
  obtain ⟨W1, hW, g1, hB⟩ := ibox w 67 #[.int .u8 k, .int .i64 x, .int .i64 n]
  obtain ⟨c0, c1, c2⟩ := in3 hB
  have hw : IntKind.i64.wrap (k : Int) = (k : Int) := by rw [IntKind.wrap_i64]; omega
  have HG := Lib.hid g1
  obtain ⟨k1, x1, x2, n1, n2⟩ := h1
  have b0 : ¬ (15 : Int) < k := by omega
  have b1 : ¬ x < 0 := by omega
  have b2 : ¬ 7 < x := by omega
  have b3 : ¬ n < 0 := by omega
  have b4 : ¬ 65535 < n := by omega
  clear hB g1
  have z0 : ((k : Int) == 0) = false := by rw [beq_eq_false_iff_ne]; omega
  have z0n : ((k : Int) != 0) = true := by rw [bne_iff_ne]; omega
  have z1 : ((k : Int) == 15) = false := by rw [beq_eq_false_iff_ne]; omega
  have z1n : ((k : Int) != 15) = true := by rw [bne_iff_ne]; omega
  have z2 : ((k : Int) == 11) = false := by rw [beq_eq_false_iff_ne]; omega
  have z2n : ((k : Int) != 11) = true := by rw [bne_iff_ne]; omega
  have z3 : (2 : Int) ≤ k := by omega
  have z4 : (k : Int) ≤ 10 := by omega
  have y7 : ¬ 7 < n := by omega
  clear hk hn
  go_enter Tryd.func50, Tryd.ntmps50
  go_upto_region 1 with (fail)
  rw [← hW]
  clear hW
  go_wp2
  go_ret
  exact ⟨by first | rfl | simp, HG.out⟩
set_option maxHeartbeats 1600000 in
theorem rmay_rn (k : Nat) (x n : Int) (w : World) (h1 : k < 16 ∧ 0 ≤ x ∧ x ≤ 7 ∧ 0 ≤ n ∧ n ≤ 65535) (hk : 2 ≤ k ∧ k ≤ 10) (hn : 7 < n) : Calls Tryd.prog 50 #[.agg #[.int .u8 k, .int .i64 x, .int .i64 n]] w fun e w' => e = .returned (.bool false) ∧ w.grownBy w' none := by
  obtain ⟨W1, hW, g1, hB⟩ := ibox w 67 #[.int .u8 k, .int .i64 x, .int .i64 n]
  obtain ⟨c0, c1, c2⟩ := in3 hB
  have hw : IntKind.i64.wrap (k : Int) = (k : Int) := by rw [IntKind.wrap_i64]; omega
  have HG := Lib.hid g1
  obtain ⟨k1, x1, x2, n1, n2⟩ := h1
  have b0 : ¬ (15 : Int) < k := by omega
  have b1 : ¬ x < 0 := by omega
  have b2 : ¬ 7 < x := by omega
  have b3 : ¬ n < 0 := by omega
  have b4 : ¬ 65535 < n := by omega
  clear hB g1
  have z0 : ((k : Int) == 0) = false := by rw [beq_eq_false_iff_ne]; omega
  have z0n : ((k : Int) != 0) = true := by rw [bne_iff_ne]; omega
  have z1 : ((k : Int) == 15) = false := by rw [beq_eq_false_iff_ne]; omega
  have z1n : ((k : Int) != 15) = true := by rw [bne_iff_ne]; omega
  have z2 : ((k : Int) == 11) = false := by rw [beq_eq_false_iff_ne]; omega
  have z2n : ((k : Int) != 11) = true := by rw [bne_iff_ne]; omega
  have z3 : (2 : Int) ≤ k := by omega
  have z4 : (k : Int) ≤ 10 := by omega
  have y7 : (7 : Int) < n := by omega
  clear hk hn
  go_enter Tryd.func50, Tryd.ntmps50
  go_upto_region 1 with (fail)
  rw [← hW]
  clear hW
  go_wp2
  go_ret
  exact ⟨by first | rfl | simp, HG.out⟩
set_option maxHeartbeats 1600000 in
theorem rmay_o1 (k : Nat) (x n : Int) (w : World) (h1 : k < 16 ∧ 0 ≤ x ∧ x ≤ 7 ∧ 0 ≤ n ∧ n ≤ 65535) (hk : k = 1) : Calls Tryd.prog 50 #[.agg #[.int .u8 k, .int .i64 x, .int .i64 n]] w fun e w' => e = .returned (.bool true) ∧ w.grownBy w' none := by
  obtain ⟨W1, hW, g1, hB⟩ := ibox w 67 #[.int .u8 k, .int .i64 x, .int .i64 n]
  obtain ⟨c0, c1, c2⟩ := in3 hB
  have hw : IntKind.i64.wrap (k : Int) = (k : Int) := by rw [IntKind.wrap_i64]; omega
  have HG := Lib.hid g1
  obtain ⟨k1, x1, x2, n1, n2⟩ := h1
  have b0 : ¬ (15 : Int) < k := by omega
  have b1 : ¬ x < 0 := by omega
  have b2 : ¬ 7 < x := by omega
  have b3 : ¬ n < 0 := by omega
  have b4 : ¬ 65535 < n := by omega
  clear hB g1
  have z0 : ((k : Int) == 0) = false := by rw [beq_eq_false_iff_ne]; omega
  have z0n : ((k : Int) != 0) = true := by rw [bne_iff_ne]; omega
  have z1 : ((k : Int) == 15) = false := by rw [beq_eq_false_iff_ne]; omega
  have z1n : ((k : Int) != 15) = true := by rw [bne_iff_ne]; omega
  have z2 : ((k : Int) == 11) = false := by rw [beq_eq_false_iff_ne]; omega
  have z2n : ((k : Int) != 11) = true := by rw [bne_iff_ne]; omega
  have z3 : ¬ (2 : Int) ≤ k := by omega
  clear hk
  go_enter Tryd.func50, Tryd.ntmps50
  go_upto_region 1 with (fail)
  rw [← hW]
  clear hW
  go_wp2
  go_ret
  exact ⟨by first | rfl | simp, HG.out⟩
set_option maxHeartbeats 1600000 in
theorem rmay_o2 (k : Nat) (x n : Int) (w : World) (h1 : k < 16 ∧ 0 ≤ x ∧ x ≤ 7 ∧ 0 ≤ n ∧ n ≤ 65535) (hk : 12 ≤ k ∧ k ≤ 14) : Calls Tryd.prog 50 #[.agg #[.int .u8 k, .int .i64 x, .int .i64 n]] w fun e w' => e = .returned (.bool true) ∧ w.grownBy w' none := by
  obtain ⟨W1, hW, g1, hB⟩ := ibox w 67 #[.int .u8 k, .int .i64 x, .int .i64 n]
  obtain ⟨c0, c1, c2⟩ := in3 hB
  have hw : IntKind.i64.wrap (k : Int) = (k : Int) := by rw [IntKind.wrap_i64]; omega
  have HG := Lib.hid g1
  obtain ⟨k1, x1, x2, n1, n2⟩ := h1
  have b0 : ¬ (15 : Int) < k := by omega
  have b1 : ¬ x < 0 := by omega
  have b2 : ¬ 7 < x := by omega
  have b3 : ¬ n < 0 := by omega
  have b4 : ¬ 65535 < n := by omega
  clear hB g1
  have z0 : ((k : Int) == 0) = false := by rw [beq_eq_false_iff_ne]; omega
  have z0n : ((k : Int) != 0) = true := by rw [bne_iff_ne]; omega
  have z1 : ((k : Int) == 15) = false := by rw [beq_eq_false_iff_ne]; omega
  have z1n : ((k : Int) != 15) = true := by rw [bne_iff_ne]; omega
  have z2 : ((k : Int) == 11) = false := by rw [beq_eq_false_iff_ne]; omega
  have z2n : ((k : Int) != 11) = true := by rw [bne_iff_ne]; omega
  have z3 : (2 : Int) ≤ k := by omega
  have z4 : ¬ (k : Int) ≤ 10 := by omega
  clear hk
  go_enter Tryd.func50, Tryd.ntmps50
  go_upto_region 1 with (fail)
  rw [← hW]
  clear hW
  go_wp2
  go_ret
  exact ⟨by first | rfl | simp, HG.out⟩
set_option maxHeartbeats 1600000 in
theorem rmay_out (k : Nat) (x n : Int) (hk : k < 256) (w : World) (h1 : ¬ (k < 16 ∧ 0 ≤ x ∧ x ≤ 7 ∧ 0 ≤ n ∧ n ≤ 65535)) : Calls Tryd.prog 50 #[.agg #[.int .u8 k, .int .i64 x, .int .i64 n]] w fun e w' => e = .returned (.bool false) ∧ w.grownBy w' none := by
  obtain ⟨W1, hW, g1, hB⟩ := ibox w 67 #[.int .u8 k, .int .i64 x, .int .i64 n]
  obtain ⟨c0, c1, c2⟩ := in3 hB
  have hw : IntKind.i64.wrap (k : Int) = (k : Int) := by rw [IntKind.wrap_i64]; omega
  have HG := Lib.hid g1
  clear hB g1
  have a1 : (15 : Int) < k ∨ (¬ (15 : Int) < k ∧ x < 0) ∨ (¬ (15 : Int) < k ∧ ¬ x < 0 ∧ 7 < x) ∨ (¬ (15 : Int) < k ∧ ¬ x < 0 ∧ ¬ 7 < x ∧ n < 0) ∨ (¬ (15 : Int) < k ∧ ¬ x < 0 ∧ ¬ 7 < x ∧ ¬ n < 0 ∧ 65535 < n) := by omega
  clear h1
  rcases a1 with a | ⟨a, b⟩ | ⟨a, b, c⟩ | ⟨a, b, c, d⟩ | ⟨a, b, c, d, e⟩
  all_goals
    go_enter Tryd.func50, Tryd.ntmps50
    go_upto_region 1 with (fail)
    rw [← hW]
    clear hW
    go_wp2
    go_ret
    exact ⟨rfl, HG.out⟩
theorem rmay_any (k : Nat) (x n : Int) (hk : k < 256) (w : World) : Calls Tryd.prog 50 #[.agg #[.int .u8 k, .int .i64 x, .int .i64 n]] w fun e w' => e = .returned (.bool (mayI k x n)) ∧ w.grownBy w' none := by
  by_cases h1 : k < 16 ∧ 0 ≤ x ∧ x ≤ 7 ∧ 0 ≤ n ∧ n ≤ 65535
  case neg =>
    rw [show mayI k x n = false from by
      cases e : mayI k x n
      · rfl
      · exact absurd (mayI_facts e) h1]
    exact rmay_out k x n hk w h1
  have e1 : mxX k = if k = 0 ∨ k = 15 ∨ k = 11 then 0 else 7 := rfl
  have e2 : mxN k = if k = 0 ∨ k = 15 then 0 else if 2 ≤ k ∧ k ≤ 10 then 7 else 65535 := by unfold mxN rgB; simp
  have val : ∀ b : Bool, (b = true ↔ k < 16 ∧ (0 ≤ x ∧ x ≤ mxX k) ∧ (0 ≤ n ∧ n ≤ mxN k)) → mayI k x n = b := fun b hb => by rw [Bool.eq_iff_iff, mayI_iff, hb]
  have key : k = 0 ∨ k = 15 ∨ k = 11 ∨ (2 ≤ k ∧ k ≤ 10) ∨ k = 1 ∨ (12 ≤ k ∧ k ≤ 14) := by omega
  rcases key with h | h | h | h | h | h
  · rw [if_pos (by omega)] at e1 e2
    by_cases hn : n = 0
    · rw [val (x == 0) (by rw [e1, e2, beq_iff_eq]; omega)]
      exact rmay_s0z k x n w h1 h hn
    · rw [val false (by rw [e1, e2]; simp; omega)]
      exact rmay_s0 k x n w h1 h hn
  · rw [if_pos (by omega)] at e1 e2
    by_cases hn : n = 0
    · rw [val (x == 0) (by rw [e1, e2, beq_iff_eq]; omega)]
      exact rmay_s15z k x n w h1 h hn
    · rw [val false (by rw [e1, e2]; simp; omega)]
      exact rmay_s15 k x n w h1 h hn
  · rw [if_pos (by omega)] at e1
    rw [if_neg (by omega), if_neg (by omega)] at e2
    rw [val (x == 0) (by rw [e1, e2, beq_iff_eq]; omega)]
    exact rmay_j k x n w h1 h
  · rw [if_neg (by omega)] at e1
    rw [if_neg (by omega), if_pos h] at e2
    by_cases hn : n ≤ 7
    · rw [val true (by rw [e1, e2]; simp; omega)]
      exact rmay_r k x n w h1 h hn
    · rw [val false (by rw [e1, e2]; simp; omega)]
      exact rmay_rn k x n w h1 h (by omega)
  · rw [if_neg (by omega)] at e1
    rw [if_neg (by omega), if_neg (by omega)] at e2
    rw [val true (by rw [e1, e2]; simp; omega)]
    exact rmay_o1 k x n w h1 h
  · rw [if_neg (by omega)] at e1
    rw [if_neg (by omega), if_neg (by omega)] at e2
    rw [val true (by rw [e1, e2]; simp; omega)]
    exact rmay_o2 k x n w h1 h
end Go.Proofs.YtiicoabkhponmaaDoor

/- Package code: Put, by its contract. -/
namespace Go.Proofs.YtiicoabkhponmaaDoor
open Go.RowKit Go.Lib
set_option linter.unusedVariables false

/-- An instruction's bytes. -/
def ptI (k : Nat) (x n : Int) : ByteArray := ⟨#[UInt8.ofNat k, UInt8.ofNat x.toNat, UInt8.ofNat (n % 256).toNat, UInt8.ofNat (n / 256 % 256).toNat]⟩
section
variable {w0 W W' : World} {b k : Nat} {x n : Int} {l l' : List UInt8}
end
end Go.Proofs.YtiicoabkhponmaaDoor
