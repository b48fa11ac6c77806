import Derived.Test.YtldhggaghhjebaaZ04
import Derived.LoopTactic
import Derived.Test.YtldhggaghhjebaaZ01
import Derived.ProofKit
import Derived.OpenShut
import Derived.Lib.SmallJoins
import Derived.ShutString
import Derived.ChangeOld
set_option linter.all false
/- The laws of desc: DescStays walked. -/
namespace Go.Proofs.Ytldhggaghhjebaa
open Go.RowKit Go.Lib Go.Sort
set_option linter.unusedVariables false
set_option maxRecDepth 20000
attribute [-go_sem] Go.run_neq_struct Go.run_eql_struct

theorem De.chk0 {k : Nat} {a l g sz sc : Int} (h : De.chk k a l g sz sc = 0) : De.need k ≠ 0 ∧ (0 ≤ l ∧ l ≤ 32) ∧ (0 ≤ a ∧ a ≤ sz ∧ l ≤ sz - a) ∧ (De.need k = 3 → 0 ≤ g ∧ g ≤ sc ∧ l / 16 ≤ sc - g ∧ l % 16 = 0) := by
  unfold De.chk at h
  split at h
  · cases h
  rename_i h0
  split at h
  · cases h
  rename_i h1
  split at h
  · cases h
  rename_i h2
  split at h
  · cases h
  rename_i h3
  split at h
  · cases h
  rename_i h4
  have h3' : De.within a l sz = true := by simpa using h3
  unfold De.within at h3'
  have h3'' := of_decide_eq_true h3'
  refine ⟨h0, by omega, h3'', fun h5 => ?_⟩
  have h6 : De.within g (l / 16) sc = true := by
    cases hh : De.within g (l / 16) sc
    · exact absurd ⟨h5, hh⟩ h4
    · rfl
  have h7 : De.whole l = true := by
    cases hh : De.whole l
    · exact absurd ⟨h5, hh⟩ h1
    · rfl
  unfold De.within at h6
  unfold De.whole at h7
  have h6' := of_decide_eq_true h6
  have h7' := of_decide_eq_true h7
  exact ⟨h6'.1, h6'.2.1, h6'.2.2, h7'.2⟩
/-- The two boxes of DescStays. -/
def De.Sb (w W : World) (k s : Nat) (a l g : Int) (c : Nat → Int) : Prop := Blk W w.heap.size 24 #[.int .u8 k, .int .u8 s, .int .i64 a, .int .i64 l, .int .i64 g] ∧ Blk W (w.heap.size + 1) 34 (De.cl c) ∧ w.grownBy W none
theorem De.Sb.grown {w W W' : World} {k s : Nat} {a l g : Int} {c : Nat → Int} (h : De.Sb w W k s a l g c) (b : W.grownBy W' none) : De.Sb w W' k s a l g c := ⟨h.1.only b (by simp), h.2.1.only b (by simp), only_trans h.2.2 b⟩
theorem De.Sb.cells {w W : World} {k s : Nat} {a l g : Int} {c : Nat → Int} (h : De.Sb w W k s a l g c) : (W.cell? ⟨w.heap.size, 0, none⟩ = some (.int .u8 k) ∧ W.cell? ⟨w.heap.size, 1, none⟩ = some (.int .u8 s) ∧ W.cell? ⟨w.heap.size, 2, none⟩ = some (.int .i64 a) ∧ W.cell? ⟨w.heap.size, 3, none⟩ = some (.int .i64 l) ∧ W.cell? ⟨w.heap.size, 4, none⟩ = some (.int .i64 g)) ∧ W.cell? ⟨w.heap.size + 1, 0, none⟩ = some (.int .i64 (c 0)) ∧ W.cell? ⟨w.heap.size + 1, 1, none⟩ = some (.int .i64 (c 1)) ∧ W.cell? ⟨w.heap.size + 1, 2, none⟩ = some (.int .i64 (c 2)) ∧ W.cell? ⟨w.heap.size + 1, 3, none⟩ = some (.int .i64 (c 3)) ∧ W.cell? ⟨w.heap.size + 1, 4, none⟩ = some (.int .i64 (c 4)) ∧ W.cell? ⟨w.heap.size + 1, 5, none⟩ = some (.int .i64 (c 5)) ∧ W.cell? ⟨w.heap.size + 1, 6, none⟩ = some (.int .i64 (c 6)) ∧ W.cell? ⟨w.heap.size + 1, 7, none⟩ = some (.int .i64 (c 7)) ∧ W.cell? ⟨w.heap.size + 1, 8, none⟩ = some (.int .i64 (c 8)) ∧ W.cell? ⟨w.heap.size + 1, 9, none⟩ = some (.int .i64 (c 9)) := ⟨(De.in5f h.1).1, De.cells10 h.2.1⟩
theorem De.sb_new (w : World) (k s : Nat) (a l g : Int) (c : Nat → Int) : De.Sb w ((w.alloc (.cells (De.dc k s a l g) 24)).alloc (.cells (De.cl c) 34)) k s a l g c := by
  refine ⟨(Blk.new _ _ _).alloc _, ?_, only_alloc (only_alloc (only_refl _ _) _) _⟩
  have := Blk.new (w.alloc (.cells (De.dc k s a l g) 24)) 34 (De.cl c)
  simpa using this
set_option maxHeartbeats 3200000 in
theorem De.stays_no (k s : Nat) (a l g : Int) (c : Nat → Int) (w : World) (hk : k < 256) (bs : c 1 ≤ 9223372036854775807) (bc : c 9 ≤ 9223372036854775807) (h : De.chk k a l g (c 1) (c 9) ≠ 0) : Calls Try.prog 6 #[.agg (De.dc k s a l g), .agg (De.cl c)] w fun e w' => e = .returned (.bool true) ∧ Below w.heap.size w w' := by
  have HL := Lib.hid De.live_any
  have hC := fun W => De.check_any k s a l g c W hk bs bc
  have hR := fun W => De.rcheck_any k s a l g c W hk bs bc
  generalize De.chk k a l g (c 1) (c 9) = z at *
  have z0 : (z != 0) = true := by simpa using h
  have z1 : (z == 0) = false := by simpa using h
  have z2 : ¬ z = 0 := h
  obtain ⟨W1, hW1⟩ : ∃ W1, W1 = (w.alloc (.cells (De.dc k s a l g) 24)).alloc (.cells (De.cl c) 34) := ⟨_, rfl⟩
  have S1 := Lib.hid (show De.Sb w W1 k s a l g c from by rw [hW1]; exact De.sb_new w k s a l g c)
  unfold De.dc at hC hR hW1 ⊢
  rw [De.cl_is c] at hC hR hW1 ⊢
  have HC := Lib.hid hC; have HR := Lib.hid hR
  clear hC hR bs bc h
  obtain ⟨⟨d0, d1, d2, d3, d4⟩, c0, c1, c2, c3, c4, c5, c6, c7, c8, c9⟩ := S1.out.cells
  go_enter Try.func6, Try.ntmps6
  go_upto_region 1 with (fail)
  rw [← hW1]
  clear hW1
  go_wp2_with (first
    | (go_at_call 15; (with_reducible refine (HC.out _).mono ?_); rintro e w2 ⟨rfl, g2⟩; have S2 := Lib.hid (S1.out.grown g2); clear g2 d0 d1 d2 d3 d4 c0 c1 c2 c3 c4 c5 c6 c7 c8 c9)
    | (go_at_call 9; (with_reducible refine (HL.out _).mono ?_); rintro e w3 ⟨rfl, g3⟩; have S3 := Lib.hid (S2.out.grown g3); clear g3; obtain ⟨⟨d0, d1, d2, d3, d4⟩, c0, c1, c2, c3, c4, c5, c6, c7, c8, c9⟩ := S3.out.cells)
    | (go_at_call 16; (with_reducible refine (HR.out _).mono ?_); rintro e w4 ⟨rfl, g4⟩; have S4 := Lib.hid (S3.out.grown g4); clear g4))
  go_ret
  exact ⟨by first | rfl | simp, De.bel S4.out.2.2⟩

set_option maxHeartbeats 3200000 in
theorem De.stays_1 (k s : Nat) (a l g : Int) (c : Nat → Int) (w : World) (hk : k < 256) (bs : c 1 ≤ 9223372036854775807) (bc : c 9 ≤ 9223372036854775807) (h : De.chk k a l g (c 1) (c 9) = 0) (hkk : k = 1) : Calls Try.prog 6 #[.agg (De.dc k s a l g), .agg (De.cl c)] w fun e w' => e = .returned (.bool true) ∧ Below w.heap.size w w' := by
  have HL := Lib.hid De.live_any
  have hC := fun W => De.check_any k s a l g c W hk bs bc
  obtain ⟨n0, ⟨l0, l1⟩, ⟨a0, a1, a2⟩, n3⟩ := De.chk0 h
  rw [h] at hC
  have hF := fun W => (De.fills_any k W hk).mono (R' := fun e w' => e = .returned (.bool false) ∧ W = w') fun e w' ⟨h1, h2⟩ => ⟨by rw [h1]; subst hkk; rfl, h2⟩
  have hD := fun W => (De.reads_any k W hk).mono (R' := fun e w' => e = .returned (.bool true) ∧ W = w') fun e w' ⟨h1, h2⟩ => ⟨by rw [h1]; subst hkk; rfl, h2⟩
  obtain ⟨W1, hW1⟩ : ∃ W1, W1 = (w.alloc (.cells (De.dc k s a l g) 24)).alloc (.cells (De.cl c) 34) := ⟨_, rfl⟩
  have S1 := Lib.hid (show De.Sb w W1 k s a l g c from by rw [hW1]; exact De.sb_new w k s a l g c)
  unfold De.dc at hC hW1 ⊢
  rw [De.cl_is c] at hC hW1 ⊢
  have hki : (k : Int) = 1 := by omega
  obtain ⟨⟨d0, d1, d2, d3, d4⟩, c0, c1, c2, c3, c4, c5, c6, c7, c8, c9⟩ := S1.out.cells
  rw [hki] at hC hF hD hW1 d0 ⊢
  have HC := Lib.hid hC; have HF := Lib.hid hF; have HD := Lib.hid hD
  have HKI := Lib.hid hki
  clear hC hF hD h hkk hki n3 n0
  obtain ⟨m, hm⟩ := Int.eq_ofNat_of_zero_le l0
  subst hm
  have lw : ¬ (m : Int) < 0 := by omega
  have lx : ¬ (32 : Int) < (m : Int) := by omega
  have aw : ¬ a < 0 := by omega
  go_enter Try.func6, Try.ntmps6
  go_upto_region 1 with (fail)
  rw [← hW1]
  clear hW1
  go_upto_region 5 with (first
    | (go_at_call 15; (with_reducible refine (HC.out _).mono ?_); rintro e w2 ⟨rfl, g2⟩; have S2 := Lib.hid (S1.out.grown g2); clear g2 d0 d1 d2 d3 d4 c0 c1 c2 c3 c4 c5 c6 c7 c8 c9; obtain ⟨⟨d0, d1, d2, d3, d4⟩, c0, c1, c2, c3, c4, c5, c6, c7, c8, c9⟩ := S2.out.cells; rw [HKI.out] at d0))
  clear c0 c2 c3 c4 c5 c6 c7 c8 HC S1
  generalize c 1 = sz at *
  generalize c 9 = sc at *
  go_wp2
  go_loop [5] (fun v => ∃ i : Nat, v = .int .i64 i ∧ i ≤ m) (fun v => m - (intOf v).toNat)
  case atStart => exact ⟨0, rfl, by omega⟩
  case round =>
    obtain ⟨i, rfl, hi⟩ := hrel
    by_cases hlt : i < m
    · have i1 : (i : Int) < (m : Int) := by omega
      have i2 : ¬ sz - 1 - (i : Int) < a := by omega
      have i3 : (i : Int) ≤ 32 := by omega
      go_wp2
      go_round
      case rel => exact ⟨i + 1, by go_num, by omega⟩
      case measure => simp [intOf]; omega
    · have i1 : ¬ (i : Int) < (m : Int) := by omega
      clear hi hlt
      go_wp2
      go_loop [6] (fun v => v = .int .i64 0) (fun _ => 0)
      case atStart => rfl
      case round =>
        subst hrel
        go_wp2_with (first
          | (go_at_call 9; (with_reducible refine (HL.out _).mono ?_); rintro e w3 ⟨rfl, g3⟩; have S3 := Lib.hid (S2.out.grown g3); clear g3 d0 d1 d2 d3 d4 c1 c9; obtain ⟨⟨d0, d1, d2, d3, d4⟩, c0, c1, c2, c3, c4, c5, c6, c7, c8, c9⟩ := S3.out.cells; rw [HKI.out] at d0)
          | (go_at_call 17; (with_reducible refine (HF.out _).mono ?_); rintro e w' ⟨rfl, rfl⟩)
          | (go_at_call 18; (with_reducible refine (HD.out _).mono ?_); rintro e w' ⟨rfl, rfl⟩))
        go_ret
        exact ⟨by first | rfl | simp, De.bel S3.out.2.2⟩
set_option maxHeartbeats 3200000 in
theorem De.stays_2 (k s : Nat) (a l g : Int) (c : Nat → Int) (w : World) (hk : k < 256) (bs : c 1 ≤ 9223372036854775807) (bc : c 9 ≤ 9223372036854775807) (h : De.chk k a l g (c 1) (c 9) = 0) (hkk : k = 2) : Calls Try.prog 6 #[.agg (De.dc k s a l g), .agg (De.cl c)] w fun e w' => e = .returned (.bool true) ∧ Below w.heap.size w w' := by
  have HL := Lib.hid De.live_any
  have hC := fun W => De.check_any k s a l g c W hk bs bc
  obtain ⟨n0, ⟨l0, l1⟩, ⟨a0, a1, a2⟩, n3⟩ := De.chk0 h
  rw [h] at hC
  have hF := fun W => (De.fills_any k W hk).mono (R' := fun e w' => e = .returned (.bool true) ∧ W = w') fun e w' ⟨h1, h2⟩ => ⟨by rw [h1]; subst hkk; rfl, h2⟩
  have hD := fun W => (De.reads_any k W hk).mono (R' := fun e w' => e = .returned (.bool false) ∧ W = w') fun e w' ⟨h1, h2⟩ => ⟨by rw [h1]; subst hkk; rfl, h2⟩
  obtain ⟨W1, hW1⟩ : ∃ W1, W1 = (w.alloc (.cells (De.dc k s a l g) 24)).alloc (.cells (De.cl c) 34) := ⟨_, rfl⟩
  have S1 := Lib.hid (show De.Sb w W1 k s a l g c from by rw [hW1]; exact De.sb_new w k s a l g c)
  unfold De.dc at hC hW1 ⊢
  rw [De.cl_is c] at hC hW1 ⊢
  have hki : (k : Int) = 2 := by omega
  obtain ⟨⟨d0, d1, d2, d3, d4⟩, c0, c1, c2, c3, c4, c5, c6, c7, c8, c9⟩ := S1.out.cells
  rw [hki] at hC hF hD hW1 d0 ⊢
  have HC := Lib.hid hC; have HF := Lib.hid hF; have HD := Lib.hid hD
  have HKI := Lib.hid hki
  clear hC hF hD h hkk hki n3 n0
  obtain ⟨m, hm⟩ := Int.eq_ofNat_of_zero_le l0
  subst hm
  have lw : ¬ (m : Int) < 0 := by omega
  have lx : ¬ (32 : Int) < (m : Int) := by omega
  have aw : ¬ a < 0 := by omega
  go_enter Try.func6, Try.ntmps6
  go_upto_region 1 with (fail)
  rw [← hW1]
  clear hW1
  go_upto_region 5 with (first
    | (go_at_call 15; (with_reducible refine (HC.out _).mono ?_); rintro e w2 ⟨rfl, g2⟩; have S2 := Lib.hid (S1.out.grown g2); clear g2 d0 d1 d2 d3 d4 c0 c1 c2 c3 c4 c5 c6 c7 c8 c9; obtain ⟨⟨d0, d1, d2, d3, d4⟩, c0, c1, c2, c3, c4, c5, c6, c7, c8, c9⟩ := S2.out.cells; rw [HKI.out] at d0))
  clear c0 c2 c3 c4 c5 c6 c7 c8 HC S1
  generalize c 1 = sz at *
  generalize c 9 = sc at *
  go_wp2
  go_loop [5] (fun v => ∃ i : Nat, v = .int .i64 i ∧ i ≤ m) (fun v => m - (intOf v).toNat)
  case atStart => exact ⟨0, rfl, by omega⟩
  case round =>
    obtain ⟨i, rfl, hi⟩ := hrel
    by_cases hlt : i < m
    · have i1 : (i : Int) < (m : Int) := by omega
      have i2 : ¬ sz - 1 - (i : Int) < a := by omega
      have i3 : (i : Int) ≤ 32 := by omega
      go_wp2
      go_round
      case rel => exact ⟨i + 1, by go_num, by omega⟩
      case measure => simp [intOf]; omega
    · have i1 : ¬ (i : Int) < (m : Int) := by omega
      clear hi hlt
      go_wp2
      go_loop [6] (fun v => v = .int .i64 0) (fun _ => 0)
      case atStart => rfl
      case round =>
        subst hrel
        go_wp2_with (first
          | (go_at_call 9; (with_reducible refine (HL.out _).mono ?_); rintro e w3 ⟨rfl, g3⟩; have S3 := Lib.hid (S2.out.grown g3); clear g3 d0 d1 d2 d3 d4 c1 c9; obtain ⟨⟨d0, d1, d2, d3, d4⟩, c0, c1, c2, c3, c4, c5, c6, c7, c8, c9⟩ := S3.out.cells; rw [HKI.out] at d0)
          | (go_at_call 17; (with_reducible refine (HF.out _).mono ?_); rintro e w' ⟨rfl, rfl⟩)
          | (go_at_call 18; (with_reducible refine (HD.out _).mono ?_); rintro e w' ⟨rfl, rfl⟩))
        go_ret
        exact ⟨by first | rfl | simp, De.bel S3.out.2.2⟩
set_option maxHeartbeats 3200000 in
theorem De.stays_3 (k s : Nat) (a l g : Int) (c : Nat → Int) (w : World) (hk : k < 256) (bs : c 1 ≤ 9223372036854775807) (bc : c 9 ≤ 9223372036854775807) (h : De.chk k a l g (c 1) (c 9) = 0) (hkk : k = 3) : Calls Try.prog 6 #[.agg (De.dc k s a l g), .agg (De.cl c)] w fun e w' => e = .returned (.bool true) ∧ Below w.heap.size w w' := by
  have HL := Lib.hid De.live_any
  have hC := fun W => De.check_any k s a l g c W hk bs bc
  obtain ⟨n0, ⟨l0, l1⟩, ⟨a0, a1, a2⟩, n3⟩ := De.chk0 h
  rw [h] at hC
  have hF := fun W => (De.fills_any k W hk).mono (R' := fun e w' => e = .returned (.bool false) ∧ W = w') fun e w' ⟨h1, h2⟩ => ⟨by rw [h1]; subst hkk; rfl, h2⟩
  have hD := fun W => (De.reads_any k W hk).mono (R' := fun e w' => e = .returned (.bool true) ∧ W = w') fun e w' ⟨h1, h2⟩ => ⟨by rw [h1]; subst hkk; rfl, h2⟩
  obtain ⟨W1, hW1⟩ : ∃ W1, W1 = (w.alloc (.cells (De.dc k s a l g) 24)).alloc (.cells (De.cl c) 34) := ⟨_, rfl⟩
  have S1 := Lib.hid (show De.Sb w W1 k s a l g c from by rw [hW1]; exact De.sb_new w k s a l g c)
  unfold De.dc at hC hW1 ⊢
  rw [De.cl_is c] at hC hW1 ⊢
  have hki : (k : Int) = 3 := by omega
  obtain ⟨⟨d0, d1, d2, d3, d4⟩, c0, c1, c2, c3, c4, c5, c6, c7, c8, c9⟩ := S1.out.cells
  rw [hki] at hC hF hD hW1 d0 ⊢
  have HC := Lib.hid hC; have HF := Lib.hid hF; have HD := Lib.hid hD
  have HKI := Lib.hid hki
  clear hC hF hD h hkk hki n3 n0
  obtain ⟨m, hm⟩ := Int.eq_ofNat_of_zero_le l0
  subst hm
  have lw : ¬ (m : Int) < 0 := by omega
  have lx : ¬ (32 : Int) < (m : Int) := by omega
  have aw : ¬ a < 0 := by omega
  go_enter Try.func6, Try.ntmps6
  go_upto_region 1 with (fail)
  rw [← hW1]
  clear hW1
  go_upto_region 5 with (first
    | (go_at_call 15; (with_reducible refine (HC.out _).mono ?_); rintro e w2 ⟨rfl, g2⟩; have S2 := Lib.hid (S1.out.grown g2); clear g2 d0 d1 d2 d3 d4 c0 c1 c2 c3 c4 c5 c6 c7 c8 c9; obtain ⟨⟨d0, d1, d2, d3, d4⟩, c0, c1, c2, c3, c4, c5, c6, c7, c8, c9⟩ := S2.out.cells; rw [HKI.out] at d0))
  clear c0 c2 c3 c4 c5 c6 c7 c8 HC S1
  generalize c 1 = sz at *
  generalize c 9 = sc at *
  go_wp2
  go_loop [5] (fun v => ∃ i : Nat, v = .int .i64 i ∧ i ≤ m) (fun v => m - (intOf v).toNat)
  case atStart => exact ⟨0, rfl, by omega⟩
  case round =>
    obtain ⟨i, rfl, hi⟩ := hrel
    by_cases hlt : i < m
    · have i1 : (i : Int) < (m : Int) := by omega
      have i2 : ¬ sz - 1 - (i : Int) < a := by omega
      have i3 : (i : Int) ≤ 32 := by omega
      go_wp2
      go_round
      case rel => exact ⟨i + 1, by go_num, by omega⟩
      case measure => simp [intOf]; omega
    · have i1 : ¬ (i : Int) < (m : Int) := by omega
      clear hi hlt
      go_wp2
      go_loop [6] (fun v => v = .int .i64 0) (fun _ => 0)
      case atStart => rfl
      case round =>
        subst hrel
        go_wp2_with (first
          | (go_at_call 9; (with_reducible refine (HL.out _).mono ?_); rintro e w3 ⟨rfl, g3⟩; have S3 := Lib.hid (S2.out.grown g3); clear g3 d0 d1 d2 d3 d4 c1 c9; obtain ⟨⟨d0, d1, d2, d3, d4⟩, c0, c1, c2, c3, c4, c5, c6, c7, c8, c9⟩ := S3.out.cells; rw [HKI.out] at d0)
          | (go_at_call 17; (with_reducible refine (HF.out _).mono ?_); rintro e w' ⟨rfl, rfl⟩)
          | (go_at_call 18; (with_reducible refine (HD.out _).mono ?_); rintro e w' ⟨rfl, rfl⟩))
        go_ret
        exact ⟨by first | rfl | simp, De.bel S3.out.2.2⟩
set_option maxHeartbeats 3200000 in
theorem De.stays_4 (k s : Nat) (a l g : Int) (c : Nat → Int) (w : World) (hk : k < 256) (bs : c 1 ≤ 9223372036854775807) (bc : c 9 ≤ 9223372036854775807) (h : De.chk k a l g (c 1) (c 9) = 0) (hkk : k = 4) : Calls Try.prog 6 #[.agg (De.dc k s a l g), .agg (De.cl c)] w fun e w' => e = .returned (.bool true) ∧ Below w.heap.size w w' := by
  have HL := Lib.hid De.live_any
  have hC := fun W => De.check_any k s a l g c W hk bs bc
  obtain ⟨n0, ⟨l0, l1⟩, ⟨a0, a1, a2⟩, n3⟩ := De.chk0 h
  rw [h] at hC
  have hF := fun W => (De.fills_any k W hk).mono (R' := fun e w' => e = .returned (.bool true) ∧ W = w') fun e w' ⟨h1, h2⟩ => ⟨by rw [h1]; subst hkk; rfl, h2⟩
  have hD := fun W => (De.reads_any k W hk).mono (R' := fun e w' => e = .returned (.bool false) ∧ W = w') fun e w' ⟨h1, h2⟩ => ⟨by rw [h1]; subst hkk; rfl, h2⟩
  obtain ⟨W1, hW1⟩ : ∃ W1, W1 = (w.alloc (.cells (De.dc k s a l g) 24)).alloc (.cells (De.cl c) 34) := ⟨_, rfl⟩
  have S1 := Lib.hid (show De.Sb w W1 k s a l g c from by rw [hW1]; exact De.sb_new w k s a l g c)
  unfold De.dc at hC hW1 ⊢
  rw [De.cl_is c] at hC hW1 ⊢
  have hki : (k : Int) = 4 := by omega
  obtain ⟨⟨d0, d1, d2, d3, d4⟩, c0, c1, c2, c3, c4, c5, c6, c7, c8, c9⟩ := S1.out.cells
  rw [hki] at hC hF hD hW1 d0 ⊢
  have HC := Lib.hid hC; have HF := Lib.hid hF; have HD := Lib.hid hD
  have HKI := Lib.hid hki
  clear hC hF hD h hkk hki n3 n0
  obtain ⟨m, hm⟩ := Int.eq_ofNat_of_zero_le l0
  subst hm
  have lw : ¬ (m : Int) < 0 := by omega
  have lx : ¬ (32 : Int) < (m : Int) := by omega
  have aw : ¬ a < 0 := by omega
  go_enter Try.func6, Try.ntmps6
  go_upto_region 1 with (fail)
  rw [← hW1]
  clear hW1
  go_upto_region 5 with (first
    | (go_at_call 15; (with_reducible refine (HC.out _).mono ?_); rintro e w2 ⟨rfl, g2⟩; have S2 := Lib.hid (S1.out.grown g2); clear g2 d0 d1 d2 d3 d4 c0 c1 c2 c3 c4 c5 c6 c7 c8 c9; obtain ⟨⟨d0, d1, d2, d3, d4⟩, c0, c1, c2, c3, c4, c5, c6, c7, c8, c9⟩ := S2.out.cells; rw [HKI.out] at d0))
  clear c0 c2 c3 c4 c5 c6 c7 c8 HC S1
  generalize c 1 = sz at *
  generalize c 9 = sc at *
  go_wp2
  go_loop [5] (fun v => ∃ i : Nat, v = .int .i64 i ∧ i ≤ m) (fun v => m - (intOf v).toNat)
  case atStart => exact ⟨0, rfl, by omega⟩
  case round =>
    obtain ⟨i, rfl, hi⟩ := hrel
    by_cases hlt : i < m
    · have i1 : (i : Int) < (m : Int) := by omega
      have i2 : ¬ sz - 1 - (i : Int) < a := by omega
      have i3 : (i : Int) ≤ 32 := by omega
      go_wp2
      go_round
      case rel => exact ⟨i + 1, by go_num, by omega⟩
      case measure => simp [intOf]; omega
    · have i1 : ¬ (i : Int) < (m : Int) := by omega
      clear hi hlt
      go_wp2
      go_loop [6] (fun v => v = .int .i64 0) (fun _ => 0)
      case atStart => rfl
      case round =>
        subst hrel
        go_wp2_with (first
          | (go_at_call 9; (with_reducible refine (HL.out _).mono ?_); rintro e w3 ⟨rfl, g3⟩; have S3 := Lib.hid (S2.out.grown g3); clear g3 d0 d1 d2 d3 d4 c1 c9; obtain ⟨⟨d0, d1, d2, d3, d4⟩, c0, c1, c2, c3, c4, c5, c6, c7, c8, c9⟩ := S3.out.cells; rw [HKI.out] at d0)
          | (go_at_call 17; (with_reducible refine (HF.out _).mono ?_); rintro e w' ⟨rfl, rfl⟩)
          | (go_at_call 18; (with_reducible refine (HD.out _).mono ?_); rintro e w' ⟨rfl, rfl⟩))
        go_ret
        exact ⟨by first | rfl | simp, De.bel S3.out.2.2⟩
set_option maxHeartbeats 3200000 in
theorem De.stays_5 (k s : Nat) (a l g : Int) (c : Nat → Int) (w : World) (hk : k < 256) (bs : c 1 ≤ 9223372036854775807) (bc : c 9 ≤ 9223372036854775807) (h : De.chk k a l g (c 1) (c 9) = 0) (hkk : k = 5) : Calls Try.prog 6 #[.agg (De.dc k s a l g), .agg (De.cl c)] w fun e w' => e = .returned (.bool true) ∧ Below w.heap.size w w' := by
  have HL := Lib.hid De.live_any
  have hC := fun W => De.check_any k s a l g c W hk bs bc
  obtain ⟨n0, ⟨l0, l1⟩, ⟨a0, a1, a2⟩, n3⟩ := De.chk0 h
  rw [h] at hC
  have hF := fun W => (De.fills_any k W hk).mono (R' := fun e w' => e = .returned (.bool true) ∧ W = w') fun e w' ⟨h1, h2⟩ => ⟨by rw [h1]; subst hkk; rfl, h2⟩
  have hD := fun W => (De.reads_any k W hk).mono (R' := fun e w' => e = .returned (.bool false) ∧ W = w') fun e w' ⟨h1, h2⟩ => ⟨by rw [h1]; subst hkk; rfl, h2⟩
  obtain ⟨g0, g1, g2, g3⟩ := n3 (De.need_3.2 (by omega))
  obtain ⟨W1, hW1⟩ : ∃ W1, W1 = (w.alloc (.cells (De.dc k s a l g) 24)).alloc (.cells (De.cl c) 34) := ⟨_, rfl⟩
  have S1 := Lib.hid (show De.Sb w W1 k s a l g c from by rw [hW1]; exact De.sb_new w k s a l g c)
  unfold De.dc at hC hW1 ⊢
  rw [De.cl_is c] at hC hW1 ⊢
  have hki : (k : Int) = 5 := by omega
  obtain ⟨⟨d0, d1, d2, d3, d4⟩, c0, c1, c2, c3, c4, c5, c6, c7, c8, c9⟩ := S1.out.cells
  rw [hki] at hC hF hD hW1 d0 ⊢
  have HC := Lib.hid hC; have HF := Lib.hid hF; have HD := Lib.hid hD
  have HKI := Lib.hid hki
  clear hC hF hD h hkk hki n3 n0
  obtain ⟨m, hm⟩ := Int.eq_ofNat_of_zero_le l0
  subst hm
  have lw : ¬ (m : Int) < 0 := by omega
  have lx : ¬ (32 : Int) < (m : Int) := by omega
  have aw : ¬ a < 0 := by omega
  go_enter Try.func6, Try.ntmps6
  go_upto_region 1 with (fail)
  rw [← hW1]
  clear hW1
  go_upto_region 5 with (first
    | (go_at_call 15; (with_reducible refine (HC.out _).mono ?_); rintro e w2 ⟨rfl, g2⟩; have S2 := Lib.hid (S1.out.grown g2); clear g2 d0 d1 d2 d3 d4 c0 c1 c2 c3 c4 c5 c6 c7 c8 c9; obtain ⟨⟨d0, d1, d2, d3, d4⟩, c0, c1, c2, c3, c4, c5, c6, c7, c8, c9⟩ := S2.out.cells; rw [HKI.out] at d0))
  clear c0 c2 c3 c4 c5 c6 c7 c8 HC S1
  generalize c 1 = sz at *
  generalize c 9 = sc at *
  go_wp2
  go_loop [5] (fun v => ∃ i : Nat, v = .int .i64 i ∧ i ≤ m) (fun v => m - (intOf v).toNat)
  case atStart => exact ⟨0, rfl, by omega⟩
  case round =>
    obtain ⟨i, rfl, hi⟩ := hrel
    by_cases hlt : i < m
    · have i1 : (i : Int) < (m : Int) := by omega
      have i2 : ¬ sz - 1 - (i : Int) < a := by omega
      have i3 : (i : Int) ≤ 32 := by omega
      go_wp2
      go_round
      case rel => exact ⟨i + 1, by go_num, by omega⟩
      case measure => simp [intOf]; omega
    · have i1 : ¬ (i : Int) < (m : Int) := by omega
      clear hi hlt
      go_wp2
      have q2 : (m : Int) / 16 ≤ 2 := by omega
      have gw : ¬ g < 0 := by omega
      go_loop [6] (fun v => ∃ j : Nat, v = .int .i64 j ∧ 16 * j ≤ m) (fun v => 3 - (intOf v).toNat)
      case atStart => exact ⟨0, rfl, by omega⟩
      case round =>
        obtain ⟨j, rfl, hj⟩ := hrel
        have j3 : (j : Int) ≤ 2 := by omega
        by_cases hlt2 : 16 * j < m
        · have j1 : 16 * (j : Int) < (m : Int) := by omega
          have j2 : ¬ sc - 1 - (j : Int) < g := by omega
          have hj2 : 16 * (j + 1) ≤ m := by omega
          go_wp2
          go_round
          case rel => exact ⟨j + 1, by go_num, hj2⟩
          case measure => simp [intOf]; omega
        · have j1 : ¬ 16 * (j : Int) < (m : Int) := by omega
          go_wp2_with (first
            | (go_at_call 9; (with_reducible refine (HL.out _).mono ?_); rintro e w3 ⟨rfl, g3⟩; have S3 := Lib.hid (S2.out.grown g3); clear g3 d0 d1 d2 d3 d4 c1 c9; obtain ⟨⟨d0, d1, d2, d3, d4⟩, c0, c1, c2, c3, c4, c5, c6, c7, c8, c9⟩ := S3.out.cells; rw [HKI.out] at d0)
            | (go_at_call 17; (with_reducible refine (HF.out _).mono ?_); rintro e w' ⟨rfl, rfl⟩)
            | (go_at_call 18; (with_reducible refine (HD.out _).mono ?_); rintro e w' ⟨rfl, rfl⟩))
          go_ret
          exact ⟨by first | rfl | simp, De.bel S3.out.2.2⟩
set_option maxHeartbeats 3200000 in
theorem De.stays_6 (k s : Nat) (a l g : Int) (c : Nat → Int) (w : World) (hk : k < 256) (bs : c 1 ≤ 9223372036854775807) (bc : c 9 ≤ 9223372036854775807) (h : De.chk k a l g (c 1) (c 9) = 0) (hkk : k = 6) : Calls Try.prog 6 #[.agg (De.dc k s a l g), .agg (De.cl c)] w fun e w' => e = .returned (.bool true) ∧ Below w.heap.size w w' := by
  have HL := Lib.hid De.live_any
  have hC := fun W => De.check_any k s a l g c W hk bs bc
  obtain ⟨n0, ⟨l0, l1⟩, ⟨a0, a1, a2⟩, n3⟩ := De.chk0 h
  rw [h] at hC
  have hF := fun W => (De.fills_any k W hk).mono (R' := fun e w' => e = .returned (.bool false) ∧ W = w') fun e w' ⟨h1, h2⟩ => ⟨by rw [h1]; subst hkk; rfl, h2⟩
  have hD := fun W => (De.reads_any k W hk).mono (R' := fun e w' => e = .returned (.bool true) ∧ W = w') fun e w' ⟨h1, h2⟩ => ⟨by rw [h1]; subst hkk; rfl, h2⟩
  obtain ⟨g0, g1, g2, g3⟩ := n3 (De.need_3.2 (by omega))
  obtain ⟨W1, hW1⟩ : ∃ W1, W1 = (w.alloc (.cells (De.dc k s a l g) 24)).alloc (.cells (De.cl c) 34) := ⟨_, rfl⟩
  have S1 := Lib.hid (show De.Sb w W1 k s a l g c from by rw [hW1]; exact De.sb_new w k s a l g c)
  unfold De.dc at hC hW1 ⊢
  rw [De.cl_is c] at hC hW1 ⊢
  have hki : (k : Int) = 6 := by omega
  obtain ⟨⟨d0, d1, d2, d3, d4⟩, c0, c1, c2, c3, c4, c5, c6, c7, c8, c9⟩ := S1.out.cells
  rw [hki] at hC hF hD hW1 d0 ⊢
  have HC := Lib.hid hC; have HF := Lib.hid hF; have HD := Lib.hid hD
  have HKI := Lib.hid hki
  clear hC hF hD h hkk hki n3 n0
  obtain ⟨m, hm⟩ := Int.eq_ofNat_of_zero_le l0
  subst hm
  have lw : ¬ (m : Int) < 0 := by omega
  have lx : ¬ (32 : Int) < (m : Int) := by omega
  have aw : ¬ a < 0 := by omega
  go_enter Try.func6, Try.ntmps6
  go_upto_region 1 with (fail)
  rw [← hW1]
  clear hW1
  go_upto_region 5 with (first
    | (go_at_call 15; (with_reducible refine (HC.out _).mono ?_); rintro e w2 ⟨rfl, g2⟩; have S2 := Lib.hid (S1.out.grown g2); clear g2 d0 d1 d2 d3 d4 c0 c1 c2 c3 c4 c5 c6 c7 c8 c9; obtain ⟨⟨d0, d1, d2, d3, d4⟩, c0, c1, c2, c3, c4, c5, c6, c7, c8, c9⟩ := S2.out.cells; rw [HKI.out] at d0))
  clear c0 c2 c3 c4 c5 c6 c7 c8 HC S1
  generalize c 1 = sz at *
  generalize c 9 = sc at *
  go_wp2
  go_loop [5] (fun v => ∃ i : Nat, v = .int .i64 i ∧ i ≤ m) (fun v => m - (intOf v).toNat)
  case atStart => exact ⟨0, rfl, by omega⟩
  case round =>
    obtain ⟨i, rfl, hi⟩ := hrel
    by_cases hlt : i < m
    · have i1 : (i : Int) < (m : Int) := by omega
      have i2 : ¬ sz - 1 - (i : Int) < a := by omega
      have i3 : (i : Int) ≤ 32 := by omega
      go_wp2
      go_round
      case rel => exact ⟨i + 1, by go_num, by omega⟩
      case measure => simp [intOf]; omega
    · have i1 : ¬ (i : Int) < (m : Int) := by omega
      clear hi hlt
      go_wp2
      have q2 : (m : Int) / 16 ≤ 2 := by omega
      have gw : ¬ g < 0 := by omega
      go_loop [6] (fun v => ∃ j : Nat, v = .int .i64 j ∧ 16 * j ≤ m) (fun v => 3 - (intOf v).toNat)
      case atStart => exact ⟨0, rfl, by omega⟩
      case round =>
        obtain ⟨j, rfl, hj⟩ := hrel
        have j3 : (j : Int) ≤ 2 := by omega
        by_cases hlt2 : 16 * j < m
        · have j1 : 16 * (j : Int) < (m : Int) := by omega
          have j2 : ¬ sc - 1 - (j : Int) < g := by omega
          have hj2 : 16 * (j + 1) ≤ m := by omega
          go_wp2
          go_round
          case rel => exact ⟨j + 1, by go_num, hj2⟩
          case measure => simp [intOf]; omega
        · have j1 : ¬ 16 * (j : Int) < (m : Int) := by omega
          go_wp2_with (first
            | (go_at_call 9; (with_reducible refine (HL.out _).mono ?_); rintro e w3 ⟨rfl, g3⟩; have S3 := Lib.hid (S2.out.grown g3); clear g3 d0 d1 d2 d3 d4 c1 c9; obtain ⟨⟨d0, d1, d2, d3, d4⟩, c0, c1, c2, c3, c4, c5, c6, c7, c8, c9⟩ := S3.out.cells; rw [HKI.out] at d0)
            | (go_at_call 17; (with_reducible refine (HF.out _).mono ?_); rintro e w' ⟨rfl, rfl⟩)
            | (go_at_call 18; (with_reducible refine (HD.out _).mono ?_); rintro e w' ⟨rfl, rfl⟩))
          go_ret
          exact ⟨by first | rfl | simp, De.bel S3.out.2.2⟩
theorem De.stays_walk (k s : Nat) (a l g : Int) (c : Nat → Int) (w : World) (hk : k < 256) (hs : s < 256) (bs : c 1 ≤ 9223372036854775807) (bc : c 9 ≤ 9223372036854775807) : Calls Try.prog 6 #[.agg (De.dc k s a l g), .agg (De.cl c)] w fun e w' => e = .returned (.bool true) ∧ Below w.heap.size w w' := by
  by_cases h : De.chk k a l g (c 1) (c 9) = 0
  · have n0 := (De.chk0 h).1
    have hk6 : k = 1 ∨ k = 2 ∨ k = 3 ∨ k = 4 ∨ k = 5 ∨ k = 6 := by
      have : ¬ (k = 0 ∨ 6 < k) := fun e => n0 (De.need_0.2 e)
      omega
    rcases hk6 with e | e | e | e | e | e
    · exact De.stays_1 k s a l g c w hk bs bc h e
    · exact De.stays_2 k s a l g c w hk bs bc h e
    · exact De.stays_3 k s a l g c w hk bs bc h e
    · exact De.stays_4 k s a l g c w hk bs bc h e
    · exact De.stays_5 k s a l g c w hk bs bc h e
    · exact De.stays_6 k s a l g c w hk bs bc h e
  · exact De.stays_no k s a l g c w hk bs bc h
end Go.Proofs.Ytldhggaghhjebaa

/- How descriptors and clients that came in are opened. -/
namespace Go.Proofs.Ytldhggaghhjebaa
open Go.RowKit Go.Lib Go.ChangeShapes Go.WideShapes Go.ChangeAt Go.Deep Go.Joins
set_option linter.unusedVariables false
set_option maxRecDepth 8000

def fitI (x : Int) : Prop := -9223372036854775808 ≤ x ∧ x ≤ 9223372036854775807
theorem fitI_of {x : Int} (w : (Lit.int .i64 x).wf = true) : fitI x := by
  simp only [Lit.wf, Bool.and_eq_true, decide_eq_true_eq] at w
  have e1 : IntKind.i64.min = -9223372036854775808 := by kernel_rfl
  have e2 : IntKind.i64.max = 9223372036854775807 := by kernel_rfl
  unfold fitI
  omega
theorem De.in_u8 {n : Int} (w : (Lit.int .u8 n).wf = true) : 0 ≤ n ∧ n ≤ 255 := by
  simp only [Lit.wf, Bool.and_eq_true, decide_eq_true_eq] at w
  have e1 : IntKind.u8.min = 0 := by kernel_rfl
  have e2 : IntKind.u8.max = 255 := by kernel_rfl
  omega
theorem De.cut5 {cs : Array Value} (h : cs.size = 5) : ∃ c0 c1 c2 c3 c4, cs = #[c0, c1, c2, c3, c4] := by
  obtain ⟨l⟩ := cs
  match l, h with
  | [c0, c1, c2, c3, c4], _ => exact ⟨c0, c1, c2, c3, c4, rfl⟩
theorem De.cut10 {cs : Array Value} (h : cs.size = 10) : ∃ c0 c1 c2 c3 c4 c5 c6 c7 c8 c9, cs = #[c0, c1, c2, c3, c4, c5, c6, c7, c8, c9] := by
  obtain ⟨l⟩ := cs
  match l, h with
  | [c0, c1, c2, c3, c4, c5, c6, c7, c8, c9], _ => exact ⟨c0, c1, c2, c3, c4, c5, c6, c7, c8, c9, rfl⟩
section
variable {H : Type} {enc : TypeId × Value → H} {W : World} {base b0 : Nat} {spare : Nat → Bool} {held : Bool} {r : Reach} {v : Value} {d : DataW H} {p : List MemPlace}
/-- One field of a struct by value whose fields are one cell each. -/
theorem De.open_field {P : Program} {w : World} {t : TypeId} {fs : Array Field} {fuel : Nat} {cs : List Value} {x : DataW H × List MemPlace}
    (hs : P.underlying t = some (.struct fs)) (hone : oneCellFields P fs = true) (h : DataW.trod enc P w base spare held fuel t cs = some x) {i : Nat} {f : Field} (hf : fs[i]? = some f) {c : Value} (hc : cs[i]? = some c) :
    ∃ n y, DataW.trod enc P w base spare held n f.type [c] = some y := by
  obtain ⟨xs, n, _, _, _, hlen, hfld⟩ := DataW.trod_struct hs h
  obtain ⟨o, k⟩ := hone_of hone i f hf
  have h1 := hfld i f hf
  have hi : i < fs.size := (Array.getElem?_eq_some_iff.1 hf).1
  have hcl : i < cs.length := (List.getElem?_eq_some_iff.1 hc).1
  have hce : cs[i] = c := (List.getElem?_eq_some_iff.1 hc).2
  rw [o, k, List.getElem?_eq_getElem (by omega), List.drop_eq_getElem_cons hcl, hce] at h1
  exact ⟨n, _, by simpa using h1⟩
theorem De.open_desc (hv : Value.okWide Try.prog W r b0 24 v) (h : DataW.Trod enc Try.prog W base spare held 24 v d p) : ∃ (k s : Nat) (a l g : Int), v = .agg (De.dc k s a l g) ∧ k < 256 ∧ s < 256 := by
  obtain ⟨cs, rfl, hsz⟩ := okWide_struct Try.underlying24 hv
  obtain ⟨c0, c1, c2, c3, c4, rfl⟩ := De.cut5 (hsz.trans (by kernel_rfl))
  obtain ⟨fuel, hf⟩ := h
  obtain ⟨n0, y0, h0⟩ := De.open_field Try.underlying24 (by kernel_rfl) hf (i := 0) rfl (c := c0) rfl
  obtain ⟨n1, y1, h1⟩ := De.open_field Try.underlying24 (by kernel_rfl) hf (i := 1) rfl (c := c1) rfl
  obtain ⟨n2, y2, h2⟩ := De.open_field Try.underlying24 (by kernel_rfl) hf (i := 2) rfl (c := c2) rfl
  obtain ⟨n3, y3, h3⟩ := De.open_field Try.underlying24 (by kernel_rfl) hf (i := 3) rfl (c := c3) rfl
  obtain ⟨n4, y4, h4⟩ := De.open_field Try.underlying24 (by kernel_rfl) hf (i := 4) rfl (c := c4) rfl
  obtain ⟨k, e0, _, w0⟩ := DataW.trod_int Try.underlying22 h0
  obtain ⟨s, e1, _, w1⟩ := DataW.trod_int Try.underlying5 h1
  obtain ⟨a, e2, _, w2⟩ := DataW.trod_int Try.underlying3 h2
  obtain ⟨l, e3, _, w3⟩ := DataW.trod_int Try.underlying3 h3
  obtain ⟨g, e4, _, w4⟩ := DataW.trod_int Try.underlying3 h4
  injection e0 with e0 _
  injection e1 with e1 _
  injection e2 with e2 _
  injection e3 with e3 _
  injection e4 with e4 _
  subst e0 e1 e2 e3 e4
  have u0 := De.in_u8 w0
  have u1 := De.in_u8 w1
  exact ⟨k.toNat, s.toNat, a, l, g, by unfold De.dc; rw [Int.toNat_of_nonneg u0.1, Int.toNat_of_nonneg u1.1], by omega, by omega⟩
theorem De.open_client (hv : Value.okWide Try.prog W r b0 34 v) (h : DataW.Trod enc Try.prog W base spare held 34 v d p) : ∃ c : Nat → Int, v = .agg (De.cl c) ∧ c 1 ≤ 9223372036854775807 ∧ c 9 ≤ 9223372036854775807 := by
  obtain ⟨cs, rfl, hsz⟩ := okWide_struct Try.underlying34 hv
  obtain ⟨c0, c1, c2, c3, c4, c5, c6, c7, c8, c9, rfl⟩ := De.cut10 (hsz.trans (by kernel_rfl))
  obtain ⟨fuel, hf⟩ := h
  obtain ⟨n0, y0, h0⟩ := De.open_field Try.underlying34 (by kernel_rfl) hf (i := 0) rfl (c := c0) rfl
  obtain ⟨q0, e0, _, w0⟩ := DataW.trod_int Try.underlying3 h0
  injection e0 with e0 _
  obtain ⟨n1, y1, h1⟩ := De.open_field Try.underlying34 (by kernel_rfl) hf (i := 1) rfl (c := c1) rfl
  obtain ⟨q1, e1, _, w1⟩ := DataW.trod_int Try.underlying3 h1
  injection e1 with e1 _
  obtain ⟨n2, y2, h2⟩ := De.open_field Try.underlying34 (by kernel_rfl) hf (i := 2) rfl (c := c2) rfl
  obtain ⟨q2, e2, _, w2⟩ := DataW.trod_int Try.underlying3 h2
  injection e2 with e2 _
  obtain ⟨n3, y3, h3⟩ := De.open_field Try.underlying34 (by kernel_rfl) hf (i := 3) rfl (c := c3) rfl
  obtain ⟨q3, e3, _, w3⟩ := DataW.trod_int Try.underlying3 h3
  injection e3 with e3 _
  obtain ⟨n4, y4, h4⟩ := De.open_field Try.underlying34 (by kernel_rfl) hf (i := 4) rfl (c := c4) rfl
  obtain ⟨q4, e4, _, w4⟩ := DataW.trod_int Try.underlying3 h4
  injection e4 with e4 _
  obtain ⟨n5, y5, h5⟩ := De.open_field Try.underlying34 (by kernel_rfl) hf (i := 5) rfl (c := c5) rfl
  obtain ⟨q5, e5, _, w5⟩ := DataW.trod_int Try.underlying3 h5
  injection e5 with e5 _
  obtain ⟨n6, y6, h6⟩ := De.open_field Try.underlying34 (by kernel_rfl) hf (i := 6) rfl (c := c6) rfl
  obtain ⟨q6, e6, _, w6⟩ := DataW.trod_int Try.underlying3 h6
  injection e6 with e6 _
  obtain ⟨n7, y7, h7⟩ := De.open_field Try.underlying34 (by kernel_rfl) hf (i := 7) rfl (c := c7) rfl
  obtain ⟨q7, e7, _, w7⟩ := DataW.trod_int Try.underlying3 h7
  injection e7 with e7 _
  obtain ⟨n8, y8, h8⟩ := De.open_field Try.underlying34 (by kernel_rfl) hf (i := 8) rfl (c := c8) rfl
  obtain ⟨q8, e8, _, w8⟩ := DataW.trod_int Try.underlying3 h8
  injection e8 with e8 _
  obtain ⟨n9, y9, h9⟩ := De.open_field Try.underlying34 (by kernel_rfl) hf (i := 9) rfl (c := c9) rfl
  obtain ⟨q9, e9, _, w9⟩ := DataW.trod_int Try.underlying3 h9
  injection e9 with e9 _
  subst e0 e1 e2 e3 e4 e5 e6 e7 e8 e9
  refine ⟨fun i => match i with | 0 => q0 | 1 => q1 | 2 => q2 | 3 => q3 | 4 => q4 | 5 => q5 | 6 => q6 | 7 => q7 | 8 => q8 | _ => q9, rfl, (fitI_of w1).2, (fitI_of w9).2⟩
/-- A descriptor's numbers. -/
abbrev De.D5 := Nat × Nat × Int × Int × Int
def De.dv (D : De.D5) : Value := .agg (De.dc D.1 D.2.1 D.2.2.1 D.2.2.2.1 D.2.2.2.2)
def De.dfit (D : De.D5) : Prop := D.1 < 256 ∧ D.2.1 < 256
def De.cv (c : Nat → Int) : Value := .agg (De.cl c)
def De.cfit (c : Nat → Int) : Prop := c 1 ≤ 9223372036854775807 ∧ c 9 ≤ 9223372036854775807
theorem De.open_d (hv : Value.okWide Try.prog W r b0 24 v) (h : DataW.Trod enc Try.prog W base spare held 24 v d p) : ∃ D : De.D5, v = De.dv D ∧ De.dfit D := by
  obtain ⟨k, s, a, l, g, e, h1, h2⟩ := De.open_desc hv h
  exact ⟨(k, s, a, l, g), e, h1, h2⟩
theorem De.open_c (hv : Value.okWide Try.prog W r b0 34 v) (h : DataW.Trod enc Try.prog W base spare held 34 v d p) : ∃ c : Nat → Int, v = De.cv c ∧ De.cfit c := by
  obtain ⟨c, e, h1, h2⟩ := De.open_client hv h
  exact ⟨c, e, h1, h2⟩
end
end Go.Proofs.Ytldhggaghhjebaa

/- The laws of desc, over what came in: DescChecks and DescStays. -/
namespace Go.Proofs.Ytldhggaghhjebaa
open Go.RowKit Go.Lib
set_option linter.unusedVariables false

theorem De.checks_in (D : De.D5) (c : Nat → Int) (st n : Int) (w : World) (h : De.dfit D) (hc : De.cfit c) (h1 : fitI st) (h2 : fitI n) : Calls Try.prog 5 #[De.dv D, De.cv c, .int .i64 st, .int .i64 n] w fun e w' => e = .returned (.bool true) ∧ Below w.heap.size w w' := De.checks_walk _ _ _ _ _ c st n w h.1 h.2 hc.1 hc.2
theorem De.stays_in (D : De.D5) (c : Nat → Int) (w : World) (h : De.dfit D) (hc : De.cfit c) : Calls Try.prog 6 #[De.dv D, De.cv c] w fun e w' => e = .returned (.bool true) ∧ Below w.heap.size w w' := De.stays_walk _ _ _ _ _ c w h.1 h.2 hc.1 hc.2
end Go.Proofs.Ytldhggaghhjebaa

/- DescStays: what is not wrong touches the client's memory and sectors alone: for every descriptor and client's row the law returns true. No condition. -/
namespace Go.Proofs.Ytldhggaghhjebaa
open Go.RowKit Go.Lib Go.ChangeShapes Go.WideShapes Go.ChangeAt Go.Deep Go.Joins
open Go.ChangeMaps (open_string shut_string)
set_option linter.unusedVariables false

theorem descStays_own : ownKnob Try.prog.godebug = none := by kernel_rfl
theorem descStays_laid : laidOutB Try.prog = true := by kernel_rfl
set_option maxRecDepth 100000 in
theorem descStays_lifted (os : Os) (started : os.Started) (H : Type) (enc : TypeId × Value → H) :
    ReturnsInHanded {} Try.checked os 6 .any (Rows.descStaysSpec.pre6 enc Try.prog Try.f6 Rows.descStaysRow.domain false) (Rows.descStaysSpec.post enc Try.prog Try.f6 false true false false) := by
  refine returnsInHanded_of_change (C := Try.checked) descStays_own started (by kernel_rfl) Try.func6
    (ChangeSpec.witness6 (enc := enc) (C := Try.checked) false ⟨#[], #[.agg #[.int .u8 0, .int .u8 0, .int .i64 0, .int .i64 0, .int .i64 0], .agg #[.int .i64 0, .int .i64 0, .int .i64 0, .int .i64 0, .int .i64 0, .int .i64 0, .int .i64 0, .int .i64 0, .int .i64 0, .int .i64 0]], []⟩ 8 (by kernel_rfl) (by kernel_rfl) (by kernel_rfl) (by kernel_rfl)) ?_
  intro W base args ds gs before hval0 hW hcnd _
  have hval : ∀ (j : Nat) t v, Try.f6.params[j]? = some t → args[j]? = some v → Value.okWide Try.prog W .any base t v := hval0
  have hW' := hW
  obtain ⟨p, q, hA0, hV, rfl, hfz, hnd⟩ := hW
  have hA : DataW.TrodAll enc Try.prog W 0 (fun _ => true) true Try.f6.params.toList args.toList ds p := hA0
  rw [Try.params6] at hA hval
  obtain ⟨v0, vs0, d0, ds0, p0, q0, hargs, rfl, rfl, h0, r0⟩ := trodAll_cons hA
  obtain ⟨v1, vs1, d1, ds1, p1, q1, rfl, rfl, rfl, h1, r1⟩ := trodAll_cons r0
  obtain ⟨rfl, rfl, rfl⟩ := trodAll_nil r1
  obtain rfl : args = #[v0, v1] := by cases args; simp_all
  obtain ⟨rfl, rfl⟩ := trodVars_none hV
  obtain ⟨D0, rfl, hfit0⟩ := De.open_d (hval 0 24 v0 rfl rfl) h0
  have k0 := h0
  have lt0 : ∀ x ∈ p0, x.block < W.heap.size := by obtain ⟨m, hm⟩ := k0; exact DataW.trod_lt m _ _ _ hm
  obtain ⟨D1, rfl, hfit1⟩ := De.open_c (hval 1 34 v1 rfl rfl) h1
  have k1 := h1
  have lt1 : ∀ x ∈ p1, x.block < W.heap.size := by obtain ⟨m, hm⟩ := k1; exact DataW.trod_lt m _ _ _ hm
  clear hA0 hval0
  refine (De.stays_in D0 D1 W hfit0 hfit1).mono fun e W' ⟨he, bel⟩ => ?_
  subst he
  exact ⟨_, rfl, _, _, _, [], _, [], hW', trodAll_mk1 (shut_bool Try.underlying4 _), (trodAll_cons_mk (Below.trod descStays_laid (by kernel_rfl) (of_decide_eq_true (by kernel_rfl)) k0 bel lt0) (trodAll_cons_mk (Below.trod descStays_laid (by kernel_rfl) (of_decide_eq_true (by kernel_rfl)) k1 bel lt1) trodAll_mk0)), rfl, bel.frame _, fun h => by cases h⟩

theorem descStays_holds : Rows.DescStaysSaid :=
  OpenClaim.holds_of_wide 6 Try.f6 rfl rfl rfl rfl rfl rfl rfl ⟨rfl, rfl, rfl, rfl, rfl⟩ rfl rfl rfl rfl rfl (by kernel_rfl) Try.func6 (by kernel_rfl)
    (of_decide_eq_true (by kernel_rfl)) (by unfold Func.isWrapper; first | (rw [if_pos (by decide +kernel)]; kernel_rfl) | (rw [if_neg (by decide +kernel)]; exact ⟨rfl, rfl⟩))
    (fun os started H enc _ => descStays_lifted os started H enc)
#print axioms descStays_holds
end Go.Proofs.Ytldhggaghhjebaa
