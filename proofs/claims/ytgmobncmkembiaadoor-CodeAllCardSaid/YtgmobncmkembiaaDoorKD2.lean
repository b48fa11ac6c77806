/- Package code: Get, by its contract. -/
import Derived.Test.YtgmobncmkembiaaDoorKD1
namespace Go.Proofs.YtgmobncmkembiaaDoor
open Go.RowKit Go.Lib
set_option linter.unusedVariables false

set_option maxHeartbeats 1600000 in
theorem get_any (t : ByteArray) (hs : t.size ≤ 9223372036854775807) (w : World) (hG : Nm w) : Calls Tryd.prog 11 #[.string t] w fun e w' => e = .returned (getV t) ∧ w.grownBy w' none := by
  obtain ⟨W1, hW, g1, hB⟩ := ibox w 24 #[.int .u8 0, .int .i64 0, .int .i64 0]
  have hz : W1.heap.size = w.heap.size + 1 := by rw [hW]; simp
  have P0 := Lib.hid (show KdI w (W1.alloc (.cells #[.int .i64 0, .string t, .int .i64 0] 59)) (w.heap.size + 1) t 0 from by rw [hW]; exact kdi_new w t)
  have HNEW := Lib.hid (show Calls Tryd.prog 27 #[.string t] W1 (fun e w' => e = .returned (.pointer (some ⟨w.heap.size + 1, 0, none⟩)) ∧ KdI w w' (w.heap.size + 1) t 0) from (new_any t W1).mono fun e w' ⟨h1, h2⟩ => ⟨by rw [h1, hz], by subst h2; exact P0.out⟩)
  have HB0 := gb_lt t 0
  have HX0 := gb_lt t 1
  have HM := Lib.hid (fun W (h : KdI w W (w.heap.size + 1) t 4) => may_any (gb t 0) (gb t 1) (gw t 2) HB0 W (hG.grown h.2.2.1 (by simp)))
  have HN := Lib.hid (fun W (g : w.grownBy W none) => hG.grown g (by simp))
  have HS := Lib.hid hs
  have hmod : (gb t 0 : Int) % 256 = (gb t 0 : Int) := by omega
  have hw : IntKind.u8.wrap (gb t 0 : Int) = (gb t 0 : Int) := by rw [IntKind.wrap_u8]; omega
  obtain ⟨p, hp⟩ : ∃ p, p = w.heap.size := ⟨_, rfl⟩
  by_cases h4 : t.size < 4
  · have HV := Lib.hid (show getV t = .tuple #[.agg #[.int .u8 0, .int .i64 0, .int .i64 0], .int .i64 5] from by unfold getV; rw [if_pos h4])
    have HE := Lib.hid (fun W (h : KdI w W (w.heap.size + 1) t 4) => (show Calls Tryd.prog 30 #[.pointer (some ⟨w.heap.size + 1, 0, none⟩)] W (fun r w' => r = .returned (.int .i64 5) ∧ W = w') from by have := kdi_err h; rw [if_neg (by omega)] at this; exact this))
    rw [HV.out]
    clear hB g1 hG hs hz h4 P0 HM HV hp
    go_enter Tryd.func11, Tryd.ntmps11
    go_upto_region 1 with (fail)
    rw [← hW]
    clear hW
    go_upto_region 3 with (first
      | (go_at_call 27; (with_reducible refine HNEW.out.mono ?_); rintro e w2 ⟨rfl, q0⟩; have Q0 := Lib.hid q0; clear q0)
      | (go_at_call 28; (with_reducible refine (kdi_byte Q0.out HS.out).mono ?_); rintro e w3 ⟨rfl, q1⟩; have Q1 := Lib.hid q1; clear q1)
      | (go_at_call 28; (with_reducible refine (kdi_byte Q1.out HS.out).mono ?_); rintro e w4 ⟨rfl, q2⟩; have Q2 := Lib.hid q2; clear q2)
      | (go_at_call 29; (with_reducible refine (kdi_two Q2.out HS.out).mono ?_); rintro e w5 ⟨rfl, q3⟩; have Q3 := Lib.hid q3; clear q3))
    obtain ⟨w6, hw6⟩ : ∃ w6, w6 = w5.alloc (.cells #[.int .u8 (gb t 0), .int .i64 (gb t 1), .int .i64 (gw t 2)] 24) := ⟨_, rfl⟩
    have g6 : w5.grownBy w6 none := by rw [hw6]; exact only_alloc (only_refl _ _) _
    have BI := Lib.hid (show Blk w6 w5.heap.size 24 #[.int .u8 (gb t 0), .int .i64 (gb t 1), .int .i64 (gw t 2)] from by rw [hw6]; exact Blk.new _ _ _)
    have Q4 := Lib.hid (Q3.out.grown g6)
    have nlt := Lib.hid (show w.heap.size < w5.heap.size from Q3.out.2.1.lt)
    rw [← hw6]
    clear hw6 g6
    obtain ⟨i0, i1, i2⟩ := in3 BI.out
    obtain ⟨z0, z1, z2, f0, f1, f2⟩ := in3f Q4.out.2.1
    have n1 : ¬ w.heap.size = w5.heap.size := by have := nlt.out; omega
    have n2 : ¬ w5.heap.size = w.heap.size := by have := nlt.out; omega
    go_wp2_with (go_at_call 30; (with_reducible refine (HE.out _ Q4.out).mono ?_); rintro e w7 ⟨rfl, rfl⟩)
    obtain ⟨⟨r0, r1, r2⟩, G9⟩ := put3 (a' := .int .u8 0) (b' := .int .i64 0) (c' := .int .i64 0) Q4.out.2.1 Q4.out.2.2.1 _ rfl
    refine bodyPost_ret (v := .tuple #[.agg #[.int .u8 0, .int .i64 0, .int .i64 0], .int .i64 5]) (by simp [results, Tryd.results11, go_sem, r0, r1, r2]) rfl ⟨rfl, G9⟩
  · have HE := Lib.hid (fun W (h : KdI w W (w.heap.size + 1) t 4) => (show Calls Tryd.prog 30 #[.pointer (some ⟨w.heap.size + 1, 0, none⟩)] W (fun r w' => r = .returned (.int .i64 0) ∧ W = w') from by have := kdi_err h; rw [if_pos (by omega)] at this; exact this))
    cases hm : mayI (gb t 0) (gb t 1) (gw t 2)
    · have HV := Lib.hid (show getV t = .tuple #[.agg #[.int .u8 0, .int .i64 0, .int .i64 0], .int .i64 12] from by unfold getV; rw [if_neg h4, if_neg (by rw [hm]; decide)])
      rw [hm] at HM
      rw [HV.out]
      clear hB g1 hG hs hz h4 P0 HV hp hm
      go_enter Tryd.func11, Tryd.ntmps11
      go_upto_region 1 with (fail)
      rw [← hW]
      clear hW
      go_upto_region 3 with (first
        | (go_at_call 27; (with_reducible refine HNEW.out.mono ?_); rintro e w2 ⟨rfl, q0⟩; have Q0 := Lib.hid q0; clear q0)
        | (go_at_call 28; (with_reducible refine (kdi_byte Q0.out HS.out).mono ?_); rintro e w3 ⟨rfl, q1⟩; have Q1 := Lib.hid q1; clear q1)
        | (go_at_call 28; (with_reducible refine (kdi_byte Q1.out HS.out).mono ?_); rintro e w4 ⟨rfl, q2⟩; have Q2 := Lib.hid q2; clear q2)
        | (go_at_call 29; (with_reducible refine (kdi_two Q2.out HS.out).mono ?_); rintro e w5 ⟨rfl, q3⟩; have Q3 := Lib.hid q3; clear q3))
      obtain ⟨w6, hw6⟩ : ∃ w6, w6 = w5.alloc (.cells #[.int .u8 (gb t 0), .int .i64 (gb t 1), .int .i64 (gw t 2)] 24) := ⟨_, rfl⟩
      have g6 : w5.grownBy w6 none := by rw [hw6]; exact only_alloc (only_refl _ _) _
      have BI := Lib.hid (show Blk w6 w5.heap.size 24 #[.int .u8 (gb t 0), .int .i64 (gb t 1), .int .i64 (gw t 2)] from by rw [hw6]; exact Blk.new _ _ _)
      have Q4 := Lib.hid (Q3.out.grown g6)
      have nlt := Lib.hid (show w.heap.size < w5.heap.size from Q3.out.2.1.lt)
      rw [← hw6]
      clear hw6 g6
      obtain ⟨i0, i1, i2⟩ := in3 BI.out
      obtain ⟨z0, z1, z2, f0, f1, f2⟩ := in3f Q4.out.2.1
      have n1 : ¬ w.heap.size = w5.heap.size := by have := nlt.out; omega
      have n2 : ¬ w5.heap.size = w.heap.size := by have := nlt.out; omega
      go_wp2_with (first
        | (go_at_call 30; (with_reducible refine (HE.out _ Q4.out).mono ?_); rintro e w7 ⟨rfl, rfl⟩)
        | (go_at_call 9; (with_reducible refine (HM.out _ Q4.out).mono ?_); rintro e w8 ⟨rfl, g8⟩; have Q8 := Lib.hid (Q4.out.grown g8); clear z0 z1 z2 f0 f1 f2 g8; obtain ⟨z0, z1, z2, f0, f1, f2⟩ := in3f Q8.out.2.1))
      obtain ⟨⟨r0, r1, r2⟩, G9⟩ := put3 (a' := .int .u8 0) (b' := .int .i64 0) (c' := .int .i64 0) Q8.out.2.1 Q8.out.2.2.1 _ rfl
      refine bodyPost_ret (v := .tuple #[.agg #[.int .u8 0, .int .i64 0, .int .i64 0], .int .i64 12]) (by simp [results, Tryd.results11, go_sem, r0, r1, r2]) rfl ⟨rfl, G9⟩
    · have HV := Lib.hid (show getV t = .tuple #[.agg #[.int .u8 (gb t 0), .int .i64 (gb t 1), .int .i64 (gw t 2)], .int .i64 0] from by unfold getV; rw [if_neg h4, if_pos hm])
      rw [hm] at HM
      rw [HV.out]
      clear hB g1 hG hs hz h4 P0 HV hp hm
      go_enter Tryd.func11, Tryd.ntmps11
      go_upto_region 1 with (fail)
      rw [← hW]
      clear hW
      go_upto_region 3 with (first
        | (go_at_call 27; (with_reducible refine HNEW.out.mono ?_); rintro e w2 ⟨rfl, q0⟩; have Q0 := Lib.hid q0; clear q0)
        | (go_at_call 28; (with_reducible refine (kdi_byte Q0.out HS.out).mono ?_); rintro e w3 ⟨rfl, q1⟩; have Q1 := Lib.hid q1; clear q1)
        | (go_at_call 28; (with_reducible refine (kdi_byte Q1.out HS.out).mono ?_); rintro e w4 ⟨rfl, q2⟩; have Q2 := Lib.hid q2; clear q2)
        | (go_at_call 29; (with_reducible refine (kdi_two Q2.out HS.out).mono ?_); rintro e w5 ⟨rfl, q3⟩; have Q3 := Lib.hid q3; clear q3))
      obtain ⟨w6, hw6⟩ : ∃ w6, w6 = w5.alloc (.cells #[.int .u8 (gb t 0), .int .i64 (gb t 1), .int .i64 (gw t 2)] 24) := ⟨_, rfl⟩
      have g6 : w5.grownBy w6 none := by rw [hw6]; exact only_alloc (only_refl _ _) _
      have BI := Lib.hid (show Blk w6 w5.heap.size 24 #[.int .u8 (gb t 0), .int .i64 (gb t 1), .int .i64 (gw t 2)] from by rw [hw6]; exact Blk.new _ _ _)
      have Q4 := Lib.hid (Q3.out.grown g6)
      have nlt := Lib.hid (show w.heap.size < w5.heap.size from Q3.out.2.1.lt)
      rw [← hw6]
      clear hw6 g6
      obtain ⟨i0, i1, i2⟩ := in3 BI.out
      obtain ⟨z0, z1, z2, f0, f1, f2⟩ := in3f Q4.out.2.1
      have n1 : ¬ w.heap.size = w5.heap.size := by have := nlt.out; omega
      have n2 : ¬ w5.heap.size = w.heap.size := by have := nlt.out; omega
      go_wp2_with (first
        | (go_at_call 30; (with_reducible refine (HE.out _ Q4.out).mono ?_); rintro e w7 ⟨rfl, rfl⟩)
        | (go_at_call 9; (with_reducible refine (HM.out _ Q4.out).mono ?_); rintro e w8 ⟨rfl, g8⟩; have Q8 := Lib.hid (Q4.out.grown g8); have BJ := Lib.hid (BI.out.only g8 (by simp)); clear z0 z1 z2 f0 f1 f2 i0 i1 i2 g8; obtain ⟨z0, z1, z2, f0, f1, f2⟩ := in3f Q8.out.2.1; obtain ⟨i0, i1, i2⟩ := in3 BJ.out))
      obtain ⟨⟨r0, r1, r2⟩, G9⟩ := put3 (a' := .int .u8 (gb t 0)) (b' := .int .i64 (gb t 1)) (c' := .int .i64 (gw t 2)) Q8.out.2.1 Q8.out.2.2.1 _ rfl
      refine bodyPost_ret (v := .tuple #[.agg #[.int .u8 (gb t 0), .int .i64 (gb t 1), .int .i64 (gw t 2)], .int .i64 0]) (by simp [results, Tryd.results11, go_sem, r0, r1, r2]) rfl ⟨rfl, G9⟩
end Go.Proofs.YtgmobncmkembiaaDoor
