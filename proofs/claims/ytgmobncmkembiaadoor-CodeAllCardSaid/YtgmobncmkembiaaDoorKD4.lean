/- The document's word on instructions: the instruction of bytes, by its contract. -/
import Derived.Test.YtgmobncmkembiaaDoorKD3
namespace Go.Proofs.YtgmobncmkembiaaDoor
open Go.RowKit Go.Lib
set_option linter.unusedVariables false

set_option maxRecDepth 20000 in
set_option maxHeartbeats 1600000 in
theorem rget_any (t : ByteArray) (hs : t.size ≤ 9223372036854775807) (w : World) : Calls Tryd.prog 13 #[.string t] w fun e w' => e = .returned (getV t) ∧ w.grownBy w' none := by
  obtain ⟨W1, hW, g1, hB⟩ := ibox w 24 #[.int .u8 0, .int .i64 0, .int .i64 0]
  have HG := Lib.hid g1
  have HB := Lib.hid hB
  by_cases h4 : t.size < 4
  · have HV := Lib.hid (show getV t = .tuple #[.agg #[.int .u8 0, .int .i64 0, .int .i64 0], .int .i64 5] from by unfold getV; rw [if_pos h4])
    have i4 : (t.size : Int) < 4 := by omega
    obtain ⟨z0, z1, z2, f0, f1, f2⟩ := in3f hB
    rw [HV.out]
    clear hB g1 h4
    go_enter Tryd.func13, Tryd.ntmps13
    go_upto_region 1 with (fail)
    rw [← hW]
    clear hW
    go_wp2
    obtain ⟨⟨r0, r1, r2⟩, G9⟩ := put3 (a' := .int .u8 0) (b' := .int .i64 0) (c' := .int .i64 0) HB.out HG.out _ rfl
    refine bodyPost_ret (v := .tuple #[.agg #[.int .u8 0, .int .i64 0, .int .i64 0], .int .i64 5]) (by simp [results, Tryd.results13, go_sem, r0, r1, r2]) rfl ⟨rfl, G9⟩
  · have j0 : 0 < t.size := by omega
    have j1 : 1 < t.size := by omega
    have j2 : 2 < t.size := by omega
    have j3 : 3 < t.size := by omega
    have i4 : ¬ (t.size : Int) < 4 := by omega
    have i0 : (0 : Int) < (t.size : Int) := by omega
    have i1 : (1 : Int) < (t.size : Int) := by omega
    have i2 : (2 : Int) < (t.size : Int) := by omega
    have i3 : (3 : Int) < (t.size : Int) := by omega
    have l0 := (t[0]'j0).toNat_lt
    have l1 := (t[1]'j1).toNat_lt
    have l2 := (t[2]'j2).toNat_lt
    have l3 := (t[3]'j3).toNat_lt
    have hgw : (gw t 2 : Int) = ((t[2]'j2).toNat : Int) + (256 : Int) * ((t[3]'j3).toNat : Int) := by rw [gw, if_pos (by omega), gb_of j2, gb_of j3]; omega
    have w1 : IntKind.i64.wrap ((t[1]'j1).toNat : Int) = ((t[1]'j1).toNat : Int) := by rw [IntKind.wrap_i64]; omega
    have w2 : IntKind.i64.wrap ((t[2]'j2).toNat : Int) = ((t[2]'j2).toNat : Int) := by rw [IntKind.wrap_i64]; omega
    have w3 : IntKind.i64.wrap ((t[3]'j3).toNat : Int) = ((t[3]'j3).toNat : Int) := by rw [IntKind.wrap_i64]; omega
    have w4 : IntKind.i64.wrap ((256 : Int) * ((t[3]'j3).toNat : Int)) = (256 : Int) * ((t[3]'j3).toNat : Int) := by rw [IntKind.wrap_i64]; omega
    have w5 : IntKind.i64.wrap (((t[2]'j2).toNat : Int) + (256 : Int) * ((t[3]'j3).toNat : Int)) = ((t[2]'j2).toNat : Int) + (256 : Int) * ((t[3]'j3).toNat : Int) := by rw [IntKind.wrap_i64]; omega
    have w6 : wrap64 ((256 : Int) * ((t[3]'j3).toNat : Int)) = (256 : Int) * ((t[3]'j3).toNat : Int) := IntWalk.wrap64_in _ ⟨by omega, by omega⟩
    have w7 : wrap64 (((t[2]'j2).toNat : Int) + (256 : Int) * ((t[3]'j3).toNat : Int)) = ((t[2]'j2).toNat : Int) + (256 : Int) * ((t[3]'j3).toNat : Int) := IntWalk.wrap64_in _ ⟨by omega, by omega⟩
    have HM := Lib.hid (fun W => rmay_any (gb t 0) (gb t 1) (gw t 2) (gb_lt t 0) W)
    have HVE := Lib.hid (show getV t = if mayI (gb t 0) (gb t 1) (gw t 2) = true then .tuple #[.agg #[.int .u8 (gb t 0), .int .i64 (gb t 1), .int .i64 (gw t 2)], .int .i64 0] else .tuple #[.agg #[.int .u8 0, .int .i64 0, .int .i64 0], .int .i64 12] from by unfold getV; rw [if_neg h4])
    rw [HVE.out]
    rw [gb_of j0, gb_of j1, hgw] at HM ⊢
    obtain ⟨m, hm⟩ : ∃ m, m = mayI (t[0]'j0).toNat ((t[1]'j1).toNat : Int) (((t[2]'j2).toNat : Int) + (256 : Int) * ((t[3]'j3).toNat : Int)) := ⟨_, rfl⟩
    rw [← hm] at HM ⊢
    cases m
    · rw [if_neg (by decide)]
      clear hB g1 h4 hgw hm HVE l0 l1 l2 l3
      go_enter Tryd.func13, Tryd.ntmps13
      go_upto_region 1 with (fail)
      rw [← hW]
      clear hW
      go_upto_region 3 with (fail)
      go_region
      obtain ⟨w8, hw8⟩ : ∃ w8, w8 = (W1.alloc (.cells #[.int .u8 ((t[0]'j0).toNat : Int), .int .i64 ((t[1]'j1).toNat : Int), .int .i64 (((t[2]'j2).toNat : Int) + (256 : Int) * ((t[3]'j3).toNat : Int))] 24)).drew := ⟨_, rfl⟩
      have g8 : W1.grownBy w8 none := by rw [hw8]; exact only_drewN (only_alloc (only_refl _ _) _) 1
      have BI := Lib.hid (show Blk w8 W1.heap.size 24 #[.int .u8 ((t[0]'j0).toNat : Int), .int .i64 ((t[1]'j1).toNat : Int), .int .i64 (((t[2]'j2).toNat : Int) + (256 : Int) * ((t[3]'j3).toNat : Int))] from by rw [hw8]; exact Blk.new _ _ _)
      have B8 := Lib.hid (HB.out.only g8 (by simp))
      have G8 := Lib.hid (only_trans HG.out g8)
      have hlt := HB.out.lt
      have n1 : ¬ w.heap.size = W1.heap.size := by omega
      have n2 : ¬ W1.heap.size = w.heap.size := by omega
      rw [← hw8]
      clear hw8 g8 hlt w1 w2 w3 w4 w5 w6 w7
      obtain ⟨y0, y1, y2⟩ := in3 BI.out
      go_wp2_with (go_at_call 8; (with_reducible refine (HM.out _).mono ?_); rintro e w9 ⟨rfl, g9⟩; have B9 := Lib.hid (B8.out.only g9 (by simp)); have G9 := Lib.hid (only_trans G8.out g9); clear y0 y1 y2 g9; obtain ⟨z0, z1, z2, f0, f1, f2⟩ := in3f B9.out)
      obtain ⟨⟨r0, r1, r2⟩, Gf⟩ := put3 (a' := .int .u8 0) (b' := .int .i64 0) (c' := .int .i64 0) B9.out G9.out _ rfl
      refine bodyPost_ret (v := .tuple #[.agg #[.int .u8 0, .int .i64 0, .int .i64 0], .int .i64 12]) (by simp [results, Tryd.results13, go_sem, r0, r1, r2]) rfl ⟨rfl, Gf⟩
    · rw [if_pos rfl]
      clear hB g1 h4 hgw hm HVE l0 l1 l2 l3
      go_enter Tryd.func13, Tryd.ntmps13
      go_upto_region 1 with (fail)
      rw [← hW]
      clear hW
      go_upto_region 3 with (fail)
      go_region
      obtain ⟨w8, hw8⟩ : ∃ w8, w8 = (W1.alloc (.cells #[.int .u8 ((t[0]'j0).toNat : Int), .int .i64 ((t[1]'j1).toNat : Int), .int .i64 (((t[2]'j2).toNat : Int) + (256 : Int) * ((t[3]'j3).toNat : Int))] 24)).drew := ⟨_, rfl⟩
      have g8 : W1.grownBy w8 none := by rw [hw8]; exact only_drewN (only_alloc (only_refl _ _) _) 1
      have BI := Lib.hid (show Blk w8 W1.heap.size 24 #[.int .u8 ((t[0]'j0).toNat : Int), .int .i64 ((t[1]'j1).toNat : Int), .int .i64 (((t[2]'j2).toNat : Int) + (256 : Int) * ((t[3]'j3).toNat : Int))] from by rw [hw8]; exact Blk.new _ _ _)
      have B8 := Lib.hid (HB.out.only g8 (by simp))
      have G8 := Lib.hid (only_trans HG.out g8)
      have hlt := HB.out.lt
      have n1 : ¬ w.heap.size = W1.heap.size := by omega
      have n2 : ¬ W1.heap.size = w.heap.size := by omega
      rw [← hw8]
      clear hw8 g8 hlt w1 w2 w3 w4 w5 w6 w7
      obtain ⟨y0, y1, y2⟩ := in3 BI.out
      go_wp2_with (go_at_call 8; (with_reducible refine (HM.out _).mono ?_); rintro e w9 ⟨rfl, g9⟩; have B9 := Lib.hid (B8.out.only g9 (by simp)); have BJ := Lib.hid (BI.out.only g9 (by simp)); have G9 := Lib.hid (only_trans G8.out g9); clear y0 y1 y2 g9; obtain ⟨z0, z1, z2, f0, f1, f2⟩ := in3f B9.out; obtain ⟨y0, y1, y2⟩ := in3 BJ.out)
      obtain ⟨⟨r0, r1, r2⟩, Gf⟩ := put3 (a' := .int .u8 ((t[0]'j0).toNat : Int)) (b' := .int .i64 ((t[1]'j1).toNat : Int)) (c' := .int .i64 (((t[2]'j2).toNat : Int) + (256 : Int) * ((t[3]'j3).toNat : Int))) B9.out G9.out _ rfl
      refine bodyPost_ret (v := .tuple #[.agg #[.int .u8 ((t[0]'j0).toNat : Int), .int .i64 ((t[1]'j1).toNat : Int), .int .i64 (((t[2]'j2).toNat : Int) + (256 : Int) * ((t[3]'j3).toNat : Int))], .int .i64 0]) (by simp [results, Tryd.results13, go_sem, r0, r1, r2]) rfl ⟨rfl, Gf⟩
end Go.Proofs.YtgmobncmkembiaaDoor
