import Derived.Test.YthhodadfiipffaaDoorZ06
set_option linter.all false
/- Package cpu: do, the arms that jump. -/
namespace Go.Proofs.YthhodadfiipffaaDoor
open Go.RowKit Go.Lib
set_option linter.unusedVariables false
set_option maxRecDepth 8000

set_option maxHeartbeats 6400000 in
theorem Cu.do_jump (m : Nat) (base size pc md : Int) (k x : Nat) (n : Int) (r : Nat → Int) (hpc : 0 ≤ pc ∧ pc ≤ 16384) (hk : k = 11 ∨ k = 12 ∨ k = 13) (hx : x < 8) (w : World) : Calls Tryd.prog 46 #[Cu.vw m base size, Cu.stV pc r md, Cu.inV k x n] w fun e w' => e = .returned (.tuple #[Cu.stV (if Cu.jm k (r x) (r 0) then n else pc + 4) r md, Cu.outV 1 0 0 0]) ∧ w.grownBy w' none := by
  have hw : IntKind.i64.wrap (pc + 4) = pc + 4 := by rw [IntKind.wrap_i64]; omega
  have HJ := Lib.hid (fun W => Cu.jumps_any pc md r k x n hk hx W)
  generalize Cu.jm k (r x) (r 0) = b at *
  rcases hk with rfl | rfl | rfl
  · unfold Cu.outV Cu.vw Cu.inV
    unfold Cu.stV at HJ ⊢
    simp only [Int.cast_ofNat_Int] at HJ ⊢
    unfold Cu.stC at HJ ⊢
    go_enter Tryd.func46, Tryd.ntmps46
    go_upto_region 18 with (fail)
    show Code.wp _ _ _ _ (Cu.wd w m base size (Cu.stC pc r md) (Cu.inC 11 x n) (Cu.stC (pc + 4) r md) #[.int .i64 1, .int .i64 0, .int .i64 0, .int .i64 0])
    have HD := Lib.hid (Cu.Dw.new w m base size (Cu.stC pc r md) (Cu.inC 11 x n) (Cu.stC (pc + 4) r md) #[.int .i64 1, .int .i64 0, .int .i64 0, .int .i64 0])
    generalize Cu.wd w m base size (Cu.stC pc r md) (Cu.inC 11 x n) (Cu.stC (pc + 4) r md) #[.int .i64 1, .int .i64 0, .int .i64 0, .int .i64 0] = W at *
    obtain ⟨⟨v0, v1, v2⟩, ⟨s0, s1, s2, s3, s4, s5, s6, s7, s8, s9⟩, ⟨i0, i1, i2⟩⟩ := HD.out.args
    cases b
    · go_upto_region 28 with (go_at_call 61; (with_reducible refine (HJ.out _).mono ?_); rintro e w1 ⟨rfl, g2⟩; have HD1 := Lib.hid (HD.out.step g2); clear v0 v1 v2 s0 s1 s2 s3 s4 s5 s6 s7 s8 s9 i0 i1 i2 g2)
      obtain ⟨⟨t0, t1, t2, t3, t4, t5, t6, t7, t8, t9⟩, ⟨o0, o1, o2, o3⟩⟩ := HD1.out.tail
      obtain ⟨⟨z0, z1, z2, z3, z4, z5, z6, z7, z8, z9⟩, ⟨y0, y1, y2, y3⟩, ⟨f0, f1, f2, f3, f4, f5, f6, f7, f8, f9⟩, ⟨e0, e1, e2, e3⟩⟩ := HD1.out.free
      go_region
      go_wp2
      obtain ⟨⟨r0, r1, r2, r3, r4, r5, r6, r7, r8, r9⟩, ⟨u0, u1, u2, u3⟩, G8, G9⟩ := HD1.out.fin (.int .i64 (pc + 4)) (.int .i64 (r 0)) (.int .i64 (r 1)) (.int .i64 (r 2)) (.int .i64 (r 3)) (.int .i64 (r 4)) (.int .i64 (r 5)) (.int .i64 (r 6)) (.int .i64 (r 7)) (.int .i64 md) (.int .i64 1) (.int .i64 0) (.int .i64 0) (.int .i64 0) _ rfl
      refine bodyPost_ret (v := .tuple #[.agg #[.int .i64 (pc + 4), .int .i64 (r 0), .int .i64 (r 1), .int .i64 (r 2), .int .i64 (r 3), .int .i64 (r 4), .int .i64 (r 5), .int .i64 (r 6), .int .i64 (r 7), .int .i64 md], .agg #[.int .i64 1, .int .i64 0, .int .i64 0, .int .i64 0]]) (by simp [results, Tryd.results46, go_sem, r0, r1, r2, r3, r4, r5, r6, r7, r8, r9, u0, u1, u2, u3]) rfl ⟨rfl, G9⟩
    · go_upto_region 19 with (go_at_call 61; (with_reducible refine (HJ.out _).mono ?_); rintro e w1 ⟨rfl, g2⟩; have HD1 := Lib.hid (HD.out.step g2); clear v0 v1 v2 s0 s1 s2 s3 s4 s5 s6 s7 s8 s9 i0 i1 i2 g2)
      obtain ⟨-, -, ⟨i0, i1, i2⟩⟩ := HD1.out.args
      obtain ⟨⟨tt, -⟩, -⟩ := HD1.out.tail
      have ft := HD1.out.tb.free 0
      go_upto_region 28 with (fail)
      have HD2 := Lib.hid (show Cu.Dw _ _ _ _ _ _ _ _ _ (Cu.stC n r md) _ _ from HD1.out.putT 0 (.int .i64 n))
      obtain ⟨W2, hW2⟩ : ∃ W2, W2 = w1.setCell ⟨w.heap.size + 1 + 1 + 1 + 1 + 1, 0, none⟩ (.int .i64 n) := ⟨_, rfl⟩
      rw [← hW2] at HD2 ⊢
      clear hW2 i0 i1 i2 tt ft
      obtain ⟨⟨t0, t1, t2, t3, t4, t5, t6, t7, t8, t9⟩, ⟨o0, o1, o2, o3⟩⟩ := HD2.out.tail
      obtain ⟨⟨z0, z1, z2, z3, z4, z5, z6, z7, z8, z9⟩, ⟨y0, y1, y2, y3⟩, ⟨f0, f1, f2, f3, f4, f5, f6, f7, f8, f9⟩, ⟨e0, e1, e2, e3⟩⟩ := HD2.out.free
      go_region
      go_wp2
      obtain ⟨⟨r0, r1, r2, r3, r4, r5, r6, r7, r8, r9⟩, ⟨u0, u1, u2, u3⟩, G8, G9⟩ := HD2.out.fin (.int .i64 n) (.int .i64 (r 0)) (.int .i64 (r 1)) (.int .i64 (r 2)) (.int .i64 (r 3)) (.int .i64 (r 4)) (.int .i64 (r 5)) (.int .i64 (r 6)) (.int .i64 (r 7)) (.int .i64 md) (.int .i64 1) (.int .i64 0) (.int .i64 0) (.int .i64 0) _ rfl
      refine bodyPost_ret (v := .tuple #[.agg #[.int .i64 n, .int .i64 (r 0), .int .i64 (r 1), .int .i64 (r 2), .int .i64 (r 3), .int .i64 (r 4), .int .i64 (r 5), .int .i64 (r 6), .int .i64 (r 7), .int .i64 md], .agg #[.int .i64 1, .int .i64 0, .int .i64 0, .int .i64 0]]) (by simp [results, Tryd.results46, go_sem, r0, r1, r2, r3, r4, r5, r6, r7, r8, r9, u0, u1, u2, u3]) rfl ⟨rfl, G9⟩
  · unfold Cu.outV Cu.vw Cu.inV
    unfold Cu.stV at HJ ⊢
    simp only [Int.cast_ofNat_Int] at HJ ⊢
    unfold Cu.stC at HJ ⊢
    go_enter Tryd.func46, Tryd.ntmps46
    go_upto_region 18 with (fail)
    show Code.wp _ _ _ _ (Cu.wd w m base size (Cu.stC pc r md) (Cu.inC 12 x n) (Cu.stC (pc + 4) r md) #[.int .i64 1, .int .i64 0, .int .i64 0, .int .i64 0])
    have HD := Lib.hid (Cu.Dw.new w m base size (Cu.stC pc r md) (Cu.inC 12 x n) (Cu.stC (pc + 4) r md) #[.int .i64 1, .int .i64 0, .int .i64 0, .int .i64 0])
    generalize Cu.wd w m base size (Cu.stC pc r md) (Cu.inC 12 x n) (Cu.stC (pc + 4) r md) #[.int .i64 1, .int .i64 0, .int .i64 0, .int .i64 0] = W at *
    obtain ⟨⟨v0, v1, v2⟩, ⟨s0, s1, s2, s3, s4, s5, s6, s7, s8, s9⟩, ⟨i0, i1, i2⟩⟩ := HD.out.args
    cases b
    · go_upto_region 28 with (go_at_call 61; (with_reducible refine (HJ.out _).mono ?_); rintro e w1 ⟨rfl, g2⟩; have HD1 := Lib.hid (HD.out.step g2); clear v0 v1 v2 s0 s1 s2 s3 s4 s5 s6 s7 s8 s9 i0 i1 i2 g2)
      obtain ⟨⟨t0, t1, t2, t3, t4, t5, t6, t7, t8, t9⟩, ⟨o0, o1, o2, o3⟩⟩ := HD1.out.tail
      obtain ⟨⟨z0, z1, z2, z3, z4, z5, z6, z7, z8, z9⟩, ⟨y0, y1, y2, y3⟩, ⟨f0, f1, f2, f3, f4, f5, f6, f7, f8, f9⟩, ⟨e0, e1, e2, e3⟩⟩ := HD1.out.free
      go_region
      go_wp2
      obtain ⟨⟨r0, r1, r2, r3, r4, r5, r6, r7, r8, r9⟩, ⟨u0, u1, u2, u3⟩, G8, G9⟩ := HD1.out.fin (.int .i64 (pc + 4)) (.int .i64 (r 0)) (.int .i64 (r 1)) (.int .i64 (r 2)) (.int .i64 (r 3)) (.int .i64 (r 4)) (.int .i64 (r 5)) (.int .i64 (r 6)) (.int .i64 (r 7)) (.int .i64 md) (.int .i64 1) (.int .i64 0) (.int .i64 0) (.int .i64 0) _ rfl
      refine bodyPost_ret (v := .tuple #[.agg #[.int .i64 (pc + 4), .int .i64 (r 0), .int .i64 (r 1), .int .i64 (r 2), .int .i64 (r 3), .int .i64 (r 4), .int .i64 (r 5), .int .i64 (r 6), .int .i64 (r 7), .int .i64 md], .agg #[.int .i64 1, .int .i64 0, .int .i64 0, .int .i64 0]]) (by simp [results, Tryd.results46, go_sem, r0, r1, r2, r3, r4, r5, r6, r7, r8, r9, u0, u1, u2, u3]) rfl ⟨rfl, G9⟩
    · go_upto_region 19 with (go_at_call 61; (with_reducible refine (HJ.out _).mono ?_); rintro e w1 ⟨rfl, g2⟩; have HD1 := Lib.hid (HD.out.step g2); clear v0 v1 v2 s0 s1 s2 s3 s4 s5 s6 s7 s8 s9 i0 i1 i2 g2)
      obtain ⟨-, -, ⟨i0, i1, i2⟩⟩ := HD1.out.args
      obtain ⟨⟨tt, -⟩, -⟩ := HD1.out.tail
      have ft := HD1.out.tb.free 0
      go_upto_region 28 with (fail)
      have HD2 := Lib.hid (show Cu.Dw _ _ _ _ _ _ _ _ _ (Cu.stC n r md) _ _ from HD1.out.putT 0 (.int .i64 n))
      obtain ⟨W2, hW2⟩ : ∃ W2, W2 = w1.setCell ⟨w.heap.size + 1 + 1 + 1 + 1 + 1, 0, none⟩ (.int .i64 n) := ⟨_, rfl⟩
      rw [← hW2] at HD2 ⊢
      clear hW2 i0 i1 i2 tt ft
      obtain ⟨⟨t0, t1, t2, t3, t4, t5, t6, t7, t8, t9⟩, ⟨o0, o1, o2, o3⟩⟩ := HD2.out.tail
      obtain ⟨⟨z0, z1, z2, z3, z4, z5, z6, z7, z8, z9⟩, ⟨y0, y1, y2, y3⟩, ⟨f0, f1, f2, f3, f4, f5, f6, f7, f8, f9⟩, ⟨e0, e1, e2, e3⟩⟩ := HD2.out.free
      go_region
      go_wp2
      obtain ⟨⟨r0, r1, r2, r3, r4, r5, r6, r7, r8, r9⟩, ⟨u0, u1, u2, u3⟩, G8, G9⟩ := HD2.out.fin (.int .i64 n) (.int .i64 (r 0)) (.int .i64 (r 1)) (.int .i64 (r 2)) (.int .i64 (r 3)) (.int .i64 (r 4)) (.int .i64 (r 5)) (.int .i64 (r 6)) (.int .i64 (r 7)) (.int .i64 md) (.int .i64 1) (.int .i64 0) (.int .i64 0) (.int .i64 0) _ rfl
      refine bodyPost_ret (v := .tuple #[.agg #[.int .i64 n, .int .i64 (r 0), .int .i64 (r 1), .int .i64 (r 2), .int .i64 (r 3), .int .i64 (r 4), .int .i64 (r 5), .int .i64 (r 6), .int .i64 (r 7), .int .i64 md], .agg #[.int .i64 1, .int .i64 0, .int .i64 0, .int .i64 0]]) (by simp [results, Tryd.results46, go_sem, r0, r1, r2, r3, r4, r5, r6, r7, r8, r9, u0, u1, u2, u3]) rfl ⟨rfl, G9⟩
  · unfold Cu.outV Cu.vw Cu.inV
    unfold Cu.stV at HJ ⊢
    simp only [Int.cast_ofNat_Int] at HJ ⊢
    unfold Cu.stC at HJ ⊢
    go_enter Tryd.func46, Tryd.ntmps46
    go_upto_region 18 with (fail)
    show Code.wp _ _ _ _ (Cu.wd w m base size (Cu.stC pc r md) (Cu.inC 13 x n) (Cu.stC (pc + 4) r md) #[.int .i64 1, .int .i64 0, .int .i64 0, .int .i64 0])
    have HD := Lib.hid (Cu.Dw.new w m base size (Cu.stC pc r md) (Cu.inC 13 x n) (Cu.stC (pc + 4) r md) #[.int .i64 1, .int .i64 0, .int .i64 0, .int .i64 0])
    generalize Cu.wd w m base size (Cu.stC pc r md) (Cu.inC 13 x n) (Cu.stC (pc + 4) r md) #[.int .i64 1, .int .i64 0, .int .i64 0, .int .i64 0] = W at *
    obtain ⟨⟨v0, v1, v2⟩, ⟨s0, s1, s2, s3, s4, s5, s6, s7, s8, s9⟩, ⟨i0, i1, i2⟩⟩ := HD.out.args
    cases b
    · go_upto_region 28 with (go_at_call 61; (with_reducible refine (HJ.out _).mono ?_); rintro e w1 ⟨rfl, g2⟩; have HD1 := Lib.hid (HD.out.step g2); clear v0 v1 v2 s0 s1 s2 s3 s4 s5 s6 s7 s8 s9 i0 i1 i2 g2)
      obtain ⟨⟨t0, t1, t2, t3, t4, t5, t6, t7, t8, t9⟩, ⟨o0, o1, o2, o3⟩⟩ := HD1.out.tail
      obtain ⟨⟨z0, z1, z2, z3, z4, z5, z6, z7, z8, z9⟩, ⟨y0, y1, y2, y3⟩, ⟨f0, f1, f2, f3, f4, f5, f6, f7, f8, f9⟩, ⟨e0, e1, e2, e3⟩⟩ := HD1.out.free
      go_region
      go_wp2
      obtain ⟨⟨r0, r1, r2, r3, r4, r5, r6, r7, r8, r9⟩, ⟨u0, u1, u2, u3⟩, G8, G9⟩ := HD1.out.fin (.int .i64 (pc + 4)) (.int .i64 (r 0)) (.int .i64 (r 1)) (.int .i64 (r 2)) (.int .i64 (r 3)) (.int .i64 (r 4)) (.int .i64 (r 5)) (.int .i64 (r 6)) (.int .i64 (r 7)) (.int .i64 md) (.int .i64 1) (.int .i64 0) (.int .i64 0) (.int .i64 0) _ rfl
      refine bodyPost_ret (v := .tuple #[.agg #[.int .i64 (pc + 4), .int .i64 (r 0), .int .i64 (r 1), .int .i64 (r 2), .int .i64 (r 3), .int .i64 (r 4), .int .i64 (r 5), .int .i64 (r 6), .int .i64 (r 7), .int .i64 md], .agg #[.int .i64 1, .int .i64 0, .int .i64 0, .int .i64 0]]) (by simp [results, Tryd.results46, go_sem, r0, r1, r2, r3, r4, r5, r6, r7, r8, r9, u0, u1, u2, u3]) rfl ⟨rfl, G9⟩
    · go_upto_region 19 with (go_at_call 61; (with_reducible refine (HJ.out _).mono ?_); rintro e w1 ⟨rfl, g2⟩; have HD1 := Lib.hid (HD.out.step g2); clear v0 v1 v2 s0 s1 s2 s3 s4 s5 s6 s7 s8 s9 i0 i1 i2 g2)
      obtain ⟨-, -, ⟨i0, i1, i2⟩⟩ := HD1.out.args
      obtain ⟨⟨tt, -⟩, -⟩ := HD1.out.tail
      have ft := HD1.out.tb.free 0
      go_upto_region 28 with (fail)
      have HD2 := Lib.hid (show Cu.Dw _ _ _ _ _ _ _ _ _ (Cu.stC n r md) _ _ from HD1.out.putT 0 (.int .i64 n))
      obtain ⟨W2, hW2⟩ : ∃ W2, W2 = w1.setCell ⟨w.heap.size + 1 + 1 + 1 + 1 + 1, 0, none⟩ (.int .i64 n) := ⟨_, rfl⟩
      rw [← hW2] at HD2 ⊢
      clear hW2 i0 i1 i2 tt ft
      obtain ⟨⟨t0, t1, t2, t3, t4, t5, t6, t7, t8, t9⟩, ⟨o0, o1, o2, o3⟩⟩ := HD2.out.tail
      obtain ⟨⟨z0, z1, z2, z3, z4, z5, z6, z7, z8, z9⟩, ⟨y0, y1, y2, y3⟩, ⟨f0, f1, f2, f3, f4, f5, f6, f7, f8, f9⟩, ⟨e0, e1, e2, e3⟩⟩ := HD2.out.free
      go_region
      go_wp2
      obtain ⟨⟨r0, r1, r2, r3, r4, r5, r6, r7, r8, r9⟩, ⟨u0, u1, u2, u3⟩, G8, G9⟩ := HD2.out.fin (.int .i64 n) (.int .i64 (r 0)) (.int .i64 (r 1)) (.int .i64 (r 2)) (.int .i64 (r 3)) (.int .i64 (r 4)) (.int .i64 (r 5)) (.int .i64 (r 6)) (.int .i64 (r 7)) (.int .i64 md) (.int .i64 1) (.int .i64 0) (.int .i64 0) (.int .i64 0) _ rfl
      refine bodyPost_ret (v := .tuple #[.agg #[.int .i64 n, .int .i64 (r 0), .int .i64 (r 1), .int .i64 (r 2), .int .i64 (r 3), .int .i64 (r 4), .int .i64 (r 5), .int .i64 (r 6), .int .i64 (r 7), .int .i64 md], .agg #[.int .i64 1, .int .i64 0, .int .i64 0, .int .i64 0]]) (by simp [results, Tryd.results46, go_sem, r0, r1, r2, r3, r4, r5, r6, r7, r8, r9, u0, u1, u2, u3]) rfl ⟨rfl, G9⟩
end Go.Proofs.YthhodadfiipffaaDoor
