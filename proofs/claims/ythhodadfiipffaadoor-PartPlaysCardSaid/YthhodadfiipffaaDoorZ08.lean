import Derived.Test.YthhodadfiipffaaDoorZ07
import Derived.Deep.RegionHeld
set_option linter.all false
/- Package cpu: do, what needs no memory. -/
namespace Go.Proofs.YthhodadfiipffaaDoor
open Go.RowKit Go.Lib
set_option linter.unusedVariables false
set_option maxRecDepth 8000

set_option maxRecDepth 20000 in
set_option maxHeartbeats 12800000 in
theorem Cu.do_made (m : Nat) (base size pc md : Int) (k x n : Nat) (r : Nat → Int) (hpc : 0 ≤ pc ∧ pc ≤ 16384) (hk : 1 ≤ k ∧ k ≤ 6) (hx : x < 8) (hn : k = 1 ∨ n < 8) (hr : ∀ i, 0 ≤ r i ∧ r i < 65536) (w : World) : Calls Tryd.prog 46 #[Cu.vw m base size, Cu.stV pc r md, Cu.inV k x n] w fun e w' => e = .returned (.tuple #[Cu.stV (pc + 4) (Cu.upd r x (Cu.mkV k n (r x) (r n))) md, Cu.outV 1 0 0 0]) ∧ w.grownBy w' none := by
  have hw : IntKind.i64.wrap (pc + 4) = pc + 4 := by rw [IntKind.wrap_i64]; omega
  have HM := Lib.hid (fun W => Cu.made_any pc md r k x n hk hx hn hr W)
  generalize Cu.mkV k n (r x) (r n) = v at *
  have HXL := Lib.hid hx
  have x1 : (x : Int) < 8 := by omega
  have x2 : (0 : Int) ≤ (x : Int) := by omega
  have x3 : ¬ (x : Int) < 0 := by omega
  have x4 : ¬ (7 : Int) < (x : Int) := by omega
  obtain ⟨rr, hrr⟩ : ∃ rr, rr = Cu.upd r x v := ⟨_, rfl⟩
  rw [← hrr]
  unfold Cu.stV at HM ⊢
  unfold Cu.stC at HM ⊢
  clear hn hr
  have hk' : k = 1 ∨ k = 2 ∨ k = 3 ∨ k = 4 ∨ k = 5 ∨ k = 6 := by omega
  rcases hk' with rfl | rfl | rfl | rfl | rfl | rfl
  · simp only [Int.cast_ofNat_Int] at HM ⊢
    unfold Cu.outV Cu.vw Cu.inV
    go_enter Tryd.func46, Tryd.ntmps46
    go_upto_region 6 with (fail)
    show Code.wp _ _ _ _ (Cu.wd w m base size (Cu.stC pc r md) (Cu.inC 1 x n) (Cu.stC (pc + 4) r md) #[.int .i64 1, .int .i64 0, .int .i64 0, .int .i64 0])
    have HD := Lib.hid (Cu.Dw.new w m base size (Cu.stC pc r md) (Cu.inC 1 x n) (Cu.stC (pc + 4) r md) #[.int .i64 1, .int .i64 0, .int .i64 0, .int .i64 0])
    generalize Cu.wd w m base size (Cu.stC pc r md) (Cu.inC 1 x n) (Cu.stC (pc + 4) r md) #[.int .i64 1, .int .i64 0, .int .i64 0, .int .i64 0] = W at *
    have HDd := Lib.hid (show Cu.Dw _ W.drew _ _ _ _ _ _ _ _ _ _ from HD.out.step (only_drewN (only_refl _ _) 1))
    have HX0 : Hid ((W.drew.cell? ⟨w.heap.size, 0, none⟩ = some (.pointer (some ⟨m, 0, none⟩)) ∧ W.drew.cell? ⟨w.heap.size, 1, none⟩ = some (.int .i64 base) ∧ W.drew.cell? ⟨w.heap.size, 2, none⟩ = some (.int .i64 size)) ∧ (W.drew.cell? ⟨w.heap.size + 1, 0, none⟩ = some (.int .i64 pc) ∧ W.drew.cell? ⟨w.heap.size + 1, 1, none⟩ = some (.int .i64 (r 0)) ∧ W.drew.cell? ⟨w.heap.size + 1, 2, none⟩ = some (.int .i64 (r 1)) ∧ W.drew.cell? ⟨w.heap.size + 1, 3, none⟩ = some (.int .i64 (r 2)) ∧ W.drew.cell? ⟨w.heap.size + 1, 4, none⟩ = some (.int .i64 (r 3)) ∧ W.drew.cell? ⟨w.heap.size + 1, 5, none⟩ = some (.int .i64 (r 4)) ∧ W.drew.cell? ⟨w.heap.size + 1, 6, none⟩ = some (.int .i64 (r 5)) ∧ W.drew.cell? ⟨w.heap.size + 1, 7, none⟩ = some (.int .i64 (r 6)) ∧ W.drew.cell? ⟨w.heap.size + 1, 8, none⟩ = some (.int .i64 (r 7)) ∧ W.drew.cell? ⟨w.heap.size + 1, 9, none⟩ = some (.int .i64 md)) ∧ (W.drew.cell? ⟨w.heap.size + 1 + 1, 0, none⟩ = some (.int .u8 1) ∧ W.drew.cell? ⟨w.heap.size + 1 + 1, 1, none⟩ = some (.int .i64 (x : Int)) ∧ W.drew.cell? ⟨w.heap.size + 1 + 1, 2, none⟩ = some (.int .i64 (n : Int)))) := Lib.hid HDd.out.args
    refine wp_region_held_drew (S := fun w' => (w'.cell? ⟨w.heap.size, 0, none⟩ = some (.pointer (some ⟨m, 0, none⟩)) ∧ w'.cell? ⟨w.heap.size, 1, none⟩ = some (.int .i64 base) ∧ w'.cell? ⟨w.heap.size, 2, none⟩ = some (.int .i64 size)) ∧ (w'.cell? ⟨w.heap.size + 1, 0, none⟩ = some (.int .i64 pc) ∧ w'.cell? ⟨w.heap.size + 1, 1, none⟩ = some (.int .i64 (r 0)) ∧ w'.cell? ⟨w.heap.size + 1, 2, none⟩ = some (.int .i64 (r 1)) ∧ w'.cell? ⟨w.heap.size + 1, 3, none⟩ = some (.int .i64 (r 2)) ∧ w'.cell? ⟨w.heap.size + 1, 4, none⟩ = some (.int .i64 (r 3)) ∧ w'.cell? ⟨w.heap.size + 1, 5, none⟩ = some (.int .i64 (r 4)) ∧ w'.cell? ⟨w.heap.size + 1, 6, none⟩ = some (.int .i64 (r 5)) ∧ w'.cell? ⟨w.heap.size + 1, 7, none⟩ = some (.int .i64 (r 6)) ∧ w'.cell? ⟨w.heap.size + 1, 8, none⟩ = some (.int .i64 (r 7)) ∧ w'.cell? ⟨w.heap.size + 1, 9, none⟩ = some (.int .i64 md)) ∧ (w'.cell? ⟨w.heap.size + 1 + 1, 0, none⟩ = some (.int .u8 1) ∧ w'.cell? ⟨w.heap.size + 1 + 1, 1, none⟩ = some (.int .i64 (x : Int)) ∧ w'.cell? ⟨w.heap.size + 1 + 1, 2, none⟩ = some (.int .i64 (n : Int)))) (by kernel_rfl) HX0.out (fun hHeld => ?_)
    refine wpAnyH_take (i := 0) (oi := ⟨some 19, _, _, _, _, none⟩) (v := ?_) rfl (by kernel_rfl) (by kernel_rfl) (by kernel_rfl) (fun _ _ _ h => h) (Or.inl ⟨by rfl, ?_⟩) (by assumption) ?_
    case refine_2 => intro w hSw; (try dsimp only at hSw); go_simp; try with_reducible rfl
    try simp only [Act.put, List.setIfInBounds_toArray, List.set_cons_zero, List.set_cons_succ]
    refine wpAnyH_take (i := 1) (oi := ⟨some 20, _, _, _, _, none⟩) (v := ?_) rfl (by kernel_rfl) (by kernel_rfl) (by kernel_rfl) (fun _ _ _ h => h) (Or.inl ⟨by rfl, ?_⟩) (by assumption) ?_
    case refine_2 => intro w hSw; (try dsimp only at hSw); go_simp; try with_reducible rfl
    try simp only [Act.put, List.setIfInBounds_toArray, List.set_cons_zero, List.set_cons_succ]
    refine wpAnyH_take (i := 2) (oi := ⟨some 21, _, _, _, _, none⟩) (v := ?_) rfl (by kernel_rfl) (by kernel_rfl) (by kernel_rfl) (fun _ _ _ h => h) (Or.inl ⟨by rfl, ?_⟩) (by assumption) ?_
    case refine_2 => intro w hSw; (try dsimp only at hSw); go_simp; try with_reducible rfl
    try simp only [Act.put, List.setIfInBounds_toArray, List.set_cons_zero, List.set_cons_succ]
    refine wpAnyH_take (i := 3) (oi := ⟨some 22, _, _, _, _, none⟩) (v := ?_) rfl (by kernel_rfl) (by kernel_rfl) (by kernel_rfl) (fun _ _ _ h => h) (Or.inl ⟨by rfl, ?_⟩) (by assumption) ?_
    case refine_2 => intro w hSw; (try dsimp only at hSw); go_simp; try with_reducible rfl
    try simp only [Act.put, List.setIfInBounds_toArray, List.set_cons_zero, List.set_cons_succ]
    refine wpAnyH_take (i := 5) (oi := ⟨some 24, _, _, _, _, none⟩) (v := ?_) rfl (by kernel_rfl) (by kernel_rfl) (by kernel_rfl) (fun _ _ _ h => h) (Or.inl ⟨by rfl, ?_⟩) (by assumption) ?_
    case refine_2 => intro w hSw; (try dsimp only at hSw); go_simp; try with_reducible rfl
    try simp only [Act.put, List.setIfInBounds_toArray, List.set_cons_zero, List.set_cons_succ]
    refine wpAnyH_ready (rs := [4]) (by kernel_rfl) (by simp) ?_
    refine AllReadyH.cons (o := ⟨some 23, _, _, _, _, none⟩) rfl (fun K hK => ?_) AllReadyH.nil
    go_simp
    have HQ := HM.out W.drew
    refine HQ.mono ?_
    clear HQ
    rintro e w3 ⟨rfl, g3⟩
    have HD3 := Lib.hid (HDd.out.step g3)
    have HX3 : Hid ((w3.cell? ⟨w.heap.size, 0, none⟩ = some (.pointer (some ⟨m, 0, none⟩)) ∧ w3.cell? ⟨w.heap.size, 1, none⟩ = some (.int .i64 base) ∧ w3.cell? ⟨w.heap.size, 2, none⟩ = some (.int .i64 size)) ∧ (w3.cell? ⟨w.heap.size + 1, 0, none⟩ = some (.int .i64 pc) ∧ w3.cell? ⟨w.heap.size + 1, 1, none⟩ = some (.int .i64 (r 0)) ∧ w3.cell? ⟨w.heap.size + 1, 2, none⟩ = some (.int .i64 (r 1)) ∧ w3.cell? ⟨w.heap.size + 1, 3, none⟩ = some (.int .i64 (r 2)) ∧ w3.cell? ⟨w.heap.size + 1, 4, none⟩ = some (.int .i64 (r 3)) ∧ w3.cell? ⟨w.heap.size + 1, 5, none⟩ = some (.int .i64 (r 4)) ∧ w3.cell? ⟨w.heap.size + 1, 6, none⟩ = some (.int .i64 (r 5)) ∧ w3.cell? ⟨w.heap.size + 1, 7, none⟩ = some (.int .i64 (r 6)) ∧ w3.cell? ⟨w.heap.size + 1, 8, none⟩ = some (.int .i64 (r 7)) ∧ w3.cell? ⟨w.heap.size + 1, 9, none⟩ = some (.int .i64 md)) ∧ (w3.cell? ⟨w.heap.size + 1 + 1, 0, none⟩ = some (.int .u8 1) ∧ w3.cell? ⟨w.heap.size + 1 + 1, 1, none⟩ = some (.int .i64 (x : Int)) ∧ w3.cell? ⟨w.heap.size + 1 + 1, 2, none⟩ = some (.int .i64 (n : Int)))) := Lib.hid HD3.out.args
    clear g3
    try simp only []
    refine hK.out _ _ (HX3.out) (fun hHeld => ?_)
    clear hK K
    try simp only [Act.put, List.setIfInBounds_toArray, List.set_cons_zero, List.set_cons_succ]
    refine wpAnyH_take (i := 6) (oi := ⟨some 25, _, _, _, _, none⟩) (v := ?_) rfl (by kernel_rfl) (by kernel_rfl) (by kernel_rfl) (fun _ _ _ h => h) (Or.inl ⟨by rfl, ?_⟩) (by assumption) ?_
    case refine_2 => intro w hSw; (try dsimp only at hSw); go_simp; try with_reducible rfl
    try simp only [Act.put, List.setIfInBounds_toArray, List.set_cons_zero, List.set_cons_succ]
    have ft := HD3.out.tb.free (1 + x)
    have ct := (Cu.st_cells HD3.out.tb).2.2 x HXL.out
    have HD4 := Lib.hid (HD3.out.putT (1 + x) (.int .i64 v))
    rw [Cu.stC_reg _ _ _ _ HXL.out] at HD4
    have HX4 : Hid (((w3.setCell ⟨w.heap.size + 1 + 1 + 1 + 1 + 1, 1 + x, none⟩ (.int .i64 v)).cell? ⟨w.heap.size, 0, none⟩ = some (.pointer (some ⟨m, 0, none⟩)) ∧ (w3.setCell ⟨w.heap.size + 1 + 1 + 1 + 1 + 1, 1 + x, none⟩ (.int .i64 v)).cell? ⟨w.heap.size, 1, none⟩ = some (.int .i64 base) ∧ (w3.setCell ⟨w.heap.size + 1 + 1 + 1 + 1 + 1, 1 + x, none⟩ (.int .i64 v)).cell? ⟨w.heap.size, 2, none⟩ = some (.int .i64 size)) ∧ ((w3.setCell ⟨w.heap.size + 1 + 1 + 1 + 1 + 1, 1 + x, none⟩ (.int .i64 v)).cell? ⟨w.heap.size + 1, 0, none⟩ = some (.int .i64 pc) ∧ (w3.setCell ⟨w.heap.size + 1 + 1 + 1 + 1 + 1, 1 + x, none⟩ (.int .i64 v)).cell? ⟨w.heap.size + 1, 1, none⟩ = some (.int .i64 (r 0)) ∧ (w3.setCell ⟨w.heap.size + 1 + 1 + 1 + 1 + 1, 1 + x, none⟩ (.int .i64 v)).cell? ⟨w.heap.size + 1, 2, none⟩ = some (.int .i64 (r 1)) ∧ (w3.setCell ⟨w.heap.size + 1 + 1 + 1 + 1 + 1, 1 + x, none⟩ (.int .i64 v)).cell? ⟨w.heap.size + 1, 3, none⟩ = some (.int .i64 (r 2)) ∧ (w3.setCell ⟨w.heap.size + 1 + 1 + 1 + 1 + 1, 1 + x, none⟩ (.int .i64 v)).cell? ⟨w.heap.size + 1, 4, none⟩ = some (.int .i64 (r 3)) ∧ (w3.setCell ⟨w.heap.size + 1 + 1 + 1 + 1 + 1, 1 + x, none⟩ (.int .i64 v)).cell? ⟨w.heap.size + 1, 5, none⟩ = some (.int .i64 (r 4)) ∧ (w3.setCell ⟨w.heap.size + 1 + 1 + 1 + 1 + 1, 1 + x, none⟩ (.int .i64 v)).cell? ⟨w.heap.size + 1, 6, none⟩ = some (.int .i64 (r 5)) ∧ (w3.setCell ⟨w.heap.size + 1 + 1 + 1 + 1 + 1, 1 + x, none⟩ (.int .i64 v)).cell? ⟨w.heap.size + 1, 7, none⟩ = some (.int .i64 (r 6)) ∧ (w3.setCell ⟨w.heap.size + 1 + 1 + 1 + 1 + 1, 1 + x, none⟩ (.int .i64 v)).cell? ⟨w.heap.size + 1, 8, none⟩ = some (.int .i64 (r 7)) ∧ (w3.setCell ⟨w.heap.size + 1 + 1 + 1 + 1 + 1, 1 + x, none⟩ (.int .i64 v)).cell? ⟨w.heap.size + 1, 9, none⟩ = some (.int .i64 md)) ∧ ((w3.setCell ⟨w.heap.size + 1 + 1 + 1 + 1 + 1, 1 + x, none⟩ (.int .i64 v)).cell? ⟨w.heap.size + 1 + 1, 0, none⟩ = some (.int .u8 1) ∧ (w3.setCell ⟨w.heap.size + 1 + 1 + 1 + 1 + 1, 1 + x, none⟩ (.int .i64 v)).cell? ⟨w.heap.size + 1 + 1, 1, none⟩ = some (.int .i64 (x : Int)) ∧ (w3.setCell ⟨w.heap.size + 1 + 1 + 1 + 1 + 1, 1 + x, none⟩ (.int .i64 v)).cell? ⟨w.heap.size + 1 + 1, 2, none⟩ = some (.int .i64 (n : Int)))) := Lib.hid HD4.out.args
    refine wpAnyH_ready (rs := [7]) (by kernel_rfl) (by simp) ?_
    refine AllReadyH.cons (o := ⟨none, _, _, _, _, none⟩) rfl (fun K hK => ?_) AllReadyH.nil
    go_simp
    refine hK.out _ _ (HX4.out) (fun hHeld => ?_)
    clear hK K
    try simp only [Act.put, List.setIfInBounds_toArray, List.set_cons_zero, List.set_cons_succ]
    refine wpAnyH_done (by kernel_rfl) ?_ _
    rw [← hrr] at HD4
    obtain ⟨w4, hw4⟩ : ∃ w4, w4 = w3.setCell ⟨w.heap.size + 1 + 1 + 1 + 1 + 1, 1 + x, none⟩ (.int .i64 v) := ⟨_, rfl⟩
    rw [← hw4] at HD4 ⊢
    clear hw4 ft ct HX4 HX3 HX0 hHeld hrr
    go_upto_region 28 with (fail)
    obtain ⟨⟨t0, t1, t2, t3, t4, t5, t6, t7, t8, t9⟩, ⟨o0, o1, o2, o3⟩⟩ := HD4.out.tail
    obtain ⟨⟨z0, z1, z2, z3, z4, z5, z6, z7, z8, z9⟩, ⟨y0, y1, y2, y3⟩, ⟨f0, f1, f2, f3, f4, f5, f6, f7, f8, f9⟩, ⟨e0, e1, e2, e3⟩⟩ := HD4.out.free
    go_region
    go_wp2
    obtain ⟨⟨r0, r1, r2, r3, r4, r5, r6, r7, r8, r9⟩, ⟨u0, u1, u2, u3⟩, G8, G9⟩ := HD4.out.fin (.int .i64 (pc + 4)) (.int .i64 (rr 0)) (.int .i64 (rr 1)) (.int .i64 (rr 2)) (.int .i64 (rr 3)) (.int .i64 (rr 4)) (.int .i64 (rr 5)) (.int .i64 (rr 6)) (.int .i64 (rr 7)) (.int .i64 md) (.int .i64 1) (.int .i64 0) (.int .i64 0) (.int .i64 0) _ rfl
    refine bodyPost_ret (v := .tuple #[.agg #[.int .i64 (pc + 4), .int .i64 (rr 0), .int .i64 (rr 1), .int .i64 (rr 2), .int .i64 (rr 3), .int .i64 (rr 4), .int .i64 (rr 5), .int .i64 (rr 6), .int .i64 (rr 7), .int .i64 md], .agg #[.int .i64 1, .int .i64 0, .int .i64 0, .int .i64 0]]) (by simp [results, Tryd.results46, go_sem, r0, r1, r2, r3, r4, r5, r6, r7, r8, r9, u0, u1, u2, u3]) rfl ⟨rfl, G9⟩
  · simp only [Int.cast_ofNat_Int] at HM ⊢
    unfold Cu.outV Cu.vw Cu.inV
    go_enter Tryd.func46, Tryd.ntmps46
    go_upto_region 6 with (fail)
    show Code.wp _ _ _ _ (Cu.wd w m base size (Cu.stC pc r md) (Cu.inC 2 x n) (Cu.stC (pc + 4) r md) #[.int .i64 1, .int .i64 0, .int .i64 0, .int .i64 0])
    have HD := Lib.hid (Cu.Dw.new w m base size (Cu.stC pc r md) (Cu.inC 2 x n) (Cu.stC (pc + 4) r md) #[.int .i64 1, .int .i64 0, .int .i64 0, .int .i64 0])
    generalize Cu.wd w m base size (Cu.stC pc r md) (Cu.inC 2 x n) (Cu.stC (pc + 4) r md) #[.int .i64 1, .int .i64 0, .int .i64 0, .int .i64 0] = W at *
    have HDd := Lib.hid (show Cu.Dw _ W.drew _ _ _ _ _ _ _ _ _ _ from HD.out.step (only_drewN (only_refl _ _) 1))
    have HX0 : Hid ((W.drew.cell? ⟨w.heap.size, 0, none⟩ = some (.pointer (some ⟨m, 0, none⟩)) ∧ W.drew.cell? ⟨w.heap.size, 1, none⟩ = some (.int .i64 base) ∧ W.drew.cell? ⟨w.heap.size, 2, none⟩ = some (.int .i64 size)) ∧ (W.drew.cell? ⟨w.heap.size + 1, 0, none⟩ = some (.int .i64 pc) ∧ W.drew.cell? ⟨w.heap.size + 1, 1, none⟩ = some (.int .i64 (r 0)) ∧ W.drew.cell? ⟨w.heap.size + 1, 2, none⟩ = some (.int .i64 (r 1)) ∧ W.drew.cell? ⟨w.heap.size + 1, 3, none⟩ = some (.int .i64 (r 2)) ∧ W.drew.cell? ⟨w.heap.size + 1, 4, none⟩ = some (.int .i64 (r 3)) ∧ W.drew.cell? ⟨w.heap.size + 1, 5, none⟩ = some (.int .i64 (r 4)) ∧ W.drew.cell? ⟨w.heap.size + 1, 6, none⟩ = some (.int .i64 (r 5)) ∧ W.drew.cell? ⟨w.heap.size + 1, 7, none⟩ = some (.int .i64 (r 6)) ∧ W.drew.cell? ⟨w.heap.size + 1, 8, none⟩ = some (.int .i64 (r 7)) ∧ W.drew.cell? ⟨w.heap.size + 1, 9, none⟩ = some (.int .i64 md)) ∧ (W.drew.cell? ⟨w.heap.size + 1 + 1, 0, none⟩ = some (.int .u8 2) ∧ W.drew.cell? ⟨w.heap.size + 1 + 1, 1, none⟩ = some (.int .i64 (x : Int)) ∧ W.drew.cell? ⟨w.heap.size + 1 + 1, 2, none⟩ = some (.int .i64 (n : Int)))) := Lib.hid HDd.out.args
    refine wp_region_held_drew (S := fun w' => (w'.cell? ⟨w.heap.size, 0, none⟩ = some (.pointer (some ⟨m, 0, none⟩)) ∧ w'.cell? ⟨w.heap.size, 1, none⟩ = some (.int .i64 base) ∧ w'.cell? ⟨w.heap.size, 2, none⟩ = some (.int .i64 size)) ∧ (w'.cell? ⟨w.heap.size + 1, 0, none⟩ = some (.int .i64 pc) ∧ w'.cell? ⟨w.heap.size + 1, 1, none⟩ = some (.int .i64 (r 0)) ∧ w'.cell? ⟨w.heap.size + 1, 2, none⟩ = some (.int .i64 (r 1)) ∧ w'.cell? ⟨w.heap.size + 1, 3, none⟩ = some (.int .i64 (r 2)) ∧ w'.cell? ⟨w.heap.size + 1, 4, none⟩ = some (.int .i64 (r 3)) ∧ w'.cell? ⟨w.heap.size + 1, 5, none⟩ = some (.int .i64 (r 4)) ∧ w'.cell? ⟨w.heap.size + 1, 6, none⟩ = some (.int .i64 (r 5)) ∧ w'.cell? ⟨w.heap.size + 1, 7, none⟩ = some (.int .i64 (r 6)) ∧ w'.cell? ⟨w.heap.size + 1, 8, none⟩ = some (.int .i64 (r 7)) ∧ w'.cell? ⟨w.heap.size + 1, 9, none⟩ = some (.int .i64 md)) ∧ (w'.cell? ⟨w.heap.size + 1 + 1, 0, none⟩ = some (.int .u8 2) ∧ w'.cell? ⟨w.heap.size + 1 + 1, 1, none⟩ = some (.int .i64 (x : Int)) ∧ w'.cell? ⟨w.heap.size + 1 + 1, 2, none⟩ = some (.int .i64 (n : Int)))) (by kernel_rfl) HX0.out (fun hHeld => ?_)
    refine wpAnyH_take (i := 0) (oi := ⟨some 19, _, _, _, _, none⟩) (v := ?_) rfl (by kernel_rfl) (by kernel_rfl) (by kernel_rfl) (fun _ _ _ h => h) (Or.inl ⟨by rfl, ?_⟩) (by assumption) ?_
    case refine_2 => intro w hSw; (try dsimp only at hSw); go_simp; try with_reducible rfl
    try simp only [Act.put, List.setIfInBounds_toArray, List.set_cons_zero, List.set_cons_succ]
    refine wpAnyH_take (i := 1) (oi := ⟨some 20, _, _, _, _, none⟩) (v := ?_) rfl (by kernel_rfl) (by kernel_rfl) (by kernel_rfl) (fun _ _ _ h => h) (Or.inl ⟨by rfl, ?_⟩) (by assumption) ?_
    case refine_2 => intro w hSw; (try dsimp only at hSw); go_simp; try with_reducible rfl
    try simp only [Act.put, List.setIfInBounds_toArray, List.set_cons_zero, List.set_cons_succ]
    refine wpAnyH_take (i := 2) (oi := ⟨some 21, _, _, _, _, none⟩) (v := ?_) rfl (by kernel_rfl) (by kernel_rfl) (by kernel_rfl) (fun _ _ _ h => h) (Or.inl ⟨by rfl, ?_⟩) (by assumption) ?_
    case refine_2 => intro w hSw; (try dsimp only at hSw); go_simp; try with_reducible rfl
    try simp only [Act.put, List.setIfInBounds_toArray, List.set_cons_zero, List.set_cons_succ]
    refine wpAnyH_take (i := 3) (oi := ⟨some 22, _, _, _, _, none⟩) (v := ?_) rfl (by kernel_rfl) (by kernel_rfl) (by kernel_rfl) (fun _ _ _ h => h) (Or.inl ⟨by rfl, ?_⟩) (by assumption) ?_
    case refine_2 => intro w hSw; (try dsimp only at hSw); go_simp; try with_reducible rfl
    try simp only [Act.put, List.setIfInBounds_toArray, List.set_cons_zero, List.set_cons_succ]
    refine wpAnyH_take (i := 5) (oi := ⟨some 24, _, _, _, _, none⟩) (v := ?_) rfl (by kernel_rfl) (by kernel_rfl) (by kernel_rfl) (fun _ _ _ h => h) (Or.inl ⟨by rfl, ?_⟩) (by assumption) ?_
    case refine_2 => intro w hSw; (try dsimp only at hSw); go_simp; try with_reducible rfl
    try simp only [Act.put, List.setIfInBounds_toArray, List.set_cons_zero, List.set_cons_succ]
    refine wpAnyH_ready (rs := [4]) (by kernel_rfl) (by simp) ?_
    refine AllReadyH.cons (o := ⟨some 23, _, _, _, _, none⟩) rfl (fun K hK => ?_) AllReadyH.nil
    go_simp
    have HQ := HM.out W.drew
    refine HQ.mono ?_
    clear HQ
    rintro e w3 ⟨rfl, g3⟩
    have HD3 := Lib.hid (HDd.out.step g3)
    have HX3 : Hid ((w3.cell? ⟨w.heap.size, 0, none⟩ = some (.pointer (some ⟨m, 0, none⟩)) ∧ w3.cell? ⟨w.heap.size, 1, none⟩ = some (.int .i64 base) ∧ w3.cell? ⟨w.heap.size, 2, none⟩ = some (.int .i64 size)) ∧ (w3.cell? ⟨w.heap.size + 1, 0, none⟩ = some (.int .i64 pc) ∧ w3.cell? ⟨w.heap.size + 1, 1, none⟩ = some (.int .i64 (r 0)) ∧ w3.cell? ⟨w.heap.size + 1, 2, none⟩ = some (.int .i64 (r 1)) ∧ w3.cell? ⟨w.heap.size + 1, 3, none⟩ = some (.int .i64 (r 2)) ∧ w3.cell? ⟨w.heap.size + 1, 4, none⟩ = some (.int .i64 (r 3)) ∧ w3.cell? ⟨w.heap.size + 1, 5, none⟩ = some (.int .i64 (r 4)) ∧ w3.cell? ⟨w.heap.size + 1, 6, none⟩ = some (.int .i64 (r 5)) ∧ w3.cell? ⟨w.heap.size + 1, 7, none⟩ = some (.int .i64 (r 6)) ∧ w3.cell? ⟨w.heap.size + 1, 8, none⟩ = some (.int .i64 (r 7)) ∧ w3.cell? ⟨w.heap.size + 1, 9, none⟩ = some (.int .i64 md)) ∧ (w3.cell? ⟨w.heap.size + 1 + 1, 0, none⟩ = some (.int .u8 2) ∧ w3.cell? ⟨w.heap.size + 1 + 1, 1, none⟩ = some (.int .i64 (x : Int)) ∧ w3.cell? ⟨w.heap.size + 1 + 1, 2, none⟩ = some (.int .i64 (n : Int)))) := Lib.hid HD3.out.args
    clear g3
    try simp only []
    refine hK.out _ _ (HX3.out) (fun hHeld => ?_)
    clear hK K
    try simp only [Act.put, List.setIfInBounds_toArray, List.set_cons_zero, List.set_cons_succ]
    refine wpAnyH_take (i := 6) (oi := ⟨some 25, _, _, _, _, none⟩) (v := ?_) rfl (by kernel_rfl) (by kernel_rfl) (by kernel_rfl) (fun _ _ _ h => h) (Or.inl ⟨by rfl, ?_⟩) (by assumption) ?_
    case refine_2 => intro w hSw; (try dsimp only at hSw); go_simp; try with_reducible rfl
    try simp only [Act.put, List.setIfInBounds_toArray, List.set_cons_zero, List.set_cons_succ]
    have ft := HD3.out.tb.free (1 + x)
    have ct := (Cu.st_cells HD3.out.tb).2.2 x HXL.out
    have HD4 := Lib.hid (HD3.out.putT (1 + x) (.int .i64 v))
    rw [Cu.stC_reg _ _ _ _ HXL.out] at HD4
    have HX4 : Hid (((w3.setCell ⟨w.heap.size + 1 + 1 + 1 + 1 + 1, 1 + x, none⟩ (.int .i64 v)).cell? ⟨w.heap.size, 0, none⟩ = some (.pointer (some ⟨m, 0, none⟩)) ∧ (w3.setCell ⟨w.heap.size + 1 + 1 + 1 + 1 + 1, 1 + x, none⟩ (.int .i64 v)).cell? ⟨w.heap.size, 1, none⟩ = some (.int .i64 base) ∧ (w3.setCell ⟨w.heap.size + 1 + 1 + 1 + 1 + 1, 1 + x, none⟩ (.int .i64 v)).cell? ⟨w.heap.size, 2, none⟩ = some (.int .i64 size)) ∧ ((w3.setCell ⟨w.heap.size + 1 + 1 + 1 + 1 + 1, 1 + x, none⟩ (.int .i64 v)).cell? ⟨w.heap.size + 1, 0, none⟩ = some (.int .i64 pc) ∧ (w3.setCell ⟨w.heap.size + 1 + 1 + 1 + 1 + 1, 1 + x, none⟩ (.int .i64 v)).cell? ⟨w.heap.size + 1, 1, none⟩ = some (.int .i64 (r 0)) ∧ (w3.setCell ⟨w.heap.size + 1 + 1 + 1 + 1 + 1, 1 + x, none⟩ (.int .i64 v)).cell? ⟨w.heap.size + 1, 2, none⟩ = some (.int .i64 (r 1)) ∧ (w3.setCell ⟨w.heap.size + 1 + 1 + 1 + 1 + 1, 1 + x, none⟩ (.int .i64 v)).cell? ⟨w.heap.size + 1, 3, none⟩ = some (.int .i64 (r 2)) ∧ (w3.setCell ⟨w.heap.size + 1 + 1 + 1 + 1 + 1, 1 + x, none⟩ (.int .i64 v)).cell? ⟨w.heap.size + 1, 4, none⟩ = some (.int .i64 (r 3)) ∧ (w3.setCell ⟨w.heap.size + 1 + 1 + 1 + 1 + 1, 1 + x, none⟩ (.int .i64 v)).cell? ⟨w.heap.size + 1, 5, none⟩ = some (.int .i64 (r 4)) ∧ (w3.setCell ⟨w.heap.size + 1 + 1 + 1 + 1 + 1, 1 + x, none⟩ (.int .i64 v)).cell? ⟨w.heap.size + 1, 6, none⟩ = some (.int .i64 (r 5)) ∧ (w3.setCell ⟨w.heap.size + 1 + 1 + 1 + 1 + 1, 1 + x, none⟩ (.int .i64 v)).cell? ⟨w.heap.size + 1, 7, none⟩ = some (.int .i64 (r 6)) ∧ (w3.setCell ⟨w.heap.size + 1 + 1 + 1 + 1 + 1, 1 + x, none⟩ (.int .i64 v)).cell? ⟨w.heap.size + 1, 8, none⟩ = some (.int .i64 (r 7)) ∧ (w3.setCell ⟨w.heap.size + 1 + 1 + 1 + 1 + 1, 1 + x, none⟩ (.int .i64 v)).cell? ⟨w.heap.size + 1, 9, none⟩ = some (.int .i64 md)) ∧ ((w3.setCell ⟨w.heap.size + 1 + 1 + 1 + 1 + 1, 1 + x, none⟩ (.int .i64 v)).cell? ⟨w.heap.size + 1 + 1, 0, none⟩ = some (.int .u8 2) ∧ (w3.setCell ⟨w.heap.size + 1 + 1 + 1 + 1 + 1, 1 + x, none⟩ (.int .i64 v)).cell? ⟨w.heap.size + 1 + 1, 1, none⟩ = some (.int .i64 (x : Int)) ∧ (w3.setCell ⟨w.heap.size + 1 + 1 + 1 + 1 + 1, 1 + x, none⟩ (.int .i64 v)).cell? ⟨w.heap.size + 1 + 1, 2, none⟩ = some (.int .i64 (n : Int)))) := Lib.hid HD4.out.args
    refine wpAnyH_ready (rs := [7]) (by kernel_rfl) (by simp) ?_
    refine AllReadyH.cons (o := ⟨none, _, _, _, _, none⟩) rfl (fun K hK => ?_) AllReadyH.nil
    go_simp
    refine hK.out _ _ (HX4.out) (fun hHeld => ?_)
    clear hK K
    try simp only [Act.put, List.setIfInBounds_toArray, List.set_cons_zero, List.set_cons_succ]
    refine wpAnyH_done (by kernel_rfl) ?_ _
    rw [← hrr] at HD4
    obtain ⟨w4, hw4⟩ : ∃ w4, w4 = w3.setCell ⟨w.heap.size + 1 + 1 + 1 + 1 + 1, 1 + x, none⟩ (.int .i64 v) := ⟨_, rfl⟩
    rw [← hw4] at HD4 ⊢
    clear hw4 ft ct HX4 HX3 HX0 hHeld hrr
    go_upto_region 28 with (fail)
    obtain ⟨⟨t0, t1, t2, t3, t4, t5, t6, t7, t8, t9⟩, ⟨o0, o1, o2, o3⟩⟩ := HD4.out.tail
    obtain ⟨⟨z0, z1, z2, z3, z4, z5, z6, z7, z8, z9⟩, ⟨y0, y1, y2, y3⟩, ⟨f0, f1, f2, f3, f4, f5, f6, f7, f8, f9⟩, ⟨e0, e1, e2, e3⟩⟩ := HD4.out.free
    go_region
    go_wp2
    obtain ⟨⟨r0, r1, r2, r3, r4, r5, r6, r7, r8, r9⟩, ⟨u0, u1, u2, u3⟩, G8, G9⟩ := HD4.out.fin (.int .i64 (pc + 4)) (.int .i64 (rr 0)) (.int .i64 (rr 1)) (.int .i64 (rr 2)) (.int .i64 (rr 3)) (.int .i64 (rr 4)) (.int .i64 (rr 5)) (.int .i64 (rr 6)) (.int .i64 (rr 7)) (.int .i64 md) (.int .i64 1) (.int .i64 0) (.int .i64 0) (.int .i64 0) _ rfl
    refine bodyPost_ret (v := .tuple #[.agg #[.int .i64 (pc + 4), .int .i64 (rr 0), .int .i64 (rr 1), .int .i64 (rr 2), .int .i64 (rr 3), .int .i64 (rr 4), .int .i64 (rr 5), .int .i64 (rr 6), .int .i64 (rr 7), .int .i64 md], .agg #[.int .i64 1, .int .i64 0, .int .i64 0, .int .i64 0]]) (by simp [results, Tryd.results46, go_sem, r0, r1, r2, r3, r4, r5, r6, r7, r8, r9, u0, u1, u2, u3]) rfl ⟨rfl, G9⟩
  · simp only [Int.cast_ofNat_Int] at HM ⊢
    unfold Cu.outV Cu.vw Cu.inV
    go_enter Tryd.func46, Tryd.ntmps46
    go_upto_region 6 with (fail)
    show Code.wp _ _ _ _ (Cu.wd w m base size (Cu.stC pc r md) (Cu.inC 3 x n) (Cu.stC (pc + 4) r md) #[.int .i64 1, .int .i64 0, .int .i64 0, .int .i64 0])
    have HD := Lib.hid (Cu.Dw.new w m base size (Cu.stC pc r md) (Cu.inC 3 x n) (Cu.stC (pc + 4) r md) #[.int .i64 1, .int .i64 0, .int .i64 0, .int .i64 0])
    generalize Cu.wd w m base size (Cu.stC pc r md) (Cu.inC 3 x n) (Cu.stC (pc + 4) r md) #[.int .i64 1, .int .i64 0, .int .i64 0, .int .i64 0] = W at *
    have HDd := Lib.hid (show Cu.Dw _ W.drew _ _ _ _ _ _ _ _ _ _ from HD.out.step (only_drewN (only_refl _ _) 1))
    have HX0 : Hid ((W.drew.cell? ⟨w.heap.size, 0, none⟩ = some (.pointer (some ⟨m, 0, none⟩)) ∧ W.drew.cell? ⟨w.heap.size, 1, none⟩ = some (.int .i64 base) ∧ W.drew.cell? ⟨w.heap.size, 2, none⟩ = some (.int .i64 size)) ∧ (W.drew.cell? ⟨w.heap.size + 1, 0, none⟩ = some (.int .i64 pc) ∧ W.drew.cell? ⟨w.heap.size + 1, 1, none⟩ = some (.int .i64 (r 0)) ∧ W.drew.cell? ⟨w.heap.size + 1, 2, none⟩ = some (.int .i64 (r 1)) ∧ W.drew.cell? ⟨w.heap.size + 1, 3, none⟩ = some (.int .i64 (r 2)) ∧ W.drew.cell? ⟨w.heap.size + 1, 4, none⟩ = some (.int .i64 (r 3)) ∧ W.drew.cell? ⟨w.heap.size + 1, 5, none⟩ = some (.int .i64 (r 4)) ∧ W.drew.cell? ⟨w.heap.size + 1, 6, none⟩ = some (.int .i64 (r 5)) ∧ W.drew.cell? ⟨w.heap.size + 1, 7, none⟩ = some (.int .i64 (r 6)) ∧ W.drew.cell? ⟨w.heap.size + 1, 8, none⟩ = some (.int .i64 (r 7)) ∧ W.drew.cell? ⟨w.heap.size + 1, 9, none⟩ = some (.int .i64 md)) ∧ (W.drew.cell? ⟨w.heap.size + 1 + 1, 0, none⟩ = some (.int .u8 3) ∧ W.drew.cell? ⟨w.heap.size + 1 + 1, 1, none⟩ = some (.int .i64 (x : Int)) ∧ W.drew.cell? ⟨w.heap.size + 1 + 1, 2, none⟩ = some (.int .i64 (n : Int)))) := Lib.hid HDd.out.args
    refine wp_region_held_drew (S := fun w' => (w'.cell? ⟨w.heap.size, 0, none⟩ = some (.pointer (some ⟨m, 0, none⟩)) ∧ w'.cell? ⟨w.heap.size, 1, none⟩ = some (.int .i64 base) ∧ w'.cell? ⟨w.heap.size, 2, none⟩ = some (.int .i64 size)) ∧ (w'.cell? ⟨w.heap.size + 1, 0, none⟩ = some (.int .i64 pc) ∧ w'.cell? ⟨w.heap.size + 1, 1, none⟩ = some (.int .i64 (r 0)) ∧ w'.cell? ⟨w.heap.size + 1, 2, none⟩ = some (.int .i64 (r 1)) ∧ w'.cell? ⟨w.heap.size + 1, 3, none⟩ = some (.int .i64 (r 2)) ∧ w'.cell? ⟨w.heap.size + 1, 4, none⟩ = some (.int .i64 (r 3)) ∧ w'.cell? ⟨w.heap.size + 1, 5, none⟩ = some (.int .i64 (r 4)) ∧ w'.cell? ⟨w.heap.size + 1, 6, none⟩ = some (.int .i64 (r 5)) ∧ w'.cell? ⟨w.heap.size + 1, 7, none⟩ = some (.int .i64 (r 6)) ∧ w'.cell? ⟨w.heap.size + 1, 8, none⟩ = some (.int .i64 (r 7)) ∧ w'.cell? ⟨w.heap.size + 1, 9, none⟩ = some (.int .i64 md)) ∧ (w'.cell? ⟨w.heap.size + 1 + 1, 0, none⟩ = some (.int .u8 3) ∧ w'.cell? ⟨w.heap.size + 1 + 1, 1, none⟩ = some (.int .i64 (x : Int)) ∧ w'.cell? ⟨w.heap.size + 1 + 1, 2, none⟩ = some (.int .i64 (n : Int)))) (by kernel_rfl) HX0.out (fun hHeld => ?_)
    refine wpAnyH_take (i := 0) (oi := ⟨some 19, _, _, _, _, none⟩) (v := ?_) rfl (by kernel_rfl) (by kernel_rfl) (by kernel_rfl) (fun _ _ _ h => h) (Or.inl ⟨by rfl, ?_⟩) (by assumption) ?_
    case refine_2 => intro w hSw; (try dsimp only at hSw); go_simp; try with_reducible rfl
    try simp only [Act.put, List.setIfInBounds_toArray, List.set_cons_zero, List.set_cons_succ]
    refine wpAnyH_take (i := 1) (oi := ⟨some 20, _, _, _, _, none⟩) (v := ?_) rfl (by kernel_rfl) (by kernel_rfl) (by kernel_rfl) (fun _ _ _ h => h) (Or.inl ⟨by rfl, ?_⟩) (by assumption) ?_
    case refine_2 => intro w hSw; (try dsimp only at hSw); go_simp; try with_reducible rfl
    try simp only [Act.put, List.setIfInBounds_toArray, List.set_cons_zero, List.set_cons_succ]
    refine wpAnyH_take (i := 2) (oi := ⟨some 21, _, _, _, _, none⟩) (v := ?_) rfl (by kernel_rfl) (by kernel_rfl) (by kernel_rfl) (fun _ _ _ h => h) (Or.inl ⟨by rfl, ?_⟩) (by assumption) ?_
    case refine_2 => intro w hSw; (try dsimp only at hSw); go_simp; try with_reducible rfl
    try simp only [Act.put, List.setIfInBounds_toArray, List.set_cons_zero, List.set_cons_succ]
    refine wpAnyH_take (i := 3) (oi := ⟨some 22, _, _, _, _, none⟩) (v := ?_) rfl (by kernel_rfl) (by kernel_rfl) (by kernel_rfl) (fun _ _ _ h => h) (Or.inl ⟨by rfl, ?_⟩) (by assumption) ?_
    case refine_2 => intro w hSw; (try dsimp only at hSw); go_simp; try with_reducible rfl
    try simp only [Act.put, List.setIfInBounds_toArray, List.set_cons_zero, List.set_cons_succ]
    refine wpAnyH_take (i := 5) (oi := ⟨some 24, _, _, _, _, none⟩) (v := ?_) rfl (by kernel_rfl) (by kernel_rfl) (by kernel_rfl) (fun _ _ _ h => h) (Or.inl ⟨by rfl, ?_⟩) (by assumption) ?_
    case refine_2 => intro w hSw; (try dsimp only at hSw); go_simp; try with_reducible rfl
    try simp only [Act.put, List.setIfInBounds_toArray, List.set_cons_zero, List.set_cons_succ]
    refine wpAnyH_ready (rs := [4]) (by kernel_rfl) (by simp) ?_
    refine AllReadyH.cons (o := ⟨some 23, _, _, _, _, none⟩) rfl (fun K hK => ?_) AllReadyH.nil
    go_simp
    have HQ := HM.out W.drew
    refine HQ.mono ?_
    clear HQ
    rintro e w3 ⟨rfl, g3⟩
    have HD3 := Lib.hid (HDd.out.step g3)
    have HX3 : Hid ((w3.cell? ⟨w.heap.size, 0, none⟩ = some (.pointer (some ⟨m, 0, none⟩)) ∧ w3.cell? ⟨w.heap.size, 1, none⟩ = some (.int .i64 base) ∧ w3.cell? ⟨w.heap.size, 2, none⟩ = some (.int .i64 size)) ∧ (w3.cell? ⟨w.heap.size + 1, 0, none⟩ = some (.int .i64 pc) ∧ w3.cell? ⟨w.heap.size + 1, 1, none⟩ = some (.int .i64 (r 0)) ∧ w3.cell? ⟨w.heap.size + 1, 2, none⟩ = some (.int .i64 (r 1)) ∧ w3.cell? ⟨w.heap.size + 1, 3, none⟩ = some (.int .i64 (r 2)) ∧ w3.cell? ⟨w.heap.size + 1, 4, none⟩ = some (.int .i64 (r 3)) ∧ w3.cell? ⟨w.heap.size + 1, 5, none⟩ = some (.int .i64 (r 4)) ∧ w3.cell? ⟨w.heap.size + 1, 6, none⟩ = some (.int .i64 (r 5)) ∧ w3.cell? ⟨w.heap.size + 1, 7, none⟩ = some (.int .i64 (r 6)) ∧ w3.cell? ⟨w.heap.size + 1, 8, none⟩ = some (.int .i64 (r 7)) ∧ w3.cell? ⟨w.heap.size + 1, 9, none⟩ = some (.int .i64 md)) ∧ (w3.cell? ⟨w.heap.size + 1 + 1, 0, none⟩ = some (.int .u8 3) ∧ w3.cell? ⟨w.heap.size + 1 + 1, 1, none⟩ = some (.int .i64 (x : Int)) ∧ w3.cell? ⟨w.heap.size + 1 + 1, 2, none⟩ = some (.int .i64 (n : Int)))) := Lib.hid HD3.out.args
    clear g3
    try simp only []
    refine hK.out _ _ (HX3.out) (fun hHeld => ?_)
    clear hK K
    try simp only [Act.put, List.setIfInBounds_toArray, List.set_cons_zero, List.set_cons_succ]
    refine wpAnyH_take (i := 6) (oi := ⟨some 25, _, _, _, _, none⟩) (v := ?_) rfl (by kernel_rfl) (by kernel_rfl) (by kernel_rfl) (fun _ _ _ h => h) (Or.inl ⟨by rfl, ?_⟩) (by assumption) ?_
    case refine_2 => intro w hSw; (try dsimp only at hSw); go_simp; try with_reducible rfl
    try simp only [Act.put, List.setIfInBounds_toArray, List.set_cons_zero, List.set_cons_succ]
    have ft := HD3.out.tb.free (1 + x)
    have ct := (Cu.st_cells HD3.out.tb).2.2 x HXL.out
    have HD4 := Lib.hid (HD3.out.putT (1 + x) (.int .i64 v))
    rw [Cu.stC_reg _ _ _ _ HXL.out] at HD4
    have HX4 : Hid (((w3.setCell ⟨w.heap.size + 1 + 1 + 1 + 1 + 1, 1 + x, none⟩ (.int .i64 v)).cell? ⟨w.heap.size, 0, none⟩ = some (.pointer (some ⟨m, 0, none⟩)) ∧ (w3.setCell ⟨w.heap.size + 1 + 1 + 1 + 1 + 1, 1 + x, none⟩ (.int .i64 v)).cell? ⟨w.heap.size, 1, none⟩ = some (.int .i64 base) ∧ (w3.setCell ⟨w.heap.size + 1 + 1 + 1 + 1 + 1, 1 + x, none⟩ (.int .i64 v)).cell? ⟨w.heap.size, 2, none⟩ = some (.int .i64 size)) ∧ ((w3.setCell ⟨w.heap.size + 1 + 1 + 1 + 1 + 1, 1 + x, none⟩ (.int .i64 v)).cell? ⟨w.heap.size + 1, 0, none⟩ = some (.int .i64 pc) ∧ (w3.setCell ⟨w.heap.size + 1 + 1 + 1 + 1 + 1, 1 + x, none⟩ (.int .i64 v)).cell? ⟨w.heap.size + 1, 1, none⟩ = some (.int .i64 (r 0)) ∧ (w3.setCell ⟨w.heap.size + 1 + 1 + 1 + 1 + 1, 1 + x, none⟩ (.int .i64 v)).cell? ⟨w.heap.size + 1, 2, none⟩ = some (.int .i64 (r 1)) ∧ (w3.setCell ⟨w.heap.size + 1 + 1 + 1 + 1 + 1, 1 + x, none⟩ (.int .i64 v)).cell? ⟨w.heap.size + 1, 3, none⟩ = some (.int .i64 (r 2)) ∧ (w3.setCell ⟨w.heap.size + 1 + 1 + 1 + 1 + 1, 1 + x, none⟩ (.int .i64 v)).cell? ⟨w.heap.size + 1, 4, none⟩ = some (.int .i64 (r 3)) ∧ (w3.setCell ⟨w.heap.size + 1 + 1 + 1 + 1 + 1, 1 + x, none⟩ (.int .i64 v)).cell? ⟨w.heap.size + 1, 5, none⟩ = some (.int .i64 (r 4)) ∧ (w3.setCell ⟨w.heap.size + 1 + 1 + 1 + 1 + 1, 1 + x, none⟩ (.int .i64 v)).cell? ⟨w.heap.size + 1, 6, none⟩ = some (.int .i64 (r 5)) ∧ (w3.setCell ⟨w.heap.size + 1 + 1 + 1 + 1 + 1, 1 + x, none⟩ (.int .i64 v)).cell? ⟨w.heap.size + 1, 7, none⟩ = some (.int .i64 (r 6)) ∧ (w3.setCell ⟨w.heap.size + 1 + 1 + 1 + 1 + 1, 1 + x, none⟩ (.int .i64 v)).cell? ⟨w.heap.size + 1, 8, none⟩ = some (.int .i64 (r 7)) ∧ (w3.setCell ⟨w.heap.size + 1 + 1 + 1 + 1 + 1, 1 + x, none⟩ (.int .i64 v)).cell? ⟨w.heap.size + 1, 9, none⟩ = some (.int .i64 md)) ∧ ((w3.setCell ⟨w.heap.size + 1 + 1 + 1 + 1 + 1, 1 + x, none⟩ (.int .i64 v)).cell? ⟨w.heap.size + 1 + 1, 0, none⟩ = some (.int .u8 3) ∧ (w3.setCell ⟨w.heap.size + 1 + 1 + 1 + 1 + 1, 1 + x, none⟩ (.int .i64 v)).cell? ⟨w.heap.size + 1 + 1, 1, none⟩ = some (.int .i64 (x : Int)) ∧ (w3.setCell ⟨w.heap.size + 1 + 1 + 1 + 1 + 1, 1 + x, none⟩ (.int .i64 v)).cell? ⟨w.heap.size + 1 + 1, 2, none⟩ = some (.int .i64 (n : Int)))) := Lib.hid HD4.out.args
    refine wpAnyH_ready (rs := [7]) (by kernel_rfl) (by simp) ?_
    refine AllReadyH.cons (o := ⟨none, _, _, _, _, none⟩) rfl (fun K hK => ?_) AllReadyH.nil
    go_simp
    refine hK.out _ _ (HX4.out) (fun hHeld => ?_)
    clear hK K
    try simp only [Act.put, List.setIfInBounds_toArray, List.set_cons_zero, List.set_cons_succ]
    refine wpAnyH_done (by kernel_rfl) ?_ _
    rw [← hrr] at HD4
    obtain ⟨w4, hw4⟩ : ∃ w4, w4 = w3.setCell ⟨w.heap.size + 1 + 1 + 1 + 1 + 1, 1 + x, none⟩ (.int .i64 v) := ⟨_, rfl⟩
    rw [← hw4] at HD4 ⊢
    clear hw4 ft ct HX4 HX3 HX0 hHeld hrr
    go_upto_region 28 with (fail)
    obtain ⟨⟨t0, t1, t2, t3, t4, t5, t6, t7, t8, t9⟩, ⟨o0, o1, o2, o3⟩⟩ := HD4.out.tail
    obtain ⟨⟨z0, z1, z2, z3, z4, z5, z6, z7, z8, z9⟩, ⟨y0, y1, y2, y3⟩, ⟨f0, f1, f2, f3, f4, f5, f6, f7, f8, f9⟩, ⟨e0, e1, e2, e3⟩⟩ := HD4.out.free
    go_region
    go_wp2
    obtain ⟨⟨r0, r1, r2, r3, r4, r5, r6, r7, r8, r9⟩, ⟨u0, u1, u2, u3⟩, G8, G9⟩ := HD4.out.fin (.int .i64 (pc + 4)) (.int .i64 (rr 0)) (.int .i64 (rr 1)) (.int .i64 (rr 2)) (.int .i64 (rr 3)) (.int .i64 (rr 4)) (.int .i64 (rr 5)) (.int .i64 (rr 6)) (.int .i64 (rr 7)) (.int .i64 md) (.int .i64 1) (.int .i64 0) (.int .i64 0) (.int .i64 0) _ rfl
    refine bodyPost_ret (v := .tuple #[.agg #[.int .i64 (pc + 4), .int .i64 (rr 0), .int .i64 (rr 1), .int .i64 (rr 2), .int .i64 (rr 3), .int .i64 (rr 4), .int .i64 (rr 5), .int .i64 (rr 6), .int .i64 (rr 7), .int .i64 md], .agg #[.int .i64 1, .int .i64 0, .int .i64 0, .int .i64 0]]) (by simp [results, Tryd.results46, go_sem, r0, r1, r2, r3, r4, r5, r6, r7, r8, r9, u0, u1, u2, u3]) rfl ⟨rfl, G9⟩
  · simp only [Int.cast_ofNat_Int] at HM ⊢
    unfold Cu.outV Cu.vw Cu.inV
    go_enter Tryd.func46, Tryd.ntmps46
    go_upto_region 6 with (fail)
    show Code.wp _ _ _ _ (Cu.wd w m base size (Cu.stC pc r md) (Cu.inC 4 x n) (Cu.stC (pc + 4) r md) #[.int .i64 1, .int .i64 0, .int .i64 0, .int .i64 0])
    have HD := Lib.hid (Cu.Dw.new w m base size (Cu.stC pc r md) (Cu.inC 4 x n) (Cu.stC (pc + 4) r md) #[.int .i64 1, .int .i64 0, .int .i64 0, .int .i64 0])
    generalize Cu.wd w m base size (Cu.stC pc r md) (Cu.inC 4 x n) (Cu.stC (pc + 4) r md) #[.int .i64 1, .int .i64 0, .int .i64 0, .int .i64 0] = W at *
    have HDd := Lib.hid (show Cu.Dw _ W.drew _ _ _ _ _ _ _ _ _ _ from HD.out.step (only_drewN (only_refl _ _) 1))
    have HX0 : Hid ((W.drew.cell? ⟨w.heap.size, 0, none⟩ = some (.pointer (some ⟨m, 0, none⟩)) ∧ W.drew.cell? ⟨w.heap.size, 1, none⟩ = some (.int .i64 base) ∧ W.drew.cell? ⟨w.heap.size, 2, none⟩ = some (.int .i64 size)) ∧ (W.drew.cell? ⟨w.heap.size + 1, 0, none⟩ = some (.int .i64 pc) ∧ W.drew.cell? ⟨w.heap.size + 1, 1, none⟩ = some (.int .i64 (r 0)) ∧ W.drew.cell? ⟨w.heap.size + 1, 2, none⟩ = some (.int .i64 (r 1)) ∧ W.drew.cell? ⟨w.heap.size + 1, 3, none⟩ = some (.int .i64 (r 2)) ∧ W.drew.cell? ⟨w.heap.size + 1, 4, none⟩ = some (.int .i64 (r 3)) ∧ W.drew.cell? ⟨w.heap.size + 1, 5, none⟩ = some (.int .i64 (r 4)) ∧ W.drew.cell? ⟨w.heap.size + 1, 6, none⟩ = some (.int .i64 (r 5)) ∧ W.drew.cell? ⟨w.heap.size + 1, 7, none⟩ = some (.int .i64 (r 6)) ∧ W.drew.cell? ⟨w.heap.size + 1, 8, none⟩ = some (.int .i64 (r 7)) ∧ W.drew.cell? ⟨w.heap.size + 1, 9, none⟩ = some (.int .i64 md)) ∧ (W.drew.cell? ⟨w.heap.size + 1 + 1, 0, none⟩ = some (.int .u8 4) ∧ W.drew.cell? ⟨w.heap.size + 1 + 1, 1, none⟩ = some (.int .i64 (x : Int)) ∧ W.drew.cell? ⟨w.heap.size + 1 + 1, 2, none⟩ = some (.int .i64 (n : Int)))) := Lib.hid HDd.out.args
    refine wp_region_held_drew (S := fun w' => (w'.cell? ⟨w.heap.size, 0, none⟩ = some (.pointer (some ⟨m, 0, none⟩)) ∧ w'.cell? ⟨w.heap.size, 1, none⟩ = some (.int .i64 base) ∧ w'.cell? ⟨w.heap.size, 2, none⟩ = some (.int .i64 size)) ∧ (w'.cell? ⟨w.heap.size + 1, 0, none⟩ = some (.int .i64 pc) ∧ w'.cell? ⟨w.heap.size + 1, 1, none⟩ = some (.int .i64 (r 0)) ∧ w'.cell? ⟨w.heap.size + 1, 2, none⟩ = some (.int .i64 (r 1)) ∧ w'.cell? ⟨w.heap.size + 1, 3, none⟩ = some (.int .i64 (r 2)) ∧ w'.cell? ⟨w.heap.size + 1, 4, none⟩ = some (.int .i64 (r 3)) ∧ w'.cell? ⟨w.heap.size + 1, 5, none⟩ = some (.int .i64 (r 4)) ∧ w'.cell? ⟨w.heap.size + 1, 6, none⟩ = some (.int .i64 (r 5)) ∧ w'.cell? ⟨w.heap.size + 1, 7, none⟩ = some (.int .i64 (r 6)) ∧ w'.cell? ⟨w.heap.size + 1, 8, none⟩ = some (.int .i64 (r 7)) ∧ w'.cell? ⟨w.heap.size + 1, 9, none⟩ = some (.int .i64 md)) ∧ (w'.cell? ⟨w.heap.size + 1 + 1, 0, none⟩ = some (.int .u8 4) ∧ w'.cell? ⟨w.heap.size + 1 + 1, 1, none⟩ = some (.int .i64 (x : Int)) ∧ w'.cell? ⟨w.heap.size + 1 + 1, 2, none⟩ = some (.int .i64 (n : Int)))) (by kernel_rfl) HX0.out (fun hHeld => ?_)
    refine wpAnyH_take (i := 0) (oi := ⟨some 19, _, _, _, _, none⟩) (v := ?_) rfl (by kernel_rfl) (by kernel_rfl) (by kernel_rfl) (fun _ _ _ h => h) (Or.inl ⟨by rfl, ?_⟩) (by assumption) ?_
    case refine_2 => intro w hSw; (try dsimp only at hSw); go_simp; try with_reducible rfl
    try simp only [Act.put, List.setIfInBounds_toArray, List.set_cons_zero, List.set_cons_succ]
    refine wpAnyH_take (i := 1) (oi := ⟨some 20, _, _, _, _, none⟩) (v := ?_) rfl (by kernel_rfl) (by kernel_rfl) (by kernel_rfl) (fun _ _ _ h => h) (Or.inl ⟨by rfl, ?_⟩) (by assumption) ?_
    case refine_2 => intro w hSw; (try dsimp only at hSw); go_simp; try with_reducible rfl
    try simp only [Act.put, List.setIfInBounds_toArray, List.set_cons_zero, List.set_cons_succ]
    refine wpAnyH_take (i := 2) (oi := ⟨some 21, _, _, _, _, none⟩) (v := ?_) rfl (by kernel_rfl) (by kernel_rfl) (by kernel_rfl) (fun _ _ _ h => h) (Or.inl ⟨by rfl, ?_⟩) (by assumption) ?_
    case refine_2 => intro w hSw; (try dsimp only at hSw); go_simp; try with_reducible rfl
    try simp only [Act.put, List.setIfInBounds_toArray, List.set_cons_zero, List.set_cons_succ]
    refine wpAnyH_take (i := 3) (oi := ⟨some 22, _, _, _, _, none⟩) (v := ?_) rfl (by kernel_rfl) (by kernel_rfl) (by kernel_rfl) (fun _ _ _ h => h) (Or.inl ⟨by rfl, ?_⟩) (by assumption) ?_
    case refine_2 => intro w hSw; (try dsimp only at hSw); go_simp; try with_reducible rfl
    try simp only [Act.put, List.setIfInBounds_toArray, List.set_cons_zero, List.set_cons_succ]
    refine wpAnyH_take (i := 5) (oi := ⟨some 24, _, _, _, _, none⟩) (v := ?_) rfl (by kernel_rfl) (by kernel_rfl) (by kernel_rfl) (fun _ _ _ h => h) (Or.inl ⟨by rfl, ?_⟩) (by assumption) ?_
    case refine_2 => intro w hSw; (try dsimp only at hSw); go_simp; try with_reducible rfl
    try simp only [Act.put, List.setIfInBounds_toArray, List.set_cons_zero, List.set_cons_succ]
    refine wpAnyH_ready (rs := [4]) (by kernel_rfl) (by simp) ?_
    refine AllReadyH.cons (o := ⟨some 23, _, _, _, _, none⟩) rfl (fun K hK => ?_) AllReadyH.nil
    go_simp
    have HQ := HM.out W.drew
    refine HQ.mono ?_
    clear HQ
    rintro e w3 ⟨rfl, g3⟩
    have HD3 := Lib.hid (HDd.out.step g3)
    have HX3 : Hid ((w3.cell? ⟨w.heap.size, 0, none⟩ = some (.pointer (some ⟨m, 0, none⟩)) ∧ w3.cell? ⟨w.heap.size, 1, none⟩ = some (.int .i64 base) ∧ w3.cell? ⟨w.heap.size, 2, none⟩ = some (.int .i64 size)) ∧ (w3.cell? ⟨w.heap.size + 1, 0, none⟩ = some (.int .i64 pc) ∧ w3.cell? ⟨w.heap.size + 1, 1, none⟩ = some (.int .i64 (r 0)) ∧ w3.cell? ⟨w.heap.size + 1, 2, none⟩ = some (.int .i64 (r 1)) ∧ w3.cell? ⟨w.heap.size + 1, 3, none⟩ = some (.int .i64 (r 2)) ∧ w3.cell? ⟨w.heap.size + 1, 4, none⟩ = some (.int .i64 (r 3)) ∧ w3.cell? ⟨w.heap.size + 1, 5, none⟩ = some (.int .i64 (r 4)) ∧ w3.cell? ⟨w.heap.size + 1, 6, none⟩ = some (.int .i64 (r 5)) ∧ w3.cell? ⟨w.heap.size + 1, 7, none⟩ = some (.int .i64 (r 6)) ∧ w3.cell? ⟨w.heap.size + 1, 8, none⟩ = some (.int .i64 (r 7)) ∧ w3.cell? ⟨w.heap.size + 1, 9, none⟩ = some (.int .i64 md)) ∧ (w3.cell? ⟨w.heap.size + 1 + 1, 0, none⟩ = some (.int .u8 4) ∧ w3.cell? ⟨w.heap.size + 1 + 1, 1, none⟩ = some (.int .i64 (x : Int)) ∧ w3.cell? ⟨w.heap.size + 1 + 1, 2, none⟩ = some (.int .i64 (n : Int)))) := Lib.hid HD3.out.args
    clear g3
    try simp only []
    refine hK.out _ _ (HX3.out) (fun hHeld => ?_)
    clear hK K
    try simp only [Act.put, List.setIfInBounds_toArray, List.set_cons_zero, List.set_cons_succ]
    refine wpAnyH_take (i := 6) (oi := ⟨some 25, _, _, _, _, none⟩) (v := ?_) rfl (by kernel_rfl) (by kernel_rfl) (by kernel_rfl) (fun _ _ _ h => h) (Or.inl ⟨by rfl, ?_⟩) (by assumption) ?_
    case refine_2 => intro w hSw; (try dsimp only at hSw); go_simp; try with_reducible rfl
    try simp only [Act.put, List.setIfInBounds_toArray, List.set_cons_zero, List.set_cons_succ]
    have ft := HD3.out.tb.free (1 + x)
    have ct := (Cu.st_cells HD3.out.tb).2.2 x HXL.out
    have HD4 := Lib.hid (HD3.out.putT (1 + x) (.int .i64 v))
    rw [Cu.stC_reg _ _ _ _ HXL.out] at HD4
    have HX4 : Hid (((w3.setCell ⟨w.heap.size + 1 + 1 + 1 + 1 + 1, 1 + x, none⟩ (.int .i64 v)).cell? ⟨w.heap.size, 0, none⟩ = some (.pointer (some ⟨m, 0, none⟩)) ∧ (w3.setCell ⟨w.heap.size + 1 + 1 + 1 + 1 + 1, 1 + x, none⟩ (.int .i64 v)).cell? ⟨w.heap.size, 1, none⟩ = some (.int .i64 base) ∧ (w3.setCell ⟨w.heap.size + 1 + 1 + 1 + 1 + 1, 1 + x, none⟩ (.int .i64 v)).cell? ⟨w.heap.size, 2, none⟩ = some (.int .i64 size)) ∧ ((w3.setCell ⟨w.heap.size + 1 + 1 + 1 + 1 + 1, 1 + x, none⟩ (.int .i64 v)).cell? ⟨w.heap.size + 1, 0, none⟩ = some (.int .i64 pc) ∧ (w3.setCell ⟨w.heap.size + 1 + 1 + 1 + 1 + 1, 1 + x, none⟩ (.int .i64 v)).cell? ⟨w.heap.size + 1, 1, none⟩ = some (.int .i64 (r 0)) ∧ (w3.setCell ⟨w.heap.size + 1 + 1 + 1 + 1 + 1, 1 + x, none⟩ (.int .i64 v)).cell? ⟨w.heap.size + 1, 2, none⟩ = some (.int .i64 (r 1)) ∧ (w3.setCell ⟨w.heap.size + 1 + 1 + 1 + 1 + 1, 1 + x, none⟩ (.int .i64 v)).cell? ⟨w.heap.size + 1, 3, none⟩ = some (.int .i64 (r 2)) ∧ (w3.setCell ⟨w.heap.size + 1 + 1 + 1 + 1 + 1, 1 + x, none⟩ (.int .i64 v)).cell? ⟨w.heap.size + 1, 4, none⟩ = some (.int .i64 (r 3)) ∧ (w3.setCell ⟨w.heap.size + 1 + 1 + 1 + 1 + 1, 1 + x, none⟩ (.int .i64 v)).cell? ⟨w.heap.size + 1, 5, none⟩ = some (.int .i64 (r 4)) ∧ (w3.setCell ⟨w.heap.size + 1 + 1 + 1 + 1 + 1, 1 + x, none⟩ (.int .i64 v)).cell? ⟨w.heap.size + 1, 6, none⟩ = some (.int .i64 (r 5)) ∧ (w3.setCell ⟨w.heap.size + 1 + 1 + 1 + 1 + 1, 1 + x, none⟩ (.int .i64 v)).cell? ⟨w.heap.size + 1, 7, none⟩ = some (.int .i64 (r 6)) ∧ (w3.setCell ⟨w.heap.size + 1 + 1 + 1 + 1 + 1, 1 + x, none⟩ (.int .i64 v)).cell? ⟨w.heap.size + 1, 8, none⟩ = some (.int .i64 (r 7)) ∧ (w3.setCell ⟨w.heap.size + 1 + 1 + 1 + 1 + 1, 1 + x, none⟩ (.int .i64 v)).cell? ⟨w.heap.size + 1, 9, none⟩ = some (.int .i64 md)) ∧ ((w3.setCell ⟨w.heap.size + 1 + 1 + 1 + 1 + 1, 1 + x, none⟩ (.int .i64 v)).cell? ⟨w.heap.size + 1 + 1, 0, none⟩ = some (.int .u8 4) ∧ (w3.setCell ⟨w.heap.size + 1 + 1 + 1 + 1 + 1, 1 + x, none⟩ (.int .i64 v)).cell? ⟨w.heap.size + 1 + 1, 1, none⟩ = some (.int .i64 (x : Int)) ∧ (w3.setCell ⟨w.heap.size + 1 + 1 + 1 + 1 + 1, 1 + x, none⟩ (.int .i64 v)).cell? ⟨w.heap.size + 1 + 1, 2, none⟩ = some (.int .i64 (n : Int)))) := Lib.hid HD4.out.args
    refine wpAnyH_ready (rs := [7]) (by kernel_rfl) (by simp) ?_
    refine AllReadyH.cons (o := ⟨none, _, _, _, _, none⟩) rfl (fun K hK => ?_) AllReadyH.nil
    go_simp
    refine hK.out _ _ (HX4.out) (fun hHeld => ?_)
    clear hK K
    try simp only [Act.put, List.setIfInBounds_toArray, List.set_cons_zero, List.set_cons_succ]
    refine wpAnyH_done (by kernel_rfl) ?_ _
    rw [← hrr] at HD4
    obtain ⟨w4, hw4⟩ : ∃ w4, w4 = w3.setCell ⟨w.heap.size + 1 + 1 + 1 + 1 + 1, 1 + x, none⟩ (.int .i64 v) := ⟨_, rfl⟩
    rw [← hw4] at HD4 ⊢
    clear hw4 ft ct HX4 HX3 HX0 hHeld hrr
    go_upto_region 28 with (fail)
    obtain ⟨⟨t0, t1, t2, t3, t4, t5, t6, t7, t8, t9⟩, ⟨o0, o1, o2, o3⟩⟩ := HD4.out.tail
    obtain ⟨⟨z0, z1, z2, z3, z4, z5, z6, z7, z8, z9⟩, ⟨y0, y1, y2, y3⟩, ⟨f0, f1, f2, f3, f4, f5, f6, f7, f8, f9⟩, ⟨e0, e1, e2, e3⟩⟩ := HD4.out.free
    go_region
    go_wp2
    obtain ⟨⟨r0, r1, r2, r3, r4, r5, r6, r7, r8, r9⟩, ⟨u0, u1, u2, u3⟩, G8, G9⟩ := HD4.out.fin (.int .i64 (pc + 4)) (.int .i64 (rr 0)) (.int .i64 (rr 1)) (.int .i64 (rr 2)) (.int .i64 (rr 3)) (.int .i64 (rr 4)) (.int .i64 (rr 5)) (.int .i64 (rr 6)) (.int .i64 (rr 7)) (.int .i64 md) (.int .i64 1) (.int .i64 0) (.int .i64 0) (.int .i64 0) _ rfl
    refine bodyPost_ret (v := .tuple #[.agg #[.int .i64 (pc + 4), .int .i64 (rr 0), .int .i64 (rr 1), .int .i64 (rr 2), .int .i64 (rr 3), .int .i64 (rr 4), .int .i64 (rr 5), .int .i64 (rr 6), .int .i64 (rr 7), .int .i64 md], .agg #[.int .i64 1, .int .i64 0, .int .i64 0, .int .i64 0]]) (by simp [results, Tryd.results46, go_sem, r0, r1, r2, r3, r4, r5, r6, r7, r8, r9, u0, u1, u2, u3]) rfl ⟨rfl, G9⟩
  · simp only [Int.cast_ofNat_Int] at HM ⊢
    unfold Cu.outV Cu.vw Cu.inV
    go_enter Tryd.func46, Tryd.ntmps46
    go_upto_region 6 with (fail)
    show Code.wp _ _ _ _ (Cu.wd w m base size (Cu.stC pc r md) (Cu.inC 5 x n) (Cu.stC (pc + 4) r md) #[.int .i64 1, .int .i64 0, .int .i64 0, .int .i64 0])
    have HD := Lib.hid (Cu.Dw.new w m base size (Cu.stC pc r md) (Cu.inC 5 x n) (Cu.stC (pc + 4) r md) #[.int .i64 1, .int .i64 0, .int .i64 0, .int .i64 0])
    generalize Cu.wd w m base size (Cu.stC pc r md) (Cu.inC 5 x n) (Cu.stC (pc + 4) r md) #[.int .i64 1, .int .i64 0, .int .i64 0, .int .i64 0] = W at *
    have HDd := Lib.hid (show Cu.Dw _ W.drew _ _ _ _ _ _ _ _ _ _ from HD.out.step (only_drewN (only_refl _ _) 1))
    have HX0 : Hid ((W.drew.cell? ⟨w.heap.size, 0, none⟩ = some (.pointer (some ⟨m, 0, none⟩)) ∧ W.drew.cell? ⟨w.heap.size, 1, none⟩ = some (.int .i64 base) ∧ W.drew.cell? ⟨w.heap.size, 2, none⟩ = some (.int .i64 size)) ∧ (W.drew.cell? ⟨w.heap.size + 1, 0, none⟩ = some (.int .i64 pc) ∧ W.drew.cell? ⟨w.heap.size + 1, 1, none⟩ = some (.int .i64 (r 0)) ∧ W.drew.cell? ⟨w.heap.size + 1, 2, none⟩ = some (.int .i64 (r 1)) ∧ W.drew.cell? ⟨w.heap.size + 1, 3, none⟩ = some (.int .i64 (r 2)) ∧ W.drew.cell? ⟨w.heap.size + 1, 4, none⟩ = some (.int .i64 (r 3)) ∧ W.drew.cell? ⟨w.heap.size + 1, 5, none⟩ = some (.int .i64 (r 4)) ∧ W.drew.cell? ⟨w.heap.size + 1, 6, none⟩ = some (.int .i64 (r 5)) ∧ W.drew.cell? ⟨w.heap.size + 1, 7, none⟩ = some (.int .i64 (r 6)) ∧ W.drew.cell? ⟨w.heap.size + 1, 8, none⟩ = some (.int .i64 (r 7)) ∧ W.drew.cell? ⟨w.heap.size + 1, 9, none⟩ = some (.int .i64 md)) ∧ (W.drew.cell? ⟨w.heap.size + 1 + 1, 0, none⟩ = some (.int .u8 5) ∧ W.drew.cell? ⟨w.heap.size + 1 + 1, 1, none⟩ = some (.int .i64 (x : Int)) ∧ W.drew.cell? ⟨w.heap.size + 1 + 1, 2, none⟩ = some (.int .i64 (n : Int)))) := Lib.hid HDd.out.args
    refine wp_region_held_drew (S := fun w' => (w'.cell? ⟨w.heap.size, 0, none⟩ = some (.pointer (some ⟨m, 0, none⟩)) ∧ w'.cell? ⟨w.heap.size, 1, none⟩ = some (.int .i64 base) ∧ w'.cell? ⟨w.heap.size, 2, none⟩ = some (.int .i64 size)) ∧ (w'.cell? ⟨w.heap.size + 1, 0, none⟩ = some (.int .i64 pc) ∧ w'.cell? ⟨w.heap.size + 1, 1, none⟩ = some (.int .i64 (r 0)) ∧ w'.cell? ⟨w.heap.size + 1, 2, none⟩ = some (.int .i64 (r 1)) ∧ w'.cell? ⟨w.heap.size + 1, 3, none⟩ = some (.int .i64 (r 2)) ∧ w'.cell? ⟨w.heap.size + 1, 4, none⟩ = some (.int .i64 (r 3)) ∧ w'.cell? ⟨w.heap.size + 1, 5, none⟩ = some (.int .i64 (r 4)) ∧ w'.cell? ⟨w.heap.size + 1, 6, none⟩ = some (.int .i64 (r 5)) ∧ w'.cell? ⟨w.heap.size + 1, 7, none⟩ = some (.int .i64 (r 6)) ∧ w'.cell? ⟨w.heap.size + 1, 8, none⟩ = some (.int .i64 (r 7)) ∧ w'.cell? ⟨w.heap.size + 1, 9, none⟩ = some (.int .i64 md)) ∧ (w'.cell? ⟨w.heap.size + 1 + 1, 0, none⟩ = some (.int .u8 5) ∧ w'.cell? ⟨w.heap.size + 1 + 1, 1, none⟩ = some (.int .i64 (x : Int)) ∧ w'.cell? ⟨w.heap.size + 1 + 1, 2, none⟩ = some (.int .i64 (n : Int)))) (by kernel_rfl) HX0.out (fun hHeld => ?_)
    refine wpAnyH_take (i := 0) (oi := ⟨some 19, _, _, _, _, none⟩) (v := ?_) rfl (by kernel_rfl) (by kernel_rfl) (by kernel_rfl) (fun _ _ _ h => h) (Or.inl ⟨by rfl, ?_⟩) (by assumption) ?_
    case refine_2 => intro w hSw; (try dsimp only at hSw); go_simp; try with_reducible rfl
    try simp only [Act.put, List.setIfInBounds_toArray, List.set_cons_zero, List.set_cons_succ]
    refine wpAnyH_take (i := 1) (oi := ⟨some 20, _, _, _, _, none⟩) (v := ?_) rfl (by kernel_rfl) (by kernel_rfl) (by kernel_rfl) (fun _ _ _ h => h) (Or.inl ⟨by rfl, ?_⟩) (by assumption) ?_
    case refine_2 => intro w hSw; (try dsimp only at hSw); go_simp; try with_reducible rfl
    try simp only [Act.put, List.setIfInBounds_toArray, List.set_cons_zero, List.set_cons_succ]
    refine wpAnyH_take (i := 2) (oi := ⟨some 21, _, _, _, _, none⟩) (v := ?_) rfl (by kernel_rfl) (by kernel_rfl) (by kernel_rfl) (fun _ _ _ h => h) (Or.inl ⟨by rfl, ?_⟩) (by assumption) ?_
    case refine_2 => intro w hSw; (try dsimp only at hSw); go_simp; try with_reducible rfl
    try simp only [Act.put, List.setIfInBounds_toArray, List.set_cons_zero, List.set_cons_succ]
    refine wpAnyH_take (i := 3) (oi := ⟨some 22, _, _, _, _, none⟩) (v := ?_) rfl (by kernel_rfl) (by kernel_rfl) (by kernel_rfl) (fun _ _ _ h => h) (Or.inl ⟨by rfl, ?_⟩) (by assumption) ?_
    case refine_2 => intro w hSw; (try dsimp only at hSw); go_simp; try with_reducible rfl
    try simp only [Act.put, List.setIfInBounds_toArray, List.set_cons_zero, List.set_cons_succ]
    refine wpAnyH_take (i := 5) (oi := ⟨some 24, _, _, _, _, none⟩) (v := ?_) rfl (by kernel_rfl) (by kernel_rfl) (by kernel_rfl) (fun _ _ _ h => h) (Or.inl ⟨by rfl, ?_⟩) (by assumption) ?_
    case refine_2 => intro w hSw; (try dsimp only at hSw); go_simp; try with_reducible rfl
    try simp only [Act.put, List.setIfInBounds_toArray, List.set_cons_zero, List.set_cons_succ]
    refine wpAnyH_ready (rs := [4]) (by kernel_rfl) (by simp) ?_
    refine AllReadyH.cons (o := ⟨some 23, _, _, _, _, none⟩) rfl (fun K hK => ?_) AllReadyH.nil
    go_simp
    have HQ := HM.out W.drew
    refine HQ.mono ?_
    clear HQ
    rintro e w3 ⟨rfl, g3⟩
    have HD3 := Lib.hid (HDd.out.step g3)
    have HX3 : Hid ((w3.cell? ⟨w.heap.size, 0, none⟩ = some (.pointer (some ⟨m, 0, none⟩)) ∧ w3.cell? ⟨w.heap.size, 1, none⟩ = some (.int .i64 base) ∧ w3.cell? ⟨w.heap.size, 2, none⟩ = some (.int .i64 size)) ∧ (w3.cell? ⟨w.heap.size + 1, 0, none⟩ = some (.int .i64 pc) ∧ w3.cell? ⟨w.heap.size + 1, 1, none⟩ = some (.int .i64 (r 0)) ∧ w3.cell? ⟨w.heap.size + 1, 2, none⟩ = some (.int .i64 (r 1)) ∧ w3.cell? ⟨w.heap.size + 1, 3, none⟩ = some (.int .i64 (r 2)) ∧ w3.cell? ⟨w.heap.size + 1, 4, none⟩ = some (.int .i64 (r 3)) ∧ w3.cell? ⟨w.heap.size + 1, 5, none⟩ = some (.int .i64 (r 4)) ∧ w3.cell? ⟨w.heap.size + 1, 6, none⟩ = some (.int .i64 (r 5)) ∧ w3.cell? ⟨w.heap.size + 1, 7, none⟩ = some (.int .i64 (r 6)) ∧ w3.cell? ⟨w.heap.size + 1, 8, none⟩ = some (.int .i64 (r 7)) ∧ w3.cell? ⟨w.heap.size + 1, 9, none⟩ = some (.int .i64 md)) ∧ (w3.cell? ⟨w.heap.size + 1 + 1, 0, none⟩ = some (.int .u8 5) ∧ w3.cell? ⟨w.heap.size + 1 + 1, 1, none⟩ = some (.int .i64 (x : Int)) ∧ w3.cell? ⟨w.heap.size + 1 + 1, 2, none⟩ = some (.int .i64 (n : Int)))) := Lib.hid HD3.out.args
    clear g3
    try simp only []
    refine hK.out _ _ (HX3.out) (fun hHeld => ?_)
    clear hK K
    try simp only [Act.put, List.setIfInBounds_toArray, List.set_cons_zero, List.set_cons_succ]
    refine wpAnyH_take (i := 6) (oi := ⟨some 25, _, _, _, _, none⟩) (v := ?_) rfl (by kernel_rfl) (by kernel_rfl) (by kernel_rfl) (fun _ _ _ h => h) (Or.inl ⟨by rfl, ?_⟩) (by assumption) ?_
    case refine_2 => intro w hSw; (try dsimp only at hSw); go_simp; try with_reducible rfl
    try simp only [Act.put, List.setIfInBounds_toArray, List.set_cons_zero, List.set_cons_succ]
    have ft := HD3.out.tb.free (1 + x)
    have ct := (Cu.st_cells HD3.out.tb).2.2 x HXL.out
    have HD4 := Lib.hid (HD3.out.putT (1 + x) (.int .i64 v))
    rw [Cu.stC_reg _ _ _ _ HXL.out] at HD4
    have HX4 : Hid (((w3.setCell ⟨w.heap.size + 1 + 1 + 1 + 1 + 1, 1 + x, none⟩ (.int .i64 v)).cell? ⟨w.heap.size, 0, none⟩ = some (.pointer (some ⟨m, 0, none⟩)) ∧ (w3.setCell ⟨w.heap.size + 1 + 1 + 1 + 1 + 1, 1 + x, none⟩ (.int .i64 v)).cell? ⟨w.heap.size, 1, none⟩ = some (.int .i64 base) ∧ (w3.setCell ⟨w.heap.size + 1 + 1 + 1 + 1 + 1, 1 + x, none⟩ (.int .i64 v)).cell? ⟨w.heap.size, 2, none⟩ = some (.int .i64 size)) ∧ ((w3.setCell ⟨w.heap.size + 1 + 1 + 1 + 1 + 1, 1 + x, none⟩ (.int .i64 v)).cell? ⟨w.heap.size + 1, 0, none⟩ = some (.int .i64 pc) ∧ (w3.setCell ⟨w.heap.size + 1 + 1 + 1 + 1 + 1, 1 + x, none⟩ (.int .i64 v)).cell? ⟨w.heap.size + 1, 1, none⟩ = some (.int .i64 (r 0)) ∧ (w3.setCell ⟨w.heap.size + 1 + 1 + 1 + 1 + 1, 1 + x, none⟩ (.int .i64 v)).cell? ⟨w.heap.size + 1, 2, none⟩ = some (.int .i64 (r 1)) ∧ (w3.setCell ⟨w.heap.size + 1 + 1 + 1 + 1 + 1, 1 + x, none⟩ (.int .i64 v)).cell? ⟨w.heap.size + 1, 3, none⟩ = some (.int .i64 (r 2)) ∧ (w3.setCell ⟨w.heap.size + 1 + 1 + 1 + 1 + 1, 1 + x, none⟩ (.int .i64 v)).cell? ⟨w.heap.size + 1, 4, none⟩ = some (.int .i64 (r 3)) ∧ (w3.setCell ⟨w.heap.size + 1 + 1 + 1 + 1 + 1, 1 + x, none⟩ (.int .i64 v)).cell? ⟨w.heap.size + 1, 5, none⟩ = some (.int .i64 (r 4)) ∧ (w3.setCell ⟨w.heap.size + 1 + 1 + 1 + 1 + 1, 1 + x, none⟩ (.int .i64 v)).cell? ⟨w.heap.size + 1, 6, none⟩ = some (.int .i64 (r 5)) ∧ (w3.setCell ⟨w.heap.size + 1 + 1 + 1 + 1 + 1, 1 + x, none⟩ (.int .i64 v)).cell? ⟨w.heap.size + 1, 7, none⟩ = some (.int .i64 (r 6)) ∧ (w3.setCell ⟨w.heap.size + 1 + 1 + 1 + 1 + 1, 1 + x, none⟩ (.int .i64 v)).cell? ⟨w.heap.size + 1, 8, none⟩ = some (.int .i64 (r 7)) ∧ (w3.setCell ⟨w.heap.size + 1 + 1 + 1 + 1 + 1, 1 + x, none⟩ (.int .i64 v)).cell? ⟨w.heap.size + 1, 9, none⟩ = some (.int .i64 md)) ∧ ((w3.setCell ⟨w.heap.size + 1 + 1 + 1 + 1 + 1, 1 + x, none⟩ (.int .i64 v)).cell? ⟨w.heap.size + 1 + 1, 0, none⟩ = some (.int .u8 5) ∧ (w3.setCell ⟨w.heap.size + 1 + 1 + 1 + 1 + 1, 1 + x, none⟩ (.int .i64 v)).cell? ⟨w.heap.size + 1 + 1, 1, none⟩ = some (.int .i64 (x : Int)) ∧ (w3.setCell ⟨w.heap.size + 1 + 1 + 1 + 1 + 1, 1 + x, none⟩ (.int .i64 v)).cell? ⟨w.heap.size + 1 + 1, 2, none⟩ = some (.int .i64 (n : Int)))) := Lib.hid HD4.out.args
    refine wpAnyH_ready (rs := [7]) (by kernel_rfl) (by simp) ?_
    refine AllReadyH.cons (o := ⟨none, _, _, _, _, none⟩) rfl (fun K hK => ?_) AllReadyH.nil
    go_simp
    refine hK.out _ _ (HX4.out) (fun hHeld => ?_)
    clear hK K
    try simp only [Act.put, List.setIfInBounds_toArray, List.set_cons_zero, List.set_cons_succ]
    refine wpAnyH_done (by kernel_rfl) ?_ _
    rw [← hrr] at HD4
    obtain ⟨w4, hw4⟩ : ∃ w4, w4 = w3.setCell ⟨w.heap.size + 1 + 1 + 1 + 1 + 1, 1 + x, none⟩ (.int .i64 v) := ⟨_, rfl⟩
    rw [← hw4] at HD4 ⊢
    clear hw4 ft ct HX4 HX3 HX0 hHeld hrr
    go_upto_region 28 with (fail)
    obtain ⟨⟨t0, t1, t2, t3, t4, t5, t6, t7, t8, t9⟩, ⟨o0, o1, o2, o3⟩⟩ := HD4.out.tail
    obtain ⟨⟨z0, z1, z2, z3, z4, z5, z6, z7, z8, z9⟩, ⟨y0, y1, y2, y3⟩, ⟨f0, f1, f2, f3, f4, f5, f6, f7, f8, f9⟩, ⟨e0, e1, e2, e3⟩⟩ := HD4.out.free
    go_region
    go_wp2
    obtain ⟨⟨r0, r1, r2, r3, r4, r5, r6, r7, r8, r9⟩, ⟨u0, u1, u2, u3⟩, G8, G9⟩ := HD4.out.fin (.int .i64 (pc + 4)) (.int .i64 (rr 0)) (.int .i64 (rr 1)) (.int .i64 (rr 2)) (.int .i64 (rr 3)) (.int .i64 (rr 4)) (.int .i64 (rr 5)) (.int .i64 (rr 6)) (.int .i64 (rr 7)) (.int .i64 md) (.int .i64 1) (.int .i64 0) (.int .i64 0) (.int .i64 0) _ rfl
    refine bodyPost_ret (v := .tuple #[.agg #[.int .i64 (pc + 4), .int .i64 (rr 0), .int .i64 (rr 1), .int .i64 (rr 2), .int .i64 (rr 3), .int .i64 (rr 4), .int .i64 (rr 5), .int .i64 (rr 6), .int .i64 (rr 7), .int .i64 md], .agg #[.int .i64 1, .int .i64 0, .int .i64 0, .int .i64 0]]) (by simp [results, Tryd.results46, go_sem, r0, r1, r2, r3, r4, r5, r6, r7, r8, r9, u0, u1, u2, u3]) rfl ⟨rfl, G9⟩
  · simp only [Int.cast_ofNat_Int] at HM ⊢
    unfold Cu.outV Cu.vw Cu.inV
    go_enter Tryd.func46, Tryd.ntmps46
    go_upto_region 6 with (fail)
    show Code.wp _ _ _ _ (Cu.wd w m base size (Cu.stC pc r md) (Cu.inC 6 x n) (Cu.stC (pc + 4) r md) #[.int .i64 1, .int .i64 0, .int .i64 0, .int .i64 0])
    have HD := Lib.hid (Cu.Dw.new w m base size (Cu.stC pc r md) (Cu.inC 6 x n) (Cu.stC (pc + 4) r md) #[.int .i64 1, .int .i64 0, .int .i64 0, .int .i64 0])
    generalize Cu.wd w m base size (Cu.stC pc r md) (Cu.inC 6 x n) (Cu.stC (pc + 4) r md) #[.int .i64 1, .int .i64 0, .int .i64 0, .int .i64 0] = W at *
    have HDd := Lib.hid (show Cu.Dw _ W.drew _ _ _ _ _ _ _ _ _ _ from HD.out.step (only_drewN (only_refl _ _) 1))
    have HX0 : Hid ((W.drew.cell? ⟨w.heap.size, 0, none⟩ = some (.pointer (some ⟨m, 0, none⟩)) ∧ W.drew.cell? ⟨w.heap.size, 1, none⟩ = some (.int .i64 base) ∧ W.drew.cell? ⟨w.heap.size, 2, none⟩ = some (.int .i64 size)) ∧ (W.drew.cell? ⟨w.heap.size + 1, 0, none⟩ = some (.int .i64 pc) ∧ W.drew.cell? ⟨w.heap.size + 1, 1, none⟩ = some (.int .i64 (r 0)) ∧ W.drew.cell? ⟨w.heap.size + 1, 2, none⟩ = some (.int .i64 (r 1)) ∧ W.drew.cell? ⟨w.heap.size + 1, 3, none⟩ = some (.int .i64 (r 2)) ∧ W.drew.cell? ⟨w.heap.size + 1, 4, none⟩ = some (.int .i64 (r 3)) ∧ W.drew.cell? ⟨w.heap.size + 1, 5, none⟩ = some (.int .i64 (r 4)) ∧ W.drew.cell? ⟨w.heap.size + 1, 6, none⟩ = some (.int .i64 (r 5)) ∧ W.drew.cell? ⟨w.heap.size + 1, 7, none⟩ = some (.int .i64 (r 6)) ∧ W.drew.cell? ⟨w.heap.size + 1, 8, none⟩ = some (.int .i64 (r 7)) ∧ W.drew.cell? ⟨w.heap.size + 1, 9, none⟩ = some (.int .i64 md)) ∧ (W.drew.cell? ⟨w.heap.size + 1 + 1, 0, none⟩ = some (.int .u8 6) ∧ W.drew.cell? ⟨w.heap.size + 1 + 1, 1, none⟩ = some (.int .i64 (x : Int)) ∧ W.drew.cell? ⟨w.heap.size + 1 + 1, 2, none⟩ = some (.int .i64 (n : Int)))) := Lib.hid HDd.out.args
    refine wp_region_held_drew (S := fun w' => (w'.cell? ⟨w.heap.size, 0, none⟩ = some (.pointer (some ⟨m, 0, none⟩)) ∧ w'.cell? ⟨w.heap.size, 1, none⟩ = some (.int .i64 base) ∧ w'.cell? ⟨w.heap.size, 2, none⟩ = some (.int .i64 size)) ∧ (w'.cell? ⟨w.heap.size + 1, 0, none⟩ = some (.int .i64 pc) ∧ w'.cell? ⟨w.heap.size + 1, 1, none⟩ = some (.int .i64 (r 0)) ∧ w'.cell? ⟨w.heap.size + 1, 2, none⟩ = some (.int .i64 (r 1)) ∧ w'.cell? ⟨w.heap.size + 1, 3, none⟩ = some (.int .i64 (r 2)) ∧ w'.cell? ⟨w.heap.size + 1, 4, none⟩ = some (.int .i64 (r 3)) ∧ w'.cell? ⟨w.heap.size + 1, 5, none⟩ = some (.int .i64 (r 4)) ∧ w'.cell? ⟨w.heap.size + 1, 6, none⟩ = some (.int .i64 (r 5)) ∧ w'.cell? ⟨w.heap.size + 1, 7, none⟩ = some (.int .i64 (r 6)) ∧ w'.cell? ⟨w.heap.size + 1, 8, none⟩ = some (.int .i64 (r 7)) ∧ w'.cell? ⟨w.heap.size + 1, 9, none⟩ = some (.int .i64 md)) ∧ (w'.cell? ⟨w.heap.size + 1 + 1, 0, none⟩ = some (.int .u8 6) ∧ w'.cell? ⟨w.heap.size + 1 + 1, 1, none⟩ = some (.int .i64 (x : Int)) ∧ w'.cell? ⟨w.heap.size + 1 + 1, 2, none⟩ = some (.int .i64 (n : Int)))) (by kernel_rfl) HX0.out (fun hHeld => ?_)
    refine wpAnyH_take (i := 0) (oi := ⟨some 19, _, _, _, _, none⟩) (v := ?_) rfl (by kernel_rfl) (by kernel_rfl) (by kernel_rfl) (fun _ _ _ h => h) (Or.inl ⟨by rfl, ?_⟩) (by assumption) ?_
    case refine_2 => intro w hSw; (try dsimp only at hSw); go_simp; try with_reducible rfl
    try simp only [Act.put, List.setIfInBounds_toArray, List.set_cons_zero, List.set_cons_succ]
    refine wpAnyH_take (i := 1) (oi := ⟨some 20, _, _, _, _, none⟩) (v := ?_) rfl (by kernel_rfl) (by kernel_rfl) (by kernel_rfl) (fun _ _ _ h => h) (Or.inl ⟨by rfl, ?_⟩) (by assumption) ?_
    case refine_2 => intro w hSw; (try dsimp only at hSw); go_simp; try with_reducible rfl
    try simp only [Act.put, List.setIfInBounds_toArray, List.set_cons_zero, List.set_cons_succ]
    refine wpAnyH_take (i := 2) (oi := ⟨some 21, _, _, _, _, none⟩) (v := ?_) rfl (by kernel_rfl) (by kernel_rfl) (by kernel_rfl) (fun _ _ _ h => h) (Or.inl ⟨by rfl, ?_⟩) (by assumption) ?_
    case refine_2 => intro w hSw; (try dsimp only at hSw); go_simp; try with_reducible rfl
    try simp only [Act.put, List.setIfInBounds_toArray, List.set_cons_zero, List.set_cons_succ]
    refine wpAnyH_take (i := 3) (oi := ⟨some 22, _, _, _, _, none⟩) (v := ?_) rfl (by kernel_rfl) (by kernel_rfl) (by kernel_rfl) (fun _ _ _ h => h) (Or.inl ⟨by rfl, ?_⟩) (by assumption) ?_
    case refine_2 => intro w hSw; (try dsimp only at hSw); go_simp; try with_reducible rfl
    try simp only [Act.put, List.setIfInBounds_toArray, List.set_cons_zero, List.set_cons_succ]
    refine wpAnyH_take (i := 5) (oi := ⟨some 24, _, _, _, _, none⟩) (v := ?_) rfl (by kernel_rfl) (by kernel_rfl) (by kernel_rfl) (fun _ _ _ h => h) (Or.inl ⟨by rfl, ?_⟩) (by assumption) ?_
    case refine_2 => intro w hSw; (try dsimp only at hSw); go_simp; try with_reducible rfl
    try simp only [Act.put, List.setIfInBounds_toArray, List.set_cons_zero, List.set_cons_succ]
    refine wpAnyH_ready (rs := [4]) (by kernel_rfl) (by simp) ?_
    refine AllReadyH.cons (o := ⟨some 23, _, _, _, _, none⟩) rfl (fun K hK => ?_) AllReadyH.nil
    go_simp
    have HQ := HM.out W.drew
    refine HQ.mono ?_
    clear HQ
    rintro e w3 ⟨rfl, g3⟩
    have HD3 := Lib.hid (HDd.out.step g3)
    have HX3 : Hid ((w3.cell? ⟨w.heap.size, 0, none⟩ = some (.pointer (some ⟨m, 0, none⟩)) ∧ w3.cell? ⟨w.heap.size, 1, none⟩ = some (.int .i64 base) ∧ w3.cell? ⟨w.heap.size, 2, none⟩ = some (.int .i64 size)) ∧ (w3.cell? ⟨w.heap.size + 1, 0, none⟩ = some (.int .i64 pc) ∧ w3.cell? ⟨w.heap.size + 1, 1, none⟩ = some (.int .i64 (r 0)) ∧ w3.cell? ⟨w.heap.size + 1, 2, none⟩ = some (.int .i64 (r 1)) ∧ w3.cell? ⟨w.heap.size + 1, 3, none⟩ = some (.int .i64 (r 2)) ∧ w3.cell? ⟨w.heap.size + 1, 4, none⟩ = some (.int .i64 (r 3)) ∧ w3.cell? ⟨w.heap.size + 1, 5, none⟩ = some (.int .i64 (r 4)) ∧ w3.cell? ⟨w.heap.size + 1, 6, none⟩ = some (.int .i64 (r 5)) ∧ w3.cell? ⟨w.heap.size + 1, 7, none⟩ = some (.int .i64 (r 6)) ∧ w3.cell? ⟨w.heap.size + 1, 8, none⟩ = some (.int .i64 (r 7)) ∧ w3.cell? ⟨w.heap.size + 1, 9, none⟩ = some (.int .i64 md)) ∧ (w3.cell? ⟨w.heap.size + 1 + 1, 0, none⟩ = some (.int .u8 6) ∧ w3.cell? ⟨w.heap.size + 1 + 1, 1, none⟩ = some (.int .i64 (x : Int)) ∧ w3.cell? ⟨w.heap.size + 1 + 1, 2, none⟩ = some (.int .i64 (n : Int)))) := Lib.hid HD3.out.args
    clear g3
    try simp only []
    refine hK.out _ _ (HX3.out) (fun hHeld => ?_)
    clear hK K
    try simp only [Act.put, List.setIfInBounds_toArray, List.set_cons_zero, List.set_cons_succ]
    refine wpAnyH_take (i := 6) (oi := ⟨some 25, _, _, _, _, none⟩) (v := ?_) rfl (by kernel_rfl) (by kernel_rfl) (by kernel_rfl) (fun _ _ _ h => h) (Or.inl ⟨by rfl, ?_⟩) (by assumption) ?_
    case refine_2 => intro w hSw; (try dsimp only at hSw); go_simp; try with_reducible rfl
    try simp only [Act.put, List.setIfInBounds_toArray, List.set_cons_zero, List.set_cons_succ]
    have ft := HD3.out.tb.free (1 + x)
    have ct := (Cu.st_cells HD3.out.tb).2.2 x HXL.out
    have HD4 := Lib.hid (HD3.out.putT (1 + x) (.int .i64 v))
    rw [Cu.stC_reg _ _ _ _ HXL.out] at HD4
    have HX4 : Hid (((w3.setCell ⟨w.heap.size + 1 + 1 + 1 + 1 + 1, 1 + x, none⟩ (.int .i64 v)).cell? ⟨w.heap.size, 0, none⟩ = some (.pointer (some ⟨m, 0, none⟩)) ∧ (w3.setCell ⟨w.heap.size + 1 + 1 + 1 + 1 + 1, 1 + x, none⟩ (.int .i64 v)).cell? ⟨w.heap.size, 1, none⟩ = some (.int .i64 base) ∧ (w3.setCell ⟨w.heap.size + 1 + 1 + 1 + 1 + 1, 1 + x, none⟩ (.int .i64 v)).cell? ⟨w.heap.size, 2, none⟩ = some (.int .i64 size)) ∧ ((w3.setCell ⟨w.heap.size + 1 + 1 + 1 + 1 + 1, 1 + x, none⟩ (.int .i64 v)).cell? ⟨w.heap.size + 1, 0, none⟩ = some (.int .i64 pc) ∧ (w3.setCell ⟨w.heap.size + 1 + 1 + 1 + 1 + 1, 1 + x, none⟩ (.int .i64 v)).cell? ⟨w.heap.size + 1, 1, none⟩ = some (.int .i64 (r 0)) ∧ (w3.setCell ⟨w.heap.size + 1 + 1 + 1 + 1 + 1, 1 + x, none⟩ (.int .i64 v)).cell? ⟨w.heap.size + 1, 2, none⟩ = some (.int .i64 (r 1)) ∧ (w3.setCell ⟨w.heap.size + 1 + 1 + 1 + 1 + 1, 1 + x, none⟩ (.int .i64 v)).cell? ⟨w.heap.size + 1, 3, none⟩ = some (.int .i64 (r 2)) ∧ (w3.setCell ⟨w.heap.size + 1 + 1 + 1 + 1 + 1, 1 + x, none⟩ (.int .i64 v)).cell? ⟨w.heap.size + 1, 4, none⟩ = some (.int .i64 (r 3)) ∧ (w3.setCell ⟨w.heap.size + 1 + 1 + 1 + 1 + 1, 1 + x, none⟩ (.int .i64 v)).cell? ⟨w.heap.size + 1, 5, none⟩ = some (.int .i64 (r 4)) ∧ (w3.setCell ⟨w.heap.size + 1 + 1 + 1 + 1 + 1, 1 + x, none⟩ (.int .i64 v)).cell? ⟨w.heap.size + 1, 6, none⟩ = some (.int .i64 (r 5)) ∧ (w3.setCell ⟨w.heap.size + 1 + 1 + 1 + 1 + 1, 1 + x, none⟩ (.int .i64 v)).cell? ⟨w.heap.size + 1, 7, none⟩ = some (.int .i64 (r 6)) ∧ (w3.setCell ⟨w.heap.size + 1 + 1 + 1 + 1 + 1, 1 + x, none⟩ (.int .i64 v)).cell? ⟨w.heap.size + 1, 8, none⟩ = some (.int .i64 (r 7)) ∧ (w3.setCell ⟨w.heap.size + 1 + 1 + 1 + 1 + 1, 1 + x, none⟩ (.int .i64 v)).cell? ⟨w.heap.size + 1, 9, none⟩ = some (.int .i64 md)) ∧ ((w3.setCell ⟨w.heap.size + 1 + 1 + 1 + 1 + 1, 1 + x, none⟩ (.int .i64 v)).cell? ⟨w.heap.size + 1 + 1, 0, none⟩ = some (.int .u8 6) ∧ (w3.setCell ⟨w.heap.size + 1 + 1 + 1 + 1 + 1, 1 + x, none⟩ (.int .i64 v)).cell? ⟨w.heap.size + 1 + 1, 1, none⟩ = some (.int .i64 (x : Int)) ∧ (w3.setCell ⟨w.heap.size + 1 + 1 + 1 + 1 + 1, 1 + x, none⟩ (.int .i64 v)).cell? ⟨w.heap.size + 1 + 1, 2, none⟩ = some (.int .i64 (n : Int)))) := Lib.hid HD4.out.args
    refine wpAnyH_ready (rs := [7]) (by kernel_rfl) (by simp) ?_
    refine AllReadyH.cons (o := ⟨none, _, _, _, _, none⟩) rfl (fun K hK => ?_) AllReadyH.nil
    go_simp
    refine hK.out _ _ (HX4.out) (fun hHeld => ?_)
    clear hK K
    try simp only [Act.put, List.setIfInBounds_toArray, List.set_cons_zero, List.set_cons_succ]
    refine wpAnyH_done (by kernel_rfl) ?_ _
    rw [← hrr] at HD4
    obtain ⟨w4, hw4⟩ : ∃ w4, w4 = w3.setCell ⟨w.heap.size + 1 + 1 + 1 + 1 + 1, 1 + x, none⟩ (.int .i64 v) := ⟨_, rfl⟩
    rw [← hw4] at HD4 ⊢
    clear hw4 ft ct HX4 HX3 HX0 hHeld hrr
    go_upto_region 28 with (fail)
    obtain ⟨⟨t0, t1, t2, t3, t4, t5, t6, t7, t8, t9⟩, ⟨o0, o1, o2, o3⟩⟩ := HD4.out.tail
    obtain ⟨⟨z0, z1, z2, z3, z4, z5, z6, z7, z8, z9⟩, ⟨y0, y1, y2, y3⟩, ⟨f0, f1, f2, f3, f4, f5, f6, f7, f8, f9⟩, ⟨e0, e1, e2, e3⟩⟩ := HD4.out.free
    go_region
    go_wp2
    obtain ⟨⟨r0, r1, r2, r3, r4, r5, r6, r7, r8, r9⟩, ⟨u0, u1, u2, u3⟩, G8, G9⟩ := HD4.out.fin (.int .i64 (pc + 4)) (.int .i64 (rr 0)) (.int .i64 (rr 1)) (.int .i64 (rr 2)) (.int .i64 (rr 3)) (.int .i64 (rr 4)) (.int .i64 (rr 5)) (.int .i64 (rr 6)) (.int .i64 (rr 7)) (.int .i64 md) (.int .i64 1) (.int .i64 0) (.int .i64 0) (.int .i64 0) _ rfl
    refine bodyPost_ret (v := .tuple #[.agg #[.int .i64 (pc + 4), .int .i64 (rr 0), .int .i64 (rr 1), .int .i64 (rr 2), .int .i64 (rr 3), .int .i64 (rr 4), .int .i64 (rr 5), .int .i64 (rr 6), .int .i64 (rr 7), .int .i64 md], .agg #[.int .i64 1, .int .i64 0, .int .i64 0, .int .i64 0]]) (by simp [results, Tryd.results46, go_sem, r0, r1, r2, r3, r4, r5, r6, r7, r8, r9, u0, u1, u2, u3]) rfl ⟨rfl, G9⟩
end Go.Proofs.YthhodadfiipffaaDoor
