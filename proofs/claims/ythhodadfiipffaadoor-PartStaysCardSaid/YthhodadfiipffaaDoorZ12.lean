import Derived.Test.YthhodadfiipffaaDoorZ07
import Derived.Deep.RegionHeld
import Derived.Test.YthhodadfiipffaaDoorZ08
import Derived.Test.YthhodadfiipffaaDoorZ09
import Derived.Test.YthhodadfiipffaaDoorZ10
import Derived.Test.YthhodadfiipffaaDoorZ11
set_option linter.all false
/- Package cpu: do, what can not be written. -/
namespace Go.Proofs.YthhodadfiipffaaDoor
open Go.RowKit Go.Lib
set_option linter.unusedVariables false
set_option maxRecDepth 8000

set_option maxRecDepth 20000 in
set_option maxHeartbeats 12800000 in
theorem Cu.do_write_no (m : Nat) (base size pc md : Int) (k x n : Nat) (r : Nat → Int) (hpc : 0 ≤ pc ∧ pc ≤ 16384) (hk : k = 8 ∨ k = 10) (hx : x < 8) (hn : n < 8) (w : World) (hc : ∀ W, w.grownBy W none → Calls Tryd.prog 64 #[Cu.vw m base size, .int .i64 (r n), .int .i64 (if k = 10 then 2 else 1), .int .i64 (r x)] W fun e w' => e = .returned (.int .i64 6) ∧ W.grownBy w' none) : Calls Tryd.prog 46 #[Cu.vw m base size, Cu.stV pc r md, Cu.inV k x n] w fun e w' => e = .returned (.tuple #[Cu.stV pc r 3, Cu.outV 5 0 0 6]) ∧ w.grownBy w' none := by
  have hw : IntKind.i64.wrap (pc + 4) = pc + 4 := by rw [IntKind.wrap_i64]; omega
  have HC := Lib.hid hc
  have HW := Lib.hid (fun W => Cu.width_any k (by omega) W)
  have HBR := Lib.hid (fun W => Cu.broken_any pc md 6 r W)
  have HXL := Lib.hid hx
  have HNL := Lib.hid hn
  have x1 : (x : Int) < 8 := by omega
  have x2 : (0 : Int) ≤ (x : Int) := by omega
  have x3 : ¬ (x : Int) < 0 := by omega
  have x4 : ¬ (7 : Int) < (x : Int) := by omega
  have y1 : (n : Int) < 8 := by omega
  have y2 : (0 : Int) ≤ (n : Int) := by omega
  have y3 : ¬ (n : Int) < 0 := by omega
  have y4 : ¬ (7 : Int) < (n : Int) := by omega
  unfold Cu.stV at HBR ⊢
  unfold Cu.stC at HBR ⊢
  unfold Cu.outV at HBR
  unfold Cu.vw at HC
  clear hc
  rcases hk with rfl | rfl
  · have HW1 := Lib.hid (show ∀ W, Calls Tryd.prog 63 #[.int .u8 8] W (fun e w' => e = .returned (.int .i64 1) ∧ W = w') from fun W => HW.out W)
    have HC1 := HC.out
    simp (config := { decide := true }) only [if_true, if_false] at HC1
    replace HC1 := Lib.hid HC1
    clear HC HW
    simp only [Int.cast_ofNat_Int]
    unfold Cu.outV Cu.vw Cu.inV
    go_enter Tryd.func46, Tryd.ntmps46
    go_upto_region 25 with (fail)
    show Code.wp _ _ _ _ (Cu.wd w m base size (Cu.stC pc r md) (Cu.inC 8 x n) (Cu.stC (pc + 4) r md) #[.int .i64 1, .int .i64 0, .int .i64 0, .int .i64 0])
    have HD := Lib.hid (Cu.Dw.new w m base size (Cu.stC pc r md) (Cu.inC 8 x n) (Cu.stC (pc + 4) r md) #[.int .i64 1, .int .i64 0, .int .i64 0, .int .i64 0])
    generalize Cu.wd w m base size (Cu.stC pc r md) (Cu.inC 8 x n) (Cu.stC (pc + 4) r md) #[.int .i64 1, .int .i64 0, .int .i64 0, .int .i64 0] = W at *
    have HDd := Lib.hid (show Cu.Dw _ W.drew _ _ _ _ _ _ _ _ _ _ from HD.out.step (only_drewN (only_refl _ _) 1))
    have HX0 : Hid ((W.drew.cell? ⟨w.heap.size, 0, none⟩ = some (.pointer (some ⟨m, 0, none⟩)) ∧ W.drew.cell? ⟨w.heap.size, 1, none⟩ = some (.int .i64 base) ∧ W.drew.cell? ⟨w.heap.size, 2, none⟩ = some (.int .i64 size)) ∧ (W.drew.cell? ⟨w.heap.size + 1, 0, none⟩ = some (.int .i64 pc) ∧ W.drew.cell? ⟨w.heap.size + 1, 1, none⟩ = some (.int .i64 (r 0)) ∧ W.drew.cell? ⟨w.heap.size + 1, 2, none⟩ = some (.int .i64 (r 1)) ∧ W.drew.cell? ⟨w.heap.size + 1, 3, none⟩ = some (.int .i64 (r 2)) ∧ W.drew.cell? ⟨w.heap.size + 1, 4, none⟩ = some (.int .i64 (r 3)) ∧ W.drew.cell? ⟨w.heap.size + 1, 5, none⟩ = some (.int .i64 (r 4)) ∧ W.drew.cell? ⟨w.heap.size + 1, 6, none⟩ = some (.int .i64 (r 5)) ∧ W.drew.cell? ⟨w.heap.size + 1, 7, none⟩ = some (.int .i64 (r 6)) ∧ W.drew.cell? ⟨w.heap.size + 1, 8, none⟩ = some (.int .i64 (r 7)) ∧ W.drew.cell? ⟨w.heap.size + 1, 9, none⟩ = some (.int .i64 md)) ∧ (W.drew.cell? ⟨w.heap.size + 1 + 1, 0, none⟩ = some (.int .u8 8) ∧ W.drew.cell? ⟨w.heap.size + 1 + 1, 1, none⟩ = some (.int .i64 (x : Int)) ∧ W.drew.cell? ⟨w.heap.size + 1 + 1, 2, none⟩ = some (.int .i64 (n : Int))) ∧ W.drew.cell? ⟨w.heap.size + 1, 1 + n, none⟩ = some (.int .i64 (r n)) ∧ W.drew.cell? ⟨w.heap.size + 1, 1 + x, none⟩ = some (.int .i64 (r x))) := Lib.hid (Cu.andl HDd.out.args ⟨HDd.out.reg n HNL.out, HDd.out.reg x HXL.out⟩)
    refine wp_region_held_drew (S := fun w' => (w'.cell? ⟨w.heap.size, 0, none⟩ = some (.pointer (some ⟨m, 0, none⟩)) ∧ w'.cell? ⟨w.heap.size, 1, none⟩ = some (.int .i64 base) ∧ w'.cell? ⟨w.heap.size, 2, none⟩ = some (.int .i64 size)) ∧ (w'.cell? ⟨w.heap.size + 1, 0, none⟩ = some (.int .i64 pc) ∧ w'.cell? ⟨w.heap.size + 1, 1, none⟩ = some (.int .i64 (r 0)) ∧ w'.cell? ⟨w.heap.size + 1, 2, none⟩ = some (.int .i64 (r 1)) ∧ w'.cell? ⟨w.heap.size + 1, 3, none⟩ = some (.int .i64 (r 2)) ∧ w'.cell? ⟨w.heap.size + 1, 4, none⟩ = some (.int .i64 (r 3)) ∧ w'.cell? ⟨w.heap.size + 1, 5, none⟩ = some (.int .i64 (r 4)) ∧ w'.cell? ⟨w.heap.size + 1, 6, none⟩ = some (.int .i64 (r 5)) ∧ w'.cell? ⟨w.heap.size + 1, 7, none⟩ = some (.int .i64 (r 6)) ∧ w'.cell? ⟨w.heap.size + 1, 8, none⟩ = some (.int .i64 (r 7)) ∧ w'.cell? ⟨w.heap.size + 1, 9, none⟩ = some (.int .i64 md)) ∧ (w'.cell? ⟨w.heap.size + 1 + 1, 0, none⟩ = some (.int .u8 8) ∧ w'.cell? ⟨w.heap.size + 1 + 1, 1, none⟩ = some (.int .i64 (x : Int)) ∧ w'.cell? ⟨w.heap.size + 1 + 1, 2, none⟩ = some (.int .i64 (n : Int))) ∧ w'.cell? ⟨w.heap.size + 1, 1 + n, none⟩ = some (.int .i64 (r n)) ∧ w'.cell? ⟨w.heap.size + 1, 1 + x, none⟩ = some (.int .i64 (r x))) (by kernel_rfl) HX0.out (fun hHeld => ?_)
    refine wpAnyH_take (i := 0) (oi := ⟨some 75, _, _, _, _, none⟩) (v := ?_) rfl (by kernel_rfl) (by kernel_rfl) (by kernel_rfl) (fun _ _ _ h => h) (Or.inl ⟨by rfl, ?_⟩) (by assumption) ?_
    case refine_2 => intro w hSw; (try dsimp only at hSw); go_simp; try with_reducible rfl
    try simp only [Act.put, List.setIfInBounds_toArray, List.set_cons_zero, List.set_cons_succ]
    refine wpAnyH_take (i := 1) (oi := ⟨some 76, _, _, _, _, none⟩) (v := ?_) rfl (by kernel_rfl) (by kernel_rfl) (by kernel_rfl) (fun _ _ _ h => h) (Or.inl ⟨by rfl, ?_⟩) (by assumption) ?_
    case refine_2 => intro w hSw; (try dsimp only at hSw); go_simp; try with_reducible rfl
    try simp only [Act.put, List.setIfInBounds_toArray, List.set_cons_zero, List.set_cons_succ]
    refine wpAnyH_take (i := 2) (oi := ⟨some 77, _, _, _, _, none⟩) (v := ?_) rfl (by kernel_rfl) (by kernel_rfl) (by kernel_rfl) (fun _ _ _ h => h) (Or.inl ⟨by rfl, ?_⟩) (by assumption) ?_
    case refine_2 => intro w hSw; (try dsimp only at hSw); go_simp; try with_reducible rfl
    try simp only [Act.put, List.setIfInBounds_toArray, List.set_cons_zero, List.set_cons_succ]
    refine wpAnyH_take (i := 3) (oi := ⟨some 78, _, _, _, _, none⟩) (v := ?_) rfl (by kernel_rfl) (by kernel_rfl) (by kernel_rfl) (fun _ _ _ h => h) (Or.inl ⟨by rfl, ?_⟩) (by assumption) ?_
    case refine_2 => intro w hSw; (try dsimp only at hSw); go_simp; try with_reducible rfl
    try simp only [Act.put, List.setIfInBounds_toArray, List.set_cons_zero, List.set_cons_succ]
    refine wpAnyH_take (i := 4) (oi := ⟨some 79, _, _, _, _, none⟩) (v := ?_) rfl (by kernel_rfl) (by kernel_rfl) (by kernel_rfl) (fun _ _ _ h => h) (Or.inl ⟨by rfl, ?_⟩) (by assumption) ?_
    case refine_2 => intro w hSw; (try dsimp only at hSw); go_simp; try with_reducible rfl
    try simp only [Act.put, List.setIfInBounds_toArray, List.set_cons_zero, List.set_cons_succ]
    refine wpAnyH_take (i := 5) (oi := ⟨some 80, _, _, _, _, none⟩) (v := ?_) rfl (by kernel_rfl) (by kernel_rfl) (by kernel_rfl) (fun _ _ _ h => h) (Or.inl ⟨by rfl, ?_⟩) (by assumption) ?_
    case refine_2 => intro w hSw; (try dsimp only at hSw); go_simp; try with_reducible rfl
    try simp only [Act.put, List.setIfInBounds_toArray, List.set_cons_zero, List.set_cons_succ]
    refine wpAnyH_take (i := 6) (oi := ⟨some 81, _, _, _, _, none⟩) (v := ?_) rfl (by kernel_rfl) (by kernel_rfl) (by kernel_rfl) (fun _ _ _ h => h) (Or.inl ⟨by rfl, ?_⟩) (by assumption) ?_
    case refine_2 => intro w hSw; (try dsimp only at hSw); go_simp; try with_reducible rfl
    try simp only [Act.put, List.setIfInBounds_toArray, List.set_cons_zero, List.set_cons_succ]
    refine wpAnyH_take (i := 7) (oi := ⟨some 82, _, _, _, _, none⟩) (v := ?_) rfl (by kernel_rfl) (by kernel_rfl) (by kernel_rfl) (fun _ _ _ h => h) (Or.inl ⟨by rfl, ?_⟩) (by assumption) ?_
    case refine_2 => intro w hSw; (try dsimp only at hSw); go_simp; try with_reducible rfl
    try simp only [Act.put, List.setIfInBounds_toArray, List.set_cons_zero, List.set_cons_succ]
    refine wpAnyH_take (i := 9) (oi := ⟨some 84, _, _, _, _, none⟩) (v := ?_) rfl (by kernel_rfl) (by kernel_rfl) (by kernel_rfl) (fun _ _ _ h => h) (Or.inl ⟨by rfl, ?_⟩) (by assumption) ?_
    case refine_2 => intro w hSw; (try dsimp only at hSw); go_simp; try with_reducible rfl
    try simp only [Act.put, List.setIfInBounds_toArray, List.set_cons_zero, List.set_cons_succ]
    refine wpAnyH_take (i := 10) (oi := ⟨some 85, _, _, _, _, none⟩) (v := ?_) rfl (by kernel_rfl) (by kernel_rfl) (by kernel_rfl) (fun _ _ _ h => h) (Or.inl ⟨by rfl, ?_⟩) (by assumption) ?_
    case refine_2 => intro w hSw; (try dsimp only at hSw); go_simp; try with_reducible rfl
    try simp only [Act.put, List.setIfInBounds_toArray, List.set_cons_zero, List.set_cons_succ]
    refine wpAnyH_take (i := 11) (oi := ⟨some 86, _, _, _, _, none⟩) (v := ?_) rfl (by kernel_rfl) (by kernel_rfl) (by kernel_rfl) (fun _ _ _ h => h) (Or.inl ⟨by rfl, ?_⟩) (by assumption) ?_
    case refine_2 => intro w hSw; (try dsimp only at hSw); go_simp; try with_reducible rfl
    try simp only [Act.put, List.setIfInBounds_toArray, List.set_cons_zero, List.set_cons_succ]
    refine wpAnyH_take (i := 12) (oi := ⟨some 87, _, _, _, _, none⟩) (v := ?_) rfl (by kernel_rfl) (by kernel_rfl) (by kernel_rfl) (fun _ _ _ h => h) (Or.inl ⟨by rfl, ?_⟩) (by assumption) ?_
    case refine_2 => intro w hSw; (try dsimp only at hSw); go_simp; try with_reducible rfl
    try simp only [Act.put, List.setIfInBounds_toArray, List.set_cons_zero, List.set_cons_succ]
    refine wpAnyH_take (i := 13) (oi := ⟨some 88, _, _, _, _, none⟩) (v := ?_) rfl (by kernel_rfl) (by kernel_rfl) (by kernel_rfl) (fun _ _ _ h => h) (Or.inl ⟨by rfl, ?_⟩) (by assumption) ?_
    case refine_2 => intro w hSw; (try dsimp only at hSw); go_simp; try with_reducible rfl
    try simp only [Act.put, List.setIfInBounds_toArray, List.set_cons_zero, List.set_cons_succ]
    refine wpAnyH_ready (rs := [8]) (by kernel_rfl) (by simp) ?_
    refine AllReadyH.cons (o := ⟨some 83, _, _, _, _, none⟩) rfl (fun K hK => ?_) AllReadyH.nil
    go_simp
    have HQ := HW1.out W.drew
    refine HQ.mono ?_
    clear HQ
    rintro e w3 ⟨rfl, rfl⟩
    try simp only []
    refine hK.out _ _ (HX0.out) (fun hHeld => ?_)
    clear hK K
    try simp only [Act.put, List.setIfInBounds_toArray, List.set_cons_zero, List.set_cons_succ]
    refine wpAnyH_ready (rs := [14]) (by kernel_rfl) (by simp) ?_
    refine AllReadyH.cons (o := ⟨some 89, _, _, _, _, none⟩) rfl (fun K hK => ?_) AllReadyH.nil
    go_simp
    have HQ := HC1.out W.drew HDd.out.grow
    refine HQ.mono ?_
    clear HQ
    rintro e w3 ⟨rfl, g3⟩
    have HD3 := Lib.hid (HDd.out.step g3)
    have HX3 : Hid ((w3.cell? ⟨w.heap.size, 0, none⟩ = some (.pointer (some ⟨m, 0, none⟩)) ∧ w3.cell? ⟨w.heap.size, 1, none⟩ = some (.int .i64 base) ∧ w3.cell? ⟨w.heap.size, 2, none⟩ = some (.int .i64 size)) ∧ (w3.cell? ⟨w.heap.size + 1, 0, none⟩ = some (.int .i64 pc) ∧ w3.cell? ⟨w.heap.size + 1, 1, none⟩ = some (.int .i64 (r 0)) ∧ w3.cell? ⟨w.heap.size + 1, 2, none⟩ = some (.int .i64 (r 1)) ∧ w3.cell? ⟨w.heap.size + 1, 3, none⟩ = some (.int .i64 (r 2)) ∧ w3.cell? ⟨w.heap.size + 1, 4, none⟩ = some (.int .i64 (r 3)) ∧ w3.cell? ⟨w.heap.size + 1, 5, none⟩ = some (.int .i64 (r 4)) ∧ w3.cell? ⟨w.heap.size + 1, 6, none⟩ = some (.int .i64 (r 5)) ∧ w3.cell? ⟨w.heap.size + 1, 7, none⟩ = some (.int .i64 (r 6)) ∧ w3.cell? ⟨w.heap.size + 1, 8, none⟩ = some (.int .i64 (r 7)) ∧ w3.cell? ⟨w.heap.size + 1, 9, none⟩ = some (.int .i64 md)) ∧ (w3.cell? ⟨w.heap.size + 1 + 1, 0, none⟩ = some (.int .u8 8) ∧ w3.cell? ⟨w.heap.size + 1 + 1, 1, none⟩ = some (.int .i64 (x : Int)) ∧ w3.cell? ⟨w.heap.size + 1 + 1, 2, none⟩ = some (.int .i64 (n : Int))) ∧ w3.cell? ⟨w.heap.size + 1, 1 + n, none⟩ = some (.int .i64 (r n)) ∧ w3.cell? ⟨w.heap.size + 1, 1 + x, none⟩ = some (.int .i64 (r x))) := Lib.hid (Cu.andl HD3.out.args ⟨HD3.out.reg n HNL.out, HD3.out.reg x HXL.out⟩)
    clear g3
    try simp only []
    refine hK.out _ _ (HX3.out) (fun hHeld => ?_)
    clear hK K
    try simp only [Act.put, List.setIfInBounds_toArray, List.set_cons_zero, List.set_cons_succ]
    refine wpAnyH_take (i := 15) (oi := ⟨some 10, _, _, _, _, none⟩) (v := ?_) rfl (by kernel_rfl) (by kernel_rfl) (by kernel_rfl) (fun _ _ _ h => h) (Or.inl ⟨by rfl, ?_⟩) (by assumption) ?_
    case refine_2 => intro w hSw; (try dsimp only at hSw); go_simp; try with_reducible rfl
    try simp only [Act.put, List.setIfInBounds_toArray, List.set_cons_zero, List.set_cons_succ]
    refine wpAnyH_done (by kernel_rfl) ?_ _
    clear HX3 HX0 hHeld
    go_upto_region 27 with (fail)
    obtain ⟨-, ⟨s0, s1, s2, s3, s4, s5, s6, s7, s8, s9⟩, -⟩ := HD3.out.args
    go_wp2_with (go_at_call 45; (with_reducible refine (HBR.out _).mono ?_); rintro e w5 ⟨rfl, g5⟩; have HD5 := Lib.hid (HD3.out.step g5); clear s0 s1 s2 s3 s4 s5 s6 s7 s8 s9 g5; obtain ⟨⟨z0, z1, z2, z3, z4, z5, z6, z7, z8, z9⟩, ⟨y0, y1, y2, y3⟩, ⟨f0, f1, f2, f3, f4, f5, f6, f7, f8, f9⟩, ⟨e0, e1, e2, e3⟩⟩ := HD5.out.free)
    obtain ⟨⟨r0, r1, r2, r3, r4, r5, r6, r7, r8, r9⟩, ⟨u0, u1, u2, u3⟩, G8, G9⟩ := HD5.out.fin0 (.int .i64 pc) (.int .i64 (r 0)) (.int .i64 (r 1)) (.int .i64 (r 2)) (.int .i64 (r 3)) (.int .i64 (r 4)) (.int .i64 (r 5)) (.int .i64 (r 6)) (.int .i64 (r 7)) (.int .i64 3) (.int .i64 5) (.int .i64 0) (.int .i64 0) (.int .i64 6) _ rfl
    refine bodyPost_ret (v := .tuple #[.agg #[.int .i64 pc, .int .i64 (r 0), .int .i64 (r 1), .int .i64 (r 2), .int .i64 (r 3), .int .i64 (r 4), .int .i64 (r 5), .int .i64 (r 6), .int .i64 (r 7), .int .i64 3], .agg #[.int .i64 5, .int .i64 0, .int .i64 0, .int .i64 6]]) (by simp [results, Tryd.results46, go_sem, r0, r1, r2, r3, r4, r5, r6, r7, r8, r9, u0, u1, u2, u3]) rfl ⟨rfl, G9⟩
  · have HW1 := Lib.hid (show ∀ W, Calls Tryd.prog 63 #[.int .u8 10] W (fun e w' => e = .returned (.int .i64 2) ∧ W = w') from fun W => HW.out W)
    have HC1 := HC.out
    simp (config := { decide := true }) only [if_true, if_false] at HC1
    replace HC1 := Lib.hid HC1
    clear HC HW
    simp only [Int.cast_ofNat_Int]
    unfold Cu.outV Cu.vw Cu.inV
    go_enter Tryd.func46, Tryd.ntmps46
    go_upto_region 25 with (fail)
    show Code.wp _ _ _ _ (Cu.wd w m base size (Cu.stC pc r md) (Cu.inC 10 x n) (Cu.stC (pc + 4) r md) #[.int .i64 1, .int .i64 0, .int .i64 0, .int .i64 0])
    have HD := Lib.hid (Cu.Dw.new w m base size (Cu.stC pc r md) (Cu.inC 10 x n) (Cu.stC (pc + 4) r md) #[.int .i64 1, .int .i64 0, .int .i64 0, .int .i64 0])
    generalize Cu.wd w m base size (Cu.stC pc r md) (Cu.inC 10 x n) (Cu.stC (pc + 4) r md) #[.int .i64 1, .int .i64 0, .int .i64 0, .int .i64 0] = W at *
    have HDd := Lib.hid (show Cu.Dw _ W.drew _ _ _ _ _ _ _ _ _ _ from HD.out.step (only_drewN (only_refl _ _) 1))
    have HX0 : Hid ((W.drew.cell? ⟨w.heap.size, 0, none⟩ = some (.pointer (some ⟨m, 0, none⟩)) ∧ W.drew.cell? ⟨w.heap.size, 1, none⟩ = some (.int .i64 base) ∧ W.drew.cell? ⟨w.heap.size, 2, none⟩ = some (.int .i64 size)) ∧ (W.drew.cell? ⟨w.heap.size + 1, 0, none⟩ = some (.int .i64 pc) ∧ W.drew.cell? ⟨w.heap.size + 1, 1, none⟩ = some (.int .i64 (r 0)) ∧ W.drew.cell? ⟨w.heap.size + 1, 2, none⟩ = some (.int .i64 (r 1)) ∧ W.drew.cell? ⟨w.heap.size + 1, 3, none⟩ = some (.int .i64 (r 2)) ∧ W.drew.cell? ⟨w.heap.size + 1, 4, none⟩ = some (.int .i64 (r 3)) ∧ W.drew.cell? ⟨w.heap.size + 1, 5, none⟩ = some (.int .i64 (r 4)) ∧ W.drew.cell? ⟨w.heap.size + 1, 6, none⟩ = some (.int .i64 (r 5)) ∧ W.drew.cell? ⟨w.heap.size + 1, 7, none⟩ = some (.int .i64 (r 6)) ∧ W.drew.cell? ⟨w.heap.size + 1, 8, none⟩ = some (.int .i64 (r 7)) ∧ W.drew.cell? ⟨w.heap.size + 1, 9, none⟩ = some (.int .i64 md)) ∧ (W.drew.cell? ⟨w.heap.size + 1 + 1, 0, none⟩ = some (.int .u8 10) ∧ W.drew.cell? ⟨w.heap.size + 1 + 1, 1, none⟩ = some (.int .i64 (x : Int)) ∧ W.drew.cell? ⟨w.heap.size + 1 + 1, 2, none⟩ = some (.int .i64 (n : Int))) ∧ W.drew.cell? ⟨w.heap.size + 1, 1 + n, none⟩ = some (.int .i64 (r n)) ∧ W.drew.cell? ⟨w.heap.size + 1, 1 + x, none⟩ = some (.int .i64 (r x))) := Lib.hid (Cu.andl HDd.out.args ⟨HDd.out.reg n HNL.out, HDd.out.reg x HXL.out⟩)
    refine wp_region_held_drew (S := fun w' => (w'.cell? ⟨w.heap.size, 0, none⟩ = some (.pointer (some ⟨m, 0, none⟩)) ∧ w'.cell? ⟨w.heap.size, 1, none⟩ = some (.int .i64 base) ∧ w'.cell? ⟨w.heap.size, 2, none⟩ = some (.int .i64 size)) ∧ (w'.cell? ⟨w.heap.size + 1, 0, none⟩ = some (.int .i64 pc) ∧ w'.cell? ⟨w.heap.size + 1, 1, none⟩ = some (.int .i64 (r 0)) ∧ w'.cell? ⟨w.heap.size + 1, 2, none⟩ = some (.int .i64 (r 1)) ∧ w'.cell? ⟨w.heap.size + 1, 3, none⟩ = some (.int .i64 (r 2)) ∧ w'.cell? ⟨w.heap.size + 1, 4, none⟩ = some (.int .i64 (r 3)) ∧ w'.cell? ⟨w.heap.size + 1, 5, none⟩ = some (.int .i64 (r 4)) ∧ w'.cell? ⟨w.heap.size + 1, 6, none⟩ = some (.int .i64 (r 5)) ∧ w'.cell? ⟨w.heap.size + 1, 7, none⟩ = some (.int .i64 (r 6)) ∧ w'.cell? ⟨w.heap.size + 1, 8, none⟩ = some (.int .i64 (r 7)) ∧ w'.cell? ⟨w.heap.size + 1, 9, none⟩ = some (.int .i64 md)) ∧ (w'.cell? ⟨w.heap.size + 1 + 1, 0, none⟩ = some (.int .u8 10) ∧ w'.cell? ⟨w.heap.size + 1 + 1, 1, none⟩ = some (.int .i64 (x : Int)) ∧ w'.cell? ⟨w.heap.size + 1 + 1, 2, none⟩ = some (.int .i64 (n : Int))) ∧ w'.cell? ⟨w.heap.size + 1, 1 + n, none⟩ = some (.int .i64 (r n)) ∧ w'.cell? ⟨w.heap.size + 1, 1 + x, none⟩ = some (.int .i64 (r x))) (by kernel_rfl) HX0.out (fun hHeld => ?_)
    refine wpAnyH_take (i := 0) (oi := ⟨some 75, _, _, _, _, none⟩) (v := ?_) rfl (by kernel_rfl) (by kernel_rfl) (by kernel_rfl) (fun _ _ _ h => h) (Or.inl ⟨by rfl, ?_⟩) (by assumption) ?_
    case refine_2 => intro w hSw; (try dsimp only at hSw); go_simp; try with_reducible rfl
    try simp only [Act.put, List.setIfInBounds_toArray, List.set_cons_zero, List.set_cons_succ]
    refine wpAnyH_take (i := 1) (oi := ⟨some 76, _, _, _, _, none⟩) (v := ?_) rfl (by kernel_rfl) (by kernel_rfl) (by kernel_rfl) (fun _ _ _ h => h) (Or.inl ⟨by rfl, ?_⟩) (by assumption) ?_
    case refine_2 => intro w hSw; (try dsimp only at hSw); go_simp; try with_reducible rfl
    try simp only [Act.put, List.setIfInBounds_toArray, List.set_cons_zero, List.set_cons_succ]
    refine wpAnyH_take (i := 2) (oi := ⟨some 77, _, _, _, _, none⟩) (v := ?_) rfl (by kernel_rfl) (by kernel_rfl) (by kernel_rfl) (fun _ _ _ h => h) (Or.inl ⟨by rfl, ?_⟩) (by assumption) ?_
    case refine_2 => intro w hSw; (try dsimp only at hSw); go_simp; try with_reducible rfl
    try simp only [Act.put, List.setIfInBounds_toArray, List.set_cons_zero, List.set_cons_succ]
    refine wpAnyH_take (i := 3) (oi := ⟨some 78, _, _, _, _, none⟩) (v := ?_) rfl (by kernel_rfl) (by kernel_rfl) (by kernel_rfl) (fun _ _ _ h => h) (Or.inl ⟨by rfl, ?_⟩) (by assumption) ?_
    case refine_2 => intro w hSw; (try dsimp only at hSw); go_simp; try with_reducible rfl
    try simp only [Act.put, List.setIfInBounds_toArray, List.set_cons_zero, List.set_cons_succ]
    refine wpAnyH_take (i := 4) (oi := ⟨some 79, _, _, _, _, none⟩) (v := ?_) rfl (by kernel_rfl) (by kernel_rfl) (by kernel_rfl) (fun _ _ _ h => h) (Or.inl ⟨by rfl, ?_⟩) (by assumption) ?_
    case refine_2 => intro w hSw; (try dsimp only at hSw); go_simp; try with_reducible rfl
    try simp only [Act.put, List.setIfInBounds_toArray, List.set_cons_zero, List.set_cons_succ]
    refine wpAnyH_take (i := 5) (oi := ⟨some 80, _, _, _, _, none⟩) (v := ?_) rfl (by kernel_rfl) (by kernel_rfl) (by kernel_rfl) (fun _ _ _ h => h) (Or.inl ⟨by rfl, ?_⟩) (by assumption) ?_
    case refine_2 => intro w hSw; (try dsimp only at hSw); go_simp; try with_reducible rfl
    try simp only [Act.put, List.setIfInBounds_toArray, List.set_cons_zero, List.set_cons_succ]
    refine wpAnyH_take (i := 6) (oi := ⟨some 81, _, _, _, _, none⟩) (v := ?_) rfl (by kernel_rfl) (by kernel_rfl) (by kernel_rfl) (fun _ _ _ h => h) (Or.inl ⟨by rfl, ?_⟩) (by assumption) ?_
    case refine_2 => intro w hSw; (try dsimp only at hSw); go_simp; try with_reducible rfl
    try simp only [Act.put, List.setIfInBounds_toArray, List.set_cons_zero, List.set_cons_succ]
    refine wpAnyH_take (i := 7) (oi := ⟨some 82, _, _, _, _, none⟩) (v := ?_) rfl (by kernel_rfl) (by kernel_rfl) (by kernel_rfl) (fun _ _ _ h => h) (Or.inl ⟨by rfl, ?_⟩) (by assumption) ?_
    case refine_2 => intro w hSw; (try dsimp only at hSw); go_simp; try with_reducible rfl
    try simp only [Act.put, List.setIfInBounds_toArray, List.set_cons_zero, List.set_cons_succ]
    refine wpAnyH_take (i := 9) (oi := ⟨some 84, _, _, _, _, none⟩) (v := ?_) rfl (by kernel_rfl) (by kernel_rfl) (by kernel_rfl) (fun _ _ _ h => h) (Or.inl ⟨by rfl, ?_⟩) (by assumption) ?_
    case refine_2 => intro w hSw; (try dsimp only at hSw); go_simp; try with_reducible rfl
    try simp only [Act.put, List.setIfInBounds_toArray, List.set_cons_zero, List.set_cons_succ]
    refine wpAnyH_take (i := 10) (oi := ⟨some 85, _, _, _, _, none⟩) (v := ?_) rfl (by kernel_rfl) (by kernel_rfl) (by kernel_rfl) (fun _ _ _ h => h) (Or.inl ⟨by rfl, ?_⟩) (by assumption) ?_
    case refine_2 => intro w hSw; (try dsimp only at hSw); go_simp; try with_reducible rfl
    try simp only [Act.put, List.setIfInBounds_toArray, List.set_cons_zero, List.set_cons_succ]
    refine wpAnyH_take (i := 11) (oi := ⟨some 86, _, _, _, _, none⟩) (v := ?_) rfl (by kernel_rfl) (by kernel_rfl) (by kernel_rfl) (fun _ _ _ h => h) (Or.inl ⟨by rfl, ?_⟩) (by assumption) ?_
    case refine_2 => intro w hSw; (try dsimp only at hSw); go_simp; try with_reducible rfl
    try simp only [Act.put, List.setIfInBounds_toArray, List.set_cons_zero, List.set_cons_succ]
    refine wpAnyH_take (i := 12) (oi := ⟨some 87, _, _, _, _, none⟩) (v := ?_) rfl (by kernel_rfl) (by kernel_rfl) (by kernel_rfl) (fun _ _ _ h => h) (Or.inl ⟨by rfl, ?_⟩) (by assumption) ?_
    case refine_2 => intro w hSw; (try dsimp only at hSw); go_simp; try with_reducible rfl
    try simp only [Act.put, List.setIfInBounds_toArray, List.set_cons_zero, List.set_cons_succ]
    refine wpAnyH_take (i := 13) (oi := ⟨some 88, _, _, _, _, none⟩) (v := ?_) rfl (by kernel_rfl) (by kernel_rfl) (by kernel_rfl) (fun _ _ _ h => h) (Or.inl ⟨by rfl, ?_⟩) (by assumption) ?_
    case refine_2 => intro w hSw; (try dsimp only at hSw); go_simp; try with_reducible rfl
    try simp only [Act.put, List.setIfInBounds_toArray, List.set_cons_zero, List.set_cons_succ]
    refine wpAnyH_ready (rs := [8]) (by kernel_rfl) (by simp) ?_
    refine AllReadyH.cons (o := ⟨some 83, _, _, _, _, none⟩) rfl (fun K hK => ?_) AllReadyH.nil
    go_simp
    have HQ := HW1.out W.drew
    refine HQ.mono ?_
    clear HQ
    rintro e w3 ⟨rfl, rfl⟩
    try simp only []
    refine hK.out _ _ (HX0.out) (fun hHeld => ?_)
    clear hK K
    try simp only [Act.put, List.setIfInBounds_toArray, List.set_cons_zero, List.set_cons_succ]
    refine wpAnyH_ready (rs := [14]) (by kernel_rfl) (by simp) ?_
    refine AllReadyH.cons (o := ⟨some 89, _, _, _, _, none⟩) rfl (fun K hK => ?_) AllReadyH.nil
    go_simp
    have HQ := HC1.out W.drew HDd.out.grow
    refine HQ.mono ?_
    clear HQ
    rintro e w3 ⟨rfl, g3⟩
    have HD3 := Lib.hid (HDd.out.step g3)
    have HX3 : Hid ((w3.cell? ⟨w.heap.size, 0, none⟩ = some (.pointer (some ⟨m, 0, none⟩)) ∧ w3.cell? ⟨w.heap.size, 1, none⟩ = some (.int .i64 base) ∧ w3.cell? ⟨w.heap.size, 2, none⟩ = some (.int .i64 size)) ∧ (w3.cell? ⟨w.heap.size + 1, 0, none⟩ = some (.int .i64 pc) ∧ w3.cell? ⟨w.heap.size + 1, 1, none⟩ = some (.int .i64 (r 0)) ∧ w3.cell? ⟨w.heap.size + 1, 2, none⟩ = some (.int .i64 (r 1)) ∧ w3.cell? ⟨w.heap.size + 1, 3, none⟩ = some (.int .i64 (r 2)) ∧ w3.cell? ⟨w.heap.size + 1, 4, none⟩ = some (.int .i64 (r 3)) ∧ w3.cell? ⟨w.heap.size + 1, 5, none⟩ = some (.int .i64 (r 4)) ∧ w3.cell? ⟨w.heap.size + 1, 6, none⟩ = some (.int .i64 (r 5)) ∧ w3.cell? ⟨w.heap.size + 1, 7, none⟩ = some (.int .i64 (r 6)) ∧ w3.cell? ⟨w.heap.size + 1, 8, none⟩ = some (.int .i64 (r 7)) ∧ w3.cell? ⟨w.heap.size + 1, 9, none⟩ = some (.int .i64 md)) ∧ (w3.cell? ⟨w.heap.size + 1 + 1, 0, none⟩ = some (.int .u8 10) ∧ w3.cell? ⟨w.heap.size + 1 + 1, 1, none⟩ = some (.int .i64 (x : Int)) ∧ w3.cell? ⟨w.heap.size + 1 + 1, 2, none⟩ = some (.int .i64 (n : Int))) ∧ w3.cell? ⟨w.heap.size + 1, 1 + n, none⟩ = some (.int .i64 (r n)) ∧ w3.cell? ⟨w.heap.size + 1, 1 + x, none⟩ = some (.int .i64 (r x))) := Lib.hid (Cu.andl HD3.out.args ⟨HD3.out.reg n HNL.out, HD3.out.reg x HXL.out⟩)
    clear g3
    try simp only []
    refine hK.out _ _ (HX3.out) (fun hHeld => ?_)
    clear hK K
    try simp only [Act.put, List.setIfInBounds_toArray, List.set_cons_zero, List.set_cons_succ]
    refine wpAnyH_take (i := 15) (oi := ⟨some 10, _, _, _, _, none⟩) (v := ?_) rfl (by kernel_rfl) (by kernel_rfl) (by kernel_rfl) (fun _ _ _ h => h) (Or.inl ⟨by rfl, ?_⟩) (by assumption) ?_
    case refine_2 => intro w hSw; (try dsimp only at hSw); go_simp; try with_reducible rfl
    try simp only [Act.put, List.setIfInBounds_toArray, List.set_cons_zero, List.set_cons_succ]
    refine wpAnyH_done (by kernel_rfl) ?_ _
    clear HX3 HX0 hHeld
    go_upto_region 27 with (fail)
    obtain ⟨-, ⟨s0, s1, s2, s3, s4, s5, s6, s7, s8, s9⟩, -⟩ := HD3.out.args
    go_wp2_with (go_at_call 45; (with_reducible refine (HBR.out _).mono ?_); rintro e w5 ⟨rfl, g5⟩; have HD5 := Lib.hid (HD3.out.step g5); clear s0 s1 s2 s3 s4 s5 s6 s7 s8 s9 g5; obtain ⟨⟨z0, z1, z2, z3, z4, z5, z6, z7, z8, z9⟩, ⟨y0, y1, y2, y3⟩, ⟨f0, f1, f2, f3, f4, f5, f6, f7, f8, f9⟩, ⟨e0, e1, e2, e3⟩⟩ := HD5.out.free)
    obtain ⟨⟨r0, r1, r2, r3, r4, r5, r6, r7, r8, r9⟩, ⟨u0, u1, u2, u3⟩, G8, G9⟩ := HD5.out.fin0 (.int .i64 pc) (.int .i64 (r 0)) (.int .i64 (r 1)) (.int .i64 (r 2)) (.int .i64 (r 3)) (.int .i64 (r 4)) (.int .i64 (r 5)) (.int .i64 (r 6)) (.int .i64 (r 7)) (.int .i64 3) (.int .i64 5) (.int .i64 0) (.int .i64 0) (.int .i64 6) _ rfl
    refine bodyPost_ret (v := .tuple #[.agg #[.int .i64 pc, .int .i64 (r 0), .int .i64 (r 1), .int .i64 (r 2), .int .i64 (r 3), .int .i64 (r 4), .int .i64 (r 5), .int .i64 (r 6), .int .i64 (r 7), .int .i64 3], .agg #[.int .i64 5, .int .i64 0, .int .i64 0, .int .i64 6]]) (by simp [results, Tryd.results46, go_sem, r0, r1, r2, r3, r4, r5, r6, r7, r8, r9, u0, u1, u2, u3]) rfl ⟨rfl, G9⟩
end Go.Proofs.YthhodadfiipffaaDoor

/- Package cpu: what an instruction does to a view's bytes and a state; do, by contract. -/
namespace Go.Proofs.YthhodadfiipffaaDoor
open Go.RowKit Go.Lib
set_option linter.unusedVariables false
set_option maxRecDepth 8000

/-- What a step leaves: the bytes, the state, what was done. -/
structure Cu.Af where
  v : List UInt8
  pc : Int
  r : Nat → Int
  md : Int
  o1 : Int
  o2 : Int
  o3 : Int
  o4 : Int
def Cu.rd (V : List UInt8) (two : Bool) (k : Nat) : Int := if two then two8 V k else ((V.getD k 0).toNat : Int)
def Cu.wd' (c : Nat) : Nat := if c = 9 ∨ c = 10 then 2 else 1
def Cu.exec (V : List UInt8) (pc : Int) (r : Nat → Int) (c x n : Nat) : Cu.Af :=
  if c = 0 then ⟨V, pc, r, 2, 4, 0, 0, 0⟩
  else if c = 15 then ⟨V, pc + 4, r, 1, 3, 0, 0, 0⟩
  else if c = 14 then ⟨V, pc + 4, r, 0, 2, n, x, 0⟩
  else if c = 11 ∨ c = 12 ∨ c = 13 then ⟨V, if Cu.jm c (r x) (r 0) then n else pc + 4, r, 0, 1, 0, 0, 0⟩
  else if c = 7 ∨ c = 9 then (if (r n).toNat + Cu.wd' c ≤ V.length then ⟨V, pc + 4, Cu.upd r x (Cu.rd V (c = 9) (r n).toNat), 0, 1, 0, 0, 0⟩ else ⟨V, pc, r, 3, 5, 0, 0, 6⟩)
  else if c = 8 ∨ c = 10 then (if (r n).toNat + Cu.wd' c ≤ V.length then ⟨over V (r n).toNat (Cu.bs (c = 10) (r x)), pc + 4, r, 0, 1, 0, 0, 0⟩ else ⟨V, pc, r, 3, 5, 0, 0, 6⟩)
  else ⟨V, pc + 4, Cu.upd r x (Cu.mkV c n (r x) (r n)), 0, 1, 0, 0, 0⟩
section
variable {p V q : List UInt8}
theorem Cu.at_get {k : Nat} (hk : k < V.length) : (p ++ V ++ q).getD (p.length + k) 0 = V.getD k 0 := by
  rw [List.getD_eq_getElem?_getD, List.getD_eq_getElem?_getD, List.append_assoc, List.getElem?_append_right (by omega), Nat.add_sub_cancel_left, List.getElem?_append_left hk]
theorem Cu.at_two {k : Nat} (hk : k + 2 ≤ V.length) : two8 (p ++ V ++ q) (p.length + k) = two8 V k := by
  unfold two8
  rw [Cu.at_get (by omega), Nat.add_assoc, Cu.at_get (by omega)]
theorem Cu.at_over {k : Nat} {bs : List UInt8} (hk : k + bs.length ≤ V.length) : over (p ++ V ++ q) (p.length + k) bs = p ++ over V k bs ++ q := by
  unfold over
  have e1 : (p ++ V ++ q).take (p.length + k) = p ++ V.take k := by
    rw [List.append_assoc, List.take_length_add_append, List.take_append_of_le_length (by omega)]
  have e2 : (p ++ V ++ q).drop (p.length + k + bs.length) = V.drop (k + bs.length) ++ q := by
    rw [List.append_assoc, Nat.add_assoc, List.drop_length_add_append, List.drop_append_of_le_length (by omega)]
  rw [e1, e2]
  simp [List.append_assoc]
theorem Cu.at_in (h : (p ++ V ++ q).length ≤ 16384) : Cu.In (p ++ V ++ q) p.length V.length := ⟨by simp <;> omega, h⟩
end
theorem Cu.over_len' {l bs : List UInt8} {k : Nat} (h : k + bs.length ≤ l.length) : (over l k bs).length = l.length := over_len h
set_option maxHeartbeats 1600000 in
theorem Cu.do_any (w : World) (B m g : Nat) (p V q : List UInt8) (h : MemG w B m g (p ++ V ++ q)) (hl : (p ++ V ++ q).length ≤ 16384) (pc : Int) (hpc : 0 ≤ pc ∧ pc ≤ 16384) (r : Nat → Int) (hr : ∀ i, 0 ≤ r i ∧ r i < 65536) (c x n : Nat) (hm : mayI c x n = true) :
    Calls Tryd.prog 46 #[Cu.vw m p.length V.length, Cu.stV pc r 0, Cu.inV c x n] w fun e w' => e = .returned (.tuple #[Cu.stV (Cu.exec V pc r c x n).pc (Cu.exec V pc r c x n).r (Cu.exec V pc r c x n).md, Cu.outV (Cu.exec V pc r c x n).o1 (Cu.exec V pc r c x n).o2 (Cu.exec V pc r c x n).o3 (Cu.exec V pc r c x n).o4]) ∧ MemG w' B m g (p ++ (Cu.exec V pc r c x n).v ++ q) ∧ w.grownBy w' (some g) := by
  obtain ⟨hc, hx0, hx, hn0, hn⟩ := mayI_facts hm
  have hI : Cu.In (p ++ V ++ q) p.length V.length := Cu.at_in hl
  have hreg : 2 ≤ c ∧ c ≤ 10 → n < 8 := fun h2 => by
    obtain ⟨-, -, h3⟩ := mayI_iff.1 hm
    have e2 : mxN c = 7 := by unfold mxN rgB; simp; omega
    omega
  have hx8 : x < 8 := by omega
  have quiet : ∀ {e : Ending} {w' : World} {A : Prop}, (A ∧ w.grownBy w' none) → A ∧ MemG w' B m g (p ++ V ++ q) ∧ w.grownBy w' (some g) := fun hh => ⟨hh.1, h.grown hh.2, only_any hh.2 _⟩
  unfold Cu.exec
  by_cases h0 : c = 0
  · subst h0
    simp only [if_true]
    exact (Cu.do_stop m p.length V.length pc 0 x n r w).mono fun e w' hh => quiet (e := e) hh
  rw [if_neg h0]
  by_cases h15 : c = 15
  · subst h15
    simp only [if_true]
    exact (Cu.do_rest m p.length V.length pc 0 x n r hpc w).mono fun e w' hh => quiet (e := e) hh
  rw [if_neg h15]
  by_cases h14 : c = 14
  · subst h14
    simp only [if_true]
    exact (Cu.do_call m p.length V.length pc 0 x n r hpc w).mono fun e w' hh => quiet (e := e) hh
  rw [if_neg h14]
  by_cases hj : c = 11 ∨ c = 12 ∨ c = 13
  · simp only [if_pos hj]
    exact (Cu.do_jump m p.length V.length pc 0 c x n r hpc hj hx8 w).mono fun e w' hh => quiet (e := e) hh
  rw [if_neg hj]
  by_cases hrd : c = 7 ∨ c = 9
  · rw [if_pos hrd]
    have hn8 : n < 8 := hreg (by omega)
    have hrn := hr n
    obtain ⟨a, ha⟩ := Int.eq_ofNat_of_zero_le hrn.1
    rw [ha, Int.toNat_natCast]
    by_cases hf : a + Cu.wd' c ≤ V.length
    · simp only [if_pos hf]
      refine (Cu.do_read_ok m p.length V.length pc 0 c x n r hpc hrd hx8 hn8 w (Cu.rd V (c = 9) a) (fun W gW => ?_)).mono fun e w' hh => quiet (e := e) hh
      rw [ha]
      rcases hrd with rfl | rfl
      · have := Cu.read_one W B m _ p.length V.length (h.grown gW).mem hI a (by simpa [Cu.wd'] using hf)
        rw [Cu.at_get (by simp [Cu.wd'] at hf; omega)] at this
        exact this
      · have := Cu.read_two W B m _ p.length V.length (h.grown gW).mem hI a (by simpa [Cu.wd'] using hf)
        rw [Cu.at_two (by simpa [Cu.wd'] using hf)] at this
        exact this
    · simp only [if_neg hf]
      refine (Cu.do_read_no m p.length V.length pc 0 c x n r hpc hrd hx8 hn8 w 0 (fun W gW => ?_)).mono fun e w' hh => quiet (e := e) hh
      rw [ha]
      rcases hrd with rfl | rfl
      · exact Cu.read_no W B m _ p.length V.length (h.grown gW).mem hI a 1 (by simp [Cu.wd'] at hf; omega) (by omega)
      · exact Cu.read_no W B m _ p.length V.length (h.grown gW).mem hI a 2 (by simp [Cu.wd'] at hf; omega) (by omega)
  rw [if_neg hrd]
  by_cases hwr : c = 8 ∨ c = 10
  · rw [if_pos hwr]
    have hn8 : n < 8 := hreg (by omega)
    have hrn := hr n
    obtain ⟨a, ha⟩ := Int.eq_ofNat_of_zero_le hrn.1
    rw [ha, Int.toNat_natCast]
    have hlt : m < w.heap.size ∧ g < w.heap.size := ⟨h.lt.2, h.lt.1⟩
    by_cases hf : a + Cu.wd' c ≤ V.length
    · simp only [if_pos hf]
      refine Cu.do_write_ok m p.length V.length pc 0 c x n r hpc hwr hx8 hn8 w B g (p ++ over V a (Cu.bs (c = 10) (r x)) ++ q) hlt (fun W gW => ?_)
      rw [ha]
      rcases hwr with rfl | rfl
      · have := Cu.write_one W B m g _ p.length V.length (h.grown gW) hI a (by simpa [Cu.wd'] using hf) (r x)
        rw [Cu.at_over (by simp [Cu.wd', Cu.bs] at hf ⊢; omega)] at this
        exact this
      · have := Cu.write_two W B m g _ p.length V.length (h.grown gW) hI a (by simpa [Cu.wd'] using hf) (r x)
        rw [Cu.at_over (by simp [Cu.wd', Cu.bs] at hf ⊢; omega)] at this
        exact this
    · simp only [if_neg hf]
      refine (Cu.do_write_no m p.length V.length pc 0 c x n r hpc hwr hx8 hn8 w (fun W gW => ?_)).mono fun e w' hh => quiet (e := e) hh
      rw [ha]
      rcases hwr with rfl | rfl
      · exact Cu.write_no W B m _ p.length V.length (h.grown gW).mem hI a 1 (by simp [Cu.wd'] at hf; omega) (by omega) _
      · exact Cu.write_no W B m _ p.length V.length (h.grown gW).mem hI a 2 (by simp [Cu.wd'] at hf; omega) (by omega) _
  rw [if_neg hwr]
  exact (Cu.do_made m p.length V.length pc 0 c x n r hpc (by omega) hx8 (by have := fun h2 => hreg h2; omega) hr w).mono fun e w' hh => quiet (e := e) hh
end Go.Proofs.YthhodadfiipffaaDoor
