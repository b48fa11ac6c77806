import Derived.Test.YthhodadfiipffaaDoorZ07
import Derived.Deep.RegionHeld
set_option linter.all false
/- Package cpu: do, what can not be read. -/
namespace Go.Proofs.YthhodadfiipffaaDoor
open Go.RowKit Go.Lib
set_option linter.unusedVariables false
set_option maxRecDepth 8000

set_option maxRecDepth 20000 in
set_option maxHeartbeats 12800000 in
theorem Cu.do_read_no (m : Nat) (base size pc md : Int) (k x n : Nat) (r : Nat → Int) (hpc : 0 ≤ pc ∧ pc ≤ 16384) (hk : k = 7 ∨ k = 9) (hx : x < 8) (hn : n < 8) (w : World) (v : Int) (hc : ∀ W, w.grownBy W none → Calls Tryd.prog 62 #[Cu.vw m base size, .int .i64 (r n), .int .i64 (if k = 9 then 2 else 1)] W fun e w' => e = .returned (.tuple #[.int .i64 v, .int .i64 6]) ∧ W.grownBy w' none) : Calls Tryd.prog 46 #[Cu.vw m base size, Cu.stV pc r md, Cu.inV k x n] w fun e w' => e = .returned (.tuple #[Cu.stV pc r 3, Cu.outV 5 0 0 6]) ∧ w.grownBy w' none := by
  have hw : IntKind.i64.wrap (pc + 4) = pc + 4 := by rw [IntKind.wrap_i64]; omega
  have HC := Lib.hid hc
  have HW := Lib.hid (fun W => Cu.width_any k (by omega) W)
  have HBR := Lib.hid (fun W => Cu.broken_any pc md 6 r W)
  have HXL := Lib.hid hx
  have HNL := Lib.hid hn
  have x1 : (x : Int) < 8 := by omega
  have x2 : (0 : Int) ≤ (x : Int) := by omega
  have x3 : ¬ (x : Int) < 0 := by omega
  have x4 : ¬ (7 : Int) < (x : Int) := by omega
  have y1 : (n : Int) < 8 := by omega
  have y2 : (0 : Int) ≤ (n : Int) := by omega
  have y3 : ¬ (n : Int) < 0 := by omega
  have y4 : ¬ (7 : Int) < (n : Int) := by omega
  obtain ⟨rr, hrr⟩ : ∃ rr, rr = Cu.upd r x v := ⟨_, rfl⟩
  unfold Cu.stV at HBR ⊢
  unfold Cu.stC at HBR ⊢
  unfold Cu.outV at HBR
  unfold Cu.vw at HC
  clear hc
  rcases hk with rfl | rfl
  · have HW1 := Lib.hid (show ∀ W, Calls Tryd.prog 63 #[.int .u8 7] W (fun e w' => e = .returned (.int .i64 1) ∧ W = w') from fun W => HW.out W)
    have HC1 := HC.out
    simp (config := { decide := true }) only [if_true, if_false] at HC1
    replace HC1 := Lib.hid HC1
    clear HC HW
    simp only [Int.cast_ofNat_Int]
    unfold Cu.outV Cu.vw Cu.inV
    go_enter Tryd.func46, Tryd.ntmps46
    go_upto_region 22 with (fail)
    show Code.wp _ _ _ _ (Cu.wd w m base size (Cu.stC pc r md) (Cu.inC 7 x n) (Cu.stC (pc + 4) r md) #[.int .i64 1, .int .i64 0, .int .i64 0, .int .i64 0])
    have HD := Lib.hid (Cu.Dw.new w m base size (Cu.stC pc r md) (Cu.inC 7 x n) (Cu.stC (pc + 4) r md) #[.int .i64 1, .int .i64 0, .int .i64 0, .int .i64 0])
    generalize Cu.wd w m base size (Cu.stC pc r md) (Cu.inC 7 x n) (Cu.stC (pc + 4) r md) #[.int .i64 1, .int .i64 0, .int .i64 0, .int .i64 0] = W at *
    have HDd := Lib.hid (show Cu.Dw _ W.drew _ _ _ _ _ _ _ _ _ _ from HD.out.step (only_drewN (only_refl _ _) 1))
    have HX0 : Hid ((W.drew.cell? ⟨w.heap.size, 0, none⟩ = some (.pointer (some ⟨m, 0, none⟩)) ∧ W.drew.cell? ⟨w.heap.size, 1, none⟩ = some (.int .i64 base) ∧ W.drew.cell? ⟨w.heap.size, 2, none⟩ = some (.int .i64 size)) ∧ (W.drew.cell? ⟨w.heap.size + 1, 0, none⟩ = some (.int .i64 pc) ∧ W.drew.cell? ⟨w.heap.size + 1, 1, none⟩ = some (.int .i64 (r 0)) ∧ W.drew.cell? ⟨w.heap.size + 1, 2, none⟩ = some (.int .i64 (r 1)) ∧ W.drew.cell? ⟨w.heap.size + 1, 3, none⟩ = some (.int .i64 (r 2)) ∧ W.drew.cell? ⟨w.heap.size + 1, 4, none⟩ = some (.int .i64 (r 3)) ∧ W.drew.cell? ⟨w.heap.size + 1, 5, none⟩ = some (.int .i64 (r 4)) ∧ W.drew.cell? ⟨w.heap.size + 1, 6, none⟩ = some (.int .i64 (r 5)) ∧ W.drew.cell? ⟨w.heap.size + 1, 7, none⟩ = some (.int .i64 (r 6)) ∧ W.drew.cell? ⟨w.heap.size + 1, 8, none⟩ = some (.int .i64 (r 7)) ∧ W.drew.cell? ⟨w.heap.size + 1, 9, none⟩ = some (.int .i64 md)) ∧ (W.drew.cell? ⟨w.heap.size + 1 + 1, 0, none⟩ = some (.int .u8 7) ∧ W.drew.cell? ⟨w.heap.size + 1 + 1, 1, none⟩ = some (.int .i64 (x : Int)) ∧ W.drew.cell? ⟨w.heap.size + 1 + 1, 2, none⟩ = some (.int .i64 (n : Int))) ∧ W.drew.cell? ⟨w.heap.size + 1, 1 + n, none⟩ = some (.int .i64 (r n)) ∧ W.drew.cell? ⟨w.heap.size + 1, 1 + x, none⟩ = some (.int .i64 (r x))) := Lib.hid (Cu.andl HDd.out.args ⟨HDd.out.reg n HNL.out, HDd.out.reg x HXL.out⟩)
    refine wp_region_held_drew (S := fun w' => (w'.cell? ⟨w.heap.size, 0, none⟩ = some (.pointer (some ⟨m, 0, none⟩)) ∧ w'.cell? ⟨w.heap.size, 1, none⟩ = some (.int .i64 base) ∧ w'.cell? ⟨w.heap.size, 2, none⟩ = some (.int .i64 size)) ∧ (w'.cell? ⟨w.heap.size + 1, 0, none⟩ = some (.int .i64 pc) ∧ w'.cell? ⟨w.heap.size + 1, 1, none⟩ = some (.int .i64 (r 0)) ∧ w'.cell? ⟨w.heap.size + 1, 2, none⟩ = some (.int .i64 (r 1)) ∧ w'.cell? ⟨w.heap.size + 1, 3, none⟩ = some (.int .i64 (r 2)) ∧ w'.cell? ⟨w.heap.size + 1, 4, none⟩ = some (.int .i64 (r 3)) ∧ w'.cell? ⟨w.heap.size + 1, 5, none⟩ = some (.int .i64 (r 4)) ∧ w'.cell? ⟨w.heap.size + 1, 6, none⟩ = some (.int .i64 (r 5)) ∧ w'.cell? ⟨w.heap.size + 1, 7, none⟩ = some (.int .i64 (r 6)) ∧ w'.cell? ⟨w.heap.size + 1, 8, none⟩ = some (.int .i64 (r 7)) ∧ w'.cell? ⟨w.heap.size + 1, 9, none⟩ = some (.int .i64 md)) ∧ (w'.cell? ⟨w.heap.size + 1 + 1, 0, none⟩ = some (.int .u8 7) ∧ w'.cell? ⟨w.heap.size + 1 + 1, 1, none⟩ = some (.int .i64 (x : Int)) ∧ w'.cell? ⟨w.heap.size + 1 + 1, 2, none⟩ = some (.int .i64 (n : Int))) ∧ w'.cell? ⟨w.heap.size + 1, 1 + n, none⟩ = some (.int .i64 (r n)) ∧ w'.cell? ⟨w.heap.size + 1, 1 + x, none⟩ = some (.int .i64 (r x))) (by kernel_rfl) HX0.out (fun hHeld => ?_)
    refine wpAnyH_take (i := 0) (oi := ⟨some 56, _, _, _, _, none⟩) (v := ?_) rfl (by kernel_rfl) (by kernel_rfl) (by kernel_rfl) (fun _ _ _ h => h) (Or.inl ⟨by rfl, ?_⟩) (by assumption) ?_
    case refine_2 => intro w hSw; (try dsimp only at hSw); go_simp; try with_reducible rfl
    try simp only [Act.put, List.setIfInBounds_toArray, List.set_cons_zero, List.set_cons_succ]
    refine wpAnyH_take (i := 1) (oi := ⟨some 57, _, _, _, _, none⟩) (v := ?_) rfl (by kernel_rfl) (by kernel_rfl) (by kernel_rfl) (fun _ _ _ h => h) (Or.inl ⟨by rfl, ?_⟩) (by assumption) ?_
    case refine_2 => intro w hSw; (try dsimp only at hSw); go_simp; try with_reducible rfl
    try simp only [Act.put, List.setIfInBounds_toArray, List.set_cons_zero, List.set_cons_succ]
    refine wpAnyH_take (i := 2) (oi := ⟨some 58, _, _, _, _, none⟩) (v := ?_) rfl (by kernel_rfl) (by kernel_rfl) (by kernel_rfl) (fun _ _ _ h => h) (Or.inl ⟨by rfl, ?_⟩) (by assumption) ?_
    case refine_2 => intro w hSw; (try dsimp only at hSw); go_simp; try with_reducible rfl
    try simp only [Act.put, List.setIfInBounds_toArray, List.set_cons_zero, List.set_cons_succ]
    refine wpAnyH_take (i := 3) (oi := ⟨some 59, _, _, _, _, none⟩) (v := ?_) rfl (by kernel_rfl) (by kernel_rfl) (by kernel_rfl) (fun _ _ _ h => h) (Or.inl ⟨by rfl, ?_⟩) (by assumption) ?_
    case refine_2 => intro w hSw; (try dsimp only at hSw); go_simp; try with_reducible rfl
    try simp only [Act.put, List.setIfInBounds_toArray, List.set_cons_zero, List.set_cons_succ]
    refine wpAnyH_take (i := 4) (oi := ⟨some 60, _, _, _, _, none⟩) (v := ?_) rfl (by kernel_rfl) (by kernel_rfl) (by kernel_rfl) (fun _ _ _ h => h) (Or.inl ⟨by rfl, ?_⟩) (by assumption) ?_
    case refine_2 => intro w hSw; (try dsimp only at hSw); go_simp; try with_reducible rfl
    try simp only [Act.put, List.setIfInBounds_toArray, List.set_cons_zero, List.set_cons_succ]
    refine wpAnyH_take (i := 5) (oi := ⟨some 61, _, _, _, _, none⟩) (v := ?_) rfl (by kernel_rfl) (by kernel_rfl) (by kernel_rfl) (fun _ _ _ h => h) (Or.inl ⟨by rfl, ?_⟩) (by assumption) ?_
    case refine_2 => intro w hSw; (try dsimp only at hSw); go_simp; try with_reducible rfl
    try simp only [Act.put, List.setIfInBounds_toArray, List.set_cons_zero, List.set_cons_succ]
    refine wpAnyH_take (i := 6) (oi := ⟨some 62, _, _, _, _, none⟩) (v := ?_) rfl (by kernel_rfl) (by kernel_rfl) (by kernel_rfl) (fun _ _ _ h => h) (Or.inl ⟨by rfl, ?_⟩) (by assumption) ?_
    case refine_2 => intro w hSw; (try dsimp only at hSw); go_simp; try with_reducible rfl
    try simp only [Act.put, List.setIfInBounds_toArray, List.set_cons_zero, List.set_cons_succ]
    refine wpAnyH_take (i := 7) (oi := ⟨some 63, _, _, _, _, none⟩) (v := ?_) rfl (by kernel_rfl) (by kernel_rfl) (by kernel_rfl) (fun _ _ _ h => h) (Or.inl ⟨by rfl, ?_⟩) (by assumption) ?_
    case refine_2 => intro w hSw; (try dsimp only at hSw); go_simp; try with_reducible rfl
    try simp only [Act.put, List.setIfInBounds_toArray, List.set_cons_zero, List.set_cons_succ]
    refine wpAnyH_take (i := 8) (oi := ⟨some 64, _, _, _, _, none⟩) (v := ?_) rfl (by kernel_rfl) (by kernel_rfl) (by kernel_rfl) (fun _ _ _ h => h) (Or.inl ⟨by rfl, ?_⟩) (by assumption) ?_
    case refine_2 => intro w hSw; (try dsimp only at hSw); go_simp; try with_reducible rfl
    try simp only [Act.put, List.setIfInBounds_toArray, List.set_cons_zero, List.set_cons_succ]
    refine wpAnyH_take (i := 9) (oi := ⟨some 65, _, _, _, _, none⟩) (v := ?_) rfl (by kernel_rfl) (by kernel_rfl) (by kernel_rfl) (fun _ _ _ h => h) (Or.inl ⟨by rfl, ?_⟩) (by assumption) ?_
    case refine_2 => intro w hSw; (try dsimp only at hSw); go_simp; try with_reducible rfl
    try simp only [Act.put, List.setIfInBounds_toArray, List.set_cons_zero, List.set_cons_succ]
    refine wpAnyH_take (i := 15) (oi := ⟨some 70, _, _, _, _, none⟩) (v := ?_) rfl (by kernel_rfl) (by kernel_rfl) (by kernel_rfl) (fun _ _ _ h => h) (Or.inl ⟨by rfl, ?_⟩) (by assumption) ?_
    case refine_2 => intro w hSw; (try dsimp only at hSw); go_simp; try with_reducible rfl
    try simp only [Act.put, List.setIfInBounds_toArray, List.set_cons_zero, List.set_cons_succ]
    refine wpAnyH_ready (rs := [10]) (by kernel_rfl) (by simp) ?_
    refine AllReadyH.cons (o := ⟨some 66, _, _, _, _, none⟩) rfl (fun K hK => ?_) AllReadyH.nil
    go_simp
    have HQ := HW1.out W.drew
    refine HQ.mono ?_
    clear HQ
    rintro e w3 ⟨rfl, rfl⟩
    try simp only []
    refine hK.out _ _ (HX0.out) (fun hHeld => ?_)
    clear hK K
    try simp only [Act.put, List.setIfInBounds_toArray, List.set_cons_zero, List.set_cons_succ]
    refine wpAnyH_ready (rs := [11]) (by kernel_rfl) (by simp) ?_
    refine AllReadyH.cons (o := ⟨some 67, _, _, _, _, none⟩) rfl (fun K hK => ?_) AllReadyH.nil
    go_simp
    have HQ := HC1.out W.drew HDd.out.grow
    refine HQ.mono ?_
    clear HQ
    rintro e w3 ⟨rfl, g3⟩
    have HD3 := Lib.hid (HDd.out.step g3)
    have HX3 : Hid ((w3.cell? ⟨w.heap.size, 0, none⟩ = some (.pointer (some ⟨m, 0, none⟩)) ∧ w3.cell? ⟨w.heap.size, 1, none⟩ = some (.int .i64 base) ∧ w3.cell? ⟨w.heap.size, 2, none⟩ = some (.int .i64 size)) ∧ (w3.cell? ⟨w.heap.size + 1, 0, none⟩ = some (.int .i64 pc) ∧ w3.cell? ⟨w.heap.size + 1, 1, none⟩ = some (.int .i64 (r 0)) ∧ w3.cell? ⟨w.heap.size + 1, 2, none⟩ = some (.int .i64 (r 1)) ∧ w3.cell? ⟨w.heap.size + 1, 3, none⟩ = some (.int .i64 (r 2)) ∧ w3.cell? ⟨w.heap.size + 1, 4, none⟩ = some (.int .i64 (r 3)) ∧ w3.cell? ⟨w.heap.size + 1, 5, none⟩ = some (.int .i64 (r 4)) ∧ w3.cell? ⟨w.heap.size + 1, 6, none⟩ = some (.int .i64 (r 5)) ∧ w3.cell? ⟨w.heap.size + 1, 7, none⟩ = some (.int .i64 (r 6)) ∧ w3.cell? ⟨w.heap.size + 1, 8, none⟩ = some (.int .i64 (r 7)) ∧ w3.cell? ⟨w.heap.size + 1, 9, none⟩ = some (.int .i64 md)) ∧ (w3.cell? ⟨w.heap.size + 1 + 1, 0, none⟩ = some (.int .u8 7) ∧ w3.cell? ⟨w.heap.size + 1 + 1, 1, none⟩ = some (.int .i64 (x : Int)) ∧ w3.cell? ⟨w.heap.size + 1 + 1, 2, none⟩ = some (.int .i64 (n : Int))) ∧ w3.cell? ⟨w.heap.size + 1, 1 + n, none⟩ = some (.int .i64 (r n)) ∧ w3.cell? ⟨w.heap.size + 1, 1 + x, none⟩ = some (.int .i64 (r x))) := Lib.hid (Cu.andl HD3.out.args ⟨HD3.out.reg n HNL.out, HD3.out.reg x HXL.out⟩)
    clear g3
    try simp only []
    refine hK.out _ _ (HX3.out) (fun hHeld => ?_)
    clear hK K
    try simp only [Act.put, List.setIfInBounds_toArray, List.set_cons_zero, List.set_cons_succ]
    refine wpAnyH_take (i := 12) (oi := ⟨some 55, _, _, _, _, none⟩) (v := ?_) rfl (by kernel_rfl) (by kernel_rfl) (by kernel_rfl) (fun _ _ _ h => h) (Or.inl ⟨by rfl, ?_⟩) (by assumption) ?_
    case refine_2 => intro w hSw; (try dsimp only at hSw); go_simp; try with_reducible rfl
    try simp only [Act.put, List.setIfInBounds_toArray, List.set_cons_zero, List.set_cons_succ]
    refine wpAnyH_take (i := 13) (oi := ⟨some 68, _, _, _, _, none⟩) (v := ?_) rfl (by kernel_rfl) (by kernel_rfl) (by kernel_rfl) (fun _ _ _ h => h) (Or.inl ⟨by rfl, ?_⟩) (by assumption) ?_
    case refine_2 => intro w hSw; (try dsimp only at hSw); go_simp; try with_reducible rfl
    try simp only [Act.put, List.setIfInBounds_toArray, List.set_cons_zero, List.set_cons_succ]
    refine wpAnyH_take (i := 14) (oi := ⟨some 69, _, _, _, _, none⟩) (v := ?_) rfl (by kernel_rfl) (by kernel_rfl) (by kernel_rfl) (fun _ _ _ h => h) (Or.inl ⟨by rfl, ?_⟩) (by assumption) ?_
    case refine_2 => intro w hSw; (try dsimp only at hSw); go_simp; try with_reducible rfl
    try simp only [Act.put, List.setIfInBounds_toArray, List.set_cons_zero, List.set_cons_succ]
    refine wpAnyH_take (i := 16) (oi := ⟨some 71, _, _, _, _, none⟩) (v := ?_) rfl (by kernel_rfl) (by kernel_rfl) (by kernel_rfl) (fun _ _ _ h => h) (Or.inl ⟨by rfl, ?_⟩) (by assumption) ?_
    case refine_2 => intro w hSw; (try dsimp only at hSw); go_simp; try with_reducible rfl
    try simp only [Act.put, List.setIfInBounds_toArray, List.set_cons_zero, List.set_cons_succ]
    have ft := HD3.out.tb.free (1 + x)
    have ct := (Cu.st_cells HD3.out.tb).2.2 x HXL.out
    have HD4 := Lib.hid (HD3.out.putT (1 + x) (.int .i64 v))
    rw [Cu.stC_reg _ _ _ _ HXL.out] at HD4
    have HX4 : Hid (((w3.setCell ⟨w.heap.size + 1 + 1 + 1 + 1 + 1, 1 + x, none⟩ (.int .i64 v)).cell? ⟨w.heap.size, 0, none⟩ = some (.pointer (some ⟨m, 0, none⟩)) ∧ (w3.setCell ⟨w.heap.size + 1 + 1 + 1 + 1 + 1, 1 + x, none⟩ (.int .i64 v)).cell? ⟨w.heap.size, 1, none⟩ = some (.int .i64 base) ∧ (w3.setCell ⟨w.heap.size + 1 + 1 + 1 + 1 + 1, 1 + x, none⟩ (.int .i64 v)).cell? ⟨w.heap.size, 2, none⟩ = some (.int .i64 size)) ∧ ((w3.setCell ⟨w.heap.size + 1 + 1 + 1 + 1 + 1, 1 + x, none⟩ (.int .i64 v)).cell? ⟨w.heap.size + 1, 0, none⟩ = some (.int .i64 pc) ∧ (w3.setCell ⟨w.heap.size + 1 + 1 + 1 + 1 + 1, 1 + x, none⟩ (.int .i64 v)).cell? ⟨w.heap.size + 1, 1, none⟩ = some (.int .i64 (r 0)) ∧ (w3.setCell ⟨w.heap.size + 1 + 1 + 1 + 1 + 1, 1 + x, none⟩ (.int .i64 v)).cell? ⟨w.heap.size + 1, 2, none⟩ = some (.int .i64 (r 1)) ∧ (w3.setCell ⟨w.heap.size + 1 + 1 + 1 + 1 + 1, 1 + x, none⟩ (.int .i64 v)).cell? ⟨w.heap.size + 1, 3, none⟩ = some (.int .i64 (r 2)) ∧ (w3.setCell ⟨w.heap.size + 1 + 1 + 1 + 1 + 1, 1 + x, none⟩ (.int .i64 v)).cell? ⟨w.heap.size + 1, 4, none⟩ = some (.int .i64 (r 3)) ∧ (w3.setCell ⟨w.heap.size + 1 + 1 + 1 + 1 + 1, 1 + x, none⟩ (.int .i64 v)).cell? ⟨w.heap.size + 1, 5, none⟩ = some (.int .i64 (r 4)) ∧ (w3.setCell ⟨w.heap.size + 1 + 1 + 1 + 1 + 1, 1 + x, none⟩ (.int .i64 v)).cell? ⟨w.heap.size + 1, 6, none⟩ = some (.int .i64 (r 5)) ∧ (w3.setCell ⟨w.heap.size + 1 + 1 + 1 + 1 + 1, 1 + x, none⟩ (.int .i64 v)).cell? ⟨w.heap.size + 1, 7, none⟩ = some (.int .i64 (r 6)) ∧ (w3.setCell ⟨w.heap.size + 1 + 1 + 1 + 1 + 1, 1 + x, none⟩ (.int .i64 v)).cell? ⟨w.heap.size + 1, 8, none⟩ = some (.int .i64 (r 7)) ∧ (w3.setCell ⟨w.heap.size + 1 + 1 + 1 + 1 + 1, 1 + x, none⟩ (.int .i64 v)).cell? ⟨w.heap.size + 1, 9, none⟩ = some (.int .i64 md)) ∧ ((w3.setCell ⟨w.heap.size + 1 + 1 + 1 + 1 + 1, 1 + x, none⟩ (.int .i64 v)).cell? ⟨w.heap.size + 1 + 1, 0, none⟩ = some (.int .u8 7) ∧ (w3.setCell ⟨w.heap.size + 1 + 1 + 1 + 1 + 1, 1 + x, none⟩ (.int .i64 v)).cell? ⟨w.heap.size + 1 + 1, 1, none⟩ = some (.int .i64 (x : Int)) ∧ (w3.setCell ⟨w.heap.size + 1 + 1 + 1 + 1 + 1, 1 + x, none⟩ (.int .i64 v)).cell? ⟨w.heap.size + 1 + 1, 2, none⟩ = some (.int .i64 (n : Int))) ∧ (w3.setCell ⟨w.heap.size + 1 + 1 + 1 + 1 + 1, 1 + x, none⟩ (.int .i64 v)).cell? ⟨w.heap.size + 1, 1 + n, none⟩ = some (.int .i64 (r n)) ∧ (w3.setCell ⟨w.heap.size + 1 + 1 + 1 + 1 + 1, 1 + x, none⟩ (.int .i64 v)).cell? ⟨w.heap.size + 1, 1 + x, none⟩ = some (.int .i64 (r x))) := Lib.hid (Cu.andl HD4.out.args ⟨HD4.out.reg n HNL.out, HD4.out.reg x HXL.out⟩)
    refine wpAnyH_ready (rs := [17]) (by kernel_rfl) (by simp) ?_
    refine AllReadyH.cons (o := ⟨none, _, _, _, _, none⟩) rfl (fun K hK => ?_) AllReadyH.nil
    go_simp
    refine hK.out _ _ (HX4.out) (fun hHeld => ?_)
    clear hK K
    try simp only [Act.put, List.setIfInBounds_toArray, List.set_cons_zero, List.set_cons_succ]
    refine wpAnyH_take (i := 18) (oi := ⟨some 10, _, _, _, _, none⟩) (v := ?_) rfl (by kernel_rfl) (by kernel_rfl) (by kernel_rfl) (fun _ _ _ h => h) (Or.inl ⟨by rfl, ?_⟩) (by assumption) ?_
    case refine_2 => intro w hSw; (try dsimp only at hSw); go_simp; try with_reducible rfl
    try simp only [Act.put, List.setIfInBounds_toArray, List.set_cons_zero, List.set_cons_succ]
    refine wpAnyH_done (by kernel_rfl) ?_ _
    rw [← hrr] at HD4
    obtain ⟨w4, hw4⟩ : ∃ w4, w4 = w3.setCell ⟨w.heap.size + 1 + 1 + 1 + 1 + 1, 1 + x, none⟩ (.int .i64 v) := ⟨_, rfl⟩
    rw [← hw4] at HD4 ⊢
    clear hw4 ft ct HX4 HX3 HX0 hHeld hrr
    go_upto_region 27 with (fail)
    obtain ⟨-, ⟨s0, s1, s2, s3, s4, s5, s6, s7, s8, s9⟩, -⟩ := HD4.out.args
    go_wp2_with (go_at_call 45; (with_reducible refine (HBR.out _).mono ?_); rintro e w5 ⟨rfl, g5⟩; have HD5 := Lib.hid (HD4.out.step g5); clear s0 s1 s2 s3 s4 s5 s6 s7 s8 s9 g5; obtain ⟨⟨z0, z1, z2, z3, z4, z5, z6, z7, z8, z9⟩, ⟨y0, y1, y2, y3⟩, ⟨f0, f1, f2, f3, f4, f5, f6, f7, f8, f9⟩, ⟨e0, e1, e2, e3⟩⟩ := HD5.out.free)
    obtain ⟨⟨r0, r1, r2, r3, r4, r5, r6, r7, r8, r9⟩, ⟨u0, u1, u2, u3⟩, G8, G9⟩ := HD5.out.fin0 (.int .i64 pc) (.int .i64 (r 0)) (.int .i64 (r 1)) (.int .i64 (r 2)) (.int .i64 (r 3)) (.int .i64 (r 4)) (.int .i64 (r 5)) (.int .i64 (r 6)) (.int .i64 (r 7)) (.int .i64 3) (.int .i64 5) (.int .i64 0) (.int .i64 0) (.int .i64 6) _ rfl
    refine bodyPost_ret (v := .tuple #[.agg #[.int .i64 pc, .int .i64 (r 0), .int .i64 (r 1), .int .i64 (r 2), .int .i64 (r 3), .int .i64 (r 4), .int .i64 (r 5), .int .i64 (r 6), .int .i64 (r 7), .int .i64 3], .agg #[.int .i64 5, .int .i64 0, .int .i64 0, .int .i64 6]]) (by simp [results, Tryd.results46, go_sem, r0, r1, r2, r3, r4, r5, r6, r7, r8, r9, u0, u1, u2, u3]) rfl ⟨rfl, G9⟩
  · have HW1 := Lib.hid (show ∀ W, Calls Tryd.prog 63 #[.int .u8 9] W (fun e w' => e = .returned (.int .i64 2) ∧ W = w') from fun W => HW.out W)
    have HC1 := HC.out
    simp (config := { decide := true }) only [if_true, if_false] at HC1
    replace HC1 := Lib.hid HC1
    clear HC HW
    simp only [Int.cast_ofNat_Int]
    unfold Cu.outV Cu.vw Cu.inV
    go_enter Tryd.func46, Tryd.ntmps46
    go_upto_region 22 with (fail)
    show Code.wp _ _ _ _ (Cu.wd w m base size (Cu.stC pc r md) (Cu.inC 9 x n) (Cu.stC (pc + 4) r md) #[.int .i64 1, .int .i64 0, .int .i64 0, .int .i64 0])
    have HD := Lib.hid (Cu.Dw.new w m base size (Cu.stC pc r md) (Cu.inC 9 x n) (Cu.stC (pc + 4) r md) #[.int .i64 1, .int .i64 0, .int .i64 0, .int .i64 0])
    generalize Cu.wd w m base size (Cu.stC pc r md) (Cu.inC 9 x n) (Cu.stC (pc + 4) r md) #[.int .i64 1, .int .i64 0, .int .i64 0, .int .i64 0] = W at *
    have HDd := Lib.hid (show Cu.Dw _ W.drew _ _ _ _ _ _ _ _ _ _ from HD.out.step (only_drewN (only_refl _ _) 1))
    have HX0 : Hid ((W.drew.cell? ⟨w.heap.size, 0, none⟩ = some (.pointer (some ⟨m, 0, none⟩)) ∧ W.drew.cell? ⟨w.heap.size, 1, none⟩ = some (.int .i64 base) ∧ W.drew.cell? ⟨w.heap.size, 2, none⟩ = some (.int .i64 size)) ∧ (W.drew.cell? ⟨w.heap.size + 1, 0, none⟩ = some (.int .i64 pc) ∧ W.drew.cell? ⟨w.heap.size + 1, 1, none⟩ = some (.int .i64 (r 0)) ∧ W.drew.cell? ⟨w.heap.size + 1, 2, none⟩ = some (.int .i64 (r 1)) ∧ W.drew.cell? ⟨w.heap.size + 1, 3, none⟩ = some (.int .i64 (r 2)) ∧ W.drew.cell? ⟨w.heap.size + 1, 4, none⟩ = some (.int .i64 (r 3)) ∧ W.drew.cell? ⟨w.heap.size + 1, 5, none⟩ = some (.int .i64 (r 4)) ∧ W.drew.cell? ⟨w.heap.size + 1, 6, none⟩ = some (.int .i64 (r 5)) ∧ W.drew.cell? ⟨w.heap.size + 1, 7, none⟩ = some (.int .i64 (r 6)) ∧ W.drew.cell? ⟨w.heap.size + 1, 8, none⟩ = some (.int .i64 (r 7)) ∧ W.drew.cell? ⟨w.heap.size + 1, 9, none⟩ = some (.int .i64 md)) ∧ (W.drew.cell? ⟨w.heap.size + 1 + 1, 0, none⟩ = some (.int .u8 9) ∧ W.drew.cell? ⟨w.heap.size + 1 + 1, 1, none⟩ = some (.int .i64 (x : Int)) ∧ W.drew.cell? ⟨w.heap.size + 1 + 1, 2, none⟩ = some (.int .i64 (n : Int))) ∧ W.drew.cell? ⟨w.heap.size + 1, 1 + n, none⟩ = some (.int .i64 (r n)) ∧ W.drew.cell? ⟨w.heap.size + 1, 1 + x, none⟩ = some (.int .i64 (r x))) := Lib.hid (Cu.andl HDd.out.args ⟨HDd.out.reg n HNL.out, HDd.out.reg x HXL.out⟩)
    refine wp_region_held_drew (S := fun w' => (w'.cell? ⟨w.heap.size, 0, none⟩ = some (.pointer (some ⟨m, 0, none⟩)) ∧ w'.cell? ⟨w.heap.size, 1, none⟩ = some (.int .i64 base) ∧ w'.cell? ⟨w.heap.size, 2, none⟩ = some (.int .i64 size)) ∧ (w'.cell? ⟨w.heap.size + 1, 0, none⟩ = some (.int .i64 pc) ∧ w'.cell? ⟨w.heap.size + 1, 1, none⟩ = some (.int .i64 (r 0)) ∧ w'.cell? ⟨w.heap.size + 1, 2, none⟩ = some (.int .i64 (r 1)) ∧ w'.cell? ⟨w.heap.size + 1, 3, none⟩ = some (.int .i64 (r 2)) ∧ w'.cell? ⟨w.heap.size + 1, 4, none⟩ = some (.int .i64 (r 3)) ∧ w'.cell? ⟨w.heap.size + 1, 5, none⟩ = some (.int .i64 (r 4)) ∧ w'.cell? ⟨w.heap.size + 1, 6, none⟩ = some (.int .i64 (r 5)) ∧ w'.cell? ⟨w.heap.size + 1, 7, none⟩ = some (.int .i64 (r 6)) ∧ w'.cell? ⟨w.heap.size + 1, 8, none⟩ = some (.int .i64 (r 7)) ∧ w'.cell? ⟨w.heap.size + 1, 9, none⟩ = some (.int .i64 md)) ∧ (w'.cell? ⟨w.heap.size + 1 + 1, 0, none⟩ = some (.int .u8 9) ∧ w'.cell? ⟨w.heap.size + 1 + 1, 1, none⟩ = some (.int .i64 (x : Int)) ∧ w'.cell? ⟨w.heap.size + 1 + 1, 2, none⟩ = some (.int .i64 (n : Int))) ∧ w'.cell? ⟨w.heap.size + 1, 1 + n, none⟩ = some (.int .i64 (r n)) ∧ w'.cell? ⟨w.heap.size + 1, 1 + x, none⟩ = some (.int .i64 (r x))) (by kernel_rfl) HX0.out (fun hHeld => ?_)
    refine wpAnyH_take (i := 0) (oi := ⟨some 56, _, _, _, _, none⟩) (v := ?_) rfl (by kernel_rfl) (by kernel_rfl) (by kernel_rfl) (fun _ _ _ h => h) (Or.inl ⟨by rfl, ?_⟩) (by assumption) ?_
    case refine_2 => intro w hSw; (try dsimp only at hSw); go_simp; try with_reducible rfl
    try simp only [Act.put, List.setIfInBounds_toArray, List.set_cons_zero, List.set_cons_succ]
    refine wpAnyH_take (i := 1) (oi := ⟨some 57, _, _, _, _, none⟩) (v := ?_) rfl (by kernel_rfl) (by kernel_rfl) (by kernel_rfl) (fun _ _ _ h => h) (Or.inl ⟨by rfl, ?_⟩) (by assumption) ?_
    case refine_2 => intro w hSw; (try dsimp only at hSw); go_simp; try with_reducible rfl
    try simp only [Act.put, List.setIfInBounds_toArray, List.set_cons_zero, List.set_cons_succ]
    refine wpAnyH_take (i := 2) (oi := ⟨some 58, _, _, _, _, none⟩) (v := ?_) rfl (by kernel_rfl) (by kernel_rfl) (by kernel_rfl) (fun _ _ _ h => h) (Or.inl ⟨by rfl, ?_⟩) (by assumption) ?_
    case refine_2 => intro w hSw; (try dsimp only at hSw); go_simp; try with_reducible rfl
    try simp only [Act.put, List.setIfInBounds_toArray, List.set_cons_zero, List.set_cons_succ]
    refine wpAnyH_take (i := 3) (oi := ⟨some 59, _, _, _, _, none⟩) (v := ?_) rfl (by kernel_rfl) (by kernel_rfl) (by kernel_rfl) (fun _ _ _ h => h) (Or.inl ⟨by rfl, ?_⟩) (by assumption) ?_
    case refine_2 => intro w hSw; (try dsimp only at hSw); go_simp; try with_reducible rfl
    try simp only [Act.put, List.setIfInBounds_toArray, List.set_cons_zero, List.set_cons_succ]
    refine wpAnyH_take (i := 4) (oi := ⟨some 60, _, _, _, _, none⟩) (v := ?_) rfl (by kernel_rfl) (by kernel_rfl) (by kernel_rfl) (fun _ _ _ h => h) (Or.inl ⟨by rfl, ?_⟩) (by assumption) ?_
    case refine_2 => intro w hSw; (try dsimp only at hSw); go_simp; try with_reducible rfl
    try simp only [Act.put, List.setIfInBounds_toArray, List.set_cons_zero, List.set_cons_succ]
    refine wpAnyH_take (i := 5) (oi := ⟨some 61, _, _, _, _, none⟩) (v := ?_) rfl (by kernel_rfl) (by kernel_rfl) (by kernel_rfl) (fun _ _ _ h => h) (Or.inl ⟨by rfl, ?_⟩) (by assumption) ?_
    case refine_2 => intro w hSw; (try dsimp only at hSw); go_simp; try with_reducible rfl
    try simp only [Act.put, List.setIfInBounds_toArray, List.set_cons_zero, List.set_cons_succ]
    refine wpAnyH_take (i := 6) (oi := ⟨some 62, _, _, _, _, none⟩) (v := ?_) rfl (by kernel_rfl) (by kernel_rfl) (by kernel_rfl) (fun _ _ _ h => h) (Or.inl ⟨by rfl, ?_⟩) (by assumption) ?_
    case refine_2 => intro w hSw; (try dsimp only at hSw); go_simp; try with_reducible rfl
    try simp only [Act.put, List.setIfInBounds_toArray, List.set_cons_zero, List.set_cons_succ]
    refine wpAnyH_take (i := 7) (oi := ⟨some 63, _, _, _, _, none⟩) (v := ?_) rfl (by kernel_rfl) (by kernel_rfl) (by kernel_rfl) (fun _ _ _ h => h) (Or.inl ⟨by rfl, ?_⟩) (by assumption) ?_
    case refine_2 => intro w hSw; (try dsimp only at hSw); go_simp; try with_reducible rfl
    try simp only [Act.put, List.setIfInBounds_toArray, List.set_cons_zero, List.set_cons_succ]
    refine wpAnyH_take (i := 8) (oi := ⟨some 64, _, _, _, _, none⟩) (v := ?_) rfl (by kernel_rfl) (by kernel_rfl) (by kernel_rfl) (fun _ _ _ h => h) (Or.inl ⟨by rfl, ?_⟩) (by assumption) ?_
    case refine_2 => intro w hSw; (try dsimp only at hSw); go_simp; try with_reducible rfl
    try simp only [Act.put, List.setIfInBounds_toArray, List.set_cons_zero, List.set_cons_succ]
    refine wpAnyH_take (i := 9) (oi := ⟨some 65, _, _, _, _, none⟩) (v := ?_) rfl (by kernel_rfl) (by kernel_rfl) (by kernel_rfl) (fun _ _ _ h => h) (Or.inl ⟨by rfl, ?_⟩) (by assumption) ?_
    case refine_2 => intro w hSw; (try dsimp only at hSw); go_simp; try with_reducible rfl
    try simp only [Act.put, List.setIfInBounds_toArray, List.set_cons_zero, List.set_cons_succ]
    refine wpAnyH_take (i := 15) (oi := ⟨some 70, _, _, _, _, none⟩) (v := ?_) rfl (by kernel_rfl) (by kernel_rfl) (by kernel_rfl) (fun _ _ _ h => h) (Or.inl ⟨by rfl, ?_⟩) (by assumption) ?_
    case refine_2 => intro w hSw; (try dsimp only at hSw); go_simp; try with_reducible rfl
    try simp only [Act.put, List.setIfInBounds_toArray, List.set_cons_zero, List.set_cons_succ]
    refine wpAnyH_ready (rs := [10]) (by kernel_rfl) (by simp) ?_
    refine AllReadyH.cons (o := ⟨some 66, _, _, _, _, none⟩) rfl (fun K hK => ?_) AllReadyH.nil
    go_simp
    have HQ := HW1.out W.drew
    refine HQ.mono ?_
    clear HQ
    rintro e w3 ⟨rfl, rfl⟩
    try simp only []
    refine hK.out _ _ (HX0.out) (fun hHeld => ?_)
    clear hK K
    try simp only [Act.put, List.setIfInBounds_toArray, List.set_cons_zero, List.set_cons_succ]
    refine wpAnyH_ready (rs := [11]) (by kernel_rfl) (by simp) ?_
    refine AllReadyH.cons (o := ⟨some 67, _, _, _, _, none⟩) rfl (fun K hK => ?_) AllReadyH.nil
    go_simp
    have HQ := HC1.out W.drew HDd.out.grow
    refine HQ.mono ?_
    clear HQ
    rintro e w3 ⟨rfl, g3⟩
    have HD3 := Lib.hid (HDd.out.step g3)
    have HX3 : Hid ((w3.cell? ⟨w.heap.size, 0, none⟩ = some (.pointer (some ⟨m, 0, none⟩)) ∧ w3.cell? ⟨w.heap.size, 1, none⟩ = some (.int .i64 base) ∧ w3.cell? ⟨w.heap.size, 2, none⟩ = some (.int .i64 size)) ∧ (w3.cell? ⟨w.heap.size + 1, 0, none⟩ = some (.int .i64 pc) ∧ w3.cell? ⟨w.heap.size + 1, 1, none⟩ = some (.int .i64 (r 0)) ∧ w3.cell? ⟨w.heap.size + 1, 2, none⟩ = some (.int .i64 (r 1)) ∧ w3.cell? ⟨w.heap.size + 1, 3, none⟩ = some (.int .i64 (r 2)) ∧ w3.cell? ⟨w.heap.size + 1, 4, none⟩ = some (.int .i64 (r 3)) ∧ w3.cell? ⟨w.heap.size + 1, 5, none⟩ = some (.int .i64 (r 4)) ∧ w3.cell? ⟨w.heap.size + 1, 6, none⟩ = some (.int .i64 (r 5)) ∧ w3.cell? ⟨w.heap.size + 1, 7, none⟩ = some (.int .i64 (r 6)) ∧ w3.cell? ⟨w.heap.size + 1, 8, none⟩ = some (.int .i64 (r 7)) ∧ w3.cell? ⟨w.heap.size + 1, 9, none⟩ = some (.int .i64 md)) ∧ (w3.cell? ⟨w.heap.size + 1 + 1, 0, none⟩ = some (.int .u8 9) ∧ w3.cell? ⟨w.heap.size + 1 + 1, 1, none⟩ = some (.int .i64 (x : Int)) ∧ w3.cell? ⟨w.heap.size + 1 + 1, 2, none⟩ = some (.int .i64 (n : Int))) ∧ w3.cell? ⟨w.heap.size + 1, 1 + n, none⟩ = some (.int .i64 (r n)) ∧ w3.cell? ⟨w.heap.size + 1, 1 + x, none⟩ = some (.int .i64 (r x))) := Lib.hid (Cu.andl HD3.out.args ⟨HD3.out.reg n HNL.out, HD3.out.reg x HXL.out⟩)
    clear g3
    try simp only []
    refine hK.out _ _ (HX3.out) (fun hHeld => ?_)
    clear hK K
    try simp only [Act.put, List.setIfInBounds_toArray, List.set_cons_zero, List.set_cons_succ]
    refine wpAnyH_take (i := 12) (oi := ⟨some 55, _, _, _, _, none⟩) (v := ?_) rfl (by kernel_rfl) (by kernel_rfl) (by kernel_rfl) (fun _ _ _ h => h) (Or.inl ⟨by rfl, ?_⟩) (by assumption) ?_
    case refine_2 => intro w hSw; (try dsimp only at hSw); go_simp; try with_reducible rfl
    try simp only [Act.put, List.setIfInBounds_toArray, List.set_cons_zero, List.set_cons_succ]
    refine wpAnyH_take (i := 13) (oi := ⟨some 68, _, _, _, _, none⟩) (v := ?_) rfl (by kernel_rfl) (by kernel_rfl) (by kernel_rfl) (fun _ _ _ h => h) (Or.inl ⟨by rfl, ?_⟩) (by assumption) ?_
    case refine_2 => intro w hSw; (try dsimp only at hSw); go_simp; try with_reducible rfl
    try simp only [Act.put, List.setIfInBounds_toArray, List.set_cons_zero, List.set_cons_succ]
    refine wpAnyH_take (i := 14) (oi := ⟨some 69, _, _, _, _, none⟩) (v := ?_) rfl (by kernel_rfl) (by kernel_rfl) (by kernel_rfl) (fun _ _ _ h => h) (Or.inl ⟨by rfl, ?_⟩) (by assumption) ?_
    case refine_2 => intro w hSw; (try dsimp only at hSw); go_simp; try with_reducible rfl
    try simp only [Act.put, List.setIfInBounds_toArray, List.set_cons_zero, List.set_cons_succ]
    refine wpAnyH_take (i := 16) (oi := ⟨some 71, _, _, _, _, none⟩) (v := ?_) rfl (by kernel_rfl) (by kernel_rfl) (by kernel_rfl) (fun _ _ _ h => h) (Or.inl ⟨by rfl, ?_⟩) (by assumption) ?_
    case refine_2 => intro w hSw; (try dsimp only at hSw); go_simp; try with_reducible rfl
    try simp only [Act.put, List.setIfInBounds_toArray, List.set_cons_zero, List.set_cons_succ]
    have ft := HD3.out.tb.free (1 + x)
    have ct := (Cu.st_cells HD3.out.tb).2.2 x HXL.out
    have HD4 := Lib.hid (HD3.out.putT (1 + x) (.int .i64 v))
    rw [Cu.stC_reg _ _ _ _ HXL.out] at HD4
    have HX4 : Hid (((w3.setCell ⟨w.heap.size + 1 + 1 + 1 + 1 + 1, 1 + x, none⟩ (.int .i64 v)).cell? ⟨w.heap.size, 0, none⟩ = some (.pointer (some ⟨m, 0, none⟩)) ∧ (w3.setCell ⟨w.heap.size + 1 + 1 + 1 + 1 + 1, 1 + x, none⟩ (.int .i64 v)).cell? ⟨w.heap.size, 1, none⟩ = some (.int .i64 base) ∧ (w3.setCell ⟨w.heap.size + 1 + 1 + 1 + 1 + 1, 1 + x, none⟩ (.int .i64 v)).cell? ⟨w.heap.size, 2, none⟩ = some (.int .i64 size)) ∧ ((w3.setCell ⟨w.heap.size + 1 + 1 + 1 + 1 + 1, 1 + x, none⟩ (.int .i64 v)).cell? ⟨w.heap.size + 1, 0, none⟩ = some (.int .i64 pc) ∧ (w3.setCell ⟨w.heap.size + 1 + 1 + 1 + 1 + 1, 1 + x, none⟩ (.int .i64 v)).cell? ⟨w.heap.size + 1, 1, none⟩ = some (.int .i64 (r 0)) ∧ (w3.setCell ⟨w.heap.size + 1 + 1 + 1 + 1 + 1, 1 + x, none⟩ (.int .i64 v)).cell? ⟨w.heap.size + 1, 2, none⟩ = some (.int .i64 (r 1)) ∧ (w3.setCell ⟨w.heap.size + 1 + 1 + 1 + 1 + 1, 1 + x, none⟩ (.int .i64 v)).cell? ⟨w.heap.size + 1, 3, none⟩ = some (.int .i64 (r 2)) ∧ (w3.setCell ⟨w.heap.size + 1 + 1 + 1 + 1 + 1, 1 + x, none⟩ (.int .i64 v)).cell? ⟨w.heap.size + 1, 4, none⟩ = some (.int .i64 (r 3)) ∧ (w3.setCell ⟨w.heap.size + 1 + 1 + 1 + 1 + 1, 1 + x, none⟩ (.int .i64 v)).cell? ⟨w.heap.size + 1, 5, none⟩ = some (.int .i64 (r 4)) ∧ (w3.setCell ⟨w.heap.size + 1 + 1 + 1 + 1 + 1, 1 + x, none⟩ (.int .i64 v)).cell? ⟨w.heap.size + 1, 6, none⟩ = some (.int .i64 (r 5)) ∧ (w3.setCell ⟨w.heap.size + 1 + 1 + 1 + 1 + 1, 1 + x, none⟩ (.int .i64 v)).cell? ⟨w.heap.size + 1, 7, none⟩ = some (.int .i64 (r 6)) ∧ (w3.setCell ⟨w.heap.size + 1 + 1 + 1 + 1 + 1, 1 + x, none⟩ (.int .i64 v)).cell? ⟨w.heap.size + 1, 8, none⟩ = some (.int .i64 (r 7)) ∧ (w3.setCell ⟨w.heap.size + 1 + 1 + 1 + 1 + 1, 1 + x, none⟩ (.int .i64 v)).cell? ⟨w.heap.size + 1, 9, none⟩ = some (.int .i64 md)) ∧ ((w3.setCell ⟨w.heap.size + 1 + 1 + 1 + 1 + 1, 1 + x, none⟩ (.int .i64 v)).cell? ⟨w.heap.size + 1 + 1, 0, none⟩ = some (.int .u8 9) ∧ (w3.setCell ⟨w.heap.size + 1 + 1 + 1 + 1 + 1, 1 + x, none⟩ (.int .i64 v)).cell? ⟨w.heap.size + 1 + 1, 1, none⟩ = some (.int .i64 (x : Int)) ∧ (w3.setCell ⟨w.heap.size + 1 + 1 + 1 + 1 + 1, 1 + x, none⟩ (.int .i64 v)).cell? ⟨w.heap.size + 1 + 1, 2, none⟩ = some (.int .i64 (n : Int))) ∧ (w3.setCell ⟨w.heap.size + 1 + 1 + 1 + 1 + 1, 1 + x, none⟩ (.int .i64 v)).cell? ⟨w.heap.size + 1, 1 + n, none⟩ = some (.int .i64 (r n)) ∧ (w3.setCell ⟨w.heap.size + 1 + 1 + 1 + 1 + 1, 1 + x, none⟩ (.int .i64 v)).cell? ⟨w.heap.size + 1, 1 + x, none⟩ = some (.int .i64 (r x))) := Lib.hid (Cu.andl HD4.out.args ⟨HD4.out.reg n HNL.out, HD4.out.reg x HXL.out⟩)
    refine wpAnyH_ready (rs := [17]) (by kernel_rfl) (by simp) ?_
    refine AllReadyH.cons (o := ⟨none, _, _, _, _, none⟩) rfl (fun K hK => ?_) AllReadyH.nil
    go_simp
    refine hK.out _ _ (HX4.out) (fun hHeld => ?_)
    clear hK K
    try simp only [Act.put, List.setIfInBounds_toArray, List.set_cons_zero, List.set_cons_succ]
    refine wpAnyH_take (i := 18) (oi := ⟨some 10, _, _, _, _, none⟩) (v := ?_) rfl (by kernel_rfl) (by kernel_rfl) (by kernel_rfl) (fun _ _ _ h => h) (Or.inl ⟨by rfl, ?_⟩) (by assumption) ?_
    case refine_2 => intro w hSw; (try dsimp only at hSw); go_simp; try with_reducible rfl
    try simp only [Act.put, List.setIfInBounds_toArray, List.set_cons_zero, List.set_cons_succ]
    refine wpAnyH_done (by kernel_rfl) ?_ _
    rw [← hrr] at HD4
    obtain ⟨w4, hw4⟩ : ∃ w4, w4 = w3.setCell ⟨w.heap.size + 1 + 1 + 1 + 1 + 1, 1 + x, none⟩ (.int .i64 v) := ⟨_, rfl⟩
    rw [← hw4] at HD4 ⊢
    clear hw4 ft ct HX4 HX3 HX0 hHeld hrr
    go_upto_region 27 with (fail)
    obtain ⟨-, ⟨s0, s1, s2, s3, s4, s5, s6, s7, s8, s9⟩, -⟩ := HD4.out.args
    go_wp2_with (go_at_call 45; (with_reducible refine (HBR.out _).mono ?_); rintro e w5 ⟨rfl, g5⟩; have HD5 := Lib.hid (HD4.out.step g5); clear s0 s1 s2 s3 s4 s5 s6 s7 s8 s9 g5; obtain ⟨⟨z0, z1, z2, z3, z4, z5, z6, z7, z8, z9⟩, ⟨y0, y1, y2, y3⟩, ⟨f0, f1, f2, f3, f4, f5, f6, f7, f8, f9⟩, ⟨e0, e1, e2, e3⟩⟩ := HD5.out.free)
    obtain ⟨⟨r0, r1, r2, r3, r4, r5, r6, r7, r8, r9⟩, ⟨u0, u1, u2, u3⟩, G8, G9⟩ := HD5.out.fin0 (.int .i64 pc) (.int .i64 (r 0)) (.int .i64 (r 1)) (.int .i64 (r 2)) (.int .i64 (r 3)) (.int .i64 (r 4)) (.int .i64 (r 5)) (.int .i64 (r 6)) (.int .i64 (r 7)) (.int .i64 3) (.int .i64 5) (.int .i64 0) (.int .i64 0) (.int .i64 6) _ rfl
    refine bodyPost_ret (v := .tuple #[.agg #[.int .i64 pc, .int .i64 (r 0), .int .i64 (r 1), .int .i64 (r 2), .int .i64 (r 3), .int .i64 (r 4), .int .i64 (r 5), .int .i64 (r 6), .int .i64 (r 7), .int .i64 3], .agg #[.int .i64 5, .int .i64 0, .int .i64 0, .int .i64 6]]) (by simp [results, Tryd.results46, go_sem, r0, r1, r2, r3, r4, r5, r6, r7, r8, r9, u0, u1, u2, u3]) rfl ⟨rfl, G9⟩
end Go.Proofs.YthhodadfiipffaaDoor
