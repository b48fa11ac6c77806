/- The law's step on a board and the document's rows. -/
import Derived.Test.YtbbgijjeimjgoaaLB4a
namespace Go.Proofs.Ytbbgijjeimjgoaa
open Go.RowKit Go.Lib
set_option linter.unusedVariables false
set_option maxRecDepth 8000

set_option maxRecDepth 20000 in
set_option maxHeartbeats 6400000 in
theorem Lt.step_raise {w : World} {b : Nat} {A : Option Addr} {n c J : Nat} {o : Nat → Nat × Nat} (h : Lt.Two w b A n c J o) (hJ : J ≤ 900) (i : Nat) (hi : i < n) (bt : Nat) (hb : bt < 256) : Calls Try.prog 7 #[.pointer (some ⟨b, 0, none⟩), .slice A n c, .agg #[.int .i64 0, .int .i64 ((i : Int) + 1), .int .i64 (bt : Int)]] w fun e w' => e = .returned (.bool true) ∧ Lt.Two w' b A n c (J + 1) (Lt.upd o i ((o i).1 ||| bt, (o i).2)) ∧ Keeps (Lt.Ft b A n c) w w' := by
  obtain ⟨X, h⟩ := h
  obtain ⟨g, off, rfl, hg⟩ := Lt.len_form h.row hi
  obtain ⟨W, hW, G, P, Z⟩ := Lt.box1 w 28 #[.int .i64 0, .int .i64 ((i : Int) + 1), .int .i64 (bt : Int)]
  have h1 := h.grown G
  have hbn : b < w.heap.size := h.brd.blk.lt
  have hgb : g ≠ b := fun e => h.ne (by simp [Value.ownBlock, e])
  have HC := Lib.hid (Lt.raise_yes b n i bt o W h1.brd hi hb)
  have HP := Lib.hid P
  have HROW := Lib.hid h1.row
  have HREL := Lib.hid h.rel
  have HLT := Lib.hid (show b < w.heap.size ∧ g < w.heap.size ∧ g ≠ b from ⟨hbn, hg, hgb⟩)
  have HG := Lib.hid G
  have HI := Lib.hid hi
  have HCNT := Lib.hid h.brd.cnt
  obtain ⟨x0, x1, x2⟩ := Lt.box3c P
  have i1 : (1 : Int) ≤ (i : Int) + 1 := by omega
  have i2 : (i : Int) + 1 ≤ (n : Int) := by omega
  have i3 : (i : Int) < (n : Int) := by omega
  have i4 : (0 : Int) ≤ (i : Int) := by omega
  have u1 : IntKind.i64.wrap ((i : Int) + 1 - 1) = (i : Int) := by rw [IntKind.wrap_i64]; have := h.brd.cnt; omega
  have u3 : IntKind.i64.wrap (i : Int) = (i : Int) := by rw [IntKind.wrap_i64]; have := h.brd.cnt; omega
  have u2 : wrap64 ((i : Int) + 1 - 1) = (i : Int) := by rw [IntWalk.wrap64_in _ ⟨by omega, by have := h.brd.cnt; omega⟩]; omega
  have y0 : ¬ (bt : Int) < 0 := by omega
  have y1 : ¬ (255 : Int) < (bt : Int) := by omega
  have HBT := Lib.hid hb
  clear h h1 G P hbn hgb hg hi hb
  go_enter Try.func7, Try.ntmps7
  go_upto_region 1 with (fail)
  rw [← hW]
  clear hW
  go_upto_region 13 with (go_at_call 10; (with_reducible refine HC.out.mono ?_); rintro e w2 ⟨rfl, hb2, hg2⟩; have XP := HP.out.only hg2 (fun e => by injection e with e; have := HLT.out.1; omega); obtain ⟨z0, z1, z2⟩ := Lt.box3c XP; have HXP := Lib.hid XP; have HB2 := Lib.hid hb2; have HG2 := Lib.hid hg2; have HR2 := Lib.hid (HROW.out.only hg2 (.inr (fun e => by simp [Value.ownBlock] at e; exact HLT.out.2.2 e))); clear XP hb2 hg2)
  clear x0 x1 x2
  have HX0 : Hid (w2.drew.cell? ⟨w.heap.size, 0, none⟩ = some (.int .i64 0) ∧ w2.drew.cell? ⟨w.heap.size, 1, none⟩ = some (.int .i64 ((i : Int) + 1)) ∧ w2.drew.cell? ⟨w.heap.size, 2, none⟩ = some (.int .i64 (bt : Int))) := Lib.hid ⟨z0, z1, z2⟩
  have HRD := Lib.hid (HR2.out.drewN 1)
  have hrc := Lt.row_cells HRD.out HI.out
  have HLD := Lib.hid (Lt.run_ld (w2.drewN 1) g (off + i * 16) (Lt.rowC (X i).1 (X i).2) (Lt.rowC_size _ _) hrc.1)
  have HDRW : Hid (w2.drewN 1 = w2.drew) := Lib.hid rfl
  rw [HDRW.out] at HLD HRD
  have HCR := Lib.hid (Lt.rraise_any J (o i).1 (o i).2 bt (X i).1 (X i).2 w2.drew (HREL.out i HI.out) (by omega) HBT.out)
  clear hrc
  obtain ⟨cs, hcs⟩ : ∃ cs, cs = Lt.rowC (X i).1 (X i).2 := ⟨_, rfl⟩
  rw [← hcs] at HLD HCR
  clear hcs
  refine wp_region_held_drew (S := fun w' => w'.cell? ⟨w.heap.size, 0, none⟩ = some (.int .i64 0) ∧ w'.cell? ⟨w.heap.size, 1, none⟩ = some (.int .i64 ((i : Int) + 1)) ∧ w'.cell? ⟨w.heap.size, 2, none⟩ = some (.int .i64 (bt : Int))) (by kernel_rfl) HX0.out (fun hHeld => ?_)
  refine wpAnyH_take (i := 0) (oi := ⟨some 67, _, _, _, _, none⟩) (v := ?_) rfl (by kernel_rfl) (by kernel_rfl) (by kernel_rfl) (fun _ _ _ h => h) (Or.inl ⟨by rfl, ?_⟩) (by assumption) ?_
  case refine_2 => intro w hSw; (try dsimp only at hSw); go_simp; try with_reducible rfl
  try simp only [Act.put, List.setIfInBounds_toArray, List.set_cons_zero, List.set_cons_succ]
  refine wpAnyH_take (i := 1) (oi := ⟨some 68, _, _, _, _, none⟩) (v := ?_) rfl (by kernel_rfl) (by kernel_rfl) (by kernel_rfl) (fun _ _ _ h => h) (Or.inl ⟨by rfl, ?_⟩) (by assumption) ?_
  case refine_2 => intro w hSw; (try dsimp only at hSw); go_simp; try with_reducible rfl
  try simp only [Act.put, List.setIfInBounds_toArray, List.set_cons_zero, List.set_cons_succ]
  refine wpAnyH_take (i := 2) (oi := ⟨some 69, _, _, _, _, none⟩) (v := ?_) rfl (by kernel_rfl) (by kernel_rfl) (by kernel_rfl) (fun _ _ _ h => h) (Or.inl ⟨by rfl, ?_⟩) (by assumption) ?_
  case refine_2 => intro w hSw; (try dsimp only at hSw); go_simp; try with_reducible rfl
  try simp only [Act.put, List.setIfInBounds_toArray, List.set_cons_zero, List.set_cons_succ]
  refine wpAnyH_take (i := 3) (oi := ⟨some 70, _, _, _, _, none⟩) (v := ?_) rfl (by kernel_rfl) (by kernel_rfl) (by kernel_rfl) (fun _ _ _ h => h) (Or.inl ⟨by rfl, ?_⟩) (by assumption) ?_
  case refine_2 => intro w hSw; (try dsimp only at hSw); go_simp; try with_reducible rfl
  try simp only [Act.put, List.setIfInBounds_toArray, List.set_cons_zero, List.set_cons_succ]
  refine wpAnyH_take (i := 4) (oi := ⟨some 71, _, _, _, _, none⟩) (v := ?_) rfl (by kernel_rfl) (by kernel_rfl) (by kernel_rfl) (fun _ _ _ h => h) (Or.inl ⟨by rfl, ?_⟩) (by assumption) ?_
  case refine_2 => intro w hSw; (try dsimp only at hSw); go_simp; try with_reducible rfl
  try simp only [Act.put, List.setIfInBounds_toArray, List.set_cons_zero, List.set_cons_succ]
  refine wpAnyH_take (i := 5) (oi := ⟨some 72, _, _, _, _, none⟩) (v := ?_) rfl (by kernel_rfl) (by kernel_rfl) (by kernel_rfl) (fun _ _ _ h => h) (Or.inl ⟨by rfl, ?_⟩) (by assumption) ?_
  case refine_2 => intro w hSw; (try dsimp only at hSw); go_simp; try with_reducible rfl
  try simp only [Act.put, List.setIfInBounds_toArray, List.set_cons_zero, List.set_cons_succ]
  refine wpAnyH_take (i := 6) (oi := ⟨some 73, _, _, _, _, none⟩) (v := ?_) rfl (by kernel_rfl) (by kernel_rfl) (by kernel_rfl) (fun _ _ _ h => h) (Or.inl ⟨by rfl, ?_⟩) (by assumption) ?_
  case refine_2 => intro w hSw; (try dsimp only at hSw); go_simp; try with_reducible rfl
  try simp only [Act.put, List.setIfInBounds_toArray, List.set_cons_zero, List.set_cons_succ]
  refine wpAnyH_take (i := 7) (oi := ⟨some 74, _, _, _, _, none⟩) (v := ?_) rfl (by kernel_rfl) (by kernel_rfl) (by kernel_rfl) (fun _ _ _ h => h) (Or.inl ⟨by rfl, ?_⟩) (by assumption) ?_
  case refine_2 => intro w hSw; (try dsimp only at hSw); go_simp; try with_reducible rfl
  try simp only [Act.put, List.setIfInBounds_toArray, List.set_cons_zero, List.set_cons_succ]
  refine wpAnyH_take (i := 8) (oi := ⟨some 75, _, _, _, _, none⟩) (v := ?_) rfl (by kernel_rfl) (by kernel_rfl) (by kernel_rfl) (fun _ _ _ h => h) (Or.inl ⟨by rfl, ?_⟩) (by assumption) ?_
  case refine_2 => intro w hSw; (try dsimp only at hSw); go_simp; try with_reducible rfl
  try simp only [Act.put, List.setIfInBounds_toArray, List.set_cons_zero, List.set_cons_succ]
  refine wpAnyH_take (i := 10) (oi := ⟨some 77, _, _, _, _, none⟩) (v := ?_) rfl (by kernel_rfl) (by kernel_rfl) (by kernel_rfl) (fun _ _ _ h => h) (Or.inl ⟨by rfl, ?_⟩) (by assumption) ?_
  case refine_2 => intro w hSw; (try dsimp only at hSw); go_simp; try with_reducible rfl
  try simp only [Act.put, List.setIfInBounds_toArray, List.set_cons_zero, List.set_cons_succ]
  refine wpAnyH_take (i := 11) (oi := ⟨some 78, _, _, _, _, none⟩) (v := ?_) rfl (by kernel_rfl) (by kernel_rfl) (by kernel_rfl) (fun _ _ _ h => h) (Or.inl ⟨by rfl, ?_⟩) (by assumption) ?_
  case refine_2 => intro w hSw; (try dsimp only at hSw); go_simp; try with_reducible rfl
  try simp only [Act.put, List.setIfInBounds_toArray, List.set_cons_zero, List.set_cons_succ]
  refine wpAnyH_ready (rs := [9]) (by kernel_rfl) (by simp) ?_
  refine AllReadyH.cons (o := ⟨some 76, _, _, _, _, none⟩) rfl (fun K hK => ?_) AllReadyH.nil
  refine Lt.step_ld rfl (.tmp 75) rfl HLD.out rfl ?_
  refine hK.out _ _ (HX0.out) (fun hHeld => ?_)
  clear hK K
  try simp only [Act.put, List.setIfInBounds_toArray, List.set_cons_zero, List.set_cons_succ]
  refine wpAnyH_ready (rs := [12]) (by kernel_rfl) (by simp) ?_
  refine AllReadyH.cons (o := ⟨some 79, _, _, _, _, none⟩) rfl (fun K hK => ?_) AllReadyH.nil
  go_simp
  have HQ := HCR.out
  refine HQ.mono ?_
  clear HQ
  rintro e w3 ⟨⟨r2, d2, rfl, hrw⟩, g3⟩
  have YP := HXP.out.only (show w2.grownBy w3 none from only_trans (only_drewN (only_refl w2 none) 1) g3) (by simp)
  have HX3 : Hid (w3.cell? ⟨w.heap.size, 0, none⟩ = some (.int .i64 0) ∧ w3.cell? ⟨w.heap.size, 1, none⟩ = some (.int .i64 ((i : Int) + 1)) ∧ w3.cell? ⟨w.heap.size, 2, none⟩ = some (.int .i64 (bt : Int))) := Lib.hid (Lt.box3c YP)
  have HR3 := Lib.hid (HRD.out.grown g3)
  have HB3 := Lib.hid (HB2.out.only (only_trans (only_drewN (only_refl w2 none) 1) g3) (by simp))
  have HG3 := Lib.hid (only_trans HG2.out (only_any (only_trans (only_drewN (only_refl w2 none) 1) g3) (some b)))
  have HYP := Lib.hid YP
  have HRW := Lib.hid hrw
  have hr3 := Lt.row_cells HR3.out HI.out
  have HST := Lib.hid (Lt.run_st w3 g (off + i * 16) (Lt.rowC r2 d2) (Lt.rowC_size _ _) (Lt.rowC_one _ _) hr3.2.1 hr3.2.2)
  clear g3 YP hrw hr3
  have HR4 := Lib.hid (Lt.row_set HR3.out HI.out r2 d2)
  have HG4 := Lib.hid (only_cells w3 g (off + i * 16) (Lt.rowC r2 d2).toList)
  obtain ⟨w4, hw4⟩ : ∃ w4, w4 = w3.setCells g (off + i * 16) (Lt.rowC r2 d2).toList := ⟨_, rfl⟩
  rw [← hw4] at HST HR4 HG4
  clear hw4
  have HX4 : Hid (w4.cell? ⟨w.heap.size, 0, none⟩ = some (.int .i64 0) ∧ w4.cell? ⟨w.heap.size, 1, none⟩ = some (.int .i64 ((i : Int) + 1)) ∧ w4.cell? ⟨w.heap.size, 2, none⟩ = some (.int .i64 (bt : Int))) := Lib.hid (Lt.box3c (HYP.out.only HG4.out (fun e => by injection e with e; have := HLT.out.2.1; omega)))
  have HB4 := Lib.hid (HB3.out.only HG4.out (fun e => by injection e with e; exact HLT.out.2.2 e.symm))
  obtain ⟨cs2, hcs2⟩ : ∃ cs2, cs2 = Lt.rowC r2 d2 := ⟨_, rfl⟩
  rw [← hcs2] at HST
  rw [← hcs2]
  clear hcs2
  try simp only []
  refine hK.out _ _ (HX3.out) (fun hHeld => ?_)
  clear hK K
  try simp only [Act.put, List.setIfInBounds_toArray, List.set_cons_zero, List.set_cons_succ]
  refine wpAnyH_take (i := 13) (oi := ⟨some 80, _, _, _, _, none⟩) (v := ?_) rfl (by kernel_rfl) (by kernel_rfl) (by kernel_rfl) (fun _ _ _ h => h) (Or.inl ⟨by rfl, ?_⟩) (by assumption) ?_
  case refine_2 => intro w hSw; (try dsimp only at hSw); go_simp; try with_reducible rfl
  try simp only [Act.put, List.setIfInBounds_toArray, List.set_cons_zero, List.set_cons_succ]
  refine wpAnyH_ready (rs := [14]) (by kernel_rfl) (by simp) ?_
  refine AllReadyH.cons (o := ⟨none, _, _, _, _, none⟩) rfl (fun K hK => ?_) AllReadyH.nil
  refine Lt.step_st rfl (.tmp 80) (.tmp 79) rfl HST.out rfl rfl ?_
  refine hK.out _ _ (HX4.out) (fun hHeld => ?_)
  clear hK K
  try simp only [Act.put, List.setIfInBounds_toArray, List.set_cons_zero, List.set_cons_succ]
  refine wpAnyH_done (by kernel_rfl) ?_ _
  go_wp2
  go_ret
  refine ⟨by first | rfl | (simp; done), ⟨_, HB4.out, HR4.out, fun j hj => ?_, fun e => by simp [Value.ownBlock] at e; exact HLT.out.2.2 e⟩, ?_⟩
  · by_cases e : j = i
    · subst e
      rw [Lt.upd_at]
      simp only [Lt.updX, if_true]
      exact HRW.out
    · rw [Lt.upd_off _ _ e]
      simp only [Lt.updX, if_neg e]
      exact (HREL.out j hj).mono (Nat.le_succ _)
  · refine (Keeps.of_only HG.out (fun k hk => by cases hk)).trans ?_
    refine (Keeps.of_only HG3.out (fun k hk => ?_)).trans (Keeps.of_only HG4.out (fun k hk => ?_))
    · injection hk with hk; exact .inl hk.symm
    · injection hk with hk; exact .inr (by simp [Value.ownBlock, hk])
set_option maxRecDepth 20000 in
set_option maxHeartbeats 6400000 in
theorem Lt.step_open {w : World} {b : Nat} {A : Option Addr} {n c J : Nat} {o : Nat → Nat × Nat} (h : Lt.Two w b A n c J o) (hJ : J ≤ 900) (i : Nat) (hi : i < n) (z : Int) : Calls Try.prog 7 #[.pointer (some ⟨b, 0, none⟩), .slice A n c, .agg #[.int .i64 1, .int .i64 ((i : Int) + 1), .int .i64 z]] w fun e w' => e = .returned (.bool true) ∧ Lt.Two w' b A n c (J + 1) (Lt.upd o i (0, (o i).2 ||| (o i).1)) ∧ Keeps (Lt.Ft b A n c) w w' := by
  obtain ⟨X, h⟩ := h
  obtain ⟨g, off, rfl, hg⟩ := Lt.len_form h.row hi
  obtain ⟨W, hW, G, P, Z⟩ := Lt.box1 w 28 #[.int .i64 1, .int .i64 ((i : Int) + 1), .int .i64 z]
  have h1 := h.grown G
  have hbn : b < w.heap.size := h.brd.blk.lt
  have hgb : g ≠ b := fun e => h.ne (by simp [Value.ownBlock, e])
  have HC := Lib.hid (Lt.open_yes b n i o W h1.brd hi)
  have HP := Lib.hid P
  have HROW := Lib.hid h1.row
  have HREL := Lib.hid h.rel
  have HLT := Lib.hid (show b < w.heap.size ∧ g < w.heap.size ∧ g ≠ b from ⟨hbn, hg, hgb⟩)
  have HG := Lib.hid G
  have HI := Lib.hid hi
  have HCNT := Lib.hid h.brd.cnt
  obtain ⟨x0, x1, x2⟩ := Lt.box3c P
  have i1 : (1 : Int) ≤ (i : Int) + 1 := by omega
  have i2 : (i : Int) + 1 ≤ (n : Int) := by omega
  have i3 : (i : Int) < (n : Int) := by omega
  have i4 : (0 : Int) ≤ (i : Int) := by omega
  have u1 : IntKind.i64.wrap ((i : Int) + 1 - 1) = (i : Int) := by rw [IntKind.wrap_i64]; have := h.brd.cnt; omega
  have u3 : IntKind.i64.wrap (i : Int) = (i : Int) := by rw [IntKind.wrap_i64]; have := h.brd.cnt; omega
  have u2 : wrap64 ((i : Int) + 1 - 1) = (i : Int) := by rw [IntWalk.wrap64_in _ ⟨by omega, by have := h.brd.cnt; omega⟩]; omega
  clear h h1 G P hbn hgb hg hi
  go_enter Try.func7, Try.ntmps7
  go_upto_region 1 with (fail)
  rw [← hW]
  clear hW
  go_upto_region 18 with (go_at_call 11; (with_reducible refine HC.out.mono ?_); rintro e w2 ⟨rfl, hb2, hg2⟩; have XP := HP.out.only hg2 (fun e => by injection e with e; have := HLT.out.1; omega); obtain ⟨z0, z1, z2⟩ := Lt.box3c XP; have HXP := Lib.hid XP; have HB2 := Lib.hid hb2; have HG2 := Lib.hid hg2; have HR2 := Lib.hid (HROW.out.only hg2 (.inr (fun e => by simp [Value.ownBlock] at e; exact HLT.out.2.2 e))); clear XP hb2 hg2)
  clear x0 x1 x2
  have HX0 : Hid (w2.drew.cell? ⟨w.heap.size, 0, none⟩ = some (.int .i64 1) ∧ w2.drew.cell? ⟨w.heap.size, 1, none⟩ = some (.int .i64 ((i : Int) + 1)) ∧ w2.drew.cell? ⟨w.heap.size, 2, none⟩ = some (.int .i64 z)) := Lib.hid ⟨z0, z1, z2⟩
  have HRD := Lib.hid (HR2.out.drewN 1)
  have hrc := Lt.row_cells HRD.out HI.out
  have HLD := Lib.hid (Lt.run_ld (w2.drewN 1) g (off + i * 16) (Lt.rowC (X i).1 (X i).2) (Lt.rowC_size _ _) hrc.1)
  have HDRW : Hid (w2.drewN 1 = w2.drew) := Lib.hid rfl
  rw [HDRW.out] at HLD HRD
  have HCR := Lib.hid (Lt.ropen_any J (o i).1 (o i).2 (X i).1 (X i).2 w2.drew (HREL.out i HI.out))
  clear hrc
  obtain ⟨cs, hcs⟩ : ∃ cs, cs = Lt.rowC (X i).1 (X i).2 := ⟨_, rfl⟩
  rw [← hcs] at HLD HCR
  clear hcs
  refine wp_region_held_drew (S := fun w' => w'.cell? ⟨w.heap.size, 0, none⟩ = some (.int .i64 1) ∧ w'.cell? ⟨w.heap.size, 1, none⟩ = some (.int .i64 ((i : Int) + 1)) ∧ w'.cell? ⟨w.heap.size, 2, none⟩ = some (.int .i64 z)) (by kernel_rfl) HX0.out (fun hHeld => ?_)
  refine wpAnyH_take (i := 0) (oi := ⟨some 91, _, _, _, _, none⟩) (v := ?_) rfl (by kernel_rfl) (by kernel_rfl) (by kernel_rfl) (fun _ _ _ h => h) (Or.inl ⟨by rfl, ?_⟩) (by assumption) ?_
  case refine_2 => intro w hSw; (try dsimp only at hSw); go_simp; try with_reducible rfl
  try simp only [Act.put, List.setIfInBounds_toArray, List.set_cons_zero, List.set_cons_succ]
  refine wpAnyH_take (i := 1) (oi := ⟨some 92, _, _, _, _, none⟩) (v := ?_) rfl (by kernel_rfl) (by kernel_rfl) (by kernel_rfl) (fun _ _ _ h => h) (Or.inl ⟨by rfl, ?_⟩) (by assumption) ?_
  case refine_2 => intro w hSw; (try dsimp only at hSw); go_simp; try with_reducible rfl
  try simp only [Act.put, List.setIfInBounds_toArray, List.set_cons_zero, List.set_cons_succ]
  refine wpAnyH_take (i := 2) (oi := ⟨some 93, _, _, _, _, none⟩) (v := ?_) rfl (by kernel_rfl) (by kernel_rfl) (by kernel_rfl) (fun _ _ _ h => h) (Or.inl ⟨by rfl, ?_⟩) (by assumption) ?_
  case refine_2 => intro w hSw; (try dsimp only at hSw); go_simp; try with_reducible rfl
  try simp only [Act.put, List.setIfInBounds_toArray, List.set_cons_zero, List.set_cons_succ]
  refine wpAnyH_take (i := 3) (oi := ⟨some 94, _, _, _, _, none⟩) (v := ?_) rfl (by kernel_rfl) (by kernel_rfl) (by kernel_rfl) (fun _ _ _ h => h) (Or.inl ⟨by rfl, ?_⟩) (by assumption) ?_
  case refine_2 => intro w hSw; (try dsimp only at hSw); go_simp; try with_reducible rfl
  try simp only [Act.put, List.setIfInBounds_toArray, List.set_cons_zero, List.set_cons_succ]
  refine wpAnyH_take (i := 4) (oi := ⟨some 95, _, _, _, _, none⟩) (v := ?_) rfl (by kernel_rfl) (by kernel_rfl) (by kernel_rfl) (fun _ _ _ h => h) (Or.inl ⟨by rfl, ?_⟩) (by assumption) ?_
  case refine_2 => intro w hSw; (try dsimp only at hSw); go_simp; try with_reducible rfl
  try simp only [Act.put, List.setIfInBounds_toArray, List.set_cons_zero, List.set_cons_succ]
  refine wpAnyH_take (i := 5) (oi := ⟨some 96, _, _, _, _, none⟩) (v := ?_) rfl (by kernel_rfl) (by kernel_rfl) (by kernel_rfl) (fun _ _ _ h => h) (Or.inl ⟨by rfl, ?_⟩) (by assumption) ?_
  case refine_2 => intro w hSw; (try dsimp only at hSw); go_simp; try with_reducible rfl
  try simp only [Act.put, List.setIfInBounds_toArray, List.set_cons_zero, List.set_cons_succ]
  refine wpAnyH_take (i := 6) (oi := ⟨some 97, _, _, _, _, none⟩) (v := ?_) rfl (by kernel_rfl) (by kernel_rfl) (by kernel_rfl) (fun _ _ _ h => h) (Or.inl ⟨by rfl, ?_⟩) (by assumption) ?_
  case refine_2 => intro w hSw; (try dsimp only at hSw); go_simp; try with_reducible rfl
  try simp only [Act.put, List.setIfInBounds_toArray, List.set_cons_zero, List.set_cons_succ]
  refine wpAnyH_take (i := 7) (oi := ⟨some 98, _, _, _, _, none⟩) (v := ?_) rfl (by kernel_rfl) (by kernel_rfl) (by kernel_rfl) (fun _ _ _ h => h) (Or.inl ⟨by rfl, ?_⟩) (by assumption) ?_
  case refine_2 => intro w hSw; (try dsimp only at hSw); go_simp; try with_reducible rfl
  try simp only [Act.put, List.setIfInBounds_toArray, List.set_cons_zero, List.set_cons_succ]
  refine wpAnyH_take (i := 8) (oi := ⟨some 99, _, _, _, _, none⟩) (v := ?_) rfl (by kernel_rfl) (by kernel_rfl) (by kernel_rfl) (fun _ _ _ h => h) (Or.inl ⟨by rfl, ?_⟩) (by assumption) ?_
  case refine_2 => intro w hSw; (try dsimp only at hSw); go_simp; try with_reducible rfl
  try simp only [Act.put, List.setIfInBounds_toArray, List.set_cons_zero, List.set_cons_succ]
  refine wpAnyH_ready (rs := [9]) (by kernel_rfl) (by simp) ?_
  refine AllReadyH.cons (o := ⟨some 100, _, _, _, _, none⟩) rfl (fun K hK => ?_) AllReadyH.nil
  refine Lt.step_ld rfl (.tmp 99) rfl HLD.out rfl ?_
  refine hK.out _ _ (HX0.out) (fun hHeld => ?_)
  clear hK K
  try simp only [Act.put, List.setIfInBounds_toArray, List.set_cons_zero, List.set_cons_succ]
  refine wpAnyH_ready (rs := [10]) (by kernel_rfl) (by simp) ?_
  refine AllReadyH.cons (o := ⟨some 101, _, _, _, _, none⟩) rfl (fun K hK => ?_) AllReadyH.nil
  go_simp
  have HQ := HCR.out
  refine HQ.mono ?_
  clear HQ
  rintro e w3 ⟨⟨r2, d2, rfl, hrw⟩, g3⟩
  have YP := HXP.out.only (show w2.grownBy w3 none from only_trans (only_drewN (only_refl w2 none) 1) g3) (by simp)
  have HX3 : Hid (w3.cell? ⟨w.heap.size, 0, none⟩ = some (.int .i64 1) ∧ w3.cell? ⟨w.heap.size, 1, none⟩ = some (.int .i64 ((i : Int) + 1)) ∧ w3.cell? ⟨w.heap.size, 2, none⟩ = some (.int .i64 z)) := Lib.hid (Lt.box3c YP)
  have HR3 := Lib.hid (HRD.out.grown g3)
  have HB3 := Lib.hid (HB2.out.only (only_trans (only_drewN (only_refl w2 none) 1) g3) (by simp))
  have HG3 := Lib.hid (only_trans HG2.out (only_any (only_trans (only_drewN (only_refl w2 none) 1) g3) (some b)))
  have HYP := Lib.hid YP
  have HRW := Lib.hid hrw
  have hr3 := Lt.row_cells HR3.out HI.out
  have HST := Lib.hid (Lt.run_st w3 g (off + i * 16) (Lt.rowC r2 d2) (Lt.rowC_size _ _) (Lt.rowC_one _ _) hr3.2.1 hr3.2.2)
  clear g3 YP hrw hr3
  have HR4 := Lib.hid (Lt.row_set HR3.out HI.out r2 d2)
  have HG4 := Lib.hid (only_cells w3 g (off + i * 16) (Lt.rowC r2 d2).toList)
  obtain ⟨w4, hw4⟩ : ∃ w4, w4 = w3.setCells g (off + i * 16) (Lt.rowC r2 d2).toList := ⟨_, rfl⟩
  rw [← hw4] at HST HR4 HG4
  clear hw4
  have HX4 : Hid (w4.cell? ⟨w.heap.size, 0, none⟩ = some (.int .i64 1) ∧ w4.cell? ⟨w.heap.size, 1, none⟩ = some (.int .i64 ((i : Int) + 1)) ∧ w4.cell? ⟨w.heap.size, 2, none⟩ = some (.int .i64 z)) := Lib.hid (Lt.box3c (HYP.out.only HG4.out (fun e => by injection e with e; have := HLT.out.2.1; omega)))
  have HB4 := Lib.hid (HB3.out.only HG4.out (fun e => by injection e with e; exact HLT.out.2.2 e.symm))
  obtain ⟨cs2, hcs2⟩ : ∃ cs2, cs2 = Lt.rowC r2 d2 := ⟨_, rfl⟩
  rw [← hcs2] at HST
  rw [← hcs2]
  clear hcs2
  try simp only []
  refine hK.out _ _ (HX3.out) (fun hHeld => ?_)
  clear hK K
  try simp only [Act.put, List.setIfInBounds_toArray, List.set_cons_zero, List.set_cons_succ]
  refine wpAnyH_take (i := 11) (oi := ⟨some 90, _, _, _, _, none⟩) (v := ?_) rfl (by kernel_rfl) (by kernel_rfl) (by kernel_rfl) (fun _ _ _ h => h) (Or.inl ⟨by rfl, ?_⟩) (by assumption) ?_
  case refine_2 => intro w hSw; (try dsimp only at hSw); go_simp; try with_reducible rfl
  try simp only [Act.put, List.setIfInBounds_toArray, List.set_cons_zero, List.set_cons_succ]
  refine wpAnyH_take (i := 12) (oi := ⟨some 102, _, _, _, _, none⟩) (v := ?_) rfl (by kernel_rfl) (by kernel_rfl) (by kernel_rfl) (fun _ _ _ h => h) (Or.inl ⟨by rfl, ?_⟩) (by assumption) ?_
  case refine_2 => intro w hSw; (try dsimp only at hSw); go_simp; try with_reducible rfl
  try simp only [Act.put, List.setIfInBounds_toArray, List.set_cons_zero, List.set_cons_succ]
  refine wpAnyH_take (i := 13) (oi := ⟨some 103, _, _, _, _, none⟩) (v := ?_) rfl (by kernel_rfl) (by kernel_rfl) (by kernel_rfl) (fun _ _ _ h => h) (Or.inl ⟨by rfl, ?_⟩) (by assumption) ?_
  case refine_2 => intro w hSw; (try dsimp only at hSw); go_simp; try with_reducible rfl
  try simp only [Act.put, List.setIfInBounds_toArray, List.set_cons_zero, List.set_cons_succ]
  refine wpAnyH_take (i := 14) (oi := ⟨some 104, _, _, _, _, none⟩) (v := ?_) rfl (by kernel_rfl) (by kernel_rfl) (by kernel_rfl) (fun _ _ _ h => h) (Or.inl ⟨by rfl, ?_⟩) (by assumption) ?_
  case refine_2 => intro w hSw; (try dsimp only at hSw); go_simp; try with_reducible rfl
  try simp only [Act.put, List.setIfInBounds_toArray, List.set_cons_zero, List.set_cons_succ]
  refine wpAnyH_ready (rs := [15]) (by kernel_rfl) (by simp) ?_
  refine AllReadyH.cons (o := ⟨none, _, _, _, _, none⟩) rfl (fun K hK => ?_) AllReadyH.nil
  refine Lt.step_st rfl (.tmp 104) (.tmp 102) rfl HST.out rfl rfl ?_
  refine hK.out _ _ (HX4.out) (fun hHeld => ?_)
  clear hK K
  try simp only [Act.put, List.setIfInBounds_toArray, List.set_cons_zero, List.set_cons_succ]
  refine wpAnyH_take (i := 16) (oi := ⟨some 9, _, _, _, _, none⟩) (v := ?_) rfl (by kernel_rfl) (by kernel_rfl) (by kernel_rfl) (fun _ _ _ h => h) (Or.inl ⟨by rfl, ?_⟩) (by assumption) ?_
  case refine_2 => intro w hSw; (try dsimp only at hSw); go_simp; try with_reducible rfl
  try simp only [Act.put, List.setIfInBounds_toArray, List.set_cons_zero, List.set_cons_succ]
  refine wpAnyH_done (by kernel_rfl) ?_ _
  go_wp2
  go_ret
  refine ⟨by first | rfl | (simp; done), ⟨_, HB4.out, HR4.out, fun j hj => ?_, fun e => by simp [Value.ownBlock] at e; exact HLT.out.2.2 e⟩, ?_⟩
  · by_cases e : j = i
    · subst e
      rw [Lt.upd_at]
      simp only [Lt.updX, if_true]
      exact HRW.out.mono (Nat.le_succ _)
    · rw [Lt.upd_off _ _ e]
      simp only [Lt.updX, if_neg e]
      exact (HREL.out j hj).mono (Nat.le_succ _)
  · refine (Keeps.of_only HG.out (fun k hk => by cases hk)).trans ?_
    refine (Keeps.of_only HG3.out (fun k hk => ?_)).trans (Keeps.of_only HG4.out (fun k hk => ?_))
    · injection hk with hk; exact .inl hk.symm
    · injection hk with hk; exact .inr (by simp [Value.ownBlock, hk])
set_option maxRecDepth 20000 in
set_option maxHeartbeats 6400000 in
theorem Lt.step_take {w : World} {b : Nat} {A : Option Addr} {n c J : Nat} {o : Nat → Nat × Nat} (h : Lt.Two w b A n c J o) (hJ : J ≤ 900) (i : Nat) (hi : i < n) (kd z : Int) (hk0 : kd ≠ 0) (hk1 : kd ≠ 1) : Calls Try.prog 7 #[.pointer (some ⟨b, 0, none⟩), .slice A n c, .agg #[.int .i64 kd, .int .i64 ((i : Int) + 1), .int .i64 z]] w fun e w' => e = .returned (.bool true) ∧ Lt.Two w' b A n c (J + 1) (Lt.upd o i ((o i).1, 0)) ∧ Keeps (Lt.Ft b A n c) w w' := by
  obtain ⟨X, h⟩ := h
  obtain ⟨g, off, rfl, hg⟩ := Lt.len_form h.row hi
  obtain ⟨W, hW, G, P, Z⟩ := Lt.box1 w 28 #[.int .i64 kd, .int .i64 ((i : Int) + 1), .int .i64 z]
  have h1 := h.grown G
  have hbn : b < w.heap.size := h.brd.blk.lt
  have hgb : g ≠ b := fun e => h.ne (by simp [Value.ownBlock, e])
  have HC := Lib.hid (Lt.take_yes b n i o W h1.brd hi)
  have HP := Lib.hid P
  have HROW := Lib.hid h1.row
  have HREL := Lib.hid h.rel
  have HLT := Lib.hid (show b < w.heap.size ∧ g < w.heap.size ∧ g ≠ b from ⟨hbn, hg, hgb⟩)
  have HG := Lib.hid G
  have HI := Lib.hid hi
  have HCNT := Lib.hid h.brd.cnt
  obtain ⟨x0, x1, x2⟩ := Lt.box3c P
  have i1 : (1 : Int) ≤ (i : Int) + 1 := by omega
  have i2 : (i : Int) + 1 ≤ (n : Int) := by omega
  have i3 : (i : Int) < (n : Int) := by omega
  have i4 : (0 : Int) ≤ (i : Int) := by omega
  have u1 : IntKind.i64.wrap ((i : Int) + 1 - 1) = (i : Int) := by rw [IntKind.wrap_i64]; have := h.brd.cnt; omega
  have u3 : IntKind.i64.wrap (i : Int) = (i : Int) := by rw [IntKind.wrap_i64]; have := h.brd.cnt; omega
  have u2 : wrap64 ((i : Int) + 1 - 1) = (i : Int) := by rw [IntWalk.wrap64_in _ ⟨by omega, by have := h.brd.cnt; omega⟩]; omega
  have n0 : (kd == 0) = false := by simpa using hk0
  have n1 : (kd == 1) = false := by simpa using hk1
  clear h h1 G P hbn hgb hg hi hk0 hk1
  go_enter Try.func7, Try.ntmps7
  go_upto_region 1 with (fail)
  rw [← hW]
  clear hW
  go_upto_region 6 with (go_at_call 12; (with_reducible refine HC.out.mono ?_); rintro e w2 ⟨rfl, hb2, hg2⟩; have XP := HP.out.only hg2 (fun e => by injection e with e; have := HLT.out.1; omega); obtain ⟨z0, z1, z2⟩ := Lt.box3c XP; have HXP := Lib.hid XP; have HB2 := Lib.hid hb2; have HG2 := Lib.hid hg2; have HR2 := Lib.hid (HROW.out.only hg2 (.inr (fun e => by simp [Value.ownBlock] at e; exact HLT.out.2.2 e))); clear XP hb2 hg2)
  clear x0 x1 x2
  have HX0 : Hid (w2.drew.cell? ⟨w.heap.size, 0, none⟩ = some (.int .i64 kd) ∧ w2.drew.cell? ⟨w.heap.size, 1, none⟩ = some (.int .i64 ((i : Int) + 1)) ∧ w2.drew.cell? ⟨w.heap.size, 2, none⟩ = some (.int .i64 z)) := Lib.hid ⟨z0, z1, z2⟩
  have HRD := Lib.hid (HR2.out.drewN 1)
  have hrc := Lt.row_cells HRD.out HI.out
  have HLD := Lib.hid (Lt.run_ld (w2.drewN 1) g (off + i * 16) (Lt.rowC (X i).1 (X i).2) (Lt.rowC_size _ _) hrc.1)
  have HDRW : Hid (w2.drewN 1 = w2.drew) := Lib.hid rfl
  rw [HDRW.out] at HLD HRD
  have HCR := Lib.hid (Lt.rtake_any J (o i).1 (o i).2 (X i).1 (X i).2 w2.drew (HREL.out i HI.out))
  clear hrc
  obtain ⟨cs, hcs⟩ : ∃ cs, cs = Lt.rowC (X i).1 (X i).2 := ⟨_, rfl⟩
  rw [← hcs] at HLD HCR
  clear hcs
  refine wp_region_held_drew (S := fun w' => w'.cell? ⟨w.heap.size, 0, none⟩ = some (.int .i64 kd) ∧ w'.cell? ⟨w.heap.size, 1, none⟩ = some (.int .i64 ((i : Int) + 1)) ∧ w'.cell? ⟨w.heap.size, 2, none⟩ = some (.int .i64 z)) (by kernel_rfl) HX0.out (fun hHeld => ?_)
  refine wpAnyH_take (i := 0) (oi := ⟨some 29, _, _, _, _, none⟩) (v := ?_) rfl (by kernel_rfl) (by kernel_rfl) (by kernel_rfl) (fun _ _ _ h => h) (Or.inl ⟨by rfl, ?_⟩) (by assumption) ?_
  case refine_2 => intro w hSw; (try dsimp only at hSw); go_simp; try with_reducible rfl
  try simp only [Act.put, List.setIfInBounds_toArray, List.set_cons_zero, List.set_cons_succ]
  refine wpAnyH_take (i := 1) (oi := ⟨some 30, _, _, _, _, none⟩) (v := ?_) rfl (by kernel_rfl) (by kernel_rfl) (by kernel_rfl) (fun _ _ _ h => h) (Or.inl ⟨by rfl, ?_⟩) (by assumption) ?_
  case refine_2 => intro w hSw; (try dsimp only at hSw); go_simp; try with_reducible rfl
  try simp only [Act.put, List.setIfInBounds_toArray, List.set_cons_zero, List.set_cons_succ]
  refine wpAnyH_take (i := 2) (oi := ⟨some 31, _, _, _, _, none⟩) (v := ?_) rfl (by kernel_rfl) (by kernel_rfl) (by kernel_rfl) (fun _ _ _ h => h) (Or.inl ⟨by rfl, ?_⟩) (by assumption) ?_
  case refine_2 => intro w hSw; (try dsimp only at hSw); go_simp; try with_reducible rfl
  try simp only [Act.put, List.setIfInBounds_toArray, List.set_cons_zero, List.set_cons_succ]
  refine wpAnyH_take (i := 3) (oi := ⟨some 32, _, _, _, _, none⟩) (v := ?_) rfl (by kernel_rfl) (by kernel_rfl) (by kernel_rfl) (fun _ _ _ h => h) (Or.inl ⟨by rfl, ?_⟩) (by assumption) ?_
  case refine_2 => intro w hSw; (try dsimp only at hSw); go_simp; try with_reducible rfl
  try simp only [Act.put, List.setIfInBounds_toArray, List.set_cons_zero, List.set_cons_succ]
  refine wpAnyH_take (i := 4) (oi := ⟨some 33, _, _, _, _, none⟩) (v := ?_) rfl (by kernel_rfl) (by kernel_rfl) (by kernel_rfl) (fun _ _ _ h => h) (Or.inl ⟨by rfl, ?_⟩) (by assumption) ?_
  case refine_2 => intro w hSw; (try dsimp only at hSw); go_simp; try with_reducible rfl
  try simp only [Act.put, List.setIfInBounds_toArray, List.set_cons_zero, List.set_cons_succ]
  refine wpAnyH_take (i := 5) (oi := ⟨some 34, _, _, _, _, none⟩) (v := ?_) rfl (by kernel_rfl) (by kernel_rfl) (by kernel_rfl) (fun _ _ _ h => h) (Or.inl ⟨by rfl, ?_⟩) (by assumption) ?_
  case refine_2 => intro w hSw; (try dsimp only at hSw); go_simp; try with_reducible rfl
  try simp only [Act.put, List.setIfInBounds_toArray, List.set_cons_zero, List.set_cons_succ]
  refine wpAnyH_take (i := 6) (oi := ⟨some 35, _, _, _, _, none⟩) (v := ?_) rfl (by kernel_rfl) (by kernel_rfl) (by kernel_rfl) (fun _ _ _ h => h) (Or.inl ⟨by rfl, ?_⟩) (by assumption) ?_
  case refine_2 => intro w hSw; (try dsimp only at hSw); go_simp; try with_reducible rfl
  try simp only [Act.put, List.setIfInBounds_toArray, List.set_cons_zero, List.set_cons_succ]
  refine wpAnyH_take (i := 7) (oi := ⟨some 36, _, _, _, _, none⟩) (v := ?_) rfl (by kernel_rfl) (by kernel_rfl) (by kernel_rfl) (fun _ _ _ h => h) (Or.inl ⟨by rfl, ?_⟩) (by assumption) ?_
  case refine_2 => intro w hSw; (try dsimp only at hSw); go_simp; try with_reducible rfl
  try simp only [Act.put, List.setIfInBounds_toArray, List.set_cons_zero, List.set_cons_succ]
  refine wpAnyH_take (i := 8) (oi := ⟨some 37, _, _, _, _, none⟩) (v := ?_) rfl (by kernel_rfl) (by kernel_rfl) (by kernel_rfl) (fun _ _ _ h => h) (Or.inl ⟨by rfl, ?_⟩) (by assumption) ?_
  case refine_2 => intro w hSw; (try dsimp only at hSw); go_simp; try with_reducible rfl
  try simp only [Act.put, List.setIfInBounds_toArray, List.set_cons_zero, List.set_cons_succ]
  refine wpAnyH_ready (rs := [9]) (by kernel_rfl) (by simp) ?_
  refine AllReadyH.cons (o := ⟨some 38, _, _, _, _, none⟩) rfl (fun K hK => ?_) AllReadyH.nil
  refine Lt.step_ld rfl (.tmp 37) rfl HLD.out rfl ?_
  refine hK.out _ _ (HX0.out) (fun hHeld => ?_)
  clear hK K
  try simp only [Act.put, List.setIfInBounds_toArray, List.set_cons_zero, List.set_cons_succ]
  refine wpAnyH_ready (rs := [10]) (by kernel_rfl) (by simp) ?_
  refine AllReadyH.cons (o := ⟨some 39, _, _, _, _, none⟩) rfl (fun K hK => ?_) AllReadyH.nil
  go_simp
  have HQ := HCR.out
  refine HQ.mono ?_
  clear HQ
  rintro e w3 ⟨⟨r2, d2, rfl, hrw⟩, g3⟩
  have YP := HXP.out.only (show w2.grownBy w3 none from only_trans (only_drewN (only_refl w2 none) 1) g3) (by simp)
  have HX3 : Hid (w3.cell? ⟨w.heap.size, 0, none⟩ = some (.int .i64 kd) ∧ w3.cell? ⟨w.heap.size, 1, none⟩ = some (.int .i64 ((i : Int) + 1)) ∧ w3.cell? ⟨w.heap.size, 2, none⟩ = some (.int .i64 z)) := Lib.hid (Lt.box3c YP)
  have HR3 := Lib.hid (HRD.out.grown g3)
  have HB3 := Lib.hid (HB2.out.only (only_trans (only_drewN (only_refl w2 none) 1) g3) (by simp))
  have HG3 := Lib.hid (only_trans HG2.out (only_any (only_trans (only_drewN (only_refl w2 none) 1) g3) (some b)))
  have HYP := Lib.hid YP
  have HRW := Lib.hid hrw
  have hr3 := Lt.row_cells HR3.out HI.out
  have HST := Lib.hid (Lt.run_st w3 g (off + i * 16) (Lt.rowC r2 d2) (Lt.rowC_size _ _) (Lt.rowC_one _ _) hr3.2.1 hr3.2.2)
  clear g3 YP hrw hr3
  have HR4 := Lib.hid (Lt.row_set HR3.out HI.out r2 d2)
  have HG4 := Lib.hid (only_cells w3 g (off + i * 16) (Lt.rowC r2 d2).toList)
  obtain ⟨w4, hw4⟩ : ∃ w4, w4 = w3.setCells g (off + i * 16) (Lt.rowC r2 d2).toList := ⟨_, rfl⟩
  rw [← hw4] at HST HR4 HG4
  clear hw4
  have HX4 : Hid (w4.cell? ⟨w.heap.size, 0, none⟩ = some (.int .i64 kd) ∧ w4.cell? ⟨w.heap.size, 1, none⟩ = some (.int .i64 ((i : Int) + 1)) ∧ w4.cell? ⟨w.heap.size, 2, none⟩ = some (.int .i64 z)) := Lib.hid (Lt.box3c (HYP.out.only HG4.out (fun e => by injection e with e; have := HLT.out.2.1; omega)))
  have HB4 := Lib.hid (HB3.out.only HG4.out (fun e => by injection e with e; exact HLT.out.2.2 e.symm))
  obtain ⟨cs2, hcs2⟩ : ∃ cs2, cs2 = Lt.rowC r2 d2 := ⟨_, rfl⟩
  rw [← hcs2] at HST
  rw [← hcs2]
  clear hcs2
  try simp only []
  refine hK.out _ _ (HX3.out) (fun hHeld => ?_)
  clear hK K
  try simp only [Act.put, List.setIfInBounds_toArray, List.set_cons_zero, List.set_cons_succ]
  refine wpAnyH_take (i := 11) (oi := ⟨some 28, _, _, _, _, none⟩) (v := ?_) rfl (by kernel_rfl) (by kernel_rfl) (by kernel_rfl) (fun _ _ _ h => h) (Or.inl ⟨by rfl, ?_⟩) (by assumption) ?_
  case refine_2 => intro w hSw; (try dsimp only at hSw); go_simp; try with_reducible rfl
  try simp only [Act.put, List.setIfInBounds_toArray, List.set_cons_zero, List.set_cons_succ]
  refine wpAnyH_take (i := 12) (oi := ⟨some 40, _, _, _, _, none⟩) (v := ?_) rfl (by kernel_rfl) (by kernel_rfl) (by kernel_rfl) (fun _ _ _ h => h) (Or.inl ⟨by rfl, ?_⟩) (by assumption) ?_
  case refine_2 => intro w hSw; (try dsimp only at hSw); go_simp; try with_reducible rfl
  try simp only [Act.put, List.setIfInBounds_toArray, List.set_cons_zero, List.set_cons_succ]
  refine wpAnyH_take (i := 13) (oi := ⟨some 41, _, _, _, _, none⟩) (v := ?_) rfl (by kernel_rfl) (by kernel_rfl) (by kernel_rfl) (fun _ _ _ h => h) (Or.inl ⟨by rfl, ?_⟩) (by assumption) ?_
  case refine_2 => intro w hSw; (try dsimp only at hSw); go_simp; try with_reducible rfl
  try simp only [Act.put, List.setIfInBounds_toArray, List.set_cons_zero, List.set_cons_succ]
  refine wpAnyH_take (i := 14) (oi := ⟨some 42, _, _, _, _, none⟩) (v := ?_) rfl (by kernel_rfl) (by kernel_rfl) (by kernel_rfl) (fun _ _ _ h => h) (Or.inl ⟨by rfl, ?_⟩) (by assumption) ?_
  case refine_2 => intro w hSw; (try dsimp only at hSw); go_simp; try with_reducible rfl
  try simp only [Act.put, List.setIfInBounds_toArray, List.set_cons_zero, List.set_cons_succ]
  refine wpAnyH_ready (rs := [15]) (by kernel_rfl) (by simp) ?_
  refine AllReadyH.cons (o := ⟨none, _, _, _, _, none⟩) rfl (fun K hK => ?_) AllReadyH.nil
  refine Lt.step_st rfl (.tmp 42) (.tmp 40) rfl HST.out rfl rfl ?_
  refine hK.out _ _ (HX4.out) (fun hHeld => ?_)
  clear hK K
  try simp only [Act.put, List.setIfInBounds_toArray, List.set_cons_zero, List.set_cons_succ]
  refine wpAnyH_take (i := 16) (oi := ⟨some 9, _, _, _, _, none⟩) (v := ?_) rfl (by kernel_rfl) (by kernel_rfl) (by kernel_rfl) (fun _ _ _ h => h) (Or.inl ⟨by rfl, ?_⟩) (by assumption) ?_
  case refine_2 => intro w hSw; (try dsimp only at hSw); go_simp; try with_reducible rfl
  try simp only [Act.put, List.setIfInBounds_toArray, List.set_cons_zero, List.set_cons_succ]
  refine wpAnyH_done (by kernel_rfl) ?_ _
  go_wp2
  go_ret
  refine ⟨by first | rfl | (simp; done), ⟨_, HB4.out, HR4.out, fun j hj => ?_, fun e => by simp [Value.ownBlock] at e; exact HLT.out.2.2 e⟩, ?_⟩
  · by_cases e : j = i
    · subst e
      rw [Lt.upd_at]
      simp only [Lt.updX, if_true]
      exact HRW.out.mono (Nat.le_succ _)
    · rw [Lt.upd_off _ _ e]
      simp only [Lt.updX, if_neg e]
      exact (HREL.out j hj).mono (Nat.le_succ _)
  · refine (Keeps.of_only HG.out (fun k hk => by cases hk)).trans ?_
    refine (Keeps.of_only HG3.out (fun k hk => ?_)).trans (Keeps.of_only HG4.out (fun k hk => ?_))
    · injection hk with hk; exact .inl hk.symm
    · injection hk with hk; exact .inr (by simp [Value.ownBlock, hk])
end Go.Proofs.Ytbbgijjeimjgoaa
