import Derived.Test.YthhodadfiipffaaDoorZ42
set_option linter.all false
/- Package part: the law's do. -/
namespace Go.Proofs.YthhodadfiipffaaDoor
open Go.RowKit Go.Lib
set_option linter.unusedVariables false
set_option maxRecDepth 20000

set_option maxHeartbeats 12800000 in
theorem Pt.do_step (w : World) (B b m g : Nat) (p q : List UInt8) (ow : Int) (A : Option Addr) (n c : Nat) (s : Pt.Sm) (y : Pt.Dd) (h : Pt.Bo w B b m g p q ow A n c s) (hN : Nm w) (hy : y.o = false) : Calls Tryd.prog 11 #[.pointer (some ⟨b, 0, none⟩), .agg #[.slice A n c, .int .i64 s.pc, .int .i64 (s.r 0), .int .i64 (s.r 1), .int .i64 (s.r 2), .int .i64 (s.r 3), .int .i64 (s.r 4), .int .i64 (s.r 5), .int .i64 (s.r 6), .int .i64 (s.r 7), .int .i64 s.md], .agg #[.bool false, .int .i64 y.x.t, .int .i64 y.x.f, .int .i64 y.x.d, .int .i64 y.x.p, .int .i64 y.x.b]] w (Pt.DoV w B b m g p q ow A n s (Pt.stp s y.x)) := by
  obtain ⟨W0, hW0⟩ : ∃ W0, W0 = ((w.alloc (.cells #[.slice A n c, .int .i64 s.pc, .int .i64 (s.r 0), .int .i64 (s.r 1), .int .i64 (s.r 2), .int .i64 (s.r 3), .int .i64 (s.r 4), .int .i64 (s.r 5), .int .i64 (s.r 6), .int .i64 (s.r 7), .int .i64 s.md] 37)).alloc (.cells #[.bool false, .int .i64 y.x.t, .int .i64 y.x.f, .int .i64 y.x.d, .int .i64 y.x.p, .int .i64 y.x.b] 44)).alloc (.cells #[.slice none 0 0, .int .i64 0, .int .i64 0, .int .i64 0, .int .i64 0, .int .i64 0, .int .i64 0, .int .i64 0, .int .i64 0, .int .i64 0, .int .i64 0] 37) := ⟨_, rfl⟩
  have G0 := Lib.hid (show w.grownBy W0 none by rw [hW0]; exact only_alloc (only_alloc (only_alloc (only_refl _ none) _) _) _)
  have PB := Lib.hid (show Blk W0 w.heap.size 37 #[.slice A n c, .int .i64 s.pc, .int .i64 (s.r 0), .int .i64 (s.r 1), .int .i64 (s.r 2), .int .i64 (s.r 3), .int .i64 (s.r 4), .int .i64 (s.r 5), .int .i64 (s.r 6), .int .i64 (s.r 7), .int .i64 s.md] by rw [hW0]; exact ((Blk.new _ _ _).alloc _).alloc _)
  have FB := Lib.hid (show Blk W0 (w.heap.size + 1) 44 #[.bool false, .int .i64 y.x.t, .int .i64 y.x.f, .int .i64 y.x.d, .int .i64 y.x.p, .int .i64 y.x.b] by rw [hW0]; have := Blk.new (w.alloc (.cells #[.slice A n c, .int .i64 s.pc, .int .i64 (s.r 0), .int .i64 (s.r 1), .int .i64 (s.r 2), .int .i64 (s.r 3), .int .i64 (s.r 4), .int .i64 (s.r 5), .int .i64 (s.r 6), .int .i64 (s.r 7), .int .i64 s.md] 37)) 44 #[.bool false, .int .i64 y.x.t, .int .i64 y.x.f, .int .i64 y.x.d, .int .i64 y.x.p, .int .i64 y.x.b]; exact Blk.alloc (by simpa using this) _)
  have RB := Lib.hid (show Blk W0 (w.heap.size + 1 + 1) 37 #[.slice none 0 0, .int .i64 0, .int .i64 0, .int .i64 0, .int .i64 0, .int .i64 0, .int .i64 0, .int .i64 0, .int .i64 0, .int .i64 0, .int .i64 0] by rw [hW0]; have := Blk.new ((w.alloc (.cells #[.slice A n c, .int .i64 s.pc, .int .i64 (s.r 0), .int .i64 (s.r 1), .int .i64 (s.r 2), .int .i64 (s.r 3), .int .i64 (s.r 4), .int .i64 (s.r 5), .int .i64 (s.r 6), .int .i64 (s.r 7), .int .i64 s.md] 37)).alloc (.cells #[.bool false, .int .i64 y.x.t, .int .i64 y.x.f, .int .i64 y.x.d, .int .i64 y.x.p, .int .i64 y.x.b] 44)) 37 #[.slice none 0 0, .int .i64 0, .int .i64 0, .int .i64 0, .int .i64 0, .int .i64 0, .int .i64 0, .int .i64 0, .int .i64 0, .int .i64 0, .int .i64 0]; simpa using this)
  have HZ0 := Lib.hid (show W0.heap.size = w.heap.size + 1 + 1 + 1 by rw [hW0]; simp)
  have HB := Lib.hid h
  have HLT := Lib.hid h.a.lt
  have HI6 := Lib.hid (Cu.offi_new (i := w.heap.size + 1 + 1) h.i (by omega))
  obtain ⟨t, ht⟩ : ∃ t, Pt.stp s y.x = t := ⟨_, rfl⟩
  obtain ⟨fl, hfl⟩ : ∃ fl, Pt.stf s = fl := ⟨_, rfl⟩
  obtain ⟨l, hl⟩ : ∃ l, Pt.stl s y.x = l := ⟨_, rfl⟩
  have HTL := Lib.hid (show t.v.length = n from by rw [← ht]; exact (Pt.stp_len s y.x).trans h.ln)
  rw [ht]
  have HFA := Lib.hid (fun W => Pt.facts_any y.x W)
  have HRS := Lib.hid (fun W (g : W0.grownBy W none) => show Calls Tryd.prog 31 #[.agg #[.slice A n c, .int .i64 s.pc, .int .i64 (s.r 0), .int .i64 (s.r 1), .int .i64 (s.r 2), .int .i64 (s.r 3), .int .i64 (s.r 4), .int .i64 (s.r 5), .int .i64 (s.r 6), .int .i64 (s.r 7), .int .i64 s.md], .agg #[.int .i64 y.x.t, .int .i64 y.x.f, .int .i64 y.x.d, .int .i64 y.x.p, .int .i64 y.x.b]] W (Pt.RstV W A n s.v t.v t.pc t.r t.md l fl) from by
    have := Pt.rstep27_any W A n c s h.ln h.l1 h.a.pcb (Cu.ints_gr h.i (only_trans G0.out g)) y.x
    rw [ht, hl, hfl] at this
    exact this)
  have HST := Lib.hid (fun W (gg : W0.grownBy W none) => show Calls Tryd.prog 16 #[.pointer (some ⟨b, 0, none⟩), .agg #[.int .i64 y.x.t, .int .i64 y.x.f, .int .i64 y.x.d, .int .i64 y.x.p, .int .i64 y.x.b]] W (Pt.StepV W B b m g p t.v q ow t.pc t.r t.md l fl) from by
    have := Pt.step_any (h.a.grown (only_trans G0.out gg)) (hN.grown (only_trans G0.out gg) (by simp)) y.x
    rw [ht, hl, hfl] at this
    exact this)
  have HIA := Lib.hid (fun i (hi : W0.heap.size ≤ i) => Cu.offi_new (i := i) h.i (by have := G0.out.size; omega))
  have SX := Lib.hid (fun W1 (g : W0.grownBy W1 none) => show (W1.cell? ⟨w.heap.size, 0, none⟩ = some (.slice A n c)) ∧ (W1.cell? ⟨w.heap.size, 1, none⟩ = some (.int .i64 s.pc)) ∧ (W1.cell? ⟨w.heap.size, 2, none⟩ = some (.int .i64 (s.r 0))) ∧ (W1.cell? ⟨w.heap.size, 3, none⟩ = some (.int .i64 (s.r 1))) ∧ (W1.cell? ⟨w.heap.size, 4, none⟩ = some (.int .i64 (s.r 2))) ∧ (W1.cell? ⟨w.heap.size, 5, none⟩ = some (.int .i64 (s.r 3))) ∧ (W1.cell? ⟨w.heap.size, 6, none⟩ = some (.int .i64 (s.r 4))) ∧ (W1.cell? ⟨w.heap.size, 7, none⟩ = some (.int .i64 (s.r 5))) ∧ (W1.cell? ⟨w.heap.size, 8, none⟩ = some (.int .i64 (s.r 6))) ∧ (W1.cell? ⟨w.heap.size, 9, none⟩ = some (.int .i64 (s.r 7))) ∧ (W1.cell? ⟨w.heap.size, 10, none⟩ = some (.int .i64 s.md)) ∧ (W1.cell? ⟨(w.heap.size + 1), 1, none⟩ = some (.int .i64 y.x.t)) ∧ (W1.cell? ⟨(w.heap.size + 1), 2, none⟩ = some (.int .i64 y.x.f)) ∧ (W1.cell? ⟨(w.heap.size + 1), 3, none⟩ = some (.int .i64 y.x.d)) ∧ (W1.cell? ⟨(w.heap.size + 1), 4, none⟩ = some (.int .i64 y.x.p)) ∧ (W1.cell? ⟨(w.heap.size + 1), 5, none⟩ = some (.int .i64 y.x.b)) from by have q1 := PB.out.only g (by simp); have q2 := FB.out.only g (by simp); exact ⟨q1.cell 0, q1.cell 1, q1.cell 2, q1.cell 3, q1.cell 4, q1.cell 5, q1.cell 6, q1.cell 7, q1.cell 8, q1.cell 9, q1.cell 10, q2.cell 1, q2.cell 2, q2.cell 3, q2.cell 4, q2.cell 5⟩)
  clear h ht hfl hl hN
  obtain ⟨p0, p1, p2, p3, p4, p5, p6, p7, p8, p9, p10⟩ := Pt.cells11 PB.out
  obtain ⟨d0, d1, d2, d3, d4, d5⟩ := Pt.cells6 FB.out
  go_enter Tryd.func11, Tryd.ntmps11
  go_upto_region 1 with (fail)
  rw [← hW0]
  clear hW0
  go_upto_region 4 with (fail)
  clear p0 p1 p2 p3 p4 p5 p6 p7 p8 p9 p10 d0 d1 d2 d3 d4 d5
  go_cut [10, 11, 12] from 15 to 63 (fun a1 a2 a3 wx => ∃ (b10 c' : Nat) (A' : Option Addr) (v2 : Value), a1 = .pointer (some ⟨b10, 0, none⟩) ∧ a2 = v2 ∧ a3 = .bool fl ∧ Hid (Blk wx b10 37 #[.slice A' n c', .int .i64 t.pc, .int .i64 (t.r 0), .int .i64 (t.r 1), .int .i64 (t.r 2), .int .i64 (t.r 3), .int .i64 (t.r 4), .int .i64 (t.r 5), .int .i64 (t.r 6), .int .i64 (t.r 7), .int .i64 t.md]) ∧ Hid (Pt.MkR wx v2 l) ∧ Hid (Ints wx A' c' (num t.v)) ∧ Hid (W0.grownBy wx none) ∧ Hid (W0.heap.size ≤ b10) ∧ Hid (∀ i, v2.ownBlock = some i → W0.heap.size ≤ i) ∧ Hid (∀ i, i < W0.heap.size → OffI s.v A i → OffI t.v A' i))
  case first =>
    refine wp_region_held_drew (S := fun w' => (w'.cell? ⟨w.heap.size, 0, none⟩ = some (.slice A n c)) ∧ (w'.cell? ⟨w.heap.size, 1, none⟩ = some (.int .i64 s.pc)) ∧ (w'.cell? ⟨w.heap.size, 2, none⟩ = some (.int .i64 (s.r 0))) ∧ (w'.cell? ⟨w.heap.size, 3, none⟩ = some (.int .i64 (s.r 1))) ∧ (w'.cell? ⟨w.heap.size, 4, none⟩ = some (.int .i64 (s.r 2))) ∧ (w'.cell? ⟨w.heap.size, 5, none⟩ = some (.int .i64 (s.r 3))) ∧ (w'.cell? ⟨w.heap.size, 6, none⟩ = some (.int .i64 (s.r 4))) ∧ (w'.cell? ⟨w.heap.size, 7, none⟩ = some (.int .i64 (s.r 5))) ∧ (w'.cell? ⟨w.heap.size, 8, none⟩ = some (.int .i64 (s.r 6))) ∧ (w'.cell? ⟨w.heap.size, 9, none⟩ = some (.int .i64 (s.r 7))) ∧ (w'.cell? ⟨w.heap.size, 10, none⟩ = some (.int .i64 s.md)) ∧ (w'.cell? ⟨(w.heap.size + 1), 1, none⟩ = some (.int .i64 y.x.t)) ∧ (w'.cell? ⟨(w.heap.size + 1), 2, none⟩ = some (.int .i64 y.x.f)) ∧ (w'.cell? ⟨(w.heap.size + 1), 3, none⟩ = some (.int .i64 y.x.d)) ∧ (w'.cell? ⟨(w.heap.size + 1), 4, none⟩ = some (.int .i64 y.x.p)) ∧ (w'.cell? ⟨(w.heap.size + 1), 5, none⟩ = some (.int .i64 y.x.b))) (by kernel_rfl) (SX.out _ (only_drewN (only_refl _ none) 1)) (fun hHeld => ?_)
    refine wpAnyH_take (i := 0) (oi := _) (v := ?_) rfl (by kernel_rfl) (by kernel_rfl) (by kernel_rfl) (fun _ _ _ h => h) (Or.inl ⟨by rfl, ?_⟩) (by assumption) ?_
    case refine_2 => intro w hSw; (try dsimp only at hSw); go_simp; try with_reducible rfl
    try simp only [Act.put, List.setIfInBounds_toArray, List.set_cons_zero, List.set_cons_succ]
    refine wpAnyH_take (i := 1) (oi := _) (v := ?_) rfl (by kernel_rfl) (by kernel_rfl) (by kernel_rfl) (fun _ _ _ h => h) (Or.inl ⟨by rfl, ?_⟩) (by assumption) ?_
    case refine_2 => intro w hSw; (try dsimp only at hSw); go_simp; try with_reducible rfl
    try simp only [Act.put, List.setIfInBounds_toArray, List.set_cons_zero, List.set_cons_succ]
    refine wpAnyH_take (i := 2) (oi := _) (v := ?_) rfl (by kernel_rfl) (by kernel_rfl) (by kernel_rfl) (fun _ _ _ h => h) (Or.inl ⟨by rfl, ?_⟩) (by assumption) ?_
    case refine_2 => intro w hSw; (try dsimp only at hSw); go_simp; try with_reducible rfl
    try simp only [Act.put, List.setIfInBounds_toArray, List.set_cons_zero, List.set_cons_succ]
    refine wpAnyH_ready (rs := [3, 9]) (by kernel_rfl) (by simp) ?_
    refine AllReadyH.cons (o := _) rfl (fun K hK => ?_) ?_
    · skip
      go_simp
      go_at_call 22
      (with_reducible refine (HFA.out _).mono ?_)
      rintro e w1 ⟨rfl, g1⟩
      have G1 := Lib.hid (only_trans (only_drewN (only_refl W0 none) 1) g1)
      have HG1 := Lib.hid g1
      clear g1
      refine hK.out _ _ (SX.out _ G1.out) (fun hHeld => ?_)
      clear hK K
      try simp only [Act.put, List.setIfInBounds_toArray, List.set_cons_zero, List.set_cons_succ]
      refine wpAnyH_ready (rs := [4, 9]) (by kernel_rfl) (by simp) ?_
      refine AllReadyH.cons (o := _) rfl (fun K hK => ?_) ?_
      · skip
        go_simp
        go_at_call 31
        (with_reducible refine (HRS.out _ G1.out).mono ?_)
        rintro e w2 ⟨A', c', v2, rfl, hr2, ha2, g2, ho2, hof2⟩
        have R2 := Lib.hid hr2
        have HA2 := Lib.hid ha2
        have G2 := Lib.hid (only_trans G1.out g2)
        have HG2 := Lib.hid g2
        have HO2 := Lib.hid ho2
        have HOF2 := Lib.hid hof2
        have HSZ1 := Lib.hid (show W0.heap.size ≤ _ from G1.out.size)
        clear hr2 ha2 g2 ho2 hof2
        refine hK.out _ _ (SX.out _ G2.out) (fun hHeld => ?_)
        clear hK K
        try simp only [Act.put, List.setIfInBounds_toArray, List.set_cons_zero, List.set_cons_succ]
        refine wpAnyH_take (i := 5) (oi := _) (v := ?_) rfl (by kernel_rfl) (by kernel_rfl) (by kernel_rfl) (fun _ _ _ h => h) (Or.inl ⟨by rfl, ?_⟩) (by assumption) ?_
        case refine_2 => intro w hSw; (try dsimp only at hSw); go_simp; try with_reducible rfl
        try simp only [Act.put, List.setIfInBounds_toArray, List.set_cons_zero, List.set_cons_succ]
        refine wpAnyH_take (i := 6) (oi := _) (v := ?_) rfl (by kernel_rfl) (by kernel_rfl) (by kernel_rfl) (fun _ _ _ h => h) (Or.inl ⟨by rfl, ?_⟩) (by assumption) ?_
        case refine_2 => intro w hSw; (try dsimp only at hSw); go_simp; try with_reducible rfl
        try simp only [Act.put, List.setIfInBounds_toArray, List.set_cons_zero, List.set_cons_succ]
        refine wpAnyH_take (i := 7) (oi := _) (v := ?_) rfl (by kernel_rfl) (by kernel_rfl) (by kernel_rfl) (fun _ _ _ h => h) (Or.inl ⟨by rfl, ?_⟩) (by assumption) ?_
        case refine_2 => intro w hSw; (try dsimp only at hSw); go_simp; try with_reducible rfl
        try simp only [Act.put, List.setIfInBounds_toArray, List.set_cons_zero, List.set_cons_succ]
        refine wpAnyH_take (i := 8) (oi := _) (v := ?_) rfl (by kernel_rfl) (by kernel_rfl) (by kernel_rfl) (fun _ _ _ h => h) (Or.inl ⟨by rfl, ?_⟩) (by assumption) ?_
        case refine_2 => intro w hSw; (try dsimp only at hSw); go_simp; try with_reducible rfl
        try simp only [Act.put, List.setIfInBounds_toArray, List.set_cons_zero, List.set_cons_succ]
        refine wpAnyH_ready (rs := [9]) (by kernel_rfl) (by simp) ?_
        refine AllReadyH.cons (o := _) rfl (fun K hK => ?_) AllReadyH.nil
        go_simp
        refine hK.out _ _ (SX.out _ (only_alloc G2.out (.cells #[.slice none 0 0, .int .i64 0, .int .i64 0, .int .i64 0, .int .i64 0, .int .i64 0, .int .i64 0, .int .i64 0, .int .i64 0, .int .i64 0, .int .i64 0] 37))) (fun hHeld => ?_)
        clear hK K
        try simp only [Act.put, List.setIfInBounds_toArray, List.set_cons_zero, List.set_cons_succ]
        obtain ⟨W9, hW9⟩ : ∃ W9, W9 = w2.alloc (.cells #[.slice A' n c', .int .i64 t.pc, .int .i64 (t.r 0), .int .i64 (t.r 1), .int .i64 (t.r 2), .int .i64 (t.r 3), .int .i64 (t.r 4), .int .i64 (t.r 5), .int .i64 (t.r 6), .int .i64 (t.r 7), .int .i64 t.md] 37) := ⟨_, rfl⟩
        have k9 : w2.grownBy W9 none := by rw [hW9]; exact only_alloc (only_refl _ none) _
        have b9 : Blk W9 w2.heap.size 37 #[.slice A' n c', .int .i64 t.pc, .int .i64 (t.r 0), .int .i64 (t.r 1), .int .i64 (t.r 2), .int .i64 (t.r 3), .int .i64 (t.r 4), .int .i64 (t.r 5), .int .i64 (t.r 6), .int .i64 (t.r 7), .int .i64 t.md] := by rw [hW9]; exact Blk.new _ _ _
        have G9 := Lib.hid (only_trans G2.out k9)
        have M9 := Lib.hid (R2.out.grown k9)
        have A9 := Lib.hid (Cu.ints_gr HA2.out k9)
        have B9 := Lib.hid b9
        have HB9 := Lib.hid (show W0.heap.size ≤ w2.heap.size from G2.out.size)
        refine wpAnyH_ready (rs := [10]) (by kernel_rfl) (by simp) ?_
        refine AllReadyH.cons (o := _) rfl (fun K hK => ?_) AllReadyH.nil
        go_simp
        rw [← hW9]
        refine hK.out _ _ (SX.out _ G9.out) (fun hHeld => ?_)
        clear hK K
        try simp only [Act.put, List.setIfInBounds_toArray, List.set_cons_zero, List.set_cons_succ]
        refine wpAnyH_take (i := 11) (oi := ⟨some 11, _, _, _, _, none⟩) (v := ?_) rfl (by kernel_rfl) (by kernel_rfl) (by kernel_rfl) (fun _ _ _ h => h) (Or.inl ⟨by rfl, ?_⟩) (by assumption) ?_
        case refine_2 => intro w hSw; (try dsimp only at hSw); go_simp; try with_reducible rfl
        try simp only [Act.put, List.setIfInBounds_toArray, List.set_cons_zero, List.set_cons_succ]
        refine wpAnyH_take (i := 12) (oi := ⟨some 12, _, _, _, _, none⟩) (v := ?_) rfl (by kernel_rfl) (by kernel_rfl) (by kernel_rfl) (fun _ _ _ h => h) (Or.inl ⟨by rfl, ?_⟩) (by assumption) ?_
        case refine_2 => intro w hSw; (try dsimp only at hSw); go_simp; try with_reducible rfl
        try simp only [Act.put, List.setIfInBounds_toArray, List.set_cons_zero, List.set_cons_succ]
        refine wpAnyH_done (by kernel_rfl) ?_ _
        clear hW9 k9 b9
        go_wp2_with (fail)
        go_meet
        case rel => exact ⟨w2.heap.size, c', A', v2, rfl, rfl, rfl, B9, M9, A9, G9, HB9, Lib.hid (fun i e => Nat.le_trans HSZ1.out (HO2.out i e)), Lib.hid (fun i hi ho => HOF2.out i (Nat.lt_of_lt_of_le hi HSZ1.out) ho)⟩
      · skip
        refine AllReadyH.cons (o := _) rfl (fun K hK => ?_) AllReadyH.nil
        go_simp
        refine hK.out _ _ (SX.out _ (only_alloc G1.out (.cells #[.slice none 0 0, .int .i64 0, .int .i64 0, .int .i64 0, .int .i64 0, .int .i64 0, .int .i64 0, .int .i64 0, .int .i64 0, .int .i64 0, .int .i64 0] 37))) (fun hHeld => ?_)
        clear hK K
        try simp only [Act.put, List.setIfInBounds_toArray, List.set_cons_zero, List.set_cons_succ]
        have G1b := Lib.hid (only_alloc G1.out (.cells #[.slice none 0 0, .int .i64 0, .int .i64 0, .int .i64 0, .int .i64 0, .int .i64 0, .int .i64 0, .int .i64 0, .int .i64 0, .int .i64 0, .int .i64 0] 37))
        refine wpAnyH_ready (rs := [4]) (by kernel_rfl) (by simp) ?_
        refine AllReadyH.cons (o := _) rfl (fun K hK => ?_) AllReadyH.nil
        go_simp
        go_at_call 31
        (with_reducible refine (HRS.out _ G1b.out).mono ?_)
        rintro e w2 ⟨A', c', v2, rfl, hr2, ha2, g2, ho2, hof2⟩
        have R2 := Lib.hid hr2
        have HA2 := Lib.hid ha2
        have G2 := Lib.hid (only_trans G1b.out g2)
        have HG2 := Lib.hid g2
        have HO2 := Lib.hid ho2
        have HOF2 := Lib.hid hof2
        have HSZ1 := Lib.hid (show W0.heap.size ≤ _ from G1b.out.size)
        clear hr2 ha2 g2 ho2 hof2
        refine hK.out _ _ (SX.out _ G2.out) (fun hHeld => ?_)
        clear hK K
        try simp only [Act.put, List.setIfInBounds_toArray, List.set_cons_zero, List.set_cons_succ]
        refine wpAnyH_take (i := 5) (oi := _) (v := ?_) rfl (by kernel_rfl) (by kernel_rfl) (by kernel_rfl) (fun _ _ _ h => h) (Or.inl ⟨by rfl, ?_⟩) (by assumption) ?_
        case refine_2 => intro w hSw; (try dsimp only at hSw); go_simp; try with_reducible rfl
        try simp only [Act.put, List.setIfInBounds_toArray, List.set_cons_zero, List.set_cons_succ]
        refine wpAnyH_take (i := 6) (oi := _) (v := ?_) rfl (by kernel_rfl) (by kernel_rfl) (by kernel_rfl) (fun _ _ _ h => h) (Or.inl ⟨by rfl, ?_⟩) (by assumption) ?_
        case refine_2 => intro w hSw; (try dsimp only at hSw); go_simp; try with_reducible rfl
        try simp only [Act.put, List.setIfInBounds_toArray, List.set_cons_zero, List.set_cons_succ]
        refine wpAnyH_take (i := 7) (oi := _) (v := ?_) rfl (by kernel_rfl) (by kernel_rfl) (by kernel_rfl) (fun _ _ _ h => h) (Or.inl ⟨by rfl, ?_⟩) (by assumption) ?_
        case refine_2 => intro w hSw; (try dsimp only at hSw); go_simp; try with_reducible rfl
        try simp only [Act.put, List.setIfInBounds_toArray, List.set_cons_zero, List.set_cons_succ]
        refine wpAnyH_take (i := 8) (oi := _) (v := ?_) rfl (by kernel_rfl) (by kernel_rfl) (by kernel_rfl) (fun _ _ _ h => h) (Or.inl ⟨by rfl, ?_⟩) (by assumption) ?_
        case refine_2 => intro w hSw; (try dsimp only at hSw); go_simp; try with_reducible rfl
        try simp only [Act.put, List.setIfInBounds_toArray, List.set_cons_zero, List.set_cons_succ]
        have hbk : Blk w2 (w1.heap.size) 37 #[.slice none 0 0, .int .i64 0, .int .i64 0, .int .i64 0, .int .i64 0, .int .i64 0, .int .i64 0, .int .i64 0, .int .i64 0, .int .i64 0, .int .i64 0] := (Blk.new w1 _ _).only HG2.out (by simp)
        obtain ⟨z0, z1, z2, z3, z4, z5, z6, z7, z8, z9, z10⟩ := Pt.cells11 hbk
        obtain ⟨y0, y1, y2, y3, y4, y5, y6, y7, y8, y9, y10⟩ := Pt.free11 hbk
        obtain ⟨W9, hW9⟩ : ∃ W9, W9 = (((((((((((w2.setCell ⟨w1.heap.size, 0, none⟩ (.slice A' n c')).setCell ⟨w1.heap.size, 1, none⟩ (.int .i64 t.pc)).setCell ⟨w1.heap.size, 2, none⟩ (.int .i64 (t.r 0))).setCell ⟨w1.heap.size, 3, none⟩ (.int .i64 (t.r 1))).setCell ⟨w1.heap.size, 4, none⟩ (.int .i64 (t.r 2))).setCell ⟨w1.heap.size, 5, none⟩ (.int .i64 (t.r 3))).setCell ⟨w1.heap.size, 6, none⟩ (.int .i64 (t.r 4))).setCell ⟨w1.heap.size, 7, none⟩ (.int .i64 (t.r 5))).setCell ⟨w1.heap.size, 8, none⟩ (.int .i64 (t.r 6))).setCell ⟨w1.heap.size, 9, none⟩ (.int .i64 (t.r 7))).setCell ⟨w1.heap.size, 10, none⟩ (.int .i64 t.md)) := ⟨_, rfl⟩
        obtain ⟨k9, b9⟩ := Pt.put11 hbk (.slice A' n c') (.int .i64 t.pc) (.int .i64 (t.r 0)) (.int .i64 (t.r 1)) (.int .i64 (t.r 2)) (.int .i64 (t.r 3)) (.int .i64 (t.r 4)) (.int .i64 (t.r 5)) (.int .i64 (t.r 6)) (.int .i64 (t.r 7)) (.int .i64 t.md) W9 hW9
        have HB9 := Lib.hid (show W0.heap.size ≤ w1.heap.size from G1.out.size)
        have HL9 := Lib.hid (show w1.heap.size < _ from show w1.heap.size < (w1.alloc (.cells #[.slice none 0 0, .int .i64 0, .int .i64 0, .int .i64 0, .int .i64 0, .int .i64 0, .int .i64 0, .int .i64 0, .int .i64 0, .int .i64 0, .int .i64 0] 37)).heap.size by simp)
        have G9 := Lib.hid (Pt.grow_box G2.out k9 HB9.out)
        have M9 := Lib.hid (R2.out.off (fun i e => by have h1 := HO2.out i e; have h2 := HL9.out; omega) k9)
        have A9 := Lib.hid (HA2.out.farI k9 (HOF2.out _ HL9.out (HIA.out _ HB9.out)))
        have B9 := Lib.hid b9
        refine wpAnyH_ready (rs := [10]) (by kernel_rfl) (by simp) ?_
        refine AllReadyH.cons (o := _) rfl (fun K hK => ?_) AllReadyH.nil
        go_simp
        rw [← hW9]
        refine hK.out _ _ (SX.out _ G9.out) (fun hHeld => ?_)
        clear hK K
        try simp only [Act.put, List.setIfInBounds_toArray, List.set_cons_zero, List.set_cons_succ]
        refine wpAnyH_take (i := 11) (oi := ⟨some 11, _, _, _, _, none⟩) (v := ?_) rfl (by kernel_rfl) (by kernel_rfl) (by kernel_rfl) (fun _ _ _ h => h) (Or.inl ⟨by rfl, ?_⟩) (by assumption) ?_
        case refine_2 => intro w hSw; (try dsimp only at hSw); go_simp; try with_reducible rfl
        try simp only [Act.put, List.setIfInBounds_toArray, List.set_cons_zero, List.set_cons_succ]
        refine wpAnyH_take (i := 12) (oi := ⟨some 12, _, _, _, _, none⟩) (v := ?_) rfl (by kernel_rfl) (by kernel_rfl) (by kernel_rfl) (fun _ _ _ h => h) (Or.inl ⟨by rfl, ?_⟩) (by assumption) ?_
        case refine_2 => intro w hSw; (try dsimp only at hSw); go_simp; try with_reducible rfl
        try simp only [Act.put, List.setIfInBounds_toArray, List.set_cons_zero, List.set_cons_succ]
        refine wpAnyH_done (by kernel_rfl) ?_ _
        clear hW9 k9 b9 hbk z0 z1 z2 z3 z4 z5 z6 z7 z8 z9 z10 y0 y1 y2 y3 y4 y5 y6 y7 y8 y9 y10
        go_wp2_with (fail)
        go_meet
        case rel => exact ⟨w1.heap.size, c', A', v2, rfl, rfl, rfl, B9, M9, A9, G9, HB9, Lib.hid (fun i e => Nat.le_trans HSZ1.out (HO2.out i e)), Lib.hid (fun i hi ho => HOF2.out i (Nat.lt_of_lt_of_le hi HSZ1.out) ho)⟩
    · skip
      refine AllReadyH.cons (o := _) rfl (fun K hK => ?_) AllReadyH.nil
      go_simp
      refine hK.out _ _ (SX.out _ (only_alloc (only_drewN (only_refl W0 none) 1) (.cells #[.slice none 0 0, .int .i64 0, .int .i64 0, .int .i64 0, .int .i64 0, .int .i64 0, .int .i64 0, .int .i64 0, .int .i64 0, .int .i64 0, .int .i64 0] 37))) (fun hHeld => ?_)
      clear hK K
      try simp only [Act.put, List.setIfInBounds_toArray, List.set_cons_zero, List.set_cons_succ]
      refine wpAnyH_ready (rs := [3]) (by kernel_rfl) (by simp) ?_
      refine AllReadyH.cons (o := _) rfl (fun K hK => ?_) AllReadyH.nil
      go_simp
      go_at_call 22
      (with_reducible refine (HFA.out _).mono ?_)
      rintro e w1 ⟨rfl, g1⟩
      have G1 := Lib.hid (only_trans (only_alloc (only_drewN (only_refl W0 none) 1) (.cells #[.slice none 0 0, .int .i64 0, .int .i64 0, .int .i64 0, .int .i64 0, .int .i64 0, .int .i64 0, .int .i64 0, .int .i64 0, .int .i64 0, .int .i64 0] 37)) g1)
      have HG1 := Lib.hid g1
      clear g1
      refine hK.out _ _ (SX.out _ G1.out) (fun hHeld => ?_)
      clear hK K
      try simp only [Act.put, List.setIfInBounds_toArray, List.set_cons_zero, List.set_cons_succ]
      refine wpAnyH_ready (rs := [4]) (by kernel_rfl) (by simp) ?_
      refine AllReadyH.cons (o := _) rfl (fun K hK => ?_) AllReadyH.nil
      go_simp
      go_at_call 31
      (with_reducible refine (HRS.out _ G1.out).mono ?_)
      rintro e w2 ⟨A', c', v2, rfl, hr2, ha2, g2, ho2, hof2⟩
      have R2 := Lib.hid hr2
      have HA2 := Lib.hid ha2
      have G2 := Lib.hid (only_trans G1.out g2)
      have HG2 := Lib.hid g2
      have HO2 := Lib.hid ho2
      have HOF2 := Lib.hid hof2
      have HSZ1 := Lib.hid (show W0.heap.size ≤ _ from G1.out.size)
      clear hr2 ha2 g2 ho2 hof2
      refine hK.out _ _ (SX.out _ G2.out) (fun hHeld => ?_)
      clear hK K
      try simp only [Act.put, List.setIfInBounds_toArray, List.set_cons_zero, List.set_cons_succ]
      refine wpAnyH_take (i := 5) (oi := _) (v := ?_) rfl (by kernel_rfl) (by kernel_rfl) (by kernel_rfl) (fun _ _ _ h => h) (Or.inl ⟨by rfl, ?_⟩) (by assumption) ?_
      case refine_2 => intro w hSw; (try dsimp only at hSw); go_simp; try with_reducible rfl
      try simp only [Act.put, List.setIfInBounds_toArray, List.set_cons_zero, List.set_cons_succ]
      refine wpAnyH_take (i := 6) (oi := _) (v := ?_) rfl (by kernel_rfl) (by kernel_rfl) (by kernel_rfl) (fun _ _ _ h => h) (Or.inl ⟨by rfl, ?_⟩) (by assumption) ?_
      case refine_2 => intro w hSw; (try dsimp only at hSw); go_simp; try with_reducible rfl
      try simp only [Act.put, List.setIfInBounds_toArray, List.set_cons_zero, List.set_cons_succ]
      refine wpAnyH_take (i := 7) (oi := _) (v := ?_) rfl (by kernel_rfl) (by kernel_rfl) (by kernel_rfl) (fun _ _ _ h => h) (Or.inl ⟨by rfl, ?_⟩) (by assumption) ?_
      case refine_2 => intro w hSw; (try dsimp only at hSw); go_simp; try with_reducible rfl
      try simp only [Act.put, List.setIfInBounds_toArray, List.set_cons_zero, List.set_cons_succ]
      refine wpAnyH_take (i := 8) (oi := _) (v := ?_) rfl (by kernel_rfl) (by kernel_rfl) (by kernel_rfl) (fun _ _ _ h => h) (Or.inl ⟨by rfl, ?_⟩) (by assumption) ?_
      case refine_2 => intro w hSw; (try dsimp only at hSw); go_simp; try with_reducible rfl
      try simp only [Act.put, List.setIfInBounds_toArray, List.set_cons_zero, List.set_cons_succ]
      have hbk : Blk w2 (W0.heap.size) 37 #[.slice none 0 0, .int .i64 0, .int .i64 0, .int .i64 0, .int .i64 0, .int .i64 0, .int .i64 0, .int .i64 0, .int .i64 0, .int .i64 0, .int .i64 0] := (((Blk.new W0 _ _).drewN 1).only HG1.out (by simp)).only HG2.out (by simp)
      obtain ⟨z0, z1, z2, z3, z4, z5, z6, z7, z8, z9, z10⟩ := Pt.cells11 hbk
      obtain ⟨y0, y1, y2, y3, y4, y5, y6, y7, y8, y9, y10⟩ := Pt.free11 hbk
      obtain ⟨W9, hW9⟩ : ∃ W9, W9 = (((((((((((w2.setCell ⟨W0.heap.size, 0, none⟩ (.slice A' n c')).setCell ⟨W0.heap.size, 1, none⟩ (.int .i64 t.pc)).setCell ⟨W0.heap.size, 2, none⟩ (.int .i64 (t.r 0))).setCell ⟨W0.heap.size, 3, none⟩ (.int .i64 (t.r 1))).setCell ⟨W0.heap.size, 4, none⟩ (.int .i64 (t.r 2))).setCell ⟨W0.heap.size, 5, none⟩ (.int .i64 (t.r 3))).setCell ⟨W0.heap.size, 6, none⟩ (.int .i64 (t.r 4))).setCell ⟨W0.heap.size, 7, none⟩ (.int .i64 (t.r 5))).setCell ⟨W0.heap.size, 8, none⟩ (.int .i64 (t.r 6))).setCell ⟨W0.heap.size, 9, none⟩ (.int .i64 (t.r 7))).setCell ⟨W0.heap.size, 10, none⟩ (.int .i64 t.md)) := ⟨_, rfl⟩
      obtain ⟨k9, b9⟩ := Pt.put11 hbk (.slice A' n c') (.int .i64 t.pc) (.int .i64 (t.r 0)) (.int .i64 (t.r 1)) (.int .i64 (t.r 2)) (.int .i64 (t.r 3)) (.int .i64 (t.r 4)) (.int .i64 (t.r 5)) (.int .i64 (t.r 6)) (.int .i64 (t.r 7)) (.int .i64 t.md) W9 hW9
      have HB9 := Lib.hid (show W0.heap.size ≤ W0.heap.size from Nat.le_refl _)
      have HL9 := Lib.hid (show W0.heap.size < _ from show W0.heap.size < w1.heap.size by have := HG1.out.size; simp at this; omega)
      have G9 := Lib.hid (Pt.grow_box G2.out k9 HB9.out)
      have M9 := Lib.hid (R2.out.off (fun i e => by have h1 := HO2.out i e; have h2 := HL9.out; omega) k9)
      have A9 := Lib.hid (HA2.out.farI k9 (HOF2.out _ HL9.out (HIA.out _ HB9.out)))
      have B9 := Lib.hid b9
      refine wpAnyH_ready (rs := [10]) (by kernel_rfl) (by simp) ?_
      refine AllReadyH.cons (o := _) rfl (fun K hK => ?_) AllReadyH.nil
      go_simp
      rw [← hW9]
      refine hK.out _ _ (SX.out _ G9.out) (fun hHeld => ?_)
      clear hK K
      try simp only [Act.put, List.setIfInBounds_toArray, List.set_cons_zero, List.set_cons_succ]
      refine wpAnyH_take (i := 11) (oi := ⟨some 11, _, _, _, _, none⟩) (v := ?_) rfl (by kernel_rfl) (by kernel_rfl) (by kernel_rfl) (fun _ _ _ h => h) (Or.inl ⟨by rfl, ?_⟩) (by assumption) ?_
      case refine_2 => intro w hSw; (try dsimp only at hSw); go_simp; try with_reducible rfl
      try simp only [Act.put, List.setIfInBounds_toArray, List.set_cons_zero, List.set_cons_succ]
      refine wpAnyH_take (i := 12) (oi := ⟨some 12, _, _, _, _, none⟩) (v := ?_) rfl (by kernel_rfl) (by kernel_rfl) (by kernel_rfl) (fun _ _ _ h => h) (Or.inl ⟨by rfl, ?_⟩) (by assumption) ?_
      case refine_2 => intro w hSw; (try dsimp only at hSw); go_simp; try with_reducible rfl
      try simp only [Act.put, List.setIfInBounds_toArray, List.set_cons_zero, List.set_cons_succ]
      refine wpAnyH_done (by kernel_rfl) ?_ _
      clear hW9 k9 b9 hbk z0 z1 z2 z3 z4 z5 z6 z7 z8 z9 z10 y0 y1 y2 y3 y4 y5 y6 y7 y8 y9 y10
      go_wp2_with (fail)
      go_meet
      case rel => exact ⟨W0.heap.size, c', A', v2, rfl, rfl, rfl, B9, M9, A9, G9, HB9, Lib.hid (fun i e => Nat.le_trans HSZ1.out (HO2.out i e)), Lib.hid (fun i hi ho => HOF2.out i (Nat.lt_of_lt_of_le hi HSZ1.out) ho)⟩
  case rest =>
    obtain ⟨b10, c', A', v2, rfl, rfl, rfl, B10, M10, A10, G10, HB10, HOW, HOF⟩ := hcut
    clear SX HFA HRS
    have F10 := Lib.hid (FB.out.only G10.out (by simp))
    have HSC := Lib.hid (HST.out _ G10.out)
    obtain ⟨d0, d1, d2, d3, d4, d5⟩ := Pt.cells6 F10.out
    go_upto_region 6 with (go_at_call 16; (with_reducible refine HSC.out.mono ?_); rintro e w5 ⟨v1, rfl, hr1, hq5, hk5⟩; have R1 := Lib.hid hr1; have Q5 := Lib.hid hq5; have K5 := Lib.hid (Pt.Kp.pre (only_trans G0.out G10.out) hk5); have B5 := Lib.hid (Pt.blk_kp B10.out hk5 (by have := HB10.out; have := HLT.out; have := HZ0.out; omega) (by have := HB10.out; have := HLT.out; have := HZ0.out; omega)); have RB5 := Lib.hid (Pt.blk_kp (RB.out.only G10.out (by simp)) hk5 (by have := HLT.out; omega) (by have := HLT.out; omega)); have M5 := Lib.hid (M10.out.kp hk5 (fun i e => by have := HOW.out i e; have := HLT.out; have := HZ0.out; omega)); have A5 := Lib.hid (Pt.ints_kp A10.out hk5 ⟨HOF.out _ (by have := HLT.out; have := HZ0.out; omega) HB.out.o.1, HOF.out _ (by have := HLT.out; have := HZ0.out; omega) HB.out.o.2⟩); clear hr1 hq5 hk5)
    clear d0 d1 d2 d3 d4 d5 HSC HST
    have gdr : w5.grownBy w5.drew none := only_drewN (only_refl _ none) 1
    have HQD := Lib.hid (Q5.out.grown gdr)
    have BD := Lib.hid (B5.out.only gdr (by simp))
    have R1D := Lib.hid (R1.out.row.grown gdr)
    have M5D := Lib.hid (M5.out.grown gdr)
    have HKD := Lib.hid (K5.out.post gdr)
    have RBD := Lib.hid (RB5.out.only gdr (by simp))
    have AD := Lib.hid (Cu.ints_gr A5.out gdr)
    have SC : (w5.drew.cell? ⟨b10, 0, none⟩ = some (.slice A' n c')) ∧ (w5.drew.cell? ⟨b10, 1, none⟩ = some (.int .i64 t.pc)) ∧ (w5.drew.cell? ⟨b10, 2, none⟩ = some (.int .i64 (t.r 0))) ∧ (w5.drew.cell? ⟨b10, 3, none⟩ = some (.int .i64 (t.r 1))) ∧ (w5.drew.cell? ⟨b10, 4, none⟩ = some (.int .i64 (t.r 2))) ∧ (w5.drew.cell? ⟨b10, 5, none⟩ = some (.int .i64 (t.r 3))) ∧ (w5.drew.cell? ⟨b10, 6, none⟩ = some (.int .i64 (t.r 4))) ∧ (w5.drew.cell? ⟨b10, 7, none⟩ = some (.int .i64 (t.r 5))) ∧ (w5.drew.cell? ⟨b10, 8, none⟩ = some (.int .i64 (t.r 6))) ∧ (w5.drew.cell? ⟨b10, 9, none⟩ = some (.int .i64 (t.r 7))) ∧ (w5.drew.cell? ⟨b10, 10, none⟩ = some (.int .i64 t.md)) := ⟨BD.out.cell 0, BD.out.cell 1, BD.out.cell 2, BD.out.cell 3, BD.out.cell 4, BD.out.cell 5, BD.out.cell 6, BD.out.cell 7, BD.out.cell 8, BD.out.cell 9, BD.out.cell 10⟩
    refine wp_region_held_drew (S := fun w' => (w'.cell? ⟨b10, 0, none⟩ = some (.slice A' n c')) ∧ (w'.cell? ⟨b10, 1, none⟩ = some (.int .i64 t.pc)) ∧ (w'.cell? ⟨b10, 2, none⟩ = some (.int .i64 (t.r 0))) ∧ (w'.cell? ⟨b10, 3, none⟩ = some (.int .i64 (t.r 1))) ∧ (w'.cell? ⟨b10, 4, none⟩ = some (.int .i64 (t.r 2))) ∧ (w'.cell? ⟨b10, 5, none⟩ = some (.int .i64 (t.r 3))) ∧ (w'.cell? ⟨b10, 6, none⟩ = some (.int .i64 (t.r 4))) ∧ (w'.cell? ⟨b10, 7, none⟩ = some (.int .i64 (t.r 5))) ∧ (w'.cell? ⟨b10, 8, none⟩ = some (.int .i64 (t.r 6))) ∧ (w'.cell? ⟨b10, 9, none⟩ = some (.int .i64 (t.r 7))) ∧ (w'.cell? ⟨b10, 10, none⟩ = some (.int .i64 t.md))) (by kernel_rfl) SC (fun hHeld => ?_)
    clear gdr
    generalize w5.drew = wd at *
    refine wpAnyH_take (i := 0) (oi := _) (v := ?_) rfl (by kernel_rfl) (by kernel_rfl) (by kernel_rfl) (fun _ _ _ h => h) (Or.inl ⟨by rfl, ?_⟩) (by assumption) ?_
    case refine_2 => intro w hSw; (try dsimp only at hSw); go_simp; try with_reducible rfl
    try simp only [Act.put, List.setIfInBounds_toArray, List.set_cons_zero, List.set_cons_succ]
    refine wpAnyH_take (i := 1) (oi := _) (v := ?_) rfl (by kernel_rfl) (by kernel_rfl) (by kernel_rfl) (fun _ _ _ h => h) (Or.inl ⟨by rfl, ?_⟩) (by assumption) ?_
    case refine_2 => intro w hSw; (try dsimp only at hSw); go_simp; try with_reducible rfl
    try simp only [Act.put, List.setIfInBounds_toArray, List.set_cons_zero, List.set_cons_succ]
    refine wpAnyH_take (i := 2) (oi := _) (v := ?_) rfl (by kernel_rfl) (by kernel_rfl) (by kernel_rfl) (fun _ _ _ h => h) (Or.inl ⟨by rfl, ?_⟩) (by assumption) ?_
    case refine_2 => intro w hSw; (try dsimp only at hSw); go_simp; try with_reducible rfl
    try simp only [Act.put, List.setIfInBounds_toArray, List.set_cons_zero, List.set_cons_succ]
    refine wpAnyH_ready (rs := [3]) (by kernel_rfl) (by simp) ?_
    refine AllReadyH.cons (o := _) rfl (fun K hK => ?_) AllReadyH.nil
    go_simp
    go_at_call 17
    (with_reducible refine (Pt.rsame_any _ _ _ _ R1D.out M5D.out).mono ?_)
    rintro e w6 ⟨rfl, g6⟩
    have G6 := Lib.hid g6
    have B6 := Lib.hid (BD.out.only g6 (by simp))
    clear g6
    have S6 : (w6.cell? ⟨b10, 0, none⟩ = some (.slice A' n c')) ∧ (w6.cell? ⟨b10, 1, none⟩ = some (.int .i64 t.pc)) ∧ (w6.cell? ⟨b10, 2, none⟩ = some (.int .i64 (t.r 0))) ∧ (w6.cell? ⟨b10, 3, none⟩ = some (.int .i64 (t.r 1))) ∧ (w6.cell? ⟨b10, 4, none⟩ = some (.int .i64 (t.r 2))) ∧ (w6.cell? ⟨b10, 5, none⟩ = some (.int .i64 (t.r 3))) ∧ (w6.cell? ⟨b10, 6, none⟩ = some (.int .i64 (t.r 4))) ∧ (w6.cell? ⟨b10, 7, none⟩ = some (.int .i64 (t.r 5))) ∧ (w6.cell? ⟨b10, 8, none⟩ = some (.int .i64 (t.r 6))) ∧ (w6.cell? ⟨b10, 9, none⟩ = some (.int .i64 (t.r 7))) ∧ (w6.cell? ⟨b10, 10, none⟩ = some (.int .i64 t.md)) := ⟨B6.out.cell 0, B6.out.cell 1, B6.out.cell 2, B6.out.cell 3, B6.out.cell 4, B6.out.cell 5, B6.out.cell 6, B6.out.cell 7, B6.out.cell 8, B6.out.cell 9, B6.out.cell 10⟩
    refine hK.out _ _ (S6) (fun hHeld => ?_)
    clear hK K
    try simp only [Act.put, List.setIfInBounds_toArray, List.set_cons_zero, List.set_cons_succ]
    refine wpAnyH_take (i := 4) (oi := _) (v := ?_) rfl (by kernel_rfl) (by kernel_rfl) (by kernel_rfl) (fun _ _ _ h => h) (Or.inl ⟨by rfl, ?_⟩) (by assumption) ?_
    case refine_2 => intro w hSw; (try dsimp only at hSw); go_simp; try with_reducible rfl
    try simp only [Act.put, List.setIfInBounds_toArray, List.set_cons_zero, List.set_cons_succ]
    refine wpAnyH_take (i := 5) (oi := _) (v := ?_) rfl (by kernel_rfl) (by kernel_rfl) (by kernel_rfl) (fun _ _ _ h => h) (Or.inl ⟨by rfl, ?_⟩) (by assumption) ?_
    case refine_2 => intro w hSw; (try dsimp only at hSw); go_simp; try with_reducible rfl
    try simp only [Act.put, List.setIfInBounds_toArray, List.set_cons_zero, List.set_cons_succ]
    refine wpAnyH_take (i := 6) (oi := _) (v := ?_) rfl (by kernel_rfl) (by kernel_rfl) (by kernel_rfl) (fun _ _ _ h => h) (Or.inl ⟨by rfl, ?_⟩) (by assumption) ?_
    case refine_2 => intro w hSw; (try dsimp only at hSw); go_simp; try with_reducible rfl
    try simp only [Act.put, List.setIfInBounds_toArray, List.set_cons_zero, List.set_cons_succ]
    refine wpAnyH_take (i := 7) (oi := _) (v := ?_) rfl (by kernel_rfl) (by kernel_rfl) (by kernel_rfl) (fun _ _ _ h => h) (Or.inl ⟨by rfl, ?_⟩) (by assumption) ?_
    case refine_2 => intro w hSw; (try dsimp only at hSw); go_simp; try with_reducible rfl
    try simp only [Act.put, List.setIfInBounds_toArray, List.set_cons_zero, List.set_cons_succ]
    refine wpAnyH_take (i := 8) (oi := _) (v := ?_) rfl (by kernel_rfl) (by kernel_rfl) (by kernel_rfl) (fun _ _ _ h => h) (Or.inl ⟨by rfl, ?_⟩) (by assumption) ?_
    case refine_2 => intro w hSw; (try dsimp only at hSw); go_simp; try with_reducible rfl
    try simp only [Act.put, List.setIfInBounds_toArray, List.set_cons_zero, List.set_cons_succ]
    have RB6 := Lib.hid (RBD.out.only G6.out (by simp))
    obtain ⟨z0, z1, z2, z3, z4, z5, z6, z7, z8, z9, z10⟩ := Pt.cells11 RB6.out
    obtain ⟨y0, y1, y2, y3, y4, y5, y6, y7, y8, y9, y10⟩ := Pt.free11 RB6.out
    obtain ⟨W9, hW9⟩ : ∃ W9, W9 = (((((((((((w6.setCell ⟨(w.heap.size + 1 + 1), 0, none⟩ (.slice A' n c')).setCell ⟨(w.heap.size + 1 + 1), 1, none⟩ (.int .i64 t.pc)).setCell ⟨(w.heap.size + 1 + 1), 2, none⟩ (.int .i64 (t.r 0))).setCell ⟨(w.heap.size + 1 + 1), 3, none⟩ (.int .i64 (t.r 1))).setCell ⟨(w.heap.size + 1 + 1), 4, none⟩ (.int .i64 (t.r 2))).setCell ⟨(w.heap.size + 1 + 1), 5, none⟩ (.int .i64 (t.r 3))).setCell ⟨(w.heap.size + 1 + 1), 6, none⟩ (.int .i64 (t.r 4))).setCell ⟨(w.heap.size + 1 + 1), 7, none⟩ (.int .i64 (t.r 5))).setCell ⟨(w.heap.size + 1 + 1), 8, none⟩ (.int .i64 (t.r 6))).setCell ⟨(w.heap.size + 1 + 1), 9, none⟩ (.int .i64 (t.r 7))).setCell ⟨(w.heap.size + 1 + 1), 10, none⟩ (.int .i64 t.md)) := ⟨_, rfl⟩
    obtain ⟨k9, b9⟩ := Pt.put11 RB6.out (.slice A' n c') (.int .i64 t.pc) (.int .i64 (t.r 0)) (.int .i64 (t.r 1)) (.int .i64 (t.r 2)) (.int .i64 (t.r 3)) (.int .i64 (t.r 4)) (.int .i64 (t.r 5)) (.int .i64 (t.r 6)) (.int .i64 (t.r 7)) (.int .i64 t.md) W9 hW9
    have HB9 := Lib.hid b9
    have HK9 := Lib.hid ((HKD.out.post G6.out).box k9 (by omega))
    have HQ9 := Lib.hid ((HQD.out.grown G6.out).off k9 (by have := HLT.out; omega) (by have := HLT.out; omega) (by have := HLT.out; omega))
    have HA9 := Lib.hid ((Cu.ints_gr AD.out G6.out).farI k9 (HOF.out _ (by have := HZ0.out; omega) HI6.out))
    have S9 : (W9.cell? ⟨b10, 0, none⟩ = some (.slice A' n c')) ∧ (W9.cell? ⟨b10, 1, none⟩ = some (.int .i64 t.pc)) ∧ (W9.cell? ⟨b10, 2, none⟩ = some (.int .i64 (t.r 0))) ∧ (W9.cell? ⟨b10, 3, none⟩ = some (.int .i64 (t.r 1))) ∧ (W9.cell? ⟨b10, 4, none⟩ = some (.int .i64 (t.r 2))) ∧ (W9.cell? ⟨b10, 5, none⟩ = some (.int .i64 (t.r 3))) ∧ (W9.cell? ⟨b10, 6, none⟩ = some (.int .i64 (t.r 4))) ∧ (W9.cell? ⟨b10, 7, none⟩ = some (.int .i64 (t.r 5))) ∧ (W9.cell? ⟨b10, 8, none⟩ = some (.int .i64 (t.r 6))) ∧ (W9.cell? ⟨b10, 9, none⟩ = some (.int .i64 (t.r 7))) ∧ (W9.cell? ⟨b10, 10, none⟩ = some (.int .i64 t.md)) := by have q1 := B6.out.only k9 (fun e => by injection e with e; have := HB10.out; have := HZ0.out; omega); exact ⟨q1.cell 0, q1.cell 1, q1.cell 2, q1.cell 3, q1.cell 4, q1.cell 5, q1.cell 6, q1.cell 7, q1.cell 8, q1.cell 9, q1.cell 10⟩
    refine wpAnyH_ready (rs := [9]) (by kernel_rfl) (by simp) ?_
    refine AllReadyH.cons (o := _) rfl (fun K hK => ?_) AllReadyH.nil
    go_simp
    rw [← hW9]
    refine hK.out _ _ (S9) (fun hHeld => ?_)
    clear hK K
    try simp only [Act.put, List.setIfInBounds_toArray, List.set_cons_zero, List.set_cons_succ]
    refine wpAnyH_take (i := 10) (oi := ⟨some 7, _, _, _, _, none⟩) (v := ?_) rfl (by kernel_rfl) (by kernel_rfl) (by kernel_rfl) (fun _ _ _ h => h) (Or.inl ⟨by rfl, ?_⟩) (by assumption) ?_
    case refine_2 => intro w hSw; (try dsimp only at hSw); go_simp; try with_reducible rfl
    try simp only [Act.put, List.setIfInBounds_toArray, List.set_cons_zero, List.set_cons_succ]
    refine wpAnyH_done (by kernel_rfl) ?_ _
    obtain ⟨u0, u1, u2, u3, u4, u5, u6, u7, u8, u9, u10⟩ := Pt.cells11 HB9.out
    clear z0 z1 z2 z3 z4 z5 z6 z7 z8 z9 z10 y0 y1 y2 y3 y4 y5 y6 y7 y8 y9 y10 hW9 k9 b9 S9 S6 SC
    go_wp2_with (fail)
    refine bodyPost_ret (v := .tuple #[.agg #[.slice A' n c', .int .i64 t.pc, .int .i64 (t.r 0), .int .i64 (t.r 1), .int .i64 (t.r 2), .int .i64 (t.r 3), .int .i64 (t.r 4), .int .i64 (t.r 5), .int .i64 (t.r 6), .int .i64 (t.r 7), .int .i64 t.md], .bool true]) (by simp [results, Tryd.results11, go_sem, u0, u1, u2, u3, u4, u5, u6, u7, u8, u9, u10]) rfl ?_
    exact ⟨A', c', rfl, ⟨HQ9.out, HA9.out, HTL.out, HB.out.l1, ⟨HOF.out _ (by have := HLT.out; have := HZ0.out; omega) HB.out.o.1, HOF.out _ (by have := HLT.out; have := HZ0.out; omega) HB.out.o.2⟩⟩, HK9.out, fun i hi ho => HOF.out i (by have := HZ0.out; omega) ho⟩
end Go.Proofs.YthhodadfiipffaaDoor
