import Derived.Test.YtjmdcmcheiagjaaZ08
set_option linter.all false
/- The document's Parse, walked. -/
namespace Go.Proofs.Ytjmdcmcheiagjaa
open Go.RowKit Go.Lib Go.Sort
set_option linter.unusedVariables false
set_option maxRecDepth 20000 in
set_option maxHeartbeats 3200000 in
theorem rparse_go (s : ByteArray) (w : World) (hs : s.size ≤ 9000) (h : (Cr.openV s).2 = 0) (ho : ¬ otherB (Cr.openV s).1) (h5 : 5 ≤ (Cr.openV s).1.size) : Calls Try.prog 15 #[.string s] w (ParseV s w) := by
  obtain ⟨h2, hk, h1⟩ := open_parts h
  have hi : imgE s = bodyE (Cr.openV s).1 := if_pos h
  obtain ⟨W1, hW⟩ : ∃ W1, W1 = w.alloc (.cells #[.int .i64 0, .slice none 0 0, .slice none 0 0, .slice none 0 0] 26) := ⟨_, rfl⟩
  have B1 := Lib.hid (show Below w.heap.size w W1 by rw [hW]; exact (Below.refl _ _).alloc (Nat.le_refl _) _)
  have BX : Hid (Blk W1 w.heap.size 26 #[.int .i64 0, .slice none 0 0, .slice none 0 0, .slice none 0 0]) := Lib.hid (by rw [hW]; exact Blk.new _ _ _)
  have HPV := Lib.hid (show ∀ e w', (∃ c : Cf, e = .returned (.tuple #[cfv c, .int .i64 (imgE s)]) ∧ CfV w' c ∧ FitCf c ∧ Below w.heap.size w w' ∧ (imgE s = 0 → TellsB (Cr.openV s).1 c) ∧ (imgE s ≠ 0 → NoneC c)) → ParseV s w e w' from fun e w' k => k)
  have HZ := Lib.hid (fun (w' : World) (hz : imgE s ≠ 0) (b : Below w.heap.size w w') => zC_no (s := s) hz b)
  rw [h1] at ho hi h5 HPV
  have HIE := Lib.hid hi
  have HNO := Lib.hid ho
  clear hi h1 h ho
  have HO := Lib.hid (rseal_big (s.extract 0 (s.size - 2)) W1 (by simp; omega))
  rw [hk] at HO
  have m1 : ¬ (s.size : Int) < 2 := by omega
  obtain ⟨m, hm⟩ : ∃ m, m = s.size - 2 := ⟨_, rfl⟩
  rw [← hm] at HO HNO HIE HPV h5
  have q1 : IntKind.i64.wrap ((s.size : Int) - 2) = (m : Int) := by rw [IntKind.wrap_i64]; omega
  have q2 : (m : Int) ≤ (s.size : Int) := by omega
  clear hk h2
  have HM := Lib.hid hm
  clear hm
  have st : (s.extract 0 m).size ≤ 9000 := by simp; omega
  go_enter Try.func15, Try.ntmps15
  go_upto_region 1 with (fail)
  rw [← hW]
  clear hW
  go_upto_region 4 with (fail)
  generalize s.extract 0 m = t at HNO HIE HPV h5 st HO ⊢
  have k2 := (first_two (t := t) (by omega)).1 HNO.out
  have n1 : (2 : Int) ≤ (t.size : Int) := by omega
  have n3 : ¬ (t.size : Int) < 5 := by omega
  go_upto_region 10 with (go_at_call 14; (with_reducible refine HO.out.mono ?_); rintro e w2 ⟨rfl, b2⟩; have B2 := Lib.hid (B1.out.trans (b2.mono B1.out.size)); have X2 := Lib.hid (BX.out.below b2 BX.out.lt); clear b2)
  clear HO m1 q1 q2 HM k2 n1 n3
  have hst : t.size ≤ 10000 := by omega
  go_upto_region 11 with (go_at_call 45; (with_reducible refine (at2_any t 2 _ (by omega) w2 (by omega) hst).mono ?_); rintro e w3 ⟨rfl, rfl⟩)
  obtain ⟨w3, hw3⟩ : ∃ w3, w3 = w2.alloc (.cells #[.int .i64 (gw t 2), .slice none 0 0, .slice none 0 0, .slice none 0 0] 26) := ⟨_, rfl⟩
  have HPS : Hid (PZ w w3 w2.heap.size #[.int .i64 (gw t 2), .slice none 0 0, .slice none 0 0, .slice none 0 0] 3 (.slice none 0 0) 0 (w3L (fun q => winR t (5 + q * 5)) 0) []) := Lib.hid (by
    rw [hw3]
    exact ⟨X2.out.alloc _, Blk.new _ _ _, B2.out.alloc B2.out.size _, X2.out.lt, RowZ.nil _ _, fun q hq => by simp [Value.ownBlock] at hq, fun r hr => by simp at hr⟩)
  rw [← hw3]
  clear hw3 X2 B2 BX B1
  generalize w2.heap.size = gc at HPS ⊢
  have HS0 := Lib.hid h5
  have HS1 := Lib.hid (show 5 = 5 + 0 * 5 from rfl)
  have HM0 := Lib.hid (show gb t 4 ≤ 255 from by have := gb_lt t 4; omega)
  have HM1 := Lib.hid (show gb t 4 + 0 = gb t 4 from rfl)
  go_wp2_with (go_at_call 45; (with_reducible refine (at1_any t 4 _ (by omega) w3 (by omega) hst).mono ?_); rintro e w9 ⟨rfl, rfl⟩)
  go_loopw [6, 7] (fun x y wr => ∃ (k p m : Nat) (A : Option Addr) (c : Nat), x = .int .i64 p ∧ y = .int .i64 m ∧ p ≤ t.size ∧ m ≤ 255 ∧ Hid (p = 5 + k * 5 ∧ m + k = gb t 4) ∧ Hid (PZ w wr gc #[.int .i64 (gw t 2), .slice A k c, .slice none 0 0, .slice none 0 0] 3 (.slice A k c) k (w3L (fun q => winR t (5 + q * 5)) k) [])) (fun x y _ => (intOf y).toNat)
  case atStart => exact ⟨0, 5, gb t 4, none, 0, by go_num, rfl, by first | exact HS0.out | omega, by have := gb_lt t 4; have := gb_lt t (iq1 t); have := gb_lt t (iq2 t); first | exact HM0.out | omega, Lib.hid ⟨by first | exact HS1.out | omega, by first | exact HM1.out | omega⟩, HPS⟩
  case round =>
    obtain ⟨k, p, m, A, c, rfl, rfl, hp, hm9, HQ, HP⟩ := hrel
    by_cases hm : 0 < m
    · have i1 : (0 : Int) < (m : Int) := by omega
      by_cases he : t.size < p + 5
      · have i2 : (t.size : Int) - (p : Int) < 5 := by omega
        have hie : imgE s = 5 := by rw [HIE.out]; exact bodyE_end HNO.out (by have := HQ.out; unfold iq3 iq2 iq1 at *; omega)
        have HZE := Lib.hid (fun (w' : World) (b : Below w.heap.size w w') => HZ.out w' (by rw [hie]; decide) b)
        rw [hie] at HZE
        clear hie
        have c0 : wr.cell? ⟨w.heap.size, 0, none⟩ = some (.int .i64 0) := HP.out.b0.cell 0
        have c1 : wr.cell? ⟨w.heap.size, 1, none⟩ = some (.slice none 0 0) := HP.out.b0.cell 1
        have c2 : wr.cell? ⟨w.heap.size, 2, none⟩ = some (.slice none 0 0) := HP.out.b0.cell 2
        have c3 : wr.cell? ⟨w.heap.size, 3, none⟩ = some (.slice none 0 0) := HP.out.b0.cell 3
        have f0 := HP.out.b0.free 0
        have f1 := HP.out.b0.free 1
        have f2 := HP.out.b0.free 2
        have f3 := HP.out.b0.free 3
        go_wp2
        have bf := ((((HP.out.b0.put 0 (.int .i64 0)).put 1 (.slice none 0 0)).put 2 (.slice none 0 0)).put 3 (.slice none 0 0))
        have r0 := bf.cell 0
        have r1 := bf.cell 1
        have r2 := bf.cell 2
        have r3 := bf.cell 3
        simp at r0 r1 r2 r3
        refine bodyPost_ret (v := .tuple #[.agg #[.int .i64 0, .slice none 0 0, .slice none 0 0, .slice none 0 0], .int .i64 5]) (by simp [results, Try.results15, go_sem, r0, r1, r2, r3]) rfl ?_
        exact HZE.out _ ((((HP.out.bl.setCell (p := ⟨w.heap.size, 0, none⟩) (Nat.le_refl _) (.int .i64 0)).setCell (p := ⟨w.heap.size, 1, none⟩) (Nat.le_refl _) (.slice none 0 0)).setCell (p := ⟨w.heap.size, 2, none⟩) (Nat.le_refl _) (.slice none 0 0)).setCell (p := ⟨w.heap.size, 3, none⟩) (Nat.le_refl _) (.slice none 0 0))
      · have i2 : ¬ (t.size : Int) - (p : Int) < 5 := by omega
        have hk1 : k ≤ 255 := by have := HQ.out.2; have := gb_lt t 4; have := gb_lt t (iq1 t); have := gb_lt t (iq2 t); omega
        obtain ⟨i0, hi0, hz0, hz1, hz2⟩ := info_parts win_info
        obtain ⟨v', w', hk, hr, hsx, hfz, A', c', rfl⟩ := HP.out.push (P := Try.prog) (ys := [.int .i64 (gb t p), .int .i64 (gw t (p + 1)), .int .i64 (gw t (p + 3))]) 1 22 49 i0 _ 24 Try.underlying22 hi0 hz0 hz1 hz2 (by omega) rfl (w3L_one _ _) (by intro u hu; simp at hu; rcases hu with rfl | rfl | rfl <;> rfl) rfl (by omega)
        have HK := Lib.hid hk
        have SX := Lib.hid hsx
        clear hk hsx hi0 hz0 hz1 hz2
        have REL : Hid (PZ w (w'.setCell ⟨gc, 1, none⟩ (.slice A' (k + 1) c')) gc #[.int .i64 (gw t 2), .slice A' (k + 1) c', .slice none 0 0, .slice none 0 0] 3 (.slice A' (k + 1) c') (k + 1) (w3L (fun q => winR t (5 + q * 5)) (k + 1)) []) := Lib.hid (by
          have hp0 := HQ.out.1
          rw [w3L_succ, ← hp0]
          exact hr)
        clear hr
        have y1 : w'.cell? ⟨gc, 1, none⟩ = some (.slice A k c) := SX.out w' (.inr (.inr rfl))
        go_upto_region 17 with (fail)
        refine wp_region_ends2 17 (fun w' => w'.cell? ⟨gc, 1, none⟩ = some (.slice A k c)) (by kernel_rfl) (by kernel_rfl) (SX.out _ (.inl rfl)) (fun hHeld => ?_)
        simp only [List.take_succ_cons, List.take_zero]
        refine wpAnyH_take (i := 0) (oi := _) (v := ?_) rfl (by kernel_rfl) (by kernel_rfl) (by kernel_rfl) (fun _ _ _ h => h) (Or.inl ⟨by rfl, ?_⟩) (by assumption) ?_
        case refine_2 => intro w hSw; (try dsimp only at hSw); go_simp; try with_reducible rfl
        try simp only [Act.put, List.setIfInBounds_toArray, List.set_cons_zero, List.set_cons_succ]
        refine wpAnyH_take (i := 1) (oi := _) (v := ?_) rfl (by kernel_rfl) (by kernel_rfl) (by kernel_rfl) (fun _ _ _ h => h) (Or.inl ⟨by rfl, ?_⟩) (by assumption) ?_
        case refine_2 => intro w hSw; (try dsimp only at hSw); go_simp; try with_reducible rfl
        try simp only [Act.put, List.setIfInBounds_toArray, List.set_cons_zero, List.set_cons_succ]
        refine wpAnyH_take (i := 2) (oi := _) (v := ?_) rfl (by kernel_rfl) (by kernel_rfl) (by kernel_rfl) (fun _ _ _ h => h) (Or.inl ⟨by rfl, ?_⟩) (by assumption) ?_
        case refine_2 => intro w hSw; (try dsimp only at hSw); go_simp; try with_reducible rfl
        try simp only [Act.put, List.setIfInBounds_toArray, List.set_cons_zero, List.set_cons_succ]
        refine wpAnyH_take (i := 3) (oi := _) (v := ?_) rfl (by kernel_rfl) (by kernel_rfl) (by kernel_rfl) (fun _ _ _ h => h) (Or.inl ⟨by rfl, ?_⟩) (by assumption) ?_
        case refine_2 => intro w hSw; (try dsimp only at hSw); go_simp; try with_reducible rfl
        try simp only [Act.put, List.setIfInBounds_toArray, List.set_cons_zero, List.set_cons_succ]
        refine wpAnyH_take (i := 5) (oi := _) (v := ?_) rfl (by kernel_rfl) (by kernel_rfl) (by kernel_rfl) (fun _ _ _ h => h) (Or.inl ⟨by rfl, ?_⟩) (by assumption) ?_
        case refine_2 => intro w hSw; (try dsimp only at hSw); go_simp; try with_reducible rfl
        try simp only [Act.put, List.setIfInBounds_toArray, List.set_cons_zero, List.set_cons_succ]
        refine wpAnyH_take (i := 6) (oi := _) (v := ?_) rfl (by kernel_rfl) (by kernel_rfl) (by kernel_rfl) (fun _ _ _ h => h) (Or.inl ⟨by rfl, ?_⟩) (by assumption) ?_
        case refine_2 => intro w hSw; (try dsimp only at hSw); go_simp; try with_reducible rfl
        try simp only [Act.put, List.setIfInBounds_toArray, List.set_cons_zero, List.set_cons_succ]
        refine wpAnyH_take (i := 7) (oi := _) (v := ?_) rfl (by kernel_rfl) (by kernel_rfl) (by kernel_rfl) (fun _ _ _ h => h) (Or.inl ⟨by rfl, ?_⟩) (by assumption) ?_
        case refine_2 => intro w hSw; (try dsimp only at hSw); go_simp; try with_reducible rfl
        try simp only [Act.put, List.setIfInBounds_toArray, List.set_cons_zero, List.set_cons_succ]
        refine wpAnyH_take (i := 9) (oi := _) (v := ?_) rfl (by kernel_rfl) (by kernel_rfl) (by kernel_rfl) (fun _ _ _ h => h) (Or.inl ⟨by rfl, ?_⟩) (by assumption) ?_
        case refine_2 => intro w hSw; (try dsimp only at hSw); go_simp; try with_reducible rfl
        try simp only [Act.put, List.setIfInBounds_toArray, List.set_cons_zero, List.set_cons_succ]
        refine wpAnyH_take (i := 10) (oi := _) (v := ?_) rfl (by kernel_rfl) (by kernel_rfl) (by kernel_rfl) (fun _ _ _ h => h) (Or.inl ⟨by rfl, ?_⟩) (by assumption) ?_
        case refine_2 => intro w hSw; (try dsimp only at hSw); go_simp; try with_reducible rfl
        try simp only [Act.put, List.setIfInBounds_toArray, List.set_cons_zero, List.set_cons_succ]
        refine wpAnyH_take (i := 11) (oi := _) (v := ?_) rfl (by kernel_rfl) (by kernel_rfl) (by kernel_rfl) (fun _ _ _ h => h) (Or.inl ⟨by rfl, ?_⟩) (by assumption) ?_
        case refine_2 => intro w hSw; (try dsimp only at hSw); go_simp; try with_reducible rfl
        try simp only [Act.put, List.setIfInBounds_toArray, List.set_cons_zero, List.set_cons_succ]
        refine wpAnyH_ready (rs := [4]) (by kernel_rfl) (by simp) ?_
        refine AllReadyH.cons (o := _) rfl (fun K hK => ?_) AllReadyH.nil
        go_simp
        go_at_call 45
        (with_reducible refine (at1_any t p _ (by first | omega | (rw [IntKind.wrap_i64]; omega)) _ (by omega) hst).mono ?_)
        rintro e w9 ⟨rfl, rfl⟩
        refine hK.out _ _ (SX.out _ (.inl rfl)) (fun hHeld => ?_)
        clear hK K
        try simp only [Act.put, List.setIfInBounds_toArray, List.set_cons_zero, List.set_cons_succ]
        refine wpAnyH_ready (rs := [8]) (by kernel_rfl) (by simp) ?_
        refine AllReadyH.cons (o := _) rfl (fun K hK => ?_) AllReadyH.nil
        go_simp
        go_at_call 45
        (with_reducible refine (at2_any t (p + 1) _ (by first | omega | (rw [IntKind.wrap_i64]; omega)) _ (by omega) hst).mono ?_)
        rintro e w9 ⟨rfl, rfl⟩
        refine hK.out _ _ (SX.out _ (.inl rfl)) (fun hHeld => ?_)
        clear hK K
        try simp only [Act.put, List.setIfInBounds_toArray, List.set_cons_zero, List.set_cons_succ]
        refine wpAnyH_ready (rs := [12]) (by kernel_rfl) (by simp) ?_
        refine AllReadyH.cons (o := _) rfl (fun K hK => ?_) AllReadyH.nil
        go_simp
        go_at_call 45
        (with_reducible refine (at2_any t (p + 3) _ (by first | omega | (rw [IntKind.wrap_i64]; omega)) _ (by omega) hst).mono ?_)
        rintro e w9 ⟨rfl, rfl⟩
        refine hK.out _ _ (SX.out _ (.inl rfl)) (fun hHeld => ?_)
        clear hK K
        try simp only [Act.put, List.setIfInBounds_toArray, List.set_cons_zero, List.set_cons_succ]
        refine wpAnyH_ready (rs := [13]) (by kernel_rfl) (by simp) ?_
        refine AllReadyH.cons (o := _) rfl (fun K hK => ?_) AllReadyH.nil
        go_simp
        refine hK.out _ _ (SX.out _ (.inl rfl)) (fun hHeld => ?_)
        clear hK K
        try simp only [Act.put, List.setIfInBounds_toArray, List.set_cons_zero, List.set_cons_succ]
        refine wpAnyH_ready (rs := [14]) (by kernel_rfl) (by simp) ?_
        refine AllReadyH.cons (o := _) rfl (fun K hK => ?_) AllReadyH.nil
        go_simp
        refine hK.out _ _ (SX.out _ (.inr (.inl rfl))) (fun hHeld => ?_)
        clear hK K
        try simp only [Act.put, List.setIfInBounds_toArray, List.set_cons_zero, List.set_cons_succ]
        refine wpAnyH_ready (rs := [15]) (by kernel_rfl) (by simp) ?_
        refine AllReadyH.cons (o := _) rfl (fun K hK => ?_) AllReadyH.nil
        refine step_app_eq rfl (.tmp 53) (.tmp 66) 22 rfl HK.out rfl rfl ?_
        refine hK.out _ _ (SX.out _ (.inr (.inr rfl))) (fun hHeld => ?_)
        clear hK K
        try simp only [Act.put, List.setIfInBounds_toArray, List.set_cons_zero, List.set_cons_succ]
        refine wpAnyH_ready (rs := [16]) (by kernel_rfl) (by simp) ?_
        refine AllReadyH.cons (o := _) rfl (fun K hK => ?_) AllReadyH.nil
        go_simp
        refine hK.out _ _ (SX.out _ (.inr (.inr rfl))) (fun hHeld => ?_)
        clear hK K
        try simp only [Act.put, List.setIfInBounds_toArray, List.set_cons_zero, List.set_cons_succ]
        refine wpAnyH_done (by kernel_rfl) ?_ _
        refine Ends.last rfl (fun K hK => ?_)
        go_simp
        refine hK.out _ _ ?_
        clear hK K
        go_wp2
        go_roundw
        case rel => exact ⟨k + 1, p + 5, m - 1, A', c', by go_num, by go_num, by omega, by omega, Lib.hid ⟨by have := HQ.out.1; omega, by have := HQ.out.2; omega⟩, REL⟩
        case measure => simp [intOf] <;> omega
    · have i1 : ¬ (0 : Int) < (m : Int) := by omega
      have hkN : k = gb t 4 := by have := HQ.out.2; omega
      have hpN : p = iq1 t := by have := HQ.out.1; unfold iq1; omega
      subst hkN
      obtain ⟨A1, hA⟩ : ∃ q, q = A := ⟨_, rfl⟩
      obtain ⟨d1, hd⟩ : ∃ q, q = c := ⟨_, rfl⟩
      subst hA hd
      have HPS0 := Lib.hid (HP.out.next 3)
      by_cases he : t.size < p + 1
      · have i2 : (t.size : Int) - (p : Int) < 1 := by omega
        have hie : imgE s = 5 := by rw [HIE.out]; exact bodyE_end HNO.out (by have := hpN; unfold iq3 iq2 iq1 at *; omega)
        have HZE := Lib.hid (fun (w' : World) (b : Below w.heap.size w w') => HZ.out w' (by rw [hie]; decide) b)
        rw [hie] at HZE
        clear hie
        have c0 : wr.cell? ⟨w.heap.size, 0, none⟩ = some (.int .i64 0) := HP.out.b0.cell 0
        have c1 : wr.cell? ⟨w.heap.size, 1, none⟩ = some (.slice none 0 0) := HP.out.b0.cell 1
        have c2 : wr.cell? ⟨w.heap.size, 2, none⟩ = some (.slice none 0 0) := HP.out.b0.cell 2
        have c3 : wr.cell? ⟨w.heap.size, 3, none⟩ = some (.slice none 0 0) := HP.out.b0.cell 3
        have f0 := HP.out.b0.free 0
        have f1 := HP.out.b0.free 1
        have f2 := HP.out.b0.free 2
        have f3 := HP.out.b0.free 3
        go_wp2
        have bf := ((((HP.out.b0.put 0 (.int .i64 0)).put 1 (.slice none 0 0)).put 2 (.slice none 0 0)).put 3 (.slice none 0 0))
        have r0 := bf.cell 0
        have r1 := bf.cell 1
        have r2 := bf.cell 2
        have r3 := bf.cell 3
        simp at r0 r1 r2 r3
        refine bodyPost_ret (v := .tuple #[.agg #[.int .i64 0, .slice none 0 0, .slice none 0 0, .slice none 0 0], .int .i64 5]) (by simp [results, Try.results15, go_sem, r0, r1, r2, r3]) rfl ?_
        exact HZE.out _ ((((HP.out.bl.setCell (p := ⟨w.heap.size, 0, none⟩) (Nat.le_refl _) (.int .i64 0)).setCell (p := ⟨w.heap.size, 1, none⟩) (Nat.le_refl _) (.slice none 0 0)).setCell (p := ⟨w.heap.size, 2, none⟩) (Nat.le_refl _) (.slice none 0 0)).setCell (p := ⟨w.heap.size, 3, none⟩) (Nat.le_refl _) (.slice none 0 0))
      · have i2 : ¬ (t.size : Int) - (p : Int) < 1 := by omega
        have hN : gb t p = gb t (iq1 t) := by rw [hpN]
        have HPN := Lib.hid hpN
        have HNN := Lib.hid hN
        clear hpN hN
        have HS0 := Lib.hid (show p + 1 ≤ t.size from by omega)
        have HS1 := Lib.hid (show p + 1 = iq1 t + 1 + 0 * 5 from by have := HPN.out; omega)
        have HM0 := Lib.hid (show gb t p ≤ 255 from by have := gb_lt t p; omega)
        have HM1 := Lib.hid (show gb t p + 0 = gb t (iq1 t) from by have := HNN.out; omega)
        have HPS : Hid (PZ w wr gc #[.int .i64 (gw t 2), .slice A1 (gb t 4) d1, .slice none 0 0, .slice none 0 0] 3 (.slice none 0 0) 0 (w3L (fun q => winR t ((iq1 t + 1) + q * 5)) 0) [(3, .slice A1 (gb t 4) d1, gb t 4, w3L (fun q => winR t (5 + q * 5)) (gb t 4))]) := Lib.hid HPS0.out
        go_wp2_with (go_at_call 45; (with_reducible refine (at1_any t p _ (by omega) wr (by omega) hst).mono ?_); rintro e w9 ⟨rfl, rfl⟩)
        go_loopw [6, 8] (fun x y wr => ∃ (k p m : Nat) (A : Option Addr) (c : Nat), x = .int .i64 p ∧ y = .int .i64 m ∧ p ≤ t.size ∧ m ≤ 255 ∧ Hid (p = (iq1 t + 1) + k * 5 ∧ m + k = gb t (iq1 t)) ∧ Hid (PZ w wr gc #[.int .i64 (gw t 2), .slice A1 (gb t 4) d1, .slice A k c, .slice none 0 0] 3 (.slice A k c) k (w3L (fun q => winR t ((iq1 t + 1) + q * 5)) k) [(3, .slice A1 (gb t 4) d1, gb t 4, w3L (fun q => winR t (5 + q * 5)) (gb t 4))])) (fun x y _ => (intOf y).toNat)
        case atStart => exact ⟨0, p + 1, gb t p, none, 0, by go_num, rfl, by first | exact HS0.out | omega, by have := gb_lt t 4; have := gb_lt t (iq1 t); have := gb_lt t (iq2 t); first | exact HM0.out | omega, Lib.hid ⟨by first | exact HS1.out | omega, by first | exact HM1.out | omega⟩, HPS⟩
        case round =>
          obtain ⟨k, p, m, A, c, rfl, rfl, hp, hm9, HQ, HP⟩ := hrel
          by_cases hm : 0 < m
          · have i1 : (0 : Int) < (m : Int) := by omega
            by_cases he : t.size < p + 5
            · have i2 : (t.size : Int) - (p : Int) < 5 := by omega
              have hie : imgE s = 5 := by rw [HIE.out]; exact bodyE_end HNO.out (by have := HQ.out; unfold iq3 iq2 iq1 at *; omega)
              have HZE := Lib.hid (fun (w' : World) (b : Below w.heap.size w w') => HZ.out w' (by rw [hie]; decide) b)
              rw [hie] at HZE
              clear hie
              have c0 : wr.cell? ⟨w.heap.size, 0, none⟩ = some (.int .i64 0) := HP.out.b0.cell 0
              have c1 : wr.cell? ⟨w.heap.size, 1, none⟩ = some (.slice none 0 0) := HP.out.b0.cell 1
              have c2 : wr.cell? ⟨w.heap.size, 2, none⟩ = some (.slice none 0 0) := HP.out.b0.cell 2
              have c3 : wr.cell? ⟨w.heap.size, 3, none⟩ = some (.slice none 0 0) := HP.out.b0.cell 3
              have f0 := HP.out.b0.free 0
              have f1 := HP.out.b0.free 1
              have f2 := HP.out.b0.free 2
              have f3 := HP.out.b0.free 3
              go_wp2
              have bf := ((((HP.out.b0.put 0 (.int .i64 0)).put 1 (.slice none 0 0)).put 2 (.slice none 0 0)).put 3 (.slice none 0 0))
              have r0 := bf.cell 0
              have r1 := bf.cell 1
              have r2 := bf.cell 2
              have r3 := bf.cell 3
              simp at r0 r1 r2 r3
              refine bodyPost_ret (v := .tuple #[.agg #[.int .i64 0, .slice none 0 0, .slice none 0 0, .slice none 0 0], .int .i64 5]) (by simp [results, Try.results15, go_sem, r0, r1, r2, r3]) rfl ?_
              exact HZE.out _ ((((HP.out.bl.setCell (p := ⟨w.heap.size, 0, none⟩) (Nat.le_refl _) (.int .i64 0)).setCell (p := ⟨w.heap.size, 1, none⟩) (Nat.le_refl _) (.slice none 0 0)).setCell (p := ⟨w.heap.size, 2, none⟩) (Nat.le_refl _) (.slice none 0 0)).setCell (p := ⟨w.heap.size, 3, none⟩) (Nat.le_refl _) (.slice none 0 0))
            · have i2 : ¬ (t.size : Int) - (p : Int) < 5 := by omega
              have hk1 : k ≤ 255 := by have := HQ.out.2; have := gb_lt t 4; have := gb_lt t (iq1 t); have := gb_lt t (iq2 t); omega
              obtain ⟨i0, hi0, hz0, hz1, hz2⟩ := info_parts slot_info
              obtain ⟨v', w', hk, hr, hsx, hfz, A', c', rfl⟩ := HP.out.push (P := Try.prog) (ys := [.int .i64 (gb t p), .int .i64 (gw t (p + 1)), .int .i64 (gw t (p + 3))]) 2 23 53 i0 _ 24 Try.underlying23 hi0 hz0 hz1 hz2 (by omega) rfl (w3L_one _ _) (by intro u hu; simp at hu; rcases hu with rfl | rfl | rfl <;> rfl) rfl (by omega)
              have HK := Lib.hid hk
              have SX := Lib.hid hsx
              clear hk hsx hi0 hz0 hz1 hz2
              have REL : Hid (PZ w (w'.setCell ⟨gc, 2, none⟩ (.slice A' (k + 1) c')) gc #[.int .i64 (gw t 2), .slice A1 (gb t 4) d1, .slice A' (k + 1) c', .slice none 0 0] 3 (.slice A' (k + 1) c') (k + 1) (w3L (fun q => winR t ((iq1 t + 1) + q * 5)) (k + 1)) [(3, .slice A1 (gb t 4) d1, gb t 4, w3L (fun q => winR t (5 + q * 5)) (gb t 4))]) := Lib.hid (by
                have hp0 := HQ.out.1
                rw [w3L_succ, ← hp0]
                exact hr)
              clear hr
              have y1 : w'.cell? ⟨gc, 2, none⟩ = some (.slice A k c) := SX.out w' (.inr (.inr rfl))
              go_upto_region 27 with (fail)
              refine wp_region_ends2 17 (fun w' => w'.cell? ⟨gc, 2, none⟩ = some (.slice A k c)) (by kernel_rfl) (by kernel_rfl) (SX.out _ (.inl rfl)) (fun hHeld => ?_)
              simp only [List.take_succ_cons, List.take_zero]
              refine wpAnyH_take (i := 0) (oi := _) (v := ?_) rfl (by kernel_rfl) (by kernel_rfl) (by kernel_rfl) (fun _ _ _ h => h) (Or.inl ⟨by rfl, ?_⟩) (by assumption) ?_
              case refine_2 => intro w hSw; (try dsimp only at hSw); go_simp; try with_reducible rfl
              try simp only [Act.put, List.setIfInBounds_toArray, List.set_cons_zero, List.set_cons_succ]
              refine wpAnyH_take (i := 1) (oi := _) (v := ?_) rfl (by kernel_rfl) (by kernel_rfl) (by kernel_rfl) (fun _ _ _ h => h) (Or.inl ⟨by rfl, ?_⟩) (by assumption) ?_
              case refine_2 => intro w hSw; (try dsimp only at hSw); go_simp; try with_reducible rfl
              try simp only [Act.put, List.setIfInBounds_toArray, List.set_cons_zero, List.set_cons_succ]
              refine wpAnyH_take (i := 2) (oi := _) (v := ?_) rfl (by kernel_rfl) (by kernel_rfl) (by kernel_rfl) (fun _ _ _ h => h) (Or.inl ⟨by rfl, ?_⟩) (by assumption) ?_
              case refine_2 => intro w hSw; (try dsimp only at hSw); go_simp; try with_reducible rfl
              try simp only [Act.put, List.setIfInBounds_toArray, List.set_cons_zero, List.set_cons_succ]
              refine wpAnyH_take (i := 3) (oi := _) (v := ?_) rfl (by kernel_rfl) (by kernel_rfl) (by kernel_rfl) (fun _ _ _ h => h) (Or.inl ⟨by rfl, ?_⟩) (by assumption) ?_
              case refine_2 => intro w hSw; (try dsimp only at hSw); go_simp; try with_reducible rfl
              try simp only [Act.put, List.setIfInBounds_toArray, List.set_cons_zero, List.set_cons_succ]
              refine wpAnyH_take (i := 5) (oi := _) (v := ?_) rfl (by kernel_rfl) (by kernel_rfl) (by kernel_rfl) (fun _ _ _ h => h) (Or.inl ⟨by rfl, ?_⟩) (by assumption) ?_
              case refine_2 => intro w hSw; (try dsimp only at hSw); go_simp; try with_reducible rfl
              try simp only [Act.put, List.setIfInBounds_toArray, List.set_cons_zero, List.set_cons_succ]
              refine wpAnyH_take (i := 6) (oi := _) (v := ?_) rfl (by kernel_rfl) (by kernel_rfl) (by kernel_rfl) (fun _ _ _ h => h) (Or.inl ⟨by rfl, ?_⟩) (by assumption) ?_
              case refine_2 => intro w hSw; (try dsimp only at hSw); go_simp; try with_reducible rfl
              try simp only [Act.put, List.setIfInBounds_toArray, List.set_cons_zero, List.set_cons_succ]
              refine wpAnyH_take (i := 7) (oi := _) (v := ?_) rfl (by kernel_rfl) (by kernel_rfl) (by kernel_rfl) (fun _ _ _ h => h) (Or.inl ⟨by rfl, ?_⟩) (by assumption) ?_
              case refine_2 => intro w hSw; (try dsimp only at hSw); go_simp; try with_reducible rfl
              try simp only [Act.put, List.setIfInBounds_toArray, List.set_cons_zero, List.set_cons_succ]
              refine wpAnyH_take (i := 9) (oi := _) (v := ?_) rfl (by kernel_rfl) (by kernel_rfl) (by kernel_rfl) (fun _ _ _ h => h) (Or.inl ⟨by rfl, ?_⟩) (by assumption) ?_
              case refine_2 => intro w hSw; (try dsimp only at hSw); go_simp; try with_reducible rfl
              try simp only [Act.put, List.setIfInBounds_toArray, List.set_cons_zero, List.set_cons_succ]
              refine wpAnyH_take (i := 10) (oi := _) (v := ?_) rfl (by kernel_rfl) (by kernel_rfl) (by kernel_rfl) (fun _ _ _ h => h) (Or.inl ⟨by rfl, ?_⟩) (by assumption) ?_
              case refine_2 => intro w hSw; (try dsimp only at hSw); go_simp; try with_reducible rfl
              try simp only [Act.put, List.setIfInBounds_toArray, List.set_cons_zero, List.set_cons_succ]
              refine wpAnyH_take (i := 11) (oi := _) (v := ?_) rfl (by kernel_rfl) (by kernel_rfl) (by kernel_rfl) (fun _ _ _ h => h) (Or.inl ⟨by rfl, ?_⟩) (by assumption) ?_
              case refine_2 => intro w hSw; (try dsimp only at hSw); go_simp; try with_reducible rfl
              try simp only [Act.put, List.setIfInBounds_toArray, List.set_cons_zero, List.set_cons_succ]
              refine wpAnyH_ready (rs := [4]) (by kernel_rfl) (by simp) ?_
              refine AllReadyH.cons (o := _) rfl (fun K hK => ?_) AllReadyH.nil
              go_simp
              go_at_call 45
              (with_reducible refine (at1_any t p _ (by first | omega | (rw [IntKind.wrap_i64]; omega)) _ (by omega) hst).mono ?_)
              rintro e w9 ⟨rfl, rfl⟩
              refine hK.out _ _ (SX.out _ (.inl rfl)) (fun hHeld => ?_)
              clear hK K
              try simp only [Act.put, List.setIfInBounds_toArray, List.set_cons_zero, List.set_cons_succ]
              refine wpAnyH_ready (rs := [8]) (by kernel_rfl) (by simp) ?_
              refine AllReadyH.cons (o := _) rfl (fun K hK => ?_) AllReadyH.nil
              go_simp
              go_at_call 45
              (with_reducible refine (at2_any t (p + 1) _ (by first | omega | (rw [IntKind.wrap_i64]; omega)) _ (by omega) hst).mono ?_)
              rintro e w9 ⟨rfl, rfl⟩
              refine hK.out _ _ (SX.out _ (.inl rfl)) (fun hHeld => ?_)
              clear hK K
              try simp only [Act.put, List.setIfInBounds_toArray, List.set_cons_zero, List.set_cons_succ]
              refine wpAnyH_ready (rs := [12]) (by kernel_rfl) (by simp) ?_
              refine AllReadyH.cons (o := _) rfl (fun K hK => ?_) AllReadyH.nil
              go_simp
              go_at_call 45
              (with_reducible refine (at2_any t (p + 3) _ (by first | omega | (rw [IntKind.wrap_i64]; omega)) _ (by omega) hst).mono ?_)
              rintro e w9 ⟨rfl, rfl⟩
              refine hK.out _ _ (SX.out _ (.inl rfl)) (fun hHeld => ?_)
              clear hK K
              try simp only [Act.put, List.setIfInBounds_toArray, List.set_cons_zero, List.set_cons_succ]
              refine wpAnyH_ready (rs := [13]) (by kernel_rfl) (by simp) ?_
              refine AllReadyH.cons (o := _) rfl (fun K hK => ?_) AllReadyH.nil
              go_simp
              refine hK.out _ _ (SX.out _ (.inl rfl)) (fun hHeld => ?_)
              clear hK K
              try simp only [Act.put, List.setIfInBounds_toArray, List.set_cons_zero, List.set_cons_succ]
              refine wpAnyH_ready (rs := [14]) (by kernel_rfl) (by simp) ?_
              refine AllReadyH.cons (o := _) rfl (fun K hK => ?_) AllReadyH.nil
              go_simp
              refine hK.out _ _ (SX.out _ (.inr (.inl rfl))) (fun hHeld => ?_)
              clear hK K
              try simp only [Act.put, List.setIfInBounds_toArray, List.set_cons_zero, List.set_cons_succ]
              refine wpAnyH_ready (rs := [15]) (by kernel_rfl) (by simp) ?_
              refine AllReadyH.cons (o := _) rfl (fun K hK => ?_) AllReadyH.nil
              refine step_app_eq rfl (.tmp 94) (.tmp 107) 23 rfl HK.out rfl rfl ?_
              refine hK.out _ _ (SX.out _ (.inr (.inr rfl))) (fun hHeld => ?_)
              clear hK K
              try simp only [Act.put, List.setIfInBounds_toArray, List.set_cons_zero, List.set_cons_succ]
              refine wpAnyH_ready (rs := [16]) (by kernel_rfl) (by simp) ?_
              refine AllReadyH.cons (o := _) rfl (fun K hK => ?_) AllReadyH.nil
              go_simp
              refine hK.out _ _ (SX.out _ (.inr (.inr rfl))) (fun hHeld => ?_)
              clear hK K
              try simp only [Act.put, List.setIfInBounds_toArray, List.set_cons_zero, List.set_cons_succ]
              refine wpAnyH_done (by kernel_rfl) ?_ _
              refine Ends.last rfl (fun K hK => ?_)
              go_simp
              refine hK.out _ _ ?_
              clear hK K
              go_wp2
              go_roundw
              case rel => exact ⟨k + 1, p + 5, m - 1, A', c', by go_num, by go_num, by omega, by omega, Lib.hid ⟨by have := HQ.out.1; omega, by have := HQ.out.2; omega⟩, REL⟩
              case measure => simp [intOf] <;> omega
          · have i1 : ¬ (0 : Int) < (m : Int) := by omega
            have hkN : k = gb t (iq1 t) := by have := HQ.out.2; omega
            have hpN : p = iq2 t := by have := HQ.out.1; unfold iq2; omega
            subst hkN
            obtain ⟨A2, hA⟩ : ∃ q, q = A := ⟨_, rfl⟩
            obtain ⟨d2, hd⟩ : ∃ q, q = c := ⟨_, rfl⟩
            subst hA hd
            have HPS0 := Lib.hid (HP.out.next 10)
            by_cases he : t.size < p + 1
            · have i2 : (t.size : Int) - (p : Int) < 1 := by omega
              have hie : imgE s = 5 := by rw [HIE.out]; exact bodyE_end HNO.out (by have := hpN; unfold iq3 iq2 iq1 at *; omega)
              have HZE := Lib.hid (fun (w' : World) (b : Below w.heap.size w w') => HZ.out w' (by rw [hie]; decide) b)
              rw [hie] at HZE
              clear hie
              have c0 : wr.cell? ⟨w.heap.size, 0, none⟩ = some (.int .i64 0) := HP.out.b0.cell 0
              have c1 : wr.cell? ⟨w.heap.size, 1, none⟩ = some (.slice none 0 0) := HP.out.b0.cell 1
              have c2 : wr.cell? ⟨w.heap.size, 2, none⟩ = some (.slice none 0 0) := HP.out.b0.cell 2
              have c3 : wr.cell? ⟨w.heap.size, 3, none⟩ = some (.slice none 0 0) := HP.out.b0.cell 3
              have f0 := HP.out.b0.free 0
              have f1 := HP.out.b0.free 1
              have f2 := HP.out.b0.free 2
              have f3 := HP.out.b0.free 3
              go_wp2
              have bf := ((((HP.out.b0.put 0 (.int .i64 0)).put 1 (.slice none 0 0)).put 2 (.slice none 0 0)).put 3 (.slice none 0 0))
              have r0 := bf.cell 0
              have r1 := bf.cell 1
              have r2 := bf.cell 2
              have r3 := bf.cell 3
              simp at r0 r1 r2 r3
              refine bodyPost_ret (v := .tuple #[.agg #[.int .i64 0, .slice none 0 0, .slice none 0 0, .slice none 0 0], .int .i64 5]) (by simp [results, Try.results15, go_sem, r0, r1, r2, r3]) rfl ?_
              exact HZE.out _ ((((HP.out.bl.setCell (p := ⟨w.heap.size, 0, none⟩) (Nat.le_refl _) (.int .i64 0)).setCell (p := ⟨w.heap.size, 1, none⟩) (Nat.le_refl _) (.slice none 0 0)).setCell (p := ⟨w.heap.size, 2, none⟩) (Nat.le_refl _) (.slice none 0 0)).setCell (p := ⟨w.heap.size, 3, none⟩) (Nat.le_refl _) (.slice none 0 0))
            · have i2 : ¬ (t.size : Int) - (p : Int) < 1 := by omega
              have hN : gb t p = gb t (iq2 t) := by rw [hpN]
              have HPN := Lib.hid hpN
              have HNN := Lib.hid hN
              clear hpN hN
              have HS0 := Lib.hid (show p + 1 ≤ t.size from by omega)
              have HS1 := Lib.hid (show p + 1 = iq2 t + 1 + 0 * 14 from by have := HPN.out; omega)
              have HM0 := Lib.hid (show gb t p ≤ 255 from by have := gb_lt t p; omega)
              have HM1 := Lib.hid (show gb t p + 0 = gb t (iq2 t) from by have := HNN.out; omega)
              have HPS : Hid (PZ w wr gc #[.int .i64 (gw t 2), .slice A1 (gb t 4) d1, .slice A2 (gb t (iq1 t)) d2, .slice none 0 0] 10 (.slice none 0 0) 0 (cl9L (fun q => cliR t ((iq2 t + 1) + q * 14)) 0) [(3, .slice A2 (gb t (iq1 t)) d2, gb t (iq1 t), w3L (fun q => winR t ((iq1 t + 1) + q * 5)) (gb t (iq1 t))), (3, .slice A1 (gb t 4) d1, gb t 4, w3L (fun q => winR t (5 + q * 5)) (gb t 4))]) := Lib.hid HPS0.out
              go_wp2_with (go_at_call 45; (with_reducible refine (at1_any t p _ (by omega) wr (by omega) hst).mono ?_); rintro e w9 ⟨rfl, rfl⟩)
              go_loopw [6, 9] (fun x y wr => ∃ (k p m : Nat) (A : Option Addr) (c : Nat), x = .int .i64 p ∧ y = .int .i64 m ∧ p ≤ t.size ∧ m ≤ 255 ∧ Hid (p = (iq2 t + 1) + k * 14 ∧ m + k = gb t (iq2 t)) ∧ Hid (PZ w wr gc #[.int .i64 (gw t 2), .slice A1 (gb t 4) d1, .slice A2 (gb t (iq1 t)) d2, .slice A k c] 10 (.slice A k c) k (cl9L (fun q => cliR t ((iq2 t + 1) + q * 14)) k) [(3, .slice A2 (gb t (iq1 t)) d2, gb t (iq1 t), w3L (fun q => winR t ((iq1 t + 1) + q * 5)) (gb t (iq1 t))), (3, .slice A1 (gb t 4) d1, gb t 4, w3L (fun q => winR t (5 + q * 5)) (gb t 4))])) (fun x y _ => (intOf y).toNat)
              case atStart => exact ⟨0, p + 1, gb t p, none, 0, by go_num, rfl, by first | exact HS0.out | omega, by have := gb_lt t 4; have := gb_lt t (iq1 t); have := gb_lt t (iq2 t); first | exact HM0.out | omega, Lib.hid ⟨by first | exact HS1.out | omega, by first | exact HM1.out | omega⟩, HPS⟩
              case round =>
                obtain ⟨k, p, m, A, c, rfl, rfl, hp, hm9, HQ, HP⟩ := hrel
                by_cases hm : 0 < m
                · have i1 : (0 : Int) < (m : Int) := by omega
                  by_cases he : t.size < p + 14
                  · have i2 : (t.size : Int) - (p : Int) < 14 := by omega
                    have hie : imgE s = 5 := by rw [HIE.out]; exact bodyE_end HNO.out (by have := HQ.out; unfold iq3 iq2 iq1 at *; omega)
                    have HZE := Lib.hid (fun (w' : World) (b : Below w.heap.size w w') => HZ.out w' (by rw [hie]; decide) b)
                    rw [hie] at HZE
                    clear hie
                    have c0 : wr.cell? ⟨w.heap.size, 0, none⟩ = some (.int .i64 0) := HP.out.b0.cell 0
                    have c1 : wr.cell? ⟨w.heap.size, 1, none⟩ = some (.slice none 0 0) := HP.out.b0.cell 1
                    have c2 : wr.cell? ⟨w.heap.size, 2, none⟩ = some (.slice none 0 0) := HP.out.b0.cell 2
                    have c3 : wr.cell? ⟨w.heap.size, 3, none⟩ = some (.slice none 0 0) := HP.out.b0.cell 3
                    have f0 := HP.out.b0.free 0
                    have f1 := HP.out.b0.free 1
                    have f2 := HP.out.b0.free 2
                    have f3 := HP.out.b0.free 3
                    go_wp2
                    have bf := ((((HP.out.b0.put 0 (.int .i64 0)).put 1 (.slice none 0 0)).put 2 (.slice none 0 0)).put 3 (.slice none 0 0))
                    have r0 := bf.cell 0
                    have r1 := bf.cell 1
                    have r2 := bf.cell 2
                    have r3 := bf.cell 3
                    simp at r0 r1 r2 r3
                    refine bodyPost_ret (v := .tuple #[.agg #[.int .i64 0, .slice none 0 0, .slice none 0 0, .slice none 0 0], .int .i64 5]) (by simp [results, Try.results15, go_sem, r0, r1, r2, r3]) rfl ?_
                    exact HZE.out _ ((((HP.out.bl.setCell (p := ⟨w.heap.size, 0, none⟩) (Nat.le_refl _) (.int .i64 0)).setCell (p := ⟨w.heap.size, 1, none⟩) (Nat.le_refl _) (.slice none 0 0)).setCell (p := ⟨w.heap.size, 2, none⟩) (Nat.le_refl _) (.slice none 0 0)).setCell (p := ⟨w.heap.size, 3, none⟩) (Nat.le_refl _) (.slice none 0 0))
                  · have i2 : ¬ (t.size : Int) - (p : Int) < 14 := by omega
                    have hk1 : k ≤ 255 := by have := HQ.out.2; have := gb_lt t 4; have := gb_lt t (iq1 t); have := gb_lt t (iq2 t); omega
                    obtain ⟨i0, hi0, hz0, hz1, hz2⟩ := info_parts cli_info
                    obtain ⟨v', w', hk, hr, hsx, hfz, A', c', rfl⟩ := HP.out.push (P := Try.prog) (ys := [.int .i64 (gw t p), .int .i64 (gw t (p + 2)), .int .i64 (gb t (p + 4)), .int .i64 (gw t (p + 5)), .int .i64 (gb t (p + 7)), .int .i64 (gb t (p + 8)), .int .i64 (gb t (p + 9)), .int .i64 (gb t (p + 10)), .int .i64 (gw t (p + 11)), .int .i64 (gb t (p + 13))]) 3 24 57 i0 _ 80 Try.underlying24 hi0 hz0 hz1 hz2 (by omega) rfl (cl9L_one _ _) (by intro u hu; simp at hu; rcases hu with rfl | rfl | rfl | rfl | rfl | rfl | rfl | rfl | rfl | rfl <;> rfl) rfl (by omega)
                    have HK := Lib.hid hk
                    have SX := Lib.hid hsx
                    clear hk hsx hi0 hz0 hz1 hz2
                    have REL : Hid (PZ w (w'.setCell ⟨gc, 3, none⟩ (.slice A' (k + 1) c')) gc #[.int .i64 (gw t 2), .slice A1 (gb t 4) d1, .slice A2 (gb t (iq1 t)) d2, .slice A' (k + 1) c'] 10 (.slice A' (k + 1) c') (k + 1) (cl9L (fun q => cliR t ((iq2 t + 1) + q * 14)) (k + 1)) [(3, .slice A2 (gb t (iq1 t)) d2, gb t (iq1 t), w3L (fun q => winR t ((iq1 t + 1) + q * 5)) (gb t (iq1 t))), (3, .slice A1 (gb t 4) d1, gb t 4, w3L (fun q => winR t (5 + q * 5)) (gb t 4))]) := Lib.hid (by
                      have hp0 := HQ.out.1
                      rw [cl9L_succ, ← hp0]
                      exact hr)
                    clear hr
                    have y1 : w'.cell? ⟨gc, 3, none⟩ = some (.slice A k c) := SX.out w' (.inr (.inr rfl))
                    go_upto_region 37 with (fail)
                    refine wp_region_ends2 45 (fun w' => w'.cell? ⟨gc, 3, none⟩ = some (.slice A k c)) (by kernel_rfl) (by kernel_rfl) (SX.out _ (.inl rfl)) (fun hHeld => ?_)
                    simp only [List.take_succ_cons, List.take_zero]
                    refine wpAnyH_take (i := 0) (oi := _) (v := ?_) rfl (by kernel_rfl) (by kernel_rfl) (by kernel_rfl) (fun _ _ _ h => h) (Or.inl ⟨by rfl, ?_⟩) (by assumption) ?_
                    case refine_2 => intro w hSw; (try dsimp only at hSw); go_simp; try with_reducible rfl
                    try simp only [Act.put, List.setIfInBounds_toArray, List.set_cons_zero, List.set_cons_succ]
                    refine wpAnyH_take (i := 1) (oi := _) (v := ?_) rfl (by kernel_rfl) (by kernel_rfl) (by kernel_rfl) (fun _ _ _ h => h) (Or.inl ⟨by rfl, ?_⟩) (by assumption) ?_
                    case refine_2 => intro w hSw; (try dsimp only at hSw); go_simp; try with_reducible rfl
                    try simp only [Act.put, List.setIfInBounds_toArray, List.set_cons_zero, List.set_cons_succ]
                    refine wpAnyH_take (i := 2) (oi := _) (v := ?_) rfl (by kernel_rfl) (by kernel_rfl) (by kernel_rfl) (fun _ _ _ h => h) (Or.inl ⟨by rfl, ?_⟩) (by assumption) ?_
                    case refine_2 => intro w hSw; (try dsimp only at hSw); go_simp; try with_reducible rfl
                    try simp only [Act.put, List.setIfInBounds_toArray, List.set_cons_zero, List.set_cons_succ]
                    refine wpAnyH_take (i := 3) (oi := _) (v := ?_) rfl (by kernel_rfl) (by kernel_rfl) (by kernel_rfl) (fun _ _ _ h => h) (Or.inl ⟨by rfl, ?_⟩) (by assumption) ?_
                    case refine_2 => intro w hSw; (try dsimp only at hSw); go_simp; try with_reducible rfl
                    try simp only [Act.put, List.setIfInBounds_toArray, List.set_cons_zero, List.set_cons_succ]
                    refine wpAnyH_take (i := 5) (oi := _) (v := ?_) rfl (by kernel_rfl) (by kernel_rfl) (by kernel_rfl) (fun _ _ _ h => h) (Or.inl ⟨by rfl, ?_⟩) (by assumption) ?_
                    case refine_2 => intro w hSw; (try dsimp only at hSw); go_simp; try with_reducible rfl
                    try simp only [Act.put, List.setIfInBounds_toArray, List.set_cons_zero, List.set_cons_succ]
                    refine wpAnyH_take (i := 6) (oi := _) (v := ?_) rfl (by kernel_rfl) (by kernel_rfl) (by kernel_rfl) (fun _ _ _ h => h) (Or.inl ⟨by rfl, ?_⟩) (by assumption) ?_
                    case refine_2 => intro w hSw; (try dsimp only at hSw); go_simp; try with_reducible rfl
                    try simp only [Act.put, List.setIfInBounds_toArray, List.set_cons_zero, List.set_cons_succ]
                    refine wpAnyH_take (i := 7) (oi := _) (v := ?_) rfl (by kernel_rfl) (by kernel_rfl) (by kernel_rfl) (fun _ _ _ h => h) (Or.inl ⟨by rfl, ?_⟩) (by assumption) ?_
                    case refine_2 => intro w hSw; (try dsimp only at hSw); go_simp; try with_reducible rfl
                    try simp only [Act.put, List.setIfInBounds_toArray, List.set_cons_zero, List.set_cons_succ]
                    refine wpAnyH_take (i := 9) (oi := _) (v := ?_) rfl (by kernel_rfl) (by kernel_rfl) (by kernel_rfl) (fun _ _ _ h => h) (Or.inl ⟨by rfl, ?_⟩) (by assumption) ?_
                    case refine_2 => intro w hSw; (try dsimp only at hSw); go_simp; try with_reducible rfl
                    try simp only [Act.put, List.setIfInBounds_toArray, List.set_cons_zero, List.set_cons_succ]
                    refine wpAnyH_take (i := 10) (oi := _) (v := ?_) rfl (by kernel_rfl) (by kernel_rfl) (by kernel_rfl) (fun _ _ _ h => h) (Or.inl ⟨by rfl, ?_⟩) (by assumption) ?_
                    case refine_2 => intro w hSw; (try dsimp only at hSw); go_simp; try with_reducible rfl
                    try simp only [Act.put, List.setIfInBounds_toArray, List.set_cons_zero, List.set_cons_succ]
                    refine wpAnyH_take (i := 11) (oi := _) (v := ?_) rfl (by kernel_rfl) (by kernel_rfl) (by kernel_rfl) (fun _ _ _ h => h) (Or.inl ⟨by rfl, ?_⟩) (by assumption) ?_
                    case refine_2 => intro w hSw; (try dsimp only at hSw); go_simp; try with_reducible rfl
                    try simp only [Act.put, List.setIfInBounds_toArray, List.set_cons_zero, List.set_cons_succ]
                    refine wpAnyH_take (i := 13) (oi := _) (v := ?_) rfl (by kernel_rfl) (by kernel_rfl) (by kernel_rfl) (fun _ _ _ h => h) (Or.inl ⟨by rfl, ?_⟩) (by assumption) ?_
                    case refine_2 => intro w hSw; (try dsimp only at hSw); go_simp; try with_reducible rfl
                    try simp only [Act.put, List.setIfInBounds_toArray, List.set_cons_zero, List.set_cons_succ]
                    refine wpAnyH_take (i := 14) (oi := _) (v := ?_) rfl (by kernel_rfl) (by kernel_rfl) (by kernel_rfl) (fun _ _ _ h => h) (Or.inl ⟨by rfl, ?_⟩) (by assumption) ?_
                    case refine_2 => intro w hSw; (try dsimp only at hSw); go_simp; try with_reducible rfl
                    try simp only [Act.put, List.setIfInBounds_toArray, List.set_cons_zero, List.set_cons_succ]
                    refine wpAnyH_take (i := 15) (oi := _) (v := ?_) rfl (by kernel_rfl) (by kernel_rfl) (by kernel_rfl) (fun _ _ _ h => h) (Or.inl ⟨by rfl, ?_⟩) (by assumption) ?_
                    case refine_2 => intro w hSw; (try dsimp only at hSw); go_simp; try with_reducible rfl
                    try simp only [Act.put, List.setIfInBounds_toArray, List.set_cons_zero, List.set_cons_succ]
                    refine wpAnyH_take (i := 17) (oi := _) (v := ?_) rfl (by kernel_rfl) (by kernel_rfl) (by kernel_rfl) (fun _ _ _ h => h) (Or.inl ⟨by rfl, ?_⟩) (by assumption) ?_
                    case refine_2 => intro w hSw; (try dsimp only at hSw); go_simp; try with_reducible rfl
                    try simp only [Act.put, List.setIfInBounds_toArray, List.set_cons_zero, List.set_cons_succ]
                    refine wpAnyH_take (i := 18) (oi := _) (v := ?_) rfl (by kernel_rfl) (by kernel_rfl) (by kernel_rfl) (fun _ _ _ h => h) (Or.inl ⟨by rfl, ?_⟩) (by assumption) ?_
                    case refine_2 => intro w hSw; (try dsimp only at hSw); go_simp; try with_reducible rfl
                    try simp only [Act.put, List.setIfInBounds_toArray, List.set_cons_zero, List.set_cons_succ]
                    refine wpAnyH_take (i := 19) (oi := _) (v := ?_) rfl (by kernel_rfl) (by kernel_rfl) (by kernel_rfl) (fun _ _ _ h => h) (Or.inl ⟨by rfl, ?_⟩) (by assumption) ?_
                    case refine_2 => intro w hSw; (try dsimp only at hSw); go_simp; try with_reducible rfl
                    try simp only [Act.put, List.setIfInBounds_toArray, List.set_cons_zero, List.set_cons_succ]
                    refine wpAnyH_take (i := 21) (oi := _) (v := ?_) rfl (by kernel_rfl) (by kernel_rfl) (by kernel_rfl) (fun _ _ _ h => h) (Or.inl ⟨by rfl, ?_⟩) (by assumption) ?_
                    case refine_2 => intro w hSw; (try dsimp only at hSw); go_simp; try with_reducible rfl
                    try simp only [Act.put, List.setIfInBounds_toArray, List.set_cons_zero, List.set_cons_succ]
                    refine wpAnyH_take (i := 22) (oi := _) (v := ?_) rfl (by kernel_rfl) (by kernel_rfl) (by kernel_rfl) (fun _ _ _ h => h) (Or.inl ⟨by rfl, ?_⟩) (by assumption) ?_
                    case refine_2 => intro w hSw; (try dsimp only at hSw); go_simp; try with_reducible rfl
                    try simp only [Act.put, List.setIfInBounds_toArray, List.set_cons_zero, List.set_cons_succ]
                    refine wpAnyH_take (i := 23) (oi := _) (v := ?_) rfl (by kernel_rfl) (by kernel_rfl) (by kernel_rfl) (fun _ _ _ h => h) (Or.inl ⟨by rfl, ?_⟩) (by assumption) ?_
                    case refine_2 => intro w hSw; (try dsimp only at hSw); go_simp; try with_reducible rfl
                    try simp only [Act.put, List.setIfInBounds_toArray, List.set_cons_zero, List.set_cons_succ]
                    refine wpAnyH_take (i := 25) (oi := _) (v := ?_) rfl (by kernel_rfl) (by kernel_rfl) (by kernel_rfl) (fun _ _ _ h => h) (Or.inl ⟨by rfl, ?_⟩) (by assumption) ?_
                    case refine_2 => intro w hSw; (try dsimp only at hSw); go_simp; try with_reducible rfl
                    try simp only [Act.put, List.setIfInBounds_toArray, List.set_cons_zero, List.set_cons_succ]
                    refine wpAnyH_take (i := 26) (oi := _) (v := ?_) rfl (by kernel_rfl) (by kernel_rfl) (by kernel_rfl) (fun _ _ _ h => h) (Or.inl ⟨by rfl, ?_⟩) (by assumption) ?_
                    case refine_2 => intro w hSw; (try dsimp only at hSw); go_simp; try with_reducible rfl
                    try simp only [Act.put, List.setIfInBounds_toArray, List.set_cons_zero, List.set_cons_succ]
                    refine wpAnyH_take (i := 27) (oi := _) (v := ?_) rfl (by kernel_rfl) (by kernel_rfl) (by kernel_rfl) (fun _ _ _ h => h) (Or.inl ⟨by rfl, ?_⟩) (by assumption) ?_
                    case refine_2 => intro w hSw; (try dsimp only at hSw); go_simp; try with_reducible rfl
                    try simp only [Act.put, List.setIfInBounds_toArray, List.set_cons_zero, List.set_cons_succ]
                    refine wpAnyH_take (i := 29) (oi := _) (v := ?_) rfl (by kernel_rfl) (by kernel_rfl) (by kernel_rfl) (fun _ _ _ h => h) (Or.inl ⟨by rfl, ?_⟩) (by assumption) ?_
                    case refine_2 => intro w hSw; (try dsimp only at hSw); go_simp; try with_reducible rfl
                    try simp only [Act.put, List.setIfInBounds_toArray, List.set_cons_zero, List.set_cons_succ]
                    refine wpAnyH_take (i := 30) (oi := _) (v := ?_) rfl (by kernel_rfl) (by kernel_rfl) (by kernel_rfl) (fun _ _ _ h => h) (Or.inl ⟨by rfl, ?_⟩) (by assumption) ?_
                    case refine_2 => intro w hSw; (try dsimp only at hSw); go_simp; try with_reducible rfl
                    try simp only [Act.put, List.setIfInBounds_toArray, List.set_cons_zero, List.set_cons_succ]
                    refine wpAnyH_take (i := 31) (oi := _) (v := ?_) rfl (by kernel_rfl) (by kernel_rfl) (by kernel_rfl) (fun _ _ _ h => h) (Or.inl ⟨by rfl, ?_⟩) (by assumption) ?_
                    case refine_2 => intro w hSw; (try dsimp only at hSw); go_simp; try with_reducible rfl
                    try simp only [Act.put, List.setIfInBounds_toArray, List.set_cons_zero, List.set_cons_succ]
                    refine wpAnyH_take (i := 33) (oi := _) (v := ?_) rfl (by kernel_rfl) (by kernel_rfl) (by kernel_rfl) (fun _ _ _ h => h) (Or.inl ⟨by rfl, ?_⟩) (by assumption) ?_
                    case refine_2 => intro w hSw; (try dsimp only at hSw); go_simp; try with_reducible rfl
                    try simp only [Act.put, List.setIfInBounds_toArray, List.set_cons_zero, List.set_cons_succ]
                    refine wpAnyH_take (i := 34) (oi := _) (v := ?_) rfl (by kernel_rfl) (by kernel_rfl) (by kernel_rfl) (fun _ _ _ h => h) (Or.inl ⟨by rfl, ?_⟩) (by assumption) ?_
                    case refine_2 => intro w hSw; (try dsimp only at hSw); go_simp; try with_reducible rfl
                    try simp only [Act.put, List.setIfInBounds_toArray, List.set_cons_zero, List.set_cons_succ]
                    refine wpAnyH_take (i := 35) (oi := _) (v := ?_) rfl (by kernel_rfl) (by kernel_rfl) (by kernel_rfl) (fun _ _ _ h => h) (Or.inl ⟨by rfl, ?_⟩) (by assumption) ?_
                    case refine_2 => intro w hSw; (try dsimp only at hSw); go_simp; try with_reducible rfl
                    try simp only [Act.put, List.setIfInBounds_toArray, List.set_cons_zero, List.set_cons_succ]
                    refine wpAnyH_take (i := 37) (oi := _) (v := ?_) rfl (by kernel_rfl) (by kernel_rfl) (by kernel_rfl) (fun _ _ _ h => h) (Or.inl ⟨by rfl, ?_⟩) (by assumption) ?_
                    case refine_2 => intro w hSw; (try dsimp only at hSw); go_simp; try with_reducible rfl
                    try simp only [Act.put, List.setIfInBounds_toArray, List.set_cons_zero, List.set_cons_succ]
                    refine wpAnyH_take (i := 38) (oi := _) (v := ?_) rfl (by kernel_rfl) (by kernel_rfl) (by kernel_rfl) (fun _ _ _ h => h) (Or.inl ⟨by rfl, ?_⟩) (by assumption) ?_
                    case refine_2 => intro w hSw; (try dsimp only at hSw); go_simp; try with_reducible rfl
                    try simp only [Act.put, List.setIfInBounds_toArray, List.set_cons_zero, List.set_cons_succ]
                    refine wpAnyH_take (i := 39) (oi := _) (v := ?_) rfl (by kernel_rfl) (by kernel_rfl) (by kernel_rfl) (fun _ _ _ h => h) (Or.inl ⟨by rfl, ?_⟩) (by assumption) ?_
                    case refine_2 => intro w hSw; (try dsimp only at hSw); go_simp; try with_reducible rfl
                    try simp only [Act.put, List.setIfInBounds_toArray, List.set_cons_zero, List.set_cons_succ]
                    refine wpAnyH_ready (rs := [4]) (by kernel_rfl) (by simp) ?_
                    refine AllReadyH.cons (o := _) rfl (fun K hK => ?_) AllReadyH.nil
                    go_simp
                    go_at_call 45
                    (with_reducible refine (at2_any t p _ (by first | omega | (rw [IntKind.wrap_i64]; omega)) _ (by omega) hst).mono ?_)
                    rintro e w9 ⟨rfl, rfl⟩
                    refine hK.out _ _ (SX.out _ (.inl rfl)) (fun hHeld => ?_)
                    clear hK K
                    try simp only [Act.put, List.setIfInBounds_toArray, List.set_cons_zero, List.set_cons_succ]
                    refine wpAnyH_ready (rs := [8]) (by kernel_rfl) (by simp) ?_
                    refine AllReadyH.cons (o := _) rfl (fun K hK => ?_) AllReadyH.nil
                    go_simp
                    go_at_call 45
                    (with_reducible refine (at2_any t (p + 2) _ (by first | omega | (rw [IntKind.wrap_i64]; omega)) _ (by omega) hst).mono ?_)
                    rintro e w9 ⟨rfl, rfl⟩
                    refine hK.out _ _ (SX.out _ (.inl rfl)) (fun hHeld => ?_)
                    clear hK K
                    try simp only [Act.put, List.setIfInBounds_toArray, List.set_cons_zero, List.set_cons_succ]
                    refine wpAnyH_ready (rs := [12]) (by kernel_rfl) (by simp) ?_
                    refine AllReadyH.cons (o := _) rfl (fun K hK => ?_) AllReadyH.nil
                    go_simp
                    go_at_call 45
                    (with_reducible refine (at1_any t (p + 4) _ (by first | omega | (rw [IntKind.wrap_i64]; omega)) _ (by omega) hst).mono ?_)
                    rintro e w9 ⟨rfl, rfl⟩
                    refine hK.out _ _ (SX.out _ (.inl rfl)) (fun hHeld => ?_)
                    clear hK K
                    try simp only [Act.put, List.setIfInBounds_toArray, List.set_cons_zero, List.set_cons_succ]
                    refine wpAnyH_ready (rs := [16]) (by kernel_rfl) (by simp) ?_
                    refine AllReadyH.cons (o := _) rfl (fun K hK => ?_) AllReadyH.nil
                    go_simp
                    go_at_call 45
                    (with_reducible refine (at2_any t (p + 5) _ (by first | omega | (rw [IntKind.wrap_i64]; omega)) _ (by omega) hst).mono ?_)
                    rintro e w9 ⟨rfl, rfl⟩
                    refine hK.out _ _ (SX.out _ (.inl rfl)) (fun hHeld => ?_)
                    clear hK K
                    try simp only [Act.put, List.setIfInBounds_toArray, List.set_cons_zero, List.set_cons_succ]
                    refine wpAnyH_ready (rs := [20]) (by kernel_rfl) (by simp) ?_
                    refine AllReadyH.cons (o := _) rfl (fun K hK => ?_) AllReadyH.nil
                    go_simp
                    go_at_call 45
                    (with_reducible refine (at1_any t (p + 7) _ (by first | omega | (rw [IntKind.wrap_i64]; omega)) _ (by omega) hst).mono ?_)
                    rintro e w9 ⟨rfl, rfl⟩
                    refine hK.out _ _ (SX.out _ (.inl rfl)) (fun hHeld => ?_)
                    clear hK K
                    try simp only [Act.put, List.setIfInBounds_toArray, List.set_cons_zero, List.set_cons_succ]
                    refine wpAnyH_ready (rs := [24]) (by kernel_rfl) (by simp) ?_
                    refine AllReadyH.cons (o := _) rfl (fun K hK => ?_) AllReadyH.nil
                    go_simp
                    go_at_call 45
                    (with_reducible refine (at1_any t (p + 8) _ (by first | omega | (rw [IntKind.wrap_i64]; omega)) _ (by omega) hst).mono ?_)
                    rintro e w9 ⟨rfl, rfl⟩
                    refine hK.out _ _ (SX.out _ (.inl rfl)) (fun hHeld => ?_)
                    clear hK K
                    try simp only [Act.put, List.setIfInBounds_toArray, List.set_cons_zero, List.set_cons_succ]
                    refine wpAnyH_ready (rs := [28]) (by kernel_rfl) (by simp) ?_
                    refine AllReadyH.cons (o := _) rfl (fun K hK => ?_) AllReadyH.nil
                    go_simp
                    go_at_call 45
                    (with_reducible refine (at1_any t (p + 9) _ (by first | omega | (rw [IntKind.wrap_i64]; omega)) _ (by omega) hst).mono ?_)
                    rintro e w9 ⟨rfl, rfl⟩
                    refine hK.out _ _ (SX.out _ (.inl rfl)) (fun hHeld => ?_)
                    clear hK K
                    try simp only [Act.put, List.setIfInBounds_toArray, List.set_cons_zero, List.set_cons_succ]
                    refine wpAnyH_ready (rs := [32]) (by kernel_rfl) (by simp) ?_
                    refine AllReadyH.cons (o := _) rfl (fun K hK => ?_) AllReadyH.nil
                    go_simp
                    go_at_call 45
                    (with_reducible refine (at1_any t (p + 10) _ (by first | omega | (rw [IntKind.wrap_i64]; omega)) _ (by omega) hst).mono ?_)
                    rintro e w9 ⟨rfl, rfl⟩
                    refine hK.out _ _ (SX.out _ (.inl rfl)) (fun hHeld => ?_)
                    clear hK K
                    try simp only [Act.put, List.setIfInBounds_toArray, List.set_cons_zero, List.set_cons_succ]
                    refine wpAnyH_ready (rs := [36]) (by kernel_rfl) (by simp) ?_
                    refine AllReadyH.cons (o := _) rfl (fun K hK => ?_) AllReadyH.nil
                    go_simp
                    go_at_call 45
                    (with_reducible refine (at2_any t (p + 11) _ (by first | omega | (rw [IntKind.wrap_i64]; omega)) _ (by omega) hst).mono ?_)
                    rintro e w9 ⟨rfl, rfl⟩
                    refine hK.out _ _ (SX.out _ (.inl rfl)) (fun hHeld => ?_)
                    clear hK K
                    try simp only [Act.put, List.setIfInBounds_toArray, List.set_cons_zero, List.set_cons_succ]
                    refine wpAnyH_ready (rs := [40]) (by kernel_rfl) (by simp) ?_
                    refine AllReadyH.cons (o := _) rfl (fun K hK => ?_) AllReadyH.nil
                    go_simp
                    go_at_call 45
                    (with_reducible refine (at1_any t (p + 13) _ (by first | omega | (rw [IntKind.wrap_i64]; omega)) _ (by omega) hst).mono ?_)
                    rintro e w9 ⟨rfl, rfl⟩
                    refine hK.out _ _ (SX.out _ (.inl rfl)) (fun hHeld => ?_)
                    clear hK K
                    try simp only [Act.put, List.setIfInBounds_toArray, List.set_cons_zero, List.set_cons_succ]
                    refine wpAnyH_ready (rs := [41]) (by kernel_rfl) (by simp) ?_
                    refine AllReadyH.cons (o := _) rfl (fun K hK => ?_) AllReadyH.nil
                    go_simp
                    refine hK.out _ _ (SX.out _ (.inl rfl)) (fun hHeld => ?_)
                    clear hK K
                    try simp only [Act.put, List.setIfInBounds_toArray, List.set_cons_zero, List.set_cons_succ]
                    refine wpAnyH_ready (rs := [42]) (by kernel_rfl) (by simp) ?_
                    refine AllReadyH.cons (o := _) rfl (fun K hK => ?_) AllReadyH.nil
                    go_simp
                    refine hK.out _ _ (SX.out _ (.inr (.inl rfl))) (fun hHeld => ?_)
                    clear hK K
                    try simp only [Act.put, List.setIfInBounds_toArray, List.set_cons_zero, List.set_cons_succ]
                    refine wpAnyH_ready (rs := [43]) (by kernel_rfl) (by simp) ?_
                    refine AllReadyH.cons (o := _) rfl (fun K hK => ?_) AllReadyH.nil
                    refine step_app_eq rfl (.tmp 135) (.tmp 176) 24 rfl HK.out rfl rfl ?_
                    refine hK.out _ _ (SX.out _ (.inr (.inr rfl))) (fun hHeld => ?_)
                    clear hK K
                    try simp only [Act.put, List.setIfInBounds_toArray, List.set_cons_zero, List.set_cons_succ]
                    refine wpAnyH_ready (rs := [44]) (by kernel_rfl) (by simp) ?_
                    refine AllReadyH.cons (o := _) rfl (fun K hK => ?_) AllReadyH.nil
                    go_simp
                    refine hK.out _ _ (SX.out _ (.inr (.inr rfl))) (fun hHeld => ?_)
                    clear hK K
                    try simp only [Act.put, List.setIfInBounds_toArray, List.set_cons_zero, List.set_cons_succ]
                    refine wpAnyH_done (by kernel_rfl) ?_ _
                    refine Ends.last rfl (fun K hK => ?_)
                    go_simp
                    refine hK.out _ _ ?_
                    clear hK K
                    go_wp2
                    go_roundw
                    case rel => exact ⟨k + 1, p + 14, m - 1, A', c', by go_num, by go_num, by omega, by omega, Lib.hid ⟨by have := HQ.out.1; omega, by have := HQ.out.2; omega⟩, REL⟩
                    case measure => simp [intOf] <;> omega
                · have i1 : ¬ (0 : Int) < (m : Int) := by omega
                  have hkN : k = gb t (iq2 t) := by have := HQ.out.2; omega
                  have hpN : p = iq3 t := by have := HQ.out.1; unfold iq3; omega
                  subst hkN
                  by_cases he : p < t.size
                  · have i2 : (p : Int) < (t.size : Int) := by omega
                    have hie : imgE s = 3 := by rw [HIE.out]; exact bodyE_more HNO.out (by omega)
                    have HZE := Lib.hid (fun (w' : World) (b : Below w.heap.size w w') => HZ.out w' (by rw [hie]; decide) b)
                    rw [hie] at HZE
                    clear hie
                    have c0 : wr.cell? ⟨w.heap.size, 0, none⟩ = some (.int .i64 0) := HP.out.b0.cell 0
                    have c1 : wr.cell? ⟨w.heap.size, 1, none⟩ = some (.slice none 0 0) := HP.out.b0.cell 1
                    have c2 : wr.cell? ⟨w.heap.size, 2, none⟩ = some (.slice none 0 0) := HP.out.b0.cell 2
                    have c3 : wr.cell? ⟨w.heap.size, 3, none⟩ = some (.slice none 0 0) := HP.out.b0.cell 3
                    have f0 := HP.out.b0.free 0
                    have f1 := HP.out.b0.free 1
                    have f2 := HP.out.b0.free 2
                    have f3 := HP.out.b0.free 3
                    go_wp2
                    have bf := ((((HP.out.b0.put 0 (.int .i64 0)).put 1 (.slice none 0 0)).put 2 (.slice none 0 0)).put 3 (.slice none 0 0))
                    have r0 := bf.cell 0
                    have r1 := bf.cell 1
                    have r2 := bf.cell 2
                    have r3 := bf.cell 3
                    simp at r0 r1 r2 r3
                    refine bodyPost_ret (v := .tuple #[.agg #[.int .i64 0, .slice none 0 0, .slice none 0 0, .slice none 0 0], .int .i64 3]) (by simp [results, Try.results15, go_sem, r0, r1, r2, r3]) rfl ?_
                    exact HZE.out _ ((((HP.out.bl.setCell (p := ⟨w.heap.size, 0, none⟩) (Nat.le_refl _) (.int .i64 0)).setCell (p := ⟨w.heap.size, 1, none⟩) (Nat.le_refl _) (.slice none 0 0)).setCell (p := ⟨w.heap.size, 2, none⟩) (Nat.le_refl _) (.slice none 0 0)).setCell (p := ⟨w.heap.size, 3, none⟩) (Nat.le_refl _) (.slice none 0 0))
                  · have i2 : ¬ (p : Int) < (t.size : Int) := by omega
                    have hie : imgE s = 0 := by rw [HIE.out]; exact bodyE_ok HNO.out (by omega)
                    have HIE0 := Lib.hid hie
                    clear hie hpN
                    have c0 : wr.cell? ⟨w.heap.size, 0, none⟩ = some (.int .i64 0) := HP.out.b0.cell 0
                    have c1 : wr.cell? ⟨w.heap.size, 1, none⟩ = some (.slice none 0 0) := HP.out.b0.cell 1
                    have c2 : wr.cell? ⟨w.heap.size, 2, none⟩ = some (.slice none 0 0) := HP.out.b0.cell 2
                    have c3 : wr.cell? ⟨w.heap.size, 3, none⟩ = some (.slice none 0 0) := HP.out.b0.cell 3
                    have f0 := HP.out.b0.free 0
                    have f1 := HP.out.b0.free 1
                    have f2 := HP.out.b0.free 2
                    have f3 := HP.out.b0.free 3
                    have z0 : wr.cell? ⟨gc, 0, none⟩ = some (.int .i64 (gw t 2)) := HP.out.bc.cell 0
                    have z1 : wr.cell? ⟨gc, 1, none⟩ = some (.slice A1 (gb t 4) d1) := HP.out.bc.cell 1
                    have z2 : wr.cell? ⟨gc, 2, none⟩ = some (.slice A2 (gb t (iq1 t)) d2) := HP.out.bc.cell 2
                    have z3 : wr.cell? ⟨gc, 3, none⟩ = some (.slice A (gb t (iq2 t)) c) := HP.out.bc.cell 3
                    go_wp2
                    have hgw : w.heap.size ≤ gc := by have := HP.out.lt; omega
                    obtain ⟨s2, o2⟩ := HP.out.done _ (List.mem_cons_self ..)
                    obtain ⟨s1, o1⟩ := HP.out.done _ (List.mem_cons_of_mem _ (List.mem_cons_self ..))
                    have K1 : Kept 3 wr (.slice A1 (gb t 4) d1) (gb t 4) _ gc := ⟨s1, fun q hq => (o1 q hq).1⟩
                    have K2 : Kept 3 wr (.slice A2 (gb t (iq1 t)) d2) (gb t (iq1 t)) _ gc := ⟨s2, fun q hq => (o2 q hq).1⟩
                    have K3 : Kept 10 wr (.slice A (gb t (iq2 t)) c) (gb t (iq2 t)) _ gc := ⟨HP.out.row, HP.out.own⟩
                    have kk1 := ((((K1.set (p := ⟨w.heap.size, 0, none⟩) hgw (.int .i64 (gw t 2))).set (p := ⟨w.heap.size, 1, none⟩) hgw (.slice A1 (gb t 4) d1)).set (p := ⟨w.heap.size, 2, none⟩) hgw (.slice A2 (gb t (iq1 t)) d2)).set (p := ⟨w.heap.size, 3, none⟩) hgw (.slice A (gb t (iq2 t)) c))
                    have kk2 := ((((K2.set (p := ⟨w.heap.size, 0, none⟩) hgw (.int .i64 (gw t 2))).set (p := ⟨w.heap.size, 1, none⟩) hgw (.slice A1 (gb t 4) d1)).set (p := ⟨w.heap.size, 2, none⟩) hgw (.slice A2 (gb t (iq1 t)) d2)).set (p := ⟨w.heap.size, 3, none⟩) hgw (.slice A (gb t (iq2 t)) c))
                    have kk3 := ((((K3.set (p := ⟨w.heap.size, 0, none⟩) hgw (.int .i64 (gw t 2))).set (p := ⟨w.heap.size, 1, none⟩) hgw (.slice A1 (gb t 4) d1)).set (p := ⟨w.heap.size, 2, none⟩) hgw (.slice A2 (gb t (iq1 t)) d2)).set (p := ⟨w.heap.size, 3, none⟩) hgw (.slice A (gb t (iq2 t)) c))
                    have bf := ((((HP.out.b0.put 0 (.int .i64 (gw t 2))).put 1 (.slice A1 (gb t 4) d1)).put 2 (.slice A2 (gb t (iq1 t)) d2)).put 3 (.slice A (gb t (iq2 t)) c))
                    have r0 := bf.cell 0
                    have r1 := bf.cell 1
                    have r2 := bf.cell 2
                    have r3 := bf.cell 3
                    simp at r0 r1 r2 r3
                    refine bodyPost_ret (v := .tuple #[.agg #[.int .i64 (gw t 2), .slice A1 (gb t 4) d1, .slice A2 (gb t (iq1 t)) d2, .slice A (gb t (iq2 t)) c], .int .i64 0]) (by simp [results, Try.results15, go_sem, r0, r1, r2, r3]) rfl ?_
                    refine HPV.out _ _ ⟨{ fr := gw t 2, wA := A1, wn := gb t 4, wc := d1, wd := fun q => winR t (5 + q * 5), sA := A2, sn := gb t (iq1 t), sc := d2, sd := fun q => winR t (iq1 t + 1 + q * 5), cA := A, cn := gb t (iq2 t), cc := c, cd := fun q => cliR t (iq2 t + 1 + q * 14) }, by rw [HIE0.out], ⟨row3_of kk1.1, row3_of kk2.1, row9_of kk3.1⟩, ⟨by have := gw_lt t 2; unfold fitI; simp only; omega, ⟨kk1.cap.1, kk1.cap.2, fun i _ => winR_fit _ _⟩, ⟨kk2.cap.1, kk2.cap.2, fun i _ => winR_fit _ _⟩, ⟨kk3.cap.1, kk3.cap.2, fun i _ => cliR_fit _ _⟩⟩, ((((HP.out.bl.setCell (p := ⟨w.heap.size, 0, none⟩) (Nat.le_refl _) (.int .i64 (gw t 2))).setCell (p := ⟨w.heap.size, 1, none⟩) (Nat.le_refl _) (.slice A1 (gb t 4) d1)).setCell (p := ⟨w.heap.size, 2, none⟩) (Nat.le_refl _) (.slice A2 (gb t (iq1 t)) d2)).setCell (p := ⟨w.heap.size, 3, none⟩) (Nat.le_refl _) (.slice A (gb t (iq2 t)) c)), fun _ => ⟨rfl, ⟨rfl, fun i _ => rfl⟩, ⟨rfl, fun i _ => rfl⟩, ⟨rfl, fun i _ => rfl⟩⟩, fun e => absurd HIE0.out e⟩
end Go.Proofs.Ytjmdcmcheiagjaa
