import Derived.Test.YtkiifafocmjfkaaX09
set_option linter.all false
/- The law's step: what is settled; what is finished. -/
namespace Go.Proofs.Ytkiifafocmjfkaa
open Go.RowKit Go.Lib
set_option linter.unusedVariables false
set_option maxRecDepth 20000

set_option maxHeartbeats 6400000 in
theorem Qu.step_settle (w W : World) (q bw bd lim : Nat) (vw vd : Value) (L : List Qu.It) (D : List Qu.Cl) (A A2 : Option Addr) (n c n2 c2 : Nat) (y : Qu.Dd) (h : Qu.Own w W q bw bd vw vd L D lim) (hd : Qu.Dr W (.slice A n c) (.slice A2 n2 c2) L D) (hn : n = L.length) (hn2 : n2 = D.length) (ha : ∀ i, Qu.Do (.slice A n c) (.slice A2 n2 c2) i → ¬ Qu.Ft q bw bd vw vd i) : Calls Try.prog 8 #[.pointer (some ⟨q, 0, none⟩), .agg #[.slice A n c, .slice A2 n2 c2, .int .i64 lim], .agg #[.int .i64 1, .int .i64 y.it.k, .int .u8 y.it.wh, .int .u8 y.it.st, .int .i64 y.it.ad, .int .i64 y.it.ln, .int .i64 y.it.ar, .bool y.it.bad, .int .i64 y.st, .int .i64 y.n]] W (Qu.StepV W vw vd (.slice A n c) (.slice A2 n2 c2) w q bw bd lim) := by
  obtain ⟨W0, hW0, hsb, g0, hlt0⟩ := Qu.sb_new W (.slice A n c) (.slice A2 n2 c2) lim 1 y
  have SB := Lib.hid hsb
  have H0 := Lib.hid (h.grown g0)
  have HD0 := Lib.hid (hd.grown g0)
  have HA := Lib.hid ha
  have HLT := Lib.hid h.lt
  have GW0 := Lib.hid g0
  have HWS := Lib.hid h.gr.size
  have HOLD := Lib.hid hd.lt
  have HZ0 := Lib.hid hlt0
  have hl100 : L.length + D.length ≤ 100 := by have := h.qv.sm; have := h.qv.l16; omega
  have HL := Lib.hid hl100
  have HN := Lib.hid hn
  have HN2 := Lib.hid hn2
  have HS := Lib.hid (show Calls Try.prog 24 #[.agg #[.slice A n c, .slice A2 n2 c2, .int .i64 lim]] W0 (Qu.DV W0 (.slice A n c) (.slice A2 n2 c2) ((L.dropWhile (·.bad))) ((D ++ (L.takeWhile (·.bad)).map Qu.wr)) lim id) from by
    have := Qu.rsettle_any lim L A A2 c c2 D W0 (by have := HD0.out; rw [hn, hn2] at this; exact this) hl100
    rw [← hn, ← hn2] at this
    exact this)
  have hw1 : L.length = (L.takeWhile (·.bad)).length + (L.dropWhile (·.bad)).length := by
    have := congrArg List.length (List.takeWhile_append_dropWhile (p := fun x : Qu.It => x.bad) (l := L))
    rw [List.length_append] at this
    omega
  obtain ⟨tl, htl⟩ : ∃ tl, (L.takeWhile (·.bad)).length = tl := ⟨_, rfl⟩
  have HTL := Lib.hid htl
  have HW1 := Lib.hid (show n = tl + (L.dropWhile (·.bad)).length by omega)
  have HN100 := Lib.hid (show n ≤ 100 by omega)
  clear htl hw1
  clear hl100 h hd ha hn hn2 hsb g0
  obtain ⟨⟨a0, a1, a2⟩, f0, f1, f2⟩ := Qu.cells3 SB.out.qb
  obtain ⟨b0, b1, b2, b3, b4, b5', b6, b7, b8, b9⟩ := Qu.cells10 SB.out.db
  go_enter Try.func8, Try.ntmps8
  go_upto_region 1 with (fail)
  rw [← hW0]
  clear hW0
  go_upto_region 7 with (go_at_call 24; (with_reducible refine HS.out.mono ?_); rintro e w2 hdv; obtain ⟨A5, n5, c5, A6, n6, c6, rfl, hmid, hn5, hn6, hg5, ho5⟩ := Qu.Mid.first H0.out HA.out hdv GW0.out; have HMID := Lib.hid (⟨hmid, hn5, hn6⟩ : Qu.Mid W (.slice A n c) (.slice A2 n2 c2) w w2 q bw bd vw vd L D lim (.slice A5 n5 c5) (.slice A6 n6 c6) (L.dropWhile (·.bad)) (D ++ (L.takeWhile (·.bad)).map Qu.wr) ∧ n5 = ((L.dropWhile (·.bad))).length ∧ n6 = ((D ++ (L.takeWhile (·.bad)).map Qu.wr)).length); have HG5 := Lib.hid hg5; have HO5 := Lib.hid ho5; clear hmid hn5 hn6 hdv hg5 ho5 a0 a1 a2 f0 f1 f2 b0 b1 b2 b3 b4 b5' b6 b7 b8 b9; (try dsimp only [id]))
  obtain ⟨wc, hwc⟩ : ∃ wc, wc = w2.alloc (.cells #[.slice A5 n5 c5, .slice A6 n6 c6, .int .i64 lim] 27) := ⟨_, rfl⟩
  have gwc : w2.grownBy wc none := by rw [hwc]; exact only_alloc (only_refl _ none) _
  have BK : Hid (Blk wc w2.heap.size 27 #[.slice A5 n5 c5, .slice A6 n6 c6, .int .i64 lim]) := Lib.hid (by rw [hwc]; exact Blk.new _ _ _)
  rw [← hwc]
  have GRW := Lib.hid (only_trans HG5.out gwc)
  have SBW := Lib.hid (SB.out.grown GRW.out)
  have HM := Lib.hid (show Qu.Mid W (.slice A n c) (.slice A2 n2 c2) w wc q bw bd vw vd L D lim (.slice A5 n5 c5) (.slice A6 n6 c6) (L.dropWhile (·.bad)) (D ++ (L.takeWhile (·.bad)).map Qu.wr) from HMID.out.1.grown gwc)
  have HN5 := Lib.hid HMID.out.2
  have HB5 := Lib.hid (show W.heap.size + 1 + 1 < w2.heap.size by have := HZ0.out; have := HG5.out.size; omega)
  have HLS := Lib.hid (show W.heap.size + 1 + 1 < wc.heap.size by have := HZ0.out; have := GRW.out.size; omega)
  obtain ⟨b5, hb5⟩ : ∃ b5, b5 = w2.heap.size := ⟨_, rfl⟩
  rw [← hb5] at BK HB5 ⊢
  have HNF := Lib.hid (show ¬ Qu.Ft q bw bd vw vd b5 from fun e => by have := HLT.out _ e; have := HB5.out; omega)
  have HRB := Lib.hid (show ¬ Qu.Do (.slice A5 n5 c5) (.slice A6 n6 c6) (W.heap.size + 1 + 1) from fun e => (HO5.out _ e).elim (fun q => by have := HOLD.out _ q; omega) (fun q => by have := HZ0.out; omega))
  have HRB5 := Lib.hid (show ¬ Qu.Do (.slice A5 n5 c5) (.slice A6 n6 c6) b5 from fun e => by have := HMID.out.1.dr.lt _ e; omega)
  clear hwc gwc hb5 HMID
  have u1 : IntKind.i64.wrap ((n : Int) - (n5 : Int)) = (tl : Int) := by rw [IntKind.wrap_i64]; have := HW1.out; have := HN5.out.1; have := HN100.out; omega
  have gdr : wc.grownBy wc.drew none := only_drewN (only_refl _ none) 1
  have HMD := Lib.hid (HM.out.grown gdr)
  have BKD := Lib.hid (BK.out.only gdr (by simp))
  have SBD := Lib.hid (SBW.out.grown gdr)
  have HQC := Lib.hid (show Calls Try.prog 12 #[.pointer (some ⟨q, 0, none⟩)] wc.drew fun e W' => e = .returned (.int .i64 (tl : Nat)) ∧ Qu.Nx w wc.drew q bw bd vw vd W' ((L.dropWhile (·.bad))) ((D ++ (L.takeWhile (·.bad)).map Qu.wr)) lim from by have := HMD.out.ow.settle; rw [HTL.out] at this; exact this)
  clear gdr
  have SC : wc.drew.cell? ⟨b5, 0, none⟩ = some (.slice A5 n5 c5) ∧ wc.drew.cell? ⟨b5, 1, none⟩ = some (.slice A6 n6 c6) ∧ wc.drew.cell? ⟨b5, 2, none⟩ = some (.int .i64 lim) ∧ wc.drew.cell? ⟨W.heap.size, 0, none⟩ = some (.slice A n c) ∧ wc.drew.cell? ⟨W.heap.size, 1, none⟩ = some (.slice A2 n2 c2) ∧ wc.drew.cell? ⟨W.heap.size, 2, none⟩ = some (.int .i64 lim) := ⟨BKD.out.cell 0, BKD.out.cell 1, BKD.out.cell 2, SBD.out.qb.cell 0, SBD.out.qb.cell 1, SBD.out.qb.cell 2⟩
  refine wp_region_held_drew (S := fun w' => w'.cell? ⟨b5, 0, none⟩ = some (.slice A5 n5 c5) ∧ w'.cell? ⟨b5, 1, none⟩ = some (.slice A6 n6 c6) ∧ w'.cell? ⟨b5, 2, none⟩ = some (.int .i64 lim) ∧ w'.cell? ⟨W.heap.size, 0, none⟩ = some (.slice A n c) ∧ w'.cell? ⟨W.heap.size, 1, none⟩ = some (.slice A2 n2 c2) ∧ w'.cell? ⟨W.heap.size, 2, none⟩ = some (.int .i64 lim)) (by kernel_rfl) SC (fun hHeld => ?_)
  refine wpAnyH_take (i := 0) (oi := _) (v := ?_) rfl (by kernel_rfl) (by kernel_rfl) (by kernel_rfl) (fun _ _ _ h => h) (Or.inl ⟨by rfl, ?_⟩) (by assumption) ?_
  case refine_2 => intro w hSw; (try dsimp only at hSw); go_simp; try with_reducible rfl
  try simp only [Act.put, List.setIfInBounds_toArray, List.set_cons_zero, List.set_cons_succ]
  refine wpAnyH_take (i := 1) (oi := _) (v := ?_) rfl (by kernel_rfl) (by kernel_rfl) (by kernel_rfl) (fun _ _ _ h => h) (Or.inl ⟨by rfl, ?_⟩) (by assumption) ?_
  case refine_2 => intro w hSw; (try dsimp only at hSw); go_simp; try with_reducible rfl
  try simp only [Act.put, List.setIfInBounds_toArray, List.set_cons_zero, List.set_cons_succ]
  refine wpAnyH_take (i := 3) (oi := _) (v := ?_) rfl (by kernel_rfl) (by kernel_rfl) (by kernel_rfl) (fun _ _ _ h => h) (Or.inl ⟨by rfl, ?_⟩) (by assumption) ?_
  case refine_2 => intro w hSw; (try dsimp only at hSw); go_simp; try with_reducible rfl
  try simp only [Act.put, List.setIfInBounds_toArray, List.set_cons_zero, List.set_cons_succ]
  refine wpAnyH_take (i := 4) (oi := _) (v := ?_) rfl (by kernel_rfl) (by kernel_rfl) (by kernel_rfl) (fun _ _ _ h => h) (Or.inl ⟨by rfl, ?_⟩) (by assumption) ?_
  case refine_2 => intro w hSw; (try dsimp only at hSw); go_simp; try with_reducible rfl
  try simp only [Act.put, List.setIfInBounds_toArray, List.set_cons_zero, List.set_cons_succ]
  refine wpAnyH_take (i := 5) (oi := _) (v := ?_) rfl (by kernel_rfl) (by kernel_rfl) (by kernel_rfl) (fun _ _ _ h => h) (Or.inl ⟨by rfl, ?_⟩) (by assumption) ?_
  case refine_2 => intro w hSw; (try dsimp only at hSw); go_simp; try with_reducible rfl
  try simp only [Act.put, List.setIfInBounds_toArray, List.set_cons_zero, List.set_cons_succ]
  refine wpAnyH_take (i := 6) (oi := _) (v := ?_) rfl (by kernel_rfl) (by kernel_rfl) (by kernel_rfl) (fun _ _ _ h => h) (Or.inl ⟨by rfl, ?_⟩) (by assumption) ?_
  case refine_2 => intro w hSw; (try dsimp only at hSw); go_simp; try with_reducible rfl
  try simp only [Act.put, List.setIfInBounds_toArray, List.set_cons_zero, List.set_cons_succ]
  refine wpAnyH_take (i := 7) (oi := _) (v := ?_) rfl (by kernel_rfl) (by kernel_rfl) (by kernel_rfl) (fun _ _ _ h => h) (Or.inl ⟨by rfl, ?_⟩) (by assumption) ?_
  case refine_2 => intro w hSw; (try dsimp only at hSw); go_simp; try with_reducible rfl
  try simp only [Act.put, List.setIfInBounds_toArray, List.set_cons_zero, List.set_cons_succ]
  refine wpAnyH_take (i := 8) (oi := _) (v := ?_) rfl (by kernel_rfl) (by kernel_rfl) (by kernel_rfl) (fun _ _ _ h => h) (Or.inl ⟨by rfl, ?_⟩) (by assumption) ?_
  case refine_2 => intro w hSw; (try dsimp only at hSw); go_simp; try with_reducible rfl
  try simp only [Act.put, List.setIfInBounds_toArray, List.set_cons_zero, List.set_cons_succ]
  refine wpAnyH_take (i := 9) (oi := _) (v := ?_) rfl (by kernel_rfl) (by kernel_rfl) (by kernel_rfl) (fun _ _ _ h => h) (Or.inl ⟨by rfl, ?_⟩) (by assumption) ?_
  case refine_2 => intro w hSw; (try dsimp only at hSw); go_simp; try with_reducible rfl
  try simp only [Act.put, List.setIfInBounds_toArray, List.set_cons_zero, List.set_cons_succ]
  refine wpAnyH_ready (rs := [2]) (by kernel_rfl) (by simp) ?_
  refine AllReadyH.cons (o := _) rfl (fun K hK => ?_) AllReadyH.nil
  go_simp
  go_at_call 12
  (with_reducible refine HQC.out.mono ?_)
  rintro e w6 ⟨rfl, hnx⟩
  have HNX := Lib.hid hnx
  have hkp : Keeps (Qu.Ft q bw bd vw vd) wc.drew w6 := by obtain ⟨_, _, _, k, _⟩ := hnx; exact k
  have BK6 := Lib.hid (BKD.out.keeps hkp HNF.out)
  have SB6 := Lib.hid (SBD.out.keeps hkp (fun i hi => .inl (HLT.out i hi)))
  clear hnx hkp
  have S6 : w6.cell? ⟨b5, 0, none⟩ = some (.slice A5 n5 c5) ∧ w6.cell? ⟨b5, 1, none⟩ = some (.slice A6 n6 c6) ∧ w6.cell? ⟨b5, 2, none⟩ = some (.int .i64 lim) ∧ w6.cell? ⟨W.heap.size, 0, none⟩ = some (.slice A n c) ∧ w6.cell? ⟨W.heap.size, 1, none⟩ = some (.slice A2 n2 c2) ∧ w6.cell? ⟨W.heap.size, 2, none⟩ = some (.int .i64 lim) := ⟨BK6.out.cell 0, BK6.out.cell 1, BK6.out.cell 2, SB6.out.qb.cell 0, SB6.out.qb.cell 1, SB6.out.qb.cell 2⟩
  refine hK.out _ _ (S6) (fun hHeld => ?_)
  clear hK K
  try simp only [Act.put, List.setIfInBounds_toArray, List.set_cons_zero, List.set_cons_succ]
  refine wpAnyH_take (i := 10) (oi := _) (v := ?_) rfl (by kernel_rfl) (by kernel_rfl) (by kernel_rfl) (fun _ _ _ h => h) (Or.inl ⟨by rfl, ?_⟩) (by assumption) ?_
  case refine_2 => intro w hSw; (try dsimp only at hSw); go_simp; try with_reducible rfl
  try simp only [Act.put, List.setIfInBounds_toArray, List.set_cons_zero, List.set_cons_succ]
  obtain ⟨⟨x0, x1, x2⟩, y0, y1, y2⟩ := Qu.cells3 SB6.out.rb
  obtain ⟨W9, hW9⟩ : ∃ W9, W9 = (((w6.setCell ⟨(W.heap.size + 1 + 1), 0, none⟩ (.slice A5 n5 c5)).setCell ⟨(W.heap.size + 1 + 1), 1, none⟩ (.slice A6 n6 c6)).setCell ⟨(W.heap.size + 1 + 1), 2, none⟩ (.int .i64 lim)) := ⟨_, rfl⟩
  obtain ⟨k9, b9⟩ := Qu.put3 SB6.out.rb (.slice A5 n5 c5) (.slice A6 n6 c6) (.int .i64 lim) W9 hW9
  have HB9 := Lib.hid b9
  have HTW := Lib.hid (Qu.Mid.both2 HMD.out HN5.out.1 HN5.out.2 HNX.out k9 HLS.out (fun e => by have := HLT.out _ e; omega) HRB.out (by have := HWS.out; omega))
  have S9 : W9.cell? ⟨b5, 0, none⟩ = some (.slice A5 n5 c5) ∧ W9.cell? ⟨b5, 1, none⟩ = some (.slice A6 n6 c6) ∧ W9.cell? ⟨b5, 2, none⟩ = some (.int .i64 lim) ∧ W9.cell? ⟨W.heap.size, 0, none⟩ = some (.slice A n c) ∧ W9.cell? ⟨W.heap.size, 1, none⟩ = some (.slice A2 n2 c2) ∧ W9.cell? ⟨W.heap.size, 2, none⟩ = some (.int .i64 lim) := by have q1 := BK6.out.only k9 (fun e => by injection e with e; have := HB5.out; omega); have q2 := SB6.out.qb.only k9 (fun e => by injection e with e; omega); exact ⟨q1.cell 0, q1.cell 1, q1.cell 2, q2.cell 0, q2.cell 1, q2.cell 2⟩
  refine wpAnyH_ready (rs := [11]) (by kernel_rfl) (by simp) ?_
  refine AllReadyH.cons (o := _) rfl (fun K hK => ?_) AllReadyH.nil
  go_simp
  rw [← hW9]
  refine hK.out _ _ (S9) (fun hHeld => ?_)
  clear hK K
  try simp only [Act.put, List.setIfInBounds_toArray, List.set_cons_zero, List.set_cons_succ]
  refine wpAnyH_take (i := 12) (oi := ⟨some 7, _, _, _, _, none⟩) (v := ?_) rfl (by kernel_rfl) (by kernel_rfl) (by kernel_rfl) (fun _ _ _ h => h) (Or.inl ⟨by rfl, ?_⟩) (by assumption) ?_
  case refine_2 => intro w hSw; (try dsimp only at hSw); go_simp; try with_reducible rfl
  try simp only [Act.put, List.setIfInBounds_toArray, List.set_cons_zero, List.set_cons_succ]
  refine wpAnyH_done (by kernel_rfl) ?_ _
  obtain ⟨z0, z1, z2⟩ := (Qu.cells3 HB9.out).1
  clear x0 x1 x2 y0 y1 y2 hW9 k9 b9 S9 S6 SC
  go_wp2_with (fail)
  refine bodyPost_ret (v := .tuple #[.agg #[.slice A5 n5 c5, .slice A6 n6 c6, .int .i64 lim], .bool true]) (by simp [results, Try.results8, go_sem, z0, z1, z2]) rfl ?_
  exact ⟨A5, n5, c5, A6, n6, c6, rfl, HTW.out⟩
set_option maxHeartbeats 6400000 in
theorem Qu.step_finish (w W : World) (q bw bd lim : Nat) (vw vd : Value) (L : List Qu.It) (D : List Qu.Cl) (A A2 : Option Addr) (n c n2 c2 : Nat) (y : Qu.Dd) (h : Qu.Own w W q bw bd vw vd L D lim) (hd : Qu.Dr W (.slice A n c) (.slice A2 n2 c2) L D) (hn : n = L.length) (hn2 : n2 = D.length) (ha : ∀ i, Qu.Do (.slice A n c) (.slice A2 n2 c2) i → ¬ Qu.Ft q bw bd vw vd i) : Calls Try.prog 8 #[.pointer (some ⟨q, 0, none⟩), .agg #[.slice A n c, .slice A2 n2 c2, .int .i64 lim], .agg #[.int .i64 3, .int .i64 y.it.k, .int .u8 y.it.wh, .int .u8 y.it.st, .int .i64 y.it.ad, .int .i64 y.it.ln, .int .i64 y.it.ar, .bool y.it.bad, .int .i64 y.st, .int .i64 y.n]] W (Qu.StepV W vw vd (.slice A n c) (.slice A2 n2 c2) w q bw bd lim) := by
  obtain ⟨W0, hW0, hsb, g0, hlt0⟩ := Qu.sb_new W (.slice A n c) (.slice A2 n2 c2) lim 3 y
  have SB := Lib.hid hsb
  have H0 := Lib.hid (h.grown g0)
  have HD0 := Lib.hid (hd.grown g0)
  have HA := Lib.hid ha
  have HLT := Lib.hid h.lt
  have GW0 := Lib.hid g0
  have HWS := Lib.hid h.gr.size
  have HOLD := Lib.hid hd.lt
  have HZ0 := Lib.hid hlt0
  have hl100 : L.length + D.length ≤ 100 := by have := h.qv.sm; have := h.qv.l16; omega
  have HL := Lib.hid hl100
  have HN := Lib.hid hn
  have HN2 := Lib.hid hn2
  obtain ⟨ok, hok⟩ : ∃ ok, (!(L.dropWhile (·.bad)).isEmpty) = ok := ⟨_, rfl⟩
  have HS := Lib.hid (show Calls Try.prog 25 #[.agg #[.slice A n c, .slice A2 n2 c2, .int .i64 lim], .int .i64 y.st, .int .i64 y.n] W0 (Qu.DV W0 (.slice A n c) (.slice A2 n2 c2) (((L.dropWhile (·.bad)).tail)) (((D ++ (L.takeWhile (·.bad)).map Qu.wr) ++ Qu.fin (L.dropWhile (·.bad)) y.st y.n)) lim (fun v => .tuple #[v, .bool ok])) from by
    have := Qu.rfinish_any A A2 c c2 lim L D y.st y.n W0 (by have := HD0.out; rw [hn, hn2] at this; exact this) hl100
    rw [← hn, ← hn2, hok] at this
    exact this)
  have HQ := Lib.hid (fun W1 (ho : Qu.Own w W1 q bw bd vw vd L D lim) => show Calls Try.prog 14 #[.pointer (some ⟨q, 0, none⟩), .int .i64 y.st, .int .i64 y.n] W1 fun e W' => e = .returned (.int .i64 (if ok = true then 0 else 9)) ∧ Qu.Nx w W1 q bw bd vw vd W' (((L.dropWhile (·.bad)).tail)) (((D ++ (L.takeWhile (·.bad)).map Qu.wr) ++ Qu.fin (L.dropWhile (·.bad)) y.st y.n)) lim from (ho.finish y.st y.n).mono fun e W' hh => ⟨by
    rw [hh.1, ← hok]
    cases hq : L.dropWhile (·.bad) <;> simp, hh.2⟩)
  clear hok
  cases ok
  all_goals
    clear hl100 h hd ha hn hn2 hsb g0
    obtain ⟨⟨a0, a1, a2⟩, f0, f1, f2⟩ := Qu.cells3 SB.out.qb
    obtain ⟨b0, b1, b2, b3, b4, b5', b6, b7, b8, b9⟩ := Qu.cells10 SB.out.db
    go_enter Try.func8, Try.ntmps8
    go_upto_region 1 with (fail)
    rw [← hW0]
    clear hW0
    go_upto_region 16 with (go_at_call 25; (with_reducible refine HS.out.mono ?_); rintro e w2 hdv; obtain ⟨A5, n5, c5, A6, n6, c6, rfl, hmid, hn5, hn6, hg5, ho5⟩ := Qu.Mid.first H0.out HA.out hdv GW0.out; have HMID := Lib.hid (⟨hmid, hn5, hn6⟩ : Qu.Mid W (.slice A n c) (.slice A2 n2 c2) w w2 q bw bd vw vd L D lim (.slice A5 n5 c5) (.slice A6 n6 c6) ((L.dropWhile (·.bad)).tail) ((D ++ (L.takeWhile (·.bad)).map Qu.wr) ++ Qu.fin (L.dropWhile (·.bad)) y.st y.n) ∧ n5 = (((L.dropWhile (·.bad)).tail)).length ∧ n6 = (((D ++ (L.takeWhile (·.bad)).map Qu.wr) ++ Qu.fin (L.dropWhile (·.bad)) y.st y.n)).length); have HG5 := Lib.hid hg5; have HO5 := Lib.hid ho5; clear hmid hn5 hn6 hdv hg5 ho5 a0 a1 a2 f0 f1 f2 b0 b1 b2 b3 b4 b5' b6 b7 b8 b9; (try dsimp only [id]))
    obtain ⟨wc, hwc⟩ : ∃ wc, wc = w2.alloc (.cells #[.slice A5 n5 c5, .slice A6 n6 c6, .int .i64 lim] 27) := ⟨_, rfl⟩
    have gwc : w2.grownBy wc none := by rw [hwc]; exact only_alloc (only_refl _ none) _
    have BK : Hid (Blk wc w2.heap.size 27 #[.slice A5 n5 c5, .slice A6 n6 c6, .int .i64 lim]) := Lib.hid (by rw [hwc]; exact Blk.new _ _ _)
    rw [← hwc]
    have GRW := Lib.hid (only_trans HG5.out gwc)
    have SBW := Lib.hid (SB.out.grown GRW.out)
    have HM := Lib.hid (show Qu.Mid W (.slice A n c) (.slice A2 n2 c2) w wc q bw bd vw vd L D lim (.slice A5 n5 c5) (.slice A6 n6 c6) ((L.dropWhile (·.bad)).tail) ((D ++ (L.takeWhile (·.bad)).map Qu.wr) ++ Qu.fin (L.dropWhile (·.bad)) y.st y.n) from HMID.out.1.grown gwc)
    have HN5 := Lib.hid HMID.out.2
    have HB5 := Lib.hid (show W.heap.size + 1 + 1 < w2.heap.size by have := HZ0.out; have := HG5.out.size; omega)
    have HLS := Lib.hid (show W.heap.size + 1 + 1 < wc.heap.size by have := HZ0.out; have := GRW.out.size; omega)
    obtain ⟨b5, hb5⟩ : ∃ b5, b5 = w2.heap.size := ⟨_, rfl⟩
    rw [← hb5] at BK HB5 ⊢
    have HNF := Lib.hid (show ¬ Qu.Ft q bw bd vw vd b5 from fun e => by have := HLT.out _ e; have := HB5.out; omega)
    have HRB := Lib.hid (show ¬ Qu.Do (.slice A5 n5 c5) (.slice A6 n6 c6) (W.heap.size + 1 + 1) from fun e => (HO5.out _ e).elim (fun q => by have := HOLD.out _ q; omega) (fun q => by have := HZ0.out; omega))
    have HRB5 := Lib.hid (show ¬ Qu.Do (.slice A5 n5 c5) (.slice A6 n6 c6) b5 from fun e => by have := HMID.out.1.dr.lt _ e; omega)
    clear hwc gwc hb5 HMID
    obtain ⟨d0, d1, d2, d3, d4, d5, d6, d7, d8, d9⟩ := Qu.cells10 SBW.out.db
    have HQC := Lib.hid (HQ.out _ HM.out.ow)
    simp only [if_true, Bool.false_eq_true, if_false] at HQC
    go_upto_region 17 with (go_at_call 14; (with_reducible refine HQC.out.mono ?_); rintro e w6 ⟨rfl, hnx⟩; have HNX := Lib.hid hnx; have hkp : Keeps (Qu.Ft q bw bd vw vd) wc w6 := (by obtain ⟨_, _, _, k, _⟩ := hnx; exact k); have BK6 := Lib.hid (BK.out.keeps hkp HNF.out); have SB6 := Lib.hid (SBW.out.keeps hkp (fun i hi => .inl (HLT.out i hi))); clear hnx hkp d0 d1 d2 d3 d4 d5 d6 d7 d8 d9)
    obtain ⟨⟨x0, x1, x2⟩, y0, y1, y2⟩ := Qu.cells3 SB6.out.rb
    obtain ⟨⟨p0, p1, p2⟩, _, _, _⟩ := Qu.cells3 BK6.out
    obtain ⟨W9, hW9⟩ : ∃ W9, W9 = (((w6.setCell ⟨(W.heap.size + 1 + 1), 0, none⟩ (.slice A5 n5 c5)).setCell ⟨(W.heap.size + 1 + 1), 1, none⟩ (.slice A6 n6 c6)).setCell ⟨(W.heap.size + 1 + 1), 2, none⟩ (.int .i64 lim)) := ⟨_, rfl⟩
    obtain ⟨k9, b9⟩ := Qu.put3 SB6.out.rb (.slice A5 n5 c5) (.slice A6 n6 c6) (.int .i64 lim) W9 hW9
    have HTW := Lib.hid (Qu.Mid.both2 HM.out HN5.out.1 HN5.out.2 HNX.out k9 HLS.out (fun e => by have := HLT.out _ e; omega) HRB.out (by have := HWS.out; omega))
    obtain ⟨z0, z1, z2⟩ := (Qu.cells3 b9).1
    have n1 : ¬ b5 = W.heap.size + 1 + 1 := by have := HB5.out; omega
    have n2' : ¬ W.heap.size + 1 + 1 = b5 := by have := HB5.out; omega
    clear k9 b9
    go_wp2
    rw [← hW9]
    refine bodyPost_ret (v := .tuple #[.agg #[.slice A5 n5 c5, .slice A6 n6 c6, .int .i64 lim], .bool true]) (by simp [results, Try.results8, go_sem, z0, z1, z2]) rfl ?_
    exact ⟨A5, n5, c5, A6, n6, c6, rfl, HTW.out⟩
end Go.Proofs.Ytkiifafocmjfkaa

/- The law's step: requests held against themselves; their cells; what a call leaves, when more is made behind it. -/
namespace Go.Proofs.Ytkiifafocmjfkaa
open Go.RowKit Go.Lib
set_option linter.unusedVariables false
set_option maxRecDepth 20000

theorem Qu.eql_desc (a b c d e : Int) (w : World) : (Op.equalIn 9999 33 (.agg #[.int .u8 a, .int .u8 b, .int .i64 c, .int .i64 d, .int .i64 e]) (.agg #[.int .u8 a, .int .u8 b, .int .i64 c, .int .i64 d, .int .i64 e])).run Try.prog w = .ok true w := by
  rw [run_equalIn_agg w 9998 _ _ _ (by kernel_rfl) (by kernel_rfl)]
  have hf : (Try.prog.fieldsOf 33).toList.map (fun f => (f.name, f.type, f.offset)) = [("What", 31, 0), ("Status", 5, 1), ("Addr", 3, 2), ("Len", 3, 3), ("Arg", 3, 4)] := by kernel_rfl
  generalize (Try.prog.fieldsOf 33).toList = fs at hf
  have hlen := congrArg List.length hf
  simp only [List.length_map, List.length_cons, List.length_nil] at hlen
  obtain ⟨f0, f1, f2, f3, f4, rfl⟩ : ∃ f0 f1 f2 f3 f4, fs = [f0, f1, f2, f3, f4] := by
    match fs, hlen with
    | [f0, f1, f2, f3, f4], _ => exact ⟨f0, f1, f2, f3, f4, rfl⟩
  simp only [List.map_cons, List.map_nil, List.cons.injEq, Prod.mk.injEq, and_true] at hf
  obtain ⟨⟨p0, q0, r0⟩, ⟨p1, q1, r1⟩, ⟨p2, q2, r2⟩, ⟨p3, q3, r3⟩, ⟨p4, q4, r4⟩⟩ := hf
  simp [Op.eqFields, p0, q0, r0, p1, q1, r1, p2, q2, r2, p3, q3, r3, p4, q4, r4, part, run_equalIn_int _ _ _ _ _ _ _ Try.underlying3, run_equalIn_int _ _ _ _ _ _ _ Try.underlying5, run_equalIn_int _ _ _ _ _ _ _ Try.underlying31, go_sem]
theorem Qu.eql_item (k : Int) (a b c d e : Int) (t : Bool) (s n : Int) (w : World) : (binOp BinOp.eql 62 (.agg #[.int .i64 k, .int .u8 a, .int .u8 b, .int .i64 c, .int .i64 d, .int .i64 e, .bool t, .int .i64 s, .int .i64 n]) (.agg #[.int .i64 k, .int .u8 a, .int .u8 b, .int .i64 c, .int .i64 d, .int .i64 e, .bool t, .int .i64 s, .int .i64 n])).run Try.prog w = .ok (.bool true) w := by
  rw [run_eql_struct, run_equalIn_agg w 9999 _ _ _ (by kernel_rfl) (by kernel_rfl)]
  have hf : (Try.prog.fieldsOf 62).toList.map (fun f => (f.name, f.type, f.offset)) = [("K", 3, 0), ("D", 33, 1), ("Bad", 4, 6), ("Status", 3, 7), ("N", 3, 8)] := by kernel_rfl
  generalize (Try.prog.fieldsOf 62).toList = fs at hf
  have hlen := congrArg List.length hf
  simp only [List.length_map, List.length_cons, List.length_nil] at hlen
  obtain ⟨f0, f1, f2, f3, f4, rfl⟩ : ∃ f0 f1 f2 f3 f4, fs = [f0, f1, f2, f3, f4] := by
    match fs, hlen with
    | [f0, f1, f2, f3, f4], _ => exact ⟨f0, f1, f2, f3, f4, rfl⟩
  simp only [List.map_cons, List.map_nil, List.cons.injEq, Prod.mk.injEq, and_true] at hf
  obtain ⟨⟨p0, q0, r0⟩, ⟨p1, q1, r1⟩, ⟨p2, q2, r2⟩, ⟨p3, q3, r3⟩, ⟨p4, q4, r4⟩⟩ := hf
  simp [Op.eqFields, p0, q0, r0, p1, q1, r1, p2, q2, r2, p3, q3, r3, p4, q4, r4, part, run_equalIn_int _ _ _ _ _ _ _ Try.underlying3, run_equalIn_bool' _ _ _ _ _ Try.underlying4, Qu.eql_desc, go_sem]
/-- The cells of one in a row of such as1 are done. -/
def Qu.ClC (W : World) (g o : Nat) (x : Qu.Cl) : Prop := W.cell? ⟨g, o, none⟩ = some (.int .i64 x.it.k) ∧ W.cell? ⟨g, o + 1, none⟩ = some (.int .u8 x.it.wh) ∧ W.cell? ⟨g, o + 2, none⟩ = some (.int .u8 x.it.st) ∧ W.cell? ⟨g, o + 3, none⟩ = some (.int .i64 x.it.ad) ∧ W.cell? ⟨g, o + 4, none⟩ = some (.int .i64 x.it.ln) ∧ W.cell? ⟨g, o + 5, none⟩ = some (.int .i64 x.it.ar) ∧ W.cell? ⟨g, o + 6, none⟩ = some (.bool x.it.bad) ∧ W.cell? ⟨g, o + 7, none⟩ = some (.int .i64 x.st) ∧ W.cell? ⟨g, o + 8, none⟩ = some (.int .i64 x.n)
theorem Qu.cl_cells {W : World} {A : Option Addr} {c n : Nat} {l : List Qu.Cl} (h : RowZ 9 W (.slice A n c) n (Fc.L l)) {i : Nat} {x : Qu.Cl} (hx : l[i]? = some x) : ∃ g off, A = some ⟨g, off, none⟩ ∧ n ≤ c ∧ g < W.heap.size ∧ Qu.ClC W g (off + i * 9) x := by
  have hi := (List.getElem?_eq_some_iff.1 hx).1
  have hxe := (List.getElem?_eq_some_iff.1 hx).2
  have hn : n = l.length := by have := h.1; rw [Fc.L_len] at this; omega
  have hlt := h.lt
  rcases h.2 with ⟨e, hz⟩ | ⟨g, off, cap, e, k1, k2, k3, k4, k5⟩
  · omega
  · injection e with e1 e2 e3
    subst e1
    refine ⟨g, off, rfl, by omega, hlt g rfl, ?_⟩
    have hq : ∀ j, j < 9 → ∀ u, (Fc.C x)[j]? = some u → W.cell? ⟨g, off + i * 9 + j, none⟩ = some u := by
      intro j hj u hu
      rw [Nat.add_assoc]
      refine k5 (i * 9 + j) u ((Fc.L_get l hi hj).trans ?_)
      rw [hxe]
      exact hu
    exact ⟨hq 0 (by omega) _ rfl, hq 1 (by omega) _ rfl, hq 2 (by omega) _ rfl, hq 3 (by omega) _ rfl, hq 4 (by omega) _ rfl, hq 5 (by omega) _ rfl, hq 6 (by omega) _ rfl, hq 7 (by omega) _ rfl, hq 8 (by omega) _ rfl⟩
section
variable {w W W' W'' : World} {q bw bd lim : Nat} {vw vd : Value} {L' : List Qu.It} {D' : List Qu.Cl}
theorem Qu.Nx.grown (h : Qu.Nx w W q bw bd vw vd W' L' D' lim) (g : W'.grownBy W'' none) : Qu.Nx w W q bw bd vw vd W'' L' D' lim := by
  obtain ⟨vw', vd', k1, k2, k3⟩ := h
  exact ⟨vw', vd', k1.grown g, k2.trans (Keeps.of_only g (by simp)), k3⟩
theorem Qu.Nx.kp (h : Qu.Nx w W q bw bd vw vd W' L' D' lim) : Keeps (Qu.Ft q bw bd vw vd) W W' := by
  obtain ⟨vw', vd', k1, k2, k3⟩ := h
  exact k2
theorem Qu.Nx.ft (h : Qu.Nx w W q bw bd vw vd W' L' D' lim) : ∃ vw' vd', Qu.Own w W' q bw bd vw' vd' L' D' lim ∧ ∀ i, Qu.Ft q bw bd vw' vd' i → Qu.Ft q bw bd vw vd i ∨ W.heap.size ≤ i := by
  obtain ⟨vw', vd', k1, k2, k3⟩ := h
  exact ⟨vw', vd', k1, k3⟩
end
end Go.Proofs.Ytkiifafocmjfkaa

/- The law's step: the first one is asked for. -/
namespace Go.Proofs.Ytkiifafocmjfkaa
open Go.RowKit Go.Lib
set_option linter.unusedVariables false
set_option maxRecDepth 20000

set_option maxHeartbeats 6400000 in
theorem Qu.step_head (w W : World) (q bw bd lim : Nat) (vw vd : Value) (L : List Qu.It) (D : List Qu.Cl) (A A2 : Option Addr) (n c n2 c2 : Nat) (y : Qu.Dd) (h : Qu.Own w W q bw bd vw vd L D lim) (hd : Qu.Dr W (.slice A n c) (.slice A2 n2 c2) L D) (hn : n = L.length) (hn2 : n2 = D.length) (ha : ∀ i, Qu.Do (.slice A n c) (.slice A2 n2 c2) i → ¬ Qu.Ft q bw bd vw vd i) : Calls Try.prog 8 #[.pointer (some ⟨q, 0, none⟩), .agg #[.slice A n c, .slice A2 n2 c2, .int .i64 lim], .agg #[.int .i64 2, .int .i64 y.it.k, .int .u8 y.it.wh, .int .u8 y.it.st, .int .i64 y.it.ad, .int .i64 y.it.ln, .int .i64 y.it.ar, .bool y.it.bad, .int .i64 y.st, .int .i64 y.n]] W (Qu.StepV W vw vd (.slice A n c) (.slice A2 n2 c2) w q bw bd lim) := by
  obtain ⟨W0, hW0, hsb, g0, hlt0⟩ := Qu.sb_new W (.slice A n c) (.slice A2 n2 c2) lim 2 y
  have SB := Lib.hid hsb
  have H0 := Lib.hid (h.grown g0)
  have HD0 := Lib.hid (hd.grown g0)
  have HA := Lib.hid ha
  have HLT := Lib.hid h.lt
  have GW0 := Lib.hid g0
  have HWS := Lib.hid h.gr.size
  have HOLD := Lib.hid hd.lt
  have HZ0 := Lib.hid hlt0
  have hl100 : L.length + D.length ≤ 100 := by have := h.qv.sm; have := h.qv.l16; omega
  have HL := Lib.hid hl100
  have HN := Lib.hid hn
  have HN2 := Lib.hid hn2
  have HS := Lib.hid (show Calls Try.prog 24 #[.agg #[.slice A n c, .slice A2 n2 c2, .int .i64 lim]] W0 (Qu.DV W0 (.slice A n c) (.slice A2 n2 c2) ((L.dropWhile (·.bad))) ((D ++ (L.takeWhile (·.bad)).map Qu.wr)) lim id) from by
    have := Qu.rsettle_any lim L A A2 c c2 D W0 (by have := HD0.out; rw [hn, hn2] at this; exact this) hl100
    rw [← hn, ← hn2] at this
    exact this)
  have hw1 : L.length = (L.takeWhile (·.bad)).length + (L.dropWhile (·.bad)).length := by
    have := congrArg List.length (List.takeWhile_append_dropWhile (p := fun x : Qu.It => x.bad) (l := L))
    rw [List.length_append] at this
    omega
  have HQ := Lib.hid (fun W1 (ho : Qu.Own w W1 q bw bd vw vd L D lim) => show Calls Try.prog 13 #[.pointer (some ⟨q, 0, none⟩)] W1 fun e W' => e = .returned (Qu.hd (L.dropWhile (·.bad))) ∧ Qu.Nx w W1 q bw bd vw vd W' (L.dropWhile (·.bad)) (D ++ (L.takeWhile (·.bad)).map Qu.wr) lim from ho.head)
  obtain ⟨LS, hls⟩ : ∃ LS, L.dropWhile (·.bad) = LS := ⟨_, rfl⟩
  obtain ⟨DS, hds⟩ : ∃ DS, D ++ (L.takeWhile (·.bad)).map Qu.wr = DS := ⟨_, rfl⟩
  rw [hls, hds] at HS
  simp only [hls, hds] at HQ
  have HDL := Lib.hid (show LS.length ≤ 100 ∧ DS.length ≤ 200 from by
    constructor
    · rw [← hls]; omega
    · rw [← hds, List.length_append, List.length_map]; omega)
  clear hls hds hw1
  cases LS with
  | nil =>
    clear hl100 h hd ha hn hn2 hsb g0
    obtain ⟨⟨a0, a1, a2⟩, f0, f1, f2⟩ := Qu.cells3 SB.out.qb
    obtain ⟨b0, b1, b2, b3, b4, b5', b6, b7, b8, b9⟩ := Qu.cells10 SB.out.db
    go_enter Try.func8, Try.ntmps8
    go_upto_region 1 with (fail)
    rw [← hW0]
    clear hW0
    go_upto_region 10 with (go_at_call 24; (with_reducible refine HS.out.mono ?_); rintro e w2 hdv; obtain ⟨A5, n5, c5, A6, n6, c6, rfl, hmid, hn5, hn6, hg5, ho5⟩ := Qu.Mid.first H0.out HA.out hdv GW0.out; have HMID := Lib.hid (⟨hmid, hn5, hn6⟩ : Qu.Mid W (.slice A n c) (.slice A2 n2 c2) w w2 q bw bd vw vd L D lim (.slice A5 n5 c5) (.slice A6 n6 c6) [] DS ∧ n5 = ([]).length ∧ n6 = (DS).length); have HG5 := Lib.hid hg5; have HO5 := Lib.hid ho5; clear hmid hn5 hn6 hdv hg5 ho5 a0 a1 a2 f0 f1 f2 b0 b1 b2 b3 b4 b5' b6 b7 b8 b9; (try dsimp only [id]))
    obtain ⟨wc, hwc⟩ : ∃ wc, wc = w2.alloc (.cells #[.slice A5 n5 c5, .slice A6 n6 c6, .int .i64 lim] 27) := ⟨_, rfl⟩
    have gwc : w2.grownBy wc none := by rw [hwc]; exact only_alloc (only_refl _ none) _
    have BK : Hid (Blk wc w2.heap.size 27 #[.slice A5 n5 c5, .slice A6 n6 c6, .int .i64 lim]) := Lib.hid (by rw [hwc]; exact Blk.new _ _ _)
    rw [← hwc]
    have GRW := Lib.hid (only_trans HG5.out gwc)
    have SBW := Lib.hid (SB.out.grown GRW.out)
    have HM := Lib.hid (show Qu.Mid W (.slice A n c) (.slice A2 n2 c2) w wc q bw bd vw vd L D lim (.slice A5 n5 c5) (.slice A6 n6 c6) [] DS from HMID.out.1.grown gwc)
    have HN5 := Lib.hid HMID.out.2
    have HB5 := Lib.hid (show W.heap.size + 1 + 1 < w2.heap.size by have := HZ0.out; have := HG5.out.size; omega)
    have HLS := Lib.hid (show W.heap.size + 1 + 1 < wc.heap.size by have := HZ0.out; have := GRW.out.size; omega)
    obtain ⟨b5, hb5⟩ : ∃ b5, b5 = w2.heap.size := ⟨_, rfl⟩
    rw [← hb5] at BK HB5 ⊢
    have HNF := Lib.hid (show ¬ Qu.Ft q bw bd vw vd b5 from fun e => by have := HLT.out _ e; have := HB5.out; omega)
    have HRB := Lib.hid (show ¬ Qu.Do (.slice A5 n5 c5) (.slice A6 n6 c6) (W.heap.size + 1 + 1) from fun e => (HO5.out _ e).elim (fun q => by have := HOLD.out _ q; omega) (fun q => by have := HZ0.out; omega))
    have HRB5 := Lib.hid (show ¬ Qu.Do (.slice A5 n5 c5) (.slice A6 n6 c6) b5 from fun e => by have := HMID.out.1.dr.lt _ e; omega)
    clear hwc gwc hb5 HMID
    have HQC := Lib.hid (show Calls Try.prog 13 #[.pointer (some ⟨q, 0, none⟩)] wc fun e W' => e = .returned (.tuple #[.agg #[.int .i64 0, .int .u8 0, .int .u8 0, .int .i64 0, .int .i64 0, .int .i64 0, .bool false], .bool false]) ∧ Qu.Nx w wc q bw bd vw vd W' [] DS lim from HQ.out _ HM.out.ow)
    go_upto_region 11 with (go_at_call 13; (with_reducible refine HQC.out.mono ?_); rintro e w6 ⟨rfl, hnx⟩; have HNX6 := Lib.hid hnx; clear hnx)
    obtain ⟨wb, hwb⟩ : ∃ wb, wb = w6.alloc (.cells #[.int .i64 0, .int .u8 0, .int .u8 0, .int .i64 0, .int .i64 0, .int .i64 0, .bool false] 35) := ⟨_, rfl⟩
    have gwb : w6.grownBy wb none := by rw [hwb]; exact only_alloc (only_refl _ none) _
    have HNX := Lib.hid (HNX6.out.grown gwb)
    have BKb := Lib.hid ((BK.out.keeps HNX6.out.kp HNF.out).only gwb (by simp))
    have SBb := Lib.hid ((SBW.out.keeps HNX6.out.kp (fun i hi => .inl (HLT.out i hi))).grown gwb)
    have IBb := Lib.hid (show Blk wb w6.heap.size 35 #[.int .i64 0, .int .u8 0, .int .u8 0, .int .i64 0, .int .i64 0, .int .i64 0, .bool false] by rw [hwb]; exact Blk.new _ _ _)
    rw [← hwb]
    have HB12 := Lib.hid (show W.heap.size + 1 + 1 < w6.heap.size ∧ b5 < w6.heap.size ∧ wc.heap.size ≤ w6.heap.size from by have := HNX6.out.kp.size; have := HLS.out; have := BK.out.lt; omega)
    obtain ⟨b12, hb12⟩ : ∃ b12, b12 = w6.heap.size := ⟨_, rfl⟩
    rw [← hb12] at IBb HB12 ⊢
    have GWB := Lib.hid gwb
    clear hwb gwb hb12
    have q0 : ((n5 : Nat) : Int) = 0 := by have := HN5.out.1; simp at this; omega
    have hq0 : ∀ W, (binOp BinOp.eql 35 (.agg #[.int .i64 0, .int .u8 0, .int .u8 0, .int .i64 0, .int .i64 0, .int .i64 0, .bool false]) (.agg #[.int .i64 0, .int .u8 0, .int .u8 0, .int .i64 0, .int .i64 0, .int .i64 0, .bool false])).run Try.prog W = .ok (.bool true) W := fun W => by kernel_rfl
    obtain ⟨⟨p0, p1, p2⟩, _, _, _⟩ := Qu.cells3 BKb.out
    go_upto_region 12 with (fail)
    clear p0 p1 p2
    have gdr : wb.grownBy wb.drew none := only_drewN (only_refl _ none) 1
    have BKD := Lib.hid (BKb.out.only gdr (by simp))
    have SBD := Lib.hid (SBb.out.grown gdr)
    have IBD := Lib.hid (IBb.out.only gdr (by simp))
    have HNXD := Lib.hid (HNX.out.grown gdr)
    clear gdr
    have SC : wb.drew.cell? ⟨b5, 0, none⟩ = some (.slice A5 n5 c5) ∧ wb.drew.cell? ⟨b5, 1, none⟩ = some (.slice A6 n6 c6) ∧ wb.drew.cell? ⟨b5, 2, none⟩ = some (.int .i64 lim) ∧ wb.drew.cell? ⟨b12, 0, none⟩ = some (.int .i64 0) ∧ wb.drew.cell? ⟨b12, 1, none⟩ = some (.int .u8 0) ∧ wb.drew.cell? ⟨b12, 2, none⟩ = some (.int .u8 0) ∧ wb.drew.cell? ⟨b12, 3, none⟩ = some (.int .i64 0) ∧ wb.drew.cell? ⟨b12, 4, none⟩ = some (.int .i64 0) ∧ wb.drew.cell? ⟨b12, 5, none⟩ = some (.int .i64 0) ∧ wb.drew.cell? ⟨b12, 6, none⟩ = some (.bool false) := ⟨BKD.out.cell 0, BKD.out.cell 1, BKD.out.cell 2, IBD.out.cell 0, IBD.out.cell 1, IBD.out.cell 2, IBD.out.cell 3, IBD.out.cell 4, IBD.out.cell 5, IBD.out.cell 6⟩
    refine wp_region_held_drew (S := fun w' => w'.cell? ⟨b5, 0, none⟩ = some (.slice A5 n5 c5) ∧ w'.cell? ⟨b5, 1, none⟩ = some (.slice A6 n6 c6) ∧ w'.cell? ⟨b5, 2, none⟩ = some (.int .i64 lim) ∧ w'.cell? ⟨b12, 0, none⟩ = some (.int .i64 0) ∧ w'.cell? ⟨b12, 1, none⟩ = some (.int .u8 0) ∧ w'.cell? ⟨b12, 2, none⟩ = some (.int .u8 0) ∧ w'.cell? ⟨b12, 3, none⟩ = some (.int .i64 0) ∧ w'.cell? ⟨b12, 4, none⟩ = some (.int .i64 0) ∧ w'.cell? ⟨b12, 5, none⟩ = some (.int .i64 0) ∧ w'.cell? ⟨b12, 6, none⟩ = some (.bool false)) (by kernel_rfl) SC (fun hHeld => ?_)
    generalize wb.drew = wd at *
    refine wpAnyH_take (i := 0) (oi := _) (v := ?_) rfl (by kernel_rfl) (by kernel_rfl) (by kernel_rfl) (fun _ _ _ h => h) (Or.inl ⟨by rfl, ?_⟩) (by assumption) ?_
    case refine_2 => intro w hSw; (try dsimp only at hSw); go_simp; try with_reducible rfl
    try simp only [Act.put, List.setIfInBounds_toArray, List.set_cons_zero, List.set_cons_succ]
    refine wpAnyH_take (i := 1) (oi := _) (v := ?_) rfl (by kernel_rfl) (by kernel_rfl) (by kernel_rfl) (fun _ _ _ h => h) (Or.inl ⟨by rfl, ?_⟩) (by assumption) ?_
    case refine_2 => intro w hSw; (try dsimp only at hSw); go_simp; try with_reducible rfl
    try simp only [Act.put, List.setIfInBounds_toArray, List.set_cons_zero, List.set_cons_succ]
    refine wpAnyH_take (i := 2) (oi := _) (v := ?_) rfl (by kernel_rfl) (by kernel_rfl) (by kernel_rfl) (fun _ _ _ h => h) (Or.inl ⟨by rfl, ?_⟩) (by assumption) ?_
    case refine_2 => intro w hSw; (try dsimp only at hSw); go_simp; try with_reducible rfl
    try simp only [Act.put, List.setIfInBounds_toArray, List.set_cons_zero, List.set_cons_succ]
    refine wpAnyH_take (i := 3) (oi := _) (v := ?_) rfl (by kernel_rfl) (by kernel_rfl) (by kernel_rfl) (fun _ _ _ h => h) (Or.inl ⟨by rfl, ?_⟩) (by assumption) ?_
    case refine_2 => intro w hSw; (try dsimp only at hSw); go_simp; try with_reducible rfl
    try simp only [Act.put, List.setIfInBounds_toArray, List.set_cons_zero, List.set_cons_succ]
    refine wpAnyH_take (i := 4) (oi := _) (v := ?_) rfl (by kernel_rfl) (by kernel_rfl) (by kernel_rfl) (fun _ _ _ h => h) (Or.inl ⟨by rfl, ?_⟩) (by assumption) ?_
    case refine_2 => intro w hSw; (try dsimp only at hSw); go_simp; try with_reducible rfl
    try simp only [Act.put, List.setIfInBounds_toArray, List.set_cons_zero, List.set_cons_succ]
    refine wpAnyH_take (i := 5) (oi := _) (v := ?_) rfl (by kernel_rfl) (by kernel_rfl) (by kernel_rfl) (fun _ _ _ h => h) (Or.inl ⟨by rfl, ?_⟩) (by assumption) ?_
    case refine_2 => intro w hSw; (try dsimp only at hSw); go_simp; try with_reducible rfl
    try simp only [Act.put, List.setIfInBounds_toArray, List.set_cons_zero, List.set_cons_succ]
    refine wpAnyH_take (i := 6) (oi := _) (v := ?_) rfl (by kernel_rfl) (by kernel_rfl) (by kernel_rfl) (fun _ _ _ h => h) (Or.inl ⟨by rfl, ?_⟩) (by assumption) ?_
    case refine_2 => intro w hSw; (try dsimp only at hSw); go_simp; try with_reducible rfl
    try simp only [Act.put, List.setIfInBounds_toArray, List.set_cons_zero, List.set_cons_succ]
    refine wpAnyH_take (i := 7) (oi := _) (v := ?_) rfl (by kernel_rfl) (by kernel_rfl) (by kernel_rfl) (fun _ _ _ h => h) (Or.inl ⟨by rfl, ?_⟩) (by assumption) ?_
    case refine_2 => intro w hSw; (try dsimp only at hSw); go_simp; try with_reducible rfl
    try simp only [Act.put, List.setIfInBounds_toArray, List.set_cons_zero, List.set_cons_succ]
    obtain ⟨⟨x0, x1, x2⟩, y0, y1, y2⟩ := Qu.cells3 SBD.out.rb
    obtain ⟨W9, hW9⟩ : ∃ W9, W9 = (((wd.setCell ⟨(W.heap.size + 1 + 1), 0, none⟩ (.slice A5 n5 c5)).setCell ⟨(W.heap.size + 1 + 1), 1, none⟩ (.slice A6 n6 c6)).setCell ⟨(W.heap.size + 1 + 1), 2, none⟩ (.int .i64 lim)) := ⟨_, rfl⟩
    obtain ⟨k9, b9⟩ := Qu.put3 SBD.out.rb (.slice A5 n5 c5) (.slice A6 n6 c6) (.int .i64 lim) W9 hW9
    have HB9 := Lib.hid b9
    have HTW := Lib.hid (Qu.Mid.both2 HM.out HN5.out.1 HN5.out.2 HNXD.out k9 HLS.out (fun e => by have := HLT.out _ e; omega) HRB.out (by have := HWS.out; omega))
    have S9 : W9.cell? ⟨b5, 0, none⟩ = some (.slice A5 n5 c5) ∧ W9.cell? ⟨b5, 1, none⟩ = some (.slice A6 n6 c6) ∧ W9.cell? ⟨b5, 2, none⟩ = some (.int .i64 lim) ∧ W9.cell? ⟨b12, 0, none⟩ = some (.int .i64 0) ∧ W9.cell? ⟨b12, 1, none⟩ = some (.int .u8 0) ∧ W9.cell? ⟨b12, 2, none⟩ = some (.int .u8 0) ∧ W9.cell? ⟨b12, 3, none⟩ = some (.int .i64 0) ∧ W9.cell? ⟨b12, 4, none⟩ = some (.int .i64 0) ∧ W9.cell? ⟨b12, 5, none⟩ = some (.int .i64 0) ∧ W9.cell? ⟨b12, 6, none⟩ = some (.bool false) := by have q1 := BKD.out.only k9 (fun e => by injection e with e; have := HB5.out; omega); have q2 := IBD.out.only k9 (fun e => by injection e with e; have := HB12.out.1; omega); exact ⟨q1.cell 0, q1.cell 1, q1.cell 2, q2.cell 0, q2.cell 1, q2.cell 2, q2.cell 3, q2.cell 4, q2.cell 5, q2.cell 6⟩
    refine wpAnyH_ready (rs := [8]) (by kernel_rfl) (by simp) ?_
    refine AllReadyH.cons (o := _) rfl (fun K hK => ?_) AllReadyH.nil
    go_simp
    rw [← hW9]
    refine hK.out _ _ (S9) (fun hHeld => ?_)
    clear hK K
    try simp only [Act.put, List.setIfInBounds_toArray, List.set_cons_zero, List.set_cons_succ]
    refine wpAnyH_take (i := 9) (oi := ⟨some 7, _, _, _, _, none⟩) (v := ?_) rfl (by kernel_rfl) (by kernel_rfl) (by kernel_rfl) (fun _ _ _ h => h) (Or.inl ⟨by rfl, ?_⟩) (by assumption) ?_
    case refine_2 => intro w hSw; (try dsimp only at hSw); go_simp; try with_reducible rfl
    try simp only [Act.put, List.setIfInBounds_toArray, List.set_cons_zero, List.set_cons_succ]
    refine wpAnyH_done (by kernel_rfl) ?_ _
    obtain ⟨z0, z1, z2⟩ := (Qu.cells3 HB9.out).1
    clear x0 x1 x2 y0 y1 y2 hW9 k9 b9 S9 SC
    go_wp2_with (fail)
    refine bodyPost_ret (v := .tuple #[.agg #[.slice A5 n5 c5, .slice A6 n6 c6, .int .i64 lim], .bool true]) (by simp [results, Try.results8, go_sem, z0, z1, z2]) rfl ?_
    exact ⟨A5, n5, c5, A6, n6, c6, rfl, HTW.out⟩
  | cons x l =>
    have HIT := Lib.hid (fun W => Qu.item_any x W)
    clear hl100 h hd ha hn hn2 hsb g0
    obtain ⟨⟨a0, a1, a2⟩, f0, f1, f2⟩ := Qu.cells3 SB.out.qb
    obtain ⟨b0, b1, b2, b3, b4, b5', b6, b7, b8, b9⟩ := Qu.cells10 SB.out.db
    go_enter Try.func8, Try.ntmps8
    go_upto_region 1 with (fail)
    rw [← hW0]
    clear hW0
    go_upto_region 10 with (go_at_call 24; (with_reducible refine HS.out.mono ?_); rintro e w2 hdv; obtain ⟨A5, n5, c5, A6, n6, c6, rfl, hmid, hn5, hn6, hg5, ho5⟩ := Qu.Mid.first H0.out HA.out hdv GW0.out; have HMID := Lib.hid (⟨hmid, hn5, hn6⟩ : Qu.Mid W (.slice A n c) (.slice A2 n2 c2) w w2 q bw bd vw vd L D lim (.slice A5 n5 c5) (.slice A6 n6 c6) (x :: l) DS ∧ n5 = ((x :: l)).length ∧ n6 = (DS).length); have HG5 := Lib.hid hg5; have HO5 := Lib.hid ho5; clear hmid hn5 hn6 hdv hg5 ho5 a0 a1 a2 f0 f1 f2 b0 b1 b2 b3 b4 b5' b6 b7 b8 b9; (try dsimp only [id]))
    obtain ⟨wc, hwc⟩ : ∃ wc, wc = w2.alloc (.cells #[.slice A5 n5 c5, .slice A6 n6 c6, .int .i64 lim] 27) := ⟨_, rfl⟩
    have gwc : w2.grownBy wc none := by rw [hwc]; exact only_alloc (only_refl _ none) _
    have BK : Hid (Blk wc w2.heap.size 27 #[.slice A5 n5 c5, .slice A6 n6 c6, .int .i64 lim]) := Lib.hid (by rw [hwc]; exact Blk.new _ _ _)
    rw [← hwc]
    have GRW := Lib.hid (only_trans HG5.out gwc)
    have SBW := Lib.hid (SB.out.grown GRW.out)
    have HM := Lib.hid (show Qu.Mid W (.slice A n c) (.slice A2 n2 c2) w wc q bw bd vw vd L D lim (.slice A5 n5 c5) (.slice A6 n6 c6) (x :: l) DS from HMID.out.1.grown gwc)
    have HN5 := Lib.hid HMID.out.2
    have HB5 := Lib.hid (show W.heap.size + 1 + 1 < w2.heap.size by have := HZ0.out; have := HG5.out.size; omega)
    have HLS := Lib.hid (show W.heap.size + 1 + 1 < wc.heap.size by have := HZ0.out; have := GRW.out.size; omega)
    obtain ⟨b5, hb5⟩ : ∃ b5, b5 = w2.heap.size := ⟨_, rfl⟩
    rw [← hb5] at BK HB5 ⊢
    have HNF := Lib.hid (show ¬ Qu.Ft q bw bd vw vd b5 from fun e => by have := HLT.out _ e; have := HB5.out; omega)
    have HRB := Lib.hid (show ¬ Qu.Do (.slice A5 n5 c5) (.slice A6 n6 c6) (W.heap.size + 1 + 1) from fun e => (HO5.out _ e).elim (fun q => by have := HOLD.out _ q; omega) (fun q => by have := HZ0.out; omega))
    have HRB5 := Lib.hid (show ¬ Qu.Do (.slice A5 n5 c5) (.slice A6 n6 c6) b5 from fun e => by have := HMID.out.1.dr.lt _ e; omega)
    clear hwc gwc hb5 HMID
    have HQC := Lib.hid (show Calls Try.prog 13 #[.pointer (some ⟨q, 0, none⟩)] wc fun e W' => e = .returned (.tuple #[.agg #[.int .i64 x.k, .int .u8 x.wh, .int .u8 x.st, .int .i64 x.ad, .int .i64 x.ln, .int .i64 x.ar, .bool x.bad], .bool true]) ∧ Qu.Nx w wc q bw bd vw vd W' (x :: l) DS lim from HQ.out _ HM.out.ow)
    go_upto_region 11 with (go_at_call 13; (with_reducible refine HQC.out.mono ?_); rintro e w6 ⟨rfl, hnx⟩; have HNX6 := Lib.hid hnx; clear hnx)
    obtain ⟨wb, hwb⟩ : ∃ wb, wb = w6.alloc (.cells #[.int .i64 x.k, .int .u8 x.wh, .int .u8 x.st, .int .i64 x.ad, .int .i64 x.ln, .int .i64 x.ar, .bool x.bad] 35) := ⟨_, rfl⟩
    have gwb : w6.grownBy wb none := by rw [hwb]; exact only_alloc (only_refl _ none) _
    have HNX := Lib.hid (HNX6.out.grown gwb)
    have BKb := Lib.hid ((BK.out.keeps HNX6.out.kp HNF.out).only gwb (by simp))
    have SBb := Lib.hid ((SBW.out.keeps HNX6.out.kp (fun i hi => .inl (HLT.out i hi))).grown gwb)
    have IBb := Lib.hid (show Blk wb w6.heap.size 35 #[.int .i64 x.k, .int .u8 x.wh, .int .u8 x.st, .int .i64 x.ad, .int .i64 x.ln, .int .i64 x.ar, .bool x.bad] by rw [hwb]; exact Blk.new _ _ _)
    rw [← hwb]
    have HB12 := Lib.hid (show W.heap.size + 1 + 1 < w6.heap.size ∧ b5 < w6.heap.size ∧ wc.heap.size ≤ w6.heap.size from by have := HNX6.out.kp.size; have := HLS.out; have := BK.out.lt; omega)
    obtain ⟨b12, hb12⟩ : ∃ b12, b12 = w6.heap.size := ⟨_, rfl⟩
    rw [← hb12] at IBb HB12 ⊢
    have GWB := Lib.hid gwb
    clear hwb gwb hb12
    have i1 : (0 : Int) < (n5 : Int) := by have := HN5.out.1; simp at this; omega
    have q0 : ¬ ((n5 : Nat) : Int) = 0 := by omega
    have i2 : 0 < n5 := by omega
    have hx : ((x :: l).map Qu.nd)[0]? = some (Qu.nd x) := rfl
    have hln5 : n5 = (x :: l).length := HN5.out.1
    have hrow : RowZ 9 wb (.slice A5 n5 c5) n5 (Fc.L ((x :: l).map Qu.nd)) := by rw [hln5]; have := ((HM.out.dr.keeps HNX6.out.kp (fun i hi => HM.out.ap i hi)).r1); rw [hln5] at this; exact this.grown GWB.out
    obtain ⟨g5, off, rfl, hnc, hg5, -⟩ := Qu.cl_cells hrow hx
    have RW := Lib.hid hrow
    have HCC := Lib.hid (fun W (h : RowZ 9 W (.slice (some ⟨g5, off, none⟩) n5 c5) n5 (Fc.L ((x :: l).map Qu.nd))) => show W.cell? ⟨g5, off, none⟩ = some (.int .i64 x.k) ∧ W.cell? ⟨g5, off + 1, none⟩ = some (.int .u8 x.wh) ∧ W.cell? ⟨g5, off + 2, none⟩ = some (.int .u8 x.st) ∧ W.cell? ⟨g5, off + 3, none⟩ = some (.int .i64 x.ad) ∧ W.cell? ⟨g5, off + 4, none⟩ = some (.int .i64 x.ln) ∧ W.cell? ⟨g5, off + 5, none⟩ = some (.int .i64 x.ar) ∧ W.cell? ⟨g5, off + 6, none⟩ = some (.bool x.bad) ∧ W.cell? ⟨g5, off + 7, none⟩ = some (.int .i64 0) ∧ W.cell? ⟨g5, off + 8, none⟩ = some (.int .i64 0) from by
      obtain ⟨g', off', e, _, _, hc⟩ := Qu.cl_cells h hx
      injection e with e
      injection e with e1 e2
      subst e1 e2
      simpa [Qu.ClC, Qu.nd] using hc)
    have hq1 : ∀ W, (binOp BinOp.eql 62 (.agg #[.int .i64 x.k, .int .u8 x.wh, .int .u8 x.st, .int .i64 x.ad, .int .i64 x.ln, .int .i64 x.ar, .bool x.bad, .int .i64 0, .int .i64 0]) (.agg #[.int .i64 x.k, .int .u8 x.wh, .int .u8 x.st, .int .i64 x.ad, .int .i64 x.ln, .int .i64 x.ar, .bool x.bad, .int .i64 0, .int .i64 0])).run Try.prog W = .ok (.bool true) W := fun W => Qu.eql_item _ _ _ _ _ _ _ _ _ W
    clear hrow hx hln5 hnc hg5
    obtain ⟨⟨p0, p1, p2⟩, _, _, _⟩ := Qu.cells3 BKb.out
    go_upto_region 13 with (fail)
    clear p0 p1 p2
    have gdr : wb.grownBy wb.drew none := only_drewN (only_refl _ none) 1
    have BKD := Lib.hid (BKb.out.only gdr (by simp))
    have SBD := Lib.hid (SBb.out.grown gdr)
    have IBD := Lib.hid (IBb.out.only gdr (by simp))
    have HNXD := Lib.hid (HNX.out.grown gdr)
    have RWD := Lib.hid (RW.out.grown gdr)
    clear gdr
    have SC : wb.drew.cell? ⟨b5, 0, none⟩ = some (.slice (some ⟨g5, off, none⟩) n5 c5) ∧ wb.drew.cell? ⟨b5, 1, none⟩ = some (.slice A6 n6 c6) ∧ wb.drew.cell? ⟨b5, 2, none⟩ = some (.int .i64 lim) ∧ wb.drew.cell? ⟨b12, 0, none⟩ = some (.int .i64 x.k) ∧ wb.drew.cell? ⟨b12, 1, none⟩ = some (.int .u8 x.wh) ∧ wb.drew.cell? ⟨b12, 2, none⟩ = some (.int .u8 x.st) ∧ wb.drew.cell? ⟨b12, 3, none⟩ = some (.int .i64 x.ad) ∧ wb.drew.cell? ⟨b12, 4, none⟩ = some (.int .i64 x.ln) ∧ wb.drew.cell? ⟨b12, 5, none⟩ = some (.int .i64 x.ar) ∧ wb.drew.cell? ⟨b12, 6, none⟩ = some (.bool x.bad) ∧ wb.drew.cell? ⟨g5, off, none⟩ = some (.int .i64 x.k) ∧ wb.drew.cell? ⟨g5, off + 1, none⟩ = some (.int .u8 x.wh) ∧ wb.drew.cell? ⟨g5, off + 2, none⟩ = some (.int .u8 x.st) ∧ wb.drew.cell? ⟨g5, off + 3, none⟩ = some (.int .i64 x.ad) ∧ wb.drew.cell? ⟨g5, off + 4, none⟩ = some (.int .i64 x.ln) ∧ wb.drew.cell? ⟨g5, off + 5, none⟩ = some (.int .i64 x.ar) ∧ wb.drew.cell? ⟨g5, off + 6, none⟩ = some (.bool x.bad) ∧ wb.drew.cell? ⟨g5, off + 7, none⟩ = some (.int .i64 0) ∧ wb.drew.cell? ⟨g5, off + 8, none⟩ = some (.int .i64 0) := ⟨BKD.out.cell 0, BKD.out.cell 1, BKD.out.cell 2, IBD.out.cell 0, IBD.out.cell 1, IBD.out.cell 2, IBD.out.cell 3, IBD.out.cell 4, IBD.out.cell 5, IBD.out.cell 6, HCC.out _ RWD.out⟩
    refine wp_region_held_drew (S := fun w' => w'.cell? ⟨b5, 0, none⟩ = some (.slice (some ⟨g5, off, none⟩) n5 c5) ∧ w'.cell? ⟨b5, 1, none⟩ = some (.slice A6 n6 c6) ∧ w'.cell? ⟨b5, 2, none⟩ = some (.int .i64 lim) ∧ w'.cell? ⟨b12, 0, none⟩ = some (.int .i64 x.k) ∧ w'.cell? ⟨b12, 1, none⟩ = some (.int .u8 x.wh) ∧ w'.cell? ⟨b12, 2, none⟩ = some (.int .u8 x.st) ∧ w'.cell? ⟨b12, 3, none⟩ = some (.int .i64 x.ad) ∧ w'.cell? ⟨b12, 4, none⟩ = some (.int .i64 x.ln) ∧ w'.cell? ⟨b12, 5, none⟩ = some (.int .i64 x.ar) ∧ w'.cell? ⟨b12, 6, none⟩ = some (.bool x.bad) ∧ w'.cell? ⟨g5, off, none⟩ = some (.int .i64 x.k) ∧ w'.cell? ⟨g5, off + 1, none⟩ = some (.int .u8 x.wh) ∧ w'.cell? ⟨g5, off + 2, none⟩ = some (.int .u8 x.st) ∧ w'.cell? ⟨g5, off + 3, none⟩ = some (.int .i64 x.ad) ∧ w'.cell? ⟨g5, off + 4, none⟩ = some (.int .i64 x.ln) ∧ w'.cell? ⟨g5, off + 5, none⟩ = some (.int .i64 x.ar) ∧ w'.cell? ⟨g5, off + 6, none⟩ = some (.bool x.bad) ∧ w'.cell? ⟨g5, off + 7, none⟩ = some (.int .i64 0) ∧ w'.cell? ⟨g5, off + 8, none⟩ = some (.int .i64 0)) (by kernel_rfl) SC (fun hHeld => ?_)
    refine wpAnyH_take (i := 0) (oi := _) (v := ?_) rfl (by kernel_rfl) (by kernel_rfl) (by kernel_rfl) (fun _ _ _ h => h) (Or.inl ⟨by rfl, ?_⟩) (by assumption) ?_
    case refine_2 => intro w hSw; (try dsimp only at hSw); go_simp; (try rw [if_pos i2]); try with_reducible rfl
    try simp only [Act.put, List.setIfInBounds_toArray, List.set_cons_zero, List.set_cons_succ]
    refine wpAnyH_take (i := 1) (oi := _) (v := ?_) rfl (by kernel_rfl) (by kernel_rfl) (by kernel_rfl) (fun _ _ _ h => h) (Or.inl ⟨by rfl, ?_⟩) (by assumption) ?_
    case refine_2 => intro w hSw; (try dsimp only at hSw); go_simp; (try rw [if_pos i2]); try with_reducible rfl
    try simp only [Act.put, List.setIfInBounds_toArray, List.set_cons_zero, List.set_cons_succ]
    refine wpAnyH_take (i := 2) (oi := _) (v := ?_) rfl (by kernel_rfl) (by kernel_rfl) (by kernel_rfl) (fun _ _ _ h => h) (Or.inl ⟨by rfl, ?_⟩) (by assumption) ?_
    case refine_2 => intro w hSw; (try dsimp only at hSw); go_simp; (try rw [if_pos i2]); try with_reducible rfl
    try simp only [Act.put, List.setIfInBounds_toArray, List.set_cons_zero, List.set_cons_succ]
    refine wpAnyH_take (i := 3) (oi := _) (v := ?_) rfl (by kernel_rfl) (by kernel_rfl) (by kernel_rfl) (fun _ _ _ h => h) (Or.inl ⟨by rfl, ?_⟩) (by assumption) ?_
    case refine_2 => intro w hSw; (try dsimp only at hSw); go_simp; (try rw [if_pos i2]); try with_reducible rfl
    try simp only [Act.put, List.setIfInBounds_toArray, List.set_cons_zero, List.set_cons_succ]
    refine wpAnyH_take (i := 5) (oi := _) (v := ?_) rfl (by kernel_rfl) (by kernel_rfl) (by kernel_rfl) (fun _ _ _ h => h) (Or.inl ⟨by rfl, ?_⟩) (by assumption) ?_
    case refine_2 => intro w hSw; (try dsimp only at hSw); go_simp; (try rw [if_pos i2]); try with_reducible rfl
    try simp only [Act.put, List.setIfInBounds_toArray, List.set_cons_zero, List.set_cons_succ]
    refine wpAnyH_take (i := 6) (oi := _) (v := ?_) rfl (by kernel_rfl) (by kernel_rfl) (by kernel_rfl) (fun _ _ _ h => h) (Or.inl ⟨by rfl, ?_⟩) (by assumption) ?_
    case refine_2 => intro w hSw; (try dsimp only at hSw); go_simp; (try rw [if_pos i2]); try with_reducible rfl
    try simp only [Act.put, List.setIfInBounds_toArray, List.set_cons_zero, List.set_cons_succ]
    refine wpAnyH_take (i := 7) (oi := _) (v := ?_) rfl (by kernel_rfl) (by kernel_rfl) (by kernel_rfl) (fun _ _ _ h => h) (Or.inl ⟨by rfl, ?_⟩) (by assumption) ?_
    case refine_2 => intro w hSw; (try dsimp only at hSw); go_simp; (try rw [if_pos i2]); try with_reducible rfl
    try simp only [Act.put, List.setIfInBounds_toArray, List.set_cons_zero, List.set_cons_succ]
    refine wpAnyH_take (i := 8) (oi := _) (v := ?_) rfl (by kernel_rfl) (by kernel_rfl) (by kernel_rfl) (fun _ _ _ h => h) (Or.inl ⟨by rfl, ?_⟩) (by assumption) ?_
    case refine_2 => intro w hSw; (try dsimp only at hSw); go_simp; (try rw [if_pos i2]); try with_reducible rfl
    try simp only [Act.put, List.setIfInBounds_toArray, List.set_cons_zero, List.set_cons_succ]
    refine wpAnyH_ready (rs := [4]) (by kernel_rfl) (by simp) ?_
    refine AllReadyH.cons (o := _) rfl (fun K hK => ?_) AllReadyH.nil
    go_simp
    go_at_call 23
    (with_reducible refine (HIT.out _).mono ?_)
    rintro e w7 ⟨rfl, g7⟩
    have BK7 := Lib.hid (BKD.out.only g7 (by simp))
    have SB7 := Lib.hid (SBD.out.grown g7)
    have IB7 := Lib.hid (IBD.out.only g7 (by simp))
    have HNX7 := Lib.hid (HNXD.out.grown g7)
    have RW7 := Lib.hid (RWD.out.grown g7)
    clear g7
    have S7 : w7.cell? ⟨b5, 0, none⟩ = some (.slice (some ⟨g5, off, none⟩) n5 c5) ∧ w7.cell? ⟨b5, 1, none⟩ = some (.slice A6 n6 c6) ∧ w7.cell? ⟨b5, 2, none⟩ = some (.int .i64 lim) ∧ w7.cell? ⟨b12, 0, none⟩ = some (.int .i64 x.k) ∧ w7.cell? ⟨b12, 1, none⟩ = some (.int .u8 x.wh) ∧ w7.cell? ⟨b12, 2, none⟩ = some (.int .u8 x.st) ∧ w7.cell? ⟨b12, 3, none⟩ = some (.int .i64 x.ad) ∧ w7.cell? ⟨b12, 4, none⟩ = some (.int .i64 x.ln) ∧ w7.cell? ⟨b12, 5, none⟩ = some (.int .i64 x.ar) ∧ w7.cell? ⟨b12, 6, none⟩ = some (.bool x.bad) ∧ w7.cell? ⟨g5, off, none⟩ = some (.int .i64 x.k) ∧ w7.cell? ⟨g5, off + 1, none⟩ = some (.int .u8 x.wh) ∧ w7.cell? ⟨g5, off + 2, none⟩ = some (.int .u8 x.st) ∧ w7.cell? ⟨g5, off + 3, none⟩ = some (.int .i64 x.ad) ∧ w7.cell? ⟨g5, off + 4, none⟩ = some (.int .i64 x.ln) ∧ w7.cell? ⟨g5, off + 5, none⟩ = some (.int .i64 x.ar) ∧ w7.cell? ⟨g5, off + 6, none⟩ = some (.bool x.bad) ∧ w7.cell? ⟨g5, off + 7, none⟩ = some (.int .i64 0) ∧ w7.cell? ⟨g5, off + 8, none⟩ = some (.int .i64 0) := ⟨BK7.out.cell 0, BK7.out.cell 1, BK7.out.cell 2, IB7.out.cell 0, IB7.out.cell 1, IB7.out.cell 2, IB7.out.cell 3, IB7.out.cell 4, IB7.out.cell 5, IB7.out.cell 6, HCC.out _ RW7.out⟩
    refine hK.out _ _ (S7) (fun hHeld => ?_)
    clear hK K
    try simp only [Act.put, List.setIfInBounds_toArray, List.set_cons_zero, List.set_cons_succ]
    refine wpAnyH_take (i := 9) (oi := _) (v := ?_) rfl (by kernel_rfl) (by kernel_rfl) (by kernel_rfl) (fun _ _ _ h => h) (Or.inl ⟨by rfl, ?_⟩) (by assumption) ?_
    case refine_2 => intro w hSw; (try dsimp only at hSw); go_simp; try with_reducible rfl
    try simp only [Act.put, List.setIfInBounds_toArray, List.set_cons_zero, List.set_cons_succ]
    refine wpAnyH_take (i := 10) (oi := _) (v := ?_) rfl (by kernel_rfl) (by kernel_rfl) (by kernel_rfl) (fun _ _ _ h => h) (Or.inl ⟨by rfl, ?_⟩) (by assumption) ?_
    case refine_2 => intro w hSw; (try dsimp only at hSw); go_simp; try with_reducible rfl
    try simp only [Act.put, List.setIfInBounds_toArray, List.set_cons_zero, List.set_cons_succ]
    obtain ⟨⟨x0, x1, x2⟩, y0, y1, y2⟩ := Qu.cells3 SB7.out.rb
    obtain ⟨W9, hW9⟩ : ∃ W9, W9 = (((w7.setCell ⟨(W.heap.size + 1 + 1), 0, none⟩ (.slice (some ⟨g5, off, none⟩) n5 c5)).setCell ⟨(W.heap.size + 1 + 1), 1, none⟩ (.slice A6 n6 c6)).setCell ⟨(W.heap.size + 1 + 1), 2, none⟩ (.int .i64 lim)) := ⟨_, rfl⟩
    obtain ⟨k9, b9⟩ := Qu.put3 SB7.out.rb (.slice (some ⟨g5, off, none⟩) n5 c5) (.slice A6 n6 c6) (.int .i64 lim) W9 hW9
    have HB9 := Lib.hid b9
    have HTW := Lib.hid (Qu.Mid.both2 HM.out HN5.out.1 HN5.out.2 HNX7.out k9 HLS.out (fun e => by have := HLT.out _ e; omega) HRB.out (by have := HWS.out; omega))
    have S9 : W9.cell? ⟨b5, 0, none⟩ = some (.slice (some ⟨g5, off, none⟩) n5 c5) ∧ W9.cell? ⟨b5, 1, none⟩ = some (.slice A6 n6 c6) ∧ W9.cell? ⟨b5, 2, none⟩ = some (.int .i64 lim) ∧ W9.cell? ⟨b12, 0, none⟩ = some (.int .i64 x.k) ∧ W9.cell? ⟨b12, 1, none⟩ = some (.int .u8 x.wh) ∧ W9.cell? ⟨b12, 2, none⟩ = some (.int .u8 x.st) ∧ W9.cell? ⟨b12, 3, none⟩ = some (.int .i64 x.ad) ∧ W9.cell? ⟨b12, 4, none⟩ = some (.int .i64 x.ln) ∧ W9.cell? ⟨b12, 5, none⟩ = some (.int .i64 x.ar) ∧ W9.cell? ⟨b12, 6, none⟩ = some (.bool x.bad) ∧ W9.cell? ⟨g5, off, none⟩ = some (.int .i64 x.k) ∧ W9.cell? ⟨g5, off + 1, none⟩ = some (.int .u8 x.wh) ∧ W9.cell? ⟨g5, off + 2, none⟩ = some (.int .u8 x.st) ∧ W9.cell? ⟨g5, off + 3, none⟩ = some (.int .i64 x.ad) ∧ W9.cell? ⟨g5, off + 4, none⟩ = some (.int .i64 x.ln) ∧ W9.cell? ⟨g5, off + 5, none⟩ = some (.int .i64 x.ar) ∧ W9.cell? ⟨g5, off + 6, none⟩ = some (.bool x.bad) ∧ W9.cell? ⟨g5, off + 7, none⟩ = some (.int .i64 0) ∧ W9.cell? ⟨g5, off + 8, none⟩ = some (.int .i64 0) := by have q1 := BK7.out.only k9 (fun e => by injection e with e; have := HB5.out; omega); have q2 := IB7.out.only k9 (fun e => by injection e with e; have := HB12.out.1; omega); have q3 := RW7.out.only k9 (.inr (fun e => by injection e with e; exact HRB.out (.inl (by rw [← e]; rfl)))); exact ⟨q1.cell 0, q1.cell 1, q1.cell 2, q2.cell 0, q2.cell 1, q2.cell 2, q2.cell 3, q2.cell 4, q2.cell 5, q2.cell 6, HCC.out _ q3⟩
    refine wpAnyH_ready (rs := [11]) (by kernel_rfl) (by simp) ?_
    refine AllReadyH.cons (o := _) rfl (fun K hK => ?_) AllReadyH.nil
    go_simp
    rw [← hW9]
    refine hK.out _ _ (S9) (fun hHeld => ?_)
    clear hK K
    try simp only [Act.put, List.setIfInBounds_toArray, List.set_cons_zero, List.set_cons_succ]
    refine wpAnyH_take (i := 12) (oi := ⟨some 7, _, _, _, _, none⟩) (v := ?_) rfl (by kernel_rfl) (by kernel_rfl) (by kernel_rfl) (fun _ _ _ h => h) (Or.inl ⟨by rfl, ?_⟩) (by assumption) ?_
    case refine_2 => intro w hSw; (try dsimp only at hSw); go_simp; try with_reducible rfl
    try simp only [Act.put, List.setIfInBounds_toArray, List.set_cons_zero, List.set_cons_succ]
    refine wpAnyH_done (by kernel_rfl) ?_ _
    obtain ⟨z0, z1, z2⟩ := (Qu.cells3 HB9.out).1
    clear x0 x1 x2 y0 y1 y2 hW9 k9 b9 S9 SC S7
    go_wp2_with (fail)
    refine bodyPost_ret (v := .tuple #[.agg #[.slice (some ⟨g5, off, none⟩) n5 c5, .slice A6 n6 c6, .int .i64 lim], .bool true]) (by simp [results, Try.results8, go_sem, z0, z1, z2]) rfl ?_
    exact ⟨(some ⟨g5, off, none⟩), n5, c5, A6, n6, c6, rfl, HTW.out⟩
end Go.Proofs.Ytkiifafocmjfkaa
