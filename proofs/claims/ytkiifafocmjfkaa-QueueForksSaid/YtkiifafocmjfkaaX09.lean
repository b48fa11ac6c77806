import Derived.Test.YtkiifafocmjfkaaX08
set_option linter.all false
/- The law's step: what is put. -/
namespace Go.Proofs.Ytkiifafocmjfkaa
open Go.RowKit Go.Lib
set_option linter.unusedVariables false
set_option maxRecDepth 20000

theorem Qu.grow_box {w w' w2 : World} {b : Nat} (h : w.grownBy w' none) (g : w'.grownBy w2 (some b)) (hb : w.heap.size ≤ b) : w.grownBy w2 none :=
  ⟨g.os.trans h.os, g.tape.trans h.tape, g.output.trans h.output, Nat.le_trans h.size g.size, fun i hi hn => (g.block i (Nat.lt_of_lt_of_le hi h.size) (fun e => by injection e with e; omega)).trans (h.block i hi hn)⟩
theorem Qu.put3 {W : World} {b : Nat} {t : TypeId} {s0 s1 s2 : Value} (h : Blk W b t #[s0, s1, s2]) (y0 y1 y2 : Value) : ∀ W', W' = ((W.setCell ⟨b, 0, none⟩ y0).setCell ⟨b, 1, none⟩ y1).setCell ⟨b, 2, none⟩ y2 → W.grownBy W' (some b) ∧ Blk W' b t #[y0, y1, y2] := by
  rintro W' rfl
  refine ⟨only_put (only_put (only_put (only_refl _ _) 0 y0) 1 y1) 2 y2, ?_⟩
  have q := ((h.put 0 y0).put 1 y1).put 2 y2
  simp only [List.setIfInBounds_toArray, List.set_cons_zero, List.set_cons_succ] at q
  exact q
theorem Qu.Mid.putb {B w W W' : World} {q bw bd lim b : Nat} {p1 p2 vw vd u1 u2 : Value} {L L' : List Qu.It} {D D' : List Qu.Cl} (h : Qu.Mid B p1 p2 w W q bw bd vw vd L D lim u1 u2 L' D') (k : W.grownBy W' (some b)) (hn : ¬ Qu.Ft q bw bd vw vd b) (hb : w.heap.size ≤ b) (ho : ¬ Qu.Do u1 u2 b) (hB : B.heap.size ≤ b) : Qu.Mid B p1 p2 w W' q bw bd vw vd L D lim u1 u2 L' D' := by
  have kp := Keeps.of_only k (S := fun i => i = b) (fun i e => by injection e with e; exact e.symm)
  exact ⟨h.ow.keeps kp (fun i hi e => hn (e ▸ hi)) (fun i hi e => by omega), h.dr.keeps kp (fun i hi e => ho (e ▸ hi)), h.ap, Qu.grow_box h.fr k hB, h.df⟩
theorem Qu.Sb.offb {w W W' : World} {v1 v2 : Value} {lim b : Nat} {d : Int} {y : Qu.Dd} (h : Qu.Sb w W v1 v2 lim d y) (k : W.grownBy W' (some b)) (hb : w.heap.size + 1 + 1 < b) : Qu.Sb w W' v1 v2 lim d y :=
  h.keeps (S := fun i => i = b) (Keeps.of_only k (fun i e => by injection e with e; exact e.symm)) (fun i e => .inr (by omega))
set_option maxHeartbeats 6400000 in
theorem Qu.step_put (w W : World) (q bw bd lim : Nat) (vw vd : Value) (L : List Qu.It) (D : List Qu.Cl) (A A2 : Option Addr) (n c n2 c2 : Nat) (y : Qu.Dd) (h : Qu.Own w W q bw bd vw vd L D lim) (hd : Qu.Dr W (.slice A n c) (.slice A2 n2 c2) L D) (hn : n = L.length) (hn2 : n2 = D.length) (ha : ∀ i, Qu.Do (.slice A n c) (.slice A2 n2 c2) i → ¬ Qu.Ft q bw bd vw vd i) : Calls Try.prog 8 #[.pointer (some ⟨q, 0, none⟩), .agg #[.slice A n c, .slice A2 n2 c2, .int .i64 lim], .agg #[.int .i64 0, .int .i64 y.it.k, .int .u8 y.it.wh, .int .u8 y.it.st, .int .i64 y.it.ad, .int .i64 y.it.ln, .int .i64 y.it.ar, .bool y.it.bad, .int .i64 y.st, .int .i64 y.n]] W (Qu.StepV W vw vd (.slice A n c) (.slice A2 n2 c2) w q bw bd lim) := by
  obtain ⟨W0, hW0, hsb, g0, hlt0⟩ := Qu.sb_new W (.slice A n c) (.slice A2 n2 c2) lim 0 y
  have SB := Lib.hid hsb
  have H0 := Lib.hid (h.grown g0)
  have HD0 := Lib.hid (hd.grown g0)
  have HA := Lib.hid ha
  have HLT := Lib.hid h.lt
  have GW0 := Lib.hid g0
  have HWS := Lib.hid h.gr.size
  have HOLD := Lib.hid hd.lt
  have HZ0 := Lib.hid hlt0
  have hl100 : L.length + D.length ≤ 100 := by have := h.qv.sm; have := h.qv.l16; omega
  have HL := Lib.hid hl100
  have HN := Lib.hid hn
  have HN2 := Lib.hid hn2
  have HIT := Lib.hid (fun W => Qu.item_any y.it W)
  have SX := Lib.hid (fun W1 (g : W0.grownBy W1 none) => show W1.cell? ⟨W.heap.size, 0, none⟩ = some (.slice A n c) ∧ W1.cell? ⟨W.heap.size, 1, none⟩ = some (.slice A2 n2 c2) ∧ W1.cell? ⟨W.heap.size, 2, none⟩ = some (.int .i64 lim) ∧ W1.cell? ⟨W.heap.size + 1, 1, none⟩ = some (.int .i64 y.it.k) ∧ W1.cell? ⟨W.heap.size + 1, 2, none⟩ = some (.int .u8 y.it.wh) ∧ W1.cell? ⟨W.heap.size + 1, 3, none⟩ = some (.int .u8 y.it.st) ∧ W1.cell? ⟨W.heap.size + 1, 4, none⟩ = some (.int .i64 y.it.ad) ∧ W1.cell? ⟨W.heap.size + 1, 5, none⟩ = some (.int .i64 y.it.ln) ∧ W1.cell? ⟨W.heap.size + 1, 6, none⟩ = some (.int .i64 y.it.ar) ∧ W1.cell? ⟨W.heap.size + 1, 7, none⟩ = some (.bool y.it.bad) from by have q1 := (SB.out.grown g).qb; have q2 := (SB.out.grown g).db; exact ⟨q1.cell 0, q1.cell 1, q1.cell 2, q2.cell 1, q2.cell 2, q2.cell 3, q2.cell 4, q2.cell 5, q2.cell 6, q2.cell 7⟩)
  by_cases hlt : L.length + D.length < lim
  · have hl6 : lim ≤ 16 := h.qv.l16
    have HP := Lib.hid (fun W1 (g : W0.grownBy W1 none) => show Calls Try.prog 22 #[.agg #[.slice A n c, .slice A2 n2 c2, .int .i64 lim], .agg #[.int .i64 y.it.k, .int .u8 y.it.wh, .int .u8 y.it.st, .int .i64 y.it.ad, .int .i64 y.it.ln, .int .i64 y.it.ar, .bool y.it.bad, .int .i64 0, .int .i64 0]] W1 (Qu.DV W1 (.slice A n c) (.slice A2 n2 c2) (L ++ [y.it]) D lim (fun v => .tuple #[v, .bool true])) from by
      have := Qu.rput_yes A A2 c c2 lim L D y.it W1 (by have := HD0.out.grown g; rw [hn, hn2] at this; exact this) hlt hl6
      rw [← hn, ← hn2] at this
      exact this)
    have HQ := Lib.hid (fun W1 (ho : Qu.Own w W1 q bw bd vw vd L D lim) => show Calls Try.prog 11 #[.pointer (some ⟨q, 0, none⟩), .agg #[.int .i64 y.it.k, .int .u8 y.it.wh, .int .u8 y.it.st, .int .i64 y.it.ad, .int .i64 y.it.ln, .int .i64 y.it.ar, .bool y.it.bad]] W1 fun e W' => e = .returned (.bool true) ∧ Qu.Nx w W1 q bw bd vw vd W' (L ++ [y.it]) D lim from (ho.put y.it).mono fun e W' hh => by rw [if_pos hlt] at hh; exact hh)
    clear hlt hl6 hl100 h hd ha hn hn2 hsb g0
    obtain ⟨⟨a0, a1, a2⟩, f0, f1, f2⟩ := Qu.cells3 SB.out.qb
    obtain ⟨b0, b1, b2, b3, b4, b5, b6, b7, b8, b9⟩ := Qu.cells10 SB.out.db
    go_enter Try.func8, Try.ntmps8
    go_upto_region 1 with (fail)
    rw [← hW0]
    clear hW0
    go_upto_region 3 with (fail)
    clear a0 a1 a2 f0 f1 f2 b0 b1 b2 b3 b4 b5 b6 b7 b8 b9
    go_cut [8, 9] from 22 to 164 (fun s t wx => ∃ (b5 n5 c5 n6 c6 : Nat) (A5 A6 : Option Addr), s = .pointer (some ⟨b5, 0, none⟩) ∧ t = .bool true ∧ Hid (W.heap.size + 1 + 1 < b5) ∧ Hid (Blk wx b5 27 #[.slice A5 n5 c5, .slice A6 n6 c6, .int .i64 lim]) ∧ Hid (Qu.Mid W (.slice A n c) (.slice A2 n2 c2) w wx q bw bd vw vd L D lim (.slice A5 n5 c5) (.slice A6 n6 c6) (L ++ [y.it]) D ∧ n5 = (L ++ [y.it]).length ∧ n6 = D.length) ∧ Hid (Qu.Sb W wx (.slice A n c) (.slice A2 n2 c2) lim 0 y) ∧ Hid (¬ Qu.Ft q bw bd vw vd b5) ∧ Hid (¬ Qu.Do (.slice A5 n5 c5) (.slice A6 n6 c6) (W.heap.size + 1 + 1)) ∧ Hid (W0.grownBy wx none))
    case first =>
      refine wp_region_held_drew (S := fun w' => w'.cell? ⟨W.heap.size, 0, none⟩ = some (.slice A n c) ∧ w'.cell? ⟨W.heap.size, 1, none⟩ = some (.slice A2 n2 c2) ∧ w'.cell? ⟨W.heap.size, 2, none⟩ = some (.int .i64 lim) ∧ w'.cell? ⟨W.heap.size + 1, 1, none⟩ = some (.int .i64 y.it.k) ∧ w'.cell? ⟨W.heap.size + 1, 2, none⟩ = some (.int .u8 y.it.wh) ∧ w'.cell? ⟨W.heap.size + 1, 3, none⟩ = some (.int .u8 y.it.st) ∧ w'.cell? ⟨W.heap.size + 1, 4, none⟩ = some (.int .i64 y.it.ad) ∧ w'.cell? ⟨W.heap.size + 1, 5, none⟩ = some (.int .i64 y.it.ln) ∧ w'.cell? ⟨W.heap.size + 1, 6, none⟩ = some (.int .i64 y.it.ar) ∧ w'.cell? ⟨W.heap.size + 1, 7, none⟩ = some (.bool y.it.bad)) (by kernel_rfl) (SX.out _ (only_drewN (only_refl _ none) 1)) (fun hHeld => ?_)
      refine wpAnyH_take (i := 0) (oi := _) (v := ?_) rfl (by kernel_rfl) (by kernel_rfl) (by kernel_rfl) (fun _ _ _ h => h) (Or.inl ⟨by rfl, ?_⟩) (by assumption) ?_
      case refine_2 => intro w hSw; (try dsimp only at hSw); go_simp; try with_reducible rfl
      try simp only [Act.put, List.setIfInBounds_toArray, List.set_cons_zero, List.set_cons_succ]
      refine wpAnyH_take (i := 1) (oi := _) (v := ?_) rfl (by kernel_rfl) (by kernel_rfl) (by kernel_rfl) (fun _ _ _ h => h) (Or.inl ⟨by rfl, ?_⟩) (by assumption) ?_
      case refine_2 => intro w hSw; (try dsimp only at hSw); go_simp; try with_reducible rfl
      try simp only [Act.put, List.setIfInBounds_toArray, List.set_cons_zero, List.set_cons_succ]
      refine wpAnyH_take (i := 2) (oi := _) (v := ?_) rfl (by kernel_rfl) (by kernel_rfl) (by kernel_rfl) (fun _ _ _ h => h) (Or.inl ⟨by rfl, ?_⟩) (by assumption) ?_
      case refine_2 => intro w hSw; (try dsimp only at hSw); go_simp; try with_reducible rfl
      try simp only [Act.put, List.setIfInBounds_toArray, List.set_cons_zero, List.set_cons_succ]
      refine wpAnyH_ready (rs := [3, 8]) (by kernel_rfl) (by simp) ?_
      refine AllReadyH.cons (o := _) rfl (fun K hK => ?_) ?_
      · skip
        go_simp
        go_at_call 23
        (with_reducible refine (HIT.out _).mono ?_)
        rintro e w1 ⟨rfl, g1⟩
        have G1 := Lib.hid (only_trans (only_drewN (only_refl W0 none) 1) g1)
        have HG1 := Lib.hid g1
        clear g1
        refine hK.out _ _ (SX.out _ G1.out) (fun hHeld => ?_)
        clear hK K
        try simp only [Act.put, List.setIfInBounds_toArray, List.set_cons_zero, List.set_cons_succ]
        refine wpAnyH_ready (rs := [4, 8]) (by kernel_rfl) (by simp) ?_
        refine AllReadyH.cons (o := _) rfl (fun K hK => ?_) ?_
        · skip
          go_simp
          go_at_call 22
          (with_reducible refine (HP.out _ G1.out).mono ?_)
          rintro e w2 hdv
          obtain ⟨A5, n5, c5, A6, n6, c6, rfl, hmid, hn5, hn6, hg5, ho5⟩ := Qu.Mid.first (H0.out.grown G1.out) HA.out hdv (only_trans GW0.out G1.out)
          have HMID := Lib.hid (⟨hmid, hn5, hn6⟩ : Qu.Mid W (.slice A n c) (.slice A2 n2 c2) w w2 q bw bd vw vd L D lim (.slice A5 n5 c5) (.slice A6 n6 c6) (L ++ [y.it]) D ∧ n5 = ((L ++ [y.it])).length ∧ n6 = D.length)
          have G2 := Lib.hid (only_trans G1.out hg5)
          have HG5 := Lib.hid hg5
          have HO5 := Lib.hid ho5
          clear hmid hn5 hn6 hdv hg5 ho5
          refine hK.out _ _ (SX.out _ G2.out) (fun hHeld => ?_)
          clear hK K
          try simp only [Act.put, List.setIfInBounds_toArray, List.set_cons_zero, List.set_cons_succ]
          refine wpAnyH_take (i := 5) (oi := _) (v := ?_) rfl (by kernel_rfl) (by kernel_rfl) (by kernel_rfl) (fun _ _ _ h => h) (Or.inl ⟨by rfl, ?_⟩) (by assumption) ?_
          case refine_2 => intro w hSw; (try dsimp only at hSw); go_simp; try with_reducible rfl
          try simp only [Act.put, List.setIfInBounds_toArray, List.set_cons_zero, List.set_cons_succ]
          refine wpAnyH_take (i := 6) (oi := _) (v := ?_) rfl (by kernel_rfl) (by kernel_rfl) (by kernel_rfl) (fun _ _ _ h => h) (Or.inl ⟨by rfl, ?_⟩) (by assumption) ?_
          case refine_2 => intro w hSw; (try dsimp only at hSw); go_simp; try with_reducible rfl
          try simp only [Act.put, List.setIfInBounds_toArray, List.set_cons_zero, List.set_cons_succ]
          refine wpAnyH_take (i := 7) (oi := _) (v := ?_) rfl (by kernel_rfl) (by kernel_rfl) (by kernel_rfl) (fun _ _ _ h => h) (Or.inl ⟨by rfl, ?_⟩) (by assumption) ?_
          case refine_2 => intro w hSw; (try dsimp only at hSw); go_simp; try with_reducible rfl
          try simp only [Act.put, List.setIfInBounds_toArray, List.set_cons_zero, List.set_cons_succ]
          refine wpAnyH_ready (rs := [8]) (by kernel_rfl) (by simp) ?_
          refine AllReadyH.cons (o := _) rfl (fun K hK => ?_) AllReadyH.nil
          go_simp
          refine hK.out _ _ (SX.out _ (only_alloc G2.out (.cells #[.slice none 0 0, .slice none 0 0, .int .i64 0] 27))) (fun hHeld => ?_)
          clear hK K
          try simp only [Act.put, List.setIfInBounds_toArray, List.set_cons_zero, List.set_cons_succ]
          obtain ⟨W9, hW9⟩ : ∃ W9, W9 = w2.alloc (.cells #[.slice A5 n5 c5, .slice A6 n6 c6, .int .i64 lim] 27) := ⟨_, rfl⟩
          have k9 : w2.grownBy W9 none := by rw [hW9]; exact only_alloc (only_refl _ none) _
          have b9 : Blk W9 w2.heap.size 27 #[.slice A5 n5 c5, .slice A6 n6 c6, .int .i64 lim] := by rw [hW9]; exact Blk.new _ _ _
          have hbb : W.heap.size + 1 + 1 < w2.heap.size := by have := HZ0.out; have := G2.out.size; omega
          have hnf : ¬ Qu.Ft q bw bd vw vd w2.heap.size := fun e => by have := HLT.out _ e; omega
          have hmid9 := HMID.out.1.grown k9
          have SB9 := Lib.hid (SB.out.grown (only_trans G2.out k9))
          have SW9 := SX.out _ (only_trans G2.out k9)
          refine wpAnyH_ready (rs := [9]) (by kernel_rfl) (by simp) ?_
          refine AllReadyH.cons (o := _) rfl (fun K hK => ?_) AllReadyH.nil
          go_simp
          rw [← hW9]
          refine hK.out _ _ (SW9) (fun hHeld => ?_)
          clear hK K
          try simp only [Act.put, List.setIfInBounds_toArray, List.set_cons_zero, List.set_cons_succ]
          refine wpAnyH_take (i := 10) (oi := ⟨some 9, _, _, _, _, none⟩) (v := ?_) rfl (by kernel_rfl) (by kernel_rfl) (by kernel_rfl) (fun _ _ _ h => h) (Or.inl ⟨by rfl, ?_⟩) (by assumption) ?_
          case refine_2 => intro w hSw; (try dsimp only at hSw); go_simp; try with_reducible rfl
          try simp only [Act.put, List.setIfInBounds_toArray, List.set_cons_zero, List.set_cons_succ]
          refine wpAnyH_done (by kernel_rfl) ?_ _
          have hrb : ¬ Qu.Do (.slice A5 n5 c5) (.slice A6 n6 c6) (W.heap.size + 1 + 1) := fun e => (HO5.out _ e).elim (fun q => by have := HOLD.out _ q; omega) (fun q => by have := HZ0.out; have := G1.out.size; (try simp at q); omega)
          go_wp2_with (fail)
          go_meet
          case rel => exact ⟨w2.heap.size, n5, c5, n6, c6, A5, A6, rfl, rfl, Lib.hid hbb, Lib.hid b9, Lib.hid ⟨hmid9, HMID.out.2⟩, SB9, Lib.hid hnf, Lib.hid hrb, Lib.hid (only_trans G2.out k9)⟩
        · skip
          refine AllReadyH.cons (o := _) rfl (fun K hK => ?_) AllReadyH.nil
          go_simp
          refine hK.out _ _ (SX.out _ (only_alloc G1.out (.cells #[.slice none 0 0, .slice none 0 0, .int .i64 0] 27))) (fun hHeld => ?_)
          clear hK K
          try simp only [Act.put, List.setIfInBounds_toArray, List.set_cons_zero, List.set_cons_succ]
          have G1b := Lib.hid (only_alloc G1.out (.cells #[.slice none 0 0, .slice none 0 0, .int .i64 0] 27))
          refine wpAnyH_ready (rs := [4]) (by kernel_rfl) (by simp) ?_
          refine AllReadyH.cons (o := _) rfl (fun K hK => ?_) AllReadyH.nil
          go_simp
          go_at_call 22
          (with_reducible refine (HP.out _ G1b.out).mono ?_)
          rintro e w2 hdv
          obtain ⟨A5, n5, c5, A6, n6, c6, rfl, hmid, hn5, hn6, hg5, ho5⟩ := Qu.Mid.first (H0.out.grown G1b.out) HA.out hdv (only_trans GW0.out G1b.out)
          have HMID := Lib.hid (⟨hmid, hn5, hn6⟩ : Qu.Mid W (.slice A n c) (.slice A2 n2 c2) w w2 q bw bd vw vd L D lim (.slice A5 n5 c5) (.slice A6 n6 c6) (L ++ [y.it]) D ∧ n5 = ((L ++ [y.it])).length ∧ n6 = D.length)
          have G2 := Lib.hid (only_trans G1b.out hg5)
          have HG5 := Lib.hid hg5
          have HO5 := Lib.hid ho5
          clear hmid hn5 hn6 hdv hg5 ho5
          refine hK.out _ _ (SX.out _ G2.out) (fun hHeld => ?_)
          clear hK K
          try simp only [Act.put, List.setIfInBounds_toArray, List.set_cons_zero, List.set_cons_succ]
          have HMIDX := HMID
          have HBB := Lib.hid (show W.heap.size + 1 + 1 < w1.heap.size by have := HZ0.out; have := G1.out.size; omega)
          have HOB := Lib.hid (show ¬ Qu.Do (.slice A5 n5 c5) (.slice A6 n6 c6) w1.heap.size from fun e => (HO5.out _ e).elim (fun q => by have := HOLD.out _ q; have := G1.out.size; have := HZ0.out; omega) (fun q => by simp at q; omega))
          refine wpAnyH_take (i := 5) (oi := _) (v := ?_) rfl (by kernel_rfl) (by kernel_rfl) (by kernel_rfl) (fun _ _ _ h => h) (Or.inl ⟨by rfl, ?_⟩) (by assumption) ?_
          case refine_2 => intro w hSw; (try dsimp only at hSw); go_simp; try with_reducible rfl
          try simp only [Act.put, List.setIfInBounds_toArray, List.set_cons_zero, List.set_cons_succ]
          refine wpAnyH_take (i := 6) (oi := _) (v := ?_) rfl (by kernel_rfl) (by kernel_rfl) (by kernel_rfl) (fun _ _ _ h => h) (Or.inl ⟨by rfl, ?_⟩) (by assumption) ?_
          case refine_2 => intro w hSw; (try dsimp only at hSw); go_simp; try with_reducible rfl
          try simp only [Act.put, List.setIfInBounds_toArray, List.set_cons_zero, List.set_cons_succ]
          refine wpAnyH_take (i := 7) (oi := _) (v := ?_) rfl (by kernel_rfl) (by kernel_rfl) (by kernel_rfl) (fun _ _ _ h => h) (Or.inl ⟨by rfl, ?_⟩) (by assumption) ?_
          case refine_2 => intro w hSw; (try dsimp only at hSw); go_simp; try with_reducible rfl
          try simp only [Act.put, List.setIfInBounds_toArray, List.set_cons_zero, List.set_cons_succ]
          have hbk : Blk (w2) (w1.heap.size) 27 #[.slice none 0 0, .slice none 0 0, .int .i64 0] := (Blk.new w1 _ _).only HG5.out (by simp)
          have x0 : (w2).cell? ⟨w1.heap.size, 0, none⟩ = some (.slice none 0 0) := hbk.cell 0
          have x1 : (w2).cell? ⟨w1.heap.size, 1, none⟩ = some (.slice none 0 0) := hbk.cell 1
          have x2 : (w2).cell? ⟨w1.heap.size, 2, none⟩ = some (.int .i64 0) := hbk.cell 2
          have z0 := hbk.free 0
          have z1 := hbk.free 1
          have z2 := hbk.free 2
          obtain ⟨W9, hW9⟩ : ∃ W9, W9 = ((((w2).setCell ⟨w1.heap.size, 0, none⟩ (.slice A5 n5 c5)).setCell ⟨w1.heap.size, 1, none⟩ (.slice A6 n6 c6)).setCell ⟨w1.heap.size, 2, none⟩ (.int .i64 lim)) := ⟨_, rfl⟩
          obtain ⟨k9, b9⟩ := Qu.put3 hbk (.slice A5 n5 c5) (.slice A6 n6 c6) (.int .i64 lim) W9 hW9
          have hbb : W.heap.size + 1 + 1 < w1.heap.size := HBB.out
          have hnf : ¬ Qu.Ft q bw bd vw vd w1.heap.size := fun e => by have := HLT.out _ e; omega
          have hmid9 := HMIDX.out.1.putb k9 hnf (by have := HWS.out; omega) HOB.out (by have := HBB.out; omega)
          have SB9 := Lib.hid ((SB.out.grown G2.out).offb k9 (by omega))
          have SW9 : W9.cell? ⟨W.heap.size, 0, none⟩ = some (.slice A n c) ∧ W9.cell? ⟨W.heap.size, 1, none⟩ = some (.slice A2 n2 c2) ∧ W9.cell? ⟨W.heap.size, 2, none⟩ = some (.int .i64 lim) ∧ W9.cell? ⟨W.heap.size + 1, 1, none⟩ = some (.int .i64 y.it.k) ∧ W9.cell? ⟨W.heap.size + 1, 2, none⟩ = some (.int .u8 y.it.wh) ∧ W9.cell? ⟨W.heap.size + 1, 3, none⟩ = some (.int .u8 y.it.st) ∧ W9.cell? ⟨W.heap.size + 1, 4, none⟩ = some (.int .i64 y.it.ad) ∧ W9.cell? ⟨W.heap.size + 1, 5, none⟩ = some (.int .i64 y.it.ln) ∧ W9.cell? ⟨W.heap.size + 1, 6, none⟩ = some (.int .i64 y.it.ar) ∧ W9.cell? ⟨W.heap.size + 1, 7, none⟩ = some (.bool y.it.bad) := by have q1 := SB9.out.qb; have q2 := SB9.out.db; exact ⟨q1.cell 0, q1.cell 1, q1.cell 2, q2.cell 1, q2.cell 2, q2.cell 3, q2.cell 4, q2.cell 5, q2.cell 6, q2.cell 7⟩
          refine wpAnyH_ready (rs := [9]) (by kernel_rfl) (by simp) ?_
          refine AllReadyH.cons (o := _) rfl (fun K hK => ?_) AllReadyH.nil
          go_simp
          rw [← hW9]
          refine hK.out _ _ (SW9) (fun hHeld => ?_)
          clear hK K
          try simp only [Act.put, List.setIfInBounds_toArray, List.set_cons_zero, List.set_cons_succ]
          refine wpAnyH_take (i := 10) (oi := ⟨some 9, _, _, _, _, none⟩) (v := ?_) rfl (by kernel_rfl) (by kernel_rfl) (by kernel_rfl) (fun _ _ _ h => h) (Or.inl ⟨by rfl, ?_⟩) (by assumption) ?_
          case refine_2 => intro w hSw; (try dsimp only at hSw); go_simp; try with_reducible rfl
          try simp only [Act.put, List.setIfInBounds_toArray, List.set_cons_zero, List.set_cons_succ]
          refine wpAnyH_done (by kernel_rfl) ?_ _
          have hrb : ¬ Qu.Do (.slice A5 n5 c5) (.slice A6 n6 c6) (W.heap.size + 1 + 1) := fun e => (HO5.out _ e).elim (fun q => by have := HOLD.out _ q; omega) (fun q => by have := HZ0.out; have := G1.out.size; (try simp at q); omega)
          go_wp2_with (fail)
          go_meet
          case rel => exact ⟨w1.heap.size, n5, c5, n6, c6, A5, A6, rfl, rfl, Lib.hid hbb, Lib.hid b9, Lib.hid ⟨hmid9, HMIDX.out.2⟩, SB9, Lib.hid hnf, Lib.hid hrb, Lib.hid (Qu.grow_box G2.out k9 (by have := HZ0.out; have := G1.out.size; omega))⟩
      · skip
        refine AllReadyH.cons (o := _) rfl (fun K hK => ?_) AllReadyH.nil
        go_simp
        refine hK.out _ _ (SX.out _ (only_alloc (only_drewN (only_refl W0 none) 1) (.cells #[.slice none 0 0, .slice none 0 0, .int .i64 0] 27))) (fun hHeld => ?_)
        clear hK K
        try simp only [Act.put, List.setIfInBounds_toArray, List.set_cons_zero, List.set_cons_succ]
        refine wpAnyH_ready (rs := [3]) (by kernel_rfl) (by simp) ?_
        refine AllReadyH.cons (o := _) rfl (fun K hK => ?_) AllReadyH.nil
        go_simp
        go_at_call 23
        (with_reducible refine (HIT.out _).mono ?_)
        rintro e w1 ⟨rfl, g1⟩
        have G1 := Lib.hid (only_trans (only_alloc (only_drewN (only_refl W0 none) 1) (.cells #[.slice none 0 0, .slice none 0 0, .int .i64 0] 27)) g1)
        have HG1 := Lib.hid g1
        clear g1
        refine hK.out _ _ (SX.out _ G1.out) (fun hHeld => ?_)
        clear hK K
        try simp only [Act.put, List.setIfInBounds_toArray, List.set_cons_zero, List.set_cons_succ]
        refine wpAnyH_ready (rs := [4]) (by kernel_rfl) (by simp) ?_
        refine AllReadyH.cons (o := _) rfl (fun K hK => ?_) AllReadyH.nil
        go_simp
        go_at_call 22
        (with_reducible refine (HP.out _ G1.out).mono ?_)
        rintro e w2 hdv
        obtain ⟨A5, n5, c5, A6, n6, c6, rfl, hmid, hn5, hn6, hg5, ho5⟩ := Qu.Mid.first (H0.out.grown G1.out) HA.out hdv (only_trans GW0.out G1.out)
        have HMID := Lib.hid (⟨hmid, hn5, hn6⟩ : Qu.Mid W (.slice A n c) (.slice A2 n2 c2) w w2 q bw bd vw vd L D lim (.slice A5 n5 c5) (.slice A6 n6 c6) (L ++ [y.it]) D ∧ n5 = ((L ++ [y.it])).length ∧ n6 = D.length)
        have G2 := Lib.hid (only_trans G1.out hg5)
        have HG5 := Lib.hid hg5
        have HO5 := Lib.hid ho5
        clear hmid hn5 hn6 hdv hg5 ho5
        refine hK.out _ _ (SX.out _ G2.out) (fun hHeld => ?_)
        clear hK K
        try simp only [Act.put, List.setIfInBounds_toArray, List.set_cons_zero, List.set_cons_succ]
        have HMIDX := HMID
        have HBB := Lib.hid (show W.heap.size + 1 + 1 < W0.heap.size from HZ0.out)
        have HOB := Lib.hid (show ¬ Qu.Do (.slice A5 n5 c5) (.slice A6 n6 c6) W0.heap.size from fun e => (HO5.out _ e).elim (fun q => by have := HOLD.out _ q; have := HZ0.out; omega) (fun q => by have := HG1.out.size; simp at this; omega))
        refine wpAnyH_take (i := 5) (oi := _) (v := ?_) rfl (by kernel_rfl) (by kernel_rfl) (by kernel_rfl) (fun _ _ _ h => h) (Or.inl ⟨by rfl, ?_⟩) (by assumption) ?_
        case refine_2 => intro w hSw; (try dsimp only at hSw); go_simp; try with_reducible rfl
        try simp only [Act.put, List.setIfInBounds_toArray, List.set_cons_zero, List.set_cons_succ]
        refine wpAnyH_take (i := 6) (oi := _) (v := ?_) rfl (by kernel_rfl) (by kernel_rfl) (by kernel_rfl) (fun _ _ _ h => h) (Or.inl ⟨by rfl, ?_⟩) (by assumption) ?_
        case refine_2 => intro w hSw; (try dsimp only at hSw); go_simp; try with_reducible rfl
        try simp only [Act.put, List.setIfInBounds_toArray, List.set_cons_zero, List.set_cons_succ]
        refine wpAnyH_take (i := 7) (oi := _) (v := ?_) rfl (by kernel_rfl) (by kernel_rfl) (by kernel_rfl) (fun _ _ _ h => h) (Or.inl ⟨by rfl, ?_⟩) (by assumption) ?_
        case refine_2 => intro w hSw; (try dsimp only at hSw); go_simp; try with_reducible rfl
        try simp only [Act.put, List.setIfInBounds_toArray, List.set_cons_zero, List.set_cons_succ]
        have hbk : Blk (w2) (W0.heap.size) 27 #[.slice none 0 0, .slice none 0 0, .int .i64 0] := (((Blk.new W0 _ _).drewN 1).only HG1.out (by simp)).only HG5.out (by simp)
        have x0 : (w2).cell? ⟨W0.heap.size, 0, none⟩ = some (.slice none 0 0) := hbk.cell 0
        have x1 : (w2).cell? ⟨W0.heap.size, 1, none⟩ = some (.slice none 0 0) := hbk.cell 1
        have x2 : (w2).cell? ⟨W0.heap.size, 2, none⟩ = some (.int .i64 0) := hbk.cell 2
        have z0 := hbk.free 0
        have z1 := hbk.free 1
        have z2 := hbk.free 2
        obtain ⟨W9, hW9⟩ : ∃ W9, W9 = ((((w2).setCell ⟨W0.heap.size, 0, none⟩ (.slice A5 n5 c5)).setCell ⟨W0.heap.size, 1, none⟩ (.slice A6 n6 c6)).setCell ⟨W0.heap.size, 2, none⟩ (.int .i64 lim)) := ⟨_, rfl⟩
        obtain ⟨k9, b9⟩ := Qu.put3 hbk (.slice A5 n5 c5) (.slice A6 n6 c6) (.int .i64 lim) W9 hW9
        have hbb : W.heap.size + 1 + 1 < W0.heap.size := HBB.out
        have hnf : ¬ Qu.Ft q bw bd vw vd W0.heap.size := fun e => by have := HLT.out _ e; omega
        have hmid9 := HMIDX.out.1.putb k9 hnf (by have := HWS.out; omega) HOB.out (by have := HBB.out; omega)
        have SB9 := Lib.hid ((SB.out.grown G2.out).offb k9 (by omega))
        have SW9 : W9.cell? ⟨W.heap.size, 0, none⟩ = some (.slice A n c) ∧ W9.cell? ⟨W.heap.size, 1, none⟩ = some (.slice A2 n2 c2) ∧ W9.cell? ⟨W.heap.size, 2, none⟩ = some (.int .i64 lim) ∧ W9.cell? ⟨W.heap.size + 1, 1, none⟩ = some (.int .i64 y.it.k) ∧ W9.cell? ⟨W.heap.size + 1, 2, none⟩ = some (.int .u8 y.it.wh) ∧ W9.cell? ⟨W.heap.size + 1, 3, none⟩ = some (.int .u8 y.it.st) ∧ W9.cell? ⟨W.heap.size + 1, 4, none⟩ = some (.int .i64 y.it.ad) ∧ W9.cell? ⟨W.heap.size + 1, 5, none⟩ = some (.int .i64 y.it.ln) ∧ W9.cell? ⟨W.heap.size + 1, 6, none⟩ = some (.int .i64 y.it.ar) ∧ W9.cell? ⟨W.heap.size + 1, 7, none⟩ = some (.bool y.it.bad) := by have q1 := SB9.out.qb; have q2 := SB9.out.db; exact ⟨q1.cell 0, q1.cell 1, q1.cell 2, q2.cell 1, q2.cell 2, q2.cell 3, q2.cell 4, q2.cell 5, q2.cell 6, q2.cell 7⟩
        refine wpAnyH_ready (rs := [9]) (by kernel_rfl) (by simp) ?_
        refine AllReadyH.cons (o := _) rfl (fun K hK => ?_) AllReadyH.nil
        go_simp
        rw [← hW9]
        refine hK.out _ _ (SW9) (fun hHeld => ?_)
        clear hK K
        try simp only [Act.put, List.setIfInBounds_toArray, List.set_cons_zero, List.set_cons_succ]
        refine wpAnyH_take (i := 10) (oi := ⟨some 9, _, _, _, _, none⟩) (v := ?_) rfl (by kernel_rfl) (by kernel_rfl) (by kernel_rfl) (fun _ _ _ h => h) (Or.inl ⟨by rfl, ?_⟩) (by assumption) ?_
        case refine_2 => intro w hSw; (try dsimp only at hSw); go_simp; try with_reducible rfl
        try simp only [Act.put, List.setIfInBounds_toArray, List.set_cons_zero, List.set_cons_succ]
        refine wpAnyH_done (by kernel_rfl) ?_ _
        have hrb : ¬ Qu.Do (.slice A5 n5 c5) (.slice A6 n6 c6) (W.heap.size + 1 + 1) := fun e => (HO5.out _ e).elim (fun q => by have := HOLD.out _ q; omega) (fun q => by have := HZ0.out; have := G1.out.size; (try simp at q); omega)
        go_wp2_with (fail)
        go_meet
        case rel => exact ⟨W0.heap.size, n5, c5, n6, c6, A5, A6, rfl, rfl, Lib.hid hbb, Lib.hid b9, Lib.hid ⟨hmid9, HMIDX.out.2⟩, SB9, Lib.hid hnf, Lib.hid hrb, Lib.hid (Qu.grow_box G2.out k9 (by have := HZ0.out; have := G1.out.size; omega))⟩
    case rest =>
      obtain ⟨b5, n5, c5, n6, c6, A5, A6, rfl, rfl, HB5, BK, HM, SBW, HNF, HRB, GRW⟩ := hcut
      go_upto_region 4 with (fail)
      have gdr : wc.grownBy wc.drew none := only_drewN (only_refl _ none) 1
      have HMD := Lib.hid (HM.out.1.grown gdr)
      have BKD := Lib.hid (BK.out.only gdr (by simp))
      have SBD := Lib.hid (SBW.out.grown gdr)
      have hls : W.heap.size + 1 + 1 < wc.heap.size := by have := HZ0.out; have := GRW.out.size; omega
      have HLS := Lib.hid hls
      have HQC := Lib.hid (HQ.out _ HMD.out.ow)
      clear gdr hls
      have SC : wc.drew.cell? ⟨b5, 0, none⟩ = some (.slice A5 n5 c5) ∧ wc.drew.cell? ⟨b5, 1, none⟩ = some (.slice A6 n6 c6) ∧ wc.drew.cell? ⟨b5, 2, none⟩ = some (.int .i64 lim) ∧ wc.drew.cell? ⟨W.heap.size + 1, 1, none⟩ = some (.int .i64 y.it.k) ∧ wc.drew.cell? ⟨W.heap.size + 1, 2, none⟩ = some (.int .u8 y.it.wh) ∧ wc.drew.cell? ⟨W.heap.size + 1, 3, none⟩ = some (.int .u8 y.it.st) ∧ wc.drew.cell? ⟨W.heap.size + 1, 4, none⟩ = some (.int .i64 y.it.ad) ∧ wc.drew.cell? ⟨W.heap.size + 1, 5, none⟩ = some (.int .i64 y.it.ln) ∧ wc.drew.cell? ⟨W.heap.size + 1, 6, none⟩ = some (.int .i64 y.it.ar) ∧ wc.drew.cell? ⟨W.heap.size + 1, 7, none⟩ = some (.bool y.it.bad) := ⟨BKD.out.cell 0, BKD.out.cell 1, BKD.out.cell 2, SBD.out.db.cell 1, SBD.out.db.cell 2, SBD.out.db.cell 3, SBD.out.db.cell 4, SBD.out.db.cell 5, SBD.out.db.cell 6, SBD.out.db.cell 7⟩
      refine wp_region_held_drew (S := fun w' => w'.cell? ⟨b5, 0, none⟩ = some (.slice A5 n5 c5) ∧ w'.cell? ⟨b5, 1, none⟩ = some (.slice A6 n6 c6) ∧ w'.cell? ⟨b5, 2, none⟩ = some (.int .i64 lim) ∧ w'.cell? ⟨W.heap.size + 1, 1, none⟩ = some (.int .i64 y.it.k) ∧ w'.cell? ⟨W.heap.size + 1, 2, none⟩ = some (.int .u8 y.it.wh) ∧ w'.cell? ⟨W.heap.size + 1, 3, none⟩ = some (.int .u8 y.it.st) ∧ w'.cell? ⟨W.heap.size + 1, 4, none⟩ = some (.int .i64 y.it.ad) ∧ w'.cell? ⟨W.heap.size + 1, 5, none⟩ = some (.int .i64 y.it.ln) ∧ w'.cell? ⟨W.heap.size + 1, 6, none⟩ = some (.int .i64 y.it.ar) ∧ w'.cell? ⟨W.heap.size + 1, 7, none⟩ = some (.bool y.it.bad)) (by kernel_rfl) SC (fun hHeld => ?_)
      refine wpAnyH_take (i := 0) (oi := _) (v := ?_) rfl (by kernel_rfl) (by kernel_rfl) (by kernel_rfl) (fun _ _ _ h => h) (Or.inl ⟨by rfl, ?_⟩) (by assumption) ?_
      case refine_2 => intro w hSw; (try dsimp only at hSw); go_simp; try with_reducible rfl
      try simp only [Act.put, List.setIfInBounds_toArray, List.set_cons_zero, List.set_cons_succ]
      refine wpAnyH_take (i := 1) (oi := _) (v := ?_) rfl (by kernel_rfl) (by kernel_rfl) (by kernel_rfl) (fun _ _ _ h => h) (Or.inl ⟨by rfl, ?_⟩) (by assumption) ?_
      case refine_2 => intro w hSw; (try dsimp only at hSw); go_simp; try with_reducible rfl
      try simp only [Act.put, List.setIfInBounds_toArray, List.set_cons_zero, List.set_cons_succ]
      refine wpAnyH_take (i := 2) (oi := _) (v := ?_) rfl (by kernel_rfl) (by kernel_rfl) (by kernel_rfl) (fun _ _ _ h => h) (Or.inl ⟨by rfl, ?_⟩) (by assumption) ?_
      case refine_2 => intro w hSw; (try dsimp only at hSw); go_simp; try with_reducible rfl
      try simp only [Act.put, List.setIfInBounds_toArray, List.set_cons_zero, List.set_cons_succ]
      refine wpAnyH_take (i := 3) (oi := _) (v := ?_) rfl (by kernel_rfl) (by kernel_rfl) (by kernel_rfl) (fun _ _ _ h => h) (Or.inl ⟨by rfl, ?_⟩) (by assumption) ?_
      case refine_2 => intro w hSw; (try dsimp only at hSw); go_simp; try with_reducible rfl
      try simp only [Act.put, List.setIfInBounds_toArray, List.set_cons_zero, List.set_cons_succ]
      refine wpAnyH_take (i := 5) (oi := _) (v := ?_) rfl (by kernel_rfl) (by kernel_rfl) (by kernel_rfl) (fun _ _ _ h => h) (Or.inl ⟨by rfl, ?_⟩) (by assumption) ?_
      case refine_2 => intro w hSw; (try dsimp only at hSw); go_simp; try with_reducible rfl
      try simp only [Act.put, List.setIfInBounds_toArray, List.set_cons_zero, List.set_cons_succ]
      refine wpAnyH_ready (rs := [4]) (by kernel_rfl) (by simp) ?_
      refine AllReadyH.cons (o := _) rfl (fun K hK => ?_) AllReadyH.nil
      go_simp
      go_at_call 11
      (with_reducible refine HQC.out.mono ?_)
      rintro e w6 ⟨rfl, hnx⟩
      have HNX := Lib.hid hnx
      have hkp : Keeps (Qu.Ft q bw bd vw vd) wc.drew w6 := by obtain ⟨_, _, _, k, _⟩ := hnx; exact k
      have BK6 := Lib.hid (BKD.out.keeps hkp HNF.out)
      have SB6 := Lib.hid (SBD.out.keeps hkp (fun i hi => .inl (HLT.out i hi)))
      clear hnx hkp
      have S6 : w6.cell? ⟨b5, 0, none⟩ = some (.slice A5 n5 c5) ∧ w6.cell? ⟨b5, 1, none⟩ = some (.slice A6 n6 c6) ∧ w6.cell? ⟨b5, 2, none⟩ = some (.int .i64 lim) ∧ w6.cell? ⟨W.heap.size + 1, 1, none⟩ = some (.int .i64 y.it.k) ∧ w6.cell? ⟨W.heap.size + 1, 2, none⟩ = some (.int .u8 y.it.wh) ∧ w6.cell? ⟨W.heap.size + 1, 3, none⟩ = some (.int .u8 y.it.st) ∧ w6.cell? ⟨W.heap.size + 1, 4, none⟩ = some (.int .i64 y.it.ad) ∧ w6.cell? ⟨W.heap.size + 1, 5, none⟩ = some (.int .i64 y.it.ln) ∧ w6.cell? ⟨W.heap.size + 1, 6, none⟩ = some (.int .i64 y.it.ar) ∧ w6.cell? ⟨W.heap.size + 1, 7, none⟩ = some (.bool y.it.bad) := ⟨BK6.out.cell 0, BK6.out.cell 1, BK6.out.cell 2, SB6.out.db.cell 1, SB6.out.db.cell 2, SB6.out.db.cell 3, SB6.out.db.cell 4, SB6.out.db.cell 5, SB6.out.db.cell 6, SB6.out.db.cell 7⟩
      refine hK.out _ _ (S6) (fun hHeld => ?_)
      clear hK K
      try simp only [Act.put, List.setIfInBounds_toArray, List.set_cons_zero, List.set_cons_succ]
      refine wpAnyH_take (i := 6) (oi := _) (v := ?_) rfl (by kernel_rfl) (by kernel_rfl) (by kernel_rfl) (fun _ _ _ h => h) (Or.inl ⟨by rfl, ?_⟩) (by assumption) ?_
      case refine_2 => intro w hSw; (try dsimp only at hSw); go_simp; try with_reducible rfl
      try simp only [Act.put, List.setIfInBounds_toArray, List.set_cons_zero, List.set_cons_succ]
      obtain ⟨⟨x0, x1, x2⟩, y0, y1, y2⟩ := Qu.cells3 SB6.out.rb
      obtain ⟨W9, hW9⟩ : ∃ W9, W9 = (((w6.setCell ⟨(W.heap.size + 1 + 1), 0, none⟩ (.slice A5 n5 c5)).setCell ⟨(W.heap.size + 1 + 1), 1, none⟩ (.slice A6 n6 c6)).setCell ⟨(W.heap.size + 1 + 1), 2, none⟩ (.int .i64 lim)) := ⟨_, rfl⟩
      obtain ⟨k9, b9⟩ := Qu.put3 SB6.out.rb (.slice A5 n5 c5) (.slice A6 n6 c6) (.int .i64 lim) W9 hW9
      have HB9 := Lib.hid b9
      have HTW := Lib.hid (Qu.Mid.both2 HMD.out HM.out.2.1 HM.out.2.2 HNX.out k9 HLS.out (fun e => by have := HLT.out _ e; omega) HRB.out (by have := HWS.out; omega))
      have S9 : W9.cell? ⟨b5, 0, none⟩ = some (.slice A5 n5 c5) ∧ W9.cell? ⟨b5, 1, none⟩ = some (.slice A6 n6 c6) ∧ W9.cell? ⟨b5, 2, none⟩ = some (.int .i64 lim) ∧ W9.cell? ⟨W.heap.size + 1, 1, none⟩ = some (.int .i64 y.it.k) ∧ W9.cell? ⟨W.heap.size + 1, 2, none⟩ = some (.int .u8 y.it.wh) ∧ W9.cell? ⟨W.heap.size + 1, 3, none⟩ = some (.int .u8 y.it.st) ∧ W9.cell? ⟨W.heap.size + 1, 4, none⟩ = some (.int .i64 y.it.ad) ∧ W9.cell? ⟨W.heap.size + 1, 5, none⟩ = some (.int .i64 y.it.ln) ∧ W9.cell? ⟨W.heap.size + 1, 6, none⟩ = some (.int .i64 y.it.ar) ∧ W9.cell? ⟨W.heap.size + 1, 7, none⟩ = some (.bool y.it.bad) := by have q1 := BK6.out.only k9 (fun e => by injection e with e; have := HB5.out; omega); have q2 := SB6.out.db.only k9 (fun e => by injection e with e; omega); exact ⟨q1.cell 0, q1.cell 1, q1.cell 2, q2.cell 1, q2.cell 2, q2.cell 3, q2.cell 4, q2.cell 5, q2.cell 6, q2.cell 7⟩
      refine wpAnyH_ready (rs := [7]) (by kernel_rfl) (by simp) ?_
      refine AllReadyH.cons (o := _) rfl (fun K hK => ?_) AllReadyH.nil
      go_simp
      rw [← hW9]
      refine hK.out _ _ (S9) (fun hHeld => ?_)
      clear hK K
      try simp only [Act.put, List.setIfInBounds_toArray, List.set_cons_zero, List.set_cons_succ]
      refine wpAnyH_take (i := 8) (oi := ⟨some 7, _, _, _, _, none⟩) (v := ?_) rfl (by kernel_rfl) (by kernel_rfl) (by kernel_rfl) (fun _ _ _ h => h) (Or.inl ⟨by rfl, ?_⟩) (by assumption) ?_
      case refine_2 => intro w hSw; (try dsimp only at hSw); go_simp; try with_reducible rfl
      try simp only [Act.put, List.setIfInBounds_toArray, List.set_cons_zero, List.set_cons_succ]
      refine wpAnyH_done (by kernel_rfl) ?_ _
      obtain ⟨z0, z1, z2⟩ := (Qu.cells3 HB9.out).1
      clear x0 x1 x2 y0 y1 y2 hW9 k9 b9 S9 S6 SC
      go_wp2_with (fail)
      refine bodyPost_ret (v := .tuple #[.agg #[.slice A5 n5 c5, .slice A6 n6 c6, .int .i64 lim], .bool true]) (by simp [results, Try.results8, go_sem, z0, z1, z2]) rfl ?_
      exact ⟨A5, n5, c5, A6, n6, c6, rfl, HTW.out⟩
  · have hl6 : lim ≤ 16 := h.qv.l16
    have HP := Lib.hid (fun W1 (g : W0.grownBy W1 none) => show Calls Try.prog 22 #[.agg #[.slice A n c, .slice A2 n2 c2, .int .i64 lim], .agg #[.int .i64 y.it.k, .int .u8 y.it.wh, .int .u8 y.it.st, .int .i64 y.it.ad, .int .i64 y.it.ln, .int .i64 y.it.ar, .bool y.it.bad, .int .i64 0, .int .i64 0]] W1 (Qu.DV W1 (.slice A n c) (.slice A2 n2 c2) L D lim (fun v => .tuple #[v, .bool false])) from by
      have := Qu.rput_no A A2 c c2 lim L D y.it W1 (by have := HD0.out.grown g; rw [hn, hn2] at this; exact this) hlt hl100
      rw [← hn, ← hn2] at this
      exact this)
    have HQ := Lib.hid (fun W1 (ho : Qu.Own w W1 q bw bd vw vd L D lim) => show Calls Try.prog 11 #[.pointer (some ⟨q, 0, none⟩), .agg #[.int .i64 y.it.k, .int .u8 y.it.wh, .int .u8 y.it.st, .int .i64 y.it.ad, .int .i64 y.it.ln, .int .i64 y.it.ar, .bool y.it.bad]] W1 fun e W' => e = .returned (.bool false) ∧ Qu.Nx w W1 q bw bd vw vd W' L D lim from (ho.put y.it).mono fun e W' hh => by rw [if_neg hlt] at hh; exact hh)
    clear hlt hl6 hl100 h hd ha hn hn2 hsb g0
    obtain ⟨⟨a0, a1, a2⟩, f0, f1, f2⟩ := Qu.cells3 SB.out.qb
    obtain ⟨b0, b1, b2, b3, b4, b5, b6, b7, b8, b9⟩ := Qu.cells10 SB.out.db
    go_enter Try.func8, Try.ntmps8
    go_upto_region 1 with (fail)
    rw [← hW0]
    clear hW0
    go_upto_region 3 with (fail)
    clear a0 a1 a2 f0 f1 f2 b0 b1 b2 b3 b4 b5 b6 b7 b8 b9
    go_cut [8, 9] from 22 to 164 (fun s t wx => ∃ (b5 n5 c5 n6 c6 : Nat) (A5 A6 : Option Addr), s = .pointer (some ⟨b5, 0, none⟩) ∧ t = .bool false ∧ Hid (W.heap.size + 1 + 1 < b5) ∧ Hid (Blk wx b5 27 #[.slice A5 n5 c5, .slice A6 n6 c6, .int .i64 lim]) ∧ Hid (Qu.Mid W (.slice A n c) (.slice A2 n2 c2) w wx q bw bd vw vd L D lim (.slice A5 n5 c5) (.slice A6 n6 c6) L D ∧ n5 = L.length ∧ n6 = D.length) ∧ Hid (Qu.Sb W wx (.slice A n c) (.slice A2 n2 c2) lim 0 y) ∧ Hid (¬ Qu.Ft q bw bd vw vd b5) ∧ Hid (¬ Qu.Do (.slice A5 n5 c5) (.slice A6 n6 c6) (W.heap.size + 1 + 1)) ∧ Hid (W0.grownBy wx none))
    case first =>
      refine wp_region_held_drew (S := fun w' => w'.cell? ⟨W.heap.size, 0, none⟩ = some (.slice A n c) ∧ w'.cell? ⟨W.heap.size, 1, none⟩ = some (.slice A2 n2 c2) ∧ w'.cell? ⟨W.heap.size, 2, none⟩ = some (.int .i64 lim) ∧ w'.cell? ⟨W.heap.size + 1, 1, none⟩ = some (.int .i64 y.it.k) ∧ w'.cell? ⟨W.heap.size + 1, 2, none⟩ = some (.int .u8 y.it.wh) ∧ w'.cell? ⟨W.heap.size + 1, 3, none⟩ = some (.int .u8 y.it.st) ∧ w'.cell? ⟨W.heap.size + 1, 4, none⟩ = some (.int .i64 y.it.ad) ∧ w'.cell? ⟨W.heap.size + 1, 5, none⟩ = some (.int .i64 y.it.ln) ∧ w'.cell? ⟨W.heap.size + 1, 6, none⟩ = some (.int .i64 y.it.ar) ∧ w'.cell? ⟨W.heap.size + 1, 7, none⟩ = some (.bool y.it.bad)) (by kernel_rfl) (SX.out _ (only_drewN (only_refl _ none) 1)) (fun hHeld => ?_)
      refine wpAnyH_take (i := 0) (oi := _) (v := ?_) rfl (by kernel_rfl) (by kernel_rfl) (by kernel_rfl) (fun _ _ _ h => h) (Or.inl ⟨by rfl, ?_⟩) (by assumption) ?_
      case refine_2 => intro w hSw; (try dsimp only at hSw); go_simp; try with_reducible rfl
      try simp only [Act.put, List.setIfInBounds_toArray, List.set_cons_zero, List.set_cons_succ]
      refine wpAnyH_take (i := 1) (oi := _) (v := ?_) rfl (by kernel_rfl) (by kernel_rfl) (by kernel_rfl) (fun _ _ _ h => h) (Or.inl ⟨by rfl, ?_⟩) (by assumption) ?_
      case refine_2 => intro w hSw; (try dsimp only at hSw); go_simp; try with_reducible rfl
      try simp only [Act.put, List.setIfInBounds_toArray, List.set_cons_zero, List.set_cons_succ]
      refine wpAnyH_take (i := 2) (oi := _) (v := ?_) rfl (by kernel_rfl) (by kernel_rfl) (by kernel_rfl) (fun _ _ _ h => h) (Or.inl ⟨by rfl, ?_⟩) (by assumption) ?_
      case refine_2 => intro w hSw; (try dsimp only at hSw); go_simp; try with_reducible rfl
      try simp only [Act.put, List.setIfInBounds_toArray, List.set_cons_zero, List.set_cons_succ]
      refine wpAnyH_ready (rs := [3, 8]) (by kernel_rfl) (by simp) ?_
      refine AllReadyH.cons (o := _) rfl (fun K hK => ?_) ?_
      · skip
        go_simp
        go_at_call 23
        (with_reducible refine (HIT.out _).mono ?_)
        rintro e w1 ⟨rfl, g1⟩
        have G1 := Lib.hid (only_trans (only_drewN (only_refl W0 none) 1) g1)
        have HG1 := Lib.hid g1
        clear g1
        refine hK.out _ _ (SX.out _ G1.out) (fun hHeld => ?_)
        clear hK K
        try simp only [Act.put, List.setIfInBounds_toArray, List.set_cons_zero, List.set_cons_succ]
        refine wpAnyH_ready (rs := [4, 8]) (by kernel_rfl) (by simp) ?_
        refine AllReadyH.cons (o := _) rfl (fun K hK => ?_) ?_
        · skip
          go_simp
          go_at_call 22
          (with_reducible refine (HP.out _ G1.out).mono ?_)
          rintro e w2 hdv
          obtain ⟨A5, n5, c5, A6, n6, c6, rfl, hmid, hn5, hn6, hg5, ho5⟩ := Qu.Mid.first (H0.out.grown G1.out) HA.out hdv (only_trans GW0.out G1.out)
          have HMID := Lib.hid (⟨hmid, hn5, hn6⟩ : Qu.Mid W (.slice A n c) (.slice A2 n2 c2) w w2 q bw bd vw vd L D lim (.slice A5 n5 c5) (.slice A6 n6 c6) L D ∧ n5 = (L).length ∧ n6 = D.length)
          have G2 := Lib.hid (only_trans G1.out hg5)
          have HG5 := Lib.hid hg5
          have HO5 := Lib.hid ho5
          clear hmid hn5 hn6 hdv hg5 ho5
          refine hK.out _ _ (SX.out _ G2.out) (fun hHeld => ?_)
          clear hK K
          try simp only [Act.put, List.setIfInBounds_toArray, List.set_cons_zero, List.set_cons_succ]
          refine wpAnyH_take (i := 5) (oi := _) (v := ?_) rfl (by kernel_rfl) (by kernel_rfl) (by kernel_rfl) (fun _ _ _ h => h) (Or.inl ⟨by rfl, ?_⟩) (by assumption) ?_
          case refine_2 => intro w hSw; (try dsimp only at hSw); go_simp; try with_reducible rfl
          try simp only [Act.put, List.setIfInBounds_toArray, List.set_cons_zero, List.set_cons_succ]
          refine wpAnyH_take (i := 6) (oi := _) (v := ?_) rfl (by kernel_rfl) (by kernel_rfl) (by kernel_rfl) (fun _ _ _ h => h) (Or.inl ⟨by rfl, ?_⟩) (by assumption) ?_
          case refine_2 => intro w hSw; (try dsimp only at hSw); go_simp; try with_reducible rfl
          try simp only [Act.put, List.setIfInBounds_toArray, List.set_cons_zero, List.set_cons_succ]
          refine wpAnyH_take (i := 7) (oi := _) (v := ?_) rfl (by kernel_rfl) (by kernel_rfl) (by kernel_rfl) (fun _ _ _ h => h) (Or.inl ⟨by rfl, ?_⟩) (by assumption) ?_
          case refine_2 => intro w hSw; (try dsimp only at hSw); go_simp; try with_reducible rfl
          try simp only [Act.put, List.setIfInBounds_toArray, List.set_cons_zero, List.set_cons_succ]
          refine wpAnyH_ready (rs := [8]) (by kernel_rfl) (by simp) ?_
          refine AllReadyH.cons (o := _) rfl (fun K hK => ?_) AllReadyH.nil
          go_simp
          refine hK.out _ _ (SX.out _ (only_alloc G2.out (.cells #[.slice none 0 0, .slice none 0 0, .int .i64 0] 27))) (fun hHeld => ?_)
          clear hK K
          try simp only [Act.put, List.setIfInBounds_toArray, List.set_cons_zero, List.set_cons_succ]
          obtain ⟨W9, hW9⟩ : ∃ W9, W9 = w2.alloc (.cells #[.slice A5 n5 c5, .slice A6 n6 c6, .int .i64 lim] 27) := ⟨_, rfl⟩
          have k9 : w2.grownBy W9 none := by rw [hW9]; exact only_alloc (only_refl _ none) _
          have b9 : Blk W9 w2.heap.size 27 #[.slice A5 n5 c5, .slice A6 n6 c6, .int .i64 lim] := by rw [hW9]; exact Blk.new _ _ _
          have hbb : W.heap.size + 1 + 1 < w2.heap.size := by have := HZ0.out; have := G2.out.size; omega
          have hnf : ¬ Qu.Ft q bw bd vw vd w2.heap.size := fun e => by have := HLT.out _ e; omega
          have hmid9 := HMID.out.1.grown k9
          have SB9 := Lib.hid (SB.out.grown (only_trans G2.out k9))
          have SW9 := SX.out _ (only_trans G2.out k9)
          refine wpAnyH_ready (rs := [9]) (by kernel_rfl) (by simp) ?_
          refine AllReadyH.cons (o := _) rfl (fun K hK => ?_) AllReadyH.nil
          go_simp
          rw [← hW9]
          refine hK.out _ _ (SW9) (fun hHeld => ?_)
          clear hK K
          try simp only [Act.put, List.setIfInBounds_toArray, List.set_cons_zero, List.set_cons_succ]
          refine wpAnyH_take (i := 10) (oi := ⟨some 9, _, _, _, _, none⟩) (v := ?_) rfl (by kernel_rfl) (by kernel_rfl) (by kernel_rfl) (fun _ _ _ h => h) (Or.inl ⟨by rfl, ?_⟩) (by assumption) ?_
          case refine_2 => intro w hSw; (try dsimp only at hSw); go_simp; try with_reducible rfl
          try simp only [Act.put, List.setIfInBounds_toArray, List.set_cons_zero, List.set_cons_succ]
          refine wpAnyH_done (by kernel_rfl) ?_ _
          have hrb : ¬ Qu.Do (.slice A5 n5 c5) (.slice A6 n6 c6) (W.heap.size + 1 + 1) := fun e => (HO5.out _ e).elim (fun q => by have := HOLD.out _ q; omega) (fun q => by have := HZ0.out; have := G1.out.size; (try simp at q); omega)
          go_wp2_with (fail)
          go_meet
          case rel => exact ⟨w2.heap.size, n5, c5, n6, c6, A5, A6, rfl, rfl, Lib.hid hbb, Lib.hid b9, Lib.hid ⟨hmid9, HMID.out.2⟩, SB9, Lib.hid hnf, Lib.hid hrb, Lib.hid (only_trans G2.out k9)⟩
        · skip
          refine AllReadyH.cons (o := _) rfl (fun K hK => ?_) AllReadyH.nil
          go_simp
          refine hK.out _ _ (SX.out _ (only_alloc G1.out (.cells #[.slice none 0 0, .slice none 0 0, .int .i64 0] 27))) (fun hHeld => ?_)
          clear hK K
          try simp only [Act.put, List.setIfInBounds_toArray, List.set_cons_zero, List.set_cons_succ]
          have G1b := Lib.hid (only_alloc G1.out (.cells #[.slice none 0 0, .slice none 0 0, .int .i64 0] 27))
          refine wpAnyH_ready (rs := [4]) (by kernel_rfl) (by simp) ?_
          refine AllReadyH.cons (o := _) rfl (fun K hK => ?_) AllReadyH.nil
          go_simp
          go_at_call 22
          (with_reducible refine (HP.out _ G1b.out).mono ?_)
          rintro e w2 hdv
          obtain ⟨A5, n5, c5, A6, n6, c6, rfl, hmid, hn5, hn6, hg5, ho5⟩ := Qu.Mid.first (H0.out.grown G1b.out) HA.out hdv (only_trans GW0.out G1b.out)
          have HMID := Lib.hid (⟨hmid, hn5, hn6⟩ : Qu.Mid W (.slice A n c) (.slice A2 n2 c2) w w2 q bw bd vw vd L D lim (.slice A5 n5 c5) (.slice A6 n6 c6) L D ∧ n5 = (L).length ∧ n6 = D.length)
          have G2 := Lib.hid (only_trans G1b.out hg5)
          have HG5 := Lib.hid hg5
          have HO5 := Lib.hid ho5
          clear hmid hn5 hn6 hdv hg5 ho5
          refine hK.out _ _ (SX.out _ G2.out) (fun hHeld => ?_)
          clear hK K
          try simp only [Act.put, List.setIfInBounds_toArray, List.set_cons_zero, List.set_cons_succ]
          have HMIDX := HMID
          have HBB := Lib.hid (show W.heap.size + 1 + 1 < w1.heap.size by have := HZ0.out; have := G1.out.size; omega)
          have HOB := Lib.hid (show ¬ Qu.Do (.slice A5 n5 c5) (.slice A6 n6 c6) w1.heap.size from fun e => (HO5.out _ e).elim (fun q => by have := HOLD.out _ q; have := G1.out.size; have := HZ0.out; omega) (fun q => by simp at q; omega))
          refine wpAnyH_take (i := 5) (oi := _) (v := ?_) rfl (by kernel_rfl) (by kernel_rfl) (by kernel_rfl) (fun _ _ _ h => h) (Or.inl ⟨by rfl, ?_⟩) (by assumption) ?_
          case refine_2 => intro w hSw; (try dsimp only at hSw); go_simp; try with_reducible rfl
          try simp only [Act.put, List.setIfInBounds_toArray, List.set_cons_zero, List.set_cons_succ]
          refine wpAnyH_take (i := 6) (oi := _) (v := ?_) rfl (by kernel_rfl) (by kernel_rfl) (by kernel_rfl) (fun _ _ _ h => h) (Or.inl ⟨by rfl, ?_⟩) (by assumption) ?_
          case refine_2 => intro w hSw; (try dsimp only at hSw); go_simp; try with_reducible rfl
          try simp only [Act.put, List.setIfInBounds_toArray, List.set_cons_zero, List.set_cons_succ]
          refine wpAnyH_take (i := 7) (oi := _) (v := ?_) rfl (by kernel_rfl) (by kernel_rfl) (by kernel_rfl) (fun _ _ _ h => h) (Or.inl ⟨by rfl, ?_⟩) (by assumption) ?_
          case refine_2 => intro w hSw; (try dsimp only at hSw); go_simp; try with_reducible rfl
          try simp only [Act.put, List.setIfInBounds_toArray, List.set_cons_zero, List.set_cons_succ]
          have hbk : Blk (w2) (w1.heap.size) 27 #[.slice none 0 0, .slice none 0 0, .int .i64 0] := (Blk.new w1 _ _).only HG5.out (by simp)
          have x0 : (w2).cell? ⟨w1.heap.size, 0, none⟩ = some (.slice none 0 0) := hbk.cell 0
          have x1 : (w2).cell? ⟨w1.heap.size, 1, none⟩ = some (.slice none 0 0) := hbk.cell 1
          have x2 : (w2).cell? ⟨w1.heap.size, 2, none⟩ = some (.int .i64 0) := hbk.cell 2
          have z0 := hbk.free 0
          have z1 := hbk.free 1
          have z2 := hbk.free 2
          obtain ⟨W9, hW9⟩ : ∃ W9, W9 = ((((w2).setCell ⟨w1.heap.size, 0, none⟩ (.slice A5 n5 c5)).setCell ⟨w1.heap.size, 1, none⟩ (.slice A6 n6 c6)).setCell ⟨w1.heap.size, 2, none⟩ (.int .i64 lim)) := ⟨_, rfl⟩
          obtain ⟨k9, b9⟩ := Qu.put3 hbk (.slice A5 n5 c5) (.slice A6 n6 c6) (.int .i64 lim) W9 hW9
          have hbb : W.heap.size + 1 + 1 < w1.heap.size := HBB.out
          have hnf : ¬ Qu.Ft q bw bd vw vd w1.heap.size := fun e => by have := HLT.out _ e; omega
          have hmid9 := HMIDX.out.1.putb k9 hnf (by have := HWS.out; omega) HOB.out (by have := HBB.out; omega)
          have SB9 := Lib.hid ((SB.out.grown G2.out).offb k9 (by omega))
          have SW9 : W9.cell? ⟨W.heap.size, 0, none⟩ = some (.slice A n c) ∧ W9.cell? ⟨W.heap.size, 1, none⟩ = some (.slice A2 n2 c2) ∧ W9.cell? ⟨W.heap.size, 2, none⟩ = some (.int .i64 lim) ∧ W9.cell? ⟨W.heap.size + 1, 1, none⟩ = some (.int .i64 y.it.k) ∧ W9.cell? ⟨W.heap.size + 1, 2, none⟩ = some (.int .u8 y.it.wh) ∧ W9.cell? ⟨W.heap.size + 1, 3, none⟩ = some (.int .u8 y.it.st) ∧ W9.cell? ⟨W.heap.size + 1, 4, none⟩ = some (.int .i64 y.it.ad) ∧ W9.cell? ⟨W.heap.size + 1, 5, none⟩ = some (.int .i64 y.it.ln) ∧ W9.cell? ⟨W.heap.size + 1, 6, none⟩ = some (.int .i64 y.it.ar) ∧ W9.cell? ⟨W.heap.size + 1, 7, none⟩ = some (.bool y.it.bad) := by have q1 := SB9.out.qb; have q2 := SB9.out.db; exact ⟨q1.cell 0, q1.cell 1, q1.cell 2, q2.cell 1, q2.cell 2, q2.cell 3, q2.cell 4, q2.cell 5, q2.cell 6, q2.cell 7⟩
          refine wpAnyH_ready (rs := [9]) (by kernel_rfl) (by simp) ?_
          refine AllReadyH.cons (o := _) rfl (fun K hK => ?_) AllReadyH.nil
          go_simp
          rw [← hW9]
          refine hK.out _ _ (SW9) (fun hHeld => ?_)
          clear hK K
          try simp only [Act.put, List.setIfInBounds_toArray, List.set_cons_zero, List.set_cons_succ]
          refine wpAnyH_take (i := 10) (oi := ⟨some 9, _, _, _, _, none⟩) (v := ?_) rfl (by kernel_rfl) (by kernel_rfl) (by kernel_rfl) (fun _ _ _ h => h) (Or.inl ⟨by rfl, ?_⟩) (by assumption) ?_
          case refine_2 => intro w hSw; (try dsimp only at hSw); go_simp; try with_reducible rfl
          try simp only [Act.put, List.setIfInBounds_toArray, List.set_cons_zero, List.set_cons_succ]
          refine wpAnyH_done (by kernel_rfl) ?_ _
          have hrb : ¬ Qu.Do (.slice A5 n5 c5) (.slice A6 n6 c6) (W.heap.size + 1 + 1) := fun e => (HO5.out _ e).elim (fun q => by have := HOLD.out _ q; omega) (fun q => by have := HZ0.out; have := G1.out.size; (try simp at q); omega)
          go_wp2_with (fail)
          go_meet
          case rel => exact ⟨w1.heap.size, n5, c5, n6, c6, A5, A6, rfl, rfl, Lib.hid hbb, Lib.hid b9, Lib.hid ⟨hmid9, HMIDX.out.2⟩, SB9, Lib.hid hnf, Lib.hid hrb, Lib.hid (Qu.grow_box G2.out k9 (by have := HZ0.out; have := G1.out.size; omega))⟩
      · skip
        refine AllReadyH.cons (o := _) rfl (fun K hK => ?_) AllReadyH.nil
        go_simp
        refine hK.out _ _ (SX.out _ (only_alloc (only_drewN (only_refl W0 none) 1) (.cells #[.slice none 0 0, .slice none 0 0, .int .i64 0] 27))) (fun hHeld => ?_)
        clear hK K
        try simp only [Act.put, List.setIfInBounds_toArray, List.set_cons_zero, List.set_cons_succ]
        refine wpAnyH_ready (rs := [3]) (by kernel_rfl) (by simp) ?_
        refine AllReadyH.cons (o := _) rfl (fun K hK => ?_) AllReadyH.nil
        go_simp
        go_at_call 23
        (with_reducible refine (HIT.out _).mono ?_)
        rintro e w1 ⟨rfl, g1⟩
        have G1 := Lib.hid (only_trans (only_alloc (only_drewN (only_refl W0 none) 1) (.cells #[.slice none 0 0, .slice none 0 0, .int .i64 0] 27)) g1)
        have HG1 := Lib.hid g1
        clear g1
        refine hK.out _ _ (SX.out _ G1.out) (fun hHeld => ?_)
        clear hK K
        try simp only [Act.put, List.setIfInBounds_toArray, List.set_cons_zero, List.set_cons_succ]
        refine wpAnyH_ready (rs := [4]) (by kernel_rfl) (by simp) ?_
        refine AllReadyH.cons (o := _) rfl (fun K hK => ?_) AllReadyH.nil
        go_simp
        go_at_call 22
        (with_reducible refine (HP.out _ G1.out).mono ?_)
        rintro e w2 hdv
        obtain ⟨A5, n5, c5, A6, n6, c6, rfl, hmid, hn5, hn6, hg5, ho5⟩ := Qu.Mid.first (H0.out.grown G1.out) HA.out hdv (only_trans GW0.out G1.out)
        have HMID := Lib.hid (⟨hmid, hn5, hn6⟩ : Qu.Mid W (.slice A n c) (.slice A2 n2 c2) w w2 q bw bd vw vd L D lim (.slice A5 n5 c5) (.slice A6 n6 c6) L D ∧ n5 = (L).length ∧ n6 = D.length)
        have G2 := Lib.hid (only_trans G1.out hg5)
        have HG5 := Lib.hid hg5
        have HO5 := Lib.hid ho5
        clear hmid hn5 hn6 hdv hg5 ho5
        refine hK.out _ _ (SX.out _ G2.out) (fun hHeld => ?_)
        clear hK K
        try simp only [Act.put, List.setIfInBounds_toArray, List.set_cons_zero, List.set_cons_succ]
        have HMIDX := HMID
        have HBB := Lib.hid (show W.heap.size + 1 + 1 < W0.heap.size from HZ0.out)
        have HOB := Lib.hid (show ¬ Qu.Do (.slice A5 n5 c5) (.slice A6 n6 c6) W0.heap.size from fun e => (HO5.out _ e).elim (fun q => by have := HOLD.out _ q; have := HZ0.out; omega) (fun q => by have := HG1.out.size; simp at this; omega))
        refine wpAnyH_take (i := 5) (oi := _) (v := ?_) rfl (by kernel_rfl) (by kernel_rfl) (by kernel_rfl) (fun _ _ _ h => h) (Or.inl ⟨by rfl, ?_⟩) (by assumption) ?_
        case refine_2 => intro w hSw; (try dsimp only at hSw); go_simp; try with_reducible rfl
        try simp only [Act.put, List.setIfInBounds_toArray, List.set_cons_zero, List.set_cons_succ]
        refine wpAnyH_take (i := 6) (oi := _) (v := ?_) rfl (by kernel_rfl) (by kernel_rfl) (by kernel_rfl) (fun _ _ _ h => h) (Or.inl ⟨by rfl, ?_⟩) (by assumption) ?_
        case refine_2 => intro w hSw; (try dsimp only at hSw); go_simp; try with_reducible rfl
        try simp only [Act.put, List.setIfInBounds_toArray, List.set_cons_zero, List.set_cons_succ]
        refine wpAnyH_take (i := 7) (oi := _) (v := ?_) rfl (by kernel_rfl) (by kernel_rfl) (by kernel_rfl) (fun _ _ _ h => h) (Or.inl ⟨by rfl, ?_⟩) (by assumption) ?_
        case refine_2 => intro w hSw; (try dsimp only at hSw); go_simp; try with_reducible rfl
        try simp only [Act.put, List.setIfInBounds_toArray, List.set_cons_zero, List.set_cons_succ]
        have hbk : Blk (w2) (W0.heap.size) 27 #[.slice none 0 0, .slice none 0 0, .int .i64 0] := (((Blk.new W0 _ _).drewN 1).only HG1.out (by simp)).only HG5.out (by simp)
        have x0 : (w2).cell? ⟨W0.heap.size, 0, none⟩ = some (.slice none 0 0) := hbk.cell 0
        have x1 : (w2).cell? ⟨W0.heap.size, 1, none⟩ = some (.slice none 0 0) := hbk.cell 1
        have x2 : (w2).cell? ⟨W0.heap.size, 2, none⟩ = some (.int .i64 0) := hbk.cell 2
        have z0 := hbk.free 0
        have z1 := hbk.free 1
        have z2 := hbk.free 2
        obtain ⟨W9, hW9⟩ : ∃ W9, W9 = ((((w2).setCell ⟨W0.heap.size, 0, none⟩ (.slice A5 n5 c5)).setCell ⟨W0.heap.size, 1, none⟩ (.slice A6 n6 c6)).setCell ⟨W0.heap.size, 2, none⟩ (.int .i64 lim)) := ⟨_, rfl⟩
        obtain ⟨k9, b9⟩ := Qu.put3 hbk (.slice A5 n5 c5) (.slice A6 n6 c6) (.int .i64 lim) W9 hW9
        have hbb : W.heap.size + 1 + 1 < W0.heap.size := HBB.out
        have hnf : ¬ Qu.Ft q bw bd vw vd W0.heap.size := fun e => by have := HLT.out _ e; omega
        have hmid9 := HMIDX.out.1.putb k9 hnf (by have := HWS.out; omega) HOB.out (by have := HBB.out; omega)
        have SB9 := Lib.hid ((SB.out.grown G2.out).offb k9 (by omega))
        have SW9 : W9.cell? ⟨W.heap.size, 0, none⟩ = some (.slice A n c) ∧ W9.cell? ⟨W.heap.size, 1, none⟩ = some (.slice A2 n2 c2) ∧ W9.cell? ⟨W.heap.size, 2, none⟩ = some (.int .i64 lim) ∧ W9.cell? ⟨W.heap.size + 1, 1, none⟩ = some (.int .i64 y.it.k) ∧ W9.cell? ⟨W.heap.size + 1, 2, none⟩ = some (.int .u8 y.it.wh) ∧ W9.cell? ⟨W.heap.size + 1, 3, none⟩ = some (.int .u8 y.it.st) ∧ W9.cell? ⟨W.heap.size + 1, 4, none⟩ = some (.int .i64 y.it.ad) ∧ W9.cell? ⟨W.heap.size + 1, 5, none⟩ = some (.int .i64 y.it.ln) ∧ W9.cell? ⟨W.heap.size + 1, 6, none⟩ = some (.int .i64 y.it.ar) ∧ W9.cell? ⟨W.heap.size + 1, 7, none⟩ = some (.bool y.it.bad) := by have q1 := SB9.out.qb; have q2 := SB9.out.db; exact ⟨q1.cell 0, q1.cell 1, q1.cell 2, q2.cell 1, q2.cell 2, q2.cell 3, q2.cell 4, q2.cell 5, q2.cell 6, q2.cell 7⟩
        refine wpAnyH_ready (rs := [9]) (by kernel_rfl) (by simp) ?_
        refine AllReadyH.cons (o := _) rfl (fun K hK => ?_) AllReadyH.nil
        go_simp
        rw [← hW9]
        refine hK.out _ _ (SW9) (fun hHeld => ?_)
        clear hK K
        try simp only [Act.put, List.setIfInBounds_toArray, List.set_cons_zero, List.set_cons_succ]
        refine wpAnyH_take (i := 10) (oi := ⟨some 9, _, _, _, _, none⟩) (v := ?_) rfl (by kernel_rfl) (by kernel_rfl) (by kernel_rfl) (fun _ _ _ h => h) (Or.inl ⟨by rfl, ?_⟩) (by assumption) ?_
        case refine_2 => intro w hSw; (try dsimp only at hSw); go_simp; try with_reducible rfl
        try simp only [Act.put, List.setIfInBounds_toArray, List.set_cons_zero, List.set_cons_succ]
        refine wpAnyH_done (by kernel_rfl) ?_ _
        have hrb : ¬ Qu.Do (.slice A5 n5 c5) (.slice A6 n6 c6) (W.heap.size + 1 + 1) := fun e => (HO5.out _ e).elim (fun q => by have := HOLD.out _ q; omega) (fun q => by have := HZ0.out; have := G1.out.size; (try simp at q); omega)
        go_wp2_with (fail)
        go_meet
        case rel => exact ⟨W0.heap.size, n5, c5, n6, c6, A5, A6, rfl, rfl, Lib.hid hbb, Lib.hid b9, Lib.hid ⟨hmid9, HMIDX.out.2⟩, SB9, Lib.hid hnf, Lib.hid hrb, Lib.hid (Qu.grow_box G2.out k9 (by have := HZ0.out; have := G1.out.size; omega))⟩
    case rest =>
      obtain ⟨b5, n5, c5, n6, c6, A5, A6, rfl, rfl, HB5, BK, HM, SBW, HNF, HRB, GRW⟩ := hcut
      go_upto_region 4 with (fail)
      have gdr : wc.grownBy wc.drew none := only_drewN (only_refl _ none) 1
      have HMD := Lib.hid (HM.out.1.grown gdr)
      have BKD := Lib.hid (BK.out.only gdr (by simp))
      have SBD := Lib.hid (SBW.out.grown gdr)
      have hls : W.heap.size + 1 + 1 < wc.heap.size := by have := HZ0.out; have := GRW.out.size; omega
      have HLS := Lib.hid hls
      have HQC := Lib.hid (HQ.out _ HMD.out.ow)
      clear gdr hls
      have SC : wc.drew.cell? ⟨b5, 0, none⟩ = some (.slice A5 n5 c5) ∧ wc.drew.cell? ⟨b5, 1, none⟩ = some (.slice A6 n6 c6) ∧ wc.drew.cell? ⟨b5, 2, none⟩ = some (.int .i64 lim) ∧ wc.drew.cell? ⟨W.heap.size + 1, 1, none⟩ = some (.int .i64 y.it.k) ∧ wc.drew.cell? ⟨W.heap.size + 1, 2, none⟩ = some (.int .u8 y.it.wh) ∧ wc.drew.cell? ⟨W.heap.size + 1, 3, none⟩ = some (.int .u8 y.it.st) ∧ wc.drew.cell? ⟨W.heap.size + 1, 4, none⟩ = some (.int .i64 y.it.ad) ∧ wc.drew.cell? ⟨W.heap.size + 1, 5, none⟩ = some (.int .i64 y.it.ln) ∧ wc.drew.cell? ⟨W.heap.size + 1, 6, none⟩ = some (.int .i64 y.it.ar) ∧ wc.drew.cell? ⟨W.heap.size + 1, 7, none⟩ = some (.bool y.it.bad) := ⟨BKD.out.cell 0, BKD.out.cell 1, BKD.out.cell 2, SBD.out.db.cell 1, SBD.out.db.cell 2, SBD.out.db.cell 3, SBD.out.db.cell 4, SBD.out.db.cell 5, SBD.out.db.cell 6, SBD.out.db.cell 7⟩
      refine wp_region_held_drew (S := fun w' => w'.cell? ⟨b5, 0, none⟩ = some (.slice A5 n5 c5) ∧ w'.cell? ⟨b5, 1, none⟩ = some (.slice A6 n6 c6) ∧ w'.cell? ⟨b5, 2, none⟩ = some (.int .i64 lim) ∧ w'.cell? ⟨W.heap.size + 1, 1, none⟩ = some (.int .i64 y.it.k) ∧ w'.cell? ⟨W.heap.size + 1, 2, none⟩ = some (.int .u8 y.it.wh) ∧ w'.cell? ⟨W.heap.size + 1, 3, none⟩ = some (.int .u8 y.it.st) ∧ w'.cell? ⟨W.heap.size + 1, 4, none⟩ = some (.int .i64 y.it.ad) ∧ w'.cell? ⟨W.heap.size + 1, 5, none⟩ = some (.int .i64 y.it.ln) ∧ w'.cell? ⟨W.heap.size + 1, 6, none⟩ = some (.int .i64 y.it.ar) ∧ w'.cell? ⟨W.heap.size + 1, 7, none⟩ = some (.bool y.it.bad)) (by kernel_rfl) SC (fun hHeld => ?_)
      refine wpAnyH_take (i := 0) (oi := _) (v := ?_) rfl (by kernel_rfl) (by kernel_rfl) (by kernel_rfl) (fun _ _ _ h => h) (Or.inl ⟨by rfl, ?_⟩) (by assumption) ?_
      case refine_2 => intro w hSw; (try dsimp only at hSw); go_simp; try with_reducible rfl
      try simp only [Act.put, List.setIfInBounds_toArray, List.set_cons_zero, List.set_cons_succ]
      refine wpAnyH_take (i := 1) (oi := _) (v := ?_) rfl (by kernel_rfl) (by kernel_rfl) (by kernel_rfl) (fun _ _ _ h => h) (Or.inl ⟨by rfl, ?_⟩) (by assumption) ?_
      case refine_2 => intro w hSw; (try dsimp only at hSw); go_simp; try with_reducible rfl
      try simp only [Act.put, List.setIfInBounds_toArray, List.set_cons_zero, List.set_cons_succ]
      refine wpAnyH_take (i := 2) (oi := _) (v := ?_) rfl (by kernel_rfl) (by kernel_rfl) (by kernel_rfl) (fun _ _ _ h => h) (Or.inl ⟨by rfl, ?_⟩) (by assumption) ?_
      case refine_2 => intro w hSw; (try dsimp only at hSw); go_simp; try with_reducible rfl
      try simp only [Act.put, List.setIfInBounds_toArray, List.set_cons_zero, List.set_cons_succ]
      refine wpAnyH_take (i := 3) (oi := _) (v := ?_) rfl (by kernel_rfl) (by kernel_rfl) (by kernel_rfl) (fun _ _ _ h => h) (Or.inl ⟨by rfl, ?_⟩) (by assumption) ?_
      case refine_2 => intro w hSw; (try dsimp only at hSw); go_simp; try with_reducible rfl
      try simp only [Act.put, List.setIfInBounds_toArray, List.set_cons_zero, List.set_cons_succ]
      refine wpAnyH_take (i := 5) (oi := _) (v := ?_) rfl (by kernel_rfl) (by kernel_rfl) (by kernel_rfl) (fun _ _ _ h => h) (Or.inl ⟨by rfl, ?_⟩) (by assumption) ?_
      case refine_2 => intro w hSw; (try dsimp only at hSw); go_simp; try with_reducible rfl
      try simp only [Act.put, List.setIfInBounds_toArray, List.set_cons_zero, List.set_cons_succ]
      refine wpAnyH_ready (rs := [4]) (by kernel_rfl) (by simp) ?_
      refine AllReadyH.cons (o := _) rfl (fun K hK => ?_) AllReadyH.nil
      go_simp
      go_at_call 11
      (with_reducible refine HQC.out.mono ?_)
      rintro e w6 ⟨rfl, hnx⟩
      have HNX := Lib.hid hnx
      have hkp : Keeps (Qu.Ft q bw bd vw vd) wc.drew w6 := by obtain ⟨_, _, _, k, _⟩ := hnx; exact k
      have BK6 := Lib.hid (BKD.out.keeps hkp HNF.out)
      have SB6 := Lib.hid (SBD.out.keeps hkp (fun i hi => .inl (HLT.out i hi)))
      clear hnx hkp
      have S6 : w6.cell? ⟨b5, 0, none⟩ = some (.slice A5 n5 c5) ∧ w6.cell? ⟨b5, 1, none⟩ = some (.slice A6 n6 c6) ∧ w6.cell? ⟨b5, 2, none⟩ = some (.int .i64 lim) ∧ w6.cell? ⟨W.heap.size + 1, 1, none⟩ = some (.int .i64 y.it.k) ∧ w6.cell? ⟨W.heap.size + 1, 2, none⟩ = some (.int .u8 y.it.wh) ∧ w6.cell? ⟨W.heap.size + 1, 3, none⟩ = some (.int .u8 y.it.st) ∧ w6.cell? ⟨W.heap.size + 1, 4, none⟩ = some (.int .i64 y.it.ad) ∧ w6.cell? ⟨W.heap.size + 1, 5, none⟩ = some (.int .i64 y.it.ln) ∧ w6.cell? ⟨W.heap.size + 1, 6, none⟩ = some (.int .i64 y.it.ar) ∧ w6.cell? ⟨W.heap.size + 1, 7, none⟩ = some (.bool y.it.bad) := ⟨BK6.out.cell 0, BK6.out.cell 1, BK6.out.cell 2, SB6.out.db.cell 1, SB6.out.db.cell 2, SB6.out.db.cell 3, SB6.out.db.cell 4, SB6.out.db.cell 5, SB6.out.db.cell 6, SB6.out.db.cell 7⟩
      refine hK.out _ _ (S6) (fun hHeld => ?_)
      clear hK K
      try simp only [Act.put, List.setIfInBounds_toArray, List.set_cons_zero, List.set_cons_succ]
      refine wpAnyH_take (i := 6) (oi := _) (v := ?_) rfl (by kernel_rfl) (by kernel_rfl) (by kernel_rfl) (fun _ _ _ h => h) (Or.inl ⟨by rfl, ?_⟩) (by assumption) ?_
      case refine_2 => intro w hSw; (try dsimp only at hSw); go_simp; try with_reducible rfl
      try simp only [Act.put, List.setIfInBounds_toArray, List.set_cons_zero, List.set_cons_succ]
      obtain ⟨⟨x0, x1, x2⟩, y0, y1, y2⟩ := Qu.cells3 SB6.out.rb
      obtain ⟨W9, hW9⟩ : ∃ W9, W9 = (((w6.setCell ⟨(W.heap.size + 1 + 1), 0, none⟩ (.slice A5 n5 c5)).setCell ⟨(W.heap.size + 1 + 1), 1, none⟩ (.slice A6 n6 c6)).setCell ⟨(W.heap.size + 1 + 1), 2, none⟩ (.int .i64 lim)) := ⟨_, rfl⟩
      obtain ⟨k9, b9⟩ := Qu.put3 SB6.out.rb (.slice A5 n5 c5) (.slice A6 n6 c6) (.int .i64 lim) W9 hW9
      have HB9 := Lib.hid b9
      have HTW := Lib.hid (Qu.Mid.both2 HMD.out HM.out.2.1 HM.out.2.2 HNX.out k9 HLS.out (fun e => by have := HLT.out _ e; omega) HRB.out (by have := HWS.out; omega))
      have S9 : W9.cell? ⟨b5, 0, none⟩ = some (.slice A5 n5 c5) ∧ W9.cell? ⟨b5, 1, none⟩ = some (.slice A6 n6 c6) ∧ W9.cell? ⟨b5, 2, none⟩ = some (.int .i64 lim) ∧ W9.cell? ⟨W.heap.size + 1, 1, none⟩ = some (.int .i64 y.it.k) ∧ W9.cell? ⟨W.heap.size + 1, 2, none⟩ = some (.int .u8 y.it.wh) ∧ W9.cell? ⟨W.heap.size + 1, 3, none⟩ = some (.int .u8 y.it.st) ∧ W9.cell? ⟨W.heap.size + 1, 4, none⟩ = some (.int .i64 y.it.ad) ∧ W9.cell? ⟨W.heap.size + 1, 5, none⟩ = some (.int .i64 y.it.ln) ∧ W9.cell? ⟨W.heap.size + 1, 6, none⟩ = some (.int .i64 y.it.ar) ∧ W9.cell? ⟨W.heap.size + 1, 7, none⟩ = some (.bool y.it.bad) := by have q1 := BK6.out.only k9 (fun e => by injection e with e; have := HB5.out; omega); have q2 := SB6.out.db.only k9 (fun e => by injection e with e; omega); exact ⟨q1.cell 0, q1.cell 1, q1.cell 2, q2.cell 1, q2.cell 2, q2.cell 3, q2.cell 4, q2.cell 5, q2.cell 6, q2.cell 7⟩
      refine wpAnyH_ready (rs := [7]) (by kernel_rfl) (by simp) ?_
      refine AllReadyH.cons (o := _) rfl (fun K hK => ?_) AllReadyH.nil
      go_simp
      rw [← hW9]
      refine hK.out _ _ (S9) (fun hHeld => ?_)
      clear hK K
      try simp only [Act.put, List.setIfInBounds_toArray, List.set_cons_zero, List.set_cons_succ]
      refine wpAnyH_take (i := 8) (oi := ⟨some 7, _, _, _, _, none⟩) (v := ?_) rfl (by kernel_rfl) (by kernel_rfl) (by kernel_rfl) (fun _ _ _ h => h) (Or.inl ⟨by rfl, ?_⟩) (by assumption) ?_
      case refine_2 => intro w hSw; (try dsimp only at hSw); go_simp; try with_reducible rfl
      try simp only [Act.put, List.setIfInBounds_toArray, List.set_cons_zero, List.set_cons_succ]
      refine wpAnyH_done (by kernel_rfl) ?_ _
      obtain ⟨z0, z1, z2⟩ := (Qu.cells3 HB9.out).1
      clear x0 x1 x2 y0 y1 y2 hW9 k9 b9 S9 S6 SC
      go_wp2_with (fail)
      refine bodyPost_ret (v := .tuple #[.agg #[.slice A5 n5 c5, .slice A6 n6 c6, .int .i64 lim], .bool true]) (by simp [results, Try.results8, go_sem, z0, z1, z2]) rfl ?_
      exact ⟨A5, n5, c5, A6, n6, c6, rfl, HTW.out⟩
end Go.Proofs.Ytkiifafocmjfkaa
