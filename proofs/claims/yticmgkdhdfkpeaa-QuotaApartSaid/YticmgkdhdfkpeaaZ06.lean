import Derived.Test.YticmgkdhdfkpeaaZ05
import Derived.ShutString
import Derived.ChangeOld
import Derived.Lib.SmallJoins
set_option linter.all false
/- QuotaPlays walked. -/
namespace Go.Proofs.Yticmgkdhdfkpeaa
open Go.RowKit Go.Lib Go.Sort
set_option linter.unusedVariables false
set_option maxRecDepth 8000

/-- From number k on, all only reads. -/
theorem Zz.quiet_rest {P : Program} {md : Region.Mode} {Q : Exit → Act → World → Prop} {S : World → Prop} {l : List Oper} (C : World → Prop) (k : Nat) {fuel : Nat} {listed : Array Bool} {a : Act} {w : World} (hsel : Region.noSelect l.toArray = true) (hf : fuel = (l.drop k).length) (hB : Region.lexFrom md l.toArray (l.drop k).length k listed = true) (hw : C w) (hCS : ∀ w, C w → S w)
    (h : wpQuiet P l.toArray C (fun a2 => ∀ w2, C w2 → Q .normal a2 w2) (l.drop k) a) : wpAnyH P md l.toArray Q S fuel listed a w := by
  subst hf
  exact held_of_quiet (K := fun a2 => ∀ w2, C w2 → Q .normal a2 w2) hCS (fun a2 w2 h1 h2 => h2 w2 h1) _ _ _ _ hw (wpAnyQ_lex hsel (l.drop k) k _ a (fun j => by simp [List.getElem?_drop]) hB h)
set_option maxRecDepth 20000 in
set_option maxHeartbeats 6400000 in
theorem Qt.plays_err (f : Int) (A : Option Addr) (n m c : Nat) (B : Option Addr) (k cb : Nat) (d : Nat → Int) (w : World) (hm : (m = 12 ∧ 12 < n) ∨ (m = n ∧ ¬ 12 < n)) (hnc : n ≤ c) (hcm : c ≤ 9223372036854775807) (z : Int) (hz : z ≠ 0) (hN : ∀ W, w.grownBy W none → Calls Try.prog 7 #[.int .i64 f, .slice A m c] W fun e w' => e = .returned (.tuple #[.pointer none, .int .i64 z]) ∧ W.grownBy w' none) (hC : ∀ W, w.grownBy W none → Calls Try.prog 8 #[.int .i64 f, .slice A m c] W fun e w' => e = .returned (.int .i64 z) ∧ W = w') : Calls Try.prog 3 #[.int .i64 f, .slice A n c, .slice B k cb] w fun e w' => e = .returned (.bool true) ∧ Below w.heap.size w w' := by
  have HN := Lib.hid hN
  have HC := Lib.hid hC
  have hz1 : (z != 0) = true := by simpa using hz
  have hz2 : (z == 0) = false := by simpa using hz
  have hz3 : (z == z) = true := by simp
  clear hN hC hz
  rcases hm with ⟨rfl, hm⟩ | ⟨rfl, hm⟩
  · have i1 : (12 : Int) < (n : Int) := by omega
    have i2 : (12 : Int) ≤ (c : Int) := by omega
    have i3 : min (n : Int) 12 = 12 := by omega
    clear hm hnc
    go_enter Try.func3, Try.ntmps3
    go_wp2_with (first
      | (go_at_call 7; ((with_reducible refine (HN.out _ (only_refl _ none)).mono ?_); rintro e w1 ⟨rfl, g1⟩; have G2 := Lib.hid g1; clear g1))
      | (go_at_call 8; first | ((with_reducible refine (HC.out _ G3.out).mono ?_); rintro e w4 ⟨rfl, rfl⟩) | ((with_reducible refine (HC.out _ G2.out).mono ?_); rintro e w4 ⟨rfl, rfl⟩))
      | (go_at_call 9; (with_reducible refine (Qt.live_any _).mono ?_); rintro e w3 ⟨rfl, g3⟩; have G3 := Lib.hid (only_trans G2.out g3); clear g3))
    go_ret
    exact ⟨by first | rfl | (simp; done), Qt.bel G3.out⟩
  · have i1 : ¬ (12 : Int) < (m : Int) := by omega
    have i2 : (m : Int) ≤ (c : Int) := by omega
    have i3 : min (m : Int) 12 = m := by omega
    clear hm hnc
    go_enter Try.func3, Try.ntmps3
    go_wp2_with (first
      | (go_at_call 7; ((with_reducible refine (HN.out _ (only_refl _ none)).mono ?_); rintro e w1 ⟨rfl, g1⟩; have G2 := Lib.hid g1; clear g1))
      | (go_at_call 8; first | ((with_reducible refine (HC.out _ G3.out).mono ?_); rintro e w4 ⟨rfl, rfl⟩) | ((with_reducible refine (HC.out _ G2.out).mono ?_); rintro e w4 ⟨rfl, rfl⟩))
      | (go_at_call 9; (with_reducible refine (Qt.live_any _).mono ?_); rintro e w3 ⟨rfl, g3⟩; have G3 := Lib.hid (only_trans G2.out g3); clear g3))
    go_ret
    exact ⟨by first | rfl | (simp; done), Qt.bel G3.out⟩
set_option maxRecDepth 20000 in
set_option maxHeartbeats 12800000 in
theorem Qt.plays_ok (f n c : Nat) (A B : Option Addr) (k cb : Nat) (d : Nat → Int) (l : Nat → Qt.Ak) (w : World) (f1 : 1 ≤ f) (f2 : f ≤ 4096) (hn : n ≤ 8) (hnc : n ≤ c) (hcm : c ≤ 9223372036854775807) (hd : Qt.NumL w A n d) (hf : Qt.fine d n) (hl : Qt.AskL w B k l) (hk : k ≤ 9223372036854775807) : Calls Try.prog 3 #[.int .i64 f, .slice A n c, .slice B k cb] w fun e w' => e = .returned (.bool true) ∧ Below w.heap.size w w' := by
  have HN := Lib.hid (Qt.new_ok f A n c d w f1 f2 hn hd hf)
  have HCK := Lib.hid (fun W (g : w.grownBy W none) => Qt.rcheck_ok f A n c d W (by simp [Qt.rt]; omega) hn (hd.only g) hf)
  have HD := Lib.hid hl
  have HQ := Lib.hid hd
  have HF := Lib.hid (show 1 ≤ f ∧ n ≤ 8 from ⟨f1, hn⟩)
  have HFN := Lib.hid hf
  have i1 : ¬ (12 : Int) < (n : Int) := by omega
  have i2 : (n : Int) ≤ (c : Int) := by omega
  have i3 : min (n : Int) 12 = n := by omega
  clear f1 f2 hn hnc hd hf hl
  go_enter Try.func3, Try.ntmps3
  go_upto_region 9 with (first
    | (go_at_call 7; ((with_reducible refine HN.out.mono ?_); rintro e w1 ⟨ba, rfl, hb1, aa, g1⟩; have A1 := Lib.hid aa; have G1 := Lib.hid g1; have LA := Lib.hid hb1; clear g1 aa hb1))
    | (go_at_call 8; ((with_reducible refine (HCK.out _ G1.out).mono ?_); rintro e w2 ⟨rfl, rfl⟩)))
  obtain ⟨W, hW, g0, p0, z0⟩ := Qt.box1 w1 32 #[.int .i64 f, .slice A n c, .int .i64 0, .slice none 0 0]
  obtain ⟨bx, hbx⟩ : ∃ bx, bx = w1.heap.size := ⟨_, rfl⟩
  rw [← hbx] at p0
  have AA := Lib.hid (A1.out.only g0 (by simp))
  have X0 := Lib.hid p0
  have LX := Lib.hid (show w.heap.size ≤ bx ∧ ba ≠ bx from ⟨by rw [hbx]; exact G1.out.size, fun e => by have := A1.out.blk.lt; omega⟩)
  have G2 := Lib.hid (only_trans G1.out g0)
  rw [← hW, ← hbx]
  clear HN HCK i1 i2 i3 A1 G1 g0 p0 z0 hW hbx
  go_wp2
  go_loopw [11] (fun y wr => ∃ (j : Nat) (s : Qt.St) (L : List Qt.En) (A2 : Option Addr) (c2 : Nat), y = .int .i64 j ∧ j ≤ 60 ∧ Hid (L.length ≤ j) ∧ Hid (Qt.Acc wr ba f n (Qt.mix d n) s j) ∧ Hid (Blk wr bx 32 #[.int .i64 f, .slice A n c, .int .i64 s.fr, .slice A2 L.length c2]) ∧ Hid (RowZ 3 wr (.slice A2 L.length c2) L.length (Qt.enL L)) ∧ Hid (∀ i, (Value.slice A2 L.length c2).ownBlock = some i → w.heap.size ≤ i ∧ i ≠ ba ∧ i ≠ bx) ∧ Hid (Qt.Inv1 n s L) ∧ Hid (Qt.Inv2 n s L) ∧ Hid (w.grownBy wr none)) (fun y _ => 60 - (intOf y).toNat)
  case atStart => exact ⟨0, Qt.s0, [], none, 0, rfl, by omega, Lib.hid (Nat.zero_le _), AA, X0, Lib.hid (RowZ.nil 3 _), Lib.hid (fun i hi => by simp [Value.ownBlock] at hi), Lib.hid (Qt.Inv1.nil n), Lib.hid (Qt.Inv2.nil n), G2⟩
  case round =>
    obtain ⟨j, s, L, A2, c2, rfl, hj6, HLL, RA, RX, RR, RO, RI, RJ, RW⟩ := hrel
    clear AA X0 G2
    by_cases hin : j < k ∧ j < 60
    case neg =>
      have key : (¬ (j : Int) < (k : Int)) ∨ ((j : Int) < (k : Int) ∧ ¬ (j : Int) < 60) := by omega
      clear hin
      rcases key with i1 | ⟨i1, i2⟩
      all_goals
        go_wp2_with (go_at_call 9; (with_reducible refine (Qt.live_any _).mono ?_); rintro e w3 ⟨rfl, g3⟩; have G3 := Lib.hid (only_trans RW.out g3); clear g3)
        go_ret
        exact ⟨by first | rfl | (simp; done), Qt.bel G3.out⟩
    case pos =>
      obtain ⟨h1, h2⟩ := hin
      obtain ⟨g, off, rfl, hg, hc⟩ := HD.out (by omega)
      have HC := Lib.hid (show ∀ W, w.grownBy W none → W.cell? ⟨g, off + j * 2, none⟩ = some (.int .i64 (l j).1) ∧ W.cell? ⟨g, off + j * 2 + 1, none⟩ = some (.int .i64 (l j).2) from fun W gg => by
        have hb := gg.block g hg (by simp)
        rw [← (hc j h1).1, ← (hc j h1).2]
        simp only [World.cell?, hb]
        exact ⟨trivial, trivial⟩)
      have i1 : (j : Int) < (k : Int) := by omega
      have i3 : (0 : Int) ≤ (j : Int) := by omega
      have u1 : IntKind.i64.wrap ((j : Int) + 1) = ((j + 1 : Nat) : Int) := by rw [IntKind.wrap_i64]; omega
      have HJ := Lib.hid (show j ≤ 100000 by omega)
      have i2 : (j : Int) < 60 := by omega
      have KK := Lib.hid (show j + 1 ≤ 60 by omega)
      clear hc hg h1 h2 HD
      generalize (l j).1 = dt at *
      generalize (l j).2 = dx at *
      obtain ⟨c0, c1⟩ := HC.out wr RW.out
      go_upto_region 12 with (fail)
      go_quiet (fail)
      have A1 := Lib.hid (RA.out.drewN nq)
      have X1 := Lib.hid (RX.out.drewN nq)
      have R1 := Lib.hid (RR.out.drewN nq)
      have G1 := Lib.hid (only_drewN RW.out nq)
      clear c0 c1 RA RX RR RW
      generalize wr.drewN nq = w1' at A1 X1 R1 G1 ⊢
      go_upto_region 13 with (fail)
      obtain ⟨b0, b1, b2, b3⟩ := Qt.box4c X1.out
      have H1 := Lib.hid (fun (dd : Nat) (os : Array Obj) => show Calls Try.prog 10 #[.pointer (some ⟨ba, 0, none⟩), .int .i64 dt, .int .i64 dx] (grow (redrawn w1' dd) os) fun e w' => e = .returned (.int .i64 (Qt.left f n (Qt.mix d n) s dt dx)) ∧ Below (grow (redrawn w1' dd) os).heap.size (grow (redrawn w1' dd) os) w' from
        (Qt.left_any dx dt _ (A1.out.only (Qt.grow_of (below_regrown w1' dd os)) (by simp))).mono fun e w' h => ⟨h.1, Qt.bel_drew h.2⟩)
      have H2 := Lib.hid (fun (dd : Nat) (os : Array Obj) => Qt.rleft_any (f := f) (c := c) dt dx _ HF.out.1 HF.out.2 (HQ.out.only (only_trans G1.out (Qt.grow_of (below_regrown w1' dd os)))) HFN.out (by have := HLL.out; have := KK.out; omega) (R1.out.grown (Qt.grow_of (below_regrown w1' dd os))) RI.out)
      have b0r := fun d os => cell_regrown b0 d os
      have b1r := fun d os => cell_regrown b1 d os
      have b2r := fun d os => cell_regrown b2 d os
      have b3r := fun d os => cell_regrown b3 d os
      clear b0 b1 b2 b3
      generalize Qt.left f n (Qt.mix d n) s dt dx = z at H1 H2
      refine wp_region_quiet_below (by kernel_rfl) (by kernel_rfl) ?_
      repeat (quiet_step ((first
        | (go_at_call 10; with_reducible exact Calls.regrown_of (H1.out _ _))
        | (go_at_call 11; with_reducible exact Calls.regrown_of (H2.out _ _)))))
      refine wpQuiet_nil ?_
      rintro _ ⟨⟨dq, osq⟩, rfl⟩
      have gq := Qt.grow_of (below_regrown w1' dq osq)
      have A2' := Lib.hid (A1.out.only gq (by simp))
      have X2 := Lib.hid (X1.out.only gq (by simp))
      have R2 := Lib.hid (R1.out.grown gq)
      have G2 := Lib.hid (only_trans G1.out gq)
      clear b0r b1r b2r b3r H1 H2 gq A1 X1 R1 G1
      generalize grow (redrawn w1' dq) osq = w2 at A2' X2 R2 G2 ⊢
      obtain ⟨b0, b1, b2, b3⟩ := Qt.box4c X2.out
      have HUS := Lib.hid (Qt.ruse_any (c := c) dt dx w2 j HF.out.1 HF.out.2 (HQ.out.only G2.out) HFN.out HLL.out (by have := KK.out; omega) R2.out RI.out RJ.out)
      go_upto_region 17 with (go_at_call 12; (with_reducible refine HUS.out.mono ?_); rintro e3 w3 ⟨A3, c3, L3, rfl, hr3, hl3, hi3, hj3, hg3, ho3⟩; have R3 := Lib.hid hr3; have HL3 := Lib.hid hl3; have RI3 := Lib.hid hi3; have RJ3 := Lib.hid hj3; have A3' := Lib.hid (A2'.out.only hg3 (by simp)); have X3 := Lib.hid (X2.out.only hg3 (by simp)); have G3 := Lib.hid (only_trans G2.out hg3); have O3 := Lib.hid (show ∀ i, (Value.slice A3 L3.length c3).ownBlock = some i → w.heap.size ≤ i ∧ i ≠ ba ∧ i ≠ bx from fun i hi => (ho3 i hi).elim (fun h => RO.out i h) (fun h => by have := A2'.out.blk.lt; have := X2.out.lt; have := G2.out.size; exact ⟨by omega, by omega, by omega⟩)); have x0 := (X3.out.cell 0); have x1 := (X3.out.cell 1); have x2 := (X3.out.cell 2); have x3 := (X3.out.cell 3); have y0 := X3.out.free 0; have y1 := X3.out.free 1; have y2 := X3.out.free 2; have y3 := X3.out.free 3; clear hr3 hl3 hi3 hj3 hg3 ho3)
      have hu2 : ∃ s3 r, s3 = (Qt.use f n (Qt.mix d n) s dt dx).1 ∧ r = (Qt.use f n (Qt.mix d n) s dt dx).2 := ⟨_, _, rfl, rfl⟩
      obtain ⟨s3, r, hs3, hr3⟩ := hu2
      obtain ⟨w4, hw4⟩ : ∃ w4, w4 = (((w3.setCell ⟨bx, 0, none⟩ (.int .i64 f)).setCell ⟨bx, 1, none⟩ (.slice A n c)).setCell ⟨bx, 2, none⟩ (.int .i64 (Qt.use f n (Qt.mix d n) s dt dx).1.fr)).setCell ⟨bx, 3, none⟩ (.slice A3 L3.length c3) := ⟨_, rfl⟩
      have X4 := Lib.hid (show Blk w4 bx 32 #[.int .i64 f, .slice A n c, .int .i64 s3.fr, .slice A3 L3.length c3] from by
        rw [hw4, hs3]
        exact (((X3.out.put 0 (.int .i64 f)).put 1 (.slice A n c)).put 2 (.int .i64 (Qt.use f n (Qt.mix d n) s dt dx).1.fr)).put 3 (.slice A3 L3.length c3))
      have hgx : w3.grownBy w4 (some bx) := by
        rw [hw4]
        exact only_put (only_put (only_put (only_put (only_refl _ _) 0 _) 1 _) 2 _) 3 _
      have A4 := Lib.hid (A3'.out.only hgx (fun e => by injection e with e; exact LX.out.2 e))
      have R4 := Lib.hid (R3.out.only hgx (.inr (fun e => (O3.out _ e).2.2 rfl)))
      have G4 := Lib.hid (Qt.grow_new G3.out hgx LX.out.1)
      have O4 := O3
      rw [← hw4]
      rw [← hs3] at RI3 RJ3
      clear hw4 hgx b0 b1 b2 b3 x0 x1 x2 x3 y0 y1 y2 y3 R3 A3' X3 G3 O3 A2' X2 R2 G2 HUS
      have HUSE := Lib.hid (show Calls Try.prog 13 #[.pointer (some ⟨ba, 0, none⟩), .int .i64 dt, .int .i64 dx] w4.drew fun e w' => e = .returned (.bool r) ∧ Qt.Acc w' ba f n (Qt.mix d n) s3 (j + 1) ∧ w4.drew.grownBy w' (some ba) from by
        rw [hs3, hr3]
        exact Qt.use_any dx dt w4.drew (show Qt.Acc w4.drew ba f n (Qt.mix d n) s j from A4.out.drewN 1) HJ.out)
      rw [← hr3]
      clear hs3 hr3
      refine wp_region_held_drew (S := fun _ => True) (by kernel_rfl) (trivial) (fun hHeld => ?_)
      refine wpAnyH_take (i := 0) (oi := _) (v := ?_) rfl (by kernel_rfl) (by kernel_rfl) (by kernel_rfl) (fun _ _ _ h => h) (Or.inl ⟨by rfl, ?_⟩) (by assumption) ?_
      case refine_2 => intro w hSw; (try dsimp only at hSw); go_simp; try with_reducible rfl
      try simp only [Act.put, List.setIfInBounds_toArray, List.set_cons_zero, List.set_cons_succ]
      refine wpAnyH_take (i := 1) (oi := _) (v := ?_) rfl (by kernel_rfl) (by kernel_rfl) (by kernel_rfl) (fun _ _ _ h => h) (Or.inl ⟨by rfl, ?_⟩) (by assumption) ?_
      case refine_2 => intro w hSw; (try dsimp only at hSw); go_simp; try with_reducible rfl
      try simp only [Act.put, List.setIfInBounds_toArray, List.set_cons_zero, List.set_cons_succ]
      refine wpAnyH_take (i := 2) (oi := _) (v := ?_) rfl (by kernel_rfl) (by kernel_rfl) (by kernel_rfl) (fun _ _ _ h => h) (Or.inl ⟨by rfl, ?_⟩) (by assumption) ?_
      case refine_2 => intro w hSw; (try dsimp only at hSw); go_simp; try with_reducible rfl
      try simp only [Act.put, List.setIfInBounds_toArray, List.set_cons_zero, List.set_cons_succ]
      refine wpAnyH_take (i := 4) (oi := _) (v := ?_) rfl (by kernel_rfl) (by kernel_rfl) (by kernel_rfl) (fun _ _ _ h => h) (Or.inl ⟨by rfl, ?_⟩) (by assumption) ?_
      case refine_2 => intro w hSw; (try dsimp only at hSw); go_simp; try with_reducible rfl
      try simp only [Act.put, List.setIfInBounds_toArray, List.set_cons_zero, List.set_cons_succ]
      refine wpAnyH_ready (rs := [3]) (by kernel_rfl) (by simp) ?_
      refine AllReadyH.cons (o := _) rfl (fun K hK => ?_) AllReadyH.nil
      go_simp
      go_at_call 13
      (with_reducible refine HUSE.out.mono ?_)
      rintro e6 w6 ⟨rfl, hb, gb⟩
      have A6 := Lib.hid hb
      have G6 := Lib.hid (Qt.grow_new (only_drewN G4.out 1) gb LA.out)
      have X6 := Lib.hid ((X4.out.drewN 1).only gb (fun e => by injection e with e; exact LX.out.2 e.symm))
      have R6 := Lib.hid ((R4.out.drewN 1).only gb (.inr (fun e => (O4.out _ e).2.1 rfl)))
      clear hb gb
      refine hK.out _ _ (trivial) (fun hHeld => ?_)
      clear hK K
      try simp only [Act.put, List.setIfInBounds_toArray, List.set_cons_zero, List.set_cons_succ]
      have HA := Lib.hid (fun (dd : Nat) (os : Array Obj) => A6.out.only (Qt.grow_of (below_regrown w6 dd os)) (show some ba ≠ none by simp))
      have H1 := Lib.hid (fun (dd : Nat) (os : Array Obj) => show Calls Try.prog 15 #[.pointer (some ⟨ba, 0, none⟩), .int .i64 dx] (grow (redrawn w6 dd) os) fun e w' => e = .returned (.int .i64 (Qt.tot n s3 dx)) ∧ Below (grow (redrawn w6 dd) os).heap.size (grow (redrawn w6 dd) os) w' from
        (Qt.tot_any dx _ (HA.out dd os)).mono fun e w' h => ⟨h.1, h.2 ▸ Below.refl _ _⟩)
      have H2 := Lib.hid (fun (dd : Nat) (os : Array Obj) => show Calls Try.prog 17 #[.pointer (some ⟨ba, 0, none⟩), .int .i64 dx] (grow (redrawn w6 dd) os) fun e w' => e = .returned (.int .i64 (Qt.ref n s3 dx)) ∧ Below (grow (redrawn w6 dd) os).heap.size (grow (redrawn w6 dd) os) w' from
        (Qt.ref_any dx _ (HA.out dd os)).mono fun e w' h => ⟨h.1, h.2 ▸ Below.refl _ _⟩)
      have H3 := Lib.hid (fun (dd : Nat) (os : Array Obj) => show Calls Try.prog 14 #[.pointer (some ⟨ba, 0, none⟩)] (grow (redrawn w6 dd) os) fun e w' => e = .returned (.int .i64 s3.fr) ∧ Below (grow (redrawn w6 dd) os).heap.size (grow (redrawn w6 dd) os) w' from
        (Qt.frame_any _ (HA.out dd os)).mono fun e w' h => ⟨h.1, h.2 ▸ Below.refl _ _⟩)
      have H4 := Lib.hid (fun (dd : Nat) (os : Array Obj) => show Calls Try.prog 16 #[.agg #[.int .i64 f, .slice A n c, .int .i64 s3.fr, .slice A3 L3.length c3], .int .i64 (-1), .int .i64 dx, .bool true] (grow (redrawn w6 dd) os) fun e w' => e = .returned (.int .i64 (Qt.tot n s3 dx)) ∧ Below (grow (redrawn w6 dd) os).heap.size (grow (redrawn w6 dd) os) w' from by
        rw [RJ3.out.tot dx]
        exact Qt.count_any _ _ _ _ _ _ _ L3 _ (by have := HL3.out; have := KK.out; omega) (R6.out.grown (Qt.grow_of (below_regrown w6 dd os))))
      have H5 := Lib.hid (fun (dd : Nat) (os : Array Obj) => show Calls Try.prog 16 #[.agg #[.int .i64 f, .slice A n c, .int .i64 s3.fr, .slice A3 L3.length c3], .int .i64 (-1), .int .i64 dx, .bool false] (grow (redrawn w6 dd) os) fun e w' => e = .returned (.int .i64 (Qt.ref n s3 dx)) ∧ Below (grow (redrawn w6 dd) os).heap.size (grow (redrawn w6 dd) os) w' from by
        rw [RJ3.out.ref dx]
        exact Qt.count_any _ _ _ _ _ _ _ L3 _ (by have := HL3.out; have := KK.out; omega) (R6.out.grown (Qt.grow_of (below_regrown w6 dd os))))
      generalize Qt.tot n s3 dx = zt at H1 H4
      generalize Qt.ref n s3 dx = zr at H2 H5
      obtain ⟨b0, b1, b2, b3⟩ := Qt.box4c X6.out
      have b0r := fun d os => cell_regrown b0 d os
      have b1r := fun d os => cell_regrown b1 d os
      have b2r := fun d os => cell_regrown b2 d os
      have b3r := fun d os => cell_regrown b3 d os
      clear b0 b1 b2 b3 HA
      refine Zz.quiet_rest (fun w' => ∃ p : Regrown, w' = grow (redrawn w6 p.d) p.os) 5 (by kernel_rfl) (by kernel_rfl) (by kernel_rfl) ⟨⟨w6.drawn, #[]⟩, by rw [grow_empty]; rfl⟩ (fun _ _ => trivial) ?_
      simp only [List.drop_succ_cons, List.drop_zero]
      repeat (quiet_step ((first
        | (go_at_call 15; with_reducible exact Calls.regrown_of (H1.out _ _))
        | (go_at_call 17; with_reducible exact Calls.regrown_of (H2.out _ _))
        | (go_at_call 14; with_reducible exact Calls.regrown_of (H3.out _ _))
        | (go_at_call 16; with_reducible exact Calls.regrown_of (H4.out _ _))
        | (go_at_call 16; with_reducible exact Calls.regrown_of (H5.out _ _)))))
      refine wpQuiet_nil ?_
      rintro _ ⟨⟨dq, osq⟩, rfl⟩
      have GQ := Lib.hid (Qt.grow_of (below_regrown w6 dq osq))
      clear b0r b1r b2r b3r H1 H2 H3 H4 H5
      generalize grow (redrawn w6 dq) osq = w7 at GQ ⊢
      go_wp2
      go_roundw
      case rel => exact ⟨j + 1, s3, L3, A3, c3, by go_num, KK.out, HL3, Lib.hid (A6.out.only GQ.out (by simp)), Lib.hid (X6.out.only GQ.out (by simp)), Lib.hid (R6.out.grown GQ.out), O4, RI3, RJ3, Lib.hid (only_trans G6.out GQ.out)⟩
      case measure =>
        have := KK.out
        simp [intOf]
        omega
theorem Qt.plays_walk (f : Int) (A B : Option Addr) (n c k cb : Nat) (d : Nat → Int) (l : Nat → Qt.Ak) (w : World) (hnc : n ≤ c) (hcm : c ≤ 9223372036854775807) (hd : Qt.NumL w A n d) (hl : Qt.AskL w B k l) (hk : k ≤ 9223372036854775807) : Calls Try.prog 3 #[.int .i64 f, .slice A n c, .slice B k cb] w fun e w' => e = .returned (.bool true) ∧ Below w.heap.size w w' := by
  by_cases h12 : 12 < n
  · rcases Qt.new_ways f A 12 c d w (hd.cut (by omega)) with ⟨z, hz, hN, hC⟩ | ⟨_, _, _, _, h, _⟩
    · exact Qt.plays_err f A n 12 c B k cb d w (.inl ⟨rfl, h12⟩) hnc hcm z hz hN hC
    · omega
  · rcases Qt.new_ways f A n c d w hd with ⟨z, hz, hN, hC⟩ | ⟨f', rfl, h1, h2, h3, h4⟩
    · exact Qt.plays_err f A n n c B k cb d w (.inr ⟨rfl, h12⟩) hnc hcm z hz hN hC
    · exact Qt.plays_ok f' n c A B k cb d l w h1 h2 h3 hnc hcm hd h4 hl hk
end Go.Proofs.Yticmgkdhdfkpeaa

/- The laws of quota, as1 their last texts call them. -/
namespace Go.Proofs.Yticmgkdhdfkpeaa
open Go.RowKit Go.Lib
set_option linter.unusedVariables false

theorem Qt.plays_run (f : Int) (A : Option Addr) (n c : Nat) (d : Nat → Int) (B : Option Addr) (k cb : Nat) (l : Nat → Qt.Ak) (w : World) (hi : fitI f) (hd : Qt.NumL w A n d) (hf : ∀ i, i < n → fitI (d i)) (hnc : n ≤ c) (hcm : c ≤ 9223372036854775807) (hl : Qt.AskL w B k l) (hg : ∀ i, i < k → Qt.Fit (l i)) (hkc : k ≤ cb) (hkm : cb ≤ 9223372036854775807) : Calls Try.prog 3 #[.int .i64 f, .slice A n c, .slice B k cb] w fun e w' => e = .returned (.bool true) ∧ Below w.heap.size w w' := Qt.plays_walk f A B n c k cb d l w hnc hcm hd hl (by omega)
theorem Qt.holds_run (f : Int) (A : Option Addr) (n c : Nat) (d : Nat → Int) (B : Option Addr) (k cb : Nat) (l : Nat → Qt.Ak) (w : World) (hi : fitI f) (hd : Qt.NumL w A n d) (hf : ∀ i, i < n → fitI (d i)) (hnc : n ≤ c) (hcm : c ≤ 9223372036854775807) (hl : Qt.AskL w B k l) (hg : ∀ i, i < k → Qt.Fit (l i)) (hkc : k ≤ cb) (hkm : cb ≤ 9223372036854775807) : Calls Try.prog 4 #[.int .i64 f, .slice A n c, .slice B k cb] w fun e w' => e = .returned (.bool true) ∧ Below w.heap.size w w' := Qt.holds_walk f A B n c k cb d l w hnc hcm hd hl (by omega)
theorem Qt.forks_run (f : Int) (A : Option Addr) (n c : Nat) (d : Nat → Int) (B : Option Addr) (k cb : Nat) (l : Nat → Qt.Ak) (w : World) (hi : fitI f) (hd : Qt.NumL w A n d) (hf : ∀ i, i < n → fitI (d i)) (hnc : n ≤ c) (hcm : c ≤ 9223372036854775807) (hl : Qt.AskL w B k l) (hg : ∀ i, i < k → Qt.Fit (l i)) (hkc : k ≤ cb) (hkm : cb ≤ 9223372036854775807) : Calls Try.prog 6 #[.int .i64 f, .slice A n c, .slice B k cb] w fun e w' => e = .returned (.bool true) ∧ Below w.heap.size w w' := Qt.forks_walk f A B n c k cb d l w hnc hcm hd hl (by omega)
theorem Qt.apart_run (f : Int) (A : Option Addr) (n c : Nat) (d : Nat → Int) (ow : Int) (B : Option Addr) (k cb : Nat) (l : Nat → Qt.Ak) (w : World) (hi : fitI f) (hd : Qt.NumL w A n d) (hf : ∀ i, i < n → fitI (d i)) (hnc : n ≤ c) (hcm : c ≤ 9223372036854775807) (ho : fitI ow) (hl : Qt.AskL w B k l) (hg : ∀ i, i < k → Qt.Fit (l i)) (hkc : k ≤ cb) (hkm : cb ≤ 9223372036854775807) : Calls Try.prog 5 #[.int .i64 f, .slice A n c, .int .i64 ow, .slice B k cb] w fun e w' => e = .returned (.bool true) ∧ Below w.heap.size w w' := Qt.apart_walk f ow A B n c k cb d l w hnc hcm hd hl (by omega)
end Go.Proofs.Yticmgkdhdfkpeaa

/- QuotaApart: what others use plays no part: with and without it an owner gets the same: for every number of ticks, quotas, owner and askings the law returns true. -/
namespace Go.Proofs.Yticmgkdhdfkpeaa
open Go.RowKit Go.Lib Go.ChangeShapes Go.WideShapes Go.ChangeAt Go.Deep Go.Joins
open Go.ChangeMaps (open_string shut_string)
set_option linter.unusedVariables false

theorem QAPP_own : ownKnob Try.prog.godebug = none := by kernel_rfl
theorem QAPP_laid : laidOutB Try.prog = true := by kernel_rfl
set_option maxRecDepth 100000 in
theorem QAPP_lifted (os : Os) (started : os.Started) (H : Type) (enc : TypeId × Value → H) :
    ReturnsInHanded {} Try.checked os 5 .any (Rows.quotaApartSpec.pre6 enc Try.prog Try.f5 Rows.quotaApartRow.domain false) (Rows.quotaApartSpec.post enc Try.prog Try.f5 false true false false) := by
  refine returnsInHanded_of_change (C := Try.checked) QAPP_own started (by kernel_rfl) Try.func5
    (ChangeSpec.witness6 (enc := enc) (C := Try.checked) false ⟨#[], #[.int .i64 0, .slice none 0 0, .int .i64 0, .slice none 0 0], []⟩ 8 (by kernel_rfl) (by kernel_rfl) (by kernel_rfl) (by kernel_rfl)) ?_
  intro W base args ds gs before hval0 hW hcnd _
  have hval : ∀ (j : Nat) t v, Try.f5.params[j]? = some t → args[j]? = some v → Value.okWide Try.prog W .any base t v := hval0
  have hW' := hW
  obtain ⟨p, q, hA0, hV, rfl, hfz, hnd⟩ := hW
  have hA : DataW.TrodAll enc Try.prog W 0 (fun _ => true) true Try.f5.params.toList args.toList ds p := hA0
  rw [Try.params5] at hA hval
  obtain ⟨v0, vs0, d0, ds0, p0, q0, hargs, rfl, rfl, h0, r0⟩ := trodAll_cons hA
  obtain ⟨v1, vs1, d1, ds1, p1, q1, rfl, rfl, rfl, h1, r1⟩ := trodAll_cons r0
  obtain ⟨v2, vs2, d2, ds2, p2, q2, rfl, rfl, rfl, h2, r2⟩ := trodAll_cons r1
  obtain ⟨v3, vs3, d3, ds3, p3, q3, rfl, rfl, rfl, h3, r3⟩ := trodAll_cons r2
  obtain ⟨rfl, rfl, rfl⟩ := trodAll_nil r3
  obtain rfl : args = #[v0, v1, v2, v3] := by cases args; simp_all
  obtain ⟨rfl, rfl⟩ := trodVars_none hV
  obtain ⟨a0, rfl, rfl, rfl, w0⟩ := open_int Try.underlying3 (hval 0 3 v0 rfl rfl) h0
  obtain ⟨A1, len1, cap1, rfl⟩ := okWide_slice Try.underlying22 (hval 1 22 v1 rfl rfl)
  have k1 := h1
  have lt1 : ∀ x ∈ p1, x.block < W.heap.size := by obtain ⟨m, hm⟩ := k1; exact DataW.trod_lt m _ _ _ hm
  obtain ⟨fuel1, hf1⟩ := h1
  obtain ⟨hlc1, hcm1, D1, hst1, hfit1⟩ := Qt.open_nums (by simpa [Value.cells] using hf1)
  obtain ⟨a2, rfl, rfl, rfl, w2⟩ := open_int Try.underlying3 (hval 2 3 v2 rfl rfl) h2
  obtain ⟨A3, len3, cap3, rfl⟩ := okWide_slice Try.underlying23 (hval 3 23 v3 rfl rfl)
  have k3 := h3
  have lt3 : ∀ x ∈ p3, x.block < W.heap.size := by obtain ⟨m, hm⟩ := k3; exact DataW.trod_lt m _ _ _ hm
  obtain ⟨fuel3, hf3⟩ := h3
  obtain ⟨hlc3, hcm3, D3, hst3, hfit3⟩ := Qt.open_asks (by simpa [Value.cells] using hf3)
  clear hA0 hval0
  refine (Qt.apart_run a0 A1 len1 cap1 D1 a2 A3 len3 cap3 D3 W (fitI_of w0) hst1 hfit1 hlc1 hcm1 (fitI_of w2) hst3 hfit3 hlc3 hcm3).mono fun e W' ⟨he, bel⟩ => ?_
  subst he
  exact ⟨_, rfl, _, _, _, [], _, [], hW', trodAll_mk1 (shut_bool Try.underlying4 _), (trodAll_cons_mk (shut_int Try.underlying3 w0) (trodAll_cons_mk (Below.trod QAPP_laid (by kernel_rfl) (of_decide_eq_true (by kernel_rfl)) k1 bel lt1) (trodAll_cons_mk (shut_int Try.underlying3 w2) (trodAll_cons_mk (Below.trod QAPP_laid (by kernel_rfl) (of_decide_eq_true (by kernel_rfl)) k3 bel lt3) trodAll_mk0)))), rfl, bel.frame _, fun h => by cases h⟩

theorem QAPP_holds : Rows.QuotaApartSaid :=
  OpenClaim.holds_of_wide 5 Try.f5 rfl rfl rfl rfl rfl rfl rfl ⟨rfl, rfl, rfl, rfl, rfl⟩ rfl rfl rfl rfl rfl (by kernel_rfl) Try.func5 (by kernel_rfl)
    (of_decide_eq_true (by kernel_rfl)) (by unfold Func.isWrapper; first | (rw [if_pos (by decide +kernel)]; kernel_rfl) | (rw [if_neg (by decide +kernel)]; exact ⟨rfl, rfl⟩))
    (fun os started H enc _ => QAPP_lifted os started H enc)
#print axioms QAPP_holds
end Go.Proofs.Yticmgkdhdfkpeaa
