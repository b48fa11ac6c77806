import Derived.Test.YticmgkdhdfkpeaaZ04
import Derived.Deep.RegionHeld
import Derived.OrdersHeld
import Derived.Deep.QuietTactic
set_option linter.all false
/- QuotaHolds walked. -/
namespace Go.Proofs.Yticmgkdhdfkpeaa
open Go.RowKit Go.Lib Go.Sort
set_option linter.unusedVariables false
set_option maxRecDepth 8000

theorem Qt.Inv1.use2 {f n : Nat} {s : Qt.St} {l : List Qt.En} (h : Qt.Inv1 n s l) (Q : Nat → Nat) (t o : Int) (hr : (Qt.use f n Q s t o).2 = false) : Qt.Inv1 n (Qt.use f n Q s t o).1 l := by
  unfold Qt.use at hr ⊢
  split
  · rename_i hk
    rw [if_pos hk] at hr
    exact h.go2 Q hk.2.2.2.2 _ hr
  · exact h
theorem Qt.use_true {f n : Nat} {s : Qt.St} (Q : Nat → Nat) (t o : Int) (hr : (Qt.use f n Q s t o).2 = true) : ∃ i p : Nat, o = (i : Int) + 1 ∧ i < n ∧ t / f = p ∧ s.fr ≤ p ∧ 0 ≤ t ∧ t ≤ 2147483647 ∧ (Qt.use f n Q s t o).1 = (Qt.go Q s p i).1 ∧ (Qt.go Q s p i).2 = true := by
  unfold Qt.use at hr ⊢
  by_cases hk : Qt.ok f n s.fr t o
  · rw [if_pos hk] at hr
    obtain ⟨i, p, e, hi, hp, hfr, e1, e2⟩ := Qt.split hk
    rw [e1, e2] at hr
    exact ⟨i, p, e, hi, hp, hfr, hk.2.2.1, hk.2.2.2.1, by rw [if_pos hk, e1, e2], hr⟩
  · rw [if_neg hk] at hr
    cases hr
/-- One more of what was used. -/
theorem Qt.used_app {W : World} {A : Option Addr} {c : Nat} {l : List Qt.En} (h : RowZ 3 W (.slice A l.length c) l.length (Qt.enL l)) (hl : l.length ≤ 1000) (p o : Int) (b : Bool) : ∃ A2 c2 W4, (Builtin.append_ #[30, 30] 30 #[.slice A l.length c, .slice (some ⟨W.heap.size, 0, none⟩) 1 1]).run Try.prog (W.alloc (.cells #[.int .i64 p, .int .i64 o, .bool b] 45)) = .ok (.slice A2 (l.length + 1) c2) W4 ∧ RowZ 3 W4 (.slice A2 (l.length + 1) c2) (l.length + 1) (Qt.enL (l ++ [(p, o, b)])) ∧ W.grownBy W4 (Value.slice A l.length c).ownBlock ∧ ∀ i, (Value.slice A2 (l.length + 1) c2).ownBlock = some i → (Value.slice A l.length c).ownBlock = some i ∨ W.heap.size ≤ i := by
  obtain ⟨i0, hi0, hz0, hz1, hz2⟩ := Qt.parts Qt.used_info
  have hsrc : Src Try.prog 3 30 (.slice (some ⟨W.heap.size, 0, none⟩) 1 1) 1 (Qt.enC (p, o, b)) (W.alloc (.cells #[.int .i64 p, .int .i64 o, .bool b] 45)) := Src.ofSlice _ Try.underlying30 _ _ _ _ rfl (by
    intro j u hj
    rw [addr_at, (Blk.new W 45 #[.int .i64 p, .int .i64 o, .bool b]).cell, Nat.zero_add]
    simpa [Qt.enC] using hj) (by simp [Qt.enC, Value.oneCell'])
  obtain ⟨v', W4, hk, hr, hg, ho⟩ := run_pushZ (P := Try.prog) _ 30 45 30 i0 _ 24 Try.underlying30 hi0 hz0 hz1 hz2 (by omega) rfl _ _ _ (h.alloc (.cells #[.int .i64 p, .int .i64 o, .bool b] 45)) (Qt.enL_cell l) _ _ hsrc (by omega)
  obtain ⟨A2, c2, rfl⟩ := hr.form
  refine ⟨A2, c2, W4, hk, by rw [Qt.enL_app, Qt.enL_one]; exact hr, only_trans (only_any (only_alloc (only_refl W none) _) _) hg, fun i hi => ?_⟩
  rcases ho with ho | ho
  · rw [ho] at hi; exact .inl hi
  · rw [ho] at hi; injection hi with hi; exact .inr (by simp at hi; omega)
theorem Qt.grow_row {w w' w2 : World} {q : Option Nat} (h : w.grownBy w' none) (g : w'.grownBy w2 q) (hq : ∀ i, q = some i → w.heap.size ≤ i) : w.grownBy w2 none := by
  cases q with
  | none => exact only_trans h g
  | some b => exact Qt.grow_new h g (hq b rfl)
set_option maxRecDepth 20000 in
set_option maxHeartbeats 6400000 in
theorem Qt.holds_err (f : Int) (A : Option Addr) (n m c : Nat) (B : Option Addr) (k cb : Nat) (d : Nat → Int) (w : World) (hm : (m = 12 ∧ 12 < n) ∨ (m = n ∧ ¬ 12 < n)) (hnc : n ≤ c) (hcm : c ≤ 9223372036854775807) (z : Int) (hz : z ≠ 0) (hN : ∀ W, w.grownBy W none → Calls Try.prog 7 #[.int .i64 f, .slice A m c] W fun e w' => e = .returned (.tuple #[.pointer none, .int .i64 z]) ∧ W.grownBy w' none) (hC : ∀ W, w.grownBy W none → Calls Try.prog 8 #[.int .i64 f, .slice A m c] W fun e w' => e = .returned (.int .i64 z) ∧ W = w') : Calls Try.prog 4 #[.int .i64 f, .slice A n c, .slice B k cb] w fun e w' => e = .returned (.bool true) ∧ Below w.heap.size w w' := by
  have HN := Lib.hid hN
  have HC := Lib.hid hC
  have hz1 : (z != 0) = true := by simpa using hz
  have hz2 : (z == 0) = false := by simpa using hz
  have hz3 : (z == z) = true := by simp
  clear hN hC hz
  rcases hm with ⟨rfl, hm⟩ | ⟨rfl, hm⟩
  · have i1 : (12 : Int) < (n : Int) := by omega
    have i2 : (12 : Int) ≤ (c : Int) := by omega
    have i3 : min (n : Int) 12 = 12 := by omega
    clear hm hnc
    go_enter Try.func4, Try.ntmps4
    go_wp2_with (first
      | (go_at_call 7; ((with_reducible refine (HN.out _ (only_refl _ none)).mono ?_); rintro e w1 ⟨rfl, g1⟩; have G2 := Lib.hid g1; clear g1))
      | (go_at_call 8; first | ((with_reducible refine (HC.out _ G3.out).mono ?_); rintro e w4 ⟨rfl, rfl⟩) | ((with_reducible refine (HC.out _ G2.out).mono ?_); rintro e w4 ⟨rfl, rfl⟩))
      | (go_at_call 9; (with_reducible refine (Qt.live_any _).mono ?_); rintro e w3 ⟨rfl, g3⟩; have G3 := Lib.hid (only_trans G2.out g3); clear g3))
    go_ret
    exact ⟨by first | rfl | (simp; done), Qt.bel G3.out⟩
  · have i1 : ¬ (12 : Int) < (m : Int) := by omega
    have i2 : (m : Int) ≤ (c : Int) := by omega
    have i3 : min (m : Int) 12 = m := by omega
    clear hm hnc
    go_enter Try.func4, Try.ntmps4
    go_wp2_with (first
      | (go_at_call 7; ((with_reducible refine (HN.out _ (only_refl _ none)).mono ?_); rintro e w1 ⟨rfl, g1⟩; have G2 := Lib.hid g1; clear g1))
      | (go_at_call 8; first | ((with_reducible refine (HC.out _ G3.out).mono ?_); rintro e w4 ⟨rfl, rfl⟩) | ((with_reducible refine (HC.out _ G2.out).mono ?_); rintro e w4 ⟨rfl, rfl⟩))
      | (go_at_call 9; (with_reducible refine (Qt.live_any _).mono ?_); rintro e w3 ⟨rfl, g3⟩; have G3 := Lib.hid (only_trans G2.out g3); clear g3))
    go_ret
    exact ⟨by first | rfl | (simp; done), Qt.bel G3.out⟩
set_option maxRecDepth 20000 in
set_option maxHeartbeats 12800000 in
theorem Qt.holds_ok (f n c : Nat) (A B : Option Addr) (k cb : Nat) (d : Nat → Int) (l : Nat → Qt.Ak) (w : World) (f1 : 1 ≤ f) (f2 : f ≤ 4096) (hn : n ≤ 8) (hnc : n ≤ c) (hcm : c ≤ 9223372036854775807) (hd : Qt.NumL w A n d) (hf : Qt.fine d n) (hl : Qt.AskL w B k l) (hk : k ≤ 9223372036854775807) : Calls Try.prog 4 #[.int .i64 f, .slice A n c, .slice B k cb] w fun e w' => e = .returned (.bool true) ∧ Below w.heap.size w w' := by
  have HN := Lib.hid (Qt.new_ok f A n c d w f1 f2 hn hd hf)
  have HD := Lib.hid hl
  have HQ := Lib.hid hd
  have HF := Lib.hid (show 1 ≤ f ∧ n ≤ 8 from ⟨f1, hn⟩)
  have HFN := Lib.hid hf
  have i1 : ¬ (12 : Int) < (n : Int) := by omega
  have i2 : (n : Int) ≤ (c : Int) := by omega
  have i3 : min (n : Int) 12 = n := by omega
  clear f1 f2 hn hnc hd hf hl
  go_enter Try.func4, Try.ntmps4
  go_wp2_with (go_at_call 7; ((with_reducible refine HN.out.mono ?_); rintro e w1 ⟨ba, rfl, hb1, aa, g1⟩; have A1 := Lib.hid aa; have G1 := Lib.hid g1; have LA := Lib.hid hb1; clear g1 aa hb1))
  clear HN i1 i2 i3
  go_loopw [9, 10] (fun x y wr => ∃ (j : Nat) (s : Qt.St) (L : List Qt.En) (A2 : Option Addr) (c2 : Nat), x = .slice A2 L.length c2 ∧ y = .int .i64 j ∧ j ≤ 60 ∧ Hid (L.length ≤ j) ∧ Hid (Qt.Acc wr ba f n (Qt.mix d n) s j) ∧ Hid (RowZ 3 wr (.slice A2 L.length c2) L.length (Qt.enL L)) ∧ Hid (∀ i, (Value.slice A2 L.length c2).ownBlock = some i → w.heap.size ≤ i ∧ i ≠ ba) ∧ Hid (Qt.Inv1 n s L) ∧ Hid (w.grownBy wr none)) (fun _ y _ => 60 - (intOf y).toNat)
  case atStart => exact ⟨0, Qt.s0, [], none, 0, rfl, rfl, by omega, Lib.hid (Nat.zero_le _), A1, Lib.hid (RowZ.nil 3 _), Lib.hid (fun i hi => by simp [Value.ownBlock] at hi), Lib.hid (Qt.Inv1.nil n), G1⟩
  case round =>
    obtain ⟨j, s, L, A2, c2, rfl, rfl, hj6, HLL, RA, RR, RO, RI, RW⟩ := hrel
    clear A1 G1
    by_cases hin : j < k ∧ j < 60
    case neg =>
      have key : (¬ (j : Int) < (k : Int)) ∨ ((j : Int) < (k : Int) ∧ ¬ (j : Int) < 60) := by omega
      clear hin
      rcases key with i1 | ⟨i1, i2⟩
      all_goals
        go_wp2_with (go_at_call 9; (with_reducible refine (Qt.live_any _).mono ?_); rintro e w3 ⟨rfl, g3⟩; have G3 := Lib.hid (only_trans RW.out g3); clear g3)
        go_ret
        exact ⟨by first | rfl | (simp; done), Qt.bel G3.out⟩
    case pos =>
      obtain ⟨h1, h2⟩ := hin
      obtain ⟨g, off, rfl, hg, hc⟩ := HD.out (by omega)
      have HC := Lib.hid (show ∀ W, w.grownBy W none → W.cell? ⟨g, off + j * 2, none⟩ = some (.int .i64 (l j).1) ∧ W.cell? ⟨g, off + j * 2 + 1, none⟩ = some (.int .i64 (l j).2) from fun W gg => by
        have hb := gg.block g hg (by simp)
        rw [← (hc j h1).1, ← (hc j h1).2]
        simp only [World.cell?, hb]
        exact ⟨trivial, trivial⟩)
      have i1 : (j : Int) < (k : Int) := by omega
      have i3 : (0 : Int) ≤ (j : Int) := by omega
      have u1 : IntKind.i64.wrap ((j : Int) + 1) = ((j + 1 : Nat) : Int) := by rw [IntKind.wrap_i64]; omega
      have HJ := Lib.hid (show j ≤ 100000 by omega)
      have i2 : (j : Int) < 60 := by omega
      have KK := Lib.hid (show j + 1 ≤ 60 by omega)
      clear hc hg h1 h2 HD
      generalize (l j).1 = dt at *
      generalize (l j).2 = dx at *
      obtain ⟨c0, c1⟩ := HC.out wr RW.out
      have HUSE := Lib.hid (Qt.use_any dx dt wr.drew (show Qt.Acc wr.drew ba f n (Qt.mix d n) s j from RA.out.drewN 1) HJ.out)
      go_upto_region 9 with (fail)
      refine wp_region_held_drew (S := fun W => W.cell? ⟨g, off + j * 2, none⟩ = some (.int .i64 dt) ∧ W.cell? ⟨g, off + j * 2 + 1, none⟩ = some (.int .i64 dx)) (by kernel_rfl) (HC.out _ (only_drewN RW.out 1)) (fun hHeld => ?_)
      refine wpAnyH_take (i := 0) (oi := _) (v := ?_) rfl (by kernel_rfl) (by kernel_rfl) (by kernel_rfl) (fun _ _ _ h => h) (Or.inl ⟨by rfl, ?_⟩) (by assumption) ?_
      case refine_2 => intro w hSw; (try dsimp only at hSw); go_simp; try with_reducible rfl
      try simp only [Act.put, List.setIfInBounds_toArray, List.set_cons_zero, List.set_cons_succ]
      refine wpAnyH_take (i := 1) (oi := _) (v := ?_) rfl (by kernel_rfl) (by kernel_rfl) (by kernel_rfl) (fun _ _ _ h => h) (Or.inl ⟨by rfl, ?_⟩) (by assumption) ?_
      case refine_2 => intro w hSw; (try dsimp only at hSw); go_simp; try with_reducible rfl
      try simp only [Act.put, List.setIfInBounds_toArray, List.set_cons_zero, List.set_cons_succ]
      refine wpAnyH_take (i := 2) (oi := _) (v := ?_) rfl (by kernel_rfl) (by kernel_rfl) (by kernel_rfl) (fun _ _ _ h => h) (Or.inl ⟨by rfl, ?_⟩) (by assumption) ?_
      case refine_2 => intro w hSw; (try dsimp only at hSw); go_simp; try with_reducible rfl
      try simp only [Act.put, List.setIfInBounds_toArray, List.set_cons_zero, List.set_cons_succ]
      refine wpAnyH_take (i := 3) (oi := _) (v := ?_) rfl (by kernel_rfl) (by kernel_rfl) (by kernel_rfl) (fun _ _ _ h => h) (Or.inl ⟨by rfl, ?_⟩) (by assumption) ?_
      case refine_2 => intro w hSw; (try dsimp only at hSw); go_simp; try with_reducible rfl
      try simp only [Act.put, List.setIfInBounds_toArray, List.set_cons_zero, List.set_cons_succ]
      refine wpAnyH_take (i := 4) (oi := _) (v := ?_) rfl (by kernel_rfl) (by kernel_rfl) (by kernel_rfl) (fun _ _ _ h => h) (Or.inl ⟨by rfl, ?_⟩) (by assumption) ?_
      case refine_2 => intro w hSw; (try dsimp only at hSw); go_simp; try with_reducible rfl
      try simp only [Act.put, List.setIfInBounds_toArray, List.set_cons_zero, List.set_cons_succ]
      refine wpAnyH_take (i := 5) (oi := _) (v := ?_) rfl (by kernel_rfl) (by kernel_rfl) (by kernel_rfl) (fun _ _ _ h => h) (Or.inl ⟨by rfl, ?_⟩) (by assumption) ?_
      case refine_2 => intro w hSw; (try dsimp only at hSw); go_simp; try with_reducible rfl
      try simp only [Act.put, List.setIfInBounds_toArray, List.set_cons_zero, List.set_cons_succ]
      refine wpAnyH_take (i := 6) (oi := _) (v := ?_) rfl (by kernel_rfl) (by kernel_rfl) (by kernel_rfl) (fun _ _ _ h => h) (Or.inl ⟨by rfl, ?_⟩) (by assumption) ?_
      case refine_2 => intro w hSw; (try dsimp only at hSw); go_simp; try with_reducible rfl
      try simp only [Act.put, List.setIfInBounds_toArray, List.set_cons_zero, List.set_cons_succ]
      refine wpAnyH_take (i := 7) (oi := _) (v := ?_) rfl (by kernel_rfl) (by kernel_rfl) (by kernel_rfl) (fun _ _ _ h => h) (Or.inl ⟨by rfl, ?_⟩) (by assumption) ?_
      case refine_2 => intro w hSw; (try dsimp only at hSw); go_simp; try with_reducible rfl
      try simp only [Act.put, List.setIfInBounds_toArray, List.set_cons_zero, List.set_cons_succ]
      refine wpAnyH_take (i := 8) (oi := _) (v := ?_) rfl (by kernel_rfl) (by kernel_rfl) (by kernel_rfl) (fun _ _ _ h => h) (Or.inl ⟨by rfl, ?_⟩) (by assumption) ?_
      case refine_2 => intro w hSw; (try dsimp only at hSw); go_simp; try with_reducible rfl
      try simp only [Act.put, List.setIfInBounds_toArray, List.set_cons_zero, List.set_cons_succ]
      refine wpAnyH_take (i := 9) (oi := _) (v := ?_) rfl (by kernel_rfl) (by kernel_rfl) (by kernel_rfl) (fun _ _ _ h => h) (Or.inl ⟨by rfl, ?_⟩) (by assumption) ?_
      case refine_2 => intro w hSw; (try dsimp only at hSw); go_simp; try with_reducible rfl
      try simp only [Act.put, List.setIfInBounds_toArray, List.set_cons_zero, List.set_cons_succ]
      refine wpAnyH_take (i := 10) (oi := _) (v := ?_) rfl (by kernel_rfl) (by kernel_rfl) (by kernel_rfl) (fun _ _ _ h => h) (Or.inl ⟨by rfl, ?_⟩) (by assumption) ?_
      case refine_2 => intro w hSw; (try dsimp only at hSw); go_simp; try with_reducible rfl
      try simp only [Act.put, List.setIfInBounds_toArray, List.set_cons_zero, List.set_cons_succ]
      refine wpAnyH_ready (rs := [11]) (by kernel_rfl) (by simp) ?_
      refine AllReadyH.cons (o := _) rfl (fun K hK => ?_) AllReadyH.nil
      go_simp
      go_at_call 13
      (with_reducible refine HUSE.out.mono ?_)
      rintro e2 w2 ⟨rfl, ha, ga⟩
      have A2' := Lib.hid ha
      have G2 := Lib.hid (Qt.grow_new (only_drewN RW.out 1) ga LA.out)
      have R2 := Lib.hid ((RR.out.drewN 1).only ga (.inr (fun e => (RO.out _ e).2 rfl)))
      clear ha ga
      refine hK.out _ _ (HC.out _ G2.out) (fun hHeld => ?_)
      clear hK K
      try simp only [Act.put, List.setIfInBounds_toArray, List.set_cons_zero, List.set_cons_succ]
      refine wpAnyH_take (i := 12) (oi := _) (v := ?_) rfl (by kernel_rfl) (by kernel_rfl) (by kernel_rfl) (fun _ _ _ h => h) (Or.inl ⟨by rfl, ?_⟩) (by assumption) ?_
      case refine_2 => intro w hSw; (try dsimp only at hSw); go_simp; try with_reducible rfl
      try simp only [Act.put, List.setIfInBounds_toArray, List.set_cons_zero, List.set_cons_succ]
      refine wpAnyH_done (by kernel_rfl) ?_ _
      clear c0 c1
      obtain ⟨c0, c1⟩ := HC.out w2 G2.out
      obtain ⟨r, hr⟩ : ∃ r, r = (Qt.use f n (Qt.mix d n) s dt dx).2 := ⟨_, rfl⟩
      rw [← hr]
      cases r
      · have RI2 := Lib.hid (RI.out.use2 (f := f) (Qt.mix d n) dt dx hr.symm)
        clear hr c0 c1
        go_wp2
        go_roundw
        case rel => exact ⟨j + 1, _, L, A2, c2, rfl, by go_num, KK.out, Lib.hid (Nat.le_succ_of_le HLL.out), A2', R2, RO, RI2, G2⟩
        case measure =>
          have := KK.out
          simp [intOf]
          omega
      · obtain ⟨i, p, rfl, hi, hp, hfr, t0, t1, e1, e2⟩ := Qt.use_true (Qt.mix d n) dt dx hr.symm
        have RI2 := Lib.hid (show Qt.Inv1 n (Qt.use f n (Qt.mix d n) s dt ((i : Int) + 1)).1 (L ++ [((p : Int), (i : Int) + 1, true)]) from by
          have := RI.out.go (Qt.mix d n) hfr i
          rw [e2] at this
          rw [e1]
          exact this)
        have hfr2 : (Qt.use f n (Qt.mix d n) s dt ((i : Int) + 1)).1.fr = p := by rw [e1, Qt.go_fr]
        obtain ⟨s2, hs2⟩ : ∃ s2, s2 = (Qt.use f n (Qt.mix d n) s dt ((i : Int) + 1)).1 := ⟨_, rfl⟩
        rw [← hs2] at A2' RI2 hfr2
        have hu := A2'.out.bd.u i hi
        have hcn := RI2.out p i (by omega) hi
        rw [Qt.eff_at s2 hfr2] at hcn
        have hdi := HFN.out i hi
        have hqi : ((Qt.mix d n i : Nat) : Int) = d i := by unfold Qt.mix; rw [if_pos hi]; omega
        have HLE := Lib.hid (show (Qt.cnt (L ++ [((p : Int), (i : Int) + 1, true)]) p ((i : Int) + 1) true : Int) ≤ d i by omega)
        have hq : dt.tdiv (f : Int) = p := by rw [Qt.tdiv t0, hp]
        have hp9 : (p : Int) ≤ 2147483647 := by rw [← hp]; exact Int.le_trans (Int.ediv_le_self _ t0) t1
        have nz2 : ¬ f = 0 := by have := HF.out.1; omega
        have nz : ¬ (f : Int) = 0 := by omega
        have f3 : ¬ (f : Int) < 1 := by omega
        have x1 : ¬ (i : Int) + 1 < 1 := by omega
        have x2 : ¬ (n : Int) < (i : Int) + 1 := by omega
        have up : IntKind.i64.wrap (p : Int) = p := by rw [IntKind.wrap_i64]; omega
        have ui : IntKind.i64.wrap (i : Int) = i := by have := HF.out.2; rw [IntKind.wrap_i64]; omega
        have u2 : (i : Int) < (n : Int) := by omega
        have u3 : (0 : Int) ≤ (i : Int) := by omega
        obtain ⟨gq, oq, rfl, hgq, hcq⟩ := HQ.out (by omega)
        have HCQ := Lib.hid (show ∀ W, w.grownBy W none → W.cell? ⟨gq, oq + i, none⟩ = some (.int .i64 (d i)) from fun W gg => by
          rw [← hcq i hi]
          simp only [World.cell?, gg.block gq hgq (by simp)])
        clear hr e1 e2 hfr hfr2 hu hcn hdi hqi hgq hcq hs2 HQ
        generalize d i = di at *
        have HI := Lib.hid hi
        clear hi
        go_upto_region 12 with (fail)
        obtain ⟨A3, c3, w4, hk4, hr4, hg4, ho4⟩ := Qt.used_app (W := w2.drew) (R2.out.drewN 1) (by have := HLL.out; have := KK.out; omega) (p : Int) ((i : Int) + 1) true
        have HK := Lib.hid hk4
        have R4 := Lib.hid hr4
        have G4 := Lib.hid (Qt.grow_row (only_drewN G2.out 1) hg4 (fun i hi => (RO.out i hi).1))
        have A4 := Lib.hid ((A2'.out.drewN 1).only hg4 (fun e => (RO.out _ e.symm).2 rfl))
        have O4 := Lib.hid (show ∀ i, (Value.slice A3 (L.length + 1) c3).ownBlock = some i → w.heap.size ≤ i ∧ i ≠ ba from fun i hi => by
          rcases ho4 i hi with h | h
          · exact RO.out i h
          · have h5 : w2.heap.size ≤ i := h
            have := A2'.out.blk.lt
            have := G2.out.size
            exact ⟨by omega, by omega⟩)
        clear hk4 hr4 hg4 ho4
        refine wp_region_held_drew (S := fun W => W.cell? ⟨g, off + j * 2, none⟩ = some (.int .i64 dt) ∧ W.cell? ⟨g, off + j * 2 + 1, none⟩ = some (.int .i64 ((i : Int) + 1))) (by kernel_rfl) (HC.out _ (only_drewN G2.out 1)) (fun hHeld => ?_)
        refine wpAnyH_take (i := 0) (oi := _) (v := ?_) rfl (by kernel_rfl) (by kernel_rfl) (by kernel_rfl) (fun _ _ _ h => h) (Or.inl ⟨by rfl, ?_⟩) (by assumption) ?_
        case refine_2 => intro w hSw; (try dsimp only at hSw); go_simp; try with_reducible rfl
        try simp only [Act.put, List.setIfInBounds_toArray, List.set_cons_zero, List.set_cons_succ]
        refine wpAnyH_take (i := 1) (oi := _) (v := ?_) rfl (by kernel_rfl) (by kernel_rfl) (by kernel_rfl) (fun _ _ _ h => h) (Or.inl ⟨by rfl, ?_⟩) (by assumption) ?_
        case refine_2 => intro w hSw; (try dsimp only at hSw); go_simp; try with_reducible rfl
        try simp only [Act.put, List.setIfInBounds_toArray, List.set_cons_zero, List.set_cons_succ]
        refine wpAnyH_take (i := 2) (oi := _) (v := ?_) rfl (by kernel_rfl) (by kernel_rfl) (by kernel_rfl) (fun _ _ _ h => h) (Or.inl ⟨by rfl, ?_⟩) (by assumption) ?_
        case refine_2 => intro w hSw; (try dsimp only at hSw); go_simp; try with_reducible rfl
        try simp only [Act.put, List.setIfInBounds_toArray, List.set_cons_zero, List.set_cons_succ]
        refine wpAnyH_take (i := 3) (oi := _) (v := ?_) rfl (by kernel_rfl) (by kernel_rfl) (by kernel_rfl) (fun _ _ _ h => h) (Or.inl ⟨by rfl, ?_⟩) (by assumption) ?_
        case refine_2 => intro w hSw; (try dsimp only at hSw); go_simp; try with_reducible rfl
        try simp only [Act.put, List.setIfInBounds_toArray, List.set_cons_zero, List.set_cons_succ]
        refine wpAnyH_take (i := 4) (oi := _) (v := ?_) rfl (by kernel_rfl) (by kernel_rfl) (by kernel_rfl) (fun _ _ _ h => h) (Or.inl ⟨by rfl, ?_⟩) (by assumption) ?_
        case refine_2 => intro w hSw; (try dsimp only at hSw); go_simp; try with_reducible rfl
        try simp only [Act.put, List.setIfInBounds_toArray, List.set_cons_zero, List.set_cons_succ]
        refine wpAnyH_take (i := 5) (oi := _) (v := ?_) rfl (by kernel_rfl) (by kernel_rfl) (by kernel_rfl) (fun _ _ _ h => h) (Or.inl ⟨by rfl, ?_⟩) (by assumption) ?_
        case refine_2 => intro w hSw; (try dsimp only at hSw); go_simp; try with_reducible rfl
        try simp only [Act.put, List.setIfInBounds_toArray, List.set_cons_zero, List.set_cons_succ]
        refine wpAnyH_take (i := 6) (oi := _) (v := ?_) rfl (by kernel_rfl) (by kernel_rfl) (by kernel_rfl) (fun _ _ _ h => h) (Or.inl ⟨by rfl, ?_⟩) (by assumption) ?_
        case refine_2 => intro w hSw; (try dsimp only at hSw); go_simp; try with_reducible rfl
        try simp only [Act.put, List.setIfInBounds_toArray, List.set_cons_zero, List.set_cons_succ]
        refine wpAnyH_take (i := 7) (oi := _) (v := ?_) rfl (by kernel_rfl) (by kernel_rfl) (by kernel_rfl) (fun _ _ _ h => h) (Or.inl ⟨by rfl, ?_⟩) (by assumption) ?_
        case refine_2 => intro w hSw; (try dsimp only at hSw); go_simp; try with_reducible rfl
        try simp only [Act.put, List.setIfInBounds_toArray, List.set_cons_zero, List.set_cons_succ]
        refine wpAnyH_take (i := 8) (oi := _) (v := ?_) rfl (by kernel_rfl) (by kernel_rfl) (by kernel_rfl) (fun _ _ _ h => h) (Or.inl ⟨by rfl, ?_⟩) (by assumption) ?_
        case refine_2 => intro w hSw; (try dsimp only at hSw); go_simp; try with_reducible rfl
        try simp only [Act.put, List.setIfInBounds_toArray, List.set_cons_zero, List.set_cons_succ]
        refine wpAnyH_take (i := 9) (oi := _) (v := ?_) rfl (by kernel_rfl) (by kernel_rfl) (by kernel_rfl) (fun _ _ _ h => h) (Or.inl ⟨by rfl, ?_⟩) (by assumption) ?_
        case refine_2 => intro w hSw; (try dsimp only at hSw); go_simp; try with_reducible rfl
        try simp only [Act.put, List.setIfInBounds_toArray, List.set_cons_zero, List.set_cons_succ]
        refine wpAnyH_take (i := 10) (oi := _) (v := ?_) rfl (by kernel_rfl) (by kernel_rfl) (by kernel_rfl) (fun _ _ _ h => h) (Or.inl ⟨by rfl, ?_⟩) (by assumption) ?_
        case refine_2 => intro w hSw; (try dsimp only at hSw); go_simp; try with_reducible rfl
        try simp only [Act.put, List.setIfInBounds_toArray, List.set_cons_zero, List.set_cons_succ]
        refine wpAnyH_take (i := 11) (oi := _) (v := ?_) rfl (by kernel_rfl) (by kernel_rfl) (by kernel_rfl) (fun _ _ _ h => h) (Or.inl ⟨by rfl, ?_⟩) (by assumption) ?_
        case refine_2 => intro w hSw; (try dsimp only at hSw); go_simp; try with_reducible rfl
        try simp only [Act.put, List.setIfInBounds_toArray, List.set_cons_zero, List.set_cons_succ]
        refine wpAnyH_take (i := 12) (oi := _) (v := ?_) rfl (by kernel_rfl) (by kernel_rfl) (by kernel_rfl) (fun _ _ _ h => h) (Or.inl ⟨by rfl, ?_⟩) (by assumption) ?_
        case refine_2 => intro w hSw; (try dsimp only at hSw); go_simp; try with_reducible rfl
        try simp only [Act.put, List.setIfInBounds_toArray, List.set_cons_zero, List.set_cons_succ]
        refine wpAnyH_take (i := 13) (oi := _) (v := ?_) rfl (by kernel_rfl) (by kernel_rfl) (by kernel_rfl) (fun _ _ _ h => h) (Or.inl ⟨by rfl, ?_⟩) (by assumption) ?_
        case refine_2 => intro w hSw; (try dsimp only at hSw); go_simp; try with_reducible rfl
        try simp only [Act.put, List.setIfInBounds_toArray, List.set_cons_zero, List.set_cons_succ]
        refine wpAnyH_ready (rs := [14]) (by kernel_rfl) (by simp) ?_
        refine AllReadyH.cons (o := _) rfl (fun K hK => ?_) AllReadyH.nil
        go_simp
        refine hK.out _ _ (HC.out _ (only_alloc (only_drewN G2.out 1) _)) (fun hHeld => ?_)
        clear hK K
        try simp only [Act.put, List.setIfInBounds_toArray, List.set_cons_zero, List.set_cons_succ]
        refine wpAnyH_ready (rs := [15]) (by kernel_rfl) (by simp) ?_
        refine AllReadyH.cons (o := _) rfl (fun K hK => ?_) AllReadyH.nil
        refine Zz.step_app rfl (.tmp 79) (.tmp 93) 30 rfl HK.out rfl rfl ?_
        refine hK.out _ _ (HC.out _ G4.out) (fun hHeld => ?_)
        clear hK K
        try simp only [Act.put, List.setIfInBounds_toArray, List.set_cons_zero, List.set_cons_succ]
        refine wpAnyH_take (i := 16) (oi := _) (v := ?_) rfl (by kernel_rfl) (by kernel_rfl) (by kernel_rfl) (fun _ _ _ h => h) (Or.inl ⟨by rfl, ?_⟩) (by assumption) ?_
        case refine_2 => intro w hSw; (try dsimp only at hSw); go_simp; try with_reducible rfl
        try simp only [Act.put, List.setIfInBounds_toArray, List.set_cons_zero, List.set_cons_succ]
        refine wpAnyH_done (by kernel_rfl) ?_ _
        clear c0 c1
        obtain ⟨c0, c1⟩ := HC.out w4 G4.out
        have cq := HCQ.out w4 G4.out
        go_upto_region 13 with (fail)
        have hlen : (L ++ [((p : Int), (i : Int) + 1, true)]).length = L.length + 1 := by simp
        have HC3 := Lib.hid (fun (dd : Nat) (os : Array Obj) => Qt.count_any (.slice none 0 0) (.slice A3 (L.length + 1) c3) 0 0 p ((i : Int) + 1) true (L ++ [((p : Int), (i : Int) + 1, true)]) _ (by have := HLL.out; have := KK.out; omega) (by rw [hlen]; exact R4.out.grown (Qt.grow_of (below_regrown w4 dd os))))
        have hle := HLE.out
        generalize Qt.cnt (L ++ [((p : Int), (i : Int) + 1, true)]) p ((i : Int) + 1) true = z at HC3 hle
        have hle2 : ¬ di < (z : Int) := by omega
        have c0r := fun d os => cell_regrown c0 d os
        have c1r := fun d os => cell_regrown c1 d os
        have cqr := fun d os => cell_regrown cq d os
        clear c0 c1 cq hlen hle
        refine wp_region_quiet_below (by kernel_rfl) (by kernel_rfl) ?_
        repeat (quiet_step ((go_at_call 16; with_reducible exact Calls.regrown_of (HC3.out _ _))))
        refine wpQuiet_nil ?_
        rintro _ ⟨⟨dq, osq⟩, rfl⟩
        have GQ := Lib.hid (Qt.grow_of (below_regrown w4 dq osq))
        clear c0r c1r cqr HC3
        generalize grow (redrawn w4 dq) osq = w5 at GQ ⊢
        go_wp2
        go_roundw
        case rel => exact ⟨j + 1, s2, L ++ [((p : Int), (i : Int) + 1, true)], A3, c3, by simp, by go_num, KK.out, Lib.hid (by have := HLL.out; simp; omega), Lib.hid (A4.out.only GQ.out (by simp)), Lib.hid (by simpa using R4.out.grown GQ.out), Lib.hid (by simpa using O4.out), RI2, Lib.hid (only_trans G4.out GQ.out)⟩
        case measure =>
          have := KK.out
          simp [intOf]
          omega
theorem Qt.holds_walk (f : Int) (A B : Option Addr) (n c k cb : Nat) (d : Nat → Int) (l : Nat → Qt.Ak) (w : World) (hnc : n ≤ c) (hcm : c ≤ 9223372036854775807) (hd : Qt.NumL w A n d) (hl : Qt.AskL w B k l) (hk : k ≤ 9223372036854775807) : Calls Try.prog 4 #[.int .i64 f, .slice A n c, .slice B k cb] w fun e w' => e = .returned (.bool true) ∧ Below w.heap.size w w' := by
  by_cases h12 : 12 < n
  · rcases Qt.new_ways f A 12 c d w (hd.cut (by omega)) with ⟨z, hz, hN, hC⟩ | ⟨_, _, _, _, h, _⟩
    · exact Qt.holds_err f A n 12 c B k cb d w (.inl ⟨rfl, h12⟩) hnc hcm z hz hN hC
    · omega
  · rcases Qt.new_ways f A n c d w hd with ⟨z, hz, hN, hC⟩ | ⟨f', rfl, h1, h2, h3, h4⟩
    · exact Qt.holds_err f A n n c B k cb d w (.inr ⟨rfl, h12⟩) hnc hcm z hz hN hC
    · exact Qt.holds_ok f' n c A B k cb d l w h1 h2 h3 hnc hcm hd h4 hl hk
end Go.Proofs.Yticmgkdhdfkpeaa

/- QuotaForks walked. -/
namespace Go.Proofs.Yticmgkdhdfkpeaa
open Go.RowKit Go.Lib Go.Sort
set_option linter.unusedVariables false
set_option maxRecDepth 8000

theorem Qt.tot_0 (n : Nat) (o : Int) : Qt.tot n Qt.s0 o = 0 := by unfold Qt.tot; split <;> rfl
theorem Qt.ref_0 (n : Nat) (o : Int) : Qt.ref n Qt.s0 o = 0 := by unfold Qt.ref; split <;> rfl
theorem Qt.bel_drew {w w' : World} (h : ∃ q, w.drewN q = w') : Below w.heap.size w w' := by
  obtain ⟨q, rfl⟩ := h
  exact below_drewN (Below.refl _ _) q
set_option maxRecDepth 20000 in
set_option maxHeartbeats 6400000 in
theorem Qt.forks_err (f : Int) (A : Option Addr) (n m c : Nat) (B : Option Addr) (k cb : Nat) (d : Nat → Int) (w : World) (hm : (m = 12 ∧ 12 < n) ∨ (m = n ∧ ¬ 12 < n)) (hnc : n ≤ c) (hcm : c ≤ 9223372036854775807) (z : Int) (hz : z ≠ 0) (hN : ∀ W, w.grownBy W none → Calls Try.prog 7 #[.int .i64 f, .slice A m c] W fun e w' => e = .returned (.tuple #[.pointer none, .int .i64 z]) ∧ W.grownBy w' none) (hC : ∀ W, w.grownBy W none → Calls Try.prog 8 #[.int .i64 f, .slice A m c] W fun e w' => e = .returned (.int .i64 z) ∧ W = w') : Calls Try.prog 6 #[.int .i64 f, .slice A n c, .slice B k cb] w fun e w' => e = .returned (.bool true) ∧ Below w.heap.size w w' := by
  have HN := Lib.hid hN
  have HC := Lib.hid hC
  have hz1 : (z != 0) = true := by simpa using hz
  have hz2 : (z == 0) = false := by simpa using hz
  have hz3 : (z == z) = true := by simp
  clear hN hC hz
  rcases hm with ⟨rfl, hm⟩ | ⟨rfl, hm⟩
  · have i1 : (12 : Int) < (n : Int) := by omega
    have i2 : (12 : Int) ≤ (c : Int) := by omega
    have i3 : min (n : Int) 12 = 12 := by omega
    clear hm hnc
    go_enter Try.func6, Try.ntmps6
    go_wp2_with (first
      | (go_at_call 7; ((with_reducible refine (HN.out _ (only_refl _ none)).mono ?_); rintro e w1 ⟨rfl, g1⟩; have G2 := Lib.hid g1; clear g1))
      | (go_at_call 8; first | ((with_reducible refine (HC.out _ G3.out).mono ?_); rintro e w4 ⟨rfl, rfl⟩) | ((with_reducible refine (HC.out _ G2.out).mono ?_); rintro e w4 ⟨rfl, rfl⟩))
      | (go_at_call 9; (with_reducible refine (Qt.live_any _).mono ?_); rintro e w3 ⟨rfl, g3⟩; have G3 := Lib.hid (only_trans G2.out g3); clear g3))
    go_ret
    exact ⟨by first | rfl | (simp; done), Qt.bel G3.out⟩
  · have i1 : ¬ (12 : Int) < (m : Int) := by omega
    have i2 : (m : Int) ≤ (c : Int) := by omega
    have i3 : min (m : Int) 12 = m := by omega
    clear hm hnc
    go_enter Try.func6, Try.ntmps6
    go_wp2_with (first
      | (go_at_call 7; ((with_reducible refine (HN.out _ (only_refl _ none)).mono ?_); rintro e w1 ⟨rfl, g1⟩; have G2 := Lib.hid g1; clear g1))
      | (go_at_call 8; first | ((with_reducible refine (HC.out _ G3.out).mono ?_); rintro e w4 ⟨rfl, rfl⟩) | ((with_reducible refine (HC.out _ G2.out).mono ?_); rintro e w4 ⟨rfl, rfl⟩))
      | (go_at_call 9; (with_reducible refine (Qt.live_any _).mono ?_); rintro e w3 ⟨rfl, g3⟩; have G3 := Lib.hid (only_trans G2.out g3); clear g3))
    go_ret
    exact ⟨by first | rfl | (simp; done), Qt.bel G3.out⟩
set_option maxRecDepth 20000 in
set_option maxHeartbeats 12800000 in
theorem Qt.forks_ok (f n c : Nat) (A B : Option Addr) (k cb : Nat) (d : Nat → Int) (l : Nat → Qt.Ak) (w : World) (f1 : 1 ≤ f) (f2 : f ≤ 4096) (hn : n ≤ 8) (hnc : n ≤ c) (hcm : c ≤ 9223372036854775807) (hd : Qt.NumL w A n d) (hf : Qt.fine d n) (hl : Qt.AskL w B k l) (hk : k ≤ 9223372036854775807) : Calls Try.prog 6 #[.int .i64 f, .slice A n c, .slice B k cb] w fun e w' => e = .returned (.bool true) ∧ Below w.heap.size w w' := by
  have HN := Lib.hid (Qt.new_ok f A n c d w f1 f2 hn hd hf)
  have HD := Lib.hid hl
  have i1 : ¬ (12 : Int) < (n : Int) := by omega
  have i2 : (n : Int) ≤ (c : Int) := by omega
  have i3 : min (n : Int) 12 = n := by omega
  clear f1 f2 hn hnc hd hf hl
  go_enter Try.func6, Try.ntmps6
  go_wp2_with (first
    | (go_at_call 7; ((with_reducible refine HN.out.mono ?_); rintro e w1 ⟨ba, rfl, hb1, aa, g1⟩; have A1 := Lib.hid aa; have G1 := Lib.hid g1; have LA := Lib.hid hb1; clear g1 aa hb1))
    | (go_at_call 18; ((with_reducible refine (Qt.fork_any _ A1.out).mono ?_); rintro e w2 ⟨bb, rfl, hb2, ab, g2⟩; have AB := Lib.hid ab; have AA := Lib.hid (A1.out.only g2 (by simp)); have LB := Lib.hid (show w.heap.size ≤ bb ∧ ba ≠ bb from ⟨Nat.le_trans G1.out.size hb2, fun e => by have := A1.out.blk.lt; omega⟩); have G2 := Lib.hid (only_trans G1.out g2); clear g2 ab hb2)))
  clear HN i1 i2 i3 A1 G1
  go_loopw [11] (fun y wr => ∃ (j : Nat) (s : Qt.St), y = .int .i64 j ∧ j ≤ 40 ∧ Hid (Qt.Acc wr ba f n (Qt.mix d n) Qt.s0 0) ∧ Hid (Qt.Acc wr bb f n (Qt.mix d n) s j) ∧ Hid (w.grownBy wr none)) (fun y _ => 60 - (intOf y).toNat)
  case atStart => exact ⟨0, Qt.s0, rfl, by omega, AA, AB, G2⟩
  case round =>
    obtain ⟨j, s, rfl, hj6, RA, RB, RW⟩ := hrel
    clear AA AB G2
    by_cases hin : j < k ∧ j < 40
    case neg =>
      have key : (¬ (j : Int) < (k : Int)) ∨ ((j : Int) < (k : Int) ∧ ¬ (j : Int) < 40) := by omega
      clear hin
      rcases key with i1 | ⟨i1, i2⟩
      all_goals
        go_wp2_with (first
          | (go_at_call 9; (with_reducible refine (Qt.live_any _).mono ?_); rintro e w3 ⟨rfl, g3⟩; have G3 := Lib.hid (only_trans RW.out g3); clear g3)
          | (go_at_call 15; (with_reducible refine (Qt.tot_nil _ _).mono ?_); rintro e w4 ⟨rfl, rfl⟩)
          | (go_at_call 17; (with_reducible refine (Qt.ref_nil _ _).mono ?_); rintro e w4 ⟨rfl, rfl⟩)
          | (go_at_call 14; (with_reducible refine (Qt.frame_nil _).mono ?_); rintro e w4 ⟨rfl, rfl⟩)
          | (go_at_call 18; (with_reducible refine (Qt.fork_nil _).mono ?_); rintro e w4 ⟨rfl, rfl⟩))
        go_ret
        exact ⟨by first | rfl | (simp; done), Qt.bel G3.out⟩
    case pos =>
      obtain ⟨h1, h2⟩ := hin
      obtain ⟨g, off, rfl, hg, hc⟩ := HD.out (by omega)
      have HC := Lib.hid (show ∀ W, w.grownBy W none → W.cell? ⟨g, off + j * 2, none⟩ = some (.int .i64 (l j).1) ∧ W.cell? ⟨g, off + j * 2 + 1, none⟩ = some (.int .i64 (l j).2) from fun W gg => by
        have hb := gg.block g hg (by simp)
        rw [← (hc j h1).1, ← (hc j h1).2]
        simp only [World.cell?, hb]
        exact ⟨trivial, trivial⟩)
      have i1 : (j : Int) < (k : Int) := by omega
      have i3 : (0 : Int) ≤ (j : Int) := by omega
      have u1 : IntKind.i64.wrap ((j : Int) + 1) = ((j + 1 : Nat) : Int) := by rw [IntKind.wrap_i64]; omega
      have HJ := Lib.hid (show j ≤ 100000 by omega)
      have i2 : (j : Int) < 40 := by omega
      have KK := Lib.hid (show j + 1 ≤ 40 by omega)
      clear hc hg h1 h2 HD
      generalize (l j).1 = dt at *
      generalize (l j).2 = dx at *
      obtain ⟨c0, c1⟩ := HC.out wr RW.out
      have HUSE := Lib.hid (Qt.use_any dx dt wr.drew (show Qt.Acc wr.drew bb f n (Qt.mix d n) s j from RB.out.drewN 1) HJ.out)
      go_upto_region 12 with (fail)
      refine wp_region_held_drew (S := fun W => W.cell? ⟨g, off + j * 2, none⟩ = some (.int .i64 dt) ∧ W.cell? ⟨g, off + j * 2 + 1, none⟩ = some (.int .i64 dx)) (by kernel_rfl) (HC.out _ (only_drewN RW.out 1)) (fun hHeld => ?_)
      refine wpAnyH_take (i := 0) (oi := _) (v := ?_) rfl (by kernel_rfl) (by kernel_rfl) (by kernel_rfl) (fun _ _ _ h => h) (Or.inl ⟨by rfl, ?_⟩) (by assumption) ?_
      case refine_2 => intro w hSw; (try dsimp only at hSw); go_simp; try with_reducible rfl
      try simp only [Act.put, List.setIfInBounds_toArray, List.set_cons_zero, List.set_cons_succ]
      refine wpAnyH_take (i := 1) (oi := _) (v := ?_) rfl (by kernel_rfl) (by kernel_rfl) (by kernel_rfl) (fun _ _ _ h => h) (Or.inl ⟨by rfl, ?_⟩) (by assumption) ?_
      case refine_2 => intro w hSw; (try dsimp only at hSw); go_simp; try with_reducible rfl
      try simp only [Act.put, List.setIfInBounds_toArray, List.set_cons_zero, List.set_cons_succ]
      refine wpAnyH_take (i := 2) (oi := _) (v := ?_) rfl (by kernel_rfl) (by kernel_rfl) (by kernel_rfl) (fun _ _ _ h => h) (Or.inl ⟨by rfl, ?_⟩) (by assumption) ?_
      case refine_2 => intro w hSw; (try dsimp only at hSw); go_simp; try with_reducible rfl
      try simp only [Act.put, List.setIfInBounds_toArray, List.set_cons_zero, List.set_cons_succ]
      refine wpAnyH_take (i := 3) (oi := _) (v := ?_) rfl (by kernel_rfl) (by kernel_rfl) (by kernel_rfl) (fun _ _ _ h => h) (Or.inl ⟨by rfl, ?_⟩) (by assumption) ?_
      case refine_2 => intro w hSw; (try dsimp only at hSw); go_simp; try with_reducible rfl
      try simp only [Act.put, List.setIfInBounds_toArray, List.set_cons_zero, List.set_cons_succ]
      refine wpAnyH_take (i := 4) (oi := _) (v := ?_) rfl (by kernel_rfl) (by kernel_rfl) (by kernel_rfl) (fun _ _ _ h => h) (Or.inl ⟨by rfl, ?_⟩) (by assumption) ?_
      case refine_2 => intro w hSw; (try dsimp only at hSw); go_simp; try with_reducible rfl
      try simp only [Act.put, List.setIfInBounds_toArray, List.set_cons_zero, List.set_cons_succ]
      refine wpAnyH_take (i := 5) (oi := _) (v := ?_) rfl (by kernel_rfl) (by kernel_rfl) (by kernel_rfl) (fun _ _ _ h => h) (Or.inl ⟨by rfl, ?_⟩) (by assumption) ?_
      case refine_2 => intro w hSw; (try dsimp only at hSw); go_simp; try with_reducible rfl
      try simp only [Act.put, List.setIfInBounds_toArray, List.set_cons_zero, List.set_cons_succ]
      refine wpAnyH_take (i := 6) (oi := _) (v := ?_) rfl (by kernel_rfl) (by kernel_rfl) (by kernel_rfl) (fun _ _ _ h => h) (Or.inl ⟨by rfl, ?_⟩) (by assumption) ?_
      case refine_2 => intro w hSw; (try dsimp only at hSw); go_simp; try with_reducible rfl
      try simp only [Act.put, List.setIfInBounds_toArray, List.set_cons_zero, List.set_cons_succ]
      refine wpAnyH_take (i := 7) (oi := _) (v := ?_) rfl (by kernel_rfl) (by kernel_rfl) (by kernel_rfl) (fun _ _ _ h => h) (Or.inl ⟨by rfl, ?_⟩) (by assumption) ?_
      case refine_2 => intro w hSw; (try dsimp only at hSw); go_simp; try with_reducible rfl
      try simp only [Act.put, List.setIfInBounds_toArray, List.set_cons_zero, List.set_cons_succ]
      refine wpAnyH_take (i := 8) (oi := _) (v := ?_) rfl (by kernel_rfl) (by kernel_rfl) (by kernel_rfl) (fun _ _ _ h => h) (Or.inl ⟨by rfl, ?_⟩) (by assumption) ?_
      case refine_2 => intro w hSw; (try dsimp only at hSw); go_simp; try with_reducible rfl
      try simp only [Act.put, List.setIfInBounds_toArray, List.set_cons_zero, List.set_cons_succ]
      refine wpAnyH_take (i := 9) (oi := _) (v := ?_) rfl (by kernel_rfl) (by kernel_rfl) (by kernel_rfl) (fun _ _ _ h => h) (Or.inl ⟨by rfl, ?_⟩) (by assumption) ?_
      case refine_2 => intro w hSw; (try dsimp only at hSw); go_simp; try with_reducible rfl
      try simp only [Act.put, List.setIfInBounds_toArray, List.set_cons_zero, List.set_cons_succ]
      refine wpAnyH_take (i := 10) (oi := _) (v := ?_) rfl (by kernel_rfl) (by kernel_rfl) (by kernel_rfl) (fun _ _ _ h => h) (Or.inl ⟨by rfl, ?_⟩) (by assumption) ?_
      case refine_2 => intro w hSw; (try dsimp only at hSw); go_simp; try with_reducible rfl
      try simp only [Act.put, List.setIfInBounds_toArray, List.set_cons_zero, List.set_cons_succ]
      refine wpAnyH_ready (rs := [11]) (by kernel_rfl) (by simp) ?_
      refine AllReadyH.cons (o := _) rfl (fun K hK => ?_) AllReadyH.nil
      go_simp
      go_at_call 13
      (with_reducible refine HUSE.out.mono ?_)
      rintro e2 w2 ⟨rfl, hb, gb⟩
      have B2 := Lib.hid hb
      have G2 := Lib.hid (Qt.grow_new (only_drewN RW.out 1) gb LB.out.1)
      have A2 := Lib.hid ((RA.out.drewN 1).only gb (fun e => by injection e with e; exact LB.out.2 e))
      clear hb gb
      refine hK.out _ _ (HC.out _ G2.out) (fun hHeld => ?_)
      clear hK K
      try simp only [Act.put, List.setIfInBounds_toArray, List.set_cons_zero, List.set_cons_succ]
      refine wpAnyH_done (by kernel_rfl) ?_ _
      clear c0 c1
      obtain ⟨c0, c1⟩ := HC.out w2 G2.out
      go_upto_region 13 with (fail)
      have HA := Lib.hid (fun (dd : Nat) (os : Array Obj) => A2.out.only (Qt.grow_of (below_regrown w2 dd os)) (show some ba ≠ none by simp))
      have H1 := Lib.hid (fun (dd : Nat) (os : Array Obj) => show Calls Try.prog 15 #[.pointer (some ⟨ba, 0, none⟩), .int .i64 dx] (grow (redrawn w2 dd) os) fun e w' => e = .returned (.int .i64 0) ∧ Below (grow (redrawn w2 dd) os).heap.size (grow (redrawn w2 dd) os) w' from by
        have := Qt.tot_any dx _ (HA.out dd os)
        rw [Qt.tot_0] at this
        exact this.mono fun e w' h => ⟨h.1, h.2 ▸ Below.refl _ _⟩)
      have H2 := Lib.hid (fun (dd : Nat) (os : Array Obj) => show Calls Try.prog 17 #[.pointer (some ⟨ba, 0, none⟩), .int .i64 dx] (grow (redrawn w2 dd) os) fun e w' => e = .returned (.int .i64 0) ∧ Below (grow (redrawn w2 dd) os).heap.size (grow (redrawn w2 dd) os) w' from by
        have := Qt.ref_any dx _ (HA.out dd os)
        rw [Qt.ref_0] at this
        exact this.mono fun e w' h => ⟨h.1, h.2 ▸ Below.refl _ _⟩)
      have H3 := Lib.hid (fun (dd : Nat) (os : Array Obj) => show Calls Try.prog 14 #[.pointer (some ⟨ba, 0, none⟩)] (grow (redrawn w2 dd) os) fun e w' => e = .returned (.int .i64 0) ∧ Below (grow (redrawn w2 dd) os).heap.size (grow (redrawn w2 dd) os) w' from
        (Qt.frame_any _ (HA.out dd os)).mono fun e w' h => ⟨h.1, h.2 ▸ Below.refl _ _⟩)
      have H4 := Lib.hid (fun (dd : Nat) (os : Array Obj) => show Calls Try.prog 13 #[.pointer none, .int .i64 dt, .int .i64 dx] (grow (redrawn w2 dd) os) fun e w' => e = .returned (.bool false) ∧ Below (grow (redrawn w2 dd) os).heap.size (grow (redrawn w2 dd) os) w' from
        (Qt.use_nil dx dt _).mono fun e w' h => ⟨h.1, Qt.bel_drew h.2⟩)
      have H5 := Lib.hid (fun (dd : Nat) (os : Array Obj) => show Calls Try.prog 10 #[.pointer none, .int .i64 dt, .int .i64 dx] (grow (redrawn w2 dd) os) fun e w' => e = .returned (.int .i64 0) ∧ Below (grow (redrawn w2 dd) os).heap.size (grow (redrawn w2 dd) os) w' from
        (Qt.left_nil dx dt _).mono fun e w' h => ⟨h.1, Qt.bel_drew h.2⟩)
      have c0r := fun d os => cell_regrown c0 d os
      have c1r := fun d os => cell_regrown c1 d os
      clear c0 c1 HA
      refine wp_region_quiet_below (by kernel_rfl) (by kernel_rfl) ?_
      repeat (quiet_step ((first
        | (go_at_call 15; with_reducible exact Calls.regrown_of (H1.out _ _))
        | (go_at_call 17; with_reducible exact Calls.regrown_of (H2.out _ _))
        | (go_at_call 14; with_reducible exact Calls.regrown_of (H3.out _ _))
        | (go_at_call 13; with_reducible exact Calls.regrown_of (H4.out _ _))
        | (go_at_call 10; with_reducible exact Calls.regrown_of (H5.out _ _)))))
      refine wpQuiet_nil ?_
      rintro _ ⟨⟨dq, osq⟩, rfl⟩
      have GQ := Lib.hid (Qt.grow_of (below_regrown w2 dq osq))
      clear c0r c1r H1 H2 H3 H4 H5
      generalize grow (redrawn w2 dq) osq = w5 at GQ ⊢
      go_wp2
      go_roundw
      case rel => exact ⟨j + 1, _, by go_num, KK.out, Lib.hid (A2.out.only GQ.out (by simp)), Lib.hid (B2.out.only GQ.out (by simp)), Lib.hid (only_trans G2.out GQ.out)⟩
      case measure =>
        have := KK.out
        simp [intOf]
        omega
theorem Qt.forks_walk (f : Int) (A B : Option Addr) (n c k cb : Nat) (d : Nat → Int) (l : Nat → Qt.Ak) (w : World) (hnc : n ≤ c) (hcm : c ≤ 9223372036854775807) (hd : Qt.NumL w A n d) (hl : Qt.AskL w B k l) (hk : k ≤ 9223372036854775807) : Calls Try.prog 6 #[.int .i64 f, .slice A n c, .slice B k cb] w fun e w' => e = .returned (.bool true) ∧ Below w.heap.size w w' := by
  by_cases h12 : 12 < n
  · rcases Qt.new_ways f A 12 c d w (hd.cut (by omega)) with ⟨z, hz, hN, hC⟩ | ⟨_, _, _, _, h, _⟩
    · exact Qt.forks_err f A n 12 c B k cb d w (.inl ⟨rfl, h12⟩) hnc hcm z hz hN hC
    · omega
  · rcases Qt.new_ways f A n c d w hd with ⟨z, hz, hN, hC⟩ | ⟨f', rfl, h1, h2, h3, h4⟩
    · exact Qt.forks_err f A n n c B k cb d w (.inr ⟨rfl, h12⟩) hnc hcm z hz hN hC
    · exact Qt.forks_ok f' n c A B k cb d l w h1 h2 h3 hnc hcm hd h4 hl hk
end Go.Proofs.Yticmgkdhdfkpeaa

/- A region that draws its order, and begins with a call that writes: what is ahead of the call is taken in the text's order, then the call, and behind it all only reads, so that one walk serves every order. No program is spoken of here. -/
namespace Go.Proofs.Yticmgkdhdfkpeaa
open Go
set_option linter.unusedVariables false

section
variable {P : Program} {ops : Array Oper} {md : Region.Mode} {Q : Exit → Act → World → Prop} {S : World → Prop}

/-- What only reads, behind a world of a class, is held too. -/
theorem held_of_quiet {C : World → Prop} (hCS : ∀ w, C w → S w) {K : Act → Prop} (hK : ∀ a w, C w → K a → Q .normal a w) : ∀ (fuel : Nat) (listed : Array Bool) (a : Act) (w : World), C w →
    wpAnyQ P md ops C K fuel listed a → wpAnyH P md ops Q S fuel listed a w
  | 0, _, _, _, hw, h => ⟨h.1, hK _ _ hw h.2⟩
  | fuel + 1, _, _, _, hw, h => ⟨fun h0 => hK _ _ hw (h.1 h0), fun i hi => wpOp_of_qOp hw (fun a' w' hw' h' => ⟨hCS _ hw', held_of_quiet hCS hK fuel _ a' w' hw' h'⟩) (h.2 i hi)⟩

/-- The operations ahead of the call, one by one. -/
def wpAhead (P : Program) (ops : Array Oper) (S : World → Prop) (K : Act → Prop) : List Oper → Act → Prop
  | [], a => K a
  | o :: rest, a => ∃ v, YieldsIf P ops S o v a ∧ wpAhead P ops S K rest (a.put o.dst v)

/-- The text's order serves ahead of the call; then the call alone may come up; then the text's order serves again. -/
def thenB (md : Region.Mode) (ops : Array Oper) (g : Nat) : Nat → Nat → Array Bool → Bool
  | 0, k, listed => decide (Region.ready md ops listed = [k]) && Region.lexFrom md ops g (k + 1) (listed.setIfInBounds k true)
  | f + 1, k, listed => (Region.ready md ops listed).contains k && Region.free md ops listed k && thenB md ops g f (k + 1) (listed.setIfInBounds k true)

/-- What the call must leave: a class of worlds in which all that follows only reads. -/
def Reads (P : Program) (ops : Array Oper) (Q : Exit → Act → World → Prop) (S : World → Prop) (rest : List Oper) (a : Act) (w : World) : Prop :=
  ∃ C : World → Prop, C w ∧ (∀ w2, C w2 → S w2) ∧ wpQuiet P ops C (fun a2 => ∀ w2, C w2 → Q .normal a2 w2) rest a

theorem ahead_held (hsel : Region.noSelect ops = true) (hQ : ∀ c a d v w, Q (.panic c) (a.put d v) w → Q (.panic c) a w) {o : Oper} {rest : List Oper} {w : World} (hS : S w) (n : Nat) (ho : ops[n]? = some o) (hrest : ∀ j, rest[j]? = ops[n + 1 + j]?) :
    ∀ (l : List Oper) (k : Nat) (listed : Array Bool) (a : Act), k + l.length = n → (∀ j, j < l.length → l[j]? = ops[k + j]?) → thenB md ops rest.length l.length k listed = true →
      wpAhead P ops S (fun a' => ∀ K' : Act → World → Prop, Shut (∀ a1 w1, Reads P ops Q S rest a1 w1 → K' a1 w1) → if Region.wanted o (yielded ops a'.tmps) = true then Oper.wp P o a' w K' Q else K' (a'.put o.dst undef) w) l a →
      wpAnyH P md ops Q S (rest.length + 1 + l.length) listed a w
  | [], k, listed, a, hk, _, hB, h => by
    have hkn : k = n := by simpa using hk
    subst hkn
    simp only [List.length_nil, thenB, Bool.and_eq_true, decide_eq_true_eq] at hB
    refine wpAnyH_all hB.1 (by simp) fun i hi => ?_
    have hik : i = k := by simpa using hi
    subst hik
    refine wpOp_step ho fun K' hK => h K' fun a1 w1 hr => hK a1 w1 ?_
    obtain ⟨C, c1, c2, c3⟩ := hr
    refine ⟨c2 _ c1, held_of_quiet (C := C) (K := fun a2 => ∀ w2, C w2 → Q .normal a2 w2) c2 (fun a2 w2 h1 h2 => h2 w2 h1) _ _ _ _ c1 ?_⟩
    exact wpAnyQ_lex hsel rest (i + 1) _ a1 hrest hB.2 c3
  | x :: l, k, listed, a, hk, hl, hB, h => by
    simp only [List.length_cons, thenB, Bool.and_eq_true] at hB
    obtain ⟨⟨hr, hf⟩, hB'⟩ := hB
    have h0 : ops[k]? = some x := by simpa using (hl 0 (by simp)).symm
    obtain ⟨v, hy, hn⟩ := h
    have ih := ahead_held hsel hQ hS n ho hrest l (k + 1) (listed.setIfInBounds k true) (a.put x.dst v) (by simp only [List.length_cons] at hk; omega) (fun j hj => by
      have := hl (j + 1) (by simp; omega)
      simpa [Nat.add_assoc, Nat.add_comm 1 j] using this) hB' hn
    exact wpAnyH_take h0 hsel hf hr (fun c a w h => hQ c a _ _ w h) hy hS ih

/-- **A region of which number n is a call that writes, with what it needs ahead of it, and only reads behind it.** -/
theorem wp_region_then {id : Nat} {a : Act} {w : World} {l : List Oper} (n : Nat) (S : World → Prop) {o : Oper} (hm : P.follows .mixedOrders = true) (hsel : Region.noSelect l.toArray = true) (ho : l[n]? = some o)
    (hB : thenB .any l.toArray (l.drop (n + 1)).length (l.take n).length 0 (Array.replicate l.toArray.size false) = true) (hQ : ∀ c a d v w, Q (.panic c) (a.put d v) w → Q (.panic c) a w) (hS : S w.drew)
    (h : wpAhead P l.toArray S (fun a' => ∀ K' : Act → World → Prop, Shut (∀ a1 w1, Reads P l.toArray Q S (l.drop (n + 1)) a1 w1 → K' a1 w1) → if Region.wanted o (yielded l.toArray a'.tmps) = true then Oper.wp P o a' w.drew K' Q else K' (a'.put o.dst undef) w.drew) (l.take n) a) :
    (Code.region id l.toArray true).wp P Q a w := by
  refine wp_region_held_drew (S := S) hm hS fun _ => ?_
  have hn : n < l.length := (List.getElem?_eq_some_iff.1 ho).1
  have hlt : (l.take n).length = n := by simp; omega
  have hld : (l.drop (n + 1)).length + 1 + (l.take n).length = l.toArray.size := by rw [hlt]; simp; omega
  have := ahead_held (md := .any) (w := w.drew) hsel hQ hS n (by simpa using ho) (rest := l.drop (n + 1)) (fun j => by simp [List.getElem?_drop]) (l.take n) 0 (Array.replicate l.toArray.size false) a (by rw [hlt]; omega) (fun j hj => by
    rw [hlt] at hj
    simp [hj]) hB h
  rw [hld] at this
  exact this
end
end Go.Proofs.Yticmgkdhdfkpeaa
