/- LatchApart: the example, deeds that came in, the walk. -/
import Derived.Test.YtbbgijjeimjgoaaLA3
namespace Go.Proofs.Ytbbgijjeimjgoaa
open Go.RowKit Go.Lib
set_option linter.unusedVariables false
set_option maxRecDepth 8000

abbrev Lt.Ded := Int × Int × Int
def Lt.DedL (w : World) (A : Option Addr) (n : Nat) (d : Nat → Lt.Ded) : Prop := 0 < n → ∃ b off, A = some ⟨b, off, none⟩ ∧ b < w.heap.size ∧ ∀ i, i < n → w.cell? ⟨b, off + i * 3, none⟩ = some (.int .i64 (d i).1) ∧ w.cell? ⟨b, off + i * 3 + 1, none⟩ = some (.int .i64 (d i).2.1) ∧ w.cell? ⟨b, off + i * 3 + 2, none⟩ = some (.int .i64 (d i).2.2)
def Lt.dedC (d : Lt.Ded) : Array Value := #[.int .i64 d.1, .int .i64 d.2.1, .int .i64 d.2.2]
theorem Lt.box1 (w : World) (t : TypeId) (cs : Array Value) : ∃ W, W = w.alloc (.cells cs t) ∧ w.grownBy W none ∧ Blk W w.heap.size t cs ∧ W.heap.size = w.heap.size + 1 := ⟨_, rfl, only_alloc (only_refl _ _) _, Blk.new w t cs, by simp⟩
theorem Lt.box3c {w : World} {b : Nat} {t : TypeId} {x y z : Value} (h : Blk w b t #[x, y, z]) : w.cell? ⟨b, 0, none⟩ = some x ∧ w.cell? ⟨b, 1, none⟩ = some y ∧ w.cell? ⟨b, 2, none⟩ = some z := ⟨h.cell 0, h.cell 1, h.cell 2⟩
theorem Lt.bel_put {w w1 w2 : World} {b : Nat} (h : Below w.heap.size w w1) (g : w1.grownBy w2 (some b)) (hb : w.heap.size ≤ b) : Below w.heap.size w w2 := h.trans (below_of_only g h.size (fun k hk => by injection hk with hk; omega))
theorem Lt.bel_any {w w1 w2 : World} (h : Below w.heap.size w w1) (g : w1.grownBy w2 none) : Below w.heap.size w w2 := h.trans (below_of_only g h.size (by simp))

set_option maxHeartbeats 1600000 in
theorem Lt.live22_any (w : World) : Calls Try.prog 9 #[] w fun e w' => e = .returned (.bool true) ∧ Below w.heap.size w w' := by
  obtain ⟨W1, hW1, G1, _, _⟩ := Lt.box1 w 42 (Lt.brdC 2 Lt.o0)
  have hB0 : Lt.Brd W1 w.heap.size 2 Lt.o0 := by rw [hW1]; exact Lt.brd_new w 2 (by omega)
  have HN := Lib.hid (Lt.new_any 2 w)
  rw [show Lt.cap 2 = 2 from rfl, ← hW1] at HN
  have HB0 := Lib.hid hB0
  have L0 := Lib.hid (below_of_only (B := w.heap.size) G1 (Nat.le_refl _) (by simp))
  clear hB0 G1 hW1
  go_enter Try.func9, Try.ntmps9
  go_wp2_with (first
    | (go_at_call 6; (with_reducible refine HN.out.mono ?_); rintro e w1 ⟨rfl, rfl⟩)
    | (go_at_call 10; first
      | ((with_reducible refine (Lt.raise_any _ _ _ _ _ _ HB5.out).mono ?_); rintro e w6 ⟨he, hb, hg⟩; rw [show Lt.raiseE 2 3 1 = 7 from by decide] at he; subst he; have HB6 := Lib.hid hb; have L6 := Lib.hid (Lt.bel_put L5.out hg (Nat.le_refl _)); clear hb hg)
      | ((with_reducible refine (Lt.raise_any _ _ _ _ _ _ HB1.out).mono ?_); rintro e w2 ⟨he, hb, hg⟩; rw [show Lt.raiseE 2 1 4 = 0 from by decide] at he; subst he; have HB2 := Lib.hid hb; have L2 := Lib.hid (Lt.bel_put L1.out hg (Nat.le_refl _)); clear hb hg)
      | ((with_reducible refine (Lt.raise_any _ _ _ _ _ _ HB0.out).mono ?_); rintro e w1 ⟨he, hb, hg⟩; rw [show Lt.raiseE 2 1 1 = 0 from by decide] at he; subst he; have HB1 := Lib.hid hb; have L1 := Lib.hid (Lt.bel_put L0.out hg (Nat.le_refl _)); clear hb hg))
    | (go_at_call 11; first
      | ((with_reducible refine (Lt.open_any _ _ _ _ _ HB3.out).mono ?_); rintro e w4 ⟨he, hb, hg⟩; rw [show Lt.openX 2 (Lt.openO 2 (Lt.raiseO 2 (Lt.raiseO 2 Lt.o0 1 1) 1 4) 1) 1 = 0 from by decide] at he; subst he; have HB4 := Lib.hid hb; have L4 := Lib.hid (Lt.bel_put L3.out hg (Nat.le_refl _)); clear hb hg)
      | ((with_reducible refine (Lt.open_any _ _ _ _ _ HB2.out).mono ?_); rintro e w3 ⟨he, hb, hg⟩; rw [show Lt.openX 2 (Lt.raiseO 2 (Lt.raiseO 2 Lt.o0 1 1) 1 4) 1 = 5 from by decide] at he; subst he; have HB3 := Lib.hid hb; have L3 := Lib.hid (Lt.bel_put L2.out hg (Nat.le_refl _)); clear hb hg))
    | (go_at_call 12; (with_reducible refine (Lt.take_any _ _ _ _ _ HB4.out).mono ?_); rintro e w5 ⟨he, hb, hg⟩; rw [show Lt.takeX 2 (Lt.openO 2 (Lt.openO 2 (Lt.raiseO 2 (Lt.raiseO 2 Lt.o0 1 1) 1 4) 1) 1) 1 = 5 from by decide] at he; subst he; have HB5 := Lib.hid hb; have L5 := Lib.hid (Lt.bel_put L4.out hg (Nat.le_refl _)); clear hb hg))
  go_ret
  exact ⟨by first | rfl | (simp; done), L6.out⟩

/-- Two boards have the same bits of an owner. -/
def Lt.Agr (c : Nat) (p q : Nat → Nat × Nat) (x : Int) : Prop := Lt.isO c x → p (Lt.idx x) = q (Lt.idx x)
theorem Lt.idx_ne {c : Nat} {x y : Int} (hx : Lt.isO c x) (hy : Lt.isO c y) (h : x ≠ y) : Lt.idx y ≠ Lt.idx x := by
  unfold Lt.idx Lt.isO at *
  omega
section
variable {c : Nat} {p q : Nat → Nat × Nat} {x z y : Int}
theorem Lt.Agr.raise1 (h : Lt.Agr c p q x) (hz : z ≠ x) : Lt.Agr c (Lt.raiseO c p z y) q x := fun hx => by
  unfold Lt.raiseO
  split
  · rename_i k
    rw [Lt.upd_off _ _ (Lt.idx_ne k.1 hx hz)]
    exact h hx
  · exact h hx
theorem Lt.Agr.open1 (h : Lt.Agr c p q x) (hz : z ≠ x) : Lt.Agr c (Lt.openO c p z) q x := fun hx => by
  unfold Lt.openO
  split
  · rename_i k
    rw [Lt.upd_off _ _ (Lt.idx_ne k hx hz)]
    exact h hx
  · exact h hx
theorem Lt.Agr.take1 (h : Lt.Agr c p q x) (hz : z ≠ x) : Lt.Agr c (Lt.takeO c p z) q x := fun hx => by
  unfold Lt.takeO
  split
  · rename_i k
    rw [Lt.upd_off _ _ (Lt.idx_ne k hx hz)]
    exact h hx
  · exact h hx
theorem Lt.Agr.raise2 (h : Lt.Agr c p q x) : Lt.Agr c (Lt.raiseO c p x y) (Lt.raiseO c q x y) x := fun hx => by
  unfold Lt.raiseO
  have e := h hx
  split
  · rw [Lt.upd_at, Lt.upd_at, e]
  · exact e
theorem Lt.Agr.open2 (h : Lt.Agr c p q x) : Lt.Agr c (Lt.openO c p x) (Lt.openO c q x) x := fun hx => by
  unfold Lt.openO
  rw [if_pos hx, if_pos hx, Lt.upd_at, Lt.upd_at, h hx]
theorem Lt.Agr.take2 (h : Lt.Agr c p q x) : Lt.Agr c (Lt.takeO c p x) (Lt.takeO c q x) x := fun hx => by
  unfold Lt.takeO
  rw [if_pos hx, if_pos hx, Lt.upd_at, Lt.upd_at, h hx]
theorem Lt.Agr.openx (h : Lt.Agr c p q x) : Lt.openX c q x = Lt.openX c p x := by
  unfold Lt.openX
  split
  · rename_i hx; rw [h hx]
  · rfl
theorem Lt.Agr.takex (h : Lt.Agr c p q x) : Lt.takeX c q x = Lt.takeX c p x := by
  unfold Lt.takeX
  split
  · rename_i hx; rw [h hx]
  · rfl
end

set_option maxRecDepth 20000 in
set_option maxHeartbeats 3200000 in
theorem latchapart_walk (A : Option Addr) (n cp : Nat) (d : Nat → Lt.Ded) (ow : Int) (w : World) (hd : Lt.DedL w A n d) (hn : n ≤ 9223372036854775807) : Calls Try.prog 4 #[.slice A n cp, .int .i64 ow] w fun e w' => e = .returned (.bool true) ∧ Below w.heap.size w w' := by
  obtain ⟨W1, hW1, G1, P1, Z1⟩ := Lt.box1 w 42 (Lt.brdC 8 Lt.o0)
  obtain ⟨W2, hW2, G2, P2, Z2⟩ := Lt.box1 W1 42 (Lt.brdC 8 Lt.o0)
  have hA0 : Lt.Brd W2 w.heap.size 8 Lt.o0 := ⟨P1.only G2 (by simp), by omega, fun i _ => by simp [Lt.o0]⟩
  have hB0 : Lt.Brd W2 (w.heap.size + 1) 8 Lt.o0 := ⟨by rw [← Z1]; exact P2, by omega, fun i _ => by simp [Lt.o0]⟩
  have N1 := Lib.hid (Lt.new_any 8 w)
  have N2 := Lib.hid (Lt.new_any 8 W1)
  rw [show Lt.cap 8 = 8 from rfl, ← hW1] at N1
  rw [show Lt.cap 8 = 8 from rfl, ← hW2, Z1] at N2
  have RA0 := Lib.hid hA0
  have RB0 := Lib.hid hB0
  have L0 := Lib.hid (Lt.bel_any (Lt.bel_any (Below.refl w.heap.size w) G1) G2)
  have HD := Lib.hid hd
  clear hA0 hB0 G1 G2 P1 P2 Z1 Z2 hW1 hW2 hd
  go_enter Try.func4, Try.ntmps4
  go_wp2_with (go_at_call 6; first
    | ((with_reducible refine N1.out.mono ?_); rintro e w1 ⟨rfl, rfl⟩)
    | ((with_reducible refine N2.out.mono ?_); rintro e w1 ⟨rfl, rfl⟩))
  clear N1 N2
  go_loopw [7] (fun y wr => ∃ (k : Nat) (p q : Nat → Nat × Nat), y = .int .i64 k ∧ k ≤ n ∧ k ≤ 80 ∧ Hid (Lt.Brd wr w.heap.size 8 p) ∧ Hid (Lt.Brd wr (w.heap.size + 1) 8 q) ∧ Hid (Lt.Agr 8 p q ow) ∧ Hid (Below w.heap.size w wr)) (fun y _ => 80 - (intOf y).toNat)
  case atStart => exact ⟨0, Lt.o0, Lt.o0, rfl, Nat.zero_le _, Nat.zero_le _, RA0, RB0, Lib.hid (fun _ => rfl), L0⟩
  case round =>
    obtain ⟨k, p, q, rfl, hk, hk80, RA, RB, RG, RL⟩ := hrel
    clear RA0 RB0 L0
    by_cases hin : k < n ∧ k < 80
    case neg =>
      by_cases h1 : k < n
      · have h2 : ¬ k < 80 := fun e => hin ⟨h1, e⟩
        have i1 : (k : Int) < (n : Int) := by omega
        have i2 : ¬ (k : Int) < 80 := by omega
        have EX := Lib.hid RG.out.openx
        have ET := Lib.hid RG.out.takex
        clear hin h1 h2 hk hk80
        go_wp2_with (first
          | (go_at_call 9; (with_reducible refine (Lt.live22_any _).mono ?_); rintro e w3 ⟨rfl, bel⟩; have TA := Lib.hid (RA.out.below bel RA.out.blk.lt); have TB := Lib.hid (RB.out.below bel RB.out.blk.lt); have TL := Lib.hid (RL.out.trans (bel.mono RL.out.size)); clear bel)
          | (go_at_call 13; first
            | ((with_reducible refine (Lt.latched_any _ _ _ _ _ TA.out).mono ?_); rintro e w4 ⟨rfl, rfl⟩)
            | ((with_reducible refine (Lt.latched_any _ _ _ _ _ TB.out).mono ?_); rintro e w4 ⟨he, rfl⟩; rw [EX.out] at he; subst he))
          | (go_at_call 14; first
            | ((with_reducible refine (Lt.delivered_any _ _ _ _ _ TA.out).mono ?_); rintro e w4 ⟨rfl, rfl⟩)
            | ((with_reducible refine (Lt.delivered_any _ _ _ _ _ TB.out).mono ?_); rintro e w4 ⟨he, rfl⟩; rw [ET.out] at he; subst he)))
        go_ret
        exact ⟨by first | rfl | (simp; done), TL.out⟩
      · have i1 : ¬ (k : Int) < (n : Int) := by omega
        have EX := Lib.hid RG.out.openx
        have ET := Lib.hid RG.out.takex
        clear hin h1 hk hk80
        go_wp2_with (first
          | (go_at_call 9; (with_reducible refine (Lt.live22_any _).mono ?_); rintro e w3 ⟨rfl, bel⟩; have TA := Lib.hid (RA.out.below bel RA.out.blk.lt); have TB := Lib.hid (RB.out.below bel RB.out.blk.lt); have TL := Lib.hid (RL.out.trans (bel.mono RL.out.size)); clear bel)
          | (go_at_call 13; first
            | ((with_reducible refine (Lt.latched_any _ _ _ _ _ TA.out).mono ?_); rintro e w4 ⟨rfl, rfl⟩)
            | ((with_reducible refine (Lt.latched_any _ _ _ _ _ TB.out).mono ?_); rintro e w4 ⟨he, rfl⟩; rw [EX.out] at he; subst he))
          | (go_at_call 14; first
            | ((with_reducible refine (Lt.delivered_any _ _ _ _ _ TA.out).mono ?_); rintro e w4 ⟨rfl, rfl⟩)
            | ((with_reducible refine (Lt.delivered_any _ _ _ _ _ TB.out).mono ?_); rintro e w4 ⟨he, rfl⟩; rw [ET.out] at he; subst he)))
        go_ret
        exact ⟨by first | rfl | (simp; done), TL.out⟩
    case pos =>
      obtain ⟨h1, h2⟩ := hin
      obtain ⟨g, off, rfl, hg, hc⟩ := HD.out (by omega)
      have i1 : (k : Int) < (n : Int) := by omega
      have i2 : (k : Int) < 80 := by omega
      have i3 : (0 : Int) ≤ (k : Int) := by omega
      have u1 : IntKind.i64.wrap ((k : Int) + 1) = ((k + 1 : Nat) : Int) := by rw [IntKind.wrap_i64]; omega
      obtain ⟨c0, c1, c2⟩ := hc k h1
      have d0 : wr.cell? ⟨g, off + k * 3, none⟩ = some (.int .i64 (d k).1) := (RL.out.cell (p := ⟨g, _, none⟩) hg).trans c0
      have d1 : wr.cell? ⟨g, off + k * 3 + 1, none⟩ = some (.int .i64 (d k).2.1) := (RL.out.cell (p := ⟨g, _, none⟩) hg).trans c1
      have d2 : wr.cell? ⟨g, off + k * 3 + 2, none⟩ = some (.int .i64 (d k).2.2) := (RL.out.cell (p := ⟨g, _, none⟩) hg).trans c2
      generalize (d k).1 = dx at *
      generalize (d k).2.1 = dy at *
      generalize (d k).2.2 = dz at *
      obtain ⟨W, hW, G, P, Z⟩ := Lt.box1 wr 28 #[.int .i64 dx, .int .i64 dy, .int .i64 dz]
      have hsz := RL.out.size
      have ltA := RA.out.blk.lt
      have ltB := RB.out.blk.lt
      have SA := Lib.hid (RA.out.only G (by simp))
      have SB := Lib.hid (RB.out.only G (by simp))
      have SL := Lib.hid (Lt.bel_any RL.out G)
      obtain ⟨b0, b1, b2⟩ := Lt.box3c P
      have HP := Lib.hid P
      have KK := Lib.hid (show k + 1 ≤ n ∧ k + 1 ≤ 80 from ⟨by omega, by omega⟩)
      have LT := Lib.hid (show w.heap.size ≠ wr.heap.size ∧ w.heap.size + 1 ≠ wr.heap.size from ⟨by omega, by omega⟩)
      clear c0 c1 c2 hc P G Z RA RB RL hsz ltA ltB hk hk80 h1 h2 HD
      by_cases h0 : dx = 0
      · subst h0
        go_upto_region 6 with (fail)
        rw [← hW]
        clear hW d0 d1 d2
        by_cases ho : dy = ow
        · subst ho
          go_wp2_with (go_at_call 10; first
            | ((with_reducible refine (Lt.raise_any _ _ _ _ _ _ SA.out).mono ?_); rintro e w2 ⟨rfl, hb, hg⟩; have XA := Lib.hid hb; have XB := Lib.hid (SB.out.only hg (by simp)); have XL := Lib.hid (Lt.bel_put SL.out hg (Nat.le_refl _)); have XP := HP.out.only hg (fun e => by injection e with e; exact LT.out.1 e.symm); obtain ⟨e0, e1, e2⟩ := Lt.box3c XP; have HX := Lib.hid XP; clear hb hg XP)
            | ((with_reducible refine (Lt.raise_any _ _ _ _ _ _ XB.out).mono ?_); rintro e w3 ⟨rfl, hb, hg⟩; have YB := Lib.hid hb; have YA := Lib.hid (XA.out.only hg (by simp)); have YL := Lib.hid (Lt.bel_put XL.out hg (Nat.le_succ _)); have YP := HX.out.only hg (fun e => by injection e with e; exact LT.out.2 e.symm); obtain ⟨f0, f1, f2⟩ := Lt.box3c YP; clear hb hg YP))
          go_roundw
          case rel => exact ⟨k + 1, _, _, by go_num, KK.out.1, KK.out.2, YA, YB, Lib.hid RG.out.raise2, YL⟩
          case measure =>
            have := KK.out
            simp [intOf]
            omega
        · have NE := Lib.hid ho
          have ho' : (dy == ow) = false := by simpa using ho
          go_wp2_with (go_at_call 10; ((with_reducible refine (Lt.raise_any _ _ _ _ _ _ SA.out).mono ?_); rintro e w2 ⟨rfl, hb, hg⟩; have XA := Lib.hid hb; have XB := Lib.hid (SB.out.only hg (by simp)); have XL := Lib.hid (Lt.bel_put SL.out hg (Nat.le_refl _)); have XP := HP.out.only hg (fun e => by injection e with e; exact LT.out.1 e.symm); obtain ⟨e0, e1, e2⟩ := Lt.box3c XP; have HX := Lib.hid XP; clear hb hg XP))
          go_roundw
          case rel => exact ⟨k + 1, _, _, by go_num, KK.out.1, KK.out.2, XA, XB, Lib.hid (RG.out.raise1 NE.out), XL⟩
          case measure =>
            have := KK.out
            simp [intOf]
            omega
      have n0 : (dx == 0) = false := by simpa using h0
      by_cases h1 : dx = 1
      · subst h1
        go_upto_region 6 with (fail)
        rw [← hW]
        clear hW d0 d1 d2
        by_cases ho : dy = ow
        · subst ho
          go_wp2_with (go_at_call 11; first
            | ((with_reducible refine (Lt.open_any _ _ _ _ _ SA.out).mono ?_); rintro e w2 ⟨rfl, hb, hg⟩; have XA := Lib.hid hb; have XB := Lib.hid (SB.out.only hg (by simp)); have XL := Lib.hid (Lt.bel_put SL.out hg (Nat.le_refl _)); have XP := HP.out.only hg (fun e => by injection e with e; exact LT.out.1 e.symm); obtain ⟨e0, e1, e2⟩ := Lt.box3c XP; have HX := Lib.hid XP; clear hb hg XP)
            | ((with_reducible refine (Lt.open_any _ _ _ _ _ XB.out).mono ?_); rintro e w3 ⟨he, hb, hg⟩; rw [RG.out.openx] at he; subst he; have YB := Lib.hid hb; have YA := Lib.hid (XA.out.only hg (by simp)); have YL := Lib.hid (Lt.bel_put XL.out hg (Nat.le_succ _)); have YP := HX.out.only hg (fun e => by injection e with e; exact LT.out.2 e.symm); obtain ⟨f0, f1, f2⟩ := Lt.box3c YP; clear hb hg YP))
          go_roundw
          case rel => exact ⟨k + 1, _, _, by go_num, KK.out.1, KK.out.2, YA, YB, Lib.hid RG.out.open2, YL⟩
          case measure =>
            have := KK.out
            simp [intOf]
            omega
        · have NE := Lib.hid ho
          have ho' : (dy == ow) = false := by simpa using ho
          go_wp2_with (go_at_call 11; ((with_reducible refine (Lt.open_any _ _ _ _ _ SA.out).mono ?_); rintro e w2 ⟨rfl, hb, hg⟩; have XA := Lib.hid hb; have XB := Lib.hid (SB.out.only hg (by simp)); have XL := Lib.hid (Lt.bel_put SL.out hg (Nat.le_refl _)); have XP := HP.out.only hg (fun e => by injection e with e; exact LT.out.1 e.symm); obtain ⟨e0, e1, e2⟩ := Lt.box3c XP; have HX := Lib.hid XP; clear hb hg XP))
          go_roundw
          case rel => exact ⟨k + 1, _, _, by go_num, KK.out.1, KK.out.2, XA, XB, Lib.hid (RG.out.open1 NE.out), XL⟩
          case measure =>
            have := KK.out
            simp [intOf]
            omega
      have n1 : (dx == 1) = false := by simpa using h1
      go_upto_region 6 with (fail)
      rw [← hW]
      clear hW d0 d1 d2
      by_cases ho : dy = ow
      · subst ho
        go_wp2_with (go_at_call 12; first
          | ((with_reducible refine (Lt.take_any _ _ _ _ _ SA.out).mono ?_); rintro e w2 ⟨rfl, hb, hg⟩; have XA := Lib.hid hb; have XB := Lib.hid (SB.out.only hg (by simp)); have XL := Lib.hid (Lt.bel_put SL.out hg (Nat.le_refl _)); have XP := HP.out.only hg (fun e => by injection e with e; exact LT.out.1 e.symm); obtain ⟨e0, e1, e2⟩ := Lt.box3c XP; have HX := Lib.hid XP; clear hb hg XP)
          | ((with_reducible refine (Lt.take_any _ _ _ _ _ XB.out).mono ?_); rintro e w3 ⟨he, hb, hg⟩; rw [RG.out.takex] at he; subst he; have YB := Lib.hid hb; have YA := Lib.hid (XA.out.only hg (by simp)); have YL := Lib.hid (Lt.bel_put XL.out hg (Nat.le_succ _)); have YP := HX.out.only hg (fun e => by injection e with e; exact LT.out.2 e.symm); obtain ⟨f0, f1, f2⟩ := Lt.box3c YP; clear hb hg YP))
        go_roundw
        case rel => exact ⟨k + 1, _, _, by go_num, KK.out.1, KK.out.2, YA, YB, Lib.hid RG.out.take2, YL⟩
        case measure =>
          have := KK.out
          simp [intOf]
          omega
      · have NE := Lib.hid ho
        have ho' : (dy == ow) = false := by simpa using ho
        go_wp2_with (go_at_call 12; ((with_reducible refine (Lt.take_any _ _ _ _ _ SA.out).mono ?_); rintro e w2 ⟨rfl, hb, hg⟩; have XA := Lib.hid hb; have XB := Lib.hid (SB.out.only hg (by simp)); have XL := Lib.hid (Lt.bel_put SL.out hg (Nat.le_refl _)); have XP := HP.out.only hg (fun e => by injection e with e; exact LT.out.1 e.symm); obtain ⟨e0, e1, e2⟩ := Lt.box3c XP; have HX := Lib.hid XP; clear hb hg XP))
        go_roundw
        case rel => exact ⟨k + 1, _, _, by go_num, KK.out.1, KK.out.2, XA, XB, Lib.hid (RG.out.take1 NE.out), XL⟩
        case measure =>
          have := KK.out
          simp [intOf]
          omega
end Go.Proofs.Ytbbgijjeimjgoaa
