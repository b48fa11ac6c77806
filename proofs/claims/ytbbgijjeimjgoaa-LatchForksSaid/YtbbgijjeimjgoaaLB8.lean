/- LatchForks, walked. -/
import Derived.Test.YtbbgijjeimjgoaaLB7
namespace Go.Proofs.Ytbbgijjeimjgoaa
open Go.RowKit Go.Lib
set_option linter.unusedVariables false
set_option maxRecDepth 8000

def Lt.foldF (n : Nat) (o : Nat → Nat × Nat) (d : Nat → Lt.Ded) : Nat → Nat → Nat × Nat
  | 0 => o
  | k + 1 => Lt.deedO n (Lt.foldF n o d k) (d k)
set_option maxRecDepth 20000 in
set_option maxHeartbeats 6400000 in
theorem latchforks_walk (x : Int) (A : Option Addr) (n cp : Nat) (d : Nat → Lt.Ded) (B : Option Addr) (n2 cp2 : Nat) (d2 : Nat → Lt.Ded) (w : World) (hd : Lt.DedL w A n d) (hn : n ≤ 9223372036854775807) (hd2 : Lt.DedL w B n2 d2) (hn2 : n2 ≤ 9223372036854775807) : Calls Try.prog 5 #[.int .i64 x, .slice A n cp, .slice B n2 cp2] w fun e w' => e = .returned (.bool true) ∧ Below w.heap.size w w' := by
  obtain ⟨i0, hi0, hz0, hz1, hz2⟩ := Lt.parts Lt.row_all
  have hc8 := Lt.cap_le x
  obtain ⟨m, hm⟩ : ∃ m, m = Lt.cap x := ⟨_, rfl⟩
  have hcase : (x < 0 ∧ m = 0) ∨ (8 < x ∧ ¬ x < 0 ∧ m = 8) ∨ x = (m : Int) := by
    rw [hm]; unfold Lt.cap
    by_cases h0 : x < 0
    · rw [if_pos h0]; exact .inl ⟨h0, rfl⟩
    · rw [if_neg h0]
      by_cases h8 : 8 < x
      · rw [if_pos h8]; exact .inr (.inl ⟨h8, h0, rfl⟩)
      · rw [if_neg h8]; exact .inr (.inr (by omega))
  rw [← hm] at hc8
  have HN := Lib.hid (Lt.new_any x w)
  rw [← hm] at HN
  obtain ⟨W1, hW1, G1, P1, Z1⟩ := Lt.box1 w 42 (Lt.brdC m Lt.o0)
  rw [← hW1] at HN
  have HB := Lib.hid (show Lt.Brd W1 w.heap.size m Lt.o0 from ⟨P1, hc8, fun i _ => by simp [Lt.o0]⟩)
  have HLT := Lib.hid P1.lt
  have HG1 := Lib.hid G1
  have HD := Lib.hid hd
  have HD2 := Lib.hid hd2
  have H8 := Lib.hid hc8
  have H0 := Lib.hid hi0
  have H1 := Lib.hid hz0
  have H2 := Lib.hid hz1
  have H3 := Lib.hid hz2
  have HZ1 := Lib.hid Z1
  clear hW1 G1 P1 Z1 hd hd2 hc8 hm hi0 hz0 hz1 hz2
  have m0 : (0 : Int) ≤ (m : Int) := by omega
  rcases hcase with ⟨hx, hm0⟩ | ⟨hx, hx0, hm8⟩ | rfl
  · have HM := Lib.hid (show (0 : Int) = (m : Int) from by omega)
    clear hm0
    go_enter Try.func5, Try.ntmps5
    go_upto_region 2 with (go_at_call 6; (with_reducible refine HN.out.mono ?_); rintro e W1 ⟨rfl, rfl⟩)
    go_upto_region 3 with (refine wpList_make_full _ rfl (.tmp 18) (.tmp 18) 25 rfl W1.heap.size 46 i0 (.agg (Lt.rowC Lt.z0 Lt.f0)) 16 Try.underlying25 H0.out H1.out H2.out .i64 .i64 0 0 m rfl rfl HM.out HM.out (by rw [H3.out]; have := H8.out; omega) (by unfold maxLen; have := H8.out; omega) (Nat.le_refl _) ?_; intro w2 hown hg; have HT := Lib.hid (Lt.two_new HB.out HLT.out hown hg); have HG2 := Lib.hid (only_trans HG1.out hg); have HFR := Lib.hid (show ∀ i, Lt.Ft w.heap.size (some ⟨W1.heap.size, 0, none⟩) m m i → w.heap.size ≤ i from (by rintro i (rfl | e); exact Nat.le_refl _; simp [Value.ownBlock] at e; have := HZ1.out; omega)); clear hown hg)
    clear m0
    go_wp2
    go_loopw [9] (fun y wr => ∃ k : Nat, y = .int .i64 k ∧ k ≤ n ∧ k ≤ 60 ∧ Hid (Lt.Two wr w.heap.size (some ⟨W1.heap.size, 0, none⟩) m m k (Lt.foldO m d k)) ∧ Hid (Below w.heap.size w wr)) (fun y _ => 60 - (intOf y).toNat)
    case atStart => exact ⟨0, rfl, Nat.zero_le _, Nat.zero_le _, HT, Lib.hid (below_of_only HG2.out (Nat.le_refl _) (by simp))⟩
    case round =>
      obtain ⟨k, rfl, hk, hk60, RT, RL⟩ := hrel
      clear HT HG2 HB HLT HG1 H0 H1 H2 H3
      by_cases hin : k < n ∧ k < 60
      case neg =>
        by_cases h1 : k < n
        · have h2 : ¬ k < 60 := fun e => hin ⟨h1, e⟩
          have i1 : (k : Int) < (n : Int) := by omega
          have i2 : ¬ (k : Int) < 60 := by omega
          have K60 := Lib.hid (show k ≤ 60 from hk60)
          obtain ⟨OO, hOO⟩ : ∃ OO, OO = Lt.foldO m d k := ⟨_, rfl⟩
          rw [← hOO] at RT
          obtain ⟨bX, qB⟩ : ∃ o, Lt.Brd wr w.heap.size m o ∧ o = OO := by obtain ⟨X, q⟩ := RT.out; exact ⟨OO, q.brd, rfl⟩
          obtain ⟨qB, rfl⟩ := qB
          have HFK := Lib.hid (Lt.fork_any wr w.heap.size m bX qB)
          obtain ⟨A2, c2, W9, hap, fb, fa, gg, ff, fw⟩ := Lt.two_fork RT.out
          have HAP := Lib.hid hap
          have FA := Lib.hid fa
          have FB := Lib.hid (show Lt.Two W9 wr.heap.size (some A2) m c2 (k + 0) (Lt.foldF m bX d2 0) from fb)
          have FL := Lib.hid (Lt.bel_any RL.out gg)
          have HF1 := Lib.hid ff
          have HF2 := Lib.hid fw
          have HWA := Lib.hid (show w.heap.size ≤ wr.heap.size from RL.out.size)
          obtain ⟨wa, hwa⟩ : ∃ wa, wa = wr := ⟨_, rfl⟩
          rw [← hwa] at HFK HAP FB HF1 HF2 HWA ⊢
          clear hap fb fa gg ff fw qB hOO RT RL hwa
          go_wp2_with (first
            | (go_at_call 15; (with_reducible refine HFK.out.mono ?_); rintro e w7 ⟨rfl, rfl⟩)
            | (at_builtin; refine wpList_append_eq rfl (.tmp 41) (.tmp 42) 25 rfl HAP.out rfl rfl ?_))
          clear hin h1 h2 hk hk60 i1 i2
          go_loopw [12] (fun y wr => ∃ j : Nat, y = .int .i64 j ∧ j ≤ n2 ∧ j ≤ 60 ∧ Hid (Lt.Two wr w.heap.size (some ⟨W1.heap.size, 0, none⟩) m m k bX) ∧ Hid (Lt.Two wr wa.heap.size (some A2) m c2 (k + j) (Lt.foldF m bX d2 j)) ∧ Hid (Below w.heap.size w wr)) (fun y _ => 60 - (intOf y).toNat)
          case atStart => exact ⟨0, rfl, Nat.zero_le _, Nat.zero_le _, FA, FB, FL⟩
          case round =>
            obtain ⟨j, rfl, hj, hj60, RA, RT, RL⟩ := hrel
            clear FA FB FL
            by_cases hin2 : j < n2 ∧ j < 60
            case neg =>
              by_cases h1 : j < n2
              · have h2 : ¬ j < 60 := fun e => hin2 ⟨h1, e⟩
                have i1 : (j : Int) < (n2 : Int) := by omega
                have i2 : ¬ (j : Int) < 60 := by omega
                clear hin2 h1 h2 hj hj60
                go_wp2_with (first
                  | (go_at_call 9; (with_reducible refine (Lt.live22_any _).mono ?_); rintro e w4 ⟨rfl, bel⟩; have SA := Lib.hid (RA.out.keeps (Keeps.of_below bel (fun _ => False)) (fun _ _ x => x)); have SB := Lib.hid (RT.out.keeps (Keeps.of_below bel (fun _ => False)) (fun _ _ x => x)); have SL := Lib.hid (RL.out.trans (bel.mono RL.out.size)); clear bel)
                  | (go_at_call 8; first
                    | ((with_reducible refine (Lt.told_any SA.out).mono ?_); rintro e w5 ⟨rfl, bel⟩; have TB := Lib.hid (SB.out.keeps (Keeps.of_below bel (fun _ => False)) (fun _ _ x => x)); have TL := Lib.hid (SL.out.trans (bel.mono SL.out.size)); clear bel)
                    | ((with_reducible refine (Lt.told_any TB.out).mono ?_); rintro e w6 ⟨rfl, bel⟩; have UL := Lib.hid (TL.out.trans (bel.mono TL.out.size)); clear bel))
                  | (go_at_call 10; (with_reducible refine (Lt.raise_nil _ _ _).mono ?_); rintro e w7 ⟨rfl, rfl⟩)
                  | (go_at_call 11; (with_reducible refine (Lt.open_nil _ _).mono ?_); rintro e w7 ⟨rfl, rfl⟩)
                  | (go_at_call 12; (with_reducible refine (Lt.take_nil _ _).mono ?_); rintro e w7 ⟨rfl, rfl⟩)
                  | (go_at_call 13; (with_reducible refine (Lt.latched_nil _ _).mono ?_); rintro e w7 ⟨rfl, rfl⟩)
                  | (go_at_call 14; (with_reducible refine (Lt.delivered_nil _ _).mono ?_); rintro e w7 ⟨rfl, rfl⟩)
                  | (go_at_call 15; (with_reducible refine (Lt.fork_nil _).mono ?_); rintro e w7 ⟨rfl, rfl⟩))
                go_ret
                exact ⟨by first | rfl | (simp; done), UL.out⟩
              · have i1 : ¬ (j : Int) < (n2 : Int) := by omega
                clear hin2 h1 hj hj60
                go_wp2_with (first
                  | (go_at_call 9; (with_reducible refine (Lt.live22_any _).mono ?_); rintro e w4 ⟨rfl, bel⟩; have SA := Lib.hid (RA.out.keeps (Keeps.of_below bel (fun _ => False)) (fun _ _ x => x)); have SB := Lib.hid (RT.out.keeps (Keeps.of_below bel (fun _ => False)) (fun _ _ x => x)); have SL := Lib.hid (RL.out.trans (bel.mono RL.out.size)); clear bel)
                  | (go_at_call 8; first
                    | ((with_reducible refine (Lt.told_any SA.out).mono ?_); rintro e w5 ⟨rfl, bel⟩; have TB := Lib.hid (SB.out.keeps (Keeps.of_below bel (fun _ => False)) (fun _ _ x => x)); have TL := Lib.hid (SL.out.trans (bel.mono SL.out.size)); clear bel)
                    | ((with_reducible refine (Lt.told_any TB.out).mono ?_); rintro e w6 ⟨rfl, bel⟩; have UL := Lib.hid (TL.out.trans (bel.mono TL.out.size)); clear bel))
                  | (go_at_call 10; (with_reducible refine (Lt.raise_nil _ _ _).mono ?_); rintro e w7 ⟨rfl, rfl⟩)
                  | (go_at_call 11; (with_reducible refine (Lt.open_nil _ _).mono ?_); rintro e w7 ⟨rfl, rfl⟩)
                  | (go_at_call 12; (with_reducible refine (Lt.take_nil _ _).mono ?_); rintro e w7 ⟨rfl, rfl⟩)
                  | (go_at_call 13; (with_reducible refine (Lt.latched_nil _ _).mono ?_); rintro e w7 ⟨rfl, rfl⟩)
                  | (go_at_call 14; (with_reducible refine (Lt.delivered_nil _ _).mono ?_); rintro e w7 ⟨rfl, rfl⟩)
                  | (go_at_call 15; (with_reducible refine (Lt.fork_nil _).mono ?_); rintro e w7 ⟨rfl, rfl⟩))
                go_ret
                exact ⟨by first | rfl | (simp; done), UL.out⟩
            case pos =>
              obtain ⟨h1, h2⟩ := hin2
              obtain ⟨g, off, rfl, hg, hc⟩ := HD2.out (by omega)
              have i1 : (j : Int) < (n2 : Int) := by omega
              have i2 : (j : Int) < 60 := by omega
              have i3 : (0 : Int) ≤ (j : Int) := by omega
              have u1 : IntKind.i64.wrap ((j : Int) + 1) = ((j + 1 : Nat) : Int) := by rw [IntKind.wrap_i64]; omega
              obtain ⟨q0, q1, q2⟩ := hc j h1
              have d0 : wr.cell? ⟨g, off + j * 3, none⟩ = some (.int .i64 (d2 j).1) := (RL.out.cell (p := ⟨g, _, none⟩) hg).trans q0
              have d1 : wr.cell? ⟨g, off + j * 3 + 1, none⟩ = some (.int .i64 (d2 j).2.1) := (RL.out.cell (p := ⟨g, _, none⟩) hg).trans q1
              have d2' : wr.cell? ⟨g, off + j * 3 + 2, none⟩ = some (.int .i64 (d2 j).2.2) := (RL.out.cell (p := ⟨g, _, none⟩) hg).trans q2
              have HS := Lib.hid (Lt.step_any RT.out (by have := K60.out; omega) (d2 j))
              have HE := Lib.hid (show Lt.foldF m bX d2 (j + 1) = Lt.deedO m (Lt.foldF m bX d2 j) (d2 j) from rfl)
              generalize d2 j = dk at *
              obtain ⟨dx, dy, dz⟩ := dk
              replace HS := Lib.hid (show Calls Try.prog 7 #[.pointer (some ⟨wa.heap.size, 0, none⟩), .slice (some A2) m c2, .agg #[.int .i64 dx, .int .i64 dy, .int .i64 dz]] wr _ from HS.out)
              have KK := Lib.hid (show j + 1 ≤ n2 ∧ j + 1 ≤ 60 from ⟨by omega, by omega⟩)
              clear q0 q1 q2 hc hg hj hj60 h1 h2 HD2 RT
              go_wp2_with (go_at_call 7; (with_reducible refine HS.out.mono ?_); rintro e w3 ⟨rfl, ht, hkk⟩; have XT := Lib.hid ht; have XA := Lib.hid (RA.out.keeps hkk (fun i hi hf => by have := HF2.out i hi; have := HF1.out i hf; omega)); have XL := Lib.hid (RL.out.trans (hkk.below RL.out.size (fun i hi hf => by have := HF1.out i hf; have := HWA.out; omega))); clear ht hkk)
              go_roundw
              case rel => exact ⟨j + 1, by go_num, KK.out.1, KK.out.2, XA, Lib.hid (by rw [HE.out, ← Nat.add_assoc]; exact XT.out), XL⟩
              case measure =>
                have := KK.out
                simp [intOf]
                omega
        · have i1 : ¬ (k : Int) < (n : Int) := by omega
          have K60 := Lib.hid (show k ≤ 60 from hk60)
          obtain ⟨OO, hOO⟩ : ∃ OO, OO = Lt.foldO m d k := ⟨_, rfl⟩
          rw [← hOO] at RT
          obtain ⟨bX, qB⟩ : ∃ o, Lt.Brd wr w.heap.size m o ∧ o = OO := by obtain ⟨X, q⟩ := RT.out; exact ⟨OO, q.brd, rfl⟩
          obtain ⟨qB, rfl⟩ := qB
          have HFK := Lib.hid (Lt.fork_any wr w.heap.size m bX qB)
          obtain ⟨A2, c2, W9, hap, fb, fa, gg, ff, fw⟩ := Lt.two_fork RT.out
          have HAP := Lib.hid hap
          have FA := Lib.hid fa
          have FB := Lib.hid (show Lt.Two W9 wr.heap.size (some A2) m c2 (k + 0) (Lt.foldF m bX d2 0) from fb)
          have FL := Lib.hid (Lt.bel_any RL.out gg)
          have HF1 := Lib.hid ff
          have HF2 := Lib.hid fw
          have HWA := Lib.hid (show w.heap.size ≤ wr.heap.size from RL.out.size)
          obtain ⟨wa, hwa⟩ : ∃ wa, wa = wr := ⟨_, rfl⟩
          rw [← hwa] at HFK HAP FB HF1 HF2 HWA ⊢
          clear hap fb fa gg ff fw qB hOO RT RL hwa
          go_wp2_with (first
            | (go_at_call 15; (with_reducible refine HFK.out.mono ?_); rintro e w7 ⟨rfl, rfl⟩)
            | (at_builtin; refine wpList_append_eq rfl (.tmp 41) (.tmp 42) 25 rfl HAP.out rfl rfl ?_))
          clear hin h1 hk hk60 i1
          go_loopw [12] (fun y wr => ∃ j : Nat, y = .int .i64 j ∧ j ≤ n2 ∧ j ≤ 60 ∧ Hid (Lt.Two wr w.heap.size (some ⟨W1.heap.size, 0, none⟩) m m k bX) ∧ Hid (Lt.Two wr wa.heap.size (some A2) m c2 (k + j) (Lt.foldF m bX d2 j)) ∧ Hid (Below w.heap.size w wr)) (fun y _ => 60 - (intOf y).toNat)
          case atStart => exact ⟨0, rfl, Nat.zero_le _, Nat.zero_le _, FA, FB, FL⟩
          case round =>
            obtain ⟨j, rfl, hj, hj60, RA, RT, RL⟩ := hrel
            clear FA FB FL
            by_cases hin2 : j < n2 ∧ j < 60
            case neg =>
              by_cases h1 : j < n2
              · have h2 : ¬ j < 60 := fun e => hin2 ⟨h1, e⟩
                have i1 : (j : Int) < (n2 : Int) := by omega
                have i2 : ¬ (j : Int) < 60 := by omega
                clear hin2 h1 h2 hj hj60
                go_wp2_with (first
                  | (go_at_call 9; (with_reducible refine (Lt.live22_any _).mono ?_); rintro e w4 ⟨rfl, bel⟩; have SA := Lib.hid (RA.out.keeps (Keeps.of_below bel (fun _ => False)) (fun _ _ x => x)); have SB := Lib.hid (RT.out.keeps (Keeps.of_below bel (fun _ => False)) (fun _ _ x => x)); have SL := Lib.hid (RL.out.trans (bel.mono RL.out.size)); clear bel)
                  | (go_at_call 8; first
                    | ((with_reducible refine (Lt.told_any SA.out).mono ?_); rintro e w5 ⟨rfl, bel⟩; have TB := Lib.hid (SB.out.keeps (Keeps.of_below bel (fun _ => False)) (fun _ _ x => x)); have TL := Lib.hid (SL.out.trans (bel.mono SL.out.size)); clear bel)
                    | ((with_reducible refine (Lt.told_any TB.out).mono ?_); rintro e w6 ⟨rfl, bel⟩; have UL := Lib.hid (TL.out.trans (bel.mono TL.out.size)); clear bel))
                  | (go_at_call 10; (with_reducible refine (Lt.raise_nil _ _ _).mono ?_); rintro e w7 ⟨rfl, rfl⟩)
                  | (go_at_call 11; (with_reducible refine (Lt.open_nil _ _).mono ?_); rintro e w7 ⟨rfl, rfl⟩)
                  | (go_at_call 12; (with_reducible refine (Lt.take_nil _ _).mono ?_); rintro e w7 ⟨rfl, rfl⟩)
                  | (go_at_call 13; (with_reducible refine (Lt.latched_nil _ _).mono ?_); rintro e w7 ⟨rfl, rfl⟩)
                  | (go_at_call 14; (with_reducible refine (Lt.delivered_nil _ _).mono ?_); rintro e w7 ⟨rfl, rfl⟩)
                  | (go_at_call 15; (with_reducible refine (Lt.fork_nil _).mono ?_); rintro e w7 ⟨rfl, rfl⟩))
                go_ret
                exact ⟨by first | rfl | (simp; done), UL.out⟩
              · have i1 : ¬ (j : Int) < (n2 : Int) := by omega
                clear hin2 h1 hj hj60
                go_wp2_with (first
                  | (go_at_call 9; (with_reducible refine (Lt.live22_any _).mono ?_); rintro e w4 ⟨rfl, bel⟩; have SA := Lib.hid (RA.out.keeps (Keeps.of_below bel (fun _ => False)) (fun _ _ x => x)); have SB := Lib.hid (RT.out.keeps (Keeps.of_below bel (fun _ => False)) (fun _ _ x => x)); have SL := Lib.hid (RL.out.trans (bel.mono RL.out.size)); clear bel)
                  | (go_at_call 8; first
                    | ((with_reducible refine (Lt.told_any SA.out).mono ?_); rintro e w5 ⟨rfl, bel⟩; have TB := Lib.hid (SB.out.keeps (Keeps.of_below bel (fun _ => False)) (fun _ _ x => x)); have TL := Lib.hid (SL.out.trans (bel.mono SL.out.size)); clear bel)
                    | ((with_reducible refine (Lt.told_any TB.out).mono ?_); rintro e w6 ⟨rfl, bel⟩; have UL := Lib.hid (TL.out.trans (bel.mono TL.out.size)); clear bel))
                  | (go_at_call 10; (with_reducible refine (Lt.raise_nil _ _ _).mono ?_); rintro e w7 ⟨rfl, rfl⟩)
                  | (go_at_call 11; (with_reducible refine (Lt.open_nil _ _).mono ?_); rintro e w7 ⟨rfl, rfl⟩)
                  | (go_at_call 12; (with_reducible refine (Lt.take_nil _ _).mono ?_); rintro e w7 ⟨rfl, rfl⟩)
                  | (go_at_call 13; (with_reducible refine (Lt.latched_nil _ _).mono ?_); rintro e w7 ⟨rfl, rfl⟩)
                  | (go_at_call 14; (with_reducible refine (Lt.delivered_nil _ _).mono ?_); rintro e w7 ⟨rfl, rfl⟩)
                  | (go_at_call 15; (with_reducible refine (Lt.fork_nil _).mono ?_); rintro e w7 ⟨rfl, rfl⟩))
                go_ret
                exact ⟨by first | rfl | (simp; done), UL.out⟩
            case pos =>
              obtain ⟨h1, h2⟩ := hin2
              obtain ⟨g, off, rfl, hg, hc⟩ := HD2.out (by omega)
              have i1 : (j : Int) < (n2 : Int) := by omega
              have i2 : (j : Int) < 60 := by omega
              have i3 : (0 : Int) ≤ (j : Int) := by omega
              have u1 : IntKind.i64.wrap ((j : Int) + 1) = ((j + 1 : Nat) : Int) := by rw [IntKind.wrap_i64]; omega
              obtain ⟨q0, q1, q2⟩ := hc j h1
              have d0 : wr.cell? ⟨g, off + j * 3, none⟩ = some (.int .i64 (d2 j).1) := (RL.out.cell (p := ⟨g, _, none⟩) hg).trans q0
              have d1 : wr.cell? ⟨g, off + j * 3 + 1, none⟩ = some (.int .i64 (d2 j).2.1) := (RL.out.cell (p := ⟨g, _, none⟩) hg).trans q1
              have d2' : wr.cell? ⟨g, off + j * 3 + 2, none⟩ = some (.int .i64 (d2 j).2.2) := (RL.out.cell (p := ⟨g, _, none⟩) hg).trans q2
              have HS := Lib.hid (Lt.step_any RT.out (by have := K60.out; omega) (d2 j))
              have HE := Lib.hid (show Lt.foldF m bX d2 (j + 1) = Lt.deedO m (Lt.foldF m bX d2 j) (d2 j) from rfl)
              generalize d2 j = dk at *
              obtain ⟨dx, dy, dz⟩ := dk
              replace HS := Lib.hid (show Calls Try.prog 7 #[.pointer (some ⟨wa.heap.size, 0, none⟩), .slice (some A2) m c2, .agg #[.int .i64 dx, .int .i64 dy, .int .i64 dz]] wr _ from HS.out)
              have KK := Lib.hid (show j + 1 ≤ n2 ∧ j + 1 ≤ 60 from ⟨by omega, by omega⟩)
              clear q0 q1 q2 hc hg hj hj60 h1 h2 HD2 RT
              go_wp2_with (go_at_call 7; (with_reducible refine HS.out.mono ?_); rintro e w3 ⟨rfl, ht, hkk⟩; have XT := Lib.hid ht; have XA := Lib.hid (RA.out.keeps hkk (fun i hi hf => by have := HF2.out i hi; have := HF1.out i hf; omega)); have XL := Lib.hid (RL.out.trans (hkk.below RL.out.size (fun i hi hf => by have := HF1.out i hf; have := HWA.out; omega))); clear ht hkk)
              go_roundw
              case rel => exact ⟨j + 1, by go_num, KK.out.1, KK.out.2, XA, Lib.hid (by rw [HE.out, ← Nat.add_assoc]; exact XT.out), XL⟩
              case measure =>
                have := KK.out
                simp [intOf]
                omega
      case pos =>
        obtain ⟨h1, h2⟩ := hin
        obtain ⟨g, off, rfl, hg, hc⟩ := HD.out (by omega)
        have i1 : (k : Int) < (n : Int) := by omega
        have i2 : (k : Int) < 60 := by omega
        have i3 : (0 : Int) ≤ (k : Int) := by omega
        have u1 : IntKind.i64.wrap ((k : Int) + 1) = ((k + 1 : Nat) : Int) := by rw [IntKind.wrap_i64]; omega
        obtain ⟨q0, q1, q2⟩ := hc k h1
        have d0 : wr.cell? ⟨g, off + k * 3, none⟩ = some (.int .i64 (d k).1) := (RL.out.cell (p := ⟨g, _, none⟩) hg).trans q0
        have d1 : wr.cell? ⟨g, off + k * 3 + 1, none⟩ = some (.int .i64 (d k).2.1) := (RL.out.cell (p := ⟨g, _, none⟩) hg).trans q1
        have d2' : wr.cell? ⟨g, off + k * 3 + 2, none⟩ = some (.int .i64 (d k).2.2) := (RL.out.cell (p := ⟨g, _, none⟩) hg).trans q2
        have HS := Lib.hid (Lt.step_any RT.out (by omega) (d k))
        have HE := Lib.hid (show Lt.foldO m d (k + 1) = Lt.deedO m (Lt.foldO m d k) (d k) from rfl)
        generalize d k = dk at *
        obtain ⟨dx, dy, dz⟩ := dk
        replace HS := Lib.hid (show Calls Try.prog 7 #[.pointer (some ⟨w.heap.size, 0, none⟩), .slice (some ⟨W1.heap.size, 0, none⟩) m m, .agg #[.int .i64 dx, .int .i64 dy, .int .i64 dz]] wr _ from HS.out)
        have KK := Lib.hid (show k + 1 ≤ n ∧ k + 1 ≤ 60 from ⟨by omega, by omega⟩)
        clear q0 q1 q2 hc hg hk hk60 h1 h2 HD RT
        go_wp2_with (go_at_call 7; (with_reducible refine HS.out.mono ?_); rintro e w3 ⟨rfl, ht, hkk⟩; have XT := Lib.hid ht; have XL := Lib.hid (RL.out.trans (hkk.below RL.out.size (fun i hi hf => by have := HFR.out i hf; omega))); clear ht hkk)
        go_roundw
        case rel => exact ⟨k + 1, by go_num, KK.out.1, KK.out.2, Lib.hid (by rw [HE.out]; exact XT.out), XL⟩
        case measure =>
          have := KK.out
          simp [intOf]
          omega
  · have HM := Lib.hid (show (8 : Int) = (m : Int) from by omega)
    clear hm8
    go_enter Try.func5, Try.ntmps5
    go_upto_region 2 with (go_at_call 6; (with_reducible refine HN.out.mono ?_); rintro e W1 ⟨rfl, rfl⟩)
    go_upto_region 3 with (refine wpList_make_full _ rfl (.tmp 18) (.tmp 18) 25 rfl W1.heap.size 46 i0 (.agg (Lt.rowC Lt.z0 Lt.f0)) 16 Try.underlying25 H0.out H1.out H2.out .i64 .i64 8 8 m rfl rfl HM.out HM.out (by rw [H3.out]; have := H8.out; omega) (by unfold maxLen; have := H8.out; omega) (Nat.le_refl _) ?_; intro w2 hown hg; have HT := Lib.hid (Lt.two_new HB.out HLT.out hown hg); have HG2 := Lib.hid (only_trans HG1.out hg); have HFR := Lib.hid (show ∀ i, Lt.Ft w.heap.size (some ⟨W1.heap.size, 0, none⟩) m m i → w.heap.size ≤ i from (by rintro i (rfl | e); exact Nat.le_refl _; simp [Value.ownBlock] at e; have := HZ1.out; omega)); clear hown hg)
    clear m0
    go_wp2
    go_loopw [9] (fun y wr => ∃ k : Nat, y = .int .i64 k ∧ k ≤ n ∧ k ≤ 60 ∧ Hid (Lt.Two wr w.heap.size (some ⟨W1.heap.size, 0, none⟩) m m k (Lt.foldO m d k)) ∧ Hid (Below w.heap.size w wr)) (fun y _ => 60 - (intOf y).toNat)
    case atStart => exact ⟨0, rfl, Nat.zero_le _, Nat.zero_le _, HT, Lib.hid (below_of_only HG2.out (Nat.le_refl _) (by simp))⟩
    case round =>
      obtain ⟨k, rfl, hk, hk60, RT, RL⟩ := hrel
      clear HT HG2 HB HLT HG1 H0 H1 H2 H3
      by_cases hin : k < n ∧ k < 60
      case neg =>
        by_cases h1 : k < n
        · have h2 : ¬ k < 60 := fun e => hin ⟨h1, e⟩
          have i1 : (k : Int) < (n : Int) := by omega
          have i2 : ¬ (k : Int) < 60 := by omega
          have K60 := Lib.hid (show k ≤ 60 from hk60)
          obtain ⟨OO, hOO⟩ : ∃ OO, OO = Lt.foldO m d k := ⟨_, rfl⟩
          rw [← hOO] at RT
          obtain ⟨bX, qB⟩ : ∃ o, Lt.Brd wr w.heap.size m o ∧ o = OO := by obtain ⟨X, q⟩ := RT.out; exact ⟨OO, q.brd, rfl⟩
          obtain ⟨qB, rfl⟩ := qB
          have HFK := Lib.hid (Lt.fork_any wr w.heap.size m bX qB)
          obtain ⟨A2, c2, W9, hap, fb, fa, gg, ff, fw⟩ := Lt.two_fork RT.out
          have HAP := Lib.hid hap
          have FA := Lib.hid fa
          have FB := Lib.hid (show Lt.Two W9 wr.heap.size (some A2) m c2 (k + 0) (Lt.foldF m bX d2 0) from fb)
          have FL := Lib.hid (Lt.bel_any RL.out gg)
          have HF1 := Lib.hid ff
          have HF2 := Lib.hid fw
          have HWA := Lib.hid (show w.heap.size ≤ wr.heap.size from RL.out.size)
          obtain ⟨wa, hwa⟩ : ∃ wa, wa = wr := ⟨_, rfl⟩
          rw [← hwa] at HFK HAP FB HF1 HF2 HWA ⊢
          clear hap fb fa gg ff fw qB hOO RT RL hwa
          go_wp2_with (first
            | (go_at_call 15; (with_reducible refine HFK.out.mono ?_); rintro e w7 ⟨rfl, rfl⟩)
            | (at_builtin; refine wpList_append_eq rfl (.tmp 41) (.tmp 42) 25 rfl HAP.out rfl rfl ?_))
          clear hin h1 h2 hk hk60 i1 i2
          go_loopw [12] (fun y wr => ∃ j : Nat, y = .int .i64 j ∧ j ≤ n2 ∧ j ≤ 60 ∧ Hid (Lt.Two wr w.heap.size (some ⟨W1.heap.size, 0, none⟩) m m k bX) ∧ Hid (Lt.Two wr wa.heap.size (some A2) m c2 (k + j) (Lt.foldF m bX d2 j)) ∧ Hid (Below w.heap.size w wr)) (fun y _ => 60 - (intOf y).toNat)
          case atStart => exact ⟨0, rfl, Nat.zero_le _, Nat.zero_le _, FA, FB, FL⟩
          case round =>
            obtain ⟨j, rfl, hj, hj60, RA, RT, RL⟩ := hrel
            clear FA FB FL
            by_cases hin2 : j < n2 ∧ j < 60
            case neg =>
              by_cases h1 : j < n2
              · have h2 : ¬ j < 60 := fun e => hin2 ⟨h1, e⟩
                have i1 : (j : Int) < (n2 : Int) := by omega
                have i2 : ¬ (j : Int) < 60 := by omega
                clear hin2 h1 h2 hj hj60
                go_wp2_with (first
                  | (go_at_call 9; (with_reducible refine (Lt.live22_any _).mono ?_); rintro e w4 ⟨rfl, bel⟩; have SA := Lib.hid (RA.out.keeps (Keeps.of_below bel (fun _ => False)) (fun _ _ x => x)); have SB := Lib.hid (RT.out.keeps (Keeps.of_below bel (fun _ => False)) (fun _ _ x => x)); have SL := Lib.hid (RL.out.trans (bel.mono RL.out.size)); clear bel)
                  | (go_at_call 8; first
                    | ((with_reducible refine (Lt.told_any SA.out).mono ?_); rintro e w5 ⟨rfl, bel⟩; have TB := Lib.hid (SB.out.keeps (Keeps.of_below bel (fun _ => False)) (fun _ _ x => x)); have TL := Lib.hid (SL.out.trans (bel.mono SL.out.size)); clear bel)
                    | ((with_reducible refine (Lt.told_any TB.out).mono ?_); rintro e w6 ⟨rfl, bel⟩; have UL := Lib.hid (TL.out.trans (bel.mono TL.out.size)); clear bel))
                  | (go_at_call 10; (with_reducible refine (Lt.raise_nil _ _ _).mono ?_); rintro e w7 ⟨rfl, rfl⟩)
                  | (go_at_call 11; (with_reducible refine (Lt.open_nil _ _).mono ?_); rintro e w7 ⟨rfl, rfl⟩)
                  | (go_at_call 12; (with_reducible refine (Lt.take_nil _ _).mono ?_); rintro e w7 ⟨rfl, rfl⟩)
                  | (go_at_call 13; (with_reducible refine (Lt.latched_nil _ _).mono ?_); rintro e w7 ⟨rfl, rfl⟩)
                  | (go_at_call 14; (with_reducible refine (Lt.delivered_nil _ _).mono ?_); rintro e w7 ⟨rfl, rfl⟩)
                  | (go_at_call 15; (with_reducible refine (Lt.fork_nil _).mono ?_); rintro e w7 ⟨rfl, rfl⟩))
                go_ret
                exact ⟨by first | rfl | (simp; done), UL.out⟩
              · have i1 : ¬ (j : Int) < (n2 : Int) := by omega
                clear hin2 h1 hj hj60
                go_wp2_with (first
                  | (go_at_call 9; (with_reducible refine (Lt.live22_any _).mono ?_); rintro e w4 ⟨rfl, bel⟩; have SA := Lib.hid (RA.out.keeps (Keeps.of_below bel (fun _ => False)) (fun _ _ x => x)); have SB := Lib.hid (RT.out.keeps (Keeps.of_below bel (fun _ => False)) (fun _ _ x => x)); have SL := Lib.hid (RL.out.trans (bel.mono RL.out.size)); clear bel)
                  | (go_at_call 8; first
                    | ((with_reducible refine (Lt.told_any SA.out).mono ?_); rintro e w5 ⟨rfl, bel⟩; have TB := Lib.hid (SB.out.keeps (Keeps.of_below bel (fun _ => False)) (fun _ _ x => x)); have TL := Lib.hid (SL.out.trans (bel.mono SL.out.size)); clear bel)
                    | ((with_reducible refine (Lt.told_any TB.out).mono ?_); rintro e w6 ⟨rfl, bel⟩; have UL := Lib.hid (TL.out.trans (bel.mono TL.out.size)); clear bel))
                  | (go_at_call 10; (with_reducible refine (Lt.raise_nil _ _ _).mono ?_); rintro e w7 ⟨rfl, rfl⟩)
                  | (go_at_call 11; (with_reducible refine (Lt.open_nil _ _).mono ?_); rintro e w7 ⟨rfl, rfl⟩)
                  | (go_at_call 12; (with_reducible refine (Lt.take_nil _ _).mono ?_); rintro e w7 ⟨rfl, rfl⟩)
                  | (go_at_call 13; (with_reducible refine (Lt.latched_nil _ _).mono ?_); rintro e w7 ⟨rfl, rfl⟩)
                  | (go_at_call 14; (with_reducible refine (Lt.delivered_nil _ _).mono ?_); rintro e w7 ⟨rfl, rfl⟩)
                  | (go_at_call 15; (with_reducible refine (Lt.fork_nil _).mono ?_); rintro e w7 ⟨rfl, rfl⟩))
                go_ret
                exact ⟨by first | rfl | (simp; done), UL.out⟩
            case pos =>
              obtain ⟨h1, h2⟩ := hin2
              obtain ⟨g, off, rfl, hg, hc⟩ := HD2.out (by omega)
              have i1 : (j : Int) < (n2 : Int) := by omega
              have i2 : (j : Int) < 60 := by omega
              have i3 : (0 : Int) ≤ (j : Int) := by omega
              have u1 : IntKind.i64.wrap ((j : Int) + 1) = ((j + 1 : Nat) : Int) := by rw [IntKind.wrap_i64]; omega
              obtain ⟨q0, q1, q2⟩ := hc j h1
              have d0 : wr.cell? ⟨g, off + j * 3, none⟩ = some (.int .i64 (d2 j).1) := (RL.out.cell (p := ⟨g, _, none⟩) hg).trans q0
              have d1 : wr.cell? ⟨g, off + j * 3 + 1, none⟩ = some (.int .i64 (d2 j).2.1) := (RL.out.cell (p := ⟨g, _, none⟩) hg).trans q1
              have d2' : wr.cell? ⟨g, off + j * 3 + 2, none⟩ = some (.int .i64 (d2 j).2.2) := (RL.out.cell (p := ⟨g, _, none⟩) hg).trans q2
              have HS := Lib.hid (Lt.step_any RT.out (by have := K60.out; omega) (d2 j))
              have HE := Lib.hid (show Lt.foldF m bX d2 (j + 1) = Lt.deedO m (Lt.foldF m bX d2 j) (d2 j) from rfl)
              generalize d2 j = dk at *
              obtain ⟨dx, dy, dz⟩ := dk
              replace HS := Lib.hid (show Calls Try.prog 7 #[.pointer (some ⟨wa.heap.size, 0, none⟩), .slice (some A2) m c2, .agg #[.int .i64 dx, .int .i64 dy, .int .i64 dz]] wr _ from HS.out)
              have KK := Lib.hid (show j + 1 ≤ n2 ∧ j + 1 ≤ 60 from ⟨by omega, by omega⟩)
              clear q0 q1 q2 hc hg hj hj60 h1 h2 HD2 RT
              go_wp2_with (go_at_call 7; (with_reducible refine HS.out.mono ?_); rintro e w3 ⟨rfl, ht, hkk⟩; have XT := Lib.hid ht; have XA := Lib.hid (RA.out.keeps hkk (fun i hi hf => by have := HF2.out i hi; have := HF1.out i hf; omega)); have XL := Lib.hid (RL.out.trans (hkk.below RL.out.size (fun i hi hf => by have := HF1.out i hf; have := HWA.out; omega))); clear ht hkk)
              go_roundw
              case rel => exact ⟨j + 1, by go_num, KK.out.1, KK.out.2, XA, Lib.hid (by rw [HE.out, ← Nat.add_assoc]; exact XT.out), XL⟩
              case measure =>
                have := KK.out
                simp [intOf]
                omega
        · have i1 : ¬ (k : Int) < (n : Int) := by omega
          have K60 := Lib.hid (show k ≤ 60 from hk60)
          obtain ⟨OO, hOO⟩ : ∃ OO, OO = Lt.foldO m d k := ⟨_, rfl⟩
          rw [← hOO] at RT
          obtain ⟨bX, qB⟩ : ∃ o, Lt.Brd wr w.heap.size m o ∧ o = OO := by obtain ⟨X, q⟩ := RT.out; exact ⟨OO, q.brd, rfl⟩
          obtain ⟨qB, rfl⟩ := qB
          have HFK := Lib.hid (Lt.fork_any wr w.heap.size m bX qB)
          obtain ⟨A2, c2, W9, hap, fb, fa, gg, ff, fw⟩ := Lt.two_fork RT.out
          have HAP := Lib.hid hap
          have FA := Lib.hid fa
          have FB := Lib.hid (show Lt.Two W9 wr.heap.size (some A2) m c2 (k + 0) (Lt.foldF m bX d2 0) from fb)
          have FL := Lib.hid (Lt.bel_any RL.out gg)
          have HF1 := Lib.hid ff
          have HF2 := Lib.hid fw
          have HWA := Lib.hid (show w.heap.size ≤ wr.heap.size from RL.out.size)
          obtain ⟨wa, hwa⟩ : ∃ wa, wa = wr := ⟨_, rfl⟩
          rw [← hwa] at HFK HAP FB HF1 HF2 HWA ⊢
          clear hap fb fa gg ff fw qB hOO RT RL hwa
          go_wp2_with (first
            | (go_at_call 15; (with_reducible refine HFK.out.mono ?_); rintro e w7 ⟨rfl, rfl⟩)
            | (at_builtin; refine wpList_append_eq rfl (.tmp 41) (.tmp 42) 25 rfl HAP.out rfl rfl ?_))
          clear hin h1 hk hk60 i1
          go_loopw [12] (fun y wr => ∃ j : Nat, y = .int .i64 j ∧ j ≤ n2 ∧ j ≤ 60 ∧ Hid (Lt.Two wr w.heap.size (some ⟨W1.heap.size, 0, none⟩) m m k bX) ∧ Hid (Lt.Two wr wa.heap.size (some A2) m c2 (k + j) (Lt.foldF m bX d2 j)) ∧ Hid (Below w.heap.size w wr)) (fun y _ => 60 - (intOf y).toNat)
          case atStart => exact ⟨0, rfl, Nat.zero_le _, Nat.zero_le _, FA, FB, FL⟩
          case round =>
            obtain ⟨j, rfl, hj, hj60, RA, RT, RL⟩ := hrel
            clear FA FB FL
            by_cases hin2 : j < n2 ∧ j < 60
            case neg =>
              by_cases h1 : j < n2
              · have h2 : ¬ j < 60 := fun e => hin2 ⟨h1, e⟩
                have i1 : (j : Int) < (n2 : Int) := by omega
                have i2 : ¬ (j : Int) < 60 := by omega
                clear hin2 h1 h2 hj hj60
                go_wp2_with (first
                  | (go_at_call 9; (with_reducible refine (Lt.live22_any _).mono ?_); rintro e w4 ⟨rfl, bel⟩; have SA := Lib.hid (RA.out.keeps (Keeps.of_below bel (fun _ => False)) (fun _ _ x => x)); have SB := Lib.hid (RT.out.keeps (Keeps.of_below bel (fun _ => False)) (fun _ _ x => x)); have SL := Lib.hid (RL.out.trans (bel.mono RL.out.size)); clear bel)
                  | (go_at_call 8; first
                    | ((with_reducible refine (Lt.told_any SA.out).mono ?_); rintro e w5 ⟨rfl, bel⟩; have TB := Lib.hid (SB.out.keeps (Keeps.of_below bel (fun _ => False)) (fun _ _ x => x)); have TL := Lib.hid (SL.out.trans (bel.mono SL.out.size)); clear bel)
                    | ((with_reducible refine (Lt.told_any TB.out).mono ?_); rintro e w6 ⟨rfl, bel⟩; have UL := Lib.hid (TL.out.trans (bel.mono TL.out.size)); clear bel))
                  | (go_at_call 10; (with_reducible refine (Lt.raise_nil _ _ _).mono ?_); rintro e w7 ⟨rfl, rfl⟩)
                  | (go_at_call 11; (with_reducible refine (Lt.open_nil _ _).mono ?_); rintro e w7 ⟨rfl, rfl⟩)
                  | (go_at_call 12; (with_reducible refine (Lt.take_nil _ _).mono ?_); rintro e w7 ⟨rfl, rfl⟩)
                  | (go_at_call 13; (with_reducible refine (Lt.latched_nil _ _).mono ?_); rintro e w7 ⟨rfl, rfl⟩)
                  | (go_at_call 14; (with_reducible refine (Lt.delivered_nil _ _).mono ?_); rintro e w7 ⟨rfl, rfl⟩)
                  | (go_at_call 15; (with_reducible refine (Lt.fork_nil _).mono ?_); rintro e w7 ⟨rfl, rfl⟩))
                go_ret
                exact ⟨by first | rfl | (simp; done), UL.out⟩
              · have i1 : ¬ (j : Int) < (n2 : Int) := by omega
                clear hin2 h1 hj hj60
                go_wp2_with (first
                  | (go_at_call 9; (with_reducible refine (Lt.live22_any _).mono ?_); rintro e w4 ⟨rfl, bel⟩; have SA := Lib.hid (RA.out.keeps (Keeps.of_below bel (fun _ => False)) (fun _ _ x => x)); have SB := Lib.hid (RT.out.keeps (Keeps.of_below bel (fun _ => False)) (fun _ _ x => x)); have SL := Lib.hid (RL.out.trans (bel.mono RL.out.size)); clear bel)
                  | (go_at_call 8; first
                    | ((with_reducible refine (Lt.told_any SA.out).mono ?_); rintro e w5 ⟨rfl, bel⟩; have TB := Lib.hid (SB.out.keeps (Keeps.of_below bel (fun _ => False)) (fun _ _ x => x)); have TL := Lib.hid (SL.out.trans (bel.mono SL.out.size)); clear bel)
                    | ((with_reducible refine (Lt.told_any TB.out).mono ?_); rintro e w6 ⟨rfl, bel⟩; have UL := Lib.hid (TL.out.trans (bel.mono TL.out.size)); clear bel))
                  | (go_at_call 10; (with_reducible refine (Lt.raise_nil _ _ _).mono ?_); rintro e w7 ⟨rfl, rfl⟩)
                  | (go_at_call 11; (with_reducible refine (Lt.open_nil _ _).mono ?_); rintro e w7 ⟨rfl, rfl⟩)
                  | (go_at_call 12; (with_reducible refine (Lt.take_nil _ _).mono ?_); rintro e w7 ⟨rfl, rfl⟩)
                  | (go_at_call 13; (with_reducible refine (Lt.latched_nil _ _).mono ?_); rintro e w7 ⟨rfl, rfl⟩)
                  | (go_at_call 14; (with_reducible refine (Lt.delivered_nil _ _).mono ?_); rintro e w7 ⟨rfl, rfl⟩)
                  | (go_at_call 15; (with_reducible refine (Lt.fork_nil _).mono ?_); rintro e w7 ⟨rfl, rfl⟩))
                go_ret
                exact ⟨by first | rfl | (simp; done), UL.out⟩
            case pos =>
              obtain ⟨h1, h2⟩ := hin2
              obtain ⟨g, off, rfl, hg, hc⟩ := HD2.out (by omega)
              have i1 : (j : Int) < (n2 : Int) := by omega
              have i2 : (j : Int) < 60 := by omega
              have i3 : (0 : Int) ≤ (j : Int) := by omega
              have u1 : IntKind.i64.wrap ((j : Int) + 1) = ((j + 1 : Nat) : Int) := by rw [IntKind.wrap_i64]; omega
              obtain ⟨q0, q1, q2⟩ := hc j h1
              have d0 : wr.cell? ⟨g, off + j * 3, none⟩ = some (.int .i64 (d2 j).1) := (RL.out.cell (p := ⟨g, _, none⟩) hg).trans q0
              have d1 : wr.cell? ⟨g, off + j * 3 + 1, none⟩ = some (.int .i64 (d2 j).2.1) := (RL.out.cell (p := ⟨g, _, none⟩) hg).trans q1
              have d2' : wr.cell? ⟨g, off + j * 3 + 2, none⟩ = some (.int .i64 (d2 j).2.2) := (RL.out.cell (p := ⟨g, _, none⟩) hg).trans q2
              have HS := Lib.hid (Lt.step_any RT.out (by have := K60.out; omega) (d2 j))
              have HE := Lib.hid (show Lt.foldF m bX d2 (j + 1) = Lt.deedO m (Lt.foldF m bX d2 j) (d2 j) from rfl)
              generalize d2 j = dk at *
              obtain ⟨dx, dy, dz⟩ := dk
              replace HS := Lib.hid (show Calls Try.prog 7 #[.pointer (some ⟨wa.heap.size, 0, none⟩), .slice (some A2) m c2, .agg #[.int .i64 dx, .int .i64 dy, .int .i64 dz]] wr _ from HS.out)
              have KK := Lib.hid (show j + 1 ≤ n2 ∧ j + 1 ≤ 60 from ⟨by omega, by omega⟩)
              clear q0 q1 q2 hc hg hj hj60 h1 h2 HD2 RT
              go_wp2_with (go_at_call 7; (with_reducible refine HS.out.mono ?_); rintro e w3 ⟨rfl, ht, hkk⟩; have XT := Lib.hid ht; have XA := Lib.hid (RA.out.keeps hkk (fun i hi hf => by have := HF2.out i hi; have := HF1.out i hf; omega)); have XL := Lib.hid (RL.out.trans (hkk.below RL.out.size (fun i hi hf => by have := HF1.out i hf; have := HWA.out; omega))); clear ht hkk)
              go_roundw
              case rel => exact ⟨j + 1, by go_num, KK.out.1, KK.out.2, XA, Lib.hid (by rw [HE.out, ← Nat.add_assoc]; exact XT.out), XL⟩
              case measure =>
                have := KK.out
                simp [intOf]
                omega
      case pos =>
        obtain ⟨h1, h2⟩ := hin
        obtain ⟨g, off, rfl, hg, hc⟩ := HD.out (by omega)
        have i1 : (k : Int) < (n : Int) := by omega
        have i2 : (k : Int) < 60 := by omega
        have i3 : (0 : Int) ≤ (k : Int) := by omega
        have u1 : IntKind.i64.wrap ((k : Int) + 1) = ((k + 1 : Nat) : Int) := by rw [IntKind.wrap_i64]; omega
        obtain ⟨q0, q1, q2⟩ := hc k h1
        have d0 : wr.cell? ⟨g, off + k * 3, none⟩ = some (.int .i64 (d k).1) := (RL.out.cell (p := ⟨g, _, none⟩) hg).trans q0
        have d1 : wr.cell? ⟨g, off + k * 3 + 1, none⟩ = some (.int .i64 (d k).2.1) := (RL.out.cell (p := ⟨g, _, none⟩) hg).trans q1
        have d2' : wr.cell? ⟨g, off + k * 3 + 2, none⟩ = some (.int .i64 (d k).2.2) := (RL.out.cell (p := ⟨g, _, none⟩) hg).trans q2
        have HS := Lib.hid (Lt.step_any RT.out (by omega) (d k))
        have HE := Lib.hid (show Lt.foldO m d (k + 1) = Lt.deedO m (Lt.foldO m d k) (d k) from rfl)
        generalize d k = dk at *
        obtain ⟨dx, dy, dz⟩ := dk
        replace HS := Lib.hid (show Calls Try.prog 7 #[.pointer (some ⟨w.heap.size, 0, none⟩), .slice (some ⟨W1.heap.size, 0, none⟩) m m, .agg #[.int .i64 dx, .int .i64 dy, .int .i64 dz]] wr _ from HS.out)
        have KK := Lib.hid (show k + 1 ≤ n ∧ k + 1 ≤ 60 from ⟨by omega, by omega⟩)
        clear q0 q1 q2 hc hg hk hk60 h1 h2 HD RT
        go_wp2_with (go_at_call 7; (with_reducible refine HS.out.mono ?_); rintro e w3 ⟨rfl, ht, hkk⟩; have XT := Lib.hid ht; have XL := Lib.hid (RL.out.trans (hkk.below RL.out.size (fun i hi hf => by have := HFR.out i hf; omega))); clear ht hkk)
        go_roundw
        case rel => exact ⟨k + 1, by go_num, KK.out.1, KK.out.2, Lib.hid (by rw [HE.out]; exact XT.out), XL⟩
        case measure =>
          have := KK.out
          simp [intOf]
          omega
  · have h8m : (m : Int) ≤ 8 := by have := H8.out; omega
    skip
    go_enter Try.func5, Try.ntmps5
    go_upto_region 2 with (go_at_call 6; (with_reducible refine HN.out.mono ?_); rintro e W1 ⟨rfl, rfl⟩)
    go_upto_region 3 with (refine wpList_make_full _ rfl (.tmp 18) (.tmp 18) 25 rfl W1.heap.size 46 i0 (.agg (Lt.rowC Lt.z0 Lt.f0)) 16 Try.underlying25 H0.out H1.out H2.out .i64 .i64 (m : Int) (m : Int) m rfl rfl rfl rfl (by rw [H3.out]; have := H8.out; omega) (by unfold maxLen; have := H8.out; omega) (Nat.le_refl _) ?_; intro w2 hown hg; have HT := Lib.hid (Lt.two_new HB.out HLT.out hown hg); have HG2 := Lib.hid (only_trans HG1.out hg); have HFR := Lib.hid (show ∀ i, Lt.Ft w.heap.size (some ⟨W1.heap.size, 0, none⟩) m m i → w.heap.size ≤ i from (by rintro i (rfl | e); exact Nat.le_refl _; simp [Value.ownBlock] at e; have := HZ1.out; omega)); clear hown hg)
    clear m0
    go_wp2
    go_loopw [9] (fun y wr => ∃ k : Nat, y = .int .i64 k ∧ k ≤ n ∧ k ≤ 60 ∧ Hid (Lt.Two wr w.heap.size (some ⟨W1.heap.size, 0, none⟩) m m k (Lt.foldO m d k)) ∧ Hid (Below w.heap.size w wr)) (fun y _ => 60 - (intOf y).toNat)
    case atStart => exact ⟨0, rfl, Nat.zero_le _, Nat.zero_le _, HT, Lib.hid (below_of_only HG2.out (Nat.le_refl _) (by simp))⟩
    case round =>
      obtain ⟨k, rfl, hk, hk60, RT, RL⟩ := hrel
      clear HT HG2 HB HLT HG1 H0 H1 H2 H3
      by_cases hin : k < n ∧ k < 60
      case neg =>
        by_cases h1 : k < n
        · have h2 : ¬ k < 60 := fun e => hin ⟨h1, e⟩
          have i1 : (k : Int) < (n : Int) := by omega
          have i2 : ¬ (k : Int) < 60 := by omega
          have K60 := Lib.hid (show k ≤ 60 from hk60)
          obtain ⟨OO, hOO⟩ : ∃ OO, OO = Lt.foldO m d k := ⟨_, rfl⟩
          rw [← hOO] at RT
          obtain ⟨bX, qB⟩ : ∃ o, Lt.Brd wr w.heap.size m o ∧ o = OO := by obtain ⟨X, q⟩ := RT.out; exact ⟨OO, q.brd, rfl⟩
          obtain ⟨qB, rfl⟩ := qB
          have HFK := Lib.hid (Lt.fork_any wr w.heap.size m bX qB)
          obtain ⟨A2, c2, W9, hap, fb, fa, gg, ff, fw⟩ := Lt.two_fork RT.out
          have HAP := Lib.hid hap
          have FA := Lib.hid fa
          have FB := Lib.hid (show Lt.Two W9 wr.heap.size (some A2) m c2 (k + 0) (Lt.foldF m bX d2 0) from fb)
          have FL := Lib.hid (Lt.bel_any RL.out gg)
          have HF1 := Lib.hid ff
          have HF2 := Lib.hid fw
          have HWA := Lib.hid (show w.heap.size ≤ wr.heap.size from RL.out.size)
          obtain ⟨wa, hwa⟩ : ∃ wa, wa = wr := ⟨_, rfl⟩
          rw [← hwa] at HFK HAP FB HF1 HF2 HWA ⊢
          clear hap fb fa gg ff fw qB hOO RT RL hwa
          go_wp2_with (first
            | (go_at_call 15; (with_reducible refine HFK.out.mono ?_); rintro e w7 ⟨rfl, rfl⟩)
            | (at_builtin; refine wpList_append_eq rfl (.tmp 41) (.tmp 42) 25 rfl HAP.out rfl rfl ?_))
          clear hin h1 h2 hk hk60 i1 i2
          go_loopw [12] (fun y wr => ∃ j : Nat, y = .int .i64 j ∧ j ≤ n2 ∧ j ≤ 60 ∧ Hid (Lt.Two wr w.heap.size (some ⟨W1.heap.size, 0, none⟩) m m k bX) ∧ Hid (Lt.Two wr wa.heap.size (some A2) m c2 (k + j) (Lt.foldF m bX d2 j)) ∧ Hid (Below w.heap.size w wr)) (fun y _ => 60 - (intOf y).toNat)
          case atStart => exact ⟨0, rfl, Nat.zero_le _, Nat.zero_le _, FA, FB, FL⟩
          case round =>
            obtain ⟨j, rfl, hj, hj60, RA, RT, RL⟩ := hrel
            clear FA FB FL
            by_cases hin2 : j < n2 ∧ j < 60
            case neg =>
              by_cases h1 : j < n2
              · have h2 : ¬ j < 60 := fun e => hin2 ⟨h1, e⟩
                have i1 : (j : Int) < (n2 : Int) := by omega
                have i2 : ¬ (j : Int) < 60 := by omega
                clear hin2 h1 h2 hj hj60
                go_wp2_with (first
                  | (go_at_call 9; (with_reducible refine (Lt.live22_any _).mono ?_); rintro e w4 ⟨rfl, bel⟩; have SA := Lib.hid (RA.out.keeps (Keeps.of_below bel (fun _ => False)) (fun _ _ x => x)); have SB := Lib.hid (RT.out.keeps (Keeps.of_below bel (fun _ => False)) (fun _ _ x => x)); have SL := Lib.hid (RL.out.trans (bel.mono RL.out.size)); clear bel)
                  | (go_at_call 8; first
                    | ((with_reducible refine (Lt.told_any SA.out).mono ?_); rintro e w5 ⟨rfl, bel⟩; have TB := Lib.hid (SB.out.keeps (Keeps.of_below bel (fun _ => False)) (fun _ _ x => x)); have TL := Lib.hid (SL.out.trans (bel.mono SL.out.size)); clear bel)
                    | ((with_reducible refine (Lt.told_any TB.out).mono ?_); rintro e w6 ⟨rfl, bel⟩; have UL := Lib.hid (TL.out.trans (bel.mono TL.out.size)); clear bel))
                  | (go_at_call 10; (with_reducible refine (Lt.raise_nil _ _ _).mono ?_); rintro e w7 ⟨rfl, rfl⟩)
                  | (go_at_call 11; (with_reducible refine (Lt.open_nil _ _).mono ?_); rintro e w7 ⟨rfl, rfl⟩)
                  | (go_at_call 12; (with_reducible refine (Lt.take_nil _ _).mono ?_); rintro e w7 ⟨rfl, rfl⟩)
                  | (go_at_call 13; (with_reducible refine (Lt.latched_nil _ _).mono ?_); rintro e w7 ⟨rfl, rfl⟩)
                  | (go_at_call 14; (with_reducible refine (Lt.delivered_nil _ _).mono ?_); rintro e w7 ⟨rfl, rfl⟩)
                  | (go_at_call 15; (with_reducible refine (Lt.fork_nil _).mono ?_); rintro e w7 ⟨rfl, rfl⟩))
                go_ret
                exact ⟨by first | rfl | (simp; done), UL.out⟩
              · have i1 : ¬ (j : Int) < (n2 : Int) := by omega
                clear hin2 h1 hj hj60
                go_wp2_with (first
                  | (go_at_call 9; (with_reducible refine (Lt.live22_any _).mono ?_); rintro e w4 ⟨rfl, bel⟩; have SA := Lib.hid (RA.out.keeps (Keeps.of_below bel (fun _ => False)) (fun _ _ x => x)); have SB := Lib.hid (RT.out.keeps (Keeps.of_below bel (fun _ => False)) (fun _ _ x => x)); have SL := Lib.hid (RL.out.trans (bel.mono RL.out.size)); clear bel)
                  | (go_at_call 8; first
                    | ((with_reducible refine (Lt.told_any SA.out).mono ?_); rintro e w5 ⟨rfl, bel⟩; have TB := Lib.hid (SB.out.keeps (Keeps.of_below bel (fun _ => False)) (fun _ _ x => x)); have TL := Lib.hid (SL.out.trans (bel.mono SL.out.size)); clear bel)
                    | ((with_reducible refine (Lt.told_any TB.out).mono ?_); rintro e w6 ⟨rfl, bel⟩; have UL := Lib.hid (TL.out.trans (bel.mono TL.out.size)); clear bel))
                  | (go_at_call 10; (with_reducible refine (Lt.raise_nil _ _ _).mono ?_); rintro e w7 ⟨rfl, rfl⟩)
                  | (go_at_call 11; (with_reducible refine (Lt.open_nil _ _).mono ?_); rintro e w7 ⟨rfl, rfl⟩)
                  | (go_at_call 12; (with_reducible refine (Lt.take_nil _ _).mono ?_); rintro e w7 ⟨rfl, rfl⟩)
                  | (go_at_call 13; (with_reducible refine (Lt.latched_nil _ _).mono ?_); rintro e w7 ⟨rfl, rfl⟩)
                  | (go_at_call 14; (with_reducible refine (Lt.delivered_nil _ _).mono ?_); rintro e w7 ⟨rfl, rfl⟩)
                  | (go_at_call 15; (with_reducible refine (Lt.fork_nil _).mono ?_); rintro e w7 ⟨rfl, rfl⟩))
                go_ret
                exact ⟨by first | rfl | (simp; done), UL.out⟩
            case pos =>
              obtain ⟨h1, h2⟩ := hin2
              obtain ⟨g, off, rfl, hg, hc⟩ := HD2.out (by omega)
              have i1 : (j : Int) < (n2 : Int) := by omega
              have i2 : (j : Int) < 60 := by omega
              have i3 : (0 : Int) ≤ (j : Int) := by omega
              have u1 : IntKind.i64.wrap ((j : Int) + 1) = ((j + 1 : Nat) : Int) := by rw [IntKind.wrap_i64]; omega
              obtain ⟨q0, q1, q2⟩ := hc j h1
              have d0 : wr.cell? ⟨g, off + j * 3, none⟩ = some (.int .i64 (d2 j).1) := (RL.out.cell (p := ⟨g, _, none⟩) hg).trans q0
              have d1 : wr.cell? ⟨g, off + j * 3 + 1, none⟩ = some (.int .i64 (d2 j).2.1) := (RL.out.cell (p := ⟨g, _, none⟩) hg).trans q1
              have d2' : wr.cell? ⟨g, off + j * 3 + 2, none⟩ = some (.int .i64 (d2 j).2.2) := (RL.out.cell (p := ⟨g, _, none⟩) hg).trans q2
              have HS := Lib.hid (Lt.step_any RT.out (by have := K60.out; omega) (d2 j))
              have HE := Lib.hid (show Lt.foldF m bX d2 (j + 1) = Lt.deedO m (Lt.foldF m bX d2 j) (d2 j) from rfl)
              generalize d2 j = dk at *
              obtain ⟨dx, dy, dz⟩ := dk
              replace HS := Lib.hid (show Calls Try.prog 7 #[.pointer (some ⟨wa.heap.size, 0, none⟩), .slice (some A2) m c2, .agg #[.int .i64 dx, .int .i64 dy, .int .i64 dz]] wr _ from HS.out)
              have KK := Lib.hid (show j + 1 ≤ n2 ∧ j + 1 ≤ 60 from ⟨by omega, by omega⟩)
              clear q0 q1 q2 hc hg hj hj60 h1 h2 HD2 RT
              go_wp2_with (go_at_call 7; (with_reducible refine HS.out.mono ?_); rintro e w3 ⟨rfl, ht, hkk⟩; have XT := Lib.hid ht; have XA := Lib.hid (RA.out.keeps hkk (fun i hi hf => by have := HF2.out i hi; have := HF1.out i hf; omega)); have XL := Lib.hid (RL.out.trans (hkk.below RL.out.size (fun i hi hf => by have := HF1.out i hf; have := HWA.out; omega))); clear ht hkk)
              go_roundw
              case rel => exact ⟨j + 1, by go_num, KK.out.1, KK.out.2, XA, Lib.hid (by rw [HE.out, ← Nat.add_assoc]; exact XT.out), XL⟩
              case measure =>
                have := KK.out
                simp [intOf]
                omega
        · have i1 : ¬ (k : Int) < (n : Int) := by omega
          have K60 := Lib.hid (show k ≤ 60 from hk60)
          obtain ⟨OO, hOO⟩ : ∃ OO, OO = Lt.foldO m d k := ⟨_, rfl⟩
          rw [← hOO] at RT
          obtain ⟨bX, qB⟩ : ∃ o, Lt.Brd wr w.heap.size m o ∧ o = OO := by obtain ⟨X, q⟩ := RT.out; exact ⟨OO, q.brd, rfl⟩
          obtain ⟨qB, rfl⟩ := qB
          have HFK := Lib.hid (Lt.fork_any wr w.heap.size m bX qB)
          obtain ⟨A2, c2, W9, hap, fb, fa, gg, ff, fw⟩ := Lt.two_fork RT.out
          have HAP := Lib.hid hap
          have FA := Lib.hid fa
          have FB := Lib.hid (show Lt.Two W9 wr.heap.size (some A2) m c2 (k + 0) (Lt.foldF m bX d2 0) from fb)
          have FL := Lib.hid (Lt.bel_any RL.out gg)
          have HF1 := Lib.hid ff
          have HF2 := Lib.hid fw
          have HWA := Lib.hid (show w.heap.size ≤ wr.heap.size from RL.out.size)
          obtain ⟨wa, hwa⟩ : ∃ wa, wa = wr := ⟨_, rfl⟩
          rw [← hwa] at HFK HAP FB HF1 HF2 HWA ⊢
          clear hap fb fa gg ff fw qB hOO RT RL hwa
          go_wp2_with (first
            | (go_at_call 15; (with_reducible refine HFK.out.mono ?_); rintro e w7 ⟨rfl, rfl⟩)
            | (at_builtin; refine wpList_append_eq rfl (.tmp 41) (.tmp 42) 25 rfl HAP.out rfl rfl ?_))
          clear hin h1 hk hk60 i1
          go_loopw [12] (fun y wr => ∃ j : Nat, y = .int .i64 j ∧ j ≤ n2 ∧ j ≤ 60 ∧ Hid (Lt.Two wr w.heap.size (some ⟨W1.heap.size, 0, none⟩) m m k bX) ∧ Hid (Lt.Two wr wa.heap.size (some A2) m c2 (k + j) (Lt.foldF m bX d2 j)) ∧ Hid (Below w.heap.size w wr)) (fun y _ => 60 - (intOf y).toNat)
          case atStart => exact ⟨0, rfl, Nat.zero_le _, Nat.zero_le _, FA, FB, FL⟩
          case round =>
            obtain ⟨j, rfl, hj, hj60, RA, RT, RL⟩ := hrel
            clear FA FB FL
            by_cases hin2 : j < n2 ∧ j < 60
            case neg =>
              by_cases h1 : j < n2
              · have h2 : ¬ j < 60 := fun e => hin2 ⟨h1, e⟩
                have i1 : (j : Int) < (n2 : Int) := by omega
                have i2 : ¬ (j : Int) < 60 := by omega
                clear hin2 h1 h2 hj hj60
                go_wp2_with (first
                  | (go_at_call 9; (with_reducible refine (Lt.live22_any _).mono ?_); rintro e w4 ⟨rfl, bel⟩; have SA := Lib.hid (RA.out.keeps (Keeps.of_below bel (fun _ => False)) (fun _ _ x => x)); have SB := Lib.hid (RT.out.keeps (Keeps.of_below bel (fun _ => False)) (fun _ _ x => x)); have SL := Lib.hid (RL.out.trans (bel.mono RL.out.size)); clear bel)
                  | (go_at_call 8; first
                    | ((with_reducible refine (Lt.told_any SA.out).mono ?_); rintro e w5 ⟨rfl, bel⟩; have TB := Lib.hid (SB.out.keeps (Keeps.of_below bel (fun _ => False)) (fun _ _ x => x)); have TL := Lib.hid (SL.out.trans (bel.mono SL.out.size)); clear bel)
                    | ((with_reducible refine (Lt.told_any TB.out).mono ?_); rintro e w6 ⟨rfl, bel⟩; have UL := Lib.hid (TL.out.trans (bel.mono TL.out.size)); clear bel))
                  | (go_at_call 10; (with_reducible refine (Lt.raise_nil _ _ _).mono ?_); rintro e w7 ⟨rfl, rfl⟩)
                  | (go_at_call 11; (with_reducible refine (Lt.open_nil _ _).mono ?_); rintro e w7 ⟨rfl, rfl⟩)
                  | (go_at_call 12; (with_reducible refine (Lt.take_nil _ _).mono ?_); rintro e w7 ⟨rfl, rfl⟩)
                  | (go_at_call 13; (with_reducible refine (Lt.latched_nil _ _).mono ?_); rintro e w7 ⟨rfl, rfl⟩)
                  | (go_at_call 14; (with_reducible refine (Lt.delivered_nil _ _).mono ?_); rintro e w7 ⟨rfl, rfl⟩)
                  | (go_at_call 15; (with_reducible refine (Lt.fork_nil _).mono ?_); rintro e w7 ⟨rfl, rfl⟩))
                go_ret
                exact ⟨by first | rfl | (simp; done), UL.out⟩
              · have i1 : ¬ (j : Int) < (n2 : Int) := by omega
                clear hin2 h1 hj hj60
                go_wp2_with (first
                  | (go_at_call 9; (with_reducible refine (Lt.live22_any _).mono ?_); rintro e w4 ⟨rfl, bel⟩; have SA := Lib.hid (RA.out.keeps (Keeps.of_below bel (fun _ => False)) (fun _ _ x => x)); have SB := Lib.hid (RT.out.keeps (Keeps.of_below bel (fun _ => False)) (fun _ _ x => x)); have SL := Lib.hid (RL.out.trans (bel.mono RL.out.size)); clear bel)
                  | (go_at_call 8; first
                    | ((with_reducible refine (Lt.told_any SA.out).mono ?_); rintro e w5 ⟨rfl, bel⟩; have TB := Lib.hid (SB.out.keeps (Keeps.of_below bel (fun _ => False)) (fun _ _ x => x)); have TL := Lib.hid (SL.out.trans (bel.mono SL.out.size)); clear bel)
                    | ((with_reducible refine (Lt.told_any TB.out).mono ?_); rintro e w6 ⟨rfl, bel⟩; have UL := Lib.hid (TL.out.trans (bel.mono TL.out.size)); clear bel))
                  | (go_at_call 10; (with_reducible refine (Lt.raise_nil _ _ _).mono ?_); rintro e w7 ⟨rfl, rfl⟩)
                  | (go_at_call 11; (with_reducible refine (Lt.open_nil _ _).mono ?_); rintro e w7 ⟨rfl, rfl⟩)
                  | (go_at_call 12; (with_reducible refine (Lt.take_nil _ _).mono ?_); rintro e w7 ⟨rfl, rfl⟩)
                  | (go_at_call 13; (with_reducible refine (Lt.latched_nil _ _).mono ?_); rintro e w7 ⟨rfl, rfl⟩)
                  | (go_at_call 14; (with_reducible refine (Lt.delivered_nil _ _).mono ?_); rintro e w7 ⟨rfl, rfl⟩)
                  | (go_at_call 15; (with_reducible refine (Lt.fork_nil _).mono ?_); rintro e w7 ⟨rfl, rfl⟩))
                go_ret
                exact ⟨by first | rfl | (simp; done), UL.out⟩
            case pos =>
              obtain ⟨h1, h2⟩ := hin2
              obtain ⟨g, off, rfl, hg, hc⟩ := HD2.out (by omega)
              have i1 : (j : Int) < (n2 : Int) := by omega
              have i2 : (j : Int) < 60 := by omega
              have i3 : (0 : Int) ≤ (j : Int) := by omega
              have u1 : IntKind.i64.wrap ((j : Int) + 1) = ((j + 1 : Nat) : Int) := by rw [IntKind.wrap_i64]; omega
              obtain ⟨q0, q1, q2⟩ := hc j h1
              have d0 : wr.cell? ⟨g, off + j * 3, none⟩ = some (.int .i64 (d2 j).1) := (RL.out.cell (p := ⟨g, _, none⟩) hg).trans q0
              have d1 : wr.cell? ⟨g, off + j * 3 + 1, none⟩ = some (.int .i64 (d2 j).2.1) := (RL.out.cell (p := ⟨g, _, none⟩) hg).trans q1
              have d2' : wr.cell? ⟨g, off + j * 3 + 2, none⟩ = some (.int .i64 (d2 j).2.2) := (RL.out.cell (p := ⟨g, _, none⟩) hg).trans q2
              have HS := Lib.hid (Lt.step_any RT.out (by have := K60.out; omega) (d2 j))
              have HE := Lib.hid (show Lt.foldF m bX d2 (j + 1) = Lt.deedO m (Lt.foldF m bX d2 j) (d2 j) from rfl)
              generalize d2 j = dk at *
              obtain ⟨dx, dy, dz⟩ := dk
              replace HS := Lib.hid (show Calls Try.prog 7 #[.pointer (some ⟨wa.heap.size, 0, none⟩), .slice (some A2) m c2, .agg #[.int .i64 dx, .int .i64 dy, .int .i64 dz]] wr _ from HS.out)
              have KK := Lib.hid (show j + 1 ≤ n2 ∧ j + 1 ≤ 60 from ⟨by omega, by omega⟩)
              clear q0 q1 q2 hc hg hj hj60 h1 h2 HD2 RT
              go_wp2_with (go_at_call 7; (with_reducible refine HS.out.mono ?_); rintro e w3 ⟨rfl, ht, hkk⟩; have XT := Lib.hid ht; have XA := Lib.hid (RA.out.keeps hkk (fun i hi hf => by have := HF2.out i hi; have := HF1.out i hf; omega)); have XL := Lib.hid (RL.out.trans (hkk.below RL.out.size (fun i hi hf => by have := HF1.out i hf; have := HWA.out; omega))); clear ht hkk)
              go_roundw
              case rel => exact ⟨j + 1, by go_num, KK.out.1, KK.out.2, XA, Lib.hid (by rw [HE.out, ← Nat.add_assoc]; exact XT.out), XL⟩
              case measure =>
                have := KK.out
                simp [intOf]
                omega
      case pos =>
        obtain ⟨h1, h2⟩ := hin
        obtain ⟨g, off, rfl, hg, hc⟩ := HD.out (by omega)
        have i1 : (k : Int) < (n : Int) := by omega
        have i2 : (k : Int) < 60 := by omega
        have i3 : (0 : Int) ≤ (k : Int) := by omega
        have u1 : IntKind.i64.wrap ((k : Int) + 1) = ((k + 1 : Nat) : Int) := by rw [IntKind.wrap_i64]; omega
        obtain ⟨q0, q1, q2⟩ := hc k h1
        have d0 : wr.cell? ⟨g, off + k * 3, none⟩ = some (.int .i64 (d k).1) := (RL.out.cell (p := ⟨g, _, none⟩) hg).trans q0
        have d1 : wr.cell? ⟨g, off + k * 3 + 1, none⟩ = some (.int .i64 (d k).2.1) := (RL.out.cell (p := ⟨g, _, none⟩) hg).trans q1
        have d2' : wr.cell? ⟨g, off + k * 3 + 2, none⟩ = some (.int .i64 (d k).2.2) := (RL.out.cell (p := ⟨g, _, none⟩) hg).trans q2
        have HS := Lib.hid (Lt.step_any RT.out (by omega) (d k))
        have HE := Lib.hid (show Lt.foldO m d (k + 1) = Lt.deedO m (Lt.foldO m d k) (d k) from rfl)
        generalize d k = dk at *
        obtain ⟨dx, dy, dz⟩ := dk
        replace HS := Lib.hid (show Calls Try.prog 7 #[.pointer (some ⟨w.heap.size, 0, none⟩), .slice (some ⟨W1.heap.size, 0, none⟩) m m, .agg #[.int .i64 dx, .int .i64 dy, .int .i64 dz]] wr _ from HS.out)
        have KK := Lib.hid (show k + 1 ≤ n ∧ k + 1 ≤ 60 from ⟨by omega, by omega⟩)
        clear q0 q1 q2 hc hg hk hk60 h1 h2 HD RT
        go_wp2_with (go_at_call 7; (with_reducible refine HS.out.mono ?_); rintro e w3 ⟨rfl, ht, hkk⟩; have XT := Lib.hid ht; have XL := Lib.hid (RL.out.trans (hkk.below RL.out.size (fun i hi hf => by have := HFR.out i hf; omega))); clear ht hkk)
        go_roundw
        case rel => exact ⟨k + 1, by go_num, KK.out.1, KK.out.2, Lib.hid (by rw [HE.out]; exact XT.out), XL⟩
        case measure =>
          have := KK.out
          simp [intOf]
          omega
end Go.Proofs.Ytbbgijjeimjgoaa
