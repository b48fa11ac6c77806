/- check of package disk, by its contract. -/
import Derived.Test.YtlmdnhpdeiekfaaJ9
namespace Go.Proofs.Ytlmdnhpdeiekfaa
open Go.RowKit Go.Lib Go.Sort
set_option linter.unusedVariables false

set_option maxHeartbeats 3200000 in
set_option maxRecDepth 20000 in
theorem dcheck_any {w : World} {b : Nat} {S : Nat → UInt8} {T : Nat → Prt} {bz : Bool} {j : Jb} {st : Int} {v : Value} (h : Dsk w b S T bz j st v) (hT : ∀ k, k < 9 → Within (T k)) (x : Prt) (hx : FitP x) : Calls Try.prog 20 #[.pointer (some ⟨b, 0, none⟩), prv x] w fun e w' => e = .returned (.int .i64 (chkT T x)) ∧ Below w.heap.size w w' := by
  have HM := Lib.hid (fun W => may_any x hx W)
  cases hm : mayB x with
  | false =>
    have hc : chkT T x = 2 := by unfold chkT; rw [if_pos hm]
    rw [hc]
    rw [hm] at HM
    have HB0 : Hid (Below w.heap.size w (w.alloc (.cells #[.int .i64 x.1, .int .i64 x.2.1, .int .i64 x.2.2] 59))) := Lib.hid ((Below.refl _ _).alloc (Nat.le_refl _) _)
    obtain ⟨p, q, s⟩ := x
    clear h hT hx hm hc
    go_enter Try.func20, Try.ntmps20
    go_wp2_with (go_at_call 32; with_reducible refine (HM.out _).mono ?_; rintro e w1 ⟨rfl, g1⟩; have B1 := Lib.hid (HB0.out.trans (below_of_only g1 (by simp) (by simp))); clear g1)
    go_ret
    exact ⟨rfl, B1.out⟩
  | true =>
    rw [hm] at HM
    have hmay := mayB_iff.1 hm
    have hxw := Within.of hm
    have hk : x.1.toNat < 9 := by omega
    have hf := fun (W : World) (hd : Dsk W b S T bz j st v) => dfind_any hd x.1
    unfold fndT fndE at hf
    have hxf := hx
    by_cases h0 : (T x.1.toNat).1 = 0
    · have hn : noT T x.1 = true := by simp [noT, h0]
      rw [hn] at hf
      simp only [if_true] at hf
      have HF := Lib.hid hf
      have HCM := Lib.hid (fun k (hk : k < 9) (hmm : meetsB (spd x) (spd (T k)) = true) => chkT_meet hm h0 hk hmm)
      have HCE := Lib.hid (fun (hmm : ∀ k, k < 9 → meetsB (spd x) (spd (T k)) = false) => chkT_end hm h0 hmm)
      have HPX := Lib.hid (fun W => places_any x hxw W)
      have HPO := Lib.hid (fun k (hk : k < 9) W => places_any (T k) (hT k hk) W)
      have HME := Lib.hid (fun p q W => meet_any p q W)
      have HB0 : Hid (Below w.heap.size w (w.alloc (.cells #[.int .i64 x.1, .int .i64 x.2.1, .int .i64 x.2.2] 59))) := Lib.hid ((Below.refl _ _).alloc (Nat.le_refl _) _)
      have HD0 := Lib.hid (h.grown (only_alloc (only_refl w none) (.cells #[.int .i64 x.1, .int .i64 x.2.1, .int .i64 x.2.2] 59)))
      have HLT := Lib.hid h.lt
      generalize chkT T x = c at HCM HCE ⊢
      obtain ⟨p, q, s⟩ := x
      clear h hT hx hm hmay hxw hk hf hn h0 hxf
      go_enter Try.func20, Try.ntmps20
      go_wp2_with (first
        | (go_at_call 32; with_reducible refine (HM.out _).mono ?_; rintro e w1 ⟨rfl, g1⟩; have D1 := Lib.hid (HD0.out.grown g1); have hx1 := (Blk.new w 59 #[.int .i64 p, .int .i64 q, .int .i64 s]).only g1 (by simp); have c0 := hx1.cell 0; simp at c0; have X1 := Lib.hid hx1; have B1 := Lib.hid (HB0.out.trans (below_of_only g1 (by simp) (by simp))); clear g1 hx1)
        | (go_at_call 29; with_reducible refine (HF.out _ D1.out).mono ?_; rintro e w2 ⟨rfl, g2⟩; have hd2 := D1.out.grown g2; have D2 := Lib.hid (hd2.grown (only_alloc (only_refl w2 none) (.cells #[.int .i64 0, .int .i64 0, .int .i64 0] 59))); have X2 := Lib.hid ((X1.out.only g2 (by simp)).alloc (.cells #[.int .i64 0, .int .i64 0, .int .i64 0] 59)); have B2 := Lib.hid ((B1.out.trans (below_of_only g2 B1.out.size (by simp))).alloc (Nat.le_trans B1.out.size g2.size) (.cells #[.int .i64 0, .int .i64 0, .int .i64 0] 59)); clear g2 hd2)
        | (refine wpList_load_parts (o := ⟨some 26, .load 64 (.tmp 25), _, _, _, none⟩) rfl (.tmp 25) rfl D2.out rfl ?_))
      generalize hw3 : w2.alloc (.cells #[.int .i64 0, .int .i64 0, .int .i64 0] 59) = w3 at *
      clear hw3 c0 D1 X1 B1
      go_loopw [27] (fun y wr => ∃ k : Nat, y = .int .i64 k ∧ k ≤ 9 ∧ Hid (∀ i, i < k → meetsB (spd (p, q, s)) (spd (T i)) = false) ∧ Hid (Blk wr w.heap.size 59 #[.int .i64 p, .int .i64 q, .int .i64 s]) ∧ Hid (Below w.heap.size w wr)) (fun y _ => 9 - (intOf y).toNat)
      case atStart => exact ⟨0, rfl, by omega, Lib.hid (fun i hi => absurd hi (by omega)), X2, B2⟩
      case round =>
        obtain ⟨k, rfl, hk9, HS, HX, HB⟩ := hrel
        by_cases hk : k < 9
        · have i1 : (k : Int) < 9 := by omega
          have hpo := HPO.out k hk
          have HCMk := Lib.hid (HCM.out k hk)
          have HK := Lib.hid hk
          go_wp2_with (refine wpList_index_part (T := T) (o := ⟨some 29, .index 64 (.tmp 26) (.tmp 27), _, _, _, none⟩) rfl (.tmp 26) (.tmp 27) rfl _ k HK.out rfl rfl ?_; generalize hTk : T k = y at hpo HCMk ⊢; have HTK := Lib.hid hTk; clear hTk; obtain ⟨x1, x2, x3⟩ := y)
          have HPOk := Lib.hid hpo
          obtain ⟨mb, hmb⟩ : ∃ mb, mb = meetsB (q, q + s) (x2, x2 + x3) := ⟨_, rfl⟩
          obtain ⟨z, hz⟩ : ∃ z, z = meetV (q, q + s) (x2, x2 + x3) := ⟨_, rfl⟩
          obtain ⟨v1, v2⟩ := z
          have hme : ∀ W, Calls Try.prog 33 #[.agg #[.int .i64 q, .int .i64 (q + s)], .agg #[.int .i64 x2, .int .i64 (x2 + x3)]] W fun e w' => e = .returned (.tuple #[.agg #[.int .i64 v1, .int .i64 v2], .bool mb]) ∧ W.grownBy w' none := fun W => by
            have := meet_any (q, q + s) (x2, x2 + x3) W
            rw [← hmb, ← hz] at this
            exact this
          have HMEk := Lib.hid hme
          have HMB := Lib.hid hmb
          clear hme hmb hz hpo hk i1
          obtain ⟨wq, hwq⟩ : ∃ wq, wq = wr.alloc (.cells #[.int .i64 x1, .int .i64 x2, .int .i64 x3] 59) := ⟨_, rfl⟩
          have hOQ : Blk wq wr.heap.size 59 #[.int .i64 x1, .int .i64 x2, .int .i64 x3] := by rw [hwq]; exact Blk.new _ _ _
          have hRQ : Blk wq w.heap.size 59 #[.int .i64 p, .int .i64 q, .int .i64 s] := by rw [hwq]; exact HX.out.alloc _
          have hBQ : Below w.heap.size w wq := by rw [hwq]; exact HB.out.alloc HB.out.size _
          rw [← hwq]
          have hold : ∀ W, Below wq.heap.size wq W → W.cell? ⟨w.heap.size, 0, none⟩ = some (.int .i64 p) ∧ W.cell? ⟨w.heap.size, 1, none⟩ = some (.int .i64 q) ∧ W.cell? ⟨w.heap.size, 2, none⟩ = some (.int .i64 s) ∧ W.cell? ⟨wr.heap.size, 0, none⟩ = some (.int .i64 x1) ∧ W.cell? ⟨wr.heap.size, 1, none⟩ = some (.int .i64 x2) ∧ W.cell? ⟨wr.heap.size, 2, none⟩ = some (.int .i64 x3) := fun W h =>
            ⟨(hRQ.below h hRQ.lt).cell 0, (hRQ.below h hRQ.lt).cell 1, (hRQ.below h hRQ.lt).cell 2, (hOQ.below h hOQ.lt).cell 0, (hOQ.below h hOQ.lt).cell 1, (hOQ.below h hOQ.lt).cell 2⟩
          have HOLD := Lib.hid hold
          obtain ⟨c0, c1, c2, c3, c4, c5⟩ := hold wq (Below.refl _ _)
          have HRQ := Lib.hid hRQ
          have HBQ := Lib.hid hBQ
          clear hwq hOQ hRQ hBQ hold
          go_region_held3 (fun w' => w'.cell? ⟨w.heap.size, 0, none⟩ = some (.int .i64 p) ∧ w'.cell? ⟨w.heap.size, 1, none⟩ = some (.int .i64 q) ∧ w'.cell? ⟨w.heap.size, 2, none⟩ = some (.int .i64 s) ∧ w'.cell? ⟨wr.heap.size, 0, none⟩ = some (.int .i64 x1) ∧ w'.cell? ⟨wr.heap.size, 1, none⟩ = some (.int .i64 x2) ∧ w'.cell? ⟨wr.heap.size, 2, none⟩ = some (.int .i64 x3))
            (first | exact ⟨l0, l1, l2, l3, l4, l5⟩ | exact ⟨k0, k1, k2, k3, k4, k5⟩ | exact ⟨j0, j1, j2, j3, j4, j5⟩ | exact HOLD.out _ (HB6.out.alloc HB6.out.size _) | exact HOLD.out _ ((HB6.out.setCell (Nat.le_refl _) _).setCell (Nat.le_refl _) _) | exact HOLD.out _ ((HB6.out.setCell HB4.out.size _).setCell HB4.out.size _) | exact HOLD.out _ ((HB6.out.setCell HB5.out.size _).setCell HB5.out.size _) | go_keep) (first
            | (go_at_call 34; ((with_reducible refine (HPX.out _).mono ?_)); rintro e w4 ⟨rfl, g4⟩; (first
                | (have hB4 : Below wq.heap.size wq w4 := (below_drewN (Below.refl _ wq) 1).trans (below_of_only g4 (by simp) (by simp)))
                | (have hB4 : Below wq.heap.size wq w4 := ((below_drewN (Below.refl _ wq) 1).alloc (by simp) (.cells #[.int .i64 0, .int .i64 0] 70)).trans (below_of_only g4 (by simp) (by simp)); have HZ4 := Lib.hid ((Blk.new wq.drew 70 #[.int .i64 0, .int .i64 0]).only g4 (by simp))) | fail "q"); obtain ⟨j0, j1, j2, j3, j4, j5⟩ := HOLD.out w4 hB4; have HB4 := Lib.hid hB4; clear hB4 g4)
            | (go_at_call 34; ((with_reducible refine (HPOk.out _).mono ?_)); rintro e w5 ⟨rfl, g5⟩; (first
                | (have hB5 : Below wq.heap.size wq w5 := HB4.out.trans (below_of_only g5 HB4.out.size (by simp)))
                | (have hB5 : Below wq.heap.size wq w5 := (HB4.out.alloc HB4.out.size (.cells #[.int .i64 0, .int .i64 0] 70)).trans (below_of_only g5 (Nat.le_trans HB4.out.size (by simp)) (by simp)); have HZ5 := Lib.hid ((Blk.new w4 70 #[.int .i64 0, .int .i64 0]).only g5 (by simp))) | fail "q"); obtain ⟨k0, k1, k2, k3, k4, k5⟩ := HOLD.out w5 hB5; (try have HZ5 := Lib.hid (HZ4.out.only g5 (by simp))); have HB5 := Lib.hid hB5; clear hB5 g5)
            | (go_at_call 33; ((with_reducible refine (HMEk.out _).mono ?_)); rintro e w6 ⟨rfl, g6⟩; (first
                | (have hB6 : Below wq.heap.size wq w6 := HB5.out.trans (below_of_only g6 HB5.out.size (by simp)))
                | (have hB6 : Below wq.heap.size wq w6 := (HB5.out.alloc HB5.out.size (.cells #[.int .i64 0, .int .i64 0] 70)).trans (below_of_only g6 (Nat.le_trans HB5.out.size (by simp)) (by simp)); have HZ6 := Lib.hid ((Blk.new w5 70 #[.int .i64 0, .int .i64 0]).only g6 (by simp))) | fail "q"); obtain ⟨l0, l1, l2, l3, l4, l5⟩ := HOLD.out w6 hB6; (try have HZ6 := Lib.hid (HZ5.out.only g6 (by simp))); (try (have z0 := HZ6.out.cell 0; have z1 := HZ6.out.cell 1; have y0 := HZ6.out.free 0; have y1 := HZ6.out.free 1; simp at z0 z1 y0 y1)); have HB6 := Lib.hid hB6; clear hB6 g6))
          all_goals
            (first
              | (obtain ⟨wf, hwf⟩ : ∃ wf, wf = w6.alloc (.cells #[.int .i64 v1, .int .i64 v2] 70) := ⟨_, rfl⟩
                 rw [← hwf]
                 have HF : Hid (Below wq.heap.size wq wf) := by rw [hwf]; exact Lib.hid (HB6.out.alloc HB6.out.size _))
              | (obtain ⟨wf, hwf⟩ : ∃ wf, wf = (w6.setCell ⟨w5.heap.size, 0, none⟩ (.int .i64 v1)).setCell ⟨w5.heap.size, 1, none⟩ (.int .i64 v2) := ⟨_, rfl⟩
                 rw [← hwf]
                 have HF : Hid (Below wq.heap.size wq wf) := by rw [hwf]; exact Lib.hid ((HB6.out.setCell HB5.out.size _).setCell HB5.out.size _))
              | (obtain ⟨wf, hwf⟩ : ∃ wf, wf = (w6.setCell ⟨w4.heap.size, 0, none⟩ (.int .i64 v1)).setCell ⟨w4.heap.size, 1, none⟩ (.int .i64 v2) := ⟨_, rfl⟩
                 rw [← hwf]
                 have HF : Hid (Below wq.heap.size wq wf) := by rw [hwf]; exact Lib.hid ((HB6.out.setCell HB4.out.size _).setCell HB4.out.size _))
              | (obtain ⟨wf, hwf⟩ : ∃ wf, wf = (w6.setCell ⟨wq.heap.size, 0, none⟩ (.int .i64 v1)).setCell ⟨wq.heap.size, 1, none⟩ (.int .i64 v2) := ⟨_, rfl⟩
                 rw [← hwf]
                 have HF : Hid (Below wq.heap.size wq wf) := by rw [hwf]; exact Lib.hid ((HB6.out.setCell (Nat.le_refl _) _).setCell (Nat.le_refl _) _)))
            clear hwf l0 l1 l2 l3 l4 l5 k0 k1 k2 k3 k4 k5 j0 j1 j2 j3 j4 j5 HB4 HB5 HB6 c0 c1 c2 c3 c4 c5
            try clear z0 z1 y0 y1
            cases mb with
            | true =>
              have hc : c = 11 := HCMk.out HMB.out.symm
              subst hc
              go_wp2
              go_ret
              exact ⟨rfl, HBQ.out.trans (HF.out.mono HBQ.out.size)⟩
            | false =>
              go_wp2
              go_roundw
              case rel =>
                refine ⟨k + 1, by go_num, by have := HK.out; omega, Lib.hid fun i hi => ?_, Lib.hid (HRQ.out.below HF.out HRQ.out.lt), Lib.hid (HBQ.out.trans (HF.out.mono HBQ.out.size))⟩
                by_cases e : i = k
                · subst e
                  rw [HTK.out]
                  exact HMB.out.symm
                · exact HS.out i (by omega)
              case measure => have := HK.out; simp [intOf]; omega
        · obtain rfl : k = 9 := by omega
          have hc : c = 0 := HCE.out HS.out
          subst hc
          go_wp2
          go_ret
          exact ⟨rfl, HB.out⟩
    · have hn : noT T x.1 = false := by simp [noT, h0]; omega
      have hc : chkT T x = 15 := by unfold chkT; rw [if_neg (by simp [hm]), if_pos h0]
      rw [hc]
      rw [hn] at hf
      simp only [if_false, Bool.false_eq_true] at hf
      generalize T x.1.toNat = y at hf
      obtain ⟨y1, y2, y3⟩ := y
      have HF := Lib.hid hf
      have HB0 : Hid (Below w.heap.size w (w.alloc (.cells #[.int .i64 x.1, .int .i64 x.2.1, .int .i64 x.2.2] 59))) := Lib.hid ((Below.refl _ _).alloc (Nat.le_refl _) _)
      have HD0 := Lib.hid (h.grown (only_alloc (only_refl w none) (.cells #[.int .i64 x.1, .int .i64 x.2.1, .int .i64 x.2.2] 59)))
      obtain ⟨p, q, s⟩ := x
      clear h hT hx hm hmay hxw hk hf hn hc h0 hxf
      go_enter Try.func20, Try.ntmps20
      go_wp2_with (first
        | (go_at_call 32; with_reducible refine (HM.out _).mono ?_; rintro e w1 ⟨rfl, g1⟩; have D1 := Lib.hid (HD0.out.grown g1); have hx1 := (Blk.new w 59 #[.int .i64 p, .int .i64 q, .int .i64 s]).only g1 (by simp); have c0 := hx1.cell 0; simp at c0; have B1 := Lib.hid (HB0.out.trans (below_of_only g1 (by simp) (by simp))); clear g1 hx1)
        | (go_at_call 29; with_reducible refine (HF.out _ D1.out).mono ?_; rintro e w2 ⟨rfl, g2⟩; have B2 := Lib.hid (B1.out.trans (below_of_only g2 B1.out.size (by simp))); clear g2))
      go_ret
      exact ⟨rfl, B2.out.alloc B2.out.size _⟩
end Go.Proofs.Ytlmdnhpdeiekfaa
