/- RegionRows: its walk. -/
import Derived.Test.YthlapnljinkekaaRS
namespace Go.Proofs.Ythlapnljinkekaa
open Go.RowKit Go.Lib Go.Sort
set_option linter.unusedVariables false

theorem bases_one {d : Nat → Reg} {n : Nat} (h0 : chkN d n = 0) (i k : Nat) (hi : i < n) (hk : k < n) (h : (d i).2.1 = (d k).2.1) : d i = d k := by
  have hm := fun j (hj : j < n) => mayB_iff.1 (chkN_may h0 (d j) (Sr.lst_mem.2 ⟨j, hj, rfl⟩))
  have hh : ∀ j, j < n → (d j).2.1 = (d k).2.1 → holdsB (spn (d j)) (d k).2.1 = true := fun j hj e => by
    have := hm j hj
    simp [holdsB, spn]
    omega
  rw [one_holds h0 hi hk (hh i hi h) (hh k hk rfl)]

set_option maxHeartbeats 3200000 in
set_option maxRecDepth 100000 in
theorem rrows_walk (A : Option Addr) (len cap : Nat) (d : Nat → Reg) (o : Int) (w : World) (hst0 : Regs w A len cap d) (hf0 : ∀ i, i < len → Fits (d i)) (hlc : len ≤ cap) (hcm : cap ≤ 9223372036854775807) (ho : fitI o) :
    Calls Try.prog 3 #[.slice A len cap, .int .i64 o] w fun e w' => e = .returned (.bool true) ∧ Below w.heap.size w w' := by
  obtain ⟨n, hn⟩ : ∃ n, n = min len 20 := ⟨_, rfl⟩
  have hst := hst0.cut n (by omega)
  have hf : ∀ i, i < n → Fits (d i) := fun i hi => hf0 i (by omega)
  have hn20 : n ≤ 20 := by omega
  by_cases h0 : chkN d n = 0
  · have hnew := tnew_ok hst hf hn20 h0
    have hchk := fun W (hb : Below w.heap.size w W) => rcheck_is (hst.below hb) hf hn20 h0
    have hall := fun W B t (hT : TabV W B t (rws d n)) => (all_any hT (rws_len8 h0) (chkN_nodup h0)).mono fun e w' (h : AllV (rws d n) W e w') => (show ∃ A c d', e = .returned (.slice A n c) ∧ Regs w' A n c d' ∧ Hid ((Sr.lst n d').Perm (rws d n) ∧ Sr.Sorted d' 0 n) ∧ Below W.heap.size W w' from by
      obtain ⟨v, m, d', he, hv, hp, hs, hb⟩ := h
      have hm : m = n := by have := hp.length_eq; rw [Sr.lst_len, Sr.lst_len] at this; exact this
      subst hm
      obtain ⟨A', c', rfl, hr⟩ := hv.regs
      exact ⟨A', c', d', he, hr, ⟨hp, hs⟩, hb⟩)
    have hsrt := fun W (hb : Below w.heap.size w W) => (rsorted_any A n cap d W (hst.below hb) (by omega)).mono fun e w' (h : RSortedV W.heap.size n d W e w') => (show ∃ A c d', e = .returned (.slice A n c) ∧ Regs w' A n c d' ∧ Hid ((Sr.lst n d').Perm (rws d n) ∧ Sr.Sorted d' 0 n) ∧ Below W.heap.size W w' from by
      obtain ⟨v, d', he, hv, hp, hs, hb⟩ := h
      obtain ⟨A', c', rfl, hr⟩ := hv.regs
      exact ⟨A', c', d', he, hr, ⟨Sr.lst_perm hp, hs⟩, hb⟩)
    have hone := fun (e f : Nat → Reg) (he : Hid ((Sr.lst n e).Perm (rws d n) ∧ Sr.Sorted e 0 n)) (hf : Hid ((Sr.lst n f).Perm (rws d n) ∧ Sr.Sorted f 0 n)) => Sr.sorted_one (d := d) he.1 hf.1 he.2 hf.2 (bases_one h0)
    have hfnd := fun W (hb : Below w.heap.size w W) => rfind_any A n cap d o W (hst.below hb) (by omega)
    have hmay := chkN_may h0
    have HNEW := Lib.hid hnew
    have HCHK := Lib.hid hchk
    have HALL := Lib.hid hall
    have HSRT := Lib.hid hsrt
    have HONE := Lib.hid hone
    unfold RFindV fndR at hfnd
    cases hl : lookL (rws d n) o with
    | none =>
      have hfd := fun W B t (hT : TabV W B t (rws d n)) => find_none hT ho hl
      have hsp := fun W B t (hT : TabV W B t (rws d n)) => tspan_any hT hmay ho
      simp only [spanV, hl] at hsp
      rw [hl] at hfnd
      simp only [Option.getD_none] at hfnd
      have HFD := Lib.hid hfd
      have HSP := Lib.hid hsp
      have HFND := Lib.hid hfnd
      clear hst0 hf0 hst hf h0 hnew hchk hall hsrt hone hfnd hmay hl hfd hsp
      rcases Nat.lt_or_ge 20 len with h20 | h20
      · obtain rfl : n = 20 := by omega
        clear hn hn20
        go_enter Try.func3, Try.ntmps3
        go_wp2_with (first
          | (go_at_call 7; refine HNEW.out.mono ?_; rintro e w1 ⟨t, rfl, ht, b1⟩; have T1 := Lib.hid ht; have B1 := Lib.hid b1; clear ht b1)
          | (go_at_call 8; refine (HCHK.out _ B1.out).mono ?_; rintro e w2 ⟨rfl, b2⟩; have T2 := Lib.hid (T1.out.below b2); have B2 := Lib.hid (B1.out.trans (b2.mono B1.out.size)); clear b2)
          | (go_at_call 10; refine (HFD.out _ _ _ T2.out).mono ?_; rintro e w3 ⟨rfl, g3⟩; have b3 := (below_of_only g3 (Nat.le_refl _) (by simp)).alloc (below_of_only g3 (Nat.le_refl _) (by simp) : Below w2.heap.size w2 w3).size (.cells #[.int .i64 0, .int .i64 0, .int .i64 0] 30); have T3 := Lib.hid (T2.out.below b3); have B3 := Lib.hid (B2.out.trans (b3.mono B2.out.size)); have R3 := Lib.hid (Blk.new w3 30 #[.int .i64 0, .int .i64 0, .int .i64 0]); clear g3 b3)
          | (go_at_call 11; refine (HFND.out _ B3.out).mono ?_; rintro e w4 ⟨rfl, b4⟩; have b5 := b4.alloc b4.size (.cells #[.int .i64 0, .int .i64 0, .int .i64 0] 30); have T4 := Lib.hid (T3.out.below b5); have B4 := Lib.hid (B3.out.trans (b5.mono B3.out.size)); have R4 := Lib.hid (R3.out.below b5 R3.out.lt); have X4 := Lib.hid (Blk.new w4 30 #[.int .i64 0, .int .i64 0, .int .i64 0]); clear b4 b5)
          | (go_at_call 12; refine (HALL.out _ _ _ T4.out).mono ?_; rintro e w5 ⟨A5, c5, d5, rfl, hr5, hh5, b5⟩; have Y5 := Lib.hid hr5; have T5 := Lib.hid (T4.out.below b5); have B5 := Lib.hid (B4.out.trans (b5.mono B4.out.size)); have R5 := Lib.hid (R4.out.below b5 R4.out.lt); have X5 := Lib.hid (X4.out.below b5 X4.out.lt); clear hr5 b5)
          | (go_at_call 13; refine (HSRT.out _ B5.out).mono ?_; rintro e w6 ⟨A6, c6, d6, rfl, hr6, hh6, b6⟩; have Z6 := Lib.hid hr6; have Y6 := Lib.hid (Y5.out.below b6); have T6 := Lib.hid (T5.out.below b6); have B6 := Lib.hid (B5.out.trans (b6.mono B5.out.size)); have R6 := Lib.hid (R5.out.below b6 R5.out.lt); have X6 := Lib.hid (X5.out.below b6 X5.out.lt); clear hr6 b6))
        have hde := HONE.out d5 d6 hh5 hh6
        have HDE := Lib.hid hde
        clear hde hh5 hh6
        go_loopw [13] (fun y wr => ∃ i : Nat, y = .int .i64 i ∧ i ≤ 20 ∧ Below w6.heap.size w6 wr) (fun y _ => 20 - (intOf y).toNat)
        case atStart => exact ⟨0, rfl, by omega, Below.refl _ _⟩
        case round =>
          obtain ⟨i, rfl, hi, hb⟩ := hrel
          have HB := Lib.hid hb
          clear hb
          by_cases hin : i < 20
          · obtain ⟨b1, o1, rfl, hb1, hc1⟩ := (Y6.out.below HB.out).2 (by omega)
            obtain ⟨b2, o2, rfl, hb2, hc2⟩ := (Z6.out.below HB.out).2 (by omega)
            obtain ⟨c0, c1, c2⟩ := hc1 i hin
            obtain ⟨c3, c4, c7⟩ := hc2 i hin
            rw [← HDE.out i hin] at c3 c4 c7
            clear hc1 hc2
            obtain ⟨x, hx⟩ : ∃ x, x = d5 i := ⟨_, rfl⟩
            rw [← hx] at c0 c1 c2 c3 c4 c7
            clear hx
            have i1 : (i : Int) < (20 : Int) := by omega
            go_wp2
            go_quiet (fail)
            go_wp2
            go_roundw
            case rel => exact ⟨i + 1, by go_num, by omega, below_drewN HB.out _⟩
            case measure => simp [intOf] <;> omega
          · have i1 : ¬ (i : Int) < (20 : Int) := by omega
            have RB := Lib.hid (R6.out.below HB.out R6.out.lt)
            have XB := Lib.hid (X6.out.below HB.out X6.out.lt)
            have BB := Lib.hid (B6.out.trans (HB.out.mono B6.out.size))
            have TB := Lib.hid (T6.out.below HB.out)
            have x0 := XB.out.cell 0
            simp at x0
            have hor : o < 1 ∨ ¬ o < 1 := by omega
            rcases hor with ho1 | ho1
            all_goals
              go_wp2_with (first
                | (go_at_call 9; refine (rlive_any _).mono ?_; rintro e w7 ⟨rfl, b7⟩; have R7 := Lib.hid (RB.out.below b7 RB.out.lt); have T7 := Lib.hid (TB.out.below b7); have B7 := Lib.hid (BB.out.trans (b7.mono BB.out.size)); have r0 := R7.out.cell 0; have r1 := R7.out.cell 1; have r2 := R7.out.cell 2; simp at r0 r1 r2; clear b7)
                | (go_at_call 14; refine (HSP.out _ _ _ T7.out).mono ?_; rintro e w8 ⟨rfl, g8⟩; have B8 := Lib.hid (B7.out.trans (below_of_only g8 B7.out.size (by simp))); clear g8))
              go_ret
              exact ⟨by first | rfl | simp, B8.out⟩
      · obtain rfl : n = len := by omega
        clear hn hn20
        go_enter Try.func3, Try.ntmps3
        go_wp2_with (first
          | (go_at_call 7; refine HNEW.out.mono ?_; rintro e w1 ⟨t, rfl, ht, b1⟩; have T1 := Lib.hid ht; have B1 := Lib.hid b1; clear ht b1)
          | (go_at_call 8; refine (HCHK.out _ B1.out).mono ?_; rintro e w2 ⟨rfl, b2⟩; have T2 := Lib.hid (T1.out.below b2); have B2 := Lib.hid (B1.out.trans (b2.mono B1.out.size)); clear b2)
          | (go_at_call 10; refine (HFD.out _ _ _ T2.out).mono ?_; rintro e w3 ⟨rfl, g3⟩; have b3 := (below_of_only g3 (Nat.le_refl _) (by simp)).alloc (below_of_only g3 (Nat.le_refl _) (by simp) : Below w2.heap.size w2 w3).size (.cells #[.int .i64 0, .int .i64 0, .int .i64 0] 30); have T3 := Lib.hid (T2.out.below b3); have B3 := Lib.hid (B2.out.trans (b3.mono B2.out.size)); have R3 := Lib.hid (Blk.new w3 30 #[.int .i64 0, .int .i64 0, .int .i64 0]); clear g3 b3)
          | (go_at_call 11; refine (HFND.out _ B3.out).mono ?_; rintro e w4 ⟨rfl, b4⟩; have b5 := b4.alloc b4.size (.cells #[.int .i64 0, .int .i64 0, .int .i64 0] 30); have T4 := Lib.hid (T3.out.below b5); have B4 := Lib.hid (B3.out.trans (b5.mono B3.out.size)); have R4 := Lib.hid (R3.out.below b5 R3.out.lt); have X4 := Lib.hid (Blk.new w4 30 #[.int .i64 0, .int .i64 0, .int .i64 0]); clear b4 b5)
          | (go_at_call 12; refine (HALL.out _ _ _ T4.out).mono ?_; rintro e w5 ⟨A5, c5, d5, rfl, hr5, hh5, b5⟩; have Y5 := Lib.hid hr5; have T5 := Lib.hid (T4.out.below b5); have B5 := Lib.hid (B4.out.trans (b5.mono B4.out.size)); have R5 := Lib.hid (R4.out.below b5 R4.out.lt); have X5 := Lib.hid (X4.out.below b5 X4.out.lt); clear hr5 b5)
          | (go_at_call 13; refine (HSRT.out _ B5.out).mono ?_; rintro e w6 ⟨A6, c6, d6, rfl, hr6, hh6, b6⟩; have Z6 := Lib.hid hr6; have Y6 := Lib.hid (Y5.out.below b6); have T6 := Lib.hid (T5.out.below b6); have B6 := Lib.hid (B5.out.trans (b6.mono B5.out.size)); have R6 := Lib.hid (R5.out.below b6 R5.out.lt); have X6 := Lib.hid (X5.out.below b6 X5.out.lt); clear hr6 b6))
        have hde := HONE.out d5 d6 hh5 hh6
        have HDE := Lib.hid hde
        clear hde hh5 hh6
        go_loopw [13] (fun y wr => ∃ i : Nat, y = .int .i64 i ∧ i ≤ n ∧ Below w6.heap.size w6 wr) (fun y _ => n - (intOf y).toNat)
        case atStart => exact ⟨0, rfl, by omega, Below.refl _ _⟩
        case round =>
          obtain ⟨i, rfl, hi, hb⟩ := hrel
          have HB := Lib.hid hb
          clear hb
          by_cases hin : i < n
          · obtain ⟨b1, o1, rfl, hb1, hc1⟩ := (Y6.out.below HB.out).2 (by omega)
            obtain ⟨b2, o2, rfl, hb2, hc2⟩ := (Z6.out.below HB.out).2 (by omega)
            obtain ⟨c0, c1, c2⟩ := hc1 i hin
            obtain ⟨c3, c4, c7⟩ := hc2 i hin
            rw [← HDE.out i hin] at c3 c4 c7
            clear hc1 hc2
            obtain ⟨x, hx⟩ : ∃ x, x = d5 i := ⟨_, rfl⟩
            rw [← hx] at c0 c1 c2 c3 c4 c7
            clear hx
            have i1 : (i : Int) < (n : Int) := by omega
            go_wp2
            go_quiet (fail)
            go_wp2
            go_roundw
            case rel => exact ⟨i + 1, by go_num, by omega, below_drewN HB.out _⟩
            case measure => simp [intOf] <;> omega
          · have i1 : ¬ (i : Int) < (n : Int) := by omega
            have RB := Lib.hid (R6.out.below HB.out R6.out.lt)
            have XB := Lib.hid (X6.out.below HB.out X6.out.lt)
            have BB := Lib.hid (B6.out.trans (HB.out.mono B6.out.size))
            have TB := Lib.hid (T6.out.below HB.out)
            have x0 := XB.out.cell 0
            simp at x0
            have hor : o < 1 ∨ ¬ o < 1 := by omega
            rcases hor with ho1 | ho1
            all_goals
              go_wp2_with (first
                | (go_at_call 9; refine (rlive_any _).mono ?_; rintro e w7 ⟨rfl, b7⟩; have R7 := Lib.hid (RB.out.below b7 RB.out.lt); have T7 := Lib.hid (TB.out.below b7); have B7 := Lib.hid (BB.out.trans (b7.mono BB.out.size)); have r0 := R7.out.cell 0; have r1 := R7.out.cell 1; have r2 := R7.out.cell 2; simp at r0 r1 r2; clear b7)
                | (go_at_call 14; refine (HSP.out _ _ _ T7.out).mono ?_; rintro e w8 ⟨rfl, g8⟩; have B8 := Lib.hid (B7.out.trans (below_of_only g8 B7.out.size (by simp))); clear g8))
              go_ret
              exact ⟨by first | rfl | simp, B8.out⟩
    | some r =>
      obtain ⟨p, q, s⟩ := r
      have hlr := lookL_some hl
      obtain rfl : p = o := hlr.2
      have hmy := mayB_iff.1 (hmay.look hl)
      simp only at hmy
      have hfd := fun W B t (hT : TabV W B t (rws d n)) => find_some hT ho hl
      have hsp := fun W B t (hT : TabV W B t (rws d n)) => tspan_any hT hmay ho
      have hrs := fun W => rspan_any (p, q, s) (hmay.look hl) W
      simp only [spanV, hl] at hsp
      rw [hl] at hfnd
      simp only [Option.getD_some] at hfnd
      have HFD := Lib.hid hfd
      have HSP := Lib.hid hsp
      have HRS := Lib.hid hrs
      have HFND := Lib.hid hfnd
      have o1 : ¬ p < 1 := by omega
      have o2 : ¬ p = 0 := by omega
      have o3 : (p == 0) = false := by simpa using o2
      clear hst0 hf0 hst hf h0 hnew hchk hall hsrt hone hfnd hmay hl hfd hsp hrs hlr hmy
      rcases Nat.lt_or_ge 20 len with h20 | h20
      · obtain rfl : n = 20 := by omega
        clear hn hn20
        go_enter Try.func3, Try.ntmps3
        go_wp2_with (first
          | (go_at_call 7; refine HNEW.out.mono ?_; rintro e w1 ⟨t, rfl, ht, b1⟩; have T1 := Lib.hid ht; have B1 := Lib.hid b1; clear ht b1)
          | (go_at_call 8; refine (HCHK.out _ B1.out).mono ?_; rintro e w2 ⟨rfl, b2⟩; have T2 := Lib.hid (T1.out.below b2); have B2 := Lib.hid (B1.out.trans (b2.mono B1.out.size)); clear b2)
          | (go_at_call 10; refine (HFD.out _ _ _ T2.out).mono ?_; rintro e w3 ⟨rfl, g3⟩; have b3 := (below_of_only g3 (Nat.le_refl _) (by simp)).alloc (below_of_only g3 (Nat.le_refl _) (by simp) : Below w2.heap.size w2 w3).size (.cells #[.int .i64 p, .int .i64 q, .int .i64 s] 30); have T3 := Lib.hid (T2.out.below b3); have B3 := Lib.hid (B2.out.trans (b3.mono B2.out.size)); have R3 := Lib.hid (Blk.new w3 30 #[.int .i64 p, .int .i64 q, .int .i64 s]); clear g3 b3)
          | (go_at_call 11; refine (HFND.out _ B3.out).mono ?_; rintro e w4 ⟨rfl, b4⟩; have b5 := b4.alloc b4.size (.cells #[.int .i64 p, .int .i64 q, .int .i64 s] 30); have T4 := Lib.hid (T3.out.below b5); have B4 := Lib.hid (B3.out.trans (b5.mono B3.out.size)); have R4 := Lib.hid (R3.out.below b5 R3.out.lt); have X4 := Lib.hid (Blk.new w4 30 #[.int .i64 p, .int .i64 q, .int .i64 s]); clear b4 b5)
          | (go_at_call 12; refine (HALL.out _ _ _ T4.out).mono ?_; rintro e w5 ⟨A5, c5, d5, rfl, hr5, hh5, b5⟩; have Y5 := Lib.hid hr5; have T5 := Lib.hid (T4.out.below b5); have B5 := Lib.hid (B4.out.trans (b5.mono B4.out.size)); have R5 := Lib.hid (R4.out.below b5 R4.out.lt); have X5 := Lib.hid (X4.out.below b5 X4.out.lt); clear hr5 b5)
          | (go_at_call 13; refine (HSRT.out _ B5.out).mono ?_; rintro e w6 ⟨A6, c6, d6, rfl, hr6, hh6, b6⟩; have Z6 := Lib.hid hr6; have Y6 := Lib.hid (Y5.out.below b6); have T6 := Lib.hid (T5.out.below b6); have B6 := Lib.hid (B5.out.trans (b6.mono B5.out.size)); have R6 := Lib.hid (R5.out.below b6 R5.out.lt); have X6 := Lib.hid (X5.out.below b6 X5.out.lt); clear hr6 b6))
        have hde := HONE.out d5 d6 hh5 hh6
        have HDE := Lib.hid hde
        clear hde hh5 hh6
        go_loopw [13] (fun y wr => ∃ i : Nat, y = .int .i64 i ∧ i ≤ 20 ∧ Below w6.heap.size w6 wr) (fun y _ => 20 - (intOf y).toNat)
        case atStart => exact ⟨0, rfl, by omega, Below.refl _ _⟩
        case round =>
          obtain ⟨i, rfl, hi, hb⟩ := hrel
          have HB := Lib.hid hb
          clear hb
          by_cases hin : i < 20
          · obtain ⟨b1, o1, rfl, hb1, hc1⟩ := (Y6.out.below HB.out).2 (by omega)
            obtain ⟨b2, o2, rfl, hb2, hc2⟩ := (Z6.out.below HB.out).2 (by omega)
            obtain ⟨c0, c1, c2⟩ := hc1 i hin
            obtain ⟨c3, c4, c7⟩ := hc2 i hin
            rw [← HDE.out i hin] at c3 c4 c7
            clear hc1 hc2
            obtain ⟨x, hx⟩ : ∃ x, x = d5 i := ⟨_, rfl⟩
            rw [← hx] at c0 c1 c2 c3 c4 c7
            clear hx
            have i1 : (i : Int) < (20 : Int) := by omega
            go_wp2
            go_quiet (fail)
            go_wp2
            go_roundw
            case rel => exact ⟨i + 1, by go_num, by omega, below_drewN HB.out _⟩
            case measure => simp [intOf] <;> omega
          · have i1 : ¬ (i : Int) < (20 : Int) := by omega
            have RB := Lib.hid (R6.out.below HB.out R6.out.lt)
            have XB := Lib.hid (X6.out.below HB.out X6.out.lt)
            have BB := Lib.hid (B6.out.trans (HB.out.mono B6.out.size))
            have TB := Lib.hid (T6.out.below HB.out)
            have x0 := XB.out.cell 0
            simp at x0
            have r0 := RB.out.cell 0
            have r1 := RB.out.cell 1
            have r2 := RB.out.cell 2
            have x1 := XB.out.cell 1
            have x2 := XB.out.cell 2
            simp at r0 r1 r2 x1 x2
            have hspw := fun W (hW : Below wr.heap.size wr W) => HSP.out W _ _ (TB.out.below hW)
            have HSPW := Lib.hid hspw
            go_wp2
            have k0 := fun d os => cell_regrown r0 d os
            have k1 := fun d os => cell_regrown r1 d os
            have k2 := fun d os => cell_regrown r2 d os
            have k3 := fun d os => cell_regrown x0 d os
            have k4 := fun d os => cell_regrown x1 d os
            have k5 := fun d os => cell_regrown x2 d os
            clear r0 r1 r2 x0 x1 x2 hspw
            refine wp_region_quiet_below (by kernel_rfl) (by kernel_rfl) ?_
            repeat (quiet_step (first
              | (go_at_call 9; exact Calls.regrown_of (rlive_any _))
              | (go_at_call 14; exact Calls.regrown_of ((HSPW.out _ (below_regrown wr _ _)).mono fun _ _ ⟨h1, h2⟩ => ⟨h1, below_of_only h2 (Nat.le_refl _) (by simp)⟩))
              | (go_at_call 15; exact Calls.regrown_of ((HRS.out _).mono fun _ _ ⟨h1, h2⟩ => ⟨h1, below_of_only h2 (Nat.le_refl _) (by simp)⟩))))
            refine wpQuiet_nil ?_
            rintro _ ⟨⟨dq, osq⟩, rfl⟩
            have hb3 := below_regrown wr dq osq
            generalize grow (redrawn wr dq) osq = w9 at hb3 ⊢
            have B9 := Lib.hid (BB.out.trans (hb3.mono BB.out.size))
            clear hb3 k0 k1 k2 k3 k4 k5
            go_wp2
            go_ret
            exact ⟨by first | rfl | simp, B9.out⟩
      · obtain rfl : n = len := by omega
        clear hn hn20
        go_enter Try.func3, Try.ntmps3
        go_wp2_with (first
          | (go_at_call 7; refine HNEW.out.mono ?_; rintro e w1 ⟨t, rfl, ht, b1⟩; have T1 := Lib.hid ht; have B1 := Lib.hid b1; clear ht b1)
          | (go_at_call 8; refine (HCHK.out _ B1.out).mono ?_; rintro e w2 ⟨rfl, b2⟩; have T2 := Lib.hid (T1.out.below b2); have B2 := Lib.hid (B1.out.trans (b2.mono B1.out.size)); clear b2)
          | (go_at_call 10; refine (HFD.out _ _ _ T2.out).mono ?_; rintro e w3 ⟨rfl, g3⟩; have b3 := (below_of_only g3 (Nat.le_refl _) (by simp)).alloc (below_of_only g3 (Nat.le_refl _) (by simp) : Below w2.heap.size w2 w3).size (.cells #[.int .i64 p, .int .i64 q, .int .i64 s] 30); have T3 := Lib.hid (T2.out.below b3); have B3 := Lib.hid (B2.out.trans (b3.mono B2.out.size)); have R3 := Lib.hid (Blk.new w3 30 #[.int .i64 p, .int .i64 q, .int .i64 s]); clear g3 b3)
          | (go_at_call 11; refine (HFND.out _ B3.out).mono ?_; rintro e w4 ⟨rfl, b4⟩; have b5 := b4.alloc b4.size (.cells #[.int .i64 p, .int .i64 q, .int .i64 s] 30); have T4 := Lib.hid (T3.out.below b5); have B4 := Lib.hid (B3.out.trans (b5.mono B3.out.size)); have R4 := Lib.hid (R3.out.below b5 R3.out.lt); have X4 := Lib.hid (Blk.new w4 30 #[.int .i64 p, .int .i64 q, .int .i64 s]); clear b4 b5)
          | (go_at_call 12; refine (HALL.out _ _ _ T4.out).mono ?_; rintro e w5 ⟨A5, c5, d5, rfl, hr5, hh5, b5⟩; have Y5 := Lib.hid hr5; have T5 := Lib.hid (T4.out.below b5); have B5 := Lib.hid (B4.out.trans (b5.mono B4.out.size)); have R5 := Lib.hid (R4.out.below b5 R4.out.lt); have X5 := Lib.hid (X4.out.below b5 X4.out.lt); clear hr5 b5)
          | (go_at_call 13; refine (HSRT.out _ B5.out).mono ?_; rintro e w6 ⟨A6, c6, d6, rfl, hr6, hh6, b6⟩; have Z6 := Lib.hid hr6; have Y6 := Lib.hid (Y5.out.below b6); have T6 := Lib.hid (T5.out.below b6); have B6 := Lib.hid (B5.out.trans (b6.mono B5.out.size)); have R6 := Lib.hid (R5.out.below b6 R5.out.lt); have X6 := Lib.hid (X5.out.below b6 X5.out.lt); clear hr6 b6))
        have hde := HONE.out d5 d6 hh5 hh6
        have HDE := Lib.hid hde
        clear hde hh5 hh6
        go_loopw [13] (fun y wr => ∃ i : Nat, y = .int .i64 i ∧ i ≤ n ∧ Below w6.heap.size w6 wr) (fun y _ => n - (intOf y).toNat)
        case atStart => exact ⟨0, rfl, by omega, Below.refl _ _⟩
        case round =>
          obtain ⟨i, rfl, hi, hb⟩ := hrel
          have HB := Lib.hid hb
          clear hb
          by_cases hin : i < n
          · obtain ⟨b1, o1, rfl, hb1, hc1⟩ := (Y6.out.below HB.out).2 (by omega)
            obtain ⟨b2, o2, rfl, hb2, hc2⟩ := (Z6.out.below HB.out).2 (by omega)
            obtain ⟨c0, c1, c2⟩ := hc1 i hin
            obtain ⟨c3, c4, c7⟩ := hc2 i hin
            rw [← HDE.out i hin] at c3 c4 c7
            clear hc1 hc2
            obtain ⟨x, hx⟩ : ∃ x, x = d5 i := ⟨_, rfl⟩
            rw [← hx] at c0 c1 c2 c3 c4 c7
            clear hx
            have i1 : (i : Int) < (n : Int) := by omega
            go_wp2
            go_quiet (fail)
            go_wp2
            go_roundw
            case rel => exact ⟨i + 1, by go_num, by omega, below_drewN HB.out _⟩
            case measure => simp [intOf] <;> omega
          · have i1 : ¬ (i : Int) < (n : Int) := by omega
            have RB := Lib.hid (R6.out.below HB.out R6.out.lt)
            have XB := Lib.hid (X6.out.below HB.out X6.out.lt)
            have BB := Lib.hid (B6.out.trans (HB.out.mono B6.out.size))
            have TB := Lib.hid (T6.out.below HB.out)
            have x0 := XB.out.cell 0
            simp at x0
            have r0 := RB.out.cell 0
            have r1 := RB.out.cell 1
            have r2 := RB.out.cell 2
            have x1 := XB.out.cell 1
            have x2 := XB.out.cell 2
            simp at r0 r1 r2 x1 x2
            have hspw := fun W (hW : Below wr.heap.size wr W) => HSP.out W _ _ (TB.out.below hW)
            have HSPW := Lib.hid hspw
            go_wp2
            have k0 := fun d os => cell_regrown r0 d os
            have k1 := fun d os => cell_regrown r1 d os
            have k2 := fun d os => cell_regrown r2 d os
            have k3 := fun d os => cell_regrown x0 d os
            have k4 := fun d os => cell_regrown x1 d os
            have k5 := fun d os => cell_regrown x2 d os
            clear r0 r1 r2 x0 x1 x2 hspw
            refine wp_region_quiet_below (by kernel_rfl) (by kernel_rfl) ?_
            repeat (quiet_step (first
              | (go_at_call 9; exact Calls.regrown_of (rlive_any _))
              | (go_at_call 14; exact Calls.regrown_of ((HSPW.out _ (below_regrown wr _ _)).mono fun _ _ ⟨h1, h2⟩ => ⟨h1, below_of_only h2 (Nat.le_refl _) (by simp)⟩))
              | (go_at_call 15; exact Calls.regrown_of ((HRS.out _).mono fun _ _ ⟨h1, h2⟩ => ⟨h1, below_of_only h2 (Nat.le_refl _) (by simp)⟩))))
            refine wpQuiet_nil ?_
            rintro _ ⟨⟨dq, osq⟩, rfl⟩
            have hb3 := below_regrown wr dq osq
            generalize grow (redrawn wr dq) osq = w9 at hb3 ⊢
            have B9 := Lib.hid (BB.out.trans (hb3.mono BB.out.size))
            clear hb3 k0 k1 k2 k3 k4 k5
            go_wp2
            go_ret
            exact ⟨by first | rfl | simp, B9.out⟩
  · obtain ⟨c, hc⟩ : ∃ c, chkN d n = c := ⟨_, rfl⟩
    rw [hc] at h0
    have hcb : (c != 0) = true := by simpa using h0
    have hnew := tnew_bad hst hf hn20 hc h0
    have hchk := fun W (hb : Below w.heap.size w W) => rcheck_is (hst.below hb) hf hn20 hc
    have HNEW := Lib.hid hnew
    have HCHK := Lib.hid hchk
    clear hst0 hf0 hst hf hnew hchk hc
    rcases Nat.lt_or_ge 20 len with h20 | h20
    · obtain rfl : n = 20 := by omega
      clear hn hn20
      go_enter Try.func3, Try.ntmps3
      go_wp2_with (first
        | (go_at_call 7; refine HNEW.out.mono ?_; rintro e w1 ⟨rfl, b1⟩; have B1 := Lib.hid b1; clear b1)
        | (go_at_call 8; refine (HCHK.out _ B1.out).mono ?_; rintro e w2 ⟨rfl, b2⟩; have B2 := Lib.hid (B1.out.trans (b2.mono B1.out.size)); clear b2)
        | (go_at_call 9; refine (rlive_any _).mono ?_; rintro e w6 ⟨rfl, b6⟩; have B6 := Lib.hid (B2.out.trans (b6.mono B2.out.size)); clear b6))
      go_ret
      exact ⟨by first | rfl | simp, B6.out⟩
    · obtain rfl : n = len := by omega
      clear hn hn20
      go_enter Try.func3, Try.ntmps3
      go_wp2_with (first
        | (go_at_call 7; refine HNEW.out.mono ?_; rintro e w1 ⟨rfl, b1⟩; have B1 := Lib.hid b1; clear b1)
        | (go_at_call 8; refine (HCHK.out _ B1.out).mono ?_; rintro e w2 ⟨rfl, b2⟩; have B2 := Lib.hid (B1.out.trans (b2.mono B1.out.size)); clear b2)
        | (go_at_call 9; refine (rlive_any _).mono ?_; rintro e w6 ⟨rfl, b6⟩; have B6 := Lib.hid (B2.out.trans (b6.mono B2.out.size)); clear b6))
      go_ret
      exact ⟨by first | rfl | simp, B6.out⟩
end Go.Proofs.Ythlapnljinkekaa
