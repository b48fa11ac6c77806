/- RegionMaps: its walk. -/
import Derived.Test.YthlapnljinkekaaRR11
namespace Go.Proofs.Ythlapnljinkekaa
open Go.RowKit Go.Lib Go.Sort
set_option linter.unusedVariables false

theorem rws_len8 {d : Nat → Reg} {n : Nat} (h : chkN d n = 0) : (rws d n).length ≤ 8 := by
  have hnd := chkN_nodup h
  have hm := chkN_may h
  -- the owners lie among 1 .. 8, and none twice
  have hsub : ∀ x ∈ (rws d n).map (·.1), x ∈ [1, 2, 3, 4, 5, 6, 7, (8 : Int)] := by
    intro x hx
    obtain ⟨r, hr, rfl⟩ := List.mem_map.1 hx
    have := mayB_iff.1 (hm r hr)
    simp
    omega
  have := (List.subset_def.2 (fun {a} ha => hsub a ha) : (rws d n).map (·.1) ⊆ [1, 2, 3, 4, 5, 6, 7, (8 : Int)])
  have hle := List.Nodup.length_le_of_subset hnd this
  simpa using hle

/-- What is known of a law's answer: what is mapped lies in the owner's region. -/
theorem mapV_in {L : List Reg} {o a n x : Int} (hm : AllMay L) (h : mapV L o a n = (x, 0)) : (spanV L o).1 ≤ x ∧ x ≤ (spanV L o).2 ∧ n ≤ (spanV L o).2 - x ∧ 128 ≤ x ∧ (spanV L o).2 ≤ 16384 ∧ 0 ≤ n := by
  unfold mapV at h
  unfold spanV
  cases hl : lookL L o with
  | none => rw [hl] at h; simp at h
  | some r =>
    rw [hl] at h
    have hmy := mayB_iff.1 (hm.look hl)
    simp only at h ⊢
    by_cases h1 : n < 0
    · rw [if_pos h1] at h; simp at h
    · rw [if_neg h1] at h
      by_cases h2 : a < 0
      · rw [if_pos h2] at h; simp at h
      · rw [if_neg h2] at h
        by_cases h3 : r.2.2 - a < n
        · rw [if_pos h3] at h; simp at h
        · rw [if_neg h3] at h
          injection h with h _
          omega
theorem mapV_low {L : List Reg} {o a n : Int} (hm : AllMay L) (h : o < 1) : mapV L o a n = (0, 7) := by
  unfold mapV
  cases hl : lookL L o with
  | none => rfl
  | some r =>
    have hmy := mayB_iff.1 (hm.look hl)
    have := (lookL_some hl).2
    omega

theorem tnew_ok {A : Option Addr} {n cap : Nat} {d : Nat → Reg} {w : World} (hst : Regs w A n cap d) (hf : ∀ i, i < n → Fits (d i)) (hn : n ≤ 20) (h0 : chkN d n = 0) :
    Calls Try.prog 7 #[.slice A n cap] w fun e w' => ∃ t, e = .returned (.tuple #[.pointer (some ⟨t, 0, none⟩), .int .i64 0]) ∧ TabV w' w.heap.size t (rws d n) ∧ Below w.heap.size w w' :=
  (tnew_any A n cap d w hst hf (by omega)).mono fun e w' ⟨hb, h⟩ => by
    rcases h with ⟨_, t, he, ht⟩ | ⟨hne, _⟩
    · exact ⟨t, he, ht, hb⟩
    · exact absurd h0 hne
theorem tnew_bad {A : Option Addr} {n cap : Nat} {d : Nat → Reg} {w : World} (hst : Regs w A n cap d) (hf : ∀ i, i < n → Fits (d i)) (hn : n ≤ 20) {c : Int} (h0 : chkN d n = c) (hc : c ≠ 0) :
    Calls Try.prog 7 #[.slice A n cap] w fun e w' => e = .returned (.tuple #[.pointer none, .int .i64 c]) ∧ Below w.heap.size w w' :=
  (tnew_any A n cap d w hst hf (by omega)).mono fun e w' ⟨hb, h⟩ => by
    rcases h with ⟨h1, _⟩ | ⟨_, he⟩
    · exact absurd (h0.symm.trans h1) hc
    · exact ⟨by rw [he, h0], hb⟩
theorem rcheck_is {A : Option Addr} {n cap : Nat} {d : Nat → Reg} {w : World} (hst : Regs w A n cap d) (hf : ∀ i, i < n → Fits (d i)) (hn : n ≤ 20) {c : Int} (h0 : chkN d n = c) :
    Calls Try.prog 8 #[.slice A n cap] w fun e w' => e = .returned (.int .i64 c) ∧ Below w.heap.size w w' :=
  (rcheck_any A n cap d w hst hf (by omega)).mono fun e w' ⟨he, hb⟩ => ⟨by rw [he, h0], hb⟩

set_option maxHeartbeats 3200000 in
set_option maxRecDepth 100000 in
theorem rmaps_walk (A : Option Addr) (len cap : Nat) (d : Nat → Reg) (o a m : Int) (w : World) (hst0 : Regs w A len cap d) (hf0 : ∀ i, i < len → Fits (d i)) (hlc : len ≤ cap) (hcm : cap ≤ 9223372036854775807) (ho : fitI o) (ha : fitI a) :
    Calls Try.prog 4 #[.slice A len cap, .int .i64 o, .int .i64 a, .int .i64 m] w fun e w' => e = .returned (.bool true) ∧ Below w.heap.size w w' := by
  obtain ⟨n, hn⟩ : ∃ n, n = min len 20 := ⟨_, rfl⟩
  have hst := hst0.cut n (by omega)
  have hf : ∀ i, i < n → Fits (d i) := fun i hi => hf0 i (by omega)
  have hn20 : n ≤ 20 := by omega
  by_cases h0 : chkN d n = 0
  · have hnew := tnew_ok hst hf hn20 h0
    have hchk := fun W (hb : Below w.heap.size w W) => rcheck_is (hst.below hb) hf hn20 h0
    have hmp := fun W B t (hT : TabV W B t (rws d n)) => map_any a m hT (chkN_may h0) ho ha
    have hsp := fun W B t (hT : TabV W B t (rws d n)) => tspan_any hT (chkN_may h0) ho
    have hrm := fun W (hb : Below w.heap.size w W) => rmap_any A n cap d o a m W (hst.below hb) (by omega) h0 ha
    have hin := fun x (h : mapV (rws d n) o a m = (x, 0)) => mapV_in (chkN_may h0) h
    have hlow := fun h : o < 1 => mapV_low (L := rws d n) (a := a) (n := m) (chkN_may h0) h
    have hcode : (mapV (rws d n) o a m).2 = 0 ∨ (mapV (rws d n) o a m).2 ≠ 0 := by omega
    obtain ⟨x, E, hxe⟩ : ∃ x E, mapV (rws d n) o a m = (x, E) := ⟨_, _, rfl⟩
    obtain ⟨s1, s2, hss⟩ : ∃ s1 s2, spanV (rws d n) o = (s1, s2) := ⟨_, _, rfl⟩
    simp only [hxe, hss] at hmp hsp hrm hin hlow hcode
    have HNEW := Lib.hid hnew
    have HCHK := Lib.hid hchk
    have HMP := Lib.hid hmp
    have HSP := Lib.hid hsp
    have HRM := Lib.hid hrm
    have HLOW := Lib.hid hlow
    by_cases hE : E = 0
    · subst hE
      have hio := hin x rfl
      obtain ⟨q1, q2, q3, q4, q5, q6⟩ := hio
      have hw : IntKind.i64.wrap (s2 - x) = s2 - x := by rw [IntKind.wrap_i64]; omega
      have ho1 : ¬ o < 1 := fun h => by
        have := hlow h
        injection this with _ this
        omega
      clear hst0 hf0 hst hf h0 hnew hchk hmp hsp hrm hin hlow hcode hxe hss HLOW q4 q5
      rcases Nat.lt_or_ge 20 len with h20 | h20
      · obtain rfl : n = 20 := by omega
        clear hn hn20
        go_enter Try.func4, Try.ntmps4
        go_wp2_with (first
          | (go_at_call 7; refine HNEW.out.mono ?_; rintro e w1 ⟨t, rfl, ht, b1⟩; have T1 := Lib.hid ht; have B1 := Lib.hid b1; clear ht b1)
          | (go_at_call 8; refine (HCHK.out _ B1.out).mono ?_; rintro e w2 ⟨rfl, b2⟩; have T2 := Lib.hid (T1.out.below b2); have B2 := Lib.hid (B1.out.trans (b2.mono B1.out.size)); clear b2)
          | (go_at_call 16; refine (HMP.out _ _ _ T2.out).mono ?_; rintro e w3 ⟨rfl, g3⟩; have T3 := Lib.hid (T2.out.below (below_of_only g3 (Nat.le_refl _) (by simp))); have B3 := Lib.hid (B2.out.trans (below_of_only g3 B2.out.size (by simp))); clear g3)
          | (go_at_call 17; refine (HRM.out _ B3.out).mono ?_; rintro e w4 ⟨rfl, b4⟩; have T4 := Lib.hid (T3.out.below b4); have B4 := Lib.hid (B3.out.trans (b4.mono B3.out.size)); clear b4)
          | (go_at_call 14; refine (HSP.out _ _ _ T4.out).mono ?_; rintro e w5 ⟨rfl, g5⟩; have B5 := Lib.hid (B4.out.trans (below_of_only g5 B4.out.size (by simp))); clear g5)
          | (go_at_call 9; refine (rlive_any _).mono ?_; rintro e w6 ⟨rfl, b6⟩; have B6 := Lib.hid ((B5.out.alloc B5.out.size (.cells #[.int .i64 s1, .int .i64 s2] 37)).trans (b6.mono (Nat.le_trans B5.out.size (by simp)))); have hs6 := (Blk.new w5 37 #[.int .i64 s1, .int .i64 s2]).below b6 (Blk.new _ _ _).lt; have e0 := hs6.cell 0; have e1 := hs6.cell 1; simp at e0 e1; clear b6 hs6))
        go_ret
        exact ⟨rfl, B6.out⟩
      · obtain rfl : n = len := by omega
        clear hn hn20
        go_enter Try.func4, Try.ntmps4
        go_wp2_with (first
          | (go_at_call 7; refine HNEW.out.mono ?_; rintro e w1 ⟨t, rfl, ht, b1⟩; have T1 := Lib.hid ht; have B1 := Lib.hid b1; clear ht b1)
          | (go_at_call 8; refine (HCHK.out _ B1.out).mono ?_; rintro e w2 ⟨rfl, b2⟩; have T2 := Lib.hid (T1.out.below b2); have B2 := Lib.hid (B1.out.trans (b2.mono B1.out.size)); clear b2)
          | (go_at_call 16; refine (HMP.out _ _ _ T2.out).mono ?_; rintro e w3 ⟨rfl, g3⟩; have T3 := Lib.hid (T2.out.below (below_of_only g3 (Nat.le_refl _) (by simp))); have B3 := Lib.hid (B2.out.trans (below_of_only g3 B2.out.size (by simp))); clear g3)
          | (go_at_call 17; refine (HRM.out _ B3.out).mono ?_; rintro e w4 ⟨rfl, b4⟩; have T4 := Lib.hid (T3.out.below b4); have B4 := Lib.hid (B3.out.trans (b4.mono B3.out.size)); clear b4)
          | (go_at_call 14; refine (HSP.out _ _ _ T4.out).mono ?_; rintro e w5 ⟨rfl, g5⟩; have B5 := Lib.hid (B4.out.trans (below_of_only g5 B4.out.size (by simp))); clear g5)
          | (go_at_call 9; refine (rlive_any _).mono ?_; rintro e w6 ⟨rfl, b6⟩; have B6 := Lib.hid ((B5.out.alloc B5.out.size (.cells #[.int .i64 s1, .int .i64 s2] 37)).trans (b6.mono (Nat.le_trans B5.out.size (by simp)))); have hs6 := (Blk.new w5 37 #[.int .i64 s1, .int .i64 s2]).below b6 (Blk.new _ _ _).lt; have e0 := hs6.cell 0; have e1 := hs6.cell 1; simp at e0 e1; clear b6 hs6))
        go_ret
        exact ⟨rfl, B6.out⟩
    · have hEb : (E != 0) = true := by simpa using hE
      by_cases ho1 : o < 1
      · have hl := hlow ho1
        obtain ⟨rfl, rfl⟩ : x = 0 ∧ E = 7 := by injection hl with h1 h2; exact ⟨h1, h2⟩
        clear hst0 hf0 hst hf h0 hnew hchk hmp hsp hrm hin hlow hcode hxe hss HLOW hl hE hEb
        rcases Nat.lt_or_ge 20 len with h20 | h20
        · obtain rfl : n = 20 := by omega
          clear hn hn20
          go_enter Try.func4, Try.ntmps4
          go_wp2_with (first
          | (go_at_call 7; refine HNEW.out.mono ?_; rintro e w1 ⟨t, rfl, ht, b1⟩; have T1 := Lib.hid ht; have B1 := Lib.hid b1; clear ht b1)
          | (go_at_call 8; refine (HCHK.out _ B1.out).mono ?_; rintro e w2 ⟨rfl, b2⟩; have T2 := Lib.hid (T1.out.below b2); have B2 := Lib.hid (B1.out.trans (b2.mono B1.out.size)); clear b2)
          | (go_at_call 16; refine (HMP.out _ _ _ T2.out).mono ?_; rintro e w3 ⟨rfl, g3⟩; have T3 := Lib.hid (T2.out.below (below_of_only g3 (Nat.le_refl _) (by simp))); have B3 := Lib.hid (B2.out.trans (below_of_only g3 B2.out.size (by simp))); clear g3)
          | (go_at_call 17; refine (HRM.out _ B3.out).mono ?_; rintro e w4 ⟨rfl, b4⟩; have T4 := Lib.hid (T3.out.below b4); have B4 := Lib.hid (B3.out.trans (b4.mono B3.out.size)); clear b4)
          | (go_at_call 14; refine (HSP.out _ _ _ T4.out).mono ?_; rintro e w5 ⟨rfl, g5⟩; have B5 := Lib.hid (B4.out.trans (below_of_only g5 B4.out.size (by simp))); clear g5)
          | (go_at_call 9; refine (rlive_any _).mono ?_; rintro e w6 ⟨rfl, b6⟩; have B6 := Lib.hid ((B5.out.alloc B5.out.size (.cells #[.int .i64 s1, .int .i64 s2] 37)).trans (b6.mono (Nat.le_trans B5.out.size (by simp)))); have hs6 := (Blk.new w5 37 #[.int .i64 s1, .int .i64 s2]).below b6 (Blk.new _ _ _).lt; have e0 := hs6.cell 0; have e1 := hs6.cell 1; simp at e0 e1; clear b6 hs6))
          go_ret
          exact ⟨rfl, B6.out⟩
        · obtain rfl : n = len := by omega
          clear hn hn20
          go_enter Try.func4, Try.ntmps4
          go_wp2_with (first
          | (go_at_call 7; refine HNEW.out.mono ?_; rintro e w1 ⟨t, rfl, ht, b1⟩; have T1 := Lib.hid ht; have B1 := Lib.hid b1; clear ht b1)
          | (go_at_call 8; refine (HCHK.out _ B1.out).mono ?_; rintro e w2 ⟨rfl, b2⟩; have T2 := Lib.hid (T1.out.below b2); have B2 := Lib.hid (B1.out.trans (b2.mono B1.out.size)); clear b2)
          | (go_at_call 16; refine (HMP.out _ _ _ T2.out).mono ?_; rintro e w3 ⟨rfl, g3⟩; have T3 := Lib.hid (T2.out.below (below_of_only g3 (Nat.le_refl _) (by simp))); have B3 := Lib.hid (B2.out.trans (below_of_only g3 B2.out.size (by simp))); clear g3)
          | (go_at_call 17; refine (HRM.out _ B3.out).mono ?_; rintro e w4 ⟨rfl, b4⟩; have T4 := Lib.hid (T3.out.below b4); have B4 := Lib.hid (B3.out.trans (b4.mono B3.out.size)); clear b4)
          | (go_at_call 14; refine (HSP.out _ _ _ T4.out).mono ?_; rintro e w5 ⟨rfl, g5⟩; have B5 := Lib.hid (B4.out.trans (below_of_only g5 B4.out.size (by simp))); clear g5)
          | (go_at_call 9; refine (rlive_any _).mono ?_; rintro e w6 ⟨rfl, b6⟩; have B6 := Lib.hid ((B5.out.alloc B5.out.size (.cells #[.int .i64 s1, .int .i64 s2] 37)).trans (b6.mono (Nat.le_trans B5.out.size (by simp)))); have hs6 := (Blk.new w5 37 #[.int .i64 s1, .int .i64 s2]).below b6 (Blk.new _ _ _).lt; have e0 := hs6.cell 0; have e1 := hs6.cell 1; simp at e0 e1; clear b6 hs6))
          go_ret
          exact ⟨rfl, B6.out⟩
      · clear hst0 hf0 hst hf h0 hnew hchk hmp hsp hrm hin hlow hcode hxe hss HLOW
        rcases Nat.lt_or_ge 20 len with h20 | h20
        · obtain rfl : n = 20 := by omega
          clear hn hn20
          go_enter Try.func4, Try.ntmps4
          go_wp2_with (first
          | (go_at_call 7; refine HNEW.out.mono ?_; rintro e w1 ⟨t, rfl, ht, b1⟩; have T1 := Lib.hid ht; have B1 := Lib.hid b1; clear ht b1)
          | (go_at_call 8; refine (HCHK.out _ B1.out).mono ?_; rintro e w2 ⟨rfl, b2⟩; have T2 := Lib.hid (T1.out.below b2); have B2 := Lib.hid (B1.out.trans (b2.mono B1.out.size)); clear b2)
          | (go_at_call 16; refine (HMP.out _ _ _ T2.out).mono ?_; rintro e w3 ⟨rfl, g3⟩; have T3 := Lib.hid (T2.out.below (below_of_only g3 (Nat.le_refl _) (by simp))); have B3 := Lib.hid (B2.out.trans (below_of_only g3 B2.out.size (by simp))); clear g3)
          | (go_at_call 17; refine (HRM.out _ B3.out).mono ?_; rintro e w4 ⟨rfl, b4⟩; have T4 := Lib.hid (T3.out.below b4); have B4 := Lib.hid (B3.out.trans (b4.mono B3.out.size)); clear b4)
          | (go_at_call 14; refine (HSP.out _ _ _ T4.out).mono ?_; rintro e w5 ⟨rfl, g5⟩; have B5 := Lib.hid (B4.out.trans (below_of_only g5 B4.out.size (by simp))); clear g5)
          | (go_at_call 9; refine (rlive_any _).mono ?_; rintro e w6 ⟨rfl, b6⟩; have B6 := Lib.hid ((B5.out.alloc B5.out.size (.cells #[.int .i64 s1, .int .i64 s2] 37)).trans (b6.mono (Nat.le_trans B5.out.size (by simp)))); have hs6 := (Blk.new w5 37 #[.int .i64 s1, .int .i64 s2]).below b6 (Blk.new _ _ _).lt; have e0 := hs6.cell 0; have e1 := hs6.cell 1; simp at e0 e1; clear b6 hs6))
          go_ret
          exact ⟨rfl, B6.out⟩
        · obtain rfl : n = len := by omega
          clear hn hn20
          go_enter Try.func4, Try.ntmps4
          go_wp2_with (first
          | (go_at_call 7; refine HNEW.out.mono ?_; rintro e w1 ⟨t, rfl, ht, b1⟩; have T1 := Lib.hid ht; have B1 := Lib.hid b1; clear ht b1)
          | (go_at_call 8; refine (HCHK.out _ B1.out).mono ?_; rintro e w2 ⟨rfl, b2⟩; have T2 := Lib.hid (T1.out.below b2); have B2 := Lib.hid (B1.out.trans (b2.mono B1.out.size)); clear b2)
          | (go_at_call 16; refine (HMP.out _ _ _ T2.out).mono ?_; rintro e w3 ⟨rfl, g3⟩; have T3 := Lib.hid (T2.out.below (below_of_only g3 (Nat.le_refl _) (by simp))); have B3 := Lib.hid (B2.out.trans (below_of_only g3 B2.out.size (by simp))); clear g3)
          | (go_at_call 17; refine (HRM.out _ B3.out).mono ?_; rintro e w4 ⟨rfl, b4⟩; have T4 := Lib.hid (T3.out.below b4); have B4 := Lib.hid (B3.out.trans (b4.mono B3.out.size)); clear b4)
          | (go_at_call 14; refine (HSP.out _ _ _ T4.out).mono ?_; rintro e w5 ⟨rfl, g5⟩; have B5 := Lib.hid (B4.out.trans (below_of_only g5 B4.out.size (by simp))); clear g5)
          | (go_at_call 9; refine (rlive_any _).mono ?_; rintro e w6 ⟨rfl, b6⟩; have B6 := Lib.hid ((B5.out.alloc B5.out.size (.cells #[.int .i64 s1, .int .i64 s2] 37)).trans (b6.mono (Nat.le_trans B5.out.size (by simp)))); have hs6 := (Blk.new w5 37 #[.int .i64 s1, .int .i64 s2]).below b6 (Blk.new _ _ _).lt; have e0 := hs6.cell 0; have e1 := hs6.cell 1; simp at e0 e1; clear b6 hs6))
          go_ret
          exact ⟨rfl, B6.out⟩
  · obtain ⟨c, hc⟩ : ∃ c, chkN d n = c := ⟨_, rfl⟩
    rw [hc] at h0
    have hcb : (c != 0) = true := by simpa using h0
    have hnew := tnew_bad hst hf hn20 hc h0
    have hchk := fun W (hb : Below w.heap.size w W) => rcheck_is (hst.below hb) hf hn20 hc
    have HNEW := Lib.hid hnew
    have HCHK := Lib.hid hchk
    clear hst0 hf0 hst hf hnew hchk hc
    rcases Nat.lt_or_ge 20 len with h20 | h20
    · obtain rfl : n = 20 := by omega
      clear hn hn20
      go_enter Try.func4, Try.ntmps4
      go_wp2_with (first
          | (go_at_call 7; refine HNEW.out.mono ?_; rintro e w1 ⟨rfl, b1⟩; have B1 := Lib.hid b1; clear b1)
          | (go_at_call 8; refine (HCHK.out _ B1.out).mono ?_; rintro e w2 ⟨rfl, b2⟩; have B2 := Lib.hid (B1.out.trans (b2.mono B1.out.size)); clear b2)
          | (go_at_call 9; refine (rlive_any _).mono ?_; rintro e w6 ⟨rfl, b6⟩; have B6 := Lib.hid (B2.out.trans (b6.mono B2.out.size)); clear b6))
      go_ret
      exact ⟨rfl, B6.out⟩
    · obtain rfl : n = len := by omega
      clear hn hn20
      go_enter Try.func4, Try.ntmps4
      go_wp2_with (first
          | (go_at_call 7; refine HNEW.out.mono ?_; rintro e w1 ⟨rfl, b1⟩; have B1 := Lib.hid b1; clear b1)
          | (go_at_call 8; refine (HCHK.out _ B1.out).mono ?_; rintro e w2 ⟨rfl, b2⟩; have B2 := Lib.hid (B1.out.trans (b2.mono B1.out.size)); clear b2)
          | (go_at_call 9; refine (rlive_any _).mono ?_; rintro e w6 ⟨rfl, b6⟩; have B6 := Lib.hid (B2.out.trans (b6.mono B2.out.size)); clear b6))
      go_ret
      exact ⟨rfl, B6.out⟩
end Go.Proofs.Ythlapnljinkekaa
