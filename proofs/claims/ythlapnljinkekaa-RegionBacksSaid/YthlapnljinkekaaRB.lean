/- RegionBacks: its walk. -/
import Derived.Test.YthlapnljinkekaaRM
namespace Go.Proofs.Ythlapnljinkekaa
open Go.RowKit Go.Lib Go.Sort
set_option linter.unusedVariables false

theorem meetsB_both {a b : Int × Int} {x : Int} (ha : holdsB a x = true) (hb : holdsB b x = true) : meetsB a b = true := by
  obtain ⟨a1, a2⟩ := a
  obtain ⟨b1, b2⟩ := b
  simp [meetsB, isB, holdsB] at ha hb ⊢
  omega
/-- Of rows that are apart one alone holds a place. -/
theorem one_holds {d : Nat → Reg} {n i k : Nat} {x : Int} (h0 : chkN d n = 0) (hi : i < n) (hk : k < n) (h1 : holdsB (spn (d i)) x = true) (h2 : holdsB (spn (d k)) x = true) : i = k := by
  rcases Nat.lt_trichotomy i k with h | h | h
  · have := (chkN_apart h0 h hk).2
    rw [meetsB_both h1 h2] at this
    cases this
  · exact h
  · have := (chkN_apart h0 h hi).2
    rw [meetsB_both h2 h1] at this
    cases this
theorem lookL_of {d : Nat → Reg} {n k : Nat} (h0 : chkN d n = 0) (hk : k < n) : lookL (rws d n) (d k).1 = some (d k) :=
  lookL_first hk (fun i hi e => (chkN_apart h0 hi hk).1 e) rfl
theorem fit_small {x : Int} (h0 : -9000000000000000000 ≤ x) (h1 : x ≤ 9000000000000000000) : fitI x := by unfold fitI; omega
/-- The place of an address, back. -/
theorem mapV_back {d : Nat → Reg} {n k : Nat} {x : Int} (h0 : chkN d n = 0) (hk : k < n) (h : holdsB (spn (d k)) x = true) : mapV (rws d n) (d k).1 (x - (d k).2.1) 1 = (x, 0) := by
  unfold mapV
  rw [lookL_of h0 hk]
  have h1 := holdsB_at h
  simp only
  rw [if_neg (by omega), if_neg (by omega), if_neg (by omega)]
  congr 1
  omega

/-- How many of the first j rows hold a place: none or one. -/
def hvN (d : Nat → Reg) (x : Int) : Nat → Int
  | 0 => 0
  | j + 1 => if holdsB (spn (d j)) x = true then hvN d x j + 1 else hvN d x j
theorem hvN_zero {d : Nat → Reg} {x : Int} {j : Nat} (h : ∀ i, i < j → holdsB (spn (d i)) x = false) : hvN d x j = 0 := by
  induction j with
  | zero => rfl
  | succ j ih =>
    show (if _ then _ else _) = _
    rw [if_neg (by rw [h j (by omega)]; decide)]
    exact ih fun i hi => h i (by omega)
theorem hvN_one {d : Nat → Reg} {n j k : Nat} {x : Int} (h0 : chkN d n = 0) (hk : k < n) (hj : j ≤ n) (h : holdsB (spn (d k)) x = true) : hvN d x j = if k < j then 1 else 0 := by
  induction j with
  | zero => rfl
  | succ j ih =>
    show (if _ then _ else _) = _
    rw [ih (by omega)]
    by_cases e : j = k
    · subst e
      rw [if_pos h, if_neg (by omega), if_pos (by omega)]
      rfl
    · have hn : holdsB (spn (d j)) x = false := by
        cases hh : holdsB (spn (d j)) x with
        | false => rfl
        | true => exact absurd (one_holds h0 (by omega) hk hh h) e
      rw [if_neg (by rw [hn]; decide)]
      by_cases hkj : k < j
      · rw [if_pos hkj, if_pos (by omega)]
      · rw [if_neg hkj, if_neg (by omega)]

set_option maxHeartbeats 3200000 in
set_option maxRecDepth 100000 in
theorem rbacks_walk (A : Option Addr) (len cap : Nat) (d : Nat → Reg) (x : Int) (w : World) (hst0 : Regs w A len cap d) (hf0 : ∀ i, i < len → Fits (d i)) (hlc : len ≤ cap) (hcm : cap ≤ 9223372036854775807) :
    Calls Try.prog 5 #[.slice A len cap, .int .i64 x] w fun e w' => e = .returned (.bool true) ∧ Below w.heap.size w w' := by
  obtain ⟨n, hn⟩ : ∃ n, n = min len 20 := ⟨_, rfl⟩
  have hst := hst0.cut n (by omega)
  have hf : ∀ i, i < n → Fits (d i) := fun i hi => hf0 i (by omega)
  have hn20 : n ≤ 20 := by omega
  by_cases h0 : chkN d n = 0
  · have hnew := tnew_ok hst hf hn20 h0
    have hchk := fun W (hb : Below w.heap.size w W) => rcheck_is (hst.below hb) hf hn20 h0
    have hbk := fun W B t (hT : TabV W B t (rws d n)) => back_any x hT (rws_len8 h0) (chkN_nodup h0) (chkN_may h0)
    have HNEW := Lib.hid hnew
    have HCHK := Lib.hid hchk
    have HBK := Lib.hid hbk
    have HST := Lib.hid hst
    have H0 := Lib.hid h0
    clear hst0 hf0 hst hf h0 hnew hchk hbk
    rcases Nat.lt_or_ge 20 len with h20 | h20
    · obtain rfl : n = 20 := by omega
      clear hn hn20
      go_enter Try.func5, Try.ntmps5
      go_wp2_with (first
        | (go_at_call 7; refine HNEW.out.mono ?_; rintro e w1 ⟨t, rfl, ht, b1⟩; have T1 := Lib.hid ht; have B1 := Lib.hid b1; clear ht b1)
        | (go_at_call 8; refine (HCHK.out _ B1.out).mono ?_; rintro e w2 ⟨rfl, b2⟩; have T2 := Lib.hid (T1.out.below b2); have B2 := Lib.hid (B1.out.trans (b2.mono B1.out.size)); clear b2)
        | (go_at_call 18; refine (HBK.out _ _ _ T2.out).mono ?_; rintro e w3 ⟨o, k, rfl, hk, b3⟩; have T3 := Lib.hid (T2.out.below b3); have B3 := Lib.hid (B2.out.trans (b3.mono B2.out.size)); have HK := Lib.hid hk; clear b3 hk))
      go_loopw [9, 10] (fun h y wr => ∃ i : Nat, y = .int .i64 i ∧ h = .int .i64 (hvN d x i) ∧ i ≤ 20 ∧ Below w3.heap.size w3 wr) (fun _ y _ => 20 - (intOf y).toNat)
      case atStart => exact ⟨0, rfl, rfl, by omega, Below.refl _ _⟩
      case round =>
        obtain ⟨i, rfl, rfl, hi, hb⟩ := hrel
        have HB := Lib.hid hb
        clear hb
        by_cases hin : i < 20
        · obtain ⟨bb, off, rfl, hbB, hcells⟩ := HST.out.2 (by omega)
          obtain ⟨a0, a1, a2⟩ := hcells i hin
          have hBB := B3.out.trans (HB.out.mono B3.out.size)
          have HBB := Lib.hid hBB
          have HBL := Lib.hid (Nat.lt_of_lt_of_le hbB (Nat.le_refl _))
          have d0 := (hBB.cell (p := ⟨bb, off + i * 3, none⟩) hbB).trans a0
          have d1 := (hBB.cell (p := ⟨bb, off + i * 3 + 1, none⟩) hbB).trans a1
          have d2 := (hBB.cell (p := ⟨bb, off + i * 3 + 2, none⟩) hbB).trans a2
          have hmay : mayB (d i) = true := chkN_may H0.out _ (Sr.lst_mem.2 ⟨i, hin, rfl⟩)
          have hnx : hvN d x (i + 1) = if holdsB (spn (d i)) x = true then hvN d x i + 1 else hvN d x i := rfl
          have hok : holdsB (spn (d i)) x = true → o = (d i).1 ∧ k = x - (d i).2.1 ∧ hvN d x i = 0 := fun h => by
            rcases HK.out with ⟨r, hr, hh, h1, h2⟩ | ⟨hn, _⟩
            · obtain ⟨j, hj, rfl⟩ := Sr.lst_mem.1 hr
              obtain rfl := one_holds H0.out hj hin hh h
              exact ⟨h1, h2, by rw [hvN_one H0.out hin (by omega) h, if_neg (by omega)]⟩
            · have := hn _ (Sr.lst_mem.2 ⟨i, hin, rfl⟩)
              rw [this] at h
              cases h
          have hhv : 0 ≤ hvN d x i ∧ hvN d x i ≤ 1 := by
            by_cases hx : ∃ j, j < 20 ∧ holdsB (spn (d j)) x = true
            · obtain ⟨j, hj, hjh⟩ := hx
              rw [hvN_one H0.out hj (by omega) hjh]
              split <;> omega
            · rw [hvN_zero (fun j hj => by cases hh : holdsB (spn (d j)) x with | false => rfl | true => exact absurd ⟨j, by omega, hh⟩ hx)]
              omega
          obtain ⟨y, hy⟩ : ∃ y, y = d i := ⟨_, rfl⟩
          rw [← hy] at d0 d1 d2 hmay hnx hok
          obtain ⟨hv, hhe⟩ : ∃ hv, hv = hvN d x i := ⟨_, rfl⟩
          rw [← hhe] at hnx hhv hok ⊢
          have HNX := Lib.hid hnx
          clear hcells a0 a1 a2 hy hnx hhe hBB
          obtain ⟨p, q, s⟩ := y
          simp only at d0 d1 d2 hok
          have hmy := mayB_iff.1 hmay
          simp only at hmy
          have k0 := hbB
          obtain ⟨hb, hhb⟩ : ∃ hb, hb = holdsB (q, q + s) x := ⟨_, rfl⟩
          have hho : ∀ W, Calls Try.prog 19 #[.agg #[.int .i64 q, .int .i64 (q + s)], .int .i64 x] W fun e w' => e = .returned (.bool hb) ∧ W.grownBy w' none := fun W => by
            have := rholds_any (q, q + s) x W
            rw [← hhb] at this
            exact this
          have hpo : ∀ W, Calls Try.prog 15 #[.agg #[.int .i64 p, .int .i64 q, .int .i64 s]] W fun e w' => e = .returned (.agg #[.int .i64 q, .int .i64 (q + s)]) ∧ W.grownBy w' none := fun W => rspan_any (p, q, s) hmay W
          have hold : ∀ W, Below wr.heap.size wr W → W.cell? ⟨bb, off + i * 3, none⟩ = some (.int .i64 p) ∧ W.cell? ⟨bb, off + i * 3 + 1, none⟩ = some (.int .i64 q) := fun W h =>
            ⟨(h.cell (p := ⟨bb, off + i * 3, none⟩) (World.block_lt_of_cell? _ _ d0)).trans d0, (h.cell (p := ⟨bb, off + i * 3 + 1, none⟩) (World.block_lt_of_cell? _ _ d1)).trans d1⟩
          have HHO := Lib.hid hho
          have HPO := Lib.hid hpo
          have HOLD := Lib.hid hold
          have i1 : (i : Int) < (20 : Int) := by omega
          rw [← hhb] at hok HNX
          have hsub : hb = true → IntKind.i64.wrap (x - q) = x - q := fun h => by
            have := holdsB_at (r := (p, q, s)) (x := x) (by show holdsB (q, q + s) x = true; rw [← hhb]; exact h)
            simp only at this
            rw [IntKind.wrap_i64]
            omega
          clear hho hpo hhb hmay hold k0 hmy
          cases hb with
          | true =>
            obtain ⟨ho, hk, hh0⟩ := hok rfl
            have hwr := hsub rfl
            have HNX1 := HNX
            clear hok hsub HNX
            subst ho hk hh0
            go_wp2_with (first
              | (go_at_call 15; refine (HPO.out _).mono ?_; rintro e w4 ⟨rfl, g4⟩; have B4 := Lib.hid (below_of_only g4 (Nat.le_refl _) (by simp)); clear g4)
              | (go_at_call 19; refine (HHO.out _).mono ?_; rintro e w5 ⟨rfl, g5⟩; have B5 := Lib.hid (B4.out.trans (below_of_only g5 B4.out.size (by simp))); obtain ⟨e0, e1⟩ := HOLD.out w5 B5.out; clear g5))
            go_roundw
            case rel => exact ⟨i + 1, by go_num, by rw [HNX1.out]; rfl, by omega, HB.out.trans (B5.out.mono HB.out.size)⟩
            case measure => simp [intOf] <;> omega
          | false =>
            clear hok hsub
            go_wp2_with (first
              | (go_at_call 15; refine (HPO.out _).mono ?_; rintro e w4 ⟨rfl, g4⟩; have B4 := Lib.hid (below_of_only g4 (Nat.le_refl _) (by simp)); clear g4)
              | (go_at_call 19; refine (HHO.out _).mono ?_; rintro e w5 ⟨rfl, g5⟩; have B5 := Lib.hid (B4.out.trans (below_of_only g5 B4.out.size (by simp))); clear g5))
            go_roundw
            case rel => exact ⟨i + 1, by go_num, by rw [HNX.out]; rfl, by omega, HB.out.trans (B5.out.mono HB.out.size)⟩
            case measure => simp [intOf] <;> omega
        · obtain ⟨hie, hie2⟩ : i ≤ 20 ∧ 20 ≤ i := ⟨by omega, by omega⟩
          rcases HK.out with ⟨r, hr, hh, h1, h2⟩ | ⟨hn, h1, h2⟩
          · obtain ⟨j, hj, rfl⟩ := Sr.lst_mem.1 hr
            have hv1 : hvN d x i = 1 := by rw [hvN_one H0.out hj (by omega) hh, if_pos (by omega)]
            have hmp := mapV_back H0.out hj hh
            have hmy := mayB_iff.1 (chkN_may H0.out _ hr)
            have hat := holdsB_at hh
            have hmc := fun W B t (hT : TabV W B t (rws d 20)) => map_any (x - (d j).2.1) 1 hT (chkN_may H0.out) (show fitI (d j).1 from fit_small (by omega) (by omega)) (show fitI (x - (d j).2.1) from fit_small (by omega) (by omega))
            rw [hmp, ← h1, ← h2] at hmc
            have HMC := Lib.hid hmc
            rw [hv1]
            clear hmc hmp hmy hat hv1 hh hr h1 h2
            go_wp2_with (first
              | (go_at_call 16; refine (HMC.out _ _ _ (T3.out.below HB.out)).mono ?_; rintro e w4 ⟨rfl, g4⟩; have B4 := Lib.hid ((B3.out.trans (HB.out.mono B3.out.size)).trans (below_of_only g4 (Nat.le_trans B3.out.size HB.out.size) (by simp))); clear g4)
              | (go_at_call 9; refine (rlive_any _).mono ?_; rintro e w6 ⟨rfl, b6⟩; have B6 := Lib.hid (B4.out.trans (b6.mono B4.out.size)); clear b6))
            go_ret
            exact ⟨by first | rfl | simp, B6.out⟩
          · have hv0 : hvN d x i = 0 := hvN_zero fun j hj => hn _ (Sr.lst_mem.2 ⟨j, by omega, rfl⟩)
            rw [hv0]
            clear hv0 hn
            subst h1 h2
            go_wp2_with (first
              | (go_at_call 9; refine (rlive_any _).mono ?_; rintro e w6 ⟨rfl, b6⟩; have B6 := Lib.hid ((B3.out.trans (HB.out.mono B3.out.size)).trans (b6.mono (Nat.le_trans B3.out.size HB.out.size))); clear b6))
            go_ret
            exact ⟨by first | rfl | simp, B6.out⟩
    · obtain rfl : n = len := by omega
      clear hn hn20
      go_enter Try.func5, Try.ntmps5
      go_wp2_with (first
        | (go_at_call 7; refine HNEW.out.mono ?_; rintro e w1 ⟨t, rfl, ht, b1⟩; have T1 := Lib.hid ht; have B1 := Lib.hid b1; clear ht b1)
        | (go_at_call 8; refine (HCHK.out _ B1.out).mono ?_; rintro e w2 ⟨rfl, b2⟩; have T2 := Lib.hid (T1.out.below b2); have B2 := Lib.hid (B1.out.trans (b2.mono B1.out.size)); clear b2)
        | (go_at_call 18; refine (HBK.out _ _ _ T2.out).mono ?_; rintro e w3 ⟨o, k, rfl, hk, b3⟩; have T3 := Lib.hid (T2.out.below b3); have B3 := Lib.hid (B2.out.trans (b3.mono B2.out.size)); have HK := Lib.hid hk; clear b3 hk))
      go_loopw [9, 10] (fun h y wr => ∃ i : Nat, y = .int .i64 i ∧ h = .int .i64 (hvN d x i) ∧ i ≤ n ∧ Below w3.heap.size w3 wr) (fun _ y _ => n - (intOf y).toNat)
      case atStart => exact ⟨0, rfl, rfl, by omega, Below.refl _ _⟩
      case round =>
        obtain ⟨i, rfl, rfl, hi, hb⟩ := hrel
        have HB := Lib.hid hb
        clear hb
        by_cases hin : i < n
        · obtain ⟨bb, off, rfl, hbB, hcells⟩ := HST.out.2 (by omega)
          obtain ⟨a0, a1, a2⟩ := hcells i hin
          have hBB := B3.out.trans (HB.out.mono B3.out.size)
          have HBB := Lib.hid hBB
          have HBL := Lib.hid (Nat.lt_of_lt_of_le hbB (Nat.le_refl _))
          have d0 := (hBB.cell (p := ⟨bb, off + i * 3, none⟩) hbB).trans a0
          have d1 := (hBB.cell (p := ⟨bb, off + i * 3 + 1, none⟩) hbB).trans a1
          have d2 := (hBB.cell (p := ⟨bb, off + i * 3 + 2, none⟩) hbB).trans a2
          have hmay : mayB (d i) = true := chkN_may H0.out _ (Sr.lst_mem.2 ⟨i, hin, rfl⟩)
          have hnx : hvN d x (i + 1) = if holdsB (spn (d i)) x = true then hvN d x i + 1 else hvN d x i := rfl
          have hok : holdsB (spn (d i)) x = true → o = (d i).1 ∧ k = x - (d i).2.1 ∧ hvN d x i = 0 := fun h => by
            rcases HK.out with ⟨r, hr, hh, h1, h2⟩ | ⟨hn, _⟩
            · obtain ⟨j, hj, rfl⟩ := Sr.lst_mem.1 hr
              obtain rfl := one_holds H0.out hj hin hh h
              exact ⟨h1, h2, by rw [hvN_one H0.out hin (by omega) h, if_neg (by omega)]⟩
            · have := hn _ (Sr.lst_mem.2 ⟨i, hin, rfl⟩)
              rw [this] at h
              cases h
          have hhv : 0 ≤ hvN d x i ∧ hvN d x i ≤ 1 := by
            by_cases hx : ∃ j, j < n ∧ holdsB (spn (d j)) x = true
            · obtain ⟨j, hj, hjh⟩ := hx
              rw [hvN_one H0.out hj (by omega) hjh]
              split <;> omega
            · rw [hvN_zero (fun j hj => by cases hh : holdsB (spn (d j)) x with | false => rfl | true => exact absurd ⟨j, by omega, hh⟩ hx)]
              omega
          obtain ⟨y, hy⟩ : ∃ y, y = d i := ⟨_, rfl⟩
          rw [← hy] at d0 d1 d2 hmay hnx hok
          obtain ⟨hv, hhe⟩ : ∃ hv, hv = hvN d x i := ⟨_, rfl⟩
          rw [← hhe] at hnx hhv hok ⊢
          have HNX := Lib.hid hnx
          clear hcells a0 a1 a2 hy hnx hhe hBB
          obtain ⟨p, q, s⟩ := y
          simp only at d0 d1 d2 hok
          have hmy := mayB_iff.1 hmay
          simp only at hmy
          have k0 := hbB
          obtain ⟨hb, hhb⟩ : ∃ hb, hb = holdsB (q, q + s) x := ⟨_, rfl⟩
          have hho : ∀ W, Calls Try.prog 19 #[.agg #[.int .i64 q, .int .i64 (q + s)], .int .i64 x] W fun e w' => e = .returned (.bool hb) ∧ W.grownBy w' none := fun W => by
            have := rholds_any (q, q + s) x W
            rw [← hhb] at this
            exact this
          have hpo : ∀ W, Calls Try.prog 15 #[.agg #[.int .i64 p, .int .i64 q, .int .i64 s]] W fun e w' => e = .returned (.agg #[.int .i64 q, .int .i64 (q + s)]) ∧ W.grownBy w' none := fun W => rspan_any (p, q, s) hmay W
          have hold : ∀ W, Below wr.heap.size wr W → W.cell? ⟨bb, off + i * 3, none⟩ = some (.int .i64 p) ∧ W.cell? ⟨bb, off + i * 3 + 1, none⟩ = some (.int .i64 q) := fun W h =>
            ⟨(h.cell (p := ⟨bb, off + i * 3, none⟩) (World.block_lt_of_cell? _ _ d0)).trans d0, (h.cell (p := ⟨bb, off + i * 3 + 1, none⟩) (World.block_lt_of_cell? _ _ d1)).trans d1⟩
          have HHO := Lib.hid hho
          have HPO := Lib.hid hpo
          have HOLD := Lib.hid hold
          have i1 : (i : Int) < (n : Int) := by omega
          rw [← hhb] at hok HNX
          have hsub : hb = true → IntKind.i64.wrap (x - q) = x - q := fun h => by
            have := holdsB_at (r := (p, q, s)) (x := x) (by show holdsB (q, q + s) x = true; rw [← hhb]; exact h)
            simp only at this
            rw [IntKind.wrap_i64]
            omega
          clear hho hpo hhb hmay hold k0 hmy
          cases hb with
          | true =>
            obtain ⟨ho, hk, hh0⟩ := hok rfl
            have hwr := hsub rfl
            have HNX1 := HNX
            clear hok hsub HNX
            subst ho hk hh0
            go_wp2_with (first
              | (go_at_call 15; refine (HPO.out _).mono ?_; rintro e w4 ⟨rfl, g4⟩; have B4 := Lib.hid (below_of_only g4 (Nat.le_refl _) (by simp)); clear g4)
              | (go_at_call 19; refine (HHO.out _).mono ?_; rintro e w5 ⟨rfl, g5⟩; have B5 := Lib.hid (B4.out.trans (below_of_only g5 B4.out.size (by simp))); obtain ⟨e0, e1⟩ := HOLD.out w5 B5.out; clear g5))
            go_roundw
            case rel => exact ⟨i + 1, by go_num, by rw [HNX1.out]; rfl, by omega, HB.out.trans (B5.out.mono HB.out.size)⟩
            case measure => simp [intOf] <;> omega
          | false =>
            clear hok hsub
            go_wp2_with (first
              | (go_at_call 15; refine (HPO.out _).mono ?_; rintro e w4 ⟨rfl, g4⟩; have B4 := Lib.hid (below_of_only g4 (Nat.le_refl _) (by simp)); clear g4)
              | (go_at_call 19; refine (HHO.out _).mono ?_; rintro e w5 ⟨rfl, g5⟩; have B5 := Lib.hid (B4.out.trans (below_of_only g5 B4.out.size (by simp))); clear g5))
            go_roundw
            case rel => exact ⟨i + 1, by go_num, by rw [HNX.out]; rfl, by omega, HB.out.trans (B5.out.mono HB.out.size)⟩
            case measure => simp [intOf] <;> omega
        · obtain ⟨hie, hie2⟩ : i ≤ n ∧ n ≤ i := ⟨by omega, by omega⟩
          rcases HK.out with ⟨r, hr, hh, h1, h2⟩ | ⟨hn, h1, h2⟩
          · obtain ⟨j, hj, rfl⟩ := Sr.lst_mem.1 hr
            have hv1 : hvN d x i = 1 := by rw [hvN_one H0.out hj (by omega) hh, if_pos (by omega)]
            have hmp := mapV_back H0.out hj hh
            have hmy := mayB_iff.1 (chkN_may H0.out _ hr)
            have hat := holdsB_at hh
            have hmc := fun W B t (hT : TabV W B t (rws d n)) => map_any (x - (d j).2.1) 1 hT (chkN_may H0.out) (show fitI (d j).1 from fit_small (by omega) (by omega)) (show fitI (x - (d j).2.1) from fit_small (by omega) (by omega))
            rw [hmp, ← h1, ← h2] at hmc
            have HMC := Lib.hid hmc
            rw [hv1]
            clear hmc hmp hmy hat hv1 hh hr h1 h2
            go_wp2_with (first
              | (go_at_call 16; refine (HMC.out _ _ _ (T3.out.below HB.out)).mono ?_; rintro e w4 ⟨rfl, g4⟩; have B4 := Lib.hid ((B3.out.trans (HB.out.mono B3.out.size)).trans (below_of_only g4 (Nat.le_trans B3.out.size HB.out.size) (by simp))); clear g4)
              | (go_at_call 9; refine (rlive_any _).mono ?_; rintro e w6 ⟨rfl, b6⟩; have B6 := Lib.hid (B4.out.trans (b6.mono B4.out.size)); clear b6))
            go_ret
            exact ⟨by first | rfl | simp, B6.out⟩
          · have hv0 : hvN d x i = 0 := hvN_zero fun j hj => hn _ (Sr.lst_mem.2 ⟨j, by omega, rfl⟩)
            rw [hv0]
            clear hv0 hn
            subst h1 h2
            go_wp2_with (first
              | (go_at_call 9; refine (rlive_any _).mono ?_; rintro e w6 ⟨rfl, b6⟩; have B6 := Lib.hid ((B3.out.trans (HB.out.mono B3.out.size)).trans (b6.mono (Nat.le_trans B3.out.size HB.out.size))); clear b6))
            go_ret
            exact ⟨by first | rfl | simp, B6.out⟩
  · obtain ⟨c, hc⟩ : ∃ c, chkN d n = c := ⟨_, rfl⟩
    rw [hc] at h0
    have hcb : (c != 0) = true := by simpa using h0
    have hnew := tnew_bad hst hf hn20 hc h0
    have hchk := fun W (hb : Below w.heap.size w W) => rcheck_is (hst.below hb) hf hn20 hc
    have HNEW := Lib.hid hnew
    have HCHK := Lib.hid hchk
    clear hst0 hf0 hst hf hnew hchk hc
    rcases Nat.lt_or_ge 20 len with h20 | h20
    · obtain rfl : n = 20 := by omega
      clear hn hn20
      go_enter Try.func5, Try.ntmps5
      go_wp2_with (first
        | (go_at_call 7; refine HNEW.out.mono ?_; rintro e w1 ⟨rfl, b1⟩; have B1 := Lib.hid b1; clear b1)
        | (go_at_call 8; refine (HCHK.out _ B1.out).mono ?_; rintro e w2 ⟨rfl, b2⟩; have B2 := Lib.hid (B1.out.trans (b2.mono B1.out.size)); clear b2)
        | (go_at_call 9; refine (rlive_any _).mono ?_; rintro e w6 ⟨rfl, b6⟩; have B6 := Lib.hid (B2.out.trans (b6.mono B2.out.size)); clear b6))
      go_ret
      exact ⟨rfl, B6.out⟩
    · obtain rfl : n = len := by omega
      clear hn hn20
      go_enter Try.func5, Try.ntmps5
      go_wp2_with (first
        | (go_at_call 7; refine HNEW.out.mono ?_; rintro e w1 ⟨rfl, b1⟩; have B1 := Lib.hid b1; clear b1)
        | (go_at_call 8; refine (HCHK.out _ B1.out).mono ?_; rintro e w2 ⟨rfl, b2⟩; have B2 := Lib.hid (B1.out.trans (b2.mono B1.out.size)); clear b2)
        | (go_at_call 9; refine (rlive_any _).mono ?_; rintro e w6 ⟨rfl, b6⟩; have B6 := Lib.hid (B2.out.trans (b6.mono B2.out.size)); clear b6))
      go_ret
      exact ⟨rfl, B6.out⟩
end Go.Proofs.Ythlapnljinkekaa
