/- The call that makes a table: its contract. -/
import Derived.Test.YthlapnljinkekaaRR3
namespace Go.Proofs.Ythlapnljinkekaa
open Go.RowKit Go.Lib Go.Sort
set_option linter.unusedVariables false

/-- The first k rows as a list. -/
abbrev rws (d : Nat → Reg) (k : Nat) : List Reg := Sr.lst k d
/-- What is wrong with the first k rows. -/
def chkN (d : Nat → Reg) : Nat → Int
  | 0 => 0
  | k + 1 => if chkN d k = 0 then chkV (rws d k) (d k) else chkN d k
theorem chkN_next {d : Nat → Reg} {k : Nat} (h : chkN d k = 0) : chkN d (k + 1) = chkV (rws d k) (d k) := by
  show (if chkN d k = 0 then _ else _) = _
  rw [if_pos h]
theorem chkN_stop {d : Nat → Reg} {k : Nat} (h : chkN d k ≠ 0) (j : Nat) : chkN d (k + j) = chkN d k := by
  induction j with
  | zero => rfl
  | succ j ih =>
    have e : chkN d (k + (j + 1)) = if chkN d (k + j) = 0 then chkV (rws d (k + j)) (d (k + j)) else chkN d (k + j) := rfl
    rw [e, ih, if_neg h]
theorem chkN_le {d : Nat → Reg} {k n : Nat} (h : chkN d n = 0) (hk : k ≤ n) : chkN d k = 0 := by
  rcases Decidable.em (chkN d k = 0) with e | e
  · exact e
  · obtain ⟨j, rfl⟩ : ∃ j, n = k + j := ⟨n - k, by omega⟩
    rw [chkN_stop e j] at h
    exact absurd h e
theorem chkV_zero {L : List Reg} {r : Reg} (h : chkV L r = 0) : mayB r = true ∧ lookL L r.1 = none ∧ ∀ y ∈ L, meetsB (spn r) (spn y) = false := by
  unfold chkV at h
  cases h0 : mayB r with
  | false => rw [h0] at h; simp at h
  | true =>
    cases h1 : lookL L r.1 with
    | some x => rw [h0, h1] at h; simp at h
    | none =>
      refine ⟨rfl, rfl, fun y hy => ?_⟩
      rw [h0, h1] at h
      cases h2 : meetsB (spn r) (spn y) with
      | false => rfl
      | true =>
        have : L.any (fun x => meetsB (spn r) (spn x)) = true := List.any_eq_true.2 ⟨y, hy, h2⟩
        rw [this] at h
        simp at h
theorem rws_succ (d : Nat → Reg) (k : Nat) : rws d (k + 1) = rws d k ++ [d k] := Sr.lst_succ k d
theorem chkN_may {d : Nat → Reg} {n : Nat} (h : chkN d n = 0) : AllMay (rws d n) := by
  intro r hr
  obtain ⟨k, hk, rfl⟩ := Sr.lst_mem.1 hr
  have h1 := chkN_le h (show k + 1 ≤ n by omega)
  rw [chkN_next (chkN_le h (Nat.le_of_lt hk))] at h1
  exact (chkV_zero h1).1
theorem chkN_nodup {d : Nat → Reg} {n : Nat} (h : chkN d n = 0) : ((rws d n).map (·.1)).Nodup := by
  induction n with
  | zero => simp [rws, Sr.lst]
  | succ n ih =>
    have h0 := chkN_le h (Nat.le_succ n)
    rw [chkN_next h0] at h
    have h2 := lookL_none (chkV_zero h).2.1
    rw [rws_succ, List.map_append, List.nodup_append]
    refine ⟨ih h0, by simp, ?_⟩
    intro a ha b hb
    obtain ⟨r, hr, rfl⟩ := List.mem_map.1 ha
    obtain rfl : b = (d n).1 := by simpa using hb
    exact h2 r hr
theorem chkN_apart {d : Nat → Reg} {n : Nat} (h : chkN d n = 0) {i k : Nat} (hi : i < k) (hk : k < n) : (d i).1 ≠ (d k).1 ∧ meetsB (spn (d i)) (spn (d k)) = false := by
  have h1 := chkN_le h (show k + 1 ≤ n by omega)
  rw [chkN_next (chkN_le h (Nat.le_of_lt hk))] at h1
  obtain ⟨_, h2, h3⟩ := chkV_zero h1
  have hm : d i ∈ rws d k := Sr.lst_mem.2 ⟨i, hi, rfl⟩
  exact ⟨lookL_none h2 _ hm, by rw [meetsB_symm]; exact h3 _ hm⟩

/-- 'm[r.Owner] = r' as an equation, for regions that draw. -/
theorem run_put_reg {w : World} {b : Nat} {L : List Reg} {p q s : Int} (hmap : MapR w b L) (hk : fitI p) (hn : lookL L p = none) (hl : L.length < maxLen) :
    ∃ w', (Instr.mapUpdate 49 (.map (some b)) (.int .i64 p) (.agg #[.int .i64 p, .int .i64 q, .int .i64 s])).run Try.prog w = .ok () w' ∧ MapR w' b (L ++ [(p, q, s)]) ∧ w.grownBy w' (some b) := by
  obtain ⟨D, h1, h2⟩ := hmap
  obtain ⟨w', hr, h3, h4⟩ := h1.store int_keys Try.underlying49 hl (int_key hk) (regElem_mk (p, q, s))
  exact ⟨w', hr, ⟨_, by simpa using h3, h2.put (p, q, s) hk (lookL_none hn)⟩, h4.grown⟩

/-- What New answers. -/
def NewV (d : Nat → Reg) (n : Nat) (w : World) (e : Ending) (w' : World) : Prop :=
  Below w.heap.size w w' ∧ ((chkN d n = 0 ∧ ∃ t, e = .returned (.tuple #[.pointer (some ⟨t, 0, none⟩), .int .i64 0]) ∧ TabV w' w.heap.size t (rws d n)) ∨ (chkN d n ≠ 0 ∧ e = .returned (.tuple #[.pointer none, .int .i64 (chkN d n)])))

set_option maxHeartbeats 1600000 in
theorem tnew_any (A : Option Addr) (n cap : Nat) (d : Nat → Reg) (w : World) (hst : Regs w A n cap d) (hf : ∀ i, i < n → Fits (d i)) (hn : n ≤ 1000000) :
    Calls Try.prog 7 #[.slice A n cap] w (NewV d n w) := by
  have hmm := @run_makeMap Try.prog
  have HST := Lib.hid hst
  have HF := Lib.hid hf
  clear hst hf
  go_enter Try.func7, Try.ntmps7
  go_wp2
  have hT0 : TabG ((w.alloc (.map #[] 0)).alloc (.cells #[.map (some w.heap.size)] 51)) w.heap.size (w.heap.size + 1) w.heap.size [] :=
    ⟨by omega, Nat.le_refl _, by simpa using Blk.new (w.alloc (.map #[] 0)) 51 #[.map (some w.heap.size)], (MapR.new w).alloc _⟩
  have hB0 : Below w.heap.size w ((w.alloc (.map #[] 0)).alloc (.cells #[.map (some w.heap.size)] 51)) := ((Below.refl _ _).alloc (Nat.le_refl _) _).alloc (by simp) _
  have HT0 := Lib.hid hT0
  have HB0 := Lib.hid hB0
  clear hT0 hB0
  go_loopw [13] (fun x wr => ∃ k : Nat, x = .int .i64 k ∧ k ≤ n ∧ Hid (chkN d k = 0) ∧ TabG wr w.heap.size (w.heap.size + 1) w.heap.size (rws d k) ∧ Below w.heap.size w wr) (fun x _ => n - (intOf x).toNat)
  case atStart => exact ⟨0, rfl, by omega, Lib.hid rfl, HT0.out, HB0.out⟩
  case round =>
    obtain ⟨k, rfl, hk, HC, hT, hb⟩ := hrel
    have HT := Lib.hid hT
    have HB := Lib.hid hb
    clear hT hb HT0 HB0
    by_cases hkn : k < n
    · obtain ⟨b, off, rfl, hbB, hcells⟩ := HST.out.2 (by omega)
      obtain ⟨a0, a1, a2⟩ := hcells k hkn
      have d0 := (HB.out.cell (p := ⟨b, off + k * 3, none⟩) hbB).trans a0
      have d1 := (HB.out.cell (p := ⟨b, off + k * 3 + 1, none⟩) hbB).trans a1
      have d2 := (HB.out.cell (p := ⟨b, off + k * 3 + 2, none⟩) hbB).trans a2
      have hfk := HF.out k hkn
      have hnx := chkN_next HC.out
      have hrs := rws_succ d k
      have hlen : (rws d k).length = k := Sr.lst_len k d
      have hck : ∀ W, TabG W w.heap.size (w.heap.size + 1) w.heap.size (rws d k) → Calls Try.prog 20 #[.pointer (some ⟨w.heap.size + 1, 0, none⟩), .agg #[.int .i64 (d k).1, .int .i64 (d k).2.1, .int .i64 (d k).2.2]] W (CheckV (rws d k) (d k) W) := fun W h => tcheck_any (d k) hfk h.tab (chkN_may HC.out) (chkN_nodup HC.out)
      have HLEN := Lib.hid hlen
      have HRS := Lib.hid hrs
      have HNX := Lib.hid hnx
      have HFK := Lib.hid hfk
      have HCK := Lib.hid hck
      clear hcells a0 a1 a2 hfk hnx hrs hlen hck
      obtain ⟨r, hr⟩ : ∃ r, r = d k := ⟨_, rfl⟩
      rw [← hr] at d0 d1 d2 HRS HNX HFK HCK
      have HR := Lib.hid hr
      clear hr
      have i1 : (k : Int) < (n : Int) := by omega
      obtain ⟨p, q, s⟩ := r
      simp only at d0 d1 d2
      by_cases hz : chkV (rws d k) (p, q, s) = 0
      · obtain ⟨hz1, hz2, hz3⟩ := chkV_zero hz
        have HZ2 := Lib.hid hz2
        have hv : CheckV (rws d k) (p, q, s) = fun W e W' => e = .returned (.int .i64 0) ∧ Below W.heap.size W W' := by unfold CheckV; rw [hz]
        rw [hv] at HCK
        have HZ := Lib.hid hz
        clear hz hz1 hz2 hz3 hv
        go_wp2_with (go_at_call 20; refine (HCK.out _ (HT.out.below ((Below.refl _ _).alloc (Nat.le_refl _) _))).mono ?_; rintro e w1 ⟨rfl, b1⟩; have hb1 := ((Below.refl wr.heap.size wr).alloc (Nat.le_refl _) (.cells #[.int .i64 p, .int .i64 q, .int .i64 s] 30)).trans (b1.mono (by simp)); have B1 := Lib.hid (HB.out.trans (hb1.mono HB.out.size)); have T1 := Lib.hid (HT.out.below hb1); have hblk := (Blk.new wr 30 #[.int .i64 p, .int .i64 q, .int .i64 s]).below b1 (Blk.new _ _ _).lt; have e0 := hblk.cell 0; have e1 := hblk.cell 1; have e2 := hblk.cell 2; simp at e0 e1 e2; have c0 := T1.out.2.2.1.cell 0; simp at c0; clear b1 hb1 hblk)
        obtain ⟨w2, hrun, hm2, hg2⟩ := run_put_reg (q := q) (s := s) T1.out.2.2.2.drew HFK.out.1 HZ2.out (by rw [HLEN.out]; unfold maxLen; omega)
        rw [← HRS.out] at hm2
        have HM2 := Lib.hid hm2
        have HG2 := Lib.hid (show w1.grownBy w2 (some w.heap.size) from only_trans (only_drewN (only_refl w1 _) 1) hg2)
        clear hm2 hg2 HCK
        go_region
        all_goals
          go_wp2
          go_roundw
          case rel => exact ⟨k + 1, by go_num, by omega, Lib.hid (by rw [HNX.out, HZ.out]), ⟨T1.out.1, T1.out.2.1, T1.out.2.2.1.only HG2.out (by intro e; injection e with e; omega), HM2.out⟩, B1.out.trans (below_of_only HG2.out B1.out.size (fun k hk => by injection hk with hk; omega))⟩
          case measure => simp [intOf] <;> omega
      · have hne : chkN d n ≠ 0 ∧ chkN d n = chkV (rws d k) (p, q, s) := by
          have h1 : chkN d (k + 1) ≠ 0 := by rw [HNX.out]; exact hz
          have h2 := chkN_stop h1 (n - (k + 1))
          rw [show k + 1 + (n - (k + 1)) = n by omega] at h2
          rw [h2]
          exact ⟨h1, HNX.out⟩
        have HNE := Lib.hid hne
        obtain ⟨c, hc⟩ : ∃ c, c = chkV (rws d k) (p, q, s) := ⟨_, rfl⟩
        have hv : CheckV (rws d k) (p, q, s) = fun W e W' => e = .returned (.int .i64 c) ∧ Below W.heap.size W W' := by unfold CheckV; rw [hc]
        rw [hv] at HCK
        rw [← hc] at hz
        have hz' : (c != 0) = true := by simpa using hz
        have HCC := Lib.hid hc
        clear hne hv hc hz
        go_wp2_with (go_at_call 20; refine (HCK.out _ (HT.out.below ((Below.refl _ _).alloc (Nat.le_refl _) _))).mono ?_; rintro e w1 ⟨rfl, b1⟩; have hb1 := ((Below.refl wr.heap.size wr).alloc (Nat.le_refl _) (.cells #[.int .i64 p, .int .i64 q, .int .i64 s] 30)).trans (b1.mono (by simp)); have B1 := Lib.hid (HB.out.trans (hb1.mono HB.out.size)); clear b1 hb1)
        go_ret2
        exact ⟨B1.out, .inr ⟨HNE.out.1, by rw [HNE.out.2, ← HCC.out]; rfl⟩⟩
    · obtain rfl : k = n := by omega
      go_wp2
      go_ret2
      exact ⟨HB.out, .inl ⟨HC.out, _, rfl, HT.out.tab⟩⟩
end Go.Proofs.Ythlapnljinkekaa
