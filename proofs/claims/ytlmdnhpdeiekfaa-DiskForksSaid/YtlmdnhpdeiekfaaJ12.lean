/- The document's Check of a disk's rows, by its contract. -/
import Derived.Test.YtlmdnhpdeiekfaaJ11
import Derived.Lib.QuietBelow
namespace Go.Proofs.Ytlmdnhpdeiekfaa
open Go.RowKit Go.Lib Go.Sort
set_option linter.unusedVariables false

theorem meetsB_symm (a b : Int × Int) : meetsB a b = meetsB b a := by
  unfold meetsB
  cases isB a <;> cases isB b <;> cases holdsB a b.1 <;> cases holdsB b a.1 <;> rfl
theorem newE_next {d : Nat → Prt} {n : Nat} (h : newE d n = 0) : newE d (n + 1) = chkT (tblN d n) (d n) := by
  show (if newE d n = 0 then _ else _) = _
  rw [if_pos h]
theorem tbl_cases {d : Nat → Prt} {n : Nat} (h : ∀ i, i < n → mayB (d i) = true) (k : Nat) : (tblN d n k = (0, 0, 0) ∧ ∀ i, i < n → (d i).1 ≠ (k : Int)) ∨ ∃ i, i < n ∧ tblN d n k = d i ∧ (d i).1 = (k : Int) := by
  induction n with
  | zero => exact .inl ⟨rfl, fun i hi => by omega⟩
  | succ n ih =>
    have hm := mayB_iff.1 (h n (by omega))
    unfold tblN updT
    by_cases e : k = (d n).1.toNat
    · rw [if_pos e]
      exact .inr ⟨n, by omega, rfl, by omega⟩
    · rw [if_neg e]
      rcases ih (fun i hi => h i (by omega)) with ⟨h1, h2⟩ | ⟨i, hi, h1, h2⟩
      · refine .inl ⟨h1, fun i hi => ?_⟩
        by_cases e2 : i = n
        · subst e2; omega
        · exact h2 i (by omega)
      · exact .inr ⟨i, by omega, h1, h2⟩
theorem newE_part {d : Nat → Prt} {n i : Nat} (h : newE d n = 0) (hi : i < n) : newE d i = 0 ∧ chkT (tblN d i) (d i) = 0 := by
  induction n with
  | zero => omega
  | succ n ih =>
    unfold newE at h
    by_cases h0 : newE d n = 0
    · rw [if_pos h0] at h
      by_cases e : i = n
      · subst e; exact ⟨h0, h⟩
      · exact ih h0 (by omega)
    · rw [if_neg h0] at h
      exact absurd h h0
theorem chkT_new {T : Nat → Prt} {p : Prt} (h : chkT T p = 0) : (T p.1.toNat).1 = 0 := by
  unfold chkT at h
  by_cases hm : mayB p = false
  · rw [if_pos hm] at h; cases h
  · rw [if_neg hm] at h
    by_cases h2 : ¬ (T p.1.toNat).1 = 0
    · rw [if_pos h2] at h; cases h
    · omega
theorem newE_apart {d : Nat → Prt} {n i k : Nat} (h : newE d n = 0) (hik : i < k) (hk : k < n) : (d i).1 ≠ (d k).1 := by
  obtain ⟨h1, h2⟩ := newE_part h hk
  have hm := newE_may h
  have hmi := mayB_iff.1 (hm i (by omega))
  have hmk := mayB_iff.1 (hm k hk)
  have h3 := chkT_new h2
  rcases tbl_cases (d := d) (n := k) (fun i hi => hm i (by omega)) (d k).1.toNat with ⟨_, h5⟩ | ⟨i', hi', h5, h6⟩
  · have := h5 i hik
    omega
  · rw [h5] at h3
    have := mayB_iff.1 (hm i' (by omega))
    omega
theorem tbl_own {d : Nat → Prt} {n i : Nat} (h : newE d n = 0) (hi : i < n) : tblN d n (d i).1.toNat = d i := by
  have hm := newE_may h
  have hmi := mayB_iff.1 (hm i hi)
  rcases tbl_cases (d := d) (n := n) hm (d i).1.toNat with ⟨_, h5⟩ | ⟨i', hi', h5, h6⟩
  · exact absurd (show (d i).1 = (((d i).1.toNat : Nat) : Int) by omega) (h5 i hi)
  · have e : i' = i := by
      rcases Nat.lt_trichotomy i' i with h7 | h7 | h7
      · exact absurd (by omega) (newE_apart h h7 hi)
      · exact h7
      · exact absurd (by omega) (newE_apart h h7 hi')
    rw [h5, e]
theorem meet_zero (a : Int × Int) : meetsB a (0, 0) = false := by
  cases h : meetsB a (0, 0) with
  | false => rfl
  | true =>
    rw [meets_iff] at h
    simp [isB] at h
theorem chk_same {d : Nat → Prt} {n k : Nat} {r : Prt} (h : newE d n = 0) (h0 : mayB r = true) (hk : k < n) (e : (d k).1 = r.1) : chkT (tblN d n) r = 15 := by
  have hm := mayB_iff.1 (newE_may h k hk)
  have ho := tbl_own h hk
  rw [e] at ho
  unfold chkT
  rw [if_neg (by simp [h0]), if_pos (by rw [ho]; omega)]
theorem tbl_zero {d : Nat → Prt} {n : Nat} {r : Prt} (h : newE d n = 0) (h0 : mayB r = true) (hn : ∀ k, k < n → (d k).1 ≠ r.1) : (tblN d n r.1.toNat).1 = 0 := by
  have hr := mayB_iff.1 h0
  rcases tbl_cases (d := d) (n := n) (newE_may h) r.1.toNat with ⟨h5, _⟩ | ⟨i', hi', h5, h6⟩
  · rw [h5]
  · exact absurd (show (d i').1 = r.1 by omega) (hn i' hi')
theorem chk_fit {d : Nat → Prt} {n k : Nat} {r : Prt} (h : newE d n = 0) (h0 : mayB r = true) (hn : ∀ k, k < n → (d k).1 ≠ r.1) (hk : k < n) (hm : meetsB (spd (d k)) (spd r) = true) : chkT (tblN d n) r = 11 := by
  have hmk := mayB_iff.1 (newE_may h k hk)
  refine chkT_meet h0 (tbl_zero h h0 hn) (k := (d k).1.toNat) (by omega) ?_
  rw [tbl_own h hk, meetsB_symm]
  exact hm
theorem chk_ok {d : Nat → Prt} {n : Nat} {r : Prt} (h : newE d n = 0) (h0 : mayB r = true) (hn : ∀ k, k < n → (d k).1 ≠ r.1) (hm : ∀ k, k < n → meetsB (spd (d k)) (spd r) = false) : chkT (tblN d n) r = 0 := by
  refine chkT_end h0 (tbl_zero h h0 hn) fun k hk => ?_
  rcases tbl_cases (d := d) (n := n) (newE_may h) k with ⟨h5, _⟩ | ⟨i', hi', h5, h6⟩
  · rw [h5]
    exact meet_zero _
  · rw [h5, meetsB_symm]
    exact hm i' hi'
theorem newE_bad {d : Nat → Prt} {n i : Nat} {c : Int} (hi : i < n) (h0 : newE d i = 0) (h : chkT (tblN d i) (d i) = c) (hc : c ≠ 0) : newE d n = c := by
  rw [newE_stop hi h0 (by rw [h]; exact hc), h]

def RCheckV (d : Nat → Prt) (n : Nat) (w : World) (e : Ending) (w' : World) : Prop := e = .returned (.int .i64 (newE d n)) ∧ Below w.heap.size w w'
set_option maxRecDepth 20000 in
set_option maxHeartbeats 3200000 in
theorem rcheck_any (A : Option Addr) (n cap : Nat) (d : Nat → Prt) (w : World) (hst : PrtsV w A n d) (hf : ∀ i, i < n → FitP (d i)) (hn : n ≤ 1000000) :
    Calls Try.prog 8 #[.slice A n cap] w (RCheckV d n w) := by
  have HST := Lib.hid hst
  have HF := Lib.hid hf
  clear hst hf
  go_enter Try.func8, Try.ntmps8
  go_wp2
  go_loopw [3] (fun x wr => ∃ i : Nat, x = .int .i64 i ∧ i ≤ n ∧ Hid (newE d i = 0) ∧ Below w.heap.size w wr) (fun x _ => n - (intOf x).toNat)
  case atStart => exact ⟨0, rfl, by omega, Lib.hid rfl, Below.refl _ _⟩
  case round =>
    obtain ⟨i, rfl, hi, HC, hb⟩ := hrel
    obtain ⟨wo, hwo⟩ : ∃ wo : World, wo = wr := ⟨_, rfl⟩
    subst hwo
    have HB := Lib.hid hb
    clear hb
    by_cases hin : i < n
    · obtain ⟨b, off, rfl, hbB, hcells⟩ := HST.out.2 (by omega)
      obtain ⟨a0, a1, a2⟩ := hcells i hin
      have d0 := (HB.out.cell (p := ⟨b, off + i * 3, none⟩) hbB).trans a0
      have d1 := (HB.out.cell (p := ⟨b, off + i * 3 + 1, none⟩) hbB).trans a1
      have d2 := (HB.out.cell (p := ⟨b, off + i * 3 + 2, none⟩) hbB).trans a2
      have HCELLS := Lib.hid hcells
      have hfk := HF.out i hin
      clear a0 a1 a2
      obtain ⟨r, hr⟩ : ∃ r, r = d i := ⟨_, rfl⟩
      rw [← hr] at d0 d1 d2 hfk
      have HR := Lib.hid hr
      clear hr hcells
      obtain ⟨p, q, s⟩ := r
      obtain ⟨f1, f2, f3⟩ := hfk
      unfold fitI at f1 f2 f3
      simp only at d0 d1 d2 f1 f2 f3
      have i1 : (i : Int) < (n : Int) := by omega
      by_cases h0 : mayB (p, q, s) = true
      · have hm := mayB_iff.1 h0
        simp only at hm
        obtain ⟨m1, m2, m3, m4, m5, m6⟩ := hm
        have u1 : ¬ p < 1 := by omega
        have u2 : ¬ 8 < p := by omega
        have u3 : ¬ s < 0 := by omega
        have u4 : ¬ 64 < s := by omega
        have u5 : ¬ q < 0 := by omega
        have u6 : ¬ 512 - s < q := by omega
        have u7 : IntKind.i64.wrap (512 - s) = 512 - s := by rw [IntKind.wrap_i64]; omega
        have u8 : IntKind.i64.wrap (q + s) = q + s := by rw [IntKind.wrap_i64]; omega
        clear m1 m2 m3 m4 m5 m6 f1 f2 f3
        go_wp2
        have hold : ∀ W, Below wo.heap.size wo W → ∀ k, k < n → W.cell? ⟨b, off + k * 3, none⟩ = some (.int .i64 (d k).1) ∧ W.cell? ⟨b, off + k * 3 + 1, none⟩ = some (.int .i64 (d k).2.1) ∧ W.cell? ⟨b, off + k * 3 + 2, none⟩ = some (.int .i64 (d k).2.2) := fun W h k hk => by
          obtain ⟨a0, a1, a2⟩ := HCELLS.out k hk
          have h' := HB.out.trans (h.mono HB.out.size)
          exact ⟨(h'.cell (p := ⟨b, off + k * 3, none⟩) hbB).trans a0, (h'.cell (p := ⟨b, off + k * 3 + 1, none⟩) hbB).trans a1, (h'.cell (p := ⟨b, off + k * 3 + 2, none⟩) hbB).trans a2⟩
        have HOLD := Lib.hid hold
        clear d0 d1 d2 hold
        go_loopw [5] (fun x wq => ∃ k : Nat, x = .int .i64 k ∧ k ≤ i ∧ Hid (∀ k', k' < k → (d k').1 ≠ p) ∧ Blk wq wo.heap.size 60 #[.int .i64 p, .int .i64 q, .int .i64 s] ∧ Below wo.heap.size wo wq) (fun x _ => i - (intOf x).toNat)
        case atStart => exact ⟨0, rfl, by omega, Lib.hid (fun k' h => by omega), Blk.new _ _ _, (Below.refl _ _).alloc (Nat.le_refl _) _⟩
        case round =>
          obtain ⟨k, rfl, hk, HS, hblk, hbq⟩ := hrel
          obtain ⟨wq, hwq⟩ : ∃ wq : World, wq = wr := ⟨_, rfl⟩
          subst hwq
          have HBLK := Lib.hid hblk
          have HBQ := Lib.hid hbq
          clear hblk hbq
          by_cases hki : k < i
          · obtain ⟨c0, _, _⟩ := HOLD.out wq HBQ.out k (by omega)
            have e0 := HBLK.out.cell 0
            simp at e0
            obtain ⟨o, ho⟩ : ∃ o, o = (d k).1 := ⟨_, rfl⟩
            rw [← ho] at c0
            have HO := Lib.hid ho
            clear ho
            have j1 : (k : Int) < (i : Int) := by omega
            have j2 : (k : Int) < (n : Int) := by omega
            by_cases hop : o = p
            · have hc : newE d n = 15 := newE_bad hin HC.out (by rw [← HR.out]; exact chk_same HC.out h0 hki (by rw [← HO.out, hop])) (by omega)
              have HCC := Lib.hid hc
              subst hop
              clear hc
              go_wp2
              go_quiet (fail)
              go_wp2
              go_ret
              exact ⟨ret_int (by rw [HCC.out]), below_drewN (HB.out.trans (HBQ.out.mono HB.out.size)) _⟩
            · have hob : (o == p) = false := by simpa using hop
              go_wp2
              go_quiet (fail)
              go_wp2
              go_roundw
              case rel =>
                refine ⟨k + 1, by go_num, by omega, Lib.hid fun k' hk' => ?_, HBLK.out.drewN _, below_drewN HBQ.out _⟩
                by_cases e : k' = k
                · subst e; rw [← HO.out]; exact hop
                · exact HS.out k' (by omega)
              case measure => simp [intOf] <;> omega
          · obtain rfl : k = i := by omega
            have HNS := HS
            clear HS
            go_wp2
            go_loopw [6] (fun x wz => ∃ j : Nat, x = .int .i64 j ∧ j ≤ k ∧ Hid (∀ k', k' < j → meetsB (spd (d k')) (q, q + s) = false) ∧ Blk wz wo.heap.size 60 #[.int .i64 p, .int .i64 q, .int .i64 s] ∧ Below wo.heap.size wo wz) (fun x _ => k - (intOf x).toNat)
            case atStart => exact ⟨0, rfl, by omega, Lib.hid (fun k' h => by omega), HBLK.out, HBQ.out⟩
            case round =>
              obtain ⟨j, rfl, hj, HS, hblk, hbq⟩ := hrel
              obtain ⟨wz, hwz⟩ : ∃ wz : World, wz = wr := ⟨_, rfl⟩
              subst hwz
              have HBLK2 := Lib.hid hblk
              have HBQ2 := Lib.hid hbq
              clear hblk hbq HBLK HBQ
              by_cases hjk : j < k
              · obtain ⟨c0, c1, c2⟩ := HOLD.out wz HBQ2.out j (by omega)
                have e0 := HBLK2.out.cell 0
                have e1 := HBLK2.out.cell 1
                have e2 := HBLK2.out.cell 2
                simp at e0 e1 e2
                have hmj : mayB (d j) = true := newE_may HC.out _ (by omega)
                obtain ⟨y, hy⟩ : ∃ y, y = d j := ⟨_, rfl⟩
                rw [← hy] at c0 c1 c2 hmj
                have HY := Lib.hid hy
                clear hy
                obtain ⟨y1, y2, y3⟩ := y
                simp only at c0 c1 c2
                obtain ⟨mb, hmb⟩ : ∃ mb, mb = meetsB (y2, y2 + y3) (q, q + s) := ⟨_, rfl⟩
                have hme : ∀ W, Calls Try.prog 21 #[.agg #[.int .i64 y2, .int .i64 (y2 + y3)], .agg #[.int .i64 q, .int .i64 (q + s)]] W fun e w' => e = .returned (.bool mb) ∧ W.grownBy w' none := fun W => by
                  have := meets_any (y2, y2 + y3) (q, q + s) W
                  rw [← hmb] at this
                  exact this
                have hwy := Within.of hmj
                obtain ⟨w1, w2, w3, w4⟩ := hwy
                simp only at w1 w2 w3 w4
                have u9 : IntKind.i64.wrap (y2 + y3) = y2 + y3 := by rw [IntKind.wrap_i64]; omega
                have HME := Lib.hid hme
                have HMB := Lib.hid hmb
                have j1 : (j : Int) < (k : Int) := by omega
                have j2 : (j : Int) < (n : Int) := by omega
                clear hme hmb hmj w1 w2 w3 w4
                have k0 := fun d os => cell_regrown c0 d os
                have k1 := fun d os => cell_regrown c1 d os
                have k2 := fun d os => cell_regrown c2 d os
                have k3 := fun d os => cell_regrown e0 d os
                have k4 := fun d os => cell_regrown e1 d os
                have k5 := fun d os => cell_regrown e2 d os
                clear c0 c1 c2 e0 e1 e2
                go_wp2
                refine wp_region_quiet_below (by kernel_rfl) (by kernel_rfl) ?_
                repeat (quiet_step ((first | (go_at_call 21; with_reducible exact Calls.regrown_of (((HME.out _).mono fun _ _ ⟨h1, h2⟩ => ⟨h1, below_of_only h2 (Nat.le_refl _) (by simp)⟩))))))
                refine wpQuiet_nil ?_
                rintro _ ⟨⟨dq, osq⟩, rfl⟩
                have hb3 := below_regrown wz dq osq
                generalize grow (redrawn wz dq) osq = w3 at hb3 ⊢
                have B3 := Lib.hid (HBQ2.out.trans (hb3.mono HBQ2.out.size))
                have R3 := Lib.hid (HBLK2.out.below hb3 HBLK2.out.lt)
                clear hb3 k0 k1 k2 k3 k4 k5
                cases mb with
                | true =>
                  have hc : newE d n = 11 := newE_bad hin HC.out (by rw [← HR.out]; exact chk_fit HC.out h0 HNS.out hjk (by rw [← HY.out]; exact HMB.out.symm)) (by omega)
                  have HCC := Lib.hid hc
                  clear hc
                  go_wp2
                  go_ret
                  exact ⟨ret_int (by rw [HCC.out]), HB.out.trans (B3.out.mono HB.out.size)⟩
                | false =>
                  go_wp2
                  go_roundw
                  case rel =>
                    refine ⟨j + 1, by go_num, by omega, Lib.hid fun k' hk' => ?_, R3.out, B3.out⟩
                    by_cases e : k' = j
                    · subst e; rw [← HY.out]; exact HMB.out.symm
                    · exact HS.out k' (by omega)
                  case measure => simp [intOf] <;> omega
              · obtain rfl : j = k := by omega
                have hc : newE d (j + 1) = 0 := by
                  rw [newE_next HC.out, ← HR.out]
                  exact chk_ok HC.out h0 HNS.out HS.out
                have HCC := Lib.hid hc
                clear hc
                go_wp2
                go_roundw
                case rel => exact ⟨j + 1, by go_num, by omega, HCC, HB.out.trans (HBQ2.out.mono HB.out.size)⟩
                case measure => simp [intOf] <;> omega
      · have hc : newE d n = 2 := newE_bad hin HC.out (by rw [← HR.out]; simp [chkT, h0]) (by omega)
        have HCC := Lib.hid hc
        have hm : ¬ (1 ≤ p ∧ p ≤ 8 ∧ 0 ≤ s ∧ s ≤ 64 ∧ 0 ≤ q ∧ q ≤ 512 - s) := fun h => h0 (mayB_iff.2 h)
        have key : (p < 1) ∨ (¬ p < 1 ∧ 8 < p) ∨ (¬ p < 1 ∧ ¬ 8 < p ∧ s < 0) ∨ (¬ p < 1 ∧ ¬ 8 < p ∧ ¬ s < 0 ∧ 64 < s) ∨ (¬ p < 1 ∧ ¬ 8 < p ∧ ¬ s < 0 ∧ ¬ 64 < s ∧ q < 0) ∨ (¬ p < 1 ∧ ¬ 8 < p ∧ ¬ s < 0 ∧ ¬ 64 < s ∧ ¬ q < 0 ∧ 512 - s < q) := by omega
        have u7 : ¬ s < 0 → ¬ 64 < s → IntKind.i64.wrap (512 - s) = 512 - s := fun _ _ => by rw [IntKind.wrap_i64]; omega
        clear hc hm f1 f2 f3
        rcases key with u1 | ⟨u1, u2⟩ | ⟨u1, u2, u3⟩ | ⟨u1, u2, u3, u4⟩ | ⟨u1, u2, u3, u4, u5⟩ | ⟨u1, u2, u3, u4, u5, u6⟩
        all_goals
          try have u8 := u7 u3 u4
          clear u7
          go_wp2
          go_ret
          exact ⟨ret_int (by rw [HCC.out]), HB.out.alloc HB.out.size _⟩
    · obtain rfl : i = n := by omega
      go_wp2
      go_ret
      exact ⟨ret_int (by rw [HC.out]), HB.out⟩
end Go.Proofs.Ytlmdnhpdeiekfaa
