/- The document's answers for regions: Check, Find, Map: their contracts. -/
import Derived.Test.YthlapnljinkekaaRR4
namespace Go.Proofs.Ythlapnljinkekaa
open Go.RowKit Go.Lib Go.Sort
set_option linter.unusedVariables false

theorem lookL_at {d : Nat → Reg} {i k : Nat} {o : Int} (hk : k < i) (h : (d k).1 = o) : (lookL (rws d i) o).isSome = true := by
  cases hl : lookL (rws d i) o with
  | some x => rfl
  | none => exact absurd h (lookL_none hl _ (Sr.lst_mem.2 ⟨k, hk, rfl⟩))
theorem lookL_not {d : Nat → Reg} {i : Nat} {o : Int} (h : ∀ k, k < i → (d k).1 ≠ o) : lookL (rws d i) o = none := by
  cases hl : lookL (rws d i) o with
  | none => rfl
  | some x =>
    obtain ⟨h1, h2⟩ := lookL_some hl
    obtain ⟨k, hk, rfl⟩ := Sr.lst_mem.1 h1
    exact absurd h2 (h k hk)
theorem chkV_same {d : Nat → Reg} {i k : Nat} {r : Reg} (h0 : mayB r = true) (hk : k < i) (h : (d k).1 = r.1) : chkV (rws d i) r = 15 := by
  simp only [chkV, h0, lookL_at hk h]
  rfl
theorem chkV_fit {d : Nat → Reg} {i k : Nat} {r : Reg} (h0 : mayB r = true) (hn : ∀ k, k < i → (d k).1 ≠ r.1) (hk : k < i) (h : meetsB (spn (d k)) (spn r) = true) : chkV (rws d i) r = 11 :=
  chkV_meet h0 (lookL_not hn) (Sr.lst_mem.2 ⟨k, hk, rfl⟩) (by rw [meetsB_symm]; exact h)
theorem chkV_ok {d : Nat → Reg} {i : Nat} {r : Reg} (h0 : mayB r = true) (hn : ∀ k, k < i → (d k).1 ≠ r.1) (hm : ∀ k, k < i → meetsB (spn (d k)) (spn r) = false) : chkV (rws d i) r = 0 :=
  chkV_end h0 (lookL_not hn) (fun y hy => by
    obtain ⟨k, hk, rfl⟩ := Sr.lst_mem.1 hy
    rw [meetsB_symm]
    exact hm k hk)
theorem chkN_bad {d : Nat → Reg} {n i : Nat} {c : Int} (hi : i < n) (h0 : chkN d i = 0) (h : chkV (rws d i) (d i) = c) (hc : c ≠ 0) : chkN d n = c := by
  have h1 : chkN d (i + 1) = c := by rw [chkN_next h0, h]
  have h2 := chkN_stop (d := d) (k := i + 1) (by rw [h1]; exact hc) (n - (i + 1))
  rw [show i + 1 + (n - (i + 1)) = n by omega] at h2
  rw [h2, h1]

def RCheckV (d : Nat → Reg) (n : Nat) (w : World) (e : Ending) (w' : World) : Prop := e = .returned (.int .i64 (chkN d n)) ∧ Below w.heap.size w w'
set_option maxHeartbeats 3200000 in
theorem rcheck_any (A : Option Addr) (n cap : Nat) (d : Nat → Reg) (w : World) (hst : Regs w A n cap d) (hf : ∀ i, i < n → Fits (d i)) (hn : n ≤ 1000000) :
    Calls Try.prog 8 #[.slice A n cap] w (RCheckV d n w) := by
  have HST := Lib.hid hst
  have HF := Lib.hid hf
  clear hst hf
  go_enter Try.func8, Try.ntmps8
  go_wp2
  go_loopw [3] (fun x wr => ∃ i : Nat, x = .int .i64 i ∧ i ≤ n ∧ Hid (chkN d i = 0) ∧ Below w.heap.size w wr) (fun x _ => n - (intOf x).toNat)
  case atStart => exact ⟨0, rfl, by omega, Lib.hid rfl, Below.refl _ _⟩
  case round =>
    obtain ⟨i, rfl, hi, HC, hb⟩ := hrel
    obtain ⟨wo, hwo⟩ : ∃ wo : World, wo = wr := ⟨_, rfl⟩
    subst hwo
    have HB := Lib.hid hb
    clear hb
    by_cases hin : i < n
    · obtain ⟨b, off, rfl, hbB, hcells⟩ := HST.out.2 (by omega)
      obtain ⟨a0, a1, a2⟩ := hcells i hin
      have d0 := (HB.out.cell (p := ⟨b, off + i * 3, none⟩) hbB).trans a0
      have d1 := (HB.out.cell (p := ⟨b, off + i * 3 + 1, none⟩) hbB).trans a1
      have d2 := (HB.out.cell (p := ⟨b, off + i * 3 + 2, none⟩) hbB).trans a2
      have HCELLS := Lib.hid hcells
      have hfk := HF.out i hin
      clear a0 a1 a2
      obtain ⟨r, hr⟩ : ∃ r, r = d i := ⟨_, rfl⟩
      rw [← hr] at d0 d1 d2 hfk
      have HR := Lib.hid hr
      clear hr hcells
      obtain ⟨p, q, s⟩ := r
      obtain ⟨f1, f2, f3⟩ := hfk
      unfold fitI at f1 f2 f3
      simp only at d0 d1 d2 f1 f2 f3
      have i1 : (i : Int) < (n : Int) := by omega
      by_cases h0 : mayB (p, q, s) = true
      · have hm := mayB_iff.1 h0
        simp only at hm
        obtain ⟨m1, m2, m3, m4, m5, m6⟩ := hm
        have u1 : ¬ p < 1 := by omega
        have u2 : ¬ 8 < p := by omega
        have u3 : ¬ q < 128 := by omega
        have u4 : ¬ 16383 < q := by omega
        have u5 : ¬ s < 1 := by omega
        have u6 : ¬ 16384 - q < s := by omega
        have u7 : IntKind.i64.wrap (16384 - q) = 16384 - q := by rw [IntKind.wrap_i64]; omega
        clear m1 m2 m3 m4 m5 m6 f1 f2 f3
        go_wp2
        have hold : ∀ W, Below wo.heap.size wo W → ∀ k, k < n → W.cell? ⟨b, off + k * 3, none⟩ = some (.int .i64 (d k).1) ∧ W.cell? ⟨b, off + k * 3 + 1, none⟩ = some (.int .i64 (d k).2.1) ∧ W.cell? ⟨b, off + k * 3 + 2, none⟩ = some (.int .i64 (d k).2.2) := fun W h k hk => by
          obtain ⟨a0, a1, a2⟩ := HCELLS.out k hk
          have h' := HB.out.trans (h.mono HB.out.size)
          exact ⟨(h'.cell (p := ⟨b, off + k * 3, none⟩) hbB).trans a0, (h'.cell (p := ⟨b, off + k * 3 + 1, none⟩) hbB).trans a1, (h'.cell (p := ⟨b, off + k * 3 + 2, none⟩) hbB).trans a2⟩
        have HOLD := Lib.hid hold
        clear d0 d1 d2 hold
        go_loopw [5] (fun x wq => ∃ k : Nat, x = .int .i64 k ∧ k ≤ i ∧ Hid (∀ k', k' < k → (d k').1 ≠ p) ∧ Blk wq wo.heap.size 30 #[.int .i64 p, .int .i64 q, .int .i64 s] ∧ Below wo.heap.size wo wq) (fun x _ => i - (intOf x).toNat)
        case atStart => exact ⟨0, rfl, by omega, Lib.hid (fun k' h => by omega), Blk.new _ _ _, (Below.refl _ _).alloc (Nat.le_refl _) _⟩
        case round =>
          obtain ⟨k, rfl, hk, HS, hblk, hbq⟩ := hrel
          obtain ⟨wq, hwq⟩ : ∃ wq : World, wq = wr := ⟨_, rfl⟩
          subst hwq
          have HBLK := Lib.hid hblk
          have HBQ := Lib.hid hbq
          clear hblk hbq
          by_cases hki : k < i
          · obtain ⟨c0, _, _⟩ := HOLD.out wq HBQ.out k (by omega)
            have e0 := HBLK.out.cell 0
            simp at e0
            obtain ⟨o, ho⟩ : ∃ o, o = (d k).1 := ⟨_, rfl⟩
            rw [← ho] at c0
            have HO := Lib.hid ho
            clear ho
            have j1 : (k : Int) < (i : Int) := by omega
            have j2 : (k : Int) < (n : Int) := by omega
            by_cases hop : o = p
            · have hc : chkN d n = 15 := chkN_bad hin HC.out (by rw [← HR.out]; exact chkV_same h0 hki (by rw [← HO.out, hop])) (by omega)
              have HCC := Lib.hid hc
              subst hop
              clear hc
              go_wp2
              go_quiet (fail)
              go_wp2
              go_ret
              exact ⟨ret_int (by rw [HCC.out]), below_drewN (HB.out.trans (HBQ.out.mono HB.out.size)) _⟩
            · have hob : (o == p) = false := by simpa using hop
              go_wp2
              go_quiet (fail)
              go_wp2
              go_roundw
              case rel =>
                refine ⟨k + 1, by go_num, by omega, Lib.hid fun k' hk' => ?_, HBLK.out.drewN _, below_drewN HBQ.out _⟩
                by_cases e : k' = k
                · subst e; rw [← HO.out]; exact hop
                · exact HS.out k' (by omega)
              case measure => simp [intOf] <;> omega
          · obtain rfl : k = i := by omega
            have HNS := HS
            clear HS
            go_wp2
            go_loopw [6] (fun x wz => ∃ j : Nat, x = .int .i64 j ∧ j ≤ k ∧ Hid (∀ k', k' < j → meetsB (spn (d k')) (q, q + s) = false) ∧ Blk wz wo.heap.size 30 #[.int .i64 p, .int .i64 q, .int .i64 s] ∧ Below wo.heap.size wo wz) (fun x _ => k - (intOf x).toNat)
            case atStart => exact ⟨0, rfl, by omega, Lib.hid (fun k' h => by omega), HBLK.out, HBQ.out⟩
            case round =>
              obtain ⟨j, rfl, hj, HS, hblk, hbq⟩ := hrel
              obtain ⟨wz, hwz⟩ : ∃ wz : World, wz = wr := ⟨_, rfl⟩
              subst hwz
              have HBLK2 := Lib.hid hblk
              have HBQ2 := Lib.hid hbq
              clear hblk hbq HBLK HBQ
              by_cases hjk : j < k
              · obtain ⟨c0, c1, c2⟩ := HOLD.out wz HBQ2.out j (by omega)
                have e0 := HBLK2.out.cell 0
                have e1 := HBLK2.out.cell 1
                have e2 := HBLK2.out.cell 2
                simp at e0 e1 e2
                have hmj : mayB (d j) = true := chkN_may HC.out _ (Sr.lst_mem.2 ⟨j, by omega, rfl⟩)
                obtain ⟨y, hy⟩ : ∃ y, y = d j := ⟨_, rfl⟩
                rw [← hy] at c0 c1 c2 hmj
                have HY := Lib.hid hy
                clear hy
                obtain ⟨y1, y2, y3⟩ := y
                simp only at c0 c1 c2
                obtain ⟨mb, hmb⟩ : ∃ mb, mb = meetsB (y2, y2 + y3) (q, q + s) := ⟨_, rfl⟩
                have hme : ∀ W, Calls Try.prog 21 #[.agg #[.int .i64 y2, .int .i64 (y2 + y3)], .agg #[.int .i64 q, .int .i64 (q + s)]] W fun e w' => e = .returned (.bool mb) ∧ W.grownBy w' none := fun W => by
                  have := meets_any (y2, y2 + y3) (q, q + s) W
                  rw [← hmb] at this
                  exact this
                have hpo : ∀ W, Calls Try.prog 15 #[.agg #[.int .i64 y1, .int .i64 y2, .int .i64 y3]] W fun e w' => e = .returned (.agg #[.int .i64 y2, .int .i64 (y2 + y3)]) ∧ W.grownBy w' none := fun W => rspan_any (y1, y2, y3) hmj W
                have hpr : ∀ W, Calls Try.prog 15 #[.agg #[.int .i64 p, .int .i64 q, .int .i64 s]] W fun e w' => e = .returned (.agg #[.int .i64 q, .int .i64 (q + s)]) ∧ W.grownBy w' none := fun W => rspan_any (p, q, s) h0 W
                have HPO := Lib.hid hpo
                have HPR := Lib.hid hpr
                have HME := Lib.hid hme
                have HMB := Lib.hid hmb
                have j1 : (j : Int) < (k : Int) := by omega
                have j2 : (j : Int) < (n : Int) := by omega
                clear hpo hpr hme hmb hmj
                have k0 := fun d os => cell_regrown c0 d os
                have k1 := fun d os => cell_regrown c1 d os
                have k2 := fun d os => cell_regrown c2 d os
                have k3 := fun d os => cell_regrown e0 d os
                have k4 := fun d os => cell_regrown e1 d os
                have k5 := fun d os => cell_regrown e2 d os
                clear c0 c1 c2 e0 e1 e2
                go_wp2
                refine wp_region_quiet_below (by kernel_rfl) (by kernel_rfl) ?_
                repeat (quiet_step (first | (go_at_call 15; with_reducible exact Calls.regrown_of (((HPO.out _).mono fun _ _ ⟨h1, h2⟩ => ⟨h1, below_of_only h2 (Nat.le_refl _) (by simp)⟩))) | (go_at_call 15; with_reducible exact Calls.regrown_of (((HPR.out _).mono fun _ _ ⟨h1, h2⟩ => ⟨h1, below_of_only h2 (Nat.le_refl _) (by simp)⟩))) | (go_at_call 21; with_reducible exact Calls.regrown_of (((HME.out _).mono fun _ _ ⟨h1, h2⟩ => ⟨h1, below_of_only h2 (Nat.le_refl _) (by simp)⟩)))))
                refine wpQuiet_nil ?_
                rintro _ ⟨⟨dq, osq⟩, rfl⟩
                have hb3 := below_regrown wz dq osq
                generalize grow (redrawn wz dq) osq = w3 at hb3 ⊢
                have B3 := Lib.hid (HBQ2.out.trans (hb3.mono HBQ2.out.size))
                have R3 := Lib.hid (HBLK2.out.below hb3 HBLK2.out.lt)
                clear hb3 k0 k1 k2 k3 k4 k5
                cases mb with
                | true =>
                  have hc : chkN d n = 11 := chkN_bad hin HC.out (by rw [← HR.out]; exact chkV_fit h0 HNS.out hjk (by rw [← HY.out]; exact HMB.out.symm)) (by omega)
                  have HCC := Lib.hid hc
                  clear hc
                  go_wp2
                  go_ret
                  exact ⟨ret_int (by rw [HCC.out]), HB.out.trans (B3.out.mono HB.out.size)⟩
                | false =>
                  go_wp2
                  go_roundw
                  case rel =>
                    refine ⟨j + 1, by go_num, by omega, Lib.hid fun k' hk' => ?_, R3.out, B3.out⟩
                    by_cases e : k' = j
                    · subst e; rw [← HY.out]; exact HMB.out.symm
                    · exact HS.out k' (by omega)
                  case measure => simp [intOf] <;> omega
              · obtain rfl : j = k := by omega
                have hc : chkN d (j + 1) = 0 := by
                  rw [chkN_next HC.out, ← HR.out]
                  exact chkV_ok h0 HNS.out HS.out
                have HCC := Lib.hid hc
                clear hc
                go_wp2
                go_roundw
                case rel => exact ⟨j + 1, by go_num, by omega, HCC, HB.out.trans (HBQ2.out.mono HB.out.size)⟩
                case measure => simp [intOf] <;> omega
      · have hc : chkN d n = 2 := chkN_bad hin HC.out (by rw [← HR.out]; simp [chkV, h0]) (by omega)
        have HCC := Lib.hid hc
        have hm : ¬ (1 ≤ p ∧ p ≤ 8 ∧ 128 ≤ q ∧ q ≤ 16383 ∧ 1 ≤ s ∧ s ≤ 16384 - q) := fun h => h0 (mayB_iff.2 h)
        have key : (p < 1) ∨ (¬ p < 1 ∧ 8 < p) ∨ (¬ p < 1 ∧ ¬ 8 < p ∧ q < 128) ∨ (¬ p < 1 ∧ ¬ 8 < p ∧ ¬ q < 128 ∧ 16383 < q) ∨ (¬ p < 1 ∧ ¬ 8 < p ∧ ¬ q < 128 ∧ ¬ 16383 < q ∧ s < 1) ∨ (¬ p < 1 ∧ ¬ 8 < p ∧ ¬ q < 128 ∧ ¬ 16383 < q ∧ ¬ s < 1 ∧ 16384 - q < s) := by omega
        have u7 : ¬ q < 128 → IntKind.i64.wrap (16384 - q) = 16384 - q := fun _ => by rw [IntKind.wrap_i64]; omega
        clear hc hm f1 f2 f3
        rcases key with u1 | ⟨u1, u2⟩ | ⟨u1, u2, u3⟩ | ⟨u1, u2, u3, u4⟩ | ⟨u1, u2, u3, u4, u5⟩ | ⟨u1, u2, u3, u4, u5, u6⟩
        all_goals
          try have u8 := u7 u3
          clear u7
          go_wp2
          go_ret
          exact ⟨ret_int (by rw [HCC.out]), HB.out.alloc HB.out.size _⟩
    · obtain rfl : i = n := by omega
      go_wp2
      go_ret
      exact ⟨ret_int (by rw [HC.out]), HB.out⟩
end Go.Proofs.Ythlapnljinkekaa
