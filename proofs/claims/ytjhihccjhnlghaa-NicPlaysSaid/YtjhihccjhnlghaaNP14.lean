/- The document's Check of ports, by its contract. -/
import Derived.Test.YtjhihccjhnlghaaNP13
import Derived.Lib.QuietBelow
namespace Go.Proofs.Ytjhihccjhnlghaa
open Go.RowKit Go.Lib
set_option linter.unusedVariables false

theorem newE_bad {d : Nat → I3} {n i : Nat} {c : Int} (hi : i < n) (h : newE d i = 0) (hc : chkR (rwN d i) (d i) = c) (hne : c ≠ 0) : newE d n = c := by
  have h1 := newE_next h
  rw [hc] at h1
  have h2 := newE_stop (d := d) (k := i + 1) (by rw [h1]; exact hne) (n - (i + 1))
  rw [show i + 1 + (n - (i + 1)) = n by omega, h1] at h2
  exact h2
theorem chkR_may {l : List I3} {r : I3} (h : mayP r = false) : chkR l r = 2 := by simp [chkR, h]
theorem chkR_same {d : Nat → I3} {i k : Nat} {r : I3} (h : mayP r = true) (hk : k < i) (he : (d k).1 = r.1 ∨ (d k).2.1 = r.2.1) : chkR (rwN d i) r = 15 := by
  have hm : d k ∈ rwN d i := List.mem_map.2 ⟨k, by simpa using hk, rfl⟩
  unfold chkR
  rw [h]
  simp only [Bool.true_eq_false, if_false]
  by_cases h1 : (rwN d i).any (fun x => decide (x.1 = r.1)) = true
  · rw [if_pos h1]
  · rw [if_neg h1]
    rcases he with he | he
    · exact absurd (List.any_eq_true.2 ⟨d k, hm, by simpa using he⟩) h1
    · rw [if_pos (List.any_eq_true.2 ⟨d k, hm, by simpa using he⟩)]
theorem chkR_none {d : Nat → I3} {i : Nat} {r : I3} (h : mayP r = true) (hn : ∀ k, k < i → (d k).1 ≠ r.1 ∧ (d k).2.1 ≠ r.2.1) : chkR (rwN d i) r = 0 := by
  unfold chkR
  rw [h]
  simp only [Bool.true_eq_false, if_false]
  rw [if_neg, if_neg]
  all_goals
    intro he
    obtain ⟨x, hx, hxe⟩ := List.any_eq_true.1 he
    obtain ⟨k, hk, rfl⟩ := List.mem_map.1 hx
    have := hn k (by simpa using hk)
    simp_all

def RCheckN (d : Nat → I3) (n : Nat) (w : World) (e : Ending) (w' : World) : Prop := e = .returned (.int .i64 (newE d n)) ∧ Below w.heap.size w w'
set_option maxRecDepth 20000 in
set_option maxHeartbeats 3200000 in
theorem rcheck_any (A : Option Addr) (n cap : Nat) (d : Nat → I3) (w : World) (hst : PortsV w A n (frp d)) (hn : n ≤ 1000) :
    Calls Try.prog 9 #[.slice A n cap] w (RCheckN d n w) := by
  have HST := Lib.hid hst
  clear hst
  go_enter Try.func9, Try.ntmps9
  go_wp2
  go_loopw [3] (fun x wr => ∃ i : Nat, x = .int .i64 i ∧ i ≤ n ∧ Hid (newE d i = 0) ∧ Below w.heap.size w wr) (fun x _ => n - (intOf x).toNat)
  case atStart => exact ⟨0, rfl, by omega, Lib.hid rfl, Below.refl _ _⟩
  case round =>
    obtain ⟨i, rfl, hi, HC, hb⟩ := hrel
    obtain ⟨wo, hwo⟩ : ∃ wo : World, wo = wr := ⟨_, rfl⟩
    subst hwo
    have HB := Lib.hid hb
    clear hb
    by_cases hin : i < n
    · obtain ⟨b, rfl, hbB, hcells⟩ := HST.out (by omega)
      obtain ⟨a0, a1, a2, a3, a4⟩ := hcells i hin
      have d0 := (HB.out.cell (p := ⟨b, i * 5, none⟩) hbB).trans a0
      have d1 := (HB.out.cell (p := ⟨b, i * 5 + 1, none⟩) hbB).trans a1
      have d2 := (HB.out.cell (p := ⟨b, i * 5 + 2, none⟩) hbB).trans a2
      have d3 := (HB.out.cell (p := ⟨b, i * 5 + 3, none⟩) hbB).trans a3
      have d4 := (HB.out.cell (p := ⟨b, i * 5 + 4, none⟩) hbB).trans a4
      have HCELLS := Lib.hid hcells
      clear a0 a1 a2 a3 a4
      simp only [frp] at d0 d1 d2 d3 d4
      obtain ⟨r, hr⟩ : ∃ r, r = d i := ⟨_, rfl⟩
      rw [← hr] at d0 d1 d2
      have HR := Lib.hid hr
      clear hr hcells
      obtain ⟨p, q, s⟩ := r
      simp only at d0 d1 d2
      have i1 : (i : Int) < (n : Int) := by omega
      by_cases h0 : mayP (p, q, s) = true
      · have hm := mayP_iff.1 h0
        simp only at hm
        obtain ⟨m1, m2, m3, m4, m5, m6⟩ := hm
        have u1 : ¬ p < 1 := by omega
        have u2 : ¬ 8 < p := by omega
        have u3 : ¬ q < 0 := by omega
        have u4 : ¬ 255 < q := by omega
        have u5 : ¬ s < 0 := by omega
        have u6 : ¬ 16 < s := by omega
        clear m1 m2 m3 m4 m5 m6
        go_wp2
        have hold : ∀ W, Below wo.heap.size wo W → ∀ k, k < n → W.cell? ⟨b, k * 5, none⟩ = some (.int .i64 (d k).1) ∧ W.cell? ⟨b, k * 5 + 1, none⟩ = some (.int .i64 (d k).2.1) := fun W h k hk => by
          obtain ⟨a0, a1, _⟩ := HCELLS.out k hk
          have h' := HB.out.trans (h.mono HB.out.size)
          exact ⟨(h'.cell (p := ⟨b, k * 5, none⟩) hbB).trans a0, (h'.cell (p := ⟨b, k * 5 + 1, none⟩) hbB).trans a1⟩
        have HOLD := Lib.hid hold
        clear d0 d1 d2 d3 d4 hold
        go_loopw [5] (fun x wq => ∃ k : Nat, x = .int .i64 k ∧ k ≤ i ∧ Hid (∀ k', k' < k → (d k').1 ≠ p ∧ (d k').2.1 ≠ q) ∧ Blk wq wo.heap.size 52 #[.int .i64 p, .int .i64 q, .int .i64 s, .slice none 0 0, .int .i64 0] ∧ Below wo.heap.size wo wq) (fun x _ => i - (intOf x).toNat)
        case atStart => exact ⟨0, rfl, by omega, Lib.hid (fun k' h => by omega), Blk.new _ _ _, (Below.refl _ _).alloc (Nat.le_refl _) _⟩
        case round =>
          obtain ⟨k, rfl, hk, HS, hblk, hbq⟩ := hrel
          obtain ⟨wq, hwq⟩ : ∃ wq : World, wq = wr := ⟨_, rfl⟩
          subst hwq
          have HBLK := Lib.hid hblk
          have HBQ := Lib.hid hbq
          clear hblk hbq
          by_cases hki : k < i
          · obtain ⟨c0, c1⟩ := HOLD.out wq HBQ.out k (by omega)
            have e0 := HBLK.out.cell 0
            have e1 := HBLK.out.cell 1
            simp at e0 e1
            obtain ⟨o, ho⟩ : ∃ o, o = (d k).1 := ⟨_, rfl⟩
            obtain ⟨z, hz⟩ : ∃ z, z = (d k).2.1 := ⟨_, rfl⟩
            rw [← ho] at c0
            rw [← hz] at c1
            have HO := Lib.hid (And.intro ho hz)
            clear ho hz
            have j1 : (k : Int) < (i : Int) := by omega
            have j2 : (k : Int) < (n : Int) := by omega
            by_cases hop : o = p
            · have hc : newE d n = 15 := newE_bad hin HC.out (by rw [← HR.out]; exact chkR_same h0 hki (.inl (by rw [← HO.out.1, hop]))) (by omega)
              have HCC := Lib.hid hc
              subst hop
              clear hc
              go_wp2
              go_quiet (fail)
              go_wp2
              go_ret
              exact ⟨ret_int (by rw [HCC.out]), below_drewN (HB.out.trans (HBQ.out.mono HB.out.size)) _⟩
            · have hob : (o == p) = false := by simpa using hop
              by_cases hzq : z = q
              · have hc : newE d n = 15 := newE_bad hin HC.out (by rw [← HR.out]; exact chkR_same h0 hki (.inr (by rw [← HO.out.2, hzq]))) (by omega)
                have HCC := Lib.hid hc
                subst hzq
                clear hc
                go_wp2
                go_quiet (fail)
                go_wp2
                go_ret
                exact ⟨ret_int (by rw [HCC.out]), below_drewN (HB.out.trans (HBQ.out.mono HB.out.size)) _⟩
              · have hzb : (z == q) = false := by simpa using hzq
                go_wp2
                go_quiet (fail)
                go_wp2
                go_roundw
                case rel =>
                  refine ⟨k + 1, by go_num, by omega, Lib.hid fun k' hk' => ?_, HBLK.out.drewN _, below_drewN HBQ.out _⟩
                  by_cases e : k' = k
                  · subst e; rw [← HO.out.1, ← HO.out.2]; exact ⟨hop, hzq⟩
                  · exact HS.out k' (by omega)
                case measure => simp [intOf] <;> omega
          · obtain rfl : k = i := by omega
            have hnx : newE d (k + 1) = 0 := by rw [newE_next HC.out, ← HR.out]; exact chkR_none h0 HS.out
            have HNX := Lib.hid hnx
            clear hnx
            go_wp2
            go_roundw
            case rel => exact ⟨k + 1, by go_num, by omega, HNX, HB.out.trans (HBQ.out.mono HB.out.size)⟩
            case measure => simp [intOf] <;> omega
      · have h0' : mayP (p, q, s) = false := by simpa using h0
        have hc : newE d n = 2 := newE_bad hin HC.out (by rw [← HR.out]; exact chkR_may h0') (by omega)
        have HCC := Lib.hid hc
        have key : p < 1 ∨ (¬ p < 1 ∧ 8 < p) ∨ (¬ p < 1 ∧ ¬ 8 < p ∧ q < 0) ∨ (¬ p < 1 ∧ ¬ 8 < p ∧ ¬ q < 0 ∧ 255 < q) ∨ (¬ p < 1 ∧ ¬ 8 < p ∧ ¬ q < 0 ∧ ¬ 255 < q ∧ s < 0) ∨ (¬ p < 1 ∧ ¬ 8 < p ∧ ¬ q < 0 ∧ ¬ 255 < q ∧ ¬ s < 0 ∧ 16 < s) := by
          have : ¬ (1 ≤ p ∧ p ≤ 8 ∧ 0 ≤ q ∧ q ≤ 255 ∧ 0 ≤ s ∧ s ≤ 16) := fun h => h0 (mayP_iff.2 h)
          omega
        clear hc h0 h0'
        rcases key with u1 | ⟨u1, u2⟩ | ⟨u1, u2, u3⟩ | ⟨u1, u2, u3, u4⟩ | ⟨u1, u2, u3, u4, u5⟩ | ⟨u1, u2, u3, u4, u5, u6⟩
        all_goals
          go_wp2
          go_ret
          exact ⟨ret_int (by rw [HCC.out]), HB.out.alloc HB.out.size _⟩
    · obtain rfl : i = n := by omega
      have i1 : ¬ (i : Int) < (i : Int) := by omega
      go_wp2
      go_ret
      exact ⟨ret_int (by rw [HC.out]), HB.out⟩
end Go.Proofs.Ytjhihccjhnlghaa
