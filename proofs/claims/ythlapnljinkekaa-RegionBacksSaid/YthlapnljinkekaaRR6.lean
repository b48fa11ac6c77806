/- The document's Find and Map: their contracts. -/
import Derived.Test.YthlapnljinkekaaRR5
namespace Go.Proofs.Ythlapnljinkekaa
open Go.RowKit Go.Lib Go.Sort
set_option linter.unusedVariables false

theorem lookL_first {d : Nat → Reg} {n k : Nat} {o : Int} (hk : k < n) (hn : ∀ i, i < k → (d i).1 ≠ o) (h : (d k).1 = o) : lookL (rws d n) o = some (d k) := by
  unfold lookL
  rw [List.find?_eq_some_iff_append]
  refine ⟨by simpa using h, rws d k, (List.range' (k + 1) (n - (k + 1))).map d, ?_, fun a ha => ?_⟩
  · unfold rws Sr.lst
    have e : List.range n = List.range k ++ k :: List.range' (k + 1) (n - (k + 1)) := by
      rw [List.range_eq_range', List.range_eq_range']
      have h1 : k :: List.range' (k + 1) (n - (k + 1)) = List.range' k (n - k) := by
        rw [show n - k = (n - (k + 1)) + 1 by omega, List.range'_succ]
      rw [h1]
      have h2 := List.range'_append_1 (s := 0) (m := k) (n := n - k)
      rw [show k + (n - k) = n by omega, Nat.zero_add] at h2
      exact h2.symm
    rw [e, List.map_append, List.map_cons]
  · obtain ⟨i, hi, rfl⟩ := Sr.lst_mem.1 ha
    simpa using hn i hi
def RFindV (d : Nat → Reg) (n : Nat) (o : Int) (w : World) (e : Ending) (w' : World) : Prop := e = .returned (.agg #[.int .i64 (fndR (rws d n) o).1, .int .i64 (fndR (rws d n) o).2.1, .int .i64 (fndR (rws d n) o).2.2]) ∧ Below w.heap.size w w'
set_option maxHeartbeats 1600000 in
theorem rfind_any (A : Option Addr) (n cap : Nat) (d : Nat → Reg) (o : Int) (w : World) (hst : Regs w A n cap d) (hn : n ≤ 1000000) :
    Calls Try.prog 11 #[.slice A n cap, .int .i64 o] w (RFindV d n o w) := by
  have HST := Lib.hid hst
  clear hst
  go_enter Try.func11, Try.ntmps11
  go_wp2
  have HB0 := Lib.hid ((Below.refl w.heap.size w).alloc (Nat.le_refl _) (.cells #[.int .i64 0, .int .i64 0, .int .i64 0] 30))
  go_loopw [5] (fun x wr => ∃ k : Nat, x = .int .i64 k ∧ k ≤ n ∧ Hid (∀ i, i < k → (d i).1 ≠ o) ∧ Blk wr w.heap.size 30 #[.int .i64 0, .int .i64 0, .int .i64 0] ∧ Below w.heap.size w wr) (fun x _ => n - (intOf x).toNat)
  case atStart => exact ⟨0, rfl, by omega, Lib.hid (fun i h => by omega), Blk.new _ _ _, HB0.out⟩
  case round =>
    obtain ⟨k, rfl, hk, HS, hR, hb⟩ := hrel
    have HR := Lib.hid hR
    have HB := Lib.hid hb
    have r0 := hR.cell 0
    have r1 := hR.cell 1
    have r2 := hR.cell 2
    have g0 := hR.free 0
    have g1 := hR.free 1
    have g2 := hR.free 2
    simp at r0 r1 r2
    clear hR hb HB0
    by_cases hkn : k < n
    · obtain ⟨b, off, rfl, hbB, hcells⟩ := HST.out.2 (by omega)
      obtain ⟨a0, a1, a2⟩ := hcells k hkn
      have d0 := (HB.out.cell (p := ⟨b, off + k * 3, none⟩) hbB).trans a0
      have d1 := (HB.out.cell (p := ⟨b, off + k * 3 + 1, none⟩) hbB).trans a1
      have d2 := (HB.out.cell (p := ⟨b, off + k * 3 + 2, none⟩) hbB).trans a2
      clear a0 a1 a2 hcells
      have hfst : (d k).1 = o → fndR (rws d n) o = d k := fun h => by
        unfold fndR
        rw [lookL_first hkn HS.out h]
        rfl
      obtain ⟨y, hy⟩ : ∃ y, y = d k := ⟨_, rfl⟩
      rw [← hy] at d0 d1 d2 hfst
      have HY := Lib.hid hy
      have HFST := Lib.hid hfst
      clear hy hfst
      obtain ⟨y1, y2, y3⟩ := y
      simp only at d0 d1 d2
      have i1 : (k : Int) < (n : Int) := by omega
      by_cases ho : y1 = o
      · have hf := HFST.out ho
        have HFF := Lib.hid hf
        subst ho
        have hne : ¬ b = w.heap.size := Nat.ne_of_lt hbB
        have hne' : ¬ w.heap.size = b := fun e => hne e.symm
        clear hf
        go_wp2
        refine bodyPost_ret (v := .agg #[.int .i64 y1, .int .i64 y2, .int .i64 y3]) (by simp [results, Try.results11, go_sem, r0, r1, r2]) rfl ⟨?_, ?_⟩
        · rw [HFF.out]
        · exact ((HB.out.setCell (Nat.le_refl _) _).setCell (Nat.le_refl _) _).setCell (Nat.le_refl _) _
      · have hob : (y1 == o) = false := by simpa using ho
        go_wp2
        go_roundw
        case rel =>
          refine ⟨k + 1, by go_num, by omega, Lib.hid fun i hi => ?_, HR.out, HB.out⟩
          by_cases e : i = k
          · subst e; rw [← HY.out]; exact ho
          · exact HS.out i (by omega)
        case measure => simp [intOf] <;> omega
    · obtain rfl : k = n := by omega
      have hf : fndR (rws d k) o = (0, 0, 0) := by unfold fndR; rw [lookL_not HS.out]; rfl
      have HFF := Lib.hid hf
      clear hf
      go_wp2
      refine bodyPost_ret (v := .agg #[.int .i64 0, .int .i64 0, .int .i64 0]) (by simp [results, Try.results11, go_sem, r0, r1, r2]) rfl ⟨?_, ?_⟩
      · rw [HFF.out]
      · exact ((HB.out.setCell (Nat.le_refl _) _).setCell (Nat.le_refl _) _).setCell (Nat.le_refl _) _

set_option maxHeartbeats 1600000 in
theorem rmap_any (A : Option Addr) (n cap : Nat) (d : Nat → Reg) (o a m : Int) (w : World) (hst : Regs w A n cap d) (hn : n ≤ 1000000) (h0 : chkN d n = 0) (ha : fitI a) :
    Calls Try.prog 17 #[.slice A n cap, .int .i64 o, .int .i64 a, .int .i64 m] w fun e w' => e = .returned (.tuple #[.int .i64 (mapV (rws d n) o a m).1, .int .i64 (mapV (rws d n) o a m).2]) ∧ Below w.heap.size w w' := by
  have hfind := rfind_any A n cap d o w hst hn
  have hmay := chkN_may h0
  unfold RFindV fndR at hfind
  unfold mapV
  cases hl : lookL (rws d n) o with
  | none =>
    rw [hl] at hfind
    simp only [Option.getD_none] at hfind
    have HC := Lib.hid hfind
    clear hfind hl hst
    go_enter Try.func17, Try.ntmps17
    go_wp2_with (go_at_call 11; refine HC.out.mono ?_; rintro e w1 ⟨rfl, b1⟩; have B1 := Lib.hid b1; clear b1)
    go_ret2
    exact ⟨rfl, B1.out.alloc B1.out.size _⟩
  | some r =>
    have hm := mayB_iff.1 (hmay.look hl)
    rw [hl] at hfind
    obtain ⟨p, q, s⟩ := r
    simp only [Option.getD_some] at hfind hm ⊢
    have HC := Lib.hid hfind
    unfold fitI at ha
    have key : (m < 0 ∧ (if m < 0 then ((0, 2) : Int × Int) else if a < 0 then (0, 6) else if s - a < m then (0, 6) else (q + a, 0)) = (0, 2)) ∨ (¬ m < 0 ∧ a < 0 ∧ (if m < 0 then ((0, 2) : Int × Int) else if a < 0 then (0, 6) else if s - a < m then (0, 6) else (q + a, 0)) = (0, 6)) ∨ (¬ m < 0 ∧ ¬ a < 0 ∧ s < a ∧ (if m < 0 then ((0, 2) : Int × Int) else if a < 0 then (0, 6) else if s - a < m then (0, 6) else (q + a, 0)) = (0, 6)) ∨ (¬ m < 0 ∧ ¬ a < 0 ∧ ¬ s < a ∧ s - a < m ∧ (if m < 0 then ((0, 2) : Int × Int) else if a < 0 then (0, 6) else if s - a < m then (0, 6) else (q + a, 0)) = (0, 6)) ∨ (¬ m < 0 ∧ ¬ a < 0 ∧ ¬ s < a ∧ ¬ s - a < m ∧ (if m < 0 then ((0, 2) : Int × Int) else if a < 0 then (0, 6) else if s - a < m then (0, 6) else (q + a, 0)) = (q + a, 0)) := by
      by_cases h1 : m < 0 <;> by_cases h2 : a < 0 <;> by_cases h3 : s < a <;> by_cases h4 : s - a < m <;> simp [h1, h2, h3, h4] <;> omega
    have hw1 : ¬ a < 0 → IntKind.i64.wrap (s - a) = s - a := fun h => by rw [IntKind.wrap_i64]; omega
    have hw2 : ¬ a < 0 → ¬ s < a → IntKind.i64.wrap (q + a) = q + a := fun h1 h2 => by rw [IntKind.wrap_i64]; omega
    have hp0 : ¬ p = 0 := by omega
    have hp1 : (p == 0) = false := by simpa using hp0
    clear hfind hl hst ha hm hmay
    rcases key with ⟨h1, e⟩ | ⟨h1, h2, e⟩ | ⟨h1, h2, h3, e⟩ | ⟨h1, h2, h3, h4, e⟩ | ⟨h1, h2, h3, h4, e⟩
    all_goals
      rw [e]
      clear e
      try have hw3 := hw1 h2
      try have hw4 := hw2 h2 h3
      clear hw1 hw2
      go_enter Try.func17, Try.ntmps17
      go_wp2_with (go_at_call 11; refine HC.out.mono ?_; rintro e w1 ⟨rfl, b1⟩; have B1 := Lib.hid b1; clear b1)
      go_ret2
      exact ⟨rfl, B1.out.alloc B1.out.size _⟩
end Go.Proofs.Ythlapnljinkekaa
