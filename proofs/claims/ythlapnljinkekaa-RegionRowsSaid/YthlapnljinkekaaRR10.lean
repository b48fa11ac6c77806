/- Back of a table: its contract; what every law of package region asks first. -/
import Derived.Test.YthlapnljinkekaaRR9
namespace Go.Proofs.Ythlapnljinkekaa
open Go.RowKit Go.Lib Go.Sort
set_option linter.unusedVariables false

/-- Whose the place x is: o and k are what Back answers. -/
def Backs (L : List Reg) (x o k : Int) : Prop := (∃ r ∈ L, holdsB (spn r) x = true ∧ o = r.1 ∧ k = x - r.2.1) ∨ ((∀ r ∈ L, holdsB (spn r) x = false) ∧ o = 0 ∧ k = 0)
def BackV (L : List Reg) (x : Int) (w : World) (e : Ending) (w' : World) : Prop := ∃ o k : Int, e = .returned (.tuple #[.int .i64 o, .int .i64 k]) ∧ Backs L x o k ∧ Below w.heap.size w w'
theorem holdsB_at {r : Reg} {x : Int} (h : holdsB (spn r) x = true) : r.2.1 ≤ x ∧ x < r.2.1 + r.2.2 := by
  simp [holdsB, spn] at h
  omega

set_option maxHeartbeats 1600000 in
theorem back_any {w : World} {B t : Nat} {L : List Reg} (x : Int) (h : TabV w B t L) (hl : L.length ≤ 8) (hnd : (L.map (·.1)).Nodup) (hm : AllMay L) : Calls Try.prog 18 #[.pointer (some ⟨t, 0, none⟩), .int .i64 x] w (BackV L x w) := by
  have HALL := Lib.hid (all_any h hl hnd)
  have HM := Lib.hid hm
  clear h hnd hm
  go_enter Try.func18, Try.ntmps18
  go_wp2_with (go_at_call 12; refine HALL.out.mono ?_; rintro e w1 ⟨v, n, d, rfl, hv, hp, hs, b1⟩; have HV := Lib.hid hv; have HP := Lib.hid hp; have B1 := Lib.hid b1; clear hv hp hs b1; obtain ⟨A1, c1, rfl, hrg⟩ := HV.out.regs; have HRG := Lib.hid hrg; clear hrg)
  go_loopw [11] (fun y wr => ∃ k : Nat, y = .int .i64 k ∧ k ≤ n ∧ Hid (∀ i, i < k → holdsB (spn (d i)) x = false) ∧ Below w.heap.size w wr ∧ Below w1.heap.size w1 wr) (fun y _ => n - (intOf y).toNat)
  case atStart => exact ⟨0, rfl, by omega, Lib.hid (fun i h => by omega), B1.out, Below.refl _ _⟩
  have hn8 : n ≤ 8 := by have := HP.out.length_eq; rw [Sr.lst_len] at this; omega
  case round =>
    obtain ⟨k, rfl, hk, HS, hb, hb2⟩ := hrel
    have HB := Lib.hid hb
    have HB2 := Lib.hid hb2
    clear hb hb2
    by_cases hkn : k < n
    · obtain ⟨b1, o1, rfl, hb1, hc1⟩ := (HRG.out.below HB2.out).2 (by omega)
      obtain ⟨c0, c2, c3⟩ := hc1 k hkn
      have hmk : d k ∈ L := HP.out.mem_iff.1 (Sr.lst_mem.2 ⟨k, hkn, rfl⟩)
      obtain ⟨r, hr⟩ : ∃ r, r = d k := ⟨_, rfl⟩
      rw [← hr] at c0 c2 c3 hmk
      have HMK := Lib.hid hmk
      have HR := Lib.hid hr
      have hmay := HM.out r hmk
      clear hc1 hmk hr
      obtain ⟨p, q, s⟩ := r
      simp only at c0 c2 c3
      obtain ⟨hb, hhb⟩ : ∃ hb, hb = holdsB (q, q + s) x := ⟨_, rfl⟩
      have hho : ∀ W, Calls Try.prog 26 #[.agg #[.int .i64 q, .int .i64 (q + s)], .int .i64 x] W fun e w' => e = .returned (.bool hb) ∧ W.grownBy w' none := fun W => by
        have := holds_any (q, q + s) x W
        rw [← hhb] at this
        exact this
      have hpo : ∀ W, Calls Try.prog 25 #[.agg #[.int .i64 p, .int .i64 q, .int .i64 s]] W fun e w' => e = .returned (.agg #[.int .i64 q, .int .i64 (q + s)]) ∧ W.grownBy w' none := fun W => places_any (p, q, s) hmay W
      have HHO := Lib.hid hho
      have HPO := Lib.hid hpo
      have HHB := Lib.hid hhb
      have hmy := mayB_iff.1 hmay
      have hsub : hb = true → IntKind.i64.wrap (x - q) = x - q := fun h => by
        have := holdsB_at (r := (p, q, s)) (x := x) (by show holdsB (q, q + s) x = true; rw [← hhb]; exact h)
        simp only at this hmy
        rw [IntKind.wrap_i64]
        omega
      clear hho hpo hhb hmy hmay
      have i1 : (k : Int) < (n : Int) := by omega
      cases hb with
      | true =>
        have hw := hsub rfl
        clear hsub
        go_wp2_with (first
          | (go_at_call 25; refine (HPO.out _).mono ?_; rintro e w3 ⟨rfl, g3⟩; have H3 := Lib.hid ((Blk.new wr 30 #[.int .i64 p, .int .i64 q, .int .i64 s]).only g3 (by simp)); have B3 := Lib.hid ((HB.out.alloc HB.out.size (.cells #[.int .i64 p, .int .i64 q, .int .i64 s] 30)).trans (below_of_only g3 (Nat.le_trans HB.out.size (by simp)) (by simp))); clear g3)
          | (go_at_call 26; refine (HHO.out _).mono ?_; rintro e w4 ⟨rfl, g4⟩; have h4 := H3.out.only g4 (by simp); have e0 := h4.cell 0; have e1 := h4.cell 1; simp at e0 e1; have B4 := Lib.hid (B3.out.trans (below_of_only g4 B3.out.size (by simp))); clear g4 h4))
        go_quiet (fail)
        go_wp2
        go_ret2
        exact ⟨_, _, rfl, .inl ⟨_, HMK.out, HHB.out.symm, rfl, rfl⟩, below_drewN B4.out _⟩
      | false =>
        clear hsub
        go_wp2_with (first
          | (go_at_call 25; refine (HPO.out _).mono ?_; rintro e w3 ⟨rfl, g3⟩; have B3 := Lib.hid ((HB.out.alloc HB.out.size (.cells #[.int .i64 p, .int .i64 q, .int .i64 s] 30)).trans (below_of_only g3 (Nat.le_trans HB.out.size (by simp)) (by simp))); have C3 := Lib.hid ((HB2.out.alloc HB2.out.size (.cells #[.int .i64 p, .int .i64 q, .int .i64 s] 30)).trans (below_of_only g3 (Nat.le_trans HB2.out.size (by simp)) (by simp))); clear g3)
          | (go_at_call 26; refine (HHO.out _).mono ?_; rintro e w4 ⟨rfl, g4⟩; have B4 := Lib.hid (B3.out.trans (below_of_only g4 B3.out.size (by simp))); have C4 := Lib.hid (C3.out.trans (below_of_only g4 C3.out.size (by simp))); clear g4))
        go_roundw
        case rel =>
          refine ⟨k + 1, by go_num, by omega, Lib.hid fun i hi => ?_, B4.out, C4.out⟩
          by_cases e : i = k
          · subst e; rw [← HR.out]; exact HHB.out.symm
          · exact HS.out i (by omega)
        case measure => simp [intOf] <;> omega
    · obtain rfl : k = n := by omega
      go_wp2
      go_ret2
      refine ⟨_, _, rfl, .inr ⟨fun r hr => ?_, rfl, rfl⟩, HB.out⟩
      obtain ⟨i, hi, rfl⟩ := Sr.lst_mem.1 (HP.out.mem_iff.2 hr)
      exact HS.out i hi
end Go.Proofs.Ythlapnljinkekaa
