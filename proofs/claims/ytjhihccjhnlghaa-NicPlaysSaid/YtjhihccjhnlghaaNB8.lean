/- A deed on a device and on the document's ports; what all ports tell. -/
import Derived.Test.YtjhihccjhnlghaaNB7
namespace Go.Proofs.Ytjhihccjhnlghaa
open Go.RowKit Go.Lib
set_option linter.unusedVariables false

section
variable {w w' : World} {F : Nat → Prop} {d : Nat → I3} {n dd : Nat} {A : Option Addr} {odd : Int} {S : List Frm} {c : Nat} {O : Nat → Prop} {P : Nat → Sp} {R : Nat → Rp}
/-- How often nobody's bytes came, behind a deed. -/
def stO (d : Nat → I3) (n : Nat) (x : Ded) (odd : Int) : Int := if x.1 = 0 then comeO (jfor (fun i => (d i).2.1) n x.2.2.2.2) odd else odd
theorem Bo.addr (h : Bo w F d n dd A odd S c O P R) (hp : 0 < n) : ∃ g, A = some ⟨g, 0, none⟩ := by
  obtain ⟨g, cs, e, _⟩ := h.2.1 hp
  exact ⟨g, e⟩
theorem lcome_any (h : Bo w F d n dd A odd S c O P R) (cl : Nat) (s : ByteArray) (hs : s.size ≤ 200) (hc : c ≤ 900) (hn : n ≤ 1000) :
    Calls Try.prog 28 #[.pointer (some ⟨dd, 0, none⟩), .slice A n cl, .string s] w fun e w' => e = .returned (.bool true) ∧ BoN w F d n dd A w' (comeO (jfor (fun i => (d i).2.1) n s) odd) S (c + 1) := by
  cases hj : jfor (fun i => (d i).2.1) n s with
  | none => exact lcome_odd h cl s hs (by omega) hn hj
  | some k =>
    obtain ⟨_, hk, _⟩ := jfor_some hj
    obtain ⟨g, rfl⟩ := h.addr (by omega)
    exact lcome_hit h cl s hs (by omega) hn hj
theorem step_come (h : Bo w F d n dd A odd S c O P R) (cl : Nat) (x : Ded) (hd : x.1 = 0) (hs : x.2.2.2.2.size ≤ 200) (hc : c ≤ 900) (hn : n ≤ 1000) :
    Calls Try.prog 12 #[.pointer (some ⟨dd, 0, none⟩), .slice A n cl, ddv x] w (StepV w F d n dd A (comeO (jfor (fun i => (d i).2.1) n x.2.2.2.2) odd) (c + 1)) := by
  obtain ⟨x1, x2, x3, x4, x5⟩ := x
  simp only at hd hs ⊢
  subst hd
  have hb0 : Below w.heap.size w (w.alloc (.cells #[.int .i64 0, .int .i64 x2, .int .i64 x3, .int .i64 x4, .string x5] 34)) := (Below.refl _ _).alloc (Nat.le_refl _) _
  have HC := Lib.hid (show Calls Try.prog 28 #[.pointer (some ⟨dd, 0, none⟩), .slice A n cl, .string x5] (w.alloc (.cells #[.int .i64 0, .int .i64 x2, .int .i64 x3, .int .i64 x4, .string x5] 34)) fun e w' => e = .returned (.bool true) ∧ BoN w F d n dd A w' (comeO (jfor (fun i => (d i).2.1) n x5) odd) S (c + 1) from
    (lcome_any (h.below hb0) cl x5 hs hc hn).mono fun e w' ⟨e1, e2⟩ => ⟨e1, e2.from hb0⟩)
  clear h hb0
  go_enter Try.func12, Try.ntmps12
  go_wp2_with (go_at_call 28; (with_reducible refine HC.out.mono ?_); rintro e w1 ⟨rfl, b1⟩; have B1 := Lib.hid b1; clear b1)
  go_ret
  exact ⟨rfl, S, B1.out⟩
theorem deed_any (h : Bo w F d n dd A odd S c O P R) (cl : Nat) (x : Ded) (hfo : fitI x.2.1) (hs : x.2.2.2.2.size ≤ 200) (hc : c ≤ 900) (hn : n ≤ 1000) :
    Calls Try.prog 12 #[.pointer (some ⟨dd, 0, none⟩), .slice A n cl, ddv x] w (StepV w F d n dd A (stO d n x odd) (c + 1)) := by
  unfold stO
  by_cases h0 : x.1 = 0
  · rw [if_pos h0]
    exact step_come h cl x h0 hs hc hn
  · rw [if_neg h0]
    rcases ownI_cases R n x.2.1 with ⟨k, hk, hko, ho⟩ | hko
    · obtain ⟨g, rfl⟩ := h.addr (by omega)
      by_cases h1 : x.1 = 1
      · cases he : (P k).2.2.2.1 with
        | nil => exact step_take_empty h cl x h1 hn hk hko ho he
        | cons f l => exact step_take_in h cl x h1 hn (by omega) hk hko ho f l he
      · by_cases he : (Fr.prV x.2.2.1 (d k).2.1 x.2.2.2.2).2 = 0
        · exact step_send_ok h cl x h0 h1 hn hc hk hko ho hs he
        · exact step_send_bad h cl x h0 h1 hn hc hk hko ho hs he
    · by_cases h1 : x.1 = 1
      · exact step_take_none h cl x h1 hfo hn hko
      · exact step_send_none h cl x h0 h1 hfo hn (by omega) hko

set_option maxRecDepth 20000 in
set_option maxHeartbeats 3200000 in
theorem told_any (h : Bo w F d n dd A odd S c O P R) (cl : Nat) (hn : n ≤ 1000) :
    Calls Try.prog 13 #[.pointer (some ⟨dd, 0, none⟩), .slice A n cl] w fun e w' => e = .returned (.bool true) ∧ Below w.heap.size w w' := by
  have HW := Lib.hid (fun (i : Nat) (hi : i < n) (W : World) (hb : Below w.heap.size w W) => (show Calls Try.prog 17 #[.pointer (some ⟨dd, 0, none⟩), .int .i64 (d i).1] W fun e w' => e = .returned (.int .i64 (P i).2.2.2.1.length) ∧ Below W.heap.size W w' from by
    have := dv_waits (h.below hb).1 hi
    rwa [(h.2.2.2.1 i hi).1] at this))
  have HD := Lib.hid (fun (i : Nat) (hi : i < n) (W : World) (hb : Below w.heap.size w W) => (show Calls Try.prog 18 #[.pointer (some ⟨dd, 0, none⟩), .int .i64 (d i).1] W fun e w' => e = .returned (.int .i64 (P i).2.2.2.2) ∧ Below W.heap.size W w' from by
    have := dv_drops (h.below hb).1 hi
    rwa [(h.2.2.2.1 i hi).1] at this))
  have HCE := Lib.hid (fun (i : Nat) (hi : i < n) (W : World) (hb : Below w.heap.size w W) => (show ∃ g Av cv, A = some ⟨g, 0, none⟩ ∧ W.cell? ⟨g, i * 5, none⟩ = some (.int .i64 (d i).1) ∧ W.cell? ⟨g, i * 5 + 3, none⟩ = some (.slice Av (P i).2.2.2.1.length cv) ∧ W.cell? ⟨g, i * 5 + 4, none⟩ = some (.int .i64 (P i).2.2.2.2) from by
    obtain ⟨g, hA, q0, _, _, q3, q4, _⟩ := (h.below hb).cells hi
    obtain ⟨Av, cv, hv⟩ := (h.2.2.1 i hi).1.form
    rw [hv] at q3
    exact ⟨g, Av, cv, hA, q0, q3, q4⟩))
  clear h
  go_enter Try.func13, Try.ntmps13
  go_wp2
  go_loopw [5] (fun x wr => ∃ i : Nat, x = .int .i64 i ∧ i ≤ n ∧ Hid (Below w.heap.size w wr)) (fun x _ => n - (intOf x).toNat)
  case atStart => exact ⟨0, rfl, by omega, Lib.hid (Below.refl _ _)⟩
  case round =>
    obtain ⟨i, rfl, hi, HB⟩ := hrel
    by_cases hin : i < n
    · obtain ⟨g, Av, cv, rfl, c0, c3, c4⟩ := HCE.out i hin wr HB.out
      have HWI := Lib.hid (HW.out i hin)
      have HDI := Lib.hid (HD.out i hin)
      have HCI := Lib.hid (show ∀ (W : World), Below wr.heap.size wr W → W.cell? ⟨g, i * 5, none⟩ = some (.int .i64 (d i).1) ∧ W.cell? ⟨g, i * 5 + 3, none⟩ = some (.slice Av (P i).2.2.2.1.length cv) ∧ W.cell? ⟨g, i * 5 + 4, none⟩ = some (.int .i64 (P i).2.2.2.2) from fun W hW => by
        have hg : g < wr.heap.size := by
          refine Classical.byContradiction fun hne => ?_
          rw [World.cell?, Array.getElem?_eq_none (by simpa using hne)] at c0
          cases c0
        exact ⟨(hW.cell (p := ⟨g, i * 5, none⟩) hg).trans c0, (hW.cell (p := ⟨g, i * 5 + 3, none⟩) hg).trans c3, (hW.cell (p := ⟨g, i * 5 + 4, none⟩) hg).trans c4⟩)
      generalize (d i).1 = ow at c0 HWI HDI HCI
      generalize (P i).2.2.2.1.length = ln at c3 HWI HCI
      generalize (P i).2.2.2.2 = dp at c4 HDI HCI
      have i1 : (i : Int) < (n : Int) := by omega
      go_wp2
      go_region_held3 (fun w' => w'.cell? ⟨g, i * 5, none⟩ = some (.int .i64 ow) ∧ w'.cell? ⟨g, i * 5 + 3, none⟩ = some (.slice Av ln cv) ∧ w'.cell? ⟨g, i * 5 + 4, none⟩ = some (.int .i64 dp))
        (first | exact ⟨c0, c3, c4⟩ | exact HCI.out _ E6.out | exact HCI.out _ E5.out | go_keep)
        (first
          | (go_at_call 18; have HQ := HDI.out _ (HB.out.trans (E5.out.mono HB.out.size)); refine HQ.mono ?_; clear HQ; rintro e w6 ⟨rfl, b6⟩; have E6 : Hid (Below wr.heap.size wr w6) := Lib.hid (E5.out.trans (b6.mono E5.out.size)); clear b6)
          | (go_at_call 17; have HQ := HWI.out _ (below_drewN HB.out 1); refine HQ.mono ?_; clear HQ; rintro e w5 ⟨rfl, b5⟩; have E5 : Hid (Below wr.heap.size wr w5) := Lib.hid ((below_drewN (Below.refl _ _) 1).trans b5); clear b5))
      all_goals
        go_wp2
        go_roundw
        case rel => exact ⟨i + 1, by go_num, by omega, Lib.hid (HB.out.trans (E6.out.mono HB.out.size))⟩
        case measure => simp [intOf] <;> omega
    · have i1 : ¬ (i : Int) < (n : Int) := by omega
      go_wp2
      go_ret
      exact ⟨rfl, HB.out⟩
end
end Go.Proofs.Ytjhihccjhnlghaa
