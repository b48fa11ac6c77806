/- A frame is sent by a device and put down, as the document says. -/
import Derived.Test.YtjhihccjhnlghaaNB6
namespace Go.Proofs.Ytjhihccjhnlghaa
open Go.RowKit Go.Lib
set_option linter.unusedVariables false
attribute [-go_sem] Go.run_eql_struct Go.run_neq_struct
section
variable {w w' : World} {F : Nat → Prop} {d : Nat → I3} {n dd : Nat} {A : Option Addr} {odd : Int} {S : List Frm} {c : Nat} {O : Nat → Prop} {P : Nat → Sp} {R : Nat → Rp}
set_option maxRecDepth 20000 in
set_option maxHeartbeats 3200000 in
/-- It is sent. -/
theorem step_send_ok {g : Nat} (h : Bo w F d n dd (some ⟨g, 0, none⟩) odd S c O P R) (cl : Nat) (x : Ded) (hd0 : x.1 ≠ 0) (hd1 : x.1 ≠ 1) (hn : n ≤ 1000) (hc : c ≤ 900) {k : Nat} (hk : k < n) (ho : ownI R n x.2.1 = k) (hok : (R k).1 = x.2.1) (hs : x.2.2.2.2.size ≤ 200) (he : (Fr.prV x.2.2.1 (d k).2.1 x.2.2.2.2).2 = 0) :
    Calls Try.prog 12 #[.pointer (some ⟨dd, 0, none⟩), .slice (some ⟨g, 0, none⟩) n cl, ddv x] w (StepV w F d n dd (some ⟨g, 0, none⟩) odd (c + 1)) := by
  obtain ⟨x1, x2, x3, x4, x5⟩ := x
  simp only at hd0 hd1 ho hok hs he
  have h0 : (x1 == 0) = false := by simpa using hd0
  have h1 : (x1 == 1) = false := by simpa using hd1
  have hsc : S.length ≤ c := h.2.2.2.2.2.1
  have hsl : S.length ≤ 1000 := by omega
  have hb0 : Below w.heap.size w (w.alloc (.cells #[.int .i64 x1, .int .i64 x2, .int .i64 x3, .int .i64 x4, .string x5] 34)) := (Below.refl _ _).alloc (Nat.le_refl _) _
  have h' := h.below hb0
  have hPo : (P k).1 = x2 := by rw [← (h.2.2.1 k hk).2.1]; exact hok
  have hPm : (P k).2.1 = (d k).2.1 := (h.2.2.2.1 k hk).2
  have HO := Lib.hid (rowner_any (some ⟨g, 0, none⟩) n cl R x2 _ h'.2.1.ports hn)
  rw [ho] at HO
  have HPR := Lib.hid (fun (W : World) => rprint_any x3 (d k).2.1 x5 W hs)
  rw [← hPm] at he
  have HT : Hid (∀ (W : World), Below w.heap.size w W → Calls Try.prog 20 #[.pointer (some ⟨dd, 0, none⟩), .int .i64 x4, .int .i64 x2, .int .i64 x3, .string x5] W fun e w' => e = .returned (.int .i64 0) ∧ BoN w F d n dd (some ⟨g, 0, none⟩) w' odd (S ++ [(x4, x2, (Fr.prV x3 (d k).2.1 x5).1)]) (c + 1) ∧ Since w W w') := Lib.hid fun W hb => by
    have hW := h.below hb
    have := dv_send hW.1 hk x4 x3 x5 hs hsl he
    rw [hPo, hPm] at this
    refine this.mono fun e w' ⟨e1, e2⟩ => ⟨e1, (hW.dev e2 (h.2.2.2.2.1.mono (Nat.le_succ _)) (by simp; omega)).from hb, fun i hi hi' => ?_⟩
    obtain ⟨O', k1, k2, k3⟩ := e2
    exact k2.2.2.2.2 i hi' fun hO => by have := h.1.lt i hO; omega
  rw [hPm] at he
  have HL := Lib.hid (fun (W : World) (hb : Below w.heap.size w W) => log_form (h.below hb).1 hsl)
  have HL2 := Lib.hid (fun (W : World) (hb : BoN w F d n dd (some ⟨g, 0, none⟩) W odd (S ++ [(x4, x2, (Fr.prV x3 (d k).2.1 x5).1)]) (c + 1)) => (show Calls Try.prog 21 #[.pointer (some ⟨dd, 0, none⟩)] W fun e w' => ∃ g8 o8 c8, e = .returned (.slice (some ⟨g8, o8, none⟩) (S.length + 1) c8) ∧ g8 < w'.heap.size ∧ (w'.cell? ⟨g8, o8 + S.length * 3, none⟩ = some (.int .i64 x4) ∧ w'.cell? ⟨g8, o8 + S.length * 3 + 1, none⟩ = some (.int .i64 x2) ∧ w'.cell? ⟨g8, o8 + S.length * 3 + 2, none⟩ = some (.string (Fr.prV x3 (d k).2.1 x5).1)) ∧ Below W.heap.size W w' from by
    obtain ⟨F1, O1, P1, R1, o1, _⟩ := hb
    have hl : (S ++ [((x4, x2, (Fr.prV x3 (d k).2.1 x5).1) : Frm)]).length = S.length + 1 := by simp
    have := log_form o1.1 (by rw [hl]; omega)
    rw [hl] at this
    refine this.mono fun e w' ⟨A8, c8, e1, e2, e3⟩ => ?_
    obtain ⟨hxl, ⟨q1, q2⟩ | ⟨g8, o8, cap, q1, q2, q3, q4, q5, q6⟩⟩ := e2
    · omega
    · injection q1 with q1 q1b q1c
      subst q1
      have hat : ∀ j u, (frC (x4, x2, (Fr.prV x3 (d k).2.1 x5).1))[j]? = some u → w'.cell? ⟨g8, o8 + (S.length * 3 + j), none⟩ = some u := fun j u hu => q6 _ u (by
        rw [frL_app, frL_one, List.getElem?_append_right (by rw [frL_len]; omega), frL_len, Nat.add_sub_cancel_left]
        exact hu)
      exact ⟨g8, o8, c8, e1, q4, ⟨hat 0 _ rfl, hat 1 _ rfl, hat 2 _ rfl⟩, e3⟩))
  have HCE := Lib.hid (fun (W : World) (hb : BoN w F d n dd (some ⟨g, 0, none⟩) W odd (S ++ [(x4, x2, (Fr.prV x3 (d k).2.1 x5).1)]) (c + 1)) => (show W.cell? ⟨g, k * 5 + 1, none⟩ = some (.int .i64 (d k).2.1) from by
    obtain ⟨F1, O1, P1, R1, o1, _⟩ := hb
    obtain ⟨g', hA, _, sm, _⟩ := o1.cells hk
    injection hA with hA
    injection hA with hA
    subst hA
    exact sm))
  have HB0 := Lib.hid hb0
  generalize S ++ [(x4, x2, (Fr.prV x3 (d k).2.1 x5).1)] = S' at HT HL2 HCE
  generalize (Fr.prV x3 (d k).2.1 x5) = z at HT HPR he HL2
  generalize (d k).2.1 = mc at HT HPR HCE HL2
  obtain ⟨z1, z2⟩ := z
  simp only at HT HPR he HL2
  subst he
  have hq := eq_snt x4 x2 z1
  obtain ⟨m, hm⟩ : ∃ m, m = S.length := ⟨_, rfl⟩
  rw [← hm] at HL HL2 hsl
  have k1 : (k : Int) < (n : Int) := by omega
  have k2 : ¬ (k : Int) < 0 := by omega
  clear h h' ho hok hd0 hd1 hb0 hm hPo hPm hk hc hs hsc
  go_enter Try.func12, Try.ntmps12
  go_wp2_with (first
    | (go_at_call 21; have HQ := HL2.out _ B3.out; refine HQ.mono ?_; clear HQ; rintro e w4 ⟨g8, o8, c8, rfl, l8, n8, b4⟩; have B4 := Lib.hid (B3.out.upto b4); have R4 := Lib.hid (R3.out.below b4 R3.out.lt); have L8 := Lib.hid l8; have N8 := Lib.hid n8; clear b4 l8 n8)
    | (go_at_call 20; have HQ := HT.out _ B2.out; refine HQ.mono ?_; clear HQ; rintro e w3 ⟨rfl, b3, s3⟩; have B3 := Lib.hid b3; have R3 : Hid (Blk w3 w.heap.size 34 #[.int .i64 x1, .int .i64 x2, .int .i64 x3, .int .i64 x4, .string x5]) := Lib.hid ((s3 w.heap.size (Nat.le_refl _) R2.out.lt).trans R2.out); clear b3 s3)
    | (go_at_call 21; have HQ := HL.out _ HB0.out; refine HQ.mono ?_; clear HQ; rintro e w2 ⟨A2, c2, rfl, _, b2⟩; have B2 := Lib.hid (HB0.out.trans (b2.mono HB0.out.size)); have q := (Blk.new w 34 #[.int .i64 x1, .int .i64 x2, .int .i64 x3, .int .i64 x4, .string x5]).below b2 (by simp); have R2 := Lib.hid q; have q1 := q.cell 1; have q2 := q.cell 2; have q3 := q.cell 3; have q4 := q.cell 4; simp at q1 q2 q3 q4; clear b2 q)
    | (go_at_call 15; (with_reducible refine HO.out.mono ?_); rintro e w1 ⟨rfl, rfl⟩))
  have s2 : w4.cell? ⟨w.heap.size, 2, none⟩ = some (.int .i64 x3) := R4.out.cell 2
  have s4 : w4.cell? ⟨w.heap.size, 4, none⟩ = some (.string x5) := R4.out.cell 4
  have sm := HCE.out _ B4.out
  have HSX : Hid (∀ W, Below w4.heap.size w4 W → W.cell? ⟨w.heap.size, 2, none⟩ = some (.int .i64 x3) ∧ W.cell? ⟨w.heap.size, 4, none⟩ = some (.string x5) ∧ W.cell? ⟨g, k * 5 + 1, none⟩ = some (.int .i64 mc)) := Lib.hid fun W hW => by
    have q := R4.out.below hW R4.out.lt
    exact ⟨q.cell 2, q.cell 4, HCE.out _ (B4.out.upto hW)⟩
  go_region_held3 (fun w' => w'.cell? ⟨w.heap.size, 2, none⟩ = some (.int .i64 x3) ∧ w'.cell? ⟨w.heap.size, 4, none⟩ = some (.string x5) ∧ w'.cell? ⟨g, k * 5 + 1, none⟩ = some (.int .i64 mc))
    (first | exact ⟨s2, s4, sm⟩ | exact HSX.out _ E5.out | go_keep)
    (first | (go_at_call 26; (with_reducible refine (HPR.out _).mono ?_); rintro e w5 ⟨rfl, b5⟩; have E5 : Hid (Below w4.heap.size w4 w5) := Lib.hid ((below_drewN (Below.refl _ _) 1).trans b5); clear b5))
  all_goals
    have q5 := R4.out.below E5.out R4.out.lt
    have v1 : w5.cell? ⟨w.heap.size, 1, none⟩ = some (.int .i64 x2) := q5.cell 1
    have v3 : w5.cell? ⟨w.heap.size, 3, none⟩ = some (.int .i64 x4) := q5.cell 3
    have v5 : w5.cell? ⟨g8, o8 + m * 3, none⟩ = some (.int .i64 x4) := (E5.out.cell (p := ⟨g8, o8 + m * 3, none⟩) L8.out).trans N8.out.1
    have v6 : w5.cell? ⟨g8, o8 + m * 3 + 1, none⟩ = some (.int .i64 x2) := (E5.out.cell (p := ⟨g8, o8 + m * 3 + 1, none⟩) L8.out).trans N8.out.2.1
    have v7 : w5.cell? ⟨g8, o8 + m * 3 + 2, none⟩ = some (.string z1) := (E5.out.cell (p := ⟨g8, o8 + m * 3 + 2, none⟩) L8.out).trans N8.out.2.2
    have i1 : (m : Int) < ((m + 1 : Nat) : Int) := by omega
    have i2 : (m : Int) < (m : Int) + 1 := by omega
    have i3 : IntKind.i64.wrap ((m : Int) + 1) = (m : Int) + 1 := by rw [IntKind.wrap_i64]; omega
    clear q5 q1 q2 q3 q4 s2 s4 sm
    go_wp2
    go_quiet (fail)
    go_wp2
    go_ret
    exact ⟨by simp, S', B4.out.upto (below_drewN E5.out _)⟩
end
end Go.Proofs.Ytjhihccjhnlghaa
