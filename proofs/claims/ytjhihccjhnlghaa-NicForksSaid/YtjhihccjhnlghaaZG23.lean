import Derived.Test.YtjhihccjhnlghaaZG22
set_option linter.all false
/- A frame is sent by a device, as1 the document says. -/
namespace Go.Proofs.Ytjhihccjhnlghaa
open Go.RowKit Go.Lib
set_option linter.unusedVariables false
attribute [-go_sem] Go.run_eql_struct Go.run_neq_struct

theorem eq_snt (a b : Int) (s : ByteArray) (w : World) : (binOp BinOp.eql 57 (.agg #[.int .i64 a, .int .i64 b, .string s]) (.agg #[.int .i64 a, .int .i64 b, .string s])).run Try.prog w = .ok (.bool true) w := by
  rw [run_eql_struct, run_equalIn_agg w 9999 _ _ _ (by kernel_rfl) (by kernel_rfl)]
  have hf : (Try.prog.fieldsOf 57).toList.map (fun f => (f.name, f.type, f.offset)) = [("Tick", 3, 0), ("Owner", 3, 1), ("Data", 9, 2)] := by kernel_rfl
  generalize (Try.prog.fieldsOf 57).toList = fs at hf
  have hlen := congrArg List.length hf
  simp only [List.length_map, List.length_cons, List.length_nil] at hlen
  obtain ⟨f0, f1, f2, rfl⟩ : ∃ f0 f1 f2, fs = [f0, f1, f2] := by
    rcases fs with _ | ⟨f0, _ | ⟨f1, _ | ⟨f2, _ | ⟨f3, r⟩⟩⟩⟩
    · simp at hlen
    · simp at hlen
    · simp at hlen
    · exact ⟨f0, f1, f2, rfl⟩
    · simp at hlen
  simp only [List.map_cons, List.map_nil, List.cons.injEq, Prod.mk.injEq, and_true] at hf
  obtain ⟨⟨a1, a2, a3⟩, ⟨b1, b2, b3⟩, ⟨c1, c2, c3⟩⟩ := hf
  simp [Op.eqFields, a1, a2, a3, b1, b2, b3, c1, c2, c3, part, run_equalIn_int _ _ _ _ _ _ _ Try.underlying3, go_sem]
  done
section
variable {w w' : World} {F : FF} {d : Nat → I3} {n dd : Nat} {A : Option Addr} {odd : Int} {S : List Frm} {c : Nat} {O : Nat → Prop} {P : Nat → Sp} {R : Nat → Rp}
theorem log_form {W : World} (h : Dv W dd O odd S n P) (hn : S.length ≤ 1000) : Calls Try.prog 21 #[.pointer (some ⟨dd, 0, none⟩)] W fun e w' => ∃ A c, e = .returned (.slice A S.length c) ∧ RowZ 3 w' (.slice A S.length c) S.length (frL S) ∧ Below W.heap.size W w' :=
  (dv_log h hn).mono fun e w' ⟨v', e1, e2, _, e4⟩ => by
    obtain ⟨A, c, rfl⟩ := e2.form
    exact ⟨A, c, e1, e2, e4⟩
/-- Nobody has the owner's number. -/
theorem step_send_none (h : Bo w F d n dd A odd S c O P R) (cl : Nat) (x : Ded) (hd0 : x.1 ≠ 0) (hd1 : x.1 ≠ 1) (hfo : fitI x.2.1) (hn : n ≤ 1000) (hc : c ≤ 1000) (ho : ownI R n x.2.1 = -1) :
    Calls Try.prog 12 #[.pointer (some ⟨dd, 0, none⟩), .slice A n cl, ddv x] w (StepV w F d n dd A odd (c + 1)) := by
  obtain ⟨x1, x2, x3, x4, x5⟩ := x
  simp only at hd0 hd1 ho hfo
  have h0 : (x1 == 0) = false := by simpa using hd0
  have h1 : (x1 == 1) = false := by simpa using hd1
  have hout := ownI_out ho
  have hsl : S.length ≤ 1000 := by have := h.2.2.2.2.2.1; omega
  have hb0 : Below w.heap.size w (w.alloc (.cells #[.int .i64 x1, .int .i64 x2, .int .i64 x3, .int .i64 x4, .string x5] 34)) := (Below.refl _ _).alloc (Nat.le_refl _) _
  have h' := h.below hb0
  have HO := Lib.hid (rowner_any A n cl R x2 _ h'.2.1.ports hn)
  rw [ho] at HO
  have HT := Lib.hid (fun (W : World) (hb : Below w.heap.size w W) => dv_send_none (h.below hb).1 x4 x3 x5 hfo (fun i hi e => hout i hi (by rw [← e]; exact (h.2.2.1 i hi).2.1)))
  have HL := Lib.hid (fun (W : World) (hb : Below w.heap.size w W) => log_form (h.below hb).1 hsl)
  have HH := Lib.hid h
  have HB0 := Lib.hid hb0
  obtain ⟨m, hm⟩ : ∃ m, m = S.length := ⟨_, rfl⟩
  rw [← hm] at HL
  clear h h' ho hout hd0 hd1 hb0 hsl hm
  go_enter Try.func12, Try.ntmps12
  go_wp2_with (first
    | (go_at_call 21; have HQ := HL.out _ B3.out; refine HQ.mono ?_; clear HQ; rintro e w4 ⟨A4, c4, rfl, _, b4⟩; have B4 := Lib.hid (B3.out.trans (b4.mono B3.out.size)); clear b4)
    | (go_at_call 20; have HQ := HT.out _ B2.out; refine HQ.mono ?_; clear HQ; rintro e w3 ⟨rfl, b3⟩; have B3 := Lib.hid (B2.out.trans (b3.mono B2.out.size)); clear b3)
    | (go_at_call 21; have HQ := HL.out _ HB0.out; refine HQ.mono ?_; clear HQ; rintro e w2 ⟨A2, c2, rfl, _, b2⟩; have B2 := Lib.hid (HB0.out.trans (b2.mono HB0.out.size)); have q := (Blk.new w 34 #[.int .i64 x1, .int .i64 x2, .int .i64 x3, .int .i64 x4, .string x5]).below b2 (by simp); have q1 := q.cell 1; have q2 := q.cell 2; have q3 := q.cell 3; have q4 := q.cell 4; simp at q1 q2 q3 q4; clear b2 q)
    | (go_at_call 15; (with_reducible refine HO.out.mono ?_); rintro e w1 ⟨rfl, rfl⟩))
  go_ret
  exact ⟨by simp, S, HH.out.same B4.out (Nat.le_succ _)⟩
set_option maxRecDepth 20000 in
set_option maxHeartbeats 3200000 in
/-- It can't be sent. -/
theorem step_send_bad {g : Nat} (h : Bo w F d n dd (some ⟨g, 0, none⟩) odd S c O P R) (cl : Nat) (x : Ded) (hd0 : x.1 ≠ 0) (hd1 : x.1 ≠ 1) (hn : n ≤ 1000) (hc : c ≤ 900) {k : Nat} (hk : k < n) (ho : ownI R n x.2.1 = k) (hok : (R k).1 = x.2.1) (hs : x.2.2.2.2.size ≤ 200) (he : (Fr.prV x.2.2.1 (d k).2.1 x.2.2.2.2).2 ≠ 0) :
    Calls Try.prog 12 #[.pointer (some ⟨dd, 0, none⟩), .slice (some ⟨g, 0, none⟩) n cl, ddv x] w (StepV w F d n dd (some ⟨g, 0, none⟩) odd (c + 1)) := by
  obtain ⟨x1, x2, x3, x4, x5⟩ := x
  simp only at hd0 hd1 ho hok hs he
  have h0 : (x1 == 0) = false := by simpa using hd0
  have h1 : (x1 == 1) = false := by simpa using hd1
  have hsl : S.length ≤ 1000 := by have := h.2.2.2.2.2.1; omega
  have hb0 : Below w.heap.size w (w.alloc (.cells #[.int .i64 x1, .int .i64 x2, .int .i64 x3, .int .i64 x4, .string x5] 34)) := (Below.refl _ _).alloc (Nat.le_refl _) _
  have h' := h.below hb0
  have hPo : (P k).1 = x2 := by rw [← (h.2.2.1 k hk).2.1]; exact hok
  have hPm : (P k).2.1 = (d k).2.1 := (h.2.2.2.1 k hk).2
  have HO := Lib.hid (rowner_any (some ⟨g, 0, none⟩) n cl R x2 _ h'.2.1.ports hn)
  rw [ho] at HO
  rw [← hPm] at he
  have HT := Lib.hid (fun (W : World) (hb : Below w.heap.size w W) => dv_send_bad (h.below hb).1 hk x4 x3 x5 hs he)
  rw [hPo, hPm] at HT
  have HPR := Lib.hid (fun (W : World) => rprint_any x3 (d k).2.1 x5 W hs)
  rw [hPm] at he
  have HL := Lib.hid (fun (W : World) (hb : Below w.heap.size w W) => log_form (h.below hb).1 hsl)
  have HCE := Lib.hid (fun (W : World) (hb : Below w.heap.size w W) => (h.below hb).cells hk)
  have HH := Lib.hid h
  have HB0 := Lib.hid hb0
  obtain ⟨m, hm⟩ : ∃ m, m = S.length := ⟨_, rfl⟩
  rw [← hm] at HL
  generalize (Fr.prV x3 (d k).2.1 x5) = z at HT HPR he
  generalize (d k).2.1 = mc at HT HPR HCE
  obtain ⟨z1, z2⟩ := z
  simp only at HT HPR he
  have he' : (z2 != 0) = true := by simpa using he
  have k1 : (k : Int) < (n : Int) := by omega
  have k2 : ¬ (k : Int) < 0 := by omega
  clear h h' ho hok hd0 hd1 hb0 hsl hm hPo hPm he hk hc hs
  go_enter Try.func12, Try.ntmps12
  go_wp2_with (first
    | (go_at_call 21; have HQ := HL.out _ B3.out; refine HQ.mono ?_; clear HQ; rintro e w4 ⟨A4, c4, rfl, _, b4⟩; have B4 := Lib.hid (B3.out.trans (b4.mono B3.out.size)); have R4 := Lib.hid (R3.out.below b4 R3.out.lt); clear b4)
    | (go_at_call 20; have HQ := HT.out _ B2.out; refine HQ.mono ?_; clear HQ; rintro e w3 ⟨rfl, b3⟩; have B3 := Lib.hid (B2.out.trans (b3.mono B2.out.size)); have R3 := Lib.hid (R2.out.below b3 R2.out.lt); clear b3)
    | (go_at_call 21; have HQ := HL.out _ HB0.out; refine HQ.mono ?_; clear HQ; rintro e w2 ⟨A2, c2, rfl, _, b2⟩; have B2 := Lib.hid (HB0.out.trans (b2.mono HB0.out.size)); have q := (Blk.new w 34 #[.int .i64 x1, .int .i64 x2, .int .i64 x3, .int .i64 x4, .string x5]).below b2 (by simp); have R2 := Lib.hid q; have q1 := q.cell 1; have q2 := q.cell 2; have q3 := q.cell 3; have q4 := q.cell 4; simp at q1 q2 q3 q4; clear b2 q)
    | (go_at_call 15; (with_reducible refine HO.out.mono ?_); rintro e w1 ⟨rfl, rfl⟩))
  have s2 : w4.cell? ⟨w.heap.size, 2, none⟩ = some (.int .i64 x3) := R4.out.cell 2
  have s4 : w4.cell? ⟨w.heap.size, 4, none⟩ = some (.string x5) := R4.out.cell 4
  obtain ⟨g', hA, _, sm, _⟩ := HCE.out _ B4.out
  injection hA with hA
  injection hA with hA
  subst hA
  have HSX : Hid (∀ W, Below w4.heap.size w4 W → W.cell? ⟨w.heap.size, 2, none⟩ = some (.int .i64 x3) ∧ W.cell? ⟨w.heap.size, 4, none⟩ = some (.string x5) ∧ W.cell? ⟨g, k * 5 + 1, none⟩ = some (.int .i64 mc)) := Lib.hid fun W hW => by
    have q := R4.out.below hW R4.out.lt
    obtain ⟨g', hA, _, sm, _⟩ := HCE.out _ (B4.out.trans (hW.mono B4.out.size))
    injection hA with hA
    injection hA with hA
    subst hA
    exact ⟨q.cell 2, q.cell 4, sm⟩
  go_region_held3 (fun w' => w'.cell? ⟨w.heap.size, 2, none⟩ = some (.int .i64 x3) ∧ w'.cell? ⟨w.heap.size, 4, none⟩ = some (.string x5) ∧ w'.cell? ⟨g, k * 5 + 1, none⟩ = some (.int .i64 mc))
    (first | exact ⟨s2, s4, sm⟩ | exact HSX.out _ E5.out | go_keep)
    (first | (go_at_call 26; (with_reducible refine (HPR.out _).mono ?_); rintro e w5 ⟨rfl, b5⟩; have E5 : Hid (Below w4.heap.size w4 w5) := Lib.hid ((below_drewN (Below.refl _ _) 1).trans b5); clear b5))
  all_goals
    go_wp2
    go_ret
    exact ⟨by simp, S, HH.out.same (B4.out.trans (E5.out.mono B4.out.size)) (Nat.le_succ _)⟩
end
end Go.Proofs.Ytjhihccjhnlghaa

/- A frame is sent by a device and put down, as1 the document says. -/
namespace Go.Proofs.Ytjhihccjhnlghaa
open Go.RowKit Go.Lib
set_option linter.unusedVariables false
attribute [-go_sem] Go.run_eql_struct Go.run_neq_struct
section
variable {w w' : World} {F : FF} {d : Nat → I3} {n dd : Nat} {A : Option Addr} {odd : Int} {S : List Frm} {c : Nat} {O : Nat → Prop} {P : Nat → Sp} {R : Nat → Rp}
set_option maxRecDepth 20000 in
set_option maxHeartbeats 3200000 in
/-- It is sent. -/
theorem step_send_ok {g : Nat} (h : Bo w F d n dd (some ⟨g, 0, none⟩) odd S c O P R) (cl : Nat) (x : Ded) (hd0 : x.1 ≠ 0) (hd1 : x.1 ≠ 1) (hn : n ≤ 1000) (hc : c ≤ 900) {k : Nat} (hk : k < n) (ho : ownI R n x.2.1 = k) (hok : (R k).1 = x.2.1) (hs : x.2.2.2.2.size ≤ 200) (he : (Fr.prV x.2.2.1 (d k).2.1 x.2.2.2.2).2 = 0) :
    Calls Try.prog 12 #[.pointer (some ⟨dd, 0, none⟩), .slice (some ⟨g, 0, none⟩) n cl, ddv x] w (StepV w F d n dd (some ⟨g, 0, none⟩) odd (c + 1)) := by
  obtain ⟨x1, x2, x3, x4, x5⟩ := x
  simp only at hd0 hd1 ho hok hs he
  have h0 : (x1 == 0) = false := by simpa using hd0
  have h1 : (x1 == 1) = false := by simpa using hd1
  have hsc : S.length ≤ c := h.2.2.2.2.2.1
  have hsl : S.length ≤ 1000 := by omega
  have hb0 : Below w.heap.size w (w.alloc (.cells #[.int .i64 x1, .int .i64 x2, .int .i64 x3, .int .i64 x4, .string x5] 34)) := (Below.refl _ _).alloc (Nat.le_refl _) _
  have h' := h.below hb0
  have hPo : (P k).1 = x2 := by rw [← (h.2.2.1 k hk).2.1]; exact hok
  have hPm : (P k).2.1 = (d k).2.1 := (h.2.2.2.1 k hk).2
  have HO := Lib.hid (rowner_any (some ⟨g, 0, none⟩) n cl R x2 _ h'.2.1.ports hn)
  rw [ho] at HO
  have HPR := Lib.hid (fun (W : World) => rprint_any x3 (d k).2.1 x5 W hs)
  rw [← hPm] at he
  have HT : Hid (∀ (W : World), Below w.heap.size w W → Calls Try.prog 20 #[.pointer (some ⟨dd, 0, none⟩), .int .i64 x4, .int .i64 x2, .int .i64 x3, .string x5] W fun e w' => e = .returned (.int .i64 0) ∧ BoN w F d n dd (some ⟨g, 0, none⟩) w' odd (S ++ [(x4, x2, (Fr.prV x3 (d k).2.1 x5).1)]) (c + 1) ∧ Since w W w') := Lib.hid fun W hb => by
    have hW := h.below hb
    have := dv_send hW.1 hk x4 x3 x5 hs hsl he
    rw [hPo, hPm] at this
    refine this.mono fun e w' ⟨e1, e2⟩ => ⟨e1, (hW.dev e2 (h.2.2.2.2.1.mono (Nat.le_succ _)) (by simp; omega)).from hb, fun i hi hi' => ?_⟩
    obtain ⟨O', k1, k2, k3⟩ := e2
    exact k2.2.2.2.2 i hi' fun hO => by have := h.1.lt i hO; omega
  rw [hPm] at he
  have HL := Lib.hid (fun (W : World) (hb : Below w.heap.size w W) => log_form (h.below hb).1 hsl)
  have HL2 := Lib.hid (fun (W : World) (hb : BoN w F d n dd (some ⟨g, 0, none⟩) W odd (S ++ [(x4, x2, (Fr.prV x3 (d k).2.1 x5).1)]) (c + 1)) => (show Calls Try.prog 21 #[.pointer (some ⟨dd, 0, none⟩)] W fun e w' => ∃ g8 o8 c8, e = .returned (.slice (some ⟨g8, o8, none⟩) (S.length + 1) c8) ∧ g8 < w'.heap.size ∧ (w'.cell? ⟨g8, o8 + S.length * 3, none⟩ = some (.int .i64 x4) ∧ w'.cell? ⟨g8, o8 + S.length * 3 + 1, none⟩ = some (.int .i64 x2) ∧ w'.cell? ⟨g8, o8 + S.length * 3 + 2, none⟩ = some (.string (Fr.prV x3 (d k).2.1 x5).1)) ∧ Below W.heap.size W w' from by
    obtain ⟨F1, O1, P1, R1, o1, _⟩ := hb
    have hl : (S ++ [((x4, x2, (Fr.prV x3 (d k).2.1 x5).1) : Frm)]).length = S.length + 1 := by simp
    have := log_form o1.1 (by rw [hl]; omega)
    rw [hl] at this
    refine this.mono fun e w' ⟨A8, c8, e1, e2, e3⟩ => ?_
    obtain ⟨hxl, ⟨q1, q2⟩ | ⟨g8, o8, cap, q1, q2, q3, q4, q5, q6⟩⟩ := e2
    · omega
    · injection q1 with q1 q1b q1c
      subst q1
      have hat : ∀ j u, (frC (x4, x2, (Fr.prV x3 (d k).2.1 x5).1))[j]? = some u → w'.cell? ⟨g8, o8 + (S.length * 3 + j), none⟩ = some u := fun j u hu => q6 _ u (by
        rw [frL_app, frL_one, List.getElem?_append_right (by rw [frL_len]; omega), frL_len, Nat.add_sub_cancel_left]
        exact hu)
      exact ⟨g8, o8, c8, e1, q4, ⟨hat 0 _ rfl, hat 1 _ rfl, hat 2 _ rfl⟩, e3⟩))
  have HCE := Lib.hid (fun (W : World) (hb : BoN w F d n dd (some ⟨g, 0, none⟩) W odd (S ++ [(x4, x2, (Fr.prV x3 (d k).2.1 x5).1)]) (c + 1)) => (show W.cell? ⟨g, k * 5 + 1, none⟩ = some (.int .i64 (d k).2.1) from by
    obtain ⟨F1, O1, P1, R1, o1, _⟩ := hb
    obtain ⟨g', hA, _, sm, _⟩ := o1.cells hk
    injection hA with hA
    injection hA with hA
    subst hA
    exact sm))
  have HB0 := Lib.hid hb0
  generalize S ++ [(x4, x2, (Fr.prV x3 (d k).2.1 x5).1)] = S' at HT HL2 HCE
  generalize (Fr.prV x3 (d k).2.1 x5) = z at HT HPR he HL2
  generalize (d k).2.1 = mc at HT HPR HCE HL2
  obtain ⟨z1, z2⟩ := z
  simp only at HT HPR he HL2
  subst he
  have hq := eq_snt x4 x2 z1
  obtain ⟨m, hm⟩ : ∃ m, m = S.length := ⟨_, rfl⟩
  rw [← hm] at HL HL2 hsl
  have k1 : (k : Int) < (n : Int) := by omega
  have k2 : ¬ (k : Int) < 0 := by omega
  clear h h' ho hok hd0 hd1 hb0 hm hPo hPm hk hc hs hsc
  go_enter Try.func12, Try.ntmps12
  go_wp2_with (first
    | (go_at_call 21; have HQ := HL2.out _ B3.out; refine HQ.mono ?_; clear HQ; rintro e w4 ⟨g8, o8, c8, rfl, l8, n8, b4⟩; have B4 := Lib.hid (B3.out.upto b4); have R4 := Lib.hid (R3.out.below b4 R3.out.lt); have L8 := Lib.hid l8; have N8 := Lib.hid n8; clear b4 l8 n8)
    | (go_at_call 20; have HQ := HT.out _ B2.out; refine HQ.mono ?_; clear HQ; rintro e w3 ⟨rfl, b3, s3⟩; have B3 := Lib.hid b3; have R3 : Hid (Blk w3 w.heap.size 34 #[.int .i64 x1, .int .i64 x2, .int .i64 x3, .int .i64 x4, .string x5]) := Lib.hid ((s3 w.heap.size (Nat.le_refl _) R2.out.lt).trans R2.out); clear b3 s3)
    | (go_at_call 21; have HQ := HL.out _ HB0.out; refine HQ.mono ?_; clear HQ; rintro e w2 ⟨A2, c2, rfl, _, b2⟩; have B2 := Lib.hid (HB0.out.trans (b2.mono HB0.out.size)); have q := (Blk.new w 34 #[.int .i64 x1, .int .i64 x2, .int .i64 x3, .int .i64 x4, .string x5]).below b2 (by simp); have R2 := Lib.hid q; have q1 := q.cell 1; have q2 := q.cell 2; have q3 := q.cell 3; have q4 := q.cell 4; simp at q1 q2 q3 q4; clear b2 q)
    | (go_at_call 15; (with_reducible refine HO.out.mono ?_); rintro e w1 ⟨rfl, rfl⟩))
  have s2 : w4.cell? ⟨w.heap.size, 2, none⟩ = some (.int .i64 x3) := R4.out.cell 2
  have s4 : w4.cell? ⟨w.heap.size, 4, none⟩ = some (.string x5) := R4.out.cell 4
  have sm := HCE.out _ B4.out
  have HSX : Hid (∀ W, Below w4.heap.size w4 W → W.cell? ⟨w.heap.size, 2, none⟩ = some (.int .i64 x3) ∧ W.cell? ⟨w.heap.size, 4, none⟩ = some (.string x5) ∧ W.cell? ⟨g, k * 5 + 1, none⟩ = some (.int .i64 mc)) := Lib.hid fun W hW => by
    have q := R4.out.below hW R4.out.lt
    exact ⟨q.cell 2, q.cell 4, HCE.out _ (B4.out.upto hW)⟩
  go_region_held3 (fun w' => w'.cell? ⟨w.heap.size, 2, none⟩ = some (.int .i64 x3) ∧ w'.cell? ⟨w.heap.size, 4, none⟩ = some (.string x5) ∧ w'.cell? ⟨g, k * 5 + 1, none⟩ = some (.int .i64 mc))
    (first | exact ⟨s2, s4, sm⟩ | exact HSX.out _ E5.out | go_keep)
    (first | (go_at_call 26; (with_reducible refine (HPR.out _).mono ?_); rintro e w5 ⟨rfl, b5⟩; have E5 : Hid (Below w4.heap.size w4 w5) := Lib.hid ((below_drewN (Below.refl _ _) 1).trans b5); clear b5))
  all_goals
    have q5 := R4.out.below E5.out R4.out.lt
    have v1 : w5.cell? ⟨w.heap.size, 1, none⟩ = some (.int .i64 x2) := q5.cell 1
    have v3 : w5.cell? ⟨w.heap.size, 3, none⟩ = some (.int .i64 x4) := q5.cell 3
    have v5 : w5.cell? ⟨g8, o8 + m * 3, none⟩ = some (.int .i64 x4) := (E5.out.cell (p := ⟨g8, o8 + m * 3, none⟩) L8.out).trans N8.out.1
    have v6 : w5.cell? ⟨g8, o8 + m * 3 + 1, none⟩ = some (.int .i64 x2) := (E5.out.cell (p := ⟨g8, o8 + m * 3 + 1, none⟩) L8.out).trans N8.out.2.1
    have v7 : w5.cell? ⟨g8, o8 + m * 3 + 2, none⟩ = some (.string z1) := (E5.out.cell (p := ⟨g8, o8 + m * 3 + 2, none⟩) L8.out).trans N8.out.2.2
    have i1 : (m : Int) < ((m + 1 : Nat) : Int) := by omega
    have i2 : (m : Int) < (m : Int) + 1 := by omega
    have i3 : IntKind.i64.wrap ((m : Int) + 1) = (m : Int) + 1 := by rw [IntKind.wrap_i64]; omega
    clear q5 q1 q2 q3 q4 s2 s4 sm
    go_wp2
    go_quiet (fail)
    go_wp2
    go_ret
    exact ⟨by simp, S', B4.out.upto (below_drewN E5.out _)⟩
end
end Go.Proofs.Ytjhihccjhnlghaa

/- A deed on a device and on the document's ports; what all ports tell. -/
namespace Go.Proofs.Ytjhihccjhnlghaa
open Go.RowKit Go.Lib
set_option linter.unusedVariables false

section
variable {w w' : World} {F : FF} {d : Nat → I3} {n dd : Nat} {A : Option Addr} {odd : Int} {S : List Frm} {c : Nat} {O : Nat → Prop} {P : Nat → Sp} {R : Nat → Rp}
/-- How often nobody's bytes came, behind a deed. -/
def stO (d : Nat → I3) (n : Nat) (x : Ded) (odd : Int) : Int := if x.1 = 0 then comeO (jfor (fun i => (d i).2.1) n x.2.2.2.2) odd else odd
theorem Bo.addr (h : Bo w F d n dd A odd S c O P R) (hp : 0 < n) : ∃ g, A = some ⟨g, 0, none⟩ := by
  obtain ⟨g, cs, e, _⟩ := h.2.1 hp
  exact ⟨g, e⟩
theorem lcome_any (h : Bo w F d n dd A odd S c O P R) (cl : Nat) (s : ByteArray) (hs : s.size ≤ 200) (hc : c ≤ 900) (hn : n ≤ 1000) :
    Calls Try.prog 28 #[.pointer (some ⟨dd, 0, none⟩), .slice A n cl, .string s] w fun e w' => e = .returned (.bool true) ∧ BoN w F d n dd A w' (comeO (jfor (fun i => (d i).2.1) n s) odd) S (c + 1) := by
  cases hj : jfor (fun i => (d i).2.1) n s with
  | none => exact lcome_odd h cl s hs (by omega) hn hj
  | some k =>
    obtain ⟨_, hk, _⟩ := jfor_some hj
    obtain ⟨g, rfl⟩ := h.addr (by omega)
    exact lcome_hit h cl s hs (by omega) hn hj
theorem step_come (h : Bo w F d n dd A odd S c O P R) (cl : Nat) (x : Ded) (hd : x.1 = 0) (hs : x.2.2.2.2.size ≤ 200) (hc : c ≤ 900) (hn : n ≤ 1000) :
    Calls Try.prog 12 #[.pointer (some ⟨dd, 0, none⟩), .slice A n cl, ddv x] w (StepV w F d n dd A (comeO (jfor (fun i => (d i).2.1) n x.2.2.2.2) odd) (c + 1)) := by
  obtain ⟨x1, x2, x3, x4, x5⟩ := x
  simp only at hd hs ⊢
  subst hd
  have hb0 : Below w.heap.size w (w.alloc (.cells #[.int .i64 0, .int .i64 x2, .int .i64 x3, .int .i64 x4, .string x5] 34)) := (Below.refl _ _).alloc (Nat.le_refl _) _
  have HC := Lib.hid (show Calls Try.prog 28 #[.pointer (some ⟨dd, 0, none⟩), .slice A n cl, .string x5] (w.alloc (.cells #[.int .i64 0, .int .i64 x2, .int .i64 x3, .int .i64 x4, .string x5] 34)) fun e w' => e = .returned (.bool true) ∧ BoN w F d n dd A w' (comeO (jfor (fun i => (d i).2.1) n x5) odd) S (c + 1) from
    (lcome_any (h.below hb0) cl x5 hs hc hn).mono fun e w' ⟨e1, e2⟩ => ⟨e1, e2.from hb0⟩)
  clear h hb0
  go_enter Try.func12, Try.ntmps12
  go_wp2_with (go_at_call 28; (with_reducible refine HC.out.mono ?_); rintro e w1 ⟨rfl, b1⟩; have B1 := Lib.hid b1; clear b1)
  go_ret
  exact ⟨rfl, S, B1.out⟩
theorem deed_any (h : Bo w F d n dd A odd S c O P R) (cl : Nat) (x : Ded) (hfo : fitI x.2.1) (hs : x.2.2.2.2.size ≤ 200) (hc : c ≤ 900) (hn : n ≤ 1000) :
    Calls Try.prog 12 #[.pointer (some ⟨dd, 0, none⟩), .slice A n cl, ddv x] w (StepV w F d n dd A (stO d n x odd) (c + 1)) := by
  unfold stO
  by_cases h0 : x.1 = 0
  · rw [if_pos h0]
    exact step_come h cl x h0 hs hc hn
  · rw [if_neg h0]
    rcases ownI_cases R n x.2.1 with ⟨k, hk, hko, ho⟩ | hko
    · obtain ⟨g, rfl⟩ := h.addr (by omega)
      by_cases h1 : x.1 = 1
      · cases he : (P k).2.2.2.1 with
        | nil => exact step_take_empty h cl x h1 hn hk hko ho he
        | cons f l => exact step_take_in h cl x h1 hn (by omega) hk hko ho f l he
      · by_cases he : (Fr.prV x.2.2.1 (d k).2.1 x.2.2.2.2).2 = 0
        · exact step_send_ok h cl x h0 h1 hn hc hk hko ho hs he
        · exact step_send_bad h cl x h0 h1 hn hc hk hko ho hs he
    · by_cases h1 : x.1 = 1
      · exact step_take_none h cl x h1 hfo hn hko
      · exact step_send_none h cl x h0 h1 hfo hn (by omega) hko

set_option maxRecDepth 20000 in
set_option maxHeartbeats 3200000 in
theorem told_any (h : Bo w F d n dd A odd S c O P R) (cl : Nat) (hn : n ≤ 1000) :
    Calls Try.prog 13 #[.pointer (some ⟨dd, 0, none⟩), .slice A n cl] w fun e w' => e = .returned (.bool true) ∧ Below w.heap.size w w' := by
  have HW := Lib.hid (fun (i : Nat) (hi : i < n) (W : World) (hb : Below w.heap.size w W) => (show Calls Try.prog 17 #[.pointer (some ⟨dd, 0, none⟩), .int .i64 (d i).1] W fun e w' => e = .returned (.int .i64 (P i).2.2.2.1.length) ∧ Below W.heap.size W w' from by
    have := dv_waits (h.below hb).1 hi
    rwa [(h.2.2.2.1 i hi).1] at this))
  have HD := Lib.hid (fun (i : Nat) (hi : i < n) (W : World) (hb : Below w.heap.size w W) => (show Calls Try.prog 18 #[.pointer (some ⟨dd, 0, none⟩), .int .i64 (d i).1] W fun e w' => e = .returned (.int .i64 (P i).2.2.2.2) ∧ Below W.heap.size W w' from by
    have := dv_drops (h.below hb).1 hi
    rwa [(h.2.2.2.1 i hi).1] at this))
  have HCE := Lib.hid (fun (i : Nat) (hi : i < n) (W : World) (hb : Below w.heap.size w W) => (show ∃ g Av cv, A = some ⟨g, 0, none⟩ ∧ W.cell? ⟨g, i * 5, none⟩ = some (.int .i64 (d i).1) ∧ W.cell? ⟨g, i * 5 + 3, none⟩ = some (.slice Av (P i).2.2.2.1.length cv) ∧ W.cell? ⟨g, i * 5 + 4, none⟩ = some (.int .i64 (P i).2.2.2.2) from by
    obtain ⟨g, hA, q0, _, _, q3, q4, _⟩ := (h.below hb).cells hi
    obtain ⟨Av, cv, hv⟩ := (h.2.2.1 i hi).1.form
    rw [hv] at q3
    exact ⟨g, Av, cv, hA, q0, q3, q4⟩))
  clear h
  go_enter Try.func13, Try.ntmps13
  go_wp2
  go_loopw [5] (fun x wr => ∃ i : Nat, x = .int .i64 i ∧ i ≤ n ∧ Hid (Below w.heap.size w wr)) (fun x _ => n - (intOf x).toNat)
  case atStart => exact ⟨0, rfl, by omega, Lib.hid (Below.refl _ _)⟩
  case round =>
    obtain ⟨i, rfl, hi, HB⟩ := hrel
    by_cases hin : i < n
    · obtain ⟨g, Av, cv, rfl, c0, c3, c4⟩ := HCE.out i hin wr HB.out
      have HWI := Lib.hid (HW.out i hin)
      have HDI := Lib.hid (HD.out i hin)
      have HCI := Lib.hid (show ∀ (W : World), Below wr.heap.size wr W → W.cell? ⟨g, i * 5, none⟩ = some (.int .i64 (d i).1) ∧ W.cell? ⟨g, i * 5 + 3, none⟩ = some (.slice Av (P i).2.2.2.1.length cv) ∧ W.cell? ⟨g, i * 5 + 4, none⟩ = some (.int .i64 (P i).2.2.2.2) from fun W hW => by
        have hg : g < wr.heap.size := by
          refine Classical.byContradiction fun hne => ?_
          rw [World.cell?, Array.getElem?_eq_none (by simpa using hne)] at c0
          cases c0
        exact ⟨(hW.cell (p := ⟨g, i * 5, none⟩) hg).trans c0, (hW.cell (p := ⟨g, i * 5 + 3, none⟩) hg).trans c3, (hW.cell (p := ⟨g, i * 5 + 4, none⟩) hg).trans c4⟩)
      generalize (d i).1 = ow at c0 HWI HDI HCI
      generalize (P i).2.2.2.1.length = ln at c3 HWI HCI
      generalize (P i).2.2.2.2 = dp at c4 HDI HCI
      have i1 : (i : Int) < (n : Int) := by omega
      go_wp2
      go_region_held3 (fun w' => w'.cell? ⟨g, i * 5, none⟩ = some (.int .i64 ow) ∧ w'.cell? ⟨g, i * 5 + 3, none⟩ = some (.slice Av ln cv) ∧ w'.cell? ⟨g, i * 5 + 4, none⟩ = some (.int .i64 dp))
        (first | exact ⟨c0, c3, c4⟩ | exact HCI.out _ E6.out | exact HCI.out _ E5.out | go_keep)
        (first
          | (go_at_call 18; have HQ := HDI.out _ (HB.out.trans (E5.out.mono HB.out.size)); refine HQ.mono ?_; clear HQ; rintro e w6 ⟨rfl, b6⟩; have E6 : Hid (Below wr.heap.size wr w6) := Lib.hid (E5.out.trans (b6.mono E5.out.size)); clear b6)
          | (go_at_call 17; have HQ := HWI.out _ (below_drewN HB.out 1); refine HQ.mono ?_; clear HQ; rintro e w5 ⟨rfl, b5⟩; have E5 : Hid (Below wr.heap.size wr w5) := Lib.hid ((below_drewN (Below.refl _ _) 1).trans b5); clear b5))
      all_goals
        go_wp2
        go_roundw
        case rel => exact ⟨i + 1, by go_num, by omega, Lib.hid (HB.out.trans (E6.out.mono HB.out.size))⟩
        case measure => simp [intOf] <;> omega
    · have i1 : ¬ (i : Int) < (n : Int) := by omega
      go_wp2
      go_ret
      exact ⟨rfl, HB.out⟩
end
end Go.Proofs.Ytjhihccjhnlghaa
