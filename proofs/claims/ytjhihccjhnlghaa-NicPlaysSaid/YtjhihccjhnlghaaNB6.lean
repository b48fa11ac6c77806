/- A frame is sent by a device, as the document says. -/
import Derived.Test.YtjhihccjhnlghaaNB5
namespace Go.Proofs.Ytjhihccjhnlghaa
open Go.RowKit Go.Lib
set_option linter.unusedVariables false
attribute [-go_sem] Go.run_eql_struct Go.run_neq_struct

theorem eq_snt (a b : Int) (s : ByteArray) (w : World) : (binOp BinOp.eql 57 (.agg #[.int .i64 a, .int .i64 b, .string s]) (.agg #[.int .i64 a, .int .i64 b, .string s])).run Try.prog w = .ok (.bool true) w := by
  rw [run_eql_struct, run_equalIn_agg w 9999 _ _ _ (by kernel_rfl) (by kernel_rfl)]
  have hf : (Try.prog.fieldsOf 57).toList.map (fun f => (f.name, f.type, f.offset)) = [("Tick", 3, 0), ("Owner", 3, 1), ("Data", 9, 2)] := by kernel_rfl
  generalize (Try.prog.fieldsOf 57).toList = fs at hf
  have hlen := congrArg List.length hf
  simp only [List.length_map, List.length_cons, List.length_nil] at hlen
  obtain ⟨f0, f1, f2, rfl⟩ : ∃ f0 f1 f2, fs = [f0, f1, f2] := by
    rcases fs with _ | ⟨f0, _ | ⟨f1, _ | ⟨f2, _ | ⟨f3, r⟩⟩⟩⟩
    · simp at hlen
    · simp at hlen
    · simp at hlen
    · exact ⟨f0, f1, f2, rfl⟩
    · simp at hlen
  simp only [List.map_cons, List.map_nil, List.cons.injEq, Prod.mk.injEq, and_true] at hf
  obtain ⟨⟨a1, a2, a3⟩, ⟨b1, b2, b3⟩, ⟨c1, c2, c3⟩⟩ := hf
  simp [Op.eqFields, a1, a2, a3, b1, b2, b3, c1, c2, c3, part, run_equalIn_int _ _ _ _ _ _ _ Try.underlying3, go_sem]
  done
section
variable {w w' : World} {F : Nat → Prop} {d : Nat → I3} {n dd : Nat} {A : Option Addr} {odd : Int} {S : List Frm} {c : Nat} {O : Nat → Prop} {P : Nat → Sp} {R : Nat → Rp}
theorem log_form {W : World} (h : Dv W dd O odd S n P) (hn : S.length ≤ 1000) : Calls Try.prog 21 #[.pointer (some ⟨dd, 0, none⟩)] W fun e w' => ∃ A c, e = .returned (.slice A S.length c) ∧ RowZ 3 w' (.slice A S.length c) S.length (frL S) ∧ Below W.heap.size W w' :=
  (dv_log h hn).mono fun e w' ⟨v', e1, e2, _, e4⟩ => by
    obtain ⟨A, c, rfl⟩ := e2.form
    exact ⟨A, c, e1, e2, e4⟩
/-- Nobody has the owner's number. -/
theorem step_send_none (h : Bo w F d n dd A odd S c O P R) (cl : Nat) (x : Ded) (hd0 : x.1 ≠ 0) (hd1 : x.1 ≠ 1) (hfo : fitI x.2.1) (hn : n ≤ 1000) (hc : c ≤ 1000) (ho : ownI R n x.2.1 = -1) :
    Calls Try.prog 12 #[.pointer (some ⟨dd, 0, none⟩), .slice A n cl, ddv x] w (StepV w F d n dd A odd (c + 1)) := by
  obtain ⟨x1, x2, x3, x4, x5⟩ := x
  simp only at hd0 hd1 ho hfo
  have h0 : (x1 == 0) = false := by simpa using hd0
  have h1 : (x1 == 1) = false := by simpa using hd1
  have hout := ownI_out ho
  have hsl : S.length ≤ 1000 := by have := h.2.2.2.2.2.1; omega
  have hb0 : Below w.heap.size w (w.alloc (.cells #[.int .i64 x1, .int .i64 x2, .int .i64 x3, .int .i64 x4, .string x5] 34)) := (Below.refl _ _).alloc (Nat.le_refl _) _
  have h' := h.below hb0
  have HO := Lib.hid (rowner_any A n cl R x2 _ h'.2.1.ports hn)
  rw [ho] at HO
  have HT := Lib.hid (fun (W : World) (hb : Below w.heap.size w W) => dv_send_none (h.below hb).1 x4 x3 x5 hfo (fun i hi e => hout i hi (by rw [← e]; exact (h.2.2.1 i hi).2.1)))
  have HL := Lib.hid (fun (W : World) (hb : Below w.heap.size w W) => log_form (h.below hb).1 hsl)
  have HH := Lib.hid h
  have HB0 := Lib.hid hb0
  obtain ⟨m, hm⟩ : ∃ m, m = S.length := ⟨_, rfl⟩
  rw [← hm] at HL
  clear h h' ho hout hd0 hd1 hb0 hsl hm
  go_enter Try.func12, Try.ntmps12
  go_wp2_with (first
    | (go_at_call 21; have HQ := HL.out _ B3.out; refine HQ.mono ?_; clear HQ; rintro e w4 ⟨A4, c4, rfl, _, b4⟩; have B4 := Lib.hid (B3.out.trans (b4.mono B3.out.size)); clear b4)
    | (go_at_call 20; have HQ := HT.out _ B2.out; refine HQ.mono ?_; clear HQ; rintro e w3 ⟨rfl, b3⟩; have B3 := Lib.hid (B2.out.trans (b3.mono B2.out.size)); clear b3)
    | (go_at_call 21; have HQ := HL.out _ HB0.out; refine HQ.mono ?_; clear HQ; rintro e w2 ⟨A2, c2, rfl, _, b2⟩; have B2 := Lib.hid (HB0.out.trans (b2.mono HB0.out.size)); have q := (Blk.new w 34 #[.int .i64 x1, .int .i64 x2, .int .i64 x3, .int .i64 x4, .string x5]).below b2 (by simp); have q1 := q.cell 1; have q2 := q.cell 2; have q3 := q.cell 3; have q4 := q.cell 4; simp at q1 q2 q3 q4; clear b2 q)
    | (go_at_call 15; (with_reducible refine HO.out.mono ?_); rintro e w1 ⟨rfl, rfl⟩))
  go_ret
  exact ⟨by simp, S, HH.out.same B4.out (Nat.le_succ _)⟩
set_option maxRecDepth 20000 in
set_option maxHeartbeats 3200000 in
/-- It can't be sent. -/
theorem step_send_bad {g : Nat} (h : Bo w F d n dd (some ⟨g, 0, none⟩) odd S c O P R) (cl : Nat) (x : Ded) (hd0 : x.1 ≠ 0) (hd1 : x.1 ≠ 1) (hn : n ≤ 1000) (hc : c ≤ 900) {k : Nat} (hk : k < n) (ho : ownI R n x.2.1 = k) (hok : (R k).1 = x.2.1) (hs : x.2.2.2.2.size ≤ 200) (he : (Fr.prV x.2.2.1 (d k).2.1 x.2.2.2.2).2 ≠ 0) :
    Calls Try.prog 12 #[.pointer (some ⟨dd, 0, none⟩), .slice (some ⟨g, 0, none⟩) n cl, ddv x] w (StepV w F d n dd (some ⟨g, 0, none⟩) odd (c + 1)) := by
  obtain ⟨x1, x2, x3, x4, x5⟩ := x
  simp only at hd0 hd1 ho hok hs he
  have h0 : (x1 == 0) = false := by simpa using hd0
  have h1 : (x1 == 1) = false := by simpa using hd1
  have hsl : S.length ≤ 1000 := by have := h.2.2.2.2.2.1; omega
  have hb0 : Below w.heap.size w (w.alloc (.cells #[.int .i64 x1, .int .i64 x2, .int .i64 x3, .int .i64 x4, .string x5] 34)) := (Below.refl _ _).alloc (Nat.le_refl _) _
  have h' := h.below hb0
  have hPo : (P k).1 = x2 := by rw [← (h.2.2.1 k hk).2.1]; exact hok
  have hPm : (P k).2.1 = (d k).2.1 := (h.2.2.2.1 k hk).2
  have HO := Lib.hid (rowner_any (some ⟨g, 0, none⟩) n cl R x2 _ h'.2.1.ports hn)
  rw [ho] at HO
  rw [← hPm] at he
  have HT := Lib.hid (fun (W : World) (hb : Below w.heap.size w W) => dv_send_bad (h.below hb).1 hk x4 x3 x5 hs he)
  rw [hPo, hPm] at HT
  have HPR := Lib.hid (fun (W : World) => rprint_any x3 (d k).2.1 x5 W hs)
  rw [hPm] at he
  have HL := Lib.hid (fun (W : World) (hb : Below w.heap.size w W) => log_form (h.below hb).1 hsl)
  have HCE := Lib.hid (fun (W : World) (hb : Below w.heap.size w W) => (h.below hb).cells hk)
  have HH := Lib.hid h
  have HB0 := Lib.hid hb0
  obtain ⟨m, hm⟩ : ∃ m, m = S.length := ⟨_, rfl⟩
  rw [← hm] at HL
  generalize (Fr.prV x3 (d k).2.1 x5) = z at HT HPR he
  generalize (d k).2.1 = mc at HT HPR HCE
  obtain ⟨z1, z2⟩ := z
  simp only at HT HPR he
  have he' : (z2 != 0) = true := by simpa using he
  have k1 : (k : Int) < (n : Int) := by omega
  have k2 : ¬ (k : Int) < 0 := by omega
  clear h h' ho hok hd0 hd1 hb0 hsl hm hPo hPm he hk hc hs
  go_enter Try.func12, Try.ntmps12
  go_wp2_with (first
    | (go_at_call 21; have HQ := HL.out _ B3.out; refine HQ.mono ?_; clear HQ; rintro e w4 ⟨A4, c4, rfl, _, b4⟩; have B4 := Lib.hid (B3.out.trans (b4.mono B3.out.size)); have R4 := Lib.hid (R3.out.below b4 R3.out.lt); clear b4)
    | (go_at_call 20; have HQ := HT.out _ B2.out; refine HQ.mono ?_; clear HQ; rintro e w3 ⟨rfl, b3⟩; have B3 := Lib.hid (B2.out.trans (b3.mono B2.out.size)); have R3 := Lib.hid (R2.out.below b3 R2.out.lt); clear b3)
    | (go_at_call 21; have HQ := HL.out _ HB0.out; refine HQ.mono ?_; clear HQ; rintro e w2 ⟨A2, c2, rfl, _, b2⟩; have B2 := Lib.hid (HB0.out.trans (b2.mono HB0.out.size)); have q := (Blk.new w 34 #[.int .i64 x1, .int .i64 x2, .int .i64 x3, .int .i64 x4, .string x5]).below b2 (by simp); have R2 := Lib.hid q; have q1 := q.cell 1; have q2 := q.cell 2; have q3 := q.cell 3; have q4 := q.cell 4; simp at q1 q2 q3 q4; clear b2 q)
    | (go_at_call 15; (with_reducible refine HO.out.mono ?_); rintro e w1 ⟨rfl, rfl⟩))
  have s2 : w4.cell? ⟨w.heap.size, 2, none⟩ = some (.int .i64 x3) := R4.out.cell 2
  have s4 : w4.cell? ⟨w.heap.size, 4, none⟩ = some (.string x5) := R4.out.cell 4
  obtain ⟨g', hA, _, sm, _⟩ := HCE.out _ B4.out
  injection hA with hA
  injection hA with hA
  subst hA
  have HSX : Hid (∀ W, Below w4.heap.size w4 W → W.cell? ⟨w.heap.size, 2, none⟩ = some (.int .i64 x3) ∧ W.cell? ⟨w.heap.size, 4, none⟩ = some (.string x5) ∧ W.cell? ⟨g, k * 5 + 1, none⟩ = some (.int .i64 mc)) := Lib.hid fun W hW => by
    have q := R4.out.below hW R4.out.lt
    obtain ⟨g', hA, _, sm, _⟩ := HCE.out _ (B4.out.trans (hW.mono B4.out.size))
    injection hA with hA
    injection hA with hA
    subst hA
    exact ⟨q.cell 2, q.cell 4, sm⟩
  go_region_held3 (fun w' => w'.cell? ⟨w.heap.size, 2, none⟩ = some (.int .i64 x3) ∧ w'.cell? ⟨w.heap.size, 4, none⟩ = some (.string x5) ∧ w'.cell? ⟨g, k * 5 + 1, none⟩ = some (.int .i64 mc))
    (first | exact ⟨s2, s4, sm⟩ | exact HSX.out _ E5.out | go_keep)
    (first | (go_at_call 26; (with_reducible refine (HPR.out _).mono ?_); rintro e w5 ⟨rfl, b5⟩; have E5 : Hid (Below w4.heap.size w4 w5) := Lib.hid ((below_drewN (Below.refl _ _) 1).trans b5); clear b5))
  all_goals
    go_wp2
    go_ret
    exact ⟨by simp, S, HH.out.same (B4.out.trans (E5.out.mono B4.out.size)) (Nat.le_succ _)⟩
end
end Go.Proofs.Ytjhihccjhnlghaa
