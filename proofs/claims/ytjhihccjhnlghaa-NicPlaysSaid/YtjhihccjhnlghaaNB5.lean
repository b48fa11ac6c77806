/- A frame is taken from a device and from the document's ports: they answer alike. -/
import Derived.Test.YtjhihccjhnlghaaNB4
namespace Go.Proofs.Ytjhihccjhnlghaa
open Go.RowKit Go.Lib
set_option linter.unusedVariables false
attribute [-go_sem] Go.run_eql_struct Go.run_neq_struct

/-- A deed: what, owner, address, tick, text. -/
abbrev Ded := Int × Int × Int × Int × ByteArray
abbrev ddv (x : Ded) : Value := .agg #[.int .i64 x.1, .int .i64 x.2.1, .int .i64 x.2.2.1, .int .i64 x.2.2.2.1, .string x.2.2.2.2]
theorem ownI_out {R : Nat → Rp} {n : Nat} {o : Int} (h : ownI R n o = -1) : ∀ k, k < n → (R k).1 ≠ o := by
  intro k hk
  unfold ownI ownP at h
  cases hf : (List.range n).find? fun i => decide ((R i).1 = o) with
  | none => simpa using List.find?_eq_none.1 hf k (by simpa using hk)
  | some i =>
    rw [hf] at h
    simp only at h
    omega
section
variable {w w' : World} {F : Nat → Prop} {d : Nat → I3} {n dd : Nat} {A : Option Addr} {odd : Int} {S : List Frm} {c : Nat} {O : Nat → Prop} {P : Nat → Sp} {R : Nat → Rp}
/-- What a deed leaves. -/
def StepV (w : World) (F : Nat → Prop) (d : Nat → I3) (n dd : Nat) (A : Option Addr) (odd : Int) (c : Nat) (e : Ending) (w' : World) : Prop := e = .returned (.bool true) ∧ ∃ S', BoN w F d n dd A w' odd S' c
/-- Nobody has the owner's number. -/
theorem step_take_none (h : Bo w F d n dd A odd S c O P R) (cl : Nat) (x : Ded) (hd : x.1 = 1) (hfo : fitI x.2.1) (hn : n ≤ 1000) (ho : ownI R n x.2.1 = -1) :
    Calls Try.prog 12 #[.pointer (some ⟨dd, 0, none⟩), .slice A n cl, ddv x] w (StepV w F d n dd A odd (c + 1)) := by
  obtain ⟨x1, x2, x3, x4, x5⟩ := x
  simp only at hd ho hfo
  subst hd
  have hout := ownI_out ho
  have h' := h.below ((Below.refl _ _).alloc (Nat.le_refl _) (.cells #[.int .i64 1, .int .i64 x2, .int .i64 x3, .int .i64 x4, .string x5] 34))
  have HO := Lib.hid (rowner_any A n cl R x2 _ h'.2.1.ports hn)
  rw [ho] at HO
  have HT := Lib.hid (dv_take_none h'.1 hfo (fun i hi e => hout i hi (by rw [← e]; exact (h.2.2.1 i hi).2.1)))
  have HH := Lib.hid h
  have hq := eq_frm 0 0 ⟨#[]⟩
  clear h h' ho hout
  go_enter Try.func12, Try.ntmps12
  go_wp2_with (first
    | (go_at_call 15; (with_reducible refine HO.out.mono ?_); rintro e w1 ⟨rfl, rfl⟩)
    | (go_at_call 19; (with_reducible refine HT.out.mono ?_); rintro e w2 ⟨rfl, b2⟩; have z := Blk.new w2 46 #[.int .i64 0, .int .i64 0, .string ⟨#[]⟩]; have z0 := z.cell 0; have z1 := z.cell 1; have z2 := z.cell 2; simp at z0 z1 z2; have B2 := Lib.hid ((((Below.refl w.heap.size w).alloc (Nat.le_refl _) (.cells #[.int .i64 1, .int .i64 x2, .int .i64 x3, .int .i64 x4, .string x5] 34)).trans (b2.mono (by simp))).alloc (by have := b2.size; simp at this; omega) (.cells #[.int .i64 0, .int .i64 0, .string ⟨#[]⟩] 46)); clear b2 z))
  go_ret
  exact ⟨rfl, S, HH.out.same B2.out (Nat.le_succ _)⟩
/-- Nothing waits. -/
theorem step_take_empty (h : Bo w F d n dd A odd S c O P R) (cl : Nat) (x : Ded) (hd : x.1 = 1) (hn : n ≤ 1000) {k : Nat} (hk : k < n) (ho : ownI R n x.2.1 = k) (hok : (R k).1 = x.2.1) (he : (P k).2.2.2.1 = []) :
    Calls Try.prog 12 #[.pointer (some ⟨dd, 0, none⟩), .slice A n cl, ddv x] w (StepV w F d n dd A odd (c + 1)) := by
  obtain ⟨x1, x2, x3, x4, x5⟩ := x
  simp only at hd ho hok
  subst hd
  have h' := h.below ((Below.refl _ _).alloc (Nat.le_refl _) (.cells #[.int .i64 1, .int .i64 x2, .int .i64 x3, .int .i64 x4, .string x5] 34))
  have HO := Lib.hid (rowner_any A n cl R x2 _ h'.2.1.ports hn)
  rw [ho] at HO
  have HT := dv_take_empty h'.1 hk he
  rw [← (h.2.2.1 k hk).2.1, hok] at HT
  have HT := Lib.hid HT
  have HH := Lib.hid h
  have HL := Lib.hid (fun (W : World) (hb : Below w.heap.size w W) => (h.below hb).cells hk)
  have hrow := (h.2.2.1 k hk).1
  rw [he] at hrow
  obtain ⟨Av, cv, hv⟩ := hrow.form
  rw [hv] at HL
  have hq := eq_frm 0 0 ⟨#[]⟩
  have k1 : (k : Int) < (n : Int) := by omega
  have k2 : ¬ (k : Int) < 0 := by omega
  clear h h' ho hok hrow hv he hk
  go_enter Try.func12, Try.ntmps12
  go_wp2_with (first
    | (go_at_call 15; (with_reducible refine HO.out.mono ?_); rintro e w1 ⟨rfl, rfl⟩)
    | (go_at_call 19; (with_reducible refine HT.out.mono ?_); rintro e w2 ⟨rfl, b2⟩; have z := Blk.new w2 46 #[.int .i64 0, .int .i64 0, .string ⟨#[]⟩]; have z0 := z.cell 0; have z1 := z.cell 1; have z2 := z.cell 2; simp at z0 z1 z2; have B2 := Lib.hid ((((Below.refl w.heap.size w).alloc (Nat.le_refl _) (.cells #[.int .i64 1, .int .i64 x2, .int .i64 x3, .int .i64 x4, .string x5] 34)).trans (b2.mono (by simp))).alloc (by have := b2.size; simp at this; omega) (.cells #[.int .i64 0, .int .i64 0, .string ⟨#[]⟩] 46)); obtain ⟨g, hA, _, _, _, q3, _⟩ := HL.out _ B2.out; subst hA; clear b2 z))
  go_ret
  exact ⟨rfl, S, HH.out.same B2.out (Nat.le_succ _)⟩
set_option maxRecDepth 20000 in
set_option maxHeartbeats 3200000 in
/-- The first one that waits is taken. -/
theorem step_take_in {g : Nat} (h : Bo w F d n dd (some ⟨g, 0, none⟩) odd S c O P R) (cl : Nat) (x : Ded) (hd : x.1 = 1) (hn : n ≤ 1000) (hc : c ≤ 1000) {k : Nat} (hk : k < n) (ho : ownI R n x.2.1 = k) (hok : (R k).1 = x.2.1) (f : Frm) (l : List Frm) (he : (P k).2.2.2.1 = f :: l) :
    Calls Try.prog 12 #[.pointer (some ⟨dd, 0, none⟩), .slice (some ⟨g, 0, none⟩) n cl, ddv x] w (StepV w F d n dd (some ⟨g, 0, none⟩) odd (c + 1)) := by
  obtain ⟨x1, x2, x3, x4, x5⟩ := x
  simp only at hd ho hok
  subst hd
  have hsm := h.2.2.2.2.1.1 k hk
  rw [he] at hsm
  have hll : l.length ≤ 1000 := by have := hsm.1; simp at this; omega
  obtain ⟨⟨ow, mc, lm, v, dr⟩, hR⟩ : ∃ x, R k = x := ⟨_, rfl⟩
  have hLi := h.2.2.1 k hk
  have hb0 : Below w.heap.size w (w.alloc (.cells #[.int .i64 1, .int .i64 x2, .int .i64 x3, .int .i64 x4, .string x5] 34)) := (Below.refl _ _).alloc (Nat.le_refl _) _
  have h' := h.below hb0
  have HO := Lib.hid (rowner_any (some ⟨g, 0, none⟩) n cl R x2 _ h'.2.1.ports hn)
  rw [ho] at HO
  have HT : Hid (Calls Try.prog 19 #[.pointer (some ⟨dd, 0, none⟩), .int .i64 x2] (w.alloc (.cells #[.int .i64 1, .int .i64 x2, .int .i64 x3, .int .i64 x4, .string x5] 34)) fun e w' => e = .returned (.tuple #[frv f, .int .i64 0]) ∧ Mid w O dd w' odd S n P (takeP k P l) (some ⟨g, 0, none⟩) R k) := Lib.hid (by
    have := dv_take f l h'.1 hk he (by omega)
    rw [← hLi.2.1, hok] at this
    exact this.mono fun e w' ⟨e1, e2⟩ => ⟨e1, h.mid hk (e2.from hb0)⟩)
  have HCL := Lib.hid (fun (W : World) (hm : Mid w O dd W odd S n P (takeP k P l) (some ⟨g, 0, none⟩) R k) => hm.cells hk hR)
  have HG := Lib.hid (fun (W : World) (hm : Mid w O dd W odd S n P (takeP k P l) (some ⟨g, 0, none⟩) R k) => hm.2.1.lt (show 0 < n by omega) rfl)
  have HRT : Hid (∀ (W : World), Mid w O dd W odd S n P (takeP k P l) (some ⟨g, 0, none⟩) R k → Calls Try.prog 29 #[.agg #[.int .i64 ow, .int .i64 mc, .int .i64 lm, v, .int .i64 dr]] W fun e w' => ∃ A2 c2, e = .returned (.tuple #[.agg #[.int .i64 ow, .int .i64 mc, .int .i64 lm, .slice A2 l.length c2, .int .i64 dr], frv f]) ∧
      (∀ W4, Below w'.heap.size w' W4 → BoN w F d n dd (some ⟨g, 0, none⟩) (((((W4.setCell ⟨g, k * 5, none⟩ (.int .i64 ow)).setCell ⟨g, k * 5 + 1, none⟩ (.int .i64 mc)).setCell ⟨g, k * 5 + 2, none⟩ (.int .i64 lm)).setCell ⟨g, k * 5 + 3, none⟩ (.slice A2 l.length c2)).setCell ⟨g, k * 5 + 4, none⟩ (.int .i64 dr)) odd S (c + 1)) ∧ Below W.heap.size W w') := Lib.hid fun W hm => by
    have hL := hm.2.2.1
    rw [hR] at hL
    have hv := hL.1
    rw [he] at hv
    refine (rtake_any ow mc lm dr v f l W hv hll).mono fun e w' ⟨v2, e1, e2, e3, e4⟩ => ?_
    obtain ⟨A2, c2, rfl⟩ := e2.form
    refine ⟨A2, c2, e1, fun W4 h4 => ?_, e4⟩
    refine h.both hk hm.1 (e4.trans (h4.mono e4.size)) (fun i hi => by simp [takeP, hi]) (ow, mc, lm, .slice A2 l.length c2, dr) ?_ (fun i hi => .inr (e3 i hi)) (h.2.2.2.1.take k l) ((h.2.2.2.2.1.take hk he).mono (by omega)) (by have := h.2.2.2.2.2.1; omega)
    obtain ⟨_, q1, q2, q3, q4⟩ := hL
    refine ⟨?_, ?_, ?_, ?_, ?_⟩
    · have := e2.keeps (Keeps.of_below h4 (fun _ => False)) fun _ _ h => h
      simpa [takeP] using this
    · simpa [takeP] using q1
    · simpa [takeP] using q2
    · simpa [takeP] using q3
    · simpa [takeP] using q4
  have hvf := hLi.1
  rw [he, hR] at hvf
  obtain ⟨Av, cv, hv⟩ := hvf.form
  simp only at hv
  subst hv
  obtain ⟨f1, f2, f3⟩ := f
  have hq := eq_frm f1 f2 f3
  have k1 : (k : Int) < (n : Int) := by omega
  have k2 : ¬ (k : Int) < 0 := by omega
  simp only [List.length_cons] at HRT HCL
  clear h h' ho hok hsm hLi hvf hR he hb0 hll hc hk
  generalize hMM : Mid w O dd = MM at HT HCL HG HRT
  go_enter Try.func12, Try.ntmps12
  go_wp2_with (first
    | (go_at_call 29; have HH := HRT.out _ M2.out; refine HH.mono ?_; clear HH; rintro e w3 ⟨A2, c2, rfl, q3, b3⟩; have S3 := Lib.hid b3.size; have p := (Blk.new w3 52 #[.int .i64 ow, .int .i64 mc, .int .i64 lm, .slice A2 l.length c2, .int .i64 dr]).alloc (.cells #[.int .i64 f1, .int .i64 f2, .string f3] 73); have p0 := p.cell 0; have p1 := p.cell 1; have p2 := p.cell 2; have p3 := p.cell 3; have p4 := p.cell 4; simp at p0 p1 p2 p3 p4; have b4 : Below w3.heap.size w3 ((w3.alloc (.cells #[.int .i64 ow, .int .i64 mc, .int .i64 lm, .slice A2 l.length c2, .int .i64 dr] 52)).alloc (.cells #[.int .i64 f1, .int .i64 f2, .string f3] 73)) := ((Below.refl _ _).alloc (Nat.le_refl _) _).alloc (by simp) _; have fin := q3 _ b4; have m4 := M2.out; rw [← hMM] at m4; have hg4 := m4.2.1.lt (show 0 < n by omega) rfl; have m4 := (m4.below b3).below b4; rw [hMM] at m4; obtain ⟨d0, d1, d2, d3, d4, d5⟩ := HCL.out _ m4; have g0 := d5 (k * 5); have g1 := d5 (k * 5 + 1); have g2 := d5 (k * 5 + 2); have g3 := d5 (k * 5 + 3); have g4 := d5 (k * 5 + 4); have hgw : w1.heap.size ≠ g := (by have := HGW.out; omega); have hs2 : w1.heap.size < (w1.alloc (.cells #[.int .i64 f1, .int .i64 f2, .string f3] 46)).heap.size := (by simp); have fb := (((((((FB.out.below b3 hs2).below b4 (Nat.lt_of_lt_of_le hs2 b3.size)).far (p := ⟨g, k * 5, none⟩) hgw (.int .i64 ow)).far (p := ⟨g, k * 5 + 1, none⟩) hgw (.int .i64 mc)).far (p := ⟨g, k * 5 + 2, none⟩) hgw (.int .i64 lm)).far (p := ⟨g, k * 5 + 3, none⟩) hgw (.slice A2 l.length c2)).far (p := ⟨g, k * 5 + 4, none⟩) hgw (.int .i64 dr)); have y0 := fb.cell 0; have y1 := fb.cell 1; have y2 := fb.cell 2; simp only [List.getElem?_toArray, List.getElem?_cons_zero, List.getElem?_cons_succ] at y0 y1 y2; have hg3 : ¬ g = (w3.alloc (.cells #[.int .i64 ow, .int .i64 mc, .int .i64 lm, .slice A2 l.length c2, .int .i64 dr] 52)).heap.size := (by have q1 := b3.size; have q2 := HGW.out; simp at q1 ⊢; omega); have gb := ((((((Blk.new (w3.alloc (.cells #[.int .i64 ow, .int .i64 mc, .int .i64 lm, .slice A2 l.length c2, .int .i64 dr] 52)) 73 #[.int .i64 f1, .int .i64 f2, .string f3]).far (p := ⟨g, k * 5, none⟩) (fun e => hg3 e.symm) (.int .i64 ow)).far (p := ⟨g, k * 5 + 1, none⟩) (fun e => hg3 e.symm) (.int .i64 mc)).far (p := ⟨g, k * 5 + 2, none⟩) (fun e => hg3 e.symm) (.int .i64 lm)).far (p := ⟨g, k * 5 + 3, none⟩) (fun e => hg3 e.symm) (.slice A2 l.length c2)).far (p := ⟨g, k * 5 + 4, none⟩) (fun e => hg3 e.symm) (.int .i64 dr)); have z0 := gb.cell 0; have z1 := gb.cell 1; have z2 := gb.cell 2; simp only [World.size_alloc, List.getElem?_toArray, List.getElem?_cons_zero, List.getElem?_cons_succ] at z0 z1 z2; have FIN := Lib.hid fin; clear q3 b3 b4 fin m4 hg4 d5 hgw hs2 fb hg3 gb p)
    | (go_at_call 19; (with_reducible refine HT.out.mono ?_); rintro e w1 ⟨rfl, m1⟩; have HGW := Lib.hid (HG.out _ m1); have FB := Lib.hid (Blk.new w1 46 #[.int .i64 f1, .int .i64 f2, .string f3]); have m2 := m1; rw [← hMM] at m2; have m2 := m2.below ((Below.refl _ _).alloc (Nat.le_refl _) (.cells #[.int .i64 f1, .int .i64 f2, .string f3] 46)); rw [hMM] at m2; have M2 := Lib.hid m2; obtain ⟨c0, c1, c2, c3, c4, c5⟩ := HCL.out _ m2; clear c5 m1 m2)
    | (go_at_call 15; (with_reducible refine HO.out.mono ?_); rintro e w9 ⟨rfl, rfl⟩))
  go_ret
  exact ⟨rfl, S, FIN.out⟩
end
end Go.Proofs.Ytjhihccjhnlghaa
