import Derived.Test.YtjhihccjhnlghaaZG21
set_option linter.all false
/- Bytes come to a device and to the document's ports: they answer alike. -/
namespace Go.Proofs.Ytjhihccjhnlghaa
open Go.RowKit Go.Lib
set_option linter.unusedVariables false

theorem like_room {w : World} {x : Rp} {y : Sp} {f : Frm} {v2 : Value} {w0 : World} (h : Like w0 x y) (hr : y.2.2.2.1.length < y.2.2.1) (hv : RowZ 3 w v2 (y.2.2.2.1.length + 1) (frL (y.2.2.2.1 ++ [f]))) : Like w (x.1, x.2.1, x.2.2.1, v2, x.2.2.2.2) (pshS y f) := by
  obtain ⟨h1, h2, h3, h4, h5⟩ := h
  refine ⟨?_, h2, h3, h4, ?_⟩
  · simp only [pshS, pshL, if_pos hr, List.length_append, List.length_cons, List.length_nil]
    exact hv
  · simp only [pshS, pshD, if_pos hr]
    exact h5
theorem like_full {w : World} {x : Rp} {y : Sp} {f : Frm} (h : Like w x y) (hr : ¬ y.2.2.2.1.length < y.2.2.1) : Like w (x.1, x.2.1, x.2.2.1, x.2.2.2.1, x.2.2.2.2 + 1) (pshS y f) := by
  obtain ⟨h1, h2, h3, h4, h5⟩ := h
  refine ⟨?_, h2, h3, h4, ?_⟩
  · simp only [pshS, pshL, if_neg hr]
    exact h1
  · simp only [pshS, pshD, if_neg hr]
    omega
section
variable {w w' : World} {F : FF} {d : Nat → I3} {n dd : Nat} {A : Option Addr} {odd : Int} {S : List Frm} {c : Nat} {O : Nat → Prop} {P : Nat → Sp} {R : Nat → Rp}
theorem dv_owner (h : Dv w dd O odd S n P) {k : Nat} (hk : k < n) : Calls Try.prog 23 #[.pointer (some ⟨dd, 0, none⟩), .int .i64 (P k).2.1] w fun e w' => e = .returned (.int .i64 (P k).1) ∧ w.grownBy w' none := by
  obtain ⟨m, lv, A, g, C, hg, hm, hO, hgp⟩ := h.open hk
  rw [← hgp]
  have := nown_any g.mac hg.1 hg.2.1 hg.owners hg.macs
  rwa [show ownL ((A ++ g :: C).map Gp.row) g.mac = g.row.1 from ownL_in (x := g.row) (List.mem_map.2 ⟨g, by simp, rfl⟩) rfl hg.macs] at this
theorem Bo.own (h : Bo w F d n dd A odd S c O P R) {i : Nat} (hi : i < n) : (R i).1 = (d i).1 ∧ (R i).2.1 = (d i).2.1 := by
  obtain ⟨h1, h2, h3, h4, _⟩ := h
  obtain ⟨_, q1, q2, _⟩ := h3 i hi
  exact ⟨q1.trans (h4 i hi).1, q2.trans (h4 i hi).2⟩
/-- What a row of the document's ports shows of one. -/
theorem Bo.cells (h : Bo w F d n dd A odd S c O P R) {i : Nat} (hi : i < n) : ∃ g, A = some ⟨g, 0, none⟩ ∧ w.cell? ⟨g, i * 5, none⟩ = some (.int .i64 (d i).1) ∧ w.cell? ⟨g, i * 5 + 1, none⟩ = some (.int .i64 (d i).2.1) ∧ w.cell? ⟨g, i * 5 + 2, none⟩ = some (.int .i64 (P i).2.2.1) ∧ w.cell? ⟨g, i * 5 + 3, none⟩ = some (R i).2.2.2.1 ∧ w.cell? ⟨g, i * 5 + 4, none⟩ = some (.int .i64 (P i).2.2.2.2) ∧ ∀ j, w.frozen? ⟨g, j, none⟩ = false := by
  obtain ⟨q1, q2⟩ := h.own hi
  obtain ⟨h1, h2, h3, h4, _⟩ := h
  obtain ⟨_, _, _, q3, q4⟩ := h3 i hi
  obtain ⟨g, e, hg, hc⟩ := h2.ports (by omega)
  obtain ⟨g', cs, e', hb, _⟩ := h2 (by omega)
  rw [e] at e'
  injection e' with e'
  injection e' with e'
  subst e'
  obtain ⟨c0, c1, c2, c3, c4⟩ := hc i hi
  rw [q1] at c0
  rw [q2] at c1
  rw [q3] at c2
  rw [q4] at c4
  exact ⟨g, e, c0, c1, c2, c3, c4, hb.free⟩
theorem bo_for (h : Bo w F d n dd A odd S c O P R) (cl : Nat) (s : ByteArray) (hs : s.size ≤ 1000) (hn : n ≤ 1000) : Calls Try.prog 11 #[.slice A n cl, .string s] w fun e w' => e = .returned (.int .i64 (jZ (jfor (fun i => (d i).2.1) n s))) ∧ Below w.heap.size w w' :=
  rfor_any A n cl R (fun i => (d i).2.1) s w hs h.2.1.ports (fun i hi => (h.own hi).2) hn

/-- It is nobody's. -/
theorem lcome_odd (h : Bo w F d n dd A odd S c O P R) (cl : Nat) (s : ByteArray) (hs : s.size ≤ 200) (hc : c ≤ 1000) (hn : n ≤ 1000) (hj : jfor (fun i => (d i).2.1) n s = none) :
    Calls Try.prog 28 #[.pointer (some ⟨dd, 0, none⟩), .slice A n cl, .string s] w fun e w' => e = .returned (.bool true) ∧ BoN w F d n dd A w' (odd + 1) S (c + 1) := by
  have HC := Lib.hid (show Calls Try.prog 16 #[.pointer (some ⟨dd, 0, none⟩), .string s] w fun e w' => e = .returned (.tuple #[.int .i64 0, .bool false]) ∧ BoN w F d n dd A w' (odd + 1) S (c + 1) from by
    have := dv_come s (by omega) h.1 (fun i hi => (h.2.2.2.1 i hi).2) h.2.2.2.2.1 (by omega)
    rw [hj] at this
    exact this.mono fun e w' ⟨e1, e2⟩ => ⟨e1, h.dev e2 (h.2.2.2.2.1.come none (Fr.paV s).1) (by have := h.2.2.2.2.2.1; omega)⟩)
  have HF := Lib.hid (fun (W : World) (F' : FF) (odd' : Int) (c' : Nat) (O' : Nat → Prop) (P' : Nat → Sp) (R' : Nat → Rp) (h : Bo W F' d n dd A odd' S c' O' P' R') => bo_for h cl s (by omega) hn)
  rw [hj] at HF
  clear h
  go_enter Try.func28, Try.ntmps28
  go_wp2_with (first
    | (go_at_call 16; with_reducible refine HC.out.mono ?_; rintro e w1 ⟨rfl, b1⟩; have B1 := Lib.hid b1; clear b1)
    | (go_at_call 11; obtain ⟨F1, O1, P1, R1, o1, _⟩ := B1.out; have HH := HF.out _ _ _ _ _ _ _ o1; refine HH.mono ?_; clear HH; rintro e w2 ⟨rfl, b2⟩; have B2 := Lib.hid (B1.out.upto b2); clear b2 o1))
  go_ret
  exact ⟨rfl, B2.out⟩
/-- The device was told of it, the document's port k not yet. -/
def Mid (w : World) (O : Nat → Prop) (dd : Nat) (w1 : World) (odd : Int) (S : List Frm) (n : Nat) (P P1 : Nat → Sp) (A : Option Addr) (R : Nat → Rp) (k : Nat) : Prop := DvN w O dd w1 odd S n P1 ∧ Dc w1 A n R ∧ Like w1 (R k) (P k) ∧ ∀ i, (R k).2.2.2.1.ownBlock = some i → i < w1.heap.size
theorem Mid.below {P1 : Nat → Sp} {w1 w2 : World} {k : Nat} (h : Mid w O dd w1 odd S n P P1 A R k) (hb : Below w1.heap.size w1 w2) : Mid w O dd w2 odd S n P P1 A R k :=
  ⟨h.1.upto hb, fun hp => (h.2.1.keeps (Keeps.of_below hb (fun _ => False)) fun _ _ h => h) hp, h.2.2.1.keeps (Keeps.of_below hb (fun _ => False)) fun _ _ h => h, fun i hi => Nat.lt_of_lt_of_le (h.2.2.2 i hi) hb.size⟩
theorem Bo.mid {P1 : Nat → Sp} {w1 : World} {k : Nat} {odd' : Int} {S' : List Frm} (h : Bo w F d n dd A odd S c O P R) (hk : k < n) (hw : DvN w O dd w1 odd' S' n P1) : Mid w O dd w1 odd' S' n P P1 A R k := by
  obtain ⟨h1, h2, h3, h4, h5, h6, h7, h8, h9⟩ := h
  have hw0 := hw
  obtain ⟨O', k1, k2, k3⟩ := hw
  exact ⟨hw0, fun hp => (h2.keeps k2 fun i hi => h7 i (.inl ⟨hp, hi⟩)) hp, (h3 k hk).keeps k2 fun i hi => h7 i (.inr ⟨k, hk, hi⟩), fun i hi => Nat.lt_of_lt_of_le ((h3 k hk).1.lt i hi) k2.size⟩
theorem Mid.cells {P1 : Nat → Sp} {w1 : World} {g k : Nat} {ow mc lm dr : Int} {v : Value} (h : Mid w O dd w1 odd S n P P1 (some ⟨g, 0, none⟩) R k) (hk : k < n) (hR : R k = (ow, mc, lm, v, dr)) : w1.cell? ⟨g, k * 5, none⟩ = some (.int .i64 ow) ∧ w1.cell? ⟨g, k * 5 + 1, none⟩ = some (.int .i64 mc) ∧ w1.cell? ⟨g, k * 5 + 2, none⟩ = some (.int .i64 lm) ∧ w1.cell? ⟨g, k * 5 + 3, none⟩ = some v ∧ w1.cell? ⟨g, k * 5 + 4, none⟩ = some (.int .i64 dr) ∧ ∀ j, w1.frozen? ⟨g, j, none⟩ = false := by
  obtain ⟨_, h2, _⟩ := h
  obtain ⟨g', e, hg, hc⟩ := h2.ports (by omega)
  injection e with e
  injection e with e
  subst e
  obtain ⟨g', cs, e', hb, _⟩ := h2 (by omega)
  injection e' with e'
  injection e' with e'
  subst e'
  have := hc k hk
  rw [hR] at this
  exact ⟨this.1, this.2.1, this.2.2.1, this.2.2.2.1, this.2.2.2.2, hb.free⟩

set_option maxRecDepth 20000 in
set_option maxHeartbeats 3200000 in
/-- It is somebody's. -/
theorem lcome_hit {g : Nat} (h : Bo w F d n dd (some ⟨g, 0, none⟩) odd S c O P R) (cl : Nat) (s : ByteArray) (hs : s.size ≤ 200) (hc : c ≤ 1000) (hn : n ≤ 1000) {k : Nat} (hj : jfor (fun i => (d i).2.1) n s = some k) :
    Calls Try.prog 28 #[.pointer (some ⟨dd, 0, none⟩), .slice (some ⟨g, 0, none⟩) n cl, .string s] w fun e w' => e = .returned (.bool true) ∧ BoN w F d n dd (some ⟨g, 0, none⟩) w' odd S (c + 1) := by
  obtain ⟨_, hk, _⟩ := jfor_some hj
  have hsm := h.2.2.2.2.1.1 k hk
  have hlk := h.2.2.2.1 k hk
  obtain ⟨⟨ow, mc, lm, v, dr⟩, hR⟩ : ∃ x, R k = x := ⟨_, rfl⟩
  have hLi := h.2.2.1 k hk
  rw [hR] at hLi
  have hown := h.own hk
  rw [hR] at hown
  obtain ⟨how, hmc⟩ := hown
  simp only at how hmc
  have hlike : ow = (P k).1 ∧ lm = ((P k).2.2.1 : Int) ∧ dr = ((P k).2.2.2.2 : Int) := ⟨hLi.2.1, hLi.2.2.2.1, hLi.2.2.2.2⟩
  have HC := Lib.hid (show Calls Try.prog 16 #[.pointer (some ⟨dd, 0, none⟩), .string s] w fun e w' => e = .returned (.tuple #[.int .i64 ow, .bool (decide ((P k).2.2.2.1.length < (P k).2.2.1))]) ∧ Mid w O dd w' odd S n P (comeP (some k) P (Fr.paV s).1) (some ⟨g, 0, none⟩) R k from by
    have := dv_come s (by omega) h.1 (fun i hi => (h.2.2.2.1 i hi).2) h.2.2.2.2.1 (by omega)
    rw [hj] at this
    exact this.mono fun e w' ⟨e1, e2⟩ => ⟨by rw [e1, hlike.1]; rfl, h.mid hk e2⟩)
  have HF := Lib.hid (fun (W : World) (hm : Mid w O dd W odd S n P (comeP (some k) P (Fr.paV s).1) (some ⟨g, 0, none⟩) R k) => rfor_any (some ⟨g, 0, none⟩) n cl R (fun i => (d i).2.1) s W (by omega) hm.2.1.ports (fun i hi => (h.own hi).2) hn)
  rw [hj] at HF
  have HOW := Lib.hid (fun (W : World) (odd' : Int) (S' : List Frm) (c' : Nat) (hb : BoN w F d n dd (some ⟨g, 0, none⟩) W odd' S' c') => (show Calls Try.prog 23 #[.pointer (some ⟨dd, 0, none⟩), .int .i64 mc] W fun e w' => e = .returned (.int .i64 ow) ∧ Below W.heap.size W w' from by
    obtain ⟨F1, O1, P1, R1, q1, _⟩ := hb
    have := dv_owner q1.1 hk
    rw [(q1.2.2.2.1 k hk).1, (q1.2.2.2.1 k hk).2, ← how, ← hmc] at this
    exact this.mono fun e w' ⟨e1, e2⟩ => ⟨e1, below_of_only e2 (Nat.le_refl _) (by simp)⟩))
  have HCL := Lib.hid (fun (W : World) (hm : Mid w O dd W odd S n P (comeP (some k) P (Fr.paV s).1) (some ⟨g, 0, none⟩) R k) => hm.cells hk hR)
  have HBO := Lib.hid (fun (w2 w3 : World) (v2 : Value) (dr2 : Int) (hm : Mid w O dd w2 odd S n P (comeP (some k) P (Fr.paV s).1) (some ⟨g, 0, none⟩) R k) (hb : Below w2.heap.size w2 w3) (hx : Like w3 (ow, mc, lm, v2, dr2) (pshS (P k) (Fr.paV s).1)) (hxo : ∀ i, v2.ownBlock = some i → v.ownBlock = some i ∨ w2.heap.size ≤ i) =>
    (show BoN w F d n dd (some ⟨g, 0, none⟩) (((((w3.setCell ⟨g, k * 5, none⟩ (.int .i64 ow)).setCell ⟨g, k * 5 + 1, none⟩ (.int .i64 mc)).setCell ⟨g, k * 5 + 2, none⟩ (.int .i64 lm)).setCell ⟨g, k * 5 + 3, none⟩ v2).setCell ⟨g, k * 5 + 4, none⟩ (.int .i64 dr2)) odd S (c + 1) from
      h.both hk hm.1 hb (fun i hi => by simp [comeP, hi]) (ow, mc, lm, v2, dr2) (by simpa [comeP] using hx) (fun i hi => by rw [hR]; exact hxo i hi) (h.2.2.2.1.come (some k) _) (h.2.2.2.2.1.come (some k) (Fr.paV s).1) (by have := h.2.2.2.2.2.1; omega)))
  have k1 : (k : Int) < (n : Int) := by omega
  have k2 : ¬ (k : Int) < 0 := by omega
  have hz : jZ (some k) = (k : Int) := rfl
  rw [hz] at HF
  have HLN := Lib.hid hLi
  obtain ⟨hq1, hq2, hq3⟩ := hlike
  have hgl : ∀ (W : World), Mid w O dd W odd S n P (comeP (some k) P (Fr.paV s).1) (some ⟨g, 0, none⟩) R k → g < W.heap.size := fun W hm => hm.2.1.lt (by omega) rfl
  have hfar : ∀ (W W' : World), Mid w O dd W odd S n P (comeP (some k) P (Fr.paV s).1) (some ⟨g, 0, none⟩) R k → Below W.heap.size W W' → W'.cell? ⟨g, k * 5, none⟩ = some (.int .i64 ow) ∧ W'.cell? ⟨g, k * 5 + 1, none⟩ = some (.int .i64 mc) ∧ W'.cell? ⟨g, k * 5 + 2, none⟩ = some (.int .i64 lm) ∧ W'.cell? ⟨g, k * 5 + 3, none⟩ = some v ∧ W'.cell? ⟨g, k * 5 + 4, none⟩ = some (.int .i64 dr) ∧ ∀ j, W'.frozen? ⟨g, j, none⟩ = false := fun W W' hm hb => HCL.out W' (hm.below hb)
  have HRC : Hid (∀ (W : World), Mid w O dd W odd S n P (comeP (some k) P (Fr.paV s).1) (some ⟨g, 0, none⟩) R k → Calls Try.prog 41 #[.agg #[.int .i64 ow, .int .i64 mc, .int .i64 lm, v, .int .i64 dr], .string s] W fun e w' => ∃ A2 m2 c2 dr2, e = .returned (.tuple #[.agg #[.int .i64 ow, .int .i64 mc, .int .i64 lm, .slice A2 m2 c2, .int .i64 dr2], .bool (decide ((P k).2.2.2.1.length < (P k).2.2.1))]) ∧ BoN w F d n dd (some ⟨g, 0, none⟩) (((((w'.setCell ⟨g, k * 5, none⟩ (.int .i64 ow)).setCell ⟨g, k * 5 + 1, none⟩ (.int .i64 mc)).setCell ⟨g, k * 5 + 2, none⟩ (.int .i64 lm)).setCell ⟨g, k * 5 + 3, none⟩ (.slice A2 m2 c2)).setCell ⟨g, k * 5 + 4, none⟩ (.int .i64 dr2)) odd S (c + 1) ∧
      w'.cell? ⟨g, k * 5, none⟩ = some (.int .i64 ow) ∧ w'.cell? ⟨g, k * 5 + 1, none⟩ = some (.int .i64 mc) ∧ w'.cell? ⟨g, k * 5 + 2, none⟩ = some (.int .i64 lm) ∧ w'.cell? ⟨g, k * 5 + 3, none⟩ = some v ∧ w'.cell? ⟨g, k * 5 + 4, none⟩ = some (.int .i64 dr) ∧ ∀ j, w'.frozen? ⟨g, j, none⟩ = false) := Lib.hid fun W hm => by
    have hL := hm.2.2.1
    rw [hR] at hL
    obtain ⟨Av, cv, hv⟩ := hL.1.form
    simp only at hv
    subst hv
    have hlt := hm.2.2.2
    rw [hR] at hlt
    by_cases hr : (P k).2.2.2.1.length < (P k).2.2.1
    · rw [decide_eq_true hr]
      exact (rcome_room ow mc lm dr _ (P k).2.2.2.1 s W (by omega) hL.1 hlt (by omega) (by omega)).mono fun e w' ⟨v2, e1, e2, e3, e4⟩ => by
        obtain ⟨A2, c2, rfl⟩ := e2.form
        exact ⟨A2, _, c2, dr, e1, HBO.out W w' _ dr hm e4 (like_room hL hr e2) (fun i hi => .inr (e3 i hi)), hfar W w' hm e4⟩
    · rw [decide_eq_false hr]
      exact (rcome_full ow mc lm dr _ (P k).2.2.2.1 s W hL.1 (by omega) (by omega)).mono fun e w' ⟨e1, e4⟩ => ⟨Av, _, cv, dr + 1, e1, HBO.out W w' _ (dr + 1) hm e4 (like_full (hL.keeps (Keeps.of_below e4 (fun _ => False)) fun _ _ h => h) hr) (fun i hi => .inl hi), hfar W w' hm e4⟩
  obtain ⟨Av, cv, rfl⟩ := hLi.1.form
  generalize decide ((P k).2.2.2.1.length < (P k).2.2.1) = yes at HC HRC
  clear h hsm hlk hR hLi how hmc hq1 hq2 hq3 hgl hfar HBO HLN hs hc hj hz
  generalize hMM : Mid w O dd = MM at HC HF HCL HRC
  go_enter Try.func28, Try.ntmps28
  go_wp2_with (first
    | (go_at_call 23; have HH := HOW.out _ _ _ _ B3.out; refine HH.mono ?_; clear HH; rintro e w4 ⟨rfl, b4⟩; have B4 := Lib.hid (B3.out.upto b4); clear b4)
    | (go_at_call 41; have HH := HRC.out _ M2.out; refine HH.mono ?_; clear HH; rintro e w3 ⟨A2, m2, c2, dr2, rfl, b3, e0, e1, e2, e3, e4, e5⟩; have B3 := Lib.hid b3; have g0 := e5 (k * 5); have g1 := e5 (k * 5 + 1); have g2 := e5 (k * 5 + 2); have g3 := e5 (k * 5 + 3); have g4 := e5 (k * 5 + 4); clear b3 e5)
    | (go_at_call 11; have HH := HF.out _ M1.out; with_reducible refine HH.mono ?_; clear HH; rintro e w2 ⟨rfl, b2⟩; have m2 := M1.out; rw [← hMM] at m2; have m2 := m2.below b2; rw [hMM] at m2; have M2 := Lib.hid m2; obtain ⟨c0, c1, c2, c3, c4, c5⟩ := HCL.out _ m2; clear b2 c5 m2)
    | (go_at_call 16; with_reducible refine HC.out.mono ?_; rintro e w1 ⟨rfl, m1⟩; have M1 := Lib.hid m1; clear m1))
  go_ret
  exact ⟨by simp, B4.out⟩
end
end Go.Proofs.Ytjhihccjhnlghaa

/- A frame is taken from a device and from the document's ports: they answer alike. -/
namespace Go.Proofs.Ytjhihccjhnlghaa
open Go.RowKit Go.Lib
set_option linter.unusedVariables false
attribute [-go_sem] Go.run_eql_struct Go.run_neq_struct

/-- A deed: what, owner, address, tick, text. -/
abbrev Ded := Int × Int × Int × Int × ByteArray
abbrev ddv (x : Ded) : Value := .agg #[.int .i64 x.1, .int .i64 x.2.1, .int .i64 x.2.2.1, .int .i64 x.2.2.2.1, .string x.2.2.2.2]
theorem ownI_out {R : Nat → Rp} {n : Nat} {o : Int} (h : ownI R n o = -1) : ∀ k, k < n → (R k).1 ≠ o := by
  intro k hk
  unfold ownI ownP at h
  cases hf : (List.range n).find? fun i => decide ((R i).1 = o) with
  | none => simpa using List.find?_eq_none.1 hf k (by simpa using hk)
  | some i =>
    rw [hf] at h
    simp only at h
    omega
section
variable {w w' : World} {F : FF} {d : Nat → I3} {n dd : Nat} {A : Option Addr} {odd : Int} {S : List Frm} {c : Nat} {O : Nat → Prop} {P : Nat → Sp} {R : Nat → Rp}
/-- What a deed leaves. -/
def StepV (w : World) (F : FF) (d : Nat → I3) (n dd : Nat) (A : Option Addr) (odd : Int) (c : Nat) (e : Ending) (w' : World) : Prop := e = .returned (.bool true) ∧ ∃ S', BoN w F d n dd A w' odd S' c
/-- Nobody has the owner's number. -/
theorem step_take_none (h : Bo w F d n dd A odd S c O P R) (cl : Nat) (x : Ded) (hd : x.1 = 1) (hfo : fitI x.2.1) (hn : n ≤ 1000) (ho : ownI R n x.2.1 = -1) :
    Calls Try.prog 12 #[.pointer (some ⟨dd, 0, none⟩), .slice A n cl, ddv x] w (StepV w F d n dd A odd (c + 1)) := by
  obtain ⟨x1, x2, x3, x4, x5⟩ := x
  simp only at hd ho hfo
  subst hd
  have hout := ownI_out ho
  have h' := h.below ((Below.refl _ _).alloc (Nat.le_refl _) (.cells #[.int .i64 1, .int .i64 x2, .int .i64 x3, .int .i64 x4, .string x5] 34))
  have HO := Lib.hid (rowner_any A n cl R x2 _ h'.2.1.ports hn)
  rw [ho] at HO
  have HT := Lib.hid (dv_take_none h'.1 hfo (fun i hi e => hout i hi (by rw [← e]; exact (h.2.2.1 i hi).2.1)))
  have HH := Lib.hid h
  have hq := eq_frm 0 0 ⟨#[]⟩
  clear h h' ho hout
  go_enter Try.func12, Try.ntmps12
  go_wp2_with (first
    | (go_at_call 15; (with_reducible refine HO.out.mono ?_); rintro e w1 ⟨rfl, rfl⟩)
    | (go_at_call 19; (with_reducible refine HT.out.mono ?_); rintro e w2 ⟨rfl, b2⟩; have z := Blk.new w2 46 #[.int .i64 0, .int .i64 0, .string ⟨#[]⟩]; have z0 := z.cell 0; have z1 := z.cell 1; have z2 := z.cell 2; simp at z0 z1 z2; have B2 := Lib.hid ((((Below.refl w.heap.size w).alloc (Nat.le_refl _) (.cells #[.int .i64 1, .int .i64 x2, .int .i64 x3, .int .i64 x4, .string x5] 34)).trans (b2.mono (by simp))).alloc (by have := b2.size; simp at this; omega) (.cells #[.int .i64 0, .int .i64 0, .string ⟨#[]⟩] 46)); clear b2 z))
  go_ret
  exact ⟨rfl, S, HH.out.same B2.out (Nat.le_succ _)⟩
/-- Nothing waits. -/
theorem step_take_empty (h : Bo w F d n dd A odd S c O P R) (cl : Nat) (x : Ded) (hd : x.1 = 1) (hn : n ≤ 1000) {k : Nat} (hk : k < n) (ho : ownI R n x.2.1 = k) (hok : (R k).1 = x.2.1) (he : (P k).2.2.2.1 = []) :
    Calls Try.prog 12 #[.pointer (some ⟨dd, 0, none⟩), .slice A n cl, ddv x] w (StepV w F d n dd A odd (c + 1)) := by
  obtain ⟨x1, x2, x3, x4, x5⟩ := x
  simp only at hd ho hok
  subst hd
  have h' := h.below ((Below.refl _ _).alloc (Nat.le_refl _) (.cells #[.int .i64 1, .int .i64 x2, .int .i64 x3, .int .i64 x4, .string x5] 34))
  have HO := Lib.hid (rowner_any A n cl R x2 _ h'.2.1.ports hn)
  rw [ho] at HO
  have HT := dv_take_empty h'.1 hk he
  rw [← (h.2.2.1 k hk).2.1, hok] at HT
  have HT := Lib.hid HT
  have HH := Lib.hid h
  have HL := Lib.hid (fun (W : World) (hb : Below w.heap.size w W) => (h.below hb).cells hk)
  have hrow := (h.2.2.1 k hk).1
  rw [he] at hrow
  obtain ⟨Av, cv, hv⟩ := hrow.form
  rw [hv] at HL
  have hq := eq_frm 0 0 ⟨#[]⟩
  have k1 : (k : Int) < (n : Int) := by omega
  have k2 : ¬ (k : Int) < 0 := by omega
  clear h h' ho hok hrow hv he hk
  go_enter Try.func12, Try.ntmps12
  go_wp2_with (first
    | (go_at_call 15; (with_reducible refine HO.out.mono ?_); rintro e w1 ⟨rfl, rfl⟩)
    | (go_at_call 19; (with_reducible refine HT.out.mono ?_); rintro e w2 ⟨rfl, b2⟩; have z := Blk.new w2 46 #[.int .i64 0, .int .i64 0, .string ⟨#[]⟩]; have z0 := z.cell 0; have z1 := z.cell 1; have z2 := z.cell 2; simp at z0 z1 z2; have B2 := Lib.hid ((((Below.refl w.heap.size w).alloc (Nat.le_refl _) (.cells #[.int .i64 1, .int .i64 x2, .int .i64 x3, .int .i64 x4, .string x5] 34)).trans (b2.mono (by simp))).alloc (by have := b2.size; simp at this; omega) (.cells #[.int .i64 0, .int .i64 0, .string ⟨#[]⟩] 46)); obtain ⟨g, hA, _, _, _, q3, _⟩ := HL.out _ B2.out; subst hA; clear b2 z))
  go_ret
  exact ⟨rfl, S, HH.out.same B2.out (Nat.le_succ _)⟩
set_option maxRecDepth 20000 in
set_option maxHeartbeats 3200000 in
/-- The first one that waits is taken. -/
theorem step_take_in {g : Nat} (h : Bo w F d n dd (some ⟨g, 0, none⟩) odd S c O P R) (cl : Nat) (x : Ded) (hd : x.1 = 1) (hn : n ≤ 1000) (hc : c ≤ 1000) {k : Nat} (hk : k < n) (ho : ownI R n x.2.1 = k) (hok : (R k).1 = x.2.1) (f : Frm) (l : List Frm) (he : (P k).2.2.2.1 = f :: l) :
    Calls Try.prog 12 #[.pointer (some ⟨dd, 0, none⟩), .slice (some ⟨g, 0, none⟩) n cl, ddv x] w (StepV w F d n dd (some ⟨g, 0, none⟩) odd (c + 1)) := by
  obtain ⟨x1, x2, x3, x4, x5⟩ := x
  simp only at hd ho hok
  subst hd
  have hsm := h.2.2.2.2.1.1 k hk
  rw [he] at hsm
  have hll : l.length ≤ 1000 := by have := hsm.1; simp at this; omega
  obtain ⟨⟨ow, mc, lm, v, dr⟩, hR⟩ : ∃ x, R k = x := ⟨_, rfl⟩
  have hLi := h.2.2.1 k hk
  have hb0 : Below w.heap.size w (w.alloc (.cells #[.int .i64 1, .int .i64 x2, .int .i64 x3, .int .i64 x4, .string x5] 34)) := (Below.refl _ _).alloc (Nat.le_refl _) _
  have h' := h.below hb0
  have HO := Lib.hid (rowner_any (some ⟨g, 0, none⟩) n cl R x2 _ h'.2.1.ports hn)
  rw [ho] at HO
  have HT : Hid (Calls Try.prog 19 #[.pointer (some ⟨dd, 0, none⟩), .int .i64 x2] (w.alloc (.cells #[.int .i64 1, .int .i64 x2, .int .i64 x3, .int .i64 x4, .string x5] 34)) fun e w' => e = .returned (.tuple #[frv f, .int .i64 0]) ∧ Mid w O dd w' odd S n P (takeP k P l) (some ⟨g, 0, none⟩) R k) := Lib.hid (by
    have := dv_take f l h'.1 hk he (by omega)
    rw [← hLi.2.1, hok] at this
    exact this.mono fun e w' ⟨e1, e2⟩ => ⟨e1, h.mid hk (e2.from hb0)⟩)
  have HCL := Lib.hid (fun (W : World) (hm : Mid w O dd W odd S n P (takeP k P l) (some ⟨g, 0, none⟩) R k) => hm.cells hk hR)
  have HG := Lib.hid (fun (W : World) (hm : Mid w O dd W odd S n P (takeP k P l) (some ⟨g, 0, none⟩) R k) => hm.2.1.lt (show 0 < n by omega) rfl)
  have HRT : Hid (∀ (W : World), Mid w O dd W odd S n P (takeP k P l) (some ⟨g, 0, none⟩) R k → Calls Try.prog 29 #[.agg #[.int .i64 ow, .int .i64 mc, .int .i64 lm, v, .int .i64 dr]] W fun e w' => ∃ A2 c2, e = .returned (.tuple #[.agg #[.int .i64 ow, .int .i64 mc, .int .i64 lm, .slice A2 l.length c2, .int .i64 dr], frv f]) ∧
      (∀ W4, Below w'.heap.size w' W4 → BoN w F d n dd (some ⟨g, 0, none⟩) (((((W4.setCell ⟨g, k * 5, none⟩ (.int .i64 ow)).setCell ⟨g, k * 5 + 1, none⟩ (.int .i64 mc)).setCell ⟨g, k * 5 + 2, none⟩ (.int .i64 lm)).setCell ⟨g, k * 5 + 3, none⟩ (.slice A2 l.length c2)).setCell ⟨g, k * 5 + 4, none⟩ (.int .i64 dr)) odd S (c + 1)) ∧ Below W.heap.size W w') := Lib.hid fun W hm => by
    have hL := hm.2.2.1
    rw [hR] at hL
    have hv := hL.1
    rw [he] at hv
    refine (rtake_any ow mc lm dr v f l W hv hll).mono fun e w' ⟨v2, e1, e2, e3, e4⟩ => ?_
    obtain ⟨A2, c2, rfl⟩ := e2.form
    refine ⟨A2, c2, e1, fun W4 h4 => ?_, e4⟩
    refine h.both hk hm.1 (e4.trans (h4.mono e4.size)) (fun i hi => by simp [takeP, hi]) (ow, mc, lm, .slice A2 l.length c2, dr) ?_ (fun i hi => .inr (e3 i hi)) (h.2.2.2.1.take k l) ((h.2.2.2.2.1.take hk he).mono (by omega)) (by have := h.2.2.2.2.2.1; omega)
    obtain ⟨_, q1, q2, q3, q4⟩ := hL
    refine ⟨?_, ?_, ?_, ?_, ?_⟩
    · have := e2.keeps (Keeps.of_below h4 (fun _ => False)) fun _ _ h => h
      simpa [takeP] using this
    · simpa [takeP] using q1
    · simpa [takeP] using q2
    · simpa [takeP] using q3
    · simpa [takeP] using q4
  have hvf := hLi.1
  rw [he, hR] at hvf
  obtain ⟨Av, cv, hv⟩ := hvf.form
  simp only at hv
  subst hv
  obtain ⟨f1, f2, f3⟩ := f
  have hq := eq_frm f1 f2 f3
  have k1 : (k : Int) < (n : Int) := by omega
  have k2 : ¬ (k : Int) < 0 := by omega
  simp only [List.length_cons] at HRT HCL
  clear h h' ho hok hsm hLi hvf hR he hb0 hll hc hk
  generalize hMM : Mid w O dd = MM at HT HCL HG HRT
  go_enter Try.func12, Try.ntmps12
  go_wp2_with (first
    | (go_at_call 29; have HH := HRT.out _ M2.out; refine HH.mono ?_; clear HH; rintro e w3 ⟨A2, c2, rfl, q3, b3⟩; have S3 := Lib.hid b3.size; have p := (Blk.new w3 52 #[.int .i64 ow, .int .i64 mc, .int .i64 lm, .slice A2 l.length c2, .int .i64 dr]).alloc (.cells #[.int .i64 f1, .int .i64 f2, .string f3] 73); have p0 := p.cell 0; have p1 := p.cell 1; have p2 := p.cell 2; have p3 := p.cell 3; have p4 := p.cell 4; simp at p0 p1 p2 p3 p4; have b4 : Below w3.heap.size w3 ((w3.alloc (.cells #[.int .i64 ow, .int .i64 mc, .int .i64 lm, .slice A2 l.length c2, .int .i64 dr] 52)).alloc (.cells #[.int .i64 f1, .int .i64 f2, .string f3] 73)) := ((Below.refl _ _).alloc (Nat.le_refl _) _).alloc (by simp) _; have fin := q3 _ b4; have m4 := M2.out; rw [← hMM] at m4; have hg4 := m4.2.1.lt (show 0 < n by omega) rfl; have m4 := (m4.below b3).below b4; rw [hMM] at m4; obtain ⟨d0, d1, d2, d3, d4, d5⟩ := HCL.out _ m4; have g0 := d5 (k * 5); have g1 := d5 (k * 5 + 1); have g2 := d5 (k * 5 + 2); have g3 := d5 (k * 5 + 3); have g4 := d5 (k * 5 + 4); have hgw : w1.heap.size ≠ g := (by have := HGW.out; omega); have hs2 : w1.heap.size < (w1.alloc (.cells #[.int .i64 f1, .int .i64 f2, .string f3] 46)).heap.size := (by simp); have fb := (((((((FB.out.below b3 hs2).below b4 (Nat.lt_of_lt_of_le hs2 b3.size)).far (p := ⟨g, k * 5, none⟩) hgw (.int .i64 ow)).far (p := ⟨g, k * 5 + 1, none⟩) hgw (.int .i64 mc)).far (p := ⟨g, k * 5 + 2, none⟩) hgw (.int .i64 lm)).far (p := ⟨g, k * 5 + 3, none⟩) hgw (.slice A2 l.length c2)).far (p := ⟨g, k * 5 + 4, none⟩) hgw (.int .i64 dr)); have y0 := fb.cell 0; have y1 := fb.cell 1; have y2 := fb.cell 2; simp only [List.getElem?_toArray, List.getElem?_cons_zero, List.getElem?_cons_succ] at y0 y1 y2; have hg3 : ¬ g = (w3.alloc (.cells #[.int .i64 ow, .int .i64 mc, .int .i64 lm, .slice A2 l.length c2, .int .i64 dr] 52)).heap.size := (by have q1 := b3.size; have q2 := HGW.out; simp at q1 ⊢; omega); have gb := ((((((Blk.new (w3.alloc (.cells #[.int .i64 ow, .int .i64 mc, .int .i64 lm, .slice A2 l.length c2, .int .i64 dr] 52)) 73 #[.int .i64 f1, .int .i64 f2, .string f3]).far (p := ⟨g, k * 5, none⟩) (fun e => hg3 e.symm) (.int .i64 ow)).far (p := ⟨g, k * 5 + 1, none⟩) (fun e => hg3 e.symm) (.int .i64 mc)).far (p := ⟨g, k * 5 + 2, none⟩) (fun e => hg3 e.symm) (.int .i64 lm)).far (p := ⟨g, k * 5 + 3, none⟩) (fun e => hg3 e.symm) (.slice A2 l.length c2)).far (p := ⟨g, k * 5 + 4, none⟩) (fun e => hg3 e.symm) (.int .i64 dr)); have z0 := gb.cell 0; have z1 := gb.cell 1; have z2 := gb.cell 2; simp only [World.size_alloc, List.getElem?_toArray, List.getElem?_cons_zero, List.getElem?_cons_succ] at z0 z1 z2; have FIN := Lib.hid fin; clear q3 b3 b4 fin m4 hg4 d5 hgw hs2 fb hg3 gb p)
    | (go_at_call 19; (with_reducible refine HT.out.mono ?_); rintro e w1 ⟨rfl, m1⟩; have HGW := Lib.hid (HG.out _ m1); have FB := Lib.hid (Blk.new w1 46 #[.int .i64 f1, .int .i64 f2, .string f3]); have m2 := m1; rw [← hMM] at m2; have m2 := m2.below ((Below.refl _ _).alloc (Nat.le_refl _) (.cells #[.int .i64 f1, .int .i64 f2, .string f3] 46)); rw [hMM] at m2; have M2 := Lib.hid m2; obtain ⟨c0, c1, c2, c3, c4, c5⟩ := HCL.out _ m2; clear c5 m1 m2)
    | (go_at_call 15; (with_reducible refine HO.out.mono ?_); rintro e w9 ⟨rfl, rfl⟩))
  go_ret
  exact ⟨rfl, S, FIN.out⟩
end
end Go.Proofs.Ytjhihccjhnlghaa
