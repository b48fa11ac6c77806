/- Bytes come to a device and to the document's ports: they answer alike. -/
import Derived.Test.YtjhihccjhnlghaaNB3
namespace Go.Proofs.Ytjhihccjhnlghaa
open Go.RowKit Go.Lib
set_option linter.unusedVariables false

theorem like_room {w : World} {x : Rp} {y : Sp} {f : Frm} {v2 : Value} {w0 : World} (h : Like w0 x y) (hr : y.2.2.2.1.length < y.2.2.1) (hv : RowZ 3 w v2 (y.2.2.2.1.length + 1) (frL (y.2.2.2.1 ++ [f]))) : Like w (x.1, x.2.1, x.2.2.1, v2, x.2.2.2.2) (pshS y f) := by
  obtain ⟨h1, h2, h3, h4, h5⟩ := h
  refine ⟨?_, h2, h3, h4, ?_⟩
  · simp only [pshS, pshL, if_pos hr, List.length_append, List.length_cons, List.length_nil]
    exact hv
  · simp only [pshS, pshD, if_pos hr]
    exact h5
theorem like_full {w : World} {x : Rp} {y : Sp} {f : Frm} (h : Like w x y) (hr : ¬ y.2.2.2.1.length < y.2.2.1) : Like w (x.1, x.2.1, x.2.2.1, x.2.2.2.1, x.2.2.2.2 + 1) (pshS y f) := by
  obtain ⟨h1, h2, h3, h4, h5⟩ := h
  refine ⟨?_, h2, h3, h4, ?_⟩
  · simp only [pshS, pshL, if_neg hr]
    exact h1
  · simp only [pshS, pshD, if_neg hr]
    omega
section
variable {w w' : World} {F : Nat → Prop} {d : Nat → I3} {n dd : Nat} {A : Option Addr} {odd : Int} {S : List Frm} {c : Nat} {O : Nat → Prop} {P : Nat → Sp} {R : Nat → Rp}
theorem dv_owner (h : Dv w dd O odd S n P) {k : Nat} (hk : k < n) : Calls Try.prog 23 #[.pointer (some ⟨dd, 0, none⟩), .int .i64 (P k).2.1] w fun e w' => e = .returned (.int .i64 (P k).1) ∧ w.grownBy w' none := by
  obtain ⟨m, lv, A, g, C, hg, hm, hO, hgp⟩ := h.open hk
  rw [← hgp]
  have := nown_any g.mac hg.1 hg.2.1 hg.owners hg.macs
  rwa [show ownL ((A ++ g :: C).map Gp.row) g.mac = g.row.1 from ownL_in (x := g.row) (List.mem_map.2 ⟨g, by simp, rfl⟩) rfl hg.macs] at this
theorem Bo.own (h : Bo w F d n dd A odd S c O P R) {i : Nat} (hi : i < n) : (R i).1 = (d i).1 ∧ (R i).2.1 = (d i).2.1 := by
  obtain ⟨h1, h2, h3, h4, _⟩ := h
  obtain ⟨_, q1, q2, _⟩ := h3 i hi
  exact ⟨q1.trans (h4 i hi).1, q2.trans (h4 i hi).2⟩
/-- What a row of the document's ports shows of one. -/
theorem Bo.cells (h : Bo w F d n dd A odd S c O P R) {i : Nat} (hi : i < n) : ∃ g, A = some ⟨g, 0, none⟩ ∧ w.cell? ⟨g, i * 5, none⟩ = some (.int .i64 (d i).1) ∧ w.cell? ⟨g, i * 5 + 1, none⟩ = some (.int .i64 (d i).2.1) ∧ w.cell? ⟨g, i * 5 + 2, none⟩ = some (.int .i64 (P i).2.2.1) ∧ w.cell? ⟨g, i * 5 + 3, none⟩ = some (R i).2.2.2.1 ∧ w.cell? ⟨g, i * 5 + 4, none⟩ = some (.int .i64 (P i).2.2.2.2) ∧ ∀ j, w.frozen? ⟨g, j, none⟩ = false := by
  obtain ⟨q1, q2⟩ := h.own hi
  obtain ⟨h1, h2, h3, h4, _⟩ := h
  obtain ⟨_, _, _, q3, q4⟩ := h3 i hi
  obtain ⟨g, e, hg, hc⟩ := h2.ports (by omega)
  obtain ⟨g', cs, e', hb, _⟩ := h2 (by omega)
  rw [e] at e'
  injection e' with e'
  injection e' with e'
  subst e'
  obtain ⟨c0, c1, c2, c3, c4⟩ := hc i hi
  rw [q1] at c0
  rw [q2] at c1
  rw [q3] at c2
  rw [q4] at c4
  exact ⟨g, e, c0, c1, c2, c3, c4, hb.free⟩
theorem bo_for (h : Bo w F d n dd A odd S c O P R) (cl : Nat) (s : ByteArray) (hs : s.size ≤ 1000) (hn : n ≤ 1000) : Calls Try.prog 11 #[.slice A n cl, .string s] w fun e w' => e = .returned (.int .i64 (jZ (jfor (fun i => (d i).2.1) n s))) ∧ Below w.heap.size w w' :=
  rfor_any A n cl R (fun i => (d i).2.1) s w hs h.2.1.ports (fun i hi => (h.own hi).2) hn

/-- It is nobody's. -/
theorem lcome_odd (h : Bo w F d n dd A odd S c O P R) (cl : Nat) (s : ByteArray) (hs : s.size ≤ 200) (hc : c ≤ 1000) (hn : n ≤ 1000) (hj : jfor (fun i => (d i).2.1) n s = none) :
    Calls Try.prog 28 #[.pointer (some ⟨dd, 0, none⟩), .slice A n cl, .string s] w fun e w' => e = .returned (.bool true) ∧ BoN w F d n dd A w' (odd + 1) S (c + 1) := by
  have HC := Lib.hid (show Calls Try.prog 16 #[.pointer (some ⟨dd, 0, none⟩), .string s] w fun e w' => e = .returned (.tuple #[.int .i64 0, .bool false]) ∧ BoN w F d n dd A w' (odd + 1) S (c + 1) from by
    have := dv_come s (by omega) h.1 (fun i hi => (h.2.2.2.1 i hi).2) h.2.2.2.2.1 (by omega)
    rw [hj] at this
    exact this.mono fun e w' ⟨e1, e2⟩ => ⟨e1, h.dev e2 (h.2.2.2.2.1.come none (Fr.paV s).1) (by have := h.2.2.2.2.2.1; omega)⟩)
  have HF := Lib.hid (fun (W : World) (F' : Nat → Prop) (odd' : Int) (c' : Nat) (O' : Nat → Prop) (P' : Nat → Sp) (R' : Nat → Rp) (h : Bo W F' d n dd A odd' S c' O' P' R') => bo_for h cl s (by omega) hn)
  rw [hj] at HF
  clear h
  go_enter Try.func28, Try.ntmps28
  go_wp2_with (first
    | (go_at_call 16; with_reducible refine HC.out.mono ?_; rintro e w1 ⟨rfl, b1⟩; have B1 := Lib.hid b1; clear b1)
    | (go_at_call 11; obtain ⟨F1, O1, P1, R1, o1, _⟩ := B1.out; have HH := HF.out _ _ _ _ _ _ _ o1; refine HH.mono ?_; clear HH; rintro e w2 ⟨rfl, b2⟩; have B2 := Lib.hid (B1.out.upto b2); clear b2 o1))
  go_ret
  exact ⟨rfl, B2.out⟩
/-- The device was told of it, the document's port k not yet. -/
def Mid (w : World) (O : Nat → Prop) (dd : Nat) (w1 : World) (odd : Int) (S : List Frm) (n : Nat) (P P1 : Nat → Sp) (A : Option Addr) (R : Nat → Rp) (k : Nat) : Prop := DvN w O dd w1 odd S n P1 ∧ Dc w1 A n R ∧ Like w1 (R k) (P k) ∧ ∀ i, (R k).2.2.2.1.ownBlock = some i → i < w1.heap.size
theorem Mid.below {P1 : Nat → Sp} {w1 w2 : World} {k : Nat} (h : Mid w O dd w1 odd S n P P1 A R k) (hb : Below w1.heap.size w1 w2) : Mid w O dd w2 odd S n P P1 A R k :=
  ⟨h.1.upto hb, fun hp => (h.2.1.keeps (Keeps.of_below hb (fun _ => False)) fun _ _ h => h) hp, h.2.2.1.keeps (Keeps.of_below hb (fun _ => False)) fun _ _ h => h, fun i hi => Nat.lt_of_lt_of_le (h.2.2.2 i hi) hb.size⟩
theorem Bo.mid {P1 : Nat → Sp} {w1 : World} {k : Nat} {odd' : Int} {S' : List Frm} (h : Bo w F d n dd A odd S c O P R) (hk : k < n) (hw : DvN w O dd w1 odd' S' n P1) : Mid w O dd w1 odd' S' n P P1 A R k := by
  obtain ⟨h1, h2, h3, h4, h5, h6, h7, h8, h9⟩ := h
  have hw0 := hw
  obtain ⟨O', k1, k2, k3⟩ := hw
  exact ⟨hw0, fun hp => (h2.keeps k2 fun i hi => h7 i (.inl ⟨hp, hi⟩)) hp, (h3 k hk).keeps k2 fun i hi => h7 i (.inr ⟨k, hk, hi⟩), fun i hi => Nat.lt_of_lt_of_le ((h3 k hk).1.lt i hi) k2.size⟩
theorem Mid.cells {P1 : Nat → Sp} {w1 : World} {g k : Nat} {ow mc lm dr : Int} {v : Value} (h : Mid w O dd w1 odd S n P P1 (some ⟨g, 0, none⟩) R k) (hk : k < n) (hR : R k = (ow, mc, lm, v, dr)) : w1.cell? ⟨g, k * 5, none⟩ = some (.int .i64 ow) ∧ w1.cell? ⟨g, k * 5 + 1, none⟩ = some (.int .i64 mc) ∧ w1.cell? ⟨g, k * 5 + 2, none⟩ = some (.int .i64 lm) ∧ w1.cell? ⟨g, k * 5 + 3, none⟩ = some v ∧ w1.cell? ⟨g, k * 5 + 4, none⟩ = some (.int .i64 dr) ∧ ∀ j, w1.frozen? ⟨g, j, none⟩ = false := by
  obtain ⟨_, h2, _⟩ := h
  obtain ⟨g', e, hg, hc⟩ := h2.ports (by omega)
  injection e with e
  injection e with e
  subst e
  obtain ⟨g', cs, e', hb, _⟩ := h2 (by omega)
  injection e' with e'
  injection e' with e'
  subst e'
  have := hc k hk
  rw [hR] at this
  exact ⟨this.1, this.2.1, this.2.2.1, this.2.2.2.1, this.2.2.2.2, hb.free⟩

set_option maxRecDepth 20000 in
set_option maxHeartbeats 3200000 in
/-- It is somebody's. -/
theorem lcome_hit {g : Nat} (h : Bo w F d n dd (some ⟨g, 0, none⟩) odd S c O P R) (cl : Nat) (s : ByteArray) (hs : s.size ≤ 200) (hc : c ≤ 1000) (hn : n ≤ 1000) {k : Nat} (hj : jfor (fun i => (d i).2.1) n s = some k) :
    Calls Try.prog 28 #[.pointer (some ⟨dd, 0, none⟩), .slice (some ⟨g, 0, none⟩) n cl, .string s] w fun e w' => e = .returned (.bool true) ∧ BoN w F d n dd (some ⟨g, 0, none⟩) w' odd S (c + 1) := by
  obtain ⟨_, hk, _⟩ := jfor_some hj
  have hsm := h.2.2.2.2.1.1 k hk
  have hlk := h.2.2.2.1 k hk
  obtain ⟨⟨ow, mc, lm, v, dr⟩, hR⟩ : ∃ x, R k = x := ⟨_, rfl⟩
  have hLi := h.2.2.1 k hk
  rw [hR] at hLi
  have hown := h.own hk
  rw [hR] at hown
  obtain ⟨how, hmc⟩ := hown
  simp only at how hmc
  have hlike : ow = (P k).1 ∧ lm = ((P k).2.2.1 : Int) ∧ dr = ((P k).2.2.2.2 : Int) := ⟨hLi.2.1, hLi.2.2.2.1, hLi.2.2.2.2⟩
  have HC := Lib.hid (show Calls Try.prog 16 #[.pointer (some ⟨dd, 0, none⟩), .string s] w fun e w' => e = .returned (.tuple #[.int .i64 ow, .bool (decide ((P k).2.2.2.1.length < (P k).2.2.1))]) ∧ Mid w O dd w' odd S n P (comeP (some k) P (Fr.paV s).1) (some ⟨g, 0, none⟩) R k from by
    have := dv_come s (by omega) h.1 (fun i hi => (h.2.2.2.1 i hi).2) h.2.2.2.2.1 (by omega)
    rw [hj] at this
    exact this.mono fun e w' ⟨e1, e2⟩ => ⟨by rw [e1, hlike.1]; rfl, h.mid hk e2⟩)
  have HF := Lib.hid (fun (W : World) (hm : Mid w O dd W odd S n P (comeP (some k) P (Fr.paV s).1) (some ⟨g, 0, none⟩) R k) => rfor_any (some ⟨g, 0, none⟩) n cl R (fun i => (d i).2.1) s W (by omega) hm.2.1.ports (fun i hi => (h.own hi).2) hn)
  rw [hj] at HF
  have HOW := Lib.hid (fun (W : World) (odd' : Int) (S' : List Frm) (c' : Nat) (hb : BoN w F d n dd (some ⟨g, 0, none⟩) W odd' S' c') => (show Calls Try.prog 23 #[.pointer (some ⟨dd, 0, none⟩), .int .i64 mc] W fun e w' => e = .returned (.int .i64 ow) ∧ Below W.heap.size W w' from by
    obtain ⟨F1, O1, P1, R1, q1, _⟩ := hb
    have := dv_owner q1.1 hk
    rw [(q1.2.2.2.1 k hk).1, (q1.2.2.2.1 k hk).2, ← how, ← hmc] at this
    exact this.mono fun e w' ⟨e1, e2⟩ => ⟨e1, below_of_only e2 (Nat.le_refl _) (by simp)⟩))
  have HCL := Lib.hid (fun (W : World) (hm : Mid w O dd W odd S n P (comeP (some k) P (Fr.paV s).1) (some ⟨g, 0, none⟩) R k) => hm.cells hk hR)
  have HBO := Lib.hid (fun (w2 w3 : World) (v2 : Value) (dr2 : Int) (hm : Mid w O dd w2 odd S n P (comeP (some k) P (Fr.paV s).1) (some ⟨g, 0, none⟩) R k) (hb : Below w2.heap.size w2 w3) (hx : Like w3 (ow, mc, lm, v2, dr2) (pshS (P k) (Fr.paV s).1)) (hxo : ∀ i, v2.ownBlock = some i → v.ownBlock = some i ∨ w2.heap.size ≤ i) =>
    (show BoN w F d n dd (some ⟨g, 0, none⟩) (((((w3.setCell ⟨g, k * 5, none⟩ (.int .i64 ow)).setCell ⟨g, k * 5 + 1, none⟩ (.int .i64 mc)).setCell ⟨g, k * 5 + 2, none⟩ (.int .i64 lm)).setCell ⟨g, k * 5 + 3, none⟩ v2).setCell ⟨g, k * 5 + 4, none⟩ (.int .i64 dr2)) odd S (c + 1) from
      h.both hk hm.1 hb (fun i hi => by simp [comeP, hi]) (ow, mc, lm, v2, dr2) (by simpa [comeP] using hx) (fun i hi => by rw [hR]; exact hxo i hi) (h.2.2.2.1.come (some k) _) (h.2.2.2.2.1.come (some k) (Fr.paV s).1) (by have := h.2.2.2.2.2.1; omega)))
  have k1 : (k : Int) < (n : Int) := by omega
  have k2 : ¬ (k : Int) < 0 := by omega
  have hz : jZ (some k) = (k : Int) := rfl
  rw [hz] at HF
  have HLN := Lib.hid hLi
  obtain ⟨hq1, hq2, hq3⟩ := hlike
  have hgl : ∀ (W : World), Mid w O dd W odd S n P (comeP (some k) P (Fr.paV s).1) (some ⟨g, 0, none⟩) R k → g < W.heap.size := fun W hm => hm.2.1.lt (by omega) rfl
  have hfar : ∀ (W W' : World), Mid w O dd W odd S n P (comeP (some k) P (Fr.paV s).1) (some ⟨g, 0, none⟩) R k → Below W.heap.size W W' → W'.cell? ⟨g, k * 5, none⟩ = some (.int .i64 ow) ∧ W'.cell? ⟨g, k * 5 + 1, none⟩ = some (.int .i64 mc) ∧ W'.cell? ⟨g, k * 5 + 2, none⟩ = some (.int .i64 lm) ∧ W'.cell? ⟨g, k * 5 + 3, none⟩ = some v ∧ W'.cell? ⟨g, k * 5 + 4, none⟩ = some (.int .i64 dr) ∧ ∀ j, W'.frozen? ⟨g, j, none⟩ = false := fun W W' hm hb => HCL.out W' (hm.below hb)
  have HRC : Hid (∀ (W : World), Mid w O dd W odd S n P (comeP (some k) P (Fr.paV s).1) (some ⟨g, 0, none⟩) R k → Calls Try.prog 41 #[.agg #[.int .i64 ow, .int .i64 mc, .int .i64 lm, v, .int .i64 dr], .string s] W fun e w' => ∃ A2 m2 c2 dr2, e = .returned (.tuple #[.agg #[.int .i64 ow, .int .i64 mc, .int .i64 lm, .slice A2 m2 c2, .int .i64 dr2], .bool (decide ((P k).2.2.2.1.length < (P k).2.2.1))]) ∧ BoN w F d n dd (some ⟨g, 0, none⟩) (((((w'.setCell ⟨g, k * 5, none⟩ (.int .i64 ow)).setCell ⟨g, k * 5 + 1, none⟩ (.int .i64 mc)).setCell ⟨g, k * 5 + 2, none⟩ (.int .i64 lm)).setCell ⟨g, k * 5 + 3, none⟩ (.slice A2 m2 c2)).setCell ⟨g, k * 5 + 4, none⟩ (.int .i64 dr2)) odd S (c + 1) ∧
      w'.cell? ⟨g, k * 5, none⟩ = some (.int .i64 ow) ∧ w'.cell? ⟨g, k * 5 + 1, none⟩ = some (.int .i64 mc) ∧ w'.cell? ⟨g, k * 5 + 2, none⟩ = some (.int .i64 lm) ∧ w'.cell? ⟨g, k * 5 + 3, none⟩ = some v ∧ w'.cell? ⟨g, k * 5 + 4, none⟩ = some (.int .i64 dr) ∧ ∀ j, w'.frozen? ⟨g, j, none⟩ = false) := Lib.hid fun W hm => by
    have hL := hm.2.2.1
    rw [hR] at hL
    obtain ⟨Av, cv, hv⟩ := hL.1.form
    simp only at hv
    subst hv
    have hlt := hm.2.2.2
    rw [hR] at hlt
    by_cases hr : (P k).2.2.2.1.length < (P k).2.2.1
    · rw [decide_eq_true hr]
      exact (rcome_room ow mc lm dr _ (P k).2.2.2.1 s W (by omega) hL.1 hlt (by omega) (by omega)).mono fun e w' ⟨v2, e1, e2, e3, e4⟩ => by
        obtain ⟨A2, c2, rfl⟩ := e2.form
        exact ⟨A2, _, c2, dr, e1, HBO.out W w' _ dr hm e4 (like_room hL hr e2) (fun i hi => .inr (e3 i hi)), hfar W w' hm e4⟩
    · rw [decide_eq_false hr]
      exact (rcome_full ow mc lm dr _ (P k).2.2.2.1 s W hL.1 (by omega) (by omega)).mono fun e w' ⟨e1, e4⟩ => ⟨Av, _, cv, dr + 1, e1, HBO.out W w' _ (dr + 1) hm e4 (like_full (hL.keeps (Keeps.of_below e4 (fun _ => False)) fun _ _ h => h) hr) (fun i hi => .inl hi), hfar W w' hm e4⟩
  obtain ⟨Av, cv, rfl⟩ := hLi.1.form
  generalize decide ((P k).2.2.2.1.length < (P k).2.2.1) = yes at HC HRC
  clear h hsm hlk hR hLi how hmc hq1 hq2 hq3 hgl hfar HBO HLN hs hc hj hz
  generalize hMM : Mid w O dd = MM at HC HF HCL HRC
  go_enter Try.func28, Try.ntmps28
  go_wp2_with (first
    | (go_at_call 23; have HH := HOW.out _ _ _ _ B3.out; refine HH.mono ?_; clear HH; rintro e w4 ⟨rfl, b4⟩; have B4 := Lib.hid (B3.out.upto b4); clear b4)
    | (go_at_call 41; have HH := HRC.out _ M2.out; refine HH.mono ?_; clear HH; rintro e w3 ⟨A2, m2, c2, dr2, rfl, b3, e0, e1, e2, e3, e4, e5⟩; have B3 := Lib.hid b3; have g0 := e5 (k * 5); have g1 := e5 (k * 5 + 1); have g2 := e5 (k * 5 + 2); have g3 := e5 (k * 5 + 3); have g4 := e5 (k * 5 + 4); clear b3 e5)
    | (go_at_call 11; have HH := HF.out _ M1.out; with_reducible refine HH.mono ?_; clear HH; rintro e w2 ⟨rfl, b2⟩; have m2 := M1.out; rw [← hMM] at m2; have m2 := m2.below b2; rw [hMM] at m2; have M2 := Lib.hid m2; obtain ⟨c0, c1, c2, c3, c4, c5⟩ := HCL.out _ m2; clear b2 c5 m2)
    | (go_at_call 16; with_reducible refine HC.out.mono ?_; rintro e w1 ⟨rfl, m1⟩; have M1 := Lib.hid m1; clear m1))
  go_ret
  exact ⟨by simp, B4.out⟩
end
end Go.Proofs.Ytjhihccjhnlghaa
