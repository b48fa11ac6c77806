/- What comes for other addresses changes nothing of a port: the law. -/
import Derived.Test.YtjhihccjhnlghaaNA2
namespace Go.Proofs.Ytjhihccjhnlghaa
open Go.RowKit Go.Lib
set_option linter.unusedVariables false
attribute [-go_sem] Go.run_eql_struct Go.run_neq_struct

/-- Ports of the rows' owners and addresses. -/
def Lk (d : Nat → I3) (n : Nat) (P : Nat → Sp) : Prop := ∀ i, i < n → (P i).1 = (d i).1 ∧ (P i).2.1 = (d i).2.1
theorem Lk.come {d : Nat → I3} {n : Nat} {P : Nat → Sp} (h : Lk d n P) (j : Option Nat) (f : Frm) : Lk d n (comeP j P f) := fun i hi => by
  cases j with
  | none => exact h i hi
  | some k =>
    simp only [comeP]
    by_cases he : i = k
    · subst he
      rw [if_pos rfl]
      exact h i hi
    · rw [if_neg he]
      exact h i hi
theorem Lk.take {d : Nat → I3} {n : Nat} {P : Nat → Sp} (h : Lk d n P) (k : Nat) (l : List Frm) : Lk d n (takeP k P l) := fun i hi => by
  simp only [takeP]
  by_cases he : i = k
  · subst he
    rw [if_pos rfl]
    exact h i hi
  · rw [if_neg he]
    exact h i hi
theorem Lk.new (d : Nat → I3) (n : Nat) : Lk d n (sp0 d) := fun i hi => ⟨rfl, rfl⟩
theorem Sm.new (d : Nat → I3) (n : Nat) : Sm n (sp0 d) 0 0 := ⟨fun i hi => ⟨Nat.le_refl _, Nat.le_refl _⟩, by omega, by omega⟩
theorem Sm.take {n : Nat} {P : Nat → Sp} {odd : Int} {c k : Nat} {f : Frm} {l : List Frm} (h : Sm n P odd c) (hk : k < n) (hl : (P k).2.2.2.1 = f :: l) : Sm n (takeP k P l) odd c := by
  refine ⟨fun i hi => ?_, h.2⟩
  simp only [takeP]
  by_cases he : i = k
  · subst he
    rw [if_pos rfl]
    have := h.1 i hi
    rw [hl, List.length_cons] at this
    exact ⟨by simp only; omega, this.2⟩
  · rw [if_neg he]
    exact h.1 i hi

/-- Two devices of the same rows that lie apart, above B. -/
def Da (w : World) (B : Nat) (d : Nat → I3) (n da db : Nat) (Pa Pb : Nat → Sp) (ca cb : Nat) : Prop :=
  ∃ Oa Ob odda oddb, Dv w da Oa odda [] n Pa ∧ Dv w db Ob oddb [] n Pb ∧ (∀ i, Oa i → ¬ Ob i) ∧ (∀ i, Oa i → B ≤ i) ∧ (∀ i, Ob i → B ≤ i) ∧ Lk d n Pa ∧ Lk d n Pb ∧ Sm n Pa odda ca ∧ Sm n Pb oddb cb
section
variable {w w' : World} {B : Nat} {d : Nat → I3} {n da db : Nat} {Pa Pb : Nat → Sp} {ca cb : Nat}
theorem Da.below (h : Da w B d n da db Pa Pb ca cb) (hb : Below w.heap.size w w') : Da w' B d n da db Pa Pb ca cb := by
  obtain ⟨Oa, Ob, odda, oddb, h1, h2, h3⟩ := h
  exact ⟨Oa, Ob, odda, oddb, h1.below hb, h2.below hb, h3⟩
theorem Da.size (h : Da w B d n da db Pa Pb ca cb) : B ≤ w.heap.size := by
  obtain ⟨Oa, Ob, odda, oddb, h1, h2, h3, h4, _⟩ := h
  have := h4 _ h1.self
  have := h1.lt _ h1.self
  omega
theorem Da.swap (h : Da w B d n da db Pa Pb ca cb) : Da w B d n db da Pb Pa cb ca := by
  obtain ⟨Oa, Ob, odda, oddb, h1, h2, h3, h4, h5, h6, h7, h8, h9⟩ := h
  exact ⟨Ob, Oa, oddb, odda, h2, h1, fun i hb ha => h3 i ha hb, h5, h4, h7, h6, h9, h8⟩
/-- The first one was written. -/
theorem Da.wrote {Oa Ob : Nat → Prop} {odda oddb odd' : Int} {P' : Nat → Sp} {c' : Nat} (h1 : Dv w da Oa odda [] n Pa) (h2 : Dv w db Ob oddb [] n Pb) (h3 : ∀ i, Oa i → ¬ Ob i) (h4 : ∀ i, Oa i → B ≤ i) (h5 : ∀ i, Ob i → B ≤ i) (h7 : Lk d n Pb) (h9 : Sm n Pb oddb cb)
    (hw : DvN w Oa da w' odd' [] n P') (hl : Lk d n P') (hs : Sm n P' odd' c') : Da w' B d n da db P' Pb c' cb ∧ Below B w w' := by
  obtain ⟨O', k1, k2, k3⟩ := hw
  have hB : B ≤ w.heap.size := by
    have := h4 _ h1.self
    have := h1.lt _ h1.self
    omega
  refine ⟨⟨O', Ob, odd', oddb, k1, h2.keeps k2 fun i hi hi' => h3 i hi' hi, fun i hi hi' => ?_, fun i hi => ?_, h5, hl, h7, hs, h9⟩, k2.below hB fun i hi hi' => ?_⟩
  · rcases k3 i hi with q | q
    · exact h3 i q hi'
    · have := h2.lt i hi'
      omega
  · rcases k3 i hi with q | q
    · exact h4 i q
    · omega
  · have := h4 i hi'
    omega
theorem Da.come (h : Da w B d n da db Pa Pb ca cb) (s : ByteArray) (hs : s.size ≤ 1000) (hc : ca ≤ 1000000) :
    Calls Try.prog 16 #[.pointer (some ⟨da, 0, none⟩), .string s] w fun e w' => e = .returned (comeR (jfor (fun i => (d i).2.1) n s) Pa) ∧ Da w' B d n da db (comeP (jfor (fun i => (d i).2.1) n s) Pa (Fr.paV s).1) Pb (ca + 1) cb ∧ Below B w w' := by
  obtain ⟨Oa, Ob, odda, oddb, h1, h2, h3, h4, h5, h6, h7, h8, h9⟩ := h
  refine (dv_come s hs h1 (fun i hi => (h6 i hi).2) h8 hc).mono fun e w' ⟨e1, e2⟩ => ⟨e1, Da.wrote h1 h2 h3 h4 h5 h7 h9 e2 (h6.come _ _) (h8.come _ _)⟩
theorem Da.waits (h : Da w B d n da db Pa Pb ca cb) {k : Nat} (hk : k < n) {o : Int} (ho : (d k).1 = o) : Calls Try.prog 17 #[.pointer (some ⟨da, 0, none⟩), .int .i64 o] w fun e w' => e = .returned (.int .i64 (Pa k).2.2.2.1.length) ∧ Below w.heap.size w w' := by
  obtain ⟨Oa, Ob, odda, oddb, h1, h2, h3, h4, h5, h6, h7, h8, h9⟩ := h
  have := dv_waits h1 hk
  rwa [(h6 k hk).1, ho] at this
theorem Da.drops (h : Da w B d n da db Pa Pb ca cb) {k : Nat} (hk : k < n) {o : Int} (ho : (d k).1 = o) : Calls Try.prog 18 #[.pointer (some ⟨da, 0, none⟩), .int .i64 o] w fun e w' => e = .returned (.int .i64 (Pa k).2.2.2.2) ∧ Below w.heap.size w w' := by
  obtain ⟨Oa, Ob, odda, oddb, h1, h2, h3, h4, h5, h6, h7, h8, h9⟩ := h
  have := dv_drops h1 hk
  rwa [(h6 k hk).1, ho] at this
/-- What was laid since then stays. -/
def Since (w0 w w' : World) : Prop := ∀ i, w0.heap.size ≤ i → i < w.heap.size → w'.heap[i]? = w.heap[i]?
theorem Da.take {w0 : World} (h0 : Da w0 B d n da db Pa Pb ca cb) (hb : Below w0.heap.size w0 w) {k : Nat} (hk : k < n) {o : Int} (ho : (d k).1 = o) (f : Frm) (l : List Frm) (hl : (Pa k).2.2.2.1 = f :: l) (hn : l.length ≤ 1000) : Calls Try.prog 19 #[.pointer (some ⟨da, 0, none⟩), .int .i64 o] w fun e w' => e = .returned (.tuple #[frv f, .int .i64 0]) ∧ Da w' B d n da db (takeP k Pa l) Pb ca cb ∧ Below B w w' ∧ Since w0 w w' := by
  have hlt : ∀ Oa odda, Dv w0 da Oa odda [] n Pa → ∀ i, Oa i → i < w0.heap.size := fun Oa odda h => h.lt
  obtain ⟨Oa, Ob, odda, oddb, h1', h2', h3, h4, h5, h6, h7, h8, h9⟩ := h0
  have hl0 := hlt _ _ h1'
  have h1 := h1'.below hb
  have h2 := h2'.below hb
  have := dv_take f l h1 hk hl (by omega)
  rw [(h6 k hk).1, ho] at this
  refine this.mono fun e w' ⟨e1, e2⟩ => ?_
  obtain ⟨q1, q2⟩ := Da.wrote h1 h2 h3 h4 h5 h7 h9 e2 (h6.take _ _) (h8.take hk hl)
  obtain ⟨O', k1, k2, k3⟩ := e2
  exact ⟨e1, q1, q2, fun i hi hi' => k2.2.2.2.2 i hi' fun ho => by have := hl0 i ho; omega⟩
/-- Two devices just made. -/
theorem Da.new {w1 w2 : World} {Oa Ob : Nat → Prop} (h1 : Dv w1 da Oa 0 [] n (sp0 d)) (h2 : ∀ i, Oa i → B ≤ i) (h3 : Dv w2 db Ob 0 [] n (sp0 d)) (h4 : ∀ i, Ob i → w1.heap.size ≤ i) (hb : Below w1.heap.size w1 w2) : Da w2 B d n da db (sp0 d) (sp0 d) 0 0 := by
  have hB : B ≤ w1.heap.size := by
    have := h2 _ h1.self
    have := h1.lt _ h1.self
    omega
  refine ⟨Oa, Ob, 0, 0, h1.below hb, h3, fun i hi hi' => ?_, h2, fun i hi => Nat.le_trans hB (h4 i hi), Lk.new d n, Lk.new d n, Sm.new d n, Sm.new d n⟩
  have := h1.lt i hi
  have := h4 i hi'
  omega
end

set_option maxRecDepth 20000 in
set_option maxHeartbeats 3200000 in
/-- Where nothing is asked. -/
theorem napart_off (A : Option Addr) (len cap n : Nat) (d : Nat → I3) (At : Option Addr) (lt ct : Nat) (o : Int) (w : World) (hst : RowsN w A len cap d) (hlc : len ≤ cap) (hcm : cap ≤ 9223372036854775807) (hn : n = min len 8)
    (hoff : newE d n ≠ 0 ∨ (newE d n = 0 ∧ ownI (frp d) n o < 0)) :
    Calls Try.prog 4 #[.slice A len cap, .slice At lt ct, .int .i64 o] w (BackV w) := by
  have HP := Lib.hid (ports_any A len cap d w hst hlc hcm)
  rw [← hn] at HP
  have hn8 : n ≤ 8 := by omega
  have HO1 := Lib.hid (fun (A2 : Option Addr) (c2 : Nat) (W : World) (h : PortsV W A2 n (frp d)) => rowner_any A2 n c2 (frp d) o W h (by omega))
  have HK := Lib.hid (fun (A2 : Option Addr) (c2 : Nat) (W : World) (h : PortsV W A2 n (frp d)) => show Calls Try.prog 9 #[.slice A2 n c2] W (fun e w' => e = .returned (.int .i64 (newE d n)) ∧ Below W.heap.size W w') from rcheck_any A2 n c2 d W h (by omega))
  have HL := Lib.hid (fun W => nlive_any W)
  generalize newE d n = c at HK hoff
  generalize ownI (frp d) n o = iv at HO1 hoff
  clear hst hn hn8 hlc hcm
  rcases hoff with h1 | ⟨rfl, h2⟩
  all_goals
    try have h1' : (c != 0) = true := by simpa using h1
    go_enter Try.func4, Try.ntmps4
    go_wp2_with (first
      | (go_at_call 7; have HH := HP.out; unfold PortsR at HH; refine HH.mono ?_; clear HH; rintro e w1 ⟨A2, c2, rfl, o1, b1⟩; have P1 := Lib.hid o1.ports; have B1 := Lib.hid b1; clear o1 b1)
      | (go_at_call 15; (with_reducible refine (HO1.out _ _ _ P1.out).mono ?_); rintro e w2 ⟨rfl, rfl⟩)
      | (go_at_call 9; (with_reducible refine (HK.out _ _ _ P1.out).mono ?_); rintro e w4 ⟨rfl, b4⟩; have B4 := Lib.hid (B1.out.trans (b4.mono B1.out.size)); clear b4)
      | (go_at_call 10; (with_reducible refine (HL.out _).mono ?_); rintro e w5 ⟨rfl, b5⟩; have B5 := Lib.hid (B4.out.trans (b5.mono B4.out.size)); clear b5))
    go_ret
    exact ⟨rfl, B5.out⟩
end Go.Proofs.Ytjhihccjhnlghaa
