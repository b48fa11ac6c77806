import Derived.Test.YtjhihccjhnlghaaZG17
import Derived.Test.YtjhihccjhnlghaaZG19
set_option linter.all false
/- What comes for other addresses changes nothing of a port: the law. -/
namespace Go.Proofs.Ytjhihccjhnlghaa
open Go.RowKit Go.Lib
set_option linter.unusedVariables false
attribute [-go_sem] Go.run_eql_struct Go.run_neq_struct

/-- Ports of the rows' owners and addresses. -/
def Lk (d : Nat → I3) (n : Nat) (P : Nat → Sp) : Prop := ∀ i, i < n → (P i).1 = (d i).1 ∧ (P i).2.1 = (d i).2.1
theorem Lk.come {d : Nat → I3} {n : Nat} {P : Nat → Sp} (h : Lk d n P) (j : Option Nat) (f : Frm) : Lk d n (comeP j P f) := fun i hi => by
  cases j with
  | none => exact h i hi
  | some k =>
    simp only [comeP]
    by_cases he : i = k
    · subst he
      rw [if_pos rfl]
      exact h i hi
    · rw [if_neg he]
      exact h i hi
theorem Lk.take {d : Nat → I3} {n : Nat} {P : Nat → Sp} (h : Lk d n P) (k : Nat) (l : List Frm) : Lk d n (takeP k P l) := fun i hi => by
  simp only [takeP]
  by_cases he : i = k
  · subst he
    rw [if_pos rfl]
    exact h i hi
  · rw [if_neg he]
    exact h i hi
theorem Lk.new (d : Nat → I3) (n : Nat) : Lk d n (sp0 d) := fun i hi => ⟨rfl, rfl⟩
theorem Sm.new (d : Nat → I3) (n : Nat) : Sm n (sp0 d) 0 0 := ⟨fun i hi => ⟨Nat.le_refl _, Nat.le_refl _⟩, by omega, by omega⟩
theorem Sm.take {n : Nat} {P : Nat → Sp} {odd : Int} {c k : Nat} {f : Frm} {l : List Frm} (h : Sm n P odd c) (hk : k < n) (hl : (P k).2.2.2.1 = f :: l) : Sm n (takeP k P l) odd c := by
  refine ⟨fun i hi => ?_, h.2⟩
  simp only [takeP]
  by_cases he : i = k
  · subst he
    rw [if_pos rfl]
    have := h.1 i hi
    rw [hl, List.length_cons] at this
    exact ⟨by simp only; omega, this.2⟩
  · rw [if_neg he]
    exact h.1 i hi

/-- Two devices of the same rows that lie apart, above B. -/
def Da (w : World) (B : Nat) (d : Nat → I3) (n da db : Nat) (Pa Pb : Nat → Sp) (ca cb : Nat) : Prop :=
  ∃ Oa Ob odda oddb, Dv w da Oa odda [] n Pa ∧ Dv w db Ob oddb [] n Pb ∧ (∀ i, Oa i → ¬ Ob i) ∧ (∀ i, Oa i → B ≤ i) ∧ (∀ i, Ob i → B ≤ i) ∧ Lk d n Pa ∧ Lk d n Pb ∧ Sm n Pa odda ca ∧ Sm n Pb oddb cb
section
variable {w w' : World} {B : Nat} {d : Nat → I3} {n da db : Nat} {Pa Pb : Nat → Sp} {ca cb : Nat}
theorem Da.below (h : Da w B d n da db Pa Pb ca cb) (hb : Below w.heap.size w w') : Da w' B d n da db Pa Pb ca cb := by
  obtain ⟨Oa, Ob, odda, oddb, h1, h2, h3⟩ := h
  exact ⟨Oa, Ob, odda, oddb, h1.below hb, h2.below hb, h3⟩
theorem Da.size (h : Da w B d n da db Pa Pb ca cb) : B ≤ w.heap.size := by
  obtain ⟨Oa, Ob, odda, oddb, h1, h2, h3, h4, _⟩ := h
  have := h4 _ h1.self
  have := h1.lt _ h1.self
  omega
theorem Da.swap (h : Da w B d n da db Pa Pb ca cb) : Da w B d n db da Pb Pa cb ca := by
  obtain ⟨Oa, Ob, odda, oddb, h1, h2, h3, h4, h5, h6, h7, h8, h9⟩ := h
  exact ⟨Ob, Oa, oddb, odda, h2, h1, fun i hb ha => h3 i ha hb, h5, h4, h7, h6, h9, h8⟩
/-- The first one was written. -/
theorem Da.wrote {Oa Ob : Nat → Prop} {odda oddb odd' : Int} {P' : Nat → Sp} {c' : Nat} (h1 : Dv w da Oa odda [] n Pa) (h2 : Dv w db Ob oddb [] n Pb) (h3 : ∀ i, Oa i → ¬ Ob i) (h4 : ∀ i, Oa i → B ≤ i) (h5 : ∀ i, Ob i → B ≤ i) (h7 : Lk d n Pb) (h9 : Sm n Pb oddb cb)
    (hw : DvN w Oa da w' odd' [] n P') (hl : Lk d n P') (hs : Sm n P' odd' c') : Da w' B d n da db P' Pb c' cb ∧ Below B w w' := by
  obtain ⟨O', k1, k2, k3⟩ := hw
  have hB : B ≤ w.heap.size := by
    have := h4 _ h1.self
    have := h1.lt _ h1.self
    omega
  refine ⟨⟨O', Ob, odd', oddb, k1, h2.keeps k2 fun i hi hi' => h3 i hi' hi, fun i hi hi' => ?_, fun i hi => ?_, h5, hl, h7, hs, h9⟩, k2.below hB fun i hi hi' => ?_⟩
  · rcases k3 i hi with q | q
    · exact h3 i q hi'
    · have := h2.lt i hi'
      omega
  · rcases k3 i hi with q | q
    · exact h4 i q
    · omega
  · have := h4 i hi'
    omega
theorem Da.come (h : Da w B d n da db Pa Pb ca cb) (s : ByteArray) (hs : s.size ≤ 1000) (hc : ca ≤ 1000000) :
    Calls Try.prog 16 #[.pointer (some ⟨da, 0, none⟩), .string s] w fun e w' => e = .returned (comeR (jfor (fun i => (d i).2.1) n s) Pa) ∧ Da w' B d n da db (comeP (jfor (fun i => (d i).2.1) n s) Pa (Fr.paV s).1) Pb (ca + 1) cb ∧ Below B w w' := by
  obtain ⟨Oa, Ob, odda, oddb, h1, h2, h3, h4, h5, h6, h7, h8, h9⟩ := h
  refine (dv_come s hs h1 (fun i hi => (h6 i hi).2) h8 hc).mono fun e w' ⟨e1, e2⟩ => ⟨e1, Da.wrote h1 h2 h3 h4 h5 h7 h9 e2 (h6.come _ _) (h8.come _ _)⟩
theorem Da.waits (h : Da w B d n da db Pa Pb ca cb) {k : Nat} (hk : k < n) {o : Int} (ho : (d k).1 = o) : Calls Try.prog 17 #[.pointer (some ⟨da, 0, none⟩), .int .i64 o] w fun e w' => e = .returned (.int .i64 (Pa k).2.2.2.1.length) ∧ Below w.heap.size w w' := by
  obtain ⟨Oa, Ob, odda, oddb, h1, h2, h3, h4, h5, h6, h7, h8, h9⟩ := h
  have := dv_waits h1 hk
  rwa [(h6 k hk).1, ho] at this
theorem Da.drops (h : Da w B d n da db Pa Pb ca cb) {k : Nat} (hk : k < n) {o : Int} (ho : (d k).1 = o) : Calls Try.prog 18 #[.pointer (some ⟨da, 0, none⟩), .int .i64 o] w fun e w' => e = .returned (.int .i64 (Pa k).2.2.2.2) ∧ Below w.heap.size w w' := by
  obtain ⟨Oa, Ob, odda, oddb, h1, h2, h3, h4, h5, h6, h7, h8, h9⟩ := h
  have := dv_drops h1 hk
  rwa [(h6 k hk).1, ho] at this
/-- What was laid since then stays. -/
def Since (w0 w w' : World) : Prop := ∀ i, w0.heap.size ≤ i → i < w.heap.size → w'.heap[i]? = w.heap[i]?
theorem Da.take {w0 : World} (h0 : Da w0 B d n da db Pa Pb ca cb) (hb : Below w0.heap.size w0 w) {k : Nat} (hk : k < n) {o : Int} (ho : (d k).1 = o) (f : Frm) (l : List Frm) (hl : (Pa k).2.2.2.1 = f :: l) (hn : l.length ≤ 1000) : Calls Try.prog 19 #[.pointer (some ⟨da, 0, none⟩), .int .i64 o] w fun e w' => e = .returned (.tuple #[frv f, .int .i64 0]) ∧ Da w' B d n da db (takeP k Pa l) Pb ca cb ∧ Below B w w' ∧ Since w0 w w' := by
  have hlt : ∀ Oa odda, Dv w0 da Oa odda [] n Pa → ∀ i, Oa i → i < w0.heap.size := fun Oa odda h => h.lt
  obtain ⟨Oa, Ob, odda, oddb, h1', h2', h3, h4, h5, h6, h7, h8, h9⟩ := h0
  have hl0 := hlt _ _ h1'
  have h1 := h1'.below hb
  have h2 := h2'.below hb
  have := dv_take f l h1 hk hl (by omega)
  rw [(h6 k hk).1, ho] at this
  refine this.mono fun e w' ⟨e1, e2⟩ => ?_
  obtain ⟨q1, q2⟩ := Da.wrote h1 h2 h3 h4 h5 h7 h9 e2 (h6.take _ _) (h8.take hk hl)
  obtain ⟨O', k1, k2, k3⟩ := e2
  exact ⟨e1, q1, q2, fun i hi hi' => k2.2.2.2.2 i hi' fun ho => by have := hl0 i ho; omega⟩
/-- Two devices just made. -/
theorem Da.new {w1 w2 : World} {Oa Ob : Nat → Prop} (h1 : Dv w1 da Oa 0 [] n (sp0 d)) (h2 : ∀ i, Oa i → B ≤ i) (h3 : Dv w2 db Ob 0 [] n (sp0 d)) (h4 : ∀ i, Ob i → w1.heap.size ≤ i) (hb : Below w1.heap.size w1 w2) : Da w2 B d n da db (sp0 d) (sp0 d) 0 0 := by
  have hB : B ≤ w1.heap.size := by
    have := h2 _ h1.self
    have := h1.lt _ h1.self
    omega
  refine ⟨Oa, Ob, 0, 0, h1.below hb, h3, fun i hi hi' => ?_, h2, fun i hi => Nat.le_trans hB (h4 i hi), Lk.new d n, Lk.new d n, Sm.new d n, Sm.new d n⟩
  have := h1.lt i hi
  have := h4 i hi'
  omega
end

set_option maxRecDepth 20000 in
set_option maxHeartbeats 3200000 in
/-- Where nothing is asked. -/
theorem napart_off (A : Option Addr) (len cap n : Nat) (d : Nat → I3) (At : Option Addr) (lt ct : Nat) (o : Int) (w : World) (hst : RowsN w A len cap d) (hlc : len ≤ cap) (hcm : cap ≤ 9223372036854775807) (hn : n = min len 8)
    (hoff : newE d n ≠ 0 ∨ (newE d n = 0 ∧ ownI (frp d) n o < 0)) :
    Calls Try.prog 4 #[.slice A len cap, .slice At lt ct, .int .i64 o] w (BackV w) := by
  have HP := Lib.hid (ports_any A len cap d w hst hlc hcm)
  rw [← hn] at HP
  have hn8 : n ≤ 8 := by omega
  have HO1 := Lib.hid (fun (A2 : Option Addr) (c2 : Nat) (W : World) (h : PortsV W A2 n (frp d)) => rowner_any A2 n c2 (frp d) o W h (by omega))
  have HK := Lib.hid (fun (A2 : Option Addr) (c2 : Nat) (W : World) (h : PortsV W A2 n (frp d)) => show Calls Try.prog 9 #[.slice A2 n c2] W (fun e w' => e = .returned (.int .i64 (newE d n)) ∧ Below W.heap.size W w') from rcheck_any A2 n c2 d W h (by omega))
  have HL := Lib.hid (fun W => nlive_any W)
  generalize newE d n = c at HK hoff
  generalize ownI (frp d) n o = iv at HO1 hoff
  clear hst hn hn8 hlc hcm
  rcases hoff with h1 | ⟨rfl, h2⟩
  all_goals
    try have h1' : (c != 0) = true := by simpa using h1
    go_enter Try.func4, Try.ntmps4
    go_wp2_with (first
      | (go_at_call 7; have HH := HP.out; unfold PortsR at HH; refine HH.mono ?_; clear HH; rintro e w1 ⟨A2, c2, rfl, o1, b1⟩; have P1 := Lib.hid o1.ports; have B1 := Lib.hid b1; clear o1 b1)
      | (go_at_call 15; (with_reducible refine (HO1.out _ _ _ P1.out).mono ?_); rintro e w2 ⟨rfl, rfl⟩)
      | (go_at_call 9; (with_reducible refine (HK.out _ _ _ P1.out).mono ?_); rintro e w4 ⟨rfl, b4⟩; have B4 := Lib.hid (B1.out.trans (b4.mono B1.out.size)); clear b4)
      | (go_at_call 10; (with_reducible refine (HL.out _).mono ?_); rintro e w5 ⟨rfl, b5⟩; have B5 := Lib.hid (B4.out.trans (b5.mono B4.out.size)); clear b5))
    go_ret
    exact ⟨rfl, B5.out⟩
end Go.Proofs.Ytjhihccjhnlghaa

/- A device and the document's ports beside it: what they have in common, and what a call that writes both leaves. -/
namespace Go.Proofs.Ytjhihccjhnlghaa
open Go.RowKit Go.Lib
set_option linter.unusedVariables false

/-- The document's ports lie in a row of the law's own. -/
def Dc (w : World) (A : Option Addr) (n : Nat) (R : Nat → Rp) : Prop :=
  0 < n → ∃ (g : Nat) (cs : Array Value), A = some ⟨g, 0, none⟩ ∧ Blk w g 52 cs ∧ n * 5 ≤ cs.size ∧ ∀ (j : Nat) (u : Value), (rpCells n R)[j]? = some u → cs[j]? = some u
/-- Their blocks. -/
def DcO (A : Option Addr) (n : Nat) (R : Nat → Rp) (i : Nat) : Prop := (0 < n ∧ A = some ⟨i, 0, none⟩) ∨ ∃ k, k < n ∧ (R k).2.2.2.1.ownBlock = some i
section
variable {w w' : World} {A : Option Addr} {n : Nat} {R : Nat → Rp}
theorem Dc.ports (h : Dc w A n R) : PortsV w A n R := fun hp => by
  obtain ⟨g, cs, e, hg, hz, hc⟩ := h hp
  refine ⟨g, e, hg.lt, fun i hi => ?_⟩
  have hcc : ∀ j, j < 5 → w.cell? ⟨g, i * 5 + j, none⟩ = (rpL (R i))[j]? := fun j hj => by
    have h5 := rpCells_at R hi hj
    rw [hg.cell, ← h5]
    have hl : i * 5 + j < (rpCells n R).length := by rw [rpCells_len]; omega
    rw [hc _ _ (List.getElem?_eq_getElem hl), List.getElem?_eq_getElem hl]
  exact ⟨hcc 0 (by omega), hcc 1 (by omega), hcc 2 (by omega), hcc 3 (by omega), hcc 4 (by omega)⟩
theorem Dc.keeps {T : Nat → Prop} (h : Dc w A n R) (k : Keeps T w w') (hn : ∀ i, A = some ⟨i, 0, none⟩ → ¬ T i) : Dc w' A n R := fun hp => by
  obtain ⟨g, cs, e, hg, hz, hc⟩ := h hp
  exact ⟨g, cs, e, hg.keeps k (hn g e), hz, hc⟩
theorem Dc.lt (h : Dc w A n R) {i : Nat} (hp : 0 < n) (he : A = some ⟨i, 0, none⟩) : i < w.heap.size := by
  obtain ⟨g, cs, e, hg, _⟩ := h hp
  rw [e] at he
  injection he with he
  injection he with he
  subst he
  exact hg.lt
/-- A port becomes another. -/
def updR (R : Nat → Rp) (k : Nat) (x : Rp) : Nat → Rp := fun i => if i = k then x else R i
theorem rpCells_upd {k : Nat} (hk : k < n) (x : Rp) (j : Nat) : (rpCells n (updR R k x))[j]? = if k * 5 ≤ j ∧ j < k * 5 + 5 then (rpL x)[j - k * 5]? else (rpCells n R)[j]? := by
  by_cases hj : j < n * 5
  · obtain ⟨q, r, rfl, hr⟩ : ∃ q r, j = q * 5 + r ∧ r < 5 := ⟨j / 5, j % 5, by omega, by omega⟩
    have hq : q < n := by omega
    rw [rpCells_at _ hq hr]
    by_cases he : q = k
    · subst he
      rw [if_pos ⟨by omega, by omega⟩, Nat.add_sub_cancel_left]
      simp [updR]
    · rw [if_neg (by omega), rpCells_at _ hq hr]
      simp [updR, he]
  · rw [if_neg (by omega), List.getElem?_eq_none (by rw [rpCells_len]; omega), List.getElem?_eq_none (by rw [rpCells_len]; omega)]
theorem Dc.set {g : Nat} (h : Dc w (some ⟨g, 0, none⟩) n R) {k : Nat} (hk : k < n) (x : Rp) :
    Dc (((((w.setCell ⟨g, k * 5, none⟩ (.int .i64 x.1)).setCell ⟨g, k * 5 + 1, none⟩ (.int .i64 x.2.1)).setCell ⟨g, k * 5 + 2, none⟩ (.int .i64 x.2.2.1)).setCell ⟨g, k * 5 + 3, none⟩ x.2.2.2.1).setCell ⟨g, k * 5 + 4, none⟩ (.int .i64 x.2.2.2.2)) (some ⟨g, 0, none⟩) n (updR R k x) := fun hp => by
  obtain ⟨g', cs, e, hg, hz, hc⟩ := h hp
  injection e with e
  injection e with e
  subst e
  refine ⟨g, _, rfl, ((((hg.put _ _).put _ _).put _ _).put _ _).put _ _, by simpa using hz, fun j u hu => ?_⟩
  rw [rpCells_upd hk] at hu
  have hcs : k * 5 + 5 ≤ cs.size := by omega
  by_cases hj : k * 5 ≤ j ∧ j < k * 5 + 5
  · rw [if_pos hj] at hu
    obtain ⟨r, rfl, hr⟩ : ∃ r, j = k * 5 + r ∧ r < 5 := ⟨j - k * 5, by omega, by omega⟩
    rw [Nat.add_sub_cancel_left] at hu
    rcases (show r = 0 ∨ r = 1 ∨ r = 2 ∨ r = 3 ∨ r = 4 by omega) with rfl | rfl | rfl | rfl | rfl
    all_goals
      simp [rpL] at hu
      subst hu
      simp [Array.getElem?_setIfInBounds, Array.size_setIfInBounds]
      omega
  · rw [if_neg hj] at hu
    have := hc j u hu
    rw [Array.getElem?_setIfInBounds_ne (by omega), Array.getElem?_setIfInBounds_ne (by omega), Array.getElem?_setIfInBounds_ne (by omega), Array.getElem?_setIfInBounds_ne (by omega), Array.getElem?_setIfInBounds_ne (by omega)]
    exact this
end

/-- A port tells the same as1 the document's. -/
def Like (w : World) (x : Rp) (y : Sp) : Prop := RowZ 3 w x.2.2.2.1 y.2.2.2.1.length (frL y.2.2.2.1) ∧ x.1 = y.1 ∧ x.2.1 = y.2.1 ∧ x.2.2.1 = (y.2.2.1 : Int) ∧ x.2.2.2.2 = (y.2.2.2.2 : Int)
theorem Like.keeps {w w' : World} {x : Rp} {y : Sp} {T : Nat → Prop} (h : Like w x y) (k : Keeps T w w') (hn : ∀ i, x.2.2.2.1.ownBlock = some i → ¬ T i) : Like w' x y := ⟨h.1.keeps k hn, h.2⟩
/-- Blocks: all, and those that are written. -/
abbrev FF := (Nat → Prop) × (Nat → Prop)
/-- A device of the rows d, and the document's ports beside it: blocks F. -/
def Bo (w : World) (F : FF) (d : Nat → I3) (n dd : Nat) (A : Option Addr) (odd : Int) (S : List Frm) (c : Nat) (O : Nat → Prop) (P : Nat → Sp) (R : Nat → Rp) : Prop :=
  Dv w dd O odd S n P ∧ Dc w A n R ∧ (∀ k, k < n → Like w (R k) (P k)) ∧ Lk d n P ∧ Sm n P odd c ∧ S.length ≤ c ∧ (∀ i, DcO A n R i → ¬ O i) ∧ (∀ k g, k < n → A = some ⟨g, 0, none⟩ → (R k).2.2.2.1.ownBlock ≠ some g) ∧ (∀ i, F.1 i ↔ (O i ∨ DcO A n R i)) ∧ ∀ i, F.2 i ↔ (O i ∨ (0 < n ∧ A = some ⟨i, 0, none⟩))
/-- What a call that writes them leaves. -/
def BoN (w : World) (F : FF) (d : Nat → I3) (n dd : Nat) (A : Option Addr) (w' : World) (odd : Int) (S : List Frm) (c : Nat) : Prop :=
  ∃ (F' : FF) (O : Nat → Prop) (P : Nat → Sp) (R : Nat → Rp), Bo w' F' d n dd A odd S c O P R ∧ Keeps F.2 w w' ∧ (∀ i, F'.1 i → F.1 i ∨ w.heap.size ≤ i) ∧ ∀ i, F'.2 i → F.2 i ∨ w.heap.size ≤ i
section
variable {w w' : World} {F : FF} {d : Nat → I3} {n dd : Nat} {A : Option Addr} {odd : Int} {S : List Frm} {c : Nat} {O : Nat → Prop} {P : Nat → Sp} {R : Nat → Rp}
theorem Bo.lt (h : Bo w F d n dd A odd S c O P R) : ∀ i, F.1 i → i < w.heap.size := fun i hi => by
  obtain ⟨h1, h2, h3, _, _, _, _, _, h9⟩ := h
  rcases (h9.1 i).1 hi with q | ⟨hp, q⟩ | ⟨k, hk, q⟩
  · exact h1.lt i q
  · exact h2.lt hp q
  · exact (h3 k hk).1.lt i q
theorem Bo.keeps {T : Nat → Prop} (h : Bo w F d n dd A odd S c O P R) (k : Keeps T w w') (hn : ∀ i, F.1 i → ¬ T i) : Bo w' F d n dd A odd S c O P R := by
  obtain ⟨h1, h2, h3, h4, h5, h6, h7, h8, h9⟩ := h
  refine ⟨h1.keeps k fun i hi => hn i ((h9.1 i).2 (.inl hi)), fun hp => (h2.keeps k fun i hi => hn i ((h9.1 i).2 (.inr (.inl ⟨hp, hi⟩)))) hp, fun j hj => (h3 j hj).keeps k fun i hi => hn i ((h9.1 i).2 (.inr (.inr ⟨j, hj, hi⟩))), h4, h5, h6, h7, h8, h9⟩
theorem Bo.below (h : Bo w F d n dd A odd S c O P R) (hb : Below w.heap.size w w') : Bo w' F d n dd A odd S c O P R := h.keeps (Keeps.of_below hb (fun _ => False)) fun _ _ h => h
theorem Bo.grown (h : Bo w F d n dd A odd S c O P R) (g : w.grownBy w' none) : Bo w' F d n dd A odd S c O P R := h.keeps (T := fun _ => False) (Keeps.of_only g (by simp)) fun _ _ h => h
theorem BoN.from {w0 : World} (hb : Below w0.heap.size w0 w) (h : BoN w F d n dd A w' odd S c) : BoN w0 F d n dd A w' odd S c := by
  obtain ⟨F', O, P, R, h1, h2, h3, h4⟩ := h
  have := hb.size
  exact ⟨F', O, P, R, h1, (Keeps.of_below hb _).trans h2, fun i hi => (h3 i hi).imp id fun h => by omega, fun i hi => (h4 i hi).imp id fun h => by omega⟩
theorem BoN.upto {w2 : World} (h : BoN w F d n dd A w' odd S c) (hb : Below w'.heap.size w' w2) : BoN w F d n dd A w2 odd S c := by
  obtain ⟨F', O, P, R, h1, h2, h3⟩ := h
  exact ⟨F', O, P, R, h1.below hb, h2.trans (Keeps.of_below hb _), h3⟩
theorem Bo.same (h : Bo w F d n dd A odd S c O P R) (hb : Below w.heap.size w w') {c' : Nat} (hc : c ≤ c') : BoN w F d n dd A w' odd S c' := by
  obtain ⟨h1, h2, h3, h4, h5, h6, h7, h8, h9⟩ := h.below hb
  exact ⟨F, O, P, R, ⟨h1, h2, h3, h4, h5.mono hc, by omega, h7, h8, h9⟩, Keeps.of_below hb _, fun i hi => .inl hi, fun i hi => .inl hi⟩
/-- The device was written, the document's ports were not. -/
theorem Bo.dev {odd' : Int} {S' : List Frm} {c' : Nat} (h : Bo w F d n dd A odd S c O P R) (hw : DvN w O dd w' odd' S' n P) (hs : Sm n P odd' c') (hl : S'.length ≤ c') : BoN w F d n dd A w' odd' S' c' := by
  have hlt := h.lt
  obtain ⟨h1, h2, h3, h4, h5, h6, h7, h8, h9⟩ := h
  obtain ⟨O', k1, k2, k3⟩ := hw
  refine ⟨(fun i => O' i ∨ DcO A n R i, fun i => O' i ∨ (0 < n ∧ A = some ⟨i, 0, none⟩)), O', P, R, ⟨k1, fun hp => (h2.keeps k2 fun i hi => h7 i (.inl ⟨hp, hi⟩)) hp, fun j hj => (h3 j hj).keeps k2 fun i hi => h7 i (.inr ⟨j, hj, hi⟩), h4, hs, hl, fun i hi hi' => ?_, h8, fun i => Iff.rfl, fun i => Iff.rfl⟩, k2.mono fun i _ hi => (h9.2 i).2 (.inl hi), fun i hi => ?_, fun i hi => ?_⟩
  · rcases k3 i hi' with q | q
    · exact h7 i hi q
    · have := hlt i ((h9.1 i).2 (.inr hi))
      omega
  · rcases hi with hi | hi
    · exact (k3 i hi).imp (fun q => (h9.1 i).2 (.inl q)) id
    · exact .inl ((h9.1 i).2 (.inr hi))
  · rcases hi with hi | hi
    · exact (k3 i hi).imp (fun q => (h9.2 i).2 (.inl q)) id
    · exact .inl ((h9.2 i).2 (.inr hi))
/-- The device was written at one port; what the document says of it is put down. -/
theorem Bo.both {g k : Nat} {odd' : Int} {S' : List Frm} {c' : Nat} {P' : Nat → Sp} {w1 w2 : World} (h : Bo w F d n dd (some ⟨g, 0, none⟩) odd S c O P R) (hk : k < n) (hw : DvN w O dd w1 odd' S' n P') (hb : Below w1.heap.size w1 w2) (hP : ∀ i, i ≠ k → P' i = P i) (x : Rp) (hx : Like w2 x (P' k)) (hxo : ∀ i, x.2.2.2.1.ownBlock = some i → (R k).2.2.2.1.ownBlock = some i ∨ w1.heap.size ≤ i)
    (hL : Lk d n P') (hs : Sm n P' odd' c') (hl : S'.length ≤ c') :
    BoN w F d n dd (some ⟨g, 0, none⟩) (((((w2.setCell ⟨g, k * 5, none⟩ (.int .i64 x.1)).setCell ⟨g, k * 5 + 1, none⟩ (.int .i64 x.2.1)).setCell ⟨g, k * 5 + 2, none⟩ (.int .i64 x.2.2.1)).setCell ⟨g, k * 5 + 3, none⟩ x.2.2.2.1).setCell ⟨g, k * 5 + 4, none⟩ (.int .i64 x.2.2.2.2)) odd' S' c' := by
  have hlt := h.lt
  obtain ⟨h1, h2, h3, h4, h5, h6, h7, h8, h9⟩ := h
  obtain ⟨O', k1, k2, k3⟩ := hw
  have hpos : 0 < n := by omega
  have hgD : DcO (some ⟨g, 0, none⟩) n R g := .inl ⟨hpos, rfl⟩
  have hgl : g < w.heap.size := hlt g ((h9.1 g).2 (.inr hgD))
  have s1 := k2.size
  have s2 := hb.size
  have kk : Keeps (fun i => i = g) w2 (((((w2.setCell ⟨g, k * 5, none⟩ (.int .i64 x.1)).setCell ⟨g, k * 5 + 1, none⟩ (.int .i64 x.2.1)).setCell ⟨g, k * 5 + 2, none⟩ (.int .i64 x.2.2.1)).setCell ⟨g, k * 5 + 3, none⟩ x.2.2.2.1).setCell ⟨g, k * 5 + 4, none⟩ (.int .i64 x.2.2.2.2)) :=
    ((((((Keeps.refl (fun i => i = g) w2).put (p := ⟨g, k * 5, none⟩) (.inl rfl) _).put (p := ⟨g, k * 5 + 1, none⟩) (.inl rfl) _).put (p := ⟨g, k * 5 + 2, none⟩) (.inl rfl) _).put (p := ⟨g, k * 5 + 3, none⟩) (.inl rfl) _).put (p := ⟨g, k * 5 + 4, none⟩) (.inl rfl) _)
  have hO' : ∀ i, O' i → O i ∨ w.heap.size ≤ i := k3
  have hO's : ∀ i, O' i → i < w1.heap.size := k1.lt
  have hnew : ∀ i, DcO (some ⟨g, 0, none⟩) n (updR R k x) i → DcO (some ⟨g, 0, none⟩) n R i ∨ w1.heap.size ≤ i := by
    rintro i (q | ⟨j, hj, q⟩)
    · exact .inl (.inl q)
    · by_cases he : j = k
      · subst he
        simp only [updR, if_pos] at q
        exact (hxo i q).imp (fun q => .inr ⟨j, hj, q⟩) id
      · simp only [updR, if_neg he] at q
        exact .inl (.inr ⟨j, hj, q⟩)
  have hxg : x.2.2.2.1.ownBlock ≠ some g := fun e => by
    rcases hxo g e with q | q
    · exact h8 k g hk rfl q
    · omega
  have hD2 : Dc w2 (some ⟨g, 0, none⟩) n R := fun hp => ((h2.keeps k2 fun i hi => h7 i (.inl ⟨hp, hi⟩)).keeps (Keeps.of_below hb (fun _ => False)) fun _ _ h => h) hp
  refine ⟨(fun i => O' i ∨ DcO (some ⟨g, 0, none⟩) n (updR R k x) i, fun i => O' i ∨ (0 < n ∧ some (⟨g, 0, none⟩ : Addr) = some ⟨i, 0, none⟩)), O', P', updR R k x, ⟨?_, hD2.set hk x, fun j hj => ?_, hL, hs, hl, fun i hi hi' => ?_, fun j g' hj hg' => ?_, fun i => Iff.rfl, fun i => Iff.rfl⟩, ?_, fun i hi => ?_, fun i hi => ?_⟩
  · exact (k1.below hb).keeps kk fun i hi e => by
      subst e
      rcases hO' i hi with q | q
      · exact h7 i hgD q
      · omega
  · by_cases he : j = k
    · subst he
      simp only [updR, if_pos]
      exact hx.keeps kk fun i hi e => by subst e; exact hxg hi
    · simp only [updR, if_neg he]
      rw [hP j he]
      exact (((h3 j hj).keeps k2 fun i hi => h7 i (.inr ⟨j, hj, hi⟩)).keeps (Keeps.of_below hb (fun _ => False)) fun _ _ h => h).keeps kk fun i hi e => by subst e; exact h8 j i hj rfl hi
  · rcases hnew i hi with q | q
    · rcases hO' i hi' with r | r
      · exact h7 i q r
      · have := hlt i ((h9.1 i).2 (.inr q))
        omega
    · have := hO's i hi'
      omega
  · injection hg' with hg'
    injection hg' with hg'
    subst hg'
    by_cases he : j = k
    · subst he
      simp only [updR, if_pos]
      exact hxg
    · simp only [updR, if_neg he]
      exact h8 j g hj rfl
  · have a1 : Keeps F.2 w w1 := k2.mono fun i _ hi => (h9.2 i).2 (.inl hi)
    have a2 : Keeps F.2 w w2 := a1.trans (Keeps.of_below hb _)
    exact a2.trans (kk.mono fun i _ hi => by subst hi; exact (h9.2 _).2 (.inr ⟨hpos, rfl⟩))
  · rcases hi with hi | hi
    · exact (hO' i hi).imp (fun q => (h9.1 i).2 (.inl q)) id
    · exact (hnew i hi).imp (fun q => (h9.1 i).2 (.inr q)) fun q => by omega
  · rcases hi with hi | hi
    · exact (hO' i hi).imp (fun q => (h9.2 i).2 (.inl q)) id
    · exact .inl ((h9.2 i).2 (.inr hi))
theorem Bo.sub (h : Bo w F d n dd A odd S c O P R) : ∀ i, F.2 i → F.1 i := fun i hi => by
  obtain ⟨h1, h2, h3, h4, h5, h6, h7, h8, h9, h10⟩ := h
  rcases (h10 i).1 hi with q | q
  · exact (h9 i).2 (.inl q)
  · exact (h9 i).2 (.inr (.inl q))
end
end Go.Proofs.Ytjhihccjhnlghaa
