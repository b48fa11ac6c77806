/- A device and the document's ports beside it: what they have in common, and what a call that writes both leaves. -/
import Derived.Test.YtjhihccjhnlghaaNB1
import Derived.Test.YtjhihccjhnlghaaNA3
namespace Go.Proofs.Ytjhihccjhnlghaa
open Go.RowKit Go.Lib
set_option linter.unusedVariables false

/-- The document's ports lie in a row of the law's own. -/
def Dc (w : World) (A : Option Addr) (n : Nat) (R : Nat → Rp) : Prop :=
  0 < n → ∃ (g : Nat) (cs : Array Value), A = some ⟨g, 0, none⟩ ∧ Blk w g 52 cs ∧ n * 5 ≤ cs.size ∧ ∀ (j : Nat) (u : Value), (rpCells n R)[j]? = some u → cs[j]? = some u
/-- Their blocks. -/
def DcO (A : Option Addr) (n : Nat) (R : Nat → Rp) (i : Nat) : Prop := (0 < n ∧ A = some ⟨i, 0, none⟩) ∨ ∃ k, k < n ∧ (R k).2.2.2.1.ownBlock = some i
section
variable {w w' : World} {A : Option Addr} {n : Nat} {R : Nat → Rp}
theorem Dc.ports (h : Dc w A n R) : PortsV w A n R := fun hp => by
  obtain ⟨g, cs, e, hg, hz, hc⟩ := h hp
  refine ⟨g, e, hg.lt, fun i hi => ?_⟩
  have hcc : ∀ j, j < 5 → w.cell? ⟨g, i * 5 + j, none⟩ = (rpL (R i))[j]? := fun j hj => by
    have h5 := rpCells_at R hi hj
    rw [hg.cell, ← h5]
    have hl : i * 5 + j < (rpCells n R).length := by rw [rpCells_len]; omega
    rw [hc _ _ (List.getElem?_eq_getElem hl), List.getElem?_eq_getElem hl]
  exact ⟨hcc 0 (by omega), hcc 1 (by omega), hcc 2 (by omega), hcc 3 (by omega), hcc 4 (by omega)⟩
theorem Dc.keeps {T : Nat → Prop} (h : Dc w A n R) (k : Keeps T w w') (hn : ∀ i, A = some ⟨i, 0, none⟩ → ¬ T i) : Dc w' A n R := fun hp => by
  obtain ⟨g, cs, e, hg, hz, hc⟩ := h hp
  exact ⟨g, cs, e, hg.keeps k (hn g e), hz, hc⟩
theorem Dc.lt (h : Dc w A n R) {i : Nat} (hp : 0 < n) (he : A = some ⟨i, 0, none⟩) : i < w.heap.size := by
  obtain ⟨g, cs, e, hg, _⟩ := h hp
  rw [e] at he
  injection he with he
  injection he with he
  subst he
  exact hg.lt
/-- A port becomes another. -/
def updR (R : Nat → Rp) (k : Nat) (x : Rp) : Nat → Rp := fun i => if i = k then x else R i
theorem rpCells_upd {k : Nat} (hk : k < n) (x : Rp) (j : Nat) : (rpCells n (updR R k x))[j]? = if k * 5 ≤ j ∧ j < k * 5 + 5 then (rpL x)[j - k * 5]? else (rpCells n R)[j]? := by
  by_cases hj : j < n * 5
  · obtain ⟨q, r, rfl, hr⟩ : ∃ q r, j = q * 5 + r ∧ r < 5 := ⟨j / 5, j % 5, by omega, by omega⟩
    have hq : q < n := by omega
    rw [rpCells_at _ hq hr]
    by_cases he : q = k
    · subst he
      rw [if_pos ⟨by omega, by omega⟩, Nat.add_sub_cancel_left]
      simp [updR]
    · rw [if_neg (by omega), rpCells_at _ hq hr]
      simp [updR, he]
  · rw [if_neg (by omega), List.getElem?_eq_none (by rw [rpCells_len]; omega), List.getElem?_eq_none (by rw [rpCells_len]; omega)]
theorem Dc.set {g : Nat} (h : Dc w (some ⟨g, 0, none⟩) n R) {k : Nat} (hk : k < n) (x : Rp) :
    Dc (((((w.setCell ⟨g, k * 5, none⟩ (.int .i64 x.1)).setCell ⟨g, k * 5 + 1, none⟩ (.int .i64 x.2.1)).setCell ⟨g, k * 5 + 2, none⟩ (.int .i64 x.2.2.1)).setCell ⟨g, k * 5 + 3, none⟩ x.2.2.2.1).setCell ⟨g, k * 5 + 4, none⟩ (.int .i64 x.2.2.2.2)) (some ⟨g, 0, none⟩) n (updR R k x) := fun hp => by
  obtain ⟨g', cs, e, hg, hz, hc⟩ := h hp
  injection e with e
  injection e with e
  subst e
  refine ⟨g, _, rfl, ((((hg.put _ _).put _ _).put _ _).put _ _).put _ _, by simpa using hz, fun j u hu => ?_⟩
  rw [rpCells_upd hk] at hu
  have hcs : k * 5 + 5 ≤ cs.size := by omega
  by_cases hj : k * 5 ≤ j ∧ j < k * 5 + 5
  · rw [if_pos hj] at hu
    obtain ⟨r, rfl, hr⟩ : ∃ r, j = k * 5 + r ∧ r < 5 := ⟨j - k * 5, by omega, by omega⟩
    rw [Nat.add_sub_cancel_left] at hu
    rcases (show r = 0 ∨ r = 1 ∨ r = 2 ∨ r = 3 ∨ r = 4 by omega) with rfl | rfl | rfl | rfl | rfl
    all_goals
      simp [rpL] at hu
      subst hu
      simp [Array.getElem?_setIfInBounds, Array.size_setIfInBounds]
      omega
  · rw [if_neg hj] at hu
    have := hc j u hu
    rw [Array.getElem?_setIfInBounds_ne (by omega), Array.getElem?_setIfInBounds_ne (by omega), Array.getElem?_setIfInBounds_ne (by omega), Array.getElem?_setIfInBounds_ne (by omega), Array.getElem?_setIfInBounds_ne (by omega)]
    exact this
end

/-- A port tells the same as the document's. -/
def Like (w : World) (x : Rp) (y : Sp) : Prop := RowZ 3 w x.2.2.2.1 y.2.2.2.1.length (frL y.2.2.2.1) ∧ x.1 = y.1 ∧ x.2.1 = y.2.1 ∧ x.2.2.1 = (y.2.2.1 : Int) ∧ x.2.2.2.2 = (y.2.2.2.2 : Int)
theorem Like.keeps {w w' : World} {x : Rp} {y : Sp} {T : Nat → Prop} (h : Like w x y) (k : Keeps T w w') (hn : ∀ i, x.2.2.2.1.ownBlock = some i → ¬ T i) : Like w' x y := ⟨h.1.keeps k hn, h.2⟩
/-- A device of the rows d, and the document's ports beside it: blocks F. -/
def Bo (w : World) (F : Nat → Prop) (d : Nat → I3) (n dd : Nat) (A : Option Addr) (odd : Int) (S : List Frm) (c : Nat) (O : Nat → Prop) (P : Nat → Sp) (R : Nat → Rp) : Prop :=
  Dv w dd O odd S n P ∧ Dc w A n R ∧ (∀ k, k < n → Like w (R k) (P k)) ∧ Lk d n P ∧ Sm n P odd c ∧ S.length ≤ c ∧ (∀ i, DcO A n R i → ¬ O i) ∧ (∀ k g, k < n → A = some ⟨g, 0, none⟩ → (R k).2.2.2.1.ownBlock ≠ some g) ∧ ∀ i, F i ↔ (O i ∨ DcO A n R i)
/-- What a call that writes them leaves. -/
def BoN (w : World) (F : Nat → Prop) (d : Nat → I3) (n dd : Nat) (A : Option Addr) (w' : World) (odd : Int) (S : List Frm) (c : Nat) : Prop :=
  ∃ F' O P R, Bo w' F' d n dd A odd S c O P R ∧ Keeps F w w' ∧ ∀ i, F' i → F i ∨ w.heap.size ≤ i
section
variable {w w' : World} {F : Nat → Prop} {d : Nat → I3} {n dd : Nat} {A : Option Addr} {odd : Int} {S : List Frm} {c : Nat} {O : Nat → Prop} {P : Nat → Sp} {R : Nat → Rp}
theorem Bo.lt (h : Bo w F d n dd A odd S c O P R) : ∀ i, F i → i < w.heap.size := fun i hi => by
  obtain ⟨h1, h2, h3, _, _, _, _, _, h9⟩ := h
  rcases (h9 i).1 hi with q | ⟨hp, q⟩ | ⟨k, hk, q⟩
  · exact h1.lt i q
  · exact h2.lt hp q
  · exact (h3 k hk).1.lt i q
theorem Bo.keeps {T : Nat → Prop} (h : Bo w F d n dd A odd S c O P R) (k : Keeps T w w') (hn : ∀ i, F i → ¬ T i) : Bo w' F d n dd A odd S c O P R := by
  obtain ⟨h1, h2, h3, h4, h5, h6, h7, h8, h9⟩ := h
  refine ⟨h1.keeps k fun i hi => hn i ((h9 i).2 (.inl hi)), fun hp => (h2.keeps k fun i hi => hn i ((h9 i).2 (.inr (.inl ⟨hp, hi⟩)))) hp, fun j hj => (h3 j hj).keeps k fun i hi => hn i ((h9 i).2 (.inr (.inr ⟨j, hj, hi⟩))), h4, h5, h6, h7, h8, h9⟩
theorem Bo.below (h : Bo w F d n dd A odd S c O P R) (hb : Below w.heap.size w w') : Bo w' F d n dd A odd S c O P R := h.keeps (Keeps.of_below hb (fun _ => False)) fun _ _ h => h
theorem Bo.grown (h : Bo w F d n dd A odd S c O P R) (g : w.grownBy w' none) : Bo w' F d n dd A odd S c O P R := h.keeps (T := fun _ => False) (Keeps.of_only g (by simp)) fun _ _ h => h
theorem BoN.from {w0 : World} (hb : Below w0.heap.size w0 w) (h : BoN w F d n dd A w' odd S c) : BoN w0 F d n dd A w' odd S c := by
  obtain ⟨F', O, P, R, h1, h2, h3⟩ := h
  refine ⟨F', O, P, R, h1, (Keeps.of_below hb _).trans h2, fun i hi => (h3 i hi).imp id fun h => ?_⟩
  have := hb.size
  omega
theorem BoN.upto {w2 : World} (h : BoN w F d n dd A w' odd S c) (hb : Below w'.heap.size w' w2) : BoN w F d n dd A w2 odd S c := by
  obtain ⟨F', O, P, R, h1, h2, h3⟩ := h
  exact ⟨F', O, P, R, h1.below hb, h2.trans (Keeps.of_below hb _), h3⟩
theorem Bo.same (h : Bo w F d n dd A odd S c O P R) (hb : Below w.heap.size w w') {c' : Nat} (hc : c ≤ c') : BoN w F d n dd A w' odd S c' := by
  obtain ⟨h1, h2, h3, h4, h5, h6, h7, h8, h9⟩ := h.below hb
  exact ⟨F, O, P, R, ⟨h1, h2, h3, h4, h5.mono hc, by omega, h7, h8, h9⟩, Keeps.of_below hb _, fun i hi => .inl hi⟩
/-- The device was written, the document's ports were not. -/
theorem Bo.dev {odd' : Int} {S' : List Frm} {c' : Nat} (h : Bo w F d n dd A odd S c O P R) (hw : DvN w O dd w' odd' S' n P) (hs : Sm n P odd' c') (hl : S'.length ≤ c') : BoN w F d n dd A w' odd' S' c' := by
  have hlt := h.lt
  obtain ⟨h1, h2, h3, h4, h5, h6, h7, h8, h9⟩ := h
  obtain ⟨O', k1, k2, k3⟩ := hw
  refine ⟨fun i => O' i ∨ DcO A n R i, O', P, R, ⟨k1, fun hp => (h2.keeps k2 fun i hi => h7 i (.inl ⟨hp, hi⟩)) hp, fun j hj => (h3 j hj).keeps k2 fun i hi => h7 i (.inr ⟨j, hj, hi⟩), h4, hs, hl, fun i hi hi' => ?_, h8, fun i => Iff.rfl⟩, k2.mono fun i _ hi => (h9 i).2 (.inl hi), fun i hi => ?_⟩
  · rcases k3 i hi' with q | q
    · exact h7 i hi q
    · have := hlt i ((h9 i).2 (.inr hi))
      omega
  · rcases hi with hi | hi
    · exact (k3 i hi).imp (fun q => (h9 i).2 (.inl q)) id
    · exact .inl ((h9 i).2 (.inr hi))
/-- The device was written at one port; what the document says of it is put down. -/
theorem Bo.both {g k : Nat} {odd' : Int} {S' : List Frm} {c' : Nat} {P' : Nat → Sp} {w1 w2 : World} (h : Bo w F d n dd (some ⟨g, 0, none⟩) odd S c O P R) (hk : k < n) (hw : DvN w O dd w1 odd' S' n P') (hb : Below w1.heap.size w1 w2) (hP : ∀ i, i ≠ k → P' i = P i) (x : Rp) (hx : Like w2 x (P' k)) (hxo : ∀ i, x.2.2.2.1.ownBlock = some i → (R k).2.2.2.1.ownBlock = some i ∨ w1.heap.size ≤ i)
    (hL : Lk d n P') (hs : Sm n P' odd' c') (hl : S'.length ≤ c') :
    BoN w F d n dd (some ⟨g, 0, none⟩) (((((w2.setCell ⟨g, k * 5, none⟩ (.int .i64 x.1)).setCell ⟨g, k * 5 + 1, none⟩ (.int .i64 x.2.1)).setCell ⟨g, k * 5 + 2, none⟩ (.int .i64 x.2.2.1)).setCell ⟨g, k * 5 + 3, none⟩ x.2.2.2.1).setCell ⟨g, k * 5 + 4, none⟩ (.int .i64 x.2.2.2.2)) odd' S' c' := by
  have hlt := h.lt
  obtain ⟨h1, h2, h3, h4, h5, h6, h7, h8, h9⟩ := h
  obtain ⟨O', k1, k2, k3⟩ := hw
  have hpos : 0 < n := by omega
  have hgD : DcO (some ⟨g, 0, none⟩) n R g := .inl ⟨hpos, rfl⟩
  have hgl : g < w.heap.size := hlt g ((h9 g).2 (.inr hgD))
  have s1 := k2.size
  have s2 := hb.size
  have kk : Keeps (fun i => i = g) w2 (((((w2.setCell ⟨g, k * 5, none⟩ (.int .i64 x.1)).setCell ⟨g, k * 5 + 1, none⟩ (.int .i64 x.2.1)).setCell ⟨g, k * 5 + 2, none⟩ (.int .i64 x.2.2.1)).setCell ⟨g, k * 5 + 3, none⟩ x.2.2.2.1).setCell ⟨g, k * 5 + 4, none⟩ (.int .i64 x.2.2.2.2)) :=
    ((((((Keeps.refl (fun i => i = g) w2).put (p := ⟨g, k * 5, none⟩) (.inl rfl) _).put (p := ⟨g, k * 5 + 1, none⟩) (.inl rfl) _).put (p := ⟨g, k * 5 + 2, none⟩) (.inl rfl) _).put (p := ⟨g, k * 5 + 3, none⟩) (.inl rfl) _).put (p := ⟨g, k * 5 + 4, none⟩) (.inl rfl) _)
  have hO' : ∀ i, O' i → O i ∨ w.heap.size ≤ i := k3
  have hO's : ∀ i, O' i → i < w1.heap.size := k1.lt
  have hnew : ∀ i, DcO (some ⟨g, 0, none⟩) n (updR R k x) i → DcO (some ⟨g, 0, none⟩) n R i ∨ w1.heap.size ≤ i := by
    rintro i (q | ⟨j, hj, q⟩)
    · exact .inl (.inl q)
    · by_cases he : j = k
      · subst he
        simp only [updR, if_pos] at q
        exact (hxo i q).imp (fun q => .inr ⟨j, hj, q⟩) id
      · simp only [updR, if_neg he] at q
        exact .inl (.inr ⟨j, hj, q⟩)
  have hxg : x.2.2.2.1.ownBlock ≠ some g := fun e => by
    rcases hxo g e with q | q
    · exact h8 k g hk rfl q
    · omega
  have hD2 : Dc w2 (some ⟨g, 0, none⟩) n R := fun hp => ((h2.keeps k2 fun i hi => h7 i (.inl ⟨hp, hi⟩)).keeps (Keeps.of_below hb (fun _ => False)) fun _ _ h => h) hp
  refine ⟨fun i => O' i ∨ DcO (some ⟨g, 0, none⟩) n (updR R k x) i, O', P', updR R k x, ⟨?_, hD2.set hk x, fun j hj => ?_, hL, hs, hl, fun i hi hi' => ?_, fun j g' hj hg' => ?_, fun i => Iff.rfl⟩, ?_, fun i hi => ?_⟩
  · exact (k1.below hb).keeps kk fun i hi e => by
      subst e
      rcases hO' i hi with q | q
      · exact h7 i hgD q
      · omega
  · by_cases he : j = k
    · subst he
      simp only [updR, if_pos]
      exact hx.keeps kk fun i hi e => by subst e; exact hxg hi
    · simp only [updR, if_neg he]
      rw [hP j he]
      exact (((h3 j hj).keeps k2 fun i hi => h7 i (.inr ⟨j, hj, hi⟩)).keeps (Keeps.of_below hb (fun _ => False)) fun _ _ h => h).keeps kk fun i hi e => by subst e; exact h8 j i hj rfl hi
  · rcases hnew i hi with q | q
    · rcases hO' i hi' with r | r
      · exact h7 i q r
      · have := hlt i ((h9 i).2 (.inr q))
        omega
    · have := hO's i hi'
      omega
  · injection hg' with hg'
    injection hg' with hg'
    subst hg'
    by_cases he : j = k
    · subst he
      simp only [updR, if_pos]
      exact hxg
    · simp only [updR, if_neg he]
      exact h8 j g hj rfl
  · have a1 : Keeps F w w1 := k2.mono fun i _ hi => (h9 i).2 (.inl hi)
    have a2 : Keeps F w w2 := a1.trans (Keeps.of_below hb _)
    exact a2.trans (kk.mono fun i _ hi => by subst hi; exact (h9 _).2 (.inr hgD))
  · rcases hi with hi | hi
    · exact (hO' i hi).imp (fun q => (h9 i).2 (.inl q)) id
    · exact (hnew i hi).imp (fun q => (h9 i).2 (.inr q)) fun q => by omega
end
end Go.Proofs.Ytjhihccjhnlghaa
