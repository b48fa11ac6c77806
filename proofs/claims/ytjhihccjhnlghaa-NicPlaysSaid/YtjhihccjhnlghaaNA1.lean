/- A device told by its ports alone: each call by its contract, whatever blocks it has. -/
import Derived.Test.YtjhihccjhnlghaaNP19
namespace Go.Proofs.Ytjhihccjhnlghaa
open Go.RowKit Go.Lib
set_option linter.unusedVariables false

/-- A device of n ports, told by P; its blocks are O. -/
def Dv (w : World) (dd : Nat) (O : Nat → Prop) (odd : Int) (S : List Frm) (n : Nat) (P : Nat → Sp) : Prop :=
  ∃ m lv G, NicG w dd m lv odd S G ∧ G.map Gp.sp = (List.range n).map P ∧ O = nOwn dd m lv G
/-- What a call that writes it leaves. -/
def DvN (w : World) (O : Nat → Prop) (dd : Nat) (w' : World) (odd' : Int) (S' : List Frm) (n : Nat) (P' : Nat → Sp) : Prop :=
  ∃ O', Dv w' dd O' odd' S' n P' ∧ Keeps O w w' ∧ ∀ i, O' i → O i ∨ w.heap.size ≤ i

section
variable {w w' : World} {dd : Nat} {O : Nat → Prop} {odd : Int} {S : List Frm} {n : Nat} {P : Nat → Sp}
theorem Dv.lt (h : Dv w dd O odd S n P) : ∀ i, O i → i < w.heap.size := by
  obtain ⟨m, lv, G, h1, h2, rfl⟩ := h
  exact h1.lt
theorem Dv.self (h : Dv w dd O odd S n P) : O dd := by
  obtain ⟨m, lv, G, h1, h2, rfl⟩ := h
  exact .inl rfl
theorem Dv.keeps {T : Nat → Prop} (h : Dv w dd O odd S n P) (k : Keeps T w w') (hn : ∀ i, O i → ¬ T i) : Dv w' dd O odd S n P := by
  obtain ⟨m, lv, G, h1, h2, rfl⟩ := h
  exact ⟨m, lv, G, h1.keeps k hn, h2, rfl⟩
theorem Dv.below (h : Dv w dd O odd S n P) (hb : Below w.heap.size w w') : Dv w' dd O odd S n P := h.keeps (Keeps.of_below hb (fun _ => False)) (fun _ _ h => h)
theorem Dv.grown (h : Dv w dd O odd S n P) (g : w.grownBy w' none) : Dv w' dd O odd S n P := h.keeps (T := fun _ => False) (Keeps.of_only g (by simp)) (fun _ _ h => h)
theorem Dv.drewN (h : Dv w dd O odd S n P) (k : Nat) : Dv (w.drewN k) dd O odd S n P := h.grown (only_drewN (only_refl w none) k)
theorem Dv.apart (h : Dv w dd O odd S n P) : ∀ i j, i < j → j < n → (P i).1 ≠ (P j).1 ∧ (P i).2.1 ≠ (P j).2.1 := by
  obtain ⟨m, lv, G, h1, h2, rfl⟩ := h
  have hp : (G.map Gp.sp).Pairwise fun a b => a.1 ≠ b.1 ∧ a.2.1 ≠ b.2.1 := by
    rw [List.pairwise_map]
    exact h1.2.2.2.2.2.2.2.imp fun {a b} h => ⟨h.1, h.2.1⟩
  rw [h2, List.pairwise_map] at hp
  intro i j hij hj
  have := List.pairwise_iff_getElem.1 hp i j (by simp; omega) (by simpa using hj) hij
  simpa using this
theorem Dv.owner_eq (h : Dv w dd O odd S n P) {i j : Nat} (hi : i < n) (hj : j < n) (he : (P i).1 = (P j).1) : i = j := by
  rcases Nat.lt_trichotomy i j with h1 | h1 | h1
  · exact absurd he (h.apart i j h1 hj).1
  · exact h1
  · exact absurd he.symm (h.apart j i h1 hi).1
theorem Dv.mac_eq (h : Dv w dd O odd S n P) {i j : Nat} (hi : i < n) (hj : j < n) (he : (P i).2.1 = (P j).2.1) : i = j := by
  rcases Nat.lt_trichotomy i j with h1 | h1 | h1
  · exact absurd he (h.apart i j h1 hj).2
  · exact h1
  · exact absurd he.symm (h.apart j i h1 hi).2
/-- The port at a place, opened. -/
theorem Dv.open (h : Dv w dd O odd S n P) {k : Nat} (hk : k < n) : ∃ m lv A g C, NicG w dd m lv odd S (A ++ g :: C) ∧ (A ++ g :: C).map Gp.sp = (List.range n).map P ∧ O = nOwn dd m lv (A ++ g :: C) ∧ g.sp = P k := by
  obtain ⟨m, lv, G, h1, h2, rfl⟩ := h
  have hl : G.length = n := by have := congrArg List.length h2; simpa using this
  have hg : (G.map Gp.sp)[k]? = some (P k) := by rw [h2]; simp [hk]
  rw [List.getElem?_map, List.getElem?_eq_getElem (by omega)] at hg
  have hsp : G[k].sp = P k := by simpa using hg
  have hG : G = G.take k ++ G[k] :: G.drop (k + 1) := by rw [List.getElem_cons_drop, List.take_append_drop]
  exact ⟨m, lv, G.take k, G[k], G.drop (k + 1), hG ▸ h1, hG ▸ h2, by rw [← hG], hsp⟩
theorem Dv.may (h : Dv w dd O odd S n P) {k : Nat} (hk : k < n) : 1 ≤ (P k).1 ∧ (P k).1 ≤ 8 ∧ 0 ≤ (P k).2.1 ∧ (P k).2.1 ≤ 255 ∧ (P k).2.2.1 ≤ 16 := by
  obtain ⟨m, lv, A, g, C, h1, h2, h3, h4⟩ := h.open hk
  have := mayP_iff.1 (h1.2.2.2.1 g (by simp)).2
  simp [Gp.pub] at this
  rw [← h4]
  simp only [Gp.sp]
  omega
/-- An owner's port becomes another. -/
theorem updS_at (h : Dv w dd O odd S n P) {k : Nat} (hk : k < n) (f : Sp → Sp) : updS ((List.range n).map P) (P k).1 f = (List.range n).map fun i => if i = k then f (P k) else P i := by
  unfold updS
  rw [List.map_map]
  refine List.map_congr_left fun i hi => ?_
  have hi' : i < n := by simpa using hi
  by_cases he : i = k
  · subst he
    simp
  · have : (P i).1 ≠ (P k).1 := fun e => he (h.owner_eq hi' hk e)
    simp [this, he]
theorem DvN.of {m : Nat} {lv : Value} {G : List Gp} {odd' : Int} {S' : List Frm} {L' : List Sp} {P' : Nat → Sp} (hO : O = nOwn dd m lv G) (h : NicN w dd m lv G w' odd' S' L') (hL : L' = (List.range n).map P') : DvN w O dd w' odd' S' n P' := by
  subst hO
  obtain ⟨lv', G', h1, h2, h3, h4⟩ := h
  exact ⟨_, ⟨m, lv', G', h1, h2.trans hL, rfl⟩, h3, h4⟩
theorem DvN.from {w0 : World} {odd' : Int} {S' : List Frm} {P' : Nat → Sp} (hb : Below w0.heap.size w0 w) (h : DvN w O dd w' odd' S' n P') : DvN w0 O dd w' odd' S' n P' := by
  obtain ⟨O', h1, h2, h3⟩ := h
  refine ⟨O', h1, (Keeps.of_below hb _).trans h2, fun i hi => (h3 i hi).imp id fun h => ?_⟩
  have := hb.size
  omega
theorem DvN.upto {w2 : World} {odd' : Int} {S' : List Frm} {P' : Nat → Sp} (h : DvN w O dd w' odd' S' n P') (hb : Below w'.heap.size w' w2) : DvN w O dd w2 odd' S' n P' := by
  obtain ⟨O', h1, h2, h3⟩ := h
  exact ⟨O', h1.below hb, h2.trans (Keeps.of_below hb _), h3⟩
theorem Dv.same (h : Dv w dd O odd S n P) (hb : Below w.heap.size w w') : DvN w O dd w' odd S n P := ⟨O, h.below hb, Keeps.of_below hb _, fun i hi => .inl hi⟩
end

/-- A port of a device just made. -/
def sp0 (d : Nat → I3) (i : Nat) : Sp := ((d i).1, (d i).2.1, (d i).2.2.toNat, [], 0)
theorem dv_new {A : Option Addr} {n cap : Nat} {d : Nat → I3} {w : World} (hst : RowsN w A n cap d) (hn : n ≤ 1000000) (he : newE d n = 0) :
    Calls Try.prog 8 #[.slice A n cap] w fun e w' => ∃ dd O, e = .returned (.tuple #[.pointer (some ⟨dd, 0, none⟩), .int .i64 0]) ∧ Dv w' dd O 0 [] n (sp0 d) ∧ (∀ i, O i → w.heap.size ≤ i) ∧ Below w.heap.size w w' := by
  refine (new_ok hst hn he).mono fun e w' ⟨dd, m, G, h1, ⟨h2, h3, h4, h5⟩, h6⟩ => ⟨dd, _, h1, ⟨m, _, G, h2, ?_, rfl⟩, h5, h6⟩
  have hm : G.map Gp.sp = (G.map Gp.pub).map fun r => (r.1, r.2.1, r.2.2.toNat, [], 0) := by
    rw [List.map_map]
    refine List.map_congr_left fun g hg => ?_
    obtain ⟨q1, q2⟩ := h4 g hg
    simp [Gp.sp, Gp.pub, q1, q2]
  rw [hm, h3]
  unfold rwN
  rw [List.map_map]
  rfl

/-- Which port bytes are for. -/
def jfor (mk : Nat → Int) (n : Nat) (s : ByteArray) : Option Nat := if (Fr.paV s).2 = 0 then (List.range n).find? fun i => decide (mk i = (Fr.paV s).1.1) else none
theorem jfor_some {mk : Nat → Int} {n : Nat} {s : ByteArray} {k : Nat} (h : jfor mk n s = some k) : (Fr.paV s).2 = 0 ∧ k < n ∧ mk k = (Fr.paV s).1.1 := by
  unfold jfor at h
  split at h
  · have h1 := List.mem_of_find?_eq_some h
    have h2 := List.find?_some h
    exact ⟨by assumption, by simpa using h1, by simpa using h2⟩
  · cases h
theorem jfor_none {mk : Nat → Int} {n : Nat} {s : ByteArray} (h : jfor mk n s = none) : (Fr.paV s).2 ≠ 0 ∨ ∀ i, i < n → mk i ≠ (Fr.paV s).1.1 := by
  unfold jfor at h
  split at h
  · exact .inr fun i hi => by simpa using List.find?_eq_none.1 h i (by simpa using hi)
  · exact .inl (by assumption)
/-- What a frame that comes makes of a port, and of all. -/
def pshS (x : Sp) (f : Frm) : Sp := (x.1, x.2.1, x.2.2.1, pshL x.2.2.2.1 x.2.2.1 f, pshD x.2.2.2.1 x.2.2.1 x.2.2.2.2)
def comeP (j : Option Nat) (P : Nat → Sp) (f : Frm) : Nat → Sp := match j with | none => P | some k => fun i => if i = k then pshS (P k) f else P i
def comeO (j : Option Nat) (odd : Int) : Int := match j with | none => odd + 1 | some _ => odd
def comeR (j : Option Nat) (P : Nat → Sp) : Value := match j with | none => .tuple #[.int .i64 0, .bool false] | some k => .tuple #[.int .i64 (P k).1, .bool (decide ((P k).2.2.2.1.length < (P k).2.2.1))]
/-- Few enough. -/
def Sm (n : Nat) (P : Nat → Sp) (odd : Int) (c : Nat) : Prop := (∀ i, i < n → (P i).2.2.2.1.length ≤ c ∧ (P i).2.2.2.2 ≤ c) ∧ 0 ≤ odd ∧ odd ≤ c
theorem Sm.come {n : Nat} {P : Nat → Sp} {odd : Int} {c : Nat} (h : Sm n P odd c) (j : Option Nat) (f : Frm) : Sm n (comeP j P f) (comeO j odd) (c + 1) := by
  obtain ⟨h1, h2, h3⟩ := h
  cases j with
  | none => exact ⟨fun i hi => by have := h1 i hi; simp only [comeP]; omega, by simp only [comeO]; omega, by simp only [comeO]; omega⟩
  | some k =>
    refine ⟨fun i hi => ?_, by simp only [comeO]; omega, by simp only [comeO]; omega⟩
    have := h1 i hi
    simp only [comeP]
    by_cases he : i = k
    · subst he
      rw [if_pos rfl]
      unfold pshS pshL pshD
      simp only
      split
      · simp
        omega
      · omega
    · rw [if_neg he]
      omega
theorem Sm.mono {n : Nat} {P : Nat → Sp} {odd : Int} {c c' : Nat} (h : Sm n P odd c) (hc : c ≤ c') : Sm n P odd c' :=
  ⟨fun i hi => by have := h.1 i hi; omega, h.2.1, by have := h.2.2; omega⟩

section
variable {w w' : World} {dd : Nat} {O : Nat → Prop} {odd : Int} {S : List Frm} {n : Nat} {P : Nat → Sp}
theorem dv_come {mk : Nat → Int} {c : Nat} (s : ByteArray) (hs : s.size ≤ 1000) (h : Dv w dd O odd S n P) (hmk : ∀ i, i < n → (P i).2.1 = mk i) (hsm : Sm n P odd c) (hc : c ≤ 1000000) :
    Calls Try.prog 16 #[.pointer (some ⟨dd, 0, none⟩), .string s] w fun e w' => e = .returned (comeR (jfor mk n s) P) ∧ DvN w O dd w' (comeO (jfor mk n s) odd) S n (comeP (jfor mk n s) P (Fr.paV s).1) := by
  obtain ⟨h1, h2, h3⟩ := hsm
  cases hj : jfor mk n s with
  | none =>
    have hn := jfor_none hj
    obtain ⟨m, lv, G, hg, hm, hO⟩ := h
    refine (ncome_odd s hs hg ?_ ⟨h2, by omega⟩).mono fun e w' ⟨e1, e2⟩ => ⟨e1, DvN.of hO e2 hm⟩
    rcases hn with hn | hn
    · exact .inl hn
    · refine .inr (ownL_out fun y hy => ?_)
      obtain ⟨g, hg', rfl⟩ := List.mem_map.1 hy
      have : g.sp ∈ (List.range n).map P := by rw [← hm]; exact List.mem_map.2 ⟨g, hg', rfl⟩
      obtain ⟨i, hi, he⟩ := List.mem_map.1 this
      have hi' : i < n := by simpa using hi
      have := hn i hi'
      rw [← hmk i hi', he] at this
      exact this
  | some k =>
    obtain ⟨j1, j2, j3⟩ := jfor_some hj
    have hup := updS_at h j2 fun x => (x.1, x.2.1, x.2.2.1, pshL (P k).2.2.2.1 (P k).2.2.1 (Fr.paV s).1, pshD (P k).2.2.2.1 (P k).2.2.1 (P k).2.2.2.2)
    obtain ⟨m, lv, A, g, C, hg, hm, hO, hgp⟩ := h.open j2
    have hx := h1 k j2
    rw [← hgp] at hx
    simp only [Gp.sp] at hx
    have hmac : (Fr.paV s).1.1 = g.mac := by rw [← j3, ← hmk k j2, ← hgp]; rfl
    refine (ncome_hit s hs hg j1 hmac (by omega) (by omega)).mono fun e w' ⟨e1, e2⟩ => ⟨by rw [e1, comeR, ← hgp]; rfl, DvN.of hO e2 ?_⟩
    rw [← hgp] at hup
    rw [hm]
    refine Eq.trans ?_ (hup.trans ?_)
    · rfl
    · show _ = (List.range n).map fun i => if i = k then pshS (P k) (Fr.paV s).1 else P i
      rw [← hgp]
      rfl
theorem dv_waits (h : Dv w dd O odd S n P) {k : Nat} (hk : k < n) : Calls Try.prog 17 #[.pointer (some ⟨dd, 0, none⟩), .int .i64 (P k).1] w fun e w' => e = .returned (.int .i64 (P k).2.2.2.1.length) ∧ Below w.heap.size w w' := by
  obtain ⟨m, lv, A, g, C, hg, hm, hO, hgp⟩ := h.open hk
  rw [← hgp]
  exact (nwaits_in hg).mono fun e w' ⟨e1, e2⟩ => ⟨e1, below_of_only e2 (Nat.le_refl _) (by simp)⟩
theorem dv_drops (h : Dv w dd O odd S n P) {k : Nat} (hk : k < n) : Calls Try.prog 18 #[.pointer (some ⟨dd, 0, none⟩), .int .i64 (P k).1] w fun e w' => e = .returned (.int .i64 (P k).2.2.2.2) ∧ Below w.heap.size w w' := by
  obtain ⟨m, lv, A, g, C, hg, hm, hO, hgp⟩ := h.open hk
  rw [← hgp]
  exact (ndrops_in hg).mono fun e w' ⟨e1, e2⟩ => ⟨e1, below_of_only e2 (Nat.le_refl _) (by simp)⟩
theorem dv_odd (h : Dv w dd O odd S n P) : Calls Try.prog 14 #[.pointer (some ⟨dd, 0, none⟩)] w fun e w' => e = .returned (.int .i64 odd) ∧ w = w' := by
  obtain ⟨m, lv, G, hg, hm, hO⟩ := h
  exact nodd_any hg
/-- What taking makes of the ports. -/
def takeP (k : Nat) (P : Nat → Sp) (l : List Frm) : Nat → Sp := fun i => if i = k then ((P k).1, (P k).2.1, (P k).2.2.1, l, (P k).2.2.2.2) else P i
theorem dv_take (f : Frm) (l : List Frm) (h : Dv w dd O odd S n P) {k : Nat} (hk : k < n) (hl : (P k).2.2.2.1 = f :: l) (hn : l.length ≤ 100000) : Calls Try.prog 19 #[.pointer (some ⟨dd, 0, none⟩), .int .i64 (P k).1] w fun e w' => e = .returned (.tuple #[frv f, .int .i64 0]) ∧ DvN w O dd w' odd S n (takeP k P l) := by
  have hup := updS_at h hk fun y => (y.1, y.2.1, y.2.2.1, l, (P k).2.2.2.2)
  obtain ⟨m, lv, A, g, C, hg, hm, hO, hgp⟩ := h.open hk
  have hl' : g.l = f :: l := by rw [← hl, ← hgp]; rfl
  rw [← hgp]
  refine (ntake_in f l hg hl' (by rw [hl']; simp; omega)).mono fun e w' ⟨e1, e2⟩ => ⟨e1, DvN.of hO e2 ?_⟩
  rw [← hgp] at hup
  rw [hm]
  refine Eq.trans ?_ (hup.trans ?_)
  · rfl
  · unfold takeP
    rw [← hgp]
theorem dv_take_empty (h : Dv w dd O odd S n P) {k : Nat} (hk : k < n) (hl : (P k).2.2.2.1 = []) : Calls Try.prog 19 #[.pointer (some ⟨dd, 0, none⟩), .int .i64 (P k).1] w fun e w' => e = .returned (tkE 9) ∧ Below w.heap.size w w' := by
  obtain ⟨m, lv, A, g, C, hg, hm, hO, hgp⟩ := h.open hk
  have hl' : g.l = [] := by rw [← hl, ← hgp]; rfl
  rw [← hgp]
  exact ntake_empty hg hl'
theorem Dv.nobody (h : Dv w dd O odd S n P) {o : Int} (hn : ∀ i, i < n → (P i).1 ≠ o) : ∃ m lv G, NicG w dd m lv odd S G ∧ G.map Gp.sp = (List.range n).map P ∧ O = nOwn dd m lv G ∧ ∀ g ∈ G, g.o ≠ o := by
  obtain ⟨m, lv, G, hg, hm, hO⟩ := h
  refine ⟨m, lv, G, hg, hm, hO, fun g hg' => ?_⟩
  have : g.sp ∈ (List.range n).map P := by rw [← hm]; exact List.mem_map.2 ⟨g, hg', rfl⟩
  obtain ⟨i, hi, he⟩ := List.mem_map.1 this
  have := hn i (by simpa using hi)
  rw [he] at this
  exact this
theorem dv_take_none (h : Dv w dd O odd S n P) {o : Int} (hf : fitI o) (hn : ∀ i, i < n → (P i).1 ≠ o) : Calls Try.prog 19 #[.pointer (some ⟨dd, 0, none⟩), .int .i64 o] w fun e w' => e = .returned (tkE 7) ∧ Below w.heap.size w w' := by
  obtain ⟨m, lv, G, hg, hm, hO, h1⟩ := h.nobody hn
  exact ntake_none hg o hf h1
theorem dv_log (h : Dv w dd O odd S n P) (hn : S.length ≤ 1000) : Calls Try.prog 21 #[.pointer (some ⟨dd, 0, none⟩)] w fun e w' => ∃ v', e = .returned v' ∧ CloZ w S.length (frL S) v' w' := by
  obtain ⟨m, lv, G, hg, hm, hO⟩ := h
  exact nlog_any hg hn
theorem dv_send_none (h : Dv w dd O odd S n P) (t : Int) {o : Int} (to : Int) (s : ByteArray) (hf : fitI o) (hn : ∀ i, i < n → (P i).1 ≠ o) : Calls Try.prog 20 #[.pointer (some ⟨dd, 0, none⟩), .int .i64 t, .int .i64 o, .int .i64 to, .string s] w fun e w' => e = .returned (.int .i64 7) ∧ Below w.heap.size w w' := by
  obtain ⟨m, lv, G, hg, hm, hO, h1⟩ := h.nobody hn
  exact nsend_none hg t o to s hf h1
theorem dv_send_bad (h : Dv w dd O odd S n P) {k : Nat} (hk : k < n) (t to : Int) (s : ByteArray) (hs : s.size ≤ 200) (he : (Fr.prV to (P k).2.1 s).2 ≠ 0) : Calls Try.prog 20 #[.pointer (some ⟨dd, 0, none⟩), .int .i64 t, .int .i64 (P k).1, .int .i64 to, .string s] w fun e w' => e = .returned (.int .i64 (Fr.prV to (P k).2.1 s).2) ∧ Below w.heap.size w w' := by
  obtain ⟨m, lv, A, g, C, hg, hm, hO, hgp⟩ := h.open hk
  rw [← hgp] at he ⊢
  exact nsend_bad hg t to s hs he
theorem dv_send (h : Dv w dd O odd S n P) {k : Nat} (hk : k < n) (t to : Int) (s : ByteArray) (hs : s.size ≤ 200) (hn : S.length ≤ 1000) (he : (Fr.prV to (P k).2.1 s).2 = 0) : Calls Try.prog 20 #[.pointer (some ⟨dd, 0, none⟩), .int .i64 t, .int .i64 (P k).1, .int .i64 to, .string s] w fun e w' => e = .returned (.int .i64 0) ∧ DvN w O dd w' odd (S ++ [(t, (P k).1, (Fr.prV to (P k).2.1 s).1)]) n P := by
  obtain ⟨m, lv, A, g, C, hg, hm, hO, hgp⟩ := h.open hk
  rw [← hgp] at he ⊢
  exact (nsend_ok hg t to s hs hn he).mono fun e w' ⟨e1, e2⟩ => ⟨e1, DvN.of hO e2 hm⟩
end
end Go.Proofs.Ytjhihccjhnlghaa
