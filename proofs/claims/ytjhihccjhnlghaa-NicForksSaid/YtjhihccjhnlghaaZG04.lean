import Derived.Test.YtjhihccjhnlghaaZG03
import Derived.Maps.RangeWalk
import Derived.Maps.OwnSet
import Derived.Maps.OwnOps
import Derived.Maps.Views
import Derived.Carry
import Derived.Deep.RegionHeld3
set_option linter.all false
/- Ports: what the map of a device of package nic holds. -/
namespace Go.Proofs.Ytjhihccjhnlghaa
open Go.RowKit Go.Lib
set_option linter.unusedVariables false

theorem only_far {a w : World} (h : Below a.heap.size a w) : a.grownBy w none := ⟨h.os, h.tape, h.output, h.size, fun i hi _ => h.block i hi⟩
/-- A port in a map: its owner, its queue's block, its address. -/
abbrev Pp := Int × Option Nat × Int
abbrev ptr (q : Option Nat) : Value := .pointer (q.map fun b => ⟨b, 0, none⟩)
abbrev ppv (r : Pp) : Value := .agg #[ptr r.2.1, .int .i64 r.2.2]
def fitI (x : Int) : Prop := -9223372036854775808 ≤ x ∧ x ≤ 9223372036854775807
instance (x : Int) : Decidable (fitI x) := inferInstanceAs (Decidable (_ ∧ _))
theorem fitI_wf {x : Int} (h : fitI x) : (Lit.int .i64 x).wf = true := by
  simp only [Lit.wf, Bool.and_eq_true, decide_eq_true_eq]
  have e1 : IntKind.i64.min = -9223372036854775808 := by kernel_rfl
  have e2 : IntKind.i64.max = 9223372036854775807 := by kernel_rfl
  unfold fitI at h
  omega
theorem fitI_of {x : Int} (w : (Lit.int .i64 x).wf = true) : fitI x := by
  simp only [Lit.wf, Bool.and_eq_true, decide_eq_true_eq] at w
  have e1 : IntKind.i64.min = -9223372036854775808 := by kernel_rfl
  have e2 : IntKind.i64.max = 9223372036854775807 := by kernel_rfl
  unfold fitI
  omega

/-- How a port reads as1 a map's element. -/
def qNum (q : Option Nat) : Int := match q with | none => -1 | some b => b
theorem qNum_inj {a b : Option Nat} (h : qNum a = qNum b) : a = b := by
  cases a <;> cases b <;> simp [qNum] at h ⊢ <;> omega
def ppDat (q : Option Nat) (m : Int) : DataW Unit := .agg [.lit (.int .i64 (qNum q)), .lit (.int .i64 m)]
def ppElem (v : Value) : Option (DataW Unit × List MemPlace) :=
  match v with
  | .agg cs => (match cs.toList with
    | [.pointer none, .int .i64 m] => some (ppDat none m, [])
    | [.pointer (some ⟨b, 0, none⟩), .int .i64 m] => some (ppDat (some b) m, [])
    | _ => none)
  | _ => none
theorem ppElem_mk (q : Option Nat) (m : Int) : ppElem (.agg #[ptr q, .int .i64 m]) = some (ppDat q m, []) := by cases q <;> rfl
theorem ppElem_inv {v : Value} {z : DataW Unit × List MemPlace} (h : ppElem v = some z) : ∃ (q : Option Nat) (m : Int), v = .agg #[ptr q, .int .i64 m] ∧ z = (ppDat q m, []) := by
  unfold ppElem at h
  split at h
  · rename_i cs
    split at h
    · rename_i m e
      injection h with h
      refine ⟨none, m, ?_, h.symm⟩
      have : cs = #[.pointer none, .int .i64 m] := by
        apply Array.toList_inj.1
        rw [e]
      rw [this]
      rfl
    · rename_i b m e
      injection h with h
      refine ⟨some b, m, ?_, h.symm⟩
      have : cs = #[.pointer (some ⟨b, 0, none⟩), .int .i64 m] := by
        apply Array.toList_inj.1
        rw [e]
      rw [this]
      rfl
    · cases h
  · cases h
theorem ppDat_inj {a b : Option Nat} {m n : Int} (h : ppDat a m = ppDat b n) : a = b ∧ m = n := by
  simp only [ppDat] at h
  injection h with h
  injection h with h1 h
  injection h with h2 h
  injection h1 with h1
  injection h2 with h2
  injection h1 with _ h1
  injection h2 with _ h2
  exact ⟨qNum_inj h1, h2⟩

theorem int_keys : Maps.Keyed Try.prog 3 := Maps.int_keyed Try.underlying3
theorem int_key {x : Int} (h : fitI x) : keyOf Try.prog 3 (.int .i64 x) = some (.int .i64 x) := Maps.keyOf_int_mk Try.underlying3 (fitI_wf h)
theorem int_key_lit {x : Int} (h : fitI x) : WideAt.IsKeyLit (.int .i64 x) := int_keys.key (int_key h)
theorem pp_zero (w : World) : (zeroValue 70).run Try.prog w = .ok (.agg #[ptr none, .int .i64 0]) w := by kernel_rfl

/-- The region of an owner among some. -/
def lookL (L : List Pp) (o : Int) : Option Pp := L.find? fun r => decide (r.1 = o)
theorem lookL_some {L : List Pp} {o : Int} {r : Pp} (h : lookL L o = some r) : r ∈ L ∧ r.1 = o := by
  have h1 := List.mem_of_find?_eq_some h
  have h2 := List.find?_some h
  exact ⟨h1, by simpa using h2⟩
theorem lookL_none {L : List Pp} {o : Int} (h : lookL L o = none) : ∀ r ∈ L, r.1 ≠ o := by
  intro r hr
  have := List.find?_eq_none.1 h r hr
  simpa using this

/-- What the datum of a map says of the regions L. -/
def Says (D : DataW Unit) (L : List Pp) : Prop :=
  Maps.IsMap D ∧ (∀ o : Int, fitI o → Maps.has D (.int .i64 o) = L.any (fun r => decide (r.1 = o))) ∧ (∀ r ∈ L, fitI r.1 ∧ ∀ z, D.atKey (.int .i64 r.1) z = ppDat r.2.1 r.2.2)
theorem Says.nil : Says (.map []) [] := ⟨Maps.isMap_empty, fun o _ => rfl, fun r hr => by cases hr⟩
theorem Says.put {D : DataW Unit} {L : List Pp} (h : Says D L) (r : Pp) (hf : fitI r.1) (hn : ∀ x ∈ L, x.1 ≠ r.1) : Says (D.put (.int .i64 r.1) (ppDat r.2.1 r.2.2)) (L ++ [r]) := by
  obtain ⟨h1, h2, h3⟩ := h
  refine ⟨h1.put _ _, fun o ho => ?_, fun x hx => ?_⟩
  · by_cases e : o = r.1
    · subst e
      rw [Maps.has_put_same h1 (int_key_lit hf)]
      simp
    · have hne : (Lit.int .i64 o) ≠ .int .i64 r.1 := fun h => e (by injection h)
      rw [Maps.has_put_other hne, h2 o ho]
      have : ¬ r.1 = o := fun h => e h.symm
      simp [this]
  · rcases List.mem_append.1 hx with hx | hx
    · obtain ⟨f, g⟩ := h3 x hx
      refine ⟨f, fun z => ?_⟩
      have hne : (Lit.int .i64 x.1) ≠ .int .i64 r.1 := fun h => hn x hx (by injection h)
      rw [Maps.atKey_put_other hne, g]
    · obtain rfl : x = r := by simpa using hx
      exact ⟨hf, fun z => Maps.atKey_put_same h1 (int_key_lit hf) _ _⟩
theorem Says.has_some {D : DataW Unit} {L : List Pp} (h : Says D L) {o : Int} {r : Pp} (hr : lookL L o = some r) : Maps.has D (.int .i64 o) = true ∧ ∀ z, D.atKey (.int .i64 o) z = ppDat r.2.1 r.2.2 := by
  obtain ⟨h1, rfl⟩ := lookL_some hr
  refine ⟨?_, (h.2.2 r h1).2⟩
  rw [h.2.1 r.1 (h.2.2 r h1).1, List.any_eq_true]
  exact ⟨r, h1, by simp⟩
theorem Says.has_none {D : DataW Unit} {L : List Pp} (h : Says D L) {o : Int} (ho : fitI o) (hr : lookL L o = none) : Maps.has D (.int .i64 o) = false := by
  rw [h.2.1 o ho]
  have := lookL_none hr
  simpa using fun a b c hm => this (a, b, c) hm

/-- Block b is a map of the regions L. -/
def MapP (w : World) (b : Nat) (L : List Pp) : Prop := ∃ D : DataW Unit, w.ownsMap Try.prog 3 ppElem b L.length D ∧ Says D L
theorem MapP.lt {w : World} {b : Nat} {L : List Pp} (h : MapP w b L) : b < w.heap.size := by
  obtain ⟨D, h1, _⟩ := h
  exact h1.lt
theorem MapP.only {w w' : World} {b : Nat} {L : List Pp} {row : Option Nat} (h : MapP w b L) (hb : w.grownBy w' row) (hne : some b ≠ row) : MapP w' b L := by
  obtain ⟨D, h1, h2⟩ := h
  exact ⟨D, h1.kept hb hne, h2⟩
theorem MapP.below {w w' : World} {b : Nat} {L : List Pp} (h : MapP w b L) (hb : Below w.heap.size w w') : MapP w' b L := h.only (only_far hb) (by simp)
theorem MapP.new (w : World) : MapP (w.alloc (.map #[] 0)) w.heap.size [] := ⟨_, World.ownsMap_made w _ _ _, Says.nil⟩
theorem MapP.drewN {w : World} {b : Nat} {L : List Pp} (h : MapP w b L) (n : Nat) : MapP (w.drewN n) b L := h.only (only_drewN (only_refl _ none) n) (by simp)

/-! ### at the operation -/
section
variable {w : World} {ops : Array Oper} {rest : List Oper} {o : Oper} {a : Act} {Q : Exit → Act → World → Prop}

/-- 'r, ok := m[k]', there. -/
theorem wpList_look_some (hg : o.guard = none) (m x : Operand) (hop : o.op = Op.lookup 63 m x true) (b : Nat) (L : List Pp) (k p : Int) (q : Option Nat) (s : Int) (hm : a.eval m = .map (some b)) (hmap : MapP w b L) (hx : a.eval x = .int .i64 k) (hk : fitI k) (hl : lookL L k = some (p, q, s))
    (hK : wpList Try.prog ops Q rest (a.put o.dst (.tuple #[.agg #[ptr q, .int .i64 s], .bool true])) w) : wpList Try.prog ops Q (o :: rest) a w := by
  obtain ⟨D, h1, h2⟩ := hmap
  obtain ⟨e1, e2⟩ := h2.has_some hl
  refine wpList_lookup_own_ok w hg m x _ hop 3 70 int_keys Try.underlying63 ppElem (pp_zero w) (ppDat none 0) [] rfl b L.length D hm h1 (.int .i64 k) (.int .i64 k) hx (int_key hk) ?_
  intro v ps hv
  rw [e2] at hv
  obtain ⟨q', m', rfl, hz⟩ := ppElem_inv hv
  injection hz with hz _
  obtain ⟨rfl, rfl⟩ := ppDat_inj hz
  rw [e1]
  exact hK
/-- .. not there. -/
theorem wpList_look_none (hg : o.guard = none) (m x : Operand) (hop : o.op = Op.lookup 63 m x true) (b : Nat) (L : List Pp) (k : Int) (hm : a.eval m = .map (some b)) (hmap : MapP w b L) (hx : a.eval x = .int .i64 k) (hk : fitI k) (hl : lookL L k = none)
    (hK : wpList Try.prog ops Q rest (a.put o.dst (.tuple #[.agg #[ptr none, .int .i64 0], .bool false])) w) : wpList Try.prog ops Q (o :: rest) a w := by
  obtain ⟨D, h1, h2⟩ := hmap
  have e1 := h2.has_none hk hl
  refine wpList_lookup_own_ok w hg m x _ hop 3 70 int_keys Try.underlying63 ppElem (pp_zero w) (ppDat none 0) [] rfl b L.length D hm h1 (.int .i64 k) (.int .i64 k) hx (int_key hk) ?_
  intro v ps hv
  rw [Maps.atKey_of_not_has e1] at hv
  obtain ⟨q', m', rfl, hz⟩ := ppElem_inv hv
  injection hz with hz _
  obtain ⟨rfl, rfl⟩ := ppDat_inj hz
  rw [e1]
  exact hK
/-- 'm[r.Owner] = r', where it is not there yet. -/
theorem wpList_put_reg (hg : o.guard = none) (m x v : Operand) (hop : o.op = Op.mapUpdate 63 m x v) (b : Nat) (L : List Pp) (p : Int) (q : Option Nat) (s : Int) (hm : a.eval m = .map (some b)) (hmap : MapP w b L) (hx : a.eval x = .int .i64 p) (hv : a.eval v = .agg #[ptr q, .int .i64 s]) (hk : fitI p) (hn : ∀ y ∈ L, y.1 ≠ p) (hl : L.length < maxLen)
    (hK : ∀ w', MapP w' b (L ++ [(p, q, s)]) → w.grownBy w' (some b) → wpList Try.prog ops Q rest (a.put o.dst undef) w') : wpList Try.prog ops Q (o :: rest) a w := by
  obtain ⟨D, h1, h2⟩ := hmap
  refine wpList_mapUpdate_in w hg m x v _ hop 3 70 int_keys Try.underlying63 ppElem b L.length D hm h1 hl _ _ (.int .i64 p) hx hv (int_key hk) (ppDat q s) [] (ppElem_mk q s) ?_
  intro w' h3 h4
  exact hK w' ⟨_, by simpa using h3, h2.put (p, q, s) hk hn⟩ h4.grown

/-- A range over a map of regions under way: rem is still to come. -/
def RngP (w : World) (b r : Nat) (L rem : List Pp) (cnt : Nat) : Prop :=
  ∃ D left, w.ranges Try.prog 3 ppElem b r L.length D left cnt ∧ Says D L ∧ (∀ kl, left kl = true → ∃ x ∈ rem, kl = .int .i64 x.1) ∧ (∀ x ∈ rem, left (.int .i64 x.1) = true) ∧ (∀ x ∈ rem, x ∈ L) ∧ (rem.map (·.1)).Nodup
theorem RngP.map {w : World} {b r : Nat} {L rem : List Pp} {cnt : Nat} (h : RngP w b r L rem cnt) : MapP w b L := by
  obtain ⟨D, left, h1, h2, _⟩ := h
  exact ⟨D, h1.owns, h2⟩
theorem RngP.only {w w' : World} {b r : Nat} {L rem : List Pp} {cnt : Nat} {row : Option Nat} (h : RngP w b r L rem cnt) (hb : w.grownBy w' row) (h1 : some b ≠ row) (h2 : some r ≠ row) : RngP w' b r L rem cnt := by
  obtain ⟨D, left, h3, h4⟩ := h
  exact ⟨D, left, h3.kept hb h1 h2, h4⟩
theorem RngP.left_eq {w : World} {b r : Nat} {L rem : List Pp} {cnt : Nat} (h : RngP w b r L rem cnt) : w.rangeLeft b r = cnt := by
  obtain ⟨D, left, h3, h4⟩ := h
  exact h3.left_eq

theorem wpList_range_reg (hg : o.guard = none) (m : Operand) (hop : o.op = Op.range 63 m) (b : Nat) (L : List Pp) (hm : a.eval m = .map (some b)) (hmap : MapP w b L) (hnd : (L.map (·.1)).Nodup)
    (hK : ∀ w' cnt, RngP w' b w.heap.size L L cnt → w.grownBy w' none → w'.heap.size = w.heap.size + 1 → wpList Try.prog ops Q rest (a.put o.dst (.pointer (some ⟨w.heap.size, 0, none⟩))) w') : wpList Try.prog ops Q (o :: rest) a w := by
  obtain ⟨D, h1, h2⟩ := hmap
  refine wpList_range_own w hg m _ hop 3 70 int_keys Try.underlying63 ppElem b L.length D hm h1 ?_
  intro w' h3 h4 h5
  refine hK w' _ ⟨D, Maps.has D, h3, h2, fun kl hkl => ?_, fun x hx => ?_, fun x hx => hx, hnd⟩ h4 h5
  · obtain ⟨es, clock, _, F, _, hD⟩ := h1
    rw [hD] at hkl
    obtain ⟨p, hp, hpk⟩ := List.any_eq_true.1 hkl
    obtain ⟨y, hy, rfl⟩ := List.mem_map.1 (mem_sorted.1 hp)
    obtain ⟨z, hz⟩ := F.reads y hy
    rw [WideElems.rg_of hz] at hpk
    have hk := WideElems.rd_key hz
    obtain ⟨x, hx1, hx2, hx3⟩ := Maps.keyOf_int_inv Try.underlying3 hk
    have hkx := WideAt.sameKey_eq hpk
    have hf := fitI_of hx3
    have hh : Maps.has D (.int .i64 x) = true := by
      rw [hD]
      rw [← hx2, hkx]
      exact hkl
    rw [h2.2.1 x hf] at hh
    obtain ⟨r, hr, hrx⟩ := List.any_eq_true.1 hh
    have hrx' : r.1 = x := by simpa using hrx
    exact ⟨r, hr, by rw [hrx', ← hkx, hx2]⟩
  · rw [h2.2.1 x.1 (h2.2.2 x hx).1, List.any_eq_true]
    exact ⟨x, hx, by simp⟩

theorem wpList_next_reg (hg : o.guard = none) (it : Operand) (hop : o.op = Op.next it false) (b r : Nat) (L rem : List Pp) (cnt : Nat) (hit : a.eval it = .pointer (some ⟨r, 0, none⟩)) (h : RngP w b r L rem cnt)
    (hDone : rem = [] → wpList Try.prog ops Q rest (a.put o.dst (.tuple #[.bool false])) w)
    (hMore : ∀ (p : Int) (q : Option Nat) (s : Int) (rem' : List Pp) (w' : World) (cnt' : Nat), rem.Perm ((p, q, s) :: rem') → RngP w' b r L rem' cnt' → cnt' < cnt → w.grownBy w' (some r) → w'.heap.size = w.heap.size →
      (Instr.entry (.pointer (some ⟨r, 0, none⟩))).run Try.prog w' = .ok (.tuple #[.int .i64 p, .agg #[ptr q, .int .i64 s]]) w' → wpList Try.prog ops Q rest (a.put o.dst (.tuple #[.bool true, .int .i64 p, .agg #[ptr q, .int .i64 s]])) w') : wpList Try.prog ops Q (o :: rest) a w := by
  obtain ⟨D, left, h1, h2, h3, h4, h5, h6⟩ := h
  refine wpList_next_ranges (β := Option Nat × Int) w hg it hop 3 int_keys ppElem (Value.int .i64) (fun c => .agg #[ptr c.1, .int .i64 c.2]) (fun key kl hkey => by obtain ⟨x, rfl, _⟩ := Maps.keyOf_int_inv Try.underlying3 hkey; exact ⟨x, rfl⟩) (fun v y hv => by obtain ⟨q', m', rfl, _⟩ := ppElem_inv hv; exact ⟨(q', m'), rfl⟩) b r L.length D left cnt hit h1 ?_ ?_
  · intro _ hl
    refine hDone ?_
    cases rem with
    | nil => rfl
    | cons x rem =>
      have := h4 x (List.mem_cons_self ..)
      rw [hl] at this
      cases this
  · intro x c kl y w' cnt' hkey hlk hv hat hrg hlt hgr hsz hen
    obtain ⟨x', ex, rfl, hwx⟩ := Maps.keyOf_int_inv Try.underlying3 hkey
    injection ex with _ ex
    subst ex
    obtain ⟨z, hz, hzk⟩ := h3 _ hlk
    have hzx : x = z.1 := by injection hzk
    subst hzx
    rw [ppElem_mk] at hv
    injection hv with hv
    subst hv
    have hzc := (h2.2.2 z (h5 z hz)).2 (ppDat z.2.1 z.2.2)
    rw [hat] at hzc
    obtain ⟨z1, z2, z3⟩ := z
    obtain ⟨c1, c2⟩ := c
    obtain ⟨e1, e2⟩ := ppDat_inj hzc
    simp only at e1 e2
    subst e1 e2
    have hp := List.perm_cons_erase hz
    refine hMore z1 c1 c2 (rem.erase (z1, c1, c2)) w' cnt' hp ⟨D, _, hrg, h2, fun kl hkl => ?_, fun x hx => ?_, fun x hx => h5 x (List.mem_of_mem_erase hx), ?_⟩ hlt hgr hsz hen
    · simp only [Bool.and_eq_true] at hkl
      obtain ⟨u, hu, rfl⟩ := h3 kl hkl.1
      rcases List.mem_cons.1 ((hp.mem_iff).1 hu) with e | e
      · subst e
        have := hkl.2
        rw [WideAt.sameKey_self (int_key_lit (h2.2.2 _ (h5 _ hu)).1)] at this
        cases this
      · exact ⟨u, e, rfl⟩
    · have hx' := List.mem_of_mem_erase hx
      simp only [Bool.and_eq_true]
      refine ⟨h4 x hx', ?_⟩
      have hnd := (hp.map (·.1)).nodup_iff.1 h6
      have hne : (Lit.int .i64 x.1) ≠ .int .i64 z1 := fun e => by
        injection e with _ e
        rw [List.map_cons, List.nodup_cons] at hnd
        exact hnd.1 (List.mem_map.2 ⟨x, hx, e⟩)
      rw [Maps.sameKey_ne hne]
      rfl
    · have hnd := (hp.map (·.1)).nodup_iff.1 h6
      rw [List.map_cons, List.nodup_cons] at hnd
      exact hnd.2
end
end Go.Proofs.Ytjhihccjhnlghaa

/- A device of package nic: which ports may be, whose a port is, what a nil device answers. -/
namespace Go.Proofs.Ytjhihccjhnlghaa
open Go.RowKit Go.Lib
set_option linter.unusedVariables false

/-- Which ports may be: owner, address, limit. -/
def mayP (r : Int × Int × Int) : Bool := decide (1 ≤ r.1 ∧ r.1 ≤ 8 ∧ 0 ≤ r.2.1 ∧ r.2.1 ≤ 255 ∧ 0 ≤ r.2.2 ∧ r.2.2 ≤ 16)
theorem mayP_iff {r : Int × Int × Int} : mayP r = true ↔ (1 ≤ r.1 ∧ r.1 ≤ 8 ∧ 0 ≤ r.2.1 ∧ r.2.1 ≤ 255 ∧ 0 ≤ r.2.2 ∧ r.2.2 ≤ 16) := by simp [mayP]
/-- A port as1 a value. -/
abbrev i3v (r : Int × Int × Int) : Value := .agg #[.int .i64 r.1, .int .i64 r.2.1, .int .i64 r.2.2]

theorem pmay_any (r : Int × Int × Int) (w : World) : Calls Try.prog 39 #[i3v r] w fun e w' => e = .returned (.bool (mayP r)) ∧ w.grownBy w' none := by
  obtain ⟨o, b, s⟩ := r
  have key : (¬ 1 ≤ o ∧ mayP (o, b, s) = false) ∨ (1 ≤ o ∧ ¬ o ≤ 8 ∧ mayP (o, b, s) = false) ∨ (1 ≤ o ∧ o ≤ 8 ∧ ¬ 0 ≤ b ∧ mayP (o, b, s) = false) ∨ (1 ≤ o ∧ o ≤ 8 ∧ 0 ≤ b ∧ ¬ b ≤ 255 ∧ mayP (o, b, s) = false) ∨ (1 ≤ o ∧ o ≤ 8 ∧ 0 ≤ b ∧ b ≤ 255 ∧ ¬ 0 ≤ s ∧ mayP (o, b, s) = false) ∨ (1 ≤ o ∧ o ≤ 8 ∧ 0 ≤ b ∧ b ≤ 255 ∧ 0 ≤ s ∧ ¬ s ≤ 16 ∧ mayP (o, b, s) = false) ∨ (1 ≤ o ∧ o ≤ 8 ∧ 0 ≤ b ∧ b ≤ 255 ∧ 0 ≤ s ∧ s ≤ 16 ∧ mayP (o, b, s) = true) := by
    by_cases h1 : 1 ≤ o <;> by_cases h2 : o ≤ 8 <;> by_cases h3 : 0 ≤ b <;> by_cases h4 : b ≤ 255 <;> by_cases h5 : 0 ≤ s <;> by_cases h6 : s ≤ 16 <;> simp [mayP, h1, h2, h3, h4, h5, h6]
  rcases key with ⟨h1, e⟩ | ⟨h1, h2, e⟩ | ⟨h1, h2, h3, e⟩ | ⟨h1, h2, h3, h4, e⟩ | ⟨h1, h2, h3, h4, h5, e⟩ | ⟨h1, h2, h3, h4, h5, h6, e⟩ | ⟨h1, h2, h3, h4, h5, h6, e⟩
  all_goals
    have E := Lib.hid e
    clear e
    go_enter Try.func39, Try.ntmps39
    go_wp2
    go_ret
    rw [E.out]
    exact ⟨by first | rfl | (simp; done) | (simp; omega), only_alloc (only_refl _ _) _⟩

theorem nfind_nil (o : Int) (w : World) : Calls Try.prog 32 #[.pointer none, .int .i64 o] w fun e w' => e = .returned (.tuple #[.agg #[ptr none, .int .i64 0], .int .i64 1]) ∧ w.grownBy w' none := by
  go_enter Try.func32, Try.ntmps32
  go_wp2
  refine bodyPost_ret (v := .tuple #[.agg #[ptr none, .int .i64 0], .int .i64 1]) (by simp [results, Try.results32, go_sem]) rfl ⟨rfl, only_alloc (only_refl _ _) _⟩
section
variable {w : World} {d m : Nat} {L : List Pp} {odd : Int} {lv : Value}
theorem nfind_some {o p : Int} {q : Option Nat} {s : Int} (hd : Blk w d 65 #[.map (some m), .int .i64 odd, lv]) (hm : MapP w m L) (ho : fitI o) (hl : lookL L o = some (p, q, s)) : Calls Try.prog 32 #[.pointer (some ⟨d, 0, none⟩), .int .i64 o] w fun e w' => e = .returned (.tuple #[.agg #[ptr q, .int .i64 s], .int .i64 0]) ∧ w.grownBy w' none := by
  have c0 := hd.cell 0
  simp at c0
  have k0 : (w.alloc (.cells #[.pointer none, .int .i64 0] 70)).cell? ⟨d, 0, none⟩ = some (.map (some m)) := (hd.alloc _).cell 0
  have HM := Lib.hid hm
  have HL := Lib.hid hl
  clear hd hm hl
  go_enter Try.func32, Try.ntmps32
  go_wp2_with (at_lookup; refine wpList_look_some rfl _ _ rfl m L o p q s rfl (HM.out.only (only_alloc (only_refl _ none) _) (by simp)) rfl ho HL.out ?_)
  refine bodyPost_ret (v := .tuple #[.agg #[ptr q, .int .i64 s], .int .i64 0]) (by simp [results, Try.results32, go_sem]) rfl ⟨rfl, only_alloc (only_alloc (only_refl _ _) _) _⟩
theorem nfind_none {o : Int} (hd : Blk w d 65 #[.map (some m), .int .i64 odd, lv]) (hm : MapP w m L) (ho : fitI o) (hl : lookL L o = none) : Calls Try.prog 32 #[.pointer (some ⟨d, 0, none⟩), .int .i64 o] w fun e w' => e = .returned (.tuple #[.agg #[ptr none, .int .i64 0], .int .i64 7]) ∧ w.grownBy w' none := by
  have c0 := hd.cell 0
  simp at c0
  have k0 : (w.alloc (.cells #[.pointer none, .int .i64 0] 70)).cell? ⟨d, 0, none⟩ = some (.map (some m)) := (hd.alloc _).cell 0
  have HM := Lib.hid hm
  have HL := Lib.hid hl
  clear hd hm hl
  go_enter Try.func32, Try.ntmps32
  go_wp2_with (at_lookup; refine wpList_look_none rfl _ _ rfl m L o rfl (HM.out.only (only_alloc (only_refl _ none) _) (by simp)) rfl ho HL.out ?_)
  refine bodyPost_ret (v := .tuple #[.agg #[ptr none, .int .i64 0], .int .i64 7]) (by simp [results, Try.results32, go_sem]) rfl ⟨rfl, only_alloc (only_alloc (only_refl _ _) _) _⟩

/-- Whose an address is; nobody's: 0. -/
def ownL (L : List Pp) (mac : Int) : Int := ((L.find? fun x => decide (x.2.2 = mac)).map (·.1)).getD 0
theorem ownL_in {mac : Int} {x : Pp} (hx : x ∈ L) (hm : x.2.2 = mac) (hn : (L.map (·.2.2)).Nodup) : ownL L mac = x.1 := by
  unfold ownL
  induction L with
  | nil => cases hx
  | cons y L ih =>
    rw [List.map_cons, List.nodup_cons] at hn
    rw [List.find?_cons]
    by_cases hy : y.2.2 = mac
    · rcases List.mem_cons.1 hx with rfl | h
      · simp [hy]
      · exact absurd (List.mem_map.2 ⟨x, h, by rw [hm, hy]⟩) hn.1
    · rcases List.mem_cons.1 hx with rfl | h
      · exact absurd hm hy
      · simp only [hy, decide_false]
        exact ih h hn.2
theorem ownL_out {mac : Int} (h : ∀ y ∈ L, y.2.2 ≠ mac) : ownL L mac = 0 := by
  unfold ownL
  have : L.find? (fun x => decide (x.2.2 = mac)) = none := List.find?_eq_none.2 (by intro x hx; simpa using h x hx)
  rw [this]
  rfl

theorem nown_nil (mac : Int) (w : World) : Calls Try.prog 23 #[.pointer none, .int .i64 mac] w fun e w' => e = .returned (.int .i64 0) ∧ w = w' := by
  go_enter Try.func23, Try.ntmps23
  go_wp2
  go_ret
  exact ⟨rfl, rfl⟩
set_option maxHeartbeats 1600000 in
theorem nown_any (mac : Int) (hd : Blk w d 65 #[.map (some m), .int .i64 odd, lv]) (hm : MapP w m L) (hn1 : (L.map (·.1)).Nodup) (hn2 : (L.map (·.2.2)).Nodup) : Calls Try.prog 23 #[.pointer (some ⟨d, 0, none⟩), .int .i64 mac] w fun e w' => e = .returned (.int .i64 (ownL L mac)) ∧ w.grownBy w' none := by
  have c0 := hd.cell 0
  simp at c0
  have HM := Lib.hid hm
  have HN1 := Lib.hid hn1
  have HN2 := Lib.hid hn2
  clear hd hm hn1 hn2
  go_enter Try.func23, Try.ntmps23
  go_wp2_with (at_range; refine wpList_range_reg rfl _ rfl m L rfl HM.out HN1.out ?_; intro w3 cnt hr hg3 hs3)
  go_frame
  have RN := Lib.hid hr
  have B3 : Hid (Below w.heap.size w w3) := Lib.hid (below_of_only hg3 (Nat.le_refl _) (by simp))
  have MLT := Lib.hid HM.out.lt
  clear hr hg3 hs3 c0
  go_loopw [5] (fun x wr => ∃ rem cnt, RngP wr m w.heap.size L rem cnt ∧ Hid (∀ y ∈ L, y ∈ rem ∨ y.2.2 ≠ mac) ∧ (∀ y ∈ rem, y ∈ L) ∧ Below w.heap.size w wr) (fun x wr => wr.rangeLeft m w.heap.size)
  case atStart => exact ⟨L, _, RN.out, Lib.hid (fun y hy => .inl hy), fun y hy => hy, B3.out⟩
  case round =>
    obtain ⟨rem, cnt', hrn, HS, hrl, hb⟩ := hrel
    have HRN := Lib.hid hrn
    have HRL := Lib.hid hrl
    have HB := Lib.hid hb
    clear hrn hrl hb
    go_wp2_with (at_next; refine wpList_next_reg rfl _ rfl m _ L rem cnt' rfl HRN.out ?_ ?_)
    · intro hrem
      subst hrem
      have hc : ownL L mac = 0 := ownL_out (fun y hy => by rcases HS.out y hy with h | h <;> first | (cases h; done) | exact h)
      have HC := Lib.hid hc
      clear hc
      go_wp2
      go_ret
      exact ⟨ret_int (by rw [HC.out]), only_far HB.out⟩
    · intro x1 x2 x3 rem' wn cnt2 hperm hrn2 hlt hgn hsn hen
      have hyL : (x1, x2, x3) ∈ L := HRL.out _ (hperm.mem_iff.2 (List.mem_cons_self ..))
      have HYL := Lib.hid hyL
      have HRNN := Lib.hid hrn2
      have HPERM := Lib.hid hperm
      have HLT := Lib.hid hlt
      have BQ := Lib.hid (HB.out.trans (below_of_only hgn HB.out.size (fun k hk => by injection hk with hk; omega)))
      clear hperm hrn2 hlt hgn hsn hyL
      by_cases hmx : x3 = mac
      · have hc : ownL L mac = x1 := ownL_in (x := (x1, x2, x3)) HYL.out hmx HN2.out
        have HC := Lib.hid hc
        clear hc
        go_wp2
        go_ret
        exact ⟨ret_int (by rw [HC.out]), only_far (BQ.out.alloc BQ.out.size _)⟩
      · have HMX := Lib.hid hmx
        go_wp2
        go_roundw
        case rel =>
          refine ⟨rem', cnt2, HRNN.out.only (only_alloc (only_refl _ none) _) (by simp) (by simp), Lib.hid fun y hy => ?_, fun y hy => HRL.out y (HPERM.out.mem_iff.2 (List.mem_cons_of_mem _ hy)), BQ.out.alloc BQ.out.size _⟩
          rcases HS.out y hy with h | h
          · rcases List.mem_cons.1 (HPERM.out.mem_iff.1 h) with e | e
            · subst e
              exact .inr HMX.out
            · exact .inl e
          · exact .inr h
        case measure =>
          rw [(HRNN.out.only (only_alloc (only_refl _ none) _) (by simp) (by simp)).left_eq, HRN.out.left_eq]
          exact HLT.out
end
end Go.Proofs.Ytjhihccjhnlghaa
