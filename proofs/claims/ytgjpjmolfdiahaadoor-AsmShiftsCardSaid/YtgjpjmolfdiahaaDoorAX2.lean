/- A map from texts to numbers: what it holds, a look into it, and a number that is put there. -/
import Derived.Test.YtgjpjmolfdiahaaDoorAX1
import Derived.Test.YtgjpjmolfdiahaaDoorNQ0
import Derived.Maps.OwnSet
import Derived.Maps.OwnOps
import Derived.Maps.Views
import Derived.Carry
import Derived.StringKeys
namespace Go.Proofs.YtgjpjmolfdiahaaDoor
open Go.RowKit Go.Lib
set_option linter.unusedVariables false
set_option maxRecDepth 8000

/-- How a number reads as a map's element. -/
def Am.elem (v : Value) : Option (DataW Unit × List MemPlace) := match v with | .int .i64 n => some (.lit (.int .i64 n), []) | _ => none
theorem Am.elem_mk (n : Int) : Am.elem (.int .i64 n) = some (.lit (.int .i64 n), []) := rfl
theorem Am.elem_inv {v : Value} {z : DataW Unit × List MemPlace} (h : Am.elem v = some z) : ∃ n : Int, v = .int .i64 n ∧ z = (.lit (.int .i64 n), []) := by
  unfold Am.elem at h
  split at h
  · injection h with h
    exact ⟨_, rfl, h.symm⟩
  · cases h
theorem Am.keys : Maps.Keyed Tryd.prog 9 := Maps.string_keyed Tryd.underlying9
theorem Am.key {s : ByteArray} (hs : s.size ≤ maxLen) : keyOf Tryd.prog 9 (.string s) = some (.string s.data.toList) := WideMaps.keyOf_string_mk Tryd.underlying9 hs
theorem Am.key_lit {s : ByteArray} (hs : s.size ≤ maxLen) : WideAt.IsKeyLit (.string s.data.toList) := Am.keys.key (Am.key hs)
theorem Am.int_zero (w : World) : (zeroValue 3).run Tryd.prog w = .ok (.int .i64 0) w := by kernel_rfl

theorem Am.look_some {L : List (List UInt8 × Nat)} {s : List UInt8} {n : Nat} (h : Am.look L s = some n) : (s, n) ∈ L := by
  unfold Am.look at h
  cases e : L.find? (fun x => decide (x.1 = s)) with
  | none => rw [e] at h; cases h
  | some x =>
    rw [e] at h
    have h1 := List.mem_of_find?_eq_some e
    have h2 := List.find?_some e
    simp at h h2
    obtain ⟨a, b⟩ := x
    simp at h h2
    subst h h2
    exact h1
theorem Am.look_none {L : List (List UInt8 × Nat)} {s : List UInt8} (h : Am.look L s = none) : ∀ x ∈ L, x.1 ≠ s := by
  intro x hx
  unfold Am.look at h
  simp at h
  have := h x.1 x.2 hx
  exact this

/-- What the datum of a map says of labels. -/
def Am.Says (D : DataW Unit) (L : List (List UInt8 × Nat)) : Prop :=
  Maps.IsMap D ∧ (∀ s : ByteArray, s.size ≤ maxLen → Maps.has D (.string s.data.toList) = L.any (fun r => decide (r.1 = s.data.toList))) ∧ (∀ r ∈ L, ∀ z, D.atKey (.string r.1) z = .lit (.int .i64 r.2))
theorem Am.Says.nil : Am.Says (.map []) [] := ⟨Maps.isMap_empty, fun o _ => rfl, fun r hr => by cases hr⟩
theorem Am.Says.put {D : DataW Unit} {L : List (List UInt8 × Nat)} (h : Am.Says D L) {s : ByteArray} (hs : s.size ≤ maxLen) (n : Nat) (hn : ∀ x ∈ L, x.1 ≠ s.data.toList) : Am.Says (D.put (.string s.data.toList) (.lit (.int .i64 n))) (L ++ [(s.data.toList, n)]) := by
  obtain ⟨h1, h2, h3⟩ := h
  refine ⟨h1.put _ _, fun o ho => ?_, fun x hx => ?_⟩
  · by_cases e : o.data.toList = s.data.toList
    · rw [e, Maps.has_put_same h1 (Am.key_lit hs)]
      simp
    · have hne : (Lit.string o.data.toList) ≠ .string s.data.toList := fun h => e (by injection h)
      rw [Maps.has_put_other hne, h2 o ho]
      have : ¬ s.data.toList = o.data.toList := fun h => e h.symm
      simp [this]
  · rcases List.mem_append.1 hx with hx | hx
    · intro z
      have hne : (Lit.string x.1) ≠ .string s.data.toList := fun h => hn x hx (by injection h)
      rw [Maps.atKey_put_other hne, h3 x hx]
    · obtain rfl : x = (s.data.toList, n) := by simpa using hx
      exact fun z => Maps.atKey_put_same h1 (Am.key_lit hs) _ _
theorem Am.Says.has_some {D : DataW Unit} {L : List (List UInt8 × Nat)} (h : Am.Says D L) {s : ByteArray} (hs : s.size ≤ maxLen) {n : Nat} (hr : Am.look L s.data.toList = some n) : Maps.has D (.string s.data.toList) = true ∧ ∀ z, D.atKey (.string s.data.toList) z = .lit (.int .i64 n) := by
  have h1 := Am.look_some hr
  refine ⟨?_, h.2.2 _ h1⟩
  rw [h.2.1 s hs, List.any_eq_true]
  exact ⟨_, h1, by simp⟩
theorem Am.Says.has_none {D : DataW Unit} {L : List (List UInt8 × Nat)} (h : Am.Says D L) {s : ByteArray} (hs : s.size ≤ maxLen) (hr : Am.look L s.data.toList = none) : Maps.has D (.string s.data.toList) = false := by
  rw [h.2.1 s hs, List.any_eq_false]
  intro x hx
  simpa using Am.look_none hr x hx

/-- Block b is a map of labels. -/
def Am.MapL (w : World) (b : Nat) (L : List (List UInt8 × Nat)) : Prop := ∃ D : DataW Unit, w.ownsMap Tryd.prog 9 Am.elem b L.length D ∧ Am.Says D L
section
variable {w w' : World} {b : Nat} {L : List (List UInt8 × Nat)}
theorem Am.MapL.lt (h : Am.MapL w b L) : b < w.heap.size := by
  obtain ⟨D, h1, _⟩ := h
  exact h1.lt
theorem Am.MapL.only {row : Option Nat} (h : Am.MapL w b L) (hb : w.grownBy w' row) (hne : some b ≠ row) : Am.MapL w' b L := by
  obtain ⟨D, h1, h2⟩ := h
  exact ⟨D, h1.kept hb hne, h2⟩
theorem Am.MapL.new (w : World) : Am.MapL (w.alloc (.map #[] 0)) w.heap.size [] := ⟨_, World.ownsMap_made w _ _ _, Am.Says.nil⟩
theorem Am.MapL.drewN (h : Am.MapL w b L) (n : Nat) : Am.MapL (w.drewN n) b L := h.only (only_drewN (only_refl _ none) n) (by simp)
theorem Am.MapL.drew (h : Am.MapL w b L) : Am.MapL w.drew b L := h.drewN 1
theorem Am.MapL.alloc (h : Am.MapL w b L) (o : Obj) : Am.MapL (w.alloc o) b L := h.only (only_alloc (only_refl _ none) _) (by simp)
theorem Am.run_look_some {s : ByteArray} (hs : s.size ≤ maxLen) {n : Nat} (hmap : Am.MapL w b L) (hl : Am.look L s.data.toList = some n) :
    (Instr.lookup 51 (.map (some b)) (.string s) true).run Tryd.prog w = .ok (.tuple #[.int .i64 n, .bool true]) w := by
  obtain ⟨D, h1, h2⟩ := hmap
  obtain ⟨e1, e2⟩ := h2.has_some hs hl
  obtain ⟨v, ps, hr, hv⟩ := h1.look_ok Am.keys Tryd.underlying51 (Am.int_zero w) (Am.elem_mk 0) (Am.key hs)
  rw [e2] at hv
  obtain ⟨r, rfl, hz⟩ := Am.elem_inv hv
  injection hz with hz _
  injection hz with hz
  injection hz with _ hz
  subst hz
  rw [e1] at hr
  exact hr
theorem Am.run_look_none {s : ByteArray} (hs : s.size ≤ maxLen) (hmap : Am.MapL w b L) (hl : Am.look L s.data.toList = none) :
    (Instr.lookup 51 (.map (some b)) (.string s) true).run Tryd.prog w = .ok (.tuple #[.int .i64 0, .bool false]) w := by
  obtain ⟨D, h1, h2⟩ := hmap
  have e1 := h2.has_none hs hl
  obtain ⟨v, ps, hr, hv⟩ := h1.look_ok Am.keys Tryd.underlying51 (Am.int_zero w) (Am.elem_mk 0) (Am.key hs)
  rw [Maps.atKey_of_not_has e1] at hv
  obtain ⟨r, rfl, hz⟩ := Am.elem_inv hv
  injection hz with hz _
  injection hz with hz
  injection hz with _ hz
  subst hz
  rw [e1] at hr
  exact hr
theorem Am.run_put {s : ByteArray} (hs : s.size ≤ maxLen) {n : Nat} (hmap : Am.MapL w b L) (hn : Am.look L s.data.toList = none) (hl : L.length < maxLen) :
    ∃ w', (Instr.mapUpdate 51 (.map (some b)) (.string s) (.int .i64 n)).run Tryd.prog w = .ok () w' ∧ Am.MapL w' b (L ++ [(s.data.toList, n)]) ∧ w.grownBy w' (some b) := by
  obtain ⟨D, h1, h2⟩ := hmap
  obtain ⟨w', hr, h3, h4⟩ := h1.store Am.keys Tryd.underlying51 hl (Am.key hs) (Am.elem_mk n)
  exact ⟨w', hr, ⟨_, by simpa using h3, h2.put hs n (Am.look_none hn)⟩, h4.grown⟩
end
end Go.Proofs.YtgjpjmolfdiahaaDoor
