import Derived.Test.YtldbhcbmcogmfaaDoorZ02
import Derived.Maps.OwnSet
import Derived.Maps.OwnOps
import Derived.Maps.Views
import Derived.Carry
import Derived.StringKeys
import Derived.WalkLawsBesides
import Derived.Laws.IdiomStrings
import Derived.Shelf.Small.Wraps
import Derived.Shelf.Lay
import Derived.Ground.NamesProg
set_option linter.all false
/- Slices of the call's own, of elements of any size, that move along their rows: what they hold, and what an append, a clearing and a cut do. No program is spoken of here. -/
namespace Go.Proofs.YtldbhcbmcogmfaaDoor
open Go.RowKit Go.Lib
set_option linter.unusedVariables false

/-- A slice of n elements of s cells, xs: nil, or in a row that it may write. -/
def RowZ (s : Nat) (w : World) (v : Value) (n : Nat) (xs : List Value) : Prop :=
  xs.length = n * s ∧ ((v = .slice none 0 0 ∧ n = 0) ∨ ∃ g off cap, v = .slice (some ⟨g, off, none⟩) n cap ∧ n ≤ cap ∧ cap ≤ maxLen ∧ g < w.heap.size ∧
    (∀ j, j < cap * s → (w.cell? ⟨g, off + j, none⟩).isSome = true ∧ w.frozen? ⟨g, off + j, none⟩ = false) ∧ ∀ j u, xs[j]? = some u → w.cell? ⟨g, off + j, none⟩ = some u)
section
variable {s : Nat} {w w' : World} {v : Value} {n : Nat} {xs : List Value}
theorem RowZ.nil (s : Nat) (w : World) : RowZ s w (.slice none 0 0) 0 [] := ⟨by simp, .inl ⟨rfl, rfl⟩⟩
theorem RowZ.form (h : RowZ s w v n xs) : ∃ A c, v = .slice A n c := by
  rcases h with ⟨_, ⟨rfl, rfl⟩ | ⟨g, off, cap, rfl, _⟩⟩
  · exact ⟨_, _, rfl⟩
  · exact ⟨_, _, rfl⟩
theorem RowZ.lt (h : RowZ s w v n xs) : ∀ k, v.ownBlock = some k → k < w.heap.size := by
  intro k hk
  rcases h with ⟨_, ⟨rfl, _⟩ | ⟨g, off, cap, rfl, _, _, hg, _⟩⟩
  · simp [Value.ownBlock] at hk
  · simp [Value.ownBlock] at hk
    omega
theorem RowZ.same (h : RowZ s w v n xs) (hs : w.heap.size ≤ w'.heap.size) (hb : ∀ k, v.ownBlock = some k → w'.heap[k]? = w.heap[k]?) : RowZ s w' v n xs := by
  rcases h with ⟨hl, h | ⟨g, off, cap, rfl, h1, h2, h3, h4, h5⟩⟩
  · exact ⟨hl, .inl h⟩
  · have hg := hb g rfl
    have hc : ∀ o, w'.cell? ⟨g, o, none⟩ = w.cell? ⟨g, o, none⟩ := fun o => by simp [World.cell?, hg]
    have hf : ∀ o, w'.frozen? ⟨g, o, none⟩ = w.frozen? ⟨g, o, none⟩ := fun o => by simp [World.frozen?, hg]
    exact ⟨hl, .inr ⟨g, off, cap, rfl, h1, h2, by omega, fun j hj => by rw [hc, hf]; exact h4 j hj, fun j u hu => by rw [hc]; exact h5 j u hu⟩⟩
theorem RowZ.keeps {S : Nat → Prop} (h : RowZ s w v n xs) (k : Keeps S w w') (hn : ∀ i, v.ownBlock = some i → ¬ S i) : RowZ s w' v n xs :=
  h.same k.size fun i hi => k.2.2.2.2 i (h.lt i hi) (hn i hi)
theorem RowZ.only {row : Option Nat} (h : RowZ s w v n xs) (k : w.grownBy w' row) (hn : v.ownBlock = none ∨ v.ownBlock ≠ row) : RowZ s w' v n xs :=
  h.same k.size fun i hi => k.block i (h.lt i hi) (fun e => by rcases hn with hn | hn; rw [hn] at hi; cases hi; exact hn (hi.trans e))
theorem RowZ.grown (h : RowZ s w v n xs) (k : w.grownBy w' none) : RowZ s w' v n xs := h.only k (by cases hv : v.ownBlock <;> simp)
theorem RowZ.below {B : Nat} (h : RowZ s w v n xs) (k : Below B w w') (hn : ∀ i, v.ownBlock = some i → i < B) : RowZ s w' v n xs :=
  h.same k.size fun i hi => k.block i (hn i hi)
theorem RowZ.drewN (h : RowZ s w v n xs) (q : Nat) : RowZ s (w.drewN q) v n xs := h
theorem RowZ.alloc (h : RowZ s w v n xs) (o : Obj) : RowZ s (w.alloc o) v n xs := h.same (by simp) fun k hk => Below.heap_alloc w o k (h.lt k hk)
theorem RowZ.put (h : RowZ s w v n xs) {p : Addr} (hp : v.ownBlock ≠ some p.block) (u : Value) : RowZ s (w.setCell p u) v n xs :=
  h.same (by simp) fun k hk => Below.heap_setCell w p u k (by rintro rfl; exact hp hk)
theorem RowZ.len (h : RowZ s w v n xs) : xs.length = n * s := h.1

/-- A new row whose first places hold xs. -/
theorem RowZ.new (w : World) (cur : Array Value) (e : TypeId) (cap : Nat) (hl : xs.length = n * s) (hc : cur.size = cap * s) (hn : n ≤ cap) (hm : cap ≤ maxLen) (hp : ∀ (j : Nat) (u : Value), xs[j]? = some u → cur[j]? = some u) :
    RowZ s (w.alloc (.cells cur e)) (.slice (some ⟨w.heap.size, 0, none⟩) n cap) n xs := by
  have hb : Blk (w.alloc (.cells cur e)) w.heap.size e cur := Blk.new w e cur
  refine ⟨hl, .inr ⟨w.heap.size, 0, cap, rfl, hn, hm, by simp, fun j hj => ⟨?_, hb.free _⟩, fun j u hu => ?_⟩⟩
  · rw [hb.cell, Nat.zero_add, Array.getElem?_eq_getElem (by omega)]
    rfl
  · rw [hb.cell, Nat.zero_add]
    exact hp j u hu

/-- What a slice reads as1, for an append of its elements. -/
theorem RowZ.src {P : Program} (h : RowZ s w v n xs) (tx e' : TypeId) (hk : P.underlying tx = some (.slice e')) (h1 : ∀ u ∈ xs, u.oneCell' = true) : Src P s tx v n xs w := by
  rcases h with ⟨hl, ⟨rfl, rfl⟩ | ⟨g, off, cap, rfl, _, _, _, _, h5⟩⟩
  · have : xs = [] := List.eq_nil_of_length_eq_zero (by omega)
    subst this
    exact Src.ofNil w hk 0
  · refine Src.ofSlice w hk _ _ _ _ hl ?_ h1
    intro j u hu
    rw [addr_at]
    exact h5 j u hu

/-- append(v, x), v a slice of the call's own. -/
theorem run_pushZ {P : Program} (w : World) (t e ty : TypeId) (i : TypeInfo) (z : Value) (bytes : Nat) (ht : P.underlying t = some (.slice e)) (hi : P.info? e = some i) (hz : i.zero = some z) (hs : i.size = s) (hby : i.bytes = bytes) (hb16 : bytes ≤ 64) (hzs : z.cells.size = s)
    (v : Value) (n : Nat) (l : List Value) (h : RowZ s w v n l) (h1 : ∀ u ∈ l, u.oneCell' = true) (xs : Value) (x : List Value) (hx : Src P s t xs 1 x w) (hn : n ≤ 1000000) :
    ∃ v' w', (Builtin.append_ #[t, t] ty #[v, xs]).run P w = .ok v' w' ∧ RowZ s w' v' (n + 1) (l ++ x) ∧ w.grownBy w' v.ownBlock ∧ (v'.ownBlock = v.ownBlock ∨ v'.ownBlock = some w.heap.size) := by
  have hxl : x.length = s := by have := hx.newsLen; omega
  have hlx : (l ++ x).length = (n + 1) * s := by rw [List.length_append, h.1, hxl, Nat.add_mul, Nat.one_mul]
  have hbm : (n + 1) * bytes ≤ 140737488355328 := by
    have : (n + 1) * bytes ≤ 1000001 * 64 := Nat.mul_le_mul (by omega) hb16
    omega
  have hsrc : Src P i.size t xs 1 x w := by rw [hs]; exact hx
  have grown : ∀ (base : Option Addr) (cap : Nat), v = .slice base n cap → cap < n + 1 → ∃ v' w', (Builtin.append_ #[t, t] ty #[v, xs]).run P w = .ok v' w' ∧ RowZ s w' v' (n + 1) (l ++ x) ∧ w.grownBy w' v.ownBlock ∧ (v'.ownBlock = v.ownBlock ∨ v'.ownBlock = some w.heap.size) := by
    intro base cap hv hcap
    have hold := ((h.drewN 1).src (P := P) t e ht h1).cells
    have hm : n + 1 ≤ maxLen := by unfold maxLen; omega
    have hge := grownCap_ge w (n + 1) cap e
    have hcm := grownCap_le_maxLen w (n + 1) cap e hm
    rw [hv] at hold
    have hr := run_append_grow_src (P := P) w t t ty e i z ht hi hz base n cap l (by rw [hs]; exact hold) xs 1 x hsrc hcap (by omega) (by rw [hby]; exact growslice_fits hcap hbm)
    rw [hv]
    refine ⟨_, _, hr, ?_, ⟨rfl, rfl, rfl, by simp, fun k hk _ => Below.heap_alloc w.drew _ k hk⟩, .inr rfl⟩
    refine RowZ.new w.drew _ e _ hlx ?_ hge hcm (fun j u hu => ?_)
    · simp only [Array.size_append, List.size_toArray, size_zeroCells, hzs, hlx]
      rw [← Nat.add_mul]
      congr 1
      omega
    · have hj := (List.getElem?_eq_some_iff.1 hu).1
      rw [Array.getElem?_append_left (by simpa using hj)]
      simpa using hu
  rcases h with ⟨hl, ⟨rfl, rfl⟩ | ⟨g, off, cap, rfl, h2, h3, h4, h5, h6⟩⟩
  · exact grown none 0 rfl (by omega)
  · by_cases hroom : n + 1 ≤ cap
    · have hcs : n * s + s ≤ cap * s := by
        have := Nat.mul_le_mul_right s hroom
        rw [Nat.add_mul, Nat.one_mul] at this
        exact this
      have hr := run_append_room_src (P := P) w t t ty e i ht hi g off n cap xs 1 x hsrc hroom (by
        intro j hj
        rw [hs, Nat.add_assoc]
        exact (h5 (n * s + j) (by omega)).1) (by
        intro j hj
        rw [hs, Nat.add_assoc]
        exact (h5 (n * s + j) (by omega)).2)
      rw [hs] at hr
      have hsome : ∀ k, k < x.length → (w.cell? ⟨g, off + n * s + k, none⟩).isSome = true := fun k hk => by
        rw [Nat.add_assoc]
        exact (h5 (n * s + k) (by omega)).1
      refine ⟨_, _, hr, ⟨hlx, .inr ⟨g, off, cap, rfl, hroom, h3, ?_, ?_, ?_⟩⟩, only_cells _ _ _ _, .inl rfl⟩
      · rw [(setCells_at g x (off + n * s) w).2.2.2.1]
        exact h4
      · intro j hj
        rw [World.frozen?_setCells]
        refine ⟨?_, (h5 j hj).2⟩
        by_cases e1 : n * s ≤ j ∧ j < n * s + s
        · have := World.cell?_setCells_in g x (off + n * s) w hsome (j - n * s) (by omega)
          rw [show off + n * s + (j - n * s) = off + j by omega] at this
          rw [this]
          rfl
        · rw [World.cell?_setCells_out g x (off + n * s) w _ (by intro _ _; simp; omega)]
          exact (h5 j hj).1
      · intro j u hu
        by_cases e1 : j < n * s
        · rw [List.getElem?_append_left (by omega)] at hu
          rw [World.cell?_setCells_out g x (off + n * s) w _ (by intro _ _; simp; omega)]
          exact h6 j u hu
        · have hj := (List.getElem?_eq_some_iff.1 hu).1
          rw [List.length_append, hl] at hj
          rw [List.getElem?_append_right (by omega), hl] at hu
          have := World.cell?_setCells_in g x (off + n * s) w hsome (j - n * s) (by omega)
          rw [show off + n * s + (j - n * s) = off + j by omega] at this
          rw [this, ← List.getElem?_eq_getElem]
          exact hu
    · exact grown _ cap rfl (by omega)

/-- clear of the first n > 0 elements of one size. -/
theorem run_clear_sized {P : Program} (w : World) (t e ty : TypeId) (z : Value) (ht : P.underlying t = some (.slice e)) (hv : ∀ w, (zeroValue e).run P w = .ok z w) (b o n c : Nat) (hn : 0 < n) (h1 : ∀ u ∈ (Builtin.zeroCells z.cells n).toList, u.oneCell' = true)
    (hc : ∀ j, j < (Builtin.zeroCells z.cells n).toList.length → (w.cell? ⟨b, o + j, none⟩).isSome = true) (hf : ∀ j, j < (Builtin.zeroCells z.cells n).toList.length → w.frozen? ⟨b, o + j, none⟩ = false) :
    (Builtin.clear_ #[t] ty #[.slice (some ⟨b, o, none⟩) n c]).run P w = .ok (.tuple #[]) (w.setCells b o (Builtin.zeroCells z.cells n).toList) := by
  have hst := run_storeCells_cells (P := P) b o (Builtin.zeroCells z.cells n).toList 0 w (by simpa using hc) (by simpa using hf) h1
  simp only [Nat.add_zero] at hst
  obtain ⟨m, rfl⟩ : ∃ m, n = m + 1 := ⟨n - 1, by omega⟩
  simp [Builtin.clear_, run_underlying ht, hv, hst]

/-- Some first cells were written: what is behind them is as1 it was. -/
theorem RowZ.cleared {g off cap k : Nat} (zs : List Value) (hl : xs.length = n * s) (hz : zs.length = k * s) (h2 : n ≤ cap) (h3 : cap ≤ maxLen) (h4 : g < w.heap.size)
    (h5 : ∀ j, j < cap * s → (w.cell? ⟨g, off + j, none⟩).isSome = true ∧ w.frozen? ⟨g, off + j, none⟩ = false) (h6 : ∀ j u, xs[j]? = some u → w.cell? ⟨g, off + j, none⟩ = some u) (hk : k ≤ n) :
    RowZ s (w.setCells g off zs) (.slice (some ⟨g, off + k * s, none⟩) (n - k) (cap - k)) (n - k) (xs.drop (k * s)) := by
  have hcs : k * s + (cap - k) * s = cap * s := by rw [← Nat.add_mul]; congr 1; omega
  refine ⟨by rw [List.length_drop, hl, Nat.sub_mul], .inr ⟨g, off + k * s, cap - k, rfl, by omega, by omega, by rw [(setCells_at g _ off w).2.2.2.1]; exact h4, fun j hj => ?_, fun j u hu => ?_⟩⟩
  · rw [World.frozen?_setCells, World.cell?_setCells_out g _ off w _ (by intro _ _; simp; omega), Nat.add_assoc]
    exact h5 (k * s + j) (by omega)
  · rw [World.cell?_setCells_out g _ off w _ (by intro _ _; simp; omega), Nat.add_assoc]
    rw [List.getElem?_drop] at hu
    exact h6 _ u hu
theorem RowZ.empty {g : Nat} (s o : Nat) (hg : g < w.heap.size) : RowZ s w (.slice (some ⟨g, o, none⟩) 0 0) 0 [] :=
  ⟨by simp, .inr ⟨g, o, 0, rfl, by omega, by simp [maxLen], hg, fun j hj => absurd hj (by omega), fun j u hu => by simp at hu⟩⟩
end
end Go.Proofs.YtldbhcbmcogmfaaDoor

/- A map from texts to numbers: what it holds, a look into it, and a number that is put there. -/
namespace Go.Proofs.YtldbhcbmcogmfaaDoor
open Go.RowKit Go.Lib
set_option linter.unusedVariables false
set_option maxRecDepth 8000

/-- How a number reads as1 a map's element. -/
def Am.elem (v : Value) : Option (DataW Unit × List MemPlace) := match v with | .int .i64 n => some (.lit (.int .i64 n), []) | _ => none
theorem Am.elem_mk (n : Int) : Am.elem (.int .i64 n) = some (.lit (.int .i64 n), []) := rfl
theorem Am.elem_inv {v : Value} {z : DataW Unit × List MemPlace} (h : Am.elem v = some z) : ∃ n : Int, v = .int .i64 n ∧ z = (.lit (.int .i64 n), []) := by
  unfold Am.elem at h
  split at h
  · injection h with h
    exact ⟨_, rfl, h.symm⟩
  · cases h
theorem Am.keys : Maps.Keyed Tryd.prog 9 := Maps.string_keyed Tryd.underlying9
theorem Am.key {s : ByteArray} (hs : s.size ≤ maxLen) : keyOf Tryd.prog 9 (.string s) = some (.string s.data.toList) := WideMaps.keyOf_string_mk Tryd.underlying9 hs
theorem Am.key_lit {s : ByteArray} (hs : s.size ≤ maxLen) : WideAt.IsKeyLit (.string s.data.toList) := Am.keys.key (Am.key hs)
theorem Am.int_zero (w : World) : (zeroValue 3).run Tryd.prog w = .ok (.int .i64 0) w := by kernel_rfl

theorem Am.look_some {L : List (List UInt8 × Nat)} {s : List UInt8} {n : Nat} (h : Am.look L s = some n) : (s, n) ∈ L := by
  unfold Am.look at h
  cases e : L.find? (fun x => decide (x.1 = s)) with
  | none => rw [e] at h; cases h
  | some x =>
    rw [e] at h
    have h1 := List.mem_of_find?_eq_some e
    have h2 := List.find?_some e
    simp at h h2
    obtain ⟨a, b⟩ := x
    simp at h h2
    subst h h2
    exact h1
theorem Am.look_none {L : List (List UInt8 × Nat)} {s : List UInt8} (h : Am.look L s = none) : ∀ x ∈ L, x.1 ≠ s := by
  intro x hx
  unfold Am.look at h
  simp at h
  have := h x.1 x.2 hx
  exact this

/-- What the datum of a map says of labels. -/
def Am.Says (D : DataW Unit) (L : List (List UInt8 × Nat)) : Prop :=
  Maps.IsMap D ∧ (∀ s : ByteArray, s.size ≤ maxLen → Maps.has D (.string s.data.toList) = L.any (fun r => decide (r.1 = s.data.toList))) ∧ (∀ r ∈ L, ∀ z, D.atKey (.string r.1) z = .lit (.int .i64 r.2))
theorem Am.Says.nil : Am.Says (.map []) [] := ⟨Maps.isMap_empty, fun o _ => rfl, fun r hr => by cases hr⟩
theorem Am.Says.put {D : DataW Unit} {L : List (List UInt8 × Nat)} (h : Am.Says D L) {s : ByteArray} (hs : s.size ≤ maxLen) (n : Nat) (hn : ∀ x ∈ L, x.1 ≠ s.data.toList) : Am.Says (D.put (.string s.data.toList) (.lit (.int .i64 n))) (L ++ [(s.data.toList, n)]) := by
  obtain ⟨h1, h2, h3⟩ := h
  refine ⟨h1.put _ _, fun o ho => ?_, fun x hx => ?_⟩
  · by_cases e : o.data.toList = s.data.toList
    · rw [e, Maps.has_put_same h1 (Am.key_lit hs)]
      simp
    · have hne : (Lit.string o.data.toList) ≠ .string s.data.toList := fun h => e (by injection h)
      rw [Maps.has_put_other hne, h2 o ho]
      have : ¬ s.data.toList = o.data.toList := fun h => e h.symm
      simp [this]
  · rcases List.mem_append.1 hx with hx | hx
    · intro z
      have hne : (Lit.string x.1) ≠ .string s.data.toList := fun h => hn x hx (by injection h)
      rw [Maps.atKey_put_other hne, h3 x hx]
    · obtain rfl : x = (s.data.toList, n) := by simpa using hx
      exact fun z => Maps.atKey_put_same h1 (Am.key_lit hs) _ _
theorem Am.Says.has_some {D : DataW Unit} {L : List (List UInt8 × Nat)} (h : Am.Says D L) {s : ByteArray} (hs : s.size ≤ maxLen) {n : Nat} (hr : Am.look L s.data.toList = some n) : Maps.has D (.string s.data.toList) = true ∧ ∀ z, D.atKey (.string s.data.toList) z = .lit (.int .i64 n) := by
  have h1 := Am.look_some hr
  refine ⟨?_, h.2.2 _ h1⟩
  rw [h.2.1 s hs, List.any_eq_true]
  exact ⟨_, h1, by simp⟩
theorem Am.Says.has_none {D : DataW Unit} {L : List (List UInt8 × Nat)} (h : Am.Says D L) {s : ByteArray} (hs : s.size ≤ maxLen) (hr : Am.look L s.data.toList = none) : Maps.has D (.string s.data.toList) = false := by
  rw [h.2.1 s hs, List.any_eq_false]
  intro x hx
  simpa using Am.look_none hr x hx

/-- Block b is a map of labels. -/
def Am.MapL (w : World) (b : Nat) (L : List (List UInt8 × Nat)) : Prop := ∃ D : DataW Unit, w.ownsMap Tryd.prog 9 Am.elem b L.length D ∧ Am.Says D L
section
variable {w w' : World} {b : Nat} {L : List (List UInt8 × Nat)}
theorem Am.MapL.lt (h : Am.MapL w b L) : b < w.heap.size := by
  obtain ⟨D, h1, _⟩ := h
  exact h1.lt
theorem Am.MapL.only {row : Option Nat} (h : Am.MapL w b L) (hb : w.grownBy w' row) (hne : some b ≠ row) : Am.MapL w' b L := by
  obtain ⟨D, h1, h2⟩ := h
  exact ⟨D, h1.kept hb hne, h2⟩
theorem Am.MapL.new (w : World) : Am.MapL (w.alloc (.map #[] 0)) w.heap.size [] := ⟨_, World.ownsMap_made w _ _ _, Am.Says.nil⟩
theorem Am.MapL.drewN (h : Am.MapL w b L) (n : Nat) : Am.MapL (w.drewN n) b L := h.only (only_drewN (only_refl _ none) n) (by simp)
theorem Am.MapL.drew (h : Am.MapL w b L) : Am.MapL w.drew b L := h.drewN 1
theorem Am.MapL.alloc (h : Am.MapL w b L) (o : Obj) : Am.MapL (w.alloc o) b L := h.only (only_alloc (only_refl _ none) _) (by simp)
theorem Am.run_look_some {s : ByteArray} (hs : s.size ≤ maxLen) {n : Nat} (hmap : Am.MapL w b L) (hl : Am.look L s.data.toList = some n) :
    (Instr.lookup 51 (.map (some b)) (.string s) true).run Tryd.prog w = .ok (.tuple #[.int .i64 n, .bool true]) w := by
  obtain ⟨D, h1, h2⟩ := hmap
  obtain ⟨e1, e2⟩ := h2.has_some hs hl
  obtain ⟨v, ps, hr, hv⟩ := h1.look_ok Am.keys Tryd.underlying51 (Am.int_zero w) (Am.elem_mk 0) (Am.key hs)
  rw [e2] at hv
  obtain ⟨r, rfl, hz⟩ := Am.elem_inv hv
  injection hz with hz _
  injection hz with hz
  injection hz with _ hz
  subst hz
  rw [e1] at hr
  exact hr
theorem Am.run_look_none {s : ByteArray} (hs : s.size ≤ maxLen) (hmap : Am.MapL w b L) (hl : Am.look L s.data.toList = none) :
    (Instr.lookup 51 (.map (some b)) (.string s) true).run Tryd.prog w = .ok (.tuple #[.int .i64 0, .bool false]) w := by
  obtain ⟨D, h1, h2⟩ := hmap
  have e1 := h2.has_none hs hl
  obtain ⟨v, ps, hr, hv⟩ := h1.look_ok Am.keys Tryd.underlying51 (Am.int_zero w) (Am.elem_mk 0) (Am.key hs)
  rw [Maps.atKey_of_not_has e1] at hv
  obtain ⟨r, rfl, hz⟩ := Am.elem_inv hv
  injection hz with hz _
  injection hz with hz
  injection hz with _ hz
  subst hz
  rw [e1] at hr
  exact hr
theorem Am.run_put {s : ByteArray} (hs : s.size ≤ maxLen) {n : Nat} (hmap : Am.MapL w b L) (hn : Am.look L s.data.toList = none) (hl : L.length < maxLen) :
    ∃ w', (Instr.mapUpdate 51 (.map (some b)) (.string s) (.int .i64 n)).run Tryd.prog w = .ok () w' ∧ Am.MapL w' b (L ++ [(s.data.toList, n)]) ∧ w.grownBy w' (some b) := by
  obtain ⟨D, h1, h2⟩ := hmap
  obtain ⟨w', hr, h3, h4⟩ := h1.store Am.keys Tryd.underlying51 hl (Am.key hs) (Am.elem_mk n)
  exact ⟨w', hr, ⟨_, by simpa using h3, h2.put hs n (Am.look_none hn)⟩, h4.grown⟩
end
end Go.Proofs.YtldbhcbmcogmfaaDoor

/- The reader of package bits at a text of any length: bytes and numbers, whether or not they are there. Written by hand after IM13. -/
namespace Go.Proofs.YtldbhcbmcogmfaaDoor
open Go.RowKit Go.Lib
set_option linter.unusedVariables false

/-- The byte at a place, or 0; the number of two bytes there, or 0. -/
def gb (t : ByteArray) (i : Nat) : Nat := if h : i < t.size then t[i].toNat else 0
def gw (t : ByteArray) (i : Nat) : Nat := if i + 2 ≤ t.size then gb t i + 256 * gb t (i + 1) else 0
theorem gb_of {t : ByteArray} {i : Nat} (h : i < t.size) : gb t i = t[i].toNat := by simp [gb, h]
theorem gb_off {t : ByteArray} {i : Nat} (h : t.size ≤ i) : gb t i = 0 := by
  unfold gb
  rw [dif_neg (by omega)]
theorem gb_lt (t : ByteArray) (i : Nat) : gb t i < 256 := by
  unfold gb
  split
  · exact UInt8.toNat_lt _
  · omega
theorem gw_lt (t : ByteArray) (i : Nat) : gw t i < 65536 := by
  have := gb_lt t i
  have := gb_lt t (i + 1)
  unfold gw
  split <;> omega
theorem only_putc {w w' : World} {row : Option Nat} (g : w.grownBy w' row) {p : Addr} (hp : w.heap.size ≤ p.block) (v : Value) : w.grownBy (w'.setCell p v) row :=
  ⟨g.os, g.tape, g.output, by simpa using g.size, fun k hk hn => (Below.heap_setCell w' p v k (by rintro rfl; omega)).trans (g.block k hk hn)⟩
theorem only_drop {w0 W W' : World} {g : Nat} (h : w0.grownBy W none) (k : W.grownBy W' (some g)) (hg : w0.heap.size ≤ g) : w0.grownBy W' none :=
  ⟨k.os.trans h.os, k.tape.trans h.tape, k.output.trans h.output, Nat.le_trans h.size k.size, fun i hi hn => (k.block i (Nat.lt_of_lt_of_le hi h.size) (fun e => by injection e with e; omega)).trans (h.block i hi hn)⟩
/-- What Get answers. -/
def getV (t : ByteArray) : Value := if t.size < 4 then .tuple #[.agg #[.int .u8 0, .int .i64 0, .int .i64 0], .int .i64 5] else if mayI (gb t 0) (gb t 1) (gw t 2) = true then .tuple #[.agg #[.int .u8 (gb t 0), .int .i64 (gb t 1), .int .i64 (gw t 2)], .int .i64 0] else .tuple #[.agg #[.int .u8 0, .int .i64 0, .int .i64 0], .int .i64 12]
theorem in3f {W : World} {g : Nat} {t : TypeId} {a b c : Value} (h : Blk W g t #[a, b, c]) : W.cell? ⟨g, 0, none⟩ = some a ∧ W.cell? ⟨g, 1, none⟩ = some b ∧ W.cell? ⟨g, 2, none⟩ = some c ∧ W.frozen? ⟨g, 0, none⟩ = false ∧ W.frozen? ⟨g, 1, none⟩ = false ∧ W.frozen? ⟨g, 2, none⟩ = false := ⟨h.cell 0, h.cell 1, h.cell 2, h.free 0, h.free 1, h.free 2⟩
theorem put3 {w W : World} {t : TypeId} {a b c a' b' c' : Value} (h : Blk W w.heap.size t #[a, b, c]) (g : w.grownBy W none) : ∀ W', W' = ((W.setCell ⟨w.heap.size, 0, none⟩ a').setCell ⟨w.heap.size, 1, none⟩ b').setCell ⟨w.heap.size, 2, none⟩ c' → (W'.cell? ⟨w.heap.size, 0, none⟩ = some a' ∧ W'.cell? ⟨w.heap.size, 1, none⟩ = some b' ∧ W'.cell? ⟨w.heap.size, 2, none⟩ = some c') ∧ w.grownBy W' none := by
  rintro W' rfl
  have bf := ((h.put 0 a').put 1 b').put 2 c'
  exact ⟨⟨bf.cell 0, bf.cell 1, bf.cell 2⟩, only_putc (only_putc (only_putc g (p := ⟨w.heap.size, 0, none⟩) (Nat.le_refl _) _) (p := ⟨w.heap.size, 1, none⟩) (Nat.le_refl _) _) (p := ⟨w.heap.size, 2, none⟩) (Nat.le_refl _) _⟩
end Go.Proofs.YtldbhcbmcogmfaaDoor

/- Package asm: words: names, numbers, registers, values, by their contracts; what a reader gives up by. -/
namespace Go.Proofs.YtldbhcbmcogmfaaDoor
open Go.RowKit Go.Lib
set_option linter.unusedVariables false

/-- Block g begins with the bytes l. -/
def Am.RowT (w : World) (g : Nat) (l : List UInt8) : Prop := ∀ j (hj : j < l.length), w.cell? ⟨g, j, none⟩ = some (.int .u8 (l[j].toNat : Int))
theorem Am.RowT.new (w : World) (s : ByteArray) (cap : Nat) (t : TypeId) : Am.RowT (w.drew.alloc (.cells (bytesRow s cap) t ((bytesRow s cap).size, (bytesRow s cap).size + 1))) w.heap.size s.data.toList := by
  intro j hj
  have hj' : j < s.data.size := by simpa using hj
  have c := World.cell?_alloc_mark w.drew (bytesRow s cap) t ((bytesRow s cap).size, (bytesRow s cap).size + 1) j
  have hb := bytesRow_at s cap j hj'
  exact c.trans (by rw [hb]; simp)
def Am.isL (c : UInt8) : Bool := decide (97 ≤ c.toNat) && decide (c.toNat ≤ 122)
theorem Am.isName_eq (l : List UInt8) : Am.isName l = (decide (1 ≤ l.length) && (decide (l.length ≤ 16) && l.all Am.isL)) := rfl
theorem Am.take_next {l : List UInt8} {i : Nat} (hi : i < l.length) : l.take (i + 1) = l.take i ++ [l[i]] := (List.take_append_getElem hi).symm

theorem Am.str_some {a : ByteArray} (h : a ≠ ⟨#[]⟩) : a.toList.isEmpty = false := by
  cases e : a.toList with
  | nil =>
    exfalso
    apply h
    rw [ByteArray.toList_eq] at e
    obtain ⟨⟨l⟩⟩ := a
    simp at e
    rw [e]
  | cons x y => rfl
set_option maxRecDepth 20000 in
theorem Am.isname_any (s : ByteArray) (w : World) : Calls Tryd.prog 56 #[.string s] w fun e w' => e = .returned (.bool (Am.isName s.data.toList)) ∧ w.grownBy w' none := by
  have hlen : s.data.toList.length = s.size := by simp
  by_cases he : s = ⟨#[]⟩
  · subst he
    have hr : Am.isName (⟨#[]⟩ : ByteArray).data.toList = false := by decide
    rw [hr]
    go_enter Tryd.func56, Tryd.ntmps56
    go_wp2
    go_ret
    exact ⟨rfl, only_refl _ _⟩
  have hne := Am.str_some he
  have h1 : 1 ≤ s.size := by
    rcases Nat.lt_or_ge 0 s.size with h | h
    · exact h
    · exact absurd (by obtain ⟨⟨l⟩⟩ := s; cases l with | nil => rfl | cons a b => simp [ByteArray.size] at h) he
  by_cases h16 : 16 < s.size
  · have hr : Am.isName s.data.toList = false := by
      rw [Am.isName_eq, hlen]
      have : ¬ s.size ≤ 16 := by omega
      simp [this]
    rw [hr]
    have i16 : (16 : Int) < (s.size : Int) := by omega
    clear hr hlen he
    go_enter Tryd.func56, Tryd.ntmps56
    go_wp2
    go_ret
    exact ⟨rfl, only_refl _ _⟩
  have i16 : ¬ (16 : Int) < (s.size : Int) := by omega
  have HRS := Lib.hid (show s.data.toList.all Am.isL = true → Am.isName s.data.toList = true from fun h => by
    rw [Am.isName_eq, hlen, h]
    have h2 : s.size ≤ 16 := by omega
    simp [h1, h2])
  have HRN := Lib.hid (show s.data.toList.all Am.isL = false → Am.isName s.data.toList = false from fun h => by
    rw [Am.isName_eq, h]
    simp)
  have hk := run_bytes_of_string (P := Tryd.prog) w 9 50 5 s rfl rfl rfl
  have R := Am.RowT.new w s (grownCap w s.size 0 5) 5
  have B0 : w.grownBy (w.drew.alloc (.cells (bytesRow s (grownCap w s.size 0 5)) 5 ((bytesRow s (grownCap w s.size 0 5)).size, (bytesRow s (grownCap w s.size 0 5)).size + 1))) none := only_alloc (only_drewN (only_refl _ _) 1) _
  obtain ⟨B, hB⟩ : ∃ B, B = w.heap.size := ⟨_, rfl⟩
  generalize grownCap w s.size 0 5 = cap at *
  generalize w.drew.alloc (.cells (bytesRow s cap) 5 ((bytesRow s cap).size, (bytesRow s cap).size + 1)) = w1 at *
  rw [← hB] at hk R
  clear hB
  replace R := Lib.hid R
  replace B0 := Lib.hid B0
  generalize Am.isName s.data.toList = r at *
  have HL := Lib.hid hlen
  generalize s.data.toList = l at *
  clear hlen he
  go_enter Tryd.func56, Tryd.ntmps56
  go_wp2
  go_loopw [15] (fun k wr => ∃ i : Nat, k = .int .i64 i ∧ i ≤ s.size ∧ Hid ((l.take i).all Am.isL = true) ∧ w1 = wr) (fun k _ => s.size - (Go.RowKit.intOf k).toNat)
  case atStart => exact ⟨0, rfl, by omega, Lib.hid (by simp), rfl⟩
  case round =>
    obtain ⟨i, rfl, hi, HI, rfl⟩ := hrel
    by_cases hin : i < s.size
    · have hil : i < l.length := by rw [HL.out]; exact hin
      have c0 := R.out i hil
      have i1 : (i : Int) < (s.size : Int) := by omega
      obtain ⟨c, hc⟩ : ∃ c, c = l[i] := ⟨_, rfl⟩
      rw [← hc] at c0
      have HT := Lib.hid (show (l.take (i + 1)).all Am.isL = Am.isL c from by rw [Am.take_next hil, List.all_append, HI.out, hc]; simp)
      have HA := Lib.hid (show Am.isL c = false → l.all Am.isL = false from fun h => by
        rw [List.all_eq_false]
        exact ⟨c, by rw [hc]; exact List.getElem_mem hil, by rw [h]; simp⟩)
      clear hil hc
      by_cases ha : c.toNat < 97
      · have ia : (c.toNat : Int) < 97 := by omega
        go_wp2
        go_ret
        exact ⟨by rw [HRN.out (HA.out (by unfold Am.isL; simp; omega))]; rfl, B0.out⟩
      · have ia : ¬ (c.toNat : Int) < 97 := by omega
        by_cases hb : 122 < c.toNat
        · have ib : (122 : Int) < (c.toNat : Int) := by omega
          go_wp2
          go_ret
          exact ⟨by rw [HRN.out (HA.out (by unfold Am.isL; simp; omega))]; rfl, B0.out⟩
        · have ib : ¬ (122 : Int) < (c.toNat : Int) := by omega
          have u1 : IntKind.i64.wrap ((i : Int) + 1) = (i : Int) + 1 := by rw [IntKind.wrap_i64]; omega
          go_wp2
          go_roundw
          case rel => exact ⟨i + 1, by go_num, by omega, Lib.hid (by rw [HT.out]; unfold Am.isL; simp; omega), by first | rfl | trivial⟩
          case measure => simp [Go.RowKit.intOf] <;> omega
    · obtain rfl : i = s.size := by omega
      go_wp2
      go_ret
      exact ⟨by rw [HRS.out (by have := HI.out; rw [List.take_of_length_le (by rw [HL.out]; exact Nat.le_refl _)] at this; exact this)]; rfl, B0.out⟩
end Go.Proofs.YtldbhcbmcogmfaaDoor

/- Package asm: decimal numbers, and what a reader gives up by. -/
namespace Go.Proofs.YtldbhcbmcogmfaaDoor
open Go.RowKit Go.Lib
set_option linter.unusedVariables false

theorem Am.head_of {s : ByteArray} (h : 0 < s.size) : s.data.toList.head? = some (s[0]'h) := by
  obtain ⟨⟨l⟩⟩ := s
  cases l with
  | nil => simp [ByteArray.size] at h
  | cons a b => rfl
theorem Am.len (s : ByteArray) : s.data.toList.length = s.size := by simp
theorem Am.empty_of {s : ByteArray} (h : ¬ 1 ≤ s.size) : s = ⟨#[]⟩ := by
  obtain ⟨⟨l⟩⟩ := s
  cases l with
  | nil => rfl
  | cons a b => simp [ByteArray.size] at h
theorem Am.ne_of {s : ByteArray} (h : 1 ≤ s.size) : s ≠ ⟨#[]⟩ := by
  rintro rfl
  simp [ByteArray.size] at h
theorem Am.drop_at {l : List UInt8} {i : Nat} (hi : i < l.length) : l.drop i = l[i] :: l.drop (i + 1) := List.drop_eq_getElem_cons hi
theorem Am.wrap8 (d : Nat) (h : d ≤ 255) : IntKind.u8.wrap (d : Int) = (d : Int) := by rw [IntKind.wrap_u8]; omega
theorem Am.wrap_i (x : Int) (h : 0 ≤ x) (h2 : x ≤ 1000000000000) : IntKind.i64.wrap x = x := by rw [IntKind.wrap_i64]; omega
def Am.numN (l : List UInt8) (m : Nat) : Int := ((Am.num l m).getD 0 : Nat)
def Am.numB (l : List UInt8) (m : Nat) : Bool := (Am.num l m).isSome
theorem Am.num_none {l : List UInt8} {m : Nat} (h : Am.num l m = none) : Am.numN l m = 0 ∧ Am.numB l m = false := by simp [Am.numN, Am.numB, h]
theorem Am.num_some {l : List UInt8} {m n : Nat} (h : Am.num l m = some n) : Am.numN l m = n ∧ Am.numB l m = true := by simp [Am.numN, Am.numB, h]
set_option maxRecDepth 20000 in
set_option maxHeartbeats 1600000 in
theorem Am.decimal_any (s : ByteArray) (hsz : s.size ≤ 100000) (m : Nat) (hm : m ≤ 65535) (w : World) : Calls Tryd.prog 70 #[.string s, .int .i64 m] w fun e w' => e = .returned (.tuple #[.int .i64 (Am.numN s.data.toList m), .bool (Am.numB s.data.toList m)]) ∧ w.grownBy w' none := by
  by_cases h1 : ¬ 1 ≤ s.size
  · obtain rfl := Am.empty_of h1
    have e := Am.num_none (l := (⟨#[]⟩ : ByteArray).data.toList) (m := m) (by unfold Am.num; rw [if_pos (Or.inl rfl)])
    rw [e.1, e.2]
    clear e h1
    go_enter Tryd.func70, Tryd.ntmps70
    go_wp2
    go_ret2
    exact ⟨rfl, only_refl _ _⟩
  have h1 : 1 ≤ s.size := by omega
  have hne := Am.str_some (Am.ne_of h1)
  have j0 : 0 < s.size := by omega
  have hhd := Am.head_of j0
  have hl := Am.len s
  have hq : s.data.toList ≠ [] := fun e => by rw [e] at hl; simp at hl; omega
  by_cases hz : 1 < s.size ∧ (s[0]'j0).toNat = 48
  · have i1 : (1 : Int) < (s.size : Int) := by omega
    have i2 : ((s[0]'j0).toNat : Int) = 48 := by omega
    have e := Am.num_none (l := s.data.toList) (m := m) (by unfold Am.num; rw [if_pos (Or.inr ⟨by omega, by rw [hhd]; congr 1; exact UInt8.toNat_inj.1 hz.2⟩)])
    rw [e.1, e.2]
    clear e hhd hl hq hz
    go_enter Tryd.func70, Tryd.ntmps70
    go_wp2
    go_ret2
    exact ⟨rfl, only_refl _ _⟩
  have hnum : Am.num s.data.toList m = Am.dec m s.data.toList 0 := by
    unfold Am.num
    rw [if_neg]
    rintro (h | ⟨h, h2⟩)
    · exact hq h
    · rw [hhd] at h2
      injection h2 with h2
      exact hz ⟨by omega, by rw [h2]; rfl⟩
  have hk := run_bytes_of_string (P := Tryd.prog) w 9 50 5 s rfl rfl rfl
  have R := Am.RowT.new w s (grownCap w s.size 0 5) 5
  have B0 : w.grownBy (w.drew.alloc (.cells (bytesRow s (grownCap w s.size 0 5)) 5 ((bytesRow s (grownCap w s.size 0 5)).size, (bytesRow s (grownCap w s.size 0 5)).size + 1))) none := only_alloc (only_drewN (only_refl _ _) 1) _
  obtain ⟨B, hB⟩ : ∃ B, B = w.heap.size := ⟨_, rfl⟩
  generalize grownCap w s.size 0 5 = cap at *
  generalize w.drew.alloc (.cells (bytesRow s cap) 5 ((bytesRow s cap).size, (bytesRow s cap).size + 1)) = w1 at *
  rw [← hB] at hk R
  clear hB
  replace R := Lib.hid R
  replace B0 := Lib.hid B0
  have HL := Lib.hid hl
  have HEN := Lib.hid (show Am.dec m s.data.toList 0 = none → Am.numN s.data.toList m = 0 ∧ Am.numB s.data.toList m = false from fun h => Am.num_none (hnum.trans h))
  have HES := Lib.hid (show ∀ n, Am.dec m s.data.toList 0 = some n → Am.numN s.data.toList m = n ∧ Am.numB s.data.toList m = true from fun n h => Am.num_some (hnum.trans h))
  generalize Am.numN s.data.toList m = rn at *
  generalize Am.numB s.data.toList m = rb at *
  generalize s.data.toList = l at *
  clear hl hq hnum hhd
  have HM := Lib.hid hm
  by_cases hs1 : s.size = 1
  · have i1 : ¬ (1 : Int) < (s.size : Int) := by omega
    clear hz hs1
    go_enter Tryd.func70, Tryd.ntmps70
    go_wp2
    go_loopw [24, 6] (fun k v wr => ∃ i n : Nat, k = .int .i64 i ∧ v = .int .i64 n ∧ i ≤ s.size ∧ n ≤ m ∧ Hid (Am.dec m l 0 = Am.dec m (l.drop i) n) ∧ w1 = wr) (fun k _ _ => s.size - (Go.RowKit.intOf k).toNat)
    case atStart => exact ⟨0, 0, rfl, rfl, by omega, by omega, Lib.hid rfl, rfl⟩
    case round =>
      obtain ⟨i, n, rfl, rfl, hi, hn, HI, rfl⟩ := hrel
      by_cases hin : i < s.size
      · have hil : i < l.length := by rw [HL.out]; exact hin
        have c0 := R.out i hil
        have i3 : (i : Int) < (s.size : Int) := by omega
        obtain ⟨c, hc⟩ : ∃ c, c = l[i] := ⟨_, rfl⟩
        rw [← hc] at c0
        have HT := Lib.hid (show Am.dec m l 0 = if c.toNat < 48 ∨ 57 < c.toNat then none else if m < n * 10 + (c.toNat - 48) then none else Am.dec m (l.drop (i + 1)) (n * 10 + (c.toNat - 48)) from by rw [HI.out, Am.drop_at hil, ← hc]; rfl)
        have hc8 := c.toNat_lt
        obtain ⟨q, hq⟩ : ∃ q : Nat, q = c.toNat := ⟨_, rfl⟩
        rw [← hq] at c0 HT hc8
        clear hil hc hq
        by_cases ha : q < 48
        · have ia : (q : Int) < 48 := by omega
          have HE := Lib.hid (HEN.out (by rw [HT.out, if_pos (Or.inl ha)]))
          go_wp2
          go_ret2
          exact ⟨by rw [HE.out.1, HE.out.2]; rfl, B0.out⟩
        · have ia : ¬ (q : Int) < 48 := by omega
          by_cases hb : 57 < q
          · have ib : (57 : Int) < (q : Int) := by omega
            have HE := Lib.hid (HEN.out (by rw [HT.out, if_pos (Or.inr hb)]))
            go_wp2
            go_ret2
            exact ⟨by rw [HE.out.1, HE.out.2]; rfl, B0.out⟩
          · have ib : ¬ (57 : Int) < (q : Int) := by omega
            obtain ⟨d, hd⟩ : ∃ d : Nat, d = q - 48 := ⟨_, rfl⟩
            have d1 : d ≤ 9 := by omega
            have d2 : (q : Int) - 48 = (d : Int) := by omega
            have HT2 := Lib.hid (show Am.dec m l 0 = if m < n * 10 + d then none else Am.dec m (l.drop (i + 1)) (n * 10 + d) from by rw [HT.out, if_neg (by omega), hd])
            obtain ⟨z, hz⟩ : ∃ z : Nat, z = n * 10 + d := ⟨_, rfl⟩
            have hz2 : (n : Int) * 10 + (d : Int) = (z : Int) := by omega
            rw [← hz] at HT2
            have HZ := Lib.hid hz2
            have u1 : IntKind.i64.wrap ((i : Int) + 1) = (i : Int) + 1 := Am.wrap_i _ (by omega) (by omega)
            have u2 : IntKind.u8.wrap ((q : Int) - 48) = (d : Int) := by rw [d2]; exact Am.wrap8 d (by omega)
            have u3 : IntKind.i64.wrap ((n : Int) * 10) = (n : Int) * 10 := Am.wrap_i _ (by omega) (by omega)
            have u4 : IntKind.i64.wrap ((n : Int) * 10 + (d : Int)) = (n : Int) * 10 + (d : Int) := Am.wrap_i _ (by omega) (by omega)
            have u5 : IntKind.i64.wrap (d : Int) = (d : Int) := Am.wrap_i _ (by omega) (by omega)
            have v3 : wrap64 ((n : Int) * 10) = (n : Int) * 10 := IntWalk.wrap64_in _ ⟨by omega, by omega⟩
            have v4 : wrap64 ((n : Int) * 10 + (d : Int)) = (z : Int) := by rw [hz2]; exact IntWalk.wrap64_in _ ⟨by omega, by omega⟩
            clear hd d1 d2 HT hz2 hc8
            by_cases hmx : m < z
            · have im : (m : Int) < (n : Int) * 10 + (d : Int) := by rw [HZ.out]; exact Int.ofNat_lt.2 hmx
              have HE := Lib.hid (HEN.out (by rw [HT2.out, if_pos hmx]))
              go_wp2
              go_ret2
              exact ⟨by rw [HE.out.1, HE.out.2]; rfl, B0.out⟩
            · have im : ¬ (m : Int) < (n : Int) * 10 + (d : Int) := fun e => hmx (Int.ofNat_lt.1 (by rw [← HZ.out]; exact e))
              go_wp2
              go_roundw
              case rel => clear u1 u2 u3 u4 u5 v3 v4; exact ⟨i + 1, z, by go_num, by rw [HZ.out], by omega, by omega, Lib.hid (by rw [HT2.out, if_neg hmx]), by first | rfl | trivial⟩
              case measure => clear u1 u2 u3 u4 u5 v3 v4; simp [Go.RowKit.intOf] <;> omega
      · obtain rfl : i = s.size := by omega
        have HE := Lib.hid (HES.out n (by rw [HI.out, List.drop_of_length_le (by rw [HL.out]; exact Nat.le_refl _)]; rfl))
        go_wp2
        go_ret2
        exact ⟨by rw [HE.out.1, HE.out.2]; rfl, B0.out⟩
  · have i1 : (1 : Int) < (s.size : Int) := by omega
    have i2 : ¬ ((s[0]'j0).toNat : Int) = 48 := by omega
    clear hz hs1
    go_enter Tryd.func70, Tryd.ntmps70
    go_wp2
    go_loopw [24, 6] (fun k v wr => ∃ i n : Nat, k = .int .i64 i ∧ v = .int .i64 n ∧ i ≤ s.size ∧ n ≤ m ∧ Hid (Am.dec m l 0 = Am.dec m (l.drop i) n) ∧ w1 = wr) (fun k _ _ => s.size - (Go.RowKit.intOf k).toNat)
    case atStart => exact ⟨0, 0, rfl, rfl, by omega, by omega, Lib.hid rfl, rfl⟩
    case round =>
      obtain ⟨i, n, rfl, rfl, hi, hn, HI, rfl⟩ := hrel
      by_cases hin : i < s.size
      · have hil : i < l.length := by rw [HL.out]; exact hin
        have c0 := R.out i hil
        have i3 : (i : Int) < (s.size : Int) := by omega
        obtain ⟨c, hc⟩ : ∃ c, c = l[i] := ⟨_, rfl⟩
        rw [← hc] at c0
        have HT := Lib.hid (show Am.dec m l 0 = if c.toNat < 48 ∨ 57 < c.toNat then none else if m < n * 10 + (c.toNat - 48) then none else Am.dec m (l.drop (i + 1)) (n * 10 + (c.toNat - 48)) from by rw [HI.out, Am.drop_at hil, ← hc]; rfl)
        have hc8 := c.toNat_lt
        obtain ⟨q, hq⟩ : ∃ q : Nat, q = c.toNat := ⟨_, rfl⟩
        rw [← hq] at c0 HT hc8
        clear hil hc hq
        by_cases ha : q < 48
        · have ia : (q : Int) < 48 := by omega
          have HE := Lib.hid (HEN.out (by rw [HT.out, if_pos (Or.inl ha)]))
          go_wp2
          go_ret2
          exact ⟨by rw [HE.out.1, HE.out.2]; rfl, B0.out⟩
        · have ia : ¬ (q : Int) < 48 := by omega
          by_cases hb : 57 < q
          · have ib : (57 : Int) < (q : Int) := by omega
            have HE := Lib.hid (HEN.out (by rw [HT.out, if_pos (Or.inr hb)]))
            go_wp2
            go_ret2
            exact ⟨by rw [HE.out.1, HE.out.2]; rfl, B0.out⟩
          · have ib : ¬ (57 : Int) < (q : Int) := by omega
            obtain ⟨d, hd⟩ : ∃ d : Nat, d = q - 48 := ⟨_, rfl⟩
            have d1 : d ≤ 9 := by omega
            have d2 : (q : Int) - 48 = (d : Int) := by omega
            have HT2 := Lib.hid (show Am.dec m l 0 = if m < n * 10 + d then none else Am.dec m (l.drop (i + 1)) (n * 10 + d) from by rw [HT.out, if_neg (by omega), hd])
            obtain ⟨z, hz⟩ : ∃ z : Nat, z = n * 10 + d := ⟨_, rfl⟩
            have hz2 : (n : Int) * 10 + (d : Int) = (z : Int) := by omega
            rw [← hz] at HT2
            have HZ := Lib.hid hz2
            have u1 : IntKind.i64.wrap ((i : Int) + 1) = (i : Int) + 1 := Am.wrap_i _ (by omega) (by omega)
            have u2 : IntKind.u8.wrap ((q : Int) - 48) = (d : Int) := by rw [d2]; exact Am.wrap8 d (by omega)
            have u3 : IntKind.i64.wrap ((n : Int) * 10) = (n : Int) * 10 := Am.wrap_i _ (by omega) (by omega)
            have u4 : IntKind.i64.wrap ((n : Int) * 10 + (d : Int)) = (n : Int) * 10 + (d : Int) := Am.wrap_i _ (by omega) (by omega)
            have u5 : IntKind.i64.wrap (d : Int) = (d : Int) := Am.wrap_i _ (by omega) (by omega)
            have v3 : wrap64 ((n : Int) * 10) = (n : Int) * 10 := IntWalk.wrap64_in _ ⟨by omega, by omega⟩
            have v4 : wrap64 ((n : Int) * 10 + (d : Int)) = (z : Int) := by rw [hz2]; exact IntWalk.wrap64_in _ ⟨by omega, by omega⟩
            clear hd d1 d2 HT hz2 hc8
            by_cases hmx : m < z
            · have im : (m : Int) < (n : Int) * 10 + (d : Int) := by rw [HZ.out]; exact Int.ofNat_lt.2 hmx
              have HE := Lib.hid (HEN.out (by rw [HT2.out, if_pos hmx]))
              go_wp2
              go_ret2
              exact ⟨by rw [HE.out.1, HE.out.2]; rfl, B0.out⟩
            · have im : ¬ (m : Int) < (n : Int) * 10 + (d : Int) := fun e => hmx (Int.ofNat_lt.1 (by rw [← HZ.out]; exact e))
              go_wp2
              go_roundw
              case rel => clear u1 u2 u3 u4 u5 v3 v4; exact ⟨i + 1, z, by go_num, by rw [HZ.out], by omega, by omega, Lib.hid (by rw [HT2.out, if_neg hmx]), by first | rfl | trivial⟩
              case measure => clear u1 u2 u3 u4 u5 v3 v4; simp [Go.RowKit.intOf] <;> omega
      · obtain rfl : i = s.size := by omega
        have HE := Lib.hid (HES.out n (by rw [HI.out, List.drop_of_length_le (by rw [HL.out]; exact Nat.le_refl _)]; rfl))
        go_wp2
        go_ret2
        exact ⟨by rw [HE.out.1, HE.out.2]; rfl, B0.out⟩
end Go.Proofs.YtldbhcbmcogmfaaDoor

/- Package asm: what a reader gives up by; registers, numbers, values, counts, operands, by their contracts. -/
namespace Go.Proofs
open Go.Shelf
def Tryd.cutPrefix_ren : Go.Shelf.Ren := ⟨fun | 103 => 81 | 210 => 96 | 206 => 103 | n => n, fun | 9 => 9 | 4 => 4 | 24 => 86 | 3 => 3 | n => n, fun | n => n⟩
theorem Tryd.cutPrefix : Go.Proofs.Lays.n103 Tryd.prog Tryd.cutPrefix_ren := {
  mixed := by kernel_rfl
  f103 := Tryd.func81.trans (congrArg some (by kernel_rfl))
  f206 := Tryd.func103.trans (congrArg some (by kernel_rfl))
  f210 := Tryd.func96.trans (congrArg some (by kernel_rfl))
  t3 := Tryd.underlying3
  a3 := Tryd.isAgg3
  z3 := Tryd.sizeOf3
  v3 := Tryd.zeroValue3
  t4 := Tryd.underlying4
  a4 := Tryd.isAgg4
  z4 := Tryd.sizeOf4
  v4 := Tryd.zeroValue4
  t9 := Tryd.underlying9
  a9 := Tryd.isAgg9
  z9 := Tryd.sizeOf9
  v9 := Tryd.zeroValue9
  t24 := Tryd.underlying86
  a24 := Tryd.isAgg86
  z24 := Tryd.sizeOf86
  v24 := Tryd.zeroValue86 }
def Tryd.cutSuffix_ren : Go.Shelf.Ren := ⟨fun | 104 => 44 | 211 => 55 | 207 => 69 | n => n, fun | 9 => 9 | 4 => 4 | 24 => 86 | 3 => 3 | n => n, fun | n => n⟩
theorem Tryd.cutSuffix : Go.Proofs.Lays.n104 Tryd.prog Tryd.cutSuffix_ren := {
  mixed := by kernel_rfl
  f104 := Tryd.func44.trans (congrArg some (by kernel_rfl))
  f207 := Tryd.func69.trans (congrArg some (by kernel_rfl))
  f211 := Tryd.func55.trans (congrArg some (by kernel_rfl))
  t3 := Tryd.underlying3
  a3 := Tryd.isAgg3
  z3 := Tryd.sizeOf3
  v3 := Tryd.zeroValue3
  t4 := Tryd.underlying4
  a4 := Tryd.isAgg4
  z4 := Tryd.sizeOf4
  v4 := Tryd.zeroValue4
  t9 := Tryd.underlying9
  a9 := Tryd.isAgg9
  z9 := Tryd.sizeOf9
  v9 := Tryd.zeroValue9
  t24 := Tryd.underlying86
  a24 := Tryd.isAgg86
  z24 := Tryd.sizeOf86
  v24 := Tryd.zeroValue86 }
end Go.Proofs
namespace Go.Proofs.YtldbhcbmcogmfaaDoor
open Go.RowKit Go.Lib
set_option linter.unusedVariables false

/-- What a reader gives up by, at a line. -/
def Am.chn (ln e : Int) : List PanicEntry := [{ v := .iface 71 (.agg #[.int .i64 ln, .int .i64 e]), recovered := false }]
theorem Am.kc {W W' : World} {b : Nat} (g : W.grownBy W' none) (h : b < W.heap.size) (i : Nat) : W'.cell? ⟨b, i, none⟩ = W.cell? ⟨b, i, none⟩ := by
  have := g.block b h (by simp)
  simp [World.cell?, this]
theorem Am.giveup_any (b : Nat) (ln e : Int) (w : World) (h0 : w.cell? ⟨b, 0, none⟩ = some (.int .i64 ln)) : Calls Tryd.prog 47 #[.pointer (some ⟨b, 0, none⟩), .int .i64 e] w fun r w' => r = (.panicked (Am.chn ln e)) ∧ w = w' := by
  go_enter Tryd.func47, Tryd.ntmps47
  go_wp2
  exact ⟨rfl, rfl, rfl⟩
/-- A number, or giving up. -/
def Am.numP (o : Option Nat) (ln : Int) (w : World) (r : Ending) (w' : World) : Prop := (match o with | some n => r = .returned (.int .i64 n) | none => r = (.panicked (Am.chn ln 3))) ∧ w.grownBy w' none
theorem Am.number_any (b : Nat) (ln : Int) (s : ByteArray) (hs : s.size ≤ 100000) (m : Nat) (hm : m ≤ 65535) (w : World) (h0 : w.cell? ⟨b, 0, none⟩ = some (.int .i64 ln)) :
    Calls Tryd.prog 59 #[.pointer (some ⟨b, 0, none⟩), .string s, .int .i64 m] w (Am.numP (Am.num s.data.toList m) ln w) := by
  have hlt : b < w.heap.size := World.block_lt_of_cell? w _ h0
  have HD := Lib.hid (Am.decimal_any s hs m hm w)
  have HG := Lib.hid (fun (W : World) (q : w.grownBy W none) => Am.giveup_any b ln 3 W (by rw [Am.kc q hlt 0]; exact h0))
  cases e : Am.num s.data.toList m with
  | none =>
    have h := Am.num_none e
    rw [h.1, h.2] at HD
    clear e h h0
    unfold Am.numP
    go_enter Tryd.func59, Tryd.ntmps59
    go_wp2_with (first
      | (go_at_call 70; (with_reducible refine HD.out.mono ?_); rintro r w2 ⟨rfl, g2⟩; have G2 := Lib.hid g2; clear g2)
      | (go_at_call 47; (with_reducible refine (HG.out _ G2.out).mono ?_); rintro r w3 ⟨rfl, rfl⟩))
    exact ⟨rfl, rfl, G2.out⟩
  | some n =>
    have h := Am.num_some e
    rw [h.1, h.2] at HD
    clear e h h0
    unfold Am.numP
    go_enter Tryd.func59, Tryd.ntmps59
    go_wp2_with (first
      | (go_at_call 70; (with_reducible refine HD.out.mono ?_); rintro r w2 ⟨rfl, g2⟩; have G2 := Lib.hid g2; clear g2)
      | (go_at_call 47; (with_reducible refine (HG.out _ G2.out).mono ?_); rintro r w3 ⟨rfl, rfl⟩))
    go_ret
    exact ⟨rfl, G2.out⟩
end Go.Proofs.YtldbhcbmcogmfaaDoor

/- Package asm: registers, values, counts, operands, by their contracts. -/
namespace Go.Proofs.YtldbhcbmcogmfaaDoor
open Go.RowKit Go.Lib
set_option linter.unusedVariables false

theorem Am.pre_yes {l : List UInt8} (h : l.head? = some 114) : Go.Lib.hasPrefix l [114] = true ∧ Go.Lib.trimPrefix l [114] = l.tail := by
  cases l with
  | nil => cases h
  | cons a b =>
    simp at h
    subst h
    simp [Go.Lib.trimPrefix, Go.Lib.hasPrefix]
theorem Am.pre_no {l : List UInt8} (h : ¬ l.head? = some 114) : Go.Lib.hasPrefix l [114] = false ∧ Go.Lib.trimPrefix l [114] = l := by
  cases l with
  | nil => simp [Go.Lib.trimPrefix, Go.Lib.hasPrefix]
  | cons a b =>
    simp at h
    have : ¬ (114 : UInt8) = a := fun e => h e.symm
    simp [Go.Lib.trimPrefix, Go.Lib.hasPrefix, List.isPrefixOf, this]
theorem Am.tail_size {s : ByteArray} (h : s.size ≤ 100000) : (⟨s.data.toList.tail.toArray⟩ : ByteArray).size ≤ 100000 := by
  have := Am.len s
  show s.data.toList.tail.toArray.size ≤ 100000
  rw [List.size_toArray, List.length_tail]
  omega
theorem Am.register_any (b : Nat) (ln : Int) (s : ByteArray) (hs : s.size ≤ 100000) (w : World) (h0 : w.cell? ⟨b, 0, none⟩ = some (.int .i64 ln)) :
    Calls Tryd.prog 71 #[.pointer (some ⟨b, 0, none⟩), .string s] w (Am.numP (Am.reg s.data.toList) ln w) := by
  have HC := Lib.hid (show Calls Tryd.prog 81 #[.string s, .string ⟨#[114]⟩] w (fun e w' => e = .returned (.tuple #[.string ⟨(Go.Lib.trimPrefix s.data.toList (⟨#[114]⟩ : ByteArray).data.toList).toArray⟩, .bool (Go.Lib.hasPrefix s.data.toList (⟨#[114]⟩ : ByteArray).data.toList)]) ∧ w' = w) from Any.strings_CutPrefix Tryd.cutPrefix s ⟨#[114]⟩ w)
  have HG := Lib.hid (Am.giveup_any b ln 3 w h0)
  by_cases hp : s.data.toList.head? = some 114
  · have h := Am.pre_yes hp
    have hr : Am.reg s.data.toList = Am.num s.data.toList.tail 7 := by unfold Am.reg; rw [if_pos hp]
    have HN := Lib.hid (show Calls Tryd.prog 59 #[.pointer (some ⟨b, 0, none⟩), .string ⟨s.data.toList.tail.toArray⟩, .int .i64 7] w (Am.numP (Am.num (⟨s.data.toList.tail.toArray⟩ : ByteArray).data.toList 7) ln w) from Am.number_any b ln ⟨s.data.toList.tail.toArray⟩ (Am.tail_size hs) 7 (by omega) w h0)
    rw [show (⟨#[114]⟩ : ByteArray).data.toList = [114] from rfl, h.1, h.2] at HC
    rw [show (⟨s.data.toList.tail.toArray⟩ : ByteArray).data.toList = s.data.toList.tail from by simp] at HN
    rw [hr]
    generalize (⟨s.data.toList.tail.toArray⟩ : ByteArray) = s2 at *
    cases e : Am.num s.data.toList.tail 7 with
    | none =>
      rw [e] at HN
      clear e h h0 hp hr
      unfold Am.numP at HN ⊢
      go_enter Tryd.func71, Tryd.ntmps71
      go_wp2_with (first
        | (go_at_call 81; (with_reducible refine HC.out.mono ?_); rintro r w2 ⟨rfl, rfl⟩)
        | (go_at_call 47; (with_reducible refine HG.out.mono ?_); rintro r w3 ⟨rfl, rfl⟩)
        | (go_at_call 59; (with_reducible refine HN.out.mono ?_); rintro r w3 ⟨rfl, g3⟩))
      exact ⟨rfl, rfl, g3⟩
    | some n =>
      rw [e] at HN
      clear e h h0 hp hr
      unfold Am.numP at HN ⊢
      go_enter Tryd.func71, Tryd.ntmps71
      go_wp2_with (first
        | (go_at_call 81; (with_reducible refine HC.out.mono ?_); rintro r w2 ⟨rfl, rfl⟩)
        | (go_at_call 47; (with_reducible refine HG.out.mono ?_); rintro r w3 ⟨rfl, rfl⟩)
        | (go_at_call 59; (with_reducible refine HN.out.mono ?_); rintro r w3 ⟨rfl, g3⟩))
      go_ret
      exact ⟨rfl, g3⟩
  · have h := Am.pre_no hp
    have hr : Am.reg s.data.toList = none := by unfold Am.reg; rw [if_neg hp]
    rw [show (⟨#[114]⟩ : ByteArray).data.toList = [114] from rfl, h.1] at HC
    rw [hr]
    generalize (⟨(Go.Lib.trimPrefix s.data.toList [114]).toArray⟩ : ByteArray) = s2 at *
    clear h h0 hp hr
    unfold Am.numP
    go_enter Tryd.func71, Tryd.ntmps71
    go_wp2_with (first
      | (go_at_call 81; (with_reducible refine HC.out.mono ?_); rintro r w2 ⟨rfl, rfl⟩)
      | (go_at_call 47; (with_reducible refine HG.out.mono ?_); rintro r w3 ⟨rfl, rfl⟩))
    exact ⟨rfl, rfl, only_refl _ _⟩
/-- A number and a name, or giving up. -/
def Am.valP (o : Option (Nat × List UInt8)) (ln : Int) (w : World) (r : Ending) (w' : World) : Prop := (match o with | some v => r = .returned (.tuple #[.int .i64 v.1, .string ⟨v.2.toArray⟩]) | none => r = .panicked (Am.chn ln 3)) ∧ w.grownBy w' none
theorem Am.value_any (b : Nat) (ln : Int) (s : ByteArray) (hs : s.size ≤ 100000) (w : World) (h0 : w.cell? ⟨b, 0, none⟩ = some (.int .i64 ln)) :
    Calls Tryd.prog 60 #[.pointer (some ⟨b, 0, none⟩), .string s] w (Am.valP (Am.val s.data.toList) ln w) := by
  have hlt : b < w.heap.size := World.block_lt_of_cell? w _ h0
  have HI := Lib.hid (Am.isname_any s w)
  have HN := Lib.hid (fun (W : World) (q : w.grownBy W none) => (show Calls Tryd.prog 59 #[.pointer (some ⟨b, 0, none⟩), .string s, .int .i64 65535] W (Am.numP (Am.num s.data.toList 65535) ln W) from Am.number_any b ln s hs 65535 (by omega) W (by rw [Am.kc q hlt 0]; exact h0)))
  by_cases hn : Am.isName s.data.toList = true
  · have hv : Am.val s.data.toList = some (0, s.data.toList) := by unfold Am.val; rw [if_pos hn]
    rw [hn] at HI
    rw [hv]
    clear hv h0 hn
    unfold Am.valP
    go_enter Tryd.func60, Tryd.ntmps60
    go_wp2_with (first
      | (go_at_call 56; (with_reducible refine HI.out.mono ?_); rintro r w2 ⟨rfl, g2⟩))
    go_ret2
    exact ⟨by rw [show s = ⟨s.data.toList.toArray⟩ from by simp]; simp, g2⟩
  · have hn : Am.isName s.data.toList = false := by simpa using hn
    have hv : Am.val s.data.toList = (Am.num s.data.toList 65535).map fun n => (n, []) := by unfold Am.val; rw [hn]; rfl
    rw [hn] at HI
    rw [hv]
    cases e : Am.num s.data.toList 65535 with
    | none =>
      rw [e] at HN
      clear hv h0 hn e
      unfold Am.numP at HN
      unfold Am.valP
      go_enter Tryd.func60, Tryd.ntmps60
      go_wp2_with (first
        | (go_at_call 56; (with_reducible refine HI.out.mono ?_); rintro r w2 ⟨rfl, g2⟩; have G2 := Lib.hid g2; clear g2)
        | (go_at_call 59; (with_reducible refine (HN.out _ G2.out).mono ?_); rintro r w3 ⟨rfl, g3⟩; have G3 := Lib.hid (only_trans G2.out g3); clear g3))
      exact ⟨rfl, rfl, G3.out⟩
    | some n =>
      rw [e] at HN
      rw [Option.map_some]
      clear hv h0 hn e
      unfold Am.numP at HN
      unfold Am.valP
      go_enter Tryd.func60, Tryd.ntmps60
      go_wp2_with (first
        | (go_at_call 56; (with_reducible refine HI.out.mono ?_); rintro r w2 ⟨rfl, g2⟩; have G2 := Lib.hid g2; clear g2)
        | (go_at_call 59; (with_reducible refine (HN.out _ G2.out).mono ?_); rintro r w3 ⟨rfl, g3⟩; have G3 := Lib.hid (only_trans G2.out g3); clear g3))
      go_ret2
      exact ⟨rfl, G3.out⟩
/-- Nothing, or giving up. -/
theorem Am.count_yes (b : Nat) (A : Option Addr) (n c : Nat) (w : World) : Calls Tryd.prog 57 #[.pointer (some ⟨b, 0, none⟩), .slice A n c, .int .i64 n] w fun r w' => r = .returned (.tuple #[]) ∧ w = w' := by
  go_enter Tryd.func57, Tryd.ntmps57
  go_wp2
  go_end0
  exact ⟨rfl, rfl⟩
theorem Am.count_no (b : Nat) (ln : Int) (A : Option Addr) (n c m : Nat) (hne : n ≠ m) (w : World) (h0 : w.cell? ⟨b, 0, none⟩ = some (.int .i64 ln)) : Calls Tryd.prog 57 #[.pointer (some ⟨b, 0, none⟩), .slice A n c, .int .i64 m] w fun r w' => r = .panicked (Am.chn ln 3) ∧ w = w' := by
  have HG := Lib.hid (Am.giveup_any b ln 3 w h0)
  have hi : ¬ ((n : Int) = (m : Int)) := by omega
  have hi2 : ((n : Int) == (m : Int)) = false := by rw [beq_eq_false_iff_ne]; exact hi
  clear h0
  go_enter Tryd.func57, Tryd.ntmps57
  go_wp2_with (first
    | (go_at_call 47; (with_reducible refine HG.out.mono ?_); rintro r w3 ⟨rfl, rfl⟩))
  exact ⟨rfl, rfl, rfl⟩
/-- The kinds of an instruction's words. -/
def Am.ops (k : Nat) : List Int := if k = 0 ∨ k = 15 then [] else if k = 11 then [3] else if k = 14 then [0, 2] else if rgB k then [0, 1] else [0, 3]
end Go.Proofs.YtldbhcbmcogmfaaDoor

/- Package asm: what an instruction's words are, and two bytes of a number, by their contracts. -/
namespace Go.Proofs.YtldbhcbmcogmfaaDoor
open Go.RowKit Go.Lib
set_option linter.unusedVariables false

/-- A slice of the kinds of an instruction's words, of the call's own. -/
def Am.opsP (k : Nat) (w : World) (r : Ending) (w' : World) : Prop :=
  w.grownBy w' none ∧ ((Am.ops k = [] ∧ r = .returned (.slice none 0 0)) ∨ ∃ l : List Int, Am.ops k = l ∧ l ≠ [] ∧ r = .returned (.slice (some ⟨w.heap.size, 0, none⟩) l.length l.length) ∧ w.heap.size < w'.heap.size ∧ ∀ j x, l[j]? = some x → w'.cell? ⟨w.heap.size, j, none⟩ = some (.int .i64 x))
theorem Am.ops_row (w : World) (l : List Int) (hl : l = [3] ∨ l = [0, 2] ∨ l = [0, 1] ∨ l = [0, 3]) (t : TypeId) : ∀ j x, l[j]? = some x → (w.alloc (.cells (l.map (Value.int .i64)).toArray t)).cell? ⟨w.heap.size, j, none⟩ = some (.int .i64 x) := by
  intro j x h
  rw [(Blk.new w t (l.map (Value.int .i64)).toArray).cell j]
  simp [h]
set_option maxRecDepth 8000 in
theorem Am.operands_any (k : Nat) (hk : k < 256) (w : World) : Calls Tryd.prog 41 #[.int .u8 k] w (Am.opsP k w) := by
  have HR := Lib.hid (Go.Proofs.YtldbhcbmcogmfaaDoor.register_any k hk w)
  by_cases h0 : k = 0
  · subst h0
    have he : Am.ops 0 = [] := by decide
    go_enter Tryd.func41, Tryd.ntmps41
    go_wp2
    go_ret
    exact ⟨only_refl _ _, Or.inl ⟨he, rfl⟩⟩
  by_cases h15 : k = 15
  · subst h15
    have he : Am.ops 15 = [] := by decide
    go_enter Tryd.func41, Tryd.ntmps41
    go_wp2
    go_ret
    exact ⟨only_refl _ _, Or.inl ⟨he, rfl⟩⟩
  by_cases h11 : k = 11
  · subst h11
    have he : Am.ops 11 = [3] := by decide
    go_enter Tryd.func41, Tryd.ntmps41
    go_wp2
    go_ret
    exact ⟨only_alloc (only_refl _ _) _, Or.inr ⟨[3], he, by simp, rfl, by simp, Am.ops_row w [3] (by simp) _⟩⟩
  by_cases h14 : k = 14
  · subst h14
    have he : Am.ops 14 = [0, 2] := by decide
    go_enter Tryd.func41, Tryd.ntmps41
    go_wp2
    go_ret
    exact ⟨only_alloc (only_refl _ _) _, Or.inr ⟨[0, 2], he, by simp, rfl, by simp, Am.ops_row w [0, 2] (by simp) _⟩⟩
  have i0 : ¬ ((k : Int) = 0) := by omega
  have i15 : ¬ ((k : Int) = 15) := by omega
  have i11 : ¬ ((k : Int) = 11) := by omega
  have i14 : ¬ ((k : Int) = 14) := by omega
  have j0 : ((k : Int) == 0) = false := by rw [beq_eq_false_iff_ne]; exact i0
  have j15 : ((k : Int) == 15) = false := by rw [beq_eq_false_iff_ne]; exact i15
  have j11 : ((k : Int) == 11) = false := by rw [beq_eq_false_iff_ne]; exact i11
  have j14 : ((k : Int) == 14) = false := by rw [beq_eq_false_iff_ne]; exact i14
  have he : Am.ops k = if rgB k then [0, 1] else [0, 3] := by unfold Am.ops; rw [if_neg (by omega), if_neg h11, if_neg h14]
  have HE := Lib.hid he
  clear he h0 h11 h14 h15 i0 i15 i11 i14
  cases hr : rgB k
  · rw [hr] at HR HE
    clear hr
    go_enter Tryd.func41, Tryd.ntmps41
    go_wp2_with (first
      | (go_at_call 51; (with_reducible refine HR.out.mono ?_); rintro r w3 ⟨rfl, rfl⟩))
    go_ret
    exact ⟨only_alloc (only_refl _ _) _, Or.inr ⟨[0, 3], HE.out, by simp, rfl, by simp, Am.ops_row w [0, 3] (by simp) _⟩⟩
  · rw [hr] at HR HE
    clear hr
    go_enter Tryd.func41, Tryd.ntmps41
    go_wp2_with (first
      | (go_at_call 51; (with_reducible refine HR.out.mono ?_); rintro r w3 ⟨rfl, rfl⟩))
    go_ret
    exact ⟨only_alloc (only_refl _ _) _, Or.inr ⟨[0, 1], HE.out, by simp, rfl, by simp, Am.ops_row w [0, 1] (by simp) _⟩⟩
end Go.Proofs.YtldbhcbmcogmfaaDoor

/- A row onto which another one is put, or a string's bytes. -/
namespace Go.Proofs.YtldbhcbmcogmfaaDoor
open Go.RowKit Go.Lib
set_option linter.unusedVariables false
section
variable {s : Nat} {w w' : World} {v : Value} {n : Nat} {xs : List Value}
theorem run_growZ {P : Program} (w : World) (t u e ty : TypeId) (m : Nat) (hm0 : 0 < m) (i : TypeInfo) (z : Value) (bytes : Nat) (ht : P.underlying t = some (.slice e)) (hi : P.info? e = some i) (hz : i.zero = some z) (hs : i.size = s) (hby : i.bytes = bytes) (hb16 : bytes ≤ 128) (hzs : z.cells.size = s)
    (v : Value) (n : Nat) (l : List Value) (h : RowZ s w v n l) (h1 : ∀ u ∈ l, u.oneCell' = true) (xs : Value) (x : List Value) (hx : Src P s u xs m x w) (hn : n + m ≤ 1000000) :
    ∃ v' w', (Builtin.append_ #[t, u] ty #[v, xs]).run P w = .ok v' w' ∧ RowZ s w' v' (n + m) (l ++ x) ∧ w.grownBy w' v.ownBlock ∧ (v'.ownBlock = v.ownBlock ∨ v'.ownBlock = some w.heap.size) := by
  have hxl : x.length = m * s := hx.newsLen
  have hlx : (l ++ x).length = (n + m) * s := by rw [List.length_append, h.1, hxl, Nat.add_mul]
  have hbm : (n + m) * bytes ≤ 140737488355328 := by
    have : (n + m) * bytes ≤ 1000001 * 128 := Nat.mul_le_mul (by omega) hb16
    omega
  have hsrc : Src P i.size u xs m x w := by rw [hs]; exact hx
  have grown : ∀ (base : Option Addr) (cap : Nat), v = .slice base n cap → cap < n + m → ∃ v' w', (Builtin.append_ #[t, u] ty #[v, xs]).run P w = .ok v' w' ∧ RowZ s w' v' (n + m) (l ++ x) ∧ w.grownBy w' v.ownBlock ∧ (v'.ownBlock = v.ownBlock ∨ v'.ownBlock = some w.heap.size) := by
    intro base cap hv hcap
    have hold := ((h.drewN 1).src (P := P) t e ht h1).cells
    have hm : n + m ≤ maxLen := by unfold maxLen; omega
    have hge := grownCap_ge w (n + m) cap e
    have hcm := grownCap_le_maxLen w (n + m) cap e hm
    rw [hv] at hold
    have hr := run_append_grow_src (P := P) w t u ty e i z ht hi hz base n cap l (by rw [hs]; exact hold) xs m x hsrc hcap (by omega) (by rw [hby]; exact growslice_fits hcap hbm)
    rw [hv]
    refine ⟨_, _, hr, ?_, ⟨rfl, rfl, rfl, by simp, fun k hk _ => Below.heap_alloc w.drew _ k hk⟩, .inr rfl⟩
    refine RowZ.new w.drew _ e _ hlx ?_ hge hcm (fun j u hu => ?_)
    · simp only [Array.size_append, List.size_toArray, size_zeroCells, hzs, hlx]
      rw [← Nat.add_mul]
      congr 1
      omega
    · have hj := (List.getElem?_eq_some_iff.1 hu).1
      rw [Array.getElem?_append_left (by simpa using hj)]
      simpa using hu
  rcases h with ⟨hl, ⟨rfl, rfl⟩ | ⟨g, off, cap, rfl, h2, h3, h4, h5, h6⟩⟩
  · exact grown none 0 rfl (by omega)
  · by_cases hroom : n + m ≤ cap
    · have hcs : n * s + m * s ≤ cap * s := by
        have := Nat.mul_le_mul_right s hroom
        rw [Nat.add_mul] at this
        exact this
      have hr := run_append_room_src (P := P) w t u ty e i ht hi g off n cap xs m x hsrc hroom (by
        intro j hj
        rw [hs, Nat.add_assoc]
        exact (h5 (n * s + j) (by omega)).1) (by
        intro j hj
        rw [hs, Nat.add_assoc]
        exact (h5 (n * s + j) (by omega)).2)
      rw [hs] at hr
      have hsome : ∀ k, k < x.length → (w.cell? ⟨g, off + n * s + k, none⟩).isSome = true := fun k hk => by
        rw [Nat.add_assoc]
        exact (h5 (n * s + k) (by omega)).1
      refine ⟨_, _, hr, ⟨hlx, .inr ⟨g, off, cap, rfl, hroom, h3, ?_, ?_, ?_⟩⟩, only_cells _ _ _ _, .inl rfl⟩
      · rw [(setCells_at g x (off + n * s) w).2.2.2.1]
        exact h4
      · intro j hj
        rw [World.frozen?_setCells]
        refine ⟨?_, (h5 j hj).2⟩
        by_cases e1 : n * s ≤ j ∧ j < n * s + m * s
        · have := World.cell?_setCells_in g x (off + n * s) w hsome (j - n * s) (by omega)
          rw [show off + n * s + (j - n * s) = off + j by omega] at this
          rw [this]
          rfl
        · rw [World.cell?_setCells_out g x (off + n * s) w _ (by intro _ _; simp; omega)]
          exact (h5 j hj).1
      · intro j u hu
        by_cases e1 : j < n * s
        · rw [List.getElem?_append_left (by omega)] at hu
          rw [World.cell?_setCells_out g x (off + n * s) w _ (by intro _ _; simp; omega)]
          exact h6 j u hu
        · have hj := (List.getElem?_eq_some_iff.1 hu).1
          rw [List.length_append, hl] at hj
          rw [List.getElem?_append_right (by omega), hl] at hu
          have := World.cell?_setCells_in g x (off + n * s) w hsome (j - n * s) (by omega)
          rw [show off + n * s + (j - n * s) = off + j by omega] at this
          rw [this, ← List.getElem?_eq_getElem]
          exact hu
    · exact grown _ cap rfl (by omega)

end
/-- append of unlike types, at the operation, where its run is known. -/
theorem wpList_append_eq2 {P : Program} {ops : Array Oper} {rest : List Oper} {o : Oper} {a : Act} {Q : Exit → Act → World → Prop} {w : World} (hgd : o.guard = none) (s x : Operand) (t u : TypeId) (ho : o.op = .call { callee := .builtin .append, args := #[s, x], argTypes := #[t, u] })
    {v xs v' : Value} {w' : World} (hr : (Builtin.append_ #[t, u] o.type #[v, xs]).run P w = .ok v' w') (hs : a.eval s = v) (hx : a.eval x = xs) (h : wpList P ops Q rest (a.put o.dst v') w') : wpList P ops Q (o :: rest) a w := by
  refine wpList_plain hgd fun K hK => ?_
  unfold Oper.wp execOp
  simp only [ho, resolve, invoke, builtin, Sem.run_bind, Sem.run_pure, Result.andThen_ok, List.map_toArray, List.map_cons, List.map_nil, hs, hx, hr]
  exact hK _ _ h
end Go.Proofs.YtldbhcbmcogmfaaDoor
