import Derived.Test.YtiicoabkhponmaaDoorZ20
set_option linter.all false
/- Slices of the call's own, of elements of any size, that move along their rows: what they hold, and what an append, a clearing and a cut do. No program is spoken of here. -/
namespace Go.Proofs.YtiicoabkhponmaaDoor
open Go.RowKit Go.Lib
set_option linter.unusedVariables false

/-- A slice of n elements of s cells, xs: nil, or in a row that it may write. -/
def RowZ (s : Nat) (w : World) (v : Value) (n : Nat) (xs : List Value) : Prop :=
  xs.length = n * s ∧ ((v = .slice none 0 0 ∧ n = 0) ∨ ∃ g off cap, v = .slice (some ⟨g, off, none⟩) n cap ∧ n ≤ cap ∧ cap ≤ maxLen ∧ g < w.heap.size ∧
    (∀ j, j < cap * s → (w.cell? ⟨g, off + j, none⟩).isSome = true ∧ w.frozen? ⟨g, off + j, none⟩ = false) ∧ ∀ j u, xs[j]? = some u → w.cell? ⟨g, off + j, none⟩ = some u)
section
variable {s : Nat} {w w' : World} {v : Value} {n : Nat} {xs : List Value}
theorem RowZ.nil (s : Nat) (w : World) : RowZ s w (.slice none 0 0) 0 [] := ⟨by simp, .inl ⟨rfl, rfl⟩⟩
theorem RowZ.form (h : RowZ s w v n xs) : ∃ A c, v = .slice A n c := by
  rcases h with ⟨_, ⟨rfl, rfl⟩ | ⟨g, off, cap, rfl, _⟩⟩
  · exact ⟨_, _, rfl⟩
  · exact ⟨_, _, rfl⟩
theorem RowZ.lt (h : RowZ s w v n xs) : ∀ k, v.ownBlock = some k → k < w.heap.size := by
  intro k hk
  rcases h with ⟨_, ⟨rfl, _⟩ | ⟨g, off, cap, rfl, _, _, hg, _⟩⟩
  · simp [Value.ownBlock] at hk
  · simp [Value.ownBlock] at hk
    omega
theorem RowZ.same (h : RowZ s w v n xs) (hs : w.heap.size ≤ w'.heap.size) (hb : ∀ k, v.ownBlock = some k → w'.heap[k]? = w.heap[k]?) : RowZ s w' v n xs := by
  rcases h with ⟨hl, h | ⟨g, off, cap, rfl, h1, h2, h3, h4, h5⟩⟩
  · exact ⟨hl, .inl h⟩
  · have hg := hb g rfl
    have hc : ∀ o, w'.cell? ⟨g, o, none⟩ = w.cell? ⟨g, o, none⟩ := fun o => by simp [World.cell?, hg]
    have hf : ∀ o, w'.frozen? ⟨g, o, none⟩ = w.frozen? ⟨g, o, none⟩ := fun o => by simp [World.frozen?, hg]
    exact ⟨hl, .inr ⟨g, off, cap, rfl, h1, h2, by omega, fun j hj => by rw [hc, hf]; exact h4 j hj, fun j u hu => by rw [hc]; exact h5 j u hu⟩⟩
theorem RowZ.keeps {S : Nat → Prop} (h : RowZ s w v n xs) (k : Keeps S w w') (hn : ∀ i, v.ownBlock = some i → ¬ S i) : RowZ s w' v n xs :=
  h.same k.size fun i hi => k.2.2.2.2 i (h.lt i hi) (hn i hi)
theorem RowZ.only {row : Option Nat} (h : RowZ s w v n xs) (k : w.grownBy w' row) (hn : v.ownBlock = none ∨ v.ownBlock ≠ row) : RowZ s w' v n xs :=
  h.same k.size fun i hi => k.block i (h.lt i hi) (fun e => by rcases hn with hn | hn; rw [hn] at hi; cases hi; exact hn (hi.trans e))
theorem RowZ.grown (h : RowZ s w v n xs) (k : w.grownBy w' none) : RowZ s w' v n xs := h.only k (by cases hv : v.ownBlock <;> simp)
theorem RowZ.below {B : Nat} (h : RowZ s w v n xs) (k : Below B w w') (hn : ∀ i, v.ownBlock = some i → i < B) : RowZ s w' v n xs :=
  h.same k.size fun i hi => k.block i (hn i hi)
theorem RowZ.drewN (h : RowZ s w v n xs) (q : Nat) : RowZ s (w.drewN q) v n xs := h
theorem RowZ.alloc (h : RowZ s w v n xs) (o : Obj) : RowZ s (w.alloc o) v n xs := h.same (by simp) fun k hk => Below.heap_alloc w o k (h.lt k hk)
theorem RowZ.put (h : RowZ s w v n xs) {p : Addr} (hp : v.ownBlock ≠ some p.block) (u : Value) : RowZ s (w.setCell p u) v n xs :=
  h.same (by simp) fun k hk => Below.heap_setCell w p u k (by rintro rfl; exact hp hk)
theorem RowZ.len (h : RowZ s w v n xs) : xs.length = n * s := h.1

/-- A new row whose first places hold xs. -/
theorem RowZ.new (w : World) (cur : Array Value) (e : TypeId) (cap : Nat) (hl : xs.length = n * s) (hc : cur.size = cap * s) (hn : n ≤ cap) (hm : cap ≤ maxLen) (hp : ∀ (j : Nat) (u : Value), xs[j]? = some u → cur[j]? = some u) :
    RowZ s (w.alloc (.cells cur e)) (.slice (some ⟨w.heap.size, 0, none⟩) n cap) n xs := by
  have hb : Blk (w.alloc (.cells cur e)) w.heap.size e cur := Blk.new w e cur
  refine ⟨hl, .inr ⟨w.heap.size, 0, cap, rfl, hn, hm, by simp, fun j hj => ⟨?_, hb.free _⟩, fun j u hu => ?_⟩⟩
  · rw [hb.cell, Nat.zero_add, Array.getElem?_eq_getElem (by omega)]
    rfl
  · rw [hb.cell, Nat.zero_add]
    exact hp j u hu

/-- What a slice reads as1, for an append of its elements. -/
theorem RowZ.src {P : Program} (h : RowZ s w v n xs) (tx e' : TypeId) (hk : P.underlying tx = some (.slice e')) (h1 : ∀ u ∈ xs, u.oneCell' = true) : Src P s tx v n xs w := by
  rcases h with ⟨hl, ⟨rfl, rfl⟩ | ⟨g, off, cap, rfl, _, _, _, _, h5⟩⟩
  · have : xs = [] := List.eq_nil_of_length_eq_zero (by omega)
    subst this
    exact Src.ofNil w hk 0
  · refine Src.ofSlice w hk _ _ _ _ hl ?_ h1
    intro j u hu
    rw [addr_at]
    exact h5 j u hu

/-- append(v, x), v a slice of the call's own. -/
theorem run_pushZ {P : Program} (w : World) (t e ty : TypeId) (i : TypeInfo) (z : Value) (bytes : Nat) (ht : P.underlying t = some (.slice e)) (hi : P.info? e = some i) (hz : i.zero = some z) (hs : i.size = s) (hby : i.bytes = bytes) (hb16 : bytes ≤ 64) (hzs : z.cells.size = s)
    (v : Value) (n : Nat) (l : List Value) (h : RowZ s w v n l) (h1 : ∀ u ∈ l, u.oneCell' = true) (xs : Value) (x : List Value) (hx : Src P s t xs 1 x w) (hn : n ≤ 1000000) :
    ∃ v' w', (Builtin.append_ #[t, t] ty #[v, xs]).run P w = .ok v' w' ∧ RowZ s w' v' (n + 1) (l ++ x) ∧ w.grownBy w' v.ownBlock ∧ (v'.ownBlock = v.ownBlock ∨ v'.ownBlock = some w.heap.size) := by
  have hxl : x.length = s := by have := hx.newsLen; omega
  have hlx : (l ++ x).length = (n + 1) * s := by rw [List.length_append, h.1, hxl, Nat.add_mul, Nat.one_mul]
  have hbm : (n + 1) * bytes ≤ 140737488355328 := by
    have : (n + 1) * bytes ≤ 1000001 * 64 := Nat.mul_le_mul (by omega) hb16
    omega
  have hsrc : Src P i.size t xs 1 x w := by rw [hs]; exact hx
  have grown : ∀ (base : Option Addr) (cap : Nat), v = .slice base n cap → cap < n + 1 → ∃ v' w', (Builtin.append_ #[t, t] ty #[v, xs]).run P w = .ok v' w' ∧ RowZ s w' v' (n + 1) (l ++ x) ∧ w.grownBy w' v.ownBlock ∧ (v'.ownBlock = v.ownBlock ∨ v'.ownBlock = some w.heap.size) := by
    intro base cap hv hcap
    have hold := ((h.drewN 1).src (P := P) t e ht h1).cells
    have hm : n + 1 ≤ maxLen := by unfold maxLen; omega
    have hge := grownCap_ge w (n + 1) cap e
    have hcm := grownCap_le_maxLen w (n + 1) cap e hm
    rw [hv] at hold
    have hr := run_append_grow_src (P := P) w t t ty e i z ht hi hz base n cap l (by rw [hs]; exact hold) xs 1 x hsrc hcap (by omega) (by rw [hby]; exact growslice_fits hcap hbm)
    rw [hv]
    refine ⟨_, _, hr, ?_, ⟨rfl, rfl, rfl, by simp, fun k hk _ => Below.heap_alloc w.drew _ k hk⟩, .inr rfl⟩
    refine RowZ.new w.drew _ e _ hlx ?_ hge hcm (fun j u hu => ?_)
    · simp only [Array.size_append, List.size_toArray, size_zeroCells, hzs, hlx]
      rw [← Nat.add_mul]
      congr 1
      omega
    · have hj := (List.getElem?_eq_some_iff.1 hu).1
      rw [Array.getElem?_append_left (by simpa using hj)]
      simpa using hu
  rcases h with ⟨hl, ⟨rfl, rfl⟩ | ⟨g, off, cap, rfl, h2, h3, h4, h5, h6⟩⟩
  · exact grown none 0 rfl (by omega)
  · by_cases hroom : n + 1 ≤ cap
    · have hcs : n * s + s ≤ cap * s := by
        have := Nat.mul_le_mul_right s hroom
        rw [Nat.add_mul, Nat.one_mul] at this
        exact this
      have hr := run_append_room_src (P := P) w t t ty e i ht hi g off n cap xs 1 x hsrc hroom (by
        intro j hj
        rw [hs, Nat.add_assoc]
        exact (h5 (n * s + j) (by omega)).1) (by
        intro j hj
        rw [hs, Nat.add_assoc]
        exact (h5 (n * s + j) (by omega)).2)
      rw [hs] at hr
      have hsome : ∀ k, k < x.length → (w.cell? ⟨g, off + n * s + k, none⟩).isSome = true := fun k hk => by
        rw [Nat.add_assoc]
        exact (h5 (n * s + k) (by omega)).1
      refine ⟨_, _, hr, ⟨hlx, .inr ⟨g, off, cap, rfl, hroom, h3, ?_, ?_, ?_⟩⟩, only_cells _ _ _ _, .inl rfl⟩
      · rw [(setCells_at g x (off + n * s) w).2.2.2.1]
        exact h4
      · intro j hj
        rw [World.frozen?_setCells]
        refine ⟨?_, (h5 j hj).2⟩
        by_cases e1 : n * s ≤ j ∧ j < n * s + s
        · have := World.cell?_setCells_in g x (off + n * s) w hsome (j - n * s) (by omega)
          rw [show off + n * s + (j - n * s) = off + j by omega] at this
          rw [this]
          rfl
        · rw [World.cell?_setCells_out g x (off + n * s) w _ (by intro _ _; simp; omega)]
          exact (h5 j hj).1
      · intro j u hu
        by_cases e1 : j < n * s
        · rw [List.getElem?_append_left (by omega)] at hu
          rw [World.cell?_setCells_out g x (off + n * s) w _ (by intro _ _; simp; omega)]
          exact h6 j u hu
        · have hj := (List.getElem?_eq_some_iff.1 hu).1
          rw [List.length_append, hl] at hj
          rw [List.getElem?_append_right (by omega), hl] at hu
          have := World.cell?_setCells_in g x (off + n * s) w hsome (j - n * s) (by omega)
          rw [show off + n * s + (j - n * s) = off + j by omega] at this
          rw [this, ← List.getElem?_eq_getElem]
          exact hu
    · exact grown _ cap rfl (by omega)

/-- clear of the first n > 0 elements of one size. -/
theorem run_clear_sized {P : Program} (w : World) (t e ty : TypeId) (z : Value) (ht : P.underlying t = some (.slice e)) (hv : ∀ w, (zeroValue e).run P w = .ok z w) (b o n c : Nat) (hn : 0 < n) (h1 : ∀ u ∈ (Builtin.zeroCells z.cells n).toList, u.oneCell' = true)
    (hc : ∀ j, j < (Builtin.zeroCells z.cells n).toList.length → (w.cell? ⟨b, o + j, none⟩).isSome = true) (hf : ∀ j, j < (Builtin.zeroCells z.cells n).toList.length → w.frozen? ⟨b, o + j, none⟩ = false) :
    (Builtin.clear_ #[t] ty #[.slice (some ⟨b, o, none⟩) n c]).run P w = .ok (.tuple #[]) (w.setCells b o (Builtin.zeroCells z.cells n).toList) := by
  have hst := run_storeCells_cells (P := P) b o (Builtin.zeroCells z.cells n).toList 0 w (by simpa using hc) (by simpa using hf) h1
  simp only [Nat.add_zero] at hst
  obtain ⟨m, rfl⟩ : ∃ m, n = m + 1 := ⟨n - 1, by omega⟩
  simp [Builtin.clear_, run_underlying ht, hv, hst]

/-- Some first cells were written: what is behind them is as1 it was. -/
theorem RowZ.cleared {g off cap k : Nat} (zs : List Value) (hl : xs.length = n * s) (hz : zs.length = k * s) (h2 : n ≤ cap) (h3 : cap ≤ maxLen) (h4 : g < w.heap.size)
    (h5 : ∀ j, j < cap * s → (w.cell? ⟨g, off + j, none⟩).isSome = true ∧ w.frozen? ⟨g, off + j, none⟩ = false) (h6 : ∀ j u, xs[j]? = some u → w.cell? ⟨g, off + j, none⟩ = some u) (hk : k ≤ n) :
    RowZ s (w.setCells g off zs) (.slice (some ⟨g, off + k * s, none⟩) (n - k) (cap - k)) (n - k) (xs.drop (k * s)) := by
  have hcs : k * s + (cap - k) * s = cap * s := by rw [← Nat.add_mul]; congr 1; omega
  refine ⟨by rw [List.length_drop, hl, Nat.sub_mul], .inr ⟨g, off + k * s, cap - k, rfl, by omega, by omega, by rw [(setCells_at g _ off w).2.2.2.1]; exact h4, fun j hj => ?_, fun j u hu => ?_⟩⟩
  · rw [World.frozen?_setCells, World.cell?_setCells_out g _ off w _ (by intro _ _; simp; omega), Nat.add_assoc]
    exact h5 (k * s + j) (by omega)
  · rw [World.cell?_setCells_out g _ off w _ (by intro _ _; simp; omega), Nat.add_assoc]
    rw [List.getElem?_drop] at hu
    exact h6 _ u hu
theorem RowZ.empty {g : Nat} (s o : Nat) (hg : g < w.heap.size) : RowZ s w (.slice (some ⟨g, o, none⟩) 0 0) 0 [] :=
  ⟨by simp, .inr ⟨g, o, 0, rfl, by omega, by simp [maxLen], hg, fun j hj => absurd hj (by omega), fun j u hu => by simp at hu⟩⟩
end
end Go.Proofs.YtiicoabkhponmaaDoor
