import Derived.Test.YtpolkioaagahhaaDoorZ09
import Derived.Defers
import Derived.Scope
import Derived.WalkMore
import Derived.ScopeJumps
set_option linter.all false
/- Slices of the call's own, of elements of any size, that move along their rows: what they hold, and what an append, a clearing and a cut do. No program is spoken of here. -/
namespace Go.Proofs.YtpolkioaagahhaaDoor
open Go.RowKit Go.Lib
set_option linter.unusedVariables false

/-- A slice of n elements of s cells, xs: nil, or in a row that it may write. -/
def RowZ (s : Nat) (w : World) (v : Value) (n : Nat) (xs : List Value) : Prop :=
  xs.length = n * s ∧ ((v = .slice none 0 0 ∧ n = 0) ∨ ∃ g off cap, v = .slice (some ⟨g, off, none⟩) n cap ∧ n ≤ cap ∧ cap ≤ maxLen ∧ g < w.heap.size ∧
    (∀ j, j < cap * s → (w.cell? ⟨g, off + j, none⟩).isSome = true ∧ w.frozen? ⟨g, off + j, none⟩ = false) ∧ ∀ j u, xs[j]? = some u → w.cell? ⟨g, off + j, none⟩ = some u)
section
variable {s : Nat} {w w' : World} {v : Value} {n : Nat} {xs : List Value}
theorem RowZ.nil (s : Nat) (w : World) : RowZ s w (.slice none 0 0) 0 [] := ⟨by simp, .inl ⟨rfl, rfl⟩⟩
theorem RowZ.form (h : RowZ s w v n xs) : ∃ A c, v = .slice A n c := by
  rcases h with ⟨_, ⟨rfl, rfl⟩ | ⟨g, off, cap, rfl, _⟩⟩
  · exact ⟨_, _, rfl⟩
  · exact ⟨_, _, rfl⟩
theorem RowZ.lt (h : RowZ s w v n xs) : ∀ k, v.ownBlock = some k → k < w.heap.size := by
  intro k hk
  rcases h with ⟨_, ⟨rfl, _⟩ | ⟨g, off, cap, rfl, _, _, hg, _⟩⟩
  · simp [Value.ownBlock] at hk
  · simp [Value.ownBlock] at hk
    omega
theorem RowZ.same (h : RowZ s w v n xs) (hs : w.heap.size ≤ w'.heap.size) (hb : ∀ k, v.ownBlock = some k → w'.heap[k]? = w.heap[k]?) : RowZ s w' v n xs := by
  rcases h with ⟨hl, h | ⟨g, off, cap, rfl, h1, h2, h3, h4, h5⟩⟩
  · exact ⟨hl, .inl h⟩
  · have hg := hb g rfl
    have hc : ∀ o, w'.cell? ⟨g, o, none⟩ = w.cell? ⟨g, o, none⟩ := fun o => by simp [World.cell?, hg]
    have hf : ∀ o, w'.frozen? ⟨g, o, none⟩ = w.frozen? ⟨g, o, none⟩ := fun o => by simp [World.frozen?, hg]
    exact ⟨hl, .inr ⟨g, off, cap, rfl, h1, h2, by omega, fun j hj => by rw [hc, hf]; exact h4 j hj, fun j u hu => by rw [hc]; exact h5 j u hu⟩⟩
theorem RowZ.keeps {S : Nat → Prop} (h : RowZ s w v n xs) (k : Keeps S w w') (hn : ∀ i, v.ownBlock = some i → ¬ S i) : RowZ s w' v n xs :=
  h.same k.size fun i hi => k.2.2.2.2 i (h.lt i hi) (hn i hi)
theorem RowZ.only {row : Option Nat} (h : RowZ s w v n xs) (k : w.grownBy w' row) (hn : v.ownBlock = none ∨ v.ownBlock ≠ row) : RowZ s w' v n xs :=
  h.same k.size fun i hi => k.block i (h.lt i hi) (fun e => by rcases hn with hn | hn; rw [hn] at hi; cases hi; exact hn (hi.trans e))
theorem RowZ.grown (h : RowZ s w v n xs) (k : w.grownBy w' none) : RowZ s w' v n xs := h.only k (by cases hv : v.ownBlock <;> simp)
theorem RowZ.below {B : Nat} (h : RowZ s w v n xs) (k : Below B w w') (hn : ∀ i, v.ownBlock = some i → i < B) : RowZ s w' v n xs :=
  h.same k.size fun i hi => k.block i (hn i hi)
theorem RowZ.drewN (h : RowZ s w v n xs) (q : Nat) : RowZ s (w.drewN q) v n xs := h
theorem RowZ.alloc (h : RowZ s w v n xs) (o : Obj) : RowZ s (w.alloc o) v n xs := h.same (by simp) fun k hk => Below.heap_alloc w o k (h.lt k hk)
theorem RowZ.put (h : RowZ s w v n xs) {p : Addr} (hp : v.ownBlock ≠ some p.block) (u : Value) : RowZ s (w.setCell p u) v n xs :=
  h.same (by simp) fun k hk => Below.heap_setCell w p u k (by rintro rfl; exact hp hk)
theorem RowZ.len (h : RowZ s w v n xs) : xs.length = n * s := h.1

/-- A new row whose first places hold xs. -/
theorem RowZ.new (w : World) (cur : Array Value) (e : TypeId) (cap : Nat) (hl : xs.length = n * s) (hc : cur.size = cap * s) (hn : n ≤ cap) (hm : cap ≤ maxLen) (hp : ∀ (j : Nat) (u : Value), xs[j]? = some u → cur[j]? = some u) :
    RowZ s (w.alloc (.cells cur e)) (.slice (some ⟨w.heap.size, 0, none⟩) n cap) n xs := by
  have hb : Blk (w.alloc (.cells cur e)) w.heap.size e cur := Blk.new w e cur
  refine ⟨hl, .inr ⟨w.heap.size, 0, cap, rfl, hn, hm, by simp, fun j hj => ⟨?_, hb.free _⟩, fun j u hu => ?_⟩⟩
  · rw [hb.cell, Nat.zero_add, Array.getElem?_eq_getElem (by omega)]
    rfl
  · rw [hb.cell, Nat.zero_add]
    exact hp j u hu

/-- What a slice reads as1, for an append of its elements. -/
theorem RowZ.src {P : Program} (h : RowZ s w v n xs) (tx e' : TypeId) (hk : P.underlying tx = some (.slice e')) (h1 : ∀ u ∈ xs, u.oneCell' = true) : Src P s tx v n xs w := by
  rcases h with ⟨hl, ⟨rfl, rfl⟩ | ⟨g, off, cap, rfl, _, _, _, _, h5⟩⟩
  · have : xs = [] := List.eq_nil_of_length_eq_zero (by omega)
    subst this
    exact Src.ofNil w hk 0
  · refine Src.ofSlice w hk _ _ _ _ hl ?_ h1
    intro j u hu
    rw [addr_at]
    exact h5 j u hu

/-- append(v, x), v a slice of the call's own. -/
theorem run_pushZ {P : Program} (w : World) (t e ty : TypeId) (i : TypeInfo) (z : Value) (bytes : Nat) (ht : P.underlying t = some (.slice e)) (hi : P.info? e = some i) (hz : i.zero = some z) (hs : i.size = s) (hby : i.bytes = bytes) (hb16 : bytes ≤ 64) (hzs : z.cells.size = s)
    (v : Value) (n : Nat) (l : List Value) (h : RowZ s w v n l) (h1 : ∀ u ∈ l, u.oneCell' = true) (xs : Value) (x : List Value) (hx : Src P s t xs 1 x w) (hn : n ≤ 1000000) :
    ∃ v' w', (Builtin.append_ #[t, t] ty #[v, xs]).run P w = .ok v' w' ∧ RowZ s w' v' (n + 1) (l ++ x) ∧ w.grownBy w' v.ownBlock ∧ (v'.ownBlock = v.ownBlock ∨ v'.ownBlock = some w.heap.size) := by
  have hxl : x.length = s := by have := hx.newsLen; omega
  have hlx : (l ++ x).length = (n + 1) * s := by rw [List.length_append, h.1, hxl, Nat.add_mul, Nat.one_mul]
  have hbm : (n + 1) * bytes ≤ 140737488355328 := by
    have : (n + 1) * bytes ≤ 1000001 * 64 := Nat.mul_le_mul (by omega) hb16
    omega
  have hsrc : Src P i.size t xs 1 x w := by rw [hs]; exact hx
  have grown : ∀ (base : Option Addr) (cap : Nat), v = .slice base n cap → cap < n + 1 → ∃ v' w', (Builtin.append_ #[t, t] ty #[v, xs]).run P w = .ok v' w' ∧ RowZ s w' v' (n + 1) (l ++ x) ∧ w.grownBy w' v.ownBlock ∧ (v'.ownBlock = v.ownBlock ∨ v'.ownBlock = some w.heap.size) := by
    intro base cap hv hcap
    have hold := ((h.drewN 1).src (P := P) t e ht h1).cells
    have hm : n + 1 ≤ maxLen := by unfold maxLen; omega
    have hge := grownCap_ge w (n + 1) cap e
    have hcm := grownCap_le_maxLen w (n + 1) cap e hm
    rw [hv] at hold
    have hr := run_append_grow_src (P := P) w t t ty e i z ht hi hz base n cap l (by rw [hs]; exact hold) xs 1 x hsrc hcap (by omega) (by rw [hby]; exact growslice_fits hcap hbm)
    rw [hv]
    refine ⟨_, _, hr, ?_, ⟨rfl, rfl, rfl, by simp, fun k hk _ => Below.heap_alloc w.drew _ k hk⟩, .inr rfl⟩
    refine RowZ.new w.drew _ e _ hlx ?_ hge hcm (fun j u hu => ?_)
    · simp only [Array.size_append, List.size_toArray, size_zeroCells, hzs, hlx]
      rw [← Nat.add_mul]
      congr 1
      omega
    · have hj := (List.getElem?_eq_some_iff.1 hu).1
      rw [Array.getElem?_append_left (by simpa using hj)]
      simpa using hu
  rcases h with ⟨hl, ⟨rfl, rfl⟩ | ⟨g, off, cap, rfl, h2, h3, h4, h5, h6⟩⟩
  · exact grown none 0 rfl (by omega)
  · by_cases hroom : n + 1 ≤ cap
    · have hcs : n * s + s ≤ cap * s := by
        have := Nat.mul_le_mul_right s hroom
        rw [Nat.add_mul, Nat.one_mul] at this
        exact this
      have hr := run_append_room_src (P := P) w t t ty e i ht hi g off n cap xs 1 x hsrc hroom (by
        intro j hj
        rw [hs, Nat.add_assoc]
        exact (h5 (n * s + j) (by omega)).1) (by
        intro j hj
        rw [hs, Nat.add_assoc]
        exact (h5 (n * s + j) (by omega)).2)
      rw [hs] at hr
      have hsome : ∀ k, k < x.length → (w.cell? ⟨g, off + n * s + k, none⟩).isSome = true := fun k hk => by
        rw [Nat.add_assoc]
        exact (h5 (n * s + k) (by omega)).1
      refine ⟨_, _, hr, ⟨hlx, .inr ⟨g, off, cap, rfl, hroom, h3, ?_, ?_, ?_⟩⟩, only_cells _ _ _ _, .inl rfl⟩
      · rw [(setCells_at g x (off + n * s) w).2.2.2.1]
        exact h4
      · intro j hj
        rw [World.frozen?_setCells]
        refine ⟨?_, (h5 j hj).2⟩
        by_cases e1 : n * s ≤ j ∧ j < n * s + s
        · have := World.cell?_setCells_in g x (off + n * s) w hsome (j - n * s) (by omega)
          rw [show off + n * s + (j - n * s) = off + j by omega] at this
          rw [this]
          rfl
        · rw [World.cell?_setCells_out g x (off + n * s) w _ (by intro _ _; simp; omega)]
          exact (h5 j hj).1
      · intro j u hu
        by_cases e1 : j < n * s
        · rw [List.getElem?_append_left (by omega)] at hu
          rw [World.cell?_setCells_out g x (off + n * s) w _ (by intro _ _; simp; omega)]
          exact h6 j u hu
        · have hj := (List.getElem?_eq_some_iff.1 hu).1
          rw [List.length_append, hl] at hj
          rw [List.getElem?_append_right (by omega), hl] at hu
          have := World.cell?_setCells_in g x (off + n * s) w hsome (j - n * s) (by omega)
          rw [show off + n * s + (j - n * s) = off + j by omega] at this
          rw [this, ← List.getElem?_eq_getElem]
          exact hu
    · exact grown _ cap rfl (by omega)

/-- clear of the first n > 0 elements of one size. -/
theorem run_clear_sized {P : Program} (w : World) (t e ty : TypeId) (z : Value) (ht : P.underlying t = some (.slice e)) (hv : ∀ w, (zeroValue e).run P w = .ok z w) (b o n c : Nat) (hn : 0 < n) (h1 : ∀ u ∈ (Builtin.zeroCells z.cells n).toList, u.oneCell' = true)
    (hc : ∀ j, j < (Builtin.zeroCells z.cells n).toList.length → (w.cell? ⟨b, o + j, none⟩).isSome = true) (hf : ∀ j, j < (Builtin.zeroCells z.cells n).toList.length → w.frozen? ⟨b, o + j, none⟩ = false) :
    (Builtin.clear_ #[t] ty #[.slice (some ⟨b, o, none⟩) n c]).run P w = .ok (.tuple #[]) (w.setCells b o (Builtin.zeroCells z.cells n).toList) := by
  have hst := run_storeCells_cells (P := P) b o (Builtin.zeroCells z.cells n).toList 0 w (by simpa using hc) (by simpa using hf) h1
  simp only [Nat.add_zero] at hst
  obtain ⟨m, rfl⟩ : ∃ m, n = m + 1 := ⟨n - 1, by omega⟩
  simp [Builtin.clear_, run_underlying ht, hv, hst]

/-- Some first cells were written: what is behind them is as1 it was. -/
theorem RowZ.cleared {g off cap k : Nat} (zs : List Value) (hl : xs.length = n * s) (hz : zs.length = k * s) (h2 : n ≤ cap) (h3 : cap ≤ maxLen) (h4 : g < w.heap.size)
    (h5 : ∀ j, j < cap * s → (w.cell? ⟨g, off + j, none⟩).isSome = true ∧ w.frozen? ⟨g, off + j, none⟩ = false) (h6 : ∀ j u, xs[j]? = some u → w.cell? ⟨g, off + j, none⟩ = some u) (hk : k ≤ n) :
    RowZ s (w.setCells g off zs) (.slice (some ⟨g, off + k * s, none⟩) (n - k) (cap - k)) (n - k) (xs.drop (k * s)) := by
  have hcs : k * s + (cap - k) * s = cap * s := by rw [← Nat.add_mul]; congr 1; omega
  refine ⟨by rw [List.length_drop, hl, Nat.sub_mul], .inr ⟨g, off + k * s, cap - k, rfl, by omega, by omega, by rw [(setCells_at g _ off w).2.2.2.1]; exact h4, fun j hj => ?_, fun j u hu => ?_⟩⟩
  · rw [World.frozen?_setCells, World.cell?_setCells_out g _ off w _ (by intro _ _; simp; omega), Nat.add_assoc]
    exact h5 (k * s + j) (by omega)
  · rw [World.cell?_setCells_out g _ off w _ (by intro _ _; simp; omega), Nat.add_assoc]
    rw [List.getElem?_drop] at hu
    exact h6 _ u hu
theorem RowZ.empty {g : Nat} (s o : Nat) (hg : g < w.heap.size) : RowZ s w (.slice (some ⟨g, o, none⟩) 0 0) 0 [] :=
  ⟨by simp, .inr ⟨g, o, 0, rfl, by omega, by simp [maxLen], hg, fun j hj => absurd hj (by omega), fun j u hu => by simp at hu⟩⟩
end
end Go.Proofs.YtpolkioaagahhaaDoor

/- What steps did, in a row; Run's boxes. -/
namespace Go.Proofs.YtpolkioaagahhaaDoor
open Go.RowKit Go.Lib
set_option linter.unusedVariables false
set_option maxRecDepth 8000

section
variable {s : Nat} {w w' : World} {v : Value} {n : Nat} {xs : List Value}
/-- append(v, x), v a slice of the call's own. -/
theorem Cu.run_push {P : Program} (w : World) (t e ty : TypeId) (i : TypeInfo) (z : Value) (bytes : Nat) (ht : P.underlying t = some (.slice e)) (hi : P.info? e = some i) (hz : i.zero = some z) (hs : i.size = s) (hby : i.bytes = bytes) (hb16 : bytes ≤ 128) (hzs : z.cells.size = s)
    (v : Value) (n : Nat) (l : List Value) (h : RowZ s w v n l) (h1 : ∀ u ∈ l, u.oneCell' = true) (xs : Value) (x : List Value) (hx : Src P s t xs 1 x w) (hn : n ≤ 1000000) :
    ∃ v' w', (Builtin.append_ #[t, t] ty #[v, xs]).run P w = .ok v' w' ∧ RowZ s w' v' (n + 1) (l ++ x) ∧ w.grownBy w' v.ownBlock ∧ (v'.ownBlock = v.ownBlock ∨ v'.ownBlock = some w.heap.size) := by
  have hxl : x.length = s := by have := hx.newsLen; omega
  have hlx : (l ++ x).length = (n + 1) * s := by rw [List.length_append, h.1, hxl, Nat.add_mul, Nat.one_mul]
  have hbm : (n + 1) * bytes ≤ 140737488355328 := by
    have : (n + 1) * bytes ≤ 1000001 * 128 := Nat.mul_le_mul (by omega) hb16
    omega
  have hsrc : Src P i.size t xs 1 x w := by rw [hs]; exact hx
  have grown : ∀ (base : Option Addr) (cap : Nat), v = .slice base n cap → cap < n + 1 → ∃ v' w', (Builtin.append_ #[t, t] ty #[v, xs]).run P w = .ok v' w' ∧ RowZ s w' v' (n + 1) (l ++ x) ∧ w.grownBy w' v.ownBlock ∧ (v'.ownBlock = v.ownBlock ∨ v'.ownBlock = some w.heap.size) := by
    intro base cap hv hcap
    have hold := ((h.drewN 1).src (P := P) t e ht h1).cells
    have hm : n + 1 ≤ maxLen := by unfold maxLen; omega
    have hge := grownCap_ge w (n + 1) cap e
    have hcm := grownCap_le_maxLen w (n + 1) cap e hm
    rw [hv] at hold
    have hr := run_append_grow_src (P := P) w t t ty e i z ht hi hz base n cap l (by rw [hs]; exact hold) xs 1 x hsrc hcap (by omega) (by rw [hby]; exact growslice_fits hcap hbm)
    rw [hv]
    refine ⟨_, _, hr, ?_, ⟨rfl, rfl, rfl, by simp, fun k hk _ => Below.heap_alloc w.drew _ k hk⟩, .inr rfl⟩
    refine RowZ.new w.drew _ e _ hlx ?_ hge hcm (fun j u hu => ?_)
    · simp only [Array.size_append, List.size_toArray, size_zeroCells, hzs, hlx]
      rw [← Nat.add_mul]
      congr 1
      omega
    · have hj := (List.getElem?_eq_some_iff.1 hu).1
      rw [Array.getElem?_append_left (by simpa using hj)]
      simpa using hu
  rcases h with ⟨hl, ⟨rfl, rfl⟩ | ⟨g, off, cap, rfl, h2, h3, h4, h5, h6⟩⟩
  · exact grown none 0 rfl (by omega)
  · by_cases hroom : n + 1 ≤ cap
    · have hcs : n * s + s ≤ cap * s := by
        have := Nat.mul_le_mul_right s hroom
        rw [Nat.add_mul, Nat.one_mul] at this
        exact this
      have hr := run_append_room_src (P := P) w t t ty e i ht hi g off n cap xs 1 x hsrc hroom (by
        intro j hj
        rw [hs, Nat.add_assoc]
        exact (h5 (n * s + j) (by omega)).1) (by
        intro j hj
        rw [hs, Nat.add_assoc]
        exact (h5 (n * s + j) (by omega)).2)
      rw [hs] at hr
      have hsome : ∀ k, k < x.length → (w.cell? ⟨g, off + n * s + k, none⟩).isSome = true := fun k hk => by
        rw [Nat.add_assoc]
        exact (h5 (n * s + k) (by omega)).1
      refine ⟨_, _, hr, ⟨hlx, .inr ⟨g, off, cap, rfl, hroom, h3, ?_, ?_, ?_⟩⟩, only_cells _ _ _ _, .inl rfl⟩
      · rw [(setCells_at g x (off + n * s) w).2.2.2.1]
        exact h4
      · intro j hj
        rw [World.frozen?_setCells]
        refine ⟨?_, (h5 j hj).2⟩
        by_cases e1 : n * s ≤ j ∧ j < n * s + s
        · have := World.cell?_setCells_in g x (off + n * s) w hsome (j - n * s) (by omega)
          rw [show off + n * s + (j - n * s) = off + j by omega] at this
          rw [this]
          rfl
        · rw [World.cell?_setCells_out g x (off + n * s) w _ (by intro _ _; simp; omega)]
          exact (h5 j hj).1
      · intro j u hu
        by_cases e1 : j < n * s
        · rw [List.getElem?_append_left (by omega)] at hu
          rw [World.cell?_setCells_out g x (off + n * s) w _ (by intro _ _; simp; omega)]
          exact h6 j u hu
        · have hj := (List.getElem?_eq_some_iff.1 hu).1
          rw [List.length_append, hl] at hj
          rw [List.getElem?_append_right (by omega), hl] at hu
          have := World.cell?_setCells_in g x (off + n * s) w hsome (j - n * s) (by omega)
          rw [show off + n * s + (j - n * s) = off + j by omega] at this
          rw [this, ← List.getElem?_eq_getElem]
          exact hu
    · exact grown _ cap rfl (by omega)
end
theorem Cu.out_info : (Tryd.prog.info? 37).map (fun i => (i.zero, i.size, i.bytes)) = some (some (.agg #[.int .i64 0, .int .i64 0, .int .i64 0, .int .i64 0]), 4, 32) := by kernel_rfl
theorem Cu.parts {P : Program} {e : TypeId} {z : Value} {s b : Nat} (h : (P.info? e).map (fun i => (i.zero, i.size, i.bytes)) = some (some z, s, b)) : ∃ i, P.info? e = some i ∧ i.zero = some z ∧ i.size = s ∧ i.bytes = b := by
  cases hq : P.info? e with
  | none => rw [hq] at h; cases h
  | some i =>
    rw [hq] at h
    simp at h
    exact ⟨i, rfl, h.1, h.2.1, h.2.2⟩
/-- What a step did, as1 cells; what the first steps did. -/
def Cu.oC (a : Cu.Af) : List Value := [.int .i64 a.o1, .int .i64 a.o2, .int .i64 a.o3, .int .i64 a.o4]
def Cu.outs (f : Nat → Cu.Af) (j : Nat) : List Value := (List.range j).flatMap fun i => Cu.oC (f (i + 1))
theorem Cu.outs_snoc (f : Nat → Cu.Af) (j : Nat) : Cu.outs f (j + 1) = Cu.outs f j ++ Cu.oC (f (j + 1)) := by
  unfold Cu.outs
  rw [List.range_succ, List.flatMap_append]
  simp
theorem Cu.outs_one (f : Nat → Cu.Af) (j : Nat) : ∀ u ∈ Cu.outs f j, u.oneCell' = true := by
  intro u hu
  simp only [Cu.outs, Cu.oC, List.mem_flatMap] at hu
  obtain ⟨i, _, h⟩ := hu
  simp at h
  rcases h with rfl | rfl | rfl | rfl <;> rfl
theorem Cu.out_push {W : World} {A : Option Addr} {c j : Nat} (f : Nat → Cu.Af) (h : RowZ 4 W (.slice A j c) j (Cu.outs f j)) (hj : j ≤ 100000) :
    ∃ A' c' W', (Builtin.append_ #[52, 52] 52 #[.slice A j c, .slice (some ⟨W.heap.size, 0, none⟩) 1 1]).run Tryd.prog (W.alloc (.cells #[.int .i64 (f (j + 1)).o1, .int .i64 (f (j + 1)).o2, .int .i64 (f (j + 1)).o3, .int .i64 (f (j + 1)).o4] 37)) = .ok (.slice A' (j + 1) c') W' ∧ RowZ 4 W' (.slice A' (j + 1) c') (j + 1) (Cu.outs f (j + 1)) ∧ (W.alloc (.cells #[.int .i64 (f (j + 1)).o1, .int .i64 (f (j + 1)).o2, .int .i64 (f (j + 1)).o3, .int .i64 (f (j + 1)).o4] 37)).grownBy W' (Value.slice A j c).ownBlock ∧ ((Value.slice A' (j + 1) c').ownBlock = (Value.slice A j c).ownBlock ∨ (Value.slice A' (j + 1) c').ownBlock = some (W.heap.size + 1)) := by
  obtain ⟨i0, hi0, hz0, hz1, hz2⟩ := Cu.parts Cu.out_info
  have hb := Blk.new W 37 #[.int .i64 (f (j + 1)).o1, .int .i64 (f (j + 1)).o2, .int .i64 (f (j + 1)).o3, .int .i64 (f (j + 1)).o4]
  have hr := h.only (row := none) (only_alloc (only_refl W none) (.cells #[.int .i64 (f (j + 1)).o1, .int .i64 (f (j + 1)).o2, .int .i64 (f (j + 1)).o3, .int .i64 (f (j + 1)).o4] 37)) (by cases hq : (Value.slice A j c).ownBlock <;> simp)
  have hs : (W.alloc (.cells #[.int .i64 (f (j + 1)).o1, .int .i64 (f (j + 1)).o2, .int .i64 (f (j + 1)).o3, .int .i64 (f (j + 1)).o4] 37)).heap.size = W.heap.size + 1 := by simp
  generalize W.alloc (.cells #[.int .i64 (f (j + 1)).o1, .int .i64 (f (j + 1)).o2, .int .i64 (f (j + 1)).o3, .int .i64 (f (j + 1)).o4] 37) = W1 at *
  have hsrc : Src Tryd.prog 4 52 (.slice (some ⟨W.heap.size, 0, none⟩) 1 1) 1 (Cu.oC (f (j + 1))) W1 := Src.ofSlice _ Tryd.underlying52 _ _ _ _ rfl (fun k u hu => by
    have ha : (⟨W.heap.size, 0, none⟩ : Addr).add k = ⟨W.heap.size, k, none⟩ := by unfold Addr.add; split <;> simp_all
    rw [ha, hb.cell k]
    simpa [Cu.oC] using hu) (by
      intro u hu
      simp [Cu.oC] at hu
      rcases hu with rfl | rfl | rfl | rfl <;> rfl)
  obtain ⟨v', W', hk, hr3, hg', ho⟩ := Cu.run_push (P := Tryd.prog) W1 52 37 52 i0 _ 32 Tryd.underlying52 hi0 hz0 hz1 hz2 (by omega) rfl _ _ _ hr (Cu.outs_one f j) _ _ hsrc (by omega)
  obtain ⟨A', c', rfl⟩ := hr3.form
  rw [← Cu.outs_snoc] at hr3
  exact ⟨A', c', W', hk, hr3, hg', by rw [← hs]; exact ho⟩
/-- The steps one after another. -/
def Cu.stN (V : List UInt8) (pc : Int) (r : Nat → Int) (md : Int) : Nat → Cu.Af
  | 0 => ⟨V, pc, r, md, 0, 0, 0, 0⟩
  | j + 1 => Cu.step (Cu.stN V pc r md j).v (Cu.stN V pc r md j).pc (Cu.stN V pc r md j).r (Cu.stN V pc r md j).md
theorem Cu.stN_len (V : List UInt8) (pc : Int) (r : Nat → Int) (md : Int) (j : Nat) : (Cu.stN V pc r md j).v.length = V.length := by
  induction j with
  | zero => rfl
  | succ j ih => exact (Cu.step_len _ _ _ _).trans ih
theorem Cu.stN_pc (V : List UInt8) (pc : Int) (r : Nat → Int) (md : Int) (hV : V.length ≤ 16384) (hpc : pc ≤ 9223372036854775807) (j : Nat) : (Cu.stN V pc r md j).pc ≤ 9223372036854775807 := by
  induction j with
  | zero => exact hpc
  | succ j ih => exact Cu.step_pc _ _ _ _ (by rw [Cu.stN_len]; exact hV) ih
theorem Cu.only_new {w W W' : World} {g i : Nat} (h : w.grownBy W (some g)) (k : W.grownBy W' (some i)) (hi : w.heap.size ≤ i) : w.grownBy W' (some g) :=
  ⟨k.os.trans h.os, k.tape.trans h.tape, k.output.trans h.output, Nat.le_trans h.size k.size, fun b hb hn => (k.block b (Nat.lt_of_lt_of_le hb h.size) (fun e => by injection e with e; omega)).trans (h.block b hb hn)⟩
/-- The boxes of Run. -/
structure Cu.Ri (w W : World) (m B g : Nat) (p q : List UInt8) (vl : Nat) (a : Cu.Af) (v : Value) (j : Nat) (L : List Value) : Prop where
  vb : Blk W (w.heap.size) 28 #[.pointer (some ⟨m, 0, none⟩), .int .i64 p.length, .int .i64 vl]
  sb : Blk W (w.heap.size + 1) 24 (Cu.stC a.pc a.r a.md)
  rs : Blk W (w.heap.size + 1 + 1) 24 #[.int .i64 0, .int .i64 0, .int .i64 0, .int .i64 0, .int .i64 0, .int .i64 0, .int .i64 0, .int .i64 0, .int .i64 0, .int .i64 0]
  mem : MemG W B m g (p ++ a.v ++ q)
  row : RowZ 4 W v j L
  own : ∀ k, v.ownBlock = some k → w.heap.size + 3 ≤ k
  grow : w.grownBy W (some g)
  lt : m < w.heap.size ∧ g < w.heap.size
section
variable {w W W' : World} {m B g vl j : Nat} {p q : List UInt8} {a : Cu.Af} {v : Value} {L : List Value}
theorem Cu.Ri.step (h : Cu.Ri w W m B g p q vl a v j L) (k : W.grownBy W' none) : Cu.Ri w W' m B g p q vl a v j L :=
  ⟨h.vb.only k (by simp), h.sb.only k (by simp), h.rs.only k (by simp), h.mem.grown k, h.row.only k (by cases hq : v.ownBlock <;> simp), h.own, only_trans h.grow (only_any k _), h.lt⟩
/-- A step was done, and its state and what it did are stored. -/
theorem Cu.Ri.next {W2 : World} {b : Nat} {O : Array Value} {a2 : Cu.Af} (h : Cu.Ri w W m B g p q vl a v j L) (hb : Blk W b 37 O) (hO : O.size = 4) (hbn : w.heap.size + 3 ≤ b) (hbv : v.ownBlock ≠ some b) (k : W.grownBy W2 (some g)) (hm : MemG W2 B m g (p ++ a2.v ++ q)) :
    Cu.Ri w (((((((((((((((W2.setCell ⟨w.heap.size + 1, 0, none⟩ (.int .i64 a2.pc)).setCell ⟨w.heap.size + 1, 1, none⟩ (.int .i64 (a2.r 0))).setCell ⟨w.heap.size + 1, 2, none⟩ (.int .i64 (a2.r 1))).setCell ⟨w.heap.size + 1, 3, none⟩ (.int .i64 (a2.r 2))).setCell ⟨w.heap.size + 1, 4, none⟩ (.int .i64 (a2.r 3))).setCell ⟨w.heap.size + 1, 5, none⟩ (.int .i64 (a2.r 4))).setCell ⟨w.heap.size + 1, 6, none⟩ (.int .i64 (a2.r 5))).setCell ⟨w.heap.size + 1, 7, none⟩ (.int .i64 (a2.r 6))).setCell ⟨w.heap.size + 1, 8, none⟩ (.int .i64 (a2.r 7))).setCell ⟨w.heap.size + 1, 9, none⟩ (.int .i64 a2.md)).setCell ⟨b, 0, none⟩ (.int .i64 a2.o1)).setCell ⟨b, 1, none⟩ (.int .i64 a2.o2)).setCell ⟨b, 2, none⟩ (.int .i64 a2.o3)).setCell ⟨b, 3, none⟩ (.int .i64 a2.o4))) m B g p q vl a2 v j L ∧ Blk (((((((((((((((W2.setCell ⟨w.heap.size + 1, 0, none⟩ (.int .i64 a2.pc)).setCell ⟨w.heap.size + 1, 1, none⟩ (.int .i64 (a2.r 0))).setCell ⟨w.heap.size + 1, 2, none⟩ (.int .i64 (a2.r 1))).setCell ⟨w.heap.size + 1, 3, none⟩ (.int .i64 (a2.r 2))).setCell ⟨w.heap.size + 1, 4, none⟩ (.int .i64 (a2.r 3))).setCell ⟨w.heap.size + 1, 5, none⟩ (.int .i64 (a2.r 4))).setCell ⟨w.heap.size + 1, 6, none⟩ (.int .i64 (a2.r 5))).setCell ⟨w.heap.size + 1, 7, none⟩ (.int .i64 (a2.r 6))).setCell ⟨w.heap.size + 1, 8, none⟩ (.int .i64 (a2.r 7))).setCell ⟨w.heap.size + 1, 9, none⟩ (.int .i64 a2.md)).setCell ⟨b, 0, none⟩ (.int .i64 a2.o1)).setCell ⟨b, 1, none⟩ (.int .i64 a2.o2)).setCell ⟨b, 2, none⟩ (.int .i64 a2.o3)).setCell ⟨b, 3, none⟩ (.int .i64 a2.o4))) b 37 #[.int .i64 a2.o1, .int .i64 a2.o2, .int .i64 a2.o3, .int .i64 a2.o4] := by
  have ng : ∀ i, w.heap.size ≤ i → some i ≠ some g := fun i hi e => by injection e with e; have := h.lt.2; omega
  have v2 := h.vb.only k (ng _ (Nat.le_refl _))
  have s2 := h.sb.only k (ng _ (by omega))
  have r2 := h.rs.only k (ng _ (by omega))
  have b2 := hb.only k (ng _ (by omega))
  have w2 := h.row.only k (.inr (fun e => by have := h.own g e; have := h.lt.2; omega))
  have g2 := only_trans h.grow k
  have gs : W2.grownBy ((((((((((W2.setCell ⟨w.heap.size + 1, 0, none⟩ (.int .i64 a2.pc)).setCell ⟨w.heap.size + 1, 1, none⟩ (.int .i64 (a2.r 0))).setCell ⟨w.heap.size + 1, 2, none⟩ (.int .i64 (a2.r 1))).setCell ⟨w.heap.size + 1, 3, none⟩ (.int .i64 (a2.r 2))).setCell ⟨w.heap.size + 1, 4, none⟩ (.int .i64 (a2.r 3))).setCell ⟨w.heap.size + 1, 5, none⟩ (.int .i64 (a2.r 4))).setCell ⟨w.heap.size + 1, 6, none⟩ (.int .i64 (a2.r 5))).setCell ⟨w.heap.size + 1, 7, none⟩ (.int .i64 (a2.r 6))).setCell ⟨w.heap.size + 1, 8, none⟩ (.int .i64 (a2.r 7))).setCell ⟨w.heap.size + 1, 9, none⟩ (.int .i64 a2.md)) (some (w.heap.size + 1)) := (only_put (only_put (only_put (only_put (only_put (only_put (only_put (only_put (only_put (only_put (only_refl _ _) 0 (.int .i64 a2.pc)) 1 (.int .i64 (a2.r 0))) 2 (.int .i64 (a2.r 1))) 3 (.int .i64 (a2.r 2))) 4 (.int .i64 (a2.r 3))) 5 (.int .i64 (a2.r 4))) 6 (.int .i64 (a2.r 5))) 7 (.int .i64 (a2.r 6))) 8 (.int .i64 (a2.r 7))) 9 (.int .i64 a2.md))
  have s3 : Blk ((((((((((W2.setCell ⟨w.heap.size + 1, 0, none⟩ (.int .i64 a2.pc)).setCell ⟨w.heap.size + 1, 1, none⟩ (.int .i64 (a2.r 0))).setCell ⟨w.heap.size + 1, 2, none⟩ (.int .i64 (a2.r 1))).setCell ⟨w.heap.size + 1, 3, none⟩ (.int .i64 (a2.r 2))).setCell ⟨w.heap.size + 1, 4, none⟩ (.int .i64 (a2.r 3))).setCell ⟨w.heap.size + 1, 5, none⟩ (.int .i64 (a2.r 4))).setCell ⟨w.heap.size + 1, 6, none⟩ (.int .i64 (a2.r 5))).setCell ⟨w.heap.size + 1, 7, none⟩ (.int .i64 (a2.r 6))).setCell ⟨w.heap.size + 1, 8, none⟩ (.int .i64 (a2.r 7))).setCell ⟨w.heap.size + 1, 9, none⟩ (.int .i64 a2.md)) (w.heap.size + 1) 24 (Cu.stC a2.pc a2.r a2.md) := by
    have := ((((((((((s2.put 0 (.int .i64 a2.pc)).put 1 (.int .i64 (a2.r 0))).put 2 (.int .i64 (a2.r 1))).put 3 (.int .i64 (a2.r 2))).put 4 (.int .i64 (a2.r 3))).put 5 (.int .i64 (a2.r 4))).put 6 (.int .i64 (a2.r 5))).put 7 (.int .i64 (a2.r 6))).put 8 (.int .i64 (a2.r 7))).put 9 (.int .i64 a2.md))
    simpa [Cu.stC] using this
  generalize ((((((((((W2.setCell ⟨w.heap.size + 1, 0, none⟩ (.int .i64 a2.pc)).setCell ⟨w.heap.size + 1, 1, none⟩ (.int .i64 (a2.r 0))).setCell ⟨w.heap.size + 1, 2, none⟩ (.int .i64 (a2.r 1))).setCell ⟨w.heap.size + 1, 3, none⟩ (.int .i64 (a2.r 2))).setCell ⟨w.heap.size + 1, 4, none⟩ (.int .i64 (a2.r 3))).setCell ⟨w.heap.size + 1, 5, none⟩ (.int .i64 (a2.r 4))).setCell ⟨w.heap.size + 1, 6, none⟩ (.int .i64 (a2.r 5))).setCell ⟨w.heap.size + 1, 7, none⟩ (.int .i64 (a2.r 6))).setCell ⟨w.heap.size + 1, 8, none⟩ (.int .i64 (a2.r 7))).setCell ⟨w.heap.size + 1, 9, none⟩ (.int .i64 a2.md)) = W3 at gs s3 ⊢
  have ns : ∀ i, i ≠ w.heap.size + 1 → some i ≠ some (w.heap.size + 1) := fun i hi e => hi (by injection e)
  have v3 := v2.only gs (ns _ (by omega))
  have r3 := r2.only gs (ns _ (by omega))
  have b3 := b2.only gs (ns _ (by omega))
  have w3 := w2.only gs (.inr (fun e => by have := h.own _ e; omega))
  have m3 := hm.far gs (by have := h.lt; omega) (by have := h.lt; omega)
  have g3 : w.grownBy W3 (some g) := Cu.only_new g2 gs (by omega)
  have gb : W3.grownBy ((((W3.setCell ⟨b, 0, none⟩ (.int .i64 a2.o1)).setCell ⟨b, 1, none⟩ (.int .i64 a2.o2)).setCell ⟨b, 2, none⟩ (.int .i64 a2.o3)).setCell ⟨b, 3, none⟩ (.int .i64 a2.o4)) (some b) := (only_put (only_put (only_put (only_put (only_refl _ _) 0 (.int .i64 a2.o1)) 1 (.int .i64 a2.o2)) 2 (.int .i64 a2.o3)) 3 (.int .i64 a2.o4))
  have b4 : Blk ((((W3.setCell ⟨b, 0, none⟩ (.int .i64 a2.o1)).setCell ⟨b, 1, none⟩ (.int .i64 a2.o2)).setCell ⟨b, 2, none⟩ (.int .i64 a2.o3)).setCell ⟨b, 3, none⟩ (.int .i64 a2.o4)) b 37 #[.int .i64 a2.o1, .int .i64 a2.o2, .int .i64 a2.o3, .int .i64 a2.o4] := by
    have := ((((b3.put 0 (.int .i64 a2.o1)).put 1 (.int .i64 a2.o2)).put 2 (.int .i64 a2.o3)).put 3 (.int .i64 a2.o4))
    obtain ⟨O⟩ := O
    match O, hO with
    | [x0, x1, x2, x3], _ => simpa using this
  generalize ((((W3.setCell ⟨b, 0, none⟩ (.int .i64 a2.o1)).setCell ⟨b, 1, none⟩ (.int .i64 a2.o2)).setCell ⟨b, 2, none⟩ (.int .i64 a2.o3)).setCell ⟨b, 3, none⟩ (.int .i64 a2.o4)) = W4 at gb b4 ⊢
  have nb : ∀ i, i ≠ b → some i ≠ some b := fun i hi e => hi (by injection e)
  exact ⟨⟨v3.only gb (nb _ (by omega)), s3.only gb (nb _ (by omega)), r3.only gb (nb _ (by omega)), m3.far gb (by have := h.lt; omega) (by have := h.lt; omega), w3.only gb (.inr hbv), h.own, Cu.only_new g3 gb (by omega), h.lt⟩, b4⟩
/-- One more in the row. -/
theorem Cu.Ri.more {v' : Value} {L' : List Value} (h : Cu.Ri w W m B g p q vl a v j L) (k : W.grownBy W' v.ownBlock) (hr : RowZ 4 W' v' (j + 1) L') (ho : v'.ownBlock = v.ownBlock ∨ ∃ k, v'.ownBlock = some k ∧ w.heap.size + 3 ≤ k) : Cu.Ri w W' m B g p q vl a v' (j + 1) L' := by
  have nv : ∀ i, i < w.heap.size + 3 → some i ≠ v.ownBlock := fun i hi e => by have := h.own i e.symm; omega
  refine ⟨h.vb.only k (nv _ (by omega)), h.sb.only k (nv _ (by omega)), h.rs.only k (nv _ (by omega)), ?_, hr, fun i hi => ?_, ?_, h.lt⟩
  · exact ⟨h.mem.1, h.mem.2.1, h.mem.2.2.1.only k (nv _ (by have := h.lt; omega)), h.mem.2.2.2.only k (nv _ (by have := h.lt; omega))⟩
  · rcases ho with e | ⟨i', e, hi'⟩
    · exact h.own i (e ▸ hi)
    · rw [e] at hi; injection hi with hi; omega
  · cases hq : v.ownBlock with
    | none => rw [hq] at k; exact only_trans h.grow (only_any k _)
    | some i => rw [hq] at k; exact Cu.only_new h.grow k (by have := h.own i hq; omega)
end
end Go.Proofs.YtpolkioaagahhaaDoor

/- Package cpu: Run, by contract. -/
namespace Go.Proofs.YtpolkioaagahhaaDoor
open Go.RowKit Go.Lib
set_option linter.unusedVariables false
set_option maxRecDepth 8000

section
variable {w W W' : World} {m B g vl j : Nat} {p q : List UInt8} {a : Cu.Af} {v : Value} {L : List Value}
theorem Cu.Ri.cells (h : Cu.Ri w W m B g p q vl a v j L) : (W.cell? ⟨w.heap.size, 0, none⟩ = some (.pointer (some ⟨m, 0, none⟩)) ∧ W.cell? ⟨w.heap.size, 1, none⟩ = some (.int .i64 p.length) ∧ W.cell? ⟨w.heap.size, 2, none⟩ = some (.int .i64 vl)) ∧ (W.cell? ⟨w.heap.size + 1, 0, none⟩ = some (.int .i64 a.pc) ∧ W.cell? ⟨w.heap.size + 1, 1, none⟩ = some (.int .i64 (a.r 0)) ∧ W.cell? ⟨w.heap.size + 1, 2, none⟩ = some (.int .i64 (a.r 1)) ∧ W.cell? ⟨w.heap.size + 1, 3, none⟩ = some (.int .i64 (a.r 2)) ∧ W.cell? ⟨w.heap.size + 1, 4, none⟩ = some (.int .i64 (a.r 3)) ∧ W.cell? ⟨w.heap.size + 1, 5, none⟩ = some (.int .i64 (a.r 4)) ∧ W.cell? ⟨w.heap.size + 1, 6, none⟩ = some (.int .i64 (a.r 5)) ∧ W.cell? ⟨w.heap.size + 1, 7, none⟩ = some (.int .i64 (a.r 6)) ∧ W.cell? ⟨w.heap.size + 1, 8, none⟩ = some (.int .i64 (a.r 7)) ∧ W.cell? ⟨w.heap.size + 1, 9, none⟩ = some (.int .i64 a.md)) ∧ (W.cell? ⟨w.heap.size + 1 + 1, 0, none⟩ = some (.int .i64 0) ∧ W.cell? ⟨w.heap.size + 1 + 1, 1, none⟩ = some (.int .i64 0) ∧ W.cell? ⟨w.heap.size + 1 + 1, 2, none⟩ = some (.int .i64 0) ∧ W.cell? ⟨w.heap.size + 1 + 1, 3, none⟩ = some (.int .i64 0) ∧ W.cell? ⟨w.heap.size + 1 + 1, 4, none⟩ = some (.int .i64 0) ∧ W.cell? ⟨w.heap.size + 1 + 1, 5, none⟩ = some (.int .i64 0) ∧ W.cell? ⟨w.heap.size + 1 + 1, 6, none⟩ = some (.int .i64 0) ∧ W.cell? ⟨w.heap.size + 1 + 1, 7, none⟩ = some (.int .i64 0) ∧ W.cell? ⟨w.heap.size + 1 + 1, 8, none⟩ = some (.int .i64 0) ∧ W.cell? ⟨w.heap.size + 1 + 1, 9, none⟩ = some (.int .i64 0)) ∧ (W.frozen? ⟨w.heap.size + 1 + 1, 0, none⟩ = false ∧ W.frozen? ⟨w.heap.size + 1 + 1, 1, none⟩ = false ∧ W.frozen? ⟨w.heap.size + 1 + 1, 2, none⟩ = false ∧ W.frozen? ⟨w.heap.size + 1 + 1, 3, none⟩ = false ∧ W.frozen? ⟨w.heap.size + 1 + 1, 4, none⟩ = false ∧ W.frozen? ⟨w.heap.size + 1 + 1, 5, none⟩ = false ∧ W.frozen? ⟨w.heap.size + 1 + 1, 6, none⟩ = false ∧ W.frozen? ⟨w.heap.size + 1 + 1, 7, none⟩ = false ∧ W.frozen? ⟨w.heap.size + 1 + 1, 8, none⟩ = false ∧ W.frozen? ⟨w.heap.size + 1 + 1, 9, none⟩ = false) := by
  have h0 := h.vb
  have h1 := h.sb
  have h2 := h.rs
  exact ⟨⟨h0.cell 0, h0.cell 1, h0.cell 2⟩, ⟨h1.cell 0, h1.cell 1, h1.cell 2, h1.cell 3, h1.cell 4, h1.cell 5, h1.cell 6, h1.cell 7, h1.cell 8, h1.cell 9⟩, ⟨h2.cell 0, h2.cell 1, h2.cell 2, h2.cell 3, h2.cell 4, h2.cell 5, h2.cell 6, h2.cell 7, h2.cell 8, h2.cell 9⟩, ⟨h2.free 0, h2.free 1, h2.free 2, h2.free 3, h2.free 4, h2.free 5, h2.free 6, h2.free 7, h2.free 8, h2.free 9⟩⟩
/-- Behind a step: what the stores ask. -/
theorem Cu.Ri.aft {W2 : World} {b : Nat} (h : Cu.Ri w W m B g p q vl a v j L) (hb : Blk W b 37 #[.int .i64 0, .int .i64 0, .int .i64 0, .int .i64 0]) (hbn : w.heap.size + 3 ≤ b) (k : W.grownBy W2 (some g)) : (W2.cell? ⟨w.heap.size + 1, 0, none⟩ = some (.int .i64 a.pc) ∧ W2.cell? ⟨w.heap.size + 1, 1, none⟩ = some (.int .i64 (a.r 0)) ∧ W2.cell? ⟨w.heap.size + 1, 2, none⟩ = some (.int .i64 (a.r 1)) ∧ W2.cell? ⟨w.heap.size + 1, 3, none⟩ = some (.int .i64 (a.r 2)) ∧ W2.cell? ⟨w.heap.size + 1, 4, none⟩ = some (.int .i64 (a.r 3)) ∧ W2.cell? ⟨w.heap.size + 1, 5, none⟩ = some (.int .i64 (a.r 4)) ∧ W2.cell? ⟨w.heap.size + 1, 6, none⟩ = some (.int .i64 (a.r 5)) ∧ W2.cell? ⟨w.heap.size + 1, 7, none⟩ = some (.int .i64 (a.r 6)) ∧ W2.cell? ⟨w.heap.size + 1, 8, none⟩ = some (.int .i64 (a.r 7)) ∧ W2.cell? ⟨w.heap.size + 1, 9, none⟩ = some (.int .i64 a.md)) ∧ (W2.frozen? ⟨w.heap.size + 1, 0, none⟩ = false ∧ W2.frozen? ⟨w.heap.size + 1, 1, none⟩ = false ∧ W2.frozen? ⟨w.heap.size + 1, 2, none⟩ = false ∧ W2.frozen? ⟨w.heap.size + 1, 3, none⟩ = false ∧ W2.frozen? ⟨w.heap.size + 1, 4, none⟩ = false ∧ W2.frozen? ⟨w.heap.size + 1, 5, none⟩ = false ∧ W2.frozen? ⟨w.heap.size + 1, 6, none⟩ = false ∧ W2.frozen? ⟨w.heap.size + 1, 7, none⟩ = false ∧ W2.frozen? ⟨w.heap.size + 1, 8, none⟩ = false ∧ W2.frozen? ⟨w.heap.size + 1, 9, none⟩ = false) ∧ (W2.cell? ⟨b, 0, none⟩ = some (.int .i64 0) ∧ W2.cell? ⟨b, 1, none⟩ = some (.int .i64 0) ∧ W2.cell? ⟨b, 2, none⟩ = some (.int .i64 0) ∧ W2.cell? ⟨b, 3, none⟩ = some (.int .i64 0)) ∧ (W2.frozen? ⟨b, 0, none⟩ = false ∧ W2.frozen? ⟨b, 1, none⟩ = false ∧ W2.frozen? ⟨b, 2, none⟩ = false ∧ W2.frozen? ⟨b, 3, none⟩ = false) := by
  have ng : ∀ i, w.heap.size ≤ i → some i ≠ some g := fun i hi e => by injection e with e; have := h.lt.2; omega
  have s2 := h.sb.only k (ng _ (by omega))
  have o2 := hb.only k (ng _ (by omega))
  exact ⟨⟨s2.cell 0, s2.cell 1, s2.cell 2, s2.cell 3, s2.cell 4, s2.cell 5, s2.cell 6, s2.cell 7, s2.cell 8, s2.cell 9⟩, ⟨s2.free 0, s2.free 1, s2.free 2, s2.free 3, s2.free 4, s2.free 5, s2.free 6, s2.free 7, s2.free 8, s2.free 9⟩, ⟨o2.cell 0, o2.cell 1, o2.cell 2, o2.cell 3⟩, ⟨o2.free 0, o2.free 1, o2.free 2, o2.free 3⟩⟩
theorem Cu.Ri.fin (h : Cu.Ri w W m B g p q vl a v j L) (p0 p1 p2 p3 p4 p5 p6 p7 p8 p9 : Value) : ∀ W', W' = ((((((((((W.setCell ⟨w.heap.size + 1 + 1, 0, none⟩ p0).setCell ⟨w.heap.size + 1 + 1, 1, none⟩ p1).setCell ⟨w.heap.size + 1 + 1, 2, none⟩ p2).setCell ⟨w.heap.size + 1 + 1, 3, none⟩ p3).setCell ⟨w.heap.size + 1 + 1, 4, none⟩ p4).setCell ⟨w.heap.size + 1 + 1, 5, none⟩ p5).setCell ⟨w.heap.size + 1 + 1, 6, none⟩ p6).setCell ⟨w.heap.size + 1 + 1, 7, none⟩ p7).setCell ⟨w.heap.size + 1 + 1, 8, none⟩ p8).setCell ⟨w.heap.size + 1 + 1, 9, none⟩ p9) → (W'.cell? ⟨w.heap.size + 1 + 1, 0, none⟩ = some p0 ∧ W'.cell? ⟨w.heap.size + 1 + 1, 1, none⟩ = some p1 ∧ W'.cell? ⟨w.heap.size + 1 + 1, 2, none⟩ = some p2 ∧ W'.cell? ⟨w.heap.size + 1 + 1, 3, none⟩ = some p3 ∧ W'.cell? ⟨w.heap.size + 1 + 1, 4, none⟩ = some p4 ∧ W'.cell? ⟨w.heap.size + 1 + 1, 5, none⟩ = some p5 ∧ W'.cell? ⟨w.heap.size + 1 + 1, 6, none⟩ = some p6 ∧ W'.cell? ⟨w.heap.size + 1 + 1, 7, none⟩ = some p7 ∧ W'.cell? ⟨w.heap.size + 1 + 1, 8, none⟩ = some p8 ∧ W'.cell? ⟨w.heap.size + 1 + 1, 9, none⟩ = some p9) ∧ RowZ 4 W' v j L ∧ MemG W' B m g (p ++ a.v ++ q) ∧ w.grownBy W' (some g) := by
  rintro W' rfl
  have br := ((((((((((h.rs.put 0 p0).put 1 p1).put 2 p2).put 3 p3).put 4 p4).put 5 p5).put 6 p6).put 7 p7).put 8 p8).put 9 p9)
  have gs : W.grownBy ((((((((((W.setCell ⟨w.heap.size + 1 + 1, 0, none⟩ p0).setCell ⟨w.heap.size + 1 + 1, 1, none⟩ p1).setCell ⟨w.heap.size + 1 + 1, 2, none⟩ p2).setCell ⟨w.heap.size + 1 + 1, 3, none⟩ p3).setCell ⟨w.heap.size + 1 + 1, 4, none⟩ p4).setCell ⟨w.heap.size + 1 + 1, 5, none⟩ p5).setCell ⟨w.heap.size + 1 + 1, 6, none⟩ p6).setCell ⟨w.heap.size + 1 + 1, 7, none⟩ p7).setCell ⟨w.heap.size + 1 + 1, 8, none⟩ p8).setCell ⟨w.heap.size + 1 + 1, 9, none⟩ p9) (some (w.heap.size + 1 + 1)) := (only_put (only_put (only_put (only_put (only_put (only_put (only_put (only_put (only_put (only_put (only_refl _ _) 0 p0) 1 p1) 2 p2) 3 p3) 4 p4) 5 p5) 6 p6) 7 p7) 8 p8) 9 p9)
  simp only [List.setIfInBounds_toArray, List.set_cons_zero, List.set_cons_succ] at br
  generalize ((((((((((W.setCell ⟨w.heap.size + 1 + 1, 0, none⟩ p0).setCell ⟨w.heap.size + 1 + 1, 1, none⟩ p1).setCell ⟨w.heap.size + 1 + 1, 2, none⟩ p2).setCell ⟨w.heap.size + 1 + 1, 3, none⟩ p3).setCell ⟨w.heap.size + 1 + 1, 4, none⟩ p4).setCell ⟨w.heap.size + 1 + 1, 5, none⟩ p5).setCell ⟨w.heap.size + 1 + 1, 6, none⟩ p6).setCell ⟨w.heap.size + 1 + 1, 7, none⟩ p7).setCell ⟨w.heap.size + 1 + 1, 8, none⟩ p8).setCell ⟨w.heap.size + 1 + 1, 9, none⟩ p9) = X at br gs ⊢
  exact ⟨⟨br.cell 0, br.cell 1, br.cell 2, br.cell 3, br.cell 4, br.cell 5, br.cell 6, br.cell 7, br.cell 8, br.cell 9⟩, h.row.only gs (.inr (fun e => by have := h.own _ e; omega)), h.mem.far gs (by have := h.lt; omega) (by have := h.lt; omega), Cu.only_new h.grow gs (by omega)⟩
end
/-- Where Run ends. -/
def Cu.Pre (f : Nat → Cu.Af) (n : Int) (j : Nat) : Prop := (∀ i, i < j → (i : Int) < n ∧ (f i).md = 0) ∧ ∀ i, 0 < i → i < j → (f i).o1 ≠ 2
def Cu.Ends (f : Nat → Cu.Af) (n : Int) (j : Nat) : Prop := Cu.Pre f n j ∧ (n ≤ j ∨ (f j).md ≠ 0 ∨ (0 < j ∧ (f j).o1 = 2))
theorem Cu.Pre.next {f : Nat → Cu.Af} {n : Int} {j : Nat} (h : Cu.Pre f n j) (h1 : ¬ n ≤ j) (h2 : (f j).md = 0) (h3 : 0 < j → (f j).o1 ≠ 2) : Cu.Pre f n (j + 1) := by
  refine ⟨fun i hi => ?_, fun i hi hi2 => ?_⟩
  · by_cases e : i = j
    · subst e; exact ⟨by omega, h2⟩
    · exact h.1 i (by omega)
  · by_cases e : i = j
    · subst e; exact h3 hi
    · exact h.2 i hi (by omega)
def Cu.RunV (w : World) (B m g : Nat) (p q : List UInt8) (f : Nat → Cu.Af) (n : Int) (e : Ending) (w' : World) : Prop :=
  ∃ j v, Cu.Ends f n j ∧ e = .returned (.tuple #[Cu.stV (f j).pc (f j).r (f j).md, v]) ∧ RowZ 4 w' v j (Cu.outs f j) ∧ MemG w' B m g (p ++ (f j).v ++ q) ∧ w.grownBy w' (some g)
set_option maxRecDepth 20000 in
set_option maxHeartbeats 12800000 in
theorem Cu.run_walk (w : World) (B m g vl : Nat) (p q : List UInt8) (f : Nat → Cu.Af) (pc md n : Int) (r : Nat → Int) (hn : n ≤ 100) (hf0 : f 0 = ⟨(f 0).v, pc, r, md, 0, 0, 0, 0⟩) (h : MemG w B m g (p ++ (f 0).v ++ q)) (hs : ∀ j W, MemG W B m g (p ++ (f j).v ++ q) → w.grownBy W (some g) → Calls Tryd.prog 10 #[.agg #[.pointer (some ⟨m, 0, none⟩), .int .i64 p.length, .int .i64 vl], .agg #[.int .i64 (f j).pc, .int .i64 ((f j).r 0), .int .i64 ((f j).r 1), .int .i64 ((f j).r 2), .int .i64 ((f j).r 3), .int .i64 ((f j).r 4), .int .i64 ((f j).r 5), .int .i64 ((f j).r 6), .int .i64 ((f j).r 7), .int .i64 (f j).md]] W fun e w' => e = .returned (.tuple #[.agg #[.int .i64 (f (j + 1)).pc, .int .i64 ((f (j + 1)).r 0), .int .i64 ((f (j + 1)).r 1), .int .i64 ((f (j + 1)).r 2), .int .i64 ((f (j + 1)).r 3), .int .i64 ((f (j + 1)).r 4), .int .i64 ((f (j + 1)).r 5), .int .i64 ((f (j + 1)).r 6), .int .i64 ((f (j + 1)).r 7), .int .i64 (f (j + 1)).md], .agg #[.int .i64 (f (j + 1)).o1, .int .i64 (f (j + 1)).o2, .int .i64 (f (j + 1)).o3, .int .i64 (f (j + 1)).o4]]) ∧ MemG w' B m g (p ++ (f (j + 1)).v ++ q) ∧ W.grownBy w' (some g)) :
    Calls Tryd.prog 16 #[Cu.vw m p.length vl, Cu.stV pc r md, .int .i64 n] w (Cu.RunV w B m g p q f n) := by
  have HS := Lib.hid hs
  have HV := Lib.hid (show ∀ j v w', Cu.Ends f n j → RowZ 4 w' v j (Cu.outs f j) → MemG w' B m g (p ++ (f j).v ++ q) → w.grownBy w' (some g) → Cu.RunV w B m g p q f n (.returned (.tuple #[.agg #[.int .i64 (f j).pc, .int .i64 ((f j).r 0), .int .i64 ((f j).r 1), .int .i64 ((f j).r 2), .int .i64 ((f j).r 3), .int .i64 ((f j).r 4), .int .i64 ((f j).r 5), .int .i64 ((f j).r 6), .int .i64 ((f j).r 7), .int .i64 (f j).md], v])) w' from fun j v w' h1 h2 h3 h4 => ⟨j, v, h1, rfl, h2, h3, h4⟩)
  have hr0 : Cu.stC pc r md = Cu.stC (f 0).pc (f 0).r (f 0).md := by rw [hf0]
  obtain ⟨W1, hW1, g1, hB1⟩ := ibox w 28 #[.pointer (some ⟨m, 0, none⟩), .int .i64 p.length, .int .i64 vl]
  obtain ⟨W2, hW2, g2, hB2⟩ := ibox W1 24 (Cu.stC pc r md)
  obtain ⟨W, hW, g3, hB3⟩ := ibox W2 24 #[.int .i64 0, .int .i64 0, .int .i64 0, .int .i64 0, .int .i64 0, .int .i64 0, .int .i64 0, .int .i64 0, .int .i64 0, .int .i64 0]
  have z1 : W1.heap.size = w.heap.size + 1 := by rw [hW1]; simp
  have z2 : W2.heap.size = w.heap.size + 1 + 1 := by rw [hW2]; simp [z1]
  have HR := Lib.hid (show Cu.Ri w W m B g p q vl (f 0) (.slice none 0 0) 0 (Cu.outs f 0) from
    ⟨hB1.only (only_trans g2 g3) (by simp), by rw [← hr0]; rw [z1] at hB2; exact hB2.only g3 (by simp), by rw [z2] at hB3; exact hB3, h.grown (only_trans g1 (only_trans g2 g3)), RowZ.nil 4 W, fun k hk => by simp [Value.ownBlock] at hk, only_any (only_trans g1 (only_trans g2 g3)) _, h.lt.2, h.lt.1⟩)
  have HPR := Lib.hid (show Cu.Pre f n 0 from ⟨fun i hi => absurd hi (by omega), fun i _ hi => absurd hi (by omega)⟩)
  have hn9 : n ≤ 100 := hn
  clear hs hB1 hB2 hB3 g1 g2 g3 h z1 z2 hr0 hf0
  unfold Cu.vw Cu.stV
  unfold Cu.stC at hW2 ⊢
  go_enter Tryd.func16, Tryd.ntmps16
  go_wp2
  have hWW : W = ((w.alloc (.cells #[.pointer (some ⟨m, 0, none⟩), .int .i64 p.length, .int .i64 vl] 28)).alloc (.cells #[.int .i64 pc, .int .i64 (r 0), .int .i64 (r 1), .int .i64 (r 2), .int .i64 (r 3), .int .i64 (r 4), .int .i64 (r 5), .int .i64 (r 6), .int .i64 (r 7), .int .i64 md] 24)).alloc (.cells #[.int .i64 0, .int .i64 0, .int .i64 0, .int .i64 0, .int .i64 0, .int .i64 0, .int .i64 0, .int .i64 0, .int .i64 0, .int .i64 0] 24) := by rw [hW, hW2, hW1]
  rw [← hWW]
  clear hWW hW hW1 hW2
  refine wp_scope_jumps 0 (fun a' w' => ∃ (j : Nat) (A : Option Addr) (c : Nat) (u5 u9 u10 u11 u12 u13 u14 u15 u16 u17 u18 u19 u20 u21 u22 u23 u24 u25 u26 u27 u28 u29 u30 u31 u32 u33 u34 u35 : Value), a' = { tmps := #[.agg #[.pointer (some ⟨m, 0, none⟩), .int .i64 p.length, .int .i64 vl], .agg #[.int .i64 pc, .int .i64 (r 0), .int .i64 (r 1), .int .i64 (r 2), .int .i64 (r 3), .int .i64 (r 4), .int .i64 (r 5), .int .i64 (r 6), .int .i64 (r 7), .int .i64 md], .int .i64 n, .pointer (some ⟨w.heap.size, 0, none⟩), .pointer (some ⟨w.heap.size + 1, 0, none⟩), u5, .pointer (some ⟨w.heap.size + 1 + 1, 0, none⟩), .slice none 0 0, .slice A j c, u9, u10, u11, u12, u13, u14, u15, u16, u17, u18, u19, u20, u21, u22, u23, u24, u25, u26, u27, u28, u29, u30, u31, u32, u33, u34, u35], defers := [] } ∧ Hid (Cu.Ri w w' m B g p q vl (f j) (.slice A j c) j (Cu.outs f j)) ∧ Hid (Cu.Pre f n j) ∧ Hid (0 < j → (f j).o1 ≠ 2)) (fun a' _ => (100 : Nat) - (match a'.tmps.getD 8 undef with | .slice _ k _ => k | _ => 0)) rfl ?_ ?_
  · go_wp2
    go_step3
    obtain ⟨⟨v0, v1, v2⟩, ⟨s0, s1, s2, s3, s4, s5, s6, s7, s8, s9⟩, ⟨z0, z1, z2, z3, z4, z5, z6, z7, z8, z9⟩, ⟨f0, f1, f2, f3, f4, f5, f6, f7, f8, f9⟩⟩ := HR.out.cells
    by_cases c1 : n ≤ 0
    · have HPJ := Lib.hid (show Cu.Ends f n 0 from ⟨HPR.out, .inl c1⟩)
      go_wp2
      obtain ⟨⟨r0, r1, r2, r3, r4, r5, r6, r7, r8, r9⟩, hz, hmz, hgz⟩ := HR.out.fin (.int .i64 (f 0).pc) (.int .i64 ((f 0).r 0)) (.int .i64 ((f 0).r 1)) (.int .i64 ((f 0).r 2)) (.int .i64 ((f 0).r 3)) (.int .i64 ((f 0).r 4)) (.int .i64 ((f 0).r 5)) (.int .i64 ((f 0).r 6)) (.int .i64 ((f 0).r 7)) (.int .i64 (f 0).md) _ rfl
      simp only [Exit.jump]
      refine bodyPost_ret (v := .tuple #[.agg #[.int .i64 (f 0).pc, .int .i64 ((f 0).r 0), .int .i64 ((f 0).r 1), .int .i64 ((f 0).r 2), .int .i64 ((f 0).r 3), .int .i64 ((f 0).r 4), .int .i64 ((f 0).r 5), .int .i64 ((f 0).r 6), .int .i64 ((f 0).r 7), .int .i64 (f 0).md], .slice none 0 0]) (by simp [results, Tryd.results16, go_sem, r0, r1, r2, r3, r4, r5, r6, r7, r8, r9]) rfl (HV.out _ _ _ HPJ.out hz hmz hgz)
    · by_cases c2 : (f 0).md ≠ 0
      · have HPJ := Lib.hid (show Cu.Ends f n 0 from ⟨HPR.out, .inr (.inl c2)⟩)
        have c3 : ((f 0).md == 0) = false := by simpa using c2
        go_wp2
        obtain ⟨⟨r0, r1, r2, r3, r4, r5, r6, r7, r8, r9⟩, hz, hmz, hgz⟩ := HR.out.fin (.int .i64 (f 0).pc) (.int .i64 ((f 0).r 0)) (.int .i64 ((f 0).r 1)) (.int .i64 ((f 0).r 2)) (.int .i64 ((f 0).r 3)) (.int .i64 ((f 0).r 4)) (.int .i64 ((f 0).r 5)) (.int .i64 ((f 0).r 6)) (.int .i64 ((f 0).r 7)) (.int .i64 (f 0).md) _ rfl
        simp only [Exit.jump]
        refine bodyPost_ret (v := .tuple #[.agg #[.int .i64 (f 0).pc, .int .i64 ((f 0).r 0), .int .i64 ((f 0).r 1), .int .i64 ((f 0).r 2), .int .i64 ((f 0).r 3), .int .i64 ((f 0).r 4), .int .i64 ((f 0).r 5), .int .i64 ((f 0).r 6), .int .i64 ((f 0).r 7), .int .i64 (f 0).md], .slice none 0 0]) (by simp [results, Tryd.results16, go_sem, r0, r1, r2, r3, r4, r5, r6, r7, r8, r9]) rfl (HV.out _ _ _ HPJ.out hz hmz hgz)
      · replace c2 := Classical.not_not.1 c2
        have c3 : ((f 0).md == 0) = true := by simp [c2]
        have HPN := Lib.hid (HPR.out.next (by simpa using c1) c2 (fun h0 => absurd h0 (by omega)))
        have HWA := Lib.hid (HR.out.step (only_alloc (only_refl W none) (.cells #[.int .i64 0, .int .i64 0, .int .i64 0, .int .i64 0] 37)))
        have HBA := Lib.hid (Blk.new W 37 #[.int .i64 0, .int .i64 0, .int .i64 0, .int .i64 0])
        obtain ⟨b, hb⟩ : ∃ b, b = W.heap.size := ⟨_, rfl⟩
        obtain ⟨Wa, hWa⟩ : ∃ Wa, Wa = W.alloc (.cells #[.int .i64 0, .int .i64 0, .int .i64 0, .int .i64 0] 37) := ⟨_, rfl⟩
        rw [← hWa, ← hb] at HBA
        rw [← hWa] at HWA
        have HBN := Lib.hid (show w.heap.size + 3 ≤ b from by have := HR.out.rs.lt; omega)
        have HBV := Lib.hid (show (.slice none 0 0 : Value).ownBlock ≠ some b from fun e => by have := HR.out.row.lt _ e; omega)
        have HST := Lib.hid (HS.out 0 Wa HWA.out.mem HWA.out.grow)
        go_upto_region 5 with (fail)
        rw [← hWa, ← hb]
        clear hWa hb c2 c3 v0 v1 v2 s0 s1 s2 s3 s4 s5 s6 s7 s8 s9 z0 z1 z2 z3 z4 z5 z6 z7 z8 z9 f0 f1 f2 f3 f4 f5 f6 f7 f8 f9
        obtain ⟨⟨v0, v1, v2⟩, ⟨s0, s1, s2, s3, s4, s5, s6, s7, s8, s9⟩, -, -⟩ := HWA.out.cells
        have nb1 : ¬ w.heap.size + 1 = b := by have := HBN.out; omega
        have nb2 : ¬ b = w.heap.size + 1 := by have := HBN.out; omega
        go_upto_region 6 with (go_at_call 10; (with_reducible refine HST.out.mono ?_); rintro e w2 ⟨rfl, hm2, g2⟩; obtain ⟨⟨a0, a1, a2, a3, a4, a5, a6, a7, a8, a9⟩, ⟨b0, b1, b2, b3, b4, b5, b6, b7, b8, b9⟩, ⟨d0, d1, d2, d3⟩, ⟨e0, e1, e2, e3⟩⟩ := HWA.out.aft HBA.out HBN.out g2; have HNX := Lib.hid (HWA.out.next (a2 := f (0 + 1)) HBA.out rfl HBN.out HBV.out g2 hm2); clear v0 v1 v2 s0 s1 s2 s3 s4 s5 s6 s7 s8 s9 hm2 g2)
        clear a0 a1 a2 a3 a4 a5 a6 a7 a8 a9 b0 b1 b2 b3 b4 b5 b6 b7 b8 b9 d0 d1 d2 d3 e0 e1 e2 e3
        obtain ⟨w3, hw3⟩ : ∃ w3, w3 = ((((((((((((((w2.setCell ⟨w.heap.size + 1, 0, none⟩ (.int .i64 (f (0 + 1)).pc)).setCell ⟨w.heap.size + 1, 1, none⟩ (.int .i64 ((f (0 + 1)).r 0))).setCell ⟨w.heap.size + 1, 2, none⟩ (.int .i64 ((f (0 + 1)).r 1))).setCell ⟨w.heap.size + 1, 3, none⟩ (.int .i64 ((f (0 + 1)).r 2))).setCell ⟨w.heap.size + 1, 4, none⟩ (.int .i64 ((f (0 + 1)).r 3))).setCell ⟨w.heap.size + 1, 5, none⟩ (.int .i64 ((f (0 + 1)).r 4))).setCell ⟨w.heap.size + 1, 6, none⟩ (.int .i64 ((f (0 + 1)).r 5))).setCell ⟨w.heap.size + 1, 7, none⟩ (.int .i64 ((f (0 + 1)).r 6))).setCell ⟨w.heap.size + 1, 8, none⟩ (.int .i64 ((f (0 + 1)).r 7))).setCell ⟨w.heap.size + 1, 9, none⟩ (.int .i64 (f (0 + 1)).md)).setCell ⟨b, 0, none⟩ (.int .i64 (f (0 + 1)).o1)).setCell ⟨b, 1, none⟩ (.int .i64 (f (0 + 1)).o2)).setCell ⟨b, 2, none⟩ (.int .i64 (f (0 + 1)).o3)).setCell ⟨b, 3, none⟩ (.int .i64 (f (0 + 1)).o4)) := ⟨_, rfl⟩
        rw [← hw3] at HNX ⊢
        clear hw3
        have HR3 := Lib.hid HNX.out.1
        have HB3 := Lib.hid HNX.out.2
        clear HNX
        have d0 := HB3.out.cell 0
        have d1 := HB3.out.cell 1
        have d2 := HB3.out.cell 2
        have d3 := HB3.out.cell 3
        obtain ⟨A5, c5, w5, hk5, hr5, g5, ho5⟩ := Cu.out_push f HR3.out.row (by omega)
        have HK := Lib.hid hk5
        have HR5 := Lib.hid ((HR3.out.step (only_alloc (only_refl w3 none) _)).more g5 hr5 (by
          rcases ho5 with e | e
          · exact .inl e
          · exact .inr ⟨_, e, by have := HR3.out.rs.lt; omega⟩))
        have HB5 := Lib.hid (((HB3.out.only (only_alloc (only_refl w3 none) _) (by simp))).only g5 (fun e => HBV.out e.symm))
        clear hk5 hr5 g5 ho5
        go_upto_region 7 with (at_builtin; refine wpList_append_eq rfl (.tmp 27) (.tmp 29) 52 rfl HK.out rfl rfl ?_)
        clear d0 d1 d2 d3
        have o0 := HB5.out.cell 0
        have HPJ := Lib.hid (show (f (0 + 1)).o1 = 2 → Cu.Ends f n (0 + 1) from fun e => ⟨HPN.out, .inr (.inr ⟨Nat.succ_pos _, e⟩)⟩)
        obtain ⟨⟨v0, v1, v2⟩, ⟨s0, s1, s2, s3, s4, s5, s6, s7, s8, s9⟩, ⟨z0, z1, z2, z3, z4, z5, z6, z7, z8, z9⟩, ⟨f0, f1, f2, f3, f4, f5, f6, f7, f8, f9⟩⟩ := HR5.out.cells
        by_cases c4 : (f (0 + 1)).o1 = 2
        · have HPK := Lib.hid (HPJ.out c4)
          have c6 : ((f (0 + 1)).o1 == 2) = true := by simp [c4]
          clear HPJ
          go_wp2
          obtain ⟨⟨r0, r1, r2, r3, r4, r5, r6, r7, r8, r9⟩, hz, hmz, hgz⟩ := HR5.out.fin (.int .i64 (f (0 + 1)).pc) (.int .i64 ((f (0 + 1)).r 0)) (.int .i64 ((f (0 + 1)).r 1)) (.int .i64 ((f (0 + 1)).r 2)) (.int .i64 ((f (0 + 1)).r 3)) (.int .i64 ((f (0 + 1)).r 4)) (.int .i64 ((f (0 + 1)).r 5)) (.int .i64 ((f (0 + 1)).r 6)) (.int .i64 ((f (0 + 1)).r 7)) (.int .i64 (f (0 + 1)).md) _ rfl
          simp only [Exit.jump]
          refine bodyPost_ret (v := .tuple #[.agg #[.int .i64 (f (0 + 1)).pc, .int .i64 ((f (0 + 1)).r 0), .int .i64 ((f (0 + 1)).r 1), .int .i64 ((f (0 + 1)).r 2), .int .i64 ((f (0 + 1)).r 3), .int .i64 ((f (0 + 1)).r 4), .int .i64 ((f (0 + 1)).r 5), .int .i64 ((f (0 + 1)).r 6), .int .i64 ((f (0 + 1)).r 7), .int .i64 (f (0 + 1)).md], .slice A5 (0 + 1) c5]) (by simp [results, Tryd.results16, go_sem, r0, r1, r2, r3, r4, r5, r6, r7, r8, r9]) rfl (HV.out _ _ _ HPK.out hz hmz hgz)
        · have c6 : ((f 1).o1 == 2) = false := by simpa using c4
          have c7 : ¬ (f 1).o1 = 2 := c4
          have HO2 := Lib.hid (show 0 < 0 + 1 → (f (0 + 1)).o1 ≠ 2 from fun _ => c4)
          go_wp2
          go_step3
          exact ⟨rfl, 0 + 1, A5, c5, _, _, _, _, _, _, _, _, _, _, _, _, _, _, _, _, _, _, _, _, _, _, _, _, _, _, _, _, rfl, HR5, HPN, HO2⟩
  · rintro a' w' ⟨j, A, c, u5, u9, u10, u11, u12, u13, u14, u15, u16, u17, u18, u19, u20, u21, u22, u23, u24, u25, u26, u27, u28, u29, u30, u31, u32, u33, u34, u35, rfl, HR, HPR, HO⟩
    obtain ⟨⟨v0, v1, v2⟩, ⟨s0, s1, s2, s3, s4, s5, s6, s7, s8, s9⟩, ⟨z0, z1, z2, z3, z4, z5, z6, z7, z8, z9⟩, ⟨f0, f1, f2, f3, f4, f5, f6, f7, f8, f9⟩⟩ := HR.out.cells
    by_cases c1 : n ≤ (j : Int)
    · have HPJ := Lib.hid (show Cu.Ends f n j from ⟨HPR.out, .inl c1⟩)
      go_wp2
      obtain ⟨⟨r0, r1, r2, r3, r4, r5, r6, r7, r8, r9⟩, hz, hmz, hgz⟩ := HR.out.fin (.int .i64 (f j).pc) (.int .i64 ((f j).r 0)) (.int .i64 ((f j).r 1)) (.int .i64 ((f j).r 2)) (.int .i64 ((f j).r 3)) (.int .i64 ((f j).r 4)) (.int .i64 ((f j).r 5)) (.int .i64 ((f j).r 6)) (.int .i64 ((f j).r 7)) (.int .i64 (f j).md) _ rfl
      simp only [Exit.jump]
      refine bodyPost_ret (v := .tuple #[.agg #[.int .i64 (f j).pc, .int .i64 ((f j).r 0), .int .i64 ((f j).r 1), .int .i64 ((f j).r 2), .int .i64 ((f j).r 3), .int .i64 ((f j).r 4), .int .i64 ((f j).r 5), .int .i64 ((f j).r 6), .int .i64 ((f j).r 7), .int .i64 (f j).md], .slice A j c]) (by simp [results, Tryd.results16, go_sem, r0, r1, r2, r3, r4, r5, r6, r7, r8, r9]) rfl (HV.out _ _ _ HPJ.out hz hmz hgz)
    · by_cases c2 : (f j).md ≠ 0
      · have HPJ := Lib.hid (show Cu.Ends f n j from ⟨HPR.out, .inr (.inl c2)⟩)
        have c3 : ((f j).md == 0) = false := by simpa using c2
        go_wp2
        obtain ⟨⟨r0, r1, r2, r3, r4, r5, r6, r7, r8, r9⟩, hz, hmz, hgz⟩ := HR.out.fin (.int .i64 (f j).pc) (.int .i64 ((f j).r 0)) (.int .i64 ((f j).r 1)) (.int .i64 ((f j).r 2)) (.int .i64 ((f j).r 3)) (.int .i64 ((f j).r 4)) (.int .i64 ((f j).r 5)) (.int .i64 ((f j).r 6)) (.int .i64 ((f j).r 7)) (.int .i64 (f j).md) _ rfl
        simp only [Exit.jump]
        refine bodyPost_ret (v := .tuple #[.agg #[.int .i64 (f j).pc, .int .i64 ((f j).r 0), .int .i64 ((f j).r 1), .int .i64 ((f j).r 2), .int .i64 ((f j).r 3), .int .i64 ((f j).r 4), .int .i64 ((f j).r 5), .int .i64 ((f j).r 6), .int .i64 ((f j).r 7), .int .i64 (f j).md], .slice A j c]) (by simp [results, Tryd.results16, go_sem, r0, r1, r2, r3, r4, r5, r6, r7, r8, r9]) rfl (HV.out _ _ _ HPJ.out hz hmz hgz)
      · replace c2 := Classical.not_not.1 c2
        have c3 : ((f j).md == 0) = true := by simp [c2]
        have HLT := Lib.hid (show j < 100 from by omega)
        have HPN := Lib.hid (HPR.out.next (by simpa using c1) c2 HO.out)
        have HWA := Lib.hid (HR.out.step (only_alloc (only_refl w' none) (.cells #[.int .i64 0, .int .i64 0, .int .i64 0, .int .i64 0] 37)))
        have HBA := Lib.hid (Blk.new w' 37 #[.int .i64 0, .int .i64 0, .int .i64 0, .int .i64 0])
        obtain ⟨b, hb⟩ : ∃ b, b = w'.heap.size := ⟨_, rfl⟩
        obtain ⟨Wa, hWa⟩ : ∃ Wa, Wa = w'.alloc (.cells #[.int .i64 0, .int .i64 0, .int .i64 0, .int .i64 0] 37) := ⟨_, rfl⟩
        rw [← hWa, ← hb] at HBA
        rw [← hWa] at HWA
        have HBN := Lib.hid (show w.heap.size + 3 ≤ b from by have := HR.out.rs.lt; omega)
        have HBV := Lib.hid (show (.slice A j c : Value).ownBlock ≠ some b from fun e => by have := HR.out.row.lt _ e; omega)
        have HST := Lib.hid (HS.out j Wa HWA.out.mem HWA.out.grow)
        go_upto_region 5 with (fail)
        rw [← hWa, ← hb]
        clear hWa hb c2 c3 v0 v1 v2 s0 s1 s2 s3 s4 s5 s6 s7 s8 s9 z0 z1 z2 z3 z4 z5 z6 z7 z8 z9 f0 f1 f2 f3 f4 f5 f6 f7 f8 f9
        obtain ⟨⟨v0, v1, v2⟩, ⟨s0, s1, s2, s3, s4, s5, s6, s7, s8, s9⟩, -, -⟩ := HWA.out.cells
        have nb1 : ¬ w.heap.size + 1 = b := by have := HBN.out; omega
        have nb2 : ¬ b = w.heap.size + 1 := by have := HBN.out; omega
        go_upto_region 6 with (go_at_call 10; (with_reducible refine HST.out.mono ?_); rintro e w2 ⟨rfl, hm2, g2⟩; obtain ⟨⟨a0, a1, a2, a3, a4, a5, a6, a7, a8, a9⟩, ⟨b0, b1, b2, b3, b4, b5, b6, b7, b8, b9⟩, ⟨d0, d1, d2, d3⟩, ⟨e0, e1, e2, e3⟩⟩ := HWA.out.aft HBA.out HBN.out g2; have HNX := Lib.hid (HWA.out.next (a2 := f (j + 1)) HBA.out rfl HBN.out HBV.out g2 hm2); clear v0 v1 v2 s0 s1 s2 s3 s4 s5 s6 s7 s8 s9 hm2 g2)
        clear a0 a1 a2 a3 a4 a5 a6 a7 a8 a9 b0 b1 b2 b3 b4 b5 b6 b7 b8 b9 d0 d1 d2 d3 e0 e1 e2 e3
        obtain ⟨w3, hw3⟩ : ∃ w3, w3 = ((((((((((((((w2.setCell ⟨w.heap.size + 1, 0, none⟩ (.int .i64 (f (j + 1)).pc)).setCell ⟨w.heap.size + 1, 1, none⟩ (.int .i64 ((f (j + 1)).r 0))).setCell ⟨w.heap.size + 1, 2, none⟩ (.int .i64 ((f (j + 1)).r 1))).setCell ⟨w.heap.size + 1, 3, none⟩ (.int .i64 ((f (j + 1)).r 2))).setCell ⟨w.heap.size + 1, 4, none⟩ (.int .i64 ((f (j + 1)).r 3))).setCell ⟨w.heap.size + 1, 5, none⟩ (.int .i64 ((f (j + 1)).r 4))).setCell ⟨w.heap.size + 1, 6, none⟩ (.int .i64 ((f (j + 1)).r 5))).setCell ⟨w.heap.size + 1, 7, none⟩ (.int .i64 ((f (j + 1)).r 6))).setCell ⟨w.heap.size + 1, 8, none⟩ (.int .i64 ((f (j + 1)).r 7))).setCell ⟨w.heap.size + 1, 9, none⟩ (.int .i64 (f (j + 1)).md)).setCell ⟨b, 0, none⟩ (.int .i64 (f (j + 1)).o1)).setCell ⟨b, 1, none⟩ (.int .i64 (f (j + 1)).o2)).setCell ⟨b, 2, none⟩ (.int .i64 (f (j + 1)).o3)).setCell ⟨b, 3, none⟩ (.int .i64 (f (j + 1)).o4)) := ⟨_, rfl⟩
        rw [← hw3] at HNX ⊢
        clear hw3
        have HR3 := Lib.hid HNX.out.1
        have HB3 := Lib.hid HNX.out.2
        clear HNX
        have d0 := HB3.out.cell 0
        have d1 := HB3.out.cell 1
        have d2 := HB3.out.cell 2
        have d3 := HB3.out.cell 3
        obtain ⟨A5, c5, w5, hk5, hr5, g5, ho5⟩ := Cu.out_push f HR3.out.row (by omega)
        have HK := Lib.hid hk5
        have HR5 := Lib.hid ((HR3.out.step (only_alloc (only_refl w3 none) _)).more g5 hr5 (by
          rcases ho5 with e | e
          · exact .inl e
          · exact .inr ⟨_, e, by have := HR3.out.rs.lt; omega⟩))
        have HB5 := Lib.hid (((HB3.out.only (only_alloc (only_refl w3 none) _) (by simp))).only g5 (fun e => HBV.out e.symm))
        clear hk5 hr5 g5 ho5
        go_upto_region 7 with (at_builtin; refine wpList_append_eq rfl (.tmp 27) (.tmp 29) 52 rfl HK.out rfl rfl ?_)
        clear d0 d1 d2 d3
        have o0 := HB5.out.cell 0
        have HPJ := Lib.hid (show (f (j + 1)).o1 = 2 → Cu.Ends f n (j + 1) from fun e => ⟨HPN.out, .inr (.inr ⟨Nat.succ_pos _, e⟩)⟩)
        obtain ⟨⟨v0, v1, v2⟩, ⟨s0, s1, s2, s3, s4, s5, s6, s7, s8, s9⟩, ⟨z0, z1, z2, z3, z4, z5, z6, z7, z8, z9⟩, ⟨f0, f1, f2, f3, f4, f5, f6, f7, f8, f9⟩⟩ := HR5.out.cells
        by_cases c4 : (f (j + 1)).o1 = 2
        · have HPK := Lib.hid (HPJ.out c4)
          have c6 : ((f (j + 1)).o1 == 2) = true := by simp [c4]
          clear HPJ
          go_wp2
          obtain ⟨⟨r0, r1, r2, r3, r4, r5, r6, r7, r8, r9⟩, hz, hmz, hgz⟩ := HR5.out.fin (.int .i64 (f (j + 1)).pc) (.int .i64 ((f (j + 1)).r 0)) (.int .i64 ((f (j + 1)).r 1)) (.int .i64 ((f (j + 1)).r 2)) (.int .i64 ((f (j + 1)).r 3)) (.int .i64 ((f (j + 1)).r 4)) (.int .i64 ((f (j + 1)).r 5)) (.int .i64 ((f (j + 1)).r 6)) (.int .i64 ((f (j + 1)).r 7)) (.int .i64 (f (j + 1)).md) _ rfl
          simp only [Exit.jump]
          refine bodyPost_ret (v := .tuple #[.agg #[.int .i64 (f (j + 1)).pc, .int .i64 ((f (j + 1)).r 0), .int .i64 ((f (j + 1)).r 1), .int .i64 ((f (j + 1)).r 2), .int .i64 ((f (j + 1)).r 3), .int .i64 ((f (j + 1)).r 4), .int .i64 ((f (j + 1)).r 5), .int .i64 ((f (j + 1)).r 6), .int .i64 ((f (j + 1)).r 7), .int .i64 (f (j + 1)).md], .slice A5 (j + 1) c5]) (by simp [results, Tryd.results16, go_sem, r0, r1, r2, r3, r4, r5, r6, r7, r8, r9]) rfl (HV.out _ _ _ HPK.out hz hmz hgz)
        · have c6 : ((f (j + 1)).o1 == 2) = false := by simpa using c4
          have c7 : ¬ (f (j + 1)).o1 = 2 := c4
          have HO2 := Lib.hid (show 0 < j + 1 → (f (j + 1)).o1 ≠ 2 from fun _ => c4)
          go_wp2
          go_step3
          refine ⟨rfl, ⟨j + 1, A5, c5, _, _, _, _, _, _, _, _, _, _, _, _, _, _, _, _, _, _, _, _, _, _, _, _, _, _, _, _, rfl, HR5, HPN, HO2⟩, ?_⟩
          have := HLT.out
          show 100 - (j + 1) < 100 - j
          omega
end Go.Proofs.YtpolkioaagahhaaDoor

/- The law's three steps. -/
namespace Go.Proofs.YtpolkioaagahhaaDoor
open Go.RowKit Go.Lib
set_option linter.unusedVariables false
set_option maxRecDepth 20000

def Cu.lv : List UInt8 := [1, 1, 7, 0, 3, 1, 1, 0, 0, 0, 0, 0]
def Cu.lf : Nat → Cu.Af := Cu.stN Cu.lv 0 (fun _ => 0) 0
theorem Cu.lf_1 : (Cu.lf 1).md = 0 ∧ (Cu.lf 1).o1 = 1 := ⟨by kernel_rfl, by kernel_rfl⟩
theorem Cu.lf_2 : (Cu.lf 2).md = 0 ∧ (Cu.lf 2).o1 = 1 := ⟨by kernel_rfl, by kernel_rfl⟩
theorem Cu.lf_3 : (Cu.lf 3).md = 2 ∧ (Cu.lf 3).o1 = 4 ∧ (Cu.lf 3).pc = 8 ∧ (Cu.lf 3).r 1 = 14 := ⟨by kernel_rfl, by kernel_rfl, by kernel_rfl, by kernel_rfl⟩
theorem Cu.lf_end {j : Nat} (h : Cu.Ends Cu.lf 9 j) : j = 3 := by
  by_cases h3 : 3 < j
  · have := (h.1.1 3 h3).2
    rw [Cu.lf_3.1] at this
    exact absurd this (by decide)
  · have hj : j = 0 ∨ j = 1 ∨ j = 2 ∨ j = 3 := by omega
    rcases hj with rfl | rfl | rfl | rfl
    · rcases h.2 with e | e | e
      · omega
      · exact absurd (show (Cu.lf 0).md = 0 from rfl) e
      · omega
    · rcases h.2 with e | e | e
      · omega
      · exact absurd Cu.lf_1.1 e
      · rw [Cu.lf_1.2] at e; omega
    · rcases h.2 with e | e | e
      · omega
      · exact absurd Cu.lf_2.1 e
      · rw [Cu.lf_2.2] at e; omega
    · rfl
/-- Run on a memory that holds the three instructions. -/
theorem Cu.lrun_any (w : World) (B m g : Nat) (p q : List UInt8) (h : MemG w B m g (p ++ Cu.lv ++ q)) (hB : 0 < B) (hN : Nm w) (hl : (p ++ Cu.lv ++ q).length ≤ 16384) :
    Calls Tryd.prog 16 #[Cu.vw m p.length 12, Cu.stV 0 (fun _ => 0) 0, .int .i64 9] w fun e w' => ∃ v, e = .returned (.tuple #[Cu.stV (Cu.lf 3).pc (Cu.lf 3).r (Cu.lf 3).md, v]) ∧ RowZ 4 w' v 3 (Cu.outs Cu.lf 3) ∧ w.grownBy w' (some g) := by
  have hg0 : some g ≠ some 0 := fun e => by injection e with e; have := h.1; omega
  have := Cu.run_walk w B m g 12 p q Cu.lf 0 0 9 (fun _ => 0) (by omega) rfl h (fun j W hm hg => by
    have hlen := Cu.stN_len Cu.lv 0 (fun _ => 0) 0 j
    have hp := Cu.stN_pc Cu.lv 0 (fun _ => 0) 0 (by decide) (by decide) j
    have hs := Cu.step_any W B m g p (Cu.lf j).v q hm (hN.grown hg hg0) (by
      have e : (p ++ (Cu.lf j).v ++ q).length = (p ++ Cu.lv ++ q).length := by
        simp only [List.length_append]
        rw [show (Cu.lf j).v.length = Cu.lv.length from hlen]
      omega) (Cu.lf j).pc hp (Cu.lf j).r (Cu.lf j).md
    rw [show ((Cu.lf j).v.length : Int) = 12 from by rw [show (Cu.lf j).v.length = Cu.lv.length from hlen]; rfl] at hs
    exact hs)
  refine this.mono fun e w' ⟨j, v, he, h1, h2, h3, h4⟩ => ?_
  have hj := Cu.lf_end he
  subst hj
  exact ⟨v, h1, h2, h4⟩
end Go.Proofs.YtpolkioaagahhaaDoor

/- The law's live. -/
namespace Go.Proofs.YtpolkioaagahhaaDoor
open Go.RowKit Go.Lib
set_option linter.unusedVariables false
set_option maxRecDepth 20000

theorem Cu.row3 {w : World} {v : Value} (h : RowZ 4 w v 3 (Cu.outs Cu.lf 3)) : ∃ b off c, v = .slice (some ⟨b, off, none⟩) 3 c ∧ 3 ≤ c ∧ b < w.heap.size ∧ w.cell? ⟨b, off + 8, none⟩ = some (.int .i64 4) := by
  rcases h.2 with ⟨h0, h9⟩ | ⟨g', off', cap', h1, h2, h3, h4, h5, hc⟩
  · exact absurd h9 (by decide)
  · refine ⟨g', off', cap', h1, h2, h4, hc 8 _ ?_⟩
    show (Cu.outs Cu.lf 3)[8]? = some (.int .i64 4)
    have e : Cu.outs Cu.lf 3 = [.int .i64 (Cu.lf 1).o1, .int .i64 (Cu.lf 1).o2, .int .i64 (Cu.lf 1).o3, .int .i64 (Cu.lf 1).o4, .int .i64 (Cu.lf 2).o1, .int .i64 (Cu.lf 2).o2, .int .i64 (Cu.lf 2).o3, .int .i64 (Cu.lf 2).o4, .int .i64 (Cu.lf 3).o1, .int .i64 (Cu.lf 3).o2, .int .i64 (Cu.lf 3).o3, .int .i64 (Cu.lf 3).o4] := rfl
    rw [e, Cu.lf_3.2.1]
    rfl
theorem Cu.fresh {w w1 w2 : World} {g : Nat} (hb : Below w.heap.size w w1) (k : w1.grownBy w2 (some g)) (hg : w.heap.size ≤ g) : w.grownBy w2 none :=
  ⟨k.os.trans hb.os, k.tape.trans hb.tape, k.output.trans hb.output, Nat.le_trans hb.size k.size, fun i hi _ => (k.block i (Nat.lt_of_lt_of_le hi hb.size) (fun e => by injection e with e; omega)).trans (hb.block i hi)⟩
theorem Cu.fresh2 {w w1 w2 : World} {g : Nat} (hb : w.grownBy w1 none) (k : w1.grownBy w2 (some g)) (hg : w.heap.size ≤ g) : w.grownBy w2 none :=
  ⟨k.os.trans hb.os, k.tape.trans hb.tape, k.output.trans hb.output, Nat.le_trans hb.size k.size, fun i hi _ => (k.block i (Nat.lt_of_lt_of_le hi hb.size) (fun e => by injection e with e; omega)).trans (hb.block i hi (by simp))⟩
set_option maxHeartbeats 3200000 in
theorem Cu.live_any (w : World) (hN : Nm w) (hw : 0 < w.heap.size) : Calls Tryd.prog 7 #[] w fun e w' => e = .returned (.bool true) ∧ Below w.heap.size w w' := by
  have HNE := Lib.hid (show ∀ W, Calls Tryd.prog 19 #[.int .i64 200] W fun r w' => ∃ m g, r = .returned (.pointer (some ⟨m, 0, none⟩)) ∧ MemG w' W.heap.size m g (Cu.z 200) ∧ Below W.heap.size W w' from fun W => (mnew_any 200 W).mono fun e w' ⟨m, h1, h2, h3⟩ => by
    obtain ⟨g, h4⟩ := h2.named
    exact ⟨m, g, h1, h4, h3⟩)
  have HPU := Lib.hid (show ∀ W B m g, MemG W B m g (Cu.z 200) → Calls Tryd.prog 20 #[.pointer (some ⟨m, 0, none⟩), .int .i64 130, .string ⟨#[1, 1, 7, 0, 3, 1, 1, 0, 0, 0, 0, 0]⟩] W fun r w' => r = .returned (.int .i64 0) ∧ MemG w' B m g (Cu.z 130 ++ Cu.lv ++ Cu.z 58) ∧ W.grownBy w' (some g) from fun W B m g h => by
    have := mput_any W B m g (Cu.z 200) 130 ⟨#[1, 1, 7, 0, 3, 1, 1, 0, 0, 0, 0, 0]⟩ h (by rw [Cu.z_len]; omega) (by decide)
    have ec : chk (Cu.z 200).length 130 ((⟨#[1, 1, 7, 0, 3, 1, 1, 0, 0, 0, 0, 0]⟩ : ByteArray).size : Nat) = 0 := by rw [Cu.z_len]; decide
    rw [ec, if_pos rfl] at this
    have e2 : over (Cu.z 200) (130 : Int).toNat (⟨#[1, 1, 7, 0, 3, 1, 1, 0, 0, 0, 0, 0]⟩ : ByteArray).data.toList = Cu.z 130 ++ Cu.lv ++ Cu.z 58 := by decide
    rw [e2] at this
    exact this)
  have HRU := Lib.hid (show ∀ W m g, MemG W w.heap.size m g (Cu.z 130 ++ Cu.lv ++ Cu.z 58) → w.grownBy W none → Calls Tryd.prog 16 #[.agg #[.pointer (some ⟨m, 0, none⟩), .int .i64 130, .int .i64 12], .agg #[.int .i64 0, .int .i64 0, .int .i64 0, .int .i64 0, .int .i64 0, .int .i64 0, .int .i64 0, .int .i64 0, .int .i64 0, .int .i64 0], .int .i64 9] W fun e w' => ∃ b off c x0 x2 x3 x4 x5 x6 x7, e = .returned (.tuple #[.agg #[.int .i64 8, .int .i64 x0, .int .i64 14, .int .i64 x2, .int .i64 x3, .int .i64 x4, .int .i64 x5, .int .i64 x6, .int .i64 x7, .int .i64 2], .slice (some ⟨b, off, none⟩) 3 c]) ∧ 3 ≤ c ∧ b < w'.heap.size ∧ w'.cell? ⟨b, off + 8, none⟩ = some (.int .i64 4) ∧ W.grownBy w' (some g) from fun W m g h hg => by
    have := Cu.lrun_any W w.heap.size m g (Cu.z 130) (Cu.z 58) h hw (hN.grown hg (by simp)) (by decide)
    refine this.mono fun e w' ⟨v, h1, h2, h3⟩ => ?_
    obtain ⟨b, off, c, rfl, k1, k2, k3⟩ := Cu.row3 h2
    refine ⟨b, off, c, (Cu.lf 3).r 0, (Cu.lf 3).r 2, (Cu.lf 3).r 3, (Cu.lf 3).r 4, (Cu.lf 3).r 5, (Cu.lf 3).r 6, (Cu.lf 3).r 7, ?_, k1, k2, k3, h3⟩
    rw [h1]
    unfold Cu.stV Cu.stC
    rw [Cu.lf_3.2.2.1, Cu.lf_3.2.2.2, Cu.lf_3.1])
  go_enter Tryd.func7, Tryd.ntmps7
  go_upto_region 4 with (first
    | (go_at_call 19; (with_reducible refine (HNE.out _).mono ?_); rintro e w1 ⟨m, g, rfl, hm, b1⟩; have HM := Lib.hid hm; have HB := Lib.hid b1; clear hm b1)
    | (go_at_call 20; (with_reducible refine (HPU.out _ _ _ _ HM.out).mono ?_); rintro e w2 ⟨rfl, hm2, b2⟩; have HM2 := Lib.hid hm2; have HG2 := Lib.hid (show w.grownBy w2 none from Cu.fresh HB.out b2 HM.out.1); clear hm2 b2)
    | (go_at_call 16; (with_reducible refine (HRU.out _ _ _ HM2.out HG2.out).mono ?_); rintro e w3 ⟨b, off, c, x0, x2, x3, x4, x5, x6, x7, rfl, k1, k2, k3, b3⟩; have HG3 := Lib.hid (Cu.fresh2 HG2.out b3 HM.out.1); have K1 := Lib.hid k1; have K2 := Lib.hid k2; have K3 := Lib.hid k3; clear k1 k2 k3 b3))
  have HB4 := Lib.hid (Blk.new w3 24 #[.int .i64 8, .int .i64 x0, .int .i64 14, .int .i64 x2, .int .i64 x3, .int .i64 x4, .int .i64 x5, .int .i64 x6, .int .i64 x7, .int .i64 2])
  have HG4 := Lib.hid (only_trans HG3.out (only_alloc (only_refl w3 none) (.cells #[.int .i64 8, .int .i64 x0, .int .i64 14, .int .i64 x2, .int .i64 x3, .int .i64 x4, .int .i64 x5, .int .i64 x6, .int .i64 x7, .int .i64 2] 24)))
  have HC8 := Lib.hid ((World.cell?_alloc_lt w3 (.cells #[.int .i64 8, .int .i64 x0, .int .i64 14, .int .i64 x2, .int .i64 x3, .int .i64 x4, .int .i64 x5, .int .i64 x6, .int .i64 x7, .int .i64 2] 24) ⟨b, off + 8, none⟩ K2.out).trans K3.out)
  obtain ⟨W4, hW4⟩ : ∃ W4, W4 = w3.alloc (.cells #[.int .i64 8, .int .i64 x0, .int .i64 14, .int .i64 x2, .int .i64 x3, .int .i64 x4, .int .i64 x5, .int .i64 x6, .int .i64 x7, .int .i64 2] 24) := ⟨_, rfl⟩
  rw [← hW4] at HB4 HG4 HC8 ⊢
  clear hW4
  have c0 := HB4.out.cell 0
  have c2 := HB4.out.cell 2
  have c9 := HB4.out.cell 9
  have c8 := HC8.out
  go_wp2
  go_ret
  exact ⟨rfl, below_of_only HG4.out (Nat.le_refl _) (fun k hk => by cases hk)⟩
end Go.Proofs.YtpolkioaagahhaaDoor
