import Derived.Test.YtfhhcpmoaggdmaaGreatZ04
import Derived.OrdersHeld
import Derived.Deep.RegionHeld
import Derived.Test.YtfhhcpmoaggdmaaGreatZ03
set_option linter.all false
/- Slices of the call's own, of elements of any size, that move along their rows: what they hold, and what an append, a clearing and a cut do. No program is spoken of here. -/
namespace Go.Proofs.YtfhhcpmoaggdmaaGreat
open Go.RowKit Go.Lib
set_option linter.unusedVariables false

/-- A slice of n elements of s cells, xs: nil, or in a row that it may write. -/
def RowZ (s : Nat) (w : World) (v : Value) (n : Nat) (xs : List Value) : Prop :=
  xs.length = n * s ∧ ((v = .slice none 0 0 ∧ n = 0) ∨ ∃ g off cap, v = .slice (some ⟨g, off, none⟩) n cap ∧ n ≤ cap ∧ cap ≤ maxLen ∧ g < w.heap.size ∧
    (∀ j, j < cap * s → (w.cell? ⟨g, off + j, none⟩).isSome = true ∧ w.frozen? ⟨g, off + j, none⟩ = false) ∧ ∀ j u, xs[j]? = some u → w.cell? ⟨g, off + j, none⟩ = some u)
section
variable {s : Nat} {w w' : World} {v : Value} {n : Nat} {xs : List Value}
theorem RowZ.nil (s : Nat) (w : World) : RowZ s w (.slice none 0 0) 0 [] := ⟨by simp, .inl ⟨rfl, rfl⟩⟩
theorem RowZ.form (h : RowZ s w v n xs) : ∃ A c, v = .slice A n c := by
  rcases h with ⟨_, ⟨rfl, rfl⟩ | ⟨g, off, cap, rfl, _⟩⟩
  · exact ⟨_, _, rfl⟩
  · exact ⟨_, _, rfl⟩
theorem RowZ.lt (h : RowZ s w v n xs) : ∀ k, v.ownBlock = some k → k < w.heap.size := by
  intro k hk
  rcases h with ⟨_, ⟨rfl, _⟩ | ⟨g, off, cap, rfl, _, _, hg, _⟩⟩
  · simp [Value.ownBlock] at hk
  · simp [Value.ownBlock] at hk
    omega
theorem RowZ.same (h : RowZ s w v n xs) (hs : w.heap.size ≤ w'.heap.size) (hb : ∀ k, v.ownBlock = some k → w'.heap[k]? = w.heap[k]?) : RowZ s w' v n xs := by
  rcases h with ⟨hl, h | ⟨g, off, cap, rfl, h1, h2, h3, h4, h5⟩⟩
  · exact ⟨hl, .inl h⟩
  · have hg := hb g rfl
    have hc : ∀ o, w'.cell? ⟨g, o, none⟩ = w.cell? ⟨g, o, none⟩ := fun o => by simp [World.cell?, hg]
    have hf : ∀ o, w'.frozen? ⟨g, o, none⟩ = w.frozen? ⟨g, o, none⟩ := fun o => by simp [World.frozen?, hg]
    exact ⟨hl, .inr ⟨g, off, cap, rfl, h1, h2, by omega, fun j hj => by rw [hc, hf]; exact h4 j hj, fun j u hu => by rw [hc]; exact h5 j u hu⟩⟩
theorem RowZ.keeps {S : Nat → Prop} (h : RowZ s w v n xs) (k : Keeps S w w') (hn : ∀ i, v.ownBlock = some i → ¬ S i) : RowZ s w' v n xs :=
  h.same k.size fun i hi => k.2.2.2.2 i (h.lt i hi) (hn i hi)
theorem RowZ.only {row : Option Nat} (h : RowZ s w v n xs) (k : w.grownBy w' row) (hn : v.ownBlock = none ∨ v.ownBlock ≠ row) : RowZ s w' v n xs :=
  h.same k.size fun i hi => k.block i (h.lt i hi) (fun e => by rcases hn with hn | hn; rw [hn] at hi; cases hi; exact hn (hi.trans e))
theorem RowZ.grown (h : RowZ s w v n xs) (k : w.grownBy w' none) : RowZ s w' v n xs := h.only k (by cases hv : v.ownBlock <;> simp)
theorem RowZ.below {B : Nat} (h : RowZ s w v n xs) (k : Below B w w') (hn : ∀ i, v.ownBlock = some i → i < B) : RowZ s w' v n xs :=
  h.same k.size fun i hi => k.block i (hn i hi)
theorem RowZ.drewN (h : RowZ s w v n xs) (q : Nat) : RowZ s (w.drewN q) v n xs := h
theorem RowZ.alloc (h : RowZ s w v n xs) (o : Obj) : RowZ s (w.alloc o) v n xs := h.same (by simp) fun k hk => Below.heap_alloc w o k (h.lt k hk)
theorem RowZ.put (h : RowZ s w v n xs) {p : Addr} (hp : v.ownBlock ≠ some p.block) (u : Value) : RowZ s (w.setCell p u) v n xs :=
  h.same (by simp) fun k hk => Below.heap_setCell w p u k (by rintro rfl; exact hp hk)
theorem RowZ.len (h : RowZ s w v n xs) : xs.length = n * s := h.1

/-- A new row whose first places hold xs. -/
theorem RowZ.new (w : World) (cur : Array Value) (e : TypeId) (cap : Nat) (hl : xs.length = n * s) (hc : cur.size = cap * s) (hn : n ≤ cap) (hm : cap ≤ maxLen) (hp : ∀ (j : Nat) (u : Value), xs[j]? = some u → cur[j]? = some u) :
    RowZ s (w.alloc (.cells cur e)) (.slice (some ⟨w.heap.size, 0, none⟩) n cap) n xs := by
  have hb : Blk (w.alloc (.cells cur e)) w.heap.size e cur := Blk.new w e cur
  refine ⟨hl, .inr ⟨w.heap.size, 0, cap, rfl, hn, hm, by simp, fun j hj => ⟨?_, hb.free _⟩, fun j u hu => ?_⟩⟩
  · rw [hb.cell, Nat.zero_add, Array.getElem?_eq_getElem (by omega)]
    rfl
  · rw [hb.cell, Nat.zero_add]
    exact hp j u hu

/-- What a slice reads as1, for an append of its elements. -/
theorem RowZ.src {P : Program} (h : RowZ s w v n xs) (tx e' : TypeId) (hk : P.underlying tx = some (.slice e')) (h1 : ∀ u ∈ xs, u.oneCell' = true) : Src P s tx v n xs w := by
  rcases h with ⟨hl, ⟨rfl, rfl⟩ | ⟨g, off, cap, rfl, _, _, _, _, h5⟩⟩
  · have : xs = [] := List.eq_nil_of_length_eq_zero (by omega)
    subst this
    exact Src.ofNil w hk 0
  · refine Src.ofSlice w hk _ _ _ _ hl ?_ h1
    intro j u hu
    rw [addr_at]
    exact h5 j u hu

/-- append(v, x), v a slice of the call's own. -/
theorem run_pushZ {P : Program} (w : World) (t e ty : TypeId) (i : TypeInfo) (z : Value) (bytes : Nat) (ht : P.underlying t = some (.slice e)) (hi : P.info? e = some i) (hz : i.zero = some z) (hs : i.size = s) (hby : i.bytes = bytes) (hb16 : bytes ≤ 64) (hzs : z.cells.size = s)
    (v : Value) (n : Nat) (l : List Value) (h : RowZ s w v n l) (h1 : ∀ u ∈ l, u.oneCell' = true) (xs : Value) (x : List Value) (hx : Src P s t xs 1 x w) (hn : n ≤ 1000000) :
    ∃ v' w', (Builtin.append_ #[t, t] ty #[v, xs]).run P w = .ok v' w' ∧ RowZ s w' v' (n + 1) (l ++ x) ∧ w.grownBy w' v.ownBlock ∧ (v'.ownBlock = v.ownBlock ∨ v'.ownBlock = some w.heap.size) := by
  have hxl : x.length = s := by have := hx.newsLen; omega
  have hlx : (l ++ x).length = (n + 1) * s := by rw [List.length_append, h.1, hxl, Nat.add_mul, Nat.one_mul]
  have hbm : (n + 1) * bytes ≤ 140737488355328 := by
    have : (n + 1) * bytes ≤ 1000001 * 64 := Nat.mul_le_mul (by omega) hb16
    omega
  have hsrc : Src P i.size t xs 1 x w := by rw [hs]; exact hx
  have grown : ∀ (base : Option Addr) (cap : Nat), v = .slice base n cap → cap < n + 1 → ∃ v' w', (Builtin.append_ #[t, t] ty #[v, xs]).run P w = .ok v' w' ∧ RowZ s w' v' (n + 1) (l ++ x) ∧ w.grownBy w' v.ownBlock ∧ (v'.ownBlock = v.ownBlock ∨ v'.ownBlock = some w.heap.size) := by
    intro base cap hv hcap
    have hold := ((h.drewN 1).src (P := P) t e ht h1).cells
    have hm : n + 1 ≤ maxLen := by unfold maxLen; omega
    have hge := grownCap_ge w (n + 1) cap e
    have hcm := grownCap_le_maxLen w (n + 1) cap e hm
    rw [hv] at hold
    have hr := run_append_grow_src (P := P) w t t ty e i z ht hi hz base n cap l (by rw [hs]; exact hold) xs 1 x hsrc hcap (by omega) (by rw [hby]; exact growslice_fits hcap hbm)
    rw [hv]
    refine ⟨_, _, hr, ?_, ⟨rfl, rfl, rfl, by simp, fun k hk _ => Below.heap_alloc w.drew _ k hk⟩, .inr rfl⟩
    refine RowZ.new w.drew _ e _ hlx ?_ hge hcm (fun j u hu => ?_)
    · simp only [Array.size_append, List.size_toArray, size_zeroCells, hzs, hlx]
      rw [← Nat.add_mul]
      congr 1
      omega
    · have hj := (List.getElem?_eq_some_iff.1 hu).1
      rw [Array.getElem?_append_left (by simpa using hj)]
      simpa using hu
  rcases h with ⟨hl, ⟨rfl, rfl⟩ | ⟨g, off, cap, rfl, h2, h3, h4, h5, h6⟩⟩
  · exact grown none 0 rfl (by omega)
  · by_cases hroom : n + 1 ≤ cap
    · have hcs : n * s + s ≤ cap * s := by
        have := Nat.mul_le_mul_right s hroom
        rw [Nat.add_mul, Nat.one_mul] at this
        exact this
      have hr := run_append_room_src (P := P) w t t ty e i ht hi g off n cap xs 1 x hsrc hroom (by
        intro j hj
        rw [hs, Nat.add_assoc]
        exact (h5 (n * s + j) (by omega)).1) (by
        intro j hj
        rw [hs, Nat.add_assoc]
        exact (h5 (n * s + j) (by omega)).2)
      rw [hs] at hr
      have hsome : ∀ k, k < x.length → (w.cell? ⟨g, off + n * s + k, none⟩).isSome = true := fun k hk => by
        rw [Nat.add_assoc]
        exact (h5 (n * s + k) (by omega)).1
      refine ⟨_, _, hr, ⟨hlx, .inr ⟨g, off, cap, rfl, hroom, h3, ?_, ?_, ?_⟩⟩, only_cells _ _ _ _, .inl rfl⟩
      · rw [(setCells_at g x (off + n * s) w).2.2.2.1]
        exact h4
      · intro j hj
        rw [World.frozen?_setCells]
        refine ⟨?_, (h5 j hj).2⟩
        by_cases e1 : n * s ≤ j ∧ j < n * s + s
        · have := World.cell?_setCells_in g x (off + n * s) w hsome (j - n * s) (by omega)
          rw [show off + n * s + (j - n * s) = off + j by omega] at this
          rw [this]
          rfl
        · rw [World.cell?_setCells_out g x (off + n * s) w _ (by intro _ _; simp; omega)]
          exact (h5 j hj).1
      · intro j u hu
        by_cases e1 : j < n * s
        · rw [List.getElem?_append_left (by omega)] at hu
          rw [World.cell?_setCells_out g x (off + n * s) w _ (by intro _ _; simp; omega)]
          exact h6 j u hu
        · have hj := (List.getElem?_eq_some_iff.1 hu).1
          rw [List.length_append, hl] at hj
          rw [List.getElem?_append_right (by omega), hl] at hu
          have := World.cell?_setCells_in g x (off + n * s) w hsome (j - n * s) (by omega)
          rw [show off + n * s + (j - n * s) = off + j by omega] at this
          rw [this, ← List.getElem?_eq_getElem]
          exact hu
    · exact grown _ cap rfl (by omega)

/-- clear of the first n > 0 elements of one size. -/
theorem run_clear_sized {P : Program} (w : World) (t e ty : TypeId) (z : Value) (ht : P.underlying t = some (.slice e)) (hv : ∀ w, (zeroValue e).run P w = .ok z w) (b o n c : Nat) (hn : 0 < n) (h1 : ∀ u ∈ (Builtin.zeroCells z.cells n).toList, u.oneCell' = true)
    (hc : ∀ j, j < (Builtin.zeroCells z.cells n).toList.length → (w.cell? ⟨b, o + j, none⟩).isSome = true) (hf : ∀ j, j < (Builtin.zeroCells z.cells n).toList.length → w.frozen? ⟨b, o + j, none⟩ = false) :
    (Builtin.clear_ #[t] ty #[.slice (some ⟨b, o, none⟩) n c]).run P w = .ok (.tuple #[]) (w.setCells b o (Builtin.zeroCells z.cells n).toList) := by
  have hst := run_storeCells_cells (P := P) b o (Builtin.zeroCells z.cells n).toList 0 w (by simpa using hc) (by simpa using hf) h1
  simp only [Nat.add_zero] at hst
  obtain ⟨m, rfl⟩ : ∃ m, n = m + 1 := ⟨n - 1, by omega⟩
  simp [Builtin.clear_, run_underlying ht, hv, hst]

/-- Some first cells were written: what is behind them is as1 it was. -/
theorem RowZ.cleared {g off cap k : Nat} (zs : List Value) (hl : xs.length = n * s) (hz : zs.length = k * s) (h2 : n ≤ cap) (h3 : cap ≤ maxLen) (h4 : g < w.heap.size)
    (h5 : ∀ j, j < cap * s → (w.cell? ⟨g, off + j, none⟩).isSome = true ∧ w.frozen? ⟨g, off + j, none⟩ = false) (h6 : ∀ j u, xs[j]? = some u → w.cell? ⟨g, off + j, none⟩ = some u) (hk : k ≤ n) :
    RowZ s (w.setCells g off zs) (.slice (some ⟨g, off + k * s, none⟩) (n - k) (cap - k)) (n - k) (xs.drop (k * s)) := by
  have hcs : k * s + (cap - k) * s = cap * s := by rw [← Nat.add_mul]; congr 1; omega
  refine ⟨by rw [List.length_drop, hl, Nat.sub_mul], .inr ⟨g, off + k * s, cap - k, rfl, by omega, by omega, by rw [(setCells_at g _ off w).2.2.2.1]; exact h4, fun j hj => ?_, fun j u hu => ?_⟩⟩
  · rw [World.frozen?_setCells, World.cell?_setCells_out g _ off w _ (by intro _ _; simp; omega), Nat.add_assoc]
    exact h5 (k * s + j) (by omega)
  · rw [World.cell?_setCells_out g _ off w _ (by intro _ _; simp; omega), Nat.add_assoc]
    rw [List.getElem?_drop] at hu
    exact h6 _ u hu
theorem RowZ.empty {g : Nat} (s o : Nat) (hg : g < w.heap.size) : RowZ s w (.slice (some ⟨g, o, none⟩) 0 0) 0 [] :=
  ⟨by simp, .inr ⟨g, o, 0, rfl, by omega, by simp [maxLen], hg, fun j hj => absurd hj (by omega), fun j u hu => by simp at hu⟩⟩
end
end Go.Proofs.YtfhhcpmoaggdmaaGreat

/- A region that draws its order, and whose last operation waits for all others: they in any order, under a condition that need not hold behind the last one; then the last one. No program is spoken of here. -/
namespace Go.Proofs.YtfhhcpmoaggdmaaGreat
open Go
set_option linter.unusedVariables false

section
variable {P : Program} {ops : Array Oper} {md : Region.Mode} {Q : Exit → Act → World → Prop} {S : World → Prop} {n : Nat}

/-- The post behind all but the last one. -/
def Ends (P : Program) (ops : Array Oper) (Q : Exit → Act → World → Prop) (n : Nat) : Exit → Act → World → Prop
  | .normal, a, w => wpOp P ops Q n (fun a' w' => Q .normal a' w') a w
  | .ret, a, w => Q .ret a w
  | .panic c, a, w => Q (.panic c) a w
  | .outgrown, a, w => Q .outgrown a w
  | e, a, w => Q e a w

theorem wpOp_pop (hz : ops.size = n + 1) (hg : ∀ (i : Nat) (o : Oper), ops[i]? = some o → o.guard = none) {i : Nat} (hi : i < n) {K : Act → World → Prop} {a : Act} {w : World} (h : wpOp P ops.pop (Ends P ops Q n) i K a w) : wpOp P ops Q i K a w := by
  unfold wpOp at *
  have he : ops.pop[i]? = ops[i]? := by rw [Array.getElem?_pop, if_pos (by omega)]
  rw [he] at h
  cases ho : ops[i]? with
  | none => rw [ho] at h; exact h
  | some o =>
    rw [ho] at h
    have hw : ∀ y, Region.wanted o y = true := fun y => by simp [Region.wanted, hg i o ho]
    simp only [hw, if_true] at h ⊢
    rcases h with h | ⟨h1, h2⟩
    · refine .inl ?_
      unfold Oper.wp at *
      generalize (execOp a.eval o).run P w = r at *
      cases r with
      | ok x w' =>
        cases x <;> simp only [Oper.upon] at h ⊢
        case value u => exact h
        case skip => exact h
        case defer d => exact h
        case enter f args =>
          refine Calls.mono h fun e w'' he => ?_
          cases e with
          | returned u => exact he
          | panicked c => exact he
          | outgrown => exact he
        case row row args => exact h
      | halt x w' =>
        cases x <;> simp only [Oper.upon] at h ⊢
        case panic u => exact h
    · exact .inr ⟨h1, h2⟩

/-- What the law asks of the region's form. -/
def endsB (md : Region.Mode) (ops : Array Oper) (n : Nat) : Bool :=
  decide (ops.size = n + 1) && (List.range (n + 1)).all fun i => match ops[i]? with
    | none => true
    | some o => o.guard.isNone && (o.after.all fun e => decide (e.on < i)) && (if i = n then (List.range n).all fun j => o.after.any fun e => Region.binds md e && decide (e.on = j) else true)
theorem endsB_spec (h : endsB md ops n = true) : ops.size = n + 1 ∧ (∀ (i : Nat) (o : Oper), ops[i]? = some o → o.guard = none) ∧ (∀ (i : Nat) (o : Oper), ops[i]? = some o → ∀ e ∈ o.after, e.on < i) ∧ ∀ (o : Oper), ops[n]? = some o → ∀ j, j < n → ∃ e ∈ o.after, Region.binds md e = true ∧ e.on = j := by
  unfold endsB at h
  rw [Bool.and_eq_true, List.all_eq_true] at h
  obtain ⟨h1, h2⟩ := h
  have hz : ops.size = n + 1 := by simpa using h1
  have key : ∀ (i : Nat) (o : Oper), ops[i]? = some o → (o.guard.isNone && (o.after.all fun e => decide (e.on < i)) && (if i = n then (List.range n).all fun j => o.after.any fun e => Region.binds md e && decide (e.on = j) else true)) = true := fun i o ho => by
    have hi : i < ops.size := (Array.getElem?_eq_some_iff.1 ho).1
    have := h2 i (by rw [List.mem_range]; omega)
    rwa [ho] at this
  refine ⟨hz, fun i o ho => ?_, fun i o ho e he => ?_, fun o ho j hj => ?_⟩
  · have := key i o ho
    simp only [Bool.and_eq_true] at this
    simpa using this.1.1
  · have := key i o ho
    simp only [Bool.and_eq_true] at this
    have := this.1.2
    rw [Array.all_eq_true_iff_forall_mem] at this
    simpa using this e he
  · have := key n o ho
    simp only [Bool.and_eq_true, if_true] at this
    have := this.2
    rw [List.all_eq_true] at this
    have := this j (by simpa using hj)
    obtain ⟨q, hq, hb⟩ := Array.any_eq_true.1 this
    simp only [Bool.and_eq_true, decide_eq_true_eq] at hb
    exact ⟨_, Array.getElem_mem hq, hb⟩

/-- Something may come up as1 long as1 something has not. -/
theorem some_ready (he : ∀ (i : Nat) (o : Oper), ops[i]? = some o → ∀ e ∈ o.after, e.on < i) {listed : Array Bool} (hl : listed.size = ops.size) : ∀ (i : Nat), i < ops.size → listed.getD i true = false → ∃ j, j ≤ i ∧ j ∈ Region.ready md ops listed := by
  intro i
  induction i using Nat.strongRecOn with
  | ind i ih =>
    intro hi hf
    by_cases hall : ∀ e ∈ (ops[i]'hi).after, Region.binds md e = true → listed.getD e.on false = true
    · exact ⟨i, Nat.le_refl _, mem_ready.2 ⟨hf, _, Array.getElem?_eq_getElem hi, hall⟩⟩
    · simp only [Classical.not_forall] at hall
      obtain ⟨e, hm, hbi, hb⟩ := hall
      have hlt := he i _ (Array.getElem?_eq_getElem hi) e hm
      have h9 : e.on < listed.size := by omega
      have hf' : listed.getD e.on true = false := by
        simp [Array.getD, h9] at hb ⊢
        exact hb
      obtain ⟨j, hj, hr⟩ := ih e.on hlt (by omega) hf'
      exact ⟨j, by omega, hr⟩

/-- All but the last one have come up. -/
def AllBut (n : Nat) (listed : Array Bool) : Prop := listed.size = n + 1 ∧ listed.getD n true = false ∧ ∀ i, i < n → listed.getD i true = true
theorem getD_same {listed : Array Bool} {i : Nat} (h : i < listed.size) : listed.getD i true = listed.getD i false := by simp [Array.getD, h]
theorem getD_pop {listed : Array Bool} {i : Nat} (d : Bool) (h : i + 1 < listed.size) : listed.pop.getD i d = listed.getD i d := by
  have h1 : i < listed.pop.size := by simp; omega
  have h2 : i < listed.size := by omega
  simp only [Array.getD, h1, h2, dif_pos]
  simp
theorem ready_pop (hz : ops.size = n + 1) (he : ∀ (i : Nat) (o : Oper), ops[i]? = some o → ∀ e ∈ o.after, e.on < i) {listed : Array Bool} (hl : listed.size = n + 1) {i : Nat} (hi : i < n) : i ∈ Region.ready md ops listed ↔ i ∈ Region.ready md ops.pop listed.pop := by
  rw [mem_ready, mem_ready, getD_pop _ (by omega), Array.getElem?_pop, if_pos (by omega)]
  refine and_congr Iff.rfl ⟨fun ⟨o, ho, h⟩ => ⟨o, ho, fun e hm hb => ?_⟩, fun ⟨o, ho, h⟩ => ⟨o, ho, fun e hm hb => ?_⟩⟩
  · have := he i o ho e hm
    rw [getD_pop _ (by omega)]
    exact h e hm hb
  · have := he i o ho e hm
    have h9 := h e hm hb
    rwa [getD_pop _ (by omega)] at h9
theorem ends_done (hz : ops.size = n + 1) (he : ∀ (i : Nat) (o : Oper), ops[i]? = some o → ∀ e ∈ o.after, e.on < i) {listed : Array Bool} (h : AllBut n listed) {a : Act} {w : World} (hq : Ends P ops Q n .normal a w) (fuel : Nat) : wpAny P md ops Q (fuel + 1) listed a w := by
  obtain ⟨h1, h2, h3⟩ := h
  have hn : n < ops.size := by omega
  have hr : n ∈ Region.ready md ops listed := mem_ready.2 ⟨h2, _, Array.getElem?_eq_getElem hn, fun e hm hb => by
    have := he n _ (Array.getElem?_eq_getElem hn) e hm
    rw [← getD_same (by omega)]
    exact h3 e.on this⟩
  have hset : Region.ready md ops (listed.setIfInBounds n true) = [] := by
    refine List.eq_nil_iff_forall_not_mem.2 fun i hi => ?_
    obtain ⟨k1, o, ho, _⟩ := mem_ready.1 hi
    have hio : i < ops.size := (Array.getElem?_eq_some_iff.1 ho).1
    by_cases hin : i = n
    · subst hin
      simp [Array.getD, h1] at k1
    · rw [getD_set_ne true (Ne.symm hin), h3 i (by omega)] at k1
      cases k1
  refine ⟨fun h0 => (by rw [h0] at hr; cases hr), fun i hi => ?_⟩
  have hin : i = n := by
    obtain ⟨k1, o, ho, _⟩ := mem_ready.1 hi
    have hio : i < ops.size := (Array.getElem?_eq_some_iff.1 ho).1
    refine Classical.byContradiction fun hne => ?_
    rw [h3 i (by omega)] at k1
    cases k1
  subst hin
  refine wpOp_mono (fun a' w' hq' => ?_) hq
  cases fuel with
  | zero => exact ⟨hset, hq'⟩
  | succ k => exact ⟨fun _ => hq', by rw [hset]; simp⟩
theorem all_but (hz : ops.size = n + 1) (he : ∀ (i : Nat) (o : Oper), ops[i]? = some o → ∀ e ∈ o.after, e.on < i) {listed : Array Bool} (hl : listed.size = n + 1) (hn : listed.getD n true = false) (hr : Region.ready md ops.pop listed.pop = []) : AllBut n listed := by
  refine ⟨hl, hn, fun i hi => ?_⟩
  refine Classical.byContradiction fun hne => ?_
  have hf : listed.getD i true = false := by simpa using hne
  obtain ⟨j, hj, hjr⟩ := some_ready (md := md) he (by omega) i (by omega) hf
  have := (ready_pop hz he hl (by omega)).1 hjr
  rw [hr] at this
  cases this
theorem wpAny_ends (hB : endsB md ops n = true) : ∀ (fuel : Nat) (listed : Array Bool) (a : Act) (w : World), listed.size = n + 1 → listed.getD n true = false → wpAnyH P md ops.pop (Ends P ops Q n) S fuel listed.pop a w → wpAny P md ops Q (fuel + 1) listed a w
  | 0, listed, a, w, hl, hn, h => by
    obtain ⟨hz, hg, he, hlast⟩ := endsB_spec hB
    exact ends_done hz he (all_but hz he hl hn h.1) h.2 0
  | fuel + 1, listed, a, w, hl, hn, h => by
    obtain ⟨hz, hg, he, hlast⟩ := endsB_spec hB
    by_cases h0 : Region.ready md ops.pop listed.pop = []
    · exact ends_done hz he (all_but hz he hl hn h0) (h.1 h0) (fuel + 1)
    · have hlow : ∀ i, i ∈ Region.ready md ops listed → i < n := fun i hi => by
        obtain ⟨k1, o, ho, k2⟩ := mem_ready.1 hi
        have hio : i < ops.size := (Array.getElem?_eq_some_iff.1 ho).1
        refine Classical.byContradiction fun hne => h0 ?_
        have hin : i = n := by omega
        subst hin
        refine List.eq_nil_iff_forall_not_mem.2 fun j hj => ?_
        have hjn : j < i := by
          obtain ⟨_, o', ho', _⟩ := mem_ready.1 hj
          have := (Array.getElem?_eq_some_iff.1 ho').1
          simp at this
          omega
        obtain ⟨e, hm, hb, rfl⟩ := hlast o ho j hjn
        have h9 := k2 e hm hb
        have h8 := (mem_ready.1 ((ready_pop hz he hl hjn).2 hj)).1
        rw [getD_same (by omega)] at h8
        rw [h8] at h9
        cases h9
      refine ⟨fun h1 => ?_, fun i hi => ?_⟩
      · exfalso
        refine h0 (List.eq_nil_iff_forall_not_mem.2 fun j hj => ?_)
        have hjn : j < n := by
          obtain ⟨_, o', ho', _⟩ := mem_ready.1 hj
          have := (Array.getElem?_eq_some_iff.1 ho').1
          simp at this
          omega
        have := (ready_pop hz he hl hjn).2 hj
        rw [h1] at this
        cases this
      · have hin := hlow i hi
        have h2 := h.2 i ((ready_pop hz he hl hin).1 hi)
        refine wpOp_mono (fun a' w' h3 => ?_) (wpOp_pop hz hg hin h2)
        refine wpAny_ends hB fuel _ a' w' (by simpa using hl) (by rw [getD_set_ne true (by omega)]; exact hn) ?_
        have : (listed.setIfInBounds i true).pop = listed.pop.setIfInBounds i true := by
          apply Array.ext_getElem?
          intro k
          simp only [Array.getElem?_pop, Array.getElem?_setIfInBounds, Array.size_pop, Array.size_setIfInBounds]
          by_cases hk : i = k
          · subst hk
            have q1 : i < listed.size := by omega
            have q2 : i < listed.size - 1 := by omega
            simp [q1, q2]
          · simp [hk]
        rw [this]
        exact h3.2

/-- The last one comes up. -/
theorem Ends.last {a : Act} {w : World} {o : Oper} (ho : ops[n]? = some o) (h : ∀ K' : Act → World → Prop, Shut (∀ a w, Q .normal a w → K' a w) → if Region.wanted o (yielded ops a.tmps) = true then Oper.wp P o a w K' Q else K' (a.put o.dst undef) w) : Ends P ops Q n .normal a w :=
  wpOp_step ho h

/-- **A region whose last operation waits for all others.** -/
theorem wp_region_ends {id : Nat} {a : Act} {w : World} {l : List Oper} (n : Nat) (S : World → Prop) (hm : P.follows .mixedOrders = true) (hB : endsB .any l.toArray n = true) (hS : S w.drew)
    (h : S w.drew → wpAnyH P .any (l.take n).toArray (Ends P l.toArray Q n) S n (Array.replicate n false) a w.drew) : (Code.region id l.toArray true).wp P Q a w := by
  obtain ⟨hz, hg, he, hlast⟩ := endsB_spec hB
  refine wp_region_any hm ?_
  rw [hz]
  refine wpAny_ends (S := S) hB n (Array.replicate (n + 1) false) a _ (by simp) (by simp [Array.getD]) ?_
  have h1 : l.toArray.pop = (l.take n).toArray := by
    have hz' : l.length = n + 1 := by simpa using hz
    rw [List.pop_toArray, List.dropLast_eq_take, hz']
    rfl
  have h2 : (Array.replicate (n + 1) false).pop = Array.replicate n false := by simp
  rw [h1, h2]
  exact h hS
end
end Go.Proofs.YtfhhcpmoaggdmaaGreat

/- A region that draws its order, and whose last operation waits for all others, some of them by way of others; see HE. No program is spoken of here. -/
namespace Go.Proofs.YtfhhcpmoaggdmaaGreat
open Go
set_option linter.unusedVariables false

section
variable {P : Program} {ops : Array Oper} {md : Region.Mode} {Q : Exit → Act → World → Prop} {S : World → Prop} {n : Nat}
/-- What the law asks of the region's form: no guards; each operation but the last has one that waits for it. -/
def endsB2 (md : Region.Mode) (ops : Array Oper) (n : Nat) : Bool :=
  decide (ops.size = n + 1) && ((List.range (n + 1)).all fun i => match ops[i]? with
    | none => true
    | some o => o.guard.isNone && (o.after.all fun e => decide (e.on < i))) &&
  (List.range n).all fun j => (List.range (n + 1)).any fun k => decide (j < k) && match ops[k]? with
    | none => false
    | some o => o.after.any fun e => Region.binds md e && decide (e.on = j)
theorem endsB2_spec (h : endsB2 md ops n = true) : ops.size = n + 1 ∧ (∀ (i : Nat) (o : Oper), ops[i]? = some o → o.guard = none) ∧ (∀ (i : Nat) (o : Oper), ops[i]? = some o → ∀ e ∈ o.after, e.on < i) ∧ ∀ j, j < n → ∃ k o, j < k ∧ k ≤ n ∧ ops[k]? = some o ∧ ∃ e ∈ o.after, Region.binds md e = true ∧ e.on = j := by
  unfold endsB2 at h
  rw [Bool.and_eq_true, Bool.and_eq_true, List.all_eq_true, List.all_eq_true] at h
  obtain ⟨⟨h1, h2⟩, h3⟩ := h
  have hz : ops.size = n + 1 := by simpa using h1
  have key : ∀ (i : Nat) (o : Oper), ops[i]? = some o → (o.guard.isNone && (o.after.all fun e => decide (e.on < i))) = true := fun i o ho => by
    have hi : i < ops.size := (Array.getElem?_eq_some_iff.1 ho).1
    have := h2 i (by rw [List.mem_range]; omega)
    rwa [ho] at this
  refine ⟨hz, fun i o ho => ?_, fun i o ho e he => ?_, fun j hj => ?_⟩
  · have := key i o ho
    simp only [Bool.and_eq_true] at this
    simpa using this.1
  · have := key i o ho
    simp only [Bool.and_eq_true] at this
    have := this.2
    rw [Array.all_eq_true_iff_forall_mem] at this
    simpa using this e he
  · have := h3 j (by simpa using hj)
    rw [List.any_eq_true] at this
    obtain ⟨k, hk, hb⟩ := this
    simp only [Bool.and_eq_true, decide_eq_true_eq] at hb
    obtain ⟨hjk, hb⟩ := hb
    cases ho : ops[k]? with
    | none => rw [ho] at hb; cases hb
    | some o =>
      rw [ho] at hb
      obtain ⟨q, hq, hb⟩ := Array.any_eq_true.1 hb
      simp only [Bool.and_eq_true, decide_eq_true_eq] at hb
      exact ⟨k, o, hjk, by have := List.mem_range.1 hk; omega, ho, _, Array.getElem_mem hq, hb⟩
/-- What has come up had all come up that it waits for. -/
def DownC (md : Region.Mode) (ops : Array Oper) (listed : Array Bool) : Prop := ∀ (i : Nat) (o : Oper), ops[i]? = some o → listed.getD i true = true → ∀ e ∈ o.after, Region.binds md e = true → listed.getD e.on false = true
theorem DownC.set {listed : Array Bool} {i : Nat} (h : DownC md ops listed) (hi : i ∈ Region.ready md ops listed) : DownC md ops (listed.setIfInBounds i true) := fun j o ho hj e hm hb => by
  obtain ⟨k1, o', ho', k2⟩ := mem_ready.1 hi
  by_cases he : i = j
  · subst he
    rw [ho] at ho'
    injection ho' with ho'
    subst ho'
    exact getD_set_true (k2 e hm hb)
  · rw [getD_set_ne true he] at hj
    exact getD_set_true (h j o ho hj e hm hb)
theorem last_all (hz : ops.size = n + 1) (hsucc : ∀ j, j < n → ∃ k o, j < k ∧ k ≤ n ∧ ops[k]? = some o ∧ ∃ e ∈ o.after, Region.binds md e = true ∧ e.on = j) {listed : Array Bool} (hl : listed.size = n + 1) (hd : DownC md ops listed) (hr : n ∈ Region.ready md ops listed) : ∀ m j, n - j = m → j < n → listed.getD j false = true := by
  intro m
  induction m using Nat.strongRecOn with
  | ind m ih =>
    intro j hm hj
    obtain ⟨k, o, hjk, hkn, ho, e, he, hb, rfl⟩ := hsucc j hj
    by_cases hk : k = n
    · subst hk
      obtain ⟨_, o', ho', k2⟩ := mem_ready.1 hr
      rw [ho] at ho'
      injection ho' with ho'
      subst ho'
      exact k2 e he hb
    · have hkl := ih (n - k) (by omega) k rfl (by omega)
      exact hd k o ho (by rw [getD_same (by omega)]; exact hkl) e he hb
theorem wpAny_ends2 (hB : endsB2 md ops n = true) : ∀ (fuel : Nat) (listed : Array Bool) (a : Act) (w : World), listed.size = n + 1 → listed.getD n true = false → DownC md ops listed → wpAnyH P md ops.pop (Ends P ops Q n) S fuel listed.pop a w → wpAny P md ops Q (fuel + 1) listed a w
  | 0, listed, a, w, hl, hn, hd, h => by
    obtain ⟨hz, hg, he, hlast⟩ := endsB2_spec hB
    exact ends_done hz he (all_but hz he hl hn h.1) h.2 0
  | fuel + 1, listed, a, w, hl, hn, hd, h => by
    obtain ⟨hz, hg, he, hlast⟩ := endsB2_spec hB
    by_cases h0 : Region.ready md ops.pop listed.pop = []
    · exact ends_done hz he (all_but hz he hl hn h0) (h.1 h0) (fuel + 1)
    · have hlow : ∀ i, i ∈ Region.ready md ops listed → i < n := fun i hi => by
        obtain ⟨k1, o, ho, k2⟩ := mem_ready.1 hi
        have hio : i < ops.size := (Array.getElem?_eq_some_iff.1 ho).1
        refine Classical.byContradiction fun hne => h0 ?_
        have hin : i = n := by omega
        subst hin
        refine List.eq_nil_iff_forall_not_mem.2 fun j hj => ?_
        have hjn : j < i := by
          obtain ⟨_, o', ho', _⟩ := mem_ready.1 hj
          have := (Array.getElem?_eq_some_iff.1 ho').1
          simp at this
          omega
        have h9 := last_all hz hlast hl hd hi _ j rfl hjn
        have h8 := (mem_ready.1 ((ready_pop hz he hl hjn).2 hj)).1
        rw [getD_same (by omega)] at h8
        rw [h8] at h9
        cases h9
      refine ⟨fun h1 => ?_, fun i hi => ?_⟩
      · exfalso
        refine h0 (List.eq_nil_iff_forall_not_mem.2 fun j hj => ?_)
        have hjn : j < n := by
          obtain ⟨_, o', ho', _⟩ := mem_ready.1 hj
          have := (Array.getElem?_eq_some_iff.1 ho').1
          simp at this
          omega
        have := (ready_pop hz he hl hjn).2 hj
        rw [h1] at this
        cases this
      · have hin := hlow i hi
        have h2 := h.2 i ((ready_pop hz he hl hin).1 hi)
        refine wpOp_mono (fun a' w' h3 => ?_) (wpOp_pop hz hg hin h2)
        refine wpAny_ends2 hB fuel _ a' w' (by simpa using hl) (by rw [getD_set_ne true (by omega)]; exact hn) (hd.set hi) ?_
        have : (listed.setIfInBounds i true).pop = listed.pop.setIfInBounds i true := by
          apply Array.ext_getElem?
          intro k
          simp only [Array.getElem?_pop, Array.getElem?_setIfInBounds, Array.size_pop, Array.size_setIfInBounds]
          by_cases hk : i = k
          · subst hk
            have q1 : i < listed.size := by omega
            have q2 : i < listed.size - 1 := by omega
            simp [q1, q2]
          · simp [hk]
        rw [this]
        exact h3.2
theorem wp_region_ends2 {id : Nat} {a : Act} {w : World} {l : List Oper} (n : Nat) (S : World → Prop) (hm : P.follows .mixedOrders = true) (hB : endsB2 .any l.toArray n = true) (hS : S w.drew)
    (h : S w.drew → wpAnyH P .any (l.take n).toArray (Ends P l.toArray Q n) S n (Array.replicate n false) a w.drew) : (Code.region id l.toArray true).wp P Q a w := by
  obtain ⟨hz, hg, he, hlast⟩ := endsB2_spec hB
  refine wp_region_any hm ?_
  rw [hz]
  refine wpAny_ends2 (S := S) hB n (Array.replicate (n + 1) false) a _ (by simp) (by simp [Array.getD]) (fun i o ho hl => ?_) ?_
  · have hio : i < l.toArray.size := (Array.getElem?_eq_some_iff.1 ho).1
    have : i < n + 1 := by omega
    simp [Array.getD, this] at hl
  · have h1 : l.toArray.pop = (l.take n).toArray := by
      have hz' : l.length = n + 1 := by simpa using hz
      rw [List.pop_toArray, List.dropLast_eq_take, hz']
      rfl
    have h2 : (Array.replicate (n + 1) false).pop = Array.replicate n false := by simp
    rw [h1, h2]
    exact h hS
end
end Go.Proofs.YtfhhcpmoaggdmaaGreat

/- Package slot: the small functions, what is handed in, and the library's searches with it, by their contracts. -/
namespace Go.Proofs.YtfhhcpmoaggdmaaGreat
open Go.RowKit Go.Lib Go.Sort
set_option linter.unusedVariables false

theorem only_putc {w w' : World} {row : Option Nat} (g : w.grownBy w' row) {p : Addr} (hp : w.heap.size ≤ p.block) (v : Value) : w.grownBy (w'.setCell p v) row :=
  ⟨g.os, g.tape, g.output, by simpa using g.size, fun k hk hn => (Below.heap_setCell w' p v k (by rintro rfl; omega)).trans (g.block k hk hn)⟩
theorem sticks_any (x : W3) (w : World) : Calls Tryz.prog 63 #[w3v x] w fun e w' => e = .returned (spv (w3s x)) ∧ w.grownBy w' none := by
  obtain ⟨o, a, b⟩ := x
  go_enter Tryz.func63, Tryz.ntmps63
  go_wp2
  refine bodyPost_ret (v := .agg #[.int .i64 a, .int .i64 b]) (by simp [results, Tryz.results63, go_sem]) rfl ⟨rfl, only_alloc (only_alloc (only_refl _ _) _) _⟩
theorem suns_any (x : W3) (h : 0 ≤ x.2.1 ∧ x.2.1 < x.2.2 ∧ x.2.2 ≤ 4096) (w : World) : Calls Tryz.prog 64 #[w3v x] w fun e w' => e = .returned (.int .i64 ((x.2.2 - x.2.1) / 4)) ∧ w.grownBy w' none := by
  obtain ⟨o, a, b⟩ := x
  obtain ⟨h1, h2, h3⟩ := h
  simp only at h1 h2 h3
  have u1 : IntKind.i64.wrap (b - a) = b - a := by rw [IntKind.wrap_i64]; omega
  have u2 : Int.tdiv (b - a) 4 = (b - a) / 4 := Int.tdiv_eq_ediv_of_nonneg (by omega)
  have u3 : IntKind.i64.wrap ((b - a) / 4) = (b - a) / 4 := by rw [IntKind.wrap_i64]; omega
  go_enter Tryz.func64, Tryz.ntmps64
  go_wp2
  go_ret
  refine ⟨?_, only_alloc (only_refl _ _) _⟩
  first | rfl | (rw [u2]; done) | simp [u1, u2, u3]
/-- Which of two begins first. -/
theorem scmp_any (x y : W3) (w : World) : Calls Tryz.prog 50 #[w3v x, w3v y] w fun e w' => e = .returned (.int .i64 (So.cmpI x.2.1 y.2.1)) ∧ ∃ q os', w' = grow (w.drewN q) os' := by
  obtain ⟨x1, x2, x3⟩ := x
  obtain ⟨y1, y2, y3⟩ := y
  have HC := Lib.hid (fun W => compare_any x2 y2 W)
  generalize So.cmpI x2 y2 = r at HC ⊢
  go_enter Tryz.func50, Tryz.ntmps50
  go_wp2_with (go_at_call 51; (with_reducible refine (HC.out _).mono ?_); rintro e w2 ⟨rfl, rfl⟩)
  go_ret
  exact ⟨rfl, 0, _, by rw [alloc_eq_grow, alloc_eq_grow, grow_grow]; rfl⟩
set_option maxHeartbeats 1600000 in
theorem sat_any (x : W3) (at' : Int) (g : Nat) (w : World) (hg : w.cell? ⟨g, 0, none⟩ = some (.int .i64 at')) : Calls Tryz.prog 62 #[w3v x, .pointer (some ⟨g, 0, none⟩)] w fun e w' => e = .returned (.bool (holdsB (w3s x) at')) ∧ w.grownBy w' none := by
  obtain ⟨x1, x2, x3⟩ := x
  show Calls Tryz.prog 62 #[.agg #[.int .i64 x1, .int .i64 x2, .int .i64 x3], .pointer (some ⟨g, 0, none⟩)] w fun e w' => e = .returned (.bool (holdsB (x2, x3) at')) ∧ w.grownBy w' none
  have HX := Lib.hid (fun W => sticks_any (x1, x2, x3) W)
  have HH := Lib.hid (fun W => holds_any (x2, x3) at' W)
  generalize holdsB (x2, x3) at' = r at *
  have hgl := World.block_lt_of_cell? w _ hg
  obtain ⟨W1, hW, G0, hB⟩ := box1 w 84 #[.int .i64 x1, .int .i64 x2, .int .i64 x3]
  have k1 : ∀ d os, (grow (redrawn W1 d) os).cell? ⟨g, 0, none⟩ = some (.int .i64 at') := fun d os => cell_regrown (by rw [hW]; rw [World.cell?_alloc_some _ _ _ (by rw [hg]; rfl)]; exact hg) d os
  have k2 := blk_re hB
  have G0 := Lib.hid G0
  have hne : ¬ g = w.heap.size := by have : g < w.heap.size := hgl; omega
  clear hB hg hgl
  go_enter Tryz.func62, Tryz.ntmps62
  go_upto_region 1 with (fail)
  rw [← hW]
  clear hW
  refine wp_region_quiet_below (by kernel_rfl) (by kernel_rfl) ?_
  repeat (go_big_quiet_step ((first | (go_at_call 63; with_reducible exact rg1 (HX.out _)) | (go_at_call 44; with_reducible exact rg1 (HH.out _)))))
  refine wpQuiet_nil ?_
  intro w3 hw3
  obtain ⟨p, rfl⟩ := hw3
  have G3 := Lib.hid (only_trans G0.out (only_re W1 p.d p.os))
  clear k1 k2
  generalize grow (redrawn W1 p.d) p.os = w3 at G3 ⊢
  go_wp2
  go_ret
  exact ⟨by simp, G3.out⟩
set_option maxHeartbeats 1600000 in
theorem idxa17_any (g : Nat) (p : Nat → Bool) (A : Option Addr) (n cap : Nat) (d : Nat → W3) (w : World) (hst : Row3 w A n d) (hm : n ≤ 9223372036854775807)
    (H : ∀ i, i < n → ∀ W, w.grownBy W none → Calls Tryz.prog 62 #[w3v (d i), .pointer (some ⟨g, 0, none⟩)] W fun e w' => e = .returned (.bool (p i)) ∧ W.grownBy w' none) :
    Calls Tryz.prog 61 #[.slice A n cap, .func (.func 62) #[] #[.pointer (some ⟨g, 0, none⟩)]] w fun e w' => e = .returned (.int .i64 (fstI p n)) ∧ w.grownBy w' none := by
  have HST := Lib.hid hst
  have HC := Lib.hid H
  clear hst H
  go_enter Tryz.func61, Tryz.ntmps61
  go_wp2
  go_loopw [8] (fun y wr => ∃ i : Nat, y = .int .i64 i ∧ i ≤ n ∧ Hid (∀ k, k < i → p k = false) ∧ Hid (w.grownBy wr none)) (fun y _ => n - (intOf y).toNat)
  case atStart => exact ⟨0, rfl, by omega, Lib.hid (fun k hk => absurd hk (by omega)), Lib.hid (only_refl _ _)⟩
  case round =>
    obtain ⟨i, rfl, hi, HN, HG⟩ := hrel
    by_cases hin : i < n
    · have i1 : (i : Int) < (n : Int) := by omega
      obtain ⟨b, off, rfl, hb, hc⟩ := (HST.out.grown HG.out).2 (by omega)
      obtain ⟨c0, c1, c2⟩ := hc i hin
      have HCI := Lib.hid (HC.out i hin wr HG.out)
      have HP := Lib.hid (fstI_at (q := p) hin)
      have HP2 := Lib.hid (show p i = false → ∀ k, k < i + 1 → p k = false from fun h k hk => by
        by_cases e : k = i
        · rw [e]; exact h
        · exact HN.out k (by omega))
      clear hc hb
      generalize d i = x at c0 c1 c2 HCI
      obtain ⟨x1, x2, x3⟩ := x
      simp only at c0 c1 c2
      obtain ⟨r, hr⟩ : ∃ r, r = p i := ⟨_, rfl⟩
      rw [← hr] at HCI HP HP2
      clear hr
      go_wp2_with (go_at_call 62; (with_reducible refine HCI.out.mono ?_); rintro e w2 ⟨rfl, g2⟩; have G2 := Lib.hid (only_trans HG.out g2); clear g2; cases r)
      · go_roundw
        case rel => exact ⟨i + 1, by go_num, by omega, Lib.hid (HP2.out trivial), G2⟩
        case measure => simp [intOf] <;> omega
      · go_ret
        exact ⟨ret_int (HP.out trivial HN.out).symm, G2.out⟩
    · obtain rfl : i = n := by omega
      have i1 : ¬ (i : Int) < (i : Int) := by omega
      go_wp2
      go_ret
      exact ⟨ret_int (fstI_none HN.out).symm, HG.out⟩
set_option maxHeartbeats 1600000 in
theorem idxk17_any (g : Nat) (p : Nat → Bool) (A : Option Addr) (n cap : Nat) (d : Nat → W3) (w : World) (hst : Row3 w A n d) (hm : n ≤ 9223372036854775807)
    (H : ∀ i, i < n → ∀ W, w.grownBy W none → Calls Tryz.prog 88 #[w3v (d i), .pointer (some ⟨g, 0, none⟩)] W fun e w' => e = .returned (.bool (p i)) ∧ W.grownBy w' none) :
    Calls Tryz.prog 61 #[.slice A n cap, .func (.func 88) #[] #[.pointer (some ⟨g, 0, none⟩)]] w fun e w' => e = .returned (.int .i64 (fstI p n)) ∧ w.grownBy w' none := by
  have HST := Lib.hid hst
  have HC := Lib.hid H
  clear hst H
  go_enter Tryz.func61, Tryz.ntmps61
  go_wp2
  go_loopw [8] (fun y wr => ∃ i : Nat, y = .int .i64 i ∧ i ≤ n ∧ Hid (∀ k, k < i → p k = false) ∧ Hid (w.grownBy wr none)) (fun y _ => n - (intOf y).toNat)
  case atStart => exact ⟨0, rfl, by omega, Lib.hid (fun k hk => absurd hk (by omega)), Lib.hid (only_refl _ _)⟩
  case round =>
    obtain ⟨i, rfl, hi, HN, HG⟩ := hrel
    by_cases hin : i < n
    · have i1 : (i : Int) < (n : Int) := by omega
      obtain ⟨b, off, rfl, hb, hc⟩ := (HST.out.grown HG.out).2 (by omega)
      obtain ⟨c0, c1, c2⟩ := hc i hin
      have HCI := Lib.hid (HC.out i hin wr HG.out)
      have HP := Lib.hid (fstI_at (q := p) hin)
      have HP2 := Lib.hid (show p i = false → ∀ k, k < i + 1 → p k = false from fun h k hk => by
        by_cases e : k = i
        · rw [e]; exact h
        · exact HN.out k (by omega))
      clear hc hb
      generalize d i = x at c0 c1 c2 HCI
      obtain ⟨x1, x2, x3⟩ := x
      simp only at c0 c1 c2
      obtain ⟨r, hr⟩ : ∃ r, r = p i := ⟨_, rfl⟩
      rw [← hr] at HCI HP HP2
      clear hr
      go_wp2_with (go_at_call 88; (with_reducible refine HCI.out.mono ?_); rintro e w2 ⟨rfl, g2⟩; have G2 := Lib.hid (only_trans HG.out g2); clear g2; cases r)
      · go_roundw
        case rel => exact ⟨i + 1, by go_num, by omega, Lib.hid (HP2.out trivial), G2⟩
        case measure => simp [intOf] <;> omega
      · go_ret
        exact ⟨ret_int (HP.out trivial HN.out).symm, G2.out⟩
    · obtain rfl : i = n := by omega
      have i1 : ¬ (i : Int) < (i : Int) := by omega
      go_wp2
      go_ret
      exact ⟨ret_int (fstI_none HN.out).symm, HG.out⟩
theorem hasc17_any (g : Nat) (p : Nat → Bool) (A : Option Addr) (n cap : Nat) (d : Nat → W3) (w : World) (hst : Row3 w A n d) (hm : n ≤ 9223372036854775807)
    (H : ∀ i, i < n → ∀ W, w.grownBy W none → Calls Tryz.prog 88 #[w3v (d i), .pointer (some ⟨g, 0, none⟩)] W fun e w' => e = .returned (.bool (p i)) ∧ W.grownBy w' none) :
    Calls Tryz.prog 87 #[.slice A n cap, .func (.func 88) #[] #[.pointer (some ⟨g, 0, none⟩)]] w fun e w' => e = .returned (.bool (anyB p n)) ∧ w.grownBy w' none := by
  have HI := Lib.hid (idxk17_any g p A n cap d w hst hm H)
  have HE := Lib.hid (anyB_eq p n)
  generalize fstI p n = r at HI HE
  clear hst H
  go_enter Tryz.func87, Tryz.ntmps87
  go_wp2_with (go_at_call 61; (with_reducible refine HI.out.mono ?_); rintro e w2 ⟨rfl, g2⟩; have G2 := Lib.hid g2; clear g2)
  go_ret
  exact ⟨ret_bool HE.out.symm, G2.out⟩


end Go.Proofs.YtfhhcpmoaggdmaaGreat

/- Package plan: the small functions, what is handed in, and the library's search with it, by their contracts. -/
namespace Go.Proofs.YtfhhcpmoaggdmaaGreat
open Go.RowKit Go.Lib Go.Sort
set_option linter.unusedVariables false

theorem pticks_any (x : W3) (w : World) : Calls Tryz.prog 36 #[w3v x] w fun e w' => e = .returned (spv (w3s x)) ∧ w.grownBy w' none := by
  obtain ⟨o, a, b⟩ := x
  go_enter Tryz.func36, Tryz.ntmps36
  go_wp2
  refine bodyPost_ret (v := .agg #[.int .i64 a, .int .i64 b]) (by simp [results, Tryz.results36, go_sem]) rfl ⟨rfl, only_alloc (only_alloc (only_refl _ _) _) _⟩
theorem pwindow1_any (x : W3) (o : Int) (g : Nat) (w : World) (hg : w.cell? ⟨g, 0, none⟩ = some (.int .i64 o)) : Calls Tryz.prog 38 #[w3v x, .pointer (some ⟨g, 0, none⟩)] w fun e w' => e = .returned (.bool (x.1 == o)) ∧ w.grownBy w' none := by
  obtain ⟨x1, x2, x3⟩ := x
  have hgl := World.block_lt_of_cell? w _ hg
  have hne : ¬ g = w.heap.size := by have : g < w.heap.size := hgl; omega
  have k1 : (w.alloc (.cells #[.int .i64 x1, .int .i64 x2, .int .i64 x3] 78)).cell? ⟨g, 0, none⟩ = some (.int .i64 o) := by rw [World.cell?_alloc_some _ _ _ (by rw [hg]; rfl)]; exact hg
  clear hgl
  go_enter Tryz.func38, Tryz.ntmps38
  go_wp2
  go_ret
  exact ⟨rfl, only_alloc (only_refl _ _) _⟩
theorem popens1_any (x : W3) (o : Int) (g : Nat) (w : World) (hg : w.cell? ⟨g, 0, none⟩ = some (.int .i64 o)) : Calls Tryz.prog 45 #[w3v x, .pointer (some ⟨g, 0, none⟩)] w fun e w' => e = .returned (.bool (x.2.1 == o)) ∧ w.grownBy w' none := by
  obtain ⟨x1, x2, x3⟩ := x
  have hgl := World.block_lt_of_cell? w _ hg
  have hne : ¬ g = w.heap.size := by have : g < w.heap.size := hgl; omega
  have k1 : (w.alloc (.cells #[.int .i64 x1, .int .i64 x2, .int .i64 x3] 78)).cell? ⟨g, 0, none⟩ = some (.int .i64 o) := by rw [World.cell?_alloc_some _ _ _ (by rw [hg]; rfl)]; exact hg
  clear hgl
  go_enter Tryz.func45, Tryz.ntmps45
  go_wp2
  go_ret
  exact ⟨rfl, only_alloc (only_refl _ _) _⟩
set_option maxHeartbeats 1600000 in
theorem pruns1_any (x : W3) (o : Int) (g : Nat) (w : World) (hg : w.cell? ⟨g, 0, none⟩ = some (.int .i64 o)) : Calls Tryz.prog 43 #[w3v x, .pointer (some ⟨g, 0, none⟩)] w fun e w' => e = .returned (.bool (holdsB (w3s x) o)) ∧ w.grownBy w' none := by
  obtain ⟨x1, x2, x3⟩ := x
  show Calls Tryz.prog 43 #[.agg #[.int .i64 x1, .int .i64 x2, .int .i64 x3], .pointer (some ⟨g, 0, none⟩)] w fun e w' => e = .returned (.bool (holdsB (x2, x3) o)) ∧ w.grownBy w' none
  have HX := Lib.hid (fun W => pticks_any (x1, x2, x3) W)
  have HH := Lib.hid (fun W => holds_any (x2, x3) o W)
  generalize holdsB (x2, x3) o = r at *
  have hgl := World.block_lt_of_cell? w _ hg
  obtain ⟨W1, hW, G0, hB⟩ := box1 w 78 #[.int .i64 x1, .int .i64 x2, .int .i64 x3]
  have k1 : ∀ d os, (grow (redrawn W1 d) os).cell? ⟨g, 0, none⟩ = some (.int .i64 o) := fun d os => cell_regrown (by rw [hW]; rw [World.cell?_alloc_some _ _ _ (by rw [hg]; rfl)]; exact hg) d os
  have k2 := blk_re hB
  have G0 := Lib.hid G0
  have hne : ¬ g = w.heap.size := by have : g < w.heap.size := hgl; omega
  clear hB hg hgl
  go_enter Tryz.func43, Tryz.ntmps43
  go_upto_region 1 with (fail)
  rw [← hW]
  clear hW
  refine wp_region_quiet_below (by kernel_rfl) (by kernel_rfl) ?_
  repeat (go_big_quiet_step ((first | (go_at_call 36; with_reducible exact rg1 (HX.out _)) | (go_at_call 44; with_reducible exact rg1 (HH.out _)))))
  refine wpQuiet_nil ?_
  intro w3 hw3
  obtain ⟨p, rfl⟩ := hw3
  have G3 := Lib.hid (only_trans G0.out (only_re W1 p.d p.os))
  clear k1 k2
  generalize grow (redrawn W1 p.d) p.os = w3 at G3 ⊢
  go_wp2
  go_ret
  exact ⟨by simp, G3.out⟩
set_option maxHeartbeats 1600000 in
theorem pidxWindow_any (g : Nat) (p : Nat → Bool) (A : Option Addr) (n cap : Nat) (d : Nat → W3) (w : World) (hst : Row3 w A n d) (hm : n ≤ 9223372036854775807)
    (H : ∀ i, i < n → ∀ W, w.grownBy W none → Calls Tryz.prog 38 #[w3v (d i), .pointer (some ⟨g, 0, none⟩)] W fun e w' => e = .returned (.bool (p i)) ∧ W.grownBy w' none) :
    Calls Tryz.prog 59 #[.slice A n cap, .func (.func 38) #[] #[.pointer (some ⟨g, 0, none⟩)]] w fun e w' => e = .returned (.int .i64 (fstI p n)) ∧ w.grownBy w' none := by
  have HST := Lib.hid hst
  have HC := Lib.hid H
  clear hst H
  go_enter Tryz.func59, Tryz.ntmps59
  go_wp2
  go_loopw [8] (fun y wr => ∃ i : Nat, y = .int .i64 i ∧ i ≤ n ∧ Hid (∀ k, k < i → p k = false) ∧ Hid (w.grownBy wr none)) (fun y _ => n - (intOf y).toNat)
  case atStart => exact ⟨0, rfl, by omega, Lib.hid (fun k hk => absurd hk (by omega)), Lib.hid (only_refl _ _)⟩
  case round =>
    obtain ⟨i, rfl, hi, HN, HG⟩ := hrel
    by_cases hin : i < n
    · have i1 : (i : Int) < (n : Int) := by omega
      obtain ⟨b, off, rfl, hb, hc⟩ := (HST.out.grown HG.out).2 (by omega)
      obtain ⟨c0, c1, c2⟩ := hc i hin
      have HCI := Lib.hid (HC.out i hin wr HG.out)
      have HP := Lib.hid (fstI_at (q := p) hin)
      have HP2 := Lib.hid (show p i = false → ∀ k, k < i + 1 → p k = false from fun h k hk => by
        by_cases e : k = i
        · rw [e]; exact h
        · exact HN.out k (by omega))
      clear hc hb
      generalize d i = x at c0 c1 c2 HCI
      obtain ⟨x1, x2, x3⟩ := x
      simp only at c0 c1 c2
      obtain ⟨r, hr⟩ : ∃ r, r = p i := ⟨_, rfl⟩
      rw [← hr] at HCI HP HP2
      clear hr
      go_wp2_with (go_at_call 38; (with_reducible refine HCI.out.mono ?_); rintro e w2 ⟨rfl, g2⟩; have G2 := Lib.hid (only_trans HG.out g2); clear g2; cases r)
      · go_roundw
        case rel => exact ⟨i + 1, by go_num, by omega, Lib.hid (HP2.out trivial), G2⟩
        case measure => simp [intOf] <;> omega
      · go_ret
        exact ⟨ret_int (HP.out trivial HN.out).symm, G2.out⟩
    · obtain rfl : i = n := by omega
      have i1 : ¬ (i : Int) < (i : Int) := by omega
      go_wp2
      go_ret
      exact ⟨ret_int (fstI_none HN.out).symm, HG.out⟩
set_option maxHeartbeats 1600000 in
theorem pidxOpens_any (g : Nat) (p : Nat → Bool) (A : Option Addr) (n cap : Nat) (d : Nat → W3) (w : World) (hst : Row3 w A n d) (hm : n ≤ 9223372036854775807)
    (H : ∀ i, i < n → ∀ W, w.grownBy W none → Calls Tryz.prog 45 #[w3v (d i), .pointer (some ⟨g, 0, none⟩)] W fun e w' => e = .returned (.bool (p i)) ∧ W.grownBy w' none) :
    Calls Tryz.prog 59 #[.slice A n cap, .func (.func 45) #[] #[.pointer (some ⟨g, 0, none⟩)]] w fun e w' => e = .returned (.int .i64 (fstI p n)) ∧ w.grownBy w' none := by
  have HST := Lib.hid hst
  have HC := Lib.hid H
  clear hst H
  go_enter Tryz.func59, Tryz.ntmps59
  go_wp2
  go_loopw [8] (fun y wr => ∃ i : Nat, y = .int .i64 i ∧ i ≤ n ∧ Hid (∀ k, k < i → p k = false) ∧ Hid (w.grownBy wr none)) (fun y _ => n - (intOf y).toNat)
  case atStart => exact ⟨0, rfl, by omega, Lib.hid (fun k hk => absurd hk (by omega)), Lib.hid (only_refl _ _)⟩
  case round =>
    obtain ⟨i, rfl, hi, HN, HG⟩ := hrel
    by_cases hin : i < n
    · have i1 : (i : Int) < (n : Int) := by omega
      obtain ⟨b, off, rfl, hb, hc⟩ := (HST.out.grown HG.out).2 (by omega)
      obtain ⟨c0, c1, c2⟩ := hc i hin
      have HCI := Lib.hid (HC.out i hin wr HG.out)
      have HP := Lib.hid (fstI_at (q := p) hin)
      have HP2 := Lib.hid (show p i = false → ∀ k, k < i + 1 → p k = false from fun h k hk => by
        by_cases e : k = i
        · rw [e]; exact h
        · exact HN.out k (by omega))
      clear hc hb
      generalize d i = x at c0 c1 c2 HCI
      obtain ⟨x1, x2, x3⟩ := x
      simp only at c0 c1 c2
      obtain ⟨r, hr⟩ : ∃ r, r = p i := ⟨_, rfl⟩
      rw [← hr] at HCI HP HP2
      clear hr
      go_wp2_with (go_at_call 45; (with_reducible refine HCI.out.mono ?_); rintro e w2 ⟨rfl, g2⟩; have G2 := Lib.hid (only_trans HG.out g2); clear g2; cases r)
      · go_roundw
        case rel => exact ⟨i + 1, by go_num, by omega, Lib.hid (HP2.out trivial), G2⟩
        case measure => simp [intOf] <;> omega
      · go_ret
        exact ⟨ret_int (HP.out trivial HN.out).symm, G2.out⟩
    · obtain rfl : i = n := by omega
      have i1 : ¬ (i : Int) < (i : Int) := by omega
      go_wp2
      go_ret
      exact ⟨ret_int (fstI_none HN.out).symm, HG.out⟩
set_option maxHeartbeats 1600000 in
theorem pidxRuns_any (g : Nat) (p : Nat → Bool) (A : Option Addr) (n cap : Nat) (d : Nat → W3) (w : World) (hst : Row3 w A n d) (hm : n ≤ 9223372036854775807)
    (H : ∀ i, i < n → ∀ W, w.grownBy W none → Calls Tryz.prog 43 #[w3v (d i), .pointer (some ⟨g, 0, none⟩)] W fun e w' => e = .returned (.bool (p i)) ∧ W.grownBy w' none) :
    Calls Tryz.prog 59 #[.slice A n cap, .func (.func 43) #[] #[.pointer (some ⟨g, 0, none⟩)]] w fun e w' => e = .returned (.int .i64 (fstI p n)) ∧ w.grownBy w' none := by
  have HST := Lib.hid hst
  have HC := Lib.hid H
  clear hst H
  go_enter Tryz.func59, Tryz.ntmps59
  go_wp2
  go_loopw [8] (fun y wr => ∃ i : Nat, y = .int .i64 i ∧ i ≤ n ∧ Hid (∀ k, k < i → p k = false) ∧ Hid (w.grownBy wr none)) (fun y _ => n - (intOf y).toNat)
  case atStart => exact ⟨0, rfl, by omega, Lib.hid (fun k hk => absurd hk (by omega)), Lib.hid (only_refl _ _)⟩
  case round =>
    obtain ⟨i, rfl, hi, HN, HG⟩ := hrel
    by_cases hin : i < n
    · have i1 : (i : Int) < (n : Int) := by omega
      obtain ⟨b, off, rfl, hb, hc⟩ := (HST.out.grown HG.out).2 (by omega)
      obtain ⟨c0, c1, c2⟩ := hc i hin
      have HCI := Lib.hid (HC.out i hin wr HG.out)
      have HP := Lib.hid (fstI_at (q := p) hin)
      have HP2 := Lib.hid (show p i = false → ∀ k, k < i + 1 → p k = false from fun h k hk => by
        by_cases e : k = i
        · rw [e]; exact h
        · exact HN.out k (by omega))
      clear hc hb
      generalize d i = x at c0 c1 c2 HCI
      obtain ⟨x1, x2, x3⟩ := x
      simp only at c0 c1 c2
      obtain ⟨r, hr⟩ : ∃ r, r = p i := ⟨_, rfl⟩
      rw [← hr] at HCI HP HP2
      clear hr
      go_wp2_with (go_at_call 43; (with_reducible refine HCI.out.mono ?_); rintro e w2 ⟨rfl, g2⟩; have G2 := Lib.hid (only_trans HG.out g2); clear g2; cases r)
      · go_roundw
        case rel => exact ⟨i + 1, by go_num, by omega, Lib.hid (HP2.out trivial), G2⟩
        case measure => simp [intOf] <;> omega
      · go_ret
        exact ⟨ret_int (HP.out trivial HN.out).symm, G2.out⟩
    · obtain rfl : i = n := by omega
      have i1 : ¬ (i : Int) < (i : Int) := by omega
      go_wp2
      go_ret
      exact ⟨ret_int (fstI_none HN.out).symm, HG.out⟩
/-- A plan's data: the ticks of a frame, its rows of windows and of clients, its tables' blocks. -/
structure Pln where
  fr : Int
  wA : Option Addr
  wn : Nat
  wc : Nat
  wd : Nat → W3
  cA : Option Addr
  cn : Nat
  cc : Nat
  cd : Nat → Cl
  sb : Nat
  rb : Nat
abbrev plnA (P : Pln) : Array Value := #[.int .i64 P.fr, .slice P.wA P.wn P.wc, .slice P.cA P.cn P.cc, .pointer (some ⟨P.sb, 0, none⟩), .pointer (some ⟨P.rb, 0, none⟩)]
/-- A plan at a block. -/
structure PlnV (W : World) (b : Nat) (P : Pln) : Prop where
  blk : Blk W b 81 (plnA P)
  wins : Row3 W P.wA P.wn P.wd
  clis : RowC W P.cA P.cn P.cd
  wle : P.wn ≤ 1000
  cle : P.cn ≤ 1000
theorem PlnV.grown {W W' : World} {b : Nat} {P : Pln} (h : PlnV W b P) (g : W.grownBy W' none) : PlnV W' b P := ⟨h.blk.only g (by simp), h.wins.grown g, h.clis.grown g, h.wle, h.cle⟩
theorem PlnV.cells {W : World} {b : Nat} {P : Pln} (h : PlnV W b P) : W.cell? ⟨b, 0, none⟩ = some (.int .i64 P.fr) ∧ W.cell? ⟨b, 1, none⟩ = some (.slice P.wA P.wn P.wc) ∧ W.cell? ⟨b, 2, none⟩ = some (.slice P.cA P.cn P.cc) ∧ W.cell? ⟨b, 3, none⟩ = some (.pointer (some ⟨P.sb, 0, none⟩)) ∧ W.cell? ⟨b, 4, none⟩ = some (.pointer (some ⟨P.rb, 0, none⟩)) := ⟨h.blk.cell 0, h.blk.cell 1, h.blk.cell 2, h.blk.cell 3, h.blk.cell 4⟩
theorem pframe_any (b : Nat) (P : Pln) (w : World) (h : PlnV w b P) : Calls Tryz.prog 9 #[.pointer (some ⟨b, 0, none⟩)] w fun e w' => e = .returned (.int .i64 P.fr) ∧ w = w' := by
  obtain ⟨c0, c1, c2, c3, c4⟩ := h.cells
  clear h
  go_enter Tryz.func9, Tryz.ntmps9
  go_wp2
  go_ret
  exact ⟨rfl, rfl⟩
theorem powners_any (b : Nat) (P : Pln) (w : World) (h : PlnV w b P) : Calls Tryz.prog 10 #[.pointer (some ⟨b, 0, none⟩)] w fun e w' => e = .returned (.int .i64 P.cn) ∧ w = w' := by
  obtain ⟨c0, c1, c2, c3, c4⟩ := h.cells
  clear h
  go_enter Tryz.func10, Tryz.ntmps10
  go_wp2
  go_ret
  exact ⟨rfl, rfl⟩
end Go.Proofs.YtfhhcpmoaggdmaaGreat

/- Package slot: does a slot meet one that is there, by the contracts. -/
namespace Go.Proofs.YtfhhcpmoaggdmaaGreat
open Go.RowKit Go.Lib Go.Sort
set_option linter.unusedVariables false

theorem only_drew1 {a w : World} {row : Option Nat} (h : a.grownBy w row) : a.grownBy w.drew row := only_drewN h 1
set_option maxHeartbeats 1600000 in
set_option maxRecDepth 20000 in
theorem schk_any (x y : W3) (g : Nat) (w : World) (hg : Blk w g 84 #[.int .i64 x.1, .int .i64 x.2.1, .int .i64 x.2.2]) : Calls Tryz.prog 88 #[w3v y, .pointer (some ⟨g, 0, none⟩)] w fun e w' => e = .returned (.bool (meetsB (w3s x) (w3s y))) ∧ w.grownBy w' none := by
  obtain ⟨x1, x2, x3⟩ := x
  obtain ⟨y1, y2, y3⟩ := y
  show Calls Tryz.prog 88 #[.agg #[.int .i64 y1, .int .i64 y2, .int .i64 y3], .pointer (some ⟨g, 0, none⟩)] w fun e w' => e = .returned (.bool (meetsB (x2, x3) (y2, y3))) ∧ w.grownBy w' none
  have HX := Lib.hid (fun W => sticks_any (x1, x2, x3) W)
  have HY := Lib.hid (fun W => sticks_any (y1, y2, y3) W)
  have HM := Lib.hid (fun W => meet_any (x2, x3) (y2, y3) W)
  generalize meetsB (x2, x3) (y2, y3) = r at *
  generalize meetV (x2, x3) (y2, y3) = v at *
  obtain ⟨v1, v2⟩ := v
  obtain ⟨W1, hW, G0, hB⟩ := box1 w 84 #[.int .i64 y1, .int .i64 y2, .int .i64 y3]
  have hgW := hg.only G0 (by simp)
  have k1 : ∀ W, W1.grownBy W none → W.cell? ⟨g, 0, none⟩ = some (.int .i64 x1) ∧ W.cell? ⟨g, 1, none⟩ = some (.int .i64 x2) ∧ W.cell? ⟨g, 2, none⟩ = some (.int .i64 x3) ∧ W.cell? ⟨w.heap.size, 0, none⟩ = some (.int .i64 y1) ∧ W.cell? ⟨w.heap.size, 1, none⟩ = some (.int .i64 y2) ∧ W.cell? ⟨w.heap.size, 2, none⟩ = some (.int .i64 y3) := fun W k => by
    have a := hgW.only k (by simp)
    have b := hB.only k (by simp)
    exact ⟨a.cell 0, a.cell 1, a.cell 2, b.cell 0, b.cell 1, b.cell 2⟩
  have K1 := Lib.hid k1
  have G0 := Lib.hid G0
  have hne : ¬ g = w.heap.size := by have := hg.lt; omega
  have HSZ := Lib.hid (show W1.heap.size = w.heap.size + 1 by rw [hW]; simp)
  have a0 : W1.grownBy W1 none := only_refl _ _
  have hgl := hg.lt
  clear hB hg hgW k1
  go_enter Tryz.func88, Tryz.ntmps88
  go_upto_region 1 with (fail)
  rw [← hW]
  clear hW
  obtain ⟨c0, c1, c2, d0, d1, d2⟩ := K1.out W1 a0
  go_region_held3 (fun w' => w'.cell? ⟨g, 0, none⟩ = some (.int .i64 x1) ∧ w'.cell? ⟨g, 1, none⟩ = some (.int .i64 x2) ∧ w'.cell? ⟨g, 2, none⟩ = some (.int .i64 x3) ∧ w'.cell? ⟨w.heap.size, 0, none⟩ = some (.int .i64 y1) ∧ w'.cell? ⟨w.heap.size, 1, none⟩ = some (.int .i64 y2) ∧ w'.cell? ⟨w.heap.size, 2, none⟩ = some (.int .i64 y3)) (first
    | exact K1.out _ (only_putc (only_putc GN3 (by first | exact Nat.le_refl _ | (simp; done) | (simp; omega)) _) (by first | exact Nat.le_refl _ | (simp; done) | (simp; omega)) _)
    | exact K1.out _ (only_alloc GN3 _) | exact K1.out _ GN3 | exact K1.out _ (only_alloc GN2 _) | exact K1.out _ GN2 | exact K1.out _ (only_alloc GN1 _) | exact K1.out _ GN1
    | exact K1.out _ (only_drew1 (only_alloc a0 _)) | exact K1.out _ (only_alloc (only_drew1 a0) _) | exact K1.out _ (only_drew1 a0) | fail "keep") (first
    | (go_at_call 63; (with_reducible refine (HX.out _).mono ?_); rintro e w3 ⟨rfl, g3⟩; have GN1 : W1.grownBy w3 none := (by first | exact only_trans (only_drew1 a0) g3 | exact only_trans (only_drew1 (only_alloc a0 _)) g3 | exact only_trans (only_alloc (only_drew1 a0) _) g3); have s1 := GN1.size; (try have HZ1 := Lib.hid ((Blk.new W1.drew 40 #[.int .i64 0, .int .i64 0]).only g3 (by simp))); (try have HZ1 := Lib.hid (((Blk.new W1 40 #[.int .i64 0, .int .i64 0]).drewN 1).only g3 (by simp))); clear g3; (try clear c0 c1 c2 d0 d1 d2))
    | (go_at_call 63; (with_reducible refine (HY.out _).mono ?_); rintro e w4 ⟨rfl, g4⟩; have GN2 : W1.grownBy w4 none := (by first | exact only_trans GN1 g4 | exact only_trans (only_alloc GN1 _) g4); have s2 := GN2.size; (try have HZ2 := Lib.hid (HZ1.out.only g4 (by simp))); (try have HZ2 := Lib.hid ((Blk.new w3 40 #[.int .i64 0, .int .i64 0]).only g4 (by simp))); clear g4)
    | (go_at_call 89; (with_reducible refine (HM.out _).mono ?_); rintro e w5 ⟨rfl, g5⟩; have GN3 : W1.grownBy w5 none := (by first | exact only_trans GN2 g5 | exact only_trans (only_alloc GN2 _) g5); (try have HZ3 := Lib.hid (HZ2.out.only g5 (by simp))); (try have HZ3 := Lib.hid ((Blk.new w4 40 #[.int .i64 0, .int .i64 0]).only g5 (by simp))); (try have z0 := HZ3.out.cell 0); (try have z1 := HZ3.out.cell 1); (try have y0 := HZ3.out.free 0); (try have y1' := HZ3.out.free 1); (try simp at z0 z1 y0 y1'); clear g5)
    | fail "no arm")
  all_goals
    go_wp2
    go_ret
    refine ⟨rfl, only_trans G0.out ?_⟩
    first | exact only_alloc GN3 _ | exact only_putc (only_putc GN3 (by first | exact Nat.le_refl _ | (simp; done) | (simp; omega)) _) (by first | exact Nat.le_refl _ | (simp; done) | (simp; omega)) _
end Go.Proofs.YtfhhcpmoaggdmaaGreat
