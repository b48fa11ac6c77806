import Derived.OrdersHeld
import Derived.Deep.RegionHeld
import Derived.Test.YticmgkdhdfkpeaaZ02
import Derived.Deep.RegionLaw
import Derived.Deep.RegionWith
set_option linter.all false
/- A region that draws its order, and whose last operation waits for all others: they in any order, under a condition that need not hold behind the last one; then the last one. No program is spoken of here. -/
namespace Go.Proofs.Yticmgkdhdfkpeaa
open Go
set_option linter.unusedVariables false

section
variable {P : Program} {ops : Array Oper} {md : Region.Mode} {Q : Exit → Act → World → Prop} {S : World → Prop} {n : Nat}

/-- The post behind all but the last one. -/
def Ends (P : Program) (ops : Array Oper) (Q : Exit → Act → World → Prop) (n : Nat) : Exit → Act → World → Prop
  | .normal, a, w => wpOp P ops Q n (fun a' w' => Q .normal a' w') a w
  | .ret, a, w => Q .ret a w
  | .panic c, a, w => Q (.panic c) a w
  | .outgrown, a, w => Q .outgrown a w
  | e, a, w => Q e a w

theorem wpOp_pop (hz : ops.size = n + 1) (hg : ∀ (i : Nat) (o : Oper), ops[i]? = some o → o.guard = none) {i : Nat} (hi : i < n) {K : Act → World → Prop} {a : Act} {w : World} (h : wpOp P ops.pop (Ends P ops Q n) i K a w) : wpOp P ops Q i K a w := by
  unfold wpOp at *
  have he : ops.pop[i]? = ops[i]? := by rw [Array.getElem?_pop, if_pos (by omega)]
  rw [he] at h
  cases ho : ops[i]? with
  | none => rw [ho] at h; exact h
  | some o =>
    rw [ho] at h
    have hw : ∀ y, Region.wanted o y = true := fun y => by simp [Region.wanted, hg i o ho]
    simp only [hw, if_true] at h ⊢
    rcases h with h | ⟨h1, h2⟩
    · refine .inl ?_
      unfold Oper.wp at *
      generalize (execOp a.eval o).run P w = r at *
      cases r with
      | ok x w' =>
        cases x <;> simp only [Oper.upon] at h ⊢
        case value u => exact h
        case skip => exact h
        case defer d => exact h
        case enter f args =>
          refine Calls.mono h fun e w'' he => ?_
          cases e with
          | returned u => exact he
          | panicked c => exact he
          | outgrown => exact he
        case row row args => exact h
      | halt x w' =>
        cases x <;> simp only [Oper.upon] at h ⊢
        case panic u => exact h
    · exact .inr ⟨h1, h2⟩

/-- What the law asks of the region's form. -/
def endsB (md : Region.Mode) (ops : Array Oper) (n : Nat) : Bool :=
  decide (ops.size = n + 1) && (List.range (n + 1)).all fun i => match ops[i]? with
    | none => true
    | some o => o.guard.isNone && (o.after.all fun e => decide (e.on < i)) && (if i = n then (List.range n).all fun j => o.after.any fun e => Region.binds md e && decide (e.on = j) else true)
theorem endsB_spec (h : endsB md ops n = true) : ops.size = n + 1 ∧ (∀ (i : Nat) (o : Oper), ops[i]? = some o → o.guard = none) ∧ (∀ (i : Nat) (o : Oper), ops[i]? = some o → ∀ e ∈ o.after, e.on < i) ∧ ∀ (o : Oper), ops[n]? = some o → ∀ j, j < n → ∃ e ∈ o.after, Region.binds md e = true ∧ e.on = j := by
  unfold endsB at h
  rw [Bool.and_eq_true, List.all_eq_true] at h
  obtain ⟨h1, h2⟩ := h
  have hz : ops.size = n + 1 := by simpa using h1
  have key : ∀ (i : Nat) (o : Oper), ops[i]? = some o → (o.guard.isNone && (o.after.all fun e => decide (e.on < i)) && (if i = n then (List.range n).all fun j => o.after.any fun e => Region.binds md e && decide (e.on = j) else true)) = true := fun i o ho => by
    have hi : i < ops.size := (Array.getElem?_eq_some_iff.1 ho).1
    have := h2 i (by rw [List.mem_range]; omega)
    rwa [ho] at this
  refine ⟨hz, fun i o ho => ?_, fun i o ho e he => ?_, fun o ho j hj => ?_⟩
  · have := key i o ho
    simp only [Bool.and_eq_true] at this
    simpa using this.1.1
  · have := key i o ho
    simp only [Bool.and_eq_true] at this
    have := this.1.2
    rw [Array.all_eq_true_iff_forall_mem] at this
    simpa using this e he
  · have := key n o ho
    simp only [Bool.and_eq_true, if_true] at this
    have := this.2
    rw [List.all_eq_true] at this
    have := this j (by simpa using hj)
    obtain ⟨q, hq, hb⟩ := Array.any_eq_true.1 this
    simp only [Bool.and_eq_true, decide_eq_true_eq] at hb
    exact ⟨_, Array.getElem_mem hq, hb⟩

/-- Something may come up as1 long as1 something has not. -/
theorem some_ready (he : ∀ (i : Nat) (o : Oper), ops[i]? = some o → ∀ e ∈ o.after, e.on < i) {listed : Array Bool} (hl : listed.size = ops.size) : ∀ (i : Nat), i < ops.size → listed.getD i true = false → ∃ j, j ≤ i ∧ j ∈ Region.ready md ops listed := by
  intro i
  induction i using Nat.strongRecOn with
  | ind i ih =>
    intro hi hf
    by_cases hall : ∀ e ∈ (ops[i]'hi).after, Region.binds md e = true → listed.getD e.on false = true
    · exact ⟨i, Nat.le_refl _, mem_ready.2 ⟨hf, _, Array.getElem?_eq_getElem hi, hall⟩⟩
    · simp only [Classical.not_forall] at hall
      obtain ⟨e, hm, hbi, hb⟩ := hall
      have hlt := he i _ (Array.getElem?_eq_getElem hi) e hm
      have h9 : e.on < listed.size := by omega
      have hf' : listed.getD e.on true = false := by
        simp [Array.getD, h9] at hb ⊢
        exact hb
      obtain ⟨j, hj, hr⟩ := ih e.on hlt (by omega) hf'
      exact ⟨j, by omega, hr⟩

/-- All but the last one have come up. -/
def AllBut (n : Nat) (listed : Array Bool) : Prop := listed.size = n + 1 ∧ listed.getD n true = false ∧ ∀ i, i < n → listed.getD i true = true
theorem getD_same {listed : Array Bool} {i : Nat} (h : i < listed.size) : listed.getD i true = listed.getD i false := by simp [Array.getD, h]
theorem getD_pop {listed : Array Bool} {i : Nat} (d : Bool) (h : i + 1 < listed.size) : listed.pop.getD i d = listed.getD i d := by
  have h1 : i < listed.pop.size := by simp; omega
  have h2 : i < listed.size := by omega
  simp only [Array.getD, h1, h2, dif_pos]
  simp
theorem ready_pop (hz : ops.size = n + 1) (he : ∀ (i : Nat) (o : Oper), ops[i]? = some o → ∀ e ∈ o.after, e.on < i) {listed : Array Bool} (hl : listed.size = n + 1) {i : Nat} (hi : i < n) : i ∈ Region.ready md ops listed ↔ i ∈ Region.ready md ops.pop listed.pop := by
  rw [mem_ready, mem_ready, getD_pop _ (by omega), Array.getElem?_pop, if_pos (by omega)]
  refine and_congr Iff.rfl ⟨fun ⟨o, ho, h⟩ => ⟨o, ho, fun e hm hb => ?_⟩, fun ⟨o, ho, h⟩ => ⟨o, ho, fun e hm hb => ?_⟩⟩
  · have := he i o ho e hm
    rw [getD_pop _ (by omega)]
    exact h e hm hb
  · have := he i o ho e hm
    have h9 := h e hm hb
    rwa [getD_pop _ (by omega)] at h9
theorem ends_done (hz : ops.size = n + 1) (he : ∀ (i : Nat) (o : Oper), ops[i]? = some o → ∀ e ∈ o.after, e.on < i) {listed : Array Bool} (h : AllBut n listed) {a : Act} {w : World} (hq : Ends P ops Q n .normal a w) (fuel : Nat) : wpAny P md ops Q (fuel + 1) listed a w := by
  obtain ⟨h1, h2, h3⟩ := h
  have hn : n < ops.size := by omega
  have hr : n ∈ Region.ready md ops listed := mem_ready.2 ⟨h2, _, Array.getElem?_eq_getElem hn, fun e hm hb => by
    have := he n _ (Array.getElem?_eq_getElem hn) e hm
    rw [← getD_same (by omega)]
    exact h3 e.on this⟩
  have hset : Region.ready md ops (listed.setIfInBounds n true) = [] := by
    refine List.eq_nil_iff_forall_not_mem.2 fun i hi => ?_
    obtain ⟨k1, o, ho, _⟩ := mem_ready.1 hi
    have hio : i < ops.size := (Array.getElem?_eq_some_iff.1 ho).1
    by_cases hin : i = n
    · subst hin
      simp [Array.getD, h1] at k1
    · rw [getD_set_ne true (Ne.symm hin), h3 i (by omega)] at k1
      cases k1
  refine ⟨fun h0 => (by rw [h0] at hr; cases hr), fun i hi => ?_⟩
  have hin : i = n := by
    obtain ⟨k1, o, ho, _⟩ := mem_ready.1 hi
    have hio : i < ops.size := (Array.getElem?_eq_some_iff.1 ho).1
    refine Classical.byContradiction fun hne => ?_
    rw [h3 i (by omega)] at k1
    cases k1
  subst hin
  refine wpOp_mono (fun a' w' hq' => ?_) hq
  cases fuel with
  | zero => exact ⟨hset, hq'⟩
  | succ k => exact ⟨fun _ => hq', by rw [hset]; simp⟩
theorem all_but (hz : ops.size = n + 1) (he : ∀ (i : Nat) (o : Oper), ops[i]? = some o → ∀ e ∈ o.after, e.on < i) {listed : Array Bool} (hl : listed.size = n + 1) (hn : listed.getD n true = false) (hr : Region.ready md ops.pop listed.pop = []) : AllBut n listed := by
  refine ⟨hl, hn, fun i hi => ?_⟩
  refine Classical.byContradiction fun hne => ?_
  have hf : listed.getD i true = false := by simpa using hne
  obtain ⟨j, hj, hjr⟩ := some_ready (md := md) he (by omega) i (by omega) hf
  have := (ready_pop hz he hl (by omega)).1 hjr
  rw [hr] at this
  cases this
theorem wpAny_ends (hB : endsB md ops n = true) : ∀ (fuel : Nat) (listed : Array Bool) (a : Act) (w : World), listed.size = n + 1 → listed.getD n true = false → wpAnyH P md ops.pop (Ends P ops Q n) S fuel listed.pop a w → wpAny P md ops Q (fuel + 1) listed a w
  | 0, listed, a, w, hl, hn, h => by
    obtain ⟨hz, hg, he, hlast⟩ := endsB_spec hB
    exact ends_done hz he (all_but hz he hl hn h.1) h.2 0
  | fuel + 1, listed, a, w, hl, hn, h => by
    obtain ⟨hz, hg, he, hlast⟩ := endsB_spec hB
    by_cases h0 : Region.ready md ops.pop listed.pop = []
    · exact ends_done hz he (all_but hz he hl hn h0) (h.1 h0) (fuel + 1)
    · have hlow : ∀ i, i ∈ Region.ready md ops listed → i < n := fun i hi => by
        obtain ⟨k1, o, ho, k2⟩ := mem_ready.1 hi
        have hio : i < ops.size := (Array.getElem?_eq_some_iff.1 ho).1
        refine Classical.byContradiction fun hne => h0 ?_
        have hin : i = n := by omega
        subst hin
        refine List.eq_nil_iff_forall_not_mem.2 fun j hj => ?_
        have hjn : j < i := by
          obtain ⟨_, o', ho', _⟩ := mem_ready.1 hj
          have := (Array.getElem?_eq_some_iff.1 ho').1
          simp at this
          omega
        obtain ⟨e, hm, hb, rfl⟩ := hlast o ho j hjn
        have h9 := k2 e hm hb
        have h8 := (mem_ready.1 ((ready_pop hz he hl hjn).2 hj)).1
        rw [getD_same (by omega)] at h8
        rw [h8] at h9
        cases h9
      refine ⟨fun h1 => ?_, fun i hi => ?_⟩
      · exfalso
        refine h0 (List.eq_nil_iff_forall_not_mem.2 fun j hj => ?_)
        have hjn : j < n := by
          obtain ⟨_, o', ho', _⟩ := mem_ready.1 hj
          have := (Array.getElem?_eq_some_iff.1 ho').1
          simp at this
          omega
        have := (ready_pop hz he hl hjn).2 hj
        rw [h1] at this
        cases this
      · have hin := hlow i hi
        have h2 := h.2 i ((ready_pop hz he hl hin).1 hi)
        refine wpOp_mono (fun a' w' h3 => ?_) (wpOp_pop hz hg hin h2)
        refine wpAny_ends hB fuel _ a' w' (by simpa using hl) (by rw [getD_set_ne true (by omega)]; exact hn) ?_
        have : (listed.setIfInBounds i true).pop = listed.pop.setIfInBounds i true := by
          apply Array.ext_getElem?
          intro k
          simp only [Array.getElem?_pop, Array.getElem?_setIfInBounds, Array.size_pop, Array.size_setIfInBounds]
          by_cases hk : i = k
          · subst hk
            have q1 : i < listed.size := by omega
            have q2 : i < listed.size - 1 := by omega
            simp [q1, q2]
          · simp [hk]
        rw [this]
        exact h3.2

/-- The last one comes up. -/
theorem Ends.last {a : Act} {w : World} {o : Oper} (ho : ops[n]? = some o) (h : ∀ K' : Act → World → Prop, Shut (∀ a w, Q .normal a w → K' a w) → if Region.wanted o (yielded ops a.tmps) = true then Oper.wp P o a w K' Q else K' (a.put o.dst undef) w) : Ends P ops Q n .normal a w :=
  wpOp_step ho h

/-- **A region whose last operation waits for all others.** -/
theorem wp_region_ends {id : Nat} {a : Act} {w : World} {l : List Oper} (n : Nat) (S : World → Prop) (hm : P.follows .mixedOrders = true) (hB : endsB .any l.toArray n = true) (hS : S w.drew)
    (h : S w.drew → wpAnyH P .any (l.take n).toArray (Ends P l.toArray Q n) S n (Array.replicate n false) a w.drew) : (Code.region id l.toArray true).wp P Q a w := by
  obtain ⟨hz, hg, he, hlast⟩ := endsB_spec hB
  refine wp_region_any hm ?_
  rw [hz]
  refine wpAny_ends (S := S) hB n (Array.replicate (n + 1) false) a _ (by simp) (by simp [Array.getD]) ?_
  have h1 : l.toArray.pop = (l.take n).toArray := by
    have hz' : l.length = n + 1 := by simpa using hz
    rw [List.pop_toArray, List.dropLast_eq_take, hz']
    rfl
  have h2 : (Array.replicate (n + 1) false).pop = Array.replicate n false := by simp
  rw [h1, h2]
  exact h hS
end
end Go.Proofs.Yticmgkdhdfkpeaa

/- append of many onto a row of the call's own. No program is spoken of here. -/
namespace Go.Proofs.Yticmgkdhdfkpeaa
open Go.RowKit Go.Lib
set_option linter.unusedVariables false

/-- append of a whole row onto an empty one of no room. -/
theorem run_allZ {P : Program} {s : Nat} (w : World) (t e ty : TypeId) (i : TypeInfo) (z : Value) (bytes : Nat) (ht : P.underlying t = some (.slice e)) (hi : P.info? e = some i) (hz : i.zero = some z) (hs : i.size = s) (hby : i.bytes = bytes) (hb16 : bytes ≤ 64) (hzs : z.cells.size = s)
    (b m : Nat) (hb : b < w.heap.size) (xs : Value) (x : List Value) (hx : Src P s t xs m x w) (hn : m ≤ 1000000) :
    ∃ v' w', (Builtin.append_ #[t, t] ty #[.slice (some ⟨b, 0, none⟩) 0 0, xs]).run P w = .ok v' w' ∧ RowZ s w' v' m x ∧ w.grownBy w' none ∧ (v'.ownBlock = some b ∨ v'.ownBlock = some w.heap.size) ∧ ∃ A c, v' = .slice (some A) m c := by
  have hxl : x.length = m * s := hx.newsLen
  have hsrc : Src P i.size t xs m x w := by rw [hs]; exact hx
  rcases Nat.eq_zero_or_pos m with rfl | hm
  · have hx0 : x = [] := List.eq_nil_of_length_eq_zero (by omega)
    subst hx0
    have hr := run_append_room_src (P := P) w t t ty e i ht hi b 0 0 0 xs 0 [] hsrc (by omega) (by simp) (by simp)
    exact ⟨_, _, hr, RowZ.empty s 0 hb, only_refl w none, .inl rfl, _, _, rfl⟩
  · have hbm : (0 + m) * bytes ≤ 140737488355328 := by
      have : (0 + m) * bytes ≤ 1000001 * 64 := Nat.mul_le_mul (by omega) hb16
      omega
    have hold := ((RowZ.empty (w := w) s 0 hb).drewN 1).src (P := P) t e ht (by simp) |>.cells
    have hm2 : 0 + m ≤ maxLen := by unfold maxLen; omega
    have hge := grownCap_ge w (0 + m) 0 e
    have hcm := grownCap_le_maxLen w (0 + m) 0 e hm2
    have hr := run_append_grow_src (P := P) w t t ty e i z ht hi hz (some ⟨b, 0, none⟩) 0 0 [] (by rw [hs]; exact hold) xs m x hsrc (by omega) (by omega) (by rw [hby]; exact growslice_fits (by omega) hbm)
    rw [Nat.zero_add, List.nil_append] at hr
    rw [Nat.zero_add] at hge hcm
    refine ⟨_, _, hr, ?_, ⟨rfl, rfl, rfl, by simp, fun k hk _ => Below.heap_alloc w.drew _ k hk⟩, .inr rfl, _, _, rfl⟩
    refine RowZ.new w.drew _ e _ hxl ?_ hge hcm (fun j u hu => ?_)
    · simp only [Array.size_append, List.size_toArray, size_zeroCells, hzs, hxl]
      rw [← Nat.add_mul]
      congr 1
      omega
    · have hj := (List.getElem?_eq_some_iff.1 hu).1
      rw [Array.getElem?_append_left (by simpa using hj)]
      simpa using hu

/-- append of many onto a row. -/
theorem run_joinZ {P : Program} {s : Nat} (w : World) (t e ty : TypeId) (i : TypeInfo) (z : Value) (bytes : Nat) (ht : P.underlying t = some (.slice e)) (hi : P.info? e = some i) (hz : i.zero = some z) (hs : i.size = s) (hby : i.bytes = bytes) (hb16 : bytes ≤ 64) (hzs : z.cells.size = s)
    (g off cap n m : Nat) (l : List Value) (h : RowZ s w (.slice (some ⟨g, off, none⟩) n cap) n l) (h1 : ∀ u ∈ l, u.oneCell' = true) (xs : Value) (x : List Value) (hx : Src P s t xs m x w) (hn : n + m ≤ 1000000) :
    ∃ v' w', (Builtin.append_ #[t, t] ty #[.slice (some ⟨g, off, none⟩) n cap, xs]).run P w = .ok v' w' ∧ RowZ s w' v' (n + m) (l ++ x) ∧ w.grownBy w' (some g) ∧ (v'.ownBlock = some g ∨ v'.ownBlock = some w.heap.size) ∧ ∃ A c, v' = .slice (some A) (n + m) c := by
  have hxl : x.length = m * s := hx.newsLen
  have hl0 : l.length = n * s := h.1
  have hlx : (l ++ x).length = (n + m) * s := by rw [List.length_append, hl0, hxl, Nat.add_mul]
  have hbm : (n + m) * bytes ≤ 140737488355328 := by
    have : (n + m) * bytes ≤ 1000001 * 64 := Nat.mul_le_mul (by omega) hb16
    omega
  have hsrc : Src P i.size t xs m x w := by rw [hs]; exact hx
  obtain ⟨hl, ⟨he, _⟩ | ⟨g', off', cap', he, h2, h3, h4, h5, h6⟩⟩ := id h
  · cases he
  · injection he with e1 e2 e3
    injection e1 with e1
    injection e1 with e4 e5
    subst e4 e5 e3
    by_cases hroom : n + m ≤ cap
    · have hcs : n * s + m * s ≤ cap * s := by
        have := Nat.mul_le_mul_right s hroom
        rw [Nat.add_mul] at this
        exact this
      have hr := run_append_room_src (P := P) w t t ty e i ht hi g off n cap xs m x hsrc hroom (by
        intro j hj
        rw [hs, Nat.add_assoc]
        exact (h5 (n * s + j) (by omega)).1) (by
        intro j hj
        rw [hs, Nat.add_assoc]
        exact (h5 (n * s + j) (by omega)).2)
      rw [hs] at hr
      have hsome : ∀ k, k < x.length → (w.cell? ⟨g, off + n * s + k, none⟩).isSome = true := fun k hk => by
        rw [Nat.add_assoc]
        exact (h5 (n * s + k) (by omega)).1
      refine ⟨_, _, hr, ⟨hlx, .inr ⟨g, off, cap, rfl, hroom, h3, ?_, ?_, ?_⟩⟩, only_cells _ _ _ _, .inl rfl, _, _, rfl⟩
      · rw [(setCells_at g x (off + n * s) w).2.2.2.1]
        exact h4
      · intro j hj
        rw [World.frozen?_setCells]
        refine ⟨?_, (h5 j hj).2⟩
        by_cases e1 : n * s ≤ j ∧ j < n * s + m * s
        · have := World.cell?_setCells_in g x (off + n * s) w hsome (j - n * s) (by omega)
          rw [show off + n * s + (j - n * s) = off + j by omega] at this
          rw [this]
          rfl
        · rw [World.cell?_setCells_out g x (off + n * s) w _ (by intro _ _; simp; omega)]
          exact (h5 j hj).1
      · intro j u hu
        by_cases e1 : j < n * s
        · rw [List.getElem?_append_left (by omega)] at hu
          rw [World.cell?_setCells_out g x (off + n * s) w _ (by intro _ _; simp; omega)]
          exact h6 j u hu
        · have hj := (List.getElem?_eq_some_iff.1 hu).1
          rw [List.length_append, hl] at hj
          rw [List.getElem?_append_right (by omega), hl] at hu
          have := World.cell?_setCells_in g x (off + n * s) w hsome (j - n * s) (by omega)
          rw [show off + n * s + (j - n * s) = off + j by omega] at this
          rw [this, ← List.getElem?_eq_getElem]
          exact hu
    · have hold := ((h.drewN 1).src (P := P) t e ht h1).cells
      have hm : n + m ≤ maxLen := by unfold maxLen; omega
      have hge := grownCap_ge w (n + m) cap e
      have hcm := grownCap_le_maxLen w (n + m) cap e hm
      have hr := run_append_grow_src (P := P) w t t ty e i z ht hi hz (some ⟨g, off, none⟩) n cap l (by rw [hs]; exact hold) xs m x hsrc (by omega) (by omega) (by rw [hby]; exact growslice_fits (by omega) hbm)
      refine ⟨_, _, hr, ?_, ⟨rfl, rfl, rfl, by simp, fun k hk _ => Below.heap_alloc w.drew _ k hk⟩, .inr rfl, _, _, rfl⟩
      refine RowZ.new w.drew _ e _ hlx ?_ hge hcm (fun j u hu => ?_)
      · simp only [Array.size_append, List.size_toArray, size_zeroCells, hzs, hlx]
        rw [← Nat.add_mul]
        congr 1
        omega
      · have hj := (List.getElem?_eq_some_iff.1 hu).1
        rw [Array.getElem?_append_left (by simpa using hj)]
        simpa using hu
end Go.Proofs.Yticmgkdhdfkpeaa

/- A row made anew with one more at its end: what two appends do, in whatever order their rows are laid. No program is spoken of here. -/
namespace Go.Proofs.Yticmgkdhdfkpeaa
open Go.RowKit Go.Lib
set_option linter.unusedVariables false

/-- append where its run is known, as1 a step of a region that draws its order. -/
theorem Zz.step_app {P : Program} {ops : Array Oper} {o : Oper} {a : Act} {W : World} {K : Act → World → Prop} {Q : Exit → Act → World → Prop} {E : Prop} (hgd : o.guard = none) (s x : Operand) (t : TypeId) (ho : o.op = .call { callee := .builtin .append, args := #[s, x], argTypes := #[t, t] })
    {v xs v' : Value} {w' : World} (hr : (Builtin.append_ #[t, t] o.type #[v, xs]).run P W = .ok v' w') (hs : a.eval s = v) (hx : a.eval x = xs) (h : K (a.put o.dst v') w') : if Region.wanted o (yielded ops a.tmps) = true then Oper.wp P o a W K Q else E := by
  have hw : Region.wanted o (yielded ops a.tmps) = true := by simp [Region.wanted, hgd]
  rw [if_pos hw]
  unfold Oper.wp execOp
  simp only [ho, resolve, invoke, builtin, Sem.run_bind, Sem.run_pure, Result.andThen_ok, List.map_toArray, List.map_cons, List.map_nil, hs, hx, hr]
  exact h

/-- What the two appends leave. -/
def Zz.Fin (s : Nat) (W : World) (n : Nat) (xs x : List Value) (v2 : Value) (W4 : World) : Prop :=
  RowZ s W4 v2 (n + 1) (xs ++ x) ∧ Below W.heap.size W W4 ∧ (∀ i, v2.ownBlock = some i → W.heap.size ≤ i) ∧ ∃ A c, v2 = .slice A (n + 1) c
section
variable {P : Program} {s : Nat} {t e ty : TypeId} {i : TypeInfo} {z : Value} {bytes : Nat}
theorem Zz.apps (ht : P.underlying t = some (.slice e)) (hi : P.info? e = some i) (hz : i.zero = some z) (hs : i.size = s) (hby : i.bytes = bytes) (hb16 : bytes ≤ 64) (hzs : z.cells.size = s)
    (W W1 : World) (b n : Nat) (v : Value) (xs x : List Value) (hb : b < W1.heap.size) (hbB : W.heap.size ≤ b) (h01 : W.grownBy W1 none) (hrow : RowZ s W v n xs) (h1 : ∀ u ∈ xs, u.oneCell' = true) (hn : n ≤ 1000) (hx : x.length = s) (hx1 : ∀ u ∈ x, u.oneCell' = true) :
    ∃ v1 W2, (Builtin.append_ #[t, t] ty #[.slice (some ⟨b, 0, none⟩) 0 0, v]).run P W1 = .ok v1 W2 ∧ (∃ A c, v1 = .slice (some A) n c) ∧ W1.grownBy W2 none ∧
      ∀ W3 g, W2.grownBy W3 none → (∀ (j : Nat) (u : Value), x[j]? = some u → W3.cell? ⟨g, j, none⟩ = some u) → ∃ v2 W4, (Builtin.append_ #[t, t] ty #[v1, .slice (some ⟨g, 0, none⟩) 1 1]).run P W3 = .ok v2 W4 ∧ Zz.Fin s W n xs x v2 W4 := by
  have hsrc := (hrow.grown h01).src (P := P) t e ht h1
  obtain ⟨v1, W2, hk, hr, hg, ho, hf⟩ := run_allZ (P := P) W1 t e ty i z bytes ht hi hz hs hby hb16 hzs b n hb v xs hsrc (by omega)
  refine ⟨v1, W2, hk, hf, hg, fun W3 g h23 hc => ?_⟩
  have hsx : Src P s t (.slice (some ⟨g, 0, none⟩) 1 1) 1 x W3 := Src.ofSlice _ ht _ _ _ _ (by omega) (by
    intro j u hj
    rw [addr_at, Nat.zero_add]
    exact hc j u hj) hx1
  obtain ⟨v2, W4, hk2, hr2, hg2, ho2⟩ := run_pushZ (P := P) W3 t e ty i z bytes ht hi hz hs hby hb16 hzs _ _ _ (hr.grown h23) h1 _ _ hsx (by omega)
  have s01 := h01.size
  have s12 := hg.size
  have s23 := h23.size
  have hv1 : ∀ i, v1.ownBlock = some i → W.heap.size ≤ i := fun i hi => by
    rcases ho with ho | ho
    · rw [ho] at hi; injection hi with hi; omega
    · rw [ho] at hi; injection hi with hi; omega
  refine ⟨v2, W4, hk2, hr2, ?_, fun i hi => ?_, hr2.form⟩
  · have b3 : Below W.heap.size W W3 := below_of_only (only_trans (only_trans h01 hg) h23) (Nat.le_refl _) (by simp)
    exact b3.trans (below_of_only hg2 (by omega) hv1)
  · rcases ho2 with ho2 | ho2
    · exact hv1 i (ho2 ▸ hi)
    · rw [ho2] at hi; injection hi with hi; omega
/-- The three orders. -/
theorem Zz.three (ht : P.underlying t = some (.slice e)) (hi : P.info? e = some i) (hz : i.zero = some z) (hs : i.size = s) (hby : i.bytes = bytes) (hb16 : bytes ≤ 64) (hzs : z.cells.size = s)
    (W : World) (n : Nat) (v : Value) (xs : List Value) (x : Array Value) (hrow : RowZ s W v n xs) (h1 : ∀ u ∈ xs, u.oneCell' = true) (hn : n ≤ 1000) (hx : x.size = s) (hx1 : ∀ u ∈ x.toList, u.oneCell' = true) :
    (∃ a c W2 b d W4, (Builtin.append_ #[t, t] ty #[.slice (some ⟨W.heap.size, 0, none⟩) 0 0, v]).run P (W.alloc (.cells #[] e)).drew = .ok (.slice (some a) n c) W2 ∧ Below W.heap.size W W2 ∧
      (Builtin.append_ #[t, t] ty #[.slice (some a) n c, .slice (some ⟨W2.heap.size, 0, none⟩) 1 1]).run P (W2.alloc (.cells x e)) = .ok (.slice b (n + 1) d) W4 ∧ Zz.Fin s W n xs x.toList (.slice b (n + 1) d) W4) ∧
    (∃ a c W2 b d W4, (Builtin.append_ #[t, t] ty #[.slice (some ⟨W.heap.size, 0, none⟩) 0 0, v]).run P ((W.alloc (.cells #[] e)).alloc (.cells x e)).drew = .ok (.slice (some a) n c) W2 ∧ Below W.heap.size W W2 ∧
      (Builtin.append_ #[t, t] ty #[.slice (some a) n c, .slice (some ⟨W.heap.size + 1, 0, none⟩) 1 1]).run P W2 = .ok (.slice b (n + 1) d) W4 ∧ Zz.Fin s W n xs x.toList (.slice b (n + 1) d) W4) ∧
    (∃ a c W2 b d W4, (Builtin.append_ #[t, t] ty #[.slice (some ⟨W.heap.size + 1, 0, none⟩) 0 0, v]).run P ((W.alloc (.cells x e)).alloc (.cells #[] e)).drew = .ok (.slice (some a) n c) W2 ∧ Below W.heap.size W W2 ∧
      (Builtin.append_ #[t, t] ty #[.slice (some a) n c, .slice (some ⟨W.heap.size, 0, none⟩) 1 1]).run P W2 = .ok (.slice b (n + 1) d) W4 ∧ Zz.Fin s W n xs x.toList (.slice b (n + 1) d) W4) := by
  have cells : ∀ (W3 : World) (g : Nat), Blk W3 g e x → ∀ (j : Nat) (u : Value), x.toList[j]? = some u → W3.cell? ⟨g, j, none⟩ = some u := fun W3 g h j u hu => by
    rw [h.cell]; simpa using hu
  have g1 : W.grownBy (W.alloc (.cells #[] e)).drew none := only_drewN (only_alloc (only_refl _ none) _) 1
  have g2 : W.grownBy ((W.alloc (.cells #[] e)).alloc (.cells x e)).drew none := only_drewN (only_alloc (only_alloc (only_refl _ none) _) _) 1
  have g3 : W.grownBy ((W.alloc (.cells x e)).alloc (.cells #[] e)).drew none := only_drewN (only_alloc (only_alloc (only_refl _ none) _) _) 1
  have bel : ∀ {W1 W2 : World}, W.grownBy W1 none → W1.grownBy W2 none → Below W.heap.size W W2 := fun a b => below_of_only (only_trans a b) (Nat.le_refl _) (by simp)
  refine ⟨?_, ?_, ?_⟩
  · obtain ⟨v1, W2, k, ⟨a, c, rfl⟩, g, nx⟩ := Zz.apps (ty := ty) ht hi hz hs hby hb16 hzs W _ W.heap.size n v xs x.toList (by simp) (Nat.le_refl _) g1 hrow h1 hn (by simpa using hx) hx1
    obtain ⟨v2, W4, k2, h⟩ := nx (W2.alloc (.cells x e)) W2.heap.size (only_alloc (only_refl _ none) _) (cells _ _ (Blk.new W2 _ _))
    obtain ⟨b, d, rfl⟩ := h.2.2.2
    exact ⟨a, c, W2, b, d, W4, k, bel g1 g, k2, h⟩
  · obtain ⟨v1, W2, k, ⟨a, c, rfl⟩, g, nx⟩ := Zz.apps (ty := ty) ht hi hz hs hby hb16 hzs W _ W.heap.size n v xs x.toList (by simp; omega) (Nat.le_refl _) g2 hrow h1 hn (by simpa using hx) hx1
    have hb : Blk ((W.alloc (.cells #[] e)).alloc (.cells x e)).drew (W.heap.size + 1) e x := by
      have := (Blk.new (W.alloc (.cells #[] e)) e x).drewN 1
      rw [show (W.alloc (.cells #[] e)).heap.size = W.heap.size + 1 by simp] at this
      exact this
    obtain ⟨v2, W4, k2, h⟩ := nx W2 (W.heap.size + 1) (only_refl _ none) (cells _ _ (hb.only g (by simp)))
    obtain ⟨b, d, rfl⟩ := h.2.2.2
    exact ⟨a, c, W2, b, d, W4, k, bel g2 g, k2, h⟩
  · obtain ⟨v1, W2, k, ⟨a, c, rfl⟩, g, nx⟩ := Zz.apps (ty := ty) ht hi hz hs hby hb16 hzs W _ (W.heap.size + 1) n v xs x.toList (by simp) (by omega) g3 hrow h1 hn (by simpa using hx) hx1
    have hb : Blk ((W.alloc (.cells x e)).alloc (.cells #[] e)).drew W.heap.size e x := ((Blk.new W e x).alloc _).drewN 1
    obtain ⟨v2, W4, k2, h⟩ := nx W2 W.heap.size (only_refl _ none) (cells _ _ (hb.only g (by simp)))
    obtain ⟨b, d, rfl⟩ := h.2.2.2
    exact ⟨a, c, W2, b, d, W4, k, bel g3 g, k2, h⟩
end
end Go.Proofs.Yticmgkdhdfkpeaa

/- The document's account: Asked, Left, a unit more, by contract. -/
namespace Go.Proofs.Yticmgkdhdfkpeaa
open Go.RowKit Go.Lib Go.Sort
set_option linter.unusedVariables false
set_option maxRecDepth 8000

theorem Qt.tdiv {t : Int} {f : Nat} (h : 0 ≤ t) : t.tdiv (f : Int) = t / f := Int.tdiv_eq_ediv_of_nonneg h
theorem Qt.ways (f n fr : Nat) (t o : Int) : (Qt.ok f n fr t o ∧ 1 ≤ o ∧ o ≤ n ∧ 0 ≤ t ∧ t ≤ 2147483647 ∧ (fr : Int) ≤ t / f) ∨ (¬ Qt.ok f n fr t o ∧ (¬ 1 ≤ o ∨ (1 ≤ o ∧ ¬ o ≤ n) ∨ (1 ≤ o ∧ o ≤ n ∧ ¬ 0 ≤ t) ∨ (1 ≤ o ∧ o ≤ n ∧ 0 ≤ t ∧ ¬ t ≤ 2147483647) ∨ (1 ≤ o ∧ o ≤ n ∧ 0 ≤ t ∧ t ≤ 2147483647 ∧ ¬ (fr : Int) ≤ t / f))) := by
  unfold Qt.ok
  by_cases h : 1 ≤ o ∧ o ≤ n ∧ 0 ≤ t ∧ t ≤ 2147483647 ∧ fr ≤ (t / f).toNat
  · have : 0 ≤ t / (f : Int) := Int.ediv_nonneg h.2.2.1 (by omega)
    exact .inl ⟨h, h.1, h.2.1, h.2.2.1, h.2.2.2.1, by omega⟩
  · exact .inr ⟨h, by omega⟩
set_option maxHeartbeats 3200000 in
theorem Qt.rasked_any (f n fr c : Nat) (A : Option Addr) (v : Value) (t o : Int) (w : World) (f1 : 1 ≤ f) : Calls Try.prog 22 #[.agg #[.int .i64 f, .slice A n c, .int .i64 fr, v], .int .i64 t, .int .i64 o] w fun e w' => e = .returned (.bool (decide (Qt.ok f n fr t o))) ∧ Below w.heap.size w w' := by
  obtain ⟨W, hW, G, P, Z⟩ := Qt.box1 w 32 #[.int .i64 f, .slice A n c, .int .i64 fr, v]
  have HB := Lib.hid (Qt.bel G)
  obtain ⟨b0, b1, b2, b3⟩ := Qt.box4c P
  have nz : ¬ (f : Int) = 0 := by omega
  clear G P Z
  rcases Qt.ways f n fr t o with ⟨hk, h1, h2, h3, h4, h5⟩ | ⟨hk, h⟩
  · have HK := Lib.hid (decide_eq_true hk)
    have hq := Qt.tdiv (f := f) h3
    have q0 : 0 ≤ t / (f : Int) := Int.ediv_nonneg h3 (by omega)
    have q1 : t / (f : Int) ≤ t := Int.ediv_le_self _ h3
    clear hk f1
    generalize t / (f : Int) = p at *
    go_enter Try.func22, Try.ntmps22
    go_upto_region 1 with (fail)
    rw [← hW]
    clear hW
    go_quiet (fail)
    go_wp2
    go_ret
    rw [HK.out]
    exact ⟨rfl, below_drewN HB.out _⟩
  · have HK := Lib.hid (decide_eq_false hk)
    rcases h with h1 | ⟨h1, h2⟩ | ⟨h1, h2, h3⟩ | ⟨h1, h2, h3, h4⟩ | ⟨h1, h2, h3, h4, h5⟩
    iterate 4
      · clear hk f1
        go_enter Try.func22, Try.ntmps22
        go_upto_region 1 with (fail)
        rw [← hW]
        clear hW
        go_quiet (fail)
        go_wp2
        go_ret
        rw [HK.out]
        exact ⟨rfl, below_drewN HB.out _⟩
    · have hq := Qt.tdiv (f := f) h3
      have q0 : 0 ≤ t / (f : Int) := Int.ediv_nonneg h3 (by omega)
      have q1 : t / (f : Int) ≤ t := Int.ediv_le_self _ h3
      clear hk f1
      generalize t / (f : Int) = p at *
      go_enter Try.func22, Try.ntmps22
      go_upto_region 1 with (fail)
      rw [← hW]
      clear hW
      go_quiet (fail)
      go_wp2
      go_ret
      rw [HK.out]
      exact ⟨rfl, below_drewN HB.out _⟩
set_option maxHeartbeats 3200000 in
theorem Qt.rleft_no (f n fr c : Nat) (A : Option Addr) (v : Value) (t o : Int) (w : World) (f1 : 1 ≤ f) (hk : ¬ Qt.ok f n fr t o) : Calls Try.prog 11 #[.agg #[.int .i64 f, .slice A n c, .int .i64 fr, v], .int .i64 t, .int .i64 o] w fun e w' => e = .returned (.int .i64 0) ∧ Below w.heap.size w w' := by
  obtain ⟨W, hW, G, P, Z⟩ := Qt.box1 w 32 #[.int .i64 f, .slice A n c, .int .i64 fr, v]
  have HB := Lib.hid (Qt.bel G)
  obtain ⟨b0, b1, b2, b3⟩ := Qt.box4c P
  have ha := Qt.rasked_any f n fr c A v t o W f1
  rw [decide_eq_false hk] at ha
  have HA := Lib.hid ha
  clear G P Z ha hk
  go_enter Try.func11, Try.ntmps11
  go_upto_region 1 with (fail)
  rw [← hW]
  clear hW
  go_wp2_with (go_at_call 22; (with_reducible refine HA.out.mono ?_); rintro e w2 ⟨rfl, b2⟩; have B2 := Lib.hid (HB.out.trans (b2.mono HB.out.size)); clear b2)
  go_ret
  exact ⟨rfl, B2.out⟩
set_option maxRecDepth 20000 in
set_option maxHeartbeats 3200000 in
theorem Qt.rleft_yes (f n fr c i p : Nat) (A : Option Addr) (v : Value) (t : Int) (d : Nat → Int) (l : List Qt.En) (w : World) (f1 : 1 ≤ f) (hk : Qt.ok f n fr t ((i : Int) + 1)) (hi : i < n) (hn8 : n ≤ 8) (hp : t / f = p) (hd : Qt.NumL w A n d) (hdi : 1 ≤ d i ∧ d i ≤ 16) (hl : l.length ≤ 1000) (hr : RowZ 3 w v l.length (Qt.enL l)) : Calls Try.prog 11 #[.agg #[.int .i64 f, .slice A n c, .int .i64 fr, v], .int .i64 t, .int .i64 ((i : Int) + 1)] w fun e w' => e = .returned (.int .i64 (d i - Qt.cnt l p ((i : Int) + 1) true)) ∧ Below w.heap.size w w' := by
  obtain ⟨W, hW, G, P, Z⟩ := Qt.box1 w 32 #[.int .i64 f, .slice A n c, .int .i64 fr, v]
  have HB := Lib.hid (Qt.bel G)
  have HP := Lib.hid P
  obtain ⟨b0, b1, b2, b3⟩ := Qt.box4c P
  have ha := Qt.rasked_any f n fr c A v t ((i : Int) + 1) W f1
  rw [decide_eq_true hk] at ha
  have HA := Lib.hid ha
  obtain ⟨g, off, rfl, hg, hc⟩ := (hd.only G) (by omega)
  have cd0 := hc i hi
  have HGL := Lib.hid hg
  have HR := Lib.hid (hr.grown G)
  have nz : ¬ (f : Int) = 0 := by omega
  have i2 : (i : Int) < (n : Int) := by omega
  have i0 : (0 : Int) ≤ (i : Int) := by omega
  have k3 := hk.2.2.1
  have k4 := hk.2.2.2.1
  have hp9 : (p : Int) ≤ 2147483647 := by rw [← hp]; exact Int.le_trans (Int.ediv_le_self _ k3) k4
  have hq : t.tdiv (f : Int) = p := by rw [Qt.tdiv k3, hp]
  have cl := Qt.cnt_le l p ((i : Int) + 1) true
  have cz : (0 : Int) ≤ (Qt.cnt l p ((i : Int) + 1) true : Int) := by omega
  have cl2 : (Qt.cnt l p ((i : Int) + 1) true : Int) ≤ 1000 := by omega
  have HCN := Lib.hid (fun W hW => Qt.count_any (.slice (some ⟨g, off, none⟩) n c) v f fr p ((i : Int) + 1) true l W hl hW)
  obtain ⟨d1, d2⟩ := hdi
  obtain ⟨A2, c2, rfl⟩ := hr.form
  generalize d i = x at *
  generalize Qt.cnt l p ((i : Int) + 1) true = z at *
  clear G P Z ha hk hp hd hr hl hg hc cl
  have u1 : IntKind.i64.wrap (x - (z : Int)) = x - z := by rw [IntKind.wrap_i64]; omega
  have u2 : IntKind.i64.wrap (i : Int) = i := by rw [IntKind.wrap_i64]; omega
  have up : IntKind.i64.wrap (p : Int) = p := by rw [IntKind.wrap_i64]; omega
  have nz2 : ¬ f = 0 := by omega
  have HI := Lib.hid (show i < n by omega)
  clear hi
  go_enter Try.func11, Try.ntmps11
  go_upto_region 1 with (fail)
  rw [← hW]
  clear hW
  go_upto_region 3 with (go_at_call 22; (with_reducible refine HA.out.mono ?_); rintro e w2 ⟨rfl, bb⟩; have B2 := Lib.hid bb; have c0 := (HP.out.below bb HP.out.lt).cell 0; have c1 := (HP.out.below bb HP.out.lt).cell 1; have c2 := (HP.out.below bb HP.out.lt).cell 2; have c3 := (HP.out.below bb HP.out.lt).cell 3; have c4 := (bb.cell (p := ⟨g, off + i, none⟩) HGL.out).trans cd0; have R2 := Lib.hid (HR.out.grown (Qt.grow_of bb)); clear bb)
  have HC3 := Lib.hid (fun (d : Nat) (os : Array Obj) => HCN.out _ (R2.out.grown (Qt.grow_of (below_regrown w2 d os))))
  have c0r := fun d os => cell_regrown c0 d os
  have c1r := fun d os => cell_regrown c1 d os
  have c2r := fun d os => cell_regrown c2 d os
  have c3r := fun d os => cell_regrown c3 d os
  have c4r := fun d os => cell_regrown c4 d os
  clear c0 c1 c2 c3 c4 b0 b1 b2 b3 cd0
  refine wp_region_quiet_below (by kernel_rfl) (by kernel_rfl) ?_
  repeat (quiet_step ((go_at_call 16; with_reducible exact Calls.regrown_of (HC3.out _ _))))
  refine wpQuiet_nil ?_
  rintro _ ⟨⟨dq, osq⟩, rfl⟩
  have BQ := Lib.hid (B2.out.trans ((below_regrown w2 dq osq).mono B2.out.size))
  clear c0r c1r c2r c3r c4r HC3
  generalize grow (redrawn w2 dq) osq = w3 at BQ ⊢
  go_wp2
  go_ret
  exact ⟨rfl, HB.out.trans (BQ.out.mono HB.out.size)⟩
theorem Qt.used_info : (Try.prog.info? 45).map (fun i => (i.zero, i.size, i.bytes)) = some (some (.agg #[.int .i64 0, .int .i64 0, .bool false]), 3, 24) := by kernel_rfl
theorem Qt.parts {P : Program} {e : TypeId} {z : Value} {s b : Nat} (h : (P.info? e).map (fun i => (i.zero, i.size, i.bytes)) = some (some z, s, b)) : ∃ i, P.info? e = some i ∧ i.zero = some z ∧ i.size = s ∧ i.bytes = b := by
  cases hi : P.info? e with
  | none => simp [hi] at h
  | some i => simp [hi] at h; exact ⟨i, rfl, h.1, h.2.1, h.2.2⟩
set_option maxHeartbeats 3200000 in
theorem Qt.ruse_no (f n fr c : Nat) (A A2 : Option Addr) (m c2 : Nat) (t o : Int) (w : World) (f1 : 1 ≤ f) (hk : ¬ Qt.ok f n fr t o) : Calls Try.prog 12 #[.agg #[.int .i64 f, .slice A n c, .int .i64 fr, .slice A2 m c2], .int .i64 t, .int .i64 o] w fun e w' => e = .returned (.tuple #[.agg #[.int .i64 f, .slice A n c, .int .i64 fr, .slice A2 m c2], .bool false]) ∧ w.grownBy w' none := by
  obtain ⟨W1, hW1, G1, P1, Z1⟩ := Qt.box1 w 32 #[.int .i64 f, .slice A n c, .int .i64 fr, .slice A2 m c2]
  obtain ⟨W2, hW2, G2, P2, Z2⟩ := Qt.box1 W1 32 #[.int .i64 0, .slice none 0 0, .int .i64 0, .slice none 0 0]
  have ha := Qt.rasked_any f n fr c A (.slice A2 m c2) t o W2 f1
  rw [decide_eq_false hk] at ha
  have HA := Lib.hid ha
  have HG := Lib.hid (only_trans G1 G2)
  have HP := Lib.hid (P1.only G2 (by simp))
  rw [Z1] at P2
  have HR := Lib.hid P2
  obtain ⟨b0, b1, b2, b3⟩ := Qt.box4c HP.out
  clear G1 G2 P1 P2 Z2 Z1 ha hk
  go_enter Try.func12, Try.ntmps12
  go_upto_region 1 with (fail)
  rw [← hW1, ← hW2]
  clear hW1 hW2
  go_wp2_with (go_at_call 22; (with_reducible refine HA.out.mono ?_); rintro e w2 ⟨rfl, bb⟩; have q := HP.out.below bb HP.out.lt; have q2 := HR.out.below bb HR.out.lt; have y0 := q.cell 0; have y1 := q.cell 1; have y2 := q.cell 2; have y3 := q.cell 3; have z0 := q2.cell 0; have z1 := q2.cell 1; have z2 := q2.cell 2; have z3 := q2.cell 3; have v0 := q2.free 0; have v1 := q2.free 1; have v2 := q2.free 2; have v3 := q2.free 3; have HG2 := Lib.hid (only_trans HG.out (Qt.grow_of bb)); clear q q2 bb)
  refine bodyPost_ret (v := .tuple #[.agg #[.int .i64 f, .slice A n c, .int .i64 fr, .slice A2 m c2], .bool false]) (by simp [results, Try.results12, go_sem, z0, z1, z2, z3]) rfl ⟨rfl, ?_⟩
  exact Qt.putn (Qt.putn (Qt.putn (Qt.putn HG2.out (Nat.le_succ _) _ _) (Nat.le_succ _) _ _) (Nat.le_succ _) _ _) (Nat.le_succ _) _ _
set_option maxRecDepth 20000 in
set_option maxHeartbeats 6400000 in
theorem Qt.ruse_yes (f n fr c i p : Nat) (A : Option Addr) (v : Value) (t : Int) (d : Nat → Int) (l : List Qt.En) (w : World) (f1 : 1 ≤ f) (hk : Qt.ok f n fr t ((i : Int) + 1)) (hi : i < n) (hn8 : n ≤ 8) (hp : t / f = p) (hd : Qt.NumL w A n d) (hdi : 1 ≤ d i ∧ d i ≤ 16) (hl : l.length ≤ 1000) (hr : RowZ 3 w v l.length (Qt.enL l)) (okb : Bool) (hok : okb = decide (0 < d i - (Qt.cnt l p ((i : Int) + 1) true : Int))) : Calls Try.prog 12 #[.agg #[.int .i64 f, .slice A n c, .int .i64 fr, v], .int .i64 t, .int .i64 ((i : Int) + 1)] w fun e w' => ∃ v2, e = .returned (.tuple #[.agg #[.int .i64 f, .slice A n c, .int .i64 p, v2], .bool okb]) ∧ RowZ 3 w' v2 (l.length + 1) (Qt.enL (l ++ [((p : Int), (i : Int) + 1, okb)])) ∧ w.grownBy w' none ∧ ∀ j, v2.ownBlock = some j → w.heap.size ≤ j := by
  obtain ⟨W1, hW1, G1, P1, Z1⟩ := Qt.box1 w 32 #[.int .i64 f, .slice A n c, .int .i64 fr, v]
  obtain ⟨W2, hW2, G2, P2, Z2⟩ := Qt.box1 W1 32 #[.int .i64 0, .slice none 0 0, .int .i64 0, .slice none 0 0]
  have ha := Qt.rasked_any f n fr c A v t ((i : Int) + 1) W2 f1
  rw [decide_eq_true hk] at ha
  have HA := Lib.hid ha
  have hg := only_trans G1 G2
  have HG := Lib.hid hg
  have HP := Lib.hid (P1.only G2 (by simp))
  rw [Z1] at P2
  have HR := Lib.hid P2
  have HD := Lib.hid (hd.only hg)
  have HROW := Lib.hid (hr.grown hg)
  have k3 := hk.2.2.1
  have k4 := hk.2.2.2.1
  have hq : t.tdiv (f : Int) = p := by rw [Qt.tdiv k3, hp]
  have hp9 : (p : Int) ≤ 2147483647 := by rw [← hp]; exact Int.le_trans (Int.ediv_le_self _ k3) k4
  have nz : ¬ (f : Int) = 0 := by omega
  have nz2 : ¬ f = 0 := by omega
  have up : IntKind.i64.wrap (p : Int) = p := by rw [IntKind.wrap_i64]; omega
  have HL := Lib.hid (fun W hd hr => Qt.rleft_yes f n fr c i p A v t d l W f1 hk hi hn8 hp hd hdi hl hr)
  have hlen : Qt.enL (l ++ [((p : Int), (i : Int) + 1, okb)]) = Qt.enL l ++ #[.int .i64 (p : Int), .int .i64 ((i : Int) + 1), .bool okb].toList := by rw [Qt.enL_app, Qt.enL_one]; rfl
  rw [hlen]
  generalize d i - (Qt.cnt l p ((i : Int) + 1) true : Int) = x at HL hok
  have HLL := Lib.hid hl
  have HOLD := Lib.hid (fun k hk => hr.lt k hk)
  obtain ⟨A2, c2, rfl⟩ := hr.form
  obtain ⟨b0, b1, b2, b3⟩ := Qt.box4c HP.out
  clear G1 G2 P1 P2 Z2 Z1 ha hk hg hd hr hdi hl hi hp hlen f1
  go_enter Try.func12, Try.ntmps12
  go_upto_region 1 with (fail)
  rw [← hW1, ← hW2]
  clear hW1 hW2
  go_upto_region 4 with (first
    | (go_at_call 22; (with_reducible refine HA.out.mono ?_); rintro e w2 ⟨rfl, bb⟩; have q := HP.out.below bb HP.out.lt; have q2 := HR.out.below bb HR.out.lt; have y0 := q.cell 0; have y1 := q.cell 1; have y2 := q.cell 2; have y3 := q.cell 3; have HP2 := Lib.hid q; have HR2 := Lib.hid q2; have HD2 := Lib.hid (HD.out.only (Qt.grow_of bb)); have HROW2 := Lib.hid (HROW.out.grown (Qt.grow_of bb)); have HG2 := Lib.hid (only_trans HG.out (Qt.grow_of bb)); clear q q2 bb)
    | (go_at_call 11; (with_reducible refine (HL.out _ HD2.out HROW2.out).mono ?_); rintro e w3 ⟨rfl, bb⟩; have q := HP2.out.below bb HP2.out.lt; have q2 := HR2.out.below bb HR2.out.lt; have x0 := q.cell 0; have x1 := q.cell 1; have x2 := q.cell 2; have x3 := q.cell 3; have g2 := q.free 2; have HP3 := Lib.hid q; have HR3 := Lib.hid q2; have HROW3 := Lib.hid (HROW2.out.grown (Qt.grow_of bb)); have HG3 := Lib.hid (only_trans HG2.out (Qt.grow_of bb)); clear q q2 bb))
  rw [← hok]
  clear hok HA HL HD HROW HD2 HP HR HP2 HR2 HROW2 y0 y1 y2 y3 b0 b1 b2 b3
  go_upto_region 5 with (fail)
  obtain ⟨wx, hwx⟩ : ∃ wx, wx = w3.setCell ⟨w.heap.size, 2, none⟩ (.int .i64 p) := ⟨_, rfl⟩
  have PB := Lib.hid (show Blk wx w.heap.size 32 #[.int .i64 f, .slice A n c, .int .i64 p, .slice A2 l.length c2] from by rw [hwx]; exact HP3.out.put 2 _)
  have RB := Lib.hid (show Blk wx (w.heap.size + 1) 32 #[.int .i64 0, .slice none 0 0, .int .i64 0, .slice none 0 0] from by rw [hwx]; exact HR3.out.far (by show w.heap.size + 1 ≠ w.heap.size; omega) _)
  have GX := Lib.hid (show w.grownBy wx none from by rw [hwx]; exact Qt.putn HG3.out (Nat.le_refl _) _ _)
  have ROWX := Lib.hid (show RowZ 3 wx (.slice A2 l.length c2) l.length (Qt.enL l) from by rw [hwx]; exact HROW3.out.put (fun e => by have := HOLD.out _ e; simp at this) _)
  rw [← hwx]
  clear hwx HP3 HR3 HG3 HROW3 x0 x1 x2 x3 g2
  obtain ⟨i0, hi0, hz0, hz1, hz2⟩ := Qt.parts Qt.used_info
  obtain ⟨⟨aA, cA, WA, dA, eA, XA, kA, yA, mA, zA⟩, ⟨aB, cB, WB, dB, eB, XB, kB, yB, mB, zB⟩, ⟨aC, cC, WC, dC, eC, XC, kC, yC, mC, zC⟩⟩ := Zz.three (P := Try.prog) (ty := 30) Try.underlying30 hi0 hz0 hz1 hz2 (by omega) rfl wx l.length _ (Qt.enL l) #[.int .i64 (p : Int), .int .i64 ((i : Int) + 1), .bool okb] ROWX.out (Qt.enL_cell l) HLL.out rfl (by intro u hu; simp at hu; rcases hu with rfl | rfl | rfl <;> rfl)
  have KA := Lib.hid kA
  have KB := Lib.hid kB
  have KC := Lib.hid kC
  have MA := Lib.hid mA
  have MB := Lib.hid mB
  have MC := Lib.hid mC
  have YA := Lib.hid yA
  have YB := Lib.hid yB
  have YC := Lib.hid yC
  have ZA := Lib.hid zA
  have ZB := Lib.hid zB
  have ZC := Lib.hid zC
  have SX : Hid (∀ W, Below wx.heap.size wx W → W.cell? ⟨w.heap.size, 0, none⟩ = some (.int .i64 f) ∧ W.cell? ⟨w.heap.size, 3, none⟩ = some (.slice A2 l.length c2)) := Lib.hid fun W hb => by
    have q := PB.out.below hb PB.out.lt
    exact ⟨q.cell 0, q.cell 3⟩
  have HLT := RB.out.lt
  have DONE : Hid (∀ W v2, Zz.Fin 3 wx l.length (Qt.enL l) #[.int .i64 (p : Int), .int .i64 ((i : Int) + 1), .bool okb].toList v2 W → RowZ 3 (((((W.setCell ⟨w.heap.size, 3, none⟩ v2).setCell ⟨w.heap.size + 1, 0, none⟩ (.int .i64 f)).setCell ⟨w.heap.size + 1, 1, none⟩ (.slice A n c)).setCell ⟨w.heap.size + 1, 2, none⟩ (.int .i64 p)).setCell ⟨w.heap.size + 1, 3, none⟩ v2) v2 (l.length + 1) (Qt.enL l ++ #[.int .i64 (p : Int), .int .i64 ((i : Int) + 1), .bool okb].toList) ∧ w.grownBy (((((W.setCell ⟨w.heap.size, 3, none⟩ v2).setCell ⟨w.heap.size + 1, 0, none⟩ (.int .i64 f)).setCell ⟨w.heap.size + 1, 1, none⟩ (.slice A n c)).setCell ⟨w.heap.size + 1, 2, none⟩ (.int .i64 p)).setCell ⟨w.heap.size + 1, 3, none⟩ v2) none ∧ ∀ j, v2.ownBlock = some j → w.heap.size ≤ j) := Lib.hid fun W v2 h => by
    obtain ⟨h1, h2, h3, _⟩ := h
    have n1 : v2.ownBlock ≠ some w.heap.size := fun e => by have := h3 _ e; omega
    have n2 : v2.ownBlock ≠ some (w.heap.size + 1) := fun e => by have := h3 _ e; omega
    have hb := only_trans GX.out (Qt.grow_of h2)
    exact ⟨((((h1.put (p := ⟨w.heap.size, 3, none⟩) n1 _).put (p := ⟨w.heap.size + 1, 0, none⟩) n2 _).put (p := ⟨w.heap.size + 1, 1, none⟩) n2 _).put (p := ⟨w.heap.size + 1, 2, none⟩) n2 _).put (p := ⟨w.heap.size + 1, 3, none⟩) n2 _,
      Qt.putn (Qt.putn (Qt.putn (Qt.putn (Qt.putn hb (Nat.le_refl _) _ _) (Nat.le_succ _) _ _) (Nat.le_succ _) _ _) (Nat.le_succ _) _ _) (Nat.le_succ _) _ _, fun j hj => by have := h3 j hj; have := GX.out.size; omega⟩
  clear HLT kA kB kC mA mB mC yA yB yC zA zB zC hi0 hz0 hz1 hz2
  have b0 : Below wx.heap.size wx wx := Below.refl _ _
  have bE := below_drewN (b0.alloc (by simp) (.cells #[] 45)) 1
  have bF := below_drewN (b0.alloc (by simp) (.cells #[.int .i64 (p : Int), .int .i64 ((i : Int) + 1), .bool okb] 45)) 1
  have bEF := below_drewN ((b0.alloc (by simp) (.cells #[] 45)).alloc (by simp) (.cells #[.int .i64 (p : Int), .int .i64 ((i : Int) + 1), .bool okb] 45)) 1
  have bFE := below_drewN ((b0.alloc (by simp) (.cells #[.int .i64 (p : Int), .int .i64 ((i : Int) + 1), .bool okb] 45)).alloc (by simp) (.cells #[] 45)) 1
  have bWAF := YA.out.alloc YA.out.size (.cells #[.int .i64 (p : Int), .int .i64 ((i : Int) + 1), .bool okb] 45)
  refine wp_region_ends 14 (fun w' => w'.cell? ⟨w.heap.size, 0, none⟩ = some (.int .i64 f) ∧ w'.cell? ⟨w.heap.size, 3, none⟩ = some (.slice A2 l.length c2)) (by kernel_rfl) (by kernel_rfl) (SX.out _ (below_drewN b0 1)) (fun hHeld => ?_)
  simp only [List.take_succ_cons, List.take_zero]
  refine wpAnyH_take (i := 1) (oi := _) (v := ?_) rfl (by kernel_rfl) (by kernel_rfl) (by kernel_rfl) (fun _ _ _ h => h) (Or.inl ⟨by rfl, ?_⟩) (by assumption) ?_
  case refine_2 => intro w hSw; (try dsimp only at hSw); go_simp; try with_reducible rfl
  try simp only [Act.put, List.setIfInBounds_toArray, List.set_cons_zero, List.set_cons_succ]
  refine wpAnyH_take (i := 2) (oi := _) (v := ?_) rfl (by kernel_rfl) (by kernel_rfl) (by kernel_rfl) (fun _ _ _ h => h) (Or.inl ⟨by rfl, ?_⟩) (by assumption) ?_
  case refine_2 => intro w hSw; (try dsimp only at hSw); go_simp; try with_reducible rfl
  try simp only [Act.put, List.setIfInBounds_toArray, List.set_cons_zero, List.set_cons_succ]
  refine wpAnyH_take (i := 4) (oi := _) (v := ?_) rfl (by kernel_rfl) (by kernel_rfl) (by kernel_rfl) (fun _ _ _ h => h) (Or.inl ⟨by rfl, ?_⟩) (by assumption) ?_
  case refine_2 => intro w hSw; (try dsimp only at hSw); go_simp; try with_reducible rfl
  try simp only [Act.put, List.setIfInBounds_toArray, List.set_cons_zero, List.set_cons_succ]
  refine wpAnyH_take (i := 5) (oi := _) (v := ?_) rfl (by kernel_rfl) (by kernel_rfl) (by kernel_rfl) (fun _ _ _ h => h) (Or.inl ⟨by rfl, ?_⟩) (by assumption) ?_
  case refine_2 => intro w hSw; (try dsimp only at hSw); go_simp; try with_reducible rfl
  try simp only [Act.put, List.setIfInBounds_toArray, List.set_cons_zero, List.set_cons_succ]
  refine wpAnyH_take (i := 6) (oi := _) (v := ?_) rfl (by kernel_rfl) (by kernel_rfl) (by kernel_rfl) (fun _ _ _ h => h) (Or.inl ⟨by rfl, ?_⟩) (by assumption) ?_
  case refine_2 => intro w hSw; (try dsimp only at hSw); go_simp; try with_reducible rfl
  try simp only [Act.put, List.setIfInBounds_toArray, List.set_cons_zero, List.set_cons_succ]
  refine wpAnyH_take (i := 7) (oi := _) (v := ?_) rfl (by kernel_rfl) (by kernel_rfl) (by kernel_rfl) (fun _ _ _ h => h) (Or.inl ⟨by rfl, ?_⟩) (by assumption) ?_
  case refine_2 => intro w hSw; (try dsimp only at hSw); go_simp; try with_reducible rfl
  try simp only [Act.put, List.setIfInBounds_toArray, List.set_cons_zero, List.set_cons_succ]
  refine wpAnyH_take (i := 8) (oi := _) (v := ?_) rfl (by kernel_rfl) (by kernel_rfl) (by kernel_rfl) (fun _ _ _ h => h) (Or.inl ⟨by rfl, ?_⟩) (by assumption) ?_
  case refine_2 => intro w hSw; (try dsimp only at hSw); go_simp; try with_reducible rfl
  try simp only [Act.put, List.setIfInBounds_toArray, List.set_cons_zero, List.set_cons_succ]
  refine wpAnyH_take (i := 9) (oi := _) (v := ?_) rfl (by kernel_rfl) (by kernel_rfl) (by kernel_rfl) (fun _ _ _ h => h) (Or.inl ⟨by rfl, ?_⟩) (by assumption) ?_
  case refine_2 => intro w hSw; (try dsimp only at hSw); go_simp; try with_reducible rfl
  try simp only [Act.put, List.setIfInBounds_toArray, List.set_cons_zero, List.set_cons_succ]
  refine wpAnyH_take (i := 10) (oi := _) (v := ?_) rfl (by kernel_rfl) (by kernel_rfl) (by kernel_rfl) (fun _ _ _ h => h) (Or.inl ⟨by rfl, ?_⟩) (by assumption) ?_
  case refine_2 => intro w hSw; (try dsimp only at hSw); go_simp; try with_reducible rfl
  try simp only [Act.put, List.setIfInBounds_toArray, List.set_cons_zero, List.set_cons_succ]
  refine wpAnyH_ready (rs := [0, 11]) (by kernel_rfl) (by simp) ?_
  refine AllReadyH.cons (o := _) rfl (fun K hK => ?_) ?_
  · skip
    go_simp
    refine hK.out _ _ (SX.out _ bE) (fun hHeld => ?_)
    clear hK K
    try simp only [Act.put, List.setIfInBounds_toArray, List.set_cons_zero, List.set_cons_succ]
    refine wpAnyH_ready (rs := [3, 11]) (by kernel_rfl) (by simp) ?_
    refine AllReadyH.cons (o := _) rfl (fun K hK => ?_) ?_
    · skip
      refine Zz.step_app rfl (.tmp 25) (.tmp 27) 30 rfl KA.out rfl rfl ?_
      refine hK.out _ _ (SX.out _ YA.out) (fun hHeld => ?_)
      clear hK K
      try simp only [Act.put, List.setIfInBounds_toArray, List.set_cons_zero, List.set_cons_succ]
      refine wpAnyH_ready (rs := [11]) (by kernel_rfl) (by simp) ?_
      refine AllReadyH.cons (o := _) rfl (fun K hK => ?_) AllReadyH.nil
      go_simp
      refine hK.out _ _ (SX.out _ bWAF) (fun hHeld => ?_)
      clear hK K
      try simp only [Act.put, List.setIfInBounds_toArray, List.set_cons_zero, List.set_cons_succ]
      refine wpAnyH_ready (rs := [12]) (by kernel_rfl) (by simp) ?_
      refine AllReadyH.cons (o := _) rfl (fun K hK => ?_) AllReadyH.nil
      refine Zz.step_app rfl (.tmp 28) (.tmp 36) 30 rfl MA.out rfl rfl ?_
      refine hK.out _ _ (SX.out _ ZA.out.2.1) (fun hHeld => ?_)
      clear hK K
      try simp only [Act.put, List.setIfInBounds_toArray, List.set_cons_zero, List.set_cons_succ]
      refine wpAnyH_ready (rs := [13]) (by kernel_rfl) (by simp) ?_
      refine AllReadyH.cons (o := _) rfl (fun K hK => ?_) AllReadyH.nil
      go_simp
      refine hK.out _ _ (SX.out _ ZA.out.2.1) (fun hHeld => ?_)
      clear hK K
      try simp only [Act.put, List.setIfInBounds_toArray, List.set_cons_zero, List.set_cons_succ]
      refine wpAnyH_done (by kernel_rfl) ?_ _
      have q := PB.out.below ZA.out.2.1 PB.out.lt
      have y0 := q.cell 0
      have y1 := q.cell 1
      have y2 := q.cell 2
      have y3 := q.cell 3
      have u3 := q.free 3
      have q2 := RB.out.below ZA.out.2.1 RB.out.lt
      have z0 := q2.cell 0
      have z1 := q2.cell 1
      have z2 := q2.cell 2
      have z3 := q2.cell 3
      have v0 := q2.free 0
      have v1 := q2.free 1
      have v2 := q2.free 2
      have v3 := q2.free 3
      clear q q2
      refine Ends.last rfl (fun K hK => ?_)
      go_simp
      refine hK.out _ _ ?_
      clear hK K
      go_wp2
      refine bodyPost_ret (v := .tuple #[.agg #[.int .i64 f, .slice A n c, .int .i64 p, .slice dA (l.length + 1) eA], .bool okb]) (by simp [results, Try.results12, go_sem, z0, z1, z2, z3]) rfl ⟨_, rfl, DONE.out _ _ ZA.out⟩
    · skip
      refine AllReadyH.cons (o := _) rfl (fun K hK => ?_) AllReadyH.nil
      go_simp
      refine hK.out _ _ (SX.out _ bEF) (fun hHeld => ?_)
      clear hK K
      try simp only [Act.put, List.setIfInBounds_toArray, List.set_cons_zero, List.set_cons_succ]
      refine wpAnyH_ready (rs := [3]) (by kernel_rfl) (by simp) ?_
      refine AllReadyH.cons (o := _) rfl (fun K hK => ?_) AllReadyH.nil
      refine Zz.step_app rfl (.tmp 25) (.tmp 27) 30 rfl KB.out rfl rfl ?_
      refine hK.out _ _ (SX.out _ YB.out) (fun hHeld => ?_)
      clear hK K
      try simp only [Act.put, List.setIfInBounds_toArray, List.set_cons_zero, List.set_cons_succ]
      refine wpAnyH_ready (rs := [12]) (by kernel_rfl) (by simp) ?_
      refine AllReadyH.cons (o := _) rfl (fun K hK => ?_) AllReadyH.nil
      refine Zz.step_app rfl (.tmp 28) (.tmp 36) 30 rfl MB.out rfl rfl ?_
      refine hK.out _ _ (SX.out _ ZB.out.2.1) (fun hHeld => ?_)
      clear hK K
      try simp only [Act.put, List.setIfInBounds_toArray, List.set_cons_zero, List.set_cons_succ]
      refine wpAnyH_ready (rs := [13]) (by kernel_rfl) (by simp) ?_
      refine AllReadyH.cons (o := _) rfl (fun K hK => ?_) AllReadyH.nil
      go_simp
      refine hK.out _ _ (SX.out _ ZB.out.2.1) (fun hHeld => ?_)
      clear hK K
      try simp only [Act.put, List.setIfInBounds_toArray, List.set_cons_zero, List.set_cons_succ]
      refine wpAnyH_done (by kernel_rfl) ?_ _
      have q := PB.out.below ZB.out.2.1 PB.out.lt
      have y0 := q.cell 0
      have y1 := q.cell 1
      have y2 := q.cell 2
      have y3 := q.cell 3
      have u3 := q.free 3
      have q2 := RB.out.below ZB.out.2.1 RB.out.lt
      have z0 := q2.cell 0
      have z1 := q2.cell 1
      have z2 := q2.cell 2
      have z3 := q2.cell 3
      have v0 := q2.free 0
      have v1 := q2.free 1
      have v2 := q2.free 2
      have v3 := q2.free 3
      clear q q2
      refine Ends.last rfl (fun K hK => ?_)
      go_simp
      refine hK.out _ _ ?_
      clear hK K
      go_wp2
      refine bodyPost_ret (v := .tuple #[.agg #[.int .i64 f, .slice A n c, .int .i64 p, .slice dB (l.length + 1) eB], .bool okb]) (by simp [results, Try.results12, go_sem, z0, z1, z2, z3]) rfl ⟨_, rfl, DONE.out _ _ ZB.out⟩
  · skip
    refine AllReadyH.cons (o := _) rfl (fun K hK => ?_) AllReadyH.nil
    go_simp
    refine hK.out _ _ (SX.out _ bF) (fun hHeld => ?_)
    clear hK K
    try simp only [Act.put, List.setIfInBounds_toArray, List.set_cons_zero, List.set_cons_succ]
    refine wpAnyH_ready (rs := [0]) (by kernel_rfl) (by simp) ?_
    refine AllReadyH.cons (o := _) rfl (fun K hK => ?_) AllReadyH.nil
    go_simp
    refine hK.out _ _ (SX.out _ bFE) (fun hHeld => ?_)
    clear hK K
    try simp only [Act.put, List.setIfInBounds_toArray, List.set_cons_zero, List.set_cons_succ]
    refine wpAnyH_ready (rs := [3]) (by kernel_rfl) (by simp) ?_
    refine AllReadyH.cons (o := _) rfl (fun K hK => ?_) AllReadyH.nil
    refine Zz.step_app rfl (.tmp 25) (.tmp 27) 30 rfl KC.out rfl rfl ?_
    refine hK.out _ _ (SX.out _ YC.out) (fun hHeld => ?_)
    clear hK K
    try simp only [Act.put, List.setIfInBounds_toArray, List.set_cons_zero, List.set_cons_succ]
    refine wpAnyH_ready (rs := [12]) (by kernel_rfl) (by simp) ?_
    refine AllReadyH.cons (o := _) rfl (fun K hK => ?_) AllReadyH.nil
    refine Zz.step_app rfl (.tmp 28) (.tmp 36) 30 rfl MC.out rfl rfl ?_
    refine hK.out _ _ (SX.out _ ZC.out.2.1) (fun hHeld => ?_)
    clear hK K
    try simp only [Act.put, List.setIfInBounds_toArray, List.set_cons_zero, List.set_cons_succ]
    refine wpAnyH_ready (rs := [13]) (by kernel_rfl) (by simp) ?_
    refine AllReadyH.cons (o := _) rfl (fun K hK => ?_) AllReadyH.nil
    go_simp
    refine hK.out _ _ (SX.out _ ZC.out.2.1) (fun hHeld => ?_)
    clear hK K
    try simp only [Act.put, List.setIfInBounds_toArray, List.set_cons_zero, List.set_cons_succ]
    refine wpAnyH_done (by kernel_rfl) ?_ _
    have q := PB.out.below ZC.out.2.1 PB.out.lt
    have y0 := q.cell 0
    have y1 := q.cell 1
    have y2 := q.cell 2
    have y3 := q.cell 3
    have u3 := q.free 3
    have q2 := RB.out.below ZC.out.2.1 RB.out.lt
    have z0 := q2.cell 0
    have z1 := q2.cell 1
    have z2 := q2.cell 2
    have z3 := q2.cell 3
    have v0 := q2.free 0
    have v1 := q2.free 1
    have v2 := q2.free 2
    have v3 := q2.free 3
    clear q q2
    refine Ends.last rfl (fun K hK => ?_)
    go_simp
    refine hK.out _ _ ?_
    clear hK K
    go_wp2
    refine bodyPost_ret (v := .tuple #[.agg #[.int .i64 f, .slice A n c, .int .i64 p, .slice dC (l.length + 1) eC], .bool okb]) (by simp [results, Try.results12, go_sem, z0, z1, z2, z3]) rfl ⟨_, rfl, DONE.out _ _ ZC.out⟩
end Go.Proofs.Yticmgkdhdfkpeaa
