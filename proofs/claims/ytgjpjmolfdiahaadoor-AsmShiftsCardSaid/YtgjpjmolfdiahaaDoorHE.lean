/- A region that draws its order, and whose last operation waits for all others: they in any order, under a condition that need not hold behind the last one; then the last one. No program is spoken of here. -/
import Derived.OrdersHeld
import Derived.Deep.RegionHeld
namespace Go.Proofs.YtgjpjmolfdiahaaDoor
open Go
set_option linter.unusedVariables false

section
variable {P : Program} {ops : Array Oper} {md : Region.Mode} {Q : Exit → Act → World → Prop} {S : World → Prop} {n : Nat}

/-- The post behind all but the last one. -/
def Ends (P : Program) (ops : Array Oper) (Q : Exit → Act → World → Prop) (n : Nat) : Exit → Act → World → Prop
  | .normal, a, w => wpOp P ops Q n (fun a' w' => Q .normal a' w') a w
  | .ret, a, w => Q .ret a w
  | .panic c, a, w => Q (.panic c) a w
  | .outgrown, a, w => Q .outgrown a w
  | e, a, w => Q e a w

theorem wpOp_pop (hz : ops.size = n + 1) (hg : ∀ (i : Nat) (o : Oper), ops[i]? = some o → o.guard = none) {i : Nat} (hi : i < n) {K : Act → World → Prop} {a : Act} {w : World} (h : wpOp P ops.pop (Ends P ops Q n) i K a w) : wpOp P ops Q i K a w := by
  unfold wpOp at *
  have he : ops.pop[i]? = ops[i]? := by rw [Array.getElem?_pop, if_pos (by omega)]
  rw [he] at h
  cases ho : ops[i]? with
  | none => rw [ho] at h; exact h
  | some o =>
    rw [ho] at h
    have hw : ∀ y, Region.wanted o y = true := fun y => by simp [Region.wanted, hg i o ho]
    simp only [hw, if_true] at h ⊢
    rcases h with h | ⟨h1, h2⟩
    · refine .inl ?_
      unfold Oper.wp at *
      generalize (execOp a.eval o).run P w = r at *
      cases r with
      | ok x w' =>
        cases x <;> simp only [Oper.upon] at h ⊢
        case value u => exact h
        case skip => exact h
        case defer d => exact h
        case enter f args =>
          refine Calls.mono h fun e w'' he => ?_
          cases e with
          | returned u => exact he
          | panicked c => exact he
          | outgrown => exact he
        case row row args => exact h
      | halt x w' =>
        cases x <;> simp only [Oper.upon] at h ⊢
        case panic u => exact h
    · exact .inr ⟨h1, h2⟩

/-- What the law asks of the region's form. -/
def endsB (md : Region.Mode) (ops : Array Oper) (n : Nat) : Bool :=
  decide (ops.size = n + 1) && (List.range (n + 1)).all fun i => match ops[i]? with
    | none => true
    | some o => o.guard.isNone && (o.after.all fun e => decide (e.on < i)) && (if i = n then (List.range n).all fun j => o.after.any fun e => Region.binds md e && decide (e.on = j) else true)
theorem endsB_spec (h : endsB md ops n = true) : ops.size = n + 1 ∧ (∀ (i : Nat) (o : Oper), ops[i]? = some o → o.guard = none) ∧ (∀ (i : Nat) (o : Oper), ops[i]? = some o → ∀ e ∈ o.after, e.on < i) ∧ ∀ (o : Oper), ops[n]? = some o → ∀ j, j < n → ∃ e ∈ o.after, Region.binds md e = true ∧ e.on = j := by
  unfold endsB at h
  rw [Bool.and_eq_true, List.all_eq_true] at h
  obtain ⟨h1, h2⟩ := h
  have hz : ops.size = n + 1 := by simpa using h1
  have key : ∀ (i : Nat) (o : Oper), ops[i]? = some o → (o.guard.isNone && (o.after.all fun e => decide (e.on < i)) && (if i = n then (List.range n).all fun j => o.after.any fun e => Region.binds md e && decide (e.on = j) else true)) = true := fun i o ho => by
    have hi : i < ops.size := (Array.getElem?_eq_some_iff.1 ho).1
    have := h2 i (by rw [List.mem_range]; omega)
    rwa [ho] at this
  refine ⟨hz, fun i o ho => ?_, fun i o ho e he => ?_, fun o ho j hj => ?_⟩
  · have := key i o ho
    simp only [Bool.and_eq_true] at this
    simpa using this.1.1
  · have := key i o ho
    simp only [Bool.and_eq_true] at this
    have := this.1.2
    rw [Array.all_eq_true_iff_forall_mem] at this
    simpa using this e he
  · have := key n o ho
    simp only [Bool.and_eq_true, if_true] at this
    have := this.2
    rw [List.all_eq_true] at this
    have := this j (by simpa using hj)
    obtain ⟨q, hq, hb⟩ := Array.any_eq_true.1 this
    simp only [Bool.and_eq_true, decide_eq_true_eq] at hb
    exact ⟨_, Array.getElem_mem hq, hb⟩

/-- Something may come up as long as something has not. -/
theorem some_ready (he : ∀ (i : Nat) (o : Oper), ops[i]? = some o → ∀ e ∈ o.after, e.on < i) {listed : Array Bool} (hl : listed.size = ops.size) : ∀ (i : Nat), i < ops.size → listed.getD i true = false → ∃ j, j ≤ i ∧ j ∈ Region.ready md ops listed := by
  intro i
  induction i using Nat.strongRecOn with
  | ind i ih =>
    intro hi hf
    by_cases hall : ∀ e ∈ (ops[i]'hi).after, Region.binds md e = true → listed.getD e.on false = true
    · exact ⟨i, Nat.le_refl _, mem_ready.2 ⟨hf, _, Array.getElem?_eq_getElem hi, hall⟩⟩
    · simp only [Classical.not_forall] at hall
      obtain ⟨e, hm, hbi, hb⟩ := hall
      have hlt := he i _ (Array.getElem?_eq_getElem hi) e hm
      have h9 : e.on < listed.size := by omega
      have hf' : listed.getD e.on true = false := by
        simp [Array.getD, h9] at hb ⊢
        exact hb
      obtain ⟨j, hj, hr⟩ := ih e.on hlt (by omega) hf'
      exact ⟨j, by omega, hr⟩

/-- All but the last one have come up. -/
def AllBut (n : Nat) (listed : Array Bool) : Prop := listed.size = n + 1 ∧ listed.getD n true = false ∧ ∀ i, i < n → listed.getD i true = true
theorem getD_same {listed : Array Bool} {i : Nat} (h : i < listed.size) : listed.getD i true = listed.getD i false := by simp [Array.getD, h]
theorem getD_pop {listed : Array Bool} {i : Nat} (d : Bool) (h : i + 1 < listed.size) : listed.pop.getD i d = listed.getD i d := by
  have h1 : i < listed.pop.size := by simp; omega
  have h2 : i < listed.size := by omega
  simp only [Array.getD, h1, h2, dif_pos]
  simp
theorem ready_pop (hz : ops.size = n + 1) (he : ∀ (i : Nat) (o : Oper), ops[i]? = some o → ∀ e ∈ o.after, e.on < i) {listed : Array Bool} (hl : listed.size = n + 1) {i : Nat} (hi : i < n) : i ∈ Region.ready md ops listed ↔ i ∈ Region.ready md ops.pop listed.pop := by
  rw [mem_ready, mem_ready, getD_pop _ (by omega), Array.getElem?_pop, if_pos (by omega)]
  refine and_congr Iff.rfl ⟨fun ⟨o, ho, h⟩ => ⟨o, ho, fun e hm hb => ?_⟩, fun ⟨o, ho, h⟩ => ⟨o, ho, fun e hm hb => ?_⟩⟩
  · have := he i o ho e hm
    rw [getD_pop _ (by omega)]
    exact h e hm hb
  · have := he i o ho e hm
    have h9 := h e hm hb
    rwa [getD_pop _ (by omega)] at h9
theorem ends_done (hz : ops.size = n + 1) (he : ∀ (i : Nat) (o : Oper), ops[i]? = some o → ∀ e ∈ o.after, e.on < i) {listed : Array Bool} (h : AllBut n listed) {a : Act} {w : World} (hq : Ends P ops Q n .normal a w) (fuel : Nat) : wpAny P md ops Q (fuel + 1) listed a w := by
  obtain ⟨h1, h2, h3⟩ := h
  have hn : n < ops.size := by omega
  have hr : n ∈ Region.ready md ops listed := mem_ready.2 ⟨h2, _, Array.getElem?_eq_getElem hn, fun e hm hb => by
    have := he n _ (Array.getElem?_eq_getElem hn) e hm
    rw [← getD_same (by omega)]
    exact h3 e.on this⟩
  have hset : Region.ready md ops (listed.setIfInBounds n true) = [] := by
    refine List.eq_nil_iff_forall_not_mem.2 fun i hi => ?_
    obtain ⟨k1, o, ho, _⟩ := mem_ready.1 hi
    have hio : i < ops.size := (Array.getElem?_eq_some_iff.1 ho).1
    by_cases hin : i = n
    · subst hin
      simp [Array.getD, h1] at k1
    · rw [getD_set_ne true (Ne.symm hin), h3 i (by omega)] at k1
      cases k1
  refine ⟨fun h0 => (by rw [h0] at hr; cases hr), fun i hi => ?_⟩
  have hin : i = n := by
    obtain ⟨k1, o, ho, _⟩ := mem_ready.1 hi
    have hio : i < ops.size := (Array.getElem?_eq_some_iff.1 ho).1
    refine Classical.byContradiction fun hne => ?_
    rw [h3 i (by omega)] at k1
    cases k1
  subst hin
  refine wpOp_mono (fun a' w' hq' => ?_) hq
  cases fuel with
  | zero => exact ⟨hset, hq'⟩
  | succ k => exact ⟨fun _ => hq', by rw [hset]; simp⟩
theorem all_but (hz : ops.size = n + 1) (he : ∀ (i : Nat) (o : Oper), ops[i]? = some o → ∀ e ∈ o.after, e.on < i) {listed : Array Bool} (hl : listed.size = n + 1) (hn : listed.getD n true = false) (hr : Region.ready md ops.pop listed.pop = []) : AllBut n listed := by
  refine ⟨hl, hn, fun i hi => ?_⟩
  refine Classical.byContradiction fun hne => ?_
  have hf : listed.getD i true = false := by simpa using hne
  obtain ⟨j, hj, hjr⟩ := some_ready (md := md) he (by omega) i (by omega) hf
  have := (ready_pop hz he hl (by omega)).1 hjr
  rw [hr] at this
  cases this
theorem wpAny_ends (hB : endsB md ops n = true) : ∀ (fuel : Nat) (listed : Array Bool) (a : Act) (w : World), listed.size = n + 1 → listed.getD n true = false → wpAnyH P md ops.pop (Ends P ops Q n) S fuel listed.pop a w → wpAny P md ops Q (fuel + 1) listed a w
  | 0, listed, a, w, hl, hn, h => by
    obtain ⟨hz, hg, he, hlast⟩ := endsB_spec hB
    exact ends_done hz he (all_but hz he hl hn h.1) h.2 0
  | fuel + 1, listed, a, w, hl, hn, h => by
    obtain ⟨hz, hg, he, hlast⟩ := endsB_spec hB
    by_cases h0 : Region.ready md ops.pop listed.pop = []
    · exact ends_done hz he (all_but hz he hl hn h0) (h.1 h0) (fuel + 1)
    · have hlow : ∀ i, i ∈ Region.ready md ops listed → i < n := fun i hi => by
        obtain ⟨k1, o, ho, k2⟩ := mem_ready.1 hi
        have hio : i < ops.size := (Array.getElem?_eq_some_iff.1 ho).1
        refine Classical.byContradiction fun hne => h0 ?_
        have hin : i = n := by omega
        subst hin
        refine List.eq_nil_iff_forall_not_mem.2 fun j hj => ?_
        have hjn : j < i := by
          obtain ⟨_, o', ho', _⟩ := mem_ready.1 hj
          have := (Array.getElem?_eq_some_iff.1 ho').1
          simp at this
          omega
        obtain ⟨e, hm, hb, rfl⟩ := hlast o ho j hjn
        have h9 := k2 e hm hb
        have h8 := (mem_ready.1 ((ready_pop hz he hl hjn).2 hj)).1
        rw [getD_same (by omega)] at h8
        rw [h8] at h9
        cases h9
      refine ⟨fun h1 => ?_, fun i hi => ?_⟩
      · exfalso
        refine h0 (List.eq_nil_iff_forall_not_mem.2 fun j hj => ?_)
        have hjn : j < n := by
          obtain ⟨_, o', ho', _⟩ := mem_ready.1 hj
          have := (Array.getElem?_eq_some_iff.1 ho').1
          simp at this
          omega
        have := (ready_pop hz he hl hjn).2 hj
        rw [h1] at this
        cases this
      · have hin := hlow i hi
        have h2 := h.2 i ((ready_pop hz he hl hin).1 hi)
        refine wpOp_mono (fun a' w' h3 => ?_) (wpOp_pop hz hg hin h2)
        refine wpAny_ends hB fuel _ a' w' (by simpa using hl) (by rw [getD_set_ne true (by omega)]; exact hn) ?_
        have : (listed.setIfInBounds i true).pop = listed.pop.setIfInBounds i true := by
          apply Array.ext_getElem?
          intro k
          simp only [Array.getElem?_pop, Array.getElem?_setIfInBounds, Array.size_pop, Array.size_setIfInBounds]
          by_cases hk : i = k
          · subst hk
            have q1 : i < listed.size := by omega
            have q2 : i < listed.size - 1 := by omega
            simp [q1, q2]
          · simp [hk]
        rw [this]
        exact h3.2

/-- The last one comes up. -/
theorem Ends.last {a : Act} {w : World} {o : Oper} (ho : ops[n]? = some o) (h : ∀ K' : Act → World → Prop, Shut (∀ a w, Q .normal a w → K' a w) → if Region.wanted o (yielded ops a.tmps) = true then Oper.wp P o a w K' Q else K' (a.put o.dst undef) w) : Ends P ops Q n .normal a w :=
  wpOp_step ho h

/-- **A region whose last operation waits for all others.** -/
theorem wp_region_ends {id : Nat} {a : Act} {w : World} {l : List Oper} (n : Nat) (S : World → Prop) (hm : P.follows .mixedOrders = true) (hB : endsB .any l.toArray n = true) (hS : S w.drew)
    (h : S w.drew → wpAnyH P .any (l.take n).toArray (Ends P l.toArray Q n) S n (Array.replicate n false) a w.drew) : (Code.region id l.toArray true).wp P Q a w := by
  obtain ⟨hz, hg, he, hlast⟩ := endsB_spec hB
  refine wp_region_any hm ?_
  rw [hz]
  refine wpAny_ends (S := S) hB n (Array.replicate (n + 1) false) a _ (by simp) (by simp [Array.getD]) ?_
  have h1 : l.toArray.pop = (l.take n).toArray := by
    have hz' : l.length = n + 1 := by simpa using hz
    rw [List.pop_toArray, List.dropLast_eq_take, hz']
    rfl
  have h2 : (Array.replicate (n + 1) false).pop = Array.replicate n false := by simp
  rw [h1, h2]
  exact h hS
end
end Go.Proofs.YtgjpjmolfdiahaaDoor
