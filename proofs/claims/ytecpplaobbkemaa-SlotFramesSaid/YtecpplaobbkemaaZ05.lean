import Derived.OrdersHeld
import Derived.Deep.RegionHeld
import Derived.Test.YtecpplaobbkemaaZ02
import Derived.Test.YtecpplaobbkemaaZ04
set_option linter.all false
/- A region that draws its order, and whose last operation waits for all others: they in any order, under a condition that need not hold behind the last one; then the last one. No program is spoken of here. -/
namespace Go.Proofs.Ytecpplaobbkemaa
open Go
set_option linter.unusedVariables false

section
variable {P : Program} {ops : Array Oper} {md : Region.Mode} {Q : Exit → Act → World → Prop} {S : World → Prop} {n : Nat}

/-- The post behind all but the last one. -/
def Ends (P : Program) (ops : Array Oper) (Q : Exit → Act → World → Prop) (n : Nat) : Exit → Act → World → Prop
  | .normal, a, w => wpOp P ops Q n (fun a' w' => Q .normal a' w') a w
  | .ret, a, w => Q .ret a w
  | .panic c, a, w => Q (.panic c) a w
  | .outgrown, a, w => Q .outgrown a w
  | e, a, w => Q e a w

theorem wpOp_pop (hz : ops.size = n + 1) (hg : ∀ (i : Nat) (o : Oper), ops[i]? = some o → o.guard = none) {i : Nat} (hi : i < n) {K : Act → World → Prop} {a : Act} {w : World} (h : wpOp P ops.pop (Ends P ops Q n) i K a w) : wpOp P ops Q i K a w := by
  unfold wpOp at *
  have he : ops.pop[i]? = ops[i]? := by rw [Array.getElem?_pop, if_pos (by omega)]
  rw [he] at h
  cases ho : ops[i]? with
  | none => rw [ho] at h; exact h
  | some o =>
    rw [ho] at h
    have hw : ∀ y, Region.wanted o y = true := fun y => by simp [Region.wanted, hg i o ho]
    simp only [hw, if_true] at h ⊢
    rcases h with h | ⟨h1, h2⟩
    · refine .inl ?_
      unfold Oper.wp at *
      generalize (execOp a.eval o).run P w = r at *
      cases r with
      | ok x w' =>
        cases x <;> simp only [Oper.upon] at h ⊢
        case value u => exact h
        case skip => exact h
        case defer d => exact h
        case enter f args =>
          refine Calls.mono h fun e w'' he => ?_
          cases e with
          | returned u => exact he
          | panicked c => exact he
          | outgrown => exact he
        case row row args => exact h
      | halt x w' =>
        cases x <;> simp only [Oper.upon] at h ⊢
        case panic u => exact h
    · exact .inr ⟨h1, h2⟩

/-- What the law asks of the region's form. -/
def endsB (md : Region.Mode) (ops : Array Oper) (n : Nat) : Bool :=
  decide (ops.size = n + 1) && (List.range (n + 1)).all fun i => match ops[i]? with
    | none => true
    | some o => o.guard.isNone && (o.after.all fun e => decide (e.on < i)) && (if i = n then (List.range n).all fun j => o.after.any fun e => Region.binds md e && decide (e.on = j) else true)
theorem endsB_spec (h : endsB md ops n = true) : ops.size = n + 1 ∧ (∀ (i : Nat) (o : Oper), ops[i]? = some o → o.guard = none) ∧ (∀ (i : Nat) (o : Oper), ops[i]? = some o → ∀ e ∈ o.after, e.on < i) ∧ ∀ (o : Oper), ops[n]? = some o → ∀ j, j < n → ∃ e ∈ o.after, Region.binds md e = true ∧ e.on = j := by
  unfold endsB at h
  rw [Bool.and_eq_true, List.all_eq_true] at h
  obtain ⟨h1, h2⟩ := h
  have hz : ops.size = n + 1 := by simpa using h1
  have key : ∀ (i : Nat) (o : Oper), ops[i]? = some o → (o.guard.isNone && (o.after.all fun e => decide (e.on < i)) && (if i = n then (List.range n).all fun j => o.after.any fun e => Region.binds md e && decide (e.on = j) else true)) = true := fun i o ho => by
    have hi : i < ops.size := (Array.getElem?_eq_some_iff.1 ho).1
    have := h2 i (by rw [List.mem_range]; omega)
    rwa [ho] at this
  refine ⟨hz, fun i o ho => ?_, fun i o ho e he => ?_, fun o ho j hj => ?_⟩
  · have := key i o ho
    simp only [Bool.and_eq_true] at this
    simpa using this.1.1
  · have := key i o ho
    simp only [Bool.and_eq_true] at this
    have := this.1.2
    rw [Array.all_eq_true_iff_forall_mem] at this
    simpa using this e he
  · have := key n o ho
    simp only [Bool.and_eq_true, if_true] at this
    have := this.2
    rw [List.all_eq_true] at this
    have := this j (by simpa using hj)
    obtain ⟨q, hq, hb⟩ := Array.any_eq_true.1 this
    simp only [Bool.and_eq_true, decide_eq_true_eq] at hb
    exact ⟨_, Array.getElem_mem hq, hb⟩

/-- Something may come up as1 long as1 something has not. -/
theorem some_ready (he : ∀ (i : Nat) (o : Oper), ops[i]? = some o → ∀ e ∈ o.after, e.on < i) {listed : Array Bool} (hl : listed.size = ops.size) : ∀ (i : Nat), i < ops.size → listed.getD i true = false → ∃ j, j ≤ i ∧ j ∈ Region.ready md ops listed := by
  intro i
  induction i using Nat.strongRecOn with
  | ind i ih =>
    intro hi hf
    by_cases hall : ∀ e ∈ (ops[i]'hi).after, Region.binds md e = true → listed.getD e.on false = true
    · exact ⟨i, Nat.le_refl _, mem_ready.2 ⟨hf, _, Array.getElem?_eq_getElem hi, hall⟩⟩
    · simp only [Classical.not_forall] at hall
      obtain ⟨e, hm, hbi, hb⟩ := hall
      have hlt := he i _ (Array.getElem?_eq_getElem hi) e hm
      have h9 : e.on < listed.size := by omega
      have hf' : listed.getD e.on true = false := by
        simp [Array.getD, h9] at hb ⊢
        exact hb
      obtain ⟨j, hj, hr⟩ := ih e.on hlt (by omega) hf'
      exact ⟨j, by omega, hr⟩

/-- All but the last one have come up. -/
def AllBut (n : Nat) (listed : Array Bool) : Prop := listed.size = n + 1 ∧ listed.getD n true = false ∧ ∀ i, i < n → listed.getD i true = true
theorem getD_same {listed : Array Bool} {i : Nat} (h : i < listed.size) : listed.getD i true = listed.getD i false := by simp [Array.getD, h]
theorem getD_pop {listed : Array Bool} {i : Nat} (d : Bool) (h : i + 1 < listed.size) : listed.pop.getD i d = listed.getD i d := by
  have h1 : i < listed.pop.size := by simp; omega
  have h2 : i < listed.size := by omega
  simp only [Array.getD, h1, h2, dif_pos]
  simp
theorem ready_pop (hz : ops.size = n + 1) (he : ∀ (i : Nat) (o : Oper), ops[i]? = some o → ∀ e ∈ o.after, e.on < i) {listed : Array Bool} (hl : listed.size = n + 1) {i : Nat} (hi : i < n) : i ∈ Region.ready md ops listed ↔ i ∈ Region.ready md ops.pop listed.pop := by
  rw [mem_ready, mem_ready, getD_pop _ (by omega), Array.getElem?_pop, if_pos (by omega)]
  refine and_congr Iff.rfl ⟨fun ⟨o, ho, h⟩ => ⟨o, ho, fun e hm hb => ?_⟩, fun ⟨o, ho, h⟩ => ⟨o, ho, fun e hm hb => ?_⟩⟩
  · have := he i o ho e hm
    rw [getD_pop _ (by omega)]
    exact h e hm hb
  · have := he i o ho e hm
    have h9 := h e hm hb
    rwa [getD_pop _ (by omega)] at h9
theorem ends_done (hz : ops.size = n + 1) (he : ∀ (i : Nat) (o : Oper), ops[i]? = some o → ∀ e ∈ o.after, e.on < i) {listed : Array Bool} (h : AllBut n listed) {a : Act} {w : World} (hq : Ends P ops Q n .normal a w) (fuel : Nat) : wpAny P md ops Q (fuel + 1) listed a w := by
  obtain ⟨h1, h2, h3⟩ := h
  have hn : n < ops.size := by omega
  have hr : n ∈ Region.ready md ops listed := mem_ready.2 ⟨h2, _, Array.getElem?_eq_getElem hn, fun e hm hb => by
    have := he n _ (Array.getElem?_eq_getElem hn) e hm
    rw [← getD_same (by omega)]
    exact h3 e.on this⟩
  have hset : Region.ready md ops (listed.setIfInBounds n true) = [] := by
    refine List.eq_nil_iff_forall_not_mem.2 fun i hi => ?_
    obtain ⟨k1, o, ho, _⟩ := mem_ready.1 hi
    have hio : i < ops.size := (Array.getElem?_eq_some_iff.1 ho).1
    by_cases hin : i = n
    · subst hin
      simp [Array.getD, h1] at k1
    · rw [getD_set_ne true (Ne.symm hin), h3 i (by omega)] at k1
      cases k1
  refine ⟨fun h0 => (by rw [h0] at hr; cases hr), fun i hi => ?_⟩
  have hin : i = n := by
    obtain ⟨k1, o, ho, _⟩ := mem_ready.1 hi
    have hio : i < ops.size := (Array.getElem?_eq_some_iff.1 ho).1
    refine Classical.byContradiction fun hne => ?_
    rw [h3 i (by omega)] at k1
    cases k1
  subst hin
  refine wpOp_mono (fun a' w' hq' => ?_) hq
  cases fuel with
  | zero => exact ⟨hset, hq'⟩
  | succ k => exact ⟨fun _ => hq', by rw [hset]; simp⟩
theorem all_but (hz : ops.size = n + 1) (he : ∀ (i : Nat) (o : Oper), ops[i]? = some o → ∀ e ∈ o.after, e.on < i) {listed : Array Bool} (hl : listed.size = n + 1) (hn : listed.getD n true = false) (hr : Region.ready md ops.pop listed.pop = []) : AllBut n listed := by
  refine ⟨hl, hn, fun i hi => ?_⟩
  refine Classical.byContradiction fun hne => ?_
  have hf : listed.getD i true = false := by simpa using hne
  obtain ⟨j, hj, hjr⟩ := some_ready (md := md) he (by omega) i (by omega) hf
  have := (ready_pop hz he hl (by omega)).1 hjr
  rw [hr] at this
  cases this
theorem wpAny_ends (hB : endsB md ops n = true) : ∀ (fuel : Nat) (listed : Array Bool) (a : Act) (w : World), listed.size = n + 1 → listed.getD n true = false → wpAnyH P md ops.pop (Ends P ops Q n) S fuel listed.pop a w → wpAny P md ops Q (fuel + 1) listed a w
  | 0, listed, a, w, hl, hn, h => by
    obtain ⟨hz, hg, he, hlast⟩ := endsB_spec hB
    exact ends_done hz he (all_but hz he hl hn h.1) h.2 0
  | fuel + 1, listed, a, w, hl, hn, h => by
    obtain ⟨hz, hg, he, hlast⟩ := endsB_spec hB
    by_cases h0 : Region.ready md ops.pop listed.pop = []
    · exact ends_done hz he (all_but hz he hl hn h0) (h.1 h0) (fuel + 1)
    · have hlow : ∀ i, i ∈ Region.ready md ops listed → i < n := fun i hi => by
        obtain ⟨k1, o, ho, k2⟩ := mem_ready.1 hi
        have hio : i < ops.size := (Array.getElem?_eq_some_iff.1 ho).1
        refine Classical.byContradiction fun hne => h0 ?_
        have hin : i = n := by omega
        subst hin
        refine List.eq_nil_iff_forall_not_mem.2 fun j hj => ?_
        have hjn : j < i := by
          obtain ⟨_, o', ho', _⟩ := mem_ready.1 hj
          have := (Array.getElem?_eq_some_iff.1 ho').1
          simp at this
          omega
        obtain ⟨e, hm, hb, rfl⟩ := hlast o ho j hjn
        have h9 := k2 e hm hb
        have h8 := (mem_ready.1 ((ready_pop hz he hl hjn).2 hj)).1
        rw [getD_same (by omega)] at h8
        rw [h8] at h9
        cases h9
      refine ⟨fun h1 => ?_, fun i hi => ?_⟩
      · exfalso
        refine h0 (List.eq_nil_iff_forall_not_mem.2 fun j hj => ?_)
        have hjn : j < n := by
          obtain ⟨_, o', ho', _⟩ := mem_ready.1 hj
          have := (Array.getElem?_eq_some_iff.1 ho').1
          simp at this
          omega
        have := (ready_pop hz he hl hjn).2 hj
        rw [h1] at this
        cases this
      · have hin := hlow i hi
        have h2 := h.2 i ((ready_pop hz he hl hin).1 hi)
        refine wpOp_mono (fun a' w' h3 => ?_) (wpOp_pop hz hg hin h2)
        refine wpAny_ends hB fuel _ a' w' (by simpa using hl) (by rw [getD_set_ne true (by omega)]; exact hn) ?_
        have : (listed.setIfInBounds i true).pop = listed.pop.setIfInBounds i true := by
          apply Array.ext_getElem?
          intro k
          simp only [Array.getElem?_pop, Array.getElem?_setIfInBounds, Array.size_pop, Array.size_setIfInBounds]
          by_cases hk : i = k
          · subst hk
            have q1 : i < listed.size := by omega
            have q2 : i < listed.size - 1 := by omega
            simp [q1, q2]
          · simp [hk]
        rw [this]
        exact h3.2

/-- The last one comes up. -/
theorem Ends.last {a : Act} {w : World} {o : Oper} (ho : ops[n]? = some o) (h : ∀ K' : Act → World → Prop, Shut (∀ a w, Q .normal a w → K' a w) → if Region.wanted o (yielded ops a.tmps) = true then Oper.wp P o a w K' Q else K' (a.put o.dst undef) w) : Ends P ops Q n .normal a w :=
  wpOp_step ho h

/-- **A region whose last operation waits for all others.** -/
theorem wp_region_ends {id : Nat} {a : Act} {w : World} {l : List Oper} (n : Nat) (S : World → Prop) (hm : P.follows .mixedOrders = true) (hB : endsB .any l.toArray n = true) (hS : S w.drew)
    (h : S w.drew → wpAnyH P .any (l.take n).toArray (Ends P l.toArray Q n) S n (Array.replicate n false) a w.drew) : (Code.region id l.toArray true).wp P Q a w := by
  obtain ⟨hz, hg, he, hlast⟩ := endsB_spec hB
  refine wp_region_any hm ?_
  rw [hz]
  refine wpAny_ends (S := S) hB n (Array.replicate (n + 1) false) a _ (by simp) (by simp [Array.getD]) ?_
  have h1 : l.toArray.pop = (l.take n).toArray := by
    have hz' : l.length = n + 1 := by simpa using hz
    rw [List.pop_toArray, List.dropLast_eq_take, hz']
    rfl
  have h2 : (Array.replicate (n + 1) false).pop = Array.replicate n false := by simp
  rw [h1, h2]
  exact h hS
end
end Go.Proofs.Ytecpplaobbkemaa

/- A region that draws its order, and whose last operation waits for all others, some of them by way of others; see HE. No program is spoken of here. -/
namespace Go.Proofs.Ytecpplaobbkemaa
open Go
set_option linter.unusedVariables false

section
variable {P : Program} {ops : Array Oper} {md : Region.Mode} {Q : Exit → Act → World → Prop} {S : World → Prop} {n : Nat}
/-- What the law asks of the region's form: no guards; each operation but the last has one that waits for it. -/
def endsB2 (md : Region.Mode) (ops : Array Oper) (n : Nat) : Bool :=
  decide (ops.size = n + 1) && ((List.range (n + 1)).all fun i => match ops[i]? with
    | none => true
    | some o => o.guard.isNone && (o.after.all fun e => decide (e.on < i))) &&
  (List.range n).all fun j => (List.range (n + 1)).any fun k => decide (j < k) && match ops[k]? with
    | none => false
    | some o => o.after.any fun e => Region.binds md e && decide (e.on = j)
theorem endsB2_spec (h : endsB2 md ops n = true) : ops.size = n + 1 ∧ (∀ (i : Nat) (o : Oper), ops[i]? = some o → o.guard = none) ∧ (∀ (i : Nat) (o : Oper), ops[i]? = some o → ∀ e ∈ o.after, e.on < i) ∧ ∀ j, j < n → ∃ k o, j < k ∧ k ≤ n ∧ ops[k]? = some o ∧ ∃ e ∈ o.after, Region.binds md e = true ∧ e.on = j := by
  unfold endsB2 at h
  rw [Bool.and_eq_true, Bool.and_eq_true, List.all_eq_true, List.all_eq_true] at h
  obtain ⟨⟨h1, h2⟩, h3⟩ := h
  have hz : ops.size = n + 1 := by simpa using h1
  have key : ∀ (i : Nat) (o : Oper), ops[i]? = some o → (o.guard.isNone && (o.after.all fun e => decide (e.on < i))) = true := fun i o ho => by
    have hi : i < ops.size := (Array.getElem?_eq_some_iff.1 ho).1
    have := h2 i (by rw [List.mem_range]; omega)
    rwa [ho] at this
  refine ⟨hz, fun i o ho => ?_, fun i o ho e he => ?_, fun j hj => ?_⟩
  · have := key i o ho
    simp only [Bool.and_eq_true] at this
    simpa using this.1
  · have := key i o ho
    simp only [Bool.and_eq_true] at this
    have := this.2
    rw [Array.all_eq_true_iff_forall_mem] at this
    simpa using this e he
  · have := h3 j (by simpa using hj)
    rw [List.any_eq_true] at this
    obtain ⟨k, hk, hb⟩ := this
    simp only [Bool.and_eq_true, decide_eq_true_eq] at hb
    obtain ⟨hjk, hb⟩ := hb
    cases ho : ops[k]? with
    | none => rw [ho] at hb; cases hb
    | some o =>
      rw [ho] at hb
      obtain ⟨q, hq, hb⟩ := Array.any_eq_true.1 hb
      simp only [Bool.and_eq_true, decide_eq_true_eq] at hb
      exact ⟨k, o, hjk, by have := List.mem_range.1 hk; omega, ho, _, Array.getElem_mem hq, hb⟩
/-- What has come up had all come up that it waits for. -/
def DownC (md : Region.Mode) (ops : Array Oper) (listed : Array Bool) : Prop := ∀ (i : Nat) (o : Oper), ops[i]? = some o → listed.getD i true = true → ∀ e ∈ o.after, Region.binds md e = true → listed.getD e.on false = true
theorem DownC.set {listed : Array Bool} {i : Nat} (h : DownC md ops listed) (hi : i ∈ Region.ready md ops listed) : DownC md ops (listed.setIfInBounds i true) := fun j o ho hj e hm hb => by
  obtain ⟨k1, o', ho', k2⟩ := mem_ready.1 hi
  by_cases he : i = j
  · subst he
    rw [ho] at ho'
    injection ho' with ho'
    subst ho'
    exact getD_set_true (k2 e hm hb)
  · rw [getD_set_ne true he] at hj
    exact getD_set_true (h j o ho hj e hm hb)
theorem last_all (hz : ops.size = n + 1) (hsucc : ∀ j, j < n → ∃ k o, j < k ∧ k ≤ n ∧ ops[k]? = some o ∧ ∃ e ∈ o.after, Region.binds md e = true ∧ e.on = j) {listed : Array Bool} (hl : listed.size = n + 1) (hd : DownC md ops listed) (hr : n ∈ Region.ready md ops listed) : ∀ m j, n - j = m → j < n → listed.getD j false = true := by
  intro m
  induction m using Nat.strongRecOn with
  | ind m ih =>
    intro j hm hj
    obtain ⟨k, o, hjk, hkn, ho, e, he, hb, rfl⟩ := hsucc j hj
    by_cases hk : k = n
    · subst hk
      obtain ⟨_, o', ho', k2⟩ := mem_ready.1 hr
      rw [ho] at ho'
      injection ho' with ho'
      subst ho'
      exact k2 e he hb
    · have hkl := ih (n - k) (by omega) k rfl (by omega)
      exact hd k o ho (by rw [getD_same (by omega)]; exact hkl) e he hb
theorem wpAny_ends2 (hB : endsB2 md ops n = true) : ∀ (fuel : Nat) (listed : Array Bool) (a : Act) (w : World), listed.size = n + 1 → listed.getD n true = false → DownC md ops listed → wpAnyH P md ops.pop (Ends P ops Q n) S fuel listed.pop a w → wpAny P md ops Q (fuel + 1) listed a w
  | 0, listed, a, w, hl, hn, hd, h => by
    obtain ⟨hz, hg, he, hlast⟩ := endsB2_spec hB
    exact ends_done hz he (all_but hz he hl hn h.1) h.2 0
  | fuel + 1, listed, a, w, hl, hn, hd, h => by
    obtain ⟨hz, hg, he, hlast⟩ := endsB2_spec hB
    by_cases h0 : Region.ready md ops.pop listed.pop = []
    · exact ends_done hz he (all_but hz he hl hn h0) (h.1 h0) (fuel + 1)
    · have hlow : ∀ i, i ∈ Region.ready md ops listed → i < n := fun i hi => by
        obtain ⟨k1, o, ho, k2⟩ := mem_ready.1 hi
        have hio : i < ops.size := (Array.getElem?_eq_some_iff.1 ho).1
        refine Classical.byContradiction fun hne => h0 ?_
        have hin : i = n := by omega
        subst hin
        refine List.eq_nil_iff_forall_not_mem.2 fun j hj => ?_
        have hjn : j < i := by
          obtain ⟨_, o', ho', _⟩ := mem_ready.1 hj
          have := (Array.getElem?_eq_some_iff.1 ho').1
          simp at this
          omega
        have h9 := last_all hz hlast hl hd hi _ j rfl hjn
        have h8 := (mem_ready.1 ((ready_pop hz he hl hjn).2 hj)).1
        rw [getD_same (by omega)] at h8
        rw [h8] at h9
        cases h9
      refine ⟨fun h1 => ?_, fun i hi => ?_⟩
      · exfalso
        refine h0 (List.eq_nil_iff_forall_not_mem.2 fun j hj => ?_)
        have hjn : j < n := by
          obtain ⟨_, o', ho', _⟩ := mem_ready.1 hj
          have := (Array.getElem?_eq_some_iff.1 ho').1
          simp at this
          omega
        have := (ready_pop hz he hl hjn).2 hj
        rw [h1] at this
        cases this
      · have hin := hlow i hi
        have h2 := h.2 i ((ready_pop hz he hl hin).1 hi)
        refine wpOp_mono (fun a' w' h3 => ?_) (wpOp_pop hz hg hin h2)
        refine wpAny_ends2 hB fuel _ a' w' (by simpa using hl) (by rw [getD_set_ne true (by omega)]; exact hn) (hd.set hi) ?_
        have : (listed.setIfInBounds i true).pop = listed.pop.setIfInBounds i true := by
          apply Array.ext_getElem?
          intro k
          simp only [Array.getElem?_pop, Array.getElem?_setIfInBounds, Array.size_pop, Array.size_setIfInBounds]
          by_cases hk : i = k
          · subst hk
            have q1 : i < listed.size := by omega
            have q2 : i < listed.size - 1 := by omega
            simp [q1, q2]
          · simp [hk]
        rw [this]
        exact h3.2
theorem wp_region_ends2 {id : Nat} {a : Act} {w : World} {l : List Oper} (n : Nat) (S : World → Prop) (hm : P.follows .mixedOrders = true) (hB : endsB2 .any l.toArray n = true) (hS : S w.drew)
    (h : S w.drew → wpAnyH P .any (l.take n).toArray (Ends P l.toArray Q n) S n (Array.replicate n false) a w.drew) : (Code.region id l.toArray true).wp P Q a w := by
  obtain ⟨hz, hg, he, hlast⟩ := endsB2_spec hB
  refine wp_region_any hm ?_
  rw [hz]
  refine wpAny_ends2 (S := S) hB n (Array.replicate (n + 1) false) a _ (by simp) (by simp [Array.getD]) (fun i o ho hl => ?_) ?_
  · have hio : i < l.toArray.size := (Array.getElem?_eq_some_iff.1 ho).1
    have : i < n + 1 := by omega
    simp [Array.getD, this] at hl
  · have h1 : l.toArray.pop = (l.take n).toArray := by
      have hz' : l.length = n + 1 := by simpa using hz
      rw [List.pop_toArray, List.dropLast_eq_take, hz']
      rfl
    have h2 : (Array.replicate (n + 1) false).pop = Array.replicate n false := by simp
    rw [h1, h2]
    exact h hS
end
end Go.Proofs.Ytecpplaobbkemaa

/- Package slot: the small functions, what is handed in, and the library's searches with it, by their contracts. -/
namespace Go.Proofs.Ytecpplaobbkemaa
open Go.RowKit Go.Lib Go.Sort
set_option linter.unusedVariables false

theorem only_putc {w w' : World} {row : Option Nat} (g : w.grownBy w' row) {p : Addr} (hp : w.heap.size ≤ p.block) (v : Value) : w.grownBy (w'.setCell p v) row :=
  ⟨g.os, g.tape, g.output, by simpa using g.size, fun k hk hn => (Below.heap_setCell w' p v k (by rintro rfl; omega)).trans (g.block k hk hn)⟩
theorem sticks_any (x : W3) (w : World) : Calls Try.prog 32 #[w3v x] w fun e w' => e = .returned (spv (w3s x)) ∧ w.grownBy w' none := by
  obtain ⟨o, a, b⟩ := x
  go_enter Try.func32, Try.ntmps32
  go_wp2
  refine bodyPost_ret (v := .agg #[.int .i64 a, .int .i64 b]) (by simp [results, Try.results32, go_sem]) rfl ⟨rfl, only_alloc (only_alloc (only_refl _ _) _) _⟩
theorem suns_any (x : W3) (h : 0 ≤ x.2.1 ∧ x.2.1 < x.2.2 ∧ x.2.2 ≤ 4096) (w : World) : Calls Try.prog 33 #[w3v x] w fun e w' => e = .returned (.int .i64 ((x.2.2 - x.2.1) / 4)) ∧ w.grownBy w' none := by
  obtain ⟨o, a, b⟩ := x
  obtain ⟨h1, h2, h3⟩ := h
  simp only at h1 h2 h3
  have u1 : IntKind.i64.wrap (b - a) = b - a := by rw [IntKind.wrap_i64]; omega
  have u2 : Int.tdiv (b - a) 4 = (b - a) / 4 := Int.tdiv_eq_ediv_of_nonneg (by omega)
  have u3 : IntKind.i64.wrap ((b - a) / 4) = (b - a) / 4 := by rw [IntKind.wrap_i64]; omega
  go_enter Try.func33, Try.ntmps33
  go_wp2
  go_ret
  refine ⟨?_, only_alloc (only_refl _ _) _⟩
  first | rfl | (rw [u2]; done) | simp [u1, u2, u3]
/-- Which of two begins first. -/
theorem scmp_any (x y : W3) (w : World) : Calls Try.prog 24 #[w3v x, w3v y] w fun e w' => e = .returned (.int .i64 (So.cmpI x.2.1 y.2.1)) ∧ ∃ q os', w' = grow (w.drewN q) os' := by
  obtain ⟨x1, x2, x3⟩ := x
  obtain ⟨y1, y2, y3⟩ := y
  have HC := Lib.hid (fun W => compare_any x2 y2 W)
  generalize So.cmpI x2 y2 = r at HC ⊢
  go_enter Try.func24, Try.ntmps24
  go_wp2_with (go_at_call 25; (with_reducible refine (HC.out _).mono ?_); rintro e w2 ⟨rfl, rfl⟩)
  go_ret
  exact ⟨rfl, 0, _, by rw [alloc_eq_grow, alloc_eq_grow, grow_grow]; rfl⟩
set_option maxHeartbeats 1600000 in
theorem sat_any (x : W3) (at' : Int) (g : Nat) (w : World) (hg : w.cell? ⟨g, 0, none⟩ = some (.int .i64 at')) : Calls Try.prog 30 #[w3v x, .pointer (some ⟨g, 0, none⟩)] w fun e w' => e = .returned (.bool (holdsB (w3s x) at')) ∧ w.grownBy w' none := by
  obtain ⟨x1, x2, x3⟩ := x
  show Calls Try.prog 30 #[.agg #[.int .i64 x1, .int .i64 x2, .int .i64 x3], .pointer (some ⟨g, 0, none⟩)] w fun e w' => e = .returned (.bool (holdsB (x2, x3) at')) ∧ w.grownBy w' none
  have HX := Lib.hid (fun W => sticks_any (x1, x2, x3) W)
  have HH := Lib.hid (fun W => holds_any (x2, x3) at' W)
  generalize holdsB (x2, x3) at' = r at *
  have hgl := World.block_lt_of_cell? w _ hg
  obtain ⟨W1, hW, G0, hB⟩ := box1 w 54 #[.int .i64 x1, .int .i64 x2, .int .i64 x3]
  have k1 : ∀ d os, (grow (redrawn W1 d) os).cell? ⟨g, 0, none⟩ = some (.int .i64 at') := fun d os => cell_regrown (by rw [hW]; rw [World.cell?_alloc_some _ _ _ (by rw [hg]; rfl)]; exact hg) d os
  have k2 := blk_re hB
  have G0 := Lib.hid G0
  have hne : ¬ g = w.heap.size := by have : g < w.heap.size := hgl; omega
  clear hB hg hgl
  go_enter Try.func30, Try.ntmps30
  go_upto_region 1 with (fail)
  rw [← hW]
  clear hW
  refine wp_region_quiet_below (by kernel_rfl) (by kernel_rfl) ?_
  repeat (go_big_quiet_step ((first | (go_at_call 32; with_reducible exact rg1 (HX.out _)) | (go_at_call 31; with_reducible exact rg1 (HH.out _)))))
  refine wpQuiet_nil ?_
  intro w3 hw3
  obtain ⟨p, rfl⟩ := hw3
  have G3 := Lib.hid (only_trans G0.out (only_re W1 p.d p.os))
  clear k1 k2
  generalize grow (redrawn W1 p.d) p.os = w3 at G3 ⊢
  go_wp2
  go_ret
  exact ⟨by simp, G3.out⟩
set_option maxHeartbeats 1600000 in
theorem idxa17_any (g : Nat) (p : Nat → Bool) (A : Option Addr) (n cap : Nat) (d : Nat → W3) (w : World) (hst : Row3 w A n d) (hm : n ≤ 9223372036854775807)
    (H : ∀ i, i < n → ∀ W, w.grownBy W none → Calls Try.prog 30 #[w3v (d i), .pointer (some ⟨g, 0, none⟩)] W fun e w' => e = .returned (.bool (p i)) ∧ W.grownBy w' none) :
    Calls Try.prog 29 #[.slice A n cap, .func (.func 30) #[] #[.pointer (some ⟨g, 0, none⟩)]] w fun e w' => e = .returned (.int .i64 (fstI p n)) ∧ w.grownBy w' none := by
  have HST := Lib.hid hst
  have HC := Lib.hid H
  clear hst H
  go_enter Try.func29, Try.ntmps29
  go_wp2
  go_loopw [8] (fun y wr => ∃ i : Nat, y = .int .i64 i ∧ i ≤ n ∧ Hid (∀ k, k < i → p k = false) ∧ Hid (w.grownBy wr none)) (fun y _ => n - (intOf y).toNat)
  case atStart => exact ⟨0, rfl, by omega, Lib.hid (fun k hk => absurd hk (by omega)), Lib.hid (only_refl _ _)⟩
  case round =>
    obtain ⟨i, rfl, hi, HN, HG⟩ := hrel
    by_cases hin : i < n
    · have i1 : (i : Int) < (n : Int) := by omega
      obtain ⟨b, off, rfl, hb, hc⟩ := (HST.out.grown HG.out).2 (by omega)
      obtain ⟨c0, c1, c2⟩ := hc i hin
      have HCI := Lib.hid (HC.out i hin wr HG.out)
      have HP := Lib.hid (fstI_at (q := p) hin)
      have HP2 := Lib.hid (show p i = false → ∀ k, k < i + 1 → p k = false from fun h k hk => by
        by_cases e : k = i
        · rw [e]; exact h
        · exact HN.out k (by omega))
      clear hc hb
      generalize d i = x at c0 c1 c2 HCI
      obtain ⟨x1, x2, x3⟩ := x
      simp only at c0 c1 c2
      obtain ⟨r, hr⟩ : ∃ r, r = p i := ⟨_, rfl⟩
      rw [← hr] at HCI HP HP2
      clear hr
      go_wp2_with (go_at_call 30; (with_reducible refine HCI.out.mono ?_); rintro e w2 ⟨rfl, g2⟩; have G2 := Lib.hid (only_trans HG.out g2); clear g2; cases r)
      · go_roundw
        case rel => exact ⟨i + 1, by go_num, by omega, Lib.hid (HP2.out trivial), G2⟩
        case measure => simp [intOf] <;> omega
      · go_ret
        exact ⟨ret_int (HP.out trivial HN.out).symm, G2.out⟩
    · obtain rfl : i = n := by omega
      have i1 : ¬ (i : Int) < (i : Int) := by omega
      go_wp2
      go_ret
      exact ⟨ret_int (fstI_none HN.out).symm, HG.out⟩
set_option maxHeartbeats 1600000 in
theorem idxk17_any (g : Nat) (p : Nat → Bool) (A : Option Addr) (n cap : Nat) (d : Nat → W3) (w : World) (hst : Row3 w A n d) (hm : n ≤ 9223372036854775807)
    (H : ∀ i, i < n → ∀ W, w.grownBy W none → Calls Try.prog 44 #[w3v (d i), .pointer (some ⟨g, 0, none⟩)] W fun e w' => e = .returned (.bool (p i)) ∧ W.grownBy w' none) :
    Calls Try.prog 29 #[.slice A n cap, .func (.func 44) #[] #[.pointer (some ⟨g, 0, none⟩)]] w fun e w' => e = .returned (.int .i64 (fstI p n)) ∧ w.grownBy w' none := by
  have HST := Lib.hid hst
  have HC := Lib.hid H
  clear hst H
  go_enter Try.func29, Try.ntmps29
  go_wp2
  go_loopw [8] (fun y wr => ∃ i : Nat, y = .int .i64 i ∧ i ≤ n ∧ Hid (∀ k, k < i → p k = false) ∧ Hid (w.grownBy wr none)) (fun y _ => n - (intOf y).toNat)
  case atStart => exact ⟨0, rfl, by omega, Lib.hid (fun k hk => absurd hk (by omega)), Lib.hid (only_refl _ _)⟩
  case round =>
    obtain ⟨i, rfl, hi, HN, HG⟩ := hrel
    by_cases hin : i < n
    · have i1 : (i : Int) < (n : Int) := by omega
      obtain ⟨b, off, rfl, hb, hc⟩ := (HST.out.grown HG.out).2 (by omega)
      obtain ⟨c0, c1, c2⟩ := hc i hin
      have HCI := Lib.hid (HC.out i hin wr HG.out)
      have HP := Lib.hid (fstI_at (q := p) hin)
      have HP2 := Lib.hid (show p i = false → ∀ k, k < i + 1 → p k = false from fun h k hk => by
        by_cases e : k = i
        · rw [e]; exact h
        · exact HN.out k (by omega))
      clear hc hb
      generalize d i = x at c0 c1 c2 HCI
      obtain ⟨x1, x2, x3⟩ := x
      simp only at c0 c1 c2
      obtain ⟨r, hr⟩ : ∃ r, r = p i := ⟨_, rfl⟩
      rw [← hr] at HCI HP HP2
      clear hr
      go_wp2_with (go_at_call 44; (with_reducible refine HCI.out.mono ?_); rintro e w2 ⟨rfl, g2⟩; have G2 := Lib.hid (only_trans HG.out g2); clear g2; cases r)
      · go_roundw
        case rel => exact ⟨i + 1, by go_num, by omega, Lib.hid (HP2.out trivial), G2⟩
        case measure => simp [intOf] <;> omega
      · go_ret
        exact ⟨ret_int (HP.out trivial HN.out).symm, G2.out⟩
    · obtain rfl : i = n := by omega
      have i1 : ¬ (i : Int) < (i : Int) := by omega
      go_wp2
      go_ret
      exact ⟨ret_int (fstI_none HN.out).symm, HG.out⟩
theorem hasc17_any (g : Nat) (p : Nat → Bool) (A : Option Addr) (n cap : Nat) (d : Nat → W3) (w : World) (hst : Row3 w A n d) (hm : n ≤ 9223372036854775807)
    (H : ∀ i, i < n → ∀ W, w.grownBy W none → Calls Try.prog 44 #[w3v (d i), .pointer (some ⟨g, 0, none⟩)] W fun e w' => e = .returned (.bool (p i)) ∧ W.grownBy w' none) :
    Calls Try.prog 43 #[.slice A n cap, .func (.func 44) #[] #[.pointer (some ⟨g, 0, none⟩)]] w fun e w' => e = .returned (.bool (anyB p n)) ∧ w.grownBy w' none := by
  have HI := Lib.hid (idxk17_any g p A n cap d w hst hm H)
  have HE := Lib.hid (anyB_eq p n)
  generalize fstI p n = r at HI HE
  clear hst H
  go_enter Try.func43, Try.ntmps43
  go_wp2_with (go_at_call 29; (with_reducible refine HI.out.mono ?_); rintro e w2 ⟨rfl, g2⟩; have G2 := Lib.hid g2; clear g2)
  go_ret
  exact ⟨ret_bool HE.out.symm, G2.out⟩


end Go.Proofs.Ytecpplaobbkemaa

/- Package slot: does a slot meet one that is there, by the contracts. -/
namespace Go.Proofs.Ytecpplaobbkemaa
open Go.RowKit Go.Lib Go.Sort
set_option linter.unusedVariables false

theorem only_drew1 {a w : World} {row : Option Nat} (h : a.grownBy w row) : a.grownBy w.drew row := only_drewN h 1
set_option maxHeartbeats 1600000 in
set_option maxRecDepth 20000 in
theorem schk_any (x y : W3) (g : Nat) (w : World) (hg : Blk w g 54 #[.int .i64 x.1, .int .i64 x.2.1, .int .i64 x.2.2]) : Calls Try.prog 44 #[w3v y, .pointer (some ⟨g, 0, none⟩)] w fun e w' => e = .returned (.bool (meetsB (w3s x) (w3s y))) ∧ w.grownBy w' none := by
  obtain ⟨x1, x2, x3⟩ := x
  obtain ⟨y1, y2, y3⟩ := y
  show Calls Try.prog 44 #[.agg #[.int .i64 y1, .int .i64 y2, .int .i64 y3], .pointer (some ⟨g, 0, none⟩)] w fun e w' => e = .returned (.bool (meetsB (x2, x3) (y2, y3))) ∧ w.grownBy w' none
  have HX := Lib.hid (fun W => sticks_any (x1, x2, x3) W)
  have HY := Lib.hid (fun W => sticks_any (y1, y2, y3) W)
  have HM := Lib.hid (fun W => meet_any (x2, x3) (y2, y3) W)
  generalize meetsB (x2, x3) (y2, y3) = r at *
  generalize meetV (x2, x3) (y2, y3) = v at *
  obtain ⟨v1, v2⟩ := v
  obtain ⟨W1, hW, G0, hB⟩ := box1 w 54 #[.int .i64 y1, .int .i64 y2, .int .i64 y3]
  have hgW := hg.only G0 (by simp)
  have k1 : ∀ W, W1.grownBy W none → W.cell? ⟨g, 0, none⟩ = some (.int .i64 x1) ∧ W.cell? ⟨g, 1, none⟩ = some (.int .i64 x2) ∧ W.cell? ⟨g, 2, none⟩ = some (.int .i64 x3) ∧ W.cell? ⟨w.heap.size, 0, none⟩ = some (.int .i64 y1) ∧ W.cell? ⟨w.heap.size, 1, none⟩ = some (.int .i64 y2) ∧ W.cell? ⟨w.heap.size, 2, none⟩ = some (.int .i64 y3) := fun W k => by
    have a := hgW.only k (by simp)
    have b := hB.only k (by simp)
    exact ⟨a.cell 0, a.cell 1, a.cell 2, b.cell 0, b.cell 1, b.cell 2⟩
  have K1 := Lib.hid k1
  have G0 := Lib.hid G0
  have hne : ¬ g = w.heap.size := by have := hg.lt; omega
  have HSZ := Lib.hid (show W1.heap.size = w.heap.size + 1 by rw [hW]; simp)
  have a0 : W1.grownBy W1 none := only_refl _ _
  have hgl := hg.lt
  clear hB hg hgW k1
  go_enter Try.func44, Try.ntmps44
  go_upto_region 1 with (fail)
  rw [← hW]
  clear hW
  obtain ⟨c0, c1, c2, d0, d1, d2⟩ := K1.out W1 a0
  go_region_held3 (fun w' => w'.cell? ⟨g, 0, none⟩ = some (.int .i64 x1) ∧ w'.cell? ⟨g, 1, none⟩ = some (.int .i64 x2) ∧ w'.cell? ⟨g, 2, none⟩ = some (.int .i64 x3) ∧ w'.cell? ⟨w.heap.size, 0, none⟩ = some (.int .i64 y1) ∧ w'.cell? ⟨w.heap.size, 1, none⟩ = some (.int .i64 y2) ∧ w'.cell? ⟨w.heap.size, 2, none⟩ = some (.int .i64 y3)) (first
    | exact K1.out _ (only_putc (only_putc GN3 (by first | exact Nat.le_refl _ | (simp; done) | (simp; omega)) _) (by first | exact Nat.le_refl _ | (simp; done) | (simp; omega)) _)
    | exact K1.out _ (only_alloc GN3 _) | exact K1.out _ GN3 | exact K1.out _ (only_alloc GN2 _) | exact K1.out _ GN2 | exact K1.out _ (only_alloc GN1 _) | exact K1.out _ GN1
    | exact K1.out _ (only_drew1 (only_alloc a0 _)) | exact K1.out _ (only_alloc (only_drew1 a0) _) | exact K1.out _ (only_drew1 a0) | fail "keep") (first
    | (go_at_call 32; (with_reducible refine (HX.out _).mono ?_); rintro e w3 ⟨rfl, g3⟩; have GN1 : W1.grownBy w3 none := (by first | exact only_trans (only_drew1 a0) g3 | exact only_trans (only_drew1 (only_alloc a0 _)) g3 | exact only_trans (only_alloc (only_drew1 a0) _) g3); have s1 := GN1.size; (try have HZ1 := Lib.hid ((Blk.new W1.drew 45 #[.int .i64 0, .int .i64 0]).only g3 (by simp))); (try have HZ1 := Lib.hid (((Blk.new W1 45 #[.int .i64 0, .int .i64 0]).drewN 1).only g3 (by simp))); clear g3; (try clear c0 c1 c2 d0 d1 d2))
    | (go_at_call 32; (with_reducible refine (HY.out _).mono ?_); rintro e w4 ⟨rfl, g4⟩; have GN2 : W1.grownBy w4 none := (by first | exact only_trans GN1 g4 | exact only_trans (only_alloc GN1 _) g4); have s2 := GN2.size; (try have HZ2 := Lib.hid (HZ1.out.only g4 (by simp))); (try have HZ2 := Lib.hid ((Blk.new w3 45 #[.int .i64 0, .int .i64 0]).only g4 (by simp))); clear g4)
    | (go_at_call 45; (with_reducible refine (HM.out _).mono ?_); rintro e w5 ⟨rfl, g5⟩; have GN3 : W1.grownBy w5 none := (by first | exact only_trans GN2 g5 | exact only_trans (only_alloc GN2 _) g5); (try have HZ3 := Lib.hid (HZ2.out.only g5 (by simp))); (try have HZ3 := Lib.hid ((Blk.new w4 45 #[.int .i64 0, .int .i64 0]).only g5 (by simp))); (try have z0 := HZ3.out.cell 0); (try have z1 := HZ3.out.cell 1); (try have y0 := HZ3.out.free 0); (try have y1' := HZ3.out.free 1); (try simp at z0 z1 y0 y1'); clear g5)
    | fail "no arm")
  all_goals
    go_wp2
    go_ret
    refine ⟨rfl, only_trans G0.out ?_⟩
    first | exact only_alloc GN3 _ | exact only_putc (only_putc GN3 (by first | exact Nat.le_refl _ | (simp; done) | (simp; omega)) _) (by first | exact Nat.le_refl _ | (simp; done) | (simp; omega)) _
end Go.Proofs.Ytecpplaobbkemaa

/- append of many onto a row of the call's own. No program is spoken of here. -/
namespace Go.Proofs.Ytecpplaobbkemaa
open Go.RowKit Go.Lib
set_option linter.unusedVariables false

/-- append of a whole row onto an empty one of no room. -/
theorem run_allZ {P : Program} {s : Nat} (w : World) (t e ty : TypeId) (i : TypeInfo) (z : Value) (bytes : Nat) (ht : P.underlying t = some (.slice e)) (hi : P.info? e = some i) (hz : i.zero = some z) (hs : i.size = s) (hby : i.bytes = bytes) (hb16 : bytes ≤ 64) (hzs : z.cells.size = s)
    (b m : Nat) (hb : b < w.heap.size) (xs : Value) (x : List Value) (hx : Src P s t xs m x w) (hn : m ≤ 1000000) :
    ∃ v' w', (Builtin.append_ #[t, t] ty #[.slice (some ⟨b, 0, none⟩) 0 0, xs]).run P w = .ok v' w' ∧ RowZ s w' v' m x ∧ w.grownBy w' none ∧ (v'.ownBlock = some b ∨ v'.ownBlock = some w.heap.size) ∧ ∃ A c, v' = .slice (some A) m c := by
  have hxl : x.length = m * s := hx.newsLen
  have hsrc : Src P i.size t xs m x w := by rw [hs]; exact hx
  rcases Nat.eq_zero_or_pos m with rfl | hm
  · have hx0 : x = [] := List.eq_nil_of_length_eq_zero (by omega)
    subst hx0
    have hr := run_append_room_src (P := P) w t t ty e i ht hi b 0 0 0 xs 0 [] hsrc (by omega) (by simp) (by simp)
    exact ⟨_, _, hr, RowZ.empty s 0 hb, only_refl w none, .inl rfl, _, _, rfl⟩
  · have hbm : (0 + m) * bytes ≤ 140737488355328 := by
      have : (0 + m) * bytes ≤ 1000001 * 64 := Nat.mul_le_mul (by omega) hb16
      omega
    have hold := ((RowZ.empty (w := w) s 0 hb).drewN 1).src (P := P) t e ht (by simp) |>.cells
    have hm2 : 0 + m ≤ maxLen := by unfold maxLen; omega
    have hge := grownCap_ge w (0 + m) 0 e
    have hcm := grownCap_le_maxLen w (0 + m) 0 e hm2
    have hr := run_append_grow_src (P := P) w t t ty e i z ht hi hz (some ⟨b, 0, none⟩) 0 0 [] (by rw [hs]; exact hold) xs m x hsrc (by omega) (by omega) (by rw [hby]; exact growslice_fits (by omega) hbm)
    rw [Nat.zero_add, List.nil_append] at hr
    rw [Nat.zero_add] at hge hcm
    refine ⟨_, _, hr, ?_, ⟨rfl, rfl, rfl, by simp, fun k hk _ => Below.heap_alloc w.drew _ k hk⟩, .inr rfl, _, _, rfl⟩
    refine RowZ.new w.drew _ e _ hxl ?_ hge hcm (fun j u hu => ?_)
    · simp only [Array.size_append, List.size_toArray, size_zeroCells, hzs, hxl]
      rw [← Nat.add_mul]
      congr 1
      omega
    · have hj := (List.getElem?_eq_some_iff.1 hu).1
      rw [Array.getElem?_append_left (by simpa using hj)]
      simpa using hu

/-- append of many onto a row. -/
theorem run_joinZ {P : Program} {s : Nat} (w : World) (t e ty : TypeId) (i : TypeInfo) (z : Value) (bytes : Nat) (ht : P.underlying t = some (.slice e)) (hi : P.info? e = some i) (hz : i.zero = some z) (hs : i.size = s) (hby : i.bytes = bytes) (hb16 : bytes ≤ 64) (hzs : z.cells.size = s)
    (g off cap n m : Nat) (l : List Value) (h : RowZ s w (.slice (some ⟨g, off, none⟩) n cap) n l) (h1 : ∀ u ∈ l, u.oneCell' = true) (xs : Value) (x : List Value) (hx : Src P s t xs m x w) (hn : n + m ≤ 1000000) :
    ∃ v' w', (Builtin.append_ #[t, t] ty #[.slice (some ⟨g, off, none⟩) n cap, xs]).run P w = .ok v' w' ∧ RowZ s w' v' (n + m) (l ++ x) ∧ w.grownBy w' (some g) ∧ (v'.ownBlock = some g ∨ v'.ownBlock = some w.heap.size) ∧ ∃ A c, v' = .slice (some A) (n + m) c := by
  have hxl : x.length = m * s := hx.newsLen
  have hl0 : l.length = n * s := h.1
  have hlx : (l ++ x).length = (n + m) * s := by rw [List.length_append, hl0, hxl, Nat.add_mul]
  have hbm : (n + m) * bytes ≤ 140737488355328 := by
    have : (n + m) * bytes ≤ 1000001 * 64 := Nat.mul_le_mul (by omega) hb16
    omega
  have hsrc : Src P i.size t xs m x w := by rw [hs]; exact hx
  obtain ⟨hl, ⟨he, _⟩ | ⟨g', off', cap', he, h2, h3, h4, h5, h6⟩⟩ := id h
  · cases he
  · injection he with e1 e2 e3
    injection e1 with e1
    injection e1 with e4 e5
    subst e4 e5 e3
    by_cases hroom : n + m ≤ cap
    · have hcs : n * s + m * s ≤ cap * s := by
        have := Nat.mul_le_mul_right s hroom
        rw [Nat.add_mul] at this
        exact this
      have hr := run_append_room_src (P := P) w t t ty e i ht hi g off n cap xs m x hsrc hroom (by
        intro j hj
        rw [hs, Nat.add_assoc]
        exact (h5 (n * s + j) (by omega)).1) (by
        intro j hj
        rw [hs, Nat.add_assoc]
        exact (h5 (n * s + j) (by omega)).2)
      rw [hs] at hr
      have hsome : ∀ k, k < x.length → (w.cell? ⟨g, off + n * s + k, none⟩).isSome = true := fun k hk => by
        rw [Nat.add_assoc]
        exact (h5 (n * s + k) (by omega)).1
      refine ⟨_, _, hr, ⟨hlx, .inr ⟨g, off, cap, rfl, hroom, h3, ?_, ?_, ?_⟩⟩, only_cells _ _ _ _, .inl rfl, _, _, rfl⟩
      · rw [(setCells_at g x (off + n * s) w).2.2.2.1]
        exact h4
      · intro j hj
        rw [World.frozen?_setCells]
        refine ⟨?_, (h5 j hj).2⟩
        by_cases e1 : n * s ≤ j ∧ j < n * s + m * s
        · have := World.cell?_setCells_in g x (off + n * s) w hsome (j - n * s) (by omega)
          rw [show off + n * s + (j - n * s) = off + j by omega] at this
          rw [this]
          rfl
        · rw [World.cell?_setCells_out g x (off + n * s) w _ (by intro _ _; simp; omega)]
          exact (h5 j hj).1
      · intro j u hu
        by_cases e1 : j < n * s
        · rw [List.getElem?_append_left (by omega)] at hu
          rw [World.cell?_setCells_out g x (off + n * s) w _ (by intro _ _; simp; omega)]
          exact h6 j u hu
        · have hj := (List.getElem?_eq_some_iff.1 hu).1
          rw [List.length_append, hl] at hj
          rw [List.getElem?_append_right (by omega), hl] at hu
          have := World.cell?_setCells_in g x (off + n * s) w hsome (j - n * s) (by omega)
          rw [show off + n * s + (j - n * s) = off + j by omega] at this
          rw [this, ← List.getElem?_eq_getElem]
          exact hu
    · have hold := ((h.drewN 1).src (P := P) t e ht h1).cells
      have hm : n + m ≤ maxLen := by unfold maxLen; omega
      have hge := grownCap_ge w (n + m) cap e
      have hcm := grownCap_le_maxLen w (n + m) cap e hm
      have hr := run_append_grow_src (P := P) w t t ty e i z ht hi hz (some ⟨g, off, none⟩) n cap l (by rw [hs]; exact hold) xs m x hsrc (by omega) (by omega) (by rw [hby]; exact growslice_fits (by omega) hbm)
      refine ⟨_, _, hr, ?_, ⟨rfl, rfl, rfl, by simp, fun k hk _ => Below.heap_alloc w.drew _ k hk⟩, .inr rfl, _, _, rfl⟩
      refine RowZ.new w.drew _ e _ hlx ?_ hge hcm (fun j u hu => ?_)
      · simp only [Array.size_append, List.size_toArray, size_zeroCells, hzs, hlx]
        rw [← Nat.add_mul]
        congr 1
        omega
      · have hj := (List.getElem?_eq_some_iff.1 hu).1
        rw [Array.getElem?_append_left (by simpa using hj)]
        simpa using hu
end Go.Proofs.Ytecpplaobbkemaa

/- Package slot: check, by its contract; a table that is being made. -/
namespace Go.Proofs.Ytecpplaobbkemaa
open Go.RowKit Go.Lib Go.Sort
set_option linter.unusedVariables false

/-- A slot that may not be. -/
def sBad (f : Int) (x : W3) : Bool := decide (x.1 < 1) || decide (8 < x.1) || !inB (w3s x) f
/-- Why a slot can't stand beside others; 0: it can. -/
def sE (f : Int) (d : Nat → W3) (n : Nat) (x : W3) : Int := if sBad f x then 2 else if anyB (fun i => meetsB (w3s x) (w3s (d i))) n then 11 else 0
/-- The same of the first ones of a row, each beside those ahead. -/
def newE (f : Int) (d : Nat → W3) : Nat → Int
  | 0 => 0
  | n + 1 => if newE f d n = 0 then sE f d n (d n) else newE f d n
theorem meetsB_comm (a b : Int × Int) : meetsB a b = meetsB b a := by
  unfold meetsB
  cases isB a <;> cases isB b <;> simp [Bool.or_comm]
set_option maxHeartbeats 1600000 in
theorem scheck_any (b : Nat) (f : Int) (A : Option Addr) (n cap : Nat) (d : Nat → W3) (x : W3) (w : World) (hb : Blk w b 52 #[.int .i64 f, .slice A n cap]) (hst : Row3 w A n d) (hm : n ≤ 9223372036854775807) :
    Calls Try.prog 22 #[.pointer (some ⟨b, 0, none⟩), w3v x] w fun e w' => e = .returned (.int .i64 (sE f d n x)) ∧ w.grownBy w' none := by
  obtain ⟨x1, x2, x3⟩ := x
  show Calls Try.prog 22 #[.pointer (some ⟨b, 0, none⟩), .agg #[.int .i64 x1, .int .i64 x2, .int .i64 x3]] w _
  obtain ⟨W1, hW, G0, hB⟩ := box1 w 54 #[.int .i64 x1, .int .i64 x2, .int .i64 x3]
  have HX := Lib.hid (fun W => sticks_any (x1, x2, x3) W)
  have HI := Lib.hid (fun W => in_any (x2, x3) f W)
  have HC := Lib.hid (fun (W : World) (g : W1.grownBy W none) => hasc17_any w.heap.size (fun i => meetsB (x2, x3) (w3s (d i))) A n cap d W ((hst.grown G0).grown g) hm (fun i hi W' hg => schk_any (x1, x2, x3) (d i) w.heap.size W' ((hB.only g (by simp)).only hg (by simp))))
  have HE := Lib.hid (show sE f d n (x1, x2, x3) = if (decide (x1 < 1) || decide (8 < x1) || !inB (x2, x3) f) = true then 2 else if anyB (fun i => meetsB (x2, x3) (w3s (d i))) n = true then 11 else 0 from rfl)
  generalize sE f d n (x1, x2, x3) = r at HE ⊢
  generalize inB (x2, x3) f = c at *
  generalize anyB (fun i => meetsB (x2, x3) (w3s (d i))) n = z at *
  have hbt := hb.only G0 (by simp)
  have k1 := blk_re hbt
  have k2 := blk_re hB
  have G0 := Lib.hid G0
  have HBT := Lib.hid hbt
  have hne : ¬ b = w.heap.size := by have := hb.lt; omega
  clear hB hb hst hbt
  have key : (x1 < 1) ∨ (¬ x1 < 1 ∧ 8 < x1) ∨ (¬ x1 < 1 ∧ ¬ 8 < x1 ∧ c = false) ∨ (¬ x1 < 1 ∧ ¬ 8 < x1 ∧ c = true ∧ z = true) ∨ (¬ x1 < 1 ∧ ¬ 8 < x1 ∧ c = true ∧ z = false) := by
    cases c <;> cases z <;> simp <;> omega
  rcases key with h1 | ⟨h1, h2⟩ | ⟨h1, h2, rfl⟩ | ⟨h1, h2, rfl, rfl⟩ | ⟨h1, h2, rfl, rfl⟩
  all_goals
    go_enter Try.func22, Try.ntmps22
    go_upto_region 1 with (fail)
    rw [← hW]
    clear hW
    have hd1 : decide (x1 < 1) = true ∨ decide (x1 < 1) = false := by simp; omega
    have hd2 : decide (8 < x1) = true ∨ decide (8 < x1) = false := by simp; omega
    rcases hd1 with hd1 | hd1 <;> first | (exfalso; simp at hd1; omega) | skip
    rcases hd2 with hd2 | hd2 <;> first | (exfalso; simp at hd2; omega) | skip
    all_goals
      refine wp_region_quiet_below (by kernel_rfl) (by kernel_rfl) ?_
      repeat (go_big_quiet_step ((first | (go_at_call 32; with_reducible exact rg1 (HX.out _)) | (go_at_call 42; with_reducible exact rg1 (HI.out _)))))
      refine wpQuiet_nil ?_
      intro w3 hw3
      obtain ⟨p, rfl⟩ := hw3
      have G3 := Lib.hid (only_re W1 p.d p.os)
      have hbt := HBT.out.only G3.out (by simp)
      clear k1 k2
      generalize grow (redrawn W1 p.d) p.os = w3 at G3 hbt ⊢
      have d0 : w3.cell? ⟨b, 0, none⟩ = some (.int .i64 f) := hbt.cell 0
      have d1 : w3.cell? ⟨b, 1, none⟩ = some (.slice A n cap) := hbt.cell 1
      clear hbt
      go_wp2_with (go_at_call 43; (with_reducible refine (HC.out _ G3.out).mono ?_); rintro e w4 ⟨rfl, g4⟩; replace G3 := Lib.hid (only_trans G3.out g4); clear g4)
      go_ret
      exact ⟨ret_int (by rw [HE.out]; simp [hd1, hd2] <;> omega), only_trans G0.out G3.out⟩
/-- What is kept of a table that is being made. -/
structure PT (w W : World) (b : Nat) (f : Int) (v : Value) (n : Nat) (xs : List Value) : Prop where
  bt : Blk W b 52 #[.int .i64 f, v]
  bl : Below w.heap.size w W
  lo : w.heap.size ≤ b
  row : RowZ 3 W v n xs
  own : ∀ q, v.ownBlock = some q → b < q
theorem PT.only {w W W' : World} {b : Nat} {f : Int} {v : Value} {n : Nat} {xs : List Value} (h : PT w W b f v n xs) (g : W.grownBy W' none) : PT w W' b f v n xs :=
  ⟨h.bt.only g (by simp), h.bl.trans (below_of_only g h.bl.size (by simp)), h.lo, h.row.grown g, h.own⟩
theorem slot17_info : (Try.prog.info? 54).map (fun i => (i.zero, i.size, i.bytes)) = some (some (.agg #[.int .i64 0, .int .i64 0, .int .i64 0]), 3, 24) := by kernel_rfl
/-- One more slot: what the region leaves on its way, and behind it. -/
def PTP (w wr : World) (b : Nat) (f : Int) (v : Value) (n : Nat) (xs ys : List Value) (v' : Value) (w' : World) : Prop :=
  PT w (w'.setCell ⟨b, 1, none⟩ v') b f v' (n + 1) (xs ++ ys) ∧ (∀ W, W = wr.drew ∨ W = (wr.alloc (.cells ys.toArray 54)).drew ∨ W = w' → W.cell? ⟨b, 1, none⟩ = some v) ∧ (∀ W, W = wr.drew ∨ W = (wr.alloc (.cells ys.toArray 54)).drew ∨ W = w' → ∀ g, g < wr.heap.size → v.ownBlock ≠ some g → ∀ i, W.cell? ⟨g, i, none⟩ = wr.cell? ⟨g, i, none⟩) ∧ w'.frozen? ⟨b, 1, none⟩ = false ∧ ∃ A c, v' = .slice A (n + 1) c
theorem cell_heap {w w' : World} {g : Nat} (h : w'.heap[g]? = w.heap[g]?) (i : Nat) : w'.cell? ⟨g, i, none⟩ = w.cell? ⟨g, i, none⟩ := by simp only [World.cell?, h]
theorem PT.push {w wr : World} {b : Nat} {f : Int} {v : Value} {n : Nat} {xs ys : List Value} (h : PT w wr b f v n xs)
    (h1 : ∀ u ∈ xs, u.oneCell' = true) (h2 : ∀ u ∈ ys, u.oneCell' = true) (hy : ys.length = 3) (hn : n ≤ 1000) :
    ∃ v' w', (Builtin.append_ #[22, 22] 22 #[v, .slice (some ⟨wr.heap.size, 0, none⟩) 1 1]).run Try.prog (wr.alloc (.cells ys.toArray 54)).drew = .ok v' w' ∧ PTP w wr b f v n xs ys v' w' := by
  obtain ⟨i0, hi, hz, hs, hby⟩ := info_parts slot17_info
  have hgw := h.bt.lt
  have b1 : Blk (wr.alloc (.cells ys.toArray 54)).drew wr.heap.size 54 ys.toArray := (Blk.new wr 54 ys.toArray).drewN 1
  have hsrc : Src Try.prog 3 22 (.slice (some ⟨wr.heap.size, 0, none⟩) 1 1) 1 ys (wr.alloc (.cells ys.toArray 54)).drew := Src.ofSlice _ Try.underlying22 _ _ _ _ (by omega) (fun k u hu => by
    rw [addr_at, Nat.zero_add, b1.cell k]
    simpa using hu) h2
  have g1 : wr.grownBy (wr.alloc (.cells ys.toArray 54)).drew none := only_drewN (only_alloc (only_refl _ none) _) 1
  obtain ⟨v', w', hk, hr, hg, ho⟩ := run_pushZ (P := Try.prog) (wr.alloc (.cells ys.toArray 54)).drew 22 54 22 i0 _ 24 Try.underlying22 hi hz hs hby (by omega) rfl _ _ _ (h.row.grown g1) h1 _ _ hsrc (by omega)
  have hsz : (wr.alloc (.cells ys.toArray 54)).drew.heap.size = wr.heap.size + 1 := by simp
  have hov : ∀ q, v'.ownBlock = some q → b < q := fun q hq => by
    rcases ho with ho | ho
    · exact h.own q (ho ▸ hq)
    · rw [ho] at hq; injection hq with hq; omega
  have hvg : ∀ q, q ≤ b → v.ownBlock ≠ some q := fun q hq e => by have := h.own q e; omega
  have hne : v'.ownBlock ≠ some b := fun e => by have := hov b e; omega
  have bc1 := (h.bt.only g1 (by simp)).only hg (fun e => hvg b (Nat.le_refl _) e.symm)
  have bw : Below w.heap.size w w' := (h.bl.trans (below_of_only g1 h.bl.size (by simp))).trans (below_of_only hg (by have := h.bl.size; omega) (fun q hq => by have := h.own q hq; have := h.lo; omega))
  refine ⟨v', w', hk, ⟨bc1.put 1 v', bw.setCell (p := ⟨b, 1, none⟩) h.lo _, h.lo, hr.put (p := ⟨b, 1, none⟩) hne _, hov⟩, fun W hW => ?_, fun W hW g hgl hgv i => ?_, bc1.free 1, hr.form⟩
  · rcases hW with rfl | rfl | rfl
    · exact (h.bt.drewN 1).cell 1
    · exact (h.bt.only g1 (by simp)).cell 1
    · exact bc1.cell 1
  · rcases hW with rfl | rfl | rfl
    · rfl
    · exact cell_heap (g1.block g hgl (by simp)) i
    · exact cell_heap ((hg.block g (by omega) (fun e => hgv e.symm)).trans (g1.block g hgl (by simp))) i
end Go.Proofs.Ytecpplaobbkemaa

/- Rows of slots as1 lists of cells. -/
namespace Go.Proofs.Ytecpplaobbkemaa
open Go.RowKit Go.Lib Go.Sort
set_option linter.unusedVariables false

theorem sflat_len {α : Type} (f : Nat → List α) (s : Nat) (hf : ∀ i, (f i).length = s) (n : Nat) : ((List.range n).flatMap f).length = n * s := by
  induction n with
  | zero => simp
  | succ n ih =>
    rw [List.range_succ, List.flatMap_append, List.length_append, ih, Nat.add_mul, Nat.one_mul]
    simp [hf]
theorem sflat_get {α : Type} (f : Nat → List α) (s : Nat) (hf : ∀ i, (f i).length = s) (n i t : Nat) (hi : i < n) (ht : t < s) : ((List.range n).flatMap f)[i * s + t]? = (f i)[t]? := by
  induction n with
  | zero => omega
  | succ n ih =>
    have hl := sflat_len f s hf n
    rw [List.range_succ, List.flatMap_append]
    by_cases h : i < n
    · have : (i + 1) * s ≤ n * s := Nat.mul_le_mul_right s h
      rw [Nat.add_mul, Nat.one_mul] at this
      rw [List.getElem?_append_left (by omega), ih h]
    · obtain rfl : i = n := by omega
      rw [List.getElem?_append_right (by omega), hl, Nat.add_sub_cancel_left]
      simp
/-- A slot's three cells; those of slots. -/
def encS (x : W3) : List Value := [.int .i64 x.1, .int .i64 x.2.1, .int .i64 x.2.2]
def sL (d : Nat → W3) (n : Nat) : List Value := (List.range n).flatMap fun (i : Nat) => encS (d i)
theorem sL_succ (d : Nat → W3) (n : Nat) : sL d (n + 1) = sL d n ++ encS (d n) := by
  simp [sL, List.range_succ, List.flatMap_append]
theorem sL_one (d : Nat → W3) (n : Nat) : ∀ u ∈ sL d n, u.oneCell' = true := by
  intro u hu
  simp only [sL, encS, List.mem_flatMap] at hu
  obtain ⟨i, _, h⟩ := hu
  simp at h
  rcases h with rfl | rfl | rfl <;> rfl
theorem sL_len (d : Nat → W3) (n : Nat) : (sL d n).length = n * 3 := sflat_len _ 3 (fun i => rfl) n
theorem sL_get {d : Nat → W3} {n i t : Nat} (hi : i < n) (ht : t < 3) : (sL d n)[i * 3 + t]? = (encS (d i))[t]? :=
  sflat_get _ 3 (fun i => rfl) n i t hi ht
theorem srow_of {w : World} {A : Option Addr} {n cap : Nat} {d : Nat → W3} (h : RowZ 3 w (.slice A n cap) n (sL d n)) : Row3 w A n d := by
  rcases h with ⟨hl, ⟨e, h0⟩ | ⟨g, off, cap', e, h1, h2, h3, h4, h5⟩⟩
  · injection e with e1 e2 e3
    exact ⟨fun _ => h0, fun hp => by omega⟩
  · injection e with e1 e2 e3
    subst e1
    have g0 : ∀ i t u, i < n → t < 3 → (encS (d i))[t]? = some u → w.cell? ⟨g, off + i * 3 + t, none⟩ = some u := fun i t u hi ht hu => by
      rw [Nat.add_assoc]
      exact h5 _ u (by rw [sL_get hi ht]; exact hu)
    exact ⟨fun x => (by cases x), fun hp => ⟨g, off, rfl, h3, fun i hi => ⟨g0 i 0 _ hi (by omega) rfl, g0 i 1 _ hi (by omega) rfl, g0 i 2 _ hi (by omega) rfl⟩⟩⟩
theorem PT.row3 {w W : World} {b : Nat} {f : Int} {A : Option Addr} {n c : Nat} {d : Nat → W3} (h : PT w W b f (.slice A n c) n (sL d n)) : Row3 W A n d := srow_of h.row
end Go.Proofs.Ytecpplaobbkemaa
