/- A region that draws its order, and whose last operation waits for all others, some of them by way of others; see HE. No program is spoken of here. -/
import Derived.Test.YtgjpjmolfdiahaaDoorHE
namespace Go.Proofs.YtgjpjmolfdiahaaDoor
open Go
set_option linter.unusedVariables false

section
variable {P : Program} {ops : Array Oper} {md : Region.Mode} {Q : Exit → Act → World → Prop} {S : World → Prop} {n : Nat}
/-- What the law asks of the region's form: no guards; each operation but the last has one that waits for it. -/
def endsB2 (md : Region.Mode) (ops : Array Oper) (n : Nat) : Bool :=
  decide (ops.size = n + 1) && ((List.range (n + 1)).all fun i => match ops[i]? with
    | none => true
    | some o => o.guard.isNone && (o.after.all fun e => decide (e.on < i))) &&
  (List.range n).all fun j => (List.range (n + 1)).any fun k => decide (j < k) && match ops[k]? with
    | none => false
    | some o => o.after.any fun e => Region.binds md e && decide (e.on = j)
theorem endsB2_spec (h : endsB2 md ops n = true) : ops.size = n + 1 ∧ (∀ (i : Nat) (o : Oper), ops[i]? = some o → o.guard = none) ∧ (∀ (i : Nat) (o : Oper), ops[i]? = some o → ∀ e ∈ o.after, e.on < i) ∧ ∀ j, j < n → ∃ k o, j < k ∧ k ≤ n ∧ ops[k]? = some o ∧ ∃ e ∈ o.after, Region.binds md e = true ∧ e.on = j := by
  unfold endsB2 at h
  rw [Bool.and_eq_true, Bool.and_eq_true, List.all_eq_true, List.all_eq_true] at h
  obtain ⟨⟨h1, h2⟩, h3⟩ := h
  have hz : ops.size = n + 1 := by simpa using h1
  have key : ∀ (i : Nat) (o : Oper), ops[i]? = some o → (o.guard.isNone && (o.after.all fun e => decide (e.on < i))) = true := fun i o ho => by
    have hi : i < ops.size := (Array.getElem?_eq_some_iff.1 ho).1
    have := h2 i (by rw [List.mem_range]; omega)
    rwa [ho] at this
  refine ⟨hz, fun i o ho => ?_, fun i o ho e he => ?_, fun j hj => ?_⟩
  · have := key i o ho
    simp only [Bool.and_eq_true] at this
    simpa using this.1
  · have := key i o ho
    simp only [Bool.and_eq_true] at this
    have := this.2
    rw [Array.all_eq_true_iff_forall_mem] at this
    simpa using this e he
  · have := h3 j (by simpa using hj)
    rw [List.any_eq_true] at this
    obtain ⟨k, hk, hb⟩ := this
    simp only [Bool.and_eq_true, decide_eq_true_eq] at hb
    obtain ⟨hjk, hb⟩ := hb
    cases ho : ops[k]? with
    | none => rw [ho] at hb; cases hb
    | some o =>
      rw [ho] at hb
      obtain ⟨q, hq, hb⟩ := Array.any_eq_true.1 hb
      simp only [Bool.and_eq_true, decide_eq_true_eq] at hb
      exact ⟨k, o, hjk, by have := List.mem_range.1 hk; omega, ho, _, Array.getElem_mem hq, hb⟩
/-- What has come up had all come up that it waits for. -/
def DownC (md : Region.Mode) (ops : Array Oper) (listed : Array Bool) : Prop := ∀ (i : Nat) (o : Oper), ops[i]? = some o → listed.getD i true = true → ∀ e ∈ o.after, Region.binds md e = true → listed.getD e.on false = true
theorem DownC.set {listed : Array Bool} {i : Nat} (h : DownC md ops listed) (hi : i ∈ Region.ready md ops listed) : DownC md ops (listed.setIfInBounds i true) := fun j o ho hj e hm hb => by
  obtain ⟨k1, o', ho', k2⟩ := mem_ready.1 hi
  by_cases he : i = j
  · subst he
    rw [ho] at ho'
    injection ho' with ho'
    subst ho'
    exact getD_set_true (k2 e hm hb)
  · rw [getD_set_ne true he] at hj
    exact getD_set_true (h j o ho hj e hm hb)
theorem last_all (hz : ops.size = n + 1) (hsucc : ∀ j, j < n → ∃ k o, j < k ∧ k ≤ n ∧ ops[k]? = some o ∧ ∃ e ∈ o.after, Region.binds md e = true ∧ e.on = j) {listed : Array Bool} (hl : listed.size = n + 1) (hd : DownC md ops listed) (hr : n ∈ Region.ready md ops listed) : ∀ m j, n - j = m → j < n → listed.getD j false = true := by
  intro m
  induction m using Nat.strongRecOn with
  | ind m ih =>
    intro j hm hj
    obtain ⟨k, o, hjk, hkn, ho, e, he, hb, rfl⟩ := hsucc j hj
    by_cases hk : k = n
    · subst hk
      obtain ⟨_, o', ho', k2⟩ := mem_ready.1 hr
      rw [ho] at ho'
      injection ho' with ho'
      subst ho'
      exact k2 e he hb
    · have hkl := ih (n - k) (by omega) k rfl (by omega)
      exact hd k o ho (by rw [getD_same (by omega)]; exact hkl) e he hb
theorem wpAny_ends2 (hB : endsB2 md ops n = true) : ∀ (fuel : Nat) (listed : Array Bool) (a : Act) (w : World), listed.size = n + 1 → listed.getD n true = false → DownC md ops listed → wpAnyH P md ops.pop (Ends P ops Q n) S fuel listed.pop a w → wpAny P md ops Q (fuel + 1) listed a w
  | 0, listed, a, w, hl, hn, hd, h => by
    obtain ⟨hz, hg, he, hlast⟩ := endsB2_spec hB
    exact ends_done hz he (all_but hz he hl hn h.1) h.2 0
  | fuel + 1, listed, a, w, hl, hn, hd, h => by
    obtain ⟨hz, hg, he, hlast⟩ := endsB2_spec hB
    by_cases h0 : Region.ready md ops.pop listed.pop = []
    · exact ends_done hz he (all_but hz he hl hn h0) (h.1 h0) (fuel + 1)
    · have hlow : ∀ i, i ∈ Region.ready md ops listed → i < n := fun i hi => by
        obtain ⟨k1, o, ho, k2⟩ := mem_ready.1 hi
        have hio : i < ops.size := (Array.getElem?_eq_some_iff.1 ho).1
        refine Classical.byContradiction fun hne => h0 ?_
        have hin : i = n := by omega
        subst hin
        refine List.eq_nil_iff_forall_not_mem.2 fun j hj => ?_
        have hjn : j < i := by
          obtain ⟨_, o', ho', _⟩ := mem_ready.1 hj
          have := (Array.getElem?_eq_some_iff.1 ho').1
          simp at this
          omega
        have h9 := last_all hz hlast hl hd hi _ j rfl hjn
        have h8 := (mem_ready.1 ((ready_pop hz he hl hjn).2 hj)).1
        rw [getD_same (by omega)] at h8
        rw [h8] at h9
        cases h9
      refine ⟨fun h1 => ?_, fun i hi => ?_⟩
      · exfalso
        refine h0 (List.eq_nil_iff_forall_not_mem.2 fun j hj => ?_)
        have hjn : j < n := by
          obtain ⟨_, o', ho', _⟩ := mem_ready.1 hj
          have := (Array.getElem?_eq_some_iff.1 ho').1
          simp at this
          omega
        have := (ready_pop hz he hl hjn).2 hj
        rw [h1] at this
        cases this
      · have hin := hlow i hi
        have h2 := h.2 i ((ready_pop hz he hl hin).1 hi)
        refine wpOp_mono (fun a' w' h3 => ?_) (wpOp_pop hz hg hin h2)
        refine wpAny_ends2 hB fuel _ a' w' (by simpa using hl) (by rw [getD_set_ne true (by omega)]; exact hn) (hd.set hi) ?_
        have : (listed.setIfInBounds i true).pop = listed.pop.setIfInBounds i true := by
          apply Array.ext_getElem?
          intro k
          simp only [Array.getElem?_pop, Array.getElem?_setIfInBounds, Array.size_pop, Array.size_setIfInBounds]
          by_cases hk : i = k
          · subst hk
            have q1 : i < listed.size := by omega
            have q2 : i < listed.size - 1 := by omega
            simp [q1, q2]
          · simp [hk]
        rw [this]
        exact h3.2
theorem wp_region_ends2 {id : Nat} {a : Act} {w : World} {l : List Oper} (n : Nat) (S : World → Prop) (hm : P.follows .mixedOrders = true) (hB : endsB2 .any l.toArray n = true) (hS : S w.drew)
    (h : S w.drew → wpAnyH P .any (l.take n).toArray (Ends P l.toArray Q n) S n (Array.replicate n false) a w.drew) : (Code.region id l.toArray true).wp P Q a w := by
  obtain ⟨hz, hg, he, hlast⟩ := endsB2_spec hB
  refine wp_region_any hm ?_
  rw [hz]
  refine wpAny_ends2 (S := S) hB n (Array.replicate (n + 1) false) a _ (by simp) (by simp [Array.getD]) (fun i o ho hl => ?_) ?_
  · have hio : i < l.toArray.size := (Array.getElem?_eq_some_iff.1 ho).1
    have : i < n + 1 := by omega
    simp [Array.getD, this] at hl
  · have h1 : l.toArray.pop = (l.take n).toArray := by
      have hz' : l.length = n + 1 := by simpa using hz
      rw [List.pop_toArray, List.dropLast_eq_take, hz']
      rfl
    have h2 : (Array.replicate (n + 1) false).pop = Array.replicate n false := by simp
    rw [h1, h2]
    exact h hS
end
end Go.Proofs.YtgjpjmolfdiahaaDoor
