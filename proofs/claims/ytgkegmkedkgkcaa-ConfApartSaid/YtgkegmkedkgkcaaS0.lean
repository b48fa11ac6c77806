/- Plain facts on sorting pairs by exchanges within a range: no program is spoken of here. -/
import Derived.WalkKit
namespace Go.Proofs.Ytgkegmkedkgkcaa.So

abbrev P2 := Int × Int
def cmpI (x y : Int) : Int := if x < y then -1 else if y < x then 1 else 0
def cmpS (a b : P2) : Int := if a.1 = b.1 then cmpI a.2 b.2 else cmpI a.1 b.1
def lt (a b : P2) : Prop := a.1 < b.1 ∨ a.1 = b.1 ∧ a.2 < b.2
theorem cmpS_neg (a b : P2) : cmpS a b < 0 ↔ lt a b := by
  unfold cmpS cmpI lt
  split <;> split <;> (try split) <;> omega
theorem lt_irrefl (a : P2) : ¬ lt a a := by unfold lt; omega
theorem lt_trans {a b c : P2} (h : lt a b) (k : lt b c) : lt a c := by unfold lt at *; omega
/-- Not above: the order that the sort leaves. -/
def le (a b : P2) : Prop := ¬ lt b a
theorem le_refl (a : P2) : le a a := lt_irrefl a
theorem le_trans {a b c : P2} (h : le a b) (k : le b c) : le a c := by unfold le lt at *; omega
theorem le_of_lt {a b : P2} (h : lt a b) : le a b := by unfold le lt at *; omega
theorem le_antisymm {a b : P2} (h : le a b) (k : le b a) : a = b := by
  unfold le lt at *
  apply Prod.ext <;> omega

/-- The row d with a and b in the places i. -/
def upd (d : Nat → P2) (i : Nat) (p : P2) : Nat → P2 := fun k => if k = i then p else d k
def swp (d : Nat → P2) (i j : Nat) : Nat → P2 := upd (upd d i (d j)) j (d i)
theorem swp_at (d : Nat → P2) (i j k : Nat) : swp d i j k = if k = j then d i else if k = i then d j else d k := by simp [swp, upd]

def Sorted (d : Nat → P2) (a b : Nat) : Prop := ∀ p q, a ≤ p → p < q → q < b → le (d p) (d q)
/-- d' is d with what stands from a on, up to b, in another order. -/
def Perm (a b : Nat) (d d' : Nat → P2) : Prop := ∃ s t : Nat → Nat, (∀ k, t (s k) = k) ∧ (∀ k, s (t k) = k) ∧ (∀ k, ¬ (a ≤ k ∧ k < b) → s k = k) ∧ (∀ k, d' k = d (s k))

theorem Perm.refl (a b : Nat) (d : Nat → P2) : Perm a b d d := ⟨id, id, fun _ => rfl, fun _ => rfl, fun _ _ => rfl, fun _ => rfl⟩
theorem Perm.trans {a b : Nat} {d e f : Nat → P2} (h : Perm a b d e) (k : Perm a b e f) : Perm a b d f := by
  obtain ⟨s, t, h1, h2, h3, h4⟩ := h
  obtain ⟨u, v, k1, k2, k3, k4⟩ := k
  refine ⟨fun x => s (u x), fun x => v (t x), fun x => by simp [h1, k1], fun x => by simp [k2, h2], fun x hx => by simp [k3 x hx, h3 x hx], fun x => by rw [k4, h4]⟩
theorem Perm.mono {a b a' b' : Nat} {d e : Nat → P2} (h : Perm a b d e) (ha : a' ≤ a) (hb : b ≤ b') : Perm a' b' d e := by
  obtain ⟨s, t, h1, h2, h3, h4⟩ := h
  exact ⟨s, t, h1, h2, fun k hk => h3 k (by omega), h4⟩
theorem Perm.swp {a b i j : Nat} (d : Nat → P2) (hi : a ≤ i ∧ i < b) (hj : a ≤ j ∧ j < b) : Perm a b d (swp d i j) := by
  refine ⟨fun k => if k = j then i else if k = i then j else k, fun k => if k = j then i else if k = i then j else k, ?_, ?_, ?_, ?_⟩
  · intro k; dsimp only; split <;> (try split) <;> (try split) <;> (try split) <;> omega
  · intro k; dsimp only; split <;> (try split) <;> (try split) <;> (try split) <;> omega
  · intro k hk; dsimp only; rw [if_neg (by omega), if_neg (by omega)]
  · intro k
    rw [swp_at]
    dsimp only
    split
    · rfl
    · split <;> rfl
theorem Perm.out {a b : Nat} {d e : Nat → P2} (h : Perm a b d e) {k : Nat} (hk : ¬ (a ≤ k ∧ k < b)) : e k = d k := by
  obtain ⟨s, t, h1, h2, h3, h4⟩ := h
  rw [h4, h3 k hk]
theorem Perm.into {a b : Nat} {d e : Nat → P2} (h : Perm a b d e) {k : Nat} (hk : a ≤ k ∧ k < b) : ∃ j, a ≤ j ∧ j < b ∧ e k = d j := by
  obtain ⟨s, t, h1, h2, h3, h4⟩ := h
  refine ⟨s k, ?_⟩
  by_cases hs : a ≤ s k ∧ s k < b
  · exact ⟨hs.1, hs.2, h4 k⟩
  · have := h3 (s k) hs
    have e1 := h1 k
    have e2 := h1 (s k)
    rw [this] at e2
    rw [e1] at e2
    omega

/-- Within an insertion: all but the one at j stand in order, and those behind it are not below it. -/
def Ins (d : Nat → P2) (a i j : Nat) : Prop := (∀ p q, a ≤ p → p < q → q ≤ i → p ≠ j → q ≠ j → le (d p) (d q)) ∧ (∀ q, j < q → q ≤ i → le (d j) (d q))
theorem Ins.start {d : Nat → P2} {a i : Nat} (h : Sorted d a i) : Ins d a i i := ⟨fun p q h1 h2 h3 _ h5 => h p q h1 h2 (by omega), fun q h1 h2 => by omega⟩
theorem Ins.step {d : Nat → P2} {a i j : Nat} (h : Ins d a i j) (ha : a < j) (hj : j ≤ i) (hl : lt (d j) (d (j - 1))) : Ins (swp d j (j - 1)) a i (j - 1) := by
  refine ⟨fun p q h1 h2 h3 h4 h5 => ?_, fun q h1 h2 => ?_⟩
  · rw [swp_at, swp_at, if_neg h4, if_neg h5]
    by_cases hp : p = j
    · rw [if_pos hp, if_neg (by omega)]
      subst hp
      exact h.1 (p - 1) q (by omega) (by omega) h3 (by omega) (by omega)
    · rw [if_neg hp]
      by_cases hq : q = j
      · rw [if_pos hq]
        exact h.1 p (j - 1) h1 (by omega) (by omega) hp (by omega)
      · rw [if_neg hq]
        exact h.1 p q h1 h2 h3 hp hq
  · rw [swp_at, swp_at, if_pos rfl, if_neg (by omega)]
    by_cases hq : q = j
    · rw [if_pos hq]
      exact le_of_lt hl
    · rw [if_neg hq]
      exact h.2 q (by omega) h2
theorem Ins.done {d : Nat → P2} {a i j : Nat} (h : Ins d a i j) (hj : j ≤ i) (haj : a ≤ j) (hl : j = a ∨ ¬ lt (d j) (d (j - 1))) : Sorted d a (i + 1) := by
  intro p q h1 h2 h3
  by_cases hp : p = j
  · subst hp
    exact h.2 q h2 (by omega)
  · by_cases hq : q = j
    · subst hq
      rcases hl with hl | hl
      · omega
      · by_cases hp1 : p = q - 1
        · subst hp1; exact hl
        · exact le_trans (h.1 p (q - 1) h1 (by omega) (by omega) hp (by omega)) hl
    · exact h.1 p q h1 h2 (by omega) hp hq
theorem Sorted.one (d : Nat → P2) (a : Nat) : Sorted d a (a + 1) := fun p q h1 h2 h3 => by omega
theorem Sorted.out {d e : Nat → P2} {a b : Nat} (h : Sorted d a b) (he : ∀ k, a ≤ k → k < b → e k = d k) : Sorted e a b := fun p q h1 h2 h3 => by
  rw [he p h1 (by omega), he q (by omega) h3]
  exact h p q h1 h2 h3
end Go.Proofs.Ytgkegmkedkgkcaa.So
