/- Plain facts on sorting rows of regions by their bases: no program is spoken of here. -/
import Derived.WalkKit
namespace Go.Proofs.Ythlapnljinkekaa.Sr

abbrev P2 := Int × Int × Int
def cmpI (x y : Int) : Int := if x < y then -1 else if y < x then 1 else 0
def cmpS (a b : P2) : Int := cmpI a.2.1 b.2.1
def lt (a b : P2) : Prop := a.2.1 < b.2.1
theorem cmpS_neg (a b : P2) : cmpS a b < 0 ↔ lt a b := by
  unfold cmpS cmpI lt
  split <;> (try split) <;> omega
theorem lt_irrefl (a : P2) : ¬ lt a a := by unfold lt; omega
theorem lt_trans {a b c : P2} (h : lt a b) (k : lt b c) : lt a c := by unfold lt at *; omega
/-- Not above: the order that the sort leaves. -/
def le (a b : P2) : Prop := ¬ lt b a
theorem le_refl (a : P2) : le a a := lt_irrefl a
theorem le_trans {a b c : P2} (h : le a b) (k : le b c) : le a c := by unfold le lt at *; omega
theorem le_of_lt {a b : P2} (h : lt a b) : le a b := by unfold le lt at *; omega
/-- The row d with a and b in the places i. -/
def upd (d : Nat → P2) (i : Nat) (p : P2) : Nat → P2 := fun k => if k = i then p else d k
def swp (d : Nat → P2) (i j : Nat) : Nat → P2 := upd (upd d i (d j)) j (d i)
theorem swp_at (d : Nat → P2) (i j k : Nat) : swp d i j k = if k = j then d i else if k = i then d j else d k := by simp [swp, upd]

def Sorted (d : Nat → P2) (a b : Nat) : Prop := ∀ p q, a ≤ p → p < q → q < b → le (d p) (d q)
/-- d' is d with what stands from a on, up to b, in another order. -/
def Perm (a b : Nat) (d d' : Nat → P2) : Prop := ∃ s t : Nat → Nat, (∀ k, t (s k) = k) ∧ (∀ k, s (t k) = k) ∧ (∀ k, ¬ (a ≤ k ∧ k < b) → s k = k) ∧ (∀ k, d' k = d (s k))

theorem Perm.refl (a b : Nat) (d : Nat → P2) : Perm a b d d := ⟨id, id, fun _ => rfl, fun _ => rfl, fun _ _ => rfl, fun _ => rfl⟩
theorem Perm.trans {a b : Nat} {d e f : Nat → P2} (h : Perm a b d e) (k : Perm a b e f) : Perm a b d f := by
  obtain ⟨s, t, h1, h2, h3, h4⟩ := h
  obtain ⟨u, v, k1, k2, k3, k4⟩ := k
  refine ⟨fun x => s (u x), fun x => v (t x), fun x => by simp [h1, k1], fun x => by simp [k2, h2], fun x hx => by simp [k3 x hx, h3 x hx], fun x => by rw [k4, h4]⟩
theorem Perm.mono {a b a' b' : Nat} {d e : Nat → P2} (h : Perm a b d e) (ha : a' ≤ a) (hb : b ≤ b') : Perm a' b' d e := by
  obtain ⟨s, t, h1, h2, h3, h4⟩ := h
  exact ⟨s, t, h1, h2, fun k hk => h3 k (by omega), h4⟩
theorem Perm.swp {a b i j : Nat} (d : Nat → P2) (hi : a ≤ i ∧ i < b) (hj : a ≤ j ∧ j < b) : Perm a b d (swp d i j) := by
  refine ⟨fun k => if k = j then i else if k = i then j else k, fun k => if k = j then i else if k = i then j else k, ?_, ?_, ?_, ?_⟩
  · intro k; dsimp only; split <;> (try split) <;> (try split) <;> (try split) <;> omega
  · intro k; dsimp only; split <;> (try split) <;> (try split) <;> (try split) <;> omega
  · intro k hk; dsimp only; rw [if_neg (by omega), if_neg (by omega)]
  · intro k
    rw [swp_at]
    dsimp only
    split
    · rfl
    · split <;> rfl
theorem Perm.out {a b : Nat} {d e : Nat → P2} (h : Perm a b d e) {k : Nat} (hk : ¬ (a ≤ k ∧ k < b)) : e k = d k := by
  obtain ⟨s, t, h1, h2, h3, h4⟩ := h
  rw [h4, h3 k hk]
theorem Perm.into {a b : Nat} {d e : Nat → P2} (h : Perm a b d e) {k : Nat} (hk : a ≤ k ∧ k < b) : ∃ j, a ≤ j ∧ j < b ∧ e k = d j := by
  obtain ⟨s, t, h1, h2, h3, h4⟩ := h
  refine ⟨s k, ?_⟩
  by_cases hs : a ≤ s k ∧ s k < b
  · exact ⟨hs.1, hs.2, h4 k⟩
  · have := h3 (s k) hs
    have e1 := h1 k
    have e2 := h1 (s k)
    rw [this] at e2
    rw [e1] at e2
    omega

/-- Within an insertion: all but the one at j stand in order, and those behind it are not below it. -/
def Ins (d : Nat → P2) (a i j : Nat) : Prop := (∀ p q, a ≤ p → p < q → q ≤ i → p ≠ j → q ≠ j → le (d p) (d q)) ∧ (∀ q, j < q → q ≤ i → le (d j) (d q))
theorem Ins.start {d : Nat → P2} {a i : Nat} (h : Sorted d a i) : Ins d a i i := ⟨fun p q h1 h2 h3 _ h5 => h p q h1 h2 (by omega), fun q h1 h2 => by omega⟩
theorem Ins.step {d : Nat → P2} {a i j : Nat} (h : Ins d a i j) (ha : a < j) (hj : j ≤ i) (hl : lt (d j) (d (j - 1))) : Ins (swp d j (j - 1)) a i (j - 1) := by
  refine ⟨fun p q h1 h2 h3 h4 h5 => ?_, fun q h1 h2 => ?_⟩
  · rw [swp_at, swp_at, if_neg h4, if_neg h5]
    by_cases hp : p = j
    · rw [if_pos hp, if_neg (by omega)]
      subst hp
      exact h.1 (p - 1) q (by omega) (by omega) h3 (by omega) (by omega)
    · rw [if_neg hp]
      by_cases hq : q = j
      · rw [if_pos hq]
        exact h.1 p (j - 1) h1 (by omega) (by omega) hp (by omega)
      · rw [if_neg hq]
        exact h.1 p q h1 h2 h3 hp hq
  · rw [swp_at, swp_at, if_pos rfl, if_neg (by omega)]
    by_cases hq : q = j
    · rw [if_pos hq]
      exact le_of_lt hl
    · rw [if_neg hq]
      exact h.2 q (by omega) h2
theorem Ins.done {d : Nat → P2} {a i j : Nat} (h : Ins d a i j) (hj : j ≤ i) (haj : a ≤ j) (hl : j = a ∨ ¬ lt (d j) (d (j - 1))) : Sorted d a (i + 1) := by
  intro p q h1 h2 h3
  by_cases hp : p = j
  · subst hp
    exact h.2 q h2 (by omega)
  · by_cases hq : q = j
    · subst hq
      rcases hl with hl | hl
      · omega
      · by_cases hp1 : p = q - 1
        · subst hp1; exact hl
        · exact le_trans (h.1 p (q - 1) h1 (by omega) (by omega) hp (by omega)) hl
    · exact h.1 p q h1 h2 (by omega) hp hq
theorem Sorted.one (d : Nat → P2) (a : Nat) : Sorted d a (a + 1) := fun p q h1 h2 h3 => by omega
theorem Sorted.out {d e : Nat → P2} {a b : Nat} (h : Sorted d a b) (he : ∀ k, a ≤ k → k < b → e k = d k) : Sorted e a b := fun p q h1 h2 h3 => by
  rw [he p h1 (by omega), he q (by omega) h3]
  exact h p q h1 h2 h3
def rot (d : Nat → P2) (a m b : Nat) : Nat → P2 := fun k => if a ≤ k ∧ k < a + (b - m) then d (k - a + m) else if a + (b - m) ≤ k ∧ k < b then d (k - (b - m)) else d k
theorem rot_down (d : Nat → P2) {m k : Nat} (h : k < m) : swp (rot d (k + 1) m (m + 1)) (k + 1) k = rot d k m (m + 1) := by
  funext q; rw [swp_at]; simp only [rot]
  repeat' split
  all_goals first | (exfalso; omega) | (congr 1 <;> omega)
theorem rot_right (d : Nat → P2) (m b : Nat) : rot d m m b = d := by
  funext k; simp only [rot]
  repeat' split
  all_goals first | (exfalso; omega) | (congr 1 <;> omega)
theorem Perm.rotDown {d : Nat → P2} {m k lo hi : Nat} (i : Nat) (hki : k + i = m) (h1 : lo ≤ k) (h3 : m < hi) : Perm lo hi d (rot d k m (m + 1)) := by
  induction i generalizing k with
  | zero => obtain rfl : k = m := by omega
            rw [rot_right]; exact Perm.refl _ _ _
  | succ i ih =>
    rw [← rot_down d (show k < m by omega)]
    exact (ih (by omega) (by omega)).trans (Perm.swp _ ⟨by omega, by omega⟩ ⟨by omega, by omega⟩)
theorem one_last {d : Nat → P2} {a m i : Nat} (hs : Sorted d a m) (h1 : a ≤ i) (h2 : i ≤ m) (hl : ∀ q, a ≤ q → q < i → ¬ lt (d m) (d q)) (hr : ∀ q, i ≤ q → q < m → lt (d m) (d q)) : Sorted (rot d i m (m + 1)) a (m + 1) := by
  intro p q hp hpq hq
  simp only [rot]
  by_cases c1 : p < i
  · rw [if_neg (by omega), if_neg (by omega)]
    by_cases c2 : q < i
    · rw [if_neg (by omega), if_neg (by omega)]; exact hs _ _ (by omega) (by omega) (by omega)
    · by_cases c3 : q = i
      · rw [if_pos (by omega), show q - i + m = m by omega]; exact hl p (by omega) (by omega)
      · rw [if_neg (by omega), if_pos (by omega)]; exact hs _ _ (by omega) (by omega) (by omega)
  · by_cases c3 : p = i
    · rw [if_pos (by omega), if_neg (by omega), if_pos (by omega), show p - i + m = m by omega]
      exact le_of_lt (hr _ (by omega) (by omega))
    · rw [if_neg (by omega), if_pos (by omega), if_neg (by omega), if_pos (by omega)]; exact hs _ _ (by omega) (by omega) (by omega)
def lst (n : Nat) (d : Nat → P2) : List P2 := (List.range n).map d
theorem lst_perm {n : Nat} {d e : Nat → P2} (h : Perm 0 n d e) : (lst n e).Perm (lst n d) := by
  obtain ⟨s, t, h1, h2, h3, h4⟩ := h
  have hs : ∀ k, k < n → s k < n := fun k hk => by
    rcases Nat.lt_or_ge (s k) n with h | h
    · exact h
    · have := h3 (s k) (by omega)
      have e2 := h1 (s k)
      rw [this] at e2
      have e1 := h1 k
      rw [e1] at e2
      omega
  have ht : ∀ k, k < n → t k < n := fun k hk => by
    rcases Nat.lt_or_ge (t k) n with h | h
    · exact h
    · have := h3 (t k) (by omega)
      rw [h2] at this
      omega
  have hp : ((List.range n).map s).Perm (List.range n) := by
    refine (List.perm_ext_iff_of_nodup ?_ List.nodup_range).2 fun a => ?_
    · refine List.Pairwise.map _ ?_ (List.nodup_range (n := n))
      intro a b hab e
      exact hab (by rw [← h1 a, ← h1 b, e])
    · simp only [List.mem_map, List.mem_range]
      exact ⟨fun ⟨k, hk, e⟩ => e ▸ hs k hk, fun hk => ⟨t a, ht a hk, h2 a⟩⟩
  have he : lst n e = ((List.range n).map s).map d := by
    unfold lst
    rw [List.map_map]
    apply List.map_congr_left
    intro k _
    exact h4 k
  rw [he]
  exact hp.map d
theorem lst_sorted {n : Nat} {d : Nat → P2} (h : Sorted d 0 n) : (lst n d).Pairwise le := by
  unfold lst
  rw [List.pairwise_map]
  have := List.pairwise_lt_range (n := n)
  refine this.imp_of_mem ?_
  intro a b ha hb hab
  exact h a b (by omega) hab (List.mem_range.1 hb)
theorem lst_len (n : Nat) (d : Nat → P2) : (lst n d).length = n := by simp [lst]
theorem lst_get {n : Nat} {d : Nat → P2} {k : Nat} (h : k < n) : (lst n d)[k]? = some (d k) := by simp [lst, h]
theorem lst_mem {n : Nat} {d : Nat → P2} {x : P2} : x ∈ lst n d ↔ ∃ k, k < n ∧ d k = x := by simp [lst]
theorem lst_succ (n : Nat) (d : Nat → P2) : lst (n + 1) d = lst n d ++ [d n] := by simp [lst, List.range_succ]
theorem lst_congr {n : Nat} {d e : Nat → P2} (h : ∀ k, k < n → d k = e k) : lst n d = lst n e := by
  unfold lst
  apply List.map_congr_left
  intro k hk
  exact h k (List.mem_range.1 hk)
theorem sorted_one {n : Nat} {d e f : Nat → P2} (he : (lst n e).Perm (lst n d)) (hf : (lst n f).Perm (lst n d)) (se : Sorted e 0 n) (sf : Sorted f 0 n) (hd : ∀ i k, i < n → k < n → (d i).2.1 = (d k).2.1 → d i = d k) : ∀ k, k < n → e k = f k := by
  have hl : lst n e = lst n f := List.Perm.eq_of_pairwise (fun a b ha hb h k => by
    obtain ⟨i, hi, rfl⟩ := lst_mem.1 ((he.mem_iff).1 ha)
    obtain ⟨j, hj, rfl⟩ := lst_mem.1 ((hf.mem_iff).1 hb)
    unfold le lt at h k
    exact hd i j hi hj (by omega)) (lst_sorted se) (lst_sorted sf) (he.trans hf.symm)
  intro k hk
  have h1 : (lst n e)[k]? = some (e k) := lst_get hk
  have h2 : (lst n f)[k]? = some (f k) := lst_get hk
  rw [hl, h2] at h1
  injection h1 with h1
  exact h1.symm
end Go.Proofs.Ythlapnljinkekaa.Sr
