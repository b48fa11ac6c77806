/- Plain facts on exchanging and turning parts of a row, and on the merge of two sorted parts in place: no program is spoken of here. -/
import Derived.Test.YthneljkaieckeaaS0
namespace Go.Proofs.Ythneljkaieckeaa.So

/-- The n places from a on and the n places from b on, exchanged. -/
def swr (d : Nat → P2) (a b n : Nat) : Nat → P2 := fun k => if a ≤ k ∧ k < a + n then d (k - a + b) else if b ≤ k ∧ k < b + n then d (k - b + a) else d k
/-- What stands from m up to b comes first, then what stands from a up to m. -/
def rot (d : Nat → P2) (a m b : Nat) : Nat → P2 := fun k => if a ≤ k ∧ k < a + (b - m) then d (k - a + m) else if a + (b - m) ≤ k ∧ k < b then d (k - (b - m)) else d k

theorem swr_zero (d : Nat → P2) (a b : Nat) : swr d a b 0 = d := by
  funext k; simp only [swr]
  repeat' split
  all_goals first | rfl | (exfalso; omega)
theorem swr_succ (d : Nat → P2) {a b n : Nat} (h : a + (n + 1) ≤ b) : swp (swr d a b n) (a + n) (b + n) = swr d a b (n + 1) := by
  funext k; rw [swp_at]; simp only [swr]
  repeat' split
  all_goals first | (exfalso; omega) | (congr 1 <;> omega)
theorem Perm.swr {d : Nat → P2} {a b n lo hi : Nat} (h : a + n ≤ b) (h1 : lo ≤ a) (h2 : b + n ≤ hi) : Perm lo hi d (swr d a b n) := by
  induction n with
  | zero => rw [swr_zero]; exact Perm.refl _ _ _
  | succ n ih =>
    rw [← swr_succ d h]
    exact (ih (by omega) (by omega)).trans (Perm.swp _ ⟨by omega, by omega⟩ ⟨by omega, by omega⟩)

theorem rot_more (d : Nat → P2) {m i j : Nat} (hi : i ≤ m) (hij : j < i) : rot (swr d (m - i) m j) (m - (i - j)) m (m + j) = rot d (m - i) m (m + j) := by
  funext k; simp only [rot, swr]
  repeat' split
  all_goals first | (exfalso; omega) | (congr 1 <;> omega)
theorem rot_less (d : Nat → P2) {m i j : Nat} (hi : i ≤ m) (hij : i < j) : rot (swr d (m - i) (m + j - i) i) (m - i) m (m + (j - i)) = rot d (m - i) m (m + j) := by
  funext k; simp only [rot, swr]
  repeat' split
  all_goals first | (exfalso; omega) | (congr 1 <;> omega)
theorem rot_same (d : Nat → P2) {m i : Nat} (hi : i ≤ m) : swr d (m - i) m i = rot d (m - i) m (m + i) := by
  funext k; simp only [rot, swr]
  repeat' split
  all_goals first | (exfalso; omega) | (congr 1 <;> omega)
theorem rot_left (d : Nat → P2) (a m : Nat) : rot d a m m = d := by
  funext k; simp only [rot]
  repeat' split
  all_goals first | (exfalso; omega) | (congr 1 <;> omega)
theorem rot_right (d : Nat → P2) (m b : Nat) : rot d m m b = d := by
  funext k; simp only [rot]
  repeat' split
  all_goals first | (exfalso; omega) | (congr 1 <;> omega)
theorem rot_up (d : Nat → P2) {a k : Nat} (h : a ≤ k) : swp (rot d a (a + 1) (k + 1)) k (k + 1) = rot d a (a + 1) (k + 2) := by
  funext q; rw [swp_at]; simp only [rot]
  repeat' split
  all_goals first | (exfalso; omega) | (congr 1 <;> omega)
theorem rot_down (d : Nat → P2) {m k : Nat} (h : k < m) : swp (rot d (k + 1) m (m + 1)) (k + 1) k = rot d k m (m + 1) := by
  funext q; rw [swp_at]; simp only [rot]
  repeat' split
  all_goals first | (exfalso; omega) | (congr 1 <;> omega)

theorem Perm.rotUp {d : Nat → P2} {a k lo hi : Nat} (h1 : lo ≤ a) (h2 : a ≤ k) (h3 : k < hi) : Perm lo hi d (rot d a (a + 1) (k + 1)) := by
  induction k with
  | zero => obtain rfl : a = 0 := by omega
            rw [rot_left]; exact Perm.refl _ _ _
  | succ k ih =>
    by_cases hk : a ≤ k
    · rw [← rot_up d hk]
      exact (ih hk (by omega)).trans (Perm.swp _ ⟨by omega, by omega⟩ ⟨by omega, by omega⟩)
    · obtain rfl : a = k + 1 := by omega
      rw [rot_left]; exact Perm.refl _ _ _
theorem Perm.rotDown {d : Nat → P2} {m k lo hi : Nat} (i : Nat) (hki : k + i = m) (h1 : lo ≤ k) (h3 : m < hi) : Perm lo hi d (rot d k m (m + 1)) := by
  induction i generalizing k with
  | zero => obtain rfl : k = m := by omega
            rw [rot_right]; exact Perm.refl _ _ _
  | succ i ih =>
    rw [← rot_down d (show k < m by omega)]
    exact (ih (by omega) (by omega)).trans (Perm.swp _ ⟨by omega, by omega⟩ ⟨by omega, by omega⟩)

/-- ONE BEFORE MANY: the first one goes behind all that are below it. -/
theorem one_first {d : Nat → P2} {a b i : Nat} (hs : Sorted d (a + 1) b) (h1 : a + 1 ≤ i) (h2 : i ≤ b) (hl : ∀ q, a + 1 ≤ q → q < i → lt (d q) (d a)) (hr : ∀ q, i ≤ q → q < b → ¬ lt (d q) (d a)) : Sorted (rot d a (a + 1) i) a b := by
  intro p q hp hpq hq
  simp only [rot]
  by_cases c1 : p < i - 1
  · rw [if_pos (by omega)]
    by_cases c2 : q < i - 1
    · rw [if_pos (by omega)]; exact hs _ _ (by omega) (by omega) (by omega)
    · by_cases c3 : q = i - 1
      · rw [if_neg (by omega), if_pos (by omega), show q - (i - (a + 1)) = a by omega]
        exact le_of_lt (hl _ (by omega) (by omega))
      · rw [if_neg (by omega), if_neg (by omega)]; exact hs _ _ (by omega) (by omega) (by omega)
  · by_cases c3 : p = i - 1
    · rw [if_neg (by omega), if_pos (by omega), if_neg (by omega), if_neg (by omega), show p - (i - (a + 1)) = a by omega]
      exact hr q (by omega) hq
    · rw [if_neg (by omega), if_neg (by omega), if_neg (by omega), if_neg (by omega)]; exact hs _ _ (by omega) (by omega) (by omega)
/-- MANY BEFORE ONE. -/
theorem one_last {d : Nat → P2} {a m i : Nat} (hs : Sorted d a m) (h1 : a ≤ i) (h2 : i ≤ m) (hl : ∀ q, a ≤ q → q < i → ¬ lt (d m) (d q)) (hr : ∀ q, i ≤ q → q < m → lt (d m) (d q)) : Sorted (rot d i m (m + 1)) a (m + 1) := by
  intro p q hp hpq hq
  simp only [rot]
  by_cases c1 : p < i
  · rw [if_neg (by omega), if_neg (by omega)]
    by_cases c2 : q < i
    · rw [if_neg (by omega), if_neg (by omega)]; exact hs _ _ (by omega) (by omega) (by omega)
    · by_cases c3 : q = i
      · rw [if_pos (by omega), show q - i + m = m by omega]; exact hl p (by omega) (by omega)
      · rw [if_neg (by omega), if_pos (by omega)]; exact hs _ _ (by omega) (by omega) (by omega)
  · by_cases c3 : p = i
    · rw [if_pos (by omega), if_neg (by omega), if_pos (by omega), show p - i + m = m by omega]
      exact le_of_lt (hr _ (by omega) (by omega))
    · rw [if_neg (by omega), if_pos (by omega), if_neg (by omega), if_pos (by omega)]; exact hs _ _ (by omega) (by omega) (by omega)

theorem Perm.rotAll {d : Nat → P2} {a m b lo hi : Nat} (h1 : lo ≤ a) (h2 : a ≤ m) (h3 : m ≤ b) (h4 : b ≤ hi) : Perm lo hi d (rot d a m b) := by
  refine ⟨fun k => if a ≤ k ∧ k < a + (b - m) then k - a + m else if a + (b - m) ≤ k ∧ k < b then k - (b - m) else k, fun k => if m ≤ k ∧ k < b then k - m + a else if a ≤ k ∧ k < m then k + (b - m) else k, ?_, ?_, ?_, ?_⟩
  · intro k; dsimp only; repeat' split
    all_goals omega
  · intro k; dsimp only; repeat' split
    all_goals omega
  · intro k hk; dsimp only; repeat' split
    all_goals omega
  · intro k; simp only [rot]; repeat' split
    all_goals rfl

/-- THE CUT: what the search finds. From lo up to hi: 'c' is the first one at which the other side's is below it. -/
structure Cut (d : Nat → P2) (a m b mid s : Nat) : Prop where
  as : a ≤ s
  sm : s ≤ m
  smid : s ≤ mid
  eb : mid + m - s ≤ b
  low : ∀ p q, a ≤ p → p < s → mid + m - s ≤ q → q < b → le (d p) (d q)
  high : ∀ p q, m ≤ p → p < mid + m - s → s ≤ q → q < m → le (d p) (d q)

theorem Cut.of_more {d : Nat → P2} {a m b mid s : Nat} (h1 : Sorted d a m) (h2 : Sorted d m b) (hmb : m < b) (hmid : 2 * mid + 1 ≥ a + b) (hmid2 : 2 * mid ≤ a + b) (hm : mid < m)
    (hs1 : mid + m - b ≤ s) (hs2 : s ≤ mid) (hl : ∀ c, mid + m - b ≤ c → c < s → ¬ lt (d (mid + m - 1 - c)) (d c)) (hr : ∀ c, s ≤ c → c < mid → lt (d (mid + m - 1 - c)) (d c)) : Cut d a m b mid s := by
  refine ⟨by omega, by omega, hs2, by omega, fun p q hp hps hq hqb => ?_, fun p q hp hpe hq hqm => ?_⟩
  · have hx : le (d (s - 1)) (d (mid + m - s)) := by
      have := hl (s - 1) (by omega) (by omega)
      rw [show mid + m - 1 - (s - 1) = mid + m - s by omega] at this
      exact this
    have e1 : le (d p) (d (s - 1)) := by
      rcases Nat.lt_or_ge p (s - 1) with h | h
      · exact h1 _ _ hp h (by omega)
      · rw [show p = s - 1 by omega]; exact le_refl _
    have e2 : le (d (mid + m - s)) (d q) := by
      rcases Nat.lt_or_ge (mid + m - s) q with h | h
      · exact h2 _ _ (by omega) h hqb
      · rw [show q = mid + m - s by omega]; exact le_refl _
    exact le_trans e1 (le_trans hx e2)
  · have hx : le (d (mid + m - 1 - s)) (d s) := le_of_lt (hr s (Nat.le_refl _) (by omega))
    have e1 : le (d p) (d (mid + m - 1 - s)) := by
      rcases Nat.lt_or_ge p (mid + m - 1 - s) with h | h
      · exact h2 _ _ hp h (by omega)
      · rw [show p = mid + m - 1 - s by omega]; exact le_refl _
    have e2 : le (d s) (d q) := by
      rcases Nat.lt_or_ge s q with h | h
      · exact h1 _ _ (by omega) h hqm
      · rw [show q = s by omega]; exact le_refl _
    exact le_trans e1 (le_trans hx e2)
theorem Cut.of_less {d : Nat → P2} {a m b mid s : Nat} (h1 : Sorted d a m) (h2 : Sorted d m b) (ham : a < m) (hmb : m < b) (hmid : 2 * mid + 1 ≥ a + b) (hmid2 : 2 * mid ≤ a + b) (hm : m ≤ mid)
    (hs1 : a ≤ s) (hs2 : s ≤ m) (hl : ∀ c, a ≤ c → c < s → ¬ lt (d (mid + m - 1 - c)) (d c)) (hr : ∀ c, s ≤ c → c < m → lt (d (mid + m - 1 - c)) (d c)) : Cut d a m b mid s := by
  refine ⟨hs1, hs2, by omega, by omega, fun p q hp hps hq hqb => ?_, fun p q hp hpe hq hqm => ?_⟩
  · have hx : le (d (s - 1)) (d (mid + m - s)) := by
      have := hl (s - 1) (by omega) (by omega)
      rw [show mid + m - 1 - (s - 1) = mid + m - s by omega] at this
      exact this
    have e1 : le (d p) (d (s - 1)) := by
      rcases Nat.lt_or_ge p (s - 1) with h | h
      · exact h1 _ _ hp h (by omega)
      · rw [show p = s - 1 by omega]; exact le_refl _
    have e2 : le (d (mid + m - s)) (d q) := by
      rcases Nat.lt_or_ge (mid + m - s) q with h | h
      · exact h2 _ _ (by omega) h hqb
      · rw [show q = mid + m - s by omega]; exact le_refl _
    exact le_trans e1 (le_trans hx e2)
  · have hx : le (d (mid + m - 1 - s)) (d s) := le_of_lt (hr s (Nat.le_refl _) (by omega))
    have e1 : le (d p) (d (mid + m - 1 - s)) := by
      rcases Nat.lt_or_ge p (mid + m - 1 - s) with h | h
      · exact h2 _ _ hp h (by omega)
      · rw [show p = mid + m - 1 - s by omega]; exact le_refl _
    have e2 : le (d s) (d q) := by
      rcases Nat.lt_or_ge s q with h | h
      · exact h1 _ _ (by omega) h hqm
      · rw [show q = s by omega]; exact le_refl _
    exact le_trans e1 (le_trans hx e2)

theorem rot_first {d : Nat → P2} {m mid s : Nat} (hs : s ≤ m) (hs2 : s ≤ mid) {k : Nat} (h1 : s ≤ k) (h2 : k < mid) : rot d s m (mid + m - s) k = d (k - s + m) := by
  simp only [rot]; rw [if_pos (by omega)]
theorem rot_second {d : Nat → P2} {m mid s : Nat} (hs : s ≤ m) (hs2 : s ≤ mid) {k : Nat} (h1 : mid ≤ k) (h2 : k < mid + m - s) : rot d s m (mid + m - s) k = d (k - (mid - s)) := by
  simp only [rot]; rw [if_neg (by omega), if_pos (by omega)]; congr 1; omega
theorem rot_off {d : Nat → P2} {m mid s : Nat} (hs : s ≤ m) (hs2 : s ≤ mid) {k : Nat} (h : k < s ∨ mid + m - s ≤ k) : rot d s m (mid + m - s) k = d k := by
  simp only [rot]; rw [if_neg (by omega), if_neg (by omega)]

/-- Behind the turn: what stands left of mid is nowhere above what stands right of it. -/
theorem Cut.apart {d : Nat → P2} {a m b mid s : Nat} (h : Cut d a m b mid s) (h1 : Sorted d a m) (h2 : Sorted d m b) {p q : Nat} (hp : a ≤ p) (hpm : p < mid) (hq : mid ≤ q) (hqb : q < b) : le (rot d s m (mid + m - s) p) (rot d s m (mid + m - s) q) := by
  obtain ⟨g1, g2, g3, g4, gl, gh⟩ := h
  by_cases c1 : p < s
  · rw [rot_off g2 g3 (.inl c1)]
    by_cases c2 : q < mid + m - s
    · rw [rot_second g2 g3 hq c2]; exact h1 _ _ hp (by omega) (by omega)
    · rw [rot_off g2 g3 (.inr (by omega))]; exact gl _ _ hp c1 (by omega) hqb
  · rw [rot_first g2 g3 (by omega) hpm]
    by_cases c2 : q < mid + m - s
    · rw [rot_second g2 g3 hq c2]; exact gh _ _ (by omega) (by omega) (by omega) (by omega)
    · rw [rot_off g2 g3 (.inr (by omega))]; exact h2 _ _ (by omega) (by omega) hqb
theorem Cut.left1 {d : Nat → P2} {a m b mid s : Nat} (h : Cut d a m b mid s) (h1 : Sorted d a m) : Sorted (rot d s m (mid + m - s)) a s := fun p q hp hpq hq => by
  rw [rot_off h.sm h.smid (.inl (by omega)), rot_off h.sm h.smid (.inl hq)]; exact h1 _ _ hp hpq (by have := h.sm; omega)
theorem Cut.left2 {d : Nat → P2} {a m b mid s : Nat} (h : Cut d a m b mid s) (h2 : Sorted d m b) : Sorted (rot d s m (mid + m - s)) s mid := fun p q hp hpq hq => by
  have := h.eb
  rw [rot_first h.sm h.smid hp (by omega), rot_first h.sm h.smid (by omega) hq]; exact h2 _ _ (by omega) (by omega) (by omega)
theorem Cut.right1 {d : Nat → P2} {a m b mid s : Nat} (h : Cut d a m b mid s) (h1 : Sorted d a m) : Sorted (rot d s m (mid + m - s)) mid (mid + m - s) := fun p q hp hpq hq => by
  have := h.as; have := h.smid
  rw [rot_second h.sm h.smid hp (by omega), rot_second h.sm h.smid (by omega) hq]; exact h1 _ _ (by omega) (by omega) (by omega)
theorem Cut.right2 {d : Nat → P2} {a m b mid s : Nat} (h : Cut d a m b mid s) (h2 : Sorted d m b) : Sorted (rot d s m (mid + m - s)) (mid + m - s) b := fun p q hp hpq hq => by
  have := h.sm; have := h.smid
  rw [rot_off h.sm h.smid (.inr hp), rot_off h.sm h.smid (.inr (by omega))]; exact h2 _ _ (by omega) hpq hq
/-- A merge of a part whose one half is empty is done already. -/
theorem Sorted.cat {d : Nat → P2} {a s m : Nat} (h1 : Sorted d a s) (h2 : Sorted d s m) (h : ¬ (a < s ∧ s < m)) (h3 : a ≤ s) (h4 : s ≤ m) : Sorted d a m := by
  by_cases c : a < s
  · obtain rfl : s = m := by omega
    exact h1
  · obtain rfl : a = s := by omega
    exact h2
theorem Sorted.kept {d e : Nat → P2} {a b x y : Nat} (h : Sorted d a b) (p : Perm x y d e) (hd : b ≤ x ∨ y ≤ a) : Sorted e a b :=
  h.out fun k h1 h2 => p.out (by omega)
/-- BOTH HALVES SORTED, and the left nowhere above the right: all is. -/
theorem halves {d e f : Nat → P2} {a mid b : Nat} (h : ∀ p q, a ≤ p → p < mid → mid ≤ q → q < b → le (d p) (d q)) (p1 : Perm a mid d e) (s1 : Sorted e a mid) (p2 : Perm mid b e f) (s2 : Sorted f mid b) (ha : a ≤ mid) (hb : mid ≤ b) : Perm a b d f ∧ Sorted f a b := by
  refine ⟨(p1.mono (Nat.le_refl _) hb).trans (p2.mono ha (Nat.le_refl _)), fun p q hp hpq hq => ?_⟩
  by_cases c1 : q < mid
  · rw [p2.out (by omega), p2.out (by omega)]; exact s1 _ _ hp hpq c1
  · by_cases c2 : mid ≤ p
    · exact s2 _ _ c2 hpq hq
    · obtain ⟨j, j1, j2, ej⟩ := p2.into (k := q) ⟨by omega, hq⟩
      rw [p2.out (k := p) (by omega), ej, p1.out (k := j) (by omega)]
      obtain ⟨i, i1, i2, ei⟩ := p1.into (k := p) ⟨hp, by omega⟩
      rw [ei]
      exact h _ _ i1 i2 j1 j2
/-- The search of the cut goes one way: what holds at one holds at all behind it. -/
theorem cut_mono {d : Nat → P2} {a m b mid c c' : Nat} (h1 : Sorted d a m) (h2 : Sorted d m b) (hc : c ≤ c') (ha : a ≤ c) (hm : c' < m) (hp : m ≤ mid + m - 1 - c') (hb : mid + m - 1 - c < b) (hx : c' ≤ mid + m - 1) (h : lt (d (mid + m - 1 - c)) (d c)) : lt (d (mid + m - 1 - c')) (d c') := by
  rcases Nat.lt_or_ge c c' with hl | hl
  · have e1 := h1 c c' ha hl hm
    have e2 := h2 (mid + m - 1 - c') (mid + m - 1 - c) hp (by omega) hb
    unfold le lt at *
    omega
  · obtain rfl : c = c' := by omega
    exact h
end Go.Proofs.Ythneljkaieckeaa.So
