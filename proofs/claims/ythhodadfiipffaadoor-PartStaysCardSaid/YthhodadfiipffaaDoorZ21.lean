import Derived.Test.YthhodadfiipffaaDoorZ02
import Derived.ShutString
import Derived.ChangeOld
set_option linter.all false
/- Plain facts on exchanging and turning parts of a row, and on the merge of two sorted parts in place: no program is spoken of here. -/
namespace Go.Proofs.YthhodadfiipffaaDoor.So

/-- The n places from a on and the n places from b on, exchanged. -/
def swr (d : Nat → P2) (a b n : Nat) : Nat → P2 := fun k => if a ≤ k ∧ k < a + n then d (k - a + b) else if b ≤ k ∧ k < b + n then d (k - b + a) else d k
/-- What stands from m up to b comes first, then what stands from a up to m. -/
def rot (d : Nat → P2) (a m b : Nat) : Nat → P2 := fun k => if a ≤ k ∧ k < a + (b - m) then d (k - a + m) else if a + (b - m) ≤ k ∧ k < b then d (k - (b - m)) else d k

theorem swr_zero (d : Nat → P2) (a b : Nat) : swr d a b 0 = d := by
  funext k; simp only [swr]
  repeat' split
  all_goals first | rfl | (exfalso; omega)
theorem swr_succ (d : Nat → P2) {a b n : Nat} (h : a + (n + 1) ≤ b) : swp (swr d a b n) (a + n) (b + n) = swr d a b (n + 1) := by
  funext k; rw [swp_at]; simp only [swr]
  repeat' split
  all_goals first | (exfalso; omega) | (congr 1 <;> omega)
theorem Perm.swr {d : Nat → P2} {a b n lo hi : Nat} (h : a + n ≤ b) (h1 : lo ≤ a) (h2 : b + n ≤ hi) : Perm lo hi d (swr d a b n) := by
  induction n with
  | zero => rw [swr_zero]; exact Perm.refl _ _ _
  | succ n ih =>
    rw [← swr_succ d h]
    exact (ih (by omega) (by omega)).trans (Perm.swp _ ⟨by omega, by omega⟩ ⟨by omega, by omega⟩)

theorem rot_more (d : Nat → P2) {m i j : Nat} (hi : i ≤ m) (hij : j < i) : rot (swr d (m - i) m j) (m - (i - j)) m (m + j) = rot d (m - i) m (m + j) := by
  funext k; simp only [rot, swr]
  repeat' split
  all_goals first | (exfalso; omega) | (congr 1 <;> omega)
theorem rot_less (d : Nat → P2) {m i j : Nat} (hi : i ≤ m) (hij : i < j) : rot (swr d (m - i) (m + j - i) i) (m - i) m (m + (j - i)) = rot d (m - i) m (m + j) := by
  funext k; simp only [rot, swr]
  repeat' split
  all_goals first | (exfalso; omega) | (congr 1 <;> omega)
theorem rot_same (d : Nat → P2) {m i : Nat} (hi : i ≤ m) : swr d (m - i) m i = rot d (m - i) m (m + i) := by
  funext k; simp only [rot, swr]
  repeat' split
  all_goals first | (exfalso; omega) | (congr 1 <;> omega)
theorem rot_left (d : Nat → P2) (a m : Nat) : rot d a m m = d := by
  funext k; simp only [rot]
  repeat' split
  all_goals first | (exfalso; omega) | (congr 1 <;> omega)
theorem rot_right (d : Nat → P2) (m b : Nat) : rot d m m b = d := by
  funext k; simp only [rot]
  repeat' split
  all_goals first | (exfalso; omega) | (congr 1 <;> omega)
theorem rot_up (d : Nat → P2) {a k : Nat} (h : a ≤ k) : swp (rot d a (a + 1) (k + 1)) k (k + 1) = rot d a (a + 1) (k + 2) := by
  funext q; rw [swp_at]; simp only [rot]
  repeat' split
  all_goals first | (exfalso; omega) | (congr 1 <;> omega)
theorem rot_down (d : Nat → P2) {m k : Nat} (h : k < m) : swp (rot d (k + 1) m (m + 1)) (k + 1) k = rot d k m (m + 1) := by
  funext q; rw [swp_at]; simp only [rot]
  repeat' split
  all_goals first | (exfalso; omega) | (congr 1 <;> omega)

theorem Perm.rotUp {d : Nat → P2} {a k lo hi : Nat} (h1 : lo ≤ a) (h2 : a ≤ k) (h3 : k < hi) : Perm lo hi d (rot d a (a + 1) (k + 1)) := by
  induction k with
  | zero => obtain rfl : a = 0 := by omega
            rw [rot_left]; exact Perm.refl _ _ _
  | succ k ih =>
    by_cases hk : a ≤ k
    · rw [← rot_up d hk]
      exact (ih hk (by omega)).trans (Perm.swp _ ⟨by omega, by omega⟩ ⟨by omega, by omega⟩)
    · obtain rfl : a = k + 1 := by omega
      rw [rot_left]; exact Perm.refl _ _ _
theorem Perm.rotDown {d : Nat → P2} {m k lo hi : Nat} (i : Nat) (hki : k + i = m) (h1 : lo ≤ k) (h3 : m < hi) : Perm lo hi d (rot d k m (m + 1)) := by
  induction i generalizing k with
  | zero => obtain rfl : k = m := by omega
            rw [rot_right]; exact Perm.refl _ _ _
  | succ i ih =>
    rw [← rot_down d (show k < m by omega)]
    exact (ih (by omega) (by omega)).trans (Perm.swp _ ⟨by omega, by omega⟩ ⟨by omega, by omega⟩)

/-- ONE BEFORE MANY: the first one goes behind all that are below it. -/
theorem one_first {d : Nat → P2} {a b i : Nat} (hs : Sorted d (a + 1) b) (h1 : a + 1 ≤ i) (h2 : i ≤ b) (hl : ∀ q, a + 1 ≤ q → q < i → lt (d q) (d a)) (hr : ∀ q, i ≤ q → q < b → ¬ lt (d q) (d a)) : Sorted (rot d a (a + 1) i) a b := by
  intro p q hp hpq hq
  simp only [rot]
  by_cases c1 : p < i - 1
  · rw [if_pos (by omega)]
    by_cases c2 : q < i - 1
    · rw [if_pos (by omega)]; exact hs _ _ (by omega) (by omega) (by omega)
    · by_cases c3 : q = i - 1
      · rw [if_neg (by omega), if_pos (by omega), show q - (i - (a + 1)) = a by omega]
        exact le_of_lt (hl _ (by omega) (by omega))
      · rw [if_neg (by omega), if_neg (by omega)]; exact hs _ _ (by omega) (by omega) (by omega)
  · by_cases c3 : p = i - 1
    · rw [if_neg (by omega), if_pos (by omega), if_neg (by omega), if_neg (by omega), show p - (i - (a + 1)) = a by omega]
      exact hr q (by omega) hq
    · rw [if_neg (by omega), if_neg (by omega), if_neg (by omega), if_neg (by omega)]; exact hs _ _ (by omega) (by omega) (by omega)
/-- MANY BEFORE ONE. -/
theorem one_last {d : Nat → P2} {a m i : Nat} (hs : Sorted d a m) (h1 : a ≤ i) (h2 : i ≤ m) (hl : ∀ q, a ≤ q → q < i → ¬ lt (d m) (d q)) (hr : ∀ q, i ≤ q → q < m → lt (d m) (d q)) : Sorted (rot d i m (m + 1)) a (m + 1) := by
  intro p q hp hpq hq
  simp only [rot]
  by_cases c1 : p < i
  · rw [if_neg (by omega), if_neg (by omega)]
    by_cases c2 : q < i
    · rw [if_neg (by omega), if_neg (by omega)]; exact hs _ _ (by omega) (by omega) (by omega)
    · by_cases c3 : q = i
      · rw [if_pos (by omega), show q - i + m = m by omega]; exact hl p (by omega) (by omega)
      · rw [if_neg (by omega), if_pos (by omega)]; exact hs _ _ (by omega) (by omega) (by omega)
  · by_cases c3 : p = i
    · rw [if_pos (by omega), if_neg (by omega), if_pos (by omega), show p - i + m = m by omega]
      exact le_of_lt (hr _ (by omega) (by omega))
    · rw [if_neg (by omega), if_pos (by omega), if_neg (by omega), if_pos (by omega)]; exact hs _ _ (by omega) (by omega) (by omega)

theorem Perm.rotAll {d : Nat → P2} {a m b lo hi : Nat} (h1 : lo ≤ a) (h2 : a ≤ m) (h3 : m ≤ b) (h4 : b ≤ hi) : Perm lo hi d (rot d a m b) := by
  refine ⟨fun k => if a ≤ k ∧ k < a + (b - m) then k - a + m else if a + (b - m) ≤ k ∧ k < b then k - (b - m) else k, fun k => if m ≤ k ∧ k < b then k - m + a else if a ≤ k ∧ k < m then k + (b - m) else k, ?_, ?_, ?_, ?_⟩
  · intro k; dsimp only; repeat' split
    all_goals omega
  · intro k; dsimp only; repeat' split
    all_goals omega
  · intro k hk; dsimp only; repeat' split
    all_goals omega
  · intro k; simp only [rot]; repeat' split
    all_goals rfl

/-- THE CUT: what the search finds. From lo up to hi: 'c' is the first one at which the other side's is below it. -/
structure Cut (d : Nat → P2) (a m b mid s : Nat) : Prop where
  as1 : a ≤ s
  sm : s ≤ m
  smid : s ≤ mid
  eb : mid + m - s ≤ b
  low : ∀ p q, a ≤ p → p < s → mid + m - s ≤ q → q < b → le (d p) (d q)
  high : ∀ p q, m ≤ p → p < mid + m - s → s ≤ q → q < m → le (d p) (d q)

theorem Cut.of_more {d : Nat → P2} {a m b mid s : Nat} (h1 : Sorted d a m) (h2 : Sorted d m b) (hmb : m < b) (hmid : 2 * mid + 1 ≥ a + b) (hmid2 : 2 * mid ≤ a + b) (hm : mid < m)
    (hs1 : mid + m - b ≤ s) (hs2 : s ≤ mid) (hl : ∀ c, mid + m - b ≤ c → c < s → ¬ lt (d (mid + m - 1 - c)) (d c)) (hr : ∀ c, s ≤ c → c < mid → lt (d (mid + m - 1 - c)) (d c)) : Cut d a m b mid s := by
  refine ⟨by omega, by omega, hs2, by omega, fun p q hp hps hq hqb => ?_, fun p q hp hpe hq hqm => ?_⟩
  · have hx : le (d (s - 1)) (d (mid + m - s)) := by
      have := hl (s - 1) (by omega) (by omega)
      rw [show mid + m - 1 - (s - 1) = mid + m - s by omega] at this
      exact this
    have e1 : le (d p) (d (s - 1)) := by
      rcases Nat.lt_or_ge p (s - 1) with h | h
      · exact h1 _ _ hp h (by omega)
      · rw [show p = s - 1 by omega]; exact le_refl _
    have e2 : le (d (mid + m - s)) (d q) := by
      rcases Nat.lt_or_ge (mid + m - s) q with h | h
      · exact h2 _ _ (by omega) h hqb
      · rw [show q = mid + m - s by omega]; exact le_refl _
    exact le_trans e1 (le_trans hx e2)
  · have hx : le (d (mid + m - 1 - s)) (d s) := le_of_lt (hr s (Nat.le_refl _) (by omega))
    have e1 : le (d p) (d (mid + m - 1 - s)) := by
      rcases Nat.lt_or_ge p (mid + m - 1 - s) with h | h
      · exact h2 _ _ hp h (by omega)
      · rw [show p = mid + m - 1 - s by omega]; exact le_refl _
    have e2 : le (d s) (d q) := by
      rcases Nat.lt_or_ge s q with h | h
      · exact h1 _ _ (by omega) h hqm
      · rw [show q = s by omega]; exact le_refl _
    exact le_trans e1 (le_trans hx e2)
theorem Cut.of_less {d : Nat → P2} {a m b mid s : Nat} (h1 : Sorted d a m) (h2 : Sorted d m b) (ham : a < m) (hmb : m < b) (hmid : 2 * mid + 1 ≥ a + b) (hmid2 : 2 * mid ≤ a + b) (hm : m ≤ mid)
    (hs1 : a ≤ s) (hs2 : s ≤ m) (hl : ∀ c, a ≤ c → c < s → ¬ lt (d (mid + m - 1 - c)) (d c)) (hr : ∀ c, s ≤ c → c < m → lt (d (mid + m - 1 - c)) (d c)) : Cut d a m b mid s := by
  refine ⟨hs1, hs2, by omega, by omega, fun p q hp hps hq hqb => ?_, fun p q hp hpe hq hqm => ?_⟩
  · have hx : le (d (s - 1)) (d (mid + m - s)) := by
      have := hl (s - 1) (by omega) (by omega)
      rw [show mid + m - 1 - (s - 1) = mid + m - s by omega] at this
      exact this
    have e1 : le (d p) (d (s - 1)) := by
      rcases Nat.lt_or_ge p (s - 1) with h | h
      · exact h1 _ _ hp h (by omega)
      · rw [show p = s - 1 by omega]; exact le_refl _
    have e2 : le (d (mid + m - s)) (d q) := by
      rcases Nat.lt_or_ge (mid + m - s) q with h | h
      · exact h2 _ _ (by omega) h hqb
      · rw [show q = mid + m - s by omega]; exact le_refl _
    exact le_trans e1 (le_trans hx e2)
  · have hx : le (d (mid + m - 1 - s)) (d s) := le_of_lt (hr s (Nat.le_refl _) (by omega))
    have e1 : le (d p) (d (mid + m - 1 - s)) := by
      rcases Nat.lt_or_ge p (mid + m - 1 - s) with h | h
      · exact h2 _ _ hp h (by omega)
      · rw [show p = mid + m - 1 - s by omega]; exact le_refl _
    have e2 : le (d s) (d q) := by
      rcases Nat.lt_or_ge s q with h | h
      · exact h1 _ _ (by omega) h hqm
      · rw [show q = s by omega]; exact le_refl _
    exact le_trans e1 (le_trans hx e2)

theorem rot_first {d : Nat → P2} {m mid s : Nat} (hs : s ≤ m) (hs2 : s ≤ mid) {k : Nat} (h1 : s ≤ k) (h2 : k < mid) : rot d s m (mid + m - s) k = d (k - s + m) := by
  simp only [rot]; rw [if_pos (by omega)]
theorem rot_second {d : Nat → P2} {m mid s : Nat} (hs : s ≤ m) (hs2 : s ≤ mid) {k : Nat} (h1 : mid ≤ k) (h2 : k < mid + m - s) : rot d s m (mid + m - s) k = d (k - (mid - s)) := by
  simp only [rot]; rw [if_neg (by omega), if_pos (by omega)]; congr 1; omega
theorem rot_off {d : Nat → P2} {m mid s : Nat} (hs : s ≤ m) (hs2 : s ≤ mid) {k : Nat} (h : k < s ∨ mid + m - s ≤ k) : rot d s m (mid + m - s) k = d k := by
  simp only [rot]; rw [if_neg (by omega), if_neg (by omega)]

/-- Behind the turn: what stands left of mid is nowhere above what stands right of it. -/
theorem Cut.apart {d : Nat → P2} {a m b mid s : Nat} (h : Cut d a m b mid s) (h1 : Sorted d a m) (h2 : Sorted d m b) {p q : Nat} (hp : a ≤ p) (hpm : p < mid) (hq : mid ≤ q) (hqb : q < b) : le (rot d s m (mid + m - s) p) (rot d s m (mid + m - s) q) := by
  obtain ⟨g1, g2, g3, g4, gl, gh⟩ := h
  by_cases c1 : p < s
  · rw [rot_off g2 g3 (.inl c1)]
    by_cases c2 : q < mid + m - s
    · rw [rot_second g2 g3 hq c2]; exact h1 _ _ hp (by omega) (by omega)
    · rw [rot_off g2 g3 (.inr (by omega))]; exact gl _ _ hp c1 (by omega) hqb
  · rw [rot_first g2 g3 (by omega) hpm]
    by_cases c2 : q < mid + m - s
    · rw [rot_second g2 g3 hq c2]; exact gh _ _ (by omega) (by omega) (by omega) (by omega)
    · rw [rot_off g2 g3 (.inr (by omega))]; exact h2 _ _ (by omega) (by omega) hqb
theorem Cut.left1 {d : Nat → P2} {a m b mid s : Nat} (h : Cut d a m b mid s) (h1 : Sorted d a m) : Sorted (rot d s m (mid + m - s)) a s := fun p q hp hpq hq => by
  rw [rot_off h.sm h.smid (.inl (by omega)), rot_off h.sm h.smid (.inl hq)]; exact h1 _ _ hp hpq (by have := h.sm; omega)
theorem Cut.left2 {d : Nat → P2} {a m b mid s : Nat} (h : Cut d a m b mid s) (h2 : Sorted d m b) : Sorted (rot d s m (mid + m - s)) s mid := fun p q hp hpq hq => by
  have := h.eb
  rw [rot_first h.sm h.smid hp (by omega), rot_first h.sm h.smid (by omega) hq]; exact h2 _ _ (by omega) (by omega) (by omega)
theorem Cut.right1 {d : Nat → P2} {a m b mid s : Nat} (h : Cut d a m b mid s) (h1 : Sorted d a m) : Sorted (rot d s m (mid + m - s)) mid (mid + m - s) := fun p q hp hpq hq => by
  have := h.as1; have := h.smid
  rw [rot_second h.sm h.smid hp (by omega), rot_second h.sm h.smid (by omega) hq]; exact h1 _ _ (by omega) (by omega) (by omega)
theorem Cut.right2 {d : Nat → P2} {a m b mid s : Nat} (h : Cut d a m b mid s) (h2 : Sorted d m b) : Sorted (rot d s m (mid + m - s)) (mid + m - s) b := fun p q hp hpq hq => by
  have := h.sm; have := h.smid
  rw [rot_off h.sm h.smid (.inr hp), rot_off h.sm h.smid (.inr (by omega))]; exact h2 _ _ (by omega) hpq hq
/-- A merge of a part whose one half is empty is done already. -/
theorem Sorted.cat {d : Nat → P2} {a s m : Nat} (h1 : Sorted d a s) (h2 : Sorted d s m) (h : ¬ (a < s ∧ s < m)) (h3 : a ≤ s) (h4 : s ≤ m) : Sorted d a m := by
  by_cases c : a < s
  · obtain rfl : s = m := by omega
    exact h1
  · obtain rfl : a = s := by omega
    exact h2
theorem Sorted.kept {d e : Nat → P2} {a b x y : Nat} (h : Sorted d a b) (p : Perm x y d e) (hd : b ≤ x ∨ y ≤ a) : Sorted e a b :=
  h.out fun k h1 h2 => p.out (by omega)
/-- BOTH HALVES SORTED, and the left nowhere above the right: all is. -/
theorem halves {d e f : Nat → P2} {a mid b : Nat} (h : ∀ p q, a ≤ p → p < mid → mid ≤ q → q < b → le (d p) (d q)) (p1 : Perm a mid d e) (s1 : Sorted e a mid) (p2 : Perm mid b e f) (s2 : Sorted f mid b) (ha : a ≤ mid) (hb : mid ≤ b) : Perm a b d f ∧ Sorted f a b := by
  refine ⟨(p1.mono (Nat.le_refl _) hb).trans (p2.mono ha (Nat.le_refl _)), fun p q hp hpq hq => ?_⟩
  by_cases c1 : q < mid
  · rw [p2.out (by omega), p2.out (by omega)]; exact s1 _ _ hp hpq c1
  · by_cases c2 : mid ≤ p
    · exact s2 _ _ c2 hpq hq
    · obtain ⟨j, j1, j2, ej⟩ := p2.into (k := q) ⟨by omega, hq⟩
      rw [p2.out (k := p) (by omega), ej, p1.out (k := j) (by omega)]
      obtain ⟨i, i1, i2, ei⟩ := p1.into (k := p) ⟨hp, by omega⟩
      rw [ei]
      exact h _ _ i1 i2 j1 j2
/-- The search of the cut goes one way: what holds at one holds at all behind it. -/
theorem cut_mono {d : Nat → P2} {a m b mid c c' : Nat} (h1 : Sorted d a m) (h2 : Sorted d m b) (hc : c ≤ c') (ha : a ≤ c) (hm : c' < m) (hp : m ≤ mid + m - 1 - c') (hb : mid + m - 1 - c < b) (hx : c' ≤ mid + m - 1) (h : lt (d (mid + m - 1 - c)) (d c)) : lt (d (mid + m - 1 - c')) (d c') := by
  rcases Nat.lt_or_ge c c' with hl | hl
  · have e1 := h1 c c' ha hl hm
    have e2 := h2 (mid + m - 1 - c') (mid + m - 1 - c) hp (by omega) hb
    unfold le lt at *
    omega
  · obtain rfl : c = c' := by omega
    exact h
end Go.Proofs.YthhodadfiipffaaDoor.So

/- The exchange of two parts of a row of spans: its contract. -/
namespace Go.Proofs.YthhodadfiipffaaDoor
open Go.RowKit Go.Lib Go.Sort
set_option linter.unusedVariables false

end Go.Proofs.YthhodadfiipffaaDoor

/- A part of a row of spans is turned: its contract. -/
namespace Go.Proofs.YthhodadfiipffaaDoor
open Go.RowKit Go.Lib Go.Sort
set_option linter.unusedVariables false

end Go.Proofs.YthhodadfiipffaaDoor

/- The merge in place: its contract, where one part is one span. -/
namespace Go.Proofs.YthhodadfiipffaaDoor
open Go.RowKit Go.Lib Go.Sort
set_option linter.unusedVariables false

end Go.Proofs.YthhodadfiipffaaDoor

/- The merge in place: its contract, where the second part is one span. -/
namespace Go.Proofs.YthhodadfiipffaaDoor
open Go.RowKit Go.Lib Go.Sort
set_option linter.unusedVariables false

end Go.Proofs.YthhodadfiipffaaDoor

/- The merge in place: its contract, where the middle is left of the second part. -/
namespace Go.Proofs.YthhodadfiipffaaDoor
open Go.RowKit Go.Lib Go.Sort
set_option linter.unusedVariables false

end Go.Proofs.YthhodadfiipffaaDoor

/- The merge in place: its contract, where the middle is not left of the second part. -/
namespace Go.Proofs.YthhodadfiipffaaDoor
open Go.RowKit Go.Lib Go.Sort
set_option linter.unusedVariables false

end Go.Proofs.YthhodadfiipffaaDoor

/- The merge in place, and the stable sort: their contracts. -/
namespace Go.Proofs.YthhodadfiipffaaDoor
open Go.RowKit Go.Lib Go.Sort
set_option linter.unusedVariables false

/-- In blocks of s, up to p, the row stands in order; behind p, up to n, in blocks of t. -/
def Blocks (d : Nat → Int × Int) (s p t n : Nat) : Prop := (∀ c, s * c + s ≤ p → So.Sorted d (s * c) (s * c + s)) ∧ (∀ c, p ≤ t * c → t * c < n → So.Sorted d (t * c) (min (t * c + t) n))

end Go.Proofs.YthhodadfiipffaaDoor

/- The stable sort of up to 60 spans: its contract. -/
namespace Go.Proofs.YthhodadfiipffaaDoor
open Go.RowKit Go.Lib Go.Sort
set_option linter.unusedVariables false

end Go.Proofs.YthhodadfiipffaaDoor

/- Sorted rows are one and the same; Total; what every law of package span asks first. -/
namespace Go.Proofs.YthhodadfiipffaaDoor
open Go.RowKit Go.Lib Go.Sort
set_option linter.unusedVariables false

namespace So
def lst (n : Nat) (d : Nat → P2) : List P2 := (List.range n).map d
theorem lst_perm {n : Nat} {d e : Nat → P2} (h : Perm 0 n d e) : (lst n e).Perm (lst n d) := by
  obtain ⟨s, t, h1, h2, h3, h4⟩ := h
  have hs : ∀ k, k < n → s k < n := fun k hk => by
    rcases Nat.lt_or_ge (s k) n with h | h
    · exact h
    · have := h3 (s k) (by omega)
      have e2 := h1 (s k)
      rw [this] at e2
      have e1 := h1 k
      rw [e1] at e2
      omega
  have ht : ∀ k, k < n → t k < n := fun k hk => by
    rcases Nat.lt_or_ge (t k) n with h | h
    · exact h
    · have := h3 (t k) (by omega)
      rw [h2] at this
      omega
  have hp : ((List.range n).map s).Perm (List.range n) := by
    refine (List.perm_ext_iff_of_nodup ?_ List.nodup_range).2 fun a => ?_
    · refine List.Pairwise.map _ ?_ (List.nodup_range (n := n))
      intro a b hab e
      exact hab (by rw [← h1 a, ← h1 b, e])
    · simp only [List.mem_map, List.mem_range]
      exact ⟨fun ⟨k, hk, e⟩ => e ▸ hs k hk, fun hk => ⟨t a, ht a hk, h2 a⟩⟩
  have he : lst n e = ((List.range n).map s).map d := by
    unfold lst
    rw [List.map_map]
    apply List.map_congr_left
    intro k _
    exact h4 k
  rw [he]
  exact hp.map d
theorem lst_sorted {n : Nat} {d : Nat → P2} (h : Sorted d 0 n) : (lst n d).Pairwise le := by
  unfold lst
  rw [List.pairwise_map]
  have := List.pairwise_lt_range (n := n)
  refine this.imp_of_mem ?_
  intro a b ha hb hab
  exact h a b (by omega) hab (List.mem_range.1 hb)
theorem sorted_one {n : Nat} {d e f : Nat → P2} (he : Perm 0 n d e) (hf : Perm 0 n d f) (se : Sorted e 0 n) (sf : Sorted f 0 n) : ∀ k, k < n → e k = f k := by
  have hl : lst n e = lst n f := List.Perm.eq_of_pairwise (fun a b _ _ h k => le_antisymm h k) (lst_sorted se) (lst_sorted sf) ((lst_perm he).trans (lst_perm hf).symm)
  intro k hk
  have h1 : (lst n e)[k]? = some (e k) := by simp [lst, hk]
  have h2 : (lst n f)[k]? = some (f k) := by simp [lst, hk]
  rw [hl, h2] at h1
  injection h1 with h1
  exact h1.symm
end So
theorem mTo_ext {d e : Nat → Int × Int} {n : Nat} (h : ∀ k, k < n → d k = e k) : mTo d n = mTo e n := by
  induction n with
  | zero => rfl
  | succ n ih =>
    show mStep _ _ _ = mStep _ _ _
    rw [ih (fun k hk => h k (by omega)), h n (by omega)]

/-- How many places n spans have, as1 the text adds them up. -/
def tTo (o : Nat → Int × Int) : Nat → Int
  | 0 => 0
  | k + 1 => wrap64 (tTo o k + wrap64 ((o k).2 - (o k).1))

def TotalV (B n : Nat) (d : Nat → Int × Int) (w : World) (e : Ending) (w' : World) : Prop :=
  ∃ d', e = .returned (.int .i64 (tTo (mTo d' n).2 (mTo d' n).1)) ∧ So.Perm 0 n d d' ∧ So.Sorted d' 0 n ∧ Below B w w'

/-- The short trial's spans, and those in order. -/
def L0 : Nat → Int × Int := fun k => if k = 0 then (5, 7) else if k = 1 then (1, 3) else (3, 4)
theorem L0_sorted {d' : Nat → Int × Int} (hp : So.Perm 0 3 L0 d') (hs : So.Sorted d' 0 3) : mTo d' 3 = mTo (fun k => if k = 0 then (1, 3) else if k = 1 then (3, 4) else (5, 7)) 3 := by
  have p2 : So.Perm 0 3 L0 (So.swp (So.swp L0 0 1) 1 2) := (So.Perm.swp L0 ⟨by omega, by omega⟩ ⟨by omega, by omega⟩).trans (So.Perm.swp _ ⟨by omega, by omega⟩ ⟨by omega, by omega⟩)
  have q : ∀ k, k < 3 → So.swp (So.swp L0 0 1) 1 2 k = (fun k => if k = 0 then ((1, 3) : Int × Int) else if k = 1 then (3, 4) else (5, 7)) k := by
    intro k hk
    match k, hk with
    | 0, _ => rfl
    | 1, _ => rfl
    | 2, _ => rfl
  have s2 : So.Sorted (So.swp (So.swp L0 0 1) 1 2) 0 3 := by
    intro a b _ h1 h2
    have : (a = 0 ∧ b = 1) ∨ (a = 0 ∧ b = 2) ∨ (a = 1 ∧ b = 2) := by omega
    rcases this with ⟨rfl, rfl⟩ | ⟨rfl, rfl⟩ | ⟨rfl, rfl⟩
    · unfold So.le So.lt; rw [q 0 (by omega), q 1 (by omega)]; simp
    · unfold So.le So.lt; rw [q 0 (by omega), q 2 (by omega)]; simp
    · unfold So.le So.lt; rw [q 1 (by omega), q 2 (by omega)]; simp
  exact mTo_ext fun k hk => (So.sorted_one hp p2 hs s2 k hk).trans (q k hk)

def L1 : Nat → Int × Int := (mTo (fun k => if k = 0 then (1, 3) else if k = 1 then (3, 4) else (5, 7)) 3).2
theorem L1_n : (mTo (fun k => if k = 0 then ((1, 3) : Int × Int) else if k = 1 then (3, 4) else (5, 7)) 3).1 = 2 := by decide
theorem L1_0 : L1 0 = (1, 4) := by decide
theorem L1_1 : L1 1 = (5, 7) := by decide
theorem L1_total {d' : Nat → Int × Int} (hp : So.Perm 0 2 L1 d') (hs : So.Sorted d' 0 2) : tTo (mTo d' 2).2 (mTo d' 2).1 = 5 := by
  have s2 : So.Sorted L1 0 2 := by
    intro a b _ h1 h2
    obtain ⟨rfl, rfl⟩ : a = 0 ∧ b = 1 := by omega
    unfold So.le So.lt; rw [L1_0, L1_1]; simp
  have h : mTo d' 2 = mTo (fun k => if k = 0 then ((1, 4) : Int × Int) else (5, 7)) 2 := mTo_ext fun k hk => (So.sorted_one hp (So.Perm.refl _ _ _) hs s2 k hk).trans (by
    match k, hk with
    | 0, _ => exact L1_0
    | 1, _ => exact L1_1)
  rw [h]
  decide +kernel

def LiveM (B : Nat) (w : World) (e : Ending) (w' : World) : Prop := ∃ g cap, e = .returned (.slice (some ⟨g, 0, none⟩) 2 cap) ∧ RowS w' g 2 cap L1 ∧ Below B w w'

end Go.Proofs.YthhodadfiipffaaDoor

/- The document's order of spans, place by place: its contract. -/
namespace Go.Proofs.YthhodadfiipffaaDoor
open Go.RowKit Go.Lib Go.Sort
set_option linter.unusedVariables false

def ltB (a b : Int × Int) : Bool := decide (a.1 < b.1) || (decide (a.1 = b.1) && decide (a.2 < b.2))
theorem ltB_iff (a b : Int × Int) : ltB a b = true ↔ So.lt a b := by simp [ltB, So.lt]
end Go.Proofs.YthhodadfiipffaaDoor

/- The document's order of spans: its contract. -/
namespace Go.Proofs.YthhodadfiipffaaDoor
open Go.RowKit Go.Lib Go.Sort
set_option linter.unusedVariables false

theorem spCells_congr {n : Nat} {d e : Nat → Int × Int} (h : ∀ q, q < n → d q = e q) : spCells n d = spCells n e := by
  unfold spCells
  rw [List.flatMap_def, List.flatMap_def]
  congr 1
  apply List.map_congr_left
  intro i hi
  rw [h i (List.mem_range.1 hi)]
theorem spCells_add (k j : Nat) (d : Nat → Int × Int) : spCells (k + j) d = spCells k d ++ spCells j (fun q => d (k + q)) := by
  induction j with
  | zero => simp [spCells]
  | succ j ih => rw [← Nat.add_assoc, spCells_succ, ih, spCells_succ, List.append_assoc]
theorem spCells_ins {k i : Nat} (e : Nat → Int × Int) (hk : k ≤ i) : (spCells k e ++ [.int .i64 (e i).1, .int .i64 (e i).2]) ++ spCells (i - k) (fun q => e (k + q)) = spCells (i + 1) (So.rot e k i (i + 1)) := by
  rw [show i + 1 = (k + 1) + (i - k) by omega, spCells_add, spCells_add k 1]
  congr 1
  · congr 1
    · exact spCells_congr fun q hq => by simp only [So.rot]; rw [if_neg (by omega), if_neg (by omega)]
    · have : So.rot e k i (k + 1 + (i - k)) k = e i := by simp only [So.rot]; rw [if_pos (by omega)]; congr 1; omega
      simp [spCells, this]
  · refine spCells_congr fun q hq => ?_
    simp only [So.rot]
    rw [if_neg (by omega), if_pos (by omega)]
    congr 1
    omega

theorem Spans.below {w w' : World} {A : Option Addr} {len cap : Nat} {d : Nat → Int × Int} (h : Spans w A len cap d) (hb : Below w.heap.size w w') : Spans w' A len cap d := by
  refine ⟨h.1, fun hp => ?_⟩
  obtain ⟨b, off, h1, h2, h3⟩ := h.2 hp
  refine ⟨b, off, h1, Nat.lt_of_lt_of_le h2 hb.size, fun i hi => ?_⟩
  have e := hb.block b h2
  obtain ⟨c1, c2⟩ := h3 i hi
  constructor
  · rw [← c1]; simp [World.cell?, e]
  · rw [← c2]; simp [World.cell?, e]
theorem RowS.spans {w : World} {g n cap : Nat} {d : Nat → Int × Int} (h : RowS w g n cap d) (k : Nat) (hk : k ≤ n) (c : Nat) : Spans w (some ⟨g, 0, none⟩) k c d :=
  ⟨fun e => (by cases e), fun _ => ⟨g, 0, rfl, h.lt, fun i hi => by rw [Nat.zero_add]; exact ⟨h.fst (by omega), h.snd (by omega)⟩⟩⟩
theorem RowV.made {w : World} {B n : Nat} {v : Value} {d : Nat → Int × Int} (h : RowV w B v n d) (hn : 0 < n) : ∃ g cap, v = .slice (some ⟨g, 0, none⟩) n cap ∧ B ≤ g ∧ RowS w g n cap d := by
  rcases h with ⟨_, rfl⟩ | h
  · omega
  · exact h
theorem RowS.room {w : World} {g n cap : Nat} {d : Nat → Int × Int} (h : RowS w g n cap d) : n ≤ cap ∧ cap ≤ maxLen := by
  obtain ⟨cur, h1, h2, h3, h4⟩ := h
  exact h2

theorem one_cells (w : World) (p q : Int) (t : TypeId) : ∀ j u, [Value.int .i64 p, Value.int .i64 q][j]? = some u → (w.alloc (.cells #[.int .i64 p, .int .i64 q] t)).cell? ((⟨w.heap.size, 0, none⟩ : Addr).add j) = some u := by
  intro j u hj
  match j, hj with
  | 0, hj => simp at hj; subst hj; exact (Blk.new w t #[.int .i64 p, .int .i64 q]).cell 0
  | 1, hj => simp at hj; subst hj; exact (Blk.new w t #[.int .i64 p, .int .i64 q]).cell 1
theorem one_cell' (p q : Int) : ∀ u ∈ [Value.int .i64 p, Value.int .i64 q], u.oneCell' = true := by
  intro u hu; simp at hu; rcases hu with rfl | rfl <;> rfl
/-- What lies in a row of the call's own, from place k on. -/
theorem row_cells {w : World} {g n cap : Nat} {d : Nat → Int × Int} (h : RowS w g n cap d) (k j off : Nat) (hk : k + j ≤ n) (ho : off = k * 2) : ∀ x u, (spCells j (fun q => d (k + q)))[x]? = some u → w.cell? ((⟨g, off, none⟩ : Addr).add x) = some u := by
  subst ho
  exact spans_cells fun i hi => by
    have h1 := h.fst (show k + i < n by omega)
    have h2 := h.snd (show k + i < n by omega)
    rw [show (k + i) * 2 = k * 2 + i * 2 by omega] at h1 h2
    exact ⟨h1, h2⟩
theorem row_cells0 {w : World} {g n cap : Nat} {d : Nat → Int × Int} (h : RowS w g n cap d) (j : Nat) (hk : j ≤ n) : ∀ x u, (spCells j d)[x]? = some u → w.cell? ((⟨g, 0, none⟩ : Addr).add x) = some u := by
  have := row_cells h 0 j 0 (by omega) (by omega)
  simpa using this
/-- What an append to the call's own spans leaves of another row of its own. -/
theorem app_any {B g n len cap1 m : Nat} {v v1 : Value} {o o1 d' : Nat → Int × Int} {W W' wz : World} (hV : RowV W B v n o) (hR : RowS W g len cap1 d') (hvg : v.ownBlock ≠ some g) (hB : B ≤ W.heap.size) (hW : W.grownBy W' none)
    (hown : wz.ownsRow B 60 2 v1 m (spCells m o1)) (hg : W'.grownBy wz v.ownBlock) {z : Nat} (hz : W.heap.size ≤ z) (hat : v1.ownBlock = v.ownBlock ∨ v1.ownBlock = some z) :
    RowV wz B v1 m o1 ∧ v1.ownBlock ≠ some g ∧ RowS wz g len cap1 d' ∧ Below B W wz := by
  refine ⟨row_of_own hown, ?_, (hR.only hW (by simp)).only hg (fun e => hvg e.symm), (below_of_only hW hB (by simp)).trans (below_of_only hg (Nat.le_trans hB hW.size) (fun k hk => (hV.blk k hk).1))⟩
  rcases hat with h | h
  · rw [h]; exact hvg
  · rw [h]
    intro e
    injection e with e
    have h1 := hR.lt
    omega

/-- The spans l as1 the document puts them in order. -/
def USortedV (B n : Nat) (d : Nat → Int × Int) (w : World) (e : Ending) (w' : World) : Prop :=
  ∃ v d', e = .returned v ∧ RowV w' B v n d' ∧ So.Perm 0 n d d' ∧ So.Sorted d' 0 n ∧ Below B w w'

end Go.Proofs.YthhodadfiipffaaDoor

/- Are two rows of spans the same: the contract of the document's Same. -/
namespace Go.Proofs.YthhodadfiipffaaDoor
open Go.RowKit Go.Lib Go.Sort
set_option linter.unusedVariables false

end Go.Proofs.YthhodadfiipffaaDoor

/- SpanSorts: sorted spans are the same ones, in order: for every spans (of which the first 60 count) the law returns true. No condition. -/
namespace Go.Proofs.YthhodadfiipffaaDoor
open Go.RowKit Go.Lib Go.Sort
set_option linter.unusedVariables false

theorem RowV.spans {w : World} {B n : Nat} {v : Value} {d : Nat → Int × Int} (h : RowV w B v n d) : ∃ A c, v = .slice A n c ∧ Spans w A n c d := by
  rcases h with ⟨rfl, rfl⟩ | ⟨g, c, rfl, _, h⟩
  · exact ⟨none, 0, rfl, fun _ => ⟨rfl, rfl⟩, fun h => absurd h (by omega)⟩
  · exact ⟨_, c, rfl, h.spans n (Nat.le_refl _) c⟩
theorem Spans.cut {w : World} {A : Option Addr} {len cap : Nat} {d : Nat → Int × Int} (h : Spans w A len cap d) (m : Nat) (hm : m ≤ len) : Spans w A m cap d := by
  refine ⟨fun hn => ⟨by have := (h.1 hn).1; omega, (h.1 hn).2⟩, fun hp => ?_⟩
  obtain ⟨b, off, h1, h2, h3⟩ := h.2 (by omega)
  exact ⟨b, off, h1, h2, fun i hi => h3 i (by omega)⟩

end Go.Proofs.YthhodadfiipffaaDoor

/- Meet, Holds, In, and the document's answers for them: their contracts. -/
namespace Go.Proofs.YthhodadfiipffaaDoor
open Go.RowKit Go.Lib Go.Sort
set_option linter.unusedVariables false

def isB (p : Int × Int) : Bool := decide (0 ≤ p.1 ∧ p.1 < p.2)
def holdsB (p : Int × Int) (k : Int) : Bool := decide (0 ≤ p.1 ∧ p.1 ≤ k ∧ k < p.2)
def inB (p : Int × Int) (n : Int) : Bool := decide (0 ≤ p.1 ∧ p.1 < p.2 ∧ p.2 ≤ n)
def meetsB (a b : Int × Int) : Bool := isB a && isB b && (holdsB a b.1 || holdsB b a.1)
def bothOf (a b : Int × Int) : Int × Int := (if a.1 < b.1 then b.1 else a.1, if b.2 < a.2 then b.2 else a.2)
def meetV (a b : Int × Int) : Int × Int := if meetsB a b then bothOf a b else (0, 0)

theorem is_any (p : Int × Int) (w : World) : Calls Tryd.prog 47 #[spv p] w fun e w' => e = .returned (.bool (isB p)) ∧ w.grownBy w' none := by
  by_cases h : 0 ≤ p.1 ∧ p.1 < p.2
  · have e : isB p = true := by simp [isB, h]
    rw [e]; exact is_yes p w h.1 h.2
  · have e : isB p = false := by simp [isB]; omega
    rw [e]; exact is_no p w h

/-- The two boxed spans of a call, in a world behind calls that lay blocks alone. -/
theorem boxes {w w2 : World} {p q : Int × Int} (g : ((w.alloc (.cells #[.int .i64 p.1, .int .i64 p.2] 60)).alloc (.cells #[.int .i64 q.1, .int .i64 q.2] 60)).grownBy w2 none) :
    w2.cell? ⟨w.heap.size, 0, none⟩ = some (.int .i64 p.1) ∧ w2.cell? ⟨w.heap.size, 1, none⟩ = some (.int .i64 p.2) ∧ w2.cell? ⟨w.heap.size + 1, 0, none⟩ = some (.int .i64 q.1) ∧ w2.cell? ⟨w.heap.size + 1, 1, none⟩ = some (.int .i64 q.2) := by
  have h1 := ((Blk.new w 60 #[.int .i64 p.1, .int .i64 p.2]).alloc (.cells #[.int .i64 q.1, .int .i64 q.2] 60)).only g (by simp)
  have h2 := (Blk.new (w.alloc (.cells #[.int .i64 p.1, .int .i64 p.2] 60)) 60 #[.int .i64 q.1, .int .i64 q.2]).only g (by simp)
  refine ⟨h1.cell 0, h1.cell 1, ?_, ?_⟩
  · simpa using h2.cell 0
  · simpa using h2.cell 1

end Go.Proofs.YthhodadfiipffaaDoor

/- Plain facts on what Merge leaves of sorted spans: spans, rising, that do not touch, of the same places; and how many places they have. No program is spoken of here. -/
namespace Go.Proofs.YthhodadfiipffaaDoor
open Go.RowKit Go.Lib Go.Sort
set_option linter.unusedVariables false

/-- Is a place in one of the first k spans? -/
def inN (d : Nat → Int × Int) (at' : Int) : Nat → Bool
  | 0 => false
  | k + 1 => inN d at' k || holdsB (d k) at'
theorem inN_iff (d : Nat → Int × Int) (at' : Int) (n : Nat) : inN d at' n = true ↔ ∃ i, i < n ∧ holdsB (d i) at' = true := by
  induction n with
  | zero => simp [inN]
  | succ n ih =>
    simp only [inN, Bool.or_eq_true, ih]
    constructor
    · rintro (⟨i, h1, h2⟩ | h)
      · exact ⟨i, by omega, h2⟩
      · exact ⟨n, by omega, h⟩
    · rintro ⟨i, h1, h2⟩
      by_cases h : i < n
      · exact .inl ⟨i, h, h2⟩
      · obtain rfl : i = n := by omega
        exact .inr h2
theorem holdsB_iff (p : Int × Int) (x : Int) : holdsB p x = true ↔ 0 ≤ p.1 ∧ p.1 ≤ x ∧ x < p.2 := by simp [holdsB]

/-- What has been merged of the first k of some sorted spans. -/
structure Merging (d : Nat → Int × Int) (k m : Nat) (o : Nat → Int × Int) : Prop where
  are : ∀ i, i < m → isS (o i)
  rise : ∀ i, i + 1 < m → (o i).2 < (o (i + 1)).1
  last : 0 < m → ∃ i, i < k ∧ (o (m - 1)).1 = (d i).1
  same : ∀ x, inN o x m = inN d x k
  ends : ∀ i, i < m → ∃ j, j < k ∧ (o i).2 = (d j).2

theorem inN_same {o p : Nat → Int × Int} {x : Int} {m : Nat} (h : ∀ i, i < m → o i = p i) : inN o x m = inN p x m := by
  induction m with
  | zero => rfl
  | succ m ih => simp only [inN]; rw [ih (fun i hi => h i (by omega)), h m (by omega)]

theorem Merging.step {d : Nat → Int × Int} {n k m : Nat} {o : Nat → Int × Int} (h : Merging d k m o) (hs : So.Sorted d 0 n) (hk : k < n) : Merging d (k + 1) (mStep m o (d k)).1 (mStep m o (d k)).2 := by
  unfold mStep
  by_cases c1 : isS (d k)
  · rw [if_pos c1]
    by_cases c2 : 0 < m ∧ (d k).1 ≤ (o (m - 1)).2
    · rw [if_pos c2]
      obtain ⟨m, rfl⟩ : ∃ j, m = j + 1 := ⟨m - 1, by omega⟩
      simp only [Nat.add_sub_cancel] at c2 ⊢
      obtain ⟨i, hi, ei⟩ := h.last (by omega)
      simp only [Nat.add_sub_cancel] at ei
      have hle : (o m).1 ≤ (d k).1 := by
        have := hs i k (by omega) (by omega) hk
        unfold So.le So.lt at this
        omega
      have ham := h.are m (by omega)
      unfold isS at c1 ham
      refine ⟨fun j hj => ?_, fun j hj => ?_, fun _ => ⟨i, by omega, ?_⟩, fun x => ?_, fun j hj => ?_⟩
      · by_cases e : j = m
        · subst e; simp [So.upd, isS]; omega
        · simp [So.upd, e]; exact h.are j hj
      · by_cases e : j + 1 = m
        · simp [So.upd, e, show ¬ j = m by omega]; have := h.rise j (by omega); rw [e] at this; exact this
        · simp [So.upd, e, show ¬ j = m by omega]; exact h.rise j (by omega)
      · simp [So.upd]; exact ei
      · have h1 := h.same x
        simp only [inN] at h1 ⊢
        rw [← h1, inN_same (o := So.upd o m ((o m).1, max (o m).2 (d k).2)) (p := o) (fun i hi => by simp [So.upd, show ¬ i = m by omega])]
        rw [Bool.or_assoc]
        congr 1
        rw [Bool.eq_iff_iff, Bool.or_eq_true, holdsB_iff, holdsB_iff, holdsB_iff]
        simp [So.upd]
        omega
      · by_cases e : j = m
        · subst e
          simp [So.upd]
          obtain ⟨q, q1, q2⟩ := h.ends j (by omega)
          by_cases c : (o j).2 ≤ (d k).2
          · exact ⟨k, by omega, by omega⟩
          · exact ⟨q, by omega, by omega⟩
        · simp [So.upd, e]
          obtain ⟨q, q1, q2⟩ := h.ends j (by omega)
          exact ⟨q, by omega, q2⟩
    · rw [if_neg c2]
      refine ⟨fun j hj => ?_, fun j hj => ?_, fun _ => ⟨k, by omega, ?_⟩, fun x => ?_, fun j hj => ?_⟩
      · by_cases e : j = m
        · subst e; simp [So.upd]; exact c1
        · simp [So.upd, e]; exact h.are j (by simp at hj; omega)
      · simp at hj
        by_cases e : j + 1 = m
        · subst e
          simp [So.upd]
          simp at c2
          omega
        · simp [So.upd, show ¬ j = m by omega, e]; exact h.rise j (by omega)
      · simp [So.upd]
      · simp only [inN]
        rw [← h.same x, inN_same (o := So.upd o m (d k)) (p := o) (fun i hi => by simp [So.upd, show ¬ i = m by omega])]
        simp [So.upd]
      · by_cases e : j = m
        · subst e; simp [So.upd]; exact ⟨k, by omega, rfl⟩
        · simp [So.upd, e]
          obtain ⟨q, q1, q2⟩ := h.ends j (by simp at hj; omega)
          exact ⟨q, by omega, q2⟩
  · rw [if_neg c1]
    refine ⟨h.are, h.rise, fun hm => ?_, fun x => ?_, fun j hj => ?_⟩
    · obtain ⟨i, hi, e⟩ := h.last hm
      exact ⟨i, by omega, e⟩
    · simp only [inN]
      rw [h.same x]
      have : holdsB (d k) x = false := by
        rw [← Bool.not_eq_true, holdsB_iff]
        unfold isS at c1
        omega
      rw [this, Bool.or_false]
    · obtain ⟨q, q1, q2⟩ := h.ends j hj
      exact ⟨q, by omega, q2⟩
theorem merging {d : Nat → Int × Int} {n : Nat} (hs : So.Sorted d 0 n) (k : Nat) (hk : k ≤ n) : Merging d k (mTo d k).1 (mTo d k).2 := by
  induction k with
  | zero => exact ⟨fun i hi => by simp [mTo] at hi, fun i hi => by simp [mTo] at hi, fun hm => by simp [mTo] at hm, fun x => rfl, fun i hi => by simp [mTo] at hi⟩
  | succ k ih => exact (ih (by omega)).step hs (by omega)

theorem w64_id (x : Int) (h0 : -9223372036854775808 ≤ x) (h1 : x < 9223372036854775808) : wrap64 x = x := by
  unfold wrap64
  omega
/-- How many of the places from 0 up to N are so. -/
def cnt (p : Int → Bool) : Nat → Int
  | 0 => 0
  | N + 1 => cnt p N + (if p N then 1 else 0)
theorem cnt_same {p q : Int → Bool} {N : Nat} (h : ∀ x : Nat, x < N → p x = q x) : cnt p N = cnt q N := by
  induction N with
  | zero => rfl
  | succ N ih => simp only [cnt]; rw [ih (fun x hx => h x (by omega)), h N (by omega)]
theorem cnt_or {p q : Int → Bool} {N : Nat} (h : ∀ x : Nat, x < N → ¬ (p x = true ∧ q x = true)) : cnt (fun x => p x || q x) N = cnt p N + cnt q N := by
  induction N with
  | zero => rfl
  | succ N ih =>
    simp only [cnt]
    rw [ih (fun x hx => h x (by omega))]
    have := h N (by omega)
    by_cases hp : p (N : Int) = true
    · by_cases hq : q (N : Int) = true
      · exact absurd ⟨hp, hq⟩ this
      · simp [hp, hq]; omega
    · by_cases hq : q (N : Int) = true
      · simp [hp, hq]; omega
      · simp [hp, hq]
theorem cnt_span {a b : Int} (h0 : 0 ≤ a) (h1 : a ≤ b) {N : Nat} : cnt (fun x => holdsB (a, b) x) N = min b N - min a N := by
  induction N with
  | zero => simp [cnt]; omega
  | succ N ih =>
    simp only [cnt]
    rw [ih]
    by_cases h : holdsB (a, b) (N : Int) = true
    · rw [if_pos h]
      rw [holdsB_iff] at h
      simp only at h
      omega
    · rw [if_neg h]
      rw [holdsB_iff] at h
      simp only at h
      omega
theorem cnt_le (p : Int → Bool) (N : Nat) : 0 ≤ cnt p N ∧ cnt p N ≤ N := by
  induction N with
  | zero => simp [cnt]
  | succ N ih => simp only [cnt]; split <;> omega
/-- Rising spans: the first ones end ahead of each later one. -/
theorem rise_far {o : Nat → Int × Int} {m : Nat} (h1 : ∀ i, i < m → isS (o i)) (h2 : ∀ i, i + 1 < m → (o i).2 < (o (i + 1)).1) {i j : Nat} (hij : i < j) (hj : j < m) : (o i).2 < (o j).1 := by
  induction j with
  | zero => omega
  | succ j ih =>
    by_cases e : i = j
    · subst e; exact h2 i hj
    · have a := ih (by omega) (by omega)
      have b := h1 j (by omega)
      have c := h2 j hj
      unfold isS at b
      omega
theorem total_cnt {o : Nat → Int × Int} {m : Nat} (h1 : ∀ i, i < m → isS (o i)) (h2 : ∀ i, i + 1 < m → (o i).2 < (o (i + 1)).1) (h3 : ∀ i, i < m → (o i).2 ≤ 300) (k : Nat) (hk : k ≤ m) : tTo o k = cnt (fun x => inN o x k) 300 := by
  induction k with
  | zero =>
    have z : ∀ N, cnt (fun x => inN o x 0) N = 0 := fun N => by
      induction N with
      | zero => rfl
      | succ N ih => simp only [cnt]; rw [ih]; rfl
    rw [z]
    rfl
  | succ k ih =>
    have e := cnt_or (p := fun x => inN o x k) (q := fun x => holdsB (o k) x) (N := 300) (fun x _ => by
      rintro ⟨a, b⟩
      rw [inN_iff] at a
      obtain ⟨i, hi, a⟩ := a
      rw [holdsB_iff] at a b
      have := rise_far h1 h2 hi (by omega)
      omega)
    have s := h1 k (by omega)
    have l := h3 k (by omega)
    unfold isS at s
    have c := cnt_span (a := (o k).1) (b := (o k).2) s.1 (by omega) (N := 300)
    have t := cnt_le (fun x => inN o x (k + 1)) 300
    have e' : cnt (fun x => inN o x (k + 1)) 300 = cnt (fun x => inN o x k) 300 + cnt (fun x => holdsB (o k) x) 300 := e
    show wrap64 (tTo o k + wrap64 ((o k).2 - (o k).1)) = _
    rw [ih (by omega), e']
    have c' : cnt (fun x => holdsB (o k) x) 300 = min (o k).2 300 - min (o k).1 300 := c
    have u := cnt_le (fun x => inN o x k) 300
    rw [c']
    rw [w64_id ((o k).2 - (o k).1) (by omega) (by omega), w64_id _ (by omega) (by omega)]
    omega
end Go.Proofs.YthhodadfiipffaaDoor
