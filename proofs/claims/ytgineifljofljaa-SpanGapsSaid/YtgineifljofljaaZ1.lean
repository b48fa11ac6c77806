/- Plain facts on what lies between rising spans. No program is spoken of here. -/
import Derived.Test.YtgineifljofljaaY2
namespace Go.Proofs.Ytgineifljofljaa
open Go.RowKit Go.Lib Go.Sort
set_option linter.unusedVariables false

/-- One gap put to the others, if it is one. -/
def gAdd (k : Nat) (r : Nat → Int × Int) (g : Int × Int) : Nat × (Nat → Int × Int) := if isB g then (k + 1, So.upd r k g) else (k, r)
/-- Where the first i spans end. -/
def gAt (o : Nat → Int × Int) : Nat → Int
  | 0 => 0
  | i + 1 => (o i).2
/-- The end of a gap ahead of a span, among n places. -/
def gEnd (a n : Int) : Int := if n < a then n else a
def gTo (n : Int) (o : Nat → Int × Int) : Nat → Nat × (Nat → Int × Int)
  | 0 => (0, fun _ => (0, 0))
  | i + 1 => gAdd (gTo n o i).1 (gTo n o i).2 (gAt o i, gEnd (o i).1 n)
/-- All gaps of m spans, among n places. -/
def gAll (n : Int) (o : Nat → Int × Int) (m : Nat) : Nat × (Nat → Int × Int) := gAdd (gTo n o m).1 (gTo n o m).2 (gAt o m, n)
theorem gAdd_le (k : Nat) (r : Nat → Int × Int) (g : Int × Int) : (gAdd k r g).1 ≤ k + 1 := by unfold gAdd; split <;> simp
theorem gTo_le (n : Int) (o : Nat → Int × Int) (i : Nat) : (gTo n o i).1 ≤ i := by
  induction i with
  | zero => simp [gTo]
  | succ i ih => have := gAdd_le (gTo n o i).1 (gTo n o i).2 (gAt o i, gEnd (o i).1 n); show (gAdd _ _ _).1 ≤ _; omega
theorem gAll_le (n : Int) (o : Nat → Int × Int) (m : Nat) : (gAll n o m).1 ≤ m + 1 := by
  have := gTo_le n o m
  have := gAdd_le (gTo n o m).1 (gTo n o m).2 (gAt o m, n)
  show (gAdd _ _ _).1 ≤ _
  omega
/-- Gaps up to place x. -/
structure Gapped (n : Int) (o : Nat → Int × Int) (m k : Nat) (r : Nat → Int × Int) (at' : Int) : Prop where
  up : Rising k r
  ends : ∀ i, i < k → (r i).2 ≤ n
  last : 0 < k → (r (k - 1)).2 < at'
  same : ∀ x, x < at' → inN r x k = (decide (0 ≤ x ∧ x < n) && !inN o x m)
  none : ∀ x, at' ≤ x → inN r x k = false
/-- One gap more: it ends at b, where no span but those ahead of at' hold a place below b. -/
theorem Gapped.add {n : Int} {o : Nat → Int × Int} {m k : Nat} {r : Nat → Int × Int} {at' b : Int} (h : Gapped n o m k r at') (h0 : 0 ≤ at') (hb : b ≤ n) (ho : ∀ x, at' ≤ x → x < b → inN o x m = false) :
    Rising (gAdd k r (at', b)).1 (gAdd k r (at', b)).2 ∧ (∀ i, i < (gAdd k r (at', b)).1 → ((gAdd k r (at', b)).2 i).2 ≤ n) ∧ (∀ c, at' ≤ c → b ≤ c → 0 < (gAdd k r (at', b)).1 → ((gAdd k r (at', b)).2 ((gAdd k r (at', b)).1 - 1)).2 ≤ c) ∧
      (∀ x, x < b → inN (gAdd k r (at', b)).2 x (gAdd k r (at', b)).1 = (decide (0 ≤ x ∧ x < n) && !inN o x m)) ∧ (∀ x, x < at' → inN (gAdd k r (at', b)).2 x (gAdd k r (at', b)).1 = (decide (0 ≤ x ∧ x < n) && !inN o x m)) ∧ (∀ x, at' ≤ x → b ≤ x → inN (gAdd k r (at', b)).2 x (gAdd k r (at', b)).1 = false) := by
  unfold gAdd
  by_cases c1 : isB (at', b) = true
  · rw [if_pos c1]
    have c1' := (isB_iff _).1 c1
    unfold isS at c1'
    simp only at c1'
    have key : ∀ x, inN (So.upd r k (at', b)) x (k + 1) = (inN r x k || decide (at' ≤ x ∧ x < b)) := fun x => by
      simp only [inN]
      rw [inN_same (o := So.upd r k (at', b)) (p := r) (fun i hi => by simp [So.upd, show ¬ i = k by omega])]
      congr 1
      rw [Bool.eq_iff_iff, holdsB_iff, decide_eq_true_eq]
      simp only [So.upd, if_true]
      omega
    refine ⟨⟨fun i hi => ?_, fun i hi => ?_⟩, fun i hi => ?_, fun c hc1 hc2 _ => ?_, fun x hx => ?_, fun x hx => ?_, fun x hx1 hx2 => ?_⟩
    · by_cases e : i = k
      · subst e; simp [So.upd]; exact (isB_iff _).1 c1
      · simp [So.upd, e]; exact h.up.1 i (by simp at hi; omega)
    · simp at hi
      by_cases e : i + 1 = k
      · have hl := h.last (by omega)
        simp [So.upd, e, show ¬ i = k by omega]
        rw [show i = k - 1 by omega]
        omega
      · simp [So.upd, e, show ¬ i = k by omega]; exact h.up.2 i (by omega)
    · by_cases e : i = k
      · subst e; simp [So.upd]; exact hb
      · simp [So.upd, e]; exact h.ends i (by simp at hi; omega)
    · simp [So.upd]; exact hc2
    · rw [key]
      by_cases q : x < at'
      · rw [h.same x q]
        have : decide (at' ≤ x ∧ x < b) = false := by simp; omega
        rw [this, Bool.or_false]
      · rw [h.none x (by omega), ho x (by omega) hx, decide_eq_true (show at' ≤ x ∧ x < b by omega), decide_eq_true (show 0 ≤ x ∧ x < n by omega)]
        rfl
    · rw [key, h.same x hx]
      have : decide (at' ≤ x ∧ x < b) = false := by simp; omega
      rw [this, Bool.or_false]
    · rw [key, h.none x hx1]
      simp
      omega
  · rw [if_neg c1]
    have c1' : ¬ (0 ≤ at' ∧ at' < b) := by
      intro hh
      exact c1 ((isB_iff _).2 hh)
    refine ⟨h.up, h.ends, fun c hc1 hc2 hk => ?_, fun x hx => h.same x (by omega), h.same, fun x hx1 _ => h.none x hx1⟩
    have := h.last hk
    show (r (k - 1)).2 ≤ c
    omega
theorem gapped {n : Int} {o : Nat → Int × Int} {m : Nat} (ho : Rising m o) (i : Nat) (hi : i ≤ m) : 0 ≤ gAt o i ∧ (∀ x, gAt o i ≤ x → i < m → x < (o i).1 → inN o x m = false) ∧ Gapped n o m (gTo n o i).1 (gTo n o i).2 (gAt o i) := by
  have out : ∀ i, i < m → ∀ x, gAt o i ≤ x → x < (o i).1 → inN o x m = false := by
    intro i him x h1 h2
    rw [← Bool.not_eq_true, inN_iff]
    rintro ⟨j, hj, h⟩
    rw [holdsB_iff] at h
    rcases Nat.lt_trichotomy j i with q | q | q
    · obtain ⟨i', rfl⟩ : ∃ i', i = i' + 1 := ⟨i - 1, by omega⟩
      have h1' : (o i').2 ≤ x := h1
      by_cases e : j = i'
      · subst e; omega
      · have := ho.far (show j < i' by omega) (by omega)
        have := ho.1 i' (by omega)
        unfold isS at this
        omega
    · subst q; omega
    · have := ho.far q hj
      have := ho.1 i him
      unfold isS at this
      omega
  induction i with
  | zero =>
    refine ⟨Int.le_refl _, fun x h1 h2 h3 => out 0 h2 x h1 h3, ⟨fun i hi => by simp [gTo] at hi, fun i hi => by simp [gTo] at hi⟩, fun i hi => by simp [gTo] at hi, fun h => by simp [gTo] at h, fun x hx => ?_, fun x _ => rfl⟩
    have hx' : x < 0 := hx
    have : decide (0 ≤ x ∧ x < n) = false := by simp; omega
    rw [this]
    rfl
  | succ i ih =>
    obtain ⟨h0, h1, h2⟩ := ih (by omega)
    have s := ho.1 i (by omega)
    unfold isS at s
    have hge : gEnd (o i).1 n ≤ n ∧ gEnd (o i).1 n ≤ (o i).1 := by unfold gEnd; split <;> omega
    have hlt : gAt o i ≤ (o i).1 := by
      cases i with
      | zero => exact s.1
      | succ i => exact Int.le_of_lt (ho.2 i (by omega))
    obtain ⟨a1, a2, a3, a4, a5, a6⟩ := h2.add h0 hge.1 (fun x q1 q2 => h1 x q1 (by omega) (by omega))
    refine ⟨by show 0 ≤ (o i).2; omega, fun x q1 q2 q3 => out (i + 1) q2 x q1 q3, a1, a2, fun hk => ?_, fun x hx => ?_, fun x hx => ?_⟩
    · have := a3 (o i).1 hlt hge.2 hk
      show _ < (o i).2
      have e : ((gTo n o (i + 1)).2 ((gTo n o (i + 1)).1 - 1)).2 ≤ (o i).1 := this
      omega
    · have hx' : x < (o i).2 := hx
      show inN (gAdd _ _ _).2 x (gAdd _ _ _).1 = _
      by_cases q : x < gAt o i
      · exact a5 x q
      · by_cases q2 : x < gEnd (o i).1 n
        · exact a4 x q2
        · rw [a6 x (by omega) (by omega)]
          by_cases q3 : x < (o i).1
          · have : ¬ x < n := by
              intro hn
              apply q2
              unfold gEnd
              split <;> omega
            have : decide (0 ≤ x ∧ x < n) = false := by simp; omega
            rw [this]
            rfl
          · have : inN o x m = true := (inN_iff _ _ _).2 ⟨i, by omega, by rw [holdsB_iff]; omega⟩
            rw [this]
            simp
    · have hx' : (o i).2 ≤ x := hx
      exact a6 x (by omega) (by omega)
/-- What the gaps of rising spans are: rising, and of just the places among n that no span holds. -/
theorem gaps_are {n : Int} {o : Nat → Int × Int} {m : Nat} (ho : Rising m o) : Rising (gAll n o m).1 (gAll n o m).2 ∧ ∀ x, inN (gAll n o m).2 x (gAll n o m).1 = (decide (0 ≤ x ∧ x < n) && !inN o x m) := by
  obtain ⟨h0, _, h2⟩ := gapped (n := n) ho m (Nat.le_refl _)
  have out : ∀ x, gAt o m ≤ x → inN o x m = false := by
    intro x h1
    rw [← Bool.not_eq_true, inN_iff]
    rintro ⟨j, hj, h⟩
    rw [holdsB_iff] at h
    obtain ⟨m', rfl⟩ : ∃ m', m = m' + 1 := ⟨m - 1, by omega⟩
    have h1' : (o m').2 ≤ x := h1
    by_cases e : j = m'
    · subst e; omega
    · have := ho.far (show j < m' by omega) (by omega)
      have := ho.1 m' (by omega)
      unfold isS at this
      omega
  obtain ⟨a1, a2, a3, a4, a5, a6⟩ := h2.add h0 (Int.le_refl n) (fun x q1 _ => out x q1)
  refine ⟨a1, fun x => ?_⟩
  show inN (gAdd _ _ _).2 x (gAdd _ _ _).1 = _
  by_cases q : x < gAt o m
  · exact a5 x q
  · by_cases q2 : x < n
    · exact a4 x q2
    · rw [a6 x (by omega) (by omega)]
      have : decide (0 ≤ x ∧ x < n) = false := by simp; omega
      rw [this]
      rfl
end Go.Proofs.Ytgineifljofljaa
