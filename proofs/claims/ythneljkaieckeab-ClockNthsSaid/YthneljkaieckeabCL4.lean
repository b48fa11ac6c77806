/- Plain facts on the ticks that have one of some offsets: how many there are ahead of one. No program is spoken of here. -/
import Derived.Test.YthneljkaieckeabCL3
namespace Go.Proofs.Ythneljkaieckeab
open Go.RowKit Go.Lib Go.Sort
set_option linter.unusedVariables false

theorem cnt_step (p : Int → Bool) (N : Nat) : cnt p (N + 1) = cnt p N + (if p N then 1 else 0) := rfl
theorem cnt_more {p : Int → Bool} {M N : Nat} (h : M ≤ N) : cnt p M ≤ cnt p N := by
  induction N with
  | zero => obtain rfl : M = 0 := by omega
            exact Int.le_refl _
  | succ N ih =>
    by_cases e : M = N + 1
    · subst e; exact Int.le_refl _
    · have := ih (by omega)
      rw [cnt_step]
      split <;> omega
/-- Where p holds no more, the count stands. -/
theorem cnt_cut {p : Int → Bool} {M N : Nat} (h : M ≤ N) (hp : ∀ x : Int, M ≤ x → p x = false) : cnt p N = cnt p M := by
  induction N with
  | zero => obtain rfl : M = 0 := by omega
            rfl
  | succ N ih =>
    by_cases e : M = N + 1
    · subst e; rfl
    · rw [cnt_step, ih (by omega), hp N (by omega)]
      simp

/-- How many ticks ahead of t have an offset that p holds, E of each frame. -/
def gT (p : Int → Bool) (f E t : Int) : Int := t / f * E + cnt p (t % f).toNat
theorem gT_next {p : Int → Bool} {f E t : Int} (hf : 0 < f) (hE : E = cnt p f.toNat) : gT p f E (t + 1) = gT p f E t + (if p (t % f) then 1 else 0) := by
  obtain ⟨a, b, c⟩ := ticks (t := t) hf
  obtain ⟨r, hr⟩ : ∃ r : Nat, t % f = r := ⟨(t % f).toNat, by omega⟩
  unfold gT
  by_cases h : t % f + 1 < f
  · obtain ⟨e1, e2⟩ := tick_next hf h
    rw [e1, e2, hr, show ((r : Int) + 1).toNat = r + 1 by omega, show (r : Int).toNat = r by omega, cnt_step]
    omega
  · obtain ⟨e1, e2⟩ := tick_turn hf h
    have hfr : f.toNat = r + 1 := by omega
    rw [e1, e2, hr, Int.add_mul, Int.one_mul, show (r : Int).toNat = r by omega]
    have h0 : cnt p (0 : Int).toNat = 0 := rfl
    have hE2 : E = cnt p r + (if p r then 1 else 0) := by rw [hE, hfr, cnt_step]
    rw [h0]
    omega
theorem gT_more {p : Int → Bool} {f E t : Int} (hf : 0 < f) (hE : E = cnt p f.toNat) (k : Nat) : gT p f E t ≤ gT p f E (t + k) := by
  induction k with
  | zero => simp
  | succ k ih =>
    rw [show t + ((k + 1 : Nat) : Int) = (t + k) + 1 by omega, gT_next hf hE]
    split <;> omega
theorem gT_le {p : Int → Bool} {f E t u : Int} (hf : 0 < f) (hE : E = cnt p f.toNat) (h : t ≤ u) : gT p f E t ≤ gT p f E u := by
  have := gT_more (t := t) hf hE (u - t).toNat
  rw [show t + ((u - t).toNat : Int) = u by omega] at this
  exact this
/-- Of the ticks with such an offset one alone has so many ahead of it. -/
theorem gT_one {p : Int → Bool} {f E t u : Int} (hf : 0 < f) (hE : E = cnt p f.toNat) (ht : p (t % f) = true) (hu : p (u % f) = true) (h : gT p f E t = gT p f E u) : t = u := by
  rcases Int.lt_trichotomy t u with q | q | q
  · have h1 := gT_next (t := t) hf hE
    have h2 := gT_le (t := t + 1) (u := u) hf hE (by omega)
    rw [ht] at h1
    simp at h1
    omega
  · exact q
  · have h1 := gT_next (t := u) hf hE
    have h2 := gT_le (t := u + 1) (u := t) hf hE (by omega)
    rw [hu] at h1
    simp at h1
    omega
theorem gT_at {p : Int → Bool} {f E q r : Int} (h0 : 0 ≤ r) (h1 : r < f) : gT p f E (q * f + r) = q * E + cnt p r.toNat := by
  obtain ⟨e1, e2⟩ := tick_one (q := q) h0 h1
  unfold gT
  rw [e1, e2]

/-- How many places from a on lie in the first i spans. -/
def kN (o : Nat → Int × Int) (f a : Int) (i : Nat) : Int := cnt (fun x => inN o x i) f.toNat - cnt (fun x => inN o x i) a.toNat
/-- How many places of one span lie from a on. -/
def widthV (s : Int × Int) (a : Int) : Int := s.2 - (if s.1 < a then a else s.1)
theorem kN_zero (o : Nat → Int × Int) (f a : Int) : kN o f a 0 = 0 := by
  have z : ∀ N, cnt (fun x => inN o x 0) N = 0 := fun N => by
    induction N with
    | zero => rfl
    | succ N ih => rw [cnt_step, ih]; rfl
  unfold kN
  rw [z, z]
  rfl
theorem cnt_in_step {o : Nat → Int × Int} {n i : Nat} (ho : Rising n o) (hi : i < n) (N : Nat) : cnt (fun x => inN o x (i + 1)) N = cnt (fun x => inN o x i) N + (min (o i).2 N - min (o i).1 N) := by
  have e := cnt_or (p := fun x => inN o x i) (q := fun x => holdsB (o i) x) (N := N) (fun x _ => by
    rintro ⟨a, b⟩
    rw [inN_iff] at a
    obtain ⟨j, hj, a⟩ := a
    rw [holdsB_iff] at a b
    have := ho.far hj hi
    omega)
  have s := ho.1 i hi
  unfold isS at s
  have c := cnt_span (a := (o i).1) (b := (o i).2) s.1 (by omega) (N := N)
  have e' : cnt (fun x => inN o x (i + 1)) N = cnt (fun x => inN o x i) N + cnt (fun x => holdsB (o i) x) N := e
  rw [e']
  have c' : cnt (fun x => holdsB (o i) x) N = min (o i).2 N - min (o i).1 N := c
  rw [c']
theorem kN_step {o : Nat → Int × Int} {n i : Nat} {f a : Int} (ho : Rising n o) (he : (o i).2 ≤ f) (hi : i < n) (ha : 0 ≤ a) (haf : a ≤ f) : kN o f a (i + 1) = kN o f a i + (if widthV (o i) a ≤ 0 then 0 else widthV (o i) a) := by
  have s := ho.1 i hi
  unfold isS at s
  unfold kN
  rw [cnt_in_step ho hi, cnt_in_step ho hi]
  have e1 : (f.toNat : Int) = f := by omega
  have e2 : (a.toNat : Int) = a := by omega
  rw [e1, e2]
  unfold widthV
  repeat' split
  all_goals omega
theorem kN_all {o : Nat → Int × Int} {n : Nat} {f a : Int} : kN o f a n = cnt (fun x => inN o x n) f.toNat - cnt (fun x => inN o x n) a.toNat := rfl
/-- The places ahead of the end of a span lie in the spans up to it. -/
theorem cnt_upto {o : Nat → Int × Int} {n i : Nat} (ho : Rising n o) (hi : i < n) (N : Nat) (hN : (N : Int) ≤ (o i).2) : cnt (fun x => inN o x n) N = cnt (fun x => inN o x (i + 1)) N := by
  refine cnt_same fun x hx => ?_
  rw [Bool.eq_iff_iff, inN_iff, inN_iff]
  constructor
  · rintro ⟨j, hj, h⟩
    refine ⟨j, ?_, h⟩
    rw [holdsB_iff] at h
    rcases Nat.lt_or_ge j (i + 1) with q | q
    · exact q
    · have := ho.far (show i < j by omega) hj
      omega
  · rintro ⟨j, hj, h⟩
    exact ⟨j, by omega, h⟩
/-- The place found: so many are ahead of it. -/
theorem found_cnt {o : Nat → Int × Int} {n i : Nat} {f a m : Int} (ho : Rising n o) (he : (o i).2 ≤ f) (hi : i < n) (ha : 0 ≤ a) (hm : 1 ≤ m) (hw : m ≤ widthV (o i) a) :
    inN o ((if (o i).1 < a then a else (o i).1) + m - 1) n = true ∧ (if (o i).1 < a then a else (o i).1) + m - 1 < f ∧ 0 ≤ (if (o i).1 < a then a else (o i).1) + m - 1 ∧
      cnt (fun x => inN o x n) ((if (o i).1 < a then a else (o i).1) + m - 1).toNat = cnt (fun x => inN o x n) a.toNat + kN o f a i + m - 1 := by
  have s := ho.1 i hi
  unfold isS at s
  unfold widthV at hw
  obtain ⟨b, hb⟩ : ∃ b, b = (if (o i).1 < a then a else (o i).1) := ⟨_, rfl⟩
  rw [← hb] at hw ⊢
  have hb1 : a ≤ b ∧ (o i).1 ≤ b ∧ (b = a ∨ b = (o i).1) := by
    rw [hb]; split <;> omega
  refine ⟨(inN_iff _ _ _).2 ⟨i, hi, by rw [holdsB_iff]; omega⟩, by omega, by omega, ?_⟩
  have e2 : ((b + m - 1).toNat : Int) = b + m - 1 := by omega
  have e3 : (a.toNat : Int) = a := by omega
  rw [cnt_upto ho hi _ (by omega), cnt_upto ho hi a.toNat (by omega), cnt_in_step ho hi, cnt_in_step ho hi]
  have hcut : ∀ N : Nat, (o i).1 ≤ N → cnt (fun x => inN o x i) N = cnt (fun x => inN o x i) (o i).1.toNat := fun N hN => cnt_cut (by omega) (fun x hx => by
    rw [← Bool.not_eq_true, inN_iff]
    rintro ⟨j, hj, h⟩
    rw [holdsB_iff] at h
    have := ho.far hj hi
    omega)
  unfold kN
  have e4 : (f.toNat : Int) = f := by omega
  rw [hcut (b + m - 1).toNat (by omega), hcut f.toNat (by omega), e2, e3]
  omega
/-- Spans of no places are none. -/
theorem rising_none {n : Nat} {o : Nat → Int × Int} (h : Rising n o) (hx : ∀ x, inN o x n = false) : n = 0 := by
  rcases Nat.eq_zero_or_pos n with q | q
  · exact q
  · have s := h.1 0 q
    unfold isS at s
    have := (inN_iff o (o 0).1 n).2 ⟨0, q, by rw [holdsB_iff]; omega⟩
    rw [hx] at this
    cases this
end Go.Proofs.Ythneljkaieckeab
