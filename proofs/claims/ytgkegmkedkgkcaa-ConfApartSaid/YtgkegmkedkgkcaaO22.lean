/- Plain facts: tables that are right, and a client that is moved. -/
import Derived.Test.YtgkegmkedkgkcaaO21
namespace Go.Proofs.Ytgkegmkedkgkcaa
open Go.RowKit Go.Lib Go.Sort
set_option linter.unusedVariables false

theorem meetsC_symm (a b : Int × Int) : meetsB a b = meetsB b a := by
  unfold meetsB
  rw [Bool.and_comm (isB a), Bool.or_comm]
/-- What is right with tables, but for the clients' own rows. -/
def RestC (c : Cf) : Prop := fl4 c = [] ∧ fl5 c = [] ∧ fl6 c = [] ∧ fl7 c = [] ∧ fl8 c = [] ∧ fl9 c = [] ∧ fl10 c = []
theorem right_iff (c : Cf) : fltL c = [] ↔ frB c = true ∧ (∀ i, i < c.cn → badC (c.cd i) = false) ∧ (∀ i, i < c.cn → ∀ j, j < i → cM (c.cd i) (c.cd j) = false) ∧ RestC c := by
  unfold fltL
  cases hfr : frB c
  · simp
  · have e2 : fl2 c = [] ↔ ∀ i, i < c.cn → badC (c.cd i) = false := by
      unfold fl2
      rw [askL_nil]
      constructor
      · intro h i hi
        have := h i hi
        rw [show ((1 : Int) + (i : Int) - 1).toNat = i by omega] at this
        exact this
      · intro h i hi
        rw [show ((1 : Int) + (i : Int) - 1).toNat = i by omega]
        exact h i hi
    have e3 : fl3 c = [] ↔ ∀ i, i < c.cn → shB (c.cd i) c.cd i = false := by
      unfold fl3
      rw [askL_nil]
      constructor
      · intro h i hi
        have := h i hi
        rw [show ((1 : Int) + (i : Int) - 1).toNat = i by omega] at this
        exact this
      · intro h i hi
        rw [show ((1 : Int) + (i : Int) - 1).toNat = i by omega]
        exact h i hi
    simp only [if_pos, List.append_eq_nil_iff, e2, e3, and_assoc, true_and, RestC]
    constructor
    · rintro ⟨h2, h3, h⟩
      refine ⟨h2, fun i hi j hj => ?_, h⟩
      have := h3 i hi
      rw [shB_any, anyB_no] at this
      have := this j hj
      rw [h2 i hi, h2 j (by omega)] at this
      simpa using this
    · rintro ⟨h2, h3, h⟩
      refine ⟨h2, fun i hi => ?_, h⟩
      rw [shB_any, anyB_no]
      intro j hj
      rw [h3 i hi j hj, Bool.and_false, Bool.and_false]
/-- Tables with one client moved. -/
def movC (c : Cf) (k : Nat) (b : Int) (A : Option Addr) (cap : Nat) : Cf := { c with cA := A, cc := cap, cd := fun j => if j = k then { c.cd k with base := b } else c.cd j }
theorem mov_at (c : Cf) (k : Nat) (b : Int) (A : Option Addr) (cap : Nat) : (movC c k b A cap).cd k = { c.cd k with base := b } := if_pos rfl
theorem mov_off (c : Cf) {k j : Nat} (b : Int) (A : Option Addr) (cap : Nat) (h : j ≠ k) : (movC c k b A cap).cd j = c.cd j := if_neg h
theorem mov_quota (c : Cf) (k j : Nat) (b : Int) (A : Option Addr) (cap : Nat) : ((movC c k b A cap).cd j).quota = (c.cd j).quota := by
  by_cases h : j = k
  · rw [h, mov_at]
  · rw [mov_off c b A cap h]
theorem mov_units (c : Cf) (k : Nat) (b : Int) (A : Option Addr) (cap : Nat) (o : Int) : unitsV (movC c k b A cap) o = unitsV c o := by
  have h : ∀ n, unZ (movC c k b A cap) o n = unZ c o n := by
    intro n
    induction n with
    | zero => rfl
    | succ n ih =>
      unfold unZ
      rw [ih]
      rfl
  unfold unitsV
  rw [h]
  rfl
theorem mov_rest (c : Cf) (k : Nat) (b : Int) (A : Option Addr) (cap : Nat) : RestC (movC c k b A cap) ↔ RestC c := by
  have e10 : fl10 (movC c k b A cap) = fl10 c := by
    unfold fl10
    congr 1
    funext r
    rw [mov_units, mov_quota]
  unfold RestC
  rw [e10]
  rfl
theorem meets_apart {a n b m : Int} (ha : 0 ≤ a) (hn : 0 < n) (hb : 0 ≤ b) (hm : 0 < m) : meetsB (a, a + n) (b, b + m) = false ↔ a + n ≤ b ∨ b + m ≤ a := by
  unfold meetsB isB holdsB
  simp only [Bool.and_eq_false_iff, Bool.or_eq_false_iff, decide_eq_false_iff_not]
  omega
/-- May the client stand there? -/
def FreeP (c : Cf) (k : Nat) (b : Int) : Prop := 128 ≤ b ∧ b ≤ 16384 - (c.cd k).size ∧ ∀ j, j < c.cn → j = k ∨ (c.cd j).base + (c.cd j).size ≤ b ∨ b + (c.cd k).size ≤ (c.cd j).base
theorem good_size {x : Cl} (h : badC x = false) : 32 ≤ x.size ∧ x.size ≤ 1024 ∧ 128 ≤ x.base ∧ x.base ≤ 16384 - x.size := by
  have := badC_no.1 h
  unfold GoodC at this
  omega
theorem moved_iff (c : Cf) (k : Nat) (b : Int) (A : Option Addr) (cap : Nat) (hk : k < c.cn) (h : fltL c = []) : fltL (movC c k b A cap) = [] ↔ FreeP c k b := by
  obtain ⟨h1, h2, h3, h4⟩ := (right_iff c).1 h
  have hkk := good_size (h2 k hk)
  have hbk : badC { c.cd k with base := b } = false ↔ 128 ≤ b ∧ b ≤ 16384 - (c.cd k).size := by
    have g := badC_no.1 (h2 k hk)
    rw [badC_no]
    unfold GoodC at g ⊢
    simp only
    constructor
    · intro q; exact ⟨q.2.2.1, q.2.2.2.1⟩
    · intro q; exact ⟨g.1, g.2.1, q.1, q.2, g.2.2.2.2⟩
  have hM : ∀ i j, i < c.cn → j < i → cM (c.cd i) (c.cd j) = false ∧ cM (c.cd j) (c.cd i) = false := fun i j hi hj => by
    have := h3 i hi j hj
    refine ⟨this, ?_⟩
    unfold cM at this ⊢
    rw [meetsC_symm _ ((c.cd i).base, _), meetsC_symm _ ((c.cd i).first, _), show decide ((c.cd j).mac = (c.cd i).mac) = decide ((c.cd i).mac = (c.cd j).mac) from decide_eq_decide.2 ⟨Eq.symm, Eq.symm⟩, show decide ((c.cd j).chan = (c.cd i).chan) = decide ((c.cd i).chan = (c.cd j).chan) from decide_eq_decide.2 ⟨Eq.symm, Eq.symm⟩]
    exact this
  have hM2 : ∀ j, j < c.cn → j ≠ k → cM (c.cd k) (c.cd j) = false ∧ cM (c.cd j) (c.cd k) = false := fun j hj hne => by
    by_cases hlt : j < k
    · exact hM k j hk hlt
    · exact (hM j k hj (by omega)).symm
  have hX : ∀ j, j < c.cn → j ≠ k → cM { c.cd k with base := b } (c.cd j) = meetsB (b, b + (c.cd k).size) ((c.cd j).base, (c.cd j).base + (c.cd j).size) := fun j hj hne => by
    have := (hM2 j hj hne).1
    unfold cM at this ⊢
    simp only [Bool.or_eq_false_iff] at this
    obtain ⟨⟨⟨m1, m2⟩, m3⟩, m4⟩ := this
    simp only [m1, m2, m4, Bool.false_or, Bool.or_false]
  have hY : ∀ j, j < c.cn → j ≠ k → cM (c.cd j) { c.cd k with base := b } = meetsB (b, b + (c.cd k).size) ((c.cd j).base, (c.cd j).base + (c.cd j).size) := fun j hj hne => by
    have := (hM2 j hj hne).2
    unfold cM at this ⊢
    simp only [Bool.or_eq_false_iff] at this
    obtain ⟨⟨⟨m1, m2⟩, m3⟩, m4⟩ := this
    simp only [m1, m2, m4, Bool.false_or, Bool.or_false]
    exact meetsC_symm _ _
  rw [right_iff, mov_rest]
  have e1 : frB (movC c k b A cap) = true := h1
  constructor
  · rintro ⟨_, g2, g3, _⟩
    have gk := g2 k hk
    rw [mov_at, hbk] at gk
    refine ⟨gk.1, gk.2, fun j hj => ?_⟩
    by_cases e : j = k
    · exact .inl e
    · right
      have hj2 := good_size (h2 j hj)
      have hz : meetsB (b, b + (c.cd k).size) ((c.cd j).base, (c.cd j).base + (c.cd j).size) = false := by
        by_cases hlt : j < k
        · have := g3 k hk j hlt
          rw [mov_at, mov_off c b A cap e, hX j hj e] at this
          exact this
        · have := g3 j hj k (by omega)
          rw [mov_at, mov_off c b A cap e, hY j hj e] at this
          exact this
      rw [meets_apart (by omega) (by omega) (by omega) (by omega)] at hz
      omega
  · rintro ⟨f1, f2, f3⟩
    have hz : ∀ j, j < c.cn → j ≠ k → meetsB (b, b + (c.cd k).size) ((c.cd j).base, (c.cd j).base + (c.cd j).size) = false := fun j hj e => by
      have hj2 := good_size (h2 j hj)
      rw [meets_apart (by omega) (by omega) (by omega) (by omega)]
      rcases f3 j hj with q | q | q
      · exact absurd q e
      · exact .inr q
      · exact .inl q
    refine ⟨e1, fun i hi => ?_, fun i hi j hj => ?_, h4⟩
    · by_cases e : i = k
      · rw [e, mov_at, hbk]; exact ⟨f1, f2⟩
      · rw [mov_off c b A cap e]; exact h2 i hi
    · have hi' : i < c.cn := hi
      by_cases e : i = k
      · have ej : j ≠ k := by omega
        rw [e, mov_at, mov_off c b A cap ej, hX j (by omega) ej]
        exact hz j (by omega) ej
      · rw [mov_off c b A cap e]
        by_cases ej : j = k
        · rw [ej, mov_at, hY i hi' e]
          exact hz i hi' e
        · rw [mov_off c b A cap ej]
          exact h3 i hi' j hj
end Go.Proofs.Ytgkegmkedkgkcaa
