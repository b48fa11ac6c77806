/- Plain facts: what follows where nothing is wrong with tables. -/
import Derived.Test.YtgkegmkedkgkcaaOZ
namespace Go.Proofs.Ytgkegmkedkgkcaa
open Go.RowKit Go.Lib Go.Sort
set_option linter.unusedVariables false

theorem ask_from1 {p : Int → Bool} {why : Int} {m : Nat} (h : askL p why 1 m = []) {i : Nat} (hi : i < m) : p ((i : Int) + 1) = false := by
  have := (askL_nil.1 h) i hi
  rw [show (1 : Int) + (i : Int) = (i : Int) + 1 by omega] at this
  exact this
theorem succ_back (i : Nat) : ((i : Int) + 1 - 1).toNat = i := by omega
/-- How many of the first n windows are an owner's. -/
def cntW (c : Cf) (o : Int) : Nat → Int
  | 0 => 0
  | n + 1 => cntW c o n + if (c.wd n).1 = o then 1 else 0
theorem cntW_le (c : Cf) (o : Int) (n : Nat) : 0 ≤ cntW c o n ∧ cntW c o n ≤ n := by
  induction n with
  | zero => simp [cntW]
  | succ n ih =>
    unfold cntW
    split <;> omega
theorem cntW_none {c : Cf} {o : Int} {n : Nat} (h : ∀ i, i < n → (c.wd i).1 ≠ o) : cntW c o n = 0 := by
  induction n with
  | zero => rfl
  | succ n ih =>
    unfold cntW
    rw [ih (fun i hi => h i (by omega)), if_neg (h n (by omega))]
    rfl
theorem cntW_one {c : Cf} {o : Int} {n i : Nat} (hi : i < n) (h : (c.wd i).1 = o) (hu : ∀ j, j < n → j ≠ i → (c.wd j).1 ≠ o) : cntW c o n = 1 := by
  induction n with
  | zero => omega
  | succ n ih =>
    unfold cntW
    by_cases e : i = n
    · subst e
      rw [cntW_none (fun j hj => hu j (by omega) (by omega)), if_pos h]
      rfl
    · rw [ih (by omega) (fun j hj => hu j (by omega)), if_neg (hu n (by omega) (fun x => e x.symm))]
      rfl
/-- What the law asks of tables that are right. -/
structure ApartF (c : Cf) : Prop where
  few : 1 ≤ c.cn ∧ c.cn ≤ 8 ∧ c.wn ≤ 9 ∧ c.sn ≤ 32 ∧ 1 ≤ c.fr ∧ c.fr ≤ 4096
  win : ∀ i, i < c.wn → 0 ≤ (c.wd i).1 ∧ (c.wd i).1 ≤ c.cn ∧ (c.wd i).2.2 ≤ c.fr
  wins : ∀ i, i < c.wn → ∀ j, j < i → meetsB (w3s (c.wd j)) (w3s (c.wd i)) = false
  one : ∀ o : Nat, o ≤ c.cn → cntW c o c.wn = 1
  slots : ∀ i, i < c.sn → ∀ j, j < i → meetsB (w3s (c.sd j)) (w3s (c.sd i)) = false
  good : ∀ i, i < c.cn → 0 ≤ (c.cd i).base ∧ (c.cd i).base ≤ 20000 ∧ 0 ≤ (c.cd i).size ∧ (c.cd i).size ≤ 20000
  mems : ∀ i, i < c.cn → ∀ j, j < i → meetsB ((c.cd j).base, (c.cd j).base + (c.cd j).size) ((c.cd i).base, (c.cd i).base + (c.cd i).size) = false
  quota : ∀ i : Nat, i < c.cn → (c.cd i).quota ≤ unitsV c ((i : Int) + 1)
theorem apart_of (c : Cf) (h : fltL c = []) : ApartF c := by
  obtain ⟨hfr, hgood, hcm, h4, h5, h6, h7, h8, h9, h10⟩ := (right_iff c).1 h
  have hb := frB_iff.1 hfr
  have g4 : ∀ i, i < c.wn → badW c (c.wd i) = false := fun i hi => by
    have := ask_from1 h4 hi
    rw [succ_back] at this
    exact this
  have g5 : ∀ i, i < c.wn → ∀ j, j < i → wM (c.wd i) (c.wd j) = false := fun i hi j hj => by
    have := ask_from1 h5 hi
    rw [succ_back, anyB_no] at this
    exact this j hj
  have g9 : ∀ i, i < c.sn → ∀ j, j < i → sM (c.sd i) (c.sd j) = false := fun i hi j hj => by
    have := ask_from1 h9 hi
    rw [succ_back, anyB_no] at this
    exact this j hj
  refine ⟨by omega, fun i hi => ?_, fun i hi j hj => ?_, fun o ho => ?_, fun i hi j hj => ?_, fun i hi => ?_, fun i hi j hj => ?_, fun i hi => ?_⟩
  · have := badW_no.1 (g4 i hi)
    omega
  · have := g5 i hi j hj
    unfold wM at this
    rw [Bool.or_eq_false_iff] at this
    rw [meetsC_symm]
    exact this.2
  · have := (askL_nil.1 h6) o (by omega)
    rw [show (0 : Int) + (o : Int) = o by omega, decide_eq_false_iff_not] at this
    rcases fstI_cases (fun i => decide ((c.wd i).1 = (o : Int))) c.wn with ⟨i, hi, _, hq, _⟩ | ⟨e, _⟩
    · have hq' := of_decide_eq_true hq
      refine cntW_one hi hq' (fun j hj hne e => ?_)
      by_cases hlt : j < i
      · have := g5 i hi j hlt
        unfold wM at this
        rw [Bool.or_eq_false_iff, decide_eq_false_iff_not] at this
        exact this.1 (hq'.trans e.symm)
      · have := g5 j hj i (by omega)
        unfold wM at this
        rw [Bool.or_eq_false_iff, decide_eq_false_iff_not] at this
        exact this.1 (e.trans hq'.symm)
    · exfalso
      apply this
      show fstI (fun i => decide ((c.wd i).1 = (o : Int))) c.wn < 0
      omega
  · rw [meetsC_symm]
    exact g9 i hi j hj
  · have := good_size (hgood i hi)
    omega
  · have := hcm i hi j hj
    unfold cM at this
    simp only [Bool.or_eq_false_iff] at this
    rw [meetsC_symm]
    exact this.1.2
  · have := ask_from1 h10 hi
    rw [succ_back, decide_eq_false_iff_not] at this
    omega
theorem first_no {d : Nat → Int × Int} {n : Nat} {x y : Int} (h : First d n x y) (k : ∀ i, i < n → ∀ j, j < i → meetsB (d j) (d i) = false) : x = -1 := by
  rcases h with ⟨h, _⟩ | ⟨i, q, _, _, h1, h2, h3, _⟩
  · exact h
  · rw [k q h2 i h1] at h3
    cases h3
/-- The cells of so many spans. -/
def spL (d : Nat → Int × Int) (n : Nat) : List Value := (List.range n).flatMap fun (i : Nat) => [.int .i64 (d i).1, .int .i64 (d i).2]
theorem spL_succ (d : Nat → Int × Int) (n : Nat) : spL d (n + 1) = spL d n ++ [.int .i64 (d n).1, .int .i64 (d n).2] := by
  simp [spL, List.range_succ, List.flatMap_append]
theorem spL_one (d : Nat → Int × Int) (n : Nat) : ∀ u ∈ spL d n, u.oneCell' = true := by
  intro u hu
  simp only [spL, List.mem_flatMap] at hu
  obtain ⟨i, _, h⟩ := hu
  simp at h
  rcases h with rfl | rfl <;> rfl
theorem spL_get {d : Nat → Int × Int} {n i : Nat} (hi : i < n) : (spL d n)[i * 2]? = some (.int .i64 (d i).1) ∧ (spL d n)[i * 2 + 1]? = some (.int .i64 (d i).2) := by
  unfold spL
  refine ⟨?_, ?_⟩
  · have := flat_get (fun (i : Nat) => [Value.int .i64 (d i).1, .int .i64 (d i).2]) 2 (fun i => rfl) n i 0 hi (by omega)
    simpa using this
  · have := flat_get (fun (i : Nat) => [Value.int .i64 (d i).1, .int .i64 (d i).2]) 2 (fun i => rfl) n i 1 hi (by omega)
    simpa using this
theorem spans_rowz {w : World} {A : Option Addr} {n cap : Nat} {d : Nat → Int × Int} (h : RowZ 2 w (.slice A n cap) n (spL d n)) : Spans w A n cap d := by
  rcases h with ⟨hl, ⟨e, h0⟩ | ⟨g, off, cap', e, h1, h2, h3, h4, h5⟩⟩
  · injection e with e1 e2 e3
    exact ⟨fun _ => ⟨h0, e3⟩, fun hp => by omega⟩
  · injection e with e1 e2 e3
    subst e1
    exact ⟨fun x => (by cases x), fun hp => ⟨g, off, rfl, h3, fun i hi => ⟨h5 _ _ (spL_get hi).1, by rw [Nat.add_assoc]; exact h5 _ _ (spL_get hi).2⟩⟩⟩
end Go.Proofs.Ytgkegmkedkgkcaa
