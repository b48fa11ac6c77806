/- Is and Merge: their contracts. -/
import Derived.Test.YtgkegmkedkgkcaaS3
import Derived.Maps.AppendAt
namespace Go.Proofs.Ytgkegmkedkgkcaa
open Go.RowKit Go.Lib Go.Sort
set_option linter.unusedVariables false

theorem is_yes (p : Int × Int) (w : World) (h0 : 0 ≤ p.1) (h1 : p.1 < p.2) : Calls Try.prog 56 #[spv p] w fun e w' => e = .returned (.bool true) ∧ w.grownBy w' none := by
  obtain ⟨a, b⟩ := p
  simp only at h0 h1
  go_enter Try.func56, Try.ntmps56
  go_wp2
  go_ret
  exact ⟨rfl, only_alloc (only_refl _ _) _⟩
theorem is_no (p : Int × Int) (w : World) (h : ¬ (0 ≤ p.1 ∧ p.1 < p.2)) : Calls Try.prog 56 #[spv p] w fun e w' => e = .returned (.bool false) ∧ w.grownBy w' none := by
  obtain ⟨a, b⟩ := p
  simp only at h
  by_cases h0 : 0 ≤ a
  · have h1 : ¬ a < b := fun h' => h ⟨h0, h'⟩
    clear h
    go_enter Try.func56, Try.ntmps56
    go_wp2
    go_ret
    exact ⟨rfl, only_alloc (only_refl _ _) _⟩
  · clear h
    go_enter Try.func56, Try.ntmps56
    go_wp2
    go_ret
    exact ⟨rfl, only_alloc (only_refl _ _) _⟩

/-- Is it a span? -/
def isS (p : Int × Int) : Prop := 0 ≤ p.1 ∧ p.1 < p.2
instance (p : Int × Int) : Decidable (isS p) := inferInstanceAs (Decidable (0 ≤ p.1 ∧ p.1 < p.2))

/-- One more span, in order, put to what is merged: how many there are, and which. -/
def mStep (n : Nat) (o : Nat → Int × Int) (s : Int × Int) : Nat × (Nat → Int × Int) :=
  if isS s then (if 0 < n ∧ s.1 ≤ (o (n - 1)).2 then (n, So.upd o (n - 1) ((o (n - 1)).1, max (o (n - 1)).2 s.2)) else (n + 1, So.upd o n s)) else (n, o)
def mTo (d : Nat → Int × Int) : Nat → Nat × (Nat → Int × Int)
  | 0 => (0, fun _ => (0, 0))
  | k + 1 => mStep (mTo d k).1 (mTo d k).2 (d k)
theorem mStep_le (n : Nat) (o : Nat → Int × Int) (s : Int × Int) : (mStep n o s).1 ≤ n + 1 := by
  unfold mStep; split <;> (try split) <;> simp
theorem mTo_le (d : Nat → Int × Int) (k : Nat) : (mTo d k).1 ≤ k := by
  induction k with
  | zero => simp [mTo]
  | succ k ih => have := mStep_le (mTo d k).1 (mTo d k).2 (d k); show (mStep _ _ _).1 ≤ _; omega

/-- What Merge leaves. -/
def MergedV (B n : Nat) (d : Nat → Int × Int) (w : World) (e : Ending) (w' : World) : Prop :=
  ∃ v d', e = .returned v ∧ RowV w' B v (mTo d' n).1 (mTo d' n).2 ∧ So.Perm 0 n d d' ∧ So.Sorted d' 0 n ∧ Below B w w'

theorem RowV.only {w w' : World} {B n : Nat} {v : Value} {d : Nat → Int × Int} {row : Option Nat} (h : RowV w B v n d) (hb : w.grownBy w' row) (hne : v.ownBlock = none ∨ v.ownBlock ≠ row) : RowV w' B v n d := by
  rcases h with ⟨rfl, rfl⟩ | ⟨g, cap, rfl, hB, hr⟩
  · exact .inl ⟨rfl, rfl⟩
  · exact .inr ⟨g, cap, rfl, hB, hr.only hb (by simpa [Value.ownBlock] using hne.symm)⟩
theorem RowV.form {w : World} {B n : Nat} {v : Value} {d : Nat → Int × Int} (h : RowV w B v n d) : ∃ A c, v = .slice A n c := by
  rcases h with ⟨rfl, rfl⟩ | ⟨g, cap, rfl, _⟩
  · exact ⟨_, _, rfl⟩
  · exact ⟨_, _, rfl⟩
theorem RowV.blk {w : World} {B n : Nat} {v : Value} {d : Nat → Int × Int} (h : RowV w B v n d) : ∀ k, v.ownBlock = some k → B ≤ k ∧ k < w.heap.size := by
  intro k hk
  rcases h with ⟨rfl, rfl⟩ | ⟨g, cap, rfl, hB, hr⟩
  · simp [Value.ownBlock] at hk
  · simp [Value.ownBlock] at hk
    subst hk
    exact ⟨hB, hr.lt⟩

theorem spCells_upd (n : Nat) (o : Nat → Int × Int) (s : Int × Int) : spCells n o ++ [.int .i64 s.1, .int .i64 s.2] = spCells (n + 1) (So.upd o n s) := by
  rw [spCells_succ]
  have h1 : So.upd o n s n = s := by simp [So.upd]
  have h2 : spCells n (So.upd o n s) = spCells n o := by
    unfold spCells
    rw [List.flatMap_def, List.flatMap_def]
    congr 1
    apply List.map_congr_left
    intro i hi
    have : i ≠ n := by have := List.mem_range.1 hi; omega
    simp [So.upd, this]
  rw [h1, h2]

/-- What an append of one span to the call's own spans leaves. -/
theorem app_row {B g n len cap1 : Nat} {v v1 : Value} {o d' : Nat → Int × Int} {s : Int × Int} {W W' wz : World} (hV : RowV W B v n o) (hR : RowS W g len cap1 d') (hvg : v.ownBlock ≠ some g) (hB : B ≤ W.heap.size) (hW : W.grownBy W' none)
    (hown : wz.ownsRow B 36 2 v1 (n + 1) (spCells n o ++ [.int .i64 s.1, .int .i64 s.2])) (hg : W'.grownBy wz v.ownBlock) {z : Nat} (hz : W.heap.size ≤ z) (hat : v1.ownBlock = v.ownBlock ∨ v1.ownBlock = some z) :
    RowV wz B v1 (n + 1) (So.upd o n s) ∧ v1.ownBlock ≠ some g ∧ RowS wz g len cap1 d' ∧ Below B W wz := by
  rw [spCells_upd] at hown
  refine ⟨row_of_own hown, ?_, (hR.only hW (by simp)).only hg (fun e => hvg e.symm), (below_of_only hW hB (by simp)).trans (below_of_only hg (Nat.le_trans hB hW.size) (fun k hk => (hV.blk k hk).1))⟩
  rcases hat with h | h
  · rw [h]; exact hvg
  · rw [h]
    intro e
    injection e with e
    have h1 := hR.lt
    omega

/-- The last of the call's own spans gets another end. -/
theorem put_to {w : World} {B h m co : Nat} {o : Nat → Int × Int} (hR : RowS w h (m + 1) co o) (hB : B ≤ h) {v : Int} (nq : Nat) :
    RowV ((w.drewN (nq + 1)).setCell ⟨h, m * 2 + 1, none⟩ (.int .i64 v)) B (.slice (some ⟨h, 0, none⟩) (m + 1) co) (m + 1) (So.upd o m ((o m).1, v)) ∧ w.grownBy ((w.drewN (nq + 1)).setCell ⟨h, m * 2 + 1, none⟩ (.int .i64 v)) (some h) := by
  refine ⟨.inr ⟨h, co, rfl, hB, ?_⟩, only_put (only_drewN (only_refl _ _) _) _ _⟩
  obtain ⟨cur, h1, h2, h3, h4⟩ := hR
  refine ⟨cur.setIfInBounds (m * 2 + 1) (.int .i64 v), ?_, h2, by simpa using h3, fun k hk => ?_⟩
  · have h1' : (w.drewN (nq + 1)).heap[h]? = some (.cells cur 36 (0, 0)) := h1
    simp only [World.setCell, Array.getElem?_modify, h1']
    simp
  · obtain ⟨e1, e2⟩ := h4 k hk
    have s1 : k * 2 + 1 < cur.size := (Array.getElem?_eq_some_iff.1 e2).1
    by_cases hkm : k = m
    · subst hkm
      have n1 : ¬ k * 2 + 1 = k * 2 := by omega
      simp [Array.getElem?_setIfInBounds, So.upd, s1, n1, e1]
    · have n1 : ¬ m * 2 + 1 = k * 2 := by omega
      have n2 : ¬ m * 2 + 1 = k * 2 + 1 := by omega
      simp [Array.getElem?_setIfInBounds, So.upd, hkm, n1, n2, e1, e2]
      intro h'
      omega

theorem own_none_or (v : Value) : v.ownBlock = none ∨ v.ownBlock ≠ none := by cases hv : v.ownBlock <;> simp

end Go.Proofs.Ytgkegmkedkgkcaa
