/- Spans laid place by place: the contract of the document's Runs. -/
import Derived.Test.YthneljkaieckeaaY1
import Derived.Test.YthneljkaieckeaaM2
import Derived.Maps.AppendAt
namespace Go.Proofs.Ythneljkaieckeaa
open Go.RowKit Go.Lib Go.Sort
set_option linter.unusedVariables false

/-- What an append of one span to the call's own spans leaves. -/
theorem app_own {B n : Nat} {v v1 : Value} {o : Nat → Int × Int} {s : Int × Int} {W W' wz : World} (hV : RowV W B v n o) (hB : B ≤ W.heap.size) (hW : W.grownBy W' none)
    (hown : wz.ownsRow B 59 2 v1 (n + 1) (spCells n o ++ [.int .i64 s.1, .int .i64 s.2])) (hg : W'.grownBy wz v.ownBlock) :
    RowV wz B v1 (n + 1) (So.upd o n s) ∧ Below B W wz := by
  rw [spCells_upd] at hown
  exact ⟨row_of_own hown, (below_of_only hW hB (by simp)).trans (below_of_only hg (Nat.le_trans hB hW.size) (fun k hk => (hV.blk k hk).1))⟩
/-- The last of the call's own spans gets another end. -/
theorem put_end {w : World} {B h m co : Nat} {o : Nat → Int × Int} (hR : RowS w h (m + 1) co o) (hB : B ≤ h) {v : Int} :
    RowV (w.setCell ⟨h, m * 2 + 1, none⟩ (.int .i64 v)) B (.slice (some ⟨h, 0, none⟩) (m + 1) co) (m + 1) (So.upd o m ((o m).1, v)) ∧ w.grownBy (w.setCell ⟨h, m * 2 + 1, none⟩ (.int .i64 v)) (some h) := by
  refine ⟨.inr ⟨h, co, rfl, hB, ?_⟩, only_put (only_refl _ _) _ _⟩
  obtain ⟨cur, h1, h2, h3, h4⟩ := hR
  refine ⟨cur.setIfInBounds (m * 2 + 1) (.int .i64 v), ?_, h2, by simpa using h3, fun k hk => ?_⟩
  · have h1' : w.heap[h]? = some (.cells cur 59 (0, 0)) := h1
    simp only [World.setCell, Array.getElem?_modify, h1']
    simp
  · obtain ⟨e1, e2⟩ := h4 k hk
    have s1 : k * 2 + 1 < cur.size := (Array.getElem?_eq_some_iff.1 e2).1
    by_cases hkm : k = m
    · subst hkm
      have n1 : ¬ k * 2 + 1 = k * 2 := by omega
      simp [Array.getElem?_setIfInBounds, So.upd, s1, n1, e1]
    · have n1 : ¬ m * 2 + 1 = k * 2 := by omega
      have n2 : ¬ m * 2 + 1 = k * 2 + 1 := by omega
      simp [Array.getElem?_setIfInBounds, So.upd, hkm, n1, n2, e1, e2]
      intro h'
      omega
theorem RowV.far {w w' : World} {B n : Nat} {v : Value} {d : Nat → Int × Int} (h : RowV w B v n d) (hb : Below w.heap.size w w') : RowV w' B v n d := h.only (only_far hb) (own_none_or _)

/-- A row of the call's own in which nothing lies yet, though it is not nil. -/
theorem RowV.bare (w : World) (B : Nat) (d : Nat → Int × Int) (hB : B ≤ w.heap.size) : RowV (w.alloc (.cells #[] 59)) B (.slice (some ⟨w.heap.size, 0, none⟩) 0 0) 0 d :=
  .inr ⟨w.heap.size, 0, rfl, hB, ⟨#[], Blk.new w _ _, ⟨by omega, by simp⟩, rfl, fun i hi => by omega⟩⟩

def RunsV (p : Int → Bool) (B N : Nat) (w : World) (e : Ending) (w' : World) : Prop :=
  ∃ v, e = .returned v ∧ RowV w' B v (rTo p N).1 (rTo p N).2 ∧ Below B w w'

end Go.Proofs.Ythneljkaieckeaa
