/- The document's order of spans: its contract. -/
import Derived.Test.YthneljkaieckeaaU1
namespace Go.Proofs.Ythneljkaieckeaa
open Go.RowKit Go.Lib Go.Sort
set_option linter.unusedVariables false

theorem spCells_congr {n : Nat} {d e : Nat → Int × Int} (h : ∀ q, q < n → d q = e q) : spCells n d = spCells n e := by
  unfold spCells
  rw [List.flatMap_def, List.flatMap_def]
  congr 1
  apply List.map_congr_left
  intro i hi
  rw [h i (List.mem_range.1 hi)]
theorem spCells_add (k j : Nat) (d : Nat → Int × Int) : spCells (k + j) d = spCells k d ++ spCells j (fun q => d (k + q)) := by
  induction j with
  | zero => simp [spCells]
  | succ j ih => rw [← Nat.add_assoc, spCells_succ, ih, spCells_succ, List.append_assoc]
theorem spCells_ins {k i : Nat} (e : Nat → Int × Int) (hk : k ≤ i) : (spCells k e ++ [.int .i64 (e i).1, .int .i64 (e i).2]) ++ spCells (i - k) (fun q => e (k + q)) = spCells (i + 1) (So.rot e k i (i + 1)) := by
  rw [show i + 1 = (k + 1) + (i - k) by omega, spCells_add, spCells_add k 1]
  congr 1
  · congr 1
    · exact spCells_congr fun q hq => by simp only [So.rot]; rw [if_neg (by omega), if_neg (by omega)]
    · have : So.rot e k i (k + 1 + (i - k)) k = e i := by simp only [So.rot]; rw [if_pos (by omega)]; congr 1; omega
      simp [spCells, this]
  · refine spCells_congr fun q hq => ?_
    simp only [So.rot]
    rw [if_neg (by omega), if_pos (by omega)]
    congr 1
    omega

theorem Spans.below {w w' : World} {A : Option Addr} {len cap : Nat} {d : Nat → Int × Int} (h : Spans w A len cap d) (hb : Below w.heap.size w w') : Spans w' A len cap d := by
  refine ⟨h.1, fun hp => ?_⟩
  obtain ⟨b, off, h1, h2, h3⟩ := h.2 hp
  refine ⟨b, off, h1, Nat.lt_of_lt_of_le h2 hb.size, fun i hi => ?_⟩
  have e := hb.block b h2
  obtain ⟨c1, c2⟩ := h3 i hi
  constructor
  · rw [← c1]; simp [World.cell?, e]
  · rw [← c2]; simp [World.cell?, e]
theorem RowS.spans {w : World} {g n cap : Nat} {d : Nat → Int × Int} (h : RowS w g n cap d) (k : Nat) (hk : k ≤ n) (c : Nat) : Spans w (some ⟨g, 0, none⟩) k c d :=
  ⟨fun e => (by cases e), fun _ => ⟨g, 0, rfl, h.lt, fun i hi => by rw [Nat.zero_add]; exact ⟨h.fst (by omega), h.snd (by omega)⟩⟩⟩
theorem RowV.made {w : World} {B n : Nat} {v : Value} {d : Nat → Int × Int} (h : RowV w B v n d) (hn : 0 < n) : ∃ g cap, v = .slice (some ⟨g, 0, none⟩) n cap ∧ B ≤ g ∧ RowS w g n cap d := by
  rcases h with ⟨_, rfl⟩ | h
  · omega
  · exact h
theorem RowS.room {w : World} {g n cap : Nat} {d : Nat → Int × Int} (h : RowS w g n cap d) : n ≤ cap ∧ cap ≤ maxLen := by
  obtain ⟨cur, h1, h2, h3, h4⟩ := h
  exact h2

theorem one_cells (w : World) (p q : Int) (t : TypeId) : ∀ j u, [Value.int .i64 p, Value.int .i64 q][j]? = some u → (w.alloc (.cells #[.int .i64 p, .int .i64 q] t)).cell? ((⟨w.heap.size, 0, none⟩ : Addr).add j) = some u := by
  intro j u hj
  match j, hj with
  | 0, hj => simp at hj; subst hj; exact (Blk.new w t #[.int .i64 p, .int .i64 q]).cell 0
  | 1, hj => simp at hj; subst hj; exact (Blk.new w t #[.int .i64 p, .int .i64 q]).cell 1
theorem one_cell' (p q : Int) : ∀ u ∈ [Value.int .i64 p, Value.int .i64 q], u.oneCell' = true := by
  intro u hu; simp at hu; rcases hu with rfl | rfl <;> rfl
/-- What lies in a row of the call's own, from place k on. -/
theorem row_cells {w : World} {g n cap : Nat} {d : Nat → Int × Int} (h : RowS w g n cap d) (k j off : Nat) (hk : k + j ≤ n) (ho : off = k * 2) : ∀ x u, (spCells j (fun q => d (k + q)))[x]? = some u → w.cell? ((⟨g, off, none⟩ : Addr).add x) = some u := by
  subst ho
  exact spans_cells fun i hi => by
    have h1 := h.fst (show k + i < n by omega)
    have h2 := h.snd (show k + i < n by omega)
    rw [show (k + i) * 2 = k * 2 + i * 2 by omega] at h1 h2
    exact ⟨h1, h2⟩
theorem row_cells0 {w : World} {g n cap : Nat} {d : Nat → Int × Int} (h : RowS w g n cap d) (j : Nat) (hk : j ≤ n) : ∀ x u, (spCells j d)[x]? = some u → w.cell? ((⟨g, 0, none⟩ : Addr).add x) = some u := by
  have := row_cells h 0 j 0 (by omega) (by omega)
  simpa using this
/-- What an append to the call's own spans leaves of another row of its own. -/
theorem app_any {B g n len cap1 m : Nat} {v v1 : Value} {o o1 d' : Nat → Int × Int} {W W' wz : World} (hV : RowV W B v n o) (hR : RowS W g len cap1 d') (hvg : v.ownBlock ≠ some g) (hB : B ≤ W.heap.size) (hW : W.grownBy W' none)
    (hown : wz.ownsRow B 59 2 v1 m (spCells m o1)) (hg : W'.grownBy wz v.ownBlock) {z : Nat} (hz : W.heap.size ≤ z) (hat : v1.ownBlock = v.ownBlock ∨ v1.ownBlock = some z) :
    RowV wz B v1 m o1 ∧ v1.ownBlock ≠ some g ∧ RowS wz g len cap1 d' ∧ Below B W wz := by
  refine ⟨row_of_own hown, ?_, (hR.only hW (by simp)).only hg (fun e => hvg e.symm), (below_of_only hW hB (by simp)).trans (below_of_only hg (Nat.le_trans hB hW.size) (fun k hk => (hV.blk k hk).1))⟩
  rcases hat with h | h
  · rw [h]; exact hvg
  · rw [h]
    intro e
    injection e with e
    have h1 := hR.lt
    omega

/-- The spans l as the document puts them in order. -/
def USortedV (B n : Nat) (d : Nat → Int × Int) (w : World) (e : Ending) (w' : World) : Prop :=
  ∃ v d', e = .returned v ∧ RowV w' B v n d' ∧ So.Perm 0 n d d' ∧ So.Sorted d' 0 n ∧ Below B w w'

end Go.Proofs.Ythneljkaieckeaa
