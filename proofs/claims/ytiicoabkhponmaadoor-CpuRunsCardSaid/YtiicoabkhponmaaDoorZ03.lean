import Derived.Test.YtiicoabkhponmaaDoorZ01
import Derived.ProofKit
import Derived.OpenShut
import Derived.ShutString
import Derived.ChangeOld
import Derived.Deep.Slices
import Derived.Deep.Fields
import Derived.Lib.Hide
import Derived.Test.YtiicoabkhponmaaDoorZ02
import Derived.Laws.AppendOwnNone
import Derived.Maps.AppendAt
set_option linter.all false
/- How a slice of structs that came in is opened: each element's fields as1 cells. -/
namespace Go.Proofs.YtiicoabkhponmaaDoor
open Go.RowKit Go.Lib Go.ChangeShapes Go.WideShapes Go.ChangeAt Go.Deep

theorem addr_plain {w : World} {a : Addr} {i : Nat} {v : Value} (h : w.cell? (a.add i) = some v) : a.add i = ⟨a.block, a.off + i, none⟩ := by
  have hs := World.cell?_spot h
  unfold Addr.add at hs ⊢
  split at hs
  · obtain ⟨b, o, s⟩ := a
    simp_all
  · rename_i h0
    rw [if_neg h0]

theorem add_add_plain {a : Addr} (i j : Nat) : (a.add i).add j = a.add (i + j) := by
  unfold Addr.add
  by_cases hi : i = 0 <;> by_cases hj : j = 0 <;> simp [hi, hj, Nat.add_assoc]

section
variable {H : Type} {enc : TypeId × Value → H} {P : Program} {w : World} {base : Nat} {spare : Nat → Bool} {held : Bool}

/-- The cells of a slice of structs, row by row, and what each reads as1. -/
theorem open_structs {t e : TypeId} {fs : Array Field} {fuel : Nat} {A : Option Addr} {len cap : Nat} {x : DataW H × List MemPlace} (ht : P.underlying t = some (.slice e)) (he : P.underlying e = some (.struct fs))
    (hone : oneCellFields P fs = true) (hC : P.cellsOf e = fs.size) (hpos : 0 < fs.size) (h : DataW.trod enc P w base spare held fuel t [.slice A len cap] = some x) :
    len ≤ cap ∧ cap ≤ maxLen ∧ (A = none → len = 0 ∧ cap = 0) ∧ (0 < len → ∃ b off, A = some ⟨b, off, none⟩ ∧ b < w.heap.size ∧
      ∀ i, i < len → ∀ (j : Nat) (f : Field), fs[j]? = some f → ∃ (v : Value) (n : Nat) (y : DataW H × List MemPlace), w.cell? ⟨b, off + (i * fs.size + j), none⟩ = some v ∧ DataW.trod enc P w base spare held n f.type [v] = some y) := by
  rcases open_slice ht h with ⟨hcs, _⟩ | ⟨a, l, c, m, n, D, Pl, hcs, hb, hl, hm, hmm, hx, hi⟩
  · injection hcs with hcs _
    injection hcs with h1 h2 h3
    subst h1 h2 h3
    exact ⟨Nat.le_refl _, by simp [maxLen], fun _ => ⟨rfl, rfl⟩, fun h0 => absurd h0 (by omega)⟩
  · injection hcs with hcs _
    injection hcs with h1 h2 h3
    subst h1 h2 h3
    refine ⟨hl, hm, fun h0 => (by cases h0), fun hpl => ?_⟩
    have hml : len ≤ m := by rw [hmm]; split <;> omega
    have main : ∀ i, i < len → ∀ (j : Nat) (f : Field), fs[j]? = some f → ∃ (v : Value) (n : Nat) (y : DataW H × List MemPlace), w.cell? (a.add (i * fs.size + j)) = some v ∧ DataW.trod enc P w base spare held n f.type [v] = some y := by
      intro i hil j f hj
      obtain ⟨cs', hc, ht'⟩ := hi i (by omega)
      rw [hC] at hc
      obtain ⟨ys, n', hn', hy, hlen, hyl, hf⟩ := DataW.trod_struct he ht'
      obtain ⟨_, hcl, hat⟩ := World.cells?_some hc
      obtain ⟨ho, hk⟩ := hone_of hone j f hj
      have hjl : j < fs.size := (Array.getElem?_eq_some_iff.1 hj).1
      have hcell := hat j hjl
      have hv : cs'[j]? = some (cs'[j]'(by omega)) := List.getElem?_eq_getElem (by omega)
      have h1 := hf j f hj
      rw [ho, hk] at h1
      have hd : (cs'.drop j).take 1 = [cs'[j]'(by omega)] := by
        rw [List.drop_eq_getElem_cons (by omega)]
        rfl
      rw [hd] at h1
      have hys : ys[j]? = some (ys[j]'(by omega)) := List.getElem?_eq_getElem (by omega)
      refine ⟨_, n', _, ?_, h1.trans hys⟩
      rw [← add_add_plain, hcell, hv]
    obtain ⟨f0, hf0⟩ : ∃ f, fs[0]? = some f := ⟨_, Array.getElem?_eq_getElem hpos⟩
    obtain ⟨v0, _, _, hc0, _⟩ := main 0 hpl 0 f0 hf0
    have hsp : a.spot = none := by
      have := World.cell?_spot hc0
      simpa [Addr.add] using this
    obtain ⟨b, off, sp⟩ := a
    simp only at hsp
    subst hsp
    have hbl : b < w.heap.size := by
      rcases Nat.lt_or_ge b w.heap.size with hlt | hge
      · exact hlt
      · have hp := addr_plain hc0
        rw [hp] at hc0
        simp [World.cell?, Array.getElem?_eq_none hge] at hc0
    refine ⟨b, off, rfl, hbl, fun i hil j f hj => ?_⟩
    obtain ⟨v, n2, y, hc2, hy2⟩ := main i hil j f hj
    have hp := addr_plain hc2
    rw [hp] at hc2
    exact ⟨v, n2, y, hc2, hy2⟩
end
end Go.Proofs.YtiicoabkhponmaaDoor

/- Sorted: its contract, for rows of fewer than 20 spans. -/
namespace Go.Proofs.YtiicoabkhponmaaDoor
open Go.RowKit Go.Lib Go.Sort
set_option linter.unusedVariables false

/-- Spans that came in, or were made: nil, or a row of cells. -/
def Spans (w : World) (A : Option Addr) (len cap : Nat) (d : Nat → Int × Int) : Prop :=
  (A = none → len = 0 ∧ cap = 0) ∧ (0 < len → ∃ b off, A = some ⟨b, off, none⟩ ∧ b < w.heap.size ∧ ∀ i, i < len → w.cell? ⟨b, off + i * 2, none⟩ = some (.int .i64 (d i).1) ∧ w.cell? ⟨b, off + i * 2 + 1, none⟩ = some (.int .i64 (d i).2))

/-- The cells of n spans. -/
def spCells (n : Nat) (d : Nat → Int × Int) : List Value := (List.range n).flatMap fun i => [.int .i64 (d i).1, .int .i64 (d i).2]
theorem spCells_succ (n : Nat) (d : Nat → Int × Int) : spCells (n + 1) d = spCells n d ++ [.int .i64 (d n).1, .int .i64 (d n).2] := by
  simp [spCells, List.range_succ]
theorem spCells_len (n : Nat) (d : Nat → Int × Int) : (spCells n d).length = n * 2 := by
  induction n with
  | zero => rfl
  | succ n ih => rw [spCells_succ, List.length_append, ih]; simp; omega
theorem spCells_get {n : Nat} {d : Nat → Int × Int} {i : Nat} (hi : i < n) : (spCells n d)[i * 2]? = some (.int .i64 (d i).1) ∧ (spCells n d)[i * 2 + 1]? = some (.int .i64 (d i).2) := by
  induction n with
  | zero => omega
  | succ n ih =>
    rw [spCells_succ]
    by_cases h : i < n
    · obtain ⟨h1, h2⟩ := ih h
      rw [List.getElem?_append_left (by rw [spCells_len]; omega), List.getElem?_append_left (by rw [spCells_len]; omega)]
      exact ⟨h1, h2⟩
    · obtain rfl : i = n := by omega
      rw [List.getElem?_append_right (by rw [spCells_len]; omega), List.getElem?_append_right (by rw [spCells_len]; omega), spCells_len]
      have e1 : i * 2 - i * 2 = 0 := by omega
      have e2 : i * 2 + 1 - i * 2 = 1 := by omega
      rw [e1, e2]
      exact ⟨rfl, rfl⟩
theorem spCells_cell (n : Nat) (d : Nat → Int × Int) : ∀ u ∈ spCells n d, u.oneCell' = true := by
  intro u hu
  simp only [spCells, List.mem_flatMap] at hu
  obtain ⟨i, _, hi⟩ := hu
  simp at hi
  rcases hi with rfl | rfl <;> rfl

/-- A value is a row of spans in a block from B on, or nil. -/
def RowV (w : World) (B : Nat) (v : Value) (n : Nat) (d : Nat → Int × Int) : Prop :=
  (v = .slice none 0 0 ∧ n = 0) ∨ ∃ g cap, v = .slice (some ⟨g, 0, none⟩) n cap ∧ B ≤ g ∧ RowS w g n cap d

theorem own_of_row {w : World} {B : Nat} {v : Value} {n : Nat} {d : Nat → Int × Int} (h : RowV w B v n d) : w.ownsRow B 49 2 v n (spCells n d) := by
  refine ⟨spCells_len n d, ?_⟩
  rcases h with ⟨rfl, rfl⟩ | ⟨g, cap, rfl, hB, cur, h1, ⟨h2, h3⟩, h4, h5⟩
  · exact .inl ⟨rfl, rfl⟩
  · refine .inr ⟨g, cap, cur, rfl, hB, h1, h2, h3, h4, ?_⟩
    apply List.ext_getElem?
    intro k
    by_cases hk : k < n * 2
    · rw [List.getElem?_take_of_lt hk]
      obtain ⟨i, hi⟩ : ∃ i, k = i * 2 ∨ k = i * 2 + 1 := ⟨k / 2, by omega⟩
      have hin : i < n := by omega
      obtain ⟨e1, e2⟩ := h5 i hin
      obtain ⟨s1, s2⟩ := spCells_get (d := d) hin
      rcases hi with rfl | rfl
      · rw [s1, ← e1]; simp
      · rw [s2, ← e2]; simp
    · rw [List.getElem?_eq_none (by simp; omega), List.getElem?_eq_none (by rw [spCells_len]; omega)]
theorem row_of_own {w : World} {B : Nat} {v : Value} {n : Nat} {d : Nat → Int × Int} (h : w.ownsRow B 49 2 v n (spCells n d)) : RowV w B v n d := by
  rcases h.2 with ⟨rfl, rfl⟩ | ⟨g, cap, cur, rfl, hB, h1, h2, h3, h4, h5⟩
  · exact .inl ⟨rfl, rfl⟩
  · refine .inr ⟨g, cap, rfl, hB, cur, h1, ⟨h2, h3⟩, h4, fun i hi => ?_⟩
    obtain ⟨s1, s2⟩ := spCells_get (d := d) hi
    rw [← h5] at s1 s2
    rw [List.getElem?_take_of_lt (by omega)] at s1 s2
    exact ⟨by simpa using s1, by simpa using s2⟩

theorem span_info : (Tryd.prog.info? 49).map (fun i => (i.zero, i.size, i.bytes)) = some (some (.agg #[.int .i64 0, .int .i64 0]), 2, 16) := by kernel_rfl

/-- Spans in order: a row of the call's own, in which the spans d stand sorted. -/
def SortedV (B n : Nat) (d : Nat → Int × Int) (w : World) (e : Ending) (w' : World) : Prop :=
  ∃ v d', e = .returned v ∧ RowV w' B v n d' ∧ So.Perm 0 n d d' ∧ So.Sorted d' 0 n ∧ Below B w w'

theorem spans_cells {w : World} {b off len : Nat} {d : Nat → Int × Int} (h : ∀ i, i < len → w.cell? ⟨b, off + i * 2, none⟩ = some (.int .i64 (d i).1) ∧ w.cell? ⟨b, off + i * 2 + 1, none⟩ = some (.int .i64 (d i).2)) :
    ∀ j u, (spCells len d)[j]? = some u → w.cell? ((⟨b, off, none⟩ : Addr).add j) = some u := by
  intro j u hj
  have hl : j < len * 2 := by
    rcases Nat.lt_or_ge j (len * 2) with h' | h'
    · exact h'
    · rw [List.getElem?_eq_none (by rw [spCells_len]; exact h')] at hj; cases hj
  obtain ⟨i, hi⟩ : ∃ i, j = i * 2 ∨ j = i * 2 + 1 := ⟨j / 2, by omega⟩
  have hin : i < len := by omega
  obtain ⟨e1, e2⟩ := h i hin
  obtain ⟨s1, s2⟩ := spCells_get (d := d) hin
  have ha : (⟨b, off, none⟩ : Addr).add j = ⟨b, off + j, none⟩ := by unfold Addr.add; split <;> simp_all
  rw [ha]
  rcases hi with rfl | rfl
  · rw [s1] at hj; rw [e1]; exact hj
  · rw [s2] at hj; rw [← Nat.add_assoc, e2]; exact hj

end Go.Proofs.YtiicoabkhponmaaDoor

/- Is and Merge: their contracts. -/
namespace Go.Proofs.YtiicoabkhponmaaDoor
open Go.RowKit Go.Lib Go.Sort
set_option linter.unusedVariables false

theorem is_yes (p : Int × Int) (w : World) (h0 : 0 ≤ p.1) (h1 : p.1 < p.2) : Calls Tryd.prog 51 #[spv p] w fun e w' => e = .returned (.bool true) ∧ w.grownBy w' none := by
  obtain ⟨a, b⟩ := p
  simp only at h0 h1
  go_enter Tryd.func51, Tryd.ntmps51
  go_wp2
  go_ret
  exact ⟨rfl, only_alloc (only_refl _ _) _⟩
theorem is_no (p : Int × Int) (w : World) (h : ¬ (0 ≤ p.1 ∧ p.1 < p.2)) : Calls Tryd.prog 51 #[spv p] w fun e w' => e = .returned (.bool false) ∧ w.grownBy w' none := by
  obtain ⟨a, b⟩ := p
  simp only at h
  by_cases h0 : 0 ≤ a
  · have h1 : ¬ a < b := fun h' => h ⟨h0, h'⟩
    clear h
    go_enter Tryd.func51, Tryd.ntmps51
    go_wp2
    go_ret
    exact ⟨rfl, only_alloc (only_refl _ _) _⟩
  · clear h
    go_enter Tryd.func51, Tryd.ntmps51
    go_wp2
    go_ret
    exact ⟨rfl, only_alloc (only_refl _ _) _⟩

/-- Is it a span? -/
def isS (p : Int × Int) : Prop := 0 ≤ p.1 ∧ p.1 < p.2
instance (p : Int × Int) : Decidable (isS p) := inferInstanceAs (Decidable (0 ≤ p.1 ∧ p.1 < p.2))

/-- One more span, in order, put to what is merged: how many there are, and which. -/
def mStep (n : Nat) (o : Nat → Int × Int) (s : Int × Int) : Nat × (Nat → Int × Int) :=
  if isS s then (if 0 < n ∧ s.1 ≤ (o (n - 1)).2 then (n, So.upd o (n - 1) ((o (n - 1)).1, max (o (n - 1)).2 s.2)) else (n + 1, So.upd o n s)) else (n, o)
def mTo (d : Nat → Int × Int) : Nat → Nat × (Nat → Int × Int)
  | 0 => (0, fun _ => (0, 0))
  | k + 1 => mStep (mTo d k).1 (mTo d k).2 (d k)
theorem mStep_le (n : Nat) (o : Nat → Int × Int) (s : Int × Int) : (mStep n o s).1 ≤ n + 1 := by
  unfold mStep; split <;> (try split) <;> simp
theorem mTo_le (d : Nat → Int × Int) (k : Nat) : (mTo d k).1 ≤ k := by
  induction k with
  | zero => simp [mTo]
  | succ k ih => have := mStep_le (mTo d k).1 (mTo d k).2 (d k); show (mStep _ _ _).1 ≤ _; omega

/-- What Merge leaves. -/
def MergedV (B n : Nat) (d : Nat → Int × Int) (w : World) (e : Ending) (w' : World) : Prop :=
  ∃ v d', e = .returned v ∧ RowV w' B v (mTo d' n).1 (mTo d' n).2 ∧ So.Perm 0 n d d' ∧ So.Sorted d' 0 n ∧ Below B w w'

theorem RowV.only {w w' : World} {B n : Nat} {v : Value} {d : Nat → Int × Int} {row : Option Nat} (h : RowV w B v n d) (hb : w.grownBy w' row) (hne : v.ownBlock = none ∨ v.ownBlock ≠ row) : RowV w' B v n d := by
  rcases h with ⟨rfl, rfl⟩ | ⟨g, cap, rfl, hB, hr⟩
  · exact .inl ⟨rfl, rfl⟩
  · exact .inr ⟨g, cap, rfl, hB, hr.only hb (by simpa [Value.ownBlock] using hne.symm)⟩
theorem RowV.form {w : World} {B n : Nat} {v : Value} {d : Nat → Int × Int} (h : RowV w B v n d) : ∃ A c, v = .slice A n c := by
  rcases h with ⟨rfl, rfl⟩ | ⟨g, cap, rfl, _⟩
  · exact ⟨_, _, rfl⟩
  · exact ⟨_, _, rfl⟩
theorem RowV.blk {w : World} {B n : Nat} {v : Value} {d : Nat → Int × Int} (h : RowV w B v n d) : ∀ k, v.ownBlock = some k → B ≤ k ∧ k < w.heap.size := by
  intro k hk
  rcases h with ⟨rfl, rfl⟩ | ⟨g, cap, rfl, hB, hr⟩
  · simp [Value.ownBlock] at hk
  · simp [Value.ownBlock] at hk
    subst hk
    exact ⟨hB, hr.lt⟩

theorem spCells_upd (n : Nat) (o : Nat → Int × Int) (s : Int × Int) : spCells n o ++ [.int .i64 s.1, .int .i64 s.2] = spCells (n + 1) (So.upd o n s) := by
  rw [spCells_succ]
  have h1 : So.upd o n s n = s := by simp [So.upd]
  have h2 : spCells n (So.upd o n s) = spCells n o := by
    unfold spCells
    rw [List.flatMap_def, List.flatMap_def]
    congr 1
    apply List.map_congr_left
    intro i hi
    have : i ≠ n := by have := List.mem_range.1 hi; omega
    simp [So.upd, this]
  rw [h1, h2]

/-- What an append of one span to the call's own spans leaves. -/
theorem app_row {B g n len cap1 : Nat} {v v1 : Value} {o d' : Nat → Int × Int} {s : Int × Int} {W W' wz : World} (hV : RowV W B v n o) (hR : RowS W g len cap1 d') (hvg : v.ownBlock ≠ some g) (hB : B ≤ W.heap.size) (hW : W.grownBy W' none)
    (hown : wz.ownsRow B 49 2 v1 (n + 1) (spCells n o ++ [.int .i64 s.1, .int .i64 s.2])) (hg : W'.grownBy wz v.ownBlock) {z : Nat} (hz : W.heap.size ≤ z) (hat : v1.ownBlock = v.ownBlock ∨ v1.ownBlock = some z) :
    RowV wz B v1 (n + 1) (So.upd o n s) ∧ v1.ownBlock ≠ some g ∧ RowS wz g len cap1 d' ∧ Below B W wz := by
  rw [spCells_upd] at hown
  refine ⟨row_of_own hown, ?_, (hR.only hW (by simp)).only hg (fun e => hvg e.symm), (below_of_only hW hB (by simp)).trans (below_of_only hg (Nat.le_trans hB hW.size) (fun k hk => (hV.blk k hk).1))⟩
  rcases hat with h | h
  · rw [h]; exact hvg
  · rw [h]
    intro e
    injection e with e
    have h1 := hR.lt
    omega

/-- The last of the call's own spans gets another end. -/
theorem put_to {w : World} {B h m co : Nat} {o : Nat → Int × Int} (hR : RowS w h (m + 1) co o) (hB : B ≤ h) {v : Int} (nq : Nat) :
    RowV ((w.drewN (nq + 1)).setCell ⟨h, m * 2 + 1, none⟩ (.int .i64 v)) B (.slice (some ⟨h, 0, none⟩) (m + 1) co) (m + 1) (So.upd o m ((o m).1, v)) ∧ w.grownBy ((w.drewN (nq + 1)).setCell ⟨h, m * 2 + 1, none⟩ (.int .i64 v)) (some h) := by
  refine ⟨.inr ⟨h, co, rfl, hB, ?_⟩, only_put (only_drewN (only_refl _ _) _) _ _⟩
  obtain ⟨cur, h1, h2, h3, h4⟩ := hR
  refine ⟨cur.setIfInBounds (m * 2 + 1) (.int .i64 v), ?_, h2, by simpa using h3, fun k hk => ?_⟩
  · have h1' : (w.drewN (nq + 1)).heap[h]? = some (.cells cur 49 (0, 0)) := h1
    simp only [World.setCell, Array.getElem?_modify, h1']
    simp
  · obtain ⟨e1, e2⟩ := h4 k hk
    have s1 : k * 2 + 1 < cur.size := (Array.getElem?_eq_some_iff.1 e2).1
    by_cases hkm : k = m
    · subst hkm
      have n1 : ¬ k * 2 + 1 = k * 2 := by omega
      simp [Array.getElem?_setIfInBounds, So.upd, s1, n1, e1]
    · have n1 : ¬ m * 2 + 1 = k * 2 := by omega
      have n2 : ¬ m * 2 + 1 = k * 2 + 1 := by omega
      simp [Array.getElem?_setIfInBounds, So.upd, hkm, n1, n2, e1, e2]
      intro h'
      omega

theorem own_none_or (v : Value) : v.ownBlock = none ∨ v.ownBlock ≠ none := by cases hv : v.ownBlock <;> simp

end Go.Proofs.YtiicoabkhponmaaDoor

/- The memory of package mem: two bytes written, texts read; what every law of it asks first. -/
namespace Go.Proofs.YtiicoabkhponmaaDoor
open Go.RowKit Go.Lib Go.Sort
set_option linter.unusedVariables false

theorem mput_bytes (n : Int) : (Bt.put n).data.toList = [UInt8.ofNat (n % 256).toNat, UInt8.ofNat (n / 256 % 256).toNat] := rfl
theorem put_size (n : Int) : (Bt.put n).size = 2 := rfl

theorem set2_any (w : World) (B m g : Nat) (l : List UInt8) (at' n : Int) (h : MemG w B m g l) (hl : l.length ≤ 16384) :
    Calls Tryd.prog 61 #[.pointer (some ⟨m, 0, none⟩), .int .i64 at', .int .i64 n] w fun r w' =>
      r = .returned (.int .i64 (chk l.length at' 2)) ∧ MemG w' B m g (if chk l.length at' 2 = 0 then over l at'.toNat [UInt8.ofNat (n % 256).toNat, UInt8.ofNat (n / 256 % 256).toNat] else l) ∧ w.grownBy w' (some g) := by
  have h1 : MemG (w.alloc (.cells #[.int .u8 (n % 256), .int .u8 (n / 256 % 256)] 5)) B m g l := h.below ((Below.refl _ _).alloc (Nat.le_refl _) _)
  have hp := mput_any _ B m g l at' (Bt.put n) h1 hl (by rw [put_size]; omega)
  rw [put_size, mput_bytes] at hp
  simp only [show ((2 : Nat) : Int) = 2 from rfl] at hp
  obtain ⟨L2, hL2⟩ : ∃ L2, L2 = (if chk l.length at' 2 = 0 then over l at'.toNat [UInt8.ofNat (n % 256).toNat, UInt8.ofNat (n / 256 % 256).toNat] else l) := ⟨_, rfl⟩
  rw [← hL2] at hp ⊢
  obtain ⟨x, hx⟩ : ∃ x, x = chk l.length at' 2 := ⟨_, rfl⟩
  rw [← hx] at hp ⊢
  have HP := Lib.hid hp
  clear hp h1 h hL2 hx
  go_enter Tryd.func61, Tryd.ntmps61
  go_wp2_with (first | (go_at_call 68; refine (put_any _ _).mono ?_; rintro e w1 ⟨rfl, rfl⟩) | (go_at_call 20; refine HP.out.mono ?_; rintro e w2 ⟨rfl, hm2, b2⟩))
  go_ret
  exact ⟨rfl, hm2, only_trans (only_alloc (only_refl _ _) _) b2⟩

set_option maxHeartbeats 1600000 in
theorem mtext_any (w : World) (B m : Nat) (l : List UInt8) (at' n : Int) (h : MemV w B m l) (hl : l.length ≤ 16384) :
    Calls Tryd.prog 34 #[.pointer (some ⟨m, 0, none⟩), .int .i64 at', .int .i64 n] w fun r w' =>
      r = .returned (.tuple #[.string (if chk l.length at' n = 0 then ⟨((l.drop at'.toNat).take n.toNat).toArray⟩ else .empty), .int .i64 (chk l.length at' n)]) ∧ w = w' := by
  obtain ⟨g, hg, hm, hb, hr⟩ := h
  have c0 : w.cell? ⟨m, 0, none⟩ = some (.slice (some ⟨g, 0, none⟩) l.length l.length) := hb.cell 0
  have hck := check_any w m _ _ _ at' n c0 hl
  by_cases hz : chk l.length at' n = 0
  · have hk := chk_ok hz
    obtain ⟨k, rfl⟩ : ∃ k : Nat, at' = k := ⟨at'.toNat, by omega⟩
    obtain ⟨j, rfl⟩ : ∃ j : Nat, n = j := ⟨n.toNat, by omega⟩
    rw [hz, if_pos rfl]
    rw [hz] at hck
    have HCK := Lib.hid hck
    have i1 : (k : Int) + (j : Int) ≤ (l.length : Int) := by omega
    have e1 : (k : Int).toNat = k := by omega
    have e2 : (j : Int).toNat = j := by omega
    rw [e1, e2]
    have hone : k < l.length → (convert 81 9 (.slice (some ⟨g, k, none⟩) j (l.length - k))).run Tryd.prog w = .ok (.string ⟨((l.drop k).take j).toArray⟩) w := fun hkl => by
      have hlen : ((l.drop k).take j).length = j := by simp; omega
      have := run_convert_bytes_back (P := Tryd.prog) w 81 9 5 ⟨g, k, none⟩ (l.length - k) ((l.drop k).take j) Tryd.underlying81 Tryd.underlying5 Tryd.underlying9 (fun i hi => by
        have ha : (⟨g, k, none⟩ : Addr).add i = ⟨g, k + i, none⟩ := by unfold Addr.add; split <;> simp_all
        rw [ha, row_cell hr (show k + i < l.length by omega)]
        simp)
      rw [hlen] at this
      exact this
    by_cases hkl : k = l.length
    · obtain rfl : j = 0 := by omega
      subst hkl
      have e3 : (⟨((l.drop l.length).take 0).toArray⟩ : ByteArray) = .empty := by simp; rfl
      rw [e3]
      have h0 : ∀ (ad : Addr) c, (convert 81 9 (.slice (some ad) 0 c)).run Tryd.prog w = .ok (.string .empty) w := fun ad c => run_convert_bytes_back (P := Tryd.prog) w 81 9 5 ad c [] Tryd.underlying81 Tryd.underlying5 Tryd.underlying9 (fun i hi => by simp at hi)
      clear hck hb hr hz hone hk e1 e2 e3
      go_enter Tryd.func34, Tryd.ntmps34
      go_wp2_with (go_at_call 37; refine HCK.out.mono ?_; rintro e w' ⟨rfl, rfl⟩)
      go_ret2
      exact ⟨rfl, rfl⟩
    · have hlt : k < l.length := by omega
      replace hone := hone hlt
      have i2 : (k : Int) < (l.length : Int) := by omega
      obtain ⟨S, hS⟩ : ∃ S : ByteArray, S = ⟨((l.drop k).take j).toArray⟩ := ⟨_, rfl⟩
      rw [← hS] at hone ⊢
      clear hck hb hr hz hk e1 e2 hkl hS
      go_enter Tryd.func34, Tryd.ntmps34
      go_wp2_with (go_at_call 37; refine HCK.out.mono ?_; rintro e w' ⟨rfl, rfl⟩)
      go_ret2
      exact ⟨rfl, rfl⟩
  · rw [if_neg hz]
    obtain ⟨x, hx⟩ : ∃ x, chk l.length at' n = x := ⟨_, rfl⟩
    rw [hx] at hck hz ⊢
    have HCK := Lib.hid hck
    clear hck hx hb hr
    go_enter Tryd.func34, Tryd.ntmps34
    go_wp2_with (go_at_call 37; refine HCK.out.mono ?_; rintro e w' ⟨rfl, rfl⟩)
    go_ret2
    exact ⟨rfl, rfl⟩

def zero8 : List UInt8 := [0, 0, 0, 0, 0, 0, 0, 0]
def live8 : List UInt8 := [0, 0, 1, 2, 0, 0, 0, 0]
end Go.Proofs.YtiicoabkhponmaaDoor
