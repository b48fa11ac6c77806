import Derived.Test.YtecpplaobbkemaaZ01
import Derived.Deep.RegionHeld3
import Derived.Deep.Cut
import Derived.Lib.QuietBelow
import Derived.BigQuiet
import Derived.Deep.RegionWith
set_option linter.all false
/- Meet: its contract; what it has to do with the document's answer. -/
namespace Go.Proofs.Ytecpplaobbkemaa
open Go.RowKit Go.Lib Go.Sort
set_option linter.unusedVariables false

theorem meets_iff (a b : Int × Int) : meetsB a b = (isB a && isB b && isB (bothOf a b)) := by
  obtain ⟨a1, a2⟩ := a
  obtain ⟨b1, b2⟩ := b
  rw [Bool.eq_iff_iff]
  by_cases h1 : a1 < b1 <;> by_cases h2 : b2 < a2 <;> simp only [meetsB, isB, holdsB, bothOf, Bool.and_eq_true, Bool.or_eq_true, decide_eq_true_eq, h1, h2, if_true, if_false] <;> omega
theorem holds_meet (a b : Int × Int) (k : Int) : holdsB (meetV a b) k = (holdsB a k && holdsB b k) := by
  obtain ⟨a1, a2⟩ := a
  obtain ⟨b1, b2⟩ := b
  rw [Bool.eq_iff_iff]
  by_cases h : meetsB (a1, a2) (b1, b2) = true
  · have h' := h
    simp only [meetsB, isB, holdsB, Bool.and_eq_true, Bool.or_eq_true, decide_eq_true_eq] at h'
    by_cases h1 : a1 < b1 <;> by_cases h2 : b2 < a2 <;> simp only [meetV, h, holdsB, bothOf, Bool.and_eq_true, decide_eq_true_eq, h1, h2, if_true, if_false] <;> omega
  · have h' := h
    simp only [meetsB, isB, holdsB, Bool.and_eq_true, Bool.or_eq_true, decide_eq_true_eq] at h'
    simp only [meetV, h, holdsB, Bool.and_eq_true, decide_eq_true_eq, if_false, Bool.false_eq_true]
    omega

theorem boxes3 {w w2 : World} {p q : Int × Int} (g : (((w.alloc (.cells #[.int .i64 p.1, .int .i64 p.2] 45)).alloc (.cells #[.int .i64 q.1, .int .i64 q.2] 45)).alloc (.cells #[.int .i64 0, .int .i64 0] 45)).grownBy w2 none) :
    w2.cell? ⟨w.heap.size, 0, none⟩ = some (.int .i64 p.1) ∧ w2.cell? ⟨w.heap.size, 1, none⟩ = some (.int .i64 p.2) ∧ w2.cell? ⟨w.heap.size + 1, 0, none⟩ = some (.int .i64 q.1) ∧ w2.cell? ⟨w.heap.size + 1, 1, none⟩ = some (.int .i64 q.2) ∧
    w2.cell? ⟨w.heap.size + 1 + 1, 0, none⟩ = some (.int .i64 0) ∧ w2.cell? ⟨w.heap.size + 1 + 1, 1, none⟩ = some (.int .i64 0) ∧ w2.frozen? ⟨w.heap.size + 1 + 1, 0, none⟩ = false ∧ w2.frozen? ⟨w.heap.size + 1 + 1, 1, none⟩ = false := by
  have h1 := (((Blk.new w 45 #[.int .i64 p.1, .int .i64 p.2]).alloc (.cells #[.int .i64 q.1, .int .i64 q.2] 45)).alloc (.cells #[.int .i64 0, .int .i64 0] 45)).only g (by simp)
  have h2 := ((Blk.new (w.alloc (.cells #[.int .i64 p.1, .int .i64 p.2] 45)) 45 #[.int .i64 q.1, .int .i64 q.2]).alloc (.cells #[.int .i64 0, .int .i64 0] 45)).only g (by simp)
  have h3 := (Blk.new ((w.alloc (.cells #[.int .i64 p.1, .int .i64 p.2] 45)).alloc (.cells #[.int .i64 q.1, .int .i64 q.2] 45)) 45 #[.int .i64 0, .int .i64 0]).only g (by simp)
  refine ⟨h1.cell 0, h1.cell 1, ?_, ?_, ?_, ?_, ?_, ?_⟩
  · simpa using h2.cell 0
  · simpa using h2.cell 1
  · simpa using h3.cell 0
  · simpa using h3.cell 1
  · simpa using h3.free 0
  · simpa using h3.free 1

/-- Only blocks from B on were written. -/
theorem only_far {a w : World} (h : Below a.heap.size a w) : a.grownBy w none := ⟨h.os, h.tape, h.output, h.size, fun i hi _ => h.block i hi⟩

set_option maxHeartbeats 3200000 in
theorem meet_any (p q : Int × Int) (w : World) : Calls Try.prog 45 #[spv p, spv q] w fun e w' => e = .returned (.tuple #[spv (meetV p q), .bool (meetsB p q)]) ∧ w.grownBy w' none := by
  have key : ∀ (r : Ending) (w' : World) (v : Int × Int) (x : Bool), meetV p q = v → meetsB p q = x → r = .returned (.tuple #[spv v, .bool x]) → Below w.heap.size w w' → r = .returned (.tuple #[spv (meetV p q), .bool (meetsB p q)]) ∧ w.grownBy w' none := by
    intro r w' v x h1 h2 h3 h4
    rw [h1, h2]
    exact ⟨h3, only_far h4⟩
  have KEY := Lib.hid key
  clear key
  have hb0 : Below w.heap.size w (((w.alloc (.cells #[.int .i64 p.1, .int .i64 p.2] 45)).alloc (.cells #[.int .i64 q.1, .int .i64 q.2] 45)).alloc (.cells #[.int .i64 0, .int .i64 0] 45)) := (((Below.refl _ _).alloc (Nat.le_refl _) _).alloc (by simp) _).alloc (by simp; omega) _
  have HB0 := Lib.hid hb0
  clear hb0
  by_cases hp : isB p = true
  · by_cases hq : isB q = true
    · obtain ⟨a, b⟩ := p
      obtain ⟨c, d⟩ := q
      by_cases h1 : a < c <;> by_cases h2 : d < b
      · by_cases hxy : isB (c, d) = true
        · have hm : meetsB (a, b) (c, d) = true := by rw [meets_iff]; simp [hp, hq, bothOf, h1, h2, hxy]
          have hv : meetV (a, b) (c, d) = (c, d) := by simp [meetV, hm, bothOf, h1, h2]
          have HM := Lib.hid hm
          have HV := Lib.hid hv
          clear hm hv
          go_enter Try.func45, Try.ntmps45
          go_wp2_with (first | (go_at_call 49; ((with_reducible refine (is_any (a, b) _).mono ?_)); rintro e w2 ⟨rfl, g2⟩; have G2 := Lib.hid g2; have C2 := Lib.hid (boxes3 (p := (a, b)) (q := (c, d)) G2.out); obtain ⟨e0, e1, e2, e3, e4, e5, e6, e7⟩ := C2.out; clear g2) | (go_at_call 49; ((with_reducible refine (is_any (c, d) _).mono ?_)); rintro e w3 ⟨rfl, g3⟩; have G3 := Lib.hid (only_trans G2.out g3); have C3 := Lib.hid (boxes3 (p := (a, b)) (q := (c, d)) G3.out); obtain ⟨f0, f1, f2, f3, f4, f5, f6, f7⟩ := C3.out; clear g3) | (go_at_call 49; ((with_reducible refine (is_any (c, d) _).mono ?_)); rintro e w4 ⟨rfl, g4⟩; have hblk := (Blk.new w3 45 #[.int .i64 c, .int .i64 d]).only g4 (by simp); have k0 := hblk.cell 0; have k1 := hblk.cell 1; simp at k0 k1; have G4 := Lib.hid (only_trans (only_trans G3.out (only_alloc (only_refl _ _) (.cells #[.int .i64 c, .int .i64 d] 45))) g4); obtain ⟨j0, j1, j2, j3, j4, j5, j6, j7⟩ := boxes3 (p := (a, b)) (q := (c, d)) G4.out; clear g4 hblk))
          refine bodyPost_ret (v := .tuple #[.agg #[.int .i64 c, .int .i64 d], .bool true]) (by simp [results, Try.results45, go_sem, j4, j5]) rfl (KEY.out _ _ (c, d) true HV.out HM.out rfl ?_)
          have B3 := HB0.out.trans (below_of_only G4.out HB0.out.size (by simp))
          exact (B3.setCell (by simp; omega) _).setCell (by simp; omega) _
        · exact absurd hq hxy
      · by_cases hxy : isB (c, b) = true
        · have hm : meetsB (a, b) (c, d) = true := by rw [meets_iff]; simp [hp, hq, bothOf, h1, h2, hxy]
          have hv : meetV (a, b) (c, d) = (c, b) := by simp [meetV, hm, bothOf, h1, h2]
          have HM := Lib.hid hm
          have HV := Lib.hid hv
          clear hm hv
          go_enter Try.func45, Try.ntmps45
          go_wp2_with (first | (go_at_call 49; ((with_reducible refine (is_any (a, b) _).mono ?_)); rintro e w2 ⟨rfl, g2⟩; have G2 := Lib.hid g2; have C2 := Lib.hid (boxes3 (p := (a, b)) (q := (c, d)) G2.out); obtain ⟨e0, e1, e2, e3, e4, e5, e6, e7⟩ := C2.out; clear g2) | (go_at_call 49; ((with_reducible refine (is_any (c, d) _).mono ?_)); rintro e w3 ⟨rfl, g3⟩; have G3 := Lib.hid (only_trans G2.out g3); have C3 := Lib.hid (boxes3 (p := (a, b)) (q := (c, d)) G3.out); obtain ⟨f0, f1, f2, f3, f4, f5, f6, f7⟩ := C3.out; clear g3) | (go_at_call 49; ((with_reducible refine (is_any (c, b) _).mono ?_)); rintro e w4 ⟨rfl, g4⟩; have hblk := (Blk.new w3 45 #[.int .i64 c, .int .i64 b]).only g4 (by simp); have k0 := hblk.cell 0; have k1 := hblk.cell 1; simp at k0 k1; have G4 := Lib.hid (only_trans (only_trans G3.out (only_alloc (only_refl _ _) (.cells #[.int .i64 c, .int .i64 b] 45))) g4); obtain ⟨j0, j1, j2, j3, j4, j5, j6, j7⟩ := boxes3 (p := (a, b)) (q := (c, d)) G4.out; clear g4 hblk))
          refine bodyPost_ret (v := .tuple #[.agg #[.int .i64 c, .int .i64 b], .bool true]) (by simp [results, Try.results45, go_sem, j4, j5]) rfl (KEY.out _ _ (c, b) true HV.out HM.out rfl ?_)
          have B3 := HB0.out.trans (below_of_only G4.out HB0.out.size (by simp))
          exact (B3.setCell (by simp; omega) _).setCell (by simp; omega) _
        · have hxy' : isB (c, b) = false := by simpa using hxy
          have hm : meetsB (a, b) (c, d) = false := by rw [meets_iff]; simp [hp, hq, bothOf, h1, h2, hxy']
          have hv : meetV (a, b) (c, d) = (0, 0) := by simp [meetV, hm]
          have HM := Lib.hid hm
          have HV := Lib.hid hv
          clear hm hv hxy
          go_enter Try.func45, Try.ntmps45
          go_wp2_with (first | (go_at_call 49; ((with_reducible refine (is_any (a, b) _).mono ?_)); rintro e w2 ⟨rfl, g2⟩; have G2 := Lib.hid g2; have C2 := Lib.hid (boxes3 (p := (a, b)) (q := (c, d)) G2.out); obtain ⟨e0, e1, e2, e3, e4, e5, e6, e7⟩ := C2.out; clear g2) | (go_at_call 49; ((with_reducible refine (is_any (c, d) _).mono ?_)); rintro e w3 ⟨rfl, g3⟩; have G3 := Lib.hid (only_trans G2.out g3); have C3 := Lib.hid (boxes3 (p := (a, b)) (q := (c, d)) G3.out); obtain ⟨f0, f1, f2, f3, f4, f5, f6, f7⟩ := C3.out; clear g3) | (go_at_call 49; ((with_reducible refine (is_any (c, b) _).mono ?_)); rintro e w4 ⟨rfl, g4⟩; have hblk := (Blk.new w3 45 #[.int .i64 c, .int .i64 b]).only g4 (by simp); have k0 := hblk.cell 0; have k1 := hblk.cell 1; simp at k0 k1; have G4 := Lib.hid (only_trans (only_trans G3.out (only_alloc (only_refl _ _) (.cells #[.int .i64 c, .int .i64 b] 45))) g4); obtain ⟨j0, j1, j2, j3, j4, j5, j6, j7⟩ := boxes3 (p := (a, b)) (q := (c, d)) G4.out; clear g4 hblk))
          refine bodyPost_ret (v := .tuple #[.agg #[.int .i64 0, .int .i64 0], .bool false]) (by simp [results, Try.results45, go_sem, j4, j5]) rfl (KEY.out _ _ (0, 0) false HV.out HM.out rfl ?_)
          have B3 := HB0.out.trans (below_of_only G4.out HB0.out.size (by simp))
          exact (B3.setCell (by simp; omega) _).setCell (by simp; omega) _
      · by_cases hxy : isB (a, d) = true
        · have hm : meetsB (a, b) (c, d) = true := by rw [meets_iff]; simp [hp, hq, bothOf, h1, h2, hxy]
          have hv : meetV (a, b) (c, d) = (a, d) := by simp [meetV, hm, bothOf, h1, h2]
          have HM := Lib.hid hm
          have HV := Lib.hid hv
          clear hm hv
          go_enter Try.func45, Try.ntmps45
          go_wp2_with (first | (go_at_call 49; ((with_reducible refine (is_any (a, b) _).mono ?_)); rintro e w2 ⟨rfl, g2⟩; have G2 := Lib.hid g2; have C2 := Lib.hid (boxes3 (p := (a, b)) (q := (c, d)) G2.out); obtain ⟨e0, e1, e2, e3, e4, e5, e6, e7⟩ := C2.out; clear g2) | (go_at_call 49; ((with_reducible refine (is_any (c, d) _).mono ?_)); rintro e w3 ⟨rfl, g3⟩; have G3 := Lib.hid (only_trans G2.out g3); have C3 := Lib.hid (boxes3 (p := (a, b)) (q := (c, d)) G3.out); obtain ⟨f0, f1, f2, f3, f4, f5, f6, f7⟩ := C3.out; clear g3) | (go_at_call 49; ((with_reducible refine (is_any (a, d) _).mono ?_)); rintro e w4 ⟨rfl, g4⟩; have hblk := (Blk.new w3 45 #[.int .i64 a, .int .i64 d]).only g4 (by simp); have k0 := hblk.cell 0; have k1 := hblk.cell 1; simp at k0 k1; have G4 := Lib.hid (only_trans (only_trans G3.out (only_alloc (only_refl _ _) (.cells #[.int .i64 a, .int .i64 d] 45))) g4); obtain ⟨j0, j1, j2, j3, j4, j5, j6, j7⟩ := boxes3 (p := (a, b)) (q := (c, d)) G4.out; clear g4 hblk))
          refine bodyPost_ret (v := .tuple #[.agg #[.int .i64 a, .int .i64 d], .bool true]) (by simp [results, Try.results45, go_sem, j4, j5]) rfl (KEY.out _ _ (a, d) true HV.out HM.out rfl ?_)
          have B3 := HB0.out.trans (below_of_only G4.out HB0.out.size (by simp))
          exact (B3.setCell (by simp; omega) _).setCell (by simp; omega) _
        · have hxy' : isB (a, d) = false := by simpa using hxy
          have hm : meetsB (a, b) (c, d) = false := by rw [meets_iff]; simp [hp, hq, bothOf, h1, h2, hxy']
          have hv : meetV (a, b) (c, d) = (0, 0) := by simp [meetV, hm]
          have HM := Lib.hid hm
          have HV := Lib.hid hv
          clear hm hv hxy
          go_enter Try.func45, Try.ntmps45
          go_wp2_with (first | (go_at_call 49; ((with_reducible refine (is_any (a, b) _).mono ?_)); rintro e w2 ⟨rfl, g2⟩; have G2 := Lib.hid g2; have C2 := Lib.hid (boxes3 (p := (a, b)) (q := (c, d)) G2.out); obtain ⟨e0, e1, e2, e3, e4, e5, e6, e7⟩ := C2.out; clear g2) | (go_at_call 49; ((with_reducible refine (is_any (c, d) _).mono ?_)); rintro e w3 ⟨rfl, g3⟩; have G3 := Lib.hid (only_trans G2.out g3); have C3 := Lib.hid (boxes3 (p := (a, b)) (q := (c, d)) G3.out); obtain ⟨f0, f1, f2, f3, f4, f5, f6, f7⟩ := C3.out; clear g3) | (go_at_call 49; ((with_reducible refine (is_any (a, d) _).mono ?_)); rintro e w4 ⟨rfl, g4⟩; have hblk := (Blk.new w3 45 #[.int .i64 a, .int .i64 d]).only g4 (by simp); have k0 := hblk.cell 0; have k1 := hblk.cell 1; simp at k0 k1; have G4 := Lib.hid (only_trans (only_trans G3.out (only_alloc (only_refl _ _) (.cells #[.int .i64 a, .int .i64 d] 45))) g4); obtain ⟨j0, j1, j2, j3, j4, j5, j6, j7⟩ := boxes3 (p := (a, b)) (q := (c, d)) G4.out; clear g4 hblk))
          refine bodyPost_ret (v := .tuple #[.agg #[.int .i64 0, .int .i64 0], .bool false]) (by simp [results, Try.results45, go_sem, j4, j5]) rfl (KEY.out _ _ (0, 0) false HV.out HM.out rfl ?_)
          have B3 := HB0.out.trans (below_of_only G4.out HB0.out.size (by simp))
          exact (B3.setCell (by simp; omega) _).setCell (by simp; omega) _
      · by_cases hxy : isB (a, b) = true
        · have hm : meetsB (a, b) (c, d) = true := by rw [meets_iff]; simp [hp, hq, bothOf, h1, h2, hxy]
          have hv : meetV (a, b) (c, d) = (a, b) := by simp [meetV, hm, bothOf, h1, h2]
          have HM := Lib.hid hm
          have HV := Lib.hid hv
          clear hm hv
          go_enter Try.func45, Try.ntmps45
          go_wp2_with (first | (go_at_call 49; ((with_reducible refine (is_any (a, b) _).mono ?_)); rintro e w2 ⟨rfl, g2⟩; have G2 := Lib.hid g2; have C2 := Lib.hid (boxes3 (p := (a, b)) (q := (c, d)) G2.out); obtain ⟨e0, e1, e2, e3, e4, e5, e6, e7⟩ := C2.out; clear g2) | (go_at_call 49; ((with_reducible refine (is_any (c, d) _).mono ?_)); rintro e w3 ⟨rfl, g3⟩; have G3 := Lib.hid (only_trans G2.out g3); have C3 := Lib.hid (boxes3 (p := (a, b)) (q := (c, d)) G3.out); obtain ⟨f0, f1, f2, f3, f4, f5, f6, f7⟩ := C3.out; clear g3) | (go_at_call 49; ((with_reducible refine (is_any (a, b) _).mono ?_)); rintro e w4 ⟨rfl, g4⟩; have hblk := (Blk.new w3 45 #[.int .i64 a, .int .i64 b]).only g4 (by simp); have k0 := hblk.cell 0; have k1 := hblk.cell 1; simp at k0 k1; have G4 := Lib.hid (only_trans (only_trans G3.out (only_alloc (only_refl _ _) (.cells #[.int .i64 a, .int .i64 b] 45))) g4); obtain ⟨j0, j1, j2, j3, j4, j5, j6, j7⟩ := boxes3 (p := (a, b)) (q := (c, d)) G4.out; clear g4 hblk))
          refine bodyPost_ret (v := .tuple #[.agg #[.int .i64 a, .int .i64 b], .bool true]) (by simp [results, Try.results45, go_sem, j4, j5]) rfl (KEY.out _ _ (a, b) true HV.out HM.out rfl ?_)
          have B3 := HB0.out.trans (below_of_only G4.out HB0.out.size (by simp))
          exact (B3.setCell (by simp; omega) _).setCell (by simp; omega) _
        · exact absurd hp hxy
    · have hq' : isB q = false := by simpa using hq
      have hm : meetsB p q = false := by rw [meets_iff]; simp [hq']
      have hv : meetV p q = (0, 0) := by simp [meetV, hm]
      have HM := Lib.hid hm
      have HV := Lib.hid hv
      clear hm hv hq
      obtain ⟨a, b⟩ := p
      obtain ⟨c, d⟩ := q
      go_enter Try.func45, Try.ntmps45
      go_wp2_with (first | (go_at_call 49; ((with_reducible refine (is_any (a, b) _).mono ?_)); rintro e w2 ⟨rfl, g2⟩; have G2 := Lib.hid g2; have C2 := Lib.hid (boxes3 (p := (a, b)) (q := (c, d)) G2.out); obtain ⟨e0, e1, e2, e3, e4, e5, e6, e7⟩ := C2.out; clear g2) | (go_at_call 49; ((with_reducible refine (is_any (c, d) _).mono ?_)); rintro e w3 ⟨rfl, g3⟩; have G3 := Lib.hid (only_trans G2.out g3); have C3 := Lib.hid (boxes3 (p := (a, b)) (q := (c, d)) G3.out); obtain ⟨f0, f1, f2, f3, f4, f5, f6, f7⟩ := C3.out; clear g3))
      refine bodyPost_ret (v := .tuple #[.agg #[.int .i64 0, .int .i64 0], .bool false]) (by simp [results, Try.results45, go_sem, f4, f5]) rfl (KEY.out _ _ (0, 0) false HV.out HM.out rfl ?_)
      have B3 := HB0.out.trans (below_of_only G3.out HB0.out.size (by simp))
      exact (B3.setCell (by simp; omega) _).setCell (by simp; omega) _
  · have hp' : isB p = false := by simpa using hp
    have hm : meetsB p q = false := by rw [meets_iff]; simp [hp']
    have hv : meetV p q = (0, 0) := by simp [meetV, hm]
    have HM := Lib.hid hm
    have HV := Lib.hid hv
    clear hm hv hp
    obtain ⟨a, b⟩ := p
    obtain ⟨c, d⟩ := q
    go_enter Try.func45, Try.ntmps45
    go_wp2_with (go_at_call 49; ((with_reducible refine (is_any (a, b) _).mono ?_)); rintro e w2 ⟨rfl, g2⟩; have G2 := Lib.hid g2; have C2 := Lib.hid (boxes3 (p := (a, b)) (q := (c, d)) G2.out); obtain ⟨e0, e1, e2, e3, e4, e5, e6, e7⟩ := C2.out; clear g2)
    refine bodyPost_ret (v := .tuple #[.agg #[.int .i64 0, .int .i64 0], .bool false]) (by simp [results, Try.results45, go_sem, e4, e5]) rfl (KEY.out _ _ (0, 0) false HV.out HM.out rfl ?_)
    have B3 := HB0.out.trans (below_of_only G2.out HB0.out.size (by simp))
    exact (B3.setCell (by simp; omega) _).setCell (by simp; omega) _
end Go.Proofs.Ytecpplaobbkemaa

/- Package conf: its tables, and the small functions, by their contracts. -/
namespace Go.Proofs.Ytecpplaobbkemaa
open Go.RowKit Go.Lib Go.Sort
set_option linter.unusedVariables false

theorem bel0 {P : Program} {f : FuncId} {args : Array Value} {w : World} {v : Value} (h : Calls P f args w fun e w' => e = .returned v ∧ w = w') : Calls P f args w fun e w' => e = .returned v ∧ Below w.heap.size w w' := h.mono fun e w' ⟨h1, h2⟩ => by subst h2; exact ⟨h1, Below.refl _ _⟩
theorem bel1 {P : Program} {f : FuncId} {args : Array Value} {w : World} {v : Value} (h : Calls P f args w fun e w' => e = .returned v ∧ w.grownBy w' none) : Calls P f args w fun e w' => e = .returned v ∧ Below w.heap.size w w' := h.mono fun e w' ⟨h1, h2⟩ => ⟨h1, below_of_only h2 (Nat.le_refl _) (by simp)⟩
theorem rg0 {P : Program} {f : FuncId} {args : Array Value} {w : World} {d : Nat} {os : Array Obj} {v : Value} (h : Calls P f args (grow (redrawn w d) os) fun e w' => e = .returned v ∧ grow (redrawn w d) os = w') : Calls P f args (grow (redrawn w d) os) fun e w'' => e = .returned v ∧ ∃ p : Regrown, w'' = grow (redrawn w p.d) p.os := Calls.regrown_of (bel0 h)
theorem rg1 {P : Program} {f : FuncId} {args : Array Value} {w : World} {d : Nat} {os : Array Obj} {v : Value} (h : Calls P f args (grow (redrawn w d) os) fun e w' => e = .returned v ∧ (grow (redrawn w d) os).grownBy w' none) : Calls P f args (grow (redrawn w d) os) fun e w'' => e = .returned v ∧ ∃ p : Regrown, w'' = grow (redrawn w p.d) p.os := Calls.regrown_of (bel1 h)
theorem blk_re {w : World} {g : Nat} {t : TypeId} {cs : Array Value} (h : Blk w g t cs) (d : Nat) (os : Array Obj) (i : Nat) : (grow (redrawn w d) os).cell? ⟨g, i, none⟩ = cs[i]? := by
  rw [(below_regrown w d os).cell (p := ⟨g, i, none⟩) h.lt, h.cell]
theorem only_re (w : World) (d : Nat) (os : Array Obj) : w.grownBy (grow (redrawn w d) os) none := only_far (below_regrown w d os)
theorem box1 (w : World) (t : TypeId) (cs : Array Value) : ∃ W, W = w.alloc (.cells cs t) ∧ w.grownBy W none ∧ Blk W w.heap.size t cs := ⟨_, rfl, only_alloc (only_refl _ _) _, Blk.new w t cs⟩
theorem box2 (w : World) (t : TypeId) (cs : Array Value) (t2 : TypeId) (cs2 : Array Value) : ∃ W, W = (w.alloc (.cells cs t)).alloc (.cells cs2 t2) ∧ w.grownBy W none ∧ Blk W w.heap.size t cs ∧ Blk W (w.heap.size + 1) t2 cs2 :=
  ⟨_, rfl, only_alloc (only_alloc (only_refl _ _) _) _, (Blk.new w t cs).alloc _, by simpa using Blk.new (w.alloc (.cells cs t)) t2 cs2⟩
/-- Fits an int. -/
def fitI (x : Int) : Prop := -9223372036854775808 ≤ x ∧ x ≤ 9223372036854775807
theorem fitI_of {x : Int} (w : (Lit.int .i64 x).wf = true) : fitI x := by
  simp only [Lit.wf, Bool.and_eq_true, decide_eq_true_eq] at w
  have e1 : IntKind.i64.min = -9223372036854775808 := by kernel_rfl
  have e2 : IntKind.i64.max = 9223372036854775807 := by kernel_rfl
  unfold fitI
  omega
/-- A window, or a slot: owner, from, to. -/
abbrev W3 := Int × Int × Int
abbrev w3v (x : W3) : Value := .agg #[.int .i64 x.1, .int .i64 x.2.1, .int .i64 x.2.2]
/-- Its ticks. -/
abbrev w3s (x : W3) : Int × Int := (x.2.1, x.2.2)
/-- A client's row. -/
structure Cl where
  base : Int
  size : Int
  ring : Int
  at' : Int
  quota : Int
  queue : Int
  mac : Int
  chan : Int
  first : Int
  secs : Int
abbrev clA (x : Cl) : Array Value := #[.int .i64 x.base, .int .i64 x.size, .int .i64 x.ring, .int .i64 x.at', .int .i64 x.quota, .int .i64 x.queue, .int .i64 x.mac, .int .i64 x.chan, .int .i64 x.first, .int .i64 x.secs]
abbrev clv (x : Cl) : Value := .agg (clA x)
def FitW3 (x : W3) : Prop := fitI x.1 ∧ fitI x.2.1 ∧ fitI x.2.2
def FitCl (x : Cl) : Prop := fitI x.base ∧ fitI x.size ∧ fitI x.ring ∧ fitI x.at' ∧ fitI x.quota ∧ fitI x.queue ∧ fitI x.mac ∧ fitI x.chan ∧ fitI x.first ∧ fitI x.secs
/-- The cells of a window that lies somewhere. -/
def W3C (w : World) (b o : Nat) (x : W3) : Prop := w.cell? ⟨b, o, none⟩ = some (.int .i64 x.1) ∧ w.cell? ⟨b, o + 1, none⟩ = some (.int .i64 x.2.1) ∧ w.cell? ⟨b, o + 2, none⟩ = some (.int .i64 x.2.2)
def ClC (w : World) (b o : Nat) (x : Cl) : Prop := w.cell? ⟨b, o, none⟩ = some (.int .i64 x.base) ∧ w.cell? ⟨b, o + 1, none⟩ = some (.int .i64 x.size) ∧ w.cell? ⟨b, o + 2, none⟩ = some (.int .i64 x.ring) ∧ w.cell? ⟨b, o + 3, none⟩ = some (.int .i64 x.at') ∧ w.cell? ⟨b, o + 4, none⟩ = some (.int .i64 x.quota) ∧ w.cell? ⟨b, o + 5, none⟩ = some (.int .i64 x.queue) ∧ w.cell? ⟨b, o + 6, none⟩ = some (.int .i64 x.mac) ∧ w.cell? ⟨b, o + 7, none⟩ = some (.int .i64 x.chan) ∧ w.cell? ⟨b, o + 8, none⟩ = some (.int .i64 x.first) ∧ w.cell? ⟨b, o + 9, none⟩ = some (.int .i64 x.secs)
section
variable {w w' : World} {b o : Nat}
theorem W3C.grown {x : W3} (h : W3C w b o x) (hb : b < w.heap.size) (g : w.grownBy w' none) : W3C w' b o x := by
  have hk := g.block b hb (by simp)
  have hcell : ∀ q, w'.cell? ⟨b, q, none⟩ = w.cell? ⟨b, q, none⟩ := fun q => by simp only [World.cell?, hk]
  unfold W3C
  simp only [hcell]
  exact h
theorem ClC.grown {x : Cl} (h : ClC w b o x) (hb : b < w.heap.size) (g : w.grownBy w' none) : ClC w' b o x := by
  have hk := g.block b hb (by simp)
  have hcell : ∀ q, w'.cell? ⟨b, q, none⟩ = w.cell? ⟨b, q, none⟩ := fun q => by simp only [World.cell?, hk]
  unfold ClC
  simp only [hcell]
  exact h
end
/-- Rows that came in, or were made. -/
def Row3 (w : World) (A : Option Addr) (n : Nat) (d : Nat → W3) : Prop := (A = none → n = 0) ∧ (0 < n → ∃ b off, A = some ⟨b, off, none⟩ ∧ b < w.heap.size ∧ ∀ i, i < n → W3C w b (off + i * 3) (d i))
def RowC (w : World) (A : Option Addr) (n : Nat) (d : Nat → Cl) : Prop := (A = none → n = 0) ∧ (0 < n → ∃ b off, A = some ⟨b, off, none⟩ ∧ b < w.heap.size ∧ ∀ i, i < n → ClC w b (off + i * 10) (d i))
section
variable {w w' : World} {A : Option Addr} {n : Nat}
theorem Row3.grown {d : Nat → W3} (h : Row3 w A n d) (g : w.grownBy w' none) : Row3 w' A n d := ⟨h.1, fun hp => by
  obtain ⟨b, off, e, hb, hc⟩ := h.2 hp
  exact ⟨b, off, e, Nat.lt_of_lt_of_le hb g.size, fun i hi => (hc i hi).grown hb g⟩⟩
theorem RowC.grown {d : Nat → Cl} (h : RowC w A n d) (g : w.grownBy w' none) : RowC w' A n d := ⟨h.1, fun hp => by
  obtain ⟨b, off, e, hb, hc⟩ := h.2 hp
  exact ⟨b, off, e, Nat.lt_of_lt_of_le hb g.size, fun i hi => (hc i hi).grown hb g⟩⟩
theorem Row3.cut {d : Nat → W3} (h : Row3 w A n d) (m : Nat) (hm : m ≤ n) : Row3 w A m d := ⟨fun e => by have := h.1 e; omega, fun hp => by
  obtain ⟨b, off, e, hb, hc⟩ := h.2 (by omega)
  exact ⟨b, off, e, hb, fun i hi => hc i (by omega)⟩⟩
theorem RowC.cut {d : Nat → Cl} (h : RowC w A n d) (m : Nat) (hm : m ≤ n) : RowC w A m d := ⟨fun e => by have := h.1 e; omega, fun hp => by
  obtain ⟨b, off, e, hb, hc⟩ := h.2 (by omega)
  exact ⟨b, off, e, hb, fun i hi => hc i (by omega)⟩⟩
end
/-- A machine's tables. -/
structure Cf where
  fr : Int
  wA : Option Addr
  wn : Nat
  wc : Nat
  wd : Nat → W3
  sA : Option Addr
  sn : Nat
  sc : Nat
  sd : Nat → W3
  cA : Option Addr
  cn : Nat
  cc : Nat
  cd : Nat → Cl
abbrev cfA (c : Cf) : Array Value := #[.int .i64 c.fr, .slice c.wA c.wn c.wc, .slice c.sA c.sn c.sc, .slice c.cA c.cn c.cc]
abbrev cfv (c : Cf) : Value := .agg (cfA c)
def FitCf (c : Cf) : Prop := fitI c.fr ∧ (c.wn ≤ c.wc ∧ c.wc ≤ 9223372036854775807 ∧ ∀ i, i < c.wn → FitW3 (c.wd i)) ∧ (c.sn ≤ c.sc ∧ c.sc ≤ 9223372036854775807 ∧ ∀ i, i < c.sn → FitW3 (c.sd i)) ∧ (c.cn ≤ c.cc ∧ c.cc ≤ 9223372036854775807 ∧ ∀ i, i < c.cn → FitCl (c.cd i))
def CfV (w : World) (c : Cf) : Prop := Row3 w c.wA c.wn c.wd ∧ Row3 w c.sA c.sn c.sd ∧ RowC w c.cA c.cn c.cd
theorem CfV.grown {w w' : World} {c : Cf} (h : CfV w c) (g : w.grownBy w' none) : CfV w' c := ⟨h.1.grown g, h.2.1.grown g, h.2.2.grown g⟩
/-- Is a number within two others? -/
def wiB (n a b : Int) : Bool := decide (a ≤ n ∧ n ≤ b)
/-- How many bytes a ring has. -/
def rgN (n : Int) : Int := if n = 1 ∨ n = 2 ∨ n = 4 ∨ n = 8 ∨ n = 16 then 8 * n + 2 else 0
theorem rgN_le (n : Int) : 0 ≤ rgN n ∧ rgN n ≤ 130 := by
  unfold rgN
  split
  · rename_i h
    omega
  · omega
end Go.Proofs.Ytecpplaobbkemaa

/- Package conf: what is wrong with a row, by its contracts. -/
namespace Go.Proofs.Ytecpplaobbkemaa
open Go.RowKit Go.Lib Go.Sort
set_option linter.unusedVariables false

theorem box_cells {w w' : World} {t : TypeId} {cs : Array Value} (g : (w.alloc (.cells cs t)).grownBy w' none) (i : Nat) : w'.cell? ⟨w.heap.size, i, none⟩ = cs[i]? := ((Blk.new w t cs).only g (by simp)).cell i
/-- Is a client's row one that may not be? -/
def badC (x : Cl) : Bool := !(wiB x.size 32 1024) || !(wiB x.base 128 (16384 - x.size)) || decide (rgN x.ring = 0) || !(wiB x.at' 0 (x.size - rgN x.ring)) || !(wiB x.quota 1 16) || !(wiB x.queue 0 16) || !(wiB x.mac 0 255) || !(wiB x.chan 0 255) || !(wiB x.secs 0 64) || !(wiB x.first 0 (512 - x.secs))
theorem wiB_iff {n a b : Int} : wiB n a b = true ↔ a ≤ n ∧ n ≤ b := by unfold wiB; exact decide_eq_true_iff
end Go.Proofs.Ytecpplaobbkemaa

/- The document's word on rows of tables, by its contracts. -/
namespace Go.Proofs.Ytecpplaobbkemaa
open Go.RowKit Go.Lib Go.Sort
set_option linter.unusedVariables false

/-- May the sizes be? -/
def frB (c : Cf) : Bool := decide (1 ≤ c.fr ∧ c.fr ≤ 4096 ∧ 1 ≤ c.cn ∧ c.cn ≤ 8 ∧ c.wn ≤ 9 ∧ c.sn ≤ 32)
theorem frB_iff {c : Cf} : frB c = true ↔ 1 ≤ c.fr ∧ c.fr ≤ 4096 ∧ 1 ≤ c.cn ∧ c.cn ≤ 8 ∧ c.wn ≤ 9 ∧ c.sn ≤ 32 := decide_eq_true_iff
theorem frB_no {c : Cf} : frB c = false ↔ ¬ (1 ≤ c.fr ∧ c.fr ≤ 4096 ∧ 1 ≤ c.cn ∧ c.cn ≤ 8 ∧ c.wn ≤ 9 ∧ c.sn ≤ 32) := decide_eq_false_iff_not
theorem ret_bool {a b : Bool} (h : a = b) : Ending.returned (.bool a) = Ending.returned (.bool b) := by rw [h]
/-- A client's row that may be. -/
def GoodC (x : Cl) (r : Int) : Prop := 32 ≤ x.size ∧ x.size ≤ 1024 ∧ 128 ≤ x.base ∧ x.base ≤ 16384 - x.size ∧ r ≠ 0 ∧ 0 ≤ x.at' ∧ x.at' ≤ x.size - r ∧ 1 ≤ x.quota ∧ x.quota ≤ 16 ∧ 0 ≤ x.queue ∧ x.queue ≤ 16 ∧ 0 ≤ x.mac ∧ x.mac ≤ 255 ∧ 0 ≤ x.chan ∧ x.chan ≤ 255 ∧ 0 ≤ x.secs ∧ x.secs ≤ 64 ∧ 0 ≤ x.first ∧ x.first ≤ 512 - x.secs
theorem badC_no {x : Cl} : badC x = false ↔ GoodC x (rgN x.ring) := by
  unfold badC GoodC
  simp only [Bool.or_eq_false_iff, Bool.not_eq_false', wiB_iff, decide_eq_false_iff_not, and_assoc, ne_eq]
theorem badC_iff {x : Cl} : badC x = true ↔ ¬ GoodC x (rgN x.ring) := by
  rw [← badC_no]
  simp
end Go.Proofs.Ytecpplaobbkemaa

/- Windows and slots that may not be, by their contracts. -/
namespace Go.Proofs.Ytecpplaobbkemaa
open Go.RowKit Go.Lib Go.Sort
set_option linter.unusedVariables false

/-- Is a window one that may not be? -/
def badW (c : Cf) (x : W3) : Bool := !(wiB x.1 0 c.cn) || !(inB (w3s x) c.fr)
def badS (c : Cf) (x : W3) : Bool := !(wiB x.1 1 c.cn) || !(inB (w3s x) c.fr) || decide (x.2.2 - x.2.1 < 4)
theorem inB_iff {p : Int × Int} {n : Int} : inB p n = true ↔ 0 ≤ p.1 ∧ p.1 < p.2 ∧ p.2 ≤ n := decide_eq_true_iff
theorem badW_no {c : Cf} {x : W3} : badW c x = false ↔ 0 ≤ x.1 ∧ x.1 ≤ c.cn ∧ 0 ≤ x.2.1 ∧ x.2.1 < x.2.2 ∧ x.2.2 ≤ c.fr := by
  unfold badW
  simp only [Bool.or_eq_false_iff, Bool.not_eq_false', wiB_iff, inB_iff, and_assoc]
theorem badS_no {c : Cf} {x : W3} : badS c x = false ↔ 1 ≤ x.1 ∧ x.1 ≤ c.cn ∧ 0 ≤ x.2.1 ∧ x.2.1 < x.2.2 ∧ x.2.2 ≤ c.fr ∧ 4 ≤ x.2.2 - x.2.1 := by
  unfold badS
  simp only [Bool.or_eq_false_iff, Bool.not_eq_false', wiB_iff, inB_iff, and_assoc, decide_eq_false_iff_not, Int.not_lt]
end Go.Proofs.Ytecpplaobbkemaa

/- slices.IndexFunc and ContainsFunc over rows of tables, by their contracts. -/
namespace Go.Proofs.Ytecpplaobbkemaa
open Go.RowKit Go.Lib Go.Sort
set_option linter.unusedVariables false

/-- The first place below n that has it; -1: none. -/
def fstI (q : Nat → Bool) (n : Nat) : Int := match (List.range n).find? q with | some i => i | none => -1
def anyB (q : Nat → Bool) (n : Nat) : Bool := (List.range n).any q
theorem fstI_at {q : Nat → Bool} {n i : Nat} (hi : i < n) (h : q i = true) (hb : ∀ k, k < i → q k = false) : fstI q n = i := by
  have : (List.range n).find? q = some i := by
    rw [List.find?_range_eq_some]
    exact ⟨h, by simp [hi], fun j hj => by simp [hb j hj]⟩
  rw [fstI, this]
theorem fstI_none {q : Nat → Bool} {n : Nat} (h : ∀ k, k < n → q k = false) : fstI q n = -1 := by
  have : (List.range n).find? q = none := List.find?_eq_none.2 (by intro x hx; simp [h x (by simpa using hx)])
  rw [fstI, this]
theorem fstI_cases (q : Nat → Bool) (n : Nat) : (∃ i : Nat, i < n ∧ fstI q n = i ∧ q i = true ∧ ∀ k, k < i → q k = false) ∨ (fstI q n = -1 ∧ ∀ k, k < n → q k = false) := by
  unfold fstI
  cases h : (List.range n).find? q with
  | none =>
    refine .inr ⟨rfl, fun k hk => ?_⟩
    have := List.find?_eq_none.1 h k (by simpa using hk)
    simpa using this
  | some i =>
    have h1 := List.find?_range_eq_some.1 h
    exact .inl ⟨i, by simpa using h1.2.1, rfl, h1.1, fun k hk => by simpa using h1.2.2 k hk⟩
theorem anyB_eq (q : Nat → Bool) (n : Nat) : anyB q n = decide (0 ≤ fstI q n) := by
  rcases fstI_cases q n with ⟨i, hi, e, h1, _⟩ | ⟨e, h1⟩
  · rw [e]
    have : anyB q n = true := List.any_eq_true.2 ⟨i, by simpa using hi, h1⟩
    rw [this]
    simp
  · rw [e]
    have : anyB q n = false := List.any_eq_false.2 (by intro x hx; simp [h1 x (by simpa using hx)])
    rw [this]
    simp
theorem anyB_iff {q : Nat → Bool} {n : Nat} : anyB q n = true ↔ ∃ i, i < n ∧ q i = true := by
  unfold anyB
  rw [List.any_eq_true]
  constructor
  · rintro ⟨i, hi, h⟩
    exact ⟨i, by simpa using hi, h⟩
  · rintro ⟨i, hi, h⟩
    exact ⟨i, by simpa using hi, h⟩
theorem anyB_no {q : Nat → Bool} {n : Nat} : anyB q n = false ↔ ∀ i, i < n → q i = false := by
  unfold anyB
  rw [List.any_eq_false]
  constructor
  · intro h i hi
    simpa using h i (by simpa using hi)
  · intro h i hi
    simpa using h i (by simpa using hi)

end Go.Proofs.Ytecpplaobbkemaa

/- What two rows have both, and whether a row ahead has it: by their contracts. -/
namespace Go.Proofs.Ytecpplaobbkemaa
open Go.RowKit Go.Lib Go.Sort
set_option linter.unusedVariables false

/-- Two windows of one owner, or at one time. -/
def wM (x y : W3) : Bool := decide (x.1 = y.1) || meetsB (w3s x) (w3s y)
def sM (x y : W3) : Bool := meetsB (w3s x) (w3s y)
/-- Two clients that have something both. -/
def cM (x y : Cl) : Bool := decide (x.mac = y.mac) || decide (x.chan = y.chan) || meetsB (x.base, x.base + x.size) (y.base, y.base + y.size) || meetsB (x.first, x.first + x.secs) (y.first, y.first + y.secs)
theorem goodC_fit {x : Cl} (h : badC x = false) : fitI (x.base + x.size) ∧ fitI (x.first + x.secs) := by
  have := badC_no.1 h
  unfold GoodC at this
  unfold fitI
  omega
end Go.Proofs.Ytecpplaobbkemaa

/- The functions of package clock that only reckon: each by its contract. -/
namespace Go.Proofs.Ytecpplaobbkemaa
open Go.RowKit Go.Lib Go.Sort
set_option linter.unusedVariables false

/-- Can a frame have so many ticks? -/
def rightB (f : Int) : Bool := decide (1 ≤ f ∧ f ≤ 4096)
theorem right_any (f : Int) (w : World) : Calls Try.prog 21 #[.int .i64 f] w fun r w' => r = .returned (.bool (rightB f)) ∧ w = w' := by
  have key : (1 ≤ f ∧ f ≤ 4096 ∧ rightB f = true) ∨ (1 ≤ f ∧ ¬ f ≤ 4096 ∧ rightB f = false) ∨ (¬ 1 ≤ f ∧ rightB f = false) := by
    by_cases h1 : 1 ≤ f <;> by_cases h2 : f ≤ 4096 <;> simp [rightB, h1, h2]
  rcases key with ⟨h1, h2, e⟩ | ⟨h1, h2, e⟩ | ⟨h1, e⟩
  all_goals
    have E := Lib.hid e
    clear e
    go_enter Try.func21, Try.ntmps21
    go_wp2
    go_ret
    rw [E.out]
    exact ⟨by first | rfl | simp, rfl⟩
theorem rright_any (f : Int) (w : World) : Calls Try.prog 26 #[.int .i64 f] w fun r w' => r = .returned (.bool (rightB f)) ∧ w = w' := by
  have key : (1 ≤ f ∧ f ≤ 4096 ∧ rightB f = true) ∨ (1 ≤ f ∧ ¬ f ≤ 4096 ∧ rightB f = false) ∨ (¬ 1 ≤ f ∧ rightB f = false) := by
    by_cases h1 : 1 ≤ f <;> by_cases h2 : f ≤ 4096 <;> simp [rightB, h1, h2]
  rcases key with ⟨h1, h2, e⟩ | ⟨h1, h2, e⟩ | ⟨h1, e⟩
  all_goals
    have E := Lib.hid e
    clear e
    go_enter Try.func26, Try.ntmps26
    go_wp2
    go_ret
    rw [E.out]
    exact ⟨by first | rfl | simp, rfl⟩
theorem rightB_iff (f : Int) : rightB f = true ↔ 1 ≤ f ∧ f ≤ 4096 := by simp [rightB]

/-- A tick's frame and its offset there, if there is a frame. -/
def frV (t f : Int) : Int × Int := if rightB f = true ∧ 0 ≤ t then (t / f, t % f) else (0, 0)
theorem frame_any (t f : Int) (w : World) (ht2 : t ≤ 9223372036854775807) : Calls Try.prog 28 #[.int .i64 t, .int .i64 f] w fun r w' => r = .returned (.tuple #[.int .i64 (frV t f).1, .int .i64 (frV t f).2]) ∧ ∃ q, w.drewN q = w' := by
  by_cases hf : rightB f = true
  · have hf' := (rightB_iff f).1 hf
    obtain ⟨f1, f2⟩ := hf'
    have hc := right_any f w
    rw [hf] at hc
    have HC := Lib.hid hc
    by_cases ht : 0 ≤ t
    · have e : frV t f = (t / f, t % f) := by simp [frV, hf, ht]
      rw [e]
      have q0 : 0 ≤ t / f := Int.ediv_nonneg ht (by omega)
      have q1 : t / f ≤ t := Int.ediv_le_self _ ht
      have q2 : 0 ≤ t % f := Int.emod_nonneg _ (by omega)
      have q3 : t % f < f := Int.emod_lt_of_pos _ (by omega)
      clear hc hf e
      go_enter Try.func28, Try.ntmps28
      go_wp2_with (go_at_call 21; refine HC.out.mono ?_; rintro e w' ⟨rfl, rfl⟩)
      go_quiet (fail)
      go_wp2
      go_ret2
      exact ⟨rfl, _, rfl⟩
    · have e : frV t f = (0, 0) := by simp [frV, ht]
      rw [e]
      clear hc hf e
      go_enter Try.func28, Try.ntmps28
      go_wp2_with (go_at_call 21; refine HC.out.mono ?_; rintro e w' ⟨rfl, rfl⟩)
      go_ret2
      exact ⟨rfl, 0, rfl⟩
  · have e : frV t f = (0, 0) := by simp [frV, hf]
    have hff : rightB f = false := by simpa using hf
    have hc := right_any f w
    rw [hff] at hc
    have HC := Lib.hid hc
    rw [e]
    clear hc hf e hff
    go_enter Try.func28, Try.ntmps28
    go_wp2_with (go_at_call 21; refine HC.out.mono ?_; rintro e w' ⟨rfl, rfl⟩)
    go_ret2
    exact ⟨rfl, 0, rfl⟩

theorem whole_any (f : Int) (w : World) : Calls Try.prog 51 #[.int .i64 f] w fun r w' => r = .returned (spv (0, f)) ∧ w.grownBy w' none := by
  go_enter Try.func51, Try.ntmps51
  go_wp2
  have hb := Blk.new w 45 #[.int .i64 0, .int .i64 f]
  have e4 := hb.cell 0
  have e5 := hb.cell 1
  simp at e4 e5
  exact bodyPost_ret (v := spv (0, f)) (by simp [results, Try.results51, go_sem, e4, e5]) rfl ⟨rfl, only_alloc (only_refl _ _) _⟩
end Go.Proofs.Ytecpplaobbkemaa

/- Plain facts on ticks and frames: no program is spoken of here. -/
namespace Go.Proofs.Ytecpplaobbkemaa
open Go.RowKit Go.Lib Go.Sort
set_option linter.unusedVariables false

/-- Has a frame of f ticks such an offset? -/
def offB (o f : Int) : Bool := decide (1 ≤ f ∧ f ≤ 4096 ∧ 0 ≤ o ∧ o < f)
theorem offB_iff (o f : Int) : offB o f = true ↔ 1 ≤ f ∧ f ≤ 4096 ∧ 0 ≤ o ∧ o < f := by simp [offB]
theorem offB_is (o f : Int) : offB o f = (rightB f && holdsB (0, f) o) := by
  rw [Bool.eq_iff_iff, offB_iff]
  simp only [rightB, holdsB, Bool.and_eq_true, decide_eq_true_eq]
  omega

theorem ticks {t f : Int} (hf : 0 < f) : t = f * (t / f) + t % f ∧ 0 ≤ t % f ∧ t % f < f := ⟨(Int.mul_ediv_add_emod t f).symm, Int.emod_nonneg _ (by omega), Int.emod_lt_of_pos _ hf⟩
/-- A tick's frame and offset are one pair. -/
theorem tick_one {f q r : Int} (h0 : 0 ≤ r) (h1 : r < f) : (q * f + r) / f = q ∧ (q * f + r) % f = r := by
  have e : q * f + r = r + f * q := by rw [Int.mul_comm, Int.add_comm]
  have hf : f ≠ 0 := by omega
  constructor
  · rw [e, Int.add_mul_ediv_left _ _ hf, Int.ediv_eq_zero_of_lt h0 h1, Int.zero_add]
  · rw [e, Int.add_mul_emod_self_left, Int.emod_eq_of_lt h0 h1]
theorem tick_next {t f : Int} (hf : 0 < f) (h : t % f + 1 < f) : (t + 1) / f = t / f ∧ (t + 1) % f = t % f + 1 := by
  obtain ⟨a, b, c⟩ := ticks (t := t) hf
  have e : t + 1 = (t / f) * f + (t % f + 1) := by rw [Int.mul_comm]; omega
  have := tick_one (f := f) (q := t / f) (r := t % f + 1) (by omega) h
  rw [← e] at this
  exact this
theorem tick_turn {t f : Int} (hf : 0 < f) (h : ¬ t % f + 1 < f) : (t + 1) / f = t / f + 1 ∧ (t + 1) % f = 0 := by
  obtain ⟨a, b, c⟩ := ticks (t := t) hf
  have e : t + 1 = (t / f + 1) * f + 0 := by rw [Int.add_mul, Int.mul_comm]; omega
  have := tick_one (f := f) (q := t / f + 1) (r := 0) (by omega) hf
  rw [← e] at this
  exact this

/-- The first tick from one on that has an offset. -/
def nextV (t o f : Int) : Int := if offB o f = true ∧ t ≤ 2147483647 then (if o < (max t 0) % f then max t 0 + (o + f) - (max t 0) % f else max t 0 + o - (max t 0) % f) else -1
theorem next_is {t o f : Int} (h : offB o f = true) (ht : t ≤ 2147483647) : max t 0 ≤ nextV t o f ∧ nextV t o f - max t 0 < f ∧ nextV t o f % f = o := by
  have h' := (offB_iff o f).1 h
  obtain ⟨f1, f2, o1, o2⟩ := h'
  obtain ⟨a, b, c⟩ := ticks (t := max t 0) (f := f) (by omega)
  unfold nextV
  rw [if_pos ⟨h, ht⟩]
  split
  · refine ⟨by omega, by omega, ?_⟩
    have e : max t 0 + (o + f) - (max t 0) % f = ((max t 0) / f + 1) * f + o := by rw [Int.add_mul, Int.mul_comm]; omega
    rw [e]
    exact (tick_one o1 o2).2
  · refine ⟨by omega, by omega, ?_⟩
    have e : max t 0 + o - (max t 0) % f = ((max t 0) / f) * f + o := by rw [Int.mul_comm]; omega
    rw [e]
    exact (tick_one o1 o2).2
/-- No two ticks of one offset are nearer than a frame. -/
theorem off_far {a b f : Int} (hf : 0 < f) (hab : a < b) (h : b - a < f) : a % f ≠ b % f := by
  intro e
  have h1 := Int.emod_emod_of_dvd a (Int.dvd_refl f)
  obtain ⟨a1, a2, a3⟩ := ticks (t := a) hf
  obtain ⟨b1, b2, b3⟩ := ticks (t := b) hf
  have h2 : b - a = f * (b / f - a / f) := by rw [Int.mul_sub]; omega
  rcases Int.lt_trichotomy (b / f - a / f) 0 with q | q | q
  · have := Int.mul_le_mul_of_nonneg_left (show b / f - a / f ≤ -1 by omega) (Int.le_of_lt hf)
    omega
  · rw [q, Int.mul_zero] at h2
    omega
  · have := Int.mul_le_mul_of_nonneg_left (show 1 ≤ b / f - a / f by omega) (Int.le_of_lt hf)
    omega

/-- How many ticks ahead of one have an offset that is due. -/
def aheadV (t : Int) (p : Int × Int) (f : Int) : Int := t / f * (p.2 - p.1) + (if t % f - p.1 < 0 then 0 else if p.2 - p.1 < t % f - p.1 then p.2 - p.1 else t % f - p.1)
theorem ahead_next {t f : Int} {p : Int × Int} (hf : 0 < f) (h0 : 0 ≤ p.1) (h1 : p.1 < p.2) (h2 : p.2 ≤ f) : aheadV (t + 1) p f = aheadV t p f + (if holdsB p (t % f) then 1 else 0) := by
  obtain ⟨a, b, c⟩ := ticks (t := t) hf
  have hh : holdsB p (t % f) = true ↔ p.1 ≤ t % f ∧ t % f < p.2 := by simp [holdsB, h0]
  unfold aheadV
  by_cases h : t % f + 1 < f
  · obtain ⟨e1, e2⟩ := tick_next hf h
    rw [e1, e2]
    by_cases k : holdsB p (t % f) = true
    · rw [if_pos k]; rw [hh] at k; repeat' split
      all_goals omega
    · rw [if_neg k]; rw [hh] at k; repeat' split
      all_goals omega
  · obtain ⟨e1, e2⟩ := tick_turn hf h
    rw [e1, e2, Int.add_mul, Int.one_mul]
    by_cases k : holdsB p (t % f) = true
    · rw [if_pos k]; rw [hh] at k; repeat' split
      all_goals omega
    · rw [if_neg k]; rw [hh] at k; repeat' split
      all_goals omega
theorem ahead_more {f : Int} {p : Int × Int} (hf : 0 < f) (h0 : 0 ≤ p.1) (h1 : p.1 < p.2) (h2 : p.2 ≤ f) (t : Int) (k : Nat) : aheadV t p f ≤ aheadV (t + k) p f ∧ aheadV (t + k) p f ≤ aheadV t p f + k := by
  induction k with
  | zero => simp
  | succ k ih =>
    have e : t + ((k + 1 : Nat) : Int) = (t + k) + 1 := by omega
    rw [e, ahead_next hf h0 h1 h2]
    split <;> omega
/-- How many of the ticks from a on, k of them, have an offset of p. -/
def cntT (p : Int × Int) (f a : Int) : Nat → Int
  | 0 => 0
  | k + 1 => cntT p f a k + (if holdsB p ((a + k) % f) then 1 else 0)
theorem cntT_is {f : Int} {p : Int × Int} (hf : 0 < f) (h0 : 0 ≤ p.1) (h1 : p.1 < p.2) (h2 : p.2 ≤ f) (a : Int) (k : Nat) : cntT p f a k = aheadV (a + k) p f - aheadV a p f := by
  induction k with
  | zero => simp [cntT]
  | succ k ih =>
    have e : a + ((k + 1 : Nat) : Int) = (a + k) + 1 := by omega
    rw [e, ahead_next hf h0 h1 h2, cntT, ih]
    omega
theorem cntT_same {f : Int} {p q : Int × Int} (h : ∀ x, 0 ≤ x → x < f → holdsB p x = holdsB q x) (hf : 0 < f) (a : Int) (k : Nat) : cntT p f a k = cntT q f a k := by
  induction k with
  | zero => rfl
  | succ k ih =>
    obtain ⟨_, b, c⟩ := ticks (t := a + k) hf
    rw [cntT, cntT, ih, h _ b c]
theorem cntT_none {f : Int} {p : Int × Int} (h : ∀ x, 0 ≤ x → x < f → holdsB p x = false) (hf : 0 < f) (a : Int) (k : Nat) : cntT p f a k = 0 := by
  induction k with
  | zero => rfl
  | succ k ih =>
    obtain ⟨_, b, c⟩ := ticks (t := a + k) hf
    rw [cntT, ih, h _ b c]
    rfl
theorem cntT_le (p : Int × Int) (f a : Int) (k : Nat) : 0 ≤ cntT p f a k ∧ cntT p f a k ≤ k := by
  induction k with
  | zero => simp [cntT]
  | succ k ih => rw [cntT]; split <;> omega
/-- What two spans have in common lies in both. -/
theorem meet_in {p : Int × Int} {f : Int} (hm : meetsB p (0, f) = true) : 0 ≤ (meetV p (0, f)).1 ∧ (meetV p (0, f)).1 < (meetV p (0, f)).2 ∧ (meetV p (0, f)).2 ≤ f := by
  have h := hm
  rw [meets_iff] at h
  simp only [Bool.and_eq_true, isB, decide_eq_true_eq] at h
  obtain ⟨⟨_, _⟩, h3, h4⟩ := h
  unfold meetV
  rw [if_pos hm]
  refine ⟨h3, h4, ?_⟩
  simp only [bothOf]
  split <;> omega
theorem meet_holds {p : Int × Int} {f x : Int} (h0 : 0 ≤ x) (h1 : x < f) : holdsB (meetV p (0, f)) x = holdsB p x := by
  rw [holds_meet]
  have : holdsB (0, f) x = true := by simp [holdsB, h0, h1]
  rw [this, Bool.and_true]
theorem meet_not {p : Int × Int} {f x : Int} (hm : meetsB p (0, f) = false) (h0 : 0 ≤ x) (h1 : x < f) : holdsB p x = false := by
  have h := meet_holds (p := p) h0 h1
  have e : meetV p (0, f) = (0, 0) := by simp [meetV, hm]
  rw [e] at h
  rw [← h]
  simp [holdsB]
end Go.Proofs.Ytecpplaobbkemaa

/- Package clock: ticks of offsets, the next tick, how many: each call by its contract. -/
namespace Go.Proofs.Ytecpplaobbkemaa
open Go.RowKit Go.Lib Go.Sort
set_option linter.unusedVariables false

theorem off_any (o f : Int) (w : World) : Calls Try.prog 50 #[.int .i64 o, .int .i64 f] w fun r w' => r = .returned (.bool (offB o f)) ∧ w.grownBy w' none := by
  have hc := right_any f w
  obtain ⟨x, hx⟩ : ∃ x, x = rightB f := ⟨_, rfl⟩
  rw [← hx] at hc
  have HC := Lib.hid hc
  have hv : offB o f = (x && holdsB (0, f) o) := by rw [hx]; exact offB_is o f
  have HV := Lib.hid hv
  clear hc hx hv
  cases x with
  | true =>
    go_enter Try.func50, Try.ntmps50
    go_wp2_with (first | (go_at_call 21; refine HC.out.mono ?_; rintro e w' ⟨rfl, rfl⟩) | (go_at_call 51; refine (whole_any _ _).mono ?_; rintro e w2 ⟨rfl, g2⟩) | (go_at_call 31; refine (holds_any (0, f) o _).mono ?_; rintro e w3 ⟨rfl, g3⟩))
    go_ret
    rw [HV.out]
    exact ⟨rfl, only_trans g2 g3⟩
  | false =>
    go_enter Try.func50, Try.ntmps50
    go_wp2_with (first | (go_at_call 21; refine HC.out.mono ?_; rintro e w' ⟨rfl, rfl⟩))
    go_ret
    rw [HV.out]
    exact ⟨rfl, only_refl _ _⟩

/-- The tick of an offset in a frame. -/
def atV (q o f : Int) : Int := if offB o f = true ∧ 0 ≤ q ∧ q ≤ 2147483647 then q * f + o else -1
theorem prod_small {q f : Int} (h0 : 0 ≤ q) (h1 : q ≤ 2147483647) (f0 : 1 ≤ f) (f1 : f ≤ 4096) : 0 ≤ q * f ∧ q * f ≤ 8796093018112 := by
  refine ⟨Int.mul_nonneg h0 (by omega), ?_⟩
  have := Int.mul_le_mul h1 f1 (by omega) (by omega)
  omega
theorem only_drew {a w : World} {row : Option Nat} (h : a.grownBy w row) {q : Nat} : a.grownBy (w.drewN q) row := only_drewN h q

theorem next_any (t o f : Int) (w : World) : Calls Try.prog 38 #[.int .i64 t, .int .i64 o, .int .i64 f] w fun r w' => r = .returned (.int .i64 (nextV t o f)) ∧ w.grownBy w' none := by
  have hc := off_any o f w
  by_cases ho : offB o f = true
  · have ho' := (offB_iff o f).1 ho
    obtain ⟨f1, f2, o1, o2⟩ := ho'
    rw [ho] at hc
    by_cases h1 : t ≤ 2147483647
    · have HC := Lib.hid hc
      have hv : nextV t o f = (if o < (max t 0) % f then max t 0 + (o + f) - (max t 0) % f else max t 0 + o - (max t 0) % f) := by unfold nextV; rw [if_pos ⟨ho, h1⟩]
      obtain ⟨m, hm⟩ : ∃ m, m = max t 0 := ⟨_, rfl⟩
      have hm0 : 0 ≤ m := by omega
      have hm1 : m ≤ 2147483647 := by omega
      obtain ⟨ra, r0, r1⟩ := ticks (t := m) (f := f) (by omega)
      clear ra
      have hfr : frV m f = (m / f, m % f) := by simp [frV, rightB, f1, f2, hm0]
      rw [← hm] at hv
      have hfa : ∀ W, Calls Try.prog 28 #[.int .i64 m, .int .i64 f] W fun r w' => r = .returned (.tuple #[.int .i64 (m / f), .int .i64 (m % f)]) ∧ ∃ q, W.drewN q = w' := fun W => by
        have := frame_any m f W (by omega)
        rw [hfr] at this
        exact this
      have HFA := Lib.hid hfa
      clear hfa hfr hc ho
      obtain ⟨r, hr⟩ : ∃ r, r = m % f := ⟨_, rfl⟩
      obtain ⟨q, hq⟩ : ∃ q, q = m / f := ⟨_, rfl⟩
      rw [← hr] at r0 r1 hv HFA
      rw [← hq] at HFA
      clear hr hq
      have hcase : (t < 0 ∧ m = 0) ∨ (0 ≤ t ∧ m = t) := by omega
      rcases hcase with ⟨ht, hmt⟩ | ⟨ht, hmt⟩
      all_goals
        subst hmt
        clear hm
        by_cases hlt : o < r
        · rw [if_pos hlt] at hv
          rw [hv]
          clear hv
          go_enter Try.func38, Try.ntmps38
          go_wp2_with (first | (go_at_call 50; refine HC.out.mono ?_; rintro e w2 ⟨rfl, g2⟩) | (go_at_call 28; refine (HFA.out _).mono ?_; rintro e w3 ⟨rfl, dq, rfl⟩))
          go_ret
          exact ⟨ret_int (by omega), only_drew g2⟩
        · rw [if_neg hlt] at hv
          rw [hv]
          clear hv
          go_enter Try.func38, Try.ntmps38
          go_wp2_with (first | (go_at_call 50; refine HC.out.mono ?_; rintro e w2 ⟨rfl, g2⟩) | (go_at_call 28; refine (HFA.out _).mono ?_; rintro e w3 ⟨rfl, dq, rfl⟩))
          go_ret
          exact ⟨ret_int (by omega), only_drew g2⟩
    · have hv : nextV t o f = -1 := by simp [nextV, h1]
      have HC := Lib.hid hc
      rw [hv]
      clear hc ho hv
      go_enter Try.func38, Try.ntmps38
      go_wp2_with (go_at_call 50; refine HC.out.mono ?_; rintro e w2 ⟨rfl, g2⟩)
      go_ret
      exact ⟨rfl, g2⟩
  · have hf : offB o f = false := by simpa using ho
    have hv : nextV t o f = -1 := by simp [nextV, hf]
    rw [hf] at hc
    have HC := Lib.hid hc
    rw [hv]
    clear hc ho hv hf
    go_enter Try.func38, Try.ntmps38
    go_wp2_with (go_at_call 50; refine HC.out.mono ?_; rintro e w2 ⟨rfl, g2⟩)
    go_ret
    exact ⟨rfl, g2⟩
end Go.Proofs.Ytecpplaobbkemaa
