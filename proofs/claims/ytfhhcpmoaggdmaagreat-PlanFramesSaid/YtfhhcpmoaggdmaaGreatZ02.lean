import Derived.Test.YtfhhcpmoaggdmaaGreatZ01
import Derived.Deep.RegionHeld3
import Derived.Deep.Cut
import Derived.Lib.QuietBelow
import Derived.BigQuiet
set_option linter.all false
/- Meet: its contract; what it has to do with the document's answer. -/
namespace Go.Proofs.YtfhhcpmoaggdmaaGreat
open Go.RowKit Go.Lib Go.Sort
set_option linter.unusedVariables false

theorem meets_iff (a b : Int × Int) : meetsB a b = (isB a && isB b && isB (bothOf a b)) := by
  obtain ⟨a1, a2⟩ := a
  obtain ⟨b1, b2⟩ := b
  rw [Bool.eq_iff_iff]
  by_cases h1 : a1 < b1 <;> by_cases h2 : b2 < a2 <;> simp only [meetsB, isB, holdsB, bothOf, Bool.and_eq_true, Bool.or_eq_true, decide_eq_true_eq, h1, h2, if_true, if_false] <;> omega
theorem holds_meet (a b : Int × Int) (k : Int) : holdsB (meetV a b) k = (holdsB a k && holdsB b k) := by
  obtain ⟨a1, a2⟩ := a
  obtain ⟨b1, b2⟩ := b
  rw [Bool.eq_iff_iff]
  by_cases h : meetsB (a1, a2) (b1, b2) = true
  · have h' := h
    simp only [meetsB, isB, holdsB, Bool.and_eq_true, Bool.or_eq_true, decide_eq_true_eq] at h'
    by_cases h1 : a1 < b1 <;> by_cases h2 : b2 < a2 <;> simp only [meetV, h, holdsB, bothOf, Bool.and_eq_true, decide_eq_true_eq, h1, h2, if_true, if_false] <;> omega
  · have h' := h
    simp only [meetsB, isB, holdsB, Bool.and_eq_true, Bool.or_eq_true, decide_eq_true_eq] at h'
    simp only [meetV, h, holdsB, Bool.and_eq_true, decide_eq_true_eq, if_false, Bool.false_eq_true]
    omega

theorem boxes3 {w w2 : World} {p q : Int × Int} (g : (((w.alloc (.cells #[.int .i64 p.1, .int .i64 p.2] 40)).alloc (.cells #[.int .i64 q.1, .int .i64 q.2] 40)).alloc (.cells #[.int .i64 0, .int .i64 0] 40)).grownBy w2 none) :
    w2.cell? ⟨w.heap.size, 0, none⟩ = some (.int .i64 p.1) ∧ w2.cell? ⟨w.heap.size, 1, none⟩ = some (.int .i64 p.2) ∧ w2.cell? ⟨w.heap.size + 1, 0, none⟩ = some (.int .i64 q.1) ∧ w2.cell? ⟨w.heap.size + 1, 1, none⟩ = some (.int .i64 q.2) ∧
    w2.cell? ⟨w.heap.size + 1 + 1, 0, none⟩ = some (.int .i64 0) ∧ w2.cell? ⟨w.heap.size + 1 + 1, 1, none⟩ = some (.int .i64 0) ∧ w2.frozen? ⟨w.heap.size + 1 + 1, 0, none⟩ = false ∧ w2.frozen? ⟨w.heap.size + 1 + 1, 1, none⟩ = false := by
  have h1 := (((Blk.new w 40 #[.int .i64 p.1, .int .i64 p.2]).alloc (.cells #[.int .i64 q.1, .int .i64 q.2] 40)).alloc (.cells #[.int .i64 0, .int .i64 0] 40)).only g (by simp)
  have h2 := ((Blk.new (w.alloc (.cells #[.int .i64 p.1, .int .i64 p.2] 40)) 40 #[.int .i64 q.1, .int .i64 q.2]).alloc (.cells #[.int .i64 0, .int .i64 0] 40)).only g (by simp)
  have h3 := (Blk.new ((w.alloc (.cells #[.int .i64 p.1, .int .i64 p.2] 40)).alloc (.cells #[.int .i64 q.1, .int .i64 q.2] 40)) 40 #[.int .i64 0, .int .i64 0]).only g (by simp)
  refine ⟨h1.cell 0, h1.cell 1, ?_, ?_, ?_, ?_, ?_, ?_⟩
  · simpa using h2.cell 0
  · simpa using h2.cell 1
  · simpa using h3.cell 0
  · simpa using h3.cell 1
  · simpa using h3.free 0
  · simpa using h3.free 1

/-- Only blocks from B on were written. -/
theorem only_far {a w : World} (h : Below a.heap.size a w) : a.grownBy w none := ⟨h.os, h.tape, h.output, h.size, fun i hi _ => h.block i hi⟩

set_option maxHeartbeats 3200000 in
theorem meet_any (p q : Int × Int) (w : World) : Calls Tryz.prog 89 #[spv p, spv q] w fun e w' => e = .returned (.tuple #[spv (meetV p q), .bool (meetsB p q)]) ∧ w.grownBy w' none := by
  have key : ∀ (r : Ending) (w' : World) (v : Int × Int) (x : Bool), meetV p q = v → meetsB p q = x → r = .returned (.tuple #[spv v, .bool x]) → Below w.heap.size w w' → r = .returned (.tuple #[spv (meetV p q), .bool (meetsB p q)]) ∧ w.grownBy w' none := by
    intro r w' v x h1 h2 h3 h4
    rw [h1, h2]
    exact ⟨h3, only_far h4⟩
  have KEY := Lib.hid key
  clear key
  have hb0 : Below w.heap.size w (((w.alloc (.cells #[.int .i64 p.1, .int .i64 p.2] 40)).alloc (.cells #[.int .i64 q.1, .int .i64 q.2] 40)).alloc (.cells #[.int .i64 0, .int .i64 0] 40)) := (((Below.refl _ _).alloc (Nat.le_refl _) _).alloc (by simp) _).alloc (by simp; omega) _
  have HB0 := Lib.hid hb0
  clear hb0
  by_cases hp : isB p = true
  · by_cases hq : isB q = true
    · obtain ⟨a, b⟩ := p
      obtain ⟨c, d⟩ := q
      by_cases h1 : a < c <;> by_cases h2 : d < b
      · by_cases hxy : isB (c, d) = true
        · have hm : meetsB (a, b) (c, d) = true := by rw [meets_iff]; simp [hp, hq, bothOf, h1, h2, hxy]
          have hv : meetV (a, b) (c, d) = (c, d) := by simp [meetV, hm, bothOf, h1, h2]
          have HM := Lib.hid hm
          have HV := Lib.hid hv
          clear hm hv
          go_enter Tryz.func89, Tryz.ntmps89
          go_wp2_with (first | (go_at_call 65; ((with_reducible refine (is_any (a, b) _).mono ?_)); rintro e w2 ⟨rfl, g2⟩; have G2 := Lib.hid g2; have C2 := Lib.hid (boxes3 (p := (a, b)) (q := (c, d)) G2.out); obtain ⟨e0, e1, e2, e3, e4, e5, e6, e7⟩ := C2.out; clear g2) | (go_at_call 65; ((with_reducible refine (is_any (c, d) _).mono ?_)); rintro e w3 ⟨rfl, g3⟩; have G3 := Lib.hid (only_trans G2.out g3); have C3 := Lib.hid (boxes3 (p := (a, b)) (q := (c, d)) G3.out); obtain ⟨f0, f1, f2, f3, f4, f5, f6, f7⟩ := C3.out; clear g3) | (go_at_call 65; ((with_reducible refine (is_any (c, d) _).mono ?_)); rintro e w4 ⟨rfl, g4⟩; have hblk := (Blk.new w3 40 #[.int .i64 c, .int .i64 d]).only g4 (by simp); have k0 := hblk.cell 0; have k1 := hblk.cell 1; simp at k0 k1; have G4 := Lib.hid (only_trans (only_trans G3.out (only_alloc (only_refl _ _) (.cells #[.int .i64 c, .int .i64 d] 40))) g4); obtain ⟨j0, j1, j2, j3, j4, j5, j6, j7⟩ := boxes3 (p := (a, b)) (q := (c, d)) G4.out; clear g4 hblk))
          refine bodyPost_ret (v := .tuple #[.agg #[.int .i64 c, .int .i64 d], .bool true]) (by simp [results, Tryz.results89, go_sem, j4, j5]) rfl (KEY.out _ _ (c, d) true HV.out HM.out rfl ?_)
          have B3 := HB0.out.trans (below_of_only G4.out HB0.out.size (by simp))
          exact (B3.setCell (by simp; omega) _).setCell (by simp; omega) _
        · exact absurd hq hxy
      · by_cases hxy : isB (c, b) = true
        · have hm : meetsB (a, b) (c, d) = true := by rw [meets_iff]; simp [hp, hq, bothOf, h1, h2, hxy]
          have hv : meetV (a, b) (c, d) = (c, b) := by simp [meetV, hm, bothOf, h1, h2]
          have HM := Lib.hid hm
          have HV := Lib.hid hv
          clear hm hv
          go_enter Tryz.func89, Tryz.ntmps89
          go_wp2_with (first | (go_at_call 65; ((with_reducible refine (is_any (a, b) _).mono ?_)); rintro e w2 ⟨rfl, g2⟩; have G2 := Lib.hid g2; have C2 := Lib.hid (boxes3 (p := (a, b)) (q := (c, d)) G2.out); obtain ⟨e0, e1, e2, e3, e4, e5, e6, e7⟩ := C2.out; clear g2) | (go_at_call 65; ((with_reducible refine (is_any (c, d) _).mono ?_)); rintro e w3 ⟨rfl, g3⟩; have G3 := Lib.hid (only_trans G2.out g3); have C3 := Lib.hid (boxes3 (p := (a, b)) (q := (c, d)) G3.out); obtain ⟨f0, f1, f2, f3, f4, f5, f6, f7⟩ := C3.out; clear g3) | (go_at_call 65; ((with_reducible refine (is_any (c, b) _).mono ?_)); rintro e w4 ⟨rfl, g4⟩; have hblk := (Blk.new w3 40 #[.int .i64 c, .int .i64 b]).only g4 (by simp); have k0 := hblk.cell 0; have k1 := hblk.cell 1; simp at k0 k1; have G4 := Lib.hid (only_trans (only_trans G3.out (only_alloc (only_refl _ _) (.cells #[.int .i64 c, .int .i64 b] 40))) g4); obtain ⟨j0, j1, j2, j3, j4, j5, j6, j7⟩ := boxes3 (p := (a, b)) (q := (c, d)) G4.out; clear g4 hblk))
          refine bodyPost_ret (v := .tuple #[.agg #[.int .i64 c, .int .i64 b], .bool true]) (by simp [results, Tryz.results89, go_sem, j4, j5]) rfl (KEY.out _ _ (c, b) true HV.out HM.out rfl ?_)
          have B3 := HB0.out.trans (below_of_only G4.out HB0.out.size (by simp))
          exact (B3.setCell (by simp; omega) _).setCell (by simp; omega) _
        · have hxy' : isB (c, b) = false := by simpa using hxy
          have hm : meetsB (a, b) (c, d) = false := by rw [meets_iff]; simp [hp, hq, bothOf, h1, h2, hxy']
          have hv : meetV (a, b) (c, d) = (0, 0) := by simp [meetV, hm]
          have HM := Lib.hid hm
          have HV := Lib.hid hv
          clear hm hv hxy
          go_enter Tryz.func89, Tryz.ntmps89
          go_wp2_with (first | (go_at_call 65; ((with_reducible refine (is_any (a, b) _).mono ?_)); rintro e w2 ⟨rfl, g2⟩; have G2 := Lib.hid g2; have C2 := Lib.hid (boxes3 (p := (a, b)) (q := (c, d)) G2.out); obtain ⟨e0, e1, e2, e3, e4, e5, e6, e7⟩ := C2.out; clear g2) | (go_at_call 65; ((with_reducible refine (is_any (c, d) _).mono ?_)); rintro e w3 ⟨rfl, g3⟩; have G3 := Lib.hid (only_trans G2.out g3); have C3 := Lib.hid (boxes3 (p := (a, b)) (q := (c, d)) G3.out); obtain ⟨f0, f1, f2, f3, f4, f5, f6, f7⟩ := C3.out; clear g3) | (go_at_call 65; ((with_reducible refine (is_any (c, b) _).mono ?_)); rintro e w4 ⟨rfl, g4⟩; have hblk := (Blk.new w3 40 #[.int .i64 c, .int .i64 b]).only g4 (by simp); have k0 := hblk.cell 0; have k1 := hblk.cell 1; simp at k0 k1; have G4 := Lib.hid (only_trans (only_trans G3.out (only_alloc (only_refl _ _) (.cells #[.int .i64 c, .int .i64 b] 40))) g4); obtain ⟨j0, j1, j2, j3, j4, j5, j6, j7⟩ := boxes3 (p := (a, b)) (q := (c, d)) G4.out; clear g4 hblk))
          refine bodyPost_ret (v := .tuple #[.agg #[.int .i64 0, .int .i64 0], .bool false]) (by simp [results, Tryz.results89, go_sem, j4, j5]) rfl (KEY.out _ _ (0, 0) false HV.out HM.out rfl ?_)
          have B3 := HB0.out.trans (below_of_only G4.out HB0.out.size (by simp))
          exact (B3.setCell (by simp; omega) _).setCell (by simp; omega) _
      · by_cases hxy : isB (a, d) = true
        · have hm : meetsB (a, b) (c, d) = true := by rw [meets_iff]; simp [hp, hq, bothOf, h1, h2, hxy]
          have hv : meetV (a, b) (c, d) = (a, d) := by simp [meetV, hm, bothOf, h1, h2]
          have HM := Lib.hid hm
          have HV := Lib.hid hv
          clear hm hv
          go_enter Tryz.func89, Tryz.ntmps89
          go_wp2_with (first | (go_at_call 65; ((with_reducible refine (is_any (a, b) _).mono ?_)); rintro e w2 ⟨rfl, g2⟩; have G2 := Lib.hid g2; have C2 := Lib.hid (boxes3 (p := (a, b)) (q := (c, d)) G2.out); obtain ⟨e0, e1, e2, e3, e4, e5, e6, e7⟩ := C2.out; clear g2) | (go_at_call 65; ((with_reducible refine (is_any (c, d) _).mono ?_)); rintro e w3 ⟨rfl, g3⟩; have G3 := Lib.hid (only_trans G2.out g3); have C3 := Lib.hid (boxes3 (p := (a, b)) (q := (c, d)) G3.out); obtain ⟨f0, f1, f2, f3, f4, f5, f6, f7⟩ := C3.out; clear g3) | (go_at_call 65; ((with_reducible refine (is_any (a, d) _).mono ?_)); rintro e w4 ⟨rfl, g4⟩; have hblk := (Blk.new w3 40 #[.int .i64 a, .int .i64 d]).only g4 (by simp); have k0 := hblk.cell 0; have k1 := hblk.cell 1; simp at k0 k1; have G4 := Lib.hid (only_trans (only_trans G3.out (only_alloc (only_refl _ _) (.cells #[.int .i64 a, .int .i64 d] 40))) g4); obtain ⟨j0, j1, j2, j3, j4, j5, j6, j7⟩ := boxes3 (p := (a, b)) (q := (c, d)) G4.out; clear g4 hblk))
          refine bodyPost_ret (v := .tuple #[.agg #[.int .i64 a, .int .i64 d], .bool true]) (by simp [results, Tryz.results89, go_sem, j4, j5]) rfl (KEY.out _ _ (a, d) true HV.out HM.out rfl ?_)
          have B3 := HB0.out.trans (below_of_only G4.out HB0.out.size (by simp))
          exact (B3.setCell (by simp; omega) _).setCell (by simp; omega) _
        · have hxy' : isB (a, d) = false := by simpa using hxy
          have hm : meetsB (a, b) (c, d) = false := by rw [meets_iff]; simp [hp, hq, bothOf, h1, h2, hxy']
          have hv : meetV (a, b) (c, d) = (0, 0) := by simp [meetV, hm]
          have HM := Lib.hid hm
          have HV := Lib.hid hv
          clear hm hv hxy
          go_enter Tryz.func89, Tryz.ntmps89
          go_wp2_with (first | (go_at_call 65; ((with_reducible refine (is_any (a, b) _).mono ?_)); rintro e w2 ⟨rfl, g2⟩; have G2 := Lib.hid g2; have C2 := Lib.hid (boxes3 (p := (a, b)) (q := (c, d)) G2.out); obtain ⟨e0, e1, e2, e3, e4, e5, e6, e7⟩ := C2.out; clear g2) | (go_at_call 65; ((with_reducible refine (is_any (c, d) _).mono ?_)); rintro e w3 ⟨rfl, g3⟩; have G3 := Lib.hid (only_trans G2.out g3); have C3 := Lib.hid (boxes3 (p := (a, b)) (q := (c, d)) G3.out); obtain ⟨f0, f1, f2, f3, f4, f5, f6, f7⟩ := C3.out; clear g3) | (go_at_call 65; ((with_reducible refine (is_any (a, d) _).mono ?_)); rintro e w4 ⟨rfl, g4⟩; have hblk := (Blk.new w3 40 #[.int .i64 a, .int .i64 d]).only g4 (by simp); have k0 := hblk.cell 0; have k1 := hblk.cell 1; simp at k0 k1; have G4 := Lib.hid (only_trans (only_trans G3.out (only_alloc (only_refl _ _) (.cells #[.int .i64 a, .int .i64 d] 40))) g4); obtain ⟨j0, j1, j2, j3, j4, j5, j6, j7⟩ := boxes3 (p := (a, b)) (q := (c, d)) G4.out; clear g4 hblk))
          refine bodyPost_ret (v := .tuple #[.agg #[.int .i64 0, .int .i64 0], .bool false]) (by simp [results, Tryz.results89, go_sem, j4, j5]) rfl (KEY.out _ _ (0, 0) false HV.out HM.out rfl ?_)
          have B3 := HB0.out.trans (below_of_only G4.out HB0.out.size (by simp))
          exact (B3.setCell (by simp; omega) _).setCell (by simp; omega) _
      · by_cases hxy : isB (a, b) = true
        · have hm : meetsB (a, b) (c, d) = true := by rw [meets_iff]; simp [hp, hq, bothOf, h1, h2, hxy]
          have hv : meetV (a, b) (c, d) = (a, b) := by simp [meetV, hm, bothOf, h1, h2]
          have HM := Lib.hid hm
          have HV := Lib.hid hv
          clear hm hv
          go_enter Tryz.func89, Tryz.ntmps89
          go_wp2_with (first | (go_at_call 65; ((with_reducible refine (is_any (a, b) _).mono ?_)); rintro e w2 ⟨rfl, g2⟩; have G2 := Lib.hid g2; have C2 := Lib.hid (boxes3 (p := (a, b)) (q := (c, d)) G2.out); obtain ⟨e0, e1, e2, e3, e4, e5, e6, e7⟩ := C2.out; clear g2) | (go_at_call 65; ((with_reducible refine (is_any (c, d) _).mono ?_)); rintro e w3 ⟨rfl, g3⟩; have G3 := Lib.hid (only_trans G2.out g3); have C3 := Lib.hid (boxes3 (p := (a, b)) (q := (c, d)) G3.out); obtain ⟨f0, f1, f2, f3, f4, f5, f6, f7⟩ := C3.out; clear g3) | (go_at_call 65; ((with_reducible refine (is_any (a, b) _).mono ?_)); rintro e w4 ⟨rfl, g4⟩; have hblk := (Blk.new w3 40 #[.int .i64 a, .int .i64 b]).only g4 (by simp); have k0 := hblk.cell 0; have k1 := hblk.cell 1; simp at k0 k1; have G4 := Lib.hid (only_trans (only_trans G3.out (only_alloc (only_refl _ _) (.cells #[.int .i64 a, .int .i64 b] 40))) g4); obtain ⟨j0, j1, j2, j3, j4, j5, j6, j7⟩ := boxes3 (p := (a, b)) (q := (c, d)) G4.out; clear g4 hblk))
          refine bodyPost_ret (v := .tuple #[.agg #[.int .i64 a, .int .i64 b], .bool true]) (by simp [results, Tryz.results89, go_sem, j4, j5]) rfl (KEY.out _ _ (a, b) true HV.out HM.out rfl ?_)
          have B3 := HB0.out.trans (below_of_only G4.out HB0.out.size (by simp))
          exact (B3.setCell (by simp; omega) _).setCell (by simp; omega) _
        · exact absurd hp hxy
    · have hq' : isB q = false := by simpa using hq
      have hm : meetsB p q = false := by rw [meets_iff]; simp [hq']
      have hv : meetV p q = (0, 0) := by simp [meetV, hm]
      have HM := Lib.hid hm
      have HV := Lib.hid hv
      clear hm hv hq
      obtain ⟨a, b⟩ := p
      obtain ⟨c, d⟩ := q
      go_enter Tryz.func89, Tryz.ntmps89
      go_wp2_with (first | (go_at_call 65; ((with_reducible refine (is_any (a, b) _).mono ?_)); rintro e w2 ⟨rfl, g2⟩; have G2 := Lib.hid g2; have C2 := Lib.hid (boxes3 (p := (a, b)) (q := (c, d)) G2.out); obtain ⟨e0, e1, e2, e3, e4, e5, e6, e7⟩ := C2.out; clear g2) | (go_at_call 65; ((with_reducible refine (is_any (c, d) _).mono ?_)); rintro e w3 ⟨rfl, g3⟩; have G3 := Lib.hid (only_trans G2.out g3); have C3 := Lib.hid (boxes3 (p := (a, b)) (q := (c, d)) G3.out); obtain ⟨f0, f1, f2, f3, f4, f5, f6, f7⟩ := C3.out; clear g3))
      refine bodyPost_ret (v := .tuple #[.agg #[.int .i64 0, .int .i64 0], .bool false]) (by simp [results, Tryz.results89, go_sem, f4, f5]) rfl (KEY.out _ _ (0, 0) false HV.out HM.out rfl ?_)
      have B3 := HB0.out.trans (below_of_only G3.out HB0.out.size (by simp))
      exact (B3.setCell (by simp; omega) _).setCell (by simp; omega) _
  · have hp' : isB p = false := by simpa using hp
    have hm : meetsB p q = false := by rw [meets_iff]; simp [hp']
    have hv : meetV p q = (0, 0) := by simp [meetV, hm]
    have HM := Lib.hid hm
    have HV := Lib.hid hv
    clear hm hv hp
    obtain ⟨a, b⟩ := p
    obtain ⟨c, d⟩ := q
    go_enter Tryz.func89, Tryz.ntmps89
    go_wp2_with (go_at_call 65; ((with_reducible refine (is_any (a, b) _).mono ?_)); rintro e w2 ⟨rfl, g2⟩; have G2 := Lib.hid g2; have C2 := Lib.hid (boxes3 (p := (a, b)) (q := (c, d)) G2.out); obtain ⟨e0, e1, e2, e3, e4, e5, e6, e7⟩ := C2.out; clear g2)
    refine bodyPost_ret (v := .tuple #[.agg #[.int .i64 0, .int .i64 0], .bool false]) (by simp [results, Tryz.results89, go_sem, e4, e5]) rfl (KEY.out _ _ (0, 0) false HV.out HM.out rfl ?_)
    have B3 := HB0.out.trans (below_of_only G2.out HB0.out.size (by simp))
    exact (B3.setCell (by simp; omega) _).setCell (by simp; omega) _
end Go.Proofs.YtfhhcpmoaggdmaaGreat

/- Package conf: its tables, and the small functions, by their contracts. -/
namespace Go.Proofs.YtfhhcpmoaggdmaaGreat
open Go.RowKit Go.Lib Go.Sort
set_option linter.unusedVariables false

theorem bel0 {P : Program} {f : FuncId} {args : Array Value} {w : World} {v : Value} (h : Calls P f args w fun e w' => e = .returned v ∧ w = w') : Calls P f args w fun e w' => e = .returned v ∧ Below w.heap.size w w' := h.mono fun e w' ⟨h1, h2⟩ => by subst h2; exact ⟨h1, Below.refl _ _⟩
theorem bel1 {P : Program} {f : FuncId} {args : Array Value} {w : World} {v : Value} (h : Calls P f args w fun e w' => e = .returned v ∧ w.grownBy w' none) : Calls P f args w fun e w' => e = .returned v ∧ Below w.heap.size w w' := h.mono fun e w' ⟨h1, h2⟩ => ⟨h1, below_of_only h2 (Nat.le_refl _) (by simp)⟩
theorem rg0 {P : Program} {f : FuncId} {args : Array Value} {w : World} {d : Nat} {os : Array Obj} {v : Value} (h : Calls P f args (grow (redrawn w d) os) fun e w' => e = .returned v ∧ grow (redrawn w d) os = w') : Calls P f args (grow (redrawn w d) os) fun e w'' => e = .returned v ∧ ∃ p : Regrown, w'' = grow (redrawn w p.d) p.os := Calls.regrown_of (bel0 h)
theorem rg1 {P : Program} {f : FuncId} {args : Array Value} {w : World} {d : Nat} {os : Array Obj} {v : Value} (h : Calls P f args (grow (redrawn w d) os) fun e w' => e = .returned v ∧ (grow (redrawn w d) os).grownBy w' none) : Calls P f args (grow (redrawn w d) os) fun e w'' => e = .returned v ∧ ∃ p : Regrown, w'' = grow (redrawn w p.d) p.os := Calls.regrown_of (bel1 h)
theorem blk_re {w : World} {g : Nat} {t : TypeId} {cs : Array Value} (h : Blk w g t cs) (d : Nat) (os : Array Obj) (i : Nat) : (grow (redrawn w d) os).cell? ⟨g, i, none⟩ = cs[i]? := by
  rw [(below_regrown w d os).cell (p := ⟨g, i, none⟩) h.lt, h.cell]
theorem only_re (w : World) (d : Nat) (os : Array Obj) : w.grownBy (grow (redrawn w d) os) none := only_far (below_regrown w d os)
theorem box1 (w : World) (t : TypeId) (cs : Array Value) : ∃ W, W = w.alloc (.cells cs t) ∧ w.grownBy W none ∧ Blk W w.heap.size t cs := ⟨_, rfl, only_alloc (only_refl _ _) _, Blk.new w t cs⟩
theorem box2 (w : World) (t : TypeId) (cs : Array Value) (t2 : TypeId) (cs2 : Array Value) : ∃ W, W = (w.alloc (.cells cs t)).alloc (.cells cs2 t2) ∧ w.grownBy W none ∧ Blk W w.heap.size t cs ∧ Blk W (w.heap.size + 1) t2 cs2 :=
  ⟨_, rfl, only_alloc (only_alloc (only_refl _ _) _) _, (Blk.new w t cs).alloc _, by simpa using Blk.new (w.alloc (.cells cs t)) t2 cs2⟩
/-- Fits an int. -/
def fitI (x : Int) : Prop := -9223372036854775808 ≤ x ∧ x ≤ 9223372036854775807
theorem fitI_of {x : Int} (w : (Lit.int .i64 x).wf = true) : fitI x := by
  simp only [Lit.wf, Bool.and_eq_true, decide_eq_true_eq] at w
  have e1 : IntKind.i64.min = -9223372036854775808 := by kernel_rfl
  have e2 : IntKind.i64.max = 9223372036854775807 := by kernel_rfl
  unfold fitI
  omega
/-- A window, or a slot: owner, from, to. -/
abbrev W3 := Int × Int × Int
abbrev w3v (x : W3) : Value := .agg #[.int .i64 x.1, .int .i64 x.2.1, .int .i64 x.2.2]
/-- Its ticks. -/
abbrev w3s (x : W3) : Int × Int := (x.2.1, x.2.2)
/-- A client's row. -/
structure Cl where
  base : Int
  size : Int
  ring : Int
  at' : Int
  quota : Int
  queue : Int
  mac : Int
  chan : Int
  first : Int
  secs : Int
abbrev clA (x : Cl) : Array Value := #[.int .i64 x.base, .int .i64 x.size, .int .i64 x.ring, .int .i64 x.at', .int .i64 x.quota, .int .i64 x.queue, .int .i64 x.mac, .int .i64 x.chan, .int .i64 x.first, .int .i64 x.secs]
abbrev clv (x : Cl) : Value := .agg (clA x)
def FitW3 (x : W3) : Prop := fitI x.1 ∧ fitI x.2.1 ∧ fitI x.2.2
def FitCl (x : Cl) : Prop := fitI x.base ∧ fitI x.size ∧ fitI x.ring ∧ fitI x.at' ∧ fitI x.quota ∧ fitI x.queue ∧ fitI x.mac ∧ fitI x.chan ∧ fitI x.first ∧ fitI x.secs
/-- The cells of a window that lies somewhere. -/
def W3C (w : World) (b o : Nat) (x : W3) : Prop := w.cell? ⟨b, o, none⟩ = some (.int .i64 x.1) ∧ w.cell? ⟨b, o + 1, none⟩ = some (.int .i64 x.2.1) ∧ w.cell? ⟨b, o + 2, none⟩ = some (.int .i64 x.2.2)
def ClC (w : World) (b o : Nat) (x : Cl) : Prop := w.cell? ⟨b, o, none⟩ = some (.int .i64 x.base) ∧ w.cell? ⟨b, o + 1, none⟩ = some (.int .i64 x.size) ∧ w.cell? ⟨b, o + 2, none⟩ = some (.int .i64 x.ring) ∧ w.cell? ⟨b, o + 3, none⟩ = some (.int .i64 x.at') ∧ w.cell? ⟨b, o + 4, none⟩ = some (.int .i64 x.quota) ∧ w.cell? ⟨b, o + 5, none⟩ = some (.int .i64 x.queue) ∧ w.cell? ⟨b, o + 6, none⟩ = some (.int .i64 x.mac) ∧ w.cell? ⟨b, o + 7, none⟩ = some (.int .i64 x.chan) ∧ w.cell? ⟨b, o + 8, none⟩ = some (.int .i64 x.first) ∧ w.cell? ⟨b, o + 9, none⟩ = some (.int .i64 x.secs)
section
variable {w w' : World} {b o : Nat}
theorem W3C.grown {x : W3} (h : W3C w b o x) (hb : b < w.heap.size) (g : w.grownBy w' none) : W3C w' b o x := by
  have hk := g.block b hb (by simp)
  have hcell : ∀ q, w'.cell? ⟨b, q, none⟩ = w.cell? ⟨b, q, none⟩ := fun q => by simp only [World.cell?, hk]
  unfold W3C
  simp only [hcell]
  exact h
theorem ClC.grown {x : Cl} (h : ClC w b o x) (hb : b < w.heap.size) (g : w.grownBy w' none) : ClC w' b o x := by
  have hk := g.block b hb (by simp)
  have hcell : ∀ q, w'.cell? ⟨b, q, none⟩ = w.cell? ⟨b, q, none⟩ := fun q => by simp only [World.cell?, hk]
  unfold ClC
  simp only [hcell]
  exact h
end
/-- Rows that came in, or were made. -/
def Row3 (w : World) (A : Option Addr) (n : Nat) (d : Nat → W3) : Prop := (A = none → n = 0) ∧ (0 < n → ∃ b off, A = some ⟨b, off, none⟩ ∧ b < w.heap.size ∧ ∀ i, i < n → W3C w b (off + i * 3) (d i))
def RowC (w : World) (A : Option Addr) (n : Nat) (d : Nat → Cl) : Prop := (A = none → n = 0) ∧ (0 < n → ∃ b off, A = some ⟨b, off, none⟩ ∧ b < w.heap.size ∧ ∀ i, i < n → ClC w b (off + i * 10) (d i))
section
variable {w w' : World} {A : Option Addr} {n : Nat}
theorem Row3.grown {d : Nat → W3} (h : Row3 w A n d) (g : w.grownBy w' none) : Row3 w' A n d := ⟨h.1, fun hp => by
  obtain ⟨b, off, e, hb, hc⟩ := h.2 hp
  exact ⟨b, off, e, Nat.lt_of_lt_of_le hb g.size, fun i hi => (hc i hi).grown hb g⟩⟩
theorem RowC.grown {d : Nat → Cl} (h : RowC w A n d) (g : w.grownBy w' none) : RowC w' A n d := ⟨h.1, fun hp => by
  obtain ⟨b, off, e, hb, hc⟩ := h.2 hp
  exact ⟨b, off, e, Nat.lt_of_lt_of_le hb g.size, fun i hi => (hc i hi).grown hb g⟩⟩
theorem Row3.cut {d : Nat → W3} (h : Row3 w A n d) (m : Nat) (hm : m ≤ n) : Row3 w A m d := ⟨fun e => by have := h.1 e; omega, fun hp => by
  obtain ⟨b, off, e, hb, hc⟩ := h.2 (by omega)
  exact ⟨b, off, e, hb, fun i hi => hc i (by omega)⟩⟩
theorem RowC.cut {d : Nat → Cl} (h : RowC w A n d) (m : Nat) (hm : m ≤ n) : RowC w A m d := ⟨fun e => by have := h.1 e; omega, fun hp => by
  obtain ⟨b, off, e, hb, hc⟩ := h.2 (by omega)
  exact ⟨b, off, e, hb, fun i hi => hc i (by omega)⟩⟩
end
/-- A machine's tables. -/
structure Cf where
  fr : Int
  wA : Option Addr
  wn : Nat
  wc : Nat
  wd : Nat → W3
  sA : Option Addr
  sn : Nat
  sc : Nat
  sd : Nat → W3
  cA : Option Addr
  cn : Nat
  cc : Nat
  cd : Nat → Cl
abbrev cfA (c : Cf) : Array Value := #[.int .i64 c.fr, .slice c.wA c.wn c.wc, .slice c.sA c.sn c.sc, .slice c.cA c.cn c.cc]
abbrev cfv (c : Cf) : Value := .agg (cfA c)
def FitCf (c : Cf) : Prop := fitI c.fr ∧ (c.wn ≤ c.wc ∧ c.wc ≤ 9223372036854775807 ∧ ∀ i, i < c.wn → FitW3 (c.wd i)) ∧ (c.sn ≤ c.sc ∧ c.sc ≤ 9223372036854775807 ∧ ∀ i, i < c.sn → FitW3 (c.sd i)) ∧ (c.cn ≤ c.cc ∧ c.cc ≤ 9223372036854775807 ∧ ∀ i, i < c.cn → FitCl (c.cd i))
def CfV (w : World) (c : Cf) : Prop := Row3 w c.wA c.wn c.wd ∧ Row3 w c.sA c.sn c.sd ∧ RowC w c.cA c.cn c.cd
theorem CfV.grown {w w' : World} {c : Cf} (h : CfV w c) (g : w.grownBy w' none) : CfV w' c := ⟨h.1.grown g, h.2.1.grown g, h.2.2.grown g⟩
/-- A box with tables. -/
abbrev BoxC (w : World) (g : Nat) (c : Cf) : Prop := Blk w g 26 (cfA c)

/-- Is a number within two others? -/
def wiB (n a b : Int) : Bool := decide (a ≤ n ∧ n ≤ b)
theorem within_any (n a b : Int) (w : World) : Calls Tryz.prog 98 #[.int .i64 n, .int .i64 a, .int .i64 b] w fun e w' => e = .returned (.bool (wiB n a b)) ∧ w = w' := by
  have key : (¬ a ≤ n ∧ wiB n a b = false) ∨ (a ≤ n ∧ ¬ n ≤ b ∧ wiB n a b = false) ∨ (a ≤ n ∧ n ≤ b ∧ wiB n a b = true) := by
    unfold wiB
    by_cases h1 : a ≤ n <;> by_cases h2 : n ≤ b <;> simp [h1, h2]
  rcases key with ⟨h1, e⟩ | ⟨h1, h2, e⟩ | ⟨h1, h2, e⟩
  all_goals
    have E := Lib.hid e
    clear e
    go_enter Tryz.func98, Tryz.ntmps98
    go_wp2
    go_ret
    rw [E.out]
    exact ⟨by first | rfl | (simp; done) | (simp; omega), rfl⟩
/-- How many bytes a ring has. -/
def rgN (n : Int) : Int := if n = 1 ∨ n = 2 ∨ n = 4 ∨ n = 8 ∨ n = 16 then 8 * n + 2 else 0
theorem ring_any (n : Int) (w : World) : Calls Tryz.prog 99 #[.int .i64 n] w fun e w' => e = .returned (.int .i64 (rgN n)) ∧ w = w' := by
  have key : n = 1 ∨ n = 2 ∨ n = 4 ∨ n = 8 ∨ n = 16 ∨ (¬ n = 1 ∧ ¬ n = 2 ∧ ¬ n = 4 ∧ ¬ n = 8 ∧ ¬ n = 16) := by omega
  rcases key with rfl | rfl | rfl | rfl | rfl | ⟨h1, h2, h3, h4, h5⟩
  case inr.inr.inr.inr.inr =>
    have e : rgN n = 0 := by unfold rgN; rw [if_neg]; omega
    have E := Lib.hid e
    clear e
    go_enter Tryz.func99, Tryz.ntmps99
    go_wp2
    go_ret
    rw [E.out]
    exact ⟨rfl, rfl⟩
  all_goals
    go_enter Tryz.func99, Tryz.ntmps99
    go_wp2
    go_ret
    exact ⟨rfl, rfl⟩
theorem rgN_le (n : Int) : 0 ≤ rgN n ∧ rgN n ≤ 130 := by
  unfold rgN
  split
  · rename_i h
    omega
  · omega
theorem ticks_any (x : W3) (w : World) : Calls Tryz.prog 105 #[w3v x] w fun e w' => e = .returned (spv (w3s x)) ∧ w.grownBy w' none := by
  obtain ⟨o, a, b⟩ := x
  go_enter Tryz.func105, Tryz.ntmps105
  go_wp2
  refine bodyPost_ret (v := .agg #[.int .i64 a, .int .i64 b]) (by simp [results, Tryz.results105, go_sem]) rfl ⟨rfl, only_alloc (only_alloc (only_refl _ _) _) _⟩
end Go.Proofs.YtfhhcpmoaggdmaaGreat

/- Package conf: what is wrong with a row, by its contracts. -/
namespace Go.Proofs.YtfhhcpmoaggdmaaGreat
open Go.RowKit Go.Lib Go.Sort
set_option linter.unusedVariables false

theorem box_cells {w w' : World} {t : TypeId} {cs : Array Value} (g : (w.alloc (.cells cs t)).grownBy w' none) (i : Nat) : w'.cell? ⟨w.heap.size, i, none⟩ = cs[i]? := ((Blk.new w t cs).only g (by simp)).cell i
theorem meet_conf (p q : Int × Int) (w : World) : Calls Tryz.prog 102 #[spv p, spv q] w fun e w' => e = .returned (.bool (meetsB p q)) ∧ w.grownBy w' none := by
  obtain ⟨a, b⟩ := p
  obtain ⟨c, d⟩ := q
  have g0 : ((w.alloc (.cells #[.int .i64 a, .int .i64 b] 40)).alloc (.cells #[.int .i64 c, .int .i64 d] 40)).grownBy ((w.alloc (.cells #[.int .i64 a, .int .i64 b] 40)).alloc (.cells #[.int .i64 c, .int .i64 d] 40)) none := only_refl _ _
  have G := Lib.hid g0
  have HM := Lib.hid (fun W => meet_any (a, b) (c, d) W)
  generalize meetsB (a, b) (c, d) = r at HM
  generalize meetV (a, b) (c, d) = v at HM
  obtain ⟨v1, v2⟩ := v
  clear g0
  go_enter Tryz.func102, Tryz.ntmps102
  go_wp2_with (go_at_call 89; ((with_reducible refine (HM.out _).mono ?_)); rintro e w2 ⟨rfl, g2⟩; have G2 := Lib.hid (only_trans G.out g2); clear g2)
  go_ret
  exact ⟨rfl, only_trans (only_alloc (only_alloc (only_refl _ _) _) _) (only_alloc G2.out _)⟩
theorem memory_any (x : Cl) (hx : fitI (x.base + x.size)) (w : World) : Calls Tryz.prog 103 #[clv x] w fun e w' => e = .returned (spv (x.base, x.base + x.size)) ∧ w.grownBy w' none := by
  obtain ⟨x1, x2, x3, x4, x5, x6, x7, x8, x9, x10⟩ := x
  have hw : IntKind.i64.wrap (x1 + x2) = x1 + x2 := by unfold fitI at hx; rw [IntKind.wrap_i64]; simp only at hx; omega
  clear hx
  go_enter Tryz.func103, Tryz.ntmps103
  go_wp2
  refine bodyPost_ret (v := .agg #[.int .i64 x1, .int .i64 (x1 + x2)]) (by simp [results, Tryz.results103, go_sem]) rfl ⟨rfl, only_alloc (only_alloc (only_refl _ _) _) _⟩
theorem sectors_any (x : Cl) (hx : fitI (x.first + x.secs)) (w : World) : Calls Tryz.prog 104 #[clv x] w fun e w' => e = .returned (spv (x.first, x.first + x.secs)) ∧ w.grownBy w' none := by
  obtain ⟨x1, x2, x3, x4, x5, x6, x7, x8, x9, x10⟩ := x
  have hw : IntKind.i64.wrap (x9 + x10) = x9 + x10 := by unfold fitI at hx; rw [IntKind.wrap_i64]; simp only at hx; omega
  clear hx
  go_enter Tryz.func104, Tryz.ntmps104
  go_wp2
  refine bodyPost_ret (v := .agg #[.int .i64 x9, .int .i64 (x9 + x10)]) (by simp [results, Tryz.results104, go_sem]) rfl ⟨rfl, only_alloc (only_alloc (only_refl _ _) _) _⟩

/-- Is a client's row one that may not be? -/
def badC (x : Cl) : Bool := !(wiB x.size 32 1024) || !(wiB x.base 128 (16384 - x.size)) || decide (rgN x.ring = 0) || !(wiB x.at' 0 (x.size - rgN x.ring)) || !(wiB x.quota 1 16) || !(wiB x.queue 0 16) || !(wiB x.mac 0 255) || !(wiB x.chan 0 255) || !(wiB x.secs 0 64) || !(wiB x.first 0 (512 - x.secs))
theorem wiB_iff {n a b : Int} : wiB n a b = true ↔ a ≤ n ∧ n ≤ b := by unfold wiB; exact decide_eq_true_iff
set_option maxHeartbeats 1600000 in
theorem badc_any (x : Cl) (hx : FitCl x) (w : World) : Calls Tryz.prog 69 #[clv x] w fun e w' => e = .returned (.bool (badC x)) ∧ w.grownBy w' none := by
  obtain ⟨x1, x2, x3, x4, x5, x6, x7, x8, x9, x10⟩ := x
  obtain ⟨f1, f2, f3, f4, f5, f6, f7, f8, f9, f10⟩ := hx
  simp only at f1 f2 f3 f4 f5 f6 f7 f8 f9 f10
  unfold fitI at f1 f2 f3 f4 f5 f6 f7 f8 f9 f10
  obtain ⟨r, hr⟩ : ∃ r, r = rgN x3 := ⟨_, rfl⟩
  have hr2 := rgN_le x3
  rw [← hr] at hr2
  have HW := Lib.hid (fun (n a b : Int) (W : World) => within_any n a b W)
  have HR := Lib.hid (fun W => ring_any x3 W)
  rw [← hr] at HR
  have hb : badC ⟨x1, x2, x3, x4, x5, x6, x7, x8, x9, x10⟩ = (!(wiB x2 32 1024) || !(wiB x1 128 (16384 - x2)) || decide (r = 0) || !(wiB x4 0 (x2 - r)) || !(wiB x5 1 16) || !(wiB x6 0 16) || !(wiB x7 0 255) || !(wiB x8 0 255) || !(wiB x10 0 64) || !(wiB x9 0 (512 - x10))) := by rw [hr]; rfl
  rw [hb]
  clear hb hr
  have e1 : wiB x2 32 1024 = true → IntKind.i64.wrap (16384 - x2) = 16384 - x2 ∧ IntKind.i64.wrap (x2 - r) = x2 - r := fun h => by
    have := wiB_iff.1 h
    rw [IntKind.wrap_i64, IntKind.wrap_i64]
    omega
  have e2 : wiB x10 0 64 = true → IntKind.i64.wrap (512 - x10) = 512 - x10 := fun h => by
    have := wiB_iff.1 h
    rw [IntKind.wrap_i64]
    omega
  have HW1 := Lib.hid (fun W => HW.out x2 32 1024 W)
  have HW2 := Lib.hid (fun W => HW.out x1 128 (16384 - x2) W)
  have HW3 := Lib.hid (fun W => HW.out x4 0 (x2 - r) W)
  have HW4 := Lib.hid (fun W => HW.out x5 1 16 W)
  have HW5 := Lib.hid (fun W => HW.out x6 0 16 W)
  have HW6 := Lib.hid (fun W => HW.out x7 0 255 W)
  have HW7 := Lib.hid (fun W => HW.out x8 0 255 W)
  have HW8 := Lib.hid (fun W => HW.out x10 0 64 W)
  have HW9 := Lib.hid (fun W => HW.out x9 0 (512 - x10) W)
  generalize h1 : wiB x2 32 1024 = c1 at *
  generalize h2 : wiB x1 128 (16384 - x2) = c2 at *
  generalize h3 : wiB x4 0 (x2 - r) = c3 at *
  generalize h4 : wiB x5 1 16 = c4 at *
  generalize h5 : wiB x6 0 16 = c5 at *
  generalize h6 : wiB x7 0 255 = c6 at *
  generalize h7 : wiB x8 0 255 = c7 at *
  generalize h8 : wiB x10 0 64 = c8 at *
  generalize h9 : wiB x9 0 (512 - x10) = c9 at *
  clear h1 h2 h3 h4 h5 h6 h7 h8 h9 f1 f2 f3 f4 f5 f6 f7 f8 f9 f10 hr2
  go_enter Tryz.func69, Tryz.ntmps69
  go_upto_region 2 with (go_at_call 99; ((with_reducible refine (HR.out _).mono ?_)); rintro e w2 ⟨rfl, rfl⟩)
  simp only [List.append]
  go_wp2_with (first
    | (go_at_call 99; ((with_reducible refine (HR.out _).mono ?_)); rintro e w2 ⟨rfl, rfl⟩)
    | (go_at_call 98; ((with_reducible refine (HW1.out _).mono ?_)); rintro e w2 ⟨rfl, rfl⟩; (cases c1 <;> (try obtain ⟨e3, e4⟩ := e1 rfl)))
    | (go_at_call 98; ((with_reducible refine (HW2.out _).mono ?_)); rintro e w2 ⟨rfl, rfl⟩; (cases c2 <;> (by_cases hr : r = 0) <;> (first | (have hr' : (r == 0) = true := by simpa using hr) | (have hr' : (r == 0) = false := by simpa using hr))))
    | (go_at_call 98; ((with_reducible refine (HW3.out _).mono ?_)); rintro e w2 ⟨rfl, rfl⟩; cases c3)
    | (go_at_call 98; ((with_reducible refine (HW4.out _).mono ?_)); rintro e w2 ⟨rfl, rfl⟩; cases c4)
    | (go_at_call 98; ((with_reducible refine (HW5.out _).mono ?_)); rintro e w2 ⟨rfl, rfl⟩; cases c5)
    | (go_at_call 98; ((with_reducible refine (HW6.out _).mono ?_)); rintro e w2 ⟨rfl, rfl⟩; cases c6)
    | (go_at_call 98; ((with_reducible refine (HW7.out _).mono ?_)); rintro e w2 ⟨rfl, rfl⟩; cases c7)
    | (go_at_call 98; ((with_reducible refine (HW8.out _).mono ?_)); rintro e w2 ⟨rfl, rfl⟩; (cases c8 <;> (try have e5 := e2 rfl)))
    | (go_at_call 98; ((with_reducible refine (HW9.out _).mono ?_)); rintro e w2 ⟨rfl, rfl⟩))
  all_goals
    go_ret
    exact ⟨by simp [*], only_alloc (only_refl _ _) _⟩
end Go.Proofs.YtfhhcpmoaggdmaaGreat

/- The document's word on rows of tables, by its contracts. -/
namespace Go.Proofs.YtfhhcpmoaggdmaaGreat
open Go.RowKit Go.Lib Go.Sort
set_option linter.unusedVariables false

/-- May the sizes be? -/
def frB (c : Cf) : Bool := decide (1 ≤ c.fr ∧ c.fr ≤ 4096 ∧ 1 ≤ c.cn ∧ c.cn ≤ 8 ∧ c.wn ≤ 9 ∧ c.sn ≤ 32)
theorem frB_iff {c : Cf} : frB c = true ↔ 1 ≤ c.fr ∧ c.fr ≤ 4096 ∧ 1 ≤ c.cn ∧ c.cn ≤ 8 ∧ c.wn ≤ 9 ∧ c.sn ≤ 32 := decide_eq_true_iff
theorem frB_no {c : Cf} : frB c = false ↔ ¬ (1 ≤ c.fr ∧ c.fr ≤ 4096 ∧ 1 ≤ c.cn ∧ c.cn ≤ 8 ∧ c.wn ≤ 9 ∧ c.sn ≤ 32) := decide_eq_false_iff_not
theorem ret_bool {a b : Bool} (h : a = b) : Ending.returned (.bool a) = Ending.returned (.bool b) := by rw [h]
set_option maxHeartbeats 800000 in
theorem rframe_any (c : Cf) (w : World) : Calls Tryz.prog 33 #[cfv c] w fun e w' => e = .returned (.bool (frB c)) ∧ w.grownBy w' none := by
  have HF := Lib.hid (frB_iff (c := c))
  have HN := Lib.hid (frB_no (c := c))
  obtain ⟨fr, wA, wn, wc, wd, sA, sn, sc, sd, cA, cn, cc, cd⟩ := c
  generalize frB ⟨fr, wA, wn, wc, wd, sA, sn, sc, sd, cA, cn, cc, cd⟩ = r at HF HN ⊢
  simp only at HF HN
  go_enter Tryz.func33, Tryz.ntmps33
  go_wp2
  all_goals
    go_ret
    refine ⟨ret_bool ?_, only_alloc (only_refl _ _) _⟩
    have h3 := HF.out
    have h4 := HN.out
    cases r <;> simp at h3 h4 ⊢ <;> omega
set_option maxHeartbeats 800000 in
theorem badf_any (c : Cf) (w : World) : Calls Tryz.prog 66 #[cfv c] w fun e w' => e = .returned (.bool (!frB c)) ∧ w.grownBy w' none := by
  have HW := Lib.hid (fun (n a b : Int) (W : World) => within_any n a b W)
  have HF := Lib.hid (frB_iff (c := c))
  have HN := Lib.hid (frB_no (c := c))
  obtain ⟨fr, wA, wn, wc, wd, sA, sn, sc, sd, cA, cn, cc, cd⟩ := c
  generalize frB ⟨fr, wA, wn, wc, wd, sA, sn, sc, sd, cA, cn, cc, cd⟩ = r at HF HN ⊢
  simp only at HF HN
  have HW1 := Lib.hid (fun W => HW.out fr 1 4096 W)
  have HW2 := Lib.hid (fun W => HW.out cn 1 8 W)
  have H1 := Lib.hid (show wiB fr 1 4096 = true ↔ 1 ≤ fr ∧ fr ≤ 4096 from wiB_iff)
  have H2 := Lib.hid (show wiB cn 1 8 = true ↔ 1 ≤ (cn : Int) ∧ (cn : Int) ≤ 8 from wiB_iff)
  generalize wiB fr 1 4096 = c1 at *
  generalize wiB cn 1 8 = c2 at *
  go_enter Tryz.func66, Tryz.ntmps66
  go_wp2_with (first
    | (go_at_call 98; ((with_reducible refine (HW1.out _).mono ?_)); rintro e w2 ⟨rfl, rfl⟩; cases c1)
    | (go_at_call 98; ((with_reducible refine (HW2.out _).mono ?_)); rintro e w2 ⟨rfl, rfl⟩; cases c2))
  all_goals
    go_ret
    refine ⟨ret_bool ?_, only_alloc (only_refl _ _) _⟩
    have h1 := H1.out
    have h2 := H2.out
    have h3 := HF.out
    have h4 := HN.out
    cases r <;> simp at h1 h2 h3 h4 ⊢ <;> omega
theorem rring_any (n : Int) (w : World) : Calls Tryz.prog 95 #[.int .i64 n] w fun e w' => e = .returned (.int .i64 (rgN n)) ∧ w = w' := by
  have key : n = 1 ∨ n = 2 ∨ n = 4 ∨ n = 8 ∨ n = 16 ∨ (¬ n = 1 ∧ ¬ n = 2 ∧ ¬ n = 4 ∧ ¬ n = 8 ∧ ¬ n = 16) := by omega
  rcases key with rfl | rfl | rfl | rfl | rfl | ⟨h1, h2, h3, h4, h5⟩
  case inr.inr.inr.inr.inr =>
    have e : rgN n = 0 := by unfold rgN; rw [if_neg]; omega
    have E := Lib.hid e
    clear e
    have e1 : (n == 1) = false := by simpa using h1
    have e2 : (n == 2) = false := by simpa using h2
    have e3 : (n == 4) = false := by simpa using h3
    have e4 : (n == 8) = false := by simpa using h4
    have e5 : (n == 16) = false := by simpa using h5
    go_enter Tryz.func95, Tryz.ntmps95
    go_wp2
    go_ret
    rw [E.out]
    exact ⟨rfl, rfl⟩
  all_goals
    go_enter Tryz.func95, Tryz.ntmps95
    go_wp2
    go_ret
    exact ⟨rfl, rfl⟩
/-- A client's row that may be. -/
def GoodC (x : Cl) (r : Int) : Prop := 32 ≤ x.size ∧ x.size ≤ 1024 ∧ 128 ≤ x.base ∧ x.base ≤ 16384 - x.size ∧ r ≠ 0 ∧ 0 ≤ x.at' ∧ x.at' ≤ x.size - r ∧ 1 ≤ x.quota ∧ x.quota ≤ 16 ∧ 0 ≤ x.queue ∧ x.queue ≤ 16 ∧ 0 ≤ x.mac ∧ x.mac ≤ 255 ∧ 0 ≤ x.chan ∧ x.chan ≤ 255 ∧ 0 ≤ x.secs ∧ x.secs ≤ 64 ∧ 0 ≤ x.first ∧ x.first ≤ 512 - x.secs
theorem badC_no {x : Cl} : badC x = false ↔ GoodC x (rgN x.ring) := by
  unfold badC GoodC
  simp only [Bool.or_eq_false_iff, Bool.not_eq_false', wiB_iff, decide_eq_false_iff_not, and_assoc, ne_eq]
theorem badC_iff {x : Cl} : badC x = true ↔ ¬ GoodC x (rgN x.ring) := by
  rw [← badC_no]
  simp
set_option maxHeartbeats 3200000 in
set_option maxRecDepth 20000 in
theorem rbad_any (x : Cl) (hx : FitCl x) (w : World) : Calls Tryz.prog 53 #[clv x] w fun e w' => e = .returned (.bool (badC x)) ∧ w.grownBy w' none := by
  have HF := Lib.hid (badC_iff (x := x))
  have HN := Lib.hid (badC_no (x := x))
  generalize badC x = c at HF HN ⊢
  have HR := Lib.hid (fun W => rring_any x.ring W)
  have hr := rgN_le x.ring
  generalize rgN x.ring = r at HF HN HR hr
  obtain ⟨x1, x2, x3, x4, x5, x6, x7, x8, x9, x10⟩ := x
  obtain ⟨f1, f2, f3, f4, f5, f6, f7, f8, f9, f10⟩ := hx
  simp only at f1 f2 f3 f4 f5 f6 f7 f8 f9 f10 HR
  unfold fitI at f1 f2 f3 f4 f5 f6 f7 f8 f9 f10
  unfold GoodC at HF HN
  simp only at HF HN
  go_enter Tryz.func53, Tryz.ntmps53
  go_wp2_with (fail)
  all_goals try (
    go_ret
    refine ⟨ret_bool ?_, only_alloc (only_refl _ _) _⟩
    have h3 := HF.out
    have h4 := HN.out
    cases c <;> simp at h3 h4 ⊢ <;> omega)
  all_goals
    have key : r = 0 ∨ (¬ r = 0 ∧ x4 < 0) ∨ (¬ r = 0 ∧ 0 ≤ x4) := by omega
    have hw : IntKind.i64.wrap (x2 - r) = x2 - r := by rw [IntKind.wrap_i64]; omega
    rcases key with hr0 | ⟨hr0, h4⟩ | ⟨hr0, h4⟩
    all_goals
      first | (have hr' : (r == 0) = true := by simpa using hr0) | (have hr' : (r == 0) = false := by simpa using hr0)
      try first | (have hd : decide (x4 < 0) = true := decide_eq_true h4) | (have hd : decide (x4 < 0) = false := decide_eq_false (by omega))
      have hB := Blk.new w 36 (clA ⟨x1, x2, x3, x4, x5, x6, x7, x8, x9, x10⟩)
      have c0 := blk_re hB
      have G := Lib.hid (only_re (w.alloc (.cells (clA ⟨x1, x2, x3, x4, x5, x6, x7, x8, x9, x10⟩) 36)))
      have HB := Lib.hid hB
      clear hB
      have hg0 : w.grownBy (w.alloc (.cells (clA ⟨x1, x2, x3, x4, x5, x6, x7, x8, x9, x10⟩) 36)) none := only_alloc (only_refl _ _) _
      have G0 := Lib.hid hg0
      clear hg0
      generalize w.alloc (.cells (clA ⟨x1, x2, x3, x4, x5, x6, x7, x8, x9, x10⟩) 36) = w1 at *
      refine wp_region_quiet_below (by kernel_rfl) (by kernel_rfl) ?_
      repeat (go_big_quiet_step ((first | (go_at_call 95; with_reducible exact rg0 (HR.out _)))))
      refine wpQuiet_nil ?_
      intro w3 hw3
      obtain ⟨p, rfl⟩ := hw3
      have hb3 := HB.out.only (G.out p.d p.os) (by simp)
      have G3 := Lib.hid (only_trans G0.out (G.out p.d p.os))
      clear c0
      generalize grow (redrawn w1 p.d) p.os = w3 at hb3 G3 ⊢
      have c0 := fun i => hb3.cell i
      clear hb3
      go_wp2
      all_goals
        go_ret
        refine ⟨ret_bool ?_, G3.out⟩
        have h3 := HF.out
        have h4 := HN.out
        cases c <;> simp at h3 h4 ⊢ <;> omega
end Go.Proofs.YtfhhcpmoaggdmaaGreat

/- Windows and slots that may not be, by their contracts. -/
namespace Go.Proofs.YtfhhcpmoaggdmaaGreat
open Go.RowKit Go.Lib Go.Sort
set_option linter.unusedVariables false

theorem rmeet_any (a n b m : Int) (h1 : fitI (a + n)) (h2 : fitI (b + m)) (w : World) : Calls Tryz.prog 54 #[.int .i64 a, .int .i64 n, .int .i64 b, .int .i64 m] w fun e w' => e = .returned (.bool (meetsB (a, a + n) (b, b + m))) ∧ w.grownBy w' none := by
  have e1 : IntKind.i64.wrap (a + n) = a + n := by unfold fitI at h1; rw [IntKind.wrap_i64]; omega
  have e2 : IntKind.i64.wrap (b + m) = b + m := by unfold fitI at h2; rw [IntKind.wrap_i64]; omega
  have HM := Lib.hid (fun W => meets_any (a, a + n) (b, b + m) W)
  generalize meetsB (a, a + n) (b, b + m) = r at HM ⊢
  clear h1 h2
  go_enter Tryz.func54, Tryz.ntmps54
  go_wp2_with (go_at_call 56; ((with_reducible refine (HM.out _).mono ?_)); rintro e w2 ⟨rfl, g2⟩; have G2 := Lib.hid g2; clear g2)
  go_ret
  exact ⟨rfl, G2.out⟩
/-- Is a window one that may not be? -/
def badW (c : Cf) (x : W3) : Bool := !(wiB x.1 0 c.cn) || !(inB (w3s x) c.fr)
def badS (c : Cf) (x : W3) : Bool := !(wiB x.1 1 c.cn) || !(inB (w3s x) c.fr) || decide (x.2.2 - x.2.1 < 4)
theorem inB_iff {p : Int × Int} {n : Int} : inB p n = true ↔ 0 ≤ p.1 ∧ p.1 < p.2 ∧ p.2 ≤ n := decide_eq_true_iff
theorem badW_no {c : Cf} {x : W3} : badW c x = false ↔ 0 ≤ x.1 ∧ x.1 ≤ c.cn ∧ 0 ≤ x.2.1 ∧ x.2.1 < x.2.2 ∧ x.2.2 ≤ c.fr := by
  unfold badW
  simp only [Bool.or_eq_false_iff, Bool.not_eq_false', wiB_iff, inB_iff, and_assoc]
theorem badS_no {c : Cf} {x : W3} : badS c x = false ↔ 1 ≤ x.1 ∧ x.1 ≤ c.cn ∧ 0 ≤ x.2.1 ∧ x.2.1 < x.2.2 ∧ x.2.2 ≤ c.fr ∧ 4 ≤ x.2.2 - x.2.1 := by
  unfold badS
  simp only [Bool.or_eq_false_iff, Bool.not_eq_false', wiB_iff, inB_iff, and_assoc, decide_eq_false_iff_not, Int.not_lt]
set_option maxHeartbeats 1600000 in
theorem rbadw_any (c : Cf) (x : W3) (w : World) : Calls Tryz.prog 55 #[cfv c, w3v x] w fun e w' => e = .returned (.bool (badW c x)) ∧ w.grownBy w' none := by
  have HN := Lib.hid (badW_no (c := c) (x := x))
  generalize badW c x = r at HN ⊢
  obtain ⟨fr, wA, wn, wc, wd, sA, sn, sc, sd, cA, cn, cc, cd⟩ := c
  obtain ⟨o, a, b⟩ := x
  simp only at HN
  go_enter Tryz.func55, Tryz.ntmps55
  go_wp2
  all_goals
    go_ret
    refine ⟨ret_bool ?_, only_alloc (only_alloc (only_refl _ _) _) _⟩
    have h4 := HN.out
    cases r <;> simp at h4 ⊢ <;> omega
set_option maxHeartbeats 1600000 in
theorem rbads_any (c : Cf) (x : W3) (hc : fitI c.fr) (w : World) : Calls Tryz.prog 57 #[cfv c, w3v x] w fun e w' => e = .returned (.bool (badS c x)) ∧ w.grownBy w' none := by
  have HN := Lib.hid (badS_no (c := c) (x := x))
  generalize badS c x = r at HN ⊢
  obtain ⟨fr, wA, wn, wc, wd, sA, sn, sc, sd, cA, cn, cc, cd⟩ := c
  obtain ⟨o, a, b⟩ := x
  unfold fitI at hc
  simp only at HN hc
  go_enter Tryz.func57, Tryz.ntmps57
  go_wp2
  all_goals
    go_ret
    refine ⟨ret_bool ?_, only_alloc (only_alloc (only_refl _ _) _) _⟩
    have h4 := HN.out
    cases r <;> simp at h4 ⊢ <;> omega
set_option maxHeartbeats 1600000 in
theorem badw_any (c : Cf) (x : W3) (w : World) : Calls Tryz.prog 73 #[cfv c, w3v x] w fun e w' => e = .returned (.bool (badW c x)) ∧ w.grownBy w' none := by
  obtain ⟨fr, wA, wn, wc, wd, sA, sn, sc, sd, cA, cn, cc, cd⟩ := c
  obtain ⟨o, a, b⟩ := x
  have hr : badW ⟨fr, wA, wn, wc, wd, sA, sn, sc, sd, cA, cn, cc, cd⟩ (o, a, b) = (!(wiB o 0 cn) || !(inB (a, b) fr)) := rfl
  rw [hr]
  clear hr
  show Calls Tryz.prog 73 #[.agg #[.int .i64 fr, .slice wA wn wc, .slice sA sn sc, .slice cA cn cc], .agg #[.int .i64 o, .int .i64 a, .int .i64 b]] w _
  have HW := Lib.hid (fun W => within_any o 0 cn W)
  have HT := Lib.hid (fun W => ticks_any (o, a, b) W)
  have HI := Lib.hid (fun W => in_any (a, b) fr W)
  generalize wiB o 0 cn = c1 at *
  generalize inB (a, b) fr = c2 at *
  obtain ⟨W1, hW, G0, hA, hB⟩ := box2 w 26 #[.int .i64 fr, .slice wA wn wc, .slice sA sn sc, .slice cA cn cc] 78 #[.int .i64 o, .int .i64 a, .int .i64 b]
  have k1 := blk_re hA
  have k2 := blk_re hB
  have G0 := Lib.hid G0
  clear hA hB
  cases c1 <;> (
    go_enter Tryz.func73, Tryz.ntmps73
    go_upto_region 1 with (fail)
    rw [← hW]
    clear hW
    refine wp_region_quiet_below (by kernel_rfl) (by kernel_rfl) ?_
    repeat (go_big_quiet_step ((first | (go_at_call 98; with_reducible exact rg0 (HW.out _)) | (go_at_call 105; with_reducible exact rg1 (HT.out _)) | (go_at_call 86; with_reducible exact rg1 (HI.out _)))))
    refine wpQuiet_nil ?_
    intro w3 hw3
    obtain ⟨p, rfl⟩ := hw3
    have G3 := Lib.hid (only_trans G0.out (only_re W1 p.d p.os))
    clear k1 k2
    generalize grow (redrawn W1 p.d) p.os = w3 at G3 ⊢
    go_wp2
    go_ret
    exact ⟨by simp, G3.out⟩)
set_option maxHeartbeats 1600000 in
theorem bads_any (c : Cf) (x : W3) (hx : FitW3 x) (hc : fitI c.fr) (w : World) : Calls Tryz.prog 81 #[cfv c, w3v x] w fun e w' => e = .returned (.bool (badS c x)) ∧ w.grownBy w' none := by
  obtain ⟨fr, wA, wn, wc, wd, sA, sn, sc, sd, cA, cn, cc, cd⟩ := c
  obtain ⟨o, a, b⟩ := x
  have hr : badS ⟨fr, wA, wn, wc, wd, sA, sn, sc, sd, cA, cn, cc, cd⟩ (o, a, b) = (!(wiB o 1 cn) || !(inB (a, b) fr) || decide (b - a < 4)) := rfl
  rw [hr]
  clear hr
  show Calls Tryz.prog 81 #[.agg #[.int .i64 fr, .slice wA wn wc, .slice sA sn sc, .slice cA cn cc], .agg #[.int .i64 o, .int .i64 a, .int .i64 b]] w _
  have HW := Lib.hid (fun W => within_any o 1 cn W)
  have HT := Lib.hid (fun W => ticks_any (o, a, b) W)
  have HI := Lib.hid (fun W => in_any (a, b) fr W)
  have hw : inB (a, b) fr = true → IntKind.i64.wrap (b - a) = b - a := fun h => by
    have := inB_iff.1 h
    unfold fitI at hc
    simp only at this hc
    rw [IntKind.wrap_i64]
    omega
  generalize wiB o 1 cn = c1 at *
  generalize inB (a, b) fr = c2 at *
  obtain ⟨W1, hW, G0, hA, hB⟩ := box2 w 26 #[.int .i64 fr, .slice wA wn wc, .slice sA sn sc, .slice cA cn cc] 84 #[.int .i64 o, .int .i64 a, .int .i64 b]
  have k1 := blk_re hA
  have k2 := blk_re hB
  have G0 := Lib.hid G0
  clear hA hB hx hc
  cases c1 <;> cases c2 <;> (
    try have hw := hw rfl
    go_enter Tryz.func81, Tryz.ntmps81
    go_upto_region 1 with (fail)
    rw [← hW]
    clear hW
    refine wp_region_quiet_below (by kernel_rfl) (by kernel_rfl) ?_
    repeat (go_big_quiet_step ((first | (go_at_call 98; with_reducible exact rg0 (HW.out _)) | (go_at_call 105; with_reducible exact rg1 (HT.out _)) | (go_at_call 86; with_reducible exact rg1 (HI.out _)))))
    refine wpQuiet_nil ?_
    intro w3 hw3
    obtain ⟨p, rfl⟩ := hw3
    have G3 := Lib.hid (only_trans G0.out (only_re W1 p.d p.os))
    clear k1 k2
    generalize grow (redrawn W1 p.d) p.os = w3 at G3 ⊢
    go_wp2
    go_ret
    exact ⟨by simp, G3.out⟩)
end Go.Proofs.YtfhhcpmoaggdmaaGreat
