/- Meet: its contract; what it has to do with the document's answer. -/
import Derived.Test.YtgkegmkedkgkcaaM1
namespace Go.Proofs.Ytgkegmkedkgkcaa
open Go.RowKit Go.Lib Go.Sort
set_option linter.unusedVariables false

theorem meets_iff (a b : Int × Int) : meetsB a b = (isB a && isB b && isB (bothOf a b)) := by
  obtain ⟨a1, a2⟩ := a
  obtain ⟨b1, b2⟩ := b
  rw [Bool.eq_iff_iff]
  by_cases h1 : a1 < b1 <;> by_cases h2 : b2 < a2 <;> simp only [meetsB, isB, holdsB, bothOf, Bool.and_eq_true, Bool.or_eq_true, decide_eq_true_eq, h1, h2, if_true, if_false] <;> omega
theorem holds_meet (a b : Int × Int) (k : Int) : holdsB (meetV a b) k = (holdsB a k && holdsB b k) := by
  obtain ⟨a1, a2⟩ := a
  obtain ⟨b1, b2⟩ := b
  rw [Bool.eq_iff_iff]
  by_cases h : meetsB (a1, a2) (b1, b2) = true
  · have h' := h
    simp only [meetsB, isB, holdsB, Bool.and_eq_true, Bool.or_eq_true, decide_eq_true_eq] at h'
    by_cases h1 : a1 < b1 <;> by_cases h2 : b2 < a2 <;> simp only [meetV, h, holdsB, bothOf, Bool.and_eq_true, decide_eq_true_eq, h1, h2, if_true, if_false] <;> omega
  · have h' := h
    simp only [meetsB, isB, holdsB, Bool.and_eq_true, Bool.or_eq_true, decide_eq_true_eq] at h'
    simp only [meetV, h, holdsB, Bool.and_eq_true, decide_eq_true_eq, if_false, Bool.false_eq_true]
    omega

theorem boxes3 {w w2 : World} {p q : Int × Int} (g : (((w.alloc (.cells #[.int .i64 p.1, .int .i64 p.2] 36)).alloc (.cells #[.int .i64 q.1, .int .i64 q.2] 36)).alloc (.cells #[.int .i64 0, .int .i64 0] 36)).grownBy w2 none) :
    w2.cell? ⟨w.heap.size, 0, none⟩ = some (.int .i64 p.1) ∧ w2.cell? ⟨w.heap.size, 1, none⟩ = some (.int .i64 p.2) ∧ w2.cell? ⟨w.heap.size + 1, 0, none⟩ = some (.int .i64 q.1) ∧ w2.cell? ⟨w.heap.size + 1, 1, none⟩ = some (.int .i64 q.2) ∧
    w2.cell? ⟨w.heap.size + 1 + 1, 0, none⟩ = some (.int .i64 0) ∧ w2.cell? ⟨w.heap.size + 1 + 1, 1, none⟩ = some (.int .i64 0) ∧ w2.frozen? ⟨w.heap.size + 1 + 1, 0, none⟩ = false ∧ w2.frozen? ⟨w.heap.size + 1 + 1, 1, none⟩ = false := by
  have h1 := (((Blk.new w 36 #[.int .i64 p.1, .int .i64 p.2]).alloc (.cells #[.int .i64 q.1, .int .i64 q.2] 36)).alloc (.cells #[.int .i64 0, .int .i64 0] 36)).only g (by simp)
  have h2 := ((Blk.new (w.alloc (.cells #[.int .i64 p.1, .int .i64 p.2] 36)) 36 #[.int .i64 q.1, .int .i64 q.2]).alloc (.cells #[.int .i64 0, .int .i64 0] 36)).only g (by simp)
  have h3 := (Blk.new ((w.alloc (.cells #[.int .i64 p.1, .int .i64 p.2] 36)).alloc (.cells #[.int .i64 q.1, .int .i64 q.2] 36)) 36 #[.int .i64 0, .int .i64 0]).only g (by simp)
  refine ⟨h1.cell 0, h1.cell 1, ?_, ?_, ?_, ?_, ?_, ?_⟩
  · simpa using h2.cell 0
  · simpa using h2.cell 1
  · simpa using h3.cell 0
  · simpa using h3.cell 1
  · simpa using h3.free 0
  · simpa using h3.free 1

/-- Only blocks from B on were written. -/
theorem only_far {a w : World} (h : Below a.heap.size a w) : a.grownBy w none := ⟨h.os, h.tape, h.output, h.size, fun i hi _ => h.block i hi⟩

set_option maxHeartbeats 3200000 in
theorem meet_any (p q : Int × Int) (w : World) : Calls Try.prog 58 #[spv p, spv q] w fun e w' => e = .returned (.tuple #[spv (meetV p q), .bool (meetsB p q)]) ∧ w.grownBy w' none := by
  have key : ∀ (r : Ending) (w' : World) (v : Int × Int) (x : Bool), meetV p q = v → meetsB p q = x → r = .returned (.tuple #[spv v, .bool x]) → Below w.heap.size w w' → r = .returned (.tuple #[spv (meetV p q), .bool (meetsB p q)]) ∧ w.grownBy w' none := by
    intro r w' v x h1 h2 h3 h4
    rw [h1, h2]
    exact ⟨h3, only_far h4⟩
  have KEY := Lib.hid key
  clear key
  have hb0 : Below w.heap.size w (((w.alloc (.cells #[.int .i64 p.1, .int .i64 p.2] 36)).alloc (.cells #[.int .i64 q.1, .int .i64 q.2] 36)).alloc (.cells #[.int .i64 0, .int .i64 0] 36)) := (((Below.refl _ _).alloc (Nat.le_refl _) _).alloc (by simp) _).alloc (by simp; omega) _
  have HB0 := Lib.hid hb0
  clear hb0
  by_cases hp : isB p = true
  · by_cases hq : isB q = true
    · obtain ⟨a, b⟩ := p
      obtain ⟨c, d⟩ := q
      by_cases h1 : a < c <;> by_cases h2 : d < b
      · by_cases hxy : isB (c, d) = true
        · have hm : meetsB (a, b) (c, d) = true := by rw [meets_iff]; simp [hp, hq, bothOf, h1, h2, hxy]
          have hv : meetV (a, b) (c, d) = (c, d) := by simp [meetV, hm, bothOf, h1, h2]
          have HM := Lib.hid hm
          have HV := Lib.hid hv
          clear hm hv
          go_enter Try.func58, Try.ntmps58
          go_wp2_with (first | (go_at_call 56; ((with_reducible refine (is_any (a, b) _).mono ?_)); rintro e w2 ⟨rfl, g2⟩; have G2 := Lib.hid g2; have C2 := Lib.hid (boxes3 (p := (a, b)) (q := (c, d)) G2.out); obtain ⟨e0, e1, e2, e3, e4, e5, e6, e7⟩ := C2.out; clear g2) | (go_at_call 56; ((with_reducible refine (is_any (c, d) _).mono ?_)); rintro e w3 ⟨rfl, g3⟩; have G3 := Lib.hid (only_trans G2.out g3); have C3 := Lib.hid (boxes3 (p := (a, b)) (q := (c, d)) G3.out); obtain ⟨f0, f1, f2, f3, f4, f5, f6, f7⟩ := C3.out; clear g3) | (go_at_call 56; ((with_reducible refine (is_any (c, d) _).mono ?_)); rintro e w4 ⟨rfl, g4⟩; have hblk := (Blk.new w3 36 #[.int .i64 c, .int .i64 d]).only g4 (by simp); have k0 := hblk.cell 0; have k1 := hblk.cell 1; simp at k0 k1; have G4 := Lib.hid (only_trans (only_trans G3.out (only_alloc (only_refl _ _) (.cells #[.int .i64 c, .int .i64 d] 36))) g4); obtain ⟨j0, j1, j2, j3, j4, j5, j6, j7⟩ := boxes3 (p := (a, b)) (q := (c, d)) G4.out; clear g4 hblk))
          refine bodyPost_ret (v := .tuple #[.agg #[.int .i64 c, .int .i64 d], .bool true]) (by simp [results, Try.results58, go_sem, j4, j5]) rfl (KEY.out _ _ (c, d) true HV.out HM.out rfl ?_)
          have B3 := HB0.out.trans (below_of_only G4.out HB0.out.size (by simp))
          exact (B3.setCell (by simp; omega) _).setCell (by simp; omega) _
        · exact absurd hq hxy
      · by_cases hxy : isB (c, b) = true
        · have hm : meetsB (a, b) (c, d) = true := by rw [meets_iff]; simp [hp, hq, bothOf, h1, h2, hxy]
          have hv : meetV (a, b) (c, d) = (c, b) := by simp [meetV, hm, bothOf, h1, h2]
          have HM := Lib.hid hm
          have HV := Lib.hid hv
          clear hm hv
          go_enter Try.func58, Try.ntmps58
          go_wp2_with (first | (go_at_call 56; ((with_reducible refine (is_any (a, b) _).mono ?_)); rintro e w2 ⟨rfl, g2⟩; have G2 := Lib.hid g2; have C2 := Lib.hid (boxes3 (p := (a, b)) (q := (c, d)) G2.out); obtain ⟨e0, e1, e2, e3, e4, e5, e6, e7⟩ := C2.out; clear g2) | (go_at_call 56; ((with_reducible refine (is_any (c, d) _).mono ?_)); rintro e w3 ⟨rfl, g3⟩; have G3 := Lib.hid (only_trans G2.out g3); have C3 := Lib.hid (boxes3 (p := (a, b)) (q := (c, d)) G3.out); obtain ⟨f0, f1, f2, f3, f4, f5, f6, f7⟩ := C3.out; clear g3) | (go_at_call 56; ((with_reducible refine (is_any (c, b) _).mono ?_)); rintro e w4 ⟨rfl, g4⟩; have hblk := (Blk.new w3 36 #[.int .i64 c, .int .i64 b]).only g4 (by simp); have k0 := hblk.cell 0; have k1 := hblk.cell 1; simp at k0 k1; have G4 := Lib.hid (only_trans (only_trans G3.out (only_alloc (only_refl _ _) (.cells #[.int .i64 c, .int .i64 b] 36))) g4); obtain ⟨j0, j1, j2, j3, j4, j5, j6, j7⟩ := boxes3 (p := (a, b)) (q := (c, d)) G4.out; clear g4 hblk))
          refine bodyPost_ret (v := .tuple #[.agg #[.int .i64 c, .int .i64 b], .bool true]) (by simp [results, Try.results58, go_sem, j4, j5]) rfl (KEY.out _ _ (c, b) true HV.out HM.out rfl ?_)
          have B3 := HB0.out.trans (below_of_only G4.out HB0.out.size (by simp))
          exact (B3.setCell (by simp; omega) _).setCell (by simp; omega) _
        · have hxy' : isB (c, b) = false := by simpa using hxy
          have hm : meetsB (a, b) (c, d) = false := by rw [meets_iff]; simp [hp, hq, bothOf, h1, h2, hxy']
          have hv : meetV (a, b) (c, d) = (0, 0) := by simp [meetV, hm]
          have HM := Lib.hid hm
          have HV := Lib.hid hv
          clear hm hv hxy
          go_enter Try.func58, Try.ntmps58
          go_wp2_with (first | (go_at_call 56; ((with_reducible refine (is_any (a, b) _).mono ?_)); rintro e w2 ⟨rfl, g2⟩; have G2 := Lib.hid g2; have C2 := Lib.hid (boxes3 (p := (a, b)) (q := (c, d)) G2.out); obtain ⟨e0, e1, e2, e3, e4, e5, e6, e7⟩ := C2.out; clear g2) | (go_at_call 56; ((with_reducible refine (is_any (c, d) _).mono ?_)); rintro e w3 ⟨rfl, g3⟩; have G3 := Lib.hid (only_trans G2.out g3); have C3 := Lib.hid (boxes3 (p := (a, b)) (q := (c, d)) G3.out); obtain ⟨f0, f1, f2, f3, f4, f5, f6, f7⟩ := C3.out; clear g3) | (go_at_call 56; ((with_reducible refine (is_any (c, b) _).mono ?_)); rintro e w4 ⟨rfl, g4⟩; have hblk := (Blk.new w3 36 #[.int .i64 c, .int .i64 b]).only g4 (by simp); have k0 := hblk.cell 0; have k1 := hblk.cell 1; simp at k0 k1; have G4 := Lib.hid (only_trans (only_trans G3.out (only_alloc (only_refl _ _) (.cells #[.int .i64 c, .int .i64 b] 36))) g4); obtain ⟨j0, j1, j2, j3, j4, j5, j6, j7⟩ := boxes3 (p := (a, b)) (q := (c, d)) G4.out; clear g4 hblk))
          refine bodyPost_ret (v := .tuple #[.agg #[.int .i64 0, .int .i64 0], .bool false]) (by simp [results, Try.results58, go_sem, j4, j5]) rfl (KEY.out _ _ (0, 0) false HV.out HM.out rfl ?_)
          have B3 := HB0.out.trans (below_of_only G4.out HB0.out.size (by simp))
          exact (B3.setCell (by simp; omega) _).setCell (by simp; omega) _
      · by_cases hxy : isB (a, d) = true
        · have hm : meetsB (a, b) (c, d) = true := by rw [meets_iff]; simp [hp, hq, bothOf, h1, h2, hxy]
          have hv : meetV (a, b) (c, d) = (a, d) := by simp [meetV, hm, bothOf, h1, h2]
          have HM := Lib.hid hm
          have HV := Lib.hid hv
          clear hm hv
          go_enter Try.func58, Try.ntmps58
          go_wp2_with (first | (go_at_call 56; ((with_reducible refine (is_any (a, b) _).mono ?_)); rintro e w2 ⟨rfl, g2⟩; have G2 := Lib.hid g2; have C2 := Lib.hid (boxes3 (p := (a, b)) (q := (c, d)) G2.out); obtain ⟨e0, e1, e2, e3, e4, e5, e6, e7⟩ := C2.out; clear g2) | (go_at_call 56; ((with_reducible refine (is_any (c, d) _).mono ?_)); rintro e w3 ⟨rfl, g3⟩; have G3 := Lib.hid (only_trans G2.out g3); have C3 := Lib.hid (boxes3 (p := (a, b)) (q := (c, d)) G3.out); obtain ⟨f0, f1, f2, f3, f4, f5, f6, f7⟩ := C3.out; clear g3) | (go_at_call 56; ((with_reducible refine (is_any (a, d) _).mono ?_)); rintro e w4 ⟨rfl, g4⟩; have hblk := (Blk.new w3 36 #[.int .i64 a, .int .i64 d]).only g4 (by simp); have k0 := hblk.cell 0; have k1 := hblk.cell 1; simp at k0 k1; have G4 := Lib.hid (only_trans (only_trans G3.out (only_alloc (only_refl _ _) (.cells #[.int .i64 a, .int .i64 d] 36))) g4); obtain ⟨j0, j1, j2, j3, j4, j5, j6, j7⟩ := boxes3 (p := (a, b)) (q := (c, d)) G4.out; clear g4 hblk))
          refine bodyPost_ret (v := .tuple #[.agg #[.int .i64 a, .int .i64 d], .bool true]) (by simp [results, Try.results58, go_sem, j4, j5]) rfl (KEY.out _ _ (a, d) true HV.out HM.out rfl ?_)
          have B3 := HB0.out.trans (below_of_only G4.out HB0.out.size (by simp))
          exact (B3.setCell (by simp; omega) _).setCell (by simp; omega) _
        · have hxy' : isB (a, d) = false := by simpa using hxy
          have hm : meetsB (a, b) (c, d) = false := by rw [meets_iff]; simp [hp, hq, bothOf, h1, h2, hxy']
          have hv : meetV (a, b) (c, d) = (0, 0) := by simp [meetV, hm]
          have HM := Lib.hid hm
          have HV := Lib.hid hv
          clear hm hv hxy
          go_enter Try.func58, Try.ntmps58
          go_wp2_with (first | (go_at_call 56; ((with_reducible refine (is_any (a, b) _).mono ?_)); rintro e w2 ⟨rfl, g2⟩; have G2 := Lib.hid g2; have C2 := Lib.hid (boxes3 (p := (a, b)) (q := (c, d)) G2.out); obtain ⟨e0, e1, e2, e3, e4, e5, e6, e7⟩ := C2.out; clear g2) | (go_at_call 56; ((with_reducible refine (is_any (c, d) _).mono ?_)); rintro e w3 ⟨rfl, g3⟩; have G3 := Lib.hid (only_trans G2.out g3); have C3 := Lib.hid (boxes3 (p := (a, b)) (q := (c, d)) G3.out); obtain ⟨f0, f1, f2, f3, f4, f5, f6, f7⟩ := C3.out; clear g3) | (go_at_call 56; ((with_reducible refine (is_any (a, d) _).mono ?_)); rintro e w4 ⟨rfl, g4⟩; have hblk := (Blk.new w3 36 #[.int .i64 a, .int .i64 d]).only g4 (by simp); have k0 := hblk.cell 0; have k1 := hblk.cell 1; simp at k0 k1; have G4 := Lib.hid (only_trans (only_trans G3.out (only_alloc (only_refl _ _) (.cells #[.int .i64 a, .int .i64 d] 36))) g4); obtain ⟨j0, j1, j2, j3, j4, j5, j6, j7⟩ := boxes3 (p := (a, b)) (q := (c, d)) G4.out; clear g4 hblk))
          refine bodyPost_ret (v := .tuple #[.agg #[.int .i64 0, .int .i64 0], .bool false]) (by simp [results, Try.results58, go_sem, j4, j5]) rfl (KEY.out _ _ (0, 0) false HV.out HM.out rfl ?_)
          have B3 := HB0.out.trans (below_of_only G4.out HB0.out.size (by simp))
          exact (B3.setCell (by simp; omega) _).setCell (by simp; omega) _
      · by_cases hxy : isB (a, b) = true
        · have hm : meetsB (a, b) (c, d) = true := by rw [meets_iff]; simp [hp, hq, bothOf, h1, h2, hxy]
          have hv : meetV (a, b) (c, d) = (a, b) := by simp [meetV, hm, bothOf, h1, h2]
          have HM := Lib.hid hm
          have HV := Lib.hid hv
          clear hm hv
          go_enter Try.func58, Try.ntmps58
          go_wp2_with (first | (go_at_call 56; ((with_reducible refine (is_any (a, b) _).mono ?_)); rintro e w2 ⟨rfl, g2⟩; have G2 := Lib.hid g2; have C2 := Lib.hid (boxes3 (p := (a, b)) (q := (c, d)) G2.out); obtain ⟨e0, e1, e2, e3, e4, e5, e6, e7⟩ := C2.out; clear g2) | (go_at_call 56; ((with_reducible refine (is_any (c, d) _).mono ?_)); rintro e w3 ⟨rfl, g3⟩; have G3 := Lib.hid (only_trans G2.out g3); have C3 := Lib.hid (boxes3 (p := (a, b)) (q := (c, d)) G3.out); obtain ⟨f0, f1, f2, f3, f4, f5, f6, f7⟩ := C3.out; clear g3) | (go_at_call 56; ((with_reducible refine (is_any (a, b) _).mono ?_)); rintro e w4 ⟨rfl, g4⟩; have hblk := (Blk.new w3 36 #[.int .i64 a, .int .i64 b]).only g4 (by simp); have k0 := hblk.cell 0; have k1 := hblk.cell 1; simp at k0 k1; have G4 := Lib.hid (only_trans (only_trans G3.out (only_alloc (only_refl _ _) (.cells #[.int .i64 a, .int .i64 b] 36))) g4); obtain ⟨j0, j1, j2, j3, j4, j5, j6, j7⟩ := boxes3 (p := (a, b)) (q := (c, d)) G4.out; clear g4 hblk))
          refine bodyPost_ret (v := .tuple #[.agg #[.int .i64 a, .int .i64 b], .bool true]) (by simp [results, Try.results58, go_sem, j4, j5]) rfl (KEY.out _ _ (a, b) true HV.out HM.out rfl ?_)
          have B3 := HB0.out.trans (below_of_only G4.out HB0.out.size (by simp))
          exact (B3.setCell (by simp; omega) _).setCell (by simp; omega) _
        · exact absurd hp hxy
    · have hq' : isB q = false := by simpa using hq
      have hm : meetsB p q = false := by rw [meets_iff]; simp [hq']
      have hv : meetV p q = (0, 0) := by simp [meetV, hm]
      have HM := Lib.hid hm
      have HV := Lib.hid hv
      clear hm hv hq
      obtain ⟨a, b⟩ := p
      obtain ⟨c, d⟩ := q
      go_enter Try.func58, Try.ntmps58
      go_wp2_with (first | (go_at_call 56; ((with_reducible refine (is_any (a, b) _).mono ?_)); rintro e w2 ⟨rfl, g2⟩; have G2 := Lib.hid g2; have C2 := Lib.hid (boxes3 (p := (a, b)) (q := (c, d)) G2.out); obtain ⟨e0, e1, e2, e3, e4, e5, e6, e7⟩ := C2.out; clear g2) | (go_at_call 56; ((with_reducible refine (is_any (c, d) _).mono ?_)); rintro e w3 ⟨rfl, g3⟩; have G3 := Lib.hid (only_trans G2.out g3); have C3 := Lib.hid (boxes3 (p := (a, b)) (q := (c, d)) G3.out); obtain ⟨f0, f1, f2, f3, f4, f5, f6, f7⟩ := C3.out; clear g3))
      refine bodyPost_ret (v := .tuple #[.agg #[.int .i64 0, .int .i64 0], .bool false]) (by simp [results, Try.results58, go_sem, f4, f5]) rfl (KEY.out _ _ (0, 0) false HV.out HM.out rfl ?_)
      have B3 := HB0.out.trans (below_of_only G3.out HB0.out.size (by simp))
      exact (B3.setCell (by simp; omega) _).setCell (by simp; omega) _
  · have hp' : isB p = false := by simpa using hp
    have hm : meetsB p q = false := by rw [meets_iff]; simp [hp']
    have hv : meetV p q = (0, 0) := by simp [meetV, hm]
    have HM := Lib.hid hm
    have HV := Lib.hid hv
    clear hm hv hp
    obtain ⟨a, b⟩ := p
    obtain ⟨c, d⟩ := q
    go_enter Try.func58, Try.ntmps58
    go_wp2_with (go_at_call 56; ((with_reducible refine (is_any (a, b) _).mono ?_)); rintro e w2 ⟨rfl, g2⟩; have G2 := Lib.hid g2; have C2 := Lib.hid (boxes3 (p := (a, b)) (q := (c, d)) G2.out); obtain ⟨e0, e1, e2, e3, e4, e5, e6, e7⟩ := C2.out; clear g2)
    refine bodyPost_ret (v := .tuple #[.agg #[.int .i64 0, .int .i64 0], .bool false]) (by simp [results, Try.results58, go_sem, e4, e5]) rfl (KEY.out _ _ (0, 0) false HV.out HM.out rfl ?_)
    have B3 := HB0.out.trans (below_of_only G2.out HB0.out.size (by simp))
    exact (B3.setCell (by simp; omega) _).setCell (by simp; omega) _
end Go.Proofs.Ytgkegmkedkgkcaa
