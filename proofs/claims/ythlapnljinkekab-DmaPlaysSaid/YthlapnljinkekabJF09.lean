import Derived.Test.YthlapnljinkekabJF08
import Derived.Test.YthlapnljinkekabJF06
import Derived.Test.YthlapnljinkekabJF07
set_option linter.all false
/- Where two memories are unlike: the contracts of Diff and of the document's, whole. -/
namespace Go.Proofs.Ythlapnljinkekab
open Go.RowKit Go.Lib Go.Sort
set_option linter.unusedVariables false

def DiffV (la lb : List UInt8) (w : World) (e : Ending) (w' : World) : Prop :=
  ∃ v, e = .returned v ∧ RowV w' w.heap.size v (rTo (unl la lb) (max la.length lb.length)).1 (rTo (unl la lb) (max la.length lb.length)).2 ∧ Below w.heap.size w w'

set_option maxRecDepth 100000 in
set_option maxHeartbeats 3200000 in
theorem mdiff_any (w : World) (B B' m1 m2 : Nat) (la lb : List UInt8) (hA : MemV w B m1 la) (hB : MemV w B' m2 lb) (h1 : la.length ≤ 600) (h2 : lb.length ≤ 600) :
    Calls Try.prog 21 #[.pointer (some ⟨m1, 0, none⟩), .pointer (some ⟨m2, 0, none⟩)] w (DiffV la lb w) := by
  have HS1 := Lib.hid (fun W (hW : Below w.heap.size w W) => size_any W B m1 la (hA.below hW))
  have HS2 := Lib.hid (fun W (hW : Below w.heap.size w W) => size_any W B' m2 lb (hB.below hW))
  rcases Nat.lt_trichotomy lb.length la.length with hlt | heq | hlt
  · obtain ⟨g1, hg1, hm1, hb1, hr1⟩ := hA
    obtain ⟨g2, hg2, hm2, hb2, hr2⟩ := hB
    have HB1 := Lib.hid hb1
    have HR1 := Lib.hid hr1
    have HB2 := Lib.hid hb2
    have HR2 := Lib.hid hr2
    clear hb1 hr1 hb2 hr2
    have hp : ∀ k, (h : k < lb.length) → unl la lb k = decide ((la[k]'(by omega)).toNat ≠ (lb[k]'(by omega)).toNat) := fun k h => by
      rw [unl_in (by omega) (by omega), decide_eq_decide]
      omega
    have htail := rTo_tail (unl la lb) lb.length (la.length - lb.length) (fun x h1 h2 => unl_out (by omega))
    rw [show lb.length + (la.length - lb.length) = la.length by omega] at htail
    have HP := Lib.hid hp
    have HT := Lib.hid htail
    have i0 : (lb.length : Int) ≤ (la.length : Int) := by omega
    clear hp htail
    go_enter Try.func21, Try.ntmps21
    go_wp2_with (first | (go_at_call 17; (with_reducible refine (HS1.out _ (Below.refl _ _)).mono ?_); rintro e w1 ⟨rfl, rfl⟩) | (go_at_call 17; (with_reducible refine (HS2.out _ (Below.refl _ _)).mono ?_); rintro e w1 ⟨rfl, rfl⟩))
    go_loopw [5, 14] (fun v x wr => ∃ (k n : Nat) (o : Nat → Int × Int), x = .int .i64 k ∧ k ≤ lb.length ∧ n ≤ k ∧ Hid (rTo (unl la lb) k = (n, o)) ∧ RowV wr w.heap.size v n o ∧ Below w.heap.size w wr) (fun _ x _ => lb.length - (intOf x).toNat)
    case atStart => exact ⟨0, 0, _, rfl, by omega, by omega, Lib.hid rfl, .inl ⟨rfl, rfl⟩, Below.refl _ _⟩
    case round =>
      obtain ⟨k, n, o, rfl, hk, hnk, HM, hv, hb⟩ := hrel
      have HV := Lib.hid hv
      have HB := Lib.hid hb
      clear hv hb
      by_cases hkl : k < lb.length
      · have hA1 := HB1.out.below HB.out HB1.out.lt
        have hR1 := HR1.out.below HB.out HR1.out.lt
        have hA2 := HB2.out.below HB.out HB2.out.lt
        have hR2 := HR2.out.below HB.out HR2.out.lt
        have c0 := hA1.cell 0
        have c1 := row_cell hR1 (show k < la.length by omega)
        have c2 := hA2.cell 0
        have c3 := row_cell hR2 (show k < lb.length by omega)
        simp at c0 c2
        have i1 : (k : Int) < (la.length : Int) := by omega
        have i2 : (k : Int) < (lb.length : Int) := by omega
        have hnx : rTo (unl la lb) (k + 1) = rStep n o k (unl la lb k) := by
          show rStep (rTo (unl la lb) k).1 (rTo (unl la lb) k).2 k (unl la lb k) = _
          rw [HM.out]
        rw [HP.out k hkl] at hnx
        generalize (la[k]'(by omega)) = x at *
        generalize (lb[k]'(by omega)) = y at *
        have HNX := Lib.hid hnx
        clear hA1 hR1 hA2 hR2 hnx
        obtain ⟨Ao, co, rfl⟩ := HV.out.form
        by_cases hxy : x.toNat = y.toNat
        · have hnx2 : rTo (unl la lb) (k + 1) = (n, o) := by rw [HNX.out, decide_eq_false (by omega)]; simp [rStep]
          have HN2 := Lib.hid hnx2
          have hxy2 : (x.toNat : Int) = (y.toNat : Int) := by omega
          rw [hxy2] at c1
          clear hnx2 hxy hxy2
          go_wp2
          go_quiet (fail)
          go_wp2
          go_roundw
          case rel => exact ⟨k + 1, n, o, by go_num, by omega, by omega, HN2.out, HV.out.far (below_drewN (Below.refl _ _) _), below_drewN HB.out _⟩
          case measure => simp [intOf] <;> omega
        · have hnx2 : rTo (unl la lb) (k + 1) = eStep n o ((k : Int), (k : Int) + 1) := by rw [HNX.out, decide_eq_true (by omega), eStep_one]
          have hex : ∀ W, RowV W w.heap.size (.slice Ao n co) n o → w.heap.size ≤ W.heap.size → Calls Try.prog 37 #[.slice Ao n co, spv ((k : Int), (k : Int) + 1)] W (ExtV w.heap.size n o ((k : Int), (k : Int) + 1) W) := fun W h1 h2 => extend_any w.heap.size n _ o _ W h1 h2 (by omega)
          have HEX := Lib.hid hex
          have HN2 := Lib.hid hnx2
          have hle := rTo_le (unl la lb) (k + 1)
          have hxy2 : ¬ (x.toNat : Int) = (y.toNat : Int) := by omega
          clear hnx2 hxy hex
          go_wp2
          go_quiet (fail)
          go_wp2_with (go_at_call 37; refine (HEX.out _ (HV.out.far (below_drewN (Below.refl _ _) _)) (below_drewN HB.out _).size).mono ?_; rintro e w2 ⟨v2, rfl, hv2, b2⟩; have HV2 := Lib.hid hv2; have HBB := Lib.hid ((below_drewN HB.out nq).trans b2); clear hv2 b2; obtain ⟨A2, c2', rfl⟩ := HV2.out.form)
          go_roundw
          case rel =>
            have h := HN2.out
            rw [h] at hle
            exact ⟨k + 1, _, _, by go_num, by omega, hle, Lib.hid h, HV2.out, HBB.out⟩
          case measure => simp [intOf] <;> omega
      · obtain ⟨hk1, hk2⟩ : k ≤ lb.length ∧ lb.length ≤ k := ⟨hk, by omega⟩
        have hex : ∀ v, RowV wr w.heap.size v n o → Calls Try.prog 37 #[v, spv ((lb.length : Int), (la.length : Int))] wr (ExtV w.heap.size n o ((lb.length : Int), (la.length : Int)) wr) := fun v hv => extend_any w.heap.size n v o _ wr hv HB.out.size (by omega)
        have hout : rTo (unl la lb) (max la.length lb.length) = eStep n o ((lb.length : Int), (la.length : Int)) := by
          rw [show max la.length lb.length = la.length by omega, HT.out, show lb.length = k by omega, HM.out]
        have HEX := Lib.hid (hex _ HV.out)
        have HOUT := Lib.hid hout
        clear hex hout
        obtain ⟨Ao, co, rfl⟩ := HV.out.form
        go_wp2_with (first | (go_at_call 17; (with_reducible refine (HS1.out _ HB.out).mono ?_); rintro e w1 ⟨rfl, rfl⟩) | (go_at_call 17; (with_reducible refine (HS2.out _ HB.out).mono ?_); rintro e w1 ⟨rfl, rfl⟩) | (go_at_call 37; refine HEX.out.mono ?_; rintro e w2 ⟨v2, rfl, hv2, b2⟩; have HV2 := Lib.hid hv2; have HBB := Lib.hid (HB.out.trans b2); clear hv2 b2))
        go_ret
        refine ⟨_, rfl, ?_, HBB.out⟩
        rw [HOUT.out]
        exact HV2.out
  · have hq1 : lb.length ≤ la.length := by omega
    have hq2 : la.length ≤ lb.length := by omega
    clear heq
    obtain ⟨g1, hg1, hm1, hb1, hr1⟩ := hA
    obtain ⟨g2, hg2, hm2, hb2, hr2⟩ := hB
    have HB1 := Lib.hid hb1
    have HR1 := Lib.hid hr1
    have HB2 := Lib.hid hb2
    have HR2 := Lib.hid hr2
    clear hb1 hr1 hb2 hr2
    have hp : ∀ k, (h : k < la.length) → unl la lb k = decide ((la[k]'(by omega)).toNat ≠ (lb[k]'(by omega)).toNat) := fun k h => by
      rw [unl_in (by omega) (by omega), decide_eq_decide]
      omega
    have htail := rTo_tail (unl la lb) la.length (lb.length - la.length) (fun x h1 h2 => unl_out (by omega))
    rw [show la.length + (lb.length - la.length) = lb.length by omega] at htail
    have HP := Lib.hid hp
    have HT := Lib.hid htail
    have i0 : (la.length : Int) ≤ (lb.length : Int) := by omega
    clear hp htail
    go_enter Try.func21, Try.ntmps21
    go_wp2_with (first | (go_at_call 17; (with_reducible refine (HS1.out _ (Below.refl _ _)).mono ?_); rintro e w1 ⟨rfl, rfl⟩) | (go_at_call 17; (with_reducible refine (HS2.out _ (Below.refl _ _)).mono ?_); rintro e w1 ⟨rfl, rfl⟩))
    go_loopw [5, 14] (fun v x wr => ∃ (k n : Nat) (o : Nat → Int × Int), x = .int .i64 k ∧ k ≤ la.length ∧ n ≤ k ∧ Hid (rTo (unl la lb) k = (n, o)) ∧ RowV wr w.heap.size v n o ∧ Below w.heap.size w wr) (fun _ x _ => la.length - (intOf x).toNat)
    case atStart => exact ⟨0, 0, _, rfl, by omega, by omega, Lib.hid rfl, .inl ⟨rfl, rfl⟩, Below.refl _ _⟩
    case round =>
      obtain ⟨k, n, o, rfl, hk, hnk, HM, hv, hb⟩ := hrel
      have HV := Lib.hid hv
      have HB := Lib.hid hb
      clear hv hb
      by_cases hkl : k < la.length
      · have hA1 := HB1.out.below HB.out HB1.out.lt
        have hR1 := HR1.out.below HB.out HR1.out.lt
        have hA2 := HB2.out.below HB.out HB2.out.lt
        have hR2 := HR2.out.below HB.out HR2.out.lt
        have c0 := hA1.cell 0
        have c1 := row_cell hR1 (show k < la.length by omega)
        have c2 := hA2.cell 0
        have c3 := row_cell hR2 (show k < lb.length by omega)
        simp at c0 c2
        have i1 : (k : Int) < (la.length : Int) := by omega
        have i2 : (k : Int) < (lb.length : Int) := by omega
        have hnx : rTo (unl la lb) (k + 1) = rStep n o k (unl la lb k) := by
          show rStep (rTo (unl la lb) k).1 (rTo (unl la lb) k).2 k (unl la lb k) = _
          rw [HM.out]
        rw [HP.out k hkl] at hnx
        generalize (la[k]'(by omega)) = x at *
        generalize (lb[k]'(by omega)) = y at *
        have HNX := Lib.hid hnx
        clear hA1 hR1 hA2 hR2 hnx
        obtain ⟨Ao, co, rfl⟩ := HV.out.form
        by_cases hxy : x.toNat = y.toNat
        · have hnx2 : rTo (unl la lb) (k + 1) = (n, o) := by rw [HNX.out, decide_eq_false (by omega)]; simp [rStep]
          have HN2 := Lib.hid hnx2
          have hxy2 : (x.toNat : Int) = (y.toNat : Int) := by omega
          rw [hxy2] at c1
          clear hnx2 hxy hxy2
          go_wp2
          go_quiet (fail)
          go_wp2
          go_roundw
          case rel => exact ⟨k + 1, n, o, by go_num, by omega, by omega, HN2.out, HV.out.far (below_drewN (Below.refl _ _) _), below_drewN HB.out _⟩
          case measure => simp [intOf] <;> omega
        · have hnx2 : rTo (unl la lb) (k + 1) = eStep n o ((k : Int), (k : Int) + 1) := by rw [HNX.out, decide_eq_true (by omega), eStep_one]
          have hex : ∀ W, RowV W w.heap.size (.slice Ao n co) n o → w.heap.size ≤ W.heap.size → Calls Try.prog 37 #[.slice Ao n co, spv ((k : Int), (k : Int) + 1)] W (ExtV w.heap.size n o ((k : Int), (k : Int) + 1) W) := fun W h1 h2 => extend_any w.heap.size n _ o _ W h1 h2 (by omega)
          have HEX := Lib.hid hex
          have HN2 := Lib.hid hnx2
          have hle := rTo_le (unl la lb) (k + 1)
          have hxy2 : ¬ (x.toNat : Int) = (y.toNat : Int) := by omega
          clear hnx2 hxy hex
          go_wp2
          go_quiet (fail)
          go_wp2_with (go_at_call 37; refine (HEX.out _ (HV.out.far (below_drewN (Below.refl _ _) _)) (below_drewN HB.out _).size).mono ?_; rintro e w2 ⟨v2, rfl, hv2, b2⟩; have HV2 := Lib.hid hv2; have HBB := Lib.hid ((below_drewN HB.out nq).trans b2); clear hv2 b2; obtain ⟨A2, c2', rfl⟩ := HV2.out.form)
          go_roundw
          case rel =>
            have h := HN2.out
            rw [h] at hle
            exact ⟨k + 1, _, _, by go_num, by omega, hle, Lib.hid h, HV2.out, HBB.out⟩
          case measure => simp [intOf] <;> omega
      · obtain ⟨hk1, hk2⟩ : k ≤ la.length ∧ la.length ≤ k := ⟨hk, by omega⟩
        have hex : ∀ v, RowV wr w.heap.size v n o → Calls Try.prog 37 #[v, spv ((la.length : Int), (la.length : Int))] wr (ExtV w.heap.size n o ((la.length : Int), (la.length : Int)) wr) := fun v hv => extend_any w.heap.size n v o _ wr hv HB.out.size (by omega)
        have hout : rTo (unl la lb) (max la.length lb.length) = eStep n o ((la.length : Int), (la.length : Int)) := by
          rw [show max la.length lb.length = k by omega, HM.out]
          unfold eStep
          rw [if_neg (by unfold isS; simp)]
        have HEX := Lib.hid (hex _ HV.out)
        have HOUT := Lib.hid hout
        clear hex hout
        obtain ⟨Ao, co, rfl⟩ := HV.out.form
        go_wp2_with (first | (go_at_call 17; (with_reducible refine (HS1.out _ HB.out).mono ?_); rintro e w1 ⟨rfl, rfl⟩) | (go_at_call 17; (with_reducible refine (HS2.out _ HB.out).mono ?_); rintro e w1 ⟨rfl, rfl⟩) | (go_at_call 37; refine HEX.out.mono ?_; rintro e w2 ⟨v2, rfl, hv2, b2⟩; have HV2 := Lib.hid hv2; have HBB := Lib.hid (HB.out.trans b2); clear hv2 b2))
        go_ret
        refine ⟨_, rfl, ?_, HBB.out⟩
        rw [HOUT.out]
        exact HV2.out
  · obtain ⟨g1, hg1, hm1, hb1, hr1⟩ := hA
    obtain ⟨g2, hg2, hm2, hb2, hr2⟩ := hB
    have HB1 := Lib.hid hb1
    have HR1 := Lib.hid hr1
    have HB2 := Lib.hid hb2
    have HR2 := Lib.hid hr2
    clear hb1 hr1 hb2 hr2
    have hp : ∀ k, (h : k < la.length) → unl la lb k = decide ((la[k]'(by omega)).toNat ≠ (lb[k]'(by omega)).toNat) := fun k h => by
      rw [unl_in (by omega) (by omega), decide_eq_decide]
      omega
    have htail := rTo_tail (unl la lb) la.length (lb.length - la.length) (fun x h1 h2 => unl_out (by omega))
    rw [show la.length + (lb.length - la.length) = lb.length by omega] at htail
    have HP := Lib.hid hp
    have HT := Lib.hid htail
    have i0 : (la.length : Int) ≤ (lb.length : Int) := by omega
    clear hp htail
    go_enter Try.func21, Try.ntmps21
    go_wp2_with (first | (go_at_call 17; (with_reducible refine (HS1.out _ (Below.refl _ _)).mono ?_); rintro e w1 ⟨rfl, rfl⟩) | (go_at_call 17; (with_reducible refine (HS2.out _ (Below.refl _ _)).mono ?_); rintro e w1 ⟨rfl, rfl⟩))
    go_loopw [5, 14] (fun v x wr => ∃ (k n : Nat) (o : Nat → Int × Int), x = .int .i64 k ∧ k ≤ la.length ∧ n ≤ k ∧ Hid (rTo (unl la lb) k = (n, o)) ∧ RowV wr w.heap.size v n o ∧ Below w.heap.size w wr) (fun _ x _ => la.length - (intOf x).toNat)
    case atStart => exact ⟨0, 0, _, rfl, by omega, by omega, Lib.hid rfl, .inl ⟨rfl, rfl⟩, Below.refl _ _⟩
    case round =>
      obtain ⟨k, n, o, rfl, hk, hnk, HM, hv, hb⟩ := hrel
      have HV := Lib.hid hv
      have HB := Lib.hid hb
      clear hv hb
      by_cases hkl : k < la.length
      · have hA1 := HB1.out.below HB.out HB1.out.lt
        have hR1 := HR1.out.below HB.out HR1.out.lt
        have hA2 := HB2.out.below HB.out HB2.out.lt
        have hR2 := HR2.out.below HB.out HR2.out.lt
        have c0 := hA1.cell 0
        have c1 := row_cell hR1 (show k < la.length by omega)
        have c2 := hA2.cell 0
        have c3 := row_cell hR2 (show k < lb.length by omega)
        simp at c0 c2
        have i1 : (k : Int) < (la.length : Int) := by omega
        have i2 : (k : Int) < (lb.length : Int) := by omega
        have hnx : rTo (unl la lb) (k + 1) = rStep n o k (unl la lb k) := by
          show rStep (rTo (unl la lb) k).1 (rTo (unl la lb) k).2 k (unl la lb k) = _
          rw [HM.out]
        rw [HP.out k hkl] at hnx
        generalize (la[k]'(by omega)) = x at *
        generalize (lb[k]'(by omega)) = y at *
        have HNX := Lib.hid hnx
        clear hA1 hR1 hA2 hR2 hnx
        obtain ⟨Ao, co, rfl⟩ := HV.out.form
        by_cases hxy : x.toNat = y.toNat
        · have hnx2 : rTo (unl la lb) (k + 1) = (n, o) := by rw [HNX.out, decide_eq_false (by omega)]; simp [rStep]
          have HN2 := Lib.hid hnx2
          have hxy2 : (x.toNat : Int) = (y.toNat : Int) := by omega
          rw [hxy2] at c1
          clear hnx2 hxy hxy2
          go_wp2
          go_quiet (fail)
          go_wp2
          go_roundw
          case rel => exact ⟨k + 1, n, o, by go_num, by omega, by omega, HN2.out, HV.out.far (below_drewN (Below.refl _ _) _), below_drewN HB.out _⟩
          case measure => simp [intOf] <;> omega
        · have hnx2 : rTo (unl la lb) (k + 1) = eStep n o ((k : Int), (k : Int) + 1) := by rw [HNX.out, decide_eq_true (by omega), eStep_one]
          have hex : ∀ W, RowV W w.heap.size (.slice Ao n co) n o → w.heap.size ≤ W.heap.size → Calls Try.prog 37 #[.slice Ao n co, spv ((k : Int), (k : Int) + 1)] W (ExtV w.heap.size n o ((k : Int), (k : Int) + 1) W) := fun W h1 h2 => extend_any w.heap.size n _ o _ W h1 h2 (by omega)
          have HEX := Lib.hid hex
          have HN2 := Lib.hid hnx2
          have hle := rTo_le (unl la lb) (k + 1)
          have hxy2 : ¬ (x.toNat : Int) = (y.toNat : Int) := by omega
          clear hnx2 hxy hex
          go_wp2
          go_quiet (fail)
          go_wp2_with (go_at_call 37; refine (HEX.out _ (HV.out.far (below_drewN (Below.refl _ _) _)) (below_drewN HB.out _).size).mono ?_; rintro e w2 ⟨v2, rfl, hv2, b2⟩; have HV2 := Lib.hid hv2; have HBB := Lib.hid ((below_drewN HB.out nq).trans b2); clear hv2 b2; obtain ⟨A2, c2', rfl⟩ := HV2.out.form)
          go_roundw
          case rel =>
            have h := HN2.out
            rw [h] at hle
            exact ⟨k + 1, _, _, by go_num, by omega, hle, Lib.hid h, HV2.out, HBB.out⟩
          case measure => simp [intOf] <;> omega
      · obtain ⟨hk1, hk2⟩ : k ≤ la.length ∧ la.length ≤ k := ⟨hk, by omega⟩
        have hex : ∀ v, RowV wr w.heap.size v n o → Calls Try.prog 37 #[v, spv ((la.length : Int), (lb.length : Int))] wr (ExtV w.heap.size n o ((la.length : Int), (lb.length : Int)) wr) := fun v hv => extend_any w.heap.size n v o _ wr hv HB.out.size (by omega)
        have hout : rTo (unl la lb) (max la.length lb.length) = eStep n o ((la.length : Int), (lb.length : Int)) := by
          rw [show max la.length lb.length = lb.length by omega, HT.out, show la.length = k by omega, HM.out]
        have HEX := Lib.hid (hex _ HV.out)
        have HOUT := Lib.hid hout
        clear hex hout
        obtain ⟨Ao, co, rfl⟩ := HV.out.form
        go_wp2_with (first | (go_at_call 17; (with_reducible refine (HS1.out _ HB.out).mono ?_); rintro e w1 ⟨rfl, rfl⟩) | (go_at_call 17; (with_reducible refine (HS2.out _ HB.out).mono ?_); rintro e w1 ⟨rfl, rfl⟩) | (go_at_call 37; refine HEX.out.mono ?_; rintro e w2 ⟨v2, rfl, hv2, b2⟩; have HV2 := Lib.hid hv2; have HBB := Lib.hid (HB.out.trans b2); clear hv2 b2))
        go_ret
        refine ⟨_, rfl, ?_, HBB.out⟩
        rw [HOUT.out]
        exact HV2.out
end Go.Proofs.Ythlapnljinkekab

/- DmaStays: its walk. -/
namespace Go.Proofs.Ythlapnljinkekab
open Go.RowKit Go.Lib Go.Sort
set_option linter.unusedVariables false

/-- Where a burst changed something. -/
theorem over_out {l bs : List UInt8} {k i : Nat} (hk : k + bs.length ≤ l.length) (h : i < k ∨ k + bs.length ≤ i) : (over l k bs)[i]? = l[i]? := by
  unfold over
  rcases h with h | h
  · rw [List.append_assoc, List.getElem?_append_left (by simp; omega), List.getElem?_take_of_lt h]
  · rw [List.getElem?_append_right (by simp; omega), List.getElem?_drop]
    congr 1
    simp
    omega
theorem mapV_reg {L : List Reg} {o a n y : Int} (h : mapV L o a n = (y, 0)) : (spn (fndR L o)).1 ≤ y ∧ y + n ≤ (spn (fndR L o)).2 := by
  unfold mapV at h
  unfold fndR
  cases hl : lookL L o with
  | none => rw [hl] at h; simp at h
  | some r =>
    rw [hl] at h
    show (spn r).1 ≤ y ∧ y + n ≤ (spn r).2
    simp only at h
    by_cases h1 : n < 0
    · rw [if_pos h1] at h; simp at h
    · rw [if_neg h1] at h
      by_cases h2 : a < 0
      · rw [if_pos h2] at h; simp at h
      · rw [if_neg h2] at h
        by_cases h3 : r.2.2 - a < n
        · rw [if_pos h3] at h; simp at h
        · rw [if_neg h3] at h
          injection h with h _
          simp only [spn]
          omega
/-- Spans of places where two memories are unlike lie in the burst's region. -/
theorem stays_in {L : List Reg} {l : List UInt8} {o a : Int} {s : ByteArray} (hm : AllMay L) (hc : (askV L l.length o a s.size).2 = 0) {N i : Nat} (hi : i < (rTo (unl l (wrL L l o a s)) N).1) :
    isB ((rTo (unl l (wrL L l o a s)) N).2 i) = true ∧ (spn (fndR L o)).1 ≤ ((rTo (unl l (wrL L l o a s)) N).2 i).1 ∧ ((rTo (unl l (wrL L l o a s)) N).2 i).2 ≤ (spn (fndR L o)).2 := by
  obtain ⟨q1, q2, q3, q4, q5, q6, q7⟩ := askV_ok hm hc
  obtain ⟨y, hy⟩ : ∃ y, y = (askV L l.length o a s.size).1 := ⟨_, rfl⟩
  have hw : wrL L l o a s = over l y.toNat s.data.toList := by unfold wrL; rw [if_pos hc, ← hy]
  rw [← hy] at q5 q6 q7
  have hr := mapV_reg q5
  have hsz : s.data.toList.length = s.size := by rw [Array.length_toList]; rfl
  have hin : ∀ x : Int, unl l (wrL L l o a s) x = true → 0 ≤ x → y ≤ x ∧ x < y + s.size := by
    intro x hx hx0
    unfold unl at hx
    rw [hw] at hx
    have hne := of_decide_eq_true hx
    by_cases h1 : y ≤ x ∧ x < y + s.size
    · exact h1
    · exfalso
      apply hne
      exact (over_out (by omega) (by omega)).symm
  have R := running (unl l (wrL L l o a s)) N
  have hS := R.up.1 i hi
  obtain ⟨p, hp⟩ : ∃ p, p = (rTo (unl l (wrL L l o a s)) N).2 i := ⟨_, rfl⟩
  rw [← hp] at hS ⊢
  obtain ⟨h1, h2⟩ := hS
  have hold : ∀ x : Int, p.1 ≤ x → x < p.2 → unl l (wrL L l o a s) x = true := fun x hx1 hx2 => by
    have h3 : inN (rTo (unl l (wrL L l o a s)) N).2 x (rTo (unl l (wrL L l o a s)) N).1 = true := (inN_iff _ _ _).2 ⟨i, hi, by rw [← hp]; simp [holdsB]; omega⟩
    rw [R.same x] at h3
    simp at h3
    exact h3.2
  have ha := hin _ (hold p.1 (by omega) h2) h1
  have hb := hin _ (hold (p.2 - 1) (by omega) (by omega)) (by omega)
  exact ⟨by simp [isB]; omega, by omega, by omega⟩
theorem unl_self (l : List UInt8) : unl l l = fun _ => false := by
  funext x
  simp [unl]
theorem rTo_none (N : Nat) : (rTo (fun _ => false) N).1 = 0 := by
  induction N with
  | zero => rfl
  | succ N ih =>
    show (rStep _ _ _ _).1 = 0
    simp [rStep, ih]

theorem rspan_zero (w : World) : Calls Try.prog 22 #[.agg #[.int .i64 0, .int .i64 0, .int .i64 0]] w fun e w' => e = .returned (.agg #[.int .i64 0, .int .i64 0]) ∧ w.grownBy w' none := by
  go_enter Try.func22, Try.ntmps22
  go_wp2
  refine bodyPost_ret (v := .agg #[.int .i64 0, .int .i64 0]) (by simp [results, Try.results22, go_sem]) rfl ⟨rfl, only_alloc (only_alloc (only_refl _ _) _) _⟩
theorem rspan_find {L : List Reg} (hm : AllMay L) (o : Int) (w : World) : Calls Try.prog 22 #[.agg #[.int .i64 (fndR L o).1, .int .i64 (fndR L o).2.1, .int .i64 (fndR L o).2.2]] w fun e w' => e = .returned (.agg #[.int .i64 (spn (fndR L o)).1, .int .i64 (spn (fndR L o)).2]) ∧ w.grownBy w' none := by
  cases hl : lookL L o with
  | none =>
    have : fndR L o = (0, 0, 0) := by unfold fndR; rw [hl]; rfl
    rw [this]
    exact rspan_zero w
  | some r =>
    have : fndR L o = r := by unfold fndR; rw [hl]; rfl
    rw [this]
    exact rspan_any r (hm.look hl) w
/-- What a write leaves of the memory, done or refused. -/
theorem write_mem {B e m g t : Nat} {L : List Reg} {l : List UInt8} {rv : Value} {n : Nat} {rc : Nat → Rec} {rd wr : Nat → Int} {tick o a : Int} {s : ByteArray} {w w' : World} {r : Ending} (h : WriteV B e m g t L l rv n rc rd wr tick o a s w r w') :
    r = .returned (.int .i64 (askV L l.length o a s.size).2) ∧ MemG w' B m g (wrL L l o a s) ∧ Keeps (Burst e g rv) w w' := by
  obtain ⟨h1, ⟨hc, rv', q1, _, q3⟩ | ⟨hc, q1, q3⟩⟩ := h
  · exact ⟨h1, by rw [show wrL L l o a s = l from by unfold wrL; rw [if_neg hc]]; exact q1.2.2.1, q3⟩
  · exact ⟨h1, q1.2.2.1, q3⟩
theorem wrL_len {L : List Reg} {l : List UInt8} {o a : Int} {s : ByteArray} (hm : AllMay L) : (wrL L l o a s).length = l.length := by
  unfold wrL
  by_cases hc : (askV L l.length o a s.size).2 = 0
  · rw [if_pos hc]
    obtain ⟨q1, q2, q3, q4, q5, q6, q7⟩ := askV_ok hm hc
    have hsz : s.data.toList.length = s.size := by rw [Array.length_toList]; rfl
    exact over_len (by omega)
  · rw [if_neg hc]

theorem Blk.kept {w w' : World} {S : Nat → Prop} {i : Nat} {ty : TypeId} {cs : Array Value} (h : Blk w i ty cs) (k : Keeps S w w') (hn : ¬ S i) : Blk w' i ty cs := (k.2.2.2.2 i h.lt hn).trans h
theorem StG.apart {w : World} {B e m g t : Nat} {L : List Reg} {l : List UInt8} {n : Nat} {rc : Nat → Rec} {rd wr : Nat → Int} (S : StG w B e m g t L l (.slice none 0 0) n rc rd wr) {i : Nat} {ty : TypeId} {cs : Array Value} (h : Blk w i ty cs) (h1 : ty ≠ 77) (h2 : i ≠ g) : ¬ Burst e g (.slice none 0 0) i := by
  rintro (h3 | h3 | h3)
  · obtain ⟨cs', h0, _⟩ := S.2.1
    exact h.differ h0 h1 h3
  · exact h2 h3
  · simp [Value.ownBlock] at h3
/-- A fork stays where a burst writes to the memory that it was forked from. -/
theorem fork_kept {w w' : World} {B e m g t : Nat} {L : List Reg} {l : List UInt8} {n : Nat} {rc : Nat → Rec} {rd wr : Nat → Int} (S : StG w B e m g t L l (.slice none 0 0) n rc rd wr) (k : Keeps (Burst e g (.slice none 0 0)) w w') {C m2 g2 : Nat} {z : List UInt8} (h : MemG w C m2 g2 z) (hg : g < C) : MemG w' C m2 g2 z :=
  ⟨h.1, h.2.1, h.2.2.1.kept k (S.apart h.2.2.1 (by decide) (h.2.2.1.differ S.2.2.1.2.2.2 (by decide))), h.2.2.2.kept k (S.apart h.2.2.2 (by decide) (by have := h.1; omega))⟩

set_option maxHeartbeats 3200000 in
set_option maxRecDepth 100000 in
theorem dstays_walk (size : Int) (A : Option Addr) (len cap : Nat) (d : Nat → Reg) (t o a q : Int) (b : Bool) (s : ByteArray) (w : World) (hst0 : Regs w A len cap d) (hf0 : ∀ i, i < len → Fits (d i)) (hlc : len ≤ cap) (hcm : cap ≤ 9223372036854775807) (ho : fitI o) (ha : fitI a) :
    Calls Try.prog 4 #[.int .i64 size, .slice A len cap, .agg #[.int .i64 t, .int .i64 o, .int .i64 a, .int .i64 q, .bool b, .string s]] w fun e w' => e = .returned (.bool true) ∧ Below w.heap.size w w' := by
  obtain ⟨n, hn⟩ : ∃ n, n = min len 8 := ⟨_, rfl⟩
  have hb0 : Below w.heap.size w ((w.alloc (.cells #[.int .i64 t, .int .i64 o, .int .i64 a, .int .i64 q, .bool b, .string s] 39)).alloc (.cells #[.int .i64 t, .int .i64 o, .int .i64 a, .int .i64 q, .bool b, .string s] 39)) := ((Below.refl w.heap.size w).alloc (Nat.le_refl _) _).alloc (by simp) _
  have hD : DeedsD ((w.alloc (.cells #[.int .i64 t, .int .i64 o, .int .i64 a, .int .i64 q, .bool b, .string s] 39)).alloc (.cells #[.int .i64 t, .int .i64 o, .int .i64 a, .int .i64 q, .bool b, .string s] 39)) (some ⟨w.heap.size + 1, 0, none⟩) 1 (fun _ => (t, o, a, q, b, s)) := fun _ => ⟨_, 0, rfl, by simp, fun i hi => by
    obtain rfl : i = 0 := by omega
    have hB : Blk ((w.alloc (.cells #[.int .i64 t, .int .i64 o, .int .i64 a, .int .i64 q, .bool b, .string s] 39)).alloc (.cells #[.int .i64 t, .int .i64 o, .int .i64 a, .int .i64 q, .bool b, .string s] 39)) (w.heap.size + 1) 39 #[.int .i64 t, .int .i64 o, .int .i64 a, .int .i64 q, .bool b, .string s] := by
      have := Blk.new (w.alloc (.cells #[.int .i64 t, .int .i64 o, .int .i64 a, .int .i64 q, .bool b, .string s] 39)) 39 #[.int .i64 t, .int .i64 o, .int .i64 a, .int .i64 q, .bool b, .string s]
      simpa using this
    exact ⟨hB.cell 0, hB.cell 1, hB.cell 2, hB.cell 3, hB.cell 4, hB.cell 5⟩⟩
  have hfew := few_any A len cap (some ⟨w.heap.size + 1, 0, none⟩) 1 1 d (fun _ => (t, o, a, q, b, s)) _ (hst0.below hb0) hf0 hD hlc hcm (Nat.le_refl _) (by omega)
  rw [← hn, show min 1 20 = 1 from rfl] at hfew
  have hX : Blk ((w.alloc (.cells #[.int .i64 t, .int .i64 o, .int .i64 a, .int .i64 q, .bool b, .string s] 39)).alloc (.cells #[.int .i64 t, .int .i64 o, .int .i64 a, .int .i64 q, .bool b, .string s] 39)) w.heap.size 39 #[.int .i64 t, .int .i64 o, .int .i64 a, .int .i64 q, .bool b, .string s] := (Blk.new w _ _).alloc _
  have HX0 := Lib.hid hX
  have HB0 := Lib.hid hb0
  have HFEW := Lib.hid hfew
  have HST := Lib.hid (hst0.cut n (by omega))
  have HF : Hid (∀ i, i < n → Fits (d i)) := fun i hi => hf0 i (by omega)
  have HN : Hid (n ≤ 8) := by unfold Hid; omega
  clear hb0 hD hfew hst0 hf0 hlc hcm hX hn
  by_cases h6 : (600 : Int) < size
  · go_enter Try.func4, Try.ntmps4
    go_wp2_with (go_at_call 6; refine HFEW.out.mono ?_; rintro e w1 ⟨r, rfl, hr, b1⟩; have HR := Lib.hid hr; have B1 := Lib.hid (HB0.out.trans (b1.mono HB0.out.size)); have X1 := Lib.hid (HX0.out.below b1 HX0.out.lt); clear hr b1; cases r)
    all_goals
      go_wp2_with (go_at_call 7; refine (dlive_any _).mono ?_; rintro e w2 ⟨rfl, b2⟩; have B2 := Lib.hid (B1.out.trans (b2.mono B1.out.size)); clear b2)
      go_ret
      exact ⟨rfl, B2.out⟩
  · go_enter Try.func4, Try.ntmps4
    go_wp2_with (go_at_call 6; refine HFEW.out.mono ?_; rintro e w1 ⟨r, rfl, hr, b1⟩; have HR := Lib.hid hr; have B1 := Lib.hid (HB0.out.trans (b1.mono HB0.out.size)); have X1 := Lib.hid (HX0.out.below b1 HX0.out.lt); clear hr b1; cases r)
    · go_wp2_with (go_at_call 7; refine (dlive_any _).mono ?_; rintro e w2 ⟨rfl, b2⟩; have B2 := Lib.hid (B1.out.trans (b2.mono B1.out.size)); clear b2)
      go_ret
      exact ⟨rfl, B2.out⟩
    · obtain ⟨hc0, hs2⟩ := HR.out (by first | rfl | trivial)
      have hs2 : s.size ≤ 200 := hs2 0 (by omega)
      have hmay := chkN_may hc0
      have hz : (List.replicate (sizeOf' size) (0 : UInt8)).length ≤ 600 := by rw [List.length_replicate]; unfold sizeOf'; split <;> (try split) <;> omega
      have hnew : ∀ W, Calls Try.prog 8 #[.int .i64 size] W fun r w' => ∃ m, r = .returned (.pointer (some ⟨m, 0, none⟩)) ∧ MemV w' W.heap.size m (List.replicate (sizeOf' size) 0) ∧ Below W.heap.size W w' := fun W => mnew_any size W
      generalize List.replicate (sizeOf' size) (0 : UInt8) = z at hz hnew
      have htn := fun W (hW : Below w.heap.size w W) => tnew_dok (HST.out.below hW) HF.out (by have := HN.out; omega) hc0
      have hrf := fun W (hW : Below w.heap.size w W) => rfind_any A n cap d o W (HST.out.below hW) (by have := HN.out; omega)
      have hrs := fun W => rspan_find hmay o W
      unfold RFindV at hrf
      generalize rws d n = L at hmay htn hrf hrs
      have hwr := fun W B e m g t' (h : StG W B e m g t' L z (.slice none 0 0) 0 (fun _ => (0, 0, 0, 0, false, 0)) (fun _ => 0) (fun _ => 0)) (hB : B ≤ W.heap.size) => (ewrite_any W B e m g t' L _ 0 _ _ _ z t o a s h hmay ho ha (by omega) (by omega) hB (by omega) (fun k _ => by omega)).mono fun r w' h => write_mem h
      have hlen := wrL_len (l := z) (o := o) (a := a) (s := s) hmay
      have hdf := fun W B B' m1 m2 (h1 : MemV W B m1 z) (h2 : MemV W B' m2 (wrL L z o a s)) => mdiff_any W B B' m1 m2 z (wrL L z o a s) h1 h2 hz (by omega)
      have hdone : (askV L z.length o a s.size).2 = 0 ∨ ((askV L z.length o a s.size).2 ≠ 0 ∧ (rTo (unl z (wrL L z o a s)) (max z.length (wrL L z o a s).length)).1 = 0) := by
        by_cases hc : (askV L z.length o a s.size).2 = 0
        · exact .inl hc
        · refine .inr ⟨hc, ?_⟩
          rw [show wrL L z o a s = z from by unfold wrL; rw [if_neg hc], unl_self, rTo_none]
      have hin := fun (hc : (askV L z.length o a s.size).2 = 0) i (hi : i < (rTo (unl z (wrL L z o a s)) (max z.length (wrL L z o a s).length)).1) => stays_in hmay hc hi
      have hcnt := rTo_le (unl z (wrL L z o a s)) (max z.length (wrL L z o a s).length)
      have hmx : max z.length (wrL L z o a s).length ≤ 600 := by omega
      obtain ⟨c, hc⟩ : ∃ c, c = (askV L z.length o a s.size).2 := ⟨_, rfl⟩
      unfold DiffV at hdf
      rw [← hc] at hdone hin
      simp only [← hc] at hwr
      generalize wrL L z o a s = l' at hwr hdf hdone hin hcnt hmx hlen
      generalize rTo (unl z l') (max z.length l'.length) = R at hdf hdone hin hcnt
      generalize max z.length l'.length = N at hcnt hmx
      obtain ⟨k, D⟩ := R
      generalize fndR L o = fr at hrf hrs hin
      obtain ⟨f1, f2, f3⟩ := fr
      obtain ⟨o1, o2, hoo⟩ : ∃ o1 o2, spn (f1, f2, f3) = (o1, o2) := ⟨_, _, rfl⟩
      rw [hoo] at hrs hin
      simp only at hrs hrf hdf hdone hin hcnt
      have HNEW := Lib.hid hnew
      have HTN := Lib.hid htn
      have HRF := Lib.hid hrf
      have HRS := Lib.hid hrs
      have HWR := Lib.hid hwr
      have HDF := Lib.hid hdf
      have HDONE := Lib.hid hdone
      have HIN := Lib.hid hin
      have HZ := Lib.hid hz
      have hk600 : k ≤ 600 := by omega
      clear hnew htn hrf hrs hwr hdf hdone hin hz hmay hc0 hs2 hcnt hmx hlen hc HR hoo
      go_wp2_with (first
        | (go_at_call 8; refine (HNEW.out _).mono ?_; rintro e w2 ⟨m, rfl, hm, b2⟩; obtain ⟨g, hg⟩ := hm.named; have M2 := Lib.hid (hg.lower' B1.out.size); have B2 := Lib.hid (B1.out.trans (b2.mono B1.out.size)); have X2 := Lib.hid (X1.out.below b2 X1.out.lt); clear hm hg b2)
        | (go_at_call 9; refine (HTN.out _ B2.out).mono ?_; rintro e w3 ⟨t', rfl, ht, b3⟩; have M3 := Lib.hid (M2.out.below b3); have T3 := Lib.hid (ht.lower B2.out.size); have B3 := Lib.hid (B2.out.trans (b3.mono B2.out.size)); have X3 := Lib.hid (X2.out.below b3 X2.out.lt); clear ht b3)
        | (go_at_call 19; refine (fork_any _ _ _ _ _ M3.out HZ.out).mono ?_; rintro e w4 ⟨m2, g2, rfl, hf, hm4, b4⟩; have F4 := Lib.hid hf; have M4 := Lib.hid hm4; have T4 := Lib.hid (T3.out.below b4); have B4 := Lib.hid (B3.out.trans (b4.mono B3.out.size)); have X4 := Lib.hid (X3.out.below b4 X3.out.lt); have LTG := Lib.hid M3.out.lt.1; clear hf hm4 b4)
        | (go_at_call 10; refine (enew_any m t' _).mono ?_; rintro e w5 ⟨rfl, he, b5⟩; have S5 : Hid (StG w5 w.heap.size w4.heap.size m g t' L z (.slice none 0 0) 0 (fun _ => (0, 0, 0, 0, false, 0)) (fun _ => 0) (fun _ => 0)) := ⟨B4.out.size, eng_of he, M4.out.below b5, T4.out.below b5, rec_nil _ _ _⟩; have F5 := Lib.hid (F4.out.below b5); have B5 := Lib.hid (B4.out.trans (b5.mono B4.out.size)); have X5 := Lib.hid (X4.out.below b5 X4.out.lt); have x0 := X5.out.cell 0; have x1 := X5.out.cell 1; have x2 := X5.out.cell 2; have x5 := X5.out.cell 5; simp at x0 x1 x2 x5; clear he b5)
        | (go_at_call 20; refine (HWR.out _ _ _ _ _ _ S5.out B5.out.size).mono ?_; rintro e w6 ⟨rfl, hm6, hk6⟩; have M6 := Lib.hid hm6; have F6 := Lib.hid (fork_kept S5.out hk6 F5.out LTG.out); have X6 := Lib.hid (X5.out.kept hk6 (S5.out.apart X5.out (by decide) (X5.out.differ S5.out.2.2.1.2.2.2 (by decide)))); have B6 := Lib.hid (B5.out.trans (S5.out.burst hk6 B5.out.size)); clear hm6 hk6)
        | (go_at_call 21; refine (HDF.out _ _ _ _ _ F6.out.mem M6.out.mem).mono ?_; rintro e w7 ⟨v, rfl, hv, b7⟩; have V7 := Lib.hid hv; have B7 := Lib.hid (B6.out.trans (b7.mono B6.out.size)); have X7 := Lib.hid (X6.out.below b7 X6.out.lt); have x1 := X7.out.cell 1; simp at x1; clear hv b7)
        | (go_at_call 23; refine (HRF.out _ B7.out).mono ?_; rintro e w8 ⟨rfl, b8⟩; have V8 := Lib.hid (V7.out.far b8); have B8 := Lib.hid (B7.out.trans (b8.mono B7.out.size)); clear b8)
        | (go_at_call 22; refine (HRS.out _).mono ?_; rintro e w9 ⟨rfl, g9⟩; have b9 := below_of_only g9 (Nat.le_refl _) (by simp); have V9 := Lib.hid (V8.out.far b9); have B9 := Lib.hid (B8.out.trans (b9.mono B8.out.size)); clear g9 b9))
      obtain ⟨A9, c9, rfl, hsp⟩ := V9.out.spans
      obtain ⟨w10, hw10⟩ : ∃ w, w = w9.alloc (.cells #[.int .i64 o1, .int .i64 o2] 59) := ⟨_, rfl⟩
      have hXO := Blk.new w9 59 #[.int .i64 o1, .int .i64 o2]
      have hB0 := B9.out.alloc B9.out.size (.cells #[.int .i64 o1, .int .i64 o2] 59)
      have hSP := hsp.below ((Below.refl w9.heap.size w9).alloc (Nat.le_refl _) (.cells #[.int .i64 o1, .int .i64 o2] 59))
      rw [← hw10] at hXO hB0 hSP ⊢
      have XO := Lib.hid hXO
      have B10 := Lib.hid hB0
      have SP := Lib.hid hSP
      clear hXO hB0 hSP hsp hw10
      go_loopw [17] (fun y wr => ∃ i : Nat, y = .int .i64 i ∧ i ≤ k ∧ Below w10.heap.size w10 wr) (fun y _ => k - (intOf y).toNat)
      case atStart => exact ⟨0, rfl, by omega, Below.refl _ _⟩
      case round =>
        obtain ⟨i, rfl, hi, hb⟩ := hrel
        obtain ⟨wz, hwz⟩ : ∃ wz : World, wz = wr := ⟨_, rfl⟩
        subst hwz
        have HB := Lib.hid hb
        clear hb
        by_cases hin : i < k
        · have hc0 : c = 0 := by
            rcases HDONE.out with h | ⟨_, h⟩
            · exact h
            · omega
          obtain ⟨hI1, hI2, hI3⟩ := HIN.out hc0 i hin
          obtain ⟨b9, p9, rfl, hb9, hc9⟩ := (SP.out.below HB.out).2 (by omega)
          obtain ⟨c0, c1⟩ := hc9 i hin
          obtain ⟨x, hx⟩ : ∃ x, x = D i := ⟨_, rfl⟩
          rw [← hx] at c0 c1 hI1 hI2 hI3
          obtain ⟨p1, p2⟩ := x
          simp only at c0 c1 hI2 hI3
          clear hx hc9
          subst hc0
          have his : ∀ W, Calls Try.prog 24 #[.agg #[.int .i64 p1, .int .i64 p2]] W fun e w' => e = .returned (.bool true) ∧ W.grownBy w' none := fun W => by
            have := ris_any (p1, p2) W
            rw [hI1] at this
            exact this
          have HIS := Lib.hid his
          have e0 := (XO.out.below HB.out XO.out.lt).cell 0
          have e1 := (XO.out.below HB.out XO.out.lt).cell 1
          simp at e0 e1
          have i1 : (i : Int) < (k : Int) := by omega
          have n1 : ¬ p1 < o1 := by omega
          have n2 : ¬ o2 < p2 := by omega
          have k0 := fun d os => cell_regrown c0 d os
          have k1 := fun d os => cell_regrown c1 d os
          have k2 := fun d os => cell_regrown e0 d os
          have k3 := fun d os => cell_regrown e1 d os
          clear c0 c1 e0 e1 his hI1 hI2 hI3
          go_wp2
          refine wp_region_quiet_below (by kernel_rfl) (by kernel_rfl) ?_
          repeat (quiet_step ((go_at_call 24; with_reducible exact Calls.regrown_of ((HIS.out _).mono fun _ _ ⟨h1, h2⟩ => ⟨h1, below_of_only h2 (Nat.le_refl _) (by simp)⟩))))
          refine wpQuiet_nil ?_
          rintro _ ⟨⟨dq, osq⟩, rfl⟩
          have hb3 := below_regrown wz dq osq
          generalize grow (redrawn wz dq) osq = w3 at hb3 ⊢
          have B3 := Lib.hid (HB.out.trans (hb3.mono HB.out.size))
          clear hb3 k0 k1 k2 k3
          go_wp2
          go_roundw
          case rel => exact ⟨i + 1, by go_num, by omega, B3.out⟩
          case measure => simp [intOf] <;> omega
        · obtain rfl : i = k := by omega
          have BB := Lib.hid (B10.out.trans (HB.out.mono B10.out.size))
          go_wp2_with (go_at_call 7; refine (dlive_any _).mono ?_; rintro e w2 ⟨rfl, b2⟩; have B2 := Lib.hid (BB.out.trans (b2.mono BB.out.size)); clear b2)
          go_ret
          exact ⟨rfl, B2.out⟩
end Go.Proofs.Ythlapnljinkekab

/- A burst of the law's, done or refused. -/
namespace Go.Proofs.Ythlapnljinkekab
open Go.RowKit Go.Lib Go.Sort
set_option linter.unusedVariables false

section
variable (w : World) (A : Option Addr) (nr capr : Nat) (d : Nat → Reg) (B e m g t C : Nat) (rv : Value) (n : Nat) (rc : Nat → Rec) (rd wr : Nat → Int) (l : List UInt8) (tick o a q : Int) (b : Bool) (s : ByteArray) (Ab : Option Addr) (capb : Nat)
theorem do_bad (hregs : Regs w A nr capr d) (hnr : nr ≤ 1000000) (h0 : chkN d nr = 0) (hst : StG w B e m g t (rws d nr) l rv n rc rd wr) (hb : OwnN w C (.slice Ab l.length capb) (num l)) (ho : fitI o) (ha : fitI a) (hl : l.length ≤ 600) (hs : s.size ≤ 200) (hB : B ≤ w.heap.size) (hC : C ≤ w.heap.size) (hn : n ≤ 1000) (hrd : ∀ k, k < 9 → 0 ≤ rd k ∧ rd k ≤ 1000000) (hwr : ∀ k, k < 9 → 0 ≤ wr k ∧ wr k ≤ 1000000) (c N : Int) (hN : N = deedN q b s) (hc : (askV (rws d nr) l.length o a N).2 = c) (hc0 : c ≠ 0) :
    Calls Try.prog 12 #[.pointer (some ⟨e, 0, none⟩), .slice A nr capr, .slice Ab l.length capb, .agg #[.int .i64 tick, .int .i64 o, .int .i64 a, .int .i64 q, .bool b, .string s]] w fun r w' => ∃ v rv', r = .returned (.tuple #[v, .int .i64 c, .bool true]) ∧ OwnN w' C v (num l) ∧ StG w' B e m g t (rws d nr) l rv' (n + 1) (updC rc n (tick, o, a, N, b, c)) rd wr ∧ Keeps (Burst e g rv) w w' := by
  cases b with
  | true =>
    simp only [deedN, if_true] at hN
    subst hN
    refine (do_write w A nr capr d B e m g t C rv n rc rd wr l l tick o a q s Ab l.length capb hregs hnr h0 hst hb rfl rfl ho ha hl hs hB hC hn hwr).mono fun r w' ⟨v, h1, h2, h3⟩ => ?_
    rw [hc] at h1
    have hw : wrL (rws d nr) l o a s = l := by unfold wrL; rw [hc, if_neg hc0]
    rw [hw] at h2
    obtain ⟨_, ⟨q0, rv', q1, q2, q3⟩ | ⟨q0, q1, q2⟩⟩ := h3
    · rw [hc] at q1
      exact ⟨v, rv', h1, h2, q1, q3⟩
    · exact absurd (hc.symm.trans q0) hc0
  | false =>
    simp only [deedN, Bool.false_eq_true, if_false] at hN
    subst hN
    refine (do_read w A nr capr d B e m g t C rv n rc rd wr l tick o a N s Ab l.length capb hregs hnr h0 hst hb rfl ho ha hl hB hC hn hrd).mono fun r w' ⟨h1, h2, h3⟩ => ?_
    rw [hc] at h1
    rcases h3 with ⟨q0, rv', q1, q2, q3⟩ | ⟨q0, q1, q2⟩
    · rw [hc] at q1
      exact ⟨_, rv', h1, h2, q1, q3⟩
    · exact absurd (hc.symm.trans q0) hc0
theorem do_okw (hregs : Regs w A nr capr d) (hnr : nr ≤ 1000000) (h0 : chkN d nr = 0) (hst : StG w B e m g t (rws d nr) l rv n rc rd wr) (hb : OwnN w C (.slice Ab l.length capb) (num l)) (ho : fitI o) (ha : fitI a) (hl : l.length ≤ 600) (hs : s.size ≤ 200) (hB : B ≤ w.heap.size) (hC : C ≤ w.heap.size) (hn : n ≤ 1000) (hwr : ∀ k, k < 9 → 0 ≤ wr k ∧ wr k ≤ 1000000) (hc : (askV (rws d nr) l.length o a s.size).2 = 0) :
    Calls Try.prog 12 #[.pointer (some ⟨e, 0, none⟩), .slice A nr capr, .slice Ab l.length capb, .agg #[.int .i64 tick, .int .i64 o, .int .i64 a, .int .i64 q, .bool true, .string s]] w fun r w' => ∃ v, r = .returned (.tuple #[v, .int .i64 0, .bool true]) ∧ OwnN w' C v (num (wrL (rws d nr) l o a s)) ∧ StG w' B e m g t (rws d nr) (wrL (rws d nr) l o a s) rv n rc rd (updI wr o.toNat (wr o.toNat + s.size)) ∧ Keeps (Burst e g rv) w w' := by
  refine (do_write w A nr capr d B e m g t C rv n rc rd wr l l tick o a q s Ab l.length capb hregs hnr h0 hst hb rfl rfl ho ha hl hs hB hC hn hwr).mono fun r w' ⟨v, h1, h2, h3⟩ => ?_
  rw [hc] at h1
  obtain ⟨_, ⟨q0, rv', q1, q2, q3⟩ | ⟨q0, q1, q2⟩⟩ := h3
  · exact absurd hc q0
  · exact ⟨v, h1, h2, q1, q2⟩
theorem do_okr (hregs : Regs w A nr capr d) (hnr : nr ≤ 1000000) (h0 : chkN d nr = 0) (hst : StG w B e m g t (rws d nr) l rv n rc rd wr) (hb : OwnN w C (.slice Ab l.length capb) (num l)) (ho : fitI o) (ha : fitI a) (hl : l.length ≤ 600) (hB : B ≤ w.heap.size) (hC : C ≤ w.heap.size) (hn : n ≤ 1000) (hrd : ∀ k, k < 9 → 0 ≤ rd k ∧ rd k ≤ 1000000) (hc : (askV (rws d nr) l.length o a q).2 = 0) :
    Calls Try.prog 12 #[.pointer (some ⟨e, 0, none⟩), .slice A nr capr, .slice Ab l.length capb, .agg #[.int .i64 tick, .int .i64 o, .int .i64 a, .int .i64 q, .bool false, .string s]] w fun r w' => r = .returned (.tuple #[.slice Ab l.length capb, .int .i64 0, .bool true]) ∧ OwnN w' C (.slice Ab l.length capb) (num l) ∧ StG w' B e m g t (rws d nr) l rv n rc (updI rd o.toNat (rd o.toNat + q)) wr ∧ Keeps (Burst e g rv) w w' := by
  refine (do_read w A nr capr d B e m g t C rv n rc rd wr l tick o a q s Ab l.length capb hregs hnr h0 hst hb rfl ho ha hl hB hC hn hrd).mono fun r w' ⟨h1, h2, h3⟩ => ?_
  rw [hc] at h1
  rcases h3 with ⟨q0, rv', q1, q2, q3⟩ | ⟨q0, q1, q2⟩
  · exact absurd hc q0
  · exact ⟨h1, h2, q1, q2⟩
end
end Go.Proofs.Ythlapnljinkekab
