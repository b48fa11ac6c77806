/- Where two memories are unlike: the contracts of Diff and of the document's, whole. -/
import Derived.Test.YthneljkaieckeaaMM6
namespace Go.Proofs.Ythneljkaieckeaa
open Go.RowKit Go.Lib Go.Sort
set_option linter.unusedVariables false

def DiffV (la lb : List UInt8) (w : World) (e : Ending) (w' : World) : Prop :=
  ∃ v, e = .returned v ∧ RowV w' w.heap.size v (rTo (unl la lb) (max la.length lb.length)).1 (rTo (unl la lb) (max la.length lb.length)).2 ∧ Below w.heap.size w w'

set_option maxRecDepth 100000 in
set_option maxHeartbeats 3200000 in
theorem mdiff_any (w : World) (B B' m1 m2 : Nat) (la lb : List UInt8) (hA : MemV w B m1 la) (hB : MemV w B' m2 lb) (h1 : la.length ≤ 400) (h2 : lb.length ≤ 400) :
    Calls Try.prog 14 #[.pointer (some ⟨m1, 0, none⟩), .pointer (some ⟨m2, 0, none⟩)] w (DiffV la lb w) := by
  have HS1 := Lib.hid (fun W (hW : Below w.heap.size w W) => size_any W B m1 la (hA.below hW))
  have HS2 := Lib.hid (fun W (hW : Below w.heap.size w W) => size_any W B' m2 lb (hB.below hW))
  rcases Nat.lt_trichotomy lb.length la.length with hlt | heq | hlt
  · obtain ⟨g1, hg1, hm1, hb1, hr1⟩ := hA
    obtain ⟨g2, hg2, hm2, hb2, hr2⟩ := hB
    have HB1 := Lib.hid hb1
    have HR1 := Lib.hid hr1
    have HB2 := Lib.hid hb2
    have HR2 := Lib.hid hr2
    clear hb1 hr1 hb2 hr2
    have hp : ∀ k, (h : k < lb.length) → unl la lb k = decide ((la[k]'(by omega)).toNat ≠ (lb[k]'(by omega)).toNat) := fun k h => by
      rw [unl_in (by omega) (by omega), decide_eq_decide]
      omega
    have htail := rTo_tail (unl la lb) lb.length (la.length - lb.length) (fun x h1 h2 => unl_out (by omega))
    rw [show lb.length + (la.length - lb.length) = la.length by omega] at htail
    have HP := Lib.hid hp
    have HT := Lib.hid htail
    have i0 : (lb.length : Int) ≤ (la.length : Int) := by omega
    clear hp htail
    go_enter Try.func14, Try.ntmps14
    go_wp2_with (first | (go_at_call 11; (with_reducible refine (HS1.out _ (Below.refl _ _)).mono ?_); rintro e w1 ⟨rfl, rfl⟩) | (go_at_call 11; (with_reducible refine (HS2.out _ (Below.refl _ _)).mono ?_); rintro e w1 ⟨rfl, rfl⟩))
    go_loopw [5, 14] (fun v x wr => ∃ (k n : Nat) (o : Nat → Int × Int), x = .int .i64 k ∧ k ≤ lb.length ∧ n ≤ k ∧ Hid (rTo (unl la lb) k = (n, o)) ∧ RowV wr w.heap.size v n o ∧ Below w.heap.size w wr) (fun _ x _ => lb.length - (intOf x).toNat)
    case atStart => exact ⟨0, 0, _, rfl, by omega, by omega, Lib.hid rfl, .inl ⟨rfl, rfl⟩, Below.refl _ _⟩
    case round =>
      obtain ⟨k, n, o, rfl, hk, hnk, HM, hv, hb⟩ := hrel
      have HV := Lib.hid hv
      have HB := Lib.hid hb
      clear hv hb
      by_cases hkl : k < lb.length
      · have hA1 := HB1.out.below HB.out HB1.out.lt
        have hR1 := HR1.out.below HB.out HR1.out.lt
        have hA2 := HB2.out.below HB.out HB2.out.lt
        have hR2 := HR2.out.below HB.out HR2.out.lt
        have c0 := hA1.cell 0
        have c1 := row_cell hR1 (show k < la.length by omega)
        have c2 := hA2.cell 0
        have c3 := row_cell hR2 (show k < lb.length by omega)
        simp at c0 c2
        have i1 : (k : Int) < (la.length : Int) := by omega
        have i2 : (k : Int) < (lb.length : Int) := by omega
        have hnx : rTo (unl la lb) (k + 1) = rStep n o k (unl la lb k) := by
          show rStep (rTo (unl la lb) k).1 (rTo (unl la lb) k).2 k (unl la lb k) = _
          rw [HM.out]
        rw [HP.out k hkl] at hnx
        generalize (la[k]'(by omega)) = x at *
        generalize (lb[k]'(by omega)) = y at *
        have HNX := Lib.hid hnx
        clear hA1 hR1 hA2 hR2 hnx
        obtain ⟨Ao, co, rfl⟩ := HV.out.form
        by_cases hxy : x.toNat = y.toNat
        · have hnx2 : rTo (unl la lb) (k + 1) = (n, o) := by rw [HNX.out, decide_eq_false (by omega)]; simp [rStep]
          have HN2 := Lib.hid hnx2
          have hxy2 : (x.toNat : Int) = (y.toNat : Int) := by omega
          rw [hxy2] at c1
          clear hnx2 hxy hxy2
          go_wp2
          go_quiet (fail)
          go_wp2
          go_roundw
          case rel => exact ⟨k + 1, n, o, by go_num, by omega, by omega, HN2.out, HV.out.far (below_drewN (Below.refl _ _) _), below_drewN HB.out _⟩
          case measure => simp [intOf] <;> omega
        · have hnx2 : rTo (unl la lb) (k + 1) = eStep n o ((k : Int), (k : Int) + 1) := by rw [HNX.out, decide_eq_true (by omega), eStep_one]
          have hex : ∀ W, RowV W w.heap.size (.slice Ao n co) n o → w.heap.size ≤ W.heap.size → Calls Try.prog 28 #[.slice Ao n co, spv ((k : Int), (k : Int) + 1)] W (ExtV w.heap.size n o ((k : Int), (k : Int) + 1) W) := fun W h1 h2 => extend_any w.heap.size n _ o _ W h1 h2 (by omega)
          have HEX := Lib.hid hex
          have HN2 := Lib.hid hnx2
          have hle := rTo_le (unl la lb) (k + 1)
          have hxy2 : ¬ (x.toNat : Int) = (y.toNat : Int) := by omega
          clear hnx2 hxy hex
          go_wp2
          go_quiet (fail)
          go_wp2_with (go_at_call 28; refine (HEX.out _ (HV.out.far (below_drewN (Below.refl _ _) _)) (below_drewN HB.out _).size).mono ?_; rintro e w2 ⟨v2, rfl, hv2, b2⟩; have HV2 := Lib.hid hv2; have HBB := Lib.hid ((below_drewN HB.out nq).trans b2); clear hv2 b2; obtain ⟨A2, c2', rfl⟩ := HV2.out.form)
          go_roundw
          case rel =>
            have h := HN2.out
            rw [h] at hle
            exact ⟨k + 1, _, _, by go_num, by omega, hle, Lib.hid h, HV2.out, HBB.out⟩
          case measure => simp [intOf] <;> omega
      · obtain ⟨hk1, hk2⟩ : k ≤ lb.length ∧ lb.length ≤ k := ⟨hk, by omega⟩
        have hex : ∀ v, RowV wr w.heap.size v n o → Calls Try.prog 28 #[v, spv ((lb.length : Int), (la.length : Int))] wr (ExtV w.heap.size n o ((lb.length : Int), (la.length : Int)) wr) := fun v hv => extend_any w.heap.size n v o _ wr hv HB.out.size (by omega)
        have hout : rTo (unl la lb) (max la.length lb.length) = eStep n o ((lb.length : Int), (la.length : Int)) := by
          rw [show max la.length lb.length = la.length by omega, HT.out, show lb.length = k by omega, HM.out]
        have HEX := Lib.hid (hex _ HV.out)
        have HOUT := Lib.hid hout
        clear hex hout
        obtain ⟨Ao, co, rfl⟩ := HV.out.form
        go_wp2_with (first | (go_at_call 11; (with_reducible refine (HS1.out _ HB.out).mono ?_); rintro e w1 ⟨rfl, rfl⟩) | (go_at_call 11; (with_reducible refine (HS2.out _ HB.out).mono ?_); rintro e w1 ⟨rfl, rfl⟩) | (go_at_call 28; refine HEX.out.mono ?_; rintro e w2 ⟨v2, rfl, hv2, b2⟩; have HV2 := Lib.hid hv2; have HBB := Lib.hid (HB.out.trans b2); clear hv2 b2))
        go_ret
        refine ⟨_, rfl, ?_, HBB.out⟩
        rw [HOUT.out]
        exact HV2.out
  · have hq1 : lb.length ≤ la.length := by omega
    have hq2 : la.length ≤ lb.length := by omega
    clear heq
    obtain ⟨g1, hg1, hm1, hb1, hr1⟩ := hA
    obtain ⟨g2, hg2, hm2, hb2, hr2⟩ := hB
    have HB1 := Lib.hid hb1
    have HR1 := Lib.hid hr1
    have HB2 := Lib.hid hb2
    have HR2 := Lib.hid hr2
    clear hb1 hr1 hb2 hr2
    have hp : ∀ k, (h : k < la.length) → unl la lb k = decide ((la[k]'(by omega)).toNat ≠ (lb[k]'(by omega)).toNat) := fun k h => by
      rw [unl_in (by omega) (by omega), decide_eq_decide]
      omega
    have htail := rTo_tail (unl la lb) la.length (lb.length - la.length) (fun x h1 h2 => unl_out (by omega))
    rw [show la.length + (lb.length - la.length) = lb.length by omega] at htail
    have HP := Lib.hid hp
    have HT := Lib.hid htail
    have i0 : (la.length : Int) ≤ (lb.length : Int) := by omega
    clear hp htail
    go_enter Try.func14, Try.ntmps14
    go_wp2_with (first | (go_at_call 11; (with_reducible refine (HS1.out _ (Below.refl _ _)).mono ?_); rintro e w1 ⟨rfl, rfl⟩) | (go_at_call 11; (with_reducible refine (HS2.out _ (Below.refl _ _)).mono ?_); rintro e w1 ⟨rfl, rfl⟩))
    go_loopw [5, 14] (fun v x wr => ∃ (k n : Nat) (o : Nat → Int × Int), x = .int .i64 k ∧ k ≤ la.length ∧ n ≤ k ∧ Hid (rTo (unl la lb) k = (n, o)) ∧ RowV wr w.heap.size v n o ∧ Below w.heap.size w wr) (fun _ x _ => la.length - (intOf x).toNat)
    case atStart => exact ⟨0, 0, _, rfl, by omega, by omega, Lib.hid rfl, .inl ⟨rfl, rfl⟩, Below.refl _ _⟩
    case round =>
      obtain ⟨k, n, o, rfl, hk, hnk, HM, hv, hb⟩ := hrel
      have HV := Lib.hid hv
      have HB := Lib.hid hb
      clear hv hb
      by_cases hkl : k < la.length
      · have hA1 := HB1.out.below HB.out HB1.out.lt
        have hR1 := HR1.out.below HB.out HR1.out.lt
        have hA2 := HB2.out.below HB.out HB2.out.lt
        have hR2 := HR2.out.below HB.out HR2.out.lt
        have c0 := hA1.cell 0
        have c1 := row_cell hR1 (show k < la.length by omega)
        have c2 := hA2.cell 0
        have c3 := row_cell hR2 (show k < lb.length by omega)
        simp at c0 c2
        have i1 : (k : Int) < (la.length : Int) := by omega
        have i2 : (k : Int) < (lb.length : Int) := by omega
        have hnx : rTo (unl la lb) (k + 1) = rStep n o k (unl la lb k) := by
          show rStep (rTo (unl la lb) k).1 (rTo (unl la lb) k).2 k (unl la lb k) = _
          rw [HM.out]
        rw [HP.out k hkl] at hnx
        generalize (la[k]'(by omega)) = x at *
        generalize (lb[k]'(by omega)) = y at *
        have HNX := Lib.hid hnx
        clear hA1 hR1 hA2 hR2 hnx
        obtain ⟨Ao, co, rfl⟩ := HV.out.form
        by_cases hxy : x.toNat = y.toNat
        · have hnx2 : rTo (unl la lb) (k + 1) = (n, o) := by rw [HNX.out, decide_eq_false (by omega)]; simp [rStep]
          have HN2 := Lib.hid hnx2
          have hxy2 : (x.toNat : Int) = (y.toNat : Int) := by omega
          rw [hxy2] at c1
          clear hnx2 hxy hxy2
          go_wp2
          go_quiet (fail)
          go_wp2
          go_roundw
          case rel => exact ⟨k + 1, n, o, by go_num, by omega, by omega, HN2.out, HV.out.far (below_drewN (Below.refl _ _) _), below_drewN HB.out _⟩
          case measure => simp [intOf] <;> omega
        · have hnx2 : rTo (unl la lb) (k + 1) = eStep n o ((k : Int), (k : Int) + 1) := by rw [HNX.out, decide_eq_true (by omega), eStep_one]
          have hex : ∀ W, RowV W w.heap.size (.slice Ao n co) n o → w.heap.size ≤ W.heap.size → Calls Try.prog 28 #[.slice Ao n co, spv ((k : Int), (k : Int) + 1)] W (ExtV w.heap.size n o ((k : Int), (k : Int) + 1) W) := fun W h1 h2 => extend_any w.heap.size n _ o _ W h1 h2 (by omega)
          have HEX := Lib.hid hex
          have HN2 := Lib.hid hnx2
          have hle := rTo_le (unl la lb) (k + 1)
          have hxy2 : ¬ (x.toNat : Int) = (y.toNat : Int) := by omega
          clear hnx2 hxy hex
          go_wp2
          go_quiet (fail)
          go_wp2_with (go_at_call 28; refine (HEX.out _ (HV.out.far (below_drewN (Below.refl _ _) _)) (below_drewN HB.out _).size).mono ?_; rintro e w2 ⟨v2, rfl, hv2, b2⟩; have HV2 := Lib.hid hv2; have HBB := Lib.hid ((below_drewN HB.out nq).trans b2); clear hv2 b2; obtain ⟨A2, c2', rfl⟩ := HV2.out.form)
          go_roundw
          case rel =>
            have h := HN2.out
            rw [h] at hle
            exact ⟨k + 1, _, _, by go_num, by omega, hle, Lib.hid h, HV2.out, HBB.out⟩
          case measure => simp [intOf] <;> omega
      · obtain ⟨hk1, hk2⟩ : k ≤ la.length ∧ la.length ≤ k := ⟨hk, by omega⟩
        have hex : ∀ v, RowV wr w.heap.size v n o → Calls Try.prog 28 #[v, spv ((la.length : Int), (la.length : Int))] wr (ExtV w.heap.size n o ((la.length : Int), (la.length : Int)) wr) := fun v hv => extend_any w.heap.size n v o _ wr hv HB.out.size (by omega)
        have hout : rTo (unl la lb) (max la.length lb.length) = eStep n o ((la.length : Int), (la.length : Int)) := by
          rw [show max la.length lb.length = k by omega, HM.out]
          unfold eStep
          rw [if_neg (by unfold isS; simp)]
        have HEX := Lib.hid (hex _ HV.out)
        have HOUT := Lib.hid hout
        clear hex hout
        obtain ⟨Ao, co, rfl⟩ := HV.out.form
        go_wp2_with (first | (go_at_call 11; (with_reducible refine (HS1.out _ HB.out).mono ?_); rintro e w1 ⟨rfl, rfl⟩) | (go_at_call 11; (with_reducible refine (HS2.out _ HB.out).mono ?_); rintro e w1 ⟨rfl, rfl⟩) | (go_at_call 28; refine HEX.out.mono ?_; rintro e w2 ⟨v2, rfl, hv2, b2⟩; have HV2 := Lib.hid hv2; have HBB := Lib.hid (HB.out.trans b2); clear hv2 b2))
        go_ret
        refine ⟨_, rfl, ?_, HBB.out⟩
        rw [HOUT.out]
        exact HV2.out
  · obtain ⟨g1, hg1, hm1, hb1, hr1⟩ := hA
    obtain ⟨g2, hg2, hm2, hb2, hr2⟩ := hB
    have HB1 := Lib.hid hb1
    have HR1 := Lib.hid hr1
    have HB2 := Lib.hid hb2
    have HR2 := Lib.hid hr2
    clear hb1 hr1 hb2 hr2
    have hp : ∀ k, (h : k < la.length) → unl la lb k = decide ((la[k]'(by omega)).toNat ≠ (lb[k]'(by omega)).toNat) := fun k h => by
      rw [unl_in (by omega) (by omega), decide_eq_decide]
      omega
    have htail := rTo_tail (unl la lb) la.length (lb.length - la.length) (fun x h1 h2 => unl_out (by omega))
    rw [show la.length + (lb.length - la.length) = lb.length by omega] at htail
    have HP := Lib.hid hp
    have HT := Lib.hid htail
    have i0 : (la.length : Int) ≤ (lb.length : Int) := by omega
    clear hp htail
    go_enter Try.func14, Try.ntmps14
    go_wp2_with (first | (go_at_call 11; (with_reducible refine (HS1.out _ (Below.refl _ _)).mono ?_); rintro e w1 ⟨rfl, rfl⟩) | (go_at_call 11; (with_reducible refine (HS2.out _ (Below.refl _ _)).mono ?_); rintro e w1 ⟨rfl, rfl⟩))
    go_loopw [5, 14] (fun v x wr => ∃ (k n : Nat) (o : Nat → Int × Int), x = .int .i64 k ∧ k ≤ la.length ∧ n ≤ k ∧ Hid (rTo (unl la lb) k = (n, o)) ∧ RowV wr w.heap.size v n o ∧ Below w.heap.size w wr) (fun _ x _ => la.length - (intOf x).toNat)
    case atStart => exact ⟨0, 0, _, rfl, by omega, by omega, Lib.hid rfl, .inl ⟨rfl, rfl⟩, Below.refl _ _⟩
    case round =>
      obtain ⟨k, n, o, rfl, hk, hnk, HM, hv, hb⟩ := hrel
      have HV := Lib.hid hv
      have HB := Lib.hid hb
      clear hv hb
      by_cases hkl : k < la.length
      · have hA1 := HB1.out.below HB.out HB1.out.lt
        have hR1 := HR1.out.below HB.out HR1.out.lt
        have hA2 := HB2.out.below HB.out HB2.out.lt
        have hR2 := HR2.out.below HB.out HR2.out.lt
        have c0 := hA1.cell 0
        have c1 := row_cell hR1 (show k < la.length by omega)
        have c2 := hA2.cell 0
        have c3 := row_cell hR2 (show k < lb.length by omega)
        simp at c0 c2
        have i1 : (k : Int) < (la.length : Int) := by omega
        have i2 : (k : Int) < (lb.length : Int) := by omega
        have hnx : rTo (unl la lb) (k + 1) = rStep n o k (unl la lb k) := by
          show rStep (rTo (unl la lb) k).1 (rTo (unl la lb) k).2 k (unl la lb k) = _
          rw [HM.out]
        rw [HP.out k hkl] at hnx
        generalize (la[k]'(by omega)) = x at *
        generalize (lb[k]'(by omega)) = y at *
        have HNX := Lib.hid hnx
        clear hA1 hR1 hA2 hR2 hnx
        obtain ⟨Ao, co, rfl⟩ := HV.out.form
        by_cases hxy : x.toNat = y.toNat
        · have hnx2 : rTo (unl la lb) (k + 1) = (n, o) := by rw [HNX.out, decide_eq_false (by omega)]; simp [rStep]
          have HN2 := Lib.hid hnx2
          have hxy2 : (x.toNat : Int) = (y.toNat : Int) := by omega
          rw [hxy2] at c1
          clear hnx2 hxy hxy2
          go_wp2
          go_quiet (fail)
          go_wp2
          go_roundw
          case rel => exact ⟨k + 1, n, o, by go_num, by omega, by omega, HN2.out, HV.out.far (below_drewN (Below.refl _ _) _), below_drewN HB.out _⟩
          case measure => simp [intOf] <;> omega
        · have hnx2 : rTo (unl la lb) (k + 1) = eStep n o ((k : Int), (k : Int) + 1) := by rw [HNX.out, decide_eq_true (by omega), eStep_one]
          have hex : ∀ W, RowV W w.heap.size (.slice Ao n co) n o → w.heap.size ≤ W.heap.size → Calls Try.prog 28 #[.slice Ao n co, spv ((k : Int), (k : Int) + 1)] W (ExtV w.heap.size n o ((k : Int), (k : Int) + 1) W) := fun W h1 h2 => extend_any w.heap.size n _ o _ W h1 h2 (by omega)
          have HEX := Lib.hid hex
          have HN2 := Lib.hid hnx2
          have hle := rTo_le (unl la lb) (k + 1)
          have hxy2 : ¬ (x.toNat : Int) = (y.toNat : Int) := by omega
          clear hnx2 hxy hex
          go_wp2
          go_quiet (fail)
          go_wp2_with (go_at_call 28; refine (HEX.out _ (HV.out.far (below_drewN (Below.refl _ _) _)) (below_drewN HB.out _).size).mono ?_; rintro e w2 ⟨v2, rfl, hv2, b2⟩; have HV2 := Lib.hid hv2; have HBB := Lib.hid ((below_drewN HB.out nq).trans b2); clear hv2 b2; obtain ⟨A2, c2', rfl⟩ := HV2.out.form)
          go_roundw
          case rel =>
            have h := HN2.out
            rw [h] at hle
            exact ⟨k + 1, _, _, by go_num, by omega, hle, Lib.hid h, HV2.out, HBB.out⟩
          case measure => simp [intOf] <;> omega
      · obtain ⟨hk1, hk2⟩ : k ≤ la.length ∧ la.length ≤ k := ⟨hk, by omega⟩
        have hex : ∀ v, RowV wr w.heap.size v n o → Calls Try.prog 28 #[v, spv ((la.length : Int), (lb.length : Int))] wr (ExtV w.heap.size n o ((la.length : Int), (lb.length : Int)) wr) := fun v hv => extend_any w.heap.size n v o _ wr hv HB.out.size (by omega)
        have hout : rTo (unl la lb) (max la.length lb.length) = eStep n o ((la.length : Int), (lb.length : Int)) := by
          rw [show max la.length lb.length = lb.length by omega, HT.out, show la.length = k by omega, HM.out]
        have HEX := Lib.hid (hex _ HV.out)
        have HOUT := Lib.hid hout
        clear hex hout
        obtain ⟨Ao, co, rfl⟩ := HV.out.form
        go_wp2_with (first | (go_at_call 11; (with_reducible refine (HS1.out _ HB.out).mono ?_); rintro e w1 ⟨rfl, rfl⟩) | (go_at_call 11; (with_reducible refine (HS2.out _ HB.out).mono ?_); rintro e w1 ⟨rfl, rfl⟩) | (go_at_call 28; refine HEX.out.mono ?_; rintro e w2 ⟨v2, rfl, hv2, b2⟩; have HV2 := Lib.hid hv2; have HBB := Lib.hid (HB.out.trans b2); clear hv2 b2))
        go_ret
        refine ⟨_, rfl, ?_, HBB.out⟩
        rw [HOUT.out]
        exact HV2.out
end Go.Proofs.Ythneljkaieckeaa
