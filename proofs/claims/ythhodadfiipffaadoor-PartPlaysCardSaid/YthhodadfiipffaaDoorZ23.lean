import Derived.Test.YthhodadfiipffaaDoorZ22
import Derived.Test.YthhodadfiipffaaDoorZ14
import Derived.Deep.RegionHeld3
import Derived.Test.YthhodadfiipffaaDoorZ02
import Derived.Laws.CopyOwn
import Derived.Deep.RegionLaw
import Derived.Test.YthhodadfiipffaaDoorZ17
set_option linter.all false
/- Where two memories are unlike: the contracts of Diff and of the document's, whole. -/
namespace Go.Proofs.YthhodadfiipffaaDoor
open Go.RowKit Go.Lib Go.Sort
set_option linter.unusedVariables false

def DiffV (la lb : List UInt8) (w : World) (e : Ending) (w' : World) : Prop :=
  ∃ v, e = .returned v ∧ RowV w' w.heap.size v (rTo (unl la lb) (max la.length lb.length)).1 (rTo (unl la lb) (max la.length lb.length)).2 ∧ Below w.heap.size w w'

set_option maxRecDepth 100000 in
set_option maxHeartbeats 3200000 in
theorem mdiff_any (w : World) (B B' m1 m2 : Nat) (la lb : List UInt8) (hA : MemV w B m1 la) (hB : MemV w B' m2 lb) (h1 : la.length ≤ 1000) (h2 : lb.length ≤ 1000) :
    Calls Tryd.prog 19 #[.pointer (some ⟨m1, 0, none⟩), .pointer (some ⟨m2, 0, none⟩)] w (DiffV la lb w) := by
  have HS1 := Lib.hid (fun W (hW : Below w.heap.size w W) => size_any W B m1 la (hA.below hW))
  have HS2 := Lib.hid (fun W (hW : Below w.heap.size w W) => size_any W B' m2 lb (hB.below hW))
  rcases Nat.lt_trichotomy lb.length la.length with hlt | heq | hlt
  · obtain ⟨g1, hg1, hm1, hb1, hr1⟩ := hA
    obtain ⟨g2, hg2, hm2, hb2, hr2⟩ := hB
    have HB1 := Lib.hid hb1
    have HR1 := Lib.hid hr1
    have HB2 := Lib.hid hb2
    have HR2 := Lib.hid hr2
    clear hb1 hr1 hb2 hr2
    have hp : ∀ k, (h : k < lb.length) → unl la lb k = decide ((la[k]'(by omega)).toNat ≠ (lb[k]'(by omega)).toNat) := fun k h => by
      rw [unl_in (by omega) (by omega), decide_eq_decide]
      omega
    have htail := rTo_tail (unl la lb) lb.length (la.length - lb.length) (fun x h1 h2 => unl_out (by omega))
    rw [show lb.length + (la.length - lb.length) = la.length by omega] at htail
    have HP := Lib.hid hp
    have HT := Lib.hid htail
    have i0 : (lb.length : Int) ≤ (la.length : Int) := by omega
    clear hp htail
    go_enter Tryd.func19, Tryd.ntmps19
    go_wp2_with (first | (go_at_call 34; (with_reducible refine (HS1.out _ (Below.refl _ _)).mono ?_); rintro e w1 ⟨rfl, rfl⟩) | (go_at_call 34; (with_reducible refine (HS2.out _ (Below.refl _ _)).mono ?_); rintro e w1 ⟨rfl, rfl⟩))
    go_loopw [5, 14] (fun v x wr => ∃ (k n : Nat) (o : Nat → Int × Int), x = .int .i64 k ∧ k ≤ lb.length ∧ n ≤ k ∧ Hid (rTo (unl la lb) k = (n, o)) ∧ RowV wr w.heap.size v n o ∧ Below w.heap.size w wr) (fun _ x _ => lb.length - (Go.RowKit.intOf x).toNat)
    case atStart => exact ⟨0, 0, _, rfl, by omega, by omega, Lib.hid rfl, .inl ⟨rfl, rfl⟩, Below.refl _ _⟩
    case round =>
      obtain ⟨k, n, o, rfl, hk, hnk, HM, hv, hb⟩ := hrel
      have HV := Lib.hid hv
      have HB := Lib.hid hb
      clear hv hb
      by_cases hkl : k < lb.length
      · have hA1 := HB1.out.below HB.out HB1.out.lt
        have hR1 := HR1.out.below HB.out HR1.out.lt
        have hA2 := HB2.out.below HB.out HB2.out.lt
        have hR2 := HR2.out.below HB.out HR2.out.lt
        have c0 := hA1.cell 0
        have c1 := row_cell hR1 (show k < la.length by omega)
        have c2 := hA2.cell 0
        have c3 := row_cell hR2 (show k < lb.length by omega)
        simp at c0 c2
        have i1 : (k : Int) < (la.length : Int) := by omega
        have i2 : (k : Int) < (lb.length : Int) := by omega
        have hnx : rTo (unl la lb) (k + 1) = rStep n o k (unl la lb k) := by
          show rStep (rTo (unl la lb) k).1 (rTo (unl la lb) k).2 k (unl la lb k) = _
          rw [HM.out]
        rw [HP.out k hkl] at hnx
        generalize (la[k]'(by omega)) = x at *
        generalize (lb[k]'(by omega)) = y at *
        have HNX := Lib.hid hnx
        clear hA1 hR1 hA2 hR2 hnx
        obtain ⟨Ao, co, rfl⟩ := HV.out.form
        by_cases hxy : x.toNat = y.toNat
        · have hnx2 : rTo (unl la lb) (k + 1) = (n, o) := by rw [HNX.out, decide_eq_false (by omega)]; simp [rStep]
          have HN2 := Lib.hid hnx2
          have hxy2 : (x.toNat : Int) = (y.toNat : Int) := by omega
          rw [hxy2] at c1
          clear hnx2 hxy hxy2
          go_wp2
          go_quiet (fail)
          go_wp2
          go_roundw
          case rel => exact ⟨k + 1, n, o, by go_num, by omega, by omega, HN2.out, HV.out.far (below_drewN (Below.refl _ _) _), below_drewN HB.out _⟩
          case measure => simp [Go.RowKit.intOf] <;> omega
        · have hnx2 : rTo (unl la lb) (k + 1) = eStep n o ((k : Int), (k : Int) + 1) := by rw [HNX.out, decide_eq_true (by omega), eStep_one]
          have hex : ∀ W, RowV W w.heap.size (.slice Ao n co) n o → w.heap.size ≤ W.heap.size → Calls Tryd.prog 38 #[.slice Ao n co, spv ((k : Int), (k : Int) + 1)] W (ExtV w.heap.size n o ((k : Int), (k : Int) + 1) W) := fun W h1 h2 => extend_any w.heap.size n _ o _ W h1 h2 (by omega)
          have HEX := Lib.hid hex
          have HN2 := Lib.hid hnx2
          have hle := rTo_le (unl la lb) (k + 1)
          have hxy2 : ¬ (x.toNat : Int) = (y.toNat : Int) := by omega
          clear hnx2 hxy hex
          go_wp2
          go_quiet (fail)
          go_wp2_with (go_at_call 38; refine (HEX.out _ (HV.out.far (below_drewN (Below.refl _ _) _)) (below_drewN HB.out _).size).mono ?_; rintro e w2 ⟨v2, rfl, hv2, b2⟩; have HV2 := Lib.hid hv2; have HBB := Lib.hid ((below_drewN HB.out nq).trans b2); clear hv2 b2; obtain ⟨A2, c2', rfl⟩ := HV2.out.form)
          go_roundw
          case rel =>
            have h := HN2.out
            rw [h] at hle
            exact ⟨k + 1, _, _, by go_num, by omega, hle, Lib.hid h, HV2.out, HBB.out⟩
          case measure => simp [Go.RowKit.intOf] <;> omega
      · obtain ⟨hk1, hk2⟩ : k ≤ lb.length ∧ lb.length ≤ k := ⟨hk, by omega⟩
        have hex : ∀ v, RowV wr w.heap.size v n o → Calls Tryd.prog 38 #[v, spv ((lb.length : Int), (la.length : Int))] wr (ExtV w.heap.size n o ((lb.length : Int), (la.length : Int)) wr) := fun v hv => extend_any w.heap.size n v o _ wr hv HB.out.size (by omega)
        have hout : rTo (unl la lb) (max la.length lb.length) = eStep n o ((lb.length : Int), (la.length : Int)) := by
          rw [show max la.length lb.length = la.length by omega, HT.out, show lb.length = k by omega, HM.out]
        have HEX := Lib.hid (hex _ HV.out)
        have HOUT := Lib.hid hout
        clear hex hout
        obtain ⟨Ao, co, rfl⟩ := HV.out.form
        go_wp2_with (first | (go_at_call 34; (with_reducible refine (HS1.out _ HB.out).mono ?_); rintro e w1 ⟨rfl, rfl⟩) | (go_at_call 34; (with_reducible refine (HS2.out _ HB.out).mono ?_); rintro e w1 ⟨rfl, rfl⟩) | (go_at_call 38; refine HEX.out.mono ?_; rintro e w2 ⟨v2, rfl, hv2, b2⟩; have HV2 := Lib.hid hv2; have HBB := Lib.hid (HB.out.trans b2); clear hv2 b2))
        go_ret
        refine ⟨_, rfl, ?_, HBB.out⟩
        rw [HOUT.out]
        exact HV2.out
  · have hq1 : lb.length ≤ la.length := by omega
    have hq2 : la.length ≤ lb.length := by omega
    clear heq
    obtain ⟨g1, hg1, hm1, hb1, hr1⟩ := hA
    obtain ⟨g2, hg2, hm2, hb2, hr2⟩ := hB
    have HB1 := Lib.hid hb1
    have HR1 := Lib.hid hr1
    have HB2 := Lib.hid hb2
    have HR2 := Lib.hid hr2
    clear hb1 hr1 hb2 hr2
    have hp : ∀ k, (h : k < la.length) → unl la lb k = decide ((la[k]'(by omega)).toNat ≠ (lb[k]'(by omega)).toNat) := fun k h => by
      rw [unl_in (by omega) (by omega), decide_eq_decide]
      omega
    have htail := rTo_tail (unl la lb) la.length (lb.length - la.length) (fun x h1 h2 => unl_out (by omega))
    rw [show la.length + (lb.length - la.length) = lb.length by omega] at htail
    have HP := Lib.hid hp
    have HT := Lib.hid htail
    have i0 : (la.length : Int) ≤ (lb.length : Int) := by omega
    clear hp htail
    go_enter Tryd.func19, Tryd.ntmps19
    go_wp2_with (first | (go_at_call 34; (with_reducible refine (HS1.out _ (Below.refl _ _)).mono ?_); rintro e w1 ⟨rfl, rfl⟩) | (go_at_call 34; (with_reducible refine (HS2.out _ (Below.refl _ _)).mono ?_); rintro e w1 ⟨rfl, rfl⟩))
    go_loopw [5, 14] (fun v x wr => ∃ (k n : Nat) (o : Nat → Int × Int), x = .int .i64 k ∧ k ≤ la.length ∧ n ≤ k ∧ Hid (rTo (unl la lb) k = (n, o)) ∧ RowV wr w.heap.size v n o ∧ Below w.heap.size w wr) (fun _ x _ => la.length - (Go.RowKit.intOf x).toNat)
    case atStart => exact ⟨0, 0, _, rfl, by omega, by omega, Lib.hid rfl, .inl ⟨rfl, rfl⟩, Below.refl _ _⟩
    case round =>
      obtain ⟨k, n, o, rfl, hk, hnk, HM, hv, hb⟩ := hrel
      have HV := Lib.hid hv
      have HB := Lib.hid hb
      clear hv hb
      by_cases hkl : k < la.length
      · have hA1 := HB1.out.below HB.out HB1.out.lt
        have hR1 := HR1.out.below HB.out HR1.out.lt
        have hA2 := HB2.out.below HB.out HB2.out.lt
        have hR2 := HR2.out.below HB.out HR2.out.lt
        have c0 := hA1.cell 0
        have c1 := row_cell hR1 (show k < la.length by omega)
        have c2 := hA2.cell 0
        have c3 := row_cell hR2 (show k < lb.length by omega)
        simp at c0 c2
        have i1 : (k : Int) < (la.length : Int) := by omega
        have i2 : (k : Int) < (lb.length : Int) := by omega
        have hnx : rTo (unl la lb) (k + 1) = rStep n o k (unl la lb k) := by
          show rStep (rTo (unl la lb) k).1 (rTo (unl la lb) k).2 k (unl la lb k) = _
          rw [HM.out]
        rw [HP.out k hkl] at hnx
        generalize (la[k]'(by omega)) = x at *
        generalize (lb[k]'(by omega)) = y at *
        have HNX := Lib.hid hnx
        clear hA1 hR1 hA2 hR2 hnx
        obtain ⟨Ao, co, rfl⟩ := HV.out.form
        by_cases hxy : x.toNat = y.toNat
        · have hnx2 : rTo (unl la lb) (k + 1) = (n, o) := by rw [HNX.out, decide_eq_false (by omega)]; simp [rStep]
          have HN2 := Lib.hid hnx2
          have hxy2 : (x.toNat : Int) = (y.toNat : Int) := by omega
          rw [hxy2] at c1
          clear hnx2 hxy hxy2
          go_wp2
          go_quiet (fail)
          go_wp2
          go_roundw
          case rel => exact ⟨k + 1, n, o, by go_num, by omega, by omega, HN2.out, HV.out.far (below_drewN (Below.refl _ _) _), below_drewN HB.out _⟩
          case measure => simp [Go.RowKit.intOf] <;> omega
        · have hnx2 : rTo (unl la lb) (k + 1) = eStep n o ((k : Int), (k : Int) + 1) := by rw [HNX.out, decide_eq_true (by omega), eStep_one]
          have hex : ∀ W, RowV W w.heap.size (.slice Ao n co) n o → w.heap.size ≤ W.heap.size → Calls Tryd.prog 38 #[.slice Ao n co, spv ((k : Int), (k : Int) + 1)] W (ExtV w.heap.size n o ((k : Int), (k : Int) + 1) W) := fun W h1 h2 => extend_any w.heap.size n _ o _ W h1 h2 (by omega)
          have HEX := Lib.hid hex
          have HN2 := Lib.hid hnx2
          have hle := rTo_le (unl la lb) (k + 1)
          have hxy2 : ¬ (x.toNat : Int) = (y.toNat : Int) := by omega
          clear hnx2 hxy hex
          go_wp2
          go_quiet (fail)
          go_wp2_with (go_at_call 38; refine (HEX.out _ (HV.out.far (below_drewN (Below.refl _ _) _)) (below_drewN HB.out _).size).mono ?_; rintro e w2 ⟨v2, rfl, hv2, b2⟩; have HV2 := Lib.hid hv2; have HBB := Lib.hid ((below_drewN HB.out nq).trans b2); clear hv2 b2; obtain ⟨A2, c2', rfl⟩ := HV2.out.form)
          go_roundw
          case rel =>
            have h := HN2.out
            rw [h] at hle
            exact ⟨k + 1, _, _, by go_num, by omega, hle, Lib.hid h, HV2.out, HBB.out⟩
          case measure => simp [Go.RowKit.intOf] <;> omega
      · obtain ⟨hk1, hk2⟩ : k ≤ la.length ∧ la.length ≤ k := ⟨hk, by omega⟩
        have hex : ∀ v, RowV wr w.heap.size v n o → Calls Tryd.prog 38 #[v, spv ((la.length : Int), (la.length : Int))] wr (ExtV w.heap.size n o ((la.length : Int), (la.length : Int)) wr) := fun v hv => extend_any w.heap.size n v o _ wr hv HB.out.size (by omega)
        have hout : rTo (unl la lb) (max la.length lb.length) = eStep n o ((la.length : Int), (la.length : Int)) := by
          rw [show max la.length lb.length = k by omega, HM.out]
          unfold eStep
          rw [if_neg (by unfold isS; simp)]
        have HEX := Lib.hid (hex _ HV.out)
        have HOUT := Lib.hid hout
        clear hex hout
        obtain ⟨Ao, co, rfl⟩ := HV.out.form
        go_wp2_with (first | (go_at_call 34; (with_reducible refine (HS1.out _ HB.out).mono ?_); rintro e w1 ⟨rfl, rfl⟩) | (go_at_call 34; (with_reducible refine (HS2.out _ HB.out).mono ?_); rintro e w1 ⟨rfl, rfl⟩) | (go_at_call 38; refine HEX.out.mono ?_; rintro e w2 ⟨v2, rfl, hv2, b2⟩; have HV2 := Lib.hid hv2; have HBB := Lib.hid (HB.out.trans b2); clear hv2 b2))
        go_ret
        refine ⟨_, rfl, ?_, HBB.out⟩
        rw [HOUT.out]
        exact HV2.out
  · obtain ⟨g1, hg1, hm1, hb1, hr1⟩ := hA
    obtain ⟨g2, hg2, hm2, hb2, hr2⟩ := hB
    have HB1 := Lib.hid hb1
    have HR1 := Lib.hid hr1
    have HB2 := Lib.hid hb2
    have HR2 := Lib.hid hr2
    clear hb1 hr1 hb2 hr2
    have hp : ∀ k, (h : k < la.length) → unl la lb k = decide ((la[k]'(by omega)).toNat ≠ (lb[k]'(by omega)).toNat) := fun k h => by
      rw [unl_in (by omega) (by omega), decide_eq_decide]
      omega
    have htail := rTo_tail (unl la lb) la.length (lb.length - la.length) (fun x h1 h2 => unl_out (by omega))
    rw [show la.length + (lb.length - la.length) = lb.length by omega] at htail
    have HP := Lib.hid hp
    have HT := Lib.hid htail
    have i0 : (la.length : Int) ≤ (lb.length : Int) := by omega
    clear hp htail
    go_enter Tryd.func19, Tryd.ntmps19
    go_wp2_with (first | (go_at_call 34; (with_reducible refine (HS1.out _ (Below.refl _ _)).mono ?_); rintro e w1 ⟨rfl, rfl⟩) | (go_at_call 34; (with_reducible refine (HS2.out _ (Below.refl _ _)).mono ?_); rintro e w1 ⟨rfl, rfl⟩))
    go_loopw [5, 14] (fun v x wr => ∃ (k n : Nat) (o : Nat → Int × Int), x = .int .i64 k ∧ k ≤ la.length ∧ n ≤ k ∧ Hid (rTo (unl la lb) k = (n, o)) ∧ RowV wr w.heap.size v n o ∧ Below w.heap.size w wr) (fun _ x _ => la.length - (Go.RowKit.intOf x).toNat)
    case atStart => exact ⟨0, 0, _, rfl, by omega, by omega, Lib.hid rfl, .inl ⟨rfl, rfl⟩, Below.refl _ _⟩
    case round =>
      obtain ⟨k, n, o, rfl, hk, hnk, HM, hv, hb⟩ := hrel
      have HV := Lib.hid hv
      have HB := Lib.hid hb
      clear hv hb
      by_cases hkl : k < la.length
      · have hA1 := HB1.out.below HB.out HB1.out.lt
        have hR1 := HR1.out.below HB.out HR1.out.lt
        have hA2 := HB2.out.below HB.out HB2.out.lt
        have hR2 := HR2.out.below HB.out HR2.out.lt
        have c0 := hA1.cell 0
        have c1 := row_cell hR1 (show k < la.length by omega)
        have c2 := hA2.cell 0
        have c3 := row_cell hR2 (show k < lb.length by omega)
        simp at c0 c2
        have i1 : (k : Int) < (la.length : Int) := by omega
        have i2 : (k : Int) < (lb.length : Int) := by omega
        have hnx : rTo (unl la lb) (k + 1) = rStep n o k (unl la lb k) := by
          show rStep (rTo (unl la lb) k).1 (rTo (unl la lb) k).2 k (unl la lb k) = _
          rw [HM.out]
        rw [HP.out k hkl] at hnx
        generalize (la[k]'(by omega)) = x at *
        generalize (lb[k]'(by omega)) = y at *
        have HNX := Lib.hid hnx
        clear hA1 hR1 hA2 hR2 hnx
        obtain ⟨Ao, co, rfl⟩ := HV.out.form
        by_cases hxy : x.toNat = y.toNat
        · have hnx2 : rTo (unl la lb) (k + 1) = (n, o) := by rw [HNX.out, decide_eq_false (by omega)]; simp [rStep]
          have HN2 := Lib.hid hnx2
          have hxy2 : (x.toNat : Int) = (y.toNat : Int) := by omega
          rw [hxy2] at c1
          clear hnx2 hxy hxy2
          go_wp2
          go_quiet (fail)
          go_wp2
          go_roundw
          case rel => exact ⟨k + 1, n, o, by go_num, by omega, by omega, HN2.out, HV.out.far (below_drewN (Below.refl _ _) _), below_drewN HB.out _⟩
          case measure => simp [Go.RowKit.intOf] <;> omega
        · have hnx2 : rTo (unl la lb) (k + 1) = eStep n o ((k : Int), (k : Int) + 1) := by rw [HNX.out, decide_eq_true (by omega), eStep_one]
          have hex : ∀ W, RowV W w.heap.size (.slice Ao n co) n o → w.heap.size ≤ W.heap.size → Calls Tryd.prog 38 #[.slice Ao n co, spv ((k : Int), (k : Int) + 1)] W (ExtV w.heap.size n o ((k : Int), (k : Int) + 1) W) := fun W h1 h2 => extend_any w.heap.size n _ o _ W h1 h2 (by omega)
          have HEX := Lib.hid hex
          have HN2 := Lib.hid hnx2
          have hle := rTo_le (unl la lb) (k + 1)
          have hxy2 : ¬ (x.toNat : Int) = (y.toNat : Int) := by omega
          clear hnx2 hxy hex
          go_wp2
          go_quiet (fail)
          go_wp2_with (go_at_call 38; refine (HEX.out _ (HV.out.far (below_drewN (Below.refl _ _) _)) (below_drewN HB.out _).size).mono ?_; rintro e w2 ⟨v2, rfl, hv2, b2⟩; have HV2 := Lib.hid hv2; have HBB := Lib.hid ((below_drewN HB.out nq).trans b2); clear hv2 b2; obtain ⟨A2, c2', rfl⟩ := HV2.out.form)
          go_roundw
          case rel =>
            have h := HN2.out
            rw [h] at hle
            exact ⟨k + 1, _, _, by go_num, by omega, hle, Lib.hid h, HV2.out, HBB.out⟩
          case measure => simp [Go.RowKit.intOf] <;> omega
      · obtain ⟨hk1, hk2⟩ : k ≤ la.length ∧ la.length ≤ k := ⟨hk, by omega⟩
        have hex : ∀ v, RowV wr w.heap.size v n o → Calls Tryd.prog 38 #[v, spv ((la.length : Int), (lb.length : Int))] wr (ExtV w.heap.size n o ((la.length : Int), (lb.length : Int)) wr) := fun v hv => extend_any w.heap.size n v o _ wr hv HB.out.size (by omega)
        have hout : rTo (unl la lb) (max la.length lb.length) = eStep n o ((la.length : Int), (lb.length : Int)) := by
          rw [show max la.length lb.length = lb.length by omega, HT.out, show la.length = k by omega, HM.out]
        have HEX := Lib.hid (hex _ HV.out)
        have HOUT := Lib.hid hout
        clear hex hout
        obtain ⟨Ao, co, rfl⟩ := HV.out.form
        go_wp2_with (first | (go_at_call 34; (with_reducible refine (HS1.out _ HB.out).mono ?_); rintro e w1 ⟨rfl, rfl⟩) | (go_at_call 34; (with_reducible refine (HS2.out _ HB.out).mono ?_); rintro e w1 ⟨rfl, rfl⟩) | (go_at_call 38; refine HEX.out.mono ?_; rintro e w2 ⟨v2, rfl, hv2, b2⟩; have HV2 := Lib.hid hv2; have HBB := Lib.hid (HB.out.trans b2); clear hv2 b2))
        go_ret
        refine ⟨_, rfl, ?_, HBB.out⟩
        rw [HOUT.out]
        exact HV2.out
end Go.Proofs.YthhodadfiipffaaDoor

/- A deed that writes, done to the memory and to the document's: the contract of the law's own 'wrote'. -/
namespace Go.Proofs.YthhodadfiipffaaDoor
open Go.RowKit Go.Lib Go.Sort
set_option linter.unusedVariables false

/-- What the numbers lie in is not the memory's row of bytes. -/
def Off (A : Option Addr) (g : Nat) : Prop := ∀ b off, A = some ⟨b, off, none⟩ → b ≠ g
theorem Ints.far {w w' : World} {A : Option Addr} {cap g : Nat} {l : List Int} (h : Ints w A cap l) (hb : w.grownBy w' (some g)) (ho : Off A g) : Ints w' A cap l := by
  refine ⟨h.1, fun hp => ?_⟩
  obtain ⟨b, off, h1, h2, h3⟩ := h.2 hp
  refine ⟨b, off, h1, Nat.lt_of_lt_of_le h2 hb.size, fun i hi => ?_⟩
  have e := hb.block b h2 (fun e => ho b off h1 (by injection e))
  rw [← h3 i hi]
  simp [World.cell?, e]
/-- The same, where there is anything. -/
def OffI (l : List UInt8) (A : Option Addr) (g : Nat) : Prop := 0 < l.length → Off A g
theorem Ints.farI {w w' : World} {A : Option Addr} {cap g : Nat} {l : List UInt8} (h : Ints w A cap (num l)) (hb : w.grownBy w' (some g)) (ho : OffI l A g) : Ints w' A cap (num l) := by
  refine ⟨h.1, fun hp => ?_⟩
  exact (h.far hb (ho (by rw [num_len] at hp; exact hp))).2 hp
theorem OwnN.off {w : World} {B g n c : Nat} {A : Option Addr} {l : List Int} (h : OwnN w B (.slice A n c) l) (hg : g < B) : Off A g := fun b off e => by
  subst e
  have := h.blk b rfl
  omega

theorem off_new {k g : Nat} (h : g < k) : Off (some ⟨k, 0, none⟩) g := fun b off e => by
  injection e with e
  injection e with e1 e2
  omega
theorem two_ints (w : World) (x y : Int) : Ints (w.alloc (.cells #[.int .i64 x, .int .i64 y] 3)) (some ⟨w.heap.size, 0, none⟩) 2 [x, y] :=
  ⟨fun e => (by cases e), fun _ => ⟨w.heap.size, 0, rfl, (Blk.new w _ _).lt, fun i hi => by
    match i, hi with
    | 0, _ => exact (Blk.new w 3 #[.int .i64 x, .int .i64 y]).cell 0
    | 1, _ => exact (Blk.new w 3 #[.int .i64 x, .int .i64 y]).cell 1⟩⟩

/-- The bytes that a deed writes. -/
def bsOf (d n : Int) (t : ByteArray) : List UInt8 := if d = 0 then [low8 n] else if d = 1 then [low8 n, low8 (n / 256)] else t.data.toList
/-- A memory behind such a deed. -/
def wroteL (l : List UInt8) (at' : Int) (bs : List UInt8) : List UInt8 := if thereB l.length at' bs.length = true then over l at'.toNat bs else l
theorem there_fit {len : Nat} {at' n : Int} (h : thereB len at' n = true) : 0 ≤ at' ∧ at' + n ≤ len := by
  simp [thereB] at h
  omega
theorem wroteL_len (l : List UInt8) (at' : Int) (bs : List UInt8) : (wroteL l at' bs).length = l.length := by
  unfold wroteL
  split
  · rename_i h
    have := there_fit h
    exact over_len (by omega)
  · rfl

theorem low8_mod (x : Int) : low8 (x % 256) = low8 x := by
  unfold low8
  rw [Int.emod_emod_of_dvd x (Int.dvd_refl 256)]
theorem low8_of (b : UInt8) : low8 (b.toNat : Int) = b := by
  have h := b.toNat_lt
  apply UInt8.toNat_inj.1
  have := low8_num (b.toNat : Int)
  omega
theorem num_low (l : List UInt8) : (num l).map low8 = l := by
  induction l with
  | nil => rfl
  | cons b l ih =>
    show low8 (b.toNat : Int) :: (num l).map low8 = b :: l
    rw [low8_of, ih]
theorem over_set {l : List UInt8} {k : Nat} {b : UInt8} (h : k < l.length) : over l k [b] = l.set k b := by
  have := over_snoc (l := l) (bs := []) (a := k) (x := b) (by simpa using h)
  simpa [over_nil] using this

/-- What is left behind such a deed. -/
def WroteV (B m g len : Nat) (l2 : List UInt8) (w : World) (e : Ending) (w' : World) : Prop :=
  ∃ A c, e = .returned (.tuple #[.slice A len c, .bool true]) ∧ MemG w' B m g l2 ∧ Ints w' A c (num l2) ∧ OffI l2 A g ∧ w.grownBy w' (some g)

/-- What stands behind the write itself: is it there, and the document's part. -/
theorem with_end (A : Option Addr) (cap : Nat) (l : List UInt8) (at' : Int) (A2 : Option Addr) (cap2 : Nat) (xs : List Int) (bs : List UInt8) (hbs : xs.map low8 = bs) (len : Nat) (hlen : len = l.length) (m : Nat) (hm : m = xs.length) (g : Nat) (w : World) (hg : g < w.heap.size) (hA : Ints w A cap (num l)) (hX : Ints w A2 cap2 xs) (ht : thereB l.length at' bs.length = true) (hl : l.length ≤ 1000) :
    Calls Tryd.prog 27 #[.slice A len cap, .int .i64 at', .slice A2 m cap2] w fun r w' => ∃ A3 c3, r = .returned (.slice A3 len c3) ∧ Ints w' A3 c3 (num (wroteL l at' bs)) ∧ Off A3 g ∧ Below w.heap.size w w' := by
  obtain ⟨h0, h1⟩ := there_fit ht
  obtain ⟨k, rfl⟩ : ∃ k : Nat, at' = k := ⟨at'.toNat, by omega⟩
  have hxl : xs.length = bs.length := by rw [← hbs, List.length_map]
  refine (rwith_any A cap l k A2 cap2 m xs hm len hlen w hA hX (by omega) hl).mono ?_
  rintro e w' ⟨v, rfl, hv, hb⟩
  rw [hbs] at hv
  have e1 : over l k bs = wroteL l (k : Int) bs := by unfold wroteL; rw [if_pos ht]; simp
  rw [e1] at hv
  obtain ⟨A3, c3, rfl, hi, _⟩ := hv.ints
  have e2 : (num (wroteL l (k : Int) bs)).length = len := by rw [num_len, wroteL_len, hlen]
  refine ⟨A3, c3, by rw [e2], hi, ?_, hb⟩
  exact hv.off hg

end Go.Proofs.YthhodadfiipffaaDoor

/- A memory by itself: the contract of Fork. -/
namespace Go.Proofs.YthhodadfiipffaaDoor
open Go.RowKit Go.Lib Go.Sort
set_option linter.unusedVariables false

/-- copy into a row that is known whole, as1 a step of a drawn region: the world that it leaves is told. -/
theorem step_copy_row {P : Program} {ops : Array Oper} {o : Oper} {a : Act} {w : World} {K : Act → World → Prop} {Q : Exit → Act → World → Prop} {E : Prop} (hgd : o.guard = none) (d s : Operand) (dT sT : TypeId)
    (ho : o.op = .call { callee := .builtin .copy, args := #[d, s], argTypes := #[dT, sT] }) (elem : TypeId) (hu : P.underlying dT = some (.slice elem)) (hsz : (P.info? elem).map (·.size) = some 1)
    (g off dLen dCap : Nat) (ad : Addr) (sLen sCap : Nat) (hd : a.eval d = .slice (some ⟨g, off, none⟩) dLen dCap) (hs : a.eval s = .slice (some ad) sLen sCap)
    (cur : Array Value) (t : TypeId) (hg : w.heap[g]? = some (.cells cur t (0, 0))) (cs : List Value) (hn : cs.length = Nat.min sLen dLen)
    (hsrc : ∀ j v, cs[j]? = some v → w.cell? (ad.add j) = some v) (hfit : off + cs.length ≤ cur.size) (h1 : ∀ v ∈ cs, v.oneCell' = true)
    (h : ∀ w', w' = w.setRow g (cur.toList.take off ++ (cs ++ cur.toList.drop (off + cs.length))).toArray → K (a.put o.dst (goInt cs.length)) w') :
    if Region.wanted o (yielded ops a.tmps) = true then Oper.wp P o a w K Q else E := by
  have hw : Region.wanted o (yielded ops a.tmps) = true := by simp [Region.wanted, hgd]
  rw [if_pos hw]
  have hrun := run_copy_row (P := P) w dT sT o.type elem g off dLen dCap ad sLen sCap cur t cs hu hsz hg hn hsrc hfit h1
  unfold Oper.wp
  simp [execOp, ho, resolve, invoke, builtin, hd, hs, hrun, Result.andThen]
  exact h _ (by simp)

/-- What Fork answers. -/
def ForkV (B m g : Nat) (l : List UInt8) (w : World) (e : Ending) (w' : World) : Prop :=
  ∃ m2 g2, e = .returned (.pointer (some ⟨m2, 0, none⟩)) ∧ MemG w' w.heap.size m2 g2 l ∧ MemG w' B m g l ∧ Below w.heap.size w w'
def forkRow (z l : List UInt8) : Array Value := ((u8Cells z).toArray.toList.take 0 ++ (u8Cells l ++ (u8Cells z).toArray.toList.drop (0 + (u8Cells l).length))).toArray
theorem forkRow_eq {z l : List UInt8} (h : z.length = l.length) : forkRow z l = (u8Cells l).toArray := by
  unfold forkRow
  have e : (u8Cells z).drop (0 + (u8Cells l).length) = [] := List.drop_eq_nil_of_le (by rw [u8Cells_len, u8Cells_len]; omega)
  simp only [List.take_zero, List.nil_append]
  rw [e, List.append_nil]
theorem fork_fin {w w1 w2 : World} {B m g m2 g2 : Nat} {z l : List UInt8} (hw : g < w.heap.size ∧ m < w.heap.size) (G1 : MemG w1 B m g l) (G2 : MemG w1 w.heap.size m2 g2 z) (hz : z.length = l.length) (hb : Below w.heap.size w w1) (e : w2 = w1.setRow g2 (forkRow z l)) :
    MemG w2 w.heap.size m2 g2 l ∧ MemG w2 B m g l ∧ Below w.heap.size w w2 := by
  subst e
  obtain ⟨h1, h2, h3, h4⟩ := G2
  have hne : m2 ≠ g2 := h3.differ h4 (by decide)
  refine ⟨⟨h1, h2, ?_, ?_⟩, G1.far (only_setRow _ _ _) (by omega) (by omega), hb.trans (below_of_only (only_setRow w1 g2 _) hb.size (fun k hk => by injection hk with hk; omega))⟩
  · rw [← hz]
    exact blk_far h3 hne
  · show (World.setRow _ _ _).heap[g2]? = _
    rw [setRow_heap w1 g2 _ _ _ _ h4, forkRow_eq hz]
theorem row_src {w : World} {g : Nat} {l : List UInt8} (h : Blk w g 5 (u8Cells l).toArray) : ∀ j v, (u8Cells l)[j]? = some v → w.cell? ((⟨g, 0, none⟩ : Addr).add j) = some v := fun j v hj => by
  have hjl : j < l.length := by
    rcases Nat.lt_or_ge j l.length with q | q
    · exact q
    · rw [List.getElem?_eq_none (by rw [u8Cells_len]; exact q)] at hj; cases hj
  have ha : (⟨g, 0, none⟩ : Addr).add j = ⟨g, j, none⟩ := by unfold Addr.add; split <;> simp_all
  rw [ha, row_cell h hjl]
  rw [u8Cells_get hjl] at hj
  exact hj
theorem u8_one (l : List UInt8) : ∀ v ∈ u8Cells l, v.oneCell' = true := by
  intro v hv
  obtain ⟨b, _, rfl⟩ := List.mem_map.mp hv
  rfl

set_option maxHeartbeats 1600000 in
theorem fork_any (w : World) (B m g : Nat) (l : List UInt8) (h : MemG w B m g l) (hl : l.length ≤ 1000) :
    Calls Tryd.prog 14 #[.pointer (some ⟨m, 0, none⟩)] w (ForkV B m g l w) := by
  have hsz := size_any w B m l h.mem
  have hs : sizeOf' (l.length : Int) = l.length := by unfold sizeOf'; rw [if_neg (by omega), if_neg (by omega)]; omega
  obtain ⟨z, hz⟩ : ∃ z, z = List.replicate l.length (0 : UInt8) := ⟨_, rfl⟩
  have hzl : z.length = l.length := by rw [hz, List.length_replicate]
  have hn : ∀ W, Calls Tryd.prog 9 #[.int .i64 l.length] W fun r w' => ∃ m, r = .returned (.pointer (some ⟨m, 0, none⟩)) ∧ MemV w' W.heap.size m z ∧ Below W.heap.size W w' := fun W => by
    have := mnew_any l.length W
    rw [hs, ← hz] at this
    exact this
  have HSZ := Lib.hid hsz
  have HN := Lib.hid hn
  have HM := Lib.hid h
  have hw := h.lt
  have HZL := Lib.hid hzl
  have HCL : Hid ((u8Cells l).length = Nat.min l.length z.length) := by unfold Hid; rw [u8Cells_len, hzl]; exact (Nat.min_self _).symm
  have HFIT : Hid (0 + (u8Cells l).length ≤ (u8Cells z).toArray.size) := by unfold Hid; simp [u8Cells_len, hzl]
  clear hsz hn hs hz h hzl
  go_enter Tryd.func14, Tryd.ntmps14
  go_wp2_with (first
    | (go_at_call 34; refine HSZ.out.mono ?_; rintro e w0 ⟨rfl, rfl⟩)
    | (go_at_call 9; refine (HN.out _).mono ?_; rintro e w1 ⟨m2, rfl, hm, b1⟩; obtain ⟨g2, hg2⟩ := hm.named; have G1 := Lib.hid (HM.out.below b1); have G2 := Lib.hid hg2; have B1 := Lib.hid b1; have d0 := hg2.2.2.1.cell 0; have d1 := G1.out.2.2.1.cell 0; simp at d0 d1; clear hm b1 hg2))
  go_region_law (refine step_copy_row rfl (.tmp 12) (.tmp 16) 48 48 rfl 5 Tryd.underlying48 (by kernel_rfl) g2 0 z.length z.length ⟨g, 0, none⟩ l.length l.length (by simp [Act.eval, Act.put]) (by simp [Act.eval, Act.put]) (u8Cells z).toArray 5 G2.out.2.2.2 (u8Cells l) HCL.out (row_src (w := w1.drew) G1.out.2.2.2) HFIT.out (u8_one l) ?_; intro w2 e2; have FIN := Lib.hid (fork_fin (w1 := w1.drew) hw (G1.out.drewN 1) (G2.out.drewN 1) HZL.out (below_drewN B1.out 1) e2); clear e2)
  all_goals
    go_wp2
    go_ret
    exact ⟨m2, g2, rfl, FIN.out⟩
end Go.Proofs.YthhodadfiipffaaDoor

/- CpuStays walked. -/
namespace Go.Proofs.YthhodadfiipffaaDoor
open Go.RowKit Go.Lib Go.Sort
set_option linter.unusedVariables false
set_option maxRecDepth 20000

/-- Runs of places that p holds lie where p holds. -/
theorem Cu.rto_in (p : Int → Bool) (lo hi : Int) (h : ∀ x, p x = true → lo ≤ x ∧ x < hi) (n : Nat) : ∀ i, i < (rTo p n).1 → lo ≤ ((rTo p n).2 i).1 ∧ ((rTo p n).2 i).2 ≤ hi := by
  induction n with
  | zero => intro i hi'; exact absurd hi' (by simp [rTo])
  | succ n ih =>
    intro i hi'
    have e : rTo p (n + 1) = rStep (rTo p n).1 (rTo p n).2 n (p n) := rfl
    rw [e] at hi' ⊢
    generalize (rTo p n).1 = k at *
    generalize (rTo p n).2 = o at *
    unfold rStep at hi' ⊢
    cases hp : p n
    · rw [hp] at hi'
      simp only [Bool.false_eq_true, if_false] at hi' ⊢
      exact ih i hi'
    · have hx := h n hp
      rw [hp] at hi'
      simp only [if_true] at hi' ⊢
      by_cases hc : 0 < k ∧ (o (k - 1)).2 = (n : Int)
      · rw [if_pos hc] at hi' ⊢
        simp only at hi' ⊢
        unfold So.upd
        by_cases hj : i = k - 1
        · rw [if_pos hj]
          have := ih (k - 1) (by omega)
          exact ⟨this.1, by show (n : Int) + 1 ≤ hi; omega⟩
        · rw [if_neg hj]
          exact ih i hi'
      · rw [if_neg hc] at hi' ⊢
        simp only at hi' ⊢
        unfold So.upd
        by_cases hj : i = k
        · rw [if_pos hj]
          exact ⟨hx.1, by show (n : Int) + 1 ≤ hi; omega⟩
        · rw [if_neg hj]
          exact ih i (by omega)
theorem Cu.rto_nn (p : Int → Bool) (lo hi : Int) (h : ∀ x, 0 ≤ x → p x = true → lo ≤ x ∧ x < hi) (n : Nat) : ∀ i, i < (rTo p n).1 → lo ≤ ((rTo p n).2 i).1 ∧ ((rTo p n).2 i).2 ≤ hi := by
  have e : ∀ n, rTo p n = rTo (fun x => decide (0 ≤ x) && p x) n := by
    intro n
    induction n with
    | zero => rfl
    | succ n ih =>
      show rStep (rTo p n).1 (rTo p n).2 n (p n) = rStep _ _ n (decide (0 ≤ (n : Int)) && p n)
      rw [ih]
      simp
  rw [e n]
  exact Cu.rto_in _ lo hi (fun x hx => by simp at hx; exact h x hx.1 hx.2) n
/-- Memories that differ in their midst alone. -/
theorem Cu.unl_mid (p V U q : List UInt8) (hV : V.length = U.length) (x : Int) (h : unl (p ++ V ++ q) (p ++ U ++ q) x = true) (hx : 0 ≤ x) : (p.length : Int) ≤ x ∧ x < p.length + V.length := by
  unfold unl at h
  have h' := of_decide_eq_true h
  obtain ⟨k, rfl⟩ := Int.eq_ofNat_of_zero_le hx
  rw [Int.toNat_natCast] at h'
  rcases Nat.lt_or_ge k p.length with c | c
  · exact absurd (by rw [List.append_assoc, List.append_assoc, List.getElem?_append_left c, List.getElem?_append_left c]) h'
  · rcases Nat.lt_or_ge k (p.length + V.length) with d | d
    · omega
    · refine absurd ?_ h'
      rw [List.getElem?_append_right (by simp; omega), List.getElem?_append_right (by simp; omega)]
      simp [hV]
structure Cu.Ms (w W : World) (bs m g bv m2 g2 : Nat) (p q : List UInt8) (vl : Int) (V U : List UInt8) (sc : Array Value) : Prop where
  sb : Blk W bs 55 sc
  vb : Blk W bv 31 #[.pointer (some ⟨m, 0, none⟩), .int .i64 300, .int .i64 vl]
  me : MemG W w.heap.size m g (p ++ V ++ q)
  fo : MemG W w.heap.size m2 g2 (p ++ U ++ q)
  gr : w.grownBy W none
  nm : Nm w
  lt : w.heap.size ≤ bs ∧ bs < m ∧ bs < g ∧ m < bv ∧ g < bv ∧ bv < m2 ∧ bv < g2
section
variable {w W W' : World} {bs m g bv m2 g2 : Nat} {p q : List UInt8} {vl : Int} {V U V' : List UInt8} {sc sc' : Array Value}
theorem Cu.Ms.NM (h : Cu.Ms w W bs m g bv m2 g2 p q vl V U sc) : Nm W := h.nm.grown h.gr (by simp)
theorem Cu.Ms.step (h : Cu.Ms w W bs m g bv m2 g2 p q vl V U sc) (hm : MemG W' w.heap.size m g (p ++ V' ++ q)) (k : W.grownBy W' (some g)) : Cu.Ms w W' bs m g bv m2 g2 p q vl V' U sc := by
  have l := h.lt
  have ne : ∀ x, x ≠ g → some x ≠ some g := fun x hx e => by injection e with e; omega
  exact ⟨h.sb.only k (ne _ (by omega)), h.vb.only k (ne _ (by omega)), hm, h.fo.far k (by omega) (by omega), Cu.grow_none h.gr k (by omega), h.nm, h.lt⟩
theorem Cu.ms_put {s0 s1 s2 s3 s4 s5 s6 s7 s8 s9 : Value} (h : Cu.Ms w W bs m g bv m2 g2 p q vl V U #[s0, s1, s2, s3, s4, s5, s6, s7, s8, s9]) (y0 y1 y2 y3 y4 y5 y6 y7 y8 y9 : Value) : ∀ W', W' = ((((((((((W.setCell ⟨bs, 0, none⟩ y0).setCell ⟨bs, 1, none⟩ y1).setCell ⟨bs, 2, none⟩ y2).setCell ⟨bs, 3, none⟩ y3).setCell ⟨bs, 4, none⟩ y4).setCell ⟨bs, 5, none⟩ y5).setCell ⟨bs, 6, none⟩ y6).setCell ⟨bs, 7, none⟩ y7).setCell ⟨bs, 8, none⟩ y8).setCell ⟨bs, 9, none⟩ y9) → Cu.Ms w W' bs m g bv m2 g2 p q vl V U #[y0, y1, y2, y3, y4, y5, y6, y7, y8, y9] := by
  rintro W' rfl
  have l := h.lt
  have ne : ∀ x, x ≠ bs → some x ≠ some bs := fun x hx e => by injection e with e; omega
  have k : W.grownBy ((((((((((W.setCell ⟨bs, 0, none⟩ y0).setCell ⟨bs, 1, none⟩ y1).setCell ⟨bs, 2, none⟩ y2).setCell ⟨bs, 3, none⟩ y3).setCell ⟨bs, 4, none⟩ y4).setCell ⟨bs, 5, none⟩ y5).setCell ⟨bs, 6, none⟩ y6).setCell ⟨bs, 7, none⟩ y7).setCell ⟨bs, 8, none⟩ y8).setCell ⟨bs, 9, none⟩ y9) (some bs) := only_put (only_put (only_put (only_put (only_put (only_put (only_put (only_put (only_put (only_put (only_refl _ _) 0 y0) 1 y1) 2 y2) 3 y3) 4 y4) 5 y5) 6 y6) 7 y7) 8 y8) 9 y9
  have b := ((((((((((h.sb.put 0 y0).put 1 y1).put 2 y2).put 3 y3).put 4 y4).put 5 y5).put 6 y6).put 7 y7).put 8 y8).put 9 y9)
  simp only [List.setIfInBounds_toArray, List.set_cons_zero, List.set_cons_succ] at b
  exact ⟨b, h.vb.only k (ne _ (by omega)), h.me.far k (by omega) (by omega), h.fo.far k (by omega) (by omega), Cu.grow_none h.gr k (by omega), h.nm, h.lt⟩
theorem Cu.ms_start {W0 w1 w4 : World} (hs : Blk W0 bs 55 sc) (hb : bs = w.heap.size) (hz : W0.heap.size = w.heap.size + 1) (g0 : w.grownBy W0 none) (hm1 : MemG w1 W0.heap.size m g (p ++ V ++ q)) (b1 : Below W0.heap.size W0 w1)
    (hf : MemG w4 (w1.alloc (.cells #[.pointer (some ⟨m, 0, none⟩), .int .i64 300, .int .i64 vl] 31)).heap.size m2 g2 (p ++ V ++ q)) (hk : MemG w4 W0.heap.size m g (p ++ V ++ q)) (b4 : Below (w1.alloc (.cells #[.pointer (some ⟨m, 0, none⟩), .int .i64 300, .int .i64 vl] 31)).heap.size (w1.alloc (.cells #[.pointer (some ⟨m, 0, none⟩), .int .i64 300, .int .i64 vl] 31)) w4) (hN : Nm w) :
    Cu.Ms w w4 bs m g w1.heap.size m2 g2 p q vl V V sc := by
  have a1 := Cu.grow_of b1
  have a4 := Cu.grow_of b4
  have l1 := hm1.1
  have l2 := hm1.2.1
  have l3 := hf.1
  have l4 := hf.2.1
  have l5 := hm1.lt
  have z1 : (w1.alloc (.cells #[.pointer (some ⟨m, 0, none⟩), .int .i64 300, .int .i64 vl] 31)).heap.size = w1.heap.size + 1 := by simp
  have hv := Blk.new w1 31 #[.pointer (some ⟨m, 0, none⟩), .int .i64 300, .int .i64 vl]
  have a12 : w1.grownBy (w1.alloc (.cells #[.pointer (some ⟨m, 0, none⟩), .int .i64 300, .int .i64 vl] 31)) none := only_alloc (only_refl _ _) _
  generalize w1.alloc (.cells #[.pointer (some ⟨m, 0, none⟩), .int .i64 300, .int .i64 vl] 31) = w1' at *
  have a := only_trans a1 (only_trans a12 a4)
  exact ⟨hs.only a (by simp), hv.only a4 (by simp), Cu.memg_low hk (by omega), Cu.memg_low hf (by omega), only_trans g0 a, hN, by omega⟩
end
end Go.Proofs.YthhodadfiipffaaDoor
