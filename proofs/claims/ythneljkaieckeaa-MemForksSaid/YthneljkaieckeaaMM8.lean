/- Where two lists of numbers are unlike: the contract of the document's Diff. -/
import Derived.Test.YthneljkaieckeaaMM6
namespace Go.Proofs.Ythneljkaieckeaa
open Go.RowKit Go.Lib Go.Sort
set_option linter.unusedVariables false

def RDiffV (la lb : List UInt8) (w : World) (e : Ending) (w' : World) : Prop :=
  ∃ v, e = .returned v ∧ RowV w' w.heap.size v (rTo (unl la lb) (max la.length lb.length)).1 (rTo (unl la lb) (max la.length lb.length)).2 ∧ Below w.heap.size w w'

set_option maxRecDepth 100000 in
set_option maxHeartbeats 6400000 in
theorem rdiff_any (w : World) (A1 A2 : Option Addr) (c1 c2 n1 n2 : Nat) (la lb : List UInt8) (hn1 : n1 = la.length) (hn2 : n2 = lb.length) (hA : Ints w A1 c1 (num la)) (hB : Ints w A2 c2 (num lb)) (h1 : la.length ≤ 400) (h2 : lb.length ≤ 400) :
    Calls Try.prog 17 #[.slice A1 n1 c1, .slice A2 n2 c2] w (RDiffV la lb w) := by
  obtain ⟨i0, hi0, hz0, hz1, hz2⟩ := info_parts span_info
  obtain ⟨N, hN⟩ : ∃ N, N = max la.length lb.length := ⟨_, rfl⟩
  unfold RDiffV
  rw [← hN]
  have na : n1 ≤ la.length := by omega
  have nb : la.length ≤ n1 := by omega
  have nc : n2 ≤ lb.length := by omega
  have nd : lb.length ≤ n2 := by omega
  have ne : n1 ≤ N := by omega
  have nf : n2 ≤ N := by omega
  have ng : N ≤ n1 ∨ N ≤ n2 := by omega
  have HA := Lib.hid hA
  have HB0 := Lib.hid hB
  clear hA hB hn1 hn2 hN
  go_enter Try.func17, Try.ntmps17
  go_wp2
  go_loopw [5, 6] (fun v x wr => ∃ (k n : Nat) (o : Nat → Int × Int), x = .int .i64 k ∧ k ≤ N ∧ n ≤ k ∧ Hid (rTo (unl la lb) k = (n, o)) ∧ RowV wr w.heap.size v n o ∧ Below w.heap.size w wr) (fun _ x _ => N - (intOf x).toNat)
  case atStart => exact ⟨0, 0, _, rfl, by omega, by omega, Lib.hid rfl, RowV.bare w _ _ (Nat.le_refl _), (Below.refl _ _).alloc (Nat.le_refl _) _⟩
  case round =>
    obtain ⟨k, n, o, rfl, hk, hnk, HM, hv, hb⟩ := hrel
    have HV := Lib.hid hv
    have HB := Lib.hid hb
    clear hv hb
    obtain ⟨Ao, co, rfl⟩ := HV.out.form
    by_cases hkl : k < N
    · have hnx : rTo (unl la lb) (k + 1) = rStep n o k (unl la lb k) := by
        show rStep (rTo (unl la lb) k).1 (rTo (unl la lb) k).2 k (unl la lb k) = _
        rw [HM.out]
      have HNX := Lib.hid hnx
      clear hnx
      by_cases hsame : ∃ (ha : k < la.length) (hb : k < lb.length), la[k] = lb[k]
      · obtain ⟨ha, hbb, he⟩ := hsame
        have hp : unl la lb k = false := by rw [unl_in ha hbb, he]; simp
        have hnx2 : rTo (unl la lb) (k + 1) = (n, o) := by rw [HNX.out, hp]; simp [rStep]
        have HN2 := Lib.hid hnx2
        obtain ⟨b1, o1, rfl, hb1, hc1⟩ := (HA.out.below HB.out).2 (by rw [num_len]; omega)
        obtain ⟨b2, o2, rfl, hb2, hc2⟩ := (HB0.out.below HB.out).2 (by rw [num_len]; omega)
        have q1 := hc1 k (by rw [num_len]; omega)
        have q2 := hc2 k (by rw [num_len]; omega)
        have e1 : (num la)[k]'(by rw [num_len]; omega) = ((la[k]'ha).toNat : Int) := by simp [num]
        have e2 : (num lb)[k]'(by rw [num_len]; omega) = ((la[k]'ha).toNat : Int) := by simp [num, he]
        rw [e1] at q1
        rw [e2] at q2
        have j1 : (k : Int) < (n1 : Int) := by omega
        have j2 : (k : Int) < (n2 : Int) := by omega
        generalize ((la[k]'ha).toNat : Int) = z at *
        clear hp hnx2 hc1 hc2 e1 e2 he ha hbb
        go_wp2
        go_quiet (fail)
        go_wp2
        go_roundw
        case rel => exact ⟨k + 1, n, o, by go_num, by omega, by omega, HN2.out, HV.out.far (below_drewN (Below.refl _ _) _), below_drewN HB.out _⟩
        case measure => simp [intOf] <;> omega
      · have hp : unl la lb k = true := by
          by_cases ha : k < la.length
          · by_cases hbb : k < lb.length
            · rw [unl_in ha hbb, decide_eq_true_eq]
              intro e
              exact hsame ⟨ha, hbb, UInt8.toNat_inj.1 (by omega)⟩
            · exact unl_out (.inl ⟨ha, by omega⟩)
          · exact unl_out (.inr ⟨by omega, by omega⟩)
        have hnx2 : rTo (unl la lb) (k + 1) = rStep n o k true := by rw [HNX.out, hp]
        have HN2 := Lib.hid hnx2
        have hcase : (∃ z y : Int, k < n1 ∧ k < n2 ∧ z ≠ y ∧ (∃ b1 o1, A1 = some ⟨b1, o1, none⟩ ∧ wr.cell? ⟨b1, o1 + k, none⟩ = some (.int .i64 z)) ∧ (∃ b2 o2, A2 = some ⟨b2, o2, none⟩ ∧ wr.cell? ⟨b2, o2 + k, none⟩ = some (.int .i64 y))) ∨ n1 ≤ k ∨ (k < n1 ∧ n2 ≤ k) := by
          by_cases ha : k < n1
          · by_cases hbb : k < n2
            · obtain ⟨b1, o1, e1, hb1, hc1⟩ := (HA.out.below HB.out).2 (by rw [num_len]; omega)
              obtain ⟨b2, o2, e2, hb2, hc2⟩ := (HB0.out.below HB.out).2 (by rw [num_len]; omega)
              have q1 := hc1 k (by rw [num_len]; omega)
              have q2 := hc2 k (by rw [num_len]; omega)
              refine .inl ⟨_, _, ha, hbb, fun e => ?_, ⟨b1, o1, e1, q1⟩, ⟨b2, o2, e2, q2⟩⟩
              refine hsame ⟨by omega, by omega, UInt8.toNat_inj.1 ?_⟩
              simp [num] at e
              omega
            · exact .inr (.inr ⟨ha, by omega⟩)
          · exact .inr (.inl (by omega))
        clear hp hnx2 HNX hsame
        have hsub : n = 0 ∨ ∃ m g, n = m + 1 ∧ Ao = some ⟨g, 0, none⟩ ∧ w.heap.size ≤ g ∧ RowS wr g (m + 1) co o := by
          rcases HV.out with ⟨_, h⟩ | ⟨g, c, h, hg, hr⟩
          · exact .inl h
          · by_cases h0 : n = 0
            · exact .inl h0
            · injection h with h1 h2 h3
              refine .inr ⟨n - 1, g, by omega, h1, hg, ?_⟩
              rw [show n - 1 + 1 = n by omega, h3]
              exact hr
        rcases hcase with ⟨z, y, j1, j2, hzy, ⟨b1, o1, rfl, q1⟩, ⟨b2, o2, rfl, q2⟩⟩ | j1 | ⟨j1, j2⟩
        · have g1 : decide (k < n1) = true := decide_eq_true (by omega)
          have g2 : decide (k < n2) = true := decide_eq_true (by omega)
          have g3 : (z == y) = false := by simpa using hzy
          rcases hsub with rfl | ⟨m, g, rfl, rfl, hgB, hrow⟩
          · have hn3 : rTo (unl la lb) (k + 1) = (1, So.upd o 0 ((k : Int), (k : Int) + 1)) := by rw [HN2.out]; simp [rStep]
            have HN3 := Lib.hid hn3
            clear hn3
            go_wp2
            go_quiet (fail)
            have HV2 := Lib.hid (HV.out.far (below_drewN (Below.refl wr.heap.size wr) nq))
            go_wp2_with (at_builtin; refine wpList_append_own_at _ rfl (.tmp 62) (.tmp 67) 35 rfl w.heap.size 59 i0 _ 2 16 Try.underlying35 hi0 hz0 hz1 hz2 rfl (by decide) (.slice Ao 0 co) 0 (spCells 0 o) rfl (by exact World.ownsRow.alloc (w := wr.drewN nq) (own_of_row HV2.out) _) ⟨wr.heap.size, 0, none⟩ 1 1 [.int .i64 k, .int .i64 ((k : Int) + 1)] rfl rfl (one_cells (wr.drewN nq) _ _ _) (one_cell' _ _) (by unfold maxLen; omega) (by omega) (by have := HB.out.size; simp; omega) ?_; intro v1 wz hown1 hg1 _ hat1; have R1 := Lib.hid (app_own (s := ((k : Int), (k : Int) + 1)) (W := wr.drewN nq) HV2.out HB.out.size (only_alloc (only_refl (wr.drewN nq) none) _) hown1 hg1); clear hown1 hg1 hat1; obtain ⟨A9, c9, rfl⟩ := R1.out.1.form)
            go_roundw
            case rel => exact ⟨k + 1, _, _, by go_num, by omega, by omega, HN3.out, R1.out.1, (below_drewN HB.out nq).trans R1.out.2⟩
            case measure => simp [intOf] <;> omega
          · have HO := Lib.hid hrow
            have l0 := hrow.snd (show m < m + 1 by omega)
            have l1 := hrow.free (m * 2 + 1)
            have i2 : (m : Int) < (m : Int) + 1 := by omega
            clear hrow
            by_cases hle : (o m).2 = k
            · have hn3 : rTo (unl la lb) (k + 1) = (m + 1, So.upd o m ((o m).1, (k : Int) + 1)) := by rw [HN2.out]; simp [rStep, hle]
              have HN3 := Lib.hid hn3
              rw [hle] at l0
              clear hn3 hle
              go_wp2
              go_quiet (fail)
              go_wp2
              go_roundw
              case rel =>
                have R := put_end (HO.out.drewN nq) hgB (v := (k : Int) + 1)
                exact ⟨k + 1, _, _, by go_num, by omega, by omega, HN3.out, R.1, (below_drewN HB.out nq).trans (below_of_only R.2 (below_drewN HB.out nq).size (fun k hk => by injection hk with hk; omega))⟩
              case measure => simp [intOf] <;> omega
            · have hn3 : rTo (unl la lb) (k + 1) = (m + 2, So.upd o (m + 1) ((k : Int), (k : Int) + 1)) := by rw [HN2.out]; simp [rStep, hle]
              have HN3 := Lib.hid hn3
              clear hn3
              go_wp2
              go_quiet (fail)
              have HV2 := Lib.hid (HV.out.far (below_drewN (Below.refl wr.heap.size wr) nq))
              go_wp2_with (at_builtin; refine wpList_append_own_at _ rfl (.tmp 62) (.tmp 67) 35 rfl w.heap.size 59 i0 _ 2 16 Try.underlying35 hi0 hz0 hz1 hz2 rfl (by decide) (.slice (some ⟨g, 0, none⟩) (m + 1) co) (m + 1) (spCells (m + 1) o) rfl (by exact World.ownsRow.alloc (w := wr.drewN nq) (own_of_row HV2.out) _) ⟨wr.heap.size, 0, none⟩ 1 1 [.int .i64 k, .int .i64 ((k : Int) + 1)] rfl rfl (one_cells (wr.drewN nq) _ _ _) (one_cell' _ _) (by unfold maxLen; omega) (by omega) (by have := HB.out.size; simp; omega) ?_; intro v1 wz hown1 hg1 _ hat1; have R1 := Lib.hid (app_own (s := ((k : Int), (k : Int) + 1)) (W := wr.drewN nq) HV2.out HB.out.size (only_alloc (only_refl (wr.drewN nq) none) _) hown1 hg1); clear hown1 hg1 hat1; obtain ⟨A9, c9, rfl⟩ := R1.out.1.form)
              go_roundw
              case rel => exact ⟨k + 1, _, _, by go_num, by omega, by omega, HN3.out, R1.out.1, (below_drewN HB.out nq).trans R1.out.2⟩
              case measure => simp [intOf] <;> omega
        · have g1 : decide (k < n1) = false := decide_eq_false (by omega)
          have g2 : decide (k < n2) = true := decide_eq_true (by omega)
          rcases hsub with rfl | ⟨m, g, rfl, rfl, hgB, hrow⟩
          · have hn3 : rTo (unl la lb) (k + 1) = (1, So.upd o 0 ((k : Int), (k : Int) + 1)) := by rw [HN2.out]; simp [rStep]
            have HN3 := Lib.hid hn3
            clear hn3
            go_wp2
            go_quiet (fail)
            have HV2 := Lib.hid (HV.out.far (below_drewN (Below.refl wr.heap.size wr) nq))
            go_wp2_with (at_builtin; refine wpList_append_own_at _ rfl (.tmp 62) (.tmp 67) 35 rfl w.heap.size 59 i0 _ 2 16 Try.underlying35 hi0 hz0 hz1 hz2 rfl (by decide) (.slice Ao 0 co) 0 (spCells 0 o) rfl (by exact World.ownsRow.alloc (w := wr.drewN nq) (own_of_row HV2.out) _) ⟨wr.heap.size, 0, none⟩ 1 1 [.int .i64 k, .int .i64 ((k : Int) + 1)] rfl rfl (one_cells (wr.drewN nq) _ _ _) (one_cell' _ _) (by unfold maxLen; omega) (by omega) (by have := HB.out.size; simp; omega) ?_; intro v1 wz hown1 hg1 _ hat1; have R1 := Lib.hid (app_own (s := ((k : Int), (k : Int) + 1)) (W := wr.drewN nq) HV2.out HB.out.size (only_alloc (only_refl (wr.drewN nq) none) _) hown1 hg1); clear hown1 hg1 hat1; obtain ⟨A9, c9, rfl⟩ := R1.out.1.form)
            go_roundw
            case rel => exact ⟨k + 1, _, _, by go_num, by omega, by omega, HN3.out, R1.out.1, (below_drewN HB.out nq).trans R1.out.2⟩
            case measure => simp [intOf] <;> omega
          · have HO := Lib.hid hrow
            have l0 := hrow.snd (show m < m + 1 by omega)
            have l1 := hrow.free (m * 2 + 1)
            have i2 : (m : Int) < (m : Int) + 1 := by omega
            clear hrow
            by_cases hle : (o m).2 = k
            · have hn3 : rTo (unl la lb) (k + 1) = (m + 1, So.upd o m ((o m).1, (k : Int) + 1)) := by rw [HN2.out]; simp [rStep, hle]
              have HN3 := Lib.hid hn3
              rw [hle] at l0
              clear hn3 hle
              go_wp2
              go_quiet (fail)
              go_wp2
              go_roundw
              case rel =>
                have R := put_end (HO.out.drewN nq) hgB (v := (k : Int) + 1)
                exact ⟨k + 1, _, _, by go_num, by omega, by omega, HN3.out, R.1, (below_drewN HB.out nq).trans (below_of_only R.2 (below_drewN HB.out nq).size (fun k hk => by injection hk with hk; omega))⟩
              case measure => simp [intOf] <;> omega
            · have hn3 : rTo (unl la lb) (k + 1) = (m + 2, So.upd o (m + 1) ((k : Int), (k : Int) + 1)) := by rw [HN2.out]; simp [rStep, hle]
              have HN3 := Lib.hid hn3
              clear hn3
              go_wp2
              go_quiet (fail)
              have HV2 := Lib.hid (HV.out.far (below_drewN (Below.refl wr.heap.size wr) nq))
              go_wp2_with (at_builtin; refine wpList_append_own_at _ rfl (.tmp 62) (.tmp 67) 35 rfl w.heap.size 59 i0 _ 2 16 Try.underlying35 hi0 hz0 hz1 hz2 rfl (by decide) (.slice (some ⟨g, 0, none⟩) (m + 1) co) (m + 1) (spCells (m + 1) o) rfl (by exact World.ownsRow.alloc (w := wr.drewN nq) (own_of_row HV2.out) _) ⟨wr.heap.size, 0, none⟩ 1 1 [.int .i64 k, .int .i64 ((k : Int) + 1)] rfl rfl (one_cells (wr.drewN nq) _ _ _) (one_cell' _ _) (by unfold maxLen; omega) (by omega) (by have := HB.out.size; simp; omega) ?_; intro v1 wz hown1 hg1 _ hat1; have R1 := Lib.hid (app_own (s := ((k : Int), (k : Int) + 1)) (W := wr.drewN nq) HV2.out HB.out.size (only_alloc (only_refl (wr.drewN nq) none) _) hown1 hg1); clear hown1 hg1 hat1; obtain ⟨A9, c9, rfl⟩ := R1.out.1.form)
              go_roundw
              case rel => exact ⟨k + 1, _, _, by go_num, by omega, by omega, HN3.out, R1.out.1, (below_drewN HB.out nq).trans R1.out.2⟩
              case measure => simp [intOf] <;> omega
        · have g1 : decide (k < n1) = true := decide_eq_true (by omega)
          have g2 : decide (k < n2) = false := decide_eq_false (by omega)
          rcases hsub with rfl | ⟨m, g, rfl, rfl, hgB, hrow⟩
          · have hn3 : rTo (unl la lb) (k + 1) = (1, So.upd o 0 ((k : Int), (k : Int) + 1)) := by rw [HN2.out]; simp [rStep]
            have HN3 := Lib.hid hn3
            clear hn3
            go_wp2
            go_quiet (fail)
            have HV2 := Lib.hid (HV.out.far (below_drewN (Below.refl wr.heap.size wr) nq))
            go_wp2_with (at_builtin; refine wpList_append_own_at _ rfl (.tmp 62) (.tmp 67) 35 rfl w.heap.size 59 i0 _ 2 16 Try.underlying35 hi0 hz0 hz1 hz2 rfl (by decide) (.slice Ao 0 co) 0 (spCells 0 o) rfl (by exact World.ownsRow.alloc (w := wr.drewN nq) (own_of_row HV2.out) _) ⟨wr.heap.size, 0, none⟩ 1 1 [.int .i64 k, .int .i64 ((k : Int) + 1)] rfl rfl (one_cells (wr.drewN nq) _ _ _) (one_cell' _ _) (by unfold maxLen; omega) (by omega) (by have := HB.out.size; simp; omega) ?_; intro v1 wz hown1 hg1 _ hat1; have R1 := Lib.hid (app_own (s := ((k : Int), (k : Int) + 1)) (W := wr.drewN nq) HV2.out HB.out.size (only_alloc (only_refl (wr.drewN nq) none) _) hown1 hg1); clear hown1 hg1 hat1; obtain ⟨A9, c9, rfl⟩ := R1.out.1.form)
            go_roundw
            case rel => exact ⟨k + 1, _, _, by go_num, by omega, by omega, HN3.out, R1.out.1, (below_drewN HB.out nq).trans R1.out.2⟩
            case measure => simp [intOf] <;> omega
          · have HO := Lib.hid hrow
            have l0 := hrow.snd (show m < m + 1 by omega)
            have l1 := hrow.free (m * 2 + 1)
            have i2 : (m : Int) < (m : Int) + 1 := by omega
            clear hrow
            by_cases hle : (o m).2 = k
            · have hn3 : rTo (unl la lb) (k + 1) = (m + 1, So.upd o m ((o m).1, (k : Int) + 1)) := by rw [HN2.out]; simp [rStep, hle]
              have HN3 := Lib.hid hn3
              rw [hle] at l0
              clear hn3 hle
              go_wp2
              go_quiet (fail)
              go_wp2
              go_roundw
              case rel =>
                have R := put_end (HO.out.drewN nq) hgB (v := (k : Int) + 1)
                exact ⟨k + 1, _, _, by go_num, by omega, by omega, HN3.out, R.1, (below_drewN HB.out nq).trans (below_of_only R.2 (below_drewN HB.out nq).size (fun k hk => by injection hk with hk; omega))⟩
              case measure => simp [intOf] <;> omega
            · have hn3 : rTo (unl la lb) (k + 1) = (m + 2, So.upd o (m + 1) ((k : Int), (k : Int) + 1)) := by rw [HN2.out]; simp [rStep, hle]
              have HN3 := Lib.hid hn3
              clear hn3
              go_wp2
              go_quiet (fail)
              have HV2 := Lib.hid (HV.out.far (below_drewN (Below.refl wr.heap.size wr) nq))
              go_wp2_with (at_builtin; refine wpList_append_own_at _ rfl (.tmp 62) (.tmp 67) 35 rfl w.heap.size 59 i0 _ 2 16 Try.underlying35 hi0 hz0 hz1 hz2 rfl (by decide) (.slice (some ⟨g, 0, none⟩) (m + 1) co) (m + 1) (spCells (m + 1) o) rfl (by exact World.ownsRow.alloc (w := wr.drewN nq) (own_of_row HV2.out) _) ⟨wr.heap.size, 0, none⟩ 1 1 [.int .i64 k, .int .i64 ((k : Int) + 1)] rfl rfl (one_cells (wr.drewN nq) _ _ _) (one_cell' _ _) (by unfold maxLen; omega) (by omega) (by have := HB.out.size; simp; omega) ?_; intro v1 wz hown1 hg1 _ hat1; have R1 := Lib.hid (app_own (s := ((k : Int), (k : Int) + 1)) (W := wr.drewN nq) HV2.out HB.out.size (only_alloc (only_refl (wr.drewN nq) none) _) hown1 hg1); clear hown1 hg1 hat1; obtain ⟨A9, c9, rfl⟩ := R1.out.1.form)
              go_roundw
              case rel => exact ⟨k + 1, _, _, by go_num, by omega, by omega, HN3.out, R1.out.1, (below_drewN HB.out nq).trans R1.out.2⟩
              case measure => simp [intOf] <;> omega
    · obtain ⟨k1, k2⟩ : k ≤ N ∧ N ≤ k := ⟨hk, by omega⟩
      have g1 : decide (k < n1) = false := decide_eq_false (by omega)
      have g2 : decide (k < n2) = false := decide_eq_false (by omega)
      have hfin : rTo (unl la lb) N = (n, o) := by rw [show N = k by omega]; exact HM.out
      have HF := Lib.hid hfin
      clear hfin
      go_wp2
      go_ret
      refine ⟨_, rfl, ?_, HB.out⟩
      rw [HF.out]
      exact HV.out
end Go.Proofs.Ythneljkaieckeaa
