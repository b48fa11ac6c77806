/- The document's order of regions: its contract. -/
import Derived.Test.YthlapnljinkekaaRB
namespace Go.Proofs.Ythlapnljinkekaa
open Go.RowKit Go.Lib Go.Sort
set_option linter.unusedVariables false

theorem rgCells_congr {n : Nat} {d e : Nat → Reg} (h : ∀ q, q < n → d q = e q) : rgCells n d = rgCells n e := by
  unfold rgCells
  rw [List.flatMap_def, List.flatMap_def]
  congr 1
  apply List.map_congr_left
  intro i hi
  rw [h i (List.mem_range.1 hi)]
theorem rgCells_add (k j : Nat) (d : Nat → Reg) : rgCells (k + j) d = rgCells k d ++ rgCells j (fun q => d (k + q)) := by
  induction j with
  | zero => simp [rgCells]
  | succ j ih => rw [← Nat.add_assoc, rgCells_succ, ih, rgCells_succ, List.append_assoc]
theorem rgCells_ins {k i : Nat} (e : Nat → Reg) (hk : k ≤ i) : (rgCells k e ++ [.int .i64 (e i).1, .int .i64 (e i).2.1, .int .i64 (e i).2.2]) ++ rgCells (i - k) (fun q => e (k + q)) = rgCells (i + 1) (Sr.rot e k i (i + 1)) := by
  rw [show i + 1 = (k + 1) + (i - k) by omega, rgCells_add, rgCells_add k 1]
  congr 1
  · congr 1
    · exact rgCells_congr fun q hq => by simp only [Sr.rot]; rw [if_neg (by omega), if_neg (by omega)]
    · have : Sr.rot e k i (k + 1 + (i - k)) k = e i := by simp only [Sr.rot]; rw [if_pos (by omega)]; congr 1; omega
      simp [rgCells, this]
  · refine rgCells_congr fun q hq => ?_
    simp only [Sr.rot]
    rw [if_neg (by omega), if_pos (by omega)]
    congr 1
    omega

theorem regs_cells {w : World} {b off len : Nat} {d : Nat → Reg} (h : ∀ i, i < len → w.cell? ⟨b, off + i * 3, none⟩ = some (.int .i64 (d i).1) ∧ w.cell? ⟨b, off + i * 3 + 1, none⟩ = some (.int .i64 (d i).2.1) ∧ w.cell? ⟨b, off + i * 3 + 2, none⟩ = some (.int .i64 (d i).2.2)) :
    ∀ j u, (rgCells len d)[j]? = some u → w.cell? ((⟨b, off, none⟩ : Addr).add j) = some u := by
  intro j u hj
  have hl : j < len * 3 := by
    rcases Nat.lt_or_ge j (len * 3) with h' | h'
    · exact h'
    · rw [List.getElem?_eq_none (by rw [rgCells_len]; exact h')] at hj; cases hj
  obtain ⟨i, hi⟩ : ∃ i, j = i * 3 ∨ j = i * 3 + 1 ∨ j = i * 3 + 2 := ⟨j / 3, by omega⟩
  have hin : i < len := by omega
  obtain ⟨e1, e2, e3⟩ := h i hin
  obtain ⟨s1, s2, s3⟩ := rgCells_get (d := d) hin
  have ha : (⟨b, off, none⟩ : Addr).add j = ⟨b, off + j, none⟩ := by unfold Addr.add; split <;> simp_all
  rw [ha]
  rcases hi with rfl | rfl | rfl
  · rw [s1] at hj; rw [e1]; exact hj
  · rw [s2] at hj; rw [← Nat.add_assoc, e2]; exact hj
  · rw [s3] at hj; rw [← Nat.add_assoc, e3]; exact hj
theorem rrow_cells {w : World} {g n cap : Nat} {d : Nat → Reg} (h : RowR w g n cap d) (k j off : Nat) (hk : k + j ≤ n) (ho : off = k * 3) : ∀ x u, (rgCells j (fun q => d (k + q)))[x]? = some u → w.cell? ((⟨g, off, none⟩ : Addr).add x) = some u := by
  subst ho
  exact regs_cells fun i hi => by
    obtain ⟨h1, h2, h3⟩ := h.cells (show k + i < n by omega)
    rw [show (k + i) * 3 = k * 3 + i * 3 by omega] at h1 h2 h3
    exact ⟨h1, h2, h3⟩
theorem rrow_cells0 {w : World} {g n cap : Nat} {d : Nat → Reg} (h : RowR w g n cap d) (j : Nat) (hk : j ≤ n) : ∀ x u, (rgCells j d)[x]? = some u → w.cell? ((⟨g, 0, none⟩ : Addr).add x) = some u := by
  have := rrow_cells h 0 j 0 (by omega) (by omega)
  simpa using this
theorem RowRV.made {w : World} {B n : Nat} {v : Value} {d : Nat → Reg} (h : RowRV w B v n d) (hn : 0 < n) : ∃ g cap, v = .slice (some ⟨g, 0, none⟩) n cap ∧ B ≤ g ∧ RowR w g n cap d := by
  rcases h with ⟨_, rfl⟩ | h
  · omega
  · exact h
theorem appr_row {B g n len cap1 : Nat} {v v1 : Value} {o d' : Nat → Reg} {s : Reg} {W W' wz : World} (hV : RowRV W B v n o) (hR : RowR W g len cap1 d') (hvg : v.ownBlock ≠ some g) (hB : B ≤ W.heap.size) (hW : W.grownBy W' none)
    (hown : wz.ownsRow B 30 3 v1 (n + 1) (rgCells n o ++ [.int .i64 s.1, .int .i64 s.2.1, .int .i64 s.2.2])) (hg : W'.grownBy wz v.ownBlock) {z : Nat} (hz : W.heap.size ≤ z) (hat : v1.ownBlock = v.ownBlock ∨ v1.ownBlock = some z) :
    RowRV wz B v1 (n + 1) (Sr.upd o n s) ∧ v1.ownBlock ≠ some g ∧ RowR wz g len cap1 d' ∧ Below B W wz := by
  rw [rgCells_upd] at hown
  refine ⟨rowr_of_own hown, ?_, (hR.only hW (by simp)).only hg (fun e => hvg e.symm), (below_of_only hW hB (by simp)).trans (below_of_only hg (Nat.le_trans hB hW.size) (fun k hk => (hV.blk k hk).1))⟩
  rcases hat with h | h
  · rw [h]; exact hvg
  · rw [h]
    intro e
    injection e with e
    have h1 := hR.lt
    omega
/-- What an append to the call's own spans leaves of another row of its own. -/
theorem appr_any {B g n len cap1 m : Nat} {v v1 : Value} {o o1 d' : Nat → Reg} {W W' wz : World} (hV : RowRV W B v n o) (hR : RowR W g len cap1 d') (hvg : v.ownBlock ≠ some g) (hB : B ≤ W.heap.size) (hW : W.grownBy W' none)
    (hown : wz.ownsRow B 30 3 v1 m (rgCells m o1)) (hg : W'.grownBy wz v.ownBlock) {z : Nat} (hz : W.heap.size ≤ z) (hat : v1.ownBlock = v.ownBlock ∨ v1.ownBlock = some z) :
    RowRV wz B v1 m o1 ∧ v1.ownBlock ≠ some g ∧ RowR wz g len cap1 d' ∧ Below B W wz := by
  refine ⟨rowr_of_own hown, ?_, (hR.only hW (by simp)).only hg (fun e => hvg e.symm), (below_of_only hW hB (by simp)).trans (below_of_only hg (Nat.le_trans hB hW.size) (fun k hk => (hV.blk k hk).1))⟩
  rcases hat with h | h
  · rw [h]; exact hvg
  · rw [h]
    intro e
    injection e with e
    have h1 := hR.lt
    omega

/-- The regions d as the document puts them in order. -/
def RSortedV (B n : Nat) (d : Nat → Reg) (w : World) (e : Ending) (w' : World) : Prop :=
  ∃ v d', e = .returned v ∧ RowRV w' B v n d' ∧ Sr.Perm 0 n d d' ∧ Sr.Sorted d' 0 n ∧ Below B w w'

set_option maxHeartbeats 3200000 in
theorem rsorted_any (A : Option Addr) (len cap : Nat) (d : Nat → Reg) (w : World) (hsp : Regs w A len cap d) (hl : len ≤ 1000000) :
    Calls Try.prog 13 #[.slice A len cap] w (RSortedV w.heap.size len d w) := by
  obtain ⟨i0, hi0, hz0, hz1, hz2⟩ := info_parts region_info
  have HSP := Lib.hid hsp
  clear hsp
  go_enter Try.func13, Try.ntmps13
  go_wp2
  go_loopw [3, 4] (fun o x wr => ∃ (i g c : Nat) (e : Nat → Reg), x = .int .i64 i ∧ o = .slice (some ⟨g, 0, none⟩) i c ∧ i ≤ len ∧ w.heap.size ≤ g ∧ RowR wr g i c e ∧ Hid (Sr.Perm 0 i d e) ∧ Hid (Sr.Sorted e 0 i) ∧ Below w.heap.size w wr) (fun o x _ => len - (intOf x).toNat)
  case atStart => exact ⟨0, w.heap.size, 0, d, rfl, rfl, by omega, Nat.le_refl _, ⟨#[], Blk.new w _ _, ⟨by omega, by simp⟩, rfl, fun i hi => by omega⟩, Lib.hid (Sr.Perm.refl _ _ _), Lib.hid (fun p q h1 h2 h3 => by omega), (Below.refl _ _).alloc (Nat.le_refl _) _⟩
  case round =>
    obtain ⟨i, g, c, e, rfl, rfl, hi, hgB, hR, HP, HS, hb⟩ := hrel
    have HR := Lib.hid hR
    have HB := Lib.hid hb
    clear hR hb
    by_cases hil : i < len
    · obtain ⟨b, off, hA, hbw, hc⟩ := (HSP.out.below HB.out).2 (by omega)
      obtain ⟨rfl⟩ := hA
      have hei : e i = d i := HP.out.out (by omega)
      have HEI := Lib.hid hei
      clear hei hc
      go_wp2
      go_loopw [5] (fun x wq => ∃ (k : Nat), x = .int .i64 k ∧ k ≤ i ∧ Hid (∀ q, k ≤ q → q < i → Sr.lt (e i) (e q)) ∧ RowR wq g i c e ∧ Below w.heap.size w wq) (fun x _ => (intOf x).toNat)
      case atStart => exact ⟨i, rfl, Nat.le_refl _, Lib.hid (by omega), HR.out, HB.out⟩
      case round =>
        obtain ⟨k, rfl, hki, HL, hR2, hb2⟩ := hrel
        have HR2 := Lib.hid hR2
        have HB2 := Lib.hid hb2
        clear hR2 hb2 HR HB
        by_cases hk0 : 0 < k
        · obtain ⟨j, hj1, hj2⟩ : ∃ j, j + 1 ≤ k ∧ k ≤ j + 1 := ⟨k - 1, by omega, by omega⟩
          obtain ⟨b2, off2, hA, hbw2, hc⟩ := (HSP.out.below HB2.out).2 (by omega)
          obtain ⟨rfl, rfl⟩ : b = b2 ∧ off = off2 := by injection hA with hA; injection hA with h1 h2; exact ⟨h1, h2⟩
          obtain ⟨c0, c1, c4⟩ := hc i hil
          obtain ⟨c2, c3, c5⟩ := HR2.out.cells (show j < i by omega)
          rw [← HEI.out] at c0 c1 c4
          clear hc hA
          obtain ⟨x, hx⟩ : ∃ x, x = e i := ⟨_, rfl⟩
          obtain ⟨y, hy⟩ : ∃ y, y = e j := ⟨_, rfl⟩
          rw [← hx] at c0 c1 c4
          rw [← hy] at c2 c3 c5
          have HX := Lib.hid hx
          have HY := Lib.hid hy
          clear hx hy
          have i1 : (i : Int) < (len : Int) := by omega
          have i2 : (j : Int) < (i : Int) := by omega
          have i3 : (0 : Int) < (k : Int) := by omega
          have i4 : IntKind.i64.wrap ((k : Int) - 1) = (j : Int) := by rw [IntKind.wrap_i64]; omega
          by_cases hlt : x.2.1 < y.2.1
          · go_wp2
            go_quiet (fail)
            have HR3 := Lib.hid (HR2.out.drewN nq)
            have HB3 := Lib.hid (below_drewN HB2.out nq)
            generalize wr.drewN nq = w3 at HR3 HB3 ⊢
            have hl : Sr.lt x y := by unfold Sr.lt; omega
            rw [HX.out, HY.out] at hl
            clear c0 c1 c2 c3 c4 c5
            go_wp2
            go_roundw
            case rel =>
              refine ⟨j, by go_num, by omega, Lib.hid fun q h1 h2 => ?_, HR3.out, HB3.out⟩
              by_cases h3 : q = j
              · subst h3; exact hl
              · exact HL.out q (by omega) h2
            case measure => simp [intOf] <;> omega
          · go_wp2
            go_quiet (fail)
            have HR3 := Lib.hid (HR2.out.drewN nq)
            have HB3 := Lib.hid (below_drewN HB2.out nq)
            generalize wr.drewN nq = w3 at HR3 HB3 ⊢
            have hl : ¬ Sr.lt x y := by unfold Sr.lt; omega
            rw [HX.out, HY.out] at hl
            clear c0 c1 c2 c3 c4 c5 HR2 HB2
            have hsort : Sr.Sorted (Sr.rot e k i (i + 1)) 0 (i + 1) := Sr.one_last HS.out (by omega) hki (fun q h1 h2 => by
              by_cases h3 : q = j
              · subst h3; exact hl
              · have := HS.out q j (by omega) (by omega) (by omega)
                unfold Sr.le Sr.lt at *
                omega) (fun q h1 h2 => HL.out q h1 h2)
            clear HX HY hl
            have hperm : Sr.Perm 0 (i + 1) d (Sr.rot e k i (i + 1)) := (HP.out.mono (Nat.le_refl _) (by omega)).trans (Sr.Perm.rotDown (i - k) (by omega) (by omega) (by omega))
            have HPERM := Lib.hid hperm
            have HSORT := Lib.hid hsort
            clear hperm hsort HL
            have r1 := HR3.out.room
            have j1 : (k : Int) ≤ (c : Int) := by omega
            have j2 : (k : Int) ≤ (i : Int) := by omega
            have hl0 : (rgCells k e).length = k * 3 := rgCells_len k e
            have hl2 : (rgCells (i - k) (fun q => e (k + q))).length = (i - k) * 3 := rgCells_len _ _
            have HL0 := Lib.hid hl0
            have HL2 := Lib.hid hl2
            clear hl0 hl2
            have hV0 : RowRV (w3.alloc (.cells #[] 30)) w.heap.size (.slice (some ⟨w3.heap.size, 0, none⟩) 0 0) 0 e := .inr ⟨_, 0, rfl, HB3.out.size, ⟨#[], Blk.new w3 _ _, ⟨by omega, by simp⟩, rfl, fun i hi => by omega⟩⟩
            have HV0 := Lib.hid hV0
            clear hV0
            have HRA := Lib.hid (HR3.out.only (only_alloc (only_refl w3 none) (.cells #[] 30)) (by simp))
            have hk1 : i + 1 = k + 1 + (i - k) := by omega
            have HK1 := Lib.hid hk1
            clear hk1
            by_cases hck : c = k
            · have hck' := hck.symm
              subst hck'
              clear hck
              go_wp2_with (first | (at_builtin; refine wpList_append_own_at _ rfl (.tmp 34) (.tmp 37) 22 rfl w.heap.size 30 i0 _ 3 24 Try.underlying22 hi0 hz0 hz1 hz2 rfl (by decide) (.slice (some ⟨w3.heap.size, 0, none⟩) 0 0) 0 (rgCells 0 e) rfl (ownr_of_row HV0.out) ⟨g, 0, none⟩ k _ (rgCells k e) rfl HL0.out (rrow_cells0 HRA.out k hki) (rgCells_cell k e) (by unfold maxLen; omega) (by omega) (by have := HB3.out.size; simp; omega) ?_; intro v1 w4 hown1 hg1 _ hat1; have R := appr_any (o1 := e) (m := k) HV0.out HRA.out (by have := HR3.out.lt; simp [Value.ownBlock]; omega) (by have := HB3.out.size; simp; omega) (only_refl _ _) (by simpa [rgCells] using hown1) hg1 (Nat.le_refl _) hat1; have HR4 := Lib.hid R.2.2.1; have HB4 := Lib.hid (HB3.out.trans ((below_of_only (only_alloc (only_refl w3 none) (.cells #[] 30)) HB3.out.size (by simp)).trans R.2.2.2)); have HV1 := Lib.hid R.1; have HN1 := Lib.hid R.2.1; clear R hown1 hg1 hat1; obtain ⟨A1, c1, rfl⟩ := HV1.out.form; obtain ⟨b4, off4, hA4, hbw4, hc4⟩ := (HSP.out.below HB4.out).2 (by omega); obtain ⟨rfl, rfl⟩ : b = b4 ∧ off = off4 := (by injection hA4 with hA4; injection hA4 with h1 h2; exact ⟨h1, h2⟩); obtain ⟨c0, c1', c2'⟩ := hc4 i hil; rw [← HEI.out] at c0 c1' c2'; clear hc4 hA4) | (at_builtin; refine wpList_append_own_at _ rfl (.tmp 39) (.tmp 44) 22 rfl w.heap.size 30 i0 _ 3 24 Try.underlying22 hi0 hz0 hz1 hz2 rfl (by decide) (.slice A1 k c1) k (rgCells k e) rfl (World.ownsRow.alloc (ownr_of_row HV1.out) _) ⟨w4.heap.size, 0, none⟩ 1 1 [.int .i64 (e i).1, .int .i64 (e i).2.1, .int .i64 (e i).2.2] rfl rfl (one_cells3 _ _ _ _ _) (one_cell3' _ _ _) (by unfold maxLen; omega) (by omega) (by have := HB4.out.size; simp; omega) ?_; intro v2 w5 hown2 hg2 _ hat2; have R := appr_row (s := e i) HV1.out HR4.out HN1.out HB4.out.size (only_alloc (only_refl w4 none) _) hown2 hg2 (z := w4.heap.size + 1) (by omega) (by simpa using hat2); have HR5 := Lib.hid R.2.2.1; have HB5 := Lib.hid (HB4.out.trans R.2.2.2); have HV2 := Lib.hid R.1; have HN2 := Lib.hid R.2.1; clear R hown2 hg2 hat2; obtain ⟨A2, c2, rfl⟩ := HV2.out.form) | (at_builtin; refine wpList_append_own_at _ rfl (.tmp 46) (.tmp 49) 22 rfl w.heap.size 30 i0 _ 3 24 Try.underlying22 hi0 hz0 hz1 hz2 rfl (by decide) (.slice A2 (k + 1) c2) (k + 1) (rgCells (k + 1) (Sr.upd e k (e i))) rfl (ownr_of_row HV2.out) ⟨g, k * 3, none⟩ (i - k) _ (rgCells (i - k) (fun q => e (k + q))) rfl HL2.out (rrow_cells HR5.out k (i - k) _ (by omega) rfl) (rgCells_cell _ _) (by unfold maxLen; omega) (by omega) HB5.out.size ?_; intro v3 w6 hown3 hg3 _ hat3; have R := appr_any (o1 := Sr.rot e k i (i + 1)) (m := i + 1) HV2.out HR5.out HN2.out HB5.out.size (only_refl _ _) (by rw [← rgCells_upd, rgCells_ins e hki, ← HK1.out] at hown3; exact hown3) hg3 (Nat.le_refl _) hat3; have HB6 := Lib.hid (HB5.out.trans R.2.2.2); have HV3 := Lib.hid R.1; clear R hown3 hg3 hat3; obtain ⟨g3, c3, rfl, hg3B, hR6⟩ := HV3.out.made (by omega)) | (at_builtin; refine wpList_append_own_at _ rfl (.tmp 46) (.tmp 49) 22 rfl w.heap.size 30 i0 _ 3 24 Try.underlying22 hi0 hz0 hz1 hz2 rfl (by decide) (.slice A2 (k + 1) c2) (k + 1) (rgCells (k + 1) (Sr.upd e k (e i))) rfl (ownr_of_row HV2.out) ⟨g, 0, none⟩ 0 _ [] rfl rfl (fun j u hj => by simp at hj) (fun u hu => by simp at hu) (by unfold maxLen; omega) (by omega) HB5.out.size ?_; intro v3 w6 hown3 hg3 _ hat3; have R := appr_any (o1 := Sr.rot e k i (i + 1)) (m := i + 1) HV2.out HR5.out HN2.out HB5.out.size (only_refl _ _) (by rw [← rgCells_ins e hki, show i - k = 0 by omega, show i + 1 = k + 1 by omega, rgCells_upd]; exact hown3) hg3 (Nat.le_refl _) hat3; have HB6 := Lib.hid (HB5.out.trans R.2.2.2); have HV3 := Lib.hid R.1; clear R hown3 hg3 hat3; obtain ⟨g3, c3, rfl, hg3B, hR6⟩ := HV3.out.made (by omega)))
              all_goals
                go_roundw
                case rel => exact ⟨i + 1, g3, c3, _, by go_num, rfl, by omega, hg3B, hR6, HPERM, HSORT, HB6.out⟩
                case measure => simp [intOf] <;> omega
            · go_wp2_with (first | (at_builtin; refine wpList_append_own_at _ rfl (.tmp 34) (.tmp 37) 22 rfl w.heap.size 30 i0 _ 3 24 Try.underlying22 hi0 hz0 hz1 hz2 rfl (by decide) (.slice (some ⟨w3.heap.size, 0, none⟩) 0 0) 0 (rgCells 0 e) rfl (ownr_of_row HV0.out) ⟨g, 0, none⟩ k _ (rgCells k e) rfl HL0.out (rrow_cells0 HRA.out k hki) (rgCells_cell k e) (by unfold maxLen; omega) (by omega) (by have := HB3.out.size; simp; omega) ?_; intro v1 w4 hown1 hg1 _ hat1; have R := appr_any (o1 := e) (m := k) HV0.out HRA.out (by have := HR3.out.lt; simp [Value.ownBlock]; omega) (by have := HB3.out.size; simp; omega) (only_refl _ _) (by simpa [rgCells] using hown1) hg1 (Nat.le_refl _) hat1; have HR4 := Lib.hid R.2.2.1; have HB4 := Lib.hid (HB3.out.trans ((below_of_only (only_alloc (only_refl w3 none) (.cells #[] 30)) HB3.out.size (by simp)).trans R.2.2.2)); have HV1 := Lib.hid R.1; have HN1 := Lib.hid R.2.1; clear R hown1 hg1 hat1; obtain ⟨A1, c1, rfl⟩ := HV1.out.form; obtain ⟨b4, off4, hA4, hbw4, hc4⟩ := (HSP.out.below HB4.out).2 (by omega); obtain ⟨rfl, rfl⟩ : b = b4 ∧ off = off4 := (by injection hA4 with hA4; injection hA4 with h1 h2; exact ⟨h1, h2⟩); obtain ⟨c0, c1', c2'⟩ := hc4 i hil; rw [← HEI.out] at c0 c1' c2'; clear hc4 hA4) | (at_builtin; refine wpList_append_own_at _ rfl (.tmp 39) (.tmp 44) 22 rfl w.heap.size 30 i0 _ 3 24 Try.underlying22 hi0 hz0 hz1 hz2 rfl (by decide) (.slice A1 k c1) k (rgCells k e) rfl (World.ownsRow.alloc (ownr_of_row HV1.out) _) ⟨w4.heap.size, 0, none⟩ 1 1 [.int .i64 (e i).1, .int .i64 (e i).2.1, .int .i64 (e i).2.2] rfl rfl (one_cells3 _ _ _ _ _) (one_cell3' _ _ _) (by unfold maxLen; omega) (by omega) (by have := HB4.out.size; simp; omega) ?_; intro v2 w5 hown2 hg2 _ hat2; have R := appr_row (s := e i) HV1.out HR4.out HN1.out HB4.out.size (only_alloc (only_refl w4 none) _) hown2 hg2 (z := w4.heap.size + 1) (by omega) (by simpa using hat2); have HR5 := Lib.hid R.2.2.1; have HB5 := Lib.hid (HB4.out.trans R.2.2.2); have HV2 := Lib.hid R.1; have HN2 := Lib.hid R.2.1; clear R hown2 hg2 hat2; obtain ⟨A2, c2, rfl⟩ := HV2.out.form) | (at_builtin; refine wpList_append_own_at _ rfl (.tmp 46) (.tmp 49) 22 rfl w.heap.size 30 i0 _ 3 24 Try.underlying22 hi0 hz0 hz1 hz2 rfl (by decide) (.slice A2 (k + 1) c2) (k + 1) (rgCells (k + 1) (Sr.upd e k (e i))) rfl (ownr_of_row HV2.out) ⟨g, k * 3, none⟩ (i - k) _ (rgCells (i - k) (fun q => e (k + q))) rfl HL2.out (rrow_cells HR5.out k (i - k) _ (by omega) rfl) (rgCells_cell _ _) (by unfold maxLen; omega) (by omega) HB5.out.size ?_; intro v3 w6 hown3 hg3 _ hat3; have R := appr_any (o1 := Sr.rot e k i (i + 1)) (m := i + 1) HV2.out HR5.out HN2.out HB5.out.size (only_refl _ _) (by rw [← rgCells_upd, rgCells_ins e hki, ← HK1.out] at hown3; exact hown3) hg3 (Nat.le_refl _) hat3; have HB6 := Lib.hid (HB5.out.trans R.2.2.2); have HV3 := Lib.hid R.1; clear R hown3 hg3 hat3; obtain ⟨g3, c3, rfl, hg3B, hR6⟩ := HV3.out.made (by omega)) | (at_builtin; refine wpList_append_own_at _ rfl (.tmp 46) (.tmp 49) 22 rfl w.heap.size 30 i0 _ 3 24 Try.underlying22 hi0 hz0 hz1 hz2 rfl (by decide) (.slice A2 (k + 1) c2) (k + 1) (rgCells (k + 1) (Sr.upd e k (e i))) rfl (ownr_of_row HV2.out) ⟨g, 0, none⟩ 0 _ [] rfl rfl (fun j u hj => by simp at hj) (fun u hu => by simp at hu) (by unfold maxLen; omega) (by omega) HB5.out.size ?_; intro v3 w6 hown3 hg3 _ hat3; have R := appr_any (o1 := Sr.rot e k i (i + 1)) (m := i + 1) HV2.out HR5.out HN2.out HB5.out.size (only_refl _ _) (by rw [← rgCells_ins e hki, show i - k = 0 by omega, show i + 1 = k + 1 by omega, rgCells_upd]; exact hown3) hg3 (Nat.le_refl _) hat3; have HB6 := Lib.hid (HB5.out.trans R.2.2.2); have HV3 := Lib.hid R.1; clear R hown3 hg3 hat3; obtain ⟨g3, c3, rfl, hg3B, hR6⟩ := HV3.out.made (by omega)))
              all_goals
                go_roundw
                case rel => exact ⟨i + 1, g3, c3, _, by go_num, rfl, by omega, hg3B, hR6, HPERM, HSORT, HB6.out⟩
                case measure => simp [intOf] <;> omega
        · have hsort : Sr.Sorted (Sr.rot e k i (i + 1)) 0 (i + 1) := Sr.one_last HS.out (by omega) hki (fun q h1 h2 => by omega) (fun q h1 h2 => HL.out q h1 h2)
          have i1 : ¬ (0 : Int) < (k : Int) := by omega
          go_wp2
          go_quiet (fail)
          have HR3 := Lib.hid (HR2.out.drewN nq)
          have HB3 := Lib.hid (below_drewN HB2.out nq)
          generalize wr.drewN nq = w3 at HR3 HB3 ⊢
          have hperm : Sr.Perm 0 (i + 1) d (Sr.rot e k i (i + 1)) := (HP.out.mono (Nat.le_refl _) (by omega)).trans (Sr.Perm.rotDown (i - k) (by omega) (by omega) (by omega))
          have HPERM := Lib.hid hperm
          have HSORT := Lib.hid hsort
          clear hperm hsort HL
          have r1 := HR3.out.room
          have j1 : (k : Int) ≤ (c : Int) := by omega
          have j2 : (k : Int) ≤ (i : Int) := by omega
          have hl0 : (rgCells k e).length = k * 3 := rgCells_len k e
          have hl2 : (rgCells (i - k) (fun q => e (k + q))).length = (i - k) * 3 := rgCells_len _ _
          have HL0 := Lib.hid hl0
          have HL2 := Lib.hid hl2
          clear hl0 hl2
          have hV0 : RowRV (w3.alloc (.cells #[] 30)) w.heap.size (.slice (some ⟨w3.heap.size, 0, none⟩) 0 0) 0 e := .inr ⟨_, 0, rfl, HB3.out.size, ⟨#[], Blk.new w3 _ _, ⟨by omega, by simp⟩, rfl, fun i hi => by omega⟩⟩
          have HV0 := Lib.hid hV0
          clear hV0
          have HRA := Lib.hid (HR3.out.only (only_alloc (only_refl w3 none) (.cells #[] 30)) (by simp))
          have hk1 : i + 1 = k + 1 + (i - k) := by omega
          have HK1 := Lib.hid hk1
          clear hk1
          by_cases hck : c = k
          · have hck' := hck.symm
            subst hck'
            clear hck
            go_wp2_with (first | (at_builtin; refine wpList_append_own_at _ rfl (.tmp 34) (.tmp 37) 22 rfl w.heap.size 30 i0 _ 3 24 Try.underlying22 hi0 hz0 hz1 hz2 rfl (by decide) (.slice (some ⟨w3.heap.size, 0, none⟩) 0 0) 0 (rgCells 0 e) rfl (ownr_of_row HV0.out) ⟨g, 0, none⟩ k _ (rgCells k e) rfl HL0.out (rrow_cells0 HRA.out k hki) (rgCells_cell k e) (by unfold maxLen; omega) (by omega) (by have := HB3.out.size; simp; omega) ?_; intro v1 w4 hown1 hg1 _ hat1; have R := appr_any (o1 := e) (m := k) HV0.out HRA.out (by have := HR3.out.lt; simp [Value.ownBlock]; omega) (by have := HB3.out.size; simp; omega) (only_refl _ _) (by simpa [rgCells] using hown1) hg1 (Nat.le_refl _) hat1; have HR4 := Lib.hid R.2.2.1; have HB4 := Lib.hid (HB3.out.trans ((below_of_only (only_alloc (only_refl w3 none) (.cells #[] 30)) HB3.out.size (by simp)).trans R.2.2.2)); have HV1 := Lib.hid R.1; have HN1 := Lib.hid R.2.1; clear R hown1 hg1 hat1; obtain ⟨A1, c1, rfl⟩ := HV1.out.form; obtain ⟨b4, off4, hA4, hbw4, hc4⟩ := (HSP.out.below HB4.out).2 (by omega); obtain ⟨rfl, rfl⟩ : b = b4 ∧ off = off4 := (by injection hA4 with hA4; injection hA4 with h1 h2; exact ⟨h1, h2⟩); obtain ⟨c0, c1', c2'⟩ := hc4 i hil; rw [← HEI.out] at c0 c1' c2'; clear hc4 hA4) | (at_builtin; refine wpList_append_own_at _ rfl (.tmp 39) (.tmp 44) 22 rfl w.heap.size 30 i0 _ 3 24 Try.underlying22 hi0 hz0 hz1 hz2 rfl (by decide) (.slice A1 k c1) k (rgCells k e) rfl (World.ownsRow.alloc (ownr_of_row HV1.out) _) ⟨w4.heap.size, 0, none⟩ 1 1 [.int .i64 (e i).1, .int .i64 (e i).2.1, .int .i64 (e i).2.2] rfl rfl (one_cells3 _ _ _ _ _) (one_cell3' _ _ _) (by unfold maxLen; omega) (by omega) (by have := HB4.out.size; simp; omega) ?_; intro v2 w5 hown2 hg2 _ hat2; have R := appr_row (s := e i) HV1.out HR4.out HN1.out HB4.out.size (only_alloc (only_refl w4 none) _) hown2 hg2 (z := w4.heap.size + 1) (by omega) (by simpa using hat2); have HR5 := Lib.hid R.2.2.1; have HB5 := Lib.hid (HB4.out.trans R.2.2.2); have HV2 := Lib.hid R.1; have HN2 := Lib.hid R.2.1; clear R hown2 hg2 hat2; obtain ⟨A2, c2, rfl⟩ := HV2.out.form) | (at_builtin; refine wpList_append_own_at _ rfl (.tmp 46) (.tmp 49) 22 rfl w.heap.size 30 i0 _ 3 24 Try.underlying22 hi0 hz0 hz1 hz2 rfl (by decide) (.slice A2 (k + 1) c2) (k + 1) (rgCells (k + 1) (Sr.upd e k (e i))) rfl (ownr_of_row HV2.out) ⟨g, k * 3, none⟩ (i - k) _ (rgCells (i - k) (fun q => e (k + q))) rfl HL2.out (rrow_cells HR5.out k (i - k) _ (by omega) rfl) (rgCells_cell _ _) (by unfold maxLen; omega) (by omega) HB5.out.size ?_; intro v3 w6 hown3 hg3 _ hat3; have R := appr_any (o1 := Sr.rot e k i (i + 1)) (m := i + 1) HV2.out HR5.out HN2.out HB5.out.size (only_refl _ _) (by rw [← rgCells_upd, rgCells_ins e hki, ← HK1.out] at hown3; exact hown3) hg3 (Nat.le_refl _) hat3; have HB6 := Lib.hid (HB5.out.trans R.2.2.2); have HV3 := Lib.hid R.1; clear R hown3 hg3 hat3; obtain ⟨g3, c3, rfl, hg3B, hR6⟩ := HV3.out.made (by omega)) | (at_builtin; refine wpList_append_own_at _ rfl (.tmp 46) (.tmp 49) 22 rfl w.heap.size 30 i0 _ 3 24 Try.underlying22 hi0 hz0 hz1 hz2 rfl (by decide) (.slice A2 (k + 1) c2) (k + 1) (rgCells (k + 1) (Sr.upd e k (e i))) rfl (ownr_of_row HV2.out) ⟨g, 0, none⟩ 0 _ [] rfl rfl (fun j u hj => by simp at hj) (fun u hu => by simp at hu) (by unfold maxLen; omega) (by omega) HB5.out.size ?_; intro v3 w6 hown3 hg3 _ hat3; have R := appr_any (o1 := Sr.rot e k i (i + 1)) (m := i + 1) HV2.out HR5.out HN2.out HB5.out.size (only_refl _ _) (by rw [← rgCells_ins e hki, show i - k = 0 by omega, show i + 1 = k + 1 by omega, rgCells_upd]; exact hown3) hg3 (Nat.le_refl _) hat3; have HB6 := Lib.hid (HB5.out.trans R.2.2.2); have HV3 := Lib.hid R.1; clear R hown3 hg3 hat3; obtain ⟨g3, c3, rfl, hg3B, hR6⟩ := HV3.out.made (by omega)))
            all_goals
              go_roundw
              case rel => exact ⟨i + 1, g3, c3, _, by go_num, rfl, by omega, hg3B, hR6, HPERM, HSORT, HB6.out⟩
              case measure => simp [intOf] <;> omega
          · go_wp2_with (first | (at_builtin; refine wpList_append_own_at _ rfl (.tmp 34) (.tmp 37) 22 rfl w.heap.size 30 i0 _ 3 24 Try.underlying22 hi0 hz0 hz1 hz2 rfl (by decide) (.slice (some ⟨w3.heap.size, 0, none⟩) 0 0) 0 (rgCells 0 e) rfl (ownr_of_row HV0.out) ⟨g, 0, none⟩ k _ (rgCells k e) rfl HL0.out (rrow_cells0 HRA.out k hki) (rgCells_cell k e) (by unfold maxLen; omega) (by omega) (by have := HB3.out.size; simp; omega) ?_; intro v1 w4 hown1 hg1 _ hat1; have R := appr_any (o1 := e) (m := k) HV0.out HRA.out (by have := HR3.out.lt; simp [Value.ownBlock]; omega) (by have := HB3.out.size; simp; omega) (only_refl _ _) (by simpa [rgCells] using hown1) hg1 (Nat.le_refl _) hat1; have HR4 := Lib.hid R.2.2.1; have HB4 := Lib.hid (HB3.out.trans ((below_of_only (only_alloc (only_refl w3 none) (.cells #[] 30)) HB3.out.size (by simp)).trans R.2.2.2)); have HV1 := Lib.hid R.1; have HN1 := Lib.hid R.2.1; clear R hown1 hg1 hat1; obtain ⟨A1, c1, rfl⟩ := HV1.out.form; obtain ⟨b4, off4, hA4, hbw4, hc4⟩ := (HSP.out.below HB4.out).2 (by omega); obtain ⟨rfl, rfl⟩ : b = b4 ∧ off = off4 := (by injection hA4 with hA4; injection hA4 with h1 h2; exact ⟨h1, h2⟩); obtain ⟨c0, c1', c2'⟩ := hc4 i hil; rw [← HEI.out] at c0 c1' c2'; clear hc4 hA4) | (at_builtin; refine wpList_append_own_at _ rfl (.tmp 39) (.tmp 44) 22 rfl w.heap.size 30 i0 _ 3 24 Try.underlying22 hi0 hz0 hz1 hz2 rfl (by decide) (.slice A1 k c1) k (rgCells k e) rfl (World.ownsRow.alloc (ownr_of_row HV1.out) _) ⟨w4.heap.size, 0, none⟩ 1 1 [.int .i64 (e i).1, .int .i64 (e i).2.1, .int .i64 (e i).2.2] rfl rfl (one_cells3 _ _ _ _ _) (one_cell3' _ _ _) (by unfold maxLen; omega) (by omega) (by have := HB4.out.size; simp; omega) ?_; intro v2 w5 hown2 hg2 _ hat2; have R := appr_row (s := e i) HV1.out HR4.out HN1.out HB4.out.size (only_alloc (only_refl w4 none) _) hown2 hg2 (z := w4.heap.size + 1) (by omega) (by simpa using hat2); have HR5 := Lib.hid R.2.2.1; have HB5 := Lib.hid (HB4.out.trans R.2.2.2); have HV2 := Lib.hid R.1; have HN2 := Lib.hid R.2.1; clear R hown2 hg2 hat2; obtain ⟨A2, c2, rfl⟩ := HV2.out.form) | (at_builtin; refine wpList_append_own_at _ rfl (.tmp 46) (.tmp 49) 22 rfl w.heap.size 30 i0 _ 3 24 Try.underlying22 hi0 hz0 hz1 hz2 rfl (by decide) (.slice A2 (k + 1) c2) (k + 1) (rgCells (k + 1) (Sr.upd e k (e i))) rfl (ownr_of_row HV2.out) ⟨g, k * 3, none⟩ (i - k) _ (rgCells (i - k) (fun q => e (k + q))) rfl HL2.out (rrow_cells HR5.out k (i - k) _ (by omega) rfl) (rgCells_cell _ _) (by unfold maxLen; omega) (by omega) HB5.out.size ?_; intro v3 w6 hown3 hg3 _ hat3; have R := appr_any (o1 := Sr.rot e k i (i + 1)) (m := i + 1) HV2.out HR5.out HN2.out HB5.out.size (only_refl _ _) (by rw [← rgCells_upd, rgCells_ins e hki, ← HK1.out] at hown3; exact hown3) hg3 (Nat.le_refl _) hat3; have HB6 := Lib.hid (HB5.out.trans R.2.2.2); have HV3 := Lib.hid R.1; clear R hown3 hg3 hat3; obtain ⟨g3, c3, rfl, hg3B, hR6⟩ := HV3.out.made (by omega)) | (at_builtin; refine wpList_append_own_at _ rfl (.tmp 46) (.tmp 49) 22 rfl w.heap.size 30 i0 _ 3 24 Try.underlying22 hi0 hz0 hz1 hz2 rfl (by decide) (.slice A2 (k + 1) c2) (k + 1) (rgCells (k + 1) (Sr.upd e k (e i))) rfl (ownr_of_row HV2.out) ⟨g, 0, none⟩ 0 _ [] rfl rfl (fun j u hj => by simp at hj) (fun u hu => by simp at hu) (by unfold maxLen; omega) (by omega) HB5.out.size ?_; intro v3 w6 hown3 hg3 _ hat3; have R := appr_any (o1 := Sr.rot e k i (i + 1)) (m := i + 1) HV2.out HR5.out HN2.out HB5.out.size (only_refl _ _) (by rw [← rgCells_ins e hki, show i - k = 0 by omega, show i + 1 = k + 1 by omega, rgCells_upd]; exact hown3) hg3 (Nat.le_refl _) hat3; have HB6 := Lib.hid (HB5.out.trans R.2.2.2); have HV3 := Lib.hid R.1; clear R hown3 hg3 hat3; obtain ⟨g3, c3, rfl, hg3B, hR6⟩ := HV3.out.made (by omega)))
            all_goals
              go_roundw
              case rel => exact ⟨i + 1, g3, c3, _, by go_num, rfl, by omega, hg3B, hR6, HPERM, HSORT, HB6.out⟩
              case measure => simp [intOf] <;> omega
    · obtain rfl : i = len := by omega
      go_wp2
      go_ret
      exact ⟨_, e, rfl, .inr ⟨g, c, rfl, hgB, HR.out⟩, HP.out, HS.out, HB.out⟩
end Go.Proofs.Ythlapnljinkekaa
