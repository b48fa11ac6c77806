/- Spans laid place by place: the contract of the document's Runs. -/
import Derived.Test.YtgineifljofljaaY1
import Derived.Test.YtgineifljofljaaM2
import Derived.Maps.AppendAt
namespace Go.Proofs.Ytgineifljofljaa
open Go.RowKit Go.Lib Go.Sort
set_option linter.unusedVariables false

/-- What an append of one span to the call's own spans leaves. -/
theorem app_own {B n : Nat} {v v1 : Value} {o : Nat → Int × Int} {s : Int × Int} {W W' wz : World} (hV : RowV W B v n o) (hB : B ≤ W.heap.size) (hW : W.grownBy W' none)
    (hown : wz.ownsRow B 23 2 v1 (n + 1) (spCells n o ++ [.int .i64 s.1, .int .i64 s.2])) (hg : W'.grownBy wz v.ownBlock) :
    RowV wz B v1 (n + 1) (So.upd o n s) ∧ Below B W wz := by
  rw [spCells_upd] at hown
  exact ⟨row_of_own hown, (below_of_only hW hB (by simp)).trans (below_of_only hg (Nat.le_trans hB hW.size) (fun k hk => (hV.blk k hk).1))⟩
/-- The last of the call's own spans gets another end. -/
theorem put_end {w : World} {B h m co : Nat} {o : Nat → Int × Int} (hR : RowS w h (m + 1) co o) (hB : B ≤ h) {v : Int} :
    RowV (w.setCell ⟨h, m * 2 + 1, none⟩ (.int .i64 v)) B (.slice (some ⟨h, 0, none⟩) (m + 1) co) (m + 1) (So.upd o m ((o m).1, v)) ∧ w.grownBy (w.setCell ⟨h, m * 2 + 1, none⟩ (.int .i64 v)) (some h) := by
  refine ⟨.inr ⟨h, co, rfl, hB, ?_⟩, only_put (only_refl _ _) _ _⟩
  obtain ⟨cur, h1, h2, h3, h4⟩ := hR
  refine ⟨cur.setIfInBounds (m * 2 + 1) (.int .i64 v), ?_, h2, by simpa using h3, fun k hk => ?_⟩
  · have h1' : w.heap[h]? = some (.cells cur 23 (0, 0)) := h1
    simp only [World.setCell, Array.getElem?_modify, h1']
    simp
  · obtain ⟨e1, e2⟩ := h4 k hk
    have s1 : k * 2 + 1 < cur.size := (Array.getElem?_eq_some_iff.1 e2).1
    by_cases hkm : k = m
    · subst hkm
      have n1 : ¬ k * 2 + 1 = k * 2 := by omega
      simp [Array.getElem?_setIfInBounds, So.upd, s1, n1, e1]
    · have n1 : ¬ m * 2 + 1 = k * 2 := by omega
      have n2 : ¬ m * 2 + 1 = k * 2 + 1 := by omega
      simp [Array.getElem?_setIfInBounds, So.upd, hkm, n1, n2, e1, e2]
      intro h'
      omega
theorem RowV.far {w w' : World} {B n : Nat} {v : Value} {d : Nat → Int × Int} (h : RowV w B v n d) (hb : Below w.heap.size w w') : RowV w' B v n d := h.only (only_far hb) (own_none_or _)

/-- A row of the call's own in which nothing lies yet, though it is not nil. -/
theorem RowV.bare (w : World) (B : Nat) (d : Nat → Int × Int) (hB : B ≤ w.heap.size) : RowV (w.alloc (.cells #[] 23)) B (.slice (some ⟨w.heap.size, 0, none⟩) 0 0) 0 d :=
  .inr ⟨w.heap.size, 0, rfl, hB, ⟨#[], Blk.new w _ _, ⟨by omega, by simp⟩, rfl, fun i hi => by omega⟩⟩

def RunsV (p : Int → Bool) (B N : Nat) (w : World) (e : Ending) (w' : World) : Prop :=
  ∃ v, e = .returned v ∧ RowV w' B v (rTo p N).1 (rTo p N).2 ∧ Below B w w'

set_option maxRecDepth 100000 in
set_option maxHeartbeats 3200000 in
theorem runs_any (N : Nat) (hN : N ≤ 300) (is : Bool) (A : Option Addr) (len cap : Nat) (d : Nat → Int × Int) (w : World) (hsp : Spans w A len cap d) (hl : len ≤ 1000000) :
    Calls Try.prog 25 #[.int .i64 N, .slice A len cap, .bool is] w (RunsV (fun x => inN d x len == is) w.heap.size N w) := by
  obtain ⟨i0, hi0, hz0, hz1, hz2⟩ := info_parts span_info
  have HSP := Lib.hid hsp
  clear hsp
  obtain ⟨p, hp⟩ : ∃ p : Int → Bool, p = fun x => inN d x len == is := ⟨_, rfl⟩
  rw [← hp]
  have HP := Lib.hid hp
  clear hp
  go_enter Try.func25, Try.ntmps25
  go_wp2
  go_loopw [7, 8] (fun v i wr => ∃ (k n : Nat) (o : Nat → Int × Int), i = .int .i64 k ∧ k ≤ N ∧ n ≤ k ∧ Hid (rTo p k = (n, o)) ∧ RowV wr w.heap.size v n o ∧ Below w.heap.size w wr) (fun _ i _ => N - (intOf i).toNat)
  case atStart => exact ⟨0, 0, _, rfl, by omega, by omega, Lib.hid rfl, RowV.bare w _ _ (Nat.le_refl _), (Below.refl _ _).alloc (Nat.le_refl _) _⟩
  case round =>
    obtain ⟨k, n, o, rfl, hk, hnk, HM, hv, hb⟩ := hrel
    have HV := Lib.hid hv
    have HB := Lib.hid hb
    clear hv hb
    obtain ⟨Ao, co, rfl⟩ := HV.out.form
    by_cases hkl : k < N
    · have i1 : (k : Int) < (N : Int) := by omega
      have hnx : rTo p (k + 1) = rStep n o k (p k) := by
        show rStep (rTo p k).1 (rTo p k).2 k (p k) = _
        rw [HM.out]
      have HNX := Lib.hid hnx
      have hcall := rin_any A len cap d k _ (HSP.out.below HB.out) hl
      obtain ⟨r, hr⟩ : ∃ r, r = inN d k len := ⟨_, rfl⟩
      have hpk : p k = (r == is) := by rw [HP.out, hr]
      rw [← hr] at hcall
      have HCALL := Lib.hid hcall
      have HPK := Lib.hid hpk
      clear hnx hcall hr hpk
      by_cases hri : r = is
      · by_cases hn : 0 < n
        · rcases HV.out with ⟨_, rfl⟩ | ⟨h, co2, hv2, hhB, hho⟩
          · omega
          · obtain ⟨rfl, rfl⟩ : Ao = some ⟨h, 0, none⟩ ∧ co = co2 := by injection hv2 with e1 e2 e3; exact ⟨e1, e3⟩
            obtain ⟨m, rfl⟩ : ∃ m, n = m + 1 := ⟨n - 1, by omega⟩
            have HO := Lib.hid hho
            clear hho hv2
            have i2 : (m : Int) < (m : Int) + 1 := by omega
            by_cases hle : (o m).2 = k
            · have hnx2 : rTo p (k + 1) = (m + 1, So.upd o m ((o m).1, (k : Int) + 1)) := by rw [HNX.out, HPK.out, hri]; simp [rStep, hle]
              have HN2 := Lib.hid hnx2
              clear hnx2
              cases is <;> subst hri <;>
              · go_wp2_with (go_at_call 27; refine HCALL.out.mono ?_; rintro e w2 ⟨rfl, b2⟩; have HO2 := Lib.hid (HO.out.only (only_far b2) (by simp)); have HB2 := Lib.hid (HB.out.trans (b2.mono HB.out.size)); have l0 := HO2.out.snd (show m < m + 1 by omega); rw [hle] at l0; have l1 := HO2.out.free (m * 2 + 1); clear b2)
                go_roundw
                case rel =>
                  have R := put_end HO2.out hhB (v := (k : Int) + 1)
                  exact ⟨k + 1, _, _, by go_num, by omega, by omega, HN2.out, R.1, HB2.out.trans (below_of_only R.2 HB2.out.size (fun k hk => by injection hk with hk; omega))⟩
                case measure => simp [intOf] <;> omega
            · have hnx2 : rTo p (k + 1) = (m + 2, So.upd o (m + 1) ((k : Int), (k : Int) + 1)) := by rw [HNX.out, HPK.out, hri]; simp [rStep, hle]
              have HN2 := Lib.hid hnx2
              clear hnx2
              cases is <;> subst hri <;>
              · go_wp2_with (first | (go_at_call 27; refine HCALL.out.mono ?_; rintro e w2 ⟨rfl, b2⟩; have HO2 := Lib.hid (HO.out.only (only_far b2) (by simp)); have HV2 := Lib.hid (HV.out.far b2); have HB2 := Lib.hid (HB.out.trans (b2.mono HB.out.size)); have l0 := HO2.out.snd (show m < m + 1 by omega); have l1 := HO2.out.free (m * 2 + 1); clear b2) | (at_builtin; refine wpList_append_own_at _ rfl (.tmp 41) (.tmp 46) 31 rfl w.heap.size 23 i0 _ 2 16 Try.underlying31 hi0 hz0 hz1 hz2 rfl (by decide) (.slice (some ⟨h, 0, none⟩) (m + 1) co) (m + 1) (spCells (m + 1) o) rfl (by exact World.ownsRow.alloc (w := w2) (own_of_row HV2.out) _) ⟨w2.heap.size, 0, none⟩ 1 1 [.int .i64 k, .int .i64 ((k : Int) + 1)] rfl rfl (one_cells _ _ _ _) (one_cell' _ _) (by unfold maxLen; omega) (by omega) (by have := HB2.out.size; simp; omega) ?_; intro v1 wz hown1 hg1 _ hat1; have R1 := Lib.hid (app_own (s := ((k : Int), (k : Int) + 1)) HV2.out HB2.out.size (only_alloc (only_refl w2 none) _) hown1 hg1); clear hown1 hg1 hat1; obtain ⟨A1, c1, rfl⟩ := R1.out.1.form))
                go_roundw
                case rel => exact ⟨k + 1, _, _, by go_num, by omega, by omega, HN2.out, R1.out.1, HB2.out.trans R1.out.2⟩
                case measure => simp [intOf] <;> omega
        · obtain rfl : n = 0 := by omega
          have hnx2 : rTo p (k + 1) = (1, So.upd o 0 ((k : Int), (k : Int) + 1)) := by rw [HNX.out, HPK.out, hri]; simp [rStep]
          have HN2 := Lib.hid hnx2
          clear hnx2
          cases is <;> subst hri <;>
          · go_wp2_with (first | (go_at_call 27; refine HCALL.out.mono ?_; rintro e w2 ⟨rfl, b2⟩; have HV2 := Lib.hid (HV.out.far b2); have HB2 := Lib.hid (HB.out.trans (b2.mono HB.out.size)); clear b2) | (at_builtin; refine wpList_append_own_at _ rfl (.tmp 41) (.tmp 46) 31 rfl w.heap.size 23 i0 _ 2 16 Try.underlying31 hi0 hz0 hz1 hz2 rfl (by decide) (.slice Ao 0 co) 0 (spCells 0 o) rfl (by exact World.ownsRow.alloc (w := w2) (own_of_row HV2.out) _) ⟨w2.heap.size, 0, none⟩ 1 1 [.int .i64 k, .int .i64 ((k : Int) + 1)] rfl rfl (one_cells _ _ _ _) (one_cell' _ _) (by unfold maxLen; omega) (by omega) (by have := HB2.out.size; simp; omega) ?_; intro v1 wz hown1 hg1 _ hat1; have R1 := Lib.hid (app_own (s := ((k : Int), (k : Int) + 1)) HV2.out HB2.out.size (only_alloc (only_refl w2 none) _) hown1 hg1); clear hown1 hg1 hat1; obtain ⟨A1, c1, rfl⟩ := R1.out.1.form))
            go_roundw
            case rel => exact ⟨k + 1, _, _, by go_num, by omega, by omega, HN2.out, R1.out.1, HB2.out.trans R1.out.2⟩
            case measure => simp [intOf] <;> omega
      · have hnx2 : rTo p (k + 1) = (n, o) := by rw [HNX.out, HPK.out]; simp [rStep, hri]
        have HN2 := Lib.hid hnx2
        clear hnx2
        have hri2 : r = !is := by cases r <;> cases is <;> simp_all
        clear hri
        cases is <;> subst hri2 <;>
        · go_wp2_with (go_at_call 27; refine HCALL.out.mono ?_; rintro e w2 ⟨rfl, b2⟩; have HV2 := Lib.hid (HV.out.far b2); have HB2 := Lib.hid (HB.out.trans (b2.mono HB.out.size)); clear b2)
          go_roundw
          case rel => exact ⟨k + 1, n, o, by go_num, by omega, by omega, HN2.out, HV2.out, HB2.out⟩
          case measure => simp [intOf] <;> omega
    · obtain rfl : k = N := by omega
      go_wp2
      go_ret
      refine ⟨_, rfl, ?_, HB.out⟩
      rw [HM.out]
      exact HV.out
end Go.Proofs.Ytgineifljofljaa
