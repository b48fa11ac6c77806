/- Gaps: its contract. -/
import Derived.Test.YtgineifljofljaaZ1
namespace Go.Proofs.Ytgineifljofljaa
open Go.RowKit Go.Lib Go.Sort
set_option linter.unusedVariables false

def GapsV (B len : Nat) (n : Int) (d : Nat → Int × Int) (w : World) (e : Ending) (w' : World) : Prop :=
  ∃ v k r, e = .returned v ∧ RowV w' B v k r ∧ k ≤ len + 1 ∧ Rising k r ∧ (∀ x, inN r x k = (decide (0 ≤ x ∧ x < n) && !inN d x len)) ∧ Below B w w'

set_option maxRecDepth 100000 in
set_option maxHeartbeats 3200000 in
theorem gaps_any (n : Int) (A : Option Addr) (len cap : Nat) (d : Nat → Int × Int) (w : World) (hsp : Spans w A len cap d) (hl : len ≤ 1000000) (hok : StableOK len) :
    Calls Try.prog 26 #[.int .i64 n, .slice A len cap] w (GapsV w.heap.size len n d w) := by
  obtain ⟨i0, hi0, hz0, hz1, hz2⟩ := info_parts span_info
  have HM := Lib.hid (merge_any A len cap d w hsp hl hok)
  clear hsp hok
  go_enter Try.func26, Try.ntmps26
  go_wp2_with fail
  refine HM.out.mono ?_
  rintro e w1 ⟨v, d', rfl, hv, hp, hs, hb⟩
  have hmle := mTo_le d' len
  have mg := merging hs len (Nat.le_refl _)
  have hfin : ∀ W, Below w.heap.size w W → ∀ v m r, RowV W w1.heap.size v m r → gAll n (mTo d' len).2 (mTo d' len).1 = (m, r) → GapsV w.heap.size len n d w (.returned v) W := by
    intro W hW v m r hV hE
    have g := gaps_are (n := n) mg.up
    have le := gAll_le n (mTo d' len).2 (mTo d' len).1
    rw [hE] at g le
    have hV2 : RowV W w.heap.size v m r := by
      rcases hV with h | ⟨g, cap, h1, h2, h3⟩
      · exact .inl h
      · exact .inr ⟨g, cap, h1, Nat.le_trans hb.size h2, h3⟩
    refine ⟨v, m, r, rfl, hV2, by simp only at le; omega, g.1, fun x => ?_, hW⟩
    rw [g.2 x, mg.same, inN_perm hp]
  have HF := Lib.hid hfin
  have HB := Lib.hid hb
  obtain ⟨Am, cm, rfl, hsm⟩ := hv.spans
  have HSM := Lib.hid hsm
  clear hp hs hb mg hfin HM hv hsm
  generalize (mTo d' len).1 = n1 at *
  generalize (mTo d' len).2 = o at *
  go_wp2
  go_loopw [5, 6, 14] (fun v a i wr => ∃ (k m : Nat) (r : Nat → Int × Int) (at' : Int), i = .int .i64 k ∧ k ≤ n1 ∧ m ≤ k ∧ Hid (gTo n o k = (m, r)) ∧ a = .int .i64 at' ∧ Hid (at' = gAt o k) ∧ RowV wr w1.heap.size v m r ∧ Below w1.heap.size w1 wr) (fun _ _ i _ => n1 - (intOf i).toNat)
  case atStart => exact ⟨0, 0, _, 0, rfl, by omega, by omega, Lib.hid rfl, rfl, Lib.hid rfl, .inl ⟨rfl, rfl⟩, Below.refl _ _⟩
  case round =>
    obtain ⟨k, m, r, at', rfl, hk, hmk, HG, rfl, HAT, hv, hb2⟩ := hrel
    have HV := Lib.hid hv
    have HB2 := Lib.hid hb2
    clear hv hb2
    obtain ⟨Ao, co, rfl⟩ := HV.out.form
    by_cases hkl : k < n1
    · obtain ⟨b, off, rfl, hbl, hc⟩ := (HSM.out.below HB2.out).2 (by omega)
      have c0 := (hc k hkl).1
      have c1 := (hc k hkl).2
      clear hc
      have i1 : (k : Int) < (n1 : Int) := by omega
      have hnx : gTo n o (k + 1) = gAdd m r (at', gEnd (o k).1 n) := by
        show gAdd (gTo n o k).1 (gTo n o k).2 (gAt o k, gEnd (o k).1 n) = _
        rw [HG.out, HAT.out]
      have hat2 : (o k).2 = gAt o (k + 1) := rfl
      obtain ⟨s, hs⟩ : ∃ s, s = o k := ⟨_, rfl⟩
      rw [← hs] at c0 c1 hnx hat2
      have HAT2 := Lib.hid hat2
      clear hs hat2
      obtain ⟨p, q⟩ := s
      simp only at c0 c1 hnx HAT2
      obtain ⟨e, he⟩ : ∃ e, e = gEnd p n := ⟨_, rfl⟩
      obtain ⟨y, hy⟩ : ∃ y, y = isB (at', e) := ⟨_, rfl⟩
      have hcall : ∀ W, Calls Try.prog 13 #[spv (at', e)] W fun e w' => e = .returned (.bool y) ∧ W.grownBy w' none := fun W => by rw [hy]; exact is_any (at', e) W
      have hnx2 : gTo n o (k + 1) = if y then (m + 1, So.upd r m (at', e)) else (m, r) := by rw [hnx, gAdd, ← he, ← hy]
      have hec : (n < p ∧ e = n) ∨ (¬ n < p ∧ e = p) := by rw [he]; unfold gEnd; split <;> omega
      have HNX := Lib.hid hnx2
      have HCALL := Lib.hid hcall
      clear hnx hnx2 hcall hy he
      rcases hec with ⟨h1, h2⟩ | ⟨h1, h2⟩
      all_goals
        rw [h2] at HNX HCALL
        clear h2 e
        cases y with
        | true =>
          go_wp2_with (first | (go_at_call 13; refine (HCALL.out _).mono ?_; rintro e w2 ⟨rfl, g2⟩; have HV2 := Lib.hid (HV.out.only (only_trans (only_alloc (only_alloc (only_refl wr none) (.cells #[.int .i64 p, .int .i64 q] 23)) _) g2) (own_none_or _)); have hS := ((Blk.new wr 23 #[.int .i64 p, .int .i64 q]).alloc _).only g2 (by simp); have hG := (Blk.new (wr.alloc (.cells #[.int .i64 p, .int .i64 q] 23)) 23 _).only g2 (by simp); have e0 := hG.cell 0; have e1 := hG.cell 1; simp at e0 e1; have HS := Lib.hid hS; have HB3 := Lib.hid (HB2.out.trans (below_of_only (only_trans (only_alloc (only_alloc (only_refl wr none) (.cells #[.int .i64 p, .int .i64 q] 23)) _) g2) HB2.out.size (by simp))); have hsz := (only_trans (only_alloc (only_alloc (only_refl wr none) (.cells #[.int .i64 p, .int .i64 q] 23)) _) g2).size; clear g2 hS hG) | (at_builtin; refine wpList_append_own_at _ rfl (.tmp 26) (.tmp 28) 31 rfl w1.heap.size 23 i0 _ 2 16 Try.underlying31 hi0 hz0 hz1 hz2 rfl (by decide) (.slice Ao m co) m (spCells m r) rfl (by exact World.ownsRow.alloc (w := w2) (own_of_row HV2.out) _) ⟨w2.heap.size, 0, none⟩ 1 1 [_, _] rfl rfl (one_cells _ _ _ _) (one_cell' _ _) (by unfold maxLen; omega) (by omega) (by have := HB3.out.size; simp; omega) ?_; intro v1 wz hown1 hg1 _ hat1; have R1 := Lib.hid (app_own (s := (_, _)) HV2.out HB3.out.size (only_alloc (only_refl w2 none) _) hown1 hg1); have hS2 := (HS.out.alloc _).only hg1 (fun e => by have := (HV.out.blk _ e.symm).2; omega); have f1 := hS2.cell 1; simp at f1; clear hown1 hg1 hat1 hS2; obtain ⟨A1, c1', rfl⟩ := R1.out.1.form))
          go_roundw
          case rel => exact ⟨k + 1, _, _, _, by go_num, by omega, by omega, Lib.hid HNX.out, rfl, HAT2.out, R1.out.1, HB3.out.trans R1.out.2⟩
          case measure => simp [intOf] <;> omega
        | false =>
          go_wp2_with (go_at_call 13; refine (HCALL.out _).mono ?_; rintro e w2 ⟨rfl, g2⟩; have HV2 := Lib.hid (HV.out.only (only_trans (only_alloc (only_alloc (only_refl wr none) (.cells #[.int .i64 p, .int .i64 q] 23)) _) g2) (own_none_or _)); have hS := ((Blk.new wr 23 #[.int .i64 p, .int .i64 q]).alloc _).only g2 (by simp); have f1 := hS.cell 1; simp at f1; have HB3 := Lib.hid (HB2.out.trans (below_of_only (only_trans (only_alloc (only_alloc (only_refl wr none) (.cells #[.int .i64 p, .int .i64 q] 23)) _) g2) HB2.out.size (by simp))); clear g2 hS)
          go_roundw
          case rel => exact ⟨k + 1, m, r, _, by go_num, by omega, by omega, Lib.hid HNX.out, rfl, HAT2.out, HV2.out, HB3.out⟩
          case measure => simp [intOf] <;> omega
    · obtain rfl : k = n1 := by omega
      obtain ⟨y, hy⟩ : ∃ y, y = isB (at', n) := ⟨_, rfl⟩
      have hcall : ∀ W, Calls Try.prog 13 #[spv (at', n)] W fun e w' => e = .returned (.bool y) ∧ W.grownBy w' none := fun W => by rw [hy]; exact is_any (at', n) W
      have hnx : gAll n o k = if y then (m + 1, So.upd r m (at', n)) else (m, r) := by
        show gAdd (gTo n o k).1 (gTo n o k).2 (gAt o k, n) = _
        rw [HG.out, ← HAT.out, gAdd, ← hy]
      have HNX := Lib.hid hnx
      have HCALL := Lib.hid hcall
      clear hnx hcall hy
      cases y with
      | true =>
        go_wp2_with (first | (go_at_call 13; refine (HCALL.out _).mono ?_; rintro e w2 ⟨rfl, g2⟩; have HV2 := Lib.hid (HV.out.only (only_trans (only_alloc (only_refl wr none) (.cells #[.int .i64 at', .int .i64 n] 23)) g2) (own_none_or _)); have hG := (Blk.new wr 23 #[.int .i64 at', .int .i64 n]).only g2 (by simp); have e0 := hG.cell 0; have e1 := hG.cell 1; simp at e0 e1; have HB3 := Lib.hid (HB2.out.trans (below_of_only (only_trans (only_alloc (only_refl wr none) (.cells #[.int .i64 at', .int .i64 n] 23)) g2) HB2.out.size (by simp))); clear g2 hG) | (at_builtin; refine wpList_append_own_at _ rfl (.tmp 38) (.tmp 40) 31 rfl w1.heap.size 23 i0 _ 2 16 Try.underlying31 hi0 hz0 hz1 hz2 rfl (by decide) (.slice Ao m co) m (spCells m r) rfl (by exact World.ownsRow.alloc (w := w2) (own_of_row HV2.out) _) ⟨w2.heap.size, 0, none⟩ 1 1 [.int .i64 at', .int .i64 n] rfl rfl (one_cells _ _ _ _) (one_cell' _ _) (by unfold maxLen; omega) (by omega) (by have := HB3.out.size; simp; omega) ?_; intro v1 wz hown1 hg1 _ hat1; have R1 := Lib.hid (app_own (s := (at', n)) HV2.out HB3.out.size (only_alloc (only_refl w2 none) _) hown1 hg1); clear hown1 hg1 hat1; obtain ⟨A1, c1', rfl⟩ := R1.out.1.form))
        go_ret
        exact HF.out _ (HB.out.trans ((HB3.out.trans R1.out.2).mono HB.out.size)) _ _ _ R1.out.1 HNX.out
      | false =>
        go_wp2_with (go_at_call 13; refine (HCALL.out _).mono ?_; rintro e w2 ⟨rfl, g2⟩; have HV2 := Lib.hid (HV.out.only (only_trans (only_alloc (only_refl wr none) (.cells #[.int .i64 at', .int .i64 n] 23)) g2) (own_none_or _)); have HB3 := Lib.hid (HB2.out.trans (below_of_only (only_trans (only_alloc (only_refl wr none) (.cells #[.int .i64 at', .int .i64 n] 23)) g2) HB2.out.size (by simp))); clear g2)
        go_ret
        exact HF.out _ (HB.out.trans (HB3.out.mono HB.out.size)) _ _ _ HV2.out HNX.out
end Go.Proofs.Ytgineifljofljaa
