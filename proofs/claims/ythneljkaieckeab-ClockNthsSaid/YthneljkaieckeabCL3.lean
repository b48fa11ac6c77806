/- Plain facts: rising spans cut to a frame. And the offsets that a frame has: the contract. -/
import Derived.Test.YthneljkaieckeabCL2
import Derived.Test.YthneljkaieckeabY0
import Derived.Deep.RegionHeld3
namespace Go.Proofs.Ythneljkaieckeab
open Go.RowKit Go.Lib Go.Sort
set_option linter.unusedVariables false

/-- One more span, cut to a frame of f ticks. -/
def cStep (f : Int) (n : Nat) (p : Nat → Int × Int) (s : Int × Int) : Nat × (Nat → Int × Int) := if meetsB s (0, f) then (n + 1, So.upd p n (meetV s (0, f))) else (n, p)
def cTo (f : Int) (o : Nat → Int × Int) : Nat → Nat × (Nat → Int × Int)
  | 0 => (0, fun _ => (0, 0))
  | k + 1 => cStep f (cTo f o k).1 (cTo f o k).2 (o k)
theorem cStep_le (f : Int) (n : Nat) (p : Nat → Int × Int) (s : Int × Int) : (cStep f n p s).1 ≤ n + 1 := by unfold cStep; split <;> simp
theorem cTo_le (f : Int) (o : Nat → Int × Int) (k : Nat) : (cTo f o k).1 ≤ k := by
  induction k with
  | zero => simp [cTo]
  | succ k ih => have := cStep_le f (cTo f o k).1 (cTo f o k).2 (o k); show (cStep _ _ _ _).1 ≤ _; omega
structure Cutting (f : Int) (o : Nat → Int × Int) (k n : Nat) (p : Nat → Int × Int) : Prop where
  up : Rising n p
  ends : ∀ i, i < n → (p i).2 ≤ f
  from' : ∀ i, i < n → ∃ j, j < k ∧ (o j).1 ≤ (p i).1 ∧ (p i).2 ≤ (o j).2
  same : ∀ x, 0 ≤ x → x < f → inN p x n = inN o x k
theorem bothOf_in (s : Int × Int) (f : Int) (hm : meetsB s (0, f) = true) : s.1 ≤ (meetV s (0, f)).1 ∧ (meetV s (0, f)).2 ≤ s.2 := by
  unfold meetV
  rw [if_pos hm]
  simp only [bothOf]
  constructor <;> split <;> omega
theorem Cutting.step {f : Int} {o : Nat → Int × Int} {m k n : Nat} {p : Nat → Int × Int} (h : Cutting f o k n p) (ho : Rising m o) (hk : k < m) : Cutting f o (k + 1) (cStep f n p (o k)).1 (cStep f n p (o k)).2 := by
  unfold cStep
  by_cases hm : meetsB (o k) (0, f) = true
  · rw [if_pos hm]
    obtain ⟨q1, q2, q3⟩ := meet_in hm
    obtain ⟨q4, q5⟩ := bothOf_in (o k) f hm
    refine ⟨⟨fun i hi => ?_, fun i hi => ?_⟩, fun i hi => ?_, fun i hi => ?_, fun x x0 x1 => ?_⟩
    · by_cases e : i = n
      · subst e; simp [So.upd, isS]; exact ⟨q1, q2⟩
      · simp [So.upd, e]; exact h.up.1 i (by simp at hi; omega)
    · simp at hi
      by_cases e : i + 1 = n
      · subst e
        obtain ⟨j, hj, j1, j2⟩ := h.from' i (by omega)
        have := ho.far hj hk
        simp [So.upd]
        omega
      · simp [So.upd, e, show ¬ i = n by omega]; exact h.up.2 i (by omega)
    · by_cases e : i = n
      · subst e; simp [So.upd]; exact q3
      · simp [So.upd, e]; exact h.ends i (by simp at hi; omega)
    · by_cases e : i = n
      · subst e; simp [So.upd]; exact ⟨k, by omega, q4, q5⟩
      · simp [So.upd, e]
        obtain ⟨j, hj, j1, j2⟩ := h.from' i (by simp at hi; omega)
        exact ⟨j, by omega, j1, j2⟩
    · simp only [inN]
      rw [inN_same (o := So.upd p n (meetV (o k) (0, f))) (p := p) (fun i hi => by simp [So.upd, show ¬ i = n by omega]), h.same x x0 x1]
      simp only [So.upd, if_true]
      rw [meet_holds x0 x1]
  · rw [if_neg hm]
    have hm' : meetsB (o k) (0, f) = false := by simpa using hm
    refine ⟨h.up, h.ends, fun i hi => ?_, fun x x0 x1 => ?_⟩
    · obtain ⟨j, hj, j1, j2⟩ := h.from' i hi
      exact ⟨j, by omega, j1, j2⟩
    · simp only [inN]
      rw [h.same x x0 x1, meet_not hm' x0 x1, Bool.or_false]
theorem cutting {f : Int} {o : Nat → Int × Int} {m : Nat} (ho : Rising m o) (k : Nat) (hk : k ≤ m) : Cutting f o k (cTo f o k).1 (cTo f o k).2 := by
  induction k with
  | zero => exact ⟨⟨fun i hi => by simp [cTo] at hi, fun i hi => by simp [cTo] at hi⟩, fun i hi => by simp [cTo] at hi, fun i hi => by simp [cTo] at hi, fun x _ _ => rfl⟩
  | succ k ih => exact (ih (by omega)).step ho (by omega)
theorem Cutting.whole {f : Int} {o : Nat → Int × Int} {k n : Nat} {p : Nat → Int × Int} (h : Cutting f o k n p) (x : Int) : inN p x n = (decide (0 ≤ x ∧ x < f) && inN o x k) := by
  by_cases c : 0 ≤ x ∧ x < f
  · rw [h.same x c.1 c.2]; simp [c]
  · have : inN p x n = false := by
      rw [← Bool.not_eq_true, inN_iff]
      rintro ⟨i, hi, q⟩
      rw [holdsB_iff] at q
      have := h.ends i hi
      omega
    rw [this]; simp [c]

/-- The offsets of a frame of f ticks that are in one of some spans, as rising spans. -/
def FrameV (B len : Nat) (f : Int) (d : Nat → Int × Int) (w : World) (e : Ending) (w' : World) : Prop :=
  ∃ v n o, e = .returned v ∧ RowV w' B v n o ∧ n ≤ len ∧ Rising n o ∧ (∀ i, i < n → (o i).2 ≤ f) ∧ (∀ x, inN o x n = (rightB f && decide (0 ≤ x ∧ x < f) && inN d x len)) ∧ Below B w w'

/-- What an append of one span to the call's own spans leaves. -/
theorem app_own {B n : Nat} {v v1 : Value} {o : Nat → Int × Int} {s : Int × Int} {W W' wz : World} (hV : RowV W B v n o) (hB : B ≤ W.heap.size) (hW : W.grownBy W' none)
    (hown : wz.ownsRow B 31 2 v1 (n + 1) (spCells n o ++ [.int .i64 s.1, .int .i64 s.2])) (hg : W'.grownBy wz v.ownBlock) :
    RowV wz B v1 (n + 1) (So.upd o n s) ∧ Below B W wz := by
  rw [spCells_upd] at hown
  exact ⟨row_of_own hown, (below_of_only hW hB (by simp)).trans (below_of_only hg (Nat.le_trans hB hW.size) (fun k hk => (hV.blk k hk).1))⟩
theorem RowV.far {w w' : World} {B n : Nat} {v : Value} {d : Nat → Int × Int} (h : RowV w B v n d) (hb : Below w.heap.size w w') : RowV w' B v n d := h.only (only_far hb) (own_none_or _)

set_option maxRecDepth 100000 in
set_option maxHeartbeats 3200000 in
theorem inFrame_any (f : Int) (A : Option Addr) (len cap : Nat) (d : Nat → Int × Int) (w : World) (hsp : Spans w A len cap d) (hl : len ≤ 1000000) (hok : StableOK len) :
    Calls Try.prog 28 #[.int .i64 f, .slice A len cap] w (FrameV w.heap.size len f d w) := by
  obtain ⟨i0, hi0, hz0, hz1, hz2⟩ := info_parts span_info
  have hc := right_any f w
  by_cases hf : rightB f = true
  · have HM := Lib.hid (merge_any A len cap d w hsp hl hok)
    rw [hf] at hc
    have HC := Lib.hid hc
    clear hc hsp hok
    go_enter Try.func28, Try.ntmps28
    go_wp2_with (go_at_call 9; refine HC.out.mono ?_; rintro e w' ⟨rfl, rfl⟩)
    refine HM.out.mono ?_
    rintro e w1 ⟨v, d', rfl, hv, hp, hs, hb⟩
    have hmle := mTo_le d' len
    have mg := merging hs len (Nat.le_refl _)
    have hfin : ∀ W, Below w.heap.size w W → ∀ v n p, RowV W w.heap.size v n p → cTo f (mTo d' len).2 (mTo d' len).1 = (n, p) → FrameV w.heap.size len f d w (.returned v) W := by
      intro W hW v n p hV hE
      have c := cutting (f := f) (o := (mTo d' len).2) ⟨mg.are, mg.rise⟩ (mTo d' len).1 (Nat.le_refl _)
      have le := cTo_le f (mTo d' len).2 (mTo d' len).1
      rw [hE] at c le
      refine ⟨v, n, p, rfl, hV, by simp only at le; omega, c.up, c.ends, fun x => ?_, hW⟩
      rw [c.whole x, mg.same, inN_perm hp, hf, Bool.true_and]
    have HF := Lib.hid hfin
    have HB := Lib.hid hb
    clear hp hs hb mg hfin HM
    generalize (mTo d' len).1 = n at *
    generalize (mTo d' len).2 = o at *
    rcases hv with ⟨rfl, rfl⟩ | ⟨g, cap1, rfl, hgB, hrow⟩
    · go_wp2
      refine wp_loop_rounds 1 ?_
      rw [rounds_succ]
      go_wp2
      go_ret
      exact HF.out _ HB.out _ 0 _ (.inl ⟨rfl, rfl⟩) rfl
    · go_wp2
      go_loopw [5, 17] (fun v i wr => ∃ (k m : Nat) (p : Nat → Int × Int), i = .int .i64 k ∧ k ≤ n ∧ m ≤ k ∧ Hid (cTo f o k = (m, p)) ∧ RowV wr w.heap.size v m p ∧ v.ownBlock ≠ some g ∧ RowS wr g n cap1 o ∧ Below w.heap.size w wr) (fun _ i _ => n - (intOf i).toNat)
      case atStart => exact ⟨0, 0, _, rfl, by omega, by omega, rfl, .inl ⟨rfl, rfl⟩, by simp [Value.ownBlock], hrow, HB.out⟩
      case round =>
        obtain ⟨k, m, p, rfl, hk, hmk, HM, hv, hvg, hrow2, hb2⟩ := hrel
        have HV := Lib.hid hv
        have HVG := Lib.hid hvg
        have HROW := Lib.hid hrow2
        have HB2 := Lib.hid hb2
        clear hv hvg hrow2 hb2 hrow HB
        obtain ⟨Ao, co, rfl⟩ := HV.out.form
        by_cases hkl : k < n
        · have c0 := HROW.out.fst hkl
          have c1 := HROW.out.snd hkl
          have i1 : (k : Int) < (n : Int) := by omega
          have hnx : cTo f o (k + 1) = cStep f m p (o k) := by
            show cStep f (cTo f o k).1 (cTo f o k).2 (o k) = _
            rw [HM.out]
          obtain ⟨s, hs⟩ : ∃ s, s = o k := ⟨_, rfl⟩
          rw [← hs] at c0 c1 hnx
          obtain ⟨r, hr⟩ : ∃ r, r = meetsB s (0, f) := ⟨_, rfl⟩
          obtain ⟨y, hy⟩ : ∃ y, y = meetV s (0, f) := ⟨_, rfl⟩
          have hnx2 : cTo f o (k + 1) = if r then (m + 1, So.upd p m y) else (m, p) := by rw [hnx, cStep, ← hr, ← hy]
          have HNX := Lib.hid hnx2
          have hcall : ∀ W, Calls Try.prog 24 #[spv s, spv (0, f)] W fun e w' => e = .returned (.tuple #[spv y, .bool r]) ∧ W.grownBy w' none := fun W => by rw [hr, hy]; exact meet_any s (0, f) W
          have HCALL := Lib.hid hcall
          clear hnx hnx2 hs hr hy hcall
          obtain ⟨s1, s2⟩ := s
          simp only at c0 c1
          go_wp2_with (fail)
          go_region_held3 (fun w' => w'.cell? ⟨wr.heap.size, 0, none⟩ = some (.int .i64 s1) ∧ w'.cell? ⟨wr.heap.size, 1, none⟩ = some (.int .i64 s2)) (first | exact ⟨k0, k1⟩ | exact ⟨e0, e1⟩ | go_keep) (first
            | (go_at_call 25; refine (whole_any _ _).mono ?_; rintro e w2 ⟨rfl, g2⟩; have hS := (show Blk (wr.alloc (.cells #[.int .i64 s1, .int .i64 s2] 31)).drew wr.heap.size 31 #[.int .i64 s1, .int .i64 s2] from Blk.new wr _ _).only g2 (by simp); have e0 := hS.cell 0; have e1 := hS.cell 1; simp at e0 e1; have HS := Lib.hid hS; have nz : ¬ wr.heap.size = w2.heap.size := (by have := g2.size; simp at this; omega); have nz2 : ¬ w2.heap.size = wr.heap.size := (by omega); have HG2 := Lib.hid g2; clear hS)
            | (go_at_call 25; refine (whole_any _ _).mono ?_; rintro e w2 ⟨rfl, g2⟩; have hS := ((show Blk (wr.alloc (.cells #[.int .i64 s1, .int .i64 s2] 31)).drew wr.heap.size 31 #[.int .i64 s1, .int .i64 s2] from Blk.new wr _ _).alloc (.cells #[.int .i64 0, .int .i64 0] 31)).only g2 (by simp); have e0 := hS.cell 0; have e1 := hS.cell 1; simp at e0 e1; have HS := Lib.hid hS; have HZ := Lib.hid ((Blk.new (wr.alloc (.cells #[.int .i64 s1, .int .i64 s2] 31)).drew 31 #[.int .i64 0, .int .i64 0]).only g2 (by simp)); have nz : ¬ wr.heap.size = w2.heap.size := (by have := g2.size; simp at this; omega); have nz2 : ¬ w2.heap.size = wr.heap.size := (by omega); have HG2 := Lib.hid g2; clear hS)
            | (go_at_call 24; refine (HCALL.out w2).mono ?_; rintro e w3 ⟨rfl, g3⟩; have HZ3 := Lib.hid (HZ.out.only g3 (by simp)); have z0 := HZ3.out.cell 0; have z1 := HZ3.out.cell 1; have y0 := HZ3.out.free 0; have y1 := HZ3.out.free 1; simp at z0 z1 y0 y1; have hS3 := HS.out.only g3 (by simp); have k0 := hS3.cell 0; have k1 := hS3.cell 1; simp at k0 k1; have HG3 := Lib.hid g3; clear hS3)
            | (go_at_call 24; refine (HCALL.out w2).mono ?_; rintro e w3 ⟨rfl, g3⟩; have hS3 := HS.out.only g3 (by simp); have k0 := hS3.cell 0; have k1 := hS3.cell 1; simp at k0 k1; have HG3 := Lib.hid g3; clear hS3)
            | (go_at_call 24; refine (HCALL.out (w2.alloc (.cells #[.int .i64 0, .int .i64 0] 31))).mono ?_; rintro e w3 ⟨rfl, g3⟩; have HZ3 := Lib.hid ((Blk.new w2 31 #[.int .i64 0, .int .i64 0]).only g3 (by simp)); have z0 := HZ3.out.cell 0; have z1 := HZ3.out.cell 1; have y0 := HZ3.out.free 0; have y1 := HZ3.out.free 1; simp at z0 z1 y0 y1; have hS3 := (HS.out.alloc (.cells #[.int .i64 0, .int .i64 0] 31)).only g3 (by simp); have k0 := hS3.cell 0; have k1 := hS3.cell 1; simp at k0 k1; have HG3 := Lib.hid g3; clear hS3))
          · have hb := (below_of_only HG3.out (Nat.le_of_lt (by have := HG2.out.size; simp at this; omega)) (by simp) : Below wr.heap.size w2 w3)
            have hb2 := (below_of_only HG2.out (by simp) (by simp) : Below wr.heap.size (wr.alloc (.cells #[.int .i64 s1, .int .i64 s2] 31)).drew w2)
            have hb1 := below_drewN ((Below.refl wr.heap.size wr).alloc (Nat.le_refl _) (.cells #[.int .i64 s1, .int .i64 s2] 31)) 1
            have HBF := Lib.hid (((hb1.trans hb2).trans hb).alloc (Nat.le_trans (hb1.trans hb2).size hb.size) (.cells #[.int .i64 y.1, .int .i64 y.2] 31))
            have HY := Lib.hid (Blk.new w3 31 #[.int .i64 y.1, .int .i64 y.2])
            clear hb hb2 hb1 k0 k1 e0 e1 nz nz2 HS HG2 HG3
            generalize w3.alloc (.cells #[.int .i64 y.1, .int .i64 y.2] 31) = wf at *
            generalize w3.heap.size = bb at *
            have HVF := Lib.hid (HV.out.far HBF.out)
            have HROWF := Lib.hid (HROW.out.below HBF.out)
            have HB3 := Lib.hid (HB2.out.trans (HBF.out.mono HB2.out.size))
            have j0 := HY.out.cell 0
            have j1 := HY.out.cell 1
            simp at j0 j1
            clear c0 c1 HBF HROW HB2
            cases r with
            | true =>
              go_wp2_with (at_builtin; refine wpList_append_own_at _ rfl (.tmp 29) (.tmp 31) 35 rfl w.heap.size 31 i0 _ 2 16 Try.underlying35 hi0 hz0 hz1 hz2 rfl (by decide) (.slice Ao m co) m (spCells m p) rfl (by exact World.ownsRow.alloc (w := wf) (own_of_row HVF.out) _) ⟨wf.heap.size, 0, none⟩ 1 1 [.int .i64 y.1, .int .i64 y.2] rfl rfl (one_cells _ _ _ _) (one_cell' _ _) (by unfold maxLen; omega) (by omega) (by have := HB3.out.size; simp; omega) ?_; intro v1 wz hown1 hg1 _ hat1; have R1 := Lib.hid (app_row (s := y) HVF.out HROWF.out HVG.out HB3.out.size (only_alloc (only_refl wf none) _) hown1 hg1 (by simp) hat1); clear hown1 hg1 hat1; obtain ⟨A1, c1, rfl⟩ := R1.out.1.form)
              go_roundw
              case rel => exact ⟨k + 1, _, _, by go_num, by omega, by omega, Lib.hid HNX.out, R1.out.1, R1.out.2.1, R1.out.2.2.1, HB3.out.trans R1.out.2.2.2⟩
              case measure => simp [intOf] <;> omega
            | false =>
              go_wp2
              go_roundw
              case rel => exact ⟨k + 1, m, p, by go_num, by omega, by omega, Lib.hid HNX.out, HVF.out, HVG.out, HROWF.out, HB3.out⟩
              case measure => simp [intOf] <;> omega
          · have hb := (below_of_only HG3.out (by have := HG2.out.size; simp at this ⊢; omega) (by simp) : Below wr.heap.size (w2.alloc (.cells #[.int .i64 0, .int .i64 0] 31)) w3)
            have hb2 := (below_of_only HG2.out (by simp) (by simp) : Below wr.heap.size (wr.alloc (.cells #[.int .i64 s1, .int .i64 s2] 31)).drew w2)
            have hb1 := below_drewN ((Below.refl wr.heap.size wr).alloc (Nat.le_refl _) (.cells #[.int .i64 s1, .int .i64 s2] 31)) 1
            have HBF := Lib.hid (((((hb1.trans hb2).alloc (hb1.trans hb2).size (.cells #[.int .i64 0, .int .i64 0] 31)).trans hb).setCell (p := ⟨w2.heap.size, 0, none⟩) (hb1.trans hb2).size (.int .i64 y.1)).setCell (p := ⟨w2.heap.size, 1, none⟩) (hb1.trans hb2).size (.int .i64 y.2))
            have hy := (HZ3.out.put 0 (.int .i64 y.1)).put 1 (.int .i64 y.2)
            simp at hy
            have HY := Lib.hid hy
            clear hb hb2 hb1 hy k0 k1 e0 e1 nz nz2 HS HG2 HG3 HZ3 z0 z1 y0 y1
            generalize (w3.setCell ⟨w2.heap.size, 0, none⟩ (.int .i64 y.1)).setCell ⟨w2.heap.size, 1, none⟩ (.int .i64 y.2) = wf at *
            generalize w2.heap.size = bb at *
            have HVF := Lib.hid (HV.out.far HBF.out)
            have HROWF := Lib.hid (HROW.out.below HBF.out)
            have HB3 := Lib.hid (HB2.out.trans (HBF.out.mono HB2.out.size))
            have j0 := HY.out.cell 0
            have j1 := HY.out.cell 1
            simp at j0 j1
            clear c0 c1 HBF HROW HB2
            cases r with
            | true =>
              go_wp2_with (at_builtin; refine wpList_append_own_at _ rfl (.tmp 29) (.tmp 31) 35 rfl w.heap.size 31 i0 _ 2 16 Try.underlying35 hi0 hz0 hz1 hz2 rfl (by decide) (.slice Ao m co) m (spCells m p) rfl (by exact World.ownsRow.alloc (w := wf) (own_of_row HVF.out) _) ⟨wf.heap.size, 0, none⟩ 1 1 [.int .i64 y.1, .int .i64 y.2] rfl rfl (one_cells _ _ _ _) (one_cell' _ _) (by unfold maxLen; omega) (by omega) (by have := HB3.out.size; simp; omega) ?_; intro v1 wz hown1 hg1 _ hat1; have R1 := Lib.hid (app_row (s := y) HVF.out HROWF.out HVG.out HB3.out.size (only_alloc (only_refl wf none) _) hown1 hg1 (by simp) hat1); clear hown1 hg1 hat1; obtain ⟨A1, c1, rfl⟩ := R1.out.1.form)
              go_roundw
              case rel => exact ⟨k + 1, _, _, by go_num, by omega, by omega, Lib.hid HNX.out, R1.out.1, R1.out.2.1, R1.out.2.2.1, HB3.out.trans R1.out.2.2.2⟩
              case measure => simp [intOf] <;> omega
            | false =>
              go_wp2
              go_roundw
              case rel => exact ⟨k + 1, m, p, by go_num, by omega, by omega, Lib.hid HNX.out, HVF.out, HVG.out, HROWF.out, HB3.out⟩
              case measure => simp [intOf] <;> omega
          · have hb2 := (below_of_only HG2.out (by simp; omega) (by simp) : Below wr.heap.size ((wr.alloc (.cells #[.int .i64 s1, .int .i64 s2] 31)).drew.alloc (.cells #[.int .i64 0, .int .i64 0] 31)) w2)
            have hb := (below_of_only HG3.out (by have := HG2.out.size; simp at this; omega) (by simp) : Below wr.heap.size w2 w3)
            have hb1 := (below_drewN ((Below.refl wr.heap.size wr).alloc (Nat.le_refl _) (.cells #[.int .i64 s1, .int .i64 s2] 31)) 1).alloc (by simp) (.cells #[.int .i64 0, .int .i64 0] 31)
            have HBF := Lib.hid ((((hb1.trans hb2).trans hb).setCell (p := ⟨wr.heap.size + 1, 0, none⟩) (by simp) (.int .i64 y.1)).setCell (p := ⟨wr.heap.size + 1, 1, none⟩) (by simp) (.int .i64 y.2))
            have hy := (HZ3.out.put 0 (.int .i64 y.1)).put 1 (.int .i64 y.2)
            simp at hy
            have HY := Lib.hid hy
            clear hb hb2 hb1 hy k0 k1 e0 e1 nz nz2 HS HG2 HG3 HZ3 HZ z0 z1 y0 y1
            generalize (w3.setCell ⟨wr.heap.size + 1, 0, none⟩ (.int .i64 y.1)).setCell ⟨wr.heap.size + 1, 1, none⟩ (.int .i64 y.2) = wf at *
            generalize wr.heap.size + 1 = bb at *
            have HVF := Lib.hid (HV.out.far HBF.out)
            have HROWF := Lib.hid (HROW.out.below HBF.out)
            have HB3 := Lib.hid (HB2.out.trans (HBF.out.mono HB2.out.size))
            have j0 := HY.out.cell 0
            have j1 := HY.out.cell 1
            simp at j0 j1
            clear c0 c1 HBF HROW HB2
            cases r with
            | true =>
              go_wp2_with (at_builtin; refine wpList_append_own_at _ rfl (.tmp 29) (.tmp 31) 35 rfl w.heap.size 31 i0 _ 2 16 Try.underlying35 hi0 hz0 hz1 hz2 rfl (by decide) (.slice Ao m co) m (spCells m p) rfl (by exact World.ownsRow.alloc (w := wf) (own_of_row HVF.out) _) ⟨wf.heap.size, 0, none⟩ 1 1 [.int .i64 y.1, .int .i64 y.2] rfl rfl (one_cells _ _ _ _) (one_cell' _ _) (by unfold maxLen; omega) (by omega) (by have := HB3.out.size; simp; omega) ?_; intro v1 wz hown1 hg1 _ hat1; have R1 := Lib.hid (app_row (s := y) HVF.out HROWF.out HVG.out HB3.out.size (only_alloc (only_refl wf none) _) hown1 hg1 (by simp) hat1); clear hown1 hg1 hat1; obtain ⟨A1, c1, rfl⟩ := R1.out.1.form)
              go_roundw
              case rel => exact ⟨k + 1, _, _, by go_num, by omega, by omega, Lib.hid HNX.out, R1.out.1, R1.out.2.1, R1.out.2.2.1, HB3.out.trans R1.out.2.2.2⟩
              case measure => simp [intOf] <;> omega
            | false =>
              go_wp2
              go_roundw
              case rel => exact ⟨k + 1, m, p, by go_num, by omega, by omega, Lib.hid HNX.out, HVF.out, HVG.out, HROWF.out, HB3.out⟩
              case measure => simp [intOf] <;> omega
        · obtain rfl : k = n := by omega
          go_wp2
          go_ret
          exact HF.out _ HB2.out _ _ _ HV.out HM.out
  · have hff : rightB f = false := by simpa using hf
    rw [hff] at hc
    have HC := Lib.hid hc
    clear hc hf
    go_enter Try.func28, Try.ntmps28
    go_wp2_with (go_at_call 9; refine HC.out.mono ?_; rintro e w' ⟨rfl, rfl⟩)
    go_ret
    exact ⟨_, 0, fun _ => (0, 0), rfl, .inl ⟨rfl, rfl⟩, by omega, ⟨fun i hi => by omega, fun i hi => by omega⟩, fun i hi => by omega, fun x => by rw [hff]; simp [inN], Below.refl _ _⟩
end Go.Proofs.Ythneljkaieckeab
