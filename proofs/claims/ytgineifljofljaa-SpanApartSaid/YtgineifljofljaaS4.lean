/- Is and Merge: their contracts. -/
import Derived.Test.YtgineifljofljaaS3
import Derived.Maps.AppendAt
namespace Go.Proofs.Ytgineifljofljaa
open Go.RowKit Go.Lib Go.Sort
set_option linter.unusedVariables false

theorem is_yes (p : Int × Int) (w : World) (h0 : 0 ≤ p.1) (h1 : p.1 < p.2) : Calls Try.prog 13 #[spv p] w fun e w' => e = .returned (.bool true) ∧ w.grownBy w' none := by
  obtain ⟨a, b⟩ := p
  simp only at h0 h1
  go_enter Try.func13, Try.ntmps13
  go_wp2
  go_ret
  exact ⟨rfl, only_alloc (only_refl _ _) _⟩
theorem is_no (p : Int × Int) (w : World) (h : ¬ (0 ≤ p.1 ∧ p.1 < p.2)) : Calls Try.prog 13 #[spv p] w fun e w' => e = .returned (.bool false) ∧ w.grownBy w' none := by
  obtain ⟨a, b⟩ := p
  simp only at h
  by_cases h0 : 0 ≤ a
  · have h1 : ¬ a < b := fun h' => h ⟨h0, h'⟩
    clear h
    go_enter Try.func13, Try.ntmps13
    go_wp2
    go_ret
    exact ⟨rfl, only_alloc (only_refl _ _) _⟩
  · clear h
    go_enter Try.func13, Try.ntmps13
    go_wp2
    go_ret
    exact ⟨rfl, only_alloc (only_refl _ _) _⟩

/-- Is it a span? -/
def isS (p : Int × Int) : Prop := 0 ≤ p.1 ∧ p.1 < p.2
instance (p : Int × Int) : Decidable (isS p) := inferInstanceAs (Decidable (0 ≤ p.1 ∧ p.1 < p.2))

/-- One more span, in order, put to what is merged: how many there are, and which. -/
def mStep (n : Nat) (o : Nat → Int × Int) (s : Int × Int) : Nat × (Nat → Int × Int) :=
  if isS s then (if 0 < n ∧ s.1 ≤ (o (n - 1)).2 then (n, So.upd o (n - 1) ((o (n - 1)).1, max (o (n - 1)).2 s.2)) else (n + 1, So.upd o n s)) else (n, o)
def mTo (d : Nat → Int × Int) : Nat → Nat × (Nat → Int × Int)
  | 0 => (0, fun _ => (0, 0))
  | k + 1 => mStep (mTo d k).1 (mTo d k).2 (d k)
theorem mStep_le (n : Nat) (o : Nat → Int × Int) (s : Int × Int) : (mStep n o s).1 ≤ n + 1 := by
  unfold mStep; split <;> (try split) <;> simp
theorem mTo_le (d : Nat → Int × Int) (k : Nat) : (mTo d k).1 ≤ k := by
  induction k with
  | zero => simp [mTo]
  | succ k ih => have := mStep_le (mTo d k).1 (mTo d k).2 (d k); show (mStep _ _ _).1 ≤ _; omega

/-- What Merge leaves. -/
def MergedV (B n : Nat) (d : Nat → Int × Int) (w : World) (e : Ending) (w' : World) : Prop :=
  ∃ v d', e = .returned v ∧ RowV w' B v (mTo d' n).1 (mTo d' n).2 ∧ So.Perm 0 n d d' ∧ So.Sorted d' 0 n ∧ Below B w w'

theorem RowV.only {w w' : World} {B n : Nat} {v : Value} {d : Nat → Int × Int} {row : Option Nat} (h : RowV w B v n d) (hb : w.grownBy w' row) (hne : v.ownBlock = none ∨ v.ownBlock ≠ row) : RowV w' B v n d := by
  rcases h with ⟨rfl, rfl⟩ | ⟨g, cap, rfl, hB, hr⟩
  · exact .inl ⟨rfl, rfl⟩
  · exact .inr ⟨g, cap, rfl, hB, hr.only hb (by simpa [Value.ownBlock] using hne.symm)⟩
theorem RowV.form {w : World} {B n : Nat} {v : Value} {d : Nat → Int × Int} (h : RowV w B v n d) : ∃ A c, v = .slice A n c := by
  rcases h with ⟨rfl, rfl⟩ | ⟨g, cap, rfl, _⟩
  · exact ⟨_, _, rfl⟩
  · exact ⟨_, _, rfl⟩
theorem RowV.blk {w : World} {B n : Nat} {v : Value} {d : Nat → Int × Int} (h : RowV w B v n d) : ∀ k, v.ownBlock = some k → B ≤ k ∧ k < w.heap.size := by
  intro k hk
  rcases h with ⟨rfl, rfl⟩ | ⟨g, cap, rfl, hB, hr⟩
  · simp [Value.ownBlock] at hk
  · simp [Value.ownBlock] at hk
    subst hk
    exact ⟨hB, hr.lt⟩

theorem spCells_upd (n : Nat) (o : Nat → Int × Int) (s : Int × Int) : spCells n o ++ [.int .i64 s.1, .int .i64 s.2] = spCells (n + 1) (So.upd o n s) := by
  rw [spCells_succ]
  have h1 : So.upd o n s n = s := by simp [So.upd]
  have h2 : spCells n (So.upd o n s) = spCells n o := by
    unfold spCells
    rw [List.flatMap_def, List.flatMap_def]
    congr 1
    apply List.map_congr_left
    intro i hi
    have : i ≠ n := by have := List.mem_range.1 hi; omega
    simp [So.upd, this]
  rw [h1, h2]

/-- What an append of one span to the call's own spans leaves. -/
theorem app_row {B g n len cap1 : Nat} {v v1 : Value} {o d' : Nat → Int × Int} {s : Int × Int} {W W' wz : World} (hV : RowV W B v n o) (hR : RowS W g len cap1 d') (hvg : v.ownBlock ≠ some g) (hB : B ≤ W.heap.size) (hW : W.grownBy W' none)
    (hown : wz.ownsRow B 23 2 v1 (n + 1) (spCells n o ++ [.int .i64 s.1, .int .i64 s.2])) (hg : W'.grownBy wz v.ownBlock) {z : Nat} (hz : W.heap.size ≤ z) (hat : v1.ownBlock = v.ownBlock ∨ v1.ownBlock = some z) :
    RowV wz B v1 (n + 1) (So.upd o n s) ∧ v1.ownBlock ≠ some g ∧ RowS wz g len cap1 d' ∧ Below B W wz := by
  rw [spCells_upd] at hown
  refine ⟨row_of_own hown, ?_, (hR.only hW (by simp)).only hg (fun e => hvg e.symm), (below_of_only hW hB (by simp)).trans (below_of_only hg (Nat.le_trans hB hW.size) (fun k hk => (hV.blk k hk).1))⟩
  rcases hat with h | h
  · rw [h]; exact hvg
  · rw [h]
    intro e
    injection e with e
    have h1 := hR.lt
    omega

/-- The last of the call's own spans gets another end. -/
theorem put_to {w : World} {B h m co : Nat} {o : Nat → Int × Int} (hR : RowS w h (m + 1) co o) (hB : B ≤ h) {v : Int} (nq : Nat) :
    RowV ((w.drewN (nq + 1)).setCell ⟨h, m * 2 + 1, none⟩ (.int .i64 v)) B (.slice (some ⟨h, 0, none⟩) (m + 1) co) (m + 1) (So.upd o m ((o m).1, v)) ∧ w.grownBy ((w.drewN (nq + 1)).setCell ⟨h, m * 2 + 1, none⟩ (.int .i64 v)) (some h) := by
  refine ⟨.inr ⟨h, co, rfl, hB, ?_⟩, only_put (only_drewN (only_refl _ _) _) _ _⟩
  obtain ⟨cur, h1, h2, h3, h4⟩ := hR
  refine ⟨cur.setIfInBounds (m * 2 + 1) (.int .i64 v), ?_, h2, by simpa using h3, fun k hk => ?_⟩
  · have h1' : (w.drewN (nq + 1)).heap[h]? = some (.cells cur 23 (0, 0)) := h1
    simp only [World.setCell, Array.getElem?_modify, h1']
    simp
  · obtain ⟨e1, e2⟩ := h4 k hk
    have s1 : k * 2 + 1 < cur.size := (Array.getElem?_eq_some_iff.1 e2).1
    by_cases hkm : k = m
    · subst hkm
      have n1 : ¬ k * 2 + 1 = k * 2 := by omega
      simp [Array.getElem?_setIfInBounds, So.upd, s1, n1, e1]
    · have n1 : ¬ m * 2 + 1 = k * 2 := by omega
      have n2 : ¬ m * 2 + 1 = k * 2 + 1 := by omega
      simp [Array.getElem?_setIfInBounds, So.upd, hkm, n1, n2, e1, e2]
      intro h'
      omega

theorem own_none_or (v : Value) : v.ownBlock = none ∨ v.ownBlock ≠ none := by cases hv : v.ownBlock <;> simp

set_option maxHeartbeats 3200000 in
theorem merge_any (A : Option Addr) (len cap : Nat) (d : Nat → Int × Int) (w : World) (hsp : Spans w A len cap d) (hl : len ≤ 1000000) (hok : StableOK len) :
    Calls Try.prog 24 #[.slice A len cap] w (MergedV w.heap.size len d w) := by
  obtain ⟨i0, hi0, hz0, hz1, hz2⟩ := info_parts span_info
  have hso := sorted_any A len cap d w hsp hl hok
  have HSO := Lib.hid hso
  clear hso hsp hok
  go_enter Try.func24, Try.ntmps24
  go_wp2_with fail
  refine HSO.out.mono ?_
  rintro e w1 ⟨v, d', rfl, hv, hp, hs, hb⟩
  have HP := Lib.hid hp
  have HS := Lib.hid hs
  have HB := Lib.hid hb
  clear hp hs hb HSO
  rcases hv with ⟨rfl, rfl⟩ | ⟨g, cap1, rfl, hgB, hrow⟩
  · go_wp2
    refine wp_loop_rounds 1 ?_
    rw [rounds_succ]
    go_wp2
    go_ret
    exact ⟨_, d', rfl, .inl ⟨rfl, rfl⟩, HP.out, HS.out, HB.out⟩
  · go_wp2
    go_loopw [3, 10] (fun v i wr => ∃ (k n : Nat) (o : Nat → Int × Int), i = .int .i64 k ∧ k ≤ len ∧ n ≤ k ∧ Hid (mTo d' k = (n, o)) ∧ RowV wr w.heap.size v n o ∧ v.ownBlock ≠ some g ∧ RowS wr g len cap1 d' ∧ Below w.heap.size w wr) (fun _ i _ => len - (intOf i).toNat)
    case atStart => exact ⟨0, 0, _, rfl, by omega, by omega, rfl, .inl ⟨rfl, rfl⟩, by simp [Value.ownBlock], hrow, HB.out⟩
    case round =>
      obtain ⟨k, n, o, rfl, hk, hnk, HM, hv, hvg, hrow2, hb2⟩ := hrel
      have HV := Lib.hid hv
      have HVG := Lib.hid hvg
      have HROW := Lib.hid hrow2
      have HB2 := Lib.hid hb2
      clear hv hvg hrow2 hb2 hrow HB
      by_cases hkl : k < len
      · have c0 := HROW.out.fst hkl
        have c1 := HROW.out.snd hkl
        obtain ⟨s, hs⟩ : ∃ s, s = d' k := ⟨_, rfl⟩
        rw [← hs] at c0 c1
        have hnx : mTo d' (k + 1) = mStep n o s := by
          show mStep (mTo d' k).1 (mTo d' k).2 (d' k) = _
          rw [HM.out, hs]
        have HNX := Lib.hid hnx
        clear hnx hs
        obtain ⟨p, q⟩ := s
        simp only at c0 c1
        by_cases hi : isS (p, q)
        · obtain ⟨Ao, co, rfl⟩ := HV.out.form
          by_cases hn : 0 < n
          · rcases HV.out with ⟨_, rfl⟩ | ⟨h, co2, hv2, hhB, hho⟩
            · omega
            · obtain ⟨rfl, rfl⟩ : Ao = some ⟨h, 0, none⟩ ∧ co = co2 := by injection hv2 with e1 e2 e3; exact ⟨e1, e3⟩
              obtain ⟨m, rfl⟩ : ∃ m, n = m + 1 := ⟨n - 1, by omega⟩
              have HO := Lib.hid hho
              clear hho hv2
              have i1 : (m : Int) < (m : Int) + 1 := by omega
              by_cases hle : p ≤ (o m).2
              · by_cases hmx : (o m).2 < q
                · have hnx2 : mTo d' (k + 1) = (m + 1, So.upd o m ((o m).1, q)) := by rw [HNX.out]; simp [mStep, hi, hle, Int.max_eq_right (Int.le_of_lt hmx)]
                  have HN2 := Lib.hid hnx2
                  clear hnx2
                  go_wp2_with (go_at_call 13; refine (is_yes (p, q) _ hi.1 hi.2).mono ?_; rintro e w2 ⟨rfl, g2⟩; have hblk := (Blk.new wr 23 #[.int .i64 p, .int .i64 q]).only g2 (by simp); have e0 := hblk.cell 0; have e1 := hblk.cell 1; simp at e0 e1; have G3 := Lib.hid (only_trans (only_alloc (only_refl _ _) _) g2 : wr.grownBy w2 none); have HV2 := Lib.hid (HV.out.only G3.out (own_none_or _)); have HROW2 := Lib.hid (HROW.out.only G3.out (by simp)); have HB3 := Lib.hid (HB2.out.trans (below_of_only G3.out HB2.out.size (by simp))); have HO2 := Lib.hid (HO.out.only G3.out (by simp)); have l0 := HO2.out.snd (show m < m + 1 by omega); have l1 := HO2.out.free (m * 2 + 1); have hne := Nat.ne_of_lt HO.out.lt; clear hblk g2)
                  go_quiet (fail)
                  go_wp2
                  go_region
                  all_goals
                    go_wp2
                    go_roundw
                    case rel =>
                      have R := put_to HO2.out hhB (v := q) nq
                      exact ⟨k + 1, _, _, by go_num, by omega, by omega, HN2.out, R.1, HVG.out, HROW2.out.only R.2 (fun e => HVG.out e.symm), HB3.out.trans (below_of_only R.2 HB3.out.size (fun k hk => by injection hk with hk; omega))⟩
                    case measure => simp [intOf] <;> omega
                · have hnx2 : mTo d' (k + 1) = (m + 1, So.upd o m ((o m).1, (o m).2)) := by rw [HNX.out]; simp [mStep, hi, hle, Int.max_eq_left (Int.not_lt.1 hmx)]
                  have HN2 := Lib.hid hnx2
                  clear hnx2
                  go_wp2_with (go_at_call 13; refine (is_yes (p, q) _ hi.1 hi.2).mono ?_; rintro e w2 ⟨rfl, g2⟩; have hblk := (Blk.new wr 23 #[.int .i64 p, .int .i64 q]).only g2 (by simp); have e0 := hblk.cell 0; have e1 := hblk.cell 1; simp at e0 e1; have G3 := Lib.hid (only_trans (only_alloc (only_refl _ _) _) g2 : wr.grownBy w2 none); have HV2 := Lib.hid (HV.out.only G3.out (own_none_or _)); have HROW2 := Lib.hid (HROW.out.only G3.out (by simp)); have HB3 := Lib.hid (HB2.out.trans (below_of_only G3.out HB2.out.size (by simp))); have HO2 := Lib.hid (HO.out.only G3.out (by simp)); have l0 := HO2.out.snd (show m < m + 1 by omega); have l1 := HO2.out.free (m * 2 + 1); have hne := Nat.ne_of_lt HO.out.lt; clear hblk g2)
                  go_quiet (fail)
                  go_wp2
                  go_region
                  all_goals
                    go_wp2
                    go_roundw
                    case rel =>
                      have R := put_to HO2.out hhB (v := ((o m).2 : Int)) nq
                      exact ⟨k + 1, _, _, by go_num, by omega, by omega, HN2.out, R.1, HVG.out, HROW2.out.only R.2 (fun e => HVG.out e.symm), HB3.out.trans (below_of_only R.2 HB3.out.size (fun k hk => by injection hk with hk; omega))⟩
                    case measure => simp [intOf] <;> omega
              · have hnx2 : mTo d' (k + 1) = (m + 2, So.upd o (m + 1) (p, q)) := by rw [HNX.out]; simp [mStep, hi, hle]
                have HN2 := Lib.hid hnx2
                clear hnx2
                go_wp2_with (go_at_call 13; refine (is_yes (p, q) _ hi.1 hi.2).mono ?_; rintro e w2 ⟨rfl, g2⟩; have hblk := (Blk.new wr 23 #[.int .i64 p, .int .i64 q]).only g2 (by simp); have e0 := hblk.cell 0; have e1 := hblk.cell 1; simp at e0 e1; have G3 := Lib.hid (only_trans (only_alloc (only_refl _ _) _) g2 : wr.grownBy w2 none); have HV2 := Lib.hid (HV.out.only G3.out (own_none_or _)); have HROW2 := Lib.hid (HROW.out.only G3.out (by simp)); have HB3 := Lib.hid (HB2.out.trans (below_of_only G3.out HB2.out.size (by simp))); have HO2 := Lib.hid (HO.out.only G3.out (by simp)); have l0 := HO2.out.snd (show m < m + 1 by omega); have l1 := HO2.out.free (m * 2 + 1); have hne := Nat.ne_of_lt HO.out.lt; clear hblk g2)
                go_quiet (fail)
                go_wp2_with (at_builtin; refine wpList_append_own_at _ rfl (.tmp 17) (.tmp 19) 31 rfl w.heap.size 23 i0 _ 2 16 Try.underlying31 hi0 hz0 hz1 hz2 rfl (by decide) (.slice (some ⟨h, 0, none⟩) (m + 1) co) (m + 1) (spCells (m + 1) o) rfl (by exact World.ownsRow.alloc (w := w2.drewN nq) (own_of_row HV2.out) _) ⟨w2.heap.size, 0, none⟩ 1 1 [.int .i64 p, .int .i64 q] rfl rfl ?c1 ?c2 ?c3 ?c4 ?c5 ?_)
                case c1 =>
                  intro j u hj
                  match j, hj with
                  | 0, hj => simp at hj; subst hj; exact (Blk.new (w2.drewN nq) 23 #[.int .i64 p, .int .i64 q]).cell 0
                  | 1, hj => simp at hj; subst hj; exact (Blk.new (w2.drewN nq) 23 #[.int .i64 p, .int .i64 q]).cell 1
                case c2 => intro u hu; simp at hu; rcases hu with rfl | rfl <;> rfl
                case c3 => unfold maxLen; omega
                case c4 => omega
                case c5 => have := HB3.out.size; simp; omega
                · intro v1 wz hown1 hg1 _ hat1
                  have R := app_row (s := (p, q)) HV2.out HROW2.out HVG.out HB3.out.size (only_alloc (only_drewN (only_refl w2 none) nq) _) hown1 hg1 (z := w2.heap.size + 1) (by omega) hat1
                  have R1 := Lib.hid R
                  clear R hown1 hg1 hat1
                  obtain ⟨A1, c1, rfl⟩ := R1.out.1.form
                  go_wp2
                  go_roundw
                  case rel => exact ⟨k + 1, _, _, by go_num, by omega, by omega, HN2.out, R1.out.1, R1.out.2.1, R1.out.2.2.1, HB3.out.trans R1.out.2.2.2⟩
                  case measure => simp [intOf] <;> omega
          · obtain rfl : n = 0 := by omega
            have hnx2 : mTo d' (k + 1) = (1, So.upd o 0 (p, q)) := by rw [HNX.out]; simp [mStep, hi]
            have HN2 := Lib.hid hnx2
            clear hnx2
            go_wp2_with (go_at_call 13; refine (is_yes (p, q) _ hi.1 hi.2).mono ?_; rintro e w2 ⟨rfl, g2⟩; have hblk := (Blk.new wr 23 #[.int .i64 p, .int .i64 q]).only g2 (by simp); have e0 := hblk.cell 0; have e1 := hblk.cell 1; simp at e0 e1; have G3 := Lib.hid (only_trans (only_alloc (only_refl _ _) _) g2 : wr.grownBy w2 none); have HV2 := Lib.hid (HV.out.only G3.out (own_none_or _)); have HROW2 := Lib.hid (HROW.out.only G3.out (by simp)); have HB3 := Lib.hid (HB2.out.trans (below_of_only G3.out HB2.out.size (by simp))); clear hblk g2)
            go_quiet (fail)
            go_wp2_with (at_builtin; refine wpList_append_own_at _ rfl (.tmp 17) (.tmp 19) 31 rfl w.heap.size 23 i0 _ 2 16 Try.underlying31 hi0 hz0 hz1 hz2 rfl (by decide) (.slice Ao 0 co) 0 (spCells 0 o) rfl (by exact World.ownsRow.alloc (w := w2.drewN nq) (own_of_row HV2.out) _) ⟨w2.heap.size, 0, none⟩ 1 1 [.int .i64 p, .int .i64 q] rfl rfl ?c1 ?c2 ?c3 ?c4 ?c5 ?_)
            case c1 =>
              intro j u hj
              match j, hj with
              | 0, hj => simp at hj; subst hj; exact (Blk.new (w2.drewN nq) 23 #[.int .i64 p, .int .i64 q]).cell 0
              | 1, hj => simp at hj; subst hj; exact (Blk.new (w2.drewN nq) 23 #[.int .i64 p, .int .i64 q]).cell 1
            case c2 => intro u hu; simp at hu; rcases hu with rfl | rfl <;> rfl
            case c3 => unfold maxLen; omega
            case c4 => omega
            case c5 => have := HB3.out.size; simp; omega
            · intro v1 wz hown1 hg1 _ hat1
              have R := app_row (s := (p, q)) HV2.out HROW2.out HVG.out HB3.out.size (only_alloc (only_drewN (only_refl w2 none) nq) _) hown1 hg1 (z := w2.heap.size + 1) (by omega) hat1
              have R1 := Lib.hid R
              clear R hown1 hg1 hat1
              obtain ⟨A1, c1, rfl⟩ := R1.out.1.form
              go_wp2
              go_roundw
              case rel => exact ⟨k + 1, _, _, by go_num, by omega, by omega, HN2.out, R1.out.1, R1.out.2.1, R1.out.2.2.1, HB3.out.trans R1.out.2.2.2⟩
              case measure => simp [intOf] <;> omega
        · have hnx2 : mTo d' (k + 1) = (n, o) := by rw [HNX.out]; simp [mStep, hi]
          have HN2 := Lib.hid hnx2
          clear hnx2
          have hform := HV.out.form
          obtain ⟨Ao, co, rfl⟩ := hform
          go_wp2_with (go_at_call 13; refine (is_no (p, q) _ hi).mono ?_; rintro e w2 ⟨rfl, g2⟩)
          go_roundw
          case rel =>
            have g3 : wr.grownBy w2 none := only_trans (only_alloc (only_refl _ _) _) g2
            exact ⟨k + 1, n, o, by go_num, by omega, by omega, HN2.out, HV.out.only g3 (by cases hv : (Value.slice Ao n co).ownBlock <;> simp), HVG.out, HROW.out.only g3 (by simp), HB2.out.trans (below_of_only g3 HB2.out.size (by simp))⟩
          case measure => simp [intOf] <;> omega
      · obtain rfl : k = len := by omega
        obtain ⟨Ao, co, rfl⟩ := HV.out.form
        go_wp2
        go_ret
        refine ⟨_, d', rfl, ?_, HP.out, HS.out, HB2.out⟩
        rw [HM.out]
        exact HV.out
end Go.Proofs.Ytgineifljofljaa
