/- The document's order of spans: its contract. -/
import Derived.Test.YtgineifljofljaaU1
namespace Go.Proofs.Ytgineifljofljaa
open Go.RowKit Go.Lib Go.Sort
set_option linter.unusedVariables false

theorem spCells_congr {n : Nat} {d e : Nat → Int × Int} (h : ∀ q, q < n → d q = e q) : spCells n d = spCells n e := by
  unfold spCells
  rw [List.flatMap_def, List.flatMap_def]
  congr 1
  apply List.map_congr_left
  intro i hi
  rw [h i (List.mem_range.1 hi)]
theorem spCells_add (k j : Nat) (d : Nat → Int × Int) : spCells (k + j) d = spCells k d ++ spCells j (fun q => d (k + q)) := by
  induction j with
  | zero => simp [spCells]
  | succ j ih => rw [← Nat.add_assoc, spCells_succ, ih, spCells_succ, List.append_assoc]
theorem spCells_ins {k i : Nat} (e : Nat → Int × Int) (hk : k ≤ i) : (spCells k e ++ [.int .i64 (e i).1, .int .i64 (e i).2]) ++ spCells (i - k) (fun q => e (k + q)) = spCells (i + 1) (So.rot e k i (i + 1)) := by
  rw [show i + 1 = (k + 1) + (i - k) by omega, spCells_add, spCells_add k 1]
  congr 1
  · congr 1
    · exact spCells_congr fun q hq => by simp only [So.rot]; rw [if_neg (by omega), if_neg (by omega)]
    · have : So.rot e k i (k + 1 + (i - k)) k = e i := by simp only [So.rot]; rw [if_pos (by omega)]; congr 1; omega
      simp [spCells, this]
  · refine spCells_congr fun q hq => ?_
    simp only [So.rot]
    rw [if_neg (by omega), if_pos (by omega)]
    congr 1
    omega

theorem Spans.below {w w' : World} {A : Option Addr} {len cap : Nat} {d : Nat → Int × Int} (h : Spans w A len cap d) (hb : Below w.heap.size w w') : Spans w' A len cap d := by
  refine ⟨h.1, fun hp => ?_⟩
  obtain ⟨b, off, h1, h2, h3⟩ := h.2 hp
  refine ⟨b, off, h1, Nat.lt_of_lt_of_le h2 hb.size, fun i hi => ?_⟩
  have e := hb.block b h2
  obtain ⟨c1, c2⟩ := h3 i hi
  constructor
  · rw [← c1]; simp [World.cell?, e]
  · rw [← c2]; simp [World.cell?, e]
theorem RowS.spans {w : World} {g n cap : Nat} {d : Nat → Int × Int} (h : RowS w g n cap d) (k : Nat) (hk : k ≤ n) (c : Nat) : Spans w (some ⟨g, 0, none⟩) k c d :=
  ⟨fun e => (by cases e), fun _ => ⟨g, 0, rfl, h.lt, fun i hi => by rw [Nat.zero_add]; exact ⟨h.fst (by omega), h.snd (by omega)⟩⟩⟩
theorem RowV.made {w : World} {B n : Nat} {v : Value} {d : Nat → Int × Int} (h : RowV w B v n d) (hn : 0 < n) : ∃ g cap, v = .slice (some ⟨g, 0, none⟩) n cap ∧ B ≤ g ∧ RowS w g n cap d := by
  rcases h with ⟨_, rfl⟩ | h
  · omega
  · exact h
theorem RowS.room {w : World} {g n cap : Nat} {d : Nat → Int × Int} (h : RowS w g n cap d) : n ≤ cap ∧ cap ≤ maxLen := by
  obtain ⟨cur, h1, h2, h3, h4⟩ := h
  exact h2

theorem one_cells (w : World) (p q : Int) (t : TypeId) : ∀ j u, [Value.int .i64 p, Value.int .i64 q][j]? = some u → (w.alloc (.cells #[.int .i64 p, .int .i64 q] t)).cell? ((⟨w.heap.size, 0, none⟩ : Addr).add j) = some u := by
  intro j u hj
  match j, hj with
  | 0, hj => simp at hj; subst hj; exact (Blk.new w t #[.int .i64 p, .int .i64 q]).cell 0
  | 1, hj => simp at hj; subst hj; exact (Blk.new w t #[.int .i64 p, .int .i64 q]).cell 1
theorem one_cell' (p q : Int) : ∀ u ∈ [Value.int .i64 p, Value.int .i64 q], u.oneCell' = true := by
  intro u hu; simp at hu; rcases hu with rfl | rfl <;> rfl
/-- What lies in a row of the call's own, from place k on. -/
theorem row_cells {w : World} {g n cap : Nat} {d : Nat → Int × Int} (h : RowS w g n cap d) (k j off : Nat) (hk : k + j ≤ n) (ho : off = k * 2) : ∀ x u, (spCells j (fun q => d (k + q)))[x]? = some u → w.cell? ((⟨g, off, none⟩ : Addr).add x) = some u := by
  subst ho
  exact spans_cells fun i hi => by
    have h1 := h.fst (show k + i < n by omega)
    have h2 := h.snd (show k + i < n by omega)
    rw [show (k + i) * 2 = k * 2 + i * 2 by omega] at h1 h2
    exact ⟨h1, h2⟩
theorem row_cells0 {w : World} {g n cap : Nat} {d : Nat → Int × Int} (h : RowS w g n cap d) (j : Nat) (hk : j ≤ n) : ∀ x u, (spCells j d)[x]? = some u → w.cell? ((⟨g, 0, none⟩ : Addr).add x) = some u := by
  have := row_cells h 0 j 0 (by omega) (by omega)
  simpa using this
/-- What an append to the call's own spans leaves of another row of its own. -/
theorem app_any {B g n len cap1 m : Nat} {v v1 : Value} {o o1 d' : Nat → Int × Int} {W W' wz : World} (hV : RowV W B v n o) (hR : RowS W g len cap1 d') (hvg : v.ownBlock ≠ some g) (hB : B ≤ W.heap.size) (hW : W.grownBy W' none)
    (hown : wz.ownsRow B 23 2 v1 m (spCells m o1)) (hg : W'.grownBy wz v.ownBlock) {z : Nat} (hz : W.heap.size ≤ z) (hat : v1.ownBlock = v.ownBlock ∨ v1.ownBlock = some z) :
    RowV wz B v1 m o1 ∧ v1.ownBlock ≠ some g ∧ RowS wz g len cap1 d' ∧ Below B W wz := by
  refine ⟨row_of_own hown, ?_, (hR.only hW (by simp)).only hg (fun e => hvg e.symm), (below_of_only hW hB (by simp)).trans (below_of_only hg (Nat.le_trans hB hW.size) (fun k hk => (hV.blk k hk).1))⟩
  rcases hat with h | h
  · rw [h]; exact hvg
  · rw [h]
    intro e
    injection e with e
    have h1 := hR.lt
    omega

/-- The spans l as the document puts them in order. -/
def USortedV (B n : Nat) (d : Nat → Int × Int) (w : World) (e : Ending) (w' : World) : Prop :=
  ∃ v d', e = .returned v ∧ RowV w' B v n d' ∧ So.Perm 0 n d d' ∧ So.Sorted d' 0 n ∧ Below B w w'

set_option maxHeartbeats 3200000 in
theorem usorted_any (A : Option Addr) (len cap : Nat) (d : Nat → Int × Int) (w : World) (hsp : Spans w A len cap d) (hl : len ≤ 1000000) :
    Calls Try.prog 22 #[.slice A len cap] w (USortedV w.heap.size len d w) := by
  obtain ⟨i0, hi0, hz0, hz1, hz2⟩ := info_parts span_info
  have HSP := Lib.hid hsp
  clear hsp
  go_enter Try.func22, Try.ntmps22
  go_wp2
  go_loopw [3, 4] (fun o x wr => ∃ (i g c : Nat) (e : Nat → Int × Int), x = .int .i64 i ∧ o = .slice (some ⟨g, 0, none⟩) i c ∧ i ≤ len ∧ w.heap.size ≤ g ∧ RowS wr g i c e ∧ Hid (So.Perm 0 i d e) ∧ Hid (So.Sorted e 0 i) ∧ Below w.heap.size w wr) (fun o x _ => len - (intOf x).toNat)
  case atStart => exact ⟨0, w.heap.size, 0, d, rfl, rfl, by omega, Nat.le_refl _, ⟨#[], Blk.new w _ _, ⟨by omega, by simp⟩, rfl, fun i hi => by omega⟩, Lib.hid (So.Perm.refl _ _ _), Lib.hid (fun p q h1 h2 h3 => by omega), (Below.refl _ _).alloc (Nat.le_refl _) _⟩
  case round =>
    obtain ⟨i, g, c, e, rfl, rfl, hi, hgB, hR, HP, HS, hb⟩ := hrel
    have HR := Lib.hid hR
    have HB := Lib.hid hb
    clear hR hb
    by_cases hil : i < len
    · obtain ⟨b, off, hA, hbw, hc⟩ := (HSP.out.below HB.out).2 (by omega)
      obtain ⟨rfl⟩ := hA
      have hei : e i = d i := HP.out.out (by omega)
      have HEI := Lib.hid hei
      clear hei hc
      go_wp2
      go_loopw [5] (fun x wq => ∃ (k : Nat), x = .int .i64 k ∧ k ≤ i ∧ Hid (∀ q, k ≤ q → q < i → So.lt (e i) (e q)) ∧ RowS wq g i c e ∧ Below w.heap.size w wq) (fun x _ => (intOf x).toNat)
      case atStart => exact ⟨i, rfl, Nat.le_refl _, Lib.hid (by omega), HR.out, HB.out⟩
      case round =>
        obtain ⟨k, rfl, hki, HL, hR2, hb2⟩ := hrel
        have HR2 := Lib.hid hR2
        have HB2 := Lib.hid hb2
        clear hR2 hb2 HR HB
        by_cases hk0 : 0 < k
        · obtain ⟨j, hj1, hj2⟩ : ∃ j, j + 1 ≤ k ∧ k ≤ j + 1 := ⟨k - 1, by omega, by omega⟩
          obtain ⟨b2, off2, hA, hbw2, hc⟩ := (HSP.out.below HB2.out).2 (by omega)
          obtain ⟨rfl, rfl⟩ : b = b2 ∧ off = off2 := by injection hA with hA; injection hA with h1 h2; exact ⟨h1, h2⟩
          have c0 := (hc i hil).1
          have c1 := (hc i hil).2
          have c2 := HR2.out.fst (show j < i by omega)
          have c3 := HR2.out.snd (show j < i by omega)
          rw [← HEI.out] at c0 c1
          clear hc hA
          obtain ⟨x, hx⟩ : ∃ x, x = e i := ⟨_, rfl⟩
          obtain ⟨y, hy⟩ : ∃ y, y = e j := ⟨_, rfl⟩
          rw [← hx] at c0 c1
          rw [← hy] at c2 c3
          have HX := Lib.hid hx
          have HY := Lib.hid hy
          clear hx hy
          have i1 : (i : Int) < (len : Int) := by omega
          have i2 : (j : Int) < (i : Int) := by omega
          have i3 : (0 : Int) < (k : Int) := by omega
          have i4 : IntKind.i64.wrap ((k : Int) - 1) = (j : Int) := by rw [IntKind.wrap_i64]; omega
          have hc := ltB_iff x y
          obtain ⟨r, hr⟩ : ∃ r, r = ltB x y := ⟨_, rfl⟩
          have hcall := fun W => less_any x y W
          simp only [← hr] at hcall
          rw [← hr] at hc
          have HCALL := Lib.hid hcall
          have HC := Lib.hid hc
          clear hcall hc hr
          have k0 := fun d os => cell_regrown c0 d os
          have k1 := fun d os => cell_regrown c1 d os
          have k2 := fun d os => cell_regrown c2 d os
          have k3 := fun d os => cell_regrown c3 d os
          clear c0 c1 c2 c3
          go_wp2
          refine wp_region_quiet_below (by kernel_rfl) (by kernel_rfl) ?_
          repeat (quiet_step ((go_at_call 39; exact Calls.regrown_of ((HCALL.out _).mono fun _ _ ⟨h1, h2⟩ => ⟨h1, below_of_only h2 (Nat.le_refl _) (by simp)⟩))))
          refine wpQuiet_nil ?_
          rintro _ ⟨⟨dq, osq⟩, rfl⟩
          have hb3 := below_regrown wr dq osq
          generalize grow (redrawn wr dq) osq = w3 at hb3 ⊢
          have HR3 := Lib.hid (HR2.out.below hb3)
          have HB3 := Lib.hid (HB2.out.trans (hb3.mono HB2.out.size))
          clear hb3 HR2 HB2 k0 k1 k2 k3
          cases r with
          | true =>
            have hl := HC.out.1 rfl
            rw [HX.out, HY.out] at hl
            go_wp2
            go_roundw
            case rel =>
              refine ⟨j, by go_num, by omega, Lib.hid fun q h1 h2 => ?_, HR3.out, HB3.out⟩
              by_cases h3 : q = j
              · subst h3; exact hl
              · exact HL.out q (by omega) h2
            case measure => simp [intOf] <;> omega
          | false =>
            have hl : ¬ So.lt x y := fun h => by have := HC.out.2 h; cases this
            rw [HX.out, HY.out] at hl
            have hsort : So.Sorted (So.rot e k i (i + 1)) 0 (i + 1) := So.one_last HS.out (by omega) hki (fun q h1 h2 => by
              by_cases h3 : q = j
              · subst h3; exact hl
              · have := HS.out q j (by omega) (by omega) (by omega)
                unfold So.le So.lt at *
                omega) (fun q h1 h2 => HL.out q h1 h2)
            clear HC HCALL HX HY hl
            have hperm : So.Perm 0 (i + 1) d (So.rot e k i (i + 1)) := (HP.out.mono (Nat.le_refl _) (by omega)).trans (So.Perm.rotDown (i - k) (by omega) (by omega) (by omega))
            have HPERM := Lib.hid hperm
            have HSORT := Lib.hid hsort
            clear hperm hsort HL
            have r1 := HR3.out.room
            have j1 : (k : Int) ≤ (c : Int) := by omega
            have j2 : (k : Int) ≤ (i : Int) := by omega
            have hl0 : (spCells k e).length = k * 2 := spCells_len k e
            have hl2 : (spCells (i - k) (fun q => e (k + q))).length = (i - k) * 2 := spCells_len _ _
            have HL0 := Lib.hid hl0
            have HL2 := Lib.hid hl2
            clear hl0 hl2
            have hV0 : RowV (w3.alloc (.cells #[] 23)) w.heap.size (.slice (some ⟨w3.heap.size, 0, none⟩) 0 0) 0 e := .inr ⟨_, 0, rfl, HB3.out.size, ⟨#[], Blk.new w3 _ _, ⟨by omega, by simp⟩, rfl, fun i hi => by omega⟩⟩
            have HV0 := Lib.hid hV0
            clear hV0
            have HRA := Lib.hid (HR3.out.only (only_alloc (only_refl w3 none) (.cells #[] 23)) (by simp))
            have hk1 : i + 1 = k + 1 + (i - k) := by omega
            have HK1 := Lib.hid hk1
            clear hk1
            by_cases hck : c = k
            · have hck' := hck.symm
              subst hck'
              clear hck
              go_wp2_with (first | (at_builtin; refine wpList_append_own_at _ rfl (.tmp 32) (.tmp 35) 31 rfl w.heap.size 23 i0 _ 2 16 Try.underlying31 hi0 hz0 hz1 hz2 rfl (by decide) (.slice (some ⟨w3.heap.size, 0, none⟩) 0 0) 0 (spCells 0 e) rfl (own_of_row HV0.out) ⟨g, 0, none⟩ k _ (spCells k e) rfl HL0.out (row_cells0 HRA.out k hki) (spCells_cell k e) (by unfold maxLen; omega) (by omega) (by have := HB3.out.size; simp; omega) ?_; intro v1 w4 hown1 hg1 _ hat1; have R := app_any (o1 := e) (m := k) HV0.out HRA.out (by have := HR3.out.lt; simp [Value.ownBlock]; omega) (by have := HB3.out.size; simp; omega) (only_refl _ _) (by simpa [spCells] using hown1) hg1 (Nat.le_refl _) hat1; have HR4 := Lib.hid R.2.2.1; have HB4 := Lib.hid (HB3.out.trans ((below_of_only (only_alloc (only_refl w3 none) (.cells #[] 23)) HB3.out.size (by simp)).trans R.2.2.2)); have HV1 := Lib.hid R.1; have HN1 := Lib.hid R.2.1; clear R hown1 hg1 hat1; obtain ⟨A1, c1, rfl⟩ := HV1.out.form; obtain ⟨b4, off4, hA4, hbw4, hc4⟩ := (HSP.out.below HB4.out).2 (by omega); obtain ⟨rfl, rfl⟩ : b = b4 ∧ off = off4 := (by injection hA4 with hA4; injection hA4 with h1 h2; exact ⟨h1, h2⟩); have c0 := (hc4 i hil).1; have c1' := (hc4 i hil).2; rw [← HEI.out] at c0 c1'; clear hc4 hA4) | (at_builtin; refine wpList_append_own_at _ rfl (.tmp 37) (.tmp 42) 31 rfl w.heap.size 23 i0 _ 2 16 Try.underlying31 hi0 hz0 hz1 hz2 rfl (by decide) (.slice A1 k c1) k (spCells k e) rfl (World.ownsRow.alloc (own_of_row HV1.out) _) ⟨w4.heap.size, 0, none⟩ 1 1 [.int .i64 (e i).1, .int .i64 (e i).2] rfl rfl (one_cells _ _ _ _) (one_cell' _ _) (by unfold maxLen; omega) (by omega) (by have := HB4.out.size; simp; omega) ?_; intro v2 w5 hown2 hg2 _ hat2; have R := app_row (s := e i) HV1.out HR4.out HN1.out HB4.out.size (only_alloc (only_refl w4 none) _) hown2 hg2 (z := w4.heap.size + 1) (by omega) (by simpa using hat2); have HR5 := Lib.hid R.2.2.1; have HB5 := Lib.hid (HB4.out.trans R.2.2.2); have HV2 := Lib.hid R.1; have HN2 := Lib.hid R.2.1; clear R hown2 hg2 hat2; obtain ⟨A2, c2, rfl⟩ := HV2.out.form) | (at_builtin; refine wpList_append_own_at _ rfl (.tmp 44) (.tmp 47) 31 rfl w.heap.size 23 i0 _ 2 16 Try.underlying31 hi0 hz0 hz1 hz2 rfl (by decide) (.slice A2 (k + 1) c2) (k + 1) (spCells (k + 1) (So.upd e k (e i))) rfl (own_of_row HV2.out) ⟨g, k * 2, none⟩ (i - k) _ (spCells (i - k) (fun q => e (k + q))) rfl HL2.out (row_cells HR5.out k (i - k) _ (by omega) rfl) (spCells_cell _ _) (by unfold maxLen; omega) (by omega) HB5.out.size ?_; intro v3 w6 hown3 hg3 _ hat3; have R := app_any (o1 := So.rot e k i (i + 1)) (m := i + 1) HV2.out HR5.out HN2.out HB5.out.size (only_refl _ _) (by rw [← spCells_upd, spCells_ins e hki, ← HK1.out] at hown3; exact hown3) hg3 (Nat.le_refl _) hat3; have HB6 := Lib.hid (HB5.out.trans R.2.2.2); have HV3 := Lib.hid R.1; clear R hown3 hg3 hat3; obtain ⟨g3, c3, rfl, hg3B, hR6⟩ := HV3.out.made (by omega)) | (at_builtin; refine wpList_append_own_at _ rfl (.tmp 44) (.tmp 47) 31 rfl w.heap.size 23 i0 _ 2 16 Try.underlying31 hi0 hz0 hz1 hz2 rfl (by decide) (.slice A2 (k + 1) c2) (k + 1) (spCells (k + 1) (So.upd e k (e i))) rfl (own_of_row HV2.out) ⟨g, 0, none⟩ 0 _ [] rfl rfl (fun j u hj => by simp at hj) (fun u hu => by simp at hu) (by unfold maxLen; omega) (by omega) HB5.out.size ?_; intro v3 w6 hown3 hg3 _ hat3; have R := app_any (o1 := So.rot e k i (i + 1)) (m := i + 1) HV2.out HR5.out HN2.out HB5.out.size (only_refl _ _) (by rw [← spCells_ins e hki, show i - k = 0 by omega, show i + 1 = k + 1 by omega, spCells_upd]; exact hown3) hg3 (Nat.le_refl _) hat3; have HB6 := Lib.hid (HB5.out.trans R.2.2.2); have HV3 := Lib.hid R.1; clear R hown3 hg3 hat3; obtain ⟨g3, c3, rfl, hg3B, hR6⟩ := HV3.out.made (by omega)))
              all_goals
                go_roundw
                case rel => exact ⟨i + 1, g3, c3, _, by go_num, rfl, by omega, hg3B, hR6, HPERM, HSORT, HB6.out⟩
                case measure => simp [intOf] <;> omega
            · go_wp2_with (first | (at_builtin; refine wpList_append_own_at _ rfl (.tmp 32) (.tmp 35) 31 rfl w.heap.size 23 i0 _ 2 16 Try.underlying31 hi0 hz0 hz1 hz2 rfl (by decide) (.slice (some ⟨w3.heap.size, 0, none⟩) 0 0) 0 (spCells 0 e) rfl (own_of_row HV0.out) ⟨g, 0, none⟩ k _ (spCells k e) rfl HL0.out (row_cells0 HRA.out k hki) (spCells_cell k e) (by unfold maxLen; omega) (by omega) (by have := HB3.out.size; simp; omega) ?_; intro v1 w4 hown1 hg1 _ hat1; have R := app_any (o1 := e) (m := k) HV0.out HRA.out (by have := HR3.out.lt; simp [Value.ownBlock]; omega) (by have := HB3.out.size; simp; omega) (only_refl _ _) (by simpa [spCells] using hown1) hg1 (Nat.le_refl _) hat1; have HR4 := Lib.hid R.2.2.1; have HB4 := Lib.hid (HB3.out.trans ((below_of_only (only_alloc (only_refl w3 none) (.cells #[] 23)) HB3.out.size (by simp)).trans R.2.2.2)); have HV1 := Lib.hid R.1; have HN1 := Lib.hid R.2.1; clear R hown1 hg1 hat1; obtain ⟨A1, c1, rfl⟩ := HV1.out.form; obtain ⟨b4, off4, hA4, hbw4, hc4⟩ := (HSP.out.below HB4.out).2 (by omega); obtain ⟨rfl, rfl⟩ : b = b4 ∧ off = off4 := (by injection hA4 with hA4; injection hA4 with h1 h2; exact ⟨h1, h2⟩); have c0 := (hc4 i hil).1; have c1' := (hc4 i hil).2; rw [← HEI.out] at c0 c1'; clear hc4 hA4) | (at_builtin; refine wpList_append_own_at _ rfl (.tmp 37) (.tmp 42) 31 rfl w.heap.size 23 i0 _ 2 16 Try.underlying31 hi0 hz0 hz1 hz2 rfl (by decide) (.slice A1 k c1) k (spCells k e) rfl (World.ownsRow.alloc (own_of_row HV1.out) _) ⟨w4.heap.size, 0, none⟩ 1 1 [.int .i64 (e i).1, .int .i64 (e i).2] rfl rfl (one_cells _ _ _ _) (one_cell' _ _) (by unfold maxLen; omega) (by omega) (by have := HB4.out.size; simp; omega) ?_; intro v2 w5 hown2 hg2 _ hat2; have R := app_row (s := e i) HV1.out HR4.out HN1.out HB4.out.size (only_alloc (only_refl w4 none) _) hown2 hg2 (z := w4.heap.size + 1) (by omega) (by simpa using hat2); have HR5 := Lib.hid R.2.2.1; have HB5 := Lib.hid (HB4.out.trans R.2.2.2); have HV2 := Lib.hid R.1; have HN2 := Lib.hid R.2.1; clear R hown2 hg2 hat2; obtain ⟨A2, c2, rfl⟩ := HV2.out.form) | (at_builtin; refine wpList_append_own_at _ rfl (.tmp 44) (.tmp 47) 31 rfl w.heap.size 23 i0 _ 2 16 Try.underlying31 hi0 hz0 hz1 hz2 rfl (by decide) (.slice A2 (k + 1) c2) (k + 1) (spCells (k + 1) (So.upd e k (e i))) rfl (own_of_row HV2.out) ⟨g, k * 2, none⟩ (i - k) _ (spCells (i - k) (fun q => e (k + q))) rfl HL2.out (row_cells HR5.out k (i - k) _ (by omega) rfl) (spCells_cell _ _) (by unfold maxLen; omega) (by omega) HB5.out.size ?_; intro v3 w6 hown3 hg3 _ hat3; have R := app_any (o1 := So.rot e k i (i + 1)) (m := i + 1) HV2.out HR5.out HN2.out HB5.out.size (only_refl _ _) (by rw [← spCells_upd, spCells_ins e hki, ← HK1.out] at hown3; exact hown3) hg3 (Nat.le_refl _) hat3; have HB6 := Lib.hid (HB5.out.trans R.2.2.2); have HV3 := Lib.hid R.1; clear R hown3 hg3 hat3; obtain ⟨g3, c3, rfl, hg3B, hR6⟩ := HV3.out.made (by omega)) | (at_builtin; refine wpList_append_own_at _ rfl (.tmp 44) (.tmp 47) 31 rfl w.heap.size 23 i0 _ 2 16 Try.underlying31 hi0 hz0 hz1 hz2 rfl (by decide) (.slice A2 (k + 1) c2) (k + 1) (spCells (k + 1) (So.upd e k (e i))) rfl (own_of_row HV2.out) ⟨g, 0, none⟩ 0 _ [] rfl rfl (fun j u hj => by simp at hj) (fun u hu => by simp at hu) (by unfold maxLen; omega) (by omega) HB5.out.size ?_; intro v3 w6 hown3 hg3 _ hat3; have R := app_any (o1 := So.rot e k i (i + 1)) (m := i + 1) HV2.out HR5.out HN2.out HB5.out.size (only_refl _ _) (by rw [← spCells_ins e hki, show i - k = 0 by omega, show i + 1 = k + 1 by omega, spCells_upd]; exact hown3) hg3 (Nat.le_refl _) hat3; have HB6 := Lib.hid (HB5.out.trans R.2.2.2); have HV3 := Lib.hid R.1; clear R hown3 hg3 hat3; obtain ⟨g3, c3, rfl, hg3B, hR6⟩ := HV3.out.made (by omega)))
              all_goals
                go_roundw
                case rel => exact ⟨i + 1, g3, c3, _, by go_num, rfl, by omega, hg3B, hR6, HPERM, HSORT, HB6.out⟩
                case measure => simp [intOf] <;> omega
        · have hsort : So.Sorted (So.rot e k i (i + 1)) 0 (i + 1) := So.one_last HS.out (by omega) hki (fun q h1 h2 => by omega) (fun q h1 h2 => HL.out q h1 h2)
          have i1 : ¬ (0 : Int) < (k : Int) := by omega
          go_wp2
          go_quiet (fail)
          have HR3 := Lib.hid (HR2.out.drewN nq)
          have HB3 := Lib.hid (below_drewN HB2.out nq)
          generalize wr.drewN nq = w3 at HR3 HB3 ⊢
          have hperm : So.Perm 0 (i + 1) d (So.rot e k i (i + 1)) := (HP.out.mono (Nat.le_refl _) (by omega)).trans (So.Perm.rotDown (i - k) (by omega) (by omega) (by omega))
          have HPERM := Lib.hid hperm
          have HSORT := Lib.hid hsort
          clear hperm hsort HL
          have r1 := HR3.out.room
          have j1 : (k : Int) ≤ (c : Int) := by omega
          have j2 : (k : Int) ≤ (i : Int) := by omega
          have hl0 : (spCells k e).length = k * 2 := spCells_len k e
          have hl2 : (spCells (i - k) (fun q => e (k + q))).length = (i - k) * 2 := spCells_len _ _
          have HL0 := Lib.hid hl0
          have HL2 := Lib.hid hl2
          clear hl0 hl2
          have hV0 : RowV (w3.alloc (.cells #[] 23)) w.heap.size (.slice (some ⟨w3.heap.size, 0, none⟩) 0 0) 0 e := .inr ⟨_, 0, rfl, HB3.out.size, ⟨#[], Blk.new w3 _ _, ⟨by omega, by simp⟩, rfl, fun i hi => by omega⟩⟩
          have HV0 := Lib.hid hV0
          clear hV0
          have HRA := Lib.hid (HR3.out.only (only_alloc (only_refl w3 none) (.cells #[] 23)) (by simp))
          have hk1 : i + 1 = k + 1 + (i - k) := by omega
          have HK1 := Lib.hid hk1
          clear hk1
          by_cases hck : c = k
          · have hck' := hck.symm
            subst hck'
            clear hck
            go_wp2_with (first | (at_builtin; refine wpList_append_own_at _ rfl (.tmp 32) (.tmp 35) 31 rfl w.heap.size 23 i0 _ 2 16 Try.underlying31 hi0 hz0 hz1 hz2 rfl (by decide) (.slice (some ⟨w3.heap.size, 0, none⟩) 0 0) 0 (spCells 0 e) rfl (own_of_row HV0.out) ⟨g, 0, none⟩ k _ (spCells k e) rfl HL0.out (row_cells0 HRA.out k hki) (spCells_cell k e) (by unfold maxLen; omega) (by omega) (by have := HB3.out.size; simp; omega) ?_; intro v1 w4 hown1 hg1 _ hat1; have R := app_any (o1 := e) (m := k) HV0.out HRA.out (by have := HR3.out.lt; simp [Value.ownBlock]; omega) (by have := HB3.out.size; simp; omega) (only_refl _ _) (by simpa [spCells] using hown1) hg1 (Nat.le_refl _) hat1; have HR4 := Lib.hid R.2.2.1; have HB4 := Lib.hid (HB3.out.trans ((below_of_only (only_alloc (only_refl w3 none) (.cells #[] 23)) HB3.out.size (by simp)).trans R.2.2.2)); have HV1 := Lib.hid R.1; have HN1 := Lib.hid R.2.1; clear R hown1 hg1 hat1; obtain ⟨A1, c1, rfl⟩ := HV1.out.form; obtain ⟨b4, off4, hA4, hbw4, hc4⟩ := (HSP.out.below HB4.out).2 (by omega); obtain ⟨rfl, rfl⟩ : b = b4 ∧ off = off4 := (by injection hA4 with hA4; injection hA4 with h1 h2; exact ⟨h1, h2⟩); have c0 := (hc4 i hil).1; have c1' := (hc4 i hil).2; rw [← HEI.out] at c0 c1'; clear hc4 hA4) | (at_builtin; refine wpList_append_own_at _ rfl (.tmp 37) (.tmp 42) 31 rfl w.heap.size 23 i0 _ 2 16 Try.underlying31 hi0 hz0 hz1 hz2 rfl (by decide) (.slice A1 k c1) k (spCells k e) rfl (World.ownsRow.alloc (own_of_row HV1.out) _) ⟨w4.heap.size, 0, none⟩ 1 1 [.int .i64 (e i).1, .int .i64 (e i).2] rfl rfl (one_cells _ _ _ _) (one_cell' _ _) (by unfold maxLen; omega) (by omega) (by have := HB4.out.size; simp; omega) ?_; intro v2 w5 hown2 hg2 _ hat2; have R := app_row (s := e i) HV1.out HR4.out HN1.out HB4.out.size (only_alloc (only_refl w4 none) _) hown2 hg2 (z := w4.heap.size + 1) (by omega) (by simpa using hat2); have HR5 := Lib.hid R.2.2.1; have HB5 := Lib.hid (HB4.out.trans R.2.2.2); have HV2 := Lib.hid R.1; have HN2 := Lib.hid R.2.1; clear R hown2 hg2 hat2; obtain ⟨A2, c2, rfl⟩ := HV2.out.form) | (at_builtin; refine wpList_append_own_at _ rfl (.tmp 44) (.tmp 47) 31 rfl w.heap.size 23 i0 _ 2 16 Try.underlying31 hi0 hz0 hz1 hz2 rfl (by decide) (.slice A2 (k + 1) c2) (k + 1) (spCells (k + 1) (So.upd e k (e i))) rfl (own_of_row HV2.out) ⟨g, k * 2, none⟩ (i - k) _ (spCells (i - k) (fun q => e (k + q))) rfl HL2.out (row_cells HR5.out k (i - k) _ (by omega) rfl) (spCells_cell _ _) (by unfold maxLen; omega) (by omega) HB5.out.size ?_; intro v3 w6 hown3 hg3 _ hat3; have R := app_any (o1 := So.rot e k i (i + 1)) (m := i + 1) HV2.out HR5.out HN2.out HB5.out.size (only_refl _ _) (by rw [← spCells_upd, spCells_ins e hki, ← HK1.out] at hown3; exact hown3) hg3 (Nat.le_refl _) hat3; have HB6 := Lib.hid (HB5.out.trans R.2.2.2); have HV3 := Lib.hid R.1; clear R hown3 hg3 hat3; obtain ⟨g3, c3, rfl, hg3B, hR6⟩ := HV3.out.made (by omega)) | (at_builtin; refine wpList_append_own_at _ rfl (.tmp 44) (.tmp 47) 31 rfl w.heap.size 23 i0 _ 2 16 Try.underlying31 hi0 hz0 hz1 hz2 rfl (by decide) (.slice A2 (k + 1) c2) (k + 1) (spCells (k + 1) (So.upd e k (e i))) rfl (own_of_row HV2.out) ⟨g, 0, none⟩ 0 _ [] rfl rfl (fun j u hj => by simp at hj) (fun u hu => by simp at hu) (by unfold maxLen; omega) (by omega) HB5.out.size ?_; intro v3 w6 hown3 hg3 _ hat3; have R := app_any (o1 := So.rot e k i (i + 1)) (m := i + 1) HV2.out HR5.out HN2.out HB5.out.size (only_refl _ _) (by rw [← spCells_ins e hki, show i - k = 0 by omega, show i + 1 = k + 1 by omega, spCells_upd]; exact hown3) hg3 (Nat.le_refl _) hat3; have HB6 := Lib.hid (HB5.out.trans R.2.2.2); have HV3 := Lib.hid R.1; clear R hown3 hg3 hat3; obtain ⟨g3, c3, rfl, hg3B, hR6⟩ := HV3.out.made (by omega)))
            all_goals
              go_roundw
              case rel => exact ⟨i + 1, g3, c3, _, by go_num, rfl, by omega, hg3B, hR6, HPERM, HSORT, HB6.out⟩
              case measure => simp [intOf] <;> omega
          · go_wp2_with (first | (at_builtin; refine wpList_append_own_at _ rfl (.tmp 32) (.tmp 35) 31 rfl w.heap.size 23 i0 _ 2 16 Try.underlying31 hi0 hz0 hz1 hz2 rfl (by decide) (.slice (some ⟨w3.heap.size, 0, none⟩) 0 0) 0 (spCells 0 e) rfl (own_of_row HV0.out) ⟨g, 0, none⟩ k _ (spCells k e) rfl HL0.out (row_cells0 HRA.out k hki) (spCells_cell k e) (by unfold maxLen; omega) (by omega) (by have := HB3.out.size; simp; omega) ?_; intro v1 w4 hown1 hg1 _ hat1; have R := app_any (o1 := e) (m := k) HV0.out HRA.out (by have := HR3.out.lt; simp [Value.ownBlock]; omega) (by have := HB3.out.size; simp; omega) (only_refl _ _) (by simpa [spCells] using hown1) hg1 (Nat.le_refl _) hat1; have HR4 := Lib.hid R.2.2.1; have HB4 := Lib.hid (HB3.out.trans ((below_of_only (only_alloc (only_refl w3 none) (.cells #[] 23)) HB3.out.size (by simp)).trans R.2.2.2)); have HV1 := Lib.hid R.1; have HN1 := Lib.hid R.2.1; clear R hown1 hg1 hat1; obtain ⟨A1, c1, rfl⟩ := HV1.out.form; obtain ⟨b4, off4, hA4, hbw4, hc4⟩ := (HSP.out.below HB4.out).2 (by omega); obtain ⟨rfl, rfl⟩ : b = b4 ∧ off = off4 := (by injection hA4 with hA4; injection hA4 with h1 h2; exact ⟨h1, h2⟩); have c0 := (hc4 i hil).1; have c1' := (hc4 i hil).2; rw [← HEI.out] at c0 c1'; clear hc4 hA4) | (at_builtin; refine wpList_append_own_at _ rfl (.tmp 37) (.tmp 42) 31 rfl w.heap.size 23 i0 _ 2 16 Try.underlying31 hi0 hz0 hz1 hz2 rfl (by decide) (.slice A1 k c1) k (spCells k e) rfl (World.ownsRow.alloc (own_of_row HV1.out) _) ⟨w4.heap.size, 0, none⟩ 1 1 [.int .i64 (e i).1, .int .i64 (e i).2] rfl rfl (one_cells _ _ _ _) (one_cell' _ _) (by unfold maxLen; omega) (by omega) (by have := HB4.out.size; simp; omega) ?_; intro v2 w5 hown2 hg2 _ hat2; have R := app_row (s := e i) HV1.out HR4.out HN1.out HB4.out.size (only_alloc (only_refl w4 none) _) hown2 hg2 (z := w4.heap.size + 1) (by omega) (by simpa using hat2); have HR5 := Lib.hid R.2.2.1; have HB5 := Lib.hid (HB4.out.trans R.2.2.2); have HV2 := Lib.hid R.1; have HN2 := Lib.hid R.2.1; clear R hown2 hg2 hat2; obtain ⟨A2, c2, rfl⟩ := HV2.out.form) | (at_builtin; refine wpList_append_own_at _ rfl (.tmp 44) (.tmp 47) 31 rfl w.heap.size 23 i0 _ 2 16 Try.underlying31 hi0 hz0 hz1 hz2 rfl (by decide) (.slice A2 (k + 1) c2) (k + 1) (spCells (k + 1) (So.upd e k (e i))) rfl (own_of_row HV2.out) ⟨g, k * 2, none⟩ (i - k) _ (spCells (i - k) (fun q => e (k + q))) rfl HL2.out (row_cells HR5.out k (i - k) _ (by omega) rfl) (spCells_cell _ _) (by unfold maxLen; omega) (by omega) HB5.out.size ?_; intro v3 w6 hown3 hg3 _ hat3; have R := app_any (o1 := So.rot e k i (i + 1)) (m := i + 1) HV2.out HR5.out HN2.out HB5.out.size (only_refl _ _) (by rw [← spCells_upd, spCells_ins e hki, ← HK1.out] at hown3; exact hown3) hg3 (Nat.le_refl _) hat3; have HB6 := Lib.hid (HB5.out.trans R.2.2.2); have HV3 := Lib.hid R.1; clear R hown3 hg3 hat3; obtain ⟨g3, c3, rfl, hg3B, hR6⟩ := HV3.out.made (by omega)) | (at_builtin; refine wpList_append_own_at _ rfl (.tmp 44) (.tmp 47) 31 rfl w.heap.size 23 i0 _ 2 16 Try.underlying31 hi0 hz0 hz1 hz2 rfl (by decide) (.slice A2 (k + 1) c2) (k + 1) (spCells (k + 1) (So.upd e k (e i))) rfl (own_of_row HV2.out) ⟨g, 0, none⟩ 0 _ [] rfl rfl (fun j u hj => by simp at hj) (fun u hu => by simp at hu) (by unfold maxLen; omega) (by omega) HB5.out.size ?_; intro v3 w6 hown3 hg3 _ hat3; have R := app_any (o1 := So.rot e k i (i + 1)) (m := i + 1) HV2.out HR5.out HN2.out HB5.out.size (only_refl _ _) (by rw [← spCells_ins e hki, show i - k = 0 by omega, show i + 1 = k + 1 by omega, spCells_upd]; exact hown3) hg3 (Nat.le_refl _) hat3; have HB6 := Lib.hid (HB5.out.trans R.2.2.2); have HV3 := Lib.hid R.1; clear R hown3 hg3 hat3; obtain ⟨g3, c3, rfl, hg3B, hR6⟩ := HV3.out.made (by omega)))
            all_goals
              go_roundw
              case rel => exact ⟨i + 1, g3, c3, _, by go_num, rfl, by omega, hg3B, hR6, HPERM, HSORT, HB6.out⟩
              case measure => simp [intOf] <;> omega
    · obtain rfl : i = len := by omega
      go_wp2
      go_ret
      exact ⟨_, e, rfl, .inr ⟨g, c, rfl, hgB, HR.out⟩, HP.out, HS.out, HB.out⟩
end Go.Proofs.Ytgineifljofljaa
