/- All and Back of a table: their contracts. -/
import Derived.Test.YthlapnljinkekaaRR8
namespace Go.Proofs.Ythlapnljinkekaa
open Go.RowKit Go.Lib Go.Sort
set_option linter.unusedVariables false

/-- The cells of n regions. -/
def rgCells (n : Nat) (d : Nat → Reg) : List Value := (List.range n).flatMap fun i => [.int .i64 (d i).1, .int .i64 (d i).2.1, .int .i64 (d i).2.2]
theorem rgCells_succ (n : Nat) (d : Nat → Reg) : rgCells (n + 1) d = rgCells n d ++ [.int .i64 (d n).1, .int .i64 (d n).2.1, .int .i64 (d n).2.2] := by
  simp [rgCells, List.range_succ]
theorem rgCells_len (n : Nat) (d : Nat → Reg) : (rgCells n d).length = n * 3 := by
  induction n with
  | zero => rfl
  | succ n ih => rw [rgCells_succ, List.length_append, ih]; simp; omega
theorem rgCells_get {n : Nat} {d : Nat → Reg} {i : Nat} (hi : i < n) : (rgCells n d)[i * 3]? = some (.int .i64 (d i).1) ∧ (rgCells n d)[i * 3 + 1]? = some (.int .i64 (d i).2.1) ∧ (rgCells n d)[i * 3 + 2]? = some (.int .i64 (d i).2.2) := by
  induction n with
  | zero => omega
  | succ n ih =>
    rw [rgCells_succ]
    by_cases h : i < n
    · obtain ⟨h1, h2, h3⟩ := ih h
      rw [List.getElem?_append_left (by rw [rgCells_len]; omega), List.getElem?_append_left (by rw [rgCells_len]; omega), List.getElem?_append_left (by rw [rgCells_len]; omega)]
      exact ⟨h1, h2, h3⟩
    · obtain rfl : i = n := by omega
      rw [List.getElem?_append_right (by rw [rgCells_len]; omega), List.getElem?_append_right (by rw [rgCells_len]; omega), List.getElem?_append_right (by rw [rgCells_len]; omega), rgCells_len]
      have e1 : i * 3 - i * 3 = 0 := by omega
      have e2 : i * 3 + 1 - i * 3 = 1 := by omega
      have e3 : i * 3 + 2 - i * 3 = 2 := by omega
      rw [e1, e2, e3]
      exact ⟨rfl, rfl, rfl⟩
theorem rgCells_cell (n : Nat) (d : Nat → Reg) : ∀ u ∈ rgCells n d, u.oneCell' = true := by
  intro u hu
  simp only [rgCells, List.mem_flatMap] at hu
  obtain ⟨i, _, hi⟩ := hu
  simp at hi
  rcases hi with rfl | rfl | rfl <;> rfl

/-- A value is a row of regions in a block from B on, or nil. -/
def RowRV (w : World) (B : Nat) (v : Value) (n : Nat) (d : Nat → Reg) : Prop :=
  (v = .slice none 0 0 ∧ n = 0) ∨ ∃ g cap, v = .slice (some ⟨g, 0, none⟩) n cap ∧ B ≤ g ∧ RowR w g n cap d
theorem ownr_of_row {w : World} {B : Nat} {v : Value} {n : Nat} {d : Nat → Reg} (h : RowRV w B v n d) : w.ownsRow B 30 3 v n (rgCells n d) := by
  refine ⟨rgCells_len n d, ?_⟩
  rcases h with ⟨rfl, rfl⟩ | ⟨g, cap, rfl, hB, cur, h1, ⟨h2, h3⟩, h4, h5⟩
  · exact .inl ⟨rfl, rfl⟩
  · refine .inr ⟨g, cap, cur, rfl, hB, h1, h2, h3, h4, ?_⟩
    apply List.ext_getElem?
    intro k
    by_cases hk : k < n * 3
    · rw [List.getElem?_take_of_lt hk]
      obtain ⟨i, hi⟩ : ∃ i, k = i * 3 ∨ k = i * 3 + 1 ∨ k = i * 3 + 2 := ⟨k / 3, by omega⟩
      have hin : i < n := by omega
      obtain ⟨e1, e2, e3⟩ := h5 i hin
      obtain ⟨s1, s2, s3⟩ := rgCells_get (d := d) hin
      rcases hi with rfl | rfl | rfl
      · rw [s1, ← e1]; simp
      · rw [s2, ← e2]; simp
      · rw [s3, ← e3]; simp
    · rw [List.getElem?_eq_none (by simp; omega), List.getElem?_eq_none (by rw [rgCells_len]; omega)]
theorem rowr_of_own {w : World} {B : Nat} {v : Value} {n : Nat} {d : Nat → Reg} (h : w.ownsRow B 30 3 v n (rgCells n d)) : RowRV w B v n d := by
  rcases h.2 with ⟨rfl, rfl⟩ | ⟨g, cap, cur, rfl, hB, h1, h2, h3, h4, h5⟩
  · exact .inl ⟨rfl, rfl⟩
  · refine .inr ⟨g, cap, rfl, hB, cur, h1, ⟨h2, h3⟩, h4, fun i hi => ?_⟩
    obtain ⟨s1, s2, s3⟩ := rgCells_get (d := d) hi
    rw [← h5] at s1 s2 s3
    rw [List.getElem?_take_of_lt (by omega)] at s1 s2 s3
    exact ⟨by simpa using s1, by simpa using s2, by simpa using s3⟩
theorem region_info : (Try.prog.info? 30).map (fun i => (i.zero, i.size, i.bytes)) = some (some (.agg #[.int .i64 0, .int .i64 0, .int .i64 0]), 3, 24) := by kernel_rfl
theorem RowRV.only {w w' : World} {B n : Nat} {v : Value} {d : Nat → Reg} {row : Option Nat} (h : RowRV w B v n d) (hb : w.grownBy w' row) (hne : v.ownBlock = none ∨ v.ownBlock ≠ row) : RowRV w' B v n d := by
  rcases h with ⟨rfl, rfl⟩ | ⟨g, cap, rfl, hB, hr⟩
  · exact .inl ⟨rfl, rfl⟩
  · exact .inr ⟨g, cap, rfl, hB, hr.only hb (by simpa [Value.ownBlock] using hne.symm)⟩
theorem RowRV.form {w : World} {B n : Nat} {v : Value} {d : Nat → Reg} (h : RowRV w B v n d) : ∃ A c, v = .slice A n c := by
  rcases h with ⟨rfl, rfl⟩ | ⟨g, cap, rfl, _⟩
  · exact ⟨_, _, rfl⟩
  · exact ⟨_, _, rfl⟩
theorem RowRV.blk {w : World} {B n : Nat} {v : Value} {d : Nat → Reg} (h : RowRV w B v n d) : ∀ k, v.ownBlock = some k → B ≤ k ∧ k < w.heap.size := by
  intro k hk
  rcases h with ⟨rfl, rfl⟩ | ⟨g, cap, rfl, hB, hr⟩
  · simp [Value.ownBlock] at hk
  · simp [Value.ownBlock] at hk
    subst hk
    exact ⟨hB, hr.lt⟩
theorem RowRV.regs {w : World} {B n : Nat} {v : Value} {d : Nat → Reg} (h : RowRV w B v n d) : ∃ A c, v = .slice A n c ∧ Regs w A n c d := by
  rcases h with ⟨rfl, rfl⟩ | ⟨g, c, rfl, _, h⟩
  · exact ⟨none, 0, rfl, fun _ => ⟨rfl, rfl⟩, fun h => absurd h (by omega)⟩
  · exact ⟨_, c, rfl, h.regs n (Nat.le_refl _) c⟩
theorem rgCells_upd (n : Nat) (o : Nat → Reg) (s : Reg) : rgCells n o ++ [.int .i64 s.1, .int .i64 s.2.1, .int .i64 s.2.2] = rgCells (n + 1) (Sr.upd o n s) := by
  rw [rgCells_succ]
  have h1 : Sr.upd o n s n = s := by simp [Sr.upd]
  have h2 : rgCells n (Sr.upd o n s) = rgCells n o := by
    unfold rgCells
    rw [List.flatMap_def, List.flatMap_def]
    congr 1
    apply List.map_congr_left
    intro i hi
    have : i ≠ n := by have := List.mem_range.1 hi; omega
    simp [Sr.upd, this]
  rw [h1, h2]
theorem one_cells3 (w : World) (p q s : Int) (t : TypeId) : ∀ j u, [Value.int .i64 p, Value.int .i64 q, Value.int .i64 s][j]? = some u → (w.alloc (.cells #[.int .i64 p, .int .i64 q, .int .i64 s] t)).cell? ((⟨w.heap.size, 0, none⟩ : Addr).add j) = some u := by
  intro j u hj
  match j, hj with
  | 0, hj => simp at hj; subst hj; exact (Blk.new w t #[.int .i64 p, .int .i64 q, .int .i64 s]).cell 0
  | 1, hj => simp at hj; subst hj; exact (Blk.new w t #[.int .i64 p, .int .i64 q, .int .i64 s]).cell 1
  | 2, hj => simp at hj; subst hj; exact (Blk.new w t #[.int .i64 p, .int .i64 q, .int .i64 s]).cell 2
theorem one_cell3' (p q s : Int) : ∀ u ∈ [Value.int .i64 p, Value.int .i64 q, Value.int .i64 s], u.oneCell' = true := by
  intro u hu; simp at hu; rcases hu with rfl | rfl | rfl <;> rfl

theorem Rng_lt {w : World} {b r : Nat} {L rem : List Reg} {cnt : Nat} (h : Rng w b r L rem cnt) : r < w.heap.size := by
  obtain ⟨D, left, h3, h4⟩ := h
  exact h3.lt
/-- What All answers: the regions, sorted by their bases. -/
def AllV (L : List Reg) (w : World) (e : Ending) (w' : World) : Prop :=
  ∃ v n d, e = .returned v ∧ RowRV w' w.heap.size v n d ∧ (Sr.lst n d).Perm L ∧ Sr.Sorted d 0 n ∧ Below w.heap.size w w'

set_option maxHeartbeats 3200000 in
theorem all_any {w : World} {B t : Nat} {L : List Reg} (h : TabV w B t L) (hl : L.length ≤ 8) (hnd : (L.map (·.1)).Nodup) : Calls Try.prog 12 #[.pointer (some ⟨t, 0, none⟩)] w (AllV L w) := by
  obtain ⟨i0, hi0, hz0, hz1, hz2⟩ := info_parts region_info
  obtain ⟨b, h1, h2, h3, h4⟩ := h
  have c0 := h3.cell 0
  simp at c0
  have HM := Lib.hid h4
  have HND := Lib.hid hnd
  have HML := Lib.hid h4.lt
  clear h1 h2 h3 h4 hnd
  go_enter Try.func12, Try.ntmps12
  go_wp2_with (at_range; refine wpList_range_reg rfl _ rfl b L rfl HM.out HND.out ?_; intro w1 cnt hr hg1 hs1)
  go_frame
  have RN := Lib.hid hr
  have G1 := Lib.hid hg1
  clear hr hg1 c0
  have LT := Lib.hid (show b < w.heap.size from HML.out)
  have hb1 : Below w.heap.size w w1 := below_of_only G1.out (Nat.le_refl _) (by simp)
  have B1 := Lib.hid hb1
  have S1 := Lib.hid hs1
  clear hb1 hs1
  go_loopw [3] (fun v wr => ∃ (n : Nat) (d : Nat → Reg) (rem : List Reg) (cnt : Nat), RowRV wr w1.heap.size v n d ∧ Rng wr b w.heap.size L rem cnt ∧ Hid ((Sr.lst n d ++ rem).Perm L) ∧ Below w.heap.size w wr) (fun v wr => wr.rangeLeft b w.heap.size)
  case atStart => exact ⟨0, fun _ => (0, 0, 0), L, _, .inl ⟨rfl, rfl⟩, RN.out, Lib.hid (by simp [Sr.lst]), B1.out⟩
  case round =>
    obtain ⟨n, d, rem, cnt', hv, hrn, HP, hb⟩ := hrel
    have HV := Lib.hid hv
    have HRN := Lib.hid hrn
    have HB := Lib.hid hb
    have hlen : n + rem.length = L.length := by
      have := HP.out.length_eq
      rw [List.length_append, Sr.lst_len] at this
      exact this
    have HLEN := Lib.hid hlen
    clear hv hrn hb hlen RN
    obtain ⟨Av, cv, rfl⟩ := HV.out.form
    go_wp2_with (at_next; refine wpList_next_reg rfl _ rfl b _ L rem cnt' rfl HRN.out ?_ ?_)
    · intro hrem
      subst hrem
      have hp : (Sr.lst n d).Perm L := by have := HP.out; rwa [List.append_nil] at this
      have HPN := Lib.hid hp
      have hn8 : n ≤ 8 := by have := HLEN.out; simp at this; omega
      clear hp
      rcases HV.out with ⟨hvn, rfl⟩ | ⟨g, cap, hvg, hgB, hrow⟩
      · obtain ⟨rfl, rfl⟩ : Av = none ∧ cv = 0 := by injection hvn with e1 e2 e3; exact ⟨e1, e3⟩
        clear hvn
        go_wp2_with (go_at_call 22; refine (sortr_nil _).mono ?_; rintro e w2 ⟨rfl, b2⟩; have B2 := Lib.hid (HB.out.trans (b2.mono HB.out.size)); clear b2)
        go_ret
        exact ⟨_, 0, d, rfl, .inl ⟨rfl, rfl⟩, HPN.out, fun p q _ _ h => by omega, B2.out⟩
      · obtain ⟨rfl, rfl⟩ : Av = some ⟨g, 0, none⟩ ∧ cv = cap := by injection hvg with e1 e2 e3; exact ⟨e1, e3⟩
        have hs := sortr_any g n cv d wr hrow hn8
        have HSO := Lib.hid hs
        clear hvg hs hrow
        go_wp2_with (go_at_call 22; refine HSO.out.mono ?_; rintro e w2 ⟨rfl, h2⟩; have H2 := Lib.hid h2; clear h2)
        go_ret
        obtain ⟨d', p1, p2, p3, p4⟩ := H2.out
        have hgw : w.heap.size ≤ g := by have := S1.out; omega
        exact ⟨_, n, d', rfl, .inr ⟨g, cv, rfl, hgw, p3⟩, (Sr.lst_perm p1).trans HPN.out, p2, HB.out.trans (below_of_only p4 HB.out.size (fun k hk => by injection hk with hk; omega))⟩
    · intro x1 x2 x3 rem' wn cnt2 hperm hrn2 hlt hgn hsn hen
      have hne : ∀ k, (Value.slice Av n cv).ownBlock = some k → w1.heap.size ≤ k := fun k hk => (HV.out.blk k hk).1
      have hVN : RowRV wn w1.heap.size (.slice Av n cv) n d := HV.out.only hgn (.inr (fun e => by have := hne _ e; have := S1.out; omega))
      have hBN : Below w.heap.size w wn := HB.out.trans (below_of_only hgn HB.out.size (fun k hk => by injection hk with hk; omega))
      have hP2 : (Sr.lst (n + 1) (Sr.upd d n (x1, x2, x3)) ++ rem').Perm L := by
        refine List.Perm.trans ?_ HP.out
        rw [Sr.lst_succ]
        have e1 : Sr.lst n (Sr.upd d n (x1, x2, x3)) = Sr.lst n d := Sr.lst_congr fun k hk => by
          have : k ≠ n := by omega
          simp [Sr.upd, this]
        have e2 : Sr.upd d n (x1, x2, x3) n = (x1, x2, x3) := by simp [Sr.upd]
        rw [e1, e2, List.append_assoc]
        exact (hperm.append_left (Sr.lst n d)).symm
      have hn8 : n + 1 ≤ 8 := by
        have h1 := HLEN.out
        have h2 := hperm.length_eq
        simp at h2
        omega
      have hw1 : w1.heap.size ≤ wn.heap.size := by
        have h1 := Rng_lt hrn2
        have := S1.out
        omega
      have HVN := Lib.hid hVN
      have HBN := Lib.hid hBN
      have HP2 := Lib.hid hP2
      have HRNN := Lib.hid hrn2
      have HLT := Lib.hid hlt
      have HW1 := Lib.hid hw1
      have HNE := Lib.hid hne
      clear hVN hBN hP2 hrn2 hlt hperm hw1 hsn hgn hne
      go_wp2_with (at_builtin; refine wpList_append_own_at _ rfl (.tmp 17) (.tmp 19) 22 rfl w1.heap.size 30 i0 _ 3 24 Try.underlying22 hi0 hz0 hz1 hz2 rfl (by decide) (.slice Av n cv) n (rgCells n d) rfl (World.ownsRow.alloc (World.ownsRow.alloc (ownr_of_row HVN.out) _) _) ⟨wn.heap.size + 1, 0, none⟩ 1 1 [.int .i64 x1, .int .i64 x2, .int .i64 x3] rfl rfl (by simpa using one_cells3 (wn.alloc (.cells #[.int .i64 x1, .int .i64 x2, .int .i64 x3] 30)) x1 x2 x3 30) (one_cell3' _ _ _) (by unfold maxLen; omega) (by omega) (by have := HW1.out; simp; omega) ?_; intro v2 w5 hown2 hg2 _ hat2)
      have hg5 : wn.grownBy w5 (Value.slice Av n cv).ownBlock := only_trans (only_alloc (only_alloc (only_refl _ _) _) _) hg2
      have hrow : RowRV w5 w1.heap.size v2 (n + 1) (Sr.upd d n (x1, x2, x3)) := rowr_of_own (by rw [← rgCells_upd]; exact hown2)
      have hrg : Rng w5 b w.heap.size L rem' cnt2 := HRNN.out.only hg5 (fun e => by have := HNE.out _ e.symm; have := S1.out; have := LT.out; omega) (fun e => by have := HNE.out _ e.symm; have := S1.out; omega)
      refine ⟨⟨n + 1, _, rem', cnt2, hrow, hrg, HP2, HBN.out.trans (below_of_only hg5 HBN.out.size (fun k hk => by have := HNE.out _ hk; have := S1.out; omega))⟩, ?_⟩
      rw [hrg.left_eq, HRN.out.left_eq]
      exact HLT.out

theorem all_nil (w : World) : Calls Try.prog 12 #[.pointer none] w fun r w' => r = .returned (.slice none 0 0) ∧ w = w' := by
  go_enter Try.func12, Try.ntmps12
  go_wp2
  go_ret
  exact ⟨rfl, rfl⟩

/-- Whose a place is. -/
def backV (L : List Reg) (x : Int) : Int × Int :=
  match L.find? (fun r => holdsB (spn r) x) with
  | none => (0, 0)
  | some r => (r.1, x - r.2.1)
theorem back_nil (x : Int) (w : World) : Calls Try.prog 18 #[.pointer none, .int .i64 x] w fun r w' => r = .returned (.tuple #[.int .i64 0, .int .i64 0]) ∧ w = w' := by
  go_enter Try.func18, Try.ntmps18
  go_wp2_with (go_at_call 12; refine (all_nil _).mono ?_; rintro e w1 ⟨rfl, rfl⟩)
  refine wp_loop_rounds 1 ?_
  rw [rounds_succ]
  go_wp2
  go_ret2
  exact ⟨rfl, rfl⟩
end Go.Proofs.Ythlapnljinkekaa
