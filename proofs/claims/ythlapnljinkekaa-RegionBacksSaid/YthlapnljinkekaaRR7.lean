/- A row of regions of the call's own; the library's insertion sort at regions, and SortFunc of at most eight. -/
import Derived.Test.YthlapnljinkekaaRR6
import Derived.Laws.AppendOwnNone
import Derived.Maps.AppendAt
namespace Go.Proofs.Ythlapnljinkekaa
open Go.RowKit Go.Lib Go.Sort
set_option linter.unusedVariables false

/-- Block g holds, as its first n elements, the regions d. -/
def RowR (w : World) (g n cap : Nat) (d : Nat → Reg) : Prop :=
  ∃ cur : Array Value, w.heap[g]? = some (.cells cur 30 (0, 0)) ∧ (n ≤ cap ∧ cap ≤ maxLen) ∧ cur.size = cap * 3 ∧ ∀ i, i < n → cur[i * 3]? = some (.int .i64 (d i).1) ∧ cur[i * 3 + 1]? = some (.int .i64 (d i).2.1) ∧ cur[i * 3 + 2]? = some (.int .i64 (d i).2.2)
section
variable {w w' : World} {g n cap : Nat} {d : Nat → Reg}
theorem RowR.cells (h : RowR w g n cap d) {i : Nat} (hi : i < n) : w.cell? ⟨g, i * 3, none⟩ = some (.int .i64 (d i).1) ∧ w.cell? ⟨g, i * 3 + 1, none⟩ = some (.int .i64 (d i).2.1) ∧ w.cell? ⟨g, i * 3 + 2, none⟩ = some (.int .i64 (d i).2.2) := by
  obtain ⟨cur, h1, _, _, h4⟩ := h
  obtain ⟨e0, e1, e2⟩ := h4 i hi
  simp [World.cell?, h1, e0, e1, e2]
theorem RowR.free (h : RowR w g n cap d) (i : Nat) : w.frozen? ⟨g, i, none⟩ = false := by
  obtain ⟨cur, h1, _⟩ := h
  simp [World.frozen?, h1]
theorem RowR.lt (h : RowR w g n cap d) : g < w.heap.size := by
  obtain ⟨cur, h1, _⟩ := h
  exact lt_of_block h1
theorem RowR.room (h : RowR w g n cap d) : n ≤ cap ∧ cap ≤ maxLen := by
  obtain ⟨cur, h1, h2, h3, h4⟩ := h
  exact h2
theorem RowR.only {row : Option Nat} (h : RowR w g n cap d) (hb : w.grownBy w' row) (hg : some g ≠ row) : RowR w' g n cap d := by
  have hl := h.lt
  obtain ⟨cur, h1, h2⟩ := h
  exact ⟨cur, (hb.block g hl hg).trans h1, h2⟩
theorem RowR.below (h : RowR w g n cap d) (hb : Below w.heap.size w w') : RowR w' g n cap d := h.only (only_far hb) (by simp)
theorem RowR.drewN (h : RowR w g n cap d) (k : Nat) : RowR (w.drewN k) g n cap d := h
theorem RowR.put (h : RowR w g n cap d) {i : Nat} (hi : i < n) (p : Reg) : RowR (((w.setCell ⟨g, i * 3, none⟩ (.int .i64 p.1)).setCell ⟨g, i * 3 + 1, none⟩ (.int .i64 p.2.1)).setCell ⟨g, i * 3 + 2, none⟩ (.int .i64 p.2.2)) g n cap (Sr.upd d i p) := by
  obtain ⟨cur, h1, h2, h3, h4⟩ := h
  refine ⟨((cur.setIfInBounds (i * 3) (.int .i64 p.1)).setIfInBounds (i * 3 + 1) (.int .i64 p.2.1)).setIfInBounds (i * 3 + 2) (.int .i64 p.2.2), ?_, h2, by simpa using h3, fun k hk => ?_⟩
  · simp [World.setCell, Array.getElem?_modify, h1]
  · obtain ⟨e0, e1, e2⟩ := h4 k hk
    have s2 : k * 3 + 2 < cur.size := (Array.getElem?_eq_some_iff.1 e2).1
    have s1 : k * 3 + 1 < cur.size := by omega
    have s0 : k * 3 < cur.size := by omega
    by_cases hki : k = i
    · subst hki
      have n1 : ¬ k * 3 + 1 = k * 3 := by omega
      have n2 : ¬ k * 3 + 2 = k * 3 := by omega
      have n3 : ¬ k * 3 + 2 = k * 3 + 1 := by omega
      have n4 : ¬ k * 3 = k * 3 + 1 := by omega
      have n5 : ¬ k * 3 = k * 3 + 2 := by omega
      have n6 : ¬ k * 3 + 1 = k * 3 + 2 := by omega
      simp [Array.getElem?_setIfInBounds, Sr.upd, s0, s1, s2, n1, n2, n3, n4, n5, n6]
    · have n1 : ¬ i * 3 + 1 = k * 3 := by omega
      have n2 : ¬ i * 3 = k * 3 := by omega
      have n3 : ¬ i * 3 + 1 = k * 3 + 1 := by omega
      have n4 : ¬ i * 3 = k * 3 + 1 := by omega
      have n5 : ¬ i * 3 + 2 = k * 3 := by omega
      have n6 : ¬ i * 3 + 2 = k * 3 + 1 := by omega
      have n7 : ¬ i * 3 + 2 = k * 3 + 2 := by omega
      have n8 : ¬ i * 3 + 1 = k * 3 + 2 := by omega
      have n9 : ¬ i * 3 = k * 3 + 2 := by omega
      simp [Array.getElem?_setIfInBounds, Sr.upd, hki, n1, n2, n3, n4, n5, n6, n7, n8, n9, e0, e1, e2]
theorem RowR.regs (h : RowR w g n cap d) (k : Nat) (hk : k ≤ n) (c : Nat) : Regs w (some ⟨g, 0, none⟩) k c d :=
  ⟨fun e => (by cases e), fun _ => ⟨g, 0, rfl, h.lt, fun i hi => by rw [Nat.zero_add]; exact h.cells (by omega)⟩⟩
end

theorem cmpr_any (a b : Reg) (w : World) : Calls Try.prog 23 #[rgv a, rgv b] w fun r w' => r = .returned (.int .i64 (Sr.cmpS a b)) ∧ w.grownBy w' none := by
  obtain ⟨a1, a2, a3⟩ := a
  obtain ⟨b1, b2, b3⟩ := b
  have hc : Sr.cmpS (a1, a2, a3) (b1, b2, b3) = So.cmpI a2 b2 := rfl
  have HC := Lib.hid hc
  clear hc
  go_enter Try.func23, Try.ntmps23
  go_wp2_with (go_at_call 24; refine (compare_any _ _ _).mono ?_; rintro e w' ⟨rfl, rfl⟩)
  go_ret
  exact ⟨ret_int (by rw [HC.out]), only_alloc (only_alloc (only_refl _ _) _) _⟩

/-- The row from a on, up to b, has been put in order. -/
def SortsR (g n cap a b : Nat) (d : Nat → Reg) (w w' : World) : Prop := ∃ d', Sr.Perm a b d d' ∧ Sr.Sorted d' a b ∧ RowR w' g n cap d' ∧ w.grownBy w' (some g)

set_option maxHeartbeats 1600000 in
theorem insertr_any (g n cap a b : Nat) (d : Nat → Reg) (w : World) (h : RowR w g n cap d) (hab : a ≤ b) (hb : b ≤ n) (hn : n ≤ 4611686018427387904) :
    Calls Try.prog 34 #[.slice (some ⟨g, 0, none⟩) n cap, .int .i64 a, .int .i64 b, .func (.func 23) #[] #[]] w fun r w' => r = .returned (.tuple #[]) ∧ SortsR g n cap a b d w w' := by
  have H := Lib.hid h
  clear h
  go_enter Try.func34, Try.ntmps34
  go_wp2
  go_loopw [8] (fun i wr => ∃ (k : Nat) (e : Nat → Reg), i = .int .i64 k ∧ a + 1 ≤ k ∧ (k ≤ b ∨ k = a + 1) ∧ Hid (Sr.Perm a b d e) ∧ Hid (Sr.Sorted e a k) ∧ RowR wr g n cap e ∧ w.grownBy wr (some g)) (fun i _ => b - (intOf i).toNat)
  case atStart => exact ⟨a + 1, d, by go_num, by omega, by omega, Sr.Perm.refl _ _ _, Sr.Sorted.one _ _, H.out, only_refl _ _⟩
  case round =>
    obtain ⟨k, e, rfl, hk1, hk2, HP, HS, hR, hg⟩ := hrel
    have HR := Lib.hid hR
    have HG := Lib.hid hg
    clear hR hg
    by_cases hkb : k < b
    · obtain ⟨wo, hwo⟩ : ∃ wo : World, wo = wr := ⟨_, rfl⟩
      subst hwo
      go_wp2
      go_loopw [9] (fun i wr => ∃ (j : Nat) (f : Nat → Reg), i = .int .i64 j ∧ a ≤ j ∧ j ≤ k ∧ Hid (Sr.Perm a b d f) ∧ Hid (Sr.Ins f a k j) ∧ RowR wr g n cap f ∧ w.grownBy wr (some g)) (fun i _ => (intOf i).toNat)
      case atStart => exact ⟨k, e, rfl, by omega, by omega, HP, Sr.Ins.start HS.out, HR.out, HG.out⟩
      case round =>
        obtain ⟨j, f, rfl, hj1, hj2, HPf, HI, hR2, hg2⟩ := hrel
        have HR2 := Lib.hid hR2
        have HG2 := Lib.hid hg2
        clear hR2 hg2
        by_cases hja : a < j
        · obtain ⟨jp, rfl⟩ : ∃ jp, j = jp + 1 := ⟨j - 1, by omega⟩
          obtain ⟨c0, c1, c2⟩ := HR2.out.cells (show jp + 1 < n by omega)
          obtain ⟨c3, c4, c5⟩ := HR2.out.cells (show jp < n by omega)
          obtain ⟨x, hx⟩ : ∃ x, x = f (jp + 1) := ⟨_, rfl⟩
          obtain ⟨y, hy⟩ : ∃ y, y = f jp := ⟨_, rfl⟩
          rw [← hx] at c0 c1 c2
          rw [← hy] at c3 c4 c5
          have HX := Lib.hid hx
          have HY := Lib.hid hy
          clear hx hy
          have i1 : (jp : Int) + 1 < (n : Int) := by omega
          have i3 : (jp : Int) < (n : Int) := by omega
          have i4 : (a : Int) < (jp : Int) + 1 := by omega
          have i5 : (0 : Int) ≤ (jp : Int) + 1 := by omega
          have i6 : IntKind.i64.wrap (jp : Int) = (jp : Int) := by rw [IntKind.wrap_i64]; omega
          have i7 : ((jp : Int) + 1).toNat = jp + 1 := by omega
          have hc := Sr.cmpS_neg x y
          obtain ⟨c, hcc⟩ : ∃ c, c = Sr.cmpS x y := ⟨_, rfl⟩
          have hcall := fun W => cmpr_any x y W
          simp only [← hcc] at hcall
          rw [← hcc] at hc
          have HCALL := Lib.hid hcall
          have HC := Lib.hid hc
          clear hcall hc hcc
          have k0 := fun d os => cell_regrown c0 d os
          have k1 := fun d os => cell_regrown c1 d os
          have k2 := fun d os => cell_regrown c2 d os
          have k3 := fun d os => cell_regrown c3 d os
          have k4 := fun d os => cell_regrown c4 d os
          have k5 := fun d os => cell_regrown c5 d os
          clear c0 c1 c2 c3 c4 c5
          go_wp2
          refine wp_region_quiet_below (by kernel_rfl) (by kernel_rfl) ?_
          repeat (quiet_step ((go_at_call 23; exact Calls.regrown_of ((HCALL.out _).mono fun _ _ ⟨h1, h2⟩ => ⟨h1, below_of_only h2 (Nat.le_refl _) (by simp)⟩))))
          refine wpQuiet_nil ?_
          rintro _ ⟨⟨dq, osq⟩, rfl⟩
          have hb2 := below_regrown wr dq osq
          generalize grow (redrawn wr dq) osq = w2 at hb2 ⊢
          have hR3 := HR2.out.below hb2
          by_cases hcn : c < 0
          · obtain ⟨c0, c1, c2⟩ := hR3.cells (show jp + 1 < n by omega)
            obtain ⟨c3, c4, c5⟩ := hR3.cells (show jp < n by omega)
            have f0 := hR3.free ((jp + 1) * 3)
            have f1 := hR3.free ((jp + 1) * 3 + 1)
            have f2 := hR3.free ((jp + 1) * 3 + 2)
            have f3 := hR3.free (jp * 3)
            have f4 := hR3.free (jp * 3 + 1)
            have f5 := hR3.free (jp * 3 + 2)
            rw [← HX.out] at c0 c1 c2
            rw [← HY.out] at c3 c4 c5
            have HR3 := Lib.hid hR3
            have HB2 := Lib.hid hb2
            clear hR3 hb2
            go_wp2
            go_region
            all_goals
              go_wp2
              go_roundw
              case rel =>
                refine ⟨jp, Sr.swp f (jp + 1) jp, by go_num, by omega, by omega, HPf.out.trans (Sr.Perm.swp f ⟨by omega, by omega⟩ ⟨by omega, by omega⟩), HI.out.step (by omega) hj2 (by show Sr.lt (f (jp + 1)) (f jp); rw [← HX.out, ← HY.out]; exact HC.out.1 (by assumption)), ?_, ?_⟩
                · have q := ((HR3.out.put (show jp + 1 < n by omega) y).put (show jp < n by omega) x).drewN 1
                  rw [HX.out, HY.out] at q
                  try rw [HX.out, HY.out]
                  exact q
                · exact only_drewN (only_put (only_put (only_put (only_put (only_put (only_put (only_trans HG2.out (only_any ⟨HB2.out.os, HB2.out.tape, HB2.out.output, HB2.out.size, fun i hi _ => HB2.out.block i hi⟩ _)) _ _) _ _) _ _) _ _) _ _) _ _) 1
              case measure => simp [intOf] <;> omega
          · have hR4 := Lib.hid hR3
            have HB2 := Lib.hid hb2
            clear hR3 hb2
            go_wp2
            go_roundw
            case rel =>
              refine ⟨k + 1, f, by go_num, by omega, by omega, HPf, HI.out.done hj2 hj1 (.inr (by show ¬ Sr.lt (f (jp + 1)) (f jp); rw [← HX.out, ← HY.out]; exact fun h => absurd (HC.out.2 h) (by omega))), hR4.out, ?_⟩
              exact only_trans HG2.out (only_any ⟨HB2.out.os, HB2.out.tape, HB2.out.output, HB2.out.size, fun i hi _ => HB2.out.block i hi⟩ _)
            case measure => simp [intOf] <;> omega
        · obtain rfl : j = a := by omega
          go_wp2
          go_quiet (fail)
          go_wp2
          go_roundw
          case rel => exact ⟨k + 1, f, by go_num, by omega, by omega, HPf, HI.out.done hj2 hj1 (.inl rfl), HR2.out, only_drewN HG2.out _⟩
          case measure => simp [intOf] <;> omega
    · go_wp2
      go_end0
      exact ⟨rfl, e, HP.out, fun p q h1 h2 h3 => HS.out p q h1 h2 (by omega), HR.out, HG.out⟩
end Go.Proofs.Ythlapnljinkekaa
