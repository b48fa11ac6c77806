/- CodeAll, walked. -/
import Derived.Test.YtgmobncmkembiaaDoorKE1
namespace Go.Proofs.YtgmobncmkembiaaDoor
open Go.RowKit Go.Lib Go.Sort
set_option linter.unusedVariables false

theorem only_re (w : World) (d : Nat) (os : Array Obj) : w.grownBy (grow (redrawn w d) os) none := by
  have h := below_regrown w d os
  exact ⟨h.os, h.tape, h.output, h.size, fun i hi _ => h.block i hi⟩
theorem least {P : Nat → Prop} (h : ∃ j, P j) : ∃ j, P j ∧ ∀ i, i < j → ¬ P i := by
  obtain ⟨j, hj⟩ := h
  induction j using Nat.strongRecOn with
  | ind j ih =>
    by_cases q : ∃ i, i < j ∧ P i
    · obtain ⟨i, hi, hp⟩ := q
      exact ih i hi hp
    · exact ⟨j, hj, fun i hi hp => q ⟨i, hi, hp⟩⟩
theorem rget_at {t : ByteArray} (hs : t.size ≤ 400) {j p : Nat} (hp : p = 4 * j) (h : p ≤ t.size) (W : World) : Calls Tryd.prog 13 #[.string (t.extract p t.size)] W fun e w' => e = .returned (if eA t j = 0 then .tuple #[.agg #[.int .u8 (gb t p), .int .i64 (gb t (p + 1)), .int .i64 (gw t (p + 2))], .int .i64 0] else .tuple #[.agg #[.int .u8 0, .int .i64 0, .int .i64 0], .int .i64 (eA t j)]) ∧ W.grownBy w' none := by
  subst hp
  rw [← getV_cut h]
  exact rget_any (t.extract (4 * j) t.size) (by simp; omega) W
theorem row_at {w : World} {t : ByteArray} {A : Option Addr} {n c k : Nat} (h : RowZ 3 w (.slice A n c) n (cIL t n)) (hk : k < n) : ∃ g off, A = some ⟨g, off, none⟩ ∧ w.cell? ⟨g, off + k * 3, none⟩ = some (.int .u8 (gb t (4 * k))) ∧ w.cell? ⟨g, off + k * 3 + 1, none⟩ = some (.int .i64 (gb t (4 * k + 1))) ∧ w.cell? ⟨g, off + k * 3 + 2, none⟩ = some (.int .i64 (gw t (4 * k + 2))) := by
  rcases h with ⟨hl, ⟨e, h0⟩ | ⟨g, off, cap', e, h1, h2, h3, h4, h5⟩⟩
  · omega
  · injection e with e1 e2 e3
    subst e1
    have g0 : ∀ q u, q < 3 → (cI t k)[q]? = some u → w.cell? ⟨g, off + k * 3 + q, none⟩ = some u := fun q u hq hu => by
      rw [Nat.add_assoc]
      exact h5 _ u (by rw [cIL_get hk hq]; exact hu)
    exact ⟨g, off, rfl, g0 0 _ (by omega) rfl, g0 1 _ (by omega) rfl, g0 2 _ (by omega) rfl⟩
set_option maxRecDepth 20000 in
set_option maxHeartbeats 3200000 in
theorem codeall_bad (t : ByteArray) (hs : t.size ≤ 400) (j0 : Nat) (hj0 : 4 * j0 < t.size) (hz : ∀ i, i < j0 → eA t i = 0) (he : eA t j0 ≠ 0) (w : World) (hG : Nm w) : Calls Tryd.prog 5 #[.string t] w fun e w' => e = .returned (.bool true) ∧ Below w.heap.size w w' := by
  have HL := Lib.hid (fun W (h : Below w.heap.size w W) => live19_any W (hG.below h hG.pos))
  obtain ⟨p0, hp0⟩ : ∃ p0 : Nat, p0 = 4 * j0 := ⟨_, rfl⟩
  have HALL := Lib.hid (show Calls Tryd.prog 14 #[.string t] w (fun e w' => e = .returned (.tuple #[.slice none 0 0, .int .i64 (p0 : Int), .int .i64 (eA t j0)]) ∧ Below w.heap.size w w') from (all_any t hs w hG).mono fun e w' h => by
    obtain ⟨j, h1, h2, h3, h4, h5⟩ | ⟨n, A, c, h1, h2, h3, h4⟩ := h
    · obtain rfl : j = j0 := by
        rcases Nat.lt_trichotomy j j0 with q | q | q
        · exact absurd (hz j q) h3
        · exact q
        · exact absurd (h2 j0 q) he
      rw [hp0]
      exact ⟨h4, h5⟩
    · exact absurd (h2 j0 (by omega)) he)
  have HZ := Lib.hid hz
  have i400 : ¬ (400 : Int) < (t.size : Int) := by omega
  have HP0 := Lib.hid hp0
  clear hG hz hp0
  go_enter Tryd.func5, Tryd.ntmps5
  go_wp2_with (go_at_call 14; (with_reducible refine HALL.out.mono ?_); rintro e w1 ⟨rfl, b1⟩; have B1 := Lib.hid b1; clear b1)
  have R0 : Hid (AiS w1 t (.slice (some ⟨w1.heap.size, 0, none⟩) 0 0) (w1.alloc (.cells #[] 24)) 0) := Lib.hid ⟨RowZ.empty 3 0 (by simp), fun k hk => by simp [Value.ownBlock] at hk; omega, (Below.refl _ _).alloc (Nat.le_refl _) _⟩
  go_loopw [6, 7] (fun s y wr => ∃ (j p : Nat) (A : Option Addr) (c : Nat), s = .slice A j c ∧ y = .int .i64 p ∧ Hid (p = 4 * j) ∧ p ≤ t.size ∧ j ≤ j0 ∧ Hid (AiS w1 t (.slice A j c) wr j)) (fun s y _ => t.size - (intOf y).toNat)
  case atStart => exact ⟨0, 0, _, 0, rfl, rfl, Lib.hid rfl, by omega, by omega, R0⟩
  case round =>
    obtain ⟨j, p, A, c, rfl, rfl, HP, hp, hjl, HR⟩ := hrel
    have i1 : (p : Int) < (t.size : Int) := by have := HP.out; omega
    have i2 : (0 : Int) ≤ (p : Int) := by omega
    have i3 : (p : Int) ≤ (t.size : Int) := by omega
    have u1 : IntKind.i64.wrap ((p : Int) + 4) = ((p + 4 : Nat) : Int) := by rw [IntKind.wrap_i64]; omega
    have HGT := Lib.hid (rget_at hs HP.out hp wr)
    by_cases hq : j = j0
    · subst hq
      rw [if_neg he] at HGT
      obtain rfl : p = p0 := by have := HP.out; have := HP0.out; omega
      have BW := Lib.hid (B1.out.trans (HR.out.2.2.mono B1.out.size))
      have HE0 := Lib.hid he
      generalize eA t j = e0 at HGT HE0 HALL ⊢
      have he' : ¬ e0 = 0 := HE0.out
      have hed : decide (e0 = 0) = false := decide_eq_false he'
      clear HR HP HALL R0 HZ he
      go_wp2_with (first
        | (go_at_call 13; (with_reducible refine HGT.out.mono ?_); rintro e w2 ⟨rfl, g2⟩; have BV := Lib.hid (show Below w.heap.size w (w2.alloc (.cells #[.int .u8 0, .int .i64 0, .int .i64 0] 24)) from by (have q := BW.out; have q2 := q.trans (below_of_only g2 q.size (by simp)); exact q2.alloc q2.size _)); clear g2)
        | (go_at_call 10; (with_reducible refine (HL.out _ BV.out).mono ?_); rintro e w6 ⟨rfl, g6⟩; have B6 := Lib.hid (BV.out.trans (below_of_only g6 BV.out.size (by simp))); clear g6))
      go_ret
      exact ⟨by first | rfl | simp, B6.out⟩
    · have hz0 : eA t j = 0 := HZ.out j (by omega)
      rw [if_pos hz0] at HGT
      have hsz := eA_size hz0
      rw [← HP.out] at hsz
      have HP4 := Lib.hid (show p + 4 = 4 * (j + 1) from by have := HP.out; omega)
      have hj := Lib.hid (show j ≤ 100000 from by have := HP.out; omega)
      clear hz0
      go_upto_region 11 with (go_at_call 13; (with_reducible refine HGT.out.mono ?_); rintro e w2 ⟨rfl, g2⟩; have G2 := Lib.hid g2; clear g2)
      obtain ⟨w3, hw3⟩ : ∃ w3, w3 = w2.alloc (.cells #[.int .u8 (gb t p), .int .i64 (gb t (p + 1)), .int .i64 (gw t (p + 2))] 24) := ⟨_, rfl⟩
      have g3 : w2.grownBy w3 none := by rw [hw3]; exact only_alloc (only_refl _ _) _
      have B3 := (show Blk w3 w2.heap.size 24 #[.int .u8 (gb t p), .int .i64 (gb t (p + 1)), .int .i64 (gw t (p + 2))] from by rw [hw3]; exact Blk.new _ _ _)
      obtain ⟨A2, c2, w5, hk, HR5⟩ := ai_push HR.out hj.out (only_trans (only_trans G2.out g3) (only_alloc (only_refl w3 none) (.cells #[.int .u8 (gb t p), .int .i64 (gb t (p + 1)), .int .i64 (gw t (p + 2))] 24))) (show Blk (w3.alloc (.cells #[.int .u8 (gb t p), .int .i64 (gb t (p + 1)), .int .i64 (gw t (p + 2))] 24)) w3.heap.size 24 #[.int .u8 (gb t (4 * j)), .int .i64 (gb t (4 * j + 1)), .int .i64 (gw t (4 * j + 2))] from by rw [← HP.out]; exact Blk.new _ _ _)
      have HK := Lib.hid hk
      replace HR5 := Lib.hid HR5
      obtain ⟨d0, d1, d2⟩ := in3 B3
      rw [← hw3]
      clear hw3 g3 B3 hk G2 HR HP hj HGT
      go_upto_region 7 with (at_builtin; refine wpList_append_eq rfl (.tmp 53) (.tmp 55) 34 rfl HK.out rfl rfl ?_)
      clear d0 d1 d2 HK
      go_wp2
      go_roundw
      case rel => exact ⟨j + 1, p + 4, A2, c2, rfl, rfl, HP4, hsz, by omega, HR5⟩
      case measure => simp [intOf] <;> omega

set_option maxRecDepth 20000 in
set_option maxHeartbeats 3200000 in
theorem codeall_good (t : ByteArray) (hs : t.size ≤ 400) (n : Nat) (hn : t.size = 4 * n) (hz : ∀ i, i < n → eA t i = 0) (w : World) (hG : Nm w) : Calls Tryd.prog 5 #[.string t] w fun e w' => e = .returned (.bool true) ∧ Below w.heap.size w w' := by
  have HL := Lib.hid (fun W (h : Below w.heap.size w W) => live19_any W (hG.below h hG.pos))
  have HALL := Lib.hid (show Calls Tryd.prog 14 #[.string t] w (fun e w' => ∃ A c, e = .returned (.tuple #[.slice A n c, .int .i64 (t.size : Int), .int .i64 0]) ∧ AiS w t (.slice A n c) w' n) from (all_any t hs w hG).mono fun e w' h => by
    obtain ⟨j, h1, h2, h3, h4, h5⟩ | ⟨m, A, c, h1, h2, h3, h4⟩ := h
    · exact absurd (hz j (by omega)) h3
    · obtain rfl : m = n := by omega
      exact ⟨A, c, h3, h4⟩)
  have HZ := Lib.hid hz
  have i400 : ¬ (400 : Int) < (t.size : Int) := by omega
  have HNN := Lib.hid hn
  clear hG hz hn
  go_enter Tryd.func5, Tryd.ntmps5
  go_wp2_with (go_at_call 14; (with_reducible refine HALL.out.mono ?_); rintro e w1 ⟨A1, c1, rfl, b1⟩; have B1 := Lib.hid b1; clear b1)
  have R0 : Hid (AiS w1 t (.slice (some ⟨w1.heap.size, 0, none⟩) 0 0) (w1.alloc (.cells #[] 24)) 0) := Lib.hid ⟨RowZ.empty 3 0 (by simp), fun k hk => by simp [Value.ownBlock] at hk; omega, (Below.refl _ _).alloc (Nat.le_refl _) _⟩
  go_loopw [6, 7] (fun s y wr => ∃ (j p : Nat) (A : Option Addr) (c : Nat), s = .slice A j c ∧ y = .int .i64 p ∧ Hid (p = 4 * j) ∧ p ≤ t.size ∧ j ≤ n ∧ Hid (AiS w1 t (.slice A j c) wr j)) (fun s y _ => t.size - (intOf y).toNat)
  case atStart => exact ⟨0, 0, _, 0, rfl, rfl, Lib.hid rfl, by omega, by omega, R0⟩
  case round =>
    obtain ⟨j, p, A, c, rfl, rfl, HP, hp, hjl, HR⟩ := hrel
    have i2 : (0 : Int) ≤ (p : Int) := by omega
    have i3 : (p : Int) ≤ (t.size : Int) := by omega
    have u1 : IntKind.i64.wrap ((p : Int) + 4) = ((p + 4 : Nat) : Int) := by rw [IntKind.wrap_i64]; omega
    have HGT := Lib.hid (rget_at hs HP.out hp wr)
    by_cases hq : p < t.size
    · have i1 : (p : Int) < (t.size : Int) := by omega
      have hjn : j < n := by have := HP.out; have := HNN.out; omega
      have hz0 : eA t j = 0 := HZ.out j hjn
      rw [if_pos hz0] at HGT
      have hsz := eA_size hz0
      rw [← HP.out] at hsz
      have HP4 := Lib.hid (show p + 4 = 4 * (j + 1) from by have := HP.out; omega)
      have hj := Lib.hid (show j ≤ 100000 from by have := HP.out; omega)
      clear hz0
      go_upto_region 11 with (go_at_call 13; (with_reducible refine HGT.out.mono ?_); rintro e w2 ⟨rfl, g2⟩; have G2 := Lib.hid g2; clear g2)
      obtain ⟨w3, hw3⟩ : ∃ w3, w3 = w2.alloc (.cells #[.int .u8 (gb t p), .int .i64 (gb t (p + 1)), .int .i64 (gw t (p + 2))] 24) := ⟨_, rfl⟩
      have g3 : w2.grownBy w3 none := by rw [hw3]; exact only_alloc (only_refl _ _) _
      have B3 := (show Blk w3 w2.heap.size 24 #[.int .u8 (gb t p), .int .i64 (gb t (p + 1)), .int .i64 (gw t (p + 2))] from by rw [hw3]; exact Blk.new _ _ _)
      obtain ⟨A2, c2, w5, hk, HR5⟩ := ai_push HR.out hj.out (only_trans (only_trans G2.out g3) (only_alloc (only_refl w3 none) (.cells #[.int .u8 (gb t p), .int .i64 (gb t (p + 1)), .int .i64 (gw t (p + 2))] 24))) (show Blk (w3.alloc (.cells #[.int .u8 (gb t p), .int .i64 (gb t (p + 1)), .int .i64 (gw t (p + 2))] 24)) w3.heap.size 24 #[.int .u8 (gb t (4 * j)), .int .i64 (gb t (4 * j + 1)), .int .i64 (gw t (4 * j + 2))] from by rw [← HP.out]; exact Blk.new _ _ _)
      have HK := Lib.hid hk
      replace HR5 := Lib.hid HR5
      obtain ⟨d0, d1, d2⟩ := in3 B3
      rw [← hw3]
      clear hw3 g3 B3 hk G2 HR HP hj HGT
      go_upto_region 7 with (at_builtin; refine wpList_append_eq rfl (.tmp 53) (.tmp 55) 34 rfl HK.out rfl rfl ?_)
      clear d0 d1 d2 HK
      go_wp2
      go_roundw
      case rel => exact ⟨j + 1, p + 4, A2, c2, rfl, rfl, HP4, hsz, by omega, HR5⟩
      case measure => simp [intOf] <;> omega
    · have i1 : ¬ (p : Int) < (t.size : Int) := by omega
      obtain rfl : j = n := by have := HP.out; have := HNN.out; omega
      clear HGT
      go_wp2
      have HB1 := Lib.hid (B1.out.2.2.trans (HR.out.2.2.mono B1.out.2.2.size))
      have HL1 := Lib.hid (show RowZ 3 wr (.slice A1 j c1) j (cIL t j) from B1.out.1.below HR.out.2.2 (fun i hi => B1.out.1.lt i hi))
      have HL2 := Lib.hid (show RowZ 3 wr (.slice A j c) j (cIL t j) from HR.out.1)
      have hj100 : j ≤ 100 := by have := HNN.out; omega
      clear HALL HZ R0 HR B1 HP hq i1 i2 i3 u1 hp
      go_loopw [10] (fun y wx => ∃ k : Nat, y = .int .i64 k ∧ k ≤ j ∧ Hid (wr.grownBy wx none)) (fun y _ => j - (intOf y).toNat)
      case atStart => exact ⟨0, rfl, by omega, Lib.hid (only_refl _ _)⟩
      case round =>
        obtain ⟨k, rfl, hk, GX⟩ := hrel
        by_cases hkj : k < j
        · have i1 : (k : Int) < (j : Int) := by omega
          have i0 : (0 : Int) ≤ (k : Int) := by omega
          obtain ⟨g1, o1, rfl, a0, a1, a2⟩ := row_at (HL1.out.grown GX.out) hkj
          obtain ⟨g2, o2, rfl, b0, b1, b2⟩ := row_at (HL2.out.grown GX.out) hkj
          generalize (gb t (4 * k) : Int) = x0 at a0 b0
          generalize (gb t (4 * k + 1) : Int) = x1 at a1 b1
          generalize (gw t (4 * k + 2) : Int) = x2 at a2 b2
          have u1 : IntKind.i64.wrap ((k : Int) + 1) = ((k + 1 : Nat) : Int) := by rw [IntKind.wrap_i64]; omega
          have u0 : IntKind.i64.wrap (k : Int) = (k : Int) := by rw [IntKind.wrap_i64]; omega
          have hqn := fun w : World => neq_ins x0 x1 x2 w
          have l0 := fun d os => cell_regrown a0 d os
          have l1 := fun d os => cell_regrown a1 d os
          have l2 := fun d os => cell_regrown a2 d os
          have m0 := fun d os => cell_regrown b0 d os
          have m1 := fun d os => cell_regrown b1 d os
          have m2 := fun d os => cell_regrown b2 d os
          clear a0 a1 a2 b0 b1 b2 HL1 HL2
          go_upto_region 17 with (fail)
          refine wp_region_quiet_below (by kernel_rfl) (by kernel_rfl) ?_
          repeat (go_big_quiet_step (fail))
          refine wpQuiet_nil ?_
          intro w6 hw6
          obtain ⟨p6, rfl⟩ := hw6
          have G6 := Lib.hid (only_trans GX.out (only_re wr p6.d p6.os))
          clear l0 l1 l2 m0 m1 m2
          generalize grow (redrawn wr p6.d) p6.os = w6 at G6 ⊢
          go_wp2
          go_roundw
          case rel => exact ⟨k + 1, by go_num, by omega, G6⟩
          case measure => simp [intOf] <;> omega
        · obtain rfl : k = j := by omega
          have i1 : ¬ (k : Int) < (k : Int) := by omega
          have BF := Lib.hid (HB1.out.trans (below_of_only GX.out HB1.out.size (by simp)))
          clear HL1 HL2
          go_wp2_with (go_at_call 10; (with_reducible refine (HL.out _ BF.out).mono ?_); rintro e w6 ⟨rfl, g6⟩; have B6 := Lib.hid (BF.out.trans (below_of_only g6 BF.out.size (by simp))); clear g6)
          go_ret
          exact ⟨rfl, B6.out⟩
theorem all_walk (t : ByteArray) (w : World) (hG : Nm w) (hs : t.size ≤ 9223372036854775807) : Calls Tryd.prog 5 #[.string t] w fun e w' => e = .returned (.bool true) ∧ Below w.heap.size w w' := by
  by_cases h4 : t.size ≤ 400
  · by_cases hb : ∃ j, 4 * j < t.size ∧ eA t j ≠ 0
    · obtain ⟨j, ⟨h1, h2⟩, h3⟩ := least hb
      exact codeall_bad t h4 j h1 (fun i hi => by
        have q := h3 i hi
        by_cases e : eA t i = 0
        · exact e
        · exact absurd ⟨by omega, e⟩ q) h2 w hG
    · have hz : ∀ j, 4 * j < t.size → eA t j = 0 := fun j hj => by
        by_cases e : eA t j = 0
        · exact e
        · exact absurd ⟨j, hj, e⟩ hb
      have hn : t.size = 4 * (t.size / 4) := by
        by_cases q : 4 * (t.size / 4) < t.size
        · have := eA_size (hz _ q)
          omega
        · omega
      exact codeall_good t h4 (t.size / 4) hn (fun i hi => hz i (by omega)) w hG
  · have HL := Lib.hid (live19_any w hG)
    have i400 : (400 : Int) < (t.size : Int) := by omega
    clear hG
    go_enter Tryd.func5, Tryd.ntmps5
    go_wp2_with (go_at_call 10; (with_reducible refine HL.out.mono ?_); rintro e w6 ⟨rfl, g6⟩; have G6 := Lib.hid g6; clear g6)
    go_ret
    exact ⟨rfl, below_of_only G6.out (Nat.le_refl _) (by simp)⟩
end Go.Proofs.YtgmobncmkembiaaDoor
