/- CodeGets, walked. -/
import Derived.Test.YtgmobncmkembiaaDoorKD5
namespace Go.Proofs.YtgmobncmkembiaaDoor
open Go.RowKit Go.Lib
attribute [-go_sem] Go.run_neq_struct
attribute [-go_sem] Go.run_eql_struct
set_option linter.unusedVariables false

theorem pt_cut {t : ByteArray} (h : 4 ≤ t.size) : ptI (gb t 0) (gb t 1) (gw t 2) = t.extract 0 4 := by
  have e4 : gw t 2 = gb t 2 + 256 * gb t 3 := by unfold gw; rw [if_pos (by omega)]
  have l2 := gb_lt t 2
  have l3 := gb_lt t 3
  apply ByteArray.ext
  apply Array.ext
  · show 4 = _
    simp
    omega
  · intro i h1 h2
    have h1' : i < 4 := h1
    have key : i = 0 ∨ i = 1 ∨ i = 2 ∨ i = 3 := by omega
    have he : ∀ j (hj : j < t.size) (hk : j < (t.extract 0 4).data.size), (t.extract 0 4).data[j] = t[j] := fun j hj hk => by
      have hk' : j < (t.extract 0 4).size := hk
      show (t.extract 0 4)[j] = t[j]
      simp [ByteArray.getElem_extract]
    rcases key with rfl | rfl | rfl | rfl
    · rw [he 0 (by omega)]
      show UInt8.ofNat (gb t 0) = _
      rw [gb_of (by omega)]
      simp
    · rw [he 1 (by omega)]
      show UInt8.ofNat ((gb t 1 : Int)).toNat = _
      rw [gb_of (by omega)]
      simp
    · rw [he 2 (by omega)]
      show UInt8.ofNat (((gw t 2 : Nat) : Int) % 256).toNat = _
      rw [e4, show ((((gb t 2 + 256 * gb t 3 : Nat) : Int) % 256).toNat) = gb t 2 by omega, gb_of (by omega)]
      simp
    · rw [he 3 (by omega)]
      show UInt8.ofNat (((gw t 2 : Nat) : Int) / 256 % 256).toNat = _
      rw [e4, show ((((gb t 2 + 256 * gb t 3 : Nat) : Int) / 256 % 256).toNat) = gb t 3 by omega, gb_of (by omega)]
      simp
set_option maxRecDepth 20000 in
set_option maxHeartbeats 3200000 in
theorem gets_no (t : ByteArray) (hs : t.size ≤ 9223372036854775807) (c : Int) (hc : c ≠ 0) (hv : getV t = .tuple #[.agg #[.int .u8 0, .int .i64 0, .int .i64 0], .int .i64 c]) (w : World) (hG : Nm w) : Calls Tryd.prog 4 #[.string t] w fun e w' => e = .returned (.bool true) ∧ w.grownBy w' none := by
  have HGT := Lib.hid (get_any t hs w hG)
  have HRG := Lib.hid (fun W => rget_any t hs W)
  have HN := Lib.hid (fun W (q : w.grownBy W none) => hG.grown q (by simp))
  have HL := Lib.hid (fun W (q : w.grownBy W none) => live19_any W (HN.out W q))
  rw [hv] at HGT HRG
  have hne : (c != 0) = true := by simpa using hc
  have hne2 : (c == 0) = false := by simpa using hc
  have HX := Lib.hid (show ∃ a : Int, ∃ x n : Int, a = 0 ∧ x = 0 ∧ n = 0 from ⟨0, 0, 0, rfl, rfl, rfl⟩)
  obtain ⟨a, x, n, ha, hx, hn⟩ := HX.out
  replace HGT := Lib.hid (show Calls Tryd.prog 11 #[.string t] w (fun e w' => e = .returned (.tuple #[.agg #[.int .u8 a, .int .i64 x, .int .i64 n], .int .i64 c]) ∧ w.grownBy w' none) from by rw [ha, hx, hn]; exact HGT.out)
  replace HRG := Lib.hid (fun W => (show Calls Tryd.prog 13 #[.string t] W (fun e w' => e = .returned (.tuple #[.agg #[.int .u8 a, .int .i64 x, .int .i64 n], .int .i64 c]) ∧ W.grownBy w' none) from by rw [ha, hx, hn]; exact HRG.out W))
  have hqn := fun w : World => neq_ins a x n w
  clear hG hv hc ha hx hn HX
  go_enter Tryd.func4, Tryd.ntmps4
  go_upto_region 2 with (go_at_call 11; (with_reducible refine HGT.out.mono ?_); rintro e w2 ⟨rfl, g2⟩; have G2 := Lib.hid g2; clear g2)
  obtain ⟨w3, hw3⟩ : ∃ w3, w3 = w2.alloc (.cells #[.int .u8 a, .int .i64 x, .int .i64 n] 24) := ⟨_, rfl⟩
  have g3 : w2.grownBy w3 none := by rw [hw3]; exact only_alloc (only_refl _ _) _
  have B3 := Lib.hid (show Blk w3 w2.heap.size 24 #[.int .u8 a, .int .i64 x, .int .i64 n] from by rw [hw3]; exact Blk.new _ _ _)
  have G3 := Lib.hid (only_trans G2.out g3)
  rw [← hw3]
  clear hw3 g3
  go_upto_region 3 with (go_at_call 13; (with_reducible refine (HRG.out _).mono ?_); rintro e w4 ⟨rfl, g4⟩; have G4 := Lib.hid (only_trans G3.out g4); have B4 := Lib.hid (B3.out.only g4 (by simp)); clear g4)
  obtain ⟨w5, hw5⟩ : ∃ w5, w5 = w4.alloc (.cells #[.int .u8 a, .int .i64 x, .int .i64 n] 24) := ⟨_, rfl⟩
  have g5 : w4.grownBy w5 none := by rw [hw5]; exact only_alloc (only_refl _ _) _
  have B5 := Lib.hid (show Blk w5 w4.heap.size 24 #[.int .u8 a, .int .i64 x, .int .i64 n] from by rw [hw5]; exact Blk.new _ _ _)
  have C5 := Lib.hid (B4.out.only g5 (by simp))
  have G5 := Lib.hid (only_trans G4.out g5)
  rw [← hw5]
  clear hw5 g5
  obtain ⟨c0, c1, c2⟩ := in3 B5.out
  obtain ⟨d0, d1, d2⟩ := in3 C5.out
  go_wp2_with (go_at_call 10; (with_reducible refine (HL.out _ G5.out).mono ?_); rintro e w6 ⟨rfl, g6⟩; have G6 := Lib.hid (only_trans G5.out g6); clear g6)
  go_ret
  exact ⟨by first | rfl | simp, G6.out⟩
set_option maxRecDepth 20000 in
set_option maxHeartbeats 3200000 in
theorem gets_yes (t : ByteArray) (hs : t.size ≤ 9223372036854775807) (h4 : 4 ≤ t.size) (hm : mayI (gb t 0) (gb t 1) (gw t 2) = true) (w : World) (hG : Nm w) : Calls Tryd.prog 4 #[.string t] w fun e w' => e = .returned (.bool true) ∧ w.grownBy w' none := by
  have HGT := Lib.hid (get_any t hs w hG)
  have HRG := Lib.hid (fun W => rget_any t hs W)
  have HN := Lib.hid (fun W (q : w.grownBy W none) => hG.grown q (by simp))
  have HL := Lib.hid (fun W (q : w.grownBy W none) => live19_any W (HN.out W q))
  have hv : getV t = .tuple #[.agg #[.int .u8 (gb t 0), .int .i64 (gb t 1), .int .i64 (gw t 2)], .int .i64 0] := by unfold getV; rw [if_neg (by omega), if_pos hm]
  rw [hv] at HGT HRG
  have HPT := Lib.hid (fun W (q : w.grownBy W none) => (show Calls Tryd.prog 7 #[.agg #[.int .u8 (gb t 0), .int .i64 (gb t 1), .int .i64 (gw t 2)]] W (fun e w' => e = .returned (.tuple #[.string (t.extract 0 4), .int .i64 0]) ∧ W.grownBy w' none) from by
    have := put_yes (gb t 0) (gb t 1) (gw t 2) (gb_lt t 0) W (HN.out W q) hm
    rw [pt_cut h4] at this
    exact this))
  have i4 : (4 : Int) ≤ (t.size : Int) := by omega
  obtain ⟨a, ha⟩ : ∃ a : Int, a = (gb t 0 : Int) := ⟨_, rfl⟩
  obtain ⟨x, hx⟩ : ∃ x : Int, x = (gb t 1 : Int) := ⟨_, rfl⟩
  obtain ⟨n, hn⟩ : ∃ n : Int, n = (gw t 2 : Int) := ⟨_, rfl⟩
  rw [← ha, ← hx, ← hn] at HGT HRG HPT
  have hqn := fun w : World => neq_ins a x n w
  clear hG hv ha hx hn hm
  go_enter Tryd.func4, Tryd.ntmps4
  go_upto_region 2 with (go_at_call 11; (with_reducible refine HGT.out.mono ?_); rintro e w2 ⟨rfl, g2⟩; have G2 := Lib.hid g2; clear g2)
  obtain ⟨w3, hw3⟩ : ∃ w3, w3 = w2.alloc (.cells #[.int .u8 a, .int .i64 x, .int .i64 n] 24) := ⟨_, rfl⟩
  have g3 : w2.grownBy w3 none := by rw [hw3]; exact only_alloc (only_refl _ _) _
  have B3 := Lib.hid (show Blk w3 w2.heap.size 24 #[.int .u8 a, .int .i64 x, .int .i64 n] from by rw [hw3]; exact Blk.new _ _ _)
  have G3 := Lib.hid (only_trans G2.out g3)
  rw [← hw3]
  clear hw3 g3
  go_upto_region 3 with (go_at_call 13; (with_reducible refine (HRG.out _).mono ?_); rintro e w4 ⟨rfl, g4⟩; have G4 := Lib.hid (only_trans G3.out g4); have B4 := Lib.hid (B3.out.only g4 (by simp)); clear g4)
  obtain ⟨w5, hw5⟩ : ∃ w5, w5 = w4.alloc (.cells #[.int .u8 a, .int .i64 x, .int .i64 n] 24) := ⟨_, rfl⟩
  have g5 : w4.grownBy w5 none := by rw [hw5]; exact only_alloc (only_refl _ _) _
  have B5 := Lib.hid (show Blk w5 w4.heap.size 24 #[.int .u8 a, .int .i64 x, .int .i64 n] from by rw [hw5]; exact Blk.new _ _ _)
  have C5 := Lib.hid (B4.out.only g5 (by simp))
  have G5 := Lib.hid (only_trans G4.out g5)
  rw [← hw5]
  clear hw5 g5
  obtain ⟨c0, c1, c2⟩ := in3 B5.out
  obtain ⟨d0, d1, d2⟩ := in3 C5.out
  go_wp2_with (first
    | (go_at_call 7; (with_reducible refine (HPT.out _ G5.out).mono ?_); rintro e w6 ⟨rfl, g6⟩; have G6 := Lib.hid (only_trans G5.out g6); clear g6)
    | (go_at_call 10; (with_reducible refine (HL.out _ G6.out).mono ?_); rintro e w7 ⟨rfl, g7⟩; have G7 := Lib.hid (only_trans G6.out g7); clear g7))
  go_ret
  exact ⟨by first | rfl | simp, G7.out⟩
theorem gets_walk (t : ByteArray) (w : World) (hG : Nm w) (hs : t.size ≤ 9223372036854775807) : Calls Tryd.prog 4 #[.string t] w fun e w' => e = .returned (.bool true) ∧ Below w.heap.size w w' := by
  refine Calls.mono (?_ : Calls Tryd.prog 4 #[.string t] w fun e w' => e = .returned (.bool true) ∧ w.grownBy w' none) fun e w' h => ⟨h.1, below_of_only h.2 (Nat.le_refl _) (by simp)⟩
  by_cases h4 : t.size < 4
  · exact gets_no t hs 5 (by decide) (by unfold getV; rw [if_pos h4]) w hG
  · cases hm : mayI (gb t 0) (gb t 1) (gw t 2)
    · exact gets_no t hs 12 (by decide) (by unfold getV; rw [if_neg h4, if_neg (by rw [hm]; decide)]) w hG
    · exact gets_yes t hs (by omega) hm w hG
end Go.Proofs.YtgmobncmkembiaaDoor
