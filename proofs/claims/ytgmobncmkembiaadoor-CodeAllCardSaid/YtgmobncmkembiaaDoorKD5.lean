/- CodePuts and CodeGets, walked. -/
import Derived.Test.YtgmobncmkembiaaDoorKD4
import Derived.Laws.StructEq
namespace Go.Proofs.YtgmobncmkembiaaDoor
open Go.RowKit Go.Lib
set_option linter.unusedVariables false

theorem eq_ins (a : Int) (x n : Int) (w : World) : (binOp BinOp.eql 24 (.agg #[.int .u8 a, .int .i64 x, .int .i64 n]) (.agg #[.int .u8 a, .int .i64 x, .int .i64 n])).run Tryd.prog w = .ok (.bool true) w := by
  rw [run_eql_struct, run_equalIn_agg w 9999 _ _ _ (by kernel_rfl) (by kernel_rfl)]
  have hf : (Tryd.prog.fieldsOf 24).toList.map (fun f => (f.name, f.type, f.offset)) = [("Code", 22, 0), ("X", 3, 1), ("N", 3, 2)] := by kernel_rfl
  generalize (Tryd.prog.fieldsOf 24).toList = fs at hf
  have hlen := congrArg List.length hf
  simp only [List.length_map, List.length_cons, List.length_nil] at hlen
  obtain ⟨f0, f1, f2, rfl⟩ : ∃ f0 f1 f2, fs = [f0, f1, f2] := by
    match fs, hlen with
    | [f0, f1, f2], _ => exact ⟨f0, f1, f2, rfl⟩
  simp only [List.map_cons, List.map_nil, List.cons.injEq, Prod.mk.injEq, and_true] at hf
  obtain ⟨⟨p0, q0, r0⟩, ⟨p1, q1, r1⟩, ⟨p2, q2, r2⟩⟩ := hf
  simp [Op.eqFields, p0, q0, r0, p1, q1, r1, p2, q2, r2, part, run_equalIn_int _ _ _ _ _ _ _ Tryd.underlying3, run_equalIn_int _ _ _ _ _ _ _ Tryd.underlying22, go_sem]
theorem neq_ins (a : Int) (x n : Int) (w : World) : (binOp BinOp.neq 24 (.agg #[.int .u8 a, .int .i64 x, .int .i64 n]) (.agg #[.int .u8 a, .int .i64 x, .int .i64 n])).run Tryd.prog w = .ok (.bool false) w := by
  rw [run_neq_struct, run_equalIn_agg w 9999 _ _ _ (by kernel_rfl) (by kernel_rfl)]
  have hf : (Tryd.prog.fieldsOf 24).toList.map (fun f => (f.name, f.type, f.offset)) = [("Code", 22, 0), ("X", 3, 1), ("N", 3, 2)] := by kernel_rfl
  generalize (Tryd.prog.fieldsOf 24).toList = fs at hf
  have hlen := congrArg List.length hf
  simp only [List.length_map, List.length_cons, List.length_nil] at hlen
  obtain ⟨f0, f1, f2, rfl⟩ : ∃ f0 f1 f2, fs = [f0, f1, f2] := by
    match fs, hlen with
    | [f0, f1, f2], _ => exact ⟨f0, f1, f2, rfl⟩
  simp only [List.map_cons, List.map_nil, List.cons.injEq, Prod.mk.injEq, and_true] at hf
  obtain ⟨⟨p0, q0, r0⟩, ⟨p1, q1, r1⟩, ⟨p2, q2, r2⟩⟩ := hf
  simp [Op.eqFields, p0, q0, r0, p1, q1, r1, p2, q2, r2, part, run_equalIn_int _ _ _ _ _ _ _ Tryd.underlying3, run_equalIn_int _ _ _ _ _ _ _ Tryd.underlying22, go_sem]
attribute [-go_sem] Go.run_neq_struct
attribute [-go_sem] Go.run_eql_struct
theorem live19_any (w : World) (hG : Nm w) : Calls Tryd.prog 10 #[] w fun e w' => e = .returned (.bool true) ∧ w.grownBy w' none := by
  have HP := Lib.hid (show Calls Tryd.prog 7 #[.agg #[.int .u8 1, .int .i64 3, .int .i64 513]] w (fun e w' => e = .returned (.tuple #[.string ⟨#[1, 3, 1, 2]⟩, .int .i64 0]) ∧ w.grownBy w' none) from put_yes 1 3 513 (by omega) w hG (by decide +kernel))
  have HN := Lib.hid (fun W (g : w.grownBy W none) => (show Calls Tryd.prog 17 #[.string ⟨#[114, 101, 115, 116]⟩] W (fun e w' => e = .returned (.tuple #[.int .u8 15, .bool true]) ∧ W = w') from by
    have := named_any ⟨#[114, 101, 115, 116]⟩ W (hG.grown g (by simp))
    rw [show ndV ⟨#[114, 101, 115, 116]⟩ = (((15 : Nat) : Int), true) from ndV_at (k := 15) (by omega) rfl] at this
    exact this))
  clear hG
  go_enter Tryd.func10, Tryd.ntmps10
  go_wp2_with (first
    | (go_at_call 7; (with_reducible refine HP.out.mono ?_); rintro e w2 ⟨rfl, g2⟩; have G2 := Lib.hid g2; clear g2)
    | (go_at_call 17; (with_reducible refine (HN.out _ G2.out).mono ?_); rintro e w3 ⟨rfl, rfl⟩))
  go_ret
  exact ⟨by first | rfl | simp, G2.out⟩
theorem ptI_size (k : Nat) (x n : Int) : (ptI k x n).size = 4 := rfl
theorem gb_pt {k : Nat} {x n : Int} (hm : mayI k x n = true) : gb (ptI k x n) 0 = k ∧ (gb (ptI k x n) 1 : Int) = x ∧ (gw (ptI k x n) 2 : Int) = n := by
  obtain ⟨k1, x1, x2, n1, n2⟩ := mayI_facts hm
  have e0 : gb (ptI k x n) 0 = (UInt8.ofNat k).toNat := rfl
  have e1 : gb (ptI k x n) 1 = (UInt8.ofNat x.toNat).toNat := rfl
  have e2 : gb (ptI k x n) 2 = (UInt8.ofNat (n % 256).toNat).toNat := rfl
  have e3 : gb (ptI k x n) 3 = (UInt8.ofNat (n / 256 % 256).toNat).toNat := rfl
  have e4 : gw (ptI k x n) 2 = gb (ptI k x n) 2 + 256 * gb (ptI k x n) 3 := by unfold gw; rw [if_pos (by rw [ptI_size]; omega)]
  refine ⟨?_, ?_, ?_⟩
  · rw [e0]; simp; omega
  · rw [e1]; simp; omega
  · rw [e4, e2, e3]; simp; omega
theorem getV_pt {k : Nat} {x n : Int} (hm : mayI k x n = true) : getV (ptI k x n) = .tuple #[.agg #[.int .u8 k, .int .i64 x, .int .i64 n], .int .i64 0] := by
  obtain ⟨h1, h2, h3⟩ := gb_pt hm
  unfold getV
  rw [if_neg (by rw [ptI_size]; omega), h1, h2, h3, if_pos hm]
set_option maxRecDepth 20000 in
set_option maxHeartbeats 3200000 in
theorem puts_no (k : Nat) (x n : Int) (hk : k < 256) (w : World) (hG : Nm w) (hm : mayI k x n = false) : Calls Tryd.prog 3 #[.agg #[.int .u8 k, .int .i64 x, .int .i64 n]] w fun e w' => e = .returned (.bool true) ∧ w.grownBy w' none := by
  obtain ⟨W1, hW, g1, hB⟩ := ibox w 24 #[.int .u8 k, .int .i64 x, .int .i64 n]
  have HS := Lib.hid (show ∀ W, W1.grownBy W none → W.cell? ⟨w.heap.size, 0, none⟩ = some (.int .u8 k) ∧ W.cell? ⟨w.heap.size, 1, none⟩ = some (.int .i64 x) ∧ W.cell? ⟨w.heap.size, 2, none⟩ = some (.int .i64 n) from fun W q => in3 (hB.only q (by simp)))
  have HG := Lib.hid g1
  have HN := Lib.hid (fun W (q : W1.grownBy W none) => hG.grown (only_trans g1 q) (by simp))
  have HPT := Lib.hid (put_no k x n hk W1 (HN.out _ (only_refl _ _)) hm)
  have HRM := Lib.hid (fun W => rmay_any k x n hk W)
  have HCM := Lib.hid (fun W (q : W1.grownBy W none) => may_any k x n hk W (HN.out W q))
  have HL := Lib.hid (fun W (q : W1.grownBy W none) => live19_any W (HN.out W q))
  rw [hm] at HRM HCM
  obtain ⟨c0, c1, c2⟩ := HS.out W1 (only_refl _ _)
  clear hB g1 hG hm
  go_enter Tryd.func3, Tryd.ntmps3
  go_upto_region 1 with (fail)
  rw [← hW]
  clear hW
  go_wp2_with (first
    | (go_at_call 7; (with_reducible refine HPT.out.mono ?_); rintro e w2 ⟨rfl, g2⟩; have G2 := Lib.hid g2; clear c0 c1 c2; obtain ⟨c0, c1, c2⟩ := HS.out w2 g2; clear g2)
    | (go_at_call 8; (with_reducible refine (HRM.out _).mono ?_); rintro e w3 ⟨rfl, g3⟩; have G3 := Lib.hid (only_trans G2.out g3); clear c0 c1 c2; obtain ⟨c0, c1, c2⟩ := HS.out w3 G3.out; clear g3)
    | (go_at_call 9; (with_reducible refine (HCM.out _ G3.out).mono ?_); rintro e w4 ⟨rfl, g4⟩; have G4 := Lib.hid (only_trans G3.out g4); clear c0 c1 c2; obtain ⟨c0, c1, c2⟩ := HS.out w4 G4.out; clear g4)
    | (go_at_call 10; (with_reducible refine (HL.out _ G4.out).mono ?_); rintro e w5 ⟨rfl, g5⟩; have G5 := Lib.hid (only_trans G4.out g5); clear g5))
  go_ret
  exact ⟨by first | rfl | simp, only_trans HG.out G5.out⟩
set_option maxRecDepth 20000 in
set_option maxHeartbeats 3200000 in
theorem puts_yes (k : Nat) (x n : Int) (hk : k < 256) (w : World) (hG : Nm w) (hm : mayI k x n = true) : Calls Tryd.prog 3 #[.agg #[.int .u8 k, .int .i64 x, .int .i64 n]] w fun e w' => e = .returned (.bool true) ∧ w.grownBy w' none := by
  obtain ⟨W1, hW, g1, hB⟩ := ibox w 24 #[.int .u8 k, .int .i64 x, .int .i64 n]
  have HS := Lib.hid (show ∀ W, W1.grownBy W none → W.cell? ⟨w.heap.size, 0, none⟩ = some (.int .u8 k) ∧ W.cell? ⟨w.heap.size, 1, none⟩ = some (.int .i64 x) ∧ W.cell? ⟨w.heap.size, 2, none⟩ = some (.int .i64 n) from fun W q => in3 (hB.only q (by simp)))
  have HG := Lib.hid g1
  have HN := Lib.hid (fun W (q : W1.grownBy W none) => hG.grown (only_trans g1 q) (by simp))
  have HPT := Lib.hid (put_yes k x n hk W1 (HN.out _ (only_refl _ _)) hm)
  have HRM := Lib.hid (fun W => rmay_any k x n hk W)
  have HCM := Lib.hid (fun W (q : W1.grownBy W none) => may_any k x n hk W (HN.out W q))
  have HL := Lib.hid (fun W (q : W1.grownBy W none) => live19_any W (HN.out W q))
  have HGT := Lib.hid (fun W (q : W1.grownBy W none) => (show Calls Tryd.prog 11 #[.string (ptI k x n)] W (fun e w' => e = .returned (.tuple #[.agg #[.int .u8 k, .int .i64 x, .int .i64 n], .int .i64 0]) ∧ W.grownBy w' none) from by
    have := get_any (ptI k x n) (by rw [ptI_size]; omega) W (HN.out W q)
    rw [getV_pt hm] at this
    exact this))
  have HRP := Lib.hid (fun W => rput19_any k x n hm W)
  have hqe := fun w : World => eq_ins k x n w
  rw [hm] at HRM HCM
  obtain ⟨c0, c1, c2⟩ := HS.out W1 (only_refl _ _)
  clear hB g1 hG hm
  generalize ptI k x n = s at *
  go_enter Tryd.func3, Tryd.ntmps3
  go_upto_region 1 with (fail)
  rw [← hW]
  clear hW
  go_upto_region 8 with (first
    | (go_at_call 7; (with_reducible refine HPT.out.mono ?_); rintro e w2 ⟨rfl, g2⟩; have G2 := Lib.hid g2; clear c0 c1 c2; obtain ⟨c0, c1, c2⟩ := HS.out w2 g2; clear g2)
    | (go_at_call 8; (with_reducible refine (HRM.out _).mono ?_); rintro e w3 ⟨rfl, g3⟩; have G3 := Lib.hid (only_trans G2.out g3); clear c0 c1 c2; obtain ⟨c0, c1, c2⟩ := HS.out w3 G3.out; clear g3)
    | (go_at_call 9; (with_reducible refine (HCM.out _ G3.out).mono ?_); rintro e w4 ⟨rfl, g4⟩; have G4 := Lib.hid (only_trans G3.out g4); clear c0 c1 c2 g4)
    | (go_at_call 11; (with_reducible refine (HGT.out _ G4.out).mono ?_); rintro e w5 ⟨rfl, g5⟩; have G5 := Lib.hid (only_trans G4.out g5); clear g5))
  obtain ⟨w6, hw6⟩ : ∃ w6, w6 = w5.alloc (.cells #[.int .u8 k, .int .i64 x, .int .i64 n] 24) := ⟨_, rfl⟩
  have g6 : w5.grownBy w6 none := by rw [hw6]; exact only_alloc (only_refl _ _) _
  have BB := Lib.hid (show Blk w6 w5.heap.size 24 #[.int .u8 k, .int .i64 x, .int .i64 n] from by rw [hw6]; exact Blk.new _ _ _)
  have G6 := Lib.hid (only_trans G5.out g6)
  rw [← hw6]
  clear hw6 g6
  go_wp2_with (first
    | (go_at_call 10; (with_reducible refine (HL.out _ G6.out).mono ?_); rintro e w7 ⟨rfl, g7⟩; have G7 := Lib.hid (only_trans G6.out g7); have B7 := Lib.hid (BB.out.only g7 (by simp)); obtain ⟨c0, c1, c2⟩ := HS.out w7 G7.out; clear g7)
    | (go_at_call 12; (with_reducible refine (HRP.out _).mono ?_); rintro e w8 ⟨rfl, g8⟩; have G8 := Lib.hid (only_trans G7.out g8); clear c0 c1 c2; obtain ⟨c0, c1, c2⟩ := HS.out w8 G8.out; obtain ⟨d0, d1, d2⟩ := in3 (B7.out.only g8 (by simp)); clear g8))
  go_ret
  exact ⟨by first | rfl | simp, only_trans HG.out G8.out⟩
theorem puts_walk (k : Nat) (x n : Int) (w : World) (hG : Nm w) (hk : k < 256) : Calls Tryd.prog 3 #[.agg #[.int .u8 k, .int .i64 x, .int .i64 n]] w fun e w' => e = .returned (.bool true) ∧ Below w.heap.size w w' := by
  refine Calls.mono (?_ : Calls Tryd.prog 3 #[.agg #[.int .u8 k, .int .i64 x, .int .i64 n]] w fun e w' => e = .returned (.bool true) ∧ w.grownBy w' none) fun e w' h => ⟨h.1, below_of_only h.2 (Nat.le_refl _) (by simp)⟩
  cases hm : mayI k x n
  · exact puts_no k x n hk w hG hm
  · exact puts_yes k x n hk w hG hm
end Go.Proofs.YtgmobncmkembiaaDoor
