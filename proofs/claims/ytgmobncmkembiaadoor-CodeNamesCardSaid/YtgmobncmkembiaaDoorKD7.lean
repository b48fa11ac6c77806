/- CodeNames, walked. -/
import Derived.Test.YtgmobncmkembiaaDoorKD6
namespace Go.Proofs.YtgmobncmkembiaaDoor
open Go.RowKit Go.Lib
set_option linter.unusedVariables false

/-- May another one than the next follow. -/
def goB (k : Nat) : Bool := decide (k = 0) || decide (k = 11) || decide (k = 12) || decide (k = 13)
theorem goes_any (k : Nat) (x n : Int) (hk : k < 256) (w : World) : Calls Tryd.prog 19 #[.agg #[.int .u8 k, .int .i64 x, .int .i64 n]] w fun e w' => e = .returned (.bool (goB k)) ∧ w.grownBy w' none := by
  obtain ⟨W1, hW, g1, hB⟩ := ibox w 24 #[.int .u8 k, .int .i64 x, .int .i64 n]
  obtain ⟨c0, c1, c2⟩ := in3 hB
  have HG := Lib.hid g1
  have HV := Lib.hid (show goB k = (decide (k = 0) || decide (k = 11) || decide (k = 12) || decide (k = 13)) from rfl)
  generalize goB k = r at HV ⊢
  clear hB g1
  have key : k = 0 ∨ k = 11 ∨ k = 12 ∨ k = 13 ∨ (k ≠ 0 ∧ k ≠ 11 ∧ k ≠ 12 ∧ k ≠ 13) := by omega
  rcases key with h | h | h | h | h
  all_goals
    first | (have z0 : ((k : Int) == 0) = true := by rw [beq_iff_eq]; omega) | (have z0 : ((k : Int) == 0) = false := by rw [beq_eq_false_iff_ne]; omega)
    first | (have z1 : ((k : Int) == 11) = true := by rw [beq_iff_eq]; omega) | (have z1 : ((k : Int) == 11) = false := by rw [beq_eq_false_iff_ne]; omega)
    first | (have z2 : ((k : Int) == 12) = true := by rw [beq_iff_eq]; omega) | (have z2 : ((k : Int) == 12) = false := by rw [beq_eq_false_iff_ne]; omega)
    first | (have z3 : ((k : Int) == 13) = true := by rw [beq_iff_eq]; omega) | (have z3 : ((k : Int) == 13) = false := by rw [beq_eq_false_iff_ne]; omega)
    first | (have hr : r = true := by rw [HV.out]; simp; omega) | (have hr : r = false := by rw [HV.out]; simp; omega)
    subst hr
    clear h HV
    go_enter Tryd.func19, Tryd.ntmps19
    go_upto_region 1 with (fail)
    rw [← hW]
    clear hW
    go_wp2
    go_ret
    exact ⟨rfl, HG.out⟩
theorem ndF_le (t : ByteArray) : ∀ n, n ≤ 16 → 0 ≤ (ndF t n).1 ∧ (ndF t n).1 ≤ 15
  | 0, _ => ⟨Int.le_refl 0, by show (0 : Int) ≤ 15; omega⟩
  | n + 1, h => by
    unfold ndF
    split
    · exact ⟨by simp, by simp; omega⟩
    · exact ndF_le t n (by omega)
set_option maxRecDepth 20000 in
set_option maxHeartbeats 3200000 in
theorem names_any (k : Nat) (t : ByteArray) (m : Nat) (x n : Int) (w : World) (hG : Nm w) (hk : k < 256) (hm : m < 256) :
    Calls Tryd.prog 6 #[.int .u8 k, .string t, .agg #[.int .u8 m, .int .i64 x, .int .i64 n]] w fun e w' => e = .returned (.bool true) ∧ w.grownBy w' none := by
  obtain ⟨W1, hW, g1, hB⟩ := ibox w 24 #[.int .u8 m, .int .i64 x, .int .i64 n]
  have HS := Lib.hid (show ∀ W, W1.grownBy W none → W.cell? ⟨w.heap.size, 0, none⟩ = some (.int .u8 m) ∧ W.cell? ⟨w.heap.size, 1, none⟩ = some (.int .i64 x) ∧ W.cell? ⟨w.heap.size, 2, none⟩ = some (.int .i64 n) from fun W q => in3 (hB.only q (by simp)))
  have HG := Lib.hid g1
  have HN := Lib.hid (fun W (q : W1.grownBy W none) => hG.grown (only_trans g1 q) (by simp))
  have HNA := Lib.hid (fun W (q : W1.grownBy W none) => name_any k hk W (HN.out W q))
  have HRN := Lib.hid (fun (j : Nat) W => (show Calls Tryd.prog 16 #[.int .i64 j] W (fun e w' => e = .returned (.string (nmL j)) ∧ W.grownBy w' none) from by
    have := rname_any (j : Int) (by omega) W
    rw [Int.toNat_natCast] at this
    exact this))
  have HND := Lib.hid (fun W (q : W1.grownBy W none) => named_any t W (HN.out W q))
  have HNK := Lib.hid (fun (h : k < 16) W (q : W1.grownBy W none) => (show Calls Tryd.prog 17 #[.string (nmL k)] W (fun e w' => e = .returned (.tuple #[.int .u8 k, .bool true]) ∧ W = w') from by
    have := named_any (nmL k) W (HN.out W q)
    rw [ndV_at h rfl] at this
    exact this))
  have HL := Lib.hid (fun W (q : W1.grownBy W none) => live19_any W (HN.out W q))
  have HRE := Lib.hid (fun W => register_any k hk W)
  have HGO := Lib.hid (fun W => goes_any m x n hm W)
  have hw : IntKind.i64.wrap (k : Int) = (k : Int) := by rw [IntKind.wrap_i64]; omega
  have hwm : IntKind.i64.wrap (m : Int) = (m : Int) := by rw [IntKind.wrap_i64]; omega
  have hr0 := ndF_le t 16 (by omega)
  have HF := Lib.hid (show ∀ j : Nat, ndF t (j + 1) = if nmX j = t.data.toList then ((j : Int), true) else ndF t j from fun j => rfl)
  have HF0 := Lib.hid (show ndF t 0 = (0, false) from rfl)
  have HE := Lib.hid (fun j : Nat => (nmX_eq (k := j) (t := t)))
  replace HND := Lib.hid (fun W (q : W1.grownBy W none) => (show Calls Tryd.prog 17 #[.string t] W (fun e w' => e = .returned (.tuple #[.int .u8 (ndF t 16).1, .bool (ndF t 16).2]) ∧ W = w') from HND.out W q))
  have hcls : k < 2 ∨ (2 ≤ k ∧ k ≤ 10) ∨ 10 < k := by omega
  have hgo : m = 0 ∨ m = 11 ∨ m = 12 ∨ m = 13 ∨ (m ≠ 0 ∧ m ≠ 11 ∧ m ≠ 12 ∧ m ≠ 13) := by omega
  have HRB := Lib.hid (show rgB k = (decide (2 ≤ k) && decide (k ≤ 10)) from by unfold rgB; simp)
  have HGB := Lib.hid (show goB m = (decide (m = 0) || decide (m = 11) || decide (m = 12) || decide (m = 13)) from rfl)
  have HCLS := Lib.hid hcls
  have HGOS := Lib.hid hgo
  generalize rgB k = rb at *
  generalize goB m = gbm at *
  have h16 : (k < 16 ∧ nmL k ≠ ⟨#[]⟩) ∨ (16 ≤ k ∧ nmL k = ⟨#[]⟩) := by
    by_cases h : k < 16
    · exact .inl ⟨h, nm_some h⟩
    · exact .inr ⟨by omega, nmL_none (by omega)⟩
  obtain ⟨c0, c1, c2⟩ := HS.out W1 (only_refl _ _)
  clear hB g1 hG hcls hgo hk hm
  rcases h16 with ⟨h16, hne⟩ | ⟨h16, he⟩
  · have hne1 := str_ne19 hne
    have hne2 : (nmL k).toList ≠ [] := by
      intro e
      rw [e] at hne1
      simp at hne1
    have hne3 : ((nmL k).toList == []) = false := by rw [beq_eq_false_iff_ne]; exact hne2
    have hne4 : ((nmL k).toList != []) = true := by rw [bne_iff_ne]; exact hne2
    have hkk : ((k : Int) != (k : Int)) = false := by simp
    replace HNK := Lib.hid (HNK.out h16)
    have HRK := Lib.hid (HRN.out k)
    clear h16 hne
    have HNM := Lib.hid (show ∃ s, s = nmL k from ⟨_, rfl⟩)
    obtain ⟨s, hs⟩ := HNM.out
    rw [← hs] at HNA HNK HRK hne1 hne2 hne3 hne4
    clear hs HNM
    go_enter Tryd.func6, Tryd.ntmps6
    go_upto_region 1 with (fail)
    rw [← hW]
    clear hW
    go_upto_region 10 with (first
      | (go_at_call 15; (with_reducible refine (HNA.out _ (only_refl W1 none)).mono ?_); rintro e w2 ⟨rfl, rfl⟩)
      | (go_at_call 16; (with_reducible refine (HRK.out _).mono ?_); rintro e w3 ⟨rfl, g3⟩; have G3 := Lib.hid g3; clear g3)
      | (go_at_call 17; (with_reducible refine (HNK.out _ G3.out).mono ?_); rintro e w4 ⟨rfl, rfl⟩))
    have GG := G3
    go_loopw [10, 11, 12] (fun u v y wr => ∃ j : Nat, u = .int .i64 (ndF t j).1 ∧ v = .bool (ndF t j).2 ∧ y = .int .i64 j ∧ j ≤ 16 ∧ Hid (W1.grownBy wr none)) (fun _ _ y _ => 16 - (intOf y).toNat)
    case atStart => exact ⟨0, by rw [HF0.out], by rw [HF0.out], rfl, by omega, GG⟩
    case round =>
      obtain ⟨j, rfl, rfl, rfl, hj, HGR⟩ := hrel
      by_cases hin : j < 16
      · have i1 : (j : Int) < 16 := by omega
        have HRJ := Lib.hid (HRN.out j)
        have HFJ := Lib.hid (HF.out j)
        have HEJ := Lib.hid (HE.out j)
        generalize nmL j = sj at HRJ HEJ
        by_cases hes : sj = t
        · have HFV := Lib.hid (show ndF t (j + 1) = ((j : Int), true) from by rw [HFJ.out, if_pos (HEJ.out.2 hes)])
          clear HFJ HEJ
          subst hes
          go_wp2_with (go_at_call 16; (with_reducible refine (HRJ.out _).mono ?_); rintro e w5 ⟨rfl, g5⟩; have G5 := Lib.hid (only_trans HGR.out g5); clear g5)
          go_roundw
          case rel => exact ⟨j + 1, by rw [HFV.out], by rw [HFV.out], by go_num, by omega, G5⟩
          case measure => simp [intOf] <;> omega
        · have hx := str_ne19 hes
          have HFV := Lib.hid (show ndF t (j + 1) = ndF t j from by rw [HFJ.out, if_neg (fun q => hes (HEJ.out.1 q))])
          clear HFJ HEJ hes
          go_wp2_with (go_at_call 16; (with_reducible refine (HRJ.out _).mono ?_); rintro e w5 ⟨rfl, g5⟩; have G5 := Lib.hid (only_trans HGR.out g5); clear g5)
          go_roundw
          case rel => exact ⟨j + 1, by rw [HFV.out], by rw [HFV.out], by go_num, by omega, G5⟩
          case measure => simp [intOf] <;> omega
      · obtain rfl : j = 16 := by omega
        clear HF HF0 HE HRN
        obtain ⟨r, hr⟩ : ∃ r, r = ndF t 16 := ⟨_, rfl⟩
        rw [← hr] at HND hr0 ⊢
        clear hr
        obtain ⟨ri, rb2⟩ := r
        simp only at hr0 HND
        have wri : IntKind.i64.wrap ri = ri := by rw [IntKind.wrap_i64]; omega
        obtain ⟨e0, e1, e2⟩ := HS.out wr HGR.out
        clear hr0 c0 c1 c2
        rcases HCLS.out with q | q | q
        all_goals
          first | (have a0 : (2 : Int) ≤ k := by omega) | (have a0 : ¬ (2 : Int) ≤ k := by omega)
          first | (have a1 : (k : Int) ≤ 10 := by omega) | (have a1 : ¬ (k : Int) ≤ 10 := by omega)
          first | (have hrb : rb = true := by rw [HRB.out]; simp; omega) | (have hrb : rb = false := by rw [HRB.out]; simp; omega)
          subst hrb
          clear q
          rcases HGOS.out with p | p | p | p | p
          all_goals
            first | (have z0 : ((m : Int) == 0) = true := by rw [beq_iff_eq]; omega) | (have z0 : ((m : Int) == 0) = false := by rw [beq_eq_false_iff_ne]; omega)
            first | (have z1 : ((m : Int) == 11) = true := by rw [beq_iff_eq]; omega) | (have z1 : ((m : Int) == 11) = false := by rw [beq_eq_false_iff_ne]; omega)
            first | (have z2 : ((m : Int) == 12) = true := by rw [beq_iff_eq]; omega) | (have z2 : ((m : Int) == 12) = false := by rw [beq_eq_false_iff_ne]; omega)
            first | (have z3 : ((m : Int) == 13) = true := by rw [beq_iff_eq]; omega) | (have z3 : ((m : Int) == 13) = false := by rw [beq_eq_false_iff_ne]; omega)
            first | (have hgb : gbm = true := by rw [HGB.out]; simp; omega) | (have hgb : gbm = false := by rw [HGB.out]; simp; omega)
            subst hgb
            clear p
            go_wp2_with (first
              | (go_at_call 17; (with_reducible refine (HND.out _ HGR.out).mono ?_); rintro e w6 ⟨rfl, rfl⟩)
              | (go_at_call 10; (with_reducible refine (HL.out _ HGR.out).mono ?_); rintro e w7 ⟨rfl, g7⟩; have G7 := Lib.hid (only_trans HGR.out g7); clear e0 e1 e2; obtain ⟨e0, e1, e2⟩ := HS.out w7 G7.out; clear g7)
              | (go_at_call 18; (with_reducible refine (HRE.out _).mono ?_); rintro e w8 ⟨rfl, rfl⟩)
              | (go_at_call 19; (with_reducible refine (HGO.out _).mono ?_); rintro e w9 ⟨rfl, g9⟩; have G9 := Lib.hid (only_trans G7.out g9); clear g9))
            go_ret
            exact ⟨by first | rfl | (simp; done) | (simp; omega), only_trans HG.out G9.out⟩
  · have HRK := Lib.hid (HRN.out k)
    rw [he] at HNA HRK
    clear h16 he HNK
    go_enter Tryd.func6, Tryd.ntmps6
    go_upto_region 1 with (fail)
    rw [← hW]
    clear hW
    go_upto_region 10 with (first
      | (go_at_call 15; (with_reducible refine (HNA.out _ (only_refl W1 none)).mono ?_); rintro e w2 ⟨rfl, rfl⟩)
      | (go_at_call 16; (with_reducible refine (HRK.out _).mono ?_); rintro e w3 ⟨rfl, g3⟩; have G3 := Lib.hid g3; clear g3))
    have GG := G3
    go_loopw [10, 11, 12] (fun u v y wr => ∃ j : Nat, u = .int .i64 (ndF t j).1 ∧ v = .bool (ndF t j).2 ∧ y = .int .i64 j ∧ j ≤ 16 ∧ Hid (W1.grownBy wr none)) (fun _ _ y _ => 16 - (intOf y).toNat)
    case atStart => exact ⟨0, by rw [HF0.out], by rw [HF0.out], rfl, by omega, GG⟩
    case round =>
      obtain ⟨j, rfl, rfl, rfl, hj, HGR⟩ := hrel
      by_cases hin : j < 16
      · have i1 : (j : Int) < 16 := by omega
        have HRJ := Lib.hid (HRN.out j)
        have HFJ := Lib.hid (HF.out j)
        have HEJ := Lib.hid (HE.out j)
        generalize nmL j = sj at HRJ HEJ
        by_cases hes : sj = t
        · have HFV := Lib.hid (show ndF t (j + 1) = ((j : Int), true) from by rw [HFJ.out, if_pos (HEJ.out.2 hes)])
          clear HFJ HEJ
          subst hes
          go_wp2_with (go_at_call 16; (with_reducible refine (HRJ.out _).mono ?_); rintro e w5 ⟨rfl, g5⟩; have G5 := Lib.hid (only_trans HGR.out g5); clear g5)
          go_roundw
          case rel => exact ⟨j + 1, by rw [HFV.out], by rw [HFV.out], by go_num, by omega, G5⟩
          case measure => simp [intOf] <;> omega
        · have hx := str_ne19 hes
          have HFV := Lib.hid (show ndF t (j + 1) = ndF t j from by rw [HFJ.out, if_neg (fun q => hes (HEJ.out.1 q))])
          clear HFJ HEJ hes
          go_wp2_with (go_at_call 16; (with_reducible refine (HRJ.out _).mono ?_); rintro e w5 ⟨rfl, g5⟩; have G5 := Lib.hid (only_trans HGR.out g5); clear g5)
          go_roundw
          case rel => exact ⟨j + 1, by rw [HFV.out], by rw [HFV.out], by go_num, by omega, G5⟩
          case measure => simp [intOf] <;> omega
      · obtain rfl : j = 16 := by omega
        clear HF HF0 HE HRN
        obtain ⟨r, hr⟩ : ∃ r, r = ndF t 16 := ⟨_, rfl⟩
        rw [← hr] at HND hr0 ⊢
        clear hr
        obtain ⟨ri, rb2⟩ := r
        simp only at hr0 HND
        have wri : IntKind.i64.wrap ri = ri := by rw [IntKind.wrap_i64]; omega
        obtain ⟨e0, e1, e2⟩ := HS.out wr HGR.out
        clear hr0 c0 c1 c2
        rcases HCLS.out with q | q | q
        all_goals
          first | (have a0 : (2 : Int) ≤ k := by omega) | (have a0 : ¬ (2 : Int) ≤ k := by omega)
          first | (have a1 : (k : Int) ≤ 10 := by omega) | (have a1 : ¬ (k : Int) ≤ 10 := by omega)
          first | (have hrb : rb = true := by rw [HRB.out]; simp; omega) | (have hrb : rb = false := by rw [HRB.out]; simp; omega)
          subst hrb
          clear q
          rcases HGOS.out with p | p | p | p | p
          all_goals
            first | (have z0 : ((m : Int) == 0) = true := by rw [beq_iff_eq]; omega) | (have z0 : ((m : Int) == 0) = false := by rw [beq_eq_false_iff_ne]; omega)
            first | (have z1 : ((m : Int) == 11) = true := by rw [beq_iff_eq]; omega) | (have z1 : ((m : Int) == 11) = false := by rw [beq_eq_false_iff_ne]; omega)
            first | (have z2 : ((m : Int) == 12) = true := by rw [beq_iff_eq]; omega) | (have z2 : ((m : Int) == 12) = false := by rw [beq_eq_false_iff_ne]; omega)
            first | (have z3 : ((m : Int) == 13) = true := by rw [beq_iff_eq]; omega) | (have z3 : ((m : Int) == 13) = false := by rw [beq_eq_false_iff_ne]; omega)
            first | (have hgb : gbm = true := by rw [HGB.out]; simp; omega) | (have hgb : gbm = false := by rw [HGB.out]; simp; omega)
            subst hgb
            clear p
            go_wp2_with (first
              | (go_at_call 17; (with_reducible refine (HND.out _ HGR.out).mono ?_); rintro e w6 ⟨rfl, rfl⟩)
              | (go_at_call 10; (with_reducible refine (HL.out _ HGR.out).mono ?_); rintro e w7 ⟨rfl, g7⟩; have G7 := Lib.hid (only_trans HGR.out g7); clear e0 e1 e2; obtain ⟨e0, e1, e2⟩ := HS.out w7 G7.out; clear g7)
              | (go_at_call 18; (with_reducible refine (HRE.out _).mono ?_); rintro e w8 ⟨rfl, rfl⟩)
              | (go_at_call 19; (with_reducible refine (HGO.out _).mono ?_); rintro e w9 ⟨rfl, g9⟩; have G9 := Lib.hid (only_trans G7.out g9); clear g9))
            go_ret
            exact ⟨by first | rfl | (simp; done) | (simp; omega), only_trans HG.out G9.out⟩
theorem names_walk (k : Nat) (t : ByteArray) (m : Nat) (x n : Int) (w : World) (hG : Nm w) (hk : k < 256) (hs : t.size ≤ 9223372036854775807) (hm : m < 256) :
    Calls Tryd.prog 6 #[.int .u8 k, .string t, .agg #[.int .u8 m, .int .i64 x, .int .i64 n]] w fun e w' => e = .returned (.bool true) ∧ Below w.heap.size w w' :=
  (names_any k t m x n w hG hk hm).mono fun e w' h => ⟨h.1, below_of_only h.2 (Nat.le_refl _) (by simp)⟩
end Go.Proofs.YtgmobncmkembiaaDoor
