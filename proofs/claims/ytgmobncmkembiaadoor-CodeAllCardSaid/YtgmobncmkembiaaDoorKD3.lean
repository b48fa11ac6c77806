/- The document's word on instructions: names, bytes, by their contracts. -/
import Derived.Test.YtgmobncmkembiaaDoorKD2
namespace Go.Proofs.YtgmobncmkembiaaDoor
open Go.RowKit Go.Lib
set_option linter.unusedVariables false

def nmV : Array Value := #[.string (nmL 0), .string (nmL 1), .string (nmL 2), .string (nmL 3), .string (nmL 4), .string (nmL 5), .string (nmL 6), .string (nmL 7), .string (nmL 8), .string (nmL 9), .string (nmL 10), .string (nmL 11), .string (nmL 12), .string (nmL 13), .string (nmL 14), .string (nmL 15)]
theorem nmV_at {k : Nat} (hk : k < 16) : nmV[k]? = some (.string (nmL k)) := by
  have key : k = 0 ∨ k = 1 ∨ k = 2 ∨ k = 3 ∨ k = 4 ∨ k = 5 ∨ k = 6 ∨ k = 7 ∨ k = 8 ∨ k = 9 ∨ k = 10 ∨ k = 11 ∨ k = 12 ∨ k = 13 ∨ k = 14 ∨ k = 15 := by omega
  rcases key with rfl | rfl | rfl | rfl | rfl | rfl | rfl | rfl | rfl | rfl | rfl | rfl | rfl | rfl | rfl | rfl
  all_goals rfl
set_option maxRecDepth 20000 in
theorem rname_any (k : Int) (hk : 0 ≤ k) (w : World) : Calls Tryd.prog 16 #[.int .i64 k] w fun e w' => e = .returned (.string (nmL k.toNat)) ∧ w.grownBy w' none := by
  obtain ⟨W1, hW, g1, hB⟩ := ibox w 56 nmV
  have HG := Lib.hid g1
  have b0 : ¬ k < 0 := by omega
  obtain ⟨k, rfl⟩ := Int.eq_ofNat_of_zero_le hk
  rw [Int.toNat_natCast]
  by_cases h : k < 16
  · have c := (hB.cell k).trans (nmV_at h)
    have i0 : ¬ (15 : Int) < (k : Int) := by omega
    have i1 : (k : Int) < 16 := by omega
    clear hB g1
    have hW' : W1 = w.alloc (.cells #[.string ⟨#[115, 116, 111, 112]⟩, .string ⟨#[115, 101, 116]⟩, .string ⟨#[109, 111, 118, 101]⟩, .string ⟨#[97, 100, 100]⟩, .string ⟨#[115, 117, 98]⟩, .string ⟨#[97, 110, 100]⟩, .string ⟨#[120, 111, 114]⟩, .string ⟨#[114, 101, 97, 100]⟩, .string ⟨#[119, 114, 105, 116, 101]⟩, .string ⟨#[114, 101, 97, 100, 50]⟩, .string ⟨#[119, 114, 105, 116, 101, 50]⟩, .string ⟨#[106, 117, 109, 112]⟩, .string ⟨#[122, 101, 114, 111]⟩, .string ⟨#[108, 101, 115, 115]⟩, .string ⟨#[99, 97, 108, 108]⟩, .string ⟨#[114, 101, 115, 116]⟩] 56) := hW
    clear hW
    go_enter Tryd.func16, Tryd.ntmps16
    go_upto_region 2 with (fail)
    rw [← hW']
    clear hW'
    go_wp2
    go_ret
    exact ⟨rfl, HG.out⟩
  · have i0 : (15 : Int) < (k : Int) := by omega
    rw [nmL_none (by omega)]
    clear hB g1
    have hW' : W1 = w.alloc (.cells #[.string ⟨#[115, 116, 111, 112]⟩, .string ⟨#[115, 101, 116]⟩, .string ⟨#[109, 111, 118, 101]⟩, .string ⟨#[97, 100, 100]⟩, .string ⟨#[115, 117, 98]⟩, .string ⟨#[97, 110, 100]⟩, .string ⟨#[120, 111, 114]⟩, .string ⟨#[114, 101, 97, 100]⟩, .string ⟨#[119, 114, 105, 116, 101]⟩, .string ⟨#[114, 101, 97, 100, 50]⟩, .string ⟨#[119, 114, 105, 116, 101, 50]⟩, .string ⟨#[106, 117, 109, 112]⟩, .string ⟨#[122, 101, 114, 111]⟩, .string ⟨#[108, 101, 115, 115]⟩, .string ⟨#[99, 97, 108, 108]⟩, .string ⟨#[114, 101, 115, 116]⟩] 56) := hW
    clear hW
    go_enter Tryd.func16, Tryd.ntmps16
    go_upto_region 2 with (fail)
    rw [← hW']
    clear hW'
    go_wp2
    go_ret
    exact ⟨rfl, HG.out⟩
/-- Two bytes as a string, behind another block. -/
theorem conv_two (x y : Int) (W : World) (o : Obj) : (convert 45 9 (.slice (some ⟨W.heap.size, 0, none⟩) 2 2)).run Tryd.prog ((W.alloc (.cells #[.int .u8 x, .int .u8 y] 5)).alloc o) =
    .ok (.string ⟨#[UInt8.ofNat x.toNat, UInt8.ofNat y.toNat]⟩) ((W.alloc (.cells #[.int .u8 x, .int .u8 y] 5)).alloc o) := by
  have hb := (Blk.new W 5 #[.int .u8 x, .int .u8 y]).alloc o
  have h := run_convert_bytes_arg (P := Tryd.prog) ((W.alloc (.cells #[.int .u8 x, .int .u8 y] 5)).alloc o) 45 5 Tryd.underlying45 Tryd.underlying5 W.heap.size 0 2 2 [x, y] rfl (by
    intro i hi
    rw [hb.cell]
    match i, hi with
    | 0, _ => simp
    | 1, _ => simp) 9 Tryd.underlying9
  rw [h]
  congr 2
set_option maxRecDepth 20000 in
set_option maxHeartbeats 1600000 in
theorem rput19_any (k : Nat) (x n : Int) (hm : mayI k x n = true) (w : World) : Calls Tryd.prog 12 #[.agg #[.int .u8 k, .int .i64 x, .int .i64 n]] w fun e w' => e = .returned (.string (ptI k x n)) ∧ w.grownBy w' none := by
  obtain ⟨k1, x1, x2, n1, n2⟩ := mayI_facts hm
  obtain ⟨W1, hW, g1, hB⟩ := ibox w 24 #[.int .u8 k, .int .i64 x, .int .i64 n]
  have HS := Lib.hid (show ∀ W, W1.grownBy W none → W.cell? ⟨w.heap.size, 0, none⟩ = some (.int .u8 k) ∧ W.cell? ⟨w.heap.size, 1, none⟩ = some (.int .i64 x) ∧ W.cell? ⟨w.heap.size, 2, none⟩ = some (.int .i64 n) from fun W q => in3 (hB.only q (by simp)))
  have HG := Lib.hid g1
  have hx : IntKind.u8.wrap x = x := by rw [IntKind.wrap_u8]; omega
  have HP := Lib.hid (rput_any n)
  have hk1 : (convert 45 9 (.slice (some ⟨W1.heap.size, 0, none⟩) 2 2)).run Tryd.prog (W1.alloc (.cells #[.int .u8 k, .int .u8 x] 5)).drew = .ok (.string ⟨#[UInt8.ofNat (k : Int).toNat, UInt8.ofNat x.toNat]⟩) (W1.alloc (.cells #[.int .u8 k, .int .u8 x] 5)).drew := run_two_bytes (k : Int) x W1.drew
  have hk2 : (convert 45 9 (.slice (some ⟨W1.heap.size, 0, none⟩) 2 2)).run Tryd.prog ((W1.alloc (.cells #[.int .u8 k, .int .u8 x] 5)).alloc (.cells #[.int .u8 (n % 256), .int .u8 (n / 256 % 256)] 5)).drew = .ok (.string ⟨#[UInt8.ofNat (k : Int).toNat, UInt8.ofNat x.toNat]⟩) ((W1.alloc (.cells #[.int .u8 k, .int .u8 x] 5)).alloc (.cells #[.int .u8 (n % 256), .int .u8 (n / 256 % 256)] 5)).drew := conv_two (k : Int) x W1.drew _
  have hk3 : (convert 45 9 (.slice (some ⟨W1.heap.size + 1, 0, none⟩) 2 2)).run Tryd.prog ((W1.alloc (.cells #[.int .u8 (n % 256), .int .u8 (n / 256 % 256)] 5)).alloc (.cells #[.int .u8 k, .int .u8 x] 5)).drew = .ok (.string ⟨#[UInt8.ofNat (k : Int).toNat, UInt8.ofNat x.toNat]⟩) ((W1.alloc (.cells #[.int .u8 (n % 256), .int .u8 (n / 256 % 256)] 5)).alloc (.cells #[.int .u8 k, .int .u8 x] 5)).drew := by
    have := run_two_bytes (k : Int) x (W1.drew.alloc (.cells #[.int .u8 (n % 256), .int .u8 (n / 256 % 256)] 5))
    rw [show (W1.drew.alloc (.cells #[.int .u8 (n % 256), .int .u8 (n / 256 % 256)] 5)).heap.size = W1.heap.size + 1 by simp] at this
    exact this
  have HV := Lib.hid (show (⟨#[UInt8.ofNat (k : Int).toNat, UInt8.ofNat x.toNat]⟩ : ByteArray) ++ Bt.put n = ptI k x n from by
    apply ByteArray.ext
    rw [ByteArray.data_append]
    simp [Bt.put, ptI])
  have HD := Lib.hid (show W1.grownBy W1.drew none from only_drewN (only_refl W1 none) 1)
  have HDA := Lib.hid (fun o : Obj => (show W1.grownBy (W1.alloc o).drew none from only_drewN (only_alloc (only_refl W1 none) o) 1))
  have HDB := Lib.hid (fun o o' : Obj => (show W1.grownBy ((W1.alloc o).alloc o').drew none from only_drewN (only_alloc (only_alloc (only_refl W1 none) o) o') 1))
  obtain ⟨c0, c1, c2⟩ := HS.out W1 (only_refl _ _)
  have hs1 : (⟨#[UInt8.ofNat (k : Int).toNat, UInt8.ofNat x.toNat]⟩ : ByteArray).size = 2 := rfl
  have hs2 : (Bt.put n).size = 2 := rfl
  obtain ⟨u, hu⟩ : ∃ u : ByteArray, u = ⟨#[UInt8.ofNat (k : Int).toNat, UInt8.ofNat x.toNat]⟩ := ⟨_, rfl⟩
  rw [← hu] at hk1 hk2 hk3 HV hs1
  generalize Bt.put n = v at HP HV hs2
  have hcat : ¬ 9223372036854775807 < u.size + v.size := by omega
  clear hB g1 hm k1 x1 x2 n1 n2 hs1 hs2 hu
  go_enter Tryd.func12, Tryd.ntmps12
  go_upto_region 1 with (fail)
  rw [← hW]
  clear hW
  refine wp_region_held_drew (S := fun W => W.cell? ⟨w.heap.size, 0, none⟩ = some (.int .u8 k) ∧ W.cell? ⟨w.heap.size, 1, none⟩ = some (.int .i64 x) ∧ W.cell? ⟨w.heap.size, 2, none⟩ = some (.int .i64 n)) (by kernel_rfl) (HS.out _ HD.out) (fun hHeld => ?_)
  refine wpAnyH_take (i := 0) (oi := _) (v := ?_) rfl (by kernel_rfl) (by kernel_rfl) (by kernel_rfl) (fun _ _ _ h => h) (Or.inl ⟨by rfl, ?_⟩) (by assumption) ?_
  case refine_2 => intro w hSw; (try dsimp only at hSw); go_simp; try with_reducible rfl
  try simp only [Act.put, List.setIfInBounds_toArray, List.set_cons_zero, List.set_cons_succ]
  refine wpAnyH_take (i := 1) (oi := _) (v := ?_) rfl (by kernel_rfl) (by kernel_rfl) (by kernel_rfl) (fun _ _ _ h => h) (Or.inl ⟨by rfl, ?_⟩) (by assumption) ?_
  case refine_2 => intro w hSw; (try dsimp only at hSw); go_simp; try with_reducible rfl
  try simp only [Act.put, List.setIfInBounds_toArray, List.set_cons_zero, List.set_cons_succ]
  refine wpAnyH_take (i := 2) (oi := _) (v := ?_) rfl (by kernel_rfl) (by kernel_rfl) (by kernel_rfl) (fun _ _ _ h => h) (Or.inl ⟨by rfl, ?_⟩) (by assumption) ?_
  case refine_2 => intro w hSw; (try dsimp only at hSw); go_simp; try with_reducible rfl
  try simp only [Act.put, List.setIfInBounds_toArray, List.set_cons_zero, List.set_cons_succ]
  refine wpAnyH_take (i := 3) (oi := _) (v := ?_) rfl (by kernel_rfl) (by kernel_rfl) (by kernel_rfl) (fun _ _ _ h => h) (Or.inl ⟨by rfl, ?_⟩) (by assumption) ?_
  case refine_2 => intro w hSw; (try dsimp only at hSw); go_simp; try with_reducible rfl
  try simp only [Act.put, List.setIfInBounds_toArray, List.set_cons_zero, List.set_cons_succ]
  refine wpAnyH_take (i := 4) (oi := _) (v := ?_) rfl (by kernel_rfl) (by kernel_rfl) (by kernel_rfl) (fun _ _ _ h => h) (Or.inl ⟨by rfl, ?_⟩) (by assumption) ?_
  case refine_2 => intro w hSw; (try dsimp only at hSw); go_simp; try with_reducible rfl
  try simp only [Act.put, List.setIfInBounds_toArray, List.set_cons_zero, List.set_cons_succ]
  refine wpAnyH_take (i := 7) (oi := _) (v := ?_) rfl (by kernel_rfl) (by kernel_rfl) (by kernel_rfl) (fun _ _ _ h => h) (Or.inl ⟨by rfl, ?_⟩) (by assumption) ?_
  case refine_2 => intro w hSw; (try dsimp only at hSw); go_simp; try with_reducible rfl
  try simp only [Act.put, List.setIfInBounds_toArray, List.set_cons_zero, List.set_cons_succ]
  refine wpAnyH_take (i := 8) (oi := _) (v := ?_) rfl (by kernel_rfl) (by kernel_rfl) (by kernel_rfl) (fun _ _ _ h => h) (Or.inl ⟨by rfl, ?_⟩) (by assumption) ?_
  case refine_2 => intro w hSw; (try dsimp only at hSw); go_simp; try with_reducible rfl
  try simp only [Act.put, List.setIfInBounds_toArray, List.set_cons_zero, List.set_cons_succ]
  refine wpAnyH_ready (rs := [5, 9]) (by kernel_rfl) (by simp) ?_
  refine AllReadyH.cons (o := _) rfl (fun K hK => ?_) (AllReadyH.cons (o := _) rfl (fun K hK => ?_) AllReadyH.nil)
  · skip
    go_simp
    refine hK.out _ _ (HS.out _ (HDA.out _)) (fun hHeld => ?_)
    clear hK K
    try simp only [Act.put, List.setIfInBounds_toArray, List.set_cons_zero, List.set_cons_succ]
    refine wpAnyH_ready (rs := [6, 9]) (by kernel_rfl) (by simp) ?_
    refine AllReadyH.cons (o := _) rfl (fun K hK => ?_) (AllReadyH.cons (o := _) rfl (fun K hK => ?_) AllReadyH.nil)
    · skip
      go_simp
      refine hK.out _ _ (HS.out _ (HDA.out _)) (fun hHeld => ?_)
      clear hK K
      try simp only [Act.put, List.setIfInBounds_toArray, List.set_cons_zero, List.set_cons_succ]
      refine wpAnyH_ready (rs := [9]) (by kernel_rfl) (by simp) ?_
      refine AllReadyH.cons (o := _) rfl (fun K hK => ?_) AllReadyH.nil
      go_simp
      refine (HP.out _).mono ?_
      rintro e w2 ⟨rfl, rfl⟩
      try simp only []
      refine hK.out _ _ (HS.out _ (HDB.out _ _)) (fun hHeld => ?_)
      clear hK K
      try simp only [Act.put, List.setIfInBounds_toArray, List.set_cons_zero, List.set_cons_succ]
      refine wpAnyH_take (i := 10) (oi := _) (v := ?_) rfl (by kernel_rfl) (by kernel_rfl) (by kernel_rfl) (fun _ _ _ h => h) (Or.inl ⟨by rfl, ?_⟩) (by assumption) ?_
      case refine_2 => intro w hSw; (try dsimp only at hSw); go_simp; try with_reducible rfl
      try simp only [Act.put, List.setIfInBounds_toArray, List.set_cons_zero, List.set_cons_succ]
      refine wpAnyH_ready (rs := [11]) (by kernel_rfl) (by simp) ?_
      refine AllReadyH.cons (o := _) rfl (fun K hK => ?_) AllReadyH.nil
      go_simp
      refine hK.out _ _ (HS.out _ (HDB.out _ _)) (fun hHeld => ?_)
      clear hK K
      try simp only [Act.put, List.setIfInBounds_toArray, List.set_cons_zero, List.set_cons_succ]
      refine wpAnyH_done (by kernel_rfl) ?_ _
      go_wp2
      go_ret
      exact ⟨by first | (rw [HV.out]; done) | (rw [HV.out]; rfl), only_trans HG.out (HDB.out _ _)⟩
    · skip
      go_simp
      refine (HP.out _).mono ?_
      rintro e w2 ⟨rfl, rfl⟩
      try simp only []
      refine hK.out _ _ (HS.out _ (HDB.out _ _)) (fun hHeld => ?_)
      clear hK K
      try simp only [Act.put, List.setIfInBounds_toArray, List.set_cons_zero, List.set_cons_succ]
      refine wpAnyH_ready (rs := [6]) (by kernel_rfl) (by simp) ?_
      refine AllReadyH.cons (o := _) rfl (fun K hK => ?_) AllReadyH.nil
      go_simp
      refine hK.out _ _ (HS.out _ (HDB.out _ _)) (fun hHeld => ?_)
      clear hK K
      try simp only [Act.put, List.setIfInBounds_toArray, List.set_cons_zero, List.set_cons_succ]
      refine wpAnyH_take (i := 10) (oi := _) (v := ?_) rfl (by kernel_rfl) (by kernel_rfl) (by kernel_rfl) (fun _ _ _ h => h) (Or.inl ⟨by rfl, ?_⟩) (by assumption) ?_
      case refine_2 => intro w hSw; (try dsimp only at hSw); go_simp; try with_reducible rfl
      try simp only [Act.put, List.setIfInBounds_toArray, List.set_cons_zero, List.set_cons_succ]
      refine wpAnyH_ready (rs := [11]) (by kernel_rfl) (by simp) ?_
      refine AllReadyH.cons (o := _) rfl (fun K hK => ?_) AllReadyH.nil
      go_simp
      refine hK.out _ _ (HS.out _ (HDB.out _ _)) (fun hHeld => ?_)
      clear hK K
      try simp only [Act.put, List.setIfInBounds_toArray, List.set_cons_zero, List.set_cons_succ]
      refine wpAnyH_done (by kernel_rfl) ?_ _
      go_wp2
      go_ret
      exact ⟨by first | (rw [HV.out]; done) | (rw [HV.out]; rfl), only_trans HG.out (HDB.out _ _)⟩
  · skip
    go_simp
    refine (HP.out _).mono ?_
    rintro e w2 ⟨rfl, rfl⟩
    try simp only []
    refine hK.out _ _ (HS.out _ (HDA.out _)) (fun hHeld => ?_)
    clear hK K
    try simp only [Act.put, List.setIfInBounds_toArray, List.set_cons_zero, List.set_cons_succ]
    refine wpAnyH_ready (rs := [5]) (by kernel_rfl) (by simp) ?_
    refine AllReadyH.cons (o := _) rfl (fun K hK => ?_) AllReadyH.nil
    go_simp
    refine hK.out _ _ (HS.out _ (HDB.out _ _)) (fun hHeld => ?_)
    clear hK K
    try simp only [Act.put, List.setIfInBounds_toArray, List.set_cons_zero, List.set_cons_succ]
    refine wpAnyH_ready (rs := [6]) (by kernel_rfl) (by simp) ?_
    refine AllReadyH.cons (o := _) rfl (fun K hK => ?_) AllReadyH.nil
    go_simp
    refine hK.out _ _ (HS.out _ (HDB.out _ _)) (fun hHeld => ?_)
    clear hK K
    try simp only [Act.put, List.setIfInBounds_toArray, List.set_cons_zero, List.set_cons_succ]
    refine wpAnyH_take (i := 10) (oi := _) (v := ?_) rfl (by kernel_rfl) (by kernel_rfl) (by kernel_rfl) (fun _ _ _ h => h) (Or.inl ⟨by rfl, ?_⟩) (by assumption) ?_
    case refine_2 => intro w hSw; (try dsimp only at hSw); go_simp; try with_reducible rfl
    try simp only [Act.put, List.setIfInBounds_toArray, List.set_cons_zero, List.set_cons_succ]
    refine wpAnyH_ready (rs := [11]) (by kernel_rfl) (by simp) ?_
    refine AllReadyH.cons (o := _) rfl (fun K hK => ?_) AllReadyH.nil
    go_simp
    refine hK.out _ _ (HS.out _ (HDB.out _ _)) (fun hHeld => ?_)
    clear hK K
    try simp only [Act.put, List.setIfInBounds_toArray, List.set_cons_zero, List.set_cons_succ]
    refine wpAnyH_done (by kernel_rfl) ?_ _
    go_wp2
    go_ret
    exact ⟨by first | (rw [HV.out]; done) | (rw [HV.out]; rfl), only_trans HG.out (HDB.out _ _)⟩
end Go.Proofs.YtgmobncmkembiaaDoor
