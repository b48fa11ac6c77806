import Derived.Test.YteoaaogfloljlaaDoorZ09
import Derived.Test.YteoaaogfloljlaaDoorZ01
import Derived.Deep.DeepHandedRow
import Derived.LaidSub
import Derived.PinnedBridge
import Derived.Lib.LaidTab
import Derived.Test.YteoaaogfloljlaaDoorCards
import Derived.Test.YteoaaogfloljlaaDoorTie
import Derived.SevenTiedAt
set_option linter.all false
/- The document's word on instructions: names, bytes, by their contracts. -/
namespace Go.Proofs.YteoaaogfloljlaaDoor
open Go.RowKit Go.Lib
set_option linter.unusedVariables false

def nmV : Array Value := #[.string (nmL 0), .string (nmL 1), .string (nmL 2), .string (nmL 3), .string (nmL 4), .string (nmL 5), .string (nmL 6), .string (nmL 7), .string (nmL 8), .string (nmL 9), .string (nmL 10), .string (nmL 11), .string (nmL 12), .string (nmL 13), .string (nmL 14), .string (nmL 15)]
theorem nmV_at {k : Nat} (hk : k < 16) : nmV[k]? = some (.string (nmL k)) := by
  have key : k = 0 ∨ k = 1 ∨ k = 2 ∨ k = 3 ∨ k = 4 ∨ k = 5 ∨ k = 6 ∨ k = 7 ∨ k = 8 ∨ k = 9 ∨ k = 10 ∨ k = 11 ∨ k = 12 ∨ k = 13 ∨ k = 14 ∨ k = 15 := by omega
  rcases key with rfl | rfl | rfl | rfl | rfl | rfl | rfl | rfl | rfl | rfl | rfl | rfl | rfl | rfl | rfl | rfl
  all_goals rfl
/-- Two bytes as1 a string, behind another block. -/
theorem conv_two (x y : Int) (W : World) (o : Obj) : (convert 34 9 (.slice (some ⟨W.heap.size, 0, none⟩) 2 2)).run Tryd.prog ((W.alloc (.cells #[.int .u8 x, .int .u8 y] 5)).alloc o) =
    .ok (.string ⟨#[UInt8.ofNat x.toNat, UInt8.ofNat y.toNat]⟩) ((W.alloc (.cells #[.int .u8 x, .int .u8 y] 5)).alloc o) := by
  have hb := (Blk.new W 5 #[.int .u8 x, .int .u8 y]).alloc o
  have h := run_convert_bytes_arg (P := Tryd.prog) ((W.alloc (.cells #[.int .u8 x, .int .u8 y] 5)).alloc o) 34 5 Tryd.underlying34 Tryd.underlying5 W.heap.size 0 2 2 [x, y] rfl (by
    intro i hi
    rw [hb.cell]
    match i, hi with
    | 0, _ => simp
    | 1, _ => simp) 9 Tryd.underlying9
  rw [h]
  congr 2
set_option maxRecDepth 20000 in
set_option maxHeartbeats 1600000 in
theorem rput19_any (k : Nat) (x n : Int) (hm : mayI k x n = true) (w : World) : Calls Tryd.prog 5 #[.agg #[.int .u8 k, .int .i64 x, .int .i64 n]] w fun e w' => e = .returned (.string (ptI k x n)) ∧ w.grownBy w' none := by
  obtain ⟨k1, x1, x2, n1, n2⟩ := mayI_facts hm
  obtain ⟨W1, hW, g1, hB⟩ := ibox w 26 #[.int .u8 k, .int .i64 x, .int .i64 n]
  have HS := Lib.hid (show ∀ W, W1.grownBy W none → W.cell? ⟨w.heap.size, 0, none⟩ = some (.int .u8 k) ∧ W.cell? ⟨w.heap.size, 1, none⟩ = some (.int .i64 x) ∧ W.cell? ⟨w.heap.size, 2, none⟩ = some (.int .i64 n) from fun W q => in3 (hB.only q (by simp)))
  have HG := Lib.hid g1
  have hx : IntKind.u8.wrap x = x := by rw [IntKind.wrap_u8]; omega
  have HP := Lib.hid (rput_any n)
  have hk1 : (convert 34 9 (.slice (some ⟨W1.heap.size, 0, none⟩) 2 2)).run Tryd.prog (W1.alloc (.cells #[.int .u8 k, .int .u8 x] 5)).drew = .ok (.string ⟨#[UInt8.ofNat (k : Int).toNat, UInt8.ofNat x.toNat]⟩) (W1.alloc (.cells #[.int .u8 k, .int .u8 x] 5)).drew := run_two_bytes (k : Int) x W1.drew
  have hk2 : (convert 34 9 (.slice (some ⟨W1.heap.size, 0, none⟩) 2 2)).run Tryd.prog ((W1.alloc (.cells #[.int .u8 k, .int .u8 x] 5)).alloc (.cells #[.int .u8 (n % 256), .int .u8 (n / 256 % 256)] 5)).drew = .ok (.string ⟨#[UInt8.ofNat (k : Int).toNat, UInt8.ofNat x.toNat]⟩) ((W1.alloc (.cells #[.int .u8 k, .int .u8 x] 5)).alloc (.cells #[.int .u8 (n % 256), .int .u8 (n / 256 % 256)] 5)).drew := conv_two (k : Int) x W1.drew _
  have hk3 : (convert 34 9 (.slice (some ⟨W1.heap.size + 1, 0, none⟩) 2 2)).run Tryd.prog ((W1.alloc (.cells #[.int .u8 (n % 256), .int .u8 (n / 256 % 256)] 5)).alloc (.cells #[.int .u8 k, .int .u8 x] 5)).drew = .ok (.string ⟨#[UInt8.ofNat (k : Int).toNat, UInt8.ofNat x.toNat]⟩) ((W1.alloc (.cells #[.int .u8 (n % 256), .int .u8 (n / 256 % 256)] 5)).alloc (.cells #[.int .u8 k, .int .u8 x] 5)).drew := by
    have := run_two_bytes (k : Int) x (W1.drew.alloc (.cells #[.int .u8 (n % 256), .int .u8 (n / 256 % 256)] 5))
    rw [show (W1.drew.alloc (.cells #[.int .u8 (n % 256), .int .u8 (n / 256 % 256)] 5)).heap.size = W1.heap.size + 1 by simp] at this
    exact this
  have HV := Lib.hid (show (⟨#[UInt8.ofNat (k : Int).toNat, UInt8.ofNat x.toNat]⟩ : ByteArray) ++ Bt.put n = ptI k x n from by
    apply ByteArray.ext
    rw [ByteArray.data_append]
    simp [Bt.put, ptI])
  have HD := Lib.hid (show W1.grownBy W1.drew none from only_drewN (only_refl W1 none) 1)
  have HDA := Lib.hid (fun o : Obj => (show W1.grownBy (W1.alloc o).drew none from only_drewN (only_alloc (only_refl W1 none) o) 1))
  have HDB := Lib.hid (fun o o' : Obj => (show W1.grownBy ((W1.alloc o).alloc o').drew none from only_drewN (only_alloc (only_alloc (only_refl W1 none) o) o') 1))
  obtain ⟨c0, c1, c2⟩ := HS.out W1 (only_refl _ _)
  have hs1 : (⟨#[UInt8.ofNat (k : Int).toNat, UInt8.ofNat x.toNat]⟩ : ByteArray).size = 2 := rfl
  have hs2 : (Bt.put n).size = 2 := rfl
  obtain ⟨u, hu⟩ : ∃ u : ByteArray, u = ⟨#[UInt8.ofNat (k : Int).toNat, UInt8.ofNat x.toNat]⟩ := ⟨_, rfl⟩
  rw [← hu] at hk1 hk2 hk3 HV hs1
  generalize Bt.put n = v at HP HV hs2
  have hcat : ¬ 9223372036854775807 < u.size + v.size := by omega
  clear hB g1 hm k1 x1 x2 n1 n2 hs1 hs2 hu
  go_enter Tryd.func5, Tryd.ntmps5
  go_upto_region 1 with (fail)
  rw [← hW]
  clear hW
  refine wp_region_held_drew (S := fun W => W.cell? ⟨w.heap.size, 0, none⟩ = some (.int .u8 k) ∧ W.cell? ⟨w.heap.size, 1, none⟩ = some (.int .i64 x) ∧ W.cell? ⟨w.heap.size, 2, none⟩ = some (.int .i64 n)) (by kernel_rfl) (HS.out _ HD.out) (fun hHeld => ?_)
  refine wpAnyH_take (i := 0) (oi := _) (v := ?_) rfl (by kernel_rfl) (by kernel_rfl) (by kernel_rfl) (fun _ _ _ h => h) (Or.inl ⟨by rfl, ?_⟩) (by assumption) ?_
  case refine_2 => intro w hSw; (try dsimp only at hSw); go_simp; try with_reducible rfl
  try simp only [Act.put, List.setIfInBounds_toArray, List.set_cons_zero, List.set_cons_succ]
  refine wpAnyH_take (i := 1) (oi := _) (v := ?_) rfl (by kernel_rfl) (by kernel_rfl) (by kernel_rfl) (fun _ _ _ h => h) (Or.inl ⟨by rfl, ?_⟩) (by assumption) ?_
  case refine_2 => intro w hSw; (try dsimp only at hSw); go_simp; try with_reducible rfl
  try simp only [Act.put, List.setIfInBounds_toArray, List.set_cons_zero, List.set_cons_succ]
  refine wpAnyH_take (i := 2) (oi := _) (v := ?_) rfl (by kernel_rfl) (by kernel_rfl) (by kernel_rfl) (fun _ _ _ h => h) (Or.inl ⟨by rfl, ?_⟩) (by assumption) ?_
  case refine_2 => intro w hSw; (try dsimp only at hSw); go_simp; try with_reducible rfl
  try simp only [Act.put, List.setIfInBounds_toArray, List.set_cons_zero, List.set_cons_succ]
  refine wpAnyH_take (i := 3) (oi := _) (v := ?_) rfl (by kernel_rfl) (by kernel_rfl) (by kernel_rfl) (fun _ _ _ h => h) (Or.inl ⟨by rfl, ?_⟩) (by assumption) ?_
  case refine_2 => intro w hSw; (try dsimp only at hSw); go_simp; try with_reducible rfl
  try simp only [Act.put, List.setIfInBounds_toArray, List.set_cons_zero, List.set_cons_succ]
  refine wpAnyH_take (i := 4) (oi := _) (v := ?_) rfl (by kernel_rfl) (by kernel_rfl) (by kernel_rfl) (fun _ _ _ h => h) (Or.inl ⟨by rfl, ?_⟩) (by assumption) ?_
  case refine_2 => intro w hSw; (try dsimp only at hSw); go_simp; try with_reducible rfl
  try simp only [Act.put, List.setIfInBounds_toArray, List.set_cons_zero, List.set_cons_succ]
  refine wpAnyH_take (i := 7) (oi := _) (v := ?_) rfl (by kernel_rfl) (by kernel_rfl) (by kernel_rfl) (fun _ _ _ h => h) (Or.inl ⟨by rfl, ?_⟩) (by assumption) ?_
  case refine_2 => intro w hSw; (try dsimp only at hSw); go_simp; try with_reducible rfl
  try simp only [Act.put, List.setIfInBounds_toArray, List.set_cons_zero, List.set_cons_succ]
  refine wpAnyH_take (i := 8) (oi := _) (v := ?_) rfl (by kernel_rfl) (by kernel_rfl) (by kernel_rfl) (fun _ _ _ h => h) (Or.inl ⟨by rfl, ?_⟩) (by assumption) ?_
  case refine_2 => intro w hSw; (try dsimp only at hSw); go_simp; try with_reducible rfl
  try simp only [Act.put, List.setIfInBounds_toArray, List.set_cons_zero, List.set_cons_succ]
  refine wpAnyH_ready (rs := [5, 9]) (by kernel_rfl) (by simp) ?_
  refine AllReadyH.cons (o := _) rfl (fun K hK => ?_) (AllReadyH.cons (o := _) rfl (fun K hK => ?_) AllReadyH.nil)
  · skip
    go_simp
    refine hK.out _ _ (HS.out _ (HDA.out _)) (fun hHeld => ?_)
    clear hK K
    try simp only [Act.put, List.setIfInBounds_toArray, List.set_cons_zero, List.set_cons_succ]
    refine wpAnyH_ready (rs := [6, 9]) (by kernel_rfl) (by simp) ?_
    refine AllReadyH.cons (o := _) rfl (fun K hK => ?_) (AllReadyH.cons (o := _) rfl (fun K hK => ?_) AllReadyH.nil)
    · skip
      go_simp
      refine hK.out _ _ (HS.out _ (HDA.out _)) (fun hHeld => ?_)
      clear hK K
      try simp only [Act.put, List.setIfInBounds_toArray, List.set_cons_zero, List.set_cons_succ]
      refine wpAnyH_ready (rs := [9]) (by kernel_rfl) (by simp) ?_
      refine AllReadyH.cons (o := _) rfl (fun K hK => ?_) AllReadyH.nil
      go_simp
      refine (HP.out _).mono ?_
      rintro e w2 ⟨rfl, rfl⟩
      try simp only []
      refine hK.out _ _ (HS.out _ (HDB.out _ _)) (fun hHeld => ?_)
      clear hK K
      try simp only [Act.put, List.setIfInBounds_toArray, List.set_cons_zero, List.set_cons_succ]
      refine wpAnyH_take (i := 10) (oi := _) (v := ?_) rfl (by kernel_rfl) (by kernel_rfl) (by kernel_rfl) (fun _ _ _ h => h) (Or.inl ⟨by rfl, ?_⟩) (by assumption) ?_
      case refine_2 => intro w hSw; (try dsimp only at hSw); go_simp; try with_reducible rfl
      try simp only [Act.put, List.setIfInBounds_toArray, List.set_cons_zero, List.set_cons_succ]
      refine wpAnyH_ready (rs := [11]) (by kernel_rfl) (by simp) ?_
      refine AllReadyH.cons (o := _) rfl (fun K hK => ?_) AllReadyH.nil
      go_simp
      refine hK.out _ _ (HS.out _ (HDB.out _ _)) (fun hHeld => ?_)
      clear hK K
      try simp only [Act.put, List.setIfInBounds_toArray, List.set_cons_zero, List.set_cons_succ]
      refine wpAnyH_done (by kernel_rfl) ?_ _
      go_wp2
      go_ret
      exact ⟨by first | (rw [HV.out]; done) | (rw [HV.out]; rfl), only_trans HG.out (HDB.out _ _)⟩
    · skip
      go_simp
      refine (HP.out _).mono ?_
      rintro e w2 ⟨rfl, rfl⟩
      try simp only []
      refine hK.out _ _ (HS.out _ (HDB.out _ _)) (fun hHeld => ?_)
      clear hK K
      try simp only [Act.put, List.setIfInBounds_toArray, List.set_cons_zero, List.set_cons_succ]
      refine wpAnyH_ready (rs := [6]) (by kernel_rfl) (by simp) ?_
      refine AllReadyH.cons (o := _) rfl (fun K hK => ?_) AllReadyH.nil
      go_simp
      refine hK.out _ _ (HS.out _ (HDB.out _ _)) (fun hHeld => ?_)
      clear hK K
      try simp only [Act.put, List.setIfInBounds_toArray, List.set_cons_zero, List.set_cons_succ]
      refine wpAnyH_take (i := 10) (oi := _) (v := ?_) rfl (by kernel_rfl) (by kernel_rfl) (by kernel_rfl) (fun _ _ _ h => h) (Or.inl ⟨by rfl, ?_⟩) (by assumption) ?_
      case refine_2 => intro w hSw; (try dsimp only at hSw); go_simp; try with_reducible rfl
      try simp only [Act.put, List.setIfInBounds_toArray, List.set_cons_zero, List.set_cons_succ]
      refine wpAnyH_ready (rs := [11]) (by kernel_rfl) (by simp) ?_
      refine AllReadyH.cons (o := _) rfl (fun K hK => ?_) AllReadyH.nil
      go_simp
      refine hK.out _ _ (HS.out _ (HDB.out _ _)) (fun hHeld => ?_)
      clear hK K
      try simp only [Act.put, List.setIfInBounds_toArray, List.set_cons_zero, List.set_cons_succ]
      refine wpAnyH_done (by kernel_rfl) ?_ _
      go_wp2
      go_ret
      exact ⟨by first | (rw [HV.out]; done) | (rw [HV.out]; rfl), only_trans HG.out (HDB.out _ _)⟩
  · skip
    go_simp
    refine (HP.out _).mono ?_
    rintro e w2 ⟨rfl, rfl⟩
    try simp only []
    refine hK.out _ _ (HS.out _ (HDA.out _)) (fun hHeld => ?_)
    clear hK K
    try simp only [Act.put, List.setIfInBounds_toArray, List.set_cons_zero, List.set_cons_succ]
    refine wpAnyH_ready (rs := [5]) (by kernel_rfl) (by simp) ?_
    refine AllReadyH.cons (o := _) rfl (fun K hK => ?_) AllReadyH.nil
    go_simp
    refine hK.out _ _ (HS.out _ (HDB.out _ _)) (fun hHeld => ?_)
    clear hK K
    try simp only [Act.put, List.setIfInBounds_toArray, List.set_cons_zero, List.set_cons_succ]
    refine wpAnyH_ready (rs := [6]) (by kernel_rfl) (by simp) ?_
    refine AllReadyH.cons (o := _) rfl (fun K hK => ?_) AllReadyH.nil
    go_simp
    refine hK.out _ _ (HS.out _ (HDB.out _ _)) (fun hHeld => ?_)
    clear hK K
    try simp only [Act.put, List.setIfInBounds_toArray, List.set_cons_zero, List.set_cons_succ]
    refine wpAnyH_take (i := 10) (oi := _) (v := ?_) rfl (by kernel_rfl) (by kernel_rfl) (by kernel_rfl) (fun _ _ _ h => h) (Or.inl ⟨by rfl, ?_⟩) (by assumption) ?_
    case refine_2 => intro w hSw; (try dsimp only at hSw); go_simp; try with_reducible rfl
    try simp only [Act.put, List.setIfInBounds_toArray, List.set_cons_zero, List.set_cons_succ]
    refine wpAnyH_ready (rs := [11]) (by kernel_rfl) (by simp) ?_
    refine AllReadyH.cons (o := _) rfl (fun K hK => ?_) AllReadyH.nil
    go_simp
    refine hK.out _ _ (HS.out _ (HDB.out _ _)) (fun hHeld => ?_)
    clear hK K
    try simp only [Act.put, List.setIfInBounds_toArray, List.set_cons_zero, List.set_cons_succ]
    refine wpAnyH_done (by kernel_rfl) ?_ _
    go_wp2
    go_ret
    exact ⟨by first | (rw [HV.out]; done) | (rw [HV.out]; rfl), only_trans HG.out (HDB.out _ _)⟩
end Go.Proofs.YteoaaogfloljlaaDoor

/- AsmBack walked. -/
namespace Go.Proofs.YteoaaogfloljlaaDoor
open Go.RowKit Go.Lib
set_option linter.unusedVariables false
set_option maxRecDepth 8000

theorem Bk.pt_eq (k x n : Nat) : (ptI k x n).data.toList = Am.pt k x n := by
  unfold ptI Am.pt
  have e1 : ((n : Int) % 256).toNat = n % 256 := by omega
  have e2 : ((n : Int) / 256 % 256).toNat = n / 256 % 256 := by omega
  simp only [Int.toNat_natCast, e1, e2]
theorem Bk.prg_yes (D : Nat → Bk.I) (j k x n : Nat) (hD : D j = ⟨k, x, n⟩) (h : Bk.may ⟨k, x, n⟩ = true) : Bk.prg (Bk.upto D (j + 1)) = Bk.prg (Bk.upto D j) ++ (ptI k x n).data.toList := by
  rw [Bk.upto, hD, if_pos h, Bk.prg_app, Bk.pt_eq]
  show _ ++ (Bk.pt ⟨k, x, n⟩ ++ []) = _
  rw [List.append_nil]
  rfl
theorem Bk.InP.cut {w : World} {A : Option Addr} {n m : Nat} {D : Nat → Bk.I} (h : Bk.InP w A n D) (hm : m ≤ n) : Bk.InP w A m D := fun hp => by
  obtain ⟨b, off, h1, h2, h3⟩ := h (by omega)
  exact ⟨b, off, h1, h2, fun i hi => h3 i (by omega)⟩
/-- Printed and assembled. -/
theorem Bk.back_any (D : Nat → Bk.I) (m : Nat) (hm : m ≤ 100) (w : World) (hG : Am.Gl w) : Calls Tryd.prog 6 #[.string ⟨(Bk.txt (Bk.upto D m)).toArray⟩] w fun e w' => e = .returned (.tuple #[.string ⟨(Bk.prg (Bk.upto D m)).toArray⟩, .int .i64 0, .int .i64 0]) ∧ Below w.heap.size w w' := by
  have hl := Bk.upto_len D m
  have h1 := Bk.txt_few D m hm
  have h := Am.assemble_any ⟨(Bk.txt (Bk.upto D m)).toArray⟩ (by rw [Bk.size_mk]; omega) w hG
  rw [show (⟨(Bk.txt (Bk.upto D m)).toArray⟩ : ByteArray).data.toList = Bk.txt (Bk.upto D m) from by simp, Bk.read_txt _ (Bk.upto_all D m) (by omega)] at h
  exact h
set_option maxHeartbeats 6400000 in
theorem Bk.back_few (A : Option Addr) (n c : Nat) (D : Nat → Bk.I) (w : World) (hG : Bk.G w) (hI : Bk.InP w A n D) (hnc : n ≤ c) (hn : n ≤ 100) : Calls Tryd.prog 3 #[.slice A n c] w fun e w' => e = .returned (.bool true) ∧ Below w.heap.size w w' := by
  have HG := Lib.hid hG
  have HI := Lib.hid (hI.cut (show n ≤ n by omega))
  have H3 := Lib.hid hG.gl.sz
  have HM := Lib.hid (show n ≤ 100 by omega)
  have q1 : (n : Int) ≤ 100 := by omega
  have q2 : min (n : Int) 100 = (n : Int) := by omega
  have q3 : (0 : Int) ≤ (n : Int) := by omega
  have q4 : n ≤ c := hnc
  have q5 : (n : Int) ≤ (c : Int) := by omega
  clear hG hI hn
  go_enter Tryd.func3, Tryd.ntmps3
  go_upto_region 4 with (fail)
  clear q1 q2 q3 q4 q5
  go_loopw [4, 3] (fun t s wr => ∃ (j : Nat) (b : ByteArray), t = .int .i64 j ∧ s = .string b ∧ j ≤ 100 ∧ Hid (j ≤ n) ∧ Hid (b.data.toList = Bk.prg (Bk.upto D j)) ∧ Hid (b.size ≤ 4 * j) ∧ Hid (w.grownBy wr none)) (fun t _ _ => 100 - (Go.RowKit.intOf t).toNat)
  case atStart => exact ⟨0, _, rfl, rfl, by omega, Lib.hid (Nat.zero_le _), Lib.hid rfl, Lib.hid (by decide), Lib.hid (only_refl _ none)⟩
  case round =>
    obtain ⟨j, b, rfl, rfl, hj1, HJ, HBL, HBS, HGR⟩ := hrel
    by_cases hin : j < n
    · obtain ⟨bk, off, rfl, hbk, hcc⟩ := HI.out (by omega)
      obtain ⟨hk256, d0, d1, d2⟩ := hcc j hin
      have HK := Lib.hid (show j + 1 ≤ n ∧ j + 1 ≤ 100 from ⟨hin, by have := HM.out; omega⟩)
      obtain ⟨y, hD⟩ : ∃ y, D j = y := ⟨_, rfl⟩
      obtain ⟨k, x, m⟩ := y
      rw [hD] at hk256 d0 d1 d2
      simp only at hk256 d0 d1 d2
      have c0 := HGR.out.cell d0 (by simp)
      have c1 := HGR.out.cell d1 (by simp)
      have c2 := HGR.out.cell d2 (by simp)
      have HCS := Lib.hid (fun W (g : wr.grownBy W none) => And.intro (g.cell c0 (by simp)) (And.intro (g.cell c1 (by simp)) (g.cell c2 (by simp))))
      have HDD := Lib.hid hD
      have HMA := Lib.hid (fun W => rmay_any k x m hk256 W)
      obtain ⟨mb, hmb⟩ : ∃ mb, mayI k x m = mb := ⟨_, rfl⟩
      rw [hmb] at HMA
      have HMB := Lib.hid (show Bk.may ⟨k, x, m⟩ = mb from hmb)
      have i1 : (j : Int) < (n : Int) := by omega
      have i2 : j < n := hin
      have i3 : (0 : Int) ≤ (j : Int) := by omega
      have u1 : IntKind.i64.wrap ((j : Int) + 1) = ((j + 1 : Nat) : Int) := by rw [IntKind.wrap_i64]; omega
      cases mb
      · clear hcc hbk d0 d1 d2 hD hk256 hin hmb
        go_wp2_with (go_at_call 4; (with_reducible refine (HMA.out _).mono ?_); rintro e w2 ⟨rfl, g2⟩; have G2 := Lib.hid (only_trans HGR.out g2); clear g2)
        go_roundw
        case rel => exact ⟨j + 1, b, by go_num, rfl, HK.out.2, Lib.hid HK.out.1, Lib.hid (by rw [HBL.out, Bk.upto_no D j (by rw [HDD.out, HMB.out]; simp)]), Lib.hid (by have := HBS.out; omega), G2⟩
        case measure =>
          have := HK.out
          simp [Go.RowKit.intOf]
          omega
      · obtain ⟨f1, f2, f3, f4, f5⟩ := mayI_facts hmb
        obtain ⟨xn, rfl⟩ := Int.eq_ofNat_of_zero_le f2
        obtain ⟨mn, rfl⟩ := Int.eq_ofNat_of_zero_le f4
        have HPU := Lib.hid (fun W => rput19_any k xn mn hmb W)
        have HYES := Lib.hid (Bk.prg_yes D j k xn mn hD hmb)
        obtain ⟨pb, hpb⟩ : ∃ pb, ptI k xn mn = pb := ⟨_, rfl⟩
        have HPS := Lib.hid (show pb.size = 4 by rw [← hpb]; rfl)
        rw [hpb] at HYES
        simp only [hpb] at HPU
        have m1 : ¬ 9223372036854775807 < b.size + pb.size := by have := HBS.out; have := HPS.out; omega
        clear hcc hbk d0 d1 d2 hD hk256 hin hmb f1 f2 f3 f4 f5 hpb
        go_wp2_with (first
          | (go_at_call 4; (with_reducible refine (HMA.out _).mono ?_); rintro e w2 ⟨rfl, g2⟩; have G2 := Lib.hid g2; clear g2 c0 c1 c2; obtain ⟨c0, c1, c2⟩ := HCS.out _ G2.out)
          | (go_at_call 5; (with_reducible refine (HPU.out _).mono ?_); rintro e w3 ⟨rfl, g3⟩; have G3 := Lib.hid (only_trans (only_trans HGR.out G2.out) g3); clear g3))
        go_roundw
        case rel => exact ⟨j + 1, _, by go_num, rfl, HK.out.2, Lib.hid HK.out.1, Lib.hid (by rw [HYES.out, ← HBL.out, ByteArray.data_append, Array.toList_append]), Lib.hid (by have := HBS.out; have := HPS.out; rw [ByteArray.size_append]; omega), G3⟩
        case measure =>
          have := HK.out
          simp [Go.RowKit.intOf]
          omega
    · have i1 : ¬ (j : Int) < (n : Int) := by omega
      have i2 : ¬ j < n := hin
      obtain rfl : n = j := by have := HJ.out; omega
      have HGW := Lib.hid (HG.out.grown HGR.out)
      have HPR := Lib.hid (Bk.print_any A n c D HM.out wr HGW.out (HI.out.grown HGR.out))
      have HAS := Lib.hid (fun W (k : Below wr.heap.size wr W) => Bk.back_any D n HM.out W (HGW.out.gl.below k HGW.out.gl.sz))
      have HLI := Lib.hid (fun W (k : Below wr.heap.size wr W) => Am.live20_any W (HGW.out.gl.below k HGW.out.gl.sz))
      have HEQ := Lib.hid (show (⟨(Bk.prg (Bk.upto D n)).toArray⟩ : ByteArray) = b by rw [← HBL.out])
      rw [HEQ.out] at HAS
      clear hin
      go_wp2_with (first
        | (go_at_call 7; (with_reducible refine HPR.out.mono ?_); rintro e w5 ⟨rfl, l5⟩; have L5 := Lib.hid l5; clear l5)
        | (go_at_call 6; (with_reducible refine (HAS.out _ L5.out).mono ?_); rintro e w6 ⟨rfl, l6⟩; have L6 := Lib.hid (L5.out.trans (l6.mono L5.out.size)); clear l6)
        | (go_at_call 8; (with_reducible refine (HLI.out _ L6.out).mono ?_); rintro e w7 ⟨rfl, l7⟩; have L7 := Lib.hid (L6.out.trans (l7.mono L6.out.size)); clear l7))
      go_ret
      exact ⟨by first | rfl | simp, (below_of_only HGR.out (Nat.le_refl _) (fun k hk => by cases hk)).trans (L7.out.mono HGR.out.size)⟩
set_option maxHeartbeats 6400000 in
theorem Bk.back_many (A : Option Addr) (n c : Nat) (D : Nat → Bk.I) (w : World) (hG : Bk.G w) (hI : Bk.InP w A n D) (hnc : n ≤ c) (hn : 100 < n) : Calls Tryd.prog 3 #[.slice A n c] w fun e w' => e = .returned (.bool true) ∧ Below w.heap.size w w' := by
  have HG := Lib.hid hG
  have HI := Lib.hid (hI.cut (show 100 ≤ n by omega))
  have H3 := Lib.hid hG.gl.sz
  have HM := Lib.hid (show 100 ≤ 100 by omega)
  have q1 : ¬ (n : Int) ≤ 100 := by omega
  have q2 : min (n : Int) 100 = 100 := by omega
  have q3 : 100 ≤ c := by omega
  have q4 : (100 : Int) ≤ (c : Int) := by omega
  clear hG hI hn
  go_enter Tryd.func3, Tryd.ntmps3
  go_upto_region 4 with (fail)
  clear q1 q2 q3 q4
  go_loopw [4, 3] (fun t s wr => ∃ (j : Nat) (b : ByteArray), t = .int .i64 j ∧ s = .string b ∧ j ≤ 100 ∧ Hid (j ≤ 100) ∧ Hid (b.data.toList = Bk.prg (Bk.upto D j)) ∧ Hid (b.size ≤ 4 * j) ∧ Hid (w.grownBy wr none)) (fun t _ _ => 100 - (Go.RowKit.intOf t).toNat)
  case atStart => exact ⟨0, _, rfl, rfl, by omega, Lib.hid (Nat.zero_le _), Lib.hid rfl, Lib.hid (by decide), Lib.hid (only_refl _ none)⟩
  case round =>
    obtain ⟨j, b, rfl, rfl, hj1, HJ, HBL, HBS, HGR⟩ := hrel
    by_cases hin : j < 100
    · obtain ⟨bk, off, rfl, hbk, hcc⟩ := HI.out (by omega)
      obtain ⟨hk256, d0, d1, d2⟩ := hcc j hin
      have HK := Lib.hid (show j + 1 ≤ 100 ∧ j + 1 ≤ 100 from ⟨hin, by have := HM.out; omega⟩)
      obtain ⟨y, hD⟩ : ∃ y, D j = y := ⟨_, rfl⟩
      obtain ⟨k, x, m⟩ := y
      rw [hD] at hk256 d0 d1 d2
      simp only at hk256 d0 d1 d2
      have c0 := HGR.out.cell d0 (by simp)
      have c1 := HGR.out.cell d1 (by simp)
      have c2 := HGR.out.cell d2 (by simp)
      have HCS := Lib.hid (fun W (g : wr.grownBy W none) => And.intro (g.cell c0 (by simp)) (And.intro (g.cell c1 (by simp)) (g.cell c2 (by simp))))
      have HDD := Lib.hid hD
      have HMA := Lib.hid (fun W => rmay_any k x m hk256 W)
      obtain ⟨mb, hmb⟩ : ∃ mb, mayI k x m = mb := ⟨_, rfl⟩
      rw [hmb] at HMA
      have HMB := Lib.hid (show Bk.may ⟨k, x, m⟩ = mb from hmb)
      have i1 : (j : Int) < (100 : Int) := by omega
      have i2 : j < 100 := hin
      have i3 : (0 : Int) ≤ (j : Int) := by omega
      have u1 : IntKind.i64.wrap ((j : Int) + 1) = ((j + 1 : Nat) : Int) := by rw [IntKind.wrap_i64]; omega
      cases mb
      · clear hcc hbk d0 d1 d2 hD hk256 hin hmb
        go_wp2_with (go_at_call 4; (with_reducible refine (HMA.out _).mono ?_); rintro e w2 ⟨rfl, g2⟩; have G2 := Lib.hid (only_trans HGR.out g2); clear g2)
        go_roundw
        case rel => exact ⟨j + 1, b, by go_num, rfl, HK.out.2, Lib.hid HK.out.1, Lib.hid (by rw [HBL.out, Bk.upto_no D j (by rw [HDD.out, HMB.out]; simp)]), Lib.hid (by have := HBS.out; omega), G2⟩
        case measure =>
          have := HK.out
          simp [Go.RowKit.intOf]
          omega
      · obtain ⟨f1, f2, f3, f4, f5⟩ := mayI_facts hmb
        obtain ⟨xn, rfl⟩ := Int.eq_ofNat_of_zero_le f2
        obtain ⟨mn, rfl⟩ := Int.eq_ofNat_of_zero_le f4
        have HPU := Lib.hid (fun W => rput19_any k xn mn hmb W)
        have HYES := Lib.hid (Bk.prg_yes D j k xn mn hD hmb)
        obtain ⟨pb, hpb⟩ : ∃ pb, ptI k xn mn = pb := ⟨_, rfl⟩
        have HPS := Lib.hid (show pb.size = 4 by rw [← hpb]; rfl)
        rw [hpb] at HYES
        simp only [hpb] at HPU
        have m1 : ¬ 9223372036854775807 < b.size + pb.size := by have := HBS.out; have := HPS.out; omega
        clear hcc hbk d0 d1 d2 hD hk256 hin hmb f1 f2 f3 f4 f5 hpb
        go_wp2_with (first
          | (go_at_call 4; (with_reducible refine (HMA.out _).mono ?_); rintro e w2 ⟨rfl, g2⟩; have G2 := Lib.hid g2; clear g2 c0 c1 c2; obtain ⟨c0, c1, c2⟩ := HCS.out _ G2.out)
          | (go_at_call 5; (with_reducible refine (HPU.out _).mono ?_); rintro e w3 ⟨rfl, g3⟩; have G3 := Lib.hid (only_trans (only_trans HGR.out G2.out) g3); clear g3))
        go_roundw
        case rel => exact ⟨j + 1, _, by go_num, rfl, HK.out.2, Lib.hid HK.out.1, Lib.hid (by rw [HYES.out, ← HBL.out, ByteArray.data_append, Array.toList_append]), Lib.hid (by have := HBS.out; have := HPS.out; rw [ByteArray.size_append]; omega), G3⟩
        case measure =>
          have := HK.out
          simp [Go.RowKit.intOf]
          omega
    · have i1 : ¬ (j : Int) < (100 : Int) := by omega
      have i2 : ¬ j < 100 := hin
      obtain rfl : j = 100 := by have := HJ.out; omega
      have HGW := Lib.hid (HG.out.grown HGR.out)
      have HPR := Lib.hid (Bk.print_any A 100 c D HM.out wr HGW.out (HI.out.grown HGR.out))
      have HAS := Lib.hid (fun W (k : Below wr.heap.size wr W) => Bk.back_any D 100 HM.out W (HGW.out.gl.below k HGW.out.gl.sz))
      have HLI := Lib.hid (fun W (k : Below wr.heap.size wr W) => Am.live20_any W (HGW.out.gl.below k HGW.out.gl.sz))
      have HEQ := Lib.hid (show (⟨(Bk.prg (Bk.upto D 100)).toArray⟩ : ByteArray) = b by rw [← HBL.out])
      rw [HEQ.out] at HAS
      clear hin
      go_wp2_with (first
        | (go_at_call 7; (with_reducible refine HPR.out.mono ?_); rintro e w5 ⟨rfl, l5⟩; have L5 := Lib.hid l5; clear l5)
        | (go_at_call 6; (with_reducible refine (HAS.out _ L5.out).mono ?_); rintro e w6 ⟨rfl, l6⟩; have L6 := Lib.hid (L5.out.trans (l6.mono L5.out.size)); clear l6)
        | (go_at_call 8; (with_reducible refine (HLI.out _ L6.out).mono ?_); rintro e w7 ⟨rfl, l7⟩; have L7 := Lib.hid (L6.out.trans (l7.mono L6.out.size)); clear l7))
      go_ret
      exact ⟨by first | rfl | simp, (below_of_only HGR.out (Nat.le_refl _) (fun k hk => by cases hk)).trans (L7.out.mono HGR.out.size)⟩
end Go.Proofs.YteoaaogfloljlaaDoor

/- How AsmBack is opened: the tables as1 they were laid; instructions that came in. -/
namespace Go.Proofs.YteoaaogfloljlaaDoor
open Go.RowKit Go.Lib Go.ChangeShapes Go.WideShapes Go.ChangeAt Go.Deep Go.Joins
open Go.ChangeMaps (open_string shut_string)
set_option linter.unusedVariables false

/-- The door's world, Go's own table of first bytes laid besides. -/
noncomputable def Bk.lw (os : Os) : World :=
  let w0 := World.doorLaid Tryd.prog 400 os
  { w0 with heap := w0.heap.modify 3 fun
    | .cells _ t frozen => .cells (Go.Lib.firstTab.map fun z => Value.int .u8 z).toArray t frozen
    | o => o }
set_option maxRecDepth 100000 in
theorem Bk.door (os : Os) (args : Array Value) : laidMetH Tryd.prog Rows.asmBackRow.laid ((Bk.lw os).forCall (fun _ _ => 0) ⟨#[], args, []⟩).memory :=
  laidMetH_of_parts3 (fuel := 8) (laidMet_of_run' 8 (by kernel_rfl) (by kernel_rfl)) (by kernel_rfl) (by kernel_rfl)
/-- What the row's conditions give the walks. -/
theorem Bk.g_of {W : World} (h : laidMetH Tryd.prog Rows.asmBackRow.laid W) (hs : W.ShapedOpen Tryd.prog) : Bk.G W := by
  have h1 := h.filter (fun x => x.1 == "campanile/code.names")
  rw [show (Rows.asmBackRow.laid.filter fun x => x.1 == "campanile/code.names") = laid1 from by rfl] at h1
  have h2 := h.filter (fun x => x.1 == "internal/strconv.uint64pow10")
  rw [show (Rows.asmBackRow.laid.filter fun x => x.1 == "internal/strconv.uint64pow10") = [("internal/strconv.uint64pow10", Rows.laid_internal_strconv_uint64pow10)] from by rfl, MakeChecks.laidMetH_plain _ _ _ (by kernel_rfl)] at h2
  obtain ⟨k, hk⟩ := Tryd.splitM.s1_3 W hs
  have hk2 : W.cell? ⟨2, 0, none⟩ = some (.int .i64 k) := hk
  refine ⟨⟨nm_of_laid h1, ⟨k, hk2⟩, World.block_lt_of_cell? W _ hk2⟩, ?_⟩
  exact Go.Lib.tabIs_of_head (g := 1) (t := 116) (e := 101) (n := 20) (rest := []) (by kernel_rfl) (by kernel_rfl) Tryd.underlying116 Tryd.underlying101 (by kernel_rfl) (by kernel_rfl) h2
theorem Bk.cut3 {cs : List Value} (h : cs.length = 3) : ∃ c0 c1 c2, cs = [c0, c1, c2] := by
  match cs, h with
  | [c0, c1, c2], _ => exact ⟨c0, c1, c2, rfl⟩
section
variable {H : Type} {enc : TypeId × Value → H} {W : World} {base b0 : Nat} {spare : Nat → Bool} {held : Bool}
theorem Bk.open_instrs {A : Option Addr} {len cap fuel : Nat} {x : DataW H × List MemPlace}
    (h : DataW.trod enc Tryd.prog W base spare held fuel 22 [.slice A len cap] = some x) : len ≤ cap ∧ cap ≤ 9223372036854775807 ∧ ∃ d, Bk.InP W A len d ∧ True := by
  obtain ⟨h1, h2, h3, h4⟩ := open_wide (k := 3) Tryd.underlying22 (by kernel_rfl) (by decide) h
  refine ⟨h1, by unfold maxLen at h2; omega, ?_⟩
  by_cases hp : 0 < len
  · obtain ⟨b, off, hA, hb, hc⟩ := h4 hp
    have hx : ∀ i, ∃ r : Bk.I, i < len → r.k < 256 ∧ W.cell? ⟨b, off + i * 3, none⟩ = some (.int .u8 r.k) ∧ W.cell? ⟨b, off + i * 3 + 1, none⟩ = some (.int .i64 r.x) ∧ W.cell? ⟨b, off + i * 3 + 2, none⟩ = some (.int .i64 r.n) := by
      intro i
      by_cases hi : i < len
      · obtain ⟨cs, n, y, hcl, ht, hcell⟩ := hc i hi
        obtain ⟨c0, c1, c2, rfl⟩ := Bk.cut3 hcl
        obtain ⟨n0, y0, g0⟩ := kd_field Tryd.underlying26 (by kernel_rfl) ht (i := 0) rfl (c := c0) rfl
        obtain ⟨n1, y1, g1⟩ := kd_field Tryd.underlying26 (by kernel_rfl) ht (i := 1) rfl (c := c1) rfl
        obtain ⟨n2, y2, g2⟩ := kd_field Tryd.underlying26 (by kernel_rfl) ht (i := 2) rfl (c := c2) rfl
        obtain ⟨a0, e0, _, w0⟩ := DataW.trod_int Tryd.underlying24 g0
        obtain ⟨a1, e1, _, _⟩ := DataW.trod_int Tryd.underlying3 g1
        obtain ⟨a2, e2, _, _⟩ := DataW.trod_int Tryd.underlying3 g2
        injection e0 with e0 _
        injection e1 with e1 _
        injection e2 with e2 _
        have hb0 := kd_in_u8 w0
        obtain ⟨k, rfl⟩ := Int.eq_ofNat_of_zero_le hb0.1
        subst e0 e1 e2
        exact ⟨⟨k, a1, a2⟩, fun _ => ⟨by show k < 256; omega, hcell 0 (by omega), hcell 1 (by omega), hcell 2 (by omega)⟩⟩
      · exact ⟨⟨0, 0, 0⟩, fun h => absurd h hi⟩
    exact ⟨fun i => Classical.choose (hx i), fun _ => ⟨b, off, hA, hb, fun i hi => Classical.choose_spec (hx i) hi⟩, trivial⟩
  · exact ⟨fun _ => ⟨0, 0, 0⟩, fun h => absurd h hp, trivial⟩
end
theorem Bk.back_walk (A : Option Addr) (n c : Nat) (D : Nat → Bk.I) (w : World) (hG : Bk.G w) (hI : Bk.InP w A n D) (hfit : True) (hnc : n ≤ c) (hc : c ≤ 9223372036854775807) : Calls Tryd.prog 3 #[.slice A n c] w fun e w' => e = .returned (.bool true) ∧ Below w.heap.size w w' := by
  by_cases h : n ≤ 100
  · exact Bk.back_few A n c D w hG hI hnc h
  · exact Bk.back_many A n c D w hG hI hnc (by omega)
end Go.Proofs.YteoaaogfloljlaaDoor

/- The row of AsmBack: what is printed is assembled to these instructions' bytes: for every row of instructions the law returns true, where the listed tables start as1 the program's text lays them. -/
namespace Go.Proofs.YteoaaogfloljlaaDoor
open Go.RowKit Go.Lib Go.ChangeShapes Go.WideShapes Go.ChangeAt Go.Deep Go.Joins
open Go.ChangeMaps (open_string shut_string)
set_option linter.unusedVariables false

set_option maxRecDepth 100000 in
theorem asmBack_lifted (os : Os) (started : os.Started) (H : Type) (enc : TypeId × Value → H) (F : Stop.Interp) :
    ReturnsInHanded {} Tryd.checked os 3 .any ((OpenSpec.ofChange Rows.asmBackSpec).preRow enc Tryd.prog Tryd.f3 [] false Rows.asmBackRow.laid) (((OpenSpec.ofChange Rows.asmBackSpec).at F).post enc Tryd.prog Tryd.f3 false true false false) := by
  refine returnsInHanded_of_row (C := Tryd.checked) (s := OpenSpec.ofChange Rows.asmBackSpec) kd_own started (by kernel_rfl) Tryd.func3
    (ChangeSpec.witness_shaped (enc := enc) (C := Tryd.checked) (os := os) (X := fun w _ => laidMetH Tryd.prog Rows.asmBackRow.laid w) false (Bk.lw os) #[.slice none 0 0] 8 rfl (World.shaped_of_RefB (by kernel_rfl) (by kernel_rfl)) (by kernel_rfl) (by kernel_rfl) (by kernel_rfl) (Bk.door os _)) ?_
  intro W base args ds gs before hval0 hW _ _ _ hL hsh _
  have hval : ∀ (j : Nat) t v, Tryd.f3.params[j]? = some t → args[j]? = some v → Value.okWide Tryd.prog W .any base t v := hval0
  have hW' := hW
  obtain ⟨p, q, hA0, hV, rfl, hfz, hnd⟩ := hW
  have hA : DataW.TrodAll enc Tryd.prog W 0 (fun _ => true) true Tryd.f3.params.toList args.toList ds p := hA0
  rw [Tryd.params3] at hA hval
  obtain ⟨v0, vs0, d0, ds0, p0, q0, hargs, rfl, rfl, h0, r0⟩ := trodAll_cons hA
  obtain ⟨rfl, rfl, rfl⟩ := trodAll_nil r0
  obtain rfl : args = #[v0] := by cases args; simp_all
  obtain ⟨rfl, rfl⟩ := trodVars_none hV
  obtain ⟨A0, len0, cap0, rfl⟩ := okWide_slice Tryd.underlying22 (hval 0 22 v0 rfl rfl)
  have k0 := h0
  have lt0 : ∀ x ∈ p0, x.block < W.heap.size := by obtain ⟨m, hm⟩ := k0; exact DataW.trod_lt m _ _ _ hm
  obtain ⟨fuel0, hf0⟩ := h0
  obtain ⟨hlc0, hcm0, D0, hst0, hfit0⟩ := Bk.open_instrs (by simpa [Value.cells] using hf0)
  clear hA0 hval0
  refine (Bk.back_walk A0 len0 cap0 D0 W (Bk.g_of hL hsh) hst0 hfit0 hlc0 hcm0).mono fun e W' ⟨he, bel⟩ => ?_
  subst he
  exact ⟨_, rfl, _, _, _, [], _, [], hW', trodAll_mk1 (shut_bool Tryd.underlying4 _), (trodAll_cons_mk (Below.trod kd_laid (by kernel_rfl) (of_decide_eq_true (by kernel_rfl)) k0 bel lt0) trodAll_mk0), rfl, bel.frame _, fun h => by cases h⟩
theorem asmBack_holds : Rows.AsmBackSaid :=
  OpenClaim.holds_of_wide 3 Tryd.f3 rfl rfl rfl rfl rfl rfl rfl ⟨rfl, rfl, rfl, rfl, rfl⟩ rfl rfl rfl rfl rfl (by kernel_rfl) Tryd.func3 (by kernel_rfl)
    (of_decide_eq_true (by kernel_rfl)) (by unfold Func.isWrapper; first | (rw [if_pos (by decide +kernel)]; kernel_rfl) | (rw [if_neg (by decide +kernel)]; exact ⟨rfl, rfl⟩))
    (fun os started H enc _ => asmBack_lifted os started H enc (fun _ _ _ => 0))
#print axioms asmBack_holds
end Go.Proofs.YteoaaogfloljlaaDoor

/- AsmBack: what is printed is assembled to these instructions' bytes: for every row of instructions the law returns true. No condition but the tied card's: the listed tables start as1 the program's text lays them. -/
namespace Go.Proofs.YteoaaogfloljlaaDoor
open Go

theorem asmBack_card : Rows.AsmBackCardSaid :=
  Claim7.holds_tied_plain_at .later [] _ true _ true
    asmBack_holds (fun _ h => by cases h) (by kernel_rfl) (fun _ h => by cases h) asmBack_row_tie rfl ⟨rfl, rfl⟩ (by kernel_rfl) rfl
    (fun f fn hf hfn => by
      obtain rfl : f = 3 := Option.some.inj ((show Tryd.prog.funcNamed "campanile/campanilelaw20.AsmBack" = some 3 by kernel_rfl).symm.trans hf) |>.symm
      obtain rfl : fn = Tryd.f3 := (Option.some.inj (Tryd.func3.symm.trans hfn)).symm
      exact ⟨by kernel_rfl, fun j t ht => by
        rw [Tryd.params3] at ht
        have hm : t ∈ [22] := by simpa using Array.mem_of_getElem? ht
        have hall : ([22].all fun u => !Tryd.prog.wantsStandIn u) = true := by kernel_rfl
        exact (show Tryd.prog.wantsStandIn t = false by simpa using List.all_eq_true.1 hall t hm)⟩)
    (by kernel_rfl)
#print axioms asmBack_card
end Go.Proofs.YteoaaogfloljlaaDoor
