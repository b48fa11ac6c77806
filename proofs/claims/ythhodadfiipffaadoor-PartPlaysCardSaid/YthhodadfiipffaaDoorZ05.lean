import Derived.Test.YthhodadfiipffaaDoorZ04
set_option linter.all false
/- Package cpu: reads and writes, by contract. -/
namespace Go.Proofs.YthhodadfiipffaaDoor
open Go.RowKit Go.Lib
set_option linter.unusedVariables false
set_option maxRecDepth 8000

theorem MemG.grown {w w' : World} {B m g : Nat} {l : List UInt8} (h : MemG w B m g l) (b : w.grownBy w' none) : MemG w' B m g l := h.below (below_of_only b (Nat.le_refl _) (fun k hk => by cases hk))
/-- A view's box. -/
def Cu.Bx (w W : World) (m : Nat) (base size : Int) (row : Option Nat) : Prop :=
  Blk W w.heap.size 31 #[.pointer (some ⟨m, 0, none⟩), .int .i64 base, .int .i64 size] ∧ w.grownBy W row
theorem Cu.Bx.step {w W W' : World} {m : Nat} {base size : Int} (h : Cu.Bx w W m base size none) (g : W.grownBy W' none) : Cu.Bx w W' m base size none := ⟨h.1.only g (by simp), only_trans h.2 g⟩
theorem Cu.Bx.cells {w W : World} {m : Nat} {base size : Int} {row : Option Nat} (h : Cu.Bx w W m base size row) :
    W.cell? ⟨w.heap.size, 0, none⟩ = some (.pointer (some ⟨m, 0, none⟩)) ∧ W.cell? ⟨w.heap.size, 1, none⟩ = some (.int .i64 base) ∧ W.cell? ⟨w.heap.size, 2, none⟩ = some (.int .i64 size) := in3 h.1
theorem Cu.Bx.grow {w W : World} {m : Nat} {base size : Int} {row : Option Nat} (h : Cu.Bx w W m base size row) : w.grownBy W row := h.2
theorem Cu.Bx.new (w : World) (m : Nat) (base size : Int) : Cu.Bx w (w.alloc (.cells #[.pointer (some ⟨m, 0, none⟩), .int .i64 base, .int .i64 size] 31)) m base size none := ⟨Blk.new w 31 _, only_alloc (only_refl _ _) _⟩
set_option maxHeartbeats 1600000 in
theorem Cu.read_no (w : World) (B m : Nat) (l : List UInt8) (base size : Nat) (h : MemV w B m l) (hI : Cu.In l base size) (k : Int) (n : Nat) (hk : ¬ (0 ≤ k ∧ k + n ≤ size)) (hk2 : k ≤ 9223372036854775807) : Calls Tryd.prog 62 #[Cu.vw m base size, .int .i64 k, .int .i64 n] w fun e w' => e = .returned (.tuple #[.int .i64 0, .int .i64 6]) ∧ w.grownBy w' none := by
  have HX := Lib.hid (Cu.Bx.new w m base size)
  have HP := Lib.hid (fun W (g : w.grownBy W none) => Cu.place_no W B m l base size (h.grown g) hI k n hk hk2)
  clear h hI hk
  unfold Cu.vw at HP ⊢
  obtain ⟨W, hW⟩ : ∃ W, W = (w.alloc (.cells #[.pointer (some ⟨m, 0, none⟩), .int .i64 base, .int .i64 size] 31)) := ⟨_, rfl⟩
  rw [← hW] at HX
  obtain ⟨c0, c1, c2⟩ := HX.out.cells
  go_enter Tryd.func62, Tryd.ntmps62
  go_upto_region 1 with (fail)
  rw [← hW]
  clear hW
  go_wp2_with (go_at_call 59; (with_reducible refine (HP.out _ HX.out.grow).mono ?_); rintro e w1 ⟨rfl, g2⟩; have HX2 := Lib.hid (HX.out.step g2); clear c0 c1 c2 g2; obtain ⟨c0, c1, c2⟩ := HX2.out.cells)
  go_ret2
  exact ⟨rfl, HX2.out.grow⟩
set_option maxHeartbeats 1600000 in
theorem Cu.read_two (w : World) (B m : Nat) (l : List UInt8) (base size : Nat) (h : MemV w B m l) (hI : Cu.In l base size) (k : Nat) (hk : k + 2 ≤ size) : Calls Tryd.prog 62 #[Cu.vw m base size, .int .i64 k, .int .i64 2] w fun e w' => e = .returned (.tuple #[.int .i64 (two8 l (base + k)), .int .i64 0]) ∧ w.grownBy w' none := by
  have HX := Lib.hid (Cu.Bx.new w m base size)
  have HP := Lib.hid (show ∀ W, w.grownBy W none → Calls Tryd.prog 59 #[Cu.vw m base size, .int .i64 k, .int .i64 2] W fun e w' => e = .returned (.tuple #[.int .i64 (base + k : Nat), .int .i64 0]) ∧ W.grownBy w' none from fun W g => Cu.place_yes W B m l base size (h.grown g) hI k 2 hk)
  have HT := Lib.hid (show ∀ W, w.grownBy W none → Calls Tryd.prog 73 #[.pointer (some ⟨m, 0, none⟩), .int .i64 (base + k : Nat)] W fun r w' => r = .returned (.tuple #[.int .i64 (two8 l (base + k)), .int .i64 0]) ∧ W.grownBy w' none from fun W g => by
    have := get2_any W B m l ((base + k : Nat) : Int) (h.grown g) hI.2
    have ec := Cu.chk_in (n := 2) hI hk
    simp only [show ((2 : Nat) : Int) = 2 from rfl] at ec
    rw [ec, if_pos rfl] at this
    exact this.mono fun e w' ⟨h1, q, h2⟩ => ⟨h1, by rw [← h2]; exact only_drewN (only_refl _ _) _⟩)
  generalize two8 l (base + k) = v at *
  clear h hI hk
  generalize base + k = a at HP HT
  unfold Cu.vw at HP ⊢
  obtain ⟨W, hW⟩ : ∃ W, W = (w.alloc (.cells #[.pointer (some ⟨m, 0, none⟩), .int .i64 base, .int .i64 size] 31)) := ⟨_, rfl⟩
  rw [← hW] at HX
  obtain ⟨c0, c1, c2⟩ := HX.out.cells
  go_enter Tryd.func62, Tryd.ntmps62
  go_upto_region 1 with (fail)
  rw [← hW]
  clear hW
  go_wp2_with (first
    | (go_at_call 59; (with_reducible refine (HP.out _ HX.out.grow).mono ?_); rintro e w1 ⟨rfl, g2⟩; have HX2 := Lib.hid (HX.out.step g2); clear c0 c1 c2 g2; obtain ⟨c0, c1, c2⟩ := HX2.out.cells)
    | (go_at_call 73; (with_reducible refine (HT.out _ HX2.out.grow).mono ?_); rintro e w2 ⟨rfl, g3⟩; have HX3 := Lib.hid (HX2.out.step g3)))
  go_ret2
  exact ⟨rfl, HX3.out.grow⟩
set_option maxHeartbeats 1600000 in
theorem Cu.read_one (w : World) (B m : Nat) (l : List UInt8) (base size : Nat) (h : MemV w B m l) (hI : Cu.In l base size) (k : Nat) (hk : k + 1 ≤ size) : Calls Tryd.prog 62 #[Cu.vw m base size, .int .i64 k, .int .i64 1] w fun e w' => e = .returned (.tuple #[.int .i64 ((l.getD (base + k) 0).toNat : Int), .int .i64 0]) ∧ w.grownBy w' none := by
  have HX := Lib.hid (Cu.Bx.new w m base size)
  have HP := Lib.hid (show ∀ W, w.grownBy W none → Calls Tryd.prog 59 #[Cu.vw m base size, .int .i64 k, .int .i64 1] W fun e w' => e = .returned (.tuple #[.int .i64 (base + k : Nat), .int .i64 0]) ∧ W.grownBy w' none from fun W g => Cu.place_yes W B m l base size (h.grown g) hI k 1 hk)
  have HT := Lib.hid (show ∀ W, w.grownBy W none → Calls Tryd.prog 74 #[.pointer (some ⟨m, 0, none⟩), .int .i64 (base + k : Nat)] W fun r w' => r = .returned (.tuple #[.int .i64 ((l.getD (base + k) 0).toNat : Int), .int .i64 0]) ∧ W.grownBy w' none from fun W g => by
    have := mget_any W B m l ((base + k : Nat) : Int) (h.grown g) hI.2
    have ec := Cu.chk_in (n := 1) hI hk
    simp only [show ((1 : Nat) : Int) = 1 from rfl] at ec
    rw [ec, if_pos rfl] at this
    exact this.mono fun e w' ⟨h1, h2⟩ => ⟨h1, by rw [← h2]; exact only_refl _ _⟩)
  generalize ((l.getD (base + k) 0).toNat : Int) = v at *
  clear h hI hk
  generalize base + k = a at HP HT
  unfold Cu.vw at HP ⊢
  obtain ⟨W, hW⟩ : ∃ W, W = (w.alloc (.cells #[.pointer (some ⟨m, 0, none⟩), .int .i64 base, .int .i64 size] 31)) := ⟨_, rfl⟩
  rw [← hW] at HX
  obtain ⟨c0, c1, c2⟩ := HX.out.cells
  go_enter Tryd.func62, Tryd.ntmps62
  go_upto_region 1 with (fail)
  rw [← hW]
  clear hW
  go_wp2_with (first
    | (go_at_call 59; (with_reducible refine (HP.out _ HX.out.grow).mono ?_); rintro e w1 ⟨rfl, g2⟩; have HX2 := Lib.hid (HX.out.step g2); clear c0 c1 c2 g2; obtain ⟨c0, c1, c2⟩ := HX2.out.cells)
    | (go_at_call 74; (with_reducible refine (HT.out _ HX2.out.grow).mono ?_); rintro e w2 ⟨rfl, g3⟩; have HX3 := Lib.hid (HX2.out.step g3)))
  go_ret2
  exact ⟨rfl, HX3.out.grow⟩
set_option maxHeartbeats 1600000 in
theorem Cu.write_no (w : World) (B m : Nat) (l : List UInt8) (base size : Nat) (h : MemV w B m l) (hI : Cu.In l base size) (k : Int) (n : Nat) (hk : ¬ (0 ≤ k ∧ k + n ≤ size)) (hk2 : k ≤ 9223372036854775807) (x : Int) : Calls Tryd.prog 64 #[Cu.vw m base size, .int .i64 k, .int .i64 n, .int .i64 x] w fun e w' => e = .returned (.int .i64 6) ∧ w.grownBy w' none := by
  have HX := Lib.hid (Cu.Bx.new w m base size)
  have HP := Lib.hid (fun W (g : w.grownBy W none) => Cu.place_no W B m l base size (h.grown g) hI k n hk hk2)
  clear h hI hk
  unfold Cu.vw at HP ⊢
  obtain ⟨W, hW⟩ : ∃ W, W = (w.alloc (.cells #[.pointer (some ⟨m, 0, none⟩), .int .i64 base, .int .i64 size] 31)) := ⟨_, rfl⟩
  rw [← hW] at HX
  obtain ⟨c0, c1, c2⟩ := HX.out.cells
  go_enter Tryd.func64, Tryd.ntmps64
  go_upto_region 1 with (fail)
  rw [← hW]
  clear hW
  go_wp2_with (go_at_call 59; (with_reducible refine (HP.out _ HX.out.grow).mono ?_); rintro e w1 ⟨rfl, g2⟩; have HX2 := Lib.hid (HX.out.step g2); clear c0 c1 c2 g2; obtain ⟨c0, c1, c2⟩ := HX2.out.cells)
  go_ret
  exact ⟨rfl, HX2.out.grow⟩
/-- A number's bytes. -/
def Cu.bs (two : Bool) (x : Int) : List UInt8 := if two then [UInt8.ofNat (x % 256).toNat, UInt8.ofNat (x / 256 % 256).toNat] else [UInt8.ofNat (x % 256).toNat]
theorem Cu.over_one {l : List UInt8} {k : Nat} (b : UInt8) (h : k < l.length) : over l k [b] = l.set k b := by
  unfold over
  rw [List.set_eq_take_append_cons_drop, if_pos h]
  simp
set_option maxHeartbeats 1600000 in
theorem Cu.write_two (w : World) (B m g : Nat) (l : List UInt8) (base size : Nat) (h : MemG w B m g l) (hI : Cu.In l base size) (k : Nat) (hk : k + 2 ≤ size) (x : Int) : Calls Tryd.prog 64 #[Cu.vw m base size, .int .i64 k, .int .i64 2, .int .i64 x] w fun e w' => e = .returned (.int .i64 0) ∧ MemG w' B m g (over l (base + k) (Cu.bs true x)) ∧ w.grownBy w' (some g) := by
  have HX := Lib.hid (Cu.Bx.new w m base size)
  have HP := Lib.hid (show ∀ W, w.grownBy W none → Calls Tryd.prog 59 #[Cu.vw m base size, .int .i64 k, .int .i64 2] W fun e w' => e = .returned (.tuple #[.int .i64 (base + k : Nat), .int .i64 0]) ∧ W.grownBy w' none from fun W g => Cu.place_yes W B m l base size (h.mem.grown g) hI k 2 hk)
  have HT := Lib.hid (show ∀ W, w.grownBy W none → Calls Tryd.prog 75 #[.pointer (some ⟨m, 0, none⟩), .int .i64 (base + k : Nat), .int .i64 x] W fun r w' => r = .returned (.int .i64 0) ∧ MemG w' B m g (over l (base + k) (Cu.bs true x)) ∧ W.grownBy w' (some g) from fun W q => by
    have := set2_any W B m g l ((base + k : Nat) : Int) x (h.grown q) hI.2
    have ec := Cu.chk_in (n := 2) hI hk
    simp only [show ((2 : Nat) : Int) = 2 from rfl] at ec
    rw [ec, if_pos rfl] at this
    exact this)
  generalize over l (base + k) (Cu.bs true x) = v at *
  clear h hI hk
  generalize base + k = a at HP HT
  unfold Cu.vw at HP ⊢
  obtain ⟨W, hW⟩ : ∃ W, W = (w.alloc (.cells #[.pointer (some ⟨m, 0, none⟩), .int .i64 base, .int .i64 size] 31)) := ⟨_, rfl⟩
  rw [← hW] at HX
  obtain ⟨c0, c1, c2⟩ := HX.out.cells
  go_enter Tryd.func64, Tryd.ntmps64
  go_upto_region 1 with (fail)
  rw [← hW]
  clear hW
  go_wp2_with (first
    | (go_at_call 59; (with_reducible refine (HP.out _ HX.out.grow).mono ?_); rintro e w1 ⟨rfl, g2⟩; have HX2 := Lib.hid (HX.out.step g2); clear c0 c1 c2 g2; obtain ⟨c0, c1, c2⟩ := HX2.out.cells)
    | (go_at_call 75; (with_reducible refine (HT.out _ HX2.out.grow).mono ?_); rintro e w2 ⟨rfl, hm, g3⟩))
  go_ret
  exact ⟨rfl, hm, only_trans (only_any HX2.out.grow _) g3⟩
set_option maxHeartbeats 1600000 in
theorem Cu.write_one (w : World) (B m g : Nat) (l : List UInt8) (base size : Nat) (h : MemG w B m g l) (hI : Cu.In l base size) (k : Nat) (hk : k + 1 ≤ size) (x : Int) : Calls Tryd.prog 64 #[Cu.vw m base size, .int .i64 k, .int .i64 1, .int .i64 x] w fun e w' => e = .returned (.int .i64 0) ∧ MemG w' B m g (over l (base + k) (Cu.bs false x)) ∧ w.grownBy w' (some g) := by
  have HX := Lib.hid (Cu.Bx.new w m base size)
  have HP := Lib.hid (show ∀ W, w.grownBy W none → Calls Tryd.prog 59 #[Cu.vw m base size, .int .i64 k, .int .i64 1] W fun e w' => e = .returned (.tuple #[.int .i64 (base + k : Nat), .int .i64 0]) ∧ W.grownBy w' none from fun W g => Cu.place_yes W B m l base size (h.mem.grown g) hI k 1 hk)
  have HT := Lib.hid (show ∀ W, w.grownBy W none → Calls Tryd.prog 76 #[.pointer (some ⟨m, 0, none⟩), .int .i64 (base + k : Nat), .int .i64 x] W fun r w' => r = .returned (.int .i64 0) ∧ MemG w' B m g (over l (base + k) (Cu.bs false x)) ∧ W.grownBy w' (some g) from fun W q => by
    have := set_any W B m g l ((base + k : Nat) : Int) x (h.grown q) hI.2
    have ec := Cu.chk_in (n := 1) hI hk
    simp only [show ((1 : Nat) : Int) = 1 from rfl] at ec
    rw [ec, if_pos rfl] at this
    rw [Cu.bs, if_neg (by simp), Cu.over_one _ (by have := hI.1; omega)]
    exact this)
  generalize over l (base + k) (Cu.bs false x) = v at *
  clear h hI hk
  generalize base + k = a at HP HT
  unfold Cu.vw at HP ⊢
  obtain ⟨W, hW⟩ : ∃ W, W = (w.alloc (.cells #[.pointer (some ⟨m, 0, none⟩), .int .i64 base, .int .i64 size] 31)) := ⟨_, rfl⟩
  rw [← hW] at HX
  obtain ⟨c0, c1, c2⟩ := HX.out.cells
  go_enter Tryd.func64, Tryd.ntmps64
  go_upto_region 1 with (fail)
  rw [← hW]
  clear hW
  go_wp2_with (first
    | (go_at_call 59; (with_reducible refine (HP.out _ HX.out.grow).mono ?_); rintro e w1 ⟨rfl, g2⟩; have HX2 := Lib.hid (HX.out.step g2); clear c0 c1 c2 g2; obtain ⟨c0, c1, c2⟩ := HX2.out.cells)
    | (go_at_call 76; (with_reducible refine (HT.out _ HX2.out.grow).mono ?_); rintro e w2 ⟨rfl, hm, g3⟩))
  go_ret
  exact ⟨rfl, hm, only_trans (only_any HX2.out.grow _) g3⟩
end Go.Proofs.YthhodadfiipffaaDoor

/- Package cpu: what breaks, jumps, what is made, by contract. -/
namespace Go.Proofs.YthhodadfiipffaaDoor
open Go.RowKit Go.Lib
set_option linter.unusedVariables false
set_option maxRecDepth 8000

/-- A state's box: its registers by number. -/
theorem Cu.st_cells {W : World} {b : Nat} {t : TypeId} {pc md : Int} {r : Nat → Int} (h : Blk W b t (Cu.stC pc r md)) :
    W.cell? ⟨b, 0, none⟩ = some (.int .i64 pc) ∧ W.cell? ⟨b, 9, none⟩ = some (.int .i64 md) ∧ ∀ i, i < 8 → W.cell? ⟨b, 1 + i, none⟩ = some (.int .i64 (r i)) := by
  refine ⟨h.cell 0, h.cell 9, fun i hi => ?_⟩
  rw [h.cell]
  have : i = 0 ∨ i = 1 ∨ i = 2 ∨ i = 3 ∨ i = 4 ∨ i = 5 ∨ i = 6 ∨ i = 7 := by omega
  rcases this with rfl | rfl | rfl | rfl | rfl | rfl | rfl | rfl <;> rfl
def Cu.jm (k : Nat) (rx r0 : Int) : Bool := if k = 12 then decide (rx = 0) else if k = 13 then decide (rx < r0) else true
set_option maxHeartbeats 1600000 in
theorem Cu.jumps_any (pc md : Int) (r : Nat → Int) (k x : Nat) (n : Int) (hk : k = 11 ∨ k = 12 ∨ k = 13) (hx : x < 8) (w : World) : Calls Tryd.prog 61 #[Cu.stV pc r md, .agg #[.int .u8 k, .int .i64 x, .int .i64 n]] w fun e w' => e = .returned (.bool (Cu.jm k (r x) (r 0))) ∧ w.grownBy w' none := by
  obtain ⟨W1, hW1, g1, hB1⟩ := ibox w 55 (Cu.stC pc r md)
  obtain ⟨W2, hW2, g2, hB2⟩ := ibox W1 104 #[.int .u8 k, .int .i64 x, .int .i64 n]
  have hz : W1.heap.size = w.heap.size + 1 := by rw [hW1]; simp
  have HG := Lib.hid (only_trans g1 g2)
  obtain ⟨-, -, cr⟩ := Cu.st_cells (hB1.only g2 (by simp))
  have c0 := cr 0 (by omega)
  have cx := cr x hx
  rw [hz] at hB2
  obtain ⟨d0, d1, d2⟩ := in3 hB2
  generalize r 0 = r0 at *
  generalize r x = rx at *
  have x1 : (x : Int) < 8 := by omega
  have x2 : (0 : Int) ≤ (x : Int) := by omega
  have x3 : ¬ (x : Int) < 0 := by omega
  have x4 : ¬ (7 : Int) < (x : Int) := by omega
  clear hB1 g1 g2 hB2 cr
  unfold Cu.stV
  rcases hk with rfl | rfl | rfl
  all_goals
    simp only [Int.cast_ofNat_Int] at hW2 d0 ⊢
    go_enter Tryd.func61, Tryd.ntmps61
    go_upto_region 1 with (fail)
    try rw [← hz]
    rw [← hW1, ← hW2]
    clear hW1 hW2
  · go_wp2
    go_ret
    exact ⟨by rfl, HG.out⟩
  · go_wp2
    go_ret
    exact ⟨by simp [Cu.jm] <;> rfl, HG.out⟩
  · go_upto_region 5 with (fail)
    go_quiet (fail)
    go_wp2
    go_ret
    exact ⟨by simp [Cu.jm] <;> rfl, only_drewN HG.out _⟩
/-- What an instruction that needs no memory makes. -/
def Cu.mkV (k : Nat) (n rx rn : Int) : Int :=
  if k = 1 then n else if k = 3 then (rx + rn) % 65536 else if k = 4 then (rx - rn) % 65536 else if k = 5 then bits .and .i64 rx rn else if k = 6 then bits .xor .i64 rx rn else rn
set_option maxHeartbeats 3200000 in
theorem Cu.made_any (pc md : Int) (r : Nat → Int) (k x n : Nat) (hk : 1 ≤ k ∧ k ≤ 6) (hx : x < 8) (hn : k = 1 ∨ n < 8) (hr : ∀ i, 0 ≤ r i ∧ r i < 65536) (w : World) : Calls Tryd.prog 65 #[Cu.stV pc r md, .agg #[.int .u8 k, .int .i64 x, .int .i64 n]] w fun e w' => e = .returned (.int .i64 (Cu.mkV k n (r x) (r n))) ∧ w.grownBy w' none := by
  obtain ⟨W1, hW1, g1, hB1⟩ := ibox w 55 (Cu.stC pc r md)
  obtain ⟨W2, hW2, g2, hB2⟩ := ibox W1 104 #[.int .u8 k, .int .i64 x, .int .i64 n]
  have hz : W1.heap.size = w.heap.size + 1 := by rw [hW1]; simp
  have HG := Lib.hid (only_trans g1 g2)
  obtain ⟨-, -, cr⟩ := Cu.st_cells (hB1.only g2 (by simp))
  have cx := cr x hx
  have cn : k = 1 ∨ W2.cell? ⟨w.heap.size, 1 + n, none⟩ = some (.int .i64 (r n)) := hn.imp_right (cr n)
  rw [hz] at hB2
  obtain ⟨d0, d1, d2⟩ := in3 hB2
  have bx := hr x
  have bn := hr n
  generalize r n = rn at *
  generalize r x = rx at *
  obtain ⟨a, rfl⟩ := Int.eq_ofNat_of_zero_le bx.1
  obtain ⟨b, rfl⟩ := Int.eq_ofNat_of_zero_le bn.1
  have bx1 : (a : Int) < 65536 := bx.2
  have bn1 : (b : Int) < 65536 := bn.2
  have x1 : (x : Int) < 8 := by omega
  have x2 : (0 : Int) ≤ (x : Int) := by omega
  have x3 : ¬ (x : Int) < 0 := by omega
  have x4 : ¬ (7 : Int) < (x : Int) := by omega
  have y3 : ¬ (n : Int) < 0 := by omega
  clear hB1 g1 g2 hB2 cr bx bn hr
  unfold Cu.stV
  by_cases h1 : k = 1
  · clear hn cn
    subst h1
    simp only [Int.cast_ofNat_Int] at hW2 d0 ⊢
    go_enter Tryd.func65, Tryd.ntmps65
    go_upto_region 1 with (fail)
    rw [← hW1, ← hW2]
    clear hW1 hW2
    go_wp2
    go_ret
    exact ⟨by rfl, HG.out⟩
  · replace cn := cn.resolve_left h1
    replace hn := hn.resolve_left h1
    have y1 : (n : Int) < 8 := by omega
    have y4 : ¬ (7 : Int) < (n : Int) := by omega
    have hk' : k = 2 ∨ k = 3 ∨ k = 4 ∨ k = 5 ∨ k = 6 := by omega
    rcases hk' with rfl | rfl | rfl | rfl | rfl
    all_goals
      simp only [Int.cast_ofNat_Int] at hW2 d0 ⊢
      go_enter Tryd.func65, Tryd.ntmps65
      go_upto_region 1 with (fail)
      rw [← hW1, ← hW2]
      clear hW1 hW2
      go_upto_region 3 with (fail)
      go_quiet (fail)
      go_wp2_with (go_at_call 43; refine (Cu.two_any _ _).mono ?_; rintro e w' ⟨rfl, rfl⟩)
      go_ret
    · exact ⟨by rfl, only_drewN HG.out _⟩
    · exact ⟨by simp [Cu.mkV], only_drewN HG.out _⟩
    · exact ⟨by simp [Cu.mkV], only_drewN HG.out _⟩
    · exact ⟨by simp [Cu.mkV], only_drewN HG.out _⟩
    · exact ⟨by simp [Cu.mkV], only_drewN HG.out _⟩
set_option maxHeartbeats 3200000 in
theorem Cu.broken_any (pc md e : Int) (r : Nat → Int) (w : World) : Calls Tryd.prog 45 #[Cu.stV pc r md, .int .i64 e] w fun x w' => x = .returned (.tuple #[Cu.stV pc r 3, Cu.outV 5 0 0 e]) ∧ w.grownBy w' none := by
  unfold Cu.stV Cu.stC Cu.outV
  go_enter Tryd.func45, Tryd.ntmps45
  go_wp2
  refine bodyPost_ret (v := .tuple #[.agg #[.int .i64 pc, .int .i64 (r 0), .int .i64 (r 1), .int .i64 (r 2), .int .i64 (r 3), .int .i64 (r 4), .int .i64 (r 5), .int .i64 (r 6), .int .i64 (r 7), .int .i64 3], .agg #[.int .i64 5, .int .i64 0, .int .i64 0, .int .i64 e]]) (by simp [results, Tryd.results45, go_sem]) rfl ⟨rfl, only_alloc (only_alloc (only_alloc (only_refl _ _) _) _) _⟩
end Go.Proofs.YthhodadfiipffaaDoor

/- Package cpu: do, the arms that touch no memory. -/
namespace Go.Proofs.YthhodadfiipffaaDoor
open Go.RowKit Go.Lib
set_option linter.unusedVariables false
set_option maxRecDepth 8000

def Cu.inV (k x n : Int) : Value := .agg #[.int .u8 k, .int .i64 x, .int .i64 n]
set_option maxHeartbeats 3200000 in
theorem Cu.do_stop (m : Nat) (base size pc md x n : Int) (r : Nat → Int) (w : World) : Calls Tryd.prog 46 #[Cu.vw m base size, Cu.stV pc r md, Cu.inV 0 x n] w fun e w' => e = .returned (.tuple #[Cu.stV pc r 2, Cu.outV 4 0 0 0]) ∧ w.grownBy w' none := by
  unfold Cu.stV Cu.stC Cu.outV Cu.vw Cu.inV
  go_enter Tryd.func46, Tryd.ntmps46
  go_wp2
  refine bodyPost_ret (v := .tuple #[.agg #[.int .i64 pc, .int .i64 (r 0), .int .i64 (r 1), .int .i64 (r 2), .int .i64 (r 3), .int .i64 (r 4), .int .i64 (r 5), .int .i64 (r 6), .int .i64 (r 7), .int .i64 2], .agg #[.int .i64 4, .int .i64 0, .int .i64 0, .int .i64 0]]) (by simp [results, Tryd.results46, go_sem]) rfl ⟨rfl, ?_⟩
  repeat (first | exact only_refl _ _ | refine only_alloc ?_ _)
set_option maxHeartbeats 6400000 in
theorem Cu.do_rest (m : Nat) (base size pc md x n : Int) (r : Nat → Int) (hpc : 0 ≤ pc ∧ pc ≤ 16384) (w : World) : Calls Tryd.prog 46 #[Cu.vw m base size, Cu.stV pc r md, Cu.inV 15 x n] w fun e w' => e = .returned (.tuple #[Cu.stV (pc + 4) r 1, Cu.outV 3 0 0 0]) ∧ w.grownBy w' none := by
  have hw : IntKind.i64.wrap (pc + 4) = pc + 4 := by rw [IntKind.wrap_i64]; omega
  unfold Cu.stV Cu.stC Cu.outV Cu.vw Cu.inV
  go_enter Tryd.func46, Tryd.ntmps46
  go_upto_region 28 with (fail)
  go_region
  go_wp2
  refine bodyPost_ret (v := .tuple #[.agg #[.int .i64 (pc + 4), .int .i64 (r 0), .int .i64 (r 1), .int .i64 (r 2), .int .i64 (r 3), .int .i64 (r 4), .int .i64 (r 5), .int .i64 (r 6), .int .i64 (r 7), .int .i64 1], .agg #[.int .i64 3, .int .i64 0, .int .i64 0, .int .i64 0]]) (by simp [results, Tryd.results46, go_sem]) rfl ⟨rfl, ?_⟩
  refine only_drewN ?_ 1
  repeat (first | exact only_refl _ _ | refine only_alloc ?_ _)
set_option maxHeartbeats 6400000 in
theorem Cu.do_call (m : Nat) (base size pc md x n : Int) (r : Nat → Int) (hpc : 0 ≤ pc ∧ pc ≤ 16384) (w : World) : Calls Tryd.prog 46 #[Cu.vw m base size, Cu.stV pc r md, Cu.inV 14 x n] w fun e w' => e = .returned (.tuple #[Cu.stV (pc + 4) r md, Cu.outV 2 n x 0]) ∧ w.grownBy w' none := by
  have hw : IntKind.i64.wrap (pc + 4) = pc + 4 := by rw [IntKind.wrap_i64]; omega
  unfold Cu.stV Cu.stC Cu.outV Cu.vw Cu.inV
  go_enter Tryd.func46, Tryd.ntmps46
  go_upto_region 28 with (fail)
  go_region
  go_wp2
  refine bodyPost_ret (v := .tuple #[.agg #[.int .i64 (pc + 4), .int .i64 (r 0), .int .i64 (r 1), .int .i64 (r 2), .int .i64 (r 3), .int .i64 (r 4), .int .i64 (r 5), .int .i64 (r 6), .int .i64 (r 7), .int .i64 md], .agg #[.int .i64 2, .int .i64 n, .int .i64 x, .int .i64 0]]) (by simp [results, Tryd.results46, go_sem]) rfl ⟨rfl, ?_⟩
  refine only_drewN ?_ 1
  repeat (first | exact only_refl _ _ | refine only_alloc ?_ _)
end Go.Proofs.YthhodadfiipffaaDoor
