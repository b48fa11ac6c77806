import Derived.Test.YtiicoabkhponmaaDoorZ06
set_option linter.all false
/- Package cpu: an instruction fetched, by contract. -/
namespace Go.Proofs.YtiicoabkhponmaaDoor
open Go.RowKit Go.Lib
set_option linter.unusedVariables false
set_option maxRecDepth 8000

/-- Four bytes from a place on. -/
def Cu.ins (l : List UInt8) (a : Nat) : ByteArray := ⟨((l.drop a).take 4).toArray⟩
/-- A view's box and an instruction's. -/
def Cu.Fx (w W : World) (m : Nat) (base size : Int) (a b c : Value) : Prop :=
  Blk W w.heap.size 28 #[.pointer (some ⟨m, 0, none⟩), .int .i64 base, .int .i64 size] ∧ Blk W (w.heap.size + 1) 67 #[a, b, c] ∧ w.grownBy W none
theorem Cu.Fx.step {w W W' : World} {m : Nat} {base size : Int} {a b c : Value} (h : Cu.Fx w W m base size a b c) (g : W.grownBy W' none) : Cu.Fx w W' m base size a b c :=
  ⟨h.1.only g (by simp), h.2.1.only g (by simp), only_trans h.2.2 g⟩
theorem Cu.Fx.cells {w W : World} {m : Nat} {base size : Int} {a b c : Value} (h : Cu.Fx w W m base size a b c) :
    (W.cell? ⟨w.heap.size, 0, none⟩ = some (.pointer (some ⟨m, 0, none⟩)) ∧ W.cell? ⟨w.heap.size, 1, none⟩ = some (.int .i64 base) ∧ W.cell? ⟨w.heap.size, 2, none⟩ = some (.int .i64 size)) ∧
    (W.cell? ⟨w.heap.size + 1, 0, none⟩ = some a ∧ W.cell? ⟨w.heap.size + 1, 1, none⟩ = some b ∧ W.cell? ⟨w.heap.size + 1, 2, none⟩ = some c ∧ W.frozen? ⟨w.heap.size + 1, 0, none⟩ = false ∧ W.frozen? ⟨w.heap.size + 1, 1, none⟩ = false ∧ W.frozen? ⟨w.heap.size + 1, 2, none⟩ = false) :=
  ⟨in3 h.1, in3f h.2.1⟩
theorem Cu.Fx.grow {w W : World} {m : Nat} {base size : Int} {a b c : Value} (h : Cu.Fx w W m base size a b c) : w.grownBy W none := h.2.2
theorem Cu.Fx.instr {w W : World} {m : Nat} {base size : Int} {a b c : Value} (h : Cu.Fx w W m base size a b c) : Blk W (w.heap.size + 1) 67 #[a, b, c] := h.2.1
theorem Cu.Fx.new (w : World) (m : Nat) (base size : Int) : Cu.Fx w ((w.alloc (.cells #[.pointer (some ⟨m, 0, none⟩), .int .i64 base, .int .i64 size] 28)).alloc (.cells #[.int .u8 0, .int .i64 0, .int .i64 0] 67)) m base size (.int .u8 0) (.int .i64 0) (.int .i64 0) := by
  refine ⟨(Blk.new w 28 _).alloc _, ?_, only_alloc (only_alloc (only_refl _ _) _) _⟩
  have := Blk.new (w.alloc (.cells #[.pointer (some ⟨m, 0, none⟩), .int .i64 base, .int .i64 size] 28)) 67 #[.int .u8 0, .int .i64 0, .int .i64 0]
  simpa using this
theorem Cu.put3g {w W : World} {g : Nat} {t : TypeId} {a b c a' b' c' : Value} (h : Blk W g t #[a, b, c]) (hg : w.heap.size ≤ g) (hw : w.grownBy W none) : ∀ W', W' = ((W.setCell ⟨g, 0, none⟩ a').setCell ⟨g, 1, none⟩ b').setCell ⟨g, 2, none⟩ c' → (W'.cell? ⟨g, 0, none⟩ = some a' ∧ W'.cell? ⟨g, 1, none⟩ = some b' ∧ W'.cell? ⟨g, 2, none⟩ = some c') ∧ w.grownBy W' none := by
  rintro W' rfl
  have bf := ((h.put 0 a').put 1 b').put 2 c'
  exact ⟨⟨bf.cell 0, bf.cell 1, bf.cell 2⟩, only_putc (only_putc (only_putc hw (p := ⟨g, 0, none⟩) hg _) (p := ⟨g, 1, none⟩) hg _) (p := ⟨g, 2, none⟩) hg _⟩
theorem Cu.getV_form (t : ByteArray) : ∃ (c : Nat) (x n e : Int), getV t = .tuple #[.agg #[.int .u8 c, .int .i64 x, .int .i64 n], .int .i64 e] ∧ c < 256 := by
  have hc := gb_lt t 0
  unfold getV
  split
  · exact ⟨0, 0, 0, 5, rfl, by omega⟩
  · split
    · exact ⟨gb t 0, gb t 1, gw t 2, 0, rfl, hc⟩
    · exact ⟨0, 0, 0, 12, rfl, by omega⟩
theorem Cu.chk_in {l : List UInt8} {base size k n : Nat} (hI : Cu.In l base size) (hk : k + n ≤ size) : chk l.length ((base + k : Nat) : Int) (n : Int) = 0 := by
  have := hI.1
  unfold chk
  rw [if_neg (by omega), if_neg (by omega), if_neg (by omega), if_neg (by omega)]
set_option maxHeartbeats 1600000 in
theorem Cu.fetch_no (w : World) (B m : Nat) (l : List UInt8) (base size : Nat) (h : MemV w B m l) (hI : Cu.In l base size) (k : Int) (hk : ¬ (0 ≤ k ∧ k + 4 ≤ size)) (hk2 : k ≤ 9223372036854775807) : Calls Tryd.prog 25 #[Cu.vw m base size, .int .i64 k] w fun e w' => e = .returned (.tuple #[.agg #[.int .u8 0, .int .i64 0, .int .i64 0], .int .i64 6]) ∧ w.grownBy w' none := by
  have HX := Lib.hid (Cu.Fx.new w m base size)
  have HP := Lib.hid (show ∀ W, w.grownBy W none → Calls Tryd.prog 42 #[Cu.vw m base size, .int .i64 k, .int .i64 4] W fun e w' => e = .returned (.tuple #[.int .i64 0, .int .i64 6]) ∧ W.grownBy w' none from fun W g => Cu.place_no W B m l base size (h.grown g) hI k 4 hk hk2)
  obtain ⟨x0, x1⟩ := HX.out.cells
  clear h hI hk
  unfold Cu.vw at HP ⊢
  go_enter Tryd.func25, Tryd.ntmps25
  go_upto_region 1 with (fail)
  have e0 : (w.alloc (.cells #[.pointer (some ⟨m, 0, none⟩), .int .i64 base, .int .i64 size] 28)).heap.size = w.heap.size + 1 := by simp
  try rw [e0]
  obtain ⟨W, hW⟩ : ∃ W, W = (w.alloc (.cells #[.pointer (some ⟨m, 0, none⟩), .int .i64 base, .int .i64 size] 28)).alloc (.cells #[.int .u8 0, .int .i64 0, .int .i64 0] 67) := ⟨_, rfl⟩
  rw [← hW] at HX x0 x1 ⊢
  clear hW e0
  obtain ⟨c0, c1, c2⟩ := x0
  obtain ⟨d0, d1, d2, f0, f1, f2⟩ := x1
  have n1 : ¬ w.heap.size = w.heap.size + 1 := by omega
  go_wp2_with (go_at_call 42; (with_reducible refine (HP.out _ HX.out.grow).mono ?_); rintro e w1 ⟨rfl, g2⟩; have HX2 := Lib.hid (HX.out.step g2); clear c0 c1 c2 d0 d1 d2 f0 f1 f2 g2; obtain ⟨⟨c0, c1, c2⟩, ⟨d0, d1, d2, f0, f1, f2⟩⟩ := HX2.out.cells)
  obtain ⟨⟨r0, r1, r2⟩, G9⟩ := Cu.put3g (a' := .int .u8 0) (b' := .int .i64 0) (c' := .int .i64 0) HX2.out.instr (Nat.le_succ _) HX2.out.grow _ rfl
  refine bodyPost_ret (v := .tuple #[.agg #[.int .u8 0, .int .i64 0, .int .i64 0], .int .i64 6]) (by simp [results, Tryd.results25, go_sem, r0, r1, r2]) rfl ⟨rfl, G9⟩
set_option maxHeartbeats 1600000 in
theorem Cu.fetch_yes (w : World) (B m : Nat) (l : List UInt8) (base size : Nat) (h : MemV w B m l) (hN : Nm w) (hI : Cu.In l base size) (k : Nat) (hk : k + 4 ≤ size) : Calls Tryd.prog 25 #[Cu.vw m base size, .int .i64 k] w fun e w' => e = .returned (getV (Cu.ins l (base + k))) ∧ w.grownBy w' none := by
  have HX := Lib.hid (Cu.Fx.new w m base size)
  have HP := Lib.hid (show ∀ W, w.grownBy W none → Calls Tryd.prog 42 #[Cu.vw m base size, .int .i64 k, .int .i64 4] W fun e w' => e = .returned (.tuple #[.int .i64 (base + k : Nat), .int .i64 0]) ∧ W.grownBy w' none from fun W g => Cu.place_yes W B m l base size (h.grown g) hI k 4 hk)
  have HT := Lib.hid (show ∀ W, w.grownBy W none → Calls Tryd.prog 34 #[.pointer (some ⟨m, 0, none⟩), .int .i64 (base + k : Nat), .int .i64 4] W fun r w' => r = .returned (.tuple #[.string (Cu.ins l (base + k)), .int .i64 0]) ∧ W = w' from fun W g => by
    have := mtext_any W B m l ((base + k : Nat) : Int) 4 (h.grown g) hI.2
    have ec := Cu.chk_in (n := 4) hI hk
    simp only [show ((4 : Nat) : Int) = 4 from rfl] at ec
    rw [ec, if_pos rfl] at this
    exact this)
  have hz : (Cu.ins l (base + k)).size ≤ 9223372036854775807 := by
    show ((l.drop (base + k)).take 4).toArray.size ≤ _
    simp
    omega
  have HGT := Lib.hid (fun W (g : w.grownBy W none) => Go.Proofs.YtiicoabkhponmaaDoor.get_any (Cu.ins l (base + k)) hz W (hN.grown g (by simp)))
  obtain ⟨c, x, n, e, hv, hc⟩ := Cu.getV_form (Cu.ins l (base + k))
  rw [hv] at HGT ⊢
  obtain ⟨x0, x1⟩ := HX.out.cells
  generalize Cu.ins l (base + k) = t at *
  have u1 : (c : Int) % 256 = c := by omega
  clear h hI hk hz hv hN
  generalize base + k = a at HP HT
  unfold Cu.vw at HP ⊢
  go_enter Tryd.func25, Tryd.ntmps25
  go_upto_region 1 with (fail)
  have e0 : (w.alloc (.cells #[.pointer (some ⟨m, 0, none⟩), .int .i64 base, .int .i64 size] 28)).heap.size = w.heap.size + 1 := by simp
  try rw [e0]
  obtain ⟨W, hW⟩ : ∃ W, W = (w.alloc (.cells #[.pointer (some ⟨m, 0, none⟩), .int .i64 base, .int .i64 size] 28)).alloc (.cells #[.int .u8 0, .int .i64 0, .int .i64 0] 67) := ⟨_, rfl⟩
  rw [← hW] at HX x0 x1 ⊢
  clear hW e0
  obtain ⟨c0, c1, c2⟩ := x0
  obtain ⟨d0, d1, d2, f0, f1, f2⟩ := x1
  have n1 : ¬ w.heap.size = w.heap.size + 1 := by omega
  go_wp2_with (first
    | (go_at_call 42; (with_reducible refine (HP.out _ HX.out.grow).mono ?_); rintro e w1 ⟨rfl, g2⟩; have HX2 := Lib.hid (HX.out.step g2); clear c0 c1 c2 d0 d1 d2 f0 f1 f2 g2; obtain ⟨⟨c0, c1, c2⟩, ⟨d0, d1, d2, f0, f1, f2⟩⟩ := HX2.out.cells)
    | (go_at_call 34; (with_reducible refine (HT.out _ HX2.out.grow).mono ?_); rintro e w2 ⟨rfl, rfl⟩)
    | (go_at_call 43; (with_reducible refine (HGT.out _ HX2.out.grow).mono ?_); rintro e w3 ⟨rfl, g3⟩; have HX3 := Lib.hid (HX2.out.step g3); clear c0 c1 c2 d0 d1 d2 f0 f1 f2 g3; obtain ⟨⟨c0, c1, c2⟩, ⟨d0, d1, d2, f0, f1, f2⟩⟩ := HX3.out.cells))
  obtain ⟨⟨r0, r1, r2⟩, G9⟩ := Cu.put3g (a' := .int .u8 c) (b' := .int .i64 x) (c' := .int .i64 n) HX3.out.instr (Nat.le_succ _) HX3.out.grow _ rfl
  refine bodyPost_ret (v := .tuple #[.agg #[.int .u8 c, .int .i64 x, .int .i64 n], .int .i64 e]) (by simp [results, Tryd.results25, go_sem, r0, r1, r2]) rfl ⟨rfl, G9⟩
end Go.Proofs.YtiicoabkhponmaaDoor

/- Package cpu: reads and writes, by contract. -/
namespace Go.Proofs.YtiicoabkhponmaaDoor
open Go.RowKit Go.Lib
set_option linter.unusedVariables false
set_option maxRecDepth 8000

theorem MemG.grown {w w' : World} {B m g : Nat} {l : List UInt8} (h : MemG w B m g l) (b : w.grownBy w' none) : MemG w' B m g l := h.below (below_of_only b (Nat.le_refl _) (fun k hk => by cases hk))
/-- A view's box. -/
def Cu.Bx (w W : World) (m : Nat) (base size : Int) (row : Option Nat) : Prop :=
  Blk W w.heap.size 28 #[.pointer (some ⟨m, 0, none⟩), .int .i64 base, .int .i64 size] ∧ w.grownBy W row
theorem Cu.Bx.step {w W W' : World} {m : Nat} {base size : Int} (h : Cu.Bx w W m base size none) (g : W.grownBy W' none) : Cu.Bx w W' m base size none := ⟨h.1.only g (by simp), only_trans h.2 g⟩
theorem Cu.Bx.cells {w W : World} {m : Nat} {base size : Int} {row : Option Nat} (h : Cu.Bx w W m base size row) :
    W.cell? ⟨w.heap.size, 0, none⟩ = some (.pointer (some ⟨m, 0, none⟩)) ∧ W.cell? ⟨w.heap.size, 1, none⟩ = some (.int .i64 base) ∧ W.cell? ⟨w.heap.size, 2, none⟩ = some (.int .i64 size) := in3 h.1
theorem Cu.Bx.grow {w W : World} {m : Nat} {base size : Int} {row : Option Nat} (h : Cu.Bx w W m base size row) : w.grownBy W row := h.2
theorem Cu.Bx.new (w : World) (m : Nat) (base size : Int) : Cu.Bx w (w.alloc (.cells #[.pointer (some ⟨m, 0, none⟩), .int .i64 base, .int .i64 size] 28)) m base size none := ⟨Blk.new w 28 _, only_alloc (only_refl _ _) _⟩
set_option maxHeartbeats 1600000 in
theorem Cu.read_no (w : World) (B m : Nat) (l : List UInt8) (base size : Nat) (h : MemV w B m l) (hI : Cu.In l base size) (k : Int) (n : Nat) (hk : ¬ (0 ≤ k ∧ k + n ≤ size)) (hk2 : k ≤ 9223372036854775807) : Calls Tryd.prog 45 #[Cu.vw m base size, .int .i64 k, .int .i64 n] w fun e w' => e = .returned (.tuple #[.int .i64 0, .int .i64 6]) ∧ w.grownBy w' none := by
  have HX := Lib.hid (Cu.Bx.new w m base size)
  have HP := Lib.hid (fun W (g : w.grownBy W none) => Cu.place_no W B m l base size (h.grown g) hI k n hk hk2)
  clear h hI hk
  unfold Cu.vw at HP ⊢
  obtain ⟨W, hW⟩ : ∃ W, W = (w.alloc (.cells #[.pointer (some ⟨m, 0, none⟩), .int .i64 base, .int .i64 size] 28)) := ⟨_, rfl⟩
  rw [← hW] at HX
  obtain ⟨c0, c1, c2⟩ := HX.out.cells
  go_enter Tryd.func45, Tryd.ntmps45
  go_upto_region 1 with (fail)
  rw [← hW]
  clear hW
  go_wp2_with (go_at_call 42; (with_reducible refine (HP.out _ HX.out.grow).mono ?_); rintro e w1 ⟨rfl, g2⟩; have HX2 := Lib.hid (HX.out.step g2); clear c0 c1 c2 g2; obtain ⟨c0, c1, c2⟩ := HX2.out.cells)
  go_ret2
  exact ⟨rfl, HX2.out.grow⟩
set_option maxHeartbeats 1600000 in
theorem Cu.read_two (w : World) (B m : Nat) (l : List UInt8) (base size : Nat) (h : MemV w B m l) (hI : Cu.In l base size) (k : Nat) (hk : k + 2 ≤ size) : Calls Tryd.prog 45 #[Cu.vw m base size, .int .i64 k, .int .i64 2] w fun e w' => e = .returned (.tuple #[.int .i64 (two8 l (base + k)), .int .i64 0]) ∧ w.grownBy w' none := by
  have HX := Lib.hid (Cu.Bx.new w m base size)
  have HP := Lib.hid (show ∀ W, w.grownBy W none → Calls Tryd.prog 42 #[Cu.vw m base size, .int .i64 k, .int .i64 2] W fun e w' => e = .returned (.tuple #[.int .i64 (base + k : Nat), .int .i64 0]) ∧ W.grownBy w' none from fun W g => Cu.place_yes W B m l base size (h.grown g) hI k 2 hk)
  have HT := Lib.hid (show ∀ W, w.grownBy W none → Calls Tryd.prog 59 #[.pointer (some ⟨m, 0, none⟩), .int .i64 (base + k : Nat)] W fun r w' => r = .returned (.tuple #[.int .i64 (two8 l (base + k)), .int .i64 0]) ∧ W.grownBy w' none from fun W g => by
    have := get2_any W B m l ((base + k : Nat) : Int) (h.grown g) hI.2
    have ec := Cu.chk_in (n := 2) hI hk
    simp only [show ((2 : Nat) : Int) = 2 from rfl] at ec
    rw [ec, if_pos rfl] at this
    exact this.mono fun e w' ⟨h1, q, h2⟩ => ⟨h1, by rw [← h2]; exact only_drewN (only_refl _ _) _⟩)
  generalize two8 l (base + k) = v at *
  clear h hI hk
  generalize base + k = a at HP HT
  unfold Cu.vw at HP ⊢
  obtain ⟨W, hW⟩ : ∃ W, W = (w.alloc (.cells #[.pointer (some ⟨m, 0, none⟩), .int .i64 base, .int .i64 size] 28)) := ⟨_, rfl⟩
  rw [← hW] at HX
  obtain ⟨c0, c1, c2⟩ := HX.out.cells
  go_enter Tryd.func45, Tryd.ntmps45
  go_upto_region 1 with (fail)
  rw [← hW]
  clear hW
  go_wp2_with (first
    | (go_at_call 42; (with_reducible refine (HP.out _ HX.out.grow).mono ?_); rintro e w1 ⟨rfl, g2⟩; have HX2 := Lib.hid (HX.out.step g2); clear c0 c1 c2 g2; obtain ⟨c0, c1, c2⟩ := HX2.out.cells)
    | (go_at_call 59; (with_reducible refine (HT.out _ HX2.out.grow).mono ?_); rintro e w2 ⟨rfl, g3⟩; have HX3 := Lib.hid (HX2.out.step g3)))
  go_ret2
  exact ⟨rfl, HX3.out.grow⟩
set_option maxHeartbeats 1600000 in
theorem Cu.read_one (w : World) (B m : Nat) (l : List UInt8) (base size : Nat) (h : MemV w B m l) (hI : Cu.In l base size) (k : Nat) (hk : k + 1 ≤ size) : Calls Tryd.prog 45 #[Cu.vw m base size, .int .i64 k, .int .i64 1] w fun e w' => e = .returned (.tuple #[.int .i64 ((l.getD (base + k) 0).toNat : Int), .int .i64 0]) ∧ w.grownBy w' none := by
  have HX := Lib.hid (Cu.Bx.new w m base size)
  have HP := Lib.hid (show ∀ W, w.grownBy W none → Calls Tryd.prog 42 #[Cu.vw m base size, .int .i64 k, .int .i64 1] W fun e w' => e = .returned (.tuple #[.int .i64 (base + k : Nat), .int .i64 0]) ∧ W.grownBy w' none from fun W g => Cu.place_yes W B m l base size (h.grown g) hI k 1 hk)
  have HT := Lib.hid (show ∀ W, w.grownBy W none → Calls Tryd.prog 60 #[.pointer (some ⟨m, 0, none⟩), .int .i64 (base + k : Nat)] W fun r w' => r = .returned (.tuple #[.int .i64 ((l.getD (base + k) 0).toNat : Int), .int .i64 0]) ∧ W.grownBy w' none from fun W g => by
    have := mget_any W B m l ((base + k : Nat) : Int) (h.grown g) hI.2
    have ec := Cu.chk_in (n := 1) hI hk
    simp only [show ((1 : Nat) : Int) = 1 from rfl] at ec
    rw [ec, if_pos rfl] at this
    exact this.mono fun e w' ⟨h1, h2⟩ => ⟨h1, by rw [← h2]; exact only_refl _ _⟩)
  generalize ((l.getD (base + k) 0).toNat : Int) = v at *
  clear h hI hk
  generalize base + k = a at HP HT
  unfold Cu.vw at HP ⊢
  obtain ⟨W, hW⟩ : ∃ W, W = (w.alloc (.cells #[.pointer (some ⟨m, 0, none⟩), .int .i64 base, .int .i64 size] 28)) := ⟨_, rfl⟩
  rw [← hW] at HX
  obtain ⟨c0, c1, c2⟩ := HX.out.cells
  go_enter Tryd.func45, Tryd.ntmps45
  go_upto_region 1 with (fail)
  rw [← hW]
  clear hW
  go_wp2_with (first
    | (go_at_call 42; (with_reducible refine (HP.out _ HX.out.grow).mono ?_); rintro e w1 ⟨rfl, g2⟩; have HX2 := Lib.hid (HX.out.step g2); clear c0 c1 c2 g2; obtain ⟨c0, c1, c2⟩ := HX2.out.cells)
    | (go_at_call 60; (with_reducible refine (HT.out _ HX2.out.grow).mono ?_); rintro e w2 ⟨rfl, g3⟩; have HX3 := Lib.hid (HX2.out.step g3)))
  go_ret2
  exact ⟨rfl, HX3.out.grow⟩
set_option maxHeartbeats 1600000 in
theorem Cu.write_no (w : World) (B m : Nat) (l : List UInt8) (base size : Nat) (h : MemV w B m l) (hI : Cu.In l base size) (k : Int) (n : Nat) (hk : ¬ (0 ≤ k ∧ k + n ≤ size)) (hk2 : k ≤ 9223372036854775807) (x : Int) : Calls Tryd.prog 47 #[Cu.vw m base size, .int .i64 k, .int .i64 n, .int .i64 x] w fun e w' => e = .returned (.int .i64 6) ∧ w.grownBy w' none := by
  have HX := Lib.hid (Cu.Bx.new w m base size)
  have HP := Lib.hid (fun W (g : w.grownBy W none) => Cu.place_no W B m l base size (h.grown g) hI k n hk hk2)
  clear h hI hk
  unfold Cu.vw at HP ⊢
  obtain ⟨W, hW⟩ : ∃ W, W = (w.alloc (.cells #[.pointer (some ⟨m, 0, none⟩), .int .i64 base, .int .i64 size] 28)) := ⟨_, rfl⟩
  rw [← hW] at HX
  obtain ⟨c0, c1, c2⟩ := HX.out.cells
  go_enter Tryd.func47, Tryd.ntmps47
  go_upto_region 1 with (fail)
  rw [← hW]
  clear hW
  go_wp2_with (go_at_call 42; (with_reducible refine (HP.out _ HX.out.grow).mono ?_); rintro e w1 ⟨rfl, g2⟩; have HX2 := Lib.hid (HX.out.step g2); clear c0 c1 c2 g2; obtain ⟨c0, c1, c2⟩ := HX2.out.cells)
  go_ret
  exact ⟨rfl, HX2.out.grow⟩
/-- A number's bytes. -/
def Cu.bs (two : Bool) (x : Int) : List UInt8 := if two then [UInt8.ofNat (x % 256).toNat, UInt8.ofNat (x / 256 % 256).toNat] else [UInt8.ofNat (x % 256).toNat]
theorem Cu.over_one {l : List UInt8} {k : Nat} (b : UInt8) (h : k < l.length) : over l k [b] = l.set k b := by
  unfold over
  rw [List.set_eq_take_append_cons_drop, if_pos h]
  simp
set_option maxHeartbeats 1600000 in
theorem Cu.write_two (w : World) (B m g : Nat) (l : List UInt8) (base size : Nat) (h : MemG w B m g l) (hI : Cu.In l base size) (k : Nat) (hk : k + 2 ≤ size) (x : Int) : Calls Tryd.prog 47 #[Cu.vw m base size, .int .i64 k, .int .i64 2, .int .i64 x] w fun e w' => e = .returned (.int .i64 0) ∧ MemG w' B m g (over l (base + k) (Cu.bs true x)) ∧ w.grownBy w' (some g) := by
  have HX := Lib.hid (Cu.Bx.new w m base size)
  have HP := Lib.hid (show ∀ W, w.grownBy W none → Calls Tryd.prog 42 #[Cu.vw m base size, .int .i64 k, .int .i64 2] W fun e w' => e = .returned (.tuple #[.int .i64 (base + k : Nat), .int .i64 0]) ∧ W.grownBy w' none from fun W g => Cu.place_yes W B m l base size (h.mem.grown g) hI k 2 hk)
  have HT := Lib.hid (show ∀ W, w.grownBy W none → Calls Tryd.prog 61 #[.pointer (some ⟨m, 0, none⟩), .int .i64 (base + k : Nat), .int .i64 x] W fun r w' => r = .returned (.int .i64 0) ∧ MemG w' B m g (over l (base + k) (Cu.bs true x)) ∧ W.grownBy w' (some g) from fun W q => by
    have := set2_any W B m g l ((base + k : Nat) : Int) x (h.grown q) hI.2
    have ec := Cu.chk_in (n := 2) hI hk
    simp only [show ((2 : Nat) : Int) = 2 from rfl] at ec
    rw [ec, if_pos rfl] at this
    exact this)
  generalize over l (base + k) (Cu.bs true x) = v at *
  clear h hI hk
  generalize base + k = a at HP HT
  unfold Cu.vw at HP ⊢
  obtain ⟨W, hW⟩ : ∃ W, W = (w.alloc (.cells #[.pointer (some ⟨m, 0, none⟩), .int .i64 base, .int .i64 size] 28)) := ⟨_, rfl⟩
  rw [← hW] at HX
  obtain ⟨c0, c1, c2⟩ := HX.out.cells
  go_enter Tryd.func47, Tryd.ntmps47
  go_upto_region 1 with (fail)
  rw [← hW]
  clear hW
  go_wp2_with (first
    | (go_at_call 42; (with_reducible refine (HP.out _ HX.out.grow).mono ?_); rintro e w1 ⟨rfl, g2⟩; have HX2 := Lib.hid (HX.out.step g2); clear c0 c1 c2 g2; obtain ⟨c0, c1, c2⟩ := HX2.out.cells)
    | (go_at_call 61; (with_reducible refine (HT.out _ HX2.out.grow).mono ?_); rintro e w2 ⟨rfl, hm, g3⟩))
  go_ret
  exact ⟨rfl, hm, only_trans (only_any HX2.out.grow _) g3⟩
set_option maxHeartbeats 1600000 in
theorem Cu.write_one (w : World) (B m g : Nat) (l : List UInt8) (base size : Nat) (h : MemG w B m g l) (hI : Cu.In l base size) (k : Nat) (hk : k + 1 ≤ size) (x : Int) : Calls Tryd.prog 47 #[Cu.vw m base size, .int .i64 k, .int .i64 1, .int .i64 x] w fun e w' => e = .returned (.int .i64 0) ∧ MemG w' B m g (over l (base + k) (Cu.bs false x)) ∧ w.grownBy w' (some g) := by
  have HX := Lib.hid (Cu.Bx.new w m base size)
  have HP := Lib.hid (show ∀ W, w.grownBy W none → Calls Tryd.prog 42 #[Cu.vw m base size, .int .i64 k, .int .i64 1] W fun e w' => e = .returned (.tuple #[.int .i64 (base + k : Nat), .int .i64 0]) ∧ W.grownBy w' none from fun W g => Cu.place_yes W B m l base size (h.mem.grown g) hI k 1 hk)
  have HT := Lib.hid (show ∀ W, w.grownBy W none → Calls Tryd.prog 62 #[.pointer (some ⟨m, 0, none⟩), .int .i64 (base + k : Nat), .int .i64 x] W fun r w' => r = .returned (.int .i64 0) ∧ MemG w' B m g (over l (base + k) (Cu.bs false x)) ∧ W.grownBy w' (some g) from fun W q => by
    have := set_any W B m g l ((base + k : Nat) : Int) x (h.grown q) hI.2
    have ec := Cu.chk_in (n := 1) hI hk
    simp only [show ((1 : Nat) : Int) = 1 from rfl] at ec
    rw [ec, if_pos rfl] at this
    rw [Cu.bs, if_neg (by simp), Cu.over_one _ (by have := hI.1; omega)]
    exact this)
  generalize over l (base + k) (Cu.bs false x) = v at *
  clear h hI hk
  generalize base + k = a at HP HT
  unfold Cu.vw at HP ⊢
  obtain ⟨W, hW⟩ : ∃ W, W = (w.alloc (.cells #[.pointer (some ⟨m, 0, none⟩), .int .i64 base, .int .i64 size] 28)) := ⟨_, rfl⟩
  rw [← hW] at HX
  obtain ⟨c0, c1, c2⟩ := HX.out.cells
  go_enter Tryd.func47, Tryd.ntmps47
  go_upto_region 1 with (fail)
  rw [← hW]
  clear hW
  go_wp2_with (first
    | (go_at_call 42; (with_reducible refine (HP.out _ HX.out.grow).mono ?_); rintro e w1 ⟨rfl, g2⟩; have HX2 := Lib.hid (HX.out.step g2); clear c0 c1 c2 g2; obtain ⟨c0, c1, c2⟩ := HX2.out.cells)
    | (go_at_call 62; (with_reducible refine (HT.out _ HX2.out.grow).mono ?_); rintro e w2 ⟨rfl, hm, g3⟩))
  go_ret
  exact ⟨rfl, hm, only_trans (only_any HX2.out.grow _) g3⟩
end Go.Proofs.YtiicoabkhponmaaDoor

/- Package cpu: what breaks, jumps, what is made, by contract. -/
namespace Go.Proofs.YtiicoabkhponmaaDoor
open Go.RowKit Go.Lib
set_option linter.unusedVariables false
set_option maxRecDepth 8000

/-- A state's box: its registers by number. -/
theorem Cu.st_cells {W : World} {b : Nat} {t : TypeId} {pc md : Int} {r : Nat → Int} (h : Blk W b t (Cu.stC pc r md)) :
    W.cell? ⟨b, 0, none⟩ = some (.int .i64 pc) ∧ W.cell? ⟨b, 9, none⟩ = some (.int .i64 md) ∧ ∀ i, i < 8 → W.cell? ⟨b, 1 + i, none⟩ = some (.int .i64 (r i)) := by
  refine ⟨h.cell 0, h.cell 9, fun i hi => ?_⟩
  rw [h.cell]
  have : i = 0 ∨ i = 1 ∨ i = 2 ∨ i = 3 ∨ i = 4 ∨ i = 5 ∨ i = 6 ∨ i = 7 := by omega
  rcases this with rfl | rfl | rfl | rfl | rfl | rfl | rfl | rfl <;> rfl
def Cu.jm (k : Nat) (rx r0 : Int) : Bool := if k = 12 then decide (rx = 0) else if k = 13 then decide (rx < r0) else true
set_option maxHeartbeats 1600000 in
theorem Cu.jumps_any (pc md : Int) (r : Nat → Int) (k x : Nat) (n : Int) (hk : k = 11 ∨ k = 12 ∨ k = 13) (hx : x < 8) (w : World) : Calls Tryd.prog 44 #[Cu.stV pc r md, .agg #[.int .u8 k, .int .i64 x, .int .i64 n]] w fun e w' => e = .returned (.bool (Cu.jm k (r x) (r 0))) ∧ w.grownBy w' none := by
  obtain ⟨W1, hW1, g1, hB1⟩ := ibox w 24 (Cu.stC pc r md)
  obtain ⟨W2, hW2, g2, hB2⟩ := ibox W1 67 #[.int .u8 k, .int .i64 x, .int .i64 n]
  have hz : W1.heap.size = w.heap.size + 1 := by rw [hW1]; simp
  have HG := Lib.hid (only_trans g1 g2)
  obtain ⟨-, -, cr⟩ := Cu.st_cells (hB1.only g2 (by simp))
  have c0 := cr 0 (by omega)
  have cx := cr x hx
  rw [hz] at hB2
  obtain ⟨d0, d1, d2⟩ := in3 hB2
  generalize r 0 = r0 at *
  generalize r x = rx at *
  have x1 : (x : Int) < 8 := by omega
  have x2 : (0 : Int) ≤ (x : Int) := by omega
  have x3 : ¬ (x : Int) < 0 := by omega
  have x4 : ¬ (7 : Int) < (x : Int) := by omega
  clear hB1 g1 g2 hB2 cr
  unfold Cu.stV
  rcases hk with rfl | rfl | rfl
  all_goals
    simp only [Int.cast_ofNat_Int] at hW2 d0 ⊢
    go_enter Tryd.func44, Tryd.ntmps44
    go_upto_region 1 with (fail)
    try rw [← hz]
    rw [← hW1, ← hW2]
    clear hW1 hW2
  · go_wp2
    go_ret
    exact ⟨by rfl, HG.out⟩
  · go_wp2
    go_ret
    exact ⟨by simp [Cu.jm] <;> rfl, HG.out⟩
  · go_upto_region 5 with (fail)
    go_quiet (fail)
    go_wp2
    go_ret
    exact ⟨by simp [Cu.jm] <;> rfl, only_drewN HG.out _⟩
/-- What an instruction that needs no memory makes. -/
def Cu.mkV (k : Nat) (n rx rn : Int) : Int :=
  if k = 1 then n else if k = 3 then (rx + rn) % 65536 else if k = 4 then (rx - rn) % 65536 else if k = 5 then bits .and .i64 rx rn else if k = 6 then bits .xor .i64 rx rn else rn
set_option maxHeartbeats 3200000 in
theorem Cu.made_any (pc md : Int) (r : Nat → Int) (k x n : Nat) (hk : 1 ≤ k ∧ k ≤ 6) (hx : x < 8) (hn : k = 1 ∨ n < 8) (hr : ∀ i, 0 ≤ r i ∧ r i < 65536) (w : World) : Calls Tryd.prog 48 #[Cu.stV pc r md, .agg #[.int .u8 k, .int .i64 x, .int .i64 n]] w fun e w' => e = .returned (.int .i64 (Cu.mkV k n (r x) (r n))) ∧ w.grownBy w' none := by
  obtain ⟨W1, hW1, g1, hB1⟩ := ibox w 24 (Cu.stC pc r md)
  obtain ⟨W2, hW2, g2, hB2⟩ := ibox W1 67 #[.int .u8 k, .int .i64 x, .int .i64 n]
  have hz : W1.heap.size = w.heap.size + 1 := by rw [hW1]; simp
  have HG := Lib.hid (only_trans g1 g2)
  obtain ⟨-, -, cr⟩ := Cu.st_cells (hB1.only g2 (by simp))
  have cx := cr x hx
  have cn : k = 1 ∨ W2.cell? ⟨w.heap.size, 1 + n, none⟩ = some (.int .i64 (r n)) := hn.imp_right (cr n)
  rw [hz] at hB2
  obtain ⟨d0, d1, d2⟩ := in3 hB2
  have bx := hr x
  have bn := hr n
  generalize r n = rn at *
  generalize r x = rx at *
  obtain ⟨a, rfl⟩ := Int.eq_ofNat_of_zero_le bx.1
  obtain ⟨b, rfl⟩ := Int.eq_ofNat_of_zero_le bn.1
  have bx1 : (a : Int) < 65536 := bx.2
  have bn1 : (b : Int) < 65536 := bn.2
  have x1 : (x : Int) < 8 := by omega
  have x2 : (0 : Int) ≤ (x : Int) := by omega
  have x3 : ¬ (x : Int) < 0 := by omega
  have x4 : ¬ (7 : Int) < (x : Int) := by omega
  have y3 : ¬ (n : Int) < 0 := by omega
  clear hB1 g1 g2 hB2 cr bx bn hr
  unfold Cu.stV
  by_cases h1 : k = 1
  · clear hn cn
    subst h1
    simp only [Int.cast_ofNat_Int] at hW2 d0 ⊢
    go_enter Tryd.func48, Tryd.ntmps48
    go_upto_region 1 with (fail)
    rw [← hW1, ← hW2]
    clear hW1 hW2
    go_wp2
    go_ret
    exact ⟨by rfl, HG.out⟩
  · replace cn := cn.resolve_left h1
    replace hn := hn.resolve_left h1
    have y1 : (n : Int) < 8 := by omega
    have y4 : ¬ (7 : Int) < (n : Int) := by omega
    have hk' : k = 2 ∨ k = 3 ∨ k = 4 ∨ k = 5 ∨ k = 6 := by omega
    rcases hk' with rfl | rfl | rfl | rfl | rfl
    all_goals
      simp only [Int.cast_ofNat_Int] at hW2 d0 ⊢
      go_enter Tryd.func48, Tryd.ntmps48
      go_upto_region 1 with (fail)
      rw [← hW1, ← hW2]
      clear hW1 hW2
      go_upto_region 3 with (fail)
      go_quiet (fail)
      go_wp2_with (go_at_call 24; refine (Cu.two_any _ _).mono ?_; rintro e w' ⟨rfl, rfl⟩)
      go_ret
    · exact ⟨by rfl, only_drewN HG.out _⟩
    · exact ⟨by simp [Cu.mkV], only_drewN HG.out _⟩
    · exact ⟨by simp [Cu.mkV], only_drewN HG.out _⟩
    · exact ⟨by simp [Cu.mkV], only_drewN HG.out _⟩
    · exact ⟨by simp [Cu.mkV], only_drewN HG.out _⟩
set_option maxHeartbeats 3200000 in
theorem Cu.broken_any (pc md e : Int) (r : Nat → Int) (w : World) : Calls Tryd.prog 26 #[Cu.stV pc r md, .int .i64 e] w fun x w' => x = .returned (.tuple #[Cu.stV pc r 3, Cu.outV 5 0 0 e]) ∧ w.grownBy w' none := by
  unfold Cu.stV Cu.stC Cu.outV
  go_enter Tryd.func26, Tryd.ntmps26
  go_wp2
  refine bodyPost_ret (v := .tuple #[.agg #[.int .i64 pc, .int .i64 (r 0), .int .i64 (r 1), .int .i64 (r 2), .int .i64 (r 3), .int .i64 (r 4), .int .i64 (r 5), .int .i64 (r 6), .int .i64 (r 7), .int .i64 3], .agg #[.int .i64 5, .int .i64 0, .int .i64 0, .int .i64 e]]) (by simp [results, Tryd.results26, go_sem]) rfl ⟨rfl, only_alloc (only_alloc (only_alloc (only_refl _ _) _) _) _⟩
end Go.Proofs.YtiicoabkhponmaaDoor
