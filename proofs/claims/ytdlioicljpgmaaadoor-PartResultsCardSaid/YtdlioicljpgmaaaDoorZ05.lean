import Derived.Test.YtdlioicljpgmaaaDoorZ04
set_option linter.all false
/- Package cpu: what breaks, jumps, what is made, by contract. -/
namespace Go.Proofs.YtdlioicljpgmaaaDoor
open Go.RowKit Go.Lib
set_option linter.unusedVariables false
set_option maxRecDepth 8000

/-- A state's box: its registers by number. -/
theorem Cu.st_cells {W : World} {b : Nat} {t : TypeId} {pc md : Int} {r : Nat → Int} (h : Blk W b t (Cu.stC pc r md)) :
    W.cell? ⟨b, 0, none⟩ = some (.int .i64 pc) ∧ W.cell? ⟨b, 9, none⟩ = some (.int .i64 md) ∧ ∀ i, i < 8 → W.cell? ⟨b, 1 + i, none⟩ = some (.int .i64 (r i)) := by
  refine ⟨h.cell 0, h.cell 9, fun i hi => ?_⟩
  rw [h.cell]
  have : i = 0 ∨ i = 1 ∨ i = 2 ∨ i = 3 ∨ i = 4 ∨ i = 5 ∨ i = 6 ∨ i = 7 := by omega
  rcases this with rfl | rfl | rfl | rfl | rfl | rfl | rfl | rfl <;> rfl
def Cu.jm (k : Nat) (rx r0 : Int) : Bool := if k = 12 then decide (rx = 0) else if k = 13 then decide (rx < r0) else true
set_option maxHeartbeats 1600000 in
theorem Cu.jumps_any (pc md : Int) (r : Nat → Int) (k x : Nat) (n : Int) (hk : k = 11 ∨ k = 12 ∨ k = 13) (hx : x < 8) (w : World) : Calls Tryd.prog 61 #[Cu.stV pc r md, .agg #[.int .u8 k, .int .i64 x, .int .i64 n]] w fun e w' => e = .returned (.bool (Cu.jm k (r x) (r 0))) ∧ w.grownBy w' none := by
  obtain ⟨W1, hW1, g1, hB1⟩ := ibox w 55 (Cu.stC pc r md)
  obtain ⟨W2, hW2, g2, hB2⟩ := ibox W1 104 #[.int .u8 k, .int .i64 x, .int .i64 n]
  have hz : W1.heap.size = w.heap.size + 1 := by rw [hW1]; simp
  have HG := Lib.hid (only_trans g1 g2)
  obtain ⟨-, -, cr⟩ := Cu.st_cells (hB1.only g2 (by simp))
  have c0 := cr 0 (by omega)
  have cx := cr x hx
  rw [hz] at hB2
  obtain ⟨d0, d1, d2⟩ := in3 hB2
  generalize r 0 = r0 at *
  generalize r x = rx at *
  have x1 : (x : Int) < 8 := by omega
  have x2 : (0 : Int) ≤ (x : Int) := by omega
  have x3 : ¬ (x : Int) < 0 := by omega
  have x4 : ¬ (7 : Int) < (x : Int) := by omega
  clear hB1 g1 g2 hB2 cr
  unfold Cu.stV
  rcases hk with rfl | rfl | rfl
  all_goals
    simp only [Int.cast_ofNat_Int] at hW2 d0 ⊢
    go_enter Tryd.func61, Tryd.ntmps61
    go_upto_region 1 with (fail)
    try rw [← hz]
    rw [← hW1, ← hW2]
    clear hW1 hW2
  · go_wp2
    go_ret
    exact ⟨by rfl, HG.out⟩
  · go_wp2
    go_ret
    exact ⟨by simp [Cu.jm] <;> rfl, HG.out⟩
  · go_upto_region 5 with (fail)
    go_quiet (fail)
    go_wp2
    go_ret
    exact ⟨by simp [Cu.jm] <;> rfl, only_drewN HG.out _⟩
/-- What an instruction that needs no memory makes. -/
def Cu.mkV (k : Nat) (n rx rn : Int) : Int :=
  if k = 1 then n else if k = 3 then (rx + rn) % 65536 else if k = 4 then (rx - rn) % 65536 else if k = 5 then bits .and .i64 rx rn else if k = 6 then bits .xor .i64 rx rn else rn
set_option maxHeartbeats 3200000 in
theorem Cu.made_any (pc md : Int) (r : Nat → Int) (k x n : Nat) (hk : 1 ≤ k ∧ k ≤ 6) (hx : x < 8) (hn : k = 1 ∨ n < 8) (hr : ∀ i, 0 ≤ r i ∧ r i < 65536) (w : World) : Calls Tryd.prog 65 #[Cu.stV pc r md, .agg #[.int .u8 k, .int .i64 x, .int .i64 n]] w fun e w' => e = .returned (.int .i64 (Cu.mkV k n (r x) (r n))) ∧ w.grownBy w' none := by
  obtain ⟨W1, hW1, g1, hB1⟩ := ibox w 55 (Cu.stC pc r md)
  obtain ⟨W2, hW2, g2, hB2⟩ := ibox W1 104 #[.int .u8 k, .int .i64 x, .int .i64 n]
  have hz : W1.heap.size = w.heap.size + 1 := by rw [hW1]; simp
  have HG := Lib.hid (only_trans g1 g2)
  obtain ⟨-, -, cr⟩ := Cu.st_cells (hB1.only g2 (by simp))
  have cx := cr x hx
  have cn : k = 1 ∨ W2.cell? ⟨w.heap.size, 1 + n, none⟩ = some (.int .i64 (r n)) := hn.imp_right (cr n)
  rw [hz] at hB2
  obtain ⟨d0, d1, d2⟩ := in3 hB2
  have bx := hr x
  have bn := hr n
  generalize r n = rn at *
  generalize r x = rx at *
  obtain ⟨a, rfl⟩ := Int.eq_ofNat_of_zero_le bx.1
  obtain ⟨b, rfl⟩ := Int.eq_ofNat_of_zero_le bn.1
  have bx1 : (a : Int) < 65536 := bx.2
  have bn1 : (b : Int) < 65536 := bn.2
  have x1 : (x : Int) < 8 := by omega
  have x2 : (0 : Int) ≤ (x : Int) := by omega
  have x3 : ¬ (x : Int) < 0 := by omega
  have x4 : ¬ (7 : Int) < (x : Int) := by omega
  have y3 : ¬ (n : Int) < 0 := by omega
  clear hB1 g1 g2 hB2 cr bx bn hr
  unfold Cu.stV
  by_cases h1 : k = 1
  · clear hn cn
    subst h1
    simp only [Int.cast_ofNat_Int] at hW2 d0 ⊢
    go_enter Tryd.func65, Tryd.ntmps65
    go_upto_region 1 with (fail)
    rw [← hW1, ← hW2]
    clear hW1 hW2
    go_wp2
    go_ret
    exact ⟨by rfl, HG.out⟩
  · replace cn := cn.resolve_left h1
    replace hn := hn.resolve_left h1
    have y1 : (n : Int) < 8 := by omega
    have y4 : ¬ (7 : Int) < (n : Int) := by omega
    have hk' : k = 2 ∨ k = 3 ∨ k = 4 ∨ k = 5 ∨ k = 6 := by omega
    rcases hk' with rfl | rfl | rfl | rfl | rfl
    all_goals
      simp only [Int.cast_ofNat_Int] at hW2 d0 ⊢
      go_enter Tryd.func65, Tryd.ntmps65
      go_upto_region 1 with (fail)
      rw [← hW1, ← hW2]
      clear hW1 hW2
      go_upto_region 3 with (fail)
      go_quiet (fail)
      go_wp2_with (go_at_call 43; refine (Cu.two_any _ _).mono ?_; rintro e w' ⟨rfl, rfl⟩)
      go_ret
    · exact ⟨by rfl, only_drewN HG.out _⟩
    · exact ⟨by simp [Cu.mkV], only_drewN HG.out _⟩
    · exact ⟨by simp [Cu.mkV], only_drewN HG.out _⟩
    · exact ⟨by simp [Cu.mkV], only_drewN HG.out _⟩
    · exact ⟨by simp [Cu.mkV], only_drewN HG.out _⟩
set_option maxHeartbeats 3200000 in
theorem Cu.broken_any (pc md e : Int) (r : Nat → Int) (w : World) : Calls Tryd.prog 45 #[Cu.stV pc r md, .int .i64 e] w fun x w' => x = .returned (.tuple #[Cu.stV pc r 3, Cu.outV 5 0 0 e]) ∧ w.grownBy w' none := by
  unfold Cu.stV Cu.stC Cu.outV
  go_enter Tryd.func45, Tryd.ntmps45
  go_wp2
  refine bodyPost_ret (v := .tuple #[.agg #[.int .i64 pc, .int .i64 (r 0), .int .i64 (r 1), .int .i64 (r 2), .int .i64 (r 3), .int .i64 (r 4), .int .i64 (r 5), .int .i64 (r 6), .int .i64 (r 7), .int .i64 3], .agg #[.int .i64 5, .int .i64 0, .int .i64 0, .int .i64 e]]) (by simp [results, Tryd.results45, go_sem]) rfl ⟨rfl, only_alloc (only_alloc (only_alloc (only_refl _ _) _) _) _⟩
end Go.Proofs.YtdlioicljpgmaaaDoor

/- Package cpu: do, the arms that touch no memory. -/
namespace Go.Proofs.YtdlioicljpgmaaaDoor
open Go.RowKit Go.Lib
set_option linter.unusedVariables false
set_option maxRecDepth 8000

def Cu.inV (k x n : Int) : Value := .agg #[.int .u8 k, .int .i64 x, .int .i64 n]
set_option maxHeartbeats 3200000 in
theorem Cu.do_stop (m : Nat) (base size pc md x n : Int) (r : Nat → Int) (w : World) : Calls Tryd.prog 46 #[Cu.vw m base size, Cu.stV pc r md, Cu.inV 0 x n] w fun e w' => e = .returned (.tuple #[Cu.stV pc r 2, Cu.outV 4 0 0 0]) ∧ w.grownBy w' none := by
  unfold Cu.stV Cu.stC Cu.outV Cu.vw Cu.inV
  go_enter Tryd.func46, Tryd.ntmps46
  go_wp2
  refine bodyPost_ret (v := .tuple #[.agg #[.int .i64 pc, .int .i64 (r 0), .int .i64 (r 1), .int .i64 (r 2), .int .i64 (r 3), .int .i64 (r 4), .int .i64 (r 5), .int .i64 (r 6), .int .i64 (r 7), .int .i64 2], .agg #[.int .i64 4, .int .i64 0, .int .i64 0, .int .i64 0]]) (by simp [results, Tryd.results46, go_sem]) rfl ⟨rfl, ?_⟩
  repeat (first | exact only_refl _ _ | refine only_alloc ?_ _)
set_option maxHeartbeats 6400000 in
theorem Cu.do_rest (m : Nat) (base size pc md x n : Int) (r : Nat → Int) (hpc : 0 ≤ pc ∧ pc ≤ 16384) (w : World) : Calls Tryd.prog 46 #[Cu.vw m base size, Cu.stV pc r md, Cu.inV 15 x n] w fun e w' => e = .returned (.tuple #[Cu.stV (pc + 4) r 1, Cu.outV 3 0 0 0]) ∧ w.grownBy w' none := by
  have hw : IntKind.i64.wrap (pc + 4) = pc + 4 := by rw [IntKind.wrap_i64]; omega
  unfold Cu.stV Cu.stC Cu.outV Cu.vw Cu.inV
  go_enter Tryd.func46, Tryd.ntmps46
  go_upto_region 28 with (fail)
  go_region
  go_wp2
  refine bodyPost_ret (v := .tuple #[.agg #[.int .i64 (pc + 4), .int .i64 (r 0), .int .i64 (r 1), .int .i64 (r 2), .int .i64 (r 3), .int .i64 (r 4), .int .i64 (r 5), .int .i64 (r 6), .int .i64 (r 7), .int .i64 1], .agg #[.int .i64 3, .int .i64 0, .int .i64 0, .int .i64 0]]) (by simp [results, Tryd.results46, go_sem]) rfl ⟨rfl, ?_⟩
  refine only_drewN ?_ 1
  repeat (first | exact only_refl _ _ | refine only_alloc ?_ _)
set_option maxHeartbeats 6400000 in
theorem Cu.do_call (m : Nat) (base size pc md x n : Int) (r : Nat → Int) (hpc : 0 ≤ pc ∧ pc ≤ 16384) (w : World) : Calls Tryd.prog 46 #[Cu.vw m base size, Cu.stV pc r md, Cu.inV 14 x n] w fun e w' => e = .returned (.tuple #[Cu.stV (pc + 4) r md, Cu.outV 2 n x 0]) ∧ w.grownBy w' none := by
  have hw : IntKind.i64.wrap (pc + 4) = pc + 4 := by rw [IntKind.wrap_i64]; omega
  unfold Cu.stV Cu.stC Cu.outV Cu.vw Cu.inV
  go_enter Tryd.func46, Tryd.ntmps46
  go_upto_region 28 with (fail)
  go_region
  go_wp2
  refine bodyPost_ret (v := .tuple #[.agg #[.int .i64 (pc + 4), .int .i64 (r 0), .int .i64 (r 1), .int .i64 (r 2), .int .i64 (r 3), .int .i64 (r 4), .int .i64 (r 5), .int .i64 (r 6), .int .i64 (r 7), .int .i64 md], .agg #[.int .i64 2, .int .i64 n, .int .i64 x, .int .i64 0]]) (by simp [results, Tryd.results46, go_sem]) rfl ⟨rfl, ?_⟩
  refine only_drewN ?_ 1
  repeat (first | exact only_refl _ _ | refine only_alloc ?_ _)
end Go.Proofs.YtdlioicljpgmaaaDoor

/- Package cpu: do, its boxes; the arms that jump. -/
namespace Go.Proofs.YtdlioicljpgmaaaDoor
open Go.RowKit Go.Lib
set_option linter.unusedVariables false
set_option maxRecDepth 8000

/-- The boxes of do. -/
def Cu.inC (k x n : Int) : Array Value := #[.int .u8 k, .int .i64 x, .int .i64 n]
def Cu.wd (w : World) (m : Nat) (base size : Int) (S I T O : Array Value) : World :=
  ((((((w.alloc (.cells #[.pointer (some ⟨m, 0, none⟩), .int .i64 base, .int .i64 size] 31)).alloc (.cells S 55)).alloc (.cells I 104)).alloc (.cells #[.int .i64 0, .int .i64 0, .int .i64 0, .int .i64 0, .int .i64 0, .int .i64 0, .int .i64 0, .int .i64 0, .int .i64 0, .int .i64 0] 55)).alloc (.cells #[.int .i64 0, .int .i64 0, .int .i64 0, .int .i64 0] 90)).alloc (.cells T 55)).alloc (.cells O 90)
structure Cu.Dw (w W : World) (m : Nat) (base size : Int) (S I RS RO T O : Array Value) (row : Option Nat) : Prop where
  vb : Blk W (w.heap.size) 31 #[.pointer (some ⟨m, 0, none⟩), .int .i64 base, .int .i64 size]
  sb : Blk W (w.heap.size + 1) 55 S
  ib : Blk W (w.heap.size + 1 + 1) 104 I
  rs : Blk W (w.heap.size + 1 + 1 + 1) 55 RS
  ro : Blk W (w.heap.size + 1 + 1 + 1 + 1) 90 RO
  tb : Blk W (w.heap.size + 1 + 1 + 1 + 1 + 1) 55 T
  ob : Blk W (w.heap.size + 1 + 1 + 1 + 1 + 1 + 1) 90 O
  grow : w.grownBy W row
theorem Cu.Dw.new (w : World) (m : Nat) (base size : Int) (S I T O : Array Value) : Cu.Dw w (Cu.wd w m base size S I T O) m base size S I #[.int .i64 0, .int .i64 0, .int .i64 0, .int .i64 0, .int .i64 0, .int .i64 0, .int .i64 0, .int .i64 0, .int .i64 0, .int .i64 0] #[.int .i64 0, .int .i64 0, .int .i64 0, .int .i64 0] T O none := by
  have b0 := Blk.new w 31 #[.pointer (some ⟨m, 0, none⟩), .int .i64 base, .int .i64 size]
  obtain ⟨w1, h1⟩ : ∃ w1, w1 = w.alloc (.cells #[.pointer (some ⟨m, 0, none⟩), .int .i64 base, .int .i64 size] 31) := ⟨_, rfl⟩
  have z1 : w1.heap.size = w.heap.size + 1 := by rw [h1]; simp
  have b1 := Blk.new w1 55 S
  obtain ⟨w2, h2⟩ : ∃ w2, w2 = w1.alloc (.cells S 55) := ⟨_, rfl⟩
  have z2 : w2.heap.size = w.heap.size + 1 + 1 := by rw [h2]; simp [z1]
  have b2 := Blk.new w2 104 I
  obtain ⟨w3, h3⟩ : ∃ w3, w3 = w2.alloc (.cells I 104) := ⟨_, rfl⟩
  have z3 : w3.heap.size = w.heap.size + 1 + 1 + 1 := by rw [h3]; simp [z2]
  have b3 := Blk.new w3 55 #[.int .i64 0, .int .i64 0, .int .i64 0, .int .i64 0, .int .i64 0, .int .i64 0, .int .i64 0, .int .i64 0, .int .i64 0, .int .i64 0]
  obtain ⟨w4, h4⟩ : ∃ w4, w4 = w3.alloc (.cells #[.int .i64 0, .int .i64 0, .int .i64 0, .int .i64 0, .int .i64 0, .int .i64 0, .int .i64 0, .int .i64 0, .int .i64 0, .int .i64 0] 55) := ⟨_, rfl⟩
  have z4 : w4.heap.size = w.heap.size + 1 + 1 + 1 + 1 := by rw [h4]; simp [z3]
  have b4 := Blk.new w4 90 #[.int .i64 0, .int .i64 0, .int .i64 0, .int .i64 0]
  obtain ⟨w5, h5⟩ : ∃ w5, w5 = w4.alloc (.cells #[.int .i64 0, .int .i64 0, .int .i64 0, .int .i64 0] 90) := ⟨_, rfl⟩
  have z5 : w5.heap.size = w.heap.size + 1 + 1 + 1 + 1 + 1 := by rw [h5]; simp [z4]
  have b5 := Blk.new w5 55 T
  obtain ⟨w6, h6⟩ : ∃ w6, w6 = w5.alloc (.cells T 55) := ⟨_, rfl⟩
  have z6 : w6.heap.size = w.heap.size + 1 + 1 + 1 + 1 + 1 + 1 := by rw [h6]; simp [z5]
  have b6 := Blk.new w6 90 O
  unfold Cu.wd
  rw [← h1] at b0 ⊢
  rw [← h2] at b1 ⊢
  rw [← h3] at b2 ⊢
  rw [← h4] at b3 ⊢
  rw [← h5] at b4 ⊢
  rw [← h6] at b5 ⊢
  have g2 : w1.grownBy w2 none := by rw [h2]; exact only_alloc (only_refl _ _) _
  have g3 : w2.grownBy w3 none := by rw [h3]; exact only_alloc (only_refl _ _) _
  have g4 : w3.grownBy w4 none := by rw [h4]; exact only_alloc (only_refl _ _) _
  have g5 : w4.grownBy w5 none := by rw [h5]; exact only_alloc (only_refl _ _) _
  have g6 : w5.grownBy w6 none := by rw [h6]; exact only_alloc (only_refl _ _) _
  have g7 : w6.grownBy (w6.alloc (.cells O 90)) none := only_alloc (only_refl _ _) _
  have f6 := only_trans g6 g7
  have f5 := only_trans g5 f6
  have f4 := only_trans g4 f5
  have f3 := only_trans g3 f4
  have f2 := only_trans g2 f3
  have f1 : w.grownBy (w6.alloc (.cells O 90)) none := only_trans (by rw [h1]; exact only_alloc (only_refl _ _) _) f2
  rw [z1] at b1
  rw [z2] at b2
  rw [z3] at b3
  rw [z4] at b4
  rw [z5] at b5
  rw [z6] at b6
  exact ⟨b0.only f2 (by simp), b1.only f3 (by simp), b2.only f4 (by simp), b3.only f5 (by simp), b4.only f6 (by simp), b5.only g7 (by simp), b6, f1⟩
section
variable {w W W' : World} {m : Nat} {base size : Int} {S I RS RO T O : Array Value} {row : Option Nat}
theorem Cu.Dw.step (h : Cu.Dw w W m base size S I RS RO T O row) (g : W.grownBy W' none) : Cu.Dw w W' m base size S I RS RO T O row :=
  ⟨h.vb.only g (by simp), h.sb.only g (by simp), h.ib.only g (by simp), h.rs.only g (by simp), h.ro.only g (by simp), h.tb.only g (by simp), h.ob.only g (by simp), only_trans h.grow (only_any g row)⟩
theorem Cu.Dw.far {g : Nat} (h : Cu.Dw w W m base size S I RS RO T O none) (hg : g < w.heap.size) (q : W.grownBy W' (some g)) : Cu.Dw w W' m base size S I RS RO T O (some g) := by
  refine ⟨h.vb.only q ?_, h.sb.only q ?_, h.ib.only q ?_, h.rs.only q ?_, h.ro.only q ?_, h.tb.only q ?_, h.ob.only q ?_, only_trans (only_any h.grow (some g)) q⟩
  all_goals
    intro e
    injection e with e
    omega
theorem Cu.Dw.putT (h : Cu.Dw w W m base size S I RS RO T O row) (i : Nat) (v : Value) : Cu.Dw w (W.setCell ⟨w.heap.size + 1 + 1 + 1 + 1 + 1, i, none⟩ v) m base size S I RS RO (T.setIfInBounds i v) O row :=
  ⟨h.vb.far (by first | (simp; done) | (simp; omega) | omega) v, h.sb.far (by first | (simp; done) | (simp; omega) | omega) v, h.ib.far (by first | (simp; done) | (simp; omega) | omega) v, h.rs.far (by first | (simp; done) | (simp; omega) | omega) v, h.ro.far (by first | (simp; done) | (simp; omega) | omega) v, h.tb.put i v, h.ob.far (by first | (simp; done) | (simp; omega) | omega) v, only_putc h.grow (p := ⟨w.heap.size + 1 + 1 + 1 + 1 + 1, i, none⟩) (by first | (simp; done) | (simp; omega) | omega) v⟩
end
theorem Cu.stC_pc (pc pc' : Int) (r : Nat → Int) (md : Int) : (Cu.stC pc r md).setIfInBounds 0 (.int .i64 pc') = Cu.stC pc' r md := rfl
def Cu.upd (r : Nat → Int) (x : Nat) (v : Int) : Nat → Int := fun i => if i = x then v else r i
theorem Cu.stC_reg (pc : Int) (r : Nat → Int) (md : Int) (x : Nat) (hx : x < 8) (v : Int) : (Cu.stC pc r md).setIfInBounds (1 + x) (.int .i64 v) = Cu.stC pc (Cu.upd r x v) md := by
  have : x = 0 ∨ x = 1 ∨ x = 2 ∨ x = 3 ∨ x = 4 ∨ x = 5 ∨ x = 6 ∨ x = 7 := by omega
  rcases this with rfl | rfl | rfl | rfl | rfl | rfl | rfl | rfl <;> rfl
theorem Cu.Dw.tail {w W : World} {m : Nat} {base size : Int} {S I RS RO : Array Value} {pc md a b c d : Int} {r : Nat → Int} {row : Option Nat} (h : Cu.Dw w W m base size S I RS RO (Cu.stC pc r md) #[.int .i64 a, .int .i64 b, .int .i64 c, .int .i64 d] row) : (W.cell? ⟨w.heap.size + 1 + 1 + 1 + 1 + 1, 0, none⟩ = some (.int .i64 pc) ∧ W.cell? ⟨w.heap.size + 1 + 1 + 1 + 1 + 1, 1, none⟩ = some (.int .i64 (r 0)) ∧ W.cell? ⟨w.heap.size + 1 + 1 + 1 + 1 + 1, 2, none⟩ = some (.int .i64 (r 1)) ∧ W.cell? ⟨w.heap.size + 1 + 1 + 1 + 1 + 1, 3, none⟩ = some (.int .i64 (r 2)) ∧ W.cell? ⟨w.heap.size + 1 + 1 + 1 + 1 + 1, 4, none⟩ = some (.int .i64 (r 3)) ∧ W.cell? ⟨w.heap.size + 1 + 1 + 1 + 1 + 1, 5, none⟩ = some (.int .i64 (r 4)) ∧ W.cell? ⟨w.heap.size + 1 + 1 + 1 + 1 + 1, 6, none⟩ = some (.int .i64 (r 5)) ∧ W.cell? ⟨w.heap.size + 1 + 1 + 1 + 1 + 1, 7, none⟩ = some (.int .i64 (r 6)) ∧ W.cell? ⟨w.heap.size + 1 + 1 + 1 + 1 + 1, 8, none⟩ = some (.int .i64 (r 7)) ∧ W.cell? ⟨w.heap.size + 1 + 1 + 1 + 1 + 1, 9, none⟩ = some (.int .i64 md)) ∧ (W.cell? ⟨w.heap.size + 1 + 1 + 1 + 1 + 1 + 1, 0, none⟩ = some (.int .i64 a) ∧ W.cell? ⟨w.heap.size + 1 + 1 + 1 + 1 + 1 + 1, 1, none⟩ = some (.int .i64 b) ∧ W.cell? ⟨w.heap.size + 1 + 1 + 1 + 1 + 1 + 1, 2, none⟩ = some (.int .i64 c) ∧ W.cell? ⟨w.heap.size + 1 + 1 + 1 + 1 + 1 + 1, 3, none⟩ = some (.int .i64 d)) := by
  have h1 := h.tb
  have h2 := h.ob
  refine ⟨⟨h1.cell 0, h1.cell 1, h1.cell 2, h1.cell 3, h1.cell 4, h1.cell 5, h1.cell 6, h1.cell 7, h1.cell 8, h1.cell 9⟩, ⟨h2.cell 0, h2.cell 1, h2.cell 2, h2.cell 3⟩⟩
theorem Cu.Dw.args {w W : World} {m : Nat} {base size : Int} {RS RO T O : Array Value} {pc md k x n : Int} {r : Nat → Int} {row : Option Nat} (h : Cu.Dw w W m base size (Cu.stC pc r md) (Cu.inC k x n) RS RO T O row) : (W.cell? ⟨w.heap.size, 0, none⟩ = some (.pointer (some ⟨m, 0, none⟩)) ∧ W.cell? ⟨w.heap.size, 1, none⟩ = some (.int .i64 base) ∧ W.cell? ⟨w.heap.size, 2, none⟩ = some (.int .i64 size)) ∧ (W.cell? ⟨w.heap.size + 1, 0, none⟩ = some (.int .i64 pc) ∧ W.cell? ⟨w.heap.size + 1, 1, none⟩ = some (.int .i64 (r 0)) ∧ W.cell? ⟨w.heap.size + 1, 2, none⟩ = some (.int .i64 (r 1)) ∧ W.cell? ⟨w.heap.size + 1, 3, none⟩ = some (.int .i64 (r 2)) ∧ W.cell? ⟨w.heap.size + 1, 4, none⟩ = some (.int .i64 (r 3)) ∧ W.cell? ⟨w.heap.size + 1, 5, none⟩ = some (.int .i64 (r 4)) ∧ W.cell? ⟨w.heap.size + 1, 6, none⟩ = some (.int .i64 (r 5)) ∧ W.cell? ⟨w.heap.size + 1, 7, none⟩ = some (.int .i64 (r 6)) ∧ W.cell? ⟨w.heap.size + 1, 8, none⟩ = some (.int .i64 (r 7)) ∧ W.cell? ⟨w.heap.size + 1, 9, none⟩ = some (.int .i64 md)) ∧ (W.cell? ⟨w.heap.size + 1 + 1, 0, none⟩ = some (.int .u8 k) ∧ W.cell? ⟨w.heap.size + 1 + 1, 1, none⟩ = some (.int .i64 x) ∧ W.cell? ⟨w.heap.size + 1 + 1, 2, none⟩ = some (.int .i64 n)) := by
  have h0 := h.vb
  have h1 := h.sb
  have h2 := h.ib
  exact ⟨⟨h0.cell 0, h0.cell 1, h0.cell 2⟩, ⟨h1.cell 0, h1.cell 1, h1.cell 2, h1.cell 3, h1.cell 4, h1.cell 5, h1.cell 6, h1.cell 7, h1.cell 8, h1.cell 9⟩, ⟨h2.cell 0, h2.cell 1, h2.cell 2⟩⟩
theorem Cu.Dw.reg {w W : World} {m : Nat} {base size : Int} {I RS RO T O : Array Value} {pc md : Int} {r : Nat → Int} {row : Option Nat} (h : Cu.Dw w W m base size (Cu.stC pc r md) I RS RO T O row) (x : Nat) (hx : x < 8) : W.cell? ⟨w.heap.size + 1, 1 + x, none⟩ = some (.int .i64 (r x)) := (Cu.st_cells h.sb).2.2 x hx
theorem Cu.Dw.free {w W : World} {m : Nat} {base size : Int} {S I T O : Array Value} {row : Option Nat} (h : Cu.Dw w W m base size S I #[.int .i64 0, .int .i64 0, .int .i64 0, .int .i64 0, .int .i64 0, .int .i64 0, .int .i64 0, .int .i64 0, .int .i64 0, .int .i64 0] #[.int .i64 0, .int .i64 0, .int .i64 0, .int .i64 0] T O row) : (W.cell? ⟨w.heap.size + 1 + 1 + 1, 0, none⟩ = some (.int .i64 0) ∧ W.cell? ⟨w.heap.size + 1 + 1 + 1, 1, none⟩ = some (.int .i64 0) ∧ W.cell? ⟨w.heap.size + 1 + 1 + 1, 2, none⟩ = some (.int .i64 0) ∧ W.cell? ⟨w.heap.size + 1 + 1 + 1, 3, none⟩ = some (.int .i64 0) ∧ W.cell? ⟨w.heap.size + 1 + 1 + 1, 4, none⟩ = some (.int .i64 0) ∧ W.cell? ⟨w.heap.size + 1 + 1 + 1, 5, none⟩ = some (.int .i64 0) ∧ W.cell? ⟨w.heap.size + 1 + 1 + 1, 6, none⟩ = some (.int .i64 0) ∧ W.cell? ⟨w.heap.size + 1 + 1 + 1, 7, none⟩ = some (.int .i64 0) ∧ W.cell? ⟨w.heap.size + 1 + 1 + 1, 8, none⟩ = some (.int .i64 0) ∧ W.cell? ⟨w.heap.size + 1 + 1 + 1, 9, none⟩ = some (.int .i64 0)) ∧ (W.cell? ⟨w.heap.size + 1 + 1 + 1 + 1, 0, none⟩ = some (.int .i64 0) ∧ W.cell? ⟨w.heap.size + 1 + 1 + 1 + 1, 1, none⟩ = some (.int .i64 0) ∧ W.cell? ⟨w.heap.size + 1 + 1 + 1 + 1, 2, none⟩ = some (.int .i64 0) ∧ W.cell? ⟨w.heap.size + 1 + 1 + 1 + 1, 3, none⟩ = some (.int .i64 0)) ∧ (W.frozen? ⟨w.heap.size + 1 + 1 + 1, 0, none⟩ = false ∧ W.frozen? ⟨w.heap.size + 1 + 1 + 1, 1, none⟩ = false ∧ W.frozen? ⟨w.heap.size + 1 + 1 + 1, 2, none⟩ = false ∧ W.frozen? ⟨w.heap.size + 1 + 1 + 1, 3, none⟩ = false ∧ W.frozen? ⟨w.heap.size + 1 + 1 + 1, 4, none⟩ = false ∧ W.frozen? ⟨w.heap.size + 1 + 1 + 1, 5, none⟩ = false ∧ W.frozen? ⟨w.heap.size + 1 + 1 + 1, 6, none⟩ = false ∧ W.frozen? ⟨w.heap.size + 1 + 1 + 1, 7, none⟩ = false ∧ W.frozen? ⟨w.heap.size + 1 + 1 + 1, 8, none⟩ = false ∧ W.frozen? ⟨w.heap.size + 1 + 1 + 1, 9, none⟩ = false) ∧ (W.frozen? ⟨w.heap.size + 1 + 1 + 1 + 1, 0, none⟩ = false ∧ W.frozen? ⟨w.heap.size + 1 + 1 + 1 + 1, 1, none⟩ = false ∧ W.frozen? ⟨w.heap.size + 1 + 1 + 1 + 1, 2, none⟩ = false ∧ W.frozen? ⟨w.heap.size + 1 + 1 + 1 + 1, 3, none⟩ = false) := by
  have h1 := h.rs
  have h2 := h.ro
  exact ⟨⟨h1.cell 0, h1.cell 1, h1.cell 2, h1.cell 3, h1.cell 4, h1.cell 5, h1.cell 6, h1.cell 7, h1.cell 8, h1.cell 9⟩, ⟨h2.cell 0, h2.cell 1, h2.cell 2, h2.cell 3⟩, ⟨h1.free 0, h1.free 1, h1.free 2, h1.free 3, h1.free 4, h1.free 5, h1.free 6, h1.free 7, h1.free 8, h1.free 9⟩, ⟨h2.free 0, h2.free 1, h2.free 2, h2.free 3⟩⟩
theorem Cu.andl {a b c d : Prop} (h : a ∧ b ∧ c) (k : d) : a ∧ b ∧ c ∧ d := ⟨h.1, h.2.1, h.2.2, k⟩
theorem Cu.below_put {n : Nat} {W W' : World} (g : Below n W W') {p : Addr} (hp : n ≤ p.block) (v : Value) : Below n W (W'.setCell p v) :=
  ⟨g.os, g.tape, g.output, by simpa using g.size, fun k hk => (Below.heap_setCell W' p v k (by rintro rfl; omega)).trans (g.block k hk)⟩
theorem MemG.keep {W W' : World} {B m g n : Nat} {l : List UInt8} (h : MemG W B m g l) (hb : Below n W W') (hm : m < n) (hg : g < n) : MemG W' B m g l := ⟨h.1, h.2.1, h.2.2.1.below hb hm, h.2.2.2.below hb hg⟩
theorem Cu.Dw.fin {w W : World} {m : Nat} {base size : Int} {S I T O : Array Value} {row : Option Nat} (h : Cu.Dw w W m base size S I #[.int .i64 0, .int .i64 0, .int .i64 0, .int .i64 0, .int .i64 0, .int .i64 0, .int .i64 0, .int .i64 0, .int .i64 0, .int .i64 0] #[.int .i64 0, .int .i64 0, .int .i64 0, .int .i64 0] T O row) (p0 p1 p2 p3 p4 p5 p6 p7 p8 p9 q0 q1 q2 q3 : Value) : ∀ W', W' = ((((((((((((((W.setCell ⟨w.heap.size + 1 + 1 + 1, 0, none⟩ p0).setCell ⟨w.heap.size + 1 + 1 + 1, 1, none⟩ p1).setCell ⟨w.heap.size + 1 + 1 + 1, 2, none⟩ p2).setCell ⟨w.heap.size + 1 + 1 + 1, 3, none⟩ p3).setCell ⟨w.heap.size + 1 + 1 + 1, 4, none⟩ p4).setCell ⟨w.heap.size + 1 + 1 + 1, 5, none⟩ p5).setCell ⟨w.heap.size + 1 + 1 + 1, 6, none⟩ p6).setCell ⟨w.heap.size + 1 + 1 + 1, 7, none⟩ p7).setCell ⟨w.heap.size + 1 + 1 + 1, 8, none⟩ p8).setCell ⟨w.heap.size + 1 + 1 + 1, 9, none⟩ p9).setCell ⟨w.heap.size + 1 + 1 + 1 + 1, 0, none⟩ q0).setCell ⟨w.heap.size + 1 + 1 + 1 + 1, 1, none⟩ q1).setCell ⟨w.heap.size + 1 + 1 + 1 + 1, 2, none⟩ q2).setCell ⟨w.heap.size + 1 + 1 + 1 + 1, 3, none⟩ q3).drew → (W'.cell? ⟨w.heap.size + 1 + 1 + 1, 0, none⟩ = some p0 ∧ W'.cell? ⟨w.heap.size + 1 + 1 + 1, 1, none⟩ = some p1 ∧ W'.cell? ⟨w.heap.size + 1 + 1 + 1, 2, none⟩ = some p2 ∧ W'.cell? ⟨w.heap.size + 1 + 1 + 1, 3, none⟩ = some p3 ∧ W'.cell? ⟨w.heap.size + 1 + 1 + 1, 4, none⟩ = some p4 ∧ W'.cell? ⟨w.heap.size + 1 + 1 + 1, 5, none⟩ = some p5 ∧ W'.cell? ⟨w.heap.size + 1 + 1 + 1, 6, none⟩ = some p6 ∧ W'.cell? ⟨w.heap.size + 1 + 1 + 1, 7, none⟩ = some p7 ∧ W'.cell? ⟨w.heap.size + 1 + 1 + 1, 8, none⟩ = some p8 ∧ W'.cell? ⟨w.heap.size + 1 + 1 + 1, 9, none⟩ = some p9) ∧ (W'.cell? ⟨w.heap.size + 1 + 1 + 1 + 1, 0, none⟩ = some q0 ∧ W'.cell? ⟨w.heap.size + 1 + 1 + 1 + 1, 1, none⟩ = some q1 ∧ W'.cell? ⟨w.heap.size + 1 + 1 + 1 + 1, 2, none⟩ = some q2 ∧ W'.cell? ⟨w.heap.size + 1 + 1 + 1 + 1, 3, none⟩ = some q3) ∧ Below w.heap.size W W' ∧ w.grownBy W' row := by
  rintro W' rfl
  have br := ((((((((((((((h.rs.put 0 p0).put 1 p1).put 2 p2).put 3 p3).put 4 p4).put 5 p5).put 6 p6).put 7 p7).put 8 p8).put 9 p9).far (p := ⟨w.heap.size + 1 + 1 + 1 + 1, 0, none⟩) (by first | (simp; done) | (simp; omega) | omega) q0).far (p := ⟨w.heap.size + 1 + 1 + 1 + 1, 1, none⟩) (by first | (simp; done) | (simp; omega) | omega) q1).far (p := ⟨w.heap.size + 1 + 1 + 1 + 1, 2, none⟩) (by first | (simp; done) | (simp; omega) | omega) q2).far (p := ⟨w.heap.size + 1 + 1 + 1 + 1, 3, none⟩) (by first | (simp; done) | (simp; omega) | omega) q3)
  have bo := ((((((((((((((h.ro.far (p := ⟨w.heap.size + 1 + 1 + 1, 0, none⟩) (by first | (simp; done) | (simp; omega) | omega) p0).far (p := ⟨w.heap.size + 1 + 1 + 1, 1, none⟩) (by first | (simp; done) | (simp; omega) | omega) p1).far (p := ⟨w.heap.size + 1 + 1 + 1, 2, none⟩) (by first | (simp; done) | (simp; omega) | omega) p2).far (p := ⟨w.heap.size + 1 + 1 + 1, 3, none⟩) (by first | (simp; done) | (simp; omega) | omega) p3).far (p := ⟨w.heap.size + 1 + 1 + 1, 4, none⟩) (by first | (simp; done) | (simp; omega) | omega) p4).far (p := ⟨w.heap.size + 1 + 1 + 1, 5, none⟩) (by first | (simp; done) | (simp; omega) | omega) p5).far (p := ⟨w.heap.size + 1 + 1 + 1, 6, none⟩) (by first | (simp; done) | (simp; omega) | omega) p6).far (p := ⟨w.heap.size + 1 + 1 + 1, 7, none⟩) (by first | (simp; done) | (simp; omega) | omega) p7).far (p := ⟨w.heap.size + 1 + 1 + 1, 8, none⟩) (by first | (simp; done) | (simp; omega) | omega) p8).far (p := ⟨w.heap.size + 1 + 1 + 1, 9, none⟩) (by first | (simp; done) | (simp; omega) | omega) p9).put 0 q0).put 1 q1).put 2 q2).put 3 q3)
  have gr : w.grownBy ((((((((((((((W.setCell ⟨w.heap.size + 1 + 1 + 1, 0, none⟩ p0).setCell ⟨w.heap.size + 1 + 1 + 1, 1, none⟩ p1).setCell ⟨w.heap.size + 1 + 1 + 1, 2, none⟩ p2).setCell ⟨w.heap.size + 1 + 1 + 1, 3, none⟩ p3).setCell ⟨w.heap.size + 1 + 1 + 1, 4, none⟩ p4).setCell ⟨w.heap.size + 1 + 1 + 1, 5, none⟩ p5).setCell ⟨w.heap.size + 1 + 1 + 1, 6, none⟩ p6).setCell ⟨w.heap.size + 1 + 1 + 1, 7, none⟩ p7).setCell ⟨w.heap.size + 1 + 1 + 1, 8, none⟩ p8).setCell ⟨w.heap.size + 1 + 1 + 1, 9, none⟩ p9).setCell ⟨w.heap.size + 1 + 1 + 1 + 1, 0, none⟩ q0).setCell ⟨w.heap.size + 1 + 1 + 1 + 1, 1, none⟩ q1).setCell ⟨w.heap.size + 1 + 1 + 1 + 1, 2, none⟩ q2).setCell ⟨w.heap.size + 1 + 1 + 1 + 1, 3, none⟩ q3) row := (only_putc (only_putc (only_putc (only_putc (only_putc (only_putc (only_putc (only_putc (only_putc (only_putc (only_putc (only_putc (only_putc (only_putc h.grow (p := ⟨w.heap.size + 1 + 1 + 1, 0, none⟩) (by first | (simp; done) | (simp; omega) | omega) p0) (p := ⟨w.heap.size + 1 + 1 + 1, 1, none⟩) (by first | (simp; done) | (simp; omega) | omega) p1) (p := ⟨w.heap.size + 1 + 1 + 1, 2, none⟩) (by first | (simp; done) | (simp; omega) | omega) p2) (p := ⟨w.heap.size + 1 + 1 + 1, 3, none⟩) (by first | (simp; done) | (simp; omega) | omega) p3) (p := ⟨w.heap.size + 1 + 1 + 1, 4, none⟩) (by first | (simp; done) | (simp; omega) | omega) p4) (p := ⟨w.heap.size + 1 + 1 + 1, 5, none⟩) (by first | (simp; done) | (simp; omega) | omega) p5) (p := ⟨w.heap.size + 1 + 1 + 1, 6, none⟩) (by first | (simp; done) | (simp; omega) | omega) p6) (p := ⟨w.heap.size + 1 + 1 + 1, 7, none⟩) (by first | (simp; done) | (simp; omega) | omega) p7) (p := ⟨w.heap.size + 1 + 1 + 1, 8, none⟩) (by first | (simp; done) | (simp; omega) | omega) p8) (p := ⟨w.heap.size + 1 + 1 + 1, 9, none⟩) (by first | (simp; done) | (simp; omega) | omega) p9) (p := ⟨w.heap.size + 1 + 1 + 1 + 1, 0, none⟩) (by first | (simp; done) | (simp; omega) | omega) q0) (p := ⟨w.heap.size + 1 + 1 + 1 + 1, 1, none⟩) (by first | (simp; done) | (simp; omega) | omega) q1) (p := ⟨w.heap.size + 1 + 1 + 1 + 1, 2, none⟩) (by first | (simp; done) | (simp; omega) | omega) q2) (p := ⟨w.heap.size + 1 + 1 + 1 + 1, 3, none⟩) (by first | (simp; done) | (simp; omega) | omega) q3)
  have gb : Below w.heap.size W ((((((((((((((W.setCell ⟨w.heap.size + 1 + 1 + 1, 0, none⟩ p0).setCell ⟨w.heap.size + 1 + 1 + 1, 1, none⟩ p1).setCell ⟨w.heap.size + 1 + 1 + 1, 2, none⟩ p2).setCell ⟨w.heap.size + 1 + 1 + 1, 3, none⟩ p3).setCell ⟨w.heap.size + 1 + 1 + 1, 4, none⟩ p4).setCell ⟨w.heap.size + 1 + 1 + 1, 5, none⟩ p5).setCell ⟨w.heap.size + 1 + 1 + 1, 6, none⟩ p6).setCell ⟨w.heap.size + 1 + 1 + 1, 7, none⟩ p7).setCell ⟨w.heap.size + 1 + 1 + 1, 8, none⟩ p8).setCell ⟨w.heap.size + 1 + 1 + 1, 9, none⟩ p9).setCell ⟨w.heap.size + 1 + 1 + 1 + 1, 0, none⟩ q0).setCell ⟨w.heap.size + 1 + 1 + 1 + 1, 1, none⟩ q1).setCell ⟨w.heap.size + 1 + 1 + 1 + 1, 2, none⟩ q2).setCell ⟨w.heap.size + 1 + 1 + 1 + 1, 3, none⟩ q3) := (Cu.below_put (Cu.below_put (Cu.below_put (Cu.below_put (Cu.below_put (Cu.below_put (Cu.below_put (Cu.below_put (Cu.below_put (Cu.below_put (Cu.below_put (Cu.below_put (Cu.below_put (Cu.below_put (Below.refl w.heap.size W) (p := ⟨w.heap.size + 1 + 1 + 1, 0, none⟩) (by first | (simp; done) | (simp; omega) | omega) p0) (p := ⟨w.heap.size + 1 + 1 + 1, 1, none⟩) (by first | (simp; done) | (simp; omega) | omega) p1) (p := ⟨w.heap.size + 1 + 1 + 1, 2, none⟩) (by first | (simp; done) | (simp; omega) | omega) p2) (p := ⟨w.heap.size + 1 + 1 + 1, 3, none⟩) (by first | (simp; done) | (simp; omega) | omega) p3) (p := ⟨w.heap.size + 1 + 1 + 1, 4, none⟩) (by first | (simp; done) | (simp; omega) | omega) p4) (p := ⟨w.heap.size + 1 + 1 + 1, 5, none⟩) (by first | (simp; done) | (simp; omega) | omega) p5) (p := ⟨w.heap.size + 1 + 1 + 1, 6, none⟩) (by first | (simp; done) | (simp; omega) | omega) p6) (p := ⟨w.heap.size + 1 + 1 + 1, 7, none⟩) (by first | (simp; done) | (simp; omega) | omega) p7) (p := ⟨w.heap.size + 1 + 1 + 1, 8, none⟩) (by first | (simp; done) | (simp; omega) | omega) p8) (p := ⟨w.heap.size + 1 + 1 + 1, 9, none⟩) (by first | (simp; done) | (simp; omega) | omega) p9) (p := ⟨w.heap.size + 1 + 1 + 1 + 1, 0, none⟩) (by first | (simp; done) | (simp; omega) | omega) q0) (p := ⟨w.heap.size + 1 + 1 + 1 + 1, 1, none⟩) (by first | (simp; done) | (simp; omega) | omega) q1) (p := ⟨w.heap.size + 1 + 1 + 1 + 1, 2, none⟩) (by first | (simp; done) | (simp; omega) | omega) q2) (p := ⟨w.heap.size + 1 + 1 + 1 + 1, 3, none⟩) (by first | (simp; done) | (simp; omega) | omega) q3)
  simp only [List.setIfInBounds_toArray, List.set_cons_zero, List.set_cons_succ] at br bo
  generalize ((((((((((((((W.setCell ⟨w.heap.size + 1 + 1 + 1, 0, none⟩ p0).setCell ⟨w.heap.size + 1 + 1 + 1, 1, none⟩ p1).setCell ⟨w.heap.size + 1 + 1 + 1, 2, none⟩ p2).setCell ⟨w.heap.size + 1 + 1 + 1, 3, none⟩ p3).setCell ⟨w.heap.size + 1 + 1 + 1, 4, none⟩ p4).setCell ⟨w.heap.size + 1 + 1 + 1, 5, none⟩ p5).setCell ⟨w.heap.size + 1 + 1 + 1, 6, none⟩ p6).setCell ⟨w.heap.size + 1 + 1 + 1, 7, none⟩ p7).setCell ⟨w.heap.size + 1 + 1 + 1, 8, none⟩ p8).setCell ⟨w.heap.size + 1 + 1 + 1, 9, none⟩ p9).setCell ⟨w.heap.size + 1 + 1 + 1 + 1, 0, none⟩ q0).setCell ⟨w.heap.size + 1 + 1 + 1 + 1, 1, none⟩ q1).setCell ⟨w.heap.size + 1 + 1 + 1 + 1, 2, none⟩ q2).setCell ⟨w.heap.size + 1 + 1 + 1 + 1, 3, none⟩ q3) = X at br bo gr gb ⊢
  exact ⟨⟨br.cell 0, br.cell 1, br.cell 2, br.cell 3, br.cell 4, br.cell 5, br.cell 6, br.cell 7, br.cell 8, br.cell 9⟩, ⟨bo.cell 0, bo.cell 1, bo.cell 2, bo.cell 3⟩, below_drewN gb 1, only_drewN gr 1⟩
theorem Cu.Dw.fin0 {w W : World} {m : Nat} {base size : Int} {S I T O : Array Value} {row : Option Nat} (h : Cu.Dw w W m base size S I #[.int .i64 0, .int .i64 0, .int .i64 0, .int .i64 0, .int .i64 0, .int .i64 0, .int .i64 0, .int .i64 0, .int .i64 0, .int .i64 0] #[.int .i64 0, .int .i64 0, .int .i64 0, .int .i64 0] T O row) (p0 p1 p2 p3 p4 p5 p6 p7 p8 p9 q0 q1 q2 q3 : Value) : ∀ W', W' = ((((((((((((((W.setCell ⟨w.heap.size + 1 + 1 + 1, 0, none⟩ p0).setCell ⟨w.heap.size + 1 + 1 + 1, 1, none⟩ p1).setCell ⟨w.heap.size + 1 + 1 + 1, 2, none⟩ p2).setCell ⟨w.heap.size + 1 + 1 + 1, 3, none⟩ p3).setCell ⟨w.heap.size + 1 + 1 + 1, 4, none⟩ p4).setCell ⟨w.heap.size + 1 + 1 + 1, 5, none⟩ p5).setCell ⟨w.heap.size + 1 + 1 + 1, 6, none⟩ p6).setCell ⟨w.heap.size + 1 + 1 + 1, 7, none⟩ p7).setCell ⟨w.heap.size + 1 + 1 + 1, 8, none⟩ p8).setCell ⟨w.heap.size + 1 + 1 + 1, 9, none⟩ p9).setCell ⟨w.heap.size + 1 + 1 + 1 + 1, 0, none⟩ q0).setCell ⟨w.heap.size + 1 + 1 + 1 + 1, 1, none⟩ q1).setCell ⟨w.heap.size + 1 + 1 + 1 + 1, 2, none⟩ q2).setCell ⟨w.heap.size + 1 + 1 + 1 + 1, 3, none⟩ q3) → (W'.cell? ⟨w.heap.size + 1 + 1 + 1, 0, none⟩ = some p0 ∧ W'.cell? ⟨w.heap.size + 1 + 1 + 1, 1, none⟩ = some p1 ∧ W'.cell? ⟨w.heap.size + 1 + 1 + 1, 2, none⟩ = some p2 ∧ W'.cell? ⟨w.heap.size + 1 + 1 + 1, 3, none⟩ = some p3 ∧ W'.cell? ⟨w.heap.size + 1 + 1 + 1, 4, none⟩ = some p4 ∧ W'.cell? ⟨w.heap.size + 1 + 1 + 1, 5, none⟩ = some p5 ∧ W'.cell? ⟨w.heap.size + 1 + 1 + 1, 6, none⟩ = some p6 ∧ W'.cell? ⟨w.heap.size + 1 + 1 + 1, 7, none⟩ = some p7 ∧ W'.cell? ⟨w.heap.size + 1 + 1 + 1, 8, none⟩ = some p8 ∧ W'.cell? ⟨w.heap.size + 1 + 1 + 1, 9, none⟩ = some p9) ∧ (W'.cell? ⟨w.heap.size + 1 + 1 + 1 + 1, 0, none⟩ = some q0 ∧ W'.cell? ⟨w.heap.size + 1 + 1 + 1 + 1, 1, none⟩ = some q1 ∧ W'.cell? ⟨w.heap.size + 1 + 1 + 1 + 1, 2, none⟩ = some q2 ∧ W'.cell? ⟨w.heap.size + 1 + 1 + 1 + 1, 3, none⟩ = some q3) ∧ Below w.heap.size W W' ∧ w.grownBy W' row := by
  rintro W' rfl
  have br := ((((((((((((((h.rs.put 0 p0).put 1 p1).put 2 p2).put 3 p3).put 4 p4).put 5 p5).put 6 p6).put 7 p7).put 8 p8).put 9 p9).far (p := ⟨w.heap.size + 1 + 1 + 1 + 1, 0, none⟩) (by first | (simp; done) | (simp; omega) | omega) q0).far (p := ⟨w.heap.size + 1 + 1 + 1 + 1, 1, none⟩) (by first | (simp; done) | (simp; omega) | omega) q1).far (p := ⟨w.heap.size + 1 + 1 + 1 + 1, 2, none⟩) (by first | (simp; done) | (simp; omega) | omega) q2).far (p := ⟨w.heap.size + 1 + 1 + 1 + 1, 3, none⟩) (by first | (simp; done) | (simp; omega) | omega) q3)
  have bo := ((((((((((((((h.ro.far (p := ⟨w.heap.size + 1 + 1 + 1, 0, none⟩) (by first | (simp; done) | (simp; omega) | omega) p0).far (p := ⟨w.heap.size + 1 + 1 + 1, 1, none⟩) (by first | (simp; done) | (simp; omega) | omega) p1).far (p := ⟨w.heap.size + 1 + 1 + 1, 2, none⟩) (by first | (simp; done) | (simp; omega) | omega) p2).far (p := ⟨w.heap.size + 1 + 1 + 1, 3, none⟩) (by first | (simp; done) | (simp; omega) | omega) p3).far (p := ⟨w.heap.size + 1 + 1 + 1, 4, none⟩) (by first | (simp; done) | (simp; omega) | omega) p4).far (p := ⟨w.heap.size + 1 + 1 + 1, 5, none⟩) (by first | (simp; done) | (simp; omega) | omega) p5).far (p := ⟨w.heap.size + 1 + 1 + 1, 6, none⟩) (by first | (simp; done) | (simp; omega) | omega) p6).far (p := ⟨w.heap.size + 1 + 1 + 1, 7, none⟩) (by first | (simp; done) | (simp; omega) | omega) p7).far (p := ⟨w.heap.size + 1 + 1 + 1, 8, none⟩) (by first | (simp; done) | (simp; omega) | omega) p8).far (p := ⟨w.heap.size + 1 + 1 + 1, 9, none⟩) (by first | (simp; done) | (simp; omega) | omega) p9).put 0 q0).put 1 q1).put 2 q2).put 3 q3)
  have gr : w.grownBy ((((((((((((((W.setCell ⟨w.heap.size + 1 + 1 + 1, 0, none⟩ p0).setCell ⟨w.heap.size + 1 + 1 + 1, 1, none⟩ p1).setCell ⟨w.heap.size + 1 + 1 + 1, 2, none⟩ p2).setCell ⟨w.heap.size + 1 + 1 + 1, 3, none⟩ p3).setCell ⟨w.heap.size + 1 + 1 + 1, 4, none⟩ p4).setCell ⟨w.heap.size + 1 + 1 + 1, 5, none⟩ p5).setCell ⟨w.heap.size + 1 + 1 + 1, 6, none⟩ p6).setCell ⟨w.heap.size + 1 + 1 + 1, 7, none⟩ p7).setCell ⟨w.heap.size + 1 + 1 + 1, 8, none⟩ p8).setCell ⟨w.heap.size + 1 + 1 + 1, 9, none⟩ p9).setCell ⟨w.heap.size + 1 + 1 + 1 + 1, 0, none⟩ q0).setCell ⟨w.heap.size + 1 + 1 + 1 + 1, 1, none⟩ q1).setCell ⟨w.heap.size + 1 + 1 + 1 + 1, 2, none⟩ q2).setCell ⟨w.heap.size + 1 + 1 + 1 + 1, 3, none⟩ q3) row := (only_putc (only_putc (only_putc (only_putc (only_putc (only_putc (only_putc (only_putc (only_putc (only_putc (only_putc (only_putc (only_putc (only_putc h.grow (p := ⟨w.heap.size + 1 + 1 + 1, 0, none⟩) (by first | (simp; done) | (simp; omega) | omega) p0) (p := ⟨w.heap.size + 1 + 1 + 1, 1, none⟩) (by first | (simp; done) | (simp; omega) | omega) p1) (p := ⟨w.heap.size + 1 + 1 + 1, 2, none⟩) (by first | (simp; done) | (simp; omega) | omega) p2) (p := ⟨w.heap.size + 1 + 1 + 1, 3, none⟩) (by first | (simp; done) | (simp; omega) | omega) p3) (p := ⟨w.heap.size + 1 + 1 + 1, 4, none⟩) (by first | (simp; done) | (simp; omega) | omega) p4) (p := ⟨w.heap.size + 1 + 1 + 1, 5, none⟩) (by first | (simp; done) | (simp; omega) | omega) p5) (p := ⟨w.heap.size + 1 + 1 + 1, 6, none⟩) (by first | (simp; done) | (simp; omega) | omega) p6) (p := ⟨w.heap.size + 1 + 1 + 1, 7, none⟩) (by first | (simp; done) | (simp; omega) | omega) p7) (p := ⟨w.heap.size + 1 + 1 + 1, 8, none⟩) (by first | (simp; done) | (simp; omega) | omega) p8) (p := ⟨w.heap.size + 1 + 1 + 1, 9, none⟩) (by first | (simp; done) | (simp; omega) | omega) p9) (p := ⟨w.heap.size + 1 + 1 + 1 + 1, 0, none⟩) (by first | (simp; done) | (simp; omega) | omega) q0) (p := ⟨w.heap.size + 1 + 1 + 1 + 1, 1, none⟩) (by first | (simp; done) | (simp; omega) | omega) q1) (p := ⟨w.heap.size + 1 + 1 + 1 + 1, 2, none⟩) (by first | (simp; done) | (simp; omega) | omega) q2) (p := ⟨w.heap.size + 1 + 1 + 1 + 1, 3, none⟩) (by first | (simp; done) | (simp; omega) | omega) q3)
  have gb : Below w.heap.size W ((((((((((((((W.setCell ⟨w.heap.size + 1 + 1 + 1, 0, none⟩ p0).setCell ⟨w.heap.size + 1 + 1 + 1, 1, none⟩ p1).setCell ⟨w.heap.size + 1 + 1 + 1, 2, none⟩ p2).setCell ⟨w.heap.size + 1 + 1 + 1, 3, none⟩ p3).setCell ⟨w.heap.size + 1 + 1 + 1, 4, none⟩ p4).setCell ⟨w.heap.size + 1 + 1 + 1, 5, none⟩ p5).setCell ⟨w.heap.size + 1 + 1 + 1, 6, none⟩ p6).setCell ⟨w.heap.size + 1 + 1 + 1, 7, none⟩ p7).setCell ⟨w.heap.size + 1 + 1 + 1, 8, none⟩ p8).setCell ⟨w.heap.size + 1 + 1 + 1, 9, none⟩ p9).setCell ⟨w.heap.size + 1 + 1 + 1 + 1, 0, none⟩ q0).setCell ⟨w.heap.size + 1 + 1 + 1 + 1, 1, none⟩ q1).setCell ⟨w.heap.size + 1 + 1 + 1 + 1, 2, none⟩ q2).setCell ⟨w.heap.size + 1 + 1 + 1 + 1, 3, none⟩ q3) := (Cu.below_put (Cu.below_put (Cu.below_put (Cu.below_put (Cu.below_put (Cu.below_put (Cu.below_put (Cu.below_put (Cu.below_put (Cu.below_put (Cu.below_put (Cu.below_put (Cu.below_put (Cu.below_put (Below.refl w.heap.size W) (p := ⟨w.heap.size + 1 + 1 + 1, 0, none⟩) (by first | (simp; done) | (simp; omega) | omega) p0) (p := ⟨w.heap.size + 1 + 1 + 1, 1, none⟩) (by first | (simp; done) | (simp; omega) | omega) p1) (p := ⟨w.heap.size + 1 + 1 + 1, 2, none⟩) (by first | (simp; done) | (simp; omega) | omega) p2) (p := ⟨w.heap.size + 1 + 1 + 1, 3, none⟩) (by first | (simp; done) | (simp; omega) | omega) p3) (p := ⟨w.heap.size + 1 + 1 + 1, 4, none⟩) (by first | (simp; done) | (simp; omega) | omega) p4) (p := ⟨w.heap.size + 1 + 1 + 1, 5, none⟩) (by first | (simp; done) | (simp; omega) | omega) p5) (p := ⟨w.heap.size + 1 + 1 + 1, 6, none⟩) (by first | (simp; done) | (simp; omega) | omega) p6) (p := ⟨w.heap.size + 1 + 1 + 1, 7, none⟩) (by first | (simp; done) | (simp; omega) | omega) p7) (p := ⟨w.heap.size + 1 + 1 + 1, 8, none⟩) (by first | (simp; done) | (simp; omega) | omega) p8) (p := ⟨w.heap.size + 1 + 1 + 1, 9, none⟩) (by first | (simp; done) | (simp; omega) | omega) p9) (p := ⟨w.heap.size + 1 + 1 + 1 + 1, 0, none⟩) (by first | (simp; done) | (simp; omega) | omega) q0) (p := ⟨w.heap.size + 1 + 1 + 1 + 1, 1, none⟩) (by first | (simp; done) | (simp; omega) | omega) q1) (p := ⟨w.heap.size + 1 + 1 + 1 + 1, 2, none⟩) (by first | (simp; done) | (simp; omega) | omega) q2) (p := ⟨w.heap.size + 1 + 1 + 1 + 1, 3, none⟩) (by first | (simp; done) | (simp; omega) | omega) q3)
  simp only [List.setIfInBounds_toArray, List.set_cons_zero, List.set_cons_succ] at br bo
  generalize ((((((((((((((W.setCell ⟨w.heap.size + 1 + 1 + 1, 0, none⟩ p0).setCell ⟨w.heap.size + 1 + 1 + 1, 1, none⟩ p1).setCell ⟨w.heap.size + 1 + 1 + 1, 2, none⟩ p2).setCell ⟨w.heap.size + 1 + 1 + 1, 3, none⟩ p3).setCell ⟨w.heap.size + 1 + 1 + 1, 4, none⟩ p4).setCell ⟨w.heap.size + 1 + 1 + 1, 5, none⟩ p5).setCell ⟨w.heap.size + 1 + 1 + 1, 6, none⟩ p6).setCell ⟨w.heap.size + 1 + 1 + 1, 7, none⟩ p7).setCell ⟨w.heap.size + 1 + 1 + 1, 8, none⟩ p8).setCell ⟨w.heap.size + 1 + 1 + 1, 9, none⟩ p9).setCell ⟨w.heap.size + 1 + 1 + 1 + 1, 0, none⟩ q0).setCell ⟨w.heap.size + 1 + 1 + 1 + 1, 1, none⟩ q1).setCell ⟨w.heap.size + 1 + 1 + 1 + 1, 2, none⟩ q2).setCell ⟨w.heap.size + 1 + 1 + 1 + 1, 3, none⟩ q3) = X at br bo gr gb ⊢
  exact ⟨⟨br.cell 0, br.cell 1, br.cell 2, br.cell 3, br.cell 4, br.cell 5, br.cell 6, br.cell 7, br.cell 8, br.cell 9⟩, ⟨bo.cell 0, bo.cell 1, bo.cell 2, bo.cell 3⟩, gb, gr⟩
end Go.Proofs.YtdlioicljpgmaaaDoor
