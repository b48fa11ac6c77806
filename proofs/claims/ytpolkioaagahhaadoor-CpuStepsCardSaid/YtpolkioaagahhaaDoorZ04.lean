import Derived.Test.YtpolkioaagahhaaDoorZ03
set_option linter.all false
/- Package cpu: do, its boxes; the arms that jump. -/
namespace Go.Proofs.YtpolkioaagahhaaDoor
open Go.RowKit Go.Lib
set_option linter.unusedVariables false
set_option maxRecDepth 8000

/-- The boxes of do. -/
def Cu.inC (k x n : Int) : Array Value := #[.int .u8 k, .int .i64 x, .int .i64 n]
def Cu.wd (w : World) (m : Nat) (base size : Int) (S I T O : Array Value) : World :=
  ((((((w.alloc (.cells #[.pointer (some ⟨m, 0, none⟩), .int .i64 base, .int .i64 size] 28)).alloc (.cells S 24)).alloc (.cells I 67)).alloc (.cells #[.int .i64 0, .int .i64 0, .int .i64 0, .int .i64 0, .int .i64 0, .int .i64 0, .int .i64 0, .int .i64 0, .int .i64 0, .int .i64 0] 24)).alloc (.cells #[.int .i64 0, .int .i64 0, .int .i64 0, .int .i64 0] 37)).alloc (.cells T 24)).alloc (.cells O 37)
structure Cu.Dw (w W : World) (m : Nat) (base size : Int) (S I RS RO T O : Array Value) (row : Option Nat) : Prop where
  vb : Blk W (w.heap.size) 28 #[.pointer (some ⟨m, 0, none⟩), .int .i64 base, .int .i64 size]
  sb : Blk W (w.heap.size + 1) 24 S
  ib : Blk W (w.heap.size + 1 + 1) 67 I
  rs : Blk W (w.heap.size + 1 + 1 + 1) 24 RS
  ro : Blk W (w.heap.size + 1 + 1 + 1 + 1) 37 RO
  tb : Blk W (w.heap.size + 1 + 1 + 1 + 1 + 1) 24 T
  ob : Blk W (w.heap.size + 1 + 1 + 1 + 1 + 1 + 1) 37 O
  grow : w.grownBy W row
theorem Cu.Dw.new (w : World) (m : Nat) (base size : Int) (S I T O : Array Value) : Cu.Dw w (Cu.wd w m base size S I T O) m base size S I #[.int .i64 0, .int .i64 0, .int .i64 0, .int .i64 0, .int .i64 0, .int .i64 0, .int .i64 0, .int .i64 0, .int .i64 0, .int .i64 0] #[.int .i64 0, .int .i64 0, .int .i64 0, .int .i64 0] T O none := by
  have b0 := Blk.new w 28 #[.pointer (some ⟨m, 0, none⟩), .int .i64 base, .int .i64 size]
  obtain ⟨w1, h1⟩ : ∃ w1, w1 = w.alloc (.cells #[.pointer (some ⟨m, 0, none⟩), .int .i64 base, .int .i64 size] 28) := ⟨_, rfl⟩
  have z1 : w1.heap.size = w.heap.size + 1 := by rw [h1]; simp
  have b1 := Blk.new w1 24 S
  obtain ⟨w2, h2⟩ : ∃ w2, w2 = w1.alloc (.cells S 24) := ⟨_, rfl⟩
  have z2 : w2.heap.size = w.heap.size + 1 + 1 := by rw [h2]; simp [z1]
  have b2 := Blk.new w2 67 I
  obtain ⟨w3, h3⟩ : ∃ w3, w3 = w2.alloc (.cells I 67) := ⟨_, rfl⟩
  have z3 : w3.heap.size = w.heap.size + 1 + 1 + 1 := by rw [h3]; simp [z2]
  have b3 := Blk.new w3 24 #[.int .i64 0, .int .i64 0, .int .i64 0, .int .i64 0, .int .i64 0, .int .i64 0, .int .i64 0, .int .i64 0, .int .i64 0, .int .i64 0]
  obtain ⟨w4, h4⟩ : ∃ w4, w4 = w3.alloc (.cells #[.int .i64 0, .int .i64 0, .int .i64 0, .int .i64 0, .int .i64 0, .int .i64 0, .int .i64 0, .int .i64 0, .int .i64 0, .int .i64 0] 24) := ⟨_, rfl⟩
  have z4 : w4.heap.size = w.heap.size + 1 + 1 + 1 + 1 := by rw [h4]; simp [z3]
  have b4 := Blk.new w4 37 #[.int .i64 0, .int .i64 0, .int .i64 0, .int .i64 0]
  obtain ⟨w5, h5⟩ : ∃ w5, w5 = w4.alloc (.cells #[.int .i64 0, .int .i64 0, .int .i64 0, .int .i64 0] 37) := ⟨_, rfl⟩
  have z5 : w5.heap.size = w.heap.size + 1 + 1 + 1 + 1 + 1 := by rw [h5]; simp [z4]
  have b5 := Blk.new w5 24 T
  obtain ⟨w6, h6⟩ : ∃ w6, w6 = w5.alloc (.cells T 24) := ⟨_, rfl⟩
  have z6 : w6.heap.size = w.heap.size + 1 + 1 + 1 + 1 + 1 + 1 := by rw [h6]; simp [z5]
  have b6 := Blk.new w6 37 O
  unfold Cu.wd
  rw [← h1] at b0 ⊢
  rw [← h2] at b1 ⊢
  rw [← h3] at b2 ⊢
  rw [← h4] at b3 ⊢
  rw [← h5] at b4 ⊢
  rw [← h6] at b5 ⊢
  have g2 : w1.grownBy w2 none := by rw [h2]; exact only_alloc (only_refl _ _) _
  have g3 : w2.grownBy w3 none := by rw [h3]; exact only_alloc (only_refl _ _) _
  have g4 : w3.grownBy w4 none := by rw [h4]; exact only_alloc (only_refl _ _) _
  have g5 : w4.grownBy w5 none := by rw [h5]; exact only_alloc (only_refl _ _) _
  have g6 : w5.grownBy w6 none := by rw [h6]; exact only_alloc (only_refl _ _) _
  have g7 : w6.grownBy (w6.alloc (.cells O 37)) none := only_alloc (only_refl _ _) _
  have f6 := only_trans g6 g7
  have f5 := only_trans g5 f6
  have f4 := only_trans g4 f5
  have f3 := only_trans g3 f4
  have f2 := only_trans g2 f3
  have f1 : w.grownBy (w6.alloc (.cells O 37)) none := only_trans (by rw [h1]; exact only_alloc (only_refl _ _) _) f2
  rw [z1] at b1
  rw [z2] at b2
  rw [z3] at b3
  rw [z4] at b4
  rw [z5] at b5
  rw [z6] at b6
  exact ⟨b0.only f2 (by simp), b1.only f3 (by simp), b2.only f4 (by simp), b3.only f5 (by simp), b4.only f6 (by simp), b5.only g7 (by simp), b6, f1⟩
section
variable {w W W' : World} {m : Nat} {base size : Int} {S I RS RO T O : Array Value} {row : Option Nat}
theorem Cu.Dw.step (h : Cu.Dw w W m base size S I RS RO T O row) (g : W.grownBy W' none) : Cu.Dw w W' m base size S I RS RO T O row :=
  ⟨h.vb.only g (by simp), h.sb.only g (by simp), h.ib.only g (by simp), h.rs.only g (by simp), h.ro.only g (by simp), h.tb.only g (by simp), h.ob.only g (by simp), only_trans h.grow (only_any g row)⟩
theorem Cu.Dw.far {g : Nat} (h : Cu.Dw w W m base size S I RS RO T O none) (hg : g < w.heap.size) (q : W.grownBy W' (some g)) : Cu.Dw w W' m base size S I RS RO T O (some g) := by
  refine ⟨h.vb.only q ?_, h.sb.only q ?_, h.ib.only q ?_, h.rs.only q ?_, h.ro.only q ?_, h.tb.only q ?_, h.ob.only q ?_, only_trans (only_any h.grow (some g)) q⟩
  all_goals
    intro e
    injection e with e
    omega
theorem Cu.Dw.putT (h : Cu.Dw w W m base size S I RS RO T O row) (i : Nat) (v : Value) : Cu.Dw w (W.setCell ⟨w.heap.size + 1 + 1 + 1 + 1 + 1, i, none⟩ v) m base size S I RS RO (T.setIfInBounds i v) O row :=
  ⟨h.vb.far (by first | (simp; done) | (simp; omega) | omega) v, h.sb.far (by first | (simp; done) | (simp; omega) | omega) v, h.ib.far (by first | (simp; done) | (simp; omega) | omega) v, h.rs.far (by first | (simp; done) | (simp; omega) | omega) v, h.ro.far (by first | (simp; done) | (simp; omega) | omega) v, h.tb.put i v, h.ob.far (by first | (simp; done) | (simp; omega) | omega) v, only_putc h.grow (p := ⟨w.heap.size + 1 + 1 + 1 + 1 + 1, i, none⟩) (by first | (simp; done) | (simp; omega) | omega) v⟩
end
theorem Cu.stC_pc (pc pc' : Int) (r : Nat → Int) (md : Int) : (Cu.stC pc r md).setIfInBounds 0 (.int .i64 pc') = Cu.stC pc' r md := rfl
def Cu.upd (r : Nat → Int) (x : Nat) (v : Int) : Nat → Int := fun i => if i = x then v else r i
theorem Cu.stC_reg (pc : Int) (r : Nat → Int) (md : Int) (x : Nat) (hx : x < 8) (v : Int) : (Cu.stC pc r md).setIfInBounds (1 + x) (.int .i64 v) = Cu.stC pc (Cu.upd r x v) md := by
  have : x = 0 ∨ x = 1 ∨ x = 2 ∨ x = 3 ∨ x = 4 ∨ x = 5 ∨ x = 6 ∨ x = 7 := by omega
  rcases this with rfl | rfl | rfl | rfl | rfl | rfl | rfl | rfl <;> rfl
theorem Cu.Dw.tail {w W : World} {m : Nat} {base size : Int} {S I RS RO : Array Value} {pc md a b c d : Int} {r : Nat → Int} {row : Option Nat} (h : Cu.Dw w W m base size S I RS RO (Cu.stC pc r md) #[.int .i64 a, .int .i64 b, .int .i64 c, .int .i64 d] row) : (W.cell? ⟨w.heap.size + 1 + 1 + 1 + 1 + 1, 0, none⟩ = some (.int .i64 pc) ∧ W.cell? ⟨w.heap.size + 1 + 1 + 1 + 1 + 1, 1, none⟩ = some (.int .i64 (r 0)) ∧ W.cell? ⟨w.heap.size + 1 + 1 + 1 + 1 + 1, 2, none⟩ = some (.int .i64 (r 1)) ∧ W.cell? ⟨w.heap.size + 1 + 1 + 1 + 1 + 1, 3, none⟩ = some (.int .i64 (r 2)) ∧ W.cell? ⟨w.heap.size + 1 + 1 + 1 + 1 + 1, 4, none⟩ = some (.int .i64 (r 3)) ∧ W.cell? ⟨w.heap.size + 1 + 1 + 1 + 1 + 1, 5, none⟩ = some (.int .i64 (r 4)) ∧ W.cell? ⟨w.heap.size + 1 + 1 + 1 + 1 + 1, 6, none⟩ = some (.int .i64 (r 5)) ∧ W.cell? ⟨w.heap.size + 1 + 1 + 1 + 1 + 1, 7, none⟩ = some (.int .i64 (r 6)) ∧ W.cell? ⟨w.heap.size + 1 + 1 + 1 + 1 + 1, 8, none⟩ = some (.int .i64 (r 7)) ∧ W.cell? ⟨w.heap.size + 1 + 1 + 1 + 1 + 1, 9, none⟩ = some (.int .i64 md)) ∧ (W.cell? ⟨w.heap.size + 1 + 1 + 1 + 1 + 1 + 1, 0, none⟩ = some (.int .i64 a) ∧ W.cell? ⟨w.heap.size + 1 + 1 + 1 + 1 + 1 + 1, 1, none⟩ = some (.int .i64 b) ∧ W.cell? ⟨w.heap.size + 1 + 1 + 1 + 1 + 1 + 1, 2, none⟩ = some (.int .i64 c) ∧ W.cell? ⟨w.heap.size + 1 + 1 + 1 + 1 + 1 + 1, 3, none⟩ = some (.int .i64 d)) := by
  have h1 := h.tb
  have h2 := h.ob
  refine ⟨⟨h1.cell 0, h1.cell 1, h1.cell 2, h1.cell 3, h1.cell 4, h1.cell 5, h1.cell 6, h1.cell 7, h1.cell 8, h1.cell 9⟩, ⟨h2.cell 0, h2.cell 1, h2.cell 2, h2.cell 3⟩⟩
theorem Cu.Dw.args {w W : World} {m : Nat} {base size : Int} {RS RO T O : Array Value} {pc md k x n : Int} {r : Nat → Int} {row : Option Nat} (h : Cu.Dw w W m base size (Cu.stC pc r md) (Cu.inC k x n) RS RO T O row) : (W.cell? ⟨w.heap.size, 0, none⟩ = some (.pointer (some ⟨m, 0, none⟩)) ∧ W.cell? ⟨w.heap.size, 1, none⟩ = some (.int .i64 base) ∧ W.cell? ⟨w.heap.size, 2, none⟩ = some (.int .i64 size)) ∧ (W.cell? ⟨w.heap.size + 1, 0, none⟩ = some (.int .i64 pc) ∧ W.cell? ⟨w.heap.size + 1, 1, none⟩ = some (.int .i64 (r 0)) ∧ W.cell? ⟨w.heap.size + 1, 2, none⟩ = some (.int .i64 (r 1)) ∧ W.cell? ⟨w.heap.size + 1, 3, none⟩ = some (.int .i64 (r 2)) ∧ W.cell? ⟨w.heap.size + 1, 4, none⟩ = some (.int .i64 (r 3)) ∧ W.cell? ⟨w.heap.size + 1, 5, none⟩ = some (.int .i64 (r 4)) ∧ W.cell? ⟨w.heap.size + 1, 6, none⟩ = some (.int .i64 (r 5)) ∧ W.cell? ⟨w.heap.size + 1, 7, none⟩ = some (.int .i64 (r 6)) ∧ W.cell? ⟨w.heap.size + 1, 8, none⟩ = some (.int .i64 (r 7)) ∧ W.cell? ⟨w.heap.size + 1, 9, none⟩ = some (.int .i64 md)) ∧ (W.cell? ⟨w.heap.size + 1 + 1, 0, none⟩ = some (.int .u8 k) ∧ W.cell? ⟨w.heap.size + 1 + 1, 1, none⟩ = some (.int .i64 x) ∧ W.cell? ⟨w.heap.size + 1 + 1, 2, none⟩ = some (.int .i64 n)) := by
  have h0 := h.vb
  have h1 := h.sb
  have h2 := h.ib
  exact ⟨⟨h0.cell 0, h0.cell 1, h0.cell 2⟩, ⟨h1.cell 0, h1.cell 1, h1.cell 2, h1.cell 3, h1.cell 4, h1.cell 5, h1.cell 6, h1.cell 7, h1.cell 8, h1.cell 9⟩, ⟨h2.cell 0, h2.cell 1, h2.cell 2⟩⟩
theorem Cu.Dw.reg {w W : World} {m : Nat} {base size : Int} {I RS RO T O : Array Value} {pc md : Int} {r : Nat → Int} {row : Option Nat} (h : Cu.Dw w W m base size (Cu.stC pc r md) I RS RO T O row) (x : Nat) (hx : x < 8) : W.cell? ⟨w.heap.size + 1, 1 + x, none⟩ = some (.int .i64 (r x)) := (Cu.st_cells h.sb).2.2 x hx
theorem Cu.Dw.free {w W : World} {m : Nat} {base size : Int} {S I T O : Array Value} {row : Option Nat} (h : Cu.Dw w W m base size S I #[.int .i64 0, .int .i64 0, .int .i64 0, .int .i64 0, .int .i64 0, .int .i64 0, .int .i64 0, .int .i64 0, .int .i64 0, .int .i64 0] #[.int .i64 0, .int .i64 0, .int .i64 0, .int .i64 0] T O row) : (W.cell? ⟨w.heap.size + 1 + 1 + 1, 0, none⟩ = some (.int .i64 0) ∧ W.cell? ⟨w.heap.size + 1 + 1 + 1, 1, none⟩ = some (.int .i64 0) ∧ W.cell? ⟨w.heap.size + 1 + 1 + 1, 2, none⟩ = some (.int .i64 0) ∧ W.cell? ⟨w.heap.size + 1 + 1 + 1, 3, none⟩ = some (.int .i64 0) ∧ W.cell? ⟨w.heap.size + 1 + 1 + 1, 4, none⟩ = some (.int .i64 0) ∧ W.cell? ⟨w.heap.size + 1 + 1 + 1, 5, none⟩ = some (.int .i64 0) ∧ W.cell? ⟨w.heap.size + 1 + 1 + 1, 6, none⟩ = some (.int .i64 0) ∧ W.cell? ⟨w.heap.size + 1 + 1 + 1, 7, none⟩ = some (.int .i64 0) ∧ W.cell? ⟨w.heap.size + 1 + 1 + 1, 8, none⟩ = some (.int .i64 0) ∧ W.cell? ⟨w.heap.size + 1 + 1 + 1, 9, none⟩ = some (.int .i64 0)) ∧ (W.cell? ⟨w.heap.size + 1 + 1 + 1 + 1, 0, none⟩ = some (.int .i64 0) ∧ W.cell? ⟨w.heap.size + 1 + 1 + 1 + 1, 1, none⟩ = some (.int .i64 0) ∧ W.cell? ⟨w.heap.size + 1 + 1 + 1 + 1, 2, none⟩ = some (.int .i64 0) ∧ W.cell? ⟨w.heap.size + 1 + 1 + 1 + 1, 3, none⟩ = some (.int .i64 0)) ∧ (W.frozen? ⟨w.heap.size + 1 + 1 + 1, 0, none⟩ = false ∧ W.frozen? ⟨w.heap.size + 1 + 1 + 1, 1, none⟩ = false ∧ W.frozen? ⟨w.heap.size + 1 + 1 + 1, 2, none⟩ = false ∧ W.frozen? ⟨w.heap.size + 1 + 1 + 1, 3, none⟩ = false ∧ W.frozen? ⟨w.heap.size + 1 + 1 + 1, 4, none⟩ = false ∧ W.frozen? ⟨w.heap.size + 1 + 1 + 1, 5, none⟩ = false ∧ W.frozen? ⟨w.heap.size + 1 + 1 + 1, 6, none⟩ = false ∧ W.frozen? ⟨w.heap.size + 1 + 1 + 1, 7, none⟩ = false ∧ W.frozen? ⟨w.heap.size + 1 + 1 + 1, 8, none⟩ = false ∧ W.frozen? ⟨w.heap.size + 1 + 1 + 1, 9, none⟩ = false) ∧ (W.frozen? ⟨w.heap.size + 1 + 1 + 1 + 1, 0, none⟩ = false ∧ W.frozen? ⟨w.heap.size + 1 + 1 + 1 + 1, 1, none⟩ = false ∧ W.frozen? ⟨w.heap.size + 1 + 1 + 1 + 1, 2, none⟩ = false ∧ W.frozen? ⟨w.heap.size + 1 + 1 + 1 + 1, 3, none⟩ = false) := by
  have h1 := h.rs
  have h2 := h.ro
  exact ⟨⟨h1.cell 0, h1.cell 1, h1.cell 2, h1.cell 3, h1.cell 4, h1.cell 5, h1.cell 6, h1.cell 7, h1.cell 8, h1.cell 9⟩, ⟨h2.cell 0, h2.cell 1, h2.cell 2, h2.cell 3⟩, ⟨h1.free 0, h1.free 1, h1.free 2, h1.free 3, h1.free 4, h1.free 5, h1.free 6, h1.free 7, h1.free 8, h1.free 9⟩, ⟨h2.free 0, h2.free 1, h2.free 2, h2.free 3⟩⟩
theorem Cu.andl {a b c d : Prop} (h : a ∧ b ∧ c) (k : d) : a ∧ b ∧ c ∧ d := ⟨h.1, h.2.1, h.2.2, k⟩
theorem Cu.below_put {n : Nat} {W W' : World} (g : Below n W W') {p : Addr} (hp : n ≤ p.block) (v : Value) : Below n W (W'.setCell p v) :=
  ⟨g.os, g.tape, g.output, by simpa using g.size, fun k hk => (Below.heap_setCell W' p v k (by rintro rfl; omega)).trans (g.block k hk)⟩
theorem MemG.keep {W W' : World} {B m g n : Nat} {l : List UInt8} (h : MemG W B m g l) (hb : Below n W W') (hm : m < n) (hg : g < n) : MemG W' B m g l := ⟨h.1, h.2.1, h.2.2.1.below hb hm, h.2.2.2.below hb hg⟩
theorem Cu.Dw.fin {w W : World} {m : Nat} {base size : Int} {S I T O : Array Value} {row : Option Nat} (h : Cu.Dw w W m base size S I #[.int .i64 0, .int .i64 0, .int .i64 0, .int .i64 0, .int .i64 0, .int .i64 0, .int .i64 0, .int .i64 0, .int .i64 0, .int .i64 0] #[.int .i64 0, .int .i64 0, .int .i64 0, .int .i64 0] T O row) (p0 p1 p2 p3 p4 p5 p6 p7 p8 p9 q0 q1 q2 q3 : Value) : ∀ W', W' = ((((((((((((((W.setCell ⟨w.heap.size + 1 + 1 + 1, 0, none⟩ p0).setCell ⟨w.heap.size + 1 + 1 + 1, 1, none⟩ p1).setCell ⟨w.heap.size + 1 + 1 + 1, 2, none⟩ p2).setCell ⟨w.heap.size + 1 + 1 + 1, 3, none⟩ p3).setCell ⟨w.heap.size + 1 + 1 + 1, 4, none⟩ p4).setCell ⟨w.heap.size + 1 + 1 + 1, 5, none⟩ p5).setCell ⟨w.heap.size + 1 + 1 + 1, 6, none⟩ p6).setCell ⟨w.heap.size + 1 + 1 + 1, 7, none⟩ p7).setCell ⟨w.heap.size + 1 + 1 + 1, 8, none⟩ p8).setCell ⟨w.heap.size + 1 + 1 + 1, 9, none⟩ p9).setCell ⟨w.heap.size + 1 + 1 + 1 + 1, 0, none⟩ q0).setCell ⟨w.heap.size + 1 + 1 + 1 + 1, 1, none⟩ q1).setCell ⟨w.heap.size + 1 + 1 + 1 + 1, 2, none⟩ q2).setCell ⟨w.heap.size + 1 + 1 + 1 + 1, 3, none⟩ q3).drew → (W'.cell? ⟨w.heap.size + 1 + 1 + 1, 0, none⟩ = some p0 ∧ W'.cell? ⟨w.heap.size + 1 + 1 + 1, 1, none⟩ = some p1 ∧ W'.cell? ⟨w.heap.size + 1 + 1 + 1, 2, none⟩ = some p2 ∧ W'.cell? ⟨w.heap.size + 1 + 1 + 1, 3, none⟩ = some p3 ∧ W'.cell? ⟨w.heap.size + 1 + 1 + 1, 4, none⟩ = some p4 ∧ W'.cell? ⟨w.heap.size + 1 + 1 + 1, 5, none⟩ = some p5 ∧ W'.cell? ⟨w.heap.size + 1 + 1 + 1, 6, none⟩ = some p6 ∧ W'.cell? ⟨w.heap.size + 1 + 1 + 1, 7, none⟩ = some p7 ∧ W'.cell? ⟨w.heap.size + 1 + 1 + 1, 8, none⟩ = some p8 ∧ W'.cell? ⟨w.heap.size + 1 + 1 + 1, 9, none⟩ = some p9) ∧ (W'.cell? ⟨w.heap.size + 1 + 1 + 1 + 1, 0, none⟩ = some q0 ∧ W'.cell? ⟨w.heap.size + 1 + 1 + 1 + 1, 1, none⟩ = some q1 ∧ W'.cell? ⟨w.heap.size + 1 + 1 + 1 + 1, 2, none⟩ = some q2 ∧ W'.cell? ⟨w.heap.size + 1 + 1 + 1 + 1, 3, none⟩ = some q3) ∧ Below w.heap.size W W' ∧ w.grownBy W' row := by
  rintro W' rfl
  have br := ((((((((((((((h.rs.put 0 p0).put 1 p1).put 2 p2).put 3 p3).put 4 p4).put 5 p5).put 6 p6).put 7 p7).put 8 p8).put 9 p9).far (p := ⟨w.heap.size + 1 + 1 + 1 + 1, 0, none⟩) (by first | (simp; done) | (simp; omega) | omega) q0).far (p := ⟨w.heap.size + 1 + 1 + 1 + 1, 1, none⟩) (by first | (simp; done) | (simp; omega) | omega) q1).far (p := ⟨w.heap.size + 1 + 1 + 1 + 1, 2, none⟩) (by first | (simp; done) | (simp; omega) | omega) q2).far (p := ⟨w.heap.size + 1 + 1 + 1 + 1, 3, none⟩) (by first | (simp; done) | (simp; omega) | omega) q3)
  have bo := ((((((((((((((h.ro.far (p := ⟨w.heap.size + 1 + 1 + 1, 0, none⟩) (by first | (simp; done) | (simp; omega) | omega) p0).far (p := ⟨w.heap.size + 1 + 1 + 1, 1, none⟩) (by first | (simp; done) | (simp; omega) | omega) p1).far (p := ⟨w.heap.size + 1 + 1 + 1, 2, none⟩) (by first | (simp; done) | (simp; omega) | omega) p2).far (p := ⟨w.heap.size + 1 + 1 + 1, 3, none⟩) (by first | (simp; done) | (simp; omega) | omega) p3).far (p := ⟨w.heap.size + 1 + 1 + 1, 4, none⟩) (by first | (simp; done) | (simp; omega) | omega) p4).far (p := ⟨w.heap.size + 1 + 1 + 1, 5, none⟩) (by first | (simp; done) | (simp; omega) | omega) p5).far (p := ⟨w.heap.size + 1 + 1 + 1, 6, none⟩) (by first | (simp; done) | (simp; omega) | omega) p6).far (p := ⟨w.heap.size + 1 + 1 + 1, 7, none⟩) (by first | (simp; done) | (simp; omega) | omega) p7).far (p := ⟨w.heap.size + 1 + 1 + 1, 8, none⟩) (by first | (simp; done) | (simp; omega) | omega) p8).far (p := ⟨w.heap.size + 1 + 1 + 1, 9, none⟩) (by first | (simp; done) | (simp; omega) | omega) p9).put 0 q0).put 1 q1).put 2 q2).put 3 q3)
  have gr : w.grownBy ((((((((((((((W.setCell ⟨w.heap.size + 1 + 1 + 1, 0, none⟩ p0).setCell ⟨w.heap.size + 1 + 1 + 1, 1, none⟩ p1).setCell ⟨w.heap.size + 1 + 1 + 1, 2, none⟩ p2).setCell ⟨w.heap.size + 1 + 1 + 1, 3, none⟩ p3).setCell ⟨w.heap.size + 1 + 1 + 1, 4, none⟩ p4).setCell ⟨w.heap.size + 1 + 1 + 1, 5, none⟩ p5).setCell ⟨w.heap.size + 1 + 1 + 1, 6, none⟩ p6).setCell ⟨w.heap.size + 1 + 1 + 1, 7, none⟩ p7).setCell ⟨w.heap.size + 1 + 1 + 1, 8, none⟩ p8).setCell ⟨w.heap.size + 1 + 1 + 1, 9, none⟩ p9).setCell ⟨w.heap.size + 1 + 1 + 1 + 1, 0, none⟩ q0).setCell ⟨w.heap.size + 1 + 1 + 1 + 1, 1, none⟩ q1).setCell ⟨w.heap.size + 1 + 1 + 1 + 1, 2, none⟩ q2).setCell ⟨w.heap.size + 1 + 1 + 1 + 1, 3, none⟩ q3) row := (only_putc (only_putc (only_putc (only_putc (only_putc (only_putc (only_putc (only_putc (only_putc (only_putc (only_putc (only_putc (only_putc (only_putc h.grow (p := ⟨w.heap.size + 1 + 1 + 1, 0, none⟩) (by first | (simp; done) | (simp; omega) | omega) p0) (p := ⟨w.heap.size + 1 + 1 + 1, 1, none⟩) (by first | (simp; done) | (simp; omega) | omega) p1) (p := ⟨w.heap.size + 1 + 1 + 1, 2, none⟩) (by first | (simp; done) | (simp; omega) | omega) p2) (p := ⟨w.heap.size + 1 + 1 + 1, 3, none⟩) (by first | (simp; done) | (simp; omega) | omega) p3) (p := ⟨w.heap.size + 1 + 1 + 1, 4, none⟩) (by first | (simp; done) | (simp; omega) | omega) p4) (p := ⟨w.heap.size + 1 + 1 + 1, 5, none⟩) (by first | (simp; done) | (simp; omega) | omega) p5) (p := ⟨w.heap.size + 1 + 1 + 1, 6, none⟩) (by first | (simp; done) | (simp; omega) | omega) p6) (p := ⟨w.heap.size + 1 + 1 + 1, 7, none⟩) (by first | (simp; done) | (simp; omega) | omega) p7) (p := ⟨w.heap.size + 1 + 1 + 1, 8, none⟩) (by first | (simp; done) | (simp; omega) | omega) p8) (p := ⟨w.heap.size + 1 + 1 + 1, 9, none⟩) (by first | (simp; done) | (simp; omega) | omega) p9) (p := ⟨w.heap.size + 1 + 1 + 1 + 1, 0, none⟩) (by first | (simp; done) | (simp; omega) | omega) q0) (p := ⟨w.heap.size + 1 + 1 + 1 + 1, 1, none⟩) (by first | (simp; done) | (simp; omega) | omega) q1) (p := ⟨w.heap.size + 1 + 1 + 1 + 1, 2, none⟩) (by first | (simp; done) | (simp; omega) | omega) q2) (p := ⟨w.heap.size + 1 + 1 + 1 + 1, 3, none⟩) (by first | (simp; done) | (simp; omega) | omega) q3)
  have gb : Below w.heap.size W ((((((((((((((W.setCell ⟨w.heap.size + 1 + 1 + 1, 0, none⟩ p0).setCell ⟨w.heap.size + 1 + 1 + 1, 1, none⟩ p1).setCell ⟨w.heap.size + 1 + 1 + 1, 2, none⟩ p2).setCell ⟨w.heap.size + 1 + 1 + 1, 3, none⟩ p3).setCell ⟨w.heap.size + 1 + 1 + 1, 4, none⟩ p4).setCell ⟨w.heap.size + 1 + 1 + 1, 5, none⟩ p5).setCell ⟨w.heap.size + 1 + 1 + 1, 6, none⟩ p6).setCell ⟨w.heap.size + 1 + 1 + 1, 7, none⟩ p7).setCell ⟨w.heap.size + 1 + 1 + 1, 8, none⟩ p8).setCell ⟨w.heap.size + 1 + 1 + 1, 9, none⟩ p9).setCell ⟨w.heap.size + 1 + 1 + 1 + 1, 0, none⟩ q0).setCell ⟨w.heap.size + 1 + 1 + 1 + 1, 1, none⟩ q1).setCell ⟨w.heap.size + 1 + 1 + 1 + 1, 2, none⟩ q2).setCell ⟨w.heap.size + 1 + 1 + 1 + 1, 3, none⟩ q3) := (Cu.below_put (Cu.below_put (Cu.below_put (Cu.below_put (Cu.below_put (Cu.below_put (Cu.below_put (Cu.below_put (Cu.below_put (Cu.below_put (Cu.below_put (Cu.below_put (Cu.below_put (Cu.below_put (Below.refl w.heap.size W) (p := ⟨w.heap.size + 1 + 1 + 1, 0, none⟩) (by first | (simp; done) | (simp; omega) | omega) p0) (p := ⟨w.heap.size + 1 + 1 + 1, 1, none⟩) (by first | (simp; done) | (simp; omega) | omega) p1) (p := ⟨w.heap.size + 1 + 1 + 1, 2, none⟩) (by first | (simp; done) | (simp; omega) | omega) p2) (p := ⟨w.heap.size + 1 + 1 + 1, 3, none⟩) (by first | (simp; done) | (simp; omega) | omega) p3) (p := ⟨w.heap.size + 1 + 1 + 1, 4, none⟩) (by first | (simp; done) | (simp; omega) | omega) p4) (p := ⟨w.heap.size + 1 + 1 + 1, 5, none⟩) (by first | (simp; done) | (simp; omega) | omega) p5) (p := ⟨w.heap.size + 1 + 1 + 1, 6, none⟩) (by first | (simp; done) | (simp; omega) | omega) p6) (p := ⟨w.heap.size + 1 + 1 + 1, 7, none⟩) (by first | (simp; done) | (simp; omega) | omega) p7) (p := ⟨w.heap.size + 1 + 1 + 1, 8, none⟩) (by first | (simp; done) | (simp; omega) | omega) p8) (p := ⟨w.heap.size + 1 + 1 + 1, 9, none⟩) (by first | (simp; done) | (simp; omega) | omega) p9) (p := ⟨w.heap.size + 1 + 1 + 1 + 1, 0, none⟩) (by first | (simp; done) | (simp; omega) | omega) q0) (p := ⟨w.heap.size + 1 + 1 + 1 + 1, 1, none⟩) (by first | (simp; done) | (simp; omega) | omega) q1) (p := ⟨w.heap.size + 1 + 1 + 1 + 1, 2, none⟩) (by first | (simp; done) | (simp; omega) | omega) q2) (p := ⟨w.heap.size + 1 + 1 + 1 + 1, 3, none⟩) (by first | (simp; done) | (simp; omega) | omega) q3)
  simp only [List.setIfInBounds_toArray, List.set_cons_zero, List.set_cons_succ] at br bo
  generalize ((((((((((((((W.setCell ⟨w.heap.size + 1 + 1 + 1, 0, none⟩ p0).setCell ⟨w.heap.size + 1 + 1 + 1, 1, none⟩ p1).setCell ⟨w.heap.size + 1 + 1 + 1, 2, none⟩ p2).setCell ⟨w.heap.size + 1 + 1 + 1, 3, none⟩ p3).setCell ⟨w.heap.size + 1 + 1 + 1, 4, none⟩ p4).setCell ⟨w.heap.size + 1 + 1 + 1, 5, none⟩ p5).setCell ⟨w.heap.size + 1 + 1 + 1, 6, none⟩ p6).setCell ⟨w.heap.size + 1 + 1 + 1, 7, none⟩ p7).setCell ⟨w.heap.size + 1 + 1 + 1, 8, none⟩ p8).setCell ⟨w.heap.size + 1 + 1 + 1, 9, none⟩ p9).setCell ⟨w.heap.size + 1 + 1 + 1 + 1, 0, none⟩ q0).setCell ⟨w.heap.size + 1 + 1 + 1 + 1, 1, none⟩ q1).setCell ⟨w.heap.size + 1 + 1 + 1 + 1, 2, none⟩ q2).setCell ⟨w.heap.size + 1 + 1 + 1 + 1, 3, none⟩ q3) = X at br bo gr gb ⊢
  exact ⟨⟨br.cell 0, br.cell 1, br.cell 2, br.cell 3, br.cell 4, br.cell 5, br.cell 6, br.cell 7, br.cell 8, br.cell 9⟩, ⟨bo.cell 0, bo.cell 1, bo.cell 2, bo.cell 3⟩, below_drewN gb 1, only_drewN gr 1⟩
theorem Cu.Dw.fin0 {w W : World} {m : Nat} {base size : Int} {S I T O : Array Value} {row : Option Nat} (h : Cu.Dw w W m base size S I #[.int .i64 0, .int .i64 0, .int .i64 0, .int .i64 0, .int .i64 0, .int .i64 0, .int .i64 0, .int .i64 0, .int .i64 0, .int .i64 0] #[.int .i64 0, .int .i64 0, .int .i64 0, .int .i64 0] T O row) (p0 p1 p2 p3 p4 p5 p6 p7 p8 p9 q0 q1 q2 q3 : Value) : ∀ W', W' = ((((((((((((((W.setCell ⟨w.heap.size + 1 + 1 + 1, 0, none⟩ p0).setCell ⟨w.heap.size + 1 + 1 + 1, 1, none⟩ p1).setCell ⟨w.heap.size + 1 + 1 + 1, 2, none⟩ p2).setCell ⟨w.heap.size + 1 + 1 + 1, 3, none⟩ p3).setCell ⟨w.heap.size + 1 + 1 + 1, 4, none⟩ p4).setCell ⟨w.heap.size + 1 + 1 + 1, 5, none⟩ p5).setCell ⟨w.heap.size + 1 + 1 + 1, 6, none⟩ p6).setCell ⟨w.heap.size + 1 + 1 + 1, 7, none⟩ p7).setCell ⟨w.heap.size + 1 + 1 + 1, 8, none⟩ p8).setCell ⟨w.heap.size + 1 + 1 + 1, 9, none⟩ p9).setCell ⟨w.heap.size + 1 + 1 + 1 + 1, 0, none⟩ q0).setCell ⟨w.heap.size + 1 + 1 + 1 + 1, 1, none⟩ q1).setCell ⟨w.heap.size + 1 + 1 + 1 + 1, 2, none⟩ q2).setCell ⟨w.heap.size + 1 + 1 + 1 + 1, 3, none⟩ q3) → (W'.cell? ⟨w.heap.size + 1 + 1 + 1, 0, none⟩ = some p0 ∧ W'.cell? ⟨w.heap.size + 1 + 1 + 1, 1, none⟩ = some p1 ∧ W'.cell? ⟨w.heap.size + 1 + 1 + 1, 2, none⟩ = some p2 ∧ W'.cell? ⟨w.heap.size + 1 + 1 + 1, 3, none⟩ = some p3 ∧ W'.cell? ⟨w.heap.size + 1 + 1 + 1, 4, none⟩ = some p4 ∧ W'.cell? ⟨w.heap.size + 1 + 1 + 1, 5, none⟩ = some p5 ∧ W'.cell? ⟨w.heap.size + 1 + 1 + 1, 6, none⟩ = some p6 ∧ W'.cell? ⟨w.heap.size + 1 + 1 + 1, 7, none⟩ = some p7 ∧ W'.cell? ⟨w.heap.size + 1 + 1 + 1, 8, none⟩ = some p8 ∧ W'.cell? ⟨w.heap.size + 1 + 1 + 1, 9, none⟩ = some p9) ∧ (W'.cell? ⟨w.heap.size + 1 + 1 + 1 + 1, 0, none⟩ = some q0 ∧ W'.cell? ⟨w.heap.size + 1 + 1 + 1 + 1, 1, none⟩ = some q1 ∧ W'.cell? ⟨w.heap.size + 1 + 1 + 1 + 1, 2, none⟩ = some q2 ∧ W'.cell? ⟨w.heap.size + 1 + 1 + 1 + 1, 3, none⟩ = some q3) ∧ Below w.heap.size W W' ∧ w.grownBy W' row := by
  rintro W' rfl
  have br := ((((((((((((((h.rs.put 0 p0).put 1 p1).put 2 p2).put 3 p3).put 4 p4).put 5 p5).put 6 p6).put 7 p7).put 8 p8).put 9 p9).far (p := ⟨w.heap.size + 1 + 1 + 1 + 1, 0, none⟩) (by first | (simp; done) | (simp; omega) | omega) q0).far (p := ⟨w.heap.size + 1 + 1 + 1 + 1, 1, none⟩) (by first | (simp; done) | (simp; omega) | omega) q1).far (p := ⟨w.heap.size + 1 + 1 + 1 + 1, 2, none⟩) (by first | (simp; done) | (simp; omega) | omega) q2).far (p := ⟨w.heap.size + 1 + 1 + 1 + 1, 3, none⟩) (by first | (simp; done) | (simp; omega) | omega) q3)
  have bo := ((((((((((((((h.ro.far (p := ⟨w.heap.size + 1 + 1 + 1, 0, none⟩) (by first | (simp; done) | (simp; omega) | omega) p0).far (p := ⟨w.heap.size + 1 + 1 + 1, 1, none⟩) (by first | (simp; done) | (simp; omega) | omega) p1).far (p := ⟨w.heap.size + 1 + 1 + 1, 2, none⟩) (by first | (simp; done) | (simp; omega) | omega) p2).far (p := ⟨w.heap.size + 1 + 1 + 1, 3, none⟩) (by first | (simp; done) | (simp; omega) | omega) p3).far (p := ⟨w.heap.size + 1 + 1 + 1, 4, none⟩) (by first | (simp; done) | (simp; omega) | omega) p4).far (p := ⟨w.heap.size + 1 + 1 + 1, 5, none⟩) (by first | (simp; done) | (simp; omega) | omega) p5).far (p := ⟨w.heap.size + 1 + 1 + 1, 6, none⟩) (by first | (simp; done) | (simp; omega) | omega) p6).far (p := ⟨w.heap.size + 1 + 1 + 1, 7, none⟩) (by first | (simp; done) | (simp; omega) | omega) p7).far (p := ⟨w.heap.size + 1 + 1 + 1, 8, none⟩) (by first | (simp; done) | (simp; omega) | omega) p8).far (p := ⟨w.heap.size + 1 + 1 + 1, 9, none⟩) (by first | (simp; done) | (simp; omega) | omega) p9).put 0 q0).put 1 q1).put 2 q2).put 3 q3)
  have gr : w.grownBy ((((((((((((((W.setCell ⟨w.heap.size + 1 + 1 + 1, 0, none⟩ p0).setCell ⟨w.heap.size + 1 + 1 + 1, 1, none⟩ p1).setCell ⟨w.heap.size + 1 + 1 + 1, 2, none⟩ p2).setCell ⟨w.heap.size + 1 + 1 + 1, 3, none⟩ p3).setCell ⟨w.heap.size + 1 + 1 + 1, 4, none⟩ p4).setCell ⟨w.heap.size + 1 + 1 + 1, 5, none⟩ p5).setCell ⟨w.heap.size + 1 + 1 + 1, 6, none⟩ p6).setCell ⟨w.heap.size + 1 + 1 + 1, 7, none⟩ p7).setCell ⟨w.heap.size + 1 + 1 + 1, 8, none⟩ p8).setCell ⟨w.heap.size + 1 + 1 + 1, 9, none⟩ p9).setCell ⟨w.heap.size + 1 + 1 + 1 + 1, 0, none⟩ q0).setCell ⟨w.heap.size + 1 + 1 + 1 + 1, 1, none⟩ q1).setCell ⟨w.heap.size + 1 + 1 + 1 + 1, 2, none⟩ q2).setCell ⟨w.heap.size + 1 + 1 + 1 + 1, 3, none⟩ q3) row := (only_putc (only_putc (only_putc (only_putc (only_putc (only_putc (only_putc (only_putc (only_putc (only_putc (only_putc (only_putc (only_putc (only_putc h.grow (p := ⟨w.heap.size + 1 + 1 + 1, 0, none⟩) (by first | (simp; done) | (simp; omega) | omega) p0) (p := ⟨w.heap.size + 1 + 1 + 1, 1, none⟩) (by first | (simp; done) | (simp; omega) | omega) p1) (p := ⟨w.heap.size + 1 + 1 + 1, 2, none⟩) (by first | (simp; done) | (simp; omega) | omega) p2) (p := ⟨w.heap.size + 1 + 1 + 1, 3, none⟩) (by first | (simp; done) | (simp; omega) | omega) p3) (p := ⟨w.heap.size + 1 + 1 + 1, 4, none⟩) (by first | (simp; done) | (simp; omega) | omega) p4) (p := ⟨w.heap.size + 1 + 1 + 1, 5, none⟩) (by first | (simp; done) | (simp; omega) | omega) p5) (p := ⟨w.heap.size + 1 + 1 + 1, 6, none⟩) (by first | (simp; done) | (simp; omega) | omega) p6) (p := ⟨w.heap.size + 1 + 1 + 1, 7, none⟩) (by first | (simp; done) | (simp; omega) | omega) p7) (p := ⟨w.heap.size + 1 + 1 + 1, 8, none⟩) (by first | (simp; done) | (simp; omega) | omega) p8) (p := ⟨w.heap.size + 1 + 1 + 1, 9, none⟩) (by first | (simp; done) | (simp; omega) | omega) p9) (p := ⟨w.heap.size + 1 + 1 + 1 + 1, 0, none⟩) (by first | (simp; done) | (simp; omega) | omega) q0) (p := ⟨w.heap.size + 1 + 1 + 1 + 1, 1, none⟩) (by first | (simp; done) | (simp; omega) | omega) q1) (p := ⟨w.heap.size + 1 + 1 + 1 + 1, 2, none⟩) (by first | (simp; done) | (simp; omega) | omega) q2) (p := ⟨w.heap.size + 1 + 1 + 1 + 1, 3, none⟩) (by first | (simp; done) | (simp; omega) | omega) q3)
  have gb : Below w.heap.size W ((((((((((((((W.setCell ⟨w.heap.size + 1 + 1 + 1, 0, none⟩ p0).setCell ⟨w.heap.size + 1 + 1 + 1, 1, none⟩ p1).setCell ⟨w.heap.size + 1 + 1 + 1, 2, none⟩ p2).setCell ⟨w.heap.size + 1 + 1 + 1, 3, none⟩ p3).setCell ⟨w.heap.size + 1 + 1 + 1, 4, none⟩ p4).setCell ⟨w.heap.size + 1 + 1 + 1, 5, none⟩ p5).setCell ⟨w.heap.size + 1 + 1 + 1, 6, none⟩ p6).setCell ⟨w.heap.size + 1 + 1 + 1, 7, none⟩ p7).setCell ⟨w.heap.size + 1 + 1 + 1, 8, none⟩ p8).setCell ⟨w.heap.size + 1 + 1 + 1, 9, none⟩ p9).setCell ⟨w.heap.size + 1 + 1 + 1 + 1, 0, none⟩ q0).setCell ⟨w.heap.size + 1 + 1 + 1 + 1, 1, none⟩ q1).setCell ⟨w.heap.size + 1 + 1 + 1 + 1, 2, none⟩ q2).setCell ⟨w.heap.size + 1 + 1 + 1 + 1, 3, none⟩ q3) := (Cu.below_put (Cu.below_put (Cu.below_put (Cu.below_put (Cu.below_put (Cu.below_put (Cu.below_put (Cu.below_put (Cu.below_put (Cu.below_put (Cu.below_put (Cu.below_put (Cu.below_put (Cu.below_put (Below.refl w.heap.size W) (p := ⟨w.heap.size + 1 + 1 + 1, 0, none⟩) (by first | (simp; done) | (simp; omega) | omega) p0) (p := ⟨w.heap.size + 1 + 1 + 1, 1, none⟩) (by first | (simp; done) | (simp; omega) | omega) p1) (p := ⟨w.heap.size + 1 + 1 + 1, 2, none⟩) (by first | (simp; done) | (simp; omega) | omega) p2) (p := ⟨w.heap.size + 1 + 1 + 1, 3, none⟩) (by first | (simp; done) | (simp; omega) | omega) p3) (p := ⟨w.heap.size + 1 + 1 + 1, 4, none⟩) (by first | (simp; done) | (simp; omega) | omega) p4) (p := ⟨w.heap.size + 1 + 1 + 1, 5, none⟩) (by first | (simp; done) | (simp; omega) | omega) p5) (p := ⟨w.heap.size + 1 + 1 + 1, 6, none⟩) (by first | (simp; done) | (simp; omega) | omega) p6) (p := ⟨w.heap.size + 1 + 1 + 1, 7, none⟩) (by first | (simp; done) | (simp; omega) | omega) p7) (p := ⟨w.heap.size + 1 + 1 + 1, 8, none⟩) (by first | (simp; done) | (simp; omega) | omega) p8) (p := ⟨w.heap.size + 1 + 1 + 1, 9, none⟩) (by first | (simp; done) | (simp; omega) | omega) p9) (p := ⟨w.heap.size + 1 + 1 + 1 + 1, 0, none⟩) (by first | (simp; done) | (simp; omega) | omega) q0) (p := ⟨w.heap.size + 1 + 1 + 1 + 1, 1, none⟩) (by first | (simp; done) | (simp; omega) | omega) q1) (p := ⟨w.heap.size + 1 + 1 + 1 + 1, 2, none⟩) (by first | (simp; done) | (simp; omega) | omega) q2) (p := ⟨w.heap.size + 1 + 1 + 1 + 1, 3, none⟩) (by first | (simp; done) | (simp; omega) | omega) q3)
  simp only [List.setIfInBounds_toArray, List.set_cons_zero, List.set_cons_succ] at br bo
  generalize ((((((((((((((W.setCell ⟨w.heap.size + 1 + 1 + 1, 0, none⟩ p0).setCell ⟨w.heap.size + 1 + 1 + 1, 1, none⟩ p1).setCell ⟨w.heap.size + 1 + 1 + 1, 2, none⟩ p2).setCell ⟨w.heap.size + 1 + 1 + 1, 3, none⟩ p3).setCell ⟨w.heap.size + 1 + 1 + 1, 4, none⟩ p4).setCell ⟨w.heap.size + 1 + 1 + 1, 5, none⟩ p5).setCell ⟨w.heap.size + 1 + 1 + 1, 6, none⟩ p6).setCell ⟨w.heap.size + 1 + 1 + 1, 7, none⟩ p7).setCell ⟨w.heap.size + 1 + 1 + 1, 8, none⟩ p8).setCell ⟨w.heap.size + 1 + 1 + 1, 9, none⟩ p9).setCell ⟨w.heap.size + 1 + 1 + 1 + 1, 0, none⟩ q0).setCell ⟨w.heap.size + 1 + 1 + 1 + 1, 1, none⟩ q1).setCell ⟨w.heap.size + 1 + 1 + 1 + 1, 2, none⟩ q2).setCell ⟨w.heap.size + 1 + 1 + 1 + 1, 3, none⟩ q3) = X at br bo gr gb ⊢
  exact ⟨⟨br.cell 0, br.cell 1, br.cell 2, br.cell 3, br.cell 4, br.cell 5, br.cell 6, br.cell 7, br.cell 8, br.cell 9⟩, ⟨bo.cell 0, bo.cell 1, bo.cell 2, bo.cell 3⟩, gb, gr⟩
end Go.Proofs.YtpolkioaagahhaaDoor

/- Package cpu: do, the arms that jump. -/
namespace Go.Proofs.YtpolkioaagahhaaDoor
open Go.RowKit Go.Lib
set_option linter.unusedVariables false
set_option maxRecDepth 8000

set_option maxHeartbeats 6400000 in
theorem Cu.do_jump (m : Nat) (base size pc md : Int) (k x : Nat) (n : Int) (r : Nat → Int) (hpc : 0 ≤ pc ∧ pc ≤ 16384) (hk : k = 11 ∨ k = 12 ∨ k = 13) (hx : x < 8) (w : World) : Calls Tryd.prog 27 #[Cu.vw m base size, Cu.stV pc r md, Cu.inV k x n] w fun e w' => e = .returned (.tuple #[Cu.stV (if Cu.jm k (r x) (r 0) then n else pc + 4) r md, Cu.outV 1 0 0 0]) ∧ w.grownBy w' none := by
  have hw : IntKind.i64.wrap (pc + 4) = pc + 4 := by rw [IntKind.wrap_i64]; omega
  have HJ := Lib.hid (fun W => Cu.jumps_any pc md r k x n hk hx W)
  generalize Cu.jm k (r x) (r 0) = b at *
  rcases hk with rfl | rfl | rfl
  · unfold Cu.outV Cu.vw Cu.inV
    unfold Cu.stV at HJ ⊢
    simp only [Int.cast_ofNat_Int] at HJ ⊢
    unfold Cu.stC at HJ ⊢
    go_enter Tryd.func27, Tryd.ntmps27
    go_upto_region 18 with (fail)
    show Code.wp _ _ _ _ (Cu.wd w m base size (Cu.stC pc r md) (Cu.inC 11 x n) (Cu.stC (pc + 4) r md) #[.int .i64 1, .int .i64 0, .int .i64 0, .int .i64 0])
    have HD := Lib.hid (Cu.Dw.new w m base size (Cu.stC pc r md) (Cu.inC 11 x n) (Cu.stC (pc + 4) r md) #[.int .i64 1, .int .i64 0, .int .i64 0, .int .i64 0])
    generalize Cu.wd w m base size (Cu.stC pc r md) (Cu.inC 11 x n) (Cu.stC (pc + 4) r md) #[.int .i64 1, .int .i64 0, .int .i64 0, .int .i64 0] = W at *
    obtain ⟨⟨v0, v1, v2⟩, ⟨s0, s1, s2, s3, s4, s5, s6, s7, s8, s9⟩, ⟨i0, i1, i2⟩⟩ := HD.out.args
    cases b
    · go_upto_region 28 with (go_at_call 44; (with_reducible refine (HJ.out _).mono ?_); rintro e w1 ⟨rfl, g2⟩; have HD1 := Lib.hid (HD.out.step g2); clear v0 v1 v2 s0 s1 s2 s3 s4 s5 s6 s7 s8 s9 i0 i1 i2 g2)
      obtain ⟨⟨t0, t1, t2, t3, t4, t5, t6, t7, t8, t9⟩, ⟨o0, o1, o2, o3⟩⟩ := HD1.out.tail
      obtain ⟨⟨z0, z1, z2, z3, z4, z5, z6, z7, z8, z9⟩, ⟨y0, y1, y2, y3⟩, ⟨f0, f1, f2, f3, f4, f5, f6, f7, f8, f9⟩, ⟨e0, e1, e2, e3⟩⟩ := HD1.out.free
      go_region
      go_wp2
      obtain ⟨⟨r0, r1, r2, r3, r4, r5, r6, r7, r8, r9⟩, ⟨u0, u1, u2, u3⟩, G8, G9⟩ := HD1.out.fin (.int .i64 (pc + 4)) (.int .i64 (r 0)) (.int .i64 (r 1)) (.int .i64 (r 2)) (.int .i64 (r 3)) (.int .i64 (r 4)) (.int .i64 (r 5)) (.int .i64 (r 6)) (.int .i64 (r 7)) (.int .i64 md) (.int .i64 1) (.int .i64 0) (.int .i64 0) (.int .i64 0) _ rfl
      refine bodyPost_ret (v := .tuple #[.agg #[.int .i64 (pc + 4), .int .i64 (r 0), .int .i64 (r 1), .int .i64 (r 2), .int .i64 (r 3), .int .i64 (r 4), .int .i64 (r 5), .int .i64 (r 6), .int .i64 (r 7), .int .i64 md], .agg #[.int .i64 1, .int .i64 0, .int .i64 0, .int .i64 0]]) (by simp [results, Tryd.results27, go_sem, r0, r1, r2, r3, r4, r5, r6, r7, r8, r9, u0, u1, u2, u3]) rfl ⟨rfl, G9⟩
    · go_upto_region 19 with (go_at_call 44; (with_reducible refine (HJ.out _).mono ?_); rintro e w1 ⟨rfl, g2⟩; have HD1 := Lib.hid (HD.out.step g2); clear v0 v1 v2 s0 s1 s2 s3 s4 s5 s6 s7 s8 s9 i0 i1 i2 g2)
      obtain ⟨-, -, ⟨i0, i1, i2⟩⟩ := HD1.out.args
      obtain ⟨⟨tt, -⟩, -⟩ := HD1.out.tail
      have ft := HD1.out.tb.free 0
      go_upto_region 28 with (fail)
      have HD2 := Lib.hid (show Cu.Dw _ _ _ _ _ _ _ _ _ (Cu.stC n r md) _ _ from HD1.out.putT 0 (.int .i64 n))
      obtain ⟨W2, hW2⟩ : ∃ W2, W2 = w1.setCell ⟨w.heap.size + 1 + 1 + 1 + 1 + 1, 0, none⟩ (.int .i64 n) := ⟨_, rfl⟩
      rw [← hW2] at HD2 ⊢
      clear hW2 i0 i1 i2 tt ft
      obtain ⟨⟨t0, t1, t2, t3, t4, t5, t6, t7, t8, t9⟩, ⟨o0, o1, o2, o3⟩⟩ := HD2.out.tail
      obtain ⟨⟨z0, z1, z2, z3, z4, z5, z6, z7, z8, z9⟩, ⟨y0, y1, y2, y3⟩, ⟨f0, f1, f2, f3, f4, f5, f6, f7, f8, f9⟩, ⟨e0, e1, e2, e3⟩⟩ := HD2.out.free
      go_region
      go_wp2
      obtain ⟨⟨r0, r1, r2, r3, r4, r5, r6, r7, r8, r9⟩, ⟨u0, u1, u2, u3⟩, G8, G9⟩ := HD2.out.fin (.int .i64 n) (.int .i64 (r 0)) (.int .i64 (r 1)) (.int .i64 (r 2)) (.int .i64 (r 3)) (.int .i64 (r 4)) (.int .i64 (r 5)) (.int .i64 (r 6)) (.int .i64 (r 7)) (.int .i64 md) (.int .i64 1) (.int .i64 0) (.int .i64 0) (.int .i64 0) _ rfl
      refine bodyPost_ret (v := .tuple #[.agg #[.int .i64 n, .int .i64 (r 0), .int .i64 (r 1), .int .i64 (r 2), .int .i64 (r 3), .int .i64 (r 4), .int .i64 (r 5), .int .i64 (r 6), .int .i64 (r 7), .int .i64 md], .agg #[.int .i64 1, .int .i64 0, .int .i64 0, .int .i64 0]]) (by simp [results, Tryd.results27, go_sem, r0, r1, r2, r3, r4, r5, r6, r7, r8, r9, u0, u1, u2, u3]) rfl ⟨rfl, G9⟩
  · unfold Cu.outV Cu.vw Cu.inV
    unfold Cu.stV at HJ ⊢
    simp only [Int.cast_ofNat_Int] at HJ ⊢
    unfold Cu.stC at HJ ⊢
    go_enter Tryd.func27, Tryd.ntmps27
    go_upto_region 18 with (fail)
    show Code.wp _ _ _ _ (Cu.wd w m base size (Cu.stC pc r md) (Cu.inC 12 x n) (Cu.stC (pc + 4) r md) #[.int .i64 1, .int .i64 0, .int .i64 0, .int .i64 0])
    have HD := Lib.hid (Cu.Dw.new w m base size (Cu.stC pc r md) (Cu.inC 12 x n) (Cu.stC (pc + 4) r md) #[.int .i64 1, .int .i64 0, .int .i64 0, .int .i64 0])
    generalize Cu.wd w m base size (Cu.stC pc r md) (Cu.inC 12 x n) (Cu.stC (pc + 4) r md) #[.int .i64 1, .int .i64 0, .int .i64 0, .int .i64 0] = W at *
    obtain ⟨⟨v0, v1, v2⟩, ⟨s0, s1, s2, s3, s4, s5, s6, s7, s8, s9⟩, ⟨i0, i1, i2⟩⟩ := HD.out.args
    cases b
    · go_upto_region 28 with (go_at_call 44; (with_reducible refine (HJ.out _).mono ?_); rintro e w1 ⟨rfl, g2⟩; have HD1 := Lib.hid (HD.out.step g2); clear v0 v1 v2 s0 s1 s2 s3 s4 s5 s6 s7 s8 s9 i0 i1 i2 g2)
      obtain ⟨⟨t0, t1, t2, t3, t4, t5, t6, t7, t8, t9⟩, ⟨o0, o1, o2, o3⟩⟩ := HD1.out.tail
      obtain ⟨⟨z0, z1, z2, z3, z4, z5, z6, z7, z8, z9⟩, ⟨y0, y1, y2, y3⟩, ⟨f0, f1, f2, f3, f4, f5, f6, f7, f8, f9⟩, ⟨e0, e1, e2, e3⟩⟩ := HD1.out.free
      go_region
      go_wp2
      obtain ⟨⟨r0, r1, r2, r3, r4, r5, r6, r7, r8, r9⟩, ⟨u0, u1, u2, u3⟩, G8, G9⟩ := HD1.out.fin (.int .i64 (pc + 4)) (.int .i64 (r 0)) (.int .i64 (r 1)) (.int .i64 (r 2)) (.int .i64 (r 3)) (.int .i64 (r 4)) (.int .i64 (r 5)) (.int .i64 (r 6)) (.int .i64 (r 7)) (.int .i64 md) (.int .i64 1) (.int .i64 0) (.int .i64 0) (.int .i64 0) _ rfl
      refine bodyPost_ret (v := .tuple #[.agg #[.int .i64 (pc + 4), .int .i64 (r 0), .int .i64 (r 1), .int .i64 (r 2), .int .i64 (r 3), .int .i64 (r 4), .int .i64 (r 5), .int .i64 (r 6), .int .i64 (r 7), .int .i64 md], .agg #[.int .i64 1, .int .i64 0, .int .i64 0, .int .i64 0]]) (by simp [results, Tryd.results27, go_sem, r0, r1, r2, r3, r4, r5, r6, r7, r8, r9, u0, u1, u2, u3]) rfl ⟨rfl, G9⟩
    · go_upto_region 19 with (go_at_call 44; (with_reducible refine (HJ.out _).mono ?_); rintro e w1 ⟨rfl, g2⟩; have HD1 := Lib.hid (HD.out.step g2); clear v0 v1 v2 s0 s1 s2 s3 s4 s5 s6 s7 s8 s9 i0 i1 i2 g2)
      obtain ⟨-, -, ⟨i0, i1, i2⟩⟩ := HD1.out.args
      obtain ⟨⟨tt, -⟩, -⟩ := HD1.out.tail
      have ft := HD1.out.tb.free 0
      go_upto_region 28 with (fail)
      have HD2 := Lib.hid (show Cu.Dw _ _ _ _ _ _ _ _ _ (Cu.stC n r md) _ _ from HD1.out.putT 0 (.int .i64 n))
      obtain ⟨W2, hW2⟩ : ∃ W2, W2 = w1.setCell ⟨w.heap.size + 1 + 1 + 1 + 1 + 1, 0, none⟩ (.int .i64 n) := ⟨_, rfl⟩
      rw [← hW2] at HD2 ⊢
      clear hW2 i0 i1 i2 tt ft
      obtain ⟨⟨t0, t1, t2, t3, t4, t5, t6, t7, t8, t9⟩, ⟨o0, o1, o2, o3⟩⟩ := HD2.out.tail
      obtain ⟨⟨z0, z1, z2, z3, z4, z5, z6, z7, z8, z9⟩, ⟨y0, y1, y2, y3⟩, ⟨f0, f1, f2, f3, f4, f5, f6, f7, f8, f9⟩, ⟨e0, e1, e2, e3⟩⟩ := HD2.out.free
      go_region
      go_wp2
      obtain ⟨⟨r0, r1, r2, r3, r4, r5, r6, r7, r8, r9⟩, ⟨u0, u1, u2, u3⟩, G8, G9⟩ := HD2.out.fin (.int .i64 n) (.int .i64 (r 0)) (.int .i64 (r 1)) (.int .i64 (r 2)) (.int .i64 (r 3)) (.int .i64 (r 4)) (.int .i64 (r 5)) (.int .i64 (r 6)) (.int .i64 (r 7)) (.int .i64 md) (.int .i64 1) (.int .i64 0) (.int .i64 0) (.int .i64 0) _ rfl
      refine bodyPost_ret (v := .tuple #[.agg #[.int .i64 n, .int .i64 (r 0), .int .i64 (r 1), .int .i64 (r 2), .int .i64 (r 3), .int .i64 (r 4), .int .i64 (r 5), .int .i64 (r 6), .int .i64 (r 7), .int .i64 md], .agg #[.int .i64 1, .int .i64 0, .int .i64 0, .int .i64 0]]) (by simp [results, Tryd.results27, go_sem, r0, r1, r2, r3, r4, r5, r6, r7, r8, r9, u0, u1, u2, u3]) rfl ⟨rfl, G9⟩
  · unfold Cu.outV Cu.vw Cu.inV
    unfold Cu.stV at HJ ⊢
    simp only [Int.cast_ofNat_Int] at HJ ⊢
    unfold Cu.stC at HJ ⊢
    go_enter Tryd.func27, Tryd.ntmps27
    go_upto_region 18 with (fail)
    show Code.wp _ _ _ _ (Cu.wd w m base size (Cu.stC pc r md) (Cu.inC 13 x n) (Cu.stC (pc + 4) r md) #[.int .i64 1, .int .i64 0, .int .i64 0, .int .i64 0])
    have HD := Lib.hid (Cu.Dw.new w m base size (Cu.stC pc r md) (Cu.inC 13 x n) (Cu.stC (pc + 4) r md) #[.int .i64 1, .int .i64 0, .int .i64 0, .int .i64 0])
    generalize Cu.wd w m base size (Cu.stC pc r md) (Cu.inC 13 x n) (Cu.stC (pc + 4) r md) #[.int .i64 1, .int .i64 0, .int .i64 0, .int .i64 0] = W at *
    obtain ⟨⟨v0, v1, v2⟩, ⟨s0, s1, s2, s3, s4, s5, s6, s7, s8, s9⟩, ⟨i0, i1, i2⟩⟩ := HD.out.args
    cases b
    · go_upto_region 28 with (go_at_call 44; (with_reducible refine (HJ.out _).mono ?_); rintro e w1 ⟨rfl, g2⟩; have HD1 := Lib.hid (HD.out.step g2); clear v0 v1 v2 s0 s1 s2 s3 s4 s5 s6 s7 s8 s9 i0 i1 i2 g2)
      obtain ⟨⟨t0, t1, t2, t3, t4, t5, t6, t7, t8, t9⟩, ⟨o0, o1, o2, o3⟩⟩ := HD1.out.tail
      obtain ⟨⟨z0, z1, z2, z3, z4, z5, z6, z7, z8, z9⟩, ⟨y0, y1, y2, y3⟩, ⟨f0, f1, f2, f3, f4, f5, f6, f7, f8, f9⟩, ⟨e0, e1, e2, e3⟩⟩ := HD1.out.free
      go_region
      go_wp2
      obtain ⟨⟨r0, r1, r2, r3, r4, r5, r6, r7, r8, r9⟩, ⟨u0, u1, u2, u3⟩, G8, G9⟩ := HD1.out.fin (.int .i64 (pc + 4)) (.int .i64 (r 0)) (.int .i64 (r 1)) (.int .i64 (r 2)) (.int .i64 (r 3)) (.int .i64 (r 4)) (.int .i64 (r 5)) (.int .i64 (r 6)) (.int .i64 (r 7)) (.int .i64 md) (.int .i64 1) (.int .i64 0) (.int .i64 0) (.int .i64 0) _ rfl
      refine bodyPost_ret (v := .tuple #[.agg #[.int .i64 (pc + 4), .int .i64 (r 0), .int .i64 (r 1), .int .i64 (r 2), .int .i64 (r 3), .int .i64 (r 4), .int .i64 (r 5), .int .i64 (r 6), .int .i64 (r 7), .int .i64 md], .agg #[.int .i64 1, .int .i64 0, .int .i64 0, .int .i64 0]]) (by simp [results, Tryd.results27, go_sem, r0, r1, r2, r3, r4, r5, r6, r7, r8, r9, u0, u1, u2, u3]) rfl ⟨rfl, G9⟩
    · go_upto_region 19 with (go_at_call 44; (with_reducible refine (HJ.out _).mono ?_); rintro e w1 ⟨rfl, g2⟩; have HD1 := Lib.hid (HD.out.step g2); clear v0 v1 v2 s0 s1 s2 s3 s4 s5 s6 s7 s8 s9 i0 i1 i2 g2)
      obtain ⟨-, -, ⟨i0, i1, i2⟩⟩ := HD1.out.args
      obtain ⟨⟨tt, -⟩, -⟩ := HD1.out.tail
      have ft := HD1.out.tb.free 0
      go_upto_region 28 with (fail)
      have HD2 := Lib.hid (show Cu.Dw _ _ _ _ _ _ _ _ _ (Cu.stC n r md) _ _ from HD1.out.putT 0 (.int .i64 n))
      obtain ⟨W2, hW2⟩ : ∃ W2, W2 = w1.setCell ⟨w.heap.size + 1 + 1 + 1 + 1 + 1, 0, none⟩ (.int .i64 n) := ⟨_, rfl⟩
      rw [← hW2] at HD2 ⊢
      clear hW2 i0 i1 i2 tt ft
      obtain ⟨⟨t0, t1, t2, t3, t4, t5, t6, t7, t8, t9⟩, ⟨o0, o1, o2, o3⟩⟩ := HD2.out.tail
      obtain ⟨⟨z0, z1, z2, z3, z4, z5, z6, z7, z8, z9⟩, ⟨y0, y1, y2, y3⟩, ⟨f0, f1, f2, f3, f4, f5, f6, f7, f8, f9⟩, ⟨e0, e1, e2, e3⟩⟩ := HD2.out.free
      go_region
      go_wp2
      obtain ⟨⟨r0, r1, r2, r3, r4, r5, r6, r7, r8, r9⟩, ⟨u0, u1, u2, u3⟩, G8, G9⟩ := HD2.out.fin (.int .i64 n) (.int .i64 (r 0)) (.int .i64 (r 1)) (.int .i64 (r 2)) (.int .i64 (r 3)) (.int .i64 (r 4)) (.int .i64 (r 5)) (.int .i64 (r 6)) (.int .i64 (r 7)) (.int .i64 md) (.int .i64 1) (.int .i64 0) (.int .i64 0) (.int .i64 0) _ rfl
      refine bodyPost_ret (v := .tuple #[.agg #[.int .i64 n, .int .i64 (r 0), .int .i64 (r 1), .int .i64 (r 2), .int .i64 (r 3), .int .i64 (r 4), .int .i64 (r 5), .int .i64 (r 6), .int .i64 (r 7), .int .i64 md], .agg #[.int .i64 1, .int .i64 0, .int .i64 0, .int .i64 0]]) (by simp [results, Tryd.results27, go_sem, r0, r1, r2, r3, r4, r5, r6, r7, r8, r9, u0, u1, u2, u3]) rfl ⟨rfl, G9⟩
end Go.Proofs.YtpolkioaagahhaaDoor
