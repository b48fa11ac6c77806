import Derived.Test.YthhodadfiipffaaDoorZ12
set_option linter.all false
/- Package cpu: a step's boxes. -/
namespace Go.Proofs.YthhodadfiipffaaDoor
open Go.RowKit Go.Lib
set_option linter.unusedVariables false
set_option maxRecDepth 8000

def Cu.sd (w : World) (m : Nat) (base size : Int) (S : Array Value) : World :=
  (((w.alloc (.cells #[.pointer (some ⟨m, 0, none⟩), .int .i64 base, .int .i64 size] 31)).alloc (.cells S 55)).alloc (.cells #[.int .i64 0, .int .i64 0, .int .i64 0, .int .i64 0, .int .i64 0, .int .i64 0, .int .i64 0, .int .i64 0, .int .i64 0, .int .i64 0] 55)).alloc (.cells #[.int .i64 0, .int .i64 0, .int .i64 0, .int .i64 0] 90)
structure Cu.Sw (w W : World) (m : Nat) (base size : Int) (S RS RO : Array Value) (row : Option Nat) : Prop where
  vb : Blk W (w.heap.size) 31 #[.pointer (some ⟨m, 0, none⟩), .int .i64 base, .int .i64 size]
  sb : Blk W (w.heap.size + 1) 55 S
  rs : Blk W (w.heap.size + 1 + 1) 55 RS
  ro : Blk W (w.heap.size + 1 + 1 + 1) 90 RO
  grow : w.grownBy W row
theorem Cu.Sw.new (w : World) (m : Nat) (base size : Int) (S : Array Value) : Cu.Sw w (Cu.sd w m base size S) m base size S #[.int .i64 0, .int .i64 0, .int .i64 0, .int .i64 0, .int .i64 0, .int .i64 0, .int .i64 0, .int .i64 0, .int .i64 0, .int .i64 0] #[.int .i64 0, .int .i64 0, .int .i64 0, .int .i64 0] none := by
  have b0 := Blk.new w 31 #[.pointer (some ⟨m, 0, none⟩), .int .i64 base, .int .i64 size]
  obtain ⟨w1, h1⟩ : ∃ w1, w1 = w.alloc (.cells #[.pointer (some ⟨m, 0, none⟩), .int .i64 base, .int .i64 size] 31) := ⟨_, rfl⟩
  have z1 : w1.heap.size = w.heap.size + 1 := by rw [h1]; simp
  have b1 := Blk.new w1 55 S
  obtain ⟨w2, h2⟩ : ∃ w2, w2 = w1.alloc (.cells S 55) := ⟨_, rfl⟩
  have z2 : w2.heap.size = w.heap.size + 1 + 1 := by rw [h2]; simp [z1]
  have b2 := Blk.new w2 55 #[.int .i64 0, .int .i64 0, .int .i64 0, .int .i64 0, .int .i64 0, .int .i64 0, .int .i64 0, .int .i64 0, .int .i64 0, .int .i64 0]
  obtain ⟨w3, h3⟩ : ∃ w3, w3 = w2.alloc (.cells #[.int .i64 0, .int .i64 0, .int .i64 0, .int .i64 0, .int .i64 0, .int .i64 0, .int .i64 0, .int .i64 0, .int .i64 0, .int .i64 0] 55) := ⟨_, rfl⟩
  have z3 : w3.heap.size = w.heap.size + 1 + 1 + 1 := by rw [h3]; simp [z2]
  have b3 := Blk.new w3 90 #[.int .i64 0, .int .i64 0, .int .i64 0, .int .i64 0]
  unfold Cu.sd
  rw [← h1] at b0 ⊢
  rw [← h2] at b1 ⊢
  rw [← h3] at b2 ⊢
  have g2 : w1.grownBy w2 none := by rw [h2]; exact only_alloc (only_refl _ _) _
  have g3 : w2.grownBy w3 none := by rw [h3]; exact only_alloc (only_refl _ _) _
  have g4 : w3.grownBy (w3.alloc (.cells #[.int .i64 0, .int .i64 0, .int .i64 0, .int .i64 0] 90)) none := only_alloc (only_refl _ _) _
  have f3 := only_trans g3 g4
  have f2 := only_trans g2 f3
  have f1 : w.grownBy (w3.alloc (.cells #[.int .i64 0, .int .i64 0, .int .i64 0, .int .i64 0] 90)) none := only_trans (by rw [h1]; exact only_alloc (only_refl _ _) _) f2
  rw [z1] at b1
  rw [z2] at b2
  rw [z3] at b3
  exact ⟨b0.only f2 (by simp), b1.only f3 (by simp), b2.only g4 (by simp), b3, f1⟩
section
variable {w W W' : World} {m : Nat} {base size : Int} {S RS RO : Array Value} {row : Option Nat}
theorem Cu.Sw.step (h : Cu.Sw w W m base size S RS RO row) (g : W.grownBy W' none) : Cu.Sw w W' m base size S RS RO row :=
  ⟨h.vb.only g (by simp), h.sb.only g (by simp), h.rs.only g (by simp), h.ro.only g (by simp), only_trans h.grow (only_any g row)⟩
theorem Cu.Sw.far {g : Nat} (h : Cu.Sw w W m base size S RS RO none) (hg : g < w.heap.size) (q : W.grownBy W' (some g)) : Cu.Sw w W' m base size S RS RO (some g) := by
  refine ⟨h.vb.only q ?_, h.sb.only q ?_, h.rs.only q ?_, h.ro.only q ?_, only_trans (only_any h.grow (some g)) q⟩
  all_goals
    intro e
    injection e with e
    omega
theorem Cu.Sw.putS (h : Cu.Sw w W m base size S RS RO row) (i : Nat) (v : Value) : Cu.Sw w (W.setCell ⟨w.heap.size + 1, i, none⟩ v) m base size (S.setIfInBounds i v) RS RO row :=
  ⟨h.vb.far (by first | (simp; done) | (simp; omega) | omega) v, h.sb.put i v, h.rs.far (by first | (simp; done) | (simp; omega) | omega) v, h.ro.far (by first | (simp; done) | (simp; omega) | omega) v, only_putc h.grow (p := ⟨w.heap.size + 1, i, none⟩) (by first | (simp; done) | (simp; omega) | omega) v⟩
end
theorem Cu.Sw.args {w W : World} {m : Nat} {base size : Int} {RS RO : Array Value} {pc md : Int} {r : Nat → Int} {row : Option Nat} (h : Cu.Sw w W m base size (Cu.stC pc r md) RS RO row) : (W.cell? ⟨w.heap.size, 0, none⟩ = some (.pointer (some ⟨m, 0, none⟩)) ∧ W.cell? ⟨w.heap.size, 1, none⟩ = some (.int .i64 base) ∧ W.cell? ⟨w.heap.size, 2, none⟩ = some (.int .i64 size)) ∧ (W.cell? ⟨w.heap.size + 1, 0, none⟩ = some (.int .i64 pc) ∧ W.cell? ⟨w.heap.size + 1, 1, none⟩ = some (.int .i64 (r 0)) ∧ W.cell? ⟨w.heap.size + 1, 2, none⟩ = some (.int .i64 (r 1)) ∧ W.cell? ⟨w.heap.size + 1, 3, none⟩ = some (.int .i64 (r 2)) ∧ W.cell? ⟨w.heap.size + 1, 4, none⟩ = some (.int .i64 (r 3)) ∧ W.cell? ⟨w.heap.size + 1, 5, none⟩ = some (.int .i64 (r 4)) ∧ W.cell? ⟨w.heap.size + 1, 6, none⟩ = some (.int .i64 (r 5)) ∧ W.cell? ⟨w.heap.size + 1, 7, none⟩ = some (.int .i64 (r 6)) ∧ W.cell? ⟨w.heap.size + 1, 8, none⟩ = some (.int .i64 (r 7)) ∧ W.cell? ⟨w.heap.size + 1, 9, none⟩ = some (.int .i64 md)) := by
  have h0 := h.vb
  have h1 := h.sb
  exact ⟨⟨h0.cell 0, h0.cell 1, h0.cell 2⟩, ⟨h1.cell 0, h1.cell 1, h1.cell 2, h1.cell 3, h1.cell 4, h1.cell 5, h1.cell 6, h1.cell 7, h1.cell 8, h1.cell 9⟩⟩
theorem Cu.Sw.free {w W : World} {m : Nat} {base size : Int} {S : Array Value} {row : Option Nat} (h : Cu.Sw w W m base size S #[.int .i64 0, .int .i64 0, .int .i64 0, .int .i64 0, .int .i64 0, .int .i64 0, .int .i64 0, .int .i64 0, .int .i64 0, .int .i64 0] #[.int .i64 0, .int .i64 0, .int .i64 0, .int .i64 0] row) : (W.cell? ⟨w.heap.size + 1 + 1, 0, none⟩ = some (.int .i64 0) ∧ W.cell? ⟨w.heap.size + 1 + 1, 1, none⟩ = some (.int .i64 0) ∧ W.cell? ⟨w.heap.size + 1 + 1, 2, none⟩ = some (.int .i64 0) ∧ W.cell? ⟨w.heap.size + 1 + 1, 3, none⟩ = some (.int .i64 0) ∧ W.cell? ⟨w.heap.size + 1 + 1, 4, none⟩ = some (.int .i64 0) ∧ W.cell? ⟨w.heap.size + 1 + 1, 5, none⟩ = some (.int .i64 0) ∧ W.cell? ⟨w.heap.size + 1 + 1, 6, none⟩ = some (.int .i64 0) ∧ W.cell? ⟨w.heap.size + 1 + 1, 7, none⟩ = some (.int .i64 0) ∧ W.cell? ⟨w.heap.size + 1 + 1, 8, none⟩ = some (.int .i64 0) ∧ W.cell? ⟨w.heap.size + 1 + 1, 9, none⟩ = some (.int .i64 0)) ∧ (W.cell? ⟨w.heap.size + 1 + 1 + 1, 0, none⟩ = some (.int .i64 0) ∧ W.cell? ⟨w.heap.size + 1 + 1 + 1, 1, none⟩ = some (.int .i64 0) ∧ W.cell? ⟨w.heap.size + 1 + 1 + 1, 2, none⟩ = some (.int .i64 0) ∧ W.cell? ⟨w.heap.size + 1 + 1 + 1, 3, none⟩ = some (.int .i64 0)) ∧ (W.frozen? ⟨w.heap.size + 1 + 1, 0, none⟩ = false ∧ W.frozen? ⟨w.heap.size + 1 + 1, 1, none⟩ = false ∧ W.frozen? ⟨w.heap.size + 1 + 1, 2, none⟩ = false ∧ W.frozen? ⟨w.heap.size + 1 + 1, 3, none⟩ = false ∧ W.frozen? ⟨w.heap.size + 1 + 1, 4, none⟩ = false ∧ W.frozen? ⟨w.heap.size + 1 + 1, 5, none⟩ = false ∧ W.frozen? ⟨w.heap.size + 1 + 1, 6, none⟩ = false ∧ W.frozen? ⟨w.heap.size + 1 + 1, 7, none⟩ = false ∧ W.frozen? ⟨w.heap.size + 1 + 1, 8, none⟩ = false ∧ W.frozen? ⟨w.heap.size + 1 + 1, 9, none⟩ = false) ∧ (W.frozen? ⟨w.heap.size + 1 + 1 + 1, 0, none⟩ = false ∧ W.frozen? ⟨w.heap.size + 1 + 1 + 1, 1, none⟩ = false ∧ W.frozen? ⟨w.heap.size + 1 + 1 + 1, 2, none⟩ = false ∧ W.frozen? ⟨w.heap.size + 1 + 1 + 1, 3, none⟩ = false) := by
  have h1 := h.rs
  have h2 := h.ro
  exact ⟨⟨h1.cell 0, h1.cell 1, h1.cell 2, h1.cell 3, h1.cell 4, h1.cell 5, h1.cell 6, h1.cell 7, h1.cell 8, h1.cell 9⟩, ⟨h2.cell 0, h2.cell 1, h2.cell 2, h2.cell 3⟩, ⟨h1.free 0, h1.free 1, h1.free 2, h1.free 3, h1.free 4, h1.free 5, h1.free 6, h1.free 7, h1.free 8, h1.free 9⟩, ⟨h2.free 0, h2.free 1, h2.free 2, h2.free 3⟩⟩
theorem Cu.Sw.fin0 {w W : World} {m : Nat} {base size : Int} {S : Array Value} {row : Option Nat} (h : Cu.Sw w W m base size S #[.int .i64 0, .int .i64 0, .int .i64 0, .int .i64 0, .int .i64 0, .int .i64 0, .int .i64 0, .int .i64 0, .int .i64 0, .int .i64 0] #[.int .i64 0, .int .i64 0, .int .i64 0, .int .i64 0] row) (p0 p1 p2 p3 p4 p5 p6 p7 p8 p9 q0 q1 q2 q3 : Value) : ∀ W', W' = ((((((((((((((W.setCell ⟨w.heap.size + 1 + 1, 0, none⟩ p0).setCell ⟨w.heap.size + 1 + 1, 1, none⟩ p1).setCell ⟨w.heap.size + 1 + 1, 2, none⟩ p2).setCell ⟨w.heap.size + 1 + 1, 3, none⟩ p3).setCell ⟨w.heap.size + 1 + 1, 4, none⟩ p4).setCell ⟨w.heap.size + 1 + 1, 5, none⟩ p5).setCell ⟨w.heap.size + 1 + 1, 6, none⟩ p6).setCell ⟨w.heap.size + 1 + 1, 7, none⟩ p7).setCell ⟨w.heap.size + 1 + 1, 8, none⟩ p8).setCell ⟨w.heap.size + 1 + 1, 9, none⟩ p9).setCell ⟨w.heap.size + 1 + 1 + 1, 0, none⟩ q0).setCell ⟨w.heap.size + 1 + 1 + 1, 1, none⟩ q1).setCell ⟨w.heap.size + 1 + 1 + 1, 2, none⟩ q2).setCell ⟨w.heap.size + 1 + 1 + 1, 3, none⟩ q3) → (W'.cell? ⟨w.heap.size + 1 + 1, 0, none⟩ = some p0 ∧ W'.cell? ⟨w.heap.size + 1 + 1, 1, none⟩ = some p1 ∧ W'.cell? ⟨w.heap.size + 1 + 1, 2, none⟩ = some p2 ∧ W'.cell? ⟨w.heap.size + 1 + 1, 3, none⟩ = some p3 ∧ W'.cell? ⟨w.heap.size + 1 + 1, 4, none⟩ = some p4 ∧ W'.cell? ⟨w.heap.size + 1 + 1, 5, none⟩ = some p5 ∧ W'.cell? ⟨w.heap.size + 1 + 1, 6, none⟩ = some p6 ∧ W'.cell? ⟨w.heap.size + 1 + 1, 7, none⟩ = some p7 ∧ W'.cell? ⟨w.heap.size + 1 + 1, 8, none⟩ = some p8 ∧ W'.cell? ⟨w.heap.size + 1 + 1, 9, none⟩ = some p9) ∧ (W'.cell? ⟨w.heap.size + 1 + 1 + 1, 0, none⟩ = some q0 ∧ W'.cell? ⟨w.heap.size + 1 + 1 + 1, 1, none⟩ = some q1 ∧ W'.cell? ⟨w.heap.size + 1 + 1 + 1, 2, none⟩ = some q2 ∧ W'.cell? ⟨w.heap.size + 1 + 1 + 1, 3, none⟩ = some q3) ∧ Below w.heap.size W W' ∧ w.grownBy W' row := by
  rintro W' rfl
  have br := ((((((((((((((h.rs.put 0 p0).put 1 p1).put 2 p2).put 3 p3).put 4 p4).put 5 p5).put 6 p6).put 7 p7).put 8 p8).put 9 p9).far (p := ⟨w.heap.size + 1 + 1 + 1, 0, none⟩) (by first | (simp; done) | (simp; omega) | omega) q0).far (p := ⟨w.heap.size + 1 + 1 + 1, 1, none⟩) (by first | (simp; done) | (simp; omega) | omega) q1).far (p := ⟨w.heap.size + 1 + 1 + 1, 2, none⟩) (by first | (simp; done) | (simp; omega) | omega) q2).far (p := ⟨w.heap.size + 1 + 1 + 1, 3, none⟩) (by first | (simp; done) | (simp; omega) | omega) q3)
  have bo := ((((((((((((((h.ro.far (p := ⟨w.heap.size + 1 + 1, 0, none⟩) (by first | (simp; done) | (simp; omega) | omega) p0).far (p := ⟨w.heap.size + 1 + 1, 1, none⟩) (by first | (simp; done) | (simp; omega) | omega) p1).far (p := ⟨w.heap.size + 1 + 1, 2, none⟩) (by first | (simp; done) | (simp; omega) | omega) p2).far (p := ⟨w.heap.size + 1 + 1, 3, none⟩) (by first | (simp; done) | (simp; omega) | omega) p3).far (p := ⟨w.heap.size + 1 + 1, 4, none⟩) (by first | (simp; done) | (simp; omega) | omega) p4).far (p := ⟨w.heap.size + 1 + 1, 5, none⟩) (by first | (simp; done) | (simp; omega) | omega) p5).far (p := ⟨w.heap.size + 1 + 1, 6, none⟩) (by first | (simp; done) | (simp; omega) | omega) p6).far (p := ⟨w.heap.size + 1 + 1, 7, none⟩) (by first | (simp; done) | (simp; omega) | omega) p7).far (p := ⟨w.heap.size + 1 + 1, 8, none⟩) (by first | (simp; done) | (simp; omega) | omega) p8).far (p := ⟨w.heap.size + 1 + 1, 9, none⟩) (by first | (simp; done) | (simp; omega) | omega) p9).put 0 q0).put 1 q1).put 2 q2).put 3 q3)
  have gr : w.grownBy ((((((((((((((W.setCell ⟨w.heap.size + 1 + 1, 0, none⟩ p0).setCell ⟨w.heap.size + 1 + 1, 1, none⟩ p1).setCell ⟨w.heap.size + 1 + 1, 2, none⟩ p2).setCell ⟨w.heap.size + 1 + 1, 3, none⟩ p3).setCell ⟨w.heap.size + 1 + 1, 4, none⟩ p4).setCell ⟨w.heap.size + 1 + 1, 5, none⟩ p5).setCell ⟨w.heap.size + 1 + 1, 6, none⟩ p6).setCell ⟨w.heap.size + 1 + 1, 7, none⟩ p7).setCell ⟨w.heap.size + 1 + 1, 8, none⟩ p8).setCell ⟨w.heap.size + 1 + 1, 9, none⟩ p9).setCell ⟨w.heap.size + 1 + 1 + 1, 0, none⟩ q0).setCell ⟨w.heap.size + 1 + 1 + 1, 1, none⟩ q1).setCell ⟨w.heap.size + 1 + 1 + 1, 2, none⟩ q2).setCell ⟨w.heap.size + 1 + 1 + 1, 3, none⟩ q3) row := (only_putc (only_putc (only_putc (only_putc (only_putc (only_putc (only_putc (only_putc (only_putc (only_putc (only_putc (only_putc (only_putc (only_putc h.grow (p := ⟨w.heap.size + 1 + 1, 0, none⟩) (by first | (simp; done) | (simp; omega) | omega) p0) (p := ⟨w.heap.size + 1 + 1, 1, none⟩) (by first | (simp; done) | (simp; omega) | omega) p1) (p := ⟨w.heap.size + 1 + 1, 2, none⟩) (by first | (simp; done) | (simp; omega) | omega) p2) (p := ⟨w.heap.size + 1 + 1, 3, none⟩) (by first | (simp; done) | (simp; omega) | omega) p3) (p := ⟨w.heap.size + 1 + 1, 4, none⟩) (by first | (simp; done) | (simp; omega) | omega) p4) (p := ⟨w.heap.size + 1 + 1, 5, none⟩) (by first | (simp; done) | (simp; omega) | omega) p5) (p := ⟨w.heap.size + 1 + 1, 6, none⟩) (by first | (simp; done) | (simp; omega) | omega) p6) (p := ⟨w.heap.size + 1 + 1, 7, none⟩) (by first | (simp; done) | (simp; omega) | omega) p7) (p := ⟨w.heap.size + 1 + 1, 8, none⟩) (by first | (simp; done) | (simp; omega) | omega) p8) (p := ⟨w.heap.size + 1 + 1, 9, none⟩) (by first | (simp; done) | (simp; omega) | omega) p9) (p := ⟨w.heap.size + 1 + 1 + 1, 0, none⟩) (by first | (simp; done) | (simp; omega) | omega) q0) (p := ⟨w.heap.size + 1 + 1 + 1, 1, none⟩) (by first | (simp; done) | (simp; omega) | omega) q1) (p := ⟨w.heap.size + 1 + 1 + 1, 2, none⟩) (by first | (simp; done) | (simp; omega) | omega) q2) (p := ⟨w.heap.size + 1 + 1 + 1, 3, none⟩) (by first | (simp; done) | (simp; omega) | omega) q3)
  have gb : Below w.heap.size W ((((((((((((((W.setCell ⟨w.heap.size + 1 + 1, 0, none⟩ p0).setCell ⟨w.heap.size + 1 + 1, 1, none⟩ p1).setCell ⟨w.heap.size + 1 + 1, 2, none⟩ p2).setCell ⟨w.heap.size + 1 + 1, 3, none⟩ p3).setCell ⟨w.heap.size + 1 + 1, 4, none⟩ p4).setCell ⟨w.heap.size + 1 + 1, 5, none⟩ p5).setCell ⟨w.heap.size + 1 + 1, 6, none⟩ p6).setCell ⟨w.heap.size + 1 + 1, 7, none⟩ p7).setCell ⟨w.heap.size + 1 + 1, 8, none⟩ p8).setCell ⟨w.heap.size + 1 + 1, 9, none⟩ p9).setCell ⟨w.heap.size + 1 + 1 + 1, 0, none⟩ q0).setCell ⟨w.heap.size + 1 + 1 + 1, 1, none⟩ q1).setCell ⟨w.heap.size + 1 + 1 + 1, 2, none⟩ q2).setCell ⟨w.heap.size + 1 + 1 + 1, 3, none⟩ q3) := (Cu.below_put (Cu.below_put (Cu.below_put (Cu.below_put (Cu.below_put (Cu.below_put (Cu.below_put (Cu.below_put (Cu.below_put (Cu.below_put (Cu.below_put (Cu.below_put (Cu.below_put (Cu.below_put (Below.refl w.heap.size W) (p := ⟨w.heap.size + 1 + 1, 0, none⟩) (by first | (simp; done) | (simp; omega) | omega) p0) (p := ⟨w.heap.size + 1 + 1, 1, none⟩) (by first | (simp; done) | (simp; omega) | omega) p1) (p := ⟨w.heap.size + 1 + 1, 2, none⟩) (by first | (simp; done) | (simp; omega) | omega) p2) (p := ⟨w.heap.size + 1 + 1, 3, none⟩) (by first | (simp; done) | (simp; omega) | omega) p3) (p := ⟨w.heap.size + 1 + 1, 4, none⟩) (by first | (simp; done) | (simp; omega) | omega) p4) (p := ⟨w.heap.size + 1 + 1, 5, none⟩) (by first | (simp; done) | (simp; omega) | omega) p5) (p := ⟨w.heap.size + 1 + 1, 6, none⟩) (by first | (simp; done) | (simp; omega) | omega) p6) (p := ⟨w.heap.size + 1 + 1, 7, none⟩) (by first | (simp; done) | (simp; omega) | omega) p7) (p := ⟨w.heap.size + 1 + 1, 8, none⟩) (by first | (simp; done) | (simp; omega) | omega) p8) (p := ⟨w.heap.size + 1 + 1, 9, none⟩) (by first | (simp; done) | (simp; omega) | omega) p9) (p := ⟨w.heap.size + 1 + 1 + 1, 0, none⟩) (by first | (simp; done) | (simp; omega) | omega) q0) (p := ⟨w.heap.size + 1 + 1 + 1, 1, none⟩) (by first | (simp; done) | (simp; omega) | omega) q1) (p := ⟨w.heap.size + 1 + 1 + 1, 2, none⟩) (by first | (simp; done) | (simp; omega) | omega) q2) (p := ⟨w.heap.size + 1 + 1 + 1, 3, none⟩) (by first | (simp; done) | (simp; omega) | omega) q3)
  simp only [List.setIfInBounds_toArray, List.set_cons_zero, List.set_cons_succ] at br bo
  generalize ((((((((((((((W.setCell ⟨w.heap.size + 1 + 1, 0, none⟩ p0).setCell ⟨w.heap.size + 1 + 1, 1, none⟩ p1).setCell ⟨w.heap.size + 1 + 1, 2, none⟩ p2).setCell ⟨w.heap.size + 1 + 1, 3, none⟩ p3).setCell ⟨w.heap.size + 1 + 1, 4, none⟩ p4).setCell ⟨w.heap.size + 1 + 1, 5, none⟩ p5).setCell ⟨w.heap.size + 1 + 1, 6, none⟩ p6).setCell ⟨w.heap.size + 1 + 1, 7, none⟩ p7).setCell ⟨w.heap.size + 1 + 1, 8, none⟩ p8).setCell ⟨w.heap.size + 1 + 1, 9, none⟩ p9).setCell ⟨w.heap.size + 1 + 1 + 1, 0, none⟩ q0).setCell ⟨w.heap.size + 1 + 1 + 1, 1, none⟩ q1).setCell ⟨w.heap.size + 1 + 1 + 1, 2, none⟩ q2).setCell ⟨w.heap.size + 1 + 1 + 1, 3, none⟩ q3) = X at br bo gr gb ⊢
  exact ⟨⟨br.cell 0, br.cell 1, br.cell 2, br.cell 3, br.cell 4, br.cell 5, br.cell 6, br.cell 7, br.cell 8, br.cell 9⟩, ⟨bo.cell 0, bo.cell 1, bo.cell 2, bo.cell 3⟩, gb, gr⟩
/-- The first registers cut. -/
def Cu.mix (r : Nat → Int) (k : Nat) : Nat → Int := fun i => if i < k then r i % 65536 else r i
theorem Cu.mix_put (pc md : Int) (r : Nat → Int) (k : Nat) (hk : k < 8) : (Cu.stC pc (Cu.mix r k) md).setIfInBounds (1 + k) (.int .i64 (r k % 65536)) = Cu.stC pc (Cu.mix r (k + 1)) md := by
  rw [Cu.stC_reg _ _ _ _ hk]
  have : Cu.upd (Cu.mix r k) k (r k % 65536) = Cu.mix r (k + 1) := by
    funext i
    unfold Cu.upd Cu.mix
    by_cases h1 : i = k
    · subst h1; simp
    · by_cases h2 : i < k
      · rw [if_neg h1, if_pos h2, if_pos (by omega)]
      · rw [if_neg h1, if_neg h2, if_neg (by omega)]
  rw [this]
def Cu.cut (r : Nat → Int) : Nat → Int := fun i => r i % 65536
theorem Cu.mix_0 (pc md : Int) (r : Nat → Int) : Cu.stC pc (Cu.mix r 0) md = Cu.stC pc r md := rfl
theorem Cu.mix_8 (pc md : Int) (r : Nat → Int) : Cu.stC pc (Cu.mix r 8) md = Cu.stC pc (Cu.cut r) md := rfl
set_option maxHeartbeats 3200000 in
theorem Cu.step_off (m : Nat) (base size pc md : Int) (r : Nat → Int) (hmd : md ≠ 0) (w : World) : Calls Tryd.prog 36 #[Cu.vw m base size, Cu.stV pc r md] w fun e w' => e = .returned (.tuple #[Cu.stV pc r md, Cu.outV 0 0 0 0]) ∧ w.grownBy w' none := by
  have h1 : (md == 0) = false := by simpa using hmd
  unfold Cu.stV Cu.stC Cu.outV Cu.vw
  go_enter Tryd.func36, Tryd.ntmps36
  go_wp2
  refine bodyPost_ret (v := .tuple #[.agg #[.int .i64 pc, .int .i64 (r 0), .int .i64 (r 1), .int .i64 (r 2), .int .i64 (r 3), .int .i64 (r 4), .int .i64 (r 5), .int .i64 (r 6), .int .i64 (r 7), .int .i64 md], .agg #[.int .i64 0, .int .i64 0, .int .i64 0, .int .i64 0]]) (by simp [results, Tryd.results36, go_sem]) rfl ⟨rfl, ?_⟩
  repeat (first | exact only_refl _ _ | refine only_alloc ?_ _)
end Go.Proofs.YthhodadfiipffaaDoor

/- Package cpu: a step that runs. -/
namespace Go.Proofs.YthhodadfiipffaaDoor
open Go.RowKit Go.Lib
set_option linter.unusedVariables false
set_option maxRecDepth 8000

theorem Cu.reg_index (r : Nat → Int) (k : Nat) (hk : k < 8) (w : World) : (Instr.index 33 (.agg #[.int .i64 (r 0), .int .i64 (r 1), .int .i64 (r 2), .int .i64 (r 3), .int .i64 (r 4), .int .i64 (r 5), .int .i64 (r 6), .int .i64 (r 7)]) (.int .i64 (k : Int))).run Tryd.prog w = .ok (.int .i64 (r k)) w := by
  have key : k = 0 ∨ k = 1 ∨ k = 2 ∨ k = 3 ∨ k = 4 ∨ k = 5 ∨ k = 6 ∨ k = 7 := by omega
  rcases key with rfl | rfl | rfl | rfl | rfl | rfl | rfl | rfl
  all_goals (show Sem.run _ _ w = _; kernel_rfl)
set_option maxRecDepth 20000 in
set_option maxHeartbeats 12800000 in
theorem Cu.step_err (m : Nat) (base size pc er : Int) (r : Nat → Int) (w : World) (her : er ≠ 0) (hf : ∀ W, w.grownBy W none → Calls Tryd.prog 44 #[Cu.vw m base size, .int .i64 pc] W fun e w' => e = .returned (.tuple #[.agg #[.int .u8 0, .int .i64 0, .int .i64 0], .int .i64 er]) ∧ W.grownBy w' none) : Calls Tryd.prog 36 #[Cu.vw m base size, Cu.stV pc r 0] w fun e w' => e = .returned (.tuple #[Cu.stV pc (Cu.cut r) 3, Cu.outV 5 0 0 er]) ∧ w.grownBy w' none := by
  have h1 : (er == 0) = false := by simpa using her
  have HF := Lib.hid hf
  clear hf her
  have HBR := Lib.hid (fun W => Cu.broken_any pc 0 er (Cu.cut r) W)
  unfold Cu.stV at HBR ⊢
  unfold Cu.outV at HBR ⊢
  show Calls _ _ #[_, .agg (Cu.stC pc r 0)] _ _
  unfold Cu.stC at HBR ⊢
  have HI := Lib.hid (Cu.reg_index r)
  unfold Cu.vw at HF ⊢
  go_enter Tryd.func36, Tryd.ntmps36
  go_upto_region 1 with (fail)
  show Code.wp _ _ _ _ (Cu.sd w m base size (Cu.stC pc r 0))
  have HS0 := Lib.hid (Cu.Sw.new w m base size (Cu.stC pc r 0))
  generalize Cu.sd w m base size (Cu.stC pc r 0) = W at *
  obtain ⟨⟨v0, v1, v2⟩, ⟨s0, s1, s2, s3, s4, s5, s6, s7, s8, s9⟩⟩ := HS0.out.args
  go_wp2
  clear v0 v1 v2 s0 s1 s2 s3 s4 s5 s6 s7 s8 s9
  go_loopw [17] (fun y wr => ∃ k : Nat, y = .int .i64 k ∧ k ≤ 8 ∧ Hid (Cu.Sw w wr m base size (Cu.stC pc (Cu.mix r k) 0) #[.int .i64 0, .int .i64 0, .int .i64 0, .int .i64 0, .int .i64 0, .int .i64 0, .int .i64 0, .int .i64 0, .int .i64 0, .int .i64 0] #[.int .i64 0, .int .i64 0, .int .i64 0, .int .i64 0] none)) (fun y _ => 8 - (Go.RowKit.intOf y).toNat)
  case atStart => exact ⟨0, rfl, Nat.zero_le _, HS0⟩
  case round =>
    obtain ⟨k, rfl, hk, HS⟩ := hrel
    clear HS0
    by_cases hin : k < 8
    · have c0 := HS.out.sb.cell (1 + k)
      have f0 := HS.out.sb.free (1 + k)
      have c1 := (Cu.st_cells HS.out.sb).2.2 k hin
      have HS2 := Lib.hid (HS.out.putS (1 + k) (.int .i64 (r k % 65536)))
      rw [Cu.mix_put _ _ _ k hin] at HS2
      have hx := HI.out k hin
      have HKI := Lib.hid (show k + 1 ≤ 8 from hin)
      have i1 : (k : Int) < 8 := by omega
      have i2 : (0 : Int) ≤ (k : Int) := by omega
      have i3 : ¬ (k : Int) < 0 := by omega
      have i4 : ¬ (7 : Int) < (k : Int) := by omega
      clear HS hk hin c0
      go_wp2_with (go_at_call 43; refine (Cu.two_any _ _).mono ?_; rintro e w' ⟨rfl, rfl⟩)
      go_roundw
      case rel => exact ⟨k + 1, by go_num, HKI.out, HS2⟩
      case measure =>
        have := HKI.out
        simp [Go.RowKit.intOf]
        omega
    · obtain rfl : k = 8 := by omega
      have HS1 := Lib.hid (show Cu.Sw w wr m base size (Cu.stC pc (Cu.cut r) 0) #[.int .i64 0, .int .i64 0, .int .i64 0, .int .i64 0, .int .i64 0, .int .i64 0, .int .i64 0, .int .i64 0, .int .i64 0, .int .i64 0] #[.int .i64 0, .int .i64 0, .int .i64 0, .int .i64 0] none from HS.out)
      clear HS hk hin
      obtain ⟨⟨v0, v1, v2⟩, ⟨s0, s1, s2, s3, s4, s5, s6, s7, s8, s9⟩⟩ := HS1.out.args; obtain ⟨⟨z0, z1, z2, z3, z4, z5, z6, z7, z8, z9⟩, ⟨y0, y1, y2, y3⟩, ⟨f0, f1, f2, f3, f4, f5, f6, f7, f8, f9⟩, ⟨e0, e1, e2, e3⟩⟩ := HS1.out.free
      go_upto_region 9 with (go_at_call 44; (with_reducible refine (HF.out _ HS1.out.grow).mono ?_); rintro e' w1 ⟨rfl, g1⟩; have HS2 := Lib.hid (HS1.out.step g1); clear v0 v1 v2 s0 s1 s2 s3 s4 s5 s6 s7 s8 s9 z0 z1 z2 z3 z4 z5 z6 z7 z8 z9 y0 y1 y2 y3 f0 f1 f2 f3 f4 f5 f6 f7 f8 f9 e0 e1 e2 e3 g1)
      obtain ⟨b, hb⟩ : ∃ b, b = w1.heap.size := ⟨_, rfl⟩
      have HB := Lib.hid (show Blk (w1.alloc (.cells #[.int .u8 0, .int .i64 0, .int .i64 0] 104)) b 104 #[.int .u8 0, .int .i64 0, .int .i64 0] from by rw [hb]; exact Blk.new _ _ _)
      have HS3 := Lib.hid (HS2.out.step (only_alloc (only_refl w1 none) (.cells #[.int .u8 0, .int .i64 0, .int .i64 0] 104)))
      obtain ⟨w2, hw2⟩ : ∃ w2, w2 = w1.alloc (.cells #[.int .u8 0, .int .i64 0, .int .i64 0] 104) := ⟨_, rfl⟩
      rw [← hw2] at HB HS3 ⊢
      rw [← hb]
      clear hw2 hb HS1 HS2
      obtain ⟨i0, i1, i2⟩ := in3 HB.out
      obtain ⟨⟨v0, v1, v2⟩, ⟨s0, s1, s2, s3, s4, s5, s6, s7, s8, s9⟩⟩ := HS3.out.args; obtain ⟨⟨z0, z1, z2, z3, z4, z5, z6, z7, z8, z9⟩, ⟨y0, y1, y2, y3⟩, ⟨f0, f1, f2, f3, f4, f5, f6, f7, f8, f9⟩, ⟨e0, e1, e2, e3⟩⟩ := HS3.out.free
      go_wp2_with (go_at_call 45; (with_reducible refine (HBR.out _).mono ?_); rintro e5 w5 ⟨rfl, g5⟩; have HS5 := Lib.hid (HS3.out.step g5); clear v0 v1 v2 s0 s1 s2 s3 s4 s5 s6 s7 s8 s9 z0 z1 z2 z3 z4 z5 z6 z7 z8 z9 y0 y1 y2 y3 f0 f1 f2 f3 f4 f5 f6 f7 f8 f9 e0 e1 e2 e3 i0 i1 i2 g5; obtain ⟨⟨v0, v1, v2⟩, ⟨s0, s1, s2, s3, s4, s5, s6, s7, s8, s9⟩⟩ := HS5.out.args; obtain ⟨⟨z0, z1, z2, z3, z4, z5, z6, z7, z8, z9⟩, ⟨y0, y1, y2, y3⟩, ⟨f0, f1, f2, f3, f4, f5, f6, f7, f8, f9⟩, ⟨e0, e1, e2, e3⟩⟩ := HS5.out.free)
      obtain ⟨⟨r0, r1, r2, r3, r4, r5, r6, r7, r8, r9⟩, ⟨u0, u1, u2, u3⟩, G8, G9⟩ := HS5.out.fin0 (.int .i64 pc) (.int .i64 (Cu.cut r 0)) (.int .i64 (Cu.cut r 1)) (.int .i64 (Cu.cut r 2)) (.int .i64 (Cu.cut r 3)) (.int .i64 (Cu.cut r 4)) (.int .i64 (Cu.cut r 5)) (.int .i64 (Cu.cut r 6)) (.int .i64 (Cu.cut r 7)) (.int .i64 3) (.int .i64 5) (.int .i64 0) (.int .i64 0) (.int .i64 er) _ rfl
      refine bodyPost_ret (v := .tuple #[.agg #[.int .i64 pc, .int .i64 (Cu.cut r 0), .int .i64 (Cu.cut r 1), .int .i64 (Cu.cut r 2), .int .i64 (Cu.cut r 3), .int .i64 (Cu.cut r 4), .int .i64 (Cu.cut r 5), .int .i64 (Cu.cut r 6), .int .i64 (Cu.cut r 7), .int .i64 3], .agg #[.int .i64 5, .int .i64 0, .int .i64 0, .int .i64 er]]) (by simp [results, Tryd.results36, go_sem, r0, r1, r2, r3, r4, r5, r6, r7, r8, r9, u0, u1, u2, u3]) rfl ⟨rfl, G9⟩
set_option maxRecDepth 20000 in
set_option maxHeartbeats 12800000 in
theorem Cu.step_ok (m B g : Nat) (base size pc c x n pc2 md2 o1 o2 o3 o4 : Int) (r rr : Nat → Int) (l2 : List UInt8) (w : World) (hml : m < w.heap.size ∧ g < w.heap.size) (hf : ∀ W, w.grownBy W none → Calls Tryd.prog 44 #[Cu.vw m base size, .int .i64 pc] W fun e w' => e = .returned (.tuple #[.agg #[.int .u8 c, .int .i64 x, .int .i64 n], .int .i64 0]) ∧ W.grownBy w' none) (hd : ∀ W, w.grownBy W none → Calls Tryd.prog 46 #[Cu.vw m base size, Cu.stV pc (Cu.cut r) 0, Cu.inV c x n] W fun e w' => e = .returned (.tuple #[Cu.stV pc2 rr md2, Cu.outV o1 o2 o3 o4]) ∧ MemG w' B m g l2 ∧ W.grownBy w' (some g)) : Calls Tryd.prog 36 #[Cu.vw m base size, Cu.stV pc r 0] w fun e w' => e = .returned (.tuple #[Cu.stV pc2 rr md2, Cu.outV o1 o2 o3 o4]) ∧ MemG w' B m g l2 ∧ w.grownBy w' (some g) := by
  have HF := Lib.hid hf
  have HDO := Lib.hid hd
  clear hf hd
  unfold Cu.stV at HDO ⊢
  unfold Cu.outV at HDO ⊢
  unfold Cu.inV at HDO
  unfold Cu.vw at HDO
  unfold Cu.stC at HDO ⊢
  have HI := Lib.hid (Cu.reg_index r)
  unfold Cu.vw at HF ⊢
  go_enter Tryd.func36, Tryd.ntmps36
  go_upto_region 1 with (fail)
  show Code.wp _ _ _ _ (Cu.sd w m base size (Cu.stC pc r 0))
  have HS0 := Lib.hid (Cu.Sw.new w m base size (Cu.stC pc r 0))
  generalize Cu.sd w m base size (Cu.stC pc r 0) = W at *
  obtain ⟨⟨v0, v1, v2⟩, ⟨s0, s1, s2, s3, s4, s5, s6, s7, s8, s9⟩⟩ := HS0.out.args
  go_wp2
  clear v0 v1 v2 s0 s1 s2 s3 s4 s5 s6 s7 s8 s9
  go_loopw [17] (fun y wr => ∃ k : Nat, y = .int .i64 k ∧ k ≤ 8 ∧ Hid (Cu.Sw w wr m base size (Cu.stC pc (Cu.mix r k) 0) #[.int .i64 0, .int .i64 0, .int .i64 0, .int .i64 0, .int .i64 0, .int .i64 0, .int .i64 0, .int .i64 0, .int .i64 0, .int .i64 0] #[.int .i64 0, .int .i64 0, .int .i64 0, .int .i64 0] none)) (fun y _ => 8 - (Go.RowKit.intOf y).toNat)
  case atStart => exact ⟨0, rfl, Nat.zero_le _, HS0⟩
  case round =>
    obtain ⟨k, rfl, hk, HS⟩ := hrel
    clear HS0
    by_cases hin : k < 8
    · have c0 := HS.out.sb.cell (1 + k)
      have f0 := HS.out.sb.free (1 + k)
      have c1 := (Cu.st_cells HS.out.sb).2.2 k hin
      have HS2 := Lib.hid (HS.out.putS (1 + k) (.int .i64 (r k % 65536)))
      rw [Cu.mix_put _ _ _ k hin] at HS2
      have hx := HI.out k hin
      have HKI := Lib.hid (show k + 1 ≤ 8 from hin)
      have i1 : (k : Int) < 8 := by omega
      have i2 : (0 : Int) ≤ (k : Int) := by omega
      have i3 : ¬ (k : Int) < 0 := by omega
      have i4 : ¬ (7 : Int) < (k : Int) := by omega
      clear HS hk hin c0
      go_wp2_with (go_at_call 43; refine (Cu.two_any _ _).mono ?_; rintro e w' ⟨rfl, rfl⟩)
      go_roundw
      case rel => exact ⟨k + 1, by go_num, HKI.out, HS2⟩
      case measure =>
        have := HKI.out
        simp [Go.RowKit.intOf]
        omega
    · obtain rfl : k = 8 := by omega
      have HS1 := Lib.hid (show Cu.Sw w wr m base size (Cu.stC pc (Cu.cut r) 0) #[.int .i64 0, .int .i64 0, .int .i64 0, .int .i64 0, .int .i64 0, .int .i64 0, .int .i64 0, .int .i64 0, .int .i64 0, .int .i64 0] #[.int .i64 0, .int .i64 0, .int .i64 0, .int .i64 0] none from HS.out)
      clear HS hk hin
      obtain ⟨⟨v0, v1, v2⟩, ⟨s0, s1, s2, s3, s4, s5, s6, s7, s8, s9⟩⟩ := HS1.out.args; obtain ⟨⟨z0, z1, z2, z3, z4, z5, z6, z7, z8, z9⟩, ⟨y0, y1, y2, y3⟩, ⟨f0, f1, f2, f3, f4, f5, f6, f7, f8, f9⟩, ⟨e0, e1, e2, e3⟩⟩ := HS1.out.free
      go_upto_region 9 with (go_at_call 44; (with_reducible refine (HF.out _ HS1.out.grow).mono ?_); rintro e' w1 ⟨rfl, g1⟩; have HS2 := Lib.hid (HS1.out.step g1); clear v0 v1 v2 s0 s1 s2 s3 s4 s5 s6 s7 s8 s9 z0 z1 z2 z3 z4 z5 z6 z7 z8 z9 y0 y1 y2 y3 f0 f1 f2 f3 f4 f5 f6 f7 f8 f9 e0 e1 e2 e3 g1)
      obtain ⟨b, hb⟩ : ∃ b, b = w1.heap.size := ⟨_, rfl⟩
      have HB := Lib.hid (show Blk (w1.alloc (.cells #[.int .u8 c, .int .i64 x, .int .i64 n] 104)) b 104 #[.int .u8 c, .int .i64 x, .int .i64 n] from by rw [hb]; exact Blk.new _ _ _)
      have HS3 := Lib.hid (HS2.out.step (only_alloc (only_refl w1 none) (.cells #[.int .u8 c, .int .i64 x, .int .i64 n] 104)))
      obtain ⟨w2, hw2⟩ : ∃ w2, w2 = w1.alloc (.cells #[.int .u8 c, .int .i64 x, .int .i64 n] 104) := ⟨_, rfl⟩
      rw [← hw2] at HB HS3 ⊢
      rw [← hb]
      clear hw2 hb HS1 HS2
      obtain ⟨i0, i1, i2⟩ := in3 HB.out
      obtain ⟨⟨v0, v1, v2⟩, ⟨s0, s1, s2, s3, s4, s5, s6, s7, s8, s9⟩⟩ := HS3.out.args; obtain ⟨⟨z0, z1, z2, z3, z4, z5, z6, z7, z8, z9⟩, ⟨y0, y1, y2, y3⟩, ⟨f0, f1, f2, f3, f4, f5, f6, f7, f8, f9⟩, ⟨e0, e1, e2, e3⟩⟩ := HS3.out.free
      go_wp2_with (go_at_call 46; (with_reducible refine (HDO.out _ HS3.out.grow).mono ?_); rintro e5 w5 ⟨rfl, hm5, g5⟩; have HM5 := Lib.hid hm5; have HS5 := Lib.hid (HS3.out.far hml.2 g5); clear v0 v1 v2 s0 s1 s2 s3 s4 s5 s6 s7 s8 s9 z0 z1 z2 z3 z4 z5 z6 z7 z8 z9 y0 y1 y2 y3 f0 f1 f2 f3 f4 f5 f6 f7 f8 f9 e0 e1 e2 e3 i0 i1 i2 g5 hm5; obtain ⟨⟨v0, v1, v2⟩, ⟨s0, s1, s2, s3, s4, s5, s6, s7, s8, s9⟩⟩ := HS5.out.args; obtain ⟨⟨z0, z1, z2, z3, z4, z5, z6, z7, z8, z9⟩, ⟨y0, y1, y2, y3⟩, ⟨f0, f1, f2, f3, f4, f5, f6, f7, f8, f9⟩, ⟨e0, e1, e2, e3⟩⟩ := HS5.out.free)
      obtain ⟨⟨r0, r1, r2, r3, r4, r5, r6, r7, r8, r9⟩, ⟨u0, u1, u2, u3⟩, G8, G9⟩ := HS5.out.fin0 (.int .i64 pc2) (.int .i64 (rr 0)) (.int .i64 (rr 1)) (.int .i64 (rr 2)) (.int .i64 (rr 3)) (.int .i64 (rr 4)) (.int .i64 (rr 5)) (.int .i64 (rr 6)) (.int .i64 (rr 7)) (.int .i64 md2) (.int .i64 o1) (.int .i64 o2) (.int .i64 o3) (.int .i64 o4) _ rfl
      refine bodyPost_ret (v := .tuple #[.agg #[.int .i64 pc2, .int .i64 (rr 0), .int .i64 (rr 1), .int .i64 (rr 2), .int .i64 (rr 3), .int .i64 (rr 4), .int .i64 (rr 5), .int .i64 (rr 6), .int .i64 (rr 7), .int .i64 md2], .agg #[.int .i64 o1, .int .i64 o2, .int .i64 o3, .int .i64 o4]]) (by simp [results, Tryd.results36, go_sem, r0, r1, r2, r3, r4, r5, r6, r7, r8, r9, u0, u1, u2, u3]) rfl ⟨rfl, HM5.out.keep G8 hml.1 hml.2, G9⟩
end Go.Proofs.YthhodadfiipffaaDoor

/- Package cpu: a step, by contract. -/
namespace Go.Proofs.YthhodadfiipffaaDoor
open Go.RowKit Go.Lib
set_option linter.unusedVariables false
set_option maxRecDepth 8000

def Cu.step (V : List UInt8) (pc : Int) (r : Nat → Int) (md : Int) : Cu.Af :=
  if md ≠ 0 then ⟨V, pc, r, md, 0, 0, 0, 0⟩
  else if 0 ≤ pc ∧ pc + 4 ≤ V.length then
    (if mayI (gb (Cu.ins V pc.toNat) 0) (gb (Cu.ins V pc.toNat) 1) (gw (Cu.ins V pc.toNat) 2) = true then Cu.exec V pc (Cu.cut r) (gb (Cu.ins V pc.toNat) 0) (gb (Cu.ins V pc.toNat) 1) (gw (Cu.ins V pc.toNat) 2) else ⟨V, pc, Cu.cut r, 3, 5, 0, 0, 12⟩)
  else ⟨V, pc, Cu.cut r, 3, 5, 0, 0, 6⟩
theorem Cu.bs_len (b : Bool) (x : Int) : (Cu.bs b x).length = if b then 2 else 1 := by cases b <;> rfl
theorem Cu.exec_len (V : List UInt8) (pc : Int) (r : Nat → Int) (c x n : Nat) : (Cu.exec V pc r c x n).v.length = V.length := by
  unfold Cu.exec
  by_cases h0 : c = 0
  · simp only [if_pos h0]
  rw [if_neg h0]
  by_cases h15 : c = 15
  · simp only [if_pos h15]
  rw [if_neg h15]
  by_cases h14 : c = 14
  · simp only [if_pos h14]
  rw [if_neg h14]
  by_cases hj : c = 11 ∨ c = 12 ∨ c = 13
  · simp only [if_pos hj]
  rw [if_neg hj]
  by_cases hrd : c = 7 ∨ c = 9
  · rw [if_pos hrd]
    split <;> rfl
  rw [if_neg hrd]
  by_cases hwr : c = 8 ∨ c = 10
  · rw [if_pos hwr]
    split
    · rename_i hf
      refine over_len ?_
      rw [Cu.bs_len]
      unfold Cu.wd' at hf
      rcases hwr with rfl | rfl <;> simp at hf ⊢ <;> omega
    · rfl
  rw [if_neg hwr]
theorem Cu.exec_pc (V : List UInt8) (pc : Int) (r : Nat → Int) (c x n : Nat) (hpc : pc + 4 ≤ V.length) (hV : V.length ≤ 16384) (hn : n ≤ 65535) : (Cu.exec V pc r c x n).pc ≤ 9223372036854775807 := by
  unfold Cu.exec
  split
  · show pc ≤ _; omega
  split
  · show pc + 4 ≤ _; omega
  split
  · show pc + 4 ≤ _; omega
  split
  · have key : ∀ b : Bool, (if b then (n : Int) else pc + 4) ≤ 9223372036854775807 := by
      intro b
      cases b
      · rw [if_neg (by simp)]; omega
      · rw [if_pos rfl]; omega
    exact key _
  split
  · split
    · show pc + 4 ≤ _; omega
    · show pc ≤ _; omega
  split
  · split
    · show pc + 4 ≤ _; omega
    · show pc ≤ _; omega
  · show pc + 4 ≤ _; omega
theorem Cu.step_len (V : List UInt8) (pc : Int) (r : Nat → Int) (md : Int) : (Cu.step V pc r md).v.length = V.length := by
  unfold Cu.step
  split
  · rfl
  split
  · split
    · exact Cu.exec_len _ _ _ _ _ _
    · rfl
  · rfl
theorem Cu.step_pc (V : List UInt8) (pc : Int) (r : Nat → Int) (md : Int) (hV : V.length ≤ 16384) (hpc : pc ≤ 9223372036854775807) : (Cu.step V pc r md).pc ≤ 9223372036854775807 := by
  unfold Cu.step
  split
  · exact hpc
  split
  · rename_i h
    split
    · exact Cu.exec_pc _ _ _ _ _ _ h.2 hV (by have := gw_lt (Cu.ins V pc.toNat) 2; omega)
    · exact hpc
  · exact hpc
theorem Cu.ins_at {p V q : List UInt8} {k : Nat} (hk : k + 4 ≤ V.length) : Cu.ins (p ++ V ++ q) (p.length + k) = Cu.ins V k := by
  unfold Cu.ins
  congr 2
  rw [List.append_assoc, List.drop_length_add_append, List.drop_append_of_le_length (by omega), List.take_append_of_le_length (by simp; omega)]
theorem Cu.ins_size {V : List UInt8} {k : Nat} (hk : k + 4 ≤ V.length) : (Cu.ins V k).size = 4 := by
  show ((V.drop k).take 4).toArray.size = 4
  simp
  omega
theorem Cu.cut_in (r : Nat → Int) (i : Nat) : 0 ≤ Cu.cut r i ∧ Cu.cut r i < 65536 := by unfold Cu.cut; omega
theorem Cu.step_any (w : World) (B m g : Nat) (p V q : List UInt8) (h : MemG w B m g (p ++ V ++ q)) (hN : Nm w) (hl : (p ++ V ++ q).length ≤ 16384) (pc : Int) (hpc : pc ≤ 9223372036854775807) (r : Nat → Int) (md : Int) :
    Calls Tryd.prog 36 #[Cu.vw m p.length V.length, Cu.stV pc r md] w fun e w' => e = .returned (.tuple #[Cu.stV (Cu.step V pc r md).pc (Cu.step V pc r md).r (Cu.step V pc r md).md, Cu.outV (Cu.step V pc r md).o1 (Cu.step V pc r md).o2 (Cu.step V pc r md).o3 (Cu.step V pc r md).o4]) ∧ MemG w' B m g (p ++ (Cu.step V pc r md).v ++ q) ∧ w.grownBy w' (some g) := by
  have hI : Cu.In (p ++ V ++ q) p.length V.length := Cu.at_in hl
  have quiet : ∀ {e : Ending} {w' : World} {A : Prop}, (A ∧ w.grownBy w' none) → A ∧ MemG w' B m g (p ++ V ++ q) ∧ w.grownBy w' (some g) := fun hh => ⟨hh.1, h.grown hh.2, only_any hh.2 _⟩
  have hV : V.length ≤ 16384 := by simp at hl; omega
  unfold Cu.step
  by_cases hmd : md ≠ 0
  · simp only [if_pos hmd]
    exact (Cu.step_off m p.length V.length pc md r hmd w).mono fun e w' hh => quiet (e := e) hh
  obtain rfl : md = 0 := Classical.not_not.1 hmd
  rw [if_neg hmd]
  by_cases hp : ¬ (0 ≤ pc ∧ pc + 4 ≤ V.length)
  · simp only [if_neg hp]
    refine (Cu.step_err m p.length V.length pc 6 r w (by omega) (fun W gW => ?_)).mono fun e w' hh => quiet (e := e) hh
    exact Cu.fetch_no W B m _ p.length V.length (h.grown gW).mem hI pc hp hpc
  replace hp := Classical.not_not.1 hp
  rw [if_pos hp]
  obtain ⟨k, rfl⟩ := Int.eq_ofNat_of_zero_le hp.1
  rw [Int.toNat_natCast]
  have hk : k + 4 ≤ V.length := by omega
  have hfe := fun W (gW : w.grownBy W none) => Cu.fetch_yes W B m _ p.length V.length (h.grown gW).mem (hN.grown gW (by simp)) hI k hk
  rw [Cu.ins_at hk] at hfe
  have hz := Cu.ins_size hk
  generalize Cu.ins V k = t at *
  unfold getV at hfe
  rw [if_neg (by omega)] at hfe
  by_cases hm : mayI (gb t 0) (gb t 1) (gw t 2) = true
  · rw [if_pos hm] at hfe ⊢
    refine Cu.step_ok m B g p.length V.length k (gb t 0) (gb t 1) (gw t 2) _ _ _ _ _ _ r _ _ w ⟨h.lt.2, h.lt.1⟩ hfe (fun W gW => ?_)
    exact Cu.do_any W B m g p V q (h.grown gW) hl k ⟨by omega, by omega⟩ (Cu.cut r) (Cu.cut_in r) (gb t 0) (gb t 1) (gw t 2) hm
  · simp only [if_neg hm] at hfe ⊢
    exact (Cu.step_err m p.length V.length k 12 r w (by omega) hfe).mono fun e w' hh => quiet (e := e) hh
end Go.Proofs.YthhodadfiipffaaDoor
