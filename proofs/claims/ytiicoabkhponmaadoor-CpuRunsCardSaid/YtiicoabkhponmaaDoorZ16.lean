import Derived.Test.YtiicoabkhponmaaDoorZ11
import Derived.Test.YtiicoabkhponmaaDoorZ12
import Derived.Test.YtiicoabkhponmaaDoorZ13
import Derived.Test.YtiicoabkhponmaaDoorZ14
import Derived.Test.YtiicoabkhponmaaDoorZ15
set_option linter.all false
/- Package cpu: what an instruction does to a view's bytes and a state; do, by contract. -/
namespace Go.Proofs.YtiicoabkhponmaaDoor
open Go.RowKit Go.Lib
set_option linter.unusedVariables false
set_option maxRecDepth 8000

/-- What a step leaves: the bytes, the state, what was done. -/
structure Cu.Af where
  v : List UInt8
  pc : Int
  r : Nat → Int
  md : Int
  o1 : Int
  o2 : Int
  o3 : Int
  o4 : Int
def Cu.rd (V : List UInt8) (two : Bool) (k : Nat) : Int := if two then two8 V k else ((V.getD k 0).toNat : Int)
def Cu.wd' (c : Nat) : Nat := if c = 9 ∨ c = 10 then 2 else 1
def Cu.exec (V : List UInt8) (pc : Int) (r : Nat → Int) (c x n : Nat) : Cu.Af :=
  if c = 0 then ⟨V, pc, r, 2, 4, 0, 0, 0⟩
  else if c = 15 then ⟨V, pc + 4, r, 1, 3, 0, 0, 0⟩
  else if c = 14 then ⟨V, pc + 4, r, 0, 2, n, x, 0⟩
  else if c = 11 ∨ c = 12 ∨ c = 13 then ⟨V, if Cu.jm c (r x) (r 0) then n else pc + 4, r, 0, 1, 0, 0, 0⟩
  else if c = 7 ∨ c = 9 then (if (r n).toNat + Cu.wd' c ≤ V.length then ⟨V, pc + 4, Cu.upd r x (Cu.rd V (c = 9) (r n).toNat), 0, 1, 0, 0, 0⟩ else ⟨V, pc, r, 3, 5, 0, 0, 6⟩)
  else if c = 8 ∨ c = 10 then (if (r n).toNat + Cu.wd' c ≤ V.length then ⟨over V (r n).toNat (Cu.bs (c = 10) (r x)), pc + 4, r, 0, 1, 0, 0, 0⟩ else ⟨V, pc, r, 3, 5, 0, 0, 6⟩)
  else ⟨V, pc + 4, Cu.upd r x (Cu.mkV c n (r x) (r n)), 0, 1, 0, 0, 0⟩
section
variable {p V q : List UInt8}
theorem Cu.at_get {k : Nat} (hk : k < V.length) : (p ++ V ++ q).getD (p.length + k) 0 = V.getD k 0 := by
  rw [List.getD_eq_getElem?_getD, List.getD_eq_getElem?_getD, List.append_assoc, List.getElem?_append_right (by omega), Nat.add_sub_cancel_left, List.getElem?_append_left hk]
theorem Cu.at_two {k : Nat} (hk : k + 2 ≤ V.length) : two8 (p ++ V ++ q) (p.length + k) = two8 V k := by
  unfold two8
  rw [Cu.at_get (by omega), Nat.add_assoc, Cu.at_get (by omega)]
theorem Cu.at_over {k : Nat} {bs : List UInt8} (hk : k + bs.length ≤ V.length) : over (p ++ V ++ q) (p.length + k) bs = p ++ over V k bs ++ q := by
  unfold over
  have e1 : (p ++ V ++ q).take (p.length + k) = p ++ V.take k := by
    rw [List.append_assoc, List.take_length_add_append, List.take_append_of_le_length (by omega)]
  have e2 : (p ++ V ++ q).drop (p.length + k + bs.length) = V.drop (k + bs.length) ++ q := by
    rw [List.append_assoc, Nat.add_assoc, List.drop_length_add_append, List.drop_append_of_le_length (by omega)]
  rw [e1, e2]
  simp [List.append_assoc]
theorem Cu.at_in (h : (p ++ V ++ q).length ≤ 16384) : Cu.In (p ++ V ++ q) p.length V.length := ⟨by simp <;> omega, h⟩
end
theorem Cu.over_len' {l bs : List UInt8} {k : Nat} (h : k + bs.length ≤ l.length) : (over l k bs).length = l.length := over_len h
set_option maxHeartbeats 1600000 in
theorem Cu.do_any (w : World) (B m g : Nat) (p V q : List UInt8) (h : MemG w B m g (p ++ V ++ q)) (hl : (p ++ V ++ q).length ≤ 16384) (pc : Int) (hpc : 0 ≤ pc ∧ pc ≤ 16384) (r : Nat → Int) (hr : ∀ i, 0 ≤ r i ∧ r i < 65536) (c x n : Nat) (hm : mayI c x n = true) :
    Calls Tryd.prog 27 #[Cu.vw m p.length V.length, Cu.stV pc r 0, Cu.inV c x n] w fun e w' => e = .returned (.tuple #[Cu.stV (Cu.exec V pc r c x n).pc (Cu.exec V pc r c x n).r (Cu.exec V pc r c x n).md, Cu.outV (Cu.exec V pc r c x n).o1 (Cu.exec V pc r c x n).o2 (Cu.exec V pc r c x n).o3 (Cu.exec V pc r c x n).o4]) ∧ MemG w' B m g (p ++ (Cu.exec V pc r c x n).v ++ q) ∧ w.grownBy w' (some g) := by
  obtain ⟨hc, hx0, hx, hn0, hn⟩ := mayI_facts hm
  have hI : Cu.In (p ++ V ++ q) p.length V.length := Cu.at_in hl
  have hreg : 2 ≤ c ∧ c ≤ 10 → n < 8 := fun h2 => by
    obtain ⟨-, -, h3⟩ := mayI_iff.1 hm
    have e2 : mxN c = 7 := by unfold mxN rgB; simp; omega
    omega
  have hx8 : x < 8 := by omega
  have quiet : ∀ {e : Ending} {w' : World} {A : Prop}, (A ∧ w.grownBy w' none) → A ∧ MemG w' B m g (p ++ V ++ q) ∧ w.grownBy w' (some g) := fun hh => ⟨hh.1, h.grown hh.2, only_any hh.2 _⟩
  unfold Cu.exec
  by_cases h0 : c = 0
  · subst h0
    simp only [if_true]
    exact (Cu.do_stop m p.length V.length pc 0 x n r w).mono fun e w' hh => quiet (e := e) hh
  rw [if_neg h0]
  by_cases h15 : c = 15
  · subst h15
    simp only [if_true]
    exact (Cu.do_rest m p.length V.length pc 0 x n r hpc w).mono fun e w' hh => quiet (e := e) hh
  rw [if_neg h15]
  by_cases h14 : c = 14
  · subst h14
    simp only [if_true]
    exact (Cu.do_call m p.length V.length pc 0 x n r hpc w).mono fun e w' hh => quiet (e := e) hh
  rw [if_neg h14]
  by_cases hj : c = 11 ∨ c = 12 ∨ c = 13
  · simp only [if_pos hj]
    exact (Cu.do_jump m p.length V.length pc 0 c x n r hpc hj hx8 w).mono fun e w' hh => quiet (e := e) hh
  rw [if_neg hj]
  by_cases hrd : c = 7 ∨ c = 9
  · rw [if_pos hrd]
    have hn8 : n < 8 := hreg (by omega)
    have hrn := hr n
    obtain ⟨a, ha⟩ := Int.eq_ofNat_of_zero_le hrn.1
    rw [ha, Int.toNat_natCast]
    by_cases hf : a + Cu.wd' c ≤ V.length
    · simp only [if_pos hf]
      refine (Cu.do_read_ok m p.length V.length pc 0 c x n r hpc hrd hx8 hn8 w (Cu.rd V (c = 9) a) (fun W gW => ?_)).mono fun e w' hh => quiet (e := e) hh
      rw [ha]
      rcases hrd with rfl | rfl
      · have := Cu.read_one W B m _ p.length V.length (h.grown gW).mem hI a (by simpa [Cu.wd'] using hf)
        rw [Cu.at_get (by simp [Cu.wd'] at hf; omega)] at this
        exact this
      · have := Cu.read_two W B m _ p.length V.length (h.grown gW).mem hI a (by simpa [Cu.wd'] using hf)
        rw [Cu.at_two (by simpa [Cu.wd'] using hf)] at this
        exact this
    · simp only [if_neg hf]
      refine (Cu.do_read_no m p.length V.length pc 0 c x n r hpc hrd hx8 hn8 w 0 (fun W gW => ?_)).mono fun e w' hh => quiet (e := e) hh
      rw [ha]
      rcases hrd with rfl | rfl
      · exact Cu.read_no W B m _ p.length V.length (h.grown gW).mem hI a 1 (by simp [Cu.wd'] at hf; omega) (by omega)
      · exact Cu.read_no W B m _ p.length V.length (h.grown gW).mem hI a 2 (by simp [Cu.wd'] at hf; omega) (by omega)
  rw [if_neg hrd]
  by_cases hwr : c = 8 ∨ c = 10
  · rw [if_pos hwr]
    have hn8 : n < 8 := hreg (by omega)
    have hrn := hr n
    obtain ⟨a, ha⟩ := Int.eq_ofNat_of_zero_le hrn.1
    rw [ha, Int.toNat_natCast]
    have hlt : m < w.heap.size ∧ g < w.heap.size := ⟨h.lt.2, h.lt.1⟩
    by_cases hf : a + Cu.wd' c ≤ V.length
    · simp only [if_pos hf]
      refine Cu.do_write_ok m p.length V.length pc 0 c x n r hpc hwr hx8 hn8 w B g (p ++ over V a (Cu.bs (c = 10) (r x)) ++ q) hlt (fun W gW => ?_)
      rw [ha]
      rcases hwr with rfl | rfl
      · have := Cu.write_one W B m g _ p.length V.length (h.grown gW) hI a (by simpa [Cu.wd'] using hf) (r x)
        rw [Cu.at_over (by simp [Cu.wd', Cu.bs] at hf ⊢; omega)] at this
        exact this
      · have := Cu.write_two W B m g _ p.length V.length (h.grown gW) hI a (by simpa [Cu.wd'] using hf) (r x)
        rw [Cu.at_over (by simp [Cu.wd', Cu.bs] at hf ⊢; omega)] at this
        exact this
    · simp only [if_neg hf]
      refine (Cu.do_write_no m p.length V.length pc 0 c x n r hpc hwr hx8 hn8 w (fun W gW => ?_)).mono fun e w' hh => quiet (e := e) hh
      rw [ha]
      rcases hwr with rfl | rfl
      · exact Cu.write_no W B m _ p.length V.length (h.grown gW).mem hI a 1 (by simp [Cu.wd'] at hf; omega) (by omega) _
      · exact Cu.write_no W B m _ p.length V.length (h.grown gW).mem hI a 2 (by simp [Cu.wd'] at hf; omega) (by omega) _
  rw [if_neg hwr]
  exact (Cu.do_made m p.length V.length pc 0 c x n r hpc (by omega) hx8 (by have := fun h2 => hreg h2; omega) hr w).mono fun e w' hh => quiet (e := e) hh
end Go.Proofs.YtiicoabkhponmaaDoor

/- Package cpu: a step's boxes. -/
namespace Go.Proofs.YtiicoabkhponmaaDoor
open Go.RowKit Go.Lib
set_option linter.unusedVariables false
set_option maxRecDepth 8000

def Cu.sd (w : World) (m : Nat) (base size : Int) (S : Array Value) : World :=
  (((w.alloc (.cells #[.pointer (some ⟨m, 0, none⟩), .int .i64 base, .int .i64 size] 28)).alloc (.cells S 24)).alloc (.cells #[.int .i64 0, .int .i64 0, .int .i64 0, .int .i64 0, .int .i64 0, .int .i64 0, .int .i64 0, .int .i64 0, .int .i64 0, .int .i64 0] 24)).alloc (.cells #[.int .i64 0, .int .i64 0, .int .i64 0, .int .i64 0] 37)
structure Cu.Sw (w W : World) (m : Nat) (base size : Int) (S RS RO : Array Value) (row : Option Nat) : Prop where
  vb : Blk W (w.heap.size) 28 #[.pointer (some ⟨m, 0, none⟩), .int .i64 base, .int .i64 size]
  sb : Blk W (w.heap.size + 1) 24 S
  rs : Blk W (w.heap.size + 1 + 1) 24 RS
  ro : Blk W (w.heap.size + 1 + 1 + 1) 37 RO
  grow : w.grownBy W row
theorem Cu.Sw.new (w : World) (m : Nat) (base size : Int) (S : Array Value) : Cu.Sw w (Cu.sd w m base size S) m base size S #[.int .i64 0, .int .i64 0, .int .i64 0, .int .i64 0, .int .i64 0, .int .i64 0, .int .i64 0, .int .i64 0, .int .i64 0, .int .i64 0] #[.int .i64 0, .int .i64 0, .int .i64 0, .int .i64 0] none := by
  have b0 := Blk.new w 28 #[.pointer (some ⟨m, 0, none⟩), .int .i64 base, .int .i64 size]
  obtain ⟨w1, h1⟩ : ∃ w1, w1 = w.alloc (.cells #[.pointer (some ⟨m, 0, none⟩), .int .i64 base, .int .i64 size] 28) := ⟨_, rfl⟩
  have z1 : w1.heap.size = w.heap.size + 1 := by rw [h1]; simp
  have b1 := Blk.new w1 24 S
  obtain ⟨w2, h2⟩ : ∃ w2, w2 = w1.alloc (.cells S 24) := ⟨_, rfl⟩
  have z2 : w2.heap.size = w.heap.size + 1 + 1 := by rw [h2]; simp [z1]
  have b2 := Blk.new w2 24 #[.int .i64 0, .int .i64 0, .int .i64 0, .int .i64 0, .int .i64 0, .int .i64 0, .int .i64 0, .int .i64 0, .int .i64 0, .int .i64 0]
  obtain ⟨w3, h3⟩ : ∃ w3, w3 = w2.alloc (.cells #[.int .i64 0, .int .i64 0, .int .i64 0, .int .i64 0, .int .i64 0, .int .i64 0, .int .i64 0, .int .i64 0, .int .i64 0, .int .i64 0] 24) := ⟨_, rfl⟩
  have z3 : w3.heap.size = w.heap.size + 1 + 1 + 1 := by rw [h3]; simp [z2]
  have b3 := Blk.new w3 37 #[.int .i64 0, .int .i64 0, .int .i64 0, .int .i64 0]
  unfold Cu.sd
  rw [← h1] at b0 ⊢
  rw [← h2] at b1 ⊢
  rw [← h3] at b2 ⊢
  have g2 : w1.grownBy w2 none := by rw [h2]; exact only_alloc (only_refl _ _) _
  have g3 : w2.grownBy w3 none := by rw [h3]; exact only_alloc (only_refl _ _) _
  have g4 : w3.grownBy (w3.alloc (.cells #[.int .i64 0, .int .i64 0, .int .i64 0, .int .i64 0] 37)) none := only_alloc (only_refl _ _) _
  have f3 := only_trans g3 g4
  have f2 := only_trans g2 f3
  have f1 : w.grownBy (w3.alloc (.cells #[.int .i64 0, .int .i64 0, .int .i64 0, .int .i64 0] 37)) none := only_trans (by rw [h1]; exact only_alloc (only_refl _ _) _) f2
  rw [z1] at b1
  rw [z2] at b2
  rw [z3] at b3
  exact ⟨b0.only f2 (by simp), b1.only f3 (by simp), b2.only g4 (by simp), b3, f1⟩
section
variable {w W W' : World} {m : Nat} {base size : Int} {S RS RO : Array Value} {row : Option Nat}
theorem Cu.Sw.step (h : Cu.Sw w W m base size S RS RO row) (g : W.grownBy W' none) : Cu.Sw w W' m base size S RS RO row :=
  ⟨h.vb.only g (by simp), h.sb.only g (by simp), h.rs.only g (by simp), h.ro.only g (by simp), only_trans h.grow (only_any g row)⟩
theorem Cu.Sw.far {g : Nat} (h : Cu.Sw w W m base size S RS RO none) (hg : g < w.heap.size) (q : W.grownBy W' (some g)) : Cu.Sw w W' m base size S RS RO (some g) := by
  refine ⟨h.vb.only q ?_, h.sb.only q ?_, h.rs.only q ?_, h.ro.only q ?_, only_trans (only_any h.grow (some g)) q⟩
  all_goals
    intro e
    injection e with e
    omega
theorem Cu.Sw.putS (h : Cu.Sw w W m base size S RS RO row) (i : Nat) (v : Value) : Cu.Sw w (W.setCell ⟨w.heap.size + 1, i, none⟩ v) m base size (S.setIfInBounds i v) RS RO row :=
  ⟨h.vb.far (by first | (simp; done) | (simp; omega) | omega) v, h.sb.put i v, h.rs.far (by first | (simp; done) | (simp; omega) | omega) v, h.ro.far (by first | (simp; done) | (simp; omega) | omega) v, only_putc h.grow (p := ⟨w.heap.size + 1, i, none⟩) (by first | (simp; done) | (simp; omega) | omega) v⟩
end
theorem Cu.Sw.args {w W : World} {m : Nat} {base size : Int} {RS RO : Array Value} {pc md : Int} {r : Nat → Int} {row : Option Nat} (h : Cu.Sw w W m base size (Cu.stC pc r md) RS RO row) : (W.cell? ⟨w.heap.size, 0, none⟩ = some (.pointer (some ⟨m, 0, none⟩)) ∧ W.cell? ⟨w.heap.size, 1, none⟩ = some (.int .i64 base) ∧ W.cell? ⟨w.heap.size, 2, none⟩ = some (.int .i64 size)) ∧ (W.cell? ⟨w.heap.size + 1, 0, none⟩ = some (.int .i64 pc) ∧ W.cell? ⟨w.heap.size + 1, 1, none⟩ = some (.int .i64 (r 0)) ∧ W.cell? ⟨w.heap.size + 1, 2, none⟩ = some (.int .i64 (r 1)) ∧ W.cell? ⟨w.heap.size + 1, 3, none⟩ = some (.int .i64 (r 2)) ∧ W.cell? ⟨w.heap.size + 1, 4, none⟩ = some (.int .i64 (r 3)) ∧ W.cell? ⟨w.heap.size + 1, 5, none⟩ = some (.int .i64 (r 4)) ∧ W.cell? ⟨w.heap.size + 1, 6, none⟩ = some (.int .i64 (r 5)) ∧ W.cell? ⟨w.heap.size + 1, 7, none⟩ = some (.int .i64 (r 6)) ∧ W.cell? ⟨w.heap.size + 1, 8, none⟩ = some (.int .i64 (r 7)) ∧ W.cell? ⟨w.heap.size + 1, 9, none⟩ = some (.int .i64 md)) := by
  have h0 := h.vb
  have h1 := h.sb
  exact ⟨⟨h0.cell 0, h0.cell 1, h0.cell 2⟩, ⟨h1.cell 0, h1.cell 1, h1.cell 2, h1.cell 3, h1.cell 4, h1.cell 5, h1.cell 6, h1.cell 7, h1.cell 8, h1.cell 9⟩⟩
theorem Cu.Sw.free {w W : World} {m : Nat} {base size : Int} {S : Array Value} {row : Option Nat} (h : Cu.Sw w W m base size S #[.int .i64 0, .int .i64 0, .int .i64 0, .int .i64 0, .int .i64 0, .int .i64 0, .int .i64 0, .int .i64 0, .int .i64 0, .int .i64 0] #[.int .i64 0, .int .i64 0, .int .i64 0, .int .i64 0] row) : (W.cell? ⟨w.heap.size + 1 + 1, 0, none⟩ = some (.int .i64 0) ∧ W.cell? ⟨w.heap.size + 1 + 1, 1, none⟩ = some (.int .i64 0) ∧ W.cell? ⟨w.heap.size + 1 + 1, 2, none⟩ = some (.int .i64 0) ∧ W.cell? ⟨w.heap.size + 1 + 1, 3, none⟩ = some (.int .i64 0) ∧ W.cell? ⟨w.heap.size + 1 + 1, 4, none⟩ = some (.int .i64 0) ∧ W.cell? ⟨w.heap.size + 1 + 1, 5, none⟩ = some (.int .i64 0) ∧ W.cell? ⟨w.heap.size + 1 + 1, 6, none⟩ = some (.int .i64 0) ∧ W.cell? ⟨w.heap.size + 1 + 1, 7, none⟩ = some (.int .i64 0) ∧ W.cell? ⟨w.heap.size + 1 + 1, 8, none⟩ = some (.int .i64 0) ∧ W.cell? ⟨w.heap.size + 1 + 1, 9, none⟩ = some (.int .i64 0)) ∧ (W.cell? ⟨w.heap.size + 1 + 1 + 1, 0, none⟩ = some (.int .i64 0) ∧ W.cell? ⟨w.heap.size + 1 + 1 + 1, 1, none⟩ = some (.int .i64 0) ∧ W.cell? ⟨w.heap.size + 1 + 1 + 1, 2, none⟩ = some (.int .i64 0) ∧ W.cell? ⟨w.heap.size + 1 + 1 + 1, 3, none⟩ = some (.int .i64 0)) ∧ (W.frozen? ⟨w.heap.size + 1 + 1, 0, none⟩ = false ∧ W.frozen? ⟨w.heap.size + 1 + 1, 1, none⟩ = false ∧ W.frozen? ⟨w.heap.size + 1 + 1, 2, none⟩ = false ∧ W.frozen? ⟨w.heap.size + 1 + 1, 3, none⟩ = false ∧ W.frozen? ⟨w.heap.size + 1 + 1, 4, none⟩ = false ∧ W.frozen? ⟨w.heap.size + 1 + 1, 5, none⟩ = false ∧ W.frozen? ⟨w.heap.size + 1 + 1, 6, none⟩ = false ∧ W.frozen? ⟨w.heap.size + 1 + 1, 7, none⟩ = false ∧ W.frozen? ⟨w.heap.size + 1 + 1, 8, none⟩ = false ∧ W.frozen? ⟨w.heap.size + 1 + 1, 9, none⟩ = false) ∧ (W.frozen? ⟨w.heap.size + 1 + 1 + 1, 0, none⟩ = false ∧ W.frozen? ⟨w.heap.size + 1 + 1 + 1, 1, none⟩ = false ∧ W.frozen? ⟨w.heap.size + 1 + 1 + 1, 2, none⟩ = false ∧ W.frozen? ⟨w.heap.size + 1 + 1 + 1, 3, none⟩ = false) := by
  have h1 := h.rs
  have h2 := h.ro
  exact ⟨⟨h1.cell 0, h1.cell 1, h1.cell 2, h1.cell 3, h1.cell 4, h1.cell 5, h1.cell 6, h1.cell 7, h1.cell 8, h1.cell 9⟩, ⟨h2.cell 0, h2.cell 1, h2.cell 2, h2.cell 3⟩, ⟨h1.free 0, h1.free 1, h1.free 2, h1.free 3, h1.free 4, h1.free 5, h1.free 6, h1.free 7, h1.free 8, h1.free 9⟩, ⟨h2.free 0, h2.free 1, h2.free 2, h2.free 3⟩⟩
theorem Cu.Sw.fin0 {w W : World} {m : Nat} {base size : Int} {S : Array Value} {row : Option Nat} (h : Cu.Sw w W m base size S #[.int .i64 0, .int .i64 0, .int .i64 0, .int .i64 0, .int .i64 0, .int .i64 0, .int .i64 0, .int .i64 0, .int .i64 0, .int .i64 0] #[.int .i64 0, .int .i64 0, .int .i64 0, .int .i64 0] row) (p0 p1 p2 p3 p4 p5 p6 p7 p8 p9 q0 q1 q2 q3 : Value) : ∀ W', W' = ((((((((((((((W.setCell ⟨w.heap.size + 1 + 1, 0, none⟩ p0).setCell ⟨w.heap.size + 1 + 1, 1, none⟩ p1).setCell ⟨w.heap.size + 1 + 1, 2, none⟩ p2).setCell ⟨w.heap.size + 1 + 1, 3, none⟩ p3).setCell ⟨w.heap.size + 1 + 1, 4, none⟩ p4).setCell ⟨w.heap.size + 1 + 1, 5, none⟩ p5).setCell ⟨w.heap.size + 1 + 1, 6, none⟩ p6).setCell ⟨w.heap.size + 1 + 1, 7, none⟩ p7).setCell ⟨w.heap.size + 1 + 1, 8, none⟩ p8).setCell ⟨w.heap.size + 1 + 1, 9, none⟩ p9).setCell ⟨w.heap.size + 1 + 1 + 1, 0, none⟩ q0).setCell ⟨w.heap.size + 1 + 1 + 1, 1, none⟩ q1).setCell ⟨w.heap.size + 1 + 1 + 1, 2, none⟩ q2).setCell ⟨w.heap.size + 1 + 1 + 1, 3, none⟩ q3) → (W'.cell? ⟨w.heap.size + 1 + 1, 0, none⟩ = some p0 ∧ W'.cell? ⟨w.heap.size + 1 + 1, 1, none⟩ = some p1 ∧ W'.cell? ⟨w.heap.size + 1 + 1, 2, none⟩ = some p2 ∧ W'.cell? ⟨w.heap.size + 1 + 1, 3, none⟩ = some p3 ∧ W'.cell? ⟨w.heap.size + 1 + 1, 4, none⟩ = some p4 ∧ W'.cell? ⟨w.heap.size + 1 + 1, 5, none⟩ = some p5 ∧ W'.cell? ⟨w.heap.size + 1 + 1, 6, none⟩ = some p6 ∧ W'.cell? ⟨w.heap.size + 1 + 1, 7, none⟩ = some p7 ∧ W'.cell? ⟨w.heap.size + 1 + 1, 8, none⟩ = some p8 ∧ W'.cell? ⟨w.heap.size + 1 + 1, 9, none⟩ = some p9) ∧ (W'.cell? ⟨w.heap.size + 1 + 1 + 1, 0, none⟩ = some q0 ∧ W'.cell? ⟨w.heap.size + 1 + 1 + 1, 1, none⟩ = some q1 ∧ W'.cell? ⟨w.heap.size + 1 + 1 + 1, 2, none⟩ = some q2 ∧ W'.cell? ⟨w.heap.size + 1 + 1 + 1, 3, none⟩ = some q3) ∧ Below w.heap.size W W' ∧ w.grownBy W' row := by
  rintro W' rfl
  have br := ((((((((((((((h.rs.put 0 p0).put 1 p1).put 2 p2).put 3 p3).put 4 p4).put 5 p5).put 6 p6).put 7 p7).put 8 p8).put 9 p9).far (p := ⟨w.heap.size + 1 + 1 + 1, 0, none⟩) (by first | (simp; done) | (simp; omega) | omega) q0).far (p := ⟨w.heap.size + 1 + 1 + 1, 1, none⟩) (by first | (simp; done) | (simp; omega) | omega) q1).far (p := ⟨w.heap.size + 1 + 1 + 1, 2, none⟩) (by first | (simp; done) | (simp; omega) | omega) q2).far (p := ⟨w.heap.size + 1 + 1 + 1, 3, none⟩) (by first | (simp; done) | (simp; omega) | omega) q3)
  have bo := ((((((((((((((h.ro.far (p := ⟨w.heap.size + 1 + 1, 0, none⟩) (by first | (simp; done) | (simp; omega) | omega) p0).far (p := ⟨w.heap.size + 1 + 1, 1, none⟩) (by first | (simp; done) | (simp; omega) | omega) p1).far (p := ⟨w.heap.size + 1 + 1, 2, none⟩) (by first | (simp; done) | (simp; omega) | omega) p2).far (p := ⟨w.heap.size + 1 + 1, 3, none⟩) (by first | (simp; done) | (simp; omega) | omega) p3).far (p := ⟨w.heap.size + 1 + 1, 4, none⟩) (by first | (simp; done) | (simp; omega) | omega) p4).far (p := ⟨w.heap.size + 1 + 1, 5, none⟩) (by first | (simp; done) | (simp; omega) | omega) p5).far (p := ⟨w.heap.size + 1 + 1, 6, none⟩) (by first | (simp; done) | (simp; omega) | omega) p6).far (p := ⟨w.heap.size + 1 + 1, 7, none⟩) (by first | (simp; done) | (simp; omega) | omega) p7).far (p := ⟨w.heap.size + 1 + 1, 8, none⟩) (by first | (simp; done) | (simp; omega) | omega) p8).far (p := ⟨w.heap.size + 1 + 1, 9, none⟩) (by first | (simp; done) | (simp; omega) | omega) p9).put 0 q0).put 1 q1).put 2 q2).put 3 q3)
  have gr : w.grownBy ((((((((((((((W.setCell ⟨w.heap.size + 1 + 1, 0, none⟩ p0).setCell ⟨w.heap.size + 1 + 1, 1, none⟩ p1).setCell ⟨w.heap.size + 1 + 1, 2, none⟩ p2).setCell ⟨w.heap.size + 1 + 1, 3, none⟩ p3).setCell ⟨w.heap.size + 1 + 1, 4, none⟩ p4).setCell ⟨w.heap.size + 1 + 1, 5, none⟩ p5).setCell ⟨w.heap.size + 1 + 1, 6, none⟩ p6).setCell ⟨w.heap.size + 1 + 1, 7, none⟩ p7).setCell ⟨w.heap.size + 1 + 1, 8, none⟩ p8).setCell ⟨w.heap.size + 1 + 1, 9, none⟩ p9).setCell ⟨w.heap.size + 1 + 1 + 1, 0, none⟩ q0).setCell ⟨w.heap.size + 1 + 1 + 1, 1, none⟩ q1).setCell ⟨w.heap.size + 1 + 1 + 1, 2, none⟩ q2).setCell ⟨w.heap.size + 1 + 1 + 1, 3, none⟩ q3) row := (only_putc (only_putc (only_putc (only_putc (only_putc (only_putc (only_putc (only_putc (only_putc (only_putc (only_putc (only_putc (only_putc (only_putc h.grow (p := ⟨w.heap.size + 1 + 1, 0, none⟩) (by first | (simp; done) | (simp; omega) | omega) p0) (p := ⟨w.heap.size + 1 + 1, 1, none⟩) (by first | (simp; done) | (simp; omega) | omega) p1) (p := ⟨w.heap.size + 1 + 1, 2, none⟩) (by first | (simp; done) | (simp; omega) | omega) p2) (p := ⟨w.heap.size + 1 + 1, 3, none⟩) (by first | (simp; done) | (simp; omega) | omega) p3) (p := ⟨w.heap.size + 1 + 1, 4, none⟩) (by first | (simp; done) | (simp; omega) | omega) p4) (p := ⟨w.heap.size + 1 + 1, 5, none⟩) (by first | (simp; done) | (simp; omega) | omega) p5) (p := ⟨w.heap.size + 1 + 1, 6, none⟩) (by first | (simp; done) | (simp; omega) | omega) p6) (p := ⟨w.heap.size + 1 + 1, 7, none⟩) (by first | (simp; done) | (simp; omega) | omega) p7) (p := ⟨w.heap.size + 1 + 1, 8, none⟩) (by first | (simp; done) | (simp; omega) | omega) p8) (p := ⟨w.heap.size + 1 + 1, 9, none⟩) (by first | (simp; done) | (simp; omega) | omega) p9) (p := ⟨w.heap.size + 1 + 1 + 1, 0, none⟩) (by first | (simp; done) | (simp; omega) | omega) q0) (p := ⟨w.heap.size + 1 + 1 + 1, 1, none⟩) (by first | (simp; done) | (simp; omega) | omega) q1) (p := ⟨w.heap.size + 1 + 1 + 1, 2, none⟩) (by first | (simp; done) | (simp; omega) | omega) q2) (p := ⟨w.heap.size + 1 + 1 + 1, 3, none⟩) (by first | (simp; done) | (simp; omega) | omega) q3)
  have gb : Below w.heap.size W ((((((((((((((W.setCell ⟨w.heap.size + 1 + 1, 0, none⟩ p0).setCell ⟨w.heap.size + 1 + 1, 1, none⟩ p1).setCell ⟨w.heap.size + 1 + 1, 2, none⟩ p2).setCell ⟨w.heap.size + 1 + 1, 3, none⟩ p3).setCell ⟨w.heap.size + 1 + 1, 4, none⟩ p4).setCell ⟨w.heap.size + 1 + 1, 5, none⟩ p5).setCell ⟨w.heap.size + 1 + 1, 6, none⟩ p6).setCell ⟨w.heap.size + 1 + 1, 7, none⟩ p7).setCell ⟨w.heap.size + 1 + 1, 8, none⟩ p8).setCell ⟨w.heap.size + 1 + 1, 9, none⟩ p9).setCell ⟨w.heap.size + 1 + 1 + 1, 0, none⟩ q0).setCell ⟨w.heap.size + 1 + 1 + 1, 1, none⟩ q1).setCell ⟨w.heap.size + 1 + 1 + 1, 2, none⟩ q2).setCell ⟨w.heap.size + 1 + 1 + 1, 3, none⟩ q3) := (Cu.below_put (Cu.below_put (Cu.below_put (Cu.below_put (Cu.below_put (Cu.below_put (Cu.below_put (Cu.below_put (Cu.below_put (Cu.below_put (Cu.below_put (Cu.below_put (Cu.below_put (Cu.below_put (Below.refl w.heap.size W) (p := ⟨w.heap.size + 1 + 1, 0, none⟩) (by first | (simp; done) | (simp; omega) | omega) p0) (p := ⟨w.heap.size + 1 + 1, 1, none⟩) (by first | (simp; done) | (simp; omega) | omega) p1) (p := ⟨w.heap.size + 1 + 1, 2, none⟩) (by first | (simp; done) | (simp; omega) | omega) p2) (p := ⟨w.heap.size + 1 + 1, 3, none⟩) (by first | (simp; done) | (simp; omega) | omega) p3) (p := ⟨w.heap.size + 1 + 1, 4, none⟩) (by first | (simp; done) | (simp; omega) | omega) p4) (p := ⟨w.heap.size + 1 + 1, 5, none⟩) (by first | (simp; done) | (simp; omega) | omega) p5) (p := ⟨w.heap.size + 1 + 1, 6, none⟩) (by first | (simp; done) | (simp; omega) | omega) p6) (p := ⟨w.heap.size + 1 + 1, 7, none⟩) (by first | (simp; done) | (simp; omega) | omega) p7) (p := ⟨w.heap.size + 1 + 1, 8, none⟩) (by first | (simp; done) | (simp; omega) | omega) p8) (p := ⟨w.heap.size + 1 + 1, 9, none⟩) (by first | (simp; done) | (simp; omega) | omega) p9) (p := ⟨w.heap.size + 1 + 1 + 1, 0, none⟩) (by first | (simp; done) | (simp; omega) | omega) q0) (p := ⟨w.heap.size + 1 + 1 + 1, 1, none⟩) (by first | (simp; done) | (simp; omega) | omega) q1) (p := ⟨w.heap.size + 1 + 1 + 1, 2, none⟩) (by first | (simp; done) | (simp; omega) | omega) q2) (p := ⟨w.heap.size + 1 + 1 + 1, 3, none⟩) (by first | (simp; done) | (simp; omega) | omega) q3)
  simp only [List.setIfInBounds_toArray, List.set_cons_zero, List.set_cons_succ] at br bo
  generalize ((((((((((((((W.setCell ⟨w.heap.size + 1 + 1, 0, none⟩ p0).setCell ⟨w.heap.size + 1 + 1, 1, none⟩ p1).setCell ⟨w.heap.size + 1 + 1, 2, none⟩ p2).setCell ⟨w.heap.size + 1 + 1, 3, none⟩ p3).setCell ⟨w.heap.size + 1 + 1, 4, none⟩ p4).setCell ⟨w.heap.size + 1 + 1, 5, none⟩ p5).setCell ⟨w.heap.size + 1 + 1, 6, none⟩ p6).setCell ⟨w.heap.size + 1 + 1, 7, none⟩ p7).setCell ⟨w.heap.size + 1 + 1, 8, none⟩ p8).setCell ⟨w.heap.size + 1 + 1, 9, none⟩ p9).setCell ⟨w.heap.size + 1 + 1 + 1, 0, none⟩ q0).setCell ⟨w.heap.size + 1 + 1 + 1, 1, none⟩ q1).setCell ⟨w.heap.size + 1 + 1 + 1, 2, none⟩ q2).setCell ⟨w.heap.size + 1 + 1 + 1, 3, none⟩ q3) = X at br bo gr gb ⊢
  exact ⟨⟨br.cell 0, br.cell 1, br.cell 2, br.cell 3, br.cell 4, br.cell 5, br.cell 6, br.cell 7, br.cell 8, br.cell 9⟩, ⟨bo.cell 0, bo.cell 1, bo.cell 2, bo.cell 3⟩, gb, gr⟩
/-- The first registers cut. -/
def Cu.mix (r : Nat → Int) (k : Nat) : Nat → Int := fun i => if i < k then r i % 65536 else r i
theorem Cu.mix_put (pc md : Int) (r : Nat → Int) (k : Nat) (hk : k < 8) : (Cu.stC pc (Cu.mix r k) md).setIfInBounds (1 + k) (.int .i64 (r k % 65536)) = Cu.stC pc (Cu.mix r (k + 1)) md := by
  rw [Cu.stC_reg _ _ _ _ hk]
  have : Cu.upd (Cu.mix r k) k (r k % 65536) = Cu.mix r (k + 1) := by
    funext i
    unfold Cu.upd Cu.mix
    by_cases h1 : i = k
    · subst h1; simp
    · by_cases h2 : i < k
      · rw [if_neg h1, if_pos h2, if_pos (by omega)]
      · rw [if_neg h1, if_neg h2, if_neg (by omega)]
  rw [this]
def Cu.cut (r : Nat → Int) : Nat → Int := fun i => r i % 65536
theorem Cu.mix_0 (pc md : Int) (r : Nat → Int) : Cu.stC pc (Cu.mix r 0) md = Cu.stC pc r md := rfl
theorem Cu.mix_8 (pc md : Int) (r : Nat → Int) : Cu.stC pc (Cu.mix r 8) md = Cu.stC pc (Cu.cut r) md := rfl
set_option maxHeartbeats 3200000 in
theorem Cu.step_off (m : Nat) (base size pc md : Int) (r : Nat → Int) (hmd : md ≠ 0) (w : World) : Calls Tryd.prog 10 #[Cu.vw m base size, Cu.stV pc r md] w fun e w' => e = .returned (.tuple #[Cu.stV pc r md, Cu.outV 0 0 0 0]) ∧ w.grownBy w' none := by
  have h1 : (md == 0) = false := by simpa using hmd
  unfold Cu.stV Cu.stC Cu.outV Cu.vw
  go_enter Tryd.func10, Tryd.ntmps10
  go_wp2
  refine bodyPost_ret (v := .tuple #[.agg #[.int .i64 pc, .int .i64 (r 0), .int .i64 (r 1), .int .i64 (r 2), .int .i64 (r 3), .int .i64 (r 4), .int .i64 (r 5), .int .i64 (r 6), .int .i64 (r 7), .int .i64 md], .agg #[.int .i64 0, .int .i64 0, .int .i64 0, .int .i64 0]]) (by simp [results, Tryd.results10, go_sem]) rfl ⟨rfl, ?_⟩
  repeat (first | exact only_refl _ _ | refine only_alloc ?_ _)
end Go.Proofs.YtiicoabkhponmaaDoor
