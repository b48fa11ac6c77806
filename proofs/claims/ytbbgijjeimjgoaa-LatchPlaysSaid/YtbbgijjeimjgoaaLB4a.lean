/- A board and the document's rows side by side. -/
import Derived.Test.YtbbgijjeimjgoaaLB3
import Derived.Test.YtbbgijjeimjgoaaNQ0
import Derived.Deep.RegionHeld
namespace Go.Proofs.Ytbbgijjeimjgoaa
open Go.RowKit Go.Lib
set_option linter.unusedVariables false
set_option maxRecDepth 8000

abbrev Lt.XR := (Nat → Nat) × (Nat → Bool)
theorem Lt.fl_len {α : Type} (f : Nat → List α) (s : Nat) (hf : ∀ i, (f i).length = s) (n : Nat) : ((List.range n).flatMap f).length = n * s := by
  induction n with
  | zero => simp
  | succ n ih =>
    rw [List.range_succ, List.flatMap_append, List.length_append, ih, Nat.add_mul, Nat.one_mul]
    simp [hf]
theorem Lt.fl_get {α : Type} (f : Nat → List α) (s : Nat) (hf : ∀ i, (f i).length = s) (n i t : Nat) (hi : i < n) (ht : t < s) : ((List.range n).flatMap f)[i * s + t]? = (f i)[t]? := by
  induction n with
  | zero => omega
  | succ n ih =>
    have hl := Lt.fl_len f s hf n
    rw [List.range_succ, List.flatMap_append]
    by_cases h : i < n
    · have : (i + 1) * s ≤ n * s := Nat.mul_le_mul_right s h
      rw [Nat.add_mul, Nat.one_mul] at this
      rw [List.getElem?_append_left (by omega), ih h]
    · obtain rfl : i = n := by omega
      rw [List.getElem?_append_right (by omega), hl, Nat.add_sub_cancel_left]
      simp
def Lt.xc (x : Lt.XR) : List Value := (Lt.rowC x.1 x.2).toList
theorem Lt.xc_len (x : Lt.XR) : (Lt.xc x).length = 16 := rfl
def Lt.rwsL (n : Nat) (X : Nat → Lt.XR) : List Value := (List.range n).flatMap fun i => Lt.xc (X i)
theorem Lt.rwsL_len (n : Nat) (X : Nat → Lt.XR) : (Lt.rwsL n X).length = n * 16 := Lt.fl_len _ 16 (fun i => rfl) n
theorem Lt.rwsL_get {n : Nat} {X : Nat → Lt.XR} {i t : Nat} (hi : i < n) (ht : t < 16) : (Lt.rwsL n X)[i * 16 + t]? = (Lt.rowC (X i).1 (X i).2)[t]? := by
  unfold Lt.rwsL
  rw [Lt.fl_get (fun i => Lt.xc (X i)) 16 (fun i => rfl) n i t hi ht]
  simp [Lt.xc]
theorem Lt.rwsL_one (n : Nat) (X : Nat → Lt.XR) : ∀ u ∈ Lt.rwsL n X, u.oneCell' = true := by
  intro u hu
  simp only [Lt.rwsL, List.mem_flatMap] at hu
  obtain ⟨i, _, h⟩ := hu
  exact Lt.rowC_one _ _ u h
def Lt.updX (X : Nat → Lt.XR) (i : Nat) (x : Lt.XR) : Nat → Lt.XR := fun j => if j = i then x else X j
section
variable {w w' : World} {g off n c : Nat} {X : Nat → Lt.XR}
theorem Lt.row_cells (h : RowZ 16 w (.slice (some ⟨g, off, none⟩) n c) n (Lt.rwsL n X)) {i : Nat} (hi : i < n) : (∀ j u, (Lt.rowC (X i).1 (X i).2)[j]? = some u → w.cell? ⟨g, off + i * 16 + j, none⟩ = some u) ∧ (∀ j, j < 16 → (w.cell? ⟨g, off + i * 16 + j, none⟩).isSome = true) ∧ ∀ j, j < 16 → w.frozen? ⟨g, off + i * 16 + j, none⟩ = false := by
  have hz := Lt.rowC_size (X i).1 (X i).2
  have hget := fun t (ht : t < 16) => Lt.rwsL_get (X := X) hi ht
  generalize Lt.rwsL n X = L at h hget
  generalize Lt.rowC (X i).1 (X i).2 = C at hz hget ⊢
  rcases h.2 with ⟨h0, _⟩ | ⟨g', off', cap', h1, h2, h3, h4, h5, hc⟩
  · cases h0
  · injection h1 with e1 e2 e3
    injection e1 with e1
    injection e1 with e1 e2
    subst e1 e2 e3
    refine ⟨fun j u hu => ?_, fun j hj => ?_, fun j hj => ?_⟩
    · have hj : j < 16 := by
        have := (Array.getElem?_eq_some_iff.1 hu).1
        omega
      rw [Nat.add_assoc]
      exact hc _ u (by rw [hget j hj]; exact hu)
    · rw [Nat.add_assoc]
      exact (h5 (i * 16 + j) (by omega)).1
    · rw [Nat.add_assoc]
      exact (h5 (i * 16 + j) (by omega)).2
theorem Lt.set16 {L L2 C : List Value} (h : RowZ 16 w (.slice (some ⟨g, off, none⟩) n c) n L) {i : Nat} (hi : i < n) (hC : C.length = 16) (hl2 : L2.length = n * 16) (hin : ∀ j u, j < 16 → L2[i * 16 + j]? = some u → C[j]? = some u) (hout : ∀ j u, ¬ (i * 16 ≤ j ∧ j < i * 16 + 16) → L2[j]? = some u → L[j]? = some u) : RowZ 16 (w.setCells g (off + i * 16) C) (.slice (some ⟨g, off, none⟩) n c) n L2 := by
  rcases h.2 with ⟨h0, _⟩ | ⟨g', off', cap', h1, h2, h3, h4, h5, hc⟩
  · cases h0
  · injection h1 with e1 e2 e3
    injection e1 with e1
    injection e1 with e1 e2
    subst e1 e2 e3
    have hs : ∀ q, q < C.length → (w.cell? ⟨g, off + i * 16 + q, none⟩).isSome = true := fun q hq => by
      rw [Nat.add_assoc]
      exact (h5 (i * 16 + q) (by omega)).1
    have hsz : g < (w.setCells g (off + i * 16) C).heap.size := by rw [(setCells_at g C (off + i * 16) w).2.2.2.1]; exact h4
    refine ⟨hl2, .inr ⟨g, off, c, rfl, h2, h3, hsz, fun j hj => ?_, fun j u hu => ?_⟩⟩
    · rw [World.frozen?_setCells]
      refine ⟨?_, (h5 j hj).2⟩
      by_cases e : i * 16 ≤ j ∧ j < i * 16 + 16
      · have := World.cell?_setCells_in g C (off + i * 16) w hs (j - i * 16) (by omega)
        rw [show off + i * 16 + (j - i * 16) = off + j by omega] at this
        rw [this]
        rfl
      · rw [World.cell?_setCells_out g C (off + i * 16) w _ (by intro _ _; simp only [hC]; omega)]
        exact (h5 j hj).1
    · by_cases e : i * 16 ≤ j ∧ j < i * 16 + 16
      · have hm' : j - i * 16 < C.length := by omega
        have := World.cell?_setCells_in g C (off + i * 16) w hs (j - i * 16) hm'
        rw [show off + i * 16 + (j - i * 16) = off + j by omega] at this
        rw [this]
        have h9 := hin (j - i * 16) u (by omega) (by rw [show i * 16 + (j - i * 16) = j by omega]; exact hu)
        rw [List.getElem?_eq_getElem hm'] at h9
        exact h9
      · rw [World.cell?_setCells_out g C (off + i * 16) w _ (by intro _ _; simp only [hC]; omega)]
        exact hc j u (hout j u e hu)
theorem Lt.row_set (h : RowZ 16 w (.slice (some ⟨g, off, none⟩) n c) n (Lt.rwsL n X)) {i : Nat} (hi : i < n) (r : Nat → Nat) (d : Nat → Bool) : RowZ 16 (w.setCells g (off + i * 16) (Lt.rowC r d).toList) (.slice (some ⟨g, off, none⟩) n c) n (Lt.rwsL n (Lt.updX X i (r, d))) := by
  have hl := Lt.rwsL_len n (Lt.updX X i (r, d))
  have hget := fun i' t (hi' : i' < n) (ht : t < 16) => Lt.rwsL_get (X := X) hi' ht
  have hget2 := fun i' t (hi' : i' < n) (ht : t < 16) => Lt.rwsL_get (X := Lt.updX X i (r, d)) hi' ht
  refine Lt.set16 h hi rfl hl (fun j u hj hu => ?_) (fun j u he hu => ?_)
  · rw [hget2 i j hi hj] at hu
    simp only [Lt.updX, if_true] at hu
    rw [Array.getElem?_toList]
    exact hu
  · have hj := (List.getElem?_eq_some_iff.1 hu).1
    rw [hl] at hj
    have hq : j = j / 16 * 16 + j % 16 := by omega
    have hm : j % 16 < 16 := Nat.mod_lt _ (by omega)
    have hne : j / 16 ≠ i := by omega
    rw [hq, hget2 _ _ (by omega) hm] at hu
    simp only [Lt.updX, if_neg hne] at hu
    rw [hq, hget _ _ (by omega) hm]
    exact hu
end
/-- A board, and rows of the document that say the same. -/
structure Lt.TwoX (w : World) (b : Nat) (A : Option Addr) (n c J : Nat) (o : Nat → Nat × Nat) (X : Nat → Lt.XR) : Prop where
  brd : Lt.Brd w b n o
  row : RowZ 16 w (.slice A n c) n (Lt.rwsL n X)
  rel : ∀ i, i < n → Lt.Rw J (o i).1 (o i).2 (X i).1 (X i).2
  ne : (Value.slice A n c).ownBlock ≠ some b
def Lt.Two (w : World) (b : Nat) (A : Option Addr) (n c J : Nat) (o : Nat → Nat × Nat) : Prop := ∃ X, Lt.TwoX w b A n c J o X
def Lt.Ft (b : Nat) (A : Option Addr) (n c : Nat) : Nat → Prop := fun i => i = b ∨ (Value.slice A n c).ownBlock = some i
theorem Lt.TwoX.keeps {S : Nat → Prop} {w w' : World} {b : Nat} {A : Option Addr} {n c J : Nat} {o : Nat → Nat × Nat} {X : Nat → Lt.XR} (h : Lt.TwoX w b A n c J o X) (k : Keeps S w w') (hb : ¬ S b) (hA : ∀ i, (Value.slice A n c).ownBlock = some i → ¬ S i) : Lt.TwoX w' b A n c J o X :=
  ⟨⟨(k.2.2.2.2 b h.brd.blk.lt hb).trans h.brd.blk, h.brd.cnt, h.brd.lt⟩, h.row.keeps k hA, h.rel, h.ne⟩
theorem Lt.TwoX.grown {w w' : World} {b : Nat} {A : Option Addr} {n c J : Nat} {o : Nat → Nat × Nat} {X : Nat → Lt.XR} (h : Lt.TwoX w b A n c J o X) (k : w.grownBy w' none) : Lt.TwoX w' b A n c J o X :=
  h.keeps (S := fun _ => False) (Keeps.of_only k (fun k hk => by cases hk)) (fun x => x) (fun _ _ x => x)
def Lt.deedO (c : Nat) (o : Nat → Nat × Nat) (d : Lt.Ded) : Nat → Nat × Nat := if d.1 = 0 then Lt.raiseO c o d.2.1 d.2.2 else if d.1 = 1 then Lt.openO c o d.2.1 else Lt.takeO c o d.2.1
theorem Lt.step_ld {ops : Array Oper} {o : Oper} {a : Act} {W : World} {K : Act → World → Prop} {Q : Exit → Act → World → Prop} {E : Prop} (hgd : o.guard = none) (p : Operand) (ho : o.op = Op.load 46 p) {b f : Nat} {cs : Array Value} (hr : (Instr.loadAt 46 (.pointer (some ⟨b, f, none⟩))).run Try.prog W = .ok (.agg cs) W) (hp : a.eval p = .pointer (some ⟨b, f, none⟩)) (h : K (a.put o.dst (.agg cs)) W) : if Region.wanted o (yielded ops a.tmps) = true then Oper.wp Try.prog o a W K Q else E := by
  have hw : Region.wanted o (yielded ops a.tmps) = true := by simp [Region.wanted, hgd]
  rw [if_pos hw]
  unfold Oper.wp
  simp [execOp, ho, hp, hr, Result.andThen]
  exact h
theorem Lt.step_st {ops : Array Oper} {o : Oper} {a : Act} {W W' : World} {K : Act → World → Prop} {Q : Exit → Act → World → Prop} {E : Prop} (hgd : o.guard = none) (p v : Operand) (ho : o.op = Op.store 46 p v) {b f : Nat} {cs : Array Value} (hr : (Instr.storeAt 46 (.pointer (some ⟨b, f, none⟩)) (.agg cs)).run Try.prog W = .ok () W') (hp : a.eval p = .pointer (some ⟨b, f, none⟩)) (hv : a.eval v = .agg cs) (h : K (a.put o.dst undef) W') : if Region.wanted o (yielded ops a.tmps) = true then Oper.wp Try.prog o a W K Q else E := by
  have hw : Region.wanted o (yielded ops a.tmps) = true := by simp [Region.wanted, hgd]
  rw [if_pos hw]
  unfold Oper.wp
  simp [execOp, ho, hp, hv, hr, Result.andThen]
  exact h
theorem Lt.len_form {A : Option Addr} {n c : Nat} {w : World} {xs : List Value} (h : RowZ 16 w (.slice A n c) n xs) {i : Nat} (hi : i < n) : ∃ g off, A = some ⟨g, off, none⟩ ∧ g < w.heap.size := by
  rcases h.2 with ⟨h0, h1⟩ | ⟨g', off', cap', h1, h2, h3, h4, h5, hc⟩
  · omega
  · injection h1 with e1 e2 e3
    exact ⟨g', off', e1, h4⟩
end Go.Proofs.Ytbbgijjeimjgoaa
