/- What the law of tables that are right keeps, row by row. -/
import Derived.Test.YtgkegmkedkgkcaaO29
namespace Go.Proofs.Ytgkegmkedkgkcaa
open Go.RowKit Go.Lib Go.Sort
set_option linter.unusedVariables false

theorem sp_push {wr w2 : World} {va : Option Addr} {vc g i : Nat} {d : Nat → Int × Int} (hrow : RowZ 2 wr (.slice va i vc) i (spL d i)) (hi : i ≤ 100000) (g2 : wr.grownBy w2 none) (hb : Blk w2 g 36 #[.int .i64 (d i).1, .int .i64 (d i).2]) :
    ∃ v' w', (Builtin.append_ #[31, 31] 31 #[.slice va i vc, .slice (some ⟨g, 0, none⟩) 1 1]).run Try.prog w2 = .ok v' w' ∧ RowZ 2 w' v' (i + 1) (spL d (i + 1)) ∧ wr.grownBy w' (Value.slice va i vc).ownBlock ∧ (v'.ownBlock = (Value.slice va i vc).ownBlock ∨ ∃ k, v'.ownBlock = some k ∧ wr.heap.size ≤ k) := by
  obtain ⟨i0, hi0, hz0, hz1, hz2⟩ := info_parts span_info
  have hsrc : Src Try.prog 2 31 (.slice (some ⟨g, 0, none⟩) 1 1) 1 [.int .i64 (d i).1, .int .i64 (d i).2] w2 := Src.ofSlice _ Try.underlying31 _ _ _ _ rfl (fun j u hu => by
    rw [addr_at, Nat.zero_add, hb.cell j]
    simpa using hu) (by simp [Value.oneCell'])
  obtain ⟨v', w', hk, hr3, hg', ho⟩ := run_pushZ (P := Try.prog) w2 31 36 31 i0 _ 16 Try.underlying31 hi0 hz0 hz1 hz2 (by omega) rfl _ _ _ (hrow.grown g2) (spL_one _ _) _ _ hsrc (by omega)
  have hs2 := g2.size
  refine ⟨v', w', hk, ?_, ⟨hg'.os.trans g2.os, hg'.tape.trans g2.tape, hg'.output.trans g2.output, Nat.le_trans g2.size hg'.size, fun k hk hn => (hg'.block k (by omega) hn).trans (g2.block k hk (by simp))⟩, ?_⟩
  · rw [spL_succ]
    exact hr3
  · rcases ho with ho | ho
    · exact .inl ho
    · exact .inr ⟨_, ho, hs2⟩
abbrev wsp (d : Nat → W3) : Nat → Int × Int := fun q => w3s (d q)
/-- The numbers of windows, owner by owner. -/
def hvC (c : Cf) (i : Nat) : Array Value := ((List.range (c.cn + 1)).map fun (o : Nat) => Value.int .i64 (cntW c o i)).toArray
theorem hvC_at (c : Cf) (i : Nat) {o : Nat} (h : o ≤ c.cn) : (hvC c i)[o]? = some (.int .i64 (cntW c o i)) := by
  unfold hvC
  rw [List.getElem?_toArray, List.getElem?_map, List.getElem?_range (by omega)]
  rfl
theorem hvC_size (c : Cf) (i : Nat) : (hvC c i).size = c.cn + 1 := by simp [hvC]
theorem hvC_next {c : Cf} {i o : Nat} (h : (c.wd i).1 = (o : Int)) : (hvC c i).setIfInBounds o (.int .i64 (cntW c o i + 1)) = hvC c (i + 1) := by
  apply Array.ext_getElem?
  intro q
  rw [Array.getElem?_setIfInBounds]
  by_cases hq : q ≤ c.cn
  · rw [hvC_at c (i + 1) hq]
    by_cases e : o = q
    · subst e
      rw [if_pos rfl, if_pos (by rw [hvC_size]; omega)]
      show _ = some (Value.int .i64 (cntW c o i + if (c.wd i).1 = (o : Int) then 1 else 0))
      rw [if_pos h]
    · rw [if_neg e, hvC_at c i hq]
      show _ = some (Value.int .i64 (cntW c q i + if (c.wd i).1 = (q : Int) then 1 else 0))
      rw [if_neg (by rw [h]; omega), Int.add_zero]
  · have h1 : (hvC c (i + 1))[q]? = none := Array.getElem?_eq_none (by rw [hvC_size]; omega)
    have h2 : (hvC c i)[q]? = none := Array.getElem?_eq_none (by rw [hvC_size]; omega)
    rw [h1, h2]
    split
    · rw [if_neg (by rw [hvC_size]; omega)]
    · rfl
theorem hvC_zero (c : Cf) (l : List Value) (h : l = List.replicate (c.cn + 1) (.int .i64 0)) : hvC c 0 = l.toArray := by
  apply Array.ext_getElem?
  intro q
  rw [h]
  have e2 : (List.replicate (c.cn + 1) (Value.int .i64 0)).toArray[q]? = if q < c.cn + 1 then some (Value.int .i64 0) else none := by rw [List.getElem?_toArray, List.getElem?_replicate]
  rw [e2]
  by_cases hq : q ≤ c.cn
  · rw [hvC_at c _ hq, if_pos (by omega)]
    rfl
  · rw [if_neg (by omega)]
    exact Array.getElem?_eq_none (by rw [hvC_size]; omega)
/-- What is kept beside the spans: the numbers of windows, the box of the tables. -/
def HvB (c : Cf) (w : World) (h : Nat) (wr : World) (j : Nat) : Prop := Blk wr (h + 3) 3 (hvC c j) ∧ BoxC wr w.heap.size c ∧ Below w.heap.size w wr ∧ h + 4 ≤ wr.heap.size ∧ w.heap.size < h
theorem HvB.only {c : Cf} {w wr w' : World} {h j : Nat} {row : Option Nat} (k : HvB c w h wr j) (g : wr.grownBy w' row) (hr : ∀ q, row = some q → q ≠ h + 3 ∧ w.heap.size < q) : HvB c w h w' j := by
  obtain ⟨h1, h2, h3, h4, h5⟩ := k
  have hs := g.size
  exact ⟨h1.only g (fun e => (hr _ e.symm).1 rfl), h2.only g (fun e => by have := (hr _ e.symm).2; omega), h3.trans (below_of_only g h3.size (fun q hq => by have := (hr q hq).2; omega)), by omega, h5⟩
/-- A row that grows: in block a, or in one from N on. -/
def Grw (s : Value) (a N : Nat) : Prop := ∀ k, s.ownBlock = some k → k = a ∨ N ≤ k
/-- A row that stays: elsewhere. -/
def Stay (s : Value) (a N : Nat) : Prop := ∀ k, s.ownBlock = some k → k ≠ a ∧ k < N
theorem Stay.ne {s t : Value} {a N : Nat} (h : Stay s a N) (k : Grw t a N) : s.ownBlock = none ∨ s.ownBlock ≠ t.ownBlock := by
  cases hs : s.ownBlock with
  | none => exact .inl rfl
  | some q =>
    right
    intro e
    obtain ⟨h1, h2⟩ := h q hs
    rcases k q e.symm with e1 | e1
    · exact h1 e1
    · omega
theorem Grw.next {s t : Value} {a N : Nat} {wr : World} (h : Grw s a N) (hN : N ≤ wr.heap.size) (k : t.ownBlock = s.ownBlock ∨ ∃ q, t.ownBlock = some q ∧ wr.heap.size ≤ q) : Grw t a N := fun q hq => by
  rcases k with k | ⟨p, k, hp⟩
  · exact h q (k ▸ hq)
  · rw [k] at hq
    injection hq with hq
    omega
/-- The windows' spans so far. -/
def LW (c : Cf) (w : World) (h : Nat) (s : Value) (wr : World) (i j : Nat) : Prop := RowZ 2 wr s i (spL (wsp c.wd) i) ∧ Grw s h (h + 4) ∧ HvB c w h wr j
theorem LW.push {c : Cf} {w wr w2 : World} {h i j : Nat} {va : Option Addr} {vc g : Nat} (k : LW c w h (.slice va i vc) wr i j) (hi : i ≤ 100000) (g2 : wr.grownBy w2 none) (hb : Blk w2 g 36 #[.int .i64 (c.wd i).2.1, .int .i64 (c.wd i).2.2]) :
    ∃ v' w', (Builtin.append_ #[31, 31] 31 #[.slice va i vc, .slice (some ⟨g, 0, none⟩) 1 1]).run Try.prog w2 = .ok v' w' ∧ LW c w h v' w' (i + 1) j := by
  obtain ⟨h1, h2, h3⟩ := k
  obtain ⟨v', w', hk, r1, r2, r3⟩ := sp_push h1 hi g2 hb
  have h35 := h3.2.2.2.2
  exact ⟨v', w', hk, r1, h2.next h3.2.2.2.1 r3, h3.only r2 (fun q hq => by rcases h2 q hq with e | e <;> omega)⟩
theorem LW.count {c : Cf} {w wr : World} {h i o : Nat} {s : Value} (k : LW c w h s wr (i + 1) i) (ho : (c.wd i).1 = (o : Int)) : LW c w h s (wr.setCell ⟨h + 3, o, none⟩ (.int .i64 (cntW c o i + 1))) (i + 1) (i + 1) := by
  obtain ⟨h1, h2, h3, h4, h5, h6, h7⟩ := k
  refine ⟨h1.put (p := ⟨h + 3, o, none⟩) (fun e => ?_) _, h2, ?_, h4.far (p := ⟨h + 3, o, none⟩) (by show w.heap.size ≠ h + 3; omega) _, h5.setCell (p := ⟨h + 3, o, none⟩) (by show w.heap.size ≤ h + 3; omega) _, by simpa using h6, h7⟩
  · rcases h2 _ e with e1 | e1
    · have e2 : h + 3 = h := e1
      omega
    · have e2 : h + 4 ≤ h + 3 := e1
      omega
  · rw [← hvC_next ho]
    exact h3.put o _
/-- The slots' spans so far. -/
def LS (c : Cf) (w : World) (h N1 : Nat) (sw s : Value) (wr : World) (i : Nat) : Prop := RowZ 2 wr s i (spL (wsp c.sd) i) ∧ Grw s (h + 1) N1 ∧ HvB c w h wr c.wn ∧ RowZ 2 wr sw c.wn (spL (wsp c.wd) c.wn) ∧ (Stay sw (h + 1) N1 ∧ Grw sw h (h + 4)) ∧ N1 ≤ wr.heap.size ∧ h + 4 ≤ N1
theorem LS.push {c : Cf} {w wr w2 : World} {h N1 i : Nat} {va : Option Addr} {vc g : Nat} {sw : Value} (k : LS c w h N1 sw (.slice va i vc) wr i) (hi : i ≤ 100000) (g2 : wr.grownBy w2 none) (hb : Blk w2 g 36 #[.int .i64 (c.sd i).2.1, .int .i64 (c.sd i).2.2]) :
    ∃ v' w', (Builtin.append_ #[31, 31] 31 #[.slice va i vc, .slice (some ⟨g, 0, none⟩) 1 1]).run Try.prog w2 = .ok v' w' ∧ LS c w h N1 sw v' w' (i + 1) := by
  obtain ⟨h1, h2, h3, h4, h5, h6, h7⟩ := k
  obtain ⟨v', w', hk, r1, r2, r3⟩ := sp_push h1 hi g2 hb
  have h35 := h3.2.2.2.2
  have hs := r2.size
  exact ⟨v', w', hk, r1, h2.next h6 r3, h3.only r2 (fun q hq => by rcases h2 q hq with e | e <;> omega), h4.only r2 (h5.1.ne h2), h5, by omega, h7⟩
/-- The memories' spans so far. -/
def LR (c : Cf) (w : World) (h N2 : Nat) (sw ss sl s : Value) (wr : World) (i : Nat) : Prop := RowZ 2 wr s i (spL (fun q => ((c.cd q).base, (c.cd q).base + (c.cd q).size)) i) ∧ Grw s (h + 2) N2 ∧ HvB c w h wr c.wn ∧ (RowZ 2 wr sw c.wn (spL (wsp c.wd) c.wn) ∧ Stay sw (h + 2) N2) ∧ (RowZ 2 wr ss c.sn (spL (wsp c.sd) c.sn) ∧ Stay ss (h + 2) N2) ∧ (RowZ 3 wr sl c.cn (rgC c.cd c.cn) ∧ Stay sl (h + 2) N2) ∧ N2 ≤ wr.heap.size ∧ h + 4 ≤ N2
theorem LR.only {c : Cf} {w wr w' : World} {h N2 i : Nat} {sw ss sl s : Value} (k : LR c w h N2 sw ss sl s wr i) (g : wr.grownBy w' none) : LR c w h N2 sw ss sl s w' i := by
  obtain ⟨h1, h2, h3, ⟨h4, h4'⟩, ⟨h5, h5'⟩, ⟨h6, h6'⟩, h7, h8⟩ := k
  exact ⟨h1.grown g, h2, h3.only g (fun q hq => by cases hq), ⟨h4.grown g, h4'⟩, ⟨h5.grown g, h5'⟩, ⟨h6.grown g, h6'⟩, Nat.le_trans h7 g.size, h8⟩
theorem LR.push {c : Cf} {w wr w2 : World} {h N2 i : Nat} {va : Option Addr} {vc g : Nat} {sw ss sl : Value} (k : LR c w h N2 sw ss sl (.slice va i vc) wr i) (hi : i ≤ 100000) (g2 : wr.grownBy w2 none) (hb : Blk w2 g 36 #[.int .i64 (c.cd i).base, .int .i64 ((c.cd i).base + (c.cd i).size)]) :
    ∃ v' w', (Builtin.append_ #[31, 31] 31 #[.slice va i vc, .slice (some ⟨g, 0, none⟩) 1 1]).run Try.prog w2 = .ok v' w' ∧ LR c w h N2 sw ss sl v' w' (i + 1) := by
  obtain ⟨h1, h2, h3, ⟨h4, h4'⟩, ⟨h5, h5'⟩, ⟨h6, h6'⟩, h7, h8⟩ := k
  obtain ⟨v', w', hk, r1, r2, r3⟩ := sp_push h1 hi g2 hb
  have h35 := h3.2.2.2.2
  have hs := r2.size
  exact ⟨v', w', hk, r1, h2.next h7 r3, h3.only r2 (fun q hq => by rcases h2 q hq with e | e <;> omega), ⟨h4.only r2 (h4'.ne h2), h4'⟩, ⟨h5.only r2 (h5'.ne h2), h5'⟩, ⟨h6.only r2 (h6'.ne h2), h6'⟩, by omega, h8⟩
end Go.Proofs.Ytgkegmkedkgkcaa
