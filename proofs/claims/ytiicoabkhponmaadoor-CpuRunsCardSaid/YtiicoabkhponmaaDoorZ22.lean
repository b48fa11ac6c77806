import Derived.Test.YtiicoabkhponmaaDoorZ19
import Derived.Test.YtiicoabkhponmaaDoorZ20
import Derived.Test.YtiicoabkhponmaaDoorZ21
set_option linter.all false
/- What steps did, in a row; Run's boxes. -/
namespace Go.Proofs.YtiicoabkhponmaaDoor
open Go.RowKit Go.Lib
set_option linter.unusedVariables false
set_option maxRecDepth 8000

section
variable {s : Nat} {w w' : World} {v : Value} {n : Nat} {xs : List Value}
/-- append(v, x), v a slice of the call's own. -/
theorem Cu.run_push {P : Program} (w : World) (t e ty : TypeId) (i : TypeInfo) (z : Value) (bytes : Nat) (ht : P.underlying t = some (.slice e)) (hi : P.info? e = some i) (hz : i.zero = some z) (hs : i.size = s) (hby : i.bytes = bytes) (hb16 : bytes ≤ 128) (hzs : z.cells.size = s)
    (v : Value) (n : Nat) (l : List Value) (h : RowZ s w v n l) (h1 : ∀ u ∈ l, u.oneCell' = true) (xs : Value) (x : List Value) (hx : Src P s t xs 1 x w) (hn : n ≤ 1000000) :
    ∃ v' w', (Builtin.append_ #[t, t] ty #[v, xs]).run P w = .ok v' w' ∧ RowZ s w' v' (n + 1) (l ++ x) ∧ w.grownBy w' v.ownBlock ∧ (v'.ownBlock = v.ownBlock ∨ v'.ownBlock = some w.heap.size) := by
  have hxl : x.length = s := by have := hx.newsLen; omega
  have hlx : (l ++ x).length = (n + 1) * s := by rw [List.length_append, h.1, hxl, Nat.add_mul, Nat.one_mul]
  have hbm : (n + 1) * bytes ≤ 140737488355328 := by
    have : (n + 1) * bytes ≤ 1000001 * 128 := Nat.mul_le_mul (by omega) hb16
    omega
  have hsrc : Src P i.size t xs 1 x w := by rw [hs]; exact hx
  have grown : ∀ (base : Option Addr) (cap : Nat), v = .slice base n cap → cap < n + 1 → ∃ v' w', (Builtin.append_ #[t, t] ty #[v, xs]).run P w = .ok v' w' ∧ RowZ s w' v' (n + 1) (l ++ x) ∧ w.grownBy w' v.ownBlock ∧ (v'.ownBlock = v.ownBlock ∨ v'.ownBlock = some w.heap.size) := by
    intro base cap hv hcap
    have hold := ((h.drewN 1).src (P := P) t e ht h1).cells
    have hm : n + 1 ≤ maxLen := by unfold maxLen; omega
    have hge := grownCap_ge w (n + 1) cap e
    have hcm := grownCap_le_maxLen w (n + 1) cap e hm
    rw [hv] at hold
    have hr := run_append_grow_src (P := P) w t t ty e i z ht hi hz base n cap l (by rw [hs]; exact hold) xs 1 x hsrc hcap (by omega) (by rw [hby]; exact growslice_fits hcap hbm)
    rw [hv]
    refine ⟨_, _, hr, ?_, ⟨rfl, rfl, rfl, by simp, fun k hk _ => Below.heap_alloc w.drew _ k hk⟩, .inr rfl⟩
    refine RowZ.new w.drew _ e _ hlx ?_ hge hcm (fun j u hu => ?_)
    · simp only [Array.size_append, List.size_toArray, size_zeroCells, hzs, hlx]
      rw [← Nat.add_mul]
      congr 1
      omega
    · have hj := (List.getElem?_eq_some_iff.1 hu).1
      rw [Array.getElem?_append_left (by simpa using hj)]
      simpa using hu
  rcases h with ⟨hl, ⟨rfl, rfl⟩ | ⟨g, off, cap, rfl, h2, h3, h4, h5, h6⟩⟩
  · exact grown none 0 rfl (by omega)
  · by_cases hroom : n + 1 ≤ cap
    · have hcs : n * s + s ≤ cap * s := by
        have := Nat.mul_le_mul_right s hroom
        rw [Nat.add_mul, Nat.one_mul] at this
        exact this
      have hr := run_append_room_src (P := P) w t t ty e i ht hi g off n cap xs 1 x hsrc hroom (by
        intro j hj
        rw [hs, Nat.add_assoc]
        exact (h5 (n * s + j) (by omega)).1) (by
        intro j hj
        rw [hs, Nat.add_assoc]
        exact (h5 (n * s + j) (by omega)).2)
      rw [hs] at hr
      have hsome : ∀ k, k < x.length → (w.cell? ⟨g, off + n * s + k, none⟩).isSome = true := fun k hk => by
        rw [Nat.add_assoc]
        exact (h5 (n * s + k) (by omega)).1
      refine ⟨_, _, hr, ⟨hlx, .inr ⟨g, off, cap, rfl, hroom, h3, ?_, ?_, ?_⟩⟩, only_cells _ _ _ _, .inl rfl⟩
      · rw [(setCells_at g x (off + n * s) w).2.2.2.1]
        exact h4
      · intro j hj
        rw [World.frozen?_setCells]
        refine ⟨?_, (h5 j hj).2⟩
        by_cases e1 : n * s ≤ j ∧ j < n * s + s
        · have := World.cell?_setCells_in g x (off + n * s) w hsome (j - n * s) (by omega)
          rw [show off + n * s + (j - n * s) = off + j by omega] at this
          rw [this]
          rfl
        · rw [World.cell?_setCells_out g x (off + n * s) w _ (by intro _ _; simp; omega)]
          exact (h5 j hj).1
      · intro j u hu
        by_cases e1 : j < n * s
        · rw [List.getElem?_append_left (by omega)] at hu
          rw [World.cell?_setCells_out g x (off + n * s) w _ (by intro _ _; simp; omega)]
          exact h6 j u hu
        · have hj := (List.getElem?_eq_some_iff.1 hu).1
          rw [List.length_append, hl] at hj
          rw [List.getElem?_append_right (by omega), hl] at hu
          have := World.cell?_setCells_in g x (off + n * s) w hsome (j - n * s) (by omega)
          rw [show off + n * s + (j - n * s) = off + j by omega] at this
          rw [this, ← List.getElem?_eq_getElem]
          exact hu
    · exact grown _ cap rfl (by omega)
end
theorem Cu.out_info : (Tryd.prog.info? 37).map (fun i => (i.zero, i.size, i.bytes)) = some (some (.agg #[.int .i64 0, .int .i64 0, .int .i64 0, .int .i64 0]), 4, 32) := by kernel_rfl
theorem Cu.parts {P : Program} {e : TypeId} {z : Value} {s b : Nat} (h : (P.info? e).map (fun i => (i.zero, i.size, i.bytes)) = some (some z, s, b)) : ∃ i, P.info? e = some i ∧ i.zero = some z ∧ i.size = s ∧ i.bytes = b := by
  cases hq : P.info? e with
  | none => rw [hq] at h; cases h
  | some i =>
    rw [hq] at h
    simp at h
    exact ⟨i, rfl, h.1, h.2.1, h.2.2⟩
/-- What a step did, as1 cells; what the first steps did. -/
def Cu.oC (a : Cu.Af) : List Value := [.int .i64 a.o1, .int .i64 a.o2, .int .i64 a.o3, .int .i64 a.o4]
def Cu.outs (f : Nat → Cu.Af) (j : Nat) : List Value := (List.range j).flatMap fun i => Cu.oC (f (i + 1))
theorem Cu.outs_snoc (f : Nat → Cu.Af) (j : Nat) : Cu.outs f (j + 1) = Cu.outs f j ++ Cu.oC (f (j + 1)) := by
  unfold Cu.outs
  rw [List.range_succ, List.flatMap_append]
  simp
theorem Cu.outs_one (f : Nat → Cu.Af) (j : Nat) : ∀ u ∈ Cu.outs f j, u.oneCell' = true := by
  intro u hu
  simp only [Cu.outs, Cu.oC, List.mem_flatMap] at hu
  obtain ⟨i, _, h⟩ := hu
  simp at h
  rcases h with rfl | rfl | rfl | rfl <;> rfl
theorem Cu.out_push {W : World} {A : Option Addr} {c j : Nat} (f : Nat → Cu.Af) (h : RowZ 4 W (.slice A j c) j (Cu.outs f j)) (hj : j ≤ 100000) :
    ∃ A' c' W', (Builtin.append_ #[52, 52] 52 #[.slice A j c, .slice (some ⟨W.heap.size, 0, none⟩) 1 1]).run Tryd.prog (W.alloc (.cells #[.int .i64 (f (j + 1)).o1, .int .i64 (f (j + 1)).o2, .int .i64 (f (j + 1)).o3, .int .i64 (f (j + 1)).o4] 37)) = .ok (.slice A' (j + 1) c') W' ∧ RowZ 4 W' (.slice A' (j + 1) c') (j + 1) (Cu.outs f (j + 1)) ∧ (W.alloc (.cells #[.int .i64 (f (j + 1)).o1, .int .i64 (f (j + 1)).o2, .int .i64 (f (j + 1)).o3, .int .i64 (f (j + 1)).o4] 37)).grownBy W' (Value.slice A j c).ownBlock ∧ ((Value.slice A' (j + 1) c').ownBlock = (Value.slice A j c).ownBlock ∨ (Value.slice A' (j + 1) c').ownBlock = some (W.heap.size + 1)) := by
  obtain ⟨i0, hi0, hz0, hz1, hz2⟩ := Cu.parts Cu.out_info
  have hb := Blk.new W 37 #[.int .i64 (f (j + 1)).o1, .int .i64 (f (j + 1)).o2, .int .i64 (f (j + 1)).o3, .int .i64 (f (j + 1)).o4]
  have hr := h.only (row := none) (only_alloc (only_refl W none) (.cells #[.int .i64 (f (j + 1)).o1, .int .i64 (f (j + 1)).o2, .int .i64 (f (j + 1)).o3, .int .i64 (f (j + 1)).o4] 37)) (by cases hq : (Value.slice A j c).ownBlock <;> simp)
  have hs : (W.alloc (.cells #[.int .i64 (f (j + 1)).o1, .int .i64 (f (j + 1)).o2, .int .i64 (f (j + 1)).o3, .int .i64 (f (j + 1)).o4] 37)).heap.size = W.heap.size + 1 := by simp
  generalize W.alloc (.cells #[.int .i64 (f (j + 1)).o1, .int .i64 (f (j + 1)).o2, .int .i64 (f (j + 1)).o3, .int .i64 (f (j + 1)).o4] 37) = W1 at *
  have hsrc : Src Tryd.prog 4 52 (.slice (some ⟨W.heap.size, 0, none⟩) 1 1) 1 (Cu.oC (f (j + 1))) W1 := Src.ofSlice _ Tryd.underlying52 _ _ _ _ rfl (fun k u hu => by
    have ha : (⟨W.heap.size, 0, none⟩ : Addr).add k = ⟨W.heap.size, k, none⟩ := by unfold Addr.add; split <;> simp_all
    rw [ha, hb.cell k]
    simpa [Cu.oC] using hu) (by
      intro u hu
      simp [Cu.oC] at hu
      rcases hu with rfl | rfl | rfl | rfl <;> rfl)
  obtain ⟨v', W', hk, hr3, hg', ho⟩ := Cu.run_push (P := Tryd.prog) W1 52 37 52 i0 _ 32 Tryd.underlying52 hi0 hz0 hz1 hz2 (by omega) rfl _ _ _ hr (Cu.outs_one f j) _ _ hsrc (by omega)
  obtain ⟨A', c', rfl⟩ := hr3.form
  rw [← Cu.outs_snoc] at hr3
  exact ⟨A', c', W', hk, hr3, hg', by rw [← hs]; exact ho⟩
/-- The steps one after another. -/
def Cu.stN (V : List UInt8) (pc : Int) (r : Nat → Int) (md : Int) : Nat → Cu.Af
  | 0 => ⟨V, pc, r, md, 0, 0, 0, 0⟩
  | j + 1 => Cu.step (Cu.stN V pc r md j).v (Cu.stN V pc r md j).pc (Cu.stN V pc r md j).r (Cu.stN V pc r md j).md
theorem Cu.stN_len (V : List UInt8) (pc : Int) (r : Nat → Int) (md : Int) (j : Nat) : (Cu.stN V pc r md j).v.length = V.length := by
  induction j with
  | zero => rfl
  | succ j ih => exact (Cu.step_len _ _ _ _).trans ih
theorem Cu.stN_pc (V : List UInt8) (pc : Int) (r : Nat → Int) (md : Int) (hV : V.length ≤ 16384) (hpc : pc ≤ 9223372036854775807) (j : Nat) : (Cu.stN V pc r md j).pc ≤ 9223372036854775807 := by
  induction j with
  | zero => exact hpc
  | succ j ih => exact Cu.step_pc _ _ _ _ (by rw [Cu.stN_len]; exact hV) ih
theorem Cu.only_new {w W W' : World} {g i : Nat} (h : w.grownBy W (some g)) (k : W.grownBy W' (some i)) (hi : w.heap.size ≤ i) : w.grownBy W' (some g) :=
  ⟨k.os.trans h.os, k.tape.trans h.tape, k.output.trans h.output, Nat.le_trans h.size k.size, fun b hb hn => (k.block b (Nat.lt_of_lt_of_le hb h.size) (fun e => by injection e with e; omega)).trans (h.block b hb hn)⟩
/-- The boxes of Run. -/
structure Cu.Ri (w W : World) (m B g : Nat) (p q : List UInt8) (vl : Nat) (a : Cu.Af) (v : Value) (j : Nat) (L : List Value) : Prop where
  vb : Blk W (w.heap.size) 28 #[.pointer (some ⟨m, 0, none⟩), .int .i64 p.length, .int .i64 vl]
  sb : Blk W (w.heap.size + 1) 24 (Cu.stC a.pc a.r a.md)
  rs : Blk W (w.heap.size + 1 + 1) 24 #[.int .i64 0, .int .i64 0, .int .i64 0, .int .i64 0, .int .i64 0, .int .i64 0, .int .i64 0, .int .i64 0, .int .i64 0, .int .i64 0]
  mem : MemG W B m g (p ++ a.v ++ q)
  row : RowZ 4 W v j L
  own : ∀ k, v.ownBlock = some k → w.heap.size + 3 ≤ k
  grow : w.grownBy W (some g)
  lt : m < w.heap.size ∧ g < w.heap.size
section
variable {w W W' : World} {m B g vl j : Nat} {p q : List UInt8} {a : Cu.Af} {v : Value} {L : List Value}
theorem Cu.Ri.step (h : Cu.Ri w W m B g p q vl a v j L) (k : W.grownBy W' none) : Cu.Ri w W' m B g p q vl a v j L :=
  ⟨h.vb.only k (by simp), h.sb.only k (by simp), h.rs.only k (by simp), h.mem.grown k, h.row.only k (by cases hq : v.ownBlock <;> simp), h.own, only_trans h.grow (only_any k _), h.lt⟩
/-- A step was done, and its state and what it did are stored. -/
theorem Cu.Ri.next {W2 : World} {b : Nat} {O : Array Value} {a2 : Cu.Af} (h : Cu.Ri w W m B g p q vl a v j L) (hb : Blk W b 37 O) (hO : O.size = 4) (hbn : w.heap.size + 3 ≤ b) (hbv : v.ownBlock ≠ some b) (k : W.grownBy W2 (some g)) (hm : MemG W2 B m g (p ++ a2.v ++ q)) :
    Cu.Ri w (((((((((((((((W2.setCell ⟨w.heap.size + 1, 0, none⟩ (.int .i64 a2.pc)).setCell ⟨w.heap.size + 1, 1, none⟩ (.int .i64 (a2.r 0))).setCell ⟨w.heap.size + 1, 2, none⟩ (.int .i64 (a2.r 1))).setCell ⟨w.heap.size + 1, 3, none⟩ (.int .i64 (a2.r 2))).setCell ⟨w.heap.size + 1, 4, none⟩ (.int .i64 (a2.r 3))).setCell ⟨w.heap.size + 1, 5, none⟩ (.int .i64 (a2.r 4))).setCell ⟨w.heap.size + 1, 6, none⟩ (.int .i64 (a2.r 5))).setCell ⟨w.heap.size + 1, 7, none⟩ (.int .i64 (a2.r 6))).setCell ⟨w.heap.size + 1, 8, none⟩ (.int .i64 (a2.r 7))).setCell ⟨w.heap.size + 1, 9, none⟩ (.int .i64 a2.md)).setCell ⟨b, 0, none⟩ (.int .i64 a2.o1)).setCell ⟨b, 1, none⟩ (.int .i64 a2.o2)).setCell ⟨b, 2, none⟩ (.int .i64 a2.o3)).setCell ⟨b, 3, none⟩ (.int .i64 a2.o4))) m B g p q vl a2 v j L ∧ Blk (((((((((((((((W2.setCell ⟨w.heap.size + 1, 0, none⟩ (.int .i64 a2.pc)).setCell ⟨w.heap.size + 1, 1, none⟩ (.int .i64 (a2.r 0))).setCell ⟨w.heap.size + 1, 2, none⟩ (.int .i64 (a2.r 1))).setCell ⟨w.heap.size + 1, 3, none⟩ (.int .i64 (a2.r 2))).setCell ⟨w.heap.size + 1, 4, none⟩ (.int .i64 (a2.r 3))).setCell ⟨w.heap.size + 1, 5, none⟩ (.int .i64 (a2.r 4))).setCell ⟨w.heap.size + 1, 6, none⟩ (.int .i64 (a2.r 5))).setCell ⟨w.heap.size + 1, 7, none⟩ (.int .i64 (a2.r 6))).setCell ⟨w.heap.size + 1, 8, none⟩ (.int .i64 (a2.r 7))).setCell ⟨w.heap.size + 1, 9, none⟩ (.int .i64 a2.md)).setCell ⟨b, 0, none⟩ (.int .i64 a2.o1)).setCell ⟨b, 1, none⟩ (.int .i64 a2.o2)).setCell ⟨b, 2, none⟩ (.int .i64 a2.o3)).setCell ⟨b, 3, none⟩ (.int .i64 a2.o4))) b 37 #[.int .i64 a2.o1, .int .i64 a2.o2, .int .i64 a2.o3, .int .i64 a2.o4] := by
  have ng : ∀ i, w.heap.size ≤ i → some i ≠ some g := fun i hi e => by injection e with e; have := h.lt.2; omega
  have v2 := h.vb.only k (ng _ (Nat.le_refl _))
  have s2 := h.sb.only k (ng _ (by omega))
  have r2 := h.rs.only k (ng _ (by omega))
  have b2 := hb.only k (ng _ (by omega))
  have w2 := h.row.only k (.inr (fun e => by have := h.own g e; have := h.lt.2; omega))
  have g2 := only_trans h.grow k
  have gs : W2.grownBy ((((((((((W2.setCell ⟨w.heap.size + 1, 0, none⟩ (.int .i64 a2.pc)).setCell ⟨w.heap.size + 1, 1, none⟩ (.int .i64 (a2.r 0))).setCell ⟨w.heap.size + 1, 2, none⟩ (.int .i64 (a2.r 1))).setCell ⟨w.heap.size + 1, 3, none⟩ (.int .i64 (a2.r 2))).setCell ⟨w.heap.size + 1, 4, none⟩ (.int .i64 (a2.r 3))).setCell ⟨w.heap.size + 1, 5, none⟩ (.int .i64 (a2.r 4))).setCell ⟨w.heap.size + 1, 6, none⟩ (.int .i64 (a2.r 5))).setCell ⟨w.heap.size + 1, 7, none⟩ (.int .i64 (a2.r 6))).setCell ⟨w.heap.size + 1, 8, none⟩ (.int .i64 (a2.r 7))).setCell ⟨w.heap.size + 1, 9, none⟩ (.int .i64 a2.md)) (some (w.heap.size + 1)) := (only_put (only_put (only_put (only_put (only_put (only_put (only_put (only_put (only_put (only_put (only_refl _ _) 0 (.int .i64 a2.pc)) 1 (.int .i64 (a2.r 0))) 2 (.int .i64 (a2.r 1))) 3 (.int .i64 (a2.r 2))) 4 (.int .i64 (a2.r 3))) 5 (.int .i64 (a2.r 4))) 6 (.int .i64 (a2.r 5))) 7 (.int .i64 (a2.r 6))) 8 (.int .i64 (a2.r 7))) 9 (.int .i64 a2.md))
  have s3 : Blk ((((((((((W2.setCell ⟨w.heap.size + 1, 0, none⟩ (.int .i64 a2.pc)).setCell ⟨w.heap.size + 1, 1, none⟩ (.int .i64 (a2.r 0))).setCell ⟨w.heap.size + 1, 2, none⟩ (.int .i64 (a2.r 1))).setCell ⟨w.heap.size + 1, 3, none⟩ (.int .i64 (a2.r 2))).setCell ⟨w.heap.size + 1, 4, none⟩ (.int .i64 (a2.r 3))).setCell ⟨w.heap.size + 1, 5, none⟩ (.int .i64 (a2.r 4))).setCell ⟨w.heap.size + 1, 6, none⟩ (.int .i64 (a2.r 5))).setCell ⟨w.heap.size + 1, 7, none⟩ (.int .i64 (a2.r 6))).setCell ⟨w.heap.size + 1, 8, none⟩ (.int .i64 (a2.r 7))).setCell ⟨w.heap.size + 1, 9, none⟩ (.int .i64 a2.md)) (w.heap.size + 1) 24 (Cu.stC a2.pc a2.r a2.md) := by
    have := ((((((((((s2.put 0 (.int .i64 a2.pc)).put 1 (.int .i64 (a2.r 0))).put 2 (.int .i64 (a2.r 1))).put 3 (.int .i64 (a2.r 2))).put 4 (.int .i64 (a2.r 3))).put 5 (.int .i64 (a2.r 4))).put 6 (.int .i64 (a2.r 5))).put 7 (.int .i64 (a2.r 6))).put 8 (.int .i64 (a2.r 7))).put 9 (.int .i64 a2.md))
    simpa [Cu.stC] using this
  generalize ((((((((((W2.setCell ⟨w.heap.size + 1, 0, none⟩ (.int .i64 a2.pc)).setCell ⟨w.heap.size + 1, 1, none⟩ (.int .i64 (a2.r 0))).setCell ⟨w.heap.size + 1, 2, none⟩ (.int .i64 (a2.r 1))).setCell ⟨w.heap.size + 1, 3, none⟩ (.int .i64 (a2.r 2))).setCell ⟨w.heap.size + 1, 4, none⟩ (.int .i64 (a2.r 3))).setCell ⟨w.heap.size + 1, 5, none⟩ (.int .i64 (a2.r 4))).setCell ⟨w.heap.size + 1, 6, none⟩ (.int .i64 (a2.r 5))).setCell ⟨w.heap.size + 1, 7, none⟩ (.int .i64 (a2.r 6))).setCell ⟨w.heap.size + 1, 8, none⟩ (.int .i64 (a2.r 7))).setCell ⟨w.heap.size + 1, 9, none⟩ (.int .i64 a2.md)) = W3 at gs s3 ⊢
  have ns : ∀ i, i ≠ w.heap.size + 1 → some i ≠ some (w.heap.size + 1) := fun i hi e => hi (by injection e)
  have v3 := v2.only gs (ns _ (by omega))
  have r3 := r2.only gs (ns _ (by omega))
  have b3 := b2.only gs (ns _ (by omega))
  have w3 := w2.only gs (.inr (fun e => by have := h.own _ e; omega))
  have m3 := hm.far gs (by have := h.lt; omega) (by have := h.lt; omega)
  have g3 : w.grownBy W3 (some g) := Cu.only_new g2 gs (by omega)
  have gb : W3.grownBy ((((W3.setCell ⟨b, 0, none⟩ (.int .i64 a2.o1)).setCell ⟨b, 1, none⟩ (.int .i64 a2.o2)).setCell ⟨b, 2, none⟩ (.int .i64 a2.o3)).setCell ⟨b, 3, none⟩ (.int .i64 a2.o4)) (some b) := (only_put (only_put (only_put (only_put (only_refl _ _) 0 (.int .i64 a2.o1)) 1 (.int .i64 a2.o2)) 2 (.int .i64 a2.o3)) 3 (.int .i64 a2.o4))
  have b4 : Blk ((((W3.setCell ⟨b, 0, none⟩ (.int .i64 a2.o1)).setCell ⟨b, 1, none⟩ (.int .i64 a2.o2)).setCell ⟨b, 2, none⟩ (.int .i64 a2.o3)).setCell ⟨b, 3, none⟩ (.int .i64 a2.o4)) b 37 #[.int .i64 a2.o1, .int .i64 a2.o2, .int .i64 a2.o3, .int .i64 a2.o4] := by
    have := ((((b3.put 0 (.int .i64 a2.o1)).put 1 (.int .i64 a2.o2)).put 2 (.int .i64 a2.o3)).put 3 (.int .i64 a2.o4))
    obtain ⟨O⟩ := O
    match O, hO with
    | [x0, x1, x2, x3], _ => simpa using this
  generalize ((((W3.setCell ⟨b, 0, none⟩ (.int .i64 a2.o1)).setCell ⟨b, 1, none⟩ (.int .i64 a2.o2)).setCell ⟨b, 2, none⟩ (.int .i64 a2.o3)).setCell ⟨b, 3, none⟩ (.int .i64 a2.o4)) = W4 at gb b4 ⊢
  have nb : ∀ i, i ≠ b → some i ≠ some b := fun i hi e => hi (by injection e)
  exact ⟨⟨v3.only gb (nb _ (by omega)), s3.only gb (nb _ (by omega)), r3.only gb (nb _ (by omega)), m3.far gb (by have := h.lt; omega) (by have := h.lt; omega), w3.only gb (.inr hbv), h.own, Cu.only_new g3 gb (by omega), h.lt⟩, b4⟩
/-- One more in the row. -/
theorem Cu.Ri.more {v' : Value} {L' : List Value} (h : Cu.Ri w W m B g p q vl a v j L) (k : W.grownBy W' v.ownBlock) (hr : RowZ 4 W' v' (j + 1) L') (ho : v'.ownBlock = v.ownBlock ∨ ∃ k, v'.ownBlock = some k ∧ w.heap.size + 3 ≤ k) : Cu.Ri w W' m B g p q vl a v' (j + 1) L' := by
  have nv : ∀ i, i < w.heap.size + 3 → some i ≠ v.ownBlock := fun i hi e => by have := h.own i e.symm; omega
  refine ⟨h.vb.only k (nv _ (by omega)), h.sb.only k (nv _ (by omega)), h.rs.only k (nv _ (by omega)), ?_, hr, fun i hi => ?_, ?_, h.lt⟩
  · exact ⟨h.mem.1, h.mem.2.1, h.mem.2.2.1.only k (nv _ (by have := h.lt; omega)), h.mem.2.2.2.only k (nv _ (by have := h.lt; omega))⟩
  · rcases ho with e | ⟨i', e, hi'⟩
    · exact h.own i (e ▸ hi)
    · rw [e] at hi; injection hi with hi; omega
  · cases hq : v.ownBlock with
    | none => rw [hq] at k; exact only_trans h.grow (only_any k _)
    | some i => rw [hq] at k; exact Cu.only_new h.grow k (by have := h.own i hq; omega)
end
end Go.Proofs.YtiicoabkhponmaaDoor
