import Derived.Test.YthhodadfiipffaaDoorZ14
import Derived.Test.YthhodadfiipffaaDoorZ15
import Derived.Defers
import Derived.Scope
import Derived.WalkMore
import Derived.ScopeJumps
import Derived.ChangeKeysEq
set_option linter.all false
/- What steps did, in a row; Run's boxes. -/
namespace Go.Proofs.YthhodadfiipffaaDoor
open Go.RowKit Go.Lib
set_option linter.unusedVariables false
set_option maxRecDepth 8000

section
variable {s : Nat} {w w' : World} {v : Value} {n : Nat} {xs : List Value}
/-- append(v, x), v a slice of the call's own. -/
theorem Cu.run_push {P : Program} (w : World) (t e ty : TypeId) (i : TypeInfo) (z : Value) (bytes : Nat) (ht : P.underlying t = some (.slice e)) (hi : P.info? e = some i) (hz : i.zero = some z) (hs : i.size = s) (hby : i.bytes = bytes) (hb16 : bytes ≤ 128) (hzs : z.cells.size = s)
    (v : Value) (n : Nat) (l : List Value) (h : RowZ s w v n l) (h1 : ∀ u ∈ l, u.oneCell' = true) (xs : Value) (x : List Value) (hx : Src P s t xs 1 x w) (hn : n ≤ 1000000) :
    ∃ v' w', (Builtin.append_ #[t, t] ty #[v, xs]).run P w = .ok v' w' ∧ RowZ s w' v' (n + 1) (l ++ x) ∧ w.grownBy w' v.ownBlock ∧ (v'.ownBlock = v.ownBlock ∨ v'.ownBlock = some w.heap.size) := by
  have hxl : x.length = s := by have := hx.newsLen; omega
  have hlx : (l ++ x).length = (n + 1) * s := by rw [List.length_append, h.1, hxl, Nat.add_mul, Nat.one_mul]
  have hbm : (n + 1) * bytes ≤ 140737488355328 := by
    have : (n + 1) * bytes ≤ 1000001 * 128 := Nat.mul_le_mul (by omega) hb16
    omega
  have hsrc : Src P i.size t xs 1 x w := by rw [hs]; exact hx
  have grown : ∀ (base : Option Addr) (cap : Nat), v = .slice base n cap → cap < n + 1 → ∃ v' w', (Builtin.append_ #[t, t] ty #[v, xs]).run P w = .ok v' w' ∧ RowZ s w' v' (n + 1) (l ++ x) ∧ w.grownBy w' v.ownBlock ∧ (v'.ownBlock = v.ownBlock ∨ v'.ownBlock = some w.heap.size) := by
    intro base cap hv hcap
    have hold := ((h.drewN 1).src (P := P) t e ht h1).cells
    have hm : n + 1 ≤ maxLen := by unfold maxLen; omega
    have hge := grownCap_ge w (n + 1) cap e
    have hcm := grownCap_le_maxLen w (n + 1) cap e hm
    rw [hv] at hold
    have hr := run_append_grow_src (P := P) w t t ty e i z ht hi hz base n cap l (by rw [hs]; exact hold) xs 1 x hsrc hcap (by omega) (by rw [hby]; exact growslice_fits hcap hbm)
    rw [hv]
    refine ⟨_, _, hr, ?_, ⟨rfl, rfl, rfl, by simp, fun k hk _ => Below.heap_alloc w.drew _ k hk⟩, .inr rfl⟩
    refine RowZ.new w.drew _ e _ hlx ?_ hge hcm (fun j u hu => ?_)
    · simp only [Array.size_append, List.size_toArray, size_zeroCells, hzs, hlx]
      rw [← Nat.add_mul]
      congr 1
      omega
    · have hj := (List.getElem?_eq_some_iff.1 hu).1
      rw [Array.getElem?_append_left (by simpa using hj)]
      simpa using hu
  rcases h with ⟨hl, ⟨rfl, rfl⟩ | ⟨g, off, cap, rfl, h2, h3, h4, h5, h6⟩⟩
  · exact grown none 0 rfl (by omega)
  · by_cases hroom : n + 1 ≤ cap
    · have hcs : n * s + s ≤ cap * s := by
        have := Nat.mul_le_mul_right s hroom
        rw [Nat.add_mul, Nat.one_mul] at this
        exact this
      have hr := run_append_room_src (P := P) w t t ty e i ht hi g off n cap xs 1 x hsrc hroom (by
        intro j hj
        rw [hs, Nat.add_assoc]
        exact (h5 (n * s + j) (by omega)).1) (by
        intro j hj
        rw [hs, Nat.add_assoc]
        exact (h5 (n * s + j) (by omega)).2)
      rw [hs] at hr
      have hsome : ∀ k, k < x.length → (w.cell? ⟨g, off + n * s + k, none⟩).isSome = true := fun k hk => by
        rw [Nat.add_assoc]
        exact (h5 (n * s + k) (by omega)).1
      refine ⟨_, _, hr, ⟨hlx, .inr ⟨g, off, cap, rfl, hroom, h3, ?_, ?_, ?_⟩⟩, only_cells _ _ _ _, .inl rfl⟩
      · rw [(setCells_at g x (off + n * s) w).2.2.2.1]
        exact h4
      · intro j hj
        rw [World.frozen?_setCells]
        refine ⟨?_, (h5 j hj).2⟩
        by_cases e1 : n * s ≤ j ∧ j < n * s + s
        · have := World.cell?_setCells_in g x (off + n * s) w hsome (j - n * s) (by omega)
          rw [show off + n * s + (j - n * s) = off + j by omega] at this
          rw [this]
          rfl
        · rw [World.cell?_setCells_out g x (off + n * s) w _ (by intro _ _; simp; omega)]
          exact (h5 j hj).1
      · intro j u hu
        by_cases e1 : j < n * s
        · rw [List.getElem?_append_left (by omega)] at hu
          rw [World.cell?_setCells_out g x (off + n * s) w _ (by intro _ _; simp; omega)]
          exact h6 j u hu
        · have hj := (List.getElem?_eq_some_iff.1 hu).1
          rw [List.length_append, hl] at hj
          rw [List.getElem?_append_right (by omega), hl] at hu
          have := World.cell?_setCells_in g x (off + n * s) w hsome (j - n * s) (by omega)
          rw [show off + n * s + (j - n * s) = off + j by omega] at this
          rw [this, ← List.getElem?_eq_getElem]
          exact hu
    · exact grown _ cap rfl (by omega)
end
theorem Cu.out_info : (Tryd.prog.info? 90).map (fun i => (i.zero, i.size, i.bytes)) = some (some (.agg #[.int .i64 0, .int .i64 0, .int .i64 0, .int .i64 0]), 4, 32) := by kernel_rfl
theorem Cu.parts {P : Program} {e : TypeId} {z : Value} {s b : Nat} (h : (P.info? e).map (fun i => (i.zero, i.size, i.bytes)) = some (some z, s, b)) : ∃ i, P.info? e = some i ∧ i.zero = some z ∧ i.size = s ∧ i.bytes = b := by
  cases hq : P.info? e with
  | none => rw [hq] at h; cases h
  | some i =>
    rw [hq] at h
    simp at h
    exact ⟨i, rfl, h.1, h.2.1, h.2.2⟩
/-- What a step did, as1 cells; what the first steps did. -/
def Cu.oC (a : Cu.Af) : List Value := [.int .i64 a.o1, .int .i64 a.o2, .int .i64 a.o3, .int .i64 a.o4]
def Cu.outs (f : Nat → Cu.Af) (j : Nat) : List Value := (List.range j).flatMap fun i => Cu.oC (f (i + 1))
theorem Cu.outs_snoc (f : Nat → Cu.Af) (j : Nat) : Cu.outs f (j + 1) = Cu.outs f j ++ Cu.oC (f (j + 1)) := by
  unfold Cu.outs
  rw [List.range_succ, List.flatMap_append]
  simp
theorem Cu.outs_one (f : Nat → Cu.Af) (j : Nat) : ∀ u ∈ Cu.outs f j, u.oneCell' = true := by
  intro u hu
  simp only [Cu.outs, Cu.oC, List.mem_flatMap] at hu
  obtain ⟨i, _, h⟩ := hu
  simp at h
  rcases h with rfl | rfl | rfl | rfl <;> rfl
/-- The steps one after another. -/
def Cu.stN (V : List UInt8) (pc : Int) (r : Nat → Int) (md : Int) : Nat → Cu.Af
  | 0 => ⟨V, pc, r, md, 0, 0, 0, 0⟩
  | j + 1 => Cu.step (Cu.stN V pc r md j).v (Cu.stN V pc r md j).pc (Cu.stN V pc r md j).r (Cu.stN V pc r md j).md
theorem Cu.stN_len (V : List UInt8) (pc : Int) (r : Nat → Int) (md : Int) (j : Nat) : (Cu.stN V pc r md j).v.length = V.length := by
  induction j with
  | zero => rfl
  | succ j ih => exact (Cu.step_len _ _ _ _).trans ih
theorem Cu.stN_pc (V : List UInt8) (pc : Int) (r : Nat → Int) (md : Int) (hV : V.length ≤ 16384) (hpc : pc ≤ 9223372036854775807) (j : Nat) : (Cu.stN V pc r md j).pc ≤ 9223372036854775807 := by
  induction j with
  | zero => exact hpc
  | succ j ih => exact Cu.step_pc _ _ _ _ (by rw [Cu.stN_len]; exact hV) ih
theorem Cu.only_new {w W W' : World} {g i : Nat} (h : w.grownBy W (some g)) (k : W.grownBy W' (some i)) (hi : w.heap.size ≤ i) : w.grownBy W' (some g) :=
  ⟨k.os.trans h.os, k.tape.trans h.tape, k.output.trans h.output, Nat.le_trans h.size k.size, fun b hb hn => (k.block b (Nat.lt_of_lt_of_le hb h.size) (fun e => by injection e with e; omega)).trans (h.block b hb hn)⟩
/-- The boxes of Run. -/
structure Cu.Ri (w W : World) (m B g : Nat) (p q : List UInt8) (vl : Nat) (a : Cu.Af) (v : Value) (j : Nat) (L : List Value) : Prop where
  vb : Blk W (w.heap.size) 31 #[.pointer (some ⟨m, 0, none⟩), .int .i64 p.length, .int .i64 vl]
  sb : Blk W (w.heap.size + 1) 55 (Cu.stC a.pc a.r a.md)
  rs : Blk W (w.heap.size + 1 + 1) 55 #[.int .i64 0, .int .i64 0, .int .i64 0, .int .i64 0, .int .i64 0, .int .i64 0, .int .i64 0, .int .i64 0, .int .i64 0, .int .i64 0]
  mem : MemG W B m g (p ++ a.v ++ q)
  row : RowZ 4 W v j L
  own : ∀ k, v.ownBlock = some k → w.heap.size + 3 ≤ k
  grow : w.grownBy W (some g)
  lt : m < w.heap.size ∧ g < w.heap.size
section
variable {w W W' : World} {m B g vl j : Nat} {p q : List UInt8} {a : Cu.Af} {v : Value} {L : List Value}
theorem Cu.Ri.step (h : Cu.Ri w W m B g p q vl a v j L) (k : W.grownBy W' none) : Cu.Ri w W' m B g p q vl a v j L :=
  ⟨h.vb.only k (by simp), h.sb.only k (by simp), h.rs.only k (by simp), h.mem.grown k, h.row.only k (by cases hq : v.ownBlock <;> simp), h.own, only_trans h.grow (only_any k _), h.lt⟩
/-- A step was done, and its state and what it did are stored. -/
theorem Cu.Ri.next {W2 : World} {b : Nat} {O : Array Value} {a2 : Cu.Af} (h : Cu.Ri w W m B g p q vl a v j L) (hb : Blk W b 90 O) (hO : O.size = 4) (hbn : w.heap.size + 3 ≤ b) (hbv : v.ownBlock ≠ some b) (k : W.grownBy W2 (some g)) (hm : MemG W2 B m g (p ++ a2.v ++ q)) :
    Cu.Ri w (((((((((((((((W2.setCell ⟨w.heap.size + 1, 0, none⟩ (.int .i64 a2.pc)).setCell ⟨w.heap.size + 1, 1, none⟩ (.int .i64 (a2.r 0))).setCell ⟨w.heap.size + 1, 2, none⟩ (.int .i64 (a2.r 1))).setCell ⟨w.heap.size + 1, 3, none⟩ (.int .i64 (a2.r 2))).setCell ⟨w.heap.size + 1, 4, none⟩ (.int .i64 (a2.r 3))).setCell ⟨w.heap.size + 1, 5, none⟩ (.int .i64 (a2.r 4))).setCell ⟨w.heap.size + 1, 6, none⟩ (.int .i64 (a2.r 5))).setCell ⟨w.heap.size + 1, 7, none⟩ (.int .i64 (a2.r 6))).setCell ⟨w.heap.size + 1, 8, none⟩ (.int .i64 (a2.r 7))).setCell ⟨w.heap.size + 1, 9, none⟩ (.int .i64 a2.md)).setCell ⟨b, 0, none⟩ (.int .i64 a2.o1)).setCell ⟨b, 1, none⟩ (.int .i64 a2.o2)).setCell ⟨b, 2, none⟩ (.int .i64 a2.o3)).setCell ⟨b, 3, none⟩ (.int .i64 a2.o4))) m B g p q vl a2 v j L ∧ Blk (((((((((((((((W2.setCell ⟨w.heap.size + 1, 0, none⟩ (.int .i64 a2.pc)).setCell ⟨w.heap.size + 1, 1, none⟩ (.int .i64 (a2.r 0))).setCell ⟨w.heap.size + 1, 2, none⟩ (.int .i64 (a2.r 1))).setCell ⟨w.heap.size + 1, 3, none⟩ (.int .i64 (a2.r 2))).setCell ⟨w.heap.size + 1, 4, none⟩ (.int .i64 (a2.r 3))).setCell ⟨w.heap.size + 1, 5, none⟩ (.int .i64 (a2.r 4))).setCell ⟨w.heap.size + 1, 6, none⟩ (.int .i64 (a2.r 5))).setCell ⟨w.heap.size + 1, 7, none⟩ (.int .i64 (a2.r 6))).setCell ⟨w.heap.size + 1, 8, none⟩ (.int .i64 (a2.r 7))).setCell ⟨w.heap.size + 1, 9, none⟩ (.int .i64 a2.md)).setCell ⟨b, 0, none⟩ (.int .i64 a2.o1)).setCell ⟨b, 1, none⟩ (.int .i64 a2.o2)).setCell ⟨b, 2, none⟩ (.int .i64 a2.o3)).setCell ⟨b, 3, none⟩ (.int .i64 a2.o4))) b 90 #[.int .i64 a2.o1, .int .i64 a2.o2, .int .i64 a2.o3, .int .i64 a2.o4] := by
  have ng : ∀ i, w.heap.size ≤ i → some i ≠ some g := fun i hi e => by injection e with e; have := h.lt.2; omega
  have v2 := h.vb.only k (ng _ (Nat.le_refl _))
  have s2 := h.sb.only k (ng _ (by omega))
  have r2 := h.rs.only k (ng _ (by omega))
  have b2 := hb.only k (ng _ (by omega))
  have w2 := h.row.only k (.inr (fun e => by have := h.own g e; have := h.lt.2; omega))
  have g2 := only_trans h.grow k
  have gs : W2.grownBy ((((((((((W2.setCell ⟨w.heap.size + 1, 0, none⟩ (.int .i64 a2.pc)).setCell ⟨w.heap.size + 1, 1, none⟩ (.int .i64 (a2.r 0))).setCell ⟨w.heap.size + 1, 2, none⟩ (.int .i64 (a2.r 1))).setCell ⟨w.heap.size + 1, 3, none⟩ (.int .i64 (a2.r 2))).setCell ⟨w.heap.size + 1, 4, none⟩ (.int .i64 (a2.r 3))).setCell ⟨w.heap.size + 1, 5, none⟩ (.int .i64 (a2.r 4))).setCell ⟨w.heap.size + 1, 6, none⟩ (.int .i64 (a2.r 5))).setCell ⟨w.heap.size + 1, 7, none⟩ (.int .i64 (a2.r 6))).setCell ⟨w.heap.size + 1, 8, none⟩ (.int .i64 (a2.r 7))).setCell ⟨w.heap.size + 1, 9, none⟩ (.int .i64 a2.md)) (some (w.heap.size + 1)) := (only_put (only_put (only_put (only_put (only_put (only_put (only_put (only_put (only_put (only_put (only_refl _ _) 0 (.int .i64 a2.pc)) 1 (.int .i64 (a2.r 0))) 2 (.int .i64 (a2.r 1))) 3 (.int .i64 (a2.r 2))) 4 (.int .i64 (a2.r 3))) 5 (.int .i64 (a2.r 4))) 6 (.int .i64 (a2.r 5))) 7 (.int .i64 (a2.r 6))) 8 (.int .i64 (a2.r 7))) 9 (.int .i64 a2.md))
  have s3 : Blk ((((((((((W2.setCell ⟨w.heap.size + 1, 0, none⟩ (.int .i64 a2.pc)).setCell ⟨w.heap.size + 1, 1, none⟩ (.int .i64 (a2.r 0))).setCell ⟨w.heap.size + 1, 2, none⟩ (.int .i64 (a2.r 1))).setCell ⟨w.heap.size + 1, 3, none⟩ (.int .i64 (a2.r 2))).setCell ⟨w.heap.size + 1, 4, none⟩ (.int .i64 (a2.r 3))).setCell ⟨w.heap.size + 1, 5, none⟩ (.int .i64 (a2.r 4))).setCell ⟨w.heap.size + 1, 6, none⟩ (.int .i64 (a2.r 5))).setCell ⟨w.heap.size + 1, 7, none⟩ (.int .i64 (a2.r 6))).setCell ⟨w.heap.size + 1, 8, none⟩ (.int .i64 (a2.r 7))).setCell ⟨w.heap.size + 1, 9, none⟩ (.int .i64 a2.md)) (w.heap.size + 1) 55 (Cu.stC a2.pc a2.r a2.md) := by
    have := ((((((((((s2.put 0 (.int .i64 a2.pc)).put 1 (.int .i64 (a2.r 0))).put 2 (.int .i64 (a2.r 1))).put 3 (.int .i64 (a2.r 2))).put 4 (.int .i64 (a2.r 3))).put 5 (.int .i64 (a2.r 4))).put 6 (.int .i64 (a2.r 5))).put 7 (.int .i64 (a2.r 6))).put 8 (.int .i64 (a2.r 7))).put 9 (.int .i64 a2.md))
    simpa [Cu.stC] using this
  generalize ((((((((((W2.setCell ⟨w.heap.size + 1, 0, none⟩ (.int .i64 a2.pc)).setCell ⟨w.heap.size + 1, 1, none⟩ (.int .i64 (a2.r 0))).setCell ⟨w.heap.size + 1, 2, none⟩ (.int .i64 (a2.r 1))).setCell ⟨w.heap.size + 1, 3, none⟩ (.int .i64 (a2.r 2))).setCell ⟨w.heap.size + 1, 4, none⟩ (.int .i64 (a2.r 3))).setCell ⟨w.heap.size + 1, 5, none⟩ (.int .i64 (a2.r 4))).setCell ⟨w.heap.size + 1, 6, none⟩ (.int .i64 (a2.r 5))).setCell ⟨w.heap.size + 1, 7, none⟩ (.int .i64 (a2.r 6))).setCell ⟨w.heap.size + 1, 8, none⟩ (.int .i64 (a2.r 7))).setCell ⟨w.heap.size + 1, 9, none⟩ (.int .i64 a2.md)) = W3 at gs s3 ⊢
  have ns : ∀ i, i ≠ w.heap.size + 1 → some i ≠ some (w.heap.size + 1) := fun i hi e => hi (by injection e)
  have v3 := v2.only gs (ns _ (by omega))
  have r3 := r2.only gs (ns _ (by omega))
  have b3 := b2.only gs (ns _ (by omega))
  have w3 := w2.only gs (.inr (fun e => by have := h.own _ e; omega))
  have m3 := hm.far gs (by have := h.lt; omega) (by have := h.lt; omega)
  have g3 : w.grownBy W3 (some g) := Cu.only_new g2 gs (by omega)
  have gb : W3.grownBy ((((W3.setCell ⟨b, 0, none⟩ (.int .i64 a2.o1)).setCell ⟨b, 1, none⟩ (.int .i64 a2.o2)).setCell ⟨b, 2, none⟩ (.int .i64 a2.o3)).setCell ⟨b, 3, none⟩ (.int .i64 a2.o4)) (some b) := (only_put (only_put (only_put (only_put (only_refl _ _) 0 (.int .i64 a2.o1)) 1 (.int .i64 a2.o2)) 2 (.int .i64 a2.o3)) 3 (.int .i64 a2.o4))
  have b4 : Blk ((((W3.setCell ⟨b, 0, none⟩ (.int .i64 a2.o1)).setCell ⟨b, 1, none⟩ (.int .i64 a2.o2)).setCell ⟨b, 2, none⟩ (.int .i64 a2.o3)).setCell ⟨b, 3, none⟩ (.int .i64 a2.o4)) b 90 #[.int .i64 a2.o1, .int .i64 a2.o2, .int .i64 a2.o3, .int .i64 a2.o4] := by
    have := ((((b3.put 0 (.int .i64 a2.o1)).put 1 (.int .i64 a2.o2)).put 2 (.int .i64 a2.o3)).put 3 (.int .i64 a2.o4))
    obtain ⟨O⟩ := O
    match O, hO with
    | [x0, x1, x2, x3], _ => simpa using this
  generalize ((((W3.setCell ⟨b, 0, none⟩ (.int .i64 a2.o1)).setCell ⟨b, 1, none⟩ (.int .i64 a2.o2)).setCell ⟨b, 2, none⟩ (.int .i64 a2.o3)).setCell ⟨b, 3, none⟩ (.int .i64 a2.o4)) = W4 at gb b4 ⊢
  have nb : ∀ i, i ≠ b → some i ≠ some b := fun i hi e => hi (by injection e)
  exact ⟨⟨v3.only gb (nb _ (by omega)), s3.only gb (nb _ (by omega)), r3.only gb (nb _ (by omega)), m3.far gb (by have := h.lt; omega) (by have := h.lt; omega), w3.only gb (.inr hbv), h.own, Cu.only_new g3 gb (by omega), h.lt⟩, b4⟩
/-- One more in the row. -/
theorem Cu.Ri.more {v' : Value} {L' : List Value} (h : Cu.Ri w W m B g p q vl a v j L) (k : W.grownBy W' v.ownBlock) (hr : RowZ 4 W' v' (j + 1) L') (ho : v'.ownBlock = v.ownBlock ∨ ∃ k, v'.ownBlock = some k ∧ w.heap.size + 3 ≤ k) : Cu.Ri w W' m B g p q vl a v' (j + 1) L' := by
  have nv : ∀ i, i < w.heap.size + 3 → some i ≠ v.ownBlock := fun i hi e => by have := h.own i e.symm; omega
  refine ⟨h.vb.only k (nv _ (by omega)), h.sb.only k (nv _ (by omega)), h.rs.only k (nv _ (by omega)), ?_, hr, fun i hi => ?_, ?_, h.lt⟩
  · exact ⟨h.mem.1, h.mem.2.1, h.mem.2.2.1.only k (nv _ (by have := h.lt; omega)), h.mem.2.2.2.only k (nv _ (by have := h.lt; omega))⟩
  · rcases ho with e | ⟨i', e, hi'⟩
    · exact h.own i (e ▸ hi)
    · rw [e] at hi; injection hi with hi; omega
  · cases hq : v.ownBlock with
    | none => rw [hq] at k; exact only_trans h.grow (only_any k _)
    | some i => rw [hq] at k; exact Cu.only_new h.grow k (by have := h.own i hq; omega)
end
end Go.Proofs.YthhodadfiipffaaDoor

/- Package cpu: Run, by contract. -/
namespace Go.Proofs.YthhodadfiipffaaDoor
open Go.RowKit Go.Lib
set_option linter.unusedVariables false
set_option maxRecDepth 8000

section
variable {w W W' : World} {m B g vl j : Nat} {p q : List UInt8} {a : Cu.Af} {v : Value} {L : List Value}
theorem Cu.Ri.cells (h : Cu.Ri w W m B g p q vl a v j L) : (W.cell? ⟨w.heap.size, 0, none⟩ = some (.pointer (some ⟨m, 0, none⟩)) ∧ W.cell? ⟨w.heap.size, 1, none⟩ = some (.int .i64 p.length) ∧ W.cell? ⟨w.heap.size, 2, none⟩ = some (.int .i64 vl)) ∧ (W.cell? ⟨w.heap.size + 1, 0, none⟩ = some (.int .i64 a.pc) ∧ W.cell? ⟨w.heap.size + 1, 1, none⟩ = some (.int .i64 (a.r 0)) ∧ W.cell? ⟨w.heap.size + 1, 2, none⟩ = some (.int .i64 (a.r 1)) ∧ W.cell? ⟨w.heap.size + 1, 3, none⟩ = some (.int .i64 (a.r 2)) ∧ W.cell? ⟨w.heap.size + 1, 4, none⟩ = some (.int .i64 (a.r 3)) ∧ W.cell? ⟨w.heap.size + 1, 5, none⟩ = some (.int .i64 (a.r 4)) ∧ W.cell? ⟨w.heap.size + 1, 6, none⟩ = some (.int .i64 (a.r 5)) ∧ W.cell? ⟨w.heap.size + 1, 7, none⟩ = some (.int .i64 (a.r 6)) ∧ W.cell? ⟨w.heap.size + 1, 8, none⟩ = some (.int .i64 (a.r 7)) ∧ W.cell? ⟨w.heap.size + 1, 9, none⟩ = some (.int .i64 a.md)) ∧ (W.cell? ⟨w.heap.size + 1 + 1, 0, none⟩ = some (.int .i64 0) ∧ W.cell? ⟨w.heap.size + 1 + 1, 1, none⟩ = some (.int .i64 0) ∧ W.cell? ⟨w.heap.size + 1 + 1, 2, none⟩ = some (.int .i64 0) ∧ W.cell? ⟨w.heap.size + 1 + 1, 3, none⟩ = some (.int .i64 0) ∧ W.cell? ⟨w.heap.size + 1 + 1, 4, none⟩ = some (.int .i64 0) ∧ W.cell? ⟨w.heap.size + 1 + 1, 5, none⟩ = some (.int .i64 0) ∧ W.cell? ⟨w.heap.size + 1 + 1, 6, none⟩ = some (.int .i64 0) ∧ W.cell? ⟨w.heap.size + 1 + 1, 7, none⟩ = some (.int .i64 0) ∧ W.cell? ⟨w.heap.size + 1 + 1, 8, none⟩ = some (.int .i64 0) ∧ W.cell? ⟨w.heap.size + 1 + 1, 9, none⟩ = some (.int .i64 0)) ∧ (W.frozen? ⟨w.heap.size + 1 + 1, 0, none⟩ = false ∧ W.frozen? ⟨w.heap.size + 1 + 1, 1, none⟩ = false ∧ W.frozen? ⟨w.heap.size + 1 + 1, 2, none⟩ = false ∧ W.frozen? ⟨w.heap.size + 1 + 1, 3, none⟩ = false ∧ W.frozen? ⟨w.heap.size + 1 + 1, 4, none⟩ = false ∧ W.frozen? ⟨w.heap.size + 1 + 1, 5, none⟩ = false ∧ W.frozen? ⟨w.heap.size + 1 + 1, 6, none⟩ = false ∧ W.frozen? ⟨w.heap.size + 1 + 1, 7, none⟩ = false ∧ W.frozen? ⟨w.heap.size + 1 + 1, 8, none⟩ = false ∧ W.frozen? ⟨w.heap.size + 1 + 1, 9, none⟩ = false) := by
  have h0 := h.vb
  have h1 := h.sb
  have h2 := h.rs
  exact ⟨⟨h0.cell 0, h0.cell 1, h0.cell 2⟩, ⟨h1.cell 0, h1.cell 1, h1.cell 2, h1.cell 3, h1.cell 4, h1.cell 5, h1.cell 6, h1.cell 7, h1.cell 8, h1.cell 9⟩, ⟨h2.cell 0, h2.cell 1, h2.cell 2, h2.cell 3, h2.cell 4, h2.cell 5, h2.cell 6, h2.cell 7, h2.cell 8, h2.cell 9⟩, ⟨h2.free 0, h2.free 1, h2.free 2, h2.free 3, h2.free 4, h2.free 5, h2.free 6, h2.free 7, h2.free 8, h2.free 9⟩⟩
/-- Behind a step: what the stores ask. -/
theorem Cu.Ri.aft {W2 : World} {b : Nat} (h : Cu.Ri w W m B g p q vl a v j L) (hb : Blk W b 90 #[.int .i64 0, .int .i64 0, .int .i64 0, .int .i64 0]) (hbn : w.heap.size + 3 ≤ b) (k : W.grownBy W2 (some g)) : (W2.cell? ⟨w.heap.size + 1, 0, none⟩ = some (.int .i64 a.pc) ∧ W2.cell? ⟨w.heap.size + 1, 1, none⟩ = some (.int .i64 (a.r 0)) ∧ W2.cell? ⟨w.heap.size + 1, 2, none⟩ = some (.int .i64 (a.r 1)) ∧ W2.cell? ⟨w.heap.size + 1, 3, none⟩ = some (.int .i64 (a.r 2)) ∧ W2.cell? ⟨w.heap.size + 1, 4, none⟩ = some (.int .i64 (a.r 3)) ∧ W2.cell? ⟨w.heap.size + 1, 5, none⟩ = some (.int .i64 (a.r 4)) ∧ W2.cell? ⟨w.heap.size + 1, 6, none⟩ = some (.int .i64 (a.r 5)) ∧ W2.cell? ⟨w.heap.size + 1, 7, none⟩ = some (.int .i64 (a.r 6)) ∧ W2.cell? ⟨w.heap.size + 1, 8, none⟩ = some (.int .i64 (a.r 7)) ∧ W2.cell? ⟨w.heap.size + 1, 9, none⟩ = some (.int .i64 a.md)) ∧ (W2.frozen? ⟨w.heap.size + 1, 0, none⟩ = false ∧ W2.frozen? ⟨w.heap.size + 1, 1, none⟩ = false ∧ W2.frozen? ⟨w.heap.size + 1, 2, none⟩ = false ∧ W2.frozen? ⟨w.heap.size + 1, 3, none⟩ = false ∧ W2.frozen? ⟨w.heap.size + 1, 4, none⟩ = false ∧ W2.frozen? ⟨w.heap.size + 1, 5, none⟩ = false ∧ W2.frozen? ⟨w.heap.size + 1, 6, none⟩ = false ∧ W2.frozen? ⟨w.heap.size + 1, 7, none⟩ = false ∧ W2.frozen? ⟨w.heap.size + 1, 8, none⟩ = false ∧ W2.frozen? ⟨w.heap.size + 1, 9, none⟩ = false) ∧ (W2.cell? ⟨b, 0, none⟩ = some (.int .i64 0) ∧ W2.cell? ⟨b, 1, none⟩ = some (.int .i64 0) ∧ W2.cell? ⟨b, 2, none⟩ = some (.int .i64 0) ∧ W2.cell? ⟨b, 3, none⟩ = some (.int .i64 0)) ∧ (W2.frozen? ⟨b, 0, none⟩ = false ∧ W2.frozen? ⟨b, 1, none⟩ = false ∧ W2.frozen? ⟨b, 2, none⟩ = false ∧ W2.frozen? ⟨b, 3, none⟩ = false) := by
  have ng : ∀ i, w.heap.size ≤ i → some i ≠ some g := fun i hi e => by injection e with e; have := h.lt.2; omega
  have s2 := h.sb.only k (ng _ (by omega))
  have o2 := hb.only k (ng _ (by omega))
  exact ⟨⟨s2.cell 0, s2.cell 1, s2.cell 2, s2.cell 3, s2.cell 4, s2.cell 5, s2.cell 6, s2.cell 7, s2.cell 8, s2.cell 9⟩, ⟨s2.free 0, s2.free 1, s2.free 2, s2.free 3, s2.free 4, s2.free 5, s2.free 6, s2.free 7, s2.free 8, s2.free 9⟩, ⟨o2.cell 0, o2.cell 1, o2.cell 2, o2.cell 3⟩, ⟨o2.free 0, o2.free 1, o2.free 2, o2.free 3⟩⟩
theorem Cu.Ri.fin (h : Cu.Ri w W m B g p q vl a v j L) (p0 p1 p2 p3 p4 p5 p6 p7 p8 p9 : Value) : ∀ W', W' = ((((((((((W.setCell ⟨w.heap.size + 1 + 1, 0, none⟩ p0).setCell ⟨w.heap.size + 1 + 1, 1, none⟩ p1).setCell ⟨w.heap.size + 1 + 1, 2, none⟩ p2).setCell ⟨w.heap.size + 1 + 1, 3, none⟩ p3).setCell ⟨w.heap.size + 1 + 1, 4, none⟩ p4).setCell ⟨w.heap.size + 1 + 1, 5, none⟩ p5).setCell ⟨w.heap.size + 1 + 1, 6, none⟩ p6).setCell ⟨w.heap.size + 1 + 1, 7, none⟩ p7).setCell ⟨w.heap.size + 1 + 1, 8, none⟩ p8).setCell ⟨w.heap.size + 1 + 1, 9, none⟩ p9) → (W'.cell? ⟨w.heap.size + 1 + 1, 0, none⟩ = some p0 ∧ W'.cell? ⟨w.heap.size + 1 + 1, 1, none⟩ = some p1 ∧ W'.cell? ⟨w.heap.size + 1 + 1, 2, none⟩ = some p2 ∧ W'.cell? ⟨w.heap.size + 1 + 1, 3, none⟩ = some p3 ∧ W'.cell? ⟨w.heap.size + 1 + 1, 4, none⟩ = some p4 ∧ W'.cell? ⟨w.heap.size + 1 + 1, 5, none⟩ = some p5 ∧ W'.cell? ⟨w.heap.size + 1 + 1, 6, none⟩ = some p6 ∧ W'.cell? ⟨w.heap.size + 1 + 1, 7, none⟩ = some p7 ∧ W'.cell? ⟨w.heap.size + 1 + 1, 8, none⟩ = some p8 ∧ W'.cell? ⟨w.heap.size + 1 + 1, 9, none⟩ = some p9) ∧ RowZ 4 W' v j L ∧ MemG W' B m g (p ++ a.v ++ q) ∧ w.grownBy W' (some g) := by
  rintro W' rfl
  have br := ((((((((((h.rs.put 0 p0).put 1 p1).put 2 p2).put 3 p3).put 4 p4).put 5 p5).put 6 p6).put 7 p7).put 8 p8).put 9 p9)
  have gs : W.grownBy ((((((((((W.setCell ⟨w.heap.size + 1 + 1, 0, none⟩ p0).setCell ⟨w.heap.size + 1 + 1, 1, none⟩ p1).setCell ⟨w.heap.size + 1 + 1, 2, none⟩ p2).setCell ⟨w.heap.size + 1 + 1, 3, none⟩ p3).setCell ⟨w.heap.size + 1 + 1, 4, none⟩ p4).setCell ⟨w.heap.size + 1 + 1, 5, none⟩ p5).setCell ⟨w.heap.size + 1 + 1, 6, none⟩ p6).setCell ⟨w.heap.size + 1 + 1, 7, none⟩ p7).setCell ⟨w.heap.size + 1 + 1, 8, none⟩ p8).setCell ⟨w.heap.size + 1 + 1, 9, none⟩ p9) (some (w.heap.size + 1 + 1)) := (only_put (only_put (only_put (only_put (only_put (only_put (only_put (only_put (only_put (only_put (only_refl _ _) 0 p0) 1 p1) 2 p2) 3 p3) 4 p4) 5 p5) 6 p6) 7 p7) 8 p8) 9 p9)
  simp only [List.setIfInBounds_toArray, List.set_cons_zero, List.set_cons_succ] at br
  generalize ((((((((((W.setCell ⟨w.heap.size + 1 + 1, 0, none⟩ p0).setCell ⟨w.heap.size + 1 + 1, 1, none⟩ p1).setCell ⟨w.heap.size + 1 + 1, 2, none⟩ p2).setCell ⟨w.heap.size + 1 + 1, 3, none⟩ p3).setCell ⟨w.heap.size + 1 + 1, 4, none⟩ p4).setCell ⟨w.heap.size + 1 + 1, 5, none⟩ p5).setCell ⟨w.heap.size + 1 + 1, 6, none⟩ p6).setCell ⟨w.heap.size + 1 + 1, 7, none⟩ p7).setCell ⟨w.heap.size + 1 + 1, 8, none⟩ p8).setCell ⟨w.heap.size + 1 + 1, 9, none⟩ p9) = X at br gs ⊢
  exact ⟨⟨br.cell 0, br.cell 1, br.cell 2, br.cell 3, br.cell 4, br.cell 5, br.cell 6, br.cell 7, br.cell 8, br.cell 9⟩, h.row.only gs (.inr (fun e => by have := h.own _ e; omega)), h.mem.far gs (by have := h.lt; omega) (by have := h.lt; omega), Cu.only_new h.grow gs (by omega)⟩
end
/-- Where Run ends. -/
def Cu.Pre (f : Nat → Cu.Af) (n : Int) (j : Nat) : Prop := (∀ i, i < j → (i : Int) < n ∧ (f i).md = 0) ∧ ∀ i, 0 < i → i < j → (f i).o1 ≠ 2
def Cu.Ends (f : Nat → Cu.Af) (n : Int) (j : Nat) : Prop := Cu.Pre f n j ∧ (n ≤ j ∨ (f j).md ≠ 0 ∨ (0 < j ∧ (f j).o1 = 2))
theorem Cu.Pre.next {f : Nat → Cu.Af} {n : Int} {j : Nat} (h : Cu.Pre f n j) (h1 : ¬ n ≤ j) (h2 : (f j).md = 0) (h3 : 0 < j → (f j).o1 ≠ 2) : Cu.Pre f n (j + 1) := by
  refine ⟨fun i hi => ?_, fun i hi hi2 => ?_⟩
  · by_cases e : i = j
    · subst e; exact ⟨by omega, h2⟩
    · exact h.1 i (by omega)
  · by_cases e : i = j
    · subst e; exact h3 hi
    · exact h.2 i hi (by omega)
def Cu.RunV (w : World) (B m g : Nat) (p q : List UInt8) (f : Nat → Cu.Af) (n : Int) (e : Ending) (w' : World) : Prop :=
  ∃ j v, Cu.Ends f n j ∧ e = .returned (.tuple #[Cu.stV (f j).pc (f j).r (f j).md, v]) ∧ RowZ 4 w' v j (Cu.outs f j) ∧ MemG w' B m g (p ++ (f j).v ++ q) ∧ w.grownBy w' (some g)
end Go.Proofs.YthhodadfiipffaaDoor

/- The law's three steps. -/
namespace Go.Proofs.YthhodadfiipffaaDoor
open Go.RowKit Go.Lib
set_option linter.unusedVariables false
set_option maxRecDepth 20000

def Cu.lv : List UInt8 := [1, 1, 7, 0, 3, 1, 1, 0, 0, 0, 0, 0]
def Cu.lf : Nat → Cu.Af := Cu.stN Cu.lv 0 (fun _ => 0) 0
theorem Cu.lf_1 : (Cu.lf 1).md = 0 ∧ (Cu.lf 1).o1 = 1 := ⟨by kernel_rfl, by kernel_rfl⟩
theorem Cu.lf_2 : (Cu.lf 2).md = 0 ∧ (Cu.lf 2).o1 = 1 := ⟨by kernel_rfl, by kernel_rfl⟩
theorem Cu.lf_3 : (Cu.lf 3).md = 2 ∧ (Cu.lf 3).o1 = 4 ∧ (Cu.lf 3).pc = 8 ∧ (Cu.lf 3).r 1 = 14 := ⟨by kernel_rfl, by kernel_rfl, by kernel_rfl, by kernel_rfl⟩
theorem Cu.lf_end {j : Nat} (h : Cu.Ends Cu.lf 9 j) : j = 3 := by
  by_cases h3 : 3 < j
  · have := (h.1.1 3 h3).2
    rw [Cu.lf_3.1] at this
    exact absurd this (by decide)
  · have hj : j = 0 ∨ j = 1 ∨ j = 2 ∨ j = 3 := by omega
    rcases hj with rfl | rfl | rfl | rfl
    · rcases h.2 with e | e | e
      · omega
      · exact absurd (show (Cu.lf 0).md = 0 from rfl) e
      · omega
    · rcases h.2 with e | e | e
      · omega
      · exact absurd Cu.lf_1.1 e
      · rw [Cu.lf_1.2] at e; omega
    · rcases h.2 with e | e | e
      · omega
      · exact absurd Cu.lf_2.1 e
      · rw [Cu.lf_2.2] at e; omega
    · rfl
end Go.Proofs.YthhodadfiipffaaDoor

/- The law's live. -/
namespace Go.Proofs.YthhodadfiipffaaDoor
open Go.RowKit Go.Lib
set_option linter.unusedVariables false
set_option maxRecDepth 20000

theorem Cu.row3 {w : World} {v : Value} (h : RowZ 4 w v 3 (Cu.outs Cu.lf 3)) : ∃ b off c, v = .slice (some ⟨b, off, none⟩) 3 c ∧ 3 ≤ c ∧ b < w.heap.size ∧ w.cell? ⟨b, off + 8, none⟩ = some (.int .i64 4) := by
  rcases h.2 with ⟨h0, h9⟩ | ⟨g', off', cap', h1, h2, h3, h4, h5, hc⟩
  · exact absurd h9 (by decide)
  · refine ⟨g', off', cap', h1, h2, h4, hc 8 _ ?_⟩
    show (Cu.outs Cu.lf 3)[8]? = some (.int .i64 4)
    have e : Cu.outs Cu.lf 3 = [.int .i64 (Cu.lf 1).o1, .int .i64 (Cu.lf 1).o2, .int .i64 (Cu.lf 1).o3, .int .i64 (Cu.lf 1).o4, .int .i64 (Cu.lf 2).o1, .int .i64 (Cu.lf 2).o2, .int .i64 (Cu.lf 2).o3, .int .i64 (Cu.lf 2).o4, .int .i64 (Cu.lf 3).o1, .int .i64 (Cu.lf 3).o2, .int .i64 (Cu.lf 3).o3, .int .i64 (Cu.lf 3).o4] := rfl
    rw [e, Cu.lf_3.2.1]
    rfl
theorem Cu.fresh {w w1 w2 : World} {g : Nat} (hb : Below w.heap.size w w1) (k : w1.grownBy w2 (some g)) (hg : w.heap.size ≤ g) : w.grownBy w2 none :=
  ⟨k.os.trans hb.os, k.tape.trans hb.tape, k.output.trans hb.output, Nat.le_trans hb.size k.size, fun i hi _ => (k.block i (Nat.lt_of_lt_of_le hi hb.size) (fun e => by injection e with e; omega)).trans (hb.block i hi)⟩
theorem Cu.fresh2 {w w1 w2 : World} {g : Nat} (hb : w.grownBy w1 none) (k : w1.grownBy w2 (some g)) (hg : w.heap.size ≤ g) : w.grownBy w2 none :=
  ⟨k.os.trans hb.os, k.tape.trans hb.tape, k.output.trans hb.output, Nat.le_trans hb.size k.size, fun i hi _ => (k.block i (Nat.lt_of_lt_of_le hi hb.size) (fun e => by injection e with e; omega)).trans (hb.block i hi (by simp))⟩
end Go.Proofs.YthhodadfiipffaaDoor

/- States, and what steps did, held against themselves. -/
namespace Go.Proofs.YthhodadfiipffaaDoor
open Go.RowKit Go.Lib
set_option linter.unusedVariables false
set_option maxRecDepth 8000
theorem Cu.int_info : ∃ i, Tryd.prog.info? 3 = some i := Option.isSome_iff_exists.1 (show (Tryd.prog.info? 3).isSome = true by kernel_rfl)
theorem Cu.int_cells : Tryd.prog.cellsOf 3 = 1 := by kernel_rfl
/-- Eight numbers are the same as1 themselves. -/
theorem Cu.eql_regs (x0 x1 x2 x3 x4 x5 x6 x7 : Int) (w : World) : (Op.equalIn 9999 33 (.agg #[.int .i64 x0, .int .i64 x1, .int .i64 x2, .int .i64 x3, .int .i64 x4, .int .i64 x5, .int .i64 x6, .int .i64 x7]) (.agg #[.int .i64 x0, .int .i64 x1, .int .i64 x2, .int .i64 x3, .int .i64 x4, .int .i64 x5, .int .i64 x6, .int .i64 x7])).run Tryd.prog w = .ok true w := by
  obtain ⟨i, hi⟩ := Cu.int_info
  rw [run_equalIn_array (P := Tryd.prog) w 9998 (t := 33) (e := 3) (n := 8) (i := i) _ _ Tryd.underlying33 hi, Cu.int_cells]
  simp [Op.eqItems, List.range, List.range.loop, part, run_equalIn_int _ _ _ _ _ _ _ Tryd.underlying3, go_sem]

theorem Cu.neq_st (pc : Int) (r : Nat → Int) (md : Int) (w : World) : (binOp BinOp.neq 55 (Cu.stV pc r md) (Cu.stV pc r md)).run Tryd.prog w = .ok (.bool false) w := by
  unfold Cu.stV Cu.stC
  rw [run_neq_struct, run_equalIn_agg w 9999 _ _ _ (by kernel_rfl) (by kernel_rfl)]
  have hf : (Tryd.prog.fieldsOf 55).toList.map (fun f => (f.name, f.type, f.offset)) = [("Pc", 3, 0), ("R", 33, 1), ("Mode", 3, 9)] := by kernel_rfl
  generalize (Tryd.prog.fieldsOf 55).toList = fs at hf
  have hlen := congrArg List.length hf
  simp only [List.length_map, List.length_cons, List.length_nil] at hlen
  obtain ⟨f0, f1, f2, rfl⟩ : ∃ f0 f1 f2, fs = [f0, f1, f2] := by
    match fs, hlen with
    | [f0, f1, f2], _ => exact ⟨f0, f1, f2, rfl⟩
  simp only [List.map_cons, List.map_nil, List.cons.injEq, Prod.mk.injEq, and_true] at hf
  obtain ⟨⟨p0, q0, r0⟩, ⟨p1, q1, r1⟩, ⟨p2, q2, r2⟩⟩ := hf
  simp [Op.eqFields, p0, q0, r0, p1, q1, r1, p2, q2, r2, part, run_equalIn_int _ _ _ _ _ _ _ Tryd.underlying3, go_sem, Cu.eql_regs]
theorem Cu.eql_st2 (pc : Int) (r : Nat → Int) (md : Int) (w : World) : (binOp BinOp.eql 55 (Cu.stV pc r md) (Cu.stV pc r md)).run Tryd.prog w = .ok (.bool true) w := by
  unfold Cu.stV Cu.stC
  rw [run_eql_struct, run_equalIn_agg w 9999 _ _ _ (by kernel_rfl) (by kernel_rfl)]
  have hf : (Tryd.prog.fieldsOf 55).toList.map (fun f => (f.name, f.type, f.offset)) = [("Pc", 3, 0), ("R", 33, 1), ("Mode", 3, 9)] := by kernel_rfl
  generalize (Tryd.prog.fieldsOf 55).toList = fs at hf
  have hlen := congrArg List.length hf
  simp only [List.length_map, List.length_cons, List.length_nil] at hlen
  obtain ⟨f0, f1, f2, rfl⟩ : ∃ f0 f1 f2, fs = [f0, f1, f2] := by
    match fs, hlen with
    | [f0, f1, f2], _ => exact ⟨f0, f1, f2, rfl⟩
  simp only [List.map_cons, List.map_nil, List.cons.injEq, Prod.mk.injEq, and_true] at hf
  obtain ⟨⟨p0, q0, r0⟩, ⟨p1, q1, r1⟩, ⟨p2, q2, r2⟩⟩ := hf
  simp [Op.eqFields, p0, q0, r0, p1, q1, r1, p2, q2, r2, part, run_equalIn_int _ _ _ _ _ _ _ Tryd.underlying3, go_sem, Cu.eql_regs]
theorem Cu.neq_rst (pc : Int) (r : Nat → Int) (md : Int) (w : World) : (binOp BinOp.neq 35 (Cu.stV pc r md) (Cu.stV pc r md)).run Tryd.prog w = .ok (.bool false) w := by
  unfold Cu.stV Cu.stC
  rw [run_neq_struct, run_equalIn_agg w 9999 _ _ _ (by kernel_rfl) (by kernel_rfl)]
  have hf : (Tryd.prog.fieldsOf 35).toList.map (fun f => (f.name, f.type, f.offset)) = [("Pc", 3, 0), ("R", 33, 1), ("Mode", 3, 9)] := by kernel_rfl
  generalize (Tryd.prog.fieldsOf 35).toList = fs at hf
  have hlen := congrArg List.length hf
  simp only [List.length_map, List.length_cons, List.length_nil] at hlen
  obtain ⟨f0, f1, f2, rfl⟩ : ∃ f0 f1 f2, fs = [f0, f1, f2] := by
    match fs, hlen with
    | [f0, f1, f2], _ => exact ⟨f0, f1, f2, rfl⟩
  simp only [List.map_cons, List.map_nil, List.cons.injEq, Prod.mk.injEq, and_true] at hf
  obtain ⟨⟨p0, q0, r0⟩, ⟨p1, q1, r1⟩, ⟨p2, q2, r2⟩⟩ := hf
  simp [Op.eqFields, p0, q0, r0, p1, q1, r1, p2, q2, r2, part, run_equalIn_int _ _ _ _ _ _ _ Tryd.underlying3, go_sem, Cu.eql_regs]
theorem Cu.neq_out (a b c d : Int) (w : World) : (binOp BinOp.neq 90 (Cu.outV a b c d) (Cu.outV a b c d)).run Tryd.prog w = .ok (.bool false) w := by
  unfold Cu.outV
  rw [run_neq_struct, run_equalIn_agg w 9999 _ _ _ (by kernel_rfl) (by kernel_rfl)]
  have hf : (Tryd.prog.fieldsOf 90).toList.map (fun f => (f.name, f.type, f.offset)) = [("What", 3, 0), ("N", 3, 1), ("X", 3, 2), ("Err", 25, 3)] := by kernel_rfl
  generalize (Tryd.prog.fieldsOf 90).toList = fs at hf
  have hlen := congrArg List.length hf
  simp only [List.length_map, List.length_cons, List.length_nil] at hlen
  obtain ⟨f0, f1, f2, f3, rfl⟩ : ∃ f0 f1 f2 f3, fs = [f0, f1, f2, f3] := by
    match fs, hlen with
    | [f0, f1, f2, f3], _ => exact ⟨f0, f1, f2, f3, rfl⟩
  simp only [List.map_cons, List.map_nil, List.cons.injEq, Prod.mk.injEq, and_true] at hf
  obtain ⟨⟨p0, q0, r0⟩, ⟨p1, q1, r1⟩, ⟨p2, q2, r2⟩, ⟨p3, q3, r3⟩⟩ := hf
  simp [Op.eqFields, p0, q0, r0, p1, q1, r1, p2, q2, r2, p3, q3, r3, part, run_equalIn_int _ _ _ _ _ _ _ Tryd.underlying3, run_equalIn_int _ _ _ _ _ _ _ Tryd.underlying25, go_sem]
end Go.Proofs.YthhodadfiipffaaDoor
