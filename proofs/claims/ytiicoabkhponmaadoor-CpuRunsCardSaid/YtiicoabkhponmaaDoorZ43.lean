import Derived.Test.YtiicoabkhponmaaDoorZ39
import Derived.Test.YtiicoabkhponmaaDoorZ40
import Derived.Test.YtiicoabkhponmaaDoorZ41
import Derived.Test.YtiicoabkhponmaaDoorZ42
set_option linter.all false
/- The boxes of CpuRuns; where Run ends. -/
namespace Go.Proofs.YtiicoabkhponmaaDoor
open Go.RowKit Go.Lib
set_option linter.unusedVariables false
set_option maxRecDepth 8000

/-- Behind the two. -/
structure Cu.Two (w W : World) (bz ba bb : Nat) (zc ga wa : Array Value) : Prop where
  zb : Blk W bz 24 zc
  ab : Blk W ba 24 ga
  bb' : Blk W bb 24 wa
  gr : w.grownBy W none
  nm : Nm w
/-- Run ends at one place. -/
theorem Cu.Ends.one {f : Nat → Cu.Af} {n : Int} {J k : Nat} (h : Cu.Ends f n J) (hp : Cu.Pre f n k) : k ≤ J := by
  rcases Nat.lt_or_ge J k with q | q
  · exfalso
    have a := hp.1 J q
    rcases h.2 with e | e | ⟨e1, e2⟩
    · omega
    · exact e a.2
    · exact hp.2 J e1 q e2
  · exact q
theorem Cu.Ends.same {f : Nat → Cu.Af} {n : Int} {J k : Nat} (h : Cu.Ends f n J) (h2 : Cu.Ends f n k) : k = J := Nat.le_antisymm (h.one h2.1) (h2.one h.1)
theorem Cu.Ends.more {f : Nat → Cu.Af} {n : Int} {J k : Nat} (h : Cu.Ends f n J) (hp : Cu.Pre f n k) (h1 : (k : Int) < n) (h2 : (f k).md = 0) (h3 : 0 < k → (f k).o1 ≠ 2) : k < J := by
  have := h.one (hp.next (by omega) h2 h3)
  omega
theorem Cu.kflat_len {α : Type} (f : Nat → List α) (s : Nat) (hf : ∀ i, (f i).length = s) (n : Nat) : ((List.range n).flatMap f).length = n * s := by
  induction n with
  | zero => simp
  | succ n ih =>
    rw [List.range_succ, List.flatMap_append, List.length_append, ih, Nat.add_mul, Nat.one_mul]
    simp [hf]
theorem Cu.kflat_get {α : Type} (f : Nat → List α) (s : Nat) (hf : ∀ i, (f i).length = s) (n i t : Nat) (hi : i < n) (ht : t < s) : ((List.range n).flatMap f)[i * s + t]? = (f i)[t]? := by
  induction n with
  | zero => omega
  | succ n ih =>
    have hl := Cu.kflat_len f s hf n
    rw [List.range_succ, List.flatMap_append]
    by_cases h : i < n
    · have : (i + 1) * s ≤ n * s := Nat.mul_le_mul_right s h
      rw [Nat.add_mul, Nat.one_mul] at this
      rw [List.getElem?_append_left (by omega), ih h]
    · obtain rfl : i = n := by omega
      rw [List.getElem?_append_right (by omega), hl, Nat.add_sub_cancel_left]
      simp
/-- What a step did, in the row. -/
theorem Cu.outs_at (f : Nat → Cu.Af) (J k i : Nat) (hk : k < J) (hi : i < 4) : (Cu.outs f J)[k * 4 + i]? = (Cu.oC (f (k + 1)))[i]? := by
  unfold Cu.outs
  exact Cu.kflat_get (fun i => Cu.oC (f (i + 1))) 4 (fun _ => rfl) J k i hk hi
theorem Cu.out_at {W : World} {A : Option Addr} {c J k : Nat} {f : Nat → Cu.Af} (h : RowZ 4 W (.slice A J c) J (Cu.outs f J)) (hk : k < J) : ∃ b off, A = some ⟨b, off, none⟩ ∧ W.cell? ⟨b, off + k * 4, none⟩ = some (.int .i64 (f (k + 1)).o1) ∧ W.cell? ⟨b, off + k * 4 + 1, none⟩ = some (.int .i64 (f (k + 1)).o2) ∧ W.cell? ⟨b, off + k * 4 + 2, none⟩ = some (.int .i64 (f (k + 1)).o3) ∧ W.cell? ⟨b, off + k * 4 + 3, none⟩ = some (.int .i64 (f (k + 1)).o4) := by
  rcases h.2 with ⟨e, e0⟩ | ⟨b, off, c', e, -, -, -, -, h6⟩
  · omega
  · injection e with e1 e2 e3
    refine ⟨b, off, e1, ?_, ?_, ?_, ?_⟩
    · exact h6 (k * 4) _ (by rw [show k * 4 = k * 4 + 0 from rfl, Cu.outs_at f J k 0 hk (by decide)]; rfl)
    · rw [Nat.add_assoc]; exact h6 (k * 4 + 1) _ (by rw [Cu.outs_at f J k 1 hk (by decide)]; rfl)
    · rw [Nat.add_assoc]; exact h6 (k * 4 + 2) _ (by rw [Cu.outs_at f J k 2 hk (by decide)]; rfl)
    · rw [Nat.add_assoc]; exact h6 (k * 4 + 3) _ (by rw [Cu.outs_at f J k 3 hk (by decide)]; rfl)
structure Cu.Rv (w W : World) (bs m g bv bx bz : Nat) (p q : List UInt8) (vl : Int) (V U : List UInt8) (A : Option Addr) (cap : Nat) (sc xc zc : Array Value) (v : Value) (J : Nat) (R : List Value) : Prop where
  sv : Cu.Sv w W bs m g bv bx p q vl V U A cap sc xc
  zb : Blk W bz 24 zc
  row : RowZ 4 W v J R
  own : ∀ k, v.ownBlock = some k → bx < k
  lt : bx < bz
section
variable {w W W' : World} {bs m g bv bx bz bo : Nat} {p q : List UInt8} {vl : Int} {V U U' : List UInt8} {A A' : Option Addr} {cap cap' J : Nat} {sc xc zc sc' : Array Value} {oa : Array Value} {v : Value} {R : List Value}
theorem Cu.Rv.grown (h : Cu.Rv w W bs m g bv bx bz p q vl V U A cap sc xc zc v J R) (k : W.grownBy W' none) : Cu.Rv w W' bs m g bv bx bz p q vl V U A cap sc xc zc v J R := ⟨h.sv.grown k, h.zb.only k (by simp), h.row.grown k, h.own, h.lt⟩
def Cu.Ro (w W : World) (bs m g bv bx bz bo : Nat) (p q : List UInt8) (vl : Int) (V U : List UInt8) (A : Option Addr) (cap : Nat) (sc xc zc : Array Value) (v : Value) (J : Nat) (R : List Value) (oa : Array Value) : Prop :=
  Cu.Rv w W bs m g bv bx bz p q vl V U A cap sc xc zc v J R ∧ Blk W bo 36 oa ∧ bz < bo ∧ OffI U A bo ∧ v.ownBlock ≠ some bo
theorem Cu.ro_new (h : Cu.Rv w W bs m g bv bx bz p q vl V U A cap sc xc zc v J R) : Cu.Ro w (W.alloc (.cells #[.int .i64 0, .int .i64 0, .int .i64 0, .int .i64 0] 36)) bs m g bv bx bz W.heap.size p q vl V U A cap sc xc zc v J R #[.int .i64 0, .int .i64 0, .int .i64 0, .int .i64 0] :=
  ⟨h.grown (only_alloc (only_refl W none) _), Blk.new _ _ _, h.zb.lt, Cu.offi_new h.sv.ar (Nat.le_refl _), fun e => by have := h.row.lt _ e; omega⟩
theorem Cu.Ro.rstep (h : Cu.Ro w W bs m g bv bx bz bo p q vl V U A cap sc xc zc v J R oa) (k : W.grownBy W' none) (hA : Ints W' A' cap' (num U')) (ho : ∀ i, i < W.heap.size → OffI U A i → OffI U' A' i) : Cu.Ro w W' bs m g bv bx bz bo p q vl V U' A' cap' sc xc zc v J R oa :=
  ⟨⟨h.1.sv.rstep k hA ho, h.1.zb.only k (by simp), h.1.row.grown k, h.1.own, h.1.lt⟩, h.2.1.only k (by simp), h.2.2.1, ho _ h.2.1.lt h.2.2.2.1, h.2.2.2.2⟩
theorem Cu.Ro.put2 {s0 s1 s2 s3 s4 s5 s6 s7 s8 s9 z0 z1 z2 z3 : Value} (h : Cu.Ro w W bs m g bv bx bz bo p q vl V U A cap sc #[s0, s1, s2, s3, s4, s5, s6, s7, s8, s9] zc v J R #[z0, z1, z2, z3]) (y0 y1 y2 y3 y4 y5 y6 y7 y8 y9 x0 x1 x2 x3 : Value) :
    ∀ W', W' = (((((((((((((W.setCell ⟨bx, 0, none⟩ y0).setCell ⟨bx, 1, none⟩ y1).setCell ⟨bx, 2, none⟩ y2).setCell ⟨bx, 3, none⟩ y3).setCell ⟨bx, 4, none⟩ y4).setCell ⟨bx, 5, none⟩ y5).setCell ⟨bx, 6, none⟩ y6).setCell ⟨bx, 7, none⟩ y7).setCell ⟨bx, 8, none⟩ y8).setCell ⟨bx, 9, none⟩ y9).setCell ⟨bo, 0, none⟩ x0).setCell ⟨bo, 1, none⟩ x1).setCell ⟨bo, 2, none⟩ x2).setCell ⟨bo, 3, none⟩ x3 → Cu.Ro w W' bs m g bv bx bz bo p q vl V U A cap sc #[y0, y1, y2, y3, y4, y5, y6, y7, y8, y9] zc v J R #[x0, x1, x2, x3] := by
  intro W' hW
  have l := h.1.sv.lt
  have l1 := h.1.lt
  have l2 := h.2.2.1
  obtain ⟨W1, ⟨k1, b1⟩, k2, b2⟩ := Cu.put14y h.1.sv.xb h.2.1 (by omega) y0 y1 y2 y3 y4 y5 y6 y7 y8 y9 x0 x1 x2 x3 W' hW
  have nz : ∀ x, bz ≠ x → some bz ≠ some x := fun x hx e => hx (by injection e)
  exact ⟨⟨(h.1.sv.putX b1 k1).off (by omega) h.2.2.2.1 k2, (h.1.zb.only k1 (nz _ (by omega))).only k2 (nz _ (by omega)), (h.1.row.only k1 (.inr (fun e => by have := h.1.own _ e; omega))).only k2 (.inr h.2.2.2.2), h.1.own, h.1.lt⟩, b2, l2, h.2.2.2⟩
theorem Cu.rv_new {w W3 w4 : World} (h : Cu.Sv w W3 bs m g bv bx p q vl U U A cap sc xc) (hm : MemG w4 w.heap.size m g (p ++ V ++ q)) (k : W3.grownBy w4 (some g)) (hr : Cu.RowO W3 w4 v J R) : Cu.Rv w (w4.alloc (.cells zc 24)) bs m g bv bx w4.heap.size p q vl V U A cap sc xc zc v J R :=
  have k2 : w4.grownBy (w4.alloc (.cells zc 24)) none := only_alloc (only_refl _ none) _
  ⟨(h.step hm k).grown k2, Blk.new _ _ _, hr.1.grown k2, fun i hi => Nat.lt_of_lt_of_le h.xb.lt (hr.2 i hi), Nat.lt_of_lt_of_le h.xb.lt k.size⟩
end

end Go.Proofs.YtiicoabkhponmaaDoor

/- A state stored into a box; only new blocks. -/
namespace Go.Proofs.YtiicoabkhponmaaDoor
open Go.RowKit Go.Lib
set_option linter.unusedVariables false
set_option maxRecDepth 8000

theorem Cu.gave_0 (a : Cu.Af) (n : Int) : Cu.stC (Cu.gave a ((0 : Nat) : Int) n).pc (Cu.gave a ((0 : Nat) : Int) n).r (Cu.gave a ((0 : Nat) : Int) n).md = #[.int .i64 a.pc, .int .i64 (n % 65536), .int .i64 (a.r 1), .int .i64 (a.r 2), .int .i64 (a.r 3), .int .i64 (a.r 4), .int .i64 (a.r 5), .int .i64 (a.r 6), .int .i64 (a.r 7), .int .i64 a.md] := by
  unfold Cu.gave
  rw [if_pos ⟨by decide, by decide⟩]
  rfl
theorem Cu.gave_1 (a : Cu.Af) (n : Int) : Cu.stC (Cu.gave a ((1 : Nat) : Int) n).pc (Cu.gave a ((1 : Nat) : Int) n).r (Cu.gave a ((1 : Nat) : Int) n).md = #[.int .i64 a.pc, .int .i64 (a.r 0), .int .i64 (n % 65536), .int .i64 (a.r 2), .int .i64 (a.r 3), .int .i64 (a.r 4), .int .i64 (a.r 5), .int .i64 (a.r 6), .int .i64 (a.r 7), .int .i64 a.md] := by
  unfold Cu.gave
  rw [if_pos ⟨by decide, by decide⟩]
  rfl
theorem Cu.gave_2 (a : Cu.Af) (n : Int) : Cu.stC (Cu.gave a ((2 : Nat) : Int) n).pc (Cu.gave a ((2 : Nat) : Int) n).r (Cu.gave a ((2 : Nat) : Int) n).md = #[.int .i64 a.pc, .int .i64 (a.r 0), .int .i64 (a.r 1), .int .i64 (n % 65536), .int .i64 (a.r 3), .int .i64 (a.r 4), .int .i64 (a.r 5), .int .i64 (a.r 6), .int .i64 (a.r 7), .int .i64 a.md] := by
  unfold Cu.gave
  rw [if_pos ⟨by decide, by decide⟩]
  rfl
theorem Cu.gave_3 (a : Cu.Af) (n : Int) : Cu.stC (Cu.gave a ((3 : Nat) : Int) n).pc (Cu.gave a ((3 : Nat) : Int) n).r (Cu.gave a ((3 : Nat) : Int) n).md = #[.int .i64 a.pc, .int .i64 (a.r 0), .int .i64 (a.r 1), .int .i64 (a.r 2), .int .i64 (n % 65536), .int .i64 (a.r 4), .int .i64 (a.r 5), .int .i64 (a.r 6), .int .i64 (a.r 7), .int .i64 a.md] := by
  unfold Cu.gave
  rw [if_pos ⟨by decide, by decide⟩]
  rfl
theorem Cu.gave_4 (a : Cu.Af) (n : Int) : Cu.stC (Cu.gave a ((4 : Nat) : Int) n).pc (Cu.gave a ((4 : Nat) : Int) n).r (Cu.gave a ((4 : Nat) : Int) n).md = #[.int .i64 a.pc, .int .i64 (a.r 0), .int .i64 (a.r 1), .int .i64 (a.r 2), .int .i64 (a.r 3), .int .i64 (n % 65536), .int .i64 (a.r 5), .int .i64 (a.r 6), .int .i64 (a.r 7), .int .i64 a.md] := by
  unfold Cu.gave
  rw [if_pos ⟨by decide, by decide⟩]
  rfl
theorem Cu.gave_5 (a : Cu.Af) (n : Int) : Cu.stC (Cu.gave a ((5 : Nat) : Int) n).pc (Cu.gave a ((5 : Nat) : Int) n).r (Cu.gave a ((5 : Nat) : Int) n).md = #[.int .i64 a.pc, .int .i64 (a.r 0), .int .i64 (a.r 1), .int .i64 (a.r 2), .int .i64 (a.r 3), .int .i64 (a.r 4), .int .i64 (n % 65536), .int .i64 (a.r 6), .int .i64 (a.r 7), .int .i64 a.md] := by
  unfold Cu.gave
  rw [if_pos ⟨by decide, by decide⟩]
  rfl
theorem Cu.gave_6 (a : Cu.Af) (n : Int) : Cu.stC (Cu.gave a ((6 : Nat) : Int) n).pc (Cu.gave a ((6 : Nat) : Int) n).r (Cu.gave a ((6 : Nat) : Int) n).md = #[.int .i64 a.pc, .int .i64 (a.r 0), .int .i64 (a.r 1), .int .i64 (a.r 2), .int .i64 (a.r 3), .int .i64 (a.r 4), .int .i64 (a.r 5), .int .i64 (n % 65536), .int .i64 (a.r 7), .int .i64 a.md] := by
  unfold Cu.gave
  rw [if_pos ⟨by decide, by decide⟩]
  rfl
theorem Cu.gave_7 (a : Cu.Af) (n : Int) : Cu.stC (Cu.gave a ((7 : Nat) : Int) n).pc (Cu.gave a ((7 : Nat) : Int) n).r (Cu.gave a ((7 : Nat) : Int) n).md = #[.int .i64 a.pc, .int .i64 (a.r 0), .int .i64 (a.r 1), .int .i64 (a.r 2), .int .i64 (a.r 3), .int .i64 (a.r 4), .int .i64 (a.r 5), .int .i64 (a.r 6), .int .i64 (n % 65536), .int .i64 a.md] := by
  unfold Cu.gave
  rw [if_pos ⟨by decide, by decide⟩]
  rfl
theorem Cu.gave_off (a : Cu.Af) (x n : Int) (h : ¬ (0 ≤ x ∧ x < 8)) : Cu.stC (Cu.gave a x n).pc (Cu.gave a x n).r (Cu.gave a x n).md = #[.int .i64 a.pc, .int .i64 (a.r 0), .int .i64 (a.r 1), .int .i64 (a.r 2), .int .i64 (a.r 3), .int .i64 (a.r 4), .int .i64 (a.r 5), .int .i64 (a.r 6), .int .i64 (a.r 7), .int .i64 a.md] := by
  unfold Cu.gave
  rw [if_neg h]
  rfl
theorem Cu.woke_yes (a : Cu.Af) (h : a.md = 1) : Cu.stC (Cu.woke a).pc (Cu.woke a).r (Cu.woke a).md = #[.int .i64 a.pc, .int .i64 (a.r 0), .int .i64 (a.r 1), .int .i64 (a.r 2), .int .i64 (a.r 3), .int .i64 (a.r 4), .int .i64 (a.r 5), .int .i64 (a.r 6), .int .i64 (a.r 7), .int .i64 0] := by
  unfold Cu.woke
  rw [if_pos h]
  rfl
theorem Cu.woke_no (a : Cu.Af) (h : ¬ a.md = 1) : Cu.stC (Cu.woke a).pc (Cu.woke a).r (Cu.woke a).md = #[.int .i64 a.pc, .int .i64 (a.r 0), .int .i64 (a.r 1), .int .i64 (a.r 2), .int .i64 (a.r 3), .int .i64 (a.r 4), .int .i64 (a.r 5), .int .i64 (a.r 6), .int .i64 (a.r 7), .int .i64 a.md] := by
  unfold Cu.woke
  rw [if_neg h]
  rfl
theorem Cu.eql_lit (pc r0 r1 r2 r3 r4 r5 r6 r7 md : Int) (w : World) : (binOp BinOp.eql 24 (.agg #[.int .i64 pc, .int .i64 r0, .int .i64 r1, .int .i64 r2, .int .i64 r3, .int .i64 r4, .int .i64 r5, .int .i64 r6, .int .i64 r7, .int .i64 md]) (.agg #[.int .i64 pc, .int .i64 r0, .int .i64 r1, .int .i64 r2, .int .i64 r3, .int .i64 r4, .int .i64 r5, .int .i64 r6, .int .i64 r7, .int .i64 md])).run Tryd.prog w = .ok (.bool true) w :=
  Cu.eql_st2 pc (fun i => if i = 0 then r0 else if i = 1 then r1 else if i = 2 then r2 else if i = 3 then r3 else if i = 4 then r4 else if i = 5 then r5 else if i = 6 then r6 else r7) md w
end Go.Proofs.YtiicoabkhponmaaDoor
