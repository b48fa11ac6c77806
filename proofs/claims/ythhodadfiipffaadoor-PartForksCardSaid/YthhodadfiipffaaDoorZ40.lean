import Derived.Test.YthhodadfiipffaaDoorZ32
import Derived.Test.YthhodadfiipffaaDoorZ33
import Derived.Test.YthhodadfiipffaaDoorZ34
import Derived.Test.YthhodadfiipffaaDoorZ35
import Derived.Test.YthhodadfiipffaaDoorZ36
import Derived.Test.YthhodadfiipffaaDoorZ37
import Derived.Test.YthhodadfiipffaaDoorZ38
import Derived.Test.YthhodadfiipffaaDoorZ39
import Derived.Lib.QuietBelow
import Derived.LoopTactic
import Derived.Test.YthhodadfiipffaaDoorZ20
set_option linter.all false
/- The document's Step, by contract, whatever it is asked. -/
namespace Go.Proofs.YthhodadfiipffaaDoor
open Go.RowKit Go.Lib
set_option linter.unusedVariables false

theorem Cu.rstep_any (V : List UInt8) (A : Option Addr) (cap : Nat) (hV : V.length ≤ 1000) (pc md : Int) (r : Nat → Int) (hpm : pc ≤ 9223372036854775807) (w : World) (hA : Ints w A cap (num V)) :
    Calls Tryd.prog 42 #[.slice A V.length cap, .agg #[.int .i64 pc, .int .i64 (r 0), .int .i64 (r 1), .int .i64 (r 2), .int .i64 (r 3), .int .i64 (r 4), .int .i64 (r 5), .int .i64 (r 6), .int .i64 (r 7), .int .i64 md]] w (Cu.Rst w V A (Cu.step V pc r md)) := by
  unfold Cu.step
  by_cases hmd : md = 0
  · subst hmd
    rw [if_neg (fun h => h rfl)]
    by_cases hp : 0 ≤ pc ∧ pc + 4 ≤ V.length
    · rw [if_pos hp]
      obtain ⟨k, rfl⟩ := Int.eq_ofNat_of_zero_le hp.1
      have hk : k + 4 ≤ V.length := by omega
      rw [Int.toNat_natCast]
      have hs := Cu.ins_size hk
      by_cases hm : mayI (gb (Cu.ins V k) 0) (gb (Cu.ins V k) 1) (gw (Cu.ins V k) 2) = true
      · rw [if_pos hm]
        have hget : getV (Cu.ins V k) = .tuple #[.agg #[.int .u8 (gb (Cu.ins V k) 0), .int .i64 (gb (Cu.ins V k) 1), .int .i64 (gw (Cu.ins V k) 2)], .int .i64 0] := by unfold getV; rw [if_neg (by omega), if_pos hm]
        obtain ⟨hc, hx0, hx, hn0, hn⟩ := mayI_facts hm
        have hreg : 2 ≤ gb (Cu.ins V k) 0 ∧ gb (Cu.ins V k) 0 ≤ 10 → gw (Cu.ins V k) 2 < 8 := fun h2 => by
          obtain ⟨-, -, h3⟩ := mayI_iff.1 hm
          have e2 : mxN (gb (Cu.ins V k) 0) = 7 := by unfold mxN rgB; simp; omega
          omega
        clear hm hs
        generalize gb (Cu.ins V k) 0 = c at *
        generalize gb (Cu.ins V k) 1 = x at *
        generalize gw (Cu.ins V k) 2 = n at *
        have hx8 : x < 8 := by omega
        obtain ⟨j, hj⟩ := Int.eq_ofNat_of_zero_le (Cu.cut_in r n).1
        have h16 : c = 0 ∨ c = 1 ∨ c = 2 ∨ c = 3 ∨ c = 4 ∨ c = 5 ∨ c = 6 ∨ c = 7 ∨ c = 8 ∨ c = 9 ∨ c = 10 ∨ c = 11 ∨ c = 12 ∨ c = 13 ∨ c = 14 ∨ c = 15 := by omega
        rcases h16 with rfl | rfl | rfl | rfl | rfl | rfl | rfl | rfl | rfl | rfl | rfl | rfl | rfl | rfl | rfl | rfl
        · exact Cu.rs_0 V A _ cap rfl hV k r k rfl hk x n hx8 hget w hA
        · exact Cu.rs_1 V A _ cap rfl hV k r k rfl hk x n hx8 hget w hA
        · exact Cu.rs_2 V A _ cap rfl hV k r k rfl hk x n hx8 (hreg (by omega)) hget w hA
        · exact Cu.rs_3 V A _ cap rfl hV k r k rfl hk x n hx8 (hreg (by omega)) hget w hA
        · exact Cu.rs_4 V A _ cap rfl hV k r k rfl hk x n hx8 (hreg (by omega)) hget w hA
        · exact Cu.rs_5 V A _ cap rfl hV k r k rfl hk x n hx8 (hreg (by omega)) hget w hA
        · exact Cu.rs_6 V A _ cap rfl hV k r k rfl hk x n hx8 (hreg (by omega)) hget w hA
        · by_cases hf : j + 1 ≤ V.length
          · exact Cu.rs_7y V A _ cap rfl hV k r k rfl hk x n hx8 (hreg (by omega)) j hj hf hget w hA
          · exact Cu.rs_7n V A _ cap rfl hV k r k rfl hk x n hx8 (hreg (by omega)) j hj hf hget w hA
        · by_cases hf : j + 1 ≤ V.length
          · exact Cu.rs_8y V A _ cap rfl hV k r k rfl hk x n hx8 (hreg (by omega)) j hj hf hget w hA
          · exact Cu.rs_8n V A _ cap rfl hV k r k rfl hk x n hx8 (hreg (by omega)) j hj hf hget w hA
        · by_cases hf : j + 2 ≤ V.length
          · exact Cu.rs_9y V A _ cap rfl hV k r k rfl hk x n hx8 (hreg (by omega)) j hj hf hget w hA
          · exact Cu.rs_9n V A _ cap rfl hV k r k rfl hk x n hx8 (hreg (by omega)) j hj hf hget w hA
        · by_cases hf : j + 2 ≤ V.length
          · exact Cu.rs_10y V A _ cap rfl hV k r k rfl hk x n hx8 (hreg (by omega)) j hj hf hget w hA
          · exact Cu.rs_10n V A _ cap rfl hV k r k rfl hk x n hx8 (hreg (by omega)) j hj hf hget w hA
        · exact Cu.rs_11 V A _ cap rfl hV k r k rfl hk x n hx8 hget w hA
        · by_cases hz : Cu.cut r x = 0
          · exact Cu.rs_12y V A _ cap rfl hV k r k rfl hk x n hx8 hz hget w hA
          · exact Cu.rs_12n V A _ cap rfl hV k r k rfl hk x n hx8 hz hget w hA
        · by_cases hz : Cu.cut r x < Cu.cut r 0
          · exact Cu.rs_13y V A _ cap rfl hV k r k rfl hk x n hx8 hz hget w hA
          · exact Cu.rs_13n V A _ cap rfl hV k r k rfl hk x n hx8 hz hget w hA
        · exact Cu.rs_14 V A _ cap rfl hV k r k rfl hk x n hx8 hget w hA
        · exact Cu.rs_15 V A _ cap rfl hV k r k rfl hk x n hx8 hget w hA
      · rw [if_neg hm]
        have hget : getV (Cu.ins V k) = .tuple #[.agg #[.int .u8 0, .int .i64 0, .int .i64 0], .int .i64 12] := by unfold getV; rw [if_neg (by omega), if_neg hm]
        exact Cu.rs_bad V A _ cap rfl hV k r k rfl hk hget w hA
    · rw [if_neg hp]
      exact Cu.rs_off V A _ cap rfl hV pc r hp hpm w hA
  · rw [if_pos hmd]
    exact (Cu.rstep_off (.slice A V.length cap) pc md r hmd w).mono fun e w' ⟨e1, g⟩ => ⟨A, V.length, cap, e1, rfl, Cu.ints_gr hA g, g, fun _ _ h => h⟩
end Go.Proofs.YthhodadfiipffaaDoor

/- The law's view, with the document's bytes. -/
namespace Go.Proofs.YthhodadfiipffaaDoor
open Go.RowKit Go.Lib
set_option linter.unusedVariables false
set_option maxRecDepth 8000

theorem OwnN.ints_of' {w : World} {B n c : Nat} {A : Option Addr} {l : List Int} (h : OwnN w B (.slice A n c) l) : Ints w A c l := by
  obtain ⟨A', c', hv, hi, _⟩ := h.ints
  injection hv with e1 e2 e3
  subst e1 e3
  exact hi
end Go.Proofs.YthhodadfiipffaaDoor

/- The boxes of CpuSteps. -/
namespace Go.Proofs.YthhodadfiipffaaDoor
open Go.RowKit Go.Lib
set_option linter.unusedVariables false
set_option maxRecDepth 8000

/-- The boxes of CpuSteps: V the view's bytes, U the document's. -/
structure Cu.Sv (w W : World) (bs m g bv bx : Nat) (p q : List UInt8) (vl : Int) (V U : List UInt8) (A : Option Addr) (cap : Nat) (sc xc : Array Value) : Prop where
  sb : Blk W bs 55 sc
  xb : Blk W bx 35 xc
  vb : Blk W bv 31 #[.pointer (some ⟨m, 0, none⟩), .int .i64 300, .int .i64 vl]
  me : MemG W w.heap.size m g (p ++ V ++ q)
  ar : Ints W A cap (num U)
  o1 : OffI U A bs
  o2 : OffI U A g
  o3 : OffI U A bx
  gr : w.grownBy W none
  nm : Nm w
  lt : w.heap.size ≤ bs ∧ bs < m ∧ bs < g ∧ m < bv ∧ g < bv ∧ bv < bx
section
variable {w W W1 W' : World} {bs m g bv bx bo : Nat} {p q : List UInt8} {vl : Int} {V U V' U' : List UInt8} {A A' : Option Addr} {cap cap' : Nat} {sc xc sc' : Array Value} {oa ob : Array Value}
theorem Cu.Sv.NM (h : Cu.Sv w W bs m g bv bx p q vl V U A cap sc xc) : Nm W := h.nm.grown h.gr (by simp)
theorem Cu.Sv.grown (h : Cu.Sv w W bs m g bv bx p q vl V U A cap sc xc) (k : W.grownBy W' none) : Cu.Sv w W' bs m g bv bx p q vl V U A cap sc xc :=
  ⟨h.sb.only k (by simp), h.xb.only k (by simp), h.vb.only k (by simp), h.me.grown k, Cu.ints_gr h.ar k, h.o1, h.o2, h.o3, only_trans h.gr k, h.nm, h.lt⟩
theorem Cu.Sv.off (h : Cu.Sv w W bs m g bv bx p q vl V U A cap sc xc) {i : Nat} (hi : bx < i) (ho : OffI U A i) (k : W.grownBy W' (some i)) : Cu.Sv w W' bs m g bv bx p q vl V U A cap sc xc := by
  have l := h.lt
  have ne : ∀ x, x < i → some x ≠ some i := fun x hx e => by injection e with e; omega
  exact ⟨h.sb.only k (ne _ (by omega)), h.xb.only k (ne _ (by omega)), h.vb.only k (ne _ (by omega)), h.me.far k (by omega) (by omega), h.ar.farI k ho, h.o1, h.o2, h.o3, Cu.grow_none h.gr k (by omega), h.nm, h.lt⟩
theorem Cu.Sv.step (h : Cu.Sv w W bs m g bv bx p q vl V U A cap sc xc) (hm : MemG W' w.heap.size m g (p ++ V' ++ q)) (k : W.grownBy W' (some g)) : Cu.Sv w W' bs m g bv bx p q vl V' U A cap sc xc := by
  have l := h.lt
  have ne : ∀ x, x ≠ g → some x ≠ some g := fun x hx e => by injection e with e; omega
  exact ⟨h.sb.only k (ne _ (by omega)), h.xb.only k (ne _ (by omega)), h.vb.only k (ne _ (by omega)), hm, h.ar.farI k h.o2, h.o1, h.o2, h.o3, Cu.grow_none h.gr k (by omega), h.nm, h.lt⟩
theorem Cu.Sv.putS (h : Cu.Sv w W bs m g bv bx p q vl V U A cap sc xc) (hb : Blk W' bs 55 sc') (k : W.grownBy W' (some bs)) : Cu.Sv w W' bs m g bv bx p q vl V U A cap sc' xc := by
  have l := h.lt
  have ne : ∀ x, x ≠ bs → some x ≠ some bs := fun x hx e => by injection e with e; omega
  exact ⟨hb, h.xb.only k (ne _ (by omega)), h.vb.only k (ne _ (by omega)), h.me.far k (by omega) (by omega), h.ar.farI k h.o1, h.o1, h.o2, h.o3, Cu.grow_none h.gr k (by omega), h.nm, h.lt⟩
theorem Cu.Sv.putX (h : Cu.Sv w W bs m g bv bx p q vl V U A cap sc xc) (hb : Blk W' bx 35 sc') (k : W.grownBy W' (some bx)) : Cu.Sv w W' bs m g bv bx p q vl V U A cap sc sc' := by
  have l := h.lt
  have ne : ∀ x, x ≠ bx → some x ≠ some bx := fun x hx e => by injection e with e; omega
  exact ⟨h.sb.only k (ne _ (by omega)), hb, h.vb.only k (ne _ (by omega)), h.me.far k (by omega) (by omega), h.ar.farI k h.o3, h.o1, h.o2, h.o3, Cu.grow_none h.gr k (by omega), h.nm, h.lt⟩
/-- The document's step: new bytes. -/
theorem Cu.Sv.rstep (h : Cu.Sv w W bs m g bv bx p q vl V U A cap sc xc) (k : W.grownBy W' none) (hA : Ints W' A' cap' (num U')) (ho : ∀ i, i < W.heap.size → OffI U A i → OffI U' A' i) : Cu.Sv w W' bs m g bv bx p q vl V U' A' cap' sc xc :=
  ⟨h.sb.only k (by simp), h.xb.only k (by simp), h.vb.only k (by simp), h.me.grown k, hA, ho _ h.sb.lt h.o1, ho _ h.me.lt.1 h.o2, ho _ h.xb.lt h.o3, only_trans h.gr k, h.nm, h.lt⟩
/-- And the two of what a step did. -/
def Cu.So (w W : World) (bs m g bv bx bo : Nat) (p q : List UInt8) (vl : Int) (V U : List UInt8) (A : Option Addr) (cap : Nat) (sc xc oa ob : Array Value) : Prop :=
  Cu.Sv w W bs m g bv bx p q vl V U A cap sc xc ∧ Blk W bo 99 oa ∧ Blk W (bo + 1) 90 ob ∧ bx < bo ∧ OffI U A bo ∧ OffI U A (bo + 1)
theorem Cu.so_new (h : Cu.Sv w W bs m g bv bx p q vl V U A cap sc xc) : Cu.So w ((W.alloc (.cells #[.int .i64 0, .int .i64 0, .int .i64 0, .int .i64 0] 99)).alloc (.cells #[.int .i64 0, .int .i64 0, .int .i64 0, .int .i64 0] 90)) bs m g bv bx W.heap.size p q vl V U A cap sc xc #[.int .i64 0, .int .i64 0, .int .i64 0, .int .i64 0] #[.int .i64 0, .int .i64 0, .int .i64 0, .int .i64 0] := by
  refine ⟨h.grown (only_alloc (only_alloc (only_refl W none) _) _), (Blk.new _ _ _).alloc _, ?_, h.xb.lt, Cu.offi_new h.ar (Nat.le_refl _), Cu.offi_new h.ar (Nat.le_succ _)⟩
  have := Blk.new (W.alloc (.cells #[.int .i64 0, .int .i64 0, .int .i64 0, .int .i64 0] 99)) 90 #[.int .i64 0, .int .i64 0, .int .i64 0, .int .i64 0]
  simpa using this
theorem Cu.So.step (h : Cu.So w W bs m g bv bx bo p q vl V U A cap sc xc oa ob) (hm : MemG W' w.heap.size m g (p ++ V' ++ q)) (k : W.grownBy W' (some g)) : Cu.So w W' bs m g bv bx bo p q vl V' U A cap sc xc oa ob := by
  have l := h.1.lt
  have l2 := h.2.2.2.1
  exact ⟨h.1.step hm k, h.2.1.only k (fun e => by injection e with e; omega), h.2.2.1.only k (fun e => by injection e with e; omega), l2, h.2.2.2.2⟩
theorem Cu.So.rstep (h : Cu.So w W bs m g bv bx bo p q vl V U A cap sc xc oa ob) (k : W.grownBy W' none) (hA : Ints W' A' cap' (num U')) (ho : ∀ i, i < W.heap.size → OffI U A i → OffI U' A' i) : Cu.So w W' bs m g bv bx bo p q vl V U' A' cap' sc xc oa ob :=
  ⟨h.1.rstep k hA ho, h.2.1.only k (by simp), h.2.2.1.only k (by simp), h.2.2.2.1, ho _ h.2.1.lt h.2.2.2.2.1, ho _ h.2.2.1.lt h.2.2.2.2.2⟩
end
section
variable {ty uy : TypeId}
theorem Cu.put14y {W : World} {bs bo : Nat} {s0 s1 s2 s3 s4 s5 s6 s7 s8 s9 z0 z1 z2 z3 : Value} (h : Blk W bs ty #[s0, s1, s2, s3, s4, s5, s6, s7, s8, s9]) (ho : Blk W bo uy #[z0, z1, z2, z3]) (hne : bs ≠ bo) (y0 y1 y2 y3 y4 y5 y6 y7 y8 y9 x0 x1 x2 x3 : Value) :
    ∀ W', W' = (((((((((((((W.setCell ⟨bs, 0, none⟩ y0).setCell ⟨bs, 1, none⟩ y1).setCell ⟨bs, 2, none⟩ y2).setCell ⟨bs, 3, none⟩ y3).setCell ⟨bs, 4, none⟩ y4).setCell ⟨bs, 5, none⟩ y5).setCell ⟨bs, 6, none⟩ y6).setCell ⟨bs, 7, none⟩ y7).setCell ⟨bs, 8, none⟩ y8).setCell ⟨bs, 9, none⟩ y9).setCell ⟨bo, 0, none⟩ x0).setCell ⟨bo, 1, none⟩ x1).setCell ⟨bo, 2, none⟩ x2).setCell ⟨bo, 3, none⟩ x3 → ∃ W1, (W.grownBy W1 (some bs) ∧ Blk W1 bs ty #[y0, y1, y2, y3, y4, y5, y6, y7, y8, y9]) ∧ W1.grownBy W' (some bo) ∧ Blk W' bo uy #[x0, x1, x2, x3] := by
  rintro W' rfl
  refine ⟨(((((((((W.setCell ⟨bs, 0, none⟩ y0).setCell ⟨bs, 1, none⟩ y1).setCell ⟨bs, 2, none⟩ y2).setCell ⟨bs, 3, none⟩ y3).setCell ⟨bs, 4, none⟩ y4).setCell ⟨bs, 5, none⟩ y5).setCell ⟨bs, 6, none⟩ y6).setCell ⟨bs, 7, none⟩ y7).setCell ⟨bs, 8, none⟩ y8).setCell ⟨bs, 9, none⟩ y9, ⟨?_, ?_⟩, ?_, ?_⟩
  · exact only_put (only_put (only_put (only_put (only_put (only_put (only_put (only_put (only_put (only_put (only_refl _ _) 0 y0) 1 y1) 2 y2) 3 y3) 4 y4) 5 y5) 6 y6) 7 y7) 8 y8) 9 y9
  · have b := ((((((((((h.put 0 y0).put 1 y1).put 2 y2).put 3 y3).put 4 y4).put 5 y5).put 6 y6).put 7 y7).put 8 y8).put 9 y9)
    simp only [List.setIfInBounds_toArray, List.set_cons_zero, List.set_cons_succ] at b
    exact b
  · exact only_put (only_put (only_put (only_put (only_refl _ _) 0 x0) 1 x1) 2 x2) 3 x3
  · have b := ((((((((((((((ho.far (p := ⟨bs, 0, none⟩) (Ne.symm hne) y0).far (p := ⟨bs, 1, none⟩) (Ne.symm hne) y1).far (p := ⟨bs, 2, none⟩) (Ne.symm hne) y2).far (p := ⟨bs, 3, none⟩) (Ne.symm hne) y3).far (p := ⟨bs, 4, none⟩) (Ne.symm hne) y4).far (p := ⟨bs, 5, none⟩) (Ne.symm hne) y5).far (p := ⟨bs, 6, none⟩) (Ne.symm hne) y6).far (p := ⟨bs, 7, none⟩) (Ne.symm hne) y7).far (p := ⟨bs, 8, none⟩) (Ne.symm hne) y8).far (p := ⟨bs, 9, none⟩) (Ne.symm hne) y9).put 0 x0).put 1 x1).put 2 x2).put 3 x3)
    simp only [List.setIfInBounds_toArray, List.set_cons_zero, List.set_cons_succ] at b
    exact b
end
section
variable {w W W1 W' : World} {bs m g bv bx bo : Nat} {p q : List UInt8} {vl : Int} {V U V' U' : List UInt8} {A A' : Option Addr} {cap cap' : Nat} {sc xc sc' : Array Value} {oa ob : Array Value}
theorem Cu.So.put1 {s0 s1 s2 s3 s4 s5 s6 s7 s8 s9 z0 z1 z2 z3 : Value} (h : Cu.So w W bs m g bv bx bo p q vl V U A cap #[s0, s1, s2, s3, s4, s5, s6, s7, s8, s9] xc oa #[z0, z1, z2, z3]) (y0 y1 y2 y3 y4 y5 y6 y7 y8 y9 x0 x1 x2 x3 : Value) :
    ∀ W', W' = (((((((((((((W.setCell ⟨bs, 0, none⟩ y0).setCell ⟨bs, 1, none⟩ y1).setCell ⟨bs, 2, none⟩ y2).setCell ⟨bs, 3, none⟩ y3).setCell ⟨bs, 4, none⟩ y4).setCell ⟨bs, 5, none⟩ y5).setCell ⟨bs, 6, none⟩ y6).setCell ⟨bs, 7, none⟩ y7).setCell ⟨bs, 8, none⟩ y8).setCell ⟨bs, 9, none⟩ y9).setCell ⟨bo + 1, 0, none⟩ x0).setCell ⟨bo + 1, 1, none⟩ x1).setCell ⟨bo + 1, 2, none⟩ x2).setCell ⟨bo + 1, 3, none⟩ x3 → Cu.So w W' bs m g bv bx bo p q vl V U A cap #[y0, y1, y2, y3, y4, y5, y6, y7, y8, y9] xc oa #[x0, x1, x2, x3] := by
  intro W' hW
  have l := h.1.lt
  have l2 := h.2.2.2.1
  obtain ⟨W1, ⟨k1, b1⟩, k2, b2⟩ := Cu.put14y h.1.sb h.2.2.1 (by omega) y0 y1 y2 y3 y4 y5 y6 y7 y8 y9 x0 x1 x2 x3 W' hW
  exact ⟨(h.1.putS b1 k1).off (by omega) h.2.2.2.2.2 k2, (h.2.1.only k1 (fun e => by injection e with e; omega)).only k2 (fun e => by injection e with e; omega), b2, l2, h.2.2.2.2⟩
theorem Cu.So.put2 {s0 s1 s2 s3 s4 s5 s6 s7 s8 s9 z0 z1 z2 z3 : Value} (h : Cu.So w W bs m g bv bx bo p q vl V U A cap sc #[s0, s1, s2, s3, s4, s5, s6, s7, s8, s9] #[z0, z1, z2, z3] ob) (y0 y1 y2 y3 y4 y5 y6 y7 y8 y9 x0 x1 x2 x3 : Value) :
    ∀ W', W' = (((((((((((((W.setCell ⟨bx, 0, none⟩ y0).setCell ⟨bx, 1, none⟩ y1).setCell ⟨bx, 2, none⟩ y2).setCell ⟨bx, 3, none⟩ y3).setCell ⟨bx, 4, none⟩ y4).setCell ⟨bx, 5, none⟩ y5).setCell ⟨bx, 6, none⟩ y6).setCell ⟨bx, 7, none⟩ y7).setCell ⟨bx, 8, none⟩ y8).setCell ⟨bx, 9, none⟩ y9).setCell ⟨bo, 0, none⟩ x0).setCell ⟨bo, 1, none⟩ x1).setCell ⟨bo, 2, none⟩ x2).setCell ⟨bo, 3, none⟩ x3 → Cu.So w W' bs m g bv bx bo p q vl V U A cap sc #[y0, y1, y2, y3, y4, y5, y6, y7, y8, y9] #[x0, x1, x2, x3] ob := by
  intro W' hW
  have l := h.1.lt
  have l2 := h.2.2.2.1
  obtain ⟨W1, ⟨k1, b1⟩, k2, b2⟩ := Cu.put14y h.1.xb h.2.1 (by omega) y0 y1 y2 y3 y4 y5 y6 y7 y8 y9 x0 x1 x2 x3 W' hW
  exact ⟨(h.1.putX b1 k1).off (by omega) h.2.2.2.2.1 k2, b2, (h.2.2.1.only k1 (fun e => by injection e with e; omega)).only k2 (fun e => by injection e with e; omega), l2, h.2.2.2.2⟩
/-- Behind the view and the document's state. -/
theorem Cu.sv_new {w W0 w1 w2 : World} {r : Nat → Int} {pc md : Int} {a : Cu.Af} (hs : Blk W0 bs 55 (Cu.stC pc r md)) (hb : bs = w.heap.size) (hz : W0.heap.size = w.heap.size + 1) (g0 : w.grownBy W0 none) (hm : MemG w1 W0.heap.size m g (p ++ V ++ q)) (b1 : Below W0.heap.size W0 w1) (hA : Ints w1 A cap (num V)) (ho : ∀ i, i < W0.heap.size ∨ i = g → OffI V A i)
    (g2 : (w1.alloc (.cells #[.pointer (some ⟨m, 0, none⟩), .int .i64 300, .int .i64 vl] 31)).grownBy w2 none) (hN : Nm w) (ha : a = ⟨V, pc, r, md, 0, 0, 0, 0⟩) :
    Cu.Sv w (w2.alloc (.cells (Cu.stC pc r md) 35)) bs m g w1.heap.size w2.heap.size p q vl a.v a.v A cap (Cu.stC a.pc a.r a.md) (Cu.stC a.pc a.r a.md) := by
  subst ha
  have a1 := Cu.grow_of b1
  have l1 := hm.1
  have l2 := hm.2.1
  have l5 := hm.lt
  have z1 : (w1.alloc (.cells #[.pointer (some ⟨m, 0, none⟩), .int .i64 300, .int .i64 vl] 31)).heap.size = w1.heap.size + 1 := by simp
  have zs := g2.size
  have k2 : w2.grownBy (w2.alloc (.cells (Cu.stC pc r md) 35)) none := only_alloc (only_refl _ none) _
  have k1 : w1.grownBy w2 none := only_trans (only_alloc (only_refl _ none) _) g2
  have k12 := only_trans k1 k2
  exact ⟨(hs.only a1 (by simp)).only k12 (by simp), Blk.new _ _ _, ((Blk.new w1 31 #[.pointer (some ⟨m, 0, none⟩), .int .i64 300, .int .i64 vl]).only g2 (by simp)).only k2 (by simp), Cu.memg_low (hm.grown k12) (by omega), Cu.ints_gr hA k12, ho _ (.inl (by omega)), ho _ (.inr rfl), Cu.offi_new (Cu.ints_gr hA k1) (Nat.le_refl _), only_trans g0 (only_trans a1 k12), hN, by omega⟩
end

end Go.Proofs.YthhodadfiipffaaDoor

/- CpuSteps walked. -/
namespace Go.Proofs.YthhodadfiipffaaDoor
open Go.RowKit Go.Lib Go.Sort
set_option linter.unusedVariables false
set_option maxRecDepth 20000
attribute [-go_sem] Go.run_neq_struct

/-- The document's, step by step. -/
theorem Cu.rstep_f (V : List UInt8) (pc md : Int) (r : Nat → Int) (vl : Nat) (hV : V.length = vl) (hl : vl ≤ 1000) (hpc : pc ≤ 9223372036854775807) (j : Nat) (A : Option Addr) (cap : Nat) (W : World) (hA : Ints W A cap (num (Cu.stN V pc r md j).v)) :
    Calls Tryd.prog 42 #[.slice A vl cap, .agg #[.int .i64 (Cu.stN V pc r md j).pc, .int .i64 ((Cu.stN V pc r md j).r 0), .int .i64 ((Cu.stN V pc r md j).r 1), .int .i64 ((Cu.stN V pc r md j).r 2), .int .i64 ((Cu.stN V pc r md j).r 3), .int .i64 ((Cu.stN V pc r md j).r 4), .int .i64 ((Cu.stN V pc r md j).r 5), .int .i64 ((Cu.stN V pc r md j).r 6), .int .i64 ((Cu.stN V pc r md j).r 7), .int .i64 (Cu.stN V pc r md j).md]] W fun e w' => ∃ A' c', e = .returned (.tuple #[.slice A' vl c', .agg #[.int .i64 (Cu.stN V pc r md (j + 1)).pc, .int .i64 ((Cu.stN V pc r md (j + 1)).r 0), .int .i64 ((Cu.stN V pc r md (j + 1)).r 1), .int .i64 ((Cu.stN V pc r md (j + 1)).r 2), .int .i64 ((Cu.stN V pc r md (j + 1)).r 3), .int .i64 ((Cu.stN V pc r md (j + 1)).r 4), .int .i64 ((Cu.stN V pc r md (j + 1)).r 5), .int .i64 ((Cu.stN V pc r md (j + 1)).r 6), .int .i64 ((Cu.stN V pc r md (j + 1)).r 7), .int .i64 (Cu.stN V pc r md (j + 1)).md], .agg #[.int .i64 (Cu.stN V pc r md (j + 1)).o1, .int .i64 (Cu.stN V pc r md (j + 1)).o2, .int .i64 (Cu.stN V pc r md (j + 1)).o3, .int .i64 (Cu.stN V pc r md (j + 1)).o4]]) ∧ Ints w' A' c' (num (Cu.stN V pc r md (j + 1)).v) ∧ W.grownBy w' none ∧ ∀ i, i < W.heap.size → OffI (Cu.stN V pc r md j).v A i → OffI (Cu.stN V pc r md (j + 1)).v A' i := by
  have hlen := Cu.stN_len V pc r md j
  have hlen2 := Cu.stN_len V pc r md (j + 1)
  have hp := Cu.stN_pc V pc r md (by omega) hpc j
  have hs := Cu.rstep_any (Cu.stN V pc r md j).v A cap (by omega) (Cu.stN V pc r md j).pc (Cu.stN V pc r md j).md (Cu.stN V pc r md j).r hp W hA
  rw [hlen, hV] at hs
  refine hs.mono fun e w' ⟨A', n, c', e1, e2, e3, e4, e5⟩ => ⟨A', c', ?_, e3, e4, e5⟩
  have : n = vl := by rw [e2]; exact hlen2.trans hV
  rw [e1, this]
  rfl
theorem Cu.text_doc {W : World} {A : Option Addr} {cap vl : Nat} {V : List UInt8} (hA : Ints W A cap (num V)) (hV : V.length = vl) (hl : vl ≤ 1000) : Calls Tryd.prog 32 #[.slice A vl cap, .int .i64 0, .int .i64 vl] W fun e w' => e = .returned (.string ⟨V.toArray⟩) ∧ Below W.heap.size W w' := by
  have := rtext_any A cap vl V (by rw [num_len, hV]) 0 vl W hA (by omega) (by omega)
  rw [List.drop_zero, ← hV, List.take_length] at this
  rw [← hV]
  exact this
theorem Cu.text_re3 {W : World} {B m g vl : Nat} {p V q : List UInt8} (hx : p.length = 300) (hV : V.length = vl) (hl : p.length + vl + q.length ≤ 16384) (h : MemG W B m g (p ++ V ++ q)) :
    Calls Tryd.prog 41 #[.agg #[.pointer (some ⟨m, 0, none⟩), .int .i64 300, .int .i64 vl]] W fun e w' => e = .returned (.string ⟨V.toArray⟩) ∧ Below W.heap.size W w' := Cu.text_re (x := 300) hx.symm hV hl h
end Go.Proofs.YthhodadfiipffaaDoor

/- Package part: the document's Open. -/
namespace Go.Proofs.YthhodadfiipffaaDoor
open Go.RowKit Go.Lib
set_option linter.unusedVariables false
set_option maxRecDepth 20000

theorem Pt.grow_of {W W' : World} (b : Below W.heap.size W W') : W.grownBy W' none := ⟨b.os, b.tape, b.output, b.size, fun i hi _ => b.block i hi⟩
theorem Pt.cells11 {W : World} {b : Nat} {t : TypeId} {x0 x1 x2 x3 x4 x5 x6 x7 x8 x9 x10 : Value} (h : Blk W b t #[x0, x1, x2, x3, x4, x5, x6, x7, x8, x9, x10]) : W.cell? ⟨b, 0, none⟩ = some x0 ∧ W.cell? ⟨b, 1, none⟩ = some x1 ∧ W.cell? ⟨b, 2, none⟩ = some x2 ∧ W.cell? ⟨b, 3, none⟩ = some x3 ∧ W.cell? ⟨b, 4, none⟩ = some x4 ∧ W.cell? ⟨b, 5, none⟩ = some x5 ∧ W.cell? ⟨b, 6, none⟩ = some x6 ∧ W.cell? ⟨b, 7, none⟩ = some x7 ∧ W.cell? ⟨b, 8, none⟩ = some x8 ∧ W.cell? ⟨b, 9, none⟩ = some x9 ∧ W.cell? ⟨b, 10, none⟩ = some x10 := ⟨h.cell 0, h.cell 1, h.cell 2, h.cell 3, h.cell 4, h.cell 5, h.cell 6, h.cell 7, h.cell 8, h.cell 9, h.cell 10⟩
theorem Pt.free11 {W : World} {b : Nat} {t : TypeId} {cs : Array Value} (h : Blk W b t cs) : W.frozen? ⟨b, 0, none⟩ = false ∧ W.frozen? ⟨b, 1, none⟩ = false ∧ W.frozen? ⟨b, 2, none⟩ = false ∧ W.frozen? ⟨b, 3, none⟩ = false ∧ W.frozen? ⟨b, 4, none⟩ = false ∧ W.frozen? ⟨b, 5, none⟩ = false ∧ W.frozen? ⟨b, 6, none⟩ = false ∧ W.frozen? ⟨b, 7, none⟩ = false ∧ W.frozen? ⟨b, 8, none⟩ = false ∧ W.frozen? ⟨b, 9, none⟩ = false ∧ W.frozen? ⟨b, 10, none⟩ = false := ⟨h.free 0, h.free 1, h.free 2, h.free 3, h.free 4, h.free 5, h.free 6, h.free 7, h.free 8, h.free 9, h.free 10⟩
theorem Pt.put11 {W : World} {b : Nat} {t : TypeId} {x0 x1 x2 x3 x4 x5 x6 x7 x8 x9 x10 : Value} (h : Blk W b t #[x0, x1, x2, x3, x4, x5, x6, x7, x8, x9, x10]) (y0 y1 y2 y3 y4 y5 y6 y7 y8 y9 y10 : Value) : ∀ W', W' = (((((((((((W.setCell ⟨b, 0, none⟩ y0).setCell ⟨b, 1, none⟩ y1).setCell ⟨b, 2, none⟩ y2).setCell ⟨b, 3, none⟩ y3).setCell ⟨b, 4, none⟩ y4).setCell ⟨b, 5, none⟩ y5).setCell ⟨b, 6, none⟩ y6).setCell ⟨b, 7, none⟩ y7).setCell ⟨b, 8, none⟩ y8).setCell ⟨b, 9, none⟩ y9).setCell ⟨b, 10, none⟩ y10) → W.grownBy W' (some b) ∧ Blk W' b t #[y0, y1, y2, y3, y4, y5, y6, y7, y8, y9, y10] := by
  rintro W' rfl
  refine ⟨only_put (only_put (only_put (only_put (only_put (only_put (only_put (only_put (only_put (only_put (only_put (only_refl _ _) 0 y0) 1 y1) 2 y2) 3 y3) 4 y4) 5 y5) 6 y6) 7 y7) 8 y8) 9 y9) 10 y10, ?_⟩
  have q := (((((((((((h.put 0 y0).put 1 y1).put 2 y2).put 3 y3).put 4 y4).put 5 y5).put 6 y6).put 7 y7).put 8 y8).put 9 y9).put 10 y10)
  simp only [List.setIfInBounds_toArray, List.set_cons_zero, List.set_cons_succ] at q
  exact q
/-- A row stays when a block that is not its own is written. -/
theorem Pt.MkR.off {W W' : World} {b : Nat} {v : Value} {l : List Pt.Mk} (h : Pt.MkR W v l) (hb : ∀ i, v.ownBlock = some i → i ≠ b) (k : W.grownBy W' (some b)) : Pt.MkR W' v l := by
  obtain ⟨A, c, rfl, h2, h3⟩ := h
  refine ⟨A, c, rfl, h2, fun hp => ?_⟩
  obtain ⟨g, off, rfl, e3, e4⟩ := h3 hp
  have hne : g ≠ b := hb g rfl
  exact ⟨g, off, rfl, Nat.lt_of_lt_of_le e3 k.size, fun i x hi j u hu => k.cell (e4 i x hi j u hu) (fun e => by injection e with e; exact hne e)⟩
set_option maxHeartbeats 6400000 in
theorem Pt.ropen_any (w : World) (s : Pt.Sm) (A : Option Addr) (n c : Nat) (hA : Ints w A c (num s.v)) (hn : s.v.length = n) (hl : n ≤ 1000) (t bits : Int) : Calls Tryd.prog 30 #[.agg #[.slice A n c, .int .i64 s.pc, .int .i64 (s.r 0), .int .i64 (s.r 1), .int .i64 (s.r 2), .int .i64 (s.r 3), .int .i64 (s.r 4), .int .i64 (s.r 5), .int .i64 (s.r 6), .int .i64 (s.r 7), .int .i64 s.md], .int .i64 t, .int .i64 bits] w fun e w' => ∃ v, e = .returned (.tuple #[.agg #[.slice A n c, .int .i64 s.pc, .int .i64 (s.r 0), .int .i64 (s.r 1), .int .i64 (s.r 2), .int .i64 (s.r 3), .int .i64 (s.r 4), .int .i64 (s.r 5), .int .i64 (s.r 6), .int .i64 (s.r 7), .int .i64 (if s.md = 1 then 0 else s.md)], v]) ∧ Pt.MkR w' v (Pt.opl s t bits) ∧ w.grownBy w' none ∧ ∀ i, v.ownBlock = some i → w.heap.size ≤ i := by
  obtain ⟨W0, hW0⟩ : ∃ W0, W0 = (w.alloc (.cells #[.slice A n c, .int .i64 s.pc, .int .i64 (s.r 0), .int .i64 (s.r 1), .int .i64 (s.r 2), .int .i64 (s.r 3), .int .i64 (s.r 4), .int .i64 (s.r 5), .int .i64 (s.r 6), .int .i64 (s.r 7), .int .i64 s.md] 37)).alloc (.cells #[.slice none 0 0, .int .i64 0, .int .i64 0, .int .i64 0, .int .i64 0, .int .i64 0, .int .i64 0, .int .i64 0, .int .i64 0, .int .i64 0, .int .i64 0] 37) := ⟨_, rfl⟩
  have G0 := Lib.hid (show w.grownBy W0 none by rw [hW0]; exact only_alloc (only_alloc (only_refl _ none) _) _)
  have P0 := Lib.hid (show Blk W0 w.heap.size 37 #[.slice A n c, .int .i64 s.pc, .int .i64 (s.r 0), .int .i64 (s.r 1), .int .i64 (s.r 2), .int .i64 (s.r 3), .int .i64 (s.r 4), .int .i64 (s.r 5), .int .i64 (s.r 6), .int .i64 (s.r 7), .int .i64 s.md] by rw [hW0]; exact (Blk.new _ _ _).alloc _)
  have R0 := Lib.hid (show Blk W0 (w.heap.size + 1) 37 #[.slice none 0 0, .int .i64 0, .int .i64 0, .int .i64 0, .int .i64 0, .int .i64 0, .int .i64 0, .int .i64 0, .int .i64 0, .int .i64 0, .int .i64 0] by rw [hW0]; have := Blk.new (w.alloc (.cells #[.slice A n c, .int .i64 s.pc, .int .i64 (s.r 0), .int .i64 (s.r 1), .int .i64 (s.r 2), .int .i64 (s.r 3), .int .i64 (s.r 4), .int .i64 (s.r 5), .int .i64 (s.r 6), .int .i64 (s.r 7), .int .i64 s.md] 37)) 37 #[.slice none 0 0, .int .i64 0, .int .i64 0, .int .i64 0, .int .i64 0, .int .i64 0, .int .i64 0, .int .i64 0, .int .i64 0, .int .i64 0, .int .i64 0]; simpa using this)
  have HT := Lib.hid (show Calls Tryd.prog 32 #[.slice A n c, .int .i64 0, .int .i64 n] W0 fun e w' => e = .returned (.string ⟨s.v.toArray⟩) ∧ W0.grownBy w' none from (Cu.text_doc (hA.below (Cu.below G0.out)) hn hl).mono fun _ _ hh => ⟨hh.1, Pt.grow_of hh.2⟩)
  have hz0 : W0.heap.size = w.heap.size + 1 + 1 := by rw [hW0]; simp
  have HZ0 := Lib.hid hz0
  clear hA hl hz0
  generalize hd : (⟨s.v.toArray⟩ : ByteArray) = d at *
  obtain ⟨p0, p1, p2, p3, p4, p5, p6, p7, p8, p9, p10⟩ := Pt.cells11 P0.out
  go_enter Tryd.func30, Tryd.ntmps30
  go_upto_region 1 with (fail)
  rw [← hW0]
  clear hW0
  go_upto_region 2 with (go_at_call 32; (with_reducible refine HT.out.mono ?_); rintro e w3 ⟨rfl, g3⟩; have G3 := Lib.hid g3; clear g3)
  clear p0 p1 p2 p3 p4 p5 p6 p7 p8 p9 p10
  obtain ⟨w4, hw4⟩ : ∃ w4, w4 = w3.alloc (.cells #[.int .i64 t, .int .u8 1, .int .i64 0, .int .i64 0, .int .i64 0, .string d] 73) := ⟨_, rfl⟩
  have g34 : w3.grownBy w4 none := by rw [hw4]; exact only_alloc (only_refl _ none) _
  have M1 := Lib.hid (show Blk w4 w3.heap.size 73 (Pt.mc ⟨t, 1, 0, 0, 0, d⟩).toArray by rw [hw4]; exact Blk.new _ _ _)
  have G4 := Lib.hid (only_trans G3.out g34)
  have HGA := Lib.hid (show W0.heap.size ≤ w3.heap.size from G3.out.size)
  rw [← hw4]
  obtain ⟨ga, hga⟩ : ∃ ga, ga = w3.heap.size := ⟨_, rfl⟩
  rw [← hga] at M1 HGA ⊢
  clear hw4 g34 hga
  by_cases hb : bits = 0
  · have HV := Lib.hid (show Pt.opl s t bits = [⟨t, 1, 0, 0, 0, d⟩] by unfold Pt.opl; rw [if_pos hb, hd])
    have HROW := Lib.hid (Pt.one_row M1.out)
    clear hd
    subst hb
    go_upto_region 4 with (fail)
    have PBL1 := Lib.hid (P0.out.only G4.out (by simp))
    have RBL1 := Lib.hid (R0.out.only G4.out (by simp))
    by_cases hm : s.md = 1
    · have q10 := PBL1.out.cell 10
      have q10f := PBL1.out.free 10
      simp only [hm] at q10
      go_upto_region 6 with (fail)
      obtain ⟨W7, hW7⟩ : ∃ W7, W7 = w4.setCell ⟨w.heap.size, 10, none⟩ (.int .i64 0) := ⟨_, rfl⟩
      have k7 : w4.grownBy W7 (some w.heap.size) := by rw [hW7]; exact only_put (only_refl _ _) 10 _
      have PBL : Blk W7 w.heap.size 37 #[.slice A n c, .int .i64 s.pc, .int .i64 (s.r 0), .int .i64 (s.r 1), .int .i64 (s.r 2), .int .i64 (s.r 3), .int .i64 (s.r 4), .int .i64 (s.r 5), .int .i64 (s.r 6), .int .i64 (s.r 7), .int .i64 0] := by rw [hW7]; have q := PBL1.out.put 10 (.int .i64 0); simp only [List.setIfInBounds_toArray, List.set_cons_zero, List.set_cons_succ] at q; exact q
      have RBL := RBL1.out.only k7 (by simp)
      rw [← hW7]
      clear hW7 q10 q10f
      obtain ⟨p0, p1, p2, p3, p4, p5, p6, p7, p8, p9, p10⟩ := Pt.cells11 PBL
      obtain ⟨x0, x1, x2, x3, x4, x5, x6, x7, x8, x9, x10⟩ := Pt.cells11 RBL
      obtain ⟨y0, y1, y2, y3, y4, y5, y6, y7, y8, y9, y10⟩ := Pt.free11 RBL
      obtain ⟨W9, hW9⟩ : ∃ W9, W9 = (((((((((((W7.setCell ⟨(w.heap.size + 1), 0, none⟩ (.slice A n c)).setCell ⟨(w.heap.size + 1), 1, none⟩ (.int .i64 s.pc)).setCell ⟨(w.heap.size + 1), 2, none⟩ (.int .i64 (s.r 0))).setCell ⟨(w.heap.size + 1), 3, none⟩ (.int .i64 (s.r 1))).setCell ⟨(w.heap.size + 1), 4, none⟩ (.int .i64 (s.r 2))).setCell ⟨(w.heap.size + 1), 5, none⟩ (.int .i64 (s.r 3))).setCell ⟨(w.heap.size + 1), 6, none⟩ (.int .i64 (s.r 4))).setCell ⟨(w.heap.size + 1), 7, none⟩ (.int .i64 (s.r 5))).setCell ⟨(w.heap.size + 1), 8, none⟩ (.int .i64 (s.r 6))).setCell ⟨(w.heap.size + 1), 9, none⟩ (.int .i64 (s.r 7))).setCell ⟨(w.heap.size + 1), 10, none⟩ (.int .i64 0)) := ⟨_, rfl⟩
      obtain ⟨k9, b9⟩ := Pt.put11 RBL (.slice A n c) (.int .i64 s.pc) (.int .i64 (s.r 0)) (.int .i64 (s.r 1)) (.int .i64 (s.r 2)) (.int .i64 (s.r 3)) (.int .i64 (s.r 4)) (.int .i64 (s.r 5)) (.int .i64 (s.r 6)) (.int .i64 (s.r 7)) (.int .i64 0) W9 hW9
      have HG9 := Lib.hid (Pt.grow_box (Pt.grow_box (only_trans G0.out (G4.out)) k7 (Nat.le_refl _)) k9 (Nat.le_succ _))
      have HR9 := Lib.hid ((HROW.out.off (fun i e => by simp [Value.ownBlock] at e; have := HGA.out; have := HZ0.out; omega) k7).off (fun i e => by simp [Value.ownBlock] at e; have := HGA.out; have := HZ0.out; omega) k9)
      obtain ⟨z0, z1, z2, z3, z4, z5, z6, z7, z8, z9, z10⟩ := Pt.cells11 b9
      clear k9 b9
      go_wp2
      rw [← hW9]
      refine bodyPost_ret (v := .tuple #[.agg #[.slice A n c, .int .i64 s.pc, .int .i64 (s.r 0), .int .i64 (s.r 1), .int .i64 (s.r 2), .int .i64 (s.r 3), .int .i64 (s.r 4), .int .i64 (s.r 5), .int .i64 (s.r 6), .int .i64 (s.r 7), .int .i64 0], .slice (some ⟨ga, 0, none⟩) 1 1]) (by simp [results, Tryd.results30, go_sem, z0, z1, z2, z3, z4, z5, z6, z7, z8, z9, z10]) rfl ?_
      exact ⟨.slice (some ⟨ga, 0, none⟩) 1 1, by first | rfl | rw [if_pos hm], by rw [HV.out]; exact HR9.out, HG9.out, fun i e => by simp [Value.ownBlock] at e; have := HGA.out; have := HZ0.out; omega⟩
    · have q10 := PBL1.out.cell 10
      go_upto_region 6 with (fail)
      clear q10
      have PBL := PBL1.out
      have RBL := RBL1.out
      obtain ⟨p0, p1, p2, p3, p4, p5, p6, p7, p8, p9, p10⟩ := Pt.cells11 PBL
      obtain ⟨x0, x1, x2, x3, x4, x5, x6, x7, x8, x9, x10⟩ := Pt.cells11 RBL
      obtain ⟨y0, y1, y2, y3, y4, y5, y6, y7, y8, y9, y10⟩ := Pt.free11 RBL
      obtain ⟨W9, hW9⟩ : ∃ W9, W9 = (((((((((((w4.setCell ⟨(w.heap.size + 1), 0, none⟩ (.slice A n c)).setCell ⟨(w.heap.size + 1), 1, none⟩ (.int .i64 s.pc)).setCell ⟨(w.heap.size + 1), 2, none⟩ (.int .i64 (s.r 0))).setCell ⟨(w.heap.size + 1), 3, none⟩ (.int .i64 (s.r 1))).setCell ⟨(w.heap.size + 1), 4, none⟩ (.int .i64 (s.r 2))).setCell ⟨(w.heap.size + 1), 5, none⟩ (.int .i64 (s.r 3))).setCell ⟨(w.heap.size + 1), 6, none⟩ (.int .i64 (s.r 4))).setCell ⟨(w.heap.size + 1), 7, none⟩ (.int .i64 (s.r 5))).setCell ⟨(w.heap.size + 1), 8, none⟩ (.int .i64 (s.r 6))).setCell ⟨(w.heap.size + 1), 9, none⟩ (.int .i64 (s.r 7))).setCell ⟨(w.heap.size + 1), 10, none⟩ (.int .i64 s.md)) := ⟨_, rfl⟩
      obtain ⟨k9, b9⟩ := Pt.put11 RBL (.slice A n c) (.int .i64 s.pc) (.int .i64 (s.r 0)) (.int .i64 (s.r 1)) (.int .i64 (s.r 2)) (.int .i64 (s.r 3)) (.int .i64 (s.r 4)) (.int .i64 (s.r 5)) (.int .i64 (s.r 6)) (.int .i64 (s.r 7)) (.int .i64 s.md) W9 hW9
      have HG9 := Lib.hid (Pt.grow_box (only_trans G0.out (G4.out)) k9 (Nat.le_succ _))
      have HR9 := Lib.hid (HROW.out.off (fun i e => by simp [Value.ownBlock] at e; have := HGA.out; have := HZ0.out; omega) k9)
      obtain ⟨z0, z1, z2, z3, z4, z5, z6, z7, z8, z9, z10⟩ := Pt.cells11 b9
      clear k9 b9
      go_wp2
      rw [← hW9]
      refine bodyPost_ret (v := .tuple #[.agg #[.slice A n c, .int .i64 s.pc, .int .i64 (s.r 0), .int .i64 (s.r 1), .int .i64 (s.r 2), .int .i64 (s.r 3), .int .i64 (s.r 4), .int .i64 (s.r 5), .int .i64 (s.r 6), .int .i64 (s.r 7), .int .i64 s.md], .slice (some ⟨ga, 0, none⟩) 1 1]) (by simp [results, Tryd.results30, go_sem, z0, z1, z2, z3, z4, z5, z6, z7, z8, z9, z10]) rfl ?_
      exact ⟨.slice (some ⟨ga, 0, none⟩) 1 1, by first | rfl | rw [if_neg hm], by rw [HV.out]; exact HR9.out, HG9.out, fun i e => by simp [Value.ownBlock] at e; have := HGA.out; have := HZ0.out; omega⟩
  · have HV := Lib.hid (show Pt.opl s t bits = [⟨t, 1, 0, 0, 0, d⟩, ⟨t, 2, bits, 0, 0, ⟨#[]⟩⟩] by unfold Pt.opl; rw [if_neg hb, hd])
    clear hd
    obtain ⟨v', w6, hk, hrow, hg6, how⟩ := Pt.app_mk (w4.alloc (.cells #[.int .i64 t, .int .u8 2, .int .i64 bits, .int .i64 0, .int .i64 0, .string ⟨#[]⟩] 73)) ga w4.heap.size ⟨t, 1, 0, 0, 0, d⟩ ⟨t, 2, bits, 0, 0, ⟨#[]⟩⟩ (M1.out.alloc _) (Blk.new w4 _ _)
    have HK := Lib.hid hk
    have HROW0 := Lib.hid hrow
    have HOW := Lib.hid how
    have G6 := Lib.hid (Pt.grow_box (only_trans G4.out (only_alloc (only_refl w4 none) _)) hg6 HGA.out)
    obtain ⟨A', c', rfl, _, _⟩ := hrow
    have HROW := HROW0
    clear hk hg6 how
    go_upto_region 4 with (at_builtin; refine wpList_append_eq rfl (.tmp 20) (.tmp 24) 50 rfl HK.out rfl rfl ?_)
    have PBL1 := Lib.hid (P0.out.only G6.out (by simp))
    have RBL1 := Lib.hid (R0.out.only G6.out (by simp))
    by_cases hm : s.md = 1
    · have q10 := PBL1.out.cell 10
      have q10f := PBL1.out.free 10
      simp only [hm] at q10
      go_upto_region 6 with (fail)
      obtain ⟨W7, hW7⟩ : ∃ W7, W7 = w6.setCell ⟨w.heap.size, 10, none⟩ (.int .i64 0) := ⟨_, rfl⟩
      have k7 : w6.grownBy W7 (some w.heap.size) := by rw [hW7]; exact only_put (only_refl _ _) 10 _
      have PBL : Blk W7 w.heap.size 37 #[.slice A n c, .int .i64 s.pc, .int .i64 (s.r 0), .int .i64 (s.r 1), .int .i64 (s.r 2), .int .i64 (s.r 3), .int .i64 (s.r 4), .int .i64 (s.r 5), .int .i64 (s.r 6), .int .i64 (s.r 7), .int .i64 0] := by rw [hW7]; have q := PBL1.out.put 10 (.int .i64 0); simp only [List.setIfInBounds_toArray, List.set_cons_zero, List.set_cons_succ] at q; exact q
      have RBL := RBL1.out.only k7 (by simp)
      rw [← hW7]
      clear hW7 q10 q10f
      obtain ⟨p0, p1, p2, p3, p4, p5, p6, p7, p8, p9, p10⟩ := Pt.cells11 PBL
      obtain ⟨x0, x1, x2, x3, x4, x5, x6, x7, x8, x9, x10⟩ := Pt.cells11 RBL
      obtain ⟨y0, y1, y2, y3, y4, y5, y6, y7, y8, y9, y10⟩ := Pt.free11 RBL
      obtain ⟨W9, hW9⟩ : ∃ W9, W9 = (((((((((((W7.setCell ⟨(w.heap.size + 1), 0, none⟩ (.slice A n c)).setCell ⟨(w.heap.size + 1), 1, none⟩ (.int .i64 s.pc)).setCell ⟨(w.heap.size + 1), 2, none⟩ (.int .i64 (s.r 0))).setCell ⟨(w.heap.size + 1), 3, none⟩ (.int .i64 (s.r 1))).setCell ⟨(w.heap.size + 1), 4, none⟩ (.int .i64 (s.r 2))).setCell ⟨(w.heap.size + 1), 5, none⟩ (.int .i64 (s.r 3))).setCell ⟨(w.heap.size + 1), 6, none⟩ (.int .i64 (s.r 4))).setCell ⟨(w.heap.size + 1), 7, none⟩ (.int .i64 (s.r 5))).setCell ⟨(w.heap.size + 1), 8, none⟩ (.int .i64 (s.r 6))).setCell ⟨(w.heap.size + 1), 9, none⟩ (.int .i64 (s.r 7))).setCell ⟨(w.heap.size + 1), 10, none⟩ (.int .i64 0)) := ⟨_, rfl⟩
      obtain ⟨k9, b9⟩ := Pt.put11 RBL (.slice A n c) (.int .i64 s.pc) (.int .i64 (s.r 0)) (.int .i64 (s.r 1)) (.int .i64 (s.r 2)) (.int .i64 (s.r 3)) (.int .i64 (s.r 4)) (.int .i64 (s.r 5)) (.int .i64 (s.r 6)) (.int .i64 (s.r 7)) (.int .i64 0) W9 hW9
      have HG9 := Lib.hid (Pt.grow_box (Pt.grow_box (only_trans G0.out (G6.out)) k7 (Nat.le_refl _)) k9 (Nat.le_succ _))
      have HR9 := Lib.hid ((HROW.out.off (fun i e => by have h1 := HGA.out; have h2 := HZ0.out; have h3 := G4.out.size; rcases HOW.out with q | q <;> (rw [e] at q; injection q with q; (try simp at q); omega)) k7).off (fun i e => by have h1 := HGA.out; have h2 := HZ0.out; have h3 := G4.out.size; rcases HOW.out with q | q <;> (rw [e] at q; injection q with q; (try simp at q); omega)) k9)
      obtain ⟨z0, z1, z2, z3, z4, z5, z6, z7, z8, z9, z10⟩ := Pt.cells11 b9
      clear k9 b9
      go_wp2
      rw [← hW9]
      refine bodyPost_ret (v := .tuple #[.agg #[.slice A n c, .int .i64 s.pc, .int .i64 (s.r 0), .int .i64 (s.r 1), .int .i64 (s.r 2), .int .i64 (s.r 3), .int .i64 (s.r 4), .int .i64 (s.r 5), .int .i64 (s.r 6), .int .i64 (s.r 7), .int .i64 0], .slice A' 2 c']) (by simp [results, Tryd.results30, go_sem, z0, z1, z2, z3, z4, z5, z6, z7, z8, z9, z10]) rfl ?_
      exact ⟨.slice A' 2 c', by first | rfl | rw [if_pos hm], by rw [HV.out]; exact HR9.out, HG9.out, fun i (e : (Value.slice A' 2 c').ownBlock = some i) => by have HO : (Value.slice A' 2 c').ownBlock = some ga ∨ (Value.slice A' 2 c').ownBlock = some _ := HOW.out; have h1 := HGA.out; have h2 := HZ0.out; have h3 := G4.out.size; rcases HO with q | q <;> (rw [e] at q; injection q with q; (try simp at q); omega)⟩
    · have q10 := PBL1.out.cell 10
      go_upto_region 6 with (fail)
      clear q10
      have PBL := PBL1.out
      have RBL := RBL1.out
      obtain ⟨p0, p1, p2, p3, p4, p5, p6, p7, p8, p9, p10⟩ := Pt.cells11 PBL
      obtain ⟨x0, x1, x2, x3, x4, x5, x6, x7, x8, x9, x10⟩ := Pt.cells11 RBL
      obtain ⟨y0, y1, y2, y3, y4, y5, y6, y7, y8, y9, y10⟩ := Pt.free11 RBL
      obtain ⟨W9, hW9⟩ : ∃ W9, W9 = (((((((((((w6.setCell ⟨(w.heap.size + 1), 0, none⟩ (.slice A n c)).setCell ⟨(w.heap.size + 1), 1, none⟩ (.int .i64 s.pc)).setCell ⟨(w.heap.size + 1), 2, none⟩ (.int .i64 (s.r 0))).setCell ⟨(w.heap.size + 1), 3, none⟩ (.int .i64 (s.r 1))).setCell ⟨(w.heap.size + 1), 4, none⟩ (.int .i64 (s.r 2))).setCell ⟨(w.heap.size + 1), 5, none⟩ (.int .i64 (s.r 3))).setCell ⟨(w.heap.size + 1), 6, none⟩ (.int .i64 (s.r 4))).setCell ⟨(w.heap.size + 1), 7, none⟩ (.int .i64 (s.r 5))).setCell ⟨(w.heap.size + 1), 8, none⟩ (.int .i64 (s.r 6))).setCell ⟨(w.heap.size + 1), 9, none⟩ (.int .i64 (s.r 7))).setCell ⟨(w.heap.size + 1), 10, none⟩ (.int .i64 s.md)) := ⟨_, rfl⟩
      obtain ⟨k9, b9⟩ := Pt.put11 RBL (.slice A n c) (.int .i64 s.pc) (.int .i64 (s.r 0)) (.int .i64 (s.r 1)) (.int .i64 (s.r 2)) (.int .i64 (s.r 3)) (.int .i64 (s.r 4)) (.int .i64 (s.r 5)) (.int .i64 (s.r 6)) (.int .i64 (s.r 7)) (.int .i64 s.md) W9 hW9
      have HG9 := Lib.hid (Pt.grow_box (only_trans G0.out (G6.out)) k9 (Nat.le_succ _))
      have HR9 := Lib.hid (HROW.out.off (fun i e => by have h1 := HGA.out; have h2 := HZ0.out; have h3 := G4.out.size; rcases HOW.out with q | q <;> (rw [e] at q; injection q with q; (try simp at q); omega)) k9)
      obtain ⟨z0, z1, z2, z3, z4, z5, z6, z7, z8, z9, z10⟩ := Pt.cells11 b9
      clear k9 b9
      go_wp2
      rw [← hW9]
      refine bodyPost_ret (v := .tuple #[.agg #[.slice A n c, .int .i64 s.pc, .int .i64 (s.r 0), .int .i64 (s.r 1), .int .i64 (s.r 2), .int .i64 (s.r 3), .int .i64 (s.r 4), .int .i64 (s.r 5), .int .i64 (s.r 6), .int .i64 (s.r 7), .int .i64 s.md], .slice A' 2 c']) (by simp [results, Tryd.results30, go_sem, z0, z1, z2, z3, z4, z5, z6, z7, z8, z9, z10]) rfl ?_
      exact ⟨.slice A' 2 c', by first | rfl | rw [if_neg hm], by rw [HV.out]; exact HR9.out, HG9.out, fun i (e : (Value.slice A' 2 c').ownBlock = some i) => by have HO : (Value.slice A' 2 c').ownBlock = some ga ∨ (Value.slice A' 2 c').ownBlock = some _ := HOW.out; have h1 := HGA.out; have h2 := HZ0.out; have h3 := G4.out.size; rcases HO with q | q <;> (rw [e] at q; injection q with q; (try simp at q); omega)⟩
end Go.Proofs.YthhodadfiipffaaDoor
