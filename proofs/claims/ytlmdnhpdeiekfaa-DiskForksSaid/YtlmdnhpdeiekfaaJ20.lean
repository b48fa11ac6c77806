/- The document's disk: Start. -/
import Derived.Test.YtlmdnhpdeiekfaaJ19
import Derived.Test.YtlmdnhpdeiekfaaK
namespace Go.Proofs.Ytlmdnhpdeiekfaa
open Go.RowKit Go.Lib
set_option linter.unusedVariables false

/-- What the document's Start answers. -/
def startR (d : Nat → Prt) (n : Nat) (bz : Bool) (tick : Int) (j : Jb) : Int := if tick < 0 ∨ 2147483647 < tick then 2 else if bz then 13 else askR d n j
set_option maxRecDepth 20000 in
set_option maxHeartbeats 3200000 in
theorem rstart_bad (A : Option Addr) (n c : Nat) (d : Nat → Prt) (j : Jb) (tick : Int) (w : World) (x : Nat) (bv : Value) (bz : Bool) (j0 : Jb) (st : Int) (h : RDk w x (.slice A n c) bv bz j0 st) (hst : PrtsV w A n d) (hn : n ≤ 1000) (hw : ∀ i, i < n → Within (d i)) (hc : startR d n bz tick j ≠ 0) :
    Calls Try.prog 24 #[.pointer (some ⟨x, 0, none⟩), .int .i64 tick, jbv j] w fun e w' => e = .returned (.int .i64 (startR d n bz tick j)) ∧ Below w.heap.size w w' := by
  have hb0 : Below w.heap.size w (w.alloc (.cells #[.int .i64 j.1, .int .i64 j.2.1, .int .i64 j.2.2.1, .bool j.2.2.2.1, .string j.2.2.2.2] 52)) := (Below.refl _ _).alloc (Nat.le_refl _) _
  have HA := Lib.hid (rask_any A n c d j _ x bv bz j0 st (h.below hb0) (hst.below hb0) hn hw)
  have d0 : (w.alloc (.cells #[.int .i64 j.1, .int .i64 j.2.1, .int .i64 j.2.2.1, .bool j.2.2.2.1, .string j.2.2.2.2] 52)).cell? ⟨x, 2, none⟩ = some (.bool bz) := Blk.cell (h.below hb0) 2
  have NB := Blk.new w 52 #[.int .i64 j.1, .int .i64 j.2.1, .int .i64 j.2.2.1, .bool j.2.2.2.1, .string j.2.2.2.2]
  have HB0 := Lib.hid hb0
  unfold startR at hc ⊢
  by_cases h1 : tick < 0
  · rw [if_pos (.inl h1)]
    obtain ⟨o, s, m, b, t⟩ := j
    clear h hst hw hc hb0
    go_enter Try.func24, Try.ntmps24
    go_wp2
    go_ret
    exact ⟨rfl, HB0.out⟩
  · by_cases h2 : 2147483647 < tick
    · rw [if_pos (.inr h2)]
      obtain ⟨o, s, m, b, t⟩ := j
      clear h hst hw hc hb0
      go_enter Try.func24, Try.ntmps24
      go_wp2
      go_ret
      exact ⟨rfl, HB0.out⟩
    · rw [if_neg (by omega)] at hc ⊢
      cases bz with
      | true =>
        simp only [if_true]
        obtain ⟨o, s, m, b, t⟩ := j
        clear h hst hw hc hb0
        go_enter Try.func24, Try.ntmps24
        go_wp2
        go_ret
        exact ⟨rfl, HB0.out⟩
      | false =>
        simp only [if_false, Bool.false_eq_true] at hc ⊢
        obtain ⟨o, s, m, b, t⟩ := j
        have HC0 := NB.cell 0
        have HC1 := NB.cell 1
        have HC2 := NB.cell 2
        have HC3 := NB.cell 3
        have HC4 := NB.cell 4
        simp at HC0 HC1 HC2 HC3 HC4
        generalize askR d n (o, s, m, b, t) = z at HA hc ⊢
        have hz : (z == 0) = false := beq_eq_false_iff_ne.2 hc
        clear h hst hw hc hb0
        go_enter Try.func24, Try.ntmps24
        go_wp2_with (go_at_call 22; go_loud (with_reducible refine HA.out.mono ?_); rintro e w1 ⟨rfl, g1⟩; have G1 := Lib.hid (HB0.out.trans (g1.mono (by simp))); clear g1)
        go_ret
        exact ⟨rfl, G1.out⟩
set_option maxRecDepth 20000 in
set_option maxHeartbeats 3200000 in
theorem rstart_ok (A : Option Addr) (n c : Nat) (d : Nat → Prt) (j : Jb) (tick : Int) (w : World) (x : Nat) (bv : Value) (bz : Bool) (j0 : Jb) (st : Int) (h : RDk w x (.slice A n c) bv bz j0 st) (hst : PrtsV w A n d) (hn : n ≤ 1000) (hw : ∀ i, i < n → Within (d i)) (hc : startR d n bz tick j = 0) :
    Calls Try.prog 24 #[.pointer (some ⟨x, 0, none⟩), .int .i64 tick, jbv j] w fun e w' => e = .returned (.int .i64 0) ∧ RDk w' x (.slice A n c) bv true j tick ∧ w.grownBy w' (some x) := by
  have hb0 : Below w.heap.size w (w.alloc (.cells #[.int .i64 j.1, .int .i64 j.2.1, .int .i64 j.2.2.1, .bool j.2.2.2.1, .string j.2.2.2.2] 52)) := (Below.refl _ _).alloc (Nat.le_refl _) _
  have ha := rask_any A n c d j _ x bv bz j0 st (h.below hb0) (hst.below hb0) hn hw
  have d0 : (w.alloc (.cells #[.int .i64 j.1, .int .i64 j.2.1, .int .i64 j.2.2.1, .bool j.2.2.2.1, .string j.2.2.2.2] 52)).cell? ⟨x, 2, none⟩ = some (.bool bz) := Blk.cell (h.below hb0) 2
  have NB := Blk.new w 52 #[.int .i64 j.1, .int .i64 j.2.1, .int .i64 j.2.2.1, .bool j.2.2.2.1, .string j.2.2.2.2]
  have HB0 := Lib.hid hb0
  have HD := Lib.hid (h.below hb0)
  have hlt : x < w.heap.size := Blk.lt h
  unfold startR at hc
  by_cases h1 : tick < 0 ∨ 2147483647 < tick
  · rw [if_pos h1] at hc
    cases hc
  · rw [if_neg h1] at hc
    cases bz with
    | true => simp at hc
    | false =>
      simp only [if_false, Bool.false_eq_true] at hc
      rw [hc] at ha
      have t0 : ¬ tick < 0 := by omega
      have t1 : ¬ 2147483647 < tick := by omega
      have HA := Lib.hid ha
      have HNB := Lib.hid NB
      obtain ⟨o, s, m, b, t⟩ := j
      have HC0 := NB.cell 0
      have HC1 := NB.cell 1
      have HC2 := NB.cell 2
      have HC3 := NB.cell 3
      have HC4 := NB.cell 4
      simp at HC0 HC1 HC2 HC3 HC4
      clear h hst hw hc h1 ha hb0 NB
      go_enter Try.func24, Try.ntmps24
      go_wp2_with (go_at_call 22; go_loud (with_reducible refine HA.out.mono ?_); rintro e w1 ⟨rfl, g1⟩; go_loud (have D1 := Lib.hid (HD.out.below g1)); go_loud (have X1 := HNB.out.below g1 (by simp)); go_loud (have c0 : w1.cell? ⟨w.heap.size, 0, none⟩ = some (.int .i64 o) := X1.cell 0); go_loud (have c1 : w1.cell? ⟨w.heap.size, 1, none⟩ = some (.int .i64 s) := X1.cell 1); go_loud (have c2 : w1.cell? ⟨w.heap.size, 2, none⟩ = some (.int .i64 m) := X1.cell 2); go_loud (have c3 : w1.cell? ⟨w.heap.size, 3, none⟩ = some (.bool b) := X1.cell 3); go_loud (have c4 : w1.cell? ⟨w.heap.size, 4, none⟩ = some (.string t) := X1.cell 4); go_loud (have G1 := Lib.hid (only_far (HB0.out.trans (g1.mono (by simp)))); clear g1 X1); go_loud (have f2 := Blk.free D1.out 2; have b2 : w1.cell? ⟨x, 2, none⟩ = some (.bool false) := Blk.cell D1.out 2); go_loud (have f3 := Blk.free D1.out 3; have b3 : w1.cell? ⟨x, 3, none⟩ = some (.int .i64 j0.1) := Blk.cell D1.out 3); go_loud (have f4 := Blk.free D1.out 4; have b4 : w1.cell? ⟨x, 4, none⟩ = some (.int .i64 j0.2.1) := Blk.cell D1.out 4); go_loud (have f5 := Blk.free D1.out 5; have b5 : w1.cell? ⟨x, 5, none⟩ = some (.int .i64 j0.2.2.1) := Blk.cell D1.out 5); go_loud (have f6 := Blk.free D1.out 6; have b6 : w1.cell? ⟨x, 6, none⟩ = some (.bool j0.2.2.2.1) := Blk.cell D1.out 6); go_loud (have f7 := Blk.free D1.out 7; have b7 : w1.cell? ⟨x, 7, none⟩ = some (.string j0.2.2.2.2) := Blk.cell D1.out 7); go_loud (have f8 := Blk.free D1.out 8; have b8 : w1.cell? ⟨x, 8, none⟩ = some (.int .i64 st) := Blk.cell D1.out 8); go_loud (have hbx : ¬ w.heap.size = x := by omega); have hbx2 : ¬ x = w.heap.size := by omega)
      go_ret
      refine ⟨rfl, ?_, ?_⟩
      · exact Blk.put (Blk.put (Blk.put (Blk.put (Blk.put (Blk.put (Blk.put D1.out 2 (.bool true)) 3 (.int .i64 o)) 4 (.int .i64 s)) 5 (.int .i64 m)) 6 (.bool b)) 7 (.string t)) 8 (.int .i64 tick)
      · exact only_put (only_put (only_put (only_put (only_put (only_put (only_put (only_any G1.out (some x)) _ _) _ _) _ _) _ _) _ _) _ _) _ _
end Go.Proofs.Ytlmdnhpdeiekfaa
