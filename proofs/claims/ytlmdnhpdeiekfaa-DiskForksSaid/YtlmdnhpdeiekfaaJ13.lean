/- rows of the laws on disks: the first 8 rows, for both: its contract. -/
import Derived.Test.YtlmdnhpdeiekfaaJ12
namespace Go.Proofs.Ytlmdnhpdeiekfaa
open Go.RowKit Go.Lib Go.Sort
set_option linter.unusedVariables false

def partL (p : Prt) : List Value := [.int .i64 p.1, .int .i64 p.2.1, .int .i64 p.2.2]
theorem partL_one (p : Prt) : ∀ u ∈ partL p, u.oneCell' = true := by
  intro u hu
  simp [partL] at hu
  rcases hu with rfl | rfl | rfl <;> rfl
theorem rpart_info : (Try.prog.info? 60).map (fun i => (i.zero, i.size, i.bytes)) = some (some (.agg #[.int .i64 0, .int .i64 0, .int .i64 0]), 3, 24) := by kernel_rfl
/-- A row of the document's rows, of the call's own. -/
def OwnP (w : World) (B : Nat) (v : Value) (n : Nat) (d : Nat → Prt) : Prop := w.ownsRow B 60 3 v n (ptCells n d)
theorem OwnP.prts {w : World} {B n c : Nat} {A : Option Addr} {d : Nat → Prt} (h : OwnP w B (.slice A n c) n d) : PrtsV w A n d := by
  have h' : w.ownsRow B 60 3 (.slice A n c) n (ptCells n d) := h
  rcases h'.2 with ⟨e, h0⟩ | ⟨g, cap, cur, e, hB, hg, _⟩
  · exact ⟨fun _ => h0, fun hp => absurd hp (by omega)⟩
  · injection e with e1 e2 e3
    subst e1
    refine ⟨(fun e => by cases e), fun _ => ⟨g, 0, rfl, lt_of_block hg, fun i hi => ?_⟩⟩
    have hc : ∀ j, j < 3 → w.cell? ⟨g, 0 + i * 3 + j, none⟩ = (partL (d i))[j]? := fun j hj => by
      have := h'.cellAt (i * 3 + j) (by omega)
      rw [Nat.zero_add, this, ptCells_at d hi hj]
      rfl
    have h0 := hc 0 (by omega)
    have h1 := hc 1 (by omega)
    have h2 := hc 2 (by omega)
    exact ⟨h0, h1, h2⟩

/-- What rows answers. -/
def RowsV (A : Option Addr) (n cap : Nat) (d : Nat → Prt) (w : World) (e : Ending) (w' : World) : Prop :=
  ∃ A2 c2, e = .returned (.tuple #[.slice A n cap, .slice A2 n c2]) ∧ OwnP w' w.heap.size (.slice A2 n c2) n d ∧ Below w.heap.size w w'
set_option maxRecDepth 20000 in
set_option maxHeartbeats 3200000 in
theorem rows_any (A : Option Addr) (len cap : Nat) (d : Nat → Prt) (w : World) (hst : PrtsV w A len d) (hlc : len ≤ cap) (hcm : cap ≤ 9223372036854775807) :
    Calls Try.prog 6 #[.slice A len cap] w (RowsV A (min len 8) cap d w) := by
  obtain ⟨i0, hi0, hz0, hz1, hz2⟩ := info_parts rpart_info
  have key : ∃ n, min len 8 = n ∧ n ≤ 8 ∧ n ≤ len ∧ ((len = n) ∨ (n = 8 ∧ 8 < len)) := ⟨min len 8, rfl, by omega, by omega, by omega⟩
  obtain ⟨n, hn, hn8, hnl, hc⟩ := key
  rw [hn]
  have HST := Lib.hid (fun (W : World) (hb : Below w.heap.size w W) => (hst.cut n hnl).below hb)
  clear hst hn
  obtain ⟨N, hN⟩ : ∃ N, N = n := ⟨n, rfl⟩
  have HN := Lib.hid hN
  have hN8 : N ≤ 8 := by omega
  clear hN
  rcases hc with rfl | ⟨rfl, h8⟩
  all_goals
    first
      | (have j1 : ((8 : Nat) : Int) ≤ (cap : Int) := by omega)
      | (have j1 : (len : Int) ≤ (cap : Int) := by omega)
    go_enter Try.func6, Try.ntmps6
    go_wp2
    go_loopw [4, 5] (fun x y wr => ∃ (i : Nat), y = .int .i64 i ∧ i ≤ N ∧ Hid (OwnP wr w.heap.size x i d) ∧ Hid (Below w.heap.size w wr)) (fun _ y _ => 8 - (intOf y).toNat)
    case atStart => exact ⟨0, rfl, Nat.zero_le _, Lib.hid (World.ownsRow_made w #[] 0 (Nat.le_refl _) (by unfold maxLen; omega) rfl), Lib.hid ((Below.refl _ _).alloc (Nat.le_refl _) _)⟩
    case round =>
      obtain ⟨i, rfl, hin, HO, HB⟩ := hrel
      obtain ⟨A2, c2, rfl⟩ := own_form HO.out
      by_cases hi : i < N
      · obtain ⟨b9, off, rfl, hb9, hcells⟩ := (HST.out wr HB.out).2 (by have := HN.out; omega)
        obtain ⟨c0, c1, c2'⟩ := hcells i (by have := HN.out; omega)
        generalize hx : d i = x at c0 c1 c2'
        have HX := Lib.hid hx
        obtain ⟨p, q, s⟩ := x
        simp only at c0 c1 c2'
        have i1 : (i : Int) < (len : Int) := by have := HN.out; omega
        have i2 : (i : Int) < ((8 : Nat) : Int) := by have := HN.out; omega
        clear hcells hx
        have hnews : ∀ j u, (partL (p, q, s))[j]? = some u → (wr.alloc (.cells #[.int .i64 p, .int .i64 q, .int .i64 s] 60)).drew.cell? ((⟨wr.heap.size, 0, none⟩ : Addr).add j) = some u :=
          World.news_of_block (cs := #[.int .i64 p, .int .i64 q, .int .i64 s]) (show (wr.alloc (.cells #[.int .i64 p, .int .i64 q, .int .i64 s] 60)).drew.heap[wr.heap.size]? = some (.cells #[.int .i64 p, .int .i64 q, .int .i64 s] 60 (0, 0)) from Blk.new wr _ _)
        have HNEWS := Lib.hid hnews
        clear hnews
        go_wp2
        go_region_law (refine step_append_lies _ rfl (.tmp 18) (.tmp 35) 24 rfl w.heap.size 60 i0 _ 3 24 Try.underlying24 hi0 hz0 hz1 hz2 rfl (by decide) (.slice A2 i c2) i (ptCells i d) (by simp [Act.eval, Act.put]) (World.ownsRow.alloc (w := wr.drew) HO.out _) ⟨wr.heap.size, 0, none⟩ 1 1 (partL (p, q, s)) (by simp [Act.eval, Act.put]) rfl HNEWS.out (partL_one _) (by omega) (by unfold maxLen; omega) (by omega) (by have := HB.out.size; simp; omega) _ rfl ?_; intro g' cap' w3 hown3 hg3 hat3 hlt3; have O3 : Hid (OwnP w3 w.heap.size (.slice (some ⟨g', 0, none⟩) (i + 1) cap') (i + 1) d) := Lib.hid (show w3.ownsRow _ _ _ _ _ _ from by rw [ptCells_succ, HX.out]; exact hown3); have B3 := Lib.hid ((below_drewN (HB.out.alloc HB.out.size (.cells #[.int .i64 p, .int .i64 q, .int .i64 s] 60)) 1).trans (below_of_only hg3 (by have := HB.out.size; simp; omega) (fun k hk => (World.ownsRow.lt HO.out k hk).1))); clear hown3 hg3 hat3)
        all_goals
          go_wp2
          go_roundw
          case rel => exact ⟨i + 1, by go_num, by omega, O3, B3⟩
          case measure => simp [intOf] <;> omega
      · obtain rfl : i = N := by omega
        first
          | (have i1 : ¬ (i : Int) < ((8 : Nat) : Int) := by have := HN.out; omega)
          | (have i1 : ¬ (i : Int) < (len : Int) := by have := HN.out; omega)
        have e9 := HN.out
        go_wp2
        go_ret2
        subst e9
        exact ⟨_, _, rfl, HO.out, HB.out⟩
end Go.Proofs.Ytlmdnhpdeiekfaa
