/- The things of a queue, gone through: the iterator and its caller. -/
import Derived.RangeFuncNested
import Derived.RangeFuncBound
import Derived.RangeFuncCalls
import Derived.RangeFuncLeaves
import Derived.RangeFuncBox
import Derived.Shelf.Abstract
import Derived.Shelf.RegionOpen
import Derived.WalkKit
import Derived.OwnWalkIn
import Derived.TacticsInMore
import Derived.LoopNIn
import Derived.LoopIn
import Derived.Maps.AppendAt
import Derived.Test.YtlhjhdheejdgnaaFQ4
namespace Go.Proofs.Ytlhjhdheejdgnaa
open Go.RowKit Go.Lib Go.Shelf
attribute [local go_sem] Oper.semAt_some
set_option linter.unusedVariables false

/-- The first k things by their places. -/
def placed (L : List ByteArray) (k : Nat) : List (Nat × ByteArray) := (List.range k).map fun j => (j, L[j]?.getD ⟨#[]⟩)
theorem placed_succ (L : List ByteArray) (k : Nat) : placed L (k + 1) = placed L k ++ [(k, L[k]?.getD ⟨#[]⟩)] := by simp [placed, List.range_succ]
theorem placed_length (L : List ByteArray) (k : Nat) : (placed L k).length = k := by simp [placed]
/-- Each thing is at its place. -/
def Good (pre : List (Nat × ByteArray)) : Prop := ∀ (j : Nat) (y : Nat × ByteArray), pre[j]? = some y → y.1 = j
theorem placed_good (L : List ByteArray) (k : Nat) : Good (placed L k) := by
  intro j y h
  simp only [placed, List.getElem?_map, Option.map_eq_some_iff] at h
  obtain ⟨a, ha, rfl⟩ := h
  obtain ⟨hj, he⟩ := List.getElem?_eq_some_iff.1 ha
  simp at he
  exact he.symm
theorem placed_all (L : List ByteArray) : (placed L L.length).map (·.2) = L := by
  apply List.ext_getElem
  · simp [placed]
  · intro i h1 h2
    simp [placed, h2]
theorem Good.snoc {pre : List (Nat × ByteArray)} (h : Good pre) (s : ByteArray) : Good (pre ++ [(pre.length, s)]) := by
  intro j y hy
  by_cases hj : j < pre.length
  · rw [List.getElem?_append_left hj] at hy
    exact h j y hy
  · rw [List.getElem?_append_right (by omega)] at hy
    have : j - pre.length = 0 := by
      rcases Nat.eq_zero_or_pos (j - pre.length) with h0 | h0
      · exact h0
      · rw [List.getElem?_eq_none (by simp; omega)] at hy
        cases hy
    rw [this] at hy
    simp at hy
    rw [← hy]
    show pre.length = j
    omega
theorem Good.bad {pre : List (Nat × ByteArray)} {x : Nat × ByteArray} (h : x.1 ≠ pre.length) : ¬ Good (pre ++ [x]) := by
  intro hg
  apply h
  exact hg pre.length x (by simp)

set_option maxRecDepth 100000 in
set_option maxHeartbeats 2000000 in
theorem fall1_in (n : Nat) (hn : 1 ≤ n) (l Bs n₀ b lim dr : Nat) (v : Value) (L : List ByteArray) (hL : L.length ≤ 100000) (J Jx : List (Nat × ByteArray) → World → Prop)
    (hY : ∀ pre x W, J pre W → pre.length < L.length → YieldAt Fence.wide (n - 1) Try.prog l #[.int .i64 (x.1 : Int), .string x.2] W fun e W' =>
      (e = .returned (.bool true) ∧ J (pre ++ [x]) W' ∧ Below n₀ W W') ∨ (e = .returned (.bool false) ∧ Jx (pre ++ [x]) W'))
    (W : World) (hBs : W.cell? ⟨Bs, 0, none⟩ = some (.pointer (some ⟨b, 0, none⟩))) (hQ : Que W b 51 v (L.map .string) lim dr) (hlt : ∀ i, OwnQ b v i → i < n₀) (h0 : J [] W) :
    CallsIn Fence.wide n Try.prog 41 #[.func (.yield l) #[] #[], .pointer (some ⟨Bs, 0, none⟩)] W fun e W' => (∃ v, e = .returned v) ∧
      ((∃ ys, ys = placed L L.length ∧ J ys W') ∨ (∃ pre, (∃ k, k ≤ L.length ∧ pre = placed L k) ∧ Jx pre W')) := by
  have c0 : W.cell? ⟨b, 0, none⟩ = some v := hQ.1.cell 0
  obtain ⟨A, c, rfl⟩ := hQ.2.1.form
  rw [List.length_map] at c0
  have hrow := hQ.2.1
  rw [List.length_map] at hrow hlt
  refine callsIn_of_wp Try.func41 rfl trivial ?_ rfl
  simp only [Try.ntmps41, List.size_toArray, List.length_cons, List.length_nil, Nat.reduceAdd, Nat.reduceSub, Array.replicate_succ, Array.replicate_zero, List.push_toArray, List.append_toArray, List.nil_append, List.cons_append]
  gi_wp2
  gi_loopw [12] (fun i wr => ∃ k : Nat, k ≤ L.length ∧ i = .int .i64 k ∧ J (placed L k) wr ∧ Below n₀ W wr)
    (fun i _ => L.length - (intOf i).toNat)
  case atStart => exact ⟨0, Nat.zero_le _, rfl, h0, Below.refl _ _⟩
  case round =>
    obtain ⟨k, hk, rfl, hJs, hnx⟩ := hrel
    by_cases hkl : k < L.length
    · obtain ⟨fn, tmps, assign, body, hy, hR⟩ := hY _ (k, L[k]?.getD ⟨#[]⟩) wr hJs (by rw [placed_length]; exact hkl)
      have hcx : ∃ g off, A = some ⟨g, off, none⟩ ∧ wr.cell? ⟨g, off + k, none⟩ = some (.string (L[k]?.getD ⟨#[]⟩)) := by
        rcases hrow with ⟨_, hn2⟩ | ⟨g, off, cap, hv, _, _, _, _, h6⟩
        · simp at hn2
          rw [hn2] at hkl
          simp at hkl
        · injection hv with hv1 hv2 hv3
          have := h6 k (by simpa using hkl)
          refine ⟨g, off, hv1, ?_⟩
          rw [hnx.cell (p := ⟨g, off + k, none⟩) (hlt g (.inr (by rw [hv1]; rfl))), this]
          simp [hkl]
      obtain ⟨g, off, rfl, hcx⟩ := hcx
      obtain ⟨s, hs⟩ : ∃ s, s = L[k]?.getD ⟨#[]⟩ := ⟨_, rfl⟩
      dsimp only at hy
      rw [← hs] at hy hcx hR
      have hk' : (k : Int) < (L.length : Int) := by omega
      have HS := Lib.hid hs
      have HC0 := Lib.hid c0
      clear hs c0
      gi_wp2
      refine hR.mono ?_
      rintro e W3 (⟨rfl, hJ3, hk3⟩ | ⟨rfl, hJx3⟩)
      · gi_wp2
        go_roundw
        case rel => exact ⟨k + 1, by omega, by simp, by rw [placed_succ, ← HS.out]; exact hJ3, hnx.trans hk3⟩
        case measure => simp [intOf]; omega
      · gi_wp2
        refine bodyPost_ret (results_none rfl _ _ _) rfl ?_
        exact ⟨⟨_, rfl⟩, .inr ⟨_, ⟨k + 1, by omega, by rw [placed_succ, ← HS.out]⟩, hJx3⟩⟩
    · obtain rfl : k = L.length := by omega
      gi_wp2
      go_end0
      exact ⟨⟨_, rfl⟩, .inl ⟨_, rfl, hJs⟩⟩

set_option maxHeartbeats 1000000 in
theorem fall_in (n : Nat) (p : Option Addr) (w : World) :
    CallsIn Fence.wide n Try.prog 30 #[.pointer p] w fun e w' => e = .returned (.func (.func 41) #[] #[.pointer (some ⟨w.heap.size, 0, none⟩)]) ∧ w' = w.alloc (.cells #[.pointer p] 23) := by
  refine callsIn_of_wp Try.func30 rfl trivial ?_ rfl
  simp only [Try.ntmps30, List.size_toArray, List.length_cons, List.length_nil, Nat.reduceAdd, Nat.reduceSub, Array.replicate_succ, Array.replicate_zero, List.push_toArray, List.append_toArray, List.nil_append, List.cons_append]
  gi_wp2
  go_ret
  exact ⟨rfl, rfl⟩

theorem fall_stops (n : Nat) (hn : 1 ≤ n) (Bs n₀ b lim dr : Nat) (v : Value) (L : List ByteArray) (hL : L.length ≤ 100000) (w : World) (hBs : Bs < w.heap.size) (hn₀ : n₀ ≤ w.heap.size)
    (hc : w.cell? ⟨Bs, 0, none⟩ = some (.pointer (some ⟨b, 0, none⟩))) (hQ : Que w b 51 v (L.map .string) lim dr) (hlt : ∀ i, OwnQ b v i → i < n₀) :
    SeqStopsK Fence.wide n Try.prog 41 #[.pointer (some ⟨Bs, 0, none⟩)] (fun x : Nat × ByteArray => #[Value.int .i64 (x.1 : Int), Value.string x.2]) (Below n₀) (fun ys => ys = placed L L.length)
      (fun pre => ∃ k, k ≤ L.length ∧ pre = placed L k) L.length w := fun l J Jx W hW _ _ hY h0 =>
  fall1_in n hn l Bs n₀ b lim dr v L hL J Jx hY W ((hW.cell (p := ⟨Bs, 0, none⟩) hBs).trans hc) (hQ.keeps (Keeps.of_below hW (fun _ => False)) (fun _ _ h => h)) hlt h0
end Go.Proofs.Ytlhjhdheejdgnaa
