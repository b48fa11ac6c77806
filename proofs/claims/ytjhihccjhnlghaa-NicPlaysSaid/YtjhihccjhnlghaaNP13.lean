/- ports of the laws on devices for the net: the first 8 ports, for both: its contract. -/
import Derived.Test.YtjhihccjhnlghaaNP12
import Derived.Deep.AppendLies
import Derived.Deep.RegionLaw
namespace Go.Proofs.Ytjhihccjhnlghaa
open Go.RowKit Go.Lib
set_option linter.unusedVariables false

/-- A port of the document before anything came. -/
def frp (d : Nat → I3) (i : Nat) : Rp := ((d i).1, (d i).2.1, (d i).2.2, .slice none 0 0, 0)
theorem frp_eq {d : Nat → I3} {i : Nat} {p q s : Int} (h : d i = (p, q, s)) : rpL (frp d i) = [.int .i64 p, .int .i64 q, .int .i64 s, .slice none 0 0, .int .i64 0] := by rw [frp, h]; rfl
/-- What ports answers. -/
def PortsR (A : Option Addr) (n cap : Nat) (d : Nat → I3) (w : World) (e : Ending) (w' : World) : Prop :=
  ∃ A2 c2, e = .returned (.tuple #[.slice A n cap, .slice A2 n c2]) ∧ OwnRP w' w.heap.size (.slice A2 n c2) n (frp d) ∧ Below w.heap.size w w'
set_option maxRecDepth 20000 in
set_option maxHeartbeats 3200000 in
theorem ports_any (A : Option Addr) (len cap : Nat) (d : Nat → I3) (w : World) (hst : RowsN w A len cap d) (hlc : len ≤ cap) (hcm : cap ≤ 9223372036854775807) :
    Calls Try.prog 7 #[.slice A len cap] w (PortsR A (min len 8) cap d w) := by
  obtain ⟨i0, hi0, hz0, hz1, hz2⟩ := info_parts rport_info
  have key : ∃ n, min len 8 = n ∧ n ≤ 8 ∧ n ≤ len ∧ ((len = n) ∨ (n = 8 ∧ 8 < len)) := ⟨min len 8, rfl, by omega, by omega, by omega⟩
  obtain ⟨n, hn, hn8, hnl, hc⟩ := key
  rw [hn]
  have HST := Lib.hid (fun (W : World) (hb : Below w.heap.size w W) => (hst.cut n hnl).below hb)
  clear hst hn
  obtain ⟨N, hN⟩ : ∃ N, N = n := ⟨n, rfl⟩
  have HN := Lib.hid hN
  have hN8 : N ≤ 8 := by omega
  clear hN
  rcases hc with rfl | ⟨rfl, h8⟩
  all_goals
    first
      | (have j1 : ((8 : Nat) : Int) ≤ (cap : Int) := by omega)
      | (have j1 : (len : Int) ≤ (cap : Int) := by omega)
    go_enter Try.func7, Try.ntmps7
    go_wp2
    go_loopw [4, 5] (fun x y wr => ∃ (i : Nat), y = .int .i64 i ∧ i ≤ N ∧ Hid (OwnRP wr w.heap.size x i (frp d)) ∧ Hid (Below w.heap.size w wr)) (fun _ y _ => 8 - (intOf y).toNat)
    case atStart => exact ⟨0, rfl, Nat.zero_le _, Lib.hid (World.ownsRow_made w #[] 0 (Nat.le_refl _) (by unfold maxLen; omega) rfl), Lib.hid ((Below.refl _ _).alloc (Nat.le_refl _) _)⟩
    case round =>
      obtain ⟨i, rfl, hin, HO, HB⟩ := hrel
      obtain ⟨A2, c2, rfl⟩ := own_form HO.out
      by_cases hi : i < N
      · obtain ⟨b9, off, rfl, hb9, hcells⟩ := (HST.out wr HB.out).2 (by have := HN.out; omega)
        obtain ⟨c0, c1, c2'⟩ := hcells i (by have := HN.out; omega)
        generalize hx : d i = x at c0 c1 c2'
        obtain ⟨p, q, s⟩ := x
        have HX := Lib.hid (frp_eq hx)
        simp only at c0 c1 c2'
        have i1 : (i : Int) < (len : Int) := by have := HN.out; omega
        have i2 : (i : Int) < ((8 : Nat) : Int) := by have := HN.out; omega
        clear hcells hx
        have hnews : ∀ j u, [Value.int .i64 p, .int .i64 q, .int .i64 s, .slice none 0 0, .int .i64 0][j]? = some u → (wr.alloc (.cells #[.int .i64 p, .int .i64 q, .int .i64 s, .slice none 0 0, .int .i64 0] 52)).drew.cell? ((⟨wr.heap.size, 0, none⟩ : Addr).add j) = some u :=
          World.news_of_block (cs := #[.int .i64 p, .int .i64 q, .int .i64 s, .slice none 0 0, .int .i64 0]) (show (wr.alloc (.cells #[.int .i64 p, .int .i64 q, .int .i64 s, .slice none 0 0, .int .i64 0] 52)).drew.heap[wr.heap.size]? = some (.cells #[.int .i64 p, .int .i64 q, .int .i64 s, .slice none 0 0, .int .i64 0] 52 (0, 0)) from Blk.new wr _ _)
        have HNEWS := Lib.hid hnews
        have HONE := Lib.hid (show ∀ u ∈ [Value.int .i64 p, .int .i64 q, .int .i64 s, .slice none 0 0, .int .i64 0], u.oneCell' = true by intro u hu; simp at hu; rcases hu with rfl | rfl | rfl | rfl | rfl <;> rfl)
        clear hnews
        go_wp2
        go_region_law (refine step_append_lies _ rfl (.tmp 18) (.tmp 35) 24 rfl w.heap.size 52 i0 _ 5 56 Try.underlying24 hi0 hz0 hz1 hz2 rfl (by decide) (.slice A2 i c2) i (rpCells i (frp d)) (by simp [Act.eval, Act.put]) (World.ownsRow.alloc (w := wr.drew) HO.out _) ⟨wr.heap.size, 0, none⟩ 1 1 [.int .i64 p, .int .i64 q, .int .i64 s, .slice none 0 0, .int .i64 0] (by simp [Act.eval, Act.put]) rfl HNEWS.out HONE.out (by omega) (by unfold maxLen; omega) (by omega) (by have := HB.out.size; simp; omega) _ rfl ?_; intro g' cap' w3 hown3 hg3 hat3 hlt3; have O3 : Hid (OwnRP w3 w.heap.size (.slice (some ⟨g', 0, none⟩) (i + 1) cap') (i + 1) (frp d)) := Lib.hid (show w3.ownsRow _ _ _ _ _ _ from by rw [rpCells_succ, HX.out]; exact hown3); have B3 := Lib.hid ((below_drewN (HB.out.alloc HB.out.size (.cells #[.int .i64 p, .int .i64 q, .int .i64 s, .slice none 0 0, .int .i64 0] 52)) 1).trans (below_of_only hg3 (by have := HB.out.size; simp; omega) (fun k hk => (World.ownsRow.lt HO.out k hk).1))); clear hown3 hg3 hat3)
        all_goals
          go_wp2
          go_roundw
          case rel => exact ⟨i + 1, by go_num, by omega, O3, B3⟩
          case measure => simp [intOf] <;> omega
      · obtain rfl : i = N := by omega
        first
          | (have i1 : ¬ (i : Int) < ((8 : Nat) : Int) := by have := HN.out; omega)
          | (have i1 : ¬ (i : Int) < (len : Int) := by have := HN.out; omega)
        have e9 := HN.out
        go_wp2
        go_ret2
        subst e9
        exact ⟨_, _, rfl, HO.out, HB.out⟩
end Go.Proofs.Ytjhihccjhnlghaa
