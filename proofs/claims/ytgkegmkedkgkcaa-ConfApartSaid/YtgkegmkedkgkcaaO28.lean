/- Each client's memory, by the contract of Regions. -/
import Derived.Test.YtgkegmkedkgkcaaO24
import Derived.Test.YtgkegmkedkgkcaaNQ0
namespace Go.Proofs.Ytgkegmkedkgkcaa
open Go.RowKit Go.Lib Go.Sort
set_option linter.unusedVariables false

/-- The cells of the clients' memories. -/
def rgC (d : Nat → Cl) (n : Nat) : List Value := (List.range n).flatMap fun (i : Nat) => [.int .i64 ((i : Int) + 1), .int .i64 (d i).base, .int .i64 (d i).size]
theorem rgC_succ (d : Nat → Cl) (n : Nat) : rgC d (n + 1) = rgC d n ++ [.int .i64 ((n : Int) + 1), .int .i64 (d n).base, .int .i64 (d n).size] := by
  simp [rgC, List.range_succ, List.flatMap_append]
theorem rgC_len (d : Nat → Cl) (n : Nat) : (rgC d n).length = n * 3 := flat_len _ 3 (fun i => rfl) n
theorem rgC_one (d : Nat → Cl) (n : Nat) : ∀ u ∈ rgC d n, u.oneCell' = true := by
  intro u hu
  simp only [rgC, List.mem_flatMap] at hu
  obtain ⟨i, _, h⟩ := hu
  simp at h
  rcases h with rfl | rfl | rfl <;> rfl
theorem region_info : (Try.prog.info? 41).map (fun i => (i.zero, i.size, i.bytes)) = some (some (.agg #[.int .i64 0, .int .i64 0, .int .i64 0]), 3, 24) := by kernel_rfl
/-- The memories so far. -/
def RgS (w : World) (c : Cf) (s : Value) (wr : World) (i : Nat) : Prop := RowZ 3 wr s i (rgC c.cd i) ∧ (∀ k, s.ownBlock = some k → w.heap.size < k) ∧ Below w.heap.size w wr ∧ w.heap.size < wr.heap.size
/-- What Regions answers. -/
def RegionsV (c : Cf) (w : World) (e : Ending) (w' : World) : Prop := ∃ A k, e = .returned (.slice A c.cn k) ∧ RowZ 3 w' (.slice A c.cn k) c.cn (rgC c.cd c.cn) ∧ (∀ q, (Value.slice A c.cn k).ownBlock = some q → w.heap.size < q) ∧ Below w.heap.size w w'
theorem rg_push {w wr w2 : World} {c : Cf} {va : Option Addr} {vc g i : Nat} (h : RgS w c (.slice va i vc) wr i) (hi : i ≤ 100000) (g2 : wr.grownBy w2 none) (hb : Blk w2 g 41 #[.int .i64 ((i : Int) + 1), .int .i64 (c.cd i).base, .int .i64 (c.cd i).size]) :
    ∃ v' w', (Builtin.append_ #[38, 38] 38 #[.slice va i vc, .slice (some ⟨g, 0, none⟩) 1 1]).run Try.prog w2 = .ok v' w' ∧ RgS w c v' w' (i + 1) := by
  obtain ⟨hrow, hown, hbel, hlt⟩ := h
  obtain ⟨i0, hi0, hz0, hz1, hz2⟩ := info_parts region_info
  have hsrc : Src Try.prog 3 38 (.slice (some ⟨g, 0, none⟩) 1 1) 1 [.int .i64 ((i : Int) + 1), .int .i64 (c.cd i).base, .int .i64 (c.cd i).size] w2 := Src.ofSlice _ Try.underlying38 _ _ _ _ rfl (fun j u hu => by
    rw [addr_at, Nat.zero_add, hb.cell j]
    simpa using hu) (by simp [Value.oneCell'])
  obtain ⟨v', w', hk, hr3, hg', ho⟩ := run_pushZ (P := Try.prog) w2 38 41 38 i0 _ 24 Try.underlying38 hi0 hz0 hz1 hz2 (by omega) rfl _ _ _ (hrow.grown g2) (rgC_one _ _) _ _ hsrc (by omega)
  have hs2 := g2.size
  have hs1 := hbel.size
  have hs3 := hg'.size
  have hbel2 := hbel.trans (below_of_only g2 hs1 (by simp))
  refine ⟨v', w', hk, ?_, fun k hk => ?_, hbel2.trans (below_of_only hg' hbel2.size (fun k hk => ?_)), by omega⟩
  · rw [rgC_succ]
    exact hr3
  · rcases ho with ho | ho
    · exact hown k (ho ▸ hk)
    · rw [ho] at hk
      injection hk with hk
      omega
  · have := hown k hk
    omega
set_option maxRecDepth 20000 in
set_option maxHeartbeats 1600000 in
theorem regions_any (c : Cf) (w : World) (hc : CfV w c) (hn : c.cn ≤ 1000) : Calls Try.prog 8 #[cfv c] w (RegionsV c w) := by
  obtain ⟨W1, hW, G0, hA⟩ := box1 w 26 #[.int .i64 c.fr, .slice c.wA c.wn c.wc, .slice c.sA c.sn c.sc, .slice c.cA c.cn c.cc]
  obtain ⟨k0, k1, k2, k3⟩ := cf_cells (c := c) hA
  have hz : W1.heap.size = w.heap.size + 1 := by rw [hW]; simp
  have HR := Lib.hid hc.2.2
  have R0 : Hid (RgS w c (.slice none 0 0) W1 0) := Lib.hid ⟨RowZ.nil 3 W1, fun k hk => by simp [Value.ownBlock] at hk, below_of_only G0 (Nat.le_refl _) (by simp), by omega⟩
  have HFIN := Lib.hid (show ∀ s w', RgS w c s w' c.cn → RegionsV c w (.returned s) w' from fun s w' h => by
    obtain ⟨h1, h2, h3, h4⟩ := h
    obtain ⟨A, k, rfl⟩ := h1.form
    exact ⟨A, k, rfl, h1, h2, h3⟩)
  show Calls Try.prog 8 #[.agg #[.int .i64 c.fr, .slice c.wA c.wn c.wc, .slice c.sA c.sn c.sc, .slice c.cA c.cn c.cc]] w _
  clear hc hA hz G0
  generalize c.cA = Ac at HR k3 hW ⊢
  go_enter Try.func8, Try.ntmps8
  go_upto_region 1 with (fail)
  rw [← hW]
  clear hW
  go_wp2
  clear k0 k1 k2 k3
  go_loopw [3, 9] (fun s y wr => ∃ i : Nat, y = .int .i64 i ∧ i ≤ c.cn ∧ Hid (RgS w c s wr i)) (fun s y _ => c.cn - (intOf y).toNat)
  case atStart => exact ⟨0, rfl, by omega, R0⟩
  case round =>
    obtain ⟨i, rfl, hi, HN⟩ := hrel
    by_cases hin : i < c.cn
    · have i1 : (i : Int) < (c.cn : Int) := by omega
      have i0 : (0 : Int) ≤ (i : Int) := by omega
      have i255 : i < 1000 := by omega
      have hw1 : IntKind.i64.wrap ((i : Int) + 1) = (i : Int) + 1 := by rw [IntKind.wrap_i64]; omega
      obtain ⟨b', off, hA, hb', hcl⟩ := (HR.out.grown (only_of_below HN.out.2.2.1)).2 (by omega)
      obtain ⟨c0, c1, c2, c3, c4, c5, c6, c7, c8, c9⟩ := hcl i hin
      obtain ⟨va, vc, rfl⟩ := HN.out.1.form
      obtain ⟨v', w', hk, hns⟩ := rg_push HN.out (by omega) (w2 := (wr.alloc (.cells (clA (c.cd i)) 43)).alloc (.cells #[.int .i64 ((i : Int) + 1), .int .i64 (c.cd i).base, .int .i64 (c.cd i).size] 41)) (g := wr.heap.size + 1) (only_alloc (only_alloc (only_refl _ _) _) _) (by have := Blk.new (wr.alloc (.cells (clA (c.cd i)) 43)) 41 #[.int .i64 ((i : Int) + 1), .int .i64 (c.cd i).base, .int .i64 (c.cd i).size]; simpa using this)
      have HK := Lib.hid hk
      have NS2 := Lib.hid hns
      clear hk hns hcl HN
      subst hA
      obtain ⟨x, hx⟩ : ∃ x, x = c.cd i := ⟨_, rfl⟩
      rw [← hx] at c0 c1 c2 c3 c4 c5 c6 c7 c8 c9 HK
      replace hx := Lib.hid hx
      obtain ⟨x0, x1, x2, x3, x4, x5, x6, x7, x8, x9⟩ := x
      simp only at c0 c1 c2 c3 c4 c5 c6 c7 c8 c9
      replace HK := Lib.hid (show (Builtin.append_ #[38, 38] 38 #[.slice va i vc, .slice (some ⟨wr.heap.size + 1, 0, none⟩) 1 1]).run Try.prog ((wr.alloc (.cells #[.int .i64 x0, .int .i64 x1, .int .i64 x2, .int .i64 x3, .int .i64 x4, .int .i64 x5, .int .i64 x6, .int .i64 x7, .int .i64 x8, .int .i64 x9] 43)).alloc (.cells #[.int .i64 ((i : Int) + 1), .int .i64 x0, .int .i64 x1] 41)) = .ok v' w' from HK.out)
      go_wp2_with (at_builtin; refine wpList_append_eq rfl (.tmp 14) (.tmp 22) 38 rfl HK.out rfl rfl ?_)
      go_roundw
      case rel => exact ⟨i + 1, by go_num, by omega, NS2⟩
      case measure => simp [intOf] <;> omega
    · obtain rfl : i = c.cn := by omega
      have i1 : ¬ (c.cn : Int) < (c.cn : Int) := by omega
      go_wp2
      go_ret
      exact HFIN.out _ _ HN.out
end Go.Proofs.Ytgkegmkedkgkcaa
