/- The law of moves, walked: tables that are right. -/
import Derived.Test.YtgkegmkedkgkcaaO25
namespace Go.Proofs.Ytgkegmkedkgkcaa
open Go.RowKit Go.Lib Go.Sort
set_option linter.unusedVariables false

/-- The client may stand there, as far as the first n are asked. -/
def FreeTo (c : Cf) (k : Nat) (b : Int) (n : Nat) : Prop := 128 ≤ b ∧ b ≤ 16384 - (c.cd k).size ∧ ∀ j, j < n → j = k ∨ (c.cd j).base + (c.cd j).size ≤ b ∨ b + (c.cd k).size ≤ (c.cd j).base
theorem FreeTo.next {c : Cf} {k n : Nat} {b : Int} (h : FreeTo c k b n) (hn : n = k ∨ (c.cd n).base + (c.cd n).size ≤ b ∨ b + (c.cd k).size ≤ (c.cd n).base) : FreeTo c k b (n + 1) := ⟨h.1, h.2.1, fun j hj => by
  by_cases e : j = n
  · rw [e]; exact hn
  · exact h.2.2 j (by omega)⟩
set_option maxRecDepth 40000 in
set_option maxHeartbeats 3200000 in
theorem moves_right (c : Cf) (i : Nat) (b : Int) (w : World) (hi : i < 256) (hb : fitI b) (hc : CfV w c) (hf : FitCf c) (hr : fltL c = []) : Calls Try.prog 4 #[cfv c, .int .u8 i, .int .i64 b] w fun e w' => e = .returned (.bool true) ∧ w.grownBy w' none := by
  obtain ⟨W1, hW, G0, hA⟩ := box1 w 26 #[.int .i64 c.fr, .slice c.wA c.wn c.wc, .slice c.sA c.sn c.sc, .slice c.cA c.cn c.cc]
  obtain ⟨k0, k1, k2, k3⟩ := cf_cells (c := c) hA
  have HF := Lib.hid (show Calls Try.prog 7 #[.agg #[.int .i64 c.fr, .slice c.wA c.wn c.wc, .slice c.sA c.sn c.sc, .slice c.cA c.cn c.cc]] W1 (RFaultsV c W1) from rfaults_any c W1 (hc.grown G0) hf)
  have HL := Lib.hid (fun W => live15_any W)
  obtain ⟨hfr, hgood, _, _⟩ := (right_iff c).1 hr
  have hfb := frB_iff.1 hfr
  have HN := Lib.hid (show ∀ n : Nat, (n = 0 ↔ frB c = true ∧ NoneB c 11 0) → n = 0 from fun n h => h.2 ((none_flt c).1 hr))
  obtain ⟨k, hk⟩ : ∃ k, k = i % c.cn := ⟨_, rfl⟩
  have hkn : k < c.cn := by rw [hk]; exact Nat.mod_lt _ (by omega)
  have hrem : Int.tmod (i : Int) (c.cn : Int) = (k : Int) := by rw [hk]; rfl
  have HA := Lib.hid (show BoxC W1 w.heap.size c from hA)
  have HMW := Lib.hid (fun (W : World) (g : W1.grownBy W none) => mov_world c W (hc.grown (only_trans G0 g)) hf (by omega) k hkn b hb)
  have HMI := Lib.hid (fun (A : Option Addr) (cap : Nat) => moved_iff c k b A cap hkn hr)
  have HGD := Lib.hid hgood
  have HFI := Lib.hid (show c.cn ≤ 8 ∧ 1 ≤ c.cn from ⟨by omega, by omega⟩)
  have hkg := good_size (hgood k hkn)
  have HKG := Lib.hid hkg
  replace G0 := Lib.hid G0
  show Calls Try.prog 4 #[.agg #[.int .i64 c.fr, .slice c.wA c.wn c.wc, .slice c.sA c.sn c.sc, .slice c.cA c.cn c.cc], .int .u8 i, .int .i64 b] w _
  have hn0 : ¬ (c.cn : Int) = 0 := by omega
  clear hA hc hf hr hfr hgood hfb hk hkg
  go_enter Try.func4, Try.ntmps4
  go_upto_region 1 with (fail)
  rw [← hW]
  clear hW
  go_upto_region 4 with (go_at_call 7; (with_reducible refine HF.out.mono ?_); rintro e w2 ⟨A, n, k', rfl, hn, hn2, g2⟩; have hn3 := HN.out n hn; subst hn3; have G2 := Lib.hid g2; replace HA := Lib.hid (HA.out.only g2 (by simp)); clear g2 hn hn2 k0 k1 k2 k3; obtain ⟨k0, k1, k2, k3⟩ := cf_cells HA.out)
  obtain ⟨g, off, cap, w5, hk5, ⟨a3, z3⟩, hcap, hs3, hsg, h6⟩ := HMW.out w2 G2.out
  have b3 := hs3 (.slice (some ⟨g, off, none⟩) c.cn cap)
  obtain ⟨bg, zg⟩ := hsg (.slice (some ⟨g, off, none⟩) c.cn cap)
  obtain ⟨W6, hW6⟩ : ∃ W6, W6 = (w5.setCell ⟨w2.heap.size, 3, none⟩ (.slice (some ⟨g, off, none⟩) c.cn cap)).setCell ⟨g, off + k * 10, none⟩ (.int .i64 b) := ⟨_, rfl⟩
  obtain ⟨hcf6, hfit6, hbox6, hg6⟩ := h6 W6 hW6
  have HK5 := Lib.hid hk5
  have HG6 := Lib.hid (only_trans G0.out (only_trans G2.out hg6))
  have HB6 := Lib.hid hbox6
  have HR6 := Lib.hid hcf6.2.2
  have HCK := Lib.hid (fun (W : World) (g' : W6.grownBy W none) (f : Bool) (hf' : f = true ↔ FreeP c k b) => (show Calls Try.prog 5 #[.agg #[.int .i64 c.fr, .slice c.wA c.wn c.wc, .slice c.sA c.sn c.sc, .slice (some ⟨g, off, none⟩) c.cn cap]] W (fun e w' => e = .returned (.bool f) ∧ W.grownBy w' none) from by
    have := check_any (movC c k b (some ⟨g, off, none⟩) cap) W (hcf6.grown g') hfit6
    have e : decide (fltL (movC c k b (some ⟨g, off, none⟩) cap) = []) = f := by
      rw [Bool.eq_iff_iff, decide_eq_true_iff, HMI.out, hf']
    rw [e] at this
    exact this))
  obtain ⟨n0, n1, n2, n3⟩ := cf_cells hbox6
  simp only [movC] at n0 n1 n2 n3
  have hrow6 := hcf6.2.2.2 (show 0 < c.cn by omega)
  obtain ⟨g', off', e', hgl, hcl⟩ := hrow6
  simp only [movC] at e'
  injection e' with e'
  injection e' with e1 e2
  subst e1 e2
  have hck := hcl k hkn
  have hk1 : W6.cell? ⟨g, off + k * 10 + 1, none⟩ = some (.int .i64 (c.cd k).size) := by
    have := hck.2.1
    rw [mov_at] at this
    exact this
  have i0 : (0 : Int) ≤ (k : Int) := by omega
  have i1 : (k : Int) < (c.cn : Int) := by omega
  have hw1 : IntKind.i64.wrap (16384 - (c.cd k).size) = 16384 - (c.cd k).size := by have := HKG.out; rw [IntKind.wrap_i64]; omega
  clear hk5 hs3 hsg h6 hcf6 hfit6 hbox6 hcl hck hgl HMW HMI HN
  generalize hz : (c.cd k).size = z at hk1 hw1
  have HZ := Lib.hid hz
  clear hz
  have HST : ∃ f0 : Bool, f0 = decide (128 ≤ b ∧ b ≤ 16384 - z) := ⟨_, rfl⟩
  obtain ⟨f0, hf0⟩ := HST
  have HFZ := Lib.hid hf0
  clear hf0
  have a4 : ((w2.alloc (.cells #[.int .i64 c.fr, .slice c.wA c.wn c.wc, .slice c.sA c.sn c.sc, .slice c.cA c.cn c.cc] 26)).alloc (.cells #[] 43)).cell? ⟨w.heap.size, 3, none⟩ = some (.slice c.cA c.cn c.cc) := ((HA.out.alloc _).alloc _).cell 3
  go_upto_region 7 with (at_builtin; refine wpList_append_eq rfl (.tmp 30) (.tmp 32) 24 rfl HK5.out rfl rfl ?_)
  rw [← hW6]
  clear hW6 a4 b3 a3 z3 bg zg k0 k1 k2 k3
  go_cut [9] from 41 to 53 (fun s wx => s = .bool f0 ∧ wx = W6)
  case first =>
    by_cases h1 : 128 ≤ b
    · by_cases h2 : b ≤ 16384 - z
      · go_wp2_with (fail)
        go_meet
        case rel => exact ⟨by rw [HFZ.out, decide_eq_true ⟨h1, h2⟩], rfl⟩
      · go_wp2_with (fail)
        go_meet
        case rel => exact ⟨by rw [HFZ.out, decide_eq_false (by omega)], rfl⟩
    · go_wp2_with (fail)
      go_meet
      case rel => exact ⟨by rw [HFZ.out, decide_eq_false (by omega)], rfl⟩
  case rest =>
    obtain ⟨rfl, hwc⟩ := hcut
    rw [hwc]
    clear hwc
    clear n0 n1 n2 n3 hk1
    have HST1 := Lib.hid (show f0 = true → FreeTo c k b 0 from fun e => by
      rw [HFZ.out, decide_eq_true_iff, ← HZ.out] at e
      exact ⟨e.1, e.2, fun j hj => by omega⟩)
    have HST2 := Lib.hid (show f0 = false → ¬ FreeP c k b from fun e f => by
      rw [HFZ.out, decide_eq_false_iff_not, ← HZ.out] at e
      exact e ⟨f.1, f.2.1⟩)
    clear hw1
    go_wp2
    go_loopw [9, 10] (fun s x wr => ∃ (f : Bool) (j : Nat), s = .bool f ∧ x = .int .i64 j ∧ j ≤ c.cn ∧ Hid (f = true → FreeTo c k b j) ∧ Hid (f = false → ¬ FreeP c k b) ∧ Hid (BoxC wr w2.heap.size (movC c k b (some ⟨g, off, none⟩) cap)) ∧ Hid (W6.grownBy wr none)) (fun s x _ => c.cn - (intOf x).toNat)
    case atStart => exact ⟨f0, 0, rfl, rfl, by omega, HST1, HST2, HB6, Lib.hid (only_refl _ _)⟩
    case round =>
      obtain ⟨f, j, rfl, rfl, hj, HFT, HNF, HBX, HGX⟩ := hrel
      obtain ⟨k0, k1, k2, k3⟩ := cf_cells HBX.out
      simp only [movC] at k0 k1 k2 k3
      cases f
      · have HDX := HBX
        have HCJ := Lib.hid (fun (W : World) (g : W6.grownBy W none) => HCK.out W g false (⟨fun e => (by cases e), fun h => absurd h (HNF.out rfl)⟩))
        go_wp2_with (first
          | (go_at_call 6; (with_reducible refine (HL.out _).mono ?_); rintro e w7 ⟨rfl, g7⟩; replace HDX := Lib.hid (HDX.out.only g7 (by simp)); replace HGX := Lib.hid (only_trans HGX.out g7); clear g7; (try clear k0 k1 k2 k3); obtain ⟨k0, k1, k2, k3⟩ := cf_cells HDX.out; simp only [movC] at k0 k1 k2 k3)
          | (go_at_call 5; (with_reducible refine (HCJ.out _ HGX.out).mono ?_); rintro e w8 ⟨rfl, g8⟩; replace HGX := Lib.hid (only_trans HGX.out g8); clear g8))
        all_goals
          go_ret
          exact ⟨rfl, only_trans HG6.out HGX.out⟩
      · by_cases hjn : j < c.cn
        · have j1 : (j : Int) < (c.cn : Int) := by omega
          have j0 : (0 : Int) ≤ (j : Int) := by omega
          have hj8 : j < 9 := by have := HFI.out; omega
          obtain ⟨g', off', e', hgl, hcl⟩ := (HR6.out.grown HGX.out).2 (show 0 < c.cn by omega)
          simp only [movC] at e'
          injection e' with e'
          injection e' with e1 e2
          subst e1 e2
          obtain ⟨c0, c1, c2, c3, c4, c5, c6, c7, c8, c9⟩ := hcl j hjn
          obtain ⟨d0, d1, d2, d3, d4, d5, d6, d7, d8, d9⟩ := hcl k hkn
          have hn0 : w2.heap.size < wr.heap.size := HBX.out.lt
          clear hcl
          obtain ⟨sx, hsx⟩ : ∃ sx, sx = (movC c k b (some ⟨g, off, none⟩) cap).cd j := ⟨_, rfl⟩
          obtain ⟨sy, hsy⟩ : ∃ sy, sy = (movC c k b (some ⟨g, off, none⟩) cap).cd k := ⟨_, rfl⟩
          have hft := HFT.out rfl
          have hgj := good_size (HGD.out j hjn)
          have hgk := good_size (HGD.out k hkn)
          have hy : sy.base = b ∧ sy.size = (c.cd k).size := by rw [hsy, mov_at]; exact ⟨rfl, rfl⟩
          have hx : j ≠ k → sx.base = (c.cd j).base ∧ sx.size = (c.cd j).size := fun e => by rw [hsx, mov_off c b _ _ e]; exact ⟨rfl, rfl⟩
          have hxb : 0 ≤ sx.base ∧ sx.base ≤ 20000 ∧ 0 ≤ sx.size ∧ sx.size ≤ 20000 ∧ 0 ≤ sy.base ∧ sy.base ≤ 20000 ∧ 0 ≤ sy.size ∧ sy.size ≤ 20000 := by
            have h1 := hft.1
            have h2 := hft.2.1
            by_cases e : j = k
            · have : sx = sy := by rw [hsx, hsy, e]
              rw [this]
              omega
            · have := hx e
              omega
          have HNX := Lib.hid (show (j = k ∨ sx.base + sx.size ≤ sy.base ∨ sy.base + sy.size ≤ sx.base) → FreeTo c k b (j + 1) from fun h => hft.next (by
            rcases h with h | h
            · exact .inl h
            · by_cases e : j = k
              · exact .inl e
              · have := hx e
                omega))
          have HNO := Lib.hid (show ¬ (j = k ∨ sx.base + sx.size ≤ sy.base ∨ sy.base + sy.size ≤ sx.base) → ¬ FreeP c k b from fun h f => h (by
            rcases f.2.2 j hjn with q | q
            · exact .inl q
            · by_cases e : j = k
              · exact .inl e
              · have := hx e
                omega))
          rw [← hsx] at c0 c1 c2 c3 c4 c5 c6 c7 c8 c9
          rw [← hsy] at d0 d1 d2 d3 d4 d5 d6 d7 d8 d9
          clear hsx hsy hft hgj hgk hy hx
          obtain ⟨x0, x1, x2, x3, x4, x5, x6, x7, x8, x9⟩ := sx
          obtain ⟨y0, y1, y2, y3, y4, y5, y6, y7, y8, y9⟩ := sy
          simp only at c0 c1 c2 c3 c4 c5 c6 c7 c8 c9 d0 d1 d2 d3 d4 d5 d6 d7 d8 d9 hxb HNX HNO
          have w1 : IntKind.i64.wrap (x0 + x1) = x0 + x1 := by rw [IntKind.wrap_i64]; omega
          have w2' : IntKind.i64.wrap (y0 + y1) = y0 + y1 := by rw [IntKind.wrap_i64]; omega
          replace hxb := Lib.hid hxb
          go_upto_region 11 with (fail)
          go_cut [11, 12] from 54 to 96 (fun s t wx => ∃ gx gy : Nat, s = .pointer (some ⟨gx, 0, none⟩) ∧ t = .pointer (some ⟨gy, 0, none⟩) ∧ BoxXY wx gx gy ⟨x0, x1, x2, x3, x4, x5, x6, x7, x8, x9⟩ ⟨y0, y1, y2, y3, y4, y5, y6, y7, y8, y9⟩ ∧ BoxC wx w2.heap.size (movC c k b (some ⟨g, off, none⟩) cap) ∧ W6.grownBy wx none)
          case first =>
            go_region
            · obtain ⟨W2, hW2, XY, g2⟩ := xy_a wr ⟨x0, x1, x2, x3, x4, x5, x6, x7, x8, x9⟩ ⟨y0, y1, y2, y3, y4, y5, y6, y7, y8, y9⟩
              have hW3 : W2 = ((wr.alloc (.cells #[.int .i64 x0, .int .i64 x1, .int .i64 x2, .int .i64 x3, .int .i64 x4, .int .i64 x5, .int .i64 x6, .int .i64 x7, .int .i64 x8, .int .i64 x9] 43)).alloc (.cells #[.int .i64 y0, .int .i64 y1, .int .i64 y2, .int .i64 y3, .int .i64 y4, .int .i64 y5, .int .i64 y6, .int .i64 y7, .int .i64 y8, .int .i64 y9] 43)).drew := hW2
              rw [← hW3]
              clear hW2 hW3 c0 c1 c2 c3 c4 c5 c6 c7 c8 c9 d0 d1 d2 d3 d4 d5 d6 d7 d8 d9 k0 k1 k2 k3
              go_wp2_with (fail)
              go_meet
              case rel => exact ⟨_, _, rfl, rfl, XY, Blk.only HBX.out g2 (by simp), only_trans HGX.out g2⟩
            · obtain ⟨W2, hW2, XY, g2⟩ := xy_b wr ⟨x0, x1, x2, x3, x4, x5, x6, x7, x8, x9⟩ ⟨y0, y1, y2, y3, y4, y5, y6, y7, y8, y9⟩
              have hW3 : W2 = ((wr.alloc (.cells #[.int .i64 y0, .int .i64 y1, .int .i64 y2, .int .i64 y3, .int .i64 y4, .int .i64 y5, .int .i64 y6, .int .i64 y7, .int .i64 y8, .int .i64 y9] 43)).alloc (.cells #[.int .i64 x0, .int .i64 x1, .int .i64 x2, .int .i64 x3, .int .i64 x4, .int .i64 x5, .int .i64 x6, .int .i64 x7, .int .i64 x8, .int .i64 x9] 43)).drew := hW2
              rw [← hW3]
              clear hW2 hW3 c0 c1 c2 c3 c4 c5 c6 c7 c8 c9 d0 d1 d2 d3 d4 d5 d6 d7 d8 d9 k0 k1 k2 k3
              go_wp2_with (fail)
              go_meet
              case rel => exact ⟨_, _, rfl, rfl, XY, Blk.only HBX.out g2 (by simp), only_trans HGX.out g2⟩
          case rest =>
            obtain ⟨gx, gy, rfl, rfl, XY, A5, G5⟩ := hcut
            replace XY := Lib.hid XY
            replace A5 := Lib.hid A5
            replace G5 := Lib.hid G5
            clear c0 c1 c2 c3 c4 c5 c6 c7 c8 c9 d0 d1 d2 d3 d4 d5 d6 d7 d8 d9 k0 k1 k2 k3
            obtain ⟨c0, c1, c2, c3, c4, c5, c6, c7, c8, c9⟩ := cl_cells XY.out.1
            obtain ⟨d0, d1, d2, d3, d4, d5, d6, d7, d8, d9⟩ := cl_cells XY.out.2
            simp only at c0 c1 c2 c3 c4 c5 c6 c7 c8 c9 d0 d1 d2 d3 d4 d5 d6 d7 d8 d9
            by_cases hjk : j = k
            · have HY := Lib.hid (HNX.out (.inl hjk))
              have hjb : ((j : Int) == (k : Int)) = true := by rw [hjk]; simp
              clear hjk
              go_wp2
              go_roundw
              case rel => exact ⟨true, j + 1, rfl, by go_num, by omega, Lib.hid (fun _ => HY.out), Lib.hid (fun e => by cases e), A5, G5⟩
              case measure => simp [intOf] <;> omega
            · have hjb : ((j : Int) == (k : Int)) = false := by
                rw [beq_eq_false_iff_ne]
                omega
              by_cases q1 : x0 + x1 ≤ y0
              · have HY := Lib.hid (HNX.out (.inr (.inl q1)))
                clear hjk
                go_wp2
                go_roundw
                case rel => exact ⟨true, j + 1, rfl, by go_num, by omega, Lib.hid (fun _ => HY.out), Lib.hid (fun e => by cases e), A5, G5⟩
                case measure => simp [intOf] <;> omega
              · by_cases q2 : y0 + y1 ≤ x0
                · have HY := Lib.hid (HNX.out (.inr (.inr q2)))
                  clear hjk
                  go_wp2
                  go_roundw
                  case rel => exact ⟨true, j + 1, rfl, by go_num, by omega, Lib.hid (fun _ => HY.out), Lib.hid (fun e => by cases e), A5, G5⟩
                  case measure => simp [intOf] <;> omega
                · have HY := Lib.hid (HNO.out (fun h => by omega))
                  clear hjk
                  go_wp2
                  go_roundw
                  case rel => exact ⟨false, j + 1, rfl, by go_num, by omega, Lib.hid (fun e => by cases e), Lib.hid (fun _ => HY.out), A5, G5⟩
                  case measure => simp [intOf] <;> omega
        · obtain rfl : j = c.cn := by omega
          have j1 : ¬ (c.cn : Int) < (c.cn : Int) := by omega
          have HFP := Lib.hid (show FreeP c k b from HFT.out rfl)
          have HDX := HBX
          have HCJ := Lib.hid (fun (W : World) (g : W6.grownBy W none) => HCK.out W g true (⟨fun _ => HFP.out, fun _ => rfl⟩))
          go_wp2_with (first
            | (go_at_call 6; (with_reducible refine (HL.out _).mono ?_); rintro e w7 ⟨rfl, g7⟩; replace HDX := Lib.hid (HDX.out.only g7 (by simp)); replace HGX := Lib.hid (only_trans HGX.out g7); clear g7; (try clear k0 k1 k2 k3); obtain ⟨k0, k1, k2, k3⟩ := cf_cells HDX.out; simp only [movC] at k0 k1 k2 k3)
            | (go_at_call 5; (with_reducible refine (HCJ.out _ HGX.out).mono ?_); rintro e w8 ⟨rfl, g8⟩; replace HGX := Lib.hid (only_trans HGX.out g8); clear g8))
          all_goals
            go_ret
            exact ⟨rfl, only_trans HG6.out HGX.out⟩
end Go.Proofs.Ytgkegmkedkgkcaa
