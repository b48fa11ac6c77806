import Derived.Test.YthhodadfiipffaaDoorZ24
import Derived.LoopTactic
import Derived.BigQuiet
set_option linter.all false
/- PartStays walked: a text stands around. -/
namespace Go.Proofs.YthhodadfiipffaaDoor
open Go.RowKit Go.Lib Go.Sort
set_option linter.unusedVariables false
set_option maxRecDepth 20000
attribute [-go_sem] Go.run_neq_struct

set_option maxHeartbeats 12800000 in
theorem Pt.stays_some (s ar : ByteArray) (vl k c : Nat) (A : Option Addr) (d : Nat → Pt.Dd) (w : World) (hN : Nm w) (hd : Pt.DdP w A k d) (hk : k ≤ c) (hc : c ≤ 9223372036854775807) (h1 : s.size ≤ vl) (h2 : vl ≤ 300) (h3 : ar.size ≤ 300) (h0 : 0 < ar.size) : Calls Tryd.prog 4 #[.string s, .int .i64 vl, .string ar, .slice A k c] w fun e w' => e = .returned (.bool true) ∧ Below w.heap.size w w' := by
  have H1 := Lib.hid h1
  have H3 := Lib.hid h3
  have HD := Lib.hid hd
  have HNw := Lib.hid hN
  have HN1 := Lib.hid (Pt.mnew1 w)
  have HPA := Lib.hid (fun W m g L (x : Nat) (h : MemG W w.heap.size m g L) (hL : L.length = 1000) => Pt.put_any W w.heap.size m g L x ar h hL h3)
  have j1 : ¬ (vl : Int) < (s.size : Int) := by omega
  have j2 : ¬ 300 < (vl : Int) := by omega
  have j3 : ¬ 300 < (ar.size : Int) := by omega
  have HKC := Lib.hid hk
  clear hd hN h1 h3 hk
  go_enter Tryd.func4, Tryd.ntmps4
  go_upto_region 4 with (go_at_call 9; (with_reducible refine HN1.out.mono ?_); rintro e w1 ⟨m, g, rfl, hm, g1⟩; have HM := Lib.hid hm; have G1 := Lib.hid g1; clear hm g1)
  clear j1 j2 j3 HN1
  go_wp2
  go_loopw [10] (fun t wr => ∃ x : Nat, t = .int .i64 x ∧ x ≤ 1000 ∧ Hid (∃ L, L.length = 1000 ∧ MemG wr w.heap.size m g L) ∧ Hid (w.grownBy wr none)) (fun t _ => 1000 - (Go.RowKit.intOf t).toNat)
  case atStart => exact ⟨0, rfl, by omega, Lib.hid ⟨_, Cu.z_len 1000, HM.out⟩, G1⟩
  case round =>
    obtain ⟨xa, rfl, hxa, HML, HGL⟩ := hrel
    clear HM G1
    have a1 : 0 < (ar.size : Int) := by omega
    by_cases hfit : xa + ar.size ≤ 1000
    · have a2 : (xa : Int) + (ar.size : Int) ≤ 1000 := by omega
      have a3 : IntKind.i64.wrap ((xa : Int) + (ar.size : Int)) = (xa : Int) + (ar.size : Int) := by rw [IntKind.wrap_i64]; have := H3.out; omega
      obtain ⟨L, hL, hmL⟩ := HML.out
      have HPX := Lib.hid (HPA.out wr m g L xa hmL hL)
      have HLO := Lib.hid hmL.1
      clear hL hmL
      have HX := Lib.hid (show xa + ar.size ≤ 1000 ∧ 0 < ar.size from ⟨hfit, h0⟩)
      go_wp2_with (go_at_call 13; (with_reducible refine HPX.out.mono ?_); rintro e w2 ⟨⟨vz, rfl⟩, hm2, g2⟩; have HM2 := Lib.hid hm2; have G2 := Lib.hid (Cu.grow_none HGL.out g2 HLO.out); clear hm2 g2)
      go_roundw
      case rel => exact ⟨xa + ar.size, by go_num, HX.out.1, HM2, G2⟩
      case measure =>
        have := HX.out
        simp [Go.RowKit.intOf]
        omega
    · have a2 : ¬ (xa : Int) + (ar.size : Int) ≤ 1000 := by omega
      have a3 : IntKind.i64.wrap ((xa : Int) + (ar.size : Int)) = (xa : Int) + (ar.size : Int) := by rw [IntKind.wrap_i64]; have := H3.out; omega
      clear hfit
      obtain ⟨L, hL, hmL⟩ := HML.out
      have HZ := Lib.hid (Pt.zeros wr vl h2)
      obtain ⟨wz, Az, cz, hmk, hcv, gz⟩ := HZ.out
      have GZ := Lib.hid gz
      have hpz := Pt.put_mid wz w.heap.size m g L vl h2 hL (hmL.grown gz)
      have HPZ := Lib.hid hpz
      have HGR := Lib.hid HGL.out
      clear hL hmL gz hpz HZ HML HGL
      go_upto_region 9 with (first | simp only [hmk] | (go_at_call 13; (with_reducible refine HPZ.out.mono ?_); rintro e w3 ⟨⟨vz, rfl⟩, ⟨p, q, hp, hq, hm3⟩, g3⟩; have HM3 := Lib.hid hm3; have HP := Lib.hid hp; have HQ := Lib.hid hq; have G3 := Lib.hid (Cu.grow_none (only_trans HGR.out GZ.out) g3 hm3.1); clear hm3 hp hq g3))
      clear hmk hcv
      have HNA := Lib.hid (Pt.newA w3 w.heap.size m g p q vl s H1.out h2 HP.out HQ.out HM3.out)
      have HLT3 := Lib.hid HM3.out.lt
      go_upto_region 10 with (go_at_call 8; (with_reducible refine HNA.out.mono ?_); rintro e w4 ⟨bp, rfl, hq4, k4, hb4⟩; have Q4 := Lib.hid hq4; have K4 := Lib.hid k4; have B4 := Lib.hid hb4; clear hq4 k4 hb4)
      have HNM := Lib.hid (Pt.mnew3 w4)
      have HNC := Lib.hid (fun W m g (h : MemG W w4.heap.size m g (Cu.z 300)) => Pt.newC W w4.heap.size m g vl s H1.out h2 h)
      go_upto_region 11 with (first
        | (go_at_call 9; (with_reducible refine HNM.out.mono ?_); rintro e w5 ⟨mq, gq, rfl, hm5, g5⟩; have HM5 := Lib.hid hm5; have G5 := Lib.hid g5; clear hm5 g5)
        | (go_at_call 8; (with_reducible refine (HNC.out _ _ _ HM5.out).mono ?_); rintro e w6 ⟨bq, rfl, hq6, k6, hb6⟩; have Q6 := Lib.hid hq6; have K6 := Lib.hid k6; have B6 := Lib.hid hb6; clear hq6 k6 hb6))
      have HFK := Lib.hid (Go.Proofs.YthhodadfiipffaaDoor.fork_any w6 w.heap.size m g _ (((Q4.out.grown G5.out).off K6.out (by have := HM5.out.1; have := Q4.out.lt; omega) (by have := HM5.out.1; have := Q4.out.lt; omega) (by have := HM5.out.1; have := Q4.out.lt; omega))).mem (by have := Q4.out.lim; omega))
      go_upto_region 14 with (go_at_call 14; (with_reducible refine HFK.out.mono ?_); rintro e w7 ⟨mf, gf, rfl, hf7, -, b7⟩; have S0 := Lib.hid (Pt.start HNw.out G3.out Q4.out K4.out B4.out (by have := HLT3.out; omega) ⟨HM5.out.2.1, HM5.out.1⟩ G5.out Q6.out (by have := HM5.out.lt; omega) K6.out B6.out hf7 (Cu.grow_of b7)); clear hf7 b7)
      clear HFK HNA HNM HNC Q4 K4 B4 HM5 G5 Q6 K6 B6 HM3 HPZ
      obtain ⟨mp, hmp⟩ : ∃ mp, mp = m := ⟨_, rfl⟩
      obtain ⟨gp, hgp⟩ : ∃ gp, gp = g := ⟨_, rfl⟩
      subst hmp hgp
      have HDI := Lib.hid (fun W (x : Pt.Sm) (hx : x.v.length = vl) (h : MemV W w.heap.size mf (p ++ (Pt.s0 s vl).v ++ q)) (k : MemV W w.heap.size mp (p ++ x.v ++ q)) => Pt.diff_mid W w.heap.size mp mf vl p q (Pt.s0 s vl).v x.v (Pt.v0_len s vl H1.out) hx HP.out HQ.out h2 h k)
      go_wp2
      go_loopw [16] (fun t wr => ∃ j : Nat, t = .int .i64 j ∧ j ≤ 60 ∧ Hid (j ≤ k) ∧ Hid (∃ x : Pt.Sm, x.v.length = vl ∧ Pt.St w wr bp mp gp bq mq gq mf gf p q (Cu.z (300 - vl)) (Pt.s0 s vl).v x x)) (fun t _ => 60 - (Go.RowKit.intOf t).toNat)
      case atStart => exact ⟨0, rfl, by omega, Lib.hid (Nat.zero_le _), Lib.hid ⟨Pt.s0 s vl, Pt.v0_len s vl H1.out, S0.out⟩⟩
      case round =>
        obtain ⟨j, rfl, hj6, HB, HS⟩ := hrel
        clear S0
        obtain ⟨x, hxl, hst⟩ := HS.out
        have HSX := Lib.hid hst
        have HXL := Lib.hid hxl
        clear hxl hst HS
        by_cases hin : j < k ∧ j < 60
        case pos =>
          obtain ⟨h1, h2⟩ := hin
          obtain ⟨gd, off, rfl, hg, hcs⟩ := HD.out (by omega)
          have hcj := hcs j h1
          obtain ⟨y, hy⟩ : ∃ y, d j = y := ⟨_, rfl⟩
          rw [hy] at hcj
          have HCS := Lib.hid (fun W (g' : w.grownBy W none) => show Pt.DdC W gd (off + j * 6) y from hcj.below hg (Pt.bel g'))
          have HC2 := Lib.hid (fun W (g' : w.grownBy W none) => show (W.cell? ⟨gd, off + j * 6 + 1, none⟩ = some (.int .i64 y.x.t)) ∧ (W.cell? ⟨gd, off + j * 6 + 1 + 4, none⟩ = some (.int .i64 y.x.b)) from ⟨(HCS.out W g').2.1, (HCS.out W g').2.2.2.2.2⟩)
          have HJ := Lib.hid (show j + 1 ≤ k ∧ j + 1 ≤ 60 from ⟨h1, h2⟩)
          have i1 : (j : Int) < (k : Int) := by omega
          have i2 : (j : Int) < 60 := by omega
          have i3 : (0 : Int) ≤ (j : Int) := by omega
          have u1 : IntKind.i64.wrap ((j : Int) + 1) = ((j + 1 : Nat) : Int) := by rw [IntKind.wrap_i64]; omega
          have c0 : wr.cell? ⟨gd, off + j * 6, none⟩ = some (.bool y.o) := (HCS.out _ HSX.out.gr).1
          clear hcj hcs hg hy
          cases ho : y.o
          case true =>
            rw [ho] at c0
            clear ho
            have HL7 := Lib.hid (show (Pt.opn x).v.length = vl from HXL.out)
            go_upto_region 20 with (fail)
            clear c0
            have gdr : wr.grownBy wr.drew none := only_drewN (only_refl _ none) 1
            have HSD := Lib.hid (HSX.out.grown gdr)
            have SC : (wr.drew.cell? ⟨gd, off + j * 6 + 1, none⟩ = some (.int .i64 y.x.t)) ∧ (wr.drew.cell? ⟨gd, off + j * 6 + 1 + 4, none⟩ = some (.int .i64 y.x.b)) := HC2.out _ HSD.out.gr
            refine wp_region_held_drew (S := fun w' => (w'.cell? ⟨gd, off + j * 6 + 1, none⟩ = some (.int .i64 y.x.t)) ∧ (w'.cell? ⟨gd, off + j * 6 + 1 + 4, none⟩ = some (.int .i64 y.x.b))) (by kernel_rfl) SC (fun hHeld => ?_)
            clear gdr
            generalize wr.drew = wd at *
            refine wpAnyH_take (i := 0) (oi := _) (v := ?_) rfl (by kernel_rfl) (by kernel_rfl) (by kernel_rfl) (fun _ _ _ h => h) (Or.inl ⟨by rfl, ?_⟩) (by assumption) ?_
            case refine_2 => intro w hSw; (try dsimp only at hSw); go_simp; (try rw [if_pos h1]); try with_reducible rfl
            try simp only [Act.put, List.setIfInBounds_toArray, List.set_cons_zero, List.set_cons_succ]
            refine wpAnyH_take (i := 1) (oi := _) (v := ?_) rfl (by kernel_rfl) (by kernel_rfl) (by kernel_rfl) (fun _ _ _ h => h) (Or.inl ⟨by rfl, ?_⟩) (by assumption) ?_
            case refine_2 => intro w hSw; (try dsimp only at hSw); go_simp; (try rw [if_pos h1]); try with_reducible rfl
            try simp only [Act.put, List.setIfInBounds_toArray, List.set_cons_zero, List.set_cons_succ]
            refine wpAnyH_take (i := 2) (oi := _) (v := ?_) rfl (by kernel_rfl) (by kernel_rfl) (by kernel_rfl) (fun _ _ _ h => h) (Or.inl ⟨by rfl, ?_⟩) (by assumption) ?_
            case refine_2 => intro w hSw; (try dsimp only at hSw); go_simp; (try rw [if_pos h1]); try with_reducible rfl
            try simp only [Act.put, List.setIfInBounds_toArray, List.set_cons_zero, List.set_cons_succ]
            refine wpAnyH_take (i := 3) (oi := _) (v := ?_) rfl (by kernel_rfl) (by kernel_rfl) (by kernel_rfl) (fun _ _ _ h => h) (Or.inl ⟨by rfl, ?_⟩) (by assumption) ?_
            case refine_2 => intro w hSw; (try dsimp only at hSw); go_simp; (try rw [if_pos h1]); try with_reducible rfl
            try simp only [Act.put, List.setIfInBounds_toArray, List.set_cons_zero, List.set_cons_succ]
            refine wpAnyH_take (i := 4) (oi := _) (v := ?_) rfl (by kernel_rfl) (by kernel_rfl) (by kernel_rfl) (fun _ _ _ h => h) (Or.inl ⟨by rfl, ?_⟩) (by assumption) ?_
            case refine_2 => intro w hSw; (try dsimp only at hSw); go_simp; (try rw [if_pos h1]); try with_reducible rfl
            try simp only [Act.put, List.setIfInBounds_toArray, List.set_cons_zero, List.set_cons_succ]
            refine wpAnyH_take (i := 5) (oi := _) (v := ?_) rfl (by kernel_rfl) (by kernel_rfl) (by kernel_rfl) (fun _ _ _ h => h) (Or.inl ⟨by rfl, ?_⟩) (by assumption) ?_
            case refine_2 => intro w hSw; (try dsimp only at hSw); go_simp; (try rw [if_pos h1]); try with_reducible rfl
            try simp only [Act.put, List.setIfInBounds_toArray, List.set_cons_zero, List.set_cons_succ]
            refine wpAnyH_take (i := 6) (oi := _) (v := ?_) rfl (by kernel_rfl) (by kernel_rfl) (by kernel_rfl) (fun _ _ _ h => h) (Or.inl ⟨by rfl, ?_⟩) (by assumption) ?_
            case refine_2 => intro w hSw; (try dsimp only at hSw); go_simp; (try rw [if_pos h1]); try with_reducible rfl
            try simp only [Act.put, List.setIfInBounds_toArray, List.set_cons_zero, List.set_cons_succ]
            refine wpAnyH_take (i := 7) (oi := _) (v := ?_) rfl (by kernel_rfl) (by kernel_rfl) (by kernel_rfl) (fun _ _ _ h => h) (Or.inl ⟨by rfl, ?_⟩) (by assumption) ?_
            case refine_2 => intro w hSw; (try dsimp only at hSw); go_simp; (try rw [if_pos h1]); try with_reducible rfl
            try simp only [Act.put, List.setIfInBounds_toArray, List.set_cons_zero, List.set_cons_succ]
            refine wpAnyH_take (i := 8) (oi := _) (v := ?_) rfl (by kernel_rfl) (by kernel_rfl) (by kernel_rfl) (fun _ _ _ h => h) (Or.inl ⟨by rfl, ?_⟩) (by assumption) ?_
            case refine_2 => intro w hSw; (try dsimp only at hSw); go_simp; (try rw [if_pos h1]); try with_reducible rfl
            try simp only [Act.put, List.setIfInBounds_toArray, List.set_cons_zero, List.set_cons_succ]
            refine wpAnyH_take (i := 9) (oi := _) (v := ?_) rfl (by kernel_rfl) (by kernel_rfl) (by kernel_rfl) (fun _ _ _ h => h) (Or.inl ⟨by rfl, ?_⟩) (by assumption) ?_
            case refine_2 => intro w hSw; (try dsimp only at hSw); go_simp; (try rw [if_pos h1]); try with_reducible rfl
            try simp only [Act.put, List.setIfInBounds_toArray, List.set_cons_zero, List.set_cons_succ]
            refine wpAnyH_take (i := 10) (oi := _) (v := ?_) rfl (by kernel_rfl) (by kernel_rfl) (by kernel_rfl) (fun _ _ _ h => h) (Or.inl ⟨by rfl, ?_⟩) (by assumption) ?_
            case refine_2 => intro w hSw; (try dsimp only at hSw); go_simp; (try rw [if_pos h1]); try with_reducible rfl
            try simp only [Act.put, List.setIfInBounds_toArray, List.set_cons_zero, List.set_cons_succ]
            refine wpAnyH_take (i := 11) (oi := _) (v := ?_) rfl (by kernel_rfl) (by kernel_rfl) (by kernel_rfl) (fun _ _ _ h => h) (Or.inl ⟨by rfl, ?_⟩) (by assumption) ?_
            case refine_2 => intro w hSw; (try dsimp only at hSw); go_simp; (try rw [if_pos h1]); try with_reducible rfl
            try simp only [Act.put, List.setIfInBounds_toArray, List.set_cons_zero, List.set_cons_succ]
            refine wpAnyH_take (i := 12) (oi := _) (v := ?_) rfl (by kernel_rfl) (by kernel_rfl) (by kernel_rfl) (fun _ _ _ h => h) (Or.inl ⟨by rfl, ?_⟩) (by assumption) ?_
            case refine_2 => intro w hSw; (try dsimp only at hSw); go_simp; (try rw [if_pos h1]); try with_reducible rfl
            try simp only [Act.put, List.setIfInBounds_toArray, List.set_cons_zero, List.set_cons_succ]
            refine wpAnyH_take (i := 14) (oi := _) (v := ?_) rfl (by kernel_rfl) (by kernel_rfl) (by kernel_rfl) (fun _ _ _ h => h) (Or.inl ⟨by rfl, ?_⟩) (by assumption) ?_
            case refine_2 => intro w hSw; (try dsimp only at hSw); go_simp; (try rw [if_pos h1]); try with_reducible rfl
            try simp only [Act.put, List.setIfInBounds_toArray, List.set_cons_zero, List.set_cons_succ]
            refine wpAnyH_take (i := 15) (oi := _) (v := ?_) rfl (by kernel_rfl) (by kernel_rfl) (by kernel_rfl) (fun _ _ _ h => h) (Or.inl ⟨by rfl, ?_⟩) (by assumption) ?_
            case refine_2 => intro w hSw; (try dsimp only at hSw); go_simp; (try rw [if_pos h1]); try with_reducible rfl
            try simp only [Act.put, List.setIfInBounds_toArray, List.set_cons_zero, List.set_cons_succ]
            refine wpAnyH_take (i := 16) (oi := _) (v := ?_) rfl (by kernel_rfl) (by kernel_rfl) (by kernel_rfl) (fun _ _ _ h => h) (Or.inl ⟨by rfl, ?_⟩) (by assumption) ?_
            case refine_2 => intro w hSw; (try dsimp only at hSw); go_simp; (try rw [if_pos h1]); try with_reducible rfl
            try simp only [Act.put, List.setIfInBounds_toArray, List.set_cons_zero, List.set_cons_succ]
            refine wpAnyH_take (i := 17) (oi := _) (v := ?_) rfl (by kernel_rfl) (by kernel_rfl) (by kernel_rfl) (fun _ _ _ h => h) (Or.inl ⟨by rfl, ?_⟩) (by assumption) ?_
            case refine_2 => intro w hSw; (try dsimp only at hSw); go_simp; (try rw [if_pos h1]); try with_reducible rfl
            try simp only [Act.put, List.setIfInBounds_toArray, List.set_cons_zero, List.set_cons_succ]
            refine wpAnyH_take (i := 18) (oi := _) (v := ?_) rfl (by kernel_rfl) (by kernel_rfl) (by kernel_rfl) (fun _ _ _ h => h) (Or.inl ⟨by rfl, ?_⟩) (by assumption) ?_
            case refine_2 => intro w hSw; (try dsimp only at hSw); go_simp; (try rw [if_pos h1]); try with_reducible rfl
            try simp only [Act.put, List.setIfInBounds_toArray, List.set_cons_zero, List.set_cons_succ]
            refine wpAnyH_take (i := 19) (oi := _) (v := ?_) rfl (by kernel_rfl) (by kernel_rfl) (by kernel_rfl) (fun _ _ _ h => h) (Or.inl ⟨by rfl, ?_⟩) (by assumption) ?_
            case refine_2 => intro w hSw; (try dsimp only at hSw); go_simp; (try rw [if_pos h1]); try with_reducible rfl
            try simp only [Act.put, List.setIfInBounds_toArray, List.set_cons_zero, List.set_cons_succ]
            refine wpAnyH_take (i := 20) (oi := _) (v := ?_) rfl (by kernel_rfl) (by kernel_rfl) (by kernel_rfl) (fun _ _ _ h => h) (Or.inl ⟨by rfl, ?_⟩) (by assumption) ?_
            case refine_2 => intro w hSw; (try dsimp only at hSw); go_simp; (try rw [if_pos h1]); try with_reducible rfl
            try simp only [Act.put, List.setIfInBounds_toArray, List.set_cons_zero, List.set_cons_succ]
            refine wpAnyH_take (i := 21) (oi := _) (v := ?_) rfl (by kernel_rfl) (by kernel_rfl) (by kernel_rfl) (fun _ _ _ h => h) (Or.inl ⟨by rfl, ?_⟩) (by assumption) ?_
            case refine_2 => intro w hSw; (try dsimp only at hSw); go_simp; (try rw [if_pos h1]); try with_reducible rfl
            try simp only [Act.put, List.setIfInBounds_toArray, List.set_cons_zero, List.set_cons_succ]
            refine wpAnyH_take (i := 22) (oi := _) (v := ?_) rfl (by kernel_rfl) (by kernel_rfl) (by kernel_rfl) (fun _ _ _ h => h) (Or.inl ⟨by rfl, ?_⟩) (by assumption) ?_
            case refine_2 => intro w hSw; (try dsimp only at hSw); go_simp; (try rw [if_pos h1]); try with_reducible rfl
            try simp only [Act.put, List.setIfInBounds_toArray, List.set_cons_zero, List.set_cons_succ]
            refine wpAnyH_take (i := 23) (oi := _) (v := ?_) rfl (by kernel_rfl) (by kernel_rfl) (by kernel_rfl) (fun _ _ _ h => h) (Or.inl ⟨by rfl, ?_⟩) (by assumption) ?_
            case refine_2 => intro w hSw; (try dsimp only at hSw); go_simp; (try rw [if_pos h1]); try with_reducible rfl
            try simp only [Act.put, List.setIfInBounds_toArray, List.set_cons_zero, List.set_cons_succ]
            refine wpAnyH_take (i := 24) (oi := _) (v := ?_) rfl (by kernel_rfl) (by kernel_rfl) (by kernel_rfl) (fun _ _ _ h => h) (Or.inl ⟨by rfl, ?_⟩) (by assumption) ?_
            case refine_2 => intro w hSw; (try dsimp only at hSw); go_simp; (try rw [if_pos h1]); try with_reducible rfl
            try simp only [Act.put, List.setIfInBounds_toArray, List.set_cons_zero, List.set_cons_succ]
            refine wpAnyH_take (i := 25) (oi := _) (v := ?_) rfl (by kernel_rfl) (by kernel_rfl) (by kernel_rfl) (fun _ _ _ h => h) (Or.inl ⟨by rfl, ?_⟩) (by assumption) ?_
            case refine_2 => intro w hSw; (try dsimp only at hSw); go_simp; (try rw [if_pos h1]); try with_reducible rfl
            try simp only [Act.put, List.setIfInBounds_toArray, List.set_cons_zero, List.set_cons_succ]
            refine wpAnyH_take (i := 26) (oi := _) (v := ?_) rfl (by kernel_rfl) (by kernel_rfl) (by kernel_rfl) (fun _ _ _ h => h) (Or.inl ⟨by rfl, ?_⟩) (by assumption) ?_
            case refine_2 => intro w hSw; (try dsimp only at hSw); go_simp; (try rw [if_pos h1]); try with_reducible rfl
            try simp only [Act.put, List.setIfInBounds_toArray, List.set_cons_zero, List.set_cons_succ]
            refine wpAnyH_ready (rs := [13]) (by kernel_rfl) (by simp) ?_
            refine AllReadyH.cons (o := _) rfl (fun K hK => ?_) AllReadyH.nil
            go_simp
            go_at_call 15
            (with_reducible refine (HSD.out.openA y.x.t y.x.b).mono ?_)
            rintro e w2 ⟨v1, rfl, hr1, hs1, ho1⟩
            have R1 := Lib.hid hr1
            have S1 := Lib.hid hs1
            have O1 := Lib.hid (fun i e => show i ≠ bq ∧ i ≠ gq from by have := ho1 i e; have := HSD.out.low; omega)
            clear hr1 hs1 ho1
            have S2 : (w2.cell? ⟨gd, off + j * 6 + 1, none⟩ = some (.int .i64 y.x.t)) ∧ (w2.cell? ⟨gd, off + j * 6 + 1 + 4, none⟩ = some (.int .i64 y.x.b)) := HC2.out _ S1.out.gr
            refine hK.out _ _ (S2) (fun hHeld => ?_)
            clear hK K
            try simp only [Act.put, List.setIfInBounds_toArray, List.set_cons_zero, List.set_cons_succ]
            refine wpAnyH_ready (rs := [27]) (by kernel_rfl) (by simp) ?_
            refine AllReadyH.cons (o := _) rfl (fun K hK => ?_) AllReadyH.nil
            go_simp
            go_at_call 15
            (with_reducible refine (S1.out.openC y.x.t y.x.b R1.out O1.out).mono ?_)
            rintro e w3 ⟨v2, rfl, hr2, hs2, hr3⟩
            have R2 := Lib.hid hr2
            have S3 := Lib.hid hs2
            have R3 := Lib.hid hr3
            clear hr2 hs2 hr3
            have SX3 : (w3.cell? ⟨gd, off + j * 6 + 1, none⟩ = some (.int .i64 y.x.t)) ∧ (w3.cell? ⟨gd, off + j * 6 + 1 + 4, none⟩ = some (.int .i64 y.x.b)) := HC2.out _ S3.out.gr
            refine hK.out _ _ (SX3) (fun hHeld => ?_)
            clear hK K
            try simp only [Act.put, List.setIfInBounds_toArray, List.set_cons_zero, List.set_cons_succ]
            refine wpAnyH_take (i := 28) (oi := ⟨some 17, _, _, _, _, none⟩) (v := ?_) rfl (by kernel_rfl) (by kernel_rfl) (by kernel_rfl) (fun _ _ _ h => h) (Or.inl ⟨by rfl, ?_⟩) (by assumption) ?_
            case refine_2 => intro w hSw; (try dsimp only at hSw); go_simp; try with_reducible rfl
            try simp only [Act.put, List.setIfInBounds_toArray, List.set_cons_zero, List.set_cons_succ]
            refine wpAnyH_take (i := 29) (oi := ⟨some 18, _, _, _, _, none⟩) (v := ?_) rfl (by kernel_rfl) (by kernel_rfl) (by kernel_rfl) (fun _ _ _ h => h) (Or.inl ⟨by rfl, ?_⟩) (by assumption) ?_
            case refine_2 => intro w hSw; (try dsimp only at hSw); go_simp; try with_reducible rfl
            try simp only [Act.put, List.setIfInBounds_toArray, List.set_cons_zero, List.set_cons_succ]
            refine wpAnyH_done (by kernel_rfl) ?_ _
            clear SX3 S2 SC
            obtain ⟨x0, x1, x2, x3, x4, x5, x6, x7, x8, x9, hsv⟩ : ∃ x0 x1 x2 x3 x4 x5 x6 x7 x8 x9, .agg #[.int .i64 x0, .int .i64 x1, .int .i64 x2, .int .i64 x3, .int .i64 x4, .int .i64 x5, .int .i64 x6, .int .i64 x7, .int .i64 x8, .int .i64 x9] = Pt.sv (Pt.opn x) := ⟨_, _, _, _, _, _, _, _, _, _, rfl⟩
            have hq1 : ∀ W, (binOp BinOp.neq 55 (.agg #[.int .i64 x0, .int .i64 x1, .int .i64 x2, .int .i64 x3, .int .i64 x4, .int .i64 x5, .int .i64 x6, .int .i64 x7, .int .i64 x8, .int .i64 x9]) (.agg #[.int .i64 x0, .int .i64 x1, .int .i64 x2, .int .i64 x3, .int .i64 x4, .int .i64 x5, .int .i64 x6, .int .i64 x7, .int .i64 x8, .int .i64 x9])).run Tryd.prog W = .ok (.bool false) W := fun W => by rw [hsv]; exact Pt.neq_sv _ W
            have HSV := Lib.hid hsv
            clear hsv
            go_wp2_with (first
              | (go_at_call 17; (with_reducible refine (Pt.rsame_any _ _ _ _ R3.out R2.out).mono ?_); rintro e w5 ⟨rfl, g5⟩; have S5 := Lib.hid (S3.out.grown g5); clear g5)
              | (go_at_call 18; (with_reducible refine S5.out.svA.mono ?_); rintro e w6 ⟨rfl, hs6⟩; have S6 := Lib.hid hs6; clear hs6; rw [← HSV.out])
              | (go_at_call 18; (with_reducible refine S6.out.svC.mono ?_); rintro e w7 ⟨rfl, hs7⟩; have S7 := Lib.hid hs7; clear hs7; rw [← HSV.out]))
            go_roundw
            case rel => exact ⟨j + 1, by go_num, HJ.out.2, Lib.hid HJ.out.1, Lib.hid ⟨Pt.opn x, HL7.out, S7.out⟩⟩
            case measure =>
              have := HJ.out
              simp [Go.RowKit.intOf]
              omega
          case false =>
            rw [ho] at c0
            clear ho
            have HL7 := Lib.hid (show (Pt.stp x y.x).v.length = vl from (Pt.stp_len x y.x).trans HXL.out)
            have HLOW := Lib.hid HSX.out.low
            obtain ⟨c1, c2, c3, c4, c5⟩ := (HCS.out _ HSX.out.gr).2
            obtain ⟨fl, hfl⟩ : ∃ fl, Pt.stf x = fl := ⟨_, rfl⟩
            have HA1 := Lib.hid (HSX.out.stpA y.x)
            rw [hfl] at HA1
            have HA2 := Lib.hid (fun W W0 v1 l h hv hn => Pt.St.stpC (w := w) (W := W) (W0 := W0) (bp := bp) (mp := mp) (gp := gp) (bq := bq) (mq := mq) (gq := gq) (mf := mf) (gf := gf) (p := p) (q := q) (q2 := Cu.z (300 - vl)) (U := (Pt.s0 s vl).v) (s := Pt.stp x y.x) (t := x) (v1 := v1) (l := l) h y.x hv hn)
            simp only [hfl] at HA2
            clear hfl
            go_upto_region 22 with (go_at_call 16; (with_reducible refine HA1.out.mono ?_); rintro e w2 ⟨v1, rfl, hr1, hs1⟩; have R1 := Lib.hid hr1; have S1 := Lib.hid hs1; clear hr1 hs1)
            clear c0 c1 c2 c3 c4 c5
            obtain ⟨c1, c2, c3, c4, c5⟩ := (HCS.out _ S1.out.gr).2
            go_upto_region 23 with (go_at_call 16; (with_reducible refine (HA2.out _ _ _ _ S1.out R1.out ⟨HLOW.out.2.2.1, HLOW.out.2.2.2⟩).mono ?_); rintro e w3 ⟨v2, rfl, hr2, hs2, hr3⟩; have R2 := Lib.hid hr2; have S3 := Lib.hid hs2; have R3 := Lib.hid hr3; clear hr2 hs2 hr3)
            clear c1 c2 c3 c4 c5
            obtain ⟨x0, x1, x2, x3, x4, x5, x6, x7, x8, x9, hsv⟩ : ∃ x0 x1 x2 x3 x4 x5 x6 x7 x8 x9, .agg #[.int .i64 x0, .int .i64 x1, .int .i64 x2, .int .i64 x3, .int .i64 x4, .int .i64 x5, .int .i64 x6, .int .i64 x7, .int .i64 x8, .int .i64 x9] = Pt.sv (Pt.stp x y.x) := ⟨_, _, _, _, _, _, _, _, _, _, rfl⟩
            have hq1 : ∀ W, (binOp BinOp.neq 55 (.agg #[.int .i64 x0, .int .i64 x1, .int .i64 x2, .int .i64 x3, .int .i64 x4, .int .i64 x5, .int .i64 x6, .int .i64 x7, .int .i64 x8, .int .i64 x9]) (.agg #[.int .i64 x0, .int .i64 x1, .int .i64 x2, .int .i64 x3, .int .i64 x4, .int .i64 x5, .int .i64 x6, .int .i64 x7, .int .i64 x8, .int .i64 x9])).run Tryd.prog W = .ok (.bool false) W := fun W => by rw [hsv]; exact Pt.neq_sv _ W
            have HSV := Lib.hid hsv
            clear hsv
            go_wp2_with (first
              | (go_at_call 17; (with_reducible refine (Pt.rsame_any _ _ _ _ R3.out R2.out).mono ?_); rintro e w5 ⟨rfl, g5⟩; have S5 := Lib.hid (S3.out.grown g5); clear g5)
              | (go_at_call 18; (with_reducible refine S5.out.svA.mono ?_); rintro e w6 ⟨rfl, hs6⟩; have S6 := Lib.hid hs6; clear hs6; rw [← HSV.out])
              | (go_at_call 18; (with_reducible refine S6.out.svC.mono ?_); rintro e w7 ⟨rfl, hs7⟩; have S7 := Lib.hid hs7; clear hs7; rw [← HSV.out]))
            go_roundw
            case rel => exact ⟨j + 1, by go_num, HJ.out.2, Lib.hid HJ.out.1, Lib.hid ⟨Pt.stp x y.x, HL7.out, S7.out⟩⟩
            case measure =>
              have := HJ.out
              simp [Go.RowKit.intOf]
              omega
        case neg =>
          have key : (¬ (j : Int) < (k : Int)) ∨ ((j : Int) < (k : Int) ∧ ¬ (j : Int) < 60) := by omega
          have HDJ := Lib.hid (HDI.out wr x HXL.out HSX.out.f.mem HSX.out.a.mem.mem)
          have HNW := Lib.hid HSX.out.NM
          have HGW := Lib.hid HSX.out.gr
          clear hin HDI HSX HXL HD HB
          rcases key with i1 | ⟨i1, i2⟩
          all_goals
            go_upto_region 26 with (go_at_call 19; (with_reducible refine HDJ.out.mono ?_); rintro e w9 ⟨v9, k9, o9, rfl, hr9, b9, hk9, hi9⟩; have HR9 := Lib.hid hr9; have HI9 := Lib.hid hi9; have HG9 := Lib.hid (only_trans HGW.out (Cu.grow_of b9)); have HL := Lib.hid (Pt.live_any w9 (HNW.out.grown (Cu.grow_of b9) (by simp))); clear hr9 hi9 b9)
            rcases HR9.out with ⟨rfl, rfl⟩ | ⟨gx, cap, rfl, hBd, hrow⟩
            · go_wp2
              go_loop [22] (fun y => y = .int .i64 0) (fun _ => 0)
              case atStart => rfl
              case round =>
                subst hrel
                go_wp2_with (go_at_call 7; (with_reducible refine HL.out.mono ?_); rintro e w10 ⟨rfl, g10⟩)
                go_ret
                exact ⟨rfl, Pt.bel (only_trans HG9.out g10)⟩
            · have HW := Lib.hid hrow
              clear hrow hBd HR9
              go_wp2
              go_loop [22] (fun y => ∃ i : Nat, y = .int .i64 i ∧ i ≤ k9) (fun y => k9 - (Go.RowKit.intOf y).toNat)
              case atStart => exact ⟨0, rfl, by omega⟩
              case round =>
                obtain ⟨i, rfl, hik⟩ := hrel
                by_cases hlt : i < k9
                · have i1 : (i : Int) < (k9 : Int) := by omega
                  have c0 := HW.out.fst hlt
                  have c1 := HW.out.snd hlt
                  obtain ⟨t0, t1⟩ := HI9.out i hlt
                  have t2 : ¬ (o9 i).1 < 500 := by omega
                  have t3 : ¬ 500 + (vl : Int) < (o9 i).2 := by omega
                  generalize (o9 i).1 = xa at *
                  generalize (o9 i).2 = xb at *
                  go_wp2
                  go_round
                  case rel => exact ⟨i + 1, by go_num, by omega⟩
                  case measure => simp [Go.RowKit.intOf]; omega
                · have i1 : ¬ (i : Int) < (k9 : Int) := by omega
                  clear hlt hik
                  go_wp2_with (go_at_call 7; (with_reducible refine HL.out.mono ?_); rintro e w10 ⟨rfl, g10⟩)
                  go_ret
                  exact ⟨rfl, Pt.bel (only_trans HG9.out g10)⟩
end Go.Proofs.YthhodadfiipffaaDoor
