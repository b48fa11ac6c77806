import Derived.Test.YtiicoabkhponmaaDoorZ43
import Derived.Test.YtiicoabkhponmaaDoorZ44
import Derived.LoopTactic
import Derived.Deep.RegionHeld3
import Derived.Deep.RegionHeld
import Derived.OrdersHeld
import Derived.Deep.Cut
import Derived.Deep.CutBlock
set_option linter.all false
/- CpuRuns walked. -/
namespace Go.Proofs.YtiicoabkhponmaaDoor
open Go.RowKit Go.Lib Go.Sort
set_option linter.unusedVariables false
set_option maxRecDepth 20000
attribute [-go_sem] Go.run_neq_struct Go.run_eql_struct

set_option maxHeartbeats 25600000 in
theorem Cu.runs_ok (s : ByteArray) (vl : Nat) (pc md : Int) (r : Nat → Int) (n x : Int) (w : World) (hN : Nm w) (hpc : pc ≤ 9223372036854775807) (bn : n ≤ 60 ∧ -9223372036854775808 ≤ n) (bx' : -9223372036854775808 ≤ x ∧ x ≤ 9223372036854775807) (h1 : s.size ≤ 400) (h3 : vl ≤ 400) : Calls Tryd.prog 6 #[.string s, .int .i64 vl, Cu.stV pc r md, .int .i64 n, .int .i64 x] w fun e w' => e = .returned (.bool true) ∧ Below w.heap.size w w' := by
  have HV1 := Lib.hid (show ∀ W, Calls Tryd.prog 8 #[.string s, .int .i64 300, .int .i64 vl] W fun e w' => ∃ m g A c, e = .returned (.tuple #[.pointer (some ⟨m, 0, none⟩), .agg #[.pointer (some ⟨m, 0, none⟩), .int .i64 300, .int .i64 vl], .slice A vl c]) ∧ MemG w' W.heap.size m g (Cu.z 300 ++ Cu.v0 s vl ++ Cu.z (1000 - 300 - vl)) ∧ Below W.heap.size W w' ∧ Ints w' A c (num (Cu.v0 s vl)) ∧ ∀ i, i < W.heap.size ∨ i = g → OffI (Cu.v0 s vl) A i from Cu.view_slice s 300 vl h1 (by omega) (by omega))
  have s4 : (s.size : Int) ≤ 400 := by omega
  have s5 : (vl : Int) ≤ 400 := by omega
  have hn60 : n ≤ 60 := bn.1
  have HS1 := Lib.hid (fun m g B j W => Cu.step_f (Cu.v0 s vl) pc md r (Cu.z 300) (Cu.z (1000 - 300 - vl)) vl (Cu.v0_len _ _) (by rw [Cu.z_len, Cu.z_len]; omega) hpc B m g 300 (by rw [Cu.z_len]; rfl) j W)
  have HR1 := Lib.hid (fun j A c W h => Cu.rstep_f (Cu.v0 s vl) pc md r vl (Cu.v0_len _ _) (by omega) hpc j A c W h)
  have HVL := Lib.hid (fun j => show (Cu.stN (Cu.v0 s vl) pc r md j).v.length = vl from (Cu.stN_len _ _ _ _ j).trans (Cu.v0_len _ _))
  have HF0 := Lib.hid (show Cu.stN (Cu.v0 s vl) pc r md 0 = ⟨Cu.v0 s vl, pc, r, md, 0, 0, 0, 0⟩ from rfl)
  generalize Cu.stN (Cu.v0 s vl) pc r md = f at HS1 HR1 HF0 HVL
  have HP1 := Lib.hid (Cu.z_len 300)
  have HQ1 := Lib.hid (Cu.z_len (1000 - 300 - vl))
  generalize Cu.v0 s vl = V at *
  generalize Cu.z 300 = p1 at *
  generalize Cu.z (1000 - 300 - vl) = q1 at *
  have HFC := Lib.hid (show Cu.stC (f 0).pc (f 0).r (f 0).md = Cu.stC pc r md from by rw [HF0.out])
  have HFV := Lib.hid (show (f 0).v = V from by rw [HF0.out])
  have HFA := Lib.hid (show f 0 = ⟨(f 0).v, pc, r, md, 0, 0, 0, 0⟩ from by rw [HFV.out]; exact HF0.out)
  obtain ⟨W0, hW0, g0, hB0⟩ := ibox w 24 (Cu.stC pc r md)
  have z0 : W0.heap.size = w.heap.size + 1 := by rw [hW0]; simp
  have HB0 := Lib.hid hB0
  have HG0 := Lib.hid g0
  have HZ0 := Lib.hid z0
  have HNw := Lib.hid hN
  clear hB0 g0 z0 hN
  unfold Cu.stV
  unfold Cu.stC at hW0 HB0 ⊢
  go_enter Tryd.func6, Tryd.ntmps6
  go_upto_region 1 with (fail)
  rw [← hW0]
  obtain ⟨bs, hbs⟩ : ∃ bs, bs = w.heap.size := ⟨_, rfl⟩
  rw [← hbs] at HB0 ⊢
  have HBS := Lib.hid hbs
  clear hW0 hbs
  go_upto_region 4 with (go_at_call 8; (with_reducible refine (HV1.out _).mono ?_); rintro e w1 ⟨m, g, A1, c1, rfl, hm1, b1, hA1, ho1⟩; have HM1 := Lib.hid hm1; have HB1 := Lib.hid b1; have HA1 := Lib.hid hA1; have HO1 := Lib.hid ho1; clear hm1 b1 hA1 ho1)
  have HSB := Lib.hid ((HB0.out.only (Cu.grow_of HB1.out) (by simp)).only (only_alloc (only_refl w1 none) (.cells #[.pointer (some ⟨m, 0, none⟩), .int .i64 300, .int .i64 vl] 28)) (by simp))
  obtain ⟨W2, hW2⟩ : ∃ W2, W2 = w1.alloc (.cells #[.pointer (some ⟨m, 0, none⟩), .int .i64 300, .int .i64 vl] 28) := ⟨_, rfl⟩
  rw [← hW2] at HSB ⊢
  have HW2 := Lib.hid hW2
  clear hW2
  obtain ⟨k0, k1, k2, k3, k4, k5, k6, k7, k8, k9⟩ := Cu.cells10 HSB.out
  go_upto_region 5 with (go_at_call 9; (with_reducible refine (Cu.ref_any _ _ _ _).mono ?_); rintro e w2 ⟨rfl, g2⟩; have HG2 := Lib.hid g2; clear g2)
  have HS0 := Lib.hid (Cu.sv_new (bs := bs) (vl := (vl : Int)) HB0.out HBS.out HZ0.out HG0.out HM1.out HB1.out HA1.out HO1.out (by rw [← HW2.out]; exact HG2.out) HNw.out HF0.out)
  obtain ⟨bv, hbv⟩ : ∃ bv, bv = w1.heap.size := ⟨_, rfl⟩
  obtain ⟨bx, hbx⟩ : ∃ bx, bx = w2.heap.size := ⟨_, rfl⟩
  obtain ⟨W3, hW3⟩ : ∃ W3, W3 = w2.alloc (.cells (Cu.stC pc r md) 32) := ⟨_, rfl⟩
  rw [← hW3, ← hbv, ← hbx] at HS0
  rw [show w2.alloc (.cells #[.int .i64 pc, .int .i64 (r 0), .int .i64 (r 1), .int .i64 (r 2), .int .i64 (r 3), .int .i64 (r 4), .int .i64 (r 5), .int .i64 (r 6), .int .i64 (r 7), .int .i64 md] 32) = W3 from hW3.symm, ← hbv, ← hbx]
  clear hW3 HW2 hbv hbx HSB HM1 HB1 HA1 HO1 HB0 HG2 k0 k1 k2 k3 k4 k5 k6 k7 k8 k9
  have HRN := Lib.hid (show Calls Tryd.prog 16 #[.agg #[.pointer (some ⟨m, 0, none⟩), .int .i64 300, .int .i64 vl], .agg #[.int .i64 pc, .int .i64 (r 0), .int .i64 (r 1), .int .i64 (r 2), .int .i64 (r 3), .int .i64 (r 4), .int .i64 (r 5), .int .i64 (r 6), .int .i64 (r 7), .int .i64 md], .int .i64 n] W3 (Cu.RunW W3 w.heap.size m g p1 q1 f n) from by
    have hg0 : some g ≠ some 0 := fun e => by injection e with e; have := HS0.out.lt; have := HNw.out.pos; omega
    have := Cu.run_own W3 w.heap.size m g vl p1 q1 f pc md n r (by omega) HFA.out HS0.out.me (fun j W hm hg => by
      have := HS1.out m g _ j W hm (HS0.out.NM.grown hg hg0)
      rw [HP1.out]
      exact this)
    rw [HP1.out] at this
    exact this)
  obtain ⟨k0, k1, k2, k3, k4, k5, k6, k7, k8, k9⟩ := Cu.cells10 (show Blk W3 bs 24 #[.int .i64 pc, .int .i64 (r 0), .int .i64 (r 1), .int .i64 (r 2), .int .i64 (r 3), .int .i64 (r 4), .int .i64 (r 5), .int .i64 (r 6), .int .i64 (r 7), .int .i64 md] from by have := HS0.out.sb; rw [HFC.out] at this; exact this)
  obtain ⟨v0, v1, v2⟩ := in3 HS0.out.vb
  go_upto_region 6 with (go_at_call 16; (with_reducible refine HRN.out.mono ?_); rintro e w4 ⟨J, v, hE, rfl, hrow, hm4, g4⟩; have HE := Lib.hid hE; have HROW := Lib.hid hrow; have HM4 := Lib.hid hm4; have HG4 := Lib.hid g4; clear hE hrow hm4 g4; unfold Cu.stV Cu.stC)
  have HV0 := Lib.hid (Cu.rv_new (zc := Cu.stC (f J).pc (f J).r (f J).md) HS0.out HM4.out HG4.out HROW.out)
  obtain ⟨bz, hbz⟩ : ∃ bz, bz = w4.heap.size := ⟨_, rfl⟩
  obtain ⟨W5, hW5⟩ : ∃ W5, W5 = w4.alloc (.cells (Cu.stC (f J).pc (f J).r (f J).md) 24) := ⟨_, rfl⟩
  rw [← hW5, ← hbz] at HV0
  rw [show w4.alloc (.cells #[.int .i64 (f J).pc, .int .i64 ((f J).r 0), .int .i64 ((f J).r 1), .int .i64 ((f J).r 2), .int .i64 ((f J).r 3), .int .i64 ((f J).r 4), .int .i64 ((f J).r 5), .int .i64 ((f J).r 6), .int .i64 ((f J).r 7), .int .i64 (f J).md] 24) = W5 from hW5.symm, ← hbz]
  clear hW5 hbz HROW HM4 HG4 HRN HS0 k0 k1 k2 k3 k4 k5 k6 k7 k8 k9 v0 v1 v2
  obtain ⟨AV, cv, rfl⟩ := HV0.out.row.form
  go_upto_block 0 with fail
  obtain ⟨hgi⟩ : Nonempty (∀ a : Cu.Af, ∀ W, Calls Tryd.prog 17 #[.agg #[.int .i64 (a).pc, .int .i64 ((a).r 0), .int .i64 ((a).r 1), .int .i64 ((a).r 2), .int .i64 ((a).r 3), .int .i64 ((a).r 4), .int .i64 ((a).r 5), .int .i64 ((a).r 6), .int .i64 ((a).r 7), .int .i64 (a).md], .int .i64 x, .int .i64 n] W fun e w' => e = .returned (.agg #[.int .i64 ((Cu.gave a x n)).pc, .int .i64 (((Cu.gave a x n)).r 0), .int .i64 (((Cu.gave a x n)).r 1), .int .i64 (((Cu.gave a x n)).r 2), .int .i64 (((Cu.gave a x n)).r 3), .int .i64 (((Cu.gave a x n)).r 4), .int .i64 (((Cu.gave a x n)).r 5), .int .i64 (((Cu.gave a x n)).r 6), .int .i64 (((Cu.gave a x n)).r 7), .int .i64 ((Cu.gave a x n)).md]) ∧ W.grownBy w' none) := ⟨fun a W => Cu.gave_any a x n W⟩
  have HGV := Lib.hid hgi
  clear hgi
  have HPR0 := Lib.hid (show Cu.Pre f n 0 from ⟨fun i hi => absurd hi (by omega), fun i _ hi => absurd hi (by omega)⟩)
  go_cut [13, 17] from 23 (fun a y wx => ∃ (A : Option Addr) (cap : Nat), a = .slice A vl cap ∧ y = .int .i64 J ∧ Hid (Cu.Rv w wx bs m g bv bx bz p1 q1 vl (f J).v (f J).v A cap (Cu.stC (f 0).pc (f 0).r (f 0).md) (Cu.stC (f J).pc (f J).r (f J).md) (Cu.stC (f J).pc (f J).r (f J).md) (.slice AV J cv) J (Cu.outs f J)))
  case first =>
    go_wp2_with fail
    go_loopw [13, 17] (fun a y wr => ∃ (k : Nat) (A : Option Addr) (cap : Nat), a = .slice A vl cap ∧ y = .int .i64 k ∧ k ≤ J ∧ Hid (Cu.Rv w wr bs m g bv bx bz p1 q1 vl (f J).v (f k).v A cap (Cu.stC (f 0).pc (f 0).r (f 0).md) (Cu.stC (f k).pc (f k).r (f k).md) (Cu.stC (f J).pc (f J).r (f J).md) (.slice AV J cv) J (Cu.outs f J)) ∧ Hid (Cu.Pre f n k) ∧ Hid (0 < k → (f k).o1 ≠ 2)) (fun _ y _ => J - (Go.RowKit.intOf y).toNat)
    case atStart => exact ⟨0, A1, c1, rfl, rfl, by omega, HV0, HPR0, Lib.hid (fun h => absurd h (by omega))⟩
    case round =>
      obtain ⟨k, A, cap, rfl, rfl, hkJ, HM, HPR, HNC⟩ := hrel
      clear HV0 HPR0
      obtain ⟨k0, k1, k2, k3, k4, k5, k6, k7, k8, k9⟩ := Cu.cells10 HM.out.sv.xb
      by_cases hgo : (k : Int) < n ∧ (f k).md = 0
      · obtain ⟨i1, i2⟩ := hgo
        have hkJ2 : k < J := HE.out.more HPR.out i1 i2 HNC.out
        have i3 : ¬ (J : Int) ≤ (k : Int) := by omega
        have i4 : (k : Int) < (J : Int) := by omega
        have i5 : (0 : Int) ≤ (k : Int) := by omega
        have HPN := Lib.hid (HPR.out.next (by omega) i2 HNC.out)
        have HC := Lib.hid (Cu.ro_new HM.out)
        go_upto_region 9 with (fail)
        obtain ⟨bo, hbo⟩ : ∃ bo, bo = wr.heap.size := ⟨_, rfl⟩
        obtain ⟨W6, hW6⟩ : ∃ W6, W6 = wr.alloc (.cells #[.int .i64 0, .int .i64 0, .int .i64 0, .int .i64 0] 36) := ⟨_, rfl⟩
        rw [← hW6, ← hbo] at HC ⊢
        clear i2 hW6 hbo k0 k1 k2 k3 k4 k5 k6 k7 k8 k9
        obtain ⟨k0, k1, k2, k3, k4, k5, k6, k7, k8, k9⟩ := Cu.cells10 HC.out.1.sv.xb
        have HL2 := Lib.hid (show bx < bo from Nat.lt_trans HC.out.1.lt HC.out.2.2.1)
        have e1 : ¬ bx = bo := by have := HL2.out; omega
        have e2 : ¬ bo = bx := by have := HL2.out; omega
        have HSB := Lib.hid (HR1.out k _ _ _ HC.out.1.sv.ar)
        go_upto_region 10 with (go_at_call 11; (with_reducible refine HSB.out.mono ?_); rintro e w9 ⟨A', cap', rfl, hA9, g9, ho9⟩; have HH := Lib.hid (Cu.Ro.rstep HC.out g9 hA9 ho9); clear hA9 ho9 g9 k0 k1 k2 k3 k4 k5 k6 k7 k8 k9; obtain ⟨k0, k1, k2, k3, k4, k5, k6, k7, k8, k9⟩ := Cu.cells10 HH.out.1.sv.xb; obtain ⟨f0, f1, f2, f3, f4, f5, f6, f7, f8, f9⟩ := Cu.free10 HH.out.1.sv.xb; obtain ⟨c0, c1, c2, c3⟩ := Cu.cells4 HH.out.2.1; obtain ⟨d0, d1, d2, d3⟩ := Cu.free4 HH.out.2.1)
        clear k0 k1 k2 k3 k4 k5 k6 k7 k8 k9 f0 f1 f2 f3 f4 f5 f6 f7 f8 f9 c0 c1 c2 c3 d0 d1 d2 d3 HC
        obtain ⟨W10, hW10⟩ : ∃ W10, W10 = (((((((((((((w9.setCell ⟨bx, 0, none⟩ (.int .i64 (f (k + 1)).pc)).setCell ⟨bx, 1, none⟩ (.int .i64 ((f (k + 1)).r 0))).setCell ⟨bx, 2, none⟩ (.int .i64 ((f (k + 1)).r 1))).setCell ⟨bx, 3, none⟩ (.int .i64 ((f (k + 1)).r 2))).setCell ⟨bx, 4, none⟩ (.int .i64 ((f (k + 1)).r 3))).setCell ⟨bx, 5, none⟩ (.int .i64 ((f (k + 1)).r 4))).setCell ⟨bx, 6, none⟩ (.int .i64 ((f (k + 1)).r 5))).setCell ⟨bx, 7, none⟩ (.int .i64 ((f (k + 1)).r 6))).setCell ⟨bx, 8, none⟩ (.int .i64 ((f (k + 1)).r 7))).setCell ⟨bx, 9, none⟩ (.int .i64 (f (k + 1)).md)).setCell ⟨bo, 0, none⟩ (.int .i64 (f (k + 1)).o1)).setCell ⟨bo, 1, none⟩ (.int .i64 (f (k + 1)).o2)).setCell ⟨bo, 2, none⟩ (.int .i64 (f (k + 1)).o3)).setCell ⟨bo, 3, none⟩ (.int .i64 (f (k + 1)).o4) := ⟨_, rfl⟩
        have HI := Lib.hid (Cu.Ro.put2 HH.out (.int .i64 (f (k + 1)).pc) (.int .i64 ((f (k + 1)).r 0)) (.int .i64 ((f (k + 1)).r 1)) (.int .i64 ((f (k + 1)).r 2)) (.int .i64 ((f (k + 1)).r 3)) (.int .i64 ((f (k + 1)).r 4)) (.int .i64 ((f (k + 1)).r 5)) (.int .i64 ((f (k + 1)).r 6)) (.int .i64 ((f (k + 1)).r 7)) (.int .i64 (f (k + 1)).md) (.int .i64 (f (k + 1)).o1) (.int .i64 (f (k + 1)).o2) (.int .i64 (f (k + 1)).o3) (.int .i64 (f (k + 1)).o4) _ hW10)
        rw [← hW10]
        clear hW10 HH e1 e2 HSB
        obtain ⟨bl, ol, hAV, t0, t1, t2, t3⟩ := Cu.out_at HI.out.1.row hkJ2
        subst hAV
        obtain ⟨c0, c1, c2, c3⟩ := Cu.cells4 HI.out.2.1
        have hq2 : ∀ W, (binOp BinOp.neq 37 (.agg #[.int .i64 (f (k + 1)).o1, .int .i64 (f (k + 1)).o2, .int .i64 (f (k + 1)).o3, .int .i64 (f (k + 1)).o4]) (.agg #[.int .i64 (f (k + 1)).o1, .int .i64 (f (k + 1)).o2, .int .i64 (f (k + 1)).o3, .int .i64 (f (k + 1)).o4])).run Tryd.prog W = .ok (.bool false) W := fun W => Cu.neq_out _ _ _ _ W
        have t0r := fun d os => cell_regrown t0 d os; have t1r := fun d os => cell_regrown t1 d os; have t2r := fun d os => cell_regrown t2 d os; have t3r := fun d os => cell_regrown t3 d os; have c0r := fun d os => cell_regrown c0 d os; have c1r := fun d os => cell_regrown c1 d os; have c2r := fun d os => cell_regrown c2 d os; have c3r := fun d os => cell_regrown c3 d os
        clear t0 t1 t2 t3
        have i6 : ¬ (k : Int) < 0 := by omega
        refine wp_region_quiet_below (by kernel_rfl) (by kernel_rfl) ?_
        repeat (quiet_step (fail))
        refine wpQuiet_nil ?_
        rintro _ ⟨⟨dq, osq⟩, rfl⟩
        have HJ := Lib.hid (HI.out.1.grown (Cu.grow_of (below_regrown W10 dq osq)))
        have c0' := c0r dq osq
        clear c0 c1 c2 c3 t0r t1r t2r t3r c0r c1r c2r c3r hq2 HI
        generalize grow (redrawn W10 dq) osq = W11 at HJ c0' ⊢
        by_cases h2 : (f (k + 1)).o1 = 2
        · have hJk : k + 1 = J := HE.out.same ⟨HPN.out, .inr (.inr ⟨by omega, h2⟩)⟩
          subst hJk
          go_wp2_with (fail)
          go_meet
          exact ⟨_, _, rfl, by go_num, HJ⟩
        · go_wp2
          go_roundw
          case rel => exact ⟨k + 1, A', cap', rfl, by go_num, by omega, HJ, HPN, Lib.hid (fun _ => h2)⟩
          case measure => simp [Go.RowKit.intOf]; omega
      · have key : ¬ (k : Int) < n ∨ ((k : Int) < n ∧ ¬ (f k).md = 0) := by omega
        have hJk : k = J := HE.out.same ⟨HPR.out, key.elim (fun h => .inl (by omega)) (fun h => .inr (.inl h.2))⟩
        subst hJk
        clear HPR HNC hkJ
        have HJ := HM
        clear HM
        clear hgo
        rcases key with i1 | ⟨i1, i2⟩
        · go_wp2_with (fail)
          go_meet
          exact ⟨_, _, rfl, rfl, HJ⟩
        · go_wp2_with (fail)
          go_meet
          exact ⟨_, _, rfl, rfl, HJ⟩
  case rest =>
    obtain ⟨A, cap, rfl, rfl, HJ⟩ := hcut
    go_upto_region 14 with (fail)
    obtain ⟨z0, z1, z2, z3, z4, z5, z6, z7, z8, z9⟩ := Cu.cells10 HJ.out.zb
    obtain ⟨t0, t1, t2, t3, t4, t5, t6, t7, t8, t9⟩ := Cu.cells10 HJ.out.sv.xb
    obtain ⟨v0, v1, v2⟩ := in3 HJ.out.sv.vb
    have z0r := fun d os => cell_regrown z0 d os; have z1r := fun d os => cell_regrown z1 d os; have z2r := fun d os => cell_regrown z2 d os; have z3r := fun d os => cell_regrown z3 d os; have z4r := fun d os => cell_regrown z4 d os; have z5r := fun d os => cell_regrown z5 d os; have z6r := fun d os => cell_regrown z6 d os; have z7r := fun d os => cell_regrown z7 d os; have z8r := fun d os => cell_regrown z8 d os; have z9r := fun d os => cell_regrown z9 d os; have t0r := fun d os => cell_regrown t0 d os; have t1r := fun d os => cell_regrown t1 d os; have t2r := fun d os => cell_regrown t2 d os; have t3r := fun d os => cell_regrown t3 d os; have t4r := fun d os => cell_regrown t4 d os; have t5r := fun d os => cell_regrown t5 d os; have t6r := fun d os => cell_regrown t6 d os; have t7r := fun d os => cell_regrown t7 d os; have t8r := fun d os => cell_regrown t8 d os; have t9r := fun d os => cell_regrown t9 d os; have v0r := fun d os => cell_regrown v0 d os; have v1r := fun d os => cell_regrown v1 d os; have v2r := fun d os => cell_regrown v2 d os
    clear z0 z1 z2 z3 z4 z5 z6 z7 z8 z9 t0 t1 t2 t3 t4 t5 t6 t7 t8 t9 v0 v1 v2
    have hq1 : ∀ W, (binOp BinOp.neq 32 (.agg #[.int .i64 (f J).pc, .int .i64 ((f J).r 0), .int .i64 ((f J).r 1), .int .i64 ((f J).r 2), .int .i64 ((f J).r 3), .int .i64 ((f J).r 4), .int .i64 ((f J).r 5), .int .i64 ((f J).r 6), .int .i64 ((f J).r 7), .int .i64 (f J).md]) (.agg #[.int .i64 (f J).pc, .int .i64 ((f J).r 0), .int .i64 ((f J).r 1), .int .i64 ((f J).r 2), .int .i64 ((f J).r 3), .int .i64 ((f J).r 4), .int .i64 ((f J).r 5), .int .i64 ((f J).r 6), .int .i64 ((f J).r 7), .int .i64 (f J).md])).run Tryd.prog W = .ok (.bool false) W := fun W => Cu.neq_rst _ _ _ W
    have HRE := Lib.hid (fun W => Cu.ref_b (f J).pc (f J).md (f J).r W)
    have HT1 := Lib.hid (fun (d : Nat) (os : Array Obj) => Cu.text_re3 (p := p1) (q := q1) HP1.out (HVL.out J) (show p1.length + vl + q1.length ≤ 16384 by rw [HP1.out, HQ1.out]; omega) (HJ.out.grown (Cu.grow_of (below_regrown wc d os))).sv.me)
    have HT2 := Lib.hid (fun (d : Nat) (os : Array Obj) => Cu.text_doc (HJ.out.grown (Cu.grow_of (below_regrown wc d os))).sv.ar (HVL.out J) (by omega))
    generalize (⟨(f J).v.toArray⟩ : ByteArray) = tx at HT1 HT2
    refine wp_region_quiet_below (by kernel_rfl) (by kernel_rfl) ?_
    repeat (quiet_step ((first
      | (go_at_call 9; with_reducible exact Calls.regrown_of (HRE.out _))
      | (go_at_call 12; with_reducible exact Calls.regrown_of (HT1.out _ _))
      | (go_at_call 13; with_reducible exact Calls.regrown_of (HT2.out _ _)))))
    refine wpQuiet_nil ?_
    rintro _ ⟨⟨dq, osq⟩, rfl⟩
    have HK := Lib.hid (HJ.out.grown (Cu.grow_of (below_regrown wc dq osq)))
    clear z0r z1r z2r z3r z4r z5r z6r z7r z8r z9r t0r t1r t2r t3r t4r t5r t6r t7r t8r t9r v0r v1r v2r hq1 HRE HT1 HT2 HJ
    generalize grow (redrawn wc dq) osq = W12 at HK ⊢
    go_upto_region 16 with (fail)
    have HGI := Lib.hid (fun W => HGV.out (f J) W)
    have HWA := Lib.hid (fun W => Cu.woke_any (f J) W)
    go_cut [19, 20] from 114 (fun a b wx => ∃ ba bb, a = .pointer (some ⟨ba, 0, none⟩) ∧ b = .pointer (some ⟨bb, 0, none⟩) ∧ Hid (Cu.Two w wx bz ba bb (Cu.stC (f J).pc (f J).r (f J).md) (Cu.stC (Cu.gave (f J) x n).pc (Cu.gave (f J) x n).r (Cu.gave (f J) x n).md) (Cu.stC (Cu.woke (f J)).pc (Cu.woke (f J)).r (Cu.woke (f J)).md)))
    case first =>
      refine Cu.r16 f J n x bz _ _ _ _ _ _ _ _ _ _ _ _ _ _ _ _ _ _ _ _ _ _ _ _ _ _ _ _ _ _ _ _ _ _ _ _ _ _ _ _ _ _ _ _ _ _ _ _ _ _ _ _ _ _ _ _ _ _ _ _ _ _ _ _ _ _ _ _ _ _ _ _ _ _ _ _ _ _ _ _ _ _ _ _ _ _ _ _ _ _ _ _ _ _ _ _ _ _ _ _ _ _ _ _ _ _ _ _ _ _ _ _ _ _ _ _ _ _ _ _ _ _ _ _ _ _ _ _ _ _ _ _ _ _ _ _ _ _ _ _ _ _ _ _ _ _ _ _ HGI HWA (fun _ _ _ _ h => h) (Lib.hid HK.out.zb) ?_
      intro ba bb v114 v115 v116 v117 v118 v119 W' hg hA hB
      go_wp2_with (fail)
      go_meet
      case rel => exact ⟨ba, bb, rfl, rfl, Lib.hid ⟨HK.out.zb.only hg (by simp), hA, hB, only_trans HK.out.sv.gr hg, HK.out.sv.nm⟩⟩
    case rest =>
      obtain ⟨ba, bb, rfl, rfl, HW⟩ := hcut
      obtain ⟨z0, z1, z2, z3, z4, z5, z6, z7, z8, z9⟩ := Cu.cells10 HW.out.zb
      have HNM := Lib.hid (show n - n / 65536 * 65536 = n % 65536 by omega)
      by_cases hx : 0 ≤ x ∧ x < 8
      · obtain ⟨kx, rfl⟩ := Int.eq_ofNat_of_zero_le hx.1
        have key : kx = 0 ∨ kx = 1 ∨ kx = 2 ∨ kx = 3 ∨ kx = 4 ∨ kx = 5 ∨ kx = 6 ∨ kx = 7 := by omega
        clear hx
        rcases key with rfl | rfl | rfl | rfl | rfl | rfl | rfl | rfl
        · go_upto_region 20 with (fail)
          rw [HNM.out]
          have HPA := Lib.hid (show Blk wc ba 24 #[.int .i64 (f J).pc, .int .i64 (n % 65536), .int .i64 ((f J).r 1), .int .i64 ((f J).r 2), .int .i64 ((f J).r 3), .int .i64 ((f J).r 4), .int .i64 ((f J).r 5), .int .i64 ((f J).r 6), .int .i64 ((f J).r 7), .int .i64 (f J).md] from by have := HW.out.ab; rw [Cu.gave_0] at this; exact this)
          skip
          obtain ⟨wa, hwa⟩ : ∃ wa, wa = wc.alloc (.cells #[.int .i64 (f J).pc, .int .i64 (n % 65536), .int .i64 ((f J).r 1), .int .i64 ((f J).r 2), .int .i64 ((f J).r 3), .int .i64 ((f J).r 4), .int .i64 ((f J).r 5), .int .i64 ((f J).r 6), .int .i64 ((f J).r 7), .int .i64 (f J).md] 24) := ⟨_, rfl⟩
          have HGA := Lib.hid (show wc.grownBy wa none from by rw [hwa]; exact only_alloc (only_refl _ none) _)
          have HPWA := Lib.hid (show Blk wa wc.heap.size 24 #[.int .i64 (f J).pc, .int .i64 (n % 65536), .int .i64 ((f J).r 1), .int .i64 ((f J).r 2), .int .i64 ((f J).r 3), .int .i64 ((f J).r 4), .int .i64 ((f J).r 5), .int .i64 ((f J).r 6), .int .i64 ((f J).r 7), .int .i64 (f J).md] from by rw [hwa]; exact Blk.new _ _ _)
          rw [← hwa]
          clear hwa z0 z1 z2 z3 z4 z5 z6 z7 z8 z9
          obtain ⟨z0, z1, z2, z3, z4, z5, z6, z7, z8, z9⟩ := Cu.cells10 (show Blk wa bz 24 #[.int .i64 (f J).pc, .int .i64 ((f J).r 0), .int .i64 ((f J).r 1), .int .i64 ((f J).r 2), .int .i64 ((f J).r 3), .int .i64 ((f J).r 4), .int .i64 ((f J).r 5), .int .i64 ((f J).r 6), .int .i64 ((f J).r 7), .int .i64 (f J).md] from HW.out.zb.only HGA.out (by simp))
          go_upto_region 21 with (fail)
          obtain ⟨br, hbr⟩ : ∃ br, br = wa.heap.size := ⟨_, rfl⟩
          obtain ⟨wb, hwb⟩ : ∃ wb, wb = wa.alloc (.cells #[.int .i64 (f J).pc, .int .i64 ((f J).r 0), .int .i64 ((f J).r 1), .int .i64 ((f J).r 2), .int .i64 ((f J).r 3), .int .i64 ((f J).r 4), .int .i64 ((f J).r 5), .int .i64 ((f J).r 6), .int .i64 ((f J).r 7), .int .i64 (f J).md] 24) := ⟨_, rfl⟩
          have HGB := Lib.hid (show wc.grownBy wb none from by rw [hwb]; exact only_alloc HGA.out _)
          have HPW0 := Lib.hid (show Blk wb wc.heap.size 24 #[.int .i64 (f J).pc, .int .i64 (n % 65536), .int .i64 ((f J).r 1), .int .i64 ((f J).r 2), .int .i64 ((f J).r 3), .int .i64 ((f J).r 4), .int .i64 ((f J).r 5), .int .i64 ((f J).r 6), .int .i64 ((f J).r 7), .int .i64 (f J).md] from by rw [hwb]; exact HPWA.out.alloc _)
          have HPR0 := Lib.hid (show Blk wb br 24 #[.int .i64 (f J).pc, .int .i64 ((f J).r 0), .int .i64 ((f J).r 1), .int .i64 ((f J).r 2), .int .i64 ((f J).r 3), .int .i64 ((f J).r 4), .int .i64 ((f J).r 5), .int .i64 ((f J).r 6), .int .i64 ((f J).r 7), .int .i64 (f J).md] from by rw [hwb, hbr]; exact Blk.new _ _ _)
          have LR := Lib.hid (show wc.heap.size ≤ br ∧ wc.heap.size ≠ br from by have := HPWA.out.lt; omega)
          rw [← hwb, ← hbr]
          clear hwb hbr z0 z1 z2 z3 z4 z5 z6 z7 z8 z9
          have y9 : wb.cell? ⟨bz, 9, none⟩ = some (.int .i64 (f J).md) := (show Blk wb bz 24 #[.int .i64 (f J).pc, .int .i64 ((f J).r 0), .int .i64 ((f J).r 1), .int .i64 ((f J).r 2), .int .i64 ((f J).r 3), .int .i64 ((f J).r 4), .int .i64 ((f J).r 5), .int .i64 ((f J).r 6), .int .i64 ((f J).r 7), .int .i64 (f J).md] from HW.out.zb.only HGB.out (by simp)).cell 9
          have u9 : wb.cell? ⟨br, 9, none⟩ = some (.int .i64 (f J).md) := HPR0.out.cell 9
          have uf := HPR0.out.free 9
          by_cases hm : (f J).md = 1
          · have HPB := Lib.hid (show Blk wc bb 24 #[.int .i64 (f J).pc, .int .i64 ((f J).r 0), .int .i64 ((f J).r 1), .int .i64 ((f J).r 2), .int .i64 ((f J).r 3), .int .i64 ((f J).r 4), .int .i64 ((f J).r 5), .int .i64 ((f J).r 6), .int .i64 ((f J).r 7), .int .i64 0] from by have := HW.out.bb'; rw [Cu.woke_yes _ hm] at this; exact this)
            have hm2 : ((f J).md == 1) = true := by simp [hm]
            clear hm
            focus
              go_upto_region 23 with (fail)
              obtain ⟨wf, hwf⟩ : ∃ wf, wf = wb.setCell ⟨br, 9, none⟩ (.int .i64 0) := ⟨_, rfl⟩
              have HGF := Lib.hid (show wc.grownBy wf none from by rw [hwf]; exact Cu.grow_new HGB.out (only_put (only_refl _ _) 9 _) LR.out.1)
              have HPW := Lib.hid (show Blk wf wc.heap.size 24 #[.int .i64 (f J).pc, .int .i64 (n % 65536), .int .i64 ((f J).r 1), .int .i64 ((f J).r 2), .int .i64 ((f J).r 3), .int .i64 ((f J).r 4), .int .i64 ((f J).r 5), .int .i64 ((f J).r 6), .int .i64 ((f J).r 7), .int .i64 (f J).md] from by rw [hwf]; exact HPW0.out.far (by show wc.heap.size ≠ br; exact LR.out.2) _)
              have HPR := Lib.hid (show Blk wf br 24 #[.int .i64 (f J).pc, .int .i64 ((f J).r 0), .int .i64 ((f J).r 1), .int .i64 ((f J).r 2), .int .i64 ((f J).r 3), .int .i64 ((f J).r 4), .int .i64 ((f J).r 5), .int .i64 ((f J).r 6), .int .i64 ((f J).r 7), .int .i64 0] from by rw [hwf]; have := HPR0.out.put 9 (.int .i64 0); simp only [List.setIfInBounds_toArray, List.set_cons_zero, List.set_cons_succ] at this; exact this)
              rw [← hwf]
              clear hwf y9 u9 uf
              have HL := Lib.hid (Cu.live_any wf (HW.out.nm.grown (only_trans HW.out.gr HGF.out) (by simp)) (HW.out.nm.grown (only_trans HW.out.gr HGF.out) (by simp)).pos)
              have hq1 : ∀ W, (binOp BinOp.eql 24 (.agg #[.int .i64 (f J).pc, .int .i64 (n % 65536), .int .i64 ((f J).r 1), .int .i64 ((f J).r 2), .int .i64 ((f J).r 3), .int .i64 ((f J).r 4), .int .i64 ((f J).r 5), .int .i64 ((f J).r 6), .int .i64 ((f J).r 7), .int .i64 (f J).md]) (.agg #[.int .i64 (f J).pc, .int .i64 (n % 65536), .int .i64 ((f J).r 1), .int .i64 ((f J).r 2), .int .i64 ((f J).r 3), .int .i64 ((f J).r 4), .int .i64 ((f J).r 5), .int .i64 ((f J).r 6), .int .i64 ((f J).r 7), .int .i64 (f J).md])).run Tryd.prog W = .ok (.bool true) W := fun W => Cu.eql_lit _ _ _ _ _ _ _ _ _ _ W
              have hq2 : ∀ W, (binOp BinOp.eql 24 (.agg #[.int .i64 (f J).pc, .int .i64 ((f J).r 0), .int .i64 ((f J).r 1), .int .i64 ((f J).r 2), .int .i64 ((f J).r 3), .int .i64 ((f J).r 4), .int .i64 ((f J).r 5), .int .i64 ((f J).r 6), .int .i64 ((f J).r 7), .int .i64 0]) (.agg #[.int .i64 (f J).pc, .int .i64 ((f J).r 0), .int .i64 ((f J).r 1), .int .i64 ((f J).r 2), .int .i64 ((f J).r 3), .int .i64 ((f J).r 4), .int .i64 ((f J).r 5), .int .i64 ((f J).r 6), .int .i64 ((f J).r 7), .int .i64 0])).run Tryd.prog W = .ok (.bool true) W := fun W => Cu.eql_lit _ _ _ _ _ _ _ _ _ _ W
              go_wp2_with (go_at_call 7; (with_reducible refine HL.out.mono ?_); rintro e9 w9 ⟨rfl, b9⟩; have G9 := Lib.hid (only_trans HGF.out (Cu.grow_of b9)); obtain ⟨p0, p1, p2, p3, p4, p5, p6, p7, p8, p9⟩ := Cu.cells10 ((HPA.out.only HGF.out (by simp)).below b9 (Nat.lt_of_lt_of_le HPA.out.lt HGF.out.size)); obtain ⟨q0, q1, q2, q3, q4, q5, q6, q7, q8, q9⟩ := Cu.cells10 ((HPB.out.only HGF.out (by simp)).below b9 (Nat.lt_of_lt_of_le HPB.out.lt HGF.out.size)); obtain ⟨r0, r1, r2, r3, r4, r5, r6, r7, r8, r9⟩ := Cu.cells10 (HPW.out.below b9 HPW.out.lt); obtain ⟨s0, s1, s2, s3, s4, s5, s6, s7, s8, s9⟩ := Cu.cells10 (HPR.out.below b9 HPR.out.lt); clear b9)
              go_ret
              exact ⟨by first | rfl | (simp; done), Cu.below (only_trans HW.out.gr G9.out)⟩
          · have HPB := Lib.hid (show Blk wc bb 24 #[.int .i64 (f J).pc, .int .i64 ((f J).r 0), .int .i64 ((f J).r 1), .int .i64 ((f J).r 2), .int .i64 ((f J).r 3), .int .i64 ((f J).r 4), .int .i64 ((f J).r 5), .int .i64 ((f J).r 6), .int .i64 ((f J).r 7), .int .i64 (f J).md] from by have := HW.out.bb'; rw [Cu.woke_no _ hm] at this; exact this)
            have hm2 : ((f J).md == 1) = false := by simpa using hm
            focus
              go_upto_region 23 with (fail)
              obtain ⟨wf, hwf⟩ : ∃ wf, wf = wb := ⟨_, rfl⟩
              have HGF := Lib.hid (show wc.grownBy wf none from by rw [hwf]; exact HGB.out)
              have HPW := Lib.hid (show Blk wf wc.heap.size 24 #[.int .i64 (f J).pc, .int .i64 (n % 65536), .int .i64 ((f J).r 1), .int .i64 ((f J).r 2), .int .i64 ((f J).r 3), .int .i64 ((f J).r 4), .int .i64 ((f J).r 5), .int .i64 ((f J).r 6), .int .i64 ((f J).r 7), .int .i64 (f J).md] from by rw [hwf]; exact HPW0.out)
              have HPR := Lib.hid (show Blk wf br 24 #[.int .i64 (f J).pc, .int .i64 ((f J).r 0), .int .i64 ((f J).r 1), .int .i64 ((f J).r 2), .int .i64 ((f J).r 3), .int .i64 ((f J).r 4), .int .i64 ((f J).r 5), .int .i64 ((f J).r 6), .int .i64 ((f J).r 7), .int .i64 (f J).md] from by rw [hwf]; exact HPR0.out)
              rw [← hwf]
              clear hwf y9 u9 uf
              have HL := Lib.hid (Cu.live_any wf (HW.out.nm.grown (only_trans HW.out.gr HGF.out) (by simp)) (HW.out.nm.grown (only_trans HW.out.gr HGF.out) (by simp)).pos)
              have hq1 : ∀ W, (binOp BinOp.eql 24 (.agg #[.int .i64 (f J).pc, .int .i64 (n % 65536), .int .i64 ((f J).r 1), .int .i64 ((f J).r 2), .int .i64 ((f J).r 3), .int .i64 ((f J).r 4), .int .i64 ((f J).r 5), .int .i64 ((f J).r 6), .int .i64 ((f J).r 7), .int .i64 (f J).md]) (.agg #[.int .i64 (f J).pc, .int .i64 (n % 65536), .int .i64 ((f J).r 1), .int .i64 ((f J).r 2), .int .i64 ((f J).r 3), .int .i64 ((f J).r 4), .int .i64 ((f J).r 5), .int .i64 ((f J).r 6), .int .i64 ((f J).r 7), .int .i64 (f J).md])).run Tryd.prog W = .ok (.bool true) W := fun W => Cu.eql_lit _ _ _ _ _ _ _ _ _ _ W
              have hq2 : ∀ W, (binOp BinOp.eql 24 (.agg #[.int .i64 (f J).pc, .int .i64 ((f J).r 0), .int .i64 ((f J).r 1), .int .i64 ((f J).r 2), .int .i64 ((f J).r 3), .int .i64 ((f J).r 4), .int .i64 ((f J).r 5), .int .i64 ((f J).r 6), .int .i64 ((f J).r 7), .int .i64 (f J).md]) (.agg #[.int .i64 (f J).pc, .int .i64 ((f J).r 0), .int .i64 ((f J).r 1), .int .i64 ((f J).r 2), .int .i64 ((f J).r 3), .int .i64 ((f J).r 4), .int .i64 ((f J).r 5), .int .i64 ((f J).r 6), .int .i64 ((f J).r 7), .int .i64 (f J).md])).run Tryd.prog W = .ok (.bool true) W := fun W => Cu.eql_lit _ _ _ _ _ _ _ _ _ _ W
              go_wp2_with (go_at_call 7; (with_reducible refine HL.out.mono ?_); rintro e9 w9 ⟨rfl, b9⟩; have G9 := Lib.hid (only_trans HGF.out (Cu.grow_of b9)); obtain ⟨p0, p1, p2, p3, p4, p5, p6, p7, p8, p9⟩ := Cu.cells10 ((HPA.out.only HGF.out (by simp)).below b9 (Nat.lt_of_lt_of_le HPA.out.lt HGF.out.size)); obtain ⟨q0, q1, q2, q3, q4, q5, q6, q7, q8, q9⟩ := Cu.cells10 ((HPB.out.only HGF.out (by simp)).below b9 (Nat.lt_of_lt_of_le HPB.out.lt HGF.out.size)); obtain ⟨r0, r1, r2, r3, r4, r5, r6, r7, r8, r9⟩ := Cu.cells10 (HPW.out.below b9 HPW.out.lt); obtain ⟨s0, s1, s2, s3, s4, s5, s6, s7, s8, s9⟩ := Cu.cells10 (HPR.out.below b9 HPR.out.lt); clear b9)
              go_ret
              exact ⟨by first | rfl | (simp; done), Cu.below (only_trans HW.out.gr G9.out)⟩
        · go_upto_region 20 with (fail)
          rw [HNM.out]
          have HPA := Lib.hid (show Blk wc ba 24 #[.int .i64 (f J).pc, .int .i64 ((f J).r 0), .int .i64 (n % 65536), .int .i64 ((f J).r 2), .int .i64 ((f J).r 3), .int .i64 ((f J).r 4), .int .i64 ((f J).r 5), .int .i64 ((f J).r 6), .int .i64 ((f J).r 7), .int .i64 (f J).md] from by have := HW.out.ab; rw [Cu.gave_1] at this; exact this)
          skip
          obtain ⟨wa, hwa⟩ : ∃ wa, wa = wc.alloc (.cells #[.int .i64 (f J).pc, .int .i64 ((f J).r 0), .int .i64 (n % 65536), .int .i64 ((f J).r 2), .int .i64 ((f J).r 3), .int .i64 ((f J).r 4), .int .i64 ((f J).r 5), .int .i64 ((f J).r 6), .int .i64 ((f J).r 7), .int .i64 (f J).md] 24) := ⟨_, rfl⟩
          have HGA := Lib.hid (show wc.grownBy wa none from by rw [hwa]; exact only_alloc (only_refl _ none) _)
          have HPWA := Lib.hid (show Blk wa wc.heap.size 24 #[.int .i64 (f J).pc, .int .i64 ((f J).r 0), .int .i64 (n % 65536), .int .i64 ((f J).r 2), .int .i64 ((f J).r 3), .int .i64 ((f J).r 4), .int .i64 ((f J).r 5), .int .i64 ((f J).r 6), .int .i64 ((f J).r 7), .int .i64 (f J).md] from by rw [hwa]; exact Blk.new _ _ _)
          rw [← hwa]
          clear hwa z0 z1 z2 z3 z4 z5 z6 z7 z8 z9
          obtain ⟨z0, z1, z2, z3, z4, z5, z6, z7, z8, z9⟩ := Cu.cells10 (show Blk wa bz 24 #[.int .i64 (f J).pc, .int .i64 ((f J).r 0), .int .i64 ((f J).r 1), .int .i64 ((f J).r 2), .int .i64 ((f J).r 3), .int .i64 ((f J).r 4), .int .i64 ((f J).r 5), .int .i64 ((f J).r 6), .int .i64 ((f J).r 7), .int .i64 (f J).md] from HW.out.zb.only HGA.out (by simp))
          go_upto_region 21 with (fail)
          obtain ⟨br, hbr⟩ : ∃ br, br = wa.heap.size := ⟨_, rfl⟩
          obtain ⟨wb, hwb⟩ : ∃ wb, wb = wa.alloc (.cells #[.int .i64 (f J).pc, .int .i64 ((f J).r 0), .int .i64 ((f J).r 1), .int .i64 ((f J).r 2), .int .i64 ((f J).r 3), .int .i64 ((f J).r 4), .int .i64 ((f J).r 5), .int .i64 ((f J).r 6), .int .i64 ((f J).r 7), .int .i64 (f J).md] 24) := ⟨_, rfl⟩
          have HGB := Lib.hid (show wc.grownBy wb none from by rw [hwb]; exact only_alloc HGA.out _)
          have HPW0 := Lib.hid (show Blk wb wc.heap.size 24 #[.int .i64 (f J).pc, .int .i64 ((f J).r 0), .int .i64 (n % 65536), .int .i64 ((f J).r 2), .int .i64 ((f J).r 3), .int .i64 ((f J).r 4), .int .i64 ((f J).r 5), .int .i64 ((f J).r 6), .int .i64 ((f J).r 7), .int .i64 (f J).md] from by rw [hwb]; exact HPWA.out.alloc _)
          have HPR0 := Lib.hid (show Blk wb br 24 #[.int .i64 (f J).pc, .int .i64 ((f J).r 0), .int .i64 ((f J).r 1), .int .i64 ((f J).r 2), .int .i64 ((f J).r 3), .int .i64 ((f J).r 4), .int .i64 ((f J).r 5), .int .i64 ((f J).r 6), .int .i64 ((f J).r 7), .int .i64 (f J).md] from by rw [hwb, hbr]; exact Blk.new _ _ _)
          have LR := Lib.hid (show wc.heap.size ≤ br ∧ wc.heap.size ≠ br from by have := HPWA.out.lt; omega)
          rw [← hwb, ← hbr]
          clear hwb hbr z0 z1 z2 z3 z4 z5 z6 z7 z8 z9
          have y9 : wb.cell? ⟨bz, 9, none⟩ = some (.int .i64 (f J).md) := (show Blk wb bz 24 #[.int .i64 (f J).pc, .int .i64 ((f J).r 0), .int .i64 ((f J).r 1), .int .i64 ((f J).r 2), .int .i64 ((f J).r 3), .int .i64 ((f J).r 4), .int .i64 ((f J).r 5), .int .i64 ((f J).r 6), .int .i64 ((f J).r 7), .int .i64 (f J).md] from HW.out.zb.only HGB.out (by simp)).cell 9
          have u9 : wb.cell? ⟨br, 9, none⟩ = some (.int .i64 (f J).md) := HPR0.out.cell 9
          have uf := HPR0.out.free 9
          by_cases hm : (f J).md = 1
          · have HPB := Lib.hid (show Blk wc bb 24 #[.int .i64 (f J).pc, .int .i64 ((f J).r 0), .int .i64 ((f J).r 1), .int .i64 ((f J).r 2), .int .i64 ((f J).r 3), .int .i64 ((f J).r 4), .int .i64 ((f J).r 5), .int .i64 ((f J).r 6), .int .i64 ((f J).r 7), .int .i64 0] from by have := HW.out.bb'; rw [Cu.woke_yes _ hm] at this; exact this)
            have hm2 : ((f J).md == 1) = true := by simp [hm]
            clear hm
            focus
              go_upto_region 23 with (fail)
              obtain ⟨wf, hwf⟩ : ∃ wf, wf = wb.setCell ⟨br, 9, none⟩ (.int .i64 0) := ⟨_, rfl⟩
              have HGF := Lib.hid (show wc.grownBy wf none from by rw [hwf]; exact Cu.grow_new HGB.out (only_put (only_refl _ _) 9 _) LR.out.1)
              have HPW := Lib.hid (show Blk wf wc.heap.size 24 #[.int .i64 (f J).pc, .int .i64 ((f J).r 0), .int .i64 (n % 65536), .int .i64 ((f J).r 2), .int .i64 ((f J).r 3), .int .i64 ((f J).r 4), .int .i64 ((f J).r 5), .int .i64 ((f J).r 6), .int .i64 ((f J).r 7), .int .i64 (f J).md] from by rw [hwf]; exact HPW0.out.far (by show wc.heap.size ≠ br; exact LR.out.2) _)
              have HPR := Lib.hid (show Blk wf br 24 #[.int .i64 (f J).pc, .int .i64 ((f J).r 0), .int .i64 ((f J).r 1), .int .i64 ((f J).r 2), .int .i64 ((f J).r 3), .int .i64 ((f J).r 4), .int .i64 ((f J).r 5), .int .i64 ((f J).r 6), .int .i64 ((f J).r 7), .int .i64 0] from by rw [hwf]; have := HPR0.out.put 9 (.int .i64 0); simp only [List.setIfInBounds_toArray, List.set_cons_zero, List.set_cons_succ] at this; exact this)
              rw [← hwf]
              clear hwf y9 u9 uf
              have HL := Lib.hid (Cu.live_any wf (HW.out.nm.grown (only_trans HW.out.gr HGF.out) (by simp)) (HW.out.nm.grown (only_trans HW.out.gr HGF.out) (by simp)).pos)
              have hq1 : ∀ W, (binOp BinOp.eql 24 (.agg #[.int .i64 (f J).pc, .int .i64 ((f J).r 0), .int .i64 (n % 65536), .int .i64 ((f J).r 2), .int .i64 ((f J).r 3), .int .i64 ((f J).r 4), .int .i64 ((f J).r 5), .int .i64 ((f J).r 6), .int .i64 ((f J).r 7), .int .i64 (f J).md]) (.agg #[.int .i64 (f J).pc, .int .i64 ((f J).r 0), .int .i64 (n % 65536), .int .i64 ((f J).r 2), .int .i64 ((f J).r 3), .int .i64 ((f J).r 4), .int .i64 ((f J).r 5), .int .i64 ((f J).r 6), .int .i64 ((f J).r 7), .int .i64 (f J).md])).run Tryd.prog W = .ok (.bool true) W := fun W => Cu.eql_lit _ _ _ _ _ _ _ _ _ _ W
              have hq2 : ∀ W, (binOp BinOp.eql 24 (.agg #[.int .i64 (f J).pc, .int .i64 ((f J).r 0), .int .i64 ((f J).r 1), .int .i64 ((f J).r 2), .int .i64 ((f J).r 3), .int .i64 ((f J).r 4), .int .i64 ((f J).r 5), .int .i64 ((f J).r 6), .int .i64 ((f J).r 7), .int .i64 0]) (.agg #[.int .i64 (f J).pc, .int .i64 ((f J).r 0), .int .i64 ((f J).r 1), .int .i64 ((f J).r 2), .int .i64 ((f J).r 3), .int .i64 ((f J).r 4), .int .i64 ((f J).r 5), .int .i64 ((f J).r 6), .int .i64 ((f J).r 7), .int .i64 0])).run Tryd.prog W = .ok (.bool true) W := fun W => Cu.eql_lit _ _ _ _ _ _ _ _ _ _ W
              go_wp2_with (go_at_call 7; (with_reducible refine HL.out.mono ?_); rintro e9 w9 ⟨rfl, b9⟩; have G9 := Lib.hid (only_trans HGF.out (Cu.grow_of b9)); obtain ⟨p0, p1, p2, p3, p4, p5, p6, p7, p8, p9⟩ := Cu.cells10 ((HPA.out.only HGF.out (by simp)).below b9 (Nat.lt_of_lt_of_le HPA.out.lt HGF.out.size)); obtain ⟨q0, q1, q2, q3, q4, q5, q6, q7, q8, q9⟩ := Cu.cells10 ((HPB.out.only HGF.out (by simp)).below b9 (Nat.lt_of_lt_of_le HPB.out.lt HGF.out.size)); obtain ⟨r0, r1, r2, r3, r4, r5, r6, r7, r8, r9⟩ := Cu.cells10 (HPW.out.below b9 HPW.out.lt); obtain ⟨s0, s1, s2, s3, s4, s5, s6, s7, s8, s9⟩ := Cu.cells10 (HPR.out.below b9 HPR.out.lt); clear b9)
              go_ret
              exact ⟨by first | rfl | (simp; done), Cu.below (only_trans HW.out.gr G9.out)⟩
          · have HPB := Lib.hid (show Blk wc bb 24 #[.int .i64 (f J).pc, .int .i64 ((f J).r 0), .int .i64 ((f J).r 1), .int .i64 ((f J).r 2), .int .i64 ((f J).r 3), .int .i64 ((f J).r 4), .int .i64 ((f J).r 5), .int .i64 ((f J).r 6), .int .i64 ((f J).r 7), .int .i64 (f J).md] from by have := HW.out.bb'; rw [Cu.woke_no _ hm] at this; exact this)
            have hm2 : ((f J).md == 1) = false := by simpa using hm
            focus
              go_upto_region 23 with (fail)
              obtain ⟨wf, hwf⟩ : ∃ wf, wf = wb := ⟨_, rfl⟩
              have HGF := Lib.hid (show wc.grownBy wf none from by rw [hwf]; exact HGB.out)
              have HPW := Lib.hid (show Blk wf wc.heap.size 24 #[.int .i64 (f J).pc, .int .i64 ((f J).r 0), .int .i64 (n % 65536), .int .i64 ((f J).r 2), .int .i64 ((f J).r 3), .int .i64 ((f J).r 4), .int .i64 ((f J).r 5), .int .i64 ((f J).r 6), .int .i64 ((f J).r 7), .int .i64 (f J).md] from by rw [hwf]; exact HPW0.out)
              have HPR := Lib.hid (show Blk wf br 24 #[.int .i64 (f J).pc, .int .i64 ((f J).r 0), .int .i64 ((f J).r 1), .int .i64 ((f J).r 2), .int .i64 ((f J).r 3), .int .i64 ((f J).r 4), .int .i64 ((f J).r 5), .int .i64 ((f J).r 6), .int .i64 ((f J).r 7), .int .i64 (f J).md] from by rw [hwf]; exact HPR0.out)
              rw [← hwf]
              clear hwf y9 u9 uf
              have HL := Lib.hid (Cu.live_any wf (HW.out.nm.grown (only_trans HW.out.gr HGF.out) (by simp)) (HW.out.nm.grown (only_trans HW.out.gr HGF.out) (by simp)).pos)
              have hq1 : ∀ W, (binOp BinOp.eql 24 (.agg #[.int .i64 (f J).pc, .int .i64 ((f J).r 0), .int .i64 (n % 65536), .int .i64 ((f J).r 2), .int .i64 ((f J).r 3), .int .i64 ((f J).r 4), .int .i64 ((f J).r 5), .int .i64 ((f J).r 6), .int .i64 ((f J).r 7), .int .i64 (f J).md]) (.agg #[.int .i64 (f J).pc, .int .i64 ((f J).r 0), .int .i64 (n % 65536), .int .i64 ((f J).r 2), .int .i64 ((f J).r 3), .int .i64 ((f J).r 4), .int .i64 ((f J).r 5), .int .i64 ((f J).r 6), .int .i64 ((f J).r 7), .int .i64 (f J).md])).run Tryd.prog W = .ok (.bool true) W := fun W => Cu.eql_lit _ _ _ _ _ _ _ _ _ _ W
              have hq2 : ∀ W, (binOp BinOp.eql 24 (.agg #[.int .i64 (f J).pc, .int .i64 ((f J).r 0), .int .i64 ((f J).r 1), .int .i64 ((f J).r 2), .int .i64 ((f J).r 3), .int .i64 ((f J).r 4), .int .i64 ((f J).r 5), .int .i64 ((f J).r 6), .int .i64 ((f J).r 7), .int .i64 (f J).md]) (.agg #[.int .i64 (f J).pc, .int .i64 ((f J).r 0), .int .i64 ((f J).r 1), .int .i64 ((f J).r 2), .int .i64 ((f J).r 3), .int .i64 ((f J).r 4), .int .i64 ((f J).r 5), .int .i64 ((f J).r 6), .int .i64 ((f J).r 7), .int .i64 (f J).md])).run Tryd.prog W = .ok (.bool true) W := fun W => Cu.eql_lit _ _ _ _ _ _ _ _ _ _ W
              go_wp2_with (go_at_call 7; (with_reducible refine HL.out.mono ?_); rintro e9 w9 ⟨rfl, b9⟩; have G9 := Lib.hid (only_trans HGF.out (Cu.grow_of b9)); obtain ⟨p0, p1, p2, p3, p4, p5, p6, p7, p8, p9⟩ := Cu.cells10 ((HPA.out.only HGF.out (by simp)).below b9 (Nat.lt_of_lt_of_le HPA.out.lt HGF.out.size)); obtain ⟨q0, q1, q2, q3, q4, q5, q6, q7, q8, q9⟩ := Cu.cells10 ((HPB.out.only HGF.out (by simp)).below b9 (Nat.lt_of_lt_of_le HPB.out.lt HGF.out.size)); obtain ⟨r0, r1, r2, r3, r4, r5, r6, r7, r8, r9⟩ := Cu.cells10 (HPW.out.below b9 HPW.out.lt); obtain ⟨s0, s1, s2, s3, s4, s5, s6, s7, s8, s9⟩ := Cu.cells10 (HPR.out.below b9 HPR.out.lt); clear b9)
              go_ret
              exact ⟨by first | rfl | (simp; done), Cu.below (only_trans HW.out.gr G9.out)⟩
        · go_upto_region 20 with (fail)
          rw [HNM.out]
          have HPA := Lib.hid (show Blk wc ba 24 #[.int .i64 (f J).pc, .int .i64 ((f J).r 0), .int .i64 ((f J).r 1), .int .i64 (n % 65536), .int .i64 ((f J).r 3), .int .i64 ((f J).r 4), .int .i64 ((f J).r 5), .int .i64 ((f J).r 6), .int .i64 ((f J).r 7), .int .i64 (f J).md] from by have := HW.out.ab; rw [Cu.gave_2] at this; exact this)
          skip
          obtain ⟨wa, hwa⟩ : ∃ wa, wa = wc.alloc (.cells #[.int .i64 (f J).pc, .int .i64 ((f J).r 0), .int .i64 ((f J).r 1), .int .i64 (n % 65536), .int .i64 ((f J).r 3), .int .i64 ((f J).r 4), .int .i64 ((f J).r 5), .int .i64 ((f J).r 6), .int .i64 ((f J).r 7), .int .i64 (f J).md] 24) := ⟨_, rfl⟩
          have HGA := Lib.hid (show wc.grownBy wa none from by rw [hwa]; exact only_alloc (only_refl _ none) _)
          have HPWA := Lib.hid (show Blk wa wc.heap.size 24 #[.int .i64 (f J).pc, .int .i64 ((f J).r 0), .int .i64 ((f J).r 1), .int .i64 (n % 65536), .int .i64 ((f J).r 3), .int .i64 ((f J).r 4), .int .i64 ((f J).r 5), .int .i64 ((f J).r 6), .int .i64 ((f J).r 7), .int .i64 (f J).md] from by rw [hwa]; exact Blk.new _ _ _)
          rw [← hwa]
          clear hwa z0 z1 z2 z3 z4 z5 z6 z7 z8 z9
          obtain ⟨z0, z1, z2, z3, z4, z5, z6, z7, z8, z9⟩ := Cu.cells10 (show Blk wa bz 24 #[.int .i64 (f J).pc, .int .i64 ((f J).r 0), .int .i64 ((f J).r 1), .int .i64 ((f J).r 2), .int .i64 ((f J).r 3), .int .i64 ((f J).r 4), .int .i64 ((f J).r 5), .int .i64 ((f J).r 6), .int .i64 ((f J).r 7), .int .i64 (f J).md] from HW.out.zb.only HGA.out (by simp))
          go_upto_region 21 with (fail)
          obtain ⟨br, hbr⟩ : ∃ br, br = wa.heap.size := ⟨_, rfl⟩
          obtain ⟨wb, hwb⟩ : ∃ wb, wb = wa.alloc (.cells #[.int .i64 (f J).pc, .int .i64 ((f J).r 0), .int .i64 ((f J).r 1), .int .i64 ((f J).r 2), .int .i64 ((f J).r 3), .int .i64 ((f J).r 4), .int .i64 ((f J).r 5), .int .i64 ((f J).r 6), .int .i64 ((f J).r 7), .int .i64 (f J).md] 24) := ⟨_, rfl⟩
          have HGB := Lib.hid (show wc.grownBy wb none from by rw [hwb]; exact only_alloc HGA.out _)
          have HPW0 := Lib.hid (show Blk wb wc.heap.size 24 #[.int .i64 (f J).pc, .int .i64 ((f J).r 0), .int .i64 ((f J).r 1), .int .i64 (n % 65536), .int .i64 ((f J).r 3), .int .i64 ((f J).r 4), .int .i64 ((f J).r 5), .int .i64 ((f J).r 6), .int .i64 ((f J).r 7), .int .i64 (f J).md] from by rw [hwb]; exact HPWA.out.alloc _)
          have HPR0 := Lib.hid (show Blk wb br 24 #[.int .i64 (f J).pc, .int .i64 ((f J).r 0), .int .i64 ((f J).r 1), .int .i64 ((f J).r 2), .int .i64 ((f J).r 3), .int .i64 ((f J).r 4), .int .i64 ((f J).r 5), .int .i64 ((f J).r 6), .int .i64 ((f J).r 7), .int .i64 (f J).md] from by rw [hwb, hbr]; exact Blk.new _ _ _)
          have LR := Lib.hid (show wc.heap.size ≤ br ∧ wc.heap.size ≠ br from by have := HPWA.out.lt; omega)
          rw [← hwb, ← hbr]
          clear hwb hbr z0 z1 z2 z3 z4 z5 z6 z7 z8 z9
          have y9 : wb.cell? ⟨bz, 9, none⟩ = some (.int .i64 (f J).md) := (show Blk wb bz 24 #[.int .i64 (f J).pc, .int .i64 ((f J).r 0), .int .i64 ((f J).r 1), .int .i64 ((f J).r 2), .int .i64 ((f J).r 3), .int .i64 ((f J).r 4), .int .i64 ((f J).r 5), .int .i64 ((f J).r 6), .int .i64 ((f J).r 7), .int .i64 (f J).md] from HW.out.zb.only HGB.out (by simp)).cell 9
          have u9 : wb.cell? ⟨br, 9, none⟩ = some (.int .i64 (f J).md) := HPR0.out.cell 9
          have uf := HPR0.out.free 9
          by_cases hm : (f J).md = 1
          · have HPB := Lib.hid (show Blk wc bb 24 #[.int .i64 (f J).pc, .int .i64 ((f J).r 0), .int .i64 ((f J).r 1), .int .i64 ((f J).r 2), .int .i64 ((f J).r 3), .int .i64 ((f J).r 4), .int .i64 ((f J).r 5), .int .i64 ((f J).r 6), .int .i64 ((f J).r 7), .int .i64 0] from by have := HW.out.bb'; rw [Cu.woke_yes _ hm] at this; exact this)
            have hm2 : ((f J).md == 1) = true := by simp [hm]
            clear hm
            focus
              go_upto_region 23 with (fail)
              obtain ⟨wf, hwf⟩ : ∃ wf, wf = wb.setCell ⟨br, 9, none⟩ (.int .i64 0) := ⟨_, rfl⟩
              have HGF := Lib.hid (show wc.grownBy wf none from by rw [hwf]; exact Cu.grow_new HGB.out (only_put (only_refl _ _) 9 _) LR.out.1)
              have HPW := Lib.hid (show Blk wf wc.heap.size 24 #[.int .i64 (f J).pc, .int .i64 ((f J).r 0), .int .i64 ((f J).r 1), .int .i64 (n % 65536), .int .i64 ((f J).r 3), .int .i64 ((f J).r 4), .int .i64 ((f J).r 5), .int .i64 ((f J).r 6), .int .i64 ((f J).r 7), .int .i64 (f J).md] from by rw [hwf]; exact HPW0.out.far (by show wc.heap.size ≠ br; exact LR.out.2) _)
              have HPR := Lib.hid (show Blk wf br 24 #[.int .i64 (f J).pc, .int .i64 ((f J).r 0), .int .i64 ((f J).r 1), .int .i64 ((f J).r 2), .int .i64 ((f J).r 3), .int .i64 ((f J).r 4), .int .i64 ((f J).r 5), .int .i64 ((f J).r 6), .int .i64 ((f J).r 7), .int .i64 0] from by rw [hwf]; have := HPR0.out.put 9 (.int .i64 0); simp only [List.setIfInBounds_toArray, List.set_cons_zero, List.set_cons_succ] at this; exact this)
              rw [← hwf]
              clear hwf y9 u9 uf
              have HL := Lib.hid (Cu.live_any wf (HW.out.nm.grown (only_trans HW.out.gr HGF.out) (by simp)) (HW.out.nm.grown (only_trans HW.out.gr HGF.out) (by simp)).pos)
              have hq1 : ∀ W, (binOp BinOp.eql 24 (.agg #[.int .i64 (f J).pc, .int .i64 ((f J).r 0), .int .i64 ((f J).r 1), .int .i64 (n % 65536), .int .i64 ((f J).r 3), .int .i64 ((f J).r 4), .int .i64 ((f J).r 5), .int .i64 ((f J).r 6), .int .i64 ((f J).r 7), .int .i64 (f J).md]) (.agg #[.int .i64 (f J).pc, .int .i64 ((f J).r 0), .int .i64 ((f J).r 1), .int .i64 (n % 65536), .int .i64 ((f J).r 3), .int .i64 ((f J).r 4), .int .i64 ((f J).r 5), .int .i64 ((f J).r 6), .int .i64 ((f J).r 7), .int .i64 (f J).md])).run Tryd.prog W = .ok (.bool true) W := fun W => Cu.eql_lit _ _ _ _ _ _ _ _ _ _ W
              have hq2 : ∀ W, (binOp BinOp.eql 24 (.agg #[.int .i64 (f J).pc, .int .i64 ((f J).r 0), .int .i64 ((f J).r 1), .int .i64 ((f J).r 2), .int .i64 ((f J).r 3), .int .i64 ((f J).r 4), .int .i64 ((f J).r 5), .int .i64 ((f J).r 6), .int .i64 ((f J).r 7), .int .i64 0]) (.agg #[.int .i64 (f J).pc, .int .i64 ((f J).r 0), .int .i64 ((f J).r 1), .int .i64 ((f J).r 2), .int .i64 ((f J).r 3), .int .i64 ((f J).r 4), .int .i64 ((f J).r 5), .int .i64 ((f J).r 6), .int .i64 ((f J).r 7), .int .i64 0])).run Tryd.prog W = .ok (.bool true) W := fun W => Cu.eql_lit _ _ _ _ _ _ _ _ _ _ W
              go_wp2_with (go_at_call 7; (with_reducible refine HL.out.mono ?_); rintro e9 w9 ⟨rfl, b9⟩; have G9 := Lib.hid (only_trans HGF.out (Cu.grow_of b9)); obtain ⟨p0, p1, p2, p3, p4, p5, p6, p7, p8, p9⟩ := Cu.cells10 ((HPA.out.only HGF.out (by simp)).below b9 (Nat.lt_of_lt_of_le HPA.out.lt HGF.out.size)); obtain ⟨q0, q1, q2, q3, q4, q5, q6, q7, q8, q9⟩ := Cu.cells10 ((HPB.out.only HGF.out (by simp)).below b9 (Nat.lt_of_lt_of_le HPB.out.lt HGF.out.size)); obtain ⟨r0, r1, r2, r3, r4, r5, r6, r7, r8, r9⟩ := Cu.cells10 (HPW.out.below b9 HPW.out.lt); obtain ⟨s0, s1, s2, s3, s4, s5, s6, s7, s8, s9⟩ := Cu.cells10 (HPR.out.below b9 HPR.out.lt); clear b9)
              go_ret
              exact ⟨by first | rfl | (simp; done), Cu.below (only_trans HW.out.gr G9.out)⟩
          · have HPB := Lib.hid (show Blk wc bb 24 #[.int .i64 (f J).pc, .int .i64 ((f J).r 0), .int .i64 ((f J).r 1), .int .i64 ((f J).r 2), .int .i64 ((f J).r 3), .int .i64 ((f J).r 4), .int .i64 ((f J).r 5), .int .i64 ((f J).r 6), .int .i64 ((f J).r 7), .int .i64 (f J).md] from by have := HW.out.bb'; rw [Cu.woke_no _ hm] at this; exact this)
            have hm2 : ((f J).md == 1) = false := by simpa using hm
            focus
              go_upto_region 23 with (fail)
              obtain ⟨wf, hwf⟩ : ∃ wf, wf = wb := ⟨_, rfl⟩
              have HGF := Lib.hid (show wc.grownBy wf none from by rw [hwf]; exact HGB.out)
              have HPW := Lib.hid (show Blk wf wc.heap.size 24 #[.int .i64 (f J).pc, .int .i64 ((f J).r 0), .int .i64 ((f J).r 1), .int .i64 (n % 65536), .int .i64 ((f J).r 3), .int .i64 ((f J).r 4), .int .i64 ((f J).r 5), .int .i64 ((f J).r 6), .int .i64 ((f J).r 7), .int .i64 (f J).md] from by rw [hwf]; exact HPW0.out)
              have HPR := Lib.hid (show Blk wf br 24 #[.int .i64 (f J).pc, .int .i64 ((f J).r 0), .int .i64 ((f J).r 1), .int .i64 ((f J).r 2), .int .i64 ((f J).r 3), .int .i64 ((f J).r 4), .int .i64 ((f J).r 5), .int .i64 ((f J).r 6), .int .i64 ((f J).r 7), .int .i64 (f J).md] from by rw [hwf]; exact HPR0.out)
              rw [← hwf]
              clear hwf y9 u9 uf
              have HL := Lib.hid (Cu.live_any wf (HW.out.nm.grown (only_trans HW.out.gr HGF.out) (by simp)) (HW.out.nm.grown (only_trans HW.out.gr HGF.out) (by simp)).pos)
              have hq1 : ∀ W, (binOp BinOp.eql 24 (.agg #[.int .i64 (f J).pc, .int .i64 ((f J).r 0), .int .i64 ((f J).r 1), .int .i64 (n % 65536), .int .i64 ((f J).r 3), .int .i64 ((f J).r 4), .int .i64 ((f J).r 5), .int .i64 ((f J).r 6), .int .i64 ((f J).r 7), .int .i64 (f J).md]) (.agg #[.int .i64 (f J).pc, .int .i64 ((f J).r 0), .int .i64 ((f J).r 1), .int .i64 (n % 65536), .int .i64 ((f J).r 3), .int .i64 ((f J).r 4), .int .i64 ((f J).r 5), .int .i64 ((f J).r 6), .int .i64 ((f J).r 7), .int .i64 (f J).md])).run Tryd.prog W = .ok (.bool true) W := fun W => Cu.eql_lit _ _ _ _ _ _ _ _ _ _ W
              have hq2 : ∀ W, (binOp BinOp.eql 24 (.agg #[.int .i64 (f J).pc, .int .i64 ((f J).r 0), .int .i64 ((f J).r 1), .int .i64 ((f J).r 2), .int .i64 ((f J).r 3), .int .i64 ((f J).r 4), .int .i64 ((f J).r 5), .int .i64 ((f J).r 6), .int .i64 ((f J).r 7), .int .i64 (f J).md]) (.agg #[.int .i64 (f J).pc, .int .i64 ((f J).r 0), .int .i64 ((f J).r 1), .int .i64 ((f J).r 2), .int .i64 ((f J).r 3), .int .i64 ((f J).r 4), .int .i64 ((f J).r 5), .int .i64 ((f J).r 6), .int .i64 ((f J).r 7), .int .i64 (f J).md])).run Tryd.prog W = .ok (.bool true) W := fun W => Cu.eql_lit _ _ _ _ _ _ _ _ _ _ W
              go_wp2_with (go_at_call 7; (with_reducible refine HL.out.mono ?_); rintro e9 w9 ⟨rfl, b9⟩; have G9 := Lib.hid (only_trans HGF.out (Cu.grow_of b9)); obtain ⟨p0, p1, p2, p3, p4, p5, p6, p7, p8, p9⟩ := Cu.cells10 ((HPA.out.only HGF.out (by simp)).below b9 (Nat.lt_of_lt_of_le HPA.out.lt HGF.out.size)); obtain ⟨q0, q1, q2, q3, q4, q5, q6, q7, q8, q9⟩ := Cu.cells10 ((HPB.out.only HGF.out (by simp)).below b9 (Nat.lt_of_lt_of_le HPB.out.lt HGF.out.size)); obtain ⟨r0, r1, r2, r3, r4, r5, r6, r7, r8, r9⟩ := Cu.cells10 (HPW.out.below b9 HPW.out.lt); obtain ⟨s0, s1, s2, s3, s4, s5, s6, s7, s8, s9⟩ := Cu.cells10 (HPR.out.below b9 HPR.out.lt); clear b9)
              go_ret
              exact ⟨by first | rfl | (simp; done), Cu.below (only_trans HW.out.gr G9.out)⟩
        · go_upto_region 20 with (fail)
          rw [HNM.out]
          have HPA := Lib.hid (show Blk wc ba 24 #[.int .i64 (f J).pc, .int .i64 ((f J).r 0), .int .i64 ((f J).r 1), .int .i64 ((f J).r 2), .int .i64 (n % 65536), .int .i64 ((f J).r 4), .int .i64 ((f J).r 5), .int .i64 ((f J).r 6), .int .i64 ((f J).r 7), .int .i64 (f J).md] from by have := HW.out.ab; rw [Cu.gave_3] at this; exact this)
          skip
          obtain ⟨wa, hwa⟩ : ∃ wa, wa = wc.alloc (.cells #[.int .i64 (f J).pc, .int .i64 ((f J).r 0), .int .i64 ((f J).r 1), .int .i64 ((f J).r 2), .int .i64 (n % 65536), .int .i64 ((f J).r 4), .int .i64 ((f J).r 5), .int .i64 ((f J).r 6), .int .i64 ((f J).r 7), .int .i64 (f J).md] 24) := ⟨_, rfl⟩
          have HGA := Lib.hid (show wc.grownBy wa none from by rw [hwa]; exact only_alloc (only_refl _ none) _)
          have HPWA := Lib.hid (show Blk wa wc.heap.size 24 #[.int .i64 (f J).pc, .int .i64 ((f J).r 0), .int .i64 ((f J).r 1), .int .i64 ((f J).r 2), .int .i64 (n % 65536), .int .i64 ((f J).r 4), .int .i64 ((f J).r 5), .int .i64 ((f J).r 6), .int .i64 ((f J).r 7), .int .i64 (f J).md] from by rw [hwa]; exact Blk.new _ _ _)
          rw [← hwa]
          clear hwa z0 z1 z2 z3 z4 z5 z6 z7 z8 z9
          obtain ⟨z0, z1, z2, z3, z4, z5, z6, z7, z8, z9⟩ := Cu.cells10 (show Blk wa bz 24 #[.int .i64 (f J).pc, .int .i64 ((f J).r 0), .int .i64 ((f J).r 1), .int .i64 ((f J).r 2), .int .i64 ((f J).r 3), .int .i64 ((f J).r 4), .int .i64 ((f J).r 5), .int .i64 ((f J).r 6), .int .i64 ((f J).r 7), .int .i64 (f J).md] from HW.out.zb.only HGA.out (by simp))
          go_upto_region 21 with (fail)
          obtain ⟨br, hbr⟩ : ∃ br, br = wa.heap.size := ⟨_, rfl⟩
          obtain ⟨wb, hwb⟩ : ∃ wb, wb = wa.alloc (.cells #[.int .i64 (f J).pc, .int .i64 ((f J).r 0), .int .i64 ((f J).r 1), .int .i64 ((f J).r 2), .int .i64 ((f J).r 3), .int .i64 ((f J).r 4), .int .i64 ((f J).r 5), .int .i64 ((f J).r 6), .int .i64 ((f J).r 7), .int .i64 (f J).md] 24) := ⟨_, rfl⟩
          have HGB := Lib.hid (show wc.grownBy wb none from by rw [hwb]; exact only_alloc HGA.out _)
          have HPW0 := Lib.hid (show Blk wb wc.heap.size 24 #[.int .i64 (f J).pc, .int .i64 ((f J).r 0), .int .i64 ((f J).r 1), .int .i64 ((f J).r 2), .int .i64 (n % 65536), .int .i64 ((f J).r 4), .int .i64 ((f J).r 5), .int .i64 ((f J).r 6), .int .i64 ((f J).r 7), .int .i64 (f J).md] from by rw [hwb]; exact HPWA.out.alloc _)
          have HPR0 := Lib.hid (show Blk wb br 24 #[.int .i64 (f J).pc, .int .i64 ((f J).r 0), .int .i64 ((f J).r 1), .int .i64 ((f J).r 2), .int .i64 ((f J).r 3), .int .i64 ((f J).r 4), .int .i64 ((f J).r 5), .int .i64 ((f J).r 6), .int .i64 ((f J).r 7), .int .i64 (f J).md] from by rw [hwb, hbr]; exact Blk.new _ _ _)
          have LR := Lib.hid (show wc.heap.size ≤ br ∧ wc.heap.size ≠ br from by have := HPWA.out.lt; omega)
          rw [← hwb, ← hbr]
          clear hwb hbr z0 z1 z2 z3 z4 z5 z6 z7 z8 z9
          have y9 : wb.cell? ⟨bz, 9, none⟩ = some (.int .i64 (f J).md) := (show Blk wb bz 24 #[.int .i64 (f J).pc, .int .i64 ((f J).r 0), .int .i64 ((f J).r 1), .int .i64 ((f J).r 2), .int .i64 ((f J).r 3), .int .i64 ((f J).r 4), .int .i64 ((f J).r 5), .int .i64 ((f J).r 6), .int .i64 ((f J).r 7), .int .i64 (f J).md] from HW.out.zb.only HGB.out (by simp)).cell 9
          have u9 : wb.cell? ⟨br, 9, none⟩ = some (.int .i64 (f J).md) := HPR0.out.cell 9
          have uf := HPR0.out.free 9
          by_cases hm : (f J).md = 1
          · have HPB := Lib.hid (show Blk wc bb 24 #[.int .i64 (f J).pc, .int .i64 ((f J).r 0), .int .i64 ((f J).r 1), .int .i64 ((f J).r 2), .int .i64 ((f J).r 3), .int .i64 ((f J).r 4), .int .i64 ((f J).r 5), .int .i64 ((f J).r 6), .int .i64 ((f J).r 7), .int .i64 0] from by have := HW.out.bb'; rw [Cu.woke_yes _ hm] at this; exact this)
            have hm2 : ((f J).md == 1) = true := by simp [hm]
            clear hm
            focus
              go_upto_region 23 with (fail)
              obtain ⟨wf, hwf⟩ : ∃ wf, wf = wb.setCell ⟨br, 9, none⟩ (.int .i64 0) := ⟨_, rfl⟩
              have HGF := Lib.hid (show wc.grownBy wf none from by rw [hwf]; exact Cu.grow_new HGB.out (only_put (only_refl _ _) 9 _) LR.out.1)
              have HPW := Lib.hid (show Blk wf wc.heap.size 24 #[.int .i64 (f J).pc, .int .i64 ((f J).r 0), .int .i64 ((f J).r 1), .int .i64 ((f J).r 2), .int .i64 (n % 65536), .int .i64 ((f J).r 4), .int .i64 ((f J).r 5), .int .i64 ((f J).r 6), .int .i64 ((f J).r 7), .int .i64 (f J).md] from by rw [hwf]; exact HPW0.out.far (by show wc.heap.size ≠ br; exact LR.out.2) _)
              have HPR := Lib.hid (show Blk wf br 24 #[.int .i64 (f J).pc, .int .i64 ((f J).r 0), .int .i64 ((f J).r 1), .int .i64 ((f J).r 2), .int .i64 ((f J).r 3), .int .i64 ((f J).r 4), .int .i64 ((f J).r 5), .int .i64 ((f J).r 6), .int .i64 ((f J).r 7), .int .i64 0] from by rw [hwf]; have := HPR0.out.put 9 (.int .i64 0); simp only [List.setIfInBounds_toArray, List.set_cons_zero, List.set_cons_succ] at this; exact this)
              rw [← hwf]
              clear hwf y9 u9 uf
              have HL := Lib.hid (Cu.live_any wf (HW.out.nm.grown (only_trans HW.out.gr HGF.out) (by simp)) (HW.out.nm.grown (only_trans HW.out.gr HGF.out) (by simp)).pos)
              have hq1 : ∀ W, (binOp BinOp.eql 24 (.agg #[.int .i64 (f J).pc, .int .i64 ((f J).r 0), .int .i64 ((f J).r 1), .int .i64 ((f J).r 2), .int .i64 (n % 65536), .int .i64 ((f J).r 4), .int .i64 ((f J).r 5), .int .i64 ((f J).r 6), .int .i64 ((f J).r 7), .int .i64 (f J).md]) (.agg #[.int .i64 (f J).pc, .int .i64 ((f J).r 0), .int .i64 ((f J).r 1), .int .i64 ((f J).r 2), .int .i64 (n % 65536), .int .i64 ((f J).r 4), .int .i64 ((f J).r 5), .int .i64 ((f J).r 6), .int .i64 ((f J).r 7), .int .i64 (f J).md])).run Tryd.prog W = .ok (.bool true) W := fun W => Cu.eql_lit _ _ _ _ _ _ _ _ _ _ W
              have hq2 : ∀ W, (binOp BinOp.eql 24 (.agg #[.int .i64 (f J).pc, .int .i64 ((f J).r 0), .int .i64 ((f J).r 1), .int .i64 ((f J).r 2), .int .i64 ((f J).r 3), .int .i64 ((f J).r 4), .int .i64 ((f J).r 5), .int .i64 ((f J).r 6), .int .i64 ((f J).r 7), .int .i64 0]) (.agg #[.int .i64 (f J).pc, .int .i64 ((f J).r 0), .int .i64 ((f J).r 1), .int .i64 ((f J).r 2), .int .i64 ((f J).r 3), .int .i64 ((f J).r 4), .int .i64 ((f J).r 5), .int .i64 ((f J).r 6), .int .i64 ((f J).r 7), .int .i64 0])).run Tryd.prog W = .ok (.bool true) W := fun W => Cu.eql_lit _ _ _ _ _ _ _ _ _ _ W
              go_wp2_with (go_at_call 7; (with_reducible refine HL.out.mono ?_); rintro e9 w9 ⟨rfl, b9⟩; have G9 := Lib.hid (only_trans HGF.out (Cu.grow_of b9)); obtain ⟨p0, p1, p2, p3, p4, p5, p6, p7, p8, p9⟩ := Cu.cells10 ((HPA.out.only HGF.out (by simp)).below b9 (Nat.lt_of_lt_of_le HPA.out.lt HGF.out.size)); obtain ⟨q0, q1, q2, q3, q4, q5, q6, q7, q8, q9⟩ := Cu.cells10 ((HPB.out.only HGF.out (by simp)).below b9 (Nat.lt_of_lt_of_le HPB.out.lt HGF.out.size)); obtain ⟨r0, r1, r2, r3, r4, r5, r6, r7, r8, r9⟩ := Cu.cells10 (HPW.out.below b9 HPW.out.lt); obtain ⟨s0, s1, s2, s3, s4, s5, s6, s7, s8, s9⟩ := Cu.cells10 (HPR.out.below b9 HPR.out.lt); clear b9)
              go_ret
              exact ⟨by first | rfl | (simp; done), Cu.below (only_trans HW.out.gr G9.out)⟩
          · have HPB := Lib.hid (show Blk wc bb 24 #[.int .i64 (f J).pc, .int .i64 ((f J).r 0), .int .i64 ((f J).r 1), .int .i64 ((f J).r 2), .int .i64 ((f J).r 3), .int .i64 ((f J).r 4), .int .i64 ((f J).r 5), .int .i64 ((f J).r 6), .int .i64 ((f J).r 7), .int .i64 (f J).md] from by have := HW.out.bb'; rw [Cu.woke_no _ hm] at this; exact this)
            have hm2 : ((f J).md == 1) = false := by simpa using hm
            focus
              go_upto_region 23 with (fail)
              obtain ⟨wf, hwf⟩ : ∃ wf, wf = wb := ⟨_, rfl⟩
              have HGF := Lib.hid (show wc.grownBy wf none from by rw [hwf]; exact HGB.out)
              have HPW := Lib.hid (show Blk wf wc.heap.size 24 #[.int .i64 (f J).pc, .int .i64 ((f J).r 0), .int .i64 ((f J).r 1), .int .i64 ((f J).r 2), .int .i64 (n % 65536), .int .i64 ((f J).r 4), .int .i64 ((f J).r 5), .int .i64 ((f J).r 6), .int .i64 ((f J).r 7), .int .i64 (f J).md] from by rw [hwf]; exact HPW0.out)
              have HPR := Lib.hid (show Blk wf br 24 #[.int .i64 (f J).pc, .int .i64 ((f J).r 0), .int .i64 ((f J).r 1), .int .i64 ((f J).r 2), .int .i64 ((f J).r 3), .int .i64 ((f J).r 4), .int .i64 ((f J).r 5), .int .i64 ((f J).r 6), .int .i64 ((f J).r 7), .int .i64 (f J).md] from by rw [hwf]; exact HPR0.out)
              rw [← hwf]
              clear hwf y9 u9 uf
              have HL := Lib.hid (Cu.live_any wf (HW.out.nm.grown (only_trans HW.out.gr HGF.out) (by simp)) (HW.out.nm.grown (only_trans HW.out.gr HGF.out) (by simp)).pos)
              have hq1 : ∀ W, (binOp BinOp.eql 24 (.agg #[.int .i64 (f J).pc, .int .i64 ((f J).r 0), .int .i64 ((f J).r 1), .int .i64 ((f J).r 2), .int .i64 (n % 65536), .int .i64 ((f J).r 4), .int .i64 ((f J).r 5), .int .i64 ((f J).r 6), .int .i64 ((f J).r 7), .int .i64 (f J).md]) (.agg #[.int .i64 (f J).pc, .int .i64 ((f J).r 0), .int .i64 ((f J).r 1), .int .i64 ((f J).r 2), .int .i64 (n % 65536), .int .i64 ((f J).r 4), .int .i64 ((f J).r 5), .int .i64 ((f J).r 6), .int .i64 ((f J).r 7), .int .i64 (f J).md])).run Tryd.prog W = .ok (.bool true) W := fun W => Cu.eql_lit _ _ _ _ _ _ _ _ _ _ W
              have hq2 : ∀ W, (binOp BinOp.eql 24 (.agg #[.int .i64 (f J).pc, .int .i64 ((f J).r 0), .int .i64 ((f J).r 1), .int .i64 ((f J).r 2), .int .i64 ((f J).r 3), .int .i64 ((f J).r 4), .int .i64 ((f J).r 5), .int .i64 ((f J).r 6), .int .i64 ((f J).r 7), .int .i64 (f J).md]) (.agg #[.int .i64 (f J).pc, .int .i64 ((f J).r 0), .int .i64 ((f J).r 1), .int .i64 ((f J).r 2), .int .i64 ((f J).r 3), .int .i64 ((f J).r 4), .int .i64 ((f J).r 5), .int .i64 ((f J).r 6), .int .i64 ((f J).r 7), .int .i64 (f J).md])).run Tryd.prog W = .ok (.bool true) W := fun W => Cu.eql_lit _ _ _ _ _ _ _ _ _ _ W
              go_wp2_with (go_at_call 7; (with_reducible refine HL.out.mono ?_); rintro e9 w9 ⟨rfl, b9⟩; have G9 := Lib.hid (only_trans HGF.out (Cu.grow_of b9)); obtain ⟨p0, p1, p2, p3, p4, p5, p6, p7, p8, p9⟩ := Cu.cells10 ((HPA.out.only HGF.out (by simp)).below b9 (Nat.lt_of_lt_of_le HPA.out.lt HGF.out.size)); obtain ⟨q0, q1, q2, q3, q4, q5, q6, q7, q8, q9⟩ := Cu.cells10 ((HPB.out.only HGF.out (by simp)).below b9 (Nat.lt_of_lt_of_le HPB.out.lt HGF.out.size)); obtain ⟨r0, r1, r2, r3, r4, r5, r6, r7, r8, r9⟩ := Cu.cells10 (HPW.out.below b9 HPW.out.lt); obtain ⟨s0, s1, s2, s3, s4, s5, s6, s7, s8, s9⟩ := Cu.cells10 (HPR.out.below b9 HPR.out.lt); clear b9)
              go_ret
              exact ⟨by first | rfl | (simp; done), Cu.below (only_trans HW.out.gr G9.out)⟩
        · go_upto_region 20 with (fail)
          rw [HNM.out]
          have HPA := Lib.hid (show Blk wc ba 24 #[.int .i64 (f J).pc, .int .i64 ((f J).r 0), .int .i64 ((f J).r 1), .int .i64 ((f J).r 2), .int .i64 ((f J).r 3), .int .i64 (n % 65536), .int .i64 ((f J).r 5), .int .i64 ((f J).r 6), .int .i64 ((f J).r 7), .int .i64 (f J).md] from by have := HW.out.ab; rw [Cu.gave_4] at this; exact this)
          skip
          obtain ⟨wa, hwa⟩ : ∃ wa, wa = wc.alloc (.cells #[.int .i64 (f J).pc, .int .i64 ((f J).r 0), .int .i64 ((f J).r 1), .int .i64 ((f J).r 2), .int .i64 ((f J).r 3), .int .i64 (n % 65536), .int .i64 ((f J).r 5), .int .i64 ((f J).r 6), .int .i64 ((f J).r 7), .int .i64 (f J).md] 24) := ⟨_, rfl⟩
          have HGA := Lib.hid (show wc.grownBy wa none from by rw [hwa]; exact only_alloc (only_refl _ none) _)
          have HPWA := Lib.hid (show Blk wa wc.heap.size 24 #[.int .i64 (f J).pc, .int .i64 ((f J).r 0), .int .i64 ((f J).r 1), .int .i64 ((f J).r 2), .int .i64 ((f J).r 3), .int .i64 (n % 65536), .int .i64 ((f J).r 5), .int .i64 ((f J).r 6), .int .i64 ((f J).r 7), .int .i64 (f J).md] from by rw [hwa]; exact Blk.new _ _ _)
          rw [← hwa]
          clear hwa z0 z1 z2 z3 z4 z5 z6 z7 z8 z9
          obtain ⟨z0, z1, z2, z3, z4, z5, z6, z7, z8, z9⟩ := Cu.cells10 (show Blk wa bz 24 #[.int .i64 (f J).pc, .int .i64 ((f J).r 0), .int .i64 ((f J).r 1), .int .i64 ((f J).r 2), .int .i64 ((f J).r 3), .int .i64 ((f J).r 4), .int .i64 ((f J).r 5), .int .i64 ((f J).r 6), .int .i64 ((f J).r 7), .int .i64 (f J).md] from HW.out.zb.only HGA.out (by simp))
          go_upto_region 21 with (fail)
          obtain ⟨br, hbr⟩ : ∃ br, br = wa.heap.size := ⟨_, rfl⟩
          obtain ⟨wb, hwb⟩ : ∃ wb, wb = wa.alloc (.cells #[.int .i64 (f J).pc, .int .i64 ((f J).r 0), .int .i64 ((f J).r 1), .int .i64 ((f J).r 2), .int .i64 ((f J).r 3), .int .i64 ((f J).r 4), .int .i64 ((f J).r 5), .int .i64 ((f J).r 6), .int .i64 ((f J).r 7), .int .i64 (f J).md] 24) := ⟨_, rfl⟩
          have HGB := Lib.hid (show wc.grownBy wb none from by rw [hwb]; exact only_alloc HGA.out _)
          have HPW0 := Lib.hid (show Blk wb wc.heap.size 24 #[.int .i64 (f J).pc, .int .i64 ((f J).r 0), .int .i64 ((f J).r 1), .int .i64 ((f J).r 2), .int .i64 ((f J).r 3), .int .i64 (n % 65536), .int .i64 ((f J).r 5), .int .i64 ((f J).r 6), .int .i64 ((f J).r 7), .int .i64 (f J).md] from by rw [hwb]; exact HPWA.out.alloc _)
          have HPR0 := Lib.hid (show Blk wb br 24 #[.int .i64 (f J).pc, .int .i64 ((f J).r 0), .int .i64 ((f J).r 1), .int .i64 ((f J).r 2), .int .i64 ((f J).r 3), .int .i64 ((f J).r 4), .int .i64 ((f J).r 5), .int .i64 ((f J).r 6), .int .i64 ((f J).r 7), .int .i64 (f J).md] from by rw [hwb, hbr]; exact Blk.new _ _ _)
          have LR := Lib.hid (show wc.heap.size ≤ br ∧ wc.heap.size ≠ br from by have := HPWA.out.lt; omega)
          rw [← hwb, ← hbr]
          clear hwb hbr z0 z1 z2 z3 z4 z5 z6 z7 z8 z9
          have y9 : wb.cell? ⟨bz, 9, none⟩ = some (.int .i64 (f J).md) := (show Blk wb bz 24 #[.int .i64 (f J).pc, .int .i64 ((f J).r 0), .int .i64 ((f J).r 1), .int .i64 ((f J).r 2), .int .i64 ((f J).r 3), .int .i64 ((f J).r 4), .int .i64 ((f J).r 5), .int .i64 ((f J).r 6), .int .i64 ((f J).r 7), .int .i64 (f J).md] from HW.out.zb.only HGB.out (by simp)).cell 9
          have u9 : wb.cell? ⟨br, 9, none⟩ = some (.int .i64 (f J).md) := HPR0.out.cell 9
          have uf := HPR0.out.free 9
          by_cases hm : (f J).md = 1
          · have HPB := Lib.hid (show Blk wc bb 24 #[.int .i64 (f J).pc, .int .i64 ((f J).r 0), .int .i64 ((f J).r 1), .int .i64 ((f J).r 2), .int .i64 ((f J).r 3), .int .i64 ((f J).r 4), .int .i64 ((f J).r 5), .int .i64 ((f J).r 6), .int .i64 ((f J).r 7), .int .i64 0] from by have := HW.out.bb'; rw [Cu.woke_yes _ hm] at this; exact this)
            have hm2 : ((f J).md == 1) = true := by simp [hm]
            clear hm
            focus
              go_upto_region 23 with (fail)
              obtain ⟨wf, hwf⟩ : ∃ wf, wf = wb.setCell ⟨br, 9, none⟩ (.int .i64 0) := ⟨_, rfl⟩
              have HGF := Lib.hid (show wc.grownBy wf none from by rw [hwf]; exact Cu.grow_new HGB.out (only_put (only_refl _ _) 9 _) LR.out.1)
              have HPW := Lib.hid (show Blk wf wc.heap.size 24 #[.int .i64 (f J).pc, .int .i64 ((f J).r 0), .int .i64 ((f J).r 1), .int .i64 ((f J).r 2), .int .i64 ((f J).r 3), .int .i64 (n % 65536), .int .i64 ((f J).r 5), .int .i64 ((f J).r 6), .int .i64 ((f J).r 7), .int .i64 (f J).md] from by rw [hwf]; exact HPW0.out.far (by show wc.heap.size ≠ br; exact LR.out.2) _)
              have HPR := Lib.hid (show Blk wf br 24 #[.int .i64 (f J).pc, .int .i64 ((f J).r 0), .int .i64 ((f J).r 1), .int .i64 ((f J).r 2), .int .i64 ((f J).r 3), .int .i64 ((f J).r 4), .int .i64 ((f J).r 5), .int .i64 ((f J).r 6), .int .i64 ((f J).r 7), .int .i64 0] from by rw [hwf]; have := HPR0.out.put 9 (.int .i64 0); simp only [List.setIfInBounds_toArray, List.set_cons_zero, List.set_cons_succ] at this; exact this)
              rw [← hwf]
              clear hwf y9 u9 uf
              have HL := Lib.hid (Cu.live_any wf (HW.out.nm.grown (only_trans HW.out.gr HGF.out) (by simp)) (HW.out.nm.grown (only_trans HW.out.gr HGF.out) (by simp)).pos)
              have hq1 : ∀ W, (binOp BinOp.eql 24 (.agg #[.int .i64 (f J).pc, .int .i64 ((f J).r 0), .int .i64 ((f J).r 1), .int .i64 ((f J).r 2), .int .i64 ((f J).r 3), .int .i64 (n % 65536), .int .i64 ((f J).r 5), .int .i64 ((f J).r 6), .int .i64 ((f J).r 7), .int .i64 (f J).md]) (.agg #[.int .i64 (f J).pc, .int .i64 ((f J).r 0), .int .i64 ((f J).r 1), .int .i64 ((f J).r 2), .int .i64 ((f J).r 3), .int .i64 (n % 65536), .int .i64 ((f J).r 5), .int .i64 ((f J).r 6), .int .i64 ((f J).r 7), .int .i64 (f J).md])).run Tryd.prog W = .ok (.bool true) W := fun W => Cu.eql_lit _ _ _ _ _ _ _ _ _ _ W
              have hq2 : ∀ W, (binOp BinOp.eql 24 (.agg #[.int .i64 (f J).pc, .int .i64 ((f J).r 0), .int .i64 ((f J).r 1), .int .i64 ((f J).r 2), .int .i64 ((f J).r 3), .int .i64 ((f J).r 4), .int .i64 ((f J).r 5), .int .i64 ((f J).r 6), .int .i64 ((f J).r 7), .int .i64 0]) (.agg #[.int .i64 (f J).pc, .int .i64 ((f J).r 0), .int .i64 ((f J).r 1), .int .i64 ((f J).r 2), .int .i64 ((f J).r 3), .int .i64 ((f J).r 4), .int .i64 ((f J).r 5), .int .i64 ((f J).r 6), .int .i64 ((f J).r 7), .int .i64 0])).run Tryd.prog W = .ok (.bool true) W := fun W => Cu.eql_lit _ _ _ _ _ _ _ _ _ _ W
              go_wp2_with (go_at_call 7; (with_reducible refine HL.out.mono ?_); rintro e9 w9 ⟨rfl, b9⟩; have G9 := Lib.hid (only_trans HGF.out (Cu.grow_of b9)); obtain ⟨p0, p1, p2, p3, p4, p5, p6, p7, p8, p9⟩ := Cu.cells10 ((HPA.out.only HGF.out (by simp)).below b9 (Nat.lt_of_lt_of_le HPA.out.lt HGF.out.size)); obtain ⟨q0, q1, q2, q3, q4, q5, q6, q7, q8, q9⟩ := Cu.cells10 ((HPB.out.only HGF.out (by simp)).below b9 (Nat.lt_of_lt_of_le HPB.out.lt HGF.out.size)); obtain ⟨r0, r1, r2, r3, r4, r5, r6, r7, r8, r9⟩ := Cu.cells10 (HPW.out.below b9 HPW.out.lt); obtain ⟨s0, s1, s2, s3, s4, s5, s6, s7, s8, s9⟩ := Cu.cells10 (HPR.out.below b9 HPR.out.lt); clear b9)
              go_ret
              exact ⟨by first | rfl | (simp; done), Cu.below (only_trans HW.out.gr G9.out)⟩
          · have HPB := Lib.hid (show Blk wc bb 24 #[.int .i64 (f J).pc, .int .i64 ((f J).r 0), .int .i64 ((f J).r 1), .int .i64 ((f J).r 2), .int .i64 ((f J).r 3), .int .i64 ((f J).r 4), .int .i64 ((f J).r 5), .int .i64 ((f J).r 6), .int .i64 ((f J).r 7), .int .i64 (f J).md] from by have := HW.out.bb'; rw [Cu.woke_no _ hm] at this; exact this)
            have hm2 : ((f J).md == 1) = false := by simpa using hm
            focus
              go_upto_region 23 with (fail)
              obtain ⟨wf, hwf⟩ : ∃ wf, wf = wb := ⟨_, rfl⟩
              have HGF := Lib.hid (show wc.grownBy wf none from by rw [hwf]; exact HGB.out)
              have HPW := Lib.hid (show Blk wf wc.heap.size 24 #[.int .i64 (f J).pc, .int .i64 ((f J).r 0), .int .i64 ((f J).r 1), .int .i64 ((f J).r 2), .int .i64 ((f J).r 3), .int .i64 (n % 65536), .int .i64 ((f J).r 5), .int .i64 ((f J).r 6), .int .i64 ((f J).r 7), .int .i64 (f J).md] from by rw [hwf]; exact HPW0.out)
              have HPR := Lib.hid (show Blk wf br 24 #[.int .i64 (f J).pc, .int .i64 ((f J).r 0), .int .i64 ((f J).r 1), .int .i64 ((f J).r 2), .int .i64 ((f J).r 3), .int .i64 ((f J).r 4), .int .i64 ((f J).r 5), .int .i64 ((f J).r 6), .int .i64 ((f J).r 7), .int .i64 (f J).md] from by rw [hwf]; exact HPR0.out)
              rw [← hwf]
              clear hwf y9 u9 uf
              have HL := Lib.hid (Cu.live_any wf (HW.out.nm.grown (only_trans HW.out.gr HGF.out) (by simp)) (HW.out.nm.grown (only_trans HW.out.gr HGF.out) (by simp)).pos)
              have hq1 : ∀ W, (binOp BinOp.eql 24 (.agg #[.int .i64 (f J).pc, .int .i64 ((f J).r 0), .int .i64 ((f J).r 1), .int .i64 ((f J).r 2), .int .i64 ((f J).r 3), .int .i64 (n % 65536), .int .i64 ((f J).r 5), .int .i64 ((f J).r 6), .int .i64 ((f J).r 7), .int .i64 (f J).md]) (.agg #[.int .i64 (f J).pc, .int .i64 ((f J).r 0), .int .i64 ((f J).r 1), .int .i64 ((f J).r 2), .int .i64 ((f J).r 3), .int .i64 (n % 65536), .int .i64 ((f J).r 5), .int .i64 ((f J).r 6), .int .i64 ((f J).r 7), .int .i64 (f J).md])).run Tryd.prog W = .ok (.bool true) W := fun W => Cu.eql_lit _ _ _ _ _ _ _ _ _ _ W
              have hq2 : ∀ W, (binOp BinOp.eql 24 (.agg #[.int .i64 (f J).pc, .int .i64 ((f J).r 0), .int .i64 ((f J).r 1), .int .i64 ((f J).r 2), .int .i64 ((f J).r 3), .int .i64 ((f J).r 4), .int .i64 ((f J).r 5), .int .i64 ((f J).r 6), .int .i64 ((f J).r 7), .int .i64 (f J).md]) (.agg #[.int .i64 (f J).pc, .int .i64 ((f J).r 0), .int .i64 ((f J).r 1), .int .i64 ((f J).r 2), .int .i64 ((f J).r 3), .int .i64 ((f J).r 4), .int .i64 ((f J).r 5), .int .i64 ((f J).r 6), .int .i64 ((f J).r 7), .int .i64 (f J).md])).run Tryd.prog W = .ok (.bool true) W := fun W => Cu.eql_lit _ _ _ _ _ _ _ _ _ _ W
              go_wp2_with (go_at_call 7; (with_reducible refine HL.out.mono ?_); rintro e9 w9 ⟨rfl, b9⟩; have G9 := Lib.hid (only_trans HGF.out (Cu.grow_of b9)); obtain ⟨p0, p1, p2, p3, p4, p5, p6, p7, p8, p9⟩ := Cu.cells10 ((HPA.out.only HGF.out (by simp)).below b9 (Nat.lt_of_lt_of_le HPA.out.lt HGF.out.size)); obtain ⟨q0, q1, q2, q3, q4, q5, q6, q7, q8, q9⟩ := Cu.cells10 ((HPB.out.only HGF.out (by simp)).below b9 (Nat.lt_of_lt_of_le HPB.out.lt HGF.out.size)); obtain ⟨r0, r1, r2, r3, r4, r5, r6, r7, r8, r9⟩ := Cu.cells10 (HPW.out.below b9 HPW.out.lt); obtain ⟨s0, s1, s2, s3, s4, s5, s6, s7, s8, s9⟩ := Cu.cells10 (HPR.out.below b9 HPR.out.lt); clear b9)
              go_ret
              exact ⟨by first | rfl | (simp; done), Cu.below (only_trans HW.out.gr G9.out)⟩
        · go_upto_region 20 with (fail)
          rw [HNM.out]
          have HPA := Lib.hid (show Blk wc ba 24 #[.int .i64 (f J).pc, .int .i64 ((f J).r 0), .int .i64 ((f J).r 1), .int .i64 ((f J).r 2), .int .i64 ((f J).r 3), .int .i64 ((f J).r 4), .int .i64 (n % 65536), .int .i64 ((f J).r 6), .int .i64 ((f J).r 7), .int .i64 (f J).md] from by have := HW.out.ab; rw [Cu.gave_5] at this; exact this)
          skip
          obtain ⟨wa, hwa⟩ : ∃ wa, wa = wc.alloc (.cells #[.int .i64 (f J).pc, .int .i64 ((f J).r 0), .int .i64 ((f J).r 1), .int .i64 ((f J).r 2), .int .i64 ((f J).r 3), .int .i64 ((f J).r 4), .int .i64 (n % 65536), .int .i64 ((f J).r 6), .int .i64 ((f J).r 7), .int .i64 (f J).md] 24) := ⟨_, rfl⟩
          have HGA := Lib.hid (show wc.grownBy wa none from by rw [hwa]; exact only_alloc (only_refl _ none) _)
          have HPWA := Lib.hid (show Blk wa wc.heap.size 24 #[.int .i64 (f J).pc, .int .i64 ((f J).r 0), .int .i64 ((f J).r 1), .int .i64 ((f J).r 2), .int .i64 ((f J).r 3), .int .i64 ((f J).r 4), .int .i64 (n % 65536), .int .i64 ((f J).r 6), .int .i64 ((f J).r 7), .int .i64 (f J).md] from by rw [hwa]; exact Blk.new _ _ _)
          rw [← hwa]
          clear hwa z0 z1 z2 z3 z4 z5 z6 z7 z8 z9
          obtain ⟨z0, z1, z2, z3, z4, z5, z6, z7, z8, z9⟩ := Cu.cells10 (show Blk wa bz 24 #[.int .i64 (f J).pc, .int .i64 ((f J).r 0), .int .i64 ((f J).r 1), .int .i64 ((f J).r 2), .int .i64 ((f J).r 3), .int .i64 ((f J).r 4), .int .i64 ((f J).r 5), .int .i64 ((f J).r 6), .int .i64 ((f J).r 7), .int .i64 (f J).md] from HW.out.zb.only HGA.out (by simp))
          go_upto_region 21 with (fail)
          obtain ⟨br, hbr⟩ : ∃ br, br = wa.heap.size := ⟨_, rfl⟩
          obtain ⟨wb, hwb⟩ : ∃ wb, wb = wa.alloc (.cells #[.int .i64 (f J).pc, .int .i64 ((f J).r 0), .int .i64 ((f J).r 1), .int .i64 ((f J).r 2), .int .i64 ((f J).r 3), .int .i64 ((f J).r 4), .int .i64 ((f J).r 5), .int .i64 ((f J).r 6), .int .i64 ((f J).r 7), .int .i64 (f J).md] 24) := ⟨_, rfl⟩
          have HGB := Lib.hid (show wc.grownBy wb none from by rw [hwb]; exact only_alloc HGA.out _)
          have HPW0 := Lib.hid (show Blk wb wc.heap.size 24 #[.int .i64 (f J).pc, .int .i64 ((f J).r 0), .int .i64 ((f J).r 1), .int .i64 ((f J).r 2), .int .i64 ((f J).r 3), .int .i64 ((f J).r 4), .int .i64 (n % 65536), .int .i64 ((f J).r 6), .int .i64 ((f J).r 7), .int .i64 (f J).md] from by rw [hwb]; exact HPWA.out.alloc _)
          have HPR0 := Lib.hid (show Blk wb br 24 #[.int .i64 (f J).pc, .int .i64 ((f J).r 0), .int .i64 ((f J).r 1), .int .i64 ((f J).r 2), .int .i64 ((f J).r 3), .int .i64 ((f J).r 4), .int .i64 ((f J).r 5), .int .i64 ((f J).r 6), .int .i64 ((f J).r 7), .int .i64 (f J).md] from by rw [hwb, hbr]; exact Blk.new _ _ _)
          have LR := Lib.hid (show wc.heap.size ≤ br ∧ wc.heap.size ≠ br from by have := HPWA.out.lt; omega)
          rw [← hwb, ← hbr]
          clear hwb hbr z0 z1 z2 z3 z4 z5 z6 z7 z8 z9
          have y9 : wb.cell? ⟨bz, 9, none⟩ = some (.int .i64 (f J).md) := (show Blk wb bz 24 #[.int .i64 (f J).pc, .int .i64 ((f J).r 0), .int .i64 ((f J).r 1), .int .i64 ((f J).r 2), .int .i64 ((f J).r 3), .int .i64 ((f J).r 4), .int .i64 ((f J).r 5), .int .i64 ((f J).r 6), .int .i64 ((f J).r 7), .int .i64 (f J).md] from HW.out.zb.only HGB.out (by simp)).cell 9
          have u9 : wb.cell? ⟨br, 9, none⟩ = some (.int .i64 (f J).md) := HPR0.out.cell 9
          have uf := HPR0.out.free 9
          by_cases hm : (f J).md = 1
          · have HPB := Lib.hid (show Blk wc bb 24 #[.int .i64 (f J).pc, .int .i64 ((f J).r 0), .int .i64 ((f J).r 1), .int .i64 ((f J).r 2), .int .i64 ((f J).r 3), .int .i64 ((f J).r 4), .int .i64 ((f J).r 5), .int .i64 ((f J).r 6), .int .i64 ((f J).r 7), .int .i64 0] from by have := HW.out.bb'; rw [Cu.woke_yes _ hm] at this; exact this)
            have hm2 : ((f J).md == 1) = true := by simp [hm]
            clear hm
            focus
              go_upto_region 23 with (fail)
              obtain ⟨wf, hwf⟩ : ∃ wf, wf = wb.setCell ⟨br, 9, none⟩ (.int .i64 0) := ⟨_, rfl⟩
              have HGF := Lib.hid (show wc.grownBy wf none from by rw [hwf]; exact Cu.grow_new HGB.out (only_put (only_refl _ _) 9 _) LR.out.1)
              have HPW := Lib.hid (show Blk wf wc.heap.size 24 #[.int .i64 (f J).pc, .int .i64 ((f J).r 0), .int .i64 ((f J).r 1), .int .i64 ((f J).r 2), .int .i64 ((f J).r 3), .int .i64 ((f J).r 4), .int .i64 (n % 65536), .int .i64 ((f J).r 6), .int .i64 ((f J).r 7), .int .i64 (f J).md] from by rw [hwf]; exact HPW0.out.far (by show wc.heap.size ≠ br; exact LR.out.2) _)
              have HPR := Lib.hid (show Blk wf br 24 #[.int .i64 (f J).pc, .int .i64 ((f J).r 0), .int .i64 ((f J).r 1), .int .i64 ((f J).r 2), .int .i64 ((f J).r 3), .int .i64 ((f J).r 4), .int .i64 ((f J).r 5), .int .i64 ((f J).r 6), .int .i64 ((f J).r 7), .int .i64 0] from by rw [hwf]; have := HPR0.out.put 9 (.int .i64 0); simp only [List.setIfInBounds_toArray, List.set_cons_zero, List.set_cons_succ] at this; exact this)
              rw [← hwf]
              clear hwf y9 u9 uf
              have HL := Lib.hid (Cu.live_any wf (HW.out.nm.grown (only_trans HW.out.gr HGF.out) (by simp)) (HW.out.nm.grown (only_trans HW.out.gr HGF.out) (by simp)).pos)
              have hq1 : ∀ W, (binOp BinOp.eql 24 (.agg #[.int .i64 (f J).pc, .int .i64 ((f J).r 0), .int .i64 ((f J).r 1), .int .i64 ((f J).r 2), .int .i64 ((f J).r 3), .int .i64 ((f J).r 4), .int .i64 (n % 65536), .int .i64 ((f J).r 6), .int .i64 ((f J).r 7), .int .i64 (f J).md]) (.agg #[.int .i64 (f J).pc, .int .i64 ((f J).r 0), .int .i64 ((f J).r 1), .int .i64 ((f J).r 2), .int .i64 ((f J).r 3), .int .i64 ((f J).r 4), .int .i64 (n % 65536), .int .i64 ((f J).r 6), .int .i64 ((f J).r 7), .int .i64 (f J).md])).run Tryd.prog W = .ok (.bool true) W := fun W => Cu.eql_lit _ _ _ _ _ _ _ _ _ _ W
              have hq2 : ∀ W, (binOp BinOp.eql 24 (.agg #[.int .i64 (f J).pc, .int .i64 ((f J).r 0), .int .i64 ((f J).r 1), .int .i64 ((f J).r 2), .int .i64 ((f J).r 3), .int .i64 ((f J).r 4), .int .i64 ((f J).r 5), .int .i64 ((f J).r 6), .int .i64 ((f J).r 7), .int .i64 0]) (.agg #[.int .i64 (f J).pc, .int .i64 ((f J).r 0), .int .i64 ((f J).r 1), .int .i64 ((f J).r 2), .int .i64 ((f J).r 3), .int .i64 ((f J).r 4), .int .i64 ((f J).r 5), .int .i64 ((f J).r 6), .int .i64 ((f J).r 7), .int .i64 0])).run Tryd.prog W = .ok (.bool true) W := fun W => Cu.eql_lit _ _ _ _ _ _ _ _ _ _ W
              go_wp2_with (go_at_call 7; (with_reducible refine HL.out.mono ?_); rintro e9 w9 ⟨rfl, b9⟩; have G9 := Lib.hid (only_trans HGF.out (Cu.grow_of b9)); obtain ⟨p0, p1, p2, p3, p4, p5, p6, p7, p8, p9⟩ := Cu.cells10 ((HPA.out.only HGF.out (by simp)).below b9 (Nat.lt_of_lt_of_le HPA.out.lt HGF.out.size)); obtain ⟨q0, q1, q2, q3, q4, q5, q6, q7, q8, q9⟩ := Cu.cells10 ((HPB.out.only HGF.out (by simp)).below b9 (Nat.lt_of_lt_of_le HPB.out.lt HGF.out.size)); obtain ⟨r0, r1, r2, r3, r4, r5, r6, r7, r8, r9⟩ := Cu.cells10 (HPW.out.below b9 HPW.out.lt); obtain ⟨s0, s1, s2, s3, s4, s5, s6, s7, s8, s9⟩ := Cu.cells10 (HPR.out.below b9 HPR.out.lt); clear b9)
              go_ret
              exact ⟨by first | rfl | (simp; done), Cu.below (only_trans HW.out.gr G9.out)⟩
          · have HPB := Lib.hid (show Blk wc bb 24 #[.int .i64 (f J).pc, .int .i64 ((f J).r 0), .int .i64 ((f J).r 1), .int .i64 ((f J).r 2), .int .i64 ((f J).r 3), .int .i64 ((f J).r 4), .int .i64 ((f J).r 5), .int .i64 ((f J).r 6), .int .i64 ((f J).r 7), .int .i64 (f J).md] from by have := HW.out.bb'; rw [Cu.woke_no _ hm] at this; exact this)
            have hm2 : ((f J).md == 1) = false := by simpa using hm
            focus
              go_upto_region 23 with (fail)
              obtain ⟨wf, hwf⟩ : ∃ wf, wf = wb := ⟨_, rfl⟩
              have HGF := Lib.hid (show wc.grownBy wf none from by rw [hwf]; exact HGB.out)
              have HPW := Lib.hid (show Blk wf wc.heap.size 24 #[.int .i64 (f J).pc, .int .i64 ((f J).r 0), .int .i64 ((f J).r 1), .int .i64 ((f J).r 2), .int .i64 ((f J).r 3), .int .i64 ((f J).r 4), .int .i64 (n % 65536), .int .i64 ((f J).r 6), .int .i64 ((f J).r 7), .int .i64 (f J).md] from by rw [hwf]; exact HPW0.out)
              have HPR := Lib.hid (show Blk wf br 24 #[.int .i64 (f J).pc, .int .i64 ((f J).r 0), .int .i64 ((f J).r 1), .int .i64 ((f J).r 2), .int .i64 ((f J).r 3), .int .i64 ((f J).r 4), .int .i64 ((f J).r 5), .int .i64 ((f J).r 6), .int .i64 ((f J).r 7), .int .i64 (f J).md] from by rw [hwf]; exact HPR0.out)
              rw [← hwf]
              clear hwf y9 u9 uf
              have HL := Lib.hid (Cu.live_any wf (HW.out.nm.grown (only_trans HW.out.gr HGF.out) (by simp)) (HW.out.nm.grown (only_trans HW.out.gr HGF.out) (by simp)).pos)
              have hq1 : ∀ W, (binOp BinOp.eql 24 (.agg #[.int .i64 (f J).pc, .int .i64 ((f J).r 0), .int .i64 ((f J).r 1), .int .i64 ((f J).r 2), .int .i64 ((f J).r 3), .int .i64 ((f J).r 4), .int .i64 (n % 65536), .int .i64 ((f J).r 6), .int .i64 ((f J).r 7), .int .i64 (f J).md]) (.agg #[.int .i64 (f J).pc, .int .i64 ((f J).r 0), .int .i64 ((f J).r 1), .int .i64 ((f J).r 2), .int .i64 ((f J).r 3), .int .i64 ((f J).r 4), .int .i64 (n % 65536), .int .i64 ((f J).r 6), .int .i64 ((f J).r 7), .int .i64 (f J).md])).run Tryd.prog W = .ok (.bool true) W := fun W => Cu.eql_lit _ _ _ _ _ _ _ _ _ _ W
              have hq2 : ∀ W, (binOp BinOp.eql 24 (.agg #[.int .i64 (f J).pc, .int .i64 ((f J).r 0), .int .i64 ((f J).r 1), .int .i64 ((f J).r 2), .int .i64 ((f J).r 3), .int .i64 ((f J).r 4), .int .i64 ((f J).r 5), .int .i64 ((f J).r 6), .int .i64 ((f J).r 7), .int .i64 (f J).md]) (.agg #[.int .i64 (f J).pc, .int .i64 ((f J).r 0), .int .i64 ((f J).r 1), .int .i64 ((f J).r 2), .int .i64 ((f J).r 3), .int .i64 ((f J).r 4), .int .i64 ((f J).r 5), .int .i64 ((f J).r 6), .int .i64 ((f J).r 7), .int .i64 (f J).md])).run Tryd.prog W = .ok (.bool true) W := fun W => Cu.eql_lit _ _ _ _ _ _ _ _ _ _ W
              go_wp2_with (go_at_call 7; (with_reducible refine HL.out.mono ?_); rintro e9 w9 ⟨rfl, b9⟩; have G9 := Lib.hid (only_trans HGF.out (Cu.grow_of b9)); obtain ⟨p0, p1, p2, p3, p4, p5, p6, p7, p8, p9⟩ := Cu.cells10 ((HPA.out.only HGF.out (by simp)).below b9 (Nat.lt_of_lt_of_le HPA.out.lt HGF.out.size)); obtain ⟨q0, q1, q2, q3, q4, q5, q6, q7, q8, q9⟩ := Cu.cells10 ((HPB.out.only HGF.out (by simp)).below b9 (Nat.lt_of_lt_of_le HPB.out.lt HGF.out.size)); obtain ⟨r0, r1, r2, r3, r4, r5, r6, r7, r8, r9⟩ := Cu.cells10 (HPW.out.below b9 HPW.out.lt); obtain ⟨s0, s1, s2, s3, s4, s5, s6, s7, s8, s9⟩ := Cu.cells10 (HPR.out.below b9 HPR.out.lt); clear b9)
              go_ret
              exact ⟨by first | rfl | (simp; done), Cu.below (only_trans HW.out.gr G9.out)⟩
        · go_upto_region 20 with (fail)
          rw [HNM.out]
          have HPA := Lib.hid (show Blk wc ba 24 #[.int .i64 (f J).pc, .int .i64 ((f J).r 0), .int .i64 ((f J).r 1), .int .i64 ((f J).r 2), .int .i64 ((f J).r 3), .int .i64 ((f J).r 4), .int .i64 ((f J).r 5), .int .i64 (n % 65536), .int .i64 ((f J).r 7), .int .i64 (f J).md] from by have := HW.out.ab; rw [Cu.gave_6] at this; exact this)
          skip
          obtain ⟨wa, hwa⟩ : ∃ wa, wa = wc.alloc (.cells #[.int .i64 (f J).pc, .int .i64 ((f J).r 0), .int .i64 ((f J).r 1), .int .i64 ((f J).r 2), .int .i64 ((f J).r 3), .int .i64 ((f J).r 4), .int .i64 ((f J).r 5), .int .i64 (n % 65536), .int .i64 ((f J).r 7), .int .i64 (f J).md] 24) := ⟨_, rfl⟩
          have HGA := Lib.hid (show wc.grownBy wa none from by rw [hwa]; exact only_alloc (only_refl _ none) _)
          have HPWA := Lib.hid (show Blk wa wc.heap.size 24 #[.int .i64 (f J).pc, .int .i64 ((f J).r 0), .int .i64 ((f J).r 1), .int .i64 ((f J).r 2), .int .i64 ((f J).r 3), .int .i64 ((f J).r 4), .int .i64 ((f J).r 5), .int .i64 (n % 65536), .int .i64 ((f J).r 7), .int .i64 (f J).md] from by rw [hwa]; exact Blk.new _ _ _)
          rw [← hwa]
          clear hwa z0 z1 z2 z3 z4 z5 z6 z7 z8 z9
          obtain ⟨z0, z1, z2, z3, z4, z5, z6, z7, z8, z9⟩ := Cu.cells10 (show Blk wa bz 24 #[.int .i64 (f J).pc, .int .i64 ((f J).r 0), .int .i64 ((f J).r 1), .int .i64 ((f J).r 2), .int .i64 ((f J).r 3), .int .i64 ((f J).r 4), .int .i64 ((f J).r 5), .int .i64 ((f J).r 6), .int .i64 ((f J).r 7), .int .i64 (f J).md] from HW.out.zb.only HGA.out (by simp))
          go_upto_region 21 with (fail)
          obtain ⟨br, hbr⟩ : ∃ br, br = wa.heap.size := ⟨_, rfl⟩
          obtain ⟨wb, hwb⟩ : ∃ wb, wb = wa.alloc (.cells #[.int .i64 (f J).pc, .int .i64 ((f J).r 0), .int .i64 ((f J).r 1), .int .i64 ((f J).r 2), .int .i64 ((f J).r 3), .int .i64 ((f J).r 4), .int .i64 ((f J).r 5), .int .i64 ((f J).r 6), .int .i64 ((f J).r 7), .int .i64 (f J).md] 24) := ⟨_, rfl⟩
          have HGB := Lib.hid (show wc.grownBy wb none from by rw [hwb]; exact only_alloc HGA.out _)
          have HPW0 := Lib.hid (show Blk wb wc.heap.size 24 #[.int .i64 (f J).pc, .int .i64 ((f J).r 0), .int .i64 ((f J).r 1), .int .i64 ((f J).r 2), .int .i64 ((f J).r 3), .int .i64 ((f J).r 4), .int .i64 ((f J).r 5), .int .i64 (n % 65536), .int .i64 ((f J).r 7), .int .i64 (f J).md] from by rw [hwb]; exact HPWA.out.alloc _)
          have HPR0 := Lib.hid (show Blk wb br 24 #[.int .i64 (f J).pc, .int .i64 ((f J).r 0), .int .i64 ((f J).r 1), .int .i64 ((f J).r 2), .int .i64 ((f J).r 3), .int .i64 ((f J).r 4), .int .i64 ((f J).r 5), .int .i64 ((f J).r 6), .int .i64 ((f J).r 7), .int .i64 (f J).md] from by rw [hwb, hbr]; exact Blk.new _ _ _)
          have LR := Lib.hid (show wc.heap.size ≤ br ∧ wc.heap.size ≠ br from by have := HPWA.out.lt; omega)
          rw [← hwb, ← hbr]
          clear hwb hbr z0 z1 z2 z3 z4 z5 z6 z7 z8 z9
          have y9 : wb.cell? ⟨bz, 9, none⟩ = some (.int .i64 (f J).md) := (show Blk wb bz 24 #[.int .i64 (f J).pc, .int .i64 ((f J).r 0), .int .i64 ((f J).r 1), .int .i64 ((f J).r 2), .int .i64 ((f J).r 3), .int .i64 ((f J).r 4), .int .i64 ((f J).r 5), .int .i64 ((f J).r 6), .int .i64 ((f J).r 7), .int .i64 (f J).md] from HW.out.zb.only HGB.out (by simp)).cell 9
          have u9 : wb.cell? ⟨br, 9, none⟩ = some (.int .i64 (f J).md) := HPR0.out.cell 9
          have uf := HPR0.out.free 9
          by_cases hm : (f J).md = 1
          · have HPB := Lib.hid (show Blk wc bb 24 #[.int .i64 (f J).pc, .int .i64 ((f J).r 0), .int .i64 ((f J).r 1), .int .i64 ((f J).r 2), .int .i64 ((f J).r 3), .int .i64 ((f J).r 4), .int .i64 ((f J).r 5), .int .i64 ((f J).r 6), .int .i64 ((f J).r 7), .int .i64 0] from by have := HW.out.bb'; rw [Cu.woke_yes _ hm] at this; exact this)
            have hm2 : ((f J).md == 1) = true := by simp [hm]
            clear hm
            focus
              go_upto_region 23 with (fail)
              obtain ⟨wf, hwf⟩ : ∃ wf, wf = wb.setCell ⟨br, 9, none⟩ (.int .i64 0) := ⟨_, rfl⟩
              have HGF := Lib.hid (show wc.grownBy wf none from by rw [hwf]; exact Cu.grow_new HGB.out (only_put (only_refl _ _) 9 _) LR.out.1)
              have HPW := Lib.hid (show Blk wf wc.heap.size 24 #[.int .i64 (f J).pc, .int .i64 ((f J).r 0), .int .i64 ((f J).r 1), .int .i64 ((f J).r 2), .int .i64 ((f J).r 3), .int .i64 ((f J).r 4), .int .i64 ((f J).r 5), .int .i64 (n % 65536), .int .i64 ((f J).r 7), .int .i64 (f J).md] from by rw [hwf]; exact HPW0.out.far (by show wc.heap.size ≠ br; exact LR.out.2) _)
              have HPR := Lib.hid (show Blk wf br 24 #[.int .i64 (f J).pc, .int .i64 ((f J).r 0), .int .i64 ((f J).r 1), .int .i64 ((f J).r 2), .int .i64 ((f J).r 3), .int .i64 ((f J).r 4), .int .i64 ((f J).r 5), .int .i64 ((f J).r 6), .int .i64 ((f J).r 7), .int .i64 0] from by rw [hwf]; have := HPR0.out.put 9 (.int .i64 0); simp only [List.setIfInBounds_toArray, List.set_cons_zero, List.set_cons_succ] at this; exact this)
              rw [← hwf]
              clear hwf y9 u9 uf
              have HL := Lib.hid (Cu.live_any wf (HW.out.nm.grown (only_trans HW.out.gr HGF.out) (by simp)) (HW.out.nm.grown (only_trans HW.out.gr HGF.out) (by simp)).pos)
              have hq1 : ∀ W, (binOp BinOp.eql 24 (.agg #[.int .i64 (f J).pc, .int .i64 ((f J).r 0), .int .i64 ((f J).r 1), .int .i64 ((f J).r 2), .int .i64 ((f J).r 3), .int .i64 ((f J).r 4), .int .i64 ((f J).r 5), .int .i64 (n % 65536), .int .i64 ((f J).r 7), .int .i64 (f J).md]) (.agg #[.int .i64 (f J).pc, .int .i64 ((f J).r 0), .int .i64 ((f J).r 1), .int .i64 ((f J).r 2), .int .i64 ((f J).r 3), .int .i64 ((f J).r 4), .int .i64 ((f J).r 5), .int .i64 (n % 65536), .int .i64 ((f J).r 7), .int .i64 (f J).md])).run Tryd.prog W = .ok (.bool true) W := fun W => Cu.eql_lit _ _ _ _ _ _ _ _ _ _ W
              have hq2 : ∀ W, (binOp BinOp.eql 24 (.agg #[.int .i64 (f J).pc, .int .i64 ((f J).r 0), .int .i64 ((f J).r 1), .int .i64 ((f J).r 2), .int .i64 ((f J).r 3), .int .i64 ((f J).r 4), .int .i64 ((f J).r 5), .int .i64 ((f J).r 6), .int .i64 ((f J).r 7), .int .i64 0]) (.agg #[.int .i64 (f J).pc, .int .i64 ((f J).r 0), .int .i64 ((f J).r 1), .int .i64 ((f J).r 2), .int .i64 ((f J).r 3), .int .i64 ((f J).r 4), .int .i64 ((f J).r 5), .int .i64 ((f J).r 6), .int .i64 ((f J).r 7), .int .i64 0])).run Tryd.prog W = .ok (.bool true) W := fun W => Cu.eql_lit _ _ _ _ _ _ _ _ _ _ W
              go_wp2_with (go_at_call 7; (with_reducible refine HL.out.mono ?_); rintro e9 w9 ⟨rfl, b9⟩; have G9 := Lib.hid (only_trans HGF.out (Cu.grow_of b9)); obtain ⟨p0, p1, p2, p3, p4, p5, p6, p7, p8, p9⟩ := Cu.cells10 ((HPA.out.only HGF.out (by simp)).below b9 (Nat.lt_of_lt_of_le HPA.out.lt HGF.out.size)); obtain ⟨q0, q1, q2, q3, q4, q5, q6, q7, q8, q9⟩ := Cu.cells10 ((HPB.out.only HGF.out (by simp)).below b9 (Nat.lt_of_lt_of_le HPB.out.lt HGF.out.size)); obtain ⟨r0, r1, r2, r3, r4, r5, r6, r7, r8, r9⟩ := Cu.cells10 (HPW.out.below b9 HPW.out.lt); obtain ⟨s0, s1, s2, s3, s4, s5, s6, s7, s8, s9⟩ := Cu.cells10 (HPR.out.below b9 HPR.out.lt); clear b9)
              go_ret
              exact ⟨by first | rfl | (simp; done), Cu.below (only_trans HW.out.gr G9.out)⟩
          · have HPB := Lib.hid (show Blk wc bb 24 #[.int .i64 (f J).pc, .int .i64 ((f J).r 0), .int .i64 ((f J).r 1), .int .i64 ((f J).r 2), .int .i64 ((f J).r 3), .int .i64 ((f J).r 4), .int .i64 ((f J).r 5), .int .i64 ((f J).r 6), .int .i64 ((f J).r 7), .int .i64 (f J).md] from by have := HW.out.bb'; rw [Cu.woke_no _ hm] at this; exact this)
            have hm2 : ((f J).md == 1) = false := by simpa using hm
            focus
              go_upto_region 23 with (fail)
              obtain ⟨wf, hwf⟩ : ∃ wf, wf = wb := ⟨_, rfl⟩
              have HGF := Lib.hid (show wc.grownBy wf none from by rw [hwf]; exact HGB.out)
              have HPW := Lib.hid (show Blk wf wc.heap.size 24 #[.int .i64 (f J).pc, .int .i64 ((f J).r 0), .int .i64 ((f J).r 1), .int .i64 ((f J).r 2), .int .i64 ((f J).r 3), .int .i64 ((f J).r 4), .int .i64 ((f J).r 5), .int .i64 (n % 65536), .int .i64 ((f J).r 7), .int .i64 (f J).md] from by rw [hwf]; exact HPW0.out)
              have HPR := Lib.hid (show Blk wf br 24 #[.int .i64 (f J).pc, .int .i64 ((f J).r 0), .int .i64 ((f J).r 1), .int .i64 ((f J).r 2), .int .i64 ((f J).r 3), .int .i64 ((f J).r 4), .int .i64 ((f J).r 5), .int .i64 ((f J).r 6), .int .i64 ((f J).r 7), .int .i64 (f J).md] from by rw [hwf]; exact HPR0.out)
              rw [← hwf]
              clear hwf y9 u9 uf
              have HL := Lib.hid (Cu.live_any wf (HW.out.nm.grown (only_trans HW.out.gr HGF.out) (by simp)) (HW.out.nm.grown (only_trans HW.out.gr HGF.out) (by simp)).pos)
              have hq1 : ∀ W, (binOp BinOp.eql 24 (.agg #[.int .i64 (f J).pc, .int .i64 ((f J).r 0), .int .i64 ((f J).r 1), .int .i64 ((f J).r 2), .int .i64 ((f J).r 3), .int .i64 ((f J).r 4), .int .i64 ((f J).r 5), .int .i64 (n % 65536), .int .i64 ((f J).r 7), .int .i64 (f J).md]) (.agg #[.int .i64 (f J).pc, .int .i64 ((f J).r 0), .int .i64 ((f J).r 1), .int .i64 ((f J).r 2), .int .i64 ((f J).r 3), .int .i64 ((f J).r 4), .int .i64 ((f J).r 5), .int .i64 (n % 65536), .int .i64 ((f J).r 7), .int .i64 (f J).md])).run Tryd.prog W = .ok (.bool true) W := fun W => Cu.eql_lit _ _ _ _ _ _ _ _ _ _ W
              have hq2 : ∀ W, (binOp BinOp.eql 24 (.agg #[.int .i64 (f J).pc, .int .i64 ((f J).r 0), .int .i64 ((f J).r 1), .int .i64 ((f J).r 2), .int .i64 ((f J).r 3), .int .i64 ((f J).r 4), .int .i64 ((f J).r 5), .int .i64 ((f J).r 6), .int .i64 ((f J).r 7), .int .i64 (f J).md]) (.agg #[.int .i64 (f J).pc, .int .i64 ((f J).r 0), .int .i64 ((f J).r 1), .int .i64 ((f J).r 2), .int .i64 ((f J).r 3), .int .i64 ((f J).r 4), .int .i64 ((f J).r 5), .int .i64 ((f J).r 6), .int .i64 ((f J).r 7), .int .i64 (f J).md])).run Tryd.prog W = .ok (.bool true) W := fun W => Cu.eql_lit _ _ _ _ _ _ _ _ _ _ W
              go_wp2_with (go_at_call 7; (with_reducible refine HL.out.mono ?_); rintro e9 w9 ⟨rfl, b9⟩; have G9 := Lib.hid (only_trans HGF.out (Cu.grow_of b9)); obtain ⟨p0, p1, p2, p3, p4, p5, p6, p7, p8, p9⟩ := Cu.cells10 ((HPA.out.only HGF.out (by simp)).below b9 (Nat.lt_of_lt_of_le HPA.out.lt HGF.out.size)); obtain ⟨q0, q1, q2, q3, q4, q5, q6, q7, q8, q9⟩ := Cu.cells10 ((HPB.out.only HGF.out (by simp)).below b9 (Nat.lt_of_lt_of_le HPB.out.lt HGF.out.size)); obtain ⟨r0, r1, r2, r3, r4, r5, r6, r7, r8, r9⟩ := Cu.cells10 (HPW.out.below b9 HPW.out.lt); obtain ⟨s0, s1, s2, s3, s4, s5, s6, s7, s8, s9⟩ := Cu.cells10 (HPR.out.below b9 HPR.out.lt); clear b9)
              go_ret
              exact ⟨by first | rfl | (simp; done), Cu.below (only_trans HW.out.gr G9.out)⟩
        · go_upto_region 20 with (fail)
          rw [HNM.out]
          have HPA := Lib.hid (show Blk wc ba 24 #[.int .i64 (f J).pc, .int .i64 ((f J).r 0), .int .i64 ((f J).r 1), .int .i64 ((f J).r 2), .int .i64 ((f J).r 3), .int .i64 ((f J).r 4), .int .i64 ((f J).r 5), .int .i64 ((f J).r 6), .int .i64 (n % 65536), .int .i64 (f J).md] from by have := HW.out.ab; rw [Cu.gave_7] at this; exact this)
          skip
          obtain ⟨wa, hwa⟩ : ∃ wa, wa = wc.alloc (.cells #[.int .i64 (f J).pc, .int .i64 ((f J).r 0), .int .i64 ((f J).r 1), .int .i64 ((f J).r 2), .int .i64 ((f J).r 3), .int .i64 ((f J).r 4), .int .i64 ((f J).r 5), .int .i64 ((f J).r 6), .int .i64 (n % 65536), .int .i64 (f J).md] 24) := ⟨_, rfl⟩
          have HGA := Lib.hid (show wc.grownBy wa none from by rw [hwa]; exact only_alloc (only_refl _ none) _)
          have HPWA := Lib.hid (show Blk wa wc.heap.size 24 #[.int .i64 (f J).pc, .int .i64 ((f J).r 0), .int .i64 ((f J).r 1), .int .i64 ((f J).r 2), .int .i64 ((f J).r 3), .int .i64 ((f J).r 4), .int .i64 ((f J).r 5), .int .i64 ((f J).r 6), .int .i64 (n % 65536), .int .i64 (f J).md] from by rw [hwa]; exact Blk.new _ _ _)
          rw [← hwa]
          clear hwa z0 z1 z2 z3 z4 z5 z6 z7 z8 z9
          obtain ⟨z0, z1, z2, z3, z4, z5, z6, z7, z8, z9⟩ := Cu.cells10 (show Blk wa bz 24 #[.int .i64 (f J).pc, .int .i64 ((f J).r 0), .int .i64 ((f J).r 1), .int .i64 ((f J).r 2), .int .i64 ((f J).r 3), .int .i64 ((f J).r 4), .int .i64 ((f J).r 5), .int .i64 ((f J).r 6), .int .i64 ((f J).r 7), .int .i64 (f J).md] from HW.out.zb.only HGA.out (by simp))
          go_upto_region 21 with (fail)
          obtain ⟨br, hbr⟩ : ∃ br, br = wa.heap.size := ⟨_, rfl⟩
          obtain ⟨wb, hwb⟩ : ∃ wb, wb = wa.alloc (.cells #[.int .i64 (f J).pc, .int .i64 ((f J).r 0), .int .i64 ((f J).r 1), .int .i64 ((f J).r 2), .int .i64 ((f J).r 3), .int .i64 ((f J).r 4), .int .i64 ((f J).r 5), .int .i64 ((f J).r 6), .int .i64 ((f J).r 7), .int .i64 (f J).md] 24) := ⟨_, rfl⟩
          have HGB := Lib.hid (show wc.grownBy wb none from by rw [hwb]; exact only_alloc HGA.out _)
          have HPW0 := Lib.hid (show Blk wb wc.heap.size 24 #[.int .i64 (f J).pc, .int .i64 ((f J).r 0), .int .i64 ((f J).r 1), .int .i64 ((f J).r 2), .int .i64 ((f J).r 3), .int .i64 ((f J).r 4), .int .i64 ((f J).r 5), .int .i64 ((f J).r 6), .int .i64 (n % 65536), .int .i64 (f J).md] from by rw [hwb]; exact HPWA.out.alloc _)
          have HPR0 := Lib.hid (show Blk wb br 24 #[.int .i64 (f J).pc, .int .i64 ((f J).r 0), .int .i64 ((f J).r 1), .int .i64 ((f J).r 2), .int .i64 ((f J).r 3), .int .i64 ((f J).r 4), .int .i64 ((f J).r 5), .int .i64 ((f J).r 6), .int .i64 ((f J).r 7), .int .i64 (f J).md] from by rw [hwb, hbr]; exact Blk.new _ _ _)
          have LR := Lib.hid (show wc.heap.size ≤ br ∧ wc.heap.size ≠ br from by have := HPWA.out.lt; omega)
          rw [← hwb, ← hbr]
          clear hwb hbr z0 z1 z2 z3 z4 z5 z6 z7 z8 z9
          have y9 : wb.cell? ⟨bz, 9, none⟩ = some (.int .i64 (f J).md) := (show Blk wb bz 24 #[.int .i64 (f J).pc, .int .i64 ((f J).r 0), .int .i64 ((f J).r 1), .int .i64 ((f J).r 2), .int .i64 ((f J).r 3), .int .i64 ((f J).r 4), .int .i64 ((f J).r 5), .int .i64 ((f J).r 6), .int .i64 ((f J).r 7), .int .i64 (f J).md] from HW.out.zb.only HGB.out (by simp)).cell 9
          have u9 : wb.cell? ⟨br, 9, none⟩ = some (.int .i64 (f J).md) := HPR0.out.cell 9
          have uf := HPR0.out.free 9
          by_cases hm : (f J).md = 1
          · have HPB := Lib.hid (show Blk wc bb 24 #[.int .i64 (f J).pc, .int .i64 ((f J).r 0), .int .i64 ((f J).r 1), .int .i64 ((f J).r 2), .int .i64 ((f J).r 3), .int .i64 ((f J).r 4), .int .i64 ((f J).r 5), .int .i64 ((f J).r 6), .int .i64 ((f J).r 7), .int .i64 0] from by have := HW.out.bb'; rw [Cu.woke_yes _ hm] at this; exact this)
            have hm2 : ((f J).md == 1) = true := by simp [hm]
            clear hm
            focus
              go_upto_region 23 with (fail)
              obtain ⟨wf, hwf⟩ : ∃ wf, wf = wb.setCell ⟨br, 9, none⟩ (.int .i64 0) := ⟨_, rfl⟩
              have HGF := Lib.hid (show wc.grownBy wf none from by rw [hwf]; exact Cu.grow_new HGB.out (only_put (only_refl _ _) 9 _) LR.out.1)
              have HPW := Lib.hid (show Blk wf wc.heap.size 24 #[.int .i64 (f J).pc, .int .i64 ((f J).r 0), .int .i64 ((f J).r 1), .int .i64 ((f J).r 2), .int .i64 ((f J).r 3), .int .i64 ((f J).r 4), .int .i64 ((f J).r 5), .int .i64 ((f J).r 6), .int .i64 (n % 65536), .int .i64 (f J).md] from by rw [hwf]; exact HPW0.out.far (by show wc.heap.size ≠ br; exact LR.out.2) _)
              have HPR := Lib.hid (show Blk wf br 24 #[.int .i64 (f J).pc, .int .i64 ((f J).r 0), .int .i64 ((f J).r 1), .int .i64 ((f J).r 2), .int .i64 ((f J).r 3), .int .i64 ((f J).r 4), .int .i64 ((f J).r 5), .int .i64 ((f J).r 6), .int .i64 ((f J).r 7), .int .i64 0] from by rw [hwf]; have := HPR0.out.put 9 (.int .i64 0); simp only [List.setIfInBounds_toArray, List.set_cons_zero, List.set_cons_succ] at this; exact this)
              rw [← hwf]
              clear hwf y9 u9 uf
              have HL := Lib.hid (Cu.live_any wf (HW.out.nm.grown (only_trans HW.out.gr HGF.out) (by simp)) (HW.out.nm.grown (only_trans HW.out.gr HGF.out) (by simp)).pos)
              have hq1 : ∀ W, (binOp BinOp.eql 24 (.agg #[.int .i64 (f J).pc, .int .i64 ((f J).r 0), .int .i64 ((f J).r 1), .int .i64 ((f J).r 2), .int .i64 ((f J).r 3), .int .i64 ((f J).r 4), .int .i64 ((f J).r 5), .int .i64 ((f J).r 6), .int .i64 (n % 65536), .int .i64 (f J).md]) (.agg #[.int .i64 (f J).pc, .int .i64 ((f J).r 0), .int .i64 ((f J).r 1), .int .i64 ((f J).r 2), .int .i64 ((f J).r 3), .int .i64 ((f J).r 4), .int .i64 ((f J).r 5), .int .i64 ((f J).r 6), .int .i64 (n % 65536), .int .i64 (f J).md])).run Tryd.prog W = .ok (.bool true) W := fun W => Cu.eql_lit _ _ _ _ _ _ _ _ _ _ W
              have hq2 : ∀ W, (binOp BinOp.eql 24 (.agg #[.int .i64 (f J).pc, .int .i64 ((f J).r 0), .int .i64 ((f J).r 1), .int .i64 ((f J).r 2), .int .i64 ((f J).r 3), .int .i64 ((f J).r 4), .int .i64 ((f J).r 5), .int .i64 ((f J).r 6), .int .i64 ((f J).r 7), .int .i64 0]) (.agg #[.int .i64 (f J).pc, .int .i64 ((f J).r 0), .int .i64 ((f J).r 1), .int .i64 ((f J).r 2), .int .i64 ((f J).r 3), .int .i64 ((f J).r 4), .int .i64 ((f J).r 5), .int .i64 ((f J).r 6), .int .i64 ((f J).r 7), .int .i64 0])).run Tryd.prog W = .ok (.bool true) W := fun W => Cu.eql_lit _ _ _ _ _ _ _ _ _ _ W
              go_wp2_with (go_at_call 7; (with_reducible refine HL.out.mono ?_); rintro e9 w9 ⟨rfl, b9⟩; have G9 := Lib.hid (only_trans HGF.out (Cu.grow_of b9)); obtain ⟨p0, p1, p2, p3, p4, p5, p6, p7, p8, p9⟩ := Cu.cells10 ((HPA.out.only HGF.out (by simp)).below b9 (Nat.lt_of_lt_of_le HPA.out.lt HGF.out.size)); obtain ⟨q0, q1, q2, q3, q4, q5, q6, q7, q8, q9⟩ := Cu.cells10 ((HPB.out.only HGF.out (by simp)).below b9 (Nat.lt_of_lt_of_le HPB.out.lt HGF.out.size)); obtain ⟨r0, r1, r2, r3, r4, r5, r6, r7, r8, r9⟩ := Cu.cells10 (HPW.out.below b9 HPW.out.lt); obtain ⟨s0, s1, s2, s3, s4, s5, s6, s7, s8, s9⟩ := Cu.cells10 (HPR.out.below b9 HPR.out.lt); clear b9)
              go_ret
              exact ⟨by first | rfl | (simp; done), Cu.below (only_trans HW.out.gr G9.out)⟩
          · have HPB := Lib.hid (show Blk wc bb 24 #[.int .i64 (f J).pc, .int .i64 ((f J).r 0), .int .i64 ((f J).r 1), .int .i64 ((f J).r 2), .int .i64 ((f J).r 3), .int .i64 ((f J).r 4), .int .i64 ((f J).r 5), .int .i64 ((f J).r 6), .int .i64 ((f J).r 7), .int .i64 (f J).md] from by have := HW.out.bb'; rw [Cu.woke_no _ hm] at this; exact this)
            have hm2 : ((f J).md == 1) = false := by simpa using hm
            focus
              go_upto_region 23 with (fail)
              obtain ⟨wf, hwf⟩ : ∃ wf, wf = wb := ⟨_, rfl⟩
              have HGF := Lib.hid (show wc.grownBy wf none from by rw [hwf]; exact HGB.out)
              have HPW := Lib.hid (show Blk wf wc.heap.size 24 #[.int .i64 (f J).pc, .int .i64 ((f J).r 0), .int .i64 ((f J).r 1), .int .i64 ((f J).r 2), .int .i64 ((f J).r 3), .int .i64 ((f J).r 4), .int .i64 ((f J).r 5), .int .i64 ((f J).r 6), .int .i64 (n % 65536), .int .i64 (f J).md] from by rw [hwf]; exact HPW0.out)
              have HPR := Lib.hid (show Blk wf br 24 #[.int .i64 (f J).pc, .int .i64 ((f J).r 0), .int .i64 ((f J).r 1), .int .i64 ((f J).r 2), .int .i64 ((f J).r 3), .int .i64 ((f J).r 4), .int .i64 ((f J).r 5), .int .i64 ((f J).r 6), .int .i64 ((f J).r 7), .int .i64 (f J).md] from by rw [hwf]; exact HPR0.out)
              rw [← hwf]
              clear hwf y9 u9 uf
              have HL := Lib.hid (Cu.live_any wf (HW.out.nm.grown (only_trans HW.out.gr HGF.out) (by simp)) (HW.out.nm.grown (only_trans HW.out.gr HGF.out) (by simp)).pos)
              have hq1 : ∀ W, (binOp BinOp.eql 24 (.agg #[.int .i64 (f J).pc, .int .i64 ((f J).r 0), .int .i64 ((f J).r 1), .int .i64 ((f J).r 2), .int .i64 ((f J).r 3), .int .i64 ((f J).r 4), .int .i64 ((f J).r 5), .int .i64 ((f J).r 6), .int .i64 (n % 65536), .int .i64 (f J).md]) (.agg #[.int .i64 (f J).pc, .int .i64 ((f J).r 0), .int .i64 ((f J).r 1), .int .i64 ((f J).r 2), .int .i64 ((f J).r 3), .int .i64 ((f J).r 4), .int .i64 ((f J).r 5), .int .i64 ((f J).r 6), .int .i64 (n % 65536), .int .i64 (f J).md])).run Tryd.prog W = .ok (.bool true) W := fun W => Cu.eql_lit _ _ _ _ _ _ _ _ _ _ W
              have hq2 : ∀ W, (binOp BinOp.eql 24 (.agg #[.int .i64 (f J).pc, .int .i64 ((f J).r 0), .int .i64 ((f J).r 1), .int .i64 ((f J).r 2), .int .i64 ((f J).r 3), .int .i64 ((f J).r 4), .int .i64 ((f J).r 5), .int .i64 ((f J).r 6), .int .i64 ((f J).r 7), .int .i64 (f J).md]) (.agg #[.int .i64 (f J).pc, .int .i64 ((f J).r 0), .int .i64 ((f J).r 1), .int .i64 ((f J).r 2), .int .i64 ((f J).r 3), .int .i64 ((f J).r 4), .int .i64 ((f J).r 5), .int .i64 ((f J).r 6), .int .i64 ((f J).r 7), .int .i64 (f J).md])).run Tryd.prog W = .ok (.bool true) W := fun W => Cu.eql_lit _ _ _ _ _ _ _ _ _ _ W
              go_wp2_with (go_at_call 7; (with_reducible refine HL.out.mono ?_); rintro e9 w9 ⟨rfl, b9⟩; have G9 := Lib.hid (only_trans HGF.out (Cu.grow_of b9)); obtain ⟨p0, p1, p2, p3, p4, p5, p6, p7, p8, p9⟩ := Cu.cells10 ((HPA.out.only HGF.out (by simp)).below b9 (Nat.lt_of_lt_of_le HPA.out.lt HGF.out.size)); obtain ⟨q0, q1, q2, q3, q4, q5, q6, q7, q8, q9⟩ := Cu.cells10 ((HPB.out.only HGF.out (by simp)).below b9 (Nat.lt_of_lt_of_le HPB.out.lt HGF.out.size)); obtain ⟨r0, r1, r2, r3, r4, r5, r6, r7, r8, r9⟩ := Cu.cells10 (HPW.out.below b9 HPW.out.lt); obtain ⟨s0, s1, s2, s3, s4, s5, s6, s7, s8, s9⟩ := Cu.cells10 (HPR.out.below b9 HPR.out.lt); clear b9)
              go_ret
              exact ⟨by first | rfl | (simp; done), Cu.below (only_trans HW.out.gr G9.out)⟩
      · have hx2 : x < 0 ∨ (0 ≤ x ∧ ¬ x < 8) := by omega
        rcases hx2 with hx2 | ⟨hx2, hx3⟩
        · go_upto_region 20 with (fail)
          have HPA := Lib.hid (show Blk wc ba 24 #[.int .i64 (f J).pc, .int .i64 ((f J).r 0), .int .i64 ((f J).r 1), .int .i64 ((f J).r 2), .int .i64 ((f J).r 3), .int .i64 ((f J).r 4), .int .i64 ((f J).r 5), .int .i64 ((f J).r 6), .int .i64 ((f J).r 7), .int .i64 (f J).md] from by have := HW.out.ab; rw [Cu.gave_off _ _ _ hx] at this; exact this)
          clear hx
          obtain ⟨wa, hwa⟩ : ∃ wa, wa = wc.alloc (.cells #[.int .i64 (f J).pc, .int .i64 ((f J).r 0), .int .i64 ((f J).r 1), .int .i64 ((f J).r 2), .int .i64 ((f J).r 3), .int .i64 ((f J).r 4), .int .i64 ((f J).r 5), .int .i64 ((f J).r 6), .int .i64 ((f J).r 7), .int .i64 (f J).md] 24) := ⟨_, rfl⟩
          have HGA := Lib.hid (show wc.grownBy wa none from by rw [hwa]; exact only_alloc (only_refl _ none) _)
          have HPWA := Lib.hid (show Blk wa wc.heap.size 24 #[.int .i64 (f J).pc, .int .i64 ((f J).r 0), .int .i64 ((f J).r 1), .int .i64 ((f J).r 2), .int .i64 ((f J).r 3), .int .i64 ((f J).r 4), .int .i64 ((f J).r 5), .int .i64 ((f J).r 6), .int .i64 ((f J).r 7), .int .i64 (f J).md] from by rw [hwa]; exact Blk.new _ _ _)
          rw [← hwa]
          clear hwa z0 z1 z2 z3 z4 z5 z6 z7 z8 z9
          obtain ⟨z0, z1, z2, z3, z4, z5, z6, z7, z8, z9⟩ := Cu.cells10 (show Blk wa bz 24 #[.int .i64 (f J).pc, .int .i64 ((f J).r 0), .int .i64 ((f J).r 1), .int .i64 ((f J).r 2), .int .i64 ((f J).r 3), .int .i64 ((f J).r 4), .int .i64 ((f J).r 5), .int .i64 ((f J).r 6), .int .i64 ((f J).r 7), .int .i64 (f J).md] from HW.out.zb.only HGA.out (by simp))
          go_upto_region 21 with (fail)
          obtain ⟨br, hbr⟩ : ∃ br, br = wa.heap.size := ⟨_, rfl⟩
          obtain ⟨wb, hwb⟩ : ∃ wb, wb = wa.alloc (.cells #[.int .i64 (f J).pc, .int .i64 ((f J).r 0), .int .i64 ((f J).r 1), .int .i64 ((f J).r 2), .int .i64 ((f J).r 3), .int .i64 ((f J).r 4), .int .i64 ((f J).r 5), .int .i64 ((f J).r 6), .int .i64 ((f J).r 7), .int .i64 (f J).md] 24) := ⟨_, rfl⟩
          have HGB := Lib.hid (show wc.grownBy wb none from by rw [hwb]; exact only_alloc HGA.out _)
          have HPW0 := Lib.hid (show Blk wb wc.heap.size 24 #[.int .i64 (f J).pc, .int .i64 ((f J).r 0), .int .i64 ((f J).r 1), .int .i64 ((f J).r 2), .int .i64 ((f J).r 3), .int .i64 ((f J).r 4), .int .i64 ((f J).r 5), .int .i64 ((f J).r 6), .int .i64 ((f J).r 7), .int .i64 (f J).md] from by rw [hwb]; exact HPWA.out.alloc _)
          have HPR0 := Lib.hid (show Blk wb br 24 #[.int .i64 (f J).pc, .int .i64 ((f J).r 0), .int .i64 ((f J).r 1), .int .i64 ((f J).r 2), .int .i64 ((f J).r 3), .int .i64 ((f J).r 4), .int .i64 ((f J).r 5), .int .i64 ((f J).r 6), .int .i64 ((f J).r 7), .int .i64 (f J).md] from by rw [hwb, hbr]; exact Blk.new _ _ _)
          have LR := Lib.hid (show wc.heap.size ≤ br ∧ wc.heap.size ≠ br from by have := HPWA.out.lt; omega)
          rw [← hwb, ← hbr]
          clear hwb hbr z0 z1 z2 z3 z4 z5 z6 z7 z8 z9
          have y9 : wb.cell? ⟨bz, 9, none⟩ = some (.int .i64 (f J).md) := (show Blk wb bz 24 #[.int .i64 (f J).pc, .int .i64 ((f J).r 0), .int .i64 ((f J).r 1), .int .i64 ((f J).r 2), .int .i64 ((f J).r 3), .int .i64 ((f J).r 4), .int .i64 ((f J).r 5), .int .i64 ((f J).r 6), .int .i64 ((f J).r 7), .int .i64 (f J).md] from HW.out.zb.only HGB.out (by simp)).cell 9
          have u9 : wb.cell? ⟨br, 9, none⟩ = some (.int .i64 (f J).md) := HPR0.out.cell 9
          have uf := HPR0.out.free 9
          by_cases hm : (f J).md = 1
          · have HPB := Lib.hid (show Blk wc bb 24 #[.int .i64 (f J).pc, .int .i64 ((f J).r 0), .int .i64 ((f J).r 1), .int .i64 ((f J).r 2), .int .i64 ((f J).r 3), .int .i64 ((f J).r 4), .int .i64 ((f J).r 5), .int .i64 ((f J).r 6), .int .i64 ((f J).r 7), .int .i64 0] from by have := HW.out.bb'; rw [Cu.woke_yes _ hm] at this; exact this)
            have hm2 : ((f J).md == 1) = true := by simp [hm]
            clear hm
            focus
              go_upto_region 23 with (fail)
              obtain ⟨wf, hwf⟩ : ∃ wf, wf = wb.setCell ⟨br, 9, none⟩ (.int .i64 0) := ⟨_, rfl⟩
              have HGF := Lib.hid (show wc.grownBy wf none from by rw [hwf]; exact Cu.grow_new HGB.out (only_put (only_refl _ _) 9 _) LR.out.1)
              have HPW := Lib.hid (show Blk wf wc.heap.size 24 #[.int .i64 (f J).pc, .int .i64 ((f J).r 0), .int .i64 ((f J).r 1), .int .i64 ((f J).r 2), .int .i64 ((f J).r 3), .int .i64 ((f J).r 4), .int .i64 ((f J).r 5), .int .i64 ((f J).r 6), .int .i64 ((f J).r 7), .int .i64 (f J).md] from by rw [hwf]; exact HPW0.out.far (by show wc.heap.size ≠ br; exact LR.out.2) _)
              have HPR := Lib.hid (show Blk wf br 24 #[.int .i64 (f J).pc, .int .i64 ((f J).r 0), .int .i64 ((f J).r 1), .int .i64 ((f J).r 2), .int .i64 ((f J).r 3), .int .i64 ((f J).r 4), .int .i64 ((f J).r 5), .int .i64 ((f J).r 6), .int .i64 ((f J).r 7), .int .i64 0] from by rw [hwf]; have := HPR0.out.put 9 (.int .i64 0); simp only [List.setIfInBounds_toArray, List.set_cons_zero, List.set_cons_succ] at this; exact this)
              rw [← hwf]
              clear hwf y9 u9 uf
              have HL := Lib.hid (Cu.live_any wf (HW.out.nm.grown (only_trans HW.out.gr HGF.out) (by simp)) (HW.out.nm.grown (only_trans HW.out.gr HGF.out) (by simp)).pos)
              have hq1 : ∀ W, (binOp BinOp.eql 24 (.agg #[.int .i64 (f J).pc, .int .i64 ((f J).r 0), .int .i64 ((f J).r 1), .int .i64 ((f J).r 2), .int .i64 ((f J).r 3), .int .i64 ((f J).r 4), .int .i64 ((f J).r 5), .int .i64 ((f J).r 6), .int .i64 ((f J).r 7), .int .i64 (f J).md]) (.agg #[.int .i64 (f J).pc, .int .i64 ((f J).r 0), .int .i64 ((f J).r 1), .int .i64 ((f J).r 2), .int .i64 ((f J).r 3), .int .i64 ((f J).r 4), .int .i64 ((f J).r 5), .int .i64 ((f J).r 6), .int .i64 ((f J).r 7), .int .i64 (f J).md])).run Tryd.prog W = .ok (.bool true) W := fun W => Cu.eql_lit _ _ _ _ _ _ _ _ _ _ W
              have hq2 : ∀ W, (binOp BinOp.eql 24 (.agg #[.int .i64 (f J).pc, .int .i64 ((f J).r 0), .int .i64 ((f J).r 1), .int .i64 ((f J).r 2), .int .i64 ((f J).r 3), .int .i64 ((f J).r 4), .int .i64 ((f J).r 5), .int .i64 ((f J).r 6), .int .i64 ((f J).r 7), .int .i64 0]) (.agg #[.int .i64 (f J).pc, .int .i64 ((f J).r 0), .int .i64 ((f J).r 1), .int .i64 ((f J).r 2), .int .i64 ((f J).r 3), .int .i64 ((f J).r 4), .int .i64 ((f J).r 5), .int .i64 ((f J).r 6), .int .i64 ((f J).r 7), .int .i64 0])).run Tryd.prog W = .ok (.bool true) W := fun W => Cu.eql_lit _ _ _ _ _ _ _ _ _ _ W
              go_wp2_with (go_at_call 7; (with_reducible refine HL.out.mono ?_); rintro e9 w9 ⟨rfl, b9⟩; have G9 := Lib.hid (only_trans HGF.out (Cu.grow_of b9)); obtain ⟨p0, p1, p2, p3, p4, p5, p6, p7, p8, p9⟩ := Cu.cells10 ((HPA.out.only HGF.out (by simp)).below b9 (Nat.lt_of_lt_of_le HPA.out.lt HGF.out.size)); obtain ⟨q0, q1, q2, q3, q4, q5, q6, q7, q8, q9⟩ := Cu.cells10 ((HPB.out.only HGF.out (by simp)).below b9 (Nat.lt_of_lt_of_le HPB.out.lt HGF.out.size)); obtain ⟨r0, r1, r2, r3, r4, r5, r6, r7, r8, r9⟩ := Cu.cells10 (HPW.out.below b9 HPW.out.lt); obtain ⟨s0, s1, s2, s3, s4, s5, s6, s7, s8, s9⟩ := Cu.cells10 (HPR.out.below b9 HPR.out.lt); clear b9)
              go_ret
              exact ⟨by first | rfl | (simp; done), Cu.below (only_trans HW.out.gr G9.out)⟩
          · have HPB := Lib.hid (show Blk wc bb 24 #[.int .i64 (f J).pc, .int .i64 ((f J).r 0), .int .i64 ((f J).r 1), .int .i64 ((f J).r 2), .int .i64 ((f J).r 3), .int .i64 ((f J).r 4), .int .i64 ((f J).r 5), .int .i64 ((f J).r 6), .int .i64 ((f J).r 7), .int .i64 (f J).md] from by have := HW.out.bb'; rw [Cu.woke_no _ hm] at this; exact this)
            have hm2 : ((f J).md == 1) = false := by simpa using hm
            focus
              go_upto_region 23 with (fail)
              obtain ⟨wf, hwf⟩ : ∃ wf, wf = wb := ⟨_, rfl⟩
              have HGF := Lib.hid (show wc.grownBy wf none from by rw [hwf]; exact HGB.out)
              have HPW := Lib.hid (show Blk wf wc.heap.size 24 #[.int .i64 (f J).pc, .int .i64 ((f J).r 0), .int .i64 ((f J).r 1), .int .i64 ((f J).r 2), .int .i64 ((f J).r 3), .int .i64 ((f J).r 4), .int .i64 ((f J).r 5), .int .i64 ((f J).r 6), .int .i64 ((f J).r 7), .int .i64 (f J).md] from by rw [hwf]; exact HPW0.out)
              have HPR := Lib.hid (show Blk wf br 24 #[.int .i64 (f J).pc, .int .i64 ((f J).r 0), .int .i64 ((f J).r 1), .int .i64 ((f J).r 2), .int .i64 ((f J).r 3), .int .i64 ((f J).r 4), .int .i64 ((f J).r 5), .int .i64 ((f J).r 6), .int .i64 ((f J).r 7), .int .i64 (f J).md] from by rw [hwf]; exact HPR0.out)
              rw [← hwf]
              clear hwf y9 u9 uf
              have HL := Lib.hid (Cu.live_any wf (HW.out.nm.grown (only_trans HW.out.gr HGF.out) (by simp)) (HW.out.nm.grown (only_trans HW.out.gr HGF.out) (by simp)).pos)
              have hq1 : ∀ W, (binOp BinOp.eql 24 (.agg #[.int .i64 (f J).pc, .int .i64 ((f J).r 0), .int .i64 ((f J).r 1), .int .i64 ((f J).r 2), .int .i64 ((f J).r 3), .int .i64 ((f J).r 4), .int .i64 ((f J).r 5), .int .i64 ((f J).r 6), .int .i64 ((f J).r 7), .int .i64 (f J).md]) (.agg #[.int .i64 (f J).pc, .int .i64 ((f J).r 0), .int .i64 ((f J).r 1), .int .i64 ((f J).r 2), .int .i64 ((f J).r 3), .int .i64 ((f J).r 4), .int .i64 ((f J).r 5), .int .i64 ((f J).r 6), .int .i64 ((f J).r 7), .int .i64 (f J).md])).run Tryd.prog W = .ok (.bool true) W := fun W => Cu.eql_lit _ _ _ _ _ _ _ _ _ _ W
              go_wp2_with (go_at_call 7; (with_reducible refine HL.out.mono ?_); rintro e9 w9 ⟨rfl, b9⟩; have G9 := Lib.hid (only_trans HGF.out (Cu.grow_of b9)); obtain ⟨p0, p1, p2, p3, p4, p5, p6, p7, p8, p9⟩ := Cu.cells10 ((HPA.out.only HGF.out (by simp)).below b9 (Nat.lt_of_lt_of_le HPA.out.lt HGF.out.size)); obtain ⟨q0, q1, q2, q3, q4, q5, q6, q7, q8, q9⟩ := Cu.cells10 ((HPB.out.only HGF.out (by simp)).below b9 (Nat.lt_of_lt_of_le HPB.out.lt HGF.out.size)); obtain ⟨r0, r1, r2, r3, r4, r5, r6, r7, r8, r9⟩ := Cu.cells10 (HPW.out.below b9 HPW.out.lt); obtain ⟨s0, s1, s2, s3, s4, s5, s6, s7, s8, s9⟩ := Cu.cells10 (HPR.out.below b9 HPR.out.lt); clear b9)
              go_ret
              exact ⟨by first | rfl | (simp; done), Cu.below (only_trans HW.out.gr G9.out)⟩
        · go_upto_region 20 with (fail)
          have HPA := Lib.hid (show Blk wc ba 24 #[.int .i64 (f J).pc, .int .i64 ((f J).r 0), .int .i64 ((f J).r 1), .int .i64 ((f J).r 2), .int .i64 ((f J).r 3), .int .i64 ((f J).r 4), .int .i64 ((f J).r 5), .int .i64 ((f J).r 6), .int .i64 ((f J).r 7), .int .i64 (f J).md] from by have := HW.out.ab; rw [Cu.gave_off _ _ _ hx] at this; exact this)
          clear hx
          obtain ⟨wa, hwa⟩ : ∃ wa, wa = wc.alloc (.cells #[.int .i64 (f J).pc, .int .i64 ((f J).r 0), .int .i64 ((f J).r 1), .int .i64 ((f J).r 2), .int .i64 ((f J).r 3), .int .i64 ((f J).r 4), .int .i64 ((f J).r 5), .int .i64 ((f J).r 6), .int .i64 ((f J).r 7), .int .i64 (f J).md] 24) := ⟨_, rfl⟩
          have HGA := Lib.hid (show wc.grownBy wa none from by rw [hwa]; exact only_alloc (only_refl _ none) _)
          have HPWA := Lib.hid (show Blk wa wc.heap.size 24 #[.int .i64 (f J).pc, .int .i64 ((f J).r 0), .int .i64 ((f J).r 1), .int .i64 ((f J).r 2), .int .i64 ((f J).r 3), .int .i64 ((f J).r 4), .int .i64 ((f J).r 5), .int .i64 ((f J).r 6), .int .i64 ((f J).r 7), .int .i64 (f J).md] from by rw [hwa]; exact Blk.new _ _ _)
          rw [← hwa]
          clear hwa z0 z1 z2 z3 z4 z5 z6 z7 z8 z9
          obtain ⟨z0, z1, z2, z3, z4, z5, z6, z7, z8, z9⟩ := Cu.cells10 (show Blk wa bz 24 #[.int .i64 (f J).pc, .int .i64 ((f J).r 0), .int .i64 ((f J).r 1), .int .i64 ((f J).r 2), .int .i64 ((f J).r 3), .int .i64 ((f J).r 4), .int .i64 ((f J).r 5), .int .i64 ((f J).r 6), .int .i64 ((f J).r 7), .int .i64 (f J).md] from HW.out.zb.only HGA.out (by simp))
          go_upto_region 21 with (fail)
          obtain ⟨br, hbr⟩ : ∃ br, br = wa.heap.size := ⟨_, rfl⟩
          obtain ⟨wb, hwb⟩ : ∃ wb, wb = wa.alloc (.cells #[.int .i64 (f J).pc, .int .i64 ((f J).r 0), .int .i64 ((f J).r 1), .int .i64 ((f J).r 2), .int .i64 ((f J).r 3), .int .i64 ((f J).r 4), .int .i64 ((f J).r 5), .int .i64 ((f J).r 6), .int .i64 ((f J).r 7), .int .i64 (f J).md] 24) := ⟨_, rfl⟩
          have HGB := Lib.hid (show wc.grownBy wb none from by rw [hwb]; exact only_alloc HGA.out _)
          have HPW0 := Lib.hid (show Blk wb wc.heap.size 24 #[.int .i64 (f J).pc, .int .i64 ((f J).r 0), .int .i64 ((f J).r 1), .int .i64 ((f J).r 2), .int .i64 ((f J).r 3), .int .i64 ((f J).r 4), .int .i64 ((f J).r 5), .int .i64 ((f J).r 6), .int .i64 ((f J).r 7), .int .i64 (f J).md] from by rw [hwb]; exact HPWA.out.alloc _)
          have HPR0 := Lib.hid (show Blk wb br 24 #[.int .i64 (f J).pc, .int .i64 ((f J).r 0), .int .i64 ((f J).r 1), .int .i64 ((f J).r 2), .int .i64 ((f J).r 3), .int .i64 ((f J).r 4), .int .i64 ((f J).r 5), .int .i64 ((f J).r 6), .int .i64 ((f J).r 7), .int .i64 (f J).md] from by rw [hwb, hbr]; exact Blk.new _ _ _)
          have LR := Lib.hid (show wc.heap.size ≤ br ∧ wc.heap.size ≠ br from by have := HPWA.out.lt; omega)
          rw [← hwb, ← hbr]
          clear hwb hbr z0 z1 z2 z3 z4 z5 z6 z7 z8 z9
          have y9 : wb.cell? ⟨bz, 9, none⟩ = some (.int .i64 (f J).md) := (show Blk wb bz 24 #[.int .i64 (f J).pc, .int .i64 ((f J).r 0), .int .i64 ((f J).r 1), .int .i64 ((f J).r 2), .int .i64 ((f J).r 3), .int .i64 ((f J).r 4), .int .i64 ((f J).r 5), .int .i64 ((f J).r 6), .int .i64 ((f J).r 7), .int .i64 (f J).md] from HW.out.zb.only HGB.out (by simp)).cell 9
          have u9 : wb.cell? ⟨br, 9, none⟩ = some (.int .i64 (f J).md) := HPR0.out.cell 9
          have uf := HPR0.out.free 9
          by_cases hm : (f J).md = 1
          · have HPB := Lib.hid (show Blk wc bb 24 #[.int .i64 (f J).pc, .int .i64 ((f J).r 0), .int .i64 ((f J).r 1), .int .i64 ((f J).r 2), .int .i64 ((f J).r 3), .int .i64 ((f J).r 4), .int .i64 ((f J).r 5), .int .i64 ((f J).r 6), .int .i64 ((f J).r 7), .int .i64 0] from by have := HW.out.bb'; rw [Cu.woke_yes _ hm] at this; exact this)
            have hm2 : ((f J).md == 1) = true := by simp [hm]
            clear hm
            focus
              go_upto_region 23 with (fail)
              obtain ⟨wf, hwf⟩ : ∃ wf, wf = wb.setCell ⟨br, 9, none⟩ (.int .i64 0) := ⟨_, rfl⟩
              have HGF := Lib.hid (show wc.grownBy wf none from by rw [hwf]; exact Cu.grow_new HGB.out (only_put (only_refl _ _) 9 _) LR.out.1)
              have HPW := Lib.hid (show Blk wf wc.heap.size 24 #[.int .i64 (f J).pc, .int .i64 ((f J).r 0), .int .i64 ((f J).r 1), .int .i64 ((f J).r 2), .int .i64 ((f J).r 3), .int .i64 ((f J).r 4), .int .i64 ((f J).r 5), .int .i64 ((f J).r 6), .int .i64 ((f J).r 7), .int .i64 (f J).md] from by rw [hwf]; exact HPW0.out.far (by show wc.heap.size ≠ br; exact LR.out.2) _)
              have HPR := Lib.hid (show Blk wf br 24 #[.int .i64 (f J).pc, .int .i64 ((f J).r 0), .int .i64 ((f J).r 1), .int .i64 ((f J).r 2), .int .i64 ((f J).r 3), .int .i64 ((f J).r 4), .int .i64 ((f J).r 5), .int .i64 ((f J).r 6), .int .i64 ((f J).r 7), .int .i64 0] from by rw [hwf]; have := HPR0.out.put 9 (.int .i64 0); simp only [List.setIfInBounds_toArray, List.set_cons_zero, List.set_cons_succ] at this; exact this)
              rw [← hwf]
              clear hwf y9 u9 uf
              have HL := Lib.hid (Cu.live_any wf (HW.out.nm.grown (only_trans HW.out.gr HGF.out) (by simp)) (HW.out.nm.grown (only_trans HW.out.gr HGF.out) (by simp)).pos)
              have hq1 : ∀ W, (binOp BinOp.eql 24 (.agg #[.int .i64 (f J).pc, .int .i64 ((f J).r 0), .int .i64 ((f J).r 1), .int .i64 ((f J).r 2), .int .i64 ((f J).r 3), .int .i64 ((f J).r 4), .int .i64 ((f J).r 5), .int .i64 ((f J).r 6), .int .i64 ((f J).r 7), .int .i64 (f J).md]) (.agg #[.int .i64 (f J).pc, .int .i64 ((f J).r 0), .int .i64 ((f J).r 1), .int .i64 ((f J).r 2), .int .i64 ((f J).r 3), .int .i64 ((f J).r 4), .int .i64 ((f J).r 5), .int .i64 ((f J).r 6), .int .i64 ((f J).r 7), .int .i64 (f J).md])).run Tryd.prog W = .ok (.bool true) W := fun W => Cu.eql_lit _ _ _ _ _ _ _ _ _ _ W
              have hq2 : ∀ W, (binOp BinOp.eql 24 (.agg #[.int .i64 (f J).pc, .int .i64 ((f J).r 0), .int .i64 ((f J).r 1), .int .i64 ((f J).r 2), .int .i64 ((f J).r 3), .int .i64 ((f J).r 4), .int .i64 ((f J).r 5), .int .i64 ((f J).r 6), .int .i64 ((f J).r 7), .int .i64 0]) (.agg #[.int .i64 (f J).pc, .int .i64 ((f J).r 0), .int .i64 ((f J).r 1), .int .i64 ((f J).r 2), .int .i64 ((f J).r 3), .int .i64 ((f J).r 4), .int .i64 ((f J).r 5), .int .i64 ((f J).r 6), .int .i64 ((f J).r 7), .int .i64 0])).run Tryd.prog W = .ok (.bool true) W := fun W => Cu.eql_lit _ _ _ _ _ _ _ _ _ _ W
              go_wp2_with (go_at_call 7; (with_reducible refine HL.out.mono ?_); rintro e9 w9 ⟨rfl, b9⟩; have G9 := Lib.hid (only_trans HGF.out (Cu.grow_of b9)); obtain ⟨p0, p1, p2, p3, p4, p5, p6, p7, p8, p9⟩ := Cu.cells10 ((HPA.out.only HGF.out (by simp)).below b9 (Nat.lt_of_lt_of_le HPA.out.lt HGF.out.size)); obtain ⟨q0, q1, q2, q3, q4, q5, q6, q7, q8, q9⟩ := Cu.cells10 ((HPB.out.only HGF.out (by simp)).below b9 (Nat.lt_of_lt_of_le HPB.out.lt HGF.out.size)); obtain ⟨r0, r1, r2, r3, r4, r5, r6, r7, r8, r9⟩ := Cu.cells10 (HPW.out.below b9 HPW.out.lt); obtain ⟨s0, s1, s2, s3, s4, s5, s6, s7, s8, s9⟩ := Cu.cells10 (HPR.out.below b9 HPR.out.lt); clear b9)
              go_ret
              exact ⟨by first | rfl | (simp; done), Cu.below (only_trans HW.out.gr G9.out)⟩
          · have HPB := Lib.hid (show Blk wc bb 24 #[.int .i64 (f J).pc, .int .i64 ((f J).r 0), .int .i64 ((f J).r 1), .int .i64 ((f J).r 2), .int .i64 ((f J).r 3), .int .i64 ((f J).r 4), .int .i64 ((f J).r 5), .int .i64 ((f J).r 6), .int .i64 ((f J).r 7), .int .i64 (f J).md] from by have := HW.out.bb'; rw [Cu.woke_no _ hm] at this; exact this)
            have hm2 : ((f J).md == 1) = false := by simpa using hm
            focus
              go_upto_region 23 with (fail)
              obtain ⟨wf, hwf⟩ : ∃ wf, wf = wb := ⟨_, rfl⟩
              have HGF := Lib.hid (show wc.grownBy wf none from by rw [hwf]; exact HGB.out)
              have HPW := Lib.hid (show Blk wf wc.heap.size 24 #[.int .i64 (f J).pc, .int .i64 ((f J).r 0), .int .i64 ((f J).r 1), .int .i64 ((f J).r 2), .int .i64 ((f J).r 3), .int .i64 ((f J).r 4), .int .i64 ((f J).r 5), .int .i64 ((f J).r 6), .int .i64 ((f J).r 7), .int .i64 (f J).md] from by rw [hwf]; exact HPW0.out)
              have HPR := Lib.hid (show Blk wf br 24 #[.int .i64 (f J).pc, .int .i64 ((f J).r 0), .int .i64 ((f J).r 1), .int .i64 ((f J).r 2), .int .i64 ((f J).r 3), .int .i64 ((f J).r 4), .int .i64 ((f J).r 5), .int .i64 ((f J).r 6), .int .i64 ((f J).r 7), .int .i64 (f J).md] from by rw [hwf]; exact HPR0.out)
              rw [← hwf]
              clear hwf y9 u9 uf
              have HL := Lib.hid (Cu.live_any wf (HW.out.nm.grown (only_trans HW.out.gr HGF.out) (by simp)) (HW.out.nm.grown (only_trans HW.out.gr HGF.out) (by simp)).pos)
              have hq1 : ∀ W, (binOp BinOp.eql 24 (.agg #[.int .i64 (f J).pc, .int .i64 ((f J).r 0), .int .i64 ((f J).r 1), .int .i64 ((f J).r 2), .int .i64 ((f J).r 3), .int .i64 ((f J).r 4), .int .i64 ((f J).r 5), .int .i64 ((f J).r 6), .int .i64 ((f J).r 7), .int .i64 (f J).md]) (.agg #[.int .i64 (f J).pc, .int .i64 ((f J).r 0), .int .i64 ((f J).r 1), .int .i64 ((f J).r 2), .int .i64 ((f J).r 3), .int .i64 ((f J).r 4), .int .i64 ((f J).r 5), .int .i64 ((f J).r 6), .int .i64 ((f J).r 7), .int .i64 (f J).md])).run Tryd.prog W = .ok (.bool true) W := fun W => Cu.eql_lit _ _ _ _ _ _ _ _ _ _ W
              go_wp2_with (go_at_call 7; (with_reducible refine HL.out.mono ?_); rintro e9 w9 ⟨rfl, b9⟩; have G9 := Lib.hid (only_trans HGF.out (Cu.grow_of b9)); obtain ⟨p0, p1, p2, p3, p4, p5, p6, p7, p8, p9⟩ := Cu.cells10 ((HPA.out.only HGF.out (by simp)).below b9 (Nat.lt_of_lt_of_le HPA.out.lt HGF.out.size)); obtain ⟨q0, q1, q2, q3, q4, q5, q6, q7, q8, q9⟩ := Cu.cells10 ((HPB.out.only HGF.out (by simp)).below b9 (Nat.lt_of_lt_of_le HPB.out.lt HGF.out.size)); obtain ⟨r0, r1, r2, r3, r4, r5, r6, r7, r8, r9⟩ := Cu.cells10 (HPW.out.below b9 HPW.out.lt); obtain ⟨s0, s1, s2, s3, s4, s5, s6, s7, s8, s9⟩ := Cu.cells10 (HPR.out.below b9 HPR.out.lt); clear b9)
              go_ret
              exact ⟨by first | rfl | (simp; done), Cu.below (only_trans HW.out.gr G9.out)⟩

end Go.Proofs.YtiicoabkhponmaaDoor
