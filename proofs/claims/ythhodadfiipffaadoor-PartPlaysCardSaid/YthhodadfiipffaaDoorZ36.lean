import Derived.Test.YthhodadfiipffaaDoorZ32
import Derived.LoopTactic
set_option linter.all false
/- The document's Step, by contract: cases 3. -/
namespace Go.Proofs.YthhodadfiipffaaDoor
open Go.RowKit Go.Lib
set_option linter.unusedVariables false
set_option maxRecDepth 20000

set_option maxHeartbeats 12800000 in
theorem Cu.rs_3 (V : List UInt8) (A : Option Addr) (len cap : Nat) (hlen : len = V.length) (hV : V.length ≤ 1000) (pc : Int) (r : Nat → Int) (k : Nat) (hpc : pc = (k : Int)) (hk : k + 4 ≤ V.length) (x n : Nat) (hx : x < 8) (hn : n < 8) (hget : getV (Cu.ins V k) = .tuple #[.agg #[.int .u8 3, .int .i64 x, .int .i64 n], .int .i64 0]) (w : World) (hA : Ints w A cap (num V)) : Calls Tryd.prog 42 #[.slice A len cap, .agg #[.int .i64 pc, .int .i64 (r 0), .int .i64 (r 1), .int .i64 (r 2), .int .i64 (r 3), .int .i64 (r 4), .int .i64 (r 5), .int .i64 (r 6), .int .i64 (r 7), .int .i64 0]] w (Cu.Rst w V A (Cu.exec V k (Cu.cut r) 3 x n)) := by
  subst hlen
  have HIN := Lib.hid hA
  subst hpc
  have hth : thereB V.length (k : Int) 4 = true := by unfold thereB; simp; omega
  have hTH := Go.Proofs.YthhodadfiipffaaDoor.there_any A V.length cap (k : Int) 4
  rw [hth] at hTH
  have HTH := Lib.hid hTH
  have HTX := Lib.hid (fun W (g : w.grownBy W none) => show Calls Tryd.prog 32 #[.slice A V.length cap, .int .i64 k, .int .i64 4] W (fun e w' => e = .returned (.string (Cu.ins V k)) ∧ Below W.heap.size W w') from rtext_any A cap V.length V (by rw [num_len]) k 4 W (Cu.ints_gr hA g) hk hV)
  have hGE := fun W => rget_any (Cu.ins V k) (by rw [Cu.ins_size hk]; decide) W
  rw [hget] at hGE
  have HGE := Lib.hid hGE
  have k4 : (k : Int) + 4 ≤ 1000 := by omega
  have kz : (0 : Int) ≤ (k : Int) := by omega
  clear hTH hth hGE hget
  have i1 : (x : Int) < 8 := by omega
  have i2 : (0 : Int) ≤ (x : Int) := by omega
  have i3 : ¬ (x : Int) < 0 := by omega
  have i4 : ¬ (7 : Int) < (x : Int) := by omega
  have j1 : (n : Int) < 8 := by omega
  have j2 : (0 : Int) ≤ (n : Int) := by omega
  have j3 : ¬ (n : Int) < 0 := by omega
  have j4 : ¬ (7 : Int) < (n : Int) := by omega
  have HE := Lib.hid (show ∀ R, Cu.exec V k R 3 x n = ⟨V, k + 4, Cu.upd R x (Cu.mkV 3 n (R x) (R n)), 0, 1, 0, 0, 0⟩ from fun R => by unfold Cu.exec; simp)
  have HMD := Lib.hid (fun W => show Calls Tryd.prog 54 #[.int .u8 3, .int .i64 (Cu.cut r x), .int .i64 (Cu.cut r n)] W (fun e w' => e = .returned (.int .i64 (Cu.mkV 3 n (Cu.cut r x) (Cu.cut r n))) ∧ W = w') from Cu.made21_any 3 (Cu.cut r x) (Cu.cut r n) n (by omega) (Cu.cut_in r x) (Cu.cut_in r n) W)
  obtain ⟨W1, hW1⟩ : ∃ W1, W1 = ((w.alloc (.cells (Cu.stC (k : Int) r 0) 35)).alloc (.cells #[.int .i64 0, .int .i64 0, .int .i64 0, .int .i64 0, .int .i64 0, .int .i64 0, .int .i64 0, .int .i64 0, .int .i64 0, .int .i64 0] 35)).alloc (.cells #[.int .i64 0, .int .i64 0, .int .i64 0, .int .i64 0] 99) := ⟨_, rfl⟩
  have H1 := Lib.hid (show Cu.Rw w W1 (Cu.stC (k : Int) (Cu.mix r 0) 0) from by rw [hW1, Cu.mix_0]; exact Cu.rw_new _ _)
  unfold Cu.stC at hW1
  clear hA
  have k9 := (Cu.st_cells H1.out.sb).2.1
  go_enter Tryd.func42, Tryd.ntmps42
  go_upto_region 1 with (fail)
  rw [← hW1]
  clear hW1
  go_wp2
  clear k9
  go_loopw [7] (fun y wr => ∃ kk : Nat, y = .int .i64 kk ∧ kk ≤ 8 ∧ Hid (Cu.Rw w wr (Cu.stC (k : Int) (Cu.mix r kk) 0))) (fun y _ => 8 - (Go.RowKit.intOf y).toNat)
  case atStart => exact ⟨0, rfl, Nat.zero_le _, H1⟩
  case round =>
    obtain ⟨kk, rfl, hkk, HS⟩ := hrel
    clear H1
    by_cases hin : kk < 8
    · have c0 := HS.out.sb.cell (1 + kk)
      have f0 := HS.out.sb.free (1 + kk)
      have c1 := (Cu.st_cells HS.out.sb).2.2 kk hin
      rw [show Cu.mix r kk kk = r kk from by unfold Cu.mix; rw [if_neg (Nat.lt_irrefl kk)]] at c1
      have HS2 := Lib.hid (HS.out.put (1 + kk) (.int .i64 (r kk % 65536)))
      rw [Cu.mix_put _ _ _ kk hin] at HS2
      have HKI := Lib.hid (show kk + 1 ≤ 8 from hin)
      have i1 : (kk : Int) < 8 := by omega
      have i2 : (0 : Int) ≤ (kk : Int) := by omega
      have i3 : ¬ (kk : Int) < 0 := by omega
      have i4 : ¬ (7 : Int) < (kk : Int) := by omega
      clear HS hkk hin c0
      go_wp2_with (go_at_call 50; (with_reducible refine (Cu.word_any _ _).mono ?_); rintro e w' ⟨rfl, rfl⟩)
      go_roundw
      case rel => exact ⟨kk + 1, by go_num, HKI.out, HS2⟩
      case measure =>
        have := HKI.out
        simp [Go.RowKit.intOf]
        omega
    · obtain rfl : kk = 8 := by omega
      have HS1 := Lib.hid (show Cu.Rw w wr (Cu.stC (k : Int) (Cu.cut r) 0) from HS.out)
      have p0 := (Cu.st_cells HS1.out.sb).1
      clear HS hkk hin
      generalize Cu.cut r = R at *

      go_upto_region 11 with (first
        | (go_at_call 51; (with_reducible refine (HTH.out _ (by omega)).mono ?_); rintro e w' ⟨rfl, rfl⟩)
        | (go_at_call 32; (with_reducible refine (HTX.out _ HS1.out.gr).mono ?_); rintro e w5 ⟨rfl, b5⟩; have H5 := Lib.hid (HS1.out.grown (Cu.grow_of b5)); clear b5)
        | (go_at_call 53; (with_reducible refine (HGE.out _).mono ?_); rintro e w6 ⟨rfl, g6⟩; have H6 := Lib.hid (H5.out.grown g6); clear g6))
      have q7 := Lib.hid (Blk.new w6 104 #[.int .u8 3, .int .i64 x, .int .i64 n])
      have H7 := Lib.hid (H6.out.grown (only_alloc (only_refl w6 none) (.cells #[.int .u8 3, .int .i64 x, .int .i64 n] 104)))
      obtain ⟨bi, hbi⟩ : ∃ bi, bi = w6.heap.size := ⟨_, rfl⟩
      have hlt7 : w.heap.size + 1 + 1 < bi := by have := H6.out.ro.lt; omega
      obtain ⟨W7, hW7⟩ : ∃ W7, W7 = w6.alloc (.cells #[.int .u8 3, .int .i64 x, .int .i64 n] 104) := ⟨_, rfl⟩
      rw [← hW7, ← hbi] at q7 ⊢
      rw [← hW7] at H7
      clear hW7 hbi p0 HTH HTX HGE HS1 H5 H6
      have p0 := (Cu.st_cells H7.out.sb).1
      go_upto_region 16 with (fail)
      have hbl := q7.out.lt
      have H8 := Lib.hid (show Cu.Rx w (W7.alloc (.cells #[.int .i64 1, .int .i64 0, .int .i64 0, .int .i64 0] 99)) bi W7.heap.size (Cu.stC k R 0) #[.int .u8 3, .int .i64 x, .int .i64 n] #[.int .i64 1, .int .i64 0, .int .i64 0, .int .i64 0] from ⟨H7.out.grown (only_alloc (only_refl _ none) _), q7.out.alloc _, Blk.new _ _ _, hlt7, hbl⟩)
      obtain ⟨bo, hbo⟩ : ∃ bo, bo = W7.heap.size := ⟨_, rfl⟩
      obtain ⟨W8, hW8⟩ : ∃ W8, W8 = W7.alloc (.cells #[.int .i64 1, .int .i64 0, .int .i64 0, .int .i64 0] 99) := ⟨_, rfl⟩
      rw [← hW8, ← hbo] at H8 ⊢
      clear hW8 hbo hbl hlt7 p0 q7 H7
      have HLT := Lib.hid H8.out.lt
      have n1 : ¬ bi = w.heap.size := by have := HLT.out; omega
      have n2 : ¬ w.heap.size = bi := by have := HLT.out; omega
      have n3 : ¬ bo = w.heap.size := by have := HLT.out; omega
      have n4 : ¬ w.heap.size = bo := by have := HLT.out; omega
      have n5 : ¬ bi = bo := by have := HLT.out; omega
      have n6 : ¬ bo = bi := by have := HLT.out; omega
      have na : ¬ bo = w.heap.size + 1 := by have := HLT.out; omega
      have nb : ¬ w.heap.size + 1 = bo := by have := HLT.out; omega
      have nc : ¬ bo = w.heap.size + 1 + 1 := by have := HLT.out; omega
      have nd : ¬ w.heap.size + 1 + 1 = bo := by have := HLT.out; omega
      have ne : ¬ bi = w.heap.size + 1 := by have := HLT.out; omega
      have nf : ¬ w.heap.size + 1 = bi := by have := HLT.out; omega
      have ng : ¬ bi = w.heap.size + 1 + 1 := by have := HLT.out; omega
      have nh : ¬ w.heap.size + 1 + 1 = bi := by have := HLT.out; omega
      have cx := (Cu.st_cells H8.out.rw'.sb).2.2 x hx
      have fx := H8.out.rw'.sb.free (1 + x)
      obtain ⟨k0, k1, k2, k3, k4, k5, k6, k7, k8, k9⟩ := Cu.cells10 H8.out.rw'.sb
      obtain ⟨l0, l1, l2, l3, l4, l5, l6, l7, l8, l9⟩ := Cu.free10 H8.out.rw'.sb
      obtain ⟨d0, d1, d2⟩ := in3 H8.out.ib
      obtain ⟨t0, t1, t2, t3⟩ := Cu.cells4 H8.out.ob
      obtain ⟨m0, m1, m2, m3⟩ := Cu.free4 H8.out.ob
      have cn := (Cu.st_cells H8.out.rw'.sb).2.2 n hn
      generalize hmk : Cu.mkV 3 n (R x) (R n) = mk at HMD
      go_upto_region 40 with (fail)
      clear k0 k1 k2 k3 k4 k5 k6 k7 k8 k9 l0 l1 l2 l3 l4 l5 l6 l7 l8 l9 t0 t1 t2 t3 m0 m1 m2 m3
      go_region_with (go_at_call 54; (with_reducible refine (HMD.out _).mono ?_); rintro e w' ⟨rfl, rfl⟩)
      all_goals
        obtain ⟨W9, hW9⟩ : ∃ W9, W9 = (W8.setCell ⟨w.heap.size, 1 + x, none⟩ (.int .i64 mk)).drew := ⟨_, rfl⟩
        have H9 := Lib.hid (show Cu.Rx w W9 bi bo (Cu.stC k (Cu.upd R x mk) 0) _ _ from by
          rw [hW9, ← Cu.stC_reg k R 0 x hx]
          exact (H8.out.put (1 + x) _).grown (only_drewN (only_refl _ none) 1))
        rw [← hW9]
        clear hW9 cx fx
        clear d0 d1 d2 cn
        obtain ⟨k0, k1, k2, k3, k4, k5, k6, k7, k8, k9⟩ := Cu.cells10 H9.out.rw'.sb
        obtain ⟨l0, l1, l2, l3, l4, l5, l6, l7, l8, l9⟩ := Cu.free10 H9.out.rw'.sb
        obtain ⟨d0, d1, d2⟩ := in3 H9.out.ib
        obtain ⟨t0, t1, t2, t3⟩ := Cu.cells4 H9.out.ob
        obtain ⟨m0, m1, m2, m3⟩ := Cu.free4 H9.out.ob
        go_upto_region 50 with (fail)
        obtain ⟨WP, hWP⟩ : ∃ WP, WP = W9.setCell ⟨w.heap.size, 0, none⟩ (.int .i64 ((k : Int) + 4)) := ⟨_, rfl⟩
        have HP := Lib.hid (show Cu.Rx w WP bi bo (Cu.stC ((k : Int) + 4) (Cu.upd R x mk) 0) _ _ from by rw [hWP]; exact H9.out.put 0 (.int .i64 ((k : Int) + 4)))
        rw [← hWP]
        clear hWP
        clear k0 k1 k2 k3 k4 k5 k6 k7 k8 k9 l0 l1 l2 l3 l4 l5 l6 l7 l8 l9 d0 d1 d2 t0 t1 t2 t3 m0 m1 m2 m3
        obtain ⟨k0, k1, k2, k3, k4, k5, k6, k7, k8, k9⟩ := Cu.cells10 HP.out.rw'.sb
        obtain ⟨l0, l1, l2, l3, l4, l5, l6, l7, l8, l9⟩ := Cu.free10 HP.out.rw'.sb
        obtain ⟨d0, d1, d2⟩ := in3 HP.out.ib
        obtain ⟨t0, t1, t2, t3⟩ := Cu.cells4 HP.out.ob
        obtain ⟨m0, m1, m2, m3⟩ := Cu.free4 HP.out.ob
        obtain ⟨z0, z1, z2, z3, z4, z5, z6, z7, z8, z9⟩ := Cu.cells10 HP.out.rw'.rs
        obtain ⟨f0, f1, f2, f3, f4, f5, f6, f7, f8, f9⟩ := Cu.free10 HP.out.rw'.rs
        obtain ⟨o0, o1, o2, o3⟩ := Cu.cells4 HP.out.rw'.ro
        obtain ⟨q0, q1, q2, q3⟩ := Cu.free4 HP.out.rw'.ro
        go_region_with (fail)
        all_goals
          obtain ⟨⟨ra0, ra1, ra2, ra3, ra4, ra5, ra6, ra7, ra8, ra9⟩, ⟨rb0, rb1, rb2, rb3⟩, G9, -⟩ := HP.out.rw'.fin (.int .i64 ((k : Int) + 4)) (.int .i64 ((Cu.upd R x mk) 0)) (.int .i64 ((Cu.upd R x mk) 1)) (.int .i64 ((Cu.upd R x mk) 2)) (.int .i64 ((Cu.upd R x mk) 3)) (.int .i64 ((Cu.upd R x mk) 4)) (.int .i64 ((Cu.upd R x mk) 5)) (.int .i64 ((Cu.upd R x mk) 6)) (.int .i64 ((Cu.upd R x mk) 7)) (.int .i64 0) (.int .i64 1) (.int .i64 0) (.int .i64 0) (.int .i64 0) _ rfl
          go_wp2
          refine bodyPost_ret (v := .tuple #[.slice A V.length cap, .agg #[.int .i64 ((k : Int) + 4), .int .i64 ((Cu.upd R x mk) 0), .int .i64 ((Cu.upd R x mk) 1), .int .i64 ((Cu.upd R x mk) 2), .int .i64 ((Cu.upd R x mk) 3), .int .i64 ((Cu.upd R x mk) 4), .int .i64 ((Cu.upd R x mk) 5), .int .i64 ((Cu.upd R x mk) 6), .int .i64 ((Cu.upd R x mk) 7), .int .i64 0], .agg #[.int .i64 1, .int .i64 0, .int .i64 0, .int .i64 0]]) (by simp [results, Tryd.results42, go_sem, ra0, ra1, ra2, ra3, ra4, ra5, ra6, ra7, ra8, ra9, rb0, rb1, rb2, rb3]) rfl ?_
          rw [HE.out, hmk]
          exact ⟨A, _, cap, rfl, rfl, Cu.ints_gr HIN.out G9, G9, fun _ _ h => h⟩

end Go.Proofs.YthhodadfiipffaaDoor
