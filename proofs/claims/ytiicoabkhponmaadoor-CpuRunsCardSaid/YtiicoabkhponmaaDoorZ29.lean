import Derived.Test.YtiicoabkhponmaaDoorZ28
import Derived.LoopTactic
set_option linter.all false
/- The document's Step, by contract: cases off. -/
namespace Go.Proofs.YtiicoabkhponmaaDoor
open Go.RowKit Go.Lib
set_option linter.unusedVariables false
set_option maxRecDepth 20000

set_option maxHeartbeats 12800000 in
theorem Cu.rs_off (V : List UInt8) (A : Option Addr) (len cap : Nat) (hlen : len = V.length) (hV : V.length ≤ 1000) (pc : Int) (r : Nat → Int) (hp : ¬ (0 ≤ pc ∧ pc + 4 ≤ V.length)) (hpm : pc ≤ 9223372036854775807) (w : World) (hA : Ints w A cap (num V)) : Calls Tryd.prog 11 #[.slice A len cap, .agg #[.int .i64 pc, .int .i64 (r 0), .int .i64 (r 1), .int .i64 (r 2), .int .i64 (r 3), .int .i64 (r 4), .int .i64 (r 5), .int .i64 (r 6), .int .i64 (r 7), .int .i64 0]] w (Cu.Rst w V A ⟨V, pc, Cu.cut r, 3, 5, 0, 0, 6⟩) := by
  subst hlen
  have HIN := Lib.hid hA
  have hth : thereB V.length pc 4 = false := by unfold thereB; simp; omega
  have hTH := Go.Proofs.YtiicoabkhponmaaDoor.there_any A V.length cap pc 4
  rw [hth] at hTH
  have HTH := Lib.hid hTH
  clear hTH hth hp
  have HE := Lib.hid (show ∀ R : Nat → Int, (⟨V, pc, R, 3, 5, 0, 0, 6⟩ : Cu.Af) = ⟨V, pc, R, 3, 5, 0, 0, 6⟩ from fun _ => rfl)
  obtain ⟨W1, hW1⟩ : ∃ W1, W1 = ((w.alloc (.cells (Cu.stC pc r 0) 32)).alloc (.cells #[.int .i64 0, .int .i64 0, .int .i64 0, .int .i64 0, .int .i64 0, .int .i64 0, .int .i64 0, .int .i64 0, .int .i64 0, .int .i64 0] 32)).alloc (.cells #[.int .i64 0, .int .i64 0, .int .i64 0, .int .i64 0] 36) := ⟨_, rfl⟩
  have H1 := Lib.hid (show Cu.Rw w W1 (Cu.stC pc (Cu.mix r 0) 0) from by rw [hW1, Cu.mix_0]; exact Cu.rw_new _ _)
  unfold Cu.stC at hW1
  clear hA
  have k9 := (Cu.st_cells H1.out.sb).2.1
  go_enter Tryd.func11, Tryd.ntmps11
  go_upto_region 1 with (fail)
  rw [← hW1]
  clear hW1
  go_wp2
  clear k9
  go_loopw [7] (fun y wr => ∃ kk : Nat, y = .int .i64 kk ∧ kk ≤ 8 ∧ Hid (Cu.Rw w wr (Cu.stC pc (Cu.mix r kk) 0))) (fun y _ => 8 - (Go.RowKit.intOf y).toNat)
  case atStart => exact ⟨0, rfl, Nat.zero_le _, H1⟩
  case round =>
    obtain ⟨kk, rfl, hkk, HS⟩ := hrel
    clear H1
    by_cases hin : kk < 8
    · have c0 := HS.out.sb.cell (1 + kk)
      have f0 := HS.out.sb.free (1 + kk)
      have c1 := (Cu.st_cells HS.out.sb).2.2 kk hin
      rw [show Cu.mix r kk kk = r kk from by unfold Cu.mix; rw [if_neg (Nat.lt_irrefl kk)]] at c1
      have HS2 := Lib.hid (HS.out.put (1 + kk) (.int .i64 (r kk % 65536)))
      rw [Cu.mix_put _ _ _ kk hin] at HS2
      have HKI := Lib.hid (show kk + 1 ≤ 8 from hin)
      have i1 : (kk : Int) < 8 := by omega
      have i2 : (0 : Int) ≤ (kk : Int) := by omega
      have i3 : ¬ (kk : Int) < 0 := by omega
      have i4 : ¬ (7 : Int) < (kk : Int) := by omega
      clear HS hkk hin c0
      go_wp2_with (go_at_call 28; (with_reducible refine (Cu.word_any _ _).mono ?_); rintro e w' ⟨rfl, rfl⟩)
      go_roundw
      case rel => exact ⟨kk + 1, by go_num, HKI.out, HS2⟩
      case measure =>
        have := HKI.out
        simp [Go.RowKit.intOf]
        omega
    · obtain rfl : kk = 8 := by omega
      have HS1 := Lib.hid (show Cu.Rw w wr (Cu.stC pc (Cu.cut r) 0) from HS.out)
      have p0 := (Cu.st_cells HS1.out.sb).1
      clear HS hkk hin
      generalize Cu.cut r = R at *

      have HBR := Lib.hid (fun W => Cu.breaks_any pc 0 6 R W)
      obtain ⟨k0, k1, k2, k3, k4', k5, k6, k7, k8, k9⟩ := Cu.cells10 HS1.out.sb
      go_upto_region 9 with (first
        | (go_at_call 29; (with_reducible refine (HTH.out _ (by omega)).mono ?_); rintro e w' ⟨rfl, rfl⟩)
        | (go_at_call 30; (with_reducible refine (HBR.out _).mono ?_); rintro e w9 ⟨rfl, g9⟩; have H9 := Lib.hid (HS1.out.grown g9); clear g9))
      have c8 := (Blk.new w9 32 #[.int .i64 pc, .int .i64 (R 0), .int .i64 (R 1), .int .i64 (R 2), .int .i64 (R 3), .int .i64 (R 4), .int .i64 (R 5), .int .i64 (R 6), .int .i64 (R 7), .int .i64 3]).alloc (.cells #[.int .i64 5, .int .i64 0, .int .i64 0, .int .i64 6] 36)
      have c9 := Blk.new (w9.alloc (.cells #[.int .i64 pc, .int .i64 (R 0), .int .i64 (R 1), .int .i64 (R 2), .int .i64 (R 3), .int .i64 (R 4), .int .i64 (R 5), .int .i64 (R 6), .int .i64 (R 7), .int .i64 3] 32)) 36 #[.int .i64 5, .int .i64 0, .int .i64 0, .int .i64 6]
      have HB := Lib.hid (H9.out.grown (only_alloc (only_alloc (only_refl _ none) (.cells #[.int .i64 pc, .int .i64 (R 0), .int .i64 (R 1), .int .i64 (R 2), .int .i64 (R 3), .int .i64 (R 4), .int .i64 (R 5), .int .i64 (R 6), .int .i64 (R 7), .int .i64 3] 32)) (.cells #[.int .i64 5, .int .i64 0, .int .i64 0, .int .i64 6] 36)))
      have zz : (w9.alloc (.cells #[.int .i64 pc, .int .i64 (R 0), .int .i64 (R 1), .int .i64 (R 2), .int .i64 (R 3), .int .i64 (R 4), .int .i64 (R 5), .int .i64 (R 6), .int .i64 (R 7), .int .i64 3] 32)).heap.size = w9.heap.size + 1 := by simp
      rw [zz] at c9
      obtain ⟨WB, hWB⟩ : ∃ WB, WB = (w9.alloc (.cells #[.int .i64 pc, .int .i64 (R 0), .int .i64 (R 1), .int .i64 (R 2), .int .i64 (R 3), .int .i64 (R 4), .int .i64 (R 5), .int .i64 (R 6), .int .i64 (R 7), .int .i64 3] 32)).alloc (.cells #[.int .i64 5, .int .i64 0, .int .i64 0, .int .i64 6] 36) := ⟨_, rfl⟩
      rw [← hWB] at c8 c9 HB ⊢
      clear hWB zz k0 k1 k2 k3 k4' k5 k6 k7 k8 k9
      obtain ⟨k0, k1, k2, k3, k4', k5, k6, k7, k8, k9⟩ := Cu.cells10 c8
      obtain ⟨t0, t1, t2, t3⟩ := Cu.cells4 c9
      have hlt9 : w.heap.size + 1 + 1 < w9.heap.size := by have := H9.out.ro.lt; omega
      obtain ⟨ba, hba⟩ : ∃ ba, ba = w9.heap.size := ⟨_, rfl⟩
      rw [← hba] at k0 k1 k2 k3 k4' k5 k6 k7 k8 k9 t0 t1 t2 t3 hlt9 ⊢
      have u0 : ¬ ba = w.heap.size := by omega
      have u1 : ¬ w.heap.size = ba := by omega
      have u2 : ¬ ba = w.heap.size + 1 := by omega
      have u3 : ¬ w.heap.size + 1 = ba := by omega
      have u4 : ¬ ba = w.heap.size + 1 + 1 := by omega
      have u5 : ¬ w.heap.size + 1 + 1 = ba := by omega
      clear hba c8 c9 H9 HBR
      obtain ⟨z0, z1, z2, z3, z4, z5, z6, z7, z8, z9⟩ := Cu.cells10 HB.out.rs
      obtain ⟨f0, f1, f2, f3, f4, f5, f6, f7, f8, f9⟩ := Cu.free10 HB.out.rs
      obtain ⟨o0, o1, o2, o3⟩ := Cu.cells4 HB.out.ro
      obtain ⟨q0, q1, q2, q3⟩ := Cu.free4 HB.out.ro
      go_region_with (fail)
      all_goals
        obtain ⟨⟨ra0, ra1, ra2, ra3, ra4, ra5, ra6, ra7, ra8, ra9⟩, ⟨rb0, rb1, rb2, rb3⟩, G9, -⟩ := HB.out.fin (.int .i64 pc) (.int .i64 (R 0)) (.int .i64 (R 1)) (.int .i64 (R 2)) (.int .i64 (R 3)) (.int .i64 (R 4)) (.int .i64 (R 5)) (.int .i64 (R 6)) (.int .i64 (R 7)) (.int .i64 3) (.int .i64 5) (.int .i64 0) (.int .i64 0) (.int .i64 6) _ rfl
        go_wp2
        refine bodyPost_ret (v := .tuple #[.slice A V.length cap, .agg #[.int .i64 pc, .int .i64 (R 0), .int .i64 (R 1), .int .i64 (R 2), .int .i64 (R 3), .int .i64 (R 4), .int .i64 (R 5), .int .i64 (R 6), .int .i64 (R 7), .int .i64 3], .agg #[.int .i64 5, .int .i64 0, .int .i64 0, .int .i64 6]]) (by simp [results, Tryd.results11, go_sem, ra0, ra1, ra2, ra3, ra4, ra5, ra6, ra7, ra8, ra9, rb0, rb1, rb2, rb3]) rfl ?_
        skip
        exact ⟨A, _, cap, rfl, rfl, Cu.ints_gr HIN.out G9, G9, fun _ _ h => h⟩

end Go.Proofs.YtiicoabkhponmaaDoor
