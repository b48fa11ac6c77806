/- The merge in place: its contract, where the second part is one span. -/
import Derived.Test.YtgineifljofljaaT3
namespace Go.Proofs.Ytgineifljofljaa
open Go.RowKit Go.Lib Go.Sort
set_option linter.unusedVariables false

set_option maxRecDepth 100000 in
set_option maxHeartbeats 3200000 in
theorem merge_last (g n cap a m b : Nat) (d : Nat → Int × Int) (w : World) (h : RowS w g n cap d) (hm : b = m + 1) (hab : a + 1 < m) (hb : b ≤ n) (hn : n ≤ 4611686018427387904) (hs : So.Sorted d a m) :
    Calls Try.prog 43 #[.slice (some ⟨g, 0, none⟩) n cap, .int .i64 a, .int .i64 m, .int .i64 b, .func (.func 37) #[] #[]] w fun r w' => r = .returned (.tuple #[]) ∧ SortsTo g n cap a b d w w' := by
  have H := Lib.hid h
  have HS := Lib.hid hs
  obtain ⟨hm1, hm2⟩ : b ≤ m + 1 ∧ m + 1 ≤ b := by omega
  clear h hs hm
  obtain ⟨z, i0, i0', i0''⟩ : ∃ z : Int, IntKind.i64.wrap ((m : Int) - (a : Int)) = z ∧ ¬ z = 1 ∧ (z == 1) = false := by
    have h : IntKind.i64.wrap ((m : Int) - (a : Int)) = (m : Int) - (a : Int) := by rw [IntKind.wrap_i64]; omega
    refine ⟨_, rfl, ?_, ?_⟩
    · rw [h]; omega
    · rw [h, beq_eq_false_iff_ne]; omega
  have i1 : IntKind.i64.wrap ((b : Int) - (m : Int)) = 1 := by rw [IntKind.wrap_i64]; omega
  go_enter Try.func43, Try.ntmps43
  go_wp2
  go_loopw [14, 15] (fun x y wr => ∃ (i j : Nat), x = .int .i64 i ∧ y = .int .i64 j ∧ a ≤ i ∧ i ≤ j ∧ j ≤ m ∧ Hid (∀ q, a ≤ q → q < i → ¬ So.lt (d m) (d q)) ∧ Hid (∀ q, j ≤ q → q < m → So.lt (d m) (d q)) ∧ RowS wr g n cap d ∧ w.grownBy wr (some g)) (fun x y _ => (intOf y).toNat - (intOf x).toNat)
  case atStart => exact ⟨a, m, rfl, rfl, by omega, by omega, by omega, Lib.hid (by omega), Lib.hid (by omega), H.out, only_refl _ _⟩
  case round =>
    obtain ⟨i, j, rfl, rfl, hi1, hij, hjb, HL, HU, hR, hg⟩ := hrel
    have HR := Lib.hid hR
    have HG := Lib.hid hg
    clear hR hg
    by_cases hlt : i < j
    · obtain ⟨k, hk⟩ : ∃ k, k = (i + j) / 2 := ⟨_, rfl⟩
      have i3 : IntKind.i64.wrap ((i : Int) + (j : Int)) = ((i + j : Nat) : Int) := by rw [IntKind.wrap_i64]; omega
      have i4 : (i : Int) < (j : Int) := by omega
      have i5 : ((i : Int) + (j : Int)) / 2 = (k : Int) := by omega
      have hik : i ≤ k := by omega
      have hkj : k < j := by omega
      have i6 : (k : Int) < (n : Int) := by omega
      have i7 : (m : Int) < (n : Int) := by omega
      have c0 := HR.out.fst (show m < n by omega)
      have c1 := HR.out.snd (show m < n by omega)
      have c2 := HR.out.fst (show k < n by omega)
      have c3 := HR.out.snd (show k < n by omega)
      obtain ⟨x, hx⟩ : ∃ x, x = d m := ⟨_, rfl⟩
      obtain ⟨y, hy⟩ : ∃ y, y = d k := ⟨_, rfl⟩
      rw [← hx] at c0 c1
      rw [← hy] at c2 c3
      have HX := Lib.hid hx
      have HY := Lib.hid hy
      clear hx hy
      have hc := So.cmpS_neg x y
      obtain ⟨c, hcc⟩ : ∃ c, c = So.cmpS x y := ⟨_, rfl⟩
      have hcall := fun W => cmp_any x y W
      simp only [← hcc] at hcall
      rw [← hcc] at hc
      have HCALL := Lib.hid hcall
      have HC := Lib.hid hc
      clear hcall hc hcc hk
      have k0 := fun d os => cell_regrown c0 d os
      have k1 := fun d os => cell_regrown c1 d os
      have k2 := fun d os => cell_regrown c2 d os
      have k3 := fun d os => cell_regrown c3 d os
      clear c0 c1 c2 c3
      go_wp2
      refine wp_region_quiet_below (by kernel_rfl) (by kernel_rfl) ?_
      repeat (quiet_step ((go_at_call 37; exact Calls.regrown_of ((HCALL.out _).mono fun _ _ ⟨h1, h2⟩ => ⟨h1, below_of_only h2 (Nat.le_refl _) (by simp)⟩))))
      refine wpQuiet_nil ?_
      rintro _ ⟨⟨dq, osq⟩, rfl⟩
      have hb2 := below_regrown wr dq osq
      generalize grow (redrawn wr dq) osq = w2 at hb2 ⊢
      have HR2 := Lib.hid (HR.out.below hb2)
      have HG2 := Lib.hid (only_trans HG.out (only_any ⟨hb2.os, hb2.tape, hb2.output, hb2.size, fun i hi _ => hb2.block i hi⟩ (some g)))
      clear hb2 HR HG k0 k1 k2 k3
      by_cases hcn : c < 0
      · have hl := HC.out.1 hcn
        rw [HX.out, HY.out] at hl
        go_wp2
        all_goals first
          | (exfalso; rename_i hh; simp [hcn] at hh; done)
          | skip
        go_roundw
        case rel =>
          refine ⟨i, k, rfl, rfl, hi1, by omega, by omega, HL, Lib.hid fun q h1 h2 => ?_, HR2.out, HG2.out⟩
          rcases Nat.lt_or_ge k q with h3 | h3
          · have := HS.out k q (by omega) h3 (by omega)
            unfold So.le So.lt at *
            omega
          · obtain rfl : q = k := by omega
            exact hl
        case measure => simp [intOf] <;> omega
      · have hl : ¬ So.lt x y := fun h => absurd (HC.out.2 h) hcn
        rw [HX.out, HY.out] at hl
        go_wp2
        all_goals first
          | (exfalso; rename_i hh; simp [hcn] at hh; done)
          | skip
        go_roundw
        case rel =>
          refine ⟨k + 1, j, by go_num, rfl, by omega, by omega, hjb, Lib.hid fun q h1 h2 => ?_, HU, HR2.out, HG2.out⟩
          rcases Nat.lt_or_ge q k with h3 | h3
          · have := HS.out q k h1 h3 (by omega)
            unfold So.le So.lt at *
            omega
          · obtain rfl : q = k := by omega
            exact hl
        case measure => simp [intOf] <;> omega
    · obtain rfl : i = j := by omega
      have hsort : So.Sorted (So.rot d i m (m + 1)) a b := by
        have h1 := HS.out
        have h2 := HL.out
        have h3 := HU.out
        obtain rfl : b = m + 1 := by omega
        exact So.one_last h1 hi1 hjb h2 h3
      have HSORT := Lib.hid hsort
      clear hsort HL HU HS
      have hperm : So.Perm a b d (So.rot d i m (m + 1)) := So.Perm.rotDown (m - i) (by omega) hi1 (by omega)
      have HPERM := Lib.hid hperm
      clear hperm
      go_wp2
      go_loopw [17] (fun x wr => ∃ (k : Nat), x = .int .i64 k ∧ i ≤ k ∧ k ≤ m ∧ RowS wr g n cap (So.rot d k m (m + 1)) ∧ w.grownBy wr (some g)) (fun x _ => (intOf x).toNat)
      case atStart => exact ⟨m, rfl, by omega, by omega, by rw [So.rot_right]; exact HR.out, HG.out⟩
      case round =>
        obtain ⟨k, rfl, hk1, hk2, hR2, hg2⟩ := hrel
        have HG2 := Lib.hid hg2
        clear hg2 HG HR
        by_cases hki : i < k
        · obtain ⟨k, rfl⟩ : ∃ kp, k = kp + 1 := ⟨k - 1, by omega⟩
          have hR3 : ∀ (x y : Int × Int), So.rot d (k + 1) m (m + 1) (k + 1) = x → So.rot d (k + 1) m (m + 1) k = y → RowS ((((wr.setCell ⟨g, (k + 1) * 2, none⟩ (.int .i64 y.1)).setCell ⟨g, (k + 1) * 2 + 1, none⟩ (.int .i64 y.2)).setCell ⟨g, k * 2, none⟩ (.int .i64 x.1)).setCell ⟨g, k * 2 + 1, none⟩ (.int .i64 x.2)) g n cap (So.rot d k m (m + 1)) := fun x y hx hy => by
            rw [← So.rot_down d (show k < m by omega), So.swp, hx, hy]
            exact (hR2.put (show k + 1 < n by omega) y).put (show k < n by omega) x
          have c0 := hR2.fst (show k + 1 < n by omega)
          have c1 := hR2.snd (show k + 1 < n by omega)
          have c2 := hR2.fst (show k < n by omega)
          have c3 := hR2.snd (show k < n by omega)
          have f0 := hR2.free ((k + 1) * 2)
          have f1 := hR2.free ((k + 1) * 2 + 1)
          have f2 := hR2.free (k * 2)
          have f3 := hR2.free (k * 2 + 1)
          generalize hx : So.rot d (k + 1) m (m + 1) (k + 1) = x at c0 c1
          generalize hy : So.rot d (k + 1) m (m + 1) k = y at c2 c3
          have HR3 := Lib.hid (hR3 x y hx hy)
          clear hR3 hR2 hx hy
          have j1 : (k : Int) + 1 < (n : Int) := by omega
          have j2 : (k : Int) < (n : Int) := by omega
          have j3 : (i : Int) < (k : Int) + 1 := by omega
          have j4 : (0 : Int) ≤ (k : Int) + 1 := by omega
          have j5 : IntKind.i64.wrap (k : Int) = (k : Int) := by rw [IntKind.wrap_i64]; omega
          have j6 : ((k : Int) + 1).toNat = k + 1 := by omega
          go_wp2
          go_region
          all_goals
            go_wp2
            go_roundw
            case rel => exact ⟨k, by go_num, by omega, by omega, HR3.out, only_drewN (only_put (only_put (only_put (only_put HG2.out _ _) _ _) _ _) _ _) 1⟩
            case measure => simp [intOf] <;> omega
        · obtain rfl : i = k := by omega
          go_wp2
          ((try simp only [Exit.inBlock, Exit.then]); refine bodyPost_ret (results_none rfl _ _ _) rfl ?_)
          exact ⟨rfl, _, HPERM.out, HSORT.out, hR2, HG2.out⟩
end Go.Proofs.Ytgineifljofljaa
