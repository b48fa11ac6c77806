/- Count, and the document's: their contracts. -/
import Derived.Test.YthneljkaieckeabCL6
import Derived.Lib.QuietBelow
import Derived.Deep.RegionHeld3
namespace Go.Proofs.Ythneljkaieckeab
open Go.RowKit Go.Lib Go.Sort
set_option linter.unusedVariables false

theorem ahead_small {t f : Int} {p : Int × Int} (t0 : 0 ≤ t) (t1 : t ≤ 2147483647) (f1 : 1 ≤ f) (f2 : f ≤ 4096) (p0 : 0 ≤ p.1) (p1 : p.1 < p.2) (p2 : p.2 ≤ f) : 0 ≤ t / f ∧ t / f ≤ 2147483647 ∧ 0 ≤ t / f * (p.2 - p.1) ∧ t / f * (p.2 - p.1) ≤ 8796093018112 := by
  have q0 : 0 ≤ t / f := Int.ediv_nonneg t0 (by omega)
  have q1 : t / f ≤ t := Int.ediv_le_self _ t0
  refine ⟨q0, by omega, Int.mul_nonneg q0 (by omega), ?_⟩
  have := Int.mul_le_mul (show t / f ≤ 2147483647 by omega) (show p.2 - p.1 ≤ 4096 by omega) (by omega) (by omega)
  omega
set_option maxHeartbeats 1600000 in
theorem ahead_any (t f : Int) (p : Int × Int) (w : World) (t0 : 0 ≤ t) (t1 : t ≤ 2147483647) (f1 : 1 ≤ f) (f2 : f ≤ 4096) (p0 : 0 ≤ p.1) (p1 : p.1 < p.2) (p2 : p.2 ≤ f) :
    Calls Try.prog 26 #[.int .i64 t, spv p, .int .i64 f] w fun r w' => r = .returned (.int .i64 (aheadV t p f)) ∧ w.grownBy w' none := by
  obtain ⟨q0, q1, m0, m1⟩ := ahead_small t0 t1 f1 f2 p0 p1 p2
  obtain ⟨tk, r0, r1⟩ := ticks (t := t) (f := f) (by omega)
  have hfr : ∀ W, Calls Try.prog 7 #[.int .i64 t, .int .i64 f] W fun r w' => r = .returned (.tuple #[.int .i64 (t / f), .int .i64 (t % f)]) ∧ ∃ q, W.drewN q = w' := fun W => by
    have := frame_any t f W (by omega)
    have e : frV t f = (t / f, t % f) := by unfold frV; rw [if_pos ⟨(rightB_iff f).2 ⟨f1, f2⟩, t0⟩]
    rw [e] at this
    exact this
  have HV : Hid (aheadV t p f = t / f * (p.2 - p.1) + (if t % f - p.1 < 0 then 0 else if p.2 - p.1 < t % f - p.1 then p.2 - p.1 else t % f - p.1)) := rfl
  have HF := Lib.hid hfr
  clear hfr tk
  generalize t / f = q at *
  generalize t % f = r at *
  obtain ⟨a, b⟩ := p
  simp only at p0 p1 p2 m0 m1 HV
  have hc : (r - a < 0 ∧ aheadV t (a, b) f = q * (b - a) + 0) ∨ (¬ r - a < 0 ∧ b - a < r - a ∧ aheadV t (a, b) f = q * (b - a) + (b - a)) ∨ (¬ r - a < 0 ∧ ¬ b - a < r - a ∧ aheadV t (a, b) f = q * (b - a) + (r - a)) := by
    by_cases h1 : r - a < 0
    · exact .inl ⟨h1, by rw [HV.out, if_pos h1]⟩
    · by_cases h2 : b - a < r - a
      · exact .inr (.inl ⟨h1, h2, by rw [HV.out, if_neg h1, if_pos h2]⟩)
      · exact .inr (.inr ⟨h1, h2, by rw [HV.out, if_neg h1, if_neg h2]⟩)
  clear HV
  rcases hc with ⟨h1, e⟩ | ⟨h1, h2, e⟩ | ⟨h1, h2, e⟩
  all_goals
    rw [e]
    clear e
    go_enter Try.func26, Try.ntmps26
    go_wp2_with (go_at_call 7; refine (HF.out _).mono ?_; rintro e w2 ⟨rfl, dq, rfl⟩)
    go_ret
    exact ⟨by first | rfl | (simp; done) | (simp; omega), only_drewN (only_alloc (only_refl _ _) _) _⟩

theorem ahead_bounds {t f : Int} {p : Int × Int} (t0 : 0 ≤ t) (t1 : t ≤ 2147483647) (f1 : 1 ≤ f) (f2 : f ≤ 4096) (p0 : 0 ≤ p.1) (p1 : p.1 < p.2) (p2 : p.2 ≤ f) : 0 ≤ aheadV t p f ∧ aheadV t p f ≤ 8796093022208 := by
  obtain ⟨q0, q1, m0, m1⟩ := ahead_small t0 t1 f1 f2 p0 p1 p2
  unfold aheadV
  repeat' split
  all_goals omega
/-- How many ticks of a span have an offset that is in another one. -/
def countV (s p : Int × Int) (f : Int) : Int := if rightB f = true ∧ isB s = true ∧ s.2 ≤ 2147483647 ∧ meetsB p (0, f) = true then aheadV s.2 (meetV p (0, f)) f - aheadV s.1 (meetV p (0, f)) f else 0

set_option maxHeartbeats 3200000 in
theorem count_any (s p : Int × Int) (f : Int) (w : World) : Calls Try.prog 15 #[spv s, spv p, .int .i64 f] w fun r w' => r = .returned (.int .i64 (countV s p f)) ∧ w.grownBy w' none := by
  have hr := right_any f
  have key : ∀ (W : World) (v : Int), Below w.heap.size w W → countV s p f = v → (Ending.returned (.int .i64 v) = .returned (.int .i64 (countV s p f)) ∧ w.grownBy W none) := fun W v hb hv => ⟨by rw [hv], only_far hb⟩
  by_cases hf : rightB f = true
  · obtain ⟨f1, f2⟩ := (rightB_iff f).1 hf
    rw [hf] at hr
    have HR := Lib.hid hr
    clear hr
    have his := is_any s
    by_cases hs : isB s = true
    · rw [hs] at his
      have HIS := Lib.hid his
      clear his
      have hs' := hs
      simp only [isB, decide_eq_true_eq] at hs'
      obtain ⟨s0, s1⟩ := hs'
      have hcv : ∀ v, (s.2 ≤ 2147483647 → meetsB p (0, f) = true → aheadV s.2 (meetV p (0, f)) f - aheadV s.1 (meetV p (0, f)) f = v) → ((¬ s.2 ≤ 2147483647 ∨ meetsB p (0, f) = false) → 0 = v) → countV s p f = v := fun v h1 h2 => by
        unfold countV
        by_cases c1 : s.2 ≤ 2147483647
        · by_cases c2 : meetsB p (0, f) = true
          · rw [if_pos ⟨hf, hs, c1, c2⟩]; exact h1 c1 c2
          · rw [if_neg (fun h => c2 h.2.2.2)]; exact h2 (.inr (by simpa using c2))
        · rw [if_neg (fun h => c1 h.2.2.1)]; exact h2 (.inl c1)
      have HCV := Lib.hid hcv
      have KEY := Lib.hid key
      clear hcv key hs hf
      obtain ⟨a1, a2⟩ := s
      obtain ⟨b1, b2⟩ := p
      simp only at s0 s1 HCV
      by_cases hbig : a2 ≤ 2147483647
      · obtain ⟨r, hr⟩ : ∃ r, r = meetsB (b1, b2) (0, f) := ⟨_, rfl⟩
        obtain ⟨y, hy⟩ : ∃ y, y = meetV (b1, b2) (0, f) := ⟨_, rfl⟩
        have hyb : r = true → 0 ≤ y.1 ∧ y.1 < y.2 ∧ y.2 ≤ f := fun h => by rw [hy]; exact meet_in (by rw [← hr]; exact h)
        have hcall : ∀ W, Calls Try.prog 24 #[spv (b1, b2), spv (0, f)] W fun e w' => e = .returned (.tuple #[spv y, .bool r]) ∧ W.grownBy w' none := fun W => by rw [hr, hy]; exact meet_any (b1, b2) (0, f) W
        rw [← hr, ← hy] at HCV
        have HCALL := Lib.hid hcall
        have HYB := Lib.hid hyb
        clear hcall hyb hr hy
        go_enter Try.func15, Try.ntmps15
        go_wp2_with (first | (go_at_call 9; refine (HR.out _).mono ?_; rintro e w1 ⟨rfl, rfl⟩) | (go_at_call 23; refine (HIS.out _).mono ?_; rintro e w2 ⟨rfl, g2⟩; have hA := ((Blk.new w 31 #[.int .i64 a1, .int .i64 a2]).alloc (.cells #[.int .i64 b1, .int .i64 b2] 31)).only g2 (by simp); have hB := (Blk.new (w.alloc (.cells #[.int .i64 a1, .int .i64 a2] 31)) 31 #[.int .i64 b1, .int .i64 b2]).only g2 (by simp); have a0' := hA.cell 0; have a1' := hA.cell 1; have b0' := hB.cell 0; have b1' := hB.cell 1; simp at a0' a1' b0' b1' hB; have HA := Lib.hid hA; have HB := Lib.hid hB; have B2 := Lib.hid ((((Below.refl w.heap.size w).alloc (Nat.le_refl _) (.cells #[.int .i64 a1, .int .i64 a2] 31)).alloc (by simp) (.cells #[.int .i64 b1, .int .i64 b2] 31)).trans (below_of_only g2 (by simp; omega) (by simp))); clear g2 hA hB))
        have n0 := World.new_ne w2 _ b0'
        have n1 := World.new_ne w2 _ b1'
        go_region_held3 (fun w' => w'.cell? ⟨w.heap.size + 1, 0, none⟩ = some (.int .i64 b1) ∧ w'.cell? ⟨w.heap.size + 1, 1, none⟩ = some (.int .i64 b2)) (first | exact ⟨k0, k1⟩ | exact ⟨e0, e1⟩ | go_keep) (first
          | (go_at_call 25; refine (whole_any _ _).mono ?_; rintro e w3 ⟨rfl, g3⟩; have hS := (show Blk w2.drew (w.heap.size + 1) 31 #[.int .i64 b1, .int .i64 b2] from HB.out).only g3 (by simp); have e0 := hS.cell 0; have e1 := hS.cell 1; simp at e0 e1; have nz : ¬ w.heap.size + 1 = w3.heap.size := (by have := hS.lt; omega); have nz2 : ¬ w3.heap.size = w.heap.size + 1 := (by omega); have HS := Lib.hid hS; have HG3 := Lib.hid g3; clear hS)
          | (go_at_call 25; refine (whole_any _ _).mono ?_; rintro e w3 ⟨rfl, g3⟩; have hS := ((show Blk w2.drew (w.heap.size + 1) 31 #[.int .i64 b1, .int .i64 b2] from HB.out).alloc (.cells #[.int .i64 0, .int .i64 0] 31)).only g3 (by simp); have e0 := hS.cell 0; have e1 := hS.cell 1; simp at e0 e1; have nz : ¬ w.heap.size + 1 = w3.heap.size := (by have := hS.lt; omega); have nz2 : ¬ w3.heap.size = w.heap.size + 1 := (by omega); have HS := Lib.hid hS; have HZ := Lib.hid ((Blk.new w2.drew 31 #[.int .i64 0, .int .i64 0]).only g3 (by simp)); have HG3 := Lib.hid g3; clear hS)
          | (go_at_call 24; refine (HCALL.out w3).mono ?_; rintro e w4 ⟨rfl, g4⟩; have HZ3 := Lib.hid (HZ.out.only g4 (by simp)); have z0 := HZ3.out.cell 0; have z1 := HZ3.out.cell 1; have y0 := HZ3.out.free 0; have y1 := HZ3.out.free 1; simp at z0 z1 y0 y1; have hS3 := HS.out.only g4 (by simp); have k0 := hS3.cell 0; have k1 := hS3.cell 1; simp at k0 k1; have HG4 := Lib.hid g4; clear hS3)
          | (go_at_call 24; refine (HCALL.out w3).mono ?_; rintro e w4 ⟨rfl, g4⟩; have hS3 := HS.out.only g4 (by simp); have k0 := hS3.cell 0; have k1 := hS3.cell 1; simp at k0 k1; have HG4 := Lib.hid g4; clear hS3)
          | (go_at_call 24; refine (HCALL.out (w3.alloc (.cells #[.int .i64 0, .int .i64 0] 31))).mono ?_; rintro e w4 ⟨rfl, g4⟩; have HZ3 := Lib.hid ((Blk.new w3 31 #[.int .i64 0, .int .i64 0]).only g4 (by simp)); have z0 := HZ3.out.cell 0; have z1 := HZ3.out.cell 1; have y0 := HZ3.out.free 0; have y1 := HZ3.out.free 1; simp at z0 z1 y0 y1; have hS3 := (HS.out.alloc (.cells #[.int .i64 0, .int .i64 0] 31)).only g4 (by simp); have k0 := hS3.cell 0; have k1 := hS3.cell 1; simp at k0 k1; have HG4 := Lib.hid g4; clear hS3))
        · have hb3 := (below_of_only HG3.out (Nat.le_refl _) (by simp) : Below w2.heap.size w2.drew w3)
          have hb4 := (below_of_only HG4.out hb3.size (by simp) : Below w2.heap.size w3 w4)
          have hb2 := (below_drewN (Below.refl w2.heap.size w2) 1 : Below w2.heap.size w2 w2.drew)
          have HBF := Lib.hid (((hb2.trans hb3).trans hb4).alloc ((hb2.trans hb3).trans hb4).size (.cells #[.int .i64 y.1, .int .i64 y.2] 31))
          have HY := Lib.hid (Blk.new w4 31 #[.int .i64 y.1, .int .i64 y.2])
          clear hb2 hb3 hb4 k0 k1 e0 e1 nz nz2 n0 n1 HS HG3 HG4
          generalize w4.alloc (.cells #[.int .i64 y.1, .int .i64 y.2] 31) = wf at *
          generalize w4.heap.size = bb at *
          have HAF := Lib.hid (HA.out.below HBF.out HA.out.lt)
          have HBW := Lib.hid (B2.out.trans (HBF.out.mono B2.out.size))
          clear a0' a1' b0' b1' HA HB HBF B2
          cases r with
          | false =>
            go_wp2
            go_ret
            exact KEY.out _ 0 HBW.out (HCV.out 0 (fun _ h => by cases h) (fun _ => rfl))
          | true =>
            obtain ⟨v0, v1, v2⟩ := HYB.out rfl
            have x2 : ∀ W, Calls Try.prog 26 #[.int .i64 a2, spv y, .int .i64 f] W fun e w' => e = .returned (.int .i64 (aheadV a2 y f)) ∧ Below W.heap.size W w' := fun W => (ahead_any a2 f y W (by omega) hbig f1 f2 v0 v1 v2).mono fun e w' ⟨h1, h2⟩ => ⟨h1, below_of_only h2 (Nat.le_refl _) (by simp)⟩
            have x1 : ∀ W, Calls Try.prog 26 #[.int .i64 a1, spv y, .int .i64 f] W fun e w' => e = .returned (.int .i64 (aheadV a1 y f)) ∧ Below W.heap.size W w' := fun W => (ahead_any a1 f y W s0 (by omega) f1 f2 v0 v1 v2).mono fun e w' ⟨h1, h2⟩ => ⟨h1, below_of_only h2 (Nat.le_refl _) (by simp)⟩
            have u2 := ahead_bounds (t := a2) (by omega) hbig f1 f2 v0 v1 v2
            have u1 := ahead_bounds (t := a1) s0 (by omega) f1 f2 v0 v1 v2
            have hcv2 : countV (a1, a2) (b1, b2) f = aheadV a2 y f - aheadV a1 y f := HCV.out _ (fun _ _ => rfl) (fun h => by rcases h with h | h; exact absurd hbig (by omega); cases h)
            have HCV2 := Lib.hid hcv2
            have X2 := Lib.hid x2
            have X1 := Lib.hid x1
            clear x1 x2 hcv2 HCV
            generalize aheadV a2 y f = p2 at *
            generalize aheadV a1 y f = p1 at *
            obtain ⟨y1, y2⟩ := y
            have a0' := HAF.out.cell 0
            have a1' := HAF.out.cell 1
            have j0 := HY.out.cell 0
            have j1 := HY.out.cell 1
            simp at a0' a1' j0 j1
            have l0 := fun d os => cell_regrown a0' d os
            have l1 := fun d os => cell_regrown a1' d os
            have l2 := fun d os => cell_regrown j0 d os
            have l3 := fun d os => cell_regrown j1 d os
            clear a0' a1' j0 j1
            go_wp2
            refine wp_region_quiet_below (by kernel_rfl) (by kernel_rfl) ?_
            repeat (quiet_step ((first | (go_at_call 26; with_reducible exact Calls.regrown_of (X2.out _)) | (go_at_call 26; with_reducible exact Calls.regrown_of (X1.out _)))))
            refine wpQuiet_nil ?_
            rintro _ ⟨⟨dq, osq⟩, rfl⟩
            have hbq := HBW.out.trans ((below_regrown wf dq osq).mono HBW.out.size)
            generalize grow (redrawn wf dq) osq = w9 at hbq ⊢
            have HBQ := Lib.hid hbq
            clear hbq l0 l1 l2 l3
            go_wp2
            go_ret
            exact KEY.out _ _ HBQ.out (HCV2.out.trans (by rw [IntKind.wrap_i64]; omega))
        · have hb3 := (below_of_only HG3.out (Nat.le_refl _) (by simp) : Below w2.heap.size w2.drew w3)
          have hb2 := (below_drewN (Below.refl w2.heap.size w2) 1 : Below w2.heap.size w2 w2.drew)
          have hb4 := (below_of_only HG4.out (Nat.le_trans hb3.size (by simp)) (by simp) : Below w2.heap.size (w3.alloc (.cells #[.int .i64 0, .int .i64 0] 31)) w4)
          have HBF := Lib.hid (((((hb2.trans hb3).alloc hb3.size (.cells #[.int .i64 0, .int .i64 0] 31)).trans hb4).setCell (p := ⟨w3.heap.size, 0, none⟩) hb3.size (.int .i64 y.1)).setCell (p := ⟨w3.heap.size, 1, none⟩) hb3.size (.int .i64 y.2))
          have hy := (HZ3.out.put 0 (.int .i64 y.1)).put 1 (.int .i64 y.2)
          simp at hy
          have HY := Lib.hid hy
          clear hb2 hb3 hb4 hy k0 k1 e0 e1 nz nz2 n0 n1 HS HG3 HG4 HZ3 z0 z1 y0 y1
          generalize (w4.setCell ⟨w3.heap.size, 0, none⟩ (.int .i64 y.1)).setCell ⟨w3.heap.size, 1, none⟩ (.int .i64 y.2) = wf at *
          generalize w3.heap.size = bb at *
          have HAF := Lib.hid (HA.out.below HBF.out HA.out.lt)
          have HBW := Lib.hid (B2.out.trans (HBF.out.mono B2.out.size))
          clear a0' a1' b0' b1' HA HB HBF B2
          cases r with
          | false =>
            go_wp2
            go_ret
            exact KEY.out _ 0 HBW.out (HCV.out 0 (fun _ h => by cases h) (fun _ => rfl))
          | true =>
            obtain ⟨v0, v1, v2⟩ := HYB.out rfl
            have x2 : ∀ W, Calls Try.prog 26 #[.int .i64 a2, spv y, .int .i64 f] W fun e w' => e = .returned (.int .i64 (aheadV a2 y f)) ∧ Below W.heap.size W w' := fun W => (ahead_any a2 f y W (by omega) hbig f1 f2 v0 v1 v2).mono fun e w' ⟨h1, h2⟩ => ⟨h1, below_of_only h2 (Nat.le_refl _) (by simp)⟩
            have x1 : ∀ W, Calls Try.prog 26 #[.int .i64 a1, spv y, .int .i64 f] W fun e w' => e = .returned (.int .i64 (aheadV a1 y f)) ∧ Below W.heap.size W w' := fun W => (ahead_any a1 f y W s0 (by omega) f1 f2 v0 v1 v2).mono fun e w' ⟨h1, h2⟩ => ⟨h1, below_of_only h2 (Nat.le_refl _) (by simp)⟩
            have u2 := ahead_bounds (t := a2) (by omega) hbig f1 f2 v0 v1 v2
            have u1 := ahead_bounds (t := a1) s0 (by omega) f1 f2 v0 v1 v2
            have hcv2 : countV (a1, a2) (b1, b2) f = aheadV a2 y f - aheadV a1 y f := HCV.out _ (fun _ _ => rfl) (fun h => by rcases h with h | h; exact absurd hbig (by omega); cases h)
            have HCV2 := Lib.hid hcv2
            have X2 := Lib.hid x2
            have X1 := Lib.hid x1
            clear x1 x2 hcv2 HCV
            generalize aheadV a2 y f = p2 at *
            generalize aheadV a1 y f = p1 at *
            obtain ⟨y1, y2⟩ := y
            have a0' := HAF.out.cell 0
            have a1' := HAF.out.cell 1
            have j0 := HY.out.cell 0
            have j1 := HY.out.cell 1
            simp at a0' a1' j0 j1
            have l0 := fun d os => cell_regrown a0' d os
            have l1 := fun d os => cell_regrown a1' d os
            have l2 := fun d os => cell_regrown j0 d os
            have l3 := fun d os => cell_regrown j1 d os
            clear a0' a1' j0 j1
            go_wp2
            refine wp_region_quiet_below (by kernel_rfl) (by kernel_rfl) ?_
            repeat (quiet_step ((first | (go_at_call 26; with_reducible exact Calls.regrown_of (X2.out _)) | (go_at_call 26; with_reducible exact Calls.regrown_of (X1.out _)))))
            refine wpQuiet_nil ?_
            rintro _ ⟨⟨dq, osq⟩, rfl⟩
            have hbq := HBW.out.trans ((below_regrown wf dq osq).mono HBW.out.size)
            generalize grow (redrawn wf dq) osq = w9 at hbq ⊢
            have HBQ := Lib.hid hbq
            clear hbq l0 l1 l2 l3
            go_wp2
            go_ret
            exact KEY.out _ _ HBQ.out (HCV2.out.trans (by rw [IntKind.wrap_i64]; omega))
        · have hb2 := ((below_drewN (Below.refl w2.heap.size w2) 1).alloc (Nat.le_refl _) (.cells #[.int .i64 0, .int .i64 0] 31) : Below w2.heap.size w2 (w2.drew.alloc (.cells #[.int .i64 0, .int .i64 0] 31)))
          have hb3 := (below_of_only HG3.out hb2.size (by simp) : Below w2.heap.size (w2.drew.alloc (.cells #[.int .i64 0, .int .i64 0] 31)) w3)
          have hb4 := (below_of_only HG4.out (hb2.trans hb3).size (by simp) : Below w2.heap.size w3 w4)
          have HBF := Lib.hid ((((hb2.trans hb3).trans hb4).setCell (p := ⟨w2.heap.size, 0, none⟩) (Nat.le_refl _) (.int .i64 y.1)).setCell (p := ⟨w2.heap.size, 1, none⟩) (Nat.le_refl _) (.int .i64 y.2))
          have hy := (HZ3.out.put 0 (.int .i64 y.1)).put 1 (.int .i64 y.2)
          simp at hy
          have HY := Lib.hid hy
          clear hb2 hb3 hb4 hy k0 k1 e0 e1 nz nz2 n0 n1 HS HG3 HG4 HZ3 HZ z0 z1 y0 y1
          generalize (w4.setCell ⟨w2.heap.size, 0, none⟩ (.int .i64 y.1)).setCell ⟨w2.heap.size, 1, none⟩ (.int .i64 y.2) = wf at *
          generalize w2.heap.size = bb at HY ⊢
          have HAF := Lib.hid (HA.out.below HBF.out HA.out.lt)
          have HBW := Lib.hid (B2.out.trans (HBF.out.mono B2.out.size))
          clear a0' a1' b0' b1' HA HB HBF B2
          cases r with
          | false =>
            go_wp2
            go_ret
            exact KEY.out _ 0 HBW.out (HCV.out 0 (fun _ h => by cases h) (fun _ => rfl))
          | true =>
            obtain ⟨v0, v1, v2⟩ := HYB.out rfl
            have x2 : ∀ W, Calls Try.prog 26 #[.int .i64 a2, spv y, .int .i64 f] W fun e w' => e = .returned (.int .i64 (aheadV a2 y f)) ∧ Below W.heap.size W w' := fun W => (ahead_any a2 f y W (by omega) hbig f1 f2 v0 v1 v2).mono fun e w' ⟨h1, h2⟩ => ⟨h1, below_of_only h2 (Nat.le_refl _) (by simp)⟩
            have x1 : ∀ W, Calls Try.prog 26 #[.int .i64 a1, spv y, .int .i64 f] W fun e w' => e = .returned (.int .i64 (aheadV a1 y f)) ∧ Below W.heap.size W w' := fun W => (ahead_any a1 f y W s0 (by omega) f1 f2 v0 v1 v2).mono fun e w' ⟨h1, h2⟩ => ⟨h1, below_of_only h2 (Nat.le_refl _) (by simp)⟩
            have u2 := ahead_bounds (t := a2) (by omega) hbig f1 f2 v0 v1 v2
            have u1 := ahead_bounds (t := a1) s0 (by omega) f1 f2 v0 v1 v2
            have hcv2 : countV (a1, a2) (b1, b2) f = aheadV a2 y f - aheadV a1 y f := HCV.out _ (fun _ _ => rfl) (fun h => by rcases h with h | h; exact absurd hbig (by omega); cases h)
            have HCV2 := Lib.hid hcv2
            have X2 := Lib.hid x2
            have X1 := Lib.hid x1
            clear x1 x2 hcv2 HCV
            generalize aheadV a2 y f = p2 at *
            generalize aheadV a1 y f = p1 at *
            obtain ⟨y1, y2⟩ := y
            have a0' := HAF.out.cell 0
            have a1' := HAF.out.cell 1
            have j0 := HY.out.cell 0
            have j1 := HY.out.cell 1
            simp at a0' a1' j0 j1
            have l0 := fun d os => cell_regrown a0' d os
            have l1 := fun d os => cell_regrown a1' d os
            have l2 := fun d os => cell_regrown j0 d os
            have l3 := fun d os => cell_regrown j1 d os
            clear a0' a1' j0 j1
            go_wp2
            refine wp_region_quiet_below (by kernel_rfl) (by kernel_rfl) ?_
            repeat (quiet_step ((first | (go_at_call 26; with_reducible exact Calls.regrown_of (X2.out _)) | (go_at_call 26; with_reducible exact Calls.regrown_of (X1.out _)))))
            refine wpQuiet_nil ?_
            rintro _ ⟨⟨dq, osq⟩, rfl⟩
            have hbq := HBW.out.trans ((below_regrown wf dq osq).mono HBW.out.size)
            generalize grow (redrawn wf dq) osq = w9 at hbq ⊢
            have HBQ := Lib.hid hbq
            clear hbq l0 l1 l2 l3
            go_wp2
            go_ret
            exact KEY.out _ _ HBQ.out (HCV2.out.trans (by rw [IntKind.wrap_i64]; omega))
      · go_enter Try.func15, Try.ntmps15
        go_wp2_with (first | (go_at_call 9; refine (HR.out _).mono ?_; rintro e w1 ⟨rfl, rfl⟩) | (go_at_call 23; refine (HIS.out _).mono ?_; rintro e w2 ⟨rfl, g2⟩; have hA := ((Blk.new w 31 #[.int .i64 a1, .int .i64 a2]).alloc (.cells #[.int .i64 b1, .int .i64 b2] 31)).only g2 (by simp); have a0' := hA.cell 0; have a1' := hA.cell 1; simp at a0' a1'; clear hA; have B2 := Lib.hid ((((Below.refl w.heap.size w).alloc (Nat.le_refl _) (.cells #[.int .i64 a1, .int .i64 a2] 31)).alloc (by simp) (.cells #[.int .i64 b1, .int .i64 b2] 31)).trans (below_of_only g2 (by simp; omega) (by simp))); clear g2))
        go_ret
        exact KEY.out _ 0 B2.out (HCV.out 0 (fun h => absurd h (by omega)) (fun _ => rfl))
    · have hsf : isB s = false := by simpa using hs
      rw [hsf] at his
      have HIS := Lib.hid his
      have hv : countV s p f = 0 := by unfold countV; rw [if_neg (fun h => hs h.2.1)]
      have HV := Lib.hid hv
      have KEY := Lib.hid key
      clear his hv hs hsf key hf
      obtain ⟨a1, a2⟩ := s
      obtain ⟨b1, b2⟩ := p
      go_enter Try.func15, Try.ntmps15
      go_wp2_with (first | (go_at_call 9; refine (HR.out _).mono ?_; rintro e w1 ⟨rfl, rfl⟩) | (go_at_call 23; refine (HIS.out _).mono ?_; rintro e w2 ⟨rfl, g2⟩; have B2 := Lib.hid ((((Below.refl w.heap.size w).alloc (Nat.le_refl _) (.cells #[.int .i64 a1, .int .i64 a2] 31)).alloc (by simp) (.cells #[.int .i64 b1, .int .i64 b2] 31)).trans (below_of_only g2 (by simp; omega) (by simp))); clear g2))
      go_ret
      exact KEY.out _ 0 B2.out HV.out
  · have hff : rightB f = false := by simpa using hf
    rw [hff] at hr
    have HR := Lib.hid hr
    have hv : countV s p f = 0 := by unfold countV; rw [if_neg (fun h => hf h.1)]
    have HV := Lib.hid hv
    have KEY := Lib.hid key
    clear hr hv hf hff key
    obtain ⟨a1, a2⟩ := s
    obtain ⟨b1, b2⟩ := p
    go_enter Try.func15, Try.ntmps15
    go_wp2_with (first | (go_at_call 9; refine (HR.out _).mono ?_; rintro e w1 ⟨rfl, rfl⟩))
    go_ret
    exact KEY.out _ 0 (((Below.refl w.heap.size w).alloc (Nat.le_refl _) _).alloc (by simp) _) HV.out
end Go.Proofs.Ythneljkaieckeab
