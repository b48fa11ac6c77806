import Derived.Test.YtecpplaobbkemaaZ03
import Derived.WalkMore
import Derived.Lib.QuietBelow
import Derived.Deep.RegionHeld3
import Derived.Test.YtecpplaobbkemaaZ01
import Derived.Deep.Upon
import Derived.Lib.SliceRun
import Derived.Maps.AppendAt
import Derived.Lib.Hide
set_option linter.all false
/- Nth: its contract, for frames of up to 60 ticks. -/
namespace Go.Proofs.Ytecpplaobbkemaa
open Go.RowKit Go.Lib Go.Sort
set_option linter.unusedVariables false

/-- What Nth answers. -/
def NthV (t n f : Int) (len : Nat) (d : Nat → Int × Int) (w : World) (e : Ending) (w' : World) : Prop :=
  ∃ r : Int, e = .returned (.int .i64 r) ∧ Below w.heap.size w w' ∧ ∃ p : Int → Bool, ∃ E : Int, (∀ x, p x = (rightB f && decide (0 ≤ x ∧ x < f) && inN d x len)) ∧ E = cnt p f.toNat ∧
    ((r = -1 ∧ (E = 0 ∨ n < 1 ∨ 65536 < n ∨ t < 0 ∨ 2147483647 < t)) ∨ (1 ≤ n ∧ n ≤ 65536 ∧ 0 ≤ t ∧ t ≤ 2147483647 ∧ 1 ≤ E ∧ 0 ≤ r ∧ r ≤ 200000000000 ∧ p (r % f) = true ∧ gT p f E r = gT p f E t + n - 1))

end Go.Proofs.Ytecpplaobbkemaa

/- What every law of package clock asks first; the document's Offset and Next. -/
namespace Go.Proofs.Ytecpplaobbkemaa
open Go.RowKit Go.Lib Go.Sort
set_option linter.unusedVariables false

theorem roff_any (t f : Int) (w : World) (h0 : 0 ≤ t) (h1 : 1 ≤ f) (h2 : t ≤ 9223372036854775807) : Calls Try.prog 34 #[.int .i64 t, .int .i64 f] w fun r w' => r = .returned (.int .i64 (t % f)) ∧ w = w' := by
  obtain ⟨a, b, c⟩ := ticks (t := t) (f := f) (by omega)
  have q0 : 0 ≤ t / f := Int.ediv_nonneg h0 (by omega)
  have q1 : t / f ≤ t := Int.ediv_le_self _ h0
  have q2 : 0 ≤ t / f * f := Int.mul_nonneg q0 (by omega)
  have q3 : t / f * f ≤ t := by rw [Int.mul_comm]; omega
  have q4 : t - t / f * f = t % f := by rw [Int.mul_comm]; omega
  have Q4 := Lib.hid q4
  clear a b c q4
  go_enter Try.func34, Try.ntmps34
  go_wp2
  go_ret
  exact ⟨ret_int Q4.out, rfl⟩

end Go.Proofs.Ytecpplaobbkemaa

/- Count, and the document's: their contracts. -/
namespace Go.Proofs.Ytecpplaobbkemaa
open Go.RowKit Go.Lib Go.Sort
set_option linter.unusedVariables false

theorem ahead_small {t f : Int} {p : Int × Int} (t0 : 0 ≤ t) (t1 : t ≤ 2147483647) (f1 : 1 ≤ f) (f2 : f ≤ 4096) (p0 : 0 ≤ p.1) (p1 : p.1 < p.2) (p2 : p.2 ≤ f) : 0 ≤ t / f ∧ t / f ≤ 2147483647 ∧ 0 ≤ t / f * (p.2 - p.1) ∧ t / f * (p.2 - p.1) ≤ 8796093018112 := by
  have q0 : 0 ≤ t / f := Int.ediv_nonneg t0 (by omega)
  have q1 : t / f ≤ t := Int.ediv_le_self _ t0
  refine ⟨q0, by omega, Int.mul_nonneg q0 (by omega), ?_⟩
  have := Int.mul_le_mul (show t / f ≤ 2147483647 by omega) (show p.2 - p.1 ≤ 4096 by omega) (by omega) (by omega)
  omega
set_option maxHeartbeats 1600000 in
theorem ahead_any (t f : Int) (p : Int × Int) (w : World) (t0 : 0 ≤ t) (t1 : t ≤ 2147483647) (f1 : 1 ≤ f) (f2 : f ≤ 4096) (p0 : 0 ≤ p.1) (p1 : p.1 < p.2) (p2 : p.2 ≤ f) :
    Calls Try.prog 52 #[.int .i64 t, spv p, .int .i64 f] w fun r w' => r = .returned (.int .i64 (aheadV t p f)) ∧ w.grownBy w' none := by
  obtain ⟨q0, q1, m0, m1⟩ := ahead_small t0 t1 f1 f2 p0 p1 p2
  obtain ⟨tk, r0, r1⟩ := ticks (t := t) (f := f) (by omega)
  have hfr : ∀ W, Calls Try.prog 28 #[.int .i64 t, .int .i64 f] W fun r w' => r = .returned (.tuple #[.int .i64 (t / f), .int .i64 (t % f)]) ∧ ∃ q, W.drewN q = w' := fun W => by
    have := frame_any t f W (by omega)
    have e : frV t f = (t / f, t % f) := by unfold frV; rw [if_pos ⟨(rightB_iff f).2 ⟨f1, f2⟩, t0⟩]
    rw [e] at this
    exact this
  have HV : Hid (aheadV t p f = t / f * (p.2 - p.1) + (if t % f - p.1 < 0 then 0 else if p.2 - p.1 < t % f - p.1 then p.2 - p.1 else t % f - p.1)) := rfl
  have HF := Lib.hid hfr
  clear hfr tk
  generalize t / f = q at *
  generalize t % f = r at *
  obtain ⟨a, b⟩ := p
  simp only at p0 p1 p2 m0 m1 HV
  have hc : (r - a < 0 ∧ aheadV t (a, b) f = q * (b - a) + 0) ∨ (¬ r - a < 0 ∧ b - a < r - a ∧ aheadV t (a, b) f = q * (b - a) + (b - a)) ∨ (¬ r - a < 0 ∧ ¬ b - a < r - a ∧ aheadV t (a, b) f = q * (b - a) + (r - a)) := by
    by_cases h1 : r - a < 0
    · exact .inl ⟨h1, by rw [HV.out, if_pos h1]⟩
    · by_cases h2 : b - a < r - a
      · exact .inr (.inl ⟨h1, h2, by rw [HV.out, if_neg h1, if_pos h2]⟩)
      · exact .inr (.inr ⟨h1, h2, by rw [HV.out, if_neg h1, if_neg h2]⟩)
  clear HV
  rcases hc with ⟨h1, e⟩ | ⟨h1, h2, e⟩ | ⟨h1, h2, e⟩
  all_goals
    rw [e]
    clear e
    go_enter Try.func52, Try.ntmps52
    go_wp2_with (go_at_call 28; refine (HF.out _).mono ?_; rintro e w2 ⟨rfl, dq, rfl⟩)
    go_ret
    exact ⟨by first | rfl | (simp; done) | (simp; omega), only_drewN (only_alloc (only_refl _ _) _) _⟩

theorem ahead_bounds {t f : Int} {p : Int × Int} (t0 : 0 ≤ t) (t1 : t ≤ 2147483647) (f1 : 1 ≤ f) (f2 : f ≤ 4096) (p0 : 0 ≤ p.1) (p1 : p.1 < p.2) (p2 : p.2 ≤ f) : 0 ≤ aheadV t p f ∧ aheadV t p f ≤ 8796093022208 := by
  obtain ⟨q0, q1, m0, m1⟩ := ahead_small t0 t1 f1 f2 p0 p1 p2
  unfold aheadV
  repeat' split
  all_goals omega
/-- How many ticks of a span have an offset that is in another one. -/
def countV (s p : Int × Int) (f : Int) : Int := if rightB f = true ∧ isB s = true ∧ s.2 ≤ 2147483647 ∧ meetsB p (0, f) = true then aheadV s.2 (meetV p (0, f)) f - aheadV s.1 (meetV p (0, f)) f else 0

set_option maxHeartbeats 3200000 in
theorem count_any (s p : Int × Int) (f : Int) (w : World) : Calls Try.prog 40 #[spv s, spv p, .int .i64 f] w fun r w' => r = .returned (.int .i64 (countV s p f)) ∧ w.grownBy w' none := by
  have hr := right_any f
  have key : ∀ (W : World) (v : Int), Below w.heap.size w W → countV s p f = v → (Ending.returned (.int .i64 v) = .returned (.int .i64 (countV s p f)) ∧ w.grownBy W none) := fun W v hb hv => ⟨by rw [hv], only_far hb⟩
  by_cases hf : rightB f = true
  · obtain ⟨f1, f2⟩ := (rightB_iff f).1 hf
    rw [hf] at hr
    have HR := Lib.hid hr
    clear hr
    have his := is_any s
    by_cases hs : isB s = true
    · rw [hs] at his
      have HIS := Lib.hid his
      clear his
      have hs' := hs
      simp only [isB, decide_eq_true_eq] at hs'
      obtain ⟨s0, s1⟩ := hs'
      have hcv : ∀ v, (s.2 ≤ 2147483647 → meetsB p (0, f) = true → aheadV s.2 (meetV p (0, f)) f - aheadV s.1 (meetV p (0, f)) f = v) → ((¬ s.2 ≤ 2147483647 ∨ meetsB p (0, f) = false) → 0 = v) → countV s p f = v := fun v h1 h2 => by
        unfold countV
        by_cases c1 : s.2 ≤ 2147483647
        · by_cases c2 : meetsB p (0, f) = true
          · rw [if_pos ⟨hf, hs, c1, c2⟩]; exact h1 c1 c2
          · rw [if_neg (fun h => c2 h.2.2.2)]; exact h2 (.inr (by simpa using c2))
        · rw [if_neg (fun h => c1 h.2.2.1)]; exact h2 (.inl c1)
      have HCV := Lib.hid hcv
      have KEY := Lib.hid key
      clear hcv key hs hf
      obtain ⟨a1, a2⟩ := s
      obtain ⟨b1, b2⟩ := p
      simp only at s0 s1 HCV
      by_cases hbig : a2 ≤ 2147483647
      · obtain ⟨r, hr⟩ : ∃ r, r = meetsB (b1, b2) (0, f) := ⟨_, rfl⟩
        obtain ⟨y, hy⟩ : ∃ y, y = meetV (b1, b2) (0, f) := ⟨_, rfl⟩
        have hyb : r = true → 0 ≤ y.1 ∧ y.1 < y.2 ∧ y.2 ≤ f := fun h => by rw [hy]; exact meet_in (by rw [← hr]; exact h)
        have hcall : ∀ W, Calls Try.prog 45 #[spv (b1, b2), spv (0, f)] W fun e w' => e = .returned (.tuple #[spv y, .bool r]) ∧ W.grownBy w' none := fun W => by rw [hr, hy]; exact meet_any (b1, b2) (0, f) W
        rw [← hr, ← hy] at HCV
        have HCALL := Lib.hid hcall
        have HYB := Lib.hid hyb
        clear hcall hyb hr hy
        go_enter Try.func40, Try.ntmps40
        go_wp2_with (first | (go_at_call 21; refine (HR.out _).mono ?_; rintro e w1 ⟨rfl, rfl⟩) | (go_at_call 49; refine (HIS.out _).mono ?_; rintro e w2 ⟨rfl, g2⟩; have hA := ((Blk.new w 45 #[.int .i64 a1, .int .i64 a2]).alloc (.cells #[.int .i64 b1, .int .i64 b2] 45)).only g2 (by simp); have hB := (Blk.new (w.alloc (.cells #[.int .i64 a1, .int .i64 a2] 45)) 45 #[.int .i64 b1, .int .i64 b2]).only g2 (by simp); have a0' := hA.cell 0; have a1' := hA.cell 1; have b0' := hB.cell 0; have b1' := hB.cell 1; simp at a0' a1' b0' b1' hB; have HA := Lib.hid hA; have HB := Lib.hid hB; have B2 := Lib.hid ((((Below.refl w.heap.size w).alloc (Nat.le_refl _) (.cells #[.int .i64 a1, .int .i64 a2] 45)).alloc (by simp) (.cells #[.int .i64 b1, .int .i64 b2] 45)).trans (below_of_only g2 (by simp; omega) (by simp))); clear g2 hA hB))
        have n0 := World.new_ne w2 _ b0'
        have n1 := World.new_ne w2 _ b1'
        go_region_held3 (fun w' => w'.cell? ⟨w.heap.size + 1, 0, none⟩ = some (.int .i64 b1) ∧ w'.cell? ⟨w.heap.size + 1, 1, none⟩ = some (.int .i64 b2)) (first | exact ⟨k0, k1⟩ | exact ⟨e0, e1⟩ | go_keep) (first
          | (go_at_call 51; refine (whole_any _ _).mono ?_; rintro e w3 ⟨rfl, g3⟩; have hS := (show Blk w2.drew (w.heap.size + 1) 45 #[.int .i64 b1, .int .i64 b2] from HB.out).only g3 (by simp); have e0 := hS.cell 0; have e1 := hS.cell 1; simp at e0 e1; have nz : ¬ w.heap.size + 1 = w3.heap.size := (by have := hS.lt; omega); have nz2 : ¬ w3.heap.size = w.heap.size + 1 := (by omega); have HS := Lib.hid hS; have HG3 := Lib.hid g3; clear hS)
          | (go_at_call 51; refine (whole_any _ _).mono ?_; rintro e w3 ⟨rfl, g3⟩; have hS := ((show Blk w2.drew (w.heap.size + 1) 45 #[.int .i64 b1, .int .i64 b2] from HB.out).alloc (.cells #[.int .i64 0, .int .i64 0] 45)).only g3 (by simp); have e0 := hS.cell 0; have e1 := hS.cell 1; simp at e0 e1; have nz : ¬ w.heap.size + 1 = w3.heap.size := (by have := hS.lt; omega); have nz2 : ¬ w3.heap.size = w.heap.size + 1 := (by omega); have HS := Lib.hid hS; have HZ := Lib.hid ((Blk.new w2.drew 45 #[.int .i64 0, .int .i64 0]).only g3 (by simp)); have HG3 := Lib.hid g3; clear hS)
          | (go_at_call 45; refine (HCALL.out w3).mono ?_; rintro e w4 ⟨rfl, g4⟩; have HZ3 := Lib.hid (HZ.out.only g4 (by simp)); have z0 := HZ3.out.cell 0; have z1 := HZ3.out.cell 1; have y0 := HZ3.out.free 0; have y1 := HZ3.out.free 1; simp at z0 z1 y0 y1; have hS3 := HS.out.only g4 (by simp); have k0 := hS3.cell 0; have k1 := hS3.cell 1; simp at k0 k1; have HG4 := Lib.hid g4; clear hS3)
          | (go_at_call 45; refine (HCALL.out w3).mono ?_; rintro e w4 ⟨rfl, g4⟩; have hS3 := HS.out.only g4 (by simp); have k0 := hS3.cell 0; have k1 := hS3.cell 1; simp at k0 k1; have HG4 := Lib.hid g4; clear hS3)
          | (go_at_call 45; refine (HCALL.out (w3.alloc (.cells #[.int .i64 0, .int .i64 0] 45))).mono ?_; rintro e w4 ⟨rfl, g4⟩; have HZ3 := Lib.hid ((Blk.new w3 45 #[.int .i64 0, .int .i64 0]).only g4 (by simp)); have z0 := HZ3.out.cell 0; have z1 := HZ3.out.cell 1; have y0 := HZ3.out.free 0; have y1 := HZ3.out.free 1; simp at z0 z1 y0 y1; have hS3 := (HS.out.alloc (.cells #[.int .i64 0, .int .i64 0] 45)).only g4 (by simp); have k0 := hS3.cell 0; have k1 := hS3.cell 1; simp at k0 k1; have HG4 := Lib.hid g4; clear hS3))
        · have hb3 := (below_of_only HG3.out (Nat.le_refl _) (by simp) : Below w2.heap.size w2.drew w3)
          have hb4 := (below_of_only HG4.out hb3.size (by simp) : Below w2.heap.size w3 w4)
          have hb2 := (below_drewN (Below.refl w2.heap.size w2) 1 : Below w2.heap.size w2 w2.drew)
          have HBF := Lib.hid (((hb2.trans hb3).trans hb4).alloc ((hb2.trans hb3).trans hb4).size (.cells #[.int .i64 y.1, .int .i64 y.2] 45))
          have HY := Lib.hid (Blk.new w4 45 #[.int .i64 y.1, .int .i64 y.2])
          clear hb2 hb3 hb4 k0 k1 e0 e1 nz nz2 n0 n1 HS HG3 HG4
          generalize w4.alloc (.cells #[.int .i64 y.1, .int .i64 y.2] 45) = wf at *
          generalize w4.heap.size = bb at *
          have HAF := Lib.hid (HA.out.below HBF.out HA.out.lt)
          have HBW := Lib.hid (B2.out.trans (HBF.out.mono B2.out.size))
          clear a0' a1' b0' b1' HA HB HBF B2
          cases r with
          | false =>
            go_wp2
            go_ret
            exact KEY.out _ 0 HBW.out (HCV.out 0 (fun _ h => by cases h) (fun _ => rfl))
          | true =>
            obtain ⟨v0, v1, v2⟩ := HYB.out rfl
            have x2 : ∀ W, Calls Try.prog 52 #[.int .i64 a2, spv y, .int .i64 f] W fun e w' => e = .returned (.int .i64 (aheadV a2 y f)) ∧ Below W.heap.size W w' := fun W => (ahead_any a2 f y W (by omega) hbig f1 f2 v0 v1 v2).mono fun e w' ⟨h1, h2⟩ => ⟨h1, below_of_only h2 (Nat.le_refl _) (by simp)⟩
            have x1 : ∀ W, Calls Try.prog 52 #[.int .i64 a1, spv y, .int .i64 f] W fun e w' => e = .returned (.int .i64 (aheadV a1 y f)) ∧ Below W.heap.size W w' := fun W => (ahead_any a1 f y W s0 (by omega) f1 f2 v0 v1 v2).mono fun e w' ⟨h1, h2⟩ => ⟨h1, below_of_only h2 (Nat.le_refl _) (by simp)⟩
            have u2 := ahead_bounds (t := a2) (by omega) hbig f1 f2 v0 v1 v2
            have u1 := ahead_bounds (t := a1) s0 (by omega) f1 f2 v0 v1 v2
            have hcv2 : countV (a1, a2) (b1, b2) f = aheadV a2 y f - aheadV a1 y f := HCV.out _ (fun _ _ => rfl) (fun h => by rcases h with h | h; exact absurd hbig (by omega); cases h)
            have HCV2 := Lib.hid hcv2
            have X2 := Lib.hid x2
            have X1 := Lib.hid x1
            clear x1 x2 hcv2 HCV
            generalize aheadV a2 y f = p2 at *
            generalize aheadV a1 y f = p1 at *
            obtain ⟨y1, y2⟩ := y
            have a0' := HAF.out.cell 0
            have a1' := HAF.out.cell 1
            have j0 := HY.out.cell 0
            have j1 := HY.out.cell 1
            simp at a0' a1' j0 j1
            have l0 := fun d os => cell_regrown a0' d os
            have l1 := fun d os => cell_regrown a1' d os
            have l2 := fun d os => cell_regrown j0 d os
            have l3 := fun d os => cell_regrown j1 d os
            clear a0' a1' j0 j1
            go_wp2
            refine wp_region_quiet_below (by kernel_rfl) (by kernel_rfl) ?_
            repeat (quiet_step ((first | (go_at_call 52; with_reducible exact Calls.regrown_of (X2.out _)) | (go_at_call 52; with_reducible exact Calls.regrown_of (X1.out _)))))
            refine wpQuiet_nil ?_
            rintro _ ⟨⟨dq, osq⟩, rfl⟩
            have hbq := HBW.out.trans ((below_regrown wf dq osq).mono HBW.out.size)
            generalize grow (redrawn wf dq) osq = w9 at hbq ⊢
            have HBQ := Lib.hid hbq
            clear hbq l0 l1 l2 l3
            go_wp2
            go_ret
            exact KEY.out _ _ HBQ.out (HCV2.out.trans (by rw [IntKind.wrap_i64]; omega))
        · have hb3 := (below_of_only HG3.out (Nat.le_refl _) (by simp) : Below w2.heap.size w2.drew w3)
          have hb2 := (below_drewN (Below.refl w2.heap.size w2) 1 : Below w2.heap.size w2 w2.drew)
          have hb4 := (below_of_only HG4.out (Nat.le_trans hb3.size (by simp)) (by simp) : Below w2.heap.size (w3.alloc (.cells #[.int .i64 0, .int .i64 0] 45)) w4)
          have HBF := Lib.hid (((((hb2.trans hb3).alloc hb3.size (.cells #[.int .i64 0, .int .i64 0] 45)).trans hb4).setCell (p := ⟨w3.heap.size, 0, none⟩) hb3.size (.int .i64 y.1)).setCell (p := ⟨w3.heap.size, 1, none⟩) hb3.size (.int .i64 y.2))
          have hy := (HZ3.out.put 0 (.int .i64 y.1)).put 1 (.int .i64 y.2)
          simp at hy
          have HY := Lib.hid hy
          clear hb2 hb3 hb4 hy k0 k1 e0 e1 nz nz2 n0 n1 HS HG3 HG4 HZ3 z0 z1 y0 y1
          generalize (w4.setCell ⟨w3.heap.size, 0, none⟩ (.int .i64 y.1)).setCell ⟨w3.heap.size, 1, none⟩ (.int .i64 y.2) = wf at *
          generalize w3.heap.size = bb at *
          have HAF := Lib.hid (HA.out.below HBF.out HA.out.lt)
          have HBW := Lib.hid (B2.out.trans (HBF.out.mono B2.out.size))
          clear a0' a1' b0' b1' HA HB HBF B2
          cases r with
          | false =>
            go_wp2
            go_ret
            exact KEY.out _ 0 HBW.out (HCV.out 0 (fun _ h => by cases h) (fun _ => rfl))
          | true =>
            obtain ⟨v0, v1, v2⟩ := HYB.out rfl
            have x2 : ∀ W, Calls Try.prog 52 #[.int .i64 a2, spv y, .int .i64 f] W fun e w' => e = .returned (.int .i64 (aheadV a2 y f)) ∧ Below W.heap.size W w' := fun W => (ahead_any a2 f y W (by omega) hbig f1 f2 v0 v1 v2).mono fun e w' ⟨h1, h2⟩ => ⟨h1, below_of_only h2 (Nat.le_refl _) (by simp)⟩
            have x1 : ∀ W, Calls Try.prog 52 #[.int .i64 a1, spv y, .int .i64 f] W fun e w' => e = .returned (.int .i64 (aheadV a1 y f)) ∧ Below W.heap.size W w' := fun W => (ahead_any a1 f y W s0 (by omega) f1 f2 v0 v1 v2).mono fun e w' ⟨h1, h2⟩ => ⟨h1, below_of_only h2 (Nat.le_refl _) (by simp)⟩
            have u2 := ahead_bounds (t := a2) (by omega) hbig f1 f2 v0 v1 v2
            have u1 := ahead_bounds (t := a1) s0 (by omega) f1 f2 v0 v1 v2
            have hcv2 : countV (a1, a2) (b1, b2) f = aheadV a2 y f - aheadV a1 y f := HCV.out _ (fun _ _ => rfl) (fun h => by rcases h with h | h; exact absurd hbig (by omega); cases h)
            have HCV2 := Lib.hid hcv2
            have X2 := Lib.hid x2
            have X1 := Lib.hid x1
            clear x1 x2 hcv2 HCV
            generalize aheadV a2 y f = p2 at *
            generalize aheadV a1 y f = p1 at *
            obtain ⟨y1, y2⟩ := y
            have a0' := HAF.out.cell 0
            have a1' := HAF.out.cell 1
            have j0 := HY.out.cell 0
            have j1 := HY.out.cell 1
            simp at a0' a1' j0 j1
            have l0 := fun d os => cell_regrown a0' d os
            have l1 := fun d os => cell_regrown a1' d os
            have l2 := fun d os => cell_regrown j0 d os
            have l3 := fun d os => cell_regrown j1 d os
            clear a0' a1' j0 j1
            go_wp2
            refine wp_region_quiet_below (by kernel_rfl) (by kernel_rfl) ?_
            repeat (quiet_step ((first | (go_at_call 52; with_reducible exact Calls.regrown_of (X2.out _)) | (go_at_call 52; with_reducible exact Calls.regrown_of (X1.out _)))))
            refine wpQuiet_nil ?_
            rintro _ ⟨⟨dq, osq⟩, rfl⟩
            have hbq := HBW.out.trans ((below_regrown wf dq osq).mono HBW.out.size)
            generalize grow (redrawn wf dq) osq = w9 at hbq ⊢
            have HBQ := Lib.hid hbq
            clear hbq l0 l1 l2 l3
            go_wp2
            go_ret
            exact KEY.out _ _ HBQ.out (HCV2.out.trans (by rw [IntKind.wrap_i64]; omega))
        · have hb2 := ((below_drewN (Below.refl w2.heap.size w2) 1).alloc (Nat.le_refl _) (.cells #[.int .i64 0, .int .i64 0] 45) : Below w2.heap.size w2 (w2.drew.alloc (.cells #[.int .i64 0, .int .i64 0] 45)))
          have hb3 := (below_of_only HG3.out hb2.size (by simp) : Below w2.heap.size (w2.drew.alloc (.cells #[.int .i64 0, .int .i64 0] 45)) w3)
          have hb4 := (below_of_only HG4.out (hb2.trans hb3).size (by simp) : Below w2.heap.size w3 w4)
          have HBF := Lib.hid ((((hb2.trans hb3).trans hb4).setCell (p := ⟨w2.heap.size, 0, none⟩) (Nat.le_refl _) (.int .i64 y.1)).setCell (p := ⟨w2.heap.size, 1, none⟩) (Nat.le_refl _) (.int .i64 y.2))
          have hy := (HZ3.out.put 0 (.int .i64 y.1)).put 1 (.int .i64 y.2)
          simp at hy
          have HY := Lib.hid hy
          clear hb2 hb3 hb4 hy k0 k1 e0 e1 nz nz2 n0 n1 HS HG3 HG4 HZ3 HZ z0 z1 y0 y1
          generalize (w4.setCell ⟨w2.heap.size, 0, none⟩ (.int .i64 y.1)).setCell ⟨w2.heap.size, 1, none⟩ (.int .i64 y.2) = wf at *
          generalize w2.heap.size = bb at HY ⊢
          have HAF := Lib.hid (HA.out.below HBF.out HA.out.lt)
          have HBW := Lib.hid (B2.out.trans (HBF.out.mono B2.out.size))
          clear a0' a1' b0' b1' HA HB HBF B2
          cases r with
          | false =>
            go_wp2
            go_ret
            exact KEY.out _ 0 HBW.out (HCV.out 0 (fun _ h => by cases h) (fun _ => rfl))
          | true =>
            obtain ⟨v0, v1, v2⟩ := HYB.out rfl
            have x2 : ∀ W, Calls Try.prog 52 #[.int .i64 a2, spv y, .int .i64 f] W fun e w' => e = .returned (.int .i64 (aheadV a2 y f)) ∧ Below W.heap.size W w' := fun W => (ahead_any a2 f y W (by omega) hbig f1 f2 v0 v1 v2).mono fun e w' ⟨h1, h2⟩ => ⟨h1, below_of_only h2 (Nat.le_refl _) (by simp)⟩
            have x1 : ∀ W, Calls Try.prog 52 #[.int .i64 a1, spv y, .int .i64 f] W fun e w' => e = .returned (.int .i64 (aheadV a1 y f)) ∧ Below W.heap.size W w' := fun W => (ahead_any a1 f y W s0 (by omega) f1 f2 v0 v1 v2).mono fun e w' ⟨h1, h2⟩ => ⟨h1, below_of_only h2 (Nat.le_refl _) (by simp)⟩
            have u2 := ahead_bounds (t := a2) (by omega) hbig f1 f2 v0 v1 v2
            have u1 := ahead_bounds (t := a1) s0 (by omega) f1 f2 v0 v1 v2
            have hcv2 : countV (a1, a2) (b1, b2) f = aheadV a2 y f - aheadV a1 y f := HCV.out _ (fun _ _ => rfl) (fun h => by rcases h with h | h; exact absurd hbig (by omega); cases h)
            have HCV2 := Lib.hid hcv2
            have X2 := Lib.hid x2
            have X1 := Lib.hid x1
            clear x1 x2 hcv2 HCV
            generalize aheadV a2 y f = p2 at *
            generalize aheadV a1 y f = p1 at *
            obtain ⟨y1, y2⟩ := y
            have a0' := HAF.out.cell 0
            have a1' := HAF.out.cell 1
            have j0 := HY.out.cell 0
            have j1 := HY.out.cell 1
            simp at a0' a1' j0 j1
            have l0 := fun d os => cell_regrown a0' d os
            have l1 := fun d os => cell_regrown a1' d os
            have l2 := fun d os => cell_regrown j0 d os
            have l3 := fun d os => cell_regrown j1 d os
            clear a0' a1' j0 j1
            go_wp2
            refine wp_region_quiet_below (by kernel_rfl) (by kernel_rfl) ?_
            repeat (quiet_step ((first | (go_at_call 52; with_reducible exact Calls.regrown_of (X2.out _)) | (go_at_call 52; with_reducible exact Calls.regrown_of (X1.out _)))))
            refine wpQuiet_nil ?_
            rintro _ ⟨⟨dq, osq⟩, rfl⟩
            have hbq := HBW.out.trans ((below_regrown wf dq osq).mono HBW.out.size)
            generalize grow (redrawn wf dq) osq = w9 at hbq ⊢
            have HBQ := Lib.hid hbq
            clear hbq l0 l1 l2 l3
            go_wp2
            go_ret
            exact KEY.out _ _ HBQ.out (HCV2.out.trans (by rw [IntKind.wrap_i64]; omega))
      · go_enter Try.func40, Try.ntmps40
        go_wp2_with (first | (go_at_call 21; refine (HR.out _).mono ?_; rintro e w1 ⟨rfl, rfl⟩) | (go_at_call 49; refine (HIS.out _).mono ?_; rintro e w2 ⟨rfl, g2⟩; have hA := ((Blk.new w 45 #[.int .i64 a1, .int .i64 a2]).alloc (.cells #[.int .i64 b1, .int .i64 b2] 45)).only g2 (by simp); have a0' := hA.cell 0; have a1' := hA.cell 1; simp at a0' a1'; clear hA; have B2 := Lib.hid ((((Below.refl w.heap.size w).alloc (Nat.le_refl _) (.cells #[.int .i64 a1, .int .i64 a2] 45)).alloc (by simp) (.cells #[.int .i64 b1, .int .i64 b2] 45)).trans (below_of_only g2 (by simp; omega) (by simp))); clear g2))
        go_ret
        exact KEY.out _ 0 B2.out (HCV.out 0 (fun h => absurd h (by omega)) (fun _ => rfl))
    · have hsf : isB s = false := by simpa using hs
      rw [hsf] at his
      have HIS := Lib.hid his
      have hv : countV s p f = 0 := by unfold countV; rw [if_neg (fun h => hs h.2.1)]
      have HV := Lib.hid hv
      have KEY := Lib.hid key
      clear his hv hs hsf key hf
      obtain ⟨a1, a2⟩ := s
      obtain ⟨b1, b2⟩ := p
      go_enter Try.func40, Try.ntmps40
      go_wp2_with (first | (go_at_call 21; refine (HR.out _).mono ?_; rintro e w1 ⟨rfl, rfl⟩) | (go_at_call 49; refine (HIS.out _).mono ?_; rintro e w2 ⟨rfl, g2⟩; have B2 := Lib.hid ((((Below.refl w.heap.size w).alloc (Nat.le_refl _) (.cells #[.int .i64 a1, .int .i64 a2] 45)).alloc (by simp) (.cells #[.int .i64 b1, .int .i64 b2] 45)).trans (below_of_only g2 (by simp; omega) (by simp))); clear g2))
      go_ret
      exact KEY.out _ 0 B2.out HV.out
  · have hff : rightB f = false := by simpa using hf
    rw [hff] at hr
    have HR := Lib.hid hr
    have hv : countV s p f = 0 := by unfold countV; rw [if_neg (fun h => hf h.1)]
    have HV := Lib.hid hv
    have KEY := Lib.hid key
    clear hr hv hf hff key
    obtain ⟨a1, a2⟩ := s
    obtain ⟨b1, b2⟩ := p
    go_enter Try.func40, Try.ntmps40
    go_wp2_with (first | (go_at_call 21; refine (HR.out _).mono ?_; rintro e w1 ⟨rfl, rfl⟩))
    go_ret
    exact KEY.out _ 0 (((Below.refl w.heap.size w).alloc (Nat.le_refl _) _).alloc (by simp) _) HV.out
end Go.Proofs.Ytecpplaobbkemaa

/- Slices of the call's own that move along their rows: what they hold, and what an append, a clearing and a cut do. No program is spoken of here. -/
namespace Go.Proofs.Ytecpplaobbkemaa
open Go.RowKit Go.Lib
set_option linter.unusedVariables false

/-- A slice of one-cell elements l: nil, or in a row that it may write. -/
def RowQ (w : World) (v : Value) (l : List Value) : Prop :=
  (v = .slice none 0 0 ∧ l = []) ∨ ∃ g off cap, v = .slice (some ⟨g, off, none⟩) l.length cap ∧ l.length ≤ cap ∧ cap ≤ maxLen ∧ g < w.heap.size ∧
    (∀ j, j < cap → (w.cell? ⟨g, off + j, none⟩).isSome = true ∧ w.frozen? ⟨g, off + j, none⟩ = false) ∧ ∀ j (hj : j < l.length), w.cell? ⟨g, off + j, none⟩ = some l[j]

def Keeps (S : Nat → Prop) (w w' : World) : Prop := w'.os = w.os ∧ w'.tape = w.tape ∧ w'.output = w.output ∧ w.heap.size ≤ w'.heap.size ∧ ∀ i, i < w.heap.size → ¬ S i → w'.heap[i]? = w.heap[i]?
theorem Keeps.refl (S : Nat → Prop) (w : World) : Keeps S w w := ⟨rfl, rfl, rfl, Nat.le_refl _, fun _ _ _ => rfl⟩
theorem Keeps.trans {S : Nat → Prop} {a b c : World} (h : Keeps S a b) (k : Keeps S b c) : Keeps S a c :=
  ⟨k.1.trans h.1, k.2.1.trans h.2.1, k.2.2.1.trans h.2.2.1, Nat.le_trans h.2.2.2.1 k.2.2.2.1, fun i hi hs => (k.2.2.2.2 i (Nat.lt_of_lt_of_le hi h.2.2.2.1) hs).trans (h.2.2.2.2 i hi hs)⟩
theorem Keeps.mono {S T : Nat → Prop} {a b : World} (h : Keeps S a b) (hs : ∀ i, i < a.heap.size → S i → T i) : Keeps T a b := ⟨h.1, h.2.1, h.2.2.1, h.2.2.2.1, fun i hi hn => h.2.2.2.2 i hi (fun x => hn (hs i hi x))⟩
theorem Keeps.of_only {a b : World} {row : Option Nat} (h : a.grownBy b row) {S : Nat → Prop} (hs : ∀ k, row = some k → S k) : Keeps S a b := ⟨h.os, h.tape, h.output, h.size, fun i hi hn => h.block i hi (fun e => hn (hs i e.symm))⟩
theorem Keeps.of_below {a b : World} (h : Below a.heap.size a b) (S : Nat → Prop) : Keeps S a b := ⟨h.os, h.tape, h.output, h.size, fun i hi _ => h.block i hi⟩
theorem Keeps.below {a b : World} {B : Nat} {S : Nat → Prop} (h : Keeps S a b) (hB : B ≤ a.heap.size) (hs : ∀ i, i < B → ¬ S i) : Below B a b := ⟨h.1, h.2.1, h.2.2.1, h.2.2.2.1, fun i hi => h.2.2.2.2 i (Nat.lt_of_lt_of_le hi hB) (hs i hi)⟩
theorem Keeps.size {S : Nat → Prop} {a b : World} (h : Keeps S a b) : a.heap.size ≤ b.heap.size := h.2.2.2.1
theorem Keeps.drew {S : Nat → Prop} {a b : World} (h : Keeps S a b) (n : Nat) : Keeps S a (b.drewN n) := h
theorem Keeps.put {S : Nat → Prop} {a b : World} (h : Keeps S a b) {p : Addr} (hp : S p.block ∨ a.heap.size ≤ p.block) (u : Value) : Keeps S a (b.setCell p u) :=
  ⟨h.1, h.2.1, h.2.2.1, by simpa using h.size, fun i hi hs => (Below.heap_setCell b p u i (by
    rintro rfl
    rcases hp with hp | hp
    · exact hs hp
    · omega)).trans (h.2.2.2.2 i hi hs)⟩
theorem Keeps.alloc {S : Nat → Prop} {a b : World} (h : Keeps S a b) (o : Obj) : Keeps S a (b.alloc o) :=
  ⟨h.1, h.2.1, h.2.2.1, Nat.le_trans h.size (by simp), fun i hi hs => (Below.heap_alloc b o i (Nat.lt_of_lt_of_le hi h.size)).trans (h.2.2.2.2 i hi hs)⟩
theorem Blk.keeps {S : Nat → Prop} {w w' : World} {g : Nat} {t : TypeId} {cs : Array Value} (h : Blk w g t cs) (k : Keeps S w w') (hg : ¬ S g) : Blk w' g t cs := (k.2.2.2.2 g h.lt hg).trans h

theorem setCells_at (b : Nat) : ∀ (vs : List Value) (o : Nat) (w : World), (w.setCells b o vs).os = w.os ∧ (w.setCells b o vs).tape = w.tape ∧ (w.setCells b o vs).output = w.output ∧ (w.setCells b o vs).heap.size = w.heap.size ∧ ∀ k, k ≠ b → (w.setCells b o vs).heap[k]? = w.heap[k]?
  | [], _, _ => ⟨rfl, rfl, rfl, rfl, fun _ _ => rfl⟩
  | v :: r, o, w => by
    obtain ⟨h1, h2, h3, h4, h5⟩ := setCells_at b r (o + 1) (w.setCell ⟨b, o, none⟩ v)
    refine ⟨h1, h2, h3, h4.trans (by simp), fun k hk => (h5 k hk).trans (Below.heap_setCell w _ v k hk)⟩
theorem only_cells (w : World) (b o : Nat) (vs : List Value) : w.grownBy (w.setCells b o vs) (some b) := by
  obtain ⟨h1, h2, h3, h4, h5⟩ := setCells_at b vs o w
  exact ⟨h1, h2, h3, Nat.le_of_eq h4.symm, fun k _ hk => h5 k (fun e => hk (by rw [e]))⟩

section
variable {w w' : World} {v : Value} {l : List Value}
theorem RowQ.nil (w : World) : RowQ w (.slice none 0 0) [] := .inl ⟨rfl, rfl⟩
theorem RowQ.form (h : RowQ w v l) : ∃ A c, v = .slice A l.length c := by
  rcases h with ⟨rfl, rfl⟩ | ⟨g, off, cap, rfl, _⟩
  · exact ⟨_, _, rfl⟩
  · exact ⟨_, _, rfl⟩
theorem RowQ.lt (h : RowQ w v l) : ∀ k, v.ownBlock = some k → k < w.heap.size := by
  intro k hk
  rcases h with ⟨rfl, _⟩ | ⟨g, off, cap, rfl, _, _, hg, _⟩
  · simp [Value.ownBlock] at hk
  · simp [Value.ownBlock] at hk
    omega
theorem RowQ.same (h : RowQ w v l) (hs : w.heap.size ≤ w'.heap.size) (hb : ∀ k, v.ownBlock = some k → w'.heap[k]? = w.heap[k]?) : RowQ w' v l := by
  rcases h with h | ⟨g, off, cap, rfl, h1, h2, h3, h4, h5⟩
  · exact .inl h
  · have hg := hb g rfl
    have hc : ∀ o, w'.cell? ⟨g, o, none⟩ = w.cell? ⟨g, o, none⟩ := fun o => by simp [World.cell?, hg]
    have hf : ∀ o, w'.frozen? ⟨g, o, none⟩ = w.frozen? ⟨g, o, none⟩ := fun o => by simp [World.frozen?, hg]
    exact .inr ⟨g, off, cap, rfl, h1, h2, by omega, fun j hj => by rw [hc, hf]; exact h4 j hj, fun j hj => by rw [hc]; exact h5 j hj⟩
theorem RowQ.keeps {S : Nat → Prop} (h : RowQ w v l) (k : Keeps S w w') (hn : ∀ i, v.ownBlock = some i → ¬ S i) : RowQ w' v l :=
  h.same k.size fun i hi => k.2.2.2.2 i (h.lt i hi) (hn i hi)
theorem RowQ.below {B : Nat} (h : RowQ w v l) (k : Below B w w') (hn : ∀ i, v.ownBlock = some i → i < B) : RowQ w' v l :=
  h.same k.size fun i hi => k.block i (hn i hi)
theorem RowQ.drewN (h : RowQ w v l) (n : Nat) : RowQ (w.drewN n) v l := h
theorem RowQ.alloc (h : RowQ w v l) (o : Obj) : RowQ (w.alloc o) v l := h.same (by simp) fun k hk => Below.heap_alloc w o k (h.lt k hk)
theorem RowQ.put (h : RowQ w v l) {p : Addr} (hp : v.ownBlock ≠ some p.block) (u : Value) : RowQ (w.setCell p u) v l :=
  h.same (by simp) fun k hk => Below.heap_setCell w p u k (by rintro rfl; exact hp hk)

/-- A new row whose first places hold l. -/
theorem RowQ.new (w : World) (cur : Array Value) (e : TypeId) (cap : Nat) (l : List Value) (hc : cur.size = cap) (hl : l.length ≤ cap) (hm : cap ≤ maxLen) (hp : ∀ j (hj : j < l.length), cur[j]? = some l[j]) :
    RowQ (w.alloc (.cells cur e)) (.slice (some ⟨w.heap.size, 0, none⟩) l.length cap) l := by
  have hb : Blk (w.alloc (.cells cur e)) w.heap.size e cur := Blk.new w e cur
  refine .inr ⟨w.heap.size, 0, cap, rfl, hl, hm, by simp, fun j hj => ⟨?_, hb.free _⟩, fun j hj => ?_⟩
  · rw [hb.cell, Nat.zero_add, Array.getElem?_eq_getElem (by omega)]
    rfl
  · rw [hb.cell, Nat.zero_add]
    exact hp j hj

theorem addr_at (g o j : Nat) : (⟨g, o, none⟩ : Addr).add j = ⟨g, o + j, none⟩ := by unfold Addr.add; split <;> simp_all

/-- What a slice reads as1, for an append of its elements. -/
theorem RowQ.src {P : Program} (h : RowQ w v l) (tx e' : TypeId) (hk : P.underlying tx = some (.slice e')) (h1 : ∀ u ∈ l, u.oneCell' = true) : Src P 1 tx v l.length l w := by
  rcases h with ⟨rfl, rfl⟩ | ⟨g, off, cap, rfl, _, _, _, _, h5⟩
  · exact Src.ofNil w hk 0
  · refine Src.ofSlice w hk _ _ _ _ (by simp) ?_ h1
    intro j u hu
    obtain ⟨hj, rfl⟩ := List.getElem?_eq_some_iff.1 hu
    rw [addr_at]
    exact h5 j hj

/-- append(v, x), v a slice of the call's own. -/
theorem run_push {P : Program} (w : World) (t e ty : TypeId) (i : TypeInfo) (z : Value) (bytes : Nat) (ht : P.underlying t = some (.slice e)) (hi : P.info? e = some i) (hz : i.zero = some z) (hs : i.size = 1) (hby : i.bytes = bytes) (hb16 : bytes ≤ 16) (hzs : z.cells.size = 1)
    (v : Value) (l : List Value) (h : RowQ w v l) (h1 : ∀ u ∈ l, u.oneCell' = true) (xs : Value) (x : Value) (hx : Src P 1 t xs 1 [x] w) (hn : l.length ≤ 1000000) :
    ∃ v' w', (Builtin.append_ #[t, t] ty #[v, xs]).run P w = .ok v' w' ∧ RowQ w' v' (l ++ [x]) ∧ w.grownBy w' v.ownBlock ∧ (v'.ownBlock = v.ownBlock ∨ v'.ownBlock = some w.heap.size) ∧ ∃ A c, v' = .slice A (l.length + 1) c := by
  have hbm : (l.length + 1) * bytes ≤ 140737488355328 := by
    have : (l.length + 1) * bytes ≤ 1000001 * 16 := Nat.mul_le_mul (by omega) hb16
    omega
  have hsrc : Src P i.size t xs 1 [x] w := by rw [hs]; exact hx
  have grown : ∀ (base : Option Addr) (cap : Nat), v = .slice base l.length cap → cap < l.length + 1 → ∃ v' w', (Builtin.append_ #[t, t] ty #[v, xs]).run P w = .ok v' w' ∧ RowQ w' v' (l ++ [x]) ∧ w.grownBy w' v.ownBlock ∧ (v'.ownBlock = v.ownBlock ∨ v'.ownBlock = some w.heap.size) ∧ ∃ A c, v' = .slice A (l.length + 1) c := by
    intro base cap hv hcap
    have hold := ((h.drewN 1).src (P := P) t e ht h1).cells
    have hm : l.length + 1 ≤ maxLen := by unfold maxLen; omega
    have hge := grownCap_ge w (l.length + 1) cap e
    have hcm := grownCap_le_maxLen w (l.length + 1) cap e hm
    rw [hv] at hold
    have hr := run_append_grow_src (P := P) w t t ty e i z ht hi hz base l.length cap l (by rw [hs]; exact hold) xs 1 [x] hsrc hcap (by omega) (by rw [hby]; exact growslice_fits hcap hbm)
    have hlen : (l ++ [x]).length = l.length + 1 := by simp
    rw [hv]
    refine ⟨_, _, hr, ?_, ⟨rfl, rfl, rfl, by simp, fun k hk _ => Below.heap_alloc w.drew _ k hk⟩, .inr rfl, _, _, rfl⟩
    have := RowQ.new w.drew ((l ++ [x]).toArray ++ Builtin.zeroCells z.cells (grownCap w (l.length + 1) cap e - (l.length + 1))) e (grownCap w (l.length + 1) cap e) (l ++ [x]) (by
      simp only [Array.size_append, List.size_toArray, size_zeroCells, hzs, hlen]
      omega) (by rw [hlen]; exact hge) hcm (by
      intro j hj
      rw [Array.getElem?_append_left (by simpa using hj)]
      simp only [List.getElem?_toArray]
      exact List.getElem?_eq_getElem hj)
    rw [hlen] at this
    exact this
  rcases h with ⟨rfl, rfl⟩ | ⟨g, off, cap, rfl, h2, h3, h4, h5, h6⟩
  · exact grown none 0 rfl (by simp)
  · by_cases hroom : l.length + 1 ≤ cap
    · have hr := run_append_room_src (P := P) w t t ty e i ht hi g off l.length cap xs 1 [x] hsrc hroom (by
        intro j hj
        simp at hj
        subst hj
        rw [hs, Nat.mul_one]
        exact (h5 l.length (by omega)).1) (by
        intro j hj
        simp at hj
        subst hj
        rw [hs, Nat.mul_one]
        exact (h5 l.length (by omega)).2)
      rw [hs, Nat.mul_one] at hr
      refine ⟨_, _, hr, .inr ⟨g, off, cap, by simp, by simpa using hroom, h3, ?_, ?_, ?_⟩, only_cells _ _ _ _, .inl rfl, _, _, rfl⟩
      · rw [(setCells_at g [x] (off + l.length) w).2.2.2.1]
        exact h4
      · intro j hj
        rw [World.frozen?_setCells]
        refine ⟨?_, (h5 j hj).2⟩
        by_cases e1 : j = l.length
        · subst e1
          have := World.cell?_setCells_in g [x] (off + l.length) w (by intro k hk; simp at hk; subst hk; exact (h5 l.length (by omega)).1) 0 (by simp)
          rw [Nat.add_zero] at this
          rw [this]
          rfl
        · rw [World.cell?_setCells_out g [x] (off + l.length) w _ (by intro _ _; simp; omega)]
          exact (h5 j hj).1
      · intro j hj
        by_cases e1 : j = l.length
        · subst e1
          have := World.cell?_setCells_in g [x] (off + l.length) w (by intro k hk; simp at hk; subst hk; exact (h5 l.length (by omega)).1) 0 (by simp)
          rw [Nat.add_zero] at this
          rw [this]
          simp
        · have hj' : j < l.length := by simp at hj; omega
          rw [World.cell?_setCells_out g [x] (off + l.length) w _ (by intro _ _; simp; omega), h6 j hj', List.getElem_append_left hj']
    · exact grown _ cap rfl (by omega)

/-- append(e, v...), e an empty slice that is not nil and has no room. -/
theorem run_all {P : Program} (w : World) (t e ty : TypeId) (i : TypeInfo) (z : Value) (bytes : Nat) (ht : P.underlying t = some (.slice e)) (hi : P.info? e = some i) (hz : i.zero = some z) (hs : i.size = 1) (hby : i.bytes = bytes) (hb16 : bytes ≤ 16) (hzs : z.cells.size = 1)
    (v : Value) (l : List Value) (h : RowQ w v l) (h1 : ∀ u ∈ l, u.oneCell' = true) (hn : l.length ≤ 1000000) (a : Nat) (ha : a < w.heap.size) :
    ∃ v' w', (Builtin.append_ #[t, t] ty #[.slice (some ⟨a, 0, none⟩) 0 0, v]).run P w = .ok v' w' ∧ RowQ w' v' l ∧ Below w.heap.size w w' ∧ (v'.ownBlock = some a ∨ v'.ownBlock = some w.heap.size) ∧ ∃ A c, v' = .slice (some A) l.length c := by
  have hsrc : Src P i.size t v l.length l w := by rw [hs]; exact h.src t e ht h1
  by_cases h0 : l = []
  · subst h0
    have hr := run_append_nothing (P := P) w t t ty e i ht hi (some ⟨a, 0, none⟩) 0 0 (Nat.le_refl _) v hsrc
    refine ⟨_, _, hr, .inr ⟨a, 0, 0, rfl, by simp, by simp [maxLen], ha, fun j hj => absurd hj (by omega), fun j hj => absurd hj (by simp)⟩, Below.refl _ _, .inl rfl, _, _, rfl⟩
  · have hpos : 0 < l.length := List.length_pos_iff.2 h0
    have hbm : l.length * bytes ≤ 140737488355328 := by
      have : l.length * bytes ≤ 1000000 * 16 := Nat.mul_le_mul hn hb16
      omega
    have hm : l.length ≤ maxLen := by unfold maxLen; omega
    have hge := grownCap_ge w (0 + l.length) 0 e
    have hcm := grownCap_le_maxLen w (0 + l.length) 0 e (by simpa using hm)
    have hold := run_firstCells_some (P := P) w.drew i.size 0 ⟨a, 0, none⟩ 0 0 [] (by simp) (by intro j u hu; cases hu)
    have hr := run_append_grow_src (P := P) w t t ty e i z ht hi hz (some ⟨a, 0, none⟩) 0 0 [] hold v l.length l hsrc (by omega) (by omega) (by rw [hby]; exact growslice_fits (by omega) (by simpa using hbm))
    rw [Nat.zero_add] at hr hge hcm
    refine ⟨_, _, hr, ?_, ⟨rfl, rfl, rfl, by simp, fun k hk => Below.heap_alloc w.drew _ k hk⟩, .inr rfl, _, _, rfl⟩
    exact RowQ.new w.drew _ e _ l (by
      simp only [Array.size_append, List.size_toArray, size_zeroCells, hzs, List.nil_append]
      omega) hge hcm (by
      intro j hj
      rw [Array.getElem?_append_left (by simpa using hj)]
      simp only [List.getElem?_toArray, List.nil_append]
      exact List.getElem?_eq_getElem hj)

/-- The first n elements of a slice are cleared: what is left behind them. -/
theorem RowQ.cleared {g off cap n : Nat} (z : Value) (h2 : l.length ≤ cap) (h3 : cap ≤ maxLen) (h4 : g < w.heap.size)
    (h5 : ∀ j, j < cap → (w.cell? ⟨g, off + j, none⟩).isSome = true ∧ w.frozen? ⟨g, off + j, none⟩ = false) (h6 : ∀ j (hj : j < l.length), w.cell? ⟨g, off + j, none⟩ = some l[j]) (hn : n ≤ l.length) :
    RowQ (w.setCells g off (List.replicate n z)) (.slice (some ⟨g, off + n, none⟩) (l.length - n) (cap - n)) (l.drop n) := by
  refine .inr ⟨g, off + n, cap - n, by simp, by simp; omega, by omega, by rw [(setCells_at g _ off w).2.2.2.1]; exact h4, fun j hj => ?_, fun j hj => ?_⟩
  · rw [World.frozen?_setCells, World.cell?_setCells_out g _ off w _ (by intro _ _; simp), Nat.add_assoc]
    exact h5 (n + j) (by omega)
  · have hj' : n + j < l.length := by simp at hj; omega
    rw [World.cell?_setCells_out g _ off w _ (by intro _ _; simp), Nat.add_assoc, h6 (n + j) hj', List.getElem_drop]
theorem RowQ.empty {g : Nat} (o : Nat) (hg : g < w.heap.size) : RowQ w (.slice (some ⟨g, o, none⟩) 0 0) [] :=
  .inr ⟨g, o, 0, rfl, by simp, by simp [maxLen], hg, fun j hj => absurd hj (by omega), fun j hj => absurd hj (by simp)⟩
/-- The first n elements of a slice, as1 a slice. -/
theorem RowQ.first {g off cap n : Nat} (h2 : l.length ≤ cap) (h3 : cap ≤ maxLen) (h4 : g < w.heap.size)
    (h5 : ∀ j, j < cap → (w.cell? ⟨g, off + j, none⟩).isSome = true ∧ w.frozen? ⟨g, off + j, none⟩ = false) (h6 : ∀ j (hj : j < l.length), w.cell? ⟨g, off + j, none⟩ = some l[j]) (hn : n ≤ l.length) :
    RowQ w (.slice (some ⟨g, off, none⟩) n cap) (l.take n) := by
  have hl : (l.take n).length = n := by simp; omega
  refine .inr ⟨g, off, cap, by rw [hl], by omega, h3, h4, h5, fun j hj => ?_⟩
  rw [h6 j (by omega), List.getElem_take]
/-- What is behind the first n elements of a slice, as1 a slice. -/
theorem RowQ.rest {g off cap n : Nat} (h2 : l.length ≤ cap) (h3 : cap ≤ maxLen) (h4 : g < w.heap.size)
    (h5 : ∀ j, j < cap → (w.cell? ⟨g, off + j, none⟩).isSome = true ∧ w.frozen? ⟨g, off + j, none⟩ = false) (h6 : ∀ j (hj : j < l.length), w.cell? ⟨g, off + j, none⟩ = some l[j]) (hn : n ≤ l.length) :
    RowQ w (.slice (some ⟨g, off + n, none⟩) (l.length - n) (cap - n)) (l.drop n) := by
  refine .inr ⟨g, off + n, cap - n, by simp, by simp; omega, by omega, h4, fun j hj => ?_, fun j hj => ?_⟩
  · rw [Nat.add_assoc]
    exact h5 (n + j) (by omega)
  · have hj' : n + j < l.length := by simp at hj; omega
    rw [Nat.add_assoc, h6 (n + j) hj', List.getElem_drop]
end

section
variable {P : Program} {w : World} {ops : Array Oper} {rest : List Oper} {o : Oper} {a : Act} {Q : Exit → Act → World → Prop}
/-- append, at the operation, where its run is known. -/
theorem wpList_append_eq (hgd : o.guard = none) (s x : Operand) (t : TypeId) (ho : o.op = .call { callee := .builtin .append, args := #[s, x], argTypes := #[t, t] })
    {v xs v' : Value} {w' : World} (hr : (Builtin.append_ #[t, t] o.type #[v, xs]).run P w = .ok v' w') (hs : a.eval s = v) (hx : a.eval x = xs) (h : wpList P ops Q rest (a.put o.dst v') w') : wpList P ops Q (o :: rest) a w := by
  refine wpList_plain hgd fun K hK => ?_
  unfold Oper.wp execOp
  simp only [ho, resolve, invoke, builtin, Sem.run_bind, Sem.run_pure, Result.andThen_ok, List.map_toArray, List.map_cons, List.map_nil, hs, hx, hr]
  exact hK _ _ h
/-- clear, at the operation, where its run is known. -/
theorem wpList_clear_eq (hgd : o.guard = none) (s : Operand) (t : TypeId) (ho : o.op = .call { callee := .builtin .clear, args := #[s], argTypes := #[t] })
    {v v' : Value} {w' : World} (hr : (Builtin.clear_ #[t] o.type #[v]).run P w = .ok v' w') (hs : a.eval s = v) (h : wpList P ops Q rest (a.put o.dst v') w') : wpList P ops Q (o :: rest) a w := by
  refine wpList_plain hgd fun K hK => ?_
  unfold Oper.wp execOp
  simp only [ho, resolve, invoke, builtin, Sem.run_bind, Sem.run_pure, Result.andThen_ok, List.map_toArray, List.map_cons, List.map_nil, hs, hr]
  exact hK _ _ h
end

/-- A queue, or the document's, lies in block b: its things, its limit, its drops. -/
def Que (w : World) (b : Nat) (T : TypeId) (v : Value) (l : List Value) (lim : Nat) (dr : Nat) : Prop :=
  Blk w b T #[v, .int .i64 lim, .int .i64 dr] ∧ RowQ w v l ∧ v.ownBlock ≠ some b
/-- Its blocks. -/
def OwnQ (b : Nat) (v : Value) (i : Nat) : Prop := i = b ∨ v.ownBlock = some i
theorem Que.lt {w : World} {b : Nat} {T : TypeId} {v : Value} {l : List Value} {lim dr : Nat} (h : Que w b T v l lim dr) : ∀ i, OwnQ b v i → i < w.heap.size := by
  rintro i (rfl | hi)
  · exact h.1.lt
  · exact h.2.1.lt i hi
theorem Que.keeps {w w' : World} {b : Nat} {T : TypeId} {v : Value} {l : List Value} {lim dr : Nat} {S : Nat → Prop} (h : Que w b T v l lim dr) (k : Keeps S w w') (hn : ∀ i, OwnQ b v i → ¬ S i) : Que w' b T v l lim dr :=
  ⟨h.1.keeps k (hn b (.inl rfl)), h.2.1.keeps k fun i hi => hn i (.inr hi), h.2.2⟩
/-- What a call that writes a queue leaves. -/
def QueN (w : World) (b : Nat) (T : TypeId) (v : Value) (lim : Nat) (w' : World) (l' : List Value) (dr' : Nat) : Prop :=
  ∃ v', Que w' b T v' l' lim dr' ∧ Keeps (OwnQ b v) w w' ∧ ∀ i, OwnQ b v' i → OwnQ b v i ∨ w.heap.size ≤ i
end Go.Proofs.Ytecpplaobbkemaa

/- Slices of the call's own, of elements of any size, that move along their rows: what they hold, and what an append, a clearing and a cut do. No program is spoken of here. -/
namespace Go.Proofs.Ytecpplaobbkemaa
open Go.RowKit Go.Lib
set_option linter.unusedVariables false

/-- A slice of n elements of s cells, xs: nil, or in a row that it may write. -/
def RowZ (s : Nat) (w : World) (v : Value) (n : Nat) (xs : List Value) : Prop :=
  xs.length = n * s ∧ ((v = .slice none 0 0 ∧ n = 0) ∨ ∃ g off cap, v = .slice (some ⟨g, off, none⟩) n cap ∧ n ≤ cap ∧ cap ≤ maxLen ∧ g < w.heap.size ∧
    (∀ j, j < cap * s → (w.cell? ⟨g, off + j, none⟩).isSome = true ∧ w.frozen? ⟨g, off + j, none⟩ = false) ∧ ∀ j u, xs[j]? = some u → w.cell? ⟨g, off + j, none⟩ = some u)
section
variable {s : Nat} {w w' : World} {v : Value} {n : Nat} {xs : List Value}
theorem RowZ.nil (s : Nat) (w : World) : RowZ s w (.slice none 0 0) 0 [] := ⟨by simp, .inl ⟨rfl, rfl⟩⟩
theorem RowZ.form (h : RowZ s w v n xs) : ∃ A c, v = .slice A n c := by
  rcases h with ⟨_, ⟨rfl, rfl⟩ | ⟨g, off, cap, rfl, _⟩⟩
  · exact ⟨_, _, rfl⟩
  · exact ⟨_, _, rfl⟩
theorem RowZ.lt (h : RowZ s w v n xs) : ∀ k, v.ownBlock = some k → k < w.heap.size := by
  intro k hk
  rcases h with ⟨_, ⟨rfl, _⟩ | ⟨g, off, cap, rfl, _, _, hg, _⟩⟩
  · simp [Value.ownBlock] at hk
  · simp [Value.ownBlock] at hk
    omega
theorem RowZ.same (h : RowZ s w v n xs) (hs : w.heap.size ≤ w'.heap.size) (hb : ∀ k, v.ownBlock = some k → w'.heap[k]? = w.heap[k]?) : RowZ s w' v n xs := by
  rcases h with ⟨hl, h | ⟨g, off, cap, rfl, h1, h2, h3, h4, h5⟩⟩
  · exact ⟨hl, .inl h⟩
  · have hg := hb g rfl
    have hc : ∀ o, w'.cell? ⟨g, o, none⟩ = w.cell? ⟨g, o, none⟩ := fun o => by simp [World.cell?, hg]
    have hf : ∀ o, w'.frozen? ⟨g, o, none⟩ = w.frozen? ⟨g, o, none⟩ := fun o => by simp [World.frozen?, hg]
    exact ⟨hl, .inr ⟨g, off, cap, rfl, h1, h2, by omega, fun j hj => by rw [hc, hf]; exact h4 j hj, fun j u hu => by rw [hc]; exact h5 j u hu⟩⟩
theorem RowZ.keeps {S : Nat → Prop} (h : RowZ s w v n xs) (k : Keeps S w w') (hn : ∀ i, v.ownBlock = some i → ¬ S i) : RowZ s w' v n xs :=
  h.same k.size fun i hi => k.2.2.2.2 i (h.lt i hi) (hn i hi)
theorem RowZ.only {row : Option Nat} (h : RowZ s w v n xs) (k : w.grownBy w' row) (hn : v.ownBlock = none ∨ v.ownBlock ≠ row) : RowZ s w' v n xs :=
  h.same k.size fun i hi => k.block i (h.lt i hi) (fun e => by rcases hn with hn | hn; rw [hn] at hi; cases hi; exact hn (hi.trans e))
theorem RowZ.grown (h : RowZ s w v n xs) (k : w.grownBy w' none) : RowZ s w' v n xs := h.only k (by cases hv : v.ownBlock <;> simp)
theorem RowZ.below {B : Nat} (h : RowZ s w v n xs) (k : Below B w w') (hn : ∀ i, v.ownBlock = some i → i < B) : RowZ s w' v n xs :=
  h.same k.size fun i hi => k.block i (hn i hi)
theorem RowZ.drewN (h : RowZ s w v n xs) (q : Nat) : RowZ s (w.drewN q) v n xs := h
theorem RowZ.alloc (h : RowZ s w v n xs) (o : Obj) : RowZ s (w.alloc o) v n xs := h.same (by simp) fun k hk => Below.heap_alloc w o k (h.lt k hk)
theorem RowZ.put (h : RowZ s w v n xs) {p : Addr} (hp : v.ownBlock ≠ some p.block) (u : Value) : RowZ s (w.setCell p u) v n xs :=
  h.same (by simp) fun k hk => Below.heap_setCell w p u k (by rintro rfl; exact hp hk)
theorem RowZ.len (h : RowZ s w v n xs) : xs.length = n * s := h.1

/-- A new row whose first places hold xs. -/
theorem RowZ.new (w : World) (cur : Array Value) (e : TypeId) (cap : Nat) (hl : xs.length = n * s) (hc : cur.size = cap * s) (hn : n ≤ cap) (hm : cap ≤ maxLen) (hp : ∀ (j : Nat) (u : Value), xs[j]? = some u → cur[j]? = some u) :
    RowZ s (w.alloc (.cells cur e)) (.slice (some ⟨w.heap.size, 0, none⟩) n cap) n xs := by
  have hb : Blk (w.alloc (.cells cur e)) w.heap.size e cur := Blk.new w e cur
  refine ⟨hl, .inr ⟨w.heap.size, 0, cap, rfl, hn, hm, by simp, fun j hj => ⟨?_, hb.free _⟩, fun j u hu => ?_⟩⟩
  · rw [hb.cell, Nat.zero_add, Array.getElem?_eq_getElem (by omega)]
    rfl
  · rw [hb.cell, Nat.zero_add]
    exact hp j u hu

/-- What a slice reads as1, for an append of its elements. -/
theorem RowZ.src {P : Program} (h : RowZ s w v n xs) (tx e' : TypeId) (hk : P.underlying tx = some (.slice e')) (h1 : ∀ u ∈ xs, u.oneCell' = true) : Src P s tx v n xs w := by
  rcases h with ⟨hl, ⟨rfl, rfl⟩ | ⟨g, off, cap, rfl, _, _, _, _, h5⟩⟩
  · have : xs = [] := List.eq_nil_of_length_eq_zero (by omega)
    subst this
    exact Src.ofNil w hk 0
  · refine Src.ofSlice w hk _ _ _ _ hl ?_ h1
    intro j u hu
    rw [addr_at]
    exact h5 j u hu

/-- append(v, x), v a slice of the call's own. -/
theorem run_pushZ {P : Program} (w : World) (t e ty : TypeId) (i : TypeInfo) (z : Value) (bytes : Nat) (ht : P.underlying t = some (.slice e)) (hi : P.info? e = some i) (hz : i.zero = some z) (hs : i.size = s) (hby : i.bytes = bytes) (hb16 : bytes ≤ 64) (hzs : z.cells.size = s)
    (v : Value) (n : Nat) (l : List Value) (h : RowZ s w v n l) (h1 : ∀ u ∈ l, u.oneCell' = true) (xs : Value) (x : List Value) (hx : Src P s t xs 1 x w) (hn : n ≤ 1000000) :
    ∃ v' w', (Builtin.append_ #[t, t] ty #[v, xs]).run P w = .ok v' w' ∧ RowZ s w' v' (n + 1) (l ++ x) ∧ w.grownBy w' v.ownBlock ∧ (v'.ownBlock = v.ownBlock ∨ v'.ownBlock = some w.heap.size) := by
  have hxl : x.length = s := by have := hx.newsLen; omega
  have hlx : (l ++ x).length = (n + 1) * s := by rw [List.length_append, h.1, hxl, Nat.add_mul, Nat.one_mul]
  have hbm : (n + 1) * bytes ≤ 140737488355328 := by
    have : (n + 1) * bytes ≤ 1000001 * 64 := Nat.mul_le_mul (by omega) hb16
    omega
  have hsrc : Src P i.size t xs 1 x w := by rw [hs]; exact hx
  have grown : ∀ (base : Option Addr) (cap : Nat), v = .slice base n cap → cap < n + 1 → ∃ v' w', (Builtin.append_ #[t, t] ty #[v, xs]).run P w = .ok v' w' ∧ RowZ s w' v' (n + 1) (l ++ x) ∧ w.grownBy w' v.ownBlock ∧ (v'.ownBlock = v.ownBlock ∨ v'.ownBlock = some w.heap.size) := by
    intro base cap hv hcap
    have hold := ((h.drewN 1).src (P := P) t e ht h1).cells
    have hm : n + 1 ≤ maxLen := by unfold maxLen; omega
    have hge := grownCap_ge w (n + 1) cap e
    have hcm := grownCap_le_maxLen w (n + 1) cap e hm
    rw [hv] at hold
    have hr := run_append_grow_src (P := P) w t t ty e i z ht hi hz base n cap l (by rw [hs]; exact hold) xs 1 x hsrc hcap (by omega) (by rw [hby]; exact growslice_fits hcap hbm)
    rw [hv]
    refine ⟨_, _, hr, ?_, ⟨rfl, rfl, rfl, by simp, fun k hk _ => Below.heap_alloc w.drew _ k hk⟩, .inr rfl⟩
    refine RowZ.new w.drew _ e _ hlx ?_ hge hcm (fun j u hu => ?_)
    · simp only [Array.size_append, List.size_toArray, size_zeroCells, hzs, hlx]
      rw [← Nat.add_mul]
      congr 1
      omega
    · have hj := (List.getElem?_eq_some_iff.1 hu).1
      rw [Array.getElem?_append_left (by simpa using hj)]
      simpa using hu
  rcases h with ⟨hl, ⟨rfl, rfl⟩ | ⟨g, off, cap, rfl, h2, h3, h4, h5, h6⟩⟩
  · exact grown none 0 rfl (by omega)
  · by_cases hroom : n + 1 ≤ cap
    · have hcs : n * s + s ≤ cap * s := by
        have := Nat.mul_le_mul_right s hroom
        rw [Nat.add_mul, Nat.one_mul] at this
        exact this
      have hr := run_append_room_src (P := P) w t t ty e i ht hi g off n cap xs 1 x hsrc hroom (by
        intro j hj
        rw [hs, Nat.add_assoc]
        exact (h5 (n * s + j) (by omega)).1) (by
        intro j hj
        rw [hs, Nat.add_assoc]
        exact (h5 (n * s + j) (by omega)).2)
      rw [hs] at hr
      have hsome : ∀ k, k < x.length → (w.cell? ⟨g, off + n * s + k, none⟩).isSome = true := fun k hk => by
        rw [Nat.add_assoc]
        exact (h5 (n * s + k) (by omega)).1
      refine ⟨_, _, hr, ⟨hlx, .inr ⟨g, off, cap, rfl, hroom, h3, ?_, ?_, ?_⟩⟩, only_cells _ _ _ _, .inl rfl⟩
      · rw [(setCells_at g x (off + n * s) w).2.2.2.1]
        exact h4
      · intro j hj
        rw [World.frozen?_setCells]
        refine ⟨?_, (h5 j hj).2⟩
        by_cases e1 : n * s ≤ j ∧ j < n * s + s
        · have := World.cell?_setCells_in g x (off + n * s) w hsome (j - n * s) (by omega)
          rw [show off + n * s + (j - n * s) = off + j by omega] at this
          rw [this]
          rfl
        · rw [World.cell?_setCells_out g x (off + n * s) w _ (by intro _ _; simp; omega)]
          exact (h5 j hj).1
      · intro j u hu
        by_cases e1 : j < n * s
        · rw [List.getElem?_append_left (by omega)] at hu
          rw [World.cell?_setCells_out g x (off + n * s) w _ (by intro _ _; simp; omega)]
          exact h6 j u hu
        · have hj := (List.getElem?_eq_some_iff.1 hu).1
          rw [List.length_append, hl] at hj
          rw [List.getElem?_append_right (by omega), hl] at hu
          have := World.cell?_setCells_in g x (off + n * s) w hsome (j - n * s) (by omega)
          rw [show off + n * s + (j - n * s) = off + j by omega] at this
          rw [this, ← List.getElem?_eq_getElem]
          exact hu
    · exact grown _ cap rfl (by omega)

/-- clear of the first n > 0 elements of one size. -/
theorem run_clear_sized {P : Program} (w : World) (t e ty : TypeId) (z : Value) (ht : P.underlying t = some (.slice e)) (hv : ∀ w, (zeroValue e).run P w = .ok z w) (b o n c : Nat) (hn : 0 < n) (h1 : ∀ u ∈ (Builtin.zeroCells z.cells n).toList, u.oneCell' = true)
    (hc : ∀ j, j < (Builtin.zeroCells z.cells n).toList.length → (w.cell? ⟨b, o + j, none⟩).isSome = true) (hf : ∀ j, j < (Builtin.zeroCells z.cells n).toList.length → w.frozen? ⟨b, o + j, none⟩ = false) :
    (Builtin.clear_ #[t] ty #[.slice (some ⟨b, o, none⟩) n c]).run P w = .ok (.tuple #[]) (w.setCells b o (Builtin.zeroCells z.cells n).toList) := by
  have hst := run_storeCells_cells (P := P) b o (Builtin.zeroCells z.cells n).toList 0 w (by simpa using hc) (by simpa using hf) h1
  simp only [Nat.add_zero] at hst
  obtain ⟨m, rfl⟩ : ∃ m, n = m + 1 := ⟨n - 1, by omega⟩
  simp [Builtin.clear_, run_underlying ht, hv, hst]

/-- Some first cells were written: what is behind them is as1 it was. -/
theorem RowZ.cleared {g off cap k : Nat} (zs : List Value) (hl : xs.length = n * s) (hz : zs.length = k * s) (h2 : n ≤ cap) (h3 : cap ≤ maxLen) (h4 : g < w.heap.size)
    (h5 : ∀ j, j < cap * s → (w.cell? ⟨g, off + j, none⟩).isSome = true ∧ w.frozen? ⟨g, off + j, none⟩ = false) (h6 : ∀ j u, xs[j]? = some u → w.cell? ⟨g, off + j, none⟩ = some u) (hk : k ≤ n) :
    RowZ s (w.setCells g off zs) (.slice (some ⟨g, off + k * s, none⟩) (n - k) (cap - k)) (n - k) (xs.drop (k * s)) := by
  have hcs : k * s + (cap - k) * s = cap * s := by rw [← Nat.add_mul]; congr 1; omega
  refine ⟨by rw [List.length_drop, hl, Nat.sub_mul], .inr ⟨g, off + k * s, cap - k, rfl, by omega, by omega, by rw [(setCells_at g _ off w).2.2.2.1]; exact h4, fun j hj => ?_, fun j u hu => ?_⟩⟩
  · rw [World.frozen?_setCells, World.cell?_setCells_out g _ off w _ (by intro _ _; simp; omega), Nat.add_assoc]
    exact h5 (k * s + j) (by omega)
  · rw [World.cell?_setCells_out g _ off w _ (by intro _ _; simp; omega), Nat.add_assoc]
    rw [List.getElem?_drop] at hu
    exact h6 _ u hu
theorem RowZ.empty {g : Nat} (s o : Nat) (hg : g < w.heap.size) : RowZ s w (.slice (some ⟨g, o, none⟩) 0 0) 0 [] :=
  ⟨by simp, .inr ⟨g, o, 0, rfl, by omega, by simp [maxLen], hg, fun j hj => absurd hj (by omega), fun j u hu => by simp at hu⟩⟩
end
end Go.Proofs.Ytecpplaobbkemaa
