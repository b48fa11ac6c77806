/- The merge in place: its contract, where the middle is left of the second part. -/
import Derived.Test.YtgineifljofljaaT4
namespace Go.Proofs.Ytgineifljofljaa
open Go.RowKit Go.Lib Go.Sort
set_option linter.unusedVariables false

/-- The merge in place, of parts of fewer than L spans in all. -/
def MergeOK (g n cap L : Nat) : Prop := ∀ (a m b : Nat) (d : Nat → Int × Int) (w : World), b - a < L → RowS w g n cap d → a < m → m < b → b ≤ n → So.Sorted d a m → So.Sorted d m b →
    Calls Try.prog 43 #[.slice (some ⟨g, 0, none⟩) n cap, .int .i64 a, .int .i64 m, .int .i64 b, .func (.func 37) #[] #[]] w fun r w' => r = .returned (.tuple #[]) ∧ SortsTo g n cap a b d w w'

set_option maxRecDepth 100000 in
set_option maxHeartbeats 12800000 in
theorem merge_more (g n cap a m b : Nat) (d : Nat → Int × Int) (w : World) (h : RowS w g n cap d) (ham : a + 1 < m) (hmb : m + 1 < b) (hb : b ≤ n) (hn : n ≤ 1000000) (hs1 : So.Sorted d a m) (hs2 : So.Sorted d m b) (ih : MergeOK g n cap (b - a)) (mid : Nat) (hm1 : 2 * mid ≤ a + b) (hm2 : a + b ≤ 2 * mid + 1) (hside : mid < m) :
    Calls Try.prog 43 #[.slice (some ⟨g, 0, none⟩) n cap, .int .i64 a, .int .i64 m, .int .i64 b, .func (.func 37) #[] #[]] w fun r w' => r = .returned (.tuple #[]) ∧ SortsTo g n cap a b d w w' := by
  unfold MergeOK at ih
  have H := Lib.hid h
  have HS1 := Lib.hid hs1
  have HS2 := Lib.hid hs2
  have IH := Lib.hid ih
  clear h hs1 hs2 ih
  obtain ⟨z, z1, z2, z3⟩ : ∃ z : Int, IntKind.i64.wrap ((m : Int) - (a : Int)) = z ∧ ¬ z = 1 ∧ (z == 1) = false := by
    have h : IntKind.i64.wrap ((m : Int) - (a : Int)) = (m : Int) - (a : Int) := by rw [IntKind.wrap_i64]; omega
    refine ⟨_, rfl, ?_, ?_⟩
    · rw [h]; omega
    · rw [h, beq_eq_false_iff_ne]; omega
  obtain ⟨y, y1, y2, y3⟩ : ∃ y : Int, IntKind.i64.wrap ((b : Int) - (m : Int)) = y ∧ ¬ y = 1 ∧ (y == 1) = false := by
    have h : IntKind.i64.wrap ((b : Int) - (m : Int)) = (b : Int) - (m : Int) := by rw [IntKind.wrap_i64]; omega
    refine ⟨_, rfl, ?_, ?_⟩
    · rw [h]; omega
    · rw [h, beq_eq_false_iff_ne]; omega
  have i1 : IntKind.i64.wrap ((a : Int) + (b : Int)) = ((a + b : Nat) : Int) := by rw [IntKind.wrap_i64]; omega
  have i2 : ((a : Int) + (b : Int)) / 2 = (mid : Int) := by omega
  obtain ⟨nn, hnn1, hnn2⟩ : ∃ nn, nn ≤ mid + m ∧ mid + m ≤ nn := ⟨mid + m, by omega, by omega⟩
  have i3 : IntKind.i64.wrap ((mid : Int) + (m : Int)) = (nn : Int) := by rw [IntKind.wrap_i64]; omega
  obtain ⟨p, hp1, hp2⟩ : ∃ p, p + 1 ≤ nn ∧ nn ≤ p + 1 := ⟨nn - 1, by omega, by omega⟩
  have i4 : IntKind.i64.wrap ((nn : Int) - 1) = (p : Int) := by rw [IntKind.wrap_i64]; omega
  obtain ⟨lo, hlo1, hlo2⟩ : ∃ lo, lo + b ≤ nn ∧ nn ≤ lo + b := ⟨nn - b, by omega, by omega⟩
  have i5 : IntKind.i64.wrap ((nn : Int) - (b : Int)) = (lo : Int) := by rw [IntKind.wrap_i64]; omega
  have i6 : (mid : Int) < (m : Int) := by omega
  go_enter Try.func43, Try.ntmps43
  go_wp2
  go_loopw [20, 21] (fun x y wr => ∃ (s r : Nat), x = .int .i64 s ∧ y = .int .i64 r ∧ lo ≤ s ∧ s ≤ r ∧ r ≤ mid ∧ Hid (∀ c, lo ≤ c → c < s → ¬ So.lt (d (p - c)) (d c)) ∧ Hid (∀ c, r ≤ c → c < mid → So.lt (d (p - c)) (d c)) ∧ RowS wr g n cap d ∧ w.grownBy wr (some g)) (fun x y _ => (intOf y).toNat - (intOf x).toNat)
  case atStart => exact ⟨lo, mid, rfl, rfl, by omega, by omega, by omega, Lib.hid (by omega), Lib.hid (by omega), H.out, only_refl _ _⟩
  case round =>
    obtain ⟨s, r, rfl, rfl, hlos, hsr, hrhi, HL, HU, hR, hg⟩ := hrel
    have HR := Lib.hid hR
    have HG := Lib.hid hg
    clear hR hg
    by_cases hlt : s < r
    · obtain ⟨k, hk⟩ : ∃ k, k = (s + r) / 2 := ⟨_, rfl⟩
      have j3 : IntKind.i64.wrap ((s : Int) + (r : Int)) = ((s + r : Nat) : Int) := by rw [IntKind.wrap_i64]; omega
      have j4 : (s : Int) < (r : Int) := by omega
      have j5 : ((s : Int) + (r : Int)) / 2 = (k : Int) := by omega
      have hik : s ≤ k := by omega
      have hkj : k < r := by omega
      clear hk
      obtain ⟨pc, hpc1, hpc2⟩ : ∃ pc, pc + k ≤ p ∧ p ≤ pc + k := ⟨p - k, by omega, by omega⟩
      have j6 : IntKind.i64.wrap ((p : Int) - (k : Int)) = (pc : Int) := by rw [IntKind.wrap_i64]; omega
      have hpm : m ≤ pc := by omega
      have hpb : pc < b := by omega
      have j7 : (k : Int) < (n : Int) := by omega
      have j8 : (pc : Int) < (n : Int) := by omega
      have c0 := HR.out.fst (show pc < n by omega)
      have c1 := HR.out.snd (show pc < n by omega)
      have c2 := HR.out.fst (show k < n by omega)
      have c3 := HR.out.snd (show k < n by omega)
      obtain ⟨x, hx⟩ : ∃ x, x = d pc := ⟨_, rfl⟩
      obtain ⟨v, hv⟩ : ∃ v, v = d k := ⟨_, rfl⟩
      rw [← hx] at c0 c1
      rw [← hv] at c2 c3
      have HX := Lib.hid hx
      have HV := Lib.hid hv
      clear hx hv
      have hc := So.cmpS_neg x v
      obtain ⟨c, hcc⟩ : ∃ c, c = So.cmpS x v := ⟨_, rfl⟩
      have hcall := fun W => cmp_any x v W
      simp only [← hcc] at hcall
      rw [← hcc] at hc
      have HCALL := Lib.hid hcall
      have HC := Lib.hid hc
      clear hcall hc hcc
      have k0 := fun d os => cell_regrown c0 d os
      have k1 := fun d os => cell_regrown c1 d os
      have k2 := fun d os => cell_regrown c2 d os
      have k3 := fun d os => cell_regrown c3 d os
      clear c0 c1 c2 c3
      go_wp2
      refine wp_region_quiet_below (by kernel_rfl) (by kernel_rfl) ?_
      repeat (quiet_step ((go_at_call 37; exact Calls.regrown_of ((HCALL.out _).mono fun _ _ ⟨h1, h2⟩ => ⟨h1, below_of_only h2 (Nat.le_refl _) (by simp)⟩))))
      refine wpQuiet_nil ?_
      rintro _ ⟨⟨dq, osq⟩, rfl⟩
      have hb2 := below_regrown wr dq osq
      generalize grow (redrawn wr dq) osq = w2 at hb2 ⊢
      have HR2 := Lib.hid (HR.out.below hb2)
      have HG2 := Lib.hid (only_trans HG.out (only_any ⟨hb2.os, hb2.tape, hb2.output, hb2.size, fun i hi _ => hb2.block i hi⟩ (some g)))
      clear hb2 HR HG k0 k1 k2 k3
      by_cases hcn : c < 0
      · have hl := HC.out.1 hcn
        rw [HX.out, HV.out] at hl
        go_wp2
        all_goals first
          | (exfalso; rename_i hh; simp [hcn] at hh; done)
          | skip
        go_roundw
        case rel =>
          refine ⟨s, k, rfl, rfl, hlos, by omega, by omega, HL, Lib.hid fun q h1 h2 => ?_, HR2.out, HG2.out⟩
          have hl2 : So.lt (d (mid + m - 1 - k)) (d k) := by rw [show mid + m - 1 - k = pc by omega]; exact hl
          have := So.cut_mono HS1.out HS2.out h1 (show a ≤ k by omega) (show q < m by omega) (show m ≤ mid + m - 1 - q by omega) (show mid + m - 1 - k < b by omega) (show q ≤ mid + m - 1 by omega) hl2
          rwa [show mid + m - 1 - q = p - q by omega] at this
        case measure => simp [intOf] <;> omega
      · have hl : ¬ So.lt x v := fun h => absurd (HC.out.2 h) hcn
        rw [HX.out, HV.out] at hl
        go_wp2
        all_goals first
          | (exfalso; rename_i hh; simp [hcn] at hh; done)
          | skip
        go_roundw
        case rel =>
          refine ⟨k + 1, r, by go_num, rfl, by omega, by omega, hrhi, Lib.hid fun q h1 h2 hx => ?_, HU, HR2.out, HG2.out⟩
          apply hl
          have hx2 : So.lt (d (mid + m - 1 - q)) (d q) := by rw [show mid + m - 1 - q = p - q by omega]; exact hx
          have := So.cut_mono HS1.out HS2.out (show q ≤ k by omega) (show a ≤ q by omega) (show k < m by omega) (show m ≤ mid + m - 1 - k by omega) (show mid + m - 1 - q < b by omega) (show k ≤ mid + m - 1 by omega) hx2
          rwa [show mid + m - 1 - k = pc by omega] at this
        case measure => simp [intOf] <;> omega
    · obtain rfl : s = r := by omega
      have hcut : So.Cut d a m b mid s := by
        refine So.Cut.of_more HS1.out HS2.out (by omega) (by omega) (by omega) hside (by omega) (by omega) (fun c h1 h2 => ?_) (fun c h1 h2 => ?_)
        · rw [show mid + m - 1 - c = p - c by omega]; exact HL.out c (by omega) (by omega)
        · rw [show mid + m - 1 - c = p - c by omega]; exact HU.out c (by omega) (by omega)
      obtain ⟨e, he1, he2⟩ : ∃ e, e ≤ mid + m - s ∧ mid + m - s ≤ e := ⟨_, Nat.le_refl _, Nat.le_refl _⟩
      have j1 : IntKind.i64.wrap ((nn : Int) - (s : Int)) = (e : Int) := by rw [IntKind.wrap_i64]; omega
      have g1 := hcut.as
      have g2 := hcut.sm
      have g3 := hcut.smid
      have g4 : e ≤ b := by have := hcut.eb; omega
      have ee : mid + m - s = e := by omega
      have a1 := hcut.left1 HS1.out
      have a2 := hcut.left2 HS2.out
      have a3 := hcut.right1 HS1.out
      have a4 := hcut.right2 HS2.out
      have a5 : ∀ p q, a ≤ p → p < mid → mid ≤ q → q < b → So.le (So.rot d s m (mid + m - s) p) (So.rot d s m (mid + m - s) q) := fun p q h1 h2 h3 h4 => hcut.apart HS1.out HS2.out h1 h2 h3 h4
      have a6 : So.Perm a b d (So.rot d s m (mid + m - s)) := So.Perm.rotAll g1 g2 (by omega) (by omega)
      rw [ee] at a1 a2 a3 a4 a5 a6
      have a7 : ¬ (s < m ∧ m < e) → So.rot d s m e = d := fun h => by
        by_cases q : s < m
        · rw [show e = m by omega]; exact So.rot_left _ _ _
        · rw [show s = m by omega]; exact So.rot_right _ _ _
      obtain ⟨t, ht⟩ : ∃ t, t = So.rot d s m e := ⟨_, rfl⟩
      rw [← ht] at a1 a2 a3 a4 a5 a6 a7
      have A1 := Lib.hid a1
      have A2 := Lib.hid a2
      have A3 := Lib.hid a3
      have A4 := Lib.hid a4
      have A5 := Lib.hid a5
      have A6 := Lib.hid a6
      have A7 := Lib.hid a7
      have HT := Lib.hid ht
      clear hcut ee a1 a2 a3 a4 a5 a6 a7 ht HL HU HS1 HS2
      by_cases h1 : s < m ∧ m < e
      · by_cases h2 : a < s ∧ s < mid
        · by_cases h3 : mid < e ∧ e < b
          · go_wp2_with (first | (go_at_call 44; refine (rotate_any g n cap s m e d _ HR.out h1.1 h1.2 (by omega) (by omega)).mono ?_; rintro x w1 ⟨rfl, hr1, hg1⟩; rw [← HT.out] at hr1; have HR1 := Lib.hid hr1; have HG1 := Lib.hid (only_trans HG.out hg1); clear hr1 hg1) | (go_at_call 43; ((with_reducible refine (IH.out a s mid t _ (by omega) HR1.out h2.1 h2.2 (by omega) A1.out A2.out).mono ?_)); rintro x w2 ⟨rfl, f, p1, s1, r1, y1⟩; have P1 := Lib.hid p1; have S1 := Lib.hid s1; have R1 := Lib.hid r1; have G1 := Lib.hid (only_trans HG1.out y1); clear p1 s1 r1 y1) | (go_at_call 43; ((with_reducible refine (IH.out mid e b f _ (by omega) R1.out h3.1 h3.2 (by omega) (A3.out.kept P1.out (by omega)) (A4.out.kept P1.out (by omega))).mono ?_)); rintro x w3 ⟨rfl, u, p2, s2, r2, y2⟩; have P2 := Lib.hid p2; have S2 := Lib.hid s2; have R2 := Lib.hid r2; have G2 := Lib.hid (only_trans G1.out y2); clear p2 s2 r2 y2))
            all_goals
              go_end0
              obtain ⟨q1, q2⟩ := So.halves A5.out P1.out S1.out P2.out S2.out (by omega) (by omega)
              exact ⟨rfl, u, A6.out.trans q1, q2, R2.out, G2.out⟩
          · go_wp2_with (first | (go_at_call 44; refine (rotate_any g n cap s m e d _ HR.out h1.1 h1.2 (by omega) (by omega)).mono ?_; rintro x w1 ⟨rfl, hr1, hg1⟩; rw [← HT.out] at hr1; have HR1 := Lib.hid hr1; have HG1 := Lib.hid (only_trans HG.out hg1); clear hr1 hg1) | (go_at_call 43; ((with_reducible refine (IH.out a s mid t _ (by omega) HR1.out h2.1 h2.2 (by omega) A1.out A2.out).mono ?_)); rintro x w2 ⟨rfl, f, p1, s1, r1, y1⟩; have P1 := Lib.hid p1; have S1 := Lib.hid s1; have R1 := Lib.hid r1; have G1 := Lib.hid (only_trans HG1.out y1); clear p1 s1 r1 y1))
            all_goals
              go_end0
              obtain ⟨q1, q2⟩ := So.halves A5.out P1.out S1.out (So.Perm.refl mid b f) (So.Sorted.cat (A3.out.kept P1.out (by omega)) (A4.out.kept P1.out (by omega)) h3 (by omega) (by omega)) (by omega) (by omega)
              exact ⟨rfl, f, A6.out.trans q1, q2, R1.out, G1.out⟩
        · by_cases h3 : mid < e ∧ e < b
          · have P1 : Hid (So.Perm a mid t t) := Lib.hid (So.Perm.refl _ _ _)
            have S1 : Hid (So.Sorted t a mid) := Lib.hid (So.Sorted.cat A1.out A2.out h2 (by omega) (by omega))
            go_wp2_with (first | (go_at_call 44; refine (rotate_any g n cap s m e d _ HR.out h1.1 h1.2 (by omega) (by omega)).mono ?_; rintro x w1 ⟨rfl, hr1, hg1⟩; rw [← HT.out] at hr1; have HR1 := Lib.hid hr1; have HG1 := Lib.hid (only_trans HG.out hg1); clear hr1 hg1; have R1 := HR1; have G1 := HG1) | (go_at_call 43; ((with_reducible refine (IH.out mid e b t _ (by omega) R1.out h3.1 h3.2 (by omega) (A3.out.kept P1.out (by omega)) (A4.out.kept P1.out (by omega))).mono ?_)); rintro x w3 ⟨rfl, u, p2, s2, r2, y2⟩; have P2 := Lib.hid p2; have S2 := Lib.hid s2; have R2 := Lib.hid r2; have G2 := Lib.hid (only_trans G1.out y2); clear p2 s2 r2 y2))
            all_goals
              go_end0
              obtain ⟨q1, q2⟩ := So.halves A5.out P1.out S1.out P2.out S2.out (by omega) (by omega)
              exact ⟨rfl, u, A6.out.trans q1, q2, R2.out, G2.out⟩
          · have P1 : Hid (So.Perm a mid t t) := Lib.hid (So.Perm.refl _ _ _)
            have S1 : Hid (So.Sorted t a mid) := Lib.hid (So.Sorted.cat A1.out A2.out h2 (by omega) (by omega))
            go_wp2_with (first | (go_at_call 44; refine (rotate_any g n cap s m e d _ HR.out h1.1 h1.2 (by omega) (by omega)).mono ?_; rintro x w1 ⟨rfl, hr1, hg1⟩; rw [← HT.out] at hr1; have HR1 := Lib.hid hr1; have HG1 := Lib.hid (only_trans HG.out hg1); clear hr1 hg1; have R1 := HR1; have G1 := HG1))
            all_goals
              go_end0
              obtain ⟨q1, q2⟩ := So.halves A5.out P1.out S1.out (So.Perm.refl mid b t) (So.Sorted.cat (A3.out.kept P1.out (by omega)) (A4.out.kept P1.out (by omega)) h3 (by omega) (by omega)) (by omega) (by omega)
              exact ⟨rfl, t, A6.out.trans q1, q2, R1.out, G1.out⟩
      · by_cases h2 : a < s ∧ s < mid
        · by_cases h3 : mid < e ∧ e < b
          · have HR1 : Hid (RowS wr g n cap t) := Lib.hid (by rw [A7.out h1]; exact HR.out)
            have HG1 := HG
            go_wp2_with (first | (go_at_call 43; ((with_reducible refine (IH.out a s mid t _ (by omega) HR1.out h2.1 h2.2 (by omega) A1.out A2.out).mono ?_)); rintro x w2 ⟨rfl, f, p1, s1, r1, y1⟩; have P1 := Lib.hid p1; have S1 := Lib.hid s1; have R1 := Lib.hid r1; have G1 := Lib.hid (only_trans HG1.out y1); clear p1 s1 r1 y1) | (go_at_call 43; ((with_reducible refine (IH.out mid e b f _ (by omega) R1.out h3.1 h3.2 (by omega) (A3.out.kept P1.out (by omega)) (A4.out.kept P1.out (by omega))).mono ?_)); rintro x w3 ⟨rfl, u, p2, s2, r2, y2⟩; have P2 := Lib.hid p2; have S2 := Lib.hid s2; have R2 := Lib.hid r2; have G2 := Lib.hid (only_trans G1.out y2); clear p2 s2 r2 y2))
            all_goals
              go_end0
              obtain ⟨q1, q2⟩ := So.halves A5.out P1.out S1.out P2.out S2.out (by omega) (by omega)
              exact ⟨rfl, u, A6.out.trans q1, q2, R2.out, G2.out⟩
          · have HR1 : Hid (RowS wr g n cap t) := Lib.hid (by rw [A7.out h1]; exact HR.out)
            have HG1 := HG
            go_wp2_with (first | (go_at_call 43; ((with_reducible refine (IH.out a s mid t _ (by omega) HR1.out h2.1 h2.2 (by omega) A1.out A2.out).mono ?_)); rintro x w2 ⟨rfl, f, p1, s1, r1, y1⟩; have P1 := Lib.hid p1; have S1 := Lib.hid s1; have R1 := Lib.hid r1; have G1 := Lib.hid (only_trans HG1.out y1); clear p1 s1 r1 y1))
            all_goals
              go_end0
              obtain ⟨q1, q2⟩ := So.halves A5.out P1.out S1.out (So.Perm.refl mid b f) (So.Sorted.cat (A3.out.kept P1.out (by omega)) (A4.out.kept P1.out (by omega)) h3 (by omega) (by omega)) (by omega) (by omega)
              exact ⟨rfl, f, A6.out.trans q1, q2, R1.out, G1.out⟩
        · by_cases h3 : mid < e ∧ e < b
          · have HR1 : Hid (RowS wr g n cap t) := Lib.hid (by rw [A7.out h1]; exact HR.out)
            have HG1 := HG
            have P1 : Hid (So.Perm a mid t t) := Lib.hid (So.Perm.refl _ _ _)
            have S1 : Hid (So.Sorted t a mid) := Lib.hid (So.Sorted.cat A1.out A2.out h2 (by omega) (by omega))
            have R1 := HR1
            have G1 := HG1
            go_wp2_with (first | (go_at_call 43; ((with_reducible refine (IH.out mid e b t _ (by omega) R1.out h3.1 h3.2 (by omega) (A3.out.kept P1.out (by omega)) (A4.out.kept P1.out (by omega))).mono ?_)); rintro x w3 ⟨rfl, u, p2, s2, r2, y2⟩; have P2 := Lib.hid p2; have S2 := Lib.hid s2; have R2 := Lib.hid r2; have G2 := Lib.hid (only_trans G1.out y2); clear p2 s2 r2 y2))
            all_goals
              go_end0
              obtain ⟨q1, q2⟩ := So.halves A5.out P1.out S1.out P2.out S2.out (by omega) (by omega)
              exact ⟨rfl, u, A6.out.trans q1, q2, R2.out, G2.out⟩
          · have HR1 : Hid (RowS wr g n cap t) := Lib.hid (by rw [A7.out h1]; exact HR.out)
            have HG1 := HG
            have P1 : Hid (So.Perm a mid t t) := Lib.hid (So.Perm.refl _ _ _)
            have S1 : Hid (So.Sorted t a mid) := Lib.hid (So.Sorted.cat A1.out A2.out h2 (by omega) (by omega))
            have R1 := HR1
            have G1 := HG1
            go_wp2
            all_goals
              go_end0
              obtain ⟨q1, q2⟩ := So.halves A5.out P1.out S1.out (So.Perm.refl mid b t) (So.Sorted.cat (A3.out.kept P1.out (by omega)) (A4.out.kept P1.out (by omega)) h3 (by omega) (by omega)) (by omega) (by omega)
              exact ⟨rfl, t, A6.out.trans q1, q2, R1.out, G1.out⟩
end Go.Proofs.Ytgineifljofljaa
