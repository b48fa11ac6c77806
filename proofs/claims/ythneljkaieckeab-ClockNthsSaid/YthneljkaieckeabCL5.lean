/- Nth: its contract, for frames of up to 60 ticks. -/
import Derived.Test.YthneljkaieckeabCL4
import Derived.Test.YthneljkaieckeabU4
import Derived.WalkMore
namespace Go.Proofs.Ythneljkaieckeab
open Go.RowKit Go.Lib Go.Sort
set_option linter.unusedVariables false

/-- What Nth answers. -/
def NthV (t n f : Int) (len : Nat) (d : Nat → Int × Int) (w : World) (e : Ending) (w' : World) : Prop :=
  ∃ r : Int, e = .returned (.int .i64 r) ∧ Below w.heap.size w w' ∧ ∃ p : Int → Bool, ∃ E : Int, (∀ x, p x = (rightB f && decide (0 ≤ x ∧ x < f) && inN d x len)) ∧ E = cnt p f.toNat ∧
    ((r = -1 ∧ (E = 0 ∨ n < 1 ∨ 65536 < n ∨ t < 0 ∨ 2147483647 < t)) ∨ (1 ≤ n ∧ n ≤ 65536 ∧ 0 ≤ t ∧ t ≤ 2147483647 ∧ 1 ≤ E ∧ 0 ≤ r ∧ r ≤ 200000000000 ∧ p (r % f) = true ∧ gT p f E r = gT p f E t + n - 1))

set_option maxRecDepth 100000 in
set_option maxHeartbeats 3200000 in
theorem nth_any (t n f : Int) (hf60 : f ≤ 60) (A : Option Addr) (len cap : Nat) (d : Nat → Int × Int) (w : World) (hsp : Spans w A len cap d) (hl : len ≤ 60) :
    Calls Try.prog 18 #[.int .i64 t, .int .i64 n, .int .i64 f, .slice A len cap] w (NthV t n f len d w) := by
  have HI := Lib.hid (inFrame_any f A len cap d w hsp (by omega) (stable_ok len hl))
  clear hsp
  go_enter Try.func18, Try.ntmps18
  go_wp2_with fail
  go_step3
  go_wp2_with fail
  refine HI.out.mono ?_
  rintro e w1 ⟨v, k, o, rfl, hv, hk, hup, hends, hin, hb⟩
  obtain ⟨Av, cv, rfl, hs⟩ := hv.spans
  have htot : Calls Try.prog 29 #[.slice Av k cv] w1 fun e w' => e = .returned (.int .i64 (cnt (fun x => inN o x k) f.toNat)) ∧ Below w1.heap.size w1 w' := (total_any Av k cv o w1 hs (by omega) (stable_ok k (by omega))).mono fun e w' ⟨d', he, hp, hs', hb⟩ => ⟨by
    rw [he, total_is hp hs' (fun i hi => by have := hends i hi; omega)]
    rw [cnt_cut (M := f.toNat) (N := 300) (by omega) (fun x hx => by
      show inN o x k = false
      rw [hin]
      have : decide (0 ≤ x ∧ x < f) = false := by simp; omega
      rw [this]
      simp)], hb⟩
  have HT := Lib.hid htot
  have HS := Lib.hid hs
  have HB := Lib.hid hb
  have HUP := Lib.hid hup
  have HENDS := Lib.hid hends
  have HIN := Lib.hid hin
  clear htot hs hb hup hends hin hv HI
  have hE0 : 0 ≤ cnt (fun x => inN o x k) f.toNat := (cnt_le _ _).1
  have hE1 : cnt (fun x => inN o x k) f.toNat ≤ 60 := by have := (cnt_le (fun x => inN o x k) f.toNat).2; omega
  obtain ⟨E, hE⟩ : ∃ E, E = cnt (fun x => inN o x k) f.toNat := ⟨_, rfl⟩
  rw [← hE] at hE0 hE1 HT
  have HE := Lib.hid hE
  clear hE
  have hfin : ∀ W, Below w.heap.size w W → ∀ r : Int, ((r = -1 ∧ (E = 0 ∨ n < 1 ∨ 65536 < n ∨ t < 0 ∨ 2147483647 < t)) ∨ (1 ≤ n ∧ n ≤ 65536 ∧ 0 ≤ t ∧ t ≤ 2147483647 ∧ 1 ≤ E ∧ 0 ≤ r ∧ r ≤ 200000000000 ∧ inN o (r % f) k = true ∧ gT (fun x => inN o x k) f E r = gT (fun x => inN o x k) f E t + n - 1)) → NthV t n f len d w (.returned (.int .i64 r)) W :=
    fun W hW r hr => ⟨r, rfl, hW, fun x => inN o x k, E, HIN.out, HE.out, hr⟩
  have HF := Lib.hid hfin
  clear hfin
  by_cases hbad : E = 0 ∨ n < 1 ∨ 65536 < n ∨ t < 0 ∨ 2147483647 < t
  · have HBAD := Lib.hid hbad
    have hc : E = 0 ∨ (¬ E = 0 ∧ n < 1) ∨ (¬ E = 0 ∧ 1 ≤ n ∧ 65536 < n) ∨ (¬ E = 0 ∧ 1 ≤ n ∧ n ≤ 65536 ∧ t < 0) ∨ (¬ E = 0 ∧ 1 ≤ n ∧ n ≤ 65536 ∧ 0 ≤ t ∧ 2147483647 < t) := by omega
    clear hbad
    rcases hc with h1 | ⟨h1, h2⟩ | ⟨h1, h2, h3⟩ | ⟨h1, h2, h3, h4⟩ | ⟨h1, h2, h3, h4, h5⟩
    all_goals
      go_wp2_with (go_at_call 29; refine HT.out.mono ?_; rintro e w2 ⟨rfl, b2⟩; have HB2 := Lib.hid (HB.out.trans (b2.mono HB.out.size)); clear b2)
      first | rw [Exit.noGoto_ret] | skip
      go_ret
      exact HF.out _ HB2.out _ (.inl ⟨rfl, HBAD.out⟩)
  · have h1 : 1 ≤ E := by omega
    have h1b : ¬ E = 0 := by omega
    have h2 : 1 ≤ n := by omega
    have h3 : n ≤ 65536 := by omega
    have h4 : 0 ≤ t := by omega
    have h5 : t ≤ 2147483647 := by omega
    clear hbad
    have hfr : rightB f = true := by
      rcases Bool.eq_false_or_eq_true (rightB f) with q | q
      · exact q
      · have z : ∀ N, cnt (fun x => inN o x k) N = 0 := fun N => by
          induction N with
          | zero => rfl
          | succ N ih => rw [cnt_step, ih]; simp [HIN.out, q]
        have := HE.out
        rw [z] at this
        omega
    obtain ⟨f1, f2⟩ := (rightB_iff f).1 hfr
    have hfrv : frV t f = (t / f, t % f) := by simp [frV, hfr, h4]
    have hfcall : ∀ W, Calls Try.prog 7 #[.int .i64 t, .int .i64 f] W fun r w' => r = .returned (.tuple #[.int .i64 (t / f), .int .i64 (t % f)]) ∧ ∃ q, W.drewN q = w' := fun W => by
      have := frame_any t f W (by omega)
      rw [hfrv] at this
      exact this
    have HFC := Lib.hid hfcall
    have s0 : 0 ≤ (n - 1) / E := Int.ediv_nonneg (by omega) (by omega)
    have s1 : (n - 1) / E ≤ 65535 := by have := Int.ediv_le_self (a := n - 1) E (by omega); omega
    have sm := Int.mul_ediv_add_emod (n - 1) E
    have sr0 := Int.emod_nonneg (n - 1) h1b
    have sr1 := Int.emod_lt_of_pos (n - 1) (show 0 < E by omega)
    rw [Int.mul_comm] at sm
    have s2 : 0 ≤ (n - 1) / E * E := Int.mul_nonneg s0 (by omega)
    have s3 : (n - 1) / E * E ≤ n - 1 := by omega
    have s4 : n - (n - 1) / E * E ≤ E := by omega
    have d1 : (E == 0) = false := by simpa using h1b
    have d2 : decide (n < 1) = false := by simp; omega
    have d3 : decide (65536 < n) = false := by simp; omega
    have d4 : decide (t < 0) = false := by simp; omega
    have d5 : decide (2147483647 < t) = false := by simp; omega
    clear hfcall hfrv hfr sm sr0 sr1
    go_wp2_with (go_at_call 29; refine HT.out.mono ?_; rintro e w2 ⟨rfl, b2⟩; have HB2 := Lib.hid (HB.out.trans (b2.mono HB.out.size)); have HS2 := Lib.hid (HS.out.below b2); clear b2)
    refine (HFC.out _).mono ?_
    rintro e w3 ⟨rfl, dq, rfl⟩
    obtain ⟨tk, r0, r1⟩ := ticks (t := t) (f := f) (by omega)
    have F0 : 0 ≤ t / f := Int.ediv_nonneg h4 (by omega)
    have F1 : t / f ≤ t := Int.ediv_le_self _ h4
    have HG : Hid (gT (fun x => inN o x k) f E t = t / f * E + cnt (fun x => inN o x k) (t % f).toNat) := rfl
    clear tk HFC HT HS HIN HB d1 d2 d3 d4 d5
    generalize t / f = F at *
    generalize t % f = r at *
    generalize hS : (n - 1) / E = S at *
    clear hS
    obtain ⟨SE, hSE⟩ : ∃ SE, SE = S * E := ⟨_, rfl⟩
    rw [← hSE] at s2 s3 s4 ⊢
    have HSE := Lib.hid hSE
    clear hSE
    have hkp : 0 < k := by
      rcases Nat.eq_zero_or_pos k with q | q
      · subst q
        have z : ∀ N, cnt (fun x => inN o x 0) N = 0 := fun N => by
          induction N with
          | zero => rfl
          | succ N ih => rw [cnt_step, ih]; rfl
        have := HE.out
        rw [z] at this
        omega
      · exact q
    obtain ⟨b, off, rfl, hbl, hcl⟩ := HS2.out.2 hkp
    have HCL := Lib.hid hcl
    clear hcl HS2
    obtain ⟨C, hC⟩ : ∃ C, C = F * E + cnt (fun x => inN o x k) r.toNat + n := ⟨_, rfl⟩
    have h0 : (F + S) * E + cnt (fun x => inN o x k) r.toNat + (n - SE) = C := by rw [hC, HSE.out, Int.add_mul]; omega
    have hG2 : gT (fun x => inN o x k) f E t + n = C := by rw [hC, HG.out]
    have H0 := Lib.hid h0
    have HG2 := Lib.hid hG2
    clear hC h0 hG2 HG HSE
    go_wp2
    go_step3
    go_wp2
    go_loopw [1, 12, 13] (fun m q a wr => ∃ M Q A : Int, m = .int .i64 M ∧ q = .int .i64 Q ∧ a = .int .i64 A ∧ 1 ≤ M ∧ M ≤ E ∧ 0 ≤ A ∧ A < f ∧ 0 ≤ Q ∧ Q ≤ F + S + 1 ∧ (Q ≤ F + S ∨ A ≤ 0) ∧ Hid (Q * E + cnt (fun x => inN o x k) A.toNat + M = C) ∧ Below w2.heap.size w2 wr) (fun _ _ a _ => (intOf a).toNat)
    case atStart => exact ⟨_, _, _, rfl, rfl, rfl, by omega, by omega, r0, r1, by omega, by omega, by omega, H0.out, below_drewN (Below.refl _ _) dq⟩
    case round =>
      obtain ⟨M, Q, A, rfl, rfl, rfl, m0, m1, a0, a1, q0, q1, qa, HC, hb3⟩ := hrel
      have HB3 := Lib.hid hb3
      clear hb3 H0
      have hp0 : 0 ≤ Q * f := Int.mul_nonneg q0 (by omega)
      have hp1 : Q * f ≤ 2147549184 * 60 := Int.mul_le_mul (by omega) (by omega) (by omega) (by omega)
      go_wp2
      go_loopw [1, 13, 61] (fun m a i wq => ∃ (j : Nat) (N : Int), i = .int .i64 j ∧ a = .int .i64 A ∧ j ≤ k ∧ m = .int .i64 N ∧ 1 ≤ N ∧ N ≤ M ∧ Hid (N = M - kN o f A j) ∧ Below w2.heap.size w2 wq) (fun _ _ i _ => k - (intOf i).toNat)
      case atStart => exact ⟨0, M, rfl, rfl, by omega, rfl, m0, by omega, Lib.hid (by rw [kN_zero]; omega), HB3.out⟩
      case round =>
        obtain ⟨j, N, rfl, rfl, hj, rfl, n0, n1, HN, hb4⟩ := hrel
        have HB4 := Lib.hid hb4
        clear hb4 HB3
        by_cases hjk : j < k
        · have c0 := (HB4.out.cell (p := ⟨b, off + j * 2, none⟩) hbl).trans (HCL.out j hjk).1
          have c1 := (HB4.out.cell (p := ⟨b, off + j * 2 + 1, none⟩) hbl).trans (HCL.out j hjk).2
          have i1 : (j : Int) < (k : Int) := by omega
          have hs := HUP.out.1 j hjk
          have he := HENDS.out j hjk
          have hstep := kN_step HUP.out he hjk a0 (by omega)
          have hfound := found_cnt (m := N) HUP.out he hjk a0 n0
          unfold isS at hs
          unfold widthV at hstep hfound
          obtain ⟨p, hp⟩ : ∃ p, p = (o j).1 := ⟨_, rfl⟩
          obtain ⟨q, hq⟩ : ∃ q, q = (o j).2 := ⟨_, rfl⟩
          rw [← hp] at c0 hs hstep hfound
          rw [← hq] at c1 hs he hstep hfound
          clear hp hq
          obtain ⟨fr, hfr⟩ : ∃ fr, fr = (if p < A then A else p) := ⟨_, rfl⟩
          rw [← hfr] at hstep hfound
          have hfrc : (p < A ∧ fr = A) ∨ (¬ p < A ∧ fr = p) := by rw [hfr]; split <;> omega
          clear hfr
          have HST := Lib.hid hstep
          have HFD := Lib.hid hfound
          clear hstep hfound
          obtain ⟨hs0, hs1⟩ := hs
          have hout : N ≤ q - fr → ∀ W, Below w2.heap.size w2 W → NthV t n f len d w (.returned (.int .i64 (Q * f + (fr + N - 1)))) W := fun hw W hW => by
            obtain ⟨u1, u2, u3, u4⟩ := HFD.out hw
            have e1 := tick_one (f := f) (q := Q) u3 u2
            have e2 := gT_at (p := fun x => inN o x k) (E := E) (q := Q) u3 u2
            refine HF.out _ (HB2.out.trans (hW.mono HB2.out.size)) _ (.inr ⟨h2, h3, h4, h5, h1, by omega, by omega, by rw [e1.2]; exact u1, ?_⟩)
            have := HC.out
            have := HG2.out
            have := HN.out
            rw [e2, u4]
            omega
          have HOUT := Lib.hid hout
          clear hout HFD
          rcases hfrc with ⟨k1, k2⟩ | ⟨k1, k2⟩
          · rw [k2] at HST HOUT
            clear k2 fr
            by_cases w1 : q - A ≤ 0
            · go_wp2
              go_roundw
              case rel => exact ⟨j + 1, N, by go_num, rfl, by omega, rfl, n0, n1, Lib.hid (by rw [HST.out, if_pos w1, HN.out]; omega), HB4.out.alloc HB4.out.size _⟩
              case measure => simp [intOf] <;> omega
            · by_cases w3 : N ≤ q - A
              · go_wp2
                first | rw [Exit.noGoto_ret] | skip
                go_ret
                exact HOUT.out w3 _ (HB4.out.alloc HB4.out.size _)
              · go_wp2
                go_roundw
                case rel => exact ⟨j + 1, N - (q - A), by go_num, rfl, by omega, by first | rfl | go_num, by omega, by omega, Lib.hid (by rw [HST.out, if_neg w1, HN.out]; omega), HB4.out.alloc HB4.out.size _⟩
                case measure => simp [intOf] <;> omega
          · rw [k2] at HST HOUT
            clear k2 fr
            by_cases w1 : q - p ≤ 0
            · exact absurd w1 (by omega)
            · by_cases w3 : N ≤ q - p
              · go_wp2
                first | rw [Exit.noGoto_ret] | skip
                go_ret
                exact HOUT.out w3 _ (HB4.out.alloc HB4.out.size _)
              · go_wp2
                go_roundw
                case rel => exact ⟨j + 1, N - (q - p), by go_num, rfl, by omega, by first | rfl | go_num, by omega, by omega, Lib.hid (by rw [HST.out, if_neg w1, HN.out]; omega), HB4.out.alloc HB4.out.size _⟩
                case measure => simp [intOf] <;> omega
        · obtain rfl : j = k := by omega
          have hN := HN.out
          rw [kN_all, ← HE.out] at hN
          have cA : 0 ≤ cnt (fun x => inN o x j) A.toNat := (cnt_le _ _).1
          have a2 : 0 < A := by
            rcases Int.lt_or_eq_of_le a0 with q | q
            · exact q
            · subst q
              have z : cnt (fun x => inN o x j) (0 : Int).toNat = 0 := rfl
              rw [z] at hN
              omega
          have hnew : (Q + 1) * E + cnt (fun x => inN o x j) (0 : Int).toNat + N = C := by
            have z : cnt (fun x => inN o x j) (0 : Int).toNat = 0 := rfl
            have := HC.out
            rw [z, Int.add_mul]
            omega
          have HNEW := Lib.hid hnew
          clear hN cA hnew
          go_wp2
          go_roundw
          case rel => exact ⟨N, Q + 1, 0, rfl, by first | rfl | go_num, rfl, n0, by omega, by omega, by omega, by omega, by omega, by omega, HNEW.out, HB4.out⟩
          case measure => simp [intOf] <;> omega
end Go.Proofs.Ythneljkaieckeab
