/- ClockCounts: its walk. -/
import Derived.Test.YthneljkaieckeabCC
import Derived.Lib.QuietBelow
namespace Go.Proofs.Ythneljkaieckeab
open Go.RowKit Go.Lib Go.Sort
set_option linter.unusedVariables false

/-- What Count answers of what may be. -/
theorem count_is {s p : Int × Int} {f : Int} (hf : rightB f = true) (hs : isB s = true) (hm : s.2 ≤ 2147483647) : countV s p f = cntT p f s.1 (s.2 - s.1).toNat := by
  obtain ⟨f1, f2⟩ := (rightB_iff f).1 hf
  have hs' := hs
  simp only [isB, decide_eq_true_eq] at hs'
  unfold countV
  by_cases c : meetsB p (0, f) = true
  · rw [if_pos ⟨hf, hs, hm, c⟩]
    obtain ⟨m0, m1, m2⟩ := meet_in c
    have h := cntT_is (f := f) (p := meetV p (0, f)) (by omega) m0 m1 m2 s.1 (s.2 - s.1).toNat
    rw [show s.1 + ((s.2 - s.1).toNat : Int) = s.2 by omega] at h
    rw [← h]
    exact cntT_same (fun x x0 x1 => meet_holds x0 x1) (by omega) _ _
  · rw [if_neg (fun h => c h.2.2.2)]
    exact (cntT_none (fun x x0 x1 => meet_not (by simpa using c) x0 x1) (by omega) _ _).symm
theorem count_no {s p : Int × Int} {f : Int} (h : ¬ (rightB f = true ∧ isB s = true ∧ s.2 ≤ 2147483647 ∧ isB p = true)) : countV s p f = 0 := by
  unfold countV
  rw [if_neg]
  rintro ⟨h1, h2, h3, h4⟩
  refine h ⟨h1, h2, h3, ?_⟩
  rw [meets_iff] at h4
  simp only [Bool.and_eq_true] at h4
  exact h4.1.1

set_option maxHeartbeats 1600000 in
theorem rcount_any (s p : Int × Int) (f : Int) (w : World) (s0 : 0 ≤ s.1) (s1 : s.1 < s.2) (s2 : s.2 ≤ 2147483647) (f1 : 1 ≤ f) (f2 : f ≤ 4096) :
    Calls Try.prog 17 #[spv s, spv p, .int .i64 f] w fun r w' => r = .returned (.int .i64 (cntT p f s.1 (s.2 - s.1).toNat)) ∧ Below w.heap.size w w' := by
  obtain ⟨a1, a2⟩ := s
  obtain ⟨b1, b2⟩ := p
  simp only at s0 s1 s2 ⊢
  obtain ⟨X, hX⟩ : ∃ X, X = (w.alloc (.cells #[.int .i64 a1, .int .i64 a2] 31)).alloc (.cells #[.int .i64 b1, .int .i64 b2] 31) := ⟨_, rfl⟩
  have hA : Blk X w.heap.size 31 #[.int .i64 a1, .int .i64 a2] := by rw [hX]; exact (Blk.new w _ _).alloc _
  have hB : Blk X (w.heap.size + 1) 31 #[.int .i64 b1, .int .i64 b2] := by rw [hX]; simpa using Blk.new (w.alloc (.cells #[.int .i64 a1, .int .i64 a2] 31)) 31 #[.int .i64 b1, .int .i64 b2]
  have hbx : Below w.heap.size w X := by rw [hX]; exact ((Below.refl _ _).alloc (Nat.le_refl _) _).alloc (by simp) _
  obtain ⟨N, hN⟩ : ∃ N : Nat, N = (a2 - a1).toNat := ⟨_, rfl⟩
  have hN1 : a1 + N ≤ a2 := by omega
  have hN2 : a2 ≤ a1 + N := by omega
  rw [← hN]
  have HA := Lib.hid hA
  have HB := Lib.hid hB
  have HBX := Lib.hid hbx
  clear hA hB hbx hN
  go_enter Try.func17, Try.ntmps17
  go_wp2
  rw [← hX]
  have HX := Lib.hid hX
  clear hX
  go_loopw [7, 8] (fun n t wr => ∃ (k : Nat) (c T : Int), t = .int .i64 T ∧ T ≤ a1 + k ∧ a1 + k ≤ T ∧ k ≤ N ∧ n = .int .i64 c ∧ Hid (cntT (b1, b2) f a1 k = c) ∧ Below X.heap.size X wr) (fun _ t _ => (a2 - intOf t).toNat)
  case atStart => exact ⟨0, 0, a1, rfl, by omega, by omega, by omega, rfl, Lib.hid rfl, Below.refl _ _⟩
  case round =>
    obtain ⟨k, c, T, rfl, t1, t2, hk, rfl, HC, hb⟩ := hrel
    have hA2 := HA.out.below hb HA.out.lt
    have hB2 := HB.out.below hb HB.out.lt
    have HBE := Lib.hid hb
    clear hb
    have a0' := hA2.cell 0
    have a1' := hA2.cell 1
    have b0' := hB2.cell 0
    have b1' := hB2.cell 1
    simp at a0' a1' b0' b1'
    clear hA2 hB2
    have hcb := cntT_le (b1, b2) f a1 k
    rw [HC.out] at hcb
    obtain ⟨c0, c1⟩ := hcb
    by_cases hkN : k < N
    · have hlt : T < a2 := by omega
      have hnx : cntT (b1, b2) f a1 (k + 1) = c + (if holdsB (b1, b2) (T % f) then 1 else 0) := by
        rw [cntT, HC.out, show a1 + (k : Int) = T by omega]
      obtain ⟨r, hr⟩ : ∃ r, r = holdsB (b1, b2) (T % f) := ⟨_, rfl⟩
      have hcall : ∀ W, Calls Try.prog 27 #[spv (b1, b2), .int .i64 (T % f)] W fun e w' => e = .returned (.bool r) ∧ Below W.heap.size W w' := fun W => (rholds_any (b1, b2) (T % f) W).mono fun e w' ⟨h1, h2⟩ => ⟨by rw [h1, hr], below_of_only h2 (Nat.le_refl _) (by simp)⟩
      have hoff : ∀ W, Calls Try.prog 10 #[.int .i64 T, .int .i64 f] W fun e w' => e = .returned (.int .i64 (T % f)) ∧ Below W.heap.size W w' := fun W => (roff_any T f W (by omega) f1 (by omega)).mono fun e w' ⟨h1, h2⟩ => ⟨h1, by subst h2; exact Below.refl _ _⟩
      rw [← hr] at hnx
      have HNX := Lib.hid hnx
      have HCALL := Lib.hid hcall
      have HOFF := Lib.hid hoff
      have l2 := fun d os => cell_regrown b0' d os
      have l3 := fun d os => cell_regrown b1' d os
      clear hnx hcall hoff hr
      generalize T % f = o at *
      go_wp2
      refine wp_region_quiet_below (by kernel_rfl) (by kernel_rfl) ?_
      clear a0' a1' b0' b1'
      repeat (quiet_step ((first | (go_at_call 10; exact Calls.regrown_of (HOFF.out _)) | (go_at_call 27; exact Calls.regrown_of (HCALL.out _)))))
      refine wpQuiet_nil ?_
      rintro _ ⟨⟨dq, osq⟩, rfl⟩
      have hbq := HBE.out.trans ((below_regrown wr dq osq).mono HBE.out.size)
      generalize grow (redrawn wr dq) osq = w9 at hbq ⊢
      have HBQ := Lib.hid hbq
      clear hbq l2 l3
      cases r with
      | true =>
        go_wp2
        go_roundw
        case rel => exact ⟨k + 1, c + 1, T + 1, by first | rfl | go_num, by omega, by omega, by omega, by first | rfl | go_num, Lib.hid (by rw [HNX.out]; rfl), HBQ.out⟩
        case measure => simp [intOf] <;> omega
      | false =>
        go_wp2
        go_roundw
        case rel => exact ⟨k + 1, c, T + 1, by first | rfl | go_num, by omega, by omega, by omega, rfl, Lib.hid (by rw [HNX.out]; simp), HBQ.out⟩
        case measure => simp [intOf] <;> omega
    · obtain rfl : k = N := by omega
      have hge : a2 ≤ T := by omega
      go_wp2
      go_ret
      exact ⟨ret_int HC.out.symm, HBX.out.trans (HBE.out.mono HBX.out.size)⟩
end Go.Proofs.Ythneljkaieckeab
