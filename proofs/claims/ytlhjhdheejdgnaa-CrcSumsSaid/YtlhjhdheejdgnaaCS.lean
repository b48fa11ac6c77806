/- The walk of the law on sums: every text of up to 300 bytes, and any number. -/
import Derived.Test.YtlhjhdheejdgnaaC1
namespace Go.Proofs.Ytlhjhdheejdgnaa
open Go.RowKit Go.Lib
set_option linter.unusedVariables false

theorem sums_walk (s : ByteArray) (n : Int) (w : World) : Calls Try.prog 6 #[.string s, .int .i64 n] w fun e w' => e = .returned (.bool true) ∧ Below w.heap.size w w' := by
  have HL := Lib.hid (fun w => live8_any w)
  have hst : n % 256 + 256 * (n / 256 % 256) = n % 65536 := by omega
  by_cases hs : (300 : Int) < (s.size : Int)
  · go_enter Try.func6, Try.ntmps6
    go_wp2_with (go_at_call 20; refine (HL.out _).mono ?_; rintro e w' ⟨rfl, rfl⟩)
    go_ret
    exact ⟨rfl, Below.refl _ _⟩
  · have hs' : s.size ≤ 300 := by omega
    have HF := Lib.hid (fun w => from_any (n % 65536) s w (by omega) (by omega) (by omega))
    have H1 := Lib.hid (fun w => sum_any s w (by omega))
    have H2 := Lib.hid (fun w => rsum_any s w (by omega))
    have H3 := Lib.hid hst
    clear hst
    go_enter Try.func6, Try.ntmps6
    go_wp2
    go_loop [5, 6] (fun n1 k => ∃ (x : Int) (i : Nat), n1 = .int .i64 x ∧ k = .int .i64 i ∧ i ≤ s.size ∧ Hid ((i = 0 ∨ 0 ≤ x ∧ x < 65536) ∧ (x % 65536).toNat = Cr.from' (n % 65536).toNat (pre s i))) (fun _ k => (s.size - intOf k).toNat)
    case atStart => exact ⟨n, 0, rfl, rfl, by omega, by unfold Hid; simp [Cr.from', pre]⟩
    case round =>
      obtain ⟨x, i, rfl, rfl, hi, H⟩ := hrel
      by_cases h8 : i < s.size
      · have hb := byte_lt s[i]
        have hi' : (i : Int) < (s.size : Int) := by omega
        have hw : wrap64 (s[i].toNat : Int) = (s[i].toNat : Int) := w64_byte _
        have hn : Cr.step (x % 65536).toNat s[i].toNat = Cr.from' (n % 65536).toNat (pre s (i + 1)) := by
          rw [pre_succ s i h8, Cr.from_snoc, ← H.out.2]
        have hl : Cr.step (x % 65536).toNat s[i].toNat < 65536 := Cr.step_lt _ _ (by omega)
        have HS := fun w => step_any x s[i].toNat w hb
        generalize Cr.step (x % 65536).toNat s[i].toNat = y at hn hl HS
        have HS := Lib.hid HS
        have HN := Lib.hid hn
        clear hn H
        go_wp2_with (go_at_call 21; refine (HS.out _).mono ?_; rintro e w' ⟨rfl, rfl⟩)
        go_round
        case rel =>
          refine ⟨y, i + 1, by go_num, by go_num, by omega, ?_⟩
          unfold Hid
          refine ⟨by omega, ?_⟩
          rw [← HN.out]
          omega
        case measure => simp [intOf]; omega
      · obtain rfl : i = s.size := by omega
        by_cases h0 : s.size = 0
        · have h0' : (s.size : Int) = 0 := by omega
          clear H
          go_wp2_with (first | (go_at_call 22; refine (rlow_any _ _).mono ?_; rintro e w' ⟨rfl, rfl⟩) | (go_at_call 23; refine (rhigh_any _ _).mono ?_; rintro e w' ⟨rfl, rfl⟩) | (go_at_call 20; refine (HL.out _).mono ?_; rintro e w' ⟨rfl, rfl⟩) | (go_at_call 24; refine (H1.out _).mono ?_; rintro e w' ⟨rfl, rfl⟩) | (go_at_call 25; refine (H2.out _).mono ?_; rintro e w' ⟨rfl, rfl⟩))
          go_ret
          exact ⟨rfl, Below.refl _ _⟩
        · obtain ⟨y, rfl⟩ : ∃ y : Nat, x = (y : Int) := ⟨x.toNat, by have := H.out.1; omega⟩
          have hy : y = Cr.from' (n % 65536).toNat s.data.toList := by
            have h1 := H.out.1
            have h2 := H.out.2
            rw [pre_all] at h2
            omega
          have h0' : ((s.size : Int) == 0) = false := beq_eq_false_iff_ne.2 (by omega)
          clear H
          rw [← hy] at HF
          clear hy
          go_wp2_with (first | (go_at_call 22; refine (rlow_any _ _).mono ?_; rintro e w' ⟨rfl, rfl⟩) | (go_at_call 23; refine (rhigh_any _ _).mono ?_; rintro e w' ⟨rfl, rfl⟩) | (go_at_call 20; refine (HL.out _).mono ?_; rintro e w' ⟨rfl, rfl⟩) | (go_at_call 24; refine (H1.out _).mono ?_; rintro e w' ⟨rfl, rfl⟩) | (go_at_call 25; refine (H2.out _).mono ?_; rintro e w' ⟨rfl, rfl⟩) | (go_at_call 26; rw [H3.out]; refine (HF.out _).mono ?_; rintro e w' ⟨rfl, rfl⟩))
          go_ret
          exact ⟨rfl, Below.refl _ _⟩
end Go.Proofs.Ytlhjhdheejdgnaa
