/- ClockCounts: its walk. -/
import Derived.Test.YthneljkaieckeabCD
namespace Go.Proofs.Ythneljkaieckeab
open Go.RowKit Go.Lib Go.Sort
set_option linter.unusedVariables false

set_option maxRecDepth 100000 in
set_option maxHeartbeats 3200000 in
theorem counts_walk (s p : Int × Int) (f : Int) (w : World) : Calls Try.prog 5 #[spv s, spv p, .int .i64 f] w fun e w' => e = .returned (.bool true) ∧ Below w.heap.size w w' := by
  have hr := rright_any f
  have hn := count_any s p f
  have his := ris_any s
  have hip := ris_any p
  obtain ⟨c, hc⟩ : ∃ c, c = countV s p f := ⟨_, rfl⟩
  rw [← hc] at hn
  have hcases : (rightB f = false ∧ c = 0) ∨ (rightB f = true ∧ isB s = false ∧ c = 0) ∨ (rightB f = true ∧ isB s = true ∧ 2147483647 < s.2 ∧ c = 0) ∨ (rightB f = true ∧ isB s = true ∧ s.2 ≤ 2147483647 ∧ isB p = false ∧ c = 0) ∨ (rightB f = true ∧ isB s = true ∧ s.2 ≤ 2147483647 ∧ isB p = true ∧ c = cntT p f s.1 (s.2 - s.1).toNat ∧ 0 ≤ c ∧ c ≤ s.2 - s.1) := by
    by_cases h1 : rightB f = true
    · by_cases h2 : isB s = true
      · by_cases h3 : s.2 ≤ 2147483647
        · by_cases h4 : isB p = true
          · refine .inr (.inr (.inr (.inr ⟨h1, h2, h3, h4, ?_⟩)))
            have e := count_is (p := p) h1 h2 h3
            have l := cntT_le p f s.1 (s.2 - s.1).toNat
            simp only [isB, decide_eq_true_eq] at h2
            rw [hc, e]
            exact ⟨rfl, l.1, by omega⟩
          · exact .inr (.inr (.inr (.inl ⟨h1, h2, h3, by simpa using h4, by rw [hc]; exact count_no (fun h => h4 h.2.2.2)⟩)))
        · exact .inr (.inr (.inl ⟨h1, h2, by omega, by rw [hc]; exact count_no (fun h => h3 h.2.2.1)⟩))
      · exact .inr (.inl ⟨h1, by simpa using h2, by rw [hc]; exact count_no (fun h => h2 h.2.1)⟩)
    · exact .inl ⟨by simpa using h1, by rw [hc]; exact count_no (fun h => h1 h.1)⟩
  have HN := Lib.hid hn
  clear hn hc
  obtain ⟨a1, a2⟩ := s
  obtain ⟨b1, b2⟩ := p
  have g0 : ((w.alloc (.cells #[.int .i64 a1, .int .i64 a2] 31)).alloc (.cells #[.int .i64 b1, .int .i64 b2] 31)).grownBy ((w.alloc (.cells #[.int .i64 a1, .int .i64 a2] 31)).alloc (.cells #[.int .i64 b1, .int .i64 b2] 31)) none := only_refl _ _
  have G := Lib.hid g0
  have hfin : ∀ W, ((w.alloc (.cells #[.int .i64 a1, .int .i64 a2] 31)).alloc (.cells #[.int .i64 b1, .int .i64 b2] 31)).grownBy W none → Below w.heap.size w W := fun W h => (((Below.refl w.heap.size w).alloc (Nat.le_refl _) (.cells #[.int .i64 a1, .int .i64 a2] 31)).alloc (by simp) (.cells #[.int .i64 b1, .int .i64 b2] 31)).trans (below_of_only h (by simp; omega) (by simp))
  have FIN := Lib.hid hfin
  clear g0 hfin
  simp only at hcases
  rcases hcases with ⟨h1, rfl⟩ | ⟨h1, h2, rfl⟩ | ⟨h1, h2, h3, rfl⟩ | ⟨h1, h2, h3, h4, rfl⟩ | ⟨h1, h2, h3, h4, h5, h6, h7⟩
  · rw [h1] at hr
    have HR := Lib.hid hr
    clear hr his hip h1
    go_enter Try.func5, Try.ntmps5
    go_wp2_with (first | (go_at_call 15; refine (HN.out _).mono ?_; rintro e w1 ⟨rfl, g1⟩; have G1 := Lib.hid (only_trans G.out g1); obtain ⟨e0, e1, e2, e3⟩ := boxes (p := (a1, a2)) (q := (b1, b2)) G1.out; clear g1) | (go_at_call 8; refine (HR.out _).mono ?_; rintro e w2 ⟨rfl, rfl⟩) | (go_at_call 12; refine (clive_any _).mono ?_; rintro e w5 ⟨rfl, b5⟩; have G5 := Lib.hid (only_trans G1.out (only_far b5)); obtain ⟨n0, n1, n2, n3⟩ := boxes (p := (a1, a2)) (q := (b1, b2)) G5.out; clear b5))
    go_ret
    exact ⟨rfl, FIN.out _ G5.out⟩
  · rw [h1] at hr
    rw [h2] at his
    have HR := Lib.hid hr
    have HIS := Lib.hid his
    clear hr his hip h1 h2
    go_enter Try.func5, Try.ntmps5
    go_wp2_with (first | (go_at_call 15; refine (HN.out _).mono ?_; rintro e w1 ⟨rfl, g1⟩; have G1 := Lib.hid (only_trans G.out g1); obtain ⟨e0, e1, e2, e3⟩ := boxes (p := (a1, a2)) (q := (b1, b2)) G1.out; clear g1) | (go_at_call 8; refine (HR.out _).mono ?_; rintro e w2 ⟨rfl, rfl⟩) | (go_at_call 16; (with_reducible refine (HIS.out _).mono ?_); rintro e w3 ⟨rfl, g3⟩; have G3 := Lib.hid (only_trans G1.out g3); obtain ⟨k0, k1, k2, k3⟩ := boxes (p := (a1, a2)) (q := (b1, b2)) G3.out; clear g3) | (go_at_call 12; refine (clive_any _).mono ?_; rintro e w5 ⟨rfl, b5⟩; have G5 := Lib.hid (only_trans G3.out (only_far b5)); obtain ⟨n0, n1, n2, n3⟩ := boxes (p := (a1, a2)) (q := (b1, b2)) G5.out; clear b5))
    go_ret
    exact ⟨rfl, FIN.out _ G5.out⟩
  · rw [h1] at hr
    rw [h2] at his
    have HR := Lib.hid hr
    have HIS := Lib.hid his
    clear hr his hip h1 h2
    go_enter Try.func5, Try.ntmps5
    go_wp2_with (first | (go_at_call 15; refine (HN.out _).mono ?_; rintro e w1 ⟨rfl, g1⟩; have G1 := Lib.hid (only_trans G.out g1); obtain ⟨e0, e1, e2, e3⟩ := boxes (p := (a1, a2)) (q := (b1, b2)) G1.out; clear g1) | (go_at_call 8; refine (HR.out _).mono ?_; rintro e w2 ⟨rfl, rfl⟩) | (go_at_call 16; (with_reducible refine (HIS.out _).mono ?_); rintro e w3 ⟨rfl, g3⟩; have G3 := Lib.hid (only_trans G1.out g3); obtain ⟨k0, k1, k2, k3⟩ := boxes (p := (a1, a2)) (q := (b1, b2)) G3.out; clear g3) | (go_at_call 12; refine (clive_any _).mono ?_; rintro e w5 ⟨rfl, b5⟩; have G5 := Lib.hid (only_trans G3.out (only_far b5)); obtain ⟨n0, n1, n2, n3⟩ := boxes (p := (a1, a2)) (q := (b1, b2)) G5.out; clear b5))
    go_ret
    exact ⟨rfl, FIN.out _ G5.out⟩
  · rw [h1] at hr
    rw [h2] at his
    rw [h4] at hip
    have HR := Lib.hid hr
    have HIS := Lib.hid his
    have HIP := Lib.hid hip
    clear hr his hip h1 h2 h4
    go_enter Try.func5, Try.ntmps5
    go_wp2_with (first | (go_at_call 15; refine (HN.out _).mono ?_; rintro e w1 ⟨rfl, g1⟩; have G1 := Lib.hid (only_trans G.out g1); obtain ⟨e0, e1, e2, e3⟩ := boxes (p := (a1, a2)) (q := (b1, b2)) G1.out; clear g1) | (go_at_call 8; refine (HR.out _).mono ?_; rintro e w2 ⟨rfl, rfl⟩) | (go_at_call 16; (with_reducible refine (HIS.out _).mono ?_); rintro e w3 ⟨rfl, g3⟩; have G3 := Lib.hid (only_trans G1.out g3); obtain ⟨k0, k1, k2, k3⟩ := boxes (p := (a1, a2)) (q := (b1, b2)) G3.out; clear g3) | (go_at_call 16; (with_reducible refine (HIP.out _).mono ?_); rintro e w4 ⟨rfl, g4⟩; have G4 := Lib.hid (only_trans G3.out g4); obtain ⟨m0, m1, m2, m3⟩ := boxes (p := (a1, a2)) (q := (b1, b2)) G4.out; clear g4) | (go_at_call 12; refine (clive_any _).mono ?_; rintro e w5 ⟨rfl, b5⟩; have G5 := Lib.hid (only_trans G4.out (only_far b5)); obtain ⟨n0, n1, n2, n3⟩ := boxes (p := (a1, a2)) (q := (b1, b2)) G5.out; clear b5))
    go_ret
    exact ⟨rfl, FIN.out _ G5.out⟩
  · have hs' := h2
    simp only [isB, decide_eq_true_eq] at hs'
    obtain ⟨s0, s1⟩ := hs'
    obtain ⟨f1, f2⟩ := (rightB_iff f).1 h1
    have hrc := fun W => rcount_any (a1, a2) (b1, b2) f W s0 s1 h3 f1 f2
    simp only at hrc
    rw [← h5] at hrc
    rw [h1] at hr
    rw [h2] at his
    rw [h4] at hip
    have HR := Lib.hid hr
    have HIS := Lib.hid his
    have HIP := Lib.hid hip
    have HRC := Lib.hid hrc
    clear hr his hip hrc h1 h2 h4 h5
    by_cases hbig : 2000 < a2 - a1
    · go_enter Try.func5, Try.ntmps5
      go_wp2_with (first | (go_at_call 15; refine (HN.out _).mono ?_; rintro e w1 ⟨rfl, g1⟩; have G1 := Lib.hid (only_trans G.out g1); obtain ⟨e0, e1, e2, e3⟩ := boxes (p := (a1, a2)) (q := (b1, b2)) G1.out; clear g1) | (go_at_call 8; refine (HR.out _).mono ?_; rintro e w2 ⟨rfl, rfl⟩) | (go_at_call 16; (with_reducible refine (HIS.out _).mono ?_); rintro e w3 ⟨rfl, g3⟩; have G3 := Lib.hid (only_trans G1.out g3); obtain ⟨k0, k1, k2, k3⟩ := boxes (p := (a1, a2)) (q := (b1, b2)) G3.out; clear g3) | (go_at_call 16; (with_reducible refine (HIP.out _).mono ?_); rintro e w4 ⟨rfl, g4⟩; have G4 := Lib.hid (only_trans G3.out g4); obtain ⟨m0, m1, m2, m3⟩ := boxes (p := (a1, a2)) (q := (b1, b2)) G4.out; clear g4) | (go_at_call 12; refine (clive_any _).mono ?_; rintro e w5 ⟨rfl, b5⟩; have G5 := Lib.hid (only_trans G4.out (only_far b5)); obtain ⟨n0, n1, n2, n3⟩ := boxes (p := (a1, a2)) (q := (b1, b2)) G5.out; clear b5))
      go_ret
      exact ⟨by first | rfl | (simp; done) | (simp; omega), FIN.out _ G5.out⟩
    · go_enter Try.func5, Try.ntmps5
      go_wp2_with (first | (go_at_call 15; refine (HN.out _).mono ?_; rintro e w1 ⟨rfl, g1⟩; have G1 := Lib.hid (only_trans G.out g1); obtain ⟨e0, e1, e2, e3⟩ := boxes (p := (a1, a2)) (q := (b1, b2)) G1.out; clear g1) | (go_at_call 8; refine (HR.out _).mono ?_; rintro e w2 ⟨rfl, rfl⟩) | (go_at_call 16; (with_reducible refine (HIS.out _).mono ?_); rintro e w3 ⟨rfl, g3⟩; have G3 := Lib.hid (only_trans G1.out g3); obtain ⟨k0, k1, k2, k3⟩ := boxes (p := (a1, a2)) (q := (b1, b2)) G3.out; clear g3) | (go_at_call 16; (with_reducible refine (HIP.out _).mono ?_); rintro e w4 ⟨rfl, g4⟩; have G4 := Lib.hid (only_trans G3.out g4); obtain ⟨m0, m1, m2, m3⟩ := boxes (p := (a1, a2)) (q := (b1, b2)) G4.out; clear g4) | (go_at_call 12; refine (clive_any _).mono ?_; rintro e w5 ⟨rfl, b5⟩; have G5 := Lib.hid (only_trans G4.out (only_far b5)); obtain ⟨n0, n1, n2, n3⟩ := boxes (p := (a1, a2)) (q := (b1, b2)) G5.out; clear b5) | (go_at_call 17; refine (HRC.out _).mono ?_; rintro e w6 ⟨rfl, b6⟩; have G6 := Lib.hid (only_trans G5.out (only_far b6)); clear b6))
      go_ret
      exact ⟨by first | rfl | (simp; done) | (simp; omega), FIN.out _ G6.out⟩
end Go.Proofs.Ythneljkaieckeab
