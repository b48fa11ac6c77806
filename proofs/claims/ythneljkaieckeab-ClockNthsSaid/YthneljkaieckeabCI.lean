/- ClockNths: its walk. -/
import Derived.Test.YthneljkaieckeabCH
namespace Go.Proofs.Ythneljkaieckeab
open Go.RowKit Go.Lib Go.Sort
set_option linter.unusedVariables false

/-- Has a frame of f ticks such an offset, in one of some spans? -/
def pB (f : Int) (n : Nat) (d : Nat → Int × Int) (x : Int) : Bool := decide (0 ≤ x ∧ x < f) && inN d x n
theorem pB_in {f : Int} {n : Nat} {d : Nat → Int × Int} {x : Int} (h0 : 0 ≤ x) (h1 : x < f) : pB f n d x = inN d x n := by
  unfold pB
  rw [decide_eq_true (show 0 ≤ x ∧ x < f from ⟨h0, h1⟩), Bool.true_and]

set_option maxRecDepth 100000 in
set_option maxHeartbeats 6400000 in
theorem nths_walk (t n f : Int) (A : Option Addr) (len cap : Nat) (d : Nat → Int × Int) (w : World) (hsp : Spans w A len cap d) (hl : len ≤ maxLen) (hcap : len ≤ cap) : Calls Try.prog 6 #[.int .i64 t, .int .i64 n, .int .i64 f, .slice A len cap] w fun e w' => e = .returned (.bool true) ∧ Below w.heap.size w w' := by
  unfold maxLen at hl
  rcases Nat.lt_or_ge 20 len with h20 | h20
  · have HSP := Lib.hid (hsp.cut 20 (by omega))
    clear hsp
    by_cases f60 : f ≤ 60
    · have hn := nth_any t n f f60 A 20 cap d w HSP.out (by omega)
      have hr := rright_any f
      by_cases hf : rightB f = true
      · obtain ⟨f1, f2⟩ := (rightB_iff f).1 hf
        rw [hf] at hr
        have HR := Lib.hid hr
        obtain ⟨C, hC⟩ : ∃ C, C = cnt (fun x => inN d x 20) f.toNat := ⟨_, rfl⟩
        have hn2 : Calls Try.prog 18 #[.int .i64 t, .int .i64 n, .int .i64 f, .slice A 20 cap] w fun e w' => ∃ r : Int, e = .returned (.int .i64 r) ∧ Below w.heap.size w w' ∧ ((r = -1 ∧ (C = 0 ∨ n < 1 ∨ 65536 < n ∨ t < 0 ∨ 2147483647 < t)) ∨ (1 ≤ n ∧ n ≤ 65536 ∧ 0 ≤ t ∧ t ≤ 2147483647 ∧ 1 ≤ C ∧ 0 ≤ r ∧ r ≤ 200000000000 ∧ pB f 20 d (r % f) = true ∧ gT (pB f 20 d) f C r = gT (pB f 20 d) f C t + n - 1)) := hn.mono fun e w' ⟨r, he, hb, p, E, hp, hE, h⟩ => by
          have hpe : p = pB f 20 d := funext fun x => by rw [hp, hf, Bool.true_and]; rfl
          subst hpe
          have hEC : E = C := by
            rw [hE, hC]
            exact cnt_same fun x hx => pB_in (by omega) (by omega)
          rw [hEC] at h
          exact ⟨r, he, hb, h⟩
        have hany := fun W (hW : Below w.heap.size w W) => rany_any f (by omega) A 20 cap d W (HSP.out.below hW) (by omega)
        rw [← hC] at hany
        have C0 : 0 ≤ C := by rw [hC]; exact (cnt_le _ _).1
        have hCE : C = cnt (pB f 20 d) f.toNat := by
          rw [hC]
          exact cnt_same fun x hx => (pB_in (by omega) (by omega)).symm
        clear hn hC hf hr
        by_cases hbad : C = 0 ∨ n < 1 ∨ 65536 < n ∨ t < 0 ∨ 2147483647 < t
        · have hm : Calls Try.prog 18 #[.int .i64 t, .int .i64 n, .int .i64 f, .slice A 20 cap] w fun e w' => e = .returned (.int .i64 (-1)) ∧ Below w.heap.size w w' := hn2.mono fun e w' ⟨r, he, hb, h⟩ => by
            rcases h with ⟨h, _⟩ | ⟨_, _, _, _, _, _, _, _, _⟩
            · subst h; exact ⟨he, hb⟩
            · omega
          have HN := Lib.hid hm
          have hc : n < 1 ∨ (1 ≤ n ∧ 65536 < n) ∨ (1 ≤ n ∧ n ≤ 65536 ∧ t < 0) ∨ (1 ≤ n ∧ n ≤ 65536 ∧ 0 ≤ t ∧ 2147483647 < t) ∨ (1 ≤ n ∧ n ≤ 65536 ∧ 0 ≤ t ∧ t ≤ 2147483647 ∧ C = 0) := by omega
          clear hm hn2 hbad hCE C0
          rcases hc with h1 | ⟨h1, h2⟩ | ⟨h1, h2, h3⟩ | ⟨h1, h2, h3, h4⟩ | ⟨h1, h2, h3, h4, h5⟩
          iterate 4
            · clear hany
              go_enter Try.func6, Try.ntmps6
              go_wp2_with (first | (go_at_call 18; (with_reducible refine HN.out.mono ?_); rintro e w1 ⟨rfl, b1⟩; have B1 := Lib.hid b1; clear b1) | (go_at_call 8; refine (HR.out _).mono ?_; rintro e w2 ⟨rfl, rfl⟩) | (go_at_call 12; refine (clive_any _).mono ?_; rintro e w5 ⟨rfl, b5⟩; have B5 := Lib.hid (B1.out.trans (b5.mono B1.out.size)); clear b5))
              go_ret
              exact ⟨rfl, B5.out⟩
          · have hd : decide (0 < C) = false := decide_eq_false (by omega)
            rw [hd] at hany
            have HA := Lib.hid hany
            clear hany hd h5
            go_enter Try.func6, Try.ntmps6
            go_wp2_with (first | (go_at_call 18; (with_reducible refine HN.out.mono ?_); rintro e w1 ⟨rfl, b1⟩; have B1 := Lib.hid b1; clear b1) | (go_at_call 8; refine (HR.out _).mono ?_; rintro e w2 ⟨rfl, rfl⟩) | (go_at_call 19; refine (HA.out _ B1.out).mono ?_; rintro e w3 ⟨rfl, b3⟩; have B3 := Lib.hid (B1.out.trans (b3.mono B1.out.size)); clear b3) | (go_at_call 12; refine (clive_any _).mono ?_; rintro e w5 ⟨rfl, b5⟩; have B5 := Lib.hid (B3.out.trans (b5.mono B3.out.size)); clear b5))
            go_ret
            exact ⟨rfl, B5.out⟩
        · have C1 : 1 ≤ C := by omega
          have n1 : 1 ≤ n := by omega
          have n2 : n ≤ 65536 := by omega
          have t0 : 0 ≤ t := by omega
          have t1 : t ≤ 2147483647 := by omega
          have hd : decide (0 < C) = true := decide_eq_true (by omega)
          rw [hd] at hany
          have HA := Lib.hid hany
          have HN2 := Lib.hid hn2
          have HCE := Lib.hid hCE
          clear hany hd hbad hn2 hCE
          go_enter Try.func6, Try.ntmps6
          go_wp2_with fail
          refine HN2.out.mono ?_
          rintro e w1 ⟨T, rfl, b1, hT⟩
          have B1 := Lib.hid b1
          have hT' : 0 ≤ T ∧ T ≤ 200000000000 ∧ pB f 20 d (T % f) = true ∧ gT (pB f 20 d) f C T = gT (pB f 20 d) f C t + n - 1 := by
            rcases hT with ⟨_, h⟩ | ⟨_, _, _, _, _, h6, h7, h8, h9⟩
            · omega
            · exact ⟨h6, h7, h8, h9⟩
          obtain ⟨T0, T1, hP, hG⟩ := hT'
          have hge : t ≤ T := by
            by_cases q : t ≤ T
            · exact q
            · have h1 := gT_le (p := pB f 20 d) (E := C) (t := T + 1) (u := t) (f := f) (by omega) HCE.out (by omega)
              have h2 := gT_next (p := pB f 20 d) (E := C) (t := T) (f := f) (by omega) HCE.out
              rw [hP] at h2
              simp at h2
              omega
          obtain ⟨_, o0, o1⟩ := ticks (t := T) (f := f) (by omega)
          have hin : inN d (T % f) 20 = true := by rw [← pB_in o0 o1]; exact hP
          have hicall := fun W (hW : Below w.heap.size w W) => rin_any A 20 cap d (T % f) W (HSP.out.below hW) (by omega)
          rw [hin] at hicall
          have HI := Lib.hid hicall
          have HPT := Lib.hid hP
          have HGT := Lib.hid hG
          rename_i tk0
          clear b1 hT hin hicall hP hG HN2 tk0 o0 o1
          by_cases n60 : n ≤ 60
          · have hrn := fun W (hW : Below w.heap.size w W) => rnth_any t n f T (pB f 20 d) C A 20 cap d W (HSP.out.below hW) (by omega) (fun x x0 x1 => pB_in x0 x1) HCE.out f1 f60 t0 t1 n1 n60 T1 HPT.out HGT.out
            have hnx := next_any t (t % f) f
            rw [next_own t f f1 f60 t0 t1] at hnx
            have HRN := Lib.hid hrn
            have HNX := Lib.hid hnx
            obtain ⟨tk, o0, o1⟩ := ticks (t := t) (f := f) (by omega)
            clear hrn hnx HPT HGT HCE HI tk
            go_wp2_with (first | (go_at_call 8; refine (HR.out _).mono ?_; rintro e w2 ⟨rfl, rfl⟩) | (go_at_call 19; refine (HA.out _ B1.out).mono ?_; rintro e w3 ⟨rfl, b3⟩; have B3 := Lib.hid (B1.out.trans (b3.mono B1.out.size)); clear b3) | (go_at_call 12; refine (clive_any _).mono ?_; rintro e w5 ⟨rfl, b5⟩; have B5 := Lib.hid (B3.out.trans (b5.mono B3.out.size)); clear b5) | (go_at_call 10; (with_reducible refine (roff_any t f _ t0 f1 (by omega)).mono ?_); rintro e w' ⟨rfl, rfl⟩) | (go_at_call 21; refine (HRN.out _ B5.out).mono ?_; rintro e w6 ⟨rfl, b6⟩; have B6 := Lib.hid (B5.out.trans (b6.mono B5.out.size)); clear b6) | (go_at_call 18; (with_reducible refine (nth_own t f _ _ _ (Blk.new w6 _ _) f1 f60 t0 t1).mono ?_); rintro e w7 ⟨rfl, b7⟩; have B7 := Lib.hid ((B6.out.alloc B6.out.size (.cells #[.int .i64 (t % f), .int .i64 (t % f + 1)] 31)).trans (b7.mono (Nat.le_trans B6.out.size (by simp)))); clear b7) | (go_at_call 13; refine (HNX.out _).mono ?_; rintro e w8 ⟨rfl, g8⟩; have B8 := Lib.hid (B7.out.trans (below_of_only g8 B7.out.size (by simp))); clear g8))
            go_ret
            exact ⟨by first | rfl | simp, B8.out⟩
          · clear HPT HGT HCE
            go_wp2_with (first | (go_at_call 8; refine (HR.out _).mono ?_; rintro e w2 ⟨rfl, rfl⟩) | (go_at_call 19; refine (HA.out _ B1.out).mono ?_; rintro e w3 ⟨rfl, b3⟩; have B3 := Lib.hid (B1.out.trans (b3.mono B1.out.size)); clear b3) | (go_at_call 12; refine (clive_any _).mono ?_; rintro e w5 ⟨rfl, b5⟩; have B5 := Lib.hid (B3.out.trans (b5.mono B3.out.size)); clear b5) | (go_at_call 10; (with_reducible refine (roff_any T f _ T0 f1 (by omega)).mono ?_); rintro e w' ⟨rfl, rfl⟩) | (go_at_call 20; refine (HI.out _ B5.out).mono ?_; rintro e w6 ⟨rfl, b6⟩; have B6 := Lib.hid (B5.out.trans (b6.mono B5.out.size)); clear b6))
            go_ret
            exact ⟨by first | rfl | simp, B6.out⟩
      · have hff : rightB f = false := by simpa using hf
        rw [hff] at hr
        have HR := Lib.hid hr
        have hm : Calls Try.prog 18 #[.int .i64 t, .int .i64 n, .int .i64 f, .slice A 20 cap] w fun e w' => e = .returned (.int .i64 (-1)) ∧ Below w.heap.size w w' := hn.mono fun e w' ⟨r, he, hb, p, E, hp, hE, h⟩ => by
          rcases h with ⟨h, _⟩ | ⟨_, _, _, _, _, _, _, h8, _⟩
          · subst h; exact ⟨he, hb⟩
          · rw [hp, hff] at h8
            simp at h8
        have HN := Lib.hid hm
        clear hn hm hr hf hff
        go_enter Try.func6, Try.ntmps6
        go_wp2_with (first | (go_at_call 18; (with_reducible refine HN.out.mono ?_); rintro e w1 ⟨rfl, b1⟩; have B1 := Lib.hid b1; clear b1) | (go_at_call 8; refine (HR.out _).mono ?_; rintro e w2 ⟨rfl, rfl⟩) | (go_at_call 12; refine (clive_any _).mono ?_; rintro e w5 ⟨rfl, b5⟩; have B5 := Lib.hid (B1.out.trans (b5.mono B1.out.size)); clear b5))
        go_ret
        exact ⟨rfl, B5.out⟩
    · go_enter Try.func6, Try.ntmps6
      go_wp2_with (go_at_call 12; refine (clive_any _).mono ?_; rintro e w5 ⟨rfl, b5⟩)
      go_ret
      exact ⟨rfl, b5⟩
  · have HSP := Lib.hid (hsp.cut len (by omega))
    clear hsp
    by_cases f60 : f ≤ 60
    · have hn := nth_any t n f f60 A len cap d w HSP.out (by omega)
      have hr := rright_any f
      by_cases hf : rightB f = true
      · obtain ⟨f1, f2⟩ := (rightB_iff f).1 hf
        rw [hf] at hr
        have HR := Lib.hid hr
        obtain ⟨C, hC⟩ : ∃ C, C = cnt (fun x => inN d x len) f.toNat := ⟨_, rfl⟩
        have hn2 : Calls Try.prog 18 #[.int .i64 t, .int .i64 n, .int .i64 f, .slice A len cap] w fun e w' => ∃ r : Int, e = .returned (.int .i64 r) ∧ Below w.heap.size w w' ∧ ((r = -1 ∧ (C = 0 ∨ n < 1 ∨ 65536 < n ∨ t < 0 ∨ 2147483647 < t)) ∨ (1 ≤ n ∧ n ≤ 65536 ∧ 0 ≤ t ∧ t ≤ 2147483647 ∧ 1 ≤ C ∧ 0 ≤ r ∧ r ≤ 200000000000 ∧ pB f len d (r % f) = true ∧ gT (pB f len d) f C r = gT (pB f len d) f C t + n - 1)) := hn.mono fun e w' ⟨r, he, hb, p, E, hp, hE, h⟩ => by
          have hpe : p = pB f len d := funext fun x => by rw [hp, hf, Bool.true_and]; rfl
          subst hpe
          have hEC : E = C := by
            rw [hE, hC]
            exact cnt_same fun x hx => pB_in (by omega) (by omega)
          rw [hEC] at h
          exact ⟨r, he, hb, h⟩
        have hany := fun W (hW : Below w.heap.size w W) => rany_any f (by omega) A len cap d W (HSP.out.below hW) (by omega)
        rw [← hC] at hany
        have C0 : 0 ≤ C := by rw [hC]; exact (cnt_le _ _).1
        have hCE : C = cnt (pB f len d) f.toNat := by
          rw [hC]
          exact cnt_same fun x hx => (pB_in (by omega) (by omega)).symm
        clear hn hC hf hr
        by_cases hbad : C = 0 ∨ n < 1 ∨ 65536 < n ∨ t < 0 ∨ 2147483647 < t
        · have hm : Calls Try.prog 18 #[.int .i64 t, .int .i64 n, .int .i64 f, .slice A len cap] w fun e w' => e = .returned (.int .i64 (-1)) ∧ Below w.heap.size w w' := hn2.mono fun e w' ⟨r, he, hb, h⟩ => by
            rcases h with ⟨h, _⟩ | ⟨_, _, _, _, _, _, _, _, _⟩
            · subst h; exact ⟨he, hb⟩
            · omega
          have HN := Lib.hid hm
          have hc : n < 1 ∨ (1 ≤ n ∧ 65536 < n) ∨ (1 ≤ n ∧ n ≤ 65536 ∧ t < 0) ∨ (1 ≤ n ∧ n ≤ 65536 ∧ 0 ≤ t ∧ 2147483647 < t) ∨ (1 ≤ n ∧ n ≤ 65536 ∧ 0 ≤ t ∧ t ≤ 2147483647 ∧ C = 0) := by omega
          clear hm hn2 hbad hCE C0
          rcases hc with h1 | ⟨h1, h2⟩ | ⟨h1, h2, h3⟩ | ⟨h1, h2, h3, h4⟩ | ⟨h1, h2, h3, h4, h5⟩
          iterate 4
            · clear hany
              go_enter Try.func6, Try.ntmps6
              go_wp2_with (first | (go_at_call 18; (with_reducible refine HN.out.mono ?_); rintro e w1 ⟨rfl, b1⟩; have B1 := Lib.hid b1; clear b1) | (go_at_call 8; refine (HR.out _).mono ?_; rintro e w2 ⟨rfl, rfl⟩) | (go_at_call 12; refine (clive_any _).mono ?_; rintro e w5 ⟨rfl, b5⟩; have B5 := Lib.hid (B1.out.trans (b5.mono B1.out.size)); clear b5))
              go_ret
              exact ⟨rfl, B5.out⟩
          · have hd : decide (0 < C) = false := decide_eq_false (by omega)
            rw [hd] at hany
            have HA := Lib.hid hany
            clear hany hd h5
            go_enter Try.func6, Try.ntmps6
            go_wp2_with (first | (go_at_call 18; (with_reducible refine HN.out.mono ?_); rintro e w1 ⟨rfl, b1⟩; have B1 := Lib.hid b1; clear b1) | (go_at_call 8; refine (HR.out _).mono ?_; rintro e w2 ⟨rfl, rfl⟩) | (go_at_call 19; refine (HA.out _ B1.out).mono ?_; rintro e w3 ⟨rfl, b3⟩; have B3 := Lib.hid (B1.out.trans (b3.mono B1.out.size)); clear b3) | (go_at_call 12; refine (clive_any _).mono ?_; rintro e w5 ⟨rfl, b5⟩; have B5 := Lib.hid (B3.out.trans (b5.mono B3.out.size)); clear b5))
            go_ret
            exact ⟨rfl, B5.out⟩
        · have C1 : 1 ≤ C := by omega
          have n1 : 1 ≤ n := by omega
          have n2 : n ≤ 65536 := by omega
          have t0 : 0 ≤ t := by omega
          have t1 : t ≤ 2147483647 := by omega
          have hd : decide (0 < C) = true := decide_eq_true (by omega)
          rw [hd] at hany
          have HA := Lib.hid hany
          have HN2 := Lib.hid hn2
          have HCE := Lib.hid hCE
          clear hany hd hbad hn2 hCE
          go_enter Try.func6, Try.ntmps6
          go_wp2_with fail
          refine HN2.out.mono ?_
          rintro e w1 ⟨T, rfl, b1, hT⟩
          have B1 := Lib.hid b1
          have hT' : 0 ≤ T ∧ T ≤ 200000000000 ∧ pB f len d (T % f) = true ∧ gT (pB f len d) f C T = gT (pB f len d) f C t + n - 1 := by
            rcases hT with ⟨_, h⟩ | ⟨_, _, _, _, _, h6, h7, h8, h9⟩
            · omega
            · exact ⟨h6, h7, h8, h9⟩
          obtain ⟨T0, T1, hP, hG⟩ := hT'
          have hge : t ≤ T := by
            by_cases q : t ≤ T
            · exact q
            · have h1 := gT_le (p := pB f len d) (E := C) (t := T + 1) (u := t) (f := f) (by omega) HCE.out (by omega)
              have h2 := gT_next (p := pB f len d) (E := C) (t := T) (f := f) (by omega) HCE.out
              rw [hP] at h2
              simp at h2
              omega
          obtain ⟨_, o0, o1⟩ := ticks (t := T) (f := f) (by omega)
          have hin : inN d (T % f) len = true := by rw [← pB_in o0 o1]; exact hP
          have hicall := fun W (hW : Below w.heap.size w W) => rin_any A len cap d (T % f) W (HSP.out.below hW) (by omega)
          rw [hin] at hicall
          have HI := Lib.hid hicall
          have HPT := Lib.hid hP
          have HGT := Lib.hid hG
          rename_i tk0
          clear b1 hT hin hicall hP hG HN2 tk0 o0 o1
          by_cases n60 : n ≤ 60
          · have hrn := fun W (hW : Below w.heap.size w W) => rnth_any t n f T (pB f len d) C A len cap d W (HSP.out.below hW) (by omega) (fun x x0 x1 => pB_in x0 x1) HCE.out f1 f60 t0 t1 n1 n60 T1 HPT.out HGT.out
            have hnx := next_any t (t % f) f
            rw [next_own t f f1 f60 t0 t1] at hnx
            have HRN := Lib.hid hrn
            have HNX := Lib.hid hnx
            obtain ⟨tk, o0, o1⟩ := ticks (t := t) (f := f) (by omega)
            clear hrn hnx HPT HGT HCE HI tk
            go_wp2_with (first | (go_at_call 8; refine (HR.out _).mono ?_; rintro e w2 ⟨rfl, rfl⟩) | (go_at_call 19; refine (HA.out _ B1.out).mono ?_; rintro e w3 ⟨rfl, b3⟩; have B3 := Lib.hid (B1.out.trans (b3.mono B1.out.size)); clear b3) | (go_at_call 12; refine (clive_any _).mono ?_; rintro e w5 ⟨rfl, b5⟩; have B5 := Lib.hid (B3.out.trans (b5.mono B3.out.size)); clear b5) | (go_at_call 10; (with_reducible refine (roff_any t f _ t0 f1 (by omega)).mono ?_); rintro e w' ⟨rfl, rfl⟩) | (go_at_call 21; refine (HRN.out _ B5.out).mono ?_; rintro e w6 ⟨rfl, b6⟩; have B6 := Lib.hid (B5.out.trans (b6.mono B5.out.size)); clear b6) | (go_at_call 18; (with_reducible refine (nth_own t f _ _ _ (Blk.new w6 _ _) f1 f60 t0 t1).mono ?_); rintro e w7 ⟨rfl, b7⟩; have B7 := Lib.hid ((B6.out.alloc B6.out.size (.cells #[.int .i64 (t % f), .int .i64 (t % f + 1)] 31)).trans (b7.mono (Nat.le_trans B6.out.size (by simp)))); clear b7) | (go_at_call 13; refine (HNX.out _).mono ?_; rintro e w8 ⟨rfl, g8⟩; have B8 := Lib.hid (B7.out.trans (below_of_only g8 B7.out.size (by simp))); clear g8))
            go_ret
            exact ⟨by first | rfl | simp, B8.out⟩
          · clear HPT HGT HCE
            go_wp2_with (first | (go_at_call 8; refine (HR.out _).mono ?_; rintro e w2 ⟨rfl, rfl⟩) | (go_at_call 19; refine (HA.out _ B1.out).mono ?_; rintro e w3 ⟨rfl, b3⟩; have B3 := Lib.hid (B1.out.trans (b3.mono B1.out.size)); clear b3) | (go_at_call 12; refine (clive_any _).mono ?_; rintro e w5 ⟨rfl, b5⟩; have B5 := Lib.hid (B3.out.trans (b5.mono B3.out.size)); clear b5) | (go_at_call 10; (with_reducible refine (roff_any T f _ T0 f1 (by omega)).mono ?_); rintro e w' ⟨rfl, rfl⟩) | (go_at_call 20; refine (HI.out _ B5.out).mono ?_; rintro e w6 ⟨rfl, b6⟩; have B6 := Lib.hid (B5.out.trans (b6.mono B5.out.size)); clear b6))
            go_ret
            exact ⟨by first | rfl | simp, B6.out⟩
      · have hff : rightB f = false := by simpa using hf
        rw [hff] at hr
        have HR := Lib.hid hr
        have hm : Calls Try.prog 18 #[.int .i64 t, .int .i64 n, .int .i64 f, .slice A len cap] w fun e w' => e = .returned (.int .i64 (-1)) ∧ Below w.heap.size w w' := hn.mono fun e w' ⟨r, he, hb, p, E, hp, hE, h⟩ => by
          rcases h with ⟨h, _⟩ | ⟨_, _, _, _, _, _, _, h8, _⟩
          · subst h; exact ⟨he, hb⟩
          · rw [hp, hff] at h8
            simp at h8
        have HN := Lib.hid hm
        clear hn hm hr hf hff
        go_enter Try.func6, Try.ntmps6
        go_wp2_with (first | (go_at_call 18; (with_reducible refine HN.out.mono ?_); rintro e w1 ⟨rfl, b1⟩; have B1 := Lib.hid b1; clear b1) | (go_at_call 8; refine (HR.out _).mono ?_; rintro e w2 ⟨rfl, rfl⟩) | (go_at_call 12; refine (clive_any _).mono ?_; rintro e w5 ⟨rfl, b5⟩; have B5 := Lib.hid (B1.out.trans (b5.mono B1.out.size)); clear b5))
        go_ret
        exact ⟨rfl, B5.out⟩
    · go_enter Try.func6, Try.ntmps6
      go_wp2_with (go_at_call 12; refine (clive_any _).mono ?_; rintro e w5 ⟨rfl, b5⟩)
      go_ret
      exact ⟨rfl, b5⟩
end Go.Proofs.Ythneljkaieckeab
