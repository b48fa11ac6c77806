/- SpanMeets: what two spans have in common is what is in both, and which places a span has is the document's: for every two spans and number the law returns true. No condition. -/
import Derived.Test.YtblchpaoffdniaaM2
import Derived.ShutString
import Derived.ChangeOld
import Derived.Lib.SmallJoins
namespace Go.Proofs.Ytblchpaoffdniaa
open Go.RowKit Go.Lib Go.Sort
set_option linter.unusedVariables false

theorem blk_regrown {w : World} {g : Nat} {t : TypeId} {cs : Array Value} (h : Blk w g t cs) (i : Nat) {v : Value} (hi : cs[i]? = some v) (d : Nat) (os : Array Obj) : (grow (redrawn w d) os).cell? ⟨g, i, none⟩ = some v := cell_regrown ((h.cell i).trans hi) d os
theorem regrown_none {P : Program} {f : FuncId} {args : Array Value} {w : World} {d : Nat} {os : Array Obj} {v : Value} (h : Calls P f args (grow (redrawn w d) os) fun e w' => e = .returned v ∧ (grow (redrawn w d) os).grownBy w' none) :
    Calls P f args (grow (redrawn w d) os) fun e w'' => e = .returned v ∧ ∃ p : Regrown, w'' = grow (redrawn w p.d) p.os :=
  Calls.regrown_of (h.mono fun _ _ ⟨h1, h2⟩ => ⟨h1, below_of_only h2 (Nat.le_refl _) (by simp)⟩)

set_option maxRecDepth 100000 in
set_option maxHeartbeats 12800000 in
theorem span_meets_yes (a b : Int × Int) (k : Int) (w : World) (hm : meetsB a b = true) : Calls Try.prog 3 #[spv a, spv b, .int .i64 k] w fun e w' => e = .returned (.bool true) ∧ Below w.heap.size w w' := by
  have hhm := holds_meet a b k
  obtain ⟨a1, a2⟩ := a
  obtain ⟨b1, b2⟩ := b
  have hA : Blk ((w.alloc (.cells #[.int .i64 a1, .int .i64 a2] 23)).alloc (.cells #[.int .i64 b1, .int .i64 b2] 23)) w.heap.size 23 #[.int .i64 a1, .int .i64 a2] := (Blk.new _ _ _).alloc _
  have hB : Blk ((w.alloc (.cells #[.int .i64 a1, .int .i64 a2] 23)).alloc (.cells #[.int .i64 b1, .int .i64 b2] 23)) (w.heap.size + 1) 23 #[.int .i64 b1, .int .i64 b2] := by
    have := Blk.new (w.alloc (.cells #[.int .i64 a1, .int .i64 a2] 23)) 23 #[.int .i64 b1, .int .i64 b2]
    simpa using this
  have hbe : Below w.heap.size w ((w.alloc (.cells #[.int .i64 a1, .int .i64 a2] 23)).alloc (.cells #[.int .i64 b1, .int .i64 b2] 23)) := ((Below.refl _ _).alloc (Nat.le_refl _) _).alloc (by simp) _
  have HA := Lib.hid hA
  have HB := Lib.hid hB
  have BE := Lib.hid hbe
  clear hA hB hbe
  have hmeet := fun W => meet_any (a1, a2) (b1, b2) W
  have hmz : meetsB (a1, a2) (b1, b2) = false → meetV (a1, a2) (b1, b2) = (0, 0) := fun h => by simp [meetV, h]
  generalize meetV (a1, a2) (b1, b2) = v at hhm hmeet hmz
  obtain ⟨v1, v2⟩ := v
  have HHM := Lib.hid hhm
  have HME := Lib.hid hmeet
  have HMZ := Lib.hid hmz
  have hin : inB (a1, a2) k = (isB (a1, a2) && decide (a2 ≤ k)) := by rw [Bool.eq_iff_iff]; simp [inB, isB]; omega
  have HIN := Lib.hid hin
  clear hhm hmeet hmz hin
  by_cases hha : holdsB (a1, a2) k = true
  · by_cases hia : isB (a1, a2) = true
    · have hs : holdsB (v1, v2) k = holdsB (b1, b2) k := by rw [HHM.out, hha]; rfl
      have hn : inB (a1, a2) k = decide (a2 ≤ k) := by rw [HIN.out, hia]; rfl
      go_enter Try.func3, Try.ntmps3
      go_wp2_with (first | (go_at_call 9; ((with_reducible refine (HME.out _).mono ?_)); rintro e w2 ⟨rfl, g2⟩; have HA2 := Lib.hid (HA.out.only g2 (by simp)); have HB2 := Lib.hid (HB.out.only g2 (by simp)); have BE2 := Lib.hid (BE.out.trans (below_of_only g2 BE.out.size (by simp))); have e0 := HA2.out.cell 0; have e1 := HA2.out.cell 1; have e2 := HB2.out.cell 0; have e3 := HB2.out.cell 1; simp at e0 e1 e2 e3; have z2 := HA2.out.lt; have z3 := HB2.out.lt; clear g2) | (go_at_call 10; ((with_reducible refine (meets_any (a1, a2) (b1, b2) _).mono ?_)); rintro e w3 ⟨rfl, g3⟩; have HA3 := Lib.hid ((HA2.out.alloc _).only g3 (by simp)); have HB3 := Lib.hid ((HB2.out.alloc _).only g3 (by simp)); have HS3 := Lib.hid ((Blk.new w2 _ _).only g3 (by simp)); have BE3 := Lib.hid (BE2.out.trans (below_of_only (only_trans (only_alloc (only_refl _ _) _) g3) BE2.out.size (by simp))); have f0 := HA3.out.cell 0; have f1 := HA3.out.cell 1; have f2 := HB3.out.cell 0; have f3 := HB3.out.cell 1; have f4 := HS3.out.cell 0; have f5 := HS3.out.cell 1; simp at f0 f1 f2 f3 f4 f5; clear g3) | (go_at_call 11; ((with_reducible refine (rholds_any (a1, a2) k _).mono ?_)); rintro e w4 ⟨rfl, g4⟩; have HA4 := Lib.hid (HA3.out.only g4 (by simp)); have HB4 := Lib.hid (HB3.out.only g4 (by simp)); have HS4 := Lib.hid (HS3.out.only g4 (by simp)); have BE4 := Lib.hid (BE3.out.trans (below_of_only g4 BE3.out.size (by simp))); have h0 := HA4.out.cell 0; have h1 := HA4.out.cell 1; have h2 := HB4.out.cell 0; have h3 := HB4.out.cell 1; have h4 := HS4.out.cell 0; have h5 := HS4.out.cell 1; simp at h0 h1 h2 h3 h4 h5; clear g4) | (go_at_call 11; ((with_reducible refine (rholds_any (b1, b2) k _).mono ?_)); rintro e w5 ⟨rfl, g5⟩; have HA5 := Lib.hid (HA4.out.only g5 (by simp)); have HS5 := Lib.hid (HS4.out.only g5 (by simp)); have BE5 := Lib.hid (BE4.out.trans (below_of_only g5 BE4.out.size (by simp))); clear g5))
      have k0 := fun d os => blk_regrown HA5.out 0 (v := .int .i64 a1) rfl d os
      have k1 := fun d os => blk_regrown HA5.out 1 (v := .int .i64 a2) rfl d os
      have k2 := fun d os => blk_regrown HS5.out 0 (v := .int .i64 v1) rfl d os
      have k3 := fun d os => blk_regrown HS5.out 1 (v := .int .i64 v2) rfl d os
      refine wp_region_quiet_below (by kernel_rfl) (by kernel_rfl) ?_
      repeat (quiet_step ((first | (go_at_call 12; exact Calls.regrown_of (live_any _)) | (go_at_call 13; with_reducible exact regrown_none (is_any (a1, a2) _)) | (go_at_call 14; with_reducible exact regrown_none (ris_any (a1, a2) _)) | (go_at_call 15; with_reducible exact regrown_none (holds_any (a1, a2) k _)) | (go_at_call 11; with_reducible exact regrown_none (rholds_any (a1, a2) k _)) | (go_at_call 11; with_reducible exact regrown_none (rholds_any (v1, v2) k _)) | (go_at_call 16; with_reducible exact regrown_none (in_any (a1, a2) k _)))))
      refine wpQuiet_nil ?_
      rintro _ ⟨⟨dq, osq⟩, rfl⟩
      have hbq := BE5.out.trans ((below_regrown w5 dq osq).mono BE5.out.size)
      generalize grow (redrawn w5 dq) osq = w9 at hbq ⊢
      have HBQ := Lib.hid hbq
      clear hbq k0 k1 k2 k3
      go_wp2
      go_ret
      exact ⟨rfl, HBQ.out⟩
    · rw [Bool.not_eq_true] at hia
      have hs : holdsB (v1, v2) k = holdsB (b1, b2) k := by rw [HHM.out, hha]; rfl
      have hn : inB (a1, a2) k = false := by rw [HIN.out, hia]; rfl
      go_enter Try.func3, Try.ntmps3
      go_wp2_with (first | (go_at_call 9; ((with_reducible refine (HME.out _).mono ?_)); rintro e w2 ⟨rfl, g2⟩; have HA2 := Lib.hid (HA.out.only g2 (by simp)); have HB2 := Lib.hid (HB.out.only g2 (by simp)); have BE2 := Lib.hid (BE.out.trans (below_of_only g2 BE.out.size (by simp))); have e0 := HA2.out.cell 0; have e1 := HA2.out.cell 1; have e2 := HB2.out.cell 0; have e3 := HB2.out.cell 1; simp at e0 e1 e2 e3; have z2 := HA2.out.lt; have z3 := HB2.out.lt; clear g2) | (go_at_call 10; ((with_reducible refine (meets_any (a1, a2) (b1, b2) _).mono ?_)); rintro e w3 ⟨rfl, g3⟩; have HA3 := Lib.hid ((HA2.out.alloc _).only g3 (by simp)); have HB3 := Lib.hid ((HB2.out.alloc _).only g3 (by simp)); have HS3 := Lib.hid ((Blk.new w2 _ _).only g3 (by simp)); have BE3 := Lib.hid (BE2.out.trans (below_of_only (only_trans (only_alloc (only_refl _ _) _) g3) BE2.out.size (by simp))); have f0 := HA3.out.cell 0; have f1 := HA3.out.cell 1; have f2 := HB3.out.cell 0; have f3 := HB3.out.cell 1; have f4 := HS3.out.cell 0; have f5 := HS3.out.cell 1; simp at f0 f1 f2 f3 f4 f5; clear g3) | (go_at_call 11; ((with_reducible refine (rholds_any (a1, a2) k _).mono ?_)); rintro e w4 ⟨rfl, g4⟩; have HA4 := Lib.hid (HA3.out.only g4 (by simp)); have HB4 := Lib.hid (HB3.out.only g4 (by simp)); have HS4 := Lib.hid (HS3.out.only g4 (by simp)); have BE4 := Lib.hid (BE3.out.trans (below_of_only g4 BE3.out.size (by simp))); have h0 := HA4.out.cell 0; have h1 := HA4.out.cell 1; have h2 := HB4.out.cell 0; have h3 := HB4.out.cell 1; have h4 := HS4.out.cell 0; have h5 := HS4.out.cell 1; simp at h0 h1 h2 h3 h4 h5; clear g4) | (go_at_call 11; ((with_reducible refine (rholds_any (b1, b2) k _).mono ?_)); rintro e w5 ⟨rfl, g5⟩; have HA5 := Lib.hid (HA4.out.only g5 (by simp)); have HS5 := Lib.hid (HS4.out.only g5 (by simp)); have BE5 := Lib.hid (BE4.out.trans (below_of_only g5 BE4.out.size (by simp))); clear g5))
      have k0 := fun d os => blk_regrown HA5.out 0 (v := .int .i64 a1) rfl d os
      have k1 := fun d os => blk_regrown HA5.out 1 (v := .int .i64 a2) rfl d os
      have k2 := fun d os => blk_regrown HS5.out 0 (v := .int .i64 v1) rfl d os
      have k3 := fun d os => blk_regrown HS5.out 1 (v := .int .i64 v2) rfl d os
      refine wp_region_quiet_below (by kernel_rfl) (by kernel_rfl) ?_
      repeat (quiet_step ((first | (go_at_call 12; exact Calls.regrown_of (live_any _)) | (go_at_call 13; with_reducible exact regrown_none (is_any (a1, a2) _)) | (go_at_call 14; with_reducible exact regrown_none (ris_any (a1, a2) _)) | (go_at_call 15; with_reducible exact regrown_none (holds_any (a1, a2) k _)) | (go_at_call 11; with_reducible exact regrown_none (rholds_any (a1, a2) k _)) | (go_at_call 11; with_reducible exact regrown_none (rholds_any (v1, v2) k _)) | (go_at_call 16; with_reducible exact regrown_none (in_any (a1, a2) k _)))))
      refine wpQuiet_nil ?_
      rintro _ ⟨⟨dq, osq⟩, rfl⟩
      have hbq := BE5.out.trans ((below_regrown w5 dq osq).mono BE5.out.size)
      generalize grow (redrawn w5 dq) osq = w9 at hbq ⊢
      have HBQ := Lib.hid hbq
      clear hbq k0 k1 k2 k3
      go_wp2
      go_ret
      exact ⟨rfl, HBQ.out⟩
  · rw [Bool.not_eq_true] at hha
    by_cases hia : isB (a1, a2) = true
    · have hs : holdsB (v1, v2) k = false := by rw [HHM.out, hha]; rfl
      have hn : inB (a1, a2) k = decide (a2 ≤ k) := by rw [HIN.out, hia]; rfl
      go_enter Try.func3, Try.ntmps3
      go_wp2_with (first | (go_at_call 9; ((with_reducible refine (HME.out _).mono ?_)); rintro e w2 ⟨rfl, g2⟩; have HA2 := Lib.hid (HA.out.only g2 (by simp)); have HB2 := Lib.hid (HB.out.only g2 (by simp)); have BE2 := Lib.hid (BE.out.trans (below_of_only g2 BE.out.size (by simp))); have e0 := HA2.out.cell 0; have e1 := HA2.out.cell 1; have e2 := HB2.out.cell 0; have e3 := HB2.out.cell 1; simp at e0 e1 e2 e3; have z2 := HA2.out.lt; have z3 := HB2.out.lt; clear g2) | (go_at_call 10; ((with_reducible refine (meets_any (a1, a2) (b1, b2) _).mono ?_)); rintro e w3 ⟨rfl, g3⟩; have HA3 := Lib.hid ((HA2.out.alloc _).only g3 (by simp)); have HB3 := Lib.hid ((HB2.out.alloc _).only g3 (by simp)); have HS3 := Lib.hid ((Blk.new w2 _ _).only g3 (by simp)); have BE3 := Lib.hid (BE2.out.trans (below_of_only (only_trans (only_alloc (only_refl _ _) _) g3) BE2.out.size (by simp))); have f0 := HA3.out.cell 0; have f1 := HA3.out.cell 1; have f2 := HB3.out.cell 0; have f3 := HB3.out.cell 1; have f4 := HS3.out.cell 0; have f5 := HS3.out.cell 1; simp at f0 f1 f2 f3 f4 f5; clear g3) | (go_at_call 11; ((with_reducible refine (rholds_any (a1, a2) k _).mono ?_)); rintro e w4 ⟨rfl, g4⟩; have HA4 := Lib.hid (HA3.out.only g4 (by simp)); have HB4 := Lib.hid (HB3.out.only g4 (by simp)); have HS4 := Lib.hid (HS3.out.only g4 (by simp)); have BE4 := Lib.hid (BE3.out.trans (below_of_only g4 BE3.out.size (by simp))); have h0 := HA4.out.cell 0; have h1 := HA4.out.cell 1; have h2 := HB4.out.cell 0; have h3 := HB4.out.cell 1; have h4 := HS4.out.cell 0; have h5 := HS4.out.cell 1; simp at h0 h1 h2 h3 h4 h5; clear g4) | (go_at_call 11; ((with_reducible refine (rholds_any (b1, b2) k _).mono ?_)); rintro e w5 ⟨rfl, g5⟩; have HA5 := Lib.hid (HA4.out.only g5 (by simp)); have HS5 := Lib.hid (HS4.out.only g5 (by simp)); have BE5 := Lib.hid (BE4.out.trans (below_of_only g5 BE4.out.size (by simp))); clear g5))
      have k0 := fun d os => blk_regrown HA4.out 0 (v := .int .i64 a1) rfl d os
      have k1 := fun d os => blk_regrown HA4.out 1 (v := .int .i64 a2) rfl d os
      have k2 := fun d os => blk_regrown HS4.out 0 (v := .int .i64 v1) rfl d os
      have k3 := fun d os => blk_regrown HS4.out 1 (v := .int .i64 v2) rfl d os
      refine wp_region_quiet_below (by kernel_rfl) (by kernel_rfl) ?_
      repeat (quiet_step ((first | (go_at_call 12; exact Calls.regrown_of (live_any _)) | (go_at_call 13; with_reducible exact regrown_none (is_any (a1, a2) _)) | (go_at_call 14; with_reducible exact regrown_none (ris_any (a1, a2) _)) | (go_at_call 15; with_reducible exact regrown_none (holds_any (a1, a2) k _)) | (go_at_call 11; with_reducible exact regrown_none (rholds_any (a1, a2) k _)) | (go_at_call 11; with_reducible exact regrown_none (rholds_any (v1, v2) k _)) | (go_at_call 16; with_reducible exact regrown_none (in_any (a1, a2) k _)))))
      refine wpQuiet_nil ?_
      rintro _ ⟨⟨dq, osq⟩, rfl⟩
      have hbq := BE4.out.trans ((below_regrown w4 dq osq).mono BE4.out.size)
      generalize grow (redrawn w4 dq) osq = w9 at hbq ⊢
      have HBQ := Lib.hid hbq
      clear hbq k0 k1 k2 k3
      go_wp2
      go_ret
      exact ⟨rfl, HBQ.out⟩
    · rw [Bool.not_eq_true] at hia
      have hs : holdsB (v1, v2) k = false := by rw [HHM.out, hha]; rfl
      have hn : inB (a1, a2) k = false := by rw [HIN.out, hia]; rfl
      go_enter Try.func3, Try.ntmps3
      go_wp2_with (first | (go_at_call 9; ((with_reducible refine (HME.out _).mono ?_)); rintro e w2 ⟨rfl, g2⟩; have HA2 := Lib.hid (HA.out.only g2 (by simp)); have HB2 := Lib.hid (HB.out.only g2 (by simp)); have BE2 := Lib.hid (BE.out.trans (below_of_only g2 BE.out.size (by simp))); have e0 := HA2.out.cell 0; have e1 := HA2.out.cell 1; have e2 := HB2.out.cell 0; have e3 := HB2.out.cell 1; simp at e0 e1 e2 e3; have z2 := HA2.out.lt; have z3 := HB2.out.lt; clear g2) | (go_at_call 10; ((with_reducible refine (meets_any (a1, a2) (b1, b2) _).mono ?_)); rintro e w3 ⟨rfl, g3⟩; have HA3 := Lib.hid ((HA2.out.alloc _).only g3 (by simp)); have HB3 := Lib.hid ((HB2.out.alloc _).only g3 (by simp)); have HS3 := Lib.hid ((Blk.new w2 _ _).only g3 (by simp)); have BE3 := Lib.hid (BE2.out.trans (below_of_only (only_trans (only_alloc (only_refl _ _) _) g3) BE2.out.size (by simp))); have f0 := HA3.out.cell 0; have f1 := HA3.out.cell 1; have f2 := HB3.out.cell 0; have f3 := HB3.out.cell 1; have f4 := HS3.out.cell 0; have f5 := HS3.out.cell 1; simp at f0 f1 f2 f3 f4 f5; clear g3) | (go_at_call 11; ((with_reducible refine (rholds_any (a1, a2) k _).mono ?_)); rintro e w4 ⟨rfl, g4⟩; have HA4 := Lib.hid (HA3.out.only g4 (by simp)); have HB4 := Lib.hid (HB3.out.only g4 (by simp)); have HS4 := Lib.hid (HS3.out.only g4 (by simp)); have BE4 := Lib.hid (BE3.out.trans (below_of_only g4 BE3.out.size (by simp))); have h0 := HA4.out.cell 0; have h1 := HA4.out.cell 1; have h2 := HB4.out.cell 0; have h3 := HB4.out.cell 1; have h4 := HS4.out.cell 0; have h5 := HS4.out.cell 1; simp at h0 h1 h2 h3 h4 h5; clear g4) | (go_at_call 11; ((with_reducible refine (rholds_any (b1, b2) k _).mono ?_)); rintro e w5 ⟨rfl, g5⟩; have HA5 := Lib.hid (HA4.out.only g5 (by simp)); have HS5 := Lib.hid (HS4.out.only g5 (by simp)); have BE5 := Lib.hid (BE4.out.trans (below_of_only g5 BE4.out.size (by simp))); clear g5))
      have k0 := fun d os => blk_regrown HA4.out 0 (v := .int .i64 a1) rfl d os
      have k1 := fun d os => blk_regrown HA4.out 1 (v := .int .i64 a2) rfl d os
      have k2 := fun d os => blk_regrown HS4.out 0 (v := .int .i64 v1) rfl d os
      have k3 := fun d os => blk_regrown HS4.out 1 (v := .int .i64 v2) rfl d os
      refine wp_region_quiet_below (by kernel_rfl) (by kernel_rfl) ?_
      repeat (quiet_step ((first | (go_at_call 12; exact Calls.regrown_of (live_any _)) | (go_at_call 13; with_reducible exact regrown_none (is_any (a1, a2) _)) | (go_at_call 14; with_reducible exact regrown_none (ris_any (a1, a2) _)) | (go_at_call 15; with_reducible exact regrown_none (holds_any (a1, a2) k _)) | (go_at_call 11; with_reducible exact regrown_none (rholds_any (a1, a2) k _)) | (go_at_call 11; with_reducible exact regrown_none (rholds_any (v1, v2) k _)) | (go_at_call 16; with_reducible exact regrown_none (in_any (a1, a2) k _)))))
      refine wpQuiet_nil ?_
      rintro _ ⟨⟨dq, osq⟩, rfl⟩
      have hbq := BE4.out.trans ((below_regrown w4 dq osq).mono BE4.out.size)
      generalize grow (redrawn w4 dq) osq = w9 at hbq ⊢
      have HBQ := Lib.hid hbq
      clear hbq k0 k1 k2 k3
      go_wp2
      go_ret
      exact ⟨rfl, HBQ.out⟩

end Go.Proofs.Ytblchpaoffdniaa
