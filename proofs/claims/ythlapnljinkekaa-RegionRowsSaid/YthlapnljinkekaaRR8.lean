/- SortFunc of at most eight regions; All, Back: their contracts. -/
import Derived.Test.YthlapnljinkekaaRR7
import Derived.Lib.BitFns
namespace Go.Proofs.Ythlapnljinkekaa
open Go.RowKit Go.Lib Go.Sort
set_option linter.unusedVariables false

set_option maxRecDepth 100000 in
theorem len64_any (x : Int) (h0 : 0 ≤ x) (h1 : x ≤ 8) (w : World) : Calls Try.prog 43 #[.int .u64 x] w fun r w' => ∃ k : Int, r = .returned (.int .i64 k) ∧ Below w.heap.size w w' := by
  have u1 : ¬ 4294967296 ≤ x := by omega
  have u2 : ¬ 65536 ≤ x := by omega
  have u3 : ¬ 256 ≤ x := by omega
  have u4 : IntKind.u8.wrap x = x := by rw [IntKind.wrap_u8]; omega
  have f1 := len8_of x h0 (by omega)
  have b1 := bitLen_le8' x h0 (by omega)
  have p1 : 0 ≤ len8 x := by rw [f1]; omega
  have p2 : len8 x ≤ 8 := by rw [f1]; omega
  have k3 : x ≤ 255 := by omega
  clear f1 b1
  go_enter Try.func43, Try.ntmps43
  go_wp2
  go_ret
  exact ⟨⟨_, rfl⟩, Below.refl _ _⟩
theorem len_any (x : Int) (h0 : 0 ≤ x) (h1 : x ≤ 8) (w : World) : Calls Try.prog 31 #[.int .u64 x] w fun r w' => ∃ k : Int, r = .returned (.int .i64 k) ∧ Below w.heap.size w w' := by
  have HC := Lib.hid (len64_any x h0 h1 w)
  have u4 : IntKind.u64.wrap x = x := by rw [IntKind.wrap_u64]; omega
  go_enter Try.func31, Try.ntmps31
  go_wp2_with (go_at_call 43; refine HC.out.mono ?_; rintro e w1 ⟨k, rfl, b1⟩; have B1 := Lib.hid b1; clear b1)
  go_ret
  first | exact ⟨⟨_, rfl⟩, B1.out⟩ | exact ⟨_, rfl, B1.out⟩
theorem pdqr_any (g n cap : Nat) (l : Int) (d : Nat → Reg) (w : World) (h : RowR w g n cap d) (hn : n ≤ 8) :
    Calls Try.prog 30 #[.slice (some ⟨g, 0, none⟩) n cap, .int .i64 0, .int .i64 n, .int .i64 l, .func (.func 23) #[] #[]] w fun r w' => r = .returned (.tuple #[]) ∧ SortsR g n cap 0 n d w w' := by
  have hs := insertr_any g n cap 0 n d w h (by omega) (by omega) (by omega)
  have HS := Lib.hid hs
  have i1 : (n : Int) ≤ 12 := by omega
  clear hs h
  go_enter Try.func30, Try.ntmps30
  go_wp2
  refine wp_loop_rounds 1 ?_
  rw [rounds_succ]
  go_wp2_with (go_at_call 34; refine HS.out.mono ?_; rintro e w1 ⟨rfl, h1⟩)
  refine bodyPost_ret (results_none rfl _ _ _) rfl ?_
  exact ⟨rfl, h1⟩
theorem insertr_nil (w : World) : Calls Try.prog 34 #[.slice none 0 0, .int .i64 0, .int .i64 0, .func (.func 23) #[] #[]] w fun r w' => r = .returned (.tuple #[]) ∧ w = w' := by
  go_enter Try.func34, Try.ntmps34
  go_wp2
  refine wp_loop_rounds 1 ?_
  rw [rounds_succ]
  go_wp2
  go_end0
  exact ⟨rfl, rfl⟩
theorem pdqr_nil (l : Int) (w : World) : Calls Try.prog 30 #[.slice none 0 0, .int .i64 0, .int .i64 0, .int .i64 l, .func (.func 23) #[] #[]] w fun r w' => r = .returned (.tuple #[]) ∧ w = w' := by
  go_enter Try.func30, Try.ntmps30
  go_wp2
  refine wp_loop_rounds 1 ?_
  rw [rounds_succ]
  go_wp2_with (go_at_call 34; refine (insertr_nil _).mono ?_; rintro e w1 ⟨rfl, rfl⟩)
  refine bodyPost_ret (results_none rfl _ _ _) rfl ?_
  exact ⟨rfl, rfl⟩
theorem sortr_nil (w : World) : Calls Try.prog 22 #[.slice none 0 0, .func (.func 23) #[] #[]] w fun r w' => r = .returned (.tuple #[]) ∧ Below w.heap.size w w' := by
  go_enter Try.func22, Try.ntmps22
  go_wp2_with (first | (go_at_call 31; refine (len_any 0 (by omega) (by omega) _).mono ?_; rintro e w1 ⟨k, rfl, b1⟩; have B1 := Lib.hid b1; clear b1) | (go_at_call 30; refine (pdqr_nil _ _).mono ?_; rintro e w2 ⟨rfl, rfl⟩))
  go_end0
  exact ⟨rfl, B1.out⟩
theorem sortr_any (g n cap : Nat) (d : Nat → Reg) (w : World) (h : RowR w g n cap d) (hn : n ≤ 8) :
    Calls Try.prog 22 #[.slice (some ⟨g, 0, none⟩) n cap, .func (.func 23) #[] #[]] w fun r w' => r = .returned (.tuple #[]) ∧ SortsR g n cap 0 n d w w' := by
  have hl := len_any (n : Int) (by omega) (by omega) w
  have hs := fun (l : Int) W (hb : RowR W g n cap d) => pdqr_any g n cap l d W hb hn
  have u4 : IntKind.u64.wrap (n : Int) = (n : Int) := by rw [IntKind.wrap_u64]; omega
  have HL := Lib.hid hl
  have HS := Lib.hid hs
  have HR := Lib.hid h
  clear hs h hl
  go_enter Try.func22, Try.ntmps22
  go_wp2_with (first | (go_at_call 31; refine HL.out.mono ?_; rintro e w1 ⟨k, rfl, b1⟩; have B1 := Lib.hid b1; have R1 := Lib.hid (HR.out.below b1); clear b1) | (go_at_call 30; refine (HS.out _ _ R1.out).mono ?_; rintro e w2 ⟨rfl, h2⟩; have H2 := Lib.hid h2; clear h2))
  go_end0
  obtain ⟨d', p1, p2, p3, p4⟩ := H2.out
  exact ⟨rfl, d', p1, p2, p3, only_trans (only_any (only_far B1.out) _) p4⟩
end Go.Proofs.Ythlapnljinkekaa
