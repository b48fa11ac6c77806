/- What every law of package bits asks first: the short trial of a reader. -/
import Derived.Test.YtblchpaoffdniabB2
import Derived.Deep.RegionWith
namespace Go.Proofs.Ytblchpaoffdniab
open Go.RowKit Go.Lib
set_option linter.unusedVariables false

def S3 : ByteArray := ⟨#[1, 2, 3]⟩
theorem live_two (b : Nat) (w : World) (h : Rd w b S3 0 0) : Calls Try.prog 20 #[.pointer (some ⟨b, 0, none⟩)] w fun r w' => r = .returned (.int .i64 513) ∧ Rd w' b S3 2 0 ∧ w.grownBy w' (some b) :=
  (rdtwo_any b S3 0 0 w h (by decide) (by decide)).mono fun e w' ⟨h1, h2, h3⟩ => ⟨h1, h2, h3⟩
theorem live_byte (b : Nat) (w : World) (h : Rd w b S3 2 0) : Calls Try.prog 19 #[.pointer (some ⟨b, 0, none⟩)] w fun r w' => r = .returned (.int .i64 3) ∧ Rd w' b S3 3 0 ∧ w.grownBy w' (some b) :=
  (byte_any b S3 2 0 w h (by decide) (by decide)).mono fun e w' ⟨h1, h2, h3⟩ => ⟨h1, h2, h3⟩
theorem live_end (b : Nat) (w : World) (h : Rd w b S3 3 0) : Calls Try.prog 19 #[.pointer (some ⟨b, 0, none⟩)] w fun r w' => r = .returned (.int .i64 0) ∧ Rd w' b S3 3 5 ∧ w.grownBy w' (some b) :=
  (byte_any b S3 3 0 w h (by decide) (by decide)).mono fun e w' ⟨h1, h2, h3⟩ => ⟨h1, h2, h3⟩
theorem live_err (b : Nat) (w : World) (h : Rd w b S3 3 5) : Calls Try.prog 24 #[.pointer (some ⟨b, 0, none⟩)] w fun r w' => r = .returned (.int .i64 5) ∧ w = w' := err_any b S3 3 5 w h
theorem live_put (w : World) : Calls Try.prog 14 #[.int .i64 513] w fun e w' => e = .returned (.string ⟨#[1, 2]⟩) ∧ w.alloc (.cells #[.int .u8 1, .int .u8 2] 5) = w' :=
  (put_any 513 w).mono fun e w' ⟨h1, h2⟩ => ⟨h1, h2⟩
theorem live_num (w : World) : Calls Try.prog 12 #[.int .i64 1, .int .i64 2] w fun e w' => e = .returned (.int .i64 513) ∧ w = w' :=
  (two_any 1 2 w).mono fun e w' ⟨h1, h2⟩ => ⟨h1, h2⟩

theorem live_any (w : World) : Calls Try.prog 7 #[] w fun e w' => e = .returned (.bool true) ∧ Below w.heap.size w w' := by
  have b0 : Rd (w.alloc (.cells #[.int .i64 0, .string S3, .int .i64 0] 58)) w.heap.size S3 0 0 := Blk.new _ _ _
  have b1 := b0.alloc (.cells #[.int .u8 1, .int .u8 2] 5)
  have B1 := Lib.hid b1
  clear b0 b1
  go_enter Try.func7, Try.ntmps7
  go_wp2_with (first | (go_at_call 18; refine (new_any S3 _).mono ?_; rintro e w' ⟨rfl, rfl⟩) | (go_at_call 14; refine (live_put _).mono ?_; rintro e w' ⟨rfl, rfl⟩) | (go_at_call 12; refine (live_num _).mono ?_; rintro e w' ⟨rfl, rfl⟩) | (go_at_call 20; refine (live_two _ _ B1.out).mono ?_; rintro e w1 ⟨rfl, h1, g1⟩) | (go_at_call 24; refine (live_err _ _ (by assumption)).mono ?_; rintro e w4 ⟨rfl, rfl⟩) | (go_at_call 19; refine (live_byte _ _ (by assumption)).mono ?_; rintro e w2 ⟨rfl, h2, g2⟩) | (go_at_call 19; refine (live_end _ _ (by assumption)).mono ?_; rintro e w3 ⟨rfl, h3, g3⟩))
  go_ret
  refine ⟨rfl, ?_⟩
  have k0 : Below w.heap.size w ((w.alloc (.cells #[.int .i64 0, .string S3, .int .i64 0] 58)).alloc (.cells #[.int .u8 1, .int .u8 2] 5)) := ((Below.refl _ _).alloc (Nat.le_refl _) _).alloc (by simp) _
  have kk : ∀ k, some w.heap.size = some k → w.heap.size ≤ k := fun k hk => by injection hk with hk; omega
  have k1 := k0.trans (below_of_only g1 k0.size kk)
  have k2 := k1.trans (below_of_only g2 k1.size kk)
  exact k2.trans (below_of_only g3 k2.size kk)
end Go.Proofs.Ytblchpaoffdniab
