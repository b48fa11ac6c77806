/- Byte: the byte that a byte's symbols say. -/
import Derived.Test.YtnbkghlcpcmigabDoorTL2
namespace Go.Proofs.YtnbkghlcpcmigabDoor
open Go.RowKit Go.Lib
set_option linter.unusedVariables false

/-- What is gathered of a byte behind i of its symbols. -/
def ac (b : Nat) : Nat → Nat
  | 0 => 0
  | 1 => b / 64 * 64
  | 2 => b / 16 * 16
  | 3 => b / 4 * 4
  | _ => b

theorem or_all : ∀ b : Fin 256, bits .or .i64 0 (((b.val / 64 % 4 : Nat) : Int) * 64) = ((ac b.val 1 : Nat) : Int) ∧ bits .or .i64 ((ac b.val 1 : Nat) : Int) (((b.val / 16 % 4 : Nat) : Int) * 16) = ((ac b.val 2 : Nat) : Int) ∧
    bits .or .i64 ((ac b.val 2 : Nat) : Int) (((b.val / 4 % 4 : Nat) : Int) * 4) = ((ac b.val 3 : Nat) : Int) ∧ bits .or .i64 ((ac b.val 3 : Nat) : Int) ((b.val % 4 : Nat) : Int) = ((ac b.val 4 : Nat) : Int) := by decide +kernel

set_option maxRecDepth 100000 in
set_option maxHeartbeats 1600000 in
theorem byte_any (b : Nat) (hb : b < 256) (w : World) (hG : Gr w) : Calls Tryd.prog 10 #[.agg (tc b 4)] w fun e w' => e = .returned (.tuple #[.int .i64 b, .int .i64 0]) ∧ Below w.heap.size w w' := by
  have hS := fun (n : Nat) (wr : World) (h : Below w.heap.size w wr) => says_any n wr (hG.below h hG.pos)
  have HS0 := Lib.hid (hS (b / 64))
  have HS1 := Lib.hid (hS (b / 16))
  have HS2 := Lib.hid (hS (b / 4))
  have HS3 := Lib.hid (hS b)
  clear hS hG
  obtain ⟨o0, o1, o2, o3⟩ := or_all ⟨b, hb⟩
  have O0 := Lib.hid o0
  have O1 := Lib.hid o1
  have O2 := Lib.hid o2
  have O3 := Lib.hid o3
  clear o0 o1 o2 o3
  have m0 : b / 64 % 4 < 4 := by omega
  have m1 : b / 16 % 4 < 4 := by omega
  have m2 : b / 4 % 4 < 4 := by omega
  have m3 : b % 4 < 4 := by omega
  generalize b / 64 % 4 = s0 at HS0 m0 O0
  generalize b / 16 % 4 = s1 at HS1 m1 O1
  generalize b / 4 % 4 = s2 at HS2 m2 O2
  generalize b % 4 = s3 at HS3 m3 O3
  simp only [tc]
  go_enter Tryd.func10, Tryd.ntmps10
  go_wp2_with fail
  have HB := Lib.hid ((Below.refl _ w).alloc (Nat.le_refl _) (.cells #[Sy (b / 64), Sy (b / 16), Sy (b / 4), Sy b] 31))
  generalize w.alloc (.cells #[Sy (b / 64), Sy (b / 16), Sy (b / 4), Sy b] 31) = w1 at HB ⊢
  go_loop [4, 9] (fun v x => ∃ i : Nat, v = .int .i64 (ac b i) ∧ x = .int .i64 i ∧ i ≤ 4) (fun _ x => (4 - intOf x).toNat)
  case atStart => exact ⟨0, rfl, rfl, by omega⟩
  case round =>
    obtain ⟨i, rfl, rfl, hi⟩ := hrel
    have HH := fun (i : Nat) (hi : i < 4) (w : World) => shift_any i hi w
    rcases (by omega : i = 0 ∨ i = 1 ∨ i = 2 ∨ i = 3 ∨ i = 4) with rfl | rfl | rfl | rfl | rfl
    · have HSi := Lib.hid (show ∀ w, Calls Tryd.prog 15 #[.int .i64 0] w fun e w' => e = .returned (.int .i64 6) ∧ w = w' from HH 0 (by omega))
      have HX := Lib.hid (HS0.out _ HB.out)
      have i1 : ¬ (s0 : Int) < 0 := by omega
      have hx : ∀ w, (Instr.index 31 (.agg #[Sy (b / 64), Sy (b / 16), Sy (b / 4), Sy b]) (.int .i64 0)).run Tryd.prog w = .ok (Sy (b / 64)) w := fun w => by kernel_rfl
      clear HH
      go_wp2_with (first | (go_at_call 15; with_reducible refine (HSi.out _).mono ?_; rintro e w' ⟨rfl, rfl⟩) | (go_at_call 16; with_reducible refine HX.out.mono ?_; rintro e w' ⟨rfl, rfl⟩))
      exact ⟨⟨1, congrArg (Value.int .i64) O0.out, rfl, by omega⟩, by simp [intOf]⟩
    · have HSi := Lib.hid (show ∀ w, Calls Tryd.prog 15 #[.int .i64 1] w fun e w' => e = .returned (.int .i64 4) ∧ w = w' from HH 1 (by omega))
      have HX := Lib.hid (HS1.out _ HB.out)
      have i1 : ¬ (s1 : Int) < 0 := by omega
      have hx : ∀ w, (Instr.index 31 (.agg #[Sy (b / 64), Sy (b / 16), Sy (b / 4), Sy b]) (.int .i64 1)).run Tryd.prog w = .ok (Sy (b / 16)) w := fun w => by kernel_rfl
      clear HH
      go_wp2_with (first | (go_at_call 15; with_reducible refine (HSi.out _).mono ?_; rintro e w' ⟨rfl, rfl⟩) | (go_at_call 16; with_reducible refine HX.out.mono ?_; rintro e w' ⟨rfl, rfl⟩))
      exact ⟨⟨2, congrArg (Value.int .i64) O1.out, rfl, by omega⟩, by simp [intOf]⟩
    · have HSi := Lib.hid (show ∀ w, Calls Tryd.prog 15 #[.int .i64 2] w fun e w' => e = .returned (.int .i64 2) ∧ w = w' from HH 2 (by omega))
      have HX := Lib.hid (HS2.out _ HB.out)
      have i1 : ¬ (s2 : Int) < 0 := by omega
      have hx : ∀ w, (Instr.index 31 (.agg #[Sy (b / 64), Sy (b / 16), Sy (b / 4), Sy b]) (.int .i64 2)).run Tryd.prog w = .ok (Sy (b / 4)) w := fun w => by kernel_rfl
      clear HH
      go_wp2_with (first | (go_at_call 15; with_reducible refine (HSi.out _).mono ?_; rintro e w' ⟨rfl, rfl⟩) | (go_at_call 16; with_reducible refine HX.out.mono ?_; rintro e w' ⟨rfl, rfl⟩))
      exact ⟨⟨3, congrArg (Value.int .i64) O2.out, rfl, by omega⟩, by simp [intOf]⟩
    · have HSi := Lib.hid (show ∀ w, Calls Tryd.prog 15 #[.int .i64 3] w fun e w' => e = .returned (.int .i64 0) ∧ w = w' from HH 3 (by omega))
      have HX := Lib.hid (HS3.out _ HB.out)
      have i1 : ¬ (s3 : Int) < 0 := by omega
      have hx : ∀ w, (Instr.index 31 (.agg #[Sy (b / 64), Sy (b / 16), Sy (b / 4), Sy b]) (.int .i64 3)).run Tryd.prog w = .ok (Sy b) w := fun w => by kernel_rfl
      clear HH
      go_wp2_with (first | (go_at_call 15; with_reducible refine (HSi.out _).mono ?_; rintro e w' ⟨rfl, rfl⟩) | (go_at_call 16; with_reducible refine HX.out.mono ?_; rintro e w' ⟨rfl, rfl⟩))
      exact ⟨⟨4, congrArg (Value.int .i64) O3.out, rfl, by omega⟩, by simp [intOf]⟩
    · clear HH
      go_wp2
      go_ret2
      exact ⟨rfl, HB.out⟩
end Go.Proofs.YtnbkghlcpcmigabDoor
