/- What is asked whatever the input: Turn, Near and Norm at the example's numbers. -/
import Derived.Test.YtnbkghlcpcmigaaPF1
namespace Go.Proofs.Ytnbkghlcpcmigaa
open Go.RowKit Go.Lib Wh
set_option linter.unusedVariables false

/-- The example's three numbers, which is the nearest so far, and how near. -/
def nx : Nat → Nat × Nat
  | 0 => (4611686018427387904, 0)
  | 1 => (0, 4607182418800017408)
  | _ => (4607182418800017408, 0)
def nb : Nat → Int × Nat
  | 0 => (-1, 0)
  | 1 => (0, 4611686018427387904)
  | _ => (1, 4607182418800017408)

theorem nan_some (a : Nat) (w : World) (h : (FloatKind.f64.format.order a a != some Ordering.eq) = false) : Calls Try.prog 11 #[.float .f64 a] w fun e w' => e = .returned (.bool false) ∧ w = w' := by
  go_enter Try.func11, Try.ntmps11
  go_wp2
  go_ret
  exact ⟨rfl, rfl⟩

theorem near_ex (g : Nat) (w : World) (c0 : w.cell? ⟨g, 0, none⟩ = some (Cx 4611686018427387904 0)) (c1 : w.cell? ⟨g, 1, none⟩ = some (Cx 0 4607182418800017408)) (c2 : w.cell? ⟨g, 2, none⟩ = some (Cx 4607182418800017408 0)) :
    Calls Try.prog 9 #[Cx 4607182418800017408 4607182418800017408, .slice (some ⟨g, 0, none⟩) 3 3] w fun e w' => e = .returned (.int .i64 1) ∧ w = w' := by
  have s1 := fun t w => run_float_arith (P := Try.prog) w .sub t .f64 4607182418800017408 4611686018427387904 13830554455654793216 (by decide +kernel)
  have s2 := fun t w => run_float_arith (P := Try.prog) w .sub t .f64 4607182418800017408 0 4607182418800017408 (by decide +kernel)
  have s3 := fun t w => run_float_arith (P := Try.prog) w .sub t .f64 4607182418800017408 4607182418800017408 0 (by decide +kernel)
  have n1 := fun w => norm_raw 13830554455654793216 4607182418800017408 4607182418800017408 4607182418800017408 4611686018427387904 w (by decide +kernel) (by decide +kernel) (by decide +kernel)
  have n2 := fun w => norm_raw 4607182418800017408 0 4607182418800017408 0 4607182418800017408 w (by decide +kernel) (by decide +kernel) (by decide +kernel)
  have n3 := fun w => norm_raw 0 4607182418800017408 0 4607182418800017408 4607182418800017408 w (by decide +kernel) (by decide +kernel) (by decide +kernel)
  have i1 := fun w => nan_some 4611686018427387904 w (by decide +kernel)
  have i2 := fun w => nan_some 4607182418800017408 w (by decide +kernel)
  have o1 : (FloatKind.f64.format.order 4607182418800017408 4611686018427387904 == some Ordering.lt) = true := by decide +kernel
  have o2 : (FloatKind.f64.format.order 4607182418800017408 4607182418800017408 == some Ordering.lt) = false := by decide +kernel
  have N1 := Lib.hid n1
  have N2 := Lib.hid n2
  have N3 := Lib.hid n3
  have I1 := Lib.hid i1
  have I2 := Lib.hid i2
  clear n1 n2 n3 i1 i2
  go_enter Try.func9, Try.ntmps9
  go_wp2
  go_loop [5, 6, 12] (fun b l k => ∃ i : Nat, b = .int .i64 (nb i).1 ∧ l = .float .f64 (nb i).2 ∧ k = .int .i64 i ∧ i ≤ 3) (fun _ _ k => (3 - intOf k).toNat)
  case atStart => exact ⟨0, rfl, rfl, rfl, by omega⟩
  case round =>
    obtain ⟨i, rfl, rfl, rfl, hi⟩ := hrel
    rcases (by omega : i = 0 ∨ i = 1 ∨ i = 2 ∨ i = 3) with rfl | rfl | rfl | rfl
    · simp only [nb]
      go_wp2_with (first | simp only [s1] | simp only [s2] | simp only [s3] | (go_at_call 6; with_reducible refine (N1.out _).mono ?_; rintro e w' ⟨rfl, rfl⟩) | (go_at_call 11; with_reducible refine (I1.out _).mono ?_; rintro e w' ⟨rfl, rfl⟩))
      exact ⟨⟨1, rfl, rfl, rfl, by omega⟩, by simp [intOf]⟩
    · simp only [nb]
      go_wp2_with (first | simp only [s1] | simp only [s2] | simp only [s3] | (go_at_call 6; with_reducible refine (N2.out _).mono ?_; rintro e w' ⟨rfl, rfl⟩) | (go_at_call 11; with_reducible refine (I2.out _).mono ?_; rintro e w' ⟨rfl, rfl⟩))
      exact ⟨⟨2, rfl, rfl, rfl, by omega⟩, by simp [intOf]⟩
    · simp only [nb]
      go_wp2_with (first | simp only [s1] | simp only [s2] | simp only [s3] | (go_at_call 6; with_reducible refine (N3.out _).mono ?_; rintro e w' ⟨rfl, rfl⟩) | (go_at_call 11; with_reducible refine (I2.out _).mono ?_; rintro e w' ⟨rfl, rfl⟩))
      exact ⟨⟨3, rfl, rfl, rfl, by omega⟩, by simp [intOf]⟩
    · simp only [nb]
      go_wp2
      go_ret
      exact ⟨rfl, rfl⟩

theorem live9_any (w : World) : Calls Try.prog 4 #[] w fun e w' => e = .returned (.bool true) ∧ Below w.heap.size w w' := by
  have t1 : ∀ w, Calls Try.prog 8 #[Cx 4613937818241073152 4616189618054758400, .int .i64 1] w fun e w' => e = .returned (Cx (trn 1 (4613937818241073152, 4616189618054758400)).1 (trn 1 (4613937818241073152, 4616189618054758400)).2) ∧ w = w' := fun w => turn_raw 4613937818241073152 4616189618054758400 1 (by omega) w
  have e1 : trn 1 (4613937818241073152, 4616189618054758400) = (13839561654909534208, 4613937818241073152) := by decide +kernel
  have e2 : ((FloatKind.f64.format.order 13839561654909534208 13839561654909534208 == some Ordering.eq) && (FloatKind.f64.format.order 4613937818241073152 4613937818241073152 == some Ordering.eq)) = true := by decide +kernel
  have n1 := fun w => norm_raw 4613937818241073152 4616189618054758400 4621256167635550208 4625196817309499392 4627730092099895296 w (by decide +kernel) (by decide +kernel) (by decide +kernel)
  have o1 : (FloatKind.f64.format.order 4627730092099895296 4627730092099895296 == some Ordering.eq) = true := by decide +kernel
  simp only [e1] at t1
  have T1 := Lib.hid t1
  have N1 := Lib.hid n1
  clear t1 n1 e1
  have hB : Blk (w.alloc (.cells #[Cx 4611686018427387904 0, Cx 0 4607182418800017408, Cx 4607182418800017408 0] 23)) w.heap.size 23 #[Cx 4611686018427387904 0, Cx 0 4607182418800017408, Cx 4607182418800017408 0] := Blk.new w _ _
  have H1 := Lib.hid (near_ex w.heap.size _ (hB.cell 0) (hB.cell 1) (hB.cell 2))
  clear hB
  go_enter Try.func4, Try.ntmps4
  go_wp2_with (first | (go_at_call 6; with_reducible refine (N1.out _).mono ?_; rintro e w' ⟨rfl, rfl⟩) | (go_at_call 8; with_reducible refine (T1.out _).mono ?_; rintro e w' ⟨rfl, rfl⟩) | (go_at_call 9; refine H1.out.mono ?_; rintro e w' ⟨rfl, rfl⟩))
  go_ret
  exact ⟨rfl, (Below.refl _ w).alloc (Nat.le_refl _) _⟩
end Go.Proofs.Ytnbkghlcpcmigaa
