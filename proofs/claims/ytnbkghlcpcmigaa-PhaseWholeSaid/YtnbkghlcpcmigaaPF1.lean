/- Times and Norm of whole numbers; a part that is whole, and how it is cut. -/
import Derived.Test.YtnbkghlcpcmigaaPF0
import Derived.Test.YtnbkghlcpcmigaaK
import Derived.Test.YtnbkghlcpcmigaaRows
import Derived.WalkMore
import Derived.ScopeJumps
import Derived.Lib.Hide
namespace Go.Proofs.Ytnbkghlcpcmigaa
open Go.RowKit Go.Lib Wh
set_option linter.unusedVariables false

/-- A complex number of words x and y. -/
abbrev Cx (x y : Nat) : Value := .complex .f64 x y

theorem times_raw (a b c d ac bd ad bc x y : Nat) (w : World) (h1 : floatBits .mul .f64 a c = some ac) (h2 : floatBits .mul .f64 b d = some bd) (h3 : floatBits .sub .f64 ac bd = some x)
    (h4 : floatBits .mul .f64 a d = some ad) (h5 : floatBits .mul .f64 b c = some bc) (h6 : floatBits .add .f64 ad bc = some y) :
    Calls Try.prog 5 #[Cx a b, Cx c d] w fun e w' => e = .returned (Cx x y) ∧ w = w' := by
  have e1 := fun t w => run_float_arith (P := Try.prog) w .mul t .f64 a c ac h1
  have e2 := fun t w => run_float_arith (P := Try.prog) w .mul t .f64 b d bd h2
  have e3 := fun t w => run_float_arith (P := Try.prog) w .sub t .f64 ac bd x h3
  have e4 := fun t w => run_float_arith (P := Try.prog) w .mul t .f64 a d ad h4
  have e5 := fun t w => run_float_arith (P := Try.prog) w .mul t .f64 b c bc h5
  have e6 := fun t w => run_float_arith (P := Try.prog) w .add t .f64 ad bc y h6
  clear h1 h2 h3 h4 h5 h6
  go_enter Try.func5, Try.ntmps5
  go_wp2_with (first | simp only [e1] | simp only [e2] | simp only [e3] | simp only [e4] | simp only [e5] | simp only [e6])
  go_ret
  exact ⟨rfl, rfl⟩

theorem norm_raw (a b aa bb x : Nat) (w : World) (h1 : floatBits .mul .f64 a a = some aa) (h2 : floatBits .mul .f64 b b = some bb) (h3 : floatBits .add .f64 aa bb = some x) :
    Calls Try.prog 6 #[Cx a b] w fun e w' => e = .returned (.float .f64 x) ∧ w = w' := by
  have e1 := fun t w => run_float_arith (P := Try.prog) w .mul t .f64 a a aa h1
  have e2 := fun t w => run_float_arith (P := Try.prog) w .mul t .f64 b b bb h2
  have e3 := fun t w => run_float_arith (P := Try.prog) w .add t .f64 aa bb x h3
  clear h1 h2 h3
  go_enter Try.func6, Try.ntmps6
  go_wp2_with (first | simp only [e1] | simp only [e2] | simp only [e3])
  go_ret
  exact ⟨rfl, rfl⟩

/-- Turned by so many quarters. -/
def trn : Nat → Nat × Nat → Nat × Nat
  | 0, z => z
  | n + 1, z => trn n (Op.negFloat .f64 z.2, z.1)

set_option maxRecDepth 100000 in
theorem turn_raw (a b k : Nat) (hk : k < 4) (w : World) :
    Calls Try.prog 8 #[Cx a b, .int .i64 k] w fun e w' => e = .returned (Cx (trn k (a, b)).1 (trn k (a, b)).2) ∧ w = w' := by
  have hneg : ∀ x, Op.unary .neg (.float .f64 x) = pure (.float .f64 (Op.negFloat .f64 x)) := fun _ => rfl
  have hand : bits .and .i64 (k : Int) 3 = (k : Int) := by
    rcases (by omega : k = 0 ∨ k = 1 ∨ k = 2 ∨ k = 3) with rfl | rfl | rfl | rfl <;> decide +kernel
  go_enter Try.func8, Try.ntmps8
  go_wp2
  refine wp_scope_jumps 0 (fun a' w' => w' = w ∧ ∃ (m x y : Nat) (u5 u6 u7 u8 u9 u10 u11 u12 u13 u14 u15 u16 u17 : Value), a' = { tmps := #[Cx x y, .int .i64 m, undef, undef, Cx 0 0, u5, u6, u7, u8, u9, u10, u11, u12, u13, u14, u15, u16, u17], defers := [] } ∧ trn m (x, y) = trn k (a, b) ∧ m < 4) (fun a' _ => (intOf (a'.tmps.getD 1 undef)).toNat) rfl ?_ ?_
  · go_wp2
    go_step3
    go_wp2
    · rename_i h0
      obtain rfl : k = 0 := by simp at h0; omega
      simp only [Exit.jump]
      go_ret
      exact ⟨rfl, rfl⟩
    · rename_i h0
      obtain ⟨j, rfl⟩ : ∃ j, k = j + 1 := ⟨k - 1, by simp at h0; omega⟩
      go_step3
      rw [show ((j + 1 : Nat) : Int) - 1 = (j : Int) by omega]
      exact ⟨rfl, rfl, j, _, _, _, _, _, _, _, _, _, _, _, _, _, _, _, rfl, rfl, by omega⟩
  · rintro a' w' ⟨rfl, m, x, y, u5, u6, u7, u8, u9, u10, u11, u12, u13, u14, u15, u16, u17, rfl, hs, hm⟩
    go_wp2
    · rename_i h0
      obtain rfl : m = 0 := by simp at h0; omega
      simp only [Exit.jump]
      go_ret
      rw [← hs]
      exact ⟨rfl, rfl⟩
    · rename_i h0
      obtain ⟨j, rfl⟩ : ∃ j, m = j + 1 := ⟨m - 1, by simp at h0; omega⟩
      go_step3
      rw [show ((j + 1 : Nat) : Int) - 1 = (j : Int) by omega]
      refine ⟨rfl, ⟨rfl, j, _, _, _, _, _, _, _, _, _, _, _, _, _, _, _, rfl, hs, by omega⟩, ?_⟩
      simp [intOf]

/-- archTrunc of a whole number. -/
theorem trunc_V (a : Nat) (n : Int) (h : V a n) (hn : n.natAbs < 9007199254740992) : ∃ r, V r n ∧ ∀ w, Calls Try.prog 12 #[.float .f64 a] w fun e w' => e = .returned (.float .f64 r) ∧ w = w' := by
  obtain ⟨s, t, hd, hs⟩ := h
  refine ⟨_, (Dt.integral .zero ⟨s, t, hd, hs⟩).write hn, fun w => ?_⟩
  rw [hd]
  have hdec : FloatKind.f64.decode a = .number s (n.natAbs * 2 ^ t) (-(t : Int)) := hd
  generalize n.natAbs * 2 ^ t = N at hdec
  generalize -(t : Int) = T at hdec
  have hx : ∀ w, (Extern.MathFloor.toIntegral "math.archTrunc" .zero #[.float .f64 a]).run Try.prog w = .ok (.float .f64 (Ieee.double.write ((Ieee.Datum.number s N T).integral .zero))) w := by
    intro w
    change Sem.run Try.prog (match FloatKind.f64.decode a with
      | .nan s t => if FloatKind.f64.format.quiet t = t then pure (Value.float .f64 a) else _
      | d => pure (.float .f64 (FloatKind.f64.encode (d.integral .zero)))) w = _
    rw [hdec]
    rfl
  have hf : Try.prog.funcs[13]? = some Try.f13 := Try.func13
  have hc : ∀ w, (callFunc 13 #[.float .f64 a]).run Try.prog w = .ok (.value (.float .f64 (Ieee.double.write ((Ieee.Datum.number s N T).integral .zero)))) w := fun w => by
    rw [run_callFunc_extern hf (by kernel_rfl) (by kernel_rfl) (by kernel_rfl) (e := Extern.MathFloor.toIntegral "math.archTrunc" .zero) (by kernel_rfl), hx]
    rfl
  generalize Ieee.double.write ((Ieee.Datum.number s N T).integral .zero) = r at hc
  clear hx hf hdec hd
  go_enter Try.func12, Try.ntmps12
  go_wp2
  go_ret
  exact ⟨rfl, rfl⟩

theorem Wh.V.neg {a : Nat} {n : Int} (h : V a n) : V (Op.negFloat .f64 a) (-n) := by
  have e : Ieee.double.read (Op.negFloat .f64 a) = (Ieee.double.read a).opposite := by
    have hx : Op.negFloat .f64 a = a ^^^ 2 ^ 63 := rfl
    have h1 : (a ^^^ 2 ^ 63) % 9223372036854775808 = a % 9223372036854775808 := by
      have := Nat.xor_mod_two_pow (a := a) (b := 2 ^ 63) (n := 63)
      simpa using this
    have h2 : (a ^^^ 2 ^ 63) / 9223372036854775808 % 2 = 1 - a / 9223372036854775808 % 2 := by
      have e1 := Nat.xor_div_two_pow (a := a) (b := 2 ^ 63) (n := 63)
      have e2 : (2 ^ 63 : Nat) / 2 ^ 63 = 1 := by decide +kernel
      rw [e2] at e1
      have e3 : (a ^^^ 2 ^ 63) / 9223372036854775808 = (a / 9223372036854775808) ^^^ 1 := e1
      rw [e3]
      have e4 := Nat.xor_mod_two_pow (a := a / 9223372036854775808) (b := 1) (n := 1)
      have e5 : ((a / 9223372036854775808) ^^^ 1) % 2 = (a / 9223372036854775808 % 2) ^^^ 1 := e4
      rw [e5]
      rcases (by omega : a / 9223372036854775808 % 2 = 0 ∨ a / 9223372036854775808 % 2 = 1) with q | q <;> rw [q] <;> rfl
    rw [hx]
    unfold Ieee.Format.read
    simp only [signWeight_eq, h1, h2]
    have h3 : ((1 - a / 9223372036854775808 % 2 : Nat) == 1) = !(a / 9223372036854775808 % 2 == 1) := by
      rcases (by omega : a / 9223372036854775808 % 2 = 0 ∨ a / 9223372036854775808 % 2 = 1) with q | q <;> rw [q] <;> rfl
    rw [h3]
    split
    · rfl
    · split
      · rfl
      · split <;> rfl
  show Dt _ _
  rw [e]
  exact Dt.opposite h

theorem Wh.V.leq {a b : Nat} {n m : Int} (h : V a n) (h' : V b m) (hn : n ≤ m) : (FloatKind.f64.format.order a b == some Ordering.lt || FloatKind.f64.format.order a b == some Ordering.eq) = true := by
  rw [h.order h']
  rcases Int.lt_or_eq_of_le hn with q | rfl
  · rw [Int.compare_eq_lt.2 q]; rfl
  · simp
theorem Wh.V.eql {a b : Nat} {n : Int} (h : V a n) (h' : V b n) : (FloatKind.f64.format.order a b == some Ordering.eq) = true := by
  rw [h.order h']
  simp

theorem isWhole_V (a b : Nat) (n m : Int) (h : V a n) (h' : V b m) (h1 : -m ≤ n) (h2 : n ≤ m) (hn : n.natAbs < 9007199254740992) (w : World) :
    Calls Try.prog 10 #[.float .f64 a, .float .f64 b] w fun e w' => e = .returned (.bool true) ∧ w = w' := by
  obtain ⟨r, hr, ht⟩ := trunc_V a n h hn
  have hneg : ∀ x, Op.unary .neg (.float .f64 x) = pure (.float .f64 (Op.negFloat .f64 x)) := fun _ => rfl
  have l1 := h'.neg.leq h h1
  have l2 := h.leq h' h2
  have l3 := hr.eql h
  have HT := Lib.hid ht
  clear h h' h1 h2 hr ht hn
  go_enter Try.func10, Try.ntmps10
  go_wp2_with (go_at_call 12; refine (HT.out _).mono ?_; rintro e w' ⟨rfl, rfl⟩)
  go_ret
  exact ⟨rfl, rfl⟩

theorem whole_V (a b : Nat) (n k m : Int) (h : V a n) (h' : V b k) (h1 : -m ≤ n) (h2 : n ≤ m) (h3 : -m ≤ k) (h4 : k ≤ m) (hm : m.natAbs < 9007199254740992) (w : World) :
    Calls Try.prog 7 #[Cx a b, .int .i64 m] w fun e w' => e = .returned (.bool true) ∧ w = w' := by
  have h5 : V (floatOfInt .f64 m) m := V.ofInt hm
  have H1 := Lib.hid (fun w => isWhole_V a _ n m h h5 h1 h2 (by omega) w)
  have H2 := Lib.hid (fun w => isWhole_V b _ k m h' h5 h3 h4 (by omega) w)
  clear h h' h1 h2 h3 h4 h5 hm
  go_enter Try.func7, Try.ntmps7
  go_wp2_with (first | (go_at_call 10; with_reducible refine (H1.out _).mono ?_; rintro e w' ⟨rfl, rfl⟩) | (go_at_call 10; with_reducible refine (H2.out _).mono ?_; rintro e w' ⟨rfl, rfl⟩))
  go_ret
  exact ⟨rfl, rfl⟩
end Go.Proofs.Ytnbkghlcpcmigaa
