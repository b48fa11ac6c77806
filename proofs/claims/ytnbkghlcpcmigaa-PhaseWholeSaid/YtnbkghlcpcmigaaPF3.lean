/- The walk of the law on whole numbers. -/
import Derived.Test.YtnbkghlcpcmigaaPF2
namespace Go.Proofs.Ytnbkghlcpcmigaa
open Go.RowKit Go.Lib Wh
set_option linter.unusedVariables false

theorem times_V {a b c d : Nat} {p q r s : Int} (ha : V a p) (hb : V b q) (hc : V c r) (hd : V d s) (h1 : (p * r).natAbs ≤ 1048576) (h2 : (q * s).natAbs ≤ 1048576) (h3 : (p * s).natAbs ≤ 1048576) (h4 : (q * r).natAbs ≤ 1048576) :
    ∃ x y, V x (p * r - q * s) ∧ V y (p * s + q * r) ∧ ∀ w, Calls Try.prog 5 #[Cx a b, Cx c d] w fun e w' => e = .returned (Cx x y) ∧ w = w' := by
  obtain ⟨ac, e1, v1⟩ := ha.mul hc (by omega)
  obtain ⟨bd, e2, v2⟩ := hb.mul hd (by omega)
  obtain ⟨x, e3, v3⟩ := v1.sub v2 (by omega)
  obtain ⟨ad, e4, v4⟩ := ha.mul hd (by omega)
  obtain ⟨bc, e5, v5⟩ := hb.mul hc (by omega)
  obtain ⟨y, e6, v6⟩ := v4.add v5 (by omega)
  exact ⟨x, y, v3, v6, fun w => times_raw a b c d ac bd ad bc x y w e1 e2 e3 e4 e5 e6⟩

theorem norm_V {a b : Nat} {p q : Int} (ha : V a p) (hb : V b q) (h1 : (p * p).natAbs ≤ 4503599627370496) (h2 : (q * q).natAbs < 4503599627370496) :
    ∃ x, V x (p * p + q * q) ∧ ∀ w, Calls Try.prog 6 #[Cx a b] w fun e w' => e = .returned (.float .f64 x) ∧ w = w' := by
  obtain ⟨aa, e1, v1⟩ := ha.mul ha (by omega)
  obtain ⟨bb, e2, v2⟩ := hb.mul hb (by omega)
  obtain ⟨x, e3, v3⟩ := v1.add v2 (by omega)
  exact ⟨x, v3, fun w => norm_raw a b aa bb x w e1 e2 e3⟩

theorem mul_bound {p r : Int} {k l : Nat} (m : Nat) (h1 : p.natAbs ≤ k) (h2 : r.natAbs ≤ l) (hm : k * l = m) : (p * r).natAbs ≤ m := by
  rw [Int.natAbs_mul, ← hm]
  exact Nat.mul_le_mul h1 h2

theorem id_norm (p q r s : Int) : (p * r - q * s) * (p * r - q * s) + (p * s + q * r) * (p * s + q * r) = (p * p + q * q) * (r * r + s * s) := by grind
theorem id_re (p q r s : Int) : r * p - s * q = p * r - q * s := by rw [Int.mul_comm r p, Int.mul_comm s q]
theorem id_im (p q r s : Int) : r * q + s * p = p * s + q * r := by rw [Int.mul_comm r q, Int.mul_comm s p, Int.add_comm]

set_option maxHeartbeats 1600000 in
theorem whole_nums (p q r s : Int) (hp : p.natAbs ≤ 1024) (hq : q.natAbs ≤ 1024) (hr : r.natAbs ≤ 1024) (hs : s.natAbs ≤ 1024) :
    ∃ x y x' y' n : Nat, (∀ w, Calls Try.prog 5 #[Cx (floatOfInt .f64 p) (floatOfInt .f64 q), Cx (floatOfInt .f64 r) (floatOfInt .f64 s)] w fun e w' => e = .returned (Cx x y) ∧ w = w') ∧
      (∀ w, Calls Try.prog 5 #[Cx (floatOfInt .f64 r) (floatOfInt .f64 s), Cx (floatOfInt .f64 p) (floatOfInt .f64 q)] w fun e w' => e = .returned (Cx x' y') ∧ w = w') ∧
      (∀ w, Calls Try.prog 6 #[Cx x y] w fun e w' => e = .returned (.float .f64 n) ∧ w = w') ∧
      (∀ w, Calls Try.prog 7 #[Cx x y, .int .i64 2097152] w fun e w' => e = .returned (.bool true) ∧ w = w') ∧
      (FloatKind.f64.format.order x (floatOfInt .f64 (p * r - q * s)) == some Ordering.eq) = true ∧
      (FloatKind.f64.format.order y (floatOfInt .f64 (p * s + q * r)) == some Ordering.eq) = true ∧
      (FloatKind.f64.format.order n (floatOfInt .f64 ((p * p + q * q) * (r * r + s * s))) == some Ordering.eq) = true ∧
      ((FloatKind.f64.format.order x' x == some Ordering.eq) && (FloatKind.f64.format.order y' y == some Ordering.eq)) = true := by
  have b1 := mul_bound 1048576 hp hr rfl
  have b2 := mul_bound 1048576 hq hs rfl
  have b3 := mul_bound 1048576 hp hs rfl
  have b4 := mul_bound 1048576 hq hr rfl
  have b5 := mul_bound 1048576 hp hp rfl
  have b6 := mul_bound 1048576 hq hq rfl
  have b7 := mul_bound 1048576 hr hr rfl
  have b8 := mul_bound 1048576 hs hs rfl
  have vp : V (floatOfInt .f64 p) p := V.ofInt (Nat.lt_of_le_of_lt hp (by decide))
  have vq : V (floatOfInt .f64 q) q := V.ofInt (Nat.lt_of_le_of_lt hq (by decide))
  have vr : V (floatOfInt .f64 r) r := V.ofInt (Nat.lt_of_le_of_lt hr (by decide))
  have vs : V (floatOfInt .f64 s) s := V.ofInt (Nat.lt_of_le_of_lt hs (by decide))
  generalize floatOfInt .f64 p = P at vp
  generalize floatOfInt .f64 q = Q at vq
  generalize floatOfInt .f64 r = R at vr
  generalize floatOfInt .f64 s = S at vs
  obtain ⟨x, y, vx, vy, hT⟩ := times_V vp vq vr vs b1 b2 b3 b4
  obtain ⟨x', y', vx', vy', hT'⟩ := times_V vr vs vp vq (by rw [Int.mul_comm]; exact b1) (by rw [Int.mul_comm]; exact b2) (by rw [Int.mul_comm]; exact b4) (by rw [Int.mul_comm]; exact b3)
  have bx : (p * r - q * s).natAbs ≤ 2097152 := by omega
  have bY : (p * s + q * r).natAbs ≤ 2097152 := by omega
  have b9 : (p * p + q * q).natAbs ≤ 2097152 := by omega
  have b10 : (r * r + s * s).natAbs ≤ 2097152 := by omega
  have b11 := mul_bound 4398046511104 b9 b10 rfl
  have bxx := mul_bound 4398046511104 bx bx rfl
  have bYY := mul_bound 4398046511104 bY bY rfl
  rw [id_re p q r s] at vx'
  rw [id_im p q r s] at vy'
  clear b1 b2 b3 b4 b5 b6 b7 b8 b9 b10 hp hq hr hs vp vq vr vs
  obtain ⟨n, vn, hN⟩ := norm_V vx vy (Nat.le_trans bxx (by decide)) (Nat.lt_of_le_of_lt bYY (by decide))
  rw [id_norm p q r s] at vn
  generalize (p * p + q * q) * (r * r + s * s) = N at vn b11
  generalize p * r - q * s = X at *
  generalize p * s + q * r = Y at *
  have hW := whole_V x y X Y 2097152 vx vy (by omega) (by omega) (by omega) (by omega) (by decide)
  exact ⟨x, y, x', y', n, hT, hT', hN, hW, vx.eql (V.ofInt (Nat.lt_of_le_of_lt bx (by decide))), vy.eql (V.ofInt (Nat.lt_of_le_of_lt bY (by decide))), vn.eql (V.ofInt (Nat.lt_of_le_of_lt b11 (by decide))), by rw [vx'.eql vx, vy'.eql vy]; rfl⟩
end Go.Proofs.Ytnbkghlcpcmigaa
