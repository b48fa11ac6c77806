/- The walk of the law on whole numbers. -/
import Derived.Test.YtnbkghlcpcmigaaPF3
namespace Go.Proofs.Ytnbkghlcpcmigaa
open Go.RowKit Go.Lib Wh
set_option linter.unusedVariables false

theorem whole_wraps (p q r s : Int) (hp : p.natAbs ≤ 1024) (hq : q.natAbs ≤ 1024) (hr : r.natAbs ≤ 1024) (hs : s.natAbs ≤ 1024) :
    wrap64 (p * r) = p * r ∧
    wrap64 (q * s) = q * s ∧
    wrap64 (p * s) = p * s ∧
    wrap64 (q * r) = q * r ∧
    wrap64 (p * p) = p * p ∧
    wrap64 (q * q) = q * q ∧
    wrap64 (r * r) = r * r ∧
    wrap64 (s * s) = s * s ∧
    wrap64 (p * r - q * s) = p * r - q * s ∧
    wrap64 (p * s + q * r) = p * s + q * r ∧
    wrap64 (p * p + q * q) = p * p + q * q ∧
    wrap64 (r * r + s * s) = r * r + s * s ∧
    wrap64 ((p * p + q * q) * (r * r + s * s)) = (p * p + q * q) * (r * r + s * s) := by
  have b1 := mul_bound 1048576 hp hr rfl
  have b2 := mul_bound 1048576 hq hs rfl
  have b3 := mul_bound 1048576 hp hs rfl
  have b4 := mul_bound 1048576 hq hr rfl
  have b5 := mul_bound 1048576 hp hp rfl
  have b6 := mul_bound 1048576 hq hq rfl
  have b7 := mul_bound 1048576 hr hr rfl
  have b8 := mul_bound 1048576 hs hs rfl
  have b11 := mul_bound 4398046511104 (show (p * p + q * q).natAbs ≤ 2097152 by omega) (show (r * r + s * s).natAbs ≤ 2097152 by omega) rfl
  have c1 : wrap64 (p * r) = p * r := IntWalk.wrap64_in _ ⟨by omega, by omega⟩
  have c2 : wrap64 (q * s) = q * s := IntWalk.wrap64_in _ ⟨by omega, by omega⟩
  have c3 : wrap64 (p * s) = p * s := IntWalk.wrap64_in _ ⟨by omega, by omega⟩
  have c4 : wrap64 (q * r) = q * r := IntWalk.wrap64_in _ ⟨by omega, by omega⟩
  have c5 : wrap64 (p * p) = p * p := IntWalk.wrap64_in _ ⟨by omega, by omega⟩
  have c6 : wrap64 (q * q) = q * q := IntWalk.wrap64_in _ ⟨by omega, by omega⟩
  have c7 : wrap64 (r * r) = r * r := IntWalk.wrap64_in _ ⟨by omega, by omega⟩
  have c8 : wrap64 (s * s) = s * s := IntWalk.wrap64_in _ ⟨by omega, by omega⟩
  have c9 : wrap64 (p * r - q * s) = p * r - q * s := IntWalk.wrap64_in _ ⟨by omega, by omega⟩
  have c10 : wrap64 (p * s + q * r) = p * s + q * r := IntWalk.wrap64_in _ ⟨by omega, by omega⟩
  have c11 : wrap64 (p * p + q * q) = p * p + q * q := IntWalk.wrap64_in _ ⟨by omega, by omega⟩
  have c12 : wrap64 (r * r + s * s) = r * r + s * s := IntWalk.wrap64_in _ ⟨by omega, by omega⟩
  have c13 : wrap64 ((p * p + q * q) * (r * r + s * s)) = (p * p + q * q) * (r * r + s * s) := IntWalk.wrap64_in _ ⟨by omega, by omega⟩
  exact ⟨c1, c2, c3, c4, c5, c6, c7, c8, c9, c10, c11, c12, c13⟩

set_option maxRecDepth 100000 in
set_option maxHeartbeats 3200000 in
theorem whole_walk (p q r s : Int) (w : World) : Calls Try.prog 3 #[.int .i64 p, .int .i64 q, .int .i64 r, .int .i64 s] w fun e w' => e = .returned (.bool true) ∧ Below w.heap.size w w' := by
  have HL := Lib.hid (fun w => live9_any w)
  by_cases hin : (-1024 ≤ p ∧ p ≤ 1024) ∧ (-1024 ≤ q ∧ q ≤ 1024) ∧ (-1024 ≤ r ∧ r ≤ 1024) ∧ (-1024 ≤ s ∧ s ≤ 1024)
  · obtain ⟨x, y, x', y', n, hT, hT', hN, hW, e1, e2, e3, e4⟩ := whole_nums p q r s (by omega) (by omega) (by omega) (by omega)
    obtain ⟨c1, c2, c3, c4, c5, c6, c7, c8, c9, c10, c11, c12, c13⟩ := whole_wraps p q r s (by omega) (by omega) (by omega) (by omega)
    have HT := Lib.hid hT
    have HT' := Lib.hid hT'
    have HN := Lib.hid hN
    have HW := Lib.hid hW
    clear hT hT' hN hW
    obtain ⟨⟨p1, p2⟩, ⟨q1, q2⟩, ⟨r1, r2⟩, ⟨s1, s2⟩⟩ := hin
    go_enter Try.func3, Try.ntmps3
    go_wp2_with (first | (go_at_call 4; with_reducible refine (HL.out _).mono ?_; rintro e w1 ⟨rfl, bl⟩; have HB := Lib.hid bl; clear bl) | (go_at_call 5; with_reducible refine (HT.out _).mono ?_; rintro e w' ⟨rfl, rfl⟩) | (go_at_call 5; with_reducible refine (HT'.out _).mono ?_; rintro e w' ⟨rfl, rfl⟩) | (go_at_call 6; with_reducible refine (HN.out _).mono ?_; rintro e w' ⟨rfl, rfl⟩) | (go_at_call 7; with_reducible refine (HW.out _).mono ?_; rintro e w' ⟨rfl, rfl⟩))
    go_ret
    exact ⟨rfl, HB.out⟩
  · have hc : p < -1024 ∨ (¬ p < -1024 ∧ 1024 < p) ∨ (¬ p < -1024 ∧ ¬ 1024 < p ∧ q < -1024) ∨ (¬ p < -1024 ∧ ¬ 1024 < p ∧ ¬ q < -1024 ∧ 1024 < q) ∨ (¬ p < -1024 ∧ ¬ 1024 < p ∧ ¬ q < -1024 ∧ ¬ 1024 < q ∧ r < -1024) ∨ (¬ p < -1024 ∧ ¬ 1024 < p ∧ ¬ q < -1024 ∧ ¬ 1024 < q ∧ ¬ r < -1024 ∧ 1024 < r) ∨ (¬ p < -1024 ∧ ¬ 1024 < p ∧ ¬ q < -1024 ∧ ¬ 1024 < q ∧ ¬ r < -1024 ∧ ¬ 1024 < r ∧ s < -1024) ∨ (¬ p < -1024 ∧ ¬ 1024 < p ∧ ¬ q < -1024 ∧ ¬ 1024 < q ∧ ¬ r < -1024 ∧ ¬ 1024 < r ∧ ¬ s < -1024 ∧ 1024 < s) := by omega
    clear hin
    rcases hc with h1 | ⟨h1, h2⟩ | ⟨h1, h2, h3⟩ | ⟨h1, h2, h3, h4⟩ | ⟨h1, h2, h3, h4, h5⟩ | ⟨h1, h2, h3, h4, h5, h6⟩ | ⟨h1, h2, h3, h4, h5, h6, h7⟩ | ⟨h1, h2, h3, h4, h5, h6, h7, h8⟩
    all_goals
      go_enter Try.func3, Try.ntmps3
      go_wp2_with (go_at_call 4; with_reducible refine (HL.out _).mono ?_; rintro e w1 ⟨rfl, bl⟩; have HB := Lib.hid bl; clear bl)
      go_ret
      exact ⟨rfl, HB.out⟩
end Go.Proofs.Ytnbkghlcpcmigaa
