import Derived.Test.YthhodadfiipffaaDoorZ45
set_option linter.all false
/- PartPlays and PartForks, whatever their input. -/
namespace Go.Proofs.YthhodadfiipffaaDoor
open Go.RowKit Go.Lib
set_option linter.unusedVariables false
set_option maxRecDepth 20000

theorem Pt.plays_walk (s : ByteArray) (size : Int) (A : Option Addr) (k c : Nat) (d : Nat → Pt.Dd) (w : World) (hN : Nm w) (hss : s.size ≤ 9223372036854775807) (hz : Pt.fitI size) (hd : Pt.DdP w A k d) (hk : k ≤ c) (hc : c ≤ 9223372036854775807) : Calls Tryd.prog 3 #[.string s, .int .i64 size, .slice A k c] w fun e w' => e = .returned (.bool true) ∧ Below w.heap.size w w' := by
  by_cases hok : (s.size : Int) ≤ size ∧ size ≤ 300
  · obtain ⟨h1, h2⟩ := hok
    obtain ⟨vl, rfl⟩ := Int.eq_ofNat_of_zero_le (show 0 ≤ size by omega)
    exact Pt.plays_ok s vl k c A d w hN hd hk hc (by omega) (by omega)
  · have key : size < (s.size : Int) ∨ (¬ size < (s.size : Int) ∧ 300 < size) := by omega
    have HL := Lib.hid (Pt.live_any w hN)
    clear hok hN hd
    rcases key with h | ⟨h, h2⟩
    all_goals
      go_enter Tryd.func3, Tryd.ntmps3
      go_wp2_with (go_at_call 7; (with_reducible refine HL.out.mono ?_); rintro e w1 ⟨rfl, g1⟩)
      go_ret
      exact ⟨rfl, Pt.bel g1⟩
theorem Pt.forks_walk (s : ByteArray) (A1 : Option Addr) (k1 cc1 : Nat) (d1 : Nat → Pt.Dd) (A2 : Option Addr) (k2 cc2 : Nat) (d2 : Nat → Pt.Dd) (w : World) (hN : Nm w) (hss : s.size ≤ 9223372036854775807) (hd1 : Pt.DdP w A1 k1 d1) (hk1 : k1 ≤ cc1) (hc1 : cc1 ≤ 9223372036854775807) (hd2 : Pt.DdP w A2 k2 d2) (hk2 : k2 ≤ cc2) (hc2 : cc2 ≤ 9223372036854775807) : Calls Tryd.prog 6 #[.string s, .slice A1 k1 cc1, .slice A2 k2 cc2] w fun e w' => e = .returned (.bool true) ∧ Below w.heap.size w w' := by
  by_cases hok : s.size ≤ 200
  · exact Pt.forks_ok s A1 A2 k1 cc1 k2 cc2 d1 d2 w hN hd1 hd2 hk1 hk2 hok 220 30 ⟨rfl, rfl⟩
  · have h : 200 < (s.size : Int) := by omega
    have HL := Lib.hid (Pt.live_any w hN)
    clear hok hN hd1 hd2
    go_enter Tryd.func6, Tryd.ntmps6
    go_wp2_with (go_at_call 7; (with_reducible refine HL.out.mono ?_); rintro e w1 ⟨rfl, g1⟩)
    go_ret
    exact ⟨rfl, Pt.bel g1⟩
end Go.Proofs.YthhodadfiipffaaDoor
