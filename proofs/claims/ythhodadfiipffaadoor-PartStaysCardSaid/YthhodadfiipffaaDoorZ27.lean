import Derived.Test.YthhodadfiipffaaDoorZ25
import Derived.Test.YthhodadfiipffaaDoorZ26
set_option linter.all false
/- PartStays, whatever its input. -/
namespace Go.Proofs.YthhodadfiipffaaDoor
open Go.RowKit Go.Lib
set_option linter.unusedVariables false
set_option maxRecDepth 20000

theorem Pt.stays_walk (s : ByteArray) (size : Int) (ar : ByteArray) (A : Option Addr) (k c : Nat) (d : Nat → Pt.Dd) (w : World) (hN : Nm w) (hss : s.size ≤ 9223372036854775807) (hz : Pt.fitI size) (har : ar.size ≤ 9223372036854775807) (hd : Pt.DdP w A k d) (hk : k ≤ c) (hc : c ≤ 9223372036854775807) : Calls Tryd.prog 4 #[.string s, .int .i64 size, .string ar, .slice A k c] w fun e w' => e = .returned (.bool true) ∧ Below w.heap.size w w' := by
  by_cases hok : (s.size : Int) ≤ size ∧ size ≤ 300 ∧ ar.size ≤ 300
  · obtain ⟨h1, h2, h3⟩ := hok
    obtain ⟨vl, rfl⟩ := Int.eq_ofNat_of_zero_le (show 0 ≤ size by omega)
    rcases Nat.eq_zero_or_pos ar.size with h0 | h0
    · exact Pt.stays_none s ar vl k c A d w hN hd hk hc (by omega) (by omega) h3 h0
    · exact Pt.stays_some s ar vl k c A d w hN hd hk hc (by omega) (by omega) h3 h0
  · have key : size < (s.size : Int) ∨ (¬ size < (s.size : Int) ∧ 300 < size) ∨ (¬ size < (s.size : Int) ∧ ¬ 300 < size ∧ 300 < (ar.size : Int)) := by omega
    have HL := Lib.hid (Pt.live_any w hN)
    clear hok hN hd
    rcases key with h | ⟨h, h2⟩ | ⟨h, h2, h3⟩
    all_goals
      go_enter Tryd.func4, Tryd.ntmps4
      go_wp2_with (go_at_call 7; (with_reducible refine HL.out.mono ?_); rintro e w1 ⟨rfl, g1⟩)
      go_ret
      exact ⟨rfl, Pt.bel g1⟩
end Go.Proofs.YthhodadfiipffaaDoor
