/- SpanSorts: sorted spans are the same ones, in order: for every spans (of which the first 60 count) the law returns true. No condition. -/
import Derived.Test.YtgineifljofljaaU3
import Derived.ShutString
import Derived.ChangeOld
namespace Go.Proofs.Ytgineifljofljaa
open Go.RowKit Go.Lib Go.Sort
set_option linter.unusedVariables false

theorem RowV.spans {w : World} {B n : Nat} {v : Value} {d : Nat → Int × Int} (h : RowV w B v n d) : ∃ A c, v = .slice A n c ∧ Spans w A n c d := by
  rcases h with ⟨rfl, rfl⟩ | ⟨g, c, rfl, _, h⟩
  · exact ⟨none, 0, rfl, fun _ => ⟨rfl, rfl⟩, fun h => absurd h (by omega)⟩
  · exact ⟨_, c, rfl, h.spans n (Nat.le_refl _) c⟩
theorem Spans.cut {w : World} {A : Option Addr} {len cap : Nat} {d : Nat → Int × Int} (h : Spans w A len cap d) (m : Nat) (hm : m ≤ len) : Spans w A m cap d := by
  refine ⟨fun hn => ⟨by have := (h.1 hn).1; omega, (h.1 hn).2⟩, fun hp => ?_⟩
  obtain ⟨b, off, h1, h2, h3⟩ := h.2 (by omega)
  exact ⟨b, off, h1, h2, fun i hi => h3 i (by omega)⟩

set_option maxHeartbeats 1600000 in
theorem sorts_walk (A : Option Addr) (len cap : Nat) (d : Nat → Int × Int) (w : World) (hsp : Spans w A len cap d) (hl : len ≤ maxLen) (hc : len ≤ cap) : Calls Try.prog 5 #[.slice A len cap] w fun e w' => e = .returned (.bool true) ∧ Below w.heap.size w w' := by
  rcases Nat.lt_or_ge 60 len with h60 | h60
  · have HSP := Lib.hid (hsp.cut 60 (by omega))
    clear hsp
    go_enter Try.func5, Try.ntmps5
    go_wp2_with (first | (go_at_call 12; refine (live_any _).mono ?_; rintro e w1 ⟨rfl, b1⟩; have B1 := Lib.hid b1; clear b1) | (go_at_call 21; refine (sorted_any A 60 _ d _ (HSP.out.below B1.out) (by omega) (stable_ok 60 (by omega))).mono ?_; rintro e w2 ⟨v2, d2, rfl, hv2, hp2, hs2, b2⟩; have HP2 := Lib.hid hp2; have HS2 := Lib.hid hs2; have HV2 := Lib.hid hv2; have B2 := Lib.hid (B1.out.trans (b2.mono B1.out.size)); clear hp2 hs2 b2 hv2; obtain ⟨A2, c2, rfl, hsp2⟩ := HV2.out.spans; have HSP2 := Lib.hid hsp2; clear hsp2) | (go_at_call 22; refine (usorted_any A 60 _ d _ (HSP.out.below B2.out) (by omega)).mono ?_; rintro e w3 ⟨v3, d3, rfl, hv3, hp3, hs3, b3⟩; have HP3 := Lib.hid hp3; have HS3 := Lib.hid hs3; have HV3 := Lib.hid hv3; have B3 := Lib.hid (B2.out.trans (b3.mono B2.out.size)); have HSP3 := Lib.hid (HSP2.out.below b3); clear hp3 hs3 b3 hv3; obtain ⟨A3, c3, rfl, hsp3⟩ := HV3.out.spans; have HSP4 := Lib.hid hsp3; clear hsp3) | (go_at_call 20; refine (same_any A2 A3 60 c2 c3 d2 d3 _ HSP3.out HSP4.out (So.sorted_one HP2.out HP3.out HS2.out HS3.out) (by omega)).mono ?_; rintro e w4 ⟨rfl, b4⟩; have B4 := Lib.hid (B3.out.trans (b4.mono B3.out.size)); clear b4))
    go_ret
    exact ⟨rfl, B4.out⟩
  · have HSP := Lib.hid (hsp.cut len (by omega))
    clear hsp
    go_enter Try.func5, Try.ntmps5
    go_wp2_with (first | (go_at_call 12; refine (live_any _).mono ?_; rintro e w1 ⟨rfl, b1⟩; have B1 := Lib.hid b1; clear b1) | (go_at_call 21; refine (sorted_any A len _ d _ (HSP.out.below B1.out) (by omega) (stable_ok len (by omega))).mono ?_; rintro e w2 ⟨v2, d2, rfl, hv2, hp2, hs2, b2⟩; have HP2 := Lib.hid hp2; have HS2 := Lib.hid hs2; have HV2 := Lib.hid hv2; have B2 := Lib.hid (B1.out.trans (b2.mono B1.out.size)); clear hp2 hs2 b2 hv2; obtain ⟨A2, c2, rfl, hsp2⟩ := HV2.out.spans; have HSP2 := Lib.hid hsp2; clear hsp2) | (go_at_call 22; refine (usorted_any A len _ d _ (HSP.out.below B2.out) (by omega)).mono ?_; rintro e w3 ⟨v3, d3, rfl, hv3, hp3, hs3, b3⟩; have HP3 := Lib.hid hp3; have HS3 := Lib.hid hs3; have HV3 := Lib.hid hv3; have B3 := Lib.hid (B2.out.trans (b3.mono B2.out.size)); have HSP3 := Lib.hid (HSP2.out.below b3); clear hp3 hs3 b3 hv3; obtain ⟨A3, c3, rfl, hsp3⟩ := HV3.out.spans; have HSP4 := Lib.hid hsp3; clear hsp3) | (go_at_call 20; refine (same_any A2 A3 len c2 c3 d2 d3 _ HSP3.out HSP4.out (So.sorted_one HP2.out HP3.out HS2.out HS3.out) (by omega)).mono ?_; rintro e w4 ⟨rfl, b4⟩; have B4 := Lib.hid (B3.out.trans (b4.mono B3.out.size)); clear b4))
    go_ret
    exact ⟨rfl, B4.out⟩
end Go.Proofs.Ytgineifljofljaa
