/- What is sent comes: the law. -/
import Derived.Test.YtjhihccjhnlghaaNP16
namespace Go.Proofs.Ytjhihccjhnlghaa
open Go.RowKit Go.Lib
set_option linter.unusedVariables false

def BackV (w : World) (e : Ending) (w' : World) : Prop := e = .returned (.bool true) ∧ Below w.heap.size w w'
set_option maxRecDepth 20000 in
set_option maxHeartbeats 3200000 in
/-- Where nothing is sent. -/
theorem nback_off (A : Option Addr) (len cap n : Nat) (d : Nat → I3) (fr to : Int) (s : ByteArray) (w : World) (hst : RowsN w A len cap d) (hlc : len ≤ cap) (hcm : cap ≤ 9223372036854775807) (hn : n = min len 8)
    (hoff : newE d n ≠ 0 ∨ (newE d n = 0 ∧ ownI (frp d) n fr < 0) ∨ (newE d n = 0 ∧ ¬ ownI (frp d) n fr < 0 ∧ ownI (frp d) n to < 0) ∨ (newE d n = 0 ∧ ¬ ownI (frp d) n fr < 0 ∧ ¬ ownI (frp d) n to < 0 ∧ (32 : Int) < (s.size : Int))) :
    Calls Try.prog 5 #[.slice A len cap, .int .i64 fr, .int .i64 to, .string s] w (BackV w) := by
  have HP := Lib.hid (ports_any A len cap d w hst hlc hcm)
  rw [← hn] at HP
  have hn8 : n ≤ 8 := by omega
  have HO1 := Lib.hid (fun (A2 : Option Addr) (c2 : Nat) (W : World) (h : PortsV W A2 n (frp d)) => rowner_any A2 n c2 (frp d) fr W h (by omega))
  have HO2 := Lib.hid (fun (A2 : Option Addr) (c2 : Nat) (W : World) (h : PortsV W A2 n (frp d)) => rowner_any A2 n c2 (frp d) to W h (by omega))
  have HK := Lib.hid (fun (A2 : Option Addr) (c2 : Nat) (W : World) (h : PortsV W A2 n (frp d)) => show Calls Try.prog 9 #[.slice A2 n c2] W (fun e w' => e = .returned (.int .i64 (newE d n)) ∧ Below W.heap.size W w') from rcheck_any A2 n c2 d W h (by omega))
  have HL := Lib.hid (fun W => nlive_any W)
  generalize newE d n = c at HK hoff
  generalize ownI (frp d) n fr = iv at HO1 hoff
  generalize ownI (frp d) n to = kv at HO2 hoff
  clear hst hn hn8 hlc hcm
  rcases hoff with h1 | ⟨rfl, h2⟩ | ⟨rfl, h2, h3⟩ | ⟨rfl, h2, h3, h4⟩
  all_goals
    try have h1' : (c != 0) = true := by simpa using h1
    go_enter Try.func5, Try.ntmps5
    go_wp2_with (first
      | (go_at_call 7; have HH := HP.out; unfold PortsR at HH; refine HH.mono ?_; clear HH; rintro e w1 ⟨A2, c2, rfl, o1, b1⟩; have P1 := Lib.hid o1.ports; have B1 := Lib.hid b1; clear o1 b1)
      | (go_at_call 15; (with_reducible refine (HO1.out _ _ _ P1.out).mono ?_); rintro e w2 ⟨rfl, rfl⟩)
      | (go_at_call 15; (with_reducible refine (HO2.out _ _ _ P1.out).mono ?_); rintro e w3 ⟨rfl, rfl⟩)
      | (go_at_call 9; (with_reducible refine (HK.out _ _ _ P1.out).mono ?_); rintro e w4 ⟨rfl, b4⟩; have B4 := Lib.hid (B1.out.trans (b4.mono B1.out.size)); clear b4)
      | (go_at_call 10; (with_reducible refine (HL.out _).mono ?_); rintro e w5 ⟨rfl, b5⟩; have B5 := Lib.hid (B4.out.trans (b5.mono B4.out.size)); clear b5))
    go_ret
    exact ⟨rfl, B5.out⟩
set_option maxRecDepth 20000 in
set_option maxHeartbeats 3200000 in
/-- Where the port has no room. -/
theorem nback_zero (A : Option Addr) (len cap n : Nat) (d : Nat → I3) (fr to : Int) (s : ByteArray) (w : World) (hst : RowsN w A len cap d) (hlc : len ≤ cap) (hcm : cap ≤ 9223372036854775807) (hn : n = min len 8)
    (he : newE d n = 0) (hi : ¬ ownI (frp d) n fr < 0) (k : Nat) (hk : k < n) (hko : ownI (frp d) n to = k) (hs : ¬ (32 : Int) < (s.size : Int)) (hl : (d k).2.2 = 0) :
    Calls Try.prog 5 #[.slice A len cap, .int .i64 fr, .int .i64 to, .string s] w (BackV w) := by
  have HP := Lib.hid (ports_any A len cap d w hst hlc hcm)
  rw [← hn] at HP
  have hn8 : n ≤ 8 := by omega
  have HO1 := Lib.hid (fun (A2 : Option Addr) (c2 : Nat) (W : World) (h : PortsV W A2 n (frp d)) => rowner_any A2 n c2 (frp d) fr W h (by omega))
  have HO2 := Lib.hid (fun (A2 : Option Addr) (c2 : Nat) (W : World) (h : PortsV W A2 n (frp d)) => rowner_any A2 n c2 (frp d) to W h (by omega))
  have HK := Lib.hid (fun (A2 : Option Addr) (c2 : Nat) (W : World) (h : PortsV W A2 n (frp d)) => show Calls Try.prog 9 #[.slice A2 n c2] W (fun e w' => e = .returned (.int .i64 (newE d n)) ∧ Below W.heap.size W w') from rcheck_any A2 n c2 d W h (by omega))
  have HL := Lib.hid (fun W => nlive_any W)
  rw [he] at HK
  rw [hko] at HO2
  generalize ownI (frp d) n fr = iv at HO1 hi
  have hlk : (frp d k).2.2.1 = 0 := hl
  have HLK := Lib.hid hlk
  have k1 : (k : Int) < (n : Int) := by omega
  have k2 : ¬ (k : Int) < 0 := by omega
  clear hst hn hn8 hlc hcm he hko hl hlk
  go_enter Try.func5, Try.ntmps5
  go_wp2_with (first
    | (go_at_call 7; have HH := HP.out; unfold PortsR at HH; refine HH.mono ?_; clear HH; rintro e w1 ⟨A2, c2, rfl, o1, b1⟩; have P1 := Lib.hid o1.ports; obtain ⟨g2, rfl, hg2, hc2⟩ := P1.out (by omega); have HC2 := Lib.hid ((hc2 k hk).2.2.1.trans (by rw [HLK.out])); have HG2 := Lib.hid hg2; have B1 := Lib.hid b1; clear o1 b1 hc2 hg2)
    | (go_at_call 15; (with_reducible refine (HO1.out _ _ _ P1.out).mono ?_); rintro e w2 ⟨rfl, rfl⟩)
    | (go_at_call 15; (with_reducible refine (HO2.out _ _ _ P1.out).mono ?_); rintro e w3 ⟨rfl, rfl⟩)
    | (go_at_call 9; (with_reducible refine (HK.out _ _ _ P1.out).mono ?_); rintro e w4 ⟨rfl, b4⟩; have B4 := Lib.hid (B1.out.trans (b4.mono B1.out.size)); have c4 := (b4.cell (p := ⟨g2, k * 5 + 2, none⟩) HG2.out).trans HC2.out; clear b4)
    | (go_at_call 10; (with_reducible refine (HL.out _).mono ?_); rintro e w5 ⟨rfl, b5⟩; have B5 := Lib.hid (B4.out.trans (b5.mono B4.out.size)); clear b5))
  go_ret
  exact ⟨rfl, B5.out⟩
end Go.Proofs.Ytjhihccjhnlghaa
