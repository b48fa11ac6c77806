/- The walk of the law on lines. -/
import Derived.Test.YtnbkghlcpcmigabDoorTL8
import Derived.Deep.QuietTactic
namespace Go.Proofs.YtnbkghlcpcmigabDoor
open Go.RowKit Go.Lib
set_option linter.unusedVariables false

theorem qleft {P : Program} {f : FuncId} {args : Array Value} {w : World} {n : Nat} {v : Value} (h : Calls P f args (w.drewN n) fun e w' => e = .returned v ∧ w.drewN n = w') : Calls P f args (w.drewN n) fun e w'' => e = .returned v ∧ ∃ m, w'' = w.drewN m := h.mono fun _ _ ⟨he, hm⟩ => ⟨he, n, hm.symm⟩
theorem LnR.drewN {w : World} {g : Nat} {l : List UInt8} (h : LnR w g l) (n : Nat) : LnR (w.drewN n) g l := ⟨h.lt, h.at'⟩

set_option maxRecDepth 100000 in
set_option maxHeartbeats 3200000 in
theorem lines_some (s : ByteArray) (w : World) (hG : Gr w) (hs : s.size ≤ 200) (h0 : 0 < s.size) : Calls Tryd.prog 3 #[.string s] w fun e w' => e = .returned (.bool true) ∧ Below w.heap.size w w' := by
  have hll : s.data.toList.length = s.size := by simp
  obtain ⟨l, hl⟩ : ∃ l, l = s.data.toList := ⟨_, rfl⟩
  have hstr : (⟨l.toArray⟩ : ByteArray) = s := by rw [hl]
  obtain ⟨n, hn⟩ : ∃ n, n = 4 * l.length := ⟨_, rfl⟩
  have hnb : n ≤ 800 := by rw [hn, hl, hll]; omega
  have hpos : 0 < l.length := by rw [hl, hll]; exact h0
  have H1 := Lib.hid (fun w (h : Gr w) => line_any s w h (by omega))
  have H2 := Lib.hid (fun w => rline_any s w (by omega))
  have HL := Lib.hid (fun w' (h : Below w.heap.size w w') => live10_any w' (hG.below h hG.pos))
  have HR := Lib.hid (fun (g c : Nat) (hc : n ≤ c) (w : World) (h : Gr w) (hr : LnR w g l) => (hstr ▸ read_any g n c l hn (by omega) hc w h hr : Calls Tryd.prog 8 #[.slice (some ⟨g, 0, none⟩) n c] w fun e w' => e = .returned (.tuple #[.string s, .int .i64 0, .int .i64 0]) ∧ Below w.heap.size w w'))
  have HG := Lib.hid hG
  have HN := Lib.hid hn
  have HLL := Lib.hid hl
  have HP := Lib.hid hpos
  have hs' : (s.size : Int) ≤ 200 := by omega
  clear hG hn hl hpos hll hstr hs h0
  go_enter Tryd.func3, Tryd.ntmps3
  go_wp2_with (first | (go_at_call 5; with_reducible refine (H1.out _ HG.out).mono ?_; rintro e w1 ⟨v1, rfl, o1, b1⟩; rw [← HLL.out] at o1; obtain ⟨g1, c1, e1, q1, r1⟩ := o1.read HP.out; rw [← HN.out] at e1 q1; subst e1; have HB1 := Lib.hid b1; have HR1 := Lib.hid r1; have HC1 := Lib.hid q1; clear b1 r1 q1 o1) | (go_at_call 6; with_reducible refine (H2.out _).mono ?_; rintro e w2 ⟨v2, rfl, o2, b2⟩; rw [← HLL.out] at o2; obtain ⟨g2, c2, e2, q2, r2⟩ := o2.read HP.out; rw [← HN.out] at e2 q2; subst e2; have HR1b := Lib.hid (HR1.out.below b2); have HB2 := Lib.hid (HB1.out.trans (b2.mono HB1.out.size)); have HR2 := Lib.hid r2; clear b2 r2 q2 o2))
  go_loopw [5] (fun x wr => ∃ i : Nat, x = .int .i64 i ∧ i ≤ n ∧ LnR wr g1 l ∧ LnR wr g2 l ∧ Below w.heap.size w wr) (fun x _ => n - (intOf x).toNat)
  case atStart => exact ⟨0, rfl, by omega, HR1b.out, HR2.out, HB2.out⟩
  case round =>
    obtain ⟨i, rfl, hi, hr1, hr2, hb⟩ := hrel
    have HB := Lib.hid hb
    have K1 := Lib.hid hr1
    have K2 := Lib.hid hr2
    clear hb hr1 hr2
    by_cases h8 : i < n
    · have i1 : (i : Int) < (n : Int) := by omega
      have i2 : (n : Int) ≤ 800 := by omega
      have k1 := K1.out.at' i (by have := HN.out; omega)
      have k2 := K2.out.at' i (by have := HN.out; omega)
      have HS := Lib.hid (fun w => sameC_any (sn l i) w)
      generalize sn l i = m at k1 k2 HS
      go_wp2_with fail
      go_quiet ((go_at_call 7; with_reducible exact qleft (HS.out _)))
      go_wp2
      exact ⟨⟨i + 1, by go_num, by omega, K1.out.drewN _, K2.out.drewN _, below_drewN HB.out _⟩, by simp [intOf]; omega⟩
    · obtain rfl : i = n := by omega
      have HGr := Lib.hid (HG.out.below HB.out HG.out.pos)
      go_wp2_with (first | (go_at_call 8; with_reducible refine (HR.out _ _ HC1.out _ HGr.out K1.out).mono ?_; rintro e w4 ⟨rfl, b4⟩; have HB4 := Lib.hid (HB.out.trans (b4.mono HB.out.size)); clear b4) | (go_at_call 4; with_reducible refine (HL.out _ HB4.out).mono ?_; rintro e w5 ⟨rfl, b5⟩; have HB5 := Lib.hid (HB4.out.trans (b5.mono HB4.out.size)); clear b5))
      go_ret
      exact ⟨rfl, HB5.out⟩

set_option maxRecDepth 100000 in
set_option maxHeartbeats 3200000 in
theorem lines_walk (s : ByteArray) (w : World) (hG : Gr w) : Calls Tryd.prog 3 #[.string s] w fun e w' => e = .returned (.bool true) ∧ Below w.heap.size w w' := by
  by_cases hs : s.size ≤ 200
  · by_cases h0 : 0 < s.size
    · exact lines_some s w hG hs h0
    · have hz : s.size = 0 := by omega
      have hse : s = ⟨#[]⟩ := by
        have : s.data.size = 0 := hz
        have hd : s.data = #[] := Array.eq_empty_of_size_eq_zero this
        cases s
        simp_all
      subst hse
      have hl : (⟨#[]⟩ : ByteArray).data.toList = [] := rfl
      have H1 := Lib.hid (fun w (h : Gr w) => line_any ⟨#[]⟩ w h (by decide))
      have H2 := Lib.hid (fun w => rline_any ⟨#[]⟩ w (by decide))
      have HL := Lib.hid (fun w' (h : Below w.heap.size w w') => live10_any w' (hG.below h hG.pos))
      have HR := Lib.hid (fun (A : Option Addr) (c : Nat) w => read_none A c w)
      have HG := Lib.hid hG
      have hsz : (⟨#[]⟩ : ByteArray).size = 0 := rfl
      clear hG hs h0 hz
      go_enter Tryd.func3, Tryd.ntmps3
      go_wp2_with (first | (go_at_call 5; with_reducible refine (H1.out _ HG.out).mono ?_; rintro e w1 ⟨v1, rfl, o1, b1⟩; obtain ⟨A1, c1, rfl⟩ := o1.form; have HB1 := Lib.hid b1; clear b1 o1) | (go_at_call 6; with_reducible refine (H2.out _).mono ?_; rintro e w2 ⟨v2, rfl, o2, b2⟩; obtain ⟨A2, c2, rfl⟩ := o2.form; have HB2 := Lib.hid (HB1.out.trans (b2.mono HB1.out.size)); clear b2 o2))
      go_loopw [5] (fun x wr => x = .int .i64 0 ∧ Below w.heap.size w wr) (fun _ _ => 0)
      case atStart => exact ⟨rfl, HB2.out⟩
      case round =>
        obtain ⟨rfl, hb⟩ := hrel
        have HB := Lib.hid hb
        clear hb
        go_wp2_with (first | (go_at_call 8; refine (HR.out _ _ _).mono ?_; rintro e w4 ⟨rfl, b4⟩; have HB4 := Lib.hid (HB.out.trans (b4.mono HB.out.size)); clear b4) | (go_at_call 4; with_reducible refine (HL.out _ HB4.out).mono ?_; rintro e w5 ⟨rfl, b5⟩; have HB5 := Lib.hid (HB4.out.trans (b5.mono HB4.out.size)); clear b5))
        go_ret
        exact ⟨rfl, HB5.out⟩
  · have h : (200 : Int) < (s.size : Int) := by omega
    have HL := Lib.hid (live10_any w hG)
    clear hG hs
    go_enter Tryd.func3, Tryd.ntmps3
    go_wp2_with (go_at_call 4; with_reducible refine HL.out.mono ?_; rintro e w5 ⟨rfl, b5⟩)
    go_ret
    exact ⟨rfl, b5⟩
end Go.Proofs.YtnbkghlcpcmigabDoor
