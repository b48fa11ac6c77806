/- SpanTotals: spans that are apart have as many places together as all by themselves: for every spans (of up to 30, and of places up to 300) the law returns true. No condition. -/
import Derived.Test.YtblchpaoffdniaaV4
import Derived.ShutString
import Derived.ChangeOld
namespace Go.Proofs.Ytblchpaoffdniaa
open Go.RowKit Go.Lib Go.Sort
set_option linter.unusedVariables false

def ApartC (t c : Int) (w : World) (e : Ending) (w' : World) : Prop := ∃ r : Bool, e = .returned (.bool r) ∧ (r = true → t = c) ∧ Below w.heap.size w w'
theorem only_cell {w w' : World} {b off : Nat} {v : Value} (h : w.grownBy w' none) (hb : b < w.heap.size) (hc : w.cell? ⟨b, off, none⟩ = some v) : w'.cell? ⟨b, off, none⟩ = some v := by
  have e := h.block b hb (by simp)
  rw [← hc]
  simp [World.cell?, e]

set_option maxRecDepth 100000 in
set_option maxHeartbeats 3200000 in
theorem totals_walk (A : Option Addr) (len cap : Nat) (d : Nat → Int × Int) (w : World) (hsp : Spans w A len cap d) (hl : len ≤ maxLen) : Calls Try.prog 8 #[.slice A len cap] w fun e w' => e = .returned (.bool true) ∧ Below w.heap.size w w' := by
  have HSP := Lib.hid hsp
  have HSM := Lib.hid (small_any A len cap d w hsp hl)
  clear hsp
  go_enter Try.func8, Try.ntmps8
  go_wp2_with fail
  refine HSM.out.mono ?_
  rintro e w1 ⟨r, rfl, h1, b1⟩
  have H1 := Lib.hid h1
  have B1 := Lib.hid b1
  clear h1 b1 HSM
  cases r with
  | false =>
    go_wp2_with (go_at_call 12; refine (live_any _).mono ?_; rintro e w2 ⟨rfl, b2⟩; have B2 := Lib.hid (B1.out.trans (b2.mono B1.out.size)); clear b2)
    go_ret
    exact ⟨rfl, B2.out⟩
  | true =>
    obtain ⟨hl30, h300⟩ := H1.out (by first | rfl | trivial)
    have H300 := Lib.hid h300
    clear h300 H1 hl
    go_wp2
    go_loopw [3, 5] (fun x y wr => ∃ (k : Nat) (c : Int), y = .int .i64 k ∧ x = .int .i64 c ∧ k ≤ 300 ∧ Hid (cnt (fun x => inN d x len) k = c) ∧ Below w.heap.size w wr) (fun _ y _ => 300 - (intOf y).toNat)
    case atStart => exact ⟨0, 0, rfl, rfl, by omega, Lib.hid rfl, B1.out⟩
    case round =>
      obtain ⟨k, c, rfl, rfl, hk, HC, hb⟩ := hrel
      have HBE := Lib.hid hb
      clear hb
      by_cases hkn : k < 300
      · have u := cnt_le (fun x => inN d x len) k
        rw [HC.out] at u
        have hnx : cnt (fun x => inN d x len) (k + 1) = c + (if inN d k len then 1 else 0) := by show cnt _ k + _ = _; rw [HC.out]
        have hcall := rin_any A len cap d k _ (HSP.out.below HBE.out) (by omega)
        have HNX := Lib.hid hnx
        clear hnx
        obtain ⟨r, hr⟩ : ∃ r, r = inN d k len := ⟨_, rfl⟩
        rw [← hr] at hcall
        have HCALL := Lib.hid hcall
        have HRR := Lib.hid hr
        clear hcall hr
        cases r with
        | true =>
          go_wp2_with (go_at_call 27; refine HCALL.out.mono ?_; rintro e w2 ⟨rfl, b2⟩; have HB2 := Lib.hid (HBE.out.trans (b2.mono HBE.out.size)); clear b2)
          go_roundw
          case rel => exact ⟨k + 1, c + 1, by go_num, by first | rfl | go_num, by omega, Lib.hid (by rw [HNX.out, ← HRR.out]; rfl), HB2.out⟩
          case measure => simp [intOf] <;> omega
        | false =>
          go_wp2_with (go_at_call 27; refine HCALL.out.mono ?_; rintro e w2 ⟨rfl, b2⟩; have HB2 := Lib.hid (HBE.out.trans (b2.mono HBE.out.size)); clear b2)
          go_roundw
          case rel => exact ⟨k + 1, c, by go_num, rfl, by omega, Lib.hid (by rw [HNX.out, ← HRR.out]; simp), HB2.out⟩
          case measure => simp [intOf] <;> omega
      · have hc3 : cnt (fun x => inN d x len) 300 = c := by rw [← HC.out, show k = 300 by omega]
        have HC3 := Lib.hid hc3
        clear hc3
        go_wp2
        go_loopw [4, 6] (fun x y wr => ∃ (k : Nat) (t : Int), y = .int .i64 k ∧ x = .int .i64 t ∧ k ≤ len ∧ Hid (allN d k = t) ∧ Below w.heap.size w wr) (fun _ y _ => len - (intOf y).toNat)
        case atStart => exact ⟨0, 0, rfl, rfl, by omega, Lib.hid rfl, HBE.out⟩
        case round =>
          obtain ⟨k, t, rfl, rfl, hk2, HT, hb⟩ := hrel
          have HBF := Lib.hid hb
          clear hb
          by_cases hkl : k < len
          · obtain ⟨b1, o1, rfl, hb1, hc1⟩ := (HSP.out.below HBF.out).2 (by omega)
            have c0 := (hc1 k hkl).1
            have c1 := (hc1 k hkl).2
            clear hc1
            have hnx : allN d (k + 1) = if isB (d k) then wrap64 (t + wrap64 ((d k).2 - (d k).1)) else t := by show (if isB (d k) then wrap64 (allN d k + _) else allN d k) = _; rw [HT.out]
            obtain ⟨x, hx⟩ : ∃ x, x = d k := ⟨_, rfl⟩
            rw [← hx] at c0 c1 hnx
            clear hx
            have i1 : (k : Int) < (len : Int) := by omega
            obtain ⟨p, q⟩ := x
            simp only at c0 c1 hnx
            obtain ⟨r, hr⟩ : ∃ r, r = isB (p, q) := ⟨_, rfl⟩
            have hcall := fun W => ris_any (p, q) W
            simp only [← hr] at hcall hnx
            have HCALL := Lib.hid hcall
            have HNX := Lib.hid hnx
            clear hcall hnx hr
            cases r with
            | true =>
              go_wp2_with (go_at_call 14; refine (HCALL.out _).mono ?_; rintro e w2 ⟨rfl, g2⟩; have HB2 := Lib.hid (HBF.out.trans (below_of_only g2 HBF.out.size (by simp))); have d0 := only_cell g2 hb1 c0; have d1 := only_cell g2 hb1 c1; clear g2)
              go_quiet (fail)
              go_wp2
              go_roundw
              case rel => exact ⟨k + 1, _, by go_num, rfl, by omega, Lib.hid HNX.out, below_drewN HB2.out _⟩
              case measure => simp [intOf] <;> omega
            | false =>
              go_wp2_with (go_at_call 14; refine (HCALL.out _).mono ?_; rintro e w2 ⟨rfl, g2⟩; have HB2 := Lib.hid (HBF.out.trans (below_of_only g2 HBF.out.size (by simp))); clear g2)
              go_roundw
              case rel => exact ⟨k + 1, t, by go_num, rfl, by omega, Lib.hid (by rw [HNX.out]; rfl), HB2.out⟩
              case measure => simp [intOf] <;> omega
          · obtain rfl : k = len := by omega
            have htot : ∀ W, Below w.heap.size w W → Calls Try.prog 28 #[.slice A k cap] W fun e w' => e = .returned (.int .i64 c) ∧ Below W.heap.size W w' := fun W hW => (total_any A k cap d W (HSP.out.below hW) (by omega) (stable_ok k (by omega))).mono fun e w' ⟨d', he, hp, hs, hb⟩ => ⟨by rw [he, total_is hp hs H300.out, HC3.out], hb⟩
            have hap : ∀ W, Below w.heap.size w W → Calls Try.prog 19 #[.slice A k cap] W fun e w' => ApartC t c W e w' := fun W hW => (apart_any A k cap d W (HSP.out.below hW) (by omega)).mono fun e w' ⟨r, he, hr, hb⟩ => ⟨r, he, fun h => by
              obtain ⟨q1, d', q2, q3, q4⟩ := hr h
              rw [← HT.out, ← HC3.out]
              exact all_is q2 q1 q4 H300.out, hb⟩
            have HTOT := Lib.hid htot
            have HAP := Lib.hid hap
            clear htot hap
            go_wp2_with (first | (go_at_call 12; refine (live_any _).mono ?_; rintro e w2 ⟨rfl, b2⟩; have B2 := Lib.hid (HBF.out.trans (b2.mono HBF.out.size)); clear b2) | (go_at_call 28; refine (HTOT.out _ B2.out).mono ?_; rintro e w3 ⟨rfl, b3⟩; have B3 := Lib.hid (B2.out.trans (b3.mono B2.out.size)); clear b3) | (go_at_call 19; refine (HAP.out _ B3.out).mono ?_; rintro e w4 ⟨r, rfl, hr, b4⟩; have B4 := Lib.hid (B3.out.trans (b4.mono B3.out.size)); have HRR := Lib.hid hr; clear b4 hr; cases r))
            · go_ret
              exact ⟨rfl, B4.out⟩
            · have htc : t = c := HRR.out (by first | rfl | trivial)
              subst htc
              go_ret
              exact ⟨by simp, B4.out⟩
end Go.Proofs.Ytblchpaoffdniaa
