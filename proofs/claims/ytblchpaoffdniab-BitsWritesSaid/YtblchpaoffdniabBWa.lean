/- BitsWrites, its walk: what was written is the document's, or that something could not be, and it is read as it was: for every steps the law returns true. No condition. -/
import Derived.Test.YtblchpaoffdniabBW0
namespace Go.Proofs.Ytblchpaoffdniab
open Go.RowKit Go.Lib
set_option linter.unusedVariables false

set_option maxRecDepth 100000 in
set_option maxHeartbeats 6400000 in
theorem writes_few (A : Option Addr) (len cap : Nat) (w : World) (hc : len ≤ cap) (hl : cap ≤ 9223372036854775807) (D N : Nat → Int) (T : Nat → ByteArray) (hst : StepsF w A len D N T) (h40 : len ≤ 40) :
    Calls Try.prog 5 #[.slice A len cap] w fun e w' => e = .returned (.bool true) ∧ Below w.heap.size w w' := by
  have HST := Lib.hid hst
  clear hst
  go_enter Try.func5, Try.ntmps5
  go_wp2
  go_loopw [4] (fun i wr => ∃ (k : Nat), i = .int .i64 k ∧ k ≤ len ∧ Wr wr w.heap.size w.heap.size (wrTo D N T k) ∧ Hid (∀ j, j < k → (T j).size ≤ 100) ∧ Below w.heap.size w wr) (fun i _ => len - (intOf i).toNat)
  case atStart => exact ⟨0, rfl, by omega, ⟨_, Blk.new _ _ _, World.ownsRow_nil _ _ _ _⟩, fun j hj => by omega, (Below.refl _ _).alloc (Nat.le_refl _) _⟩
  case round =>
    obtain ⟨k, rfl, hk, hWr, HT, hBe⟩ := hrel
    have HBE := Lib.hid hBe
    clear hBe
    by_cases h1 : k < len
    · obtain ⟨b, off, rfl, hbB, hcells⟩ := HST.out (by omega)
      obtain ⟨c0, c1, c2⟩ := hcells k (by omega)
      have hw0 := (HBE.out.cell (p := ⟨b, off + k * 3, none⟩) hbB).trans c0
      have hw1 := (HBE.out.cell (p := ⟨b, off + k * 3 + 1, none⟩) hbB).trans c1
      have hw2 := (HBE.out.cell (p := ⟨b, off + k * 3 + 2, none⟩) hbB).trans c2
      have hfit := wrTo_fits (D := D) (N := N) (k := k) (by omega) HT.out
      have hnext : wrTo D N T (k + 1) = wrNext (wrTo D N T k) (D k) (N k) (T k) := rfl
      clear hcells c0 c1 c2
      generalize wrTo D N T k = o at *
      generalize hd : D k = d at *
      generalize hn : N k = n at *
      obtain ⟨t, ht⟩ : ∃ t, t = T k := ⟨_, rfl⟩
      rw [← ht] at hw2 hnext
      have HTT := Lib.hid ht
      have HNX := Lib.hid hnext
      have HFIT := Lib.hid hfit
      have HWR := Lib.hid hWr
      clear hnext hfit hWr ht hd hn
      by_cases h100 : 100 < t.size
      · go_wp2_with (go_at_call 7; refine (live_any _).mono ?_; rintro e w1 ⟨rfl, b1⟩)
        go_ret
        exact ⟨rfl, HBE.out.trans (b1.mono HBE.out.size)⟩
      · have HTK : Hid ((T k).size ≤ 100) := by unfold Hid; rw [← HTT.out]; omega
        by_cases hd0 : d = 0
        · subst hd0
          go_wp2_with (go_at_call 26; refine (wbyte_any _ _ n t o _ HWR.out (Nat.le_refl _) HBE.out.size HFIT.out).mono ?_; rintro e w1 ⟨rfl, h1', h2'⟩)
          go_roundw
          case rel => exact ⟨k + 1, by go_num, by omega, by rw [HNX.out]; exact h1', small_succ HT.out HTK.out, HBE.out.trans h2'⟩
          case measure => simp [intOf]; omega

        · by_cases hd1 : d = 1
          · subst hd1
            go_wp2_with (go_at_call 27; refine (wtwo_any _ _ n t o _ HWR.out (Nat.le_refl _) HBE.out.size HFIT.out).mono ?_; rintro e w1 ⟨rfl, h1', h2'⟩)
            go_roundw
            case rel => exact ⟨k + 1, by go_num, by omega, by rw [HNX.out]; exact h1', small_succ HT.out HTK.out, HBE.out.trans h2'⟩
            case measure => simp [intOf]; omega

          · have hk0 : (d == 0) = false := beq_eq_false_iff_ne.2 hd0
            have hk1 : (d == 1) = false := beq_eq_false_iff_ne.2 hd1
            go_wp2_with (go_at_call 28; refine (wtext_any _ _ n t d o _ HWR.out (Nat.le_refl _) HBE.out.size HFIT.out (by omega) hd0 hd1).mono ?_; rintro e w1 ⟨rfl, h1', h2'⟩)
            go_roundw
            case rel => exact ⟨k + 1, by go_num, by omega, by rw [HNX.out]; exact h1', small_succ HT.out HTK.out, HBE.out.trans h2'⟩
            case measure => simp [intOf]; omega

    · obtain rfl : k = len := by omega
      have hwr := write_any A k cap D N T wr (by omega) ((HST.out.fewer (m := k) (by omega)).below HBE.out (Nat.le_refl _)) HT.out
      have hby := fun w3 h => wbytes_any w.heap.size w.heap.size (wrTo D N T k) w3 h
      have her := fun w3 h => werr_any w.heap.size w.heap.size (wrTo D N T k) w3 h
      have hsz : (textFor (wrTo D N T k)).size ≤ 4000 := text_small (by omega) HT.out
      obtain ⟨S, hS⟩ : ∃ S, S = textFor (wrTo D N T k) := ⟨_, rfl⟩
      obtain ⟨E, hE⟩ : ∃ E, E = errOf (wrTo D N T k) := ⟨_, rfl⟩
      rw [← hS, ← hE] at hwr
      simp only [← hS] at hby
      simp only [← hE] at her
      rw [← hS] at hsz
      have HWRI := Lib.hid hwr
      have HBY := Lib.hid hby
      have HER := Lib.hid her
      have HWR := Lib.hid hWr
      have HS := Lib.hid hS
      clear hwr hWr hby her hS
      rcases ho : wrTo D N T k with _ | l
      · obtain rfl : E = 2 := by rw [hE, ho]; rfl
        clear hE ho
        go_wp2_with (first | (go_at_call 29; refine HWRI.out.mono ?_; rintro e w2 ⟨rfl, hb2⟩; have HW2 := Lib.hid (HWR.out.below hb2); have HB2 := Lib.hid (HBE.out.trans (hb2.mono HBE.out.size))) | (go_at_call 30; refine (HBY.out _ HW2.out).mono ?_; rintro e w' ⟨rfl, rfl⟩) | (go_at_call 31; refine (HER.out _ HW2.out).mono ?_; rintro e w' ⟨rfl, rfl⟩) | (go_at_call 18; refine (new_any _ _).mono ?_; rintro e w' ⟨rfl, rfl⟩))
        go_loopw [8] (fun i wr => i = .int .i64 0 ∧ Below w.heap.size w wr) (fun i _ => 1)
        case atStart => exact ⟨rfl, HB2.out.alloc HB2.out.size _⟩
        case round =>
          obtain ⟨rfl, hB3⟩ := hrel
          have HB3 := Lib.hid hB3
          clear hB3
          go_wp2_with (go_at_call 7; refine (live_any _).mono ?_; rintro e w4 ⟨rfl, b4⟩)
          go_ret
          exact ⟨rfl, HB3.out.trans (b4.mono HB3.out.size)⟩
      · obtain rfl : E = 0 := by rw [hE, ho]; rfl
        clear hE
        have HO := Lib.hid ho
        clear ho
        go_wp2_with (first | (go_at_call 29; refine HWRI.out.mono ?_; rintro e w2 ⟨rfl, hb2⟩; have HW2 := Lib.hid (HWR.out.below hb2); have HB2 := Lib.hid (HBE.out.trans (hb2.mono HBE.out.size))) | (go_at_call 30; refine (HBY.out _ HW2.out).mono ?_; rintro e w' ⟨rfl, rfl⟩) | (go_at_call 31; refine (HER.out _ HW2.out).mono ?_; rintro e w' ⟨rfl, rfl⟩) | (go_at_call 18; refine (new_any _ _).mono ?_; rintro e w' ⟨rfl, rfl⟩))
        have hSl : S.data.toList = l := by rw [HS.out, HO.out]; simp [textFor]
        go_loopw [8] (fun i wr => ∃ (j : Nat) (a : List UInt8), i = .int .i64 j ∧ j ≤ k ∧ Hid (wrTo D N T j = some a) ∧ Rd wr w2.heap.size S a.length 0 ∧ Below w.heap.size w wr) (fun i _ => k - (intOf i).toNat)
        case atStart => exact ⟨0, [], rfl, by omega, rfl, Blk.new _ _ _, HB2.out.alloc HB2.out.size _⟩
        case round =>
          obtain ⟨j, a, rfl, hj, HJ, hRd, hB3⟩ := hrel
          have HB3 := Lib.hid hB3
          have HRD := Lib.hid hRd
          clear hB3 hRd
          by_cases hjm : j < k
          · obtain ⟨a', x, r, k1, k2, k3, hpart⟩ := wrTo_part HO.out hjm
            obtain rfl : a = a' := by have := HJ.out.symm.trans k1; injection this
            obtain ⟨b, off, rfl, hbB, hcells⟩ := HST.out (by omega)
            obtain ⟨c0, c1, c2⟩ := hcells j (by omega)
            have hw0 := (HB3.out.cell (p := ⟨b, off + j * 3, none⟩) hbB).trans c0
            have hw1 := (HB3.out.cell (p := ⟨b, off + j * 3 + 1, none⟩) hbB).trans c1
            have hw2 := (HB3.out.cell (p := ⟨b, off + j * 3 + 2, none⟩) hbB).trans c2
            have HC0 := Lib.hid c0
            have HC1 := Lib.hid c1
            have HC2 := Lib.hid c2
            clear hcells c0 c1 c2 k1
            have hbs : w.heap.size ≤ w2.heap.size := HB2.out.size
            generalize D j = d at *
            generalize N j = n at *
            generalize T j = t at *
            by_cases hd0 : d = 0
            · subst hd0
              by_cases hn : 0 ≤ n ∧ n ≤ 255
              · have hx : x = [UInt8.ofNat n.toNat] := by simp [stepBytes, hn] at k2; exact k2.symm
                subst hx
                obtain ⟨hn0, hn1⟩ := hn
                have K3 := Lib.hid k3
                clear k2 k3
                have hst3 : S.data.toList = a ++ [UInt8.ofNat n.toNat] ++ r := by rw [hSl, hpart]
                have hcon := fun W h => back_byte w2.heap.size S a r n W hst3 hsz hn0 hn1 h
                have HCON := Lib.hid hcon
                clear hcon hst3
                go_wp2
                go_region_with (go_at_call 19; refine (HCON.out _ (Blk.drewN HRD.out 1)).mono ?_; rintro e w5 ⟨rfl, h5, g5⟩; have H5 := Lib.hid h5; have B5 := Lib.hid (HB3.out.trans (below_of_only (only_trans (only_drewN (only_refl _ _) 1) g5) HB3.out.size (by simp; omega))); have d0 := (B5.out.cell (p := ⟨b, off + j * 3, none⟩) hbB).trans HC0.out; have d1 := (B5.out.cell (p := ⟨b, off + j * 3 + 1, none⟩) hbB).trans HC1.out; have d2 := (B5.out.cell (p := ⟨b, off + j * 3 + 2, none⟩) hbB).trans HC2.out; clear h5 g5)
                all_goals
                  go_wp2
                  go_roundw
                  case rel => exact ⟨j + 1, _, by go_num, by omega, K3.out, H5.out, B5.out⟩
                  case measure => simp [intOf]; omega
              · simp [stepBytes, hn] at k2
            · by_cases hd1 : d = 1
              · subst hd1
                by_cases hn : 0 ≤ n ∧ n ≤ 65535
                · have hx : x = (Bt.put n).data.toList := by simp [stepBytes, hn] at k2; exact k2.symm
                  subst hx
                  obtain ⟨hn0, hn1⟩ := hn
                  have K3 := Lib.hid k3
                  clear k2 k3
                  have hst3 : S.data.toList = a ++ (Bt.put n).data.toList ++ r := by rw [hSl, hpart]
                  have hcon := fun W h => back_two w2.heap.size S a r n W hst3 hsz hn0 hn1 h
                  have HCON := Lib.hid hcon
                  clear hcon hst3
                  go_wp2
                  go_region_with (go_at_call 20; refine (HCON.out _ (Blk.drewN HRD.out 1)).mono ?_; rintro e w5 ⟨rfl, h5, g5⟩; have H5 := Lib.hid h5; have B5 := Lib.hid (HB3.out.trans (below_of_only (only_trans (only_drewN (only_refl _ _) 1) g5) HB3.out.size (by simp; omega))); have d0 := (B5.out.cell (p := ⟨b, off + j * 3, none⟩) hbB).trans HC0.out; have d1 := (B5.out.cell (p := ⟨b, off + j * 3 + 1, none⟩) hbB).trans HC1.out; have d2 := (B5.out.cell (p := ⟨b, off + j * 3 + 2, none⟩) hbB).trans HC2.out; clear h5 g5)
                  all_goals
                    go_wp2
                    go_roundw
                    case rel => exact ⟨j + 1, _, by go_num, by omega, K3.out, H5.out, B5.out⟩
                    case measure => simp [intOf]; omega
                · simp [stepBytes, hn] at k2
              · have hx : x = t.data.toList := by simp [stepBytes, hd0, hd1] at k2; exact k2.symm
                subst hx
                have hk0 : (d == 0) = false := beq_eq_false_iff_ne.2 hd0
                have hk1 : (d == 1) = false := beq_eq_false_iff_ne.2 hd1
                have K3 := Lib.hid k3
                clear k2 k3
                have hst3 : S.data.toList = a ++ t.data.toList ++ r := by rw [hSl, hpart]
                have hcon := fun W h => back_text w2.heap.size S a r t W hst3 hsz h
                have HCON := Lib.hid hcon
                clear hcon hst3
                go_wp2
                go_region_with (go_at_call 21; refine (HCON.out _ (Blk.drewN HRD.out 1)).mono ?_; rintro e w5 ⟨rfl, h5, g5⟩; have H5 := Lib.hid h5; have B5 := Lib.hid (HB3.out.trans (below_of_only (only_trans (only_drewN (only_refl _ _) 1) g5) HB3.out.size (by simp; omega))); have d0 := (B5.out.cell (p := ⟨b, off + j * 3, none⟩) hbB).trans HC0.out; have d1 := (B5.out.cell (p := ⟨b, off + j * 3 + 1, none⟩) hbB).trans HC1.out; have d2 := (B5.out.cell (p := ⟨b, off + j * 3 + 2, none⟩) hbB).trans HC2.out; clear h5 g5)
                all_goals
                  go_wp2
                  go_roundw
                  case rel => exact ⟨j + 1, _, by go_num, by omega, K3.out, H5.out, B5.out⟩
                  case measure => simp [intOf]; omega
          · obtain rfl : j = k := by omega
            obtain rfl : a = l := by have := HJ.out.symm.trans HO.out; injection this
            have hzz : S.size = a.length := by rw [← hSl]; simp
            have hleft : ∀ W, Rd W w2.heap.size S a.length 0 → Calls Try.prog 25 #[.pointer (some ⟨w2.heap.size, 0, none⟩)] W fun r w' => r = .returned (.int .i64 0) ∧ ∃ q, W.drewN q = w' := fun W h => by
              have := left_any w2.heap.size S a.length 0 W h (by omega) (by omega)
              have e : leftOf S a.length 0 = 0 := by simp [leftOf]; omega
              rw [e] at this
              exact this
            have HL := Lib.hid hleft
            clear hleft hzz hSl
            go_wp2_with (first | (go_at_call 7; refine (live_any _).mono ?_; rintro e w6 ⟨rfl, b6⟩; have HR6 := Lib.hid (Blk.below HRD.out b6 HRD.out.lt)) | (go_at_call 25; refine (HL.out _ HR6.out).mono ?_; rintro e w' ⟨rfl, q, rfl⟩) | (go_at_call 24; refine (err_any _ _ _ _ _ (Blk.drewN HR6.out q)).mono ?_; rintro e w' ⟨rfl, rfl⟩))
            go_ret
            exact ⟨rfl, below_drewN (HB3.out.trans (b6.mono HB3.out.size)) _⟩
end Go.Proofs.Ytblchpaoffdniab
