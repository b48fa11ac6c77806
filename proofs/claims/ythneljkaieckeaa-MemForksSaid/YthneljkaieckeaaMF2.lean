/- MemForks: its walk. -/
import Derived.Test.YthneljkaieckeaaMP7
import Derived.Test.YthneljkaieckeaaMF1
import Derived.Test.YthneljkaieckeaaMZ
namespace Go.Proofs.Ythneljkaieckeaa
open Go.RowKit Go.Lib Go.Sort
set_option linter.unusedVariables false

theorem rTo_none {p : Int → Bool} (h : ∀ x, p x = false) (n : Nat) : (rTo p n).1 = 0 := by
  induction n with
  | zero => rfl
  | succ n ih =>
    show (rStep (rTo p n).1 (rTo p n).2 n (p n)).1 = 0
    rw [h]
    simpa [rStep] using ih
theorem unl_same (l : List UInt8) (x : Int) : unl l l x = false := by simp [unl]
theorem offI_new {w : World} {A : Option Addr} {c g : Nat} {l : List UInt8} (h : Ints w A c (num l)) (hg : w.heap.size ≤ g) : OffI l A g := fun hp b off e => by
  obtain ⟨b', off', h1, h2, _⟩ := h.2 (by rw [num_len]; exact hp)
  rw [h1] at e
  injection e with e
  injection e with e1 _
  omega

theorem MemG.lower {w : World} {B B' m g : Nat} {l : List UInt8} (h : MemG w B m g l) (hB : B' ≤ B) : MemG w B' m g l := ⟨Nat.le_trans hB h.1, Nat.le_trans hB h.2.1, h.2.2.1, h.2.2.2⟩
theorem diff_same (L : List UInt8) (hL : L.length ≤ 400) (W : World) (B B' m1 m2 : Nat) (h1 : MemV W B m1 L) (h2 : MemV W B' m2 L) :
    Calls Try.prog 14 #[.pointer (some ⟨m1, 0, none⟩), .pointer (some ⟨m2, 0, none⟩)] W fun e w' => ∃ A c, e = .returned (.slice A 0 c) ∧ Below W.heap.size W w' :=
  (mdiff_any W B B' m1 m2 L L h1 h2 hL hL).mono fun e w' h => by
    obtain ⟨A, c, he, _, hb⟩ := h.row
    rw [rTo_none (unl_same L)] at he
    exact ⟨A, c, he, hb⟩

set_option maxRecDepth 100000 in
set_option maxHeartbeats 12800000 in
theorem forks_walk (size : Int) (A : Option Addr) (len cap : Nat) (D P N : Nat → Int) (T : Nat → ByteArray) (A' : Option Addr) (len' cap' : Nat) (D' P' N' : Nat → Int) (T' : Nat → ByteArray) (w : World) (hst : DeedsF w A len D P N T) (hln : len ≤ 9223372036854775807) (hst' : DeedsF w A' len' D' P' N' T') (hln' : len' ≤ 9223372036854775807) :
    Calls Try.prog 4 #[.int .i64 size, .slice A len cap, .slice A' len' cap'] w (TrueV w) := by
  have hfew := few_any size A len cap D P N T w hst hln
  have hfew' := few_any size A' len' cap' D' P' N' T' w hst' hln'
  have hpl : (size ≤ 400 ∧ ∀ i, i < len → (T i).size ≤ 300) → Calls Try.prog 9 #[.int .i64 size, .slice A len cap] w (PlayedV (plTo D P N T (List.replicate (sizeOf' size) 0) (min len 40)) (sizeOf' size) w) := fun h => played_any size A len cap D P N T w hst h.1 h.2 hln
  have hL : (plTo D P N T (List.replicate (sizeOf' size) 0) (min len 40)).length = sizeOf' size := by rw [plTo_len, List.length_replicate]
  have hs : size ≤ 400 → sizeOf' size ≤ 400 := sizeOf'_small
  generalize plTo D P N T (List.replicate (sizeOf' size) 0) (min len 40) = L at *
  generalize sizeOf' size = s at *
  have hC : ∀ k, (plTo D' P' N' T' L k).length = s := fun k => by rw [plTo_len, hL]
  have hsz : ∀ W B m, MemV W B m L → Calls Try.prog 11 #[.pointer (some ⟨m, 0, none⟩)] W fun r w' => r = .returned (.int .i64 s) ∧ W = w' := fun W B m h => by
    have := size_any W _ m _ h
    rw [hL] at this
    exact this
  have htx := fun (h : s ≤ 400) => whole_text L s hL h
  have hrt := fun (h : s ≤ 400) => whole_rtext L s hL h
  have hfk := fun (h : s ≤ 400) W B m g (hm : MemG W B m g L) => fork_any W B m g L hm (by omega)
  have hd0 := fun (h : s ≤ 400) => diff_same L (by omega)
  obtain ⟨C, hCv⟩ : ∃ C, C = plTo D' P' N' T' L (min len' 40) := ⟨_, rfl⟩
  have hCl : C.length = s := by rw [hCv, hC]
  have hd : s ≤ 400 → ∀ W B B' m1 m2, MemV W B m1 L → MemV W B' m2 C → Calls Try.prog 14 #[.pointer (some ⟨m1, 0, none⟩), .pointer (some ⟨m2, 0, none⟩)] W (RowD L C W) := fun h W B B' m1 m2 h1 h2 => (mdiff_any W B B' m1 m2 L C h1 h2 (by omega) (by omega)).mono fun _ _ h => h.row
  have hrd : s ≤ 400 → ∀ W A1 c1 A2 c2, Ints W A1 c1 (num L) → Ints W A2 c2 (num C) → Calls Try.prog 17 #[.slice A1 s c1, .slice A2 s c2] W (RowD L C W) := fun h W A1 c1 A2 c2 h1 h2 => (rdiff_any W A1 A2 c1 c2 _ _ L C hL.symm hCl.symm h1 h2 (by omega) (by omega)).mono fun _ _ h => h.row
  have hsm := fun (h : s ≤ 400) A B ca cb w hA hB => sameD_any A B ca cb L C w hA hB (by omega) (by omega)
  have HFEW := Lib.hid hfew
  have HFEW' := Lib.hid hfew'
  have HPL := Lib.hid hpl
  have HSZ := Lib.hid hsz
  have HTX := Lib.hid htx
  have HRT := Lib.hid hrt
  have HS := Lib.hid hs
  have HFK := Lib.hid hfk
  have HD0 := Lib.hid hd0
  have HD := Lib.hid hd
  have HRD := Lib.hid hrd
  have HSM := Lib.hid hsm
  have HC := Lib.hid hC
  have HCV := Lib.hid hCv
  have HST := Lib.hid hst'
  clear hfew hfew' hpl hL hs hsz htx hrt hst hfk hd0 hd hrd hsm hC hCv hCl hst'
  go_enter Try.func4, Try.ntmps4
  go_wp2_with (go_at_call 7; (with_reducible refine HFEW.out.mono ?_); rintro e w0 ⟨⟨r, rfl, hr⟩, rfl⟩; have HR := Lib.hid hr; clear hr; cases r)
  · go_wp2_with (go_at_call 8; refine (mlive_any _).mono ?_; rintro e w1 ⟨rfl, b1⟩; have B1 := Lib.hid b1; clear b1)
    go_ret
    exact ⟨rfl, B1.out⟩
  · have H4 := Lib.hid (HR.out (by first | rfl | trivial))
    have H5 := Lib.hid (HS.out H4.out.1)
    clear HR
    go_wp2_with (go_at_call 7; (with_reducible refine HFEW'.out.mono ?_); rintro e w0 ⟨⟨r, rfl, hr⟩, rfl⟩; have HR := Lib.hid hr; clear hr; cases r)
    · go_wp2_with (go_at_call 8; refine (mlive_any _).mono ?_; rintro e w1 ⟨rfl, b1⟩; have B1 := Lib.hid b1; clear b1)
      go_ret
      exact ⟨rfl, B1.out⟩
    · have HT := Lib.hid (HR.out (by first | rfl | trivial)).2
      clear HR
      go_wp2_with (first
        | (go_at_call 9; refine (HPL.out H4.out).mono ?_; rintro e w1 ⟨m, g, A1, c1, rfl, hg, hi, ho, hb⟩; have G1 := Lib.hid hg; have I1 := Lib.hid hi; have B1 := Lib.hid hb; clear hg hi ho hb)
        | (go_at_call 13; refine (HFK.out H5.out _ _ _ _ G1.out).mono ?_; rintro e w2 ⟨m2, g2, rfl, hg2, hg1, hb2⟩; have G1a := Lib.hid hg1; have G2 := Lib.hid (hg2.lower B1.out.size); have I1a := Lib.hid (I1.out.below hb2); have OI := Lib.hid (offI_new I1.out hg2.1); have NE := Lib.hid (⟨by have := hg2.1; have := G1.out.lt; omega, by have := hg2.1; have := G1.out.lt; omega⟩ : g ≠ g2 ∧ m ≠ g2); have B2 := Lib.hid (B1.out.trans (hb2.mono B1.out.size)); clear hg2 hg1 hb2)
        | (go_at_call 14; refine (HD0.out H5.out _ _ _ _ _ G1a.out.mem G2.out.mem).mono ?_; rintro e w3 ⟨A9, c9, rfl, hb3⟩; have G1b := Lib.hid (G1a.out.below hb3); have G2b := Lib.hid (G2.out.below hb3); have I1b := Lib.hid (I1a.out.below hb3); have B3 := Lib.hid (B2.out.trans (hb3.mono B2.out.size)); clear hb3))
      go_loopw [9, 11, 12] (fun o v x wr => ∃ (k : Nat) (A3 : Option Addr) (c3 : Nat), x = .int .i64 k ∧ v = .slice A3 s c3 ∧ k ≤ len' ∧ k ≤ 40 ∧ MemG wr w.heap.size m g L ∧ MemG wr w.heap.size m2 g2 (plTo D' P' N' T' L k) ∧ Ints wr A1 c1 (num L) ∧ Ints wr A3 c3 (num (plTo D' P' N' T' L k)) ∧ OffI (plTo D' P' N' T' L k) A3 g2 ∧ Below w.heap.size w wr) (fun _ _ x _ => 40 - (intOf x).toNat)
      case atStart => exact ⟨0, A1, c1, rfl, rfl, by omega, by omega, G1b.out, G2b.out, I1b.out, I1b.out, OI.out, B3.out⟩
      case round =>
        clear G1 G2 I1 B1 G1a I1a B2 G1b G2b I1b B3
        obtain ⟨k, A3, c3, rfl, rfl, hk, hk4, hg1, hg2, hi1, hi3, ho, hb⟩ := hrel
        have G1 := Lib.hid hg1
        have G2 := Lib.hid hg2
        have I1 := Lib.hid hi1
        have I3 := Lib.hid hi3
        have O3 := Lib.hid ho
        have B3 := Lib.hid hb
        have HL := Lib.hid (HC.out k)
        clear hg1 hg2 hi1 hi3 ho hb
        by_cases h1 : k < len' ∧ k < 40
        · obtain ⟨h1, h2⟩ := h1
          obtain ⟨b, off, rfl, hbB, hcells⟩ := HST.out (by omega)
          obtain ⟨a0, a1, a2, a3⟩ := hcells k h1
          have d0 := (B3.out.cell (p := ⟨b, off + k * 4, none⟩) hbB).trans a0
          have d1 := (B3.out.cell (p := ⟨b, off + k * 4 + 1, none⟩) hbB).trans a1
          have d2 := (B3.out.cell (p := ⟨b, off + k * 4 + 2, none⟩) hbB).trans a2
          have d3 := (B3.out.cell (p := ⟨b, off + k * 4 + 3, none⟩) hbB).trans a3
          have hnx := plTo_next D' P' N' T' L k
          have htk := HT.out k h1
          have HNX := Lib.hid hnx
          have hlen := HL.out
          have h5 := H5.out
          clear hcells a0 a1 a2 a3 hnx
          generalize D' k = d at *
          generalize P' k = p at *
          generalize N' k = n at *
          generalize T' k = t at *
          generalize plTo D' P' N' T' L k = l at *
          have i1 : (k : Int) < (len' : Int) := by omega
          have i2 : (k : Int) < 40 := by omega
          by_cases hd : 0 ≤ d ∧ d < 3
          · obtain ⟨hd0, hd3⟩ := hd
            have hw := wrote_any d p n t hd0 hd3 wr w.heap.size m2 g2 s c3 A3 l G2.out I3.out O3.out hlen.symm (by omega) htk
            have hnx := HNX.out
            rw [if_pos ⟨hd0, hd3⟩] at hnx
            rw [← hnx] at hw
            have HW := Lib.hid hw
            clear hw hnx hlen h5
            go_wp2_with (go_at_call 15; refine HW.out.mono ?_; rintro e w4 ⟨A4, c4, rfl, hg4, hi4, ho4, hb4⟩; have B4 := Lib.hid (B3.out.trans (G2.out.under B3.out.size hb4)); have F1 := Lib.hid (G1.out.far hb4 NE.out.1 NE.out.2); have F2 := Lib.hid hg4; have J1 := Lib.hid (I1.out.farI hb4 OI.out); have J4 := Lib.hid hi4; have O4 := Lib.hid ho4; clear hg4 hi4 ho4 hb4)
            go_roundw
            case rel => exact ⟨k + 1, A4, c4, by go_num, rfl, by omega, by omega, F1.out, F2.out, J1.out, J4.out, O4.out, B4.out⟩
            case measure => simp [intOf] <;> omega
          · have hnx := HNX.out
            rw [if_neg hd] at hnx
            have HNX2 := Lib.hid hnx
            clear hnx hlen h5
            rcases Int.lt_or_le d 0 with hd0 | hd0
            all_goals
              first | (have hd1 : ¬ 0 ≤ d := by omega) | (have hd1 : ¬ d < 3 := by omega)
              clear hd
              go_wp2
              go_roundw
              case rel => exact ⟨k + 1, A3, c3, by go_num, rfl, by omega, by omega, G1.out, by rw [HNX2.out]; exact G2.out, I1.out, by rw [HNX2.out]; exact I3.out, by rw [HNX2.out]; exact O3.out, B3.out⟩
              case measure => simp [intOf] <;> omega
        · have hk9 : k = min len' 40 := by omega
          have hcv := HCV.out
          rw [← hk9] at hcv
          have HK := Lib.hid hcv.symm
          have hcc : (len' ≤ k) ∨ (k < len' ∧ 40 ≤ k) := by omega
          clear hk9 h1 hcv
          rcases hcc with hc1 | ⟨hc1, hc2⟩
          all_goals
            first | (have i1 : ¬ (k : Int) < (len' : Int) := by omega) | (have i1 : (k : Int) < (len' : Int) := (by omega); have i2 : ¬ (k : Int) < 40 := (by omega))
            have g2' := G2.out
            have i3' := I3.out
            rw [HK.out] at g2' i3'
            have G2' := Lib.hid g2'
            have I3' := Lib.hid i3'
            clear g2' i3'
            go_wp2_with (first
              | (go_at_call 11; refine (HSZ.out _ _ _ G1.out.mem).mono ?_; rintro e w2 ⟨rfl, rfl⟩)
              | (go_at_call 10; refine (HTX.out H5.out _ _ _ G1.out.mem).mono ?_; rintro e w2 ⟨rfl, rfl⟩)
              | (go_at_call 8; refine (mlive_any _).mono ?_; rintro e w5 ⟨rfl, b5⟩; have B5 := Lib.hid (b5 : Below wr.heap.size wr w5); clear b5)
              | (go_at_call 12; refine (HRT.out H5.out _ _ _ (I1.out.below B5.out)).mono ?_; rintro e w6 ⟨rfl, b6⟩; have B6 := Lib.hid (B5.out.trans (b6.mono B5.out.size)); clear b6)
              | (go_at_call 14; refine (HD.out H5.out _ _ _ m m2 (G1.out.below B6.out).mem (G2'.out.below B6.out).mem).mono ?_; rintro e w8 ⟨A8, c8, rfl, s8, b8⟩; have S8 := Lib.hid s8; have B8 := Lib.hid (B6.out.trans (b8.mono B6.out.size)); clear s8 b8)
              | (go_at_call 17; refine (HRD.out H5.out _ A1 c1 A3 c3 (I1.out.below B8.out) (I3'.out.below B8.out)).mono ?_; rintro e w9 ⟨A9, c9, rfl, s9, b9⟩; have S9 := Lib.hid s9; have S8a := Lib.hid (S8.out.below b9); have B9 := Lib.hid (B8.out.trans (b9.mono B8.out.size)); clear s9 b9)
              | (go_at_call 16; (with_reducible refine (HSM.out H5.out A8 A9 c8 c9 _ S8a.out S9.out).mono ?_); rintro e w10 ⟨rfl, b10⟩; have FIN := Lib.hid (B3.out.trans ((B9.out.trans (b10.mono B9.out.size)).mono B3.out.size)); clear b10))
            go_ret
            exact ⟨by first | rfl | (simp; done), FIN.out⟩
end Go.Proofs.Ythneljkaieckeaa
