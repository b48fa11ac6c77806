/- The document's Faults, by its contract. -/
import Derived.Test.YtgkegmkedkgkcaaO19
namespace Go.Proofs.Ytgkegmkedkgkcaa
open Go.RowKit Go.Lib Go.Sort
set_option linter.unusedVariables false

theorem only_of_below {w w' : World} (h : Below w.heap.size w w') : w.grownBy w' none := only_far h
set_option maxRecDepth 20000 in
set_option maxHeartbeats 3200000 in
theorem rfaults_any (c : Cf) (w : World) (hc : CfV w c) (hf : FitCf c) : Calls Try.prog 7 #[cfv c] w (RFaultsV c w) := by
  obtain ⟨W1, hW, G0, hA⟩ := box1 w 26 #[.int .i64 c.fr, .slice c.wA c.wn c.wc, .slice c.sA c.sn c.sc, .slice c.cA c.cn c.cc]
  obtain ⟨k0, k1, k2, k3⟩ := cf_cells (c := c) hA
  have HCF := Lib.hid (fun (W : World) (g : w.grownBy W none) => (show Calls Try.prog 13 #[.agg #[.int .i64 c.fr, .slice c.wA c.wn c.wc, .slice c.sA c.sn c.sc, .slice c.cA c.cn c.cc]] W (fun e w' => e = .returned (.bool (frB c)) ∧ W.grownBy w' none) from rframe_any c W))
  have HFI := Lib.hid (frB_iff (c := c))
  have HHA := Lib.hid (show frB c = true → ∀ (W : World), w.grownBy W none → ∀ (why row : Nat), 2 ≤ why → why ≤ 10 → row ≤ 1000 → Calls Try.prog 14 #[.agg #[.int .i64 c.fr, .slice c.wA c.wn c.wc, .slice c.sA c.sn c.sc, .slice c.cA c.cn c.cc], .int .i64 why, .int .i64 row] W (fun e w' => e = .returned (.bool (hasB c why row)) ∧ W.grownBy w' none) from fun hfr W g why row h1 h2 h3 => has_any c W (hc.grown g) hf (by have := frB_iff.1 hfr; omega) why row h1 h2 h3)
  have HA := Lib.hid (show BoxC W1 w.heap.size c from hA)
  have HB1 := Lib.hid (show Below w.heap.size w W1 by rw [hW]; exact (Below.refl _ _).alloc (Nat.le_refl _) _)
  replace G0 := Lib.hid G0
  show Calls Try.prog 7 #[.agg #[.int .i64 c.fr, .slice c.wA c.wn c.wc, .slice c.sA c.sn c.sc, .slice c.cA c.cn c.cc]] w _
  clear hA hc hf
  cases hfr : frB c
  · have HV := Lib.hid (show ∀ (A : Option Addr) (k : Nat) (w' : World), w.grownBy w' none → RFaultsV c w (.returned (.slice A 1 k)) w' from fun A k w' g => ⟨A, 1, k, rfl, by rw [hfr]; simp, by omega, g⟩)
    rw [hfr] at HCF
    clear hfr HHA HFI
    go_enter Try.func7, Try.ntmps7
    go_upto_region 1 with (fail)
    rw [← hW]
    clear hW
    go_wp2_with (go_at_call 13; (with_reducible refine (HCF.out W1 G0.out).mono ?_); rintro e w2 ⟨rfl, g2⟩; have G2 := Lib.hid (only_trans G0.out g2); clear g2)
    go_ret
    exact HV.out _ _ _ (only_alloc G2.out _)
  · have HV := Lib.hid (show ∀ (s : Value) (w' : World), OutV c w s w' 11 0 → RFaultsV c w (.returned s) w' from fun s w' h => by
      obtain ⟨L, h1, h2, h3, h4, h5, h6⟩ := h
      obtain ⟨A, k, rfl⟩ := h1.form
      exact ⟨A, L.length, k, rfl, by rw [hfr, List.length_eq_zero_iff, h4]; simp, by omega, only_of_below h6⟩)
    have HH := Lib.hid (HHA.out hfr)
    rw [hfr] at HCF
    clear hfr HHA HFI
    have HST := Lib.hid (show ∀ w2, W1.grownBy w2 none → OutV c w (.slice (some ⟨w2.heap.size, 0, none⟩) 0 0) (w2.alloc (.cells #[] 49)) 2 0 from fun w2 g => by
      have hs := HB1.out.size
      have hl := HA.out.lt
      have hz := g.size
      refine ⟨[], ?_, fun k hk => ?_, by simp, ⟨fun _ => ⟨fun a ha hl b hb => by omega, fun b hb => by omega⟩, fun _ => rfl⟩, (HA.out.only g (by simp)).alloc _, ((HB1.out.trans (below_of_only g hs (by simp))).alloc (by omega) _)⟩
      · exact RowZ.empty 2 0 (by simp)
      · simp [Value.ownBlock] at hk
        omega)
    go_enter Try.func7, Try.ntmps7
    go_upto_region 1 with (fail)
    rw [← hW]
    clear hW
    go_wp2_with (go_at_call 13; (with_reducible refine (HCF.out W1 G0.out).mono ?_); rintro e w2 ⟨rfl, g2⟩; have ST := Lib.hid (HST.out w2 g2); clear g2 k0 k1 k2 k3)
    go_loopw [3, 4] (fun s x wr => ∃ y : Nat, x = .int .i64 y ∧ 2 ≤ y ∧ y ≤ 11 ∧ Hid (OutV c w s wr y 0)) (fun s x _ => 11 - (intOf x).toNat)
    case atStart => exact ⟨2, rfl, by omega, by omega, ST⟩
    case round =>
      obtain ⟨y, rfl, hy2, hy, HO⟩ := hrel
      by_cases hy10 : y ≤ 10
      · have i1 : (y : Int) ≤ 10 := by omega
        go_wp2
        go_loopw [3, 5] (fun s x wr => ∃ r : Nat, x = .int .i64 r ∧ r ≤ 33 ∧ Hid (OutV c w s wr y r)) (fun s x _ => 33 - (intOf x).toNat)
        case atStart => exact ⟨0, rfl, by omega, HO⟩
        case round =>
          obtain ⟨r, rfl, hr, HR⟩ := hrel
          by_cases hr32 : r ≤ 32
          · have i2 : (r : Int) ≤ 32 := by omega
            have HCI := Lib.hid (HH.out wr (by obtain ⟨L, _, _, _, _, _, h6⟩ := HR.out; exact only_of_below h6) y r hy2 hy10 (by omega))
            have HPA := Lib.hid (fun w2 => OutV.pass (w2 := w2) HR.out)
            have HRW := Lib.hid (NoneB.row (c := c) (y := y) (r := r))
            generalize hasB c y r = z at HCI HPA HRW
            obtain ⟨k0, k1, k2, k3⟩ := cf_cells (by obtain ⟨L, _, _, _, _, h5, _⟩ := HR.out; exact h5)
            cases z
            · go_wp2_with (go_at_call 14; (with_reducible refine HCI.out.mono ?_); rintro e w2 ⟨rfl, g2⟩; have R2 := Lib.hid (HPA.out _ g2 rfl); clear g2 k0 k1 k2 k3)
              go_roundw
              case rel => exact ⟨r + 1, by go_num, by omega, R2⟩
              case measure => simp [intOf] <;> omega
            · obtain ⟨L, hrow, hown, hlen, hnone, hbox, hbel⟩ := HR.out
              obtain ⟨va, vc, rfl⟩ := hrow.form
              have G3 := Lib.hid (fun (w2 : World) (g2 : wr.grownBy w2 none) => (show ∃ v' w', (Builtin.append_ #[29, 29] 29 #[.slice va L.length vc, .slice (some ⟨w2.heap.size, 0, none⟩) 1 1]).run Try.prog (w2.alloc (.cells #[.int .i64 r, .int .i64 y] 49)) = .ok v' w' ∧ OutV c w v' w' y (r + 1) from by
                obtain ⟨i0, hi0, hz0, hz1, hz2⟩ := info_parts fault_info
                have hrow3 := (hrow.grown g2).alloc (.cells #[.int .i64 r, .int .i64 y] 49)
                have hsrc : Src Try.prog 2 29 (.slice (some ⟨w2.heap.size, 0, none⟩) 1 1) 1 [.int .i64 r, .int .i64 y] (w2.alloc (.cells #[.int .i64 r, .int .i64 y] 49)) := Src.ofSlice _ Try.underlying29 _ _ _ _ rfl (fun j u hu => by
                  have hj := (Blk.new w2 49 #[.int .i64 r, .int .i64 y]).cell j
                  rw [addr_at, Nat.zero_add, hj]
                  simpa using hu) (by simp [Value.oneCell'])
                obtain ⟨v', w', hk, hr3, hg', ho⟩ := run_pushZ (P := Try.prog) _ 29 49 29 i0 _ 16 Try.underlying29 hi0 hz0 hz1 hz2 (by omega) rfl _ _ _ hrow3 (flC_one _) _ _ hsrc (by omega)
                have hs2 := g2.size
                have hs1 := hbel.size
                have hl := hbox.lt
                have hbox2 := (hbox.only g2 (by simp)).alloc (.cells #[.int .i64 r, .int .i64 y] 49)
                have hbel2 := (hbel.trans (below_of_only g2 hs1 (by simp))).alloc (Nat.le_trans hs1 hs2) (.cells #[.int .i64 r, .int .i64 y] 49)
                refine ⟨v', w', hk, L ++ [((r : Int), (y : Int))], ?_, fun k hk => ?_, ?_, ?_, hbox2.only hg' (fun e => ?_), hbel2.trans (below_of_only hg' hbel2.size (fun k hk => ?_))⟩
                · have e2 : flC (L ++ [((r : Int), (y : Int))]) = flC L ++ [.int .i64 r, .int .i64 y] := by rw [flC_app]; rfl
                  rw [e2, List.length_append]
                  exact hr3
                · rcases ho with ho | ho
                  · exact hown k (ho ▸ hk)
                  · rw [ho] at hk
                    injection hk with hk
                    rw [← hk]
                    simp
                    omega
                · rw [List.length_append]
                  simp
                  omega
                · refine ⟨fun e => ?_, fun e => ?_⟩
                  · simp at e
                  · have := (HRW.out.1 e).2
                    cases this
                · have := hown _ e.symm
                  omega
                · have := hown k hk
                  omega))
              clear hrow hown hlen hnone hbox hbel HR HPA HRW
              generalize L.length = ln at G3 ⊢
              go_wp2_with (first | (go_at_call 14; (with_reducible refine HCI.out.mono ?_); rintro e w2 ⟨rfl, g2⟩; clear k0 k1 k2 k3; obtain ⟨v', w', HK, R2⟩ := G3.out _ g2; clear G3 g2; replace HK := Lib.hid HK; replace R2 := Lib.hid R2) | (at_builtin; refine wpList_append_eq rfl (.tmp 24) (.tmp 28) 29 rfl HK.out rfl rfl ?_))
              go_roundw
              case rel => exact ⟨r + 1, by go_num, by omega, R2⟩
              case measure => simp [intOf] <;> omega
          · obtain rfl : r = 33 := by omega
            have i2 : ¬ ((33 : Nat) : Int) ≤ 32 := by omega
            have R2 := Lib.hid (HR.out.next hy2)
            clear HR
            go_wp2
            go_roundw
            case rel => exact ⟨y + 1, by go_num, by omega, by omega, R2⟩
            case measure => simp [intOf] <;> omega
      · obtain rfl : y = 11 := by omega
        have i1 : ¬ ((11 : Nat) : Int) ≤ 10 := by omega
        go_wp2
        go_ret
        exact HV.out _ _ HO.out
end Go.Proofs.Ytgkegmkedkgkcaa
