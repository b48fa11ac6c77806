import Derived.Test.YtjmdcmcheiagjaaZ04
import Derived.Test.YtjmdcmcheiagjaaZ07
import Derived.Deep.RegionHeld3
import Derived.Test.YtjmdcmcheiagjaaZ09
set_option linter.all false
/- Parse of package image, walked where it reads. -/
namespace Go.Proofs.Ytjmdcmcheiagjaa
open Go.RowKit Go.Lib Go.Sort
set_option linter.unusedVariables false

set_option maxRecDepth 20000 in
set_option maxHeartbeats 3200000 in
theorem parse_reads (s : ByteArray) (w : World) (hs : s.size ≤ 9000) (h : (Cr.openV s).2 = 0) (hno : ¬ otherB (Cr.openV s).1) : Calls Try.prog 12 #[.string s] w (ParseV s w) := by
  have hl := open_len h
  have hie : imgE s = bodyE (Cr.openV s).1 := if_pos h
  obtain ⟨W1, hW⟩ : ∃ W1, W1 = w.alloc (.cells #[.int .i64 0, .slice none 0 0, .slice none 0 0, .slice none 0 0] 26) := ⟨_, rfl⟩
  have B1 := Lib.hid (show Below w.heap.size w W1 by rw [hW]; exact (Below.refl _ _).alloc (Nat.le_refl _) _)
  have BX : Hid (Blk W1 w.heap.size 26 #[.int .i64 0, .slice none 0 0, .slice none 0 0, .slice none 0 0]) := Lib.hid (by rw [hW]; exact Blk.new _ _ _)
  have HO := Lib.hid (open_big s W1 (by omega))
  have HIE := Lib.hid hie
  have HPV := Lib.hid (show ∀ e w', (∃ c : Cf, e = .returned (.tuple #[cfv c, .int .i64 (imgE s)]) ∧ CfV w' c ∧ FitCf c ∧ Below w.heap.size w w' ∧ (imgE s = 0 → TellsB (Cr.openV s).1 c) ∧ (imgE s ≠ 0 → NoneC c)) → ParseV s w e w' from fun e w' k => k)
  have HZ := Lib.hid (fun (w' : World) (hz : imgE s ≠ 0) (b : Below w.heap.size w w') => zC_no (s := s) hz b)
  clear hie
  generalize Cr.openV s = o at HO HIE HPV h hl hno
  obtain ⟨t, o2⟩ := o
  simp only at h hl hno HIE HPV
  subst h
  have hst : t.size ≤ 10000 := by omega
  have HNO := Lib.hid hno
  have key : ∃ (tx : ByteArray) (ev : Int), ((ev = 0 ∧ tx = ⟨#[67, 1]⟩) ∨ (ev = 5 ∧ tx = .empty)) ∧ tx = (if 2 ≤ t.size then t.extract 0 2 else .empty) ∧ ev = (if 2 ≤ t.size then 0 else 5) := by
    by_cases hk : 2 ≤ t.size
    · refine ⟨⟨#[67, 1]⟩, 0, .inl ⟨rfl, rfl⟩, ?_, by rw [if_pos hk]⟩
      rw [if_pos hk]
      by_cases he : t.extract 0 2 = ⟨#[67, 1]⟩
      · exact he.symm
      · exact absurd ((other_iff hk).2 he) hno
    · exact ⟨.empty, 5, .inr ⟨rfl, rfl⟩, by rw [if_neg hk], by rw [if_neg hk]⟩
  obtain ⟨tx, ev, hcase, htx, hev⟩ := key
  have HTX := Lib.hid htx
  have HEV := Lib.hid hev
  clear hno htx hev
  rcases hcase with ⟨rfl, rfl⟩ | ⟨rfl, rfl⟩
  all_goals
    go_enter Try.func12, Try.ntmps12
    go_upto_region 1 with (fail)
    rw [← hW]
    clear hW
    go_upto_region 4 with (go_at_call 32; (with_reducible refine HO.out.mono ?_); rintro e w2 ⟨rfl, b2⟩; have B2 := Lib.hid (B1.out.trans (b2.mono B1.out.size)); have X2 := Lib.hid (BX.out.below b2 BX.out.lt); clear b2)
    have R0 := Lib.hid (show RdK (w2.alloc (.cells #[.int .i64 0, .string t, .int .i64 0] 85)) w2.heap.size t 0 from .inl ⟨by omega, Blk.new _ _ _⟩)
    have HT := Lib.hid (rtext2_at R0.out hst)
    rw [← HTX.out] at HT
    have HE := Lib.hid (fun (W : World) (k : RdK W w2.heap.size t 2) => rerr_at k)
    rw [← HEV.out] at HE
    have BX2 := Lib.hid (show Below w.heap.size w (w2.alloc (.cells #[.int .i64 0, .string t, .int .i64 0] 85)) from B2.out.alloc B2.out.size _)
    have X3 := Lib.hid (X2.out.alloc (.cells #[.int .i64 0, .string t, .int .i64 0] 85))
    have hlt := X2.out.lt
    go_upto_region 8 with (first
      | (go_at_call 33; (with_reducible refine (new_any _ _).mono ?_); rintro e w3 ⟨rfl, rfl⟩)
      | (go_at_call 34; (with_reducible refine HT.out.mono ?_); rintro e w4 ⟨rfl, r4, g4⟩; have R4 := Lib.hid r4; have X4 := Lib.hid (X3.out.only g4 (by simp; omega)); have hb4 : w2.heap.size < w4.heap.size := (by have := g4.size; simp at this; omega); have B4 := Lib.hid (BX2.out.trans (below_of_only g4 (by have := BX2.out.size; omega) (fun k hk => by injection hk with hk; omega))); clear r4 g4)
      | (go_at_call 35; (with_reducible refine (HE.out _ R4.out).mono ?_); rintro e w5 ⟨rfl, rfl⟩))
    obtain ⟨w5, hw5⟩ : ∃ w5, w5 = w4.alloc (.cells #[.int .i64 0, .slice none 0 0, .slice none 0 0, .slice none 0 0] 26) := ⟨_, rfl⟩
    have P5 : Hid (PSt w w5 w2.heap.size w4.heap.size t 2 #[.int .i64 0, .slice none 0 0, .slice none 0 0, .slice none 0 0]) := Lib.hid (by
      rw [hw5]
      exact ⟨R4.out.only (row := none) (only_alloc (only_refl _ _) _) (by simp), X4.out.alloc _, Blk.new _ _ _, B4.out.alloc (by have := B4.out.size; omega) _, hlt, hb4⟩)
    have hgz : w4.heap.size < w5.heap.size := by rw [hw5]; simp
    clear X4 B4 R4 X3 BX2 HE HT R0 X2 B2
    go_upto_region 9 with (fail)
    rw [← hw5]
    clear hw5
    generalize w4.heap.size = gc at P5 hb4 hgz ⊢
    generalize w2.heap.size = b at P5 hb4 hlt ⊢
    have Q5 := Lib.hid P5.out.1
    go_upto_region 10 with (go_at_call 36; (with_reducible refine (rtwo_at Q5.out hst).mono ?_); rintro e w6 ⟨rfl, r6, g6⟩; have P6 := Lib.hid (P5.out.only g6 r6); have gz6 := g6.size; clear r6 g6; have a0 : w6.cell? ⟨gc, 0, none⟩ = some (.int .i64 0) := P6.out.2.2.1.cell 0; have f0 := P6.out.2.2.1.free 0)
    obtain ⟨w7, hw7⟩ : ∃ w7, w7 = w6.setCell ⟨gc, 0, none⟩ (.int .i64 (gw t 2)) := ⟨_, rfl⟩
    have P7 : Hid (PSt w w7 b gc t 4 #[.int .i64 (gw t 2), .slice none 0 0, .slice none 0 0, .slice none 0 0]) := Lib.hid (by rw [hw7]; exact P6.out.set 0 _)
    have gz7 : gc < w7.heap.size := by rw [hw7]; simp; omega
    rw [← hw7]
    clear hw7 a0 f0 P5 P6 gz6 hgz
    have Q7 := Lib.hid P7.out.1
    go_upto_region 11 with (go_at_call 37; (with_reducible refine (rrwin_any b t 4 w7 Q7.out hst).mono ?_); rintro e w8 ⟨s1, rfl, i8⟩; have P8 := Lib.hid (P7.out.only i8.2.2.2.1 i8.2.2.1); have K8 := Lib.hid (i8.kept gz7); have gz8 := i8.2.2.2.1.size; clear i8; obtain ⟨A1, c1, rfl⟩ := K8.out.1.form; have a1 : w8.cell? ⟨gc, 1, none⟩ = some (.slice none 0 0) := P8.out.2.2.1.cell 1; have f1 := P8.out.2.2.1.free 1)
    obtain ⟨w9, hw9⟩ : ∃ w9, w9 = w8.setCell ⟨gc, 1, none⟩ (.slice A1 (gb t 4) c1) := ⟨_, rfl⟩
    have P9 : Hid (PSt w w9 b gc t (iq1 t) #[.int .i64 (gw t 2), .slice A1 (gb t 4) c1, .slice none 0 0, .slice none 0 0]) := Lib.hid (by rw [hw9]; exact P8.out.set 1 _)
    have K9 := Lib.hid (show Kept 3 w9 (.slice A1 (gb t 4) c1) (gb t 4) _ gc from by rw [hw9]; exact K8.out.set (Nat.le_refl _) _)
    have gz9 : gc < w9.heap.size := by rw [hw9]; simp; omega
    rw [← hw9]
    clear hw9 a1 f1 P7 P8 K8 gz7 gz8
    have Q9 := Lib.hid P9.out.1
    go_upto_region 12 with (go_at_call 39; (with_reducible refine (rrslot_any b t (iq1 t) w9 Q9.out hst).mono ?_); rintro e w10 ⟨s2, rfl, i10⟩; have P10 := Lib.hid (P9.out.only i10.2.2.2.1 i10.2.2.1); have K10 := Lib.hid (i10.kept gz9); have J10 := Lib.hid (K9.out.only i10.2.2.2.1 P9.out.2.2.2.2.2); have gz10 := i10.2.2.2.1.size; clear i10; obtain ⟨A2, c2, rfl⟩ := K10.out.1.form; have a2 : w10.cell? ⟨gc, 2, none⟩ = some (.slice none 0 0) := P10.out.2.2.1.cell 2; have f2 := P10.out.2.2.1.free 2)
    obtain ⟨w11, hw11⟩ : ∃ w11, w11 = w10.setCell ⟨gc, 2, none⟩ (.slice A2 (gb t (iq1 t)) c2) := ⟨_, rfl⟩
    have P11 : Hid (PSt w w11 b gc t (iq2 t) #[.int .i64 (gw t 2), .slice A1 (gb t 4) c1, .slice A2 (gb t (iq1 t)) c2, .slice none 0 0]) := Lib.hid (by rw [hw11]; exact P10.out.set 2 _)
    have K11 := Lib.hid (show Kept 3 w11 (.slice A2 (gb t (iq1 t)) c2) (gb t (iq1 t)) _ gc from by rw [hw11]; exact K10.out.set (Nat.le_refl _) _)
    have J11 := Lib.hid (show Kept 3 w11 (.slice A1 (gb t 4) c1) (gb t 4) _ gc from by rw [hw11]; exact J10.out.set (Nat.le_refl _) _)
    have gz11 : gc < w11.heap.size := by rw [hw11]; simp; omega
    rw [← hw11]
    clear hw11 a2 f2 P9 P10 K9 K10 J10 gz9 gz10
    have Q11 := Lib.hid P11.out.1
    go_upto_region 13 with (go_at_call 41; (with_reducible refine (rrcli_any b t (iq2 t) w11 Q11.out hst).mono ?_); rintro e w12 ⟨s3, rfl, i12⟩; have P12 := Lib.hid (P11.out.only i12.2.2.2.1 i12.2.2.1); have K12 := Lib.hid (i12.kept gz11); have J12 := Lib.hid (K11.out.only i12.2.2.2.1 P11.out.2.2.2.2.2); have I12 := Lib.hid (J11.out.only i12.2.2.2.1 P11.out.2.2.2.2.2); clear i12; obtain ⟨A3, c3, rfl⟩ := K12.out.1.form; have a3 : w12.cell? ⟨gc, 3, none⟩ = some (.slice none 0 0) := P12.out.2.2.1.cell 3; have f3 := P12.out.2.2.1.free 3)
    obtain ⟨w13, hw13⟩ : ∃ w13, w13 = w12.setCell ⟨gc, 3, none⟩ (.slice A3 (gb t (iq2 t)) c3) := ⟨_, rfl⟩
    have P13 : Hid (PSt w w13 b gc t (iq3 t) #[.int .i64 (gw t 2), .slice A1 (gb t 4) c1, .slice A2 (gb t (iq1 t)) c2, .slice A3 (gb t (iq2 t)) c3]) := Lib.hid (by rw [hw13]; exact P12.out.set 3 _)
    have K13 := Lib.hid (show Kept 10 w13 (.slice A3 (gb t (iq2 t)) c3) (gb t (iq2 t)) _ gc from by rw [hw13]; exact K12.out.set (Nat.le_refl _) _)
    have J13 := Lib.hid (show Kept 3 w13 (.slice A2 (gb t (iq1 t)) c2) (gb t (iq1 t)) _ gc from by rw [hw13]; exact J12.out.set (Nat.le_refl _) _)
    have I13 := Lib.hid (show Kept 3 w13 (.slice A1 (gb t 4) c1) (gb t 4) _ gc from by rw [hw13]; exact I12.out.set (Nat.le_refl _) _)
    rw [← hw13]
    clear hw13 a3 f3 P11 P12 K11 K12 J11 J12 I12 gz11
    have Q13 := Lib.hid P13.out.1
    have x0 : w13.cell? ⟨w.heap.size, 0, none⟩ = some (.int .i64 0) := P13.out.2.1.cell 0
    have y0 := P13.out.2.1.free 0
    have x1 : w13.cell? ⟨w.heap.size, 1, none⟩ = some (.slice none 0 0) := P13.out.2.1.cell 1
    have y1 := P13.out.2.1.free 1
    have x2 : w13.cell? ⟨w.heap.size, 2, none⟩ = some (.slice none 0 0) := P13.out.2.1.cell 2
    have y2 := P13.out.2.1.free 2
    have x3 : w13.cell? ⟨w.heap.size, 3, none⟩ = some (.slice none 0 0) := P13.out.2.1.cell 3
    have y3 := P13.out.2.1.free 3
    by_cases hend : t.size < iq3 t
    · have hie : imgE s = 5 := by rw [HIE.out]; exact bodyE_end HNO.out hend
      have HZ2 := Lib.hid (fun (w' : World) (b : Below w.heap.size w w') => HZ.out w' (by rw [hie]; decide) b)
      rw [hie] at HZ2
      have HE := Lib.hid (rerr_at Q13.out)
      rw [if_neg (by omega)] at HE
      clear hie
      go_wp2_with (go_at_call 35; (with_reducible refine HE.out.mono ?_); rintro e w14 ⟨rfl, rfl⟩)
      have bf := ((((P13.out.2.1.put 0 (.int .i64 0)).put 1 (.slice none 0 0)).put 2 (.slice none 0 0)).put 3 (.slice none 0 0))
      have r0 := bf.cell 0
      have r1 := bf.cell 1
      have r2 := bf.cell 2
      have r3 := bf.cell 3
      simp at r0 r1 r2 r3
      refine bodyPost_ret (v := .tuple #[.agg #[.int .i64 0, .slice none 0 0, .slice none 0 0, .slice none 0 0], .int .i64 5]) (by simp [results, Try.results12, go_sem, r0, r1, r2, r3]) rfl ?_
      exact HZ2.out _ ((((P13.out.2.2.2.1.setCell (p := ⟨w.heap.size, 0, none⟩) (Nat.le_refl _) (.int .i64 0)).setCell (p := ⟨w.heap.size, 1, none⟩) (Nat.le_refl _) (.slice none 0 0)).setCell (p := ⟨w.heap.size, 2, none⟩) (Nat.le_refl _) (.slice none 0 0)).setCell (p := ⟨w.heap.size, 3, none⟩) (Nat.le_refl _) (.slice none 0 0))
    · have HE := Lib.hid (rerr_at Q13.out)
      rw [if_pos (by omega)] at HE
      have HL := Lib.hid (rleft_at Q13.out (by omega) hst)
      by_cases hmore : iq3 t < t.size
      · have hie : imgE s = 3 := by rw [HIE.out]; exact bodyE_more HNO.out hmore
        have HZ2 := Lib.hid (fun (w' : World) (b : Below w.heap.size w w') => HZ.out w' (by rw [hie]; decide) b)
        rw [hie] at HZ2
        clear hie
        obtain ⟨lf, hlf, hlf0⟩ : ∃ lf : Nat, lf = t.size - iq3 t ∧ 0 < lf := ⟨_, rfl, by omega⟩
        rw [← hlf] at HL
        have hl1 : (0 : Int) < (lf : Int) := by omega
        clear hlf
        go_wp2_with (first | (go_at_call 35; (with_reducible refine HE.out.mono ?_); rintro e w14 ⟨rfl, rfl⟩) | (go_at_call 43; (with_reducible refine HL.out.mono ?_); rintro e w15 ⟨rfl, q, rfl⟩))
        have bf := (((((P13.out.drewN q).2.1.put 0 (.int .i64 0)).put 1 (.slice none 0 0)).put 2 (.slice none 0 0)).put 3 (.slice none 0 0))
        have r0 := bf.cell 0
        have r1 := bf.cell 1
        have r2 := bf.cell 2
        have r3 := bf.cell 3
        simp at r0 r1 r2 r3
        refine bodyPost_ret (v := .tuple #[.agg #[.int .i64 0, .slice none 0 0, .slice none 0 0, .slice none 0 0], .int .i64 3]) (by simp [results, Try.results12, go_sem, r0, r1, r2, r3]) rfl ?_
        exact HZ2.out _ (((((P13.out.drewN q).2.2.2.1.setCell (p := ⟨w.heap.size, 0, none⟩) (Nat.le_refl _) (.int .i64 0)).setCell (p := ⟨w.heap.size, 1, none⟩) (Nat.le_refl _) (.slice none 0 0)).setCell (p := ⟨w.heap.size, 2, none⟩) (Nat.le_refl _) (.slice none 0 0)).setCell (p := ⟨w.heap.size, 3, none⟩) (Nat.le_refl _) (.slice none 0 0))
      · have hie : imgE s = 0 := by rw [HIE.out]; exact bodyE_ok HNO.out (by omega)
        have hlf : ((t.size - iq3 t : Nat) : Int) = 0 := by omega
        rw [hlf] at HL
        clear hlf
        have HIE0 := Lib.hid hie
        clear hie
        have z0 : w13.cell? ⟨gc, 0, none⟩ = some (.int .i64 (gw t 2)) := P13.out.2.2.1.cell 0
        have z1 : w13.cell? ⟨gc, 1, none⟩ = some (.slice A1 (gb t 4) c1) := P13.out.2.2.1.cell 1
        have z2 : w13.cell? ⟨gc, 2, none⟩ = some (.slice A2 (gb t (iq1 t)) c2) := P13.out.2.2.1.cell 2
        have z3 : w13.cell? ⟨gc, 3, none⟩ = some (.slice A3 (gb t (iq2 t)) c3) := P13.out.2.2.1.cell 3
        go_wp2_with (first | (go_at_call 35; (with_reducible refine HE.out.mono ?_); rintro e w14 ⟨rfl, rfl⟩) | (go_at_call 43; (with_reducible refine HL.out.mono ?_); rintro e w15 ⟨rfl, q, rfl⟩))
        have hgw : w.heap.size ≤ gc := by have := P13.out.2.2.2.2; omega
        have kk1 := (((((I13.out.drewN q).set (p := ⟨w.heap.size, 0, none⟩) hgw (.int .i64 (gw t 2))).set (p := ⟨w.heap.size, 1, none⟩) hgw (.slice A1 (gb t 4) c1)).set (p := ⟨w.heap.size, 2, none⟩) hgw (.slice A2 (gb t (iq1 t)) c2)).set (p := ⟨w.heap.size, 3, none⟩) hgw (.slice A3 (gb t (iq2 t)) c3))
        have kk2 := (((((J13.out.drewN q).set (p := ⟨w.heap.size, 0, none⟩) hgw (.int .i64 (gw t 2))).set (p := ⟨w.heap.size, 1, none⟩) hgw (.slice A1 (gb t 4) c1)).set (p := ⟨w.heap.size, 2, none⟩) hgw (.slice A2 (gb t (iq1 t)) c2)).set (p := ⟨w.heap.size, 3, none⟩) hgw (.slice A3 (gb t (iq2 t)) c3))
        have kk3 := (((((K13.out.drewN q).set (p := ⟨w.heap.size, 0, none⟩) hgw (.int .i64 (gw t 2))).set (p := ⟨w.heap.size, 1, none⟩) hgw (.slice A1 (gb t 4) c1)).set (p := ⟨w.heap.size, 2, none⟩) hgw (.slice A2 (gb t (iq1 t)) c2)).set (p := ⟨w.heap.size, 3, none⟩) hgw (.slice A3 (gb t (iq2 t)) c3))
        have bf := (((((P13.out.drewN q).2.1.put 0 (.int .i64 (gw t 2))).put 1 (.slice A1 (gb t 4) c1)).put 2 (.slice A2 (gb t (iq1 t)) c2)).put 3 (.slice A3 (gb t (iq2 t)) c3))
        have r0 := bf.cell 0
        have r1 := bf.cell 1
        have r2 := bf.cell 2
        have r3 := bf.cell 3
        simp at r0 r1 r2 r3
        refine bodyPost_ret (v := .tuple #[.agg #[.int .i64 (gw t 2), .slice A1 (gb t 4) c1, .slice A2 (gb t (iq1 t)) c2, .slice A3 (gb t (iq2 t)) c3], .int .i64 0]) (by simp [results, Try.results12, go_sem, r0, r1, r2, r3]) rfl ?_
        refine HPV.out _ _ ⟨{ fr := gw t 2, wA := A1, wn := gb t 4, wc := c1, wd := fun q => winR t (4 + 1 + q * 5), sA := A2, sn := gb t (iq1 t), sc := c2, sd := fun q => winR t (iq1 t + 1 + q * 5), cA := A3, cn := gb t (iq2 t), cc := c3, cd := fun q => cliR t (iq2 t + 1 + q * 14) }, by rw [HIE0.out], ⟨row3_of kk1.1, row3_of kk2.1, row9_of kk3.1⟩, ⟨by have := gw_lt t 2; unfold fitI; simp only; omega, ⟨kk1.cap.1, kk1.cap.2, fun i _ => winR_fit _ _⟩, ⟨kk2.cap.1, kk2.cap.2, fun i _ => winR_fit _ _⟩, ⟨kk3.cap.1, kk3.cap.2, fun i _ => cliR_fit _ _⟩⟩, (((((P13.out.drewN q).2.2.2.1.setCell (p := ⟨w.heap.size, 0, none⟩) (Nat.le_refl _) (.int .i64 (gw t 2))).setCell (p := ⟨w.heap.size, 1, none⟩) (Nat.le_refl _) (.slice A1 (gb t 4) c1)).setCell (p := ⟨w.heap.size, 2, none⟩) (Nat.le_refl _) (.slice A2 (gb t (iq1 t)) c2)).setCell (p := ⟨w.heap.size, 3, none⟩) (Nat.le_refl _) (.slice A3 (gb t (iq2 t)) c3)), fun _ => ⟨rfl, ⟨rfl, fun i _ => rfl⟩, ⟨rfl, fun i _ => rfl⟩, ⟨rfl, fun i _ => rfl⟩⟩, fun e => absurd HIE0.out e⟩
end Go.Proofs.Ytjmdcmcheiagjaa

/- Parse of package image, by its contract. -/
namespace Go.Proofs.Ytjmdcmcheiagjaa
open Go.RowKit Go.Lib Go.Sort
set_option linter.unusedVariables false

theorem iparse_any (s : ByteArray) (w : World) (hs : s.size ≤ 9000) : Calls Try.prog 12 #[.string s] w (ParseV s w) := by
  by_cases h : (Cr.openV s).2 = 0
  · by_cases ho : otherB (Cr.openV s).1
    · exact parse_other s w hs h ho
    · exact parse_reads s w hs h ho
  · exact parse_bad s w hs h
end Go.Proofs.Ytjmdcmcheiagjaa

/- The document's Same, by its contract. -/
namespace Go.Proofs.Ytjmdcmcheiagjaa
open Go.RowKit Go.Lib Go.Sort
attribute [-go_sem] Go.run_neq_struct
set_option linter.unusedVariables false

set_option maxRecDepth 20000 in
set_option maxHeartbeats 3200000 in
theorem rsame_any (a b : Cf) (w : World) (ha : CfV w a) (hb : CfV w b) (hla : a.wn ≤ 255 ∧ a.sn ≤ 255 ∧ a.cn ≤ 255) (hlb : b.wn ≤ 255 ∧ b.sn ≤ 255 ∧ b.cn ≤ 255) : Calls Try.prog 11 #[cfv a, cfv b] w (SmV (SameP a b) w) := by
  obtain ⟨W1, hW, G0, hA, hB⟩ := box2 w 26 #[.int .i64 a.fr, .slice a.wA a.wn a.wc, .slice a.sA a.sn a.sc, .slice a.cA a.cn a.cc] 26 #[.int .i64 b.fr, .slice b.wA b.wn b.wc, .slice b.sA b.sn b.sc, .slice b.cA b.cn b.cc]
  have BX := Lib.hid (show BoxC W1 w.heap.size a from hA)
  have BY := Lib.hid (show BoxC W1 (w.heap.size + 1) b from hB)
  have HNA := Lib.hid (fun (W : World) (g : w.grownBy W none) => (show Calls Try.prog 27 #[.agg #[.int .i64 a.fr, .slice a.wA a.wn a.wc, .slice a.sA a.sn a.sc, .slice a.cA a.cn a.cc]] W (NumsV a W) from rnums_any a W (ha.grown g) hla))
  have HNB := Lib.hid (fun (W : World) (g : w.grownBy W none) => (show Calls Try.prog 27 #[.agg #[.int .i64 b.fr, .slice b.wA b.wn b.wc, .slice b.sA b.sn b.sc, .slice b.cA b.cn b.cc]] W (NumsV b W) from rnums_any b W (hb.grown g) hlb))
  have GG := Lib.hid (show w.grownBy W1.drew none from only_drewN G0 1)
  have s1 := (show W1.cell? ⟨w.heap.size, 0, none⟩ = some (.int .i64 a.fr) ∧ W1.cell? ⟨w.heap.size, 1, none⟩ = some (.slice a.wA a.wn a.wc) ∧ W1.cell? ⟨w.heap.size, 2, none⟩ = some (.slice a.sA a.sn a.sc) ∧ W1.cell? ⟨w.heap.size, 3, none⟩ = some (.slice a.cA a.cn a.cc) ∧ W1.cell? ⟨w.heap.size + 1, 0, none⟩ = some (.int .i64 b.fr) ∧ W1.cell? ⟨w.heap.size + 1, 1, none⟩ = some (.slice b.wA b.wn b.wc) ∧ W1.cell? ⟨w.heap.size + 1, 2, none⟩ = some (.slice b.sA b.sn b.sc) ∧ W1.cell? ⟨w.heap.size + 1, 3, none⟩ = some (.slice b.cA b.cn b.cc) from ⟨BX.out.cell 0, BX.out.cell 1, BX.out.cell 2, BX.out.cell 3, BY.out.cell 0, BY.out.cell 1, BY.out.cell 2, BY.out.cell 3⟩)
  have s2 := (show W1.drew.cell? ⟨w.heap.size, 0, none⟩ = some (.int .i64 a.fr) ∧ W1.drew.cell? ⟨w.heap.size, 1, none⟩ = some (.slice a.wA a.wn a.wc) ∧ W1.drew.cell? ⟨w.heap.size, 2, none⟩ = some (.slice a.sA a.sn a.sc) ∧ W1.drew.cell? ⟨w.heap.size, 3, none⟩ = some (.slice a.cA a.cn a.cc) ∧ W1.drew.cell? ⟨w.heap.size + 1, 0, none⟩ = some (.int .i64 b.fr) ∧ W1.drew.cell? ⟨w.heap.size + 1, 1, none⟩ = some (.slice b.wA b.wn b.wc) ∧ W1.drew.cell? ⟨w.heap.size + 1, 2, none⟩ = some (.slice b.sA b.sn b.sc) ∧ W1.drew.cell? ⟨w.heap.size + 1, 3, none⟩ = some (.slice b.cA b.cn b.cc) from ⟨(BX.out.drewN 1).cell 0, (BX.out.drewN 1).cell 1, (BX.out.drewN 1).cell 2, (BX.out.drewN 1).cell 3, (BY.out.drewN 1).cell 0, (BY.out.drewN 1).cell 1, (BY.out.drewN 1).cell 2, (BY.out.drewN 1).cell 3⟩)
  have HSI := Lib.hid (same_iff a b)
  have HLA := Lib.hid (show (nums a).length ≤ 10000 from by rw [nums_len]; omega)
  show Calls Try.prog 11 #[.agg #[.int .i64 a.fr, .slice a.wA a.wn a.wc, .slice a.sA a.sn a.sc, .slice a.cA a.cn a.cc], .agg #[.int .i64 b.fr, .slice b.wA b.wn b.wc, .slice b.sA b.sn b.sc, .slice b.cA b.cn b.cc]] w _
  clear ha hb hA hB G0 hla hlb
  go_enter Try.func11, Try.ntmps11
  go_upto_region 1 with (fail)
  rw [← hW]
  clear hW
  go_region_held3 (fun W => W.cell? ⟨w.heap.size, 0, none⟩ = some (.int .i64 a.fr) ∧ W.cell? ⟨w.heap.size, 1, none⟩ = some (.slice a.wA a.wn a.wc) ∧ W.cell? ⟨w.heap.size, 2, none⟩ = some (.slice a.sA a.sn a.sc) ∧ W.cell? ⟨w.heap.size, 3, none⟩ = some (.slice a.cA a.cn a.cc) ∧ W.cell? ⟨w.heap.size + 1, 0, none⟩ = some (.int .i64 b.fr) ∧ W.cell? ⟨w.heap.size + 1, 1, none⟩ = some (.slice b.wA b.wn b.wc) ∧ W.cell? ⟨w.heap.size + 1, 2, none⟩ = some (.slice b.sA b.sn b.sc) ∧ W.cell? ⟨w.heap.size + 1, 3, none⟩ = some (.slice b.cA b.cn b.cc)) (first | with_reducible exact s1 | with_reducible exact s2 | with_reducible exact s3 | with_reducible exact s4 | go_keep) (first
    | (go_at_call 27; (with_reducible refine (HNA.out _ GG.out).mono ?_); rintro e w2 ⟨A1, c1, rfl, r1, o1, b1⟩; have g2 := only_of_below b1; replace BX := Lib.hid ((BX.out.drewN 1).only g2 (by simp)); replace BY := Lib.hid ((BY.out.drewN 1).only g2 (by simp)); replace GG := Lib.hid (only_trans GG.out g2); have R1 := Lib.hid r1; clear r1 o1 b1 g2; have s3 := (show w2.cell? ⟨w.heap.size, 0, none⟩ = some (.int .i64 a.fr) ∧ w2.cell? ⟨w.heap.size, 1, none⟩ = some (.slice a.wA a.wn a.wc) ∧ w2.cell? ⟨w.heap.size, 2, none⟩ = some (.slice a.sA a.sn a.sc) ∧ w2.cell? ⟨w.heap.size, 3, none⟩ = some (.slice a.cA a.cn a.cc) ∧ w2.cell? ⟨w.heap.size + 1, 0, none⟩ = some (.int .i64 b.fr) ∧ w2.cell? ⟨w.heap.size + 1, 1, none⟩ = some (.slice b.wA b.wn b.wc) ∧ w2.cell? ⟨w.heap.size + 1, 2, none⟩ = some (.slice b.sA b.sn b.sc) ∧ w2.cell? ⟨w.heap.size + 1, 3, none⟩ = some (.slice b.cA b.cn b.cc) from ⟨BX.out.cell 0, BX.out.cell 1, BX.out.cell 2, BX.out.cell 3, BY.out.cell 0, BY.out.cell 1, BY.out.cell 2, BY.out.cell 3⟩))
    | (go_at_call 27; (with_reducible refine (HNB.out _ GG.out).mono ?_); rintro e w3 ⟨A2, c2, rfl, r2, o2, b2⟩; have g3 := only_of_below b2; replace BX := Lib.hid (BX.out.only g3 (by simp)); replace BY := Lib.hid (BY.out.only g3 (by simp)); replace GG := Lib.hid (only_trans GG.out g3); have R2 := Lib.hid r2; replace R1 := Lib.hid (R1.out.grown g3); clear r2 o2 b2 g3; have s4 := (show w3.cell? ⟨w.heap.size, 0, none⟩ = some (.int .i64 a.fr) ∧ w3.cell? ⟨w.heap.size, 1, none⟩ = some (.slice a.wA a.wn a.wc) ∧ w3.cell? ⟨w.heap.size, 2, none⟩ = some (.slice a.sA a.sn a.sc) ∧ w3.cell? ⟨w.heap.size, 3, none⟩ = some (.slice a.cA a.cn a.cc) ∧ w3.cell? ⟨w.heap.size + 1, 0, none⟩ = some (.int .i64 b.fr) ∧ w3.cell? ⟨w.heap.size + 1, 1, none⟩ = some (.slice b.wA b.wn b.wc) ∧ w3.cell? ⟨w.heap.size + 1, 2, none⟩ = some (.slice b.sA b.sn b.sc) ∧ w3.cell? ⟨w.heap.size + 1, 3, none⟩ = some (.slice b.cA b.cn b.cc) from ⟨BX.out.cell 0, BX.out.cell 1, BX.out.cell 2, BX.out.cell 3, BY.out.cell 0, BY.out.cell 1, BY.out.cell 2, BY.out.cell 3⟩))
    | fail "q")
  generalize nums a = L at HSI HLA R1 R2 ⊢
  generalize nums b = M at HSI R2 ⊢
  obtain ⟨k0, k1, k2, k3⟩ := cf_cells BX.out
  obtain ⟨m0, m1, m2, m3⟩ := cf_cells BY.out
  have HF := Lib.hid (show ∀ (w' : World), ¬ (L = M ∧ a.wn = b.wn ∧ a.sn = b.sn) → w.grownBy w' none → SmV (SameP a b) w (.returned (.bool false)) w' from fun w' h g => ⟨false, rfl, ⟨fun e => (by cases e), fun e => absurd (HSI.out.1 e) h⟩, g⟩)
  have HT := Lib.hid (show ∀ (w' : World), (L = M ∧ a.wn = b.wn ∧ a.sn = b.sn) → w.grownBy w' none → SmV (SameP a b) w (.returned (.bool true)) w' from fun w' h g => ⟨true, rfl, ⟨fun _ => HSI.out.2 h, fun _ => rfl⟩, g⟩)
  clear s1 s2 s3 s4
  by_cases h1 : L.length = M.length
  rotate_left
  · have d1 : ((L.length : Int) == (M.length : Int)) = false := by rw [beq_eq_false_iff_ne]; omega
    have d2 : ¬ (L.length : Int) = (M.length : Int) := by omega
    go_wp2
    go_ret
    exact HF.out _ (fun h => h1 (by rw [h.1])) GG.out
  by_cases h2 : a.wn = b.wn
  rotate_left
  · have d1 : ((L.length : Int) == (M.length : Int)) = true := by rw [h1]; simp
    have d2 : ((a.wn : Int) == (b.wn : Int)) = false := by rw [beq_eq_false_iff_ne]; omega
    have d3 : ¬ (a.wn : Int) = (b.wn : Int) := by omega
    go_wp2
    go_ret
    exact HF.out _ (fun h => h2 h.2.1) GG.out
  by_cases h3 : a.sn = b.sn
  rotate_left
  · have d1 : ((L.length : Int) == (M.length : Int)) = true := by rw [h1]; simp
    have d2 : ((a.wn : Int) == (b.wn : Int)) = true := by rw [h2]; simp
    have d3 : ((a.sn : Int) == (b.sn : Int)) = false := by rw [beq_eq_false_iff_ne]; omega
    have d4 : ¬ (a.sn : Int) = (b.sn : Int) := by omega
    go_wp2
    go_ret
    exact HF.out _ (fun h => h3 h.2.2) GG.out
  have d1 : ((L.length : Int) == (M.length : Int)) = true := by rw [h1]; simp
  have d2 : ((a.wn : Int) == (b.wn : Int)) = true := by rw [h2]; simp
  have d3 : ((a.sn : Int) == (b.sn : Int)) = true := by rw [h3]; simp
  have e1 : ((L.length : Int) != (M.length : Int)) = false := by rw [h1]; simp
  have e2 : ((a.wn : Int) != (b.wn : Int)) = false := by rw [h2]; simp
  have e3 : ((a.sn : Int) != (b.sn : Int)) = false := by rw [h3]; simp
  have H1 := Lib.hid h1
  have H23 := Lib.hid (show a.wn = b.wn ∧ a.sn = b.sn from ⟨h2, h3⟩)
  clear h1 h2 h3
  go_wp2
  clear d1 d2 d3 e1 e2 e3 k0 k1 k2 k3 m0 m1 m2 m3
  go_loopw [7] (fun y wr => ∃ i : Nat, y = .int .i64 i ∧ i ≤ L.length ∧ Hid (L.take i = M.take i) ∧ Hid (RowZ 2 wr (.slice A1 L.length c1) L.length (nmC L) ∧ RowZ 2 wr (.slice A2 M.length c2) M.length (nmC M) ∧ w.grownBy wr none)) (fun y _ => L.length - (intOf y).toNat)
  case atStart => exact ⟨0, rfl, by omega, Lib.hid (by simp), Lib.hid ⟨R1.out, R2.out, GG.out⟩⟩
  case round =>
    obtain ⟨i, rfl, hi, HN, HG⟩ := hrel
    have hll := HLA.out
    by_cases hin : i < L.length
    · have i1 : (i : Int) < (L.length : Int) := by omega
      have i0 : (0 : Int) ≤ (i : Int) := by omega
      have hm : i < M.length := by have := H1.out; omega
      have i2 : (i : Int) < (M.length : Int) := by omega
      obtain ⟨g1, o1, hA1, p0, p1⟩ : ∃ g off, A1 = some ⟨g, off, none⟩ ∧ wr.cell? ⟨g, off + i * 2, none⟩ = some (.int .i64 L[i].1) ∧ wr.cell? ⟨g, off + i * 2 + 1, none⟩ = some (.int .i64 L[i].2) := by
        rcases HG.out.1 with ⟨_, ⟨_, e⟩ | ⟨g, off, cap', e, _, _, q4, _, q5⟩⟩
        · omega
        · injection e with e _ _
          exact ⟨g, off, e, q5 _ _ (nmC_get hin).1, by rw [Nat.add_assoc]; exact q5 _ _ (nmC_get hin).2⟩
      obtain ⟨g2, o2, hA2, r0, r1⟩ : ∃ g off, A2 = some ⟨g, off, none⟩ ∧ wr.cell? ⟨g, off + i * 2, none⟩ = some (.int .i64 M[i].1) ∧ wr.cell? ⟨g, off + i * 2 + 1, none⟩ = some (.int .i64 M[i].2) := by
        rcases HG.out.2.1 with ⟨_, ⟨_, e⟩ | ⟨g, off, cap', e, _, _, q4, _, q5⟩⟩
        · omega
        · injection e with e _ _
          exact ⟨g, off, e, q5 _ _ (nmC_get hm).1, by rw [Nat.add_assoc]; exact q5 _ _ (nmC_get hm).2⟩
      have HX := Lib.hid (show L[i] = M[i] → L.take (i + 1) = M.take (i + 1) from fun h => by rw [List.take_succ_eq_append_getElem hin, List.take_succ_eq_append_getElem hm, HN.out, h])
      have HY := Lib.hid (show L[i] ≠ M[i] → ¬ (L = M ∧ a.wn = b.wn ∧ a.sn = b.sn) from fun h k => h (by
        have := k.1
        subst this
        rfl))
      generalize L[i] = x at p0 p1 HX HY
      generalize M[i] = y at r0 r1 HX HY
      obtain ⟨x0, x1⟩ := x
      obtain ⟨y0, y1⟩ := y
      simp only at p0 p1 r0 r1
      subst hA1 hA2
      by_cases hxy : x0 = y0 ∧ x1 = y1
      · have hq := neq_num x0 x1 y0 y1 false (by rw [decide_eq_true hxy]; rfl)
        have HE := Lib.hid (HX.out (by rw [hxy.1, hxy.2]))
        clear hxy HX HY hm
        go_upto_region 7 with (fail)
        go_quiet (first | fail)
        go_wp2
        go_roundw
        case rel => exact ⟨i + 1, by go_num, by omega, HE, Lib.hid ⟨HG.out.1.drewN _, HG.out.2.1.drewN _, only_drewN HG.out.2.2 _⟩⟩
        case measure => simp [intOf] <;> omega
      · have hq := neq_num x0 x1 y0 y1 true (by rw [decide_eq_false hxy]; rfl)
        have HE := Lib.hid (HY.out (fun h => hxy (by injection h with q0 q1; exact ⟨q0, q1⟩)))
        clear hxy HX HY hm
        go_upto_region 7 with (fail)
        go_quiet (first | fail)
        go_wp2
        go_ret
        exact HF.out _ HE.out (only_drewN HG.out.2.2 _)
    · obtain rfl : i = L.length := by omega
      have i1 : ¬ (L.length : Int) < (L.length : Int) := by omega
      have hLM : L = M := by
        have := HN.out
        rw [List.take_length, H1.out, List.take_length] at this
        exact this
      have HLM := Lib.hid hLM
      clear hLM
      go_wp2
      go_ret
      exact HT.out _ ⟨HLM.out, H23.out⟩ HG.out.2.2
end Go.Proofs.Ytjmdcmcheiagjaa

/- The document's Parse, whole; how many bytes an image has; whether there are few rows; what must be whatever is asked. -/
namespace Go.Proofs.Ytjmdcmcheiagjaa
open Go.RowKit Go.Lib Go.Sort
set_option linter.unusedVariables false

theorem rparse16_any (s : ByteArray) (w : World) (hs : s.size ≤ 9000) : Calls Try.prog 15 #[.string s] w (ParseV s w) := by
  by_cases h : (Cr.openV s).2 = 0
  · by_cases ho : otherB (Cr.openV s).1
    · exact rparse_few s w hs h (.inl ho)
    · by_cases h5 : (Cr.openV s).1.size < 5
      · exact rparse_few s w hs h (.inr ⟨ho, h5⟩)
      · exact rparse_go s w hs h ho (by omega)
  · exact rparse_pre s w hs h
theorem isize_any (c : Cf) (w : World) (h : c.wn ≤ 10000 ∧ c.sn ≤ 10000 ∧ c.cn ≤ 10000) : Calls Try.prog 13 #[cfv c] w fun e w' => e = .returned (.int .i64 ((9 + 5 * c.wn + 5 * c.sn + 14 * c.cn : Nat) : Int)) ∧ w.grownBy w' none := by
  obtain ⟨W1, hW, G0, hA⟩ := box1 w 26 #[.int .i64 c.fr, .slice c.wA c.wn c.wc, .slice c.sA c.sn c.sc, .slice c.cA c.cn c.cc]
  obtain ⟨k0, k1, k2, k3⟩ := cf_cells (c := c) hA
  have GG := Lib.hid G0
  show Calls Try.prog 13 #[.agg #[.int .i64 c.fr, .slice c.wA c.wn c.wc, .slice c.sA c.sn c.sc, .slice c.cA c.cn c.cc]] w _
  obtain ⟨h1, h2, h3⟩ := h
  clear hA G0
  go_enter Try.func13, Try.ntmps13
  go_upto_region 1 with (fail)
  rw [← hW]
  clear hW
  go_wp2
  go_ret
  refine ⟨?_, GG.out⟩
  first | rfl | (congr 2; simp [IntKind.wrap_i64]; omega) | (congr 2; simp only [IntKind.wrap_i64]; omega)
def FewC (c : Cf) : Prop := c.wn ≤ 60 ∧ c.sn ≤ 60 ∧ c.cn ≤ 60
instance (c : Cf) : Decidable (FewC c) := by unfold FewC; infer_instance
theorem few16_any (c : Cf) (w : World) : Calls Try.prog 6 #[cfv c] w fun e w' => e = .returned (.bool (decide (FewC c))) ∧ w.grownBy w' none := by
  obtain ⟨W1, hW, G0, hA⟩ := box1 w 26 #[.int .i64 c.fr, .slice c.wA c.wn c.wc, .slice c.sA c.sn c.sc, .slice c.cA c.cn c.cc]
  obtain ⟨k0, k1, k2, k3⟩ := cf_cells (c := c) hA
  have GG := Lib.hid G0
  show Calls Try.prog 6 #[.agg #[.int .i64 c.fr, .slice c.wA c.wn c.wc, .slice c.sA c.sn c.sc, .slice c.cA c.cn c.cc]] w _
  have key : (¬ c.wn ≤ 60 ∧ decide (FewC c) = false) ∨ (c.wn ≤ 60 ∧ ¬ c.sn ≤ 60 ∧ decide (FewC c) = false) ∨ (c.wn ≤ 60 ∧ c.sn ≤ 60 ∧ ¬ c.cn ≤ 60 ∧ decide (FewC c) = false) ∨ (c.wn ≤ 60 ∧ c.sn ≤ 60 ∧ c.cn ≤ 60 ∧ decide (FewC c) = true) := by
    unfold FewC
    by_cases h1 : c.wn ≤ 60 <;> by_cases h2 : c.sn ≤ 60 <;> by_cases h3 : c.cn ≤ 60 <;> simp [h1, h2, h3]
  clear hA G0
  rcases key with ⟨h1, e⟩ | ⟨h1, h2, e⟩ | ⟨h1, h2, h3, e⟩ | ⟨h1, h2, h3, e⟩
  all_goals
    have E := Lib.hid e
    clear e
    have m1 : (c.wn : Int) ≤ 60 ∨ ¬ (c.wn : Int) ≤ 60 := by omega
    have m2 : (c.sn : Int) ≤ 60 ∨ ¬ (c.sn : Int) ≤ 60 := by omega
    have m3 : (c.cn : Int) ≤ 60 ∨ ¬ (c.cn : Int) ≤ 60 := by omega
    rcases m1 with m1 | m1 <;> rcases m2 with m2 | m2 <;> rcases m3 with m3 | m3 <;> first
      | (exfalso; omega)
      | (go_enter Try.func6, Try.ntmps6
         go_upto_region 1 with (fail)
         rw [← hW]
         clear hW h1
         go_wp2
         go_ret
         rw [E.out]
         exact ⟨rfl, GG.out⟩)
theorem cfv_below {w w' : World} {c : Cf} (h : CfV w c) (b : Below w.heap.size w w') : CfV w' c := h.grown (only_far b)
/-- The example's bytes. -/
def s9 : ByteArray := Cr.sealed (bA [67, 1, 1, 2, 0, 0, 0])
def c9 : Cf := { fr := 513, wA := none, wn := 0, wc := 0, wd := fun _ => (0, 0, 0), sA := none, sn := 0, sc := 0, sd := fun _ => (0, 0, 0), cA := none, cn := 0, cc := 0, cd := fun _ => ⟨0, 0, 0, 0, 0, 0, 0, 0, 0, 0⟩ }
theorem im9 : imV c9 = (s9, 0) := by
  have e : enc c9 = some [67, 1, 1, 2, 0, 0, 0] := by decide +kernel
  rw [imV, if_neg (by simp [c9]), e]
  rfl
theorem c9_in (w : World) : CfV w c9 := ⟨⟨fun _ => rfl, fun hi => (Nat.lt_irrefl _ hi).elim⟩, ⟨fun _ => rfl, fun hi => (Nat.lt_irrefl _ hi).elim⟩, ⟨fun _ => rfl, fun hi => (Nat.lt_irrefl _ hi).elim⟩⟩
theorem s9_size : s9.size = 9 := by rw [s9, Cr.sealed_size, bA_size]; rfl
theorem s9_head : ((s9.extract 0 7).toList == [67, 1, 1, 2, 0, 0, 0]) = true := by
  have : s9.extract 0 7 = bA [67, 1, 1, 2, 0, 0, 0] := Cr.sealed_head (bA [67, 1, 1, 2, 0, 0, 0])
  rw [this, ByteArray.toList_eq]
  rfl
theorem print9 (w : World) : Calls Try.prog 8 #[.agg #[.int .i64 513, .slice none 0 0, .slice none 0 0, .slice none 0 0]] w fun e w' => e = .returned (.tuple #[.string s9, .int .i64 0]) ∧ Below w.heap.size w w' := by
  have := iprint_any c9 w (c9_in w)
  rw [im9] at this
  exact this
theorem parse9 (w : World) : Calls Try.prog 12 #[.string s9] w fun e w' => (∃ A1 A2 A3 d1 d2 d3, e = .returned (.tuple #[.agg #[.int .i64 513, .slice A1 0 d1, .slice A2 0 d2, .slice A3 0 d3], .int .i64 0])) ∧ Below w.heap.size w w' := by
  obtain ⟨k1, k2, _⟩ := print_parse im9
  refine (iparse_any s9 w (by rw [s9_size]; omega)).mono fun e w' ⟨c, he, hv, hf, hb, ht, hn⟩ => ⟨?_, hb⟩
  obtain ⟨q1, ⟨q2, _⟩, ⟨q3, _⟩, q4, _⟩ := tells_same (ht k1) k2
  obtain ⟨fr, wA, wn, wc, wd, sA, sn, sc, sd, cA, cn, cc, cd⟩ := c
  simp only [c9] at q1 q2 q3 q4
  subst q1 q2 q3 q4
  exact ⟨wA, sA, cA, wc, sc, cc, by rw [he, k1]⟩
theorem size9 (A1 A2 A3 : Option Addr) (d1 d2 d3 : Nat) (w : World) : Calls Try.prog 13 #[.agg #[.int .i64 513, .slice A1 0 d1, .slice A2 0 d2, .slice A3 0 d3]] w fun e w' => e = .returned (.int .i64 9) ∧ w.grownBy w' none :=
  isize_any { fr := 513, wA := A1, wn := 0, wc := d1, wd := fun _ => (0, 0, 0), sA := A2, sn := 0, sc := d2, sd := fun _ => (0, 0, 0), cA := A3, cn := 0, cc := d3, cd := fun _ => ⟨0, 0, 0, 0, 0, 0, 0, 0, 0, 0⟩ } w ⟨Nat.zero_le _, Nat.zero_le _, Nat.zero_le _⟩
set_option maxHeartbeats 1600000 in
theorem live16_any (w : World) : Calls Try.prog 7 #[] w fun e w' => e = .returned (.bool true) ∧ Below w.heap.size w w' := by
  have HP := Lib.hid (fun W => print9 W)
  have HR := Lib.hid (fun W => parse9 W)
  have hsz := s9_size
  have hhd := s9_head
  have HS := Lib.hid (fun A1 A2 A3 d1 d2 d3 W => size9 A1 A2 A3 d1 d2 d3 W)
  generalize s9 = s at HP HR hsz hhd
  have m1 : (7 : Int) ≤ (s.size : Int) := by omega
  go_enter Try.func7, Try.ntmps7
  go_wp2_with (first
    | (go_at_call 8; (with_reducible refine (HP.out _).mono ?_); rintro e w1 ⟨rfl, b1⟩; have B1 := Lib.hid b1; clear b1)
    | (go_at_call 12; (with_reducible refine (HR.out _).mono ?_); rintro e w2 ⟨⟨A1, A2, A3, d1, d2, d3, rfl⟩, b2⟩; have B2 := Lib.hid (B1.out.trans (b2.mono B1.out.size)); clear b2)
    | (go_at_call 13; (with_reducible refine (HS.out _ _ _ _ _ _ _).mono ?_); rintro e w3 ⟨rfl, g3⟩; have B3 := Lib.hid ((B2.out.alloc B2.out.size _).trans (below_of_only g3 (by have := B2.out.size; simp; omega) (by simp))); clear g3))
  go_ret
  exact ⟨rfl, B3.out⟩
end Go.Proofs.Ytjmdcmcheiagjaa

/- The law of printed images, walked. -/
namespace Go.Proofs.Ytjmdcmcheiagjaa
open Go.RowKit Go.Lib Go.Sort
set_option linter.unusedVariables false

theorem same_det (a b : Cf) (z : Bool) (hz : z = true ↔ SameP a b) (w : World) (ha : CfV w a) (hb : CfV w b) (hla : a.wn ≤ 10000 ∧ a.sn ≤ 10000 ∧ a.cn ≤ 10000) (hlb : b.wn ≤ 10000 ∧ b.sn ≤ 10000 ∧ b.cn ≤ 10000) : Calls Try.prog 10 #[.agg #[.int .i64 a.fr, .slice a.wA a.wn a.wc, .slice a.sA a.sn a.sc, .slice a.cA a.cn a.cc], .agg #[.int .i64 b.fr, .slice b.wA b.wn b.wc, .slice b.sA b.sn b.sc, .slice b.cA b.cn b.cc]] w fun e w' => e = .returned (.bool z) ∧ w.grownBy w' none :=
  (same_any a b w ha hb hla hlb).mono fun e w' ⟨q, h1, h2, h3⟩ => ⟨by rw [h1, show q = z from by rw [Bool.eq_iff_iff, h2, hz]], h3⟩
theorem rsame_det (a b : Cf) (z : Bool) (hz : z = true ↔ SameP a b) (w : World) (ha : CfV w a) (hb : CfV w b) (hla : a.wn ≤ 255 ∧ a.sn ≤ 255 ∧ a.cn ≤ 255) (hlb : b.wn ≤ 255 ∧ b.sn ≤ 255 ∧ b.cn ≤ 255) : Calls Try.prog 11 #[.agg #[.int .i64 a.fr, .slice a.wA a.wn a.wc, .slice a.sA a.sn a.sc, .slice a.cA a.cn a.cc], .agg #[.int .i64 b.fr, .slice b.wA b.wn b.wc, .slice b.sA b.sn b.sc, .slice b.cA b.cn b.cc]] w fun e w' => e = .returned (.bool z) ∧ w.grownBy w' none :=
  (rsame_any a b w ha hb hla hlb).mono fun e w' ⟨q, h1, h2, h3⟩ => ⟨by rw [h1, show q = z from by rw [Bool.eq_iff_iff, h2, hz]], h3⟩
/-- What Parse answers of bytes that are an image. -/
theorem parse_of {s : ByteArray} {c : Cf} (h : imV c = (s, 0)) (w : World) (hs : s.size ≤ 9000) : Calls Try.prog 12 #[.string s] w fun e w' => ∃ x : Cf, e = .returned (.tuple #[.agg #[.int .i64 x.fr, .slice x.wA x.wn x.wc, .slice x.sA x.sn x.sc, .slice x.cA x.cn x.cc], .int .i64 0]) ∧ CfV w' x ∧ Below w.heap.size w w' ∧ SameP x c := by
  obtain ⟨k1, k2, _⟩ := print_parse h
  exact (iparse_any s w hs).mono fun e w' ⟨x, he, hv, hf, hb, ht, hn⟩ => ⟨x, by rw [he, k1], hv, hb, tells_same (ht k1) k2⟩
/-- Two boxes of tables, kept. -/
structure PW (w W : World) (c d : Cf) : Prop where
  bl : Below w.heap.size w W
  bx : BoxC W w.heap.size c
  bz : BoxC W (w.heap.size + 1) d
  vc : CfV W c
  vd : CfV W d
theorem PW.step {w W W' : World} {c d : Cf} (h : PW w W c d) (b : Below W.heap.size W W') : PW w W' c d :=
  ⟨h.bl.trans (b.mono h.bl.size), h.bx.below b h.bx.lt, h.bz.below b h.bz.lt, cfv_below h.vc b, cfv_below h.vd b⟩
theorem PW.only {w W W' : World} {c d : Cf} (h : PW w W c d) (g : W.grownBy W' none) : PW w W' c d := h.step (below_of_only g (Nat.le_refl _) (by simp))
theorem im_len {c : Cf} (h : FewC c) : (imV c).2 = 0 → (imV c).1.size = 9 + 5 * c.wn + 5 * c.sn + 14 * c.cn := by
  intro h0
  obtain ⟨h1, h2, h3⟩ := h
  unfold imV at h0 ⊢
  rw [if_neg (by omega)] at h0 ⊢
  split
  · rename_i e
    rw [e] at h0
    simp at h0
  · rename_i l e
    simp only
    obtain ⟨⟨_, ⟨k1, _⟩, ⟨k2, _⟩, k3, _⟩, k4, _⟩ := enc_tells e (List.prefix_refl l)
    have hs : (Cr.sealed (bA l)).size = l.length + 2 := by rw [Cr.sealed_size, bA_size]
    rw [show (⟨l.toArray⟩ : ByteArray) = bA l from rfl, hs, ← k4]
    unfold iq3 iq2 iq1 at *
    omega
set_option maxRecDepth 20000 in
set_option maxHeartbeats 3200000 in
theorem prints_walk (c d : Cf) (w : World) (hc : CfV w c ∧ FitCf c) (hd : CfV w d ∧ FitCf d) : Calls Try.prog 3 #[cfv c, cfv d] w fun e w' => e = .returned (.bool true) ∧ Below w.heap.size w w' := by
  obtain ⟨W1, hW, G0, hA, hB⟩ := box2 w 26 #[.int .i64 c.fr, .slice c.wA c.wn c.wc, .slice c.sA c.sn c.sc, .slice c.cA c.cn c.cc] 26 #[.int .i64 d.fr, .slice d.wA d.wn d.wc, .slice d.sA d.sn d.sc, .slice d.cA d.cn d.cc]
  have P1 := Lib.hid (show PW w W1 c d from ⟨below_of_only G0 (Nat.le_refl _) (by simp), hA, hB, hc.1.grown G0, hd.1.grown G0⟩)
  have HL := Lib.hid (fun W => live16_any W)
  have HFc := Lib.hid (fun W => (show Calls Try.prog 6 #[.agg #[.int .i64 c.fr, .slice c.wA c.wn c.wc, .slice c.sA c.sn c.sc, .slice c.cA c.cn c.cc]] W (fun e w' => e = .returned (.bool (decide (FewC c))) ∧ W.grownBy w' none) from few16_any c W))
  have HFd := Lib.hid (fun W => (show Calls Try.prog 6 #[.agg #[.int .i64 d.fr, .slice d.wA d.wn d.wc, .slice d.sA d.sn d.sc, .slice d.cA d.cn d.cc]] W (fun e w' => e = .returned (.bool (decide (FewC d))) ∧ W.grownBy w' none) from few16_any d W))
  have HPc := Lib.hid (fun W (k : CfV W c) => (show Calls Try.prog 8 #[.agg #[.int .i64 c.fr, .slice c.wA c.wn c.wc, .slice c.sA c.sn c.sc, .slice c.cA c.cn c.cc]] W (fun e w' => e = .returned (.tuple #[.string (imV c).1, .int .i64 (imV c).2]) ∧ Below W.heap.size W w') from iprint_any c W k))
  have HRc := Lib.hid (fun W (k : CfV W c) => (show Calls Try.prog 9 #[.agg #[.int .i64 c.fr, .slice c.wA c.wn c.wc, .slice c.sA c.sn c.sc, .slice c.cA c.cn c.cc]] W (fun e w' => e = .returned (.tuple #[.string (imV c).1, .int .i64 (imV c).2]) ∧ Below W.heap.size W w') from rprint16_any c W k))
  obtain ⟨k0, k1, k2, k3⟩ := cf_cells P1.out.bx
  obtain ⟨m0, m1, m2, m3⟩ := cf_cells P1.out.bz
  show Calls Try.prog 3 #[.agg #[.int .i64 c.fr, .slice c.wA c.wn c.wc, .slice c.sA c.sn c.sc, .slice c.cA c.cn c.cc], .agg #[.int .i64 d.fr, .slice d.wA d.wn d.wc, .slice d.sA d.sn d.sc, .slice d.cA d.cn d.cc]] w _
  clear hc hd hA hB G0
  by_cases fc : FewC c
  case neg =>
    have e1 : decide (FewC c) = false := by simpa using fc
    rw [e1] at HFc
    clear e1
    go_enter Try.func3, Try.ntmps3
    go_upto_region 1 with (fail)
    rw [← hW]
    clear hW
    go_wp2_with (first
      | (go_at_call 6; (with_reducible refine (HFc.out _).mono ?_); rintro e w2 ⟨rfl, g2⟩; have P2 := Lib.hid (P1.out.only g2); clear g2)
      | (go_at_call 7; (with_reducible refine (HL.out _).mono ?_); rintro e w9 ⟨rfl, b9⟩; have P9 := Lib.hid (P2.out.step b9); clear b9))
    go_ret
    exact ⟨rfl, P9.out.bl⟩
  have e1 : decide (FewC c) = true := by simpa using fc
  rw [e1] at HFc
  clear e1
  by_cases fd : FewC d
  case neg =>
    have e1 : decide (FewC d) = false := by simpa using fd
    rw [e1] at HFd
    clear e1
    go_enter Try.func3, Try.ntmps3
    go_upto_region 1 with (fail)
    rw [← hW]
    clear hW
    go_wp2_with (first
      | (go_at_call 6; (with_reducible refine (HFc.out _).mono ?_); rintro e w2 ⟨rfl, g2⟩; have P2 := Lib.hid (P1.out.only g2); clear g2 k0 k1 k2 k3 m0 m1 m2 m3; obtain ⟨k0, k1, k2, k3⟩ := cf_cells P2.out.bx; obtain ⟨m0, m1, m2, m3⟩ := cf_cells P2.out.bz)
      | (go_at_call 6; (with_reducible refine (HFd.out _).mono ?_); rintro e w3 ⟨rfl, g3⟩; have P3 := Lib.hid (P2.out.only g3); clear g3)
      | (go_at_call 7; (with_reducible refine (HL.out _).mono ?_); rintro e w9 ⟨rfl, b9⟩; have P9 := Lib.hid (P3.out.step b9); clear b9))
    go_ret
    exact ⟨rfl, P9.out.bl⟩
  have e1 : decide (FewC d) = true := by simpa using fd
  rw [e1] at HFd
  clear e1
  obtain ⟨s, er, him⟩ : ∃ s er, imV c = (s, er) := ⟨_, _, rfl⟩
  rw [him] at HPc HRc
  have HSP := Lib.hid (fun (h0 : er = 0) (W : World) => parse_of (c := c) (s := s) (by rw [him, h0]) W (by have := im_len fc (by rw [him]; exact h0); rw [him] at this; obtain ⟨f1, f2, f3⟩ := fc; simp only at this; omega))
  have HLN := Lib.hid (fun (h0 : er = 0) => (show s.size = 9 + 5 * c.wn + 5 * c.sn + 14 * c.cn from by have := im_len fc (by rw [him]; exact h0); rw [him] at this; exact this))
  have HSZ := Lib.hid (fun W => (show Calls Try.prog 13 #[.agg #[.int .i64 c.fr, .slice c.wA c.wn c.wc, .slice c.sA c.sn c.sc, .slice c.cA c.cn c.cc]] W (fun e w' => e = .returned (.int .i64 ((9 + 5 * c.wn + 5 * c.sn + 14 * c.cn : Nat) : Int)) ∧ W.grownBy w' none) from isize_any c W (by obtain ⟨f1, f2, f3⟩ := fc; omega)))
  have lc1 : c.wn ≤ 255 ∧ c.sn ≤ 255 ∧ c.cn ≤ 255 := by obtain ⟨f1, f2, f3⟩ := fc; omega
  have ld1 : d.wn ≤ 255 ∧ d.sn ≤ 255 ∧ d.cn ≤ 255 := by obtain ⟨f1, f2, f3⟩ := fd; omega
  have lc2 : c.wn ≤ 10000 ∧ c.sn ≤ 10000 ∧ c.cn ≤ 10000 := by omega
  have ld2 : d.wn ≤ 10000 ∧ d.sn ≤ 10000 ∧ d.cn ≤ 10000 := by omega
  have HBC := Lib.hid (fun (x : Cf) (W : World) (hx : CfV W x) (hk : CfV W c) (h : SameP x c) => rsame_det x c true (by simpa using h) W hx hk (by obtain ⟨_, ⟨a1, _⟩, ⟨a2, _⟩, a3, _⟩ := h; omega) lc1)
  obtain ⟨z, hz⟩ : ∃ z : Bool, z = true ↔ SameP c d := by
    classical
    exact ⟨decide (SameP c d), by simp⟩
  have HS1 := Lib.hid (fun W (q : CfV W c) (r : CfV W d) => same_det c d z hz W q r lc2 ld2)
  have HS2 := Lib.hid (fun W (q : CfV W c) (r : CfV W d) => rsame_det c d z hz W q r lc1 ld1)
  have HS3 := Lib.hid (fun W (q : CfV W c) => same_det c c true (by simp only [true_iff]; exact ⟨rfl, ⟨rfl, fun _ _ => rfl⟩, ⟨rfl, fun _ _ => rfl⟩, rfl, fun _ _ => rfl⟩) W q q lc2 lc2)
  clear fc fd him lc1 ld1 lc2 ld2 hz
  go_enter Try.func3, Try.ntmps3
  go_upto_region 1 with (fail)
  rw [← hW]
  clear hW
  go_upto_region 5 with (first
    | (go_at_call 6; (with_reducible refine (HFc.out _).mono ?_); rintro e w2 ⟨rfl, g2⟩; have P2 := Lib.hid (P1.out.only g2); clear g2 k0 k1 k2 k3 m0 m1 m2 m3; obtain ⟨k0, k1, k2, k3⟩ := cf_cells P2.out.bx; obtain ⟨m0, m1, m2, m3⟩ := cf_cells P2.out.bz)
    | (go_at_call 6; (with_reducible refine (HFd.out _).mono ?_); rintro e w3 ⟨rfl, g3⟩; have P3 := Lib.hid (P2.out.only g3); clear g3 k0 k1 k2 k3 m0 m1 m2 m3; obtain ⟨k0, k1, k2, k3⟩ := cf_cells P3.out.bx)
    | (go_at_call 8; (with_reducible refine (HPc.out _ P3.out.vc).mono ?_); rintro e w4 ⟨rfl, b4⟩; have P4 := Lib.hid (P3.out.step b4); clear b4 k0 k1 k2 k3; obtain ⟨k0, k1, k2, k3⟩ := cf_cells P4.out.bx)
    | (go_at_call 9; (with_reducible refine (HRc.out _ P4.out.vc).mono ?_); rintro e w5 ⟨rfl, b5⟩; have P5 := Lib.hid (P4.out.step b5); clear b5 k0 k1 k2 k3))
  have k1 := blk_re P5.out.bx
  have k2 := blk_re P5.out.bz
  have HT1 := Lib.hid (fun dd os => HS1.out (grow (redrawn w5 dd) os) (P5.out.vc.grown (only_re w5 dd os)) (P5.out.vd.grown (only_re w5 dd os)))
  have HT2 := Lib.hid (fun dd os => HS2.out (grow (redrawn w5 dd) os) (P5.out.vc.grown (only_re w5 dd os)) (P5.out.vd.grown (only_re w5 dd os)))
  have HT3 := Lib.hid (fun dd os => HS3.out (grow (redrawn w5 dd) os) (P5.out.vc.grown (only_re w5 dd os)))
  refine wp_region_quiet_below (by kernel_rfl) (by kernel_rfl) ?_
  repeat (go_big_quiet_step ((first | (go_at_call 10; with_reducible exact rg1 (HT1.out _ _)) | (go_at_call 11; with_reducible exact rg1 (HT2.out _ _)) | (go_at_call 10; with_reducible exact rg1 (HT3.out _ _)))))
  refine wpQuiet_nil ?_
  intro w6 hw6
  obtain ⟨p, rfl⟩ := hw6
  have P6 := Lib.hid (P5.out.only (only_re w5 p.d p.os))
  clear k1 k2 HT1 HT2 HT3 HS1 HS2 HS3
  generalize grow (redrawn w5 p.d) p.os = w6 at P6 ⊢
  obtain ⟨k0, k1, k2, k3⟩ := cf_cells P6.out.bx
  by_cases h0 : er = 0
  · subst h0
    have HQ := Lib.hid (HSP.out rfl)
    have hln := HLN.out rfl
    have hln2 : (s.size : Int) = ((9 + 5 * c.wn + 5 * c.sn + 14 * c.cn : Nat) : Int) := by omega
    rw [← hln2] at HSZ
    clear HSP HLN hln hln2
    go_wp2_with (first
      | (go_at_call 12; (with_reducible refine (HQ.out _).mono ?_); rintro e w7 ⟨x, rfl, hx, b7, hxc⟩; have P7 := Lib.hid (P6.out.step b7); have HX7 := Lib.hid hx; have HXC := Lib.hid hxc; clear b7 hx hxc)
      | (go_at_call 7; (with_reducible refine (HL.out _).mono ?_); rintro e w8 ⟨rfl, b8⟩; have BX7 := Lib.hid (Blk.new w7 26 #[.int .i64 x.fr, .slice x.wA x.wn x.wc, .slice x.sA x.sn x.sc, .slice x.cA x.cn x.cc]); have PA := Lib.hid (P7.out.only (only_alloc (only_refl w7 none) (.cells #[.int .i64 x.fr, .slice x.wA x.wn x.wc, .slice x.sA x.sn x.sc, .slice x.cA x.cn x.cc] 26))); have P8 := Lib.hid (PA.out.step b8); have HX8 := Lib.hid (cfv_below (HX7.out.grown (only_alloc (only_refl w7 none) (.cells #[.int .i64 x.fr, .slice x.wA x.wn x.wc, .slice x.sA x.sn x.sc, .slice x.cA x.cn x.cc] 26))) b8); have BX8 := Lib.hid (show BoxC w8 w7.heap.size x from BX7.out.below b8 BX7.out.lt); clear b8 k0 k1 k2 k3; obtain ⟨k0, k1, k2, k3⟩ := cf_cells P8.out.bx; obtain ⟨m0, m1, m2, m3⟩ := cf_cells BX8.out)
      | (go_at_call 11; (with_reducible refine (HBC.out x _ HX8.out P8.out.vc HXC.out).mono ?_); rintro e w9 ⟨rfl, g9⟩; have P9 := Lib.hid (P8.out.only g9); clear g9 k0 k1 k2 k3 m0 m1 m2 m3; obtain ⟨k0, k1, k2, k3⟩ := cf_cells P9.out.bx)
      | (go_at_call 13; (with_reducible refine (HSZ.out _).mono ?_); rintro e w10 ⟨rfl, g10⟩; have PX := Lib.hid (P9.out.only g10); clear g10))
    go_ret
    exact ⟨rfl, PX.out.bl⟩
  · have hne : (er == 0) = false := by simpa using h0
    have hne2 : (er != 0) = true := by simpa using h0
    go_wp2_with (go_at_call 7; (with_reducible refine (HL.out _).mono ?_); rintro e w8 ⟨rfl, b8⟩; have P8 := Lib.hid (P6.out.step b8); clear b8)
    go_ret
    exact ⟨rfl, P8.out.bl⟩
end Go.Proofs.Ytjmdcmcheiagjaa
