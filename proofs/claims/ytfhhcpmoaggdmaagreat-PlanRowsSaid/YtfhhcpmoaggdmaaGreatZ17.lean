import Derived.Test.YtfhhcpmoaggdmaaGreatZ16
import Derived.Test.YtfhhcpmoaggdmaaGreatZ02
import Derived.Test.YtfhhcpmoaggdmaaGreatZ01
import Derived.ShutString
import Derived.ChangeOld
import Derived.Lib.SmallJoins
set_option linter.all false
/- PlanRows, walked: above all clients. -/
namespace Go.Proofs.YtfhhcpmoaggdmaaGreat
open Go.RowKit Go.Lib Go.Sort
attribute [-go_sem] Go.run_neq_struct
attribute [-go_sem] Go.run_eql_struct
set_option linter.unusedVariables false

set_option maxRecDepth 20000 in
set_option maxHeartbeats 3200000 in
theorem planrows_p (c : Cf) (what owner : Int) (w : World) (hc : CfV w c) (hf : FitCf c) (h0 : fltL c = []) (h2 : fitI owner) (hn : (c.cn : Int) < owner) :
    Calls Tryz.prog 3 #[cfv c, .int .i64 what, .int .i64 owner] w fun e w' => e = .returned (.bool true) ∧ w.grownBy w' none := by
  obtain ⟨W1, hW, g1, hB⟩ := box1 w 26 (cfA c)
  have HG := Lib.hid g1
  have R := Lib.hid (right_of c h0)
  have HL := Lib.hid (fun W => live18_any W)
  have HN := Lib.hid (show Calls Tryz.prog 6 #[.agg #[.int .i64 c.fr, .slice c.wA c.wn c.wc, .slice c.sA c.sn c.sc, .slice c.cA c.cn c.cc]] W1 (fun e w' => ∃ b P, e = .returned (.tuple #[.pointer (some ⟨b, 0, none⟩), .int .i64 0]) ∧ PX w' b P c ∧ W1.grownBy w' none) from
    (pnew_any c W1 (hc.grown g1) hf).mono fun e w' h => by
      obtain ⟨g, ⟨hne, _⟩ | ⟨_, b, P, he, hp⟩⟩ := h
      · exact absurd h0 hne
      · exact ⟨b, P, he, hp, g⟩)
  have HFA := Lib.hid (fun (W : World) (q : W1.grownBy W none) => (show Calls Tryz.prog 7 #[.agg #[.int .i64 c.fr, .slice c.wA c.wn c.wc, .slice c.sA c.sn c.sc, .slice c.cA c.cn c.cc]] W (RFaultsV c W) from rfaults_any c W ((hc.grown g1).grown q) hf))
  have HCL := Lib.hid (show ∀ W, W1.grownBy W none → W.cell? ⟨w.heap.size, 0, none⟩ = some (.int .i64 c.fr) ∧ W.cell? ⟨w.heap.size, 1, none⟩ = some (.slice c.wA c.wn c.wc) ∧ W.cell? ⟨w.heap.size, 2, none⟩ = some (.slice c.sA c.sn c.sc) ∧ W.cell? ⟨w.heap.size, 3, none⟩ = some (.slice c.cA c.cn c.cc) from fun W q => cf_cells (show BoxC W w.heap.size c from hB.only q (by simp)))
  have HCV := Lib.hid (fun (W : World) (q : W1.grownBy W none) => (hc.grown g1).grown q)
  have HFC := Lib.hid hf
  have H0 := Lib.hid h0
  obtain ⟨c0, c1, c2, c3⟩ := HCL.out W1 (only_refl _ _)
  clear hc hf g1 hB h0
  show Calls Tryz.prog 3 #[.agg #[.int .i64 c.fr, .slice c.wA c.wn c.wc, .slice c.sA c.sn c.sc, .slice c.cA c.cn c.cc], .int .i64 what, .int .i64 owner] w _
  have hfew := R.out.few
  have i1 : (1 : Int) ≤ owner := by omega
  have i2 : decide (owner ≤ (c.cn : Int)) = false := by rw [decide_eq_false_iff_not]; omega
  have i5 : (owner == 0) = false := by rw [beq_eq_false_iff_ne]; omega
  have hic : isC c.cn owner = false := by unfold isC; simp; omega
  have HNO := Lib.hid (show ¬ (0 ≤ owner ∧ owner ≤ c.cn) from by omega)
  have HIC := Lib.hid hic
  have HFO := Lib.hid h2
  clear hic hfew h2
  go_enter Tryz.func3, Tryz.ntmps3
  go_upto_region 1 with (fail)
  rw [← hW]
  clear hW
  go_upto_region 4 with (first
    | (go_at_call 6; (with_reducible refine HN.out.mono ?_); rintro e w2 ⟨b, P, rfl, hx, g2⟩; have G2 := Lib.hid g2; have X2 := Lib.hid hx; obtain ⟨d0, d1, d2, d3⟩ := HCL.out w2 g2; clear g2 hx)
    | (go_at_call 7; (with_reducible refine (HFA.out _ G2.out).mono ?_); rintro e w3 ⟨A, n, k, rfl, hn, hn2, g3⟩; obtain rfl := right_faults H0.out hn; have G3 := Lib.hid (only_trans G2.out g3); have X3 := Lib.hid (X2.out.grown g3); obtain ⟨e0, e1, e2, e3⟩ := HCL.out w3 G3.out; clear g3 hn d0 d1 d2 d3))
  have HPQ := Lib.hid (fun q : Nat => pq_of (X3.out.grown (only_drewN (only_refl w3 none) q)))
  go_quiet (first | (go_at_call 9; with_reducible exact quiet_same (HPQ.out _).frame) | (go_at_call 10; with_reducible exact quiet_same (HPQ.out _).owners))
  have G4 := Lib.hid (only_drewN G3.out nq)
  have X4 := Lib.hid (X3.out.grown (only_drewN (only_refl w3 none) nq))
  clear e0 e1 e2 e3 HPQ
  obtain ⟨e0, e1, e2, e3⟩ := HCL.out _ G4.out
  generalize w3.drewN nq = w4 at G4 X4 e0 e1 e2 e3 ⊢
  have HCI := Lib.hid (show Calls Tryz.prog 11 #[.pointer (some ⟨b, 0, none⟩), .int .i64 owner] w4 (fun e w' => e = .returned (.tuple #[.agg #[.int .i64 0, .int .i64 0, .int .i64 0, .int .i64 0, .int .i64 0, .int .i64 0, .int .i64 0, .int .i64 0, .int .i64 0, .int .i64 0], .int .i64 7]) ∧ w4.grownBy w' none) from by
    have := pcli X4.out owner
    rw [HIC.out, if_neg (by decide)] at this
    exact this)
  go_upto_region 7 with (go_at_call 11; (with_reducible refine HCI.out.mono ?_); rintro e w5 ⟨rfl, g5⟩; have G5 := Lib.hid (only_trans G4.out g5); have X5 := Lib.hid (X4.out.grown g5); clear g5 e0 e1 e2 e3)
  obtain ⟨w6, hw6⟩ : ∃ w6, w6 = w5.alloc (.cells #[.int .i64 0, .int .i64 0, .int .i64 0, .int .i64 0, .int .i64 0, .int .i64 0, .int .i64 0, .int .i64 0, .int .i64 0, .int .i64 0] 36) := ⟨_, rfl⟩
  have B9 := Lib.hid (show Blk w6 w5.heap.size 36 (clA zCli) from by rw [hw6]; exact Blk.new _ _ _)
  have g6 : w5.grownBy w6 none := by rw [hw6]; exact only_alloc (only_refl _ _) _
  have G6 := Lib.hid (only_trans G5.out g6)
  have X6 := Lib.hid (X5.out.grown g6)
  rw [← hw6]
  clear hw6 g6
  obtain ⟨e0, e1, e2, e3⟩ := HCL.out w6 G6.out
  have HZX := Lib.hid (show ∃ x, x = zCli from ⟨_, rfl⟩)
  obtain ⟨x, hx⟩ := HZX.out
  rw [← hx] at B9
  have hq : ∀ w : World, (binOp BinOp.neq 36 (.agg #[.int .i64 x.base, .int .i64 x.size, .int .i64 x.ring, .int .i64 x.at', .int .i64 x.quota, .int .i64 x.queue, .int .i64 x.mac, .int .i64 x.chan, .int .i64 x.first, .int .i64 x.secs]) (.agg #[.int .i64 0, .int .i64 0, .int .i64 0, .int .i64 0, .int .i64 0, .int .i64 0, .int .i64 0, .int .i64 0, .int .i64 0, .int .i64 0])).run Tryz.prog w = .ok (.bool false) w := by
    intro w
    rw [hx]
    exact neq_cli18 0 0 0 0 0 0 0 0 0 0 w
  clear hx HZX
  obtain ⟨z0, z1, z2, z3, z4, z5, z6, z7, z8, z9, f0, f1, f2, f3, f4, f5, f6, f7, f8, f9⟩ := box10c B9.out
  clear f0 f1 f2 f3 f4 f5 f6 f7 f8 f9
  go_upto_region 8 with (fail)
  go_quiet (first | fail)
  have G7 := Lib.hid (only_drewN G6.out nq)
  have X7 := Lib.hid (X6.out.grown (only_drewN (only_refl w6 none) nq))
  have C9 := Lib.hid (B9.out.drewN nq)
  clear z0 z1 z2 z3 z4 z5 z6 z7 z8 z9 hq e0 e1 e2 e3 B9 X6 G6
  generalize w6.drewN nq = w7 at G7 X7 C9 ⊢
  go_upto_region 11 with (fail)
  obtain ⟨w8, hw8⟩ : ∃ w8, w8 = w7.alloc (.cells #[.int .i64 0, .int .i64 0] 40) := ⟨_, rfl⟩
  have g8 : w7.grownBy w8 none := by rw [hw8]; exact only_alloc (only_refl _ _) _
  have B12 := Lib.hid (show Blk w8 w7.heap.size 40 #[.int .i64 0, .int .i64 0] from by rw [hw8]; exact Blk.new _ _ _)
  have G8 := Lib.hid (only_trans G7.out g8)
  have X8 := Lib.hid (X7.out.grown g8)
  have D9 := Lib.hid (C9.out.only g8 (by simp))
  have hs7 := Lib.hid (show W1.heap.size ≤ w7.heap.size ∧ w5.heap.size < w7.heap.size from ⟨G7.out.size, C9.out.lt⟩)
  have h78 := Lib.hid g8
  rw [← hw8]
  clear hw8 g8
  obtain ⟨e0, e1, e2, e3⟩ := HCL.out w8 G8.out
  have HWN := Lib.hid (fun (W : World) (q : PX W b P c) => (show Calls Tryz.prog 17 #[.pointer (some ⟨b, 0, none⟩), .int .i64 owner] W (fun e w' => e = .returned (.agg #[.int .i64 0, .int .i64 0]) ∧ W.grownBy w' none) from by
    have := pwnd q owner
    rw [win_no R.out HNO.out] at this
    exact this))
  have G11 := G8
  have X11 := X8
  have J9 := D9
  have J12 := B12
  have hq3 := fun w : World => eq_span18 0 0 w
  have HPW := Lib.hid (fun (W : World) (q : PX W b P c) => (show Calls Tryz.prog 18 #[.pointer (some ⟨b, 0, none⟩), .int .i64 what, .int .i64 owner] W (fun e w' => e = .returned (.int .i64 (-1)) ∧ W.grownBy w' none) from by
    have := pwhn R.out q what owner
    rw [show whenC c what owner = -1 from by unfold whenC; rw [HIC.out, if_pos (.inr (.inr rfl))]] at this
    exact this))
  have HFD := Lib.hid (fun (W : World) (q : PX W b P c) => (show Calls Tryz.prog 15 #[.pointer (some ⟨P.rb, 0, none⟩), .int .i64 owner] W (fun e w' => e = .returned (.tuple #[.agg #[.int .i64 0, .int .i64 0, .int .i64 0], .int .i64 7]) ∧ W.grownBy w' none) from by
    have := pfnd q owner HFO.out
    rw [HIC.out, if_neg (by decide)] at this
    exact this))
  have HRG := Lib.hid (fun (W : World) (q : PX W b P c) => (pq_of q).regs)
  clear e0 e1 e2 e3
  go_upto_region 17 with (first
    | (go_at_call 14; (with_reducible refine (HRG.out _ X11.out).mono ?_); rintro e w12 ⟨rfl, rfl⟩)
    | (go_at_call 15; (with_reducible refine (HFD.out _ X11.out).mono ?_); rintro e w13 ⟨rfl, g13⟩; have G13 := Lib.hid (only_trans G11.out g13); have X13 := Lib.hid (X11.out.grown g13); have K9 := Lib.hid (J9.out.only g13 (by simp)); have K12 := Lib.hid (J12.out.only g13 (by simp)); clear g13))
  obtain ⟨w14, hw14⟩ : ∃ w14, w14 = w13.alloc (.cells #[.int .i64 0, .int .i64 0, .int .i64 0] 44) := ⟨_, rfl⟩
  have g14 : w13.grownBy w14 none := by rw [hw14]; exact only_alloc (only_refl _ _) _
  have B14 : Blk w14 w13.heap.size 44 #[.int .i64 0, .int .i64 0, .int .i64 0] := by rw [hw14]; exact Blk.new _ _ _
  have G14 := Lib.hid (only_trans G13.out g14)
  have X14 := Lib.hid (X13.out.grown g14)
  have L9 := K9.out.only g14 (by simp)
  have L12 := Lib.hid (K12.out.only g14 (by simp))
  rw [← hw14]
  clear hw14 g14
  have m0 := fun d os => blk_re B14 d os 0
  have m1 := fun d os => blk_re B14 d os 1
  have m2 := fun d os => blk_re B14 d os 2
  have m3 := fun d os => blk_re L9 d os 0
  have m4 := fun d os => blk_re L9 d os 1
  simp at m0 m1 m2 m3 m4
  clear B14 L9
  refine wp_region_quiet_below (by kernel_rfl) (by kernel_rfl) ?_
  repeat (go_big_quiet_step ((fail)))
  refine wpQuiet_nil ?_
  intro w15 hw15
  obtain ⟨p15, rfl⟩ := hw15
  have G15 := Lib.hid (only_trans G14.out (only_re w14 p15.d p15.os))
  have X15 := Lib.hid (X14.out.grown (only_re w14 p15.d p15.os))
  have N12 := L12.out.only (only_re w14 p15.d p15.os) (by simp)
  clear m0 m1 m2 m3 m4
  generalize grow (redrawn w14 p15.d) p15.os = w15 at G15 X15 N12 ⊢
  have n0 := fun d os => blk_re N12 d os 0
  have n1 := fun d os => blk_re N12 d os 1
  simp at n0 n1
  have HX16 := Lib.hid (fun dd os => X15.out.grown (only_re w15 dd os))
  clear N12
  go_upto_region 19 with (fail)
  refine wp_region_quiet_below (by kernel_rfl) (by kernel_rfl) ?_
  repeat (go_big_quiet_step ((first
    | (go_at_call 8; with_reducible exact rg1 (HL.out _))
    | (go_at_call 17; with_reducible exact rg1 (HWN.out _ (HX16.out _ _)))
    | (go_at_call 18; with_reducible exact rg1 (HPW.out _ (HX16.out _ _))))))
  refine wpQuiet_nil ?_
  intro w16 hw16
  obtain ⟨p16, rfl⟩ := hw16
  have G16 := Lib.hid (only_trans G15.out (only_re w15 p16.d p16.os))
  clear n0 n1
  generalize grow (redrawn w15 p16.d) p16.os = w16 at G16 ⊢
  go_wp2
  go_ret
  exact ⟨by first | rfl | simp, only_trans HG.out G16.out⟩
end Go.Proofs.YtfhhcpmoaggdmaaGreat

/- PlanRows, walked: all cases. -/
namespace Go.Proofs.YtfhhcpmoaggdmaaGreat
open Go.RowKit Go.Lib Go.Sort
set_option linter.unusedVariables false

theorem planrows_walk (c : Cf) (what owner : Int) (w : World) (hh : CfV w c ∧ FitCf c) (h1 : fitI what) (h2 : fitI owner) :
    Calls Tryz.prog 3 #[cfv c, .int .i64 what, .int .i64 owner] w fun e w' => e = .returned (.bool true) ∧ Below w.heap.size w w' := by
  refine Calls.mono (?_ : Calls Tryz.prog 3 #[cfv c, .int .i64 what, .int .i64 owner] w fun e w' => e = .returned (.bool true) ∧ w.grownBy w' none) fun e w' h => ⟨h.1, below_of_only h.2 (Nat.le_refl _) (by simp)⟩
  obtain ⟨hc, hf⟩ := hh
  by_cases h0 : fltL c = []
  · by_cases ho : 1 ≤ owner ∧ owner ≤ c.cn
    · obtain ⟨i, rfl⟩ : ∃ i : Nat, owner = (i : Int) + 1 := ⟨(owner - 1).toNat, by omega⟩
      by_cases hk : what = 1 ∨ what = 2
      · exact planrows_c c what 0 w hc hf h0 i (by omega) hk
      · exact planrows_b c what 0 w hc hf h0 i (by omega) (by omega)
    · by_cases hz : owner = 0
      · subst hz
        exact planrows_z c what 0 w hc hf h0 rfl
      · by_cases hn : owner < 0
        · exact planrows_n c what owner w hc hf h0 h2 hn
        · exact planrows_p c what owner w hc hf h0 h2 (by omega)
  · exact planrows_no c what owner w hc hf h0
end Go.Proofs.YtfhhcpmoaggdmaaGreat

/- How a machine's tables that came in by value are opened. -/
namespace Go.Proofs.YtfhhcpmoaggdmaaGreat
open Go.RowKit Go.Lib Go.ChangeShapes Go.WideShapes Go.ChangeAt Go.Deep
set_option linter.unusedVariables false

theorem open_wins {H : Type} {enc : TypeId × Value → H} {w : World} {base : Nat} {spare : Nat → Bool} {held : Bool} {A : Option Addr} {len cap fuel : Nat} {x : DataW H × List MemPlace}
    (h : DataW.trod enc Tryz.prog w base spare held fuel 22 [.slice A len cap] = some x) : len ≤ cap ∧ cap ≤ 9223372036854775807 ∧ ∃ d, Row3 w A len d ∧ ∀ i, i < len → FitW3 (d i) := by
  obtain ⟨h1, h2, h3, h4⟩ := open_structs Tryz.underlying22 Tryz.underlying78 (by kernel_rfl) (by kernel_rfl) (by decide) h
  refine ⟨h1, by unfold maxLen at h2; omega, ?_⟩
  by_cases hp : 0 < len
  · obtain ⟨b, off, hA, hb, hc⟩ := h4 hp
    have hx : ∀ i, ∃ r : W3, i < len → (w.cell? ⟨b, off + i * 3, none⟩ = some (.int .i64 r.1) ∧ w.cell? ⟨b, off + i * 3 + 1, none⟩ = some (.int .i64 r.2.1) ∧ w.cell? ⟨b, off + i * 3 + 2, none⟩ = some (.int .i64 r.2.2)) ∧ FitW3 r := by
      intro i
      by_cases hi : i < len
      · obtain ⟨v0, n0, y0, c0, r0⟩ := hc i hi 0 _ rfl
        obtain ⟨v1, n1, y1, c1, r1⟩ := hc i hi 1 _ rfl
        obtain ⟨v2, n2, y2, c2, r2⟩ := hc i hi 2 _ rfl
        obtain ⟨p0, e0, _, w0⟩ := DataW.trod_int Tryz.underlying3 r0
        obtain ⟨p1, e1, _, w1⟩ := DataW.trod_int Tryz.underlying3 r1
        obtain ⟨p2, e2, _, w2⟩ := DataW.trod_int Tryz.underlying3 r2
        injection e0 with e0 _
        injection e1 with e1 _
        injection e2 with e2 _
        subst e0 e1 e2
        exact ⟨(p0, p1, p2), fun _ => ⟨⟨c0, c1, c2⟩, fitI_of w0, fitI_of w1, fitI_of w2⟩⟩
      · exact ⟨(0, 0, 0), fun h => absurd h hi⟩
    exact ⟨fun i => Classical.choose (hx i), ⟨fun h => (h3 h).1, fun _ => ⟨b, off, hA, hb, fun i hi => (Classical.choose_spec (hx i) hi).1⟩⟩, fun i hi => (Classical.choose_spec (hx i) hi).2⟩
  · exact ⟨fun _ => (0, 0, 0), ⟨fun h => (h3 h).1, fun h => absurd h hp⟩, fun i hi => absurd hi (by omega)⟩
theorem open_slots {H : Type} {enc : TypeId × Value → H} {w : World} {base : Nat} {spare : Nat → Bool} {held : Bool} {A : Option Addr} {len cap fuel : Nat} {x : DataW H × List MemPlace}
    (h : DataW.trod enc Tryz.prog w base spare held fuel 23 [.slice A len cap] = some x) : len ≤ cap ∧ cap ≤ 9223372036854775807 ∧ ∃ d, Row3 w A len d ∧ ∀ i, i < len → FitW3 (d i) := by
  obtain ⟨h1, h2, h3, h4⟩ := open_structs Tryz.underlying23 Tryz.underlying84 (by kernel_rfl) (by kernel_rfl) (by decide) h
  refine ⟨h1, by unfold maxLen at h2; omega, ?_⟩
  by_cases hp : 0 < len
  · obtain ⟨b, off, hA, hb, hc⟩ := h4 hp
    have hx : ∀ i, ∃ r : W3, i < len → (w.cell? ⟨b, off + i * 3, none⟩ = some (.int .i64 r.1) ∧ w.cell? ⟨b, off + i * 3 + 1, none⟩ = some (.int .i64 r.2.1) ∧ w.cell? ⟨b, off + i * 3 + 2, none⟩ = some (.int .i64 r.2.2)) ∧ FitW3 r := by
      intro i
      by_cases hi : i < len
      · obtain ⟨v0, n0, y0, c0, r0⟩ := hc i hi 0 _ rfl
        obtain ⟨v1, n1, y1, c1, r1⟩ := hc i hi 1 _ rfl
        obtain ⟨v2, n2, y2, c2, r2⟩ := hc i hi 2 _ rfl
        obtain ⟨p0, e0, _, w0⟩ := DataW.trod_int Tryz.underlying3 r0
        obtain ⟨p1, e1, _, w1⟩ := DataW.trod_int Tryz.underlying3 r1
        obtain ⟨p2, e2, _, w2⟩ := DataW.trod_int Tryz.underlying3 r2
        injection e0 with e0 _
        injection e1 with e1 _
        injection e2 with e2 _
        subst e0 e1 e2
        exact ⟨(p0, p1, p2), fun _ => ⟨⟨c0, c1, c2⟩, fitI_of w0, fitI_of w1, fitI_of w2⟩⟩
      · exact ⟨(0, 0, 0), fun h => absurd h hi⟩
    exact ⟨fun i => Classical.choose (hx i), ⟨fun h => (h3 h).1, fun _ => ⟨b, off, hA, hb, fun i hi => (Classical.choose_spec (hx i) hi).1⟩⟩, fun i hi => (Classical.choose_spec (hx i) hi).2⟩
  · exact ⟨fun _ => (0, 0, 0), ⟨fun h => (h3 h).1, fun h => absurd h hp⟩, fun i hi => absurd hi (by omega)⟩
theorem open_clients {H : Type} {enc : TypeId × Value → H} {w : World} {base : Nat} {spare : Nat → Bool} {held : Bool} {A : Option Addr} {len cap fuel : Nat} {x : DataW H × List MemPlace}
    (h : DataW.trod enc Tryz.prog w base spare held fuel 24 [.slice A len cap] = some x) : len ≤ cap ∧ cap ≤ 9223372036854775807 ∧ ∃ d, RowC w A len d ∧ ∀ i, i < len → FitCl (d i) := by
  obtain ⟨h1, h2, h3, h4⟩ := open_structs Tryz.underlying24 Tryz.underlying36 (by kernel_rfl) (by kernel_rfl) (by decide) h
  refine ⟨h1, by unfold maxLen at h2; omega, ?_⟩
  by_cases hp : 0 < len
  · obtain ⟨b, off, hA, hb, hc⟩ := h4 hp
    have hx : ∀ i, ∃ r : Cl, i < len → (w.cell? ⟨b, off + i * 10, none⟩ = some (.int .i64 r.base) ∧ w.cell? ⟨b, off + i * 10 + 1, none⟩ = some (.int .i64 r.size) ∧ w.cell? ⟨b, off + i * 10 + 2, none⟩ = some (.int .i64 r.ring) ∧ w.cell? ⟨b, off + i * 10 + 3, none⟩ = some (.int .i64 r.at') ∧ w.cell? ⟨b, off + i * 10 + 4, none⟩ = some (.int .i64 r.quota) ∧ w.cell? ⟨b, off + i * 10 + 5, none⟩ = some (.int .i64 r.queue) ∧ w.cell? ⟨b, off + i * 10 + 6, none⟩ = some (.int .i64 r.mac) ∧ w.cell? ⟨b, off + i * 10 + 7, none⟩ = some (.int .i64 r.chan) ∧ w.cell? ⟨b, off + i * 10 + 8, none⟩ = some (.int .i64 r.first) ∧ w.cell? ⟨b, off + i * 10 + 9, none⟩ = some (.int .i64 r.secs)) ∧ FitCl r := by
      intro i
      by_cases hi : i < len
      · obtain ⟨v0, n0, y0, c0, r0⟩ := hc i hi 0 _ rfl
        obtain ⟨v1, n1, y1, c1, r1⟩ := hc i hi 1 _ rfl
        obtain ⟨v2, n2, y2, c2, r2⟩ := hc i hi 2 _ rfl
        obtain ⟨v3, n3, y3, c3, r3⟩ := hc i hi 3 _ rfl
        obtain ⟨v4, n4, y4, c4, r4⟩ := hc i hi 4 _ rfl
        obtain ⟨v5, n5, y5, c5, r5⟩ := hc i hi 5 _ rfl
        obtain ⟨v6, n6, y6, c6, r6⟩ := hc i hi 6 _ rfl
        obtain ⟨v7, n7, y7, c7, r7⟩ := hc i hi 7 _ rfl
        obtain ⟨v8, n8, y8, c8, r8⟩ := hc i hi 8 _ rfl
        obtain ⟨v9, n9, y9, c9, r9⟩ := hc i hi 9 _ rfl
        obtain ⟨p0, e0, _, w0⟩ := DataW.trod_int Tryz.underlying3 r0
        obtain ⟨p1, e1, _, w1⟩ := DataW.trod_int Tryz.underlying3 r1
        obtain ⟨p2, e2, _, w2⟩ := DataW.trod_int Tryz.underlying3 r2
        obtain ⟨p3, e3, _, w3⟩ := DataW.trod_int Tryz.underlying3 r3
        obtain ⟨p4, e4, _, w4⟩ := DataW.trod_int Tryz.underlying3 r4
        obtain ⟨p5, e5, _, w5⟩ := DataW.trod_int Tryz.underlying3 r5
        obtain ⟨p6, e6, _, w6⟩ := DataW.trod_int Tryz.underlying3 r6
        obtain ⟨p7, e7, _, w7⟩ := DataW.trod_int Tryz.underlying3 r7
        obtain ⟨p8, e8, _, w8⟩ := DataW.trod_int Tryz.underlying3 r8
        obtain ⟨p9, e9, _, w9⟩ := DataW.trod_int Tryz.underlying3 r9
        injection e0 with e0 _
        injection e1 with e1 _
        injection e2 with e2 _
        injection e3 with e3 _
        injection e4 with e4 _
        injection e5 with e5 _
        injection e6 with e6 _
        injection e7 with e7 _
        injection e8 with e8 _
        injection e9 with e9 _
        subst e0 e1 e2 e3 e4 e5 e6 e7 e8 e9
        exact ⟨(⟨p0, p1, p2, p3, p4, p5, p6, p7, p8, p9⟩ : Cl), fun _ => ⟨⟨c0, c1, c2, c3, c4, c5, c6, c7, c8, c9⟩, fitI_of w0, fitI_of w1, fitI_of w2, fitI_of w3, fitI_of w4, fitI_of w5, fitI_of w6, fitI_of w7, fitI_of w8, fitI_of w9⟩⟩
      · exact ⟨(⟨0, 0, 0, 0, 0, 0, 0, 0, 0, 0⟩ : Cl), fun h => absurd h hi⟩
    exact ⟨fun i => Classical.choose (hx i), ⟨fun h => (h3 h).1, fun _ => ⟨b, off, hA, hb, fun i hi => (Classical.choose_spec (hx i) hi).1⟩⟩, fun i hi => (Classical.choose_spec (hx i) hi).2⟩
  · exact ⟨fun _ => (⟨0, 0, 0, 0, 0, 0, 0, 0, 0, 0⟩ : Cl), ⟨fun h => (h3 h).1, fun h => absurd h hp⟩, fun i hi => absurd hi (by omega)⟩
/-- One field of a struct by value whose fields are one cell each. -/
theorem open_fieldc {H : Type} {enc : TypeId × Value → H} {P : Program} {w : World} {base : Nat} {spare : Nat → Bool} {held : Bool} {t : TypeId} {fs : Array Field} {fuel : Nat} {cs : List Value} {x : DataW H × List MemPlace}
    (hs : P.underlying t = some (.struct fs)) (hone : oneCellFields P fs = true) (h : DataW.trod enc P w base spare held fuel t cs = some x) {i : Nat} {f : Field} (hf : fs[i]? = some f) {c : Value} (hc : cs[i]? = some c) :
    ∃ n y, DataW.trod enc P w base spare held n f.type [c] = some y := by
  obtain ⟨xs, n, _, _, _, hlen, hfld⟩ := DataW.trod_struct hs h
  obtain ⟨o, k⟩ := hone_of hone i f hf
  have h1 := hfld i f hf
  have hi : i < fs.size := (Array.getElem?_eq_some_iff.1 hf).1
  have hcl : i < cs.length := (List.getElem?_eq_some_iff.1 hc).1
  have hce : cs[i] = c := (List.getElem?_eq_some_iff.1 hc).2
  rw [o, k, List.getElem?_eq_getElem (by omega), List.drop_eq_getElem_cons hcl, hce] at h1
  exact ⟨n, _, by simpa using h1⟩
theorem cutc4 {cs : Array Value} (h : cs.size = 4) : ∃ c0 c1 c2 c3, cs = #[c0, c1, c2, c3] := by
  obtain ⟨l⟩ := cs
  match l, h with
  | [c0, c1, c2, c3], _ => exact ⟨c0, c1, c2, c3, rfl⟩
theorem form_slice {H : Type} {enc : TypeId × Value → H} {P : Program} {w : World} {base : Nat} {spare : Nat → Bool} {held : Bool} {t e : TypeId} {fuel : Nat} {c : Value} {x : DataW H × List MemPlace}
    (ht : P.underlying t = some (.slice e)) (h : DataW.trod enc P w base spare held fuel t [c] = some x) : ∃ A n k, c = .slice A n k := by
  rcases open_slice ht h with ⟨hcs, _⟩ | ⟨a, l, k, m, n, D, Pl, hcs, _⟩
  · injection hcs with hcs _
    exact ⟨_, _, _, hcs⟩
  · injection hcs with hcs _
    exact ⟨_, _, _, hcs⟩
set_option maxRecDepth 20000 in
/-- Tables that came in by value. -/
theorem open_config {H : Type} {enc : TypeId × Value → H} {W : World} {base b0 : Nat} {spare : Nat → Bool} {held : Bool} {r : Reach} {v : Value} {d : DataW H} {p : List MemPlace}
    (hv : Value.okWide Tryz.prog W r b0 26 v) (h : DataW.Trod enc Tryz.prog W base spare held 26 v d p) : ∃ c : Cf, v = cfv c ∧ CfV W c ∧ FitCf c := by
  obtain ⟨cs, rfl, hsz⟩ := okWide_struct Tryz.underlying26 hv
  obtain ⟨c0, c1, c2, c3, rfl⟩ := cutc4 (hsz.trans (by kernel_rfl))
  obtain ⟨fuel, hf⟩ := h
  replace hf : DataW.trod enc Tryz.prog W base spare held fuel 26 [c0, c1, c2, c3] = some (d, p) := hf
  obtain ⟨n0, y0, h0⟩ := open_fieldc Tryz.underlying26 (by kernel_rfl) hf (i := 0) rfl (c := c0) rfl
  obtain ⟨n1, y1, h1⟩ := open_fieldc Tryz.underlying26 (by kernel_rfl) hf (i := 1) rfl (c := c1) rfl
  obtain ⟨n2, y2, h2⟩ := open_fieldc Tryz.underlying26 (by kernel_rfl) hf (i := 2) rfl (c := c2) rfl
  obtain ⟨n3, y3, h3⟩ := open_fieldc Tryz.underlying26 (by kernel_rfl) hf (i := 3) rfl (c := c3) rfl
  obtain ⟨o, e0, _, w0⟩ := DataW.trod_int Tryz.underlying3 h0
  injection e0 with e0 _
  obtain ⟨A1, l1, k1, rfl⟩ := form_slice Tryz.underlying22 h1
  obtain ⟨A2, l2, k2, rfl⟩ := form_slice Tryz.underlying23 h2
  obtain ⟨A3, l3, k3, rfl⟩ := form_slice Tryz.underlying24 h3
  obtain ⟨q1, m1, d1, r1, f1⟩ := open_wins h1
  obtain ⟨q2, m2, d2, r2, f2⟩ := open_slots h2
  obtain ⟨q3, m3, d3, r3, f3⟩ := open_clients h3
  subst e0
  exact ⟨⟨o, A1, l1, k1, d1, A2, l2, k2, d2, A3, l3, k3, d3⟩, rfl, ⟨r1, r2, r3⟩, fitI_of w0, ⟨q1, m1, f1⟩, ⟨q2, m2, f2⟩, ⟨q3, m3, f3⟩⟩
end Go.Proofs.YtfhhcpmoaggdmaaGreat

/- PlanRows: what a plan tells of owners, or that there is none, is what the tables say, whatever the tables, the duty and the owner. No condition. -/
namespace Go.Proofs.YtfhhcpmoaggdmaaGreat
open Go.RowKit Go.Lib Go.ChangeShapes Go.WideShapes Go.ChangeAt Go.Deep Go.Joins
open Go.ChangeMaps (open_string shut_string)
set_option linter.unusedVariables false

theorem PWR_own : ownKnob Tryz.prog.godebug = none := by kernel_rfl
theorem PWR_laid : laidOutB Tryz.prog = true := by kernel_rfl
set_option maxRecDepth 100000 in
theorem PWR_lifted (os : Os) (started : os.Started) (H : Type) (enc : TypeId × Value → H) :
    ReturnsInHanded {} Tryz.checked os 3 .any (Rows.planRowsSpec.pre6 enc Tryz.prog Tryz.f3 Rows.planRowsRow.domain false) (Rows.planRowsSpec.post enc Tryz.prog Tryz.f3 false true false false) := by
  refine returnsInHanded_of_change (C := Tryz.checked) PWR_own started (by kernel_rfl) Tryz.func3
    (ChangeSpec.witness6 (enc := enc) (C := Tryz.checked) false ⟨#[], #[.agg #[.int .i64 0, .slice none 0 0, .slice none 0 0, .slice none 0 0], .int .i64 0, .int .i64 0], []⟩ 8 (by kernel_rfl) (by kernel_rfl) (by kernel_rfl) (by kernel_rfl)) ?_
  intro W base args ds gs before hval0 hW hcnd _
  have hval : ∀ (j : Nat) t v, Tryz.f3.params[j]? = some t → args[j]? = some v → Value.okWide Tryz.prog W .any base t v := hval0
  have hW' := hW
  obtain ⟨p, q, hA0, hV, rfl, hfz, hnd⟩ := hW
  have hA : DataW.TrodAll enc Tryz.prog W 0 (fun _ => true) true Tryz.f3.params.toList args.toList ds p := hA0
  rw [Tryz.params3] at hA hval
  obtain ⟨v0, vs0, d0, ds0, p0, q0, hargs, rfl, rfl, h0, r0⟩ := trodAll_cons hA
  obtain ⟨v1, vs1, d1, ds1, p1, q1, rfl, rfl, rfl, h1, r1⟩ := trodAll_cons r0
  obtain ⟨v2, vs2, d2, ds2, p2, q2, rfl, rfl, rfl, h2, r2⟩ := trodAll_cons r1
  obtain ⟨rfl, rfl, rfl⟩ := trodAll_nil r2
  obtain rfl : args = #[v0, v1, v2] := by cases args; simp_all
  obtain ⟨rfl, rfl⟩ := trodVars_none hV
  obtain ⟨D0, rfl, hfit0⟩ := open_config (hval 0 26 v0 rfl rfl) h0
  have k0 := h0
  have lt0 : ∀ x ∈ p0, x.block < W.heap.size := by obtain ⟨m, hm⟩ := k0; exact DataW.trod_lt m _ _ _ hm
  obtain ⟨a1, rfl, rfl, rfl, w1⟩ := open_int Tryz.underlying3 (hval 1 3 v1 rfl rfl) h1
  obtain ⟨a2, rfl, rfl, rfl, w2⟩ := open_int Tryz.underlying3 (hval 2 3 v2 rfl rfl) h2
  clear hA0 hval0
  refine (planrows_walk D0 a1 a2 W hfit0 (fitI_of w1) (fitI_of w2)).mono fun e W' ⟨he, bel⟩ => ?_
  subst he
  exact ⟨_, rfl, _, _, _, [], _, [], hW', trodAll_mk1 (shut_bool Tryz.underlying4 _), (trodAll_cons_mk (Below.trod PWR_laid (by kernel_rfl) (of_decide_eq_true (by kernel_rfl)) k0 bel lt0) (trodAll_cons_mk (shut_int Tryz.underlying3 w1) (trodAll_cons_mk (shut_int Tryz.underlying3 w2) trodAll_mk0))), rfl, bel.frame _, fun h => by cases h⟩

theorem PWR_holds : Rows.PlanRowsSaid :=
  OpenClaim.holds_of_wide 3 Tryz.f3 rfl rfl rfl rfl rfl rfl rfl ⟨rfl, rfl, rfl, rfl, rfl⟩ rfl rfl rfl rfl rfl (by kernel_rfl) Tryz.func3 (by kernel_rfl)
    (of_decide_eq_true (by kernel_rfl)) (by unfold Func.isWrapper; first | (rw [if_pos (by decide +kernel)]; kernel_rfl) | (rw [if_neg (by decide +kernel)]; exact ⟨rfl, rfl⟩))
    (fun os started H enc _ => PWR_lifted os started H enc)
#print axioms PWR_holds
end Go.Proofs.YtfhhcpmoaggdmaaGreat
