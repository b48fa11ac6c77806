import Derived.Test.YtfhhcpmoaggdmaaGreatZ08
set_option linter.all false
/- The document's word on plans: who runs, whose window begins, by their contracts. -/
namespace Go.Proofs.YtfhhcpmoaggdmaaGreat
open Go.RowKit Go.Lib Go.Sort
set_option linter.unusedVariables false

def rOp (x : Int) (y : W3) : Bool := decide (0 < y.1) && decide (x = y.2.1)
def rRn (x : Int) (y : W3) : Bool := decide (0 < y.1) && (decide (y.2.1 ≤ x) && decide (x < y.2.2))
set_option maxRecDepth 20000 in
set_option maxHeartbeats 1600000 in
theorem ropens_any (c : Cf) (t : Int) (w : World) (h : CfV w c) (hn : c.wn ≤ 9223372036854775807) (hr : rightB c.fr = true) (ht : t ≤ 9223372036854775807) :
    Calls Tryz.prog 25 #[cfv c, .int .i64 t] w fun e w' => e = .returned (.int .i64 (if t < 0 then 0 else (fdW (rOp (t % c.fr)) c.wn c.wd).1)) ∧ w.grownBy w' none := by
  obtain ⟨f1, f2⟩ := (rightB_iff c.fr).1 hr
  obtain ⟨W1, hW, g1, hC⟩ := box1 w 26 (cfA c)
  have HG0 := Lib.hid g1
  have HC := Lib.hid (show BoxC W1 w.heap.size c from hC)
  have HR := Lib.hid (h.grown g1).1
  by_cases h0 : t < 0
  · rw [if_pos h0]
    have t0 : ¬ 0 ≤ t := by omega
    obtain ⟨c0, c1, c2, c3⟩ := cf_cells HC.out
    by_cases hz : c.wn = 0
    · rw [hz] at c1
      clear h g1 hC hr HR
      go_enter Tryz.func25, Tryz.ntmps25
      go_upto_region 1 with (fail)
      rw [← hW]
      clear hW
      go_wp2
      go_loopw [5] (fun y wr => y = .int .i64 0 ∧ Hid (W1 = wr)) (fun y _ => 0)
      case atStart => exact ⟨rfl, Lib.hid rfl⟩
      case round =>
        obtain ⟨rfl, HW⟩ := hrel
        obtain rfl := HW.out
        go_wp2
        go_ret
        exact ⟨rfl, HG0.out⟩
    · have hz2 : (0 : Int) < (c.wn : Int) := by omega
      clear h g1 hC hr HR
      go_enter Tryz.func25, Tryz.ntmps25
      go_upto_region 1 with (fail)
      rw [← hW]
      clear hW
      go_wp2
      go_loopw [5] (fun y wr => y = .int .i64 0 ∧ Hid (W1 = wr)) (fun y _ => 0)
      case atStart => exact ⟨rfl, Lib.hid rfl⟩
      case round =>
        obtain ⟨rfl, HW⟩ := hrel
        obtain rfl := HW.out
        go_wp2
        go_ret
        exact ⟨rfl, HG0.out⟩
  rw [if_neg h0]
  have t0 : 0 ≤ t := by omega
  have HO := Lib.hid (fun W => (show Calls Tryz.prog 39 #[.int .i64 t, .int .i64 c.fr] W (fun e w' => e = .returned (.int .i64 (t % c.fr)) ∧ W = w') from roff_any t c.fr W (by omega) f1 ht))
  have HV0 := Lib.hid (fun q => fdW_none (p := rOp (t % c.fr)) (n := c.wn) (d := c.wd) q)
  have HV1 := Lib.hid (fun i hi q k => fdW_at (p := rOp (t % c.fr)) (n := c.wn) (i := i) (d := c.wd) hi q k)
  clear h g1 hC hr
  generalize t % c.fr = x at *
  generalize fdW (rOp x) c.wn c.wd = r at *
  go_enter Tryz.func25, Tryz.ntmps25
  go_upto_region 1 with (fail)
  rw [← hW]
  clear hW
  go_wp2
  go_loopw [5] (fun y wr => ∃ (i : Nat), y = .int .i64 i ∧ i ≤ c.wn ∧ Hid (∀ k, k < i → rOp x (c.wd k) = false) ∧ Hid (W1.grownBy wr none)) (fun y _ => c.wn - (intOf y).toNat)
  case atStart => exact ⟨0, rfl, by omega, Lib.hid (fun k hk => absurd hk (by omega)), Lib.hid (only_refl _ _)⟩
  case round =>
    obtain ⟨i, rfl, hi, HN, HG⟩ := hrel
    have HCW := Lib.hid (fun W (q : W1.grownBy W none) => cf_cells (HC.out.only q (by simp)))
    obtain ⟨c0, c1, c2, c3⟩ := HCW.out wr HG.out
    by_cases hin : i < c.wn
    · have i1 : (i : Int) < (c.wn : Int) := by omega
      have i2 : (0 : Int) ≤ (i : Int) := by omega
      obtain ⟨b, off, hA, hb, hc⟩ := (HR.out.grown HG.out).2 (by omega)
      obtain ⟨s0, s1, s2⟩ := hc i hin
      rw [hA] at c1
      have HV1' := Lib.hid (fun q => HV1.out i hin q HN.out)
      have HNX := Lib.hid (show rOp x (c.wd i) = false → ∀ k, k < i + 1 → rOp x (c.wd k) = false from fun q k hk => by
        by_cases e : k = i
        · rw [e]; exact q
        · exact HN.out k (by omega))
      have HCS := Lib.hid (show ∀ W, wr.grownBy W none → W.cell? ⟨w.heap.size, 1, none⟩ = some (.slice (some ⟨b, off, none⟩) c.wn c.wc) ∧ W.cell? ⟨b, off + i * 3, none⟩ = some (.int .i64 (c.wd i).1) from fun W q => ⟨by
        have := (HCW.out W (only_trans HG.out q)).2.1
        rw [hA] at this
        exact this, by rw [cell_heap (q.block b hb (by simp))]; exact s0⟩)
      clear hc hA
      generalize c.wd i = y at s0 s1 s2 HV1' HNX HCS
      obtain ⟨x0, x1, x2⟩ := y
      simp only at s0 s1 s2 HCS
      have e0 := fun dd os => cell_regrown c0 dd os
      have e1 := fun dd os => cell_regrown c1 dd os
      have e2 := fun dd os => cell_regrown s0 dd os
      have e3 := fun dd os => cell_regrown s1 dd os
      have e4 := fun dd os => cell_regrown s2 dd os
      have key : ¬ 0 < x0 ∨ (0 < x0 ∧ ¬ x = x1) ∨ (0 < x0 ∧ x1 = x) := by omega
      rcases key with a1 | ⟨a1, a2⟩ | ⟨a1, rfl⟩
      · have HF := Lib.hid (HNX.out (by unfold rOp; simp; omega))
        skip
        go_upto_region 4 with (fail)
        refine wp_region_quiet_below (by kernel_rfl) (by kernel_rfl) ?_
        repeat (go_big_quiet_step ((first | (go_at_call 39; with_reducible exact rg1 ((HO.out _).mono fun e w' ⟨h1, h2⟩ => ⟨h1, by subst h2; exact only_refl _ _⟩)))))
        refine wpQuiet_nil ?_
        intro w5 hw5
        obtain ⟨p, rfl⟩ := hw5
        have G5 := Lib.hid (only_trans HG.out (only_re wr p.d p.os))
        clear e0 e1 e2 e3 e4
        generalize grow (redrawn wr p.d) p.os = w5 at G5 ⊢
        have G6 := G5
        go_wp2
        go_roundw
        case rel => exact ⟨i + 1, by go_num, by omega, HF, G6⟩
        case measure => simp [intOf] <;> omega
      · have HF := Lib.hid (HNX.out (by unfold rOp; simp; omega))
        have a3 : (x == x1) = false := by simpa using a2
        go_upto_region 4 with (fail)
        refine wp_region_quiet_below (by kernel_rfl) (by kernel_rfl) ?_
        repeat (go_big_quiet_step ((first | (go_at_call 39; with_reducible exact rg1 ((HO.out _).mono fun e w' ⟨h1, h2⟩ => ⟨h1, by subst h2; exact only_refl _ _⟩)))))
        refine wpQuiet_nil ?_
        intro w5 hw5
        obtain ⟨p, rfl⟩ := hw5
        have G5 := Lib.hid (only_trans HG.out (only_re wr p.d p.os))
        clear e0 e1 e2 e3 e4
        generalize grow (redrawn wr p.d) p.os = w5 at G5 ⊢
        have G6 := G5
        go_wp2
        go_roundw
        case rel => exact ⟨i + 1, by go_num, by omega, HF, G6⟩
        case measure => simp [intOf] <;> omega
      · have HF := Lib.hid (HV1'.out (by unfold rOp; simp; omega))
        have HK := Lib.hid (fun p : Regrown => HCS.out _ (only_re wr p.d p.os))
        go_upto_region 4 with (fail)
        refine wp_region_quiet_below (by kernel_rfl) (by kernel_rfl) ?_
        repeat (go_big_quiet_step ((first | (go_at_call 39; with_reducible exact rg1 ((HO.out _).mono fun e w' ⟨h1, h2⟩ => ⟨h1, by subst h2; exact only_refl _ _⟩)))))
        refine wpQuiet_nil ?_
        intro w5 hw5
        obtain ⟨p, rfl⟩ := hw5
        have G5 := Lib.hid (only_trans HG.out (only_re wr p.d p.os))
        clear e0 e1 e2 e3 e4
        have HK5 := HK.out p
        clear HK
        generalize grow (redrawn wr p.d) p.os = w5 at G5 HK5 ⊢
        have c1' := G5
        obtain ⟨y1, y2⟩ := HK5
        go_wp2
        go_ret
        exact ⟨by (try rw [HF.out]); first | rfl | simp, only_trans HG0.out G5.out⟩
    · obtain rfl : i = c.wn := by omega
      have i1 : ¬ ((c.wn : Nat) : Int) < ((c.wn : Nat) : Int) := by omega
      have HF := Lib.hid (HV0.out HN.out)
      go_wp2
      go_ret
      exact ⟨by (try rw [HF.out]); first | rfl | simp, only_trans HG0.out HG.out⟩
set_option maxRecDepth 20000 in
set_option maxHeartbeats 1600000 in
theorem rruns_any (c : Cf) (t : Int) (w : World) (h : CfV w c) (hn : c.wn ≤ 9223372036854775807) (hr : rightB c.fr = true) (ht : t ≤ 9223372036854775807) :
    Calls Tryz.prog 23 #[cfv c, .int .i64 t] w fun e w' => e = .returned (.int .i64 (if t < 0 then 0 else (fdW (rRn (t % c.fr)) c.wn c.wd).1)) ∧ w.grownBy w' none := by
  obtain ⟨f1, f2⟩ := (rightB_iff c.fr).1 hr
  obtain ⟨W1, hW, g1, hC⟩ := box1 w 26 (cfA c)
  have HG0 := Lib.hid g1
  have HC := Lib.hid (show BoxC W1 w.heap.size c from hC)
  have HR := Lib.hid (h.grown g1).1
  by_cases h0 : t < 0
  · rw [if_pos h0]
    have t0 : ¬ 0 ≤ t := by omega
    obtain ⟨c0, c1, c2, c3⟩ := cf_cells HC.out
    by_cases hz : c.wn = 0
    · rw [hz] at c1
      clear h g1 hC hr HR
      go_enter Tryz.func23, Tryz.ntmps23
      go_upto_region 1 with (fail)
      rw [← hW]
      clear hW
      go_wp2
      go_loopw [5] (fun y wr => y = .int .i64 0 ∧ Hid (W1 = wr)) (fun y _ => 0)
      case atStart => exact ⟨rfl, Lib.hid rfl⟩
      case round =>
        obtain ⟨rfl, HW⟩ := hrel
        obtain rfl := HW.out
        go_wp2
        go_ret
        exact ⟨rfl, HG0.out⟩
    · have hz2 : (0 : Int) < (c.wn : Int) := by omega
      clear h g1 hC hr HR
      go_enter Tryz.func23, Tryz.ntmps23
      go_upto_region 1 with (fail)
      rw [← hW]
      clear hW
      go_wp2
      go_loopw [5] (fun y wr => y = .int .i64 0 ∧ Hid (W1 = wr)) (fun y _ => 0)
      case atStart => exact ⟨rfl, Lib.hid rfl⟩
      case round =>
        obtain ⟨rfl, HW⟩ := hrel
        obtain rfl := HW.out
        go_wp2
        go_ret
        exact ⟨rfl, HG0.out⟩
  rw [if_neg h0]
  have t0 : 0 ≤ t := by omega
  have HO := Lib.hid (fun W => (show Calls Tryz.prog 39 #[.int .i64 t, .int .i64 c.fr] W (fun e w' => e = .returned (.int .i64 (t % c.fr)) ∧ W = w') from roff_any t c.fr W (by omega) f1 ht))
  have HV0 := Lib.hid (fun q => fdW_none (p := rRn (t % c.fr)) (n := c.wn) (d := c.wd) q)
  have HV1 := Lib.hid (fun i hi q k => fdW_at (p := rRn (t % c.fr)) (n := c.wn) (i := i) (d := c.wd) hi q k)
  clear h g1 hC hr
  generalize t % c.fr = x at *
  generalize fdW (rRn x) c.wn c.wd = r at *
  go_enter Tryz.func23, Tryz.ntmps23
  go_upto_region 1 with (fail)
  rw [← hW]
  clear hW
  go_wp2
  go_loopw [5] (fun y wr => ∃ (i : Nat), y = .int .i64 i ∧ i ≤ c.wn ∧ Hid (∀ k, k < i → rRn x (c.wd k) = false) ∧ Hid (W1.grownBy wr none)) (fun y _ => c.wn - (intOf y).toNat)
  case atStart => exact ⟨0, rfl, by omega, Lib.hid (fun k hk => absurd hk (by omega)), Lib.hid (only_refl _ _)⟩
  case round =>
    obtain ⟨i, rfl, hi, HN, HG⟩ := hrel
    have HCW := Lib.hid (fun W (q : W1.grownBy W none) => cf_cells (HC.out.only q (by simp)))
    obtain ⟨c0, c1, c2, c3⟩ := HCW.out wr HG.out
    by_cases hin : i < c.wn
    · have i1 : (i : Int) < (c.wn : Int) := by omega
      have i2 : (0 : Int) ≤ (i : Int) := by omega
      obtain ⟨b, off, hA, hb, hc⟩ := (HR.out.grown HG.out).2 (by omega)
      obtain ⟨s0, s1, s2⟩ := hc i hin
      rw [hA] at c1
      have HV1' := Lib.hid (fun q => HV1.out i hin q HN.out)
      have HNX := Lib.hid (show rRn x (c.wd i) = false → ∀ k, k < i + 1 → rRn x (c.wd k) = false from fun q k hk => by
        by_cases e : k = i
        · rw [e]; exact q
        · exact HN.out k (by omega))
      have HCS := Lib.hid (show ∀ W, wr.grownBy W none → W.cell? ⟨w.heap.size, 1, none⟩ = some (.slice (some ⟨b, off, none⟩) c.wn c.wc) ∧ W.cell? ⟨b, off + i * 3, none⟩ = some (.int .i64 (c.wd i).1) from fun W q => ⟨by
        have := (HCW.out W (only_trans HG.out q)).2.1
        rw [hA] at this
        exact this, by rw [cell_heap (q.block b hb (by simp))]; exact s0⟩)
      clear hc hA
      generalize c.wd i = y at s0 s1 s2 HV1' HNX HCS
      obtain ⟨x0, x1, x2⟩ := y
      simp only at s0 s1 s2 HCS
      have e0 := fun dd os => cell_regrown c0 dd os
      have e1 := fun dd os => cell_regrown c1 dd os
      have e2 := fun dd os => cell_regrown s0 dd os
      have e3 := fun dd os => cell_regrown s1 dd os
      have e4 := fun dd os => cell_regrown s2 dd os
      have key : ¬ 0 < x0 ∨ (0 < x0 ∧ ¬ x1 ≤ x) ∨ (0 < x0 ∧ x1 ≤ x ∧ ¬ x < x2) ∨ (0 < x0 ∧ x1 ≤ x ∧ x < x2) := by omega
      rcases key with a1 | ⟨a1, a2⟩ | ⟨a1, a2, a3⟩ | ⟨a1, a2, a3⟩
      · have HF := Lib.hid (HNX.out (by unfold rRn; simp; omega))
        skip
        have G5 := HG
        go_upto_region 5 with (go_at_call 39; (with_reducible refine (HO.out _).mono ?_); rintro e w2 ⟨rfl, rfl⟩)
        have G6 := G5
        go_wp2
        go_roundw
        case rel => exact ⟨i + 1, by go_num, by omega, HF, G6⟩
        case measure => simp [intOf] <;> omega
      · have HF := Lib.hid (HNX.out (by unfold rRn; simp; omega))
        skip
        have G5 := HG
        go_upto_region 5 with (go_at_call 39; (with_reducible refine (HO.out _).mono ?_); rintro e w2 ⟨rfl, rfl⟩)
        have G6 := G5
        go_wp2
        go_roundw
        case rel => exact ⟨i + 1, by go_num, by omega, HF, G6⟩
        case measure => simp [intOf] <;> omega
      · have HF := Lib.hid (HNX.out (by unfold rRn; simp; omega))
        skip
        have G5 := HG
        go_upto_region 5 with (go_at_call 39; (with_reducible refine (HO.out _).mono ?_); rintro e w2 ⟨rfl, rfl⟩)
        have G6 := G5
        go_wp2
        go_roundw
        case rel => exact ⟨i + 1, by go_num, by omega, HF, G6⟩
        case measure => simp [intOf] <;> omega
      · have HF := Lib.hid (HV1'.out (by unfold rRn; simp; omega))
        clear e0 e1 e2 e3 e4
        go_wp2_with (go_at_call 39; (with_reducible refine (HO.out _).mono ?_); rintro e w2 ⟨rfl, rfl⟩)
        go_ret
        exact ⟨by (try rw [HF.out]); first | rfl | simp, only_trans HG0.out HG.out⟩
    · obtain rfl : i = c.wn := by omega
      have i1 : ¬ ((c.wn : Nat) : Int) < ((c.wn : Nat) : Int) := by omega
      have HF := Lib.hid (HV0.out HN.out)
      go_wp2
      go_ret
      exact ⟨by (try rw [HF.out]); first | rfl | simp, only_trans HG0.out HG.out⟩
end Go.Proofs.YtfhhcpmoaggdmaaGreat

/- Package plan: a client's row, by its contract. -/
namespace Go.Proofs.YtfhhcpmoaggdmaaGreat
open Go.RowKit Go.Lib Go.Sort
set_option linter.unusedVariables false

theorem box10c {W : World} {g : Nat} {t : TypeId} {a0 a1 a2 a3 a4 a5 a6 a7 a8 a9 : Value} (h : Blk W g t #[a0, a1, a2, a3, a4, a5, a6, a7, a8, a9]) : W.cell? ⟨g, 0, none⟩ = some a0 ∧ W.cell? ⟨g, 1, none⟩ = some a1 ∧ W.cell? ⟨g, 2, none⟩ = some a2 ∧ W.cell? ⟨g, 3, none⟩ = some a3 ∧ W.cell? ⟨g, 4, none⟩ = some a4 ∧ W.cell? ⟨g, 5, none⟩ = some a5 ∧ W.cell? ⟨g, 6, none⟩ = some a6 ∧ W.cell? ⟨g, 7, none⟩ = some a7 ∧ W.cell? ⟨g, 8, none⟩ = some a8 ∧ W.cell? ⟨g, 9, none⟩ = some a9 ∧ W.frozen? ⟨g, 0, none⟩ = false ∧ W.frozen? ⟨g, 1, none⟩ = false ∧ W.frozen? ⟨g, 2, none⟩ = false ∧ W.frozen? ⟨g, 3, none⟩ = false ∧ W.frozen? ⟨g, 4, none⟩ = false ∧ W.frozen? ⟨g, 5, none⟩ = false ∧ W.frozen? ⟨g, 6, none⟩ = false ∧ W.frozen? ⟨g, 7, none⟩ = false ∧ W.frozen? ⟨g, 8, none⟩ = false ∧ W.frozen? ⟨g, 9, none⟩ = false := ⟨h.cell 0, h.cell 1, h.cell 2, h.cell 3, h.cell 4, h.cell 5, h.cell 6, h.cell 7, h.cell 8, h.cell 9, h.free 0, h.free 1, h.free 2, h.free 3, h.free 4, h.free 5, h.free 6, h.free 7, h.free 8, h.free 9⟩
def zCli : Cl := ⟨0, 0, 0, 0, 0, 0, 0, 0, 0, 0⟩
set_option maxRecDepth 20000 in
set_option maxHeartbeats 3200000 in
theorem pclient_any (b : Nat) (P : Pln) (o : Int) (w : World) (h : PlnV w b P) : Calls Tryz.prog 11 #[.pointer (some ⟨b, 0, none⟩), .int .i64 o] w fun e w' => e = .returned (if isC P.cn o = true then .tuple #[clv (P.cd (o - 1).toNat), .int .i64 0] else .tuple #[clv zCli, .int .i64 7]) ∧ w.grownBy w' none := by
  obtain ⟨W1, hW, g1, hB⟩ := box1 w 36 #[.int .i64 0, .int .i64 0, .int .i64 0, .int .i64 0, .int .i64 0, .int .i64 0, .int .i64 0, .int .i64 0, .int .i64 0, .int .i64 0]
  have HG := Lib.hid g1
  have HB := Lib.hid hB
  have HIC := Lib.hid (pisclient_any b P o W1 (h.grown g1))
  obtain ⟨c0, c1, c2, c3, c4⟩ := (h.grown g1).cells
  have hcl := (h.grown g1).clis
  have hle := h.cle
  have HOLD := Lib.hid h.clis.2
  have hbl := h.blk.lt
  obtain ⟨z0, z1, z2, z3, z4, z5, z6, z7, z8, z9, f0, f1, f2, f3, f4, f5, f6, f7, f8, f9⟩ := box10c HB.out
  clear h g1 hB
  by_cases hc : isC P.cn o = true
  case neg =>
    rw [if_neg hc]
    have hf : isC P.cn o = false := by simpa using hc
    rw [hf] at HIC
    clear hc hf hcl HOLD
    go_enter Tryz.func11, Tryz.ntmps11
    go_upto_region 1 with (fail)
    rw [← hW]
    clear hW
    go_wp2_with (go_at_call 35; (with_reducible refine HIC.out.mono ?_); rintro e w1 ⟨rfl, rfl⟩)
    have bf := ((((((((((HB.out.put 0 (.int .i64 0)).put 1 (.int .i64 0)).put 2 (.int .i64 0)).put 3 (.int .i64 0)).put 4 (.int .i64 0)).put 5 (.int .i64 0)).put 6 (.int .i64 0)).put 7 (.int .i64 0)).put 8 (.int .i64 0)).put 9 (.int .i64 0))
    have q0 := bf.cell 0
    have q1 := bf.cell 1
    have q2 := bf.cell 2
    have q3 := bf.cell 3
    have q4 := bf.cell 4
    have q5 := bf.cell 5
    have q6 := bf.cell 6
    have q7 := bf.cell 7
    have q8 := bf.cell 8
    have q9 := bf.cell 9
    simp at q0 q1 q2 q3 q4 q5 q6 q7 q8 q9
    refine bodyPost_ret (v := .tuple #[.agg #[.int .i64 0, .int .i64 0, .int .i64 0, .int .i64 0, .int .i64 0, .int .i64 0, .int .i64 0, .int .i64 0, .int .i64 0, .int .i64 0], .int .i64 7]) (by simp [results, Tryz.results11, go_sem, q0, q1, q2, q3, q4, q5, q6, q7, q8, q9]) rfl ⟨rfl, (only_putc (only_putc (only_putc (only_putc (only_putc (only_putc (only_putc (only_putc (only_putc (only_putc HG.out (p := ⟨w.heap.size, 0, none⟩) (Nat.le_refl _) _) (p := ⟨w.heap.size, 1, none⟩) (Nat.le_refl _) _) (p := ⟨w.heap.size, 2, none⟩) (Nat.le_refl _) _) (p := ⟨w.heap.size, 3, none⟩) (Nat.le_refl _) _) (p := ⟨w.heap.size, 4, none⟩) (Nat.le_refl _) _) (p := ⟨w.heap.size, 5, none⟩) (Nat.le_refl _) _) (p := ⟨w.heap.size, 6, none⟩) (Nat.le_refl _) _) (p := ⟨w.heap.size, 7, none⟩) (Nat.le_refl _) _) (p := ⟨w.heap.size, 8, none⟩) (Nat.le_refl _) _) (p := ⟨w.heap.size, 9, none⟩) (Nat.le_refl _) _)⟩
  case pos =>
    rw [if_pos hc]
    rw [hc] at HIC
    have hon : 1 ≤ o ∧ o ≤ P.cn := by unfold isC at hc; simpa using hc
    obtain ⟨i, rfl⟩ : ∃ i : Nat, o = (i : Int) + 1 := ⟨(o - 1).toNat, by omega⟩
    have hin : i < P.cn := by omega
    have e1 : ((i : Int) + 1 - 1).toNat = i := by omega
    rw [e1]
    clear e1 hc hon
    have u1 : IntKind.i64.wrap ((i : Int) + 1 - 1) = i := by rw [IntKind.wrap_i64]; omega
    have i1 : (i : Int) < (P.cn : Int) := by omega
    have i2 : (0 : Int) ≤ (i : Int) := by omega
    obtain ⟨bs, off, hA, hbs, hcs⟩ := hcl.2 (by omega)
    obtain ⟨bs', off', hA', hbs', _⟩ := HOLD.out (by omega)
    rw [hA] at hA' c2
    injection hA' with hA'
    injection hA' with hA1 hA2
    have hne : ¬ bs = w.heap.size := by omega
    have hne' : ¬ w.heap.size = bs := by omega
    have hne2 : ¬ b = w.heap.size := by omega
    obtain ⟨s0, s1, s2, s3, s4, s5, s6, s7, s8, s9⟩ := hcs i hin
    clear hcs hcl HOLD hA hA1 hA2 hbs'
    generalize P.cd i = x at *
    go_enter Tryz.func11, Tryz.ntmps11
    go_upto_region 1 with (fail)
    rw [← hW]
    clear hW
    go_wp2_with (go_at_call 35; (with_reducible refine HIC.out.mono ?_); rintro e w1 ⟨rfl, rfl⟩)
    have bf := ((((((((((HB.out.put 0 (.int .i64 x.base)).put 1 (.int .i64 x.size)).put 2 (.int .i64 x.ring)).put 3 (.int .i64 x.at')).put 4 (.int .i64 x.quota)).put 5 (.int .i64 x.queue)).put 6 (.int .i64 x.mac)).put 7 (.int .i64 x.chan)).put 8 (.int .i64 x.first)).put 9 (.int .i64 x.secs))
    have q0 := bf.cell 0
    have q1 := bf.cell 1
    have q2 := bf.cell 2
    have q3 := bf.cell 3
    have q4 := bf.cell 4
    have q5 := bf.cell 5
    have q6 := bf.cell 6
    have q7 := bf.cell 7
    have q8 := bf.cell 8
    have q9 := bf.cell 9
    simp at q0 q1 q2 q3 q4 q5 q6 q7 q8 q9
    refine bodyPost_ret (v := .tuple #[.agg #[.int .i64 x.base, .int .i64 x.size, .int .i64 x.ring, .int .i64 x.at', .int .i64 x.quota, .int .i64 x.queue, .int .i64 x.mac, .int .i64 x.chan, .int .i64 x.first, .int .i64 x.secs], .int .i64 0]) (by simp [results, Tryz.results11, go_sem, q0, q1, q2, q3, q4, q5, q6, q7, q8, q9]) rfl ⟨rfl, (only_putc (only_putc (only_putc (only_putc (only_putc (only_putc (only_putc (only_putc (only_putc (only_putc HG.out (p := ⟨w.heap.size, 0, none⟩) (Nat.le_refl _) _) (p := ⟨w.heap.size, 1, none⟩) (Nat.le_refl _) _) (p := ⟨w.heap.size, 2, none⟩) (Nat.le_refl _) _) (p := ⟨w.heap.size, 3, none⟩) (Nat.le_refl _) _) (p := ⟨w.heap.size, 4, none⟩) (Nat.le_refl _) _) (p := ⟨w.heap.size, 5, none⟩) (Nat.le_refl _) _) (p := ⟨w.heap.size, 6, none⟩) (Nat.le_refl _) _) (p := ⟨w.heap.size, 7, none⟩) (Nat.le_refl _) _) (p := ⟨w.heap.size, 8, none⟩) (Nat.le_refl _) _) (p := ⟨w.heap.size, 9, none⟩) (Nat.le_refl _) _)⟩
end Go.Proofs.YtfhhcpmoaggdmaaGreat

/- The document's word on plans: what is due, by its contract. -/
namespace Go.Proofs.YtfhhcpmoaggdmaaGreat
open Go.RowKit Go.Lib Go.Sort
set_option linter.unusedVariables false

/-- What is due at a tick, as1 the tables say. -/
def rdV (c : Cf) (t : Int) : Int × Int := if t < 0 then (0, 0) else dutyV c.cn (t % c.fr - ioC c)
set_option maxRecDepth 20000 in
set_option maxHeartbeats 1600000 in
theorem rduty_any (c : Cf) (t : Int) (w : World) (h : CfV w c) (hn : c.wn ≤ 9223372036854775807) (hcn : c.cn ≤ 900) (hr : rightB c.fr = true) (ht : t ≤ 9223372036854775807) (ha : 0 ≤ ioC c ∧ ioC c ≤ 4096) :
    Calls Tryz.prog 19 #[cfv c, .int .i64 t] w fun e w' => e = .returned (.tuple #[.int .i64 (rdV c t).1, .int .i64 (rdV c t).2]) ∧ w.grownBy w' none := by
  obtain ⟨f1, f2⟩ := (rightB_iff c.fr).1 hr
  obtain ⟨W1, hW, g1, hC⟩ := box1 w 26 (cfA c)
  have HG0 := Lib.hid g1
  have HC := Lib.hid (show BoxC W1 w.heap.size c from hC)
  by_cases h0 : t < 0
  · have hv : rdV c t = (0, 0) := by unfold rdV; rw [if_pos h0]
    rw [hv]
    have t0 : ¬ 0 ≤ t := by omega
    obtain ⟨c0, c1, c2, c3⟩ := cf_cells HC.out
    by_cases hz : c.cn = 0
    · rw [hz] at c3
      clear h g1 hC hr hv
      go_enter Tryz.func19, Tryz.ntmps19
      go_upto_region 1 with (fail)
      rw [← hW]
      clear hW
      go_wp2
      go_loopw [6] (fun y wr => y = .int .i64 1 ∧ Hid (W1 = wr)) (fun y _ => 0)
      case atStart => exact ⟨rfl, Lib.hid rfl⟩
      case round =>
        obtain ⟨rfl, HW⟩ := hrel
        obtain rfl := HW.out
        go_wp2
        go_ret2
        exact ⟨rfl, HG0.out⟩
    · have hz2 : (1 : Int) ≤ (c.cn : Int) := by omega
      clear h g1 hC hr hv
      go_enter Tryz.func19, Tryz.ntmps19
      go_upto_region 1 with (fail)
      rw [← hW]
      clear hW
      go_wp2
      go_loopw [6] (fun y wr => y = .int .i64 1 ∧ Hid (W1 = wr)) (fun y _ => 0)
      case atStart => exact ⟨rfl, Lib.hid rfl⟩
      case round =>
        obtain ⟨rfl, HW⟩ := hrel
        obtain rfl := HW.out
        go_wp2
        go_ret2
        exact ⟨rfl, HG0.out⟩
  have t0 : 0 ≤ t := by omega
  have hv : rdV c t = dutyV c.cn (t % c.fr - ioC c) := by unfold rdV; rw [if_neg h0]
  rw [hv]
  have HO := Lib.hid (fun W => (show Calls Tryz.prog 39 #[.int .i64 t, .int .i64 c.fr] W (fun e w' => e = .returned (.int .i64 (t % c.fr)) ∧ W.grownBy w' none) from (roff_any t c.fr W (by omega) f1 ht).mono fun e w' ⟨h1, h2⟩ => ⟨h1, by subst h2; exact only_refl _ _⟩))
  have HWH := Lib.hid (fun (W : World) (q : W1.grownBy W none) (k o v : Int) (hk : 1 ≤ k ∧ k ≤ 2) (ho : 1 ≤ o ∧ o ≤ 1000) (e : ioC c + 2 * o - 3 + k = v) => (show Calls Tryz.prog 13 #[cfv c, .int .i64 k, .int .i64 o] W (fun e w' => e = .returned (.int .i64 v) ∧ W.grownBy w' none) from by
    rw [← e]
    exact rwhen_any c k o W ((h.grown g1).grown q) hn ha hk ho))
  have HDV := Lib.hid (fun q m : Nat => (show m < 2 → q < c.cn → t % c.fr - ioC c = 2 * (q : Int) + m → dutyV c.cn (t % c.fr - ioC c) = ((m : Int) + 1, (q : Int) + 1) from fun hm hq e => by
    rw [e]
    unfold dutyV
    rw [if_neg (by omega)]
    congr 1 <;> omega))
  have HD0 := Lib.hid (show ¬ (0 ≤ t % c.fr - ioC c ∧ t % c.fr - ioC c < 2 * (c.cn : Int)) → dutyV c.cn (t % c.fr - ioC c) = (0, 0) from fun e => by
    unfold dutyV
    rw [if_pos (by omega)])
  clear h g1 hC hr hv ha hn
  generalize t % c.fr = x at *
  generalize ioC c = a at *
  generalize dutyV c.cn (x - a) = r at *
  go_enter Tryz.func19, Tryz.ntmps19
  go_upto_region 1 with (fail)
  rw [← hW]
  clear hW
  go_wp2
  go_loopw [6] (fun y wr => ∃ (q : Nat), y = .int .i64 ((q : Int) + 1) ∧ q ≤ c.cn ∧ Hid (¬ (0 ≤ x - a ∧ x - a < 2 * (q : Int))) ∧ Hid (W1.grownBy wr none)) (fun y _ => c.cn + 1 - (intOf y).toNat)
  case atStart => exact ⟨0, rfl, by omega, Lib.hid (by omega), Lib.hid (only_refl _ _)⟩
  case round =>
    obtain ⟨q, rfl, hq, HN, HG⟩ := hrel
    obtain ⟨c0, c1, c2, c3⟩ := cf_cells (HC.out.only HG.out (by simp))
    have u1 : IntKind.i64.wrap ((q : Int) + 1 + 1) = (q : Int) + 1 + 1 := by rw [IntKind.wrap_i64]; omega
    by_cases hqn : q < c.cn
    · have i1 : (q : Int) + 1 ≤ (c.cn : Int) := by omega
      clear c0 c1 c2
      go_upto_region 5 with (fail)
      go_loopw [7] (fun y wq => ∃ (m : Nat), y = .int .i64 ((m : Int) + 1) ∧ m ≤ 2 ∧ Hid (¬ (0 ≤ x - a ∧ x - a < 2 * (q : Int) + m)) ∧ Hid (W1.grownBy wq none)) (fun y _ => 3 - (intOf y).toNat)
      case atStart => exact ⟨0, rfl, by omega, Lib.hid (by have := HN.out; omega), HG⟩
      case round =>
        obtain ⟨m, rfl, hm, HM, HGM⟩ := hrel
        have u2 : IntKind.i64.wrap ((m : Int) + 1 + 1) = (m : Int) + 1 + 1 := by rw [IntKind.wrap_i64]; omega
        by_cases hm2 : m < 2
        · have i2 : (m : Int) + 1 ≤ 2 := by omega
          obtain ⟨v, hv⟩ : ∃ v, a + 2 * ((q : Int) + 1) - 3 + ((m : Int) + 1) = v := ⟨_, rfl⟩
          obtain ⟨k0, k1, k2, k3⟩ := cf_cells (HC.out.only HGM.out (by simp))
          have e0 := fun dd os => cell_regrown k0 dd os
          have e1 := fun dd os => cell_regrown k1 dd os
          have e2 := fun dd os => cell_regrown k2 dd os
          have e3 := fun dd os => cell_regrown k3 dd os
          have HWQ := Lib.hid (fun dd os => HWH.out (grow (redrawn wr dd) os) (only_trans HGM.out (only_re wr dd os)) ((m : Int) + 1) ((q : Int) + 1) v ⟨by omega, by omega⟩ ⟨by omega, by omega⟩ hv)
          have HE := Lib.hid (show v = x → x - a = 2 * (q : Int) + m from fun e => by omega)
          have HNE := Lib.hid (show ¬ v = x → ¬ (0 ≤ x - a ∧ x - a < 2 * (q : Int) + ((m + 1 : Nat) : Int)) from fun e => by have := HM.out; omega)
          clear hv k0 k1 k2 k3
          go_upto_region 7 with (fail)
          refine wp_region_quiet_below (by kernel_rfl) (by kernel_rfl) ?_
          repeat (go_big_quiet_step ((first | (go_at_call 13; with_reducible exact rg1 (HWQ.out _ _)) | (go_at_call 39; with_reducible exact rg1 (HO.out _)))))
          refine wpQuiet_nil ?_
          intro w5 hw5
          obtain ⟨p, rfl⟩ := hw5
          have G5 := Lib.hid (only_trans HGM.out (only_re wr p.d p.os))
          clear e0 e1 e2 e3 HWQ
          generalize grow (redrawn wr p.d) p.os = w5 at G5 ⊢
          by_cases he : v = x
          · have HF := Lib.hid (HDV.out q m hm2 hqn (HE.out he))
            subst he
            go_wp2
            go_ret2
            exact ⟨by (try rw [HF.out]); first | rfl | simp, only_trans HG0.out G5.out⟩
          · have hb : (v == x) = false := by simpa using he
            have HF := Lib.hid (HNE.out he)
            go_wp2
            go_roundw
            case rel => exact ⟨m + 1, by go_num, by omega, HF, G5⟩
            case measure => simp [intOf] <;> omega
        · obtain rfl : m = 2 := by omega
          go_wp2
          go_roundw
          case rel => exact ⟨q + 1, by go_num, by omega, Lib.hid (by have := HM.out; omega), HGM⟩
          case measure => simp [intOf] <;> omega
    · obtain rfl : q = c.cn := by omega
      have i1 : ¬ (c.cn : Int) + 1 ≤ (c.cn : Int) := by omega
      have HF := Lib.hid (HD0.out HN.out)
      go_wp2
      go_ret2
      exact ⟨by (try rw [HF.out]); first | rfl | simp, only_trans HG0.out HG.out⟩
end Go.Proofs.YtfhhcpmoaggdmaaGreat

/- The functions that Faults hands in, by their contracts: owners, units. -/
namespace Go.Proofs.YtfhhcpmoaggdmaaGreat
open Go.RowKit Go.Lib Go.Sort
set_option linter.unusedVariables false

theorem f6_any (c : Cf) (g : Nat) (w : World) (hc : CfV w c) (hf : FitCf c) (hg : BoxC w g c) (o : Int) : Calls Tryz.prog 76 #[.int .i64 o, .pointer (some ⟨g, 0, none⟩)] w fun e w' => e = .returned (.bool (decide (fwI c o < 0))) ∧ w.grownBy w' none := by
  have HQ := Lib.hid (show Calls Tryz.prog 77 #[.agg #[.int .i64 c.fr, .slice c.wA c.wn c.wc, .slice c.sA c.sn c.sc, .slice c.cA c.cn c.cc], .int .i64 o] w (fun e w' => e = .returned (.bool (decide (fwI c o < 0))) ∧ w.grownBy w' none) from now_any c o w hc hf)
  obtain ⟨k0, k1, k2, k3⟩ := cf_cells hg
  generalize decide (fwI c o < 0) = z at HQ ⊢
  clear hc hf hg
  go_enter Tryz.func76, Tryz.ntmps76
  go_wp2_with (go_at_call 77; (with_reducible refine HQ.out.mono ?_); rintro e w2 ⟨rfl, g2⟩; have G2 := Lib.hid g2; clear g2)
  go_ret
  exact ⟨rfl, G2.out⟩
theorem f7_any (c : Cf) (g : Nat) (w : World) (hc : CfV w c) (hf : FitCf c) (hg : BoxC w g c) (o : Int) (hn : c.cn ≤ 1000) : Calls Tryz.prog 78 #[.int .i64 o, .pointer (some ⟨g, 0, none⟩)] w fun e w' => e = .returned (.bool (shwB c)) ∧ w.grownBy w' none := by
  have HQ := Lib.hid (show Calls Tryz.prog 79 #[.agg #[.int .i64 c.fr, .slice c.wA c.wn c.wc, .slice c.sA c.sn c.sc, .slice c.cA c.cn c.cc]] w (fun e w' => e = .returned (.bool (shwB c)) ∧ w.grownBy w' none) from shw_any c w hc hf hn)
  obtain ⟨k0, k1, k2, k3⟩ := cf_cells hg
  generalize shwB c = z at HQ ⊢
  clear hc hf hg hn
  go_enter Tryz.func78, Tryz.ntmps78
  go_wp2_with (go_at_call 79; (with_reducible refine HQ.out.mono ?_); rintro e w2 ⟨rfl, g2⟩; have G2 := Lib.hid g2; clear g2)
  go_ret
  exact ⟨rfl, G2.out⟩
set_option maxRecDepth 20000 in
set_option maxHeartbeats 1600000 in
theorem f10_any (c : Cf) (g : Nat) (w : World) (hc : CfV w c) (hf : FitCf c) (hg : BoxC w g c) (i : Nat) (r : Int) (hr : r = i + 1) (hi : i < c.cn) (h32 : i ≤ 1000) : Calls Tryz.prog 84 #[.int .i64 r, .pointer (some ⟨g, 0, none⟩)] w fun e w' => e = .returned (.bool (decide (unitsV c r < (c.cd i).quota))) ∧ w.grownBy w' none := by
  have hw : IntKind.i64.wrap (r - 1) = (i : Int) := by rw [IntKind.wrap_i64]; omega
  have HQ := Lib.hid (fun (W : World) (hW : w.grownBy W none) => (show Calls Tryz.prog 85 #[.agg #[.int .i64 c.fr, .slice c.wA c.wn c.wc, .slice c.sA c.sn c.sc, .slice c.cA c.cn c.cc], .int .i64 r] W (fun e w' => e = .returned (.int .i64 (unitsV c r)) ∧ W.grownBy w' none) from units_any c r W (hc.grown hW) hf))
  obtain ⟨k0, k1, k2, k3⟩ := cf_cells hg
  obtain ⟨b, off, hA, hb, hcl⟩ := hc.2.2.2 (by omega)
  have c4 := (hcl i hi).2.2.2.2.1
  generalize unitsV c r = z at HQ ⊢
  obtain ⟨fr, wA, wn, wc, wd, sA, sn, sc, sd, cA, cn, cc, cd⟩ := c
  simp only at hA c4 hi k0 k1 k2 k3 HQ ⊢
  subst hA
  have i1 : (i : Int) < (cn : Int) := by omega
  have i0 : (0 : Int) ≤ (i : Int) := by omega
  clear hcl hc hf hg hr h32
  generalize (cd i).quota = q at c4 ⊢
  have j0 := fun dd os => cell_regrown k0 dd os
  have j1 := fun dd os => cell_regrown k1 dd os
  have j2 := fun dd os => cell_regrown k2 dd os
  have j3 := fun dd os => cell_regrown k3 dd os
  have m4 := fun dd os => cell_regrown c4 dd os
  clear k0 k1 k2 k3 c4
  go_enter Tryz.func84, Tryz.ntmps84
  go_upto_region 1 with (fail)
  refine wp_region_quiet_below (by kernel_rfl) (by kernel_rfl) ?_
  repeat (go_big_quiet_step ((first | (go_at_call 85; go_loud (with_reducible exact rg1 (HQ.out _ (only_re w _ _)))))))
  refine wpQuiet_nil ?_
  intro w3 hw3
  obtain ⟨p, rfl⟩ := hw3
  have G3 := Lib.hid (only_re w p.d p.os)
  clear j0 j1 j2 j3 m4
  generalize grow (redrawn w p.d) p.os = w3 at G3 ⊢
  go_wp2
  go_ret
  exact ⟨rfl, G3.out⟩
end Go.Proofs.YtfhhcpmoaggdmaaGreat
