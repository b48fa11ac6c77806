import Derived.Test.YthhodadfiipffaaDoorZ44
set_option linter.all false
/- PartForks walked. -/
namespace Go.Proofs.YthhodadfiipffaaDoor
open Go.RowKit Go.Lib Go.Sort
set_option linter.unusedVariables false
set_option maxRecDepth 20000
attribute [-go_sem] Go.run_eql_struct

theorem Pt.mnew30 (w : World) : Calls Tryd.prog 9 #[.int .i64 300] w fun r w' => ∃ m g, r = .returned (.pointer (some ⟨m, 0, none⟩)) ∧ MemG w' w.heap.size m g (Cu.z 300) ∧ w.grownBy w' none := Pt.mnew 300 (by omega) w
theorem Pt.newF (W : World) (B m g : Nat) (vl zq : Nat) (hv : vl = 220 ∧ zq = 30) (s : ByteArray) (hs : s.size ≤ 200) (hm : MemG W B m g (Cu.z 300)) : Calls Tryd.prog 8 #[.int .i64 1, .agg #[.pointer (some ⟨m, 0, none⟩), .int .i64 50, .int .i64 220], .string s] W fun e w' => ∃ b, e = .returned (.tuple #[.pointer (some ⟨b, 0, none⟩), .int .i64 0]) ∧ Pt.Q w' B b m g (Cu.z 50) (Pt.s0 s vl).v (Cu.z zq) 1 (Pt.s0 s vl).pc (Pt.s0 s vl).r (Pt.s0 s vl).md ∧ W.grownBy w' (some g) ∧ W.heap.size ≤ b := by
  have e : Cu.z 300 = Cu.z 50 ++ Cu.z vl ++ Cu.z zq := by
    unfold Cu.z
    rw [List.replicate_append_replicate, List.replicate_append_replicate, show 50 + vl + zq = 300 by omega]
  rw [e] at hm
  have h := Pt.new_ok W B m g (Cu.z 50) (Cu.z vl) (Cu.z zq) hm (by rw [Pt.len3, Cu.z_len, Cu.z_len, Cu.z_len]; omega) 1 (by omega) s (by rw [Cu.z_len]; omega)
  have e2 : ((Cu.z vl).length : Int) = 220 := by rw [Cu.z_len]; omega
  have e1 : ((Cu.z 50).length : Int) = 50 := by rw [Cu.z_len]; rfl
  rw [e1, e2] at h
  exact h
theorem Pt.rnewF (W : World) (vl : Nat) (hv : vl = 220) (s : ByteArray) (hs : s.size ≤ 200) : Calls Tryd.prog 10 #[.int .i64 220, .string s] W fun e w' => ∃ A c, e = .returned (.agg #[.slice A vl c, .int .i64 0, .int .i64 0, .int .i64 0, .int .i64 0, .int .i64 0, .int .i64 0, .int .i64 0, .int .i64 0, .int .i64 0, .int .i64 0]) ∧ Ints w' A c (num (Pt.v0 s vl)) ∧ W.grownBy w' none ∧ ∀ i, i < W.heap.size → OffI (Pt.v0 s vl) A i := by
  have h := Pt.rnew27_any W vl s (by omega) (by omega)
  have e2 : (vl : Int) = 220 := by omega
  rw [e2] at h
  exact h
theorem Pt.Pl.fork {w wF w1 w2 : World} {bp mp gp b9 vl c m2 g2 : Nat} {p q : List UInt8} {A : Option Addr} {s : Pt.Sm} (h : Pt.Pl w wF bp mp gp b9 p q A vl c s) (hm : MemG w1 wF.heap.size m2 g2 (p ++ s.v ++ q)) (h1 : wF.grownBy w1 none) (hb : Blk w2 w1.heap.size 76 (Pt.cs m2 p.length s.v.length 1 s.pc s.r s.md)) (h2 : w1.grownBy w2 none) : ∀ W, W = w2.alloc (.cells #[.slice A vl c, .int .i64 s.pc, .int .i64 (s.r 0), .int .i64 (s.r 1), .int .i64 (s.r 2), .int .i64 (s.r 3), .int .i64 (s.r 4), .int .i64 (s.r 5), .int .i64 (s.r 6), .int .i64 (s.r 7), .int .i64 s.md] 37) → Pt.Pl wF W w1.heap.size m2 g2 w2.heap.size p q A vl c s := by
  rintro W rfl
  have g4 : w2.grownBy (w2.alloc (.cells #[.slice A vl c, .int .i64 s.pc, .int .i64 (s.r 0), .int .i64 (s.r 1), .int .i64 (s.r 2), .int .i64 (s.r 3), .int .i64 (s.r 4), .int .i64 (s.r 5), .int .i64 (s.r 6), .int .i64 (s.r 7), .int .i64 s.md] 37)) none := only_alloc (only_refl _ none) _
  have l := hm.lt
  have l2 := hb.lt
  have z1 := h1.size
  have z2 := h2.size
  have gg := only_trans (only_trans h1 h2) g4
  exact ⟨⟨⟨hb.only g4 (by simp), (hm.grown h2).grown g4, by omega, h.b.a.pcb, h.b.a.lim⟩, Cu.ints_gr h.b.i gg, h.b.ln, h.b.l1, Cu.offi_new h.b.i z1, Cu.offi_new h.b.i hm.1⟩, Blk.new _ _ _, gg, by omega, Cu.offi_new h.b.i (by omega), by omega, by omega⟩
set_option maxHeartbeats 12800000 in
theorem Pt.forks_ok (s : ByteArray) (A1 A2 : Option Addr) (k1 cc1 k2 cc2 : Nat) (d1 d2 : Nat → Pt.Dd) (w : World) (hN : Nm w) (hd1 : Pt.DdP w A1 k1 d1) (hd2 : Pt.DdP w A2 k2 d2) (hk1 : k1 ≤ cc1) (hk2 : k2 ≤ cc2) (h1 : s.size ≤ 200) (vl zq : Nat) (hvl : vl = 220 ∧ zq = 30) : Calls Tryd.prog 6 #[.string s, .slice A1 k1 cc1, .slice A2 k2 cc2] w fun e w' => e = .returned (.bool true) ∧ Below w.heap.size w w' := by
  have HD1 := Lib.hid hd1
  have HD2 := Lib.hid hd2
  have HNw := Lib.hid hN
  have HKC := Lib.hid (And.intro hk1 hk2)
  have H1 := Lib.hid h1
  have HN1 := Lib.hid (Pt.mnew30 w)
  have HNB := Lib.hid (fun W m g (h : MemG W w.heap.size m g (Cu.z 300)) => Pt.newF W w.heap.size m g vl zq hvl s h1 h)
  have HRN := Lib.hid (fun W => Pt.rnewF W vl hvl.1 s h1)
  have j1 : ¬ 200 < (s.size : Int) := by omega
  have HVL := Lib.hid hvl
  clear hd1 hd2 hN hk1 hk2 h1 hvl
  go_enter Tryd.func6, Tryd.ntmps6
  go_upto_region 5 with (first
    | (go_at_call 9; (with_reducible refine HN1.out.mono ?_); rintro e w1 ⟨mp, gp, rfl, hm, g1⟩; have HM := Lib.hid hm; have G1 := Lib.hid g1; clear hm g1)
    | (go_at_call 8; (with_reducible refine (HNB.out _ _ _ HM.out).mono ?_); rintro e w2 ⟨bp, rfl, hq, k2', hb⟩; have HQ := Lib.hid hq; have G2 := Lib.hid (Cu.grow_none G1.out k2' HM.out.1); have HBP := Lib.hid (Nat.le_trans G1.out.size hb); clear hq k2' hb))
  clear j1 HN1 HNB
  go_upto_region 8 with (go_at_call 10; (with_reducible refine (HRN.out _).mono ?_); rintro e w3 ⟨A3, c3, rfl, ha3, g3, ho3⟩; have HA3 := Lib.hid ha3; have G3 := Lib.hid g3; have HO3 := Lib.hid ho3; clear ha3 g3 ho3)
  clear HRN
  obtain ⟨W4, hW4⟩ : ∃ W4, W4 = w3.alloc (.cells #[.slice A3 vl c3, .int .i64 0, .int .i64 0, .int .i64 0, .int .i64 0, .int .i64 0, .int .i64 0, .int .i64 0, .int .i64 0, .int .i64 0, .int .i64 0] 37) := ⟨_, rfl⟩
  have P0 := Lib.hid (Pt.Pl.start G2.out HQ.out HBP.out HA3.out G3.out HO3.out (by have := H1.out; have := HVL.out; omega) (by have := HVL.out; omega) W4 hW4)
  rw [← hW4]
  obtain ⟨b9, hb9⟩ : ∃ b9, b9 = w3.heap.size := ⟨_, rfl⟩
  rw [← hb9] at P0 ⊢
  clear hb9 hW4 HM G1 HQ G2 HBP HA3 G3 HO3
  have HP50 := Lib.hid (Cu.z_len 50)
  generalize Cu.z 50 = p at *
  generalize Cu.z zq = q at *
  go_wp2
  go_loopw [11] (fun t wr => ∃ (j c : Nat) (A : Option Addr) (x : Pt.Sm), t = .int .i64 j ∧ j ≤ 40 ∧ Hid (j ≤ k1) ∧ Hid (Pt.Pl w wr bp mp gp b9 p q A vl c x)) (fun t _ => 40 - (Go.RowKit.intOf t).toNat)
  case atStart => exact ⟨0, c3, A3, _, rfl, by omega, Lib.hid (Nat.zero_le _), P0⟩
  case round =>
    obtain ⟨j, c8, A8, s8, rfl, hj6, HB, HSX⟩ := hrel
    clear P0
    by_cases hin : j < k1 ∧ j < 40
    case pos =>
      obtain ⟨h1, h2⟩ := hin
      obtain ⟨gd, off, rfl, hg, hcs⟩ := HD1.out (by omega)
      have hcj := hcs j h1
      obtain ⟨y, hy⟩ : ∃ y, d1 j = y := ⟨_, rfl⟩
      rw [hy] at hcj
      have HCS := Lib.hid (fun W (g' : w.grownBy W none) => show (W.cell? ⟨gd, off + j * 6, none⟩ = some (.bool y.o)) ∧ (W.cell? ⟨gd, off + j * 6 + 1, none⟩ = some (.int .i64 y.x.t)) ∧ (W.cell? ⟨gd, off + j * 6 + 2, none⟩ = some (.int .i64 y.x.f)) ∧ (W.cell? ⟨gd, off + j * 6 + 3, none⟩ = some (.int .i64 y.x.d)) ∧ (W.cell? ⟨gd, off + j * 6 + 4, none⟩ = some (.int .i64 y.x.p)) ∧ (W.cell? ⟨gd, off + j * 6 + 5, none⟩ = some (.int .i64 y.x.b)) from hcj.below hg (Pt.bel g'))
      have HJ := Lib.hid (show j + 1 ≤ k1 ∧ j + 1 ≤ 40 from ⟨h1, h2⟩)
      have i1 : (j : Int) < (k1 : Int) := by omega
      have i2 : (j : Int) < 40 := by omega
      have i3 : (0 : Int) ≤ (j : Int) := by omega
      have u1 : IntKind.i64.wrap ((j : Int) + 1) = ((j + 1 : Nat) : Int) := by rw [IntKind.wrap_i64]; omega
      clear hcj hcs hg hy
      go_upto_region 11 with (fail)
      have gdr : wr.grownBy wr.drew none := only_drewN (only_refl _ none) 1
      have HSD := Lib.hid (HSX.out.grown gdr)
      have SC : (wr.drew.cell? ⟨gd, off + j * 6, none⟩ = some (.bool y.o)) ∧ (wr.drew.cell? ⟨gd, off + j * 6 + 1, none⟩ = some (.int .i64 y.x.t)) ∧ (wr.drew.cell? ⟨gd, off + j * 6 + 2, none⟩ = some (.int .i64 y.x.f)) ∧ (wr.drew.cell? ⟨gd, off + j * 6 + 3, none⟩ = some (.int .i64 y.x.d)) ∧ (wr.drew.cell? ⟨gd, off + j * 6 + 4, none⟩ = some (.int .i64 y.x.p)) ∧ (wr.drew.cell? ⟨gd, off + j * 6 + 5, none⟩ = some (.int .i64 y.x.b)) := HCS.out _ HSD.out.gr
      refine wp_region_held_drew (S := fun w' => (w'.cell? ⟨gd, off + j * 6, none⟩ = some (.bool y.o)) ∧ (w'.cell? ⟨gd, off + j * 6 + 1, none⟩ = some (.int .i64 y.x.t)) ∧ (w'.cell? ⟨gd, off + j * 6 + 2, none⟩ = some (.int .i64 y.x.f)) ∧ (w'.cell? ⟨gd, off + j * 6 + 3, none⟩ = some (.int .i64 y.x.d)) ∧ (w'.cell? ⟨gd, off + j * 6 + 4, none⟩ = some (.int .i64 y.x.p)) ∧ (w'.cell? ⟨gd, off + j * 6 + 5, none⟩ = some (.int .i64 y.x.b))) (by kernel_rfl) SC (fun hHeld => ?_)
      clear gdr
      generalize wr.drew = wd at *
      refine wpAnyH_take (i := 0) (oi := _) (v := ?_) rfl (by kernel_rfl) (by kernel_rfl) (by kernel_rfl) (fun _ _ _ h => h) (Or.inl ⟨by rfl, ?_⟩) (by assumption) ?_
      case refine_2 => intro w hSw; (try dsimp only at hSw); go_simp; (try rw [if_pos h1]); try with_reducible rfl
      try simp only [Act.put, List.setIfInBounds_toArray, List.set_cons_zero, List.set_cons_succ]
      refine wpAnyH_take (i := 2) (oi := _) (v := ?_) rfl (by kernel_rfl) (by kernel_rfl) (by kernel_rfl) (fun _ _ _ h => h) (Or.inl ⟨by rfl, ?_⟩) (by assumption) ?_
      case refine_2 => intro w hSw; (try dsimp only at hSw); go_simp; (try rw [if_pos h1]); try with_reducible rfl
      try simp only [Act.put, List.setIfInBounds_toArray, List.set_cons_zero, List.set_cons_succ]
      refine wpAnyH_take (i := 3) (oi := _) (v := ?_) rfl (by kernel_rfl) (by kernel_rfl) (by kernel_rfl) (fun _ _ _ h => h) (Or.inl ⟨by rfl, ?_⟩) (by assumption) ?_
      case refine_2 => intro w hSw; (try dsimp only at hSw); go_simp; (try rw [if_pos h1]); try with_reducible rfl
      try simp only [Act.put, List.setIfInBounds_toArray, List.set_cons_zero, List.set_cons_succ]
      refine wpAnyH_take (i := 4) (oi := _) (v := ?_) rfl (by kernel_rfl) (by kernel_rfl) (by kernel_rfl) (fun _ _ _ h => h) (Or.inl ⟨by rfl, ?_⟩) (by assumption) ?_
      case refine_2 => intro w hSw; (try dsimp only at hSw); go_simp; (try rw [if_pos h1]); try with_reducible rfl
      try simp only [Act.put, List.setIfInBounds_toArray, List.set_cons_zero, List.set_cons_succ]
      refine wpAnyH_take (i := 5) (oi := _) (v := ?_) rfl (by kernel_rfl) (by kernel_rfl) (by kernel_rfl) (fun _ _ _ h => h) (Or.inl ⟨by rfl, ?_⟩) (by assumption) ?_
      case refine_2 => intro w hSw; (try dsimp only at hSw); go_simp; (try rw [if_pos h1]); try with_reducible rfl
      try simp only [Act.put, List.setIfInBounds_toArray, List.set_cons_zero, List.set_cons_succ]
      obtain ⟨p0, p1, p2, p3, p4, p5, p6, p7, p8, p9, p10⟩ := Pt.cells11 HSD.out.k
      refine wpAnyH_ready (rs := [1]) (by kernel_rfl) (by simp) ?_
      refine AllReadyH.cons (o := _) rfl (fun K hK => ?_) AllReadyH.nil
      go_simp
      refine hK.out _ _ (hHeld) (fun hHeld => ?_)
      clear hK K
      try simp only [Act.put, List.setIfInBounds_toArray, List.set_cons_zero, List.set_cons_succ]
      refine wpAnyH_ready (rs := [6]) (by kernel_rfl) (by simp) ?_
      refine AllReadyH.cons (o := _) rfl (fun K hK => ?_) AllReadyH.nil
      go_simp
      go_at_call 11
      (with_reducible refine (HSD.out.step HNw.out y).mono ?_)
      rintro e w2 ⟨A', c', s', hs', rfl, hb2, hg2, hk2, hnext⟩
      have HB2 := Lib.hid hb2
      have HG2 := Lib.hid hg2
      have HK2 := Lib.hid hk2
      have HNEXT := Lib.hid hnext
      have HS7 := Lib.hid hs'
      clear hs' hb2 hg2 hk2 hnext p0 p1 p2 p3 p4 p5 p6 p7 p8 p9 p10
      have S2 : (w2.cell? ⟨gd, off + j * 6, none⟩ = some (.bool y.o)) ∧ (w2.cell? ⟨gd, off + j * 6 + 1, none⟩ = some (.int .i64 y.x.t)) ∧ (w2.cell? ⟨gd, off + j * 6 + 2, none⟩ = some (.int .i64 y.x.f)) ∧ (w2.cell? ⟨gd, off + j * 6 + 3, none⟩ = some (.int .i64 y.x.d)) ∧ (w2.cell? ⟨gd, off + j * 6 + 4, none⟩ = some (.int .i64 y.x.p)) ∧ (w2.cell? ⟨gd, off + j * 6 + 5, none⟩ = some (.int .i64 y.x.b)) := HCS.out _ HG2.out
      refine hK.out _ _ (S2) (fun hHeld => ?_)
      clear hK K
      try simp only [Act.put, List.setIfInBounds_toArray, List.set_cons_zero, List.set_cons_succ]
      refine wpAnyH_take (i := 7) (oi := _) (v := ?_) rfl (by kernel_rfl) (by kernel_rfl) (by kernel_rfl) (fun _ _ _ h => h) (Or.inl ⟨by rfl, ?_⟩) (by assumption) ?_
      case refine_2 => intro w hSw; (try dsimp only at hSw); go_simp; try with_reducible rfl
      try simp only [Act.put, List.setIfInBounds_toArray, List.set_cons_zero, List.set_cons_succ]
      refine wpAnyH_take (i := 8) (oi := _) (v := ?_) rfl (by kernel_rfl) (by kernel_rfl) (by kernel_rfl) (fun _ _ _ h => h) (Or.inl ⟨by rfl, ?_⟩) (by assumption) ?_
      case refine_2 => intro w hSw; (try dsimp only at hSw); go_simp; try with_reducible rfl
      try simp only [Act.put, List.setIfInBounds_toArray, List.set_cons_zero, List.set_cons_succ]
      refine wpAnyH_take (i := 9) (oi := _) (v := ?_) rfl (by kernel_rfl) (by kernel_rfl) (by kernel_rfl) (fun _ _ _ h => h) (Or.inl ⟨by rfl, ?_⟩) (by assumption) ?_
      case refine_2 => intro w hSw; (try dsimp only at hSw); go_simp; try with_reducible rfl
      try simp only [Act.put, List.setIfInBounds_toArray, List.set_cons_zero, List.set_cons_succ]
      obtain ⟨x0, x1, x2, x3, x4, x5, x6, x7, x8, x9, x10⟩ := Pt.cells11 HB2.out
      obtain ⟨f0, f1, f2, f3, f4, f5, f6, f7, f8, f9, f10⟩ := Pt.free11 HB2.out
      obtain ⟨W9, hW9⟩ : ∃ W9, W9 = (((((((((((w2.setCell ⟨b9, 0, none⟩ (.slice A' vl c')).setCell ⟨b9, 1, none⟩ (.int .i64 s'.pc)).setCell ⟨b9, 2, none⟩ (.int .i64 (s'.r 0))).setCell ⟨b9, 3, none⟩ (.int .i64 (s'.r 1))).setCell ⟨b9, 4, none⟩ (.int .i64 (s'.r 2))).setCell ⟨b9, 5, none⟩ (.int .i64 (s'.r 3))).setCell ⟨b9, 6, none⟩ (.int .i64 (s'.r 4))).setCell ⟨b9, 7, none⟩ (.int .i64 (s'.r 5))).setCell ⟨b9, 8, none⟩ (.int .i64 (s'.r 6))).setCell ⟨b9, 9, none⟩ (.int .i64 (s'.r 7))).setCell ⟨b9, 10, none⟩ (.int .i64 s'.md)) := ⟨_, rfl⟩
      have HP := Lib.hid (HNEXT.out W9 hW9)
      have S9 : (W9.cell? ⟨gd, off + j * 6, none⟩ = some (.bool y.o)) ∧ (W9.cell? ⟨gd, off + j * 6 + 1, none⟩ = some (.int .i64 y.x.t)) ∧ (W9.cell? ⟨gd, off + j * 6 + 2, none⟩ = some (.int .i64 y.x.f)) ∧ (W9.cell? ⟨gd, off + j * 6 + 3, none⟩ = some (.int .i64 y.x.d)) ∧ (W9.cell? ⟨gd, off + j * 6 + 4, none⟩ = some (.int .i64 y.x.p)) ∧ (W9.cell? ⟨gd, off + j * 6 + 5, none⟩ = some (.int .i64 y.x.b)) := HCS.out _ HP.out.1.gr
      refine wpAnyH_ready (rs := [10]) (by kernel_rfl) (by simp) ?_
      refine AllReadyH.cons (o := _) rfl (fun K hK => ?_) AllReadyH.nil
      go_simp
      rw [← hW9]
      refine hK.out _ _ (S9) (fun hHeld => ?_)
      clear hK K
      try simp only [Act.put, List.setIfInBounds_toArray, List.set_cons_zero, List.set_cons_succ]
      refine wpAnyH_done (by kernel_rfl) ?_ _
      clear x0 x1 x2 x3 x4 x5 x6 x7 x8 x9 x10 f0 f1 f2 f3 f4 f5 f6 f7 f8 f9 f10 hW9 S9 S2 SC
      go_wp2
      go_roundw
      case rel => exact ⟨j + 1, c', A', s', by go_num, HJ.out.2, Lib.hid HJ.out.1, Lib.hid HP.out.1⟩
      case measure =>
        have := HJ.out
        simp [Go.RowKit.intOf]
        omega
    case neg =>
      have key : (¬ (j : Int) < (k1 : Int)) ∨ ((j : Int) < (k1 : Int) ∧ ¬ (j : Int) < 40) := by omega
      clear hin HD1 HB
      have HPF := HSX
      obtain ⟨wF, rfl⟩ : ∃ wF : World, wF = wr := ⟨_, rfl⟩
      have HNF := Lib.hid (HNw.out.grown HPF.out.gr (by simp))
      have HFK := Lib.hid (Go.Proofs.YthhodadfiipffaaDoor.fork_any wF w.heap.size mp gp _ HPF.out.b.a.mem (by have := HPF.out.b.a.lim; omega))
      have HFP := Lib.hid (fun W m2 (g : wF.grownBy W none) => Pt.fork_any (m2 := m2) (HPF.out.grown g).b.a.blk)
      clear HSX HNw
      rcases key with i1 | ⟨i1, i2⟩
      all_goals
        go_upto_region 13 with (first
          | (go_at_call 14; (with_reducible refine HFK.out.mono ?_); rintro e w5 ⟨m2, g2, rfl, hm5, -, b5⟩; have HM5 := Lib.hid hm5; have G5 := Lib.hid (Cu.grow_of b5); clear hm5 b5)
          | (go_at_call 23; (with_reducible refine (HFP.out _ _ G5.out).mono ?_); rintro e w6 ⟨rfl, g6, hb6⟩; have G6 := Lib.hid g6; have B6 := Lib.hid hb6; clear g6 hb6))
        clear i1
        have O6 := Lib.hid (HPF.out.grown (only_trans G5.out G6.out))
        obtain ⟨p0, p1, p2, p3, p4, p5, p6, p7, p8, p9, p10⟩ := Pt.cells11 O6.out.k
        go_upto_region 16 with (fail)
        clear p0 p1 p2 p3 p4 p5 p6 p7 p8 p9 p10
        obtain ⟨W7, hW7⟩ : ∃ W7, W7 = w6.alloc (.cells #[.slice A8 vl c8, .int .i64 s8.pc, .int .i64 (s8.r 0), .int .i64 (s8.r 1), .int .i64 (s8.r 2), .int .i64 (s8.r 3), .int .i64 (s8.r 4), .int .i64 (s8.r 5), .int .i64 (s8.r 6), .int .i64 (s8.r 7), .int .i64 s8.md] 37) := ⟨_, rfl⟩
        have P1 := Lib.hid (HPF.out.fork HM5.out G5.out B6.out G6.out W7 hW7)
        rw [← hW7]
        obtain ⟨b13, hb13⟩ : ∃ b13, b13 = w6.heap.size := ⟨_, rfl⟩
        obtain ⟨bf, hbf⟩ : ∃ bf, bf = w5.heap.size := ⟨_, rfl⟩
        rw [← hb13, ← hbf] at P1 ⊢
        clear hb13 hbf hW7 HM5 G5 B6 G6 O6 HFK HFP
        go_wp2
        go_loopw [14] (fun t wr => ∃ (j c : Nat) (A : Option Addr) (x : Pt.Sm), t = .int .i64 j ∧ j ≤ 40 ∧ Hid (j ≤ k2) ∧ Hid (Pt.Pl wF wr bf m2 g2 b13 p q A vl c x)) (fun t _ => 40 - (Go.RowKit.intOf t).toNat)
        case atStart => exact ⟨0, c8, A8, s8, rfl, by omega, Lib.hid (Nat.zero_le _), P1⟩
        case round =>
          clear hj6
          obtain ⟨j, c8, A8, s8, rfl, hj6, HB, HSX⟩ := hrel
          clear P1
          by_cases hin : j < k2 ∧ j < 40
          case pos =>
            obtain ⟨h1, h2⟩ := hin
            obtain ⟨gd, off, rfl, hg, hcs⟩ := HD2.out (by omega)
            have hcj := hcs j h1
            obtain ⟨y, hy⟩ : ∃ y, d2 j = y := ⟨_, rfl⟩
            rw [hy] at hcj
            have HCS := Lib.hid (fun W (g' : wF.grownBy W none) => show (W.cell? ⟨gd, off + j * 6, none⟩ = some (.bool y.o)) ∧ (W.cell? ⟨gd, off + j * 6 + 1, none⟩ = some (.int .i64 y.x.t)) ∧ (W.cell? ⟨gd, off + j * 6 + 2, none⟩ = some (.int .i64 y.x.f)) ∧ (W.cell? ⟨gd, off + j * 6 + 3, none⟩ = some (.int .i64 y.x.d)) ∧ (W.cell? ⟨gd, off + j * 6 + 4, none⟩ = some (.int .i64 y.x.p)) ∧ (W.cell? ⟨gd, off + j * 6 + 5, none⟩ = some (.int .i64 y.x.b)) from hcj.below hg (Pt.bel (only_trans HPF.out.gr g')))
            have HJ := Lib.hid (show j + 1 ≤ k2 ∧ j + 1 ≤ 40 from ⟨h1, h2⟩)
            have i1 : (j : Int) < (k2 : Int) := by omega
            have i2 : (j : Int) < 40 := by omega
            have i3 : (0 : Int) ≤ (j : Int) := by omega
            have u1 : IntKind.i64.wrap ((j : Int) + 1) = ((j + 1 : Nat) : Int) := by rw [IntKind.wrap_i64]; omega
            clear hcj hcs hg hy
            go_upto_region 20 with (fail)
            have gdr : wr.grownBy wr.drew none := only_drewN (only_refl _ none) 1
            have HSD := Lib.hid (HSX.out.grown gdr)
            have SC : (wr.drew.cell? ⟨gd, off + j * 6, none⟩ = some (.bool y.o)) ∧ (wr.drew.cell? ⟨gd, off + j * 6 + 1, none⟩ = some (.int .i64 y.x.t)) ∧ (wr.drew.cell? ⟨gd, off + j * 6 + 2, none⟩ = some (.int .i64 y.x.f)) ∧ (wr.drew.cell? ⟨gd, off + j * 6 + 3, none⟩ = some (.int .i64 y.x.d)) ∧ (wr.drew.cell? ⟨gd, off + j * 6 + 4, none⟩ = some (.int .i64 y.x.p)) ∧ (wr.drew.cell? ⟨gd, off + j * 6 + 5, none⟩ = some (.int .i64 y.x.b)) := HCS.out _ HSD.out.gr
            refine wp_region_held_drew (S := fun w' => (w'.cell? ⟨gd, off + j * 6, none⟩ = some (.bool y.o)) ∧ (w'.cell? ⟨gd, off + j * 6 + 1, none⟩ = some (.int .i64 y.x.t)) ∧ (w'.cell? ⟨gd, off + j * 6 + 2, none⟩ = some (.int .i64 y.x.f)) ∧ (w'.cell? ⟨gd, off + j * 6 + 3, none⟩ = some (.int .i64 y.x.d)) ∧ (w'.cell? ⟨gd, off + j * 6 + 4, none⟩ = some (.int .i64 y.x.p)) ∧ (w'.cell? ⟨gd, off + j * 6 + 5, none⟩ = some (.int .i64 y.x.b))) (by kernel_rfl) SC (fun hHeld => ?_)
            clear gdr
            generalize wr.drew = wd at *
            refine wpAnyH_take (i := 0) (oi := _) (v := ?_) rfl (by kernel_rfl) (by kernel_rfl) (by kernel_rfl) (fun _ _ _ h => h) (Or.inl ⟨by rfl, ?_⟩) (by assumption) ?_
            case refine_2 => intro w hSw; (try dsimp only at hSw); go_simp; (try rw [if_pos h1]); try with_reducible rfl
            try simp only [Act.put, List.setIfInBounds_toArray, List.set_cons_zero, List.set_cons_succ]
            refine wpAnyH_take (i := 2) (oi := _) (v := ?_) rfl (by kernel_rfl) (by kernel_rfl) (by kernel_rfl) (fun _ _ _ h => h) (Or.inl ⟨by rfl, ?_⟩) (by assumption) ?_
            case refine_2 => intro w hSw; (try dsimp only at hSw); go_simp; (try rw [if_pos h1]); try with_reducible rfl
            try simp only [Act.put, List.setIfInBounds_toArray, List.set_cons_zero, List.set_cons_succ]
            refine wpAnyH_take (i := 3) (oi := _) (v := ?_) rfl (by kernel_rfl) (by kernel_rfl) (by kernel_rfl) (fun _ _ _ h => h) (Or.inl ⟨by rfl, ?_⟩) (by assumption) ?_
            case refine_2 => intro w hSw; (try dsimp only at hSw); go_simp; (try rw [if_pos h1]); try with_reducible rfl
            try simp only [Act.put, List.setIfInBounds_toArray, List.set_cons_zero, List.set_cons_succ]
            refine wpAnyH_take (i := 4) (oi := _) (v := ?_) rfl (by kernel_rfl) (by kernel_rfl) (by kernel_rfl) (fun _ _ _ h => h) (Or.inl ⟨by rfl, ?_⟩) (by assumption) ?_
            case refine_2 => intro w hSw; (try dsimp only at hSw); go_simp; (try rw [if_pos h1]); try with_reducible rfl
            try simp only [Act.put, List.setIfInBounds_toArray, List.set_cons_zero, List.set_cons_succ]
            refine wpAnyH_take (i := 5) (oi := _) (v := ?_) rfl (by kernel_rfl) (by kernel_rfl) (by kernel_rfl) (fun _ _ _ h => h) (Or.inl ⟨by rfl, ?_⟩) (by assumption) ?_
            case refine_2 => intro w hSw; (try dsimp only at hSw); go_simp; (try rw [if_pos h1]); try with_reducible rfl
            try simp only [Act.put, List.setIfInBounds_toArray, List.set_cons_zero, List.set_cons_succ]
            obtain ⟨p0, p1, p2, p3, p4, p5, p6, p7, p8, p9, p10⟩ := Pt.cells11 HSD.out.k
            refine wpAnyH_ready (rs := [1]) (by kernel_rfl) (by simp) ?_
            refine AllReadyH.cons (o := _) rfl (fun K hK => ?_) AllReadyH.nil
            go_simp
            refine hK.out _ _ (hHeld) (fun hHeld => ?_)
            clear hK K
            try simp only [Act.put, List.setIfInBounds_toArray, List.set_cons_zero, List.set_cons_succ]
            refine wpAnyH_ready (rs := [6]) (by kernel_rfl) (by simp) ?_
            refine AllReadyH.cons (o := _) rfl (fun K hK => ?_) AllReadyH.nil
            go_simp
            go_at_call 11
            (with_reducible refine (HSD.out.step HNF.out y).mono ?_)
            rintro e w2 ⟨A', c', s', hs', rfl, hb2, hg2, hk2, hnext⟩
            have HB2 := Lib.hid hb2
            have HG2 := Lib.hid hg2
            have HK2 := Lib.hid hk2
            have HNEXT := Lib.hid hnext
            have HS7 := Lib.hid hs'
            clear hs' hb2 hg2 hk2 hnext p0 p1 p2 p3 p4 p5 p6 p7 p8 p9 p10
            have S2 : (w2.cell? ⟨gd, off + j * 6, none⟩ = some (.bool y.o)) ∧ (w2.cell? ⟨gd, off + j * 6 + 1, none⟩ = some (.int .i64 y.x.t)) ∧ (w2.cell? ⟨gd, off + j * 6 + 2, none⟩ = some (.int .i64 y.x.f)) ∧ (w2.cell? ⟨gd, off + j * 6 + 3, none⟩ = some (.int .i64 y.x.d)) ∧ (w2.cell? ⟨gd, off + j * 6 + 4, none⟩ = some (.int .i64 y.x.p)) ∧ (w2.cell? ⟨gd, off + j * 6 + 5, none⟩ = some (.int .i64 y.x.b)) := HCS.out _ HG2.out
            refine hK.out _ _ (S2) (fun hHeld => ?_)
            clear hK K
            try simp only [Act.put, List.setIfInBounds_toArray, List.set_cons_zero, List.set_cons_succ]
            refine wpAnyH_take (i := 7) (oi := _) (v := ?_) rfl (by kernel_rfl) (by kernel_rfl) (by kernel_rfl) (fun _ _ _ h => h) (Or.inl ⟨by rfl, ?_⟩) (by assumption) ?_
            case refine_2 => intro w hSw; (try dsimp only at hSw); go_simp; try with_reducible rfl
            try simp only [Act.put, List.setIfInBounds_toArray, List.set_cons_zero, List.set_cons_succ]
            refine wpAnyH_take (i := 8) (oi := _) (v := ?_) rfl (by kernel_rfl) (by kernel_rfl) (by kernel_rfl) (fun _ _ _ h => h) (Or.inl ⟨by rfl, ?_⟩) (by assumption) ?_
            case refine_2 => intro w hSw; (try dsimp only at hSw); go_simp; try with_reducible rfl
            try simp only [Act.put, List.setIfInBounds_toArray, List.set_cons_zero, List.set_cons_succ]
            refine wpAnyH_take (i := 9) (oi := _) (v := ?_) rfl (by kernel_rfl) (by kernel_rfl) (by kernel_rfl) (fun _ _ _ h => h) (Or.inl ⟨by rfl, ?_⟩) (by assumption) ?_
            case refine_2 => intro w hSw; (try dsimp only at hSw); go_simp; try with_reducible rfl
            try simp only [Act.put, List.setIfInBounds_toArray, List.set_cons_zero, List.set_cons_succ]
            obtain ⟨x0, x1, x2, x3, x4, x5, x6, x7, x8, x9, x10⟩ := Pt.cells11 HB2.out
            obtain ⟨f0, f1, f2, f3, f4, f5, f6, f7, f8, f9, f10⟩ := Pt.free11 HB2.out
            obtain ⟨W9, hW9⟩ : ∃ W9, W9 = (((((((((((w2.setCell ⟨b13, 0, none⟩ (.slice A' vl c')).setCell ⟨b13, 1, none⟩ (.int .i64 s'.pc)).setCell ⟨b13, 2, none⟩ (.int .i64 (s'.r 0))).setCell ⟨b13, 3, none⟩ (.int .i64 (s'.r 1))).setCell ⟨b13, 4, none⟩ (.int .i64 (s'.r 2))).setCell ⟨b13, 5, none⟩ (.int .i64 (s'.r 3))).setCell ⟨b13, 6, none⟩ (.int .i64 (s'.r 4))).setCell ⟨b13, 7, none⟩ (.int .i64 (s'.r 5))).setCell ⟨b13, 8, none⟩ (.int .i64 (s'.r 6))).setCell ⟨b13, 9, none⟩ (.int .i64 (s'.r 7))).setCell ⟨b13, 10, none⟩ (.int .i64 s'.md)) := ⟨_, rfl⟩
            have HP := Lib.hid (HNEXT.out W9 hW9)
            have S9 : (W9.cell? ⟨gd, off + j * 6, none⟩ = some (.bool y.o)) ∧ (W9.cell? ⟨gd, off + j * 6 + 1, none⟩ = some (.int .i64 y.x.t)) ∧ (W9.cell? ⟨gd, off + j * 6 + 2, none⟩ = some (.int .i64 y.x.f)) ∧ (W9.cell? ⟨gd, off + j * 6 + 3, none⟩ = some (.int .i64 y.x.d)) ∧ (W9.cell? ⟨gd, off + j * 6 + 4, none⟩ = some (.int .i64 y.x.p)) ∧ (W9.cell? ⟨gd, off + j * 6 + 5, none⟩ = some (.int .i64 y.x.b)) := HCS.out _ HP.out.1.gr
            refine wpAnyH_ready (rs := [10]) (by kernel_rfl) (by simp) ?_
            refine AllReadyH.cons (o := _) rfl (fun K hK => ?_) AllReadyH.nil
            go_simp
            rw [← hW9]
            refine hK.out _ _ (S9) (fun hHeld => ?_)
            clear hK K
            try simp only [Act.put, List.setIfInBounds_toArray, List.set_cons_zero, List.set_cons_succ]
            refine wpAnyH_take (i := 11) (oi := ⟨some 15, _, _, _, _, none⟩) (v := ?_) rfl (by kernel_rfl) (by kernel_rfl) (by kernel_rfl) (fun _ _ _ h => h) (Or.inl ⟨by rfl, ?_⟩) (by assumption) ?_
            case refine_2 => intro w hSw; (try dsimp only at hSw); go_simp; try with_reducible rfl
            try simp only [Act.put, List.setIfInBounds_toArray, List.set_cons_zero, List.set_cons_succ]
            refine wpAnyH_done (by kernel_rfl) ?_ _
            clear x0 x1 x2 x3 x4 x5 x6 x7 x8 x9 x10 f0 f1 f2 f3 f4 f5 f6 f7 f8 f9 f10 hW9 S9 S2 SC
            go_wp2
            go_roundw
            case rel => exact ⟨j + 1, c', A', s', by go_num, HJ.out.2, Lib.hid HJ.out.1, Lib.hid HP.out.1⟩
            case measure =>
              have := HJ.out
              simp [Go.RowKit.intOf]
              omega
          case neg =>
            have key : (¬ (j : Int) < (k2 : Int)) ∨ ((j : Int) < (k2 : Int) ∧ ¬ (j : Int) < 40) := by omega
            have hq : ∀ W, (binOp BinOp.eql 55 (.agg #[.int .i64 0, .int .i64 0, .int .i64 0, .int .i64 0, .int .i64 0, .int .i64 0, .int .i64 0, .int .i64 0, .int .i64 0, .int .i64 0]) (.agg #[.int .i64 0, .int .i64 0, .int .i64 0, .int .i64 0, .int .i64 0, .int .i64 0, .int .i64 0, .int .i64 0, .int .i64 0, .int .i64 0])).run Tryd.prog W = .ok (.bool true) W := fun W => Cu.eql_st2 0 (fun _ => 0) 0 W
            clear hin HD2 HB
            rcases key with i1 | ⟨i1, i2⟩
            all_goals
              go_wp2_with (first
                | (go_at_call 16; (with_reducible refine (Pt.nil_step _).mono ?_); rintro e w5 ⟨rfl, g5⟩; have P5 := Lib.hid (HSX.out.grown g5); clear g5)
                | (go_at_call 7; (with_reducible refine (Pt.live_any _ (HNF.out.grown P5.out.gr (by simp))).mono ?_); rintro e w6 ⟨rfl, g6⟩; have P6 := Lib.hid (P5.out.grown g6); clear g6; have O6 := Lib.hid (HPF.out.grown P6.out.gr); obtain ⟨p0, p1, p2, p3, p4, p5, p6, p7, p8, p9, p10⟩ := Pt.cells11 O6.out.k)
                | (go_at_call 12; (with_reducible refine O6.out.same.mono ?_); rintro e w7 ⟨rfl, g7⟩; have P7 := Lib.hid (P6.out.grown g7); clear g7; clear p0 p1 p2 p3 p4 p5 p6 p7 p8 p9 p10; obtain ⟨p0, p1, p2, p3, p4, p5, p6, p7, p8, p9, p10⟩ := Pt.cells11 P7.out.k)
                | (go_at_call 12; (with_reducible refine P7.out.same.mono ?_); rintro e w8 ⟨rfl, g8⟩; have G8 := Lib.hid (only_trans P7.out.gr g8); clear g8; clear p0 p1 p2 p3 p4 p5 p6 p7 p8 p9 p10)
                | (go_at_call 15; (with_reducible refine (Pt.nil_open _).mono ?_); rintro e _ ⟨rfl, rfl⟩)
                | (go_at_call 24; (with_reducible refine (Pt.nil_owner _).mono ?_); rintro e _ ⟨rfl, rfl⟩)
                | (go_at_call 25; (with_reducible refine (Pt.nil_text _).mono ?_); rintro e _ ⟨rfl, rfl⟩)
                | (go_at_call 23; (with_reducible refine (Pt.nil_fork _ _).mono ?_); rintro e _ ⟨rfl, rfl⟩)
                | (go_at_call 18; (with_reducible refine (Pt.nil_state _).mono ?_); rintro e w9 ⟨rfl, g9⟩; have G9 := Lib.hid (only_trans G8.out g9); clear g9))
              go_ret
              exact ⟨by first | rfl | simp, Pt.bel (only_trans HPF.out.gr G9.out)⟩
end Go.Proofs.YthhodadfiipffaaDoor
