import Derived.Test.YtldhggaghhjebaaZ03
set_option linter.all false
/- The laws of desc: DescChecks walked. -/
namespace Go.Proofs.Ytldhggaghhjebaa
open Go.RowKit Go.Lib Go.Sort
set_option linter.unusedVariables false
set_option maxRecDepth 20000
attribute [-go_sem] Go.run_neq_struct Go.run_eql_struct

theorem De.cl_is (c : Nat → Int) : De.cl c = #[.int .i64 (c 0), .int .i64 (c 1), .int .i64 (c 2), .int .i64 (c 3), .int .i64 (c 4), .int .i64 (c 5), .int .i64 (c 6), .int .i64 (c 7), .int .i64 (c 8), .int .i64 (c 9)] := rfl
def De.wn (n : Int) : Int := n % 256 + 256 * (n / 256 % 256)
theorem De.closed2 (k s : Nat) (a l g st n : Int) (w : World) : Calls Try.prog 12 #[.agg #[.int .u8 k, .int .u8 s, .int .i64 a, .int .i64 l, .int .i64 g], .int .i64 st, .int .i64 n] w fun e w' => e = .returned (.agg #[.int .u8 k, .int .u8 (st % 256), .int .i64 a, .int .i64 (De.wn n), .int .i64 g]) ∧ w.grownBy w' none := by
  have := De.closed_any k s a l g st n w
  unfold De.dc at this
  rw [Int.toNat_of_nonneg (show 0 ≤ st % 256 by omega), show n % 65536 = De.wn n from by unfold De.wn; omega] at this
  exact this
/-- The boxes of DescChecks. -/
structure De.Ck (w W : World) (bx bw : Nat) (k : Int) (s : Nat) (a l g y z : Int) (c : Nat → Int) (ws wl : Int) : Prop where
  db : Blk W w.heap.size 24 #[.int .u8 k, .int .u8 s, .int .i64 a, .int .i64 l, .int .i64 g]
  cb : Blk W (w.heap.size + 1) 34 (De.cl c)
  xb : Blk W bx 24 #[.int .u8 k, .int .u8 y, .int .i64 a, .int .i64 z, .int .i64 g]
  wb : Blk W bw 24 #[.int .u8 k, .int .u8 ws, .int .i64 a, .int .i64 wl, .int .i64 g]
  gr : w.grownBy W none
theorem De.cells10 {W : World} {b : Nat} {c : Nat → Int} (h : Blk W b 34 (De.cl c)) : W.cell? ⟨b, 0, none⟩ = some (.int .i64 (c 0)) ∧ W.cell? ⟨b, 1, none⟩ = some (.int .i64 (c 1)) ∧ W.cell? ⟨b, 2, none⟩ = some (.int .i64 (c 2)) ∧ W.cell? ⟨b, 3, none⟩ = some (.int .i64 (c 3)) ∧ W.cell? ⟨b, 4, none⟩ = some (.int .i64 (c 4)) ∧ W.cell? ⟨b, 5, none⟩ = some (.int .i64 (c 5)) ∧ W.cell? ⟨b, 6, none⟩ = some (.int .i64 (c 6)) ∧ W.cell? ⟨b, 7, none⟩ = some (.int .i64 (c 7)) ∧ W.cell? ⟨b, 8, none⟩ = some (.int .i64 (c 8)) ∧ W.cell? ⟨b, 9, none⟩ = some (.int .i64 (c 9)) := ⟨h.cell 0, h.cell 1, h.cell 2, h.cell 3, h.cell 4, h.cell 5, h.cell 6, h.cell 7, h.cell 8, h.cell 9⟩
section
variable {w W1 w1 : World} {k : Int} {s : Nat} {a l g y z : Int} {c : Nat → Int}
theorem De.ck_start (hd : Blk W1 w.heap.size 24 #[.int .u8 k, .int .u8 s, .int .i64 a, .int .i64 l, .int .i64 g]) (hc : Blk W1 (w.heap.size + 1) 34 (De.cl c)) (hg : w.grownBy W1 none) (g1 : W1.grownBy w1 none) :
    De.Ck w ((w1.alloc (.cells #[.int .u8 k, .int .u8 y, .int .i64 a, .int .i64 z, .int .i64 g] 24)).alloc (.cells #[.int .u8 k, .int .u8 s, .int .i64 a, .int .i64 l, .int .i64 g] 24)) w1.heap.size (w1.heap.size + 1) k s a l g y z c s l := by
  have k2 : w1.grownBy ((w1.alloc (.cells #[.int .u8 k, .int .u8 y, .int .i64 a, .int .i64 z, .int .i64 g] 24)).alloc (.cells #[.int .u8 k, .int .u8 s, .int .i64 a, .int .i64 l, .int .i64 g] 24)) none := only_alloc (only_alloc (only_refl _ _) _) _
  refine ⟨(hd.only g1 (by simp)).only k2 (by simp), (hc.only g1 (by simp)).only k2 (by simp), (Blk.new _ _ _).alloc _, ?_, only_trans hg (only_trans g1 k2)⟩
  have := Blk.new (w1.alloc (.cells #[.int .u8 k, .int .u8 y, .int .i64 a, .int .i64 z, .int .i64 g] 24)) 24 #[.int .u8 k, .int .u8 s, .int .i64 a, .int .i64 l, .int .i64 g]
  simpa using this
theorem De.ck_put {W : World} {bx bw : Nat} {s0 l0 s1 l1 : Int} (h : De.Ck w W bx bw k s a l g y z c s0 l0) (h1 : w.heap.size + 1 < bx) (h2 : bx < bw) : ∀ W', W' = (W.setCell ⟨bw, 1, none⟩ (.int .u8 s1)).setCell ⟨bw, 3, none⟩ (.int .i64 l1) → De.Ck w W' bx bw k s a l g y z c s1 l1 := by
  rintro W' rfl
  have k2 : W.grownBy ((W.setCell ⟨bw, 1, none⟩ (.int .u8 s1)).setCell ⟨bw, 3, none⟩ (.int .i64 l1)) (some bw) := only_put (only_put (only_refl _ _) 1 _) 3 _
  have ne : ∀ x, x ≠ bw → some x ≠ some bw := fun x hx e => by injection e with e; omega
  exact ⟨h.db.only k2 (ne _ (by omega)), h.cb.only k2 (ne _ (by omega)), h.xb.only k2 (ne _ (by omega)), (h.wb.put 1 _).put 3 _, only_putc (only_putc h.gr (p := ⟨bw, 1, none⟩) (by show w.heap.size ≤ bw; omega) _) (p := ⟨bw, 3, none⟩) (by show w.heap.size ≤ bw; omega) _⟩
end

set_option maxHeartbeats 3200000 in
theorem De.checks_0 (k s : Nat) (a l g st n : Int) (c : Nat → Int) (w : World) (hk : k < 256) (bs : c 1 ≤ 9223372036854775807) (bc : c 9 ≤ 9223372036854775807) (hkk : k = 0) : Calls Try.prog 5 #[.agg (De.dc k s a l g), .agg (De.cl c), .int .i64 st, .int .i64 n] w fun e w' => e = .returned (.bool true) ∧ Below w.heap.size w w' := by
  have HL := Lib.hid (show ∀ W, Calls Try.prog 9 #[] W (fun e w' => e = .returned (.bool true) ∧ Below W.heap.size W w') from fun W => (De.live_any W).mono fun e w' ⟨h1, h2⟩ => ⟨h1, De.bel h2⟩)
  have hC := fun W => (De.check_any k s a l g c W hk bs bc).mono (R' := fun e w' => e = .returned (.int .i64 (De.chk k a l g (c 1) (c 9))) ∧ Below W.heap.size W w') fun e w' ⟨h1, h2⟩ => ⟨h1, De.bel h2⟩
  have hR := fun W => (De.rcheck_any k s a l g c W hk bs bc).mono (R' := fun e w' => e = .returned (.int .i64 (De.chk k a l g (c 1) (c 9))) ∧ Below W.heap.size W w') fun e w' ⟨h1, h2⟩ => ⟨h1, De.bel h2⟩
  have hF := fun W => (De.fills_any k W hk).mono (R' := fun e w' => e = .returned (.bool false) ∧ Below W.heap.size W w') fun e w' ⟨h1, h2⟩ => ⟨by rw [h1]; subst hkk; rfl, by rw [← h2]; exact Below.refl _ _⟩
  have hD := fun W => (De.reads_any k W hk).mono (R' := fun e w' => e = .returned (.bool false) ∧ Below W.heap.size W w') fun e w' ⟨h1, h2⟩ => ⟨by rw [h1]; subst hkk; rfl, by rw [← h2]; exact Below.refl _ _⟩
  have hX := De.closed2 k s a l g st n
  have hq := fun W => De.eql_desc k (st % 256) a (De.wn n) g W
  generalize De.chk k a l g (c 1) (c 9) = zz at *
  have HEw := Lib.hid (show De.wn n = n % 256 + 256 * (n / 256 % 256) from rfl)
  have hw1 : IntKind.u8.wrap (st % 256) = st % 256 := by rw [IntKind.wrap_u8]; omega
  have m1 : st % 256 % 256 = st % 256 := by omega
  have HK := Lib.hid (De.cl_is c)
  obtain ⟨W1, hW1⟩ : ∃ W1, W1 = (w.alloc (.cells (De.dc k s a l g) 24)).alloc (.cells (De.cl c) 34) := ⟨_, rfl⟩
  have HD1 := Lib.hid (show Blk W1 w.heap.size 24 #[.int .u8 k, .int .u8 s, .int .i64 a, .int .i64 l, .int .i64 g] from by rw [hW1]; exact (Blk.new _ _ _).alloc _)
  have HC1 := Lib.hid (show Blk W1 (w.heap.size + 1) 34 (De.cl c) from by
    rw [hW1]
    have := Blk.new (w.alloc (.cells (De.dc k s a l g) 24)) 34 (De.cl c)
    simpa using this)
  have HG1 := Lib.hid (show w.grownBy W1 none from by rw [hW1]; exact only_alloc (only_alloc (only_refl _ _) _) _)
  unfold De.dc at hC hR hW1 ⊢
  rw [HK.out] at hC hR hW1 ⊢
  have hki : (k : Int) = 0 := by omega
  rw [hki] at HD1 hC hR hF hD hX hW1 hq ⊢
  clear hkk hki
  have HX := Lib.hid hX; have HC := Lib.hid hC; have HR := Lib.hid hR; have HF := Lib.hid hF; have HD := Lib.hid hD
  clear hX hC hR hF hD bs bc HK
  obtain ⟨c0, c1, c2, c3, c4⟩ := (De.in5f HD1.out).1
  go_enter Try.func5, Try.ntmps5
  go_upto_region 1 with (fail)
  rw [← hW1]
  clear hW1
  go_upto_region 2 with (go_at_call 12; (with_reducible refine (HX.out _).mono ?_); rintro e w1 ⟨rfl, g1⟩; have G1 := Lib.hid g1; have B1 := Lib.hid (HD1.out.only g1 (by simp)); clear g1 c0 c1 c2 c3 c4)
  have HS := Lib.hid (De.ck_start (y := st % 256) (z := De.wn n) HD1.out HC1.out HG1.out G1.out)
  have HLT := Lib.hid (show w.heap.size + 1 < w1.heap.size from by have := (HC1.out.only G1.out (by simp)).lt; omega)
  have B2 := Lib.hid (B1.out.alloc (.cells #[.int .u8 0, .int .u8 (st % 256), .int .i64 a, .int .i64 (De.wn n), .int .i64 g] 24))
  obtain ⟨c0, c1, c2, c3, c4⟩ := (De.in5f B2.out).1
  go_upto_region 3 with (fail)
  clear c0 c1 c2 c3 c4
  obtain ⟨bx, hbx⟩ : ∃ bx, bx = w1.heap.size := ⟨_, rfl⟩
  obtain ⟨bw, hbw⟩ : ∃ bw, bw = w1.heap.size + 1 := ⟨_, rfl⟩
  obtain ⟨W3, hW3⟩ : ∃ W3, W3 = (w1.alloc (.cells #[.int .u8 0, .int .u8 (st % 256), .int .i64 a, .int .i64 (De.wn n), .int .i64 g] 24)).alloc (.cells #[.int .u8 0, .int .u8 s, .int .i64 a, .int .i64 l, .int .i64 g] 24) := ⟨_, rfl⟩
  have hbxw : bw = bx + 1 := by omega
  rw [← hW3, ← hbw, ← hbx] at HS ⊢
  rw [← hbx] at HLT
  have HBW := Lib.hid hbxw
  clear hW3 hbx hbw hbxw
  obtain ⟨⟨d0, d1, d2, d3, d4⟩, f0, f1, f2, f3, f4⟩ := De.in5f HS.out.wb
  go_upto_region 5 with (first
    | (go_at_call 13; (with_reducible refine (rlow_any _ _).mono ?_); rintro e w' ⟨rfl, rfl⟩)
    | (go_at_call 14; (with_reducible refine (rhigh_any _ _).mono ?_); rintro e w' ⟨rfl, rfl⟩))
  clear d0 d1 d2 d3 d4 f0 f1 f2 f3 f4
  rw [← HEw.out]
  obtain ⟨W4, hW4⟩ : ∃ W4, W4 = (W3.setCell ⟨bw, 1, none⟩ (.int .u8 (st % 256))).setCell ⟨bw, 3, none⟩ (.int .i64 (De.wn n)) := ⟨_, rfl⟩
  have HT := Lib.hid (De.ck_put HS.out HLT.out (by have := HBW.out; omega) _ hW4)
  rw [← hW4]
  clear hW4 HS
  generalize De.wn n = nn at *
  obtain ⟨d0, d1, d2, d3, d4⟩ := (De.in5f HT.out.db).1
  go_upto_region 6 with (fail)
  have d0r := fun d os => cell_regrown d0 d os; have d1r := fun d os => cell_regrown d1 d os; have d2r := fun d os => cell_regrown d2 d os; have d3r := fun d os => cell_regrown d3 d os; have d4r := fun d os => cell_regrown d4 d os
  obtain ⟨x0, x1, x2, x3, x4⟩ := (De.in5f HT.out.xb).1
  have x0r := fun d os => cell_regrown x0 d os; have x1r := fun d os => cell_regrown x1 d os; have x2r := fun d os => cell_regrown x2 d os; have x3r := fun d os => cell_regrown x3 d os; have x4r := fun d os => cell_regrown x4 d os
  obtain ⟨y0, y1, y2, y3, y4⟩ := (De.in5f HT.out.wb).1
  have y0r := fun d os => cell_regrown y0 d os; have y1r := fun d os => cell_regrown y1 d os; have y2r := fun d os => cell_regrown y2 d os; have y3r := fun d os => cell_regrown y3 d os; have y4r := fun d os => cell_regrown y4 d os
  obtain ⟨t0, t1, t2, t3, t4, t5, t6, t7, t8, t9⟩ := De.cells10 HT.out.cb
  have t0r := fun d os => cell_regrown t0 d os; have t1r := fun d os => cell_regrown t1 d os; have t2r := fun d os => cell_regrown t2 d os; have t3r := fun d os => cell_regrown t3 d os; have t4r := fun d os => cell_regrown t4 d os; have t5r := fun d os => cell_regrown t5 d os; have t6r := fun d os => cell_regrown t6 d os; have t7r := fun d os => cell_regrown t7 d os; have t8r := fun d os => cell_regrown t8 d os; have t9r := fun d os => cell_regrown t9 d os
  have HGR := Lib.hid HT.out.gr
  clear d0 d1 d2 d3 d4 x0 x1 x2 x3 x4 y0 y1 y2 y3 y4 t0 t1 t2 t3 t4 t5 t6 t7 t8 t9
  refine wp_region_quiet_below (by kernel_rfl) (by kernel_rfl) ?_
  repeat (quiet_step ((first
    | (go_at_call 9; with_reducible exact Calls.regrown_of (HL.out _))
    | (go_at_call 15; with_reducible exact Calls.regrown_of (HC.out _))
    | (go_at_call 16; with_reducible exact Calls.regrown_of (HR.out _))
    | (go_at_call 17; with_reducible exact Calls.regrown_of (HF.out _))
    | (go_at_call 18; with_reducible exact Calls.regrown_of (HD.out _)))))
  refine wpQuiet_nil ?_
  rintro _ ⟨⟨dq, osq⟩, rfl⟩
  have HBE := Lib.hid (only_trans HGR.out (De.gro (below_regrown W4 dq osq)))
  generalize grow (redrawn W4 dq) osq = wz at HBE ⊢
  clear d0r d1r d2r d3r d4r x0r x1r x2r x3r x4r y0r y1r y2r y3r y4r t0r t1r t2r t3r t4r t5r t6r t7r t8r t9r
  go_wp2
  go_ret
  exact ⟨by first | rfl | simp, De.bel HBE.out⟩

set_option maxHeartbeats 3200000 in
theorem De.checks_1 (k s : Nat) (a l g st n : Int) (c : Nat → Int) (w : World) (hk : k < 256) (bs : c 1 ≤ 9223372036854775807) (bc : c 9 ≤ 9223372036854775807) (hkk : k = 1) : Calls Try.prog 5 #[.agg (De.dc k s a l g), .agg (De.cl c), .int .i64 st, .int .i64 n] w fun e w' => e = .returned (.bool true) ∧ Below w.heap.size w w' := by
  have HL := Lib.hid (show ∀ W, Calls Try.prog 9 #[] W (fun e w' => e = .returned (.bool true) ∧ Below W.heap.size W w') from fun W => (De.live_any W).mono fun e w' ⟨h1, h2⟩ => ⟨h1, De.bel h2⟩)
  have hC := fun W => (De.check_any k s a l g c W hk bs bc).mono (R' := fun e w' => e = .returned (.int .i64 (De.chk k a l g (c 1) (c 9))) ∧ Below W.heap.size W w') fun e w' ⟨h1, h2⟩ => ⟨h1, De.bel h2⟩
  have hR := fun W => (De.rcheck_any k s a l g c W hk bs bc).mono (R' := fun e w' => e = .returned (.int .i64 (De.chk k a l g (c 1) (c 9))) ∧ Below W.heap.size W w') fun e w' ⟨h1, h2⟩ => ⟨h1, De.bel h2⟩
  have hF := fun W => (De.fills_any k W hk).mono (R' := fun e w' => e = .returned (.bool false) ∧ Below W.heap.size W w') fun e w' ⟨h1, h2⟩ => ⟨by rw [h1]; subst hkk; rfl, by rw [← h2]; exact Below.refl _ _⟩
  have hD := fun W => (De.reads_any k W hk).mono (R' := fun e w' => e = .returned (.bool true) ∧ Below W.heap.size W w') fun e w' ⟨h1, h2⟩ => ⟨by rw [h1]; subst hkk; rfl, by rw [← h2]; exact Below.refl _ _⟩
  have hX := De.closed2 k s a l g st n
  have hq := fun W => De.eql_desc k (st % 256) a (De.wn n) g W
  generalize De.chk k a l g (c 1) (c 9) = zz at *
  have HEw := Lib.hid (show De.wn n = n % 256 + 256 * (n / 256 % 256) from rfl)
  have hw1 : IntKind.u8.wrap (st % 256) = st % 256 := by rw [IntKind.wrap_u8]; omega
  have m1 : st % 256 % 256 = st % 256 := by omega
  have HK := Lib.hid (De.cl_is c)
  obtain ⟨W1, hW1⟩ : ∃ W1, W1 = (w.alloc (.cells (De.dc k s a l g) 24)).alloc (.cells (De.cl c) 34) := ⟨_, rfl⟩
  have HD1 := Lib.hid (show Blk W1 w.heap.size 24 #[.int .u8 k, .int .u8 s, .int .i64 a, .int .i64 l, .int .i64 g] from by rw [hW1]; exact (Blk.new _ _ _).alloc _)
  have HC1 := Lib.hid (show Blk W1 (w.heap.size + 1) 34 (De.cl c) from by
    rw [hW1]
    have := Blk.new (w.alloc (.cells (De.dc k s a l g) 24)) 34 (De.cl c)
    simpa using this)
  have HG1 := Lib.hid (show w.grownBy W1 none from by rw [hW1]; exact only_alloc (only_alloc (only_refl _ _) _) _)
  unfold De.dc at hC hR hW1 ⊢
  rw [HK.out] at hC hR hW1 ⊢
  have hki : (k : Int) = 1 := by omega
  rw [hki] at HD1 hC hR hF hD hX hW1 hq ⊢
  clear hkk hki
  have HX := Lib.hid hX; have HC := Lib.hid hC; have HR := Lib.hid hR; have HF := Lib.hid hF; have HD := Lib.hid hD
  clear hX hC hR hF hD bs bc HK
  obtain ⟨c0, c1, c2, c3, c4⟩ := (De.in5f HD1.out).1
  go_enter Try.func5, Try.ntmps5
  go_upto_region 1 with (fail)
  rw [← hW1]
  clear hW1
  go_upto_region 2 with (go_at_call 12; (with_reducible refine (HX.out _).mono ?_); rintro e w1 ⟨rfl, g1⟩; have G1 := Lib.hid g1; have B1 := Lib.hid (HD1.out.only g1 (by simp)); clear g1 c0 c1 c2 c3 c4)
  have HS := Lib.hid (De.ck_start (y := st % 256) (z := De.wn n) HD1.out HC1.out HG1.out G1.out)
  have HLT := Lib.hid (show w.heap.size + 1 < w1.heap.size from by have := (HC1.out.only G1.out (by simp)).lt; omega)
  have B2 := Lib.hid (B1.out.alloc (.cells #[.int .u8 1, .int .u8 (st % 256), .int .i64 a, .int .i64 (De.wn n), .int .i64 g] 24))
  obtain ⟨c0, c1, c2, c3, c4⟩ := (De.in5f B2.out).1
  go_upto_region 3 with (fail)
  clear c0 c1 c2 c3 c4
  obtain ⟨bx, hbx⟩ : ∃ bx, bx = w1.heap.size := ⟨_, rfl⟩
  obtain ⟨bw, hbw⟩ : ∃ bw, bw = w1.heap.size + 1 := ⟨_, rfl⟩
  obtain ⟨W3, hW3⟩ : ∃ W3, W3 = (w1.alloc (.cells #[.int .u8 1, .int .u8 (st % 256), .int .i64 a, .int .i64 (De.wn n), .int .i64 g] 24)).alloc (.cells #[.int .u8 1, .int .u8 s, .int .i64 a, .int .i64 l, .int .i64 g] 24) := ⟨_, rfl⟩
  have hbxw : bw = bx + 1 := by omega
  rw [← hW3, ← hbw, ← hbx] at HS ⊢
  rw [← hbx] at HLT
  have HBW := Lib.hid hbxw
  clear hW3 hbx hbw hbxw
  obtain ⟨⟨d0, d1, d2, d3, d4⟩, f0, f1, f2, f3, f4⟩ := De.in5f HS.out.wb
  go_upto_region 5 with (first
    | (go_at_call 13; (with_reducible refine (rlow_any _ _).mono ?_); rintro e w' ⟨rfl, rfl⟩)
    | (go_at_call 14; (with_reducible refine (rhigh_any _ _).mono ?_); rintro e w' ⟨rfl, rfl⟩))
  clear d0 d1 d2 d3 d4 f0 f1 f2 f3 f4
  rw [← HEw.out]
  obtain ⟨W4, hW4⟩ : ∃ W4, W4 = (W3.setCell ⟨bw, 1, none⟩ (.int .u8 (st % 256))).setCell ⟨bw, 3, none⟩ (.int .i64 (De.wn n)) := ⟨_, rfl⟩
  have HT := Lib.hid (De.ck_put HS.out HLT.out (by have := HBW.out; omega) _ hW4)
  rw [← hW4]
  clear hW4 HS
  generalize De.wn n = nn at *
  obtain ⟨d0, d1, d2, d3, d4⟩ := (De.in5f HT.out.db).1
  go_upto_region 6 with (fail)
  have d0r := fun d os => cell_regrown d0 d os; have d1r := fun d os => cell_regrown d1 d os; have d2r := fun d os => cell_regrown d2 d os; have d3r := fun d os => cell_regrown d3 d os; have d4r := fun d os => cell_regrown d4 d os
  obtain ⟨x0, x1, x2, x3, x4⟩ := (De.in5f HT.out.xb).1
  have x0r := fun d os => cell_regrown x0 d os; have x1r := fun d os => cell_regrown x1 d os; have x2r := fun d os => cell_regrown x2 d os; have x3r := fun d os => cell_regrown x3 d os; have x4r := fun d os => cell_regrown x4 d os
  obtain ⟨y0, y1, y2, y3, y4⟩ := (De.in5f HT.out.wb).1
  have y0r := fun d os => cell_regrown y0 d os; have y1r := fun d os => cell_regrown y1 d os; have y2r := fun d os => cell_regrown y2 d os; have y3r := fun d os => cell_regrown y3 d os; have y4r := fun d os => cell_regrown y4 d os
  obtain ⟨t0, t1, t2, t3, t4, t5, t6, t7, t8, t9⟩ := De.cells10 HT.out.cb
  have t0r := fun d os => cell_regrown t0 d os; have t1r := fun d os => cell_regrown t1 d os; have t2r := fun d os => cell_regrown t2 d os; have t3r := fun d os => cell_regrown t3 d os; have t4r := fun d os => cell_regrown t4 d os; have t5r := fun d os => cell_regrown t5 d os; have t6r := fun d os => cell_regrown t6 d os; have t7r := fun d os => cell_regrown t7 d os; have t8r := fun d os => cell_regrown t8 d os; have t9r := fun d os => cell_regrown t9 d os
  have HGR := Lib.hid HT.out.gr
  clear d0 d1 d2 d3 d4 x0 x1 x2 x3 x4 y0 y1 y2 y3 y4 t0 t1 t2 t3 t4 t5 t6 t7 t8 t9
  refine wp_region_quiet_below (by kernel_rfl) (by kernel_rfl) ?_
  repeat (quiet_step ((first
    | (go_at_call 9; with_reducible exact Calls.regrown_of (HL.out _))
    | (go_at_call 15; with_reducible exact Calls.regrown_of (HC.out _))
    | (go_at_call 16; with_reducible exact Calls.regrown_of (HR.out _))
    | (go_at_call 17; with_reducible exact Calls.regrown_of (HF.out _))
    | (go_at_call 18; with_reducible exact Calls.regrown_of (HD.out _)))))
  refine wpQuiet_nil ?_
  rintro _ ⟨⟨dq, osq⟩, rfl⟩
  have HBE := Lib.hid (only_trans HGR.out (De.gro (below_regrown W4 dq osq)))
  generalize grow (redrawn W4 dq) osq = wz at HBE ⊢
  clear d0r d1r d2r d3r d4r x0r x1r x2r x3r x4r y0r y1r y2r y3r y4r t0r t1r t2r t3r t4r t5r t6r t7r t8r t9r
  go_wp2
  go_ret
  exact ⟨by first | rfl | simp, De.bel HBE.out⟩

set_option maxHeartbeats 3200000 in
theorem De.checks_2 (k s : Nat) (a l g st n : Int) (c : Nat → Int) (w : World) (hk : k < 256) (bs : c 1 ≤ 9223372036854775807) (bc : c 9 ≤ 9223372036854775807) (hkk : k = 2) : Calls Try.prog 5 #[.agg (De.dc k s a l g), .agg (De.cl c), .int .i64 st, .int .i64 n] w fun e w' => e = .returned (.bool true) ∧ Below w.heap.size w w' := by
  have HL := Lib.hid (show ∀ W, Calls Try.prog 9 #[] W (fun e w' => e = .returned (.bool true) ∧ Below W.heap.size W w') from fun W => (De.live_any W).mono fun e w' ⟨h1, h2⟩ => ⟨h1, De.bel h2⟩)
  have hC := fun W => (De.check_any k s a l g c W hk bs bc).mono (R' := fun e w' => e = .returned (.int .i64 (De.chk k a l g (c 1) (c 9))) ∧ Below W.heap.size W w') fun e w' ⟨h1, h2⟩ => ⟨h1, De.bel h2⟩
  have hR := fun W => (De.rcheck_any k s a l g c W hk bs bc).mono (R' := fun e w' => e = .returned (.int .i64 (De.chk k a l g (c 1) (c 9))) ∧ Below W.heap.size W w') fun e w' ⟨h1, h2⟩ => ⟨h1, De.bel h2⟩
  have hF := fun W => (De.fills_any k W hk).mono (R' := fun e w' => e = .returned (.bool true) ∧ Below W.heap.size W w') fun e w' ⟨h1, h2⟩ => ⟨by rw [h1]; subst hkk; rfl, by rw [← h2]; exact Below.refl _ _⟩
  have hD := fun W => (De.reads_any k W hk).mono (R' := fun e w' => e = .returned (.bool false) ∧ Below W.heap.size W w') fun e w' ⟨h1, h2⟩ => ⟨by rw [h1]; subst hkk; rfl, by rw [← h2]; exact Below.refl _ _⟩
  have hX := De.closed2 k s a l g st n
  have hq := fun W => De.eql_desc k (st % 256) a (De.wn n) g W
  generalize De.chk k a l g (c 1) (c 9) = zz at *
  have HEw := Lib.hid (show De.wn n = n % 256 + 256 * (n / 256 % 256) from rfl)
  have hw1 : IntKind.u8.wrap (st % 256) = st % 256 := by rw [IntKind.wrap_u8]; omega
  have m1 : st % 256 % 256 = st % 256 := by omega
  have HK := Lib.hid (De.cl_is c)
  obtain ⟨W1, hW1⟩ : ∃ W1, W1 = (w.alloc (.cells (De.dc k s a l g) 24)).alloc (.cells (De.cl c) 34) := ⟨_, rfl⟩
  have HD1 := Lib.hid (show Blk W1 w.heap.size 24 #[.int .u8 k, .int .u8 s, .int .i64 a, .int .i64 l, .int .i64 g] from by rw [hW1]; exact (Blk.new _ _ _).alloc _)
  have HC1 := Lib.hid (show Blk W1 (w.heap.size + 1) 34 (De.cl c) from by
    rw [hW1]
    have := Blk.new (w.alloc (.cells (De.dc k s a l g) 24)) 34 (De.cl c)
    simpa using this)
  have HG1 := Lib.hid (show w.grownBy W1 none from by rw [hW1]; exact only_alloc (only_alloc (only_refl _ _) _) _)
  unfold De.dc at hC hR hW1 ⊢
  rw [HK.out] at hC hR hW1 ⊢
  have hki : (k : Int) = 2 := by omega
  rw [hki] at HD1 hC hR hF hD hX hW1 hq ⊢
  clear hkk hki
  have HX := Lib.hid hX; have HC := Lib.hid hC; have HR := Lib.hid hR; have HF := Lib.hid hF; have HD := Lib.hid hD
  clear hX hC hR hF hD bs bc HK
  obtain ⟨c0, c1, c2, c3, c4⟩ := (De.in5f HD1.out).1
  go_enter Try.func5, Try.ntmps5
  go_upto_region 1 with (fail)
  rw [← hW1]
  clear hW1
  go_upto_region 2 with (go_at_call 12; (with_reducible refine (HX.out _).mono ?_); rintro e w1 ⟨rfl, g1⟩; have G1 := Lib.hid g1; have B1 := Lib.hid (HD1.out.only g1 (by simp)); clear g1 c0 c1 c2 c3 c4)
  have HS := Lib.hid (De.ck_start (y := st % 256) (z := De.wn n) HD1.out HC1.out HG1.out G1.out)
  have HLT := Lib.hid (show w.heap.size + 1 < w1.heap.size from by have := (HC1.out.only G1.out (by simp)).lt; omega)
  have B2 := Lib.hid (B1.out.alloc (.cells #[.int .u8 2, .int .u8 (st % 256), .int .i64 a, .int .i64 (De.wn n), .int .i64 g] 24))
  obtain ⟨c0, c1, c2, c3, c4⟩ := (De.in5f B2.out).1
  go_upto_region 3 with (fail)
  clear c0 c1 c2 c3 c4
  obtain ⟨bx, hbx⟩ : ∃ bx, bx = w1.heap.size := ⟨_, rfl⟩
  obtain ⟨bw, hbw⟩ : ∃ bw, bw = w1.heap.size + 1 := ⟨_, rfl⟩
  obtain ⟨W3, hW3⟩ : ∃ W3, W3 = (w1.alloc (.cells #[.int .u8 2, .int .u8 (st % 256), .int .i64 a, .int .i64 (De.wn n), .int .i64 g] 24)).alloc (.cells #[.int .u8 2, .int .u8 s, .int .i64 a, .int .i64 l, .int .i64 g] 24) := ⟨_, rfl⟩
  have hbxw : bw = bx + 1 := by omega
  rw [← hW3, ← hbw, ← hbx] at HS ⊢
  rw [← hbx] at HLT
  have HBW := Lib.hid hbxw
  clear hW3 hbx hbw hbxw
  obtain ⟨⟨d0, d1, d2, d3, d4⟩, f0, f1, f2, f3, f4⟩ := De.in5f HS.out.wb
  go_upto_region 5 with (first
    | (go_at_call 13; (with_reducible refine (rlow_any _ _).mono ?_); rintro e w' ⟨rfl, rfl⟩)
    | (go_at_call 14; (with_reducible refine (rhigh_any _ _).mono ?_); rintro e w' ⟨rfl, rfl⟩))
  clear d0 d1 d2 d3 d4 f0 f1 f2 f3 f4
  rw [← HEw.out]
  obtain ⟨W4, hW4⟩ : ∃ W4, W4 = (W3.setCell ⟨bw, 1, none⟩ (.int .u8 (st % 256))).setCell ⟨bw, 3, none⟩ (.int .i64 (De.wn n)) := ⟨_, rfl⟩
  have HT := Lib.hid (De.ck_put HS.out HLT.out (by have := HBW.out; omega) _ hW4)
  rw [← hW4]
  clear hW4 HS
  generalize De.wn n = nn at *
  obtain ⟨d0, d1, d2, d3, d4⟩ := (De.in5f HT.out.db).1
  go_upto_region 6 with (fail)
  have d0r := fun d os => cell_regrown d0 d os; have d1r := fun d os => cell_regrown d1 d os; have d2r := fun d os => cell_regrown d2 d os; have d3r := fun d os => cell_regrown d3 d os; have d4r := fun d os => cell_regrown d4 d os
  obtain ⟨x0, x1, x2, x3, x4⟩ := (De.in5f HT.out.xb).1
  have x0r := fun d os => cell_regrown x0 d os; have x1r := fun d os => cell_regrown x1 d os; have x2r := fun d os => cell_regrown x2 d os; have x3r := fun d os => cell_regrown x3 d os; have x4r := fun d os => cell_regrown x4 d os
  obtain ⟨y0, y1, y2, y3, y4⟩ := (De.in5f HT.out.wb).1
  have y0r := fun d os => cell_regrown y0 d os; have y1r := fun d os => cell_regrown y1 d os; have y2r := fun d os => cell_regrown y2 d os; have y3r := fun d os => cell_regrown y3 d os; have y4r := fun d os => cell_regrown y4 d os
  obtain ⟨t0, t1, t2, t3, t4, t5, t6, t7, t8, t9⟩ := De.cells10 HT.out.cb
  have t0r := fun d os => cell_regrown t0 d os; have t1r := fun d os => cell_regrown t1 d os; have t2r := fun d os => cell_regrown t2 d os; have t3r := fun d os => cell_regrown t3 d os; have t4r := fun d os => cell_regrown t4 d os; have t5r := fun d os => cell_regrown t5 d os; have t6r := fun d os => cell_regrown t6 d os; have t7r := fun d os => cell_regrown t7 d os; have t8r := fun d os => cell_regrown t8 d os; have t9r := fun d os => cell_regrown t9 d os
  have HGR := Lib.hid HT.out.gr
  clear d0 d1 d2 d3 d4 x0 x1 x2 x3 x4 y0 y1 y2 y3 y4 t0 t1 t2 t3 t4 t5 t6 t7 t8 t9
  refine wp_region_quiet_below (by kernel_rfl) (by kernel_rfl) ?_
  repeat (quiet_step ((first
    | (go_at_call 9; with_reducible exact Calls.regrown_of (HL.out _))
    | (go_at_call 15; with_reducible exact Calls.regrown_of (HC.out _))
    | (go_at_call 16; with_reducible exact Calls.regrown_of (HR.out _))
    | (go_at_call 17; with_reducible exact Calls.regrown_of (HF.out _))
    | (go_at_call 18; with_reducible exact Calls.regrown_of (HD.out _)))))
  refine wpQuiet_nil ?_
  rintro _ ⟨⟨dq, osq⟩, rfl⟩
  have HBE := Lib.hid (only_trans HGR.out (De.gro (below_regrown W4 dq osq)))
  generalize grow (redrawn W4 dq) osq = wz at HBE ⊢
  clear d0r d1r d2r d3r d4r x0r x1r x2r x3r x4r y0r y1r y2r y3r y4r t0r t1r t2r t3r t4r t5r t6r t7r t8r t9r
  go_wp2
  go_ret
  exact ⟨by first | rfl | simp, De.bel HBE.out⟩

set_option maxHeartbeats 3200000 in
theorem De.checks_3 (k s : Nat) (a l g st n : Int) (c : Nat → Int) (w : World) (hk : k < 256) (bs : c 1 ≤ 9223372036854775807) (bc : c 9 ≤ 9223372036854775807) (hkk : k = 3) : Calls Try.prog 5 #[.agg (De.dc k s a l g), .agg (De.cl c), .int .i64 st, .int .i64 n] w fun e w' => e = .returned (.bool true) ∧ Below w.heap.size w w' := by
  have HL := Lib.hid (show ∀ W, Calls Try.prog 9 #[] W (fun e w' => e = .returned (.bool true) ∧ Below W.heap.size W w') from fun W => (De.live_any W).mono fun e w' ⟨h1, h2⟩ => ⟨h1, De.bel h2⟩)
  have hC := fun W => (De.check_any k s a l g c W hk bs bc).mono (R' := fun e w' => e = .returned (.int .i64 (De.chk k a l g (c 1) (c 9))) ∧ Below W.heap.size W w') fun e w' ⟨h1, h2⟩ => ⟨h1, De.bel h2⟩
  have hR := fun W => (De.rcheck_any k s a l g c W hk bs bc).mono (R' := fun e w' => e = .returned (.int .i64 (De.chk k a l g (c 1) (c 9))) ∧ Below W.heap.size W w') fun e w' ⟨h1, h2⟩ => ⟨h1, De.bel h2⟩
  have hF := fun W => (De.fills_any k W hk).mono (R' := fun e w' => e = .returned (.bool false) ∧ Below W.heap.size W w') fun e w' ⟨h1, h2⟩ => ⟨by rw [h1]; subst hkk; rfl, by rw [← h2]; exact Below.refl _ _⟩
  have hD := fun W => (De.reads_any k W hk).mono (R' := fun e w' => e = .returned (.bool true) ∧ Below W.heap.size W w') fun e w' ⟨h1, h2⟩ => ⟨by rw [h1]; subst hkk; rfl, by rw [← h2]; exact Below.refl _ _⟩
  have hX := De.closed2 k s a l g st n
  have hq := fun W => De.eql_desc k (st % 256) a (De.wn n) g W
  generalize De.chk k a l g (c 1) (c 9) = zz at *
  have HEw := Lib.hid (show De.wn n = n % 256 + 256 * (n / 256 % 256) from rfl)
  have hw1 : IntKind.u8.wrap (st % 256) = st % 256 := by rw [IntKind.wrap_u8]; omega
  have m1 : st % 256 % 256 = st % 256 := by omega
  have HK := Lib.hid (De.cl_is c)
  obtain ⟨W1, hW1⟩ : ∃ W1, W1 = (w.alloc (.cells (De.dc k s a l g) 24)).alloc (.cells (De.cl c) 34) := ⟨_, rfl⟩
  have HD1 := Lib.hid (show Blk W1 w.heap.size 24 #[.int .u8 k, .int .u8 s, .int .i64 a, .int .i64 l, .int .i64 g] from by rw [hW1]; exact (Blk.new _ _ _).alloc _)
  have HC1 := Lib.hid (show Blk W1 (w.heap.size + 1) 34 (De.cl c) from by
    rw [hW1]
    have := Blk.new (w.alloc (.cells (De.dc k s a l g) 24)) 34 (De.cl c)
    simpa using this)
  have HG1 := Lib.hid (show w.grownBy W1 none from by rw [hW1]; exact only_alloc (only_alloc (only_refl _ _) _) _)
  unfold De.dc at hC hR hW1 ⊢
  rw [HK.out] at hC hR hW1 ⊢
  have hki : (k : Int) = 3 := by omega
  rw [hki] at HD1 hC hR hF hD hX hW1 hq ⊢
  clear hkk hki
  have HX := Lib.hid hX; have HC := Lib.hid hC; have HR := Lib.hid hR; have HF := Lib.hid hF; have HD := Lib.hid hD
  clear hX hC hR hF hD bs bc HK
  obtain ⟨c0, c1, c2, c3, c4⟩ := (De.in5f HD1.out).1
  go_enter Try.func5, Try.ntmps5
  go_upto_region 1 with (fail)
  rw [← hW1]
  clear hW1
  go_upto_region 2 with (go_at_call 12; (with_reducible refine (HX.out _).mono ?_); rintro e w1 ⟨rfl, g1⟩; have G1 := Lib.hid g1; have B1 := Lib.hid (HD1.out.only g1 (by simp)); clear g1 c0 c1 c2 c3 c4)
  have HS := Lib.hid (De.ck_start (y := st % 256) (z := De.wn n) HD1.out HC1.out HG1.out G1.out)
  have HLT := Lib.hid (show w.heap.size + 1 < w1.heap.size from by have := (HC1.out.only G1.out (by simp)).lt; omega)
  have B2 := Lib.hid (B1.out.alloc (.cells #[.int .u8 3, .int .u8 (st % 256), .int .i64 a, .int .i64 (De.wn n), .int .i64 g] 24))
  obtain ⟨c0, c1, c2, c3, c4⟩ := (De.in5f B2.out).1
  go_upto_region 3 with (fail)
  clear c0 c1 c2 c3 c4
  obtain ⟨bx, hbx⟩ : ∃ bx, bx = w1.heap.size := ⟨_, rfl⟩
  obtain ⟨bw, hbw⟩ : ∃ bw, bw = w1.heap.size + 1 := ⟨_, rfl⟩
  obtain ⟨W3, hW3⟩ : ∃ W3, W3 = (w1.alloc (.cells #[.int .u8 3, .int .u8 (st % 256), .int .i64 a, .int .i64 (De.wn n), .int .i64 g] 24)).alloc (.cells #[.int .u8 3, .int .u8 s, .int .i64 a, .int .i64 l, .int .i64 g] 24) := ⟨_, rfl⟩
  have hbxw : bw = bx + 1 := by omega
  rw [← hW3, ← hbw, ← hbx] at HS ⊢
  rw [← hbx] at HLT
  have HBW := Lib.hid hbxw
  clear hW3 hbx hbw hbxw
  obtain ⟨⟨d0, d1, d2, d3, d4⟩, f0, f1, f2, f3, f4⟩ := De.in5f HS.out.wb
  go_upto_region 5 with (first
    | (go_at_call 13; (with_reducible refine (rlow_any _ _).mono ?_); rintro e w' ⟨rfl, rfl⟩)
    | (go_at_call 14; (with_reducible refine (rhigh_any _ _).mono ?_); rintro e w' ⟨rfl, rfl⟩))
  clear d0 d1 d2 d3 d4 f0 f1 f2 f3 f4
  rw [← HEw.out]
  obtain ⟨W4, hW4⟩ : ∃ W4, W4 = (W3.setCell ⟨bw, 1, none⟩ (.int .u8 (st % 256))).setCell ⟨bw, 3, none⟩ (.int .i64 (De.wn n)) := ⟨_, rfl⟩
  have HT := Lib.hid (De.ck_put HS.out HLT.out (by have := HBW.out; omega) _ hW4)
  rw [← hW4]
  clear hW4 HS
  generalize De.wn n = nn at *
  obtain ⟨d0, d1, d2, d3, d4⟩ := (De.in5f HT.out.db).1
  go_upto_region 6 with (fail)
  have d0r := fun d os => cell_regrown d0 d os; have d1r := fun d os => cell_regrown d1 d os; have d2r := fun d os => cell_regrown d2 d os; have d3r := fun d os => cell_regrown d3 d os; have d4r := fun d os => cell_regrown d4 d os
  obtain ⟨x0, x1, x2, x3, x4⟩ := (De.in5f HT.out.xb).1
  have x0r := fun d os => cell_regrown x0 d os; have x1r := fun d os => cell_regrown x1 d os; have x2r := fun d os => cell_regrown x2 d os; have x3r := fun d os => cell_regrown x3 d os; have x4r := fun d os => cell_regrown x4 d os
  obtain ⟨y0, y1, y2, y3, y4⟩ := (De.in5f HT.out.wb).1
  have y0r := fun d os => cell_regrown y0 d os; have y1r := fun d os => cell_regrown y1 d os; have y2r := fun d os => cell_regrown y2 d os; have y3r := fun d os => cell_regrown y3 d os; have y4r := fun d os => cell_regrown y4 d os
  obtain ⟨t0, t1, t2, t3, t4, t5, t6, t7, t8, t9⟩ := De.cells10 HT.out.cb
  have t0r := fun d os => cell_regrown t0 d os; have t1r := fun d os => cell_regrown t1 d os; have t2r := fun d os => cell_regrown t2 d os; have t3r := fun d os => cell_regrown t3 d os; have t4r := fun d os => cell_regrown t4 d os; have t5r := fun d os => cell_regrown t5 d os; have t6r := fun d os => cell_regrown t6 d os; have t7r := fun d os => cell_regrown t7 d os; have t8r := fun d os => cell_regrown t8 d os; have t9r := fun d os => cell_regrown t9 d os
  have HGR := Lib.hid HT.out.gr
  clear d0 d1 d2 d3 d4 x0 x1 x2 x3 x4 y0 y1 y2 y3 y4 t0 t1 t2 t3 t4 t5 t6 t7 t8 t9
  refine wp_region_quiet_below (by kernel_rfl) (by kernel_rfl) ?_
  repeat (quiet_step ((first
    | (go_at_call 9; with_reducible exact Calls.regrown_of (HL.out _))
    | (go_at_call 15; with_reducible exact Calls.regrown_of (HC.out _))
    | (go_at_call 16; with_reducible exact Calls.regrown_of (HR.out _))
    | (go_at_call 17; with_reducible exact Calls.regrown_of (HF.out _))
    | (go_at_call 18; with_reducible exact Calls.regrown_of (HD.out _)))))
  refine wpQuiet_nil ?_
  rintro _ ⟨⟨dq, osq⟩, rfl⟩
  have HBE := Lib.hid (only_trans HGR.out (De.gro (below_regrown W4 dq osq)))
  generalize grow (redrawn W4 dq) osq = wz at HBE ⊢
  clear d0r d1r d2r d3r d4r x0r x1r x2r x3r x4r y0r y1r y2r y3r y4r t0r t1r t2r t3r t4r t5r t6r t7r t8r t9r
  go_wp2
  go_ret
  exact ⟨by first | rfl | simp, De.bel HBE.out⟩

set_option maxHeartbeats 3200000 in
theorem De.checks_4 (k s : Nat) (a l g st n : Int) (c : Nat → Int) (w : World) (hk : k < 256) (bs : c 1 ≤ 9223372036854775807) (bc : c 9 ≤ 9223372036854775807) (hkk : k = 4) : Calls Try.prog 5 #[.agg (De.dc k s a l g), .agg (De.cl c), .int .i64 st, .int .i64 n] w fun e w' => e = .returned (.bool true) ∧ Below w.heap.size w w' := by
  have HL := Lib.hid (show ∀ W, Calls Try.prog 9 #[] W (fun e w' => e = .returned (.bool true) ∧ Below W.heap.size W w') from fun W => (De.live_any W).mono fun e w' ⟨h1, h2⟩ => ⟨h1, De.bel h2⟩)
  have hC := fun W => (De.check_any k s a l g c W hk bs bc).mono (R' := fun e w' => e = .returned (.int .i64 (De.chk k a l g (c 1) (c 9))) ∧ Below W.heap.size W w') fun e w' ⟨h1, h2⟩ => ⟨h1, De.bel h2⟩
  have hR := fun W => (De.rcheck_any k s a l g c W hk bs bc).mono (R' := fun e w' => e = .returned (.int .i64 (De.chk k a l g (c 1) (c 9))) ∧ Below W.heap.size W w') fun e w' ⟨h1, h2⟩ => ⟨h1, De.bel h2⟩
  have hF := fun W => (De.fills_any k W hk).mono (R' := fun e w' => e = .returned (.bool true) ∧ Below W.heap.size W w') fun e w' ⟨h1, h2⟩ => ⟨by rw [h1]; subst hkk; rfl, by rw [← h2]; exact Below.refl _ _⟩
  have hD := fun W => (De.reads_any k W hk).mono (R' := fun e w' => e = .returned (.bool false) ∧ Below W.heap.size W w') fun e w' ⟨h1, h2⟩ => ⟨by rw [h1]; subst hkk; rfl, by rw [← h2]; exact Below.refl _ _⟩
  have hX := De.closed2 k s a l g st n
  have hq := fun W => De.eql_desc k (st % 256) a (De.wn n) g W
  generalize De.chk k a l g (c 1) (c 9) = zz at *
  have HEw := Lib.hid (show De.wn n = n % 256 + 256 * (n / 256 % 256) from rfl)
  have hw1 : IntKind.u8.wrap (st % 256) = st % 256 := by rw [IntKind.wrap_u8]; omega
  have m1 : st % 256 % 256 = st % 256 := by omega
  have HK := Lib.hid (De.cl_is c)
  obtain ⟨W1, hW1⟩ : ∃ W1, W1 = (w.alloc (.cells (De.dc k s a l g) 24)).alloc (.cells (De.cl c) 34) := ⟨_, rfl⟩
  have HD1 := Lib.hid (show Blk W1 w.heap.size 24 #[.int .u8 k, .int .u8 s, .int .i64 a, .int .i64 l, .int .i64 g] from by rw [hW1]; exact (Blk.new _ _ _).alloc _)
  have HC1 := Lib.hid (show Blk W1 (w.heap.size + 1) 34 (De.cl c) from by
    rw [hW1]
    have := Blk.new (w.alloc (.cells (De.dc k s a l g) 24)) 34 (De.cl c)
    simpa using this)
  have HG1 := Lib.hid (show w.grownBy W1 none from by rw [hW1]; exact only_alloc (only_alloc (only_refl _ _) _) _)
  unfold De.dc at hC hR hW1 ⊢
  rw [HK.out] at hC hR hW1 ⊢
  have hki : (k : Int) = 4 := by omega
  rw [hki] at HD1 hC hR hF hD hX hW1 hq ⊢
  clear hkk hki
  have HX := Lib.hid hX; have HC := Lib.hid hC; have HR := Lib.hid hR; have HF := Lib.hid hF; have HD := Lib.hid hD
  clear hX hC hR hF hD bs bc HK
  obtain ⟨c0, c1, c2, c3, c4⟩ := (De.in5f HD1.out).1
  go_enter Try.func5, Try.ntmps5
  go_upto_region 1 with (fail)
  rw [← hW1]
  clear hW1
  go_upto_region 2 with (go_at_call 12; (with_reducible refine (HX.out _).mono ?_); rintro e w1 ⟨rfl, g1⟩; have G1 := Lib.hid g1; have B1 := Lib.hid (HD1.out.only g1 (by simp)); clear g1 c0 c1 c2 c3 c4)
  have HS := Lib.hid (De.ck_start (y := st % 256) (z := De.wn n) HD1.out HC1.out HG1.out G1.out)
  have HLT := Lib.hid (show w.heap.size + 1 < w1.heap.size from by have := (HC1.out.only G1.out (by simp)).lt; omega)
  have B2 := Lib.hid (B1.out.alloc (.cells #[.int .u8 4, .int .u8 (st % 256), .int .i64 a, .int .i64 (De.wn n), .int .i64 g] 24))
  obtain ⟨c0, c1, c2, c3, c4⟩ := (De.in5f B2.out).1
  go_upto_region 3 with (fail)
  clear c0 c1 c2 c3 c4
  obtain ⟨bx, hbx⟩ : ∃ bx, bx = w1.heap.size := ⟨_, rfl⟩
  obtain ⟨bw, hbw⟩ : ∃ bw, bw = w1.heap.size + 1 := ⟨_, rfl⟩
  obtain ⟨W3, hW3⟩ : ∃ W3, W3 = (w1.alloc (.cells #[.int .u8 4, .int .u8 (st % 256), .int .i64 a, .int .i64 (De.wn n), .int .i64 g] 24)).alloc (.cells #[.int .u8 4, .int .u8 s, .int .i64 a, .int .i64 l, .int .i64 g] 24) := ⟨_, rfl⟩
  have hbxw : bw = bx + 1 := by omega
  rw [← hW3, ← hbw, ← hbx] at HS ⊢
  rw [← hbx] at HLT
  have HBW := Lib.hid hbxw
  clear hW3 hbx hbw hbxw
  obtain ⟨⟨d0, d1, d2, d3, d4⟩, f0, f1, f2, f3, f4⟩ := De.in5f HS.out.wb
  go_upto_region 5 with (first
    | (go_at_call 13; (with_reducible refine (rlow_any _ _).mono ?_); rintro e w' ⟨rfl, rfl⟩)
    | (go_at_call 14; (with_reducible refine (rhigh_any _ _).mono ?_); rintro e w' ⟨rfl, rfl⟩))
  clear d0 d1 d2 d3 d4 f0 f1 f2 f3 f4
  rw [← HEw.out]
  obtain ⟨W4, hW4⟩ : ∃ W4, W4 = (W3.setCell ⟨bw, 1, none⟩ (.int .u8 (st % 256))).setCell ⟨bw, 3, none⟩ (.int .i64 (De.wn n)) := ⟨_, rfl⟩
  have HT := Lib.hid (De.ck_put HS.out HLT.out (by have := HBW.out; omega) _ hW4)
  rw [← hW4]
  clear hW4 HS
  generalize De.wn n = nn at *
  obtain ⟨d0, d1, d2, d3, d4⟩ := (De.in5f HT.out.db).1
  go_upto_region 6 with (fail)
  have d0r := fun d os => cell_regrown d0 d os; have d1r := fun d os => cell_regrown d1 d os; have d2r := fun d os => cell_regrown d2 d os; have d3r := fun d os => cell_regrown d3 d os; have d4r := fun d os => cell_regrown d4 d os
  obtain ⟨x0, x1, x2, x3, x4⟩ := (De.in5f HT.out.xb).1
  have x0r := fun d os => cell_regrown x0 d os; have x1r := fun d os => cell_regrown x1 d os; have x2r := fun d os => cell_regrown x2 d os; have x3r := fun d os => cell_regrown x3 d os; have x4r := fun d os => cell_regrown x4 d os
  obtain ⟨y0, y1, y2, y3, y4⟩ := (De.in5f HT.out.wb).1
  have y0r := fun d os => cell_regrown y0 d os; have y1r := fun d os => cell_regrown y1 d os; have y2r := fun d os => cell_regrown y2 d os; have y3r := fun d os => cell_regrown y3 d os; have y4r := fun d os => cell_regrown y4 d os
  obtain ⟨t0, t1, t2, t3, t4, t5, t6, t7, t8, t9⟩ := De.cells10 HT.out.cb
  have t0r := fun d os => cell_regrown t0 d os; have t1r := fun d os => cell_regrown t1 d os; have t2r := fun d os => cell_regrown t2 d os; have t3r := fun d os => cell_regrown t3 d os; have t4r := fun d os => cell_regrown t4 d os; have t5r := fun d os => cell_regrown t5 d os; have t6r := fun d os => cell_regrown t6 d os; have t7r := fun d os => cell_regrown t7 d os; have t8r := fun d os => cell_regrown t8 d os; have t9r := fun d os => cell_regrown t9 d os
  have HGR := Lib.hid HT.out.gr
  clear d0 d1 d2 d3 d4 x0 x1 x2 x3 x4 y0 y1 y2 y3 y4 t0 t1 t2 t3 t4 t5 t6 t7 t8 t9
  refine wp_region_quiet_below (by kernel_rfl) (by kernel_rfl) ?_
  repeat (quiet_step ((first
    | (go_at_call 9; with_reducible exact Calls.regrown_of (HL.out _))
    | (go_at_call 15; with_reducible exact Calls.regrown_of (HC.out _))
    | (go_at_call 16; with_reducible exact Calls.regrown_of (HR.out _))
    | (go_at_call 17; with_reducible exact Calls.regrown_of (HF.out _))
    | (go_at_call 18; with_reducible exact Calls.regrown_of (HD.out _)))))
  refine wpQuiet_nil ?_
  rintro _ ⟨⟨dq, osq⟩, rfl⟩
  have HBE := Lib.hid (only_trans HGR.out (De.gro (below_regrown W4 dq osq)))
  generalize grow (redrawn W4 dq) osq = wz at HBE ⊢
  clear d0r d1r d2r d3r d4r x0r x1r x2r x3r x4r y0r y1r y2r y3r y4r t0r t1r t2r t3r t4r t5r t6r t7r t8r t9r
  go_wp2
  go_ret
  exact ⟨by first | rfl | simp, De.bel HBE.out⟩

set_option maxHeartbeats 3200000 in
theorem De.checks_5 (k s : Nat) (a l g st n : Int) (c : Nat → Int) (w : World) (hk : k < 256) (bs : c 1 ≤ 9223372036854775807) (bc : c 9 ≤ 9223372036854775807) (hkk : k = 5) : Calls Try.prog 5 #[.agg (De.dc k s a l g), .agg (De.cl c), .int .i64 st, .int .i64 n] w fun e w' => e = .returned (.bool true) ∧ Below w.heap.size w w' := by
  have HL := Lib.hid (show ∀ W, Calls Try.prog 9 #[] W (fun e w' => e = .returned (.bool true) ∧ Below W.heap.size W w') from fun W => (De.live_any W).mono fun e w' ⟨h1, h2⟩ => ⟨h1, De.bel h2⟩)
  have hC := fun W => (De.check_any k s a l g c W hk bs bc).mono (R' := fun e w' => e = .returned (.int .i64 (De.chk k a l g (c 1) (c 9))) ∧ Below W.heap.size W w') fun e w' ⟨h1, h2⟩ => ⟨h1, De.bel h2⟩
  have hR := fun W => (De.rcheck_any k s a l g c W hk bs bc).mono (R' := fun e w' => e = .returned (.int .i64 (De.chk k a l g (c 1) (c 9))) ∧ Below W.heap.size W w') fun e w' ⟨h1, h2⟩ => ⟨h1, De.bel h2⟩
  have hF := fun W => (De.fills_any k W hk).mono (R' := fun e w' => e = .returned (.bool true) ∧ Below W.heap.size W w') fun e w' ⟨h1, h2⟩ => ⟨by rw [h1]; subst hkk; rfl, by rw [← h2]; exact Below.refl _ _⟩
  have hD := fun W => (De.reads_any k W hk).mono (R' := fun e w' => e = .returned (.bool false) ∧ Below W.heap.size W w') fun e w' ⟨h1, h2⟩ => ⟨by rw [h1]; subst hkk; rfl, by rw [← h2]; exact Below.refl _ _⟩
  have hX := De.closed2 k s a l g st n
  have hq := fun W => De.eql_desc k (st % 256) a (De.wn n) g W
  generalize De.chk k a l g (c 1) (c 9) = zz at *
  have HEw := Lib.hid (show De.wn n = n % 256 + 256 * (n / 256 % 256) from rfl)
  have hw1 : IntKind.u8.wrap (st % 256) = st % 256 := by rw [IntKind.wrap_u8]; omega
  have m1 : st % 256 % 256 = st % 256 := by omega
  have HK := Lib.hid (De.cl_is c)
  obtain ⟨W1, hW1⟩ : ∃ W1, W1 = (w.alloc (.cells (De.dc k s a l g) 24)).alloc (.cells (De.cl c) 34) := ⟨_, rfl⟩
  have HD1 := Lib.hid (show Blk W1 w.heap.size 24 #[.int .u8 k, .int .u8 s, .int .i64 a, .int .i64 l, .int .i64 g] from by rw [hW1]; exact (Blk.new _ _ _).alloc _)
  have HC1 := Lib.hid (show Blk W1 (w.heap.size + 1) 34 (De.cl c) from by
    rw [hW1]
    have := Blk.new (w.alloc (.cells (De.dc k s a l g) 24)) 34 (De.cl c)
    simpa using this)
  have HG1 := Lib.hid (show w.grownBy W1 none from by rw [hW1]; exact only_alloc (only_alloc (only_refl _ _) _) _)
  unfold De.dc at hC hR hW1 ⊢
  rw [HK.out] at hC hR hW1 ⊢
  have hki : (k : Int) = 5 := by omega
  rw [hki] at HD1 hC hR hF hD hX hW1 hq ⊢
  clear hkk hki
  have HX := Lib.hid hX; have HC := Lib.hid hC; have HR := Lib.hid hR; have HF := Lib.hid hF; have HD := Lib.hid hD
  clear hX hC hR hF hD bs bc HK
  obtain ⟨c0, c1, c2, c3, c4⟩ := (De.in5f HD1.out).1
  go_enter Try.func5, Try.ntmps5
  go_upto_region 1 with (fail)
  rw [← hW1]
  clear hW1
  go_upto_region 2 with (go_at_call 12; (with_reducible refine (HX.out _).mono ?_); rintro e w1 ⟨rfl, g1⟩; have G1 := Lib.hid g1; have B1 := Lib.hid (HD1.out.only g1 (by simp)); clear g1 c0 c1 c2 c3 c4)
  have HS := Lib.hid (De.ck_start (y := st % 256) (z := De.wn n) HD1.out HC1.out HG1.out G1.out)
  have HLT := Lib.hid (show w.heap.size + 1 < w1.heap.size from by have := (HC1.out.only G1.out (by simp)).lt; omega)
  have B2 := Lib.hid (B1.out.alloc (.cells #[.int .u8 5, .int .u8 (st % 256), .int .i64 a, .int .i64 (De.wn n), .int .i64 g] 24))
  obtain ⟨c0, c1, c2, c3, c4⟩ := (De.in5f B2.out).1
  go_upto_region 3 with (fail)
  clear c0 c1 c2 c3 c4
  obtain ⟨bx, hbx⟩ : ∃ bx, bx = w1.heap.size := ⟨_, rfl⟩
  obtain ⟨bw, hbw⟩ : ∃ bw, bw = w1.heap.size + 1 := ⟨_, rfl⟩
  obtain ⟨W3, hW3⟩ : ∃ W3, W3 = (w1.alloc (.cells #[.int .u8 5, .int .u8 (st % 256), .int .i64 a, .int .i64 (De.wn n), .int .i64 g] 24)).alloc (.cells #[.int .u8 5, .int .u8 s, .int .i64 a, .int .i64 l, .int .i64 g] 24) := ⟨_, rfl⟩
  have hbxw : bw = bx + 1 := by omega
  rw [← hW3, ← hbw, ← hbx] at HS ⊢
  rw [← hbx] at HLT
  have HBW := Lib.hid hbxw
  clear hW3 hbx hbw hbxw
  obtain ⟨⟨d0, d1, d2, d3, d4⟩, f0, f1, f2, f3, f4⟩ := De.in5f HS.out.wb
  go_upto_region 5 with (first
    | (go_at_call 13; (with_reducible refine (rlow_any _ _).mono ?_); rintro e w' ⟨rfl, rfl⟩)
    | (go_at_call 14; (with_reducible refine (rhigh_any _ _).mono ?_); rintro e w' ⟨rfl, rfl⟩))
  clear d0 d1 d2 d3 d4 f0 f1 f2 f3 f4
  rw [← HEw.out]
  obtain ⟨W4, hW4⟩ : ∃ W4, W4 = (W3.setCell ⟨bw, 1, none⟩ (.int .u8 (st % 256))).setCell ⟨bw, 3, none⟩ (.int .i64 (De.wn n)) := ⟨_, rfl⟩
  have HT := Lib.hid (De.ck_put HS.out HLT.out (by have := HBW.out; omega) _ hW4)
  rw [← hW4]
  clear hW4 HS
  generalize De.wn n = nn at *
  obtain ⟨d0, d1, d2, d3, d4⟩ := (De.in5f HT.out.db).1
  go_upto_region 6 with (fail)
  have d0r := fun d os => cell_regrown d0 d os; have d1r := fun d os => cell_regrown d1 d os; have d2r := fun d os => cell_regrown d2 d os; have d3r := fun d os => cell_regrown d3 d os; have d4r := fun d os => cell_regrown d4 d os
  obtain ⟨x0, x1, x2, x3, x4⟩ := (De.in5f HT.out.xb).1
  have x0r := fun d os => cell_regrown x0 d os; have x1r := fun d os => cell_regrown x1 d os; have x2r := fun d os => cell_regrown x2 d os; have x3r := fun d os => cell_regrown x3 d os; have x4r := fun d os => cell_regrown x4 d os
  obtain ⟨y0, y1, y2, y3, y4⟩ := (De.in5f HT.out.wb).1
  have y0r := fun d os => cell_regrown y0 d os; have y1r := fun d os => cell_regrown y1 d os; have y2r := fun d os => cell_regrown y2 d os; have y3r := fun d os => cell_regrown y3 d os; have y4r := fun d os => cell_regrown y4 d os
  obtain ⟨t0, t1, t2, t3, t4, t5, t6, t7, t8, t9⟩ := De.cells10 HT.out.cb
  have t0r := fun d os => cell_regrown t0 d os; have t1r := fun d os => cell_regrown t1 d os; have t2r := fun d os => cell_regrown t2 d os; have t3r := fun d os => cell_regrown t3 d os; have t4r := fun d os => cell_regrown t4 d os; have t5r := fun d os => cell_regrown t5 d os; have t6r := fun d os => cell_regrown t6 d os; have t7r := fun d os => cell_regrown t7 d os; have t8r := fun d os => cell_regrown t8 d os; have t9r := fun d os => cell_regrown t9 d os
  have HGR := Lib.hid HT.out.gr
  clear d0 d1 d2 d3 d4 x0 x1 x2 x3 x4 y0 y1 y2 y3 y4 t0 t1 t2 t3 t4 t5 t6 t7 t8 t9
  refine wp_region_quiet_below (by kernel_rfl) (by kernel_rfl) ?_
  repeat (quiet_step ((first
    | (go_at_call 9; with_reducible exact Calls.regrown_of (HL.out _))
    | (go_at_call 15; with_reducible exact Calls.regrown_of (HC.out _))
    | (go_at_call 16; with_reducible exact Calls.regrown_of (HR.out _))
    | (go_at_call 17; with_reducible exact Calls.regrown_of (HF.out _))
    | (go_at_call 18; with_reducible exact Calls.regrown_of (HD.out _)))))
  refine wpQuiet_nil ?_
  rintro _ ⟨⟨dq, osq⟩, rfl⟩
  have HBE := Lib.hid (only_trans HGR.out (De.gro (below_regrown W4 dq osq)))
  generalize grow (redrawn W4 dq) osq = wz at HBE ⊢
  clear d0r d1r d2r d3r d4r x0r x1r x2r x3r x4r y0r y1r y2r y3r y4r t0r t1r t2r t3r t4r t5r t6r t7r t8r t9r
  go_wp2
  go_ret
  exact ⟨by first | rfl | simp, De.bel HBE.out⟩

set_option maxHeartbeats 3200000 in
theorem De.checks_6 (k s : Nat) (a l g st n : Int) (c : Nat → Int) (w : World) (hk : k < 256) (bs : c 1 ≤ 9223372036854775807) (bc : c 9 ≤ 9223372036854775807) (hkk : k = 6) : Calls Try.prog 5 #[.agg (De.dc k s a l g), .agg (De.cl c), .int .i64 st, .int .i64 n] w fun e w' => e = .returned (.bool true) ∧ Below w.heap.size w w' := by
  have HL := Lib.hid (show ∀ W, Calls Try.prog 9 #[] W (fun e w' => e = .returned (.bool true) ∧ Below W.heap.size W w') from fun W => (De.live_any W).mono fun e w' ⟨h1, h2⟩ => ⟨h1, De.bel h2⟩)
  have hC := fun W => (De.check_any k s a l g c W hk bs bc).mono (R' := fun e w' => e = .returned (.int .i64 (De.chk k a l g (c 1) (c 9))) ∧ Below W.heap.size W w') fun e w' ⟨h1, h2⟩ => ⟨h1, De.bel h2⟩
  have hR := fun W => (De.rcheck_any k s a l g c W hk bs bc).mono (R' := fun e w' => e = .returned (.int .i64 (De.chk k a l g (c 1) (c 9))) ∧ Below W.heap.size W w') fun e w' ⟨h1, h2⟩ => ⟨h1, De.bel h2⟩
  have hF := fun W => (De.fills_any k W hk).mono (R' := fun e w' => e = .returned (.bool false) ∧ Below W.heap.size W w') fun e w' ⟨h1, h2⟩ => ⟨by rw [h1]; subst hkk; rfl, by rw [← h2]; exact Below.refl _ _⟩
  have hD := fun W => (De.reads_any k W hk).mono (R' := fun e w' => e = .returned (.bool true) ∧ Below W.heap.size W w') fun e w' ⟨h1, h2⟩ => ⟨by rw [h1]; subst hkk; rfl, by rw [← h2]; exact Below.refl _ _⟩
  have hX := De.closed2 k s a l g st n
  have hq := fun W => De.eql_desc k (st % 256) a (De.wn n) g W
  generalize De.chk k a l g (c 1) (c 9) = zz at *
  have HEw := Lib.hid (show De.wn n = n % 256 + 256 * (n / 256 % 256) from rfl)
  have hw1 : IntKind.u8.wrap (st % 256) = st % 256 := by rw [IntKind.wrap_u8]; omega
  have m1 : st % 256 % 256 = st % 256 := by omega
  have HK := Lib.hid (De.cl_is c)
  obtain ⟨W1, hW1⟩ : ∃ W1, W1 = (w.alloc (.cells (De.dc k s a l g) 24)).alloc (.cells (De.cl c) 34) := ⟨_, rfl⟩
  have HD1 := Lib.hid (show Blk W1 w.heap.size 24 #[.int .u8 k, .int .u8 s, .int .i64 a, .int .i64 l, .int .i64 g] from by rw [hW1]; exact (Blk.new _ _ _).alloc _)
  have HC1 := Lib.hid (show Blk W1 (w.heap.size + 1) 34 (De.cl c) from by
    rw [hW1]
    have := Blk.new (w.alloc (.cells (De.dc k s a l g) 24)) 34 (De.cl c)
    simpa using this)
  have HG1 := Lib.hid (show w.grownBy W1 none from by rw [hW1]; exact only_alloc (only_alloc (only_refl _ _) _) _)
  unfold De.dc at hC hR hW1 ⊢
  rw [HK.out] at hC hR hW1 ⊢
  have hki : (k : Int) = 6 := by omega
  rw [hki] at HD1 hC hR hF hD hX hW1 hq ⊢
  clear hkk hki
  have HX := Lib.hid hX; have HC := Lib.hid hC; have HR := Lib.hid hR; have HF := Lib.hid hF; have HD := Lib.hid hD
  clear hX hC hR hF hD bs bc HK
  obtain ⟨c0, c1, c2, c3, c4⟩ := (De.in5f HD1.out).1
  go_enter Try.func5, Try.ntmps5
  go_upto_region 1 with (fail)
  rw [← hW1]
  clear hW1
  go_upto_region 2 with (go_at_call 12; (with_reducible refine (HX.out _).mono ?_); rintro e w1 ⟨rfl, g1⟩; have G1 := Lib.hid g1; have B1 := Lib.hid (HD1.out.only g1 (by simp)); clear g1 c0 c1 c2 c3 c4)
  have HS := Lib.hid (De.ck_start (y := st % 256) (z := De.wn n) HD1.out HC1.out HG1.out G1.out)
  have HLT := Lib.hid (show w.heap.size + 1 < w1.heap.size from by have := (HC1.out.only G1.out (by simp)).lt; omega)
  have B2 := Lib.hid (B1.out.alloc (.cells #[.int .u8 6, .int .u8 (st % 256), .int .i64 a, .int .i64 (De.wn n), .int .i64 g] 24))
  obtain ⟨c0, c1, c2, c3, c4⟩ := (De.in5f B2.out).1
  go_upto_region 3 with (fail)
  clear c0 c1 c2 c3 c4
  obtain ⟨bx, hbx⟩ : ∃ bx, bx = w1.heap.size := ⟨_, rfl⟩
  obtain ⟨bw, hbw⟩ : ∃ bw, bw = w1.heap.size + 1 := ⟨_, rfl⟩
  obtain ⟨W3, hW3⟩ : ∃ W3, W3 = (w1.alloc (.cells #[.int .u8 6, .int .u8 (st % 256), .int .i64 a, .int .i64 (De.wn n), .int .i64 g] 24)).alloc (.cells #[.int .u8 6, .int .u8 s, .int .i64 a, .int .i64 l, .int .i64 g] 24) := ⟨_, rfl⟩
  have hbxw : bw = bx + 1 := by omega
  rw [← hW3, ← hbw, ← hbx] at HS ⊢
  rw [← hbx] at HLT
  have HBW := Lib.hid hbxw
  clear hW3 hbx hbw hbxw
  obtain ⟨⟨d0, d1, d2, d3, d4⟩, f0, f1, f2, f3, f4⟩ := De.in5f HS.out.wb
  go_upto_region 5 with (first
    | (go_at_call 13; (with_reducible refine (rlow_any _ _).mono ?_); rintro e w' ⟨rfl, rfl⟩)
    | (go_at_call 14; (with_reducible refine (rhigh_any _ _).mono ?_); rintro e w' ⟨rfl, rfl⟩))
  clear d0 d1 d2 d3 d4 f0 f1 f2 f3 f4
  rw [← HEw.out]
  obtain ⟨W4, hW4⟩ : ∃ W4, W4 = (W3.setCell ⟨bw, 1, none⟩ (.int .u8 (st % 256))).setCell ⟨bw, 3, none⟩ (.int .i64 (De.wn n)) := ⟨_, rfl⟩
  have HT := Lib.hid (De.ck_put HS.out HLT.out (by have := HBW.out; omega) _ hW4)
  rw [← hW4]
  clear hW4 HS
  generalize De.wn n = nn at *
  obtain ⟨d0, d1, d2, d3, d4⟩ := (De.in5f HT.out.db).1
  go_upto_region 6 with (fail)
  have d0r := fun d os => cell_regrown d0 d os; have d1r := fun d os => cell_regrown d1 d os; have d2r := fun d os => cell_regrown d2 d os; have d3r := fun d os => cell_regrown d3 d os; have d4r := fun d os => cell_regrown d4 d os
  obtain ⟨x0, x1, x2, x3, x4⟩ := (De.in5f HT.out.xb).1
  have x0r := fun d os => cell_regrown x0 d os; have x1r := fun d os => cell_regrown x1 d os; have x2r := fun d os => cell_regrown x2 d os; have x3r := fun d os => cell_regrown x3 d os; have x4r := fun d os => cell_regrown x4 d os
  obtain ⟨y0, y1, y2, y3, y4⟩ := (De.in5f HT.out.wb).1
  have y0r := fun d os => cell_regrown y0 d os; have y1r := fun d os => cell_regrown y1 d os; have y2r := fun d os => cell_regrown y2 d os; have y3r := fun d os => cell_regrown y3 d os; have y4r := fun d os => cell_regrown y4 d os
  obtain ⟨t0, t1, t2, t3, t4, t5, t6, t7, t8, t9⟩ := De.cells10 HT.out.cb
  have t0r := fun d os => cell_regrown t0 d os; have t1r := fun d os => cell_regrown t1 d os; have t2r := fun d os => cell_regrown t2 d os; have t3r := fun d os => cell_regrown t3 d os; have t4r := fun d os => cell_regrown t4 d os; have t5r := fun d os => cell_regrown t5 d os; have t6r := fun d os => cell_regrown t6 d os; have t7r := fun d os => cell_regrown t7 d os; have t8r := fun d os => cell_regrown t8 d os; have t9r := fun d os => cell_regrown t9 d os
  have HGR := Lib.hid HT.out.gr
  clear d0 d1 d2 d3 d4 x0 x1 x2 x3 x4 y0 y1 y2 y3 y4 t0 t1 t2 t3 t4 t5 t6 t7 t8 t9
  refine wp_region_quiet_below (by kernel_rfl) (by kernel_rfl) ?_
  repeat (quiet_step ((first
    | (go_at_call 9; with_reducible exact Calls.regrown_of (HL.out _))
    | (go_at_call 15; with_reducible exact Calls.regrown_of (HC.out _))
    | (go_at_call 16; with_reducible exact Calls.regrown_of (HR.out _))
    | (go_at_call 17; with_reducible exact Calls.regrown_of (HF.out _))
    | (go_at_call 18; with_reducible exact Calls.regrown_of (HD.out _)))))
  refine wpQuiet_nil ?_
  rintro _ ⟨⟨dq, osq⟩, rfl⟩
  have HBE := Lib.hid (only_trans HGR.out (De.gro (below_regrown W4 dq osq)))
  generalize grow (redrawn W4 dq) osq = wz at HBE ⊢
  clear d0r d1r d2r d3r d4r x0r x1r x2r x3r x4r y0r y1r y2r y3r y4r t0r t1r t2r t3r t4r t5r t6r t7r t8r t9r
  go_wp2
  go_ret
  exact ⟨by first | rfl | simp, De.bel HBE.out⟩

set_option maxHeartbeats 3200000 in
theorem De.checks_o (k s : Nat) (a l g st n : Int) (c : Nat → Int) (w : World) (hk : k < 256) (bs : c 1 ≤ 9223372036854775807) (bc : c 9 ≤ 9223372036854775807) (h7 : 7 ≤ k) (c1 : ((k : Int) == 1) = false) (c2 : ((k : Int) == 2) = false) (c3 : ((k : Int) == 3) = false) (c4 : ((k : Int) == 4) = false) (c5 : ((k : Int) == 5) = false) (c6 : ((k : Int) == 6) = false) : Calls Try.prog 5 #[.agg (De.dc k s a l g), .agg (De.cl c), .int .i64 st, .int .i64 n] w fun e w' => e = .returned (.bool true) ∧ Below w.heap.size w w' := by
  have HL := Lib.hid (show ∀ W, Calls Try.prog 9 #[] W (fun e w' => e = .returned (.bool true) ∧ Below W.heap.size W w') from fun W => (De.live_any W).mono fun e w' ⟨h1, h2⟩ => ⟨h1, De.bel h2⟩)
  have hC := fun W => (De.check_any k s a l g c W hk bs bc).mono (R' := fun e w' => e = .returned (.int .i64 (De.chk k a l g (c 1) (c 9))) ∧ Below W.heap.size W w') fun e w' ⟨h1, h2⟩ => ⟨h1, De.bel h2⟩
  have hR := fun W => (De.rcheck_any k s a l g c W hk bs bc).mono (R' := fun e w' => e = .returned (.int .i64 (De.chk k a l g (c 1) (c 9))) ∧ Below W.heap.size W w') fun e w' ⟨h1, h2⟩ => ⟨h1, De.bel h2⟩
  have hF := fun W => (De.fills_any k W hk).mono (R' := fun e w' => e = .returned (.bool false) ∧ Below W.heap.size W w') fun e w' ⟨h1, h2⟩ => ⟨by rw [h1]; rw [decide_eq_false (by omega)], by rw [← h2]; exact Below.refl _ _⟩
  have hD := fun W => (De.reads_any k W hk).mono (R' := fun e w' => e = .returned (.bool false) ∧ Below W.heap.size W w') fun e w' ⟨h1, h2⟩ => ⟨by rw [h1]; rw [decide_eq_false (by omega)], by rw [← h2]; exact Below.refl _ _⟩
  have hX := De.closed2 k s a l g st n
  have hq := fun W => De.eql_desc k (st % 256) a (De.wn n) g W
  generalize De.chk k a l g (c 1) (c 9) = zz at *
  have HEw := Lib.hid (show De.wn n = n % 256 + 256 * (n / 256 % 256) from rfl)
  have hw1 : IntKind.u8.wrap (st % 256) = st % 256 := by rw [IntKind.wrap_u8]; omega
  have m1 : st % 256 % 256 = st % 256 := by omega
  have HK := Lib.hid (De.cl_is c)
  obtain ⟨W1, hW1⟩ : ∃ W1, W1 = (w.alloc (.cells (De.dc k s a l g) 24)).alloc (.cells (De.cl c) 34) := ⟨_, rfl⟩
  have HD1 := Lib.hid (show Blk W1 w.heap.size 24 #[.int .u8 k, .int .u8 s, .int .i64 a, .int .i64 l, .int .i64 g] from by rw [hW1]; exact (Blk.new _ _ _).alloc _)
  have HC1 := Lib.hid (show Blk W1 (w.heap.size + 1) 34 (De.cl c) from by
    rw [hW1]
    have := Blk.new (w.alloc (.cells (De.dc k s a l g) 24)) 34 (De.cl c)
    simpa using this)
  have HG1 := Lib.hid (show w.grownBy W1 none from by rw [hW1]; exact only_alloc (only_alloc (only_refl _ _) _) _)
  unfold De.dc at hC hR hW1 ⊢
  rw [HK.out] at hC hR hW1 ⊢
  have HX := Lib.hid hX; have HC := Lib.hid hC; have HR := Lib.hid hR; have HF := Lib.hid hF; have HD := Lib.hid hD
  clear hX hC hR hF hD bs bc HK
  obtain ⟨c0, c1, c2, c3, c4⟩ := (De.in5f HD1.out).1
  go_enter Try.func5, Try.ntmps5
  go_upto_region 1 with (fail)
  rw [← hW1]
  clear hW1
  go_upto_region 2 with (go_at_call 12; (with_reducible refine (HX.out _).mono ?_); rintro e w1 ⟨rfl, g1⟩; have G1 := Lib.hid g1; have B1 := Lib.hid (HD1.out.only g1 (by simp)); clear g1 c0 c1 c2 c3 c4)
  have HS := Lib.hid (De.ck_start (y := st % 256) (z := De.wn n) HD1.out HC1.out HG1.out G1.out)
  have HLT := Lib.hid (show w.heap.size + 1 < w1.heap.size from by have := (HC1.out.only G1.out (by simp)).lt; omega)
  have B2 := Lib.hid (B1.out.alloc (.cells #[.int .u8 k, .int .u8 (st % 256), .int .i64 a, .int .i64 (De.wn n), .int .i64 g] 24))
  obtain ⟨c0, c1, c2, c3, c4⟩ := (De.in5f B2.out).1
  go_upto_region 3 with (fail)
  clear c0 c1 c2 c3 c4
  obtain ⟨bx, hbx⟩ : ∃ bx, bx = w1.heap.size := ⟨_, rfl⟩
  obtain ⟨bw, hbw⟩ : ∃ bw, bw = w1.heap.size + 1 := ⟨_, rfl⟩
  obtain ⟨W3, hW3⟩ : ∃ W3, W3 = (w1.alloc (.cells #[.int .u8 k, .int .u8 (st % 256), .int .i64 a, .int .i64 (De.wn n), .int .i64 g] 24)).alloc (.cells #[.int .u8 k, .int .u8 s, .int .i64 a, .int .i64 l, .int .i64 g] 24) := ⟨_, rfl⟩
  have hbxw : bw = bx + 1 := by omega
  rw [← hW3, ← hbw, ← hbx] at HS ⊢
  rw [← hbx] at HLT
  have HBW := Lib.hid hbxw
  clear hW3 hbx hbw hbxw
  obtain ⟨⟨d0, d1, d2, d3, d4⟩, f0, f1, f2, f3, f4⟩ := De.in5f HS.out.wb
  go_upto_region 5 with (first
    | (go_at_call 13; (with_reducible refine (rlow_any _ _).mono ?_); rintro e w' ⟨rfl, rfl⟩)
    | (go_at_call 14; (with_reducible refine (rhigh_any _ _).mono ?_); rintro e w' ⟨rfl, rfl⟩))
  clear d0 d1 d2 d3 d4 f0 f1 f2 f3 f4
  rw [← HEw.out]
  obtain ⟨W4, hW4⟩ : ∃ W4, W4 = (W3.setCell ⟨bw, 1, none⟩ (.int .u8 (st % 256))).setCell ⟨bw, 3, none⟩ (.int .i64 (De.wn n)) := ⟨_, rfl⟩
  have HT := Lib.hid (De.ck_put HS.out HLT.out (by have := HBW.out; omega) _ hW4)
  rw [← hW4]
  clear hW4 HS
  generalize De.wn n = nn at *
  obtain ⟨d0, d1, d2, d3, d4⟩ := (De.in5f HT.out.db).1
  go_upto_region 6 with (fail)
  have d0r := fun d os => cell_regrown d0 d os; have d1r := fun d os => cell_regrown d1 d os; have d2r := fun d os => cell_regrown d2 d os; have d3r := fun d os => cell_regrown d3 d os; have d4r := fun d os => cell_regrown d4 d os
  obtain ⟨x0, x1, x2, x3, x4⟩ := (De.in5f HT.out.xb).1
  have x0r := fun d os => cell_regrown x0 d os; have x1r := fun d os => cell_regrown x1 d os; have x2r := fun d os => cell_regrown x2 d os; have x3r := fun d os => cell_regrown x3 d os; have x4r := fun d os => cell_regrown x4 d os
  obtain ⟨y0, y1, y2, y3, y4⟩ := (De.in5f HT.out.wb).1
  have y0r := fun d os => cell_regrown y0 d os; have y1r := fun d os => cell_regrown y1 d os; have y2r := fun d os => cell_regrown y2 d os; have y3r := fun d os => cell_regrown y3 d os; have y4r := fun d os => cell_regrown y4 d os
  obtain ⟨t0, t1, t2, t3, t4, t5, t6, t7, t8, t9⟩ := De.cells10 HT.out.cb
  have t0r := fun d os => cell_regrown t0 d os; have t1r := fun d os => cell_regrown t1 d os; have t2r := fun d os => cell_regrown t2 d os; have t3r := fun d os => cell_regrown t3 d os; have t4r := fun d os => cell_regrown t4 d os; have t5r := fun d os => cell_regrown t5 d os; have t6r := fun d os => cell_regrown t6 d os; have t7r := fun d os => cell_regrown t7 d os; have t8r := fun d os => cell_regrown t8 d os; have t9r := fun d os => cell_regrown t9 d os
  have HGR := Lib.hid HT.out.gr
  clear d0 d1 d2 d3 d4 x0 x1 x2 x3 x4 y0 y1 y2 y3 y4 t0 t1 t2 t3 t4 t5 t6 t7 t8 t9
  refine wp_region_quiet_below (by kernel_rfl) (by kernel_rfl) ?_
  repeat (quiet_step ((first
    | (go_at_call 9; with_reducible exact Calls.regrown_of (HL.out _))
    | (go_at_call 15; with_reducible exact Calls.regrown_of (HC.out _))
    | (go_at_call 16; with_reducible exact Calls.regrown_of (HR.out _))
    | (go_at_call 17; with_reducible exact Calls.regrown_of (HF.out _))
    | (go_at_call 18; with_reducible exact Calls.regrown_of (HD.out _)))))
  refine wpQuiet_nil ?_
  rintro _ ⟨⟨dq, osq⟩, rfl⟩
  have HBE := Lib.hid (only_trans HGR.out (De.gro (below_regrown W4 dq osq)))
  generalize grow (redrawn W4 dq) osq = wz at HBE ⊢
  clear d0r d1r d2r d3r d4r x0r x1r x2r x3r x4r y0r y1r y2r y3r y4r t0r t1r t2r t3r t4r t5r t6r t7r t8r t9r
  go_wp2
  go_ret
  exact ⟨by first | rfl | simp, De.bel HBE.out⟩

theorem De.checks_walk (k s : Nat) (a l g : Int) (c : Nat → Int) (st n : Int) (w : World) (hk : k < 256) (hs : s < 256) (bs : c 1 ≤ 9223372036854775807) (bc : c 9 ≤ 9223372036854775807) : Calls Try.prog 5 #[.agg (De.dc k s a l g), .agg (De.cl c), .int .i64 st, .int .i64 n] w fun e w' => e = .returned (.bool true) ∧ Below w.heap.size w w' := by
  rcases De.few (k := k) with h | h | h | h | h | h | h | ⟨h, c1, c2, c3, c4, c5, c6⟩
  · exact De.checks_0 k s a l g st n c w hk bs bc h
  · exact De.checks_1 k s a l g st n c w hk bs bc h
  · exact De.checks_2 k s a l g st n c w hk bs bc h
  · exact De.checks_3 k s a l g st n c w hk bs bc h
  · exact De.checks_4 k s a l g st n c w hk bs bc h
  · exact De.checks_5 k s a l g st n c w hk bs bc h
  · exact De.checks_6 k s a l g st n c w hk bs bc h
  · exact De.checks_o k s a l g st n c w hk bs bc h c1 c2 c3 c4 c5 c6
end Go.Proofs.Ytldhggaghhjebaa
