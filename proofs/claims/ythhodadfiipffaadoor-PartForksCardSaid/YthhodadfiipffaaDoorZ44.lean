import Derived.Test.YthhodadfiipffaaDoorZ43
import Derived.Lib.QuietBelow
import Derived.LoopTactic
import Derived.BigQuiet
import Derived.Test.YthhodadfiipffaaDoorZ19
set_option linter.all false
/- Package part: the document's New; the law's same. -/
namespace Go.Proofs.YthhodadfiipffaaDoor
open Go.RowKit Go.Lib Go.Sort
set_option linter.unusedVariables false
set_option maxRecDepth 20000
attribute [-go_sem] Go.run_eql_struct

theorem Pt.eql_rst (pc : Int) (r : Nat → Int) (md : Int) (w : World) : (binOp BinOp.eql 35 (Cu.stV pc r md) (Cu.stV pc r md)).run Tryd.prog w = .ok (.bool true) w := by
  unfold Cu.stV Cu.stC
  rw [run_eql_struct, run_equalIn_agg w 9999 _ _ _ (by kernel_rfl) (by kernel_rfl)]
  have hf : (Tryd.prog.fieldsOf 35).toList.map (fun f => (f.name, f.type, f.offset)) = [("Pc", 3, 0), ("R", 33, 1), ("Mode", 3, 9)] := by kernel_rfl
  generalize (Tryd.prog.fieldsOf 35).toList = fs at hf
  have hlen := congrArg List.length hf
  simp only [List.length_map, List.length_cons, List.length_nil] at hlen
  obtain ⟨f0, f1, f2, rfl⟩ : ∃ f0 f1 f2, fs = [f0, f1, f2] := by
    match fs, hlen with
    | [f0, f1, f2], _ => exact ⟨f0, f1, f2, rfl⟩
  simp only [List.map_cons, List.map_nil, List.cons.injEq, Prod.mk.injEq, and_true] at hf
  obtain ⟨⟨p0, q0, r0⟩, ⟨p1, q1, r1⟩, ⟨p2, q2, r2⟩⟩ := hf
  simp [Op.eqFields, p0, q0, r0, p1, q1, r1, p2, q2, r2, part, run_equalIn_int _ _ _ _ _ _ _ Tryd.underlying3, go_sem, Cu.eql_regs]
set_option maxHeartbeats 3200000 in
theorem Pt.rnew27_any (w : World) (vl : Nat) (s : ByteArray) (hs : s.size ≤ vl) (hv : vl ≤ 300) : Calls Tryd.prog 10 #[.int .i64 vl, .string s] w fun e w' => ∃ A c, e = .returned (.agg #[.slice A vl c, .int .i64 0, .int .i64 0, .int .i64 0, .int .i64 0, .int .i64 0, .int .i64 0, .int .i64 0, .int .i64 0, .int .i64 0, .int .i64 0]) ∧ Ints w' A c (num (Pt.v0 s vl)) ∧ w.grownBy w' none ∧ ∀ i, i < w.heap.size → OffI (Pt.v0 s vl) A i := by
  have hsl : s.data.toList.length = s.size := by rw [Array.length_toList]; rfl
  obtain ⟨W0, hW0⟩ : ∃ W0, W0 = w.alloc (.cells #[.slice none 0 0, .int .i64 0, .int .i64 0, .int .i64 0, .int .i64 0, .int .i64 0, .int .i64 0, .int .i64 0, .int .i64 0, .int .i64 0, .int .i64 0] 37) := ⟨_, rfl⟩
  have G0 := Lib.hid (show w.grownBy W0 none by rw [hW0]; exact only_alloc (only_refl _ none) _)
  have RB := Lib.hid (show Blk W0 w.heap.size 37 #[.slice none 0 0, .int .i64 0, .int .i64 0, .int .i64 0, .int .i64 0, .int .i64 0, .int .i64 0, .int .i64 0, .int .i64 0, .int .i64 0, .int .i64 0] by rw [hW0]; exact Blk.new _ _ _)
  have HN := Lib.hid (show Calls Tryd.prog 28 #[.int .i64 vl] W0 fun r w' => ∃ A c, r = .returned (.slice A vl c) ∧ Ints w' A c (num (Cu.z vl)) ∧ W0.grownBy w' none from (rmnew_any vl W0 (by omega)).mono fun e w' ⟨v, h1, h2, h3⟩ => by
    rw [Cu.size_z vl (by omega)] at h2
    obtain ⟨A, c, e1, e2, -⟩ := h2.ints
    refine ⟨A, c, ?_, e2, Pt.grow_of h3⟩
    rw [h1, e1, num_len, List.length_replicate])
  obtain ⟨k, hk⟩ : ∃ k, s.size = k := ⟨_, rfl⟩
  have HBY := Lib.hid (fun W => show Calls Tryd.prog 29 #[.string s] W fun r w' => ∃ A c, r = .returned (.slice A k c) ∧ Ints w' A c (num s.data.toList) ∧ W.grownBy w' none from (rbytes_any s W (by omega)).mono fun e w' ⟨v, h1, h2, h3⟩ => by
    obtain ⟨A, c, e1, e2, -⟩ := h2.ints
    refine ⟨A, c, ?_, e2, Pt.grow_of h3⟩
    rw [h1, e1, num_len, hsl, hk])
  have HWI := Lib.hid (fun W A c A2 c2 (hA : Ints W A c (num (Cu.z vl))) (hX : Ints W A2 c2 (num s.data.toList)) => show Calls Tryd.prog 27 #[.slice A vl c, .int .i64 0, .slice A2 k c2] W fun r w' => ∃ A c, r = .returned (.slice A vl c) ∧ Ints w' A c (num (Pt.v0 s vl)) ∧ W.grownBy w' none ∧ ∀ i, i < W.heap.size → Off A i from by
    have := rwith_any A c (Cu.z vl) 0 A2 c2 k (num s.data.toList) (by rw [num_len, hsl, hk]) vl (Cu.z_len vl).symm W hA hX (by rw [num_len, hsl, Cu.z_len]; omega) (by rw [Cu.z_len]; omega)
    rw [Cu.low8_all] at this
    refine this.mono fun e w' ⟨v, h1, h2, h3⟩ => ?_
    obtain ⟨A', c', e1, e2, -⟩ := h2.ints
    have e3 : (num (over (Cu.z vl) 0 s.data.toList)).length = vl := by rw [num_len]; exact Pt.v0_len s vl hs
    rw [e3] at e1
    subst e1
    exact ⟨A', c', h1, e2, Pt.grow_of h3, fun i hi => h2.off hi⟩)
  clear hs hsl hk
  go_enter Tryd.func10, Tryd.ntmps10
  go_upto_region 1 with (fail)
  rw [← hW0]
  clear hW0
  have RBF := Lib.hid (fun (w4 : World) (g : W0.grownBy w4 none) => RB.out.only g (by simp))
  go_wp2_with (first
    | (go_at_call 28; (with_reducible refine HN.out.mono ?_); rintro e w2 ⟨A1, c1, rfl, ha1, g1⟩; have A1' := Lib.hid ha1; have G1 := Lib.hid g1; clear ha1 g1)
    | (go_at_call 29; (with_reducible refine (HBY.out _).mono ?_); rintro e w3 ⟨A2, c2, rfl, ha2, g2⟩; have A2' := Lib.hid ha2; have G2 := Lib.hid g2; have G12 := Lib.hid (only_trans G1.out g2); have A1'' := Lib.hid (Cu.ints_gr A1'.out g2); clear ha2 g2)
    | (go_at_call 27; (with_reducible refine (HWI.out _ _ _ _ _ A1''.out A2'.out).mono ?_); rintro e w4 ⟨A, c, rfl, ha3, g3, ho3⟩; have A3 := Lib.hid ha3; have G3 := Lib.hid (only_trans G12.out g3); have O3 := Lib.hid ho3; clear ha3 g3 ho3; have RB4 := Lib.hid (RBF.out _ G3.out); obtain ⟨z0, z1, z2, z3, z4, z5, z6, z7, z8, z9, z10⟩ := Pt.cells11 RB4.out; obtain ⟨y0, y1, y2, y3, y4, y5, y6, y7, y8, y9, y10⟩ := Pt.free11 RB4.out))
  obtain ⟨W9, hW9⟩ : ∃ W9, W9 = (((((((((((w4.setCell ⟨w.heap.size, 0, none⟩ (.slice A vl c)).setCell ⟨w.heap.size, 1, none⟩ (.int .i64 0)).setCell ⟨w.heap.size, 2, none⟩ (.int .i64 0)).setCell ⟨w.heap.size, 3, none⟩ (.int .i64 0)).setCell ⟨w.heap.size, 4, none⟩ (.int .i64 0)).setCell ⟨w.heap.size, 5, none⟩ (.int .i64 0)).setCell ⟨w.heap.size, 6, none⟩ (.int .i64 0)).setCell ⟨w.heap.size, 7, none⟩ (.int .i64 0)).setCell ⟨w.heap.size, 8, none⟩ (.int .i64 0)).setCell ⟨w.heap.size, 9, none⟩ (.int .i64 0)).setCell ⟨w.heap.size, 10, none⟩ (.int .i64 0)) := ⟨_, rfl⟩
  obtain ⟨k9, b9⟩ := Pt.put11 RB4.out (.slice A vl c) (.int .i64 0) (.int .i64 0) (.int .i64 0) (.int .i64 0) (.int .i64 0) (.int .i64 0) (.int .i64 0) (.int .i64 0) (.int .i64 0) (.int .i64 0) W9 hW9
  rw [← hW9]
  obtain ⟨u0, u1, u2, u3, u4, u5, u6, u7, u8, u9, u10⟩ := Pt.cells11 b9
  have hl : w.heap.size < w3.heap.size := Nat.lt_of_lt_of_le RB.out.lt G12.out.size
  refine bodyPost_ret (v := .agg #[.slice A vl c, .int .i64 0, .int .i64 0, .int .i64 0, .int .i64 0, .int .i64 0, .int .i64 0, .int .i64 0, .int .i64 0, .int .i64 0, .int .i64 0]) (by simp [results, Tryd.results10, go_sem, u0, u1, u2, u3, u4, u5, u6, u7, u8, u9, u10]) rfl ?_
  exact ⟨A, c, rfl, A3.out.farI k9 (fun _ => O3.out _ hl), Pt.grow_box (only_trans G0.out G3.out) k9 (Nat.le_refl _), fun i hi _ => O3.out i (by omega)⟩
set_option maxHeartbeats 6400000 in
theorem Pt.lsame_any (w : World) (B b m g : Nat) (p q : List UInt8) (ow : Int) (A : Option Addr) (n c : Nat) (s : Pt.Sm) (h : Pt.Bo w B b m g p q ow A n c s) : Calls Tryd.prog 12 #[.pointer (some ⟨b, 0, none⟩), .agg #[.slice A n c, .int .i64 s.pc, .int .i64 (s.r 0), .int .i64 (s.r 1), .int .i64 (s.r 2), .int .i64 (s.r 3), .int .i64 (s.r 4), .int .i64 (s.r 5), .int .i64 (s.r 6), .int .i64 (s.r 7), .int .i64 s.md]] w fun e w' => e = .returned (.bool true) ∧ w.grownBy w' none := by
  obtain ⟨W0, hW0⟩ : ∃ W0, W0 = w.alloc (.cells #[.slice A n c, .int .i64 s.pc, .int .i64 (s.r 0), .int .i64 (s.r 1), .int .i64 (s.r 2), .int .i64 (s.r 3), .int .i64 (s.r 4), .int .i64 (s.r 5), .int .i64 (s.r 6), .int .i64 (s.r 7), .int .i64 s.md] 37) := ⟨_, rfl⟩
  have G0 := Lib.hid (show w.grownBy W0 none by rw [hW0]; exact only_alloc (only_refl _ none) _)
  have PB := Lib.hid (show Blk W0 w.heap.size 37 #[.slice A n c, .int .i64 s.pc, .int .i64 (s.r 0), .int .i64 (s.r 1), .int .i64 (s.r 2), .int .i64 (s.r 3), .int .i64 (s.r 4), .int .i64 (s.r 5), .int .i64 (s.r 6), .int .i64 (s.r 7), .int .i64 s.md] by rw [hW0]; exact Blk.new _ _ _)
  have HB := Lib.hid (h.grown G0.out)
  have HST := Lib.hid (Pt.state_any HB.out.a)
  clear h
  go_enter Tryd.func12, Tryd.ntmps12
  go_upto_region 1 with (fail)
  rw [← hW0]
  clear hW0
  go_upto_region 2 with (go_at_call 18; (with_reducible refine HST.out.mono ?_); rintro e w1 ⟨rfl, g1⟩; have G1 := Lib.hid g1; clear g1)
  obtain ⟨W2, hW2⟩ : ∃ W2, W2 = w1.alloc (.cells #[.int .i64 s.pc, .int .i64 (s.r 0), .int .i64 (s.r 1), .int .i64 (s.r 2), .int .i64 (s.r 3), .int .i64 (s.r 4), .int .i64 (s.r 5), .int .i64 (s.r 6), .int .i64 (s.r 7), .int .i64 s.md] 55) := ⟨_, rfl⟩
  have g12 : w1.grownBy W2 none := by rw [hW2]; exact only_alloc (only_refl _ none) _
  have SB := Lib.hid (show Blk W2 w1.heap.size 55 #[.int .i64 s.pc, .int .i64 (s.r 0), .int .i64 (s.r 1), .int .i64 (s.r 2), .int .i64 (s.r 3), .int .i64 (s.r 4), .int .i64 (s.r 5), .int .i64 (s.r 6), .int .i64 (s.r 7), .int .i64 s.md] by rw [hW2]; exact Blk.new _ _ _)
  have G2 := Lib.hid (only_trans G1.out g12)
  have PB2 := Lib.hid (PB.out.only G2.out (by simp))
  have HB2 := Lib.hid (HB.out.grown G2.out)
  rw [← hW2]
  obtain ⟨bs, hbs⟩ : ∃ bs, bs = w1.heap.size := ⟨_, rfl⟩
  rw [← hbs] at SB ⊢
  clear hbs hW2 g12 HST HB PB
  obtain ⟨p0, p1, p2, p3, p4, p5, p6, p7, p8, p9, p10⟩ := Pt.cells11 PB2.out
  obtain ⟨t0, t1, t2, t3, t4, t5, t6, t7, t8, t9⟩ := Cu.cells10 SB.out
  have p0r := fun d os => cell_regrown p0 d os
  have p1r := fun d os => cell_regrown p1 d os
  have p2r := fun d os => cell_regrown p2 d os
  have p3r := fun d os => cell_regrown p3 d os
  have p4r := fun d os => cell_regrown p4 d os
  have p5r := fun d os => cell_regrown p5 d os
  have p6r := fun d os => cell_regrown p6 d os
  have p7r := fun d os => cell_regrown p7 d os
  have p8r := fun d os => cell_regrown p8 d os
  have p9r := fun d os => cell_regrown p9 d os
  have p10r := fun d os => cell_regrown p10 d os
  have t0r := fun d os => cell_regrown t0 d os
  have t1r := fun d os => cell_regrown t1 d os
  have t2r := fun d os => cell_regrown t2 d os
  have t3r := fun d os => cell_regrown t3 d os
  have t4r := fun d os => cell_regrown t4 d os
  have t5r := fun d os => cell_regrown t5 d os
  have t6r := fun d os => cell_regrown t6 d os
  have t7r := fun d os => cell_regrown t7 d os
  have t8r := fun d os => cell_regrown t8 d os
  have t9r := fun d os => cell_regrown t9 d os
  clear p0 p1 p2 p3 p4 p5 p6 p7 p8 p9 p10 t0 t1 t2 t3 t4 t5 t6 t7 t8 t9
  have HT1 := Lib.hid (fun (d : Nat) (os : Array Obj) => Pt.calls_bel (Pt.text_any (HB2.out.grown (Cu.grow_of (below_regrown W2 d os))).a))
  have HT2 := Lib.hid (fun (d : Nat) (os : Array Obj) => Cu.text_doc (HB2.out.grown (Cu.grow_of (below_regrown W2 d os))).i HB2.out.ln HB2.out.l1)
  generalize (⟨s.v.toArray⟩ : ByteArray) = tx at HT1 HT2
  have hq1 : ∀ W, (binOp BinOp.eql 35 (.agg #[.int .i64 s.pc, .int .i64 (s.r 0), .int .i64 (s.r 1), .int .i64 (s.r 2), .int .i64 (s.r 3), .int .i64 (s.r 4), .int .i64 (s.r 5), .int .i64 (s.r 6), .int .i64 (s.r 7), .int .i64 s.md]) (.agg #[.int .i64 s.pc, .int .i64 (s.r 0), .int .i64 (s.r 1), .int .i64 (s.r 2), .int .i64 (s.r 3), .int .i64 (s.r 4), .int .i64 (s.r 5), .int .i64 (s.r 6), .int .i64 (s.r 7), .int .i64 s.md])).run Tryd.prog W = .ok (.bool true) W := fun W => Pt.eql_rst s.pc s.r s.md W
  refine wp_region_quiet_below (by kernel_rfl) (by kernel_rfl) ?_
  repeat (quiet_step ((first
    | (go_at_call 25; with_reducible exact Calls.regrown_of (HT1.out _ _))
    | (go_at_call 32; with_reducible exact Calls.regrown_of (HT2.out _ _)))))
  refine wpQuiet_nil ?_
  rintro _ ⟨⟨dq, osq⟩, rfl⟩
  have HBE := Lib.hid (only_trans (only_trans G0.out G2.out) (Cu.grow_of (below_regrown W2 dq osq)))
  clear HT1 HT2 hq1
  generalize grow (redrawn W2 dq) osq = wz at HBE ⊢
  go_wp2
  go_ret
  exact ⟨by first | rfl | simp, HBE.out⟩
end Go.Proofs.YthhodadfiipffaaDoor

/- Package part: both partitions, and the box in which the document's lies; PartPlays walked. -/
namespace Go.Proofs.YthhodadfiipffaaDoor
open Go.RowKit Go.Lib Go.Sort
set_option linter.unusedVariables false
set_option maxRecDepth 20000

structure Pt.Pl (w W : World) (bp mp gp b9 : Nat) (p q : List UInt8) (A : Option Addr) (vl c : Nat) (s : Pt.Sm) : Prop where
  b : Pt.Bo W w.heap.size bp mp gp p q 1 A vl c s
  k : Blk W b9 37 #[.slice A vl c, .int .i64 s.pc, .int .i64 (s.r 0), .int .i64 (s.r 1), .int .i64 (s.r 2), .int .i64 (s.r 3), .int .i64 (s.r 4), .int .i64 (s.r 5), .int .i64 (s.r 6), .int .i64 (s.r 7), .int .i64 s.md]
  gr : w.grownBy W none
  ne : b9 ≠ bp ∧ b9 ≠ mp ∧ b9 ≠ gp
  o : OffI s.v A b9
  lo : w.heap.size ≤ b9 ∧ w.heap.size ≤ bp
section
variable {w W W' : World} {bp mp gp b9 vl c : Nat} {p q : List UInt8} {A : Option Addr} {s : Pt.Sm}
theorem Pt.Pl.grown (h : Pt.Pl w W bp mp gp b9 p q A vl c s) (g : W.grownBy W' none) : Pt.Pl w W' bp mp gp b9 p q A vl c s := ⟨h.b.grown g, h.k.only g (by simp), only_trans h.gr g, h.ne, h.o, h.lo⟩
theorem Pt.do_any (w : World) (B b m g : Nat) (p q : List UInt8) (ow : Int) (A : Option Addr) (n c : Nat) (s : Pt.Sm) (y : Pt.Dd) (h : Pt.Bo w B b m g p q ow A n c s) (hN : Nm w) : Calls Tryd.prog 11 #[.pointer (some ⟨b, 0, none⟩), .agg #[.slice A n c, .int .i64 s.pc, .int .i64 (s.r 0), .int .i64 (s.r 1), .int .i64 (s.r 2), .int .i64 (s.r 3), .int .i64 (s.r 4), .int .i64 (s.r 5), .int .i64 (s.r 6), .int .i64 (s.r 7), .int .i64 s.md], .agg #[.bool y.o, .int .i64 y.x.t, .int .i64 y.x.f, .int .i64 y.x.d, .int .i64 y.x.p, .int .i64 y.x.b]] w (Pt.DoV w B b m g p q ow A n s (Pt.aft s y)) := by
  unfold Pt.aft
  cases ho : y.o
  · exact Pt.do_step w B b m g p q ow A n c s y h hN ho
  · exact Pt.do_open w B b m g p q ow A n c s y h ho
theorem Pt.Pl.step (h : Pt.Pl w W bp mp gp b9 p q A vl c s) (hN : Nm w) (y : Pt.Dd) : Calls Tryd.prog 11 #[.pointer (some ⟨bp, 0, none⟩), .agg #[.slice A vl c, .int .i64 s.pc, .int .i64 (s.r 0), .int .i64 (s.r 1), .int .i64 (s.r 2), .int .i64 (s.r 3), .int .i64 (s.r 4), .int .i64 (s.r 5), .int .i64 (s.r 6), .int .i64 (s.r 7), .int .i64 s.md], .agg #[.bool y.o, .int .i64 y.x.t, .int .i64 y.x.f, .int .i64 y.x.d, .int .i64 y.x.p, .int .i64 y.x.b]] W fun e w2 => ∃ A' c' s', s' = Pt.aft s y ∧ e = .returned (.tuple #[.agg #[.slice A' vl c', .int .i64 s'.pc, .int .i64 (s'.r 0), .int .i64 (s'.r 1), .int .i64 (s'.r 2), .int .i64 (s'.r 3), .int .i64 (s'.r 4), .int .i64 (s'.r 5), .int .i64 (s'.r 6), .int .i64 (s'.r 7), .int .i64 s'.md], .bool true]) ∧ Blk w2 b9 37 #[.slice A vl c, .int .i64 s.pc, .int .i64 (s.r 0), .int .i64 (s.r 1), .int .i64 (s.r 2), .int .i64 (s.r 3), .int .i64 (s.r 4), .int .i64 (s.r 5), .int .i64 (s.r 6), .int .i64 (s.r 7), .int .i64 s.md] ∧ w.grownBy w2 none ∧ Pt.Kp bp gp W w2 ∧ (∀ W9, W9 = (((((((((((w2.setCell ⟨b9, 0, none⟩ (.slice A' vl c')).setCell ⟨b9, 1, none⟩ (.int .i64 s'.pc)).setCell ⟨b9, 2, none⟩ (.int .i64 (s'.r 0))).setCell ⟨b9, 3, none⟩ (.int .i64 (s'.r 1))).setCell ⟨b9, 4, none⟩ (.int .i64 (s'.r 2))).setCell ⟨b9, 5, none⟩ (.int .i64 (s'.r 3))).setCell ⟨b9, 6, none⟩ (.int .i64 (s'.r 4))).setCell ⟨b9, 7, none⟩ (.int .i64 (s'.r 5))).setCell ⟨b9, 8, none⟩ (.int .i64 (s'.r 6))).setCell ⟨b9, 9, none⟩ (.int .i64 (s'.r 7))).setCell ⟨b9, 10, none⟩ (.int .i64 s'.md)) → Pt.Pl w W9 bp mp gp b9 p q A' vl c' s' ∧ w2.grownBy W9 (some b9)) := by
  obtain ⟨s', hs'⟩ : ∃ s', s' = Pt.aft s y := ⟨_, rfl⟩
  have hd := Pt.do_any W w.heap.size bp mp gp p q 1 A vl c s y h.b (hN.grown h.gr (by simp))
  rw [← hs'] at hd ⊢
  refine hd.mono fun e w2 hh => ?_
  obtain ⟨A', c', rfl, hb, hk, ho⟩ := hh
  have l := h.lo
  have n := h.ne
  have lg := h.b.a.mem.1
  have gw := Pt.kp_fresh h.gr hk l.2 lg
  have bk := Pt.blk_kp h.k hk n.1 n.2.2
  refine ⟨A', c', s', rfl, rfl, bk, gw, hk, fun W9 hW9 => ?_⟩
  obtain ⟨k9, b9'⟩ := Pt.put11 bk (.slice A' vl c') (.int .i64 s'.pc) (.int .i64 (s'.r 0)) (.int .i64 (s'.r 1)) (.int .i64 (s'.r 2)) (.int .i64 (s'.r 3)) (.int .i64 (s'.r 4)) (.int .i64 (s'.r 5)) (.int .i64 (s'.r 6)) (.int .i64 (s'.r 7)) (.int .i64 s'.md) W9 hW9
  have o9 := ho _ h.k.lt h.o
  exact ⟨⟨⟨hb.a.off k9 (Ne.symm n.1) (Ne.symm n.2.1) (Ne.symm n.2.2), hb.i.farI k9 o9, hb.ln, hb.l1, hb.o⟩, b9', Pt.grow_box gw k9 l.1, n, o9, l⟩, k9⟩
theorem Pt.Pl.same (h : Pt.Pl w W bp mp gp b9 p q A vl c s) : Calls Tryd.prog 12 #[.pointer (some ⟨bp, 0, none⟩), .agg #[.slice A vl c, .int .i64 s.pc, .int .i64 (s.r 0), .int .i64 (s.r 1), .int .i64 (s.r 2), .int .i64 (s.r 3), .int .i64 (s.r 4), .int .i64 (s.r 5), .int .i64 (s.r 6), .int .i64 (s.r 7), .int .i64 s.md]] W fun e w' => e = .returned (.bool true) ∧ W.grownBy w' none := Pt.lsame_any W w.heap.size bp mp gp p q 1 A vl c s h.b
end
theorem Pt.Pl.start {w w2 w3 : World} {bp mp gp vl c : Nat} {p q : List UInt8} {A : Option Addr} {s : ByteArray} (g2 : w.grownBy w2 none) (hq : Pt.Q w2 w.heap.size bp mp gp p (Pt.s0 s vl).v q 1 (Pt.s0 s vl).pc (Pt.s0 s vl).r (Pt.s0 s vl).md) (hb : w.heap.size ≤ bp) (hi : Ints w3 A c (num (Pt.v0 s vl))) (g3 : w2.grownBy w3 none) (ho : ∀ i, i < w2.heap.size → OffI (Pt.v0 s vl) A i) (hs : s.size ≤ vl) (hv : vl ≤ 300) :
    ∀ W, W = w3.alloc (.cells #[.slice A vl c, .int .i64 0, .int .i64 0, .int .i64 0, .int .i64 0, .int .i64 0, .int .i64 0, .int .i64 0, .int .i64 0, .int .i64 0, .int .i64 0] 37) → Pt.Pl w W bp mp gp w3.heap.size p q A vl c (Pt.s0 s vl) := by
  rintro W rfl
  have g4 : w3.grownBy (w3.alloc (.cells #[.slice A vl c, .int .i64 0, .int .i64 0, .int .i64 0, .int .i64 0, .int .i64 0, .int .i64 0, .int .i64 0, .int .i64 0, .int .i64 0, .int .i64 0] 37)) none := only_alloc (only_refl _ none) _
  have l := hq.lt
  have z := g3.size
  have z2 := g2.size
  exact ⟨⟨(hq.grown g3).grown g4, Cu.ints_gr hi g4, Pt.v0_len s vl hs, by omega, ho _ l.1, ho _ l.2.1⟩, Blk.new _ _ _, only_trans (only_trans g2 g3) g4, by omega, Cu.offi_new hi (Nat.le_refl _), by omega⟩
theorem Pt.newB (W : World) (B m g : Nat) (vl : Nat) (s : ByteArray) (hs : s.size ≤ vl) (hv : vl ≤ 300) (hm : MemG W B m g (Cu.z 700)) : Calls Tryd.prog 8 #[.int .i64 1, .agg #[.pointer (some ⟨m, 0, none⟩), .int .i64 333, .int .i64 vl], .string s] W fun e w' => ∃ b, e = .returned (.tuple #[.pointer (some ⟨b, 0, none⟩), .int .i64 0]) ∧ Pt.Q w' B b m g (Cu.z 333) (Pt.s0 s vl).v (Cu.z (367 - vl)) 1 (Pt.s0 s vl).pc (Pt.s0 s vl).r (Pt.s0 s vl).md ∧ W.grownBy w' (some g) ∧ W.heap.size ≤ b := by
  have e : Cu.z 700 = Cu.z 333 ++ Cu.z vl ++ Cu.z (367 - vl) := by
    unfold Cu.z
    rw [List.replicate_append_replicate, List.replicate_append_replicate, show 333 + vl + (367 - vl) = 700 by omega]
  rw [e] at hm
  have h := Pt.new_ok W B m g (Cu.z 333) (Cu.z vl) (Cu.z (367 - vl)) hm (by rw [Pt.len3, Cu.z_len, Cu.z_len, Cu.z_len]; omega) 1 (by omega) s (by rw [Cu.z_len]; omega)
  rw [Cu.z_len, Cu.z_len] at h
  exact h
theorem Pt.mnew7 (w : World) : Calls Tryd.prog 9 #[.int .i64 700] w fun r w' => ∃ m g, r = .returned (.pointer (some ⟨m, 0, none⟩)) ∧ MemG w' w.heap.size m g (Cu.z 700) ∧ w.grownBy w' none := Pt.mnew 700 (by omega) w
set_option maxHeartbeats 12800000 in
theorem Pt.plays_ok (s : ByteArray) (vl k c : Nat) (A : Option Addr) (d : Nat → Pt.Dd) (w : World) (hN : Nm w) (hd : Pt.DdP w A k d) (hk : k ≤ c) (hc : c ≤ 9223372036854775807) (h1 : s.size ≤ vl) (h2 : vl ≤ 300) : Calls Tryd.prog 3 #[.string s, .int .i64 vl, .slice A k c] w fun e w' => e = .returned (.bool true) ∧ Below w.heap.size w w' := by
  have HD := Lib.hid hd
  have HNw := Lib.hid hN
  have HKC := Lib.hid hk
  have H1 := Lib.hid h1
  have HN1 := Lib.hid (Pt.mnew7 w)
  have HNB := Lib.hid (fun W m g (h : MemG W w.heap.size m g (Cu.z 700)) => Pt.newB W w.heap.size m g vl s h1 h2 h)
  have HRN := Lib.hid (fun W => Pt.rnew27_any W vl s h1 h2)
  have j1 : ¬ (vl : Int) < (s.size : Int) := by omega
  have j2 : ¬ 300 < (vl : Int) := by omega
  clear hd hN hk h1
  go_enter Tryd.func3, Tryd.ntmps3
  go_upto_region 4 with (first
    | (go_at_call 9; (with_reducible refine HN1.out.mono ?_); rintro e w1 ⟨mp, gp, rfl, hm, g1⟩; have HM := Lib.hid hm; have G1 := Lib.hid g1; clear hm g1)
    | (go_at_call 8; (with_reducible refine (HNB.out _ _ _ HM.out).mono ?_); rintro e w2 ⟨bp, rfl, hq, k2, hb⟩; have HQ := Lib.hid hq; have G2 := Lib.hid (Cu.grow_none G1.out k2 HM.out.1); have HBP := Lib.hid (Nat.le_trans G1.out.size hb); clear hq k2 hb))
  clear j1 j2 HN1 HNB
  go_upto_region 7 with (go_at_call 10; (with_reducible refine (HRN.out _).mono ?_); rintro e w3 ⟨A3, c3, rfl, ha3, g3, ho3⟩; have HA3 := Lib.hid ha3; have G3 := Lib.hid g3; have HO3 := Lib.hid ho3; clear ha3 g3 ho3)
  clear HRN
  obtain ⟨W4, hW4⟩ : ∃ W4, W4 = w3.alloc (.cells #[.slice A3 vl c3, .int .i64 0, .int .i64 0, .int .i64 0, .int .i64 0, .int .i64 0, .int .i64 0, .int .i64 0, .int .i64 0, .int .i64 0, .int .i64 0] 37) := ⟨_, rfl⟩
  have P0 := Lib.hid (Pt.Pl.start G2.out HQ.out HBP.out HA3.out G3.out HO3.out H1.out h2 W4 hW4)
  rw [← hW4]
  obtain ⟨b9, hb9⟩ : ∃ b9, b9 = w3.heap.size := ⟨_, rfl⟩
  rw [← hb9] at P0 ⊢
  clear hb9 hW4 HM G1 HQ G2 HBP HA3 G3 HO3
  generalize Cu.z 333 = p at *
  generalize Cu.z (367 - vl) = q at *
  go_wp2
  go_loopw [10] (fun t wr => ∃ (j c : Nat) (A : Option Addr) (x : Pt.Sm), t = .int .i64 j ∧ j ≤ 60 ∧ Hid (j ≤ k) ∧ Hid (Pt.Pl w wr bp mp gp b9 p q A vl c x)) (fun t _ => 60 - (Go.RowKit.intOf t).toNat)
  case atStart => exact ⟨0, c3, A3, _, rfl, by omega, Lib.hid (Nat.zero_le _), P0⟩
  case round =>
    obtain ⟨j, c8, A8, s8, rfl, hj6, HB, HSX⟩ := hrel
    clear P0
    by_cases hin : j < k ∧ j < 60
    case pos =>
      obtain ⟨h1, h2⟩ := hin
      obtain ⟨gd, off, rfl, hg, hcs⟩ := HD.out (by omega)
      have hcj := hcs j h1
      obtain ⟨y, hy⟩ : ∃ y, d j = y := ⟨_, rfl⟩
      rw [hy] at hcj
      have HCS := Lib.hid (fun W (g' : w.grownBy W none) => show (W.cell? ⟨gd, off + j * 6, none⟩ = some (.bool y.o)) ∧ (W.cell? ⟨gd, off + j * 6 + 1, none⟩ = some (.int .i64 y.x.t)) ∧ (W.cell? ⟨gd, off + j * 6 + 2, none⟩ = some (.int .i64 y.x.f)) ∧ (W.cell? ⟨gd, off + j * 6 + 3, none⟩ = some (.int .i64 y.x.d)) ∧ (W.cell? ⟨gd, off + j * 6 + 4, none⟩ = some (.int .i64 y.x.p)) ∧ (W.cell? ⟨gd, off + j * 6 + 5, none⟩ = some (.int .i64 y.x.b)) from hcj.below hg (Pt.bel g'))
      have HJ := Lib.hid (show j + 1 ≤ k ∧ j + 1 ≤ 60 from ⟨h1, h2⟩)
      have i1 : (j : Int) < (k : Int) := by omega
      have i2 : (j : Int) < 60 := by omega
      have i3 : (0 : Int) ≤ (j : Int) := by omega
      have u1 : IntKind.i64.wrap ((j : Int) + 1) = ((j + 1 : Nat) : Int) := by rw [IntKind.wrap_i64]; omega
      clear hcj hcs hg hy
      go_upto_region 11 with (fail)
      have gdr : wr.grownBy wr.drew none := only_drewN (only_refl _ none) 1
      have HSD := Lib.hid (HSX.out.grown gdr)
      have SC : (wr.drew.cell? ⟨gd, off + j * 6, none⟩ = some (.bool y.o)) ∧ (wr.drew.cell? ⟨gd, off + j * 6 + 1, none⟩ = some (.int .i64 y.x.t)) ∧ (wr.drew.cell? ⟨gd, off + j * 6 + 2, none⟩ = some (.int .i64 y.x.f)) ∧ (wr.drew.cell? ⟨gd, off + j * 6 + 3, none⟩ = some (.int .i64 y.x.d)) ∧ (wr.drew.cell? ⟨gd, off + j * 6 + 4, none⟩ = some (.int .i64 y.x.p)) ∧ (wr.drew.cell? ⟨gd, off + j * 6 + 5, none⟩ = some (.int .i64 y.x.b)) := HCS.out _ HSD.out.gr
      refine wp_region_held_drew (S := fun w' => (w'.cell? ⟨gd, off + j * 6, none⟩ = some (.bool y.o)) ∧ (w'.cell? ⟨gd, off + j * 6 + 1, none⟩ = some (.int .i64 y.x.t)) ∧ (w'.cell? ⟨gd, off + j * 6 + 2, none⟩ = some (.int .i64 y.x.f)) ∧ (w'.cell? ⟨gd, off + j * 6 + 3, none⟩ = some (.int .i64 y.x.d)) ∧ (w'.cell? ⟨gd, off + j * 6 + 4, none⟩ = some (.int .i64 y.x.p)) ∧ (w'.cell? ⟨gd, off + j * 6 + 5, none⟩ = some (.int .i64 y.x.b))) (by kernel_rfl) SC (fun hHeld => ?_)
      clear gdr
      generalize wr.drew = wd at *
      refine wpAnyH_take (i := 0) (oi := _) (v := ?_) rfl (by kernel_rfl) (by kernel_rfl) (by kernel_rfl) (fun _ _ _ h => h) (Or.inl ⟨by rfl, ?_⟩) (by assumption) ?_
      case refine_2 => intro w hSw; (try dsimp only at hSw); go_simp; (try rw [if_pos h1]); try with_reducible rfl
      try simp only [Act.put, List.setIfInBounds_toArray, List.set_cons_zero, List.set_cons_succ]
      refine wpAnyH_take (i := 2) (oi := _) (v := ?_) rfl (by kernel_rfl) (by kernel_rfl) (by kernel_rfl) (fun _ _ _ h => h) (Or.inl ⟨by rfl, ?_⟩) (by assumption) ?_
      case refine_2 => intro w hSw; (try dsimp only at hSw); go_simp; (try rw [if_pos h1]); try with_reducible rfl
      try simp only [Act.put, List.setIfInBounds_toArray, List.set_cons_zero, List.set_cons_succ]
      refine wpAnyH_take (i := 3) (oi := _) (v := ?_) rfl (by kernel_rfl) (by kernel_rfl) (by kernel_rfl) (fun _ _ _ h => h) (Or.inl ⟨by rfl, ?_⟩) (by assumption) ?_
      case refine_2 => intro w hSw; (try dsimp only at hSw); go_simp; (try rw [if_pos h1]); try with_reducible rfl
      try simp only [Act.put, List.setIfInBounds_toArray, List.set_cons_zero, List.set_cons_succ]
      refine wpAnyH_take (i := 4) (oi := _) (v := ?_) rfl (by kernel_rfl) (by kernel_rfl) (by kernel_rfl) (fun _ _ _ h => h) (Or.inl ⟨by rfl, ?_⟩) (by assumption) ?_
      case refine_2 => intro w hSw; (try dsimp only at hSw); go_simp; (try rw [if_pos h1]); try with_reducible rfl
      try simp only [Act.put, List.setIfInBounds_toArray, List.set_cons_zero, List.set_cons_succ]
      refine wpAnyH_take (i := 5) (oi := _) (v := ?_) rfl (by kernel_rfl) (by kernel_rfl) (by kernel_rfl) (fun _ _ _ h => h) (Or.inl ⟨by rfl, ?_⟩) (by assumption) ?_
      case refine_2 => intro w hSw; (try dsimp only at hSw); go_simp; (try rw [if_pos h1]); try with_reducible rfl
      try simp only [Act.put, List.setIfInBounds_toArray, List.set_cons_zero, List.set_cons_succ]
      obtain ⟨p0, p1, p2, p3, p4, p5, p6, p7, p8, p9, p10⟩ := Pt.cells11 HSD.out.k
      refine wpAnyH_ready (rs := [1]) (by kernel_rfl) (by simp) ?_
      refine AllReadyH.cons (o := _) rfl (fun K hK => ?_) AllReadyH.nil
      go_simp
      refine hK.out _ _ (hHeld) (fun hHeld => ?_)
      clear hK K
      try simp only [Act.put, List.setIfInBounds_toArray, List.set_cons_zero, List.set_cons_succ]
      refine wpAnyH_ready (rs := [6]) (by kernel_rfl) (by simp) ?_
      refine AllReadyH.cons (o := _) rfl (fun K hK => ?_) AllReadyH.nil
      go_simp
      go_at_call 11
      (with_reducible refine (HSD.out.step HNw.out y).mono ?_)
      rintro e w2 ⟨A', c', s', hs', rfl, hb2, hg2, hk2, hnext⟩
      have HB2 := Lib.hid hb2
      have HG2 := Lib.hid hg2
      have HK2 := Lib.hid hk2
      have HNEXT := Lib.hid hnext
      have HS7 := Lib.hid hs'
      clear hs' hb2 hg2 hk2 hnext p0 p1 p2 p3 p4 p5 p6 p7 p8 p9 p10
      have S2 : (w2.cell? ⟨gd, off + j * 6, none⟩ = some (.bool y.o)) ∧ (w2.cell? ⟨gd, off + j * 6 + 1, none⟩ = some (.int .i64 y.x.t)) ∧ (w2.cell? ⟨gd, off + j * 6 + 2, none⟩ = some (.int .i64 y.x.f)) ∧ (w2.cell? ⟨gd, off + j * 6 + 3, none⟩ = some (.int .i64 y.x.d)) ∧ (w2.cell? ⟨gd, off + j * 6 + 4, none⟩ = some (.int .i64 y.x.p)) ∧ (w2.cell? ⟨gd, off + j * 6 + 5, none⟩ = some (.int .i64 y.x.b)) := HCS.out _ HG2.out
      refine hK.out _ _ (S2) (fun hHeld => ?_)
      clear hK K
      try simp only [Act.put, List.setIfInBounds_toArray, List.set_cons_zero, List.set_cons_succ]
      refine wpAnyH_take (i := 7) (oi := _) (v := ?_) rfl (by kernel_rfl) (by kernel_rfl) (by kernel_rfl) (fun _ _ _ h => h) (Or.inl ⟨by rfl, ?_⟩) (by assumption) ?_
      case refine_2 => intro w hSw; (try dsimp only at hSw); go_simp; try with_reducible rfl
      try simp only [Act.put, List.setIfInBounds_toArray, List.set_cons_zero, List.set_cons_succ]
      refine wpAnyH_take (i := 8) (oi := _) (v := ?_) rfl (by kernel_rfl) (by kernel_rfl) (by kernel_rfl) (fun _ _ _ h => h) (Or.inl ⟨by rfl, ?_⟩) (by assumption) ?_
      case refine_2 => intro w hSw; (try dsimp only at hSw); go_simp; try with_reducible rfl
      try simp only [Act.put, List.setIfInBounds_toArray, List.set_cons_zero, List.set_cons_succ]
      refine wpAnyH_take (i := 9) (oi := _) (v := ?_) rfl (by kernel_rfl) (by kernel_rfl) (by kernel_rfl) (fun _ _ _ h => h) (Or.inl ⟨by rfl, ?_⟩) (by assumption) ?_
      case refine_2 => intro w hSw; (try dsimp only at hSw); go_simp; try with_reducible rfl
      try simp only [Act.put, List.setIfInBounds_toArray, List.set_cons_zero, List.set_cons_succ]
      obtain ⟨x0, x1, x2, x3, x4, x5, x6, x7, x8, x9, x10⟩ := Pt.cells11 HB2.out
      obtain ⟨f0, f1, f2, f3, f4, f5, f6, f7, f8, f9, f10⟩ := Pt.free11 HB2.out
      obtain ⟨W9, hW9⟩ : ∃ W9, W9 = (((((((((((w2.setCell ⟨b9, 0, none⟩ (.slice A' vl c')).setCell ⟨b9, 1, none⟩ (.int .i64 s'.pc)).setCell ⟨b9, 2, none⟩ (.int .i64 (s'.r 0))).setCell ⟨b9, 3, none⟩ (.int .i64 (s'.r 1))).setCell ⟨b9, 4, none⟩ (.int .i64 (s'.r 2))).setCell ⟨b9, 5, none⟩ (.int .i64 (s'.r 3))).setCell ⟨b9, 6, none⟩ (.int .i64 (s'.r 4))).setCell ⟨b9, 7, none⟩ (.int .i64 (s'.r 5))).setCell ⟨b9, 8, none⟩ (.int .i64 (s'.r 6))).setCell ⟨b9, 9, none⟩ (.int .i64 (s'.r 7))).setCell ⟨b9, 10, none⟩ (.int .i64 s'.md)) := ⟨_, rfl⟩
      have HP := Lib.hid (HNEXT.out W9 hW9)
      have S9 : (W9.cell? ⟨gd, off + j * 6, none⟩ = some (.bool y.o)) ∧ (W9.cell? ⟨gd, off + j * 6 + 1, none⟩ = some (.int .i64 y.x.t)) ∧ (W9.cell? ⟨gd, off + j * 6 + 2, none⟩ = some (.int .i64 y.x.f)) ∧ (W9.cell? ⟨gd, off + j * 6 + 3, none⟩ = some (.int .i64 y.x.d)) ∧ (W9.cell? ⟨gd, off + j * 6 + 4, none⟩ = some (.int .i64 y.x.p)) ∧ (W9.cell? ⟨gd, off + j * 6 + 5, none⟩ = some (.int .i64 y.x.b)) := HCS.out _ HP.out.1.gr
      refine wpAnyH_ready (rs := [10]) (by kernel_rfl) (by simp) ?_
      refine AllReadyH.cons (o := _) rfl (fun K hK => ?_) AllReadyH.nil
      go_simp
      rw [← hW9]
      refine hK.out _ _ (S9) (fun hHeld => ?_)
      clear hK K
      try simp only [Act.put, List.setIfInBounds_toArray, List.set_cons_zero, List.set_cons_succ]
      refine wpAnyH_take (i := 11) (oi := ⟨some 11, _, _, _, _, none⟩) (v := ?_) rfl (by kernel_rfl) (by kernel_rfl) (by kernel_rfl) (fun _ _ _ h => h) (Or.inl ⟨by rfl, ?_⟩) (by assumption) ?_
      case refine_2 => intro w hSw; (try dsimp only at hSw); go_simp; try with_reducible rfl
      try simp only [Act.put, List.setIfInBounds_toArray, List.set_cons_zero, List.set_cons_succ]
      refine wpAnyH_done (by kernel_rfl) ?_ _
      clear x0 x1 x2 x3 x4 x5 x6 x7 x8 x9 x10 f0 f1 f2 f3 f4 f5 f6 f7 f8 f9 f10 hW9 S9 S2 SC
      go_wp2
      go_roundw
      case rel => exact ⟨j + 1, c', A', s', by go_num, HJ.out.2, Lib.hid HJ.out.1, Lib.hid HP.out.1⟩
      case measure =>
        have := HJ.out
        simp [Go.RowKit.intOf]
        omega
    case neg =>
      have key : (¬ (j : Int) < (k : Int)) ∨ ((j : Int) < (k : Int) ∧ ¬ (j : Int) < 60) := by omega
      have HLV := Lib.hid (Pt.live_any wr (HNw.out.grown HSX.out.gr (by simp)))
      clear hin HD HB
      rcases key with i1 | ⟨i1, i2⟩
      all_goals
        go_wp2_with (first
          | (go_at_call 7; (with_reducible refine HLV.out.mono ?_); rintro e w5 ⟨rfl, g5⟩; have P5 := Lib.hid (HSX.out.grown g5); clear g5; obtain ⟨p0, p1, p2, p3, p4, p5, p6, p7, p8, p9, p10⟩ := Pt.cells11 P5.out.k)
          | (go_at_call 12; (with_reducible refine P5.out.same.mono ?_); rintro e w6 ⟨rfl, g6⟩; have G6 := Lib.hid (only_trans P5.out.gr g6); clear g6))
        go_ret
        exact ⟨rfl, Pt.bel G6.out⟩
end Go.Proofs.YthhodadfiipffaaDoor

/- Package part: a nil partition; a partition forked. -/
namespace Go.Proofs.YthhodadfiipffaaDoor
open Go.RowKit Go.Lib
set_option linter.unusedVariables false
set_option maxRecDepth 20000

theorem Pt.nil_step (w : World) : Calls Tryd.prog 16 #[.pointer none, .agg #[.int .i64 0, .int .i64 0, .int .i64 0, .int .i64 0, .int .i64 0]] w fun e w' => e = .returned (.tuple #[.slice none 0 0, .bool false]) ∧ w.grownBy w' none := by
  go_enter Tryd.func16, Tryd.ntmps16
  go_wp2
  refine bodyPost_ret (v := .tuple #[.slice none 0 0, .bool false]) (by simp [results, Tryd.results16, go_sem]) rfl ⟨rfl, ?_⟩
  repeat (first | exact only_refl _ _ | refine only_alloc ?_ _)
theorem Pt.nil_open (w : World) : Calls Tryd.prog 15 #[.pointer none, .int .i64 0, .int .i64 1] w fun e w' => e = .returned (.slice none 0 0) ∧ w = w' := by
  go_enter Tryd.func15, Tryd.ntmps15
  go_wp2
  go_ret
  exact ⟨rfl, rfl⟩
theorem Pt.nil_owner (w : World) : Calls Tryd.prog 24 #[.pointer none] w fun e w' => e = .returned (.int .i64 0) ∧ w = w' := by
  go_enter Tryd.func24, Tryd.ntmps24
  go_wp2
  go_ret
  exact ⟨rfl, rfl⟩
theorem Pt.nil_text (w : World) : Calls Tryd.prog 25 #[.pointer none] w fun e w' => e = .returned (.string ⟨#[]⟩) ∧ w = w' := by
  go_enter Tryd.func25, Tryd.ntmps25
  go_wp2
  go_ret
  exact ⟨rfl, rfl⟩
theorem Pt.nil_fork (w : World) (v : Value) : Calls Tryd.prog 23 #[.pointer none, v] w fun e w' => e = .returned (.pointer none) ∧ w = w' := by
  go_enter Tryd.func23, Tryd.ntmps23
  go_wp2
  go_ret
  exact ⟨rfl, rfl⟩
theorem Pt.nil_state (w : World) : Calls Tryd.prog 18 #[.pointer none] w fun e w' => e = .returned (.agg #[.int .i64 0, .int .i64 0, .int .i64 0, .int .i64 0, .int .i64 0, .int .i64 0, .int .i64 0, .int .i64 0, .int .i64 0, .int .i64 0]) ∧ w.grownBy w' none := by
  go_enter Tryd.func18, Tryd.ntmps18
  go_wp2
  refine bodyPost_ret (v := .agg #[.int .i64 0, .int .i64 0, .int .i64 0, .int .i64 0, .int .i64 0, .int .i64 0, .int .i64 0, .int .i64 0, .int .i64 0, .int .i64 0]) (by simp [results, Tryd.results18, go_sem]) rfl ⟨rfl, ?_⟩
  repeat (first | exact only_refl _ _ | refine only_alloc ?_ _)
/-- A partition forked: its cells over another memory. -/
theorem Pt.fork_any {w : World} {b m m2 : Nat} {base size ow pc md : Int} {r : Nat → Int} (h : Blk w b 76 (Pt.cs m base size ow pc r md)) : Calls Tryd.prog 23 #[.pointer (some ⟨b, 0, none⟩), .pointer (some ⟨m2, 0, none⟩)] w fun e w' => e = .returned (.pointer (some ⟨w.heap.size, 0, none⟩)) ∧ w.grownBy w' none ∧ Blk w' w.heap.size 76 (Pt.cs m2 base size ow pc r md) := by
  obtain ⟨k0, k1, k2, k3, k4, k5, k6, k7, k8, k9, k10, k11, k12, k13⟩ := Pt.cells14 h
  have hb := Blk.new w 76 (Pt.cs m2 base size ow pc r md)
  have hg := only_alloc (only_refl w none) (.cells (Pt.cs m2 base size ow pc r md) 76)
  have HB := Lib.hid hb
  have HG := Lib.hid hg
  clear h hb hg
  go_enter Tryd.func23, Tryd.ntmps23
  go_wp2
  go_ret
  exact ⟨rfl, HG.out, HB.out⟩
end Go.Proofs.YthhodadfiipffaaDoor
