import Derived.Test.YthhodadfiipffaaDoorZ30
import Derived.Test.YthhodadfiipffaaDoorZ04
set_option linter.all false
/- The document's reading and writing instructions, by contract: codes 7, 9, 8, 10. -/
namespace Go.Proofs.YthhodadfiipffaaDoor
open Go.RowKit Go.Lib
set_option linter.unusedVariables false
set_option maxRecDepth 20000

set_option maxHeartbeats 12800000 in
theorem Cu.acc_7 (V : List UInt8) (A : Option Addr) (len cap : Nat) (hlen : len = V.length) (hV : V.length ≤ 1000) (pc md : Int) (r : Nat → Int) (x n : Nat) (hx : x < 8) (hn : n < 8) (k : Nat) (hk : r n = (k : Int)) (hk2 : k < 65536) (hr : 0 ≤ r x ∧ r x < 65536) (w : World) (hA : Ints w A cap (num V)) :
    Calls Tryd.prog 55 #[.slice A len cap, .agg #[.int .i64 pc, .int .i64 (r 0), .int .i64 (r 1), .int .i64 (r 2), .int .i64 (r 3), .int .i64 (r 4), .int .i64 (r 5), .int .i64 (r 6), .int .i64 (r 7), .int .i64 md], .agg #[.int .u8 7, .int .i64 x, .int .i64 n]] w (if k + 1 ≤ V.length then Cu.Acc w V A V pc md (Cu.upd r x (Cu.rd V false k)) true else Cu.Acc w V A V pc md r false) := by
  subst hlen
  have HIN := Lib.hid hA
  have i1 : (n : Int) < 8 := by omega
  have i2 : (0 : Int) ≤ (n : Int) := by omega
  have i3 : ¬ (n : Int) < 0 := by omega
  have i4 : ¬ (7 : Int) < (n : Int) := by omega
  have j1 : (x : Int) < 8 := by omega
  have j2 : (0 : Int) ≤ (x : Int) := by omega
  have j3 : ¬ (x : Int) < 0 := by omega
  have j4 : ¬ (7 : Int) < (x : Int) := by omega
  have HTH := Lib.hid (Go.Proofs.YthhodadfiipffaaDoor.there_any A V.length cap (k : Int) 1)
  obtain ⟨W1, hW1⟩ : ∃ W1, W1 = ((w.alloc (.cells (Cu.stC pc r md) 35)).alloc (.cells #[.int .u8 7, .int .i64 x, .int .i64 n] 104)).alloc (.cells #[.int .i64 0, .int .i64 0, .int .i64 0, .int .i64 0, .int .i64 0, .int .i64 0, .int .i64 0, .int .i64 0, .int .i64 0, .int .i64 0] 35) := ⟨_, rfl⟩
  have H1 := Lib.hid (show Cu.Ab w W1 (Cu.stC pc r md) #[.int .u8 7, .int .i64 x, .int .i64 n] from by rw [hW1]; exact Cu.ab_new _ _ _)
  unfold Cu.stC at hW1
  obtain ⟨d0, d1, d2⟩ := in3 H1.out.ib
  have cn := (Cu.st_cells H1.out.sb).2.2 n hn
  rw [hk] at cn
  have cx := (Cu.st_cells H1.out.sb).2.2 x hx
  by_cases hf : k + 1 ≤ V.length
  · rw [if_pos hf]
    have et : thereB V.length (k : Int) 1 = true := by unfold thereB; simp; omega
    rw [et] at HTH
    obtain ⟨bb, off, rfl, hbb, hcc⟩ := HIN.out.2 (by rw [num_len]; omega)
    have HFV := Lib.hid (fun W' (r' : Nat → Int) (g : w.grownBy W' none) => Cu.acc_mk (pc := pc) (md := md) (r := r') (ok := true) (c := cap) (A := some ⟨bb, off, none⟩) (A0 := some ⟨bb, off, none⟩) rfl (Cu.ints_gr HIN.out g) g (fun _ _ h => h))
    have e0 := hcc k (by rw [num_len]; omega)
    rw [Cu.num_at (by omega)] at e0
    have E0 := Lib.hid ((H1.out.gr.block bb hbb (by simp)))
    have v0 : W1.cell? ⟨bb, off + k, none⟩ = some (.int .i64 ((V.getD k 0).toNat : Int)) := by rw [show W1.cell? ⟨bb, off + k, none⟩ = w.cell? ⟨bb, off + k, none⟩ by simp only [World.cell?, E0.out]]; exact e0
    have l1 : (k : Int) < (V.length : Int) := by omega
    have b8 := UInt8.toNat_lt (V.getD k 0)
    have fx := H1.out.sb.free (1 + x)
    have nb1 : ¬ bb = w.heap.size := by omega
    have nb2 : ¬ w.heap.size = bb := by omega
    have HRD := Lib.hid (show Cu.rd V false k = ((V.getD k 0).toNat : Int) from rfl)
    clear hcc e0 HIN hA et
    generalize ((V.getD k 0).toNat : Int) = u0 at *
    go_enter Tryd.func55, Tryd.ntmps55
    go_upto_region 1 with (fail)
    rw [← hW1]
    clear hW1
    go_upto_region 11 with (go_at_call 51; (with_reducible refine (HTH.out _ (by omega)).mono ?_); rintro e w' ⟨rfl, rfl⟩)
    go_region_with (fail)
    all_goals
      obtain ⟨W2, hW2⟩ : ∃ W2, W2 = (W1.setCell ⟨w.heap.size, 1 + x, none⟩ (.int .i64 u0)).drew := ⟨_, rfl⟩
      have H2 := Lib.hid (show Cu.Ab w W2 (Cu.stC pc (Cu.upd r x u0) md) #[.int .u8 7, .int .i64 x, .int .i64 n] from by
        rw [hW2, ← Cu.stC_reg pc r md x hx]
        exact (H1.out.put (1 + x) _).grown (only_drewN (only_refl _ none) 1))
      rw [← hW2]
      clear hW2 d0 d1 d2 cn cx v0 fx
      go_upto_region 16 with (fail)
      obtain ⟨k0, k1, k2, k3, k4, k5, k6, k7, k8, k9⟩ := Cu.cells10 H2.out.sb
      obtain ⟨z0, z1, z2, z3, z4, z5, z6, z7, z8, z9⟩ := Cu.cells10 H2.out.rs
      obtain ⟨f0, f1, f2, f3, f4, f5, f6, f7, f8, f9⟩ := Cu.free10 H2.out.rs
      go_region_with (fail)
      all_goals
        obtain ⟨⟨r0, r1, r2, r3, r4, r5, r6, r7, r8, r9⟩, G9, K9⟩ := H2.out.fin (.int .i64 pc) (.int .i64 ((Cu.upd r x u0) 0)) (.int .i64 ((Cu.upd r x u0) 1)) (.int .i64 ((Cu.upd r x u0) 2)) (.int .i64 ((Cu.upd r x u0) 3)) (.int .i64 ((Cu.upd r x u0) 4)) (.int .i64 ((Cu.upd r x u0) 5)) (.int .i64 ((Cu.upd r x u0) 6)) (.int .i64 ((Cu.upd r x u0) 7)) (.int .i64 md) _ rfl
        go_wp2
        refine bodyPost_ret (v := .tuple #[.slice (some ⟨bb, off, none⟩) V.length cap, .agg #[.int .i64 pc, .int .i64 ((Cu.upd r x u0) 0), .int .i64 ((Cu.upd r x u0) 1), .int .i64 ((Cu.upd r x u0) 2), .int .i64 ((Cu.upd r x u0) 3), .int .i64 ((Cu.upd r x u0) 4), .int .i64 ((Cu.upd r x u0) 5), .int .i64 ((Cu.upd r x u0) 6), .int .i64 ((Cu.upd r x u0) 7), .int .i64 md], .bool true]) (by simp [results, Tryd.results55, go_sem, r0, r1, r2, r3, r4, r5, r6, r7, r8, r9]) rfl ?_
        rw [HRD.out]
        exact HFV.out _ _ G9
  · rw [if_neg hf]
    have et : thereB V.length (k : Int) 1 = false := by unfold thereB; simp; omega
    rw [et] at HTH
    have HFV := Lib.hid (fun W' (g : w.grownBy W' none) => Cu.acc_mk (pc := pc) (md := md) (r := r) (ok := false) (c := cap) (A0 := A) (A := A) rfl (Cu.ints_gr HIN.out g) g (fun _ _ h => h))
    clear HIN hA et hf cx
    obtain ⟨k0, k1, k2, k3, k4, k5, k6, k7, k8, k9⟩ := Cu.cells10 H1.out.sb
    obtain ⟨z0, z1, z2, z3, z4, z5, z6, z7, z8, z9⟩ := Cu.cells10 H1.out.rs
    obtain ⟨f0, f1, f2, f3, f4, f5, f6, f7, f8, f9⟩ := Cu.free10 H1.out.rs
    go_enter Tryd.func55, Tryd.ntmps55
    go_upto_region 1 with (fail)
    rw [← hW1]
    clear hW1
    go_upto_region 6 with (go_at_call 51; (with_reducible refine (HTH.out _ (by omega)).mono ?_); rintro e w' ⟨rfl, rfl⟩)
    go_region_with (fail)
    all_goals
      obtain ⟨⟨r0, r1, r2, r3, r4, r5, r6, r7, r8, r9⟩, G9, K9⟩ := H1.out.fin (.int .i64 pc) (.int .i64 (r 0)) (.int .i64 (r 1)) (.int .i64 (r 2)) (.int .i64 (r 3)) (.int .i64 (r 4)) (.int .i64 (r 5)) (.int .i64 (r 6)) (.int .i64 (r 7)) (.int .i64 md) _ rfl
      go_wp2
      refine bodyPost_ret (v := .tuple #[.slice A V.length cap, .agg #[.int .i64 pc, .int .i64 (r 0), .int .i64 (r 1), .int .i64 (r 2), .int .i64 (r 3), .int .i64 (r 4), .int .i64 (r 5), .int .i64 (r 6), .int .i64 (r 7), .int .i64 md], .bool false]) (by simp [results, Tryd.results55, go_sem, r0, r1, r2, r3, r4, r5, r6, r7, r8, r9]) rfl (HFV.out _ G9)

set_option maxHeartbeats 12800000 in
theorem Cu.acc_9 (V : List UInt8) (A : Option Addr) (len cap : Nat) (hlen : len = V.length) (hV : V.length ≤ 1000) (pc md : Int) (r : Nat → Int) (x n : Nat) (hx : x < 8) (hn : n < 8) (k : Nat) (hk : r n = (k : Int)) (hk2 : k < 65536) (hr : 0 ≤ r x ∧ r x < 65536) (w : World) (hA : Ints w A cap (num V)) :
    Calls Tryd.prog 55 #[.slice A len cap, .agg #[.int .i64 pc, .int .i64 (r 0), .int .i64 (r 1), .int .i64 (r 2), .int .i64 (r 3), .int .i64 (r 4), .int .i64 (r 5), .int .i64 (r 6), .int .i64 (r 7), .int .i64 md], .agg #[.int .u8 9, .int .i64 x, .int .i64 n]] w (if k + 2 ≤ V.length then Cu.Acc w V A V pc md (Cu.upd r x (Cu.rd V true k)) true else Cu.Acc w V A V pc md r false) := by
  subst hlen
  have HIN := Lib.hid hA
  have i1 : (n : Int) < 8 := by omega
  have i2 : (0 : Int) ≤ (n : Int) := by omega
  have i3 : ¬ (n : Int) < 0 := by omega
  have i4 : ¬ (7 : Int) < (n : Int) := by omega
  have j1 : (x : Int) < 8 := by omega
  have j2 : (0 : Int) ≤ (x : Int) := by omega
  have j3 : ¬ (x : Int) < 0 := by omega
  have j4 : ¬ (7 : Int) < (x : Int) := by omega
  have HTH := Lib.hid (Go.Proofs.YthhodadfiipffaaDoor.there_any A V.length cap (k : Int) 2)
  obtain ⟨W1, hW1⟩ : ∃ W1, W1 = ((w.alloc (.cells (Cu.stC pc r md) 35)).alloc (.cells #[.int .u8 9, .int .i64 x, .int .i64 n] 104)).alloc (.cells #[.int .i64 0, .int .i64 0, .int .i64 0, .int .i64 0, .int .i64 0, .int .i64 0, .int .i64 0, .int .i64 0, .int .i64 0, .int .i64 0] 35) := ⟨_, rfl⟩
  have H1 := Lib.hid (show Cu.Ab w W1 (Cu.stC pc r md) #[.int .u8 9, .int .i64 x, .int .i64 n] from by rw [hW1]; exact Cu.ab_new _ _ _)
  unfold Cu.stC at hW1
  obtain ⟨d0, d1, d2⟩ := in3 H1.out.ib
  have cn := (Cu.st_cells H1.out.sb).2.2 n hn
  rw [hk] at cn
  have cx := (Cu.st_cells H1.out.sb).2.2 x hx
  by_cases hf : k + 2 ≤ V.length
  · rw [if_pos hf]
    have et : thereB V.length (k : Int) 2 = true := by unfold thereB; simp; omega
    rw [et] at HTH
    obtain ⟨bb, off, rfl, hbb, hcc⟩ := HIN.out.2 (by rw [num_len]; omega)
    have HFV := Lib.hid (fun W' (r' : Nat → Int) (g : w.grownBy W' none) => Cu.acc_mk (pc := pc) (md := md) (r := r') (ok := true) (c := cap) (A := some ⟨bb, off, none⟩) (A0 := some ⟨bb, off, none⟩) rfl (Cu.ints_gr HIN.out g) g (fun _ _ h => h))
    have e0 := hcc k (by rw [num_len]; omega)
    rw [Cu.num_at (by omega)] at e0
    have E0 := Lib.hid ((H1.out.gr.block bb hbb (by simp)))
    have v0 : W1.cell? ⟨bb, off + k, none⟩ = some (.int .i64 ((V.getD k 0).toNat : Int)) := by rw [show W1.cell? ⟨bb, off + k, none⟩ = w.cell? ⟨bb, off + k, none⟩ by simp only [World.cell?, E0.out]]; exact e0
    have l1 : (k : Int) < (V.length : Int) := by omega
    have b8 := UInt8.toNat_lt (V.getD k 0)
    have e1 := hcc (k + 1) (by rw [num_len]; omega)
    rw [Cu.num_at (by omega)] at e1
    have v1 : W1.cell? ⟨bb, off + (k + 1), none⟩ = some (.int .i64 ((V.getD (k + 1) 0).toNat : Int)) := by rw [show W1.cell? ⟨bb, off + (k + 1), none⟩ = w.cell? ⟨bb, off + (k + 1), none⟩ by simp only [World.cell?, E0.out]]; exact e1
    have l2 : (k : Int) + 1 < (V.length : Int) := by omega
    have b9 := UInt8.toNat_lt (V.getD (k + 1) 0)
    have kt : ((k : Int) + 1).toNat = k + 1 := by omega
    have kw : IntKind.i64.wrap ((k : Int) + 1) = (k : Int) + 1 := by rw [IntKind.wrap_i64]; omega
    have kz : (0 : Int) ≤ (k : Int) + 1 := by omega
    have kn : ¬ (k : Int) + 1 < 0 := by omega
    have km : ¬ ((V.length : Int) ≤ (k : Int) + 1) := by omega
    have kc : ((k + 1 : Nat) : Int) = (k : Int) + 1 := by omega
    have k6 : (k : Int) + 1 ≤ 65536 := by omega
    have ub0 : (0 : Int) ≤ ((V.getD k 0).toNat : Int) ∧ ((V.getD k 0).toNat : Int) < 256 := by omega
    have ub1 : (0 : Int) ≤ ((V.getD (k + 1) 0).toNat : Int) ∧ ((V.getD (k + 1) 0).toNat : Int) < 256 := by omega
    obtain ⟨ub2, ub3⟩ := ub0
    obtain ⟨ub4, ub5⟩ := ub1
    have fx := H1.out.sb.free (1 + x)
    have nb1 : ¬ bb = w.heap.size := by omega
    have nb2 : ¬ w.heap.size = bb := by omega
    have HRD := Lib.hid (show Cu.rd V true k = ((V.getD k 0).toNat : Int) + 256 * ((V.getD (k + 1) 0).toNat : Int) from rfl)
    clear hcc e0 HIN hA et
    generalize ((V.getD k 0).toNat : Int) = u0 at *
    generalize ((V.getD (k + 1) 0).toNat : Int) = u1 at *
    have HUW := Lib.hid (show IntKind.i64.wrap (u0 + IntKind.i64.wrap (256 * u1)) = u0 + 256 * u1 from by simp only [IntKind.wrap_i64]; omega)
    go_enter Tryd.func55, Tryd.ntmps55
    go_upto_region 1 with (fail)
    rw [← hW1]
    clear hW1
    go_upto_region 13 with (go_at_call 51; (with_reducible refine (HTH.out _ (by omega)).mono ?_); rintro e w' ⟨rfl, rfl⟩)
    go_region_with (fail)
    all_goals
      rw [HUW.out]
      obtain ⟨W2, hW2⟩ : ∃ W2, W2 = (W1.setCell ⟨w.heap.size, 1 + x, none⟩ (.int .i64 (u0 + 256 * u1))).drew := ⟨_, rfl⟩
      have H2 := Lib.hid (show Cu.Ab w W2 (Cu.stC pc (Cu.upd r x (u0 + 256 * u1)) md) #[.int .u8 9, .int .i64 x, .int .i64 n] from by
        rw [hW2, ← Cu.stC_reg pc r md x hx]
        exact (H1.out.put (1 + x) _).grown (only_drewN (only_refl _ none) 1))
      rw [← hW2]
      clear hW2 d0 d1 d2 cn cx v0 v1 fx
      go_upto_region 16 with (fail)
      obtain ⟨k0, k1, k2, k3, k4, k5, k6, k7, k8, k9⟩ := Cu.cells10 H2.out.sb
      obtain ⟨z0, z1, z2, z3, z4, z5, z6, z7, z8, z9⟩ := Cu.cells10 H2.out.rs
      obtain ⟨f0, f1, f2, f3, f4, f5, f6, f7, f8, f9⟩ := Cu.free10 H2.out.rs
      go_region_with (fail)
      all_goals
        obtain ⟨⟨r0, r1, r2, r3, r4, r5, r6, r7, r8, r9⟩, G9, K9⟩ := H2.out.fin (.int .i64 pc) (.int .i64 ((Cu.upd r x (u0 + 256 * u1)) 0)) (.int .i64 ((Cu.upd r x (u0 + 256 * u1)) 1)) (.int .i64 ((Cu.upd r x (u0 + 256 * u1)) 2)) (.int .i64 ((Cu.upd r x (u0 + 256 * u1)) 3)) (.int .i64 ((Cu.upd r x (u0 + 256 * u1)) 4)) (.int .i64 ((Cu.upd r x (u0 + 256 * u1)) 5)) (.int .i64 ((Cu.upd r x (u0 + 256 * u1)) 6)) (.int .i64 ((Cu.upd r x (u0 + 256 * u1)) 7)) (.int .i64 md) _ rfl
        go_wp2
        refine bodyPost_ret (v := .tuple #[.slice (some ⟨bb, off, none⟩) V.length cap, .agg #[.int .i64 pc, .int .i64 ((Cu.upd r x (u0 + 256 * u1)) 0), .int .i64 ((Cu.upd r x (u0 + 256 * u1)) 1), .int .i64 ((Cu.upd r x (u0 + 256 * u1)) 2), .int .i64 ((Cu.upd r x (u0 + 256 * u1)) 3), .int .i64 ((Cu.upd r x (u0 + 256 * u1)) 4), .int .i64 ((Cu.upd r x (u0 + 256 * u1)) 5), .int .i64 ((Cu.upd r x (u0 + 256 * u1)) 6), .int .i64 ((Cu.upd r x (u0 + 256 * u1)) 7), .int .i64 md], .bool true]) (by simp [results, Tryd.results55, go_sem, r0, r1, r2, r3, r4, r5, r6, r7, r8, r9]) rfl ?_
        rw [HRD.out]
        exact HFV.out _ _ G9
  · rw [if_neg hf]
    have et : thereB V.length (k : Int) 2 = false := by unfold thereB; simp; omega
    rw [et] at HTH
    have HFV := Lib.hid (fun W' (g : w.grownBy W' none) => Cu.acc_mk (pc := pc) (md := md) (r := r) (ok := false) (c := cap) (A0 := A) (A := A) rfl (Cu.ints_gr HIN.out g) g (fun _ _ h => h))
    clear HIN hA et hf cx
    obtain ⟨k0, k1, k2, k3, k4, k5, k6, k7, k8, k9⟩ := Cu.cells10 H1.out.sb
    obtain ⟨z0, z1, z2, z3, z4, z5, z6, z7, z8, z9⟩ := Cu.cells10 H1.out.rs
    obtain ⟨f0, f1, f2, f3, f4, f5, f6, f7, f8, f9⟩ := Cu.free10 H1.out.rs
    go_enter Tryd.func55, Tryd.ntmps55
    go_upto_region 1 with (fail)
    rw [← hW1]
    clear hW1
    go_upto_region 6 with (go_at_call 51; (with_reducible refine (HTH.out _ (by omega)).mono ?_); rintro e w' ⟨rfl, rfl⟩)
    go_region_with (fail)
    all_goals
      obtain ⟨⟨r0, r1, r2, r3, r4, r5, r6, r7, r8, r9⟩, G9, K9⟩ := H1.out.fin (.int .i64 pc) (.int .i64 (r 0)) (.int .i64 (r 1)) (.int .i64 (r 2)) (.int .i64 (r 3)) (.int .i64 (r 4)) (.int .i64 (r 5)) (.int .i64 (r 6)) (.int .i64 (r 7)) (.int .i64 md) _ rfl
      go_wp2
      refine bodyPost_ret (v := .tuple #[.slice A V.length cap, .agg #[.int .i64 pc, .int .i64 (r 0), .int .i64 (r 1), .int .i64 (r 2), .int .i64 (r 3), .int .i64 (r 4), .int .i64 (r 5), .int .i64 (r 6), .int .i64 (r 7), .int .i64 md], .bool false]) (by simp [results, Tryd.results55, go_sem, r0, r1, r2, r3, r4, r5, r6, r7, r8, r9]) rfl (HFV.out _ G9)

set_option maxHeartbeats 12800000 in
theorem Cu.acc_8 (V : List UInt8) (A : Option Addr) (len cap : Nat) (hlen : len = V.length) (hV : V.length ≤ 1000) (pc md : Int) (r : Nat → Int) (x n : Nat) (hx : x < 8) (hn : n < 8) (k : Nat) (hk : r n = (k : Int)) (hk2 : k < 65536) (hr : 0 ≤ r x ∧ r x < 65536) (w : World) (hA : Ints w A cap (num V)) :
    Calls Tryd.prog 55 #[.slice A len cap, .agg #[.int .i64 pc, .int .i64 (r 0), .int .i64 (r 1), .int .i64 (r 2), .int .i64 (r 3), .int .i64 (r 4), .int .i64 (r 5), .int .i64 (r 6), .int .i64 (r 7), .int .i64 md], .agg #[.int .u8 8, .int .i64 x, .int .i64 n]] w (if k + 1 ≤ V.length then Cu.Acc w V A (over V k (Cu.bs false (r x))) pc md r true else Cu.Acc w V A V pc md r false) := by
  subst hlen
  have HIN := Lib.hid hA
  have i1 : (n : Int) < 8 := by omega
  have i2 : (0 : Int) ≤ (n : Int) := by omega
  have i3 : ¬ (n : Int) < 0 := by omega
  have i4 : ¬ (7 : Int) < (n : Int) := by omega
  have j1 : (x : Int) < 8 := by omega
  have j2 : (0 : Int) ≤ (x : Int) := by omega
  have j3 : ¬ (x : Int) < 0 := by omega
  have j4 : ¬ (7 : Int) < (x : Int) := by omega
  have HTH := Lib.hid (Go.Proofs.YthhodadfiipffaaDoor.there_any A V.length cap (k : Int) 1)
  obtain ⟨W1, hW1⟩ : ∃ W1, W1 = ((w.alloc (.cells (Cu.stC pc r md) 35)).alloc (.cells #[.int .u8 8, .int .i64 x, .int .i64 n] 104)).alloc (.cells #[.int .i64 0, .int .i64 0, .int .i64 0, .int .i64 0, .int .i64 0, .int .i64 0, .int .i64 0, .int .i64 0, .int .i64 0, .int .i64 0] 35) := ⟨_, rfl⟩
  have H1 := Lib.hid (show Cu.Ab w W1 (Cu.stC pc r md) #[.int .u8 8, .int .i64 x, .int .i64 n] from by rw [hW1]; exact Cu.ab_new _ _ _)
  unfold Cu.stC at hW1
  obtain ⟨d0, d1, d2⟩ := in3 H1.out.ib
  have cn := (Cu.st_cells H1.out.sb).2.2 n hn
  rw [hk] at cn
  have cx := (Cu.st_cells H1.out.sb).2.2 x hx
  by_cases hf : k + 1 ≤ V.length
  · rw [if_pos hf]
    have et : thereB V.length (k : Int) 1 = true := by unfold thereB; simp; omega
    rw [et] at HTH
    obtain ⟨bb, off, rfl, hbb, hcc⟩ := HIN.out.2 (by rw [num_len]; omega)
    have HFV := Lib.hid (fun W' (r' : Nat → Int) (g : w.grownBy W' none) => Cu.acc_mk (pc := pc) (md := md) (r := r') (ok := true) (c := cap) (A := some ⟨bb, off, none⟩) (A0 := some ⟨bb, off, none⟩) rfl (Cu.ints_gr HIN.out g) g (fun _ _ h => h))
    have e0 := hcc k (by rw [num_len]; omega)
    rw [Cu.num_at (by omega)] at e0
    have E0 := Lib.hid ((H1.out.gr.block bb hbb (by simp)))
    have v0 : W1.cell? ⟨bb, off + k, none⟩ = some (.int .i64 ((V.getD k 0).toNat : Int)) := by rw [show W1.cell? ⟨bb, off + k, none⟩ = w.cell? ⟨bb, off + k, none⟩ by simp only [World.cell?, E0.out]]; exact e0
    have l1 : (k : Int) < (V.length : Int) := by omega
    have b8 := UInt8.toNat_lt (V.getD k 0)
    have HLO := Lib.hid (show over V k ([r x].map low8) = over V k (Cu.bs false (r x)) from by
      rfl)
    have HOL := Lib.hid (show (over V k (Cu.bs false (r x))).length = V.length from over_len (by rw [Cu.bs_len]; simp; omega))
    have HWI := Lib.hid (show Calls Tryd.prog 27 #[.slice (some ⟨bb, off, none⟩) V.length cap, .int .i64 k, .slice (some ⟨W1.heap.size, 0, none⟩) 1 1] (W1.alloc (.cells #[.int .i64 (r x)] 3)) (fun e w' => ∃ (A' : Option Addr) (c' : Nat), e = .returned (.slice A' V.length c') ∧ Ints w' A' c' (num (over V k (Cu.bs false (r x)))) ∧ (∀ i, i < w.heap.size + 1 + 1 + 1 → Off A' i) ∧ W1.grownBy w' none) from by
      have gA : W1.grownBy (W1.alloc (.cells #[.int .i64 (r x)] 3)) none := only_alloc (only_refl _ _) _
      refine (rwith_any (some ⟨bb, off, none⟩) cap V k (some ⟨W1.heap.size, 0, none⟩) 1 1 [r x] rfl V.length rfl _ (Cu.ints_gr (Cu.ints_gr HIN.out H1.out.gr) gA) (Cu.ints_new W1 _ _ rfl) (by simp; omega) (by omega)).mono fun e w' ⟨v, e1, e2, e3⟩ => ?_
      rw [HLO.out] at e2
      obtain ⟨A', c', e4, e5, -⟩ := e2.ints
      have e6 := e2
      rw [e4] at e6
      have hlt := H1.out.rs.lt
      have e7 : ∀ i, i < w.heap.size + 1 + 1 + 1 → Off A' i := fun i hi => e6.off (by have := gA.size; omega)
      rw [num_len, HOL.out] at e4
      exact ⟨A', c', by rw [e1, e4], e5, e7, only_trans gA (Cu.grow_of e3)⟩)
    have HFW := Lib.hid (fun W' A' c' (h : Ints W' A' c' (num (over V k (Cu.bs false (r x))))) (g : w.grownBy W' none) (o : ∀ i, i < w.heap.size + 1 + 1 + 1 → Off A' i) => Cu.acc_mk (pc := pc) (md := md) (r := r) (ok := true) (n := V.length) (V := V) (A0 := some ⟨bb, off, none⟩) HOL.out.symm h g (fun i hi _ _ => o i (by omega)))
    obtain ⟨hr0, hr1⟩ := hr
    clear hcc e0 HIN hA et v0 HLO HFV
    generalize over V k (Cu.bs false (r x)) = V' at *
    go_enter Tryd.func55, Tryd.ntmps55
    go_upto_region 1 with (fail)
    rw [← hW1]
    clear hW1
    go_upto_region 16 with (first
      | (go_at_call 51; (with_reducible refine (HTH.out _ (by omega)).mono ?_); rintro e w' ⟨rfl, rfl⟩)
      | (go_at_call 27; (with_reducible refine HWI.out.mono ?_); rintro e w9 ⟨A9, c9, rfl, i9, o9, g9⟩; have O9 := Lib.hid o9; clear o9; have H9 := Lib.hid (H1.out.grown g9); have I9 := Lib.hid i9; clear g9 i9 d0 d1 d2 cn cx))
    obtain ⟨k0, k1, k2, k3, k4, k5, k6, k7, k8, k9⟩ := Cu.cells10 H9.out.sb
    obtain ⟨z0, z1, z2, z3, z4, z5, z6, z7, z8, z9⟩ := Cu.cells10 H9.out.rs
    obtain ⟨f0, f1, f2, f3, f4, f5, f6, f7, f8, f9⟩ := Cu.free10 H9.out.rs
    go_region_with (fail)
    all_goals
      obtain ⟨⟨r0, r1, r2, r3, r4, r5, r6, r7, r8, r9⟩, G9, K9⟩ := H9.out.fin (.int .i64 pc) (.int .i64 (r 0)) (.int .i64 (r 1)) (.int .i64 (r 2)) (.int .i64 (r 3)) (.int .i64 (r 4)) (.int .i64 (r 5)) (.int .i64 (r 6)) (.int .i64 (r 7)) (.int .i64 md) _ rfl
      go_wp2
      refine bodyPost_ret (v := .tuple #[.slice A9 V.length c9, .agg #[.int .i64 pc, .int .i64 (r 0), .int .i64 (r 1), .int .i64 (r 2), .int .i64 (r 3), .int .i64 (r 4), .int .i64 (r 5), .int .i64 (r 6), .int .i64 (r 7), .int .i64 md], .bool true]) (by simp [results, Tryd.results55, go_sem, r0, r1, r2, r3, r4, r5, r6, r7, r8, r9]) rfl (HFW.out _ A9 c9 (I9.out.far K9 (O9.out _ (by omega))) G9 O9.out)
  · rw [if_neg hf]
    have et : thereB V.length (k : Int) 1 = false := by unfold thereB; simp; omega
    rw [et] at HTH
    have HFV := Lib.hid (fun W' (g : w.grownBy W' none) => Cu.acc_mk (pc := pc) (md := md) (r := r) (ok := false) (c := cap) (A0 := A) (A := A) rfl (Cu.ints_gr HIN.out g) g (fun _ _ h => h))
    clear HIN hA et hf cx
    obtain ⟨k0, k1, k2, k3, k4, k5, k6, k7, k8, k9⟩ := Cu.cells10 H1.out.sb
    obtain ⟨z0, z1, z2, z3, z4, z5, z6, z7, z8, z9⟩ := Cu.cells10 H1.out.rs
    obtain ⟨f0, f1, f2, f3, f4, f5, f6, f7, f8, f9⟩ := Cu.free10 H1.out.rs
    go_enter Tryd.func55, Tryd.ntmps55
    go_upto_region 1 with (fail)
    rw [← hW1]
    clear hW1
    go_upto_region 6 with (go_at_call 51; (with_reducible refine (HTH.out _ (by omega)).mono ?_); rintro e w' ⟨rfl, rfl⟩)
    go_region_with (fail)
    all_goals
      obtain ⟨⟨r0, r1, r2, r3, r4, r5, r6, r7, r8, r9⟩, G9, K9⟩ := H1.out.fin (.int .i64 pc) (.int .i64 (r 0)) (.int .i64 (r 1)) (.int .i64 (r 2)) (.int .i64 (r 3)) (.int .i64 (r 4)) (.int .i64 (r 5)) (.int .i64 (r 6)) (.int .i64 (r 7)) (.int .i64 md) _ rfl
      go_wp2
      refine bodyPost_ret (v := .tuple #[.slice A V.length cap, .agg #[.int .i64 pc, .int .i64 (r 0), .int .i64 (r 1), .int .i64 (r 2), .int .i64 (r 3), .int .i64 (r 4), .int .i64 (r 5), .int .i64 (r 6), .int .i64 (r 7), .int .i64 md], .bool false]) (by simp [results, Tryd.results55, go_sem, r0, r1, r2, r3, r4, r5, r6, r7, r8, r9]) rfl (HFV.out _ G9)

set_option maxHeartbeats 12800000 in
theorem Cu.acc_10 (V : List UInt8) (A : Option Addr) (len cap : Nat) (hlen : len = V.length) (hV : V.length ≤ 1000) (pc md : Int) (r : Nat → Int) (x n : Nat) (hx : x < 8) (hn : n < 8) (k : Nat) (hk : r n = (k : Int)) (hk2 : k < 65536) (hr : 0 ≤ r x ∧ r x < 65536) (w : World) (hA : Ints w A cap (num V)) :
    Calls Tryd.prog 55 #[.slice A len cap, .agg #[.int .i64 pc, .int .i64 (r 0), .int .i64 (r 1), .int .i64 (r 2), .int .i64 (r 3), .int .i64 (r 4), .int .i64 (r 5), .int .i64 (r 6), .int .i64 (r 7), .int .i64 md], .agg #[.int .u8 10, .int .i64 x, .int .i64 n]] w (if k + 2 ≤ V.length then Cu.Acc w V A (over V k (Cu.bs true (r x))) pc md r true else Cu.Acc w V A V pc md r false) := by
  subst hlen
  have HIN := Lib.hid hA
  have i1 : (n : Int) < 8 := by omega
  have i2 : (0 : Int) ≤ (n : Int) := by omega
  have i3 : ¬ (n : Int) < 0 := by omega
  have i4 : ¬ (7 : Int) < (n : Int) := by omega
  have j1 : (x : Int) < 8 := by omega
  have j2 : (0 : Int) ≤ (x : Int) := by omega
  have j3 : ¬ (x : Int) < 0 := by omega
  have j4 : ¬ (7 : Int) < (x : Int) := by omega
  have HTH := Lib.hid (Go.Proofs.YthhodadfiipffaaDoor.there_any A V.length cap (k : Int) 2)
  obtain ⟨W1, hW1⟩ : ∃ W1, W1 = ((w.alloc (.cells (Cu.stC pc r md) 35)).alloc (.cells #[.int .u8 10, .int .i64 x, .int .i64 n] 104)).alloc (.cells #[.int .i64 0, .int .i64 0, .int .i64 0, .int .i64 0, .int .i64 0, .int .i64 0, .int .i64 0, .int .i64 0, .int .i64 0, .int .i64 0] 35) := ⟨_, rfl⟩
  have H1 := Lib.hid (show Cu.Ab w W1 (Cu.stC pc r md) #[.int .u8 10, .int .i64 x, .int .i64 n] from by rw [hW1]; exact Cu.ab_new _ _ _)
  unfold Cu.stC at hW1
  obtain ⟨d0, d1, d2⟩ := in3 H1.out.ib
  have cn := (Cu.st_cells H1.out.sb).2.2 n hn
  rw [hk] at cn
  have cx := (Cu.st_cells H1.out.sb).2.2 x hx
  by_cases hf : k + 2 ≤ V.length
  · rw [if_pos hf]
    have et : thereB V.length (k : Int) 2 = true := by unfold thereB; simp; omega
    rw [et] at HTH
    obtain ⟨bb, off, rfl, hbb, hcc⟩ := HIN.out.2 (by rw [num_len]; omega)
    have HFV := Lib.hid (fun W' (r' : Nat → Int) (g : w.grownBy W' none) => Cu.acc_mk (pc := pc) (md := md) (r := r') (ok := true) (c := cap) (A := some ⟨bb, off, none⟩) (A0 := some ⟨bb, off, none⟩) rfl (Cu.ints_gr HIN.out g) g (fun _ _ h => h))
    have e0 := hcc k (by rw [num_len]; omega)
    rw [Cu.num_at (by omega)] at e0
    have E0 := Lib.hid ((H1.out.gr.block bb hbb (by simp)))
    have v0 : W1.cell? ⟨bb, off + k, none⟩ = some (.int .i64 ((V.getD k 0).toNat : Int)) := by rw [show W1.cell? ⟨bb, off + k, none⟩ = w.cell? ⟨bb, off + k, none⟩ by simp only [World.cell?, E0.out]]; exact e0
    have l1 : (k : Int) < (V.length : Int) := by omega
    have b8 := UInt8.toNat_lt (V.getD k 0)
    have e1 := hcc (k + 1) (by rw [num_len]; omega)
    rw [Cu.num_at (by omega)] at e1
    have v1 : W1.cell? ⟨bb, off + (k + 1), none⟩ = some (.int .i64 ((V.getD (k + 1) 0).toNat : Int)) := by rw [show W1.cell? ⟨bb, off + (k + 1), none⟩ = w.cell? ⟨bb, off + (k + 1), none⟩ by simp only [World.cell?, E0.out]]; exact e1
    have l2 : (k : Int) + 1 < (V.length : Int) := by omega
    have b9 := UInt8.toNat_lt (V.getD (k + 1) 0)
    have kt : ((k : Int) + 1).toNat = k + 1 := by omega
    have kw : IntKind.i64.wrap ((k : Int) + 1) = (k : Int) + 1 := by rw [IntKind.wrap_i64]; omega
    have kz : (0 : Int) ≤ (k : Int) + 1 := by omega
    have kn : ¬ (k : Int) + 1 < 0 := by omega
    have km : ¬ ((V.length : Int) ≤ (k : Int) + 1) := by omega
    have kc : ((k + 1 : Nat) : Int) = (k : Int) + 1 := by omega
    have k6 : (k : Int) + 1 ≤ 65536 := by omega
    have ub0 : (0 : Int) ≤ ((V.getD k 0).toNat : Int) ∧ ((V.getD k 0).toNat : Int) < 256 := by omega
    have ub1 : (0 : Int) ≤ ((V.getD (k + 1) 0).toNat : Int) ∧ ((V.getD (k + 1) 0).toNat : Int) < 256 := by omega
    obtain ⟨ub2, ub3⟩ := ub0
    obtain ⟨ub4, ub5⟩ := ub1
    have HLO := Lib.hid (show over V k ([r x % 256, r x / 256].map low8) = over V k (Cu.bs true (r x)) from by
      congr 1
      show [low8 (r x % 256), low8 (r x / 256)] = [UInt8.ofNat (r x % 256).toNat, UInt8.ofNat (r x / 256 % 256).toNat]
      unfold low8
      rw [show r x % 256 % 256 = r x % 256 from by omega])
    have HOL := Lib.hid (show (over V k (Cu.bs true (r x))).length = V.length from over_len (by rw [Cu.bs_len]; simp; omega))
    have HWI := Lib.hid (show Calls Tryd.prog 27 #[.slice (some ⟨bb, off, none⟩) V.length cap, .int .i64 k, .slice (some ⟨W1.heap.size, 0, none⟩) 2 2] (W1.alloc (.cells #[.int .i64 (r x % 256), .int .i64 (r x / 256)] 3)) (fun e w' => ∃ (A' : Option Addr) (c' : Nat), e = .returned (.slice A' V.length c') ∧ Ints w' A' c' (num (over V k (Cu.bs true (r x)))) ∧ (∀ i, i < w.heap.size + 1 + 1 + 1 → Off A' i) ∧ W1.grownBy w' none) from by
      have gA : W1.grownBy (W1.alloc (.cells #[.int .i64 (r x % 256), .int .i64 (r x / 256)] 3)) none := only_alloc (only_refl _ _) _
      refine (rwith_any (some ⟨bb, off, none⟩) cap V k (some ⟨W1.heap.size, 0, none⟩) 2 2 [r x % 256, r x / 256] rfl V.length rfl _ (Cu.ints_gr (Cu.ints_gr HIN.out H1.out.gr) gA) (Cu.ints_new W1 _ _ rfl) (by simp; omega) (by omega)).mono fun e w' ⟨v, e1, e2, e3⟩ => ?_
      rw [HLO.out] at e2
      obtain ⟨A', c', e4, e5, -⟩ := e2.ints
      have e6 := e2
      rw [e4] at e6
      have hlt := H1.out.rs.lt
      have e7 : ∀ i, i < w.heap.size + 1 + 1 + 1 → Off A' i := fun i hi => e6.off (by have := gA.size; omega)
      rw [num_len, HOL.out] at e4
      exact ⟨A', c', by rw [e1, e4], e5, e7, only_trans gA (Cu.grow_of e3)⟩)
    have HFW := Lib.hid (fun W' A' c' (h : Ints W' A' c' (num (over V k (Cu.bs true (r x))))) (g : w.grownBy W' none) (o : ∀ i, i < w.heap.size + 1 + 1 + 1 → Off A' i) => Cu.acc_mk (pc := pc) (md := md) (r := r) (ok := true) (n := V.length) (V := V) (A0 := some ⟨bb, off, none⟩) HOL.out.symm h g (fun i hi _ _ => o i (by omega)))
    obtain ⟨hr0, hr1⟩ := hr
    have mt : (r x).tmod 256 = r x % 256 := Int.tmod_eq_emod_of_nonneg hr0
    have md' : (r x).tdiv 256 = r x / 256 := Int.tdiv_eq_ediv_of_nonneg hr0
    have m0 : 0 ≤ r x % 256 := by omega
    have m1 : 0 ≤ r x / 256 := by omega
    have m2 : r x / 256 < 256 := by omega
    clear hcc e0 HIN hA et v0 v1 e1 HLO HFV
    generalize over V k (Cu.bs true (r x)) = V' at *
    go_enter Tryd.func55, Tryd.ntmps55
    go_upto_region 1 with (fail)
    rw [← hW1]
    clear hW1
    go_upto_region 16 with (first
      | (go_at_call 51; (with_reducible refine (HTH.out _ (by omega)).mono ?_); rintro e w' ⟨rfl, rfl⟩)
      | (go_at_call 27; (with_reducible refine HWI.out.mono ?_); rintro e w9 ⟨A9, c9, rfl, i9, o9, g9⟩; have O9 := Lib.hid o9; clear o9; have H9 := Lib.hid (H1.out.grown g9); have I9 := Lib.hid i9; clear g9 i9 d0 d1 d2 cn cx))
    obtain ⟨k0, k1, k2, k3, k4, k5, k6, k7, k8, k9⟩ := Cu.cells10 H9.out.sb
    obtain ⟨z0, z1, z2, z3, z4, z5, z6, z7, z8, z9⟩ := Cu.cells10 H9.out.rs
    obtain ⟨f0, f1, f2, f3, f4, f5, f6, f7, f8, f9⟩ := Cu.free10 H9.out.rs
    go_region_with (fail)
    all_goals
      obtain ⟨⟨r0, r1, r2, r3, r4, r5, r6, r7, r8, r9⟩, G9, K9⟩ := H9.out.fin (.int .i64 pc) (.int .i64 (r 0)) (.int .i64 (r 1)) (.int .i64 (r 2)) (.int .i64 (r 3)) (.int .i64 (r 4)) (.int .i64 (r 5)) (.int .i64 (r 6)) (.int .i64 (r 7)) (.int .i64 md) _ rfl
      go_wp2
      refine bodyPost_ret (v := .tuple #[.slice A9 V.length c9, .agg #[.int .i64 pc, .int .i64 (r 0), .int .i64 (r 1), .int .i64 (r 2), .int .i64 (r 3), .int .i64 (r 4), .int .i64 (r 5), .int .i64 (r 6), .int .i64 (r 7), .int .i64 md], .bool true]) (by simp [results, Tryd.results55, go_sem, r0, r1, r2, r3, r4, r5, r6, r7, r8, r9]) rfl (HFW.out _ A9 c9 (I9.out.far K9 (O9.out _ (by omega))) G9 O9.out)
  · rw [if_neg hf]
    have et : thereB V.length (k : Int) 2 = false := by unfold thereB; simp; omega
    rw [et] at HTH
    have HFV := Lib.hid (fun W' (g : w.grownBy W' none) => Cu.acc_mk (pc := pc) (md := md) (r := r) (ok := false) (c := cap) (A0 := A) (A := A) rfl (Cu.ints_gr HIN.out g) g (fun _ _ h => h))
    clear HIN hA et hf cx
    obtain ⟨k0, k1, k2, k3, k4, k5, k6, k7, k8, k9⟩ := Cu.cells10 H1.out.sb
    obtain ⟨z0, z1, z2, z3, z4, z5, z6, z7, z8, z9⟩ := Cu.cells10 H1.out.rs
    obtain ⟨f0, f1, f2, f3, f4, f5, f6, f7, f8, f9⟩ := Cu.free10 H1.out.rs
    go_enter Tryd.func55, Tryd.ntmps55
    go_upto_region 1 with (fail)
    rw [← hW1]
    clear hW1
    go_upto_region 6 with (go_at_call 51; (with_reducible refine (HTH.out _ (by omega)).mono ?_); rintro e w' ⟨rfl, rfl⟩)
    go_region_with (fail)
    all_goals
      obtain ⟨⟨r0, r1, r2, r3, r4, r5, r6, r7, r8, r9⟩, G9, K9⟩ := H1.out.fin (.int .i64 pc) (.int .i64 (r 0)) (.int .i64 (r 1)) (.int .i64 (r 2)) (.int .i64 (r 3)) (.int .i64 (r 4)) (.int .i64 (r 5)) (.int .i64 (r 6)) (.int .i64 (r 7)) (.int .i64 md) _ rfl
      go_wp2
      refine bodyPost_ret (v := .tuple #[.slice A V.length cap, .agg #[.int .i64 pc, .int .i64 (r 0), .int .i64 (r 1), .int .i64 (r 2), .int .i64 (r 3), .int .i64 (r 4), .int .i64 (r 5), .int .i64 (r 6), .int .i64 (r 7), .int .i64 md], .bool false]) (by simp [results, Tryd.results55, go_sem, r0, r1, r2, r3, r4, r5, r6, r7, r8, r9]) rfl (HFV.out _ G9)
end Go.Proofs.YthhodadfiipffaaDoor

/- The document's word on instructions: names, bytes, by their contracts. -/
namespace Go.Proofs.YthhodadfiipffaaDoor
open Go.RowKit Go.Lib
set_option linter.unusedVariables false

def nmV : Array Value := #[.string (nmL 0), .string (nmL 1), .string (nmL 2), .string (nmL 3), .string (nmL 4), .string (nmL 5), .string (nmL 6), .string (nmL 7), .string (nmL 8), .string (nmL 9), .string (nmL 10), .string (nmL 11), .string (nmL 12), .string (nmL 13), .string (nmL 14), .string (nmL 15)]
theorem nmV_at {k : Nat} (hk : k < 16) : nmV[k]? = some (.string (nmL k)) := by
  have key : k = 0 ∨ k = 1 ∨ k = 2 ∨ k = 3 ∨ k = 4 ∨ k = 5 ∨ k = 6 ∨ k = 7 ∨ k = 8 ∨ k = 9 ∨ k = 10 ∨ k = 11 ∨ k = 12 ∨ k = 13 ∨ k = 14 ∨ k = 15 := by omega
  rcases key with rfl | rfl | rfl | rfl | rfl | rfl | rfl | rfl | rfl | rfl | rfl | rfl | rfl | rfl | rfl | rfl
  all_goals rfl
/-- Two bytes as1 a string, behind another block. -/
theorem conv_two (x y : Int) (W : World) (o : Obj) : (convert 48 9 (.slice (some ⟨W.heap.size, 0, none⟩) 2 2)).run Tryd.prog ((W.alloc (.cells #[.int .u8 x, .int .u8 y] 5)).alloc o) =
    .ok (.string ⟨#[UInt8.ofNat x.toNat, UInt8.ofNat y.toNat]⟩) ((W.alloc (.cells #[.int .u8 x, .int .u8 y] 5)).alloc o) := by
  have hb := (Blk.new W 5 #[.int .u8 x, .int .u8 y]).alloc o
  have h := run_convert_bytes_arg (P := Tryd.prog) ((W.alloc (.cells #[.int .u8 x, .int .u8 y] 5)).alloc o) 48 5 Tryd.underlying48 Tryd.underlying5 W.heap.size 0 2 2 [x, y] rfl (by
    intro i hi
    rw [hb.cell]
    match i, hi with
    | 0, _ => simp
    | 1, _ => simp) 9 Tryd.underlying9
  rw [h]
  congr 2
end Go.Proofs.YthhodadfiipffaaDoor

/- The document's word on instructions: the instruction of bytes, by its contract. -/
namespace Go.Proofs.YthhodadfiipffaaDoor
open Go.RowKit Go.Lib
set_option linter.unusedVariables false

set_option maxRecDepth 20000 in
set_option maxHeartbeats 1600000 in
theorem rget_any (t : ByteArray) (hs : t.size ≤ 9223372036854775807) (w : World) : Calls Tryd.prog 53 #[.string t] w fun e w' => e = .returned (getV t) ∧ w.grownBy w' none := by
  obtain ⟨W1, hW, g1, hB⟩ := ibox w 104 #[.int .u8 0, .int .i64 0, .int .i64 0]
  have HG := Lib.hid g1
  have HB := Lib.hid hB
  by_cases h4 : t.size < 4
  · have HV := Lib.hid (show getV t = .tuple #[.agg #[.int .u8 0, .int .i64 0, .int .i64 0], .int .i64 5] from by unfold getV; rw [if_pos h4])
    have i4 : (t.size : Int) < 4 := by omega
    obtain ⟨z0, z1, z2, f0, f1, f2⟩ := in3f hB
    rw [HV.out]
    clear hB g1 h4
    go_enter Tryd.func53, Tryd.ntmps53
    go_upto_region 1 with (fail)
    rw [← hW]
    clear hW
    go_wp2
    obtain ⟨⟨r0, r1, r2⟩, G9⟩ := put3 (a' := .int .u8 0) (b' := .int .i64 0) (c' := .int .i64 0) HB.out HG.out _ rfl
    refine bodyPost_ret (v := .tuple #[.agg #[.int .u8 0, .int .i64 0, .int .i64 0], .int .i64 5]) (by simp [results, Tryd.results53, go_sem, r0, r1, r2]) rfl ⟨rfl, G9⟩
  · have j0 : 0 < t.size := by omega
    have j1 : 1 < t.size := by omega
    have j2 : 2 < t.size := by omega
    have j3 : 3 < t.size := by omega
    have i4 : ¬ (t.size : Int) < 4 := by omega
    have i0 : (0 : Int) < (t.size : Int) := by omega
    have i1 : (1 : Int) < (t.size : Int) := by omega
    have i2 : (2 : Int) < (t.size : Int) := by omega
    have i3 : (3 : Int) < (t.size : Int) := by omega
    have l0 := (t[0]'j0).toNat_lt
    have l1 := (t[1]'j1).toNat_lt
    have l2 := (t[2]'j2).toNat_lt
    have l3 := (t[3]'j3).toNat_lt
    have hgw : (gw t 2 : Int) = ((t[2]'j2).toNat : Int) + (256 : Int) * ((t[3]'j3).toNat : Int) := by rw [gw, if_pos (by omega), gb_of j2, gb_of j3]; omega
    have w1 : IntKind.i64.wrap ((t[1]'j1).toNat : Int) = ((t[1]'j1).toNat : Int) := by rw [IntKind.wrap_i64]; omega
    have w2 : IntKind.i64.wrap ((t[2]'j2).toNat : Int) = ((t[2]'j2).toNat : Int) := by rw [IntKind.wrap_i64]; omega
    have w3 : IntKind.i64.wrap ((t[3]'j3).toNat : Int) = ((t[3]'j3).toNat : Int) := by rw [IntKind.wrap_i64]; omega
    have w4 : IntKind.i64.wrap ((256 : Int) * ((t[3]'j3).toNat : Int)) = (256 : Int) * ((t[3]'j3).toNat : Int) := by rw [IntKind.wrap_i64]; omega
    have w5 : IntKind.i64.wrap (((t[2]'j2).toNat : Int) + (256 : Int) * ((t[3]'j3).toNat : Int)) = ((t[2]'j2).toNat : Int) + (256 : Int) * ((t[3]'j3).toNat : Int) := by rw [IntKind.wrap_i64]; omega
    have w6 : wrap64 ((256 : Int) * ((t[3]'j3).toNat : Int)) = (256 : Int) * ((t[3]'j3).toNat : Int) := IntWalk.wrap64_in _ ⟨by omega, by omega⟩
    have w7 : wrap64 (((t[2]'j2).toNat : Int) + (256 : Int) * ((t[3]'j3).toNat : Int)) = ((t[2]'j2).toNat : Int) + (256 : Int) * ((t[3]'j3).toNat : Int) := IntWalk.wrap64_in _ ⟨by omega, by omega⟩
    have HM := Lib.hid (fun W => rmay_any (gb t 0) (gb t 1) (gw t 2) (gb_lt t 0) W)
    have HVE := Lib.hid (show getV t = if mayI (gb t 0) (gb t 1) (gw t 2) = true then .tuple #[.agg #[.int .u8 (gb t 0), .int .i64 (gb t 1), .int .i64 (gw t 2)], .int .i64 0] else .tuple #[.agg #[.int .u8 0, .int .i64 0, .int .i64 0], .int .i64 12] from by unfold getV; rw [if_neg h4])
    rw [HVE.out]
    rw [gb_of j0, gb_of j1, hgw] at HM ⊢
    obtain ⟨m, hm⟩ : ∃ m, m = mayI (t[0]'j0).toNat ((t[1]'j1).toNat : Int) (((t[2]'j2).toNat : Int) + (256 : Int) * ((t[3]'j3).toNat : Int)) := ⟨_, rfl⟩
    rw [← hm] at HM ⊢
    cases m
    · rw [if_neg (by decide)]
      clear hB g1 h4 hgw hm HVE l0 l1 l2 l3
      go_enter Tryd.func53, Tryd.ntmps53
      go_upto_region 1 with (fail)
      rw [← hW]
      clear hW
      go_upto_region 3 with (fail)
      go_region
      obtain ⟨w8, hw8⟩ : ∃ w8, w8 = (W1.alloc (.cells #[.int .u8 ((t[0]'j0).toNat : Int), .int .i64 ((t[1]'j1).toNat : Int), .int .i64 (((t[2]'j2).toNat : Int) + (256 : Int) * ((t[3]'j3).toNat : Int))] 104)).drew := ⟨_, rfl⟩
      have g8 : W1.grownBy w8 none := by rw [hw8]; exact only_drewN (only_alloc (only_refl _ _) _) 1
      have BI := Lib.hid (show Blk w8 W1.heap.size 104 #[.int .u8 ((t[0]'j0).toNat : Int), .int .i64 ((t[1]'j1).toNat : Int), .int .i64 (((t[2]'j2).toNat : Int) + (256 : Int) * ((t[3]'j3).toNat : Int))] from by rw [hw8]; exact Blk.new _ _ _)
      have B8 := Lib.hid (HB.out.only g8 (by simp))
      have G8 := Lib.hid (only_trans HG.out g8)
      have hlt := HB.out.lt
      have n1 : ¬ w.heap.size = W1.heap.size := by omega
      have n2 : ¬ W1.heap.size = w.heap.size := by omega
      rw [← hw8]
      clear hw8 g8 hlt w1 w2 w3 w4 w5 w6 w7
      obtain ⟨y0, y1, y2⟩ := in3 BI.out
      go_wp2_with (go_at_call 66; (with_reducible refine (HM.out _).mono ?_); rintro e w9 ⟨rfl, g9⟩; have B9 := Lib.hid (B8.out.only g9 (by simp)); have G9 := Lib.hid (only_trans G8.out g9); clear y0 y1 y2 g9; obtain ⟨z0, z1, z2, f0, f1, f2⟩ := in3f B9.out)
      obtain ⟨⟨r0, r1, r2⟩, Gf⟩ := put3 (a' := .int .u8 0) (b' := .int .i64 0) (c' := .int .i64 0) B9.out G9.out _ rfl
      refine bodyPost_ret (v := .tuple #[.agg #[.int .u8 0, .int .i64 0, .int .i64 0], .int .i64 12]) (by simp [results, Tryd.results53, go_sem, r0, r1, r2]) rfl ⟨rfl, Gf⟩
    · rw [if_pos rfl]
      clear hB g1 h4 hgw hm HVE l0 l1 l2 l3
      go_enter Tryd.func53, Tryd.ntmps53
      go_upto_region 1 with (fail)
      rw [← hW]
      clear hW
      go_upto_region 3 with (fail)
      go_region
      obtain ⟨w8, hw8⟩ : ∃ w8, w8 = (W1.alloc (.cells #[.int .u8 ((t[0]'j0).toNat : Int), .int .i64 ((t[1]'j1).toNat : Int), .int .i64 (((t[2]'j2).toNat : Int) + (256 : Int) * ((t[3]'j3).toNat : Int))] 104)).drew := ⟨_, rfl⟩
      have g8 : W1.grownBy w8 none := by rw [hw8]; exact only_drewN (only_alloc (only_refl _ _) _) 1
      have BI := Lib.hid (show Blk w8 W1.heap.size 104 #[.int .u8 ((t[0]'j0).toNat : Int), .int .i64 ((t[1]'j1).toNat : Int), .int .i64 (((t[2]'j2).toNat : Int) + (256 : Int) * ((t[3]'j3).toNat : Int))] from by rw [hw8]; exact Blk.new _ _ _)
      have B8 := Lib.hid (HB.out.only g8 (by simp))
      have G8 := Lib.hid (only_trans HG.out g8)
      have hlt := HB.out.lt
      have n1 : ¬ w.heap.size = W1.heap.size := by omega
      have n2 : ¬ W1.heap.size = w.heap.size := by omega
      rw [← hw8]
      clear hw8 g8 hlt w1 w2 w3 w4 w5 w6 w7
      obtain ⟨y0, y1, y2⟩ := in3 BI.out
      go_wp2_with (go_at_call 66; (with_reducible refine (HM.out _).mono ?_); rintro e w9 ⟨rfl, g9⟩; have B9 := Lib.hid (B8.out.only g9 (by simp)); have BJ := Lib.hid (BI.out.only g9 (by simp)); have G9 := Lib.hid (only_trans G8.out g9); clear y0 y1 y2 g9; obtain ⟨z0, z1, z2, f0, f1, f2⟩ := in3f B9.out; obtain ⟨y0, y1, y2⟩ := in3 BJ.out)
      obtain ⟨⟨r0, r1, r2⟩, Gf⟩ := put3 (a' := .int .u8 ((t[0]'j0).toNat : Int)) (b' := .int .i64 ((t[1]'j1).toNat : Int)) (c' := .int .i64 (((t[2]'j2).toNat : Int) + (256 : Int) * ((t[3]'j3).toNat : Int))) B9.out G9.out _ rfl
      refine bodyPost_ret (v := .tuple #[.agg #[.int .u8 ((t[0]'j0).toNat : Int), .int .i64 ((t[1]'j1).toNat : Int), .int .i64 (((t[2]'j2).toNat : Int) + (256 : Int) * ((t[3]'j3).toNat : Int))], .int .i64 0]) (by simp [results, Tryd.results53, go_sem, r0, r1, r2]) rfl ⟨rfl, Gf⟩
end Go.Proofs.YthhodadfiipffaaDoor
