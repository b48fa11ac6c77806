import Derived.Test.YtiicoabkhponmaaDoorZ37
import Derived.Test.YtiicoabkhponmaaDoorZ38
import Derived.LoopTactic
set_option linter.all false
/- CpuSteps walked. -/
namespace Go.Proofs.YtiicoabkhponmaaDoor
open Go.RowKit Go.Lib Go.Sort
set_option linter.unusedVariables false
set_option maxRecDepth 20000
attribute [-go_sem] Go.run_neq_struct

/-- The document's, step by step. -/
theorem Cu.rstep_f (V : List UInt8) (pc md : Int) (r : Nat → Int) (vl : Nat) (hV : V.length = vl) (hl : vl ≤ 1000) (hpc : pc ≤ 9223372036854775807) (j : Nat) (A : Option Addr) (cap : Nat) (W : World) (hA : Ints W A cap (num (Cu.stN V pc r md j).v)) :
    Calls Tryd.prog 11 #[.slice A vl cap, .agg #[.int .i64 (Cu.stN V pc r md j).pc, .int .i64 ((Cu.stN V pc r md j).r 0), .int .i64 ((Cu.stN V pc r md j).r 1), .int .i64 ((Cu.stN V pc r md j).r 2), .int .i64 ((Cu.stN V pc r md j).r 3), .int .i64 ((Cu.stN V pc r md j).r 4), .int .i64 ((Cu.stN V pc r md j).r 5), .int .i64 ((Cu.stN V pc r md j).r 6), .int .i64 ((Cu.stN V pc r md j).r 7), .int .i64 (Cu.stN V pc r md j).md]] W fun e w' => ∃ A' c', e = .returned (.tuple #[.slice A' vl c', .agg #[.int .i64 (Cu.stN V pc r md (j + 1)).pc, .int .i64 ((Cu.stN V pc r md (j + 1)).r 0), .int .i64 ((Cu.stN V pc r md (j + 1)).r 1), .int .i64 ((Cu.stN V pc r md (j + 1)).r 2), .int .i64 ((Cu.stN V pc r md (j + 1)).r 3), .int .i64 ((Cu.stN V pc r md (j + 1)).r 4), .int .i64 ((Cu.stN V pc r md (j + 1)).r 5), .int .i64 ((Cu.stN V pc r md (j + 1)).r 6), .int .i64 ((Cu.stN V pc r md (j + 1)).r 7), .int .i64 (Cu.stN V pc r md (j + 1)).md], .agg #[.int .i64 (Cu.stN V pc r md (j + 1)).o1, .int .i64 (Cu.stN V pc r md (j + 1)).o2, .int .i64 (Cu.stN V pc r md (j + 1)).o3, .int .i64 (Cu.stN V pc r md (j + 1)).o4]]) ∧ Ints w' A' c' (num (Cu.stN V pc r md (j + 1)).v) ∧ W.grownBy w' none ∧ ∀ i, i < W.heap.size → OffI (Cu.stN V pc r md j).v A i → OffI (Cu.stN V pc r md (j + 1)).v A' i := by
  have hlen := Cu.stN_len V pc r md j
  have hlen2 := Cu.stN_len V pc r md (j + 1)
  have hp := Cu.stN_pc V pc r md (by omega) hpc j
  have hs := Cu.rstep_any (Cu.stN V pc r md j).v A cap (by omega) (Cu.stN V pc r md j).pc (Cu.stN V pc r md j).md (Cu.stN V pc r md j).r hp W hA
  rw [hlen, hV] at hs
  refine hs.mono fun e w' ⟨A', n, c', e1, e2, e3, e4, e5⟩ => ⟨A', c', ?_, e3, e4, e5⟩
  have : n = vl := by rw [e2]; exact hlen2.trans hV
  rw [e1, this]
  rfl
theorem Cu.text_doc {W : World} {A : Option Addr} {cap vl : Nat} {V : List UInt8} (hA : Ints W A cap (num V)) (hV : V.length = vl) (hl : vl ≤ 1000) : Calls Tryd.prog 13 #[.slice A vl cap, .int .i64 0, .int .i64 vl] W fun e w' => e = .returned (.string ⟨V.toArray⟩) ∧ Below W.heap.size W w' := by
  have := rtext_any A cap vl V (by rw [num_len, hV]) 0 vl W hA (by omega) (by omega)
  rw [List.drop_zero, ← hV, List.take_length] at this
  rw [← hV]
  exact this
theorem Cu.text_re3 {W : World} {B m g vl : Nat} {p V q : List UInt8} (hx : p.length = 300) (hV : V.length = vl) (hl : p.length + vl + q.length ≤ 16384) (h : MemG W B m g (p ++ V ++ q)) :
    Calls Tryd.prog 12 #[.agg #[.pointer (some ⟨m, 0, none⟩), .int .i64 300, .int .i64 vl]] W fun e w' => e = .returned (.string ⟨V.toArray⟩) ∧ Below W.heap.size W w' := Cu.text_re (x := 300) hx.symm hV hl h
theorem Cu.ref_b (pc md : Int) (r : Nat → Int) (w : World) : Calls Tryd.prog 9 #[.agg #[.int .i64 pc, .int .i64 (r 0), .int .i64 (r 1), .int .i64 (r 2), .int .i64 (r 3), .int .i64 (r 4), .int .i64 (r 5), .int .i64 (r 6), .int .i64 (r 7), .int .i64 md]] w fun x w' => x = .returned (.agg #[.int .i64 pc, .int .i64 (r 0), .int .i64 (r 1), .int .i64 (r 2), .int .i64 (r 3), .int .i64 (r 4), .int .i64 (r 5), .int .i64 (r 6), .int .i64 (r 7), .int .i64 md]) ∧ Below w.heap.size w w' := (Cu.ref_any pc md r w).mono fun e w' ⟨h1, h2⟩ => ⟨h1, Cu.below h2⟩
set_option maxHeartbeats 25600000 in
theorem Cu.steps_ok (s : ByteArray) (vl : Nat) (pc md : Int) (r : Nat → Int) (n : Int) (w : World) (hN : Nm w) (hpc : pc ≤ 9223372036854775807) (bn : 0 ≤ n ∧ n ≤ 255) (h1 : s.size ≤ 400) (h3 : vl ≤ 400) : Calls Tryd.prog 3 #[.string s, .int .i64 vl, Cu.stV pc r md, .int .u8 n] w fun e w' => e = .returned (.bool true) ∧ Below w.heap.size w w' := by
  obtain ⟨N, hNN⟩ := Int.eq_ofNat_of_zero_le (show 0 ≤ n % 60 from by omega)
  have hnt : n.tmod 60 = (N : Int) := by rw [Int.tmod_eq_emod_of_nonneg bn.1]; exact hNN
  have hN60 : N < 60 := by omega
  have HV1 := Lib.hid (show ∀ W, Calls Tryd.prog 8 #[.string s, .int .i64 300, .int .i64 vl] W fun e w' => ∃ m g A c, e = .returned (.tuple #[.pointer (some ⟨m, 0, none⟩), .agg #[.pointer (some ⟨m, 0, none⟩), .int .i64 300, .int .i64 vl], .slice A vl c]) ∧ MemG w' W.heap.size m g (Cu.z 300 ++ Cu.v0 s vl ++ Cu.z (1000 - 300 - vl)) ∧ Below W.heap.size W w' ∧ Ints w' A c (num (Cu.v0 s vl)) ∧ ∀ i, i < W.heap.size ∨ i = g → OffI (Cu.v0 s vl) A i from Cu.view_slice s 300 vl h1 (by omega) (by omega))
  have s4 : (s.size : Int) ≤ 400 := by omega
  have s5 : (vl : Int) ≤ 400 := by omega
  have HS1 := Lib.hid (fun m g B j W => Cu.step_f (Cu.v0 s vl) pc md r (Cu.z 300) (Cu.z (1000 - 300 - vl)) vl (Cu.v0_len _ _) (by rw [Cu.z_len, Cu.z_len]; omega) hpc B m g 300 (by rw [Cu.z_len]; rfl) j W)
  have HR1 := Lib.hid (fun j A c W h => Cu.rstep_f (Cu.v0 s vl) pc md r vl (Cu.v0_len _ _) (by omega) hpc j A c W h)
  have HVL := Lib.hid (fun j => show (Cu.stN (Cu.v0 s vl) pc r md j).v.length = vl from (Cu.stN_len _ _ _ _ j).trans (Cu.v0_len _ _))
  have HF0 := Lib.hid (show Cu.stN (Cu.v0 s vl) pc r md 0 = ⟨Cu.v0 s vl, pc, r, md, 0, 0, 0, 0⟩ from rfl)
  generalize Cu.stN (Cu.v0 s vl) pc r md = f at HS1 HR1 HF0 HVL
  have HP1 := Lib.hid (Cu.z_len 300)
  have HQ1 := Lib.hid (Cu.z_len (1000 - 300 - vl))
  generalize Cu.v0 s vl = V at *
  generalize Cu.z 300 = p1 at *
  generalize Cu.z (1000 - 300 - vl) = q1 at *
  clear hNN
  obtain ⟨W0, hW0, g0, hB0⟩ := ibox w 24 (Cu.stC pc r md)
  have z0 : W0.heap.size = w.heap.size + 1 := by rw [hW0]; simp
  have HB0 := Lib.hid hB0
  have HG0 := Lib.hid g0
  have HZ0 := Lib.hid z0
  have HNw := Lib.hid hN
  clear hB0 g0 z0 hN
  unfold Cu.stV
  unfold Cu.stC at hW0 HB0 ⊢
  go_enter Tryd.func3, Tryd.ntmps3
  go_upto_region 1 with (fail)
  rw [← hW0]
  obtain ⟨bs, hbs⟩ : ∃ bs, bs = w.heap.size := ⟨_, rfl⟩
  rw [← hbs] at HB0 ⊢
  have HBS := Lib.hid hbs
  clear hW0 hbs
  go_upto_region 4 with (go_at_call 8; (with_reducible refine (HV1.out _).mono ?_); rintro e w1 ⟨m, g, A1, c1, rfl, hm1, b1, hA1, ho1⟩; have HM1 := Lib.hid hm1; have HB1 := Lib.hid b1; have HA1 := Lib.hid hA1; have HO1 := Lib.hid ho1; clear hm1 b1 hA1 ho1)
  have HSB := Lib.hid ((HB0.out.only (Cu.grow_of HB1.out) (by simp)).only (only_alloc (only_refl w1 none) (.cells #[.pointer (some ⟨m, 0, none⟩), .int .i64 300, .int .i64 vl] 28)) (by simp))
  obtain ⟨W2, hW2⟩ : ∃ W2, W2 = w1.alloc (.cells #[.pointer (some ⟨m, 0, none⟩), .int .i64 300, .int .i64 vl] 28) := ⟨_, rfl⟩
  rw [← hW2] at HSB ⊢
  have HW2 := Lib.hid hW2
  clear hW2
  obtain ⟨k0, k1, k2, k3, k4, k5, k6, k7, k8, k9⟩ := Cu.cells10 HSB.out
  go_upto_region 5 with (go_at_call 9; (with_reducible refine (Cu.ref_any _ _ _ _).mono ?_); rintro e w2 ⟨rfl, g2⟩; have HG2 := Lib.hid g2; clear g2)
  have HS0 := Lib.hid (Cu.sv_new (bs := bs) (vl := (vl : Int)) HB0.out HBS.out HZ0.out HG0.out HM1.out HB1.out HA1.out HO1.out (by rw [← HW2.out]; exact HG2.out) HNw.out HF0.out)
  obtain ⟨bv, hbv⟩ : ∃ bv, bv = w1.heap.size := ⟨_, rfl⟩
  obtain ⟨bx, hbx⟩ : ∃ bx, bx = w2.heap.size := ⟨_, rfl⟩
  obtain ⟨W3, hW3⟩ : ∃ W3, W3 = w2.alloc (.cells (Cu.stC pc r md) 32) := ⟨_, rfl⟩
  rw [← hW3, ← hbv, ← hbx] at HS0
  rw [show w2.alloc (.cells #[.int .i64 pc, .int .i64 (r 0), .int .i64 (r 1), .int .i64 (r 2), .int .i64 (r 3), .int .i64 (r 4), .int .i64 (r 5), .int .i64 (r 6), .int .i64 (r 7), .int .i64 md] 32) = W3 from hW3.symm, ← hbv, ← hbx]
  clear hW3 HW2 hbv hbx HSB HM1 HB1 HA1 HO1 HB0 HG2 k0 k1 k2 k3 k4 k5 k6 k7 k8 k9
  go_wp2
  go_loopw [11, 13] (fun a y wr => ∃ (j : Nat) (A : Option Addr) (cap : Nat), a = .slice A vl cap ∧ y = .int .i64 j ∧ j ≤ N ∧ Hid (Cu.Sv w wr bs m g bv bx p1 q1 vl (f j).v (f j).v A cap (Cu.stC (f j).pc (f j).r (f j).md) (Cu.stC (f j).pc (f j).r (f j).md))) (fun _ y _ => N - (Go.RowKit.intOf y).toNat)
  case atStart => exact ⟨0, A1, c1, rfl, rfl, by omega, HS0⟩
  case round =>
    obtain ⟨j, A, cap, rfl, rfl, hj, HM⟩ := hrel
    clear HS0
    by_cases hjn : j < N
    · have j1 : (j : Int) < (N : Int) := by omega
      have HC := Lib.hid (Cu.so_new HM.out)
      go_upto_region 10 with (fail)
      obtain ⟨bo, hbo⟩ : ∃ bo, bo = wr.heap.size := ⟨_, rfl⟩
      obtain ⟨W6, hW6⟩ : ∃ W6, W6 = (wr.alloc (.cells #[.int .i64 0, .int .i64 0, .int .i64 0, .int .i64 0] 36)).alloc (.cells #[.int .i64 0, .int .i64 0, .int .i64 0, .int .i64 0] 37) := ⟨_, rfl⟩
      rw [← hW6, ← hbo] at HC ⊢
      clear hW6 hbo
      obtain ⟨k0, k1, k2, k3, k4, k5, k6, k7, k8, k9⟩ := Cu.cells10 HC.out.1.sb
      obtain ⟨v0, v1, v2⟩ := in3 HC.out.1.vb
      have HL := Lib.hid HC.out.1.lt
      have HL2 := Lib.hid HC.out.2.2.2.1
      have e1 : ¬ bs = bo + 1 := by have := HL.out; have := HL2.out; omega
      have e2 : ¬ bo + 1 = bs := by have := HL.out; have := HL2.out; omega
      have HSA := Lib.hid (HS1.out _ _ _ j _ HC.out.1.me HC.out.1.NM)
      go_upto_region 11 with (go_at_call 10; (with_reducible refine HSA.out.mono ?_); rintro e w7 ⟨rfl, hm7, g7⟩; have HD := Lib.hid (Cu.So.step HC.out hm7 g7); clear hm7 g7 k0 k1 k2 k3 k4 k5 k6 k7 k8 k9 v0 v1 v2; obtain ⟨k0, k1, k2, k3, k4, k5, k6, k7, k8, k9⟩ := Cu.cells10 HD.out.1.sb; obtain ⟨f0, f1, f2, f3, f4, f5, f6, f7, f8, f9⟩ := Cu.free10 HD.out.1.sb; obtain ⟨c0, c1, c2, c3⟩ := Cu.cells4 HD.out.2.2.1; obtain ⟨d0, d1, d2, d3⟩ := Cu.free4 HD.out.2.2.1)
      clear k0 k1 k2 k3 k4 k5 k6 k7 k8 k9 f0 f1 f2 f3 f4 f5 f6 f7 f8 f9 c0 c1 c2 c3 d0 d1 d2 d3 HC
      obtain ⟨W8, hW8⟩ : ∃ W8, W8 = (((((((((((((w7.setCell ⟨bs, 0, none⟩ (.int .i64 (f (j + 1)).pc)).setCell ⟨bs, 1, none⟩ (.int .i64 ((f (j + 1)).r 0))).setCell ⟨bs, 2, none⟩ (.int .i64 ((f (j + 1)).r 1))).setCell ⟨bs, 3, none⟩ (.int .i64 ((f (j + 1)).r 2))).setCell ⟨bs, 4, none⟩ (.int .i64 ((f (j + 1)).r 3))).setCell ⟨bs, 5, none⟩ (.int .i64 ((f (j + 1)).r 4))).setCell ⟨bs, 6, none⟩ (.int .i64 ((f (j + 1)).r 5))).setCell ⟨bs, 7, none⟩ (.int .i64 ((f (j + 1)).r 6))).setCell ⟨bs, 8, none⟩ (.int .i64 ((f (j + 1)).r 7))).setCell ⟨bs, 9, none⟩ (.int .i64 (f (j + 1)).md)).setCell ⟨bo + 1, 0, none⟩ (.int .i64 (f (j + 1)).o1)).setCell ⟨bo + 1, 1, none⟩ (.int .i64 (f (j + 1)).o2)).setCell ⟨bo + 1, 2, none⟩ (.int .i64 (f (j + 1)).o3)).setCell ⟨bo + 1, 3, none⟩ (.int .i64 (f (j + 1)).o4) := ⟨_, rfl⟩
      have HE := Lib.hid (Cu.So.put1 HD.out (.int .i64 (f (j + 1)).pc) (.int .i64 ((f (j + 1)).r 0)) (.int .i64 ((f (j + 1)).r 1)) (.int .i64 ((f (j + 1)).r 2)) (.int .i64 ((f (j + 1)).r 3)) (.int .i64 ((f (j + 1)).r 4)) (.int .i64 ((f (j + 1)).r 5)) (.int .i64 ((f (j + 1)).r 6)) (.int .i64 ((f (j + 1)).r 7)) (.int .i64 (f (j + 1)).md) (.int .i64 (f (j + 1)).o1) (.int .i64 (f (j + 1)).o2) (.int .i64 (f (j + 1)).o3) (.int .i64 (f (j + 1)).o4) _ hW8)
      rw [← hW8]
      clear hW8 HD e1 e2
      obtain ⟨k0, k1, k2, k3, k4, k5, k6, k7, k8, k9⟩ := Cu.cells10 HE.out.1.xb
      have e1 : ¬ bx = bo := by have := HL2.out; omega
      have e2 : ¬ bo = bx := by have := HL2.out; omega
      have HSB := Lib.hid (HR1.out j _ _ _ HE.out.1.ar)
      go_upto_region 12 with (go_at_call 11; (with_reducible refine HSB.out.mono ?_); rintro e w9 ⟨A', cap', rfl, hA9, g9, ho9⟩; have HH := Lib.hid (Cu.So.rstep HE.out g9 hA9 ho9); clear hA9 ho9 g9 k0 k1 k2 k3 k4 k5 k6 k7 k8 k9; obtain ⟨k0, k1, k2, k3, k4, k5, k6, k7, k8, k9⟩ := Cu.cells10 HH.out.1.xb; obtain ⟨f0, f1, f2, f3, f4, f5, f6, f7, f8, f9⟩ := Cu.free10 HH.out.1.xb; obtain ⟨c0, c1, c2, c3⟩ := Cu.cells4 HH.out.2.1; obtain ⟨d0, d1, d2, d3⟩ := Cu.free4 HH.out.2.1)
      clear k0 k1 k2 k3 k4 k5 k6 k7 k8 k9 f0 f1 f2 f3 f4 f5 f6 f7 f8 f9 c0 c1 c2 c3 d0 d1 d2 d3 HE
      obtain ⟨W10, hW10⟩ : ∃ W10, W10 = (((((((((((((w9.setCell ⟨bx, 0, none⟩ (.int .i64 (f (j + 1)).pc)).setCell ⟨bx, 1, none⟩ (.int .i64 ((f (j + 1)).r 0))).setCell ⟨bx, 2, none⟩ (.int .i64 ((f (j + 1)).r 1))).setCell ⟨bx, 3, none⟩ (.int .i64 ((f (j + 1)).r 2))).setCell ⟨bx, 4, none⟩ (.int .i64 ((f (j + 1)).r 3))).setCell ⟨bx, 5, none⟩ (.int .i64 ((f (j + 1)).r 4))).setCell ⟨bx, 6, none⟩ (.int .i64 ((f (j + 1)).r 5))).setCell ⟨bx, 7, none⟩ (.int .i64 ((f (j + 1)).r 6))).setCell ⟨bx, 8, none⟩ (.int .i64 ((f (j + 1)).r 7))).setCell ⟨bx, 9, none⟩ (.int .i64 (f (j + 1)).md)).setCell ⟨bo, 0, none⟩ (.int .i64 (f (j + 1)).o1)).setCell ⟨bo, 1, none⟩ (.int .i64 (f (j + 1)).o2)).setCell ⟨bo, 2, none⟩ (.int .i64 (f (j + 1)).o3)).setCell ⟨bo, 3, none⟩ (.int .i64 (f (j + 1)).o4) := ⟨_, rfl⟩
      have HI := Lib.hid (Cu.So.put2 HH.out (.int .i64 (f (j + 1)).pc) (.int .i64 ((f (j + 1)).r 0)) (.int .i64 ((f (j + 1)).r 1)) (.int .i64 ((f (j + 1)).r 2)) (.int .i64 ((f (j + 1)).r 3)) (.int .i64 ((f (j + 1)).r 4)) (.int .i64 ((f (j + 1)).r 5)) (.int .i64 ((f (j + 1)).r 6)) (.int .i64 ((f (j + 1)).r 7)) (.int .i64 (f (j + 1)).md) (.int .i64 (f (j + 1)).o1) (.int .i64 (f (j + 1)).o2) (.int .i64 (f (j + 1)).o3) (.int .i64 (f (j + 1)).o4) _ hW10)
      rw [← hW10]
      clear hW10 HH e1 e2 HSA HSB
      obtain ⟨k0, k1, k2, k3, k4, k5, k6, k7, k8, k9⟩ := Cu.cells10 HI.out.1.sb
      obtain ⟨t0, t1, t2, t3, t4, t5, t6, t7, t8, t9⟩ := Cu.cells10 HI.out.1.xb
      obtain ⟨c0, c1, c2, c3⟩ := Cu.cells4 HI.out.2.1
      obtain ⟨d0, d1, d2, d3⟩ := Cu.cells4 HI.out.2.2.1
      have k0r := fun d os => cell_regrown k0 d os; have k1r := fun d os => cell_regrown k1 d os; have k2r := fun d os => cell_regrown k2 d os; have k3r := fun d os => cell_regrown k3 d os; have k4r := fun d os => cell_regrown k4 d os; have k5r := fun d os => cell_regrown k5 d os; have k6r := fun d os => cell_regrown k6 d os; have k7r := fun d os => cell_regrown k7 d os; have k8r := fun d os => cell_regrown k8 d os; have k9r := fun d os => cell_regrown k9 d os; have t0r := fun d os => cell_regrown t0 d os; have t1r := fun d os => cell_regrown t1 d os; have t2r := fun d os => cell_regrown t2 d os; have t3r := fun d os => cell_regrown t3 d os; have t4r := fun d os => cell_regrown t4 d os; have t5r := fun d os => cell_regrown t5 d os; have t6r := fun d os => cell_regrown t6 d os; have t7r := fun d os => cell_regrown t7 d os; have t8r := fun d os => cell_regrown t8 d os; have t9r := fun d os => cell_regrown t9 d os; have c0r := fun d os => cell_regrown c0 d os; have c1r := fun d os => cell_regrown c1 d os; have c2r := fun d os => cell_regrown c2 d os; have c3r := fun d os => cell_regrown c3 d os; have d0r := fun d os => cell_regrown d0 d os; have d1r := fun d os => cell_regrown d1 d os; have d2r := fun d os => cell_regrown d2 d os; have d3r := fun d os => cell_regrown d3 d os
      clear k0 k1 k2 k3 k4 k5 k6 k7 k8 k9 t0 t1 t2 t3 t4 t5 t6 t7 t8 t9 c0 c1 c2 c3 d0 d1 d2 d3
      have hq1 : ∀ W, (binOp BinOp.neq 32 (.agg #[.int .i64 (f (j + 1)).pc, .int .i64 ((f (j + 1)).r 0), .int .i64 ((f (j + 1)).r 1), .int .i64 ((f (j + 1)).r 2), .int .i64 ((f (j + 1)).r 3), .int .i64 ((f (j + 1)).r 4), .int .i64 ((f (j + 1)).r 5), .int .i64 ((f (j + 1)).r 6), .int .i64 ((f (j + 1)).r 7), .int .i64 (f (j + 1)).md]) (.agg #[.int .i64 (f (j + 1)).pc, .int .i64 ((f (j + 1)).r 0), .int .i64 ((f (j + 1)).r 1), .int .i64 ((f (j + 1)).r 2), .int .i64 ((f (j + 1)).r 3), .int .i64 ((f (j + 1)).r 4), .int .i64 ((f (j + 1)).r 5), .int .i64 ((f (j + 1)).r 6), .int .i64 ((f (j + 1)).r 7), .int .i64 (f (j + 1)).md])).run Tryd.prog W = .ok (.bool false) W := fun W => Cu.neq_rst _ _ _ W
      have hq2 : ∀ W, (binOp BinOp.neq 37 (.agg #[.int .i64 (f (j + 1)).o1, .int .i64 (f (j + 1)).o2, .int .i64 (f (j + 1)).o3, .int .i64 (f (j + 1)).o4]) (.agg #[.int .i64 (f (j + 1)).o1, .int .i64 (f (j + 1)).o2, .int .i64 (f (j + 1)).o3, .int .i64 (f (j + 1)).o4])).run Tryd.prog W = .ok (.bool false) W := fun W => Cu.neq_out _ _ _ _ W
      have HRE := Lib.hid (fun W => Cu.ref_b (f (j + 1)).pc (f (j + 1)).md (f (j + 1)).r W)
      refine wp_region_quiet_below (by kernel_rfl) (by kernel_rfl) ?_
      repeat (quiet_step ((go_at_call 9; with_reducible exact Calls.regrown_of (HRE.out _))))
      refine wpQuiet_nil ?_
      rintro _ ⟨⟨dq, osq⟩, rfl⟩
      have HJ := Lib.hid (HI.out.1.grown (Cu.grow_of (below_regrown W10 dq osq)))
      clear k0r k1r k2r k3r k4r k5r k6r k7r k8r k9r t0r t1r t2r t3r t4r t5r t6r t7r t8r t9r c0r c1r c2r c3r d0r d1r d2r d3r hq1 hq2 HRE HI
      generalize grow (redrawn W10 dq) osq = W11 at HJ ⊢
      by_cases h8 : ((j : Int).tmod 8 = 0)
      · obtain ⟨v0, v1, v2⟩ := in3 HJ.out.vb
        have HT1 := Lib.hid (Cu.text_re3 (p := p1) (q := q1) HP1.out (HVL.out (j + 1)) (show p1.length + vl + q1.length ≤ 16384 by rw [HP1.out, HQ1.out]; omega) HJ.out.me)
        have HT2 := Lib.hid (fun W (b : Below W11.heap.size W11 W) => Cu.text_doc (HJ.out.grown (Cu.grow_of b)).ar (HVL.out (j + 1)) (by omega))
        generalize (⟨(f (j + 1)).v.toArray⟩ : ByteArray) = tx at HT1 HT2
        go_wp2_with (first
          | (go_at_call 12; (with_reducible refine HT1.out.mono ?_); rintro e w12 ⟨rfl, b12⟩; have HB12 := Lib.hid b12; clear b12)
          | (go_at_call 13; (with_reducible refine (HT2.out _ HB12.out).mono ?_); rintro e w13 ⟨rfl, b13⟩; have HK := Lib.hid ((HJ.out.grown (Cu.grow_of HB12.out)).grown (Cu.grow_of b13)); clear b13))
        go_roundw
        case rel => exact ⟨j + 1, A', cap', rfl, by go_num, by omega, HK⟩
        case measure => simp [Go.RowKit.intOf]; omega
      · go_wp2
        go_roundw
        case rel => exact ⟨j + 1, A', cap', rfl, by go_num, by omega, HJ⟩
        case measure => simp [Go.RowKit.intOf]; omega
    · have hje : j = N := by omega
      subst hje
      have j1 : ¬ (j : Int) < (j : Int) := by omega
      obtain ⟨v0, v1, v2⟩ := in3 HM.out.vb
      have HL := Lib.hid (Cu.live_any wr HM.out.NM HM.out.NM.pos)
      have HT1 := Lib.hid (fun W (b : Below wr.heap.size wr W) => Cu.text_re3 (p := p1) (q := q1) HP1.out (HVL.out j) (show p1.length + vl + q1.length ≤ 16384 by rw [HP1.out, HQ1.out]; omega) (HM.out.grown (Cu.grow_of b)).me)
      have HT2 := Lib.hid (fun W (g : wr.grownBy W none) => Cu.text_doc (HM.out.grown g).ar (HVL.out j) (by omega))
      have HGR := Lib.hid HM.out.gr
      generalize (⟨(f j).v.toArray⟩ : ByteArray) = tx at HT1 HT2
      go_wp2_with (first
        | (go_at_call 7; (with_reducible refine HL.out.mono ?_); rintro e w12 ⟨rfl, b12⟩; have HB12 := Lib.hid b12; have u0 := (b12.cell (p := ⟨bv, 0, none⟩) HM.out.vb.lt).trans v0; have u1 := (b12.cell (p := ⟨bv, 1, none⟩) HM.out.vb.lt).trans v1; have u2 := (b12.cell (p := ⟨bv, 2, none⟩) HM.out.vb.lt).trans v2; clear b12)
        | (go_at_call 12; (with_reducible refine (HT1.out _ HB12.out).mono ?_); rintro e w13 ⟨rfl, b13⟩; have HG13 := Lib.hid (only_trans (Cu.grow_of HB12.out) (Cu.grow_of b13)); clear b13)
        | (go_at_call 13; (with_reducible refine (HT2.out _ HG13.out).mono ?_); rintro e w14 ⟨rfl, b14⟩; have HBE := Lib.hid (only_trans HGR.out (only_trans HG13.out (Cu.grow_of b14))); clear b14))
      go_ret
      exact ⟨by first | rfl | simp, Cu.below HBE.out⟩

end Go.Proofs.YtiicoabkhponmaaDoor
