import Derived.Test.YtjmdcmcheiagjaaZ06
import Derived.Test.YtjmdcmcheiagjaaZ04
set_option linter.all false
/- Tables as1 bytes: the document's Print, by its contract. -/
namespace Go.Proofs.Ytjmdcmcheiagjaa
open Go.RowKit Go.Lib Go.Sort
set_option linter.unusedVariables false

theorem ba_app (l : List UInt8) (t : ByteArray) : (⟨l.toArray⟩ : ByteArray) ++ t = ⟨(l ++ t.data.toList).toArray⟩ := by
  apply ByteArray.ext
  simp
theorem ext_len (n : Int) (j : Nat) : ((Bt.put n).extract 0 j).data.toList.length ≤ 2 := by
  have h : (Bt.put n).size = 2 := rfl
  have h2 : ((Bt.put n).extract 0 j).size ≤ 2 := by
    rw [ByteArray.size_extract, h]
    omega
  simpa using h2
set_option maxRecDepth 20000 in
set_option maxHeartbeats 3200000 in
theorem rprint16_any (c : Cf) (w : World) (hc : CfV w c) : Calls Try.prog 9 #[cfv c] w fun e w' => e = .returned (.tuple #[.string (imV c).1, .int .i64 (imV c).2]) ∧ Below w.heap.size w w' := by
  obtain ⟨W1, hW, G0, hA⟩ := box1 w 26 #[.int .i64 c.fr, .slice c.wA c.wn c.wc, .slice c.sA c.sn c.sc, .slice c.cA c.cn c.cc]
  obtain ⟨k0, k1, k2, k3⟩ := cf_cells (c := c) hA
  have B1 := Lib.hid (below_of_only G0 (Nat.le_refl _) (by simp))
  have HC := Lib.hid (hc.grown G0)
  show Calls Try.prog 9 #[.agg #[.int .i64 c.fr, .slice c.wA c.wn c.wc, .slice c.sA c.sn c.sc, .slice c.cA c.cn c.cc]] w _
  clear hc hA G0
  by_cases q1 : 255 < c.wn
  · have HV := Lib.hid (show imV c = (⟨#[]⟩, 4) from by rw [imV, if_pos (.inl q1)])
    have m1 : (255 : Int) < (c.wn : Int) := by omega
    go_enter Try.func9, Try.ntmps9
    go_upto_region 1 with (fail)
    rw [← hW]
    clear hW
    go_wp2
    go_ret2
    rw [HV.out]
    exact ⟨rfl, B1.out⟩
  have m1 : ¬ (255 : Int) < (c.wn : Int) := by omega
  by_cases q2 : 255 < c.sn
  · have HV := Lib.hid (show imV c = (⟨#[]⟩, 4) from by rw [imV, if_pos (.inr (.inl q2))])
    have m2 : (255 : Int) < (c.sn : Int) := by omega
    go_enter Try.func9, Try.ntmps9
    go_upto_region 1 with (fail)
    rw [← hW]
    clear hW
    go_wp2
    go_ret2
    rw [HV.out]
    exact ⟨rfl, B1.out⟩
  have m2 : ¬ (255 : Int) < (c.sn : Int) := by omega
  by_cases q3 : 255 < c.cn
  · have HV := Lib.hid (show imV c = (⟨#[]⟩, 4) from by rw [imV, if_pos (.inr (.inr q3))])
    have m3 : (255 : Int) < (c.cn : Int) := by omega
    go_enter Try.func9, Try.ntmps9
    go_upto_region 1 with (fail)
    rw [← hW]
    clear hW
    go_wp2
    go_ret2
    rw [HV.out]
    exact ⟨rfl, B1.out⟩
  have m3 : ¬ (255 : Int) < (c.cn : Int) := by omega
  have HV := Lib.hid (show imV c = (match encL (nums c) (some []) with | none => (⟨#[]⟩, 2) | some l => (Cr.sealed ⟨l.toArray⟩, 0)) from by rw [imV, if_neg (by omega), enc_nums]; rfl)
  have HLN := Lib.hid (show Ln (encL (nums c) (some [])) 9000 from by rw [← enc_nums]; exact enc_len c ⟨by omega, by omega, by omega⟩)
  have HNU := Lib.hid (show Calls Try.prog 27 #[.agg #[.int .i64 c.fr, .slice c.wA c.wn c.wc, .slice c.sA c.sn c.sc, .slice c.cA c.cn c.cc]] W1 (NumsV c W1) from rnums_any c W1 HC.out ⟨by omega, by omega, by omega⟩)
  have H2 := Lib.hid (nums_two c)
  have HNL := Lib.hid (show (nums c).length ≤ 10000 from by rw [nums_len]; omega)
  clear q1 q2 q3 HC
  go_enter Try.func9, Try.ntmps9
  go_upto_region 1 with (fail)
  rw [← hW]
  clear hW
  go_upto_region 4 with (go_at_call 27; (with_reducible refine HNU.out.mono ?_); rintro e w2 ⟨A, cap, rfl, hr, ho, hb⟩; have R2 := Lib.hid hr; have B2 := Lib.hid (B1.out.trans (hb.mono B1.out.size)); clear hr ho hb k0 k1 k2 k3)
  generalize hL : nums c = L at HV HLN H2 HNL R2 ⊢
  clear hL HNU
  go_wp2
  go_loopw [5, 6] (fun s y wr => ∃ (i : Nat) (l : List UInt8), s = .string ⟨l.toArray⟩ ∧ y = .int .i64 i ∧ i ≤ L.length ∧ Hid (encL (L.take i) (some []) = some l ∧ l.length ≤ 2 * i) ∧ Hid (RowZ 2 wr (.slice A L.length cap) L.length (nmC L) ∧ Below w.heap.size w wr)) (fun s y _ => L.length - (intOf y).toNat)
  case atStart => exact ⟨0, [], rfl, rfl, by omega, Lib.hid ⟨rfl, by simp⟩, Lib.hid ⟨R2.out, B2.out⟩⟩
  case round =>
    obtain ⟨i, l, rfl, rfl, hi, HE, HR⟩ := hrel
    have hll : l.length ≤ 2 * L.length := by have := HE.out.2; omega
    have hLL := HNL.out
    by_cases hin : i < L.length
    · have i1 : (i : Int) < (L.length : Int) := by omega
      have i0 : (0 : Int) ≤ (i : Int) := by omega
      have i9 : i < 10000 := by omega
      obtain ⟨g, off, hA, hgl, hg0, hg1⟩ : ∃ g off, A = some ⟨g, off, none⟩ ∧ g < wr.heap.size ∧ wr.cell? ⟨g, off + i * 2, none⟩ = some (.int .i64 L[i].1) ∧ wr.cell? ⟨g, off + i * 2 + 1, none⟩ = some (.int .i64 L[i].2) := by
        rcases HR.out.1 with ⟨_, ⟨_, e⟩ | ⟨g, off, cap', e, _, _, q4, _, q5⟩⟩
        · omega
        · injection e with e _ _
          exact ⟨g, off, e, q4, q5 _ _ (nmC_get hin).1, by rw [Nat.add_assoc]; exact q5 _ _ (nmC_get hin).2⟩
      have hx := H2.out L[i] (List.getElem_mem hin)
      have HT := Lib.hid (encL_take hin (some []))
      have HS := Lib.hid (fun h => encL_stop hin (o := some []) h)
      generalize L[i] = x at hg0 hg1 hx HT HS
      subst hA
      by_cases hbad : badN x
      · have HB := Lib.hid (show encL L (some []) = none from HS.out (by rw [HE.out.1]; exact stp_bad hbad hx _))
        have HV2 := Lib.hid (show imV c = (⟨#[]⟩, 2) from by rw [HV.out, HB.out])
        clear HT HS
        obtain ⟨n, m⟩ := x
        simp only at hg0 hg1 hx
        unfold badN at hbad
        simp only at hbad
        by_cases b1 : n < 0
        · go_wp2
          go_ret2
          rw [HV2.out]
          exact ⟨rfl, HR.out.2⟩
        · rcases hx with rfl | rfl
          · have b2 : (255 : Int) < n := by omega
            go_wp2
            go_ret2
            rw [HV2.out]
            exact ⟨rfl, HR.out.2⟩
          · have b3 : (65535 : Int) < n := by omega
            go_wp2
            go_ret2
            rw [HV2.out]
            exact ⟨rfl, HR.out.2⟩
      · have ho := fun (h : x.2 = 1) => stp_one hbad h l
        have ht := fun (h : x.2 = 2) => stp_two hbad h l
        obtain ⟨n, m⟩ := x
        simp only at hg0 hg1 hx ho ht
        have b1 : ¬ n < 0 := fun h => hbad (.inl h)
        have b3 : ¬ (65535 : Int) < n := fun h => hbad (.inr (.inr h))
        have hpz : (Bt.put n).size = 2 := rfl
        have hcat : ∀ j : Nat, j ≤ 2 → ¬ 9223372036854775807 < (⟨l.toArray⟩ : ByteArray).size + ((Bt.put n).extract 0 j).size := fun j hj => by
          have : (⟨l.toArray⟩ : ByteArray).size = l.length := by show l.toArray.size = _; simp
          simp
          omega
        have HAL := Lib.hid (show RowZ 2 (wr.alloc (.cells #[.int .u8 (n % 256), .int .u8 (n / 256 % 256)] 5)) (.slice (some ⟨g, off, none⟩) L.length cap) L.length (nmC L) ∧ Below w.heap.size w (wr.alloc (.cells #[.int .u8 (n % 256), .int .u8 (n / 256 % 256)] 5)) from ⟨HR.out.1.alloc _, HR.out.2.alloc HR.out.2.size _⟩)
        rcases hx with rfl | rfl
        · have b2 : ¬ (255 : Int) < n := fun h => hbad (.inr (.inl ⟨rfl, h⟩))
          have hc1 := hcat 1 (by omega)
          have HO := Lib.hid (ho rfl)
          clear ho ht hcat HS hbad
          go_wp2_with (go_at_call 28; refine (rput_any _ _).mono ?_; rintro e w' ⟨rfl, rfl⟩)
          go_roundw
          case rel => exact ⟨i + 1, l ++ ((Bt.put n).extract 0 1).data.toList, by rw [← ba_app], by go_num, by omega, Lib.hid ⟨by rw [HT.out, HE.out.1]; exact HO.out, by have := HE.out.2; have := ext_len n 1; rw [List.length_append]; omega⟩, HAL⟩
          case measure => simp [intOf] <;> omega
        · have hc2 := hcat 2 (by omega)
          have HO := Lib.hid (ht rfl)
          clear ho ht hcat HS hbad
          go_wp2_with (go_at_call 28; refine (rput_any _ _).mono ?_; rintro e w' ⟨rfl, rfl⟩)
          go_roundw
          case rel => exact ⟨i + 1, l ++ ((Bt.put n).extract 0 2).data.toList, by rw [← ba_app], by go_num, by omega, Lib.hid ⟨by rw [HT.out, HE.out.1]; exact HO.out, by have := HE.out.2; have := ext_len n 2; rw [List.length_append]; omega⟩, HAL⟩
          case measure => simp [intOf] <;> omega
    · obtain rfl : i = L.length := by omega
      have i1 : ¬ (L.length : Int) < (L.length : Int) := by omega
      have HB := Lib.hid (show encL L (some []) = some l from by have := HE.out.1; rwa [List.take_length] at this)
      have HV2 := Lib.hid (show imV c = (Cr.sealed ⟨l.toArray⟩, 0) from by rw [HV.out, HB.out])
      have HS := Lib.hid (fun W => rseal_big ⟨l.toArray⟩ W (by have := HLN.out l HB.out; show l.toArray.size ≤ 10000; simp; omega))
      go_wp2_with (go_at_call 14; (with_reducible refine (HS.out _).mono ?_); rintro e w7 ⟨rfl, b7⟩; have B7 := Lib.hid b7; clear b7)
      go_ret2
      rw [HV2.out]
      exact ⟨rfl, HR.out.2.trans (B7.out.mono HR.out.2.size)⟩
end Go.Proofs.Ytjmdcmcheiagjaa

/- Structs of numbers that are, or are not, the same. -/
namespace Go.Proofs.Ytjmdcmcheiagjaa
open Go.RowKit Go.Lib
set_option linter.unusedVariables false

theorem neq_num (a0 a1 b0 b1 : Int) (z : Bool) (h : z = !decide (a0 = b0 ∧ a1 = b1)) (w : World) : (binOp BinOp.neq 64 (.agg #[.int .i64 a0, .int .i64 a1]) (.agg #[.int .i64 b0, .int .i64 b1])).run Try.prog w = .ok (.bool z) w := by
  rw [run_neq_struct, run_equalIn_agg w 9999 _ _ _ (by kernel_rfl) (by kernel_rfl)]
  have hf : (Try.prog.fieldsOf 64).toList.map (fun f => (f.name, f.type, f.offset)) = [("N", 3, 0), ("Bytes", 3, 1)] := by kernel_rfl
  generalize (Try.prog.fieldsOf 64).toList = fs at hf
  have hlen := congrArg List.length hf
  simp only [List.length_map, List.length_cons, List.length_nil] at hlen
  obtain ⟨f0, f1, rfl⟩ : ∃ f0 f1, fs = [f0, f1] := by
    match fs, hlen with
    | [f0, f1], _ => exact ⟨f0, f1, rfl⟩
  simp only [List.map_cons, List.map_nil, List.cons.injEq, Prod.mk.injEq, and_true] at hf
  obtain ⟨⟨p0, q0, r0⟩, ⟨p1, q1, r1⟩⟩ := hf
  subst h
  simp [Op.eqFields, p0, q0, r0, p1, q1, r1, part, run_equalIn_int _ _ _ _ _ _ _ Try.underlying3, go_sem]
  clear p0 q0 r0 p1 q1 r1
  by_cases h0 : a0 = b0
  rotate_left
  · simp [h0]
  by_cases h1 : a1 = b1
  rotate_left
  · simp [h1]
  simp [h0, h1]
theorem neq_win (a0 a1 a2 b0 b1 b2 : Int) (z : Bool) (h : z = !decide (a0 = b0 ∧ a1 = b1 ∧ a2 = b2)) (w : World) : (binOp BinOp.neq 49 (.agg #[.int .i64 a0, .int .i64 a1, .int .i64 a2]) (.agg #[.int .i64 b0, .int .i64 b1, .int .i64 b2])).run Try.prog w = .ok (.bool z) w := by
  rw [run_neq_struct, run_equalIn_agg w 9999 _ _ _ (by kernel_rfl) (by kernel_rfl)]
  have hf : (Try.prog.fieldsOf 49).toList.map (fun f => (f.name, f.type, f.offset)) = [("Owner", 3, 0), ("From", 3, 1), ("To", 3, 2)] := by kernel_rfl
  generalize (Try.prog.fieldsOf 49).toList = fs at hf
  have hlen := congrArg List.length hf
  simp only [List.length_map, List.length_cons, List.length_nil] at hlen
  obtain ⟨f0, f1, f2, rfl⟩ : ∃ f0 f1 f2, fs = [f0, f1, f2] := by
    match fs, hlen with
    | [f0, f1, f2], _ => exact ⟨f0, f1, f2, rfl⟩
  simp only [List.map_cons, List.map_nil, List.cons.injEq, Prod.mk.injEq, and_true] at hf
  obtain ⟨⟨p0, q0, r0⟩, ⟨p1, q1, r1⟩, ⟨p2, q2, r2⟩⟩ := hf
  subst h
  simp [Op.eqFields, p0, q0, r0, p1, q1, r1, p2, q2, r2, part, run_equalIn_int _ _ _ _ _ _ _ Try.underlying3, go_sem]
  clear p0 q0 r0 p1 q1 r1 p2 q2 r2
  by_cases h0 : a0 = b0
  rotate_left
  · simp [h0]
  by_cases h1 : a1 = b1
  rotate_left
  · simp [h1]
  by_cases h2 : a2 = b2
  rotate_left
  · simp [h2]
  simp [h0, h1, h2]
theorem neq_slot (a0 a1 a2 b0 b1 b2 : Int) (z : Bool) (h : z = !decide (a0 = b0 ∧ a1 = b1 ∧ a2 = b2)) (w : World) : (binOp BinOp.neq 53 (.agg #[.int .i64 a0, .int .i64 a1, .int .i64 a2]) (.agg #[.int .i64 b0, .int .i64 b1, .int .i64 b2])).run Try.prog w = .ok (.bool z) w := by
  rw [run_neq_struct, run_equalIn_agg w 9999 _ _ _ (by kernel_rfl) (by kernel_rfl)]
  have hf : (Try.prog.fieldsOf 53).toList.map (fun f => (f.name, f.type, f.offset)) = [("Owner", 3, 0), ("From", 3, 1), ("To", 3, 2)] := by kernel_rfl
  generalize (Try.prog.fieldsOf 53).toList = fs at hf
  have hlen := congrArg List.length hf
  simp only [List.length_map, List.length_cons, List.length_nil] at hlen
  obtain ⟨f0, f1, f2, rfl⟩ : ∃ f0 f1 f2, fs = [f0, f1, f2] := by
    match fs, hlen with
    | [f0, f1, f2], _ => exact ⟨f0, f1, f2, rfl⟩
  simp only [List.map_cons, List.map_nil, List.cons.injEq, Prod.mk.injEq, and_true] at hf
  obtain ⟨⟨p0, q0, r0⟩, ⟨p1, q1, r1⟩, ⟨p2, q2, r2⟩⟩ := hf
  subst h
  simp [Op.eqFields, p0, q0, r0, p1, q1, r1, p2, q2, r2, part, run_equalIn_int _ _ _ _ _ _ _ Try.underlying3, go_sem]
  clear p0 q0 r0 p1 q1 r1 p2 q2 r2
  by_cases h0 : a0 = b0
  rotate_left
  · simp [h0]
  by_cases h1 : a1 = b1
  rotate_left
  · simp [h1]
  by_cases h2 : a2 = b2
  rotate_left
  · simp [h2]
  simp [h0, h1, h2]
theorem neq_cli (a0 a1 a2 a3 a4 a5 a6 a7 a8 a9 b0 b1 b2 b3 b4 b5 b6 b7 b8 b9 : Int) (z : Bool) (h : z = !decide (a0 = b0 ∧ a1 = b1 ∧ a2 = b2 ∧ a3 = b3 ∧ a4 = b4 ∧ a5 = b5 ∧ a6 = b6 ∧ a7 = b7 ∧ a8 = b8 ∧ a9 = b9)) (w : World) : (binOp BinOp.neq 57 (.agg #[.int .i64 a0, .int .i64 a1, .int .i64 a2, .int .i64 a3, .int .i64 a4, .int .i64 a5, .int .i64 a6, .int .i64 a7, .int .i64 a8, .int .i64 a9]) (.agg #[.int .i64 b0, .int .i64 b1, .int .i64 b2, .int .i64 b3, .int .i64 b4, .int .i64 b5, .int .i64 b6, .int .i64 b7, .int .i64 b8, .int .i64 b9])).run Try.prog w = .ok (.bool z) w := by
  rw [run_neq_struct, run_equalIn_agg w 9999 _ _ _ (by kernel_rfl) (by kernel_rfl)]
  have hf : (Try.prog.fieldsOf 57).toList.map (fun f => (f.name, f.type, f.offset)) = [("Base", 3, 0), ("Size", 3, 1), ("Ring", 3, 2), ("At", 3, 3), ("Quota", 3, 4), ("Queue", 3, 5), ("Mac", 3, 6), ("Channel", 3, 7), ("First", 3, 8), ("Sectors", 3, 9)] := by kernel_rfl
  generalize (Try.prog.fieldsOf 57).toList = fs at hf
  have hlen := congrArg List.length hf
  simp only [List.length_map, List.length_cons, List.length_nil] at hlen
  obtain ⟨f0, f1, f2, f3, f4, f5, f6, f7, f8, f9, rfl⟩ : ∃ f0 f1 f2 f3 f4 f5 f6 f7 f8 f9, fs = [f0, f1, f2, f3, f4, f5, f6, f7, f8, f9] := by
    match fs, hlen with
    | [f0, f1, f2, f3, f4, f5, f6, f7, f8, f9], _ => exact ⟨f0, f1, f2, f3, f4, f5, f6, f7, f8, f9, rfl⟩
  simp only [List.map_cons, List.map_nil, List.cons.injEq, Prod.mk.injEq, and_true] at hf
  obtain ⟨⟨p0, q0, r0⟩, ⟨p1, q1, r1⟩, ⟨p2, q2, r2⟩, ⟨p3, q3, r3⟩, ⟨p4, q4, r4⟩, ⟨p5, q5, r5⟩, ⟨p6, q6, r6⟩, ⟨p7, q7, r7⟩, ⟨p8, q8, r8⟩, ⟨p9, q9, r9⟩⟩ := hf
  subst h
  simp [Op.eqFields, p0, q0, r0, p1, q1, r1, p2, q2, r2, p3, q3, r3, p4, q4, r4, p5, q5, r5, p6, q6, r6, p7, q7, r7, p8, q8, r8, p9, q9, r9, part, run_equalIn_int _ _ _ _ _ _ _ Try.underlying3, go_sem]
  clear p0 q0 r0 p1 q1 r1 p2 q2 r2 p3 q3 r3 p4 q4 r4 p5 q5 r5 p6 q6 r6 p7 q7 r7 p8 q8 r8 p9 q9 r9
  by_cases h0 : a0 = b0
  rotate_left
  · simp [h0]
  by_cases h1 : a1 = b1
  rotate_left
  · simp [h1]
  by_cases h2 : a2 = b2
  rotate_left
  · simp [h2]
  by_cases h3 : a3 = b3
  rotate_left
  · simp [h3]
  by_cases h4 : a4 = b4
  rotate_left
  · simp [h4]
  by_cases h5 : a5 = b5
  rotate_left
  · simp [h5]
  by_cases h6 : a6 = b6
  rotate_left
  · simp [h6]
  by_cases h7 : a7 = b7
  rotate_left
  · simp [h7]
  by_cases h8 : a8 = b8
  rotate_left
  · simp [h8]
  by_cases h9 : a9 = b9
  rotate_left
  · simp [h9]
  simp [h0, h1, h2, h3, h4, h5, h6, h7, h8, h9]
end Go.Proofs.Ytjmdcmcheiagjaa

/- slices.Equal over rows of tables, by its contracts. -/
namespace Go.Proofs.Ytjmdcmcheiagjaa
open Go.RowKit Go.Lib Go.Sort
attribute [-go_sem] Go.run_neq_struct
set_option linter.unusedVariables false

/-- Whether something is so is answered. -/
def SmV (p : Prop) (w : World) (r : Ending) (w' : World) : Prop := ∃ z : Bool, r = .returned (.bool z) ∧ (z = true ↔ p) ∧ w.grownBy w' none
theorem ret_bool {a b : Bool} (h : a = b) : Ending.returned (.bool a) = Ending.returned (.bool b) := by rw [h]
set_option maxRecDepth 20000 in
set_option maxHeartbeats 1600000 in
theorem seqw_any (A B : Option Addr) (n m ca cb : Nat) (d e : Nat → W3) (w : World) (hA : Row3 w A n d) (hB : Row3 w B m e) (hn : n ≤ 10000) (hm : m ≤ 10000) :
    Calls Try.prog 29 #[.slice A n ca, .slice B m cb] w (SmV (n = m ∧ ∀ i, i < n → d i = e i) w) := by
  by_cases hnm : n = m
  · subst hnm
    have HA := Lib.hid hA
    have HB := Lib.hid hB
    have hz : ((n : Int) == (n : Int)) = true := by simp
    clear hA hB
    go_enter Try.func29, Try.ntmps29
    go_wp2
    go_loopw [13] (fun y wr => ∃ i : Nat, y = .int .i64 i ∧ i ≤ n ∧ Hid (∀ j, j < i → d j = e j) ∧ Hid (w.grownBy wr none)) (fun y _ => n - (intOf y).toNat)
    case atStart => exact ⟨0, rfl, by omega, Lib.hid (fun j hj => by omega), Lib.hid (only_refl _ _)⟩
    case round =>
      obtain ⟨i, rfl, hi, HN, HG⟩ := hrel
      by_cases hin : i < n
      · have i1 : (i : Int) < (n : Int) := by omega
        have i0 : (0 : Int) ≤ (i : Int) := by omega
        obtain ⟨b1, o1, rfl, hb1, hc1⟩ := (HA.out.grown HG.out).2 (by omega)
        obtain ⟨b2, o2, rfl, hb2, hc2⟩ := (HB.out.grown HG.out).2 (by omega)
        obtain ⟨c0, c1, c2⟩ := hc1 i hin
        obtain ⟨d0, d1, d2⟩ := hc2 i hin
        clear hc1 hc2 hb1 hb2
        have HX := Lib.hid (show d i = e i → ∀ j, j < i + 1 → d j = e j from fun h j hj => by
          by_cases q : j = i
          · rw [q]; exact h
          · exact HN.out j (by omega))
        have HY := Lib.hid (show d i ≠ e i → ¬ (n = n ∧ ∀ j, j < n → d j = e j) from fun h k => h (k.2 i hin))
        obtain ⟨x, hx⟩ : ∃ x, x = d i := ⟨_, rfl⟩
        obtain ⟨y, hy⟩ : ∃ y, y = e i := ⟨_, rfl⟩
        rw [← hx] at c0 c1 c2 HX HY
        rw [← hy] at d0 d1 d2 HX HY
        clear hx hy
        obtain ⟨x0, x1, x2⟩ := x
        obtain ⟨y0, y1, y2⟩ := y
        simp only at c0 c1 c2 d0 d1 d2
        by_cases hxy : x0 = y0 ∧ x1 = y1 ∧ x2 = y2
        · have hq := neq_win x0 x1 x2 y0 y1 y2 false (by rw [decide_eq_true hxy]; rfl)
          have HE := Lib.hid (HX.out (by obtain ⟨q0, q1, q2⟩ := hxy; subst q0 q1 q2; rfl))
          clear hxy HX HY
          go_upto_region 6 with (fail)
          go_quiet (first | fail)
          go_wp2
          go_roundw
          case rel => exact ⟨i + 1, by go_num, by omega, HE, Lib.hid (only_drewN HG.out _)⟩
          case measure => simp [intOf] <;> omega
        · have hq := neq_win x0 x1 x2 y0 y1 y2 true (by rw [decide_eq_false hxy]; rfl)
          have HE := Lib.hid (HY.out (fun h => hxy (by injection h with q0 qr; injection qr with q1 q2; exact ⟨q0, q1, q2⟩)))
          clear hxy HX HY
          go_upto_region 6 with (fail)
          go_quiet (first | fail)
          go_wp2
          go_ret
          exact ⟨false, rfl, ⟨fun h => (by cases h), fun h => absurd (by first | exact h | exact ⟨rfl, h⟩ | exact ⟨trivial, h⟩) HE.out⟩, only_drewN HG.out _⟩
      · obtain rfl : i = n := by omega
        have i1 : ¬ (i : Int) < (i : Int) := by omega
        go_wp2
        go_ret
        exact ⟨true, rfl, ⟨fun _ => (by first | exact HN.out | exact ⟨rfl, HN.out⟩ | exact ⟨trivial, HN.out⟩), fun _ => rfl⟩, HG.out⟩
  · have hz : ((n : Int) == (m : Int)) = false := by
      rw [beq_eq_false_iff_ne]
      omega
    have hz2 : ¬ (n : Int) = (m : Int) := by omega
    clear hA hB
    go_enter Try.func29, Try.ntmps29
    go_wp2
    go_ret
    exact ⟨false, rfl, ⟨fun h => (by cases h), fun h => absurd h.1 hnm⟩, only_refl _ _⟩
set_option maxRecDepth 20000 in
set_option maxHeartbeats 1600000 in
theorem seqs_any (A B : Option Addr) (n m ca cb : Nat) (d e : Nat → W3) (w : World) (hA : Row3 w A n d) (hB : Row3 w B m e) (hn : n ≤ 10000) (hm : m ≤ 10000) :
    Calls Try.prog 30 #[.slice A n ca, .slice B m cb] w (SmV (n = m ∧ ∀ i, i < n → d i = e i) w) := by
  by_cases hnm : n = m
  · subst hnm
    have HA := Lib.hid hA
    have HB := Lib.hid hB
    have hz : ((n : Int) == (n : Int)) = true := by simp
    clear hA hB
    go_enter Try.func30, Try.ntmps30
    go_wp2
    go_loopw [13] (fun y wr => ∃ i : Nat, y = .int .i64 i ∧ i ≤ n ∧ Hid (∀ j, j < i → d j = e j) ∧ Hid (w.grownBy wr none)) (fun y _ => n - (intOf y).toNat)
    case atStart => exact ⟨0, rfl, by omega, Lib.hid (fun j hj => by omega), Lib.hid (only_refl _ _)⟩
    case round =>
      obtain ⟨i, rfl, hi, HN, HG⟩ := hrel
      by_cases hin : i < n
      · have i1 : (i : Int) < (n : Int) := by omega
        have i0 : (0 : Int) ≤ (i : Int) := by omega
        obtain ⟨b1, o1, rfl, hb1, hc1⟩ := (HA.out.grown HG.out).2 (by omega)
        obtain ⟨b2, o2, rfl, hb2, hc2⟩ := (HB.out.grown HG.out).2 (by omega)
        obtain ⟨c0, c1, c2⟩ := hc1 i hin
        obtain ⟨d0, d1, d2⟩ := hc2 i hin
        clear hc1 hc2 hb1 hb2
        have HX := Lib.hid (show d i = e i → ∀ j, j < i + 1 → d j = e j from fun h j hj => by
          by_cases q : j = i
          · rw [q]; exact h
          · exact HN.out j (by omega))
        have HY := Lib.hid (show d i ≠ e i → ¬ (n = n ∧ ∀ j, j < n → d j = e j) from fun h k => h (k.2 i hin))
        obtain ⟨x, hx⟩ : ∃ x, x = d i := ⟨_, rfl⟩
        obtain ⟨y, hy⟩ : ∃ y, y = e i := ⟨_, rfl⟩
        rw [← hx] at c0 c1 c2 HX HY
        rw [← hy] at d0 d1 d2 HX HY
        clear hx hy
        obtain ⟨x0, x1, x2⟩ := x
        obtain ⟨y0, y1, y2⟩ := y
        simp only at c0 c1 c2 d0 d1 d2
        by_cases hxy : x0 = y0 ∧ x1 = y1 ∧ x2 = y2
        · have hq := neq_slot x0 x1 x2 y0 y1 y2 false (by rw [decide_eq_true hxy]; rfl)
          have HE := Lib.hid (HX.out (by obtain ⟨q0, q1, q2⟩ := hxy; subst q0 q1 q2; rfl))
          clear hxy HX HY
          go_upto_region 6 with (fail)
          go_quiet (first | fail)
          go_wp2
          go_roundw
          case rel => exact ⟨i + 1, by go_num, by omega, HE, Lib.hid (only_drewN HG.out _)⟩
          case measure => simp [intOf] <;> omega
        · have hq := neq_slot x0 x1 x2 y0 y1 y2 true (by rw [decide_eq_false hxy]; rfl)
          have HE := Lib.hid (HY.out (fun h => hxy (by injection h with q0 qr; injection qr with q1 q2; exact ⟨q0, q1, q2⟩)))
          clear hxy HX HY
          go_upto_region 6 with (fail)
          go_quiet (first | fail)
          go_wp2
          go_ret
          exact ⟨false, rfl, ⟨fun h => (by cases h), fun h => absurd (by first | exact h | exact ⟨rfl, h⟩ | exact ⟨trivial, h⟩) HE.out⟩, only_drewN HG.out _⟩
      · obtain rfl : i = n := by omega
        have i1 : ¬ (i : Int) < (i : Int) := by omega
        go_wp2
        go_ret
        exact ⟨true, rfl, ⟨fun _ => (by first | exact HN.out | exact ⟨rfl, HN.out⟩ | exact ⟨trivial, HN.out⟩), fun _ => rfl⟩, HG.out⟩
  · have hz : ((n : Int) == (m : Int)) = false := by
      rw [beq_eq_false_iff_ne]
      omega
    have hz2 : ¬ (n : Int) = (m : Int) := by omega
    clear hA hB
    go_enter Try.func30, Try.ntmps30
    go_wp2
    go_ret
    exact ⟨false, rfl, ⟨fun h => (by cases h), fun h => absurd h.1 hnm⟩, only_refl _ _⟩
set_option maxRecDepth 20000 in
set_option maxHeartbeats 1600000 in
theorem seqc_any (A B : Option Addr) (n m ca cb : Nat) (d e : Nat → Cl) (w : World) (hA : RowC w A n d) (hB : RowC w B m e) (hn : n ≤ 10000) (hm : m ≤ 10000) :
    Calls Try.prog 31 #[.slice A n ca, .slice B m cb] w (SmV (n = m ∧ ∀ i, i < n → d i = e i) w) := by
  by_cases hnm : n = m
  · subst hnm
    have HA := Lib.hid hA
    have HB := Lib.hid hB
    have hz : ((n : Int) == (n : Int)) = true := by simp
    clear hA hB
    go_enter Try.func31, Try.ntmps31
    go_wp2
    go_loopw [13] (fun y wr => ∃ i : Nat, y = .int .i64 i ∧ i ≤ n ∧ Hid (∀ j, j < i → d j = e j) ∧ Hid (w.grownBy wr none)) (fun y _ => n - (intOf y).toNat)
    case atStart => exact ⟨0, rfl, by omega, Lib.hid (fun j hj => by omega), Lib.hid (only_refl _ _)⟩
    case round =>
      obtain ⟨i, rfl, hi, HN, HG⟩ := hrel
      by_cases hin : i < n
      · have i1 : (i : Int) < (n : Int) := by omega
        have i0 : (0 : Int) ≤ (i : Int) := by omega
        obtain ⟨b1, o1, rfl, hb1, hc1⟩ := (HA.out.grown HG.out).2 (by omega)
        obtain ⟨b2, o2, rfl, hb2, hc2⟩ := (HB.out.grown HG.out).2 (by omega)
        obtain ⟨c0, c1, c2, c3, c4, c5, c6, c7, c8, c9⟩ := hc1 i hin
        obtain ⟨d0, d1, d2, d3, d4, d5, d6, d7, d8, d9⟩ := hc2 i hin
        clear hc1 hc2 hb1 hb2
        have HX := Lib.hid (show d i = e i → ∀ j, j < i + 1 → d j = e j from fun h j hj => by
          by_cases q : j = i
          · rw [q]; exact h
          · exact HN.out j (by omega))
        have HY := Lib.hid (show d i ≠ e i → ¬ (n = n ∧ ∀ j, j < n → d j = e j) from fun h k => h (k.2 i hin))
        obtain ⟨x, hx⟩ : ∃ x, x = d i := ⟨_, rfl⟩
        obtain ⟨y, hy⟩ : ∃ y, y = e i := ⟨_, rfl⟩
        rw [← hx] at c0 c1 c2 c3 c4 c5 c6 c7 c8 c9 HX HY
        rw [← hy] at d0 d1 d2 d3 d4 d5 d6 d7 d8 d9 HX HY
        clear hx hy
        obtain ⟨x0, x1, x2, x3, x4, x5, x6, x7, x8, x9⟩ := x
        obtain ⟨y0, y1, y2, y3, y4, y5, y6, y7, y8, y9⟩ := y
        simp only at c0 c1 c2 c3 c4 c5 c6 c7 c8 c9 d0 d1 d2 d3 d4 d5 d6 d7 d8 d9
        by_cases hxy : x0 = y0 ∧ x1 = y1 ∧ x2 = y2 ∧ x3 = y3 ∧ x4 = y4 ∧ x5 = y5 ∧ x6 = y6 ∧ x7 = y7 ∧ x8 = y8 ∧ x9 = y9
        · have hq := neq_cli x0 x1 x2 x3 x4 x5 x6 x7 x8 x9 y0 y1 y2 y3 y4 y5 y6 y7 y8 y9 false (by rw [decide_eq_true hxy]; rfl)
          have HE := Lib.hid (HX.out (by obtain ⟨q0, q1, q2, q3, q4, q5, q6, q7, q8, q9⟩ := hxy; subst q0 q1 q2 q3 q4 q5 q6 q7 q8 q9; rfl))
          clear hxy HX HY
          go_upto_region 6 with (fail)
          go_quiet (first | fail)
          go_wp2
          go_roundw
          case rel => exact ⟨i + 1, by go_num, by omega, HE, Lib.hid (only_drewN HG.out _)⟩
          case measure => simp [intOf] <;> omega
        · have hq := neq_cli x0 x1 x2 x3 x4 x5 x6 x7 x8 x9 y0 y1 y2 y3 y4 y5 y6 y7 y8 y9 true (by rw [decide_eq_false hxy]; rfl)
          have HE := Lib.hid (HY.out (fun h => hxy (by injection h with q0 q1 q2 q3 q4 q5 q6 q7 q8 q9; exact ⟨q0, q1, q2, q3, q4, q5, q6, q7, q8, q9⟩)))
          clear hxy HX HY
          go_upto_region 6 with (fail)
          go_quiet (first | fail)
          go_wp2
          go_ret
          exact ⟨false, rfl, ⟨fun h => (by cases h), fun h => absurd (by first | exact h | exact ⟨rfl, h⟩ | exact ⟨trivial, h⟩) HE.out⟩, only_drewN HG.out _⟩
      · obtain rfl : i = n := by omega
        have i1 : ¬ (i : Int) < (i : Int) := by omega
        go_wp2
        go_ret
        exact ⟨true, rfl, ⟨fun _ => (by first | exact HN.out | exact ⟨rfl, HN.out⟩ | exact ⟨trivial, HN.out⟩), fun _ => rfl⟩, HG.out⟩
  · have hz : ((n : Int) == (m : Int)) = false := by
      rw [beq_eq_false_iff_ne]
      omega
    have hz2 : ¬ (n : Int) = (m : Int) := by omega
    clear hA hB
    go_enter Try.func31, Try.ntmps31
    go_wp2
    go_ret
    exact ⟨false, rfl, ⟨fun h => (by cases h), fun h => absurd h.1 hnm⟩, only_refl _ _⟩
end Go.Proofs.Ytjmdcmcheiagjaa

/- Whether two tables are the same, by the contract of Same. -/
namespace Go.Proofs.Ytjmdcmcheiagjaa
open Go.RowKit Go.Lib Go.Sort
set_option linter.unusedVariables false

/-- Two tables tell the same. -/
def SameP (a b : Cf) : Prop := a.fr = b.fr ∧ (a.wn = b.wn ∧ ∀ i, i < a.wn → a.wd i = b.wd i) ∧ (a.sn = b.sn ∧ ∀ i, i < a.sn → a.sd i = b.sd i) ∧ (a.cn = b.cn ∧ ∀ i, i < a.cn → a.cd i = b.cd i)
set_option maxRecDepth 20000 in
set_option maxHeartbeats 1600000 in
theorem same_any (a b : Cf) (w : World) (ha : CfV w a) (hb : CfV w b) (hla : a.wn ≤ 10000 ∧ a.sn ≤ 10000 ∧ a.cn ≤ 10000) (hlb : b.wn ≤ 10000 ∧ b.sn ≤ 10000 ∧ b.cn ≤ 10000) : Calls Try.prog 10 #[cfv a, cfv b] w (SmV (SameP a b) w) := by
  obtain ⟨W1, hW, G0, hA, hB⟩ := box2 w 26 #[.int .i64 a.fr, .slice a.wA a.wn a.wc, .slice a.sA a.sn a.sc, .slice a.cA a.cn a.cc] 26 #[.int .i64 b.fr, .slice b.wA b.wn b.wc, .slice b.sA b.sn b.sc, .slice b.cA b.cn b.cc]
  have BX := Lib.hid (show BoxC W1 w.heap.size a from hA)
  have BY := Lib.hid (show BoxC W1 (w.heap.size + 1) b from hB)
  obtain ⟨k0, k1, k2, k3⟩ := cf_cells BX.out
  obtain ⟨m0, m1, m2, m3⟩ := cf_cells BY.out
  have HW := Lib.hid (fun (W : World) (g : w.grownBy W none) => (show Calls Try.prog 29 #[.slice a.wA a.wn a.wc, .slice b.wA b.wn b.wc] W (SmV (a.wn = b.wn ∧ ∀ i, i < a.wn → a.wd i = b.wd i) W) from seqw_any _ _ _ _ _ _ _ _ W (ha.grown g).1 (hb.grown g).1 hla.1 hlb.1))
  have HS := Lib.hid (fun (W : World) (g : w.grownBy W none) => (show Calls Try.prog 30 #[.slice a.sA a.sn a.sc, .slice b.sA b.sn b.sc] W (SmV (a.sn = b.sn ∧ ∀ i, i < a.sn → a.sd i = b.sd i) W) from seqs_any _ _ _ _ _ _ _ _ W (ha.grown g).2.1 (hb.grown g).2.1 hla.2.1 hlb.2.1))
  have HC := Lib.hid (fun (W : World) (g : w.grownBy W none) => (show Calls Try.prog 31 #[.slice a.cA a.cn a.cc, .slice b.cA b.cn b.cc] W (SmV (a.cn = b.cn ∧ ∀ i, i < a.cn → a.cd i = b.cd i) W) from seqc_any _ _ _ _ _ _ _ _ W (ha.grown g).2.2 (hb.grown g).2.2 hla.2.2 hlb.2.2))
  have GG := Lib.hid G0
  show Calls Try.prog 10 #[.agg #[.int .i64 a.fr, .slice a.wA a.wn a.wc, .slice a.sA a.sn a.sc, .slice a.cA a.cn a.cc], .agg #[.int .i64 b.fr, .slice b.wA b.wn b.wc, .slice b.sA b.sn b.sc, .slice b.cA b.cn b.cc]] w _
  clear ha hb hA hB G0 hla hlb
  by_cases hfr : a.fr = b.fr
  · have hd : (a.fr == b.fr) = true := by simpa using hfr
    have HP := Lib.hid (show SameP a b ↔ (a.wn = b.wn ∧ ∀ i, i < a.wn → a.wd i = b.wd i) ∧ (a.sn = b.sn ∧ ∀ i, i < a.sn → a.sd i = b.sd i) ∧ (a.cn = b.cn ∧ ∀ i, i < a.cn → a.cd i = b.cd i) from ⟨fun h => h.2, fun h => ⟨hfr, h⟩⟩)
    clear hfr
    generalize SameP a b = PP at HP ⊢
    generalize (a.wn = b.wn ∧ ∀ i, i < a.wn → a.wd i = b.wd i) = P1 at HP HW
    generalize (a.sn = b.sn ∧ ∀ i, i < a.sn → a.sd i = b.sd i) = P2 at HP HS
    generalize (a.cn = b.cn ∧ ∀ i, i < a.cn → a.cd i = b.cd i) = P3 at HP HC
    go_enter Try.func10, Try.ntmps10
    go_upto_region 1 with (fail)
    rw [← hW]
    clear hW
    go_wp2_with (first | (go_at_call 29; (with_reducible refine (HW.out _ GG.out).mono ?_); rintro e w5 ⟨z1, rfl, hz1, g5⟩; replace BX := Lib.hid (BX.out.only g5 (by simp)); replace BY := Lib.hid (BY.out.only g5 (by simp)); replace GG := Lib.hid (only_trans GG.out g5); clear g5; (try clear k0 k1 k2 k3); (try clear m0 m1 m2 m3); obtain ⟨k0, k1, k2, k3⟩ := cf_cells BX.out; obtain ⟨m0, m1, m2, m3⟩ := cf_cells BY.out; have Hz1 := Lib.hid hz1; clear hz1; cases z1) | (go_at_call 30; (with_reducible refine (HS.out _ GG.out).mono ?_); rintro e w5 ⟨z2, rfl, hz2, g5⟩; replace BX := Lib.hid (BX.out.only g5 (by simp)); replace BY := Lib.hid (BY.out.only g5 (by simp)); replace GG := Lib.hid (only_trans GG.out g5); clear g5; (try clear k0 k1 k2 k3); (try clear m0 m1 m2 m3); obtain ⟨k0, k1, k2, k3⟩ := cf_cells BX.out; obtain ⟨m0, m1, m2, m3⟩ := cf_cells BY.out; have Hz2 := Lib.hid hz2; clear hz2; cases z2) | (go_at_call 31; (with_reducible refine (HC.out _ GG.out).mono ?_); rintro e w5 ⟨z3, rfl, hz3, g5⟩; replace BX := Lib.hid (BX.out.only g5 (by simp)); replace BY := Lib.hid (BY.out.only g5 (by simp)); replace GG := Lib.hid (only_trans GG.out g5); clear g5; (try clear k0 k1 k2 k3); (try clear m0 m1 m2 m3); obtain ⟨k0, k1, k2, k3⟩ := cf_cells BX.out; obtain ⟨m0, m1, m2, m3⟩ := cf_cells BY.out; have Hz3 := Lib.hid hz3; clear hz3; cases z3))
    all_goals
      go_ret
      refine ⟨_, rfl, ?_, GG.out⟩
      rw [HP.out]
    · have h1 : ¬ P1 := by simpa using Hz1.out
      exact ⟨fun h => (by cases h), fun h => absurd h.1 h1⟩
    · have h2 : ¬ P2 := by simpa using Hz2.out
      exact ⟨fun h => (by cases h), fun h => absurd h.2.1 h2⟩
    · have h3 : ¬ P3 := by simpa using Hz3.out
      exact ⟨fun h => (by cases h), fun h => absurd h.2.2 h3⟩
    · exact ⟨fun _ => ⟨by simpa using Hz1.out, by simpa using Hz2.out, by simpa using Hz3.out⟩, fun _ => rfl⟩
  · have hd : (a.fr == b.fr) = false := by simpa using hfr
    have HP := Lib.hid (show ¬ SameP a b from fun h => hfr h.1)
    clear hfr
    generalize SameP a b = PP at HP ⊢
    go_enter Try.func10, Try.ntmps10
    go_upto_region 1 with (fail)
    rw [← hW]
    clear hW
    go_wp2_with (fail)
    go_ret
    exact ⟨false, rfl, ⟨fun h => (by cases h), fun h => absurd h HP.out⟩, GG.out⟩
end Go.Proofs.Ytjmdcmcheiagjaa

/- Plain facts: two tables tell the same just if their numbers are the same, and how many windows and slots there are. -/
namespace Go.Proofs.Ytjmdcmcheiagjaa
open Go.RowKit Go.Lib Go.Sort
set_option linter.unusedVariables false

theorem rN_inj {α : Type} {f : α → List (Int × Int)} {s : Nat} (hs : ∀ x, (f x).length = s) (hf : ∀ x y, f x = f y → x = y) {d e : Nat → α} {n : Nat} (h : rN f d n = rN f e n) : ∀ i, i < n → d i = e i := by
  induction n with
  | zero => intro i hi; omega
  | succ n ih =>
    unfold rN at h
    obtain ⟨h1, h2⟩ := List.append_inj h (by rw [rN_len hs, rN_len hs])
    intro i hi
    by_cases q : i = n
    · rw [q]; exact hf _ _ h2
    · exact ih h1 i (by omega)
theorem rN_congr {α : Type} {f : α → List (Int × Int)} {d e : Nat → α} {n : Nat} (h : ∀ i, i < n → d i = e i) : rN f d n = rN f e n := by
  induction n with
  | zero => rfl
  | succ n ih =>
    unfold rN
    rw [ih (fun i hi => h i (by omega)), h n (by omega)]
theorem rowN_inj (x y : W3) (h : rowN x = rowN y) : x = y := by
  obtain ⟨a, b, c⟩ := x
  obtain ⟨d, e, f⟩ := y
  simp [rowN] at h
  obtain ⟨rfl, rfl, rfl⟩ := h
  rfl
theorem cliN_inj (x y : Cl) (h : cliN x = cliN y) : x = y := by
  obtain ⟨a0, a1, a2, a3, a4, a5, a6, a7, a8, a9⟩ := x
  obtain ⟨b0, b1, b2, b3, b4, b5, b6, b7, b8, b9⟩ := y
  simp [cliN] at h
  obtain ⟨rfl, rfl, rfl, rfl, rfl, rfl, rfl, rfl, rfl, rfl⟩ := h
  rfl
theorem same_iff (a b : Cf) : SameP a b ↔ nums a = nums b ∧ a.wn = b.wn ∧ a.sn = b.sn := by
  constructor
  · rintro ⟨h1, ⟨h2, h3⟩, ⟨h4, h5⟩, ⟨h6, h7⟩⟩
    refine ⟨?_, h2, h4⟩
    unfold nums nm3 nm2 nm1
    rw [h1, ← h2, ← h4, ← h6, rN_congr h3, rN_congr h5, rN_congr h7]
  · rintro ⟨h, h2, h4⟩
    unfold nums at h
    obtain ⟨q1, q2⟩ := List.append_inj h (by rw [nm3_len, nm3_len, h2, h4])
    unfold nm3 at q1
    obtain ⟨q3, q4⟩ := List.append_inj q1 (by rw [nm2r_len, nm2r_len, h2, h4])
    have h6 : a.cn = b.cn := by simp at q4; omega
    obtain ⟨q5, q6⟩ := List.append_inj q3 (by rw [nm2_len, nm2_len, h2])
    unfold nm2 at q5
    obtain ⟨q7, q8⟩ := List.append_inj q5 (by rw [nm1r_len, nm1r_len, h2])
    obtain ⟨q9, q10⟩ := List.append_inj q7 rfl
    have h1 : a.fr = b.fr := by simp [nm1] at q9; exact q9.1
    rw [← h2] at q10
    rw [← h4] at q6
    rw [← h6] at q2
    exact ⟨h1, ⟨h2, rN_inj (s := 3) (fun x => rfl) rowN_inj q10⟩, ⟨h4, rN_inj (s := 3) (fun x => rfl) rowN_inj q6⟩, ⟨h6, rN_inj (s := 10) (fun x => rfl) cliN_inj q2⟩⟩
end Go.Proofs.Ytjmdcmcheiagjaa

/- What was printed is parsed as1 it was; what is parsed is printed as1 it was: plain facts of bytes. -/
namespace Go.Proofs.Ytjmdcmcheiagjaa
open Go.RowKit Go.Lib Go.Sort
set_option linter.unusedVariables false

/-- Bytes of a list. -/
abbrev bA (l : List UInt8) : ByteArray := ⟨l.toArray⟩
theorem bA_size (l : List UInt8) : (bA l).size = l.length := by simp [ByteArray.size]
theorem gb_bA (l : List UInt8) (i : Nat) : gb (bA l) i = (l[i]?.getD 0).toNat := by
  unfold gb
  by_cases h : i < l.length
  · rw [dif_pos (by rw [bA_size]; exact h), List.getElem?_eq_getElem h]
    rfl
  · rw [dif_neg (by rw [bA_size]; exact h), List.getElem?_eq_none (by omega)]
    rfl
theorem gw_bA (l : List UInt8) (i : Nat) (h : i + 2 ≤ l.length) : gw (bA l) i = gb (bA l) i + 256 * gb (bA l) (i + 1) := by
  unfold gw
  rw [if_pos (by rw [bA_size]; exact h)]
/-- Bytes further on stay. -/
theorem gb_pre {l T : List UInt8} (h : l <+: T) {i : Nat} (hi : i < l.length) : gb (bA T) i = gb (bA l) i := by
  obtain ⟨m, rfl⟩ := h
  rw [gb_bA, gb_bA, List.getElem?_append_left hi]
theorem gw_pre {l T : List UInt8} (h : l <+: T) {i : Nat} (hi : i + 2 ≤ l.length) : gw (bA T) i = gw (bA l) i := by
  have := h.length_le
  rw [gw_bA _ _ (by omega), gw_bA _ _ hi, gb_pre h (by omega), gb_pre h (by omega)]

theorem pB_none (n : Int) : pB n none = none := rfl
theorem pT_none (n : Int) : pT n none = none := rfl
theorem pB_some {n : Int} {o : Wo} {l' : List UInt8} (h : pB n o = some l') : ∃ l, o = some l ∧ 0 ≤ n ∧ n ≤ 255 ∧ l' = l ++ [UInt8.ofNat n.toNat] := by
  cases o with
  | none => cases h
  | some l =>
    simp only [pB, wrNext, stepBytes, Option.bind] at h
    by_cases c : 0 ≤ n ∧ n ≤ 255
    · simp [c] at h
      exact ⟨l, rfl, c.1, c.2, h.symm⟩
    · simp [c] at h
theorem pT_some {n : Int} {o : Wo} {l' : List UInt8} (h : pT n o = some l') : ∃ l, o = some l ∧ 0 ≤ n ∧ n ≤ 65535 ∧ l' = l ++ [UInt8.ofNat (n % 256).toNat, UInt8.ofNat (n / 256 % 256).toNat] := by
  cases o with
  | none => cases h
  | some l =>
    simp only [pT, wrNext, stepBytes, Option.bind] at h
    by_cases c : 0 ≤ n ∧ n ≤ 65535
    · simp [c] at h
      refine ⟨l, rfl, c.1, c.2, h.symm⟩
    · simp [c] at h
/-- A byte that was written is read; a number of two. -/
theorem pB_fwd {n : Int} {o : Wo} {l' T : List UInt8} (h : pB n o = some l') (p : l' <+: T) : ∃ l, o = some l ∧ l <+: T ∧ l'.length = l.length + 1 ∧ (gb (bA T) l.length : Int) = n := by
  obtain ⟨l, e, h0, h1, rfl⟩ := pB_some h
  refine ⟨l, e, (List.prefix_append _ _).trans p, by simp, ?_⟩
  rw [gb_pre p (by simp), gb_bA]
  simp
  omega
theorem pT_fwd {n : Int} {o : Wo} {l' T : List UInt8} (h : pT n o = some l') (p : l' <+: T) : ∃ l, o = some l ∧ l <+: T ∧ l'.length = l.length + 2 ∧ (gw (bA T) l.length : Int) = n := by
  obtain ⟨l, e, h0, h1, rfl⟩ := pT_some h
  refine ⟨l, e, (List.prefix_append _ _).trans p, by simp, ?_⟩
  rw [gw_pre p (by simp), gw_bA _ _ (by simp), gb_bA, gb_bA]
  simp
  omega
theorem pW_fwd {x : W3} {o : Wo} {l' T : List UInt8} (h : pW x o = some l') (p : l' <+: T) : ∃ l, o = some l ∧ l <+: T ∧ l'.length = l.length + 5 ∧ winR (bA T) l.length = x := by
  obtain ⟨l3, e3, p3, n3, v3⟩ := pT_fwd h p
  obtain ⟨l2, e2, p2, n2, v2⟩ := pT_fwd e3 p3
  obtain ⟨l1, e1, p1, n1, v1⟩ := pB_fwd e2 p2
  refine ⟨l1, e1, p1, by omega, ?_⟩
  obtain ⟨a, b, c⟩ := x
  unfold winR
  simp only at v1 v2 v3
  rw [n1] at v2
  rw [n2, n1] at v3
  rw [v1, v2, v3]
theorem pC_fwd {x : Cl} {o : Wo} {l' T : List UInt8} (h : pC x o = some l') (p : l' <+: T) : ∃ l, o = some l ∧ l <+: T ∧ l'.length = l.length + 14 ∧ cliR (bA T) l.length = x := by
  obtain ⟨l9, e9, p9, n9, v9⟩ := pB_fwd h p
  obtain ⟨l8, e8, p8, n8, v8⟩ := pT_fwd e9 p9
  obtain ⟨l7, e7, p7, n7, v7⟩ := pB_fwd e8 p8
  obtain ⟨l6, e6, p6, n6, v6⟩ := pB_fwd e7 p7
  obtain ⟨l5, e5, p5, n5, v5⟩ := pB_fwd e6 p6
  obtain ⟨l4, e4, p4, n4, v4⟩ := pB_fwd e5 p5
  obtain ⟨l3, e3, p3, n3, v3⟩ := pT_fwd e4 p4
  obtain ⟨l2, e2, p2, n2, v2⟩ := pB_fwd e3 p3
  obtain ⟨l1, e1, p1, n1, v1⟩ := pT_fwd e2 p2
  obtain ⟨l0, e0, p0, n0, v0⟩ := pT_fwd e1 p1
  refine ⟨l0, e0, p0, by omega, ?_⟩
  rw [show l1.length = l0.length + 2 by omega] at v1
  rw [show l2.length = l0.length + 4 by omega] at v2
  rw [show l3.length = l0.length + 5 by omega] at v3
  rw [show l4.length = l0.length + 7 by omega] at v4
  rw [show l5.length = l0.length + 8 by omega] at v5
  rw [show l6.length = l0.length + 9 by omega] at v6
  rw [show l7.length = l0.length + 10 by omega] at v7
  rw [show l8.length = l0.length + 11 by omega] at v8
  rw [show l9.length = l0.length + 13 by omega] at v9
  unfold cliR
  rw [v0, v1, v2, v3, v4, v5, v6, v7, v8, v9]
theorem pR_fwd {α : Type} {f : α → Wo → Wo} {R : ByteArray → Nat → α} {s : Nat} (hf : ∀ {x : α} {o : Wo} {l' T : List UInt8}, f x o = some l' → l' <+: T → ∃ l, o = some l ∧ l <+: T ∧ l'.length = l.length + s ∧ R (bA T) l.length = x) {d : Nat → α} {T : List UInt8} : ∀ (n : Nat) {o : Wo} {l' : List UInt8}, pR f d n o = some l' → l' <+: T → ∃ l, o = some l ∧ l <+: T ∧ l'.length = l.length + n * s ∧ ∀ i, i < n → d i = R (bA T) (l.length + i * s) := by
  intro n
  induction n with
  | zero => intro o l' h p; exact ⟨l', h, p, by simp, fun i hi => by omega⟩
  | succ n ih =>
    intro o l' h p
    obtain ⟨l2, e2, p2, n2, v2⟩ := hf h p
    obtain ⟨l, e, p1, n1, v1⟩ := ih e2 p2
    refine ⟨l, e, p1, by rw [n2, n1, Nat.add_mul]; omega, fun i hi => ?_⟩
    by_cases c : i < n
    · exact v1 i c
    · obtain rfl : i = n := by omega
      rw [← v2, n1]
/-- What was printed is told by its bytes, and by more. -/
theorem enc_tells {c : Cf} {l T : List UInt8} (h : enc c = some l) (p : l <+: T) : TellsB (bA T) c ∧ iq3 (bA T) = l.length ∧ ¬ otherB (bA T) ∧ 7 ≤ l.length := by
  unfold enc at h
  obtain ⟨l6, e6, p6, n6, v6⟩ := pR_fwd (R := cliR) pC_fwd c.cn h p
  obtain ⟨l5, e5, p5, n5, v5⟩ := pB_fwd e6 p6
  obtain ⟨l4, e4, p4, n4, v4⟩ := pR_fwd (R := winR) pW_fwd c.sn e5 p5
  obtain ⟨l3, e3, p3, n3, v3⟩ := pB_fwd e4 p4
  obtain ⟨l2, e2, p2, n2, v2⟩ := pR_fwd (R := winR) pW_fwd c.wn e3 p3
  obtain ⟨l1, e1, p1, n1, v1⟩ := pB_fwd e2 p2
  obtain ⟨l0, e0, p0, n0, v0⟩ := pT_fwd e1 p1
  injection e0 with e0
  subst e0
  have hz : l1.length = 4 := n0
  have g0 : gb (bA T) 0 = 67 := by rw [gb_pre p0 (by decide)]; rfl
  have g1 : gb (bA T) 1 = 1 := by rw [gb_pre p0 (by decide)]; rfl
  rw [hz] at v1
  have v0' : (gw (bA T) 2 : Int) = c.fr := v0
  have w1 : gb (bA T) 4 = c.wn := by omega
  have q1 : iq1 (bA T) = l3.length := by unfold iq1; omega
  have w2 : gb (bA T) (iq1 (bA T)) = c.sn := by rw [q1]; omega
  have q2 : iq2 (bA T) = l5.length := by unfold iq2; rw [w2, q1]; omega
  have w3 : gb (bA T) (iq2 (bA T)) = c.cn := by rw [q2]; omega
  have q3 : iq3 (bA T) = l.length := by unfold iq3; rw [w3, q2]; omega
  refine ⟨⟨v0'.symm, ⟨w1.symm, fun i hi => ?_⟩, ⟨w2.symm, fun i hi => ?_⟩, ⟨w3.symm, fun i hi => ?_⟩⟩, q3, fun k => k.2 ⟨g0, g1⟩, by omega⟩
  · rw [v2 i hi, n1, hz]
  · rw [v4 i hi, q1, n3]
  · rw [v6 i hi, q2, n5]

/-- A byte that is read is printed as1 it is; a number of two. -/
theorem gb_lst (T : List UInt8) (k : Nat) (hk : k < T.length) : UInt8.ofNat (gb (bA T) k) = T[k] := by
  rw [gb_bA, List.getElem?_eq_getElem hk]
  simp
theorem pB_bwd {T : List UInt8} {k : Nat} (hk : k < T.length) : pB (gb (bA T) k : Int) (some (T.take k)) = some (T.take (k + 1)) := by
  have h := gb_lt (bA T) k
  simp only [pB, wrNext, stepBytes, Option.bind]
  rw [if_pos trivial, if_pos (by omega)]
  simp only [Option.map, Int.toNat_natCast]
  rw [gb_lst T k hk, List.take_succ_eq_append_getElem hk]
theorem pT_bwd {T : List UInt8} {k : Nat} (hk : k + 2 ≤ T.length) : pT (gw (bA T) k : Int) (some (T.take k)) = some (T.take (k + 2)) := by
  have h := gb_lt (bA T) k
  have h' := gb_lt (bA T) (k + 1)
  have hw := gw_lt (bA T) k
  have e := gw_bA T k hk
  have e1 : ((gw (bA T) k : Int) % 256).toNat = gb (bA T) k := by omega
  have e2 : ((gw (bA T) k : Int) / 256 % 256).toNat = gb (bA T) (k + 1) := by omega
  simp only [pT, wrNext, stepBytes, Option.bind]
  rw [if_neg (by decide), if_pos trivial, if_pos (by omega)]
  simp only [Option.map, Bt.put]
  rw [e1, e2, gb_lst T k (by omega), gb_lst T (k + 1) (by omega)]
  have t2 : T.take (k + 2) = T.take k ++ [T[k], T[k + 1]] := by
    rw [show k + 2 = k + 1 + 1 from rfl, List.take_succ_eq_append_getElem (show k + 1 < T.length by omega), List.take_succ_eq_append_getElem (show k < T.length by omega), List.append_assoc]
    rfl
  rw [t2]
theorem pW_bwd {T : List UInt8} {k : Nat} (hk : k + 5 ≤ T.length) : pW (winR (bA T) k) (some (T.take k)) = some (T.take (k + 5)) := by
  unfold pW winR
  simp only
  rw [pB_bwd (by omega), pT_bwd (by omega), pT_bwd (by omega)]
theorem pC_bwd {T : List UInt8} {k : Nat} (hk : k + 14 ≤ T.length) : pC (cliR (bA T) k) (some (T.take k)) = some (T.take (k + 14)) := by
  unfold pC cliR
  simp only
  rw [pT_bwd (by omega), pT_bwd (by omega), pB_bwd (by omega), pT_bwd (by omega), pB_bwd (by omega), pB_bwd (by omega), pB_bwd (by omega), pB_bwd (by omega), pT_bwd (by omega), pB_bwd (by omega)]
theorem pR_bwd {α : Type} {f : α → Wo → Wo} {R : ByteArray → Nat → α} {s : Nat} {T : List UInt8} (hf : ∀ {k : Nat}, k + s ≤ T.length → f (R (bA T) k) (some (T.take k)) = some (T.take (k + s))) {d : Nat → α} {k : Nat} : ∀ (n : Nat), k + n * s ≤ T.length → (∀ i, i < n → d i = R (bA T) (k + i * s)) → pR f d n (some (T.take k)) = some (T.take (k + n * s)) := by
  intro n
  induction n with
  | zero => intro _ _; simp [pR]
  | succ n ih =>
    intro hk hd
    rw [Nat.add_mul] at hk
    simp only [pR]
    rw [ih (by omega) (fun i hi => hd i (by omega)), hd n (by omega), hf (by omega), Nat.add_mul, Nat.add_assoc, Nat.one_mul]
/-- What is told by bytes is printed as1 those. -/
theorem tells_enc {c : Cf} {T : List UInt8} (h : TellsB (bA T) c) (hq : iq3 (bA T) = T.length) (ho : ¬ otherB (bA T)) : enc c = some T := by
  obtain ⟨h1, ⟨h2, h3⟩, ⟨h4, h5⟩, h6, h7⟩ := h
  have u1 : iq2 (bA T) + 1 + gb (bA T) (iq2 (bA T)) * 14 = T.length := hq
  have u2 : iq1 (bA T) + 1 + gb (bA T) (iq1 (bA T)) * 5 = iq2 (bA T) := rfl
  have u3 : 5 + gb (bA T) 4 * 5 = iq1 (bA T) := rfl
  have e0 : (some [67, 1] : Wo) = some (T.take 2) := by
    have k : gb (bA T) 0 = 67 ∧ gb (bA T) 1 = 1 := by
      by_cases k : gb (bA T) 0 = 67 ∧ gb (bA T) 1 = 1
      · exact k
      · exact absurd ⟨by rw [bA_size]; omega, k⟩ ho
    have a0 := gb_lst T 0 (by omega)
    have a1 := gb_lst T 1 (by omega)
    rw [k.1] at a0
    rw [k.2] at a1
    rw [List.take_succ_eq_append_getElem (show 1 < T.length by omega), List.take_succ_eq_append_getElem (show 0 < T.length by omega), ← a0, ← a1]
    rfl
  unfold enc
  rw [e0, h1, pT_bwd (by omega), h2, pB_bwd (by omega)]
  rw [pR_bwd (R := winR) (s := 5) (k := 5) pW_bwd (gb (bA T) 4) (by omega) (fun i hi => h3 i (by omega)), u3, h4, pB_bwd (by omega)]
  rw [pR_bwd (R := winR) (s := 5) (k := iq1 (bA T) + 1) pW_bwd (gb (bA T) (iq1 (bA T))) (by omega) (fun i hi => h5 i (by omega)), u2, h6, pB_bwd (by omega)]
  rw [pR_bwd (R := cliR) (s := 14) (k := iq2 (bA T) + 1) pC_bwd (gb (bA T) (iq2 (bA T))) (by omega) (fun i hi => h7 i (by omega)), u1, List.take_length]
/-- What is left of an image ends too early. -/
theorem cut_ends {c : Cf} {l : List UInt8} (h : enc c = some l) (k : Nat) (hk : k < l.length) : bodyE (bA (l.take k)) = 5 := by
  obtain ⟨_, hq, ho, _⟩ := enc_tells h (List.prefix_refl l)
  have hl : (l.take k).length = k := by simp; omega
  have hp : l.take k <+: l := List.take_prefix k l
  have hg : ∀ i, i < k → gb (bA l) i = gb (bA (l.take k)) i := fun i hi => gb_pre hp (by omega)
  have u1 : iq3 (bA (l.take k)) = iq2 (bA (l.take k)) + 1 + gb (bA (l.take k)) (iq2 (bA (l.take k))) * 14 := rfl
  have u2 : iq2 (bA (l.take k)) = iq1 (bA (l.take k)) + 1 + gb (bA (l.take k)) (iq1 (bA (l.take k))) * 5 := rfl
  have u3 : iq1 (bA (l.take k)) = 5 + gb (bA (l.take k)) 4 * 5 := rfl
  have v1 : iq3 (bA l) = iq2 (bA l) + 1 + gb (bA l) (iq2 (bA l)) * 14 := rfl
  have v2 : iq2 (bA l) = iq1 (bA l) + 1 + gb (bA l) (iq1 (bA l)) * 5 := rfl
  have v3 : iq1 (bA l) = 5 + gb (bA l) 4 * 5 := rfl
  refine bodyE_end (fun ⟨a, b⟩ => ho ⟨by rw [bA_size] at a ⊢; omega, ?_⟩) ?_
  · rw [bA_size] at a
    rw [hg 0 (by omega), hg 1 (by omega)]
    exact b
  · rw [bA_size, hl]
    by_cases k4 : k ≤ 4
    · omega
    have w1 : iq1 (bA (l.take k)) = iq1 (bA l) := by rw [u3, v3, hg 4 (by omega)]
    by_cases k5 : k ≤ iq1 (bA l)
    · omega
    have w2 : iq2 (bA (l.take k)) = iq2 (bA l) := by rw [u2, v2, w1, hg (iq1 (bA l)) (by omega)]
    by_cases k6 : k ≤ iq2 (bA l)
    · omega
    have w3 : iq3 (bA (l.take k)) = iq3 (bA l) := by rw [u1, v1, w2, hg (iq2 (bA l)) (by omega)]
    omega
/-- With more behind it is of another form. -/
theorem more_forms {c : Cf} {l : List UInt8} (h : enc c = some l) (m : List UInt8) : bodyE (bA (l ++ m)) = if m = [] then 0 else 3 := by
  obtain ⟨_, hq, ho, _⟩ := enc_tells h (List.prefix_append l m)
  have hs : (bA (l ++ m)).size = l.length + m.length := by rw [bA_size]; simp
  by_cases hm : m = []
  · subst hm
    rw [if_pos rfl]
    exact bodyE_ok ho (by rw [hq, hs]; simp)
  · rw [if_neg hm]
    have : 0 < m.length := List.length_pos_iff.2 hm
    exact bodyE_more ho (by rw [hq, hs]; omega)
theorem tells_same {t : ByteArray} {a b : Cf} (h : TellsB t a) (k : TellsB t b) : SameP a b := by
  obtain ⟨h1, ⟨h2, h3⟩, ⟨h4, h5⟩, h6, h7⟩ := h
  obtain ⟨k1, ⟨k2, k3⟩, ⟨k4, k5⟩, k6, k7⟩ := k
  exact ⟨h1.trans k1.symm, ⟨h2.trans k2.symm, fun i hi => (h3 i hi).trans (k3 i (by omega)).symm⟩, ⟨h4.trans k4.symm, fun i hi => (h5 i hi).trans (k5 i (by omega)).symm⟩, h6.trans k6.symm, fun i hi => (h7 i hi).trans (k7 i (by omega)).symm⟩
theorem none_same {a b : Cf} (h : NoneC a) (k : NoneC b) : SameP a b := by
  obtain ⟨h1, h2, h3, h4⟩ := h
  obtain ⟨k1, k2, k3, k4⟩ := k
  exact ⟨h1.trans k1.symm, ⟨h2.trans k2.symm, fun i hi => by omega⟩, ⟨h3.trans k3.symm, fun i hi => by omega⟩, h4.trans k4.symm, fun i hi => by omega⟩
/-- An image is one, just if its sealed bytes' body is. -/
theorem imgE_sealed (t : ByteArray) : imgE (Cr.sealed t) = bodyE t ∧ (Cr.openV (Cr.sealed t)).1 = t := by
  unfold imgE
  rw [Cr.open_sealed, if_pos rfl]
  exact ⟨rfl, rfl⟩
theorem bA_data (t : ByteArray) : bA t.data.toList = t := by simp [bA]
/-- What was parsed is printed as1 it was. -/
theorem parse_print {s : ByteArray} {c : Cf} (hi : imgE s = 0) (h : TellsB (Cr.openV s).1 c) : imV c = (s, 0) := by
  have hv : (Cr.openV s).2 = 0 := by
    unfold imgE at hi
    split at hi
    · assumption
    · exact hi
  have hb : bodyE (Cr.openV s).1 = 0 := by
    unfold imgE at hi
    rw [if_pos hv] at hi
    exact hi
  have hse : Cr.sealed (Cr.openV s).1 = s := by
    unfold Cr.openV at hv ⊢
    split
    · rename_i k
      rw [if_pos k] at hv
      simp at hv
    · rename_i k
      rw [if_neg k] at hv
      split
      · rename_i k2
        exact (Cr.tail_iff s (by omega)).1 k2
      · rename_i k2
        rw [if_neg k2] at hv
        simp at hv
  generalize Cr.openV s = o at h hb hse
  obtain ⟨t, o2⟩ := o
  simp only at h hb hse
  have ho : ¬ otherB t := fun k => by rw [bodyE_other k] at hb; cases hb
  have hq : iq3 t = t.size := by
    unfold bodyE at hb
    rw [if_neg ho] at hb
    split at hb
    · cases hb
    · split at hb
      · cases hb
      · omega
  have hd := bA_data t
  have he : enc c = some t.data.toList := tells_enc (by rw [hd]; exact h) (by rw [hd, hq]; rw [← bA_size, hd]) (by rw [hd]; exact ho)
  have g1 := gb_lt t 4
  have g2 := gb_lt t (iq1 t)
  have g3 := gb_lt t (iq2 t)
  obtain ⟨_, ⟨h2, _⟩, ⟨h4, _⟩, h6, _⟩ := h
  rw [imV, if_neg (by omega), he]
  simp only
  rw [show (⟨t.data.toList.toArray⟩ : ByteArray) = t from hd, hse]
/-- What was printed is parsed as1 it was. -/
theorem print_parse {c : Cf} {s : ByteArray} (h : imV c = (s, 0)) : imgE s = 0 ∧ TellsB (Cr.openV s).1 c ∧ ∃ l, enc c = some l ∧ s = Cr.sealed (bA l) := by
  unfold imV at h
  split at h
  · injection h with _ h
    cases h
  · split at h
    · injection h with _ h
      cases h
    · rename_i l e
      injection h with h _
      obtain ⟨h1, h2⟩ := imgE_sealed (bA l)
      obtain ⟨k1, k2, k3, _⟩ := enc_tells e (List.prefix_refl l)
      have hs : Cr.sealed (bA l) = s := h
      rw [hs] at h1 h2
      refine ⟨?_, by rw [h2]; exact k1, l, e, hs.symm⟩
      rw [h1]
      exact bodyE_ok k3 (by rw [k2, bA_size])
end Go.Proofs.Ytjmdcmcheiagjaa

/- The document's Parse, walked. -/
namespace Go.Proofs.Ytjmdcmcheiagjaa
open Go.RowKit Go.Lib Go.Sort
set_option linter.unusedVariables false

theorem open_short {s : ByteArray} (h : s.size < 2) : Cr.openV s = (⟨#[]⟩, 5) := by rw [Cr.openV, if_pos h]
theorem open_seal {s : ByteArray} (h : 2 ≤ s.size) (k : Cr.sealed (s.extract 0 (s.size - 2)) = s) : Cr.openV s = (s.extract 0 (s.size - 2), 0) := by rw [Cr.openV, if_neg (by omega), if_pos ((Cr.tail_iff s h).2 k)]
theorem open_unseal {s : ByteArray} (h : 2 ≤ s.size) (k : Cr.sealed (s.extract 0 (s.size - 2)) ≠ s) : Cr.openV s = (⟨#[]⟩, 10) := by rw [Cr.openV, if_neg (by omega), if_neg (fun e => k ((Cr.tail_iff s h).1 e))]

set_option maxRecDepth 20000 in
set_option maxHeartbeats 3200000 in
theorem rparse_pre (s : ByteArray) (w : World) (hs : s.size ≤ 9000) (h : (Cr.openV s).2 ≠ 0) : Calls Try.prog 15 #[.string s] w (ParseV s w) := by
  have hi : imgE s = (Cr.openV s).2 := if_neg h
  obtain ⟨W1, hW⟩ : ∃ W1, W1 = w.alloc (.cells #[.int .i64 0, .slice none 0 0, .slice none 0 0, .slice none 0 0] 26) := ⟨_, rfl⟩
  have B1 := Lib.hid (show Below w.heap.size w W1 by rw [hW]; exact (Below.refl _ _).alloc (Nat.le_refl _) _)
  have BX : Hid (Blk W1 w.heap.size 26 #[.int .i64 0, .slice none 0 0, .slice none 0 0, .slice none 0 0]) := Lib.hid (by rw [hW]; exact Blk.new _ _ _)
  have HNO := Lib.hid (fun (w' : World) (b : Below w.heap.size w w') => zC_no (s := s) (by rw [hi]; exact h) b)
  rw [hi] at HNO
  clear hi
  by_cases h2 : s.size < 2
  · rw [open_short h2] at HNO
    have m1 : (s.size : Int) < 2 := by omega
    clear h h2
    go_enter Try.func15, Try.ntmps15
    go_upto_region 1 with (fail)
    rw [← hW]
    clear hW
    have c0 : W1.cell? ⟨w.heap.size, 0, none⟩ = some (.int .i64 0) := BX.out.cell 0
    have c1 : W1.cell? ⟨w.heap.size, 1, none⟩ = some (.slice none 0 0) := BX.out.cell 1
    have c2 : W1.cell? ⟨w.heap.size, 2, none⟩ = some (.slice none 0 0) := BX.out.cell 2
    have c3 : W1.cell? ⟨w.heap.size, 3, none⟩ = some (.slice none 0 0) := BX.out.cell 3
    have f0 := BX.out.free 0
    have f1 := BX.out.free 1
    have f2 := BX.out.free 2
    have f3 := BX.out.free 3
    go_wp2
    have bf := ((((BX.out.put 0 (.int .i64 0)).put 1 (.slice none 0 0)).put 2 (.slice none 0 0)).put 3 (.slice none 0 0))
    have r0 := bf.cell 0
    have r1 := bf.cell 1
    have r2 := bf.cell 2
    have r3 := bf.cell 3
    simp at r0 r1 r2 r3
    refine bodyPost_ret (v := .tuple #[.agg #[.int .i64 0, .slice none 0 0, .slice none 0 0, .slice none 0 0], .int .i64 5]) (by simp [results, Try.results15, go_sem, r0, r1, r2, r3]) rfl ?_
    exact HNO.out _ ((((B1.out.setCell (p := ⟨w.heap.size, 0, none⟩) (Nat.le_refl _) _).setCell (p := ⟨w.heap.size, 1, none⟩) (Nat.le_refl _) _).setCell (p := ⟨w.heap.size, 2, none⟩) (Nat.le_refl _) _).setCell (p := ⟨w.heap.size, 3, none⟩) (Nat.le_refl _) _)
  · have hk : Cr.sealed (s.extract 0 (s.size - 2)) ≠ s := fun e => h (by rw [open_seal (by omega) e])
    rw [open_unseal (by omega) hk] at HNO
    have hne := Cr.str_ne hk
    have HO := Lib.hid (rseal_big (s.extract 0 (s.size - 2)) W1 (by simp; omega))
    have m1 : ¬ (s.size : Int) < 2 := by omega
    obtain ⟨m, hm⟩ : ∃ m, m = s.size - 2 := ⟨_, rfl⟩
    rw [← hm] at HO hne
    have q1 : IntKind.i64.wrap ((s.size : Int) - 2) = (m : Int) := by rw [IntKind.wrap_i64]; omega
    have q2 : (m : Int) ≤ (s.size : Int) := by omega
    clear hk h h2
    have HM := Lib.hid hm
    clear hm
    generalize Cr.sealed (s.extract 0 m) = x at HO hne
    go_enter Try.func15, Try.ntmps15
    go_upto_region 1 with (fail)
    rw [← hW]
    clear hW
    go_upto_region 4 with (fail)
    go_wp2_with (go_at_call 14; (with_reducible refine HO.out.mono ?_); rintro e w2 ⟨rfl, b2⟩; have B2 := Lib.hid (B1.out.trans (b2.mono B1.out.size)); have X2 := Lib.hid (BX.out.below b2 BX.out.lt); clear b2; have c0 : w2.cell? ⟨w.heap.size, 0, none⟩ = some (.int .i64 0) := X2.out.cell 0; have c1 : w2.cell? ⟨w.heap.size, 1, none⟩ = some (.slice none 0 0) := X2.out.cell 1; have c2 : w2.cell? ⟨w.heap.size, 2, none⟩ = some (.slice none 0 0) := X2.out.cell 2; have c3 : w2.cell? ⟨w.heap.size, 3, none⟩ = some (.slice none 0 0) := X2.out.cell 3; have f0 := X2.out.free 0; have f1 := X2.out.free 1; have f2 := X2.out.free 2; have f3 := X2.out.free 3)
    have bf := ((((X2.out.put 0 (.int .i64 0)).put 1 (.slice none 0 0)).put 2 (.slice none 0 0)).put 3 (.slice none 0 0))
    have r0 := bf.cell 0
    have r1 := bf.cell 1
    have r2 := bf.cell 2
    have r3 := bf.cell 3
    simp at r0 r1 r2 r3
    refine bodyPost_ret (v := .tuple #[.agg #[.int .i64 0, .slice none 0 0, .slice none 0 0, .slice none 0 0], .int .i64 10]) (by simp [results, Try.results15, go_sem, r0, r1, r2, r3]) rfl ?_
    exact HNO.out _ ((((B2.out.setCell (p := ⟨w.heap.size, 0, none⟩) (Nat.le_refl _) _).setCell (p := ⟨w.heap.size, 1, none⟩) (Nat.le_refl _) _).setCell (p := ⟨w.heap.size, 2, none⟩) (Nat.le_refl _) _).setCell (p := ⟨w.heap.size, 3, none⟩) (Nat.le_refl _) _)
end Go.Proofs.Ytjmdcmcheiagjaa
