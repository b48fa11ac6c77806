/- Package asm: a text's lines, by their contract. -/
import Derived.Test.YtgjpjmolfdiahaaDoorAX20
namespace Go.Proofs.YtgjpjmolfdiahaaDoor
open Go.RowKit Go.Lib
set_option linter.unusedVariables false

set_option maxRecDepth 20000 in
set_option maxHeartbeats 3200000 in
theorem Am.text_any (b ln : Nat) (st : Am.St) (F : Nat → Prop) (s : ByteArray) (w : World) (h : Am.Rd w b ln st F) (hg : Am.Gl w) (hF8 : ∀ i, F i → 3 ≤ i) (hFl : ∀ i, F i → i < w.heap.size) (hs : s.size ≤ 65536) (hp : st.pr.length ≤ 1024) (hb : st.lb.length = 0 ∧ st.ws.length = 0) :
    Calls Tryd.prog 27 #[.pointer (some ⟨b, 0, none⟩), .string s] w (Am.txP w b F (Am.go 0 (Am.spl 10 s.data.toList) st)) := by
  have HSP := Lib.hid (Am.split_any 10 s (by omega) w hg)
  have hLl : (Am.spl 10 s.data.toList).length ≤ 65537 := by
    rw [Am.spl_len]
    have := List.count_le_length (a := (10 : UInt8)) (l := s.data.toList)
    have := Am.len s
    omega
  have HLX := Lib.hid (show ∀ x ∈ Am.spl 10 s.data.toList, x.length ≤ 65536 from fun x hx => by have := Am.spl_sum 10 s.data.toList x hx; have := Am.len s; omega)
  generalize Am.spl 10 s.data.toList = L at *
  obtain ⟨w1, hw1⟩ : ∃ W, W = w.alloc (.cells (Am.strs L).toArray 9) := ⟨_, rfl⟩
  have gw : w.grownBy w1 none := by rw [hw1]; exact only_alloc (only_refl _ _) _
  have B1 := Lib.hid (show Blk w1 w.heap.size 9 (Am.strs L).toArray from by rw [hw1]; exact Blk.new _ _ _)
  have N0 := Lib.hid (Am.Nx.of_grown gw F)
  have G1 := Lib.hid (hg.grown gw)
  have HNF := Lib.hid (show ¬ F w.heap.size from fun e => by have := hFl _ e; omega)
  have I0 := Lib.hid (show Am.TxI w1 w1 b F L st 0 st F ln from ⟨rfl, h.grown gw, Am.Nx.refl _ _, hp, by omega, by omega⟩)
  have HF8 := Lib.hid hF8
  rw [← hw1] at HSP
  have HLL := Lib.hid hLl
  generalize w.heap.size = g at *
  clear h hg hF8 hFl hs hp hb hw1 gw hLl
  have HCL := Lib.hid (show ∀ (wr : World), Keeps F w1 wr → ∀ j (hj : j < L.length), wr.cell? ⟨g, j, none⟩ = some (.string ⟨(L[j]).toArray⟩) from fun wr k j hj => by
    have := (B1.out.keeps k HNF.out).cell j
    rw [this]
    simp [Am.strs, hj])
  go_enter Tryd.func27, Tryd.ntmps27
  go_upto_region 1 with (first
    | (go_at_call 43; (with_reducible refine HSP.out.mono ?_); rintro r w1 ⟨rfl, rfl⟩))
  go_loopw [12] (fun y wr => ∃ (k : Nat) (st' : Am.St) (F' : Nat → Prop) (ln' : Nat), y = .int .i64 k ∧ k ≤ L.length ∧ Hid (Am.TxI w1 wr b F L st k st' F' ln')) (fun y _ => L.length - (Go.Lib.intOf y).toNat)
  case atStart => exact ⟨0, st, F, ln, rfl, by omega, I0⟩
  case round =>
    obtain ⟨k, st', F', ln', rfl, hk, HT⟩ := hrel
    by_cases hin : k < L.length
    case neg =>
      obtain rfl : k = L.length := by omega
      go_wp2
      go_end0
      exact HT.out.done N0.out (Nat.le_refl _)
    have KL := Lib.hid hin
    have i1 : (k : Int) < (L.length : Int) := by omega
    have i0 : (0 : Int) ≤ (k : Int) := by omega
    have u1 : IntKind.i64.wrap ((k : Int) + 1) = (k : Int) + 1 := by rw [IntKind.wrap_i64]; have := HLL.out; omega
    obtain ⟨x, hx⟩ : ∃ x, x = L[k] := ⟨_, rfl⟩
    have c0 : wr.cell? ⟨g, k, none⟩ = some (.string ⟨x.toArray⟩) := by rw [hx]; exact HCL.out wr HT.out.nx.1 k hin
    have HX := Lib.hid hx
    have HXL := Lib.hid (show x.length ≤ 65536 from by rw [hx]; exact HLX.out _ (List.getElem_mem hin))
    obtain ⟨e1, e2⟩ : wr.cell? ⟨b, 0, none⟩ = some (.int .i64 ln') ∧ wr.frozen? ⟨b, 0, none⟩ = false := by
      obtain ⟨pv, lv, wv, m, hR, hF⟩ := HT.out.rd
      exact ⟨hR.blk.cell 0, hR.blk.free 0⟩
    obtain ⟨F2, hT2⟩ := HT.out.line (k + 1)
    obtain ⟨w2, hw2⟩ : ∃ W, W = wr.setCell ⟨b, 0, none⟩ (.int .i64 ((k : Int) + 1)) := ⟨_, rfl⟩
    rw [show (((k + 1 : Nat) : Nat) : Int) = (k : Int) + 1 from by omega, ← hw2] at hT2
    have T2 := Lib.hid hT2
    have hsx : (⟨x.toArray⟩ : ByteArray).size = x.length := by show x.toArray.size = _; simp
    have HCS := Lib.hid (show Calls Tryd.prog 44 #[.string ⟨x.toArray⟩, .string ⟨#[58]⟩] w2 (fun e w' => e = .returned (.tuple #[.string ⟨(Go.Lib.trimSuffix (⟨x.toArray⟩ : ByteArray).data.toList (⟨#[58]⟩ : ByteArray).data.toList).toArray⟩, .bool (Go.Lib.hasSuffix (⟨x.toArray⟩ : ByteArray).data.toList (⟨#[58]⟩ : ByteArray).data.toList)]) ∧ w' = w2) from Any.strings_CutSuffix Tryd.cutSuffix ⟨x.toArray⟩ ⟨#[58]⟩ w2 (by have := HXL.out; omega))
    rw [show (⟨#[58]⟩ : ByteArray).data.toList = [58] from rfl, show (⟨x.toArray⟩ : ByteArray).data.toList = x from by simp] at HCS
    clear hT2 hk hx
    go_upto_region 4 with (fail)
    rw [← hw2]
    clear hw2 e1 e2 c0
    by_cases hsk : x = [] ∨ x.head? = some 35
    · have HZ := Lib.hid (Am.line_skip hsk (k + 1) st')
      generalize (⟨(Go.Lib.trimSuffix x [58]).toArray⟩ : ByteArray) = tr at HCS
      generalize Go.Lib.hasSuffix x [58] = hb at HCS
      have FIN := Lib.hid (show ∃ F3, Am.TxI w1 w2 b F L st (k + 1) st' F3 (k + 1) from T2.out.next (z := (0, st')) KL.out HX.out HZ.out rfl ⟨F2, T2.out.rd, Am.Nx.refl _ _⟩)
      rcases hsk with hsk | hsk
      · subst hsk
        go_wp2_with (first
          | (go_at_call 44; (with_reducible refine HCS.out.mono ?_); rintro r w2 ⟨rfl, rfl⟩))
        go_roundw
        case rel =>
          obtain ⟨F3, hh⟩ := FIN.out
          exact ⟨k + 1, st', F3, k + 1, by go_num, KL.out, Lib.hid hh⟩
        case measure =>
          have := KL.out
          simp [Go.Lib.intOf]
          omega
      · obtain ⟨c, y, rfl⟩ : ∃ c y, x = c :: y := by
          cases x with
          | nil => cases hsk
          | cons c y => exact ⟨c, y, rfl⟩
        obtain rfl : c = 35 := by simpa using hsk
        have j0 : 0 < (⟨(35 :: y).toArray⟩ : ByteArray).size := by rw [hsx]; simp
        have j1 : ((⟨(35 :: y).toArray⟩ : ByteArray)[0]'j0) = 35 := rfl
        have j2 : (0 : Int) < ((⟨(35 :: y).toArray⟩ : ByteArray).size : Int) := by omega
        have j3 : (⟨(35 :: y).toArray⟩ : ByteArray).toList.isEmpty = false := Am.str_some (Am.ne_of j0)
        generalize (⟨(35 :: y).toArray⟩ : ByteArray) = sx at *
        clear hsk
        go_wp2_with (first
          | (go_at_call 44; (with_reducible refine HCS.out.mono ?_); rintro r w2 ⟨rfl, rfl⟩))
        go_roundw
        case rel =>
          obtain ⟨F3, hh⟩ := FIN.out
          exact ⟨k + 1, st', F3, k + 1, by go_num, KL.out, Lib.hid hh⟩
        case measure =>
          have := KL.out
          simp [Go.Lib.intOf]
          omega
    have hne : x ≠ [] := fun e => hsk (.inl e)
    obtain ⟨c, y, hcy⟩ : ∃ c y, x = c :: y := by
      cases x with
      | nil => exact absurd rfl hne
      | cons c y => exact ⟨c, y, rfl⟩
    have j0 : 0 < (⟨x.toArray⟩ : ByteArray).size := by rw [hsx, hcy]; simp
    have j1 : ¬ ((((⟨x.toArray⟩ : ByteArray)[0]'j0).toNat : Int) = 35) := by
      intro e
      apply hsk
      right
      have h2 := Am.head_of j0
      rw [show (⟨x.toArray⟩ : ByteArray).data.toList = x from by simp] at h2
      rw [h2]
      congr 1
      exact UInt8.toNat_inj.1 (by rw [show (35 : UInt8).toNat = 35 from rfl]; omega)
    have j4 : ((((⟨x.toArray⟩ : ByteArray)[0]'j0).toNat : Int) == 35) = false := by rw [beq_eq_false_iff_ne]; exact j1
    have j2 : (0 : Int) < ((⟨x.toArray⟩ : ByteArray).size : Int) := by omega
    have j3 : (⟨x.toArray⟩ : ByteArray).toList.isEmpty = false := Am.str_some (Am.ne_of j0)
    have hxs : (⟨x.toArray⟩ : ByteArray).data.toList = x := by simp
    have T2R := Lib.hid T2.out.rd
    have HPB := Lib.hid (show st'.pr.length ≤ 100000 ∧ st'.lb.length ≤ 100000 ∧ st'.ws.length ≤ 100000 from by have := T2.out.pr; have := T2.out.lb; have := T2.out.ws; have := HLL.out; have := KL.out; omega)
    by_cases hla : x.getLast? = some 58
    · have HZ := Lib.hid (Am.line_label hsk hla (k + 1) st')
      obtain ⟨s1, s2⟩ := Am.suf_yes hla
      rw [s1, s2] at HCS
      have HLB := Lib.hid (show Calls Tryd.prog 45 #[.pointer (some ⟨b, 0, none⟩), .string ⟨x.dropLast.toArray⟩] w2 (Am.stP w2 b (k + 1) F2 (Am.labV (k + 1) x.dropLast st')) from by
        have := Am.label_any b (k + 1) st' F2 ⟨x.dropLast.toArray⟩ (by show x.dropLast.toArray.size ≤ 100000; have := HXL.out; simp; omega) w2 T2R.out HPB.out.1 HPB.out.2.1
        simpa using this)
      generalize (⟨x.dropLast.toArray⟩ : ByteArray) = tr at *
      generalize (⟨x.toArray⟩ : ByteArray) = sx at *
      clear hsk hne hcy hla s1 s2 hsx hxs
      go_wp2_with (first
        | (go_at_call 44; (with_reducible refine HCS.out.mono ?_); rintro r w2 ⟨rfl, rfl⟩)
        | (go_at_call 45; (with_reducible refine HLB.out.mono ?_); rintro r w9 hp; rcases Am.stP_cases hp with ⟨z0, rfl, hh⟩ | ⟨z0, rfl, r1⟩ <;> clear hp))
      · go_roundw
        case rel =>
          obtain ⟨F3, hh⟩ := T2.out.next KL.out HX.out HZ.out z0 hh
          exact ⟨k + 1, _, F3, k + 1, by go_num, KL.out, Lib.hid hh⟩
        case measure =>
          have := KL.out
          simp [Go.Lib.intOf]
          omega
      · exact ⟨rfl, T2.out.dies N0.out KL.out HX.out HZ.out z0 r1⟩
    · obtain ⟨v, rst, hsp⟩ := Am.spl_cons 32 x
      have HZ := Lib.hid (Am.line_sen hsk hla hsp (k + 1) st')
      rw [Am.suf_no hla] at HCS
      generalize (⟨(Go.Lib.trimSuffix x [58]).toArray⟩ : ByteArray) = tr at HCS
      have GL2 := Lib.hid (G1.out.keeps T2.out.nx.1 HF8.out)
      have HS2 := Lib.hid (Am.split_any 32 ⟨x.toArray⟩ (by rw [hsx]; have := HXL.out; omega) w2 GL2.out)
      rw [hxs, hsp] at HS2
      have HVL := Lib.hid (show ∀ y ∈ v :: rst, y.length ≤ 100000 from fun y hy => by have := Am.spl_sum 32 x y (by rw [hsp]; exact hy); have := HXL.out; omega)
      obtain ⟨w3, hw3⟩ : ∃ W, W = w2.alloc (.cells (Am.strs (v :: rst)).toArray 9) := ⟨_, rfl⟩
      have gw3 : w2.grownBy w3 none := by rw [hw3]; exact only_alloc (only_refl _ _) _
      have B3 := Lib.hid (show Blk w3 w2.heap.size 9 (Am.strs (v :: rst)).toArray from by rw [hw3]; exact Blk.new _ _ _)
      rw [← hw3] at HS2
      have G3 := Lib.hid gw3
      have L3 := Lib.hid (show w2.heap.size < w3.heap.size from by rw [hw3]; simp)
      have W3 := Lib.hid (show Am.Wd w3.drew (some ⟨w2.heap.size, 1, none⟩) rst from by
        right
        refine ⟨w2.heap.size, 1, rfl, L3.out, fun j hj => ?_⟩
        have := B3.out.cell (1 + j)
        show w3.cell? _ = _
        rw [this, Nat.add_comm 1 j]
        simp [Am.strs, hj])
      have y0 : w3.drew.cell? ⟨w2.heap.size, 0, none⟩ = some (.string ⟨v.toArray⟩) := by show w3.cell? _ = _; rw [B3.out.cell 0]; simp [Am.strs]
      have g3d : w2.grownBy w3.drew none := only_trans gw3 (only_drewN (only_refl _ _) 1)
      have HSE := Lib.hid (fun (A : Option Addr) (cap : Nat) (hA : Am.Wd w3.drew A rst) => (show Calls Tryd.prog 46 #[.pointer (some ⟨b, 0, none⟩), .string ⟨v.toArray⟩, .slice A rst.length cap] w3.drew (Am.stP w3.drew b (k + 1) F2 (Am.senV (k + 1) v rst st')) from Am.sentence_any b (k + 1) st' F2 A cap v rst w3.drew (T2R.out.grown g3d) hA ((GL2.out.grown g3d).nm) (fun y hy => HVL.out y (List.mem_cons_of_mem _ hy)) HPB.out.1 HPB.out.2.2))
      have N3 := Lib.hid (Am.Nx.of_grown g3d F2)
      generalize w2.heap.size = g2 at *
      generalize (⟨x.toArray⟩ : ByteArray) = sx at *
      have FIN1 := Lib.hid (fun (w9 : World) (z0 : (Am.senV (k + 1) v rst st').1 = 0) (hh : ∃ F', Am.Rd w9 b (k + 1) (Am.senV (k + 1) v rst st').2 F' ∧ Am.Nx w3.drew w9 F2 F') => (show ∃ F3, Am.TxI w1 w9 b F L st (k + 1) (Am.senV (k + 1) v rst st').2 F3 (k + 1) from T2.out.next KL.out HX.out HZ.out z0 (by obtain ⟨F4, h1, h2⟩ := hh; exact ⟨F4, h1, N3.out.trans h2⟩)))
      have FIN2 := Lib.hid (fun (w9 : World) (z0 : (Am.senV (k + 1) v rst st').1 ≠ 0) (r1 : Keeps F2 w3.drew w9) => (show Am.txP w b F (Am.go 0 L st) (.panicked (Am.chn ((k + 1 : Nat) : Int) (Am.senV (k + 1) v rst st').1)) w9 from T2.out.dies N0.out KL.out HX.out HZ.out z0 (N3.out.1.trans r1)))
      clear hsk hne hcy hla hsx hxs hsp hw3 gw3 g3d
      rcases rst with _ | ⟨v2, rst⟩
      · rw [show (v :: ([] : List (List UInt8))).length = 1 from rfl] at HS2
        go_upto_region 6 with (first
          | (go_at_call 44; (with_reducible refine HCS.out.mono ?_); rintro r w2 ⟨rfl, rfl⟩)
          | (go_at_call 43; (with_reducible refine HS2.out.mono ?_); rintro r w3 ⟨rfl, rfl⟩))
        refine wp_region_ends2 6 (fun W => W.cell? ⟨g2, 0, none⟩ = some (.string ⟨v.toArray⟩)) (by kernel_rfl) (by kernel_rfl) y0 (fun hHeld => ?_)
        simp only [List.take_succ_cons, List.take_zero]
        refine wpAnyH_take (i := 0) (oi := _) (v := ?_) rfl (by kernel_rfl) (by kernel_rfl) (by kernel_rfl) (fun _ _ _ h => h) (Or.inl ⟨by rfl, ?_⟩) (by assumption) ?_
        case refine_2 => intro w hSw; (try dsimp only at hSw); go_simp; try with_reducible rfl
        try simp only [Act.put, List.setIfInBounds_toArray, List.set_cons_zero, List.set_cons_succ]
        refine wpAnyH_take (i := 1) (oi := _) (v := ?_) rfl (by kernel_rfl) (by kernel_rfl) (by kernel_rfl) (fun _ _ _ h => h) (Or.inl ⟨by rfl, ?_⟩) (by assumption) ?_
        case refine_2 => intro w hSw; (try dsimp only at hSw); go_simp; try with_reducible rfl
        try simp only [Act.put, List.setIfInBounds_toArray, List.set_cons_zero, List.set_cons_succ]
        refine wpAnyH_take (i := 2) (oi := _) (v := ?_) rfl (by kernel_rfl) (by kernel_rfl) (by kernel_rfl) (fun _ _ _ h => h) (Or.inl ⟨by rfl, ?_⟩) (by assumption) ?_
        case refine_2 => intro w hSw; (try dsimp only at hSw); go_simp; try with_reducible rfl
        try simp only [Act.put, List.setIfInBounds_toArray, List.set_cons_zero, List.set_cons_succ]
        refine wpAnyH_take (i := 3) (oi := _) (v := ?_) rfl (by kernel_rfl) (by kernel_rfl) (by kernel_rfl) (fun _ _ _ h => h) (Or.inl ⟨by rfl, ?_⟩) (by assumption) ?_
        case refine_2 => intro w hSw; (try dsimp only at hSw); go_simp; try with_reducible rfl
        try simp only [Act.put, List.setIfInBounds_toArray, List.set_cons_zero, List.set_cons_succ]
        refine wpAnyH_take (i := 4) (oi := _) (v := ?_) rfl (by kernel_rfl) (by kernel_rfl) (by kernel_rfl) (fun _ _ _ h => h) (Or.inl ⟨by rfl, ?_⟩) (by assumption) ?_
        case refine_2 => intro w hSw; (try dsimp only at hSw); go_simp; try with_reducible rfl
        try simp only [Act.put, List.setIfInBounds_toArray, List.set_cons_zero, List.set_cons_succ]
        refine wpAnyH_take (i := 5) (oi := _) (v := ?_) rfl (by kernel_rfl) (by kernel_rfl) (by kernel_rfl) (fun _ _ _ h => h) (Or.inl ⟨by rfl, ?_⟩) (by assumption) ?_
        case refine_2 => intro w hSw; (try dsimp only at hSw); go_simp; try with_reducible rfl
        try simp only [Act.put, List.setIfInBounds_toArray, List.set_cons_zero, List.set_cons_succ]
        refine wpAnyH_done (by kernel_rfl) ?_ _
        refine Ends.last rfl (fun K hK => ?_)
        go_simp
        refine (HSE.out _ _ (Or.inl rfl)).mono ?_
        rintro r w9 hp
        rcases Am.stP_cases hp with ⟨z0, rfl, hh⟩ | ⟨z0, rfl, r1⟩
        · refine hK.out _ _ ?_
          clear hK K hp
          go_wp2
          go_roundw
          case rel =>
            obtain ⟨F3, hh⟩ := FIN1.out _ z0 hh
            exact ⟨k + 1, _, F3, k + 1, by go_num, KL.out, Lib.hid hh⟩
          case measure =>
            have := KL.out
            simp [Go.Lib.intOf]
            omega
        · exact ⟨rfl, FIN2.out _ z0 r1⟩
      · rw [show (v :: v2 :: rst).length = rst.length + 2 from rfl] at HS2
        have l1 : (1 : Int) ≤ (rst.length : Int) + 2 := by omega
        have l0 : (0 : Int) < (rst.length : Int) + 2 := by omega
        have l2 : ¬ rst.length + 2 = 1 := by omega
        go_upto_region 6 with (first
          | (go_at_call 44; (with_reducible refine HCS.out.mono ?_); rintro r w2 ⟨rfl, rfl⟩)
          | (go_at_call 43; (with_reducible refine HS2.out.mono ?_); rintro r w3 ⟨rfl, rfl⟩))
        refine wp_region_ends2 6 (fun W => W.cell? ⟨g2, 0, none⟩ = some (.string ⟨v.toArray⟩)) (by kernel_rfl) (by kernel_rfl) y0 (fun hHeld => ?_)
        simp only [List.take_succ_cons, List.take_zero]
        refine wpAnyH_take (i := 0) (oi := _) (v := ?_) rfl (by kernel_rfl) (by kernel_rfl) (by kernel_rfl) (fun _ _ _ h => h) (Or.inl ⟨by rfl, ?_⟩) (by assumption) ?_
        case refine_2 => intro w hSw; (try dsimp only at hSw); go_simp; try with_reducible rfl
        try simp only [Act.put, List.setIfInBounds_toArray, List.set_cons_zero, List.set_cons_succ]
        refine wpAnyH_take (i := 1) (oi := _) (v := ?_) rfl (by kernel_rfl) (by kernel_rfl) (by kernel_rfl) (fun _ _ _ h => h) (Or.inl ⟨by rfl, ?_⟩) (by assumption) ?_
        case refine_2 => intro w hSw; (try dsimp only at hSw); go_simp; try with_reducible rfl
        try simp only [Act.put, List.setIfInBounds_toArray, List.set_cons_zero, List.set_cons_succ]
        refine wpAnyH_take (i := 2) (oi := _) (v := ?_) rfl (by kernel_rfl) (by kernel_rfl) (by kernel_rfl) (fun _ _ _ h => h) (Or.inl ⟨by rfl, ?_⟩) (by assumption) ?_
        case refine_2 => intro w hSw; (try dsimp only at hSw); go_simp; try with_reducible rfl
        try simp only [Act.put, List.setIfInBounds_toArray, List.set_cons_zero, List.set_cons_succ]
        refine wpAnyH_take (i := 3) (oi := _) (v := ?_) rfl (by kernel_rfl) (by kernel_rfl) (by kernel_rfl) (fun _ _ _ h => h) (Or.inl ⟨by rfl, ?_⟩) (by assumption) ?_
        case refine_2 => intro w hSw; (try dsimp only at hSw); go_simp; try with_reducible rfl
        try simp only [Act.put, List.setIfInBounds_toArray, List.set_cons_zero, List.set_cons_succ]
        refine wpAnyH_take (i := 4) (oi := _) (v := ?_) rfl (by kernel_rfl) (by kernel_rfl) (by kernel_rfl) (fun _ _ _ h => h) (Or.inl ⟨by rfl, ?_⟩) (by assumption) ?_
        case refine_2 => intro w hSw; (try dsimp only at hSw); go_simp; try with_reducible rfl
        try simp only [Act.put, List.setIfInBounds_toArray, List.set_cons_zero, List.set_cons_succ]
        refine wpAnyH_take (i := 5) (oi := _) (v := ?_) rfl (by kernel_rfl) (by kernel_rfl) (by kernel_rfl) (fun _ _ _ h => h) (Or.inl ⟨by rfl, ?_⟩) (by assumption) ?_
        case refine_2 => intro w hSw; (try dsimp only at hSw); go_simp; try with_reducible rfl
        try simp only [Act.put, List.setIfInBounds_toArray, List.set_cons_zero, List.set_cons_succ]
        refine wpAnyH_done (by kernel_rfl) ?_ _
        refine Ends.last rfl (fun K hK => ?_)
        go_simp
        refine (HSE.out _ _ W3.out).mono ?_
        rintro r w9 hp
        rcases Am.stP_cases hp with ⟨z0, rfl, hh⟩ | ⟨z0, rfl, r1⟩
        · refine hK.out _ _ ?_
          clear hK K hp
          go_wp2
          go_roundw
          case rel =>
            obtain ⟨F3, hh⟩ := FIN1.out _ z0 hh
            exact ⟨k + 1, _, F3, k + 1, by go_num, KL.out, Lib.hid hh⟩
          case measure =>
            have := KL.out
            simp [Go.Lib.intOf]
            omega
        · exact ⟨rfl, FIN2.out _ z0 r1⟩
end Go.Proofs.YtgjpjmolfdiahaaDoor
