import Derived.Test.YtldbhcbmcogmfaaDoorZ10
set_option linter.all false
/- The document's line of an instruction with a register and a value. -/
namespace Go.Proofs.YtldbhcbmcogmfaaDoor
open Go.RowKit Go.Lib
set_option linter.unusedVariables false
set_option maxRecDepth 8000

set_option maxRecDepth 20000 in
set_option maxHeartbeats 1600000 in
theorem Am.instr_g12p (A : Option Addr) (k : Nat) (L : List (List UInt8)) (hn : 3 = L.length) (hx : ¬ Am.regZ (L.getD 1 []) < 0) (hsz : ∀ x ∈ L, x.length ≤ 100000) (w : World) (hrow : RowZ 1 w (.slice A 3 k) L.length (Am.strs L)) : Calls Tryd.prog 35 #[.int .i64 12, .slice A 3 k] w (Am.LnP w (Am.ins 12 L.tail)) := by
  obtain ⟨g, off, rfl, hg, hcw⟩ := Am.word_at hrow (by omega)
  obtain ⟨word, hword⟩ : ∃ word : ByteArray, word = ⟨(L.getD 2 []).toArray⟩ := ⟨_, rfl⟩
  have cw := hcw 2 (by omega)
  rw [← hword] at cw
  have hwl : word.data.toList = L.getD 2 [] := by rw [hword]
  have hws : word.size ≤ 100000 := by
    have h1 := hsz (L.getD 2 []) (by
      have : 2 < L.length := by omega
      simp [List.getD, this])
    rw [← hwl, Am.len] at h1
    exact h1
  obtain ⟨wd1, hwd1⟩ : ∃ wd1 : ByteArray, wd1 = ⟨(L.getD 1 []).toArray⟩ := ⟨_, rfl⟩
  have cw1 := hcw 1 (by omega)
  rw [← hwd1] at cw1
  have hw1 : wd1.data.toList = L.getD 1 [] := by rw [hwd1]
  have hws1 : wd1.size ≤ 100000 := by
    have h1 := hsz (L.getD 1 []) (by
      have : 1 < L.length := by omega
      simp [List.getD, this])
    rw [← hw1, Am.len] at h1
    exact h1
  have HI := Lib.hid (show Am.ins 12 L.tail = (Am.reg wd1.data.toList).bind fun x => (Am.val word.data.toList).map fun v => (Am.pt 12 x v.1, v.2) from by
    have t0 : L.tail.getD 0 [] = L.getD 1 [] := by cases L <;> rfl
    have t1 : L.tail.getD 1 [] = L.getD 2 [] := by cases L <;> rfl
    unfold Am.ins
    rw [if_neg (by decide), if_neg (by decide), if_pos (by rw [List.length_tail]; omega), hwl, hw1, t0, t1]
    rfl)
  have HLI := Lib.hid (Am.reg_lin 12 wd1.data.toList word.data.toList)
  rw [← hw1] at hx
  have HRG := Lib.hid (Am.rregister_any wd1 hws1)
  generalize Am.regZ wd1.data.toList = x at *
  obtain ⟨W0, hW0, P1, P2, P3, P4, G4, z4⟩ := Am.ins_nums w 12
  have b4 : Below w.heap.size w W0 := below_of_only G4 (Nat.le_refl _) (by simp)
  have cw10 : W0.cell? ⟨g, off + 1, none⟩ = some (.string wd1) := (b4.cell (p := ⟨g, off + 1, none⟩) hg).trans cw1
  obtain ⟨m0, m1, m2, m3, m4, mf0, mf1, mf2, mf3, mf4⟩ := Am.box5c P2
  have nf1 := P3.free 1
  have nc1 := P3.cell 1
  simp at nc1
  obtain ⟨W4, hW4⟩ : ∃ W4, W4 = (W0.setCell ⟨w.heap.size + 1, 1, none⟩ (.int .i64 x)).setCell ⟨w.heap.size + 1 + 1 + 1, 4, none⟩ (.bool false) := ⟨_, rfl⟩
  replace P1 : Blk W4 w.heap.size 35 #[.string ⟨#[]⟩, .slice none 0 0, .slice none 0 0, .string ⟨#[]⟩, .bool false] := by
    rw [hW4]
    exact (P1.far (p := ⟨w.heap.size + 1, 1, none⟩) (show w.heap.size ≠ w.heap.size + 1 by omega) _).far (p := ⟨w.heap.size + 1 + 1 + 1, 4, none⟩) (show w.heap.size ≠ w.heap.size + 1 + 1 + 1 by omega) _
  replace P2 : Blk W4 (w.heap.size + 1 + 1 + 1) 35 #[.string ⟨#[]⟩, .slice (some ⟨w.heap.size + 1, 0, none⟩) 2 2, .slice (some ⟨w.heap.size + 1 + 1, 0, none⟩) 2 2, .string ⟨#[]⟩, .bool false] := by
    rw [hW4]
    have := (P2.far (p := ⟨w.heap.size + 1, 1, none⟩) (show w.heap.size + 1 + 1 + 1 ≠ w.heap.size + 1 by omega) (.int .i64 x)).put 4 (.bool false)
    simpa using this
  replace P3 : Blk W4 (w.heap.size + 1) 3 #[.int .i64 12, .int .i64 x] := by
    rw [hW4]
    have := (P3.put 1 (.int .i64 x)).far (p := ⟨w.heap.size + 1 + 1 + 1, 4, none⟩) (show w.heap.size + 1 ≠ w.heap.size + 1 + 1 + 1 by omega) (.bool false)
    simpa using this
  replace P4 : Blk W4 (w.heap.size + 1 + 1) 3 #[.int .i64 1, .int .i64 1] := by
    rw [hW4]
    exact (P4.far (p := ⟨w.heap.size + 1, 1, none⟩) (show w.heap.size + 1 + 1 ≠ w.heap.size + 1 by omega) _).far (p := ⟨w.heap.size + 1 + 1 + 1, 4, none⟩) (show w.heap.size + 1 + 1 ≠ w.heap.size + 1 + 1 + 1 by omega) _
  replace b4 : Below w.heap.size w W4 := by
    rw [hW4]
    exact (b4.setCell (p := ⟨w.heap.size + 1, 1, none⟩) (show w.heap.size ≤ w.heap.size + 1 by omega) _).setCell (p := ⟨w.heap.size + 1 + 1 + 1, 4, none⟩) (show w.heap.size ≤ w.heap.size + 1 + 1 + 1 by omega) _
  replace z4 : W4.heap.size = w.heap.size + 1 + 1 + 1 + 1 := by rw [hW4]; simp [z4]
  have hv := Am.rvalue_any ⟨#[]⟩ ⟨#[]⟩ word hws false (w.heap.size + 1) _ _ 2 2 [12, x] [1, 1] W4.drew (Am.ins_lnm1 (show Blk W4.drew _ _ _ from P3) (show Blk W4.drew _ _ _ from P4)) (show w.heap.size + 1 ≤ W4.heap.size by omega) (by simp) (by simp)
  rw [Am.vNm_str] at hv
  have HV := Lib.hid (show Calls Tryd.prog 33 #[.agg #[.string ⟨#[]⟩, .slice (some ⟨w.heap.size + 1, 0, none⟩) 2 2, .slice (some ⟨w.heap.size + 1 + 1, 0, none⟩) 2 2, .string ⟨#[]⟩, .bool false], .string word] W4.drew fun e w' => ∃ A c A2 c2, e = .returned (.agg #[.string ⟨#[]⟩, .slice A 3 c, .slice A2 3 c2, .string ⟨(Am.vNm word.data.toList).toArray⟩, .bool (false || Am.vW word.data.toList)]) ∧ Am.LnM w' (w.heap.size + 1) (.slice A 3 c) (.slice A2 3 c2) [12, x, Am.vN word.data.toList] [1, 1, 2] ∧ Below (w.heap.size + 1) W4 w' ∧ ∀ i, i < W4.heap.size → i ≠ w.heap.size + 1 → i ≠ w.heap.size + 1 + 1 → w'.heap[i]? = W4.heap[i]? from hv.mono fun e w' h => by
    obtain ⟨A, c, A2, c2, he, m, b, kk⟩ := h
    exact ⟨A, c, A2, c2, he, m, (show Below (w.heap.size + 1) W4 W4.drew from below_drewN (Below.refl _ _) 1).trans b, fun i hi h1 h2 => kk i hi (by simp [Value.ownBlock]; omega) (by simp [Value.ownBlock]; omega)⟩)
  obtain ⟨vn, hvn⟩ : ∃ vn : ByteArray, vn = ⟨(Am.vNm word.data.toList).toArray⟩ := ⟨_, rfl⟩
  rw [← hvn] at HV
  have HVN := Lib.hid hvn
  have HDX := Lib.hid (show decide (x < 0) = false from by simpa using hx)
  rw [show decide (x < 0) = false from by simpa using hx] at HLI
  obtain ⟨vw, hvw⟩ : ∃ vw, vw = (false || Am.vW word.data.toList) := ⟨_, rfl⟩
  rw [← hvw] at HV HLI
  clear hvw
  have cw4 : W4.cell? ⟨g, off + 2, none⟩ = some (.string word) := (b4.cell (p := ⟨g, off + 2, none⟩) hg).trans cw
  have HG := Lib.hid (show g < w.heap.size from hg)
  obtain ⟨a0, a1, a2, a3, a4, g0, g1, g2, g3, g4⟩ := Am.box5c P1
  obtain ⟨e0, e1, e2, e3, e4, _⟩ := Am.box5c P2
  have HP := Lib.hid P1
  have HP2 := Lib.hid P2
  have HB := Lib.hid b4
  have HZ := Lib.hid z4
  have HS : Hid (∀ W : World, (∀ i, i < W4.heap.size → i ≠ w.heap.size → i ≠ w.heap.size + 1 → i ≠ w.heap.size + 1 + 1 → W.heap[i]? = W4.heap[i]?) → W.cell? ⟨w.heap.size + 1 + 1 + 1, 0, none⟩ = some (.string ⟨#[]⟩) ∧ W.cell? ⟨w.heap.size + 1 + 1 + 1, 1, none⟩ = some (.slice (some ⟨w.heap.size + 1, 0, none⟩) 2 2) ∧ W.cell? ⟨w.heap.size + 1 + 1 + 1, 2, none⟩ = some (.slice (some ⟨w.heap.size + 1 + 1, 0, none⟩) 2 2) ∧ W.cell? ⟨w.heap.size + 1 + 1 + 1, 3, none⟩ = some (.string ⟨#[]⟩) ∧ W.cell? ⟨w.heap.size + 1 + 1 + 1, 4, none⟩ = some (.bool false) ∧ W.cell? ⟨g, off + 2, none⟩ = some (.string word)) := Lib.hid fun W h => by
    have P : Blk W (w.heap.size + 1 + 1 + 1) 35 #[.string ⟨#[]⟩, .slice (some ⟨w.heap.size + 1, 0, none⟩) 2 2, .slice (some ⟨w.heap.size + 1 + 1, 0, none⟩) 2 2, .string ⟨#[]⟩, .bool false] := (h _ (by omega) (by omega) (by omega) (by omega)).trans P2
    refine ⟨P.cell 0, P.cell 1, P.cell 2, P.cell 3, P.cell 4, ?_⟩
    have hg4 := h g (by omega) (by omega) (by omega) (by omega)
    rw [← cw4]
    unfold World.cell?
    simp only [hg4]
  clear P1 P2 P3 P4 G4 z4 b4 hn hv hwl hws hword hcw hrow hsz cw hg hvn hwd1 cw1 hw1 hws1
  go_enter Tryd.func35, Tryd.ntmps35
  go_upto_region 2 with (fail)
  rw [← hW0]
  clear hW0
  go_upto_region 16 with (go_at_call 50; (with_reducible refine (HRG.out _).mono ?_); rintro e w2 ⟨rfl, rfl⟩)
  (try rw [HDX.out])
  rw [← hW4]
  clear hW4 hx
  have HD0 := Lib.hid (HS.out W4 (fun i _ _ _ _ => rfl))
  have HD1 := Lib.hid (HS.out W4.drew (fun i _ _ _ _ => rfl))
  go_upto_region 24 with (fail)
  go_region_held3 (fun W => W.cell? ⟨w.heap.size + 1 + 1 + 1, 0, none⟩ = some (.string ⟨#[]⟩) ∧ W.cell? ⟨w.heap.size + 1 + 1 + 1, 1, none⟩ = some (.slice (some ⟨w.heap.size + 1, 0, none⟩) 2 2) ∧ W.cell? ⟨w.heap.size + 1 + 1 + 1, 2, none⟩ = some (.slice (some ⟨w.heap.size + 1 + 1, 0, none⟩) 2 2) ∧ W.cell? ⟨w.heap.size + 1 + 1 + 1, 3, none⟩ = some (.string ⟨#[]⟩) ∧ W.cell? ⟨w.heap.size + 1 + 1 + 1, 4, none⟩ = some (.bool false) ∧ W.cell? ⟨g, off + 2, none⟩ = some (.string word)) (first | with_reducible exact HD0.out | with_reducible exact HD1.out | with_reducible exact HW6.out | with_reducible exact HW7.out | with_reducible exact HW8.out | go_keep) (first
    | (go_at_call 33; (with_reducible refine HV.out.mono ?_); rintro e w6 ⟨nA, nc, sA, sc, rfl, M6, bel, hk⟩; have HW6 := Lib.hid (HS.out w6 (fun i a _ b c => hk i a b c)); have HW7 := Lib.hid (HS.out w6.drew (fun i a _ b c => hk i a b c)); have HM := Lib.hid M6; have P6 := HP.out.below bel (Nat.lt_succ_self _); have B6 := Lib.hid (HB.out.trans (bel.mono (Nat.le_succ _))); obtain ⟨WX, hWX, Q, BX, MX, HX⟩ := Am.res_put (lb := ⟨#[]⟩) (nm := vn) (wr := vw) P6 B6.out HM.out; have HW8 := Lib.hid (HS.out WX (fun i a d b c => (HX i d).trans (hk i a b c))); rw [hWX] at HW8; have HQ := Lib.hid Q; have HBX := Lib.hid BX; have HMX := Lib.hid MX; clear Q BX MX HX; obtain ⟨b0, b1, b2, b3, b4, f0, f1, f2, f3, f4⟩ := Am.box5c P6; clear P6 M6 bel hk))
  go_wp2
  rw [← hWX]
  clear hWX
  obtain ⟨q0, q1, q2, q3, q4, _⟩ := Am.box5c HQ.out
  refine bodyPost_ret (v := .agg #[.string ⟨#[]⟩, .slice nA 3 nc, .slice sA 3 sc, .string vn, .bool vw]) (by simp [results, Tryd.results35, go_sem, q0, q1, q2, q3, q4]) rfl ⟨HBX.out, ⟨[], Am.vNm word.data.toList, [12, x, Am.vN word.data.toList], [1, 1, 2]⟩, ((nA, nc), (sA, sc)), vw, by rw [HVN.out]; rfl, HMX.out, ?_⟩
  rw [HI.out]
  exact HLI.out
set_option maxRecDepth 20000 in
set_option maxHeartbeats 1600000 in
theorem Am.instr_g12n (A : Option Addr) (k : Nat) (L : List (List UInt8)) (hn : 3 = L.length) (hx : Am.regZ (L.getD 1 []) < 0) (hsz : ∀ x ∈ L, x.length ≤ 100000) (w : World) (hrow : RowZ 1 w (.slice A 3 k) L.length (Am.strs L)) : Calls Tryd.prog 35 #[.int .i64 12, .slice A 3 k] w (Am.LnP w (Am.ins 12 L.tail)) := by
  obtain ⟨g, off, rfl, hg, hcw⟩ := Am.word_at hrow (by omega)
  obtain ⟨word, hword⟩ : ∃ word : ByteArray, word = ⟨(L.getD 2 []).toArray⟩ := ⟨_, rfl⟩
  have cw := hcw 2 (by omega)
  rw [← hword] at cw
  have hwl : word.data.toList = L.getD 2 [] := by rw [hword]
  have hws : word.size ≤ 100000 := by
    have h1 := hsz (L.getD 2 []) (by
      have : 2 < L.length := by omega
      simp [List.getD, this])
    rw [← hwl, Am.len] at h1
    exact h1
  obtain ⟨wd1, hwd1⟩ : ∃ wd1 : ByteArray, wd1 = ⟨(L.getD 1 []).toArray⟩ := ⟨_, rfl⟩
  have cw1 := hcw 1 (by omega)
  rw [← hwd1] at cw1
  have hw1 : wd1.data.toList = L.getD 1 [] := by rw [hwd1]
  have hws1 : wd1.size ≤ 100000 := by
    have h1 := hsz (L.getD 1 []) (by
      have : 1 < L.length := by omega
      simp [List.getD, this])
    rw [← hw1, Am.len] at h1
    exact h1
  have HI := Lib.hid (show Am.ins 12 L.tail = (Am.reg wd1.data.toList).bind fun x => (Am.val word.data.toList).map fun v => (Am.pt 12 x v.1, v.2) from by
    have t0 : L.tail.getD 0 [] = L.getD 1 [] := by cases L <;> rfl
    have t1 : L.tail.getD 1 [] = L.getD 2 [] := by cases L <;> rfl
    unfold Am.ins
    rw [if_neg (by decide), if_neg (by decide), if_pos (by rw [List.length_tail]; omega), hwl, hw1, t0, t1]
    rfl)
  have HLI := Lib.hid (Am.reg_lin 12 wd1.data.toList word.data.toList)
  rw [← hw1] at hx
  have HRG := Lib.hid (Am.rregister_any wd1 hws1)
  generalize Am.regZ wd1.data.toList = x at *
  obtain ⟨W0, hW0, P1, P2, P3, P4, G4, z4⟩ := Am.ins_nums w 12
  have b4 : Below w.heap.size w W0 := below_of_only G4 (Nat.le_refl _) (by simp)
  have cw10 : W0.cell? ⟨g, off + 1, none⟩ = some (.string wd1) := (b4.cell (p := ⟨g, off + 1, none⟩) hg).trans cw1
  obtain ⟨m0, m1, m2, m3, m4, mf0, mf1, mf2, mf3, mf4⟩ := Am.box5c P2
  have nf1 := P3.free 1
  have nc1 := P3.cell 1
  simp at nc1
  obtain ⟨W4, hW4⟩ : ∃ W4, W4 = (W0.setCell ⟨w.heap.size + 1, 1, none⟩ (.int .i64 x)).setCell ⟨w.heap.size + 1 + 1 + 1, 4, none⟩ (.bool true) := ⟨_, rfl⟩
  replace P1 : Blk W4 w.heap.size 35 #[.string ⟨#[]⟩, .slice none 0 0, .slice none 0 0, .string ⟨#[]⟩, .bool false] := by
    rw [hW4]
    exact (P1.far (p := ⟨w.heap.size + 1, 1, none⟩) (show w.heap.size ≠ w.heap.size + 1 by omega) _).far (p := ⟨w.heap.size + 1 + 1 + 1, 4, none⟩) (show w.heap.size ≠ w.heap.size + 1 + 1 + 1 by omega) _
  replace P2 : Blk W4 (w.heap.size + 1 + 1 + 1) 35 #[.string ⟨#[]⟩, .slice (some ⟨w.heap.size + 1, 0, none⟩) 2 2, .slice (some ⟨w.heap.size + 1 + 1, 0, none⟩) 2 2, .string ⟨#[]⟩, .bool true] := by
    rw [hW4]
    have := (P2.far (p := ⟨w.heap.size + 1, 1, none⟩) (show w.heap.size + 1 + 1 + 1 ≠ w.heap.size + 1 by omega) (.int .i64 x)).put 4 (.bool true)
    simpa using this
  replace P3 : Blk W4 (w.heap.size + 1) 3 #[.int .i64 12, .int .i64 x] := by
    rw [hW4]
    have := (P3.put 1 (.int .i64 x)).far (p := ⟨w.heap.size + 1 + 1 + 1, 4, none⟩) (show w.heap.size + 1 ≠ w.heap.size + 1 + 1 + 1 by omega) (.bool true)
    simpa using this
  replace P4 : Blk W4 (w.heap.size + 1 + 1) 3 #[.int .i64 1, .int .i64 1] := by
    rw [hW4]
    exact (P4.far (p := ⟨w.heap.size + 1, 1, none⟩) (show w.heap.size + 1 + 1 ≠ w.heap.size + 1 by omega) _).far (p := ⟨w.heap.size + 1 + 1 + 1, 4, none⟩) (show w.heap.size + 1 + 1 ≠ w.heap.size + 1 + 1 + 1 by omega) _
  replace b4 : Below w.heap.size w W4 := by
    rw [hW4]
    exact (b4.setCell (p := ⟨w.heap.size + 1, 1, none⟩) (show w.heap.size ≤ w.heap.size + 1 by omega) _).setCell (p := ⟨w.heap.size + 1 + 1 + 1, 4, none⟩) (show w.heap.size ≤ w.heap.size + 1 + 1 + 1 by omega) _
  replace z4 : W4.heap.size = w.heap.size + 1 + 1 + 1 + 1 := by rw [hW4]; simp [z4]
  have hv := Am.rvalue_any ⟨#[]⟩ ⟨#[]⟩ word hws true (w.heap.size + 1) _ _ 2 2 [12, x] [1, 1] W4.drew (Am.ins_lnm1 (show Blk W4.drew _ _ _ from P3) (show Blk W4.drew _ _ _ from P4)) (show w.heap.size + 1 ≤ W4.heap.size by omega) (by simp) (by simp)
  rw [Am.vNm_str] at hv
  have HV := Lib.hid (show Calls Tryd.prog 33 #[.agg #[.string ⟨#[]⟩, .slice (some ⟨w.heap.size + 1, 0, none⟩) 2 2, .slice (some ⟨w.heap.size + 1 + 1, 0, none⟩) 2 2, .string ⟨#[]⟩, .bool true], .string word] W4.drew fun e w' => ∃ A c A2 c2, e = .returned (.agg #[.string ⟨#[]⟩, .slice A 3 c, .slice A2 3 c2, .string ⟨(Am.vNm word.data.toList).toArray⟩, .bool (true || Am.vW word.data.toList)]) ∧ Am.LnM w' (w.heap.size + 1) (.slice A 3 c) (.slice A2 3 c2) [12, x, Am.vN word.data.toList] [1, 1, 2] ∧ Below (w.heap.size + 1) W4 w' ∧ ∀ i, i < W4.heap.size → i ≠ w.heap.size + 1 → i ≠ w.heap.size + 1 + 1 → w'.heap[i]? = W4.heap[i]? from hv.mono fun e w' h => by
    obtain ⟨A, c, A2, c2, he, m, b, kk⟩ := h
    exact ⟨A, c, A2, c2, he, m, (show Below (w.heap.size + 1) W4 W4.drew from below_drewN (Below.refl _ _) 1).trans b, fun i hi h1 h2 => kk i hi (by simp [Value.ownBlock]; omega) (by simp [Value.ownBlock]; omega)⟩)
  obtain ⟨vn, hvn⟩ : ∃ vn : ByteArray, vn = ⟨(Am.vNm word.data.toList).toArray⟩ := ⟨_, rfl⟩
  rw [← hvn] at HV
  have HVN := Lib.hid hvn
  have HDX := Lib.hid (show decide (x < 0) = true from by simpa using hx)
  rw [show decide (x < 0) = true from by simpa using hx] at HLI
  obtain ⟨vw, hvw⟩ : ∃ vw, vw = (true || Am.vW word.data.toList) := ⟨_, rfl⟩
  rw [← hvw] at HV HLI
  clear hvw
  have cw4 : W4.cell? ⟨g, off + 2, none⟩ = some (.string word) := (b4.cell (p := ⟨g, off + 2, none⟩) hg).trans cw
  have HG := Lib.hid (show g < w.heap.size from hg)
  obtain ⟨a0, a1, a2, a3, a4, g0, g1, g2, g3, g4⟩ := Am.box5c P1
  obtain ⟨e0, e1, e2, e3, e4, _⟩ := Am.box5c P2
  have HP := Lib.hid P1
  have HP2 := Lib.hid P2
  have HB := Lib.hid b4
  have HZ := Lib.hid z4
  have HS : Hid (∀ W : World, (∀ i, i < W4.heap.size → i ≠ w.heap.size → i ≠ w.heap.size + 1 → i ≠ w.heap.size + 1 + 1 → W.heap[i]? = W4.heap[i]?) → W.cell? ⟨w.heap.size + 1 + 1 + 1, 0, none⟩ = some (.string ⟨#[]⟩) ∧ W.cell? ⟨w.heap.size + 1 + 1 + 1, 1, none⟩ = some (.slice (some ⟨w.heap.size + 1, 0, none⟩) 2 2) ∧ W.cell? ⟨w.heap.size + 1 + 1 + 1, 2, none⟩ = some (.slice (some ⟨w.heap.size + 1 + 1, 0, none⟩) 2 2) ∧ W.cell? ⟨w.heap.size + 1 + 1 + 1, 3, none⟩ = some (.string ⟨#[]⟩) ∧ W.cell? ⟨w.heap.size + 1 + 1 + 1, 4, none⟩ = some (.bool true) ∧ W.cell? ⟨g, off + 2, none⟩ = some (.string word)) := Lib.hid fun W h => by
    have P : Blk W (w.heap.size + 1 + 1 + 1) 35 #[.string ⟨#[]⟩, .slice (some ⟨w.heap.size + 1, 0, none⟩) 2 2, .slice (some ⟨w.heap.size + 1 + 1, 0, none⟩) 2 2, .string ⟨#[]⟩, .bool true] := (h _ (by omega) (by omega) (by omega) (by omega)).trans P2
    refine ⟨P.cell 0, P.cell 1, P.cell 2, P.cell 3, P.cell 4, ?_⟩
    have hg4 := h g (by omega) (by omega) (by omega) (by omega)
    rw [← cw4]
    unfold World.cell?
    simp only [hg4]
  clear P1 P2 P3 P4 G4 z4 b4 hn hv hwl hws hword hcw hrow hsz cw hg hvn hwd1 cw1 hw1 hws1
  go_enter Tryd.func35, Tryd.ntmps35
  go_upto_region 2 with (fail)
  rw [← hW0]
  clear hW0
  go_upto_region 16 with (go_at_call 50; (with_reducible refine (HRG.out _).mono ?_); rintro e w2 ⟨rfl, rfl⟩)
  (try rw [HDX.out])
  rw [← hW4]
  clear hW4 hx
  have HD0 := Lib.hid (HS.out W4 (fun i _ _ _ _ => rfl))
  have HD1 := Lib.hid (HS.out W4.drew (fun i _ _ _ _ => rfl))
  go_upto_region 24 with (fail)
  go_region_held3 (fun W => W.cell? ⟨w.heap.size + 1 + 1 + 1, 0, none⟩ = some (.string ⟨#[]⟩) ∧ W.cell? ⟨w.heap.size + 1 + 1 + 1, 1, none⟩ = some (.slice (some ⟨w.heap.size + 1, 0, none⟩) 2 2) ∧ W.cell? ⟨w.heap.size + 1 + 1 + 1, 2, none⟩ = some (.slice (some ⟨w.heap.size + 1 + 1, 0, none⟩) 2 2) ∧ W.cell? ⟨w.heap.size + 1 + 1 + 1, 3, none⟩ = some (.string ⟨#[]⟩) ∧ W.cell? ⟨w.heap.size + 1 + 1 + 1, 4, none⟩ = some (.bool true) ∧ W.cell? ⟨g, off + 2, none⟩ = some (.string word)) (first | with_reducible exact HD0.out | with_reducible exact HD1.out | with_reducible exact HW6.out | with_reducible exact HW7.out | with_reducible exact HW8.out | go_keep) (first
    | (go_at_call 33; (with_reducible refine HV.out.mono ?_); rintro e w6 ⟨nA, nc, sA, sc, rfl, M6, bel, hk⟩; have HW6 := Lib.hid (HS.out w6 (fun i a _ b c => hk i a b c)); have HW7 := Lib.hid (HS.out w6.drew (fun i a _ b c => hk i a b c)); have HM := Lib.hid M6; have P6 := HP.out.below bel (Nat.lt_succ_self _); have B6 := Lib.hid (HB.out.trans (bel.mono (Nat.le_succ _))); obtain ⟨WX, hWX, Q, BX, MX, HX⟩ := Am.res_put (lb := ⟨#[]⟩) (nm := vn) (wr := vw) P6 B6.out HM.out; have HW8 := Lib.hid (HS.out WX (fun i a d b c => (HX i d).trans (hk i a b c))); rw [hWX] at HW8; have HQ := Lib.hid Q; have HBX := Lib.hid BX; have HMX := Lib.hid MX; clear Q BX MX HX; obtain ⟨b0, b1, b2, b3, b4, f0, f1, f2, f3, f4⟩ := Am.box5c P6; clear P6 M6 bel hk))
  go_wp2
  rw [← hWX]
  clear hWX
  obtain ⟨q0, q1, q2, q3, q4, _⟩ := Am.box5c HQ.out
  refine bodyPost_ret (v := .agg #[.string ⟨#[]⟩, .slice nA 3 nc, .slice sA 3 sc, .string vn, .bool vw]) (by simp [results, Tryd.results35, go_sem, q0, q1, q2, q3, q4]) rfl ⟨HBX.out, ⟨[], Am.vNm word.data.toList, [12, x, Am.vN word.data.toList], [1, 1, 2]⟩, ((nA, nc), (sA, sc)), vw, by rw [HVN.out]; rfl, HMX.out, ?_⟩
  rw [HI.out]
  exact HLI.out
set_option maxRecDepth 20000 in
set_option maxHeartbeats 1600000 in
theorem Am.instr_g13p (A : Option Addr) (k : Nat) (L : List (List UInt8)) (hn : 3 = L.length) (hx : ¬ Am.regZ (L.getD 1 []) < 0) (hsz : ∀ x ∈ L, x.length ≤ 100000) (w : World) (hrow : RowZ 1 w (.slice A 3 k) L.length (Am.strs L)) : Calls Tryd.prog 35 #[.int .i64 13, .slice A 3 k] w (Am.LnP w (Am.ins 13 L.tail)) := by
  obtain ⟨g, off, rfl, hg, hcw⟩ := Am.word_at hrow (by omega)
  obtain ⟨word, hword⟩ : ∃ word : ByteArray, word = ⟨(L.getD 2 []).toArray⟩ := ⟨_, rfl⟩
  have cw := hcw 2 (by omega)
  rw [← hword] at cw
  have hwl : word.data.toList = L.getD 2 [] := by rw [hword]
  have hws : word.size ≤ 100000 := by
    have h1 := hsz (L.getD 2 []) (by
      have : 2 < L.length := by omega
      simp [List.getD, this])
    rw [← hwl, Am.len] at h1
    exact h1
  obtain ⟨wd1, hwd1⟩ : ∃ wd1 : ByteArray, wd1 = ⟨(L.getD 1 []).toArray⟩ := ⟨_, rfl⟩
  have cw1 := hcw 1 (by omega)
  rw [← hwd1] at cw1
  have hw1 : wd1.data.toList = L.getD 1 [] := by rw [hwd1]
  have hws1 : wd1.size ≤ 100000 := by
    have h1 := hsz (L.getD 1 []) (by
      have : 1 < L.length := by omega
      simp [List.getD, this])
    rw [← hw1, Am.len] at h1
    exact h1
  have HI := Lib.hid (show Am.ins 13 L.tail = (Am.reg wd1.data.toList).bind fun x => (Am.val word.data.toList).map fun v => (Am.pt 13 x v.1, v.2) from by
    have t0 : L.tail.getD 0 [] = L.getD 1 [] := by cases L <;> rfl
    have t1 : L.tail.getD 1 [] = L.getD 2 [] := by cases L <;> rfl
    unfold Am.ins
    rw [if_neg (by decide), if_neg (by decide), if_pos (by rw [List.length_tail]; omega), hwl, hw1, t0, t1]
    rfl)
  have HLI := Lib.hid (Am.reg_lin 13 wd1.data.toList word.data.toList)
  rw [← hw1] at hx
  have HRG := Lib.hid (Am.rregister_any wd1 hws1)
  generalize Am.regZ wd1.data.toList = x at *
  obtain ⟨W0, hW0, P1, P2, P3, P4, G4, z4⟩ := Am.ins_nums w 13
  have b4 : Below w.heap.size w W0 := below_of_only G4 (Nat.le_refl _) (by simp)
  have cw10 : W0.cell? ⟨g, off + 1, none⟩ = some (.string wd1) := (b4.cell (p := ⟨g, off + 1, none⟩) hg).trans cw1
  obtain ⟨m0, m1, m2, m3, m4, mf0, mf1, mf2, mf3, mf4⟩ := Am.box5c P2
  have nf1 := P3.free 1
  have nc1 := P3.cell 1
  simp at nc1
  obtain ⟨W4, hW4⟩ : ∃ W4, W4 = (W0.setCell ⟨w.heap.size + 1, 1, none⟩ (.int .i64 x)).setCell ⟨w.heap.size + 1 + 1 + 1, 4, none⟩ (.bool false) := ⟨_, rfl⟩
  replace P1 : Blk W4 w.heap.size 35 #[.string ⟨#[]⟩, .slice none 0 0, .slice none 0 0, .string ⟨#[]⟩, .bool false] := by
    rw [hW4]
    exact (P1.far (p := ⟨w.heap.size + 1, 1, none⟩) (show w.heap.size ≠ w.heap.size + 1 by omega) _).far (p := ⟨w.heap.size + 1 + 1 + 1, 4, none⟩) (show w.heap.size ≠ w.heap.size + 1 + 1 + 1 by omega) _
  replace P2 : Blk W4 (w.heap.size + 1 + 1 + 1) 35 #[.string ⟨#[]⟩, .slice (some ⟨w.heap.size + 1, 0, none⟩) 2 2, .slice (some ⟨w.heap.size + 1 + 1, 0, none⟩) 2 2, .string ⟨#[]⟩, .bool false] := by
    rw [hW4]
    have := (P2.far (p := ⟨w.heap.size + 1, 1, none⟩) (show w.heap.size + 1 + 1 + 1 ≠ w.heap.size + 1 by omega) (.int .i64 x)).put 4 (.bool false)
    simpa using this
  replace P3 : Blk W4 (w.heap.size + 1) 3 #[.int .i64 13, .int .i64 x] := by
    rw [hW4]
    have := (P3.put 1 (.int .i64 x)).far (p := ⟨w.heap.size + 1 + 1 + 1, 4, none⟩) (show w.heap.size + 1 ≠ w.heap.size + 1 + 1 + 1 by omega) (.bool false)
    simpa using this
  replace P4 : Blk W4 (w.heap.size + 1 + 1) 3 #[.int .i64 1, .int .i64 1] := by
    rw [hW4]
    exact (P4.far (p := ⟨w.heap.size + 1, 1, none⟩) (show w.heap.size + 1 + 1 ≠ w.heap.size + 1 by omega) _).far (p := ⟨w.heap.size + 1 + 1 + 1, 4, none⟩) (show w.heap.size + 1 + 1 ≠ w.heap.size + 1 + 1 + 1 by omega) _
  replace b4 : Below w.heap.size w W4 := by
    rw [hW4]
    exact (b4.setCell (p := ⟨w.heap.size + 1, 1, none⟩) (show w.heap.size ≤ w.heap.size + 1 by omega) _).setCell (p := ⟨w.heap.size + 1 + 1 + 1, 4, none⟩) (show w.heap.size ≤ w.heap.size + 1 + 1 + 1 by omega) _
  replace z4 : W4.heap.size = w.heap.size + 1 + 1 + 1 + 1 := by rw [hW4]; simp [z4]
  have hv := Am.rvalue_any ⟨#[]⟩ ⟨#[]⟩ word hws false (w.heap.size + 1) _ _ 2 2 [13, x] [1, 1] W4.drew (Am.ins_lnm1 (show Blk W4.drew _ _ _ from P3) (show Blk W4.drew _ _ _ from P4)) (show w.heap.size + 1 ≤ W4.heap.size by omega) (by simp) (by simp)
  rw [Am.vNm_str] at hv
  have HV := Lib.hid (show Calls Tryd.prog 33 #[.agg #[.string ⟨#[]⟩, .slice (some ⟨w.heap.size + 1, 0, none⟩) 2 2, .slice (some ⟨w.heap.size + 1 + 1, 0, none⟩) 2 2, .string ⟨#[]⟩, .bool false], .string word] W4.drew fun e w' => ∃ A c A2 c2, e = .returned (.agg #[.string ⟨#[]⟩, .slice A 3 c, .slice A2 3 c2, .string ⟨(Am.vNm word.data.toList).toArray⟩, .bool (false || Am.vW word.data.toList)]) ∧ Am.LnM w' (w.heap.size + 1) (.slice A 3 c) (.slice A2 3 c2) [13, x, Am.vN word.data.toList] [1, 1, 2] ∧ Below (w.heap.size + 1) W4 w' ∧ ∀ i, i < W4.heap.size → i ≠ w.heap.size + 1 → i ≠ w.heap.size + 1 + 1 → w'.heap[i]? = W4.heap[i]? from hv.mono fun e w' h => by
    obtain ⟨A, c, A2, c2, he, m, b, kk⟩ := h
    exact ⟨A, c, A2, c2, he, m, (show Below (w.heap.size + 1) W4 W4.drew from below_drewN (Below.refl _ _) 1).trans b, fun i hi h1 h2 => kk i hi (by simp [Value.ownBlock]; omega) (by simp [Value.ownBlock]; omega)⟩)
  obtain ⟨vn, hvn⟩ : ∃ vn : ByteArray, vn = ⟨(Am.vNm word.data.toList).toArray⟩ := ⟨_, rfl⟩
  rw [← hvn] at HV
  have HVN := Lib.hid hvn
  have HDX := Lib.hid (show decide (x < 0) = false from by simpa using hx)
  rw [show decide (x < 0) = false from by simpa using hx] at HLI
  obtain ⟨vw, hvw⟩ : ∃ vw, vw = (false || Am.vW word.data.toList) := ⟨_, rfl⟩
  rw [← hvw] at HV HLI
  clear hvw
  have cw4 : W4.cell? ⟨g, off + 2, none⟩ = some (.string word) := (b4.cell (p := ⟨g, off + 2, none⟩) hg).trans cw
  have HG := Lib.hid (show g < w.heap.size from hg)
  obtain ⟨a0, a1, a2, a3, a4, g0, g1, g2, g3, g4⟩ := Am.box5c P1
  obtain ⟨e0, e1, e2, e3, e4, _⟩ := Am.box5c P2
  have HP := Lib.hid P1
  have HP2 := Lib.hid P2
  have HB := Lib.hid b4
  have HZ := Lib.hid z4
  have HS : Hid (∀ W : World, (∀ i, i < W4.heap.size → i ≠ w.heap.size → i ≠ w.heap.size + 1 → i ≠ w.heap.size + 1 + 1 → W.heap[i]? = W4.heap[i]?) → W.cell? ⟨w.heap.size + 1 + 1 + 1, 0, none⟩ = some (.string ⟨#[]⟩) ∧ W.cell? ⟨w.heap.size + 1 + 1 + 1, 1, none⟩ = some (.slice (some ⟨w.heap.size + 1, 0, none⟩) 2 2) ∧ W.cell? ⟨w.heap.size + 1 + 1 + 1, 2, none⟩ = some (.slice (some ⟨w.heap.size + 1 + 1, 0, none⟩) 2 2) ∧ W.cell? ⟨w.heap.size + 1 + 1 + 1, 3, none⟩ = some (.string ⟨#[]⟩) ∧ W.cell? ⟨w.heap.size + 1 + 1 + 1, 4, none⟩ = some (.bool false) ∧ W.cell? ⟨g, off + 2, none⟩ = some (.string word)) := Lib.hid fun W h => by
    have P : Blk W (w.heap.size + 1 + 1 + 1) 35 #[.string ⟨#[]⟩, .slice (some ⟨w.heap.size + 1, 0, none⟩) 2 2, .slice (some ⟨w.heap.size + 1 + 1, 0, none⟩) 2 2, .string ⟨#[]⟩, .bool false] := (h _ (by omega) (by omega) (by omega) (by omega)).trans P2
    refine ⟨P.cell 0, P.cell 1, P.cell 2, P.cell 3, P.cell 4, ?_⟩
    have hg4 := h g (by omega) (by omega) (by omega) (by omega)
    rw [← cw4]
    unfold World.cell?
    simp only [hg4]
  clear P1 P2 P3 P4 G4 z4 b4 hn hv hwl hws hword hcw hrow hsz cw hg hvn hwd1 cw1 hw1 hws1
  go_enter Tryd.func35, Tryd.ntmps35
  go_upto_region 2 with (fail)
  rw [← hW0]
  clear hW0
  go_upto_region 16 with (go_at_call 50; (with_reducible refine (HRG.out _).mono ?_); rintro e w2 ⟨rfl, rfl⟩)
  (try rw [HDX.out])
  rw [← hW4]
  clear hW4 hx
  have HD0 := Lib.hid (HS.out W4 (fun i _ _ _ _ => rfl))
  have HD1 := Lib.hid (HS.out W4.drew (fun i _ _ _ _ => rfl))
  go_upto_region 24 with (fail)
  go_region_held3 (fun W => W.cell? ⟨w.heap.size + 1 + 1 + 1, 0, none⟩ = some (.string ⟨#[]⟩) ∧ W.cell? ⟨w.heap.size + 1 + 1 + 1, 1, none⟩ = some (.slice (some ⟨w.heap.size + 1, 0, none⟩) 2 2) ∧ W.cell? ⟨w.heap.size + 1 + 1 + 1, 2, none⟩ = some (.slice (some ⟨w.heap.size + 1 + 1, 0, none⟩) 2 2) ∧ W.cell? ⟨w.heap.size + 1 + 1 + 1, 3, none⟩ = some (.string ⟨#[]⟩) ∧ W.cell? ⟨w.heap.size + 1 + 1 + 1, 4, none⟩ = some (.bool false) ∧ W.cell? ⟨g, off + 2, none⟩ = some (.string word)) (first | with_reducible exact HD0.out | with_reducible exact HD1.out | with_reducible exact HW6.out | with_reducible exact HW7.out | with_reducible exact HW8.out | go_keep) (first
    | (go_at_call 33; (with_reducible refine HV.out.mono ?_); rintro e w6 ⟨nA, nc, sA, sc, rfl, M6, bel, hk⟩; have HW6 := Lib.hid (HS.out w6 (fun i a _ b c => hk i a b c)); have HW7 := Lib.hid (HS.out w6.drew (fun i a _ b c => hk i a b c)); have HM := Lib.hid M6; have P6 := HP.out.below bel (Nat.lt_succ_self _); have B6 := Lib.hid (HB.out.trans (bel.mono (Nat.le_succ _))); obtain ⟨WX, hWX, Q, BX, MX, HX⟩ := Am.res_put (lb := ⟨#[]⟩) (nm := vn) (wr := vw) P6 B6.out HM.out; have HW8 := Lib.hid (HS.out WX (fun i a d b c => (HX i d).trans (hk i a b c))); rw [hWX] at HW8; have HQ := Lib.hid Q; have HBX := Lib.hid BX; have HMX := Lib.hid MX; clear Q BX MX HX; obtain ⟨b0, b1, b2, b3, b4, f0, f1, f2, f3, f4⟩ := Am.box5c P6; clear P6 M6 bel hk))
  go_wp2
  rw [← hWX]
  clear hWX
  obtain ⟨q0, q1, q2, q3, q4, _⟩ := Am.box5c HQ.out
  refine bodyPost_ret (v := .agg #[.string ⟨#[]⟩, .slice nA 3 nc, .slice sA 3 sc, .string vn, .bool vw]) (by simp [results, Tryd.results35, go_sem, q0, q1, q2, q3, q4]) rfl ⟨HBX.out, ⟨[], Am.vNm word.data.toList, [13, x, Am.vN word.data.toList], [1, 1, 2]⟩, ((nA, nc), (sA, sc)), vw, by rw [HVN.out]; rfl, HMX.out, ?_⟩
  rw [HI.out]
  exact HLI.out
set_option maxRecDepth 20000 in
set_option maxHeartbeats 1600000 in
theorem Am.instr_g13n (A : Option Addr) (k : Nat) (L : List (List UInt8)) (hn : 3 = L.length) (hx : Am.regZ (L.getD 1 []) < 0) (hsz : ∀ x ∈ L, x.length ≤ 100000) (w : World) (hrow : RowZ 1 w (.slice A 3 k) L.length (Am.strs L)) : Calls Tryd.prog 35 #[.int .i64 13, .slice A 3 k] w (Am.LnP w (Am.ins 13 L.tail)) := by
  obtain ⟨g, off, rfl, hg, hcw⟩ := Am.word_at hrow (by omega)
  obtain ⟨word, hword⟩ : ∃ word : ByteArray, word = ⟨(L.getD 2 []).toArray⟩ := ⟨_, rfl⟩
  have cw := hcw 2 (by omega)
  rw [← hword] at cw
  have hwl : word.data.toList = L.getD 2 [] := by rw [hword]
  have hws : word.size ≤ 100000 := by
    have h1 := hsz (L.getD 2 []) (by
      have : 2 < L.length := by omega
      simp [List.getD, this])
    rw [← hwl, Am.len] at h1
    exact h1
  obtain ⟨wd1, hwd1⟩ : ∃ wd1 : ByteArray, wd1 = ⟨(L.getD 1 []).toArray⟩ := ⟨_, rfl⟩
  have cw1 := hcw 1 (by omega)
  rw [← hwd1] at cw1
  have hw1 : wd1.data.toList = L.getD 1 [] := by rw [hwd1]
  have hws1 : wd1.size ≤ 100000 := by
    have h1 := hsz (L.getD 1 []) (by
      have : 1 < L.length := by omega
      simp [List.getD, this])
    rw [← hw1, Am.len] at h1
    exact h1
  have HI := Lib.hid (show Am.ins 13 L.tail = (Am.reg wd1.data.toList).bind fun x => (Am.val word.data.toList).map fun v => (Am.pt 13 x v.1, v.2) from by
    have t0 : L.tail.getD 0 [] = L.getD 1 [] := by cases L <;> rfl
    have t1 : L.tail.getD 1 [] = L.getD 2 [] := by cases L <;> rfl
    unfold Am.ins
    rw [if_neg (by decide), if_neg (by decide), if_pos (by rw [List.length_tail]; omega), hwl, hw1, t0, t1]
    rfl)
  have HLI := Lib.hid (Am.reg_lin 13 wd1.data.toList word.data.toList)
  rw [← hw1] at hx
  have HRG := Lib.hid (Am.rregister_any wd1 hws1)
  generalize Am.regZ wd1.data.toList = x at *
  obtain ⟨W0, hW0, P1, P2, P3, P4, G4, z4⟩ := Am.ins_nums w 13
  have b4 : Below w.heap.size w W0 := below_of_only G4 (Nat.le_refl _) (by simp)
  have cw10 : W0.cell? ⟨g, off + 1, none⟩ = some (.string wd1) := (b4.cell (p := ⟨g, off + 1, none⟩) hg).trans cw1
  obtain ⟨m0, m1, m2, m3, m4, mf0, mf1, mf2, mf3, mf4⟩ := Am.box5c P2
  have nf1 := P3.free 1
  have nc1 := P3.cell 1
  simp at nc1
  obtain ⟨W4, hW4⟩ : ∃ W4, W4 = (W0.setCell ⟨w.heap.size + 1, 1, none⟩ (.int .i64 x)).setCell ⟨w.heap.size + 1 + 1 + 1, 4, none⟩ (.bool true) := ⟨_, rfl⟩
  replace P1 : Blk W4 w.heap.size 35 #[.string ⟨#[]⟩, .slice none 0 0, .slice none 0 0, .string ⟨#[]⟩, .bool false] := by
    rw [hW4]
    exact (P1.far (p := ⟨w.heap.size + 1, 1, none⟩) (show w.heap.size ≠ w.heap.size + 1 by omega) _).far (p := ⟨w.heap.size + 1 + 1 + 1, 4, none⟩) (show w.heap.size ≠ w.heap.size + 1 + 1 + 1 by omega) _
  replace P2 : Blk W4 (w.heap.size + 1 + 1 + 1) 35 #[.string ⟨#[]⟩, .slice (some ⟨w.heap.size + 1, 0, none⟩) 2 2, .slice (some ⟨w.heap.size + 1 + 1, 0, none⟩) 2 2, .string ⟨#[]⟩, .bool true] := by
    rw [hW4]
    have := (P2.far (p := ⟨w.heap.size + 1, 1, none⟩) (show w.heap.size + 1 + 1 + 1 ≠ w.heap.size + 1 by omega) (.int .i64 x)).put 4 (.bool true)
    simpa using this
  replace P3 : Blk W4 (w.heap.size + 1) 3 #[.int .i64 13, .int .i64 x] := by
    rw [hW4]
    have := (P3.put 1 (.int .i64 x)).far (p := ⟨w.heap.size + 1 + 1 + 1, 4, none⟩) (show w.heap.size + 1 ≠ w.heap.size + 1 + 1 + 1 by omega) (.bool true)
    simpa using this
  replace P4 : Blk W4 (w.heap.size + 1 + 1) 3 #[.int .i64 1, .int .i64 1] := by
    rw [hW4]
    exact (P4.far (p := ⟨w.heap.size + 1, 1, none⟩) (show w.heap.size + 1 + 1 ≠ w.heap.size + 1 by omega) _).far (p := ⟨w.heap.size + 1 + 1 + 1, 4, none⟩) (show w.heap.size + 1 + 1 ≠ w.heap.size + 1 + 1 + 1 by omega) _
  replace b4 : Below w.heap.size w W4 := by
    rw [hW4]
    exact (b4.setCell (p := ⟨w.heap.size + 1, 1, none⟩) (show w.heap.size ≤ w.heap.size + 1 by omega) _).setCell (p := ⟨w.heap.size + 1 + 1 + 1, 4, none⟩) (show w.heap.size ≤ w.heap.size + 1 + 1 + 1 by omega) _
  replace z4 : W4.heap.size = w.heap.size + 1 + 1 + 1 + 1 := by rw [hW4]; simp [z4]
  have hv := Am.rvalue_any ⟨#[]⟩ ⟨#[]⟩ word hws true (w.heap.size + 1) _ _ 2 2 [13, x] [1, 1] W4.drew (Am.ins_lnm1 (show Blk W4.drew _ _ _ from P3) (show Blk W4.drew _ _ _ from P4)) (show w.heap.size + 1 ≤ W4.heap.size by omega) (by simp) (by simp)
  rw [Am.vNm_str] at hv
  have HV := Lib.hid (show Calls Tryd.prog 33 #[.agg #[.string ⟨#[]⟩, .slice (some ⟨w.heap.size + 1, 0, none⟩) 2 2, .slice (some ⟨w.heap.size + 1 + 1, 0, none⟩) 2 2, .string ⟨#[]⟩, .bool true], .string word] W4.drew fun e w' => ∃ A c A2 c2, e = .returned (.agg #[.string ⟨#[]⟩, .slice A 3 c, .slice A2 3 c2, .string ⟨(Am.vNm word.data.toList).toArray⟩, .bool (true || Am.vW word.data.toList)]) ∧ Am.LnM w' (w.heap.size + 1) (.slice A 3 c) (.slice A2 3 c2) [13, x, Am.vN word.data.toList] [1, 1, 2] ∧ Below (w.heap.size + 1) W4 w' ∧ ∀ i, i < W4.heap.size → i ≠ w.heap.size + 1 → i ≠ w.heap.size + 1 + 1 → w'.heap[i]? = W4.heap[i]? from hv.mono fun e w' h => by
    obtain ⟨A, c, A2, c2, he, m, b, kk⟩ := h
    exact ⟨A, c, A2, c2, he, m, (show Below (w.heap.size + 1) W4 W4.drew from below_drewN (Below.refl _ _) 1).trans b, fun i hi h1 h2 => kk i hi (by simp [Value.ownBlock]; omega) (by simp [Value.ownBlock]; omega)⟩)
  obtain ⟨vn, hvn⟩ : ∃ vn : ByteArray, vn = ⟨(Am.vNm word.data.toList).toArray⟩ := ⟨_, rfl⟩
  rw [← hvn] at HV
  have HVN := Lib.hid hvn
  have HDX := Lib.hid (show decide (x < 0) = true from by simpa using hx)
  rw [show decide (x < 0) = true from by simpa using hx] at HLI
  obtain ⟨vw, hvw⟩ : ∃ vw, vw = (true || Am.vW word.data.toList) := ⟨_, rfl⟩
  rw [← hvw] at HV HLI
  clear hvw
  have cw4 : W4.cell? ⟨g, off + 2, none⟩ = some (.string word) := (b4.cell (p := ⟨g, off + 2, none⟩) hg).trans cw
  have HG := Lib.hid (show g < w.heap.size from hg)
  obtain ⟨a0, a1, a2, a3, a4, g0, g1, g2, g3, g4⟩ := Am.box5c P1
  obtain ⟨e0, e1, e2, e3, e4, _⟩ := Am.box5c P2
  have HP := Lib.hid P1
  have HP2 := Lib.hid P2
  have HB := Lib.hid b4
  have HZ := Lib.hid z4
  have HS : Hid (∀ W : World, (∀ i, i < W4.heap.size → i ≠ w.heap.size → i ≠ w.heap.size + 1 → i ≠ w.heap.size + 1 + 1 → W.heap[i]? = W4.heap[i]?) → W.cell? ⟨w.heap.size + 1 + 1 + 1, 0, none⟩ = some (.string ⟨#[]⟩) ∧ W.cell? ⟨w.heap.size + 1 + 1 + 1, 1, none⟩ = some (.slice (some ⟨w.heap.size + 1, 0, none⟩) 2 2) ∧ W.cell? ⟨w.heap.size + 1 + 1 + 1, 2, none⟩ = some (.slice (some ⟨w.heap.size + 1 + 1, 0, none⟩) 2 2) ∧ W.cell? ⟨w.heap.size + 1 + 1 + 1, 3, none⟩ = some (.string ⟨#[]⟩) ∧ W.cell? ⟨w.heap.size + 1 + 1 + 1, 4, none⟩ = some (.bool true) ∧ W.cell? ⟨g, off + 2, none⟩ = some (.string word)) := Lib.hid fun W h => by
    have P : Blk W (w.heap.size + 1 + 1 + 1) 35 #[.string ⟨#[]⟩, .slice (some ⟨w.heap.size + 1, 0, none⟩) 2 2, .slice (some ⟨w.heap.size + 1 + 1, 0, none⟩) 2 2, .string ⟨#[]⟩, .bool true] := (h _ (by omega) (by omega) (by omega) (by omega)).trans P2
    refine ⟨P.cell 0, P.cell 1, P.cell 2, P.cell 3, P.cell 4, ?_⟩
    have hg4 := h g (by omega) (by omega) (by omega) (by omega)
    rw [← cw4]
    unfold World.cell?
    simp only [hg4]
  clear P1 P2 P3 P4 G4 z4 b4 hn hv hwl hws hword hcw hrow hsz cw hg hvn hwd1 cw1 hw1 hws1
  go_enter Tryd.func35, Tryd.ntmps35
  go_upto_region 2 with (fail)
  rw [← hW0]
  clear hW0
  go_upto_region 16 with (go_at_call 50; (with_reducible refine (HRG.out _).mono ?_); rintro e w2 ⟨rfl, rfl⟩)
  (try rw [HDX.out])
  rw [← hW4]
  clear hW4 hx
  have HD0 := Lib.hid (HS.out W4 (fun i _ _ _ _ => rfl))
  have HD1 := Lib.hid (HS.out W4.drew (fun i _ _ _ _ => rfl))
  go_upto_region 24 with (fail)
  go_region_held3 (fun W => W.cell? ⟨w.heap.size + 1 + 1 + 1, 0, none⟩ = some (.string ⟨#[]⟩) ∧ W.cell? ⟨w.heap.size + 1 + 1 + 1, 1, none⟩ = some (.slice (some ⟨w.heap.size + 1, 0, none⟩) 2 2) ∧ W.cell? ⟨w.heap.size + 1 + 1 + 1, 2, none⟩ = some (.slice (some ⟨w.heap.size + 1 + 1, 0, none⟩) 2 2) ∧ W.cell? ⟨w.heap.size + 1 + 1 + 1, 3, none⟩ = some (.string ⟨#[]⟩) ∧ W.cell? ⟨w.heap.size + 1 + 1 + 1, 4, none⟩ = some (.bool true) ∧ W.cell? ⟨g, off + 2, none⟩ = some (.string word)) (first | with_reducible exact HD0.out | with_reducible exact HD1.out | with_reducible exact HW6.out | with_reducible exact HW7.out | with_reducible exact HW8.out | go_keep) (first
    | (go_at_call 33; (with_reducible refine HV.out.mono ?_); rintro e w6 ⟨nA, nc, sA, sc, rfl, M6, bel, hk⟩; have HW6 := Lib.hid (HS.out w6 (fun i a _ b c => hk i a b c)); have HW7 := Lib.hid (HS.out w6.drew (fun i a _ b c => hk i a b c)); have HM := Lib.hid M6; have P6 := HP.out.below bel (Nat.lt_succ_self _); have B6 := Lib.hid (HB.out.trans (bel.mono (Nat.le_succ _))); obtain ⟨WX, hWX, Q, BX, MX, HX⟩ := Am.res_put (lb := ⟨#[]⟩) (nm := vn) (wr := vw) P6 B6.out HM.out; have HW8 := Lib.hid (HS.out WX (fun i a d b c => (HX i d).trans (hk i a b c))); rw [hWX] at HW8; have HQ := Lib.hid Q; have HBX := Lib.hid BX; have HMX := Lib.hid MX; clear Q BX MX HX; obtain ⟨b0, b1, b2, b3, b4, f0, f1, f2, f3, f4⟩ := Am.box5c P6; clear P6 M6 bel hk))
  go_wp2
  rw [← hWX]
  clear hWX
  obtain ⟨q0, q1, q2, q3, q4, _⟩ := Am.box5c HQ.out
  refine bodyPost_ret (v := .agg #[.string ⟨#[]⟩, .slice nA 3 nc, .slice sA 3 sc, .string vn, .bool vw]) (by simp [results, Tryd.results35, go_sem, q0, q1, q2, q3, q4]) rfl ⟨HBX.out, ⟨[], Am.vNm word.data.toList, [13, x, Am.vN word.data.toList], [1, 1, 2]⟩, ((nA, nc), (sA, sc)), vw, by rw [HVN.out]; rfl, HMX.out, ?_⟩
  rw [HI.out]
  exact HLI.out
end Go.Proofs.YtldbhcbmcogmfaaDoor

/- The document's line of an instruction with a register and a value. -/
namespace Go.Proofs.YtldbhcbmcogmfaaDoor
open Go.RowKit Go.Lib
set_option linter.unusedVariables false
set_option maxRecDepth 8000

set_option maxRecDepth 20000 in
set_option maxHeartbeats 1600000 in
theorem Am.instr_g14p (A : Option Addr) (k : Nat) (L : List (List UInt8)) (hn : 3 = L.length) (hnm : Am.isName (L.getD 2 []) = false) (hx : ¬ Am.regZ (L.getD 1 []) < 0) (hsz : ∀ x ∈ L, x.length ≤ 100000) (w : World) (hrow : RowZ 1 w (.slice A 3 k) L.length (Am.strs L)) : Calls Tryd.prog 35 #[.int .i64 14, .slice A 3 k] w (Am.LnP w (Am.ins 14 L.tail)) := by
  obtain ⟨g, off, rfl, hg, hcw⟩ := Am.word_at hrow (by omega)
  obtain ⟨word, hword⟩ : ∃ word : ByteArray, word = ⟨(L.getD 2 []).toArray⟩ := ⟨_, rfl⟩
  have cw := hcw 2 (by omega)
  rw [← hword] at cw
  have hwl : word.data.toList = L.getD 2 [] := by rw [hword]
  have hws : word.size ≤ 100000 := by
    have h1 := hsz (L.getD 2 []) (by
      have : 2 < L.length := by omega
      simp [List.getD, this])
    rw [← hwl, Am.len] at h1
    exact h1
  obtain ⟨wd1, hwd1⟩ : ∃ wd1 : ByteArray, wd1 = ⟨(L.getD 1 []).toArray⟩ := ⟨_, rfl⟩
  have cw1 := hcw 1 (by omega)
  rw [← hwd1] at cw1
  have hw1 : wd1.data.toList = L.getD 1 [] := by rw [hwd1]
  have hws1 : wd1.size ≤ 100000 := by
    have h1 := hsz (L.getD 1 []) (by
      have : 1 < L.length := by omega
      simp [List.getD, this])
    rw [← hw1, Am.len] at h1
    exact h1
  have HI := Lib.hid (show Am.ins 14 L.tail = (Am.reg wd1.data.toList).bind fun x => (Am.val word.data.toList).map fun v => (Am.pt 14 x v.1, v.2) from by
    have t0 : L.tail.getD 0 [] = L.getD 1 [] := by cases L <;> rfl
    have t1 : L.tail.getD 1 [] = L.getD 2 [] := by cases L <;> rfl
    unfold Am.ins
    rw [if_neg (by decide), if_neg (by decide), if_pos (by rw [List.length_tail]; omega), hwl, hw1, t0, t1]
    congr 1
    funext x
    rw [if_pos rfl]
    unfold Am.val
    rw [hnm]
    simp only [Bool.false_eq_true, if_false, Option.map_map]
    rfl)
  have HLT := Lib.hid (fun W => by have h := Am.rletters_any word hws W; rw [hwl, hnm] at h; exact h)
  have HLI := Lib.hid (Am.reg_lin 14 wd1.data.toList word.data.toList)
  rw [← hw1] at hx
  have HRG := Lib.hid (Am.rregister_any wd1 hws1)
  generalize Am.regZ wd1.data.toList = x at *
  obtain ⟨W0, hW0, P1, P2, P3, P4, G4, z4⟩ := Am.ins_nums w 14
  have b4 : Below w.heap.size w W0 := below_of_only G4 (Nat.le_refl _) (by simp)
  have cw10 : W0.cell? ⟨g, off + 1, none⟩ = some (.string wd1) := (b4.cell (p := ⟨g, off + 1, none⟩) hg).trans cw1
  obtain ⟨m0, m1, m2, m3, m4, mf0, mf1, mf2, mf3, mf4⟩ := Am.box5c P2
  have nf1 := P3.free 1
  have nc1 := P3.cell 1
  simp at nc1
  obtain ⟨W4, hW4⟩ : ∃ W4, W4 = (W0.setCell ⟨w.heap.size + 1, 1, none⟩ (.int .i64 x)).setCell ⟨w.heap.size + 1 + 1 + 1, 4, none⟩ (.bool false) := ⟨_, rfl⟩
  replace P1 : Blk W4 w.heap.size 35 #[.string ⟨#[]⟩, .slice none 0 0, .slice none 0 0, .string ⟨#[]⟩, .bool false] := by
    rw [hW4]
    exact (P1.far (p := ⟨w.heap.size + 1, 1, none⟩) (show w.heap.size ≠ w.heap.size + 1 by omega) _).far (p := ⟨w.heap.size + 1 + 1 + 1, 4, none⟩) (show w.heap.size ≠ w.heap.size + 1 + 1 + 1 by omega) _
  replace P2 : Blk W4 (w.heap.size + 1 + 1 + 1) 35 #[.string ⟨#[]⟩, .slice (some ⟨w.heap.size + 1, 0, none⟩) 2 2, .slice (some ⟨w.heap.size + 1 + 1, 0, none⟩) 2 2, .string ⟨#[]⟩, .bool false] := by
    rw [hW4]
    have := (P2.far (p := ⟨w.heap.size + 1, 1, none⟩) (show w.heap.size + 1 + 1 + 1 ≠ w.heap.size + 1 by omega) (.int .i64 x)).put 4 (.bool false)
    simpa using this
  replace P3 : Blk W4 (w.heap.size + 1) 3 #[.int .i64 14, .int .i64 x] := by
    rw [hW4]
    have := (P3.put 1 (.int .i64 x)).far (p := ⟨w.heap.size + 1 + 1 + 1, 4, none⟩) (show w.heap.size + 1 ≠ w.heap.size + 1 + 1 + 1 by omega) (.bool false)
    simpa using this
  replace P4 : Blk W4 (w.heap.size + 1 + 1) 3 #[.int .i64 1, .int .i64 1] := by
    rw [hW4]
    exact (P4.far (p := ⟨w.heap.size + 1, 1, none⟩) (show w.heap.size + 1 + 1 ≠ w.heap.size + 1 by omega) _).far (p := ⟨w.heap.size + 1 + 1 + 1, 4, none⟩) (show w.heap.size + 1 + 1 ≠ w.heap.size + 1 + 1 + 1 by omega) _
  replace b4 : Below w.heap.size w W4 := by
    rw [hW4]
    exact (b4.setCell (p := ⟨w.heap.size + 1, 1, none⟩) (show w.heap.size ≤ w.heap.size + 1 by omega) _).setCell (p := ⟨w.heap.size + 1 + 1 + 1, 4, none⟩) (show w.heap.size ≤ w.heap.size + 1 + 1 + 1 by omega) _
  replace z4 : W4.heap.size = w.heap.size + 1 + 1 + 1 + 1 := by rw [hW4]; simp [z4]
  have hv := Am.rvalue_any ⟨#[]⟩ ⟨#[]⟩ word hws false (w.heap.size + 1) _ _ 2 2 [14, x] [1, 1] W4.drew (Am.ins_lnm1 (show Blk W4.drew _ _ _ from P3) (show Blk W4.drew _ _ _ from P4)) (show w.heap.size + 1 ≤ W4.heap.size by omega) (by simp) (by simp)
  rw [Am.vNm_str] at hv
  have HV := Lib.hid (show Calls Tryd.prog 33 #[.agg #[.string ⟨#[]⟩, .slice (some ⟨w.heap.size + 1, 0, none⟩) 2 2, .slice (some ⟨w.heap.size + 1 + 1, 0, none⟩) 2 2, .string ⟨#[]⟩, .bool false], .string word] W4.drew fun e w' => ∃ A c A2 c2, e = .returned (.agg #[.string ⟨#[]⟩, .slice A 3 c, .slice A2 3 c2, .string ⟨(Am.vNm word.data.toList).toArray⟩, .bool (false || Am.vW word.data.toList)]) ∧ Am.LnM w' (w.heap.size + 1) (.slice A 3 c) (.slice A2 3 c2) [14, x, Am.vN word.data.toList] [1, 1, 2] ∧ Below (w.heap.size + 1) W4 w' ∧ ∀ i, i < W4.heap.size → i ≠ w.heap.size + 1 → i ≠ w.heap.size + 1 + 1 → w'.heap[i]? = W4.heap[i]? from hv.mono fun e w' h => by
    obtain ⟨A, c, A2, c2, he, m, b, kk⟩ := h
    exact ⟨A, c, A2, c2, he, m, (show Below (w.heap.size + 1) W4 W4.drew from below_drewN (Below.refl _ _) 1).trans b, fun i hi h1 h2 => kk i hi (by simp [Value.ownBlock]; omega) (by simp [Value.ownBlock]; omega)⟩)
  obtain ⟨vn, hvn⟩ : ∃ vn : ByteArray, vn = ⟨(Am.vNm word.data.toList).toArray⟩ := ⟨_, rfl⟩
  rw [← hvn] at HV
  have HVN := Lib.hid hvn
  have HDX := Lib.hid (show decide (x < 0) = false from by simpa using hx)
  rw [show decide (x < 0) = false from by simpa using hx] at HLI
  obtain ⟨vw, hvw⟩ : ∃ vw, vw = (false || Am.vW word.data.toList) := ⟨_, rfl⟩
  rw [← hvw] at HV HLI
  clear hvw
  have cw4 : W4.cell? ⟨g, off + 2, none⟩ = some (.string word) := (b4.cell (p := ⟨g, off + 2, none⟩) hg).trans cw
  have HG := Lib.hid (show g < w.heap.size from hg)
  obtain ⟨a0, a1, a2, a3, a4, g0, g1, g2, g3, g4⟩ := Am.box5c P1
  obtain ⟨e0, e1, e2, e3, e4, _⟩ := Am.box5c P2
  have HP := Lib.hid P1
  have HP2 := Lib.hid P2
  have HB := Lib.hid b4
  have HZ := Lib.hid z4
  have HS : Hid (∀ W : World, (∀ i, i < W4.heap.size → i ≠ w.heap.size → i ≠ w.heap.size + 1 → i ≠ w.heap.size + 1 + 1 → W.heap[i]? = W4.heap[i]?) → W.cell? ⟨w.heap.size + 1 + 1 + 1, 0, none⟩ = some (.string ⟨#[]⟩) ∧ W.cell? ⟨w.heap.size + 1 + 1 + 1, 1, none⟩ = some (.slice (some ⟨w.heap.size + 1, 0, none⟩) 2 2) ∧ W.cell? ⟨w.heap.size + 1 + 1 + 1, 2, none⟩ = some (.slice (some ⟨w.heap.size + 1 + 1, 0, none⟩) 2 2) ∧ W.cell? ⟨w.heap.size + 1 + 1 + 1, 3, none⟩ = some (.string ⟨#[]⟩) ∧ W.cell? ⟨w.heap.size + 1 + 1 + 1, 4, none⟩ = some (.bool false) ∧ W.cell? ⟨g, off + 2, none⟩ = some (.string word)) := Lib.hid fun W h => by
    have P : Blk W (w.heap.size + 1 + 1 + 1) 35 #[.string ⟨#[]⟩, .slice (some ⟨w.heap.size + 1, 0, none⟩) 2 2, .slice (some ⟨w.heap.size + 1 + 1, 0, none⟩) 2 2, .string ⟨#[]⟩, .bool false] := (h _ (by omega) (by omega) (by omega) (by omega)).trans P2
    refine ⟨P.cell 0, P.cell 1, P.cell 2, P.cell 3, P.cell 4, ?_⟩
    have hg4 := h g (by omega) (by omega) (by omega) (by omega)
    rw [← cw4]
    unfold World.cell?
    simp only [hg4]
  clear P1 P2 P3 P4 G4 z4 b4 hn hv hwl hws hword hcw hrow hsz cw hg hvn hwd1 cw1 hw1 hws1
  go_enter Tryd.func35, Tryd.ntmps35
  go_upto_region 2 with (fail)
  rw [← hW0]
  clear hW0
  go_upto_region 16 with (go_at_call 50; (with_reducible refine (HRG.out _).mono ?_); rintro e w2 ⟨rfl, rfl⟩)
  (try rw [HDX.out])
  rw [← hW4]
  clear hW4 hx
  have HD0 := Lib.hid (HS.out W4 (fun i _ _ _ _ => rfl))
  have HD1 := Lib.hid (HS.out W4.drew (fun i _ _ _ _ => rfl))
  go_upto_region 24 with (go_at_call 31; (with_reducible refine (HLT.out _).mono ?_); rintro e w2 ⟨rfl, rfl⟩)
  go_region_held3 (fun W => W.cell? ⟨w.heap.size + 1 + 1 + 1, 0, none⟩ = some (.string ⟨#[]⟩) ∧ W.cell? ⟨w.heap.size + 1 + 1 + 1, 1, none⟩ = some (.slice (some ⟨w.heap.size + 1, 0, none⟩) 2 2) ∧ W.cell? ⟨w.heap.size + 1 + 1 + 1, 2, none⟩ = some (.slice (some ⟨w.heap.size + 1 + 1, 0, none⟩) 2 2) ∧ W.cell? ⟨w.heap.size + 1 + 1 + 1, 3, none⟩ = some (.string ⟨#[]⟩) ∧ W.cell? ⟨w.heap.size + 1 + 1 + 1, 4, none⟩ = some (.bool false) ∧ W.cell? ⟨g, off + 2, none⟩ = some (.string word)) (first | with_reducible exact HD0.out | with_reducible exact HD1.out | with_reducible exact HW6.out | with_reducible exact HW7.out | with_reducible exact HW8.out | go_keep) (first
    | (go_at_call 33; (with_reducible refine HV.out.mono ?_); rintro e w6 ⟨nA, nc, sA, sc, rfl, M6, bel, hk⟩; have HW6 := Lib.hid (HS.out w6 (fun i a _ b c => hk i a b c)); have HW7 := Lib.hid (HS.out w6.drew (fun i a _ b c => hk i a b c)); have HM := Lib.hid M6; have P6 := HP.out.below bel (Nat.lt_succ_self _); have B6 := Lib.hid (HB.out.trans (bel.mono (Nat.le_succ _))); obtain ⟨WX, hWX, Q, BX, MX, HX⟩ := Am.res_put (lb := ⟨#[]⟩) (nm := vn) (wr := vw) P6 B6.out HM.out; have HW8 := Lib.hid (HS.out WX (fun i a d b c => (HX i d).trans (hk i a b c))); rw [hWX] at HW8; have HQ := Lib.hid Q; have HBX := Lib.hid BX; have HMX := Lib.hid MX; clear Q BX MX HX; obtain ⟨b0, b1, b2, b3, b4, f0, f1, f2, f3, f4⟩ := Am.box5c P6; clear P6 M6 bel hk))
  go_wp2
  rw [← hWX]
  clear hWX
  obtain ⟨q0, q1, q2, q3, q4, _⟩ := Am.box5c HQ.out
  refine bodyPost_ret (v := .agg #[.string ⟨#[]⟩, .slice nA 3 nc, .slice sA 3 sc, .string vn, .bool vw]) (by simp [results, Tryd.results35, go_sem, q0, q1, q2, q3, q4]) rfl ⟨HBX.out, ⟨[], Am.vNm word.data.toList, [14, x, Am.vN word.data.toList], [1, 1, 2]⟩, ((nA, nc), (sA, sc)), vw, by rw [HVN.out]; rfl, HMX.out, ?_⟩
  rw [HI.out]
  exact HLI.out
set_option maxRecDepth 20000 in
set_option maxHeartbeats 1600000 in
theorem Am.instr_g14n (A : Option Addr) (k : Nat) (L : List (List UInt8)) (hn : 3 = L.length) (hnm : Am.isName (L.getD 2 []) = false) (hx : Am.regZ (L.getD 1 []) < 0) (hsz : ∀ x ∈ L, x.length ≤ 100000) (w : World) (hrow : RowZ 1 w (.slice A 3 k) L.length (Am.strs L)) : Calls Tryd.prog 35 #[.int .i64 14, .slice A 3 k] w (Am.LnP w (Am.ins 14 L.tail)) := by
  obtain ⟨g, off, rfl, hg, hcw⟩ := Am.word_at hrow (by omega)
  obtain ⟨word, hword⟩ : ∃ word : ByteArray, word = ⟨(L.getD 2 []).toArray⟩ := ⟨_, rfl⟩
  have cw := hcw 2 (by omega)
  rw [← hword] at cw
  have hwl : word.data.toList = L.getD 2 [] := by rw [hword]
  have hws : word.size ≤ 100000 := by
    have h1 := hsz (L.getD 2 []) (by
      have : 2 < L.length := by omega
      simp [List.getD, this])
    rw [← hwl, Am.len] at h1
    exact h1
  obtain ⟨wd1, hwd1⟩ : ∃ wd1 : ByteArray, wd1 = ⟨(L.getD 1 []).toArray⟩ := ⟨_, rfl⟩
  have cw1 := hcw 1 (by omega)
  rw [← hwd1] at cw1
  have hw1 : wd1.data.toList = L.getD 1 [] := by rw [hwd1]
  have hws1 : wd1.size ≤ 100000 := by
    have h1 := hsz (L.getD 1 []) (by
      have : 1 < L.length := by omega
      simp [List.getD, this])
    rw [← hw1, Am.len] at h1
    exact h1
  have HI := Lib.hid (show Am.ins 14 L.tail = (Am.reg wd1.data.toList).bind fun x => (Am.val word.data.toList).map fun v => (Am.pt 14 x v.1, v.2) from by
    have t0 : L.tail.getD 0 [] = L.getD 1 [] := by cases L <;> rfl
    have t1 : L.tail.getD 1 [] = L.getD 2 [] := by cases L <;> rfl
    unfold Am.ins
    rw [if_neg (by decide), if_neg (by decide), if_pos (by rw [List.length_tail]; omega), hwl, hw1, t0, t1]
    congr 1
    funext x
    rw [if_pos rfl]
    unfold Am.val
    rw [hnm]
    simp only [Bool.false_eq_true, if_false, Option.map_map]
    rfl)
  have HLT := Lib.hid (fun W => by have h := Am.rletters_any word hws W; rw [hwl, hnm] at h; exact h)
  have HLI := Lib.hid (Am.reg_lin 14 wd1.data.toList word.data.toList)
  rw [← hw1] at hx
  have HRG := Lib.hid (Am.rregister_any wd1 hws1)
  generalize Am.regZ wd1.data.toList = x at *
  obtain ⟨W0, hW0, P1, P2, P3, P4, G4, z4⟩ := Am.ins_nums w 14
  have b4 : Below w.heap.size w W0 := below_of_only G4 (Nat.le_refl _) (by simp)
  have cw10 : W0.cell? ⟨g, off + 1, none⟩ = some (.string wd1) := (b4.cell (p := ⟨g, off + 1, none⟩) hg).trans cw1
  obtain ⟨m0, m1, m2, m3, m4, mf0, mf1, mf2, mf3, mf4⟩ := Am.box5c P2
  have nf1 := P3.free 1
  have nc1 := P3.cell 1
  simp at nc1
  obtain ⟨W4, hW4⟩ : ∃ W4, W4 = (W0.setCell ⟨w.heap.size + 1, 1, none⟩ (.int .i64 x)).setCell ⟨w.heap.size + 1 + 1 + 1, 4, none⟩ (.bool true) := ⟨_, rfl⟩
  replace P1 : Blk W4 w.heap.size 35 #[.string ⟨#[]⟩, .slice none 0 0, .slice none 0 0, .string ⟨#[]⟩, .bool false] := by
    rw [hW4]
    exact (P1.far (p := ⟨w.heap.size + 1, 1, none⟩) (show w.heap.size ≠ w.heap.size + 1 by omega) _).far (p := ⟨w.heap.size + 1 + 1 + 1, 4, none⟩) (show w.heap.size ≠ w.heap.size + 1 + 1 + 1 by omega) _
  replace P2 : Blk W4 (w.heap.size + 1 + 1 + 1) 35 #[.string ⟨#[]⟩, .slice (some ⟨w.heap.size + 1, 0, none⟩) 2 2, .slice (some ⟨w.heap.size + 1 + 1, 0, none⟩) 2 2, .string ⟨#[]⟩, .bool true] := by
    rw [hW4]
    have := (P2.far (p := ⟨w.heap.size + 1, 1, none⟩) (show w.heap.size + 1 + 1 + 1 ≠ w.heap.size + 1 by omega) (.int .i64 x)).put 4 (.bool true)
    simpa using this
  replace P3 : Blk W4 (w.heap.size + 1) 3 #[.int .i64 14, .int .i64 x] := by
    rw [hW4]
    have := (P3.put 1 (.int .i64 x)).far (p := ⟨w.heap.size + 1 + 1 + 1, 4, none⟩) (show w.heap.size + 1 ≠ w.heap.size + 1 + 1 + 1 by omega) (.bool true)
    simpa using this
  replace P4 : Blk W4 (w.heap.size + 1 + 1) 3 #[.int .i64 1, .int .i64 1] := by
    rw [hW4]
    exact (P4.far (p := ⟨w.heap.size + 1, 1, none⟩) (show w.heap.size + 1 + 1 ≠ w.heap.size + 1 by omega) _).far (p := ⟨w.heap.size + 1 + 1 + 1, 4, none⟩) (show w.heap.size + 1 + 1 ≠ w.heap.size + 1 + 1 + 1 by omega) _
  replace b4 : Below w.heap.size w W4 := by
    rw [hW4]
    exact (b4.setCell (p := ⟨w.heap.size + 1, 1, none⟩) (show w.heap.size ≤ w.heap.size + 1 by omega) _).setCell (p := ⟨w.heap.size + 1 + 1 + 1, 4, none⟩) (show w.heap.size ≤ w.heap.size + 1 + 1 + 1 by omega) _
  replace z4 : W4.heap.size = w.heap.size + 1 + 1 + 1 + 1 := by rw [hW4]; simp [z4]
  have hv := Am.rvalue_any ⟨#[]⟩ ⟨#[]⟩ word hws true (w.heap.size + 1) _ _ 2 2 [14, x] [1, 1] W4.drew (Am.ins_lnm1 (show Blk W4.drew _ _ _ from P3) (show Blk W4.drew _ _ _ from P4)) (show w.heap.size + 1 ≤ W4.heap.size by omega) (by simp) (by simp)
  rw [Am.vNm_str] at hv
  have HV := Lib.hid (show Calls Tryd.prog 33 #[.agg #[.string ⟨#[]⟩, .slice (some ⟨w.heap.size + 1, 0, none⟩) 2 2, .slice (some ⟨w.heap.size + 1 + 1, 0, none⟩) 2 2, .string ⟨#[]⟩, .bool true], .string word] W4.drew fun e w' => ∃ A c A2 c2, e = .returned (.agg #[.string ⟨#[]⟩, .slice A 3 c, .slice A2 3 c2, .string ⟨(Am.vNm word.data.toList).toArray⟩, .bool (true || Am.vW word.data.toList)]) ∧ Am.LnM w' (w.heap.size + 1) (.slice A 3 c) (.slice A2 3 c2) [14, x, Am.vN word.data.toList] [1, 1, 2] ∧ Below (w.heap.size + 1) W4 w' ∧ ∀ i, i < W4.heap.size → i ≠ w.heap.size + 1 → i ≠ w.heap.size + 1 + 1 → w'.heap[i]? = W4.heap[i]? from hv.mono fun e w' h => by
    obtain ⟨A, c, A2, c2, he, m, b, kk⟩ := h
    exact ⟨A, c, A2, c2, he, m, (show Below (w.heap.size + 1) W4 W4.drew from below_drewN (Below.refl _ _) 1).trans b, fun i hi h1 h2 => kk i hi (by simp [Value.ownBlock]; omega) (by simp [Value.ownBlock]; omega)⟩)
  obtain ⟨vn, hvn⟩ : ∃ vn : ByteArray, vn = ⟨(Am.vNm word.data.toList).toArray⟩ := ⟨_, rfl⟩
  rw [← hvn] at HV
  have HVN := Lib.hid hvn
  have HDX := Lib.hid (show decide (x < 0) = true from by simpa using hx)
  rw [show decide (x < 0) = true from by simpa using hx] at HLI
  obtain ⟨vw, hvw⟩ : ∃ vw, vw = (true || Am.vW word.data.toList) := ⟨_, rfl⟩
  rw [← hvw] at HV HLI
  clear hvw
  have cw4 : W4.cell? ⟨g, off + 2, none⟩ = some (.string word) := (b4.cell (p := ⟨g, off + 2, none⟩) hg).trans cw
  have HG := Lib.hid (show g < w.heap.size from hg)
  obtain ⟨a0, a1, a2, a3, a4, g0, g1, g2, g3, g4⟩ := Am.box5c P1
  obtain ⟨e0, e1, e2, e3, e4, _⟩ := Am.box5c P2
  have HP := Lib.hid P1
  have HP2 := Lib.hid P2
  have HB := Lib.hid b4
  have HZ := Lib.hid z4
  have HS : Hid (∀ W : World, (∀ i, i < W4.heap.size → i ≠ w.heap.size → i ≠ w.heap.size + 1 → i ≠ w.heap.size + 1 + 1 → W.heap[i]? = W4.heap[i]?) → W.cell? ⟨w.heap.size + 1 + 1 + 1, 0, none⟩ = some (.string ⟨#[]⟩) ∧ W.cell? ⟨w.heap.size + 1 + 1 + 1, 1, none⟩ = some (.slice (some ⟨w.heap.size + 1, 0, none⟩) 2 2) ∧ W.cell? ⟨w.heap.size + 1 + 1 + 1, 2, none⟩ = some (.slice (some ⟨w.heap.size + 1 + 1, 0, none⟩) 2 2) ∧ W.cell? ⟨w.heap.size + 1 + 1 + 1, 3, none⟩ = some (.string ⟨#[]⟩) ∧ W.cell? ⟨w.heap.size + 1 + 1 + 1, 4, none⟩ = some (.bool true) ∧ W.cell? ⟨g, off + 2, none⟩ = some (.string word)) := Lib.hid fun W h => by
    have P : Blk W (w.heap.size + 1 + 1 + 1) 35 #[.string ⟨#[]⟩, .slice (some ⟨w.heap.size + 1, 0, none⟩) 2 2, .slice (some ⟨w.heap.size + 1 + 1, 0, none⟩) 2 2, .string ⟨#[]⟩, .bool true] := (h _ (by omega) (by omega) (by omega) (by omega)).trans P2
    refine ⟨P.cell 0, P.cell 1, P.cell 2, P.cell 3, P.cell 4, ?_⟩
    have hg4 := h g (by omega) (by omega) (by omega) (by omega)
    rw [← cw4]
    unfold World.cell?
    simp only [hg4]
  clear P1 P2 P3 P4 G4 z4 b4 hn hv hwl hws hword hcw hrow hsz cw hg hvn hwd1 cw1 hw1 hws1
  go_enter Tryd.func35, Tryd.ntmps35
  go_upto_region 2 with (fail)
  rw [← hW0]
  clear hW0
  go_upto_region 16 with (go_at_call 50; (with_reducible refine (HRG.out _).mono ?_); rintro e w2 ⟨rfl, rfl⟩)
  (try rw [HDX.out])
  rw [← hW4]
  clear hW4 hx
  have HD0 := Lib.hid (HS.out W4 (fun i _ _ _ _ => rfl))
  have HD1 := Lib.hid (HS.out W4.drew (fun i _ _ _ _ => rfl))
  go_upto_region 24 with (go_at_call 31; (with_reducible refine (HLT.out _).mono ?_); rintro e w2 ⟨rfl, rfl⟩)
  go_region_held3 (fun W => W.cell? ⟨w.heap.size + 1 + 1 + 1, 0, none⟩ = some (.string ⟨#[]⟩) ∧ W.cell? ⟨w.heap.size + 1 + 1 + 1, 1, none⟩ = some (.slice (some ⟨w.heap.size + 1, 0, none⟩) 2 2) ∧ W.cell? ⟨w.heap.size + 1 + 1 + 1, 2, none⟩ = some (.slice (some ⟨w.heap.size + 1 + 1, 0, none⟩) 2 2) ∧ W.cell? ⟨w.heap.size + 1 + 1 + 1, 3, none⟩ = some (.string ⟨#[]⟩) ∧ W.cell? ⟨w.heap.size + 1 + 1 + 1, 4, none⟩ = some (.bool true) ∧ W.cell? ⟨g, off + 2, none⟩ = some (.string word)) (first | with_reducible exact HD0.out | with_reducible exact HD1.out | with_reducible exact HW6.out | with_reducible exact HW7.out | with_reducible exact HW8.out | go_keep) (first
    | (go_at_call 33; (with_reducible refine HV.out.mono ?_); rintro e w6 ⟨nA, nc, sA, sc, rfl, M6, bel, hk⟩; have HW6 := Lib.hid (HS.out w6 (fun i a _ b c => hk i a b c)); have HW7 := Lib.hid (HS.out w6.drew (fun i a _ b c => hk i a b c)); have HM := Lib.hid M6; have P6 := HP.out.below bel (Nat.lt_succ_self _); have B6 := Lib.hid (HB.out.trans (bel.mono (Nat.le_succ _))); obtain ⟨WX, hWX, Q, BX, MX, HX⟩ := Am.res_put (lb := ⟨#[]⟩) (nm := vn) (wr := vw) P6 B6.out HM.out; have HW8 := Lib.hid (HS.out WX (fun i a d b c => (HX i d).trans (hk i a b c))); rw [hWX] at HW8; have HQ := Lib.hid Q; have HBX := Lib.hid BX; have HMX := Lib.hid MX; clear Q BX MX HX; obtain ⟨b0, b1, b2, b3, b4, f0, f1, f2, f3, f4⟩ := Am.box5c P6; clear P6 M6 bel hk))
  go_wp2
  rw [← hWX]
  clear hWX
  obtain ⟨q0, q1, q2, q3, q4, _⟩ := Am.box5c HQ.out
  refine bodyPost_ret (v := .agg #[.string ⟨#[]⟩, .slice nA 3 nc, .slice sA 3 sc, .string vn, .bool vw]) (by simp [results, Tryd.results35, go_sem, q0, q1, q2, q3, q4]) rfl ⟨HBX.out, ⟨[], Am.vNm word.data.toList, [14, x, Am.vN word.data.toList], [1, 1, 2]⟩, ((nA, nc), (sA, sc)), vw, by rw [HVN.out]; rfl, HMX.out, ?_⟩
  rw [HI.out]
  exact HLI.out
end Go.Proofs.YtldbhcbmcogmfaaDoor
