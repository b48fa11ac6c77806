import Derived.Test.YtldbhcbmcogmfaaDoorZ10
import Derived.Test.YtldbhcbmcogmfaaDoorZ11
set_option linter.all false
/- The document's line of an instruction with a register and a value. -/
namespace Go.Proofs.YtldbhcbmcogmfaaDoor
open Go.RowKit Go.Lib
set_option linter.unusedVariables false
set_option maxRecDepth 8000

theorem Am.name_num {wd : List UInt8} {m : Nat} (h : Am.isName wd = true) : Am.num wd m = none := by
  rw [Am.isName_eq] at h
  simp only [Bool.and_eq_true, decide_eq_true_eq] at h
  obtain ⟨h1, _, h3⟩ := h
  cases wd with
  | nil => simp at h1
  | cons c r =>
    simp only [List.all_cons, Bool.and_eq_true] at h3
    have hc : 97 ≤ c.toNat := by have := h3.1; unfold Am.isL at this; simp at this; exact this.1
    unfold Am.num
    split
    · rfl
    · unfold Am.dec
      rw [if_pos (Or.inr (by omega))]
set_option maxRecDepth 20000 in
set_option maxHeartbeats 1600000 in
theorem Am.instr_w14p (A : Option Addr) (k : Nat) (L : List (List UInt8)) (hn : 3 = L.length) (hnm : Am.isName (L.getD 2 []) = true) (hx : ¬ Am.regZ (L.getD 1 []) < 0) (hsz : ∀ x ∈ L, x.length ≤ 100000) (w : World) (hrow : RowZ 1 w (.slice A 3 k) L.length (Am.strs L)) : Calls Tryd.prog 35 #[.int .i64 14, .slice A 3 k] w (Am.LnP w (Am.ins 14 L.tail)) := by
  obtain ⟨g, off, rfl, hg, hcw⟩ := Am.word_at hrow (by omega)
  obtain ⟨word, hword⟩ : ∃ word : ByteArray, word = ⟨(L.getD 2 []).toArray⟩ := ⟨_, rfl⟩
  have cw := hcw 2 (by omega)
  rw [← hword] at cw
  have hwl : word.data.toList = L.getD 2 [] := by rw [hword]
  have hws : word.size ≤ 100000 := by
    have h1 := hsz (L.getD 2 []) (by
      have : 2 < L.length := by omega
      simp [List.getD, this])
    rw [← hwl, Am.len] at h1
    exact h1
  obtain ⟨wd1, hwd1⟩ : ∃ wd1 : ByteArray, wd1 = ⟨(L.getD 1 []).toArray⟩ := ⟨_, rfl⟩
  have cw1 := hcw 1 (by omega)
  rw [← hwd1] at cw1
  have hw1 : wd1.data.toList = L.getD 1 [] := by rw [hwd1]
  have hws1 : wd1.size ≤ 100000 := by
    have h1 := hsz (L.getD 1 []) (by
      have : 1 < L.length := by omega
      simp [List.getD, this])
    rw [← hw1, Am.len] at h1
    exact h1
  have HI := Lib.hid (show Am.ins 14 L.tail = none from by
    have t0 : L.tail.getD 0 [] = L.getD 1 [] := by cases L <;> rfl
    have t1 : L.tail.getD 1 [] = L.getD 2 [] := by cases L <;> rfl
    unfold Am.ins
    rw [if_neg (by decide), if_neg (by decide), if_pos (by rw [List.length_tail]; omega), t0, t1, Am.name_num hnm]
    cases Am.reg (L.getD 1 []) <;> rfl)
  have HLT := Lib.hid (fun W => by have h := Am.rletters_any word hws W; rw [hwl, hnm] at h; exact h)
  have HLI := Lib.hid (Am.reg_lin 14 wd1.data.toList word.data.toList)
  rw [← hw1] at hx
  have HRG := Lib.hid (Am.rregister_any wd1 hws1)
  generalize Am.regZ wd1.data.toList = x at *
  obtain ⟨W0, hW0, P1, P2, P3, P4, G4, z4⟩ := Am.ins_nums w 14
  have b4 : Below w.heap.size w W0 := below_of_only G4 (Nat.le_refl _) (by simp)
  have cw10 : W0.cell? ⟨g, off + 1, none⟩ = some (.string wd1) := (b4.cell (p := ⟨g, off + 1, none⟩) hg).trans cw1
  obtain ⟨m0, m1, m2, m3, m4, mf0, mf1, mf2, mf3, mf4⟩ := Am.box5c P2
  have nf1 := P3.free 1
  have nc1 := P3.cell 1
  simp at nc1
  obtain ⟨W4, hW4⟩ : ∃ W4, W4 = (W0.setCell ⟨w.heap.size + 1, 1, none⟩ (.int .i64 x)).setCell ⟨w.heap.size + 1 + 1 + 1, 4, none⟩ (.bool false) := ⟨_, rfl⟩
  replace P1 : Blk W4 w.heap.size 35 #[.string ⟨#[]⟩, .slice none 0 0, .slice none 0 0, .string ⟨#[]⟩, .bool false] := by
    rw [hW4]
    exact (P1.far (p := ⟨w.heap.size + 1, 1, none⟩) (show w.heap.size ≠ w.heap.size + 1 by omega) _).far (p := ⟨w.heap.size + 1 + 1 + 1, 4, none⟩) (show w.heap.size ≠ w.heap.size + 1 + 1 + 1 by omega) _
  replace P2 : Blk W4 (w.heap.size + 1 + 1 + 1) 35 #[.string ⟨#[]⟩, .slice (some ⟨w.heap.size + 1, 0, none⟩) 2 2, .slice (some ⟨w.heap.size + 1 + 1, 0, none⟩) 2 2, .string ⟨#[]⟩, .bool false] := by
    rw [hW4]
    have := (P2.far (p := ⟨w.heap.size + 1, 1, none⟩) (show w.heap.size + 1 + 1 + 1 ≠ w.heap.size + 1 by omega) (.int .i64 x)).put 4 (.bool false)
    simpa using this
  replace P3 : Blk W4 (w.heap.size + 1) 3 #[.int .i64 14, .int .i64 x] := by
    rw [hW4]
    have := (P3.put 1 (.int .i64 x)).far (p := ⟨w.heap.size + 1 + 1 + 1, 4, none⟩) (show w.heap.size + 1 ≠ w.heap.size + 1 + 1 + 1 by omega) (.bool false)
    simpa using this
  replace P4 : Blk W4 (w.heap.size + 1 + 1) 3 #[.int .i64 1, .int .i64 1] := by
    rw [hW4]
    exact (P4.far (p := ⟨w.heap.size + 1, 1, none⟩) (show w.heap.size + 1 + 1 ≠ w.heap.size + 1 by omega) _).far (p := ⟨w.heap.size + 1 + 1 + 1, 4, none⟩) (show w.heap.size + 1 + 1 ≠ w.heap.size + 1 + 1 + 1 by omega) _
  replace b4 : Below w.heap.size w W4 := by
    rw [hW4]
    exact (b4.setCell (p := ⟨w.heap.size + 1, 1, none⟩) (show w.heap.size ≤ w.heap.size + 1 by omega) _).setCell (p := ⟨w.heap.size + 1 + 1 + 1, 4, none⟩) (show w.heap.size ≤ w.heap.size + 1 + 1 + 1 by omega) _
  replace z4 : W4.heap.size = w.heap.size + 1 + 1 + 1 + 1 := by rw [hW4]; simp [z4]
  have hv := Am.rvalue_any ⟨#[]⟩ ⟨#[]⟩ word hws false (w.heap.size + 1) _ _ 2 2 [14, x] [1, 1] W4.drew (Am.ins_lnm1 (show Blk W4.drew _ _ _ from P3) (show Blk W4.drew _ _ _ from P4)) (show w.heap.size + 1 ≤ W4.heap.size by omega) (by simp) (by simp)
  rw [Am.vNm_str] at hv
  have HV := Lib.hid (show Calls Tryd.prog 33 #[.agg #[.string ⟨#[]⟩, .slice (some ⟨w.heap.size + 1, 0, none⟩) 2 2, .slice (some ⟨w.heap.size + 1 + 1, 0, none⟩) 2 2, .string ⟨#[]⟩, .bool false], .string word] W4.drew fun e w' => ∃ A c A2 c2, e = .returned (.agg #[.string ⟨#[]⟩, .slice A 3 c, .slice A2 3 c2, .string ⟨(Am.vNm word.data.toList).toArray⟩, .bool (false || Am.vW word.data.toList)]) ∧ Am.LnM w' (w.heap.size + 1) (.slice A 3 c) (.slice A2 3 c2) [14, x, Am.vN word.data.toList] [1, 1, 2] ∧ Below (w.heap.size + 1) W4 w' ∧ ∀ i, i < W4.heap.size → i ≠ w.heap.size + 1 → i ≠ w.heap.size + 1 + 1 → w'.heap[i]? = W4.heap[i]? from hv.mono fun e w' h => by
    obtain ⟨A, c, A2, c2, he, m, b, kk⟩ := h
    exact ⟨A, c, A2, c2, he, m, (show Below (w.heap.size + 1) W4 W4.drew from below_drewN (Below.refl _ _) 1).trans b, fun i hi h1 h2 => kk i hi (by simp [Value.ownBlock]; omega) (by simp [Value.ownBlock]; omega)⟩)
  obtain ⟨vn, hvn⟩ : ∃ vn : ByteArray, vn = ⟨(Am.vNm word.data.toList).toArray⟩ := ⟨_, rfl⟩
  rw [← hvn] at HV
  have HVN := Lib.hid hvn
  have HDX := Lib.hid (show decide (x < 0) = false from by simpa using hx)
  rw [show decide (x < 0) = false from by simpa using hx] at HLI
  obtain ⟨vw, hvw⟩ : ∃ vw, vw = (false || Am.vW word.data.toList) := ⟨_, rfl⟩
  rw [← hvw] at HV HLI
  clear hvw
  have cw4 : W4.cell? ⟨g, off + 2, none⟩ = some (.string word) := (b4.cell (p := ⟨g, off + 2, none⟩) hg).trans cw
  have HG := Lib.hid (show g < w.heap.size from hg)
  obtain ⟨a0, a1, a2, a3, a4, g0, g1, g2, g3, g4⟩ := Am.box5c P1
  obtain ⟨e0, e1, e2, e3, e4, _⟩ := Am.box5c P2
  have HP := Lib.hid P1
  have HP2 := Lib.hid P2
  have HB := Lib.hid b4
  have HZ := Lib.hid z4
  obtain ⟨WX, hWX, Q, bX⟩ := Am.wrong_put P1 b4
  have HQ := Lib.hid Q
  have BX := Lib.hid bX
  clear Q bX
  have HS : Hid (∀ W : World, (∀ i, i < W4.heap.size → i ≠ w.heap.size → i ≠ w.heap.size + 1 → i ≠ w.heap.size + 1 + 1 → W.heap[i]? = W4.heap[i]?) → W.cell? ⟨w.heap.size + 1 + 1 + 1, 0, none⟩ = some (.string ⟨#[]⟩) ∧ W.cell? ⟨w.heap.size + 1 + 1 + 1, 1, none⟩ = some (.slice (some ⟨w.heap.size + 1, 0, none⟩) 2 2) ∧ W.cell? ⟨w.heap.size + 1 + 1 + 1, 2, none⟩ = some (.slice (some ⟨w.heap.size + 1 + 1, 0, none⟩) 2 2) ∧ W.cell? ⟨w.heap.size + 1 + 1 + 1, 3, none⟩ = some (.string ⟨#[]⟩) ∧ W.cell? ⟨w.heap.size + 1 + 1 + 1, 4, none⟩ = some (.bool false) ∧ W.cell? ⟨g, off + 2, none⟩ = some (.string word)) := Lib.hid fun W h => by
    have P : Blk W (w.heap.size + 1 + 1 + 1) 35 #[.string ⟨#[]⟩, .slice (some ⟨w.heap.size + 1, 0, none⟩) 2 2, .slice (some ⟨w.heap.size + 1 + 1, 0, none⟩) 2 2, .string ⟨#[]⟩, .bool false] := (h _ (by omega) (by omega) (by omega) (by omega)).trans P2
    refine ⟨P.cell 0, P.cell 1, P.cell 2, P.cell 3, P.cell 4, ?_⟩
    have hg4 := h g (by omega) (by omega) (by omega) (by omega)
    rw [← cw4]
    unfold World.cell?
    simp only [hg4]
  clear P1 P2 P3 P4 G4 z4 b4 hn hv hwl hws hword hcw hrow hsz cw hg hvn hwd1 cw1 hw1 hws1
  go_enter Tryd.func35, Tryd.ntmps35
  go_upto_region 2 with (fail)
  rw [← hW0]
  clear hW0
  go_upto_region 16 with (go_at_call 50; (with_reducible refine (HRG.out _).mono ?_); rintro e w2 ⟨rfl, rfl⟩)
  (try rw [HDX.out])
  rw [← hW4]
  clear hW4 hx
  go_wp2_with (go_at_call 31; (with_reducible refine (HLT.out _).mono ?_); rintro e w2 ⟨rfl, rfl⟩)
  rw [← hWX]
  clear hWX
  obtain ⟨q0, q1, q2, q3, q4, _⟩ := Am.box5c HQ.out
  exact bodyPost_ret (v := .agg #[.string ⟨#[]⟩, .slice none 0 0, .slice none 0 0, .string ⟨#[]⟩, .bool true]) (by simp [results, Tryd.results35, go_sem, q0, q1, q2, q3, q4]) rfl (Am.LnP.wrong HI.out BX.out)
set_option maxRecDepth 20000 in
set_option maxHeartbeats 1600000 in
theorem Am.instr_w14n (A : Option Addr) (k : Nat) (L : List (List UInt8)) (hn : 3 = L.length) (hnm : Am.isName (L.getD 2 []) = true) (hx : Am.regZ (L.getD 1 []) < 0) (hsz : ∀ x ∈ L, x.length ≤ 100000) (w : World) (hrow : RowZ 1 w (.slice A 3 k) L.length (Am.strs L)) : Calls Tryd.prog 35 #[.int .i64 14, .slice A 3 k] w (Am.LnP w (Am.ins 14 L.tail)) := by
  obtain ⟨g, off, rfl, hg, hcw⟩ := Am.word_at hrow (by omega)
  obtain ⟨word, hword⟩ : ∃ word : ByteArray, word = ⟨(L.getD 2 []).toArray⟩ := ⟨_, rfl⟩
  have cw := hcw 2 (by omega)
  rw [← hword] at cw
  have hwl : word.data.toList = L.getD 2 [] := by rw [hword]
  have hws : word.size ≤ 100000 := by
    have h1 := hsz (L.getD 2 []) (by
      have : 2 < L.length := by omega
      simp [List.getD, this])
    rw [← hwl, Am.len] at h1
    exact h1
  obtain ⟨wd1, hwd1⟩ : ∃ wd1 : ByteArray, wd1 = ⟨(L.getD 1 []).toArray⟩ := ⟨_, rfl⟩
  have cw1 := hcw 1 (by omega)
  rw [← hwd1] at cw1
  have hw1 : wd1.data.toList = L.getD 1 [] := by rw [hwd1]
  have hws1 : wd1.size ≤ 100000 := by
    have h1 := hsz (L.getD 1 []) (by
      have : 1 < L.length := by omega
      simp [List.getD, this])
    rw [← hw1, Am.len] at h1
    exact h1
  have HI := Lib.hid (show Am.ins 14 L.tail = none from by
    have t0 : L.tail.getD 0 [] = L.getD 1 [] := by cases L <;> rfl
    have t1 : L.tail.getD 1 [] = L.getD 2 [] := by cases L <;> rfl
    unfold Am.ins
    rw [if_neg (by decide), if_neg (by decide), if_pos (by rw [List.length_tail]; omega), t0, t1, Am.name_num hnm]
    cases Am.reg (L.getD 1 []) <;> rfl)
  have HLT := Lib.hid (fun W => by have h := Am.rletters_any word hws W; rw [hwl, hnm] at h; exact h)
  have HLI := Lib.hid (Am.reg_lin 14 wd1.data.toList word.data.toList)
  rw [← hw1] at hx
  have HRG := Lib.hid (Am.rregister_any wd1 hws1)
  generalize Am.regZ wd1.data.toList = x at *
  obtain ⟨W0, hW0, P1, P2, P3, P4, G4, z4⟩ := Am.ins_nums w 14
  have b4 : Below w.heap.size w W0 := below_of_only G4 (Nat.le_refl _) (by simp)
  have cw10 : W0.cell? ⟨g, off + 1, none⟩ = some (.string wd1) := (b4.cell (p := ⟨g, off + 1, none⟩) hg).trans cw1
  obtain ⟨m0, m1, m2, m3, m4, mf0, mf1, mf2, mf3, mf4⟩ := Am.box5c P2
  have nf1 := P3.free 1
  have nc1 := P3.cell 1
  simp at nc1
  obtain ⟨W4, hW4⟩ : ∃ W4, W4 = (W0.setCell ⟨w.heap.size + 1, 1, none⟩ (.int .i64 x)).setCell ⟨w.heap.size + 1 + 1 + 1, 4, none⟩ (.bool true) := ⟨_, rfl⟩
  replace P1 : Blk W4 w.heap.size 35 #[.string ⟨#[]⟩, .slice none 0 0, .slice none 0 0, .string ⟨#[]⟩, .bool false] := by
    rw [hW4]
    exact (P1.far (p := ⟨w.heap.size + 1, 1, none⟩) (show w.heap.size ≠ w.heap.size + 1 by omega) _).far (p := ⟨w.heap.size + 1 + 1 + 1, 4, none⟩) (show w.heap.size ≠ w.heap.size + 1 + 1 + 1 by omega) _
  replace P2 : Blk W4 (w.heap.size + 1 + 1 + 1) 35 #[.string ⟨#[]⟩, .slice (some ⟨w.heap.size + 1, 0, none⟩) 2 2, .slice (some ⟨w.heap.size + 1 + 1, 0, none⟩) 2 2, .string ⟨#[]⟩, .bool true] := by
    rw [hW4]
    have := (P2.far (p := ⟨w.heap.size + 1, 1, none⟩) (show w.heap.size + 1 + 1 + 1 ≠ w.heap.size + 1 by omega) (.int .i64 x)).put 4 (.bool true)
    simpa using this
  replace P3 : Blk W4 (w.heap.size + 1) 3 #[.int .i64 14, .int .i64 x] := by
    rw [hW4]
    have := (P3.put 1 (.int .i64 x)).far (p := ⟨w.heap.size + 1 + 1 + 1, 4, none⟩) (show w.heap.size + 1 ≠ w.heap.size + 1 + 1 + 1 by omega) (.bool true)
    simpa using this
  replace P4 : Blk W4 (w.heap.size + 1 + 1) 3 #[.int .i64 1, .int .i64 1] := by
    rw [hW4]
    exact (P4.far (p := ⟨w.heap.size + 1, 1, none⟩) (show w.heap.size + 1 + 1 ≠ w.heap.size + 1 by omega) _).far (p := ⟨w.heap.size + 1 + 1 + 1, 4, none⟩) (show w.heap.size + 1 + 1 ≠ w.heap.size + 1 + 1 + 1 by omega) _
  replace b4 : Below w.heap.size w W4 := by
    rw [hW4]
    exact (b4.setCell (p := ⟨w.heap.size + 1, 1, none⟩) (show w.heap.size ≤ w.heap.size + 1 by omega) _).setCell (p := ⟨w.heap.size + 1 + 1 + 1, 4, none⟩) (show w.heap.size ≤ w.heap.size + 1 + 1 + 1 by omega) _
  replace z4 : W4.heap.size = w.heap.size + 1 + 1 + 1 + 1 := by rw [hW4]; simp [z4]
  have hv := Am.rvalue_any ⟨#[]⟩ ⟨#[]⟩ word hws true (w.heap.size + 1) _ _ 2 2 [14, x] [1, 1] W4.drew (Am.ins_lnm1 (show Blk W4.drew _ _ _ from P3) (show Blk W4.drew _ _ _ from P4)) (show w.heap.size + 1 ≤ W4.heap.size by omega) (by simp) (by simp)
  rw [Am.vNm_str] at hv
  have HV := Lib.hid (show Calls Tryd.prog 33 #[.agg #[.string ⟨#[]⟩, .slice (some ⟨w.heap.size + 1, 0, none⟩) 2 2, .slice (some ⟨w.heap.size + 1 + 1, 0, none⟩) 2 2, .string ⟨#[]⟩, .bool true], .string word] W4.drew fun e w' => ∃ A c A2 c2, e = .returned (.agg #[.string ⟨#[]⟩, .slice A 3 c, .slice A2 3 c2, .string ⟨(Am.vNm word.data.toList).toArray⟩, .bool (true || Am.vW word.data.toList)]) ∧ Am.LnM w' (w.heap.size + 1) (.slice A 3 c) (.slice A2 3 c2) [14, x, Am.vN word.data.toList] [1, 1, 2] ∧ Below (w.heap.size + 1) W4 w' ∧ ∀ i, i < W4.heap.size → i ≠ w.heap.size + 1 → i ≠ w.heap.size + 1 + 1 → w'.heap[i]? = W4.heap[i]? from hv.mono fun e w' h => by
    obtain ⟨A, c, A2, c2, he, m, b, kk⟩ := h
    exact ⟨A, c, A2, c2, he, m, (show Below (w.heap.size + 1) W4 W4.drew from below_drewN (Below.refl _ _) 1).trans b, fun i hi h1 h2 => kk i hi (by simp [Value.ownBlock]; omega) (by simp [Value.ownBlock]; omega)⟩)
  obtain ⟨vn, hvn⟩ : ∃ vn : ByteArray, vn = ⟨(Am.vNm word.data.toList).toArray⟩ := ⟨_, rfl⟩
  rw [← hvn] at HV
  have HVN := Lib.hid hvn
  have HDX := Lib.hid (show decide (x < 0) = true from by simpa using hx)
  rw [show decide (x < 0) = true from by simpa using hx] at HLI
  obtain ⟨vw, hvw⟩ : ∃ vw, vw = (true || Am.vW word.data.toList) := ⟨_, rfl⟩
  rw [← hvw] at HV HLI
  clear hvw
  have cw4 : W4.cell? ⟨g, off + 2, none⟩ = some (.string word) := (b4.cell (p := ⟨g, off + 2, none⟩) hg).trans cw
  have HG := Lib.hid (show g < w.heap.size from hg)
  obtain ⟨a0, a1, a2, a3, a4, g0, g1, g2, g3, g4⟩ := Am.box5c P1
  obtain ⟨e0, e1, e2, e3, e4, _⟩ := Am.box5c P2
  have HP := Lib.hid P1
  have HP2 := Lib.hid P2
  have HB := Lib.hid b4
  have HZ := Lib.hid z4
  obtain ⟨WX, hWX, Q, bX⟩ := Am.wrong_put P1 b4
  have HQ := Lib.hid Q
  have BX := Lib.hid bX
  clear Q bX
  have HS : Hid (∀ W : World, (∀ i, i < W4.heap.size → i ≠ w.heap.size → i ≠ w.heap.size + 1 → i ≠ w.heap.size + 1 + 1 → W.heap[i]? = W4.heap[i]?) → W.cell? ⟨w.heap.size + 1 + 1 + 1, 0, none⟩ = some (.string ⟨#[]⟩) ∧ W.cell? ⟨w.heap.size + 1 + 1 + 1, 1, none⟩ = some (.slice (some ⟨w.heap.size + 1, 0, none⟩) 2 2) ∧ W.cell? ⟨w.heap.size + 1 + 1 + 1, 2, none⟩ = some (.slice (some ⟨w.heap.size + 1 + 1, 0, none⟩) 2 2) ∧ W.cell? ⟨w.heap.size + 1 + 1 + 1, 3, none⟩ = some (.string ⟨#[]⟩) ∧ W.cell? ⟨w.heap.size + 1 + 1 + 1, 4, none⟩ = some (.bool true) ∧ W.cell? ⟨g, off + 2, none⟩ = some (.string word)) := Lib.hid fun W h => by
    have P : Blk W (w.heap.size + 1 + 1 + 1) 35 #[.string ⟨#[]⟩, .slice (some ⟨w.heap.size + 1, 0, none⟩) 2 2, .slice (some ⟨w.heap.size + 1 + 1, 0, none⟩) 2 2, .string ⟨#[]⟩, .bool true] := (h _ (by omega) (by omega) (by omega) (by omega)).trans P2
    refine ⟨P.cell 0, P.cell 1, P.cell 2, P.cell 3, P.cell 4, ?_⟩
    have hg4 := h g (by omega) (by omega) (by omega) (by omega)
    rw [← cw4]
    unfold World.cell?
    simp only [hg4]
  clear P1 P2 P3 P4 G4 z4 b4 hn hv hwl hws hword hcw hrow hsz cw hg hvn hwd1 cw1 hw1 hws1
  go_enter Tryd.func35, Tryd.ntmps35
  go_upto_region 2 with (fail)
  rw [← hW0]
  clear hW0
  go_upto_region 16 with (go_at_call 50; (with_reducible refine (HRG.out _).mono ?_); rintro e w2 ⟨rfl, rfl⟩)
  (try rw [HDX.out])
  rw [← hW4]
  clear hW4 hx
  go_wp2_with (go_at_call 31; (with_reducible refine (HLT.out _).mono ?_); rintro e w2 ⟨rfl, rfl⟩)
  rw [← hWX]
  clear hWX
  obtain ⟨q0, q1, q2, q3, q4, _⟩ := Am.box5c HQ.out
  exact bodyPost_ret (v := .agg #[.string ⟨#[]⟩, .slice none 0 0, .slice none 0 0, .string ⟨#[]⟩, .bool true]) (by simp [results, Tryd.results35, go_sem, q0, q1, q2, q3, q4]) rfl (Am.LnP.wrong HI.out BX.out)
end Go.Proofs.YtldbhcbmcogmfaaDoor

/- The document's line of an instruction with a register and a value. -/
namespace Go.Proofs.YtldbhcbmcogmfaaDoor
open Go.RowKit Go.Lib
set_option linter.unusedVariables false
set_option maxRecDepth 8000

theorem Am.reg2_lin (c : Nat) (w1 wd : List UInt8) : Am.Lin ((Am.reg w1).bind fun x => (Am.reg wd).map fun n => (Am.pt c x n, [])) ⟨[], [], [(c : Int), Am.regZ w1, Am.regZ wd], [1, 1, 2]⟩ (decide (Am.regZ w1 < 0) || decide (Am.regZ wd < 0)) := by
  unfold Am.regZ
  cases e : Am.reg w1 with
  | none => exact .inl ⟨rfl, rfl⟩
  | some x =>
    cases e2 : Am.reg wd with
    | none => exact .inl ⟨rfl, by simp [Am.optZ]⟩
    | some n =>
      refine .inr ⟨_, rfl, ?_, rfl, rfl, Am.fit3 _ _ _ _ _, Am.flat_pt c x n, fun hh => absurd rfl hh⟩
      have h1 : ¬ ((x : Int) < 0) := by omega
      have h2 : ¬ ((n : Int) < 0) := by omega
      simp [Am.optZ, h1, h2]
set_option maxRecDepth 20000 in
set_option maxHeartbeats 1600000 in
theorem Am.instr_rpp (c : Nat) (h2 : 2 ≤ c) (h10 : c ≤ 10) (A : Option Addr) (k : Nat) (L : List (List UInt8)) (hn : 3 = L.length) (hy : ¬ Am.regZ (L.getD 2 []) < 0) (hx : ¬ Am.regZ (L.getD 1 []) < 0) (hsz : ∀ x ∈ L, x.length ≤ 100000) (w : World) (hrow : RowZ 1 w (.slice A 3 k) L.length (Am.strs L)) : Calls Tryd.prog 35 #[.int .i64 c, .slice A 3 k] w (Am.LnP w (Am.ins c L.tail)) := by
  obtain ⟨g, off, rfl, hg, hcw⟩ := Am.word_at hrow (by omega)
  obtain ⟨word, hword⟩ : ∃ word : ByteArray, word = ⟨(L.getD 2 []).toArray⟩ := ⟨_, rfl⟩
  have cw := hcw 2 (by omega)
  rw [← hword] at cw
  have hwl : word.data.toList = L.getD 2 [] := by rw [hword]
  have hws : word.size ≤ 100000 := by
    have h1 := hsz (L.getD 2 []) (by
      have : 2 < L.length := by omega
      simp [List.getD, this])
    rw [← hwl, Am.len] at h1
    exact h1
  obtain ⟨wd1, hwd1⟩ : ∃ wd1 : ByteArray, wd1 = ⟨(L.getD 1 []).toArray⟩ := ⟨_, rfl⟩
  have cw1 := hcw 1 (by omega)
  rw [← hwd1] at cw1
  have hw1 : wd1.data.toList = L.getD 1 [] := by rw [hwd1]
  have hws1 : wd1.size ≤ 100000 := by
    have h1 := hsz (L.getD 1 []) (by
      have : 1 < L.length := by omega
      simp [List.getD, this])
    rw [← hw1, Am.len] at h1
    exact h1
  have HI := Lib.hid (show Am.ins c L.tail = (Am.reg wd1.data.toList).bind fun x => (Am.reg word.data.toList).map fun n => (Am.pt c x n, []) from by
    have t0 : L.tail.getD 0 [] = L.getD 1 [] := by cases L <;> rfl
    have t1 : L.tail.getD 1 [] = L.getD 2 [] := by cases L <;> rfl
    unfold Am.ins
    rw [if_neg (by omega), if_neg (by omega), if_pos (by rw [List.length_tail]; omega), hwl, hw1, t0, t1]
    congr 1
    funext x
    rw [if_neg (by omega), if_pos (by unfold rgB; simp; omega)])
  have HLI := Lib.hid (Am.reg2_lin c wd1.data.toList word.data.toList)
  rw [← hwl] at hy
  have HRG2 := Lib.hid (Am.rregister_any word hws)
  generalize Am.regZ word.data.toList = y at *
  rw [← hw1] at hx
  have HRG := Lib.hid (Am.rregister_any wd1 hws1)
  generalize Am.regZ wd1.data.toList = x at *
  obtain ⟨W0, hW0, P1, P2, P3, P4, G4, z4⟩ := Am.ins_nums w c
  have b4 : Below w.heap.size w W0 := below_of_only G4 (Nat.le_refl _) (by simp)
  have cw10 : W0.cell? ⟨g, off + 1, none⟩ = some (.string wd1) := (b4.cell (p := ⟨g, off + 1, none⟩) hg).trans cw1
  obtain ⟨m0, m1, m2, m3, m4, mf0, mf1, mf2, mf3, mf4⟩ := Am.box5c P2
  have nf1 := P3.free 1
  have nc1 := P3.cell 1
  simp at nc1
  obtain ⟨W4, hW4⟩ : ∃ W4, W4 = (W0.setCell ⟨w.heap.size + 1, 1, none⟩ (.int .i64 x)).setCell ⟨w.heap.size + 1 + 1 + 1, 4, none⟩ (.bool false) := ⟨_, rfl⟩
  replace P1 : Blk W4 w.heap.size 35 #[.string ⟨#[]⟩, .slice none 0 0, .slice none 0 0, .string ⟨#[]⟩, .bool false] := by
    rw [hW4]
    exact (P1.far (p := ⟨w.heap.size + 1, 1, none⟩) (show w.heap.size ≠ w.heap.size + 1 by omega) _).far (p := ⟨w.heap.size + 1 + 1 + 1, 4, none⟩) (show w.heap.size ≠ w.heap.size + 1 + 1 + 1 by omega) _
  replace P2 : Blk W4 (w.heap.size + 1 + 1 + 1) 35 #[.string ⟨#[]⟩, .slice (some ⟨w.heap.size + 1, 0, none⟩) 2 2, .slice (some ⟨w.heap.size + 1 + 1, 0, none⟩) 2 2, .string ⟨#[]⟩, .bool false] := by
    rw [hW4]
    have := (P2.far (p := ⟨w.heap.size + 1, 1, none⟩) (show w.heap.size + 1 + 1 + 1 ≠ w.heap.size + 1 by omega) (.int .i64 x)).put 4 (.bool false)
    simpa using this
  replace P3 : Blk W4 (w.heap.size + 1) 3 #[.int .i64 c, .int .i64 x] := by
    rw [hW4]
    have := (P3.put 1 (.int .i64 x)).far (p := ⟨w.heap.size + 1 + 1 + 1, 4, none⟩) (show w.heap.size + 1 ≠ w.heap.size + 1 + 1 + 1 by omega) (.bool false)
    simpa using this
  replace P4 : Blk W4 (w.heap.size + 1 + 1) 3 #[.int .i64 1, .int .i64 1] := by
    rw [hW4]
    exact (P4.far (p := ⟨w.heap.size + 1, 1, none⟩) (show w.heap.size + 1 + 1 ≠ w.heap.size + 1 by omega) _).far (p := ⟨w.heap.size + 1 + 1 + 1, 4, none⟩) (show w.heap.size + 1 + 1 ≠ w.heap.size + 1 + 1 + 1 by omega) _
  replace b4 : Below w.heap.size w W4 := by
    rw [hW4]
    exact (b4.setCell (p := ⟨w.heap.size + 1, 1, none⟩) (show w.heap.size ≤ w.heap.size + 1 by omega) _).setCell (p := ⟨w.heap.size + 1 + 1 + 1, 4, none⟩) (show w.heap.size ≤ w.heap.size + 1 + 1 + 1 by omega) _
  replace z4 : W4.heap.size = w.heap.size + 1 + 1 + 1 + 1 := by rw [hW4]; simp [z4]
  have HDX := Lib.hid (show decide (x < 0) = false from by simpa using hx)
  have HDY := Lib.hid (show decide (y < 0) = false from by simpa using hy)
  rw [HDX.out, HDY.out] at HLI
  have cw4 : W4.cell? ⟨g, off + 2, none⟩ = some (.string word) := (b4.cell (p := ⟨g, off + 2, none⟩) hg).trans cw
  have HG := Lib.hid (show g < w.heap.size from hg)
  obtain ⟨a0, a1, a2, a3, a4, g0, g1, g2, g3, g4⟩ := Am.box5c P1
  obtain ⟨e0, e1, e2, e3, e4, _⟩ := Am.box5c P2
  have M4 := (Am.ins_lnm1 P3 P4).mono (show w.heap.size ≤ w.heap.size + 1 by omega)
  obtain ⟨n', W5, s', W8, k1, R1, k2, S1, S2, M8, BW8, m1, m2, kk⟩ := Am.val_mem (b1 := w.heap.size + 1 + 1 + 1) (b2 := w.heap.size) M4 P2 P1 (by omega) (Nat.le_refl _) (by omega) (by omega) (fun k hk => by simp [Value.ownBlock] at hk; omega) (fun k hk => by simp [Value.ownBlock] at hk; omega) (by simp) (by simp) y
  obtain ⟨nA, nc, rfl⟩ : ∃ A c, n' = .slice A 3 c := by obtain ⟨A, c, e⟩ := M8.n.form; exact ⟨A, c, e⟩
  obtain ⟨sA, sc, rfl⟩ : ∃ A c, s' = .slice A 3 c := by obtain ⟨A, c, e⟩ := M8.s.form; exact ⟨A, c, e⟩

  have HK1 := Lib.hid k1
  have HK2 := Lib.hid k2
  obtain ⟨W9, hW9⟩ : ∃ W9, W9 = (W8.setCell ⟨w.heap.size + 1 + 1 + 1, 2, none⟩ (.slice sA 3 sc)).setCell ⟨w.heap.size + 1 + 1 + 1, 4, none⟩ (.bool false) := ⟨_, rfl⟩
  have R9 : Blk W9 (w.heap.size + 1 + 1 + 1) 35 #[.string ⟨#[]⟩, .slice nA 3 nc, .slice sA 3 sc, .string ⟨#[]⟩, .bool false] := by
    rw [hW9]
    have := (S1.put 2 (.slice sA 3 sc)).put 4 (.bool false)
    simpa using this
  have R9' := S1.put 2 (.slice sA 3 sc)
  simp only [List.setIfInBounds_toArray, List.set_cons_zero, List.set_cons_succ] at R9'
  have Q9 : Blk W9 w.heap.size 35 #[.string ⟨#[]⟩, .slice none 0 0, .slice none 0 0, .string ⟨#[]⟩, .bool false] := by
    rw [hW9]
    exact (S2.far (p := ⟨w.heap.size + 1 + 1 + 1, 2, none⟩) (show w.heap.size ≠ w.heap.size + 1 + 1 + 1 by omega) _).far (p := ⟨w.heap.size + 1 + 1 + 1, 4, none⟩) (show w.heap.size ≠ w.heap.size + 1 + 1 + 1 by omega) _
  have x1 : (Value.slice nA 3 nc).ownBlock ≠ some (w.heap.size + 1 + 1 + 1) := fun e => (m1 _ e).1 rfl
  have x2 : (Value.slice sA 3 sc).ownBlock ≠ some (w.heap.size + 1 + 1 + 1) := fun e => (m2 _ e).1 rfl
  have x3 : (Value.slice nA 3 nc).ownBlock ≠ some w.heap.size := fun e => (m1 _ e).2 rfl
  have x4 : (Value.slice sA 3 sc).ownBlock ≠ some w.heap.size := fun e => (m2 _ e).2 rfl
  have M9 : Am.LnM W9 w.heap.size (.slice nA 3 nc) (.slice sA 3 sc) [(c : Int), x, y] [1, 1, 2] := by rw [hW9]; exact (M8.put x1 x2 _).put x1 x2 _
  have B9 : Below w.heap.size w W9 := by
    rw [hW9]
    exact ((b4.trans BW8).setCell (p := ⟨w.heap.size + 1 + 1 + 1, 2, none⟩) (show w.heap.size ≤ w.heap.size + 1 + 1 + 1 by omega) _).setCell (p := ⟨w.heap.size + 1 + 1 + 1, 4, none⟩) (show w.heap.size ≤ w.heap.size + 1 + 1 + 1 by omega) _
  obtain ⟨WX, hWX, Q, BX, MX, _⟩ := Am.res_put (lb := ⟨#[]⟩) (nm := ⟨#[]⟩) (wr := false) Q9 B9 ⟨M9.n, M9.s, fun k hk => by have := M9.nb k hk; have : k ≠ w.heap.size := fun e => x3 (e ▸ hk); omega, fun k hk => by have := M9.sb k hk; have : k ≠ w.heap.size := fun e => x4 (e ▸ hk); omega, M9.ne⟩
  have HQ := Lib.hid Q
  have HBX := Lib.hid BX
  have HMX := Lib.hid MX
  obtain ⟨r0, r1, r2, r3, r4, rf0, rf1, rf2, rf3, rf4⟩ := Am.box5c R1
  obtain ⟨_, _, _, _, _, sf0, sf1, sf2, sf3, sf4⟩ := Am.box5c S1
  obtain ⟨t0, t1, t2, t3, t4, tf0, tf1, tf2, tf3, tf4⟩ := Am.box5c R9'
  obtain ⟨u0, u1, u2, u3, u4, _⟩ := Am.box5c R9
  obtain ⟨v0, v1, v2, v3, v4, vf0, vf1, vf2, vf3, vf4⟩ := Am.box5c Q9
  have i2 : (2 : Int) ≤ (c : Int) := by omega
  have i10 : (c : Int) ≤ 10 := by omega
  have y0 : ((c : Int) == 0) = false := by rw [beq_eq_false_iff_ne]; omega
  have y15 : ((c : Int) == 15) = false := by rw [beq_eq_false_iff_ne]; omega
  have y11 : ((c : Int) == 11) = false := by rw [beq_eq_false_iff_ne]; omega
  clear M4 k1 k2 R1 S1 S2 M8 BW8 m1 m2 kk R9 R9' Q9 x1 x2 x3 x4 M9 B9 Q BX MX P1 P2 P3 P4 G4 z4 b4 hn hwl hws hword hcw hrow hsz cw hg hwd1 cw1 hw1 hws1 h2 h10
  go_enter Tryd.func35, Tryd.ntmps35
  go_upto_region 2 with (fail)
  rw [← hW0]
  clear hW0
  go_upto_region 16 with (go_at_call 50; (with_reducible refine (HRG.out _).mono ?_); rintro e w2 ⟨rfl, rfl⟩)
  (try rw [HDX.out])
  rw [← hW4]
  clear hW4 hx
  go_upto_region 19 with (first
    | (go_at_call 50; (with_reducible refine (HRG2.out _).mono ?_); rintro e w2 ⟨rfl, rfl⟩)
    | (at_builtin; refine wpList_append_eq rfl (.tmp 59) (.tmp 61) 33 rfl HK1.out rfl rfl ?_))
  go_upto_region 21 with (at_builtin; refine wpList_append_eq rfl (.tmp 65) (.tmp 66) 33 rfl HK2.out rfl rfl ?_)
  (try rw [HDY.out])
  rw [← hW9]
  clear hW9 hy
  go_wp2
  rw [← hWX]
  clear hWX
  obtain ⟨q0, q1, q2, q3, q4, _⟩ := Am.box5c HQ.out
  refine bodyPost_ret (v := .agg #[.string ⟨#[]⟩, .slice nA 3 nc, .slice sA 3 sc, .string ⟨#[]⟩, .bool false]) (by simp [results, Tryd.results35, go_sem, q0, q1, q2, q3, q4]) rfl ⟨HBX.out, ⟨[], [], [(c : Int), x, y], [1, 1, 2]⟩, ((nA, nc), (sA, sc)), false, rfl, HMX.out, ?_⟩
  rw [HI.out]
  exact HLI.out
set_option maxRecDepth 20000 in
set_option maxHeartbeats 1600000 in
theorem Am.instr_rpn (c : Nat) (h2 : 2 ≤ c) (h10 : c ≤ 10) (A : Option Addr) (k : Nat) (L : List (List UInt8)) (hn : 3 = L.length) (hy : Am.regZ (L.getD 2 []) < 0) (hx : ¬ Am.regZ (L.getD 1 []) < 0) (hsz : ∀ x ∈ L, x.length ≤ 100000) (w : World) (hrow : RowZ 1 w (.slice A 3 k) L.length (Am.strs L)) : Calls Tryd.prog 35 #[.int .i64 c, .slice A 3 k] w (Am.LnP w (Am.ins c L.tail)) := by
  obtain ⟨g, off, rfl, hg, hcw⟩ := Am.word_at hrow (by omega)
  obtain ⟨word, hword⟩ : ∃ word : ByteArray, word = ⟨(L.getD 2 []).toArray⟩ := ⟨_, rfl⟩
  have cw := hcw 2 (by omega)
  rw [← hword] at cw
  have hwl : word.data.toList = L.getD 2 [] := by rw [hword]
  have hws : word.size ≤ 100000 := by
    have h1 := hsz (L.getD 2 []) (by
      have : 2 < L.length := by omega
      simp [List.getD, this])
    rw [← hwl, Am.len] at h1
    exact h1
  obtain ⟨wd1, hwd1⟩ : ∃ wd1 : ByteArray, wd1 = ⟨(L.getD 1 []).toArray⟩ := ⟨_, rfl⟩
  have cw1 := hcw 1 (by omega)
  rw [← hwd1] at cw1
  have hw1 : wd1.data.toList = L.getD 1 [] := by rw [hwd1]
  have hws1 : wd1.size ≤ 100000 := by
    have h1 := hsz (L.getD 1 []) (by
      have : 1 < L.length := by omega
      simp [List.getD, this])
    rw [← hw1, Am.len] at h1
    exact h1
  have HI := Lib.hid (show Am.ins c L.tail = (Am.reg wd1.data.toList).bind fun x => (Am.reg word.data.toList).map fun n => (Am.pt c x n, []) from by
    have t0 : L.tail.getD 0 [] = L.getD 1 [] := by cases L <;> rfl
    have t1 : L.tail.getD 1 [] = L.getD 2 [] := by cases L <;> rfl
    unfold Am.ins
    rw [if_neg (by omega), if_neg (by omega), if_pos (by rw [List.length_tail]; omega), hwl, hw1, t0, t1]
    congr 1
    funext x
    rw [if_neg (by omega), if_pos (by unfold rgB; simp; omega)])
  have HLI := Lib.hid (Am.reg2_lin c wd1.data.toList word.data.toList)
  rw [← hwl] at hy
  have HRG2 := Lib.hid (Am.rregister_any word hws)
  generalize Am.regZ word.data.toList = y at *
  rw [← hw1] at hx
  have HRG := Lib.hid (Am.rregister_any wd1 hws1)
  generalize Am.regZ wd1.data.toList = x at *
  obtain ⟨W0, hW0, P1, P2, P3, P4, G4, z4⟩ := Am.ins_nums w c
  have b4 : Below w.heap.size w W0 := below_of_only G4 (Nat.le_refl _) (by simp)
  have cw10 : W0.cell? ⟨g, off + 1, none⟩ = some (.string wd1) := (b4.cell (p := ⟨g, off + 1, none⟩) hg).trans cw1
  obtain ⟨m0, m1, m2, m3, m4, mf0, mf1, mf2, mf3, mf4⟩ := Am.box5c P2
  have nf1 := P3.free 1
  have nc1 := P3.cell 1
  simp at nc1
  obtain ⟨W4, hW4⟩ : ∃ W4, W4 = (W0.setCell ⟨w.heap.size + 1, 1, none⟩ (.int .i64 x)).setCell ⟨w.heap.size + 1 + 1 + 1, 4, none⟩ (.bool false) := ⟨_, rfl⟩
  replace P1 : Blk W4 w.heap.size 35 #[.string ⟨#[]⟩, .slice none 0 0, .slice none 0 0, .string ⟨#[]⟩, .bool false] := by
    rw [hW4]
    exact (P1.far (p := ⟨w.heap.size + 1, 1, none⟩) (show w.heap.size ≠ w.heap.size + 1 by omega) _).far (p := ⟨w.heap.size + 1 + 1 + 1, 4, none⟩) (show w.heap.size ≠ w.heap.size + 1 + 1 + 1 by omega) _
  replace P2 : Blk W4 (w.heap.size + 1 + 1 + 1) 35 #[.string ⟨#[]⟩, .slice (some ⟨w.heap.size + 1, 0, none⟩) 2 2, .slice (some ⟨w.heap.size + 1 + 1, 0, none⟩) 2 2, .string ⟨#[]⟩, .bool false] := by
    rw [hW4]
    have := (P2.far (p := ⟨w.heap.size + 1, 1, none⟩) (show w.heap.size + 1 + 1 + 1 ≠ w.heap.size + 1 by omega) (.int .i64 x)).put 4 (.bool false)
    simpa using this
  replace P3 : Blk W4 (w.heap.size + 1) 3 #[.int .i64 c, .int .i64 x] := by
    rw [hW4]
    have := (P3.put 1 (.int .i64 x)).far (p := ⟨w.heap.size + 1 + 1 + 1, 4, none⟩) (show w.heap.size + 1 ≠ w.heap.size + 1 + 1 + 1 by omega) (.bool false)
    simpa using this
  replace P4 : Blk W4 (w.heap.size + 1 + 1) 3 #[.int .i64 1, .int .i64 1] := by
    rw [hW4]
    exact (P4.far (p := ⟨w.heap.size + 1, 1, none⟩) (show w.heap.size + 1 + 1 ≠ w.heap.size + 1 by omega) _).far (p := ⟨w.heap.size + 1 + 1 + 1, 4, none⟩) (show w.heap.size + 1 + 1 ≠ w.heap.size + 1 + 1 + 1 by omega) _
  replace b4 : Below w.heap.size w W4 := by
    rw [hW4]
    exact (b4.setCell (p := ⟨w.heap.size + 1, 1, none⟩) (show w.heap.size ≤ w.heap.size + 1 by omega) _).setCell (p := ⟨w.heap.size + 1 + 1 + 1, 4, none⟩) (show w.heap.size ≤ w.heap.size + 1 + 1 + 1 by omega) _
  replace z4 : W4.heap.size = w.heap.size + 1 + 1 + 1 + 1 := by rw [hW4]; simp [z4]
  have HDX := Lib.hid (show decide (x < 0) = false from by simpa using hx)
  have HDY := Lib.hid (show decide (y < 0) = true from by simpa using hy)
  rw [HDX.out, HDY.out] at HLI
  have cw4 : W4.cell? ⟨g, off + 2, none⟩ = some (.string word) := (b4.cell (p := ⟨g, off + 2, none⟩) hg).trans cw
  have HG := Lib.hid (show g < w.heap.size from hg)
  obtain ⟨a0, a1, a2, a3, a4, g0, g1, g2, g3, g4⟩ := Am.box5c P1
  obtain ⟨e0, e1, e2, e3, e4, _⟩ := Am.box5c P2
  have M4 := (Am.ins_lnm1 P3 P4).mono (show w.heap.size ≤ w.heap.size + 1 by omega)
  obtain ⟨n', W5, s', W8, k1, R1, k2, S1, S2, M8, BW8, m1, m2, kk⟩ := Am.val_mem (b1 := w.heap.size + 1 + 1 + 1) (b2 := w.heap.size) M4 P2 P1 (by omega) (Nat.le_refl _) (by omega) (by omega) (fun k hk => by simp [Value.ownBlock] at hk; omega) (fun k hk => by simp [Value.ownBlock] at hk; omega) (by simp) (by simp) y
  obtain ⟨nA, nc, rfl⟩ : ∃ A c, n' = .slice A 3 c := by obtain ⟨A, c, e⟩ := M8.n.form; exact ⟨A, c, e⟩
  obtain ⟨sA, sc, rfl⟩ : ∃ A c, s' = .slice A 3 c := by obtain ⟨A, c, e⟩ := M8.s.form; exact ⟨A, c, e⟩

  have HK1 := Lib.hid k1
  have HK2 := Lib.hid k2
  obtain ⟨W9, hW9⟩ : ∃ W9, W9 = (W8.setCell ⟨w.heap.size + 1 + 1 + 1, 2, none⟩ (.slice sA 3 sc)).setCell ⟨w.heap.size + 1 + 1 + 1, 4, none⟩ (.bool true) := ⟨_, rfl⟩
  have R9 : Blk W9 (w.heap.size + 1 + 1 + 1) 35 #[.string ⟨#[]⟩, .slice nA 3 nc, .slice sA 3 sc, .string ⟨#[]⟩, .bool true] := by
    rw [hW9]
    have := (S1.put 2 (.slice sA 3 sc)).put 4 (.bool true)
    simpa using this
  have R9' := S1.put 2 (.slice sA 3 sc)
  simp only [List.setIfInBounds_toArray, List.set_cons_zero, List.set_cons_succ] at R9'
  have Q9 : Blk W9 w.heap.size 35 #[.string ⟨#[]⟩, .slice none 0 0, .slice none 0 0, .string ⟨#[]⟩, .bool false] := by
    rw [hW9]
    exact (S2.far (p := ⟨w.heap.size + 1 + 1 + 1, 2, none⟩) (show w.heap.size ≠ w.heap.size + 1 + 1 + 1 by omega) _).far (p := ⟨w.heap.size + 1 + 1 + 1, 4, none⟩) (show w.heap.size ≠ w.heap.size + 1 + 1 + 1 by omega) _
  have x1 : (Value.slice nA 3 nc).ownBlock ≠ some (w.heap.size + 1 + 1 + 1) := fun e => (m1 _ e).1 rfl
  have x2 : (Value.slice sA 3 sc).ownBlock ≠ some (w.heap.size + 1 + 1 + 1) := fun e => (m2 _ e).1 rfl
  have x3 : (Value.slice nA 3 nc).ownBlock ≠ some w.heap.size := fun e => (m1 _ e).2 rfl
  have x4 : (Value.slice sA 3 sc).ownBlock ≠ some w.heap.size := fun e => (m2 _ e).2 rfl
  have M9 : Am.LnM W9 w.heap.size (.slice nA 3 nc) (.slice sA 3 sc) [(c : Int), x, y] [1, 1, 2] := by rw [hW9]; exact (M8.put x1 x2 _).put x1 x2 _
  have B9 : Below w.heap.size w W9 := by
    rw [hW9]
    exact ((b4.trans BW8).setCell (p := ⟨w.heap.size + 1 + 1 + 1, 2, none⟩) (show w.heap.size ≤ w.heap.size + 1 + 1 + 1 by omega) _).setCell (p := ⟨w.heap.size + 1 + 1 + 1, 4, none⟩) (show w.heap.size ≤ w.heap.size + 1 + 1 + 1 by omega) _
  obtain ⟨WX, hWX, Q, BX, MX, _⟩ := Am.res_put (lb := ⟨#[]⟩) (nm := ⟨#[]⟩) (wr := true) Q9 B9 ⟨M9.n, M9.s, fun k hk => by have := M9.nb k hk; have : k ≠ w.heap.size := fun e => x3 (e ▸ hk); omega, fun k hk => by have := M9.sb k hk; have : k ≠ w.heap.size := fun e => x4 (e ▸ hk); omega, M9.ne⟩
  have HQ := Lib.hid Q
  have HBX := Lib.hid BX
  have HMX := Lib.hid MX
  obtain ⟨r0, r1, r2, r3, r4, rf0, rf1, rf2, rf3, rf4⟩ := Am.box5c R1
  obtain ⟨_, _, _, _, _, sf0, sf1, sf2, sf3, sf4⟩ := Am.box5c S1
  obtain ⟨t0, t1, t2, t3, t4, tf0, tf1, tf2, tf3, tf4⟩ := Am.box5c R9'
  obtain ⟨u0, u1, u2, u3, u4, _⟩ := Am.box5c R9
  obtain ⟨v0, v1, v2, v3, v4, vf0, vf1, vf2, vf3, vf4⟩ := Am.box5c Q9
  have i2 : (2 : Int) ≤ (c : Int) := by omega
  have i10 : (c : Int) ≤ 10 := by omega
  have y0 : ((c : Int) == 0) = false := by rw [beq_eq_false_iff_ne]; omega
  have y15 : ((c : Int) == 15) = false := by rw [beq_eq_false_iff_ne]; omega
  have y11 : ((c : Int) == 11) = false := by rw [beq_eq_false_iff_ne]; omega
  clear M4 k1 k2 R1 S1 S2 M8 BW8 m1 m2 kk R9 R9' Q9 x1 x2 x3 x4 M9 B9 Q BX MX P1 P2 P3 P4 G4 z4 b4 hn hwl hws hword hcw hrow hsz cw hg hwd1 cw1 hw1 hws1 h2 h10
  go_enter Tryd.func35, Tryd.ntmps35
  go_upto_region 2 with (fail)
  rw [← hW0]
  clear hW0
  go_upto_region 16 with (go_at_call 50; (with_reducible refine (HRG.out _).mono ?_); rintro e w2 ⟨rfl, rfl⟩)
  (try rw [HDX.out])
  rw [← hW4]
  clear hW4 hx
  go_upto_region 19 with (first
    | (go_at_call 50; (with_reducible refine (HRG2.out _).mono ?_); rintro e w2 ⟨rfl, rfl⟩)
    | (at_builtin; refine wpList_append_eq rfl (.tmp 59) (.tmp 61) 33 rfl HK1.out rfl rfl ?_))
  go_upto_region 21 with (at_builtin; refine wpList_append_eq rfl (.tmp 65) (.tmp 66) 33 rfl HK2.out rfl rfl ?_)
  (try rw [HDY.out])
  rw [← hW9]
  clear hW9 hy
  go_wp2
  rw [← hWX]
  clear hWX
  obtain ⟨q0, q1, q2, q3, q4, _⟩ := Am.box5c HQ.out
  refine bodyPost_ret (v := .agg #[.string ⟨#[]⟩, .slice nA 3 nc, .slice sA 3 sc, .string ⟨#[]⟩, .bool true]) (by simp [results, Tryd.results35, go_sem, q0, q1, q2, q3, q4]) rfl ⟨HBX.out, ⟨[], [], [(c : Int), x, y], [1, 1, 2]⟩, ((nA, nc), (sA, sc)), true, rfl, HMX.out, ?_⟩
  rw [HI.out]
  exact HLI.out
set_option maxRecDepth 20000 in
set_option maxHeartbeats 1600000 in
theorem Am.instr_rnp (c : Nat) (h2 : 2 ≤ c) (h10 : c ≤ 10) (A : Option Addr) (k : Nat) (L : List (List UInt8)) (hn : 3 = L.length) (hy : ¬ Am.regZ (L.getD 2 []) < 0) (hx : Am.regZ (L.getD 1 []) < 0) (hsz : ∀ x ∈ L, x.length ≤ 100000) (w : World) (hrow : RowZ 1 w (.slice A 3 k) L.length (Am.strs L)) : Calls Tryd.prog 35 #[.int .i64 c, .slice A 3 k] w (Am.LnP w (Am.ins c L.tail)) := by
  obtain ⟨g, off, rfl, hg, hcw⟩ := Am.word_at hrow (by omega)
  obtain ⟨word, hword⟩ : ∃ word : ByteArray, word = ⟨(L.getD 2 []).toArray⟩ := ⟨_, rfl⟩
  have cw := hcw 2 (by omega)
  rw [← hword] at cw
  have hwl : word.data.toList = L.getD 2 [] := by rw [hword]
  have hws : word.size ≤ 100000 := by
    have h1 := hsz (L.getD 2 []) (by
      have : 2 < L.length := by omega
      simp [List.getD, this])
    rw [← hwl, Am.len] at h1
    exact h1
  obtain ⟨wd1, hwd1⟩ : ∃ wd1 : ByteArray, wd1 = ⟨(L.getD 1 []).toArray⟩ := ⟨_, rfl⟩
  have cw1 := hcw 1 (by omega)
  rw [← hwd1] at cw1
  have hw1 : wd1.data.toList = L.getD 1 [] := by rw [hwd1]
  have hws1 : wd1.size ≤ 100000 := by
    have h1 := hsz (L.getD 1 []) (by
      have : 1 < L.length := by omega
      simp [List.getD, this])
    rw [← hw1, Am.len] at h1
    exact h1
  have HI := Lib.hid (show Am.ins c L.tail = (Am.reg wd1.data.toList).bind fun x => (Am.reg word.data.toList).map fun n => (Am.pt c x n, []) from by
    have t0 : L.tail.getD 0 [] = L.getD 1 [] := by cases L <;> rfl
    have t1 : L.tail.getD 1 [] = L.getD 2 [] := by cases L <;> rfl
    unfold Am.ins
    rw [if_neg (by omega), if_neg (by omega), if_pos (by rw [List.length_tail]; omega), hwl, hw1, t0, t1]
    congr 1
    funext x
    rw [if_neg (by omega), if_pos (by unfold rgB; simp; omega)])
  have HLI := Lib.hid (Am.reg2_lin c wd1.data.toList word.data.toList)
  rw [← hwl] at hy
  have HRG2 := Lib.hid (Am.rregister_any word hws)
  generalize Am.regZ word.data.toList = y at *
  rw [← hw1] at hx
  have HRG := Lib.hid (Am.rregister_any wd1 hws1)
  generalize Am.regZ wd1.data.toList = x at *
  obtain ⟨W0, hW0, P1, P2, P3, P4, G4, z4⟩ := Am.ins_nums w c
  have b4 : Below w.heap.size w W0 := below_of_only G4 (Nat.le_refl _) (by simp)
  have cw10 : W0.cell? ⟨g, off + 1, none⟩ = some (.string wd1) := (b4.cell (p := ⟨g, off + 1, none⟩) hg).trans cw1
  obtain ⟨m0, m1, m2, m3, m4, mf0, mf1, mf2, mf3, mf4⟩ := Am.box5c P2
  have nf1 := P3.free 1
  have nc1 := P3.cell 1
  simp at nc1
  obtain ⟨W4, hW4⟩ : ∃ W4, W4 = (W0.setCell ⟨w.heap.size + 1, 1, none⟩ (.int .i64 x)).setCell ⟨w.heap.size + 1 + 1 + 1, 4, none⟩ (.bool true) := ⟨_, rfl⟩
  replace P1 : Blk W4 w.heap.size 35 #[.string ⟨#[]⟩, .slice none 0 0, .slice none 0 0, .string ⟨#[]⟩, .bool false] := by
    rw [hW4]
    exact (P1.far (p := ⟨w.heap.size + 1, 1, none⟩) (show w.heap.size ≠ w.heap.size + 1 by omega) _).far (p := ⟨w.heap.size + 1 + 1 + 1, 4, none⟩) (show w.heap.size ≠ w.heap.size + 1 + 1 + 1 by omega) _
  replace P2 : Blk W4 (w.heap.size + 1 + 1 + 1) 35 #[.string ⟨#[]⟩, .slice (some ⟨w.heap.size + 1, 0, none⟩) 2 2, .slice (some ⟨w.heap.size + 1 + 1, 0, none⟩) 2 2, .string ⟨#[]⟩, .bool true] := by
    rw [hW4]
    have := (P2.far (p := ⟨w.heap.size + 1, 1, none⟩) (show w.heap.size + 1 + 1 + 1 ≠ w.heap.size + 1 by omega) (.int .i64 x)).put 4 (.bool true)
    simpa using this
  replace P3 : Blk W4 (w.heap.size + 1) 3 #[.int .i64 c, .int .i64 x] := by
    rw [hW4]
    have := (P3.put 1 (.int .i64 x)).far (p := ⟨w.heap.size + 1 + 1 + 1, 4, none⟩) (show w.heap.size + 1 ≠ w.heap.size + 1 + 1 + 1 by omega) (.bool true)
    simpa using this
  replace P4 : Blk W4 (w.heap.size + 1 + 1) 3 #[.int .i64 1, .int .i64 1] := by
    rw [hW4]
    exact (P4.far (p := ⟨w.heap.size + 1, 1, none⟩) (show w.heap.size + 1 + 1 ≠ w.heap.size + 1 by omega) _).far (p := ⟨w.heap.size + 1 + 1 + 1, 4, none⟩) (show w.heap.size + 1 + 1 ≠ w.heap.size + 1 + 1 + 1 by omega) _
  replace b4 : Below w.heap.size w W4 := by
    rw [hW4]
    exact (b4.setCell (p := ⟨w.heap.size + 1, 1, none⟩) (show w.heap.size ≤ w.heap.size + 1 by omega) _).setCell (p := ⟨w.heap.size + 1 + 1 + 1, 4, none⟩) (show w.heap.size ≤ w.heap.size + 1 + 1 + 1 by omega) _
  replace z4 : W4.heap.size = w.heap.size + 1 + 1 + 1 + 1 := by rw [hW4]; simp [z4]
  have HDX := Lib.hid (show decide (x < 0) = true from by simpa using hx)
  have HDY := Lib.hid (show decide (y < 0) = false from by simpa using hy)
  rw [HDX.out, HDY.out] at HLI
  have cw4 : W4.cell? ⟨g, off + 2, none⟩ = some (.string word) := (b4.cell (p := ⟨g, off + 2, none⟩) hg).trans cw
  have HG := Lib.hid (show g < w.heap.size from hg)
  obtain ⟨a0, a1, a2, a3, a4, g0, g1, g2, g3, g4⟩ := Am.box5c P1
  obtain ⟨e0, e1, e2, e3, e4, _⟩ := Am.box5c P2
  have M4 := (Am.ins_lnm1 P3 P4).mono (show w.heap.size ≤ w.heap.size + 1 by omega)
  obtain ⟨n', W5, s', W8, k1, R1, k2, S1, S2, M8, BW8, m1, m2, kk⟩ := Am.val_mem (b1 := w.heap.size + 1 + 1 + 1) (b2 := w.heap.size) M4 P2 P1 (by omega) (Nat.le_refl _) (by omega) (by omega) (fun k hk => by simp [Value.ownBlock] at hk; omega) (fun k hk => by simp [Value.ownBlock] at hk; omega) (by simp) (by simp) y
  obtain ⟨nA, nc, rfl⟩ : ∃ A c, n' = .slice A 3 c := by obtain ⟨A, c, e⟩ := M8.n.form; exact ⟨A, c, e⟩
  obtain ⟨sA, sc, rfl⟩ : ∃ A c, s' = .slice A 3 c := by obtain ⟨A, c, e⟩ := M8.s.form; exact ⟨A, c, e⟩

  have HK1 := Lib.hid k1
  have HK2 := Lib.hid k2
  obtain ⟨W9, hW9⟩ : ∃ W9, W9 = (W8.setCell ⟨w.heap.size + 1 + 1 + 1, 2, none⟩ (.slice sA 3 sc)).setCell ⟨w.heap.size + 1 + 1 + 1, 4, none⟩ (.bool true) := ⟨_, rfl⟩
  have R9 : Blk W9 (w.heap.size + 1 + 1 + 1) 35 #[.string ⟨#[]⟩, .slice nA 3 nc, .slice sA 3 sc, .string ⟨#[]⟩, .bool true] := by
    rw [hW9]
    have := (S1.put 2 (.slice sA 3 sc)).put 4 (.bool true)
    simpa using this
  have R9' := S1.put 2 (.slice sA 3 sc)
  simp only [List.setIfInBounds_toArray, List.set_cons_zero, List.set_cons_succ] at R9'
  have Q9 : Blk W9 w.heap.size 35 #[.string ⟨#[]⟩, .slice none 0 0, .slice none 0 0, .string ⟨#[]⟩, .bool false] := by
    rw [hW9]
    exact (S2.far (p := ⟨w.heap.size + 1 + 1 + 1, 2, none⟩) (show w.heap.size ≠ w.heap.size + 1 + 1 + 1 by omega) _).far (p := ⟨w.heap.size + 1 + 1 + 1, 4, none⟩) (show w.heap.size ≠ w.heap.size + 1 + 1 + 1 by omega) _
  have x1 : (Value.slice nA 3 nc).ownBlock ≠ some (w.heap.size + 1 + 1 + 1) := fun e => (m1 _ e).1 rfl
  have x2 : (Value.slice sA 3 sc).ownBlock ≠ some (w.heap.size + 1 + 1 + 1) := fun e => (m2 _ e).1 rfl
  have x3 : (Value.slice nA 3 nc).ownBlock ≠ some w.heap.size := fun e => (m1 _ e).2 rfl
  have x4 : (Value.slice sA 3 sc).ownBlock ≠ some w.heap.size := fun e => (m2 _ e).2 rfl
  have M9 : Am.LnM W9 w.heap.size (.slice nA 3 nc) (.slice sA 3 sc) [(c : Int), x, y] [1, 1, 2] := by rw [hW9]; exact (M8.put x1 x2 _).put x1 x2 _
  have B9 : Below w.heap.size w W9 := by
    rw [hW9]
    exact ((b4.trans BW8).setCell (p := ⟨w.heap.size + 1 + 1 + 1, 2, none⟩) (show w.heap.size ≤ w.heap.size + 1 + 1 + 1 by omega) _).setCell (p := ⟨w.heap.size + 1 + 1 + 1, 4, none⟩) (show w.heap.size ≤ w.heap.size + 1 + 1 + 1 by omega) _
  obtain ⟨WX, hWX, Q, BX, MX, _⟩ := Am.res_put (lb := ⟨#[]⟩) (nm := ⟨#[]⟩) (wr := true) Q9 B9 ⟨M9.n, M9.s, fun k hk => by have := M9.nb k hk; have : k ≠ w.heap.size := fun e => x3 (e ▸ hk); omega, fun k hk => by have := M9.sb k hk; have : k ≠ w.heap.size := fun e => x4 (e ▸ hk); omega, M9.ne⟩
  have HQ := Lib.hid Q
  have HBX := Lib.hid BX
  have HMX := Lib.hid MX
  obtain ⟨r0, r1, r2, r3, r4, rf0, rf1, rf2, rf3, rf4⟩ := Am.box5c R1
  obtain ⟨_, _, _, _, _, sf0, sf1, sf2, sf3, sf4⟩ := Am.box5c S1
  obtain ⟨t0, t1, t2, t3, t4, tf0, tf1, tf2, tf3, tf4⟩ := Am.box5c R9'
  obtain ⟨u0, u1, u2, u3, u4, _⟩ := Am.box5c R9
  obtain ⟨v0, v1, v2, v3, v4, vf0, vf1, vf2, vf3, vf4⟩ := Am.box5c Q9
  have i2 : (2 : Int) ≤ (c : Int) := by omega
  have i10 : (c : Int) ≤ 10 := by omega
  have y0 : ((c : Int) == 0) = false := by rw [beq_eq_false_iff_ne]; omega
  have y15 : ((c : Int) == 15) = false := by rw [beq_eq_false_iff_ne]; omega
  have y11 : ((c : Int) == 11) = false := by rw [beq_eq_false_iff_ne]; omega
  clear M4 k1 k2 R1 S1 S2 M8 BW8 m1 m2 kk R9 R9' Q9 x1 x2 x3 x4 M9 B9 Q BX MX P1 P2 P3 P4 G4 z4 b4 hn hwl hws hword hcw hrow hsz cw hg hwd1 cw1 hw1 hws1 h2 h10
  go_enter Tryd.func35, Tryd.ntmps35
  go_upto_region 2 with (fail)
  rw [← hW0]
  clear hW0
  go_upto_region 16 with (go_at_call 50; (with_reducible refine (HRG.out _).mono ?_); rintro e w2 ⟨rfl, rfl⟩)
  (try rw [HDX.out])
  rw [← hW4]
  clear hW4 hx
  go_upto_region 19 with (first
    | (go_at_call 50; (with_reducible refine (HRG2.out _).mono ?_); rintro e w2 ⟨rfl, rfl⟩)
    | (at_builtin; refine wpList_append_eq rfl (.tmp 59) (.tmp 61) 33 rfl HK1.out rfl rfl ?_))
  go_upto_region 21 with (at_builtin; refine wpList_append_eq rfl (.tmp 65) (.tmp 66) 33 rfl HK2.out rfl rfl ?_)
  (try rw [HDY.out])
  rw [← hW9]
  clear hW9 hy
  go_wp2
  rw [← hWX]
  clear hWX
  obtain ⟨q0, q1, q2, q3, q4, _⟩ := Am.box5c HQ.out
  refine bodyPost_ret (v := .agg #[.string ⟨#[]⟩, .slice nA 3 nc, .slice sA 3 sc, .string ⟨#[]⟩, .bool true]) (by simp [results, Tryd.results35, go_sem, q0, q1, q2, q3, q4]) rfl ⟨HBX.out, ⟨[], [], [(c : Int), x, y], [1, 1, 2]⟩, ((nA, nc), (sA, sc)), true, rfl, HMX.out, ?_⟩
  rw [HI.out]
  exact HLI.out
set_option maxRecDepth 20000 in
set_option maxHeartbeats 1600000 in
theorem Am.instr_rnn (c : Nat) (h2 : 2 ≤ c) (h10 : c ≤ 10) (A : Option Addr) (k : Nat) (L : List (List UInt8)) (hn : 3 = L.length) (hy : Am.regZ (L.getD 2 []) < 0) (hx : Am.regZ (L.getD 1 []) < 0) (hsz : ∀ x ∈ L, x.length ≤ 100000) (w : World) (hrow : RowZ 1 w (.slice A 3 k) L.length (Am.strs L)) : Calls Tryd.prog 35 #[.int .i64 c, .slice A 3 k] w (Am.LnP w (Am.ins c L.tail)) := by
  obtain ⟨g, off, rfl, hg, hcw⟩ := Am.word_at hrow (by omega)
  obtain ⟨word, hword⟩ : ∃ word : ByteArray, word = ⟨(L.getD 2 []).toArray⟩ := ⟨_, rfl⟩
  have cw := hcw 2 (by omega)
  rw [← hword] at cw
  have hwl : word.data.toList = L.getD 2 [] := by rw [hword]
  have hws : word.size ≤ 100000 := by
    have h1 := hsz (L.getD 2 []) (by
      have : 2 < L.length := by omega
      simp [List.getD, this])
    rw [← hwl, Am.len] at h1
    exact h1
  obtain ⟨wd1, hwd1⟩ : ∃ wd1 : ByteArray, wd1 = ⟨(L.getD 1 []).toArray⟩ := ⟨_, rfl⟩
  have cw1 := hcw 1 (by omega)
  rw [← hwd1] at cw1
  have hw1 : wd1.data.toList = L.getD 1 [] := by rw [hwd1]
  have hws1 : wd1.size ≤ 100000 := by
    have h1 := hsz (L.getD 1 []) (by
      have : 1 < L.length := by omega
      simp [List.getD, this])
    rw [← hw1, Am.len] at h1
    exact h1
  have HI := Lib.hid (show Am.ins c L.tail = (Am.reg wd1.data.toList).bind fun x => (Am.reg word.data.toList).map fun n => (Am.pt c x n, []) from by
    have t0 : L.tail.getD 0 [] = L.getD 1 [] := by cases L <;> rfl
    have t1 : L.tail.getD 1 [] = L.getD 2 [] := by cases L <;> rfl
    unfold Am.ins
    rw [if_neg (by omega), if_neg (by omega), if_pos (by rw [List.length_tail]; omega), hwl, hw1, t0, t1]
    congr 1
    funext x
    rw [if_neg (by omega), if_pos (by unfold rgB; simp; omega)])
  have HLI := Lib.hid (Am.reg2_lin c wd1.data.toList word.data.toList)
  rw [← hwl] at hy
  have HRG2 := Lib.hid (Am.rregister_any word hws)
  generalize Am.regZ word.data.toList = y at *
  rw [← hw1] at hx
  have HRG := Lib.hid (Am.rregister_any wd1 hws1)
  generalize Am.regZ wd1.data.toList = x at *
  obtain ⟨W0, hW0, P1, P2, P3, P4, G4, z4⟩ := Am.ins_nums w c
  have b4 : Below w.heap.size w W0 := below_of_only G4 (Nat.le_refl _) (by simp)
  have cw10 : W0.cell? ⟨g, off + 1, none⟩ = some (.string wd1) := (b4.cell (p := ⟨g, off + 1, none⟩) hg).trans cw1
  obtain ⟨m0, m1, m2, m3, m4, mf0, mf1, mf2, mf3, mf4⟩ := Am.box5c P2
  have nf1 := P3.free 1
  have nc1 := P3.cell 1
  simp at nc1
  obtain ⟨W4, hW4⟩ : ∃ W4, W4 = (W0.setCell ⟨w.heap.size + 1, 1, none⟩ (.int .i64 x)).setCell ⟨w.heap.size + 1 + 1 + 1, 4, none⟩ (.bool true) := ⟨_, rfl⟩
  replace P1 : Blk W4 w.heap.size 35 #[.string ⟨#[]⟩, .slice none 0 0, .slice none 0 0, .string ⟨#[]⟩, .bool false] := by
    rw [hW4]
    exact (P1.far (p := ⟨w.heap.size + 1, 1, none⟩) (show w.heap.size ≠ w.heap.size + 1 by omega) _).far (p := ⟨w.heap.size + 1 + 1 + 1, 4, none⟩) (show w.heap.size ≠ w.heap.size + 1 + 1 + 1 by omega) _
  replace P2 : Blk W4 (w.heap.size + 1 + 1 + 1) 35 #[.string ⟨#[]⟩, .slice (some ⟨w.heap.size + 1, 0, none⟩) 2 2, .slice (some ⟨w.heap.size + 1 + 1, 0, none⟩) 2 2, .string ⟨#[]⟩, .bool true] := by
    rw [hW4]
    have := (P2.far (p := ⟨w.heap.size + 1, 1, none⟩) (show w.heap.size + 1 + 1 + 1 ≠ w.heap.size + 1 by omega) (.int .i64 x)).put 4 (.bool true)
    simpa using this
  replace P3 : Blk W4 (w.heap.size + 1) 3 #[.int .i64 c, .int .i64 x] := by
    rw [hW4]
    have := (P3.put 1 (.int .i64 x)).far (p := ⟨w.heap.size + 1 + 1 + 1, 4, none⟩) (show w.heap.size + 1 ≠ w.heap.size + 1 + 1 + 1 by omega) (.bool true)
    simpa using this
  replace P4 : Blk W4 (w.heap.size + 1 + 1) 3 #[.int .i64 1, .int .i64 1] := by
    rw [hW4]
    exact (P4.far (p := ⟨w.heap.size + 1, 1, none⟩) (show w.heap.size + 1 + 1 ≠ w.heap.size + 1 by omega) _).far (p := ⟨w.heap.size + 1 + 1 + 1, 4, none⟩) (show w.heap.size + 1 + 1 ≠ w.heap.size + 1 + 1 + 1 by omega) _
  replace b4 : Below w.heap.size w W4 := by
    rw [hW4]
    exact (b4.setCell (p := ⟨w.heap.size + 1, 1, none⟩) (show w.heap.size ≤ w.heap.size + 1 by omega) _).setCell (p := ⟨w.heap.size + 1 + 1 + 1, 4, none⟩) (show w.heap.size ≤ w.heap.size + 1 + 1 + 1 by omega) _
  replace z4 : W4.heap.size = w.heap.size + 1 + 1 + 1 + 1 := by rw [hW4]; simp [z4]
  have HDX := Lib.hid (show decide (x < 0) = true from by simpa using hx)
  have HDY := Lib.hid (show decide (y < 0) = true from by simpa using hy)
  rw [HDX.out, HDY.out] at HLI
  have cw4 : W4.cell? ⟨g, off + 2, none⟩ = some (.string word) := (b4.cell (p := ⟨g, off + 2, none⟩) hg).trans cw
  have HG := Lib.hid (show g < w.heap.size from hg)
  obtain ⟨a0, a1, a2, a3, a4, g0, g1, g2, g3, g4⟩ := Am.box5c P1
  obtain ⟨e0, e1, e2, e3, e4, _⟩ := Am.box5c P2
  have M4 := (Am.ins_lnm1 P3 P4).mono (show w.heap.size ≤ w.heap.size + 1 by omega)
  obtain ⟨n', W5, s', W8, k1, R1, k2, S1, S2, M8, BW8, m1, m2, kk⟩ := Am.val_mem (b1 := w.heap.size + 1 + 1 + 1) (b2 := w.heap.size) M4 P2 P1 (by omega) (Nat.le_refl _) (by omega) (by omega) (fun k hk => by simp [Value.ownBlock] at hk; omega) (fun k hk => by simp [Value.ownBlock] at hk; omega) (by simp) (by simp) y
  obtain ⟨nA, nc, rfl⟩ : ∃ A c, n' = .slice A 3 c := by obtain ⟨A, c, e⟩ := M8.n.form; exact ⟨A, c, e⟩
  obtain ⟨sA, sc, rfl⟩ : ∃ A c, s' = .slice A 3 c := by obtain ⟨A, c, e⟩ := M8.s.form; exact ⟨A, c, e⟩

  have HK1 := Lib.hid k1
  have HK2 := Lib.hid k2
  obtain ⟨W9, hW9⟩ : ∃ W9, W9 = (W8.setCell ⟨w.heap.size + 1 + 1 + 1, 2, none⟩ (.slice sA 3 sc)).setCell ⟨w.heap.size + 1 + 1 + 1, 4, none⟩ (.bool true) := ⟨_, rfl⟩
  have R9 : Blk W9 (w.heap.size + 1 + 1 + 1) 35 #[.string ⟨#[]⟩, .slice nA 3 nc, .slice sA 3 sc, .string ⟨#[]⟩, .bool true] := by
    rw [hW9]
    have := (S1.put 2 (.slice sA 3 sc)).put 4 (.bool true)
    simpa using this
  have R9' := S1.put 2 (.slice sA 3 sc)
  simp only [List.setIfInBounds_toArray, List.set_cons_zero, List.set_cons_succ] at R9'
  have Q9 : Blk W9 w.heap.size 35 #[.string ⟨#[]⟩, .slice none 0 0, .slice none 0 0, .string ⟨#[]⟩, .bool false] := by
    rw [hW9]
    exact (S2.far (p := ⟨w.heap.size + 1 + 1 + 1, 2, none⟩) (show w.heap.size ≠ w.heap.size + 1 + 1 + 1 by omega) _).far (p := ⟨w.heap.size + 1 + 1 + 1, 4, none⟩) (show w.heap.size ≠ w.heap.size + 1 + 1 + 1 by omega) _
  have x1 : (Value.slice nA 3 nc).ownBlock ≠ some (w.heap.size + 1 + 1 + 1) := fun e => (m1 _ e).1 rfl
  have x2 : (Value.slice sA 3 sc).ownBlock ≠ some (w.heap.size + 1 + 1 + 1) := fun e => (m2 _ e).1 rfl
  have x3 : (Value.slice nA 3 nc).ownBlock ≠ some w.heap.size := fun e => (m1 _ e).2 rfl
  have x4 : (Value.slice sA 3 sc).ownBlock ≠ some w.heap.size := fun e => (m2 _ e).2 rfl
  have M9 : Am.LnM W9 w.heap.size (.slice nA 3 nc) (.slice sA 3 sc) [(c : Int), x, y] [1, 1, 2] := by rw [hW9]; exact (M8.put x1 x2 _).put x1 x2 _
  have B9 : Below w.heap.size w W9 := by
    rw [hW9]
    exact ((b4.trans BW8).setCell (p := ⟨w.heap.size + 1 + 1 + 1, 2, none⟩) (show w.heap.size ≤ w.heap.size + 1 + 1 + 1 by omega) _).setCell (p := ⟨w.heap.size + 1 + 1 + 1, 4, none⟩) (show w.heap.size ≤ w.heap.size + 1 + 1 + 1 by omega) _
  obtain ⟨WX, hWX, Q, BX, MX, _⟩ := Am.res_put (lb := ⟨#[]⟩) (nm := ⟨#[]⟩) (wr := true) Q9 B9 ⟨M9.n, M9.s, fun k hk => by have := M9.nb k hk; have : k ≠ w.heap.size := fun e => x3 (e ▸ hk); omega, fun k hk => by have := M9.sb k hk; have : k ≠ w.heap.size := fun e => x4 (e ▸ hk); omega, M9.ne⟩
  have HQ := Lib.hid Q
  have HBX := Lib.hid BX
  have HMX := Lib.hid MX
  obtain ⟨r0, r1, r2, r3, r4, rf0, rf1, rf2, rf3, rf4⟩ := Am.box5c R1
  obtain ⟨_, _, _, _, _, sf0, sf1, sf2, sf3, sf4⟩ := Am.box5c S1
  obtain ⟨t0, t1, t2, t3, t4, tf0, tf1, tf2, tf3, tf4⟩ := Am.box5c R9'
  obtain ⟨u0, u1, u2, u3, u4, _⟩ := Am.box5c R9
  obtain ⟨v0, v1, v2, v3, v4, vf0, vf1, vf2, vf3, vf4⟩ := Am.box5c Q9
  have i2 : (2 : Int) ≤ (c : Int) := by omega
  have i10 : (c : Int) ≤ 10 := by omega
  have y0 : ((c : Int) == 0) = false := by rw [beq_eq_false_iff_ne]; omega
  have y15 : ((c : Int) == 15) = false := by rw [beq_eq_false_iff_ne]; omega
  have y11 : ((c : Int) == 11) = false := by rw [beq_eq_false_iff_ne]; omega
  clear M4 k1 k2 R1 S1 S2 M8 BW8 m1 m2 kk R9 R9' Q9 x1 x2 x3 x4 M9 B9 Q BX MX P1 P2 P3 P4 G4 z4 b4 hn hwl hws hword hcw hrow hsz cw hg hwd1 cw1 hw1 hws1 h2 h10
  go_enter Tryd.func35, Tryd.ntmps35
  go_upto_region 2 with (fail)
  rw [← hW0]
  clear hW0
  go_upto_region 16 with (go_at_call 50; (with_reducible refine (HRG.out _).mono ?_); rintro e w2 ⟨rfl, rfl⟩)
  (try rw [HDX.out])
  rw [← hW4]
  clear hW4 hx
  go_upto_region 19 with (first
    | (go_at_call 50; (with_reducible refine (HRG2.out _).mono ?_); rintro e w2 ⟨rfl, rfl⟩)
    | (at_builtin; refine wpList_append_eq rfl (.tmp 59) (.tmp 61) 33 rfl HK1.out rfl rfl ?_))
  go_upto_region 21 with (at_builtin; refine wpList_append_eq rfl (.tmp 65) (.tmp 66) 33 rfl HK2.out rfl rfl ?_)
  (try rw [HDY.out])
  rw [← hW9]
  clear hW9 hy
  go_wp2
  rw [← hWX]
  clear hWX
  obtain ⟨q0, q1, q2, q3, q4, _⟩ := Am.box5c HQ.out
  refine bodyPost_ret (v := .agg #[.string ⟨#[]⟩, .slice nA 3 nc, .slice sA 3 sc, .string ⟨#[]⟩, .bool true]) (by simp [results, Tryd.results35, go_sem, q0, q1, q2, q3, q4]) rfl ⟨HBX.out, ⟨[], [], [(c : Int), x, y], [1, 1, 2]⟩, ((nA, nc), (sA, sc)), true, rfl, HMX.out, ?_⟩
  rw [HI.out]
  exact HLI.out
end Go.Proofs.YtldbhcbmcogmfaaDoor

/- The document's line of an instruction, by its contract. -/
namespace Go.Proofs.YtldbhcbmcogmfaaDoor
open Go.RowKit Go.Lib
set_option linter.unusedVariables false
set_option maxRecDepth 8000

theorem Am.instr20_any (c : Nat) (hc : c < 16) (A : Option Addr) (n k : Nat) (L : List (List UInt8)) (hn : n = L.length) (h1 : 1 ≤ n) (hsz : ∀ x ∈ L, x.length ≤ 100000) (w : World) (hrow : RowZ 1 w (.slice A n k) L.length (Am.strs L)) : Calls Tryd.prog 35 #[.int .i64 c, .slice A n k] w (Am.LnP w (Am.ins c L.tail)) := by
  by_cases c0 : c = 0
  · subst c0
    by_cases q : n = 1
    · subst q
      exact Am.instr_g0 A k L hn w
    · exact Am.instr_w0 A n k L hn h1 q w
  by_cases c15 : c = 15
  · subst c15
    by_cases q : n = 1
    · subst q
      exact Am.instr_g15 A k L hn w
    · exact Am.instr_w15 A n k L hn h1 q w
  by_cases c11 : c = 11
  · subst c11
    by_cases q : n = 2
    · subst q
      exact Am.instr_g11 A k L hn hsz w hrow
    · exact Am.instr_w11 A n k L hn h1 q w
  by_cases q : n = 3
  case neg => exact Am.instr_w3 c hc c0 c15 c11 A n k L hn h1 q w
  subst q
  by_cases hx : Am.regZ (L.getD 1 []) < 0
  · by_cases r : 2 ≤ c ∧ c ≤ 10
    · by_cases hy : Am.regZ (L.getD 2 []) < 0
      · exact Am.instr_rnn c r.1 r.2 A k L hn hy hx hsz w hrow
      · exact Am.instr_rnp c r.1 r.2 A k L hn hy hx hsz w hrow
    · have : c = 1 ∨ c = 12 ∨ c = 13 ∨ c = 14 := by omega
      rcases this with rfl | rfl | rfl | rfl
      · exact Am.instr_g1n A k L hn hx hsz w hrow
      · exact Am.instr_g12n A k L hn hx hsz w hrow
      · exact Am.instr_g13n A k L hn hx hsz w hrow
      · cases hm : Am.isName (L.getD 2 []) with
        | true => exact Am.instr_w14n A k L hn hm hx hsz w hrow
        | false => exact Am.instr_g14n A k L hn hm hx hsz w hrow
  · by_cases r : 2 ≤ c ∧ c ≤ 10
    · by_cases hy : Am.regZ (L.getD 2 []) < 0
      · exact Am.instr_rpn c r.1 r.2 A k L hn hy hx hsz w hrow
      · exact Am.instr_rpp c r.1 r.2 A k L hn hy hx hsz w hrow
    · have : c = 1 ∨ c = 12 ∨ c = 13 ∨ c = 14 := by omega
      rcases this with rfl | rfl | rfl | rfl
      · exact Am.instr_g1p A k L hn hx hsz w hrow
      · exact Am.instr_g12p A k L hn hx hsz w hrow
      · exact Am.instr_g13p A k L hn hx hsz w hrow
      · cases hm : Am.isName (L.getD 2 []) with
        | true => exact Am.instr_w14p A k L hn hm hx hsz w hrow
        | false => exact Am.instr_g14p A k L hn hm hx hsz w hrow
end Go.Proofs.YtldbhcbmcogmfaaDoor

/- What a line of a program of text is: where a colon stands at its end. No program is spoken of here. -/
namespace Go.Proofs.YtldbhcbmcogmfaaDoor
open Go.RowKit Go.Lib
set_option linter.unusedVariables false
set_option maxRecDepth 8000

theorem Am.spl_last (y a : UInt8) (ha : a ≠ y) : ∀ l : List UInt8, ∃ p x, Am.spl y (l ++ [a]) = p ++ [x ++ [a]]
  | [] => ⟨[], [], by simp [Am.spl, ha]⟩
  | c :: l => by
    obtain ⟨p, x, e⟩ := Am.spl_last y a ha l
    rw [List.cons_append, Am.spl, e]
    by_cases h : c = y
    · rw [if_pos h]
      exact ⟨[] :: p, x, rfl⟩
    · rw [if_neg h]
      cases p with
      | nil => exact ⟨[], c :: x, rfl⟩
      | cons q p => exact ⟨(c :: q) :: p, x, rfl⟩
theorem Am.dec_colon {m : Nat} : ∀ (l : List UInt8) (n : Nat), (58 : UInt8) ∈ l → Am.dec m l n = none
  | [], n, h => by cases h
  | c :: l, n, h => by
    unfold Am.dec
    by_cases hc : c.toNat < 48 ∨ 57 < c.toNat
    · rw [if_pos hc]
    · rw [if_neg hc]
      split
      · rfl
      · refine Am.dec_colon l _ ?_
        rcases List.mem_cons.1 h with e | e
        · exact absurd (Or.inr (by rw [← e]; decide)) hc
        · exact e
theorem Am.num_colon {m : Nat} {l : List UInt8} (h : (58 : UInt8) ∈ l) : Am.num l m = none := by
  unfold Am.num
  split
  · rfl
  · exact Am.dec_colon l 0 h
theorem Am.name_colon {l : List UInt8} (h : (58 : UInt8) ∈ l) : Am.isName l = false := by
  unfold Am.isName
  have : (l.all fun c => decide (97 ≤ c.toNat) && decide (c.toNat ≤ 122)) = false := by
    rw [List.all_eq_false]
    exact ⟨58, h, by decide⟩
  rw [this]
  simp
theorem Am.val_colon {l : List UInt8} (h : (58 : UInt8) ∈ l) : Am.val l = none := by
  unfold Am.val
  rw [if_neg (by rw [Am.name_colon h]; decide), Am.num_colon h]
  rfl
theorem Am.reg_colon (x : List UInt8) : Am.reg (x ++ [58]) = none := by
  unfold Am.reg
  cases x with
  | nil => rw [if_neg (by decide)]
  | cons c x =>
    split
    · exact Am.num_colon (by simp)
    · rfl
theorem Am.nm_colon : ∀ k : Fin 16, (nmX k.val).getLast? ≠ some 58 := by decide +kernel
theorem Am.nd_some {v : List UInt8} (h : (ndV ⟨v.toArray⟩).2 = true) : ∃ k, k < 16 ∧ nmX k = v ∧ (ndV ⟨v.toArray⟩).1 = (k : Int) := by
  refine Classical.byContradiction fun hn => ?_
  have hall : ∀ k, k < 16 → nmL k ≠ ⟨v.toArray⟩ := fun k hk e => hn ⟨k, hk, nmX_eq.2 e, by rw [ndV_at hk e]⟩
  rw [ndV_none hall] at h
  cases h
theorem Am.ins_colon (k : Nat) (p : List (List UInt8)) (x : List UInt8) : Am.ins k (p ++ [x ++ [58]]) = none := by
  have hm : (58 : UInt8) ∈ x ++ [58] := by simp
  unfold Am.ins
  by_cases h0 : k = 0 ∨ k = 15
  · rw [if_pos h0, if_neg (by simp)]
  rw [if_neg h0]
  by_cases h11 : k = 11
  · rw [if_pos h11]
    by_cases h1 : (p ++ [x ++ [58]]).length = 1
    · have : p = [] := List.eq_nil_of_length_eq_zero (by simp at h1; simp [h1])
      subst this
      rw [if_pos h1]
      show (Am.val (x ++ [58])).map _ = none
      rw [Am.val_colon hm]
      rfl
    · rw [if_neg h1]
  rw [if_neg h11]
  by_cases h2 : (p ++ [x ++ [58]]).length = 2
  · rw [if_pos h2]
    obtain ⟨a, rfl⟩ : ∃ a, p = [a] := by
      match p, h2 with
      | [a], _ => exact ⟨a, rfl⟩
      | [], h => simp at h
      | a :: b :: r, h => simp at h
    show (Am.reg a).bind _ = none
    cases Am.reg a with
    | none => rfl
    | some q =>
      show (if k = 14 then (Am.num (x ++ [58]) 65535).map _ else if rgB k then (Am.reg (x ++ [58])).map _ else (Am.val (x ++ [58])).map _) = none
      rw [Am.num_colon hm, Am.reg_colon, Am.val_colon hm]
      split
      · rfl
      · split <;> rfl
  · rw [if_neg h2]
theorem Am.sen_colon (s : List UInt8) (h : s.getLast? = some 58) : Am.sen ((Am.spl 32 s).headD []) (Am.spl 32 s).tail = ⟨3, [], []⟩ := by
  obtain ⟨t, rfl⟩ : ∃ t, s = t ++ [58] := by
    rw [List.getLast?_eq_some_iff] at h
    exact h
  obtain ⟨p, x, e⟩ := Am.spl_last 32 58 (by decide) t
  rw [e]
  have hm : (58 : UInt8) ∈ x ++ [58] := by simp
  cases p with
  | nil =>
    show Am.sen (x ++ [58]) [] = _
    have hne : ∀ z : List UInt8, z.getLast? ≠ some 58 → x ++ [58] ≠ z := fun z hz q => hz (by rw [← q]; simp)
    unfold Am.sen
    rw [if_neg (hne _ (by decide)), if_neg (hne _ (by decide)), if_neg]
    intro q
    obtain ⟨k, hk, hx, _⟩ := Am.nd_some q
    exact hne _ (Am.nm_colon ⟨k, hk⟩) hx.symm
  | cons v p =>
    show Am.sen v (p ++ [x ++ [58]]) = _
    have one : ∀ (f : List UInt8 → Option (List UInt8 × List UInt8)), f (x ++ [58]) = none → (if (p ++ [x ++ [58]]).length = 1 then f ((p ++ [x ++ [58]]).getD 0 []) else none) = none := fun f hf => by
      split
      · rename_i h1
        have : p = [] := List.eq_nil_of_length_eq_zero (by simp at h1; simp [h1])
        subst this
        exact hf
      · rfl
    unfold Am.sen
    split
    · rw [one (fun w => (Am.num w 255).map fun n => ([UInt8.ofNat n], [])) (by simp only [Am.num_colon hm]; rfl)]
      rfl
    · split
      · rw [one (fun w => (Am.val w).map fun q => ([UInt8.ofNat (q.1 % 256), UInt8.ofNat (q.1 / 256 % 256)], q.2)) (by simp only [Am.val_colon hm]; rfl)]
        rfl
      · split
        · rw [Am.ins_colon]
          rfl
        · rfl
theorem Am.name_no {c : UInt8} {l : List UInt8} (h : Am.isName l = true) (hc : c ∈ l) : 97 ≤ c.toNat ∧ c.toNat ≤ 122 := by
  unfold Am.isName at h
  simp only [Bool.and_eq_true, decide_eq_true_eq, List.all_eq_true] at h
  exact h.2.2 c hc
theorem Am.zname_len {l : List UInt8} (h : Am.isName l = true) : 1 ≤ l.length ∧ l.length ≤ 16 := by
  unfold Am.isName at h
  simp only [Bool.and_eq_true, decide_eq_true_eq] at h
  exact ⟨h.1, h.2.1⟩
/-- A label's line. -/
theorem Am.rline_label {d : List UInt8} (hn : Am.isName d = true) : Am.line (d ++ [58]) = ⟨1, [], d⟩ ∧ Am.spl 32 (d ++ [58]) = [d ++ [58]] := by
  have hl := Am.zname_len hn
  refine ⟨?_, ?_⟩
  · unfold Am.line
    rw [if_neg, if_pos (by simp), List.dropLast_concat, if_pos hn]
    rintro (e | e)
    · simp at e
    · cases d with
      | nil => simp at hl
      | cons c d =>
        simp at e
        have := (Am.name_no hn (c := c) (by simp)).1
        rw [e] at this
        exact absurd this (by decide)
  · refine Am.spl_none 32 _ fun h => ?_
    rcases List.mem_append.1 h with h | h
    · have := (Am.name_no hn h).1
      exact absurd this (by decide)
    · simp at h
theorem Am.rline_sen {s : List UInt8} (h0 : s ≠ []) (h35 : s.head? ≠ some 35) (hl : ¬ (s.getLast? = some 58 ∧ Am.isName s.dropLast = true)) : Am.line s = Am.sen ((Am.spl 32 s).headD []) (Am.spl 32 s).tail := by
  unfold Am.line
  rw [if_neg (fun e => e.elim h0 h35)]
  split
  · rename_i h
    rw [if_neg (fun q => hl ⟨h, q⟩), Am.sen_colon s h]
  · rfl
/-- What Read answers of a line. -/
def Am.LinR (l : Am.Ln) (r : Am.RL) (wr : Bool) : Prop :=
  (l.kind = 0 ∧ wr = false ∧ r = Am.rl0) ∨ (l.kind = 1 ∧ wr = false ∧ r = ⟨l.nm, [], [], []⟩) ∨ (l.kind = 2 ∧ Am.Lin (some (l.bs, l.nm)) r wr) ∨ (l.kind = 3 ∧ wr = true)
theorem Am.LinR.of {o : Option (List UInt8 × List UInt8)} {r : Am.RL} {wr : Bool} (h : Am.Lin o r wr) : Am.LinR (Am.lnO o) r wr := by
  cases o with
  | none =>
    rcases h with ⟨_, h⟩ | ⟨v, h, _⟩
    · exact .inr (.inr (.inr ⟨rfl, h⟩))
    · cases h
  | some v => exact .inr (.inr (.inl ⟨rfl, h⟩))
def Am.RdP (w : World) (l : Am.Ln) (e : Ending) (w' : World) : Prop :=
  Below w.heap.size w w' ∧ ∃ (r : Am.RL) (E : Am.SC × Am.SC) (wr : Bool), e = .returned (.agg #[.string ⟨r.lb.toArray⟩, .slice E.1.1 r.ns.length E.1.2, .slice E.2.1 r.ss.length E.2.2, .string ⟨r.nm.toArray⟩, .bool wr]) ∧ Am.LnM w' w.heap.size (.slice E.1.1 r.ns.length E.1.2) (.slice E.2.1 r.ss.length E.2.2) r.ns r.ss ∧ Am.LinR l r wr
end Go.Proofs.YtldbhcbmcogmfaaDoor
