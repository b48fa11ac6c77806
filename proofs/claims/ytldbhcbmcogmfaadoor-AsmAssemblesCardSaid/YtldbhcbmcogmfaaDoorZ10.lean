import Derived.Test.YtldbhcbmcogmfaaDoorZ09
set_option linter.all false
/- The document's line of an instruction: what it answers, and where it is wrong. -/
namespace Go.Proofs.YtldbhcbmcogmfaaDoor
open Go.RowKit Go.Lib
set_option linter.unusedVariables false
set_option maxRecDepth 8000

/-- A line's numbers as1 bytes. -/
def Am.flat : List Int → List Int → List UInt8
  | n :: ns, s :: ss => (if s = 1 then [UInt8.ofNat (n % 256).toNat] else [UInt8.ofNat (n % 256).toNat, UInt8.ofNat (n / 256 % 256).toNat]) ++ Am.flat ns ss
  | _, _ => []
/-- A line that makes these bytes with this name; or is wrong. -/
def Am.Lin (o : Option (List UInt8 × List UInt8)) (r : Am.RL) (wr : Bool) : Prop :=
  (o = none ∧ wr = true) ∨ ∃ v, o = some v ∧ wr = false ∧ r.lb = [] ∧ r.nm = v.2 ∧ Am.Fit r ∧ Am.flat r.ns r.ss = v.1 ∧ (v.2 ≠ [] → r.ss.getLast? = some 2)
def Am.LnP (w : World) (o : Option (List UInt8 × List UInt8)) (e : Ending) (w' : World) : Prop :=
  Below w.heap.size w w' ∧ ∃ (r : Am.RL) (E : Am.SC × Am.SC) (wr : Bool), e = .returned (.agg #[.string ⟨r.lb.toArray⟩, .slice E.1.1 r.ns.length E.1.2, .slice E.2.1 r.ss.length E.2.2, .string ⟨r.nm.toArray⟩, .bool wr]) ∧ Am.LnM w' w.heap.size (.slice E.1.1 r.ns.length E.1.2) (.slice E.2.1 r.ss.length E.2.2) r.ns r.ss ∧ Am.Lin o r wr
theorem Am.LnP.wrong {w w' : World} {o : Option (List UInt8 × List UInt8)} (h : o = none) (b : Below w.heap.size w w') : Am.LnP w o (.returned (.agg #[.string ⟨#[]⟩, .slice none 0 0, .slice none 0 0, .string ⟨#[]⟩, .bool true])) w' :=
  ⟨b, Am.rl0, ((none, 0), (none, 0)), true, rfl, Am.LnM.nil w' _, .inl ⟨h, rfl⟩⟩
theorem Am.ins_nums (w : World) (c : Int) : ∃ W4, W4 = (((w.alloc (.cells #[.string ⟨#[]⟩, .slice none 0 0, .slice none 0 0, .string ⟨#[]⟩, .bool false] 35)).alloc (.cells #[.int .i64 c, .int .i64 0] 3)).alloc (.cells #[.int .i64 1, .int .i64 1] 3)).alloc (.cells #[.string ⟨#[]⟩, .slice (some ⟨w.heap.size + 1, 0, none⟩) 2 2, .slice (some ⟨w.heap.size + 1 + 1, 0, none⟩) 2 2, .string ⟨#[]⟩, .bool false] 35) ∧ Blk W4 w.heap.size 35 #[.string ⟨#[]⟩, .slice none 0 0, .slice none 0 0, .string ⟨#[]⟩, .bool false] ∧ Blk W4 (w.heap.size + 1 + 1 + 1) 35 #[.string ⟨#[]⟩, .slice (some ⟨w.heap.size + 1, 0, none⟩) 2 2, .slice (some ⟨w.heap.size + 1 + 1, 0, none⟩) 2 2, .string ⟨#[]⟩, .bool false] ∧
    Blk W4 (w.heap.size + 1) 3 #[.int .i64 c, .int .i64 0] ∧ Blk W4 (w.heap.size + 1 + 1) 3 #[.int .i64 1, .int .i64 1] ∧ w.grownBy W4 none ∧ W4.heap.size = w.heap.size + 1 + 1 + 1 + 1 := by
  obtain ⟨A1, hA1, g1, k1⟩ := Am.box1 w 35 #[.string ⟨#[]⟩, .slice none 0 0, .slice none 0 0, .string ⟨#[]⟩, .bool false]
  have z1 : A1.heap.size = w.heap.size + 1 := by rw [hA1]; simp
  obtain ⟨A2, hA2, g2, k2⟩ := Am.box1 A1 3 #[.int .i64 c, .int .i64 0]
  have z2 : A2.heap.size = w.heap.size + 1 + 1 := by rw [hA2]; simp [z1]
  obtain ⟨A3, hA3, g3, k3⟩ := Am.box1 A2 3 #[.int .i64 1, .int .i64 1]
  have z3 : A3.heap.size = w.heap.size + 1 + 1 + 1 := by rw [hA3]; simp [z2]
  obtain ⟨A4, hA4, g4, k4⟩ := Am.box1 A3 35 #[.string ⟨#[]⟩, .slice (some ⟨w.heap.size + 1, 0, none⟩) 2 2, .slice (some ⟨w.heap.size + 1 + 1, 0, none⟩) 2 2, .string ⟨#[]⟩, .bool false]
  have z4 : A4.heap.size = w.heap.size + 1 + 1 + 1 + 1 := by rw [hA4]; simp [z3]
  rw [z1] at k2
  rw [z2] at k3
  rw [z3] at k4
  exact ⟨A4, by rw [hA4, hA3, hA2, hA1], ((k1.only g2 (by simp)).only g3 (by simp)).only g4 (by simp), k4, (k2.only g3 (by simp)).only g4 (by simp), k3.only g4 (by simp), only_trans (only_trans (only_trans g1 g2) g3) g4, z4⟩
theorem Am.ins_lnm {w W : World} {x y z u : Int} (h1 : Blk W (w.heap.size + 1) 3 #[.int .i64 x, .int .i64 y]) (h2 : Blk W (w.heap.size + 1 + 1) 3 #[.int .i64 z, .int .i64 u]) : Am.LnM W w.heap.size (.slice (some ⟨w.heap.size + 1, 0, none⟩) 2 2) (.slice (some ⟨w.heap.size + 1 + 1, 0, none⟩) 2 2) [x, y] [z, u] := by
  have mk : ∀ (g : Nat) (a b : Int), Blk W g 3 #[.int .i64 a, .int .i64 b] → RowZ 1 W (.slice (some ⟨g, 0, none⟩) 2 2) [a, b].length (Am.intsC [a, b]) := fun g a b h => ⟨rfl, .inr ⟨g, 0, 2, rfl, by simp, by decide, h.lt, fun j hj => ⟨by
      rw [Nat.zero_add, h.cell j]
      have : j = 0 ∨ j = 1 := by omega
      rcases this with rfl | rfl <;> rfl, by rw [Nat.zero_add]; exact h.free j⟩, fun j u hu => by
      rw [Nat.zero_add, h.cell j]
      simpa [Am.intsC] using hu⟩⟩
  refine ⟨mk _ _ _ h1, mk _ _ _ h2, fun k hk => ?_, fun k hk => ?_, fun k hk e => ?_⟩
  · simp [Value.ownBlock] at hk; omega
  · simp [Value.ownBlock] at hk; omega
  · simp [Value.ownBlock] at hk e; omega
theorem Am.wrong_put {w W : World} (h : Blk W w.heap.size 35 #[.string ⟨#[]⟩, .slice none 0 0, .slice none 0 0, .string ⟨#[]⟩, .bool false]) (b : Below w.heap.size w W) : ∃ WX, WX = ((((W.setCell ⟨w.heap.size, 0, none⟩ (.string ⟨#[]⟩)).setCell ⟨w.heap.size, 1, none⟩ (.slice none 0 0)).setCell ⟨w.heap.size, 2, none⟩ (.slice none 0 0)).setCell ⟨w.heap.size, 3, none⟩ (.string ⟨#[]⟩)).setCell ⟨w.heap.size, 4, none⟩ (.bool true) ∧ Blk WX w.heap.size 35 #[.string ⟨#[]⟩, .slice none 0 0, .slice none 0 0, .string ⟨#[]⟩, .bool true] ∧ Below w.heap.size w WX := by
  refine ⟨_, rfl, ?_, ?_⟩
  · have := ((((h.put 0 (.string ⟨#[]⟩)).put 1 (.slice none 0 0)).put 2 (.slice none 0 0)).put 3 (.string ⟨#[]⟩)).put 4 (.bool true)
    simpa using this
  · exact ((((b.setCell (Nat.le_refl _) _).setCell (Nat.le_refl _) _).setCell (Nat.le_refl _) _).setCell (Nat.le_refl _) _).setCell (Nat.le_refl _) _
set_option maxRecDepth 20000 in
set_option maxHeartbeats 1600000 in
theorem Am.instr_w0 (A : Option Addr) (n k : Nat) (L : List (List UInt8)) (hn : n = L.length) (h1 : 1 ≤ n) (h : ¬ n = 1) (w : World) : Calls Tryd.prog 35 #[.int .i64 0, .slice A n k] w (Am.LnP w (Am.ins 0 L.tail)) := by
  have HI := Lib.hid (show Am.ins 0 L.tail = none from by
    unfold Am.ins
    rw [if_pos (by decide), if_neg]
    intro e
    have := congrArg List.length e
    rw [List.length_tail] at this
    simp at this
    omega)
  obtain ⟨W4, hW4, P1, P2, P3, P4, G4, z4⟩ := Am.ins_nums w 0
  have b4 : Below w.heap.size w W4 := below_of_only G4 (Nat.le_refl _) (by simp)
  obtain ⟨WX, hWX, Q, bX⟩ := Am.wrong_put P1 b4
  have i1 : ¬ (n : Int) = 1 := by omega
  obtain ⟨a0, a1, a2, a3, a4, g0, g1, g2, g3, g4⟩ := Am.box5c P1
  obtain ⟨q0, q1, q2, q3, q4, _⟩ := Am.box5c Q
  have BX := Lib.hid bX
  clear P1 P2 P3 P4 G4 z4 b4 Q bX hn
  go_enter Tryd.func35, Tryd.ntmps35
  go_upto_region 2 with (fail)
  rw [← hW4]
  clear hW4
  go_wp2
  rw [← hWX]
  clear hWX
  exact bodyPost_ret (v := .agg #[.string ⟨#[]⟩, .slice none 0 0, .slice none 0 0, .string ⟨#[]⟩, .bool true]) (by simp [results, Tryd.results35, go_sem, q0, q1, q2, q3, q4]) rfl (Am.LnP.wrong HI.out BX.out)
set_option maxRecDepth 20000 in
set_option maxHeartbeats 1600000 in
theorem Am.instr_w15 (A : Option Addr) (n k : Nat) (L : List (List UInt8)) (hn : n = L.length) (h1 : 1 ≤ n) (h : ¬ n = 1) (w : World) : Calls Tryd.prog 35 #[.int .i64 15, .slice A n k] w (Am.LnP w (Am.ins 15 L.tail)) := by
  have HI := Lib.hid (show Am.ins 15 L.tail = none from by
    unfold Am.ins
    rw [if_pos (by decide), if_neg]
    intro e
    have := congrArg List.length e
    rw [List.length_tail] at this
    simp at this
    omega)
  obtain ⟨W4, hW4, P1, P2, P3, P4, G4, z4⟩ := Am.ins_nums w 15
  have b4 : Below w.heap.size w W4 := below_of_only G4 (Nat.le_refl _) (by simp)
  obtain ⟨WX, hWX, Q, bX⟩ := Am.wrong_put P1 b4
  have i1 : ¬ (n : Int) = 1 := by omega
  obtain ⟨a0, a1, a2, a3, a4, g0, g1, g2, g3, g4⟩ := Am.box5c P1
  obtain ⟨q0, q1, q2, q3, q4, _⟩ := Am.box5c Q
  have BX := Lib.hid bX
  clear P1 P2 P3 P4 G4 z4 b4 Q bX hn
  go_enter Tryd.func35, Tryd.ntmps35
  go_upto_region 2 with (fail)
  rw [← hW4]
  clear hW4
  go_wp2
  rw [← hWX]
  clear hWX
  exact bodyPost_ret (v := .agg #[.string ⟨#[]⟩, .slice none 0 0, .slice none 0 0, .string ⟨#[]⟩, .bool true]) (by simp [results, Tryd.results35, go_sem, q0, q1, q2, q3, q4]) rfl (Am.LnP.wrong HI.out BX.out)
set_option maxRecDepth 20000 in
set_option maxHeartbeats 1600000 in
theorem Am.instr_w11 (A : Option Addr) (n k : Nat) (L : List (List UInt8)) (hn : n = L.length) (h1 : 1 ≤ n) (h : ¬ n = 2) (w : World) : Calls Tryd.prog 35 #[.int .i64 11, .slice A n k] w (Am.LnP w (Am.ins 11 L.tail)) := by
  have HI := Lib.hid (show Am.ins 11 L.tail = none from by
    unfold Am.ins
    rw [if_neg (by decide), if_pos rfl, if_neg (by rw [List.length_tail]; omega)])
  obtain ⟨W4, hW4, P1, P2, P3, P4, G4, z4⟩ := Am.ins_nums w 11
  have b4 : Below w.heap.size w W4 := below_of_only G4 (Nat.le_refl _) (by simp)
  obtain ⟨WX, hWX, Q, bX⟩ := Am.wrong_put P1 b4
  have i1 : ¬ (n : Int) = 2 := by omega
  obtain ⟨a0, a1, a2, a3, a4, g0, g1, g2, g3, g4⟩ := Am.box5c P1
  obtain ⟨q0, q1, q2, q3, q4, _⟩ := Am.box5c Q
  have BX := Lib.hid bX
  clear P1 P2 P3 P4 G4 z4 b4 Q bX hn
  go_enter Tryd.func35, Tryd.ntmps35
  go_upto_region 2 with (fail)
  rw [← hW4]
  clear hW4
  go_wp2
  rw [← hWX]
  clear hWX
  exact bodyPost_ret (v := .agg #[.string ⟨#[]⟩, .slice none 0 0, .slice none 0 0, .string ⟨#[]⟩, .bool true]) (by simp [results, Tryd.results35, go_sem, q0, q1, q2, q3, q4]) rfl (Am.LnP.wrong HI.out BX.out)
set_option maxRecDepth 20000 in
set_option maxHeartbeats 1600000 in
theorem Am.instr_w3 (c : Nat) (hc : c < 16) (c0 : c ≠ 0) (c15 : c ≠ 15) (c11 : c ≠ 11) (A : Option Addr) (n k : Nat) (L : List (List UInt8)) (hn : n = L.length) (h1 : 1 ≤ n) (h : ¬ n = 3) (w : World) : Calls Tryd.prog 35 #[.int .i64 c, .slice A n k] w (Am.LnP w (Am.ins c L.tail)) := by
  have HI := Lib.hid (show Am.ins c L.tail = none from by
    unfold Am.ins
    rw [if_neg (by omega), if_neg c11, if_neg (by rw [List.length_tail]; omega)])
  obtain ⟨W4, hW4, P1, P2, P3, P4, G4, z4⟩ := Am.ins_nums w c
  have b4 : Below w.heap.size w W4 := below_of_only G4 (Nat.le_refl _) (by simp)
  obtain ⟨WX, hWX, Q, bX⟩ := Am.wrong_put P1 b4
  have i1 : ¬ (n : Int) = 3 := by omega
  have j0 : ¬ (c : Int) = 0 := by omega
  have j15 : ¬ (c : Int) = 15 := by omega
  have j11 : ¬ (c : Int) = 11 := by omega
  have e0 : ((c : Int) == 0) = false := by rw [beq_eq_false_iff_ne]; exact j0
  have e15 : ((c : Int) == 15) = false := by rw [beq_eq_false_iff_ne]; exact j15
  have e11 : ((c : Int) == 11) = false := by rw [beq_eq_false_iff_ne]; exact j11
  clear c0 c15 c11 hc
  obtain ⟨a0, a1, a2, a3, a4, g0, g1, g2, g3, g4⟩ := Am.box5c P1
  obtain ⟨q0, q1, q2, q3, q4, _⟩ := Am.box5c Q
  have BX := Lib.hid bX
  clear P1 P2 P3 P4 G4 z4 b4 Q bX hn
  go_enter Tryd.func35, Tryd.ntmps35
  go_upto_region 2 with (fail)
  rw [← hW4]
  clear hW4
  go_wp2
  rw [← hWX]
  clear hWX
  exact bodyPost_ret (v := .agg #[.string ⟨#[]⟩, .slice none 0 0, .slice none 0 0, .string ⟨#[]⟩, .bool true]) (by simp [results, Tryd.results35, go_sem, q0, q1, q2, q3, q4]) rfl (Am.LnP.wrong HI.out BX.out)
end Go.Proofs.YtldbhcbmcogmfaaDoor

/- The document's line of an instruction without words. -/
namespace Go.Proofs.YtldbhcbmcogmfaaDoor
open Go.RowKit Go.Lib
set_option linter.unusedVariables false
set_option maxRecDepth 8000

theorem Am.LnM.mono {w : World} {B B' : Nat} {na sa : Value} {ns ss : List Int} (h : Am.LnM w B na sa ns ss) (hB : B' ≤ B) : Am.LnM w B' na sa ns ss :=
  ⟨h.n, h.s, fun k hk => Nat.le_trans hB (h.nb k hk), fun k hk => Nat.le_trans hB (h.sb k hk), h.ne⟩
theorem Am.ins_lnm1 {w W : World} {x y z u : Int} (h1 : Blk W (w.heap.size + 1) 3 #[.int .i64 x, .int .i64 y]) (h2 : Blk W (w.heap.size + 1 + 1) 3 #[.int .i64 z, .int .i64 u]) : Am.LnM W (w.heap.size + 1) (.slice (some ⟨w.heap.size + 1, 0, none⟩) 2 2) (.slice (some ⟨w.heap.size + 1 + 1, 0, none⟩) 2 2) [x, y] [z, u] := by
  have h := Am.ins_lnm h1 h2
  refine ⟨h.n, h.s, fun k hk => ?_, fun k hk => ?_, h.ne⟩
  · simp [Value.ownBlock] at hk; omega
  · simp [Value.ownBlock] at hk; omega
/-- A line stored as1 the result. -/
theorem Am.res_put {w W : World} {na sa : Value} {ns ss : List Int} {lb nm : ByteArray} {wr : Bool} (h : Blk W w.heap.size 35 #[.string ⟨#[]⟩, .slice none 0 0, .slice none 0 0, .string ⟨#[]⟩, .bool false]) (b : Below w.heap.size w W) (m : Am.LnM W (w.heap.size + 1) na sa ns ss) : ∃ WX, WX = ((((W.setCell ⟨w.heap.size, 0, none⟩ (.string lb)).setCell ⟨w.heap.size, 1, none⟩ na).setCell ⟨w.heap.size, 2, none⟩ sa).setCell ⟨w.heap.size, 3, none⟩ (.string nm)).setCell ⟨w.heap.size, 4, none⟩ (.bool wr) ∧ Blk WX w.heap.size 35 #[.string lb, na, sa, .string nm, .bool wr] ∧ Below w.heap.size w WX ∧ Am.LnM WX w.heap.size na sa ns ss ∧ ∀ i, i ≠ w.heap.size → WX.heap[i]? = W.heap[i]? := by
  have x : na.ownBlock ≠ some w.heap.size := fun e => by have := m.nb _ e; omega
  have y : sa.ownBlock ≠ some w.heap.size := fun e => by have := m.sb _ e; omega
  refine ⟨_, rfl, ?_, ?_, ?_, fun i hi => ?_⟩
  · have := ((((h.put 0 (.string lb)).put 1 na).put 2 sa).put 3 (.string nm)).put 4 (.bool wr)
    simpa using this
  · exact ((((b.setCell (Nat.le_refl _) _).setCell (Nat.le_refl _) _).setCell (Nat.le_refl _) _).setCell (Nat.le_refl _) _).setCell (Nat.le_refl _) _
  · exact (((((m.mono (Nat.le_succ _)).put x y _).put x y _).put x y _).put x y _).put x y _
  · refine (Below.heap_setCell _ ⟨w.heap.size, 4, none⟩ _ i hi).trans ?_
    refine (Below.heap_setCell _ ⟨w.heap.size, 3, none⟩ _ i hi).trans ?_
    refine (Below.heap_setCell _ ⟨w.heap.size, 2, none⟩ _ i hi).trans ?_
    refine (Below.heap_setCell _ ⟨w.heap.size, 1, none⟩ _ i hi).trans ?_
    exact Below.heap_setCell _ ⟨w.heap.size, 0, none⟩ _ i hi
theorem Am.zero_word : Am.isName (⟨#[48]⟩ : ByteArray).data.toList = false ∧ Am.numZ (⟨#[48]⟩ : ByteArray).data.toList 65535 = 0 := by decide
set_option maxRecDepth 20000 in
set_option maxHeartbeats 1600000 in
theorem Am.instr_g0 (A : Option Addr) (k : Nat) (L : List (List UInt8)) (hn : 1 = L.length) (w : World) : Calls Tryd.prog 35 #[.int .i64 0, .slice A 1 k] w (Am.LnP w (Am.ins 0 L.tail)) := by
  have HI := Lib.hid (show Am.ins 0 L.tail = some (Am.pt 0 0 0, []) from by
    unfold Am.ins
    rw [if_pos (by decide), if_pos]
    exact List.eq_nil_of_length_eq_zero (by rw [List.length_tail]; omega))
  obtain ⟨W4, hW4, P1, P2, P3, P4, G4, z4⟩ := Am.ins_nums w 0
  have b4 : Below w.heap.size w W4 := below_of_only G4 (Nat.le_refl _) (by simp)
  have hv := Am.rvalue_any ⟨#[]⟩ ⟨#[]⟩ ⟨#[48]⟩ (by decide) false (w.heap.size + 1) _ _ 2 2 [0, 0] [1, 1] W4 (Am.ins_lnm1 P3 P4) (by omega) (by decide) (by decide)
  rw [Am.zero_word.1, Am.zero_word.2] at hv
  have HV := Lib.hid (show Calls Tryd.prog 33 #[.agg #[.string ⟨#[]⟩, .slice (some ⟨w.heap.size + 1, 0, none⟩) 2 2, .slice (some ⟨w.heap.size + 1 + 1, 0, none⟩) 2 2, .string ⟨#[]⟩, .bool false], .string ⟨#[48]⟩] W4 fun e w' => ∃ A c A2 c2, e = .returned (.agg #[.string ⟨#[]⟩, .slice A 3 c, .slice A2 3 c2, .string ⟨#[]⟩, .bool false]) ∧ Am.LnM w' (w.heap.size + 1) (.slice A 3 c) (.slice A2 3 c2) [0, 0, 0] [1, 1, 2] ∧ Below (w.heap.size + 1) W4 w' ∧ _ from hv)
  have i1 : (1 : Int) = 1 := rfl
  obtain ⟨a0, a1, a2, a3, a4, g0, g1, g2, g3, g4⟩ := Am.box5c P1
  obtain ⟨e0, e1, e2, e3, e4, _⟩ := Am.box5c P2
  have HP := Lib.hid P1
  have HB := Lib.hid b4
  have HG := Lib.hid G4.size
  clear P1 P2 P3 P4 G4 z4 b4 hn hv
  go_enter Tryd.func35, Tryd.ntmps35
  go_upto_region 2 with (fail)
  rw [← hW4]
  clear hW4
  go_upto_region 10 with (fail)
  go_wp2_with (go_at_call 33; (with_reducible refine HV.out.mono ?_); rintro e w6 ⟨nA, nc, sA, sc, rfl, M6, bel, _⟩; have HM := Lib.hid M6; have P6 := HP.out.below bel (Nat.lt_succ_self _); have B6 := Lib.hid (HB.out.trans (bel.mono (Nat.le_succ _))); have HP6 := Lib.hid P6; obtain ⟨b0, b1, b2, b3, b4, f0, f1, f2, f3, f4⟩ := Am.box5c P6; clear P6 M6 bel)
  obtain ⟨WX, hWX, Q, BX, MX, _⟩ := Am.res_put (lb := ⟨#[]⟩) (nm := ⟨#[]⟩) (wr := false) HP6.out B6.out HM.out
  rw [← hWX]
  clear hWX
  obtain ⟨q0, q1, q2, q3, q4, _⟩ := Am.box5c Q
  exact bodyPost_ret (v := .agg #[.string ⟨#[]⟩, .slice nA 3 nc, .slice sA 3 sc, .string ⟨#[]⟩, .bool false]) (by simp [results, Tryd.results35, go_sem, q0, q1, q2, q3, q4]) rfl ⟨BX, ⟨[], [], [0, 0, 0], [1, 1, 2]⟩, ((nA, nc), (sA, sc)), false, rfl, MX, .inr ⟨_, HI.out, rfl, rfl, rfl, ⟨by unfold Am.Szs; decide, by decide, by decide⟩, by decide, fun h => absurd rfl h⟩⟩
set_option maxRecDepth 20000 in
set_option maxHeartbeats 1600000 in
theorem Am.instr_g15 (A : Option Addr) (k : Nat) (L : List (List UInt8)) (hn : 1 = L.length) (w : World) : Calls Tryd.prog 35 #[.int .i64 15, .slice A 1 k] w (Am.LnP w (Am.ins 15 L.tail)) := by
  have HI := Lib.hid (show Am.ins 15 L.tail = some (Am.pt 15 0 0, []) from by
    unfold Am.ins
    rw [if_pos (by decide), if_pos]
    exact List.eq_nil_of_length_eq_zero (by rw [List.length_tail]; omega))
  obtain ⟨W4, hW4, P1, P2, P3, P4, G4, z4⟩ := Am.ins_nums w 15
  have b4 : Below w.heap.size w W4 := below_of_only G4 (Nat.le_refl _) (by simp)
  have hv := Am.rvalue_any ⟨#[]⟩ ⟨#[]⟩ ⟨#[48]⟩ (by decide) false (w.heap.size + 1) _ _ 2 2 [15, 0] [1, 1] W4 (Am.ins_lnm1 P3 P4) (by omega) (by decide) (by decide)
  rw [Am.zero_word.1, Am.zero_word.2] at hv
  have HV := Lib.hid (show Calls Tryd.prog 33 #[.agg #[.string ⟨#[]⟩, .slice (some ⟨w.heap.size + 1, 0, none⟩) 2 2, .slice (some ⟨w.heap.size + 1 + 1, 0, none⟩) 2 2, .string ⟨#[]⟩, .bool false], .string ⟨#[48]⟩] W4 fun e w' => ∃ A c A2 c2, e = .returned (.agg #[.string ⟨#[]⟩, .slice A 3 c, .slice A2 3 c2, .string ⟨#[]⟩, .bool false]) ∧ Am.LnM w' (w.heap.size + 1) (.slice A 3 c) (.slice A2 3 c2) [15, 0, 0] [1, 1, 2] ∧ Below (w.heap.size + 1) W4 w' ∧ _ from hv)
  have i1 : (1 : Int) = 1 := rfl
  obtain ⟨a0, a1, a2, a3, a4, g0, g1, g2, g3, g4⟩ := Am.box5c P1
  obtain ⟨e0, e1, e2, e3, e4, _⟩ := Am.box5c P2
  have HP := Lib.hid P1
  have HB := Lib.hid b4
  have HG := Lib.hid G4.size
  clear P1 P2 P3 P4 G4 z4 b4 hn hv
  go_enter Tryd.func35, Tryd.ntmps35
  go_upto_region 2 with (fail)
  rw [← hW4]
  clear hW4
  go_upto_region 10 with (fail)
  go_wp2_with (go_at_call 33; (with_reducible refine HV.out.mono ?_); rintro e w6 ⟨nA, nc, sA, sc, rfl, M6, bel, _⟩; have HM := Lib.hid M6; have P6 := HP.out.below bel (Nat.lt_succ_self _); have B6 := Lib.hid (HB.out.trans (bel.mono (Nat.le_succ _))); have HP6 := Lib.hid P6; obtain ⟨b0, b1, b2, b3, b4, f0, f1, f2, f3, f4⟩ := Am.box5c P6; clear P6 M6 bel)
  obtain ⟨WX, hWX, Q, BX, MX, _⟩ := Am.res_put (lb := ⟨#[]⟩) (nm := ⟨#[]⟩) (wr := false) HP6.out B6.out HM.out
  rw [← hWX]
  clear hWX
  obtain ⟨q0, q1, q2, q3, q4, _⟩ := Am.box5c Q
  exact bodyPost_ret (v := .agg #[.string ⟨#[]⟩, .slice nA 3 nc, .slice sA 3 sc, .string ⟨#[]⟩, .bool false]) (by simp [results, Tryd.results35, go_sem, q0, q1, q2, q3, q4]) rfl ⟨BX, ⟨[], [], [15, 0, 0], [1, 1, 2]⟩, ((nA, nc), (sA, sc)), false, rfl, MX, .inr ⟨_, HI.out, rfl, rfl, rfl, ⟨by unfold Am.Szs; decide, by decide, by decide⟩, by decide, fun h => absurd rfl h⟩⟩
end Go.Proofs.YtldbhcbmcogmfaaDoor

/- The document's line of an instruction with one word. -/
namespace Go.Proofs.YtldbhcbmcogmfaaDoor
open Go.RowKit Go.Lib
set_option linter.unusedVariables false
set_option maxRecDepth 8000

theorem Am.word_at {w : World} {A : Option Addr} {n k : Nat} {L : List (List UInt8)} (h : RowZ 1 w (.slice A n k) L.length (Am.strs L)) (h0 : 0 < L.length) : ∃ g off, A = some ⟨g, off, none⟩ ∧ g < w.heap.size ∧ ∀ i, i < L.length → w.cell? ⟨g, off + i, none⟩ = some (.string ⟨(L.getD i []).toArray⟩) := by
  rcases h with ⟨_, ⟨e, h1⟩ | ⟨g, off, cap, e, _, _, hg, _, hc⟩⟩
  · omega
  · injection e with e1 e2 e3
    refine ⟨g, off, e1, hg, fun i hi => hc i _ ?_⟩
    simp [Am.strs, List.getD, hi]
def Am.vNm (wd : List UInt8) : List UInt8 := if Am.isName wd then wd else []
def Am.vN (wd : List UInt8) : Int := if Am.isName wd then 0 else Am.numZ wd 65535
def Am.vW (wd : List UInt8) : Bool := !Am.isName wd && decide (Am.numZ wd 65535 < 0)
theorem Am.u8_mod (n : Nat) : UInt8.ofNat ((n : Int) % 256).toNat = UInt8.ofNat n := by
  rw [show ((n : Int) % 256).toNat = n % 256 from by omega]
  apply UInt8.toNat_inj.1
  simp
theorem Am.u8_two (n : Nat) : ((n : Int) % 256).toNat = n % 256 ∧ ((n : Int) / 256 % 256).toNat = n / 256 % 256 := by omega
theorem Am.flat_pt (c x n : Nat) : Am.flat [(c : Int), (x : Int), (n : Int)] [1, 1, 2] = Am.pt c x n := by
  show [UInt8.ofNat ((c : Int) % 256).toNat] ++ ([UInt8.ofNat ((x : Int) % 256).toNat] ++ ([UInt8.ofNat ((n : Int) % 256).toNat, UInt8.ofNat ((n : Int) / 256 % 256).toNat] ++ [])) = _
  rw [Am.u8_mod, Am.u8_mod, (Am.u8_two n).1, (Am.u8_two n).2]
  rfl
theorem Am.fit3 (lb nm : List UInt8) (a b c : Int) : Am.Fit ⟨lb, nm, [a, b, c], [1, 1, 2]⟩ := ⟨by unfold Am.Szs; simp, by simp, by simp⟩
theorem Am.val_lin (c x : Nat) (wd : List UInt8) : Am.Lin ((Am.val wd).map fun v => (Am.pt c x v.1, v.2)) ⟨[], Am.vNm wd, [(c : Int), (x : Int), Am.vN wd], [1, 1, 2]⟩ (Am.vW wd) := by
  unfold Am.val Am.vNm Am.vN Am.vW
  by_cases h : Am.isName wd = true
  · rw [if_pos h, if_pos h, if_pos h, h]
    exact .inr ⟨_, rfl, rfl, rfl, rfl, Am.fit3 _ _ _ _ _, Am.flat_pt c x 0, fun _ => rfl⟩
  · rw [if_neg h, if_neg h, if_neg h]
    have hf : Am.isName wd = false := by simpa using h
    rw [hf]
    unfold Am.numZ
    cases e : Am.num wd 65535 with
    | none => exact .inl ⟨rfl, rfl⟩
    | some n =>
      refine .inr ⟨_, rfl, ?_, rfl, rfl, Am.fit3 _ _ _ _ _, Am.flat_pt c x n, fun hh => absurd rfl hh⟩
      have : ¬ ((n : Int) < 0) := by omega
      simp [Am.optZ, this]
theorem Am.vNm_str (word : ByteArray) : (if Am.isName word.data.toList = true then word else ⟨#[]⟩) = (⟨(Am.vNm word.data.toList).toArray⟩ : ByteArray) := by
  unfold Am.vNm
  split <;> rfl
set_option maxRecDepth 20000 in
set_option maxHeartbeats 1600000 in
theorem Am.instr_g11 (A : Option Addr) (k : Nat) (L : List (List UInt8)) (hn : 2 = L.length) (hsz : ∀ x ∈ L, x.length ≤ 100000) (w : World) (hrow : RowZ 1 w (.slice A 2 k) L.length (Am.strs L)) : Calls Tryd.prog 35 #[.int .i64 11, .slice A 2 k] w (Am.LnP w (Am.ins 11 L.tail)) := by
  obtain ⟨g, off, rfl, hg, hcw⟩ := Am.word_at hrow (by omega)
  obtain ⟨word, hword⟩ : ∃ word : ByteArray, word = ⟨(L.getD 1 []).toArray⟩ := ⟨_, rfl⟩
  have cw := hcw 1 (by omega)
  rw [← hword] at cw
  have hwl : word.data.toList = L.getD 1 [] := by rw [hword]
  have hws : word.size ≤ 100000 := by
    have h1 := hsz (L.getD 1 []) (by
      have : 1 < L.length := by omega
      simp [List.getD, this])
    rw [← hwl, Am.len] at h1
    exact h1
  have HI := Lib.hid (show Am.ins 11 L.tail = (Am.val word.data.toList).map fun v => (Am.pt 11 0 v.1, v.2) from by
    unfold Am.ins
    rw [if_neg (by decide), if_pos rfl, if_pos (by rw [List.length_tail]; omega), hwl]
    congr 2
    cases L with
    | nil => rfl
    | cons a r => rfl)
  obtain ⟨W4, hW4, P1, P2, P3, P4, G4, z4⟩ := Am.ins_nums w 11
  have b4 : Below w.heap.size w W4 := below_of_only G4 (Nat.le_refl _) (by simp)
  have hv := Am.rvalue_any ⟨#[]⟩ ⟨#[]⟩ word hws false (w.heap.size + 1) _ _ 2 2 [11, 0] [1, 1] W4.drew (Am.ins_lnm1 (show Blk W4.drew _ _ _ from P3) (show Blk W4.drew _ _ _ from P4)) (show w.heap.size + 1 ≤ W4.heap.size by omega) (by decide) (by decide)
  rw [Am.vNm_str] at hv
  have HV := Lib.hid (show Calls Tryd.prog 33 #[.agg #[.string ⟨#[]⟩, .slice (some ⟨w.heap.size + 1, 0, none⟩) 2 2, .slice (some ⟨w.heap.size + 1 + 1, 0, none⟩) 2 2, .string ⟨#[]⟩, .bool false], .string word] W4.drew fun e w' => ∃ A c A2 c2, e = .returned (.agg #[.string ⟨#[]⟩, .slice A 3 c, .slice A2 3 c2, .string ⟨(Am.vNm word.data.toList).toArray⟩, .bool (Am.vW word.data.toList)]) ∧ Am.LnM w' (w.heap.size + 1) (.slice A 3 c) (.slice A2 3 c2) [11, 0, Am.vN word.data.toList] [1, 1, 2] ∧ Below (w.heap.size + 1) W4 w' ∧ ∀ i, i < W4.heap.size → i ≠ w.heap.size + 1 → i ≠ w.heap.size + 1 + 1 → w'.heap[i]? = W4.heap[i]? from hv.mono fun e w' h => by
    obtain ⟨A, c, A2, c2, he, m, b, kk⟩ := h
    exact ⟨A, c, A2, c2, he, m, (show Below (w.heap.size + 1) W4 W4.drew from below_drewN (Below.refl _ _) 1).trans b, fun i hi h1 h2 => kk i hi (by simp [Value.ownBlock]; omega) (by simp [Value.ownBlock]; omega)⟩)
  have HLI := Lib.hid (Am.val_lin 11 0 word.data.toList)
  obtain ⟨vn, hvn⟩ : ∃ vn : ByteArray, vn = ⟨(Am.vNm word.data.toList).toArray⟩ := ⟨_, rfl⟩
  rw [← hvn] at HV
  have HVN := Lib.hid hvn
  generalize Am.vW word.data.toList = vw at *
  have cw4 : W4.cell? ⟨g, off + 1, none⟩ = some (.string word) := (b4.cell (p := ⟨g, off + 1, none⟩) hg).trans cw
  have HG := Lib.hid (show g < w.heap.size from hg)
  obtain ⟨a0, a1, a2, a3, a4, g0, g1, g2, g3, g4⟩ := Am.box5c P1
  obtain ⟨e0, e1, e2, e3, e4, _⟩ := Am.box5c P2
  have HP := Lib.hid P1
  have HP2 := Lib.hid P2
  have HB := Lib.hid b4
  have HZ := Lib.hid z4
  have HS : Hid (∀ W : World, (∀ i, i < W4.heap.size → i ≠ w.heap.size → i ≠ w.heap.size + 1 → i ≠ w.heap.size + 1 + 1 → W.heap[i]? = W4.heap[i]?) → W.cell? ⟨w.heap.size + 1 + 1 + 1, 0, none⟩ = some (.string ⟨#[]⟩) ∧ W.cell? ⟨w.heap.size + 1 + 1 + 1, 1, none⟩ = some (.slice (some ⟨w.heap.size + 1, 0, none⟩) 2 2) ∧ W.cell? ⟨w.heap.size + 1 + 1 + 1, 2, none⟩ = some (.slice (some ⟨w.heap.size + 1 + 1, 0, none⟩) 2 2) ∧ W.cell? ⟨w.heap.size + 1 + 1 + 1, 3, none⟩ = some (.string ⟨#[]⟩) ∧ W.cell? ⟨w.heap.size + 1 + 1 + 1, 4, none⟩ = some (.bool false) ∧ W.cell? ⟨g, off + 1, none⟩ = some (.string word)) := Lib.hid fun W h => by
    have P : Blk W (w.heap.size + 1 + 1 + 1) 35 #[.string ⟨#[]⟩, .slice (some ⟨w.heap.size + 1, 0, none⟩) 2 2, .slice (some ⟨w.heap.size + 1 + 1, 0, none⟩) 2 2, .string ⟨#[]⟩, .bool false] := (h _ (by omega) (by omega) (by omega) (by omega)).trans P2
    refine ⟨P.cell 0, P.cell 1, P.cell 2, P.cell 3, P.cell 4, ?_⟩
    have hg4 := h g (by omega) (by omega) (by omega) (by omega)
    rw [← cw4]
    unfold World.cell?
    simp only [hg4]
  clear P1 P2 P3 P4 G4 z4 b4 hn hv hwl hws hword hcw hrow hsz cw hg hvn
  go_enter Tryd.func35, Tryd.ntmps35
  go_upto_region 2 with (fail)
  rw [← hW4]
  clear hW4
  have HD0 := Lib.hid (HS.out W4 (fun i _ _ _ _ => rfl))
  have HD1 := Lib.hid (HS.out W4.drew (fun i _ _ _ _ => rfl))
  go_upto_region 12 with (fail)
  go_region_held3 (fun W => W.cell? ⟨w.heap.size + 1 + 1 + 1, 0, none⟩ = some (.string ⟨#[]⟩) ∧ W.cell? ⟨w.heap.size + 1 + 1 + 1, 1, none⟩ = some (.slice (some ⟨w.heap.size + 1, 0, none⟩) 2 2) ∧ W.cell? ⟨w.heap.size + 1 + 1 + 1, 2, none⟩ = some (.slice (some ⟨w.heap.size + 1 + 1, 0, none⟩) 2 2) ∧ W.cell? ⟨w.heap.size + 1 + 1 + 1, 3, none⟩ = some (.string ⟨#[]⟩) ∧ W.cell? ⟨w.heap.size + 1 + 1 + 1, 4, none⟩ = some (.bool false) ∧ W.cell? ⟨g, off + 1, none⟩ = some (.string word)) (first | with_reducible exact HD0.out | with_reducible exact HD1.out | with_reducible exact HW6.out | with_reducible exact HW7.out | with_reducible exact HW8.out | go_keep) (first
    | (go_at_call 33; (with_reducible refine HV.out.mono ?_); rintro e w6 ⟨nA, nc, sA, sc, rfl, M6, bel, hk⟩; have HW6 := Lib.hid (HS.out w6 (fun i a _ b c => hk i a b c)); have HW7 := Lib.hid (HS.out w6.drew (fun i a _ b c => hk i a b c)); have HM := Lib.hid M6; have P6 := HP.out.below bel (Nat.lt_succ_self _); have B6 := Lib.hid (HB.out.trans (bel.mono (Nat.le_succ _))); obtain ⟨WX, hWX, Q, BX, MX, HX⟩ := Am.res_put (lb := ⟨#[]⟩) (nm := vn) (wr := vw) P6 B6.out HM.out; have HW8 := Lib.hid (HS.out WX (fun i a d b c => (HX i d).trans (hk i a b c))); rw [hWX] at HW8; have HQ := Lib.hid Q; have HBX := Lib.hid BX; have HMX := Lib.hid MX; clear Q BX MX HX; obtain ⟨b0, b1, b2, b3, b4, f0, f1, f2, f3, f4⟩ := Am.box5c P6; clear P6 M6 bel hk))
  go_wp2
  rw [← hWX]
  clear hWX
  obtain ⟨q0, q1, q2, q3, q4, _⟩ := Am.box5c HQ.out
  refine bodyPost_ret (v := .agg #[.string ⟨#[]⟩, .slice nA 3 nc, .slice sA 3 sc, .string vn, .bool vw]) (by simp [results, Tryd.results35, go_sem, q0, q1, q2, q3, q4]) rfl ⟨HBX.out, ⟨[], Am.vNm word.data.toList, [11, 0, Am.vN word.data.toList], [1, 1, 2]⟩, ((nA, nc), (sA, sc)), vw, by rw [HVN.out]; rfl, HMX.out, ?_⟩
  rw [HI.out]
  exact HLI.out
end Go.Proofs.YtldbhcbmcogmfaaDoor

/- The document's line of an instruction with a register and a value. -/
namespace Go.Proofs.YtldbhcbmcogmfaaDoor
open Go.RowKit Go.Lib
set_option linter.unusedVariables false
set_option maxRecDepth 8000

theorem Am.reg_lin (c : Nat) (w1 wd : List UInt8) : Am.Lin ((Am.reg w1).bind fun x => (Am.val wd).map fun v => (Am.pt c x v.1, v.2)) ⟨[], Am.vNm wd, [(c : Int), Am.regZ w1, Am.vN wd], [1, 1, 2]⟩ (decide (Am.regZ w1 < 0) || Am.vW wd) := by
  unfold Am.regZ
  cases e : Am.reg w1 with
  | none => exact .inl ⟨rfl, rfl⟩
  | some x =>
    have : ¬ ((x : Int) < 0) := by omega
    have h := Am.val_lin c x wd
    simpa [Am.optZ, this] using h
set_option maxRecDepth 20000 in
set_option maxHeartbeats 1600000 in
theorem Am.instr_g1p (A : Option Addr) (k : Nat) (L : List (List UInt8)) (hn : 3 = L.length) (hx : ¬ Am.regZ (L.getD 1 []) < 0) (hsz : ∀ x ∈ L, x.length ≤ 100000) (w : World) (hrow : RowZ 1 w (.slice A 3 k) L.length (Am.strs L)) : Calls Tryd.prog 35 #[.int .i64 1, .slice A 3 k] w (Am.LnP w (Am.ins 1 L.tail)) := by
  obtain ⟨g, off, rfl, hg, hcw⟩ := Am.word_at hrow (by omega)
  obtain ⟨word, hword⟩ : ∃ word : ByteArray, word = ⟨(L.getD 2 []).toArray⟩ := ⟨_, rfl⟩
  have cw := hcw 2 (by omega)
  rw [← hword] at cw
  have hwl : word.data.toList = L.getD 2 [] := by rw [hword]
  have hws : word.size ≤ 100000 := by
    have h1 := hsz (L.getD 2 []) (by
      have : 2 < L.length := by omega
      simp [List.getD, this])
    rw [← hwl, Am.len] at h1
    exact h1
  obtain ⟨wd1, hwd1⟩ : ∃ wd1 : ByteArray, wd1 = ⟨(L.getD 1 []).toArray⟩ := ⟨_, rfl⟩
  have cw1 := hcw 1 (by omega)
  rw [← hwd1] at cw1
  have hw1 : wd1.data.toList = L.getD 1 [] := by rw [hwd1]
  have hws1 : wd1.size ≤ 100000 := by
    have h1 := hsz (L.getD 1 []) (by
      have : 1 < L.length := by omega
      simp [List.getD, this])
    rw [← hw1, Am.len] at h1
    exact h1
  have HI := Lib.hid (show Am.ins 1 L.tail = (Am.reg wd1.data.toList).bind fun x => (Am.val word.data.toList).map fun v => (Am.pt 1 x v.1, v.2) from by
    have t0 : L.tail.getD 0 [] = L.getD 1 [] := by cases L <;> rfl
    have t1 : L.tail.getD 1 [] = L.getD 2 [] := by cases L <;> rfl
    unfold Am.ins
    rw [if_neg (by decide), if_neg (by decide), if_pos (by rw [List.length_tail]; omega), hwl, hw1, t0, t1]
    rfl)
  have HLI := Lib.hid (Am.reg_lin 1 wd1.data.toList word.data.toList)
  rw [← hw1] at hx
  have HRG := Lib.hid (Am.rregister_any wd1 hws1)
  generalize Am.regZ wd1.data.toList = x at *
  obtain ⟨W0, hW0, P1, P2, P3, P4, G4, z4⟩ := Am.ins_nums w 1
  have b4 : Below w.heap.size w W0 := below_of_only G4 (Nat.le_refl _) (by simp)
  have cw10 : W0.cell? ⟨g, off + 1, none⟩ = some (.string wd1) := (b4.cell (p := ⟨g, off + 1, none⟩) hg).trans cw1
  obtain ⟨m0, m1, m2, m3, m4, mf0, mf1, mf2, mf3, mf4⟩ := Am.box5c P2
  have nf1 := P3.free 1
  have nc1 := P3.cell 1
  simp at nc1
  obtain ⟨W4, hW4⟩ : ∃ W4, W4 = (W0.setCell ⟨w.heap.size + 1, 1, none⟩ (.int .i64 x)).setCell ⟨w.heap.size + 1 + 1 + 1, 4, none⟩ (.bool false) := ⟨_, rfl⟩
  replace P1 : Blk W4 w.heap.size 35 #[.string ⟨#[]⟩, .slice none 0 0, .slice none 0 0, .string ⟨#[]⟩, .bool false] := by
    rw [hW4]
    exact (P1.far (p := ⟨w.heap.size + 1, 1, none⟩) (show w.heap.size ≠ w.heap.size + 1 by omega) _).far (p := ⟨w.heap.size + 1 + 1 + 1, 4, none⟩) (show w.heap.size ≠ w.heap.size + 1 + 1 + 1 by omega) _
  replace P2 : Blk W4 (w.heap.size + 1 + 1 + 1) 35 #[.string ⟨#[]⟩, .slice (some ⟨w.heap.size + 1, 0, none⟩) 2 2, .slice (some ⟨w.heap.size + 1 + 1, 0, none⟩) 2 2, .string ⟨#[]⟩, .bool false] := by
    rw [hW4]
    have := (P2.far (p := ⟨w.heap.size + 1, 1, none⟩) (show w.heap.size + 1 + 1 + 1 ≠ w.heap.size + 1 by omega) (.int .i64 x)).put 4 (.bool false)
    simpa using this
  replace P3 : Blk W4 (w.heap.size + 1) 3 #[.int .i64 1, .int .i64 x] := by
    rw [hW4]
    have := (P3.put 1 (.int .i64 x)).far (p := ⟨w.heap.size + 1 + 1 + 1, 4, none⟩) (show w.heap.size + 1 ≠ w.heap.size + 1 + 1 + 1 by omega) (.bool false)
    simpa using this
  replace P4 : Blk W4 (w.heap.size + 1 + 1) 3 #[.int .i64 1, .int .i64 1] := by
    rw [hW4]
    exact (P4.far (p := ⟨w.heap.size + 1, 1, none⟩) (show w.heap.size + 1 + 1 ≠ w.heap.size + 1 by omega) _).far (p := ⟨w.heap.size + 1 + 1 + 1, 4, none⟩) (show w.heap.size + 1 + 1 ≠ w.heap.size + 1 + 1 + 1 by omega) _
  replace b4 : Below w.heap.size w W4 := by
    rw [hW4]
    exact (b4.setCell (p := ⟨w.heap.size + 1, 1, none⟩) (show w.heap.size ≤ w.heap.size + 1 by omega) _).setCell (p := ⟨w.heap.size + 1 + 1 + 1, 4, none⟩) (show w.heap.size ≤ w.heap.size + 1 + 1 + 1 by omega) _
  replace z4 : W4.heap.size = w.heap.size + 1 + 1 + 1 + 1 := by rw [hW4]; simp [z4]
  have hv := Am.rvalue_any ⟨#[]⟩ ⟨#[]⟩ word hws false (w.heap.size + 1) _ _ 2 2 [1, x] [1, 1] W4.drew (Am.ins_lnm1 (show Blk W4.drew _ _ _ from P3) (show Blk W4.drew _ _ _ from P4)) (show w.heap.size + 1 ≤ W4.heap.size by omega) (by simp) (by simp)
  rw [Am.vNm_str] at hv
  have HV := Lib.hid (show Calls Tryd.prog 33 #[.agg #[.string ⟨#[]⟩, .slice (some ⟨w.heap.size + 1, 0, none⟩) 2 2, .slice (some ⟨w.heap.size + 1 + 1, 0, none⟩) 2 2, .string ⟨#[]⟩, .bool false], .string word] W4.drew fun e w' => ∃ A c A2 c2, e = .returned (.agg #[.string ⟨#[]⟩, .slice A 3 c, .slice A2 3 c2, .string ⟨(Am.vNm word.data.toList).toArray⟩, .bool (false || Am.vW word.data.toList)]) ∧ Am.LnM w' (w.heap.size + 1) (.slice A 3 c) (.slice A2 3 c2) [1, x, Am.vN word.data.toList] [1, 1, 2] ∧ Below (w.heap.size + 1) W4 w' ∧ ∀ i, i < W4.heap.size → i ≠ w.heap.size + 1 → i ≠ w.heap.size + 1 + 1 → w'.heap[i]? = W4.heap[i]? from hv.mono fun e w' h => by
    obtain ⟨A, c, A2, c2, he, m, b, kk⟩ := h
    exact ⟨A, c, A2, c2, he, m, (show Below (w.heap.size + 1) W4 W4.drew from below_drewN (Below.refl _ _) 1).trans b, fun i hi h1 h2 => kk i hi (by simp [Value.ownBlock]; omega) (by simp [Value.ownBlock]; omega)⟩)
  obtain ⟨vn, hvn⟩ : ∃ vn : ByteArray, vn = ⟨(Am.vNm word.data.toList).toArray⟩ := ⟨_, rfl⟩
  rw [← hvn] at HV
  have HVN := Lib.hid hvn
  have HDX := Lib.hid (show decide (x < 0) = false from by simpa using hx)
  rw [show decide (x < 0) = false from by simpa using hx] at HLI
  obtain ⟨vw, hvw⟩ : ∃ vw, vw = (false || Am.vW word.data.toList) := ⟨_, rfl⟩
  rw [← hvw] at HV HLI
  clear hvw
  have cw4 : W4.cell? ⟨g, off + 2, none⟩ = some (.string word) := (b4.cell (p := ⟨g, off + 2, none⟩) hg).trans cw
  have HG := Lib.hid (show g < w.heap.size from hg)
  obtain ⟨a0, a1, a2, a3, a4, g0, g1, g2, g3, g4⟩ := Am.box5c P1
  obtain ⟨e0, e1, e2, e3, e4, _⟩ := Am.box5c P2
  have HP := Lib.hid P1
  have HP2 := Lib.hid P2
  have HB := Lib.hid b4
  have HZ := Lib.hid z4
  have HS : Hid (∀ W : World, (∀ i, i < W4.heap.size → i ≠ w.heap.size → i ≠ w.heap.size + 1 → i ≠ w.heap.size + 1 + 1 → W.heap[i]? = W4.heap[i]?) → W.cell? ⟨w.heap.size + 1 + 1 + 1, 0, none⟩ = some (.string ⟨#[]⟩) ∧ W.cell? ⟨w.heap.size + 1 + 1 + 1, 1, none⟩ = some (.slice (some ⟨w.heap.size + 1, 0, none⟩) 2 2) ∧ W.cell? ⟨w.heap.size + 1 + 1 + 1, 2, none⟩ = some (.slice (some ⟨w.heap.size + 1 + 1, 0, none⟩) 2 2) ∧ W.cell? ⟨w.heap.size + 1 + 1 + 1, 3, none⟩ = some (.string ⟨#[]⟩) ∧ W.cell? ⟨w.heap.size + 1 + 1 + 1, 4, none⟩ = some (.bool false) ∧ W.cell? ⟨g, off + 2, none⟩ = some (.string word)) := Lib.hid fun W h => by
    have P : Blk W (w.heap.size + 1 + 1 + 1) 35 #[.string ⟨#[]⟩, .slice (some ⟨w.heap.size + 1, 0, none⟩) 2 2, .slice (some ⟨w.heap.size + 1 + 1, 0, none⟩) 2 2, .string ⟨#[]⟩, .bool false] := (h _ (by omega) (by omega) (by omega) (by omega)).trans P2
    refine ⟨P.cell 0, P.cell 1, P.cell 2, P.cell 3, P.cell 4, ?_⟩
    have hg4 := h g (by omega) (by omega) (by omega) (by omega)
    rw [← cw4]
    unfold World.cell?
    simp only [hg4]
  clear P1 P2 P3 P4 G4 z4 b4 hn hv hwl hws hword hcw hrow hsz cw hg hvn hwd1 cw1 hw1 hws1
  go_enter Tryd.func35, Tryd.ntmps35
  go_upto_region 2 with (fail)
  rw [← hW0]
  clear hW0
  go_upto_region 16 with (go_at_call 50; (with_reducible refine (HRG.out _).mono ?_); rintro e w2 ⟨rfl, rfl⟩)
  (try rw [HDX.out])
  rw [← hW4]
  clear hW4 hx
  have HD0 := Lib.hid (HS.out W4 (fun i _ _ _ _ => rfl))
  have HD1 := Lib.hid (HS.out W4.drew (fun i _ _ _ _ => rfl))
  go_upto_region 24 with (fail)
  go_region_held3 (fun W => W.cell? ⟨w.heap.size + 1 + 1 + 1, 0, none⟩ = some (.string ⟨#[]⟩) ∧ W.cell? ⟨w.heap.size + 1 + 1 + 1, 1, none⟩ = some (.slice (some ⟨w.heap.size + 1, 0, none⟩) 2 2) ∧ W.cell? ⟨w.heap.size + 1 + 1 + 1, 2, none⟩ = some (.slice (some ⟨w.heap.size + 1 + 1, 0, none⟩) 2 2) ∧ W.cell? ⟨w.heap.size + 1 + 1 + 1, 3, none⟩ = some (.string ⟨#[]⟩) ∧ W.cell? ⟨w.heap.size + 1 + 1 + 1, 4, none⟩ = some (.bool false) ∧ W.cell? ⟨g, off + 2, none⟩ = some (.string word)) (first | with_reducible exact HD0.out | with_reducible exact HD1.out | with_reducible exact HW6.out | with_reducible exact HW7.out | with_reducible exact HW8.out | go_keep) (first
    | (go_at_call 33; (with_reducible refine HV.out.mono ?_); rintro e w6 ⟨nA, nc, sA, sc, rfl, M6, bel, hk⟩; have HW6 := Lib.hid (HS.out w6 (fun i a _ b c => hk i a b c)); have HW7 := Lib.hid (HS.out w6.drew (fun i a _ b c => hk i a b c)); have HM := Lib.hid M6; have P6 := HP.out.below bel (Nat.lt_succ_self _); have B6 := Lib.hid (HB.out.trans (bel.mono (Nat.le_succ _))); obtain ⟨WX, hWX, Q, BX, MX, HX⟩ := Am.res_put (lb := ⟨#[]⟩) (nm := vn) (wr := vw) P6 B6.out HM.out; have HW8 := Lib.hid (HS.out WX (fun i a d b c => (HX i d).trans (hk i a b c))); rw [hWX] at HW8; have HQ := Lib.hid Q; have HBX := Lib.hid BX; have HMX := Lib.hid MX; clear Q BX MX HX; obtain ⟨b0, b1, b2, b3, b4, f0, f1, f2, f3, f4⟩ := Am.box5c P6; clear P6 M6 bel hk))
  go_wp2
  rw [← hWX]
  clear hWX
  obtain ⟨q0, q1, q2, q3, q4, _⟩ := Am.box5c HQ.out
  refine bodyPost_ret (v := .agg #[.string ⟨#[]⟩, .slice nA 3 nc, .slice sA 3 sc, .string vn, .bool vw]) (by simp [results, Tryd.results35, go_sem, q0, q1, q2, q3, q4]) rfl ⟨HBX.out, ⟨[], Am.vNm word.data.toList, [1, x, Am.vN word.data.toList], [1, 1, 2]⟩, ((nA, nc), (sA, sc)), vw, by rw [HVN.out]; rfl, HMX.out, ?_⟩
  rw [HI.out]
  exact HLI.out
set_option maxRecDepth 20000 in
set_option maxHeartbeats 1600000 in
theorem Am.instr_g1n (A : Option Addr) (k : Nat) (L : List (List UInt8)) (hn : 3 = L.length) (hx : Am.regZ (L.getD 1 []) < 0) (hsz : ∀ x ∈ L, x.length ≤ 100000) (w : World) (hrow : RowZ 1 w (.slice A 3 k) L.length (Am.strs L)) : Calls Tryd.prog 35 #[.int .i64 1, .slice A 3 k] w (Am.LnP w (Am.ins 1 L.tail)) := by
  obtain ⟨g, off, rfl, hg, hcw⟩ := Am.word_at hrow (by omega)
  obtain ⟨word, hword⟩ : ∃ word : ByteArray, word = ⟨(L.getD 2 []).toArray⟩ := ⟨_, rfl⟩
  have cw := hcw 2 (by omega)
  rw [← hword] at cw
  have hwl : word.data.toList = L.getD 2 [] := by rw [hword]
  have hws : word.size ≤ 100000 := by
    have h1 := hsz (L.getD 2 []) (by
      have : 2 < L.length := by omega
      simp [List.getD, this])
    rw [← hwl, Am.len] at h1
    exact h1
  obtain ⟨wd1, hwd1⟩ : ∃ wd1 : ByteArray, wd1 = ⟨(L.getD 1 []).toArray⟩ := ⟨_, rfl⟩
  have cw1 := hcw 1 (by omega)
  rw [← hwd1] at cw1
  have hw1 : wd1.data.toList = L.getD 1 [] := by rw [hwd1]
  have hws1 : wd1.size ≤ 100000 := by
    have h1 := hsz (L.getD 1 []) (by
      have : 1 < L.length := by omega
      simp [List.getD, this])
    rw [← hw1, Am.len] at h1
    exact h1
  have HI := Lib.hid (show Am.ins 1 L.tail = (Am.reg wd1.data.toList).bind fun x => (Am.val word.data.toList).map fun v => (Am.pt 1 x v.1, v.2) from by
    have t0 : L.tail.getD 0 [] = L.getD 1 [] := by cases L <;> rfl
    have t1 : L.tail.getD 1 [] = L.getD 2 [] := by cases L <;> rfl
    unfold Am.ins
    rw [if_neg (by decide), if_neg (by decide), if_pos (by rw [List.length_tail]; omega), hwl, hw1, t0, t1]
    rfl)
  have HLI := Lib.hid (Am.reg_lin 1 wd1.data.toList word.data.toList)
  rw [← hw1] at hx
  have HRG := Lib.hid (Am.rregister_any wd1 hws1)
  generalize Am.regZ wd1.data.toList = x at *
  obtain ⟨W0, hW0, P1, P2, P3, P4, G4, z4⟩ := Am.ins_nums w 1
  have b4 : Below w.heap.size w W0 := below_of_only G4 (Nat.le_refl _) (by simp)
  have cw10 : W0.cell? ⟨g, off + 1, none⟩ = some (.string wd1) := (b4.cell (p := ⟨g, off + 1, none⟩) hg).trans cw1
  obtain ⟨m0, m1, m2, m3, m4, mf0, mf1, mf2, mf3, mf4⟩ := Am.box5c P2
  have nf1 := P3.free 1
  have nc1 := P3.cell 1
  simp at nc1
  obtain ⟨W4, hW4⟩ : ∃ W4, W4 = (W0.setCell ⟨w.heap.size + 1, 1, none⟩ (.int .i64 x)).setCell ⟨w.heap.size + 1 + 1 + 1, 4, none⟩ (.bool true) := ⟨_, rfl⟩
  replace P1 : Blk W4 w.heap.size 35 #[.string ⟨#[]⟩, .slice none 0 0, .slice none 0 0, .string ⟨#[]⟩, .bool false] := by
    rw [hW4]
    exact (P1.far (p := ⟨w.heap.size + 1, 1, none⟩) (show w.heap.size ≠ w.heap.size + 1 by omega) _).far (p := ⟨w.heap.size + 1 + 1 + 1, 4, none⟩) (show w.heap.size ≠ w.heap.size + 1 + 1 + 1 by omega) _
  replace P2 : Blk W4 (w.heap.size + 1 + 1 + 1) 35 #[.string ⟨#[]⟩, .slice (some ⟨w.heap.size + 1, 0, none⟩) 2 2, .slice (some ⟨w.heap.size + 1 + 1, 0, none⟩) 2 2, .string ⟨#[]⟩, .bool true] := by
    rw [hW4]
    have := (P2.far (p := ⟨w.heap.size + 1, 1, none⟩) (show w.heap.size + 1 + 1 + 1 ≠ w.heap.size + 1 by omega) (.int .i64 x)).put 4 (.bool true)
    simpa using this
  replace P3 : Blk W4 (w.heap.size + 1) 3 #[.int .i64 1, .int .i64 x] := by
    rw [hW4]
    have := (P3.put 1 (.int .i64 x)).far (p := ⟨w.heap.size + 1 + 1 + 1, 4, none⟩) (show w.heap.size + 1 ≠ w.heap.size + 1 + 1 + 1 by omega) (.bool true)
    simpa using this
  replace P4 : Blk W4 (w.heap.size + 1 + 1) 3 #[.int .i64 1, .int .i64 1] := by
    rw [hW4]
    exact (P4.far (p := ⟨w.heap.size + 1, 1, none⟩) (show w.heap.size + 1 + 1 ≠ w.heap.size + 1 by omega) _).far (p := ⟨w.heap.size + 1 + 1 + 1, 4, none⟩) (show w.heap.size + 1 + 1 ≠ w.heap.size + 1 + 1 + 1 by omega) _
  replace b4 : Below w.heap.size w W4 := by
    rw [hW4]
    exact (b4.setCell (p := ⟨w.heap.size + 1, 1, none⟩) (show w.heap.size ≤ w.heap.size + 1 by omega) _).setCell (p := ⟨w.heap.size + 1 + 1 + 1, 4, none⟩) (show w.heap.size ≤ w.heap.size + 1 + 1 + 1 by omega) _
  replace z4 : W4.heap.size = w.heap.size + 1 + 1 + 1 + 1 := by rw [hW4]; simp [z4]
  have hv := Am.rvalue_any ⟨#[]⟩ ⟨#[]⟩ word hws true (w.heap.size + 1) _ _ 2 2 [1, x] [1, 1] W4.drew (Am.ins_lnm1 (show Blk W4.drew _ _ _ from P3) (show Blk W4.drew _ _ _ from P4)) (show w.heap.size + 1 ≤ W4.heap.size by omega) (by simp) (by simp)
  rw [Am.vNm_str] at hv
  have HV := Lib.hid (show Calls Tryd.prog 33 #[.agg #[.string ⟨#[]⟩, .slice (some ⟨w.heap.size + 1, 0, none⟩) 2 2, .slice (some ⟨w.heap.size + 1 + 1, 0, none⟩) 2 2, .string ⟨#[]⟩, .bool true], .string word] W4.drew fun e w' => ∃ A c A2 c2, e = .returned (.agg #[.string ⟨#[]⟩, .slice A 3 c, .slice A2 3 c2, .string ⟨(Am.vNm word.data.toList).toArray⟩, .bool (true || Am.vW word.data.toList)]) ∧ Am.LnM w' (w.heap.size + 1) (.slice A 3 c) (.slice A2 3 c2) [1, x, Am.vN word.data.toList] [1, 1, 2] ∧ Below (w.heap.size + 1) W4 w' ∧ ∀ i, i < W4.heap.size → i ≠ w.heap.size + 1 → i ≠ w.heap.size + 1 + 1 → w'.heap[i]? = W4.heap[i]? from hv.mono fun e w' h => by
    obtain ⟨A, c, A2, c2, he, m, b, kk⟩ := h
    exact ⟨A, c, A2, c2, he, m, (show Below (w.heap.size + 1) W4 W4.drew from below_drewN (Below.refl _ _) 1).trans b, fun i hi h1 h2 => kk i hi (by simp [Value.ownBlock]; omega) (by simp [Value.ownBlock]; omega)⟩)
  obtain ⟨vn, hvn⟩ : ∃ vn : ByteArray, vn = ⟨(Am.vNm word.data.toList).toArray⟩ := ⟨_, rfl⟩
  rw [← hvn] at HV
  have HVN := Lib.hid hvn
  have HDX := Lib.hid (show decide (x < 0) = true from by simpa using hx)
  rw [show decide (x < 0) = true from by simpa using hx] at HLI
  obtain ⟨vw, hvw⟩ : ∃ vw, vw = (true || Am.vW word.data.toList) := ⟨_, rfl⟩
  rw [← hvw] at HV HLI
  clear hvw
  have cw4 : W4.cell? ⟨g, off + 2, none⟩ = some (.string word) := (b4.cell (p := ⟨g, off + 2, none⟩) hg).trans cw
  have HG := Lib.hid (show g < w.heap.size from hg)
  obtain ⟨a0, a1, a2, a3, a4, g0, g1, g2, g3, g4⟩ := Am.box5c P1
  obtain ⟨e0, e1, e2, e3, e4, _⟩ := Am.box5c P2
  have HP := Lib.hid P1
  have HP2 := Lib.hid P2
  have HB := Lib.hid b4
  have HZ := Lib.hid z4
  have HS : Hid (∀ W : World, (∀ i, i < W4.heap.size → i ≠ w.heap.size → i ≠ w.heap.size + 1 → i ≠ w.heap.size + 1 + 1 → W.heap[i]? = W4.heap[i]?) → W.cell? ⟨w.heap.size + 1 + 1 + 1, 0, none⟩ = some (.string ⟨#[]⟩) ∧ W.cell? ⟨w.heap.size + 1 + 1 + 1, 1, none⟩ = some (.slice (some ⟨w.heap.size + 1, 0, none⟩) 2 2) ∧ W.cell? ⟨w.heap.size + 1 + 1 + 1, 2, none⟩ = some (.slice (some ⟨w.heap.size + 1 + 1, 0, none⟩) 2 2) ∧ W.cell? ⟨w.heap.size + 1 + 1 + 1, 3, none⟩ = some (.string ⟨#[]⟩) ∧ W.cell? ⟨w.heap.size + 1 + 1 + 1, 4, none⟩ = some (.bool true) ∧ W.cell? ⟨g, off + 2, none⟩ = some (.string word)) := Lib.hid fun W h => by
    have P : Blk W (w.heap.size + 1 + 1 + 1) 35 #[.string ⟨#[]⟩, .slice (some ⟨w.heap.size + 1, 0, none⟩) 2 2, .slice (some ⟨w.heap.size + 1 + 1, 0, none⟩) 2 2, .string ⟨#[]⟩, .bool true] := (h _ (by omega) (by omega) (by omega) (by omega)).trans P2
    refine ⟨P.cell 0, P.cell 1, P.cell 2, P.cell 3, P.cell 4, ?_⟩
    have hg4 := h g (by omega) (by omega) (by omega) (by omega)
    rw [← cw4]
    unfold World.cell?
    simp only [hg4]
  clear P1 P2 P3 P4 G4 z4 b4 hn hv hwl hws hword hcw hrow hsz cw hg hvn hwd1 cw1 hw1 hws1
  go_enter Tryd.func35, Tryd.ntmps35
  go_upto_region 2 with (fail)
  rw [← hW0]
  clear hW0
  go_upto_region 16 with (go_at_call 50; (with_reducible refine (HRG.out _).mono ?_); rintro e w2 ⟨rfl, rfl⟩)
  (try rw [HDX.out])
  rw [← hW4]
  clear hW4 hx
  have HD0 := Lib.hid (HS.out W4 (fun i _ _ _ _ => rfl))
  have HD1 := Lib.hid (HS.out W4.drew (fun i _ _ _ _ => rfl))
  go_upto_region 24 with (fail)
  go_region_held3 (fun W => W.cell? ⟨w.heap.size + 1 + 1 + 1, 0, none⟩ = some (.string ⟨#[]⟩) ∧ W.cell? ⟨w.heap.size + 1 + 1 + 1, 1, none⟩ = some (.slice (some ⟨w.heap.size + 1, 0, none⟩) 2 2) ∧ W.cell? ⟨w.heap.size + 1 + 1 + 1, 2, none⟩ = some (.slice (some ⟨w.heap.size + 1 + 1, 0, none⟩) 2 2) ∧ W.cell? ⟨w.heap.size + 1 + 1 + 1, 3, none⟩ = some (.string ⟨#[]⟩) ∧ W.cell? ⟨w.heap.size + 1 + 1 + 1, 4, none⟩ = some (.bool true) ∧ W.cell? ⟨g, off + 2, none⟩ = some (.string word)) (first | with_reducible exact HD0.out | with_reducible exact HD1.out | with_reducible exact HW6.out | with_reducible exact HW7.out | with_reducible exact HW8.out | go_keep) (first
    | (go_at_call 33; (with_reducible refine HV.out.mono ?_); rintro e w6 ⟨nA, nc, sA, sc, rfl, M6, bel, hk⟩; have HW6 := Lib.hid (HS.out w6 (fun i a _ b c => hk i a b c)); have HW7 := Lib.hid (HS.out w6.drew (fun i a _ b c => hk i a b c)); have HM := Lib.hid M6; have P6 := HP.out.below bel (Nat.lt_succ_self _); have B6 := Lib.hid (HB.out.trans (bel.mono (Nat.le_succ _))); obtain ⟨WX, hWX, Q, BX, MX, HX⟩ := Am.res_put (lb := ⟨#[]⟩) (nm := vn) (wr := vw) P6 B6.out HM.out; have HW8 := Lib.hid (HS.out WX (fun i a d b c => (HX i d).trans (hk i a b c))); rw [hWX] at HW8; have HQ := Lib.hid Q; have HBX := Lib.hid BX; have HMX := Lib.hid MX; clear Q BX MX HX; obtain ⟨b0, b1, b2, b3, b4, f0, f1, f2, f3, f4⟩ := Am.box5c P6; clear P6 M6 bel hk))
  go_wp2
  rw [← hWX]
  clear hWX
  obtain ⟨q0, q1, q2, q3, q4, _⟩ := Am.box5c HQ.out
  refine bodyPost_ret (v := .agg #[.string ⟨#[]⟩, .slice nA 3 nc, .slice sA 3 sc, .string vn, .bool vw]) (by simp [results, Tryd.results35, go_sem, q0, q1, q2, q3, q4]) rfl ⟨HBX.out, ⟨[], Am.vNm word.data.toList, [1, x, Am.vN word.data.toList], [1, 1, 2]⟩, ((nA, nc), (sA, sc)), vw, by rw [HVN.out]; rfl, HMX.out, ?_⟩
  rw [HI.out]
  exact HLI.out
end Go.Proofs.YtldbhcbmcogmfaaDoor
