import Derived.Test.YtjmdcmcheiagjaaZ07
set_option linter.all false
/- The document's Parse, walked: where the first bytes are others; where too few are there. -/
namespace Go.Proofs.Ytjmdcmcheiagjaa
open Go.RowKit Go.Lib Go.Sort
set_option linter.unusedVariables false

/-- What follows where the check is right. -/
theorem open_parts {s : ByteArray} (h : (Cr.openV s).2 = 0) : 2 ≤ s.size ∧ Cr.sealed (s.extract 0 (s.size - 2)) = s ∧ (Cr.openV s).1 = s.extract 0 (s.size - 2) := by
  have h2 : 2 ≤ s.size := by
    refine Classical.byContradiction fun k => ?_
    rw [open_short (by omega)] at h
    simp at h
  have hk : Cr.sealed (s.extract 0 (s.size - 2)) = s := by
    refine Classical.byContradiction fun k => ?_
    rw [open_unseal h2 k] at h
    simp at h
  exact ⟨h2, hk, by rw [open_seal h2 hk]⟩
/-- The test of the first two bytes. -/
theorem first_two {t : ByteArray} (h : 2 ≤ t.size) : (¬ otherB t → ((t.extract 0 2).toList == [67, 1]) = true) ∧ (otherB t → ((t.extract 0 2).toList == [67, 1]) = false) := by
  refine ⟨fun k => ?_, fun k => ?_⟩
  · have : t.extract 0 2 = ⟨#[67, 1]⟩ := by
      by_cases e : t.extract 0 2 = ⟨#[67, 1]⟩
      · exact e
      · exact absurd ((other_iff h).2 e) k
    rw [this, ByteArray.toList_eq]
    rfl
  · have := Cr.str_ne ((other_iff h).1 k)
    rwa [show (⟨#[67, 1]⟩ : ByteArray).toList = [67, 1] from by rw [ByteArray.toList_eq]] at this

set_option maxRecDepth 20000 in
set_option maxHeartbeats 3200000 in
theorem rparse_few (s : ByteArray) (w : World) (hs : s.size ≤ 9000) (h : (Cr.openV s).2 = 0) (ho : otherB (Cr.openV s).1 ∨ (¬ otherB (Cr.openV s).1 ∧ (Cr.openV s).1.size < 5)) : Calls Try.prog 15 #[.string s] w (ParseV s w) := by
  classical
  obtain ⟨h2, hk, h1⟩ := open_parts h
  have hi : imgE s = bodyE (Cr.openV s).1 := if_pos h
  rw [h1] at ho hi
  have hie : imgE s = if otherB (s.extract 0 (s.size - 2)) then 3 else 5 := by
    rw [hi]
    rcases ho with ho | ⟨ho, h5⟩
    · rw [if_pos ho, bodyE_other ho]
    · rw [if_neg ho]
      refine bodyE_end ho ?_
      unfold iq3 iq2 iq1
      omega
  have hz : imgE s ≠ 0 := by rw [hie]; split <;> decide
  obtain ⟨W1, hW⟩ : ∃ W1, W1 = w.alloc (.cells #[.int .i64 0, .slice none 0 0, .slice none 0 0, .slice none 0 0] 26) := ⟨_, rfl⟩
  have B1 := Lib.hid (show Below w.heap.size w W1 by rw [hW]; exact (Below.refl _ _).alloc (Nat.le_refl _) _)
  have BX : Hid (Blk W1 w.heap.size 26 #[.int .i64 0, .slice none 0 0, .slice none 0 0, .slice none 0 0]) := Lib.hid (by rw [hW]; exact Blk.new _ _ _)
  have HNO := Lib.hid (fun (w' : World) (b : Below w.heap.size w w') => zC_no (s := s) hz b)
  rw [hie] at HNO
  clear hz hie hi h1 h
  have HO := Lib.hid (rseal_big (s.extract 0 (s.size - 2)) W1 (by simp; omega))
  rw [hk] at HO
  have m1 : ¬ (s.size : Int) < 2 := by omega
  obtain ⟨m, hm⟩ : ∃ m, m = s.size - 2 := ⟨_, rfl⟩
  rw [← hm] at HO ho HNO
  have q1 : IntKind.i64.wrap ((s.size : Int) - 2) = (m : Int) := by rw [IntKind.wrap_i64]; omega
  have q2 : (m : Int) ≤ (s.size : Int) := by omega
  clear hk h2
  have HM := Lib.hid hm
  clear hm
  have key : ∃ ev : Int, (if otherB (s.extract 0 m) then 3 else 5) = ev ∧ ((2 ≤ (s.extract 0 m).size ∧ (((s.extract 0 m).extract 0 2).toList == [67, 1]) = false ∧ ev = 3) ∨ (2 ≤ (s.extract 0 m).size ∧ (s.extract 0 m).size < 5 ∧ (((s.extract 0 m).extract 0 2).toList == [67, 1]) = true ∧ ev = 5) ∨ ((s.extract 0 m).size < 2 ∧ ev = 5)) := by
    rcases ho with ho | ⟨ho, h5⟩
    · exact ⟨3, by rw [if_pos ho], .inl ⟨ho.1, (first_two ho.1).2 ho, rfl⟩⟩
    · refine ⟨5, by rw [if_neg ho], .inr ?_⟩
      by_cases k : 2 ≤ (s.extract 0 m).size
      · exact .inl ⟨k, h5, (first_two k).1 ho, rfl⟩
      · exact .inr ⟨by omega, rfl⟩
  obtain ⟨ev, hev, key⟩ := key
  rw [hev] at HNO
  clear hev ho
  have st : (s.extract 0 m).size ≤ 9000 := by simp; omega
  go_enter Try.func15, Try.ntmps15
  go_upto_region 1 with (fail)
  rw [← hW]
  clear hW
  go_upto_region 4 with (fail)
  generalize s.extract 0 m = t at key st HO ⊢
  rcases key with ⟨k1, k2, rfl⟩ | ⟨k1, k2, k3, rfl⟩ | ⟨k1, rfl⟩
  case inl => 
    have n1 : (2 : Int) ≤ (t.size : Int) := by omega
    have n2 : IntKind.i64.wrap (t.size : Int) = (t.size : Int) := by rw [IntKind.wrap_i64]; omega
    go_wp2_with (go_at_call 14; (with_reducible refine HO.out.mono ?_); rintro e w2 ⟨rfl, b2⟩; have B2 := Lib.hid (B1.out.trans (b2.mono B1.out.size)); have X2 := Lib.hid (BX.out.below b2 BX.out.lt); clear b2; have c0 : w2.cell? ⟨w.heap.size, 0, none⟩ = some (.int .i64 0) := X2.out.cell 0; have c1 : w2.cell? ⟨w.heap.size, 1, none⟩ = some (.slice none 0 0) := X2.out.cell 1; have c2 : w2.cell? ⟨w.heap.size, 2, none⟩ = some (.slice none 0 0) := X2.out.cell 2; have c3 : w2.cell? ⟨w.heap.size, 3, none⟩ = some (.slice none 0 0) := X2.out.cell 3; have f0 := X2.out.free 0; have f1 := X2.out.free 1; have f2 := X2.out.free 2; have f3 := X2.out.free 3)
    have bf := ((((X2.out.put 0 (.int .i64 0)).put 1 (.slice none 0 0)).put 2 (.slice none 0 0)).put 3 (.slice none 0 0))
    have r0 := bf.cell 0
    have r1 := bf.cell 1
    have r2 := bf.cell 2
    have r3 := bf.cell 3
    simp at r0 r1 r2 r3
    refine bodyPost_ret (v := .tuple #[.agg #[.int .i64 0, .slice none 0 0, .slice none 0 0, .slice none 0 0], .int .i64 3]) (by simp [results, Try.results15, go_sem, r0, r1, r2, r3]) rfl ?_
    exact HNO.out _ ((((B2.out.setCell (p := ⟨w.heap.size, 0, none⟩) (Nat.le_refl _) _).setCell (p := ⟨w.heap.size, 1, none⟩) (Nat.le_refl _) _).setCell (p := ⟨w.heap.size, 2, none⟩) (Nat.le_refl _) _).setCell (p := ⟨w.heap.size, 3, none⟩) (Nat.le_refl _) _)
  case inr.inl => 
    have n1 : (2 : Int) ≤ (t.size : Int) := by omega
    have n3 : (t.size : Int) < 5 := by omega
    go_wp2_with (go_at_call 14; (with_reducible refine HO.out.mono ?_); rintro e w2 ⟨rfl, b2⟩; have B2 := Lib.hid (B1.out.trans (b2.mono B1.out.size)); have X2 := Lib.hid (BX.out.below b2 BX.out.lt); clear b2; have c0 : w2.cell? ⟨w.heap.size, 0, none⟩ = some (.int .i64 0) := X2.out.cell 0; have c1 : w2.cell? ⟨w.heap.size, 1, none⟩ = some (.slice none 0 0) := X2.out.cell 1; have c2 : w2.cell? ⟨w.heap.size, 2, none⟩ = some (.slice none 0 0) := X2.out.cell 2; have c3 : w2.cell? ⟨w.heap.size, 3, none⟩ = some (.slice none 0 0) := X2.out.cell 3; have f0 := X2.out.free 0; have f1 := X2.out.free 1; have f2 := X2.out.free 2; have f3 := X2.out.free 3)
    have bf := ((((X2.out.put 0 (.int .i64 0)).put 1 (.slice none 0 0)).put 2 (.slice none 0 0)).put 3 (.slice none 0 0))
    have r0 := bf.cell 0
    have r1 := bf.cell 1
    have r2 := bf.cell 2
    have r3 := bf.cell 3
    simp at r0 r1 r2 r3
    refine bodyPost_ret (v := .tuple #[.agg #[.int .i64 0, .slice none 0 0, .slice none 0 0, .slice none 0 0], .int .i64 5]) (by simp [results, Try.results15, go_sem, r0, r1, r2, r3]) rfl ?_
    exact HNO.out _ ((((B2.out.setCell (p := ⟨w.heap.size, 0, none⟩) (Nat.le_refl _) _).setCell (p := ⟨w.heap.size, 1, none⟩) (Nat.le_refl _) _).setCell (p := ⟨w.heap.size, 2, none⟩) (Nat.le_refl _) _).setCell (p := ⟨w.heap.size, 3, none⟩) (Nat.le_refl _) _)
  case inr.inr => 
    have n1 : ¬ (2 : Int) ≤ (t.size : Int) := by omega
    have n3 : (t.size : Int) < 5 := by omega
    go_wp2_with (go_at_call 14; (with_reducible refine HO.out.mono ?_); rintro e w2 ⟨rfl, b2⟩; have B2 := Lib.hid (B1.out.trans (b2.mono B1.out.size)); have X2 := Lib.hid (BX.out.below b2 BX.out.lt); clear b2; have c0 : w2.cell? ⟨w.heap.size, 0, none⟩ = some (.int .i64 0) := X2.out.cell 0; have c1 : w2.cell? ⟨w.heap.size, 1, none⟩ = some (.slice none 0 0) := X2.out.cell 1; have c2 : w2.cell? ⟨w.heap.size, 2, none⟩ = some (.slice none 0 0) := X2.out.cell 2; have c3 : w2.cell? ⟨w.heap.size, 3, none⟩ = some (.slice none 0 0) := X2.out.cell 3; have f0 := X2.out.free 0; have f1 := X2.out.free 1; have f2 := X2.out.free 2; have f3 := X2.out.free 3)
    have bf := ((((X2.out.put 0 (.int .i64 0)).put 1 (.slice none 0 0)).put 2 (.slice none 0 0)).put 3 (.slice none 0 0))
    have r0 := bf.cell 0
    have r1 := bf.cell 1
    have r2 := bf.cell 2
    have r3 := bf.cell 3
    simp at r0 r1 r2 r3
    refine bodyPost_ret (v := .tuple #[.agg #[.int .i64 0, .slice none 0 0, .slice none 0 0, .slice none 0 0], .int .i64 5]) (by simp [results, Try.results15, go_sem, r0, r1, r2, r3]) rfl ?_
    exact HNO.out _ ((((B2.out.setCell (p := ⟨w.heap.size, 0, none⟩) (Nat.le_refl _) _).setCell (p := ⟨w.heap.size, 1, none⟩) (Nat.le_refl _) _).setCell (p := ⟨w.heap.size, 2, none⟩) (Nat.le_refl _) _).setCell (p := ⟨w.heap.size, 3, none⟩) (Nat.le_refl _) _)
end Go.Proofs.Ytjmdcmcheiagjaa
