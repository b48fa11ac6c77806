import Derived.Test.YtjmdcmcheiagjaaZ03
import Derived.OrdersHeld
import Derived.Deep.RegionHeld
import Derived.Test.YtjmdcmcheiagjaaZ02
set_option linter.all false
/- Parse of package image, by its contract: where the first two bytes are others. -/
namespace Go.Proofs.Ytjmdcmcheiagjaa
open Go.RowKit Go.Lib Go.Sort
set_option linter.unusedVariables false

theorem ext_two {t : ByteArray} (h : 2 ≤ t.size) : t.extract 0 2 = ⟨#[t[0], t[1]]⟩ := by
  apply ByteArray.ext
  apply Array.ext
  · have h1 : (t.extract 0 2).size = 2 := by simp; omega
    exact h1
  · intro i h1 h2
    have h3 : i < 2 := h2
    have e : (t.extract 0 2).data[i] = (t.extract 0 2)[i]'(by simpa using h1) := rfl
    rw [e, ByteArray.getElem_extract]
    have : i = 0 ∨ i = 1 := by omega
    rcases this with rfl | rfl
    · simp
    · simp
theorem other_iff {t : ByteArray} (h : 2 ≤ t.size) : otherB t ↔ t.extract 0 2 ≠ ⟨#[67, 1]⟩ := by
  unfold otherB
  rw [ext_two h, gb_of (show 0 < t.size by omega), gb_of (show 1 < t.size by omega)]
  constructor
  · rintro ⟨_, k⟩ e
    apply k
    injection e with e
    have e0 : t[0] = 67 := by have := congrArg (fun x => x[0]?) e; simpa using this
    have e1 : t[1] = 1 := by have := congrArg (fun x => x[1]?) e; simpa using this
    rw [e0, e1]
    exact ⟨rfl, rfl⟩
  · intro k
    refine ⟨h, fun ⟨e0, e1⟩ => k ?_⟩
    have f0 : t[0] = 67 := UInt8.toNat_inj.1 e0
    have f1 : t[1] = 1 := UInt8.toNat_inj.1 e1
    rw [f0, f1]
theorem open_len {s : ByteArray} (h : (Cr.openV s).2 = 0) : (Cr.openV s).1.size ≤ s.size := by
  unfold Cr.openV at h ⊢
  split
  · exact Nat.zero_le _
  · split
    · simp
    · exact Nat.zero_le _
theorem parse_other (s : ByteArray) (w : World) (hs : s.size ≤ 9000) (h : (Cr.openV s).2 = 0) (ho : otherB (Cr.openV s).1) : Calls Try.prog 12 #[.string s] w (ParseV s w) := by
  have hi : imgE s = 3 := by
    rw [imgE, if_pos h, bodyE_other ho]
  have hl := open_len h
  have h2 := ho.1
  have hne := Cr.str_ne ((other_iff h2).1 ho)
  rw [show (⟨#[67, 1]⟩ : ByteArray).toList = [67, 1] from by rw [ByteArray.toList_eq]] at hne
  obtain ⟨W1, hW⟩ : ∃ W1, W1 = w.alloc (.cells #[.int .i64 0, .slice none 0 0, .slice none 0 0, .slice none 0 0] 26) := ⟨_, rfl⟩
  have B1 := Lib.hid (show Below w.heap.size w W1 by rw [hW]; exact (Below.refl _ _).alloc (Nat.le_refl _) _)
  have BX : Hid (Blk W1 w.heap.size 26 #[.int .i64 0, .slice none 0 0, .slice none 0 0, .slice none 0 0]) := Lib.hid (by rw [hW]; exact Blk.new _ _ _)
  have HO := Lib.hid (open_big s W1 (by omega))
  have HNO := Lib.hid (fun (w' : World) (b : Below w.heap.size w w') => zC_no (s := s) (by rw [hi]; decide) b)
  rw [hi] at HNO
  clear ho hi
  generalize Cr.openV s = o at HO HNO h hl h2 hne
  obtain ⟨t, o2⟩ := o
  simp only at h hl h2 hne
  subst h
  have h2' : (2 : Int) ≤ (t.size : Int) := by omega
  go_enter Try.func12, Try.ntmps12
  go_upto_region 1 with (fail)
  rw [← hW]
  clear hW
  go_upto_region 4 with (go_at_call 32; (with_reducible refine HO.out.mono ?_); rintro e w2 ⟨rfl, b2⟩; have B2 := Lib.hid (B1.out.trans (b2.mono B1.out.size)); have X2 := Lib.hid (BX.out.below b2 BX.out.lt); clear b2)
  have R0 := Lib.hid (show RdK (w2.alloc (.cells #[.int .i64 0, .string t, .int .i64 0] 85)) w2.heap.size t 0 from .inl ⟨by omega, Blk.new _ _ _⟩)
  have HT := Lib.hid (rtext2_at R0.out (by omega))
  rw [if_pos h2] at HT
  have HE := Lib.hid (fun (W : World) (k : RdK W w2.heap.size t 2) => (show Calls Try.prog 35 #[.pointer (some ⟨w2.heap.size, 0, none⟩)] W (fun r w' => r = .returned (.int .i64 0) ∧ W = w') from by
    have := rerr_at k
    rw [if_pos h2] at this
    exact this))
  have BX2 := Lib.hid (show Below w.heap.size w (w2.alloc (.cells #[.int .i64 0, .string t, .int .i64 0] 85)) from B2.out.alloc B2.out.size _)
  have X3 := Lib.hid (X2.out.alloc (.cells #[.int .i64 0, .string t, .int .i64 0] 85))
  have hlt := X2.out.lt
  go_wp2_with (first
    | (go_at_call 33; (with_reducible refine (new_any _ _).mono ?_); rintro e w3 ⟨rfl, rfl⟩)
    | (go_at_call 34; (with_reducible refine HT.out.mono ?_); rintro e w4 ⟨rfl, r4, g4⟩; have R4 := Lib.hid r4; have X4 := Lib.hid (X3.out.only g4 (by simp; omega)); have B4 := Lib.hid (BX2.out.trans (below_of_only g4 (by have := BX2.out.size; omega) (fun k hk => by injection hk with hk; omega))); clear r4 g4)
    | (go_at_call 35; (with_reducible refine (HE.out _ R4.out).mono ?_); rintro e w5 ⟨rfl, rfl⟩; have c0 : w4.cell? ⟨w.heap.size, 0, none⟩ = some (.int .i64 0) := X4.out.cell 0; have c1 : w4.cell? ⟨w.heap.size, 1, none⟩ = some (.slice none 0 0) := X4.out.cell 1; have c2 : w4.cell? ⟨w.heap.size, 2, none⟩ = some (.slice none 0 0) := X4.out.cell 2; have c3 : w4.cell? ⟨w.heap.size, 3, none⟩ = some (.slice none 0 0) := X4.out.cell 3; have f0 := X4.out.free 0; have f1 := X4.out.free 1; have f2 := X4.out.free 2; have f3 := X4.out.free 3))
  have bf := ((((X4.out.put 0 (.int .i64 0)).put 1 (.slice none 0 0)).put 2 (.slice none 0 0)).put 3 (.slice none 0 0))
  have r0 := bf.cell 0
  have r1 := bf.cell 1
  have r2 := bf.cell 2
  have r3 := bf.cell 3
  simp at r0 r1 r2 r3
  refine bodyPost_ret (v := .tuple #[.agg #[.int .i64 0, .slice none 0 0, .slice none 0 0, .slice none 0 0], .int .i64 3]) (by simp [results, Try.results12, go_sem, r0, r1, r2, r3]) rfl ?_
  exact HNO.out _ ((((B4.out.setCell (p := ⟨w.heap.size, 0, none⟩) (Nat.le_refl _) _).setCell (p := ⟨w.heap.size, 1, none⟩) (Nat.le_refl _) _).setCell (p := ⟨w.heap.size, 2, none⟩) (Nat.le_refl _) _).setCell (p := ⟨w.heap.size, 3, none⟩) (Nat.le_refl _) _)
end Go.Proofs.Ytjmdcmcheiagjaa

/- Parse of package image, by its contract: where it reads. -/
namespace Go.Proofs.Ytjmdcmcheiagjaa
open Go.RowKit Go.Lib Go.Sort
set_option linter.unusedVariables false

/-- What is kept between two calls on the reader: the answer's box, the tables' box. -/
def PSt (w W : World) (b gc : Nat) (t : ByteArray) (k : Nat) (cs : Array Value) : Prop := RdK W b t k ∧ Blk W w.heap.size 26 #[.int .i64 0, .slice none 0 0, .slice none 0 0, .slice none 0 0] ∧ Blk W gc 26 cs ∧ Below w.heap.size w W ∧ w.heap.size < b ∧ b < gc
theorem PSt.only {w W W' : World} {b gc k k' : Nat} {t : ByteArray} {cs : Array Value} (h : PSt w W b gc t k cs) (g : W.grownBy W' (some b)) (hr : RdK W' b t k') : PSt w W' b gc t k' cs := by
  obtain ⟨h1, h2, h3, h4, h5, h6⟩ := h
  exact ⟨hr, h2.only g (by simp; omega), h3.only g (by simp; omega), h4.trans (below_of_only g h4.size (fun q hq => by injection hq with hq; omega)), h5, h6⟩
theorem PSt.set {w W : World} {b gc k : Nat} {t : ByteArray} {cs : Array Value} (h : PSt w W b gc t k cs) (j : Nat) (v : Value) : PSt w (W.setCell ⟨gc, j, none⟩ v) b gc t k (cs.setIfInBounds j v) := by
  obtain ⟨h1, h2, h3, h4, h5, h6⟩ := h
  exact ⟨h1.put (p := ⟨gc, j, none⟩) (by show b ≠ gc; omega) v, h2.far (p := ⟨gc, j, none⟩) (by show w.heap.size ≠ gc; omega) v, h3.put j v, h4.setCell (p := ⟨gc, j, none⟩) (by show w.heap.size ≤ gc; omega) v, h5, h6⟩
theorem RdK.drewN {w : World} {b k : Nat} {t : ByteArray} (h : RdK w b t k) (q : Nat) : RdK (w.drewN q) b t k := by
  rcases h with ⟨h1, h⟩ | ⟨h1, p, h2, h⟩
  · exact .inl ⟨h1, Blk.drewN h q⟩
  · exact .inr ⟨h1, p, h2, Blk.drewN h q⟩
theorem PSt.drewN {w W : World} {b gc k : Nat} {t : ByteArray} {cs : Array Value} (h : PSt w W b gc t k cs) (q : Nat) : PSt w (W.drewN q) b gc t k cs := ⟨h.1.drewN q, h.2.1.drewN q, h.2.2.1.drewN q, below_drewN h.2.2.2.1 q, h.2.2.2.2⟩
/-- A row that was read stays. -/
def Kept (s : Nat) (W : World) (v : Value) (n : Nat) (xs : List Value) (gc : Nat) : Prop := RowZ s W v n xs ∧ ∀ q, v.ownBlock = some q → gc < q
theorem Kept.only {s n gc b : Nat} {W W' : World} {v : Value} {xs : List Value} (h : Kept s W v n xs gc) (g : W.grownBy W' (some b)) (hb : b < gc) : Kept s W' v n xs gc :=
  ⟨h.1.only g (by
    cases hv : v.ownBlock with
    | none => exact .inl rfl
    | some q => exact .inr (fun e => by have := h.2 q hv; injection e with e; omega)), h.2⟩
theorem Kept.set {s n gc : Nat} {W : World} {v : Value} {xs : List Value} (h : Kept s W v n xs gc) {p : Addr} (hp : p.block ≤ gc) (u : Value) : Kept s (W.setCell p u) v n xs gc :=
  ⟨h.1.put (fun e => by have := h.2 _ e; omega) u, h.2⟩
theorem Kept.drewN {s n gc : Nat} {W : World} {v : Value} {xs : List Value} (h : Kept s W v n xs gc) (q : Nat) : Kept s (W.drewN q) v n xs gc := ⟨h.1.drewN q, h.2⟩
theorem Kept.cap {s n m gc cap : Nat} {W : World} {A : Option Addr} {xs : List Value} (h : Kept s W (.slice A m cap) n xs gc) : n ≤ cap ∧ cap ≤ 9223372036854775807 := by
  rcases h.1 with ⟨_, ⟨e, h0⟩ | ⟨g, off, cap', e, h1, h2, _⟩⟩
  · injection e with e1 e2 e3
    omega
  · injection e with e1 e2 e3
    unfold maxLen at h2
    omega
theorem winR_fit (t : ByteArray) (k : Nat) : FitW3 (winR t k) := by
  have := gb_lt t k
  have := gw_lt t (k + 1)
  have := gw_lt t (k + 3)
  unfold FitW3 fitI winR
  simp only
  omega
theorem cliR_fit (t : ByteArray) (k : Nat) : FitCl (cliR t k) := by
  have h1 := gw_lt t
  have h2 := gb_lt t
  unfold FitCl fitI cliR
  simp only
  refine ⟨?_, ?_, ?_, ?_, ?_, ?_, ?_, ?_, ?_, ?_⟩
  · have := h1 k; omega
  · have := h1 (k + 2); omega
  · have := h2 (k + 4); omega
  · have := h1 (k + 5); omega
  · have := h2 (k + 7); omega
  · have := h2 (k + 8); omega
  · have := h2 (k + 9); omega
  · have := h2 (k + 10); omega
  · have := h1 (k + 11); omega
  · have := h2 (k + 13); omega
theorem IRow.kept {w W : World} {b k n gc : Nat} {t : ByteArray} {s : Value} (h : IRow w b t k s W n) (hg : gc < w.heap.size) : Kept 3 W s n (w3L (fun q => winR t (k + 1 + q * 5)) n) gc := ⟨h.1, fun q hq => by have := h.2.1 q hq; omega⟩
theorem CRow.kept {w W : World} {b k n gc : Nat} {t : ByteArray} {s : Value} (h : CRow w b t k s W n) (hg : gc < w.heap.size) : Kept 10 W s n (cl9L (fun q => cliR t (k + 1 + q * 14)) n) gc := ⟨h.1, fun q hq => by have := h.2.1 q hq; omega⟩
end Go.Proofs.Ytjmdcmcheiagjaa

/- A region that draws its order, and whose last operation waits for all others: they in any order, under a condition that need not hold behind the last one; then the last one. No program is spoken of here. -/
namespace Go.Proofs.Ytjmdcmcheiagjaa
open Go
set_option linter.unusedVariables false

section
variable {P : Program} {ops : Array Oper} {md : Region.Mode} {Q : Exit → Act → World → Prop} {S : World → Prop} {n : Nat}

/-- The post behind all but the last one. -/
def Ends (P : Program) (ops : Array Oper) (Q : Exit → Act → World → Prop) (n : Nat) : Exit → Act → World → Prop
  | .normal, a, w => wpOp P ops Q n (fun a' w' => Q .normal a' w') a w
  | .ret, a, w => Q .ret a w
  | .panic c, a, w => Q (.panic c) a w
  | .outgrown, a, w => Q .outgrown a w
  | e, a, w => Q e a w

theorem wpOp_pop (hz : ops.size = n + 1) (hg : ∀ (i : Nat) (o : Oper), ops[i]? = some o → o.guard = none) {i : Nat} (hi : i < n) {K : Act → World → Prop} {a : Act} {w : World} (h : wpOp P ops.pop (Ends P ops Q n) i K a w) : wpOp P ops Q i K a w := by
  unfold wpOp at *
  have he : ops.pop[i]? = ops[i]? := by rw [Array.getElem?_pop, if_pos (by omega)]
  rw [he] at h
  cases ho : ops[i]? with
  | none => rw [ho] at h; exact h
  | some o =>
    rw [ho] at h
    have hw : ∀ y, Region.wanted o y = true := fun y => by simp [Region.wanted, hg i o ho]
    simp only [hw, if_true] at h ⊢
    rcases h with h | ⟨h1, h2⟩
    · refine .inl ?_
      unfold Oper.wp at *
      generalize (execOp a.eval o).run P w = r at *
      cases r with
      | ok x w' =>
        cases x <;> simp only [Oper.upon] at h ⊢
        case value u => exact h
        case skip => exact h
        case defer d => exact h
        case enter f args =>
          refine Calls.mono h fun e w'' he => ?_
          cases e with
          | returned u => exact he
          | panicked c => exact he
          | outgrown => exact he
        case row row args => exact h
      | halt x w' =>
        cases x <;> simp only [Oper.upon] at h ⊢
        case panic u => exact h
    · exact .inr ⟨h1, h2⟩

/-- What the law asks of the region's form. -/
def endsB (md : Region.Mode) (ops : Array Oper) (n : Nat) : Bool :=
  decide (ops.size = n + 1) && (List.range (n + 1)).all fun i => match ops[i]? with
    | none => true
    | some o => o.guard.isNone && (o.after.all fun e => decide (e.on < i)) && (if i = n then (List.range n).all fun j => o.after.any fun e => Region.binds md e && decide (e.on = j) else true)
theorem endsB_spec (h : endsB md ops n = true) : ops.size = n + 1 ∧ (∀ (i : Nat) (o : Oper), ops[i]? = some o → o.guard = none) ∧ (∀ (i : Nat) (o : Oper), ops[i]? = some o → ∀ e ∈ o.after, e.on < i) ∧ ∀ (o : Oper), ops[n]? = some o → ∀ j, j < n → ∃ e ∈ o.after, Region.binds md e = true ∧ e.on = j := by
  unfold endsB at h
  rw [Bool.and_eq_true, List.all_eq_true] at h
  obtain ⟨h1, h2⟩ := h
  have hz : ops.size = n + 1 := by simpa using h1
  have key : ∀ (i : Nat) (o : Oper), ops[i]? = some o → (o.guard.isNone && (o.after.all fun e => decide (e.on < i)) && (if i = n then (List.range n).all fun j => o.after.any fun e => Region.binds md e && decide (e.on = j) else true)) = true := fun i o ho => by
    have hi : i < ops.size := (Array.getElem?_eq_some_iff.1 ho).1
    have := h2 i (by rw [List.mem_range]; omega)
    rwa [ho] at this
  refine ⟨hz, fun i o ho => ?_, fun i o ho e he => ?_, fun o ho j hj => ?_⟩
  · have := key i o ho
    simp only [Bool.and_eq_true] at this
    simpa using this.1.1
  · have := key i o ho
    simp only [Bool.and_eq_true] at this
    have := this.1.2
    rw [Array.all_eq_true_iff_forall_mem] at this
    simpa using this e he
  · have := key n o ho
    simp only [Bool.and_eq_true, if_true] at this
    have := this.2
    rw [List.all_eq_true] at this
    have := this j (by simpa using hj)
    obtain ⟨q, hq, hb⟩ := Array.any_eq_true.1 this
    simp only [Bool.and_eq_true, decide_eq_true_eq] at hb
    exact ⟨_, Array.getElem_mem hq, hb⟩

/-- Something may come up as1 long as1 something has not. -/
theorem some_ready (he : ∀ (i : Nat) (o : Oper), ops[i]? = some o → ∀ e ∈ o.after, e.on < i) {listed : Array Bool} (hl : listed.size = ops.size) : ∀ (i : Nat), i < ops.size → listed.getD i true = false → ∃ j, j ≤ i ∧ j ∈ Region.ready md ops listed := by
  intro i
  induction i using Nat.strongRecOn with
  | ind i ih =>
    intro hi hf
    by_cases hall : ∀ e ∈ (ops[i]'hi).after, Region.binds md e = true → listed.getD e.on false = true
    · exact ⟨i, Nat.le_refl _, mem_ready.2 ⟨hf, _, Array.getElem?_eq_getElem hi, hall⟩⟩
    · simp only [Classical.not_forall] at hall
      obtain ⟨e, hm, hbi, hb⟩ := hall
      have hlt := he i _ (Array.getElem?_eq_getElem hi) e hm
      have h9 : e.on < listed.size := by omega
      have hf' : listed.getD e.on true = false := by
        simp [Array.getD, h9] at hb ⊢
        exact hb
      obtain ⟨j, hj, hr⟩ := ih e.on hlt (by omega) hf'
      exact ⟨j, by omega, hr⟩

/-- All but the last one have come up. -/
def AllBut (n : Nat) (listed : Array Bool) : Prop := listed.size = n + 1 ∧ listed.getD n true = false ∧ ∀ i, i < n → listed.getD i true = true
theorem getD_same {listed : Array Bool} {i : Nat} (h : i < listed.size) : listed.getD i true = listed.getD i false := by simp [Array.getD, h]
theorem getD_pop {listed : Array Bool} {i : Nat} (d : Bool) (h : i + 1 < listed.size) : listed.pop.getD i d = listed.getD i d := by
  have h1 : i < listed.pop.size := by simp; omega
  have h2 : i < listed.size := by omega
  simp only [Array.getD, h1, h2, dif_pos]
  simp
theorem ready_pop (hz : ops.size = n + 1) (he : ∀ (i : Nat) (o : Oper), ops[i]? = some o → ∀ e ∈ o.after, e.on < i) {listed : Array Bool} (hl : listed.size = n + 1) {i : Nat} (hi : i < n) : i ∈ Region.ready md ops listed ↔ i ∈ Region.ready md ops.pop listed.pop := by
  rw [mem_ready, mem_ready, getD_pop _ (by omega), Array.getElem?_pop, if_pos (by omega)]
  refine and_congr Iff.rfl ⟨fun ⟨o, ho, h⟩ => ⟨o, ho, fun e hm hb => ?_⟩, fun ⟨o, ho, h⟩ => ⟨o, ho, fun e hm hb => ?_⟩⟩
  · have := he i o ho e hm
    rw [getD_pop _ (by omega)]
    exact h e hm hb
  · have := he i o ho e hm
    have h9 := h e hm hb
    rwa [getD_pop _ (by omega)] at h9
theorem ends_done (hz : ops.size = n + 1) (he : ∀ (i : Nat) (o : Oper), ops[i]? = some o → ∀ e ∈ o.after, e.on < i) {listed : Array Bool} (h : AllBut n listed) {a : Act} {w : World} (hq : Ends P ops Q n .normal a w) (fuel : Nat) : wpAny P md ops Q (fuel + 1) listed a w := by
  obtain ⟨h1, h2, h3⟩ := h
  have hn : n < ops.size := by omega
  have hr : n ∈ Region.ready md ops listed := mem_ready.2 ⟨h2, _, Array.getElem?_eq_getElem hn, fun e hm hb => by
    have := he n _ (Array.getElem?_eq_getElem hn) e hm
    rw [← getD_same (by omega)]
    exact h3 e.on this⟩
  have hset : Region.ready md ops (listed.setIfInBounds n true) = [] := by
    refine List.eq_nil_iff_forall_not_mem.2 fun i hi => ?_
    obtain ⟨k1, o, ho, _⟩ := mem_ready.1 hi
    have hio : i < ops.size := (Array.getElem?_eq_some_iff.1 ho).1
    by_cases hin : i = n
    · subst hin
      simp [Array.getD, h1] at k1
    · rw [getD_set_ne true (Ne.symm hin), h3 i (by omega)] at k1
      cases k1
  refine ⟨fun h0 => (by rw [h0] at hr; cases hr), fun i hi => ?_⟩
  have hin : i = n := by
    obtain ⟨k1, o, ho, _⟩ := mem_ready.1 hi
    have hio : i < ops.size := (Array.getElem?_eq_some_iff.1 ho).1
    refine Classical.byContradiction fun hne => ?_
    rw [h3 i (by omega)] at k1
    cases k1
  subst hin
  refine wpOp_mono (fun a' w' hq' => ?_) hq
  cases fuel with
  | zero => exact ⟨hset, hq'⟩
  | succ k => exact ⟨fun _ => hq', by rw [hset]; simp⟩
theorem all_but (hz : ops.size = n + 1) (he : ∀ (i : Nat) (o : Oper), ops[i]? = some o → ∀ e ∈ o.after, e.on < i) {listed : Array Bool} (hl : listed.size = n + 1) (hn : listed.getD n true = false) (hr : Region.ready md ops.pop listed.pop = []) : AllBut n listed := by
  refine ⟨hl, hn, fun i hi => ?_⟩
  refine Classical.byContradiction fun hne => ?_
  have hf : listed.getD i true = false := by simpa using hne
  obtain ⟨j, hj, hjr⟩ := some_ready (md := md) he (by omega) i (by omega) hf
  have := (ready_pop hz he hl (by omega)).1 hjr
  rw [hr] at this
  cases this
theorem wpAny_ends (hB : endsB md ops n = true) : ∀ (fuel : Nat) (listed : Array Bool) (a : Act) (w : World), listed.size = n + 1 → listed.getD n true = false → wpAnyH P md ops.pop (Ends P ops Q n) S fuel listed.pop a w → wpAny P md ops Q (fuel + 1) listed a w
  | 0, listed, a, w, hl, hn, h => by
    obtain ⟨hz, hg, he, hlast⟩ := endsB_spec hB
    exact ends_done hz he (all_but hz he hl hn h.1) h.2 0
  | fuel + 1, listed, a, w, hl, hn, h => by
    obtain ⟨hz, hg, he, hlast⟩ := endsB_spec hB
    by_cases h0 : Region.ready md ops.pop listed.pop = []
    · exact ends_done hz he (all_but hz he hl hn h0) (h.1 h0) (fuel + 1)
    · have hlow : ∀ i, i ∈ Region.ready md ops listed → i < n := fun i hi => by
        obtain ⟨k1, o, ho, k2⟩ := mem_ready.1 hi
        have hio : i < ops.size := (Array.getElem?_eq_some_iff.1 ho).1
        refine Classical.byContradiction fun hne => h0 ?_
        have hin : i = n := by omega
        subst hin
        refine List.eq_nil_iff_forall_not_mem.2 fun j hj => ?_
        have hjn : j < i := by
          obtain ⟨_, o', ho', _⟩ := mem_ready.1 hj
          have := (Array.getElem?_eq_some_iff.1 ho').1
          simp at this
          omega
        obtain ⟨e, hm, hb, rfl⟩ := hlast o ho j hjn
        have h9 := k2 e hm hb
        have h8 := (mem_ready.1 ((ready_pop hz he hl hjn).2 hj)).1
        rw [getD_same (by omega)] at h8
        rw [h8] at h9
        cases h9
      refine ⟨fun h1 => ?_, fun i hi => ?_⟩
      · exfalso
        refine h0 (List.eq_nil_iff_forall_not_mem.2 fun j hj => ?_)
        have hjn : j < n := by
          obtain ⟨_, o', ho', _⟩ := mem_ready.1 hj
          have := (Array.getElem?_eq_some_iff.1 ho').1
          simp at this
          omega
        have := (ready_pop hz he hl hjn).2 hj
        rw [h1] at this
        cases this
      · have hin := hlow i hi
        have h2 := h.2 i ((ready_pop hz he hl hin).1 hi)
        refine wpOp_mono (fun a' w' h3 => ?_) (wpOp_pop hz hg hin h2)
        refine wpAny_ends hB fuel _ a' w' (by simpa using hl) (by rw [getD_set_ne true (by omega)]; exact hn) ?_
        have : (listed.setIfInBounds i true).pop = listed.pop.setIfInBounds i true := by
          apply Array.ext_getElem?
          intro k
          simp only [Array.getElem?_pop, Array.getElem?_setIfInBounds, Array.size_pop, Array.size_setIfInBounds]
          by_cases hk : i = k
          · subst hk
            have q1 : i < listed.size := by omega
            have q2 : i < listed.size - 1 := by omega
            simp [q1, q2]
          · simp [hk]
        rw [this]
        exact h3.2

/-- The last one comes up. -/
theorem Ends.last {a : Act} {w : World} {o : Oper} (ho : ops[n]? = some o) (h : ∀ K' : Act → World → Prop, Shut (∀ a w, Q .normal a w → K' a w) → if Region.wanted o (yielded ops a.tmps) = true then Oper.wp P o a w K' Q else K' (a.put o.dst undef) w) : Ends P ops Q n .normal a w :=
  wpOp_step ho h

/-- **A region whose last operation waits for all others.** -/
theorem wp_region_ends {id : Nat} {a : Act} {w : World} {l : List Oper} (n : Nat) (S : World → Prop) (hm : P.follows .mixedOrders = true) (hB : endsB .any l.toArray n = true) (hS : S w.drew)
    (h : S w.drew → wpAnyH P .any (l.take n).toArray (Ends P l.toArray Q n) S n (Array.replicate n false) a w.drew) : (Code.region id l.toArray true).wp P Q a w := by
  obtain ⟨hz, hg, he, hlast⟩ := endsB_spec hB
  refine wp_region_any hm ?_
  rw [hz]
  refine wpAny_ends (S := S) hB n (Array.replicate (n + 1) false) a _ (by simp) (by simp [Array.getD]) ?_
  have h1 : l.toArray.pop = (l.take n).toArray := by
    have hz' : l.length = n + 1 := by simpa using hz
    rw [List.pop_toArray, List.dropLast_eq_take, hz']
    rfl
  have h2 : (Array.replicate (n + 1) false).pop = Array.replicate n false := by simp
  rw [h1, h2]
  exact h hS
end
end Go.Proofs.Ytjmdcmcheiagjaa

/- A region that draws its order, and whose last operation waits for all others, some of them by way of others; see HE. No program is spoken of here. -/
namespace Go.Proofs.Ytjmdcmcheiagjaa
open Go
set_option linter.unusedVariables false

section
variable {P : Program} {ops : Array Oper} {md : Region.Mode} {Q : Exit → Act → World → Prop} {S : World → Prop} {n : Nat}
/-- What the law asks of the region's form: no guards; each operation but the last has one that waits for it. -/
def endsB2 (md : Region.Mode) (ops : Array Oper) (n : Nat) : Bool :=
  decide (ops.size = n + 1) && ((List.range (n + 1)).all fun i => match ops[i]? with
    | none => true
    | some o => o.guard.isNone && (o.after.all fun e => decide (e.on < i))) &&
  (List.range n).all fun j => (List.range (n + 1)).any fun k => decide (j < k) && match ops[k]? with
    | none => false
    | some o => o.after.any fun e => Region.binds md e && decide (e.on = j)
theorem endsB2_spec (h : endsB2 md ops n = true) : ops.size = n + 1 ∧ (∀ (i : Nat) (o : Oper), ops[i]? = some o → o.guard = none) ∧ (∀ (i : Nat) (o : Oper), ops[i]? = some o → ∀ e ∈ o.after, e.on < i) ∧ ∀ j, j < n → ∃ k o, j < k ∧ k ≤ n ∧ ops[k]? = some o ∧ ∃ e ∈ o.after, Region.binds md e = true ∧ e.on = j := by
  unfold endsB2 at h
  rw [Bool.and_eq_true, Bool.and_eq_true, List.all_eq_true, List.all_eq_true] at h
  obtain ⟨⟨h1, h2⟩, h3⟩ := h
  have hz : ops.size = n + 1 := by simpa using h1
  have key : ∀ (i : Nat) (o : Oper), ops[i]? = some o → (o.guard.isNone && (o.after.all fun e => decide (e.on < i))) = true := fun i o ho => by
    have hi : i < ops.size := (Array.getElem?_eq_some_iff.1 ho).1
    have := h2 i (by rw [List.mem_range]; omega)
    rwa [ho] at this
  refine ⟨hz, fun i o ho => ?_, fun i o ho e he => ?_, fun j hj => ?_⟩
  · have := key i o ho
    simp only [Bool.and_eq_true] at this
    simpa using this.1
  · have := key i o ho
    simp only [Bool.and_eq_true] at this
    have := this.2
    rw [Array.all_eq_true_iff_forall_mem] at this
    simpa using this e he
  · have := h3 j (by simpa using hj)
    rw [List.any_eq_true] at this
    obtain ⟨k, hk, hb⟩ := this
    simp only [Bool.and_eq_true, decide_eq_true_eq] at hb
    obtain ⟨hjk, hb⟩ := hb
    cases ho : ops[k]? with
    | none => rw [ho] at hb; cases hb
    | some o =>
      rw [ho] at hb
      obtain ⟨q, hq, hb⟩ := Array.any_eq_true.1 hb
      simp only [Bool.and_eq_true, decide_eq_true_eq] at hb
      exact ⟨k, o, hjk, by have := List.mem_range.1 hk; omega, ho, _, Array.getElem_mem hq, hb⟩
/-- What has come up had all come up that it waits for. -/
def DownC (md : Region.Mode) (ops : Array Oper) (listed : Array Bool) : Prop := ∀ (i : Nat) (o : Oper), ops[i]? = some o → listed.getD i true = true → ∀ e ∈ o.after, Region.binds md e = true → listed.getD e.on false = true
theorem DownC.set {listed : Array Bool} {i : Nat} (h : DownC md ops listed) (hi : i ∈ Region.ready md ops listed) : DownC md ops (listed.setIfInBounds i true) := fun j o ho hj e hm hb => by
  obtain ⟨k1, o', ho', k2⟩ := mem_ready.1 hi
  by_cases he : i = j
  · subst he
    rw [ho] at ho'
    injection ho' with ho'
    subst ho'
    exact getD_set_true (k2 e hm hb)
  · rw [getD_set_ne true he] at hj
    exact getD_set_true (h j o ho hj e hm hb)
theorem last_all (hz : ops.size = n + 1) (hsucc : ∀ j, j < n → ∃ k o, j < k ∧ k ≤ n ∧ ops[k]? = some o ∧ ∃ e ∈ o.after, Region.binds md e = true ∧ e.on = j) {listed : Array Bool} (hl : listed.size = n + 1) (hd : DownC md ops listed) (hr : n ∈ Region.ready md ops listed) : ∀ m j, n - j = m → j < n → listed.getD j false = true := by
  intro m
  induction m using Nat.strongRecOn with
  | ind m ih =>
    intro j hm hj
    obtain ⟨k, o, hjk, hkn, ho, e, he, hb, rfl⟩ := hsucc j hj
    by_cases hk : k = n
    · subst hk
      obtain ⟨_, o', ho', k2⟩ := mem_ready.1 hr
      rw [ho] at ho'
      injection ho' with ho'
      subst ho'
      exact k2 e he hb
    · have hkl := ih (n - k) (by omega) k rfl (by omega)
      exact hd k o ho (by rw [getD_same (by omega)]; exact hkl) e he hb
theorem wpAny_ends2 (hB : endsB2 md ops n = true) : ∀ (fuel : Nat) (listed : Array Bool) (a : Act) (w : World), listed.size = n + 1 → listed.getD n true = false → DownC md ops listed → wpAnyH P md ops.pop (Ends P ops Q n) S fuel listed.pop a w → wpAny P md ops Q (fuel + 1) listed a w
  | 0, listed, a, w, hl, hn, hd, h => by
    obtain ⟨hz, hg, he, hlast⟩ := endsB2_spec hB
    exact ends_done hz he (all_but hz he hl hn h.1) h.2 0
  | fuel + 1, listed, a, w, hl, hn, hd, h => by
    obtain ⟨hz, hg, he, hlast⟩ := endsB2_spec hB
    by_cases h0 : Region.ready md ops.pop listed.pop = []
    · exact ends_done hz he (all_but hz he hl hn h0) (h.1 h0) (fuel + 1)
    · have hlow : ∀ i, i ∈ Region.ready md ops listed → i < n := fun i hi => by
        obtain ⟨k1, o, ho, k2⟩ := mem_ready.1 hi
        have hio : i < ops.size := (Array.getElem?_eq_some_iff.1 ho).1
        refine Classical.byContradiction fun hne => h0 ?_
        have hin : i = n := by omega
        subst hin
        refine List.eq_nil_iff_forall_not_mem.2 fun j hj => ?_
        have hjn : j < i := by
          obtain ⟨_, o', ho', _⟩ := mem_ready.1 hj
          have := (Array.getElem?_eq_some_iff.1 ho').1
          simp at this
          omega
        have h9 := last_all hz hlast hl hd hi _ j rfl hjn
        have h8 := (mem_ready.1 ((ready_pop hz he hl hjn).2 hj)).1
        rw [getD_same (by omega)] at h8
        rw [h8] at h9
        cases h9
      refine ⟨fun h1 => ?_, fun i hi => ?_⟩
      · exfalso
        refine h0 (List.eq_nil_iff_forall_not_mem.2 fun j hj => ?_)
        have hjn : j < n := by
          obtain ⟨_, o', ho', _⟩ := mem_ready.1 hj
          have := (Array.getElem?_eq_some_iff.1 ho').1
          simp at this
          omega
        have := (ready_pop hz he hl hjn).2 hj
        rw [h1] at this
        cases this
      · have hin := hlow i hi
        have h2 := h.2 i ((ready_pop hz he hl hin).1 hi)
        refine wpOp_mono (fun a' w' h3 => ?_) (wpOp_pop hz hg hin h2)
        refine wpAny_ends2 hB fuel _ a' w' (by simpa using hl) (by rw [getD_set_ne true (by omega)]; exact hn) (hd.set hi) ?_
        have : (listed.setIfInBounds i true).pop = listed.pop.setIfInBounds i true := by
          apply Array.ext_getElem?
          intro k
          simp only [Array.getElem?_pop, Array.getElem?_setIfInBounds, Array.size_pop, Array.size_setIfInBounds]
          by_cases hk : i = k
          · subst hk
            have q1 : i < listed.size := by omega
            have q2 : i < listed.size - 1 := by omega
            simp [q1, q2]
          · simp [hk]
        rw [this]
        exact h3.2
theorem wp_region_ends2 {id : Nat} {a : Act} {w : World} {l : List Oper} (n : Nat) (S : World → Prop) (hm : P.follows .mixedOrders = true) (hB : endsB2 .any l.toArray n = true) (hS : S w.drew)
    (h : S w.drew → wpAnyH P .any (l.take n).toArray (Ends P l.toArray Q n) S n (Array.replicate n false) a w.drew) : (Code.region id l.toArray true).wp P Q a w := by
  obtain ⟨hz, hg, he, hlast⟩ := endsB2_spec hB
  refine wp_region_any hm ?_
  rw [hz]
  refine wpAny_ends2 (S := S) hB n (Array.replicate (n + 1) false) a _ (by simp) (by simp [Array.getD]) (fun i o ho hl => ?_) ?_
  · have hio : i < l.toArray.size := (Array.getElem?_eq_some_iff.1 ho).1
    have : i < n + 1 := by omega
    simp [Array.getD, this] at hl
  · have h1 : l.toArray.pop = (l.take n).toArray := by
      have hz' : l.length = n + 1 := by simpa using hz
      rw [List.pop_toArray, List.dropLast_eq_take, hz']
      rfl
    have h2 : (Array.replicate (n + 1) false).pop = Array.replicate n false := by simp
    rw [h1, h2]
    exact h hS
end
end Go.Proofs.Ytjmdcmcheiagjaa

/- append of many onto a row of the call's own. No program is spoken of here. -/
namespace Go.Proofs.Ytjmdcmcheiagjaa
open Go.RowKit Go.Lib
set_option linter.unusedVariables false

/-- append of a whole row onto an empty one of no room. -/
theorem run_allZ {P : Program} {s : Nat} (w : World) (t e ty : TypeId) (i : TypeInfo) (z : Value) (bytes : Nat) (ht : P.underlying t = some (.slice e)) (hi : P.info? e = some i) (hz : i.zero = some z) (hs : i.size = s) (hby : i.bytes = bytes) (hb16 : bytes ≤ 64) (hzs : z.cells.size = s)
    (b m : Nat) (hb : b < w.heap.size) (xs : Value) (x : List Value) (hx : Src P s t xs m x w) (hn : m ≤ 1000000) :
    ∃ v' w', (Builtin.append_ #[t, t] ty #[.slice (some ⟨b, 0, none⟩) 0 0, xs]).run P w = .ok v' w' ∧ RowZ s w' v' m x ∧ w.grownBy w' none ∧ (v'.ownBlock = some b ∨ v'.ownBlock = some w.heap.size) ∧ ∃ A c, v' = .slice (some A) m c := by
  have hxl : x.length = m * s := hx.newsLen
  have hsrc : Src P i.size t xs m x w := by rw [hs]; exact hx
  rcases Nat.eq_zero_or_pos m with rfl | hm
  · have hx0 : x = [] := List.eq_nil_of_length_eq_zero (by omega)
    subst hx0
    have hr := run_append_room_src (P := P) w t t ty e i ht hi b 0 0 0 xs 0 [] hsrc (by omega) (by simp) (by simp)
    exact ⟨_, _, hr, RowZ.empty s 0 hb, only_refl w none, .inl rfl, _, _, rfl⟩
  · have hbm : (0 + m) * bytes ≤ 140737488355328 := by
      have : (0 + m) * bytes ≤ 1000001 * 64 := Nat.mul_le_mul (by omega) hb16
      omega
    have hold := ((RowZ.empty (w := w) s 0 hb).drewN 1).src (P := P) t e ht (by simp) |>.cells
    have hm2 : 0 + m ≤ maxLen := by unfold maxLen; omega
    have hge := grownCap_ge w (0 + m) 0 e
    have hcm := grownCap_le_maxLen w (0 + m) 0 e hm2
    have hr := run_append_grow_src (P := P) w t t ty e i z ht hi hz (some ⟨b, 0, none⟩) 0 0 [] (by rw [hs]; exact hold) xs m x hsrc (by omega) (by omega) (by rw [hby]; exact growslice_fits (by omega) hbm)
    rw [Nat.zero_add, List.nil_append] at hr
    rw [Nat.zero_add] at hge hcm
    refine ⟨_, _, hr, ?_, ⟨rfl, rfl, rfl, by simp, fun k hk _ => Below.heap_alloc w.drew _ k hk⟩, .inr rfl, _, _, rfl⟩
    refine RowZ.new w.drew _ e _ hxl ?_ hge hcm (fun j u hu => ?_)
    · simp only [Array.size_append, List.size_toArray, size_zeroCells, hzs, hxl]
      rw [← Nat.add_mul]
      congr 1
      omega
    · have hj := (List.getElem?_eq_some_iff.1 hu).1
      rw [Array.getElem?_append_left (by simpa using hj)]
      simpa using hu

/-- append of many onto a row. -/
theorem run_joinZ {P : Program} {s : Nat} (w : World) (t e ty : TypeId) (i : TypeInfo) (z : Value) (bytes : Nat) (ht : P.underlying t = some (.slice e)) (hi : P.info? e = some i) (hz : i.zero = some z) (hs : i.size = s) (hby : i.bytes = bytes) (hb16 : bytes ≤ 64) (hzs : z.cells.size = s)
    (g off cap n m : Nat) (l : List Value) (h : RowZ s w (.slice (some ⟨g, off, none⟩) n cap) n l) (h1 : ∀ u ∈ l, u.oneCell' = true) (xs : Value) (x : List Value) (hx : Src P s t xs m x w) (hn : n + m ≤ 1000000) :
    ∃ v' w', (Builtin.append_ #[t, t] ty #[.slice (some ⟨g, off, none⟩) n cap, xs]).run P w = .ok v' w' ∧ RowZ s w' v' (n + m) (l ++ x) ∧ w.grownBy w' (some g) ∧ (v'.ownBlock = some g ∨ v'.ownBlock = some w.heap.size) ∧ ∃ A c, v' = .slice (some A) (n + m) c := by
  have hxl : x.length = m * s := hx.newsLen
  have hl0 : l.length = n * s := h.1
  have hlx : (l ++ x).length = (n + m) * s := by rw [List.length_append, hl0, hxl, Nat.add_mul]
  have hbm : (n + m) * bytes ≤ 140737488355328 := by
    have : (n + m) * bytes ≤ 1000001 * 64 := Nat.mul_le_mul (by omega) hb16
    omega
  have hsrc : Src P i.size t xs m x w := by rw [hs]; exact hx
  obtain ⟨hl, ⟨he, _⟩ | ⟨g', off', cap', he, h2, h3, h4, h5, h6⟩⟩ := id h
  · cases he
  · injection he with e1 e2 e3
    injection e1 with e1
    injection e1 with e4 e5
    subst e4 e5 e3
    by_cases hroom : n + m ≤ cap
    · have hcs : n * s + m * s ≤ cap * s := by
        have := Nat.mul_le_mul_right s hroom
        rw [Nat.add_mul] at this
        exact this
      have hr := run_append_room_src (P := P) w t t ty e i ht hi g off n cap xs m x hsrc hroom (by
        intro j hj
        rw [hs, Nat.add_assoc]
        exact (h5 (n * s + j) (by omega)).1) (by
        intro j hj
        rw [hs, Nat.add_assoc]
        exact (h5 (n * s + j) (by omega)).2)
      rw [hs] at hr
      have hsome : ∀ k, k < x.length → (w.cell? ⟨g, off + n * s + k, none⟩).isSome = true := fun k hk => by
        rw [Nat.add_assoc]
        exact (h5 (n * s + k) (by omega)).1
      refine ⟨_, _, hr, ⟨hlx, .inr ⟨g, off, cap, rfl, hroom, h3, ?_, ?_, ?_⟩⟩, only_cells _ _ _ _, .inl rfl, _, _, rfl⟩
      · rw [(setCells_at g x (off + n * s) w).2.2.2.1]
        exact h4
      · intro j hj
        rw [World.frozen?_setCells]
        refine ⟨?_, (h5 j hj).2⟩
        by_cases e1 : n * s ≤ j ∧ j < n * s + m * s
        · have := World.cell?_setCells_in g x (off + n * s) w hsome (j - n * s) (by omega)
          rw [show off + n * s + (j - n * s) = off + j by omega] at this
          rw [this]
          rfl
        · rw [World.cell?_setCells_out g x (off + n * s) w _ (by intro _ _; simp; omega)]
          exact (h5 j hj).1
      · intro j u hu
        by_cases e1 : j < n * s
        · rw [List.getElem?_append_left (by omega)] at hu
          rw [World.cell?_setCells_out g x (off + n * s) w _ (by intro _ _; simp; omega)]
          exact h6 j u hu
        · have hj := (List.getElem?_eq_some_iff.1 hu).1
          rw [List.length_append, hl] at hj
          rw [List.getElem?_append_right (by omega), hl] at hu
          have := World.cell?_setCells_in g x (off + n * s) w hsome (j - n * s) (by omega)
          rw [show off + n * s + (j - n * s) = off + j by omega] at this
          rw [this, ← List.getElem?_eq_getElem]
          exact hu
    · have hold := ((h.drewN 1).src (P := P) t e ht h1).cells
      have hm : n + m ≤ maxLen := by unfold maxLen; omega
      have hge := grownCap_ge w (n + m) cap e
      have hcm := grownCap_le_maxLen w (n + m) cap e hm
      have hr := run_append_grow_src (P := P) w t t ty e i z ht hi hz (some ⟨g, off, none⟩) n cap l (by rw [hs]; exact hold) xs m x hsrc (by omega) (by omega) (by rw [hby]; exact growslice_fits (by omega) hbm)
      refine ⟨_, _, hr, ?_, ⟨rfl, rfl, rfl, by simp, fun k hk _ => Below.heap_alloc w.drew _ k hk⟩, .inr rfl, _, _, rfl⟩
      refine RowZ.new w.drew _ e _ hlx ?_ hge hcm (fun j u hu => ?_)
      · simp only [Array.size_append, List.size_toArray, size_zeroCells, hzs, hlx]
        rw [← Nat.add_mul]
        congr 1
        omega
      · have hj := (List.getElem?_eq_some_iff.1 hu).1
        rw [Array.getElem?_append_left (by simpa using hj)]
        simpa using hu
end Go.Proofs.Ytjmdcmcheiagjaa

/- The document's Parse: a number at a place; what is kept between two rows that are read. -/
namespace Go.Proofs.Ytjmdcmcheiagjaa
open Go.RowKit Go.Lib Go.Sort
set_option linter.unusedVariables false

/-- append where its run is known, as1 a step of a drawn region. -/
theorem step_app_eq {P : Program} {ops : Array Oper} {o : Oper} {a : Act} {W : World} {K : Act → World → Prop} {Q : Exit → Act → World → Prop} {E : Prop} (hgd : o.guard = none) (s x : Operand) (t : TypeId) (ho : o.op = .call { callee := .builtin .append, args := #[s, x], argTypes := #[t, t] })
    {v xs v' : Value} {w' : World} (hr : (Builtin.append_ #[t, t] o.type #[v, xs]).run P W = .ok v' w') (hs : a.eval s = v) (hx : a.eval x = xs) (h : K (a.put o.dst v') w') : if Region.wanted o (yielded ops a.tmps) = true then Oper.wp P o a W K Q else E := by
  have hw : Region.wanted o (yielded ops a.tmps) = true := by simp [Region.wanted, hgd]
  rw [if_pos hw]
  unfold Oper.wp execOp
  simp only [ho, resolve, invoke, builtin, Sem.run_bind, Sem.run_pure, Result.andThen_ok, List.map_toArray, List.map_cons, List.map_nil, hs, hx, hr]
  exact h
theorem at1_any (t : ByteArray) (i : Nat) (x : Int) (hx : x = (i : Int)) (w : World) (hi : i ≤ 20000) (hs : t.size ≤ 10000) : Calls Try.prog 45 #[.string t, .int .i64 x, .int .i64 1] w fun e w' => e = .returned (.int .i64 (gb t i)) ∧ w = w' := by
  subst hx
  by_cases h : i < t.size
  · have hg := gb_of h
    have hl := UInt8.toNat_lt t[i]
    have m1 : ¬ (t.size : Int) - (i : Int) < 1 := by omega
    have i1 : (i : Int) < (t.size : Int) := by omega
    rw [hg]
    go_enter Try.func45, Try.ntmps45
    go_wp2
    go_ret
    refine ⟨?_, rfl⟩
    have : IntKind.i64.wrap ((t[i].toNat : Nat) : Int) = ((t[i].toNat : Nat) : Int) := by rw [IntKind.wrap_i64]; omega
    first | rfl | simp [this]
  · have hg := gb_off (t := t) (i := i) (by omega)
    have m1 : (t.size : Int) - (i : Int) < 1 := by omega
    rw [hg]
    clear h hg
    go_enter Try.func45, Try.ntmps45
    go_wp2
    go_ret
    exact ⟨rfl, rfl⟩
theorem at2_any (t : ByteArray) (i : Nat) (x : Int) (hx : x = (i : Int)) (w : World) (hi : i ≤ 20000) (hs : t.size ≤ 10000) : Calls Try.prog 45 #[.string t, .int .i64 x, .int .i64 2] w fun e w' => e = .returned (.int .i64 (gw t i)) ∧ w = w' := by
  subst hx
  by_cases h : i + 2 ≤ t.size
  · have hg : gw t i = (t[i]'(by omega)).toNat + 256 * (t[i + 1]'(by omega)).toNat := by rw [gw, if_pos h, gb_of (show i < t.size by omega), gb_of (show i + 1 < t.size by omega)]
    have hl := UInt8.toNat_lt (t[i]'(by omega))
    have hl' := UInt8.toNat_lt (t[i + 1]'(by omega))
    have m1 : ¬ (t.size : Int) - (i : Int) < 2 := by omega
    have i1 : (i : Int) < (t.size : Int) := by omega
    have i2 : (i : Int) + 1 < (t.size : Int) := by omega
    have e1 : ((i : Int) + 1).toNat = i + 1 := by omega
    have e2 : i + 1 < t.size := by omega
    have e3 : i < t.size := by omega
    rw [hg]
    clear hg
    go_enter Try.func45, Try.ntmps45
    go_wp2
    go_ret
    refine ⟨?_, rfl⟩
    simp [IntKind.wrap_i64]
  · have hg : gw t i = 0 := by rw [gw, if_neg h]
    have m1 : (t.size : Int) - (i : Int) < 2 := by omega
    rw [hg]
    clear h hg
    go_enter Try.func45, Try.ntmps45
    go_wp2
    go_ret
    exact ⟨rfl, rfl⟩

/-- What is kept: the answer's box, the tables' box, the row that grows, and those that are done. -/
structure PZ (w W : World) (gc : Nat) (cs : Array Value) (s : Nat) (v : Value) (n : Nat) (xs : List Value) (rest : List (Nat × Value × Nat × List Value)) : Prop where
  b0 : Blk W w.heap.size 26 #[.int .i64 0, .slice none 0 0, .slice none 0 0, .slice none 0 0]
  bc : Blk W gc 26 cs
  bl : Below w.heap.size w W
  lt : w.heap.size < gc
  row : RowZ s W v n xs
  own : ∀ q, v.ownBlock = some q → gc < q
  done : ∀ r ∈ rest, RowZ r.1 W r.2.1 r.2.2.1 r.2.2.2 ∧ ∀ q, r.2.1.ownBlock = some q → gc < q ∧ v.ownBlock ≠ some q
theorem PZ.next {w W : World} {gc : Nat} {cs : Array Value} {s : Nat} {v : Value} {n : Nat} {xs : List Value} {rest : List (Nat × Value × Nat × List Value)} (h : PZ w W gc cs s v n xs rest) (s' : Nat) : PZ w W gc cs s' (.slice none 0 0) 0 [] ((s, v, n, xs) :: rest) := {
  b0 := h.b0
  bc := h.bc
  bl := h.bl
  lt := h.lt
  row := RowZ.nil _ _
  own := fun q hq => by simp [Value.ownBlock] at hq
  done := fun r hr => by
    rcases List.mem_cons.1 hr with rfl | hr
    · exact ⟨h.row, fun q hq => ⟨h.own q hq, by simp [Value.ownBlock]⟩⟩
    · exact ⟨(h.done r hr).1, fun q hq => ⟨((h.done r hr).2 q hq).1, by simp [Value.ownBlock]⟩⟩ }
/-- One more row: what the region leaves on its way, and behind it. -/
def PZP (w wr : World) (gc : Nat) (cs : Array Value) (j s : Nat) (n : Nat) (xs ys : List Value) (rest : List (Nat × Value × Nat × List Value)) (te : TypeId) (v' : Value) (w' : World) : Prop :=
  PZ w (w'.setCell ⟨gc, j, none⟩ v') gc (cs.setIfInBounds j v') s v' (n + 1) (xs ++ ys) rest ∧ (∀ W, W = wr.drew ∨ W = (wr.alloc (.cells ys.toArray te)).drew ∨ W = w' → W.cell? ⟨gc, j, none⟩ = cs[j]?) ∧ w'.frozen? ⟨gc, j, none⟩ = false ∧ ∃ A c, v' = .slice A (n + 1) c
theorem PZ.push {P : Program} {w wr : World} {gc : Nat} {cs : Array Value} {s : Nat} {v : Value} {n : Nat} {xs ys : List Value} {rest : List (Nat × Value × Nat × List Value)} (h : PZ w wr gc cs s v n xs rest) (j : Nat) (t te : TypeId) (i0 : TypeInfo) (z : Value) (by' : Nat) (ht : P.underlying t = some (.slice te)) (hi : P.info? te = some i0) (hz : i0.zero = some z) (hs : i0.size = s) (hby : i0.bytes = by') (hb16 : by' ≤ 128) (hzs : z.cells.size = s)
    (h1 : ∀ u ∈ xs, u.oneCell' = true) (h2 : ∀ u ∈ ys, u.oneCell' = true) (hy : ys.length = s) (hn : n ≤ 1000) :
    ∃ v' w', (Builtin.append_ #[t, t] t #[v, .slice (some ⟨wr.heap.size, 0, none⟩) 1 1]).run P (wr.alloc (.cells ys.toArray te)).drew = .ok v' w' ∧ PZP w wr gc cs j s n xs ys rest te v' w' := by
  have hgw := h.bc.lt
  have b1 : Blk (wr.alloc (.cells ys.toArray te)).drew wr.heap.size te ys.toArray := (Blk.new wr te ys.toArray).drewN 1
  have hsrc : Src P s t (.slice (some ⟨wr.heap.size, 0, none⟩) 1 1) 1 ys (wr.alloc (.cells ys.toArray te)).drew := Src.ofSlice _ ht _ _ _ _ (by omega) (fun k u hu => by
    rw [addr_at, Nat.zero_add, b1.cell k]
    simpa using hu) h2
  have g1 : wr.grownBy (wr.alloc (.cells ys.toArray te)).drew none := only_drewN (only_alloc (only_refl _ none) _) 1
  obtain ⟨v', w', hk, hr, hg, ho⟩ := run_growZ (P := P) (wr.alloc (.cells ys.toArray te)).drew t t te t 1 (by omega) i0 z by' ht hi hz hs hby hb16 hzs _ _ _ (h.row.grown g1) h1 _ _ hsrc (by omega)
  have hsz : (wr.alloc (.cells ys.toArray te)).drew.heap.size = wr.heap.size + 1 := by simp
  have hov : ∀ q, v'.ownBlock = some q → gc < q := fun q hq => by
    rcases ho with ho | ho
    · exact h.own q (ho ▸ hq)
    · rw [ho] at hq; injection hq with hq; omega
  have hvg : ∀ q, q ≤ gc → v.ownBlock ≠ some q := fun q hq e => by have := h.own q e; omega
  have hne : v'.ownBlock ≠ some gc := fun e => by have := hov gc e; omega
  have bc1 := (h.bc.only g1 (by simp)).only hg (fun e => hvg gc (Nat.le_refl _) e.symm)
  have b01 := (h.b0.only g1 (by simp)).only hg (fun e => hvg w.heap.size (by have := h.lt; omega) e.symm)
  have bw : Below w.heap.size w w' := (h.bl.trans (below_of_only g1 h.bl.size (by simp))).trans (below_of_only hg (by have := h.bl.size; omega) (fun q hq => by have := h.own q hq; have := h.lt; omega))
  refine ⟨v', w', hk, ⟨b01.far (p := ⟨gc, j, none⟩) (by have := h.lt; show w.heap.size ≠ gc; omega) _, bc1.put j v', bw.setCell (p := ⟨gc, j, none⟩) (by have := h.lt; show w.heap.size ≤ gc; omega) _, h.lt, hr.put (p := ⟨gc, j, none⟩) hne _, hov, fun r hr' => ?_⟩, fun W hW => ?_, bc1.free j, hr.form⟩
  · obtain ⟨r1, r2⟩ := h.done r hr'
    have q1 := (r1.grown g1).only hg (by
      cases hv : r.2.1.ownBlock with
      | none => exact .inl rfl
      | some q => exact .inr (fun e => (r2 q hv).2 e.symm))
    refine ⟨q1.put (p := ⟨gc, j, none⟩) (fun e => by have := (r2 _ e).1; simp only at this; omega) _, fun q hq => ⟨(r2 q hq).1, fun e => ?_⟩⟩
    rcases ho with ho | ho
    · exact (r2 q hq).2 (ho ▸ e)
    · rw [ho] at e
      injection e with e
      have := r1.lt q hq
      omega
  · rcases hW with rfl | rfl | rfl
    · exact (h.bc.drewN 1).cell j
    · exact (h.bc.only g1 (by simp)).cell j
    · exact bc1.cell j
end Go.Proofs.Ytjmdcmcheiagjaa
