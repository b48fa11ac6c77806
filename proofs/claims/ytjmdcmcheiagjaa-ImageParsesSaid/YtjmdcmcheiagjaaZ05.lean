import Derived.Test.YtjmdcmcheiagjaaZ01
import Derived.Lib.AppendStr
import Derived.Deep.RegionLaw
import Derived.Test.YtjmdcmcheiagjaaZ02
import Derived.Test.YtjmdcmcheiagjaaZ04
set_option linter.all false
/- The writer of package bits: each call by its contract. -/
namespace Go.Proofs.Ytjmdcmcheiagjaa
open Go.RowKit Go.Lib
set_option linter.unusedVariables false

def byteCells (l : List UInt8) : List Value := l.map fun b => .int .u8 (b.toNat : Int)

/-- A writer lies in block b; what it has written lies in a block from B on. -/
def Wr (w : World) (B b : Nat) : Option (List UInt8) → Prop
  | some l => ∃ v, Blk w b 44 #[.int .i64 0, v] ∧ w.ownsRow B 5 1 v l.length (byteCells l)
  | none => Blk w b 44 #[.int .i64 2, .slice none 0 0]

/-- The bytes that a step writes, or that it cannot be written. -/
def stepBytes (d n : Int) (t : ByteArray) : Option (List UInt8) :=
  if d = 0 then (if 0 ≤ n ∧ n ≤ 255 then some [UInt8.ofNat n.toNat] else none)
  else if d = 1 then (if 0 ≤ n ∧ n ≤ 65535 then some (Bt.put n).data.toList else none)
  else some t.data.toList
def wrNext (o : Option (List UInt8)) (d n : Int) (t : ByteArray) : Option (List UInt8) := o.bind fun l => (stepBytes d n t).map fun x => l ++ x

theorem takes_yes (b : Nat) (n m : Int) (w : World) (c0 : w.cell? ⟨b, 0, none⟩ = some (.int .i64 0)) (h0 : 0 ≤ n) (h1 : n ≤ m) :
    Calls Try.prog 47 #[.pointer (some ⟨b, 0, none⟩), .int .i64 n, .int .i64 m] w fun r w' => r = .returned (.bool true) ∧ w = w' := by
  go_enter Try.func47, Try.ntmps47
  go_wp2_with (go_at_call 46; refine (failed_any _ _ _ _ c0).mono ?_; rintro e w' ⟨rfl, rfl⟩)
  go_ret
  exact ⟨rfl, rfl⟩

theorem takes_off (b : Nat) (n m : Int) (w : World) (h : Blk w b 44 #[.int .i64 2, .slice none 0 0]) :
    Calls Try.prog 47 #[.pointer (some ⟨b, 0, none⟩), .int .i64 n, .int .i64 m] w fun r w' => r = .returned (.bool false) ∧ w = w' := by
  have c0 : w.cell? ⟨b, 0, none⟩ = some (.int .i64 2) := h.cell 0
  clear h
  go_enter Try.func47, Try.ntmps47
  go_wp2_with (go_at_call 46; refine (failed_any _ _ _ _ c0).mono ?_; rintro e w' ⟨rfl, rfl⟩)
  go_ret
  exact ⟨rfl, rfl⟩

theorem takes_no (b : Nat) (n m : Int) (v : Value) (w : World) (h : Blk w b 44 #[.int .i64 0, v]) (hn : n < 0 ∨ m < n) :
    Calls Try.prog 47 #[.pointer (some ⟨b, 0, none⟩), .int .i64 n, .int .i64 m] w fun r w' => r = .returned (.bool false) ∧ (w.setCell ⟨b, 0, none⟩ (.int .i64 2)).setCell ⟨b, 1, none⟩ (.slice none 0 0) = w' := by
  have c0 : w.cell? ⟨b, 0, none⟩ = some (.int .i64 0) := h.cell 0
  have c1 : w.cell? ⟨b, 1, none⟩ = some v := h.cell 1
  have f0 := h.free 0
  have f1 := h.free 1
  clear h
  by_cases h0 : n < 0
  · go_enter Try.func47, Try.ntmps47
    go_wp2_with (first | (go_at_call 46; refine (failed_any _ _ _ _ c0).mono ?_; rintro e w' ⟨rfl, rfl⟩) | (go_at_call 55; refine (fail_any _ _ _ _ _ c0 f0).mono ?_; rintro e w' ⟨rfl, rfl⟩))
    go_ret
    exact ⟨rfl, rfl⟩
  · have h1 : m < n := by omega
    clear hn
    go_enter Try.func47, Try.ntmps47
    go_wp2_with (first | (go_at_call 46; refine (failed_any _ _ _ _ c0).mono ?_; rintro e w' ⟨rfl, rfl⟩) | (go_at_call 55; refine (fail_any _ _ _ _ _ c0 f0).mono ?_; rintro e w' ⟨rfl, rfl⟩))
    go_ret
    exact ⟨rfl, rfl⟩

theorem u8_info : (Try.prog.info? 5).map (fun i => (i.zero, i.size, i.bytes)) = some (some (.int .u8 0), 1, 1) := by kernel_rfl

theorem Wr.none_of {w : World} {B b : Nat} {v : Value} (h : Blk w b 44 #[.int .i64 0, v]) (hb : B ≤ b) (hB : B ≤ w.heap.size) :
    Wr ((w.setCell ⟨b, 0, none⟩ (.int .i64 2)).setCell ⟨b, 1, none⟩ (.slice none 0 0)) B b none ∧ Below B w ((w.setCell ⟨b, 0, none⟩ (.int .i64 2)).setCell ⟨b, 1, none⟩ (.slice none 0 0)) :=
  ⟨(h.put 0 _).put 1 _, ((Below.refl _ _).setCell hb _).setCell hb _⟩

/-- What an append onto what was written, and its store, leave. -/
theorem wr_step {w wa w1 : World} {B b n m : Nat} {v v1 : Value} {xs ys : List Value} (hblk : Blk w b 44 #[.int .i64 0, v]) (hb : B ≤ b) (hown : w.ownsRow B 5 1 v n xs) (ha : Below B w wa)
    (hown1 : w1.ownsRow B 5 1 v1 m ys) (hg : wa.grownBy w1 v.ownBlock) (hb1 : Blk w1 b 44 #[.int .i64 0, v]) :
    (Blk (w1.setCell ⟨b, 1, none⟩ v1) b 44 #[.int .i64 0, v1] ∧ (w1.setCell ⟨b, 1, none⟩ v1).ownsRow B 5 1 v1 m ys) ∧ Below B w (w1.setCell ⟨b, 1, none⟩ v1) := by
  refine ⟨⟨hb1.put 1 _, ownsRow_setCell_other hown1 (own_ne hown1 hb1 (by decide)) _⟩, ?_⟩
  have k : ∀ k, v.ownBlock = some k → B ≤ k := fun k hk => (hown.lt k hk).1
  by_cases hB : B ≤ w.heap.size
  · exact (ha.trans (below_of_only hg (Nat.le_trans hB ha.size) k)).setCell hb _
  · have := hblk.lt
    omega

theorem wbyte_any (B b : Nat) (n : Int) (t : ByteArray) (o : Option (List UInt8)) (w : World) (h : Wr w B b o) (hb : B ≤ b) (hB : B ≤ w.heap.size) (hl : ∀ l, o = some l → l.length ≤ 100000) :
    Calls Try.prog 49 #[.pointer (some ⟨b, 0, none⟩), .int .i64 n] w fun r w' => r = .returned (.tuple #[]) ∧ Wr w' B b (wrNext o 0 n t) ∧ Below B w w' := by
  obtain ⟨i0, hi0, hz0, hz1, hz2⟩ := info_parts u8_info
  cases o with
  | none =>
    have h' : Blk w b 44 #[.int .i64 2, .slice none 0 0] := h
    have H := Lib.hid h'
    clear h h' hl
    go_enter Try.func49, Try.ntmps49
    go_wp2_with (go_at_call 47; refine (takes_off _ _ _ _ H.out).mono ?_; rintro e w' ⟨rfl, rfl⟩)
    go_end0
    exact ⟨rfl, H.out, Below.refl _ _⟩
  | some l =>
    have hll := hl l rfl
    obtain ⟨v, hblk, hown⟩ := h
    clear hl
    by_cases hn : 0 ≤ n ∧ n ≤ 255
    · obtain ⟨h0, h1⟩ := hn
      have c0 : w.cell? ⟨b, 0, none⟩ = some (.int .i64 0) := hblk.cell 0
      have c1 : w.cell? ⟨b, 1, none⟩ = some v := hblk.cell 1
      have f1 := hblk.free 1
      have hlt := hblk.lt
      have hne := own_ne hown hblk (by decide)
      have HB := Lib.hid hblk
      have HO := Lib.hid hown
      have HN := Lib.hid hne
      clear hblk hown hne
      go_enter Try.func49, Try.ntmps49
      go_wp2_with (first | (go_at_call 47; refine (takes_yes _ _ _ _ c0 (by omega) (by omega)).mono ?_; rintro e w' ⟨rfl, rfl⟩) | (at_builtin; refine wpList_append_own _ rfl (.tmp 11) (.tmp 14) 42 rfl B 5 i0 (.int .u8 0) 1 1 Try.underlying42 hi0 hz0 hz1 hz2 rfl (by decide) _ _ _ rfl (HO.out.alloc _) ⟨w.heap.size, 0, none⟩ 1 1 [.int .u8 n] rfl rfl ?c1 ?c2 ?c3 ?c4 ?c5 ?_))
      case c1 =>
        intro j u hj
        match j, hj with
        | 0, hj => simp at hj; subst hj; simp [Addr.add]
      case c2 => intro u hu; simp at hu; subst hu; rfl
      case c3 => unfold maxLen; omega
      case c4 => omega
      case c5 => simp; omega
      · intro v1 w1 hown1 hg1 _
        have hb1 := (HB.out.alloc (.cells #[.int .u8 n] 5)).only hg1 (fun e => HN.out e.symm)
        have fin := wr_step HB.out hb HO.out ((Below.refl _ _).alloc hB (.cells #[.int .u8 n] 5)) hown1 hg1 hb1
        have FIN := Lib.hid fin
        have d1 : w1.cell? ⟨b, 1, none⟩ = some v := hb1.cell 1
        have e1 := hb1.free 1
        clear fin hb1 hown1 hg1 c0 c1 f1
        obtain ⟨A1, n1, rfl⟩ := own_form FIN.out.1.2
        go_wp2
        go_end0
        have hx : wrNext (some l) 0 n t = some (l ++ [UInt8.ofNat n.toNat]) := by simp [wrNext, stepBytes, h0, h1]
        have hy : byteCells l ++ [.int .u8 n] = byteCells (l ++ [UInt8.ofNat n.toNat]) := by
          have hz : ((UInt8.ofNat n.toNat).toNat : Int) = n := by simp; omega
          simp only [byteCells, List.map_append, List.map_cons, List.map_nil, hz]
        rw [hx]
        refine ⟨rfl, ?_, FIN.out.2⟩
        obtain ⟨q1, q2⟩ := FIN.out.1
        refine ⟨_, q1, ?_⟩
        rw [hy] at q2
        simpa using q2
    · have hx : wrNext (some l) 0 n t = none := by simp [wrNext, stepBytes, hn]
      have HX := Lib.hid hx
      have fin := Wr.none_of hblk hb hB
      have FIN := Lib.hid fin
      have HB := Lib.hid hblk
      clear hx fin hblk hown
      go_enter Try.func49, Try.ntmps49
      go_wp2_with (go_at_call 47; refine (takes_no _ _ _ _ _ HB.out (by omega)).mono ?_; rintro e w' ⟨rfl, rfl⟩)
      go_end0
      rw [HX.out]
      exact ⟨rfl, FIN.out⟩

theorem wtext_any (B b : Nat) (n : Int) (t : ByteArray) (d : Int) (o : Option (List UInt8)) (w : World) (h : Wr w B b o) (hb : B ≤ b) (hB : B ≤ w.heap.size) (hl : ∀ l, o = some l → l.length ≤ 100000) (ht : t.size ≤ 100) (hd0 : d ≠ 0) (hd1 : d ≠ 1) :
    Calls Try.prog 16 #[.pointer (some ⟨b, 0, none⟩), .string t] w fun r w' => r = .returned (.tuple #[]) ∧ Wr w' B b (wrNext o d n t) ∧ Below B w w' := by
  obtain ⟨i0, hi0, hz0, hz1, hz2⟩ := info_parts u8_info
  cases o with
  | none =>
    have h' : Blk w b 44 #[.int .i64 2, .slice none 0 0] := h
    have c0 : w.cell? ⟨b, 0, none⟩ = some (.int .i64 2) := h'.cell 0
    have H := Lib.hid h'
    clear h h' hl
    go_enter Try.func16, Try.ntmps16
    go_wp2_with (go_at_call 46; refine (failed_any _ _ _ _ c0).mono ?_; rintro e w' ⟨rfl, rfl⟩)
    go_end0
    exact ⟨rfl, H.out, Below.refl _ _⟩
  | some l =>
    have hll := hl l rfl
    obtain ⟨v, hblk, hown⟩ := h
    clear hl
    have hx : wrNext (some l) d n t = some (l ++ t.data.toList) := by simp [wrNext, stepBytes, hd0, hd1]
    have HX := Lib.hid hx
    have c0 : w.cell? ⟨b, 0, none⟩ = some (.int .i64 0) := hblk.cell 0
    have c1 : w.cell? ⟨b, 1, none⟩ = some v := hblk.cell 1
    have f1 := hblk.free 1
    have hlt := hblk.lt
    have hne := own_ne hown hblk (by decide)
    have HB := Lib.hid hblk
    have HO := Lib.hid hown
    have HN := Lib.hid hne
    clear hblk hown hne hx hd0 hd1
    go_enter Try.func16, Try.ntmps16
    go_wp2_with (first | (go_at_call 46; refine (failed_any _ _ _ _ c0).mono ?_; rintro e w' ⟨rfl, rfl⟩) | (at_builtin; refine wpList_append_own_string _ rfl (.tmp 17) (.tmp 18) 42 9 rfl B 5 i0 Try.underlying42 Try.underlying9 hi0 hz0 hz1 hz2 _ _ _ rfl HO.out t rfl ?c3 ?c4 ?c5 ?_))
    case c3 => unfold maxLen; omega
    case c4 => omega
    case c5 => omega
    · intro v1 w1 hown1 hg1 _
      have hb1 := HB.out.only hg1 (fun e => HN.out e.symm)
      have fin := wr_step HB.out hb HO.out (Below.refl B w) hown1 hg1 hb1
      have FIN := Lib.hid fin
      have d1 : w1.cell? ⟨b, 1, none⟩ = some v := hb1.cell 1
      have e1 := hb1.free 1
      clear fin hb1 hown1 hg1 c0 c1 f1
      obtain ⟨A1, n1, rfl⟩ := own_form FIN.out.1.2
      go_wp2
      go_end0
      rw [HX.out]
      refine ⟨rfl, ?_, FIN.out.2⟩
      obtain ⟨q1, q2⟩ := FIN.out.1
      refine ⟨_, q1, ?_⟩
      have hy : byteCells l ++ strCells t = byteCells (l ++ t.data.toList) := by simp [byteCells, strCells]
      rw [hy] at q2
      have hz : l.length + t.size = (l ++ t.data.toList).length := by simp
      rw [← hz]
      exact q2

/-- append of a string's bytes onto what the call owns, as1 one step of a region that draws. -/
theorem step_append_str {P : Program} {ops : Array Oper} {o : Oper} {a : Act} {w : World} {K : Act → World → Prop} {Q : Exit → Act → World → Prop} {E : Prop} (hgd : o.guard = none) (sl x : Operand) (t u : TypeId)
    (ho : o.op = .call { callee := .builtin .append, args := #[sl, x], argTypes := #[t, u] })
    (base : Nat) (e : TypeId) (i : TypeInfo) (ht : P.underlying t = some (.slice e)) (hu : P.underlying u = some .string) (hi : P.info? e = some i) (hz : i.zero = some (.int .u8 0))
    (hsize : i.size = 1) (hby : i.bytes = 1)
    (v : Value) (n : Nat) (xs : List Value) (hs : a.eval sl = v) (hown : w.ownsRow base e 1 v n xs) (s : ByteArray) (hx : a.eval x = .string s)
    (h63 : n + s.size ≤ maxLen) (hbytes : n + s.size ≤ 140737488355328) (hbase : base ≤ w.heap.size)
    (h : ∀ v' w', w'.ownsRow base e 1 v' (n + s.size) (xs ++ strCells s) → w.grownBy w' v.ownBlock → K (a.put o.dst v') w') :
    if Region.wanted o (yielded ops a.tmps) = true then Oper.wp P o a w K Q else E := by
  have hw : Region.wanted o (yielded ops a.tmps) = true := by simp [Region.wanted, hgd]
  rw [if_pos hw]
  obtain ⟨v', w', hr, h2, h3, h4⟩ := run_append_own_string (P := P) w base t u o.type e i ht hu hi hz hsize hby v n xs hown s h63 hbytes hbase
  unfold Oper.wp execOp
  simp only [ho, resolve, invoke, builtin, Sem.run_bind, Sem.run_pure, Result.andThen_ok, List.map_toArray, List.map_cons, List.map_nil, hs, hx, hr]
  exact h v' w' h2 h3

theorem put_bytes (n : Int) : (Bt.put n).size = 2 := rfl

theorem wtwo_any (B b : Nat) (n : Int) (t : ByteArray) (o : Option (List UInt8)) (w : World) (h : Wr w B b o) (hb : B ≤ b) (hB : B ≤ w.heap.size) (hl : ∀ l, o = some l → l.length ≤ 100000) :
    Calls Try.prog 17 #[.pointer (some ⟨b, 0, none⟩), .int .i64 n] w fun r w' => r = .returned (.tuple #[]) ∧ Wr w' B b (wrNext o 1 n t) ∧ Below B w w' := by
  obtain ⟨i0, hi0, hz0, hz1, hz2⟩ := info_parts u8_info
  cases o with
  | none =>
    have h' : Blk w b 44 #[.int .i64 2, .slice none 0 0] := h
    have H := Lib.hid h'
    clear h h' hl
    go_enter Try.func17, Try.ntmps17
    go_wp2_with (go_at_call 47; refine (takes_off _ _ _ _ H.out).mono ?_; rintro e w' ⟨rfl, rfl⟩)
    go_end0
    exact ⟨rfl, H.out, Below.refl _ _⟩
  | some l =>
    have hll := hl l rfl
    obtain ⟨v, hblk, hown⟩ := h
    clear hl
    by_cases hn : 0 ≤ n ∧ n ≤ 65535
    · obtain ⟨h0, h1⟩ := hn
      have hx : wrNext (some l) 1 n t = some (l ++ (Bt.put n).data.toList) := by simp [wrNext, stepBytes, h0, h1]
      have HX := Lib.hid hx
      have c0 : w.cell? ⟨b, 0, none⟩ = some (.int .i64 0) := hblk.cell 0
      have c1 : w.cell? ⟨b, 1, none⟩ = some v := hblk.cell 1
      have f1 := hblk.free 1
      have hlt := hblk.lt
      have hne := own_ne hown hblk (by decide)
      have HB := Lib.hid hblk
      have HO := Lib.hid hown
      have HN := Lib.hid hne
      clear hblk hown hne hx
      go_enter Try.func17, Try.ntmps17
      go_wp2_with (go_at_call 47; refine (takes_yes _ _ _ _ c0 (by omega) (by omega)).mono ?_; rintro e w' ⟨rfl, rfl⟩)
      go_region_law (first | (refine step_append_str rfl (.tmp 11) (.tmp 13) 42 9 rfl B 5 i0 Try.underlying42 Try.underlying9 hi0 hz0 hz1 hz2 v l.length (byteCells l) (by simp [Act.eval, Act.put]) (World.ownsRow.alloc (w := w.drew) HO.out _) (Bt.put n) (by simp [Act.eval, Act.put]) (by rw [put_bytes]; unfold maxLen; omega) (by rw [put_bytes]; omega) (by simp; omega) ?_; intro v1 w1 hown1 hg1; have hb1 := (Blk.alloc (w := w.drew) HB.out _).only hg1 (fun e => HN.out e.symm); have FIN := Lib.hid (wr_step HB.out hb HO.out ((Below.refl B w).drew.alloc hB _) hown1 hg1 hb1); have d1 : w1.cell? ⟨b, 1, none⟩ = some v := hb1.cell 1; have e1 := hb1.free 1; clear hb1 hown1 hg1; obtain ⟨A1, n1, rfl⟩ := own_form FIN.out.1.2) | (go_simp; go_at_call 48; refine (put_any _ _).mono ?_; rintro e w' ⟨rfl, rfl⟩))
      all_goals
        go_end0
        rw [HX.out]
        refine ⟨rfl, ?_, FIN.out.2⟩
        obtain ⟨q1, q2⟩ := FIN.out.1
        refine ⟨_, q1, ?_⟩
        have hy : byteCells l ++ strCells (Bt.put n) = byteCells (l ++ (Bt.put n).data.toList) := by simp [byteCells, strCells]
        rw [hy] at q2
        have hz : l.length + (Bt.put n).size = (l ++ (Bt.put n).data.toList).length := by simp
        rw [← hz]
        exact q2
    · have hx : wrNext (some l) 1 n t = none := by simp [wrNext, stepBytes, hn]
      have HX := Lib.hid hx
      have fin := Wr.none_of hblk hb hB
      have FIN := Lib.hid fin
      have HB := Lib.hid hblk
      clear hx fin hblk hown
      go_enter Try.func17, Try.ntmps17
      go_wp2_with (go_at_call 47; refine (takes_no _ _ _ _ _ HB.out (by omega)).mono ?_; rintro e w' ⟨rfl, rfl⟩)
      go_end0
      rw [HX.out]
      exact ⟨rfl, FIN.out⟩

/-- The error of what steps write. -/
def errOf (o : Option (List UInt8)) : Int := if o.isSome then 0 else 2
/-- The bytes of what steps write. -/
def textFor (o : Option (List UInt8)) : ByteArray := ⟨(o.getD []).toArray⟩

theorem werr_any (B b : Nat) (o : Option (List UInt8)) (w : World) (h : Wr w B b o) :
    Calls Try.prog 24 #[.pointer (some ⟨b, 0, none⟩)] w fun r w' => r = .returned (.int .i64 (errOf o)) ∧ w = w' := by
  have key : ∀ e : Int, w.cell? ⟨b, 0, none⟩ = some (.int .i64 e) → Calls Try.prog 24 #[.pointer (some ⟨b, 0, none⟩)] w fun r w' => r = .returned (.int .i64 e) ∧ w = w' := by
    intro e c0
    go_enter Try.func24, Try.ntmps24
    go_wp2
    go_ret
    exact ⟨rfl, rfl⟩
  cases o with
  | none =>
    have h' : Blk w b 44 #[.int .i64 2, .slice none 0 0] := h
    exact key 2 (h'.cell 0)
  | some l =>
    obtain ⟨v, hblk, _⟩ := h
    exact key 0 (hblk.cell 0)

theorem strOfNums_bytes (l : List UInt8) : strOfNums (l.map fun b => (b.toNat : Int)) = ⟨l.toArray⟩ := by
  have h : strOfNums (l.map fun b => (b.toNat : Int)) = (l.map fun b => (b.toNat : Int)).foldl (fun r n => r.push (UInt8.ofNat n.toNat)) ByteArray.empty := by
    rw [foldl_push_bytes]
    simp [strOfNums]
  rw [h, foldl_push_byteCells]
  simp

theorem wbytes_any (B b : Nat) (o : Option (List UInt8)) (w : World) (h : Wr w B b o) :
    Calls Try.prog 26 #[.pointer (some ⟨b, 0, none⟩)] w fun r w' => r = .returned (.string (textFor o)) ∧ w = w' := by
  cases o with
  | none =>
    have h' : Blk w b 44 #[.int .i64 2, .slice none 0 0] := h
    have c0 : w.cell? ⟨b, 0, none⟩ = some (.int .i64 2) := h'.cell 0
    clear h h'
    go_enter Try.func26, Try.ntmps26
    go_wp2_with (go_at_call 46; refine (failed_any _ _ _ _ c0).mono ?_; rintro e w' ⟨rfl, rfl⟩)
    go_ret
    exact ⟨rfl, rfl⟩
  | some l =>
    obtain ⟨v, hblk, hown⟩ := h
    have c0 : w.cell? ⟨b, 0, none⟩ = some (.int .i64 0) := hblk.cell 0
    have c1 : w.cell? ⟨b, 1, none⟩ = some v := hblk.cell 1
    have hconv : (convert 42 9 v).run Try.prog w = .ok (.string ⟨l.toArray⟩) w := by
      rcases hown.2 with ⟨rfl, h0⟩ | ⟨g, cap, cur, rfl, _, _, _⟩
      · have hl : l = [] := List.eq_nil_of_length_eq_zero h0
        subst hl
        rw [run_convert_bytes_nil w 42 5 Try.underlying42 Try.underlying5 0 0 9 Try.underlying9]
        rfl
      · rw [run_convert_bytes_arg (P := Try.prog) w 42 5 Try.underlying42 Try.underlying5 g 0 l.length cap (l.map fun b => (b.toNat : Int)) (by simp) (by
          intro i hi
          have := hown.cellAt (g := g) (n := l.length) (cap := cap) i (by omega)
          rw [Nat.zero_add, this]
          simp [byteCells, List.getElem?_eq_getElem hi]) 9 Try.underlying9, strOfNums_bytes]
    obtain ⟨A1, n1, rfl⟩ := own_form hown
    clear hblk hown
    go_enter Try.func26, Try.ntmps26
    go_wp2_with (go_at_call 46; refine (failed_any _ _ _ _ c0).mono ?_; rintro e w' ⟨rfl, rfl⟩)
    go_ret
    exact ⟨rfl, rfl⟩
end Go.Proofs.Ytjmdcmcheiagjaa

/- The writer of package bits: each call by its contract, which tells the blocks that it may change. -/
namespace Go.Proofs.Ytjmdcmcheiagjaa
open Go.RowKit Go.Lib
set_option linter.unusedVariables false

/-- A writer lies in block b; what it has written lies in block R. -/
def WrR (w : World) (b : Nat) (R : Option Nat) : Option (List UInt8) → Prop
  | some l => ∃ v, Blk w b 44 #[.int .i64 0, v] ∧ RowZ 1 w v l.length (byteCells l) ∧ v.ownBlock = R ∧ R ≠ some b
  | none => Blk w b 44 #[.int .i64 2, .slice none 0 0] ∧ R = none
/-- What a call on a writer changes. -/
def Nxt (w w' : World) (b : Nat) (R R' : Option Nat) : Prop := Keeps (fun k => k = b ∨ R = some k) w w' ∧ (R' = R ∨ R' = none ∨ ∃ k, R' = some k ∧ w.heap.size ≤ k)
theorem Nxt.refl (w : World) (b : Nat) (R : Option Nat) : Nxt w w b R R := ⟨Keeps.refl _ _, .inl rfl⟩
theorem Nxt.trans {w1 w2 w3 : World} {b : Nat} {R R1 R2 : Option Nat} (h : Nxt w1 w2 b R R1) (k : Nxt w2 w3 b R1 R2) : Nxt w1 w3 b R R2 := by
  have hs := h.1.size
  refine ⟨⟨k.1.1.trans h.1.1, k.1.2.1.trans h.1.2.1, k.1.2.2.1.trans h.1.2.2.1, Nat.le_trans hs k.1.size, fun i hi hn => ?_⟩, ?_⟩
  · rw [k.1.2.2.2.2 i (by omega) (fun e => ?_), h.1.2.2.2.2 i hi hn]
    rcases e with e | e
    · exact hn (.inl e)
    · rcases h.2 with g | g | ⟨q, g, hq⟩
      · exact hn (.inr (g ▸ e))
      · rw [g] at e; cases e
      · rw [g] at e; injection e with e; omega
  · rcases k.2 with g | g | ⟨q, g, hq⟩
    · rcases h.2 with f | f | ⟨p, f, hp⟩
      · exact .inl (g.trans f)
      · exact .inr (.inl (g.trans f))
      · exact .inr (.inr ⟨p, g.trans f, hp⟩)
    · exact .inr (.inl g)
    · exact .inr (.inr ⟨q, g, by omega⟩)
theorem Nxt.blk {w w' : World} {b g : Nat} {R R' : Option Nat} {t : TypeId} {cs : Array Value} (h : Nxt w w' b R R') (k : Blk w g t cs) (hb : g ≠ b) (hr : R ≠ some g) : Blk w' g t cs ∧ R' ≠ some g := by
  refine ⟨k.keeps h.1 (fun e => by rcases e with e | e; exact hb e; exact hr e), fun e => ?_⟩
  have := k.lt
  rcases h.2 with g1 | g1 | ⟨q, g1, hq⟩
  · exact hr (g1 ▸ e)
  · rw [g1] at e; cases e
  · rw [g1] at e; injection e with e; omega
theorem Nxt.below {w w' : World} {b B : Nat} {R R' : Option Nat} (h : Nxt w w' b R R') (hB : B ≤ w.heap.size) (hb : B ≤ b) (hr : ∀ k, R = some k → B ≤ k) : Below B w w' ∧ ∀ k, R' = some k → B ≤ k := by
  refine ⟨h.1.below hB (fun i hi e => ?_), fun k hk => ?_⟩
  · rcases e with e | e
    · omega
    · have := hr i e; omega
  · rcases h.2 with g1 | g1 | ⟨q, g1, hq⟩
    · exact hr k (g1 ▸ hk)
    · rw [g1] at hk; cases hk
    · rw [g1] at hk; injection hk with hk; omega
theorem WrR.lt {w : World} {b : Nat} {R : Option Nat} {o : Option (List UInt8)} (h : WrR w b R o) : b < w.heap.size := by
  cases o with
  | none => exact Blk.lt h.1
  | some l => obtain ⟨v, h1, _⟩ := h; exact h1.lt
theorem WrR.row {w : World} {b : Nat} {R : Option Nat} {o : Option (List UInt8)} (h : WrR w b R o) {k : Nat} (hk : R = some k) : k < w.heap.size := by
  cases o with
  | none => rw [h.2] at hk; cases hk
  | some l => obtain ⟨v, _, h2, h3, _⟩ := h; exact h2.lt k (h3.trans hk)
theorem WrR.alloc {w : World} {b : Nat} {R : Option Nat} {o : Option (List UInt8)} (h : WrR w b R o) (x : Obj) : WrR (w.alloc x) b R o := by
  cases o with
  | none => exact ⟨Blk.alloc h.1 x, h.2⟩
  | some l => obtain ⟨v, h1, h2, h3⟩ := h; exact ⟨v, h1.alloc x, h2.alloc x, h3⟩
theorem Nxt.alloc (w : World) (b : Nat) (R : Option Nat) (x : Obj) : Nxt w (w.alloc x) b R R := ⟨Keeps.of_only (row := none) (only_alloc (only_refl _ _) x) (fun k hk => by cases hk), .inl rfl⟩

/-- What an append onto what was written, and its store, leave. -/
theorem wrr_step {w wa w1 : World} {b n m : Nat} {v v1 : Value} {l ys : List Value} (hb : Blk w b 44 #[.int .i64 0, v]) (hr : RowZ 1 w v n l) (hne : v.ownBlock ≠ some b) (ha : Below w.heap.size w wa)
    (hr1 : RowZ 1 w1 v1 m ys) (hg : wa.grownBy w1 v.ownBlock) (ho : v1.ownBlock = v.ownBlock ∨ v1.ownBlock = some wa.heap.size) :
    Blk w1 b 44 #[.int .i64 0, v] ∧ (Blk (w1.setCell ⟨b, 1, none⟩ v1) b 44 #[.int .i64 0, v1] ∧ RowZ 1 (w1.setCell ⟨b, 1, none⟩ v1) v1 m ys ∧ v1.ownBlock ≠ some b) ∧ Nxt w (w1.setCell ⟨b, 1, none⟩ v1) b v.ownBlock v1.ownBlock := by
  have hlt := hb.lt
  have hsz := ha.size
  have hb1 : Blk w1 b 44 #[.int .i64 0, v] := (hb.below ha hlt).only hg (fun e => hne e.symm)
  have hn1 : v1.ownBlock ≠ some b := fun e => by
    rcases ho with h | h
    · exact hne (h ▸ e)
    · rw [h] at e; injection e with e; omega
  refine ⟨hb1, ⟨hb1.put 1 _, hr1.put hn1 _, hn1⟩, ?_, ?_⟩
  · have k1 : Keeps (fun k => k = b ∨ v.ownBlock = some k) w wa := Keeps.of_below ha _
    have k2 : Keeps (fun k => k = b ∨ v.ownBlock = some k) wa w1 := Keeps.of_only hg (fun k hk => .inr hk)
    exact Keeps.put (p := ⟨b, 1, none⟩) (k1.trans k2) (.inl (.inl rfl)) _
  · rcases ho with h | h
    · exact .inl h
    · exact .inr (.inr ⟨_, h, hsz⟩)
theorem wrr_none {w : World} {b : Nat} {v : Value} {R : Option Nat} (h : Blk w b 44 #[.int .i64 0, v]) :
    WrR ((w.setCell ⟨b, 0, none⟩ (.int .i64 2)).setCell ⟨b, 1, none⟩ (.slice none 0 0)) b none none ∧ Nxt w ((w.setCell ⟨b, 0, none⟩ (.int .i64 2)).setCell ⟨b, 1, none⟩ (.slice none 0 0)) b R none :=
  ⟨⟨(h.put 0 _).put 1 _, rfl⟩, Keeps.put (S := fun k => k = b ∨ R = some k) (p := ⟨b, 1, none⟩) (Keeps.put (p := ⟨b, 0, none⟩) (Keeps.refl _ _) (.inl (.inl rfl)) _) (.inl (.inl rfl)) _, .inr (.inl rfl)⟩
theorem byte_one (l : List UInt8) : ∀ u ∈ byteCells l, u.oneCell' = true := by
  intro u hu
  simp only [byteCells, List.mem_map] at hu
  obtain ⟨a, _, rfl⟩ := hu
  rfl
end Go.Proofs.Ytjmdcmcheiagjaa

/- The writer's calls Byte, Two and Text, by contracts that tell the blocks that they change. -/
namespace Go.Proofs.Ytjmdcmcheiagjaa
open Go.RowKit Go.Lib
set_option linter.unusedVariables false

/-- What a call on a writer leaves. -/
def StepR (w : World) (b : Nat) (R : Option Nat) (o : Option (List UInt8)) (r : Ending) (w' : World) : Prop := r = .returned (.tuple #[]) ∧ ∃ R', WrR w' b R' o ∧ Nxt w w' b R R'
/-- append of unlike types where its run is known, as1 a step of a region that draws its order. -/
theorem step_app_eq2 {P : Program} {ops : Array Oper} {o : Oper} {a : Act} {W : World} {K : Act → World → Prop} {Q : Exit → Act → World → Prop} {E : Prop} (hgd : o.guard = none) (s x : Operand) (t u : TypeId) (ho : o.op = .call { callee := .builtin .append, args := #[s, x], argTypes := #[t, u] })
    {v xs v' : Value} {w' : World} (hr : (Builtin.append_ #[t, u] o.type #[v, xs]).run P W = .ok v' w') (hs : a.eval s = v) (hx : a.eval x = xs) (h : K (a.put o.dst v') w') : if Region.wanted o (yielded ops a.tmps) = true then Oper.wp P o a W K Q else E := by
  have hw : Region.wanted o (yielded ops a.tmps) = true := by simp [Region.wanted, hgd]
  rw [if_pos hw]
  unfold Oper.wp execOp
  simp only [ho, resolve, invoke, builtin, Sem.run_bind, Sem.run_pure, Result.andThen_ok, List.map_toArray, List.map_cons, List.map_nil, hs, hx, hr]
  exact h
theorem wbyter (b : Nat) (n : Int) (R : Option Nat) (o : Option (List UInt8)) (w : World) (h : WrR w b R o) (hl : ∀ l, o = some l → l.length ≤ 100000) :
    Calls Try.prog 49 #[.pointer (some ⟨b, 0, none⟩), .int .i64 n] w (StepR w b R (wrNext o 0 n .empty)) := by
  obtain ⟨i0, hi0, hz0, hz1, hz2⟩ := info_parts u8_info
  cases o with
  | none =>
    obtain ⟨h', rfl⟩ := h
    have H := Lib.hid h'
    clear h' hl
    go_enter Try.func49, Try.ntmps49
    go_wp2_with (go_at_call 47; refine (takes_off _ _ _ _ H.out).mono ?_; rintro e w' ⟨rfl, rfl⟩)
    go_end0
    exact ⟨rfl, none, ⟨H.out, rfl⟩, Nxt.refl _ _ _⟩
  | some l =>
    have hll := hl l rfl
    obtain ⟨v, hblk, hrow, rfl, hne⟩ := h
    clear hl
    by_cases hn : 0 ≤ n ∧ n ≤ 255
    · obtain ⟨h0, h1⟩ := hn
      have c0 : w.cell? ⟨b, 0, none⟩ = some (.int .i64 0) := hblk.cell 0
      have c1 : w.cell? ⟨b, 1, none⟩ = some v := hblk.cell 1
      have hu : IntKind.u8.wrap n = n := by rw [IntKind.wrap_u8]; omega
      have hsrc : Src Try.prog 1 42 (.slice (some ⟨w.heap.size, 0, none⟩) 1 1) 1 [.int .u8 n] (w.alloc (.cells #[.int .u8 n] 5)) := Src.ofSlice _ Try.underlying42 _ _ _ _ rfl (fun j u hu => by
          have hj := (Blk.new w 5 #[.int .u8 n]).cell j
          rw [addr_at, Nat.zero_add, hj]
          simpa using hu) (by simp [Value.oneCell'])
      obtain ⟨v1, w1, hk, hr1, hg1, ho1⟩ := run_growZ (P := Try.prog) (w.alloc (.cells #[.int .u8 n] 5)) 42 42 5 42 1 (by omega) i0 _ 1 Try.underlying42 hi0 hz0 hz1 hz2 (by omega) rfl _ _ _ (hrow.alloc _) (byte_one _) _ _ hsrc (by omega)
      obtain ⟨hb1, fin, nx⟩ := wrr_step hblk hrow hne ((Below.refl _ _).alloc (Nat.le_refl _) (.cells #[.int .u8 n] 5)) hr1 hg1 ho1
      have d1 : w1.cell? ⟨b, 1, none⟩ = some v := hb1.cell 1
      have e1 := hb1.free 1
      obtain ⟨A1, n1, rfl⟩ := hr1.form
      obtain ⟨A0, n0, rfl⟩ := hrow.form
      have FIN := Lib.hid fin
      have NX := Lib.hid nx
      have HK := Lib.hid hk
      clear fin nx hk hr1 hg1 ho1 hb1 hsrc hrow hblk hne
      go_enter Try.func49, Try.ntmps49
      go_wp2_with (first | (go_at_call 47; refine (takes_yes _ _ _ _ c0 (by omega) (by omega)).mono ?_; rintro e w' ⟨rfl, rfl⟩) | (at_builtin; refine wpList_append_eq2 rfl (.tmp 11) (.tmp 14) 42 42 rfl HK.out rfl rfl ?_))
      go_end0
      have hx : wrNext (some l) 0 n .empty = some (l ++ [UInt8.ofNat n.toNat]) := by simp [wrNext, stepBytes, h0, h1]
      have hy : byteCells l ++ [.int .u8 n] = byteCells (l ++ [UInt8.ofNat n.toNat]) := by
        have hz : ((UInt8.ofNat n.toNat).toNat : Int) = n := by simp; omega
        simp only [byteCells, List.map_append, List.map_cons, List.map_nil, hz]
      obtain ⟨q1, q2, q3⟩ := FIN.out
      rw [hx]
      refine ⟨rfl, _, ⟨_, q1, ?_, rfl, q3⟩, NX.out⟩
      rw [hy] at q2
      simpa using q2
    · have hx : wrNext (some l) 0 n .empty = none := by simp [wrNext, stepBytes, hn]
      have HX := Lib.hid hx
      have FIN := Lib.hid (wrr_none (R := v.ownBlock) hblk)
      have HB := Lib.hid hblk
      clear hx hblk hrow hne
      go_enter Try.func49, Try.ntmps49
      go_wp2_with (go_at_call 47; refine (takes_no _ _ _ _ _ HB.out (by omega)).mono ?_; rintro e w' ⟨rfl, rfl⟩)
      go_end0
      rw [HX.out]
      exact ⟨rfl, none, FIN.out⟩
theorem wtwor (b : Nat) (n : Int) (R : Option Nat) (o : Option (List UInt8)) (w : World) (h : WrR w b R o) (hl : ∀ l, o = some l → l.length ≤ 100000) :
    Calls Try.prog 17 #[.pointer (some ⟨b, 0, none⟩), .int .i64 n] w (StepR w b R (wrNext o 1 n .empty)) := by
  obtain ⟨i0, hi0, hz0, hz1, hz2⟩ := info_parts u8_info
  cases o with
  | none =>
    obtain ⟨h', rfl⟩ := h
    have H := Lib.hid h'
    clear h' hl
    go_enter Try.func17, Try.ntmps17
    go_wp2_with (go_at_call 47; refine (takes_off _ _ _ _ H.out).mono ?_; rintro e w' ⟨rfl, rfl⟩)
    go_end0
    exact ⟨rfl, none, ⟨H.out, rfl⟩, Nxt.refl _ _ _⟩
  | some l =>
    have hll := hl l rfl
    obtain ⟨v, hblk, hrow, rfl, hne⟩ := h
    clear hl
    by_cases hn : 0 ≤ n ∧ n ≤ 65535
    · obtain ⟨h0, h1⟩ := hn
      have c0 : w.cell? ⟨b, 0, none⟩ = some (.int .i64 0) := hblk.cell 0
      have c1 : w.cell? ⟨b, 1, none⟩ = some v := hblk.cell 1
      have CA := Lib.hid (show (w.alloc (.cells #[.int .u8 (n % 256), .int .u8 (n / 256 % 256)] 5)).cell? ⟨b, 1, none⟩ = some v from (hblk.alloc _).cell 1)
      have hsrc : Src Try.prog 1 9 (.string (Bt.put n)) 2 (Go.byteCells (Bt.put n)) ((w.alloc (.cells #[.int .u8 (n % 256), .int .u8 (n / 256 % 256)] 5)).drew) := Src.ofString (w := _) Try.underlying9 _
      obtain ⟨v1, w1, hk, hr1, hg1, ho1⟩ := run_growZ (P := Try.prog) ((w.alloc (.cells #[.int .u8 (n % 256), .int .u8 (n / 256 % 256)] 5)).drew) 42 9 5 42 2 (by omega) i0 _ 1 Try.underlying42 hi0 hz0 hz1 hz2 (by omega) rfl _ _ _ ((hrow.alloc _).drewN 1) (byte_one _) _ _ hsrc (by omega)
      obtain ⟨hb1, fin, nx⟩ := wrr_step hblk hrow hne ((Below.refl _ w).alloc (Nat.le_refl _) (.cells #[.int .u8 (n % 256), .int .u8 (n / 256 % 256)] 5)).drew hr1 hg1 ho1
      have d1 : w1.cell? ⟨b, 1, none⟩ = some v := hb1.cell 1
      have e1 := hb1.free 1
      obtain ⟨A1, n1, rfl⟩ := hr1.form
      obtain ⟨A0, n0, rfl⟩ := hrow.form
      have FIN := Lib.hid fin
      have NX := Lib.hid nx
      have HK := Lib.hid hk
      clear fin nx hk hr1 hg1 ho1 hb1 hsrc hrow hblk hne
      go_enter Try.func17, Try.ntmps17
      go_wp2_with (go_at_call 47; refine (takes_yes _ _ _ _ c0 (by omega) (by omega)).mono ?_; rintro e w' ⟨rfl, rfl⟩)
      have cA : (w.alloc (.cells #[.int .u8 (n % 256), .int .u8 (n / 256 % 256)] 5)).cell? ⟨b, 1, none⟩ = some (.slice A0 l.length n0) := CA.out
      go_region_law (first | (refine step_app_eq2 rfl (.tmp 11) (.tmp 13) 42 9 rfl HK.out (by simp [Act.eval, Act.put]) (by simp [Act.eval, Act.put]) ?_) | (go_simp; go_at_call 48; refine (put_any _ _).mono ?_; rintro e w' ⟨rfl, rfl⟩))
      all_goals
        go_end0
        have hx : wrNext (some l) 1 n .empty = some (l ++ (Bt.put n).data.toList) := by simp [wrNext, stepBytes, h0, h1]
        have hy : byteCells l ++ Go.byteCells (Bt.put n) = byteCells (l ++ (Bt.put n).data.toList) := by simp [byteCells, Go.byteCells]
        obtain ⟨q1, q2, q3⟩ := FIN.out
        rw [hx]
        refine ⟨rfl, _, ⟨_, q1, ?_, rfl, q3⟩, NX.out⟩
        rw [hy] at q2
        have hz : (l ++ (Bt.put n).data.toList).length = l.length + 2 := by rw [List.length_append]; rfl
        rw [hz]
        exact q2
    · have hx : wrNext (some l) 1 n .empty = none := by simp [wrNext, stepBytes, hn]
      have HX := Lib.hid hx
      have FIN := Lib.hid (wrr_none (R := v.ownBlock) hblk)
      have HB := Lib.hid hblk
      clear hx hblk hrow hne
      go_enter Try.func17, Try.ntmps17
      go_wp2_with (go_at_call 47; refine (takes_no _ _ _ _ _ HB.out (by omega)).mono ?_; rintro e w' ⟨rfl, rfl⟩)
      go_end0
      rw [HX.out]
      exact ⟨rfl, none, FIN.out⟩
theorem wtextr (b : Nat) (t : ByteArray) (ht0 : 0 < t.size) (ht : t.size ≤ 100) (R : Option Nat) (o : Option (List UInt8)) (w : World) (h : WrR w b R o) (hl : ∀ l, o = some l → l.length ≤ 100000) :
    Calls Try.prog 16 #[.pointer (some ⟨b, 0, none⟩), .string t] w (StepR w b R (wrNext o 2 0 t)) := by
  obtain ⟨i0, hi0, hz0, hz1, hz2⟩ := info_parts u8_info
  cases o with
  | none =>
    obtain ⟨h', rfl⟩ := h
    have c0 : w.cell? ⟨b, 0, none⟩ = some (.int .i64 2) := h'.cell 0
    have H := Lib.hid h'
    clear h' hl
    go_enter Try.func16, Try.ntmps16
    go_wp2_with (go_at_call 46; refine (failed_any _ _ _ _ c0).mono ?_; rintro e w' ⟨rfl, rfl⟩)
    go_end0
    exact ⟨rfl, none, ⟨H.out, rfl⟩, Nxt.refl _ _ _⟩
  | some l =>
    have hll := hl l rfl
    obtain ⟨v, hblk, hrow, rfl, hne⟩ := h
    clear hl
    have c0 : w.cell? ⟨b, 0, none⟩ = some (.int .i64 0) := hblk.cell 0
    have c1 : w.cell? ⟨b, 1, none⟩ = some v := hblk.cell 1
    have hsrc : Src Try.prog 1 9 (.string t) t.size (Go.byteCells t) w := Src.ofString (w := w) Try.underlying9 _
    obtain ⟨v1, w1, hk, hr1, hg1, ho1⟩ := run_growZ (P := Try.prog) w 42 9 5 42 t.size (by omega) i0 _ 1 Try.underlying42 hi0 hz0 hz1 hz2 (by omega) rfl _ _ _ hrow (byte_one _) _ _ hsrc (by omega)
    obtain ⟨hb1, fin, nx⟩ := wrr_step hblk hrow hne (Below.refl _ w) hr1 hg1 ho1
    have d1 : w1.cell? ⟨b, 1, none⟩ = some v := hb1.cell 1
    have e1 := hb1.free 1
    obtain ⟨A1, n1, rfl⟩ := hr1.form
    obtain ⟨A0, n0, rfl⟩ := hrow.form
    have FIN := Lib.hid fin
    have NX := Lib.hid nx
    have HK := Lib.hid hk
    clear fin nx hk hr1 hg1 ho1 hb1 hsrc hrow hblk hne
    go_enter Try.func16, Try.ntmps16
    go_wp2_with (first | (go_at_call 46; refine (failed_any _ _ _ _ c0).mono ?_; rintro e w' ⟨rfl, rfl⟩) | (at_builtin; refine wpList_append_eq2 rfl (.tmp 17) (.tmp 18) 42 9 rfl HK.out rfl rfl ?_))
    go_end0
    have hx : wrNext (some l) 2 0 t = some (l ++ t.data.toList) := by simp [wrNext, stepBytes]
    have hy : byteCells l ++ Go.byteCells t = byteCells (l ++ t.data.toList) := by simp [byteCells, Go.byteCells]
    obtain ⟨q1, q2, q3⟩ := FIN.out
    rw [hx]
    refine ⟨rfl, _, ⟨_, q1, ?_, rfl, q3⟩, NX.out⟩
    rw [hy] at q2
    have hz : (l ++ t.data.toList).length = l.length + t.size := by simp
    rw [hz]
    exact q2
end Go.Proofs.Ytjmdcmcheiagjaa

/- Tables as1 bytes, by the writer's calls: plain; what is kept between two calls on a writer. -/
namespace Go.Proofs.Ytjmdcmcheiagjaa
open Go.RowKit Go.Lib
set_option linter.unusedVariables false

abbrev Wo := Option (List UInt8)
def pB (n : Int) (o : Wo) : Wo := wrNext o 0 n .empty
def pT (n : Int) (o : Wo) : Wo := wrNext o 1 n .empty
/-- A window's bytes; a client's. -/
def pW (x : W3) (o : Wo) : Wo := pT x.2.2 (pT x.2.1 (pB x.1 o))
def pC (x : Cl) (o : Wo) : Wo := pB x.secs (pT x.first (pB x.chan (pB x.mac (pB x.queue (pB x.quota (pT x.at' (pB x.ring (pT x.size (pT x.base o)))))))))
def pR {α : Type} (f : α → Wo → Wo) (d : Nat → α) : Nat → Wo → Wo
  | 0, o => o
  | n + 1, o => f (d n) (pR f d n o)
/-- At most so many bytes. -/
def Ln (o : Wo) (m : Nat) : Prop := ∀ l, o = some l → l.length ≤ m
theorem Ln.mono {o : Wo} {m n : Nat} (h : Ln o m) (k : m ≤ n) : Ln o n := fun l e => by have := h l e; omega
theorem Ln.byte {o : Wo} {m : Nat} (h : Ln o m) (n : Int) : Ln (pB n o) (m + 1) := by
  intro l e
  cases o with
  | none => simp [pB, wrNext] at e
  | some q =>
    have := h q rfl
    simp only [pB, wrNext, stepBytes, Option.bind] at e
    by_cases c : 0 ≤ n ∧ n ≤ 255
    · simp [c] at e
      rw [← e]
      simp
      omega
    · simp [c] at e
theorem Ln.two {o : Wo} {m : Nat} (h : Ln o m) (n : Int) : Ln (pT n o) (m + 2) := by
  intro l e
  cases o with
  | none => simp [pT, wrNext] at e
  | some q =>
    have := h q rfl
    simp only [pT, wrNext, stepBytes, Option.bind] at e
    by_cases c : 0 ≤ n ∧ n ≤ 65535
    · simp [c] at e
      rw [← e]
      have : (Bt.put n).data.toList.length = 2 := rfl
      simp
      have h2 : (Bt.put n).size = 2 := rfl
      omega
    · simp [c] at e
theorem Ln.win {o : Wo} {m : Nat} (h : Ln o m) (x : W3) : Ln (pW x o) (m + 5) := ((h.byte x.1).two x.2.1).two x.2.2
theorem Ln.cli {o : Wo} {m : Nat} (h : Ln o m) (x : Cl) : Ln (pC x o) (m + 14) := (((((((((h.two x.base).two x.size).byte x.ring).two x.at').byte x.quota).byte x.queue).byte x.mac).byte x.chan).two x.first).byte x.secs
theorem Ln.rows {α : Type} {f : α → Wo → Wo} {s : Nat} (hf : ∀ x o m, Ln o m → Ln (f x o) (m + s)) {o : Wo} {m : Nat} (h : Ln o m) (d : Nat → α) (n : Nat) : Ln (pR f d n o) (m + n * s) := by
  induction n with
  | zero => exact h.mono (by omega)
  | succ n ih => exact (hf (d n) _ _ ih).mono (by rw [Nat.add_mul]; omega)

/-- What is kept between two calls on a writer: the writer itself, a box of cells, and what else was there. -/
def IK (w0 W : World) (b : Nat) (R0 : Option Nat) (g : Nat) (t : TypeId) (cs : Array Value) (o : Wo) : Prop := ∃ R, WrR W b R o ∧ Nxt w0 W b R0 R ∧ Blk W g t cs ∧ R ≠ some g ∧ g ≠ b
theorem IK.new {w0 : World} {b : Nat} {R0 : Option Nat} {o : Wo} (h : WrR w0 b R0 o) (t : TypeId) (cs : Array Value) : IK w0 (w0.alloc (.cells cs t)) b R0 w0.heap.size t cs o :=
  ⟨R0, h.alloc _, Nxt.alloc _ _ _ _, Blk.new _ _ _, fun e => by have := h.row e; omega, by have := h.lt; omega⟩
theorem IK.step {w0 W W' : World} {b g : Nat} {R0 : Option Nat} {t : TypeId} {cs : Array Value} {o' : Wo} {r : Ending} (hb : Blk W g t cs) (hg : g ≠ b) {R : Option Nat} (hR : R ≠ some g) (hn : Nxt w0 W b R0 R) (h : StepR W b R o' r W') : r = .returned (.tuple #[]) ∧ IK w0 W' b R0 g t cs o' := by
  obtain ⟨rfl, R', h1, h2⟩ := h
  obtain ⟨h3, h4⟩ := h2.blk hb hg hR
  exact ⟨rfl, R', h1, hn.trans h2, h3, h4, hg⟩
theorem IK.byte {w0 W : World} {b g : Nat} {R0 : Option Nat} {t : TypeId} {cs : Array Value} {o : Wo} (h : IK w0 W b R0 g t cs o) (n : Int) (hl : Ln o 50000) :
    Calls Try.prog 49 #[.pointer (some ⟨b, 0, none⟩), .int .i64 n] W fun r w' => r = .returned (.tuple #[]) ∧ IK w0 w' b R0 g t cs (pB n o) := by
  obtain ⟨R, h1, h2, h3, h4, h5⟩ := h
  exact (wbyter b n R o W h1 (fun l e => by have := hl l e; omega)).mono fun r w' k => IK.step h3 h5 h4 h2 k
theorem IK.two {w0 W : World} {b g : Nat} {R0 : Option Nat} {t : TypeId} {cs : Array Value} {o : Wo} (h : IK w0 W b R0 g t cs o) (n : Int) (hl : Ln o 50000) :
    Calls Try.prog 17 #[.pointer (some ⟨b, 0, none⟩), .int .i64 n] W fun r w' => r = .returned (.tuple #[]) ∧ IK w0 w' b R0 g t cs (pT n o) := by
  obtain ⟨R, h1, h2, h3, h4, h5⟩ := h
  exact (wtwor b n R o W h1 (fun l e => by have := hl l e; omega)).mono fun r w' k => IK.step h3 h5 h4 h2 k
theorem IK.back {w0 W : World} {b g : Nat} {R0 : Option Nat} {t : TypeId} {cs : Array Value} {o : Wo} (h : IK w0 W b R0 g t cs o) : StepR w0 b R0 o (.returned (.tuple #[])) W := by
  obtain ⟨R, h1, h2, _⟩ := h
  exact ⟨rfl, R, h1, h2⟩
theorem IK.cell {w0 W : World} {b g : Nat} {R0 : Option Nat} {t : TypeId} {cs : Array Value} {o : Wo} (h : IK w0 W b R0 g t cs o) (i : Nat) : W.cell? ⟨g, i, none⟩ = cs[i]? := by
  obtain ⟨R, _, _, h3, _⟩ := h
  exact h3.cell i
end Go.Proofs.Ytjmdcmcheiagjaa

/- A window, a slot and a client are written, by the contracts of these functions. -/
namespace Go.Proofs.Ytjmdcmcheiagjaa
open Go.RowKit Go.Lib
set_option linter.unusedVariables false

set_option maxHeartbeats 1600000 in
theorem pwin_any (b : Nat) (x : W3) (R : Option Nat) (o : Wo) (w : World) (h : WrR w b R o) (hl : Ln o 40000) : Calls Try.prog 19 #[.pointer (some ⟨b, 0, none⟩), w3v x] w (StepR w b R (pW x o)) := by
  obtain ⟨x0, x1, x2⟩ := x
  show Calls Try.prog 19 #[.pointer (some ⟨b, 0, none⟩), .agg #[.int .i64 x0, .int .i64 x1, .int .i64 x2]] w _
  obtain ⟨W1, hW⟩ : ∃ W1, W1 = w.alloc (.cells #[.int .i64 x0, .int .i64 x1, .int .i64 x2] 49) := ⟨_, rfl⟩
  have K0 : Hid (IK w W1 b R w.heap.size 49 #[.int .i64 x0, .int .i64 x1, .int .i64 x2] o) := Lib.hid (by rw [hW]; exact IK.new h _ _)
  have L0 := Lib.hid hl
  have c0 : W1.cell? ⟨w.heap.size, 0, none⟩ = some (.int .i64 x0) := K0.out.cell 0
  have c1 : W1.cell? ⟨w.heap.size, 1, none⟩ = some (.int .i64 x1) := K0.out.cell 1
  have c2 : W1.cell? ⟨w.heap.size, 2, none⟩ = some (.int .i64 x2) := K0.out.cell 2
  clear h hl
  go_enter Try.func19, Try.ntmps19
  go_upto_region 1 with (fail)
  rw [← hW]
  clear hW
  go_upto_region 2 with (go_at_call 49; (with_reducible refine (IK.byte K0.out x0 (L0.out.mono (by omega))).mono ?_); rintro e w1 ⟨rfl, k1⟩; have K1 := Lib.hid k1; have L1 := Lib.hid (L0.out.byte x0); clear k1 K0 L0 c0 c1 c2; have c0 : w1.cell? ⟨w.heap.size, 0, none⟩ = some (.int .i64 x0) := K1.out.cell 0; have c1 : w1.cell? ⟨w.heap.size, 1, none⟩ = some (.int .i64 x1) := K1.out.cell 1; have c2 : w1.cell? ⟨w.heap.size, 2, none⟩ = some (.int .i64 x2) := K1.out.cell 2)
  go_upto_region 3 with (go_at_call 17; (with_reducible refine (IK.two K1.out x1 (L1.out.mono (by omega))).mono ?_); rintro e w2 ⟨rfl, k2⟩; have K2 := Lib.hid k2; have L2 := Lib.hid (L1.out.two x1); clear k2 K1 L1 c0 c1 c2; have c0 : w2.cell? ⟨w.heap.size, 0, none⟩ = some (.int .i64 x0) := K2.out.cell 0; have c1 : w2.cell? ⟨w.heap.size, 1, none⟩ = some (.int .i64 x1) := K2.out.cell 1; have c2 : w2.cell? ⟨w.heap.size, 2, none⟩ = some (.int .i64 x2) := K2.out.cell 2)
  go_wp2_with (go_at_call 17; (with_reducible refine (IK.two K2.out x2 (L2.out.mono (by omega))).mono ?_); rintro e w3 ⟨rfl, k3⟩; have K3 := Lib.hid k3; have L3 := Lib.hid (L2.out.two x2); clear k3 K2 L2 c0 c1 c2; have c0 : w3.cell? ⟨w.heap.size, 0, none⟩ = some (.int .i64 x0) := K3.out.cell 0; have c1 : w3.cell? ⟨w.heap.size, 1, none⟩ = some (.int .i64 x1) := K3.out.cell 1; have c2 : w3.cell? ⟨w.heap.size, 2, none⟩ = some (.int .i64 x2) := K3.out.cell 2)
  go_end0
  exact K3.out.back
set_option maxHeartbeats 1600000 in
theorem pcli_any (b : Nat) (x : Cl) (R : Option Nat) (o : Wo) (w : World) (h : WrR w b R o) (hl : Ln o 40000) : Calls Try.prog 23 #[.pointer (some ⟨b, 0, none⟩), clv x] w (StepR w b R (pC x o)) := by
  obtain ⟨x0, x1, x2, x3, x4, x5, x6, x7, x8, x9⟩ := x
  show Calls Try.prog 23 #[.pointer (some ⟨b, 0, none⟩), .agg #[.int .i64 x0, .int .i64 x1, .int .i64 x2, .int .i64 x3, .int .i64 x4, .int .i64 x5, .int .i64 x6, .int .i64 x7, .int .i64 x8, .int .i64 x9]] w _
  obtain ⟨W1, hW⟩ : ∃ W1, W1 = w.alloc (.cells #[.int .i64 x0, .int .i64 x1, .int .i64 x2, .int .i64 x3, .int .i64 x4, .int .i64 x5, .int .i64 x6, .int .i64 x7, .int .i64 x8, .int .i64 x9] 57) := ⟨_, rfl⟩
  have K0 : Hid (IK w W1 b R w.heap.size 57 #[.int .i64 x0, .int .i64 x1, .int .i64 x2, .int .i64 x3, .int .i64 x4, .int .i64 x5, .int .i64 x6, .int .i64 x7, .int .i64 x8, .int .i64 x9] o) := Lib.hid (by rw [hW]; exact IK.new h _ _)
  have L0 := Lib.hid hl
  have c0 : W1.cell? ⟨w.heap.size, 0, none⟩ = some (.int .i64 x0) := K0.out.cell 0
  have c1 : W1.cell? ⟨w.heap.size, 1, none⟩ = some (.int .i64 x1) := K0.out.cell 1
  have c2 : W1.cell? ⟨w.heap.size, 2, none⟩ = some (.int .i64 x2) := K0.out.cell 2
  have c3 : W1.cell? ⟨w.heap.size, 3, none⟩ = some (.int .i64 x3) := K0.out.cell 3
  have c4 : W1.cell? ⟨w.heap.size, 4, none⟩ = some (.int .i64 x4) := K0.out.cell 4
  have c5 : W1.cell? ⟨w.heap.size, 5, none⟩ = some (.int .i64 x5) := K0.out.cell 5
  have c6 : W1.cell? ⟨w.heap.size, 6, none⟩ = some (.int .i64 x6) := K0.out.cell 6
  have c7 : W1.cell? ⟨w.heap.size, 7, none⟩ = some (.int .i64 x7) := K0.out.cell 7
  have c8 : W1.cell? ⟨w.heap.size, 8, none⟩ = some (.int .i64 x8) := K0.out.cell 8
  have c9 : W1.cell? ⟨w.heap.size, 9, none⟩ = some (.int .i64 x9) := K0.out.cell 9
  clear h hl
  go_enter Try.func23, Try.ntmps23
  go_upto_region 1 with (fail)
  rw [← hW]
  clear hW
  go_upto_region 2 with (go_at_call 17; (with_reducible refine (IK.two K0.out x0 (L0.out.mono (by omega))).mono ?_); rintro e w1 ⟨rfl, k1⟩; have K1 := Lib.hid k1; have L1 := Lib.hid (L0.out.two x0); clear k1 K0 L0 c0 c1 c2 c3 c4 c5 c6 c7 c8 c9; have c0 : w1.cell? ⟨w.heap.size, 0, none⟩ = some (.int .i64 x0) := K1.out.cell 0; have c1 : w1.cell? ⟨w.heap.size, 1, none⟩ = some (.int .i64 x1) := K1.out.cell 1; have c2 : w1.cell? ⟨w.heap.size, 2, none⟩ = some (.int .i64 x2) := K1.out.cell 2; have c3 : w1.cell? ⟨w.heap.size, 3, none⟩ = some (.int .i64 x3) := K1.out.cell 3; have c4 : w1.cell? ⟨w.heap.size, 4, none⟩ = some (.int .i64 x4) := K1.out.cell 4; have c5 : w1.cell? ⟨w.heap.size, 5, none⟩ = some (.int .i64 x5) := K1.out.cell 5; have c6 : w1.cell? ⟨w.heap.size, 6, none⟩ = some (.int .i64 x6) := K1.out.cell 6; have c7 : w1.cell? ⟨w.heap.size, 7, none⟩ = some (.int .i64 x7) := K1.out.cell 7; have c8 : w1.cell? ⟨w.heap.size, 8, none⟩ = some (.int .i64 x8) := K1.out.cell 8; have c9 : w1.cell? ⟨w.heap.size, 9, none⟩ = some (.int .i64 x9) := K1.out.cell 9)
  go_upto_region 3 with (go_at_call 17; (with_reducible refine (IK.two K1.out x1 (L1.out.mono (by omega))).mono ?_); rintro e w2 ⟨rfl, k2⟩; have K2 := Lib.hid k2; have L2 := Lib.hid (L1.out.two x1); clear k2 K1 L1 c0 c1 c2 c3 c4 c5 c6 c7 c8 c9; have c0 : w2.cell? ⟨w.heap.size, 0, none⟩ = some (.int .i64 x0) := K2.out.cell 0; have c1 : w2.cell? ⟨w.heap.size, 1, none⟩ = some (.int .i64 x1) := K2.out.cell 1; have c2 : w2.cell? ⟨w.heap.size, 2, none⟩ = some (.int .i64 x2) := K2.out.cell 2; have c3 : w2.cell? ⟨w.heap.size, 3, none⟩ = some (.int .i64 x3) := K2.out.cell 3; have c4 : w2.cell? ⟨w.heap.size, 4, none⟩ = some (.int .i64 x4) := K2.out.cell 4; have c5 : w2.cell? ⟨w.heap.size, 5, none⟩ = some (.int .i64 x5) := K2.out.cell 5; have c6 : w2.cell? ⟨w.heap.size, 6, none⟩ = some (.int .i64 x6) := K2.out.cell 6; have c7 : w2.cell? ⟨w.heap.size, 7, none⟩ = some (.int .i64 x7) := K2.out.cell 7; have c8 : w2.cell? ⟨w.heap.size, 8, none⟩ = some (.int .i64 x8) := K2.out.cell 8; have c9 : w2.cell? ⟨w.heap.size, 9, none⟩ = some (.int .i64 x9) := K2.out.cell 9)
  go_upto_region 4 with (go_at_call 49; (with_reducible refine (IK.byte K2.out x2 (L2.out.mono (by omega))).mono ?_); rintro e w3 ⟨rfl, k3⟩; have K3 := Lib.hid k3; have L3 := Lib.hid (L2.out.byte x2); clear k3 K2 L2 c0 c1 c2 c3 c4 c5 c6 c7 c8 c9; have c0 : w3.cell? ⟨w.heap.size, 0, none⟩ = some (.int .i64 x0) := K3.out.cell 0; have c1 : w3.cell? ⟨w.heap.size, 1, none⟩ = some (.int .i64 x1) := K3.out.cell 1; have c2 : w3.cell? ⟨w.heap.size, 2, none⟩ = some (.int .i64 x2) := K3.out.cell 2; have c3 : w3.cell? ⟨w.heap.size, 3, none⟩ = some (.int .i64 x3) := K3.out.cell 3; have c4 : w3.cell? ⟨w.heap.size, 4, none⟩ = some (.int .i64 x4) := K3.out.cell 4; have c5 : w3.cell? ⟨w.heap.size, 5, none⟩ = some (.int .i64 x5) := K3.out.cell 5; have c6 : w3.cell? ⟨w.heap.size, 6, none⟩ = some (.int .i64 x6) := K3.out.cell 6; have c7 : w3.cell? ⟨w.heap.size, 7, none⟩ = some (.int .i64 x7) := K3.out.cell 7; have c8 : w3.cell? ⟨w.heap.size, 8, none⟩ = some (.int .i64 x8) := K3.out.cell 8; have c9 : w3.cell? ⟨w.heap.size, 9, none⟩ = some (.int .i64 x9) := K3.out.cell 9)
  go_upto_region 5 with (go_at_call 17; (with_reducible refine (IK.two K3.out x3 (L3.out.mono (by omega))).mono ?_); rintro e w4 ⟨rfl, k4⟩; have K4 := Lib.hid k4; have L4 := Lib.hid (L3.out.two x3); clear k4 K3 L3 c0 c1 c2 c3 c4 c5 c6 c7 c8 c9; have c0 : w4.cell? ⟨w.heap.size, 0, none⟩ = some (.int .i64 x0) := K4.out.cell 0; have c1 : w4.cell? ⟨w.heap.size, 1, none⟩ = some (.int .i64 x1) := K4.out.cell 1; have c2 : w4.cell? ⟨w.heap.size, 2, none⟩ = some (.int .i64 x2) := K4.out.cell 2; have c3 : w4.cell? ⟨w.heap.size, 3, none⟩ = some (.int .i64 x3) := K4.out.cell 3; have c4 : w4.cell? ⟨w.heap.size, 4, none⟩ = some (.int .i64 x4) := K4.out.cell 4; have c5 : w4.cell? ⟨w.heap.size, 5, none⟩ = some (.int .i64 x5) := K4.out.cell 5; have c6 : w4.cell? ⟨w.heap.size, 6, none⟩ = some (.int .i64 x6) := K4.out.cell 6; have c7 : w4.cell? ⟨w.heap.size, 7, none⟩ = some (.int .i64 x7) := K4.out.cell 7; have c8 : w4.cell? ⟨w.heap.size, 8, none⟩ = some (.int .i64 x8) := K4.out.cell 8; have c9 : w4.cell? ⟨w.heap.size, 9, none⟩ = some (.int .i64 x9) := K4.out.cell 9)
  go_upto_region 6 with (go_at_call 49; (with_reducible refine (IK.byte K4.out x4 (L4.out.mono (by omega))).mono ?_); rintro e w5 ⟨rfl, k5⟩; have K5 := Lib.hid k5; have L5 := Lib.hid (L4.out.byte x4); clear k5 K4 L4 c0 c1 c2 c3 c4 c5 c6 c7 c8 c9; have c0 : w5.cell? ⟨w.heap.size, 0, none⟩ = some (.int .i64 x0) := K5.out.cell 0; have c1 : w5.cell? ⟨w.heap.size, 1, none⟩ = some (.int .i64 x1) := K5.out.cell 1; have c2 : w5.cell? ⟨w.heap.size, 2, none⟩ = some (.int .i64 x2) := K5.out.cell 2; have c3 : w5.cell? ⟨w.heap.size, 3, none⟩ = some (.int .i64 x3) := K5.out.cell 3; have c4 : w5.cell? ⟨w.heap.size, 4, none⟩ = some (.int .i64 x4) := K5.out.cell 4; have c5 : w5.cell? ⟨w.heap.size, 5, none⟩ = some (.int .i64 x5) := K5.out.cell 5; have c6 : w5.cell? ⟨w.heap.size, 6, none⟩ = some (.int .i64 x6) := K5.out.cell 6; have c7 : w5.cell? ⟨w.heap.size, 7, none⟩ = some (.int .i64 x7) := K5.out.cell 7; have c8 : w5.cell? ⟨w.heap.size, 8, none⟩ = some (.int .i64 x8) := K5.out.cell 8; have c9 : w5.cell? ⟨w.heap.size, 9, none⟩ = some (.int .i64 x9) := K5.out.cell 9)
  go_upto_region 7 with (go_at_call 49; (with_reducible refine (IK.byte K5.out x5 (L5.out.mono (by omega))).mono ?_); rintro e w6 ⟨rfl, k6⟩; have K6 := Lib.hid k6; have L6 := Lib.hid (L5.out.byte x5); clear k6 K5 L5 c0 c1 c2 c3 c4 c5 c6 c7 c8 c9; have c0 : w6.cell? ⟨w.heap.size, 0, none⟩ = some (.int .i64 x0) := K6.out.cell 0; have c1 : w6.cell? ⟨w.heap.size, 1, none⟩ = some (.int .i64 x1) := K6.out.cell 1; have c2 : w6.cell? ⟨w.heap.size, 2, none⟩ = some (.int .i64 x2) := K6.out.cell 2; have c3 : w6.cell? ⟨w.heap.size, 3, none⟩ = some (.int .i64 x3) := K6.out.cell 3; have c4 : w6.cell? ⟨w.heap.size, 4, none⟩ = some (.int .i64 x4) := K6.out.cell 4; have c5 : w6.cell? ⟨w.heap.size, 5, none⟩ = some (.int .i64 x5) := K6.out.cell 5; have c6 : w6.cell? ⟨w.heap.size, 6, none⟩ = some (.int .i64 x6) := K6.out.cell 6; have c7 : w6.cell? ⟨w.heap.size, 7, none⟩ = some (.int .i64 x7) := K6.out.cell 7; have c8 : w6.cell? ⟨w.heap.size, 8, none⟩ = some (.int .i64 x8) := K6.out.cell 8; have c9 : w6.cell? ⟨w.heap.size, 9, none⟩ = some (.int .i64 x9) := K6.out.cell 9)
  go_upto_region 8 with (go_at_call 49; (with_reducible refine (IK.byte K6.out x6 (L6.out.mono (by omega))).mono ?_); rintro e w7 ⟨rfl, k7⟩; have K7 := Lib.hid k7; have L7 := Lib.hid (L6.out.byte x6); clear k7 K6 L6 c0 c1 c2 c3 c4 c5 c6 c7 c8 c9; have c0 : w7.cell? ⟨w.heap.size, 0, none⟩ = some (.int .i64 x0) := K7.out.cell 0; have c1 : w7.cell? ⟨w.heap.size, 1, none⟩ = some (.int .i64 x1) := K7.out.cell 1; have c2 : w7.cell? ⟨w.heap.size, 2, none⟩ = some (.int .i64 x2) := K7.out.cell 2; have c3 : w7.cell? ⟨w.heap.size, 3, none⟩ = some (.int .i64 x3) := K7.out.cell 3; have c4 : w7.cell? ⟨w.heap.size, 4, none⟩ = some (.int .i64 x4) := K7.out.cell 4; have c5 : w7.cell? ⟨w.heap.size, 5, none⟩ = some (.int .i64 x5) := K7.out.cell 5; have c6 : w7.cell? ⟨w.heap.size, 6, none⟩ = some (.int .i64 x6) := K7.out.cell 6; have c7 : w7.cell? ⟨w.heap.size, 7, none⟩ = some (.int .i64 x7) := K7.out.cell 7; have c8 : w7.cell? ⟨w.heap.size, 8, none⟩ = some (.int .i64 x8) := K7.out.cell 8; have c9 : w7.cell? ⟨w.heap.size, 9, none⟩ = some (.int .i64 x9) := K7.out.cell 9)
  go_upto_region 9 with (go_at_call 49; (with_reducible refine (IK.byte K7.out x7 (L7.out.mono (by omega))).mono ?_); rintro e w8 ⟨rfl, k8⟩; have K8 := Lib.hid k8; have L8 := Lib.hid (L7.out.byte x7); clear k8 K7 L7 c0 c1 c2 c3 c4 c5 c6 c7 c8 c9; have c0 : w8.cell? ⟨w.heap.size, 0, none⟩ = some (.int .i64 x0) := K8.out.cell 0; have c1 : w8.cell? ⟨w.heap.size, 1, none⟩ = some (.int .i64 x1) := K8.out.cell 1; have c2 : w8.cell? ⟨w.heap.size, 2, none⟩ = some (.int .i64 x2) := K8.out.cell 2; have c3 : w8.cell? ⟨w.heap.size, 3, none⟩ = some (.int .i64 x3) := K8.out.cell 3; have c4 : w8.cell? ⟨w.heap.size, 4, none⟩ = some (.int .i64 x4) := K8.out.cell 4; have c5 : w8.cell? ⟨w.heap.size, 5, none⟩ = some (.int .i64 x5) := K8.out.cell 5; have c6 : w8.cell? ⟨w.heap.size, 6, none⟩ = some (.int .i64 x6) := K8.out.cell 6; have c7 : w8.cell? ⟨w.heap.size, 7, none⟩ = some (.int .i64 x7) := K8.out.cell 7; have c8 : w8.cell? ⟨w.heap.size, 8, none⟩ = some (.int .i64 x8) := K8.out.cell 8; have c9 : w8.cell? ⟨w.heap.size, 9, none⟩ = some (.int .i64 x9) := K8.out.cell 9)
  go_upto_region 10 with (go_at_call 17; (with_reducible refine (IK.two K8.out x8 (L8.out.mono (by omega))).mono ?_); rintro e w9 ⟨rfl, k9⟩; have K9 := Lib.hid k9; have L9 := Lib.hid (L8.out.two x8); clear k9 K8 L8 c0 c1 c2 c3 c4 c5 c6 c7 c8 c9; have c0 : w9.cell? ⟨w.heap.size, 0, none⟩ = some (.int .i64 x0) := K9.out.cell 0; have c1 : w9.cell? ⟨w.heap.size, 1, none⟩ = some (.int .i64 x1) := K9.out.cell 1; have c2 : w9.cell? ⟨w.heap.size, 2, none⟩ = some (.int .i64 x2) := K9.out.cell 2; have c3 : w9.cell? ⟨w.heap.size, 3, none⟩ = some (.int .i64 x3) := K9.out.cell 3; have c4 : w9.cell? ⟨w.heap.size, 4, none⟩ = some (.int .i64 x4) := K9.out.cell 4; have c5 : w9.cell? ⟨w.heap.size, 5, none⟩ = some (.int .i64 x5) := K9.out.cell 5; have c6 : w9.cell? ⟨w.heap.size, 6, none⟩ = some (.int .i64 x6) := K9.out.cell 6; have c7 : w9.cell? ⟨w.heap.size, 7, none⟩ = some (.int .i64 x7) := K9.out.cell 7; have c8 : w9.cell? ⟨w.heap.size, 8, none⟩ = some (.int .i64 x8) := K9.out.cell 8; have c9 : w9.cell? ⟨w.heap.size, 9, none⟩ = some (.int .i64 x9) := K9.out.cell 9)
  go_wp2_with (go_at_call 49; (with_reducible refine (IK.byte K9.out x9 (L9.out.mono (by omega))).mono ?_); rintro e w10 ⟨rfl, k10⟩; have K10 := Lib.hid k10; have L10 := Lib.hid (L9.out.byte x9); clear k10 K9 L9 c0 c1 c2 c3 c4 c5 c6 c7 c8 c9; have c0 : w10.cell? ⟨w.heap.size, 0, none⟩ = some (.int .i64 x0) := K10.out.cell 0; have c1 : w10.cell? ⟨w.heap.size, 1, none⟩ = some (.int .i64 x1) := K10.out.cell 1; have c2 : w10.cell? ⟨w.heap.size, 2, none⟩ = some (.int .i64 x2) := K10.out.cell 2; have c3 : w10.cell? ⟨w.heap.size, 3, none⟩ = some (.int .i64 x3) := K10.out.cell 3; have c4 : w10.cell? ⟨w.heap.size, 4, none⟩ = some (.int .i64 x4) := K10.out.cell 4; have c5 : w10.cell? ⟨w.heap.size, 5, none⟩ = some (.int .i64 x5) := K10.out.cell 5; have c6 : w10.cell? ⟨w.heap.size, 6, none⟩ = some (.int .i64 x6) := K10.out.cell 6; have c7 : w10.cell? ⟨w.heap.size, 7, none⟩ = some (.int .i64 x7) := K10.out.cell 7; have c8 : w10.cell? ⟨w.heap.size, 8, none⟩ = some (.int .i64 x8) := K10.out.cell 8; have c9 : w10.cell? ⟨w.heap.size, 9, none⟩ = some (.int .i64 x9) := K10.out.cell 9)
  go_end0
  exact K10.out.back
theorem pslot_any (b : Nat) (x : W3) (R : Option Nat) (o : Wo) (w : World) (h : WrR w b R o) (hl : Ln o 40000) : Calls Try.prog 21 #[.pointer (some ⟨b, 0, none⟩), w3v x] w (StepR w b R (pW x o)) := by
  obtain ⟨x0, x1, x2⟩ := x
  show Calls Try.prog 21 #[.pointer (some ⟨b, 0, none⟩), .agg #[.int .i64 x0, .int .i64 x1, .int .i64 x2]] w _
  obtain ⟨W1, hW⟩ : ∃ W1, W1 = w.alloc (.cells #[.int .i64 x0, .int .i64 x1, .int .i64 x2] 53) := ⟨_, rfl⟩
  have K0 : Hid (IK w W1 b R w.heap.size 53 #[.int .i64 x0, .int .i64 x1, .int .i64 x2] o) := Lib.hid (by rw [hW]; exact IK.new h _ _)
  have c0 : W1.cell? ⟨w.heap.size, 0, none⟩ = some (.int .i64 x0) := K0.out.cell 0
  have c1 : W1.cell? ⟨w.heap.size, 1, none⟩ = some (.int .i64 x1) := K0.out.cell 1
  have c2 : W1.cell? ⟨w.heap.size, 2, none⟩ = some (.int .i64 x2) := K0.out.cell 2
  obtain ⟨R1, h1, h2, h3, h4, h5⟩ := K0.out
  have HW := Lib.hid (show Calls Try.prog 19 #[.pointer (some ⟨b, 0, none⟩), .agg #[.int .i64 x0, .int .i64 x1, .int .i64 x2]] W1 (StepR W1 b R1 (pW (x0, x1, x2) o)) from pwin_any b (x0, x1, x2) R1 o W1 h1 hl)
  have H2 := Lib.hid h2
  clear h hl h1 h2 h3 h4 h5 K0
  go_enter Try.func21, Try.ntmps21
  go_upto_region 1 with (fail)
  rw [← hW]
  clear hW
  go_wp2_with (go_at_call 19; (with_reducible refine HW.out.mono ?_); rintro e w2 ⟨rfl, k2⟩; have K2 := Lib.hid k2; clear k2)
  go_end0
  obtain ⟨R', q1, q2⟩ := K2.out
  exact ⟨rfl, R', q1, H2.out.trans q2⟩
end Go.Proofs.Ytjmdcmcheiagjaa
