/- The writer of package bits: each call by its contract. -/
import Derived.Test.YtgjpjmolfdiahaaDoorB2
import Derived.Lib.AppendStr
import Derived.Deep.RegionLaw
namespace Go.Proofs.YtgjpjmolfdiahaaDoor
open Go.RowKit Go.Lib
set_option linter.unusedVariables false
set_option maxRecDepth 4000

def byteCells (l : List UInt8) : List Value := l.map fun b => .int .u8 (b.toNat : Int)

/-- A writer lies in block b; what it has written lies in a block from B on. -/
def Wr (w : World) (B b : Nat) : Option (List UInt8) → Prop
  | some l => ∃ v, Blk w b 126 #[.int .i64 0, v] ∧ w.ownsRow B 5 1 v l.length (byteCells l)
  | none => Blk w b 126 #[.int .i64 2, .slice none 0 0]

/-- The bytes that a step writes, or that it cannot be written. -/
def stepBytes (d n : Int) (t : ByteArray) : Option (List UInt8) :=
  if d = 0 then (if 0 ≤ n ∧ n ≤ 255 then some [UInt8.ofNat n.toNat] else none)
  else if d = 1 then (if 0 ≤ n ∧ n ≤ 65535 then some (Bt.put n).data.toList else none)
  else some t.data.toList
def wrNext (o : Option (List UInt8)) (d n : Int) (t : ByteArray) : Option (List UInt8) := o.bind fun l => (stepBytes d n t).map fun x => l ++ x

theorem takes_yes (b : Nat) (n m : Int) (w : World) (c0 : w.cell? ⟨b, 0, none⟩ = some (.int .i64 0)) (h0 : 0 ≤ n) (h1 : n ≤ m) :
    Calls Tryd.prog 97 #[.pointer (some ⟨b, 0, none⟩), .int .i64 n, .int .i64 m] w fun r w' => r = .returned (.bool true) ∧ w = w' := by
  go_enter Tryd.func97, Tryd.ntmps97
  go_wp2_with (go_at_call 98; refine (failed_any _ _ _ _ c0).mono ?_; rintro e w' ⟨rfl, rfl⟩)
  go_ret
  exact ⟨rfl, rfl⟩

theorem takes_off (b : Nat) (n m : Int) (w : World) (h : Blk w b 126 #[.int .i64 2, .slice none 0 0]) :
    Calls Tryd.prog 97 #[.pointer (some ⟨b, 0, none⟩), .int .i64 n, .int .i64 m] w fun r w' => r = .returned (.bool false) ∧ w = w' := by
  have c0 : w.cell? ⟨b, 0, none⟩ = some (.int .i64 2) := h.cell 0
  clear h
  go_enter Tryd.func97, Tryd.ntmps97
  go_wp2_with (go_at_call 98; refine (failed_any _ _ _ _ c0).mono ?_; rintro e w' ⟨rfl, rfl⟩)
  go_ret
  exact ⟨rfl, rfl⟩

theorem takes_no (b : Nat) (n m : Int) (v : Value) (w : World) (h : Blk w b 126 #[.int .i64 0, v]) (hn : n < 0 ∨ m < n) :
    Calls Tryd.prog 97 #[.pointer (some ⟨b, 0, none⟩), .int .i64 n, .int .i64 m] w fun r w' => r = .returned (.bool false) ∧ (w.setCell ⟨b, 0, none⟩ (.int .i64 2)).setCell ⟨b, 1, none⟩ (.slice none 0 0) = w' := by
  have c0 : w.cell? ⟨b, 0, none⟩ = some (.int .i64 0) := h.cell 0
  have c1 : w.cell? ⟨b, 1, none⟩ = some v := h.cell 1
  have f0 := h.free 0
  have f1 := h.free 1
  clear h
  by_cases h0 : n < 0
  · go_enter Tryd.func97, Tryd.ntmps97
    go_wp2_with (first | (go_at_call 98; refine (failed_any _ _ _ _ c0).mono ?_; rintro e w' ⟨rfl, rfl⟩) | (go_at_call 104; refine (fail_any _ _ _ _ _ c0 f0).mono ?_; rintro e w' ⟨rfl, rfl⟩))
    go_ret
    exact ⟨rfl, rfl⟩
  · have h1 : m < n := by omega
    clear hn
    go_enter Tryd.func97, Tryd.ntmps97
    go_wp2_with (first | (go_at_call 98; refine (failed_any _ _ _ _ c0).mono ?_; rintro e w' ⟨rfl, rfl⟩) | (go_at_call 104; refine (fail_any _ _ _ _ _ c0 f0).mono ?_; rintro e w' ⟨rfl, rfl⟩))
    go_ret
    exact ⟨rfl, rfl⟩

theorem u8_info : (Tryd.prog.info? 5).map (fun i => (i.zero, i.size, i.bytes)) = some (some (.int .u8 0), 1, 1) := by kernel_rfl

theorem Wr.none_of {w : World} {B b : Nat} {v : Value} (h : Blk w b 126 #[.int .i64 0, v]) (hb : B ≤ b) (hB : B ≤ w.heap.size) :
    Wr ((w.setCell ⟨b, 0, none⟩ (.int .i64 2)).setCell ⟨b, 1, none⟩ (.slice none 0 0)) B b none ∧ Below B w ((w.setCell ⟨b, 0, none⟩ (.int .i64 2)).setCell ⟨b, 1, none⟩ (.slice none 0 0)) :=
  ⟨(h.put 0 _).put 1 _, ((Below.refl _ _).setCell hb _).setCell hb _⟩

/-- What an append onto what was written, and its store, leave. -/
theorem wr_step {w wa w1 : World} {B b n m : Nat} {v v1 : Value} {xs ys : List Value} (hblk : Blk w b 126 #[.int .i64 0, v]) (hb : B ≤ b) (hown : w.ownsRow B 5 1 v n xs) (ha : Below B w wa)
    (hown1 : w1.ownsRow B 5 1 v1 m ys) (hg : wa.grownBy w1 v.ownBlock) (hb1 : Blk w1 b 126 #[.int .i64 0, v]) :
    (Blk (w1.setCell ⟨b, 1, none⟩ v1) b 126 #[.int .i64 0, v1] ∧ (w1.setCell ⟨b, 1, none⟩ v1).ownsRow B 5 1 v1 m ys) ∧ Below B w (w1.setCell ⟨b, 1, none⟩ v1) := by
  refine ⟨⟨hb1.put 1 _, ownsRow_setCell_other hown1 (own_ne hown1 hb1 (by decide)) _⟩, ?_⟩
  have k : ∀ k, v.ownBlock = some k → B ≤ k := fun k hk => (hown.lt k hk).1
  by_cases hB : B ≤ w.heap.size
  · exact (ha.trans (below_of_only hg (Nat.le_trans hB ha.size) k)).setCell hb _
  · have := hblk.lt
    omega

theorem wbyte_any (B b : Nat) (n : Int) (t : ByteArray) (o : Option (List UInt8)) (w : World) (h : Wr w B b o) (hb : B ≤ b) (hB : B ≤ w.heap.size) (hl : ∀ l, o = some l → l.length ≤ 100000) :
    Calls Tryd.prog 82 #[.pointer (some ⟨b, 0, none⟩), .int .i64 n] w fun r w' => r = .returned (.tuple #[]) ∧ Wr w' B b (wrNext o 0 n t) ∧ Below B w w' := by
  obtain ⟨i0, hi0, hz0, hz1, hz2⟩ := info_parts u8_info
  cases o with
  | none =>
    have h' : Blk w b 126 #[.int .i64 2, .slice none 0 0] := h
    have H := Lib.hid h'
    clear h h' hl
    go_enter Tryd.func82, Tryd.ntmps82
    go_wp2_with (go_at_call 97; refine (takes_off _ _ _ _ H.out).mono ?_; rintro e w' ⟨rfl, rfl⟩)
    go_end0
    exact ⟨rfl, H.out, Below.refl _ _⟩
  | some l =>
    have hll := hl l rfl
    obtain ⟨v, hblk, hown⟩ := h
    clear hl
    by_cases hn : 0 ≤ n ∧ n ≤ 255
    · obtain ⟨h0, h1⟩ := hn
      have c0 : w.cell? ⟨b, 0, none⟩ = some (.int .i64 0) := hblk.cell 0
      have c1 : w.cell? ⟨b, 1, none⟩ = some v := hblk.cell 1
      have f1 := hblk.free 1
      have hlt := hblk.lt
      have hne := own_ne hown hblk (by decide)
      have HB := Lib.hid hblk
      have HO := Lib.hid hown
      have HN := Lib.hid hne
      clear hblk hown hne
      go_enter Tryd.func82, Tryd.ntmps82
      go_wp2_with (first | (go_at_call 97; refine (takes_yes _ _ _ _ c0 (by omega) (by omega)).mono ?_; rintro e w' ⟨rfl, rfl⟩) | (at_builtin; refine wpList_append_own _ rfl (.tmp 11) (.tmp 14) 50 rfl B 5 i0 (.int .u8 0) 1 1 Tryd.underlying50 hi0 hz0 hz1 hz2 rfl (by decide) _ _ _ rfl (HO.out.alloc _) ⟨w.heap.size, 0, none⟩ 1 1 [.int .u8 n] rfl rfl ?c1 ?c2 ?c3 ?c4 ?c5 ?_))
      case c1 =>
        intro j u hj
        match j, hj with
        | 0, hj => simp at hj; subst hj; simp [Addr.add]
      case c2 => intro u hu; simp at hu; subst hu; rfl
      case c3 => unfold maxLen; omega
      case c4 => omega
      case c5 => simp; omega
      · intro v1 w1 hown1 hg1 _
        have hb1 := (HB.out.alloc (.cells #[.int .u8 n] 5)).only hg1 (fun e => HN.out e.symm)
        have fin := wr_step HB.out hb HO.out ((Below.refl _ _).alloc hB (.cells #[.int .u8 n] 5)) hown1 hg1 hb1
        have FIN := Lib.hid fin
        have d1 : w1.cell? ⟨b, 1, none⟩ = some v := hb1.cell 1
        have e1 := hb1.free 1
        clear fin hb1 hown1 hg1 c0 c1 f1
        obtain ⟨A1, n1, rfl⟩ := own_form FIN.out.1.2
        go_wp2
        go_end0
        have hx : wrNext (some l) 0 n t = some (l ++ [UInt8.ofNat n.toNat]) := by simp [wrNext, stepBytes, h0, h1]
        have hy : byteCells l ++ [.int .u8 n] = byteCells (l ++ [UInt8.ofNat n.toNat]) := by
          have hz : ((UInt8.ofNat n.toNat).toNat : Int) = n := by simp; omega
          simp only [byteCells, List.map_append, List.map_cons, List.map_nil, hz]
        rw [hx]
        refine ⟨rfl, ?_, FIN.out.2⟩
        obtain ⟨q1, q2⟩ := FIN.out.1
        refine ⟨_, q1, ?_⟩
        rw [hy] at q2
        simpa using q2
    · have hx : wrNext (some l) 0 n t = none := by simp [wrNext, stepBytes, hn]
      have HX := Lib.hid hx
      have fin := Wr.none_of hblk hb hB
      have FIN := Lib.hid fin
      have HB := Lib.hid hblk
      clear hx fin hblk hown
      go_enter Tryd.func82, Tryd.ntmps82
      go_wp2_with (go_at_call 97; refine (takes_no _ _ _ _ _ HB.out (by omega)).mono ?_; rintro e w' ⟨rfl, rfl⟩)
      go_end0
      rw [HX.out]
      exact ⟨rfl, FIN.out⟩

/-- append of a string's bytes onto what the call owns, as one step of a region that draws. -/
theorem step_append_str {P : Program} {ops : Array Oper} {o : Oper} {a : Act} {w : World} {K : Act → World → Prop} {Q : Exit → Act → World → Prop} {E : Prop} (hgd : o.guard = none) (sl x : Operand) (t u : TypeId)
    (ho : o.op = .call { callee := .builtin .append, args := #[sl, x], argTypes := #[t, u] })
    (base : Nat) (e : TypeId) (i : TypeInfo) (ht : P.underlying t = some (.slice e)) (hu : P.underlying u = some .string) (hi : P.info? e = some i) (hz : i.zero = some (.int .u8 0))
    (hsize : i.size = 1) (hby : i.bytes = 1)
    (v : Value) (n : Nat) (xs : List Value) (hs : a.eval sl = v) (hown : w.ownsRow base e 1 v n xs) (s : ByteArray) (hx : a.eval x = .string s)
    (h63 : n + s.size ≤ maxLen) (hbytes : n + s.size ≤ 140737488355328) (hbase : base ≤ w.heap.size)
    (h : ∀ v' w', w'.ownsRow base e 1 v' (n + s.size) (xs ++ strCells s) → w.grownBy w' v.ownBlock → K (a.put o.dst v') w') :
    if Region.wanted o (yielded ops a.tmps) = true then Oper.wp P o a w K Q else E := by
  have hw : Region.wanted o (yielded ops a.tmps) = true := by simp [Region.wanted, hgd]
  rw [if_pos hw]
  obtain ⟨v', w', hr, h2, h3, h4⟩ := run_append_own_string (P := P) w base t u o.type e i ht hu hi hz hsize hby v n xs hown s h63 hbytes hbase
  unfold Oper.wp execOp
  simp only [ho, resolve, invoke, builtin, Sem.run_bind, Sem.run_pure, Result.andThen_ok, List.map_toArray, List.map_cons, List.map_nil, hs, hx, hr]
  exact h v' w' h2 h3

theorem put_bytes (n : Int) : (Bt.put n).size = 2 := rfl

theorem wtwo_any (B b : Nat) (n : Int) (t : ByteArray) (o : Option (List UInt8)) (w : World) (h : Wr w B b o) (hb : B ≤ b) (hB : B ≤ w.heap.size) (hl : ∀ l, o = some l → l.length ≤ 100000) :
    Calls Tryd.prog 83 #[.pointer (some ⟨b, 0, none⟩), .int .i64 n] w fun r w' => r = .returned (.tuple #[]) ∧ Wr w' B b (wrNext o 1 n t) ∧ Below B w w' := by
  obtain ⟨i0, hi0, hz0, hz1, hz2⟩ := info_parts u8_info
  cases o with
  | none =>
    have h' : Blk w b 126 #[.int .i64 2, .slice none 0 0] := h
    have H := Lib.hid h'
    clear h h' hl
    go_enter Tryd.func83, Tryd.ntmps83
    go_wp2_with (go_at_call 97; refine (takes_off _ _ _ _ H.out).mono ?_; rintro e w' ⟨rfl, rfl⟩)
    go_end0
    exact ⟨rfl, H.out, Below.refl _ _⟩
  | some l =>
    have hll := hl l rfl
    obtain ⟨v, hblk, hown⟩ := h
    clear hl
    by_cases hn : 0 ≤ n ∧ n ≤ 65535
    · obtain ⟨h0, h1⟩ := hn
      have hx : wrNext (some l) 1 n t = some (l ++ (Bt.put n).data.toList) := by simp [wrNext, stepBytes, h0, h1]
      have HX := Lib.hid hx
      have c0 : w.cell? ⟨b, 0, none⟩ = some (.int .i64 0) := hblk.cell 0
      have c1 : w.cell? ⟨b, 1, none⟩ = some v := hblk.cell 1
      have f1 := hblk.free 1
      have hlt := hblk.lt
      have hne := own_ne hown hblk (by decide)
      have HB := Lib.hid hblk
      have HO := Lib.hid hown
      have HN := Lib.hid hne
      clear hblk hown hne hx
      go_enter Tryd.func83, Tryd.ntmps83
      go_wp2_with (go_at_call 97; refine (takes_yes _ _ _ _ c0 (by omega) (by omega)).mono ?_; rintro e w' ⟨rfl, rfl⟩)
      go_region_law (first | (refine step_append_str rfl (.tmp 11) (.tmp 13) 50 9 rfl B 5 i0 Tryd.underlying50 Tryd.underlying9 hi0 hz0 hz1 hz2 v l.length (byteCells l) (by simp [Act.eval, Act.put]) (World.ownsRow.alloc (w := w.drew) HO.out _) (Bt.put n) (by simp [Act.eval, Act.put]) (by rw [put_bytes]; unfold maxLen; omega) (by rw [put_bytes]; omega) (by simp; omega) ?_; intro v1 w1 hown1 hg1; have hb1 := (Blk.alloc (w := w.drew) HB.out _).only hg1 (fun e => HN.out e.symm); have FIN := Lib.hid (wr_step HB.out hb HO.out ((Below.refl B w).drew.alloc hB _) hown1 hg1 hb1); have d1 : w1.cell? ⟨b, 1, none⟩ = some v := hb1.cell 1; have e1 := hb1.free 1; clear hb1 hown1 hg1; obtain ⟨A1, n1, rfl⟩ := own_form FIN.out.1.2) | (go_simp; go_at_call 48; refine (put_any _ _).mono ?_; rintro e w' ⟨rfl, rfl⟩))
      all_goals
        go_end0
        rw [HX.out]
        refine ⟨rfl, ?_, FIN.out.2⟩
        obtain ⟨q1, q2⟩ := FIN.out.1
        refine ⟨_, q1, ?_⟩
        have hy : byteCells l ++ strCells (Bt.put n) = byteCells (l ++ (Bt.put n).data.toList) := by simp [byteCells, strCells]
        rw [hy] at q2
        have hz : l.length + (Bt.put n).size = (l ++ (Bt.put n).data.toList).length := by simp
        rw [← hz]
        exact q2
    · have hx : wrNext (some l) 1 n t = none := by simp [wrNext, stepBytes, hn]
      have HX := Lib.hid hx
      have fin := Wr.none_of hblk hb hB
      have FIN := Lib.hid fin
      have HB := Lib.hid hblk
      clear hx fin hblk hown
      go_enter Tryd.func83, Tryd.ntmps83
      go_wp2_with (go_at_call 97; refine (takes_no _ _ _ _ _ HB.out (by omega)).mono ?_; rintro e w' ⟨rfl, rfl⟩)
      go_end0
      rw [HX.out]
      exact ⟨rfl, FIN.out⟩

/-- The error of what steps write. -/
def errOf (o : Option (List UInt8)) : Int := if o.isSome then 0 else 2
/-- The bytes of what steps write. -/
def textFor (o : Option (List UInt8)) : ByteArray := ⟨(o.getD []).toArray⟩

theorem werr_any (B b : Nat) (o : Option (List UInt8)) (w : World) (h : Wr w B b o) :
    Calls Tryd.prog 85 #[.pointer (some ⟨b, 0, none⟩)] w fun r w' => r = .returned (.int .i64 (errOf o)) ∧ w = w' := by
  have key : ∀ e : Int, w.cell? ⟨b, 0, none⟩ = some (.int .i64 e) → Calls Tryd.prog 85 #[.pointer (some ⟨b, 0, none⟩)] w fun r w' => r = .returned (.int .i64 e) ∧ w = w' := by
    intro e c0
    go_enter Tryd.func85, Tryd.ntmps85
    go_wp2
    go_ret
    exact ⟨rfl, rfl⟩
  cases o with
  | none =>
    have h' : Blk w b 126 #[.int .i64 2, .slice none 0 0] := h
    exact key 2 (h'.cell 0)
  | some l =>
    obtain ⟨v, hblk, _⟩ := h
    exact key 0 (hblk.cell 0)

theorem strOfNums_bytes (l : List UInt8) : strOfNums (l.map fun b => (b.toNat : Int)) = ⟨l.toArray⟩ := by
  have h : strOfNums (l.map fun b => (b.toNat : Int)) = (l.map fun b => (b.toNat : Int)).foldl (fun r n => r.push (UInt8.ofNat n.toNat)) ByteArray.empty := by
    rw [foldl_push_bytes]
    simp [strOfNums]
  rw [h, foldl_push_byteCells]
  simp

theorem wbytes_any (B b : Nat) (o : Option (List UInt8)) (w : World) (h : Wr w B b o) :
    Calls Tryd.prog 84 #[.pointer (some ⟨b, 0, none⟩)] w fun r w' => r = .returned (.string (textFor o)) ∧ w = w' := by
  cases o with
  | none =>
    have h' : Blk w b 126 #[.int .i64 2, .slice none 0 0] := h
    have c0 : w.cell? ⟨b, 0, none⟩ = some (.int .i64 2) := h'.cell 0
    clear h h'
    go_enter Tryd.func84, Tryd.ntmps84
    go_wp2_with (go_at_call 98; refine (failed_any _ _ _ _ c0).mono ?_; rintro e w' ⟨rfl, rfl⟩)
    go_ret
    exact ⟨rfl, rfl⟩
  | some l =>
    obtain ⟨v, hblk, hown⟩ := h
    have c0 : w.cell? ⟨b, 0, none⟩ = some (.int .i64 0) := hblk.cell 0
    have c1 : w.cell? ⟨b, 1, none⟩ = some v := hblk.cell 1
    have hconv : (convert 50 9 v).run Tryd.prog w = .ok (.string ⟨l.toArray⟩) w := by
      rcases hown.2 with ⟨rfl, h0⟩ | ⟨g, cap, cur, rfl, _, _, _⟩
      · have hl : l = [] := List.eq_nil_of_length_eq_zero h0
        subst hl
        rw [run_convert_bytes_nil w 50 5 Tryd.underlying50 Tryd.underlying5 0 0 9 Tryd.underlying9]
        rfl
      · rw [run_convert_bytes_arg (P := Tryd.prog) w 50 5 Tryd.underlying50 Tryd.underlying5 g 0 l.length cap (l.map fun b => (b.toNat : Int)) (by simp) (by
          intro i hi
          have := hown.cellAt (g := g) (n := l.length) (cap := cap) i (by omega)
          rw [Nat.zero_add, this]
          simp [byteCells, List.getElem?_eq_getElem hi]) 9 Tryd.underlying9, strOfNums_bytes]
    obtain ⟨A1, n1, rfl⟩ := own_form hown
    clear hblk hown
    go_enter Tryd.func84, Tryd.ntmps84
    go_wp2_with (go_at_call 98; refine (failed_any _ _ _ _ c0).mono ?_; rintro e w' ⟨rfl, rfl⟩)
    go_ret
    exact ⟨rfl, rfl⟩
end Go.Proofs.YtgjpjmolfdiahaaDoor
