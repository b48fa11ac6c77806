import Derived.Test.YtjhihccjhnlghaaZG07
import Derived.Lib.AppendStr
import Derived.Deep.RegionLaw
set_option linter.all false
/- The writer of package bits: each call by its contract. -/
namespace Go.Proofs.Ytjhihccjhnlghaa
open Go.RowKit Go.Lib
set_option linter.unusedVariables false

def byteCells (l : List UInt8) : List Value := l.map fun b => .int .u8 (b.toNat : Int)

/-- A writer lies in block b; what it has written lies in a block from B on. -/
def Wr (w : World) (B b : Nat) : Option (List UInt8) → Prop
  | some l => ∃ v, Blk w b 107 #[.int .i64 0, v] ∧ w.ownsRow B 5 1 v l.length (byteCells l)
  | none => Blk w b 107 #[.int .i64 2, .slice none 0 0]

/-- The bytes that a step writes, or that it cannot be written. -/
def stepBytes (d n : Int) (t : ByteArray) : Option (List UInt8) :=
  if d = 0 then (if 0 ≤ n ∧ n ≤ 255 then some [UInt8.ofNat n.toNat] else none)
  else if d = 1 then (if 0 ≤ n ∧ n ≤ 65535 then some (Bt.put n).data.toList else none)
  else some t.data.toList
def wrNext (o : Option (List UInt8)) (d n : Int) (t : ByteArray) : Option (List UInt8) := o.bind fun l => (stepBytes d n t).map fun x => l ++ x

theorem takes_yes (b : Nat) (n m : Int) (w : World) (c0 : w.cell? ⟨b, 0, none⟩ = some (.int .i64 0)) (h0 : 0 ≤ n) (h1 : n ≤ m) :
    Calls Try.prog 61 #[.pointer (some ⟨b, 0, none⟩), .int .i64 n, .int .i64 m] w fun r w' => r = .returned (.bool true) ∧ w = w' := by
  go_enter Try.func61, Try.ntmps61
  go_wp2_with (go_at_call 59; refine (failed_any _ _ _ _ c0).mono ?_; rintro e w' ⟨rfl, rfl⟩)
  go_ret
  exact ⟨rfl, rfl⟩

theorem takes_off (b : Nat) (n m : Int) (w : World) (h : Blk w b 107 #[.int .i64 2, .slice none 0 0]) :
    Calls Try.prog 61 #[.pointer (some ⟨b, 0, none⟩), .int .i64 n, .int .i64 m] w fun r w' => r = .returned (.bool false) ∧ w = w' := by
  have c0 : w.cell? ⟨b, 0, none⟩ = some (.int .i64 2) := h.cell 0
  clear h
  go_enter Try.func61, Try.ntmps61
  go_wp2_with (go_at_call 59; refine (failed_any _ _ _ _ c0).mono ?_; rintro e w' ⟨rfl, rfl⟩)
  go_ret
  exact ⟨rfl, rfl⟩

theorem takes_no (b : Nat) (n m : Int) (v : Value) (w : World) (h : Blk w b 107 #[.int .i64 0, v]) (hn : n < 0 ∨ m < n) :
    Calls Try.prog 61 #[.pointer (some ⟨b, 0, none⟩), .int .i64 n, .int .i64 m] w fun r w' => r = .returned (.bool false) ∧ (w.setCell ⟨b, 0, none⟩ (.int .i64 2)).setCell ⟨b, 1, none⟩ (.slice none 0 0) = w' := by
  have c0 : w.cell? ⟨b, 0, none⟩ = some (.int .i64 0) := h.cell 0
  have c1 : w.cell? ⟨b, 1, none⟩ = some v := h.cell 1
  have f0 := h.free 0
  have f1 := h.free 1
  clear h
  by_cases h0 : n < 0
  · go_enter Try.func61, Try.ntmps61
    go_wp2_with (first | (go_at_call 59; refine (failed_any _ _ _ _ c0).mono ?_; rintro e w' ⟨rfl, rfl⟩) | (go_at_call 60; refine (fail_any _ _ _ _ _ c0 f0).mono ?_; rintro e w' ⟨rfl, rfl⟩))
    go_ret
    exact ⟨rfl, rfl⟩
  · have h1 : m < n := by omega
    clear hn
    go_enter Try.func61, Try.ntmps61
    go_wp2_with (first | (go_at_call 59; refine (failed_any _ _ _ _ c0).mono ?_; rintro e w' ⟨rfl, rfl⟩) | (go_at_call 60; refine (fail_any _ _ _ _ _ c0 f0).mono ?_; rintro e w' ⟨rfl, rfl⟩))
    go_ret
    exact ⟨rfl, rfl⟩

theorem u8_info : (Try.prog.info? 5).map (fun i => (i.zero, i.size, i.bytes)) = some (some (.int .u8 0), 1, 1) := by kernel_rfl

theorem Wr.none_of {w : World} {B b : Nat} {v : Value} (h : Blk w b 107 #[.int .i64 0, v]) (hb : B ≤ b) (hB : B ≤ w.heap.size) :
    Wr ((w.setCell ⟨b, 0, none⟩ (.int .i64 2)).setCell ⟨b, 1, none⟩ (.slice none 0 0)) B b none ∧ Below B w ((w.setCell ⟨b, 0, none⟩ (.int .i64 2)).setCell ⟨b, 1, none⟩ (.slice none 0 0)) :=
  ⟨(h.put 0 _).put 1 _, ((Below.refl _ _).setCell hb _).setCell hb _⟩

/-- What an append onto what was written, and its store, leave. -/
theorem wr_step {w wa w1 : World} {B b n m : Nat} {v v1 : Value} {xs ys : List Value} (hblk : Blk w b 107 #[.int .i64 0, v]) (hb : B ≤ b) (hown : w.ownsRow B 5 1 v n xs) (ha : Below B w wa)
    (hown1 : w1.ownsRow B 5 1 v1 m ys) (hg : wa.grownBy w1 v.ownBlock) (hb1 : Blk w1 b 107 #[.int .i64 0, v]) :
    (Blk (w1.setCell ⟨b, 1, none⟩ v1) b 107 #[.int .i64 0, v1] ∧ (w1.setCell ⟨b, 1, none⟩ v1).ownsRow B 5 1 v1 m ys) ∧ Below B w (w1.setCell ⟨b, 1, none⟩ v1) := by
  refine ⟨⟨hb1.put 1 _, ownsRow_setCell_other hown1 (own_ne hown1 hb1 (by decide)) _⟩, ?_⟩
  have k : ∀ k, v.ownBlock = some k → B ≤ k := fun k hk => (hown.lt k hk).1
  by_cases hB : B ≤ w.heap.size
  · exact (ha.trans (below_of_only hg (Nat.le_trans hB ha.size) k)).setCell hb _
  · have := hblk.lt
    omega

theorem wbyte_any (B b : Nat) (n : Int) (t : ByteArray) (o : Option (List UInt8)) (w : World) (h : Wr w B b o) (hb : B ≤ b) (hB : B ≤ w.heap.size) (hl : ∀ l, o = some l → l.length ≤ 100000) :
    Calls Try.prog 50 #[.pointer (some ⟨b, 0, none⟩), .int .i64 n] w fun r w' => r = .returned (.tuple #[]) ∧ Wr w' B b (wrNext o 0 n t) ∧ Below B w w' := by
  obtain ⟨i0, hi0, hz0, hz1, hz2⟩ := info_parts u8_info
  cases o with
  | none =>
    have h' : Blk w b 107 #[.int .i64 2, .slice none 0 0] := h
    have H := Lib.hid h'
    clear h h' hl
    go_enter Try.func50, Try.ntmps50
    go_wp2_with (go_at_call 61; refine (takes_off _ _ _ _ H.out).mono ?_; rintro e w' ⟨rfl, rfl⟩)
    go_end0
    exact ⟨rfl, H.out, Below.refl _ _⟩
  | some l =>
    have hll := hl l rfl
    obtain ⟨v, hblk, hown⟩ := h
    clear hl
    by_cases hn : 0 ≤ n ∧ n ≤ 255
    · obtain ⟨h0, h1⟩ := hn
      have c0 : w.cell? ⟨b, 0, none⟩ = some (.int .i64 0) := hblk.cell 0
      have c1 : w.cell? ⟨b, 1, none⟩ = some v := hblk.cell 1
      have f1 := hblk.free 1
      have hlt := hblk.lt
      have hne := own_ne hown hblk (by decide)
      have HB := Lib.hid hblk
      have HO := Lib.hid hown
      have HN := Lib.hid hne
      clear hblk hown hne
      go_enter Try.func50, Try.ntmps50
      go_wp2_with (first | (go_at_call 61; refine (takes_yes _ _ _ _ c0 (by omega) (by omega)).mono ?_; rintro e w' ⟨rfl, rfl⟩) | (at_builtin; refine wpList_append_own _ rfl (.tmp 11) (.tmp 14) 94 rfl B 5 i0 (.int .u8 0) 1 1 Try.underlying94 hi0 hz0 hz1 hz2 rfl (by decide) _ _ _ rfl (HO.out.alloc _) ⟨w.heap.size, 0, none⟩ 1 1 [.int .u8 n] rfl rfl ?c1 ?c2 ?c3 ?c4 ?c5 ?_))
      case c1 =>
        intro j u hj
        match j, hj with
        | 0, hj => simp at hj; subst hj; simp [Addr.add]
      case c2 => intro u hu; simp at hu; subst hu; rfl
      case c3 => unfold maxLen; omega
      case c4 => omega
      case c5 => simp; omega
      · intro v1 w1 hown1 hg1 _
        have hb1 := (HB.out.alloc (.cells #[.int .u8 n] 5)).only hg1 (fun e => HN.out e.symm)
        have fin := wr_step HB.out hb HO.out ((Below.refl _ _).alloc hB (.cells #[.int .u8 n] 5)) hown1 hg1 hb1
        have FIN := Lib.hid fin
        have d1 : w1.cell? ⟨b, 1, none⟩ = some v := hb1.cell 1
        have e1 := hb1.free 1
        clear fin hb1 hown1 hg1 c0 c1 f1
        obtain ⟨A1, n1, rfl⟩ := own_form FIN.out.1.2
        go_wp2
        go_end0
        have hx : wrNext (some l) 0 n t = some (l ++ [UInt8.ofNat n.toNat]) := by simp [wrNext, stepBytes, h0, h1]
        have hy : byteCells l ++ [.int .u8 n] = byteCells (l ++ [UInt8.ofNat n.toNat]) := by
          have hz : ((UInt8.ofNat n.toNat).toNat : Int) = n := by simp; omega
          simp only [byteCells, List.map_append, List.map_cons, List.map_nil, hz]
        rw [hx]
        refine ⟨rfl, ?_, FIN.out.2⟩
        obtain ⟨q1, q2⟩ := FIN.out.1
        refine ⟨_, q1, ?_⟩
        rw [hy] at q2
        simpa using q2
    · have hx : wrNext (some l) 0 n t = none := by simp [wrNext, stepBytes, hn]
      have HX := Lib.hid hx
      have fin := Wr.none_of hblk hb hB
      have FIN := Lib.hid fin
      have HB := Lib.hid hblk
      clear hx fin hblk hown
      go_enter Try.func50, Try.ntmps50
      go_wp2_with (go_at_call 61; refine (takes_no _ _ _ _ _ HB.out (by omega)).mono ?_; rintro e w' ⟨rfl, rfl⟩)
      go_end0
      rw [HX.out]
      exact ⟨rfl, FIN.out⟩

theorem wtext_any (B b : Nat) (n : Int) (t : ByteArray) (d : Int) (o : Option (List UInt8)) (w : World) (h : Wr w B b o) (hb : B ≤ b) (hB : B ≤ w.heap.size) (hl : ∀ l, o = some l → l.length ≤ 100000) (ht : t.size ≤ 100) (hd0 : d ≠ 0) (hd1 : d ≠ 1) :
    Calls Try.prog 52 #[.pointer (some ⟨b, 0, none⟩), .string t] w fun r w' => r = .returned (.tuple #[]) ∧ Wr w' B b (wrNext o d n t) ∧ Below B w w' := by
  obtain ⟨i0, hi0, hz0, hz1, hz2⟩ := info_parts u8_info
  cases o with
  | none =>
    have h' : Blk w b 107 #[.int .i64 2, .slice none 0 0] := h
    have c0 : w.cell? ⟨b, 0, none⟩ = some (.int .i64 2) := h'.cell 0
    have H := Lib.hid h'
    clear h h' hl
    go_enter Try.func52, Try.ntmps52
    go_wp2_with (go_at_call 59; refine (failed_any _ _ _ _ c0).mono ?_; rintro e w' ⟨rfl, rfl⟩)
    go_end0
    exact ⟨rfl, H.out, Below.refl _ _⟩
  | some l =>
    have hll := hl l rfl
    obtain ⟨v, hblk, hown⟩ := h
    clear hl
    have hx : wrNext (some l) d n t = some (l ++ t.data.toList) := by simp [wrNext, stepBytes, hd0, hd1]
    have HX := Lib.hid hx
    have c0 : w.cell? ⟨b, 0, none⟩ = some (.int .i64 0) := hblk.cell 0
    have c1 : w.cell? ⟨b, 1, none⟩ = some v := hblk.cell 1
    have f1 := hblk.free 1
    have hlt := hblk.lt
    have hne := own_ne hown hblk (by decide)
    have HB := Lib.hid hblk
    have HO := Lib.hid hown
    have HN := Lib.hid hne
    clear hblk hown hne hx hd0 hd1
    go_enter Try.func52, Try.ntmps52
    go_wp2_with (first | (go_at_call 59; refine (failed_any _ _ _ _ c0).mono ?_; rintro e w' ⟨rfl, rfl⟩) | (at_builtin; refine wpList_append_own_string _ rfl (.tmp 17) (.tmp 18) 94 9 rfl B 5 i0 Try.underlying94 Try.underlying9 hi0 hz0 hz1 hz2 _ _ _ rfl HO.out t rfl ?c3 ?c4 ?c5 ?_))
    case c3 => unfold maxLen; omega
    case c4 => omega
    case c5 => omega
    · intro v1 w1 hown1 hg1 _
      have hb1 := HB.out.only hg1 (fun e => HN.out e.symm)
      have fin := wr_step HB.out hb HO.out (Below.refl B w) hown1 hg1 hb1
      have FIN := Lib.hid fin
      have d1 : w1.cell? ⟨b, 1, none⟩ = some v := hb1.cell 1
      have e1 := hb1.free 1
      clear fin hb1 hown1 hg1 c0 c1 f1
      obtain ⟨A1, n1, rfl⟩ := own_form FIN.out.1.2
      go_wp2
      go_end0
      rw [HX.out]
      refine ⟨rfl, ?_, FIN.out.2⟩
      obtain ⟨q1, q2⟩ := FIN.out.1
      refine ⟨_, q1, ?_⟩
      have hy : byteCells l ++ strCells t = byteCells (l ++ t.data.toList) := by simp [byteCells, strCells]
      rw [hy] at q2
      have hz : l.length + t.size = (l ++ t.data.toList).length := by simp
      rw [← hz]
      exact q2

/-- append of a string's bytes onto what the call owns, as1 one step of a region that draws. -/
theorem step_append_str {P : Program} {ops : Array Oper} {o : Oper} {a : Act} {w : World} {K : Act → World → Prop} {Q : Exit → Act → World → Prop} {E : Prop} (hgd : o.guard = none) (sl x : Operand) (t u : TypeId)
    (ho : o.op = .call { callee := .builtin .append, args := #[sl, x], argTypes := #[t, u] })
    (base : Nat) (e : TypeId) (i : TypeInfo) (ht : P.underlying t = some (.slice e)) (hu : P.underlying u = some .string) (hi : P.info? e = some i) (hz : i.zero = some (.int .u8 0))
    (hsize : i.size = 1) (hby : i.bytes = 1)
    (v : Value) (n : Nat) (xs : List Value) (hs : a.eval sl = v) (hown : w.ownsRow base e 1 v n xs) (s : ByteArray) (hx : a.eval x = .string s)
    (h63 : n + s.size ≤ maxLen) (hbytes : n + s.size ≤ 140737488355328) (hbase : base ≤ w.heap.size)
    (h : ∀ v' w', w'.ownsRow base e 1 v' (n + s.size) (xs ++ strCells s) → w.grownBy w' v.ownBlock → K (a.put o.dst v') w') :
    if Region.wanted o (yielded ops a.tmps) = true then Oper.wp P o a w K Q else E := by
  have hw : Region.wanted o (yielded ops a.tmps) = true := by simp [Region.wanted, hgd]
  rw [if_pos hw]
  obtain ⟨v', w', hr, h2, h3, h4⟩ := run_append_own_string (P := P) w base t u o.type e i ht hu hi hz hsize hby v n xs hown s h63 hbytes hbase
  unfold Oper.wp execOp
  simp only [ho, resolve, invoke, builtin, Sem.run_bind, Sem.run_pure, Result.andThen_ok, List.map_toArray, List.map_cons, List.map_nil, hs, hx, hr]
  exact h v' w' h2 h3

theorem put_bytes (n : Int) : (Bt.put n).size = 2 := rfl

/-- The error of what steps write. -/
def errOf (o : Option (List UInt8)) : Int := if o.isSome then 0 else 2
/-- The bytes of what steps write. -/
def textFor (o : Option (List UInt8)) : ByteArray := ⟨(o.getD []).toArray⟩

theorem werr_any (B b : Nat) (o : Option (List UInt8)) (w : World) (h : Wr w B b o) :
    Calls Try.prog 51 #[.pointer (some ⟨b, 0, none⟩)] w fun r w' => r = .returned (.int .i64 (errOf o)) ∧ w = w' := by
  have key : ∀ e : Int, w.cell? ⟨b, 0, none⟩ = some (.int .i64 e) → Calls Try.prog 51 #[.pointer (some ⟨b, 0, none⟩)] w fun r w' => r = .returned (.int .i64 e) ∧ w = w' := by
    intro e c0
    go_enter Try.func51, Try.ntmps51
    go_wp2
    go_ret
    exact ⟨rfl, rfl⟩
  cases o with
  | none =>
    have h' : Blk w b 107 #[.int .i64 2, .slice none 0 0] := h
    exact key 2 (h'.cell 0)
  | some l =>
    obtain ⟨v, hblk, _⟩ := h
    exact key 0 (hblk.cell 0)

theorem strOfNums_bytes (l : List UInt8) : strOfNums (l.map fun b => (b.toNat : Int)) = ⟨l.toArray⟩ := by
  have h : strOfNums (l.map fun b => (b.toNat : Int)) = (l.map fun b => (b.toNat : Int)).foldl (fun r n => r.push (UInt8.ofNat n.toNat)) ByteArray.empty := by
    rw [foldl_push_bytes]
    simp [strOfNums]
  rw [h, foldl_push_byteCells]
  simp

theorem wbytes_any (B b : Nat) (o : Option (List UInt8)) (w : World) (h : Wr w B b o) :
    Calls Try.prog 54 #[.pointer (some ⟨b, 0, none⟩)] w fun r w' => r = .returned (.string (textFor o)) ∧ w = w' := by
  cases o with
  | none =>
    have h' : Blk w b 107 #[.int .i64 2, .slice none 0 0] := h
    have c0 : w.cell? ⟨b, 0, none⟩ = some (.int .i64 2) := h'.cell 0
    clear h h'
    go_enter Try.func54, Try.ntmps54
    go_wp2_with (go_at_call 59; refine (failed_any _ _ _ _ c0).mono ?_; rintro e w' ⟨rfl, rfl⟩)
    go_ret
    exact ⟨rfl, rfl⟩
  | some l =>
    obtain ⟨v, hblk, hown⟩ := h
    have c0 : w.cell? ⟨b, 0, none⟩ = some (.int .i64 0) := hblk.cell 0
    have c1 : w.cell? ⟨b, 1, none⟩ = some v := hblk.cell 1
    have hconv : (convert 94 9 v).run Try.prog w = .ok (.string ⟨l.toArray⟩) w := by
      rcases hown.2 with ⟨rfl, h0⟩ | ⟨g, cap, cur, rfl, _, _, _⟩
      · have hl : l = [] := List.eq_nil_of_length_eq_zero h0
        subst hl
        rw [run_convert_bytes_nil w 94 5 Try.underlying94 Try.underlying5 0 0 9 Try.underlying9]
        rfl
      · rw [run_convert_bytes_arg (P := Try.prog) w 94 5 Try.underlying94 Try.underlying5 g 0 l.length cap (l.map fun b => (b.toNat : Int)) (by simp) (by
          intro i hi
          have := hown.cellAt (g := g) (n := l.length) (cap := cap) i (by omega)
          rw [Nat.zero_add, this]
          simp [byteCells, List.getElem?_eq_getElem hi]) 9 Try.underlying9, strOfNums_bytes]
    obtain ⟨A1, n1, rfl⟩ := own_form hown
    clear hblk hown
    go_enter Try.func54, Try.ntmps54
    go_wp2_with (go_at_call 59; refine (failed_any _ _ _ _ c0).mono ?_; rintro e w' ⟨rfl, rfl⟩)
    go_ret
    exact ⟨rfl, rfl⟩
end Go.Proofs.Ytjhihccjhnlghaa

/- Frames as1 bytes: the document's answers in plain form, and Print and Size by their contracts. -/
namespace Go.Proofs.Ytjhihccjhnlghaa
open Go.RowKit Go.Lib
set_option linter.unusedVariables false

namespace Fr
/-- What stands ahead of the data. -/
def hd (t f : Int) (d : ByteArray) : ByteArray := ⟨#[UInt8.ofNat t.toNat, UInt8.ofNat f.toNat, UInt8.ofNat d.size]⟩
/-- A frame as1 bytes, or why it has none. -/
def prV (t f : Int) (d : ByteArray) : ByteArray × Int := if t < 0 ∨ 255 < t ∨ f < 0 ∨ 255 < f then (⟨#[]⟩, 2) else if 32 < d.size then (⟨#[]⟩, 4) else (Cr.sealed (hd t f d ++ d), 0)
def szV (n : Int) : Int := if 0 ≤ n ∧ n ≤ 32 then n + 5 else 0

theorem hd_size (t f : Int) (d : ByteArray) : (hd t f d).size = 3 := rfl
theorem ok_of {t f : Int} {d : ByteArray} (ht0 : 0 ≤ t) (ht1 : t ≤ 255) (hf0 : 0 ≤ f) (hf1 : f ≤ 255) (hd : d.size ≤ 32) : prV t f d = (Cr.sealed (Fr.hd t f d ++ d), 0) := by
  rw [prV, if_neg (by omega), if_neg (by omega)]
theorem limit_of {t f : Int} {d : ByteArray} (ht0 : 0 ≤ t) (ht1 : t ≤ 255) (hf0 : 0 ≤ f) (hf1 : f ≤ 255) (hd : 32 < d.size) : prV t f d = (⟨#[]⟩, 4) := by
  rw [prV, if_neg (by omega), if_pos (by omega)]
theorem arg_of {t f : Int} {d : ByteArray} (h : t < 0 ∨ 255 < t ∨ f < 0 ∨ 255 < f) : prV t f d = (⟨#[]⟩, 2) := by
  rw [prV, if_pos h]
end Fr

theorem size_any (n : Int) (w : World) : Calls Try.prog 45 #[.int .i64 n] w fun e w' => e = .returned (.int .i64 (Fr.szV n)) ∧ w = w' := by
  by_cases h0 : n < 0
  · have hv := Lib.hid (show Fr.szV n = 0 by rw [Fr.szV, if_neg (by omega)])
    go_enter Try.func45, Try.ntmps45
    go_wp2
    go_ret
    exact ⟨ret_int hv.out.symm, rfl⟩
  · by_cases h1 : 32 < n
    · have hv := Lib.hid (show Fr.szV n = 0 by rw [Fr.szV, if_neg (by omega)])
      go_enter Try.func45, Try.ntmps45
      go_wp2
      go_ret
      exact ⟨ret_int hv.out.symm, rfl⟩
    · have hv := Lib.hid (show Fr.szV n = n + 5 by rw [Fr.szV, if_pos (by omega)])
      go_enter Try.func45, Try.ntmps45
      go_wp2
      go_ret
      exact ⟨ret_int (by rw [hv.out]; omega), rfl⟩

section
variable {B b : Nat} {l : List UInt8} {w : World}
theorem wgood (n : Int) (h : Wr w B b (some l)) (hb : B ≤ b) (hB : B ≤ w.heap.size) (hl : l.length ≤ 1000) (h0 : 0 ≤ n) (h1 : n ≤ 255) :
    Calls Try.prog 50 #[.pointer (some ⟨b, 0, none⟩), .int .i64 n] w fun r w' => r = .returned (.tuple #[]) ∧ Wr w' B b (some (l ++ [UInt8.ofNat n.toNat])) ∧ Below B w w' := by
  have hx : wrNext (some l) 0 n .empty = some (l ++ [UInt8.ofNat n.toNat]) := by simp [wrNext, stepBytes, h0, h1]
  have := wbyte_any B b n .empty (some l) w h hb hB (fun l' e => by injection e with e; subst e; omega)
  rw [hx] at this
  exact this
theorem wbad (n : Int) (h : Wr w B b (some l)) (hb : B ≤ b) (hB : B ≤ w.heap.size) (hl : l.length ≤ 1000) (h0 : n < 0 ∨ 255 < n) :
    Calls Try.prog 50 #[.pointer (some ⟨b, 0, none⟩), .int .i64 n] w fun r w' => r = .returned (.tuple #[]) ∧ Wr w' B b none ∧ Below B w w' := by
  have hx : wrNext (some l) 0 n .empty = none := by
    have : ¬ (0 ≤ n ∧ n ≤ 255) := by omega
    simp [wrNext, stepBytes, this]
  have := wbyte_any B b n .empty (some l) w h hb hB (fun l' e => by injection e with e; subst e; omega)
  rw [hx] at this
  exact this
theorem wnone (n : Int) (h : Wr w B b none) (hb : B ≤ b) (hB : B ≤ w.heap.size) :
    Calls Try.prog 50 #[.pointer (some ⟨b, 0, none⟩), .int .i64 n] w fun r w' => r = .returned (.tuple #[]) ∧ Wr w' B b none ∧ Below B w w' :=
  wbyte_any B b n .empty none w h hb hB (fun l' e => by cases e)
theorem wtext (t : ByteArray) (h : Wr w B b (some l)) (hb : B ≤ b) (hB : B ≤ w.heap.size) (hl : l.length ≤ 1000) (ht : t.size ≤ 100) :
    Calls Try.prog 52 #[.pointer (some ⟨b, 0, none⟩), .string t] w fun r w' => r = .returned (.tuple #[]) ∧ Wr w' B b (some (l ++ t.data.toList)) ∧ Below B w w' := by
  have hx : wrNext (some l) 2 0 t = some (l ++ t.data.toList) := by simp [wrNext, stepBytes]
  have := wtext_any B b 0 t 2 (some l) w h hb hB (fun l' e => by injection e with e; subst e; omega) ht (by decide) (by decide)
  rw [hx] at this
  exact this
theorem werr_ok (h : Wr w B b (some l)) : Calls Try.prog 51 #[.pointer (some ⟨b, 0, none⟩)] w fun r w' => r = .returned (.int .i64 0) ∧ w = w' := werr_any B b _ w h
theorem werr_no (h : Wr w B b none) : Calls Try.prog 51 #[.pointer (some ⟨b, 0, none⟩)] w fun r w' => r = .returned (.int .i64 2) ∧ w = w' := werr_any B b _ w h
theorem wall (h : Wr w B b (some l)) : Calls Try.prog 54 #[.pointer (some ⟨b, 0, none⟩)] w fun r w' => r = .returned (.string ⟨l.toArray⟩) ∧ w = w' := wbytes_any B b _ w h
theorem wnew (w : World) (hB : B = w.heap.size) : Wr (w.alloc (.cells #[.int .i64 0, .slice none 0 0] 107)) B B (some []) := ⟨.slice none 0 0, by rw [hB]; exact Blk.new _ _ _, World.ownsRow_nil _ _ _ _⟩
end

theorem run_three_bytes (x y z : Int) (W : World) : (convert 94 9 (.slice (some ⟨W.heap.size, 0, none⟩) 3 3)).run Try.prog (W.alloc (.cells #[.int .u8 x, .int .u8 y, .int .u8 z] 5)) =
    .ok (.string ⟨#[UInt8.ofNat x.toNat, UInt8.ofNat y.toNat, UInt8.ofNat z.toNat]⟩) (W.alloc (.cells #[.int .u8 x, .int .u8 y, .int .u8 z] 5)) := by
  have h := run_convert_bytes_arg (P := Try.prog) (W.alloc (.cells #[.int .u8 x, .int .u8 y, .int .u8 z] 5)) 94 5 Try.underlying94 Try.underlying5 W.heap.size 0 3 3 [x, y, z] rfl (by
    intro i hi
    match i, hi with
    | 0, _ => simp
    | 1, _ => simp
    | 2, _ => simp) 9 Try.underlying9
  rw [h]
  congr 2

set_option maxRecDepth 20000 in
theorem rprint_any (t f : Int) (d : ByteArray) (w : World) (hd : d.size ≤ 200) : Calls Try.prog 26 #[.agg #[.int .i64 t, .int .i64 f, .string d]] w fun e w' => e = .returned (.tuple #[.string (Fr.prV t f d).1, .int .i64 (Fr.prV t f d).2]) ∧ Below w.heap.size w w' := by
  have one : ∀ o, Below w.heap.size w (w.alloc o) := fun o => (Below.refl _ _).alloc (Nat.le_refl _) _
  by_cases hbad : t < 0 ∨ 255 < t ∨ f < 0 ∨ 255 < f
  · have hv := Lib.hid (Fr.arg_of (d := d) hbad)
    by_cases h0 : t < 0
    · clear hbad
      go_enter Try.func26, Try.ntmps26
      go_wp2
      go_ret2
      rw [hv.out]
      exact ⟨rfl, one _⟩
    · by_cases h1 : 255 < t
      · clear hbad
        go_enter Try.func26, Try.ntmps26
        go_wp2
        go_ret2
        rw [hv.out]
        exact ⟨rfl, one _⟩
      · by_cases h2 : f < 0
        · clear hbad
          go_enter Try.func26, Try.ntmps26
          go_wp2
          go_ret2
          rw [hv.out]
          exact ⟨rfl, one _⟩
        · have h3 : 255 < f := by omega
          clear hbad
          go_enter Try.func26, Try.ntmps26
          go_wp2
          go_ret2
          rw [hv.out]
          exact ⟨rfl, one _⟩
  · have t0 : 0 ≤ t := by omega
    have t1 : t ≤ 255 := by omega
    have f0 : 0 ≤ f := by omega
    have f1 : f ≤ 255 := by omega
    clear hbad
    by_cases h32 : (32 : Int) < (d.size : Int)
    · have hv := Lib.hid (Fr.limit_of (d := d) t0 t1 f0 f1 (by omega))
      go_enter Try.func26, Try.ntmps26
      go_wp2
      go_ret2
      rw [hv.out]
      exact ⟨rfl, one _⟩
    · have hv := Lib.hid (Fr.ok_of (d := d) t0 t1 f0 f1 (by omega))
      have hk : (convert 94 9 (.slice (some ⟨w.heap.size + 1, 0, none⟩) 3 3)).run Try.prog ((w.alloc (.cells #[.int .i64 t, .int .i64 f, .string d] 73)).alloc (.cells #[.int .u8 t, .int .u8 f, .int .u8 (d.size : Int)] 5)) = .ok (.string (Fr.hd t f d)) ((w.alloc (.cells #[.int .i64 t, .int .i64 f, .string d] 73)).alloc (.cells #[.int .u8 t, .int .u8 f, .int .u8 (d.size : Int)] 5)) := by
        have := run_three_bytes t f (d.size : Int) (w.alloc (.cells #[.int .i64 t, .int .i64 f, .string d] 73))
        rw [show UInt8.ofNat (d.size : Int).toNat = UInt8.ofNat d.size by rw [Int.toNat_natCast]] at this
        simpa [Fr.hd] using this
      have e0 : IntKind.u8.wrap t = t := by rw [IntKind.wrap_u8]; omega
      have e1 : IntKind.u8.wrap f = f := by rw [IntKind.wrap_u8]; omega
      have e2 : IntKind.u8.wrap (d.size : Int) = (d.size : Int) := by rw [IntKind.wrap_u8]; omega
      have hz := Fr.hd_size t f d
      have hcat : ¬ 9223372036854775807 < (Fr.hd t f d).size + d.size := by omega
      have hsm : (Fr.hd t f d ++ d).size ≤ 1000 := by rw [ByteArray.size_append]; omega
      have HS := Lib.hid (fun w => rseal_any (Fr.hd t f d ++ d) w hsm)
      have HB := Lib.hid (show Below w.heap.size w ((w.alloc (.cells #[.int .i64 t, .int .i64 f, .string d] 73)).alloc (.cells #[.int .u8 t, .int .u8 f, .int .u8 (d.size : Int)] 5)) from (one _).alloc (by simp) _)
      generalize Fr.hd t f d = x at *
      clear hsm hz one
      go_enter Try.func26, Try.ntmps26
      go_wp2_with (first | (go_at_call 40; with_reducible refine (HS.out _).mono ?_; rintro e w1 ⟨rfl, b1⟩))
      go_ret2
      rw [hv.out]
      exact ⟨rfl, HB.out.trans (b1.mono HB.out.size)⟩
end Go.Proofs.Ytjhihccjhnlghaa
