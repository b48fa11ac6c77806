import Derived.Test.YtldhggaghhjebaaZ01
import Derived.Lib.AppendStr
import Derived.Deep.RegionLaw
import Derived.Deep.RegionHeld3
import Derived.Deep.Cut
import Derived.Lib.QuietBelow
import Derived.BigQuiet
import Derived.Deep.RegionWith
set_option linter.all false
/- The reader of package bits: each call by its contract. -/
namespace Go.Proofs.Ytldhggaghhjebaa
open Go.RowKit Go.Lib
set_option linter.unusedVariables false

/-- What Text(n) does of a reader that stands at p of s, with the error e: the answer, the place, the error. -/
def rdText (s : ByteArray) (p : Nat) (e n : Int) : ByteArray × Nat × Int :=
  if e ≠ 0 then (.empty, p, e) else if n < 0 then (.empty, p, 2) else if (s.size : Int) - p < n then (.empty, p, 5) else (s.extract p (p + n.toNat), p + n.toNat, 0)

/-- A reader lies in block b. -/
def Rd (w : World) (b : Nat) (s : ByteArray) (p : Nat) (e : Int) : Prop := Blk w b 63 #[.int .i64 e, .string s, .int .i64 p]

theorem failed_any (b o : Nat) (e : Int) (w : World) (h : w.cell? ⟨b, o, none⟩ = some (.int .i64 e)) : Calls Try.prog 38 #[.pointer (some ⟨b, o, none⟩)] w fun r w' => r = .returned (.bool (e != 0)) ∧ w = w' := by
  go_enter Try.func38, Try.ntmps38
  go_wp2
  go_ret
  exact ⟨rfl, rfl⟩

theorem fail_any (b o : Nat) (e v : Int) (w : World) (h : w.cell? ⟨b, o, none⟩ = some (.int .i64 e)) (hf : w.frozen? ⟨b, o, none⟩ = false) : Calls Try.prog 40 #[.pointer (some ⟨b, o, none⟩), .int .i64 v] w fun r w' => r = .returned (.tuple #[]) ∧ w.setCell ⟨b, o, none⟩ (.int .i64 v) = w' := by
  go_enter Try.func40, Try.ntmps40
  go_wp2
  go_end0
  exact ⟨rfl, rfl⟩

theorem text_any (b : Nat) (s : ByteArray) (p : Nat) (e n : Int) (w : World) (h : Rd w b s p e) (hp : p ≤ s.size) (hs : s.size ≤ 9223372036854775807) :
    Calls Try.prog 39 #[.pointer (some ⟨b, 0, none⟩), .int .i64 n] w fun r w' => r = .returned (.string (rdText s p e n).1) ∧ Rd w' b s (rdText s p e n).2.1 (rdText s p e n).2.2 ∧ w.grownBy w' (some b) := by
  have c0 : w.cell? ⟨b, 0, none⟩ = some (.int .i64 e) := h.cell 0
  have c1 : w.cell? ⟨b, 1, none⟩ = some (.string s) := h.cell 1
  have c2 : w.cell? ⟨b, 2, none⟩ = some (.int .i64 p) := h.cell 2
  have f0 := h.free 0
  have f2 := h.free 2
  have H := Lib.hid h
  clear h
  by_cases he : e = 0
  · subst he
    by_cases hn : n < 0
    · go_enter Try.func39, Try.ntmps39
      go_wp2_with (first | (go_at_call 38; refine (failed_any _ _ _ _ c0).mono ?_; rintro e w' ⟨rfl, rfl⟩) | (go_at_call 40; refine (fail_any _ _ 0 _ _ (by simpa using c0) (by simpa using f0)).mono ?_; rintro e w' ⟨rfl, rfl⟩))
      go_ret
      have hx : rdText s p 0 n = (.empty, p, 2) := by simp [rdText, hn]
      rw [hx]
      exact ⟨rfl, H.out.put 0 _, only_put (only_refl _ _) _ _⟩
    · by_cases hm : (s.size : Int) - p < n
      · go_enter Try.func39, Try.ntmps39
        go_wp2_with (first | (go_at_call 38; refine (failed_any _ _ _ _ c0).mono ?_; rintro e w' ⟨rfl, rfl⟩) | (go_at_call 40; refine (fail_any _ _ 0 _ _ (by simpa using c0) (by simpa using f0)).mono ?_; rintro e w' ⟨rfl, rfl⟩))
        go_quiet (fail)
        go_wp2_with (first | (go_at_call 38; refine (failed_any _ _ _ _ c0).mono ?_; rintro e w' ⟨rfl, rfl⟩) | (go_at_call 40; refine (fail_any _ _ 0 _ _ (by simpa using c0) (by simpa using f0)).mono ?_; rintro e w' ⟨rfl, rfl⟩))
        go_ret
        have hx : rdText s p 0 n = (.empty, p, 5) := by simp [rdText, hn, hm]
        rw [hx]
        exact ⟨rfl, (H.out.drewN nq).put 0 _, only_put (only_drewN (only_refl _ _) nq) _ _⟩
      · obtain ⟨k, rfl⟩ := Int.eq_ofNat_of_zero_le (show 0 ≤ n by omega)
        go_enter Try.func39, Try.ntmps39
        go_wp2_with (first | (go_at_call 38; refine (failed_any _ _ _ _ c0).mono ?_; rintro e w' ⟨rfl, rfl⟩) | (go_at_call 40; refine (fail_any _ _ 0 _ _ (by simpa using c0) (by simpa using f0)).mono ?_; rintro e w' ⟨rfl, rfl⟩))
        go_quiet (fail)
        go_wp2_with (first | (go_at_call 38; refine (failed_any _ _ _ _ c0).mono ?_; rintro e w' ⟨rfl, rfl⟩) | (go_at_call 40; refine (fail_any _ _ 0 _ _ (by simpa using c0) (by simpa using f0)).mono ?_; rintro e w' ⟨rfl, rfl⟩))
        go_quiet (fail)
        go_wp2
        go_ret
        have hx : rdText s p 0 (k : Int) = (s.extract p (p + k), p + k, 0) := by
          rw [rdText, if_neg (by omega), if_neg (by omega), if_neg (by omega)]
          simp
        rw [hx]
        refine ⟨rfl, ?_, only_drewN (only_put (only_drewN (only_refl _ _) _) _ _) _⟩
        exact ((H.out.drewN _).put 2 _).drewN _
  · have he' : (e != 0) = true := by simpa using he
    go_enter Try.func39, Try.ntmps39
    go_wp2_with (first | (go_at_call 38; refine (failed_any _ _ _ _ c0).mono ?_; rintro e w' ⟨rfl, rfl⟩) | (go_at_call 40; refine (fail_any _ _ 0 _ _ (by simpa using c0) (by simpa using f0)).mono ?_; rintro e w' ⟨rfl, rfl⟩))
    go_ret
    have hx : rdText s p e n = (.empty, p, e) := by simp [rdText, he]
    rw [hx]
    exact ⟨rfl, H.out, only_refl _ _⟩


/-- What Byte() and Two() tell of the bytes that were read. -/
def byteOf (t : ByteArray) : Int := if h : 0 < t.size then (t[0].toNat : Int) else 0
def twoOf (t : ByteArray) : Int := if h : 1 < t.size then (t[0].toNat : Int) + (256 : Int) * (t[1].toNat : Int) else 0

theorem byte_any (b : Nat) (s : ByteArray) (p : Nat) (e : Int) (w : World) (h : Rd w b s p e) (hp : p ≤ s.size) (hs : s.size ≤ 9223372036854775807) :
    Calls Try.prog 25 #[.pointer (some ⟨b, 0, none⟩)] w fun r w' => r = .returned (.int .i64 (byteOf (rdText s p e 1).1)) ∧ Rd w' b s (rdText s p e 1).2.1 (rdText s p e 1).2.2 ∧ w.grownBy w' (some b) := by
  have ht := text_any b s p e 1 w h hp hs
  generalize rdText s p e 1 = x at ht ⊢
  obtain ⟨t, p', e'⟩ := x
  have HT := Lib.hid ht
  clear ht h
  by_cases hb : 0 < t.size
  · have hb' : (byteOf t) = (t[0].toNat : Int) := by simp [byteOf, hb]
    have HB := Lib.hid hb'
    clear hb'
    go_enter Try.func25, Try.ntmps25
    go_wp2_with (go_at_call 39; refine HT.out.mono ?_; rintro e w1 ⟨rfl, h1, h2⟩)
    go_ret
    exact ⟨ret_int (by rw [HB.out, w64_byte]), h1, h2⟩
  · have hb' : (byteOf t) = 0 := by simp [byteOf, hb]
    have HB := Lib.hid hb'
    have hz : t.size = 0 := by omega
    clear hb'
    go_enter Try.func25, Try.ntmps25
    go_wp2_with (go_at_call 39; refine HT.out.mono ?_; rintro e w1 ⟨rfl, h1, h2⟩)
    go_ret
    exact ⟨ret_int (by rw [HB.out]), h1, h2⟩

theorem rtwo_bytes (t : ByteArray) (h : 1 < t.size) : twoOf t = ((t[0].toNat : Int) % (256 : Int) + (256 : Int) * ((t[1].toNat : Int) % (256 : Int))) := by
  have h0 := t[0].toNat_lt
  have h1 := t[1].toNat_lt
  simp only [twoOf, h, dite_true]
  omega

theorem rdtwo_any (b : Nat) (s : ByteArray) (p : Nat) (e : Int) (w : World) (h : Rd w b s p e) (hp : p ≤ s.size) (hs : s.size ≤ 9223372036854775807) :
    Calls Try.prog 26 #[.pointer (some ⟨b, 0, none⟩)] w fun r w' => r = .returned (.int .i64 (twoOf (rdText s p e 2).1)) ∧ Rd w' b s (rdText s p e 2).2.1 (rdText s p e 2).2.2 ∧ w.grownBy w' (some b) := by
  have ht := text_any b s p e 2 w h hp hs
  generalize rdText s p e 2 = x at ht ⊢
  obtain ⟨t, p', e'⟩ := x
  have HT := Lib.hid ht
  clear ht h
  by_cases hb : 1 < t.size
  · have hb' := rtwo_bytes t hb
    have i0 : (0 : Int) < (t.size : Int) := by omega
    have i1 : (1 : Int) < (t.size : Int) := by omega
    have j0 : 0 < t.size := by omega
    have HB := Lib.hid hb'
    clear hb'
    go_enter Try.func26, Try.ntmps26
    go_wp2_with (first | (go_at_call 39; refine HT.out.mono ?_; rintro e w1 ⟨rfl, h1, h2⟩) | (go_at_call 30; refine (two_any _ _ _).mono ?_; rintro e w2 ⟨rfl, rfl⟩))
    go_quiet ((go_at_call 30; exact quiet_same (two_any _ _ _)))
    go_wp2
    go_ret
    exact ⟨ret_int (by rw [HB.out, w64_byte, w64_byte]), h1.drewN _, only_drewN h2 _⟩
  · have hb' : (twoOf t) = 0 := by simp [twoOf, hb]
    have HB := Lib.hid hb'
    have hz : t.size < 2 := by omega
    clear hb'
    go_enter Try.func26, Try.ntmps26
    go_wp2_with (first | (go_at_call 39; refine HT.out.mono ?_; rintro e w1 ⟨rfl, h1, h2⟩) | (go_at_call 30; refine (two_any _ _ _).mono ?_; rintro e w2 ⟨rfl, rfl⟩))
    go_ret
    exact ⟨ret_int (by rw [HB.out]), h1, h2⟩

theorem err_any (b : Nat) (s : ByteArray) (p : Nat) (e : Int) (w : World) (h : Rd w b s p e) :
    Calls Try.prog 27 #[.pointer (some ⟨b, 0, none⟩)] w fun r w' => r = .returned (.int .i64 e) ∧ w = w' := by
  have c0 : w.cell? ⟨b, 0, none⟩ = some (.int .i64 e) := h.cell 0
  clear h
  go_enter Try.func27, Try.ntmps27
  go_wp2
  go_ret
  exact ⟨rfl, rfl⟩

def leftOf (s : ByteArray) (p : Nat) (e : Int) : Int := if e = 0 then (s.size : Int) - p else 0

end Go.Proofs.Ytldhggaghhjebaa

/- The writer of package bits: each call by its contract. -/
namespace Go.Proofs.Ytldhggaghhjebaa
open Go.RowKit Go.Lib
set_option linter.unusedVariables false
set_option maxRecDepth 4000

def byteCells (l : List UInt8) : List Value := l.map fun b => .int .u8 (b.toNat : Int)

/-- A writer lies in block b; what it has written lies in a block from B on. -/
def Wr (w : World) (B b : Nat) : Option (List UInt8) → Prop
  | some l => ∃ v, Blk w b 45 #[.int .i64 0, v] ∧ w.ownsRow B 5 1 v l.length (byteCells l)
  | none => Blk w b 45 #[.int .i64 2, .slice none 0 0]

/-- The bytes that a step writes, or that it cannot be written. -/
def stepBytes (d n : Int) (t : ByteArray) : Option (List UInt8) :=
  if d = 0 then (if 0 ≤ n ∧ n ≤ 255 then some [UInt8.ofNat n.toNat] else none)
  else if d = 1 then (if 0 ≤ n ∧ n ≤ 65535 then some (Bt.put n).data.toList else none)
  else some t.data.toList
def wrNext (o : Option (List UInt8)) (d n : Int) (t : ByteArray) : Option (List UInt8) := o.bind fun l => (stepBytes d n t).map fun x => l ++ x

theorem takes_yes (b : Nat) (n m : Int) (w : World) (c0 : w.cell? ⟨b, 0, none⟩ = some (.int .i64 0)) (h0 : 0 ≤ n) (h1 : n ≤ m) :
    Calls Try.prog 36 #[.pointer (some ⟨b, 0, none⟩), .int .i64 n, .int .i64 m] w fun r w' => r = .returned (.bool true) ∧ w = w' := by
  go_enter Try.func36, Try.ntmps36
  go_wp2_with (go_at_call 38; refine (failed_any _ _ _ _ c0).mono ?_; rintro e w' ⟨rfl, rfl⟩)
  go_ret
  exact ⟨rfl, rfl⟩

theorem takes_off (b : Nat) (n m : Int) (w : World) (h : Blk w b 45 #[.int .i64 2, .slice none 0 0]) :
    Calls Try.prog 36 #[.pointer (some ⟨b, 0, none⟩), .int .i64 n, .int .i64 m] w fun r w' => r = .returned (.bool false) ∧ w = w' := by
  have c0 : w.cell? ⟨b, 0, none⟩ = some (.int .i64 2) := h.cell 0
  clear h
  go_enter Try.func36, Try.ntmps36
  go_wp2_with (go_at_call 38; refine (failed_any _ _ _ _ c0).mono ?_; rintro e w' ⟨rfl, rfl⟩)
  go_ret
  exact ⟨rfl, rfl⟩

theorem takes_no (b : Nat) (n m : Int) (v : Value) (w : World) (h : Blk w b 45 #[.int .i64 0, v]) (hn : n < 0 ∨ m < n) :
    Calls Try.prog 36 #[.pointer (some ⟨b, 0, none⟩), .int .i64 n, .int .i64 m] w fun r w' => r = .returned (.bool false) ∧ (w.setCell ⟨b, 0, none⟩ (.int .i64 2)).setCell ⟨b, 1, none⟩ (.slice none 0 0) = w' := by
  have c0 : w.cell? ⟨b, 0, none⟩ = some (.int .i64 0) := h.cell 0
  have c1 : w.cell? ⟨b, 1, none⟩ = some v := h.cell 1
  have f0 := h.free 0
  have f1 := h.free 1
  clear h
  by_cases h0 : n < 0
  · go_enter Try.func36, Try.ntmps36
    go_wp2_with (first | (go_at_call 38; refine (failed_any _ _ _ _ c0).mono ?_; rintro e w' ⟨rfl, rfl⟩) | (go_at_call 40; refine (fail_any _ _ _ _ _ c0 f0).mono ?_; rintro e w' ⟨rfl, rfl⟩))
    go_ret
    exact ⟨rfl, rfl⟩
  · have h1 : m < n := by omega
    clear hn
    go_enter Try.func36, Try.ntmps36
    go_wp2_with (first | (go_at_call 38; refine (failed_any _ _ _ _ c0).mono ?_; rintro e w' ⟨rfl, rfl⟩) | (go_at_call 40; refine (fail_any _ _ _ _ _ c0 f0).mono ?_; rintro e w' ⟨rfl, rfl⟩))
    go_ret
    exact ⟨rfl, rfl⟩

theorem u8_info : (Try.prog.info? 5).map (fun i => (i.zero, i.size, i.bytes)) = some (some (.int .u8 0), 1, 1) := by kernel_rfl

theorem Wr.none_of {w : World} {B b : Nat} {v : Value} (h : Blk w b 45 #[.int .i64 0, v]) (hb : B ≤ b) (hB : B ≤ w.heap.size) :
    Wr ((w.setCell ⟨b, 0, none⟩ (.int .i64 2)).setCell ⟨b, 1, none⟩ (.slice none 0 0)) B b none ∧ Below B w ((w.setCell ⟨b, 0, none⟩ (.int .i64 2)).setCell ⟨b, 1, none⟩ (.slice none 0 0)) :=
  ⟨(h.put 0 _).put 1 _, ((Below.refl _ _).setCell hb _).setCell hb _⟩

/-- What an append onto what was written, and its store, leave. -/
theorem wr_step {w wa w1 : World} {B b n m : Nat} {v v1 : Value} {xs ys : List Value} (hblk : Blk w b 45 #[.int .i64 0, v]) (hb : B ≤ b) (hown : w.ownsRow B 5 1 v n xs) (ha : Below B w wa)
    (hown1 : w1.ownsRow B 5 1 v1 m ys) (hg : wa.grownBy w1 v.ownBlock) (hb1 : Blk w1 b 45 #[.int .i64 0, v]) :
    (Blk (w1.setCell ⟨b, 1, none⟩ v1) b 45 #[.int .i64 0, v1] ∧ (w1.setCell ⟨b, 1, none⟩ v1).ownsRow B 5 1 v1 m ys) ∧ Below B w (w1.setCell ⟨b, 1, none⟩ v1) := by
  refine ⟨⟨hb1.put 1 _, ownsRow_setCell_other hown1 (own_ne hown1 hb1 (by decide)) _⟩, ?_⟩
  have k : ∀ k, v.ownBlock = some k → B ≤ k := fun k hk => (hown.lt k hk).1
  by_cases hB : B ≤ w.heap.size
  · exact (ha.trans (below_of_only hg (Nat.le_trans hB ha.size) k)).setCell hb _
  · have := hblk.lt
    omega

theorem wbyte_any (B b : Nat) (n : Int) (t : ByteArray) (o : Option (List UInt8)) (w : World) (h : Wr w B b o) (hb : B ≤ b) (hB : B ≤ w.heap.size) (hl : ∀ l, o = some l → l.length ≤ 100000) :
    Calls Try.prog 19 #[.pointer (some ⟨b, 0, none⟩), .int .i64 n] w fun r w' => r = .returned (.tuple #[]) ∧ Wr w' B b (wrNext o 0 n t) ∧ Below B w w' := by
  obtain ⟨i0, hi0, hz0, hz1, hz2⟩ := info_parts u8_info
  cases o with
  | none =>
    have h' : Blk w b 45 #[.int .i64 2, .slice none 0 0] := h
    have H := Lib.hid h'
    clear h h' hl
    go_enter Try.func19, Try.ntmps19
    go_wp2_with (go_at_call 36; refine (takes_off _ _ _ _ H.out).mono ?_; rintro e w' ⟨rfl, rfl⟩)
    go_end0
    exact ⟨rfl, H.out, Below.refl _ _⟩
  | some l =>
    have hll := hl l rfl
    obtain ⟨v, hblk, hown⟩ := h
    clear hl
    by_cases hn : 0 ≤ n ∧ n ≤ 255
    · obtain ⟨h0, h1⟩ := hn
      have c0 : w.cell? ⟨b, 0, none⟩ = some (.int .i64 0) := hblk.cell 0
      have c1 : w.cell? ⟨b, 1, none⟩ = some v := hblk.cell 1
      have f1 := hblk.free 1
      have hlt := hblk.lt
      have hne := own_ne hown hblk (by decide)
      have HB := Lib.hid hblk
      have HO := Lib.hid hown
      have HN := Lib.hid hne
      clear hblk hown hne
      go_enter Try.func19, Try.ntmps19
      go_wp2_with (first | (go_at_call 36; refine (takes_yes _ _ _ _ c0 (by omega) (by omega)).mono ?_; rintro e w' ⟨rfl, rfl⟩) | (at_builtin; refine wpList_append_own _ rfl (.tmp 11) (.tmp 14) 43 rfl B 5 i0 (.int .u8 0) 1 1 Try.underlying43 hi0 hz0 hz1 hz2 rfl (by decide) _ _ _ rfl (HO.out.alloc _) ⟨w.heap.size, 0, none⟩ 1 1 [.int .u8 n] rfl rfl ?c1 ?c2 ?c3 ?c4 ?c5 ?_))
      case c1 =>
        intro j u hj
        match j, hj with
        | 0, hj => simp at hj; subst hj; simp [Addr.add]
      case c2 => intro u hu; simp at hu; subst hu; rfl
      case c3 => unfold maxLen; omega
      case c4 => omega
      case c5 => simp; omega
      · intro v1 w1 hown1 hg1 _
        have hb1 := (HB.out.alloc (.cells #[.int .u8 n] 5)).only hg1 (fun e => HN.out e.symm)
        have fin := wr_step HB.out hb HO.out ((Below.refl _ _).alloc hB (.cells #[.int .u8 n] 5)) hown1 hg1 hb1
        have FIN := Lib.hid fin
        have d1 : w1.cell? ⟨b, 1, none⟩ = some v := hb1.cell 1
        have e1 := hb1.free 1
        clear fin hb1 hown1 hg1 c0 c1 f1
        obtain ⟨A1, n1, rfl⟩ := own_form FIN.out.1.2
        go_wp2
        go_end0
        have hx : wrNext (some l) 0 n t = some (l ++ [UInt8.ofNat n.toNat]) := by simp [wrNext, stepBytes, h0, h1]
        have hy : byteCells l ++ [.int .u8 n] = byteCells (l ++ [UInt8.ofNat n.toNat]) := by
          have hz : ((UInt8.ofNat n.toNat).toNat : Int) = n := by simp; omega
          simp only [byteCells, List.map_append, List.map_cons, List.map_nil, hz]
        rw [hx]
        refine ⟨rfl, ?_, FIN.out.2⟩
        obtain ⟨q1, q2⟩ := FIN.out.1
        refine ⟨_, q1, ?_⟩
        rw [hy] at q2
        simpa using q2
    · have hx : wrNext (some l) 0 n t = none := by simp [wrNext, stepBytes, hn]
      have HX := Lib.hid hx
      have fin := Wr.none_of hblk hb hB
      have FIN := Lib.hid fin
      have HB := Lib.hid hblk
      clear hx fin hblk hown
      go_enter Try.func19, Try.ntmps19
      go_wp2_with (go_at_call 36; refine (takes_no _ _ _ _ _ HB.out (by omega)).mono ?_; rintro e w' ⟨rfl, rfl⟩)
      go_end0
      rw [HX.out]
      exact ⟨rfl, FIN.out⟩

/-- append of a string's bytes onto what the call owns, as1 one step of a region that draws. -/
theorem step_append_str {P : Program} {ops : Array Oper} {o : Oper} {a : Act} {w : World} {K : Act → World → Prop} {Q : Exit → Act → World → Prop} {E : Prop} (hgd : o.guard = none) (sl x : Operand) (t u : TypeId)
    (ho : o.op = .call { callee := .builtin .append, args := #[sl, x], argTypes := #[t, u] })
    (base : Nat) (e : TypeId) (i : TypeInfo) (ht : P.underlying t = some (.slice e)) (hu : P.underlying u = some .string) (hi : P.info? e = some i) (hz : i.zero = some (.int .u8 0))
    (hsize : i.size = 1) (hby : i.bytes = 1)
    (v : Value) (n : Nat) (xs : List Value) (hs : a.eval sl = v) (hown : w.ownsRow base e 1 v n xs) (s : ByteArray) (hx : a.eval x = .string s)
    (h63 : n + s.size ≤ maxLen) (hbytes : n + s.size ≤ 140737488355328) (hbase : base ≤ w.heap.size)
    (h : ∀ v' w', w'.ownsRow base e 1 v' (n + s.size) (xs ++ strCells s) → w.grownBy w' v.ownBlock → K (a.put o.dst v') w') :
    if Region.wanted o (yielded ops a.tmps) = true then Oper.wp P o a w K Q else E := by
  have hw : Region.wanted o (yielded ops a.tmps) = true := by simp [Region.wanted, hgd]
  rw [if_pos hw]
  obtain ⟨v', w', hr, h2, h3, h4⟩ := run_append_own_string (P := P) w base t u o.type e i ht hu hi hz hsize hby v n xs hown s h63 hbytes hbase
  unfold Oper.wp execOp
  simp only [ho, resolve, invoke, builtin, Sem.run_bind, Sem.run_pure, Result.andThen_ok, List.map_toArray, List.map_cons, List.map_nil, hs, hx, hr]
  exact h v' w' h2 h3

theorem put_bytes (n : Int) : (Bt.put n).size = 2 := rfl

theorem wtwo_any (B b : Nat) (n : Int) (t : ByteArray) (o : Option (List UInt8)) (w : World) (h : Wr w B b o) (hb : B ≤ b) (hB : B ≤ w.heap.size) (hl : ∀ l, o = some l → l.length ≤ 100000) :
    Calls Try.prog 20 #[.pointer (some ⟨b, 0, none⟩), .int .i64 n] w fun r w' => r = .returned (.tuple #[]) ∧ Wr w' B b (wrNext o 1 n t) ∧ Below B w w' := by
  obtain ⟨i0, hi0, hz0, hz1, hz2⟩ := info_parts u8_info
  cases o with
  | none =>
    have h' : Blk w b 45 #[.int .i64 2, .slice none 0 0] := h
    have H := Lib.hid h'
    clear h h' hl
    go_enter Try.func20, Try.ntmps20
    go_wp2_with (go_at_call 36; refine (takes_off _ _ _ _ H.out).mono ?_; rintro e w' ⟨rfl, rfl⟩)
    go_end0
    exact ⟨rfl, H.out, Below.refl _ _⟩
  | some l =>
    have hll := hl l rfl
    obtain ⟨v, hblk, hown⟩ := h
    clear hl
    by_cases hn : 0 ≤ n ∧ n ≤ 65535
    · obtain ⟨h0, h1⟩ := hn
      have hx : wrNext (some l) 1 n t = some (l ++ (Bt.put n).data.toList) := by simp [wrNext, stepBytes, h0, h1]
      have HX := Lib.hid hx
      have c0 : w.cell? ⟨b, 0, none⟩ = some (.int .i64 0) := hblk.cell 0
      have c1 : w.cell? ⟨b, 1, none⟩ = some v := hblk.cell 1
      have f1 := hblk.free 1
      have hlt := hblk.lt
      have hne := own_ne hown hblk (by decide)
      have HB := Lib.hid hblk
      have HO := Lib.hid hown
      have HN := Lib.hid hne
      clear hblk hown hne hx
      go_enter Try.func20, Try.ntmps20
      go_wp2_with (go_at_call 36; refine (takes_yes _ _ _ _ c0 (by omega) (by omega)).mono ?_; rintro e w' ⟨rfl, rfl⟩)
      go_region_law (first | (refine step_append_str rfl (.tmp 11) (.tmp 13) 43 9 rfl B 5 i0 Try.underlying43 Try.underlying9 hi0 hz0 hz1 hz2 v l.length (byteCells l) (by simp [Act.eval, Act.put]) (World.ownsRow.alloc (w := w.drew) HO.out _) (Bt.put n) (by simp [Act.eval, Act.put]) (by rw [put_bytes]; unfold maxLen; omega) (by rw [put_bytes]; omega) (by simp; omega) ?_; intro v1 w1 hown1 hg1; have hb1 := (Blk.alloc (w := w.drew) HB.out _).only hg1 (fun e => HN.out e.symm); have FIN := Lib.hid (wr_step HB.out hb HO.out ((Below.refl B w).drew.alloc hB _) hown1 hg1 hb1); have d1 : w1.cell? ⟨b, 1, none⟩ = some v := hb1.cell 1; have e1 := hb1.free 1; clear hb1 hown1 hg1; obtain ⟨A1, n1, rfl⟩ := own_form FIN.out.1.2) | (go_simp; go_at_call 37; refine (put_any _ _).mono ?_; rintro e w' ⟨rfl, rfl⟩))
      all_goals
        go_end0
        rw [HX.out]
        refine ⟨rfl, ?_, FIN.out.2⟩
        obtain ⟨q1, q2⟩ := FIN.out.1
        refine ⟨_, q1, ?_⟩
        have hy : byteCells l ++ strCells (Bt.put n) = byteCells (l ++ (Bt.put n).data.toList) := by simp [byteCells, strCells]
        rw [hy] at q2
        have hz : l.length + (Bt.put n).size = (l ++ (Bt.put n).data.toList).length := by simp
        rw [← hz]
        exact q2
    · have hx : wrNext (some l) 1 n t = none := by simp [wrNext, stepBytes, hn]
      have HX := Lib.hid hx
      have fin := Wr.none_of hblk hb hB
      have FIN := Lib.hid fin
      have HB := Lib.hid hblk
      clear hx fin hblk hown
      go_enter Try.func20, Try.ntmps20
      go_wp2_with (go_at_call 36; refine (takes_no _ _ _ _ _ HB.out (by omega)).mono ?_; rintro e w' ⟨rfl, rfl⟩)
      go_end0
      rw [HX.out]
      exact ⟨rfl, FIN.out⟩

/-- The error of what steps write. -/
def errOf (o : Option (List UInt8)) : Int := if o.isSome then 0 else 2
/-- The bytes of what steps write. -/
def textFor (o : Option (List UInt8)) : ByteArray := ⟨(o.getD []).toArray⟩

theorem werr_any (B b : Nat) (o : Option (List UInt8)) (w : World) (h : Wr w B b o) :
    Calls Try.prog 22 #[.pointer (some ⟨b, 0, none⟩)] w fun r w' => r = .returned (.int .i64 (errOf o)) ∧ w = w' := by
  have key : ∀ e : Int, w.cell? ⟨b, 0, none⟩ = some (.int .i64 e) → Calls Try.prog 22 #[.pointer (some ⟨b, 0, none⟩)] w fun r w' => r = .returned (.int .i64 e) ∧ w = w' := by
    intro e c0
    go_enter Try.func22, Try.ntmps22
    go_wp2
    go_ret
    exact ⟨rfl, rfl⟩
  cases o with
  | none =>
    have h' : Blk w b 45 #[.int .i64 2, .slice none 0 0] := h
    exact key 2 (h'.cell 0)
  | some l =>
    obtain ⟨v, hblk, _⟩ := h
    exact key 0 (hblk.cell 0)

theorem strOfNums_bytes (l : List UInt8) : strOfNums (l.map fun b => (b.toNat : Int)) = ⟨l.toArray⟩ := by
  have h : strOfNums (l.map fun b => (b.toNat : Int)) = (l.map fun b => (b.toNat : Int)).foldl (fun r n => r.push (UInt8.ofNat n.toNat)) ByteArray.empty := by
    rw [foldl_push_bytes]
    simp [strOfNums]
  rw [h, foldl_push_byteCells]
  simp

theorem wbytes_any (B b : Nat) (o : Option (List UInt8)) (w : World) (h : Wr w B b o) :
    Calls Try.prog 21 #[.pointer (some ⟨b, 0, none⟩)] w fun r w' => r = .returned (.string (textFor o)) ∧ w = w' := by
  cases o with
  | none =>
    have h' : Blk w b 45 #[.int .i64 2, .slice none 0 0] := h
    have c0 : w.cell? ⟨b, 0, none⟩ = some (.int .i64 2) := h'.cell 0
    clear h h'
    go_enter Try.func21, Try.ntmps21
    go_wp2_with (go_at_call 38; refine (failed_any _ _ _ _ c0).mono ?_; rintro e w' ⟨rfl, rfl⟩)
    go_ret
    exact ⟨rfl, rfl⟩
  | some l =>
    obtain ⟨v, hblk, hown⟩ := h
    have c0 : w.cell? ⟨b, 0, none⟩ = some (.int .i64 0) := hblk.cell 0
    have c1 : w.cell? ⟨b, 1, none⟩ = some v := hblk.cell 1
    have hconv : (convert 43 9 v).run Try.prog w = .ok (.string ⟨l.toArray⟩) w := by
      rcases hown.2 with ⟨rfl, h0⟩ | ⟨g, cap, cur, rfl, _, _, _⟩
      · have hl : l = [] := List.eq_nil_of_length_eq_zero h0
        subst hl
        rw [run_convert_bytes_nil w 43 5 Try.underlying43 Try.underlying5 0 0 9 Try.underlying9]
        rfl
      · rw [run_convert_bytes_arg (P := Try.prog) w 43 5 Try.underlying43 Try.underlying5 g 0 l.length cap (l.map fun b => (b.toNat : Int)) (by simp) (by
          intro i hi
          have := hown.cellAt (g := g) (n := l.length) (cap := cap) i (by omega)
          rw [Nat.zero_add, this]
          simp [byteCells, List.getElem?_eq_getElem hi]) 9 Try.underlying9, strOfNums_bytes]
    obtain ⟨A1, n1, rfl⟩ := own_form hown
    clear hblk hown
    go_enter Try.func21, Try.ntmps21
    go_wp2_with (go_at_call 38; refine (failed_any _ _ _ _ c0).mono ?_; rintro e w' ⟨rfl, rfl⟩)
    go_ret
    exact ⟨rfl, rfl⟩
end Go.Proofs.Ytldhggaghhjebaa

/- Package code: the codes' names, and the small functions, by their contracts. -/
namespace Go.Proofs.Ytldhggaghhjebaa
open Go.RowKit Go.Lib
set_option linter.unusedVariables false

/-- The codes' names. -/
def nmX : Nat → List UInt8
  | 0 => [115, 116, 111, 112]
  | 1 => [115, 101, 116]
  | 2 => [109, 111, 118, 101]
  | 3 => [97, 100, 100]
  | 4 => [115, 117, 98]
  | 5 => [97, 110, 100]
  | 6 => [120, 111, 114]
  | 7 => [114, 101, 97, 100]
  | 8 => [119, 114, 105, 116, 101]
  | 9 => [114, 101, 97, 100, 50]
  | 10 => [119, 114, 105, 116, 101, 50]
  | 11 => [106, 117, 109, 112]
  | 12 => [122, 101, 114, 111]
  | 13 => [108, 101, 115, 115]
  | 14 => [99, 97, 108, 108]
  | 15 => [114, 101, 115, 116]
  | _ => []
def nmL (k : Nat) : ByteArray := ⟨(nmX k).toArray⟩
/-- Where the package's table stands as1 it was laid. -/
structure Nm (w : World) : Prop where
  at' : ∀ k, k < 16 → w.cell? ⟨0, k, none⟩ = some (.string (nmL k))
  pos : 0 < w.heap.size
theorem Nm.grown {w w' : World} {r : Option Nat} (h : Nm w) (g : w.grownBy w' r) (hr : r ≠ some 0) : Nm w' :=
  ⟨fun k hk => by
    have := g.block 0 h.pos (fun e => hr e.symm)
    rw [show w'.cell? ⟨0, k, none⟩ = w.cell? ⟨0, k, none⟩ by simp only [World.cell?, this]]
    exact h.at' k hk, Nat.lt_of_lt_of_le h.pos g.size⟩
theorem Nm.below {B : Nat} {w w' : World} (h : Nm w) (hb : Below B w w') (hB : 0 < B) : Nm w' :=
  ⟨fun k hk => (hb.cell (p := ⟨0, k, none⟩) hB).trans (h.at' k hk), Nat.lt_of_lt_of_le h.pos hb.size⟩
theorem nm_one : ∀ i : Fin 16, ∀ j : Fin 16, nmX i.val = nmX j.val → i = j := by decide +kernel
theorem nmL_one {i j : Nat} (hi : i < 16) (hj : j < 16) (h : nmL i = nmL j) : i = j := by
  have h' : nmX i = nmX j := by
    have := congrArg (fun b : ByteArray => b.data.toList) h
    simpa [nmL] using this
  have := nm_one ⟨i, hi⟩ ⟨j, hj⟩ h'
  simpa using this
theorem nmL_some : ∀ i : Fin 16, nmX i.val ≠ [] := by decide +kernel
theorem nmL_none {k : Nat} (h : 16 ≤ k) : nmL k = ⟨#[]⟩ := by
  have : nmX k = [] := by
    obtain ⟨j, rfl⟩ : ∃ j, k = j + 16 := ⟨k - 16, by omega⟩
    rfl
  unfold nmL
  rw [this]
/-- The code of a name, if it is one. -/
def ndF (t : ByteArray) : Nat → Int × Bool
  | 0 => (0, false)
  | k + 1 => if nmX k = t.data.toList then ((k : Int), true) else ndF t k
def ndV (t : ByteArray) : Int × Bool := ndF t 16
theorem nmX_eq {k : Nat} {t : ByteArray} : nmX k = t.data.toList ↔ nmL k = t := by
  constructor
  · intro h
    unfold nmL
    rw [h]
  · rintro rfl
    simp [nmL]
theorem ndF_at {t : ByteArray} {k : Nat} (hk : k < 16) (h : nmL k = t) : ∀ n, k < n → n ≤ 16 → ndF t n = ((k : Int), true)
  | 0, h0, _ => by omega
  | n + 1, h0, h1 => by
    unfold ndF
    by_cases e : nmX n = t.data.toList
    · have := nmL_one (i := k) (j := n) hk (by omega) (h.trans (nmX_eq.1 e).symm)
      rw [if_pos e, this]
    · rw [if_neg e]
      refine ndF_at hk h n ?_ (by omega)
      have : k ≠ n := by
        rintro rfl
        exact e (nmX_eq.2 h)
      omega
theorem ndF_none {t : ByteArray} : ∀ n, (∀ k, k < n → nmL k ≠ t) → ndF t n = (0, false)
  | 0, _ => rfl
  | n + 1, h => by
    unfold ndF
    rw [if_neg (fun e => h n (by omega) (nmX_eq.1 e))]
    exact ndF_none n (fun k hk => h k (by omega))
theorem ndV_at {t : ByteArray} {k : Nat} (hk : k < 16) (h : nmL k = t) : ndV t = ((k : Int), true) := ndF_at hk h 16 hk (by omega)
theorem ndV_none {t : ByteArray} (h : ∀ k, k < 16 → nmL k ≠ t) : ndV t = (0, false) := ndF_none 16 h
theorem str_ne19 {a b : ByteArray} (h : a ≠ b) : (a.toList == b.toList) = false := by
  apply beq_eq_false_iff_ne.2
  intro he
  rw [ByteArray.toList_eq, ByteArray.toList_eq] at he
  apply h
  obtain ⟨x⟩ := a
  obtain ⟨y⟩ := b
  simp at he
  rw [he]
/-- Is a code's N a register. -/
def rgB (k : Nat) : Bool := decide (2 ≤ k ∧ k ≤ 10)
def mxX (k : Nat) : Int := if k = 0 ∨ k = 15 ∨ k = 11 then 0 else 7
def mxN (k : Nat) : Int := if k = 0 ∨ k = 15 then 0 else if rgB k then 7 else 65535
end Go.Proofs.Ytldhggaghhjebaa

/- Package code: a name's code, what may be, by their contracts. -/
namespace Go.Proofs.Ytldhggaghhjebaa
open Go.RowKit Go.Lib
set_option linter.unusedVariables false

/-- An instruction that may be. -/
def mayI (k : Nat) (x n : Int) : Bool := decide (k < 16) && decide (0 ≤ x ∧ x ≤ mxX k) && decide (0 ≤ n ∧ n ≤ mxN k)
end Go.Proofs.Ytldhggaghhjebaa

/- Package code, and the document's word: which instructions may be, by their contracts. -/
namespace Go.Proofs.Ytldhggaghhjebaa
open Go.RowKit Go.Lib
set_option linter.unusedVariables false

theorem ibox (w : World) (t : TypeId) (cs : Array Value) : ∃ W, W = w.alloc (.cells cs t) ∧ w.grownBy W none ∧ Blk W w.heap.size t cs := ⟨_, rfl, only_alloc (only_refl _ _) _, Blk.new w t cs⟩
theorem in3 {W : World} {g : Nat} {t : TypeId} {a b c : Value} (h : Blk W g t #[a, b, c]) : W.cell? ⟨g, 0, none⟩ = some a ∧ W.cell? ⟨g, 1, none⟩ = some b ∧ W.cell? ⟨g, 2, none⟩ = some c := ⟨h.cell 0, h.cell 1, h.cell 2⟩
theorem nm_some {k : Nat} (h : k < 16) : nmL k ≠ ⟨#[]⟩ := by
  intro e
  have := nmL_some ⟨k, h⟩
  apply this
  have := congrArg (fun b : ByteArray => b.data.toList) e
  simpa [nmL] using this
theorem mayI_iff {k : Nat} {x n : Int} : mayI k x n = true ↔ k < 16 ∧ (0 ≤ x ∧ x ≤ mxX k) ∧ (0 ≤ n ∧ n ≤ mxN k) := by
  unfold mayI
  simp [and_assoc]
theorem mayI_facts {k : Nat} {x n : Int} (h : mayI k x n = true) : k < 16 ∧ 0 ≤ x ∧ x ≤ 7 ∧ 0 ≤ n ∧ n ≤ 65535 := by
  obtain ⟨h1, h2, h3⟩ := mayI_iff.1 h
  have e1 : mxX k ≤ 7 := by unfold mxX; split <;> omega
  have e2 : mxN k ≤ 65535 := by unfold mxN; split <;> (try split) <;> omega
  omega
end Go.Proofs.Ytldhggaghhjebaa

/- Package code: Put, by its contract. -/
namespace Go.Proofs.Ytldhggaghhjebaa
open Go.RowKit Go.Lib
set_option linter.unusedVariables false

/-- An instruction's bytes. -/
def ptI (k : Nat) (x n : Int) : ByteArray := ⟨#[UInt8.ofNat k, UInt8.ofNat x.toNat, UInt8.ofNat (n % 256).toNat, UInt8.ofNat (n / 256 % 256).toNat]⟩
section
variable {w0 W W' : World} {b k : Nat} {x n : Int} {l l' : List UInt8}
end
end Go.Proofs.Ytldhggaghhjebaa

/- The reader of package bits at a text of any length: bytes and numbers, whether or not they are there. Written by hand after IM13. -/
namespace Go.Proofs.Ytldhggaghhjebaa
open Go.RowKit Go.Lib
set_option linter.unusedVariables false

/-- The byte at a place, or 0; the number of two bytes there, or 0. -/
def gb (t : ByteArray) (i : Nat) : Nat := if h : i < t.size then t[i].toNat else 0
def gw (t : ByteArray) (i : Nat) : Nat := if i + 2 ≤ t.size then gb t i + 256 * gb t (i + 1) else 0
theorem gb_of {t : ByteArray} {i : Nat} (h : i < t.size) : gb t i = t[i].toNat := by simp [gb, h]
theorem gb_off {t : ByteArray} {i : Nat} (h : t.size ≤ i) : gb t i = 0 := by
  unfold gb
  rw [dif_neg (by omega)]
theorem gb_lt (t : ByteArray) (i : Nat) : gb t i < 256 := by
  unfold gb
  split
  · exact UInt8.toNat_lt _
  · omega
theorem gw_lt (t : ByteArray) (i : Nat) : gw t i < 65536 := by
  have := gb_lt t i
  have := gb_lt t (i + 1)
  unfold gw
  split <;> omega
/-- A reader that was asked for so many bytes. -/
def RdK (w : World) (b : Nat) (t : ByteArray) (k : Nat) : Prop := (k ≤ t.size ∧ Rd w b t k 0) ∨ (t.size < k ∧ ∃ p, p ≤ t.size ∧ Rd w b t p 5)
theorem RdK.lt {w : World} {b k : Nat} {t : ByteArray} (h : RdK w b t k) : b < w.heap.size := by
  rcases h with ⟨_, h⟩ | ⟨_, p, _, h⟩
  · exact Blk.lt h
  · exact Blk.lt h
theorem RdK.only {w w' : World} {b k : Nat} {t : ByteArray} {row : Option Nat} (h : RdK w b t k) (g : w.grownBy w' row) (hr : row ≠ some b) : RdK w' b t k := by
  rcases h with ⟨h1, h⟩ | ⟨h1, p, h2, h⟩
  · exact .inl ⟨h1, Blk.only h g (fun e => hr e.symm)⟩
  · exact .inr ⟨h1, p, h2, Blk.only h g (fun e => hr e.symm)⟩
theorem RdK.put {w : World} {b k : Nat} {t : ByteArray} (h : RdK w b t k) {p : Addr} (hp : b ≠ p.block) (v : Value) : RdK (w.setCell p v) b t k := by
  rcases h with ⟨h1, h⟩ | ⟨h1, q, h2, h⟩
  · exact .inl ⟨h1, Blk.far h hp v⟩
  · exact .inr ⟨h1, q, h2, Blk.far h hp v⟩
theorem only_putc {w w' : World} {row : Option Nat} (g : w.grownBy w' row) {p : Addr} (hp : w.heap.size ≤ p.block) (v : Value) : w.grownBy (w'.setCell p v) row :=
  ⟨g.os, g.tape, g.output, by simpa using g.size, fun k hk hn => (Below.heap_setCell w' p v k (by rintro rfl; omega)).trans (g.block k hk hn)⟩
theorem rbyte_at {w : World} {b k : Nat} {t : ByteArray} (h : RdK w b t k) (hs : t.size ≤ 9223372036854775807) : Calls Try.prog 25 #[.pointer (some ⟨b, 0, none⟩)] w fun r w' => r = .returned (.int .i64 (gb t k)) ∧ RdK w' b t (k + 1) ∧ w.grownBy w' (some b) := by
  rcases h with ⟨h1, h⟩ | ⟨h1, p, h2, h⟩
  · by_cases hk : k < t.size
    · have hx : rdText t k 0 1 = (t.extract k (k + 1), k + 1, 0) := by
        rw [rdText, if_neg (by omega), if_neg (by omega), if_neg (by omega)]
        rfl
      have := byte_any b t k 0 w h (by omega) (by omega)
      rw [hx] at this
      refine this.mono fun e w' ⟨q1, q2, q3⟩ => ⟨?_, .inl ⟨by omega, q2⟩, q3⟩
      rw [q1]
      have hl : 0 < (t.extract k (k + 1)).size := by simp; omega
      rw [byteOf, dif_pos hl, gb_of hk]
      simp [ByteArray.getElem_extract]
    · have hx : rdText t k 0 1 = (.empty, k, 5) := by
        rw [rdText, if_neg (by omega), if_neg (by omega), if_pos (by omega)]
      have := byte_any b t k 0 w h (by omega) (by omega)
      rw [hx] at this
      refine this.mono fun e w' ⟨q1, q2, q3⟩ => ⟨?_, .inr ⟨by omega, k, h1, q2⟩, q3⟩
      rw [q1, gb_off (by omega)]
      rfl
  · have hx : rdText t p 5 1 = (.empty, p, 5) := by
      rw [rdText, if_pos (by omega)]
    have := byte_any b t p 5 w h (by omega) (by omega)
    rw [hx] at this
    refine this.mono fun e w' ⟨q1, q2, q3⟩ => ⟨?_, .inr ⟨by omega, p, h2, q2⟩, q3⟩
    rw [q1, gb_off (by omega)]
    rfl
theorem rtwo_at {w : World} {b k : Nat} {t : ByteArray} (h : RdK w b t k) (hs : t.size ≤ 9223372036854775807) : Calls Try.prog 26 #[.pointer (some ⟨b, 0, none⟩)] w fun r w' => r = .returned (.int .i64 (gw t k)) ∧ RdK w' b t (k + 2) ∧ w.grownBy w' (some b) := by
  rcases h with ⟨h1, h⟩ | ⟨h1, p, h2, h⟩
  · by_cases hk : k + 2 ≤ t.size
    · have hx : rdText t k 0 2 = (t.extract k (k + 2), k + 2, 0) := by
        rw [rdText, if_neg (by omega), if_neg (by omega), if_neg (by omega)]
        rfl
      have := rdtwo_any b t k 0 w h (by omega) (by omega)
      rw [hx] at this
      refine this.mono fun e w' ⟨q1, q2, q3⟩ => ⟨?_, .inl ⟨by omega, q2⟩, q3⟩
      rw [q1]
      have hl : 1 < (t.extract k (k + 2)).size := by simp; omega
      rw [twoOf, dif_pos hl, gw, if_pos hk, gb_of (show k < t.size by omega), gb_of (show k + 1 < t.size by omega)]
      simp [ByteArray.getElem_extract]
    · have hx : rdText t k 0 2 = (.empty, k, 5) := by
        rw [rdText, if_neg (by omega), if_neg (by omega), if_pos (by omega)]
      have := rdtwo_any b t k 0 w h (by omega) (by omega)
      rw [hx] at this
      refine this.mono fun e w' ⟨q1, q2, q3⟩ => ⟨?_, .inr ⟨by omega, k, h1, q2⟩, q3⟩
      rw [q1, gw, if_neg hk]
      rfl
  · have hx : rdText t p 5 2 = (.empty, p, 5) := by
      rw [rdText, if_pos (by omega)]
    have := rdtwo_any b t p 5 w h (by omega) (by omega)
    rw [hx] at this
    refine this.mono fun e w' ⟨q1, q2, q3⟩ => ⟨?_, .inr ⟨by omega, p, h2, q2⟩, q3⟩
    rw [q1, gw, if_neg (by omega)]
    rfl
theorem only_drop {w0 W W' : World} {g : Nat} (h : w0.grownBy W none) (k : W.grownBy W' (some g)) (hg : w0.heap.size ≤ g) : w0.grownBy W' none :=
  ⟨k.os.trans h.os, k.tape.trans h.tape, k.output.trans h.output, Nat.le_trans h.size k.size, fun i hi hn => (k.block i (Nat.lt_of_lt_of_le hi h.size) (fun e => by injection e with e; omega)).trans (h.block i hi hn)⟩
/-- What Get answers. -/
def getV (t : ByteArray) : Value := if t.size < 4 then .tuple #[.agg #[.int .u8 0, .int .i64 0, .int .i64 0], .int .i64 5] else if mayI (gb t 0) (gb t 1) (gw t 2) = true then .tuple #[.agg #[.int .u8 (gb t 0), .int .i64 (gb t 1), .int .i64 (gw t 2)], .int .i64 0] else .tuple #[.agg #[.int .u8 0, .int .i64 0, .int .i64 0], .int .i64 12]
theorem in3f {W : World} {g : Nat} {t : TypeId} {a b c : Value} (h : Blk W g t #[a, b, c]) : W.cell? ⟨g, 0, none⟩ = some a ∧ W.cell? ⟨g, 1, none⟩ = some b ∧ W.cell? ⟨g, 2, none⟩ = some c ∧ W.frozen? ⟨g, 0, none⟩ = false ∧ W.frozen? ⟨g, 1, none⟩ = false ∧ W.frozen? ⟨g, 2, none⟩ = false := ⟨h.cell 0, h.cell 1, h.cell 2, h.free 0, h.free 1, h.free 2⟩
theorem put3 {w W : World} {t : TypeId} {a b c a' b' c' : Value} (h : Blk W w.heap.size t #[a, b, c]) (g : w.grownBy W none) : ∀ W', W' = ((W.setCell ⟨w.heap.size, 0, none⟩ a').setCell ⟨w.heap.size, 1, none⟩ b').setCell ⟨w.heap.size, 2, none⟩ c' → (W'.cell? ⟨w.heap.size, 0, none⟩ = some a' ∧ W'.cell? ⟨w.heap.size, 1, none⟩ = some b' ∧ W'.cell? ⟨w.heap.size, 2, none⟩ = some c') ∧ w.grownBy W' none := by
  rintro W' rfl
  have bf := ((h.put 0 a').put 1 b').put 2 c'
  exact ⟨⟨bf.cell 0, bf.cell 1, bf.cell 2⟩, only_putc (only_putc (only_putc g (p := ⟨w.heap.size, 0, none⟩) (Nat.le_refl _) _) (p := ⟨w.heap.size, 1, none⟩) (Nat.le_refl _) _) (p := ⟨w.heap.size, 2, none⟩) (Nat.le_refl _) _⟩
end Go.Proofs.Ytldhggaghhjebaa

/- Parse of package desc, and the document's, by contract. -/
namespace Go.Proofs.Ytldhggaghhjebaa
open Go.RowKit Go.Lib
set_option linter.unusedVariables false
set_option maxRecDepth 8000

/-- What Parse answers. -/
def De.pv (s : ByteArray) : Value := if s.size < 8 then .tuple #[.agg (De.dc 0 0 0 0 0), .int .i64 5] else .tuple #[.agg (De.dc (gb s 0) (gb s 1) (gw s 2) (gw s 4) (gw s 6)), .int .i64 0]
/-- What is kept between two calls on the reader. -/
def De.Kd (w0 W : World) (g : Nat) (t : ByteArray) (k : Nat) : Prop := RdK W g t k ∧ Blk W w0.heap.size 24 #[.int .u8 0, .int .u8 0, .int .i64 0, .int .i64 0, .int .i64 0] ∧ w0.grownBy W none ∧ w0.heap.size < g
theorem De.Kd.step {w0 W W' : World} {g : Nat} {t : ByteArray} {k k' : Nat} (h : De.Kd w0 W g t k) (q : RdK W' g t k') (b : W.grownBy W' (some g)) : De.Kd w0 W' g t k' :=
  ⟨q, h.2.1.only b (fun e => by injection e with e; have := h.2.2.2; omega), only_drop h.2.2.1 b (Nat.le_of_lt h.2.2.2), h.2.2.2⟩
theorem De.Kd.grown {w0 W W' : World} {g : Nat} {t : ByteArray} {k : Nat} (h : De.Kd w0 W g t k) (b : W.grownBy W' none) : De.Kd w0 W' g t k :=
  ⟨h.1.only b (by simp), h.2.1.only b (by simp), only_trans h.2.2.1 b, h.2.2.2⟩
theorem De.kd_byte {w0 W : World} {g : Nat} {t : ByteArray} {k : Nat} (h : De.Kd w0 W g t k) (hs : t.size ≤ 9223372036854775807) : Calls Try.prog 25 #[.pointer (some ⟨g, 0, none⟩)] W fun r w' => r = .returned (.int .i64 (gb t k)) ∧ De.Kd w0 w' g t (k + 1) :=
  (rbyte_at h.1 hs).mono fun _ _ ⟨e, q, b⟩ => ⟨e, h.step q b⟩
theorem De.kd_two {w0 W : World} {g : Nat} {t : ByteArray} {k : Nat} (h : De.Kd w0 W g t k) (hs : t.size ≤ 9223372036854775807) : Calls Try.prog 26 #[.pointer (some ⟨g, 0, none⟩)] W fun r w' => r = .returned (.int .i64 (gw t k)) ∧ De.Kd w0 w' g t (k + 2) :=
  (rtwo_at h.1 hs).mono fun _ _ ⟨e, q, b⟩ => ⟨e, h.step q b⟩
theorem De.err_cell (b : Nat) (e : Int) (w : World) (c0 : w.cell? ⟨b, 0, none⟩ = some (.int .i64 e)) : Calls Try.prog 27 #[.pointer (some ⟨b, 0, none⟩)] w fun r w' => r = .returned (.int .i64 e) ∧ w = w' := by
  go_enter Try.func27, Try.ntmps27
  go_wp2
  go_ret
  exact ⟨rfl, rfl⟩
theorem De.kd_new (w : World) (t : ByteArray) : De.Kd w ((w.alloc (.cells #[.int .u8 0, .int .u8 0, .int .i64 0, .int .i64 0, .int .i64 0] 24)).alloc (.cells #[.int .i64 0, .string t, .int .i64 0] 63)) (w.heap.size + 1) t 0 :=
  ⟨.inl ⟨Nat.zero_le _, by have := Blk.new (w.alloc (.cells #[.int .u8 0, .int .u8 0, .int .i64 0, .int .i64 0, .int .i64 0] 24)) 63 #[.int .i64 0, .string t, .int .i64 0]; simpa [Rd] using this⟩, (Blk.new _ _ _).alloc _, only_alloc (only_alloc (only_refl _ _) _) _, Nat.lt_succ_self _⟩
theorem De.kd_cell {w0 W : World} {g : Nat} {t : ByteArray} {k : Nat} (h : De.Kd w0 W g t k) (hk : k ≤ t.size) : W.cell? ⟨g, 0, none⟩ = some (.int .i64 0) := by
  rcases h.1 with ⟨_, h⟩ | ⟨h1, _⟩
  · exact Blk.cell h 0
  · omega
theorem De.in5f {W : World} {g : Nat} {t : TypeId} {a b c d e : Value} (h : Blk W g t #[a, b, c, d, e]) : (W.cell? ⟨g, 0, none⟩ = some a ∧ W.cell? ⟨g, 1, none⟩ = some b ∧ W.cell? ⟨g, 2, none⟩ = some c ∧ W.cell? ⟨g, 3, none⟩ = some d ∧ W.cell? ⟨g, 4, none⟩ = some e) ∧ W.frozen? ⟨g, 0, none⟩ = false ∧ W.frozen? ⟨g, 1, none⟩ = false ∧ W.frozen? ⟨g, 2, none⟩ = false ∧ W.frozen? ⟨g, 3, none⟩ = false ∧ W.frozen? ⟨g, 4, none⟩ = false := ⟨⟨h.cell 0, h.cell 1, h.cell 2, h.cell 3, h.cell 4⟩, h.free 0, h.free 1, h.free 2, h.free 3, h.free 4⟩
theorem De.put5 {w W : World} {t : TypeId} {a b c d e a' b' c' d' e' : Value} (h : Blk W w.heap.size t #[a, b, c, d, e]) (g : w.grownBy W none) : ∀ W', W' = ((((W.setCell ⟨w.heap.size, 0, none⟩ a').setCell ⟨w.heap.size, 1, none⟩ b').setCell ⟨w.heap.size, 2, none⟩ c').setCell ⟨w.heap.size, 3, none⟩ d').setCell ⟨w.heap.size, 4, none⟩ e' → (W'.cell? ⟨w.heap.size, 0, none⟩ = some a' ∧ W'.cell? ⟨w.heap.size, 1, none⟩ = some b' ∧ W'.cell? ⟨w.heap.size, 2, none⟩ = some c' ∧ W'.cell? ⟨w.heap.size, 3, none⟩ = some d' ∧ W'.cell? ⟨w.heap.size, 4, none⟩ = some e') ∧ w.grownBy W' none := by
  rintro W' rfl
  have bf := ((((h.put 0 a').put 1 b').put 2 c').put 3 d').put 4 e'
  exact ⟨⟨bf.cell 0, bf.cell 1, bf.cell 2, bf.cell 3, bf.cell 4⟩, only_putc (only_putc (only_putc (only_putc (only_putc g (p := ⟨w.heap.size, 0, none⟩) (Nat.le_refl _) _) (p := ⟨w.heap.size, 1, none⟩) (Nat.le_refl _) _) (p := ⟨w.heap.size, 2, none⟩) (Nat.le_refl _) _) (p := ⟨w.heap.size, 3, none⟩) (Nat.le_refl _) _) (p := ⟨w.heap.size, 4, none⟩) (Nat.le_refl _) _⟩
set_option maxHeartbeats 3200000 in
theorem De.parse_any (t : ByteArray) (hs : t.size ≤ 9223372036854775807) (w : World) : Calls Try.prog 10 #[.string t] w fun e w' => e = .returned (De.pv t) ∧ w.grownBy w' none := by
  obtain ⟨W1, hW, g1, hB⟩ := ibox w 24 #[.int .u8 0, .int .u8 0, .int .i64 0, .int .i64 0, .int .i64 0]
  have hz : W1.heap.size = w.heap.size + 1 := by rw [hW]; simp
  by_cases h8 : t.size < 8
  · have HV := Lib.hid (show De.pv t = .tuple #[.agg #[.int .u8 0, .int .u8 0, .int .i64 0, .int .i64 0, .int .i64 0], .int .i64 5] from by unfold De.pv De.dc; rw [if_pos h8]; rfl)
    rw [HV.out]
    have i8 : (t.size : Int) < 8 := by omega
    have HG := Lib.hid (only_alloc (only_refl w none) (.cells #[.int .u8 0, .int .u8 0, .int .i64 0, .int .i64 0, .int .i64 0] 24))
    clear hW g1 hB hz h8 HV
    go_enter Try.func10, Try.ntmps10
    go_wp2
    refine bodyPost_ret (v := .tuple #[.agg #[.int .u8 0, .int .u8 0, .int .i64 0, .int .i64 0, .int .i64 0], .int .i64 5]) (by simp [results, Try.results10, go_sem]) rfl ?_
    exact ⟨rfl, HG.out⟩
  · have HV := Lib.hid (show De.pv t = .tuple #[.agg #[.int .u8 (gb t 0), .int .u8 (gb t 1), .int .i64 (gw t 2), .int .i64 (gw t 4), .int .i64 (gw t 6)], .int .i64 0] from by unfold De.pv De.dc; rw [if_neg h8])
    rw [HV.out]
    have i8 : ¬ (t.size : Int) < 8 := by omega
    have HK8 := Lib.hid (show 8 ≤ t.size from by omega)
    have P0 := Lib.hid (show De.Kd w (W1.alloc (.cells #[.int .i64 0, .string t, .int .i64 0] 63)) (w.heap.size + 1) t 0 from by rw [hW]; exact De.kd_new w t)
    have HNEW := Lib.hid (show Calls Try.prog 24 #[.string t] W1 (fun e w' => e = .returned (.pointer (some ⟨w.heap.size + 1, 0, none⟩)) ∧ De.Kd w w' (w.heap.size + 1) t 0) from (new_any t W1).mono fun e w' ⟨h1, h2⟩ => ⟨by rw [h1, hz], by subst h2; exact P0.out⟩)
    have b0 := gb_lt t 0
    have b1 := gb_lt t 1
    have m0 : (gb t 0 : Int) % 256 = (gb t 0 : Int) := by omega
    have m1 : (gb t 1 : Int) % 256 = (gb t 1 : Int) := by omega
    have HS := Lib.hid hs
    clear HV hB g1 hs hz h8 P0
    go_enter Try.func10, Try.ntmps10
    go_upto_region 1 with (fail)
    rw [← hW]
    clear hW
    go_upto_region 5 with (first
      | (go_at_call 24; (with_reducible refine HNEW.out.mono ?_); rintro e w2 ⟨rfl, q0⟩; have Q0 := Lib.hid q0; clear q0)
      | (go_at_call 25; (with_reducible refine (De.kd_byte Q0.out HS.out).mono ?_); rintro e w3 ⟨rfl, q1⟩; have Q1 := Lib.hid q1; clear q1)
      | (go_at_call 25; (with_reducible refine (De.kd_byte Q1.out HS.out).mono ?_); rintro e w4 ⟨rfl, q2⟩; have Q2 := Lib.hid q2; clear q2)
      | (go_at_call 26; (with_reducible refine (De.kd_two Q2.out HS.out).mono ?_); rintro e w5 ⟨rfl, q3⟩; have Q3 := Lib.hid q3; clear q3)
      | (go_at_call 26; (with_reducible refine (De.kd_two Q3.out HS.out).mono ?_); rintro e w6 ⟨rfl, q4⟩; have Q4 := Lib.hid q4; clear q4)
      | (go_at_call 26; (with_reducible refine (De.kd_two Q4.out HS.out).mono ?_); rintro e w7 ⟨rfl, q5⟩; have Q5 := Lib.hid q5; clear q5))
    obtain ⟨w8, hw8⟩ : ∃ w8, w8 = w7.alloc (.cells #[.int .u8 (gb t 0), .int .u8 (gb t 1), .int .i64 (gw t 2), .int .i64 (gw t 4), .int .i64 (gw t 6)] 24) := ⟨_, rfl⟩
    have g8 : w7.grownBy w8 none := by rw [hw8]; exact only_alloc (only_refl _ _) _
    have BI := Lib.hid (show Blk w8 w7.heap.size 24 #[.int .u8 (gb t 0), .int .u8 (gb t 1), .int .i64 (gw t 2), .int .i64 (gw t 4), .int .i64 (gw t 6)] from by rw [hw8]; exact Blk.new _ _ _)
    have Q8 := Lib.hid (Q5.out.grown g8)
    have nlt := Lib.hid (show w.heap.size < w7.heap.size from Q5.out.2.1.lt)
    rw [← hw8]
    clear hw8 g8
    obtain ⟨i0, i1, i2, i3, i4⟩ := (De.in5f BI.out).1
    obtain ⟨⟨z0, z1, z2, z3, z4⟩, f0, f1, f2, f3, f4⟩ := De.in5f Q8.out.2.1
    have cE := De.kd_cell Q8.out HK8.out
    have n1 : ¬ w.heap.size = w7.heap.size := by have := nlt.out; omega
    have n2 : ¬ w7.heap.size = w.heap.size := by have := nlt.out; omega
    clear m0 m1 b0 b1 HNEW Q0 Q1 Q2 Q3 Q4 Q5
    have HE := Lib.hid (show Calls Try.prog 27 #[.pointer (some ⟨w.heap.size + 1, 0, none⟩)] w8.drew (fun r w' => r = .returned (.int .i64 0) ∧ w8.grownBy w' none) from (De.err_cell _ 0 w8.drew cE).mono fun e w' ⟨e1, e2⟩ => ⟨e1, by rw [← e2]; exact only_drewN (only_refl _ none) 1⟩)
    clear cE
    go_region_with (go_at_call 27; (with_reducible refine HE.out.mono ?_); rintro e w9 ⟨rfl, g9⟩; have Q9 := Lib.hid (Q8.out.grown g9); have B9 := Lib.hid (BI.out.only g9 (by simp)); clear g9 i0 i1 i2 i3 i4 z0 z1 z2 z3 z4 f0 f1 f2 f3 f4; obtain ⟨i0, i1, i2, i3, i4⟩ := (De.in5f B9.out).1; obtain ⟨⟨z0, z1, z2, z3, z4⟩, f0, f1, f2, f3, f4⟩ := De.in5f Q9.out.2.1)
    all_goals
      go_wp2
      obtain ⟨⟨r0, r1, r2, r3, r4⟩, G9⟩ := De.put5 (a' := .int .u8 (gb t 0)) (b' := .int .u8 (gb t 1)) (c' := .int .i64 (gw t 2)) (d' := .int .i64 (gw t 4)) (e' := .int .i64 (gw t 6)) Q9.out.2.1 Q9.out.2.2.1 _ rfl
      refine bodyPost_ret (v := .tuple #[.agg #[.int .u8 (gb t 0), .int .u8 (gb t 1), .int .i64 (gw t 2), .int .i64 (gw t 4), .int .i64 (gw t 6)], .int .i64 0]) (by simp [results, Try.results10, go_sem, r0, r1, r2, r3, r4]) rfl ⟨rfl, G9⟩
end Go.Proofs.Ytldhggaghhjebaa

/- The document's Parse of a descriptor, by contract; Closed. -/
namespace Go.Proofs.Ytldhggaghhjebaa
open Go.RowKit Go.Lib
set_option linter.unusedVariables false
set_option maxRecDepth 8000

theorem De.gw_is {s : ByteArray} {k : Nat} (h : k + 2 ≤ s.size) : gw s k = (s[k]'(by omega)).toNat + 256 * (s[k + 1]'(by omega)).toNat := by
  rw [gw, if_pos h, gb_of (show k < s.size by omega), gb_of (show k + 1 < s.size by omega)]
theorem De.rtwo_any (s : ByteArray) (k : Nat) (x : Int) (hx : x = k) (h : k + 2 ≤ s.size) (hs : s.size ≤ 9223372036854775807) (w : World) : Calls Try.prog 28 #[.string s, .int .i64 x] w fun e w' => e = .returned (.int .i64 (gw s k)) ∧ ∃ q, w.drewN q = w' := by
  have h0 : k < s.size := by omega
  have h1 : k + 1 < s.size := by omega
  have hE := De.gw_is h
  have i0 : (k : Int) < (s.size : Int) := by omega
  have i1 : (k : Int) + 1 < (s.size : Int) := by omega
  have HE := Lib.hid hE
  have b0 := UInt8.toNat_lt (s[k]'h0)
  have b1 := UInt8.toNat_lt (s[k + 1]'h1)
  have hs2 : (k : Int) + 1 ≤ 9223372036854775807 := by omega
  have wr : IntKind.i64.wrap ((k : Int) + 1) = (k : Int) + 1 := by rw [IntKind.wrap_i64]; omega
  have tn : ((k : Int) + 1).toNat = k + 1 := by omega
  have k0 : (0 : Int) ≤ (k : Int) + 1 := by omega
  subst hx
  clear hE hs
  go_enter Try.func28, Try.ntmps28
  go_wp2
  go_quiet (fail)
  go_wp2
  go_ret
  refine ⟨ret_int ?_, _, rfl⟩
  rw [HE.out]
  first | (simp; done) | (push_cast; omega) | omega
theorem De.closed_any (k s : Nat) (a l g st n : Int) (w : World) : Calls Try.prog 12 #[.agg (De.dc k s a l g), .int .i64 st, .int .i64 n] w fun e w' => e = .returned (.agg (De.dc k (st % 256).toNat a (n % 65536) g)) ∧ w.grownBy w' none := by
  have HE := Lib.hid (show (De.dc k (st % 256).toNat a (n % 65536) g) = #[.int .u8 k, .int .u8 (st % 256), .int .i64 a, .int .i64 (n % 256 + 256 * (n / 256 % 256)), .int .i64 g] from by
    unfold De.dc
    rw [Int.toNat_of_nonneg (by omega), show n % 65536 = n % 256 + 256 * (n / 256 % 256) from by omega])
  rw [HE.out]
  unfold De.dc
  have HG := Lib.hid (only_alloc (only_alloc (only_refl w none) (.cells #[.int .u8 k, .int .u8 (st % 256), .int .i64 a, .int .i64 (n % 256 + 256 * (n / 256 % 256)), .int .i64 g] 24)) (.cells #[.int .u8 k, .int .u8 (st % 256), .int .i64 a, .int .i64 (n % 256 + 256 * (n / 256 % 256)), .int .i64 g] 24))
  have m1 : st % 256 % 256 = st % 256 := by omega
  go_enter Try.func12, Try.ntmps12
  go_wp2_with (first
    | (go_at_call 29; (with_reducible refine (low_any _ _).mono ?_); rintro e w' ⟨rfl, rfl⟩)
    | (go_at_call 31; (with_reducible refine (high_any _ _).mono ?_); rintro e w' ⟨rfl, rfl⟩)
    | (go_at_call 30; (with_reducible refine (two_any _ _ _).mono ?_); rintro e w' ⟨rfl, rfl⟩))
  refine bodyPost_ret (v := .agg #[.int .u8 k, .int .u8 (st % 256), .int .i64 a, .int .i64 (n % 256 + 256 * (n / 256 % 256)), .int .i64 g]) (by simp [results, Try.results12, go_sem]) rfl ⟨rfl, HG.out⟩
set_option maxHeartbeats 3200000 in
theorem De.rparse_any (t : ByteArray) (hs : t.size ≤ 9223372036854775807) (w : World) : Calls Try.prog 11 #[.string t] w fun e w' => e = .returned (De.pv t) ∧ w.grownBy w' none := by
  obtain ⟨W1, hW, g1, hB⟩ := ibox w 24 #[.int .u8 0, .int .u8 0, .int .i64 0, .int .i64 0, .int .i64 0]
  by_cases h8 : t.size < 8
  · have HV := Lib.hid (show De.pv t = .tuple #[.agg #[.int .u8 0, .int .u8 0, .int .i64 0, .int .i64 0, .int .i64 0], .int .i64 5] from by unfold De.pv De.dc; rw [if_pos h8]; rfl)
    rw [HV.out]
    have i8 : (t.size : Int) < 8 := by omega
    have HG := Lib.hid (only_alloc (only_refl w none) (.cells #[.int .u8 0, .int .u8 0, .int .i64 0, .int .i64 0, .int .i64 0] 24))
    clear hW g1 hB h8 HV
    go_enter Try.func11, Try.ntmps11
    go_wp2
    refine bodyPost_ret (v := .tuple #[.agg #[.int .u8 0, .int .u8 0, .int .i64 0, .int .i64 0, .int .i64 0], .int .i64 5]) (by simp [results, Try.results11, go_sem]) rfl ?_
    exact ⟨rfl, HG.out⟩
  · have HV := Lib.hid (show De.pv t = .tuple #[.agg #[.int .u8 (gb t 0), .int .u8 (gb t 1), .int .i64 (gw t 2), .int .i64 (gw t 4), .int .i64 (gw t 6)], .int .i64 0] from by unfold De.pv De.dc; rw [if_neg h8])
    rw [HV.out]
    have i8 : ¬ (t.size : Int) < 8 := by omega
    have l0 : 0 < t.size := by omega
    have l1 : 1 < t.size := by omega
    have i0 : (0 : Int) < (t.size : Int) := by omega
    have i1 : (1 : Int) < (t.size : Int) := by omega
    have e0 := gb_of l0
    have e1 := gb_of l1
    have H2 := Lib.hid (De.rtwo_any t 2 2 rfl (by omega) hs)
    have H4 := Lib.hid (De.rtwo_any t 4 4 rfl (by omega) hs)
    have H6 := Lib.hid (De.rtwo_any t 6 6 rfl (by omega) hs)
    rw [e0, e1]
    have HB1 := Lib.hid hB
    have HG1 := Lib.hid g1
    clear HV hB g1 h8 e0 e1
    generalize gw t 2 = x2 at *
    generalize gw t 4 = x4 at *
    generalize gw t 6 = x6 at *
    go_enter Try.func11, Try.ntmps11
    go_upto_region 1 with (fail)
    rw [← hW]
    clear hW
    go_upto_region 3 with (fail)
    obtain ⟨⟨z0, z1, z2, z3, z4⟩, f0, f1, f2, f3, f4⟩ := De.in5f HB1.out
    go_region_held3 (fun _ => True) (trivial) (first
      | (go_at_call 28; (with_reducible refine (H2.out _).mono ?_); rintro e w9 ⟨rfl, q2, rfl⟩)
      | (go_at_call 28; (with_reducible refine (H4.out _).mono ?_); rintro e w9 ⟨rfl, q4, rfl⟩)
      | (go_at_call 28; (with_reducible refine (H6.out _).mono ?_); rintro e w9 ⟨rfl, q6, rfl⟩))
    all_goals
      go_wp2
      obtain ⟨⟨r0, r1, r2, r3, r4⟩, G9⟩ := De.put5 (a' := .int .u8 (t[0].toNat)) (b' := .int .u8 (t[1].toNat)) (c' := .int .i64 x2) (d' := .int .i64 x4) (e' := .int .i64 x6) (HB1.out.drewN _) (only_drewN HG1.out _) _ rfl
      refine bodyPost_ret (v := .tuple #[.agg #[.int .u8 (t[0].toNat), .int .u8 (t[1].toNat), .int .i64 x2, .int .i64 x4, .int .i64 x6], .int .i64 0]) (by simp [results, Try.results11, go_sem, r0, r1, r2, r3, r4]) rfl ⟨rfl, G9⟩
end Go.Proofs.Ytldhggaghhjebaa
