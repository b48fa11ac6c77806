import Derived.Test.YtpolkioaagahhaaDoorZ01
import Derived.Lib.AppendStr
import Derived.Deep.RegionLaw
import Derived.Deep.RegionHeld3
import Derived.Deep.Cut
import Derived.Lib.QuietBelow
import Derived.BigQuiet
set_option linter.all false
/- The memory of package mem: two bytes written, texts read; what every law of it asks first. -/
namespace Go.Proofs.YtpolkioaagahhaaDoor
open Go.RowKit Go.Lib Go.Sort
set_option linter.unusedVariables false

theorem mput_bytes (n : Int) : (Bt.put n).data.toList = [UInt8.ofNat (n % 256).toNat, UInt8.ofNat (n / 256 % 256).toNat] := rfl
theorem put_size (n : Int) : (Bt.put n).size = 2 := rfl

theorem set2_any (w : World) (B m g : Nat) (l : List UInt8) (at' n : Int) (h : MemG w B m g l) (hl : l.length ≤ 16384) :
    Calls Tryd.prog 61 #[.pointer (some ⟨m, 0, none⟩), .int .i64 at', .int .i64 n] w fun r w' =>
      r = .returned (.int .i64 (chk l.length at' 2)) ∧ MemG w' B m g (if chk l.length at' 2 = 0 then over l at'.toNat [UInt8.ofNat (n % 256).toNat, UInt8.ofNat (n / 256 % 256).toNat] else l) ∧ w.grownBy w' (some g) := by
  have h1 : MemG (w.alloc (.cells #[.int .u8 (n % 256), .int .u8 (n / 256 % 256)] 5)) B m g l := h.below ((Below.refl _ _).alloc (Nat.le_refl _) _)
  have hp := mput_any _ B m g l at' (Bt.put n) h1 hl (by rw [put_size]; omega)
  rw [put_size, mput_bytes] at hp
  simp only [show ((2 : Nat) : Int) = 2 from rfl] at hp
  obtain ⟨L2, hL2⟩ : ∃ L2, L2 = (if chk l.length at' 2 = 0 then over l at'.toNat [UInt8.ofNat (n % 256).toNat, UInt8.ofNat (n / 256 % 256).toNat] else l) := ⟨_, rfl⟩
  rw [← hL2] at hp ⊢
  obtain ⟨x, hx⟩ : ∃ x, x = chk l.length at' 2 := ⟨_, rfl⟩
  rw [← hx] at hp ⊢
  have HP := Lib.hid hp
  clear hp h1 h hL2 hx
  go_enter Tryd.func61, Tryd.ntmps61
  go_wp2_with (first | (go_at_call 68; refine (put_any _ _).mono ?_; rintro e w1 ⟨rfl, rfl⟩) | (go_at_call 20; refine HP.out.mono ?_; rintro e w2 ⟨rfl, hm2, b2⟩))
  go_ret
  exact ⟨rfl, hm2, only_trans (only_alloc (only_refl _ _) _) b2⟩

set_option maxHeartbeats 1600000 in
theorem mtext_any (w : World) (B m : Nat) (l : List UInt8) (at' n : Int) (h : MemV w B m l) (hl : l.length ≤ 16384) :
    Calls Tryd.prog 34 #[.pointer (some ⟨m, 0, none⟩), .int .i64 at', .int .i64 n] w fun r w' =>
      r = .returned (.tuple #[.string (if chk l.length at' n = 0 then ⟨((l.drop at'.toNat).take n.toNat).toArray⟩ else .empty), .int .i64 (chk l.length at' n)]) ∧ w = w' := by
  obtain ⟨g, hg, hm, hb, hr⟩ := h
  have c0 : w.cell? ⟨m, 0, none⟩ = some (.slice (some ⟨g, 0, none⟩) l.length l.length) := hb.cell 0
  have hck := check_any w m _ _ _ at' n c0 hl
  by_cases hz : chk l.length at' n = 0
  · have hk := chk_ok hz
    obtain ⟨k, rfl⟩ : ∃ k : Nat, at' = k := ⟨at'.toNat, by omega⟩
    obtain ⟨j, rfl⟩ : ∃ j : Nat, n = j := ⟨n.toNat, by omega⟩
    rw [hz, if_pos rfl]
    rw [hz] at hck
    have HCK := Lib.hid hck
    have i1 : (k : Int) + (j : Int) ≤ (l.length : Int) := by omega
    have e1 : (k : Int).toNat = k := by omega
    have e2 : (j : Int).toNat = j := by omega
    rw [e1, e2]
    have hone : k < l.length → (convert 81 9 (.slice (some ⟨g, k, none⟩) j (l.length - k))).run Tryd.prog w = .ok (.string ⟨((l.drop k).take j).toArray⟩) w := fun hkl => by
      have hlen : ((l.drop k).take j).length = j := by simp; omega
      have := run_convert_bytes_back (P := Tryd.prog) w 81 9 5 ⟨g, k, none⟩ (l.length - k) ((l.drop k).take j) Tryd.underlying81 Tryd.underlying5 Tryd.underlying9 (fun i hi => by
        have ha : (⟨g, k, none⟩ : Addr).add i = ⟨g, k + i, none⟩ := by unfold Addr.add; split <;> simp_all
        rw [ha, row_cell hr (show k + i < l.length by omega)]
        simp)
      rw [hlen] at this
      exact this
    by_cases hkl : k = l.length
    · obtain rfl : j = 0 := by omega
      subst hkl
      have e3 : (⟨((l.drop l.length).take 0).toArray⟩ : ByteArray) = .empty := by simp; rfl
      rw [e3]
      have h0 : ∀ (ad : Addr) c, (convert 81 9 (.slice (some ad) 0 c)).run Tryd.prog w = .ok (.string .empty) w := fun ad c => run_convert_bytes_back (P := Tryd.prog) w 81 9 5 ad c [] Tryd.underlying81 Tryd.underlying5 Tryd.underlying9 (fun i hi => by simp at hi)
      clear hck hb hr hz hone hk e1 e2 e3
      go_enter Tryd.func34, Tryd.ntmps34
      go_wp2_with (go_at_call 37; refine HCK.out.mono ?_; rintro e w' ⟨rfl, rfl⟩)
      go_ret2
      exact ⟨rfl, rfl⟩
    · have hlt : k < l.length := by omega
      replace hone := hone hlt
      have i2 : (k : Int) < (l.length : Int) := by omega
      obtain ⟨S, hS⟩ : ∃ S : ByteArray, S = ⟨((l.drop k).take j).toArray⟩ := ⟨_, rfl⟩
      rw [← hS] at hone ⊢
      clear hck hb hr hz hk e1 e2 hkl hS
      go_enter Tryd.func34, Tryd.ntmps34
      go_wp2_with (go_at_call 37; refine HCK.out.mono ?_; rintro e w' ⟨rfl, rfl⟩)
      go_ret2
      exact ⟨rfl, rfl⟩
  · rw [if_neg hz]
    obtain ⟨x, hx⟩ : ∃ x, chk l.length at' n = x := ⟨_, rfl⟩
    rw [hx] at hck hz ⊢
    have HCK := Lib.hid hck
    clear hck hx hb hr
    go_enter Tryd.func34, Tryd.ntmps34
    go_wp2_with (go_at_call 37; refine HCK.out.mono ?_; rintro e w' ⟨rfl, rfl⟩)
    go_ret2
    exact ⟨rfl, rfl⟩

def zero8 : List UInt8 := [0, 0, 0, 0, 0, 0, 0, 0]
def live8 : List UInt8 := [0, 0, 1, 2, 0, 0, 0, 0]
end Go.Proofs.YtpolkioaagahhaaDoor

/- The reader of package bits: each call by its contract. -/
namespace Go.Proofs.YtpolkioaagahhaaDoor
open Go.RowKit Go.Lib
set_option linter.unusedVariables false

/-- What Text(n) does of a reader that stands at p of s, with the error e: the answer, the place, the error. -/
def rdText (s : ByteArray) (p : Nat) (e n : Int) : ByteArray × Nat × Int :=
  if e ≠ 0 then (.empty, p, e) else if n < 0 then (.empty, p, 2) else if (s.size : Int) - p < n then (.empty, p, 5) else (s.extract p (p + n.toNat), p + n.toNat, 0)

/-- A reader lies in block b. -/
def Rd (w : World) (b : Nat) (s : ByteArray) (p : Nat) (e : Int) : Prop := Blk w b 104 #[.int .i64 e, .string s, .int .i64 p]

theorem failed_any (b o : Nat) (e : Int) (w : World) (h : w.cell? ⟨b, o, none⟩ = some (.int .i64 e)) : Calls Tryd.prog 69 #[.pointer (some ⟨b, o, none⟩)] w fun r w' => r = .returned (.bool (e != 0)) ∧ w = w' := by
  go_enter Tryd.func69, Tryd.ntmps69
  go_wp2
  go_ret
  exact ⟨rfl, rfl⟩

theorem fail_any (b o : Nat) (e v : Int) (w : World) (h : w.cell? ⟨b, o, none⟩ = some (.int .i64 e)) (hf : w.frozen? ⟨b, o, none⟩ = false) : Calls Tryd.prog 70 #[.pointer (some ⟨b, o, none⟩), .int .i64 v] w fun r w' => r = .returned (.tuple #[]) ∧ w.setCell ⟨b, o, none⟩ (.int .i64 v) = w' := by
  go_enter Tryd.func70, Tryd.ntmps70
  go_wp2
  go_end0
  exact ⟨rfl, rfl⟩

theorem text_any (b : Nat) (s : ByteArray) (p : Nat) (e n : Int) (w : World) (h : Rd w b s p e) (hp : p ≤ s.size) (hs : s.size ≤ 9223372036854775807) :
    Calls Tryd.prog 63 #[.pointer (some ⟨b, 0, none⟩), .int .i64 n] w fun r w' => r = .returned (.string (rdText s p e n).1) ∧ Rd w' b s (rdText s p e n).2.1 (rdText s p e n).2.2 ∧ w.grownBy w' (some b) := by
  have c0 : w.cell? ⟨b, 0, none⟩ = some (.int .i64 e) := h.cell 0
  have c1 : w.cell? ⟨b, 1, none⟩ = some (.string s) := h.cell 1
  have c2 : w.cell? ⟨b, 2, none⟩ = some (.int .i64 p) := h.cell 2
  have f0 := h.free 0
  have f2 := h.free 2
  have H := Lib.hid h
  clear h
  by_cases he : e = 0
  · subst he
    by_cases hn : n < 0
    · go_enter Tryd.func63, Tryd.ntmps63
      go_wp2_with (first | (go_at_call 69; refine (failed_any _ _ _ _ c0).mono ?_; rintro e w' ⟨rfl, rfl⟩) | (go_at_call 70; refine (fail_any _ _ 0 _ _ (by simpa using c0) (by simpa using f0)).mono ?_; rintro e w' ⟨rfl, rfl⟩))
      go_ret
      have hx : rdText s p 0 n = (.empty, p, 2) := by simp [rdText, hn]
      rw [hx]
      exact ⟨rfl, H.out.put 0 _, only_put (only_refl _ _) _ _⟩
    · by_cases hm : (s.size : Int) - p < n
      · go_enter Tryd.func63, Tryd.ntmps63
        go_wp2_with (first | (go_at_call 69; refine (failed_any _ _ _ _ c0).mono ?_; rintro e w' ⟨rfl, rfl⟩) | (go_at_call 70; refine (fail_any _ _ 0 _ _ (by simpa using c0) (by simpa using f0)).mono ?_; rintro e w' ⟨rfl, rfl⟩))
        go_quiet (fail)
        go_wp2_with (first | (go_at_call 69; refine (failed_any _ _ _ _ c0).mono ?_; rintro e w' ⟨rfl, rfl⟩) | (go_at_call 70; refine (fail_any _ _ 0 _ _ (by simpa using c0) (by simpa using f0)).mono ?_; rintro e w' ⟨rfl, rfl⟩))
        go_ret
        have hx : rdText s p 0 n = (.empty, p, 5) := by simp [rdText, hn, hm]
        rw [hx]
        exact ⟨rfl, (H.out.drewN nq).put 0 _, only_put (only_drewN (only_refl _ _) nq) _ _⟩
      · obtain ⟨k, rfl⟩ := Int.eq_ofNat_of_zero_le (show 0 ≤ n by omega)
        go_enter Tryd.func63, Tryd.ntmps63
        go_wp2_with (first | (go_at_call 69; refine (failed_any _ _ _ _ c0).mono ?_; rintro e w' ⟨rfl, rfl⟩) | (go_at_call 70; refine (fail_any _ _ 0 _ _ (by simpa using c0) (by simpa using f0)).mono ?_; rintro e w' ⟨rfl, rfl⟩))
        go_quiet (fail)
        go_wp2_with (first | (go_at_call 69; refine (failed_any _ _ _ _ c0).mono ?_; rintro e w' ⟨rfl, rfl⟩) | (go_at_call 70; refine (fail_any _ _ 0 _ _ (by simpa using c0) (by simpa using f0)).mono ?_; rintro e w' ⟨rfl, rfl⟩))
        go_quiet (fail)
        go_wp2
        go_ret
        have hx : rdText s p 0 (k : Int) = (s.extract p (p + k), p + k, 0) := by
          rw [rdText, if_neg (by omega), if_neg (by omega), if_neg (by omega)]
          simp
        rw [hx]
        refine ⟨rfl, ?_, only_drewN (only_put (only_drewN (only_refl _ _) _) _ _) _⟩
        exact ((H.out.drewN _).put 2 _).drewN _
  · have he' : (e != 0) = true := by simpa using he
    go_enter Tryd.func63, Tryd.ntmps63
    go_wp2_with (first | (go_at_call 69; refine (failed_any _ _ _ _ c0).mono ?_; rintro e w' ⟨rfl, rfl⟩) | (go_at_call 70; refine (fail_any _ _ 0 _ _ (by simpa using c0) (by simpa using f0)).mono ?_; rintro e w' ⟨rfl, rfl⟩))
    go_ret
    have hx : rdText s p e n = (.empty, p, e) := by simp [rdText, he]
    rw [hx]
    exact ⟨rfl, H.out, only_refl _ _⟩


/-- What Byte() and Two() tell of the bytes that were read. -/
def byteOf (t : ByteArray) : Int := if h : 0 < t.size then (t[0].toNat : Int) else 0
def twoOf (t : ByteArray) : Int := if h : 1 < t.size then (t[0].toNat : Int) + (256 : Int) * (t[1].toNat : Int) else 0

theorem byte_any (b : Nat) (s : ByteArray) (p : Nat) (e : Int) (w : World) (h : Rd w b s p e) (hp : p ≤ s.size) (hs : s.size ≤ 9223372036854775807) :
    Calls Tryd.prog 55 #[.pointer (some ⟨b, 0, none⟩)] w fun r w' => r = .returned (.int .i64 (byteOf (rdText s p e 1).1)) ∧ Rd w' b s (rdText s p e 1).2.1 (rdText s p e 1).2.2 ∧ w.grownBy w' (some b) := by
  have ht := text_any b s p e 1 w h hp hs
  generalize rdText s p e 1 = x at ht ⊢
  obtain ⟨t, p', e'⟩ := x
  have HT := Lib.hid ht
  clear ht h
  by_cases hb : 0 < t.size
  · have hb' : (byteOf t) = (t[0].toNat : Int) := by simp [byteOf, hb]
    have HB := Lib.hid hb'
    clear hb'
    go_enter Tryd.func55, Tryd.ntmps55
    go_wp2_with (go_at_call 63; refine HT.out.mono ?_; rintro e w1 ⟨rfl, h1, h2⟩)
    go_ret
    exact ⟨ret_int (by rw [HB.out, w64_byte]), h1, h2⟩
  · have hb' : (byteOf t) = 0 := by simp [byteOf, hb]
    have HB := Lib.hid hb'
    have hz : t.size = 0 := by omega
    clear hb'
    go_enter Tryd.func55, Tryd.ntmps55
    go_wp2_with (go_at_call 63; refine HT.out.mono ?_; rintro e w1 ⟨rfl, h1, h2⟩)
    go_ret
    exact ⟨ret_int (by rw [HB.out]), h1, h2⟩

theorem rtwo_bytes (t : ByteArray) (h : 1 < t.size) : twoOf t = ((t[0].toNat : Int) % (256 : Int) + (256 : Int) * ((t[1].toNat : Int) % (256 : Int))) := by
  have h0 := t[0].toNat_lt
  have h1 := t[1].toNat_lt
  simp only [twoOf, h, dite_true]
  omega

theorem rdtwo_any (b : Nat) (s : ByteArray) (p : Nat) (e : Int) (w : World) (h : Rd w b s p e) (hp : p ≤ s.size) (hs : s.size ≤ 9223372036854775807) :
    Calls Tryd.prog 56 #[.pointer (some ⟨b, 0, none⟩)] w fun r w' => r = .returned (.int .i64 (twoOf (rdText s p e 2).1)) ∧ Rd w' b s (rdText s p e 2).2.1 (rdText s p e 2).2.2 ∧ w.grownBy w' (some b) := by
  have ht := text_any b s p e 2 w h hp hs
  generalize rdText s p e 2 = x at ht ⊢
  obtain ⟨t, p', e'⟩ := x
  have HT := Lib.hid ht
  clear ht h
  by_cases hb : 1 < t.size
  · have hb' := rtwo_bytes t hb
    have i0 : (0 : Int) < (t.size : Int) := by omega
    have i1 : (1 : Int) < (t.size : Int) := by omega
    have j0 : 0 < t.size := by omega
    have HB := Lib.hid hb'
    clear hb'
    go_enter Tryd.func56, Tryd.ntmps56
    go_wp2_with (first | (go_at_call 63; refine HT.out.mono ?_; rintro e w1 ⟨rfl, h1, h2⟩) | (go_at_call 39; refine (two_any _ _ _).mono ?_; rintro e w2 ⟨rfl, rfl⟩))
    go_quiet ((go_at_call 39; exact quiet_same (two_any _ _ _)))
    go_wp2
    go_ret
    exact ⟨ret_int (by rw [HB.out, w64_byte, w64_byte]), h1.drewN _, only_drewN h2 _⟩
  · have hb' : (twoOf t) = 0 := by simp [twoOf, hb]
    have HB := Lib.hid hb'
    have hz : t.size < 2 := by omega
    clear hb'
    go_enter Tryd.func56, Tryd.ntmps56
    go_wp2_with (first | (go_at_call 63; refine HT.out.mono ?_; rintro e w1 ⟨rfl, h1, h2⟩) | (go_at_call 39; refine (two_any _ _ _).mono ?_; rintro e w2 ⟨rfl, rfl⟩))
    go_ret
    exact ⟨ret_int (by rw [HB.out]), h1, h2⟩

theorem err_any (b : Nat) (s : ByteArray) (p : Nat) (e : Int) (w : World) (h : Rd w b s p e) :
    Calls Tryd.prog 57 #[.pointer (some ⟨b, 0, none⟩)] w fun r w' => r = .returned (.int .i64 e) ∧ w = w' := by
  have c0 : w.cell? ⟨b, 0, none⟩ = some (.int .i64 e) := h.cell 0
  clear h
  go_enter Tryd.func57, Tryd.ntmps57
  go_wp2
  go_ret
  exact ⟨rfl, rfl⟩

def leftOf (s : ByteArray) (p : Nat) (e : Int) : Int := if e = 0 then (s.size : Int) - p else 0

end Go.Proofs.YtpolkioaagahhaaDoor

/- The writer of package bits: each call by its contract. -/
namespace Go.Proofs.YtpolkioaagahhaaDoor
open Go.RowKit Go.Lib
set_option linter.unusedVariables false
set_option maxRecDepth 4000

def byteCells (l : List UInt8) : List Value := l.map fun b => .int .u8 (b.toNat : Int)

/-- The bytes that a step writes, or that it cannot be written. -/
def stepBytes (d n : Int) (t : ByteArray) : Option (List UInt8) :=
  if d = 0 then (if 0 ≤ n ∧ n ≤ 255 then some [UInt8.ofNat n.toNat] else none)
  else if d = 1 then (if 0 ≤ n ∧ n ≤ 65535 then some (Bt.put n).data.toList else none)
  else some t.data.toList
def wrNext (o : Option (List UInt8)) (d n : Int) (t : ByteArray) : Option (List UInt8) := o.bind fun l => (stepBytes d n t).map fun x => l ++ x

theorem u8_info : (Tryd.prog.info? 5).map (fun i => (i.zero, i.size, i.bytes)) = some (some (.int .u8 0), 1, 1) := by kernel_rfl

/-- append of a string's bytes onto what the call owns, as1 one step of a region that draws. -/
theorem step_append_str {P : Program} {ops : Array Oper} {o : Oper} {a : Act} {w : World} {K : Act → World → Prop} {Q : Exit → Act → World → Prop} {E : Prop} (hgd : o.guard = none) (sl x : Operand) (t u : TypeId)
    (ho : o.op = .call { callee := .builtin .append, args := #[sl, x], argTypes := #[t, u] })
    (base : Nat) (e : TypeId) (i : TypeInfo) (ht : P.underlying t = some (.slice e)) (hu : P.underlying u = some .string) (hi : P.info? e = some i) (hz : i.zero = some (.int .u8 0))
    (hsize : i.size = 1) (hby : i.bytes = 1)
    (v : Value) (n : Nat) (xs : List Value) (hs : a.eval sl = v) (hown : w.ownsRow base e 1 v n xs) (s : ByteArray) (hx : a.eval x = .string s)
    (h63 : n + s.size ≤ maxLen) (hbytes : n + s.size ≤ 140737488355328) (hbase : base ≤ w.heap.size)
    (h : ∀ v' w', w'.ownsRow base e 1 v' (n + s.size) (xs ++ strCells s) → w.grownBy w' v.ownBlock → K (a.put o.dst v') w') :
    if Region.wanted o (yielded ops a.tmps) = true then Oper.wp P o a w K Q else E := by
  have hw : Region.wanted o (yielded ops a.tmps) = true := by simp [Region.wanted, hgd]
  rw [if_pos hw]
  obtain ⟨v', w', hr, h2, h3, h4⟩ := run_append_own_string (P := P) w base t u o.type e i ht hu hi hz hsize hby v n xs hown s h63 hbytes hbase
  unfold Oper.wp execOp
  simp only [ho, resolve, invoke, builtin, Sem.run_bind, Sem.run_pure, Result.andThen_ok, List.map_toArray, List.map_cons, List.map_nil, hs, hx, hr]
  exact h v' w' h2 h3

theorem put_bytes (n : Int) : (Bt.put n).size = 2 := rfl

/-- The error of what steps write. -/
def errOf (o : Option (List UInt8)) : Int := if o.isSome then 0 else 2
/-- The bytes of what steps write. -/
def textFor (o : Option (List UInt8)) : ByteArray := ⟨(o.getD []).toArray⟩

theorem strOfNums_bytes (l : List UInt8) : strOfNums (l.map fun b => (b.toNat : Int)) = ⟨l.toArray⟩ := by
  have h : strOfNums (l.map fun b => (b.toNat : Int)) = (l.map fun b => (b.toNat : Int)).foldl (fun r n => r.push (UInt8.ofNat n.toNat)) ByteArray.empty := by
    rw [foldl_push_bytes]
    simp [strOfNums]
  rw [h, foldl_push_byteCells]
  simp

end Go.Proofs.YtpolkioaagahhaaDoor

/- Package code: the codes' names, and the small functions, by their contracts. -/
namespace Go.Proofs.YtpolkioaagahhaaDoor
open Go.RowKit Go.Lib
set_option linter.unusedVariables false

/-- The codes' names. -/
def nmX : Nat → List UInt8
  | 0 => [115, 116, 111, 112]
  | 1 => [115, 101, 116]
  | 2 => [109, 111, 118, 101]
  | 3 => [97, 100, 100]
  | 4 => [115, 117, 98]
  | 5 => [97, 110, 100]
  | 6 => [120, 111, 114]
  | 7 => [114, 101, 97, 100]
  | 8 => [119, 114, 105, 116, 101]
  | 9 => [114, 101, 97, 100, 50]
  | 10 => [119, 114, 105, 116, 101, 50]
  | 11 => [106, 117, 109, 112]
  | 12 => [122, 101, 114, 111]
  | 13 => [108, 101, 115, 115]
  | 14 => [99, 97, 108, 108]
  | 15 => [114, 101, 115, 116]
  | _ => []
def nmL (k : Nat) : ByteArray := ⟨(nmX k).toArray⟩
/-- Where the package's table stands as1 it was laid. -/
structure Nm (w : World) : Prop where
  at' : ∀ k, k < 16 → w.cell? ⟨0, k, none⟩ = some (.string (nmL k))
  pos : 0 < w.heap.size
theorem Nm.grown {w w' : World} {r : Option Nat} (h : Nm w) (g : w.grownBy w' r) (hr : r ≠ some 0) : Nm w' :=
  ⟨fun k hk => by
    have := g.block 0 h.pos (fun e => hr e.symm)
    rw [show w'.cell? ⟨0, k, none⟩ = w.cell? ⟨0, k, none⟩ by simp only [World.cell?, this]]
    exact h.at' k hk, Nat.lt_of_lt_of_le h.pos g.size⟩
theorem Nm.below {B : Nat} {w w' : World} (h : Nm w) (hb : Below B w w') (hB : 0 < B) : Nm w' :=
  ⟨fun k hk => (hb.cell (p := ⟨0, k, none⟩) hB).trans (h.at' k hk), Nat.lt_of_lt_of_le h.pos hb.size⟩
theorem nm_one : ∀ i : Fin 16, ∀ j : Fin 16, nmX i.val = nmX j.val → i = j := by decide +kernel
theorem nmL_one {i j : Nat} (hi : i < 16) (hj : j < 16) (h : nmL i = nmL j) : i = j := by
  have h' : nmX i = nmX j := by
    have := congrArg (fun b : ByteArray => b.data.toList) h
    simpa [nmL] using this
  have := nm_one ⟨i, hi⟩ ⟨j, hj⟩ h'
  simpa using this
theorem nmL_some : ∀ i : Fin 16, nmX i.val ≠ [] := by decide +kernel
theorem nmL_none {k : Nat} (h : 16 ≤ k) : nmL k = ⟨#[]⟩ := by
  have : nmX k = [] := by
    obtain ⟨j, rfl⟩ : ∃ j, k = j + 16 := ⟨k - 16, by omega⟩
    rfl
  unfold nmL
  rw [this]
/-- The code of a name, if it is one. -/
def ndF (t : ByteArray) : Nat → Int × Bool
  | 0 => (0, false)
  | k + 1 => if nmX k = t.data.toList then ((k : Int), true) else ndF t k
def ndV (t : ByteArray) : Int × Bool := ndF t 16
theorem nmX_eq {k : Nat} {t : ByteArray} : nmX k = t.data.toList ↔ nmL k = t := by
  constructor
  · intro h
    unfold nmL
    rw [h]
  · rintro rfl
    simp [nmL]
theorem ndF_at {t : ByteArray} {k : Nat} (hk : k < 16) (h : nmL k = t) : ∀ n, k < n → n ≤ 16 → ndF t n = ((k : Int), true)
  | 0, h0, _ => by omega
  | n + 1, h0, h1 => by
    unfold ndF
    by_cases e : nmX n = t.data.toList
    · have := nmL_one (i := k) (j := n) hk (by omega) (h.trans (nmX_eq.1 e).symm)
      rw [if_pos e, this]
    · rw [if_neg e]
      refine ndF_at hk h n ?_ (by omega)
      have : k ≠ n := by
        rintro rfl
        exact e (nmX_eq.2 h)
      omega
theorem ndF_none {t : ByteArray} : ∀ n, (∀ k, k < n → nmL k ≠ t) → ndF t n = (0, false)
  | 0, _ => rfl
  | n + 1, h => by
    unfold ndF
    rw [if_neg (fun e => h n (by omega) (nmX_eq.1 e))]
    exact ndF_none n (fun k hk => h k (by omega))
theorem ndV_at {t : ByteArray} {k : Nat} (hk : k < 16) (h : nmL k = t) : ndV t = ((k : Int), true) := ndF_at hk h 16 hk (by omega)
theorem ndV_none {t : ByteArray} (h : ∀ k, k < 16 → nmL k ≠ t) : ndV t = (0, false) := ndF_none 16 h
theorem str_ne19 {a b : ByteArray} (h : a ≠ b) : (a.toList == b.toList) = false := by
  apply beq_eq_false_iff_ne.2
  intro he
  rw [ByteArray.toList_eq, ByteArray.toList_eq] at he
  apply h
  obtain ⟨x⟩ := a
  obtain ⟨y⟩ := b
  simp at he
  rw [he]
theorem name_any (k : Nat) (hk : k < 256) (w : World) (hG : Nm w) : Calls Tryd.prog 64 #[.int .u8 k] w fun e w' => e = .returned (.string (nmL k)) ∧ w = w' := by
  have hw : IntKind.i64.wrap (k : Int) = (k : Int) := by rw [IntKind.wrap_i64]; omega
  by_cases h : k < 16
  · have c := hG.at' k h
    have i0 : ¬ (16 : Int) ≤ (k : Int) := by omega
    have i1 : (k : Int) < 16 := by omega
    have i2 : (0 : Int) ≤ (k : Int) := by omega
    clear hG
    go_enter Tryd.func64, Tryd.ntmps64
    go_wp2
    go_ret
    exact ⟨rfl, rfl⟩
  · have i0 : (16 : Int) ≤ (k : Int) := by omega
    have e : nmL k = ⟨#[]⟩ := nmL_none (by omega)
    rw [e]
    clear hG e
    go_enter Tryd.func64, Tryd.ntmps64
    go_wp2
    go_ret
    exact ⟨rfl, rfl⟩
/-- Is a code's N a register. -/
def rgB (k : Nat) : Bool := decide (2 ≤ k ∧ k ≤ 10)
theorem register_any (k : Nat) (hk : k < 256) (w : World) : Calls Tryd.prog 71 #[.int .u8 k] w fun e w' => e = .returned (.bool (rgB k)) ∧ w = w' := by
  by_cases h : k < 11
  · have key : k = 0 ∨ k = 1 ∨ k = 2 ∨ k = 3 ∨ k = 4 ∨ k = 5 ∨ k = 6 ∨ k = 7 ∨ k = 8 ∨ k = 9 ∨ k = 10 := by omega
    rcases key with rfl | rfl | rfl | rfl | rfl | rfl | rfl | rfl | rfl | rfl | rfl
    all_goals
      go_enter Tryd.func71, Tryd.ntmps71
      go_wp2
      go_ret
      exact ⟨rfl, rfl⟩
  · have e : rgB k = false := by unfold rgB; simp; omega
    have i2 : ((k : Int) == 2) = false := by rw [beq_eq_false_iff_ne]; omega
    have i3 : ((k : Int) == 3) = false := by rw [beq_eq_false_iff_ne]; omega
    have i4 : ((k : Int) == 4) = false := by rw [beq_eq_false_iff_ne]; omega
    have i5 : ((k : Int) == 5) = false := by rw [beq_eq_false_iff_ne]; omega
    have i6 : ((k : Int) == 6) = false := by rw [beq_eq_false_iff_ne]; omega
    have i7 : ((k : Int) == 7) = false := by rw [beq_eq_false_iff_ne]; omega
    have i8 : ((k : Int) == 8) = false := by rw [beq_eq_false_iff_ne]; omega
    have i9 : ((k : Int) == 9) = false := by rw [beq_eq_false_iff_ne]; omega
    have i10 : ((k : Int) == 10) = false := by rw [beq_eq_false_iff_ne]; omega
    rw [e]
    clear e h
    go_enter Tryd.func71, Tryd.ntmps71
    go_wp2
    go_ret
    exact ⟨rfl, rfl⟩
def mxX (k : Nat) : Int := if k = 0 ∨ k = 15 ∨ k = 11 then 0 else 7
def mxN (k : Nat) : Int := if k = 0 ∨ k = 15 then 0 else if rgB k then 7 else 65535
theorem mostx_any (k : Nat) (hk : k < 256) (w : World) : Calls Tryd.prog 66 #[.int .u8 k] w fun e w' => e = .returned (.int .i64 (mxX k)) ∧ w = w' := by
  by_cases h : k = 0 ∨ k = 15 ∨ k = 11
  · rcases h with rfl | rfl | rfl
    all_goals
      go_enter Tryd.func66, Tryd.ntmps66
      go_wp2
      go_ret
      exact ⟨rfl, rfl⟩
  · have e : mxX k = 7 := by unfold mxX; rw [if_neg h]
    have i0 : ((k : Int) == 0) = false := by rw [beq_eq_false_iff_ne]; omega
    have i1 : ((k : Int) == 15) = false := by rw [beq_eq_false_iff_ne]; omega
    have i2 : ((k : Int) == 11) = false := by rw [beq_eq_false_iff_ne]; omega
    rw [e]
    clear e h
    go_enter Tryd.func66, Tryd.ntmps66
    go_wp2
    go_ret
    exact ⟨rfl, rfl⟩
theorem mostn_any (k : Nat) (hk : k < 256) (w : World) : Calls Tryd.prog 67 #[.int .u8 k] w fun e w' => e = .returned (.int .i64 (mxN k)) ∧ w = w' := by
  have HR := Lib.hid (fun W => register_any k hk W)
  by_cases h : k = 0 ∨ k = 15
  · clear HR
    rcases h with rfl | rfl
    all_goals
      go_enter Tryd.func67, Tryd.ntmps67
      go_wp2
      go_ret
      exact ⟨rfl, rfl⟩
  · have e : mxN k = if rgB k then 7 else 65535 := by unfold mxN; rw [if_neg h]
    have i0 : ((k : Int) == 0) = false := by rw [beq_eq_false_iff_ne]; omega
    have i1 : ((k : Int) == 15) = false := by rw [beq_eq_false_iff_ne]; omega
    rw [e]
    clear e h
    generalize rgB k = r at HR
    cases r
    all_goals
      go_enter Tryd.func67, Tryd.ntmps67
      go_wp2_with (go_at_call 71; (with_reducible refine (HR.out _).mono ?_); rintro e w1 ⟨rfl, rfl⟩)
      go_ret
      exact ⟨rfl, rfl⟩
theorem upto_any (n m : Int) (w : World) : Calls Tryd.prog 65 #[.int .i64 n, .int .i64 m] w fun e w' => e = .returned (.bool (decide (0 ≤ n ∧ n ≤ m))) ∧ w = w' := by
  by_cases h : 0 ≤ n
  · go_enter Tryd.func65, Tryd.ntmps65
    go_wp2
    go_ret
    exact ⟨by simp [h], rfl⟩
  · go_enter Tryd.func65, Tryd.ntmps65
    go_wp2
    go_ret
    exact ⟨by first | (simp [h]; done) | (simp; omega), rfl⟩
end Go.Proofs.YtpolkioaagahhaaDoor

/- Package code: a name's code, what may be, by their contracts. -/
namespace Go.Proofs.YtpolkioaagahhaaDoor
open Go.RowKit Go.Lib
set_option linter.unusedVariables false

theorem nm_index (k : Nat) (hk : k < 16) (w : World) : (Instr.index 109 (.agg #[.string (nmL 0), .string (nmL 1), .string (nmL 2), .string (nmL 3), .string (nmL 4), .string (nmL 5), .string (nmL 6), .string (nmL 7), .string (nmL 8), .string (nmL 9), .string (nmL 10), .string (nmL 11), .string (nmL 12), .string (nmL 13), .string (nmL 14), .string (nmL 15)]) (.int .i64 k)).run Tryd.prog w = .ok (.string (nmL k)) w := by
  have key : k = 0 ∨ k = 1 ∨ k = 2 ∨ k = 3 ∨ k = 4 ∨ k = 5 ∨ k = 6 ∨ k = 7 ∨ k = 8 ∨ k = 9 ∨ k = 10 ∨ k = 11 ∨ k = 12 ∨ k = 13 ∨ k = 14 ∨ k = 15 := by omega
  rcases key with rfl | rfl | rfl | rfl | rfl | rfl | rfl | rfl | rfl | rfl | rfl | rfl | rfl | rfl | rfl | rfl
  all_goals (show Sem.run _ _ w = _; kernel_rfl)
/-- An instruction that may be. -/
def mayI (k : Nat) (x n : Int) : Bool := decide (k < 16) && decide (0 ≤ x ∧ x ≤ mxX k) && decide (0 ≤ n ∧ n ≤ mxN k)
end Go.Proofs.YtpolkioaagahhaaDoor

/- Package code, and the document's word: which instructions may be, by their contracts. -/
namespace Go.Proofs.YtpolkioaagahhaaDoor
open Go.RowKit Go.Lib
set_option linter.unusedVariables false

theorem ibox (w : World) (t : TypeId) (cs : Array Value) : ∃ W, W = w.alloc (.cells cs t) ∧ w.grownBy W none ∧ Blk W w.heap.size t cs := ⟨_, rfl, only_alloc (only_refl _ _) _, Blk.new w t cs⟩
theorem in3 {W : World} {g : Nat} {t : TypeId} {a b c : Value} (h : Blk W g t #[a, b, c]) : W.cell? ⟨g, 0, none⟩ = some a ∧ W.cell? ⟨g, 1, none⟩ = some b ∧ W.cell? ⟨g, 2, none⟩ = some c := ⟨h.cell 0, h.cell 1, h.cell 2⟩
theorem nm_some {k : Nat} (h : k < 16) : nmL k ≠ ⟨#[]⟩ := by
  intro e
  have := nmL_some ⟨k, h⟩
  apply this
  have := congrArg (fun b : ByteArray => b.data.toList) e
  simpa [nmL] using this
set_option maxHeartbeats 1600000 in
theorem may_any (k : Nat) (x n : Int) (hk : k < 256) (w : World) (hG : Nm w) : Calls Tryd.prog 58 #[.agg #[.int .u8 k, .int .i64 x, .int .i64 n]] w fun e w' => e = .returned (.bool (mayI k x n)) ∧ w.grownBy w' none := by
  obtain ⟨W1, hW, g1, hB⟩ := ibox w 67 #[.int .u8 k, .int .i64 x, .int .i64 n]
  obtain ⟨c0, c1, c2⟩ := in3 hB
  have HN := Lib.hid (fun q => name_any k hk (W1.drewN q) (hG.grown (only_drewN g1 q) (by simp)))
  have HX := Lib.hid (fun W => mostx_any k hk W)
  have HM := Lib.hid (fun W => mostn_any k hk W)
  have HUX := Lib.hid (fun W => upto_any x (mxX k) W)
  have HUN := Lib.hid (fun W => upto_any n (mxN k) W)
  have HV := Lib.hid (show mayI k x n = (decide (k < 16) && decide (0 ≤ x ∧ x ≤ mxX k) && decide (0 ≤ n ∧ n ≤ mxN k)) from rfl)
  have HG := Lib.hid g1
  clear hB g1 hG
  generalize mayI k x n = r at HV ⊢
  generalize decide (0 ≤ x ∧ x ≤ mxX k) = bx at HUX HV
  generalize decide (0 ≤ n ∧ n ≤ mxN k) = bn at HUN HV
  generalize mxX k = mx at *
  generalize mxN k = mn at *
  by_cases h : k < 16
  · have hne := str_ne19 (nm_some h)
    have hne2 : (nmL k).toList ≠ [] := by
      intro e
      rw [e] at hne
      simp at hne
    rw [decide_eq_true h] at HV
    generalize nmL k = nm at *
    cases bx <;> cases bn
    all_goals
      go_enter Tryd.func58, Tryd.ntmps58
      go_upto_region 1 with (fail)
      rw [← hW]
      clear hW
      go_quiet (first
        | (go_at_call 64; with_reducible exact quiet_same (HN.out _))
        | (go_at_call 66; with_reducible exact quiet_same (HX.out _))
        | (go_at_call 67; with_reducible exact quiet_same (HM.out _))
        | (go_at_call 65; with_reducible exact quiet_same (HUX.out _))
        | (go_at_call 65; with_reducible exact quiet_same (HUN.out _)))
      go_wp2
      go_ret
      exact ⟨by rw [HV.out]; first | rfl | (simp; done) | (simp; exact hne2), only_drewN HG.out _⟩
  · have he : nmL k = ⟨#[]⟩ := nmL_none (by omega)
    rw [decide_eq_false h] at HV
    rw [he] at HN
    go_enter Tryd.func58, Tryd.ntmps58
    go_upto_region 1 with (fail)
    rw [← hW]
    clear hW
    go_quiet (first
      | (go_at_call 64; with_reducible exact quiet_same (HN.out _))
      | (go_at_call 66; with_reducible exact quiet_same (HX.out _))
      | (go_at_call 67; with_reducible exact quiet_same (HM.out _))
      | (go_at_call 65; with_reducible exact quiet_same (HUX.out _))
      | (go_at_call 65; with_reducible exact quiet_same (HUN.out _)))
    go_wp2
    go_ret
    exact ⟨by rw [HV.out]; first | rfl | (simp; done) | (simp; exact hne2), only_drewN HG.out _⟩
theorem mayI_iff {k : Nat} {x n : Int} : mayI k x n = true ↔ k < 16 ∧ (0 ≤ x ∧ x ≤ mxX k) ∧ (0 ≤ n ∧ n ≤ mxN k) := by
  unfold mayI
  simp [and_assoc]
theorem mayI_facts {k : Nat} {x n : Int} (h : mayI k x n = true) : k < 16 ∧ 0 ≤ x ∧ x ≤ 7 ∧ 0 ≤ n ∧ n ≤ 65535 := by
  obtain ⟨h1, h2, h3⟩ := mayI_iff.1 h
  have e1 : mxX k ≤ 7 := by unfold mxX; split <;> omega
  have e2 : mxN k ≤ 65535 := by unfold mxN; split <;> (try split) <;> omega
  omega
set_option maxHeartbeats 1600000 in
theorem rmay_s0 (k : Nat) (x n : Int) (w : World) (h1 : k < 16 ∧ 0 ≤ x ∧ x ≤ 7 ∧ 0 ≤ n ∧ n ≤ 65535) (hk : k = 0) (hn : n ≠ 0) : Calls Tryd.prog 50 #[.agg #[.int .u8 k, .int .i64 x, .int .i64 n]] w fun e w' => e = .returned (.bool false) ∧ w.grownBy w' none := by
  obtain ⟨W1, hW, g1, hB⟩ := ibox w 67 #[.int .u8 k, .int .i64 x, .int .i64 n]
  obtain ⟨c0, c1, c2⟩ := in3 hB
  have hw : IntKind.i64.wrap (k : Int) = (k : Int) := by rw [IntKind.wrap_i64]; omega
  have HG := Lib.hid g1
  obtain ⟨k1, x1, x2, n1, n2⟩ := h1
  have b0 : ¬ (15 : Int) < k := by omega
  have b1 : ¬ x < 0 := by omega
  have b2 : ¬ 7 < x := by omega
  have b3 : ¬ n < 0 := by omega
  have b4 : ¬ 65535 < n := by omega
  clear hB g1
  have z0 : ((k : Int) == 0) = true := by rw [beq_iff_eq]; omega
  have z0n : ((k : Int) != 0) = false := by rw [bne_eq_false_iff_eq]; omega
  have z1 : ((k : Int) == 15) = false := by rw [beq_eq_false_iff_ne]; omega
  have z1n : ((k : Int) != 15) = true := by rw [bne_iff_ne]; omega
  have z2 : ((k : Int) == 11) = false := by rw [beq_eq_false_iff_ne]; omega
  have z2n : ((k : Int) != 11) = true := by rw [bne_iff_ne]; omega
  have z3 : ¬ (2 : Int) ≤ k := by omega
  have y0 : (n == 0) = false := by rw [beq_eq_false_iff_ne]; omega
  have y1 : (n != 0) = true := by rw [bne_iff_ne]; omega
  clear hk hn
  go_enter Tryd.func50, Tryd.ntmps50
  go_upto_region 1 with (fail)
  rw [← hW]
  clear hW
  go_wp2
  go_ret
  exact ⟨by first | rfl | simp, HG.out⟩
set_option maxHeartbeats 1600000 in
theorem rmay_s0z (k : Nat) (x n : Int) (w : World) (h1 : k < 16 ∧ 0 ≤ x ∧ x ≤ 7 ∧ 0 ≤ n ∧ n ≤ 65535) (hk : k = 0) (hn : n = 0) : Calls Tryd.prog 50 #[.agg #[.int .u8 k, .int .i64 x, .int .i64 n]] w fun e w' => e = .returned (.bool (x == 0)) ∧ w.grownBy w' none := by
  obtain ⟨W1, hW, g1, hB⟩ := ibox w 67 #[.int .u8 k, .int .i64 x, .int .i64 n]
  obtain ⟨c0, c1, c2⟩ := in3 hB
  have hw : IntKind.i64.wrap (k : Int) = (k : Int) := by rw [IntKind.wrap_i64]; omega
  have HG := Lib.hid g1
  obtain ⟨k1, x1, x2, n1, n2⟩ := h1
  have b0 : ¬ (15 : Int) < k := by omega
  have b1 : ¬ x < 0 := by omega
  have b2 : ¬ 7 < x := by omega
  have b3 : ¬ n < 0 := by omega
  have b4 : ¬ 65535 < n := by omega
  clear hB g1
  have z0 : ((k : Int) == 0) = true := by rw [beq_iff_eq]; omega
  have z0n : ((k : Int) != 0) = false := by rw [bne_eq_false_iff_eq]; omega
  have z1 : ((k : Int) == 15) = false := by rw [beq_eq_false_iff_ne]; omega
  have z1n : ((k : Int) != 15) = true := by rw [bne_iff_ne]; omega
  have z2 : ((k : Int) == 11) = false := by rw [beq_eq_false_iff_ne]; omega
  have z2n : ((k : Int) != 11) = true := by rw [bne_iff_ne]; omega
  have z3 : ¬ (2 : Int) ≤ k := by omega
  have y0 : (n == 0) = true := by rw [beq_iff_eq]; omega
  have y1 : (n != 0) = false := by rw [bne_eq_false_iff_eq]; omega
  clear hk hn
  go_enter Tryd.func50, Tryd.ntmps50
  go_upto_region 1 with (fail)
  rw [← hW]
  clear hW
  go_wp2
  go_ret
  exact ⟨by first | rfl | simp, HG.out⟩
set_option maxHeartbeats 1600000 in
theorem rmay_s15 (k : Nat) (x n : Int) (w : World) (h1 : k < 16 ∧ 0 ≤ x ∧ x ≤ 7 ∧ 0 ≤ n ∧ n ≤ 65535) (hk : k = 15) (hn : n ≠ 0) : Calls Tryd.prog 50 #[.agg #[.int .u8 k, .int .i64 x, .int .i64 n]] w fun e w' => e = .returned (.bool false) ∧ w.grownBy w' none := by
  obtain ⟨W1, hW, g1, hB⟩ := ibox w 67 #[.int .u8 k, .int .i64 x, .int .i64 n]
  obtain ⟨c0, c1, c2⟩ := in3 hB
  have hw : IntKind.i64.wrap (k : Int) = (k : Int) := by rw [IntKind.wrap_i64]; omega
  have HG := Lib.hid g1
  obtain ⟨k1, x1, x2, n1, n2⟩ := h1
  have b0 : ¬ (15 : Int) < k := by omega
  have b1 : ¬ x < 0 := by omega
  have b2 : ¬ 7 < x := by omega
  have b3 : ¬ n < 0 := by omega
  have b4 : ¬ 65535 < n := by omega
  clear hB g1
  have z0 : ((k : Int) == 0) = false := by rw [beq_eq_false_iff_ne]; omega
  have z0n : ((k : Int) != 0) = true := by rw [bne_iff_ne]; omega
  have z1 : ((k : Int) == 15) = true := by rw [beq_iff_eq]; omega
  have z1n : ((k : Int) != 15) = false := by rw [bne_eq_false_iff_eq]; omega
  have z2 : ((k : Int) == 11) = false := by rw [beq_eq_false_iff_ne]; omega
  have z2n : ((k : Int) != 11) = true := by rw [bne_iff_ne]; omega
  have z3 : (2 : Int) ≤ k := by omega
  have z4 : ¬ (k : Int) ≤ 10 := by omega
  have y0 : (n == 0) = false := by rw [beq_eq_false_iff_ne]; omega
  have y1 : (n != 0) = true := by rw [bne_iff_ne]; omega
  clear hk hn
  go_enter Tryd.func50, Tryd.ntmps50
  go_upto_region 1 with (fail)
  rw [← hW]
  clear hW
  go_wp2
  go_ret
  exact ⟨by first | rfl | simp, HG.out⟩
set_option maxHeartbeats 1600000 in
theorem rmay_s15z (k : Nat) (x n : Int) (w : World) (h1 : k < 16 ∧ 0 ≤ x ∧ x ≤ 7 ∧ 0 ≤ n ∧ n ≤ 65535) (hk : k = 15) (hn : n = 0) : Calls Tryd.prog 50 #[.agg #[.int .u8 k, .int .i64 x, .int .i64 n]] w fun e w' => e = .returned (.bool (x == 0)) ∧ w.grownBy w' none := by
  obtain ⟨W1, hW, g1, hB⟩ := ibox w 67 #[.int .u8 k, .int .i64 x, .int .i64 n]
  obtain ⟨c0, c1, c2⟩ := in3 hB
  have hw : IntKind.i64.wrap (k : Int) = (k : Int) := by rw [IntKind.wrap_i64]; omega
  have HG := Lib.hid g1
  obtain ⟨k1, x1, x2, n1, n2⟩ := h1
  have b0 : ¬ (15 : Int) < k := by omega
  have b1 : ¬ x < 0 := by omega
  have b2 : ¬ 7 < x := by omega
  have b3 : ¬ n < 0 := by omega
  have b4 : ¬ 65535 < n := by omega
  clear hB g1
  have z0 : ((k : Int) == 0) = false := by rw [beq_eq_false_iff_ne]; omega
  have z0n : ((k : Int) != 0) = true := by rw [bne_iff_ne]; omega
  have z1 : ((k : Int) == 15) = true := by rw [beq_iff_eq]; omega
  have z1n : ((k : Int) != 15) = false := by rw [bne_eq_false_iff_eq]; omega
  have z2 : ((k : Int) == 11) = false := by rw [beq_eq_false_iff_ne]; omega
  have z2n : ((k : Int) != 11) = true := by rw [bne_iff_ne]; omega
  have z3 : (2 : Int) ≤ k := by omega
  have z4 : ¬ (k : Int) ≤ 10 := by omega
  have y0 : (n == 0) = true := by rw [beq_iff_eq]; omega
  have y1 : (n != 0) = false := by rw [bne_eq_false_iff_eq]; omega
  clear hk hn
  go_enter Tryd.func50, Tryd.ntmps50
  go_upto_region 1 with (fail)
  rw [← hW]
  clear hW
  go_wp2
  go_ret
  exact ⟨by first | rfl | simp, HG.out⟩
set_option maxHeartbeats 1600000 in
theorem rmay_j (k : Nat) (x n : Int) (w : World) (h1 : k < 16 ∧ 0 ≤ x ∧ x ≤ 7 ∧ 0 ≤ n ∧ n ≤ 65535) (hk : k = 11) : Calls Tryd.prog 50 #[.agg #[.int .u8 k, .int .i64 x, .int .i64 n]] w fun e w' => e = .returned (.bool (x == 0)) ∧ w.grownBy w' none := by
  obtain ⟨W1, hW, g1, hB⟩ := ibox w 67 #[.int .u8 k, .int .i64 x, .int .i64 n]
  obtain ⟨c0, c1, c2⟩ := in3 hB
  have hw : IntKind.i64.wrap (k : Int) = (k : Int) := by rw [IntKind.wrap_i64]; omega
  have HG := Lib.hid g1
  obtain ⟨k1, x1, x2, n1, n2⟩ := h1
  have b0 : ¬ (15 : Int) < k := by omega
  have b1 : ¬ x < 0 := by omega
  have b2 : ¬ 7 < x := by omega
  have b3 : ¬ n < 0 := by omega
  have b4 : ¬ 65535 < n := by omega
  clear hB g1
  have z0 : ((k : Int) == 0) = false := by rw [beq_eq_false_iff_ne]; omega
  have z0n : ((k : Int) != 0) = true := by rw [bne_iff_ne]; omega
  have z1 : ((k : Int) == 15) = false := by rw [beq_eq_false_iff_ne]; omega
  have z1n : ((k : Int) != 15) = true := by rw [bne_iff_ne]; omega
  have z2 : ((k : Int) == 11) = true := by rw [beq_iff_eq]; omega
  have z2n : ((k : Int) != 11) = false := by rw [bne_eq_false_iff_eq]; omega
  have z3 : (2 : Int) ≤ k := by omega
  have z4 : ¬ (k : Int) ≤ 10 := by omega
  clear hk
  go_enter Tryd.func50, Tryd.ntmps50
  go_upto_region 1 with (fail)
  rw [← hW]
  clear hW
  go_wp2
  go_ret
  exact ⟨by first | rfl | simp, HG.out⟩
set_option maxHeartbeats 1600000 in
theorem rmay_r (k : Nat) (x n : Int) (w : World) (h1 : k < 16 ∧ 0 ≤ x ∧ x ≤ 7 ∧ 0 ≤ n ∧ n ≤ 65535) (hk : 2 ≤ k ∧ k ≤ 10) (hn : n ≤ 7) : Calls Tryd.prog 50 #[.agg #[.int .u8 k, .int .i64 x, .int .i64 n]] w fun e w' => e = .returned (.bool true) ∧ w.grownBy w' none := by
  obtain ⟨W1, hW, g1, hB⟩ := ibox w 67 #[.int .u8 k, .int .i64 x, .int .i64 n]
  obtain ⟨c0, c1, c2⟩ := in3 hB
  have hw : IntKind.i64.wrap (k : Int) = (k : Int) := by rw [IntKind.wrap_i64]; omega
  have HG := Lib.hid g1
  obtain ⟨k1, x1, x2, n1, n2⟩ := h1
  have b0 : ¬ (15 : Int) < k := by omega
  have b1 : ¬ x < 0 := by omega
  have b2 : ¬ 7 < x := by omega
  have b3 : ¬ n < 0 := by omega
  have b4 : ¬ 65535 < n := by omega
  clear hB g1
  have z0 : ((k : Int) == 0) = false := by rw [beq_eq_false_iff_ne]; omega
  have z0n : ((k : Int) != 0) = true := by rw [bne_iff_ne]; omega
  have z1 : ((k : Int) == 15) = false := by rw [beq_eq_false_iff_ne]; omega
  have z1n : ((k : Int) != 15) = true := by rw [bne_iff_ne]; omega
  have z2 : ((k : Int) == 11) = false := by rw [beq_eq_false_iff_ne]; omega
  have z2n : ((k : Int) != 11) = true := by rw [bne_iff_ne]; omega
  have z3 : (2 : Int) ≤ k := by omega
  have z4 : (k : Int) ≤ 10 := by omega
  have y7 : ¬ 7 < n := by omega
  clear hk hn
  go_enter Tryd.func50, Tryd.ntmps50
  go_upto_region 1 with (fail)
  rw [← hW]
  clear hW
  go_wp2
  go_ret
  exact ⟨by first | rfl | simp, HG.out⟩
set_option maxHeartbeats 1600000 in
theorem rmay_rn (k : Nat) (x n : Int) (w : World) (h1 : k < 16 ∧ 0 ≤ x ∧ x ≤ 7 ∧ 0 ≤ n ∧ n ≤ 65535) (hk : 2 ≤ k ∧ k ≤ 10) (hn : 7 < n) : Calls Tryd.prog 50 #[.agg #[.int .u8 k, .int .i64 x, .int .i64 n]] w fun e w' => e = .returned (.bool false) ∧ w.grownBy w' none := by
  obtain ⟨W1, hW, g1, hB⟩ := ibox w 67 #[.int .u8 k, .int .i64 x, .int .i64 n]
  obtain ⟨c0, c1, c2⟩ := in3 hB
  have hw : IntKind.i64.wrap (k : Int) = (k : Int) := by rw [IntKind.wrap_i64]; omega
  have HG := Lib.hid g1
  obtain ⟨k1, x1, x2, n1, n2⟩ := h1
  have b0 : ¬ (15 : Int) < k := by omega
  have b1 : ¬ x < 0 := by omega
  have b2 : ¬ 7 < x := by omega
  have b3 : ¬ n < 0 := by omega
  have b4 : ¬ 65535 < n := by omega
  clear hB g1
  have z0 : ((k : Int) == 0) = false := by rw [beq_eq_false_iff_ne]; omega
  have z0n : ((k : Int) != 0) = true := by rw [bne_iff_ne]; omega
  have z1 : ((k : Int) == 15) = false := by rw [beq_eq_false_iff_ne]; omega
  have z1n : ((k : Int) != 15) = true := by rw [bne_iff_ne]; omega
  have z2 : ((k : Int) == 11) = false := by rw [beq_eq_false_iff_ne]; omega
  have z2n : ((k : Int) != 11) = true := by rw [bne_iff_ne]; omega
  have z3 : (2 : Int) ≤ k := by omega
  have z4 : (k : Int) ≤ 10 := by omega
  have y7 : (7 : Int) < n := by omega
  clear hk hn
  go_enter Tryd.func50, Tryd.ntmps50
  go_upto_region 1 with (fail)
  rw [← hW]
  clear hW
  go_wp2
  go_ret
  exact ⟨by first | rfl | simp, HG.out⟩
set_option maxHeartbeats 1600000 in
theorem rmay_o1 (k : Nat) (x n : Int) (w : World) (h1 : k < 16 ∧ 0 ≤ x ∧ x ≤ 7 ∧ 0 ≤ n ∧ n ≤ 65535) (hk : k = 1) : Calls Tryd.prog 50 #[.agg #[.int .u8 k, .int .i64 x, .int .i64 n]] w fun e w' => e = .returned (.bool true) ∧ w.grownBy w' none := by
  obtain ⟨W1, hW, g1, hB⟩ := ibox w 67 #[.int .u8 k, .int .i64 x, .int .i64 n]
  obtain ⟨c0, c1, c2⟩ := in3 hB
  have hw : IntKind.i64.wrap (k : Int) = (k : Int) := by rw [IntKind.wrap_i64]; omega
  have HG := Lib.hid g1
  obtain ⟨k1, x1, x2, n1, n2⟩ := h1
  have b0 : ¬ (15 : Int) < k := by omega
  have b1 : ¬ x < 0 := by omega
  have b2 : ¬ 7 < x := by omega
  have b3 : ¬ n < 0 := by omega
  have b4 : ¬ 65535 < n := by omega
  clear hB g1
  have z0 : ((k : Int) == 0) = false := by rw [beq_eq_false_iff_ne]; omega
  have z0n : ((k : Int) != 0) = true := by rw [bne_iff_ne]; omega
  have z1 : ((k : Int) == 15) = false := by rw [beq_eq_false_iff_ne]; omega
  have z1n : ((k : Int) != 15) = true := by rw [bne_iff_ne]; omega
  have z2 : ((k : Int) == 11) = false := by rw [beq_eq_false_iff_ne]; omega
  have z2n : ((k : Int) != 11) = true := by rw [bne_iff_ne]; omega
  have z3 : ¬ (2 : Int) ≤ k := by omega
  clear hk
  go_enter Tryd.func50, Tryd.ntmps50
  go_upto_region 1 with (fail)
  rw [← hW]
  clear hW
  go_wp2
  go_ret
  exact ⟨by first | rfl | simp, HG.out⟩
set_option maxHeartbeats 1600000 in
theorem rmay_o2 (k : Nat) (x n : Int) (w : World) (h1 : k < 16 ∧ 0 ≤ x ∧ x ≤ 7 ∧ 0 ≤ n ∧ n ≤ 65535) (hk : 12 ≤ k ∧ k ≤ 14) : Calls Tryd.prog 50 #[.agg #[.int .u8 k, .int .i64 x, .int .i64 n]] w fun e w' => e = .returned (.bool true) ∧ w.grownBy w' none := by
  obtain ⟨W1, hW, g1, hB⟩ := ibox w 67 #[.int .u8 k, .int .i64 x, .int .i64 n]
  obtain ⟨c0, c1, c2⟩ := in3 hB
  have hw : IntKind.i64.wrap (k : Int) = (k : Int) := by rw [IntKind.wrap_i64]; omega
  have HG := Lib.hid g1
  obtain ⟨k1, x1, x2, n1, n2⟩ := h1
  have b0 : ¬ (15 : Int) < k := by omega
  have b1 : ¬ x < 0 := by omega
  have b2 : ¬ 7 < x := by omega
  have b3 : ¬ n < 0 := by omega
  have b4 : ¬ 65535 < n := by omega
  clear hB g1
  have z0 : ((k : Int) == 0) = false := by rw [beq_eq_false_iff_ne]; omega
  have z0n : ((k : Int) != 0) = true := by rw [bne_iff_ne]; omega
  have z1 : ((k : Int) == 15) = false := by rw [beq_eq_false_iff_ne]; omega
  have z1n : ((k : Int) != 15) = true := by rw [bne_iff_ne]; omega
  have z2 : ((k : Int) == 11) = false := by rw [beq_eq_false_iff_ne]; omega
  have z2n : ((k : Int) != 11) = true := by rw [bne_iff_ne]; omega
  have z3 : (2 : Int) ≤ k := by omega
  have z4 : ¬ (k : Int) ≤ 10 := by omega
  clear hk
  go_enter Tryd.func50, Tryd.ntmps50
  go_upto_region 1 with (fail)
  rw [← hW]
  clear hW
  go_wp2
  go_ret
  exact ⟨by first | rfl | simp, HG.out⟩
set_option maxHeartbeats 1600000 in
theorem rmay_out (k : Nat) (x n : Int) (hk : k < 256) (w : World) (h1 : ¬ (k < 16 ∧ 0 ≤ x ∧ x ≤ 7 ∧ 0 ≤ n ∧ n ≤ 65535)) : Calls Tryd.prog 50 #[.agg #[.int .u8 k, .int .i64 x, .int .i64 n]] w fun e w' => e = .returned (.bool false) ∧ w.grownBy w' none := by
  obtain ⟨W1, hW, g1, hB⟩ := ibox w 67 #[.int .u8 k, .int .i64 x, .int .i64 n]
  obtain ⟨c0, c1, c2⟩ := in3 hB
  have hw : IntKind.i64.wrap (k : Int) = (k : Int) := by rw [IntKind.wrap_i64]; omega
  have HG := Lib.hid g1
  clear hB g1
  have a1 : (15 : Int) < k ∨ (¬ (15 : Int) < k ∧ x < 0) ∨ (¬ (15 : Int) < k ∧ ¬ x < 0 ∧ 7 < x) ∨ (¬ (15 : Int) < k ∧ ¬ x < 0 ∧ ¬ 7 < x ∧ n < 0) ∨ (¬ (15 : Int) < k ∧ ¬ x < 0 ∧ ¬ 7 < x ∧ ¬ n < 0 ∧ 65535 < n) := by omega
  clear h1
  rcases a1 with a | ⟨a, b⟩ | ⟨a, b, c⟩ | ⟨a, b, c, d⟩ | ⟨a, b, c, d, e⟩
  all_goals
    go_enter Tryd.func50, Tryd.ntmps50
    go_upto_region 1 with (fail)
    rw [← hW]
    clear hW
    go_wp2
    go_ret
    exact ⟨rfl, HG.out⟩
theorem rmay_any (k : Nat) (x n : Int) (hk : k < 256) (w : World) : Calls Tryd.prog 50 #[.agg #[.int .u8 k, .int .i64 x, .int .i64 n]] w fun e w' => e = .returned (.bool (mayI k x n)) ∧ w.grownBy w' none := by
  by_cases h1 : k < 16 ∧ 0 ≤ x ∧ x ≤ 7 ∧ 0 ≤ n ∧ n ≤ 65535
  case neg =>
    rw [show mayI k x n = false from by
      cases e : mayI k x n
      · rfl
      · exact absurd (mayI_facts e) h1]
    exact rmay_out k x n hk w h1
  have e1 : mxX k = if k = 0 ∨ k = 15 ∨ k = 11 then 0 else 7 := rfl
  have e2 : mxN k = if k = 0 ∨ k = 15 then 0 else if 2 ≤ k ∧ k ≤ 10 then 7 else 65535 := by unfold mxN rgB; simp
  have val : ∀ b : Bool, (b = true ↔ k < 16 ∧ (0 ≤ x ∧ x ≤ mxX k) ∧ (0 ≤ n ∧ n ≤ mxN k)) → mayI k x n = b := fun b hb => by rw [Bool.eq_iff_iff, mayI_iff, hb]
  have key : k = 0 ∨ k = 15 ∨ k = 11 ∨ (2 ≤ k ∧ k ≤ 10) ∨ k = 1 ∨ (12 ≤ k ∧ k ≤ 14) := by omega
  rcases key with h | h | h | h | h | h
  · rw [if_pos (by omega)] at e1 e2
    by_cases hn : n = 0
    · rw [val (x == 0) (by rw [e1, e2, beq_iff_eq]; omega)]
      exact rmay_s0z k x n w h1 h hn
    · rw [val false (by rw [e1, e2]; simp; omega)]
      exact rmay_s0 k x n w h1 h hn
  · rw [if_pos (by omega)] at e1 e2
    by_cases hn : n = 0
    · rw [val (x == 0) (by rw [e1, e2, beq_iff_eq]; omega)]
      exact rmay_s15z k x n w h1 h hn
    · rw [val false (by rw [e1, e2]; simp; omega)]
      exact rmay_s15 k x n w h1 h hn
  · rw [if_pos (by omega)] at e1
    rw [if_neg (by omega), if_neg (by omega)] at e2
    rw [val (x == 0) (by rw [e1, e2, beq_iff_eq]; omega)]
    exact rmay_j k x n w h1 h
  · rw [if_neg (by omega)] at e1
    rw [if_neg (by omega), if_pos h] at e2
    by_cases hn : n ≤ 7
    · rw [val true (by rw [e1, e2]; simp; omega)]
      exact rmay_r k x n w h1 h hn
    · rw [val false (by rw [e1, e2]; simp; omega)]
      exact rmay_rn k x n w h1 h (by omega)
  · rw [if_neg (by omega)] at e1
    rw [if_neg (by omega), if_neg (by omega)] at e2
    rw [val true (by rw [e1, e2]; simp; omega)]
    exact rmay_o1 k x n w h1 h
  · rw [if_neg (by omega)] at e1
    rw [if_neg (by omega), if_neg (by omega)] at e2
    rw [val true (by rw [e1, e2]; simp; omega)]
    exact rmay_o2 k x n w h1 h
end Go.Proofs.YtpolkioaagahhaaDoor

/- Package code: Put, by its contract. -/
namespace Go.Proofs.YtpolkioaagahhaaDoor
open Go.RowKit Go.Lib
set_option linter.unusedVariables false

/-- An instruction's bytes. -/
def ptI (k : Nat) (x n : Int) : ByteArray := ⟨#[UInt8.ofNat k, UInt8.ofNat x.toNat, UInt8.ofNat (n % 256).toNat, UInt8.ofNat (n / 256 % 256).toNat]⟩
section
variable {w0 W W' : World} {b k : Nat} {x n : Int} {l l' : List UInt8}
end
end Go.Proofs.YtpolkioaagahhaaDoor

/- The reader of package bits at a text of any length: bytes and numbers, whether or not they are there. Written by hand after IM13. -/
namespace Go.Proofs.YtpolkioaagahhaaDoor
open Go.RowKit Go.Lib
set_option linter.unusedVariables false

/-- The byte at a place, or 0; the number of two bytes there, or 0. -/
def gb (t : ByteArray) (i : Nat) : Nat := if h : i < t.size then t[i].toNat else 0
def gw (t : ByteArray) (i : Nat) : Nat := if i + 2 ≤ t.size then gb t i + 256 * gb t (i + 1) else 0
theorem gb_of {t : ByteArray} {i : Nat} (h : i < t.size) : gb t i = t[i].toNat := by simp [gb, h]
theorem gb_off {t : ByteArray} {i : Nat} (h : t.size ≤ i) : gb t i = 0 := by
  unfold gb
  rw [dif_neg (by omega)]
theorem gb_lt (t : ByteArray) (i : Nat) : gb t i < 256 := by
  unfold gb
  split
  · exact UInt8.toNat_lt _
  · omega
theorem gw_lt (t : ByteArray) (i : Nat) : gw t i < 65536 := by
  have := gb_lt t i
  have := gb_lt t (i + 1)
  unfold gw
  split <;> omega
/-- A reader that was asked for so many bytes. -/
def RdK (w : World) (b : Nat) (t : ByteArray) (k : Nat) : Prop := (k ≤ t.size ∧ Rd w b t k 0) ∨ (t.size < k ∧ ∃ p, p ≤ t.size ∧ Rd w b t p 5)
theorem RdK.lt {w : World} {b k : Nat} {t : ByteArray} (h : RdK w b t k) : b < w.heap.size := by
  rcases h with ⟨_, h⟩ | ⟨_, p, _, h⟩
  · exact Blk.lt h
  · exact Blk.lt h
theorem RdK.only {w w' : World} {b k : Nat} {t : ByteArray} {row : Option Nat} (h : RdK w b t k) (g : w.grownBy w' row) (hr : row ≠ some b) : RdK w' b t k := by
  rcases h with ⟨h1, h⟩ | ⟨h1, p, h2, h⟩
  · exact .inl ⟨h1, Blk.only h g (fun e => hr e.symm)⟩
  · exact .inr ⟨h1, p, h2, Blk.only h g (fun e => hr e.symm)⟩
theorem RdK.put {w : World} {b k : Nat} {t : ByteArray} (h : RdK w b t k) {p : Addr} (hp : b ≠ p.block) (v : Value) : RdK (w.setCell p v) b t k := by
  rcases h with ⟨h1, h⟩ | ⟨h1, q, h2, h⟩
  · exact .inl ⟨h1, Blk.far h hp v⟩
  · exact .inr ⟨h1, q, h2, Blk.far h hp v⟩
theorem only_putc {w w' : World} {row : Option Nat} (g : w.grownBy w' row) {p : Addr} (hp : w.heap.size ≤ p.block) (v : Value) : w.grownBy (w'.setCell p v) row :=
  ⟨g.os, g.tape, g.output, by simpa using g.size, fun k hk hn => (Below.heap_setCell w' p v k (by rintro rfl; omega)).trans (g.block k hk hn)⟩
theorem rbyte_at {w : World} {b k : Nat} {t : ByteArray} (h : RdK w b t k) (hs : t.size ≤ 9223372036854775807) : Calls Tryd.prog 55 #[.pointer (some ⟨b, 0, none⟩)] w fun r w' => r = .returned (.int .i64 (gb t k)) ∧ RdK w' b t (k + 1) ∧ w.grownBy w' (some b) := by
  rcases h with ⟨h1, h⟩ | ⟨h1, p, h2, h⟩
  · by_cases hk : k < t.size
    · have hx : rdText t k 0 1 = (t.extract k (k + 1), k + 1, 0) := by
        rw [rdText, if_neg (by omega), if_neg (by omega), if_neg (by omega)]
        rfl
      have := byte_any b t k 0 w h (by omega) (by omega)
      rw [hx] at this
      refine this.mono fun e w' ⟨q1, q2, q3⟩ => ⟨?_, .inl ⟨by omega, q2⟩, q3⟩
      rw [q1]
      have hl : 0 < (t.extract k (k + 1)).size := by simp; omega
      rw [byteOf, dif_pos hl, gb_of hk]
      simp [ByteArray.getElem_extract]
    · have hx : rdText t k 0 1 = (.empty, k, 5) := by
        rw [rdText, if_neg (by omega), if_neg (by omega), if_pos (by omega)]
      have := byte_any b t k 0 w h (by omega) (by omega)
      rw [hx] at this
      refine this.mono fun e w' ⟨q1, q2, q3⟩ => ⟨?_, .inr ⟨by omega, k, h1, q2⟩, q3⟩
      rw [q1, gb_off (by omega)]
      rfl
  · have hx : rdText t p 5 1 = (.empty, p, 5) := by
      rw [rdText, if_pos (by omega)]
    have := byte_any b t p 5 w h (by omega) (by omega)
    rw [hx] at this
    refine this.mono fun e w' ⟨q1, q2, q3⟩ => ⟨?_, .inr ⟨by omega, p, h2, q2⟩, q3⟩
    rw [q1, gb_off (by omega)]
    rfl
theorem rtwo_at {w : World} {b k : Nat} {t : ByteArray} (h : RdK w b t k) (hs : t.size ≤ 9223372036854775807) : Calls Tryd.prog 56 #[.pointer (some ⟨b, 0, none⟩)] w fun r w' => r = .returned (.int .i64 (gw t k)) ∧ RdK w' b t (k + 2) ∧ w.grownBy w' (some b) := by
  rcases h with ⟨h1, h⟩ | ⟨h1, p, h2, h⟩
  · by_cases hk : k + 2 ≤ t.size
    · have hx : rdText t k 0 2 = (t.extract k (k + 2), k + 2, 0) := by
        rw [rdText, if_neg (by omega), if_neg (by omega), if_neg (by omega)]
        rfl
      have := rdtwo_any b t k 0 w h (by omega) (by omega)
      rw [hx] at this
      refine this.mono fun e w' ⟨q1, q2, q3⟩ => ⟨?_, .inl ⟨by omega, q2⟩, q3⟩
      rw [q1]
      have hl : 1 < (t.extract k (k + 2)).size := by simp; omega
      rw [twoOf, dif_pos hl, gw, if_pos hk, gb_of (show k < t.size by omega), gb_of (show k + 1 < t.size by omega)]
      simp [ByteArray.getElem_extract]
    · have hx : rdText t k 0 2 = (.empty, k, 5) := by
        rw [rdText, if_neg (by omega), if_neg (by omega), if_pos (by omega)]
      have := rdtwo_any b t k 0 w h (by omega) (by omega)
      rw [hx] at this
      refine this.mono fun e w' ⟨q1, q2, q3⟩ => ⟨?_, .inr ⟨by omega, k, h1, q2⟩, q3⟩
      rw [q1, gw, if_neg hk]
      rfl
  · have hx : rdText t p 5 2 = (.empty, p, 5) := by
      rw [rdText, if_pos (by omega)]
    have := rdtwo_any b t p 5 w h (by omega) (by omega)
    rw [hx] at this
    refine this.mono fun e w' ⟨q1, q2, q3⟩ => ⟨?_, .inr ⟨by omega, p, h2, q2⟩, q3⟩
    rw [q1, gw, if_neg (by omega)]
    rfl
theorem only_drop {w0 W W' : World} {g : Nat} (h : w0.grownBy W none) (k : W.grownBy W' (some g)) (hg : w0.heap.size ≤ g) : w0.grownBy W' none :=
  ⟨k.os.trans h.os, k.tape.trans h.tape, k.output.trans h.output, Nat.le_trans h.size k.size, fun i hi hn => (k.block i (Nat.lt_of_lt_of_le hi h.size) (fun e => by injection e with e; omega)).trans (h.block i hi hn)⟩
/-- What is kept between two calls on the reader: it, the result's box, what lay there. -/
def KdI (w0 W : World) (g : Nat) (t : ByteArray) (k : Nat) : Prop := RdK W g t k ∧ Blk W w0.heap.size 67 #[.int .u8 0, .int .i64 0, .int .i64 0] ∧ w0.grownBy W none ∧ w0.heap.size < g
theorem KdI.step {w0 W W' : World} {g : Nat} {t : ByteArray} {k k' : Nat} (h : KdI w0 W g t k) (q : RdK W' g t k') (b : W.grownBy W' (some g)) : KdI w0 W' g t k' :=
  ⟨q, h.2.1.only b (fun e => by injection e with e; have := h.2.2.2; omega), only_drop h.2.2.1 b (Nat.le_of_lt h.2.2.2), h.2.2.2⟩
theorem KdI.grown {w0 W W' : World} {g : Nat} {t : ByteArray} {k : Nat} (h : KdI w0 W g t k) (b : W.grownBy W' none) : KdI w0 W' g t k :=
  ⟨h.1.only b (by simp), h.2.1.only b (by simp), only_trans h.2.2.1 b, h.2.2.2⟩
theorem kdi_byte {w0 W : World} {g : Nat} {t : ByteArray} {k : Nat} (h : KdI w0 W g t k) (hs : t.size ≤ 9223372036854775807) : Calls Tryd.prog 55 #[.pointer (some ⟨g, 0, none⟩)] W fun r w' => r = .returned (.int .i64 (gb t k)) ∧ KdI w0 w' g t (k + 1) :=
  (rbyte_at h.1 hs).mono fun _ _ ⟨e, q, b⟩ => ⟨e, h.step q b⟩
theorem kdi_two {w0 W : World} {g : Nat} {t : ByteArray} {k : Nat} (h : KdI w0 W g t k) (hs : t.size ≤ 9223372036854775807) : Calls Tryd.prog 56 #[.pointer (some ⟨g, 0, none⟩)] W fun r w' => r = .returned (.int .i64 (gw t k)) ∧ KdI w0 w' g t (k + 2) :=
  (rtwo_at h.1 hs).mono fun _ _ ⟨e, q, b⟩ => ⟨e, h.step q b⟩
theorem kdi_err {w0 W : World} {g : Nat} {t : ByteArray} {k : Nat} (h : KdI w0 W g t k) : Calls Tryd.prog 57 #[.pointer (some ⟨g, 0, none⟩)] W fun r w' => r = .returned (.int .i64 (if k ≤ t.size then 0 else 5)) ∧ W = w' := by
  rcases h.1 with ⟨h1, h⟩ | ⟨h1, p, h2, h⟩
  · rw [if_pos h1]
    exact err_any g t k 0 W h
  · rw [if_neg (by omega)]
    exact err_any g t p 5 W h
theorem kdi_new (w : World) (t : ByteArray) : KdI w ((w.alloc (.cells #[.int .u8 0, .int .i64 0, .int .i64 0] 67)).alloc (.cells #[.int .i64 0, .string t, .int .i64 0] 104)) (w.heap.size + 1) t 0 :=
  ⟨.inl ⟨Nat.zero_le _, by have := Blk.new (w.alloc (.cells #[.int .u8 0, .int .i64 0, .int .i64 0] 67)) 104 #[.int .i64 0, .string t, .int .i64 0]; simpa [Rd] using this⟩, (Blk.new _ _ _).alloc _, only_alloc (only_alloc (only_refl _ _) _) _, Nat.lt_succ_self _⟩
/-- What Get answers. -/
def getV (t : ByteArray) : Value := if t.size < 4 then .tuple #[.agg #[.int .u8 0, .int .i64 0, .int .i64 0], .int .i64 5] else if mayI (gb t 0) (gb t 1) (gw t 2) = true then .tuple #[.agg #[.int .u8 (gb t 0), .int .i64 (gb t 1), .int .i64 (gw t 2)], .int .i64 0] else .tuple #[.agg #[.int .u8 0, .int .i64 0, .int .i64 0], .int .i64 12]
theorem in3f {W : World} {g : Nat} {t : TypeId} {a b c : Value} (h : Blk W g t #[a, b, c]) : W.cell? ⟨g, 0, none⟩ = some a ∧ W.cell? ⟨g, 1, none⟩ = some b ∧ W.cell? ⟨g, 2, none⟩ = some c ∧ W.frozen? ⟨g, 0, none⟩ = false ∧ W.frozen? ⟨g, 1, none⟩ = false ∧ W.frozen? ⟨g, 2, none⟩ = false := ⟨h.cell 0, h.cell 1, h.cell 2, h.free 0, h.free 1, h.free 2⟩
theorem put3 {w W : World} {t : TypeId} {a b c a' b' c' : Value} (h : Blk W w.heap.size t #[a, b, c]) (g : w.grownBy W none) : ∀ W', W' = ((W.setCell ⟨w.heap.size, 0, none⟩ a').setCell ⟨w.heap.size, 1, none⟩ b').setCell ⟨w.heap.size, 2, none⟩ c' → (W'.cell? ⟨w.heap.size, 0, none⟩ = some a' ∧ W'.cell? ⟨w.heap.size, 1, none⟩ = some b' ∧ W'.cell? ⟨w.heap.size, 2, none⟩ = some c') ∧ w.grownBy W' none := by
  rintro W' rfl
  have bf := ((h.put 0 a').put 1 b').put 2 c'
  exact ⟨⟨bf.cell 0, bf.cell 1, bf.cell 2⟩, only_putc (only_putc (only_putc g (p := ⟨w.heap.size, 0, none⟩) (Nat.le_refl _) _) (p := ⟨w.heap.size, 1, none⟩) (Nat.le_refl _) _) (p := ⟨w.heap.size, 2, none⟩) (Nat.le_refl _) _⟩
end Go.Proofs.YtpolkioaagahhaaDoor

/- Package code: Get, by its contract. -/
namespace Go.Proofs.YtpolkioaagahhaaDoor
open Go.RowKit Go.Lib
set_option linter.unusedVariables false

set_option maxHeartbeats 1600000 in
theorem get_any (t : ByteArray) (hs : t.size ≤ 9223372036854775807) (w : World) (hG : Nm w) : Calls Tryd.prog 43 #[.string t] w fun e w' => e = .returned (getV t) ∧ w.grownBy w' none := by
  obtain ⟨W1, hW, g1, hB⟩ := ibox w 67 #[.int .u8 0, .int .i64 0, .int .i64 0]
  have hz : W1.heap.size = w.heap.size + 1 := by rw [hW]; simp
  have P0 := Lib.hid (show KdI w (W1.alloc (.cells #[.int .i64 0, .string t, .int .i64 0] 104)) (w.heap.size + 1) t 0 from by rw [hW]; exact kdi_new w t)
  have HNEW := Lib.hid (show Calls Tryd.prog 54 #[.string t] W1 (fun e w' => e = .returned (.pointer (some ⟨w.heap.size + 1, 0, none⟩)) ∧ KdI w w' (w.heap.size + 1) t 0) from (new_any t W1).mono fun e w' ⟨h1, h2⟩ => ⟨by rw [h1, hz], by subst h2; exact P0.out⟩)
  have HB0 := gb_lt t 0
  have HX0 := gb_lt t 1
  have HM := Lib.hid (fun W (h : KdI w W (w.heap.size + 1) t 4) => may_any (gb t 0) (gb t 1) (gw t 2) HB0 W (hG.grown h.2.2.1 (by simp)))
  have HN := Lib.hid (fun W (g : w.grownBy W none) => hG.grown g (by simp))
  have HS := Lib.hid hs
  have hmod : (gb t 0 : Int) % 256 = (gb t 0 : Int) := by omega
  have hw : IntKind.u8.wrap (gb t 0 : Int) = (gb t 0 : Int) := by rw [IntKind.wrap_u8]; omega
  obtain ⟨p, hp⟩ : ∃ p, p = w.heap.size := ⟨_, rfl⟩
  by_cases h4 : t.size < 4
  · have HV := Lib.hid (show getV t = .tuple #[.agg #[.int .u8 0, .int .i64 0, .int .i64 0], .int .i64 5] from by unfold getV; rw [if_pos h4])
    have HE := Lib.hid (fun W (h : KdI w W (w.heap.size + 1) t 4) => (show Calls Tryd.prog 57 #[.pointer (some ⟨w.heap.size + 1, 0, none⟩)] W (fun r w' => r = .returned (.int .i64 5) ∧ W = w') from by have := kdi_err h; rw [if_neg (by omega)] at this; exact this))
    rw [HV.out]
    clear hB g1 hG hs hz h4 P0 HM HV hp
    go_enter Tryd.func43, Tryd.ntmps43
    go_upto_region 1 with (fail)
    rw [← hW]
    clear hW
    go_upto_region 3 with (first
      | (go_at_call 54; (with_reducible refine HNEW.out.mono ?_); rintro e w2 ⟨rfl, q0⟩; have Q0 := Lib.hid q0; clear q0)
      | (go_at_call 55; (with_reducible refine (kdi_byte Q0.out HS.out).mono ?_); rintro e w3 ⟨rfl, q1⟩; have Q1 := Lib.hid q1; clear q1)
      | (go_at_call 55; (with_reducible refine (kdi_byte Q1.out HS.out).mono ?_); rintro e w4 ⟨rfl, q2⟩; have Q2 := Lib.hid q2; clear q2)
      | (go_at_call 56; (with_reducible refine (kdi_two Q2.out HS.out).mono ?_); rintro e w5 ⟨rfl, q3⟩; have Q3 := Lib.hid q3; clear q3))
    obtain ⟨w6, hw6⟩ : ∃ w6, w6 = w5.alloc (.cells #[.int .u8 (gb t 0), .int .i64 (gb t 1), .int .i64 (gw t 2)] 67) := ⟨_, rfl⟩
    have g6 : w5.grownBy w6 none := by rw [hw6]; exact only_alloc (only_refl _ _) _
    have BI := Lib.hid (show Blk w6 w5.heap.size 67 #[.int .u8 (gb t 0), .int .i64 (gb t 1), .int .i64 (gw t 2)] from by rw [hw6]; exact Blk.new _ _ _)
    have Q4 := Lib.hid (Q3.out.grown g6)
    have nlt := Lib.hid (show w.heap.size < w5.heap.size from Q3.out.2.1.lt)
    rw [← hw6]
    clear hw6 g6
    obtain ⟨i0, i1, i2⟩ := in3 BI.out
    obtain ⟨z0, z1, z2, f0, f1, f2⟩ := in3f Q4.out.2.1
    have n1 : ¬ w.heap.size = w5.heap.size := by have := nlt.out; omega
    have n2 : ¬ w5.heap.size = w.heap.size := by have := nlt.out; omega
    go_wp2_with (go_at_call 57; (with_reducible refine (HE.out _ Q4.out).mono ?_); rintro e w7 ⟨rfl, rfl⟩)
    obtain ⟨⟨r0, r1, r2⟩, G9⟩ := put3 (a' := .int .u8 0) (b' := .int .i64 0) (c' := .int .i64 0) Q4.out.2.1 Q4.out.2.2.1 _ rfl
    refine bodyPost_ret (v := .tuple #[.agg #[.int .u8 0, .int .i64 0, .int .i64 0], .int .i64 5]) (by simp [results, Tryd.results43, go_sem, r0, r1, r2]) rfl ⟨rfl, G9⟩
  · have HE := Lib.hid (fun W (h : KdI w W (w.heap.size + 1) t 4) => (show Calls Tryd.prog 57 #[.pointer (some ⟨w.heap.size + 1, 0, none⟩)] W (fun r w' => r = .returned (.int .i64 0) ∧ W = w') from by have := kdi_err h; rw [if_pos (by omega)] at this; exact this))
    cases hm : mayI (gb t 0) (gb t 1) (gw t 2)
    · have HV := Lib.hid (show getV t = .tuple #[.agg #[.int .u8 0, .int .i64 0, .int .i64 0], .int .i64 12] from by unfold getV; rw [if_neg h4, if_neg (by rw [hm]; decide)])
      rw [hm] at HM
      rw [HV.out]
      clear hB g1 hG hs hz h4 P0 HV hp hm
      go_enter Tryd.func43, Tryd.ntmps43
      go_upto_region 1 with (fail)
      rw [← hW]
      clear hW
      go_upto_region 3 with (first
        | (go_at_call 54; (with_reducible refine HNEW.out.mono ?_); rintro e w2 ⟨rfl, q0⟩; have Q0 := Lib.hid q0; clear q0)
        | (go_at_call 55; (with_reducible refine (kdi_byte Q0.out HS.out).mono ?_); rintro e w3 ⟨rfl, q1⟩; have Q1 := Lib.hid q1; clear q1)
        | (go_at_call 55; (with_reducible refine (kdi_byte Q1.out HS.out).mono ?_); rintro e w4 ⟨rfl, q2⟩; have Q2 := Lib.hid q2; clear q2)
        | (go_at_call 56; (with_reducible refine (kdi_two Q2.out HS.out).mono ?_); rintro e w5 ⟨rfl, q3⟩; have Q3 := Lib.hid q3; clear q3))
      obtain ⟨w6, hw6⟩ : ∃ w6, w6 = w5.alloc (.cells #[.int .u8 (gb t 0), .int .i64 (gb t 1), .int .i64 (gw t 2)] 67) := ⟨_, rfl⟩
      have g6 : w5.grownBy w6 none := by rw [hw6]; exact only_alloc (only_refl _ _) _
      have BI := Lib.hid (show Blk w6 w5.heap.size 67 #[.int .u8 (gb t 0), .int .i64 (gb t 1), .int .i64 (gw t 2)] from by rw [hw6]; exact Blk.new _ _ _)
      have Q4 := Lib.hid (Q3.out.grown g6)
      have nlt := Lib.hid (show w.heap.size < w5.heap.size from Q3.out.2.1.lt)
      rw [← hw6]
      clear hw6 g6
      obtain ⟨i0, i1, i2⟩ := in3 BI.out
      obtain ⟨z0, z1, z2, f0, f1, f2⟩ := in3f Q4.out.2.1
      have n1 : ¬ w.heap.size = w5.heap.size := by have := nlt.out; omega
      have n2 : ¬ w5.heap.size = w.heap.size := by have := nlt.out; omega
      go_wp2_with (first
        | (go_at_call 57; (with_reducible refine (HE.out _ Q4.out).mono ?_); rintro e w7 ⟨rfl, rfl⟩)
        | (go_at_call 58; (with_reducible refine (HM.out _ Q4.out).mono ?_); rintro e w8 ⟨rfl, g8⟩; have Q8 := Lib.hid (Q4.out.grown g8); clear z0 z1 z2 f0 f1 f2 g8; obtain ⟨z0, z1, z2, f0, f1, f2⟩ := in3f Q8.out.2.1))
      obtain ⟨⟨r0, r1, r2⟩, G9⟩ := put3 (a' := .int .u8 0) (b' := .int .i64 0) (c' := .int .i64 0) Q8.out.2.1 Q8.out.2.2.1 _ rfl
      refine bodyPost_ret (v := .tuple #[.agg #[.int .u8 0, .int .i64 0, .int .i64 0], .int .i64 12]) (by simp [results, Tryd.results43, go_sem, r0, r1, r2]) rfl ⟨rfl, G9⟩
    · have HV := Lib.hid (show getV t = .tuple #[.agg #[.int .u8 (gb t 0), .int .i64 (gb t 1), .int .i64 (gw t 2)], .int .i64 0] from by unfold getV; rw [if_neg h4, if_pos hm])
      rw [hm] at HM
      rw [HV.out]
      clear hB g1 hG hs hz h4 P0 HV hp hm
      go_enter Tryd.func43, Tryd.ntmps43
      go_upto_region 1 with (fail)
      rw [← hW]
      clear hW
      go_upto_region 3 with (first
        | (go_at_call 54; (with_reducible refine HNEW.out.mono ?_); rintro e w2 ⟨rfl, q0⟩; have Q0 := Lib.hid q0; clear q0)
        | (go_at_call 55; (with_reducible refine (kdi_byte Q0.out HS.out).mono ?_); rintro e w3 ⟨rfl, q1⟩; have Q1 := Lib.hid q1; clear q1)
        | (go_at_call 55; (with_reducible refine (kdi_byte Q1.out HS.out).mono ?_); rintro e w4 ⟨rfl, q2⟩; have Q2 := Lib.hid q2; clear q2)
        | (go_at_call 56; (with_reducible refine (kdi_two Q2.out HS.out).mono ?_); rintro e w5 ⟨rfl, q3⟩; have Q3 := Lib.hid q3; clear q3))
      obtain ⟨w6, hw6⟩ : ∃ w6, w6 = w5.alloc (.cells #[.int .u8 (gb t 0), .int .i64 (gb t 1), .int .i64 (gw t 2)] 67) := ⟨_, rfl⟩
      have g6 : w5.grownBy w6 none := by rw [hw6]; exact only_alloc (only_refl _ _) _
      have BI := Lib.hid (show Blk w6 w5.heap.size 67 #[.int .u8 (gb t 0), .int .i64 (gb t 1), .int .i64 (gw t 2)] from by rw [hw6]; exact Blk.new _ _ _)
      have Q4 := Lib.hid (Q3.out.grown g6)
      have nlt := Lib.hid (show w.heap.size < w5.heap.size from Q3.out.2.1.lt)
      rw [← hw6]
      clear hw6 g6
      obtain ⟨i0, i1, i2⟩ := in3 BI.out
      obtain ⟨z0, z1, z2, f0, f1, f2⟩ := in3f Q4.out.2.1
      have n1 : ¬ w.heap.size = w5.heap.size := by have := nlt.out; omega
      have n2 : ¬ w5.heap.size = w.heap.size := by have := nlt.out; omega
      go_wp2_with (first
        | (go_at_call 57; (with_reducible refine (HE.out _ Q4.out).mono ?_); rintro e w7 ⟨rfl, rfl⟩)
        | (go_at_call 58; (with_reducible refine (HM.out _ Q4.out).mono ?_); rintro e w8 ⟨rfl, g8⟩; have Q8 := Lib.hid (Q4.out.grown g8); have BJ := Lib.hid (BI.out.only g8 (by simp)); clear z0 z1 z2 f0 f1 f2 i0 i1 i2 g8; obtain ⟨z0, z1, z2, f0, f1, f2⟩ := in3f Q8.out.2.1; obtain ⟨i0, i1, i2⟩ := in3 BJ.out))
      obtain ⟨⟨r0, r1, r2⟩, G9⟩ := put3 (a' := .int .u8 (gb t 0)) (b' := .int .i64 (gb t 1)) (c' := .int .i64 (gw t 2)) Q8.out.2.1 Q8.out.2.2.1 _ rfl
      refine bodyPost_ret (v := .tuple #[.agg #[.int .u8 (gb t 0), .int .i64 (gb t 1), .int .i64 (gw t 2)], .int .i64 0]) (by simp [results, Tryd.results43, go_sem, r0, r1, r2]) rfl ⟨rfl, G9⟩
end Go.Proofs.YtpolkioaagahhaaDoor
