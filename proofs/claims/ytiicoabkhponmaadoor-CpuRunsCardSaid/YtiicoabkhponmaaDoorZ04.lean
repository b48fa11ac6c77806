import Derived.Test.YtiicoabkhponmaaDoorZ01
import Derived.Lib.AppendStr
import Derived.Deep.RegionLaw
import Derived.Deep.RegionHeld3
set_option linter.all false
/- The reader of package bits: each call by its contract. -/
namespace Go.Proofs.YtiicoabkhponmaaDoor
open Go.RowKit Go.Lib
set_option linter.unusedVariables false

/-- What Text(n) does of a reader that stands at p of s, with the error e: the answer, the place, the error. -/
def rdText (s : ByteArray) (p : Nat) (e n : Int) : ByteArray × Nat × Int :=
  if e ≠ 0 then (.empty, p, e) else if n < 0 then (.empty, p, 2) else if (s.size : Int) - p < n then (.empty, p, 5) else (s.extract p (p + n.toNat), p + n.toNat, 0)

/-- A reader lies in block b. -/
def Rd (w : World) (b : Nat) (s : ByteArray) (p : Nat) (e : Int) : Prop := Blk w b 104 #[.int .i64 e, .string s, .int .i64 p]

theorem failed_any (b o : Nat) (e : Int) (w : World) (h : w.cell? ⟨b, o, none⟩ = some (.int .i64 e)) : Calls Tryd.prog 69 #[.pointer (some ⟨b, o, none⟩)] w fun r w' => r = .returned (.bool (e != 0)) ∧ w = w' := by
  go_enter Tryd.func69, Tryd.ntmps69
  go_wp2
  go_ret
  exact ⟨rfl, rfl⟩

theorem fail_any (b o : Nat) (e v : Int) (w : World) (h : w.cell? ⟨b, o, none⟩ = some (.int .i64 e)) (hf : w.frozen? ⟨b, o, none⟩ = false) : Calls Tryd.prog 70 #[.pointer (some ⟨b, o, none⟩), .int .i64 v] w fun r w' => r = .returned (.tuple #[]) ∧ w.setCell ⟨b, o, none⟩ (.int .i64 v) = w' := by
  go_enter Tryd.func70, Tryd.ntmps70
  go_wp2
  go_end0
  exact ⟨rfl, rfl⟩

theorem text_any (b : Nat) (s : ByteArray) (p : Nat) (e n : Int) (w : World) (h : Rd w b s p e) (hp : p ≤ s.size) (hs : s.size ≤ 9223372036854775807) :
    Calls Tryd.prog 63 #[.pointer (some ⟨b, 0, none⟩), .int .i64 n] w fun r w' => r = .returned (.string (rdText s p e n).1) ∧ Rd w' b s (rdText s p e n).2.1 (rdText s p e n).2.2 ∧ w.grownBy w' (some b) := by
  have c0 : w.cell? ⟨b, 0, none⟩ = some (.int .i64 e) := h.cell 0
  have c1 : w.cell? ⟨b, 1, none⟩ = some (.string s) := h.cell 1
  have c2 : w.cell? ⟨b, 2, none⟩ = some (.int .i64 p) := h.cell 2
  have f0 := h.free 0
  have f2 := h.free 2
  have H := Lib.hid h
  clear h
  by_cases he : e = 0
  · subst he
    by_cases hn : n < 0
    · go_enter Tryd.func63, Tryd.ntmps63
      go_wp2_with (first | (go_at_call 69; refine (failed_any _ _ _ _ c0).mono ?_; rintro e w' ⟨rfl, rfl⟩) | (go_at_call 70; refine (fail_any _ _ 0 _ _ (by simpa using c0) (by simpa using f0)).mono ?_; rintro e w' ⟨rfl, rfl⟩))
      go_ret
      have hx : rdText s p 0 n = (.empty, p, 2) := by simp [rdText, hn]
      rw [hx]
      exact ⟨rfl, H.out.put 0 _, only_put (only_refl _ _) _ _⟩
    · by_cases hm : (s.size : Int) - p < n
      · go_enter Tryd.func63, Tryd.ntmps63
        go_wp2_with (first | (go_at_call 69; refine (failed_any _ _ _ _ c0).mono ?_; rintro e w' ⟨rfl, rfl⟩) | (go_at_call 70; refine (fail_any _ _ 0 _ _ (by simpa using c0) (by simpa using f0)).mono ?_; rintro e w' ⟨rfl, rfl⟩))
        go_quiet (fail)
        go_wp2_with (first | (go_at_call 69; refine (failed_any _ _ _ _ c0).mono ?_; rintro e w' ⟨rfl, rfl⟩) | (go_at_call 70; refine (fail_any _ _ 0 _ _ (by simpa using c0) (by simpa using f0)).mono ?_; rintro e w' ⟨rfl, rfl⟩))
        go_ret
        have hx : rdText s p 0 n = (.empty, p, 5) := by simp [rdText, hn, hm]
        rw [hx]
        exact ⟨rfl, (H.out.drewN nq).put 0 _, only_put (only_drewN (only_refl _ _) nq) _ _⟩
      · obtain ⟨k, rfl⟩ := Int.eq_ofNat_of_zero_le (show 0 ≤ n by omega)
        go_enter Tryd.func63, Tryd.ntmps63
        go_wp2_with (first | (go_at_call 69; refine (failed_any _ _ _ _ c0).mono ?_; rintro e w' ⟨rfl, rfl⟩) | (go_at_call 70; refine (fail_any _ _ 0 _ _ (by simpa using c0) (by simpa using f0)).mono ?_; rintro e w' ⟨rfl, rfl⟩))
        go_quiet (fail)
        go_wp2_with (first | (go_at_call 69; refine (failed_any _ _ _ _ c0).mono ?_; rintro e w' ⟨rfl, rfl⟩) | (go_at_call 70; refine (fail_any _ _ 0 _ _ (by simpa using c0) (by simpa using f0)).mono ?_; rintro e w' ⟨rfl, rfl⟩))
        go_quiet (fail)
        go_wp2
        go_ret
        have hx : rdText s p 0 (k : Int) = (s.extract p (p + k), p + k, 0) := by
          rw [rdText, if_neg (by omega), if_neg (by omega), if_neg (by omega)]
          simp
        rw [hx]
        refine ⟨rfl, ?_, only_drewN (only_put (only_drewN (only_refl _ _) _) _ _) _⟩
        exact ((H.out.drewN _).put 2 _).drewN _
  · have he' : (e != 0) = true := by simpa using he
    go_enter Tryd.func63, Tryd.ntmps63
    go_wp2_with (first | (go_at_call 69; refine (failed_any _ _ _ _ c0).mono ?_; rintro e w' ⟨rfl, rfl⟩) | (go_at_call 70; refine (fail_any _ _ 0 _ _ (by simpa using c0) (by simpa using f0)).mono ?_; rintro e w' ⟨rfl, rfl⟩))
    go_ret
    have hx : rdText s p e n = (.empty, p, e) := by simp [rdText, he]
    rw [hx]
    exact ⟨rfl, H.out, only_refl _ _⟩


/-- What Byte() and Two() tell of the bytes that were read. -/
def byteOf (t : ByteArray) : Int := if h : 0 < t.size then (t[0].toNat : Int) else 0
def twoOf (t : ByteArray) : Int := if h : 1 < t.size then (t[0].toNat : Int) + (256 : Int) * (t[1].toNat : Int) else 0

theorem byte_any (b : Nat) (s : ByteArray) (p : Nat) (e : Int) (w : World) (h : Rd w b s p e) (hp : p ≤ s.size) (hs : s.size ≤ 9223372036854775807) :
    Calls Tryd.prog 55 #[.pointer (some ⟨b, 0, none⟩)] w fun r w' => r = .returned (.int .i64 (byteOf (rdText s p e 1).1)) ∧ Rd w' b s (rdText s p e 1).2.1 (rdText s p e 1).2.2 ∧ w.grownBy w' (some b) := by
  have ht := text_any b s p e 1 w h hp hs
  generalize rdText s p e 1 = x at ht ⊢
  obtain ⟨t, p', e'⟩ := x
  have HT := Lib.hid ht
  clear ht h
  by_cases hb : 0 < t.size
  · have hb' : (byteOf t) = (t[0].toNat : Int) := by simp [byteOf, hb]
    have HB := Lib.hid hb'
    clear hb'
    go_enter Tryd.func55, Tryd.ntmps55
    go_wp2_with (go_at_call 63; refine HT.out.mono ?_; rintro e w1 ⟨rfl, h1, h2⟩)
    go_ret
    exact ⟨ret_int (by rw [HB.out, w64_byte]), h1, h2⟩
  · have hb' : (byteOf t) = 0 := by simp [byteOf, hb]
    have HB := Lib.hid hb'
    have hz : t.size = 0 := by omega
    clear hb'
    go_enter Tryd.func55, Tryd.ntmps55
    go_wp2_with (go_at_call 63; refine HT.out.mono ?_; rintro e w1 ⟨rfl, h1, h2⟩)
    go_ret
    exact ⟨ret_int (by rw [HB.out]), h1, h2⟩

theorem rtwo_bytes (t : ByteArray) (h : 1 < t.size) : twoOf t = ((t[0].toNat : Int) % (256 : Int) + (256 : Int) * ((t[1].toNat : Int) % (256 : Int))) := by
  have h0 := t[0].toNat_lt
  have h1 := t[1].toNat_lt
  simp only [twoOf, h, dite_true]
  omega

theorem rdtwo_any (b : Nat) (s : ByteArray) (p : Nat) (e : Int) (w : World) (h : Rd w b s p e) (hp : p ≤ s.size) (hs : s.size ≤ 9223372036854775807) :
    Calls Tryd.prog 56 #[.pointer (some ⟨b, 0, none⟩)] w fun r w' => r = .returned (.int .i64 (twoOf (rdText s p e 2).1)) ∧ Rd w' b s (rdText s p e 2).2.1 (rdText s p e 2).2.2 ∧ w.grownBy w' (some b) := by
  have ht := text_any b s p e 2 w h hp hs
  generalize rdText s p e 2 = x at ht ⊢
  obtain ⟨t, p', e'⟩ := x
  have HT := Lib.hid ht
  clear ht h
  by_cases hb : 1 < t.size
  · have hb' := rtwo_bytes t hb
    have i0 : (0 : Int) < (t.size : Int) := by omega
    have i1 : (1 : Int) < (t.size : Int) := by omega
    have j0 : 0 < t.size := by omega
    have HB := Lib.hid hb'
    clear hb'
    go_enter Tryd.func56, Tryd.ntmps56
    go_wp2_with (first | (go_at_call 63; refine HT.out.mono ?_; rintro e w1 ⟨rfl, h1, h2⟩) | (go_at_call 39; refine (two_any _ _ _).mono ?_; rintro e w2 ⟨rfl, rfl⟩))
    go_quiet ((go_at_call 39; exact quiet_same (two_any _ _ _)))
    go_wp2
    go_ret
    exact ⟨ret_int (by rw [HB.out, w64_byte, w64_byte]), h1.drewN _, only_drewN h2 _⟩
  · have hb' : (twoOf t) = 0 := by simp [twoOf, hb]
    have HB := Lib.hid hb'
    have hz : t.size < 2 := by omega
    clear hb'
    go_enter Tryd.func56, Tryd.ntmps56
    go_wp2_with (first | (go_at_call 63; refine HT.out.mono ?_; rintro e w1 ⟨rfl, h1, h2⟩) | (go_at_call 39; refine (two_any _ _ _).mono ?_; rintro e w2 ⟨rfl, rfl⟩))
    go_ret
    exact ⟨ret_int (by rw [HB.out]), h1, h2⟩

theorem err_any (b : Nat) (s : ByteArray) (p : Nat) (e : Int) (w : World) (h : Rd w b s p e) :
    Calls Tryd.prog 57 #[.pointer (some ⟨b, 0, none⟩)] w fun r w' => r = .returned (.int .i64 e) ∧ w = w' := by
  have c0 : w.cell? ⟨b, 0, none⟩ = some (.int .i64 e) := h.cell 0
  clear h
  go_enter Tryd.func57, Tryd.ntmps57
  go_wp2
  go_ret
  exact ⟨rfl, rfl⟩

def leftOf (s : ByteArray) (p : Nat) (e : Int) : Int := if e = 0 then (s.size : Int) - p else 0

end Go.Proofs.YtiicoabkhponmaaDoor

/- The writer of package bits: each call by its contract. -/
namespace Go.Proofs.YtiicoabkhponmaaDoor
open Go.RowKit Go.Lib
set_option linter.unusedVariables false
set_option maxRecDepth 4000

def byteCells (l : List UInt8) : List Value := l.map fun b => .int .u8 (b.toNat : Int)

/-- The bytes that a step writes, or that it cannot be written. -/
def stepBytes (d n : Int) (t : ByteArray) : Option (List UInt8) :=
  if d = 0 then (if 0 ≤ n ∧ n ≤ 255 then some [UInt8.ofNat n.toNat] else none)
  else if d = 1 then (if 0 ≤ n ∧ n ≤ 65535 then some (Bt.put n).data.toList else none)
  else some t.data.toList
def wrNext (o : Option (List UInt8)) (d n : Int) (t : ByteArray) : Option (List UInt8) := o.bind fun l => (stepBytes d n t).map fun x => l ++ x

theorem u8_info : (Tryd.prog.info? 5).map (fun i => (i.zero, i.size, i.bytes)) = some (some (.int .u8 0), 1, 1) := by kernel_rfl

/-- append of a string's bytes onto what the call owns, as1 one step of a region that draws. -/
theorem step_append_str {P : Program} {ops : Array Oper} {o : Oper} {a : Act} {w : World} {K : Act → World → Prop} {Q : Exit → Act → World → Prop} {E : Prop} (hgd : o.guard = none) (sl x : Operand) (t u : TypeId)
    (ho : o.op = .call { callee := .builtin .append, args := #[sl, x], argTypes := #[t, u] })
    (base : Nat) (e : TypeId) (i : TypeInfo) (ht : P.underlying t = some (.slice e)) (hu : P.underlying u = some .string) (hi : P.info? e = some i) (hz : i.zero = some (.int .u8 0))
    (hsize : i.size = 1) (hby : i.bytes = 1)
    (v : Value) (n : Nat) (xs : List Value) (hs : a.eval sl = v) (hown : w.ownsRow base e 1 v n xs) (s : ByteArray) (hx : a.eval x = .string s)
    (h63 : n + s.size ≤ maxLen) (hbytes : n + s.size ≤ 140737488355328) (hbase : base ≤ w.heap.size)
    (h : ∀ v' w', w'.ownsRow base e 1 v' (n + s.size) (xs ++ strCells s) → w.grownBy w' v.ownBlock → K (a.put o.dst v') w') :
    if Region.wanted o (yielded ops a.tmps) = true then Oper.wp P o a w K Q else E := by
  have hw : Region.wanted o (yielded ops a.tmps) = true := by simp [Region.wanted, hgd]
  rw [if_pos hw]
  obtain ⟨v', w', hr, h2, h3, h4⟩ := run_append_own_string (P := P) w base t u o.type e i ht hu hi hz hsize hby v n xs hown s h63 hbytes hbase
  unfold Oper.wp execOp
  simp only [ho, resolve, invoke, builtin, Sem.run_bind, Sem.run_pure, Result.andThen_ok, List.map_toArray, List.map_cons, List.map_nil, hs, hx, hr]
  exact h v' w' h2 h3

theorem put_bytes (n : Int) : (Bt.put n).size = 2 := rfl

/-- The error of what steps write. -/
def errOf (o : Option (List UInt8)) : Int := if o.isSome then 0 else 2
/-- The bytes of what steps write. -/
def textFor (o : Option (List UInt8)) : ByteArray := ⟨(o.getD []).toArray⟩

theorem strOfNums_bytes (l : List UInt8) : strOfNums (l.map fun b => (b.toNat : Int)) = ⟨l.toArray⟩ := by
  have h : strOfNums (l.map fun b => (b.toNat : Int)) = (l.map fun b => (b.toNat : Int)).foldl (fun r n => r.push (UInt8.ofNat n.toNat)) ByteArray.empty := by
    rw [foldl_push_bytes]
    simp [strOfNums]
  rw [h, foldl_push_byteCells]
  simp

end Go.Proofs.YtiicoabkhponmaaDoor

/- Package code: the codes' names, and the small functions, by their contracts. -/
namespace Go.Proofs.YtiicoabkhponmaaDoor
open Go.RowKit Go.Lib
set_option linter.unusedVariables false

/-- The codes' names. -/
def nmX : Nat → List UInt8
  | 0 => [115, 116, 111, 112]
  | 1 => [115, 101, 116]
  | 2 => [109, 111, 118, 101]
  | 3 => [97, 100, 100]
  | 4 => [115, 117, 98]
  | 5 => [97, 110, 100]
  | 6 => [120, 111, 114]
  | 7 => [114, 101, 97, 100]
  | 8 => [119, 114, 105, 116, 101]
  | 9 => [114, 101, 97, 100, 50]
  | 10 => [119, 114, 105, 116, 101, 50]
  | 11 => [106, 117, 109, 112]
  | 12 => [122, 101, 114, 111]
  | 13 => [108, 101, 115, 115]
  | 14 => [99, 97, 108, 108]
  | 15 => [114, 101, 115, 116]
  | _ => []
def nmL (k : Nat) : ByteArray := ⟨(nmX k).toArray⟩
/-- Where the package's table stands as1 it was laid. -/
structure Nm (w : World) : Prop where
  at' : ∀ k, k < 16 → w.cell? ⟨0, k, none⟩ = some (.string (nmL k))
  pos : 0 < w.heap.size
theorem Nm.grown {w w' : World} {r : Option Nat} (h : Nm w) (g : w.grownBy w' r) (hr : r ≠ some 0) : Nm w' :=
  ⟨fun k hk => by
    have := g.block 0 h.pos (fun e => hr e.symm)
    rw [show w'.cell? ⟨0, k, none⟩ = w.cell? ⟨0, k, none⟩ by simp only [World.cell?, this]]
    exact h.at' k hk, Nat.lt_of_lt_of_le h.pos g.size⟩
theorem Nm.below {B : Nat} {w w' : World} (h : Nm w) (hb : Below B w w') (hB : 0 < B) : Nm w' :=
  ⟨fun k hk => (hb.cell (p := ⟨0, k, none⟩) hB).trans (h.at' k hk), Nat.lt_of_lt_of_le h.pos hb.size⟩
theorem nm_one : ∀ i : Fin 16, ∀ j : Fin 16, nmX i.val = nmX j.val → i = j := by decide +kernel
theorem nmL_one {i j : Nat} (hi : i < 16) (hj : j < 16) (h : nmL i = nmL j) : i = j := by
  have h' : nmX i = nmX j := by
    have := congrArg (fun b : ByteArray => b.data.toList) h
    simpa [nmL] using this
  have := nm_one ⟨i, hi⟩ ⟨j, hj⟩ h'
  simpa using this
theorem nmL_some : ∀ i : Fin 16, nmX i.val ≠ [] := by decide +kernel
theorem nmL_none {k : Nat} (h : 16 ≤ k) : nmL k = ⟨#[]⟩ := by
  have : nmX k = [] := by
    obtain ⟨j, rfl⟩ : ∃ j, k = j + 16 := ⟨k - 16, by omega⟩
    rfl
  unfold nmL
  rw [this]
/-- The code of a name, if it is one. -/
def ndF (t : ByteArray) : Nat → Int × Bool
  | 0 => (0, false)
  | k + 1 => if nmX k = t.data.toList then ((k : Int), true) else ndF t k
def ndV (t : ByteArray) : Int × Bool := ndF t 16
theorem nmX_eq {k : Nat} {t : ByteArray} : nmX k = t.data.toList ↔ nmL k = t := by
  constructor
  · intro h
    unfold nmL
    rw [h]
  · rintro rfl
    simp [nmL]
theorem ndF_at {t : ByteArray} {k : Nat} (hk : k < 16) (h : nmL k = t) : ∀ n, k < n → n ≤ 16 → ndF t n = ((k : Int), true)
  | 0, h0, _ => by omega
  | n + 1, h0, h1 => by
    unfold ndF
    by_cases e : nmX n = t.data.toList
    · have := nmL_one (i := k) (j := n) hk (by omega) (h.trans (nmX_eq.1 e).symm)
      rw [if_pos e, this]
    · rw [if_neg e]
      refine ndF_at hk h n ?_ (by omega)
      have : k ≠ n := by
        rintro rfl
        exact e (nmX_eq.2 h)
      omega
theorem ndF_none {t : ByteArray} : ∀ n, (∀ k, k < n → nmL k ≠ t) → ndF t n = (0, false)
  | 0, _ => rfl
  | n + 1, h => by
    unfold ndF
    rw [if_neg (fun e => h n (by omega) (nmX_eq.1 e))]
    exact ndF_none n (fun k hk => h k (by omega))
theorem ndV_at {t : ByteArray} {k : Nat} (hk : k < 16) (h : nmL k = t) : ndV t = ((k : Int), true) := ndF_at hk h 16 hk (by omega)
theorem ndV_none {t : ByteArray} (h : ∀ k, k < 16 → nmL k ≠ t) : ndV t = (0, false) := ndF_none 16 h
theorem str_ne19 {a b : ByteArray} (h : a ≠ b) : (a.toList == b.toList) = false := by
  apply beq_eq_false_iff_ne.2
  intro he
  rw [ByteArray.toList_eq, ByteArray.toList_eq] at he
  apply h
  obtain ⟨x⟩ := a
  obtain ⟨y⟩ := b
  simp at he
  rw [he]
theorem name_any (k : Nat) (hk : k < 256) (w : World) (hG : Nm w) : Calls Tryd.prog 64 #[.int .u8 k] w fun e w' => e = .returned (.string (nmL k)) ∧ w = w' := by
  have hw : IntKind.i64.wrap (k : Int) = (k : Int) := by rw [IntKind.wrap_i64]; omega
  by_cases h : k < 16
  · have c := hG.at' k h
    have i0 : ¬ (16 : Int) ≤ (k : Int) := by omega
    have i1 : (k : Int) < 16 := by omega
    have i2 : (0 : Int) ≤ (k : Int) := by omega
    clear hG
    go_enter Tryd.func64, Tryd.ntmps64
    go_wp2
    go_ret
    exact ⟨rfl, rfl⟩
  · have i0 : (16 : Int) ≤ (k : Int) := by omega
    have e : nmL k = ⟨#[]⟩ := nmL_none (by omega)
    rw [e]
    clear hG e
    go_enter Tryd.func64, Tryd.ntmps64
    go_wp2
    go_ret
    exact ⟨rfl, rfl⟩
/-- Is a code's N a register. -/
def rgB (k : Nat) : Bool := decide (2 ≤ k ∧ k ≤ 10)
theorem register_any (k : Nat) (hk : k < 256) (w : World) : Calls Tryd.prog 71 #[.int .u8 k] w fun e w' => e = .returned (.bool (rgB k)) ∧ w = w' := by
  by_cases h : k < 11
  · have key : k = 0 ∨ k = 1 ∨ k = 2 ∨ k = 3 ∨ k = 4 ∨ k = 5 ∨ k = 6 ∨ k = 7 ∨ k = 8 ∨ k = 9 ∨ k = 10 := by omega
    rcases key with rfl | rfl | rfl | rfl | rfl | rfl | rfl | rfl | rfl | rfl | rfl
    all_goals
      go_enter Tryd.func71, Tryd.ntmps71
      go_wp2
      go_ret
      exact ⟨rfl, rfl⟩
  · have e : rgB k = false := by unfold rgB; simp; omega
    have i2 : ((k : Int) == 2) = false := by rw [beq_eq_false_iff_ne]; omega
    have i3 : ((k : Int) == 3) = false := by rw [beq_eq_false_iff_ne]; omega
    have i4 : ((k : Int) == 4) = false := by rw [beq_eq_false_iff_ne]; omega
    have i5 : ((k : Int) == 5) = false := by rw [beq_eq_false_iff_ne]; omega
    have i6 : ((k : Int) == 6) = false := by rw [beq_eq_false_iff_ne]; omega
    have i7 : ((k : Int) == 7) = false := by rw [beq_eq_false_iff_ne]; omega
    have i8 : ((k : Int) == 8) = false := by rw [beq_eq_false_iff_ne]; omega
    have i9 : ((k : Int) == 9) = false := by rw [beq_eq_false_iff_ne]; omega
    have i10 : ((k : Int) == 10) = false := by rw [beq_eq_false_iff_ne]; omega
    rw [e]
    clear e h
    go_enter Tryd.func71, Tryd.ntmps71
    go_wp2
    go_ret
    exact ⟨rfl, rfl⟩
def mxX (k : Nat) : Int := if k = 0 ∨ k = 15 ∨ k = 11 then 0 else 7
def mxN (k : Nat) : Int := if k = 0 ∨ k = 15 then 0 else if rgB k then 7 else 65535
theorem mostx_any (k : Nat) (hk : k < 256) (w : World) : Calls Tryd.prog 66 #[.int .u8 k] w fun e w' => e = .returned (.int .i64 (mxX k)) ∧ w = w' := by
  by_cases h : k = 0 ∨ k = 15 ∨ k = 11
  · rcases h with rfl | rfl | rfl
    all_goals
      go_enter Tryd.func66, Tryd.ntmps66
      go_wp2
      go_ret
      exact ⟨rfl, rfl⟩
  · have e : mxX k = 7 := by unfold mxX; rw [if_neg h]
    have i0 : ((k : Int) == 0) = false := by rw [beq_eq_false_iff_ne]; omega
    have i1 : ((k : Int) == 15) = false := by rw [beq_eq_false_iff_ne]; omega
    have i2 : ((k : Int) == 11) = false := by rw [beq_eq_false_iff_ne]; omega
    rw [e]
    clear e h
    go_enter Tryd.func66, Tryd.ntmps66
    go_wp2
    go_ret
    exact ⟨rfl, rfl⟩
theorem mostn_any (k : Nat) (hk : k < 256) (w : World) : Calls Tryd.prog 67 #[.int .u8 k] w fun e w' => e = .returned (.int .i64 (mxN k)) ∧ w = w' := by
  have HR := Lib.hid (fun W => register_any k hk W)
  by_cases h : k = 0 ∨ k = 15
  · clear HR
    rcases h with rfl | rfl
    all_goals
      go_enter Tryd.func67, Tryd.ntmps67
      go_wp2
      go_ret
      exact ⟨rfl, rfl⟩
  · have e : mxN k = if rgB k then 7 else 65535 := by unfold mxN; rw [if_neg h]
    have i0 : ((k : Int) == 0) = false := by rw [beq_eq_false_iff_ne]; omega
    have i1 : ((k : Int) == 15) = false := by rw [beq_eq_false_iff_ne]; omega
    rw [e]
    clear e h
    generalize rgB k = r at HR
    cases r
    all_goals
      go_enter Tryd.func67, Tryd.ntmps67
      go_wp2_with (go_at_call 71; (with_reducible refine (HR.out _).mono ?_); rintro e w1 ⟨rfl, rfl⟩)
      go_ret
      exact ⟨rfl, rfl⟩
theorem upto_any (n m : Int) (w : World) : Calls Tryd.prog 65 #[.int .i64 n, .int .i64 m] w fun e w' => e = .returned (.bool (decide (0 ≤ n ∧ n ≤ m))) ∧ w = w' := by
  by_cases h : 0 ≤ n
  · go_enter Tryd.func65, Tryd.ntmps65
    go_wp2
    go_ret
    exact ⟨by simp [h], rfl⟩
  · go_enter Tryd.func65, Tryd.ntmps65
    go_wp2
    go_ret
    exact ⟨by first | (simp [h]; done) | (simp; omega), rfl⟩
end Go.Proofs.YtiicoabkhponmaaDoor

/- Package code: a name's code, what may be, by their contracts. -/
namespace Go.Proofs.YtiicoabkhponmaaDoor
open Go.RowKit Go.Lib
set_option linter.unusedVariables false

theorem nm_index (k : Nat) (hk : k < 16) (w : World) : (Instr.index 109 (.agg #[.string (nmL 0), .string (nmL 1), .string (nmL 2), .string (nmL 3), .string (nmL 4), .string (nmL 5), .string (nmL 6), .string (nmL 7), .string (nmL 8), .string (nmL 9), .string (nmL 10), .string (nmL 11), .string (nmL 12), .string (nmL 13), .string (nmL 14), .string (nmL 15)]) (.int .i64 k)).run Tryd.prog w = .ok (.string (nmL k)) w := by
  have key : k = 0 ∨ k = 1 ∨ k = 2 ∨ k = 3 ∨ k = 4 ∨ k = 5 ∨ k = 6 ∨ k = 7 ∨ k = 8 ∨ k = 9 ∨ k = 10 ∨ k = 11 ∨ k = 12 ∨ k = 13 ∨ k = 14 ∨ k = 15 := by omega
  rcases key with rfl | rfl | rfl | rfl | rfl | rfl | rfl | rfl | rfl | rfl | rfl | rfl | rfl | rfl | rfl | rfl
  all_goals (show Sem.run _ _ w = _; kernel_rfl)
/-- An instruction that may be. -/
def mayI (k : Nat) (x n : Int) : Bool := decide (k < 16) && decide (0 ≤ x ∧ x ≤ mxX k) && decide (0 ≤ n ∧ n ≤ mxN k)
end Go.Proofs.YtiicoabkhponmaaDoor
