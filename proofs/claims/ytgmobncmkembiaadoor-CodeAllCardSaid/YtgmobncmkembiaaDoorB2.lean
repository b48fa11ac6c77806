/- The reader of package bits: each call by its contract. -/
import Derived.Test.YtgmobncmkembiaaDoorB1
namespace Go.Proofs.YtgmobncmkembiaaDoor
open Go.RowKit Go.Lib
set_option linter.unusedVariables false

/-- What Text(n) does of a reader that stands at p of s, with the error e: the answer, the place, the error. -/
def rdText (s : ByteArray) (p : Nat) (e n : Int) : ByteArray × Nat × Int :=
  if e ≠ 0 then (.empty, p, e) else if n < 0 then (.empty, p, 2) else if (s.size : Int) - p < n then (.empty, p, 5) else (s.extract p (p + n.toNat), p + n.toNat, 0)

/-- A reader lies in block b. -/
def Rd (w : World) (b : Nat) (s : ByteArray) (p : Nat) (e : Int) : Prop := Blk w b 59 #[.int .i64 e, .string s, .int .i64 p]

theorem failed_any (b o : Nat) (e : Int) (w : World) (h : w.cell? ⟨b, o, none⟩ = some (.int .i64 e)) : Calls Tryd.prog 34 #[.pointer (some ⟨b, o, none⟩)] w fun r w' => r = .returned (.bool (e != 0)) ∧ w = w' := by
  go_enter Tryd.func34, Tryd.ntmps34
  go_wp2
  go_ret
  exact ⟨rfl, rfl⟩

theorem fail_any (b o : Nat) (e v : Int) (w : World) (h : w.cell? ⟨b, o, none⟩ = some (.int .i64 e)) (hf : w.frozen? ⟨b, o, none⟩ = false) : Calls Tryd.prog 39 #[.pointer (some ⟨b, o, none⟩), .int .i64 v] w fun r w' => r = .returned (.tuple #[]) ∧ w.setCell ⟨b, o, none⟩ (.int .i64 v) = w' := by
  go_enter Tryd.func39, Tryd.ntmps39
  go_wp2
  go_end0
  exact ⟨rfl, rfl⟩

theorem text_any (b : Nat) (s : ByteArray) (p : Nat) (e n : Int) (w : World) (h : Rd w b s p e) (hp : p ≤ s.size) (hs : s.size ≤ 9223372036854775807) :
    Calls Tryd.prog 35 #[.pointer (some ⟨b, 0, none⟩), .int .i64 n] w fun r w' => r = .returned (.string (rdText s p e n).1) ∧ Rd w' b s (rdText s p e n).2.1 (rdText s p e n).2.2 ∧ w.grownBy w' (some b) := by
  have c0 : w.cell? ⟨b, 0, none⟩ = some (.int .i64 e) := h.cell 0
  have c1 : w.cell? ⟨b, 1, none⟩ = some (.string s) := h.cell 1
  have c2 : w.cell? ⟨b, 2, none⟩ = some (.int .i64 p) := h.cell 2
  have f0 := h.free 0
  have f2 := h.free 2
  have H := Lib.hid h
  clear h
  by_cases he : e = 0
  · subst he
    by_cases hn : n < 0
    · go_enter Tryd.func35, Tryd.ntmps35
      go_wp2_with (first | (go_at_call 34; refine (failed_any _ _ _ _ c0).mono ?_; rintro e w' ⟨rfl, rfl⟩) | (go_at_call 39; refine (fail_any _ _ 0 _ _ (by simpa using c0) (by simpa using f0)).mono ?_; rintro e w' ⟨rfl, rfl⟩))
      go_ret
      have hx : rdText s p 0 n = (.empty, p, 2) := by simp [rdText, hn]
      rw [hx]
      exact ⟨rfl, H.out.put 0 _, only_put (only_refl _ _) _ _⟩
    · by_cases hm : (s.size : Int) - p < n
      · go_enter Tryd.func35, Tryd.ntmps35
        go_wp2_with (first | (go_at_call 34; refine (failed_any _ _ _ _ c0).mono ?_; rintro e w' ⟨rfl, rfl⟩) | (go_at_call 39; refine (fail_any _ _ 0 _ _ (by simpa using c0) (by simpa using f0)).mono ?_; rintro e w' ⟨rfl, rfl⟩))
        go_quiet (fail)
        go_wp2_with (first | (go_at_call 34; refine (failed_any _ _ _ _ c0).mono ?_; rintro e w' ⟨rfl, rfl⟩) | (go_at_call 39; refine (fail_any _ _ 0 _ _ (by simpa using c0) (by simpa using f0)).mono ?_; rintro e w' ⟨rfl, rfl⟩))
        go_ret
        have hx : rdText s p 0 n = (.empty, p, 5) := by simp [rdText, hn, hm]
        rw [hx]
        exact ⟨rfl, (H.out.drewN nq).put 0 _, only_put (only_drewN (only_refl _ _) nq) _ _⟩
      · obtain ⟨k, rfl⟩ := Int.eq_ofNat_of_zero_le (show 0 ≤ n by omega)
        go_enter Tryd.func35, Tryd.ntmps35
        go_wp2_with (first | (go_at_call 34; refine (failed_any _ _ _ _ c0).mono ?_; rintro e w' ⟨rfl, rfl⟩) | (go_at_call 39; refine (fail_any _ _ 0 _ _ (by simpa using c0) (by simpa using f0)).mono ?_; rintro e w' ⟨rfl, rfl⟩))
        go_quiet (fail)
        go_wp2_with (first | (go_at_call 34; refine (failed_any _ _ _ _ c0).mono ?_; rintro e w' ⟨rfl, rfl⟩) | (go_at_call 39; refine (fail_any _ _ 0 _ _ (by simpa using c0) (by simpa using f0)).mono ?_; rintro e w' ⟨rfl, rfl⟩))
        go_quiet (fail)
        go_wp2
        go_ret
        have hx : rdText s p 0 (k : Int) = (s.extract p (p + k), p + k, 0) := by
          rw [rdText, if_neg (by omega), if_neg (by omega), if_neg (by omega)]
          simp
        rw [hx]
        refine ⟨rfl, ?_, only_drewN (only_put (only_drewN (only_refl _ _) _) _ _) _⟩
        exact ((H.out.drewN _).put 2 _).drewN _
  · have he' : (e != 0) = true := by simpa using he
    go_enter Tryd.func35, Tryd.ntmps35
    go_wp2_with (first | (go_at_call 34; refine (failed_any _ _ _ _ c0).mono ?_; rintro e w' ⟨rfl, rfl⟩) | (go_at_call 39; refine (fail_any _ _ 0 _ _ (by simpa using c0) (by simpa using f0)).mono ?_; rintro e w' ⟨rfl, rfl⟩))
    go_ret
    have hx : rdText s p e n = (.empty, p, e) := by simp [rdText, he]
    rw [hx]
    exact ⟨rfl, H.out, only_refl _ _⟩


/-- What Byte() and Two() tell of the bytes that were read. -/
def byteOf (t : ByteArray) : Int := if h : 0 < t.size then (t[0].toNat : Int) else 0
def twoOf (t : ByteArray) : Int := if h : 1 < t.size then (t[0].toNat : Int) + (256 : Int) * (t[1].toNat : Int) else 0

theorem byte_any (b : Nat) (s : ByteArray) (p : Nat) (e : Int) (w : World) (h : Rd w b s p e) (hp : p ≤ s.size) (hs : s.size ≤ 9223372036854775807) :
    Calls Tryd.prog 28 #[.pointer (some ⟨b, 0, none⟩)] w fun r w' => r = .returned (.int .i64 (byteOf (rdText s p e 1).1)) ∧ Rd w' b s (rdText s p e 1).2.1 (rdText s p e 1).2.2 ∧ w.grownBy w' (some b) := by
  have ht := text_any b s p e 1 w h hp hs
  generalize rdText s p e 1 = x at ht ⊢
  obtain ⟨t, p', e'⟩ := x
  have HT := Lib.hid ht
  clear ht h
  by_cases hb : 0 < t.size
  · have hb' : (byteOf t) = (t[0].toNat : Int) := by simp [byteOf, hb]
    have HB := Lib.hid hb'
    clear hb'
    go_enter Tryd.func28, Tryd.ntmps28
    go_wp2_with (go_at_call 35; refine HT.out.mono ?_; rintro e w1 ⟨rfl, h1, h2⟩)
    go_ret
    exact ⟨ret_int (by rw [HB.out, w64_byte]), h1, h2⟩
  · have hb' : (byteOf t) = 0 := by simp [byteOf, hb]
    have HB := Lib.hid hb'
    have hz : t.size = 0 := by omega
    clear hb'
    go_enter Tryd.func28, Tryd.ntmps28
    go_wp2_with (go_at_call 35; refine HT.out.mono ?_; rintro e w1 ⟨rfl, h1, h2⟩)
    go_ret
    exact ⟨ret_int (by rw [HB.out]), h1, h2⟩

theorem rtwo_bytes (t : ByteArray) (h : 1 < t.size) : twoOf t = ((t[0].toNat : Int) % (256 : Int) + (256 : Int) * ((t[1].toNat : Int) % (256 : Int))) := by
  have h0 := t[0].toNat_lt
  have h1 := t[1].toNat_lt
  simp only [twoOf, h, dite_true]
  omega

theorem rdtwo_any (b : Nat) (s : ByteArray) (p : Nat) (e : Int) (w : World) (h : Rd w b s p e) (hp : p ≤ s.size) (hs : s.size ≤ 9223372036854775807) :
    Calls Tryd.prog 29 #[.pointer (some ⟨b, 0, none⟩)] w fun r w' => r = .returned (.int .i64 (twoOf (rdText s p e 2).1)) ∧ Rd w' b s (rdText s p e 2).2.1 (rdText s p e 2).2.2 ∧ w.grownBy w' (some b) := by
  have ht := text_any b s p e 2 w h hp hs
  generalize rdText s p e 2 = x at ht ⊢
  obtain ⟨t, p', e'⟩ := x
  have HT := Lib.hid ht
  clear ht h
  by_cases hb : 1 < t.size
  · have hb' := rtwo_bytes t hb
    have i0 : (0 : Int) < (t.size : Int) := by omega
    have i1 : (1 : Int) < (t.size : Int) := by omega
    have j0 : 0 < t.size := by omega
    have HB := Lib.hid hb'
    clear hb'
    go_enter Tryd.func29, Tryd.ntmps29
    go_wp2_with (first | (go_at_call 35; refine HT.out.mono ?_; rintro e w1 ⟨rfl, h1, h2⟩) | (go_at_call 36; refine (two_any _ _ _).mono ?_; rintro e w2 ⟨rfl, rfl⟩))
    go_quiet ((go_at_call 36; exact quiet_same (two_any _ _ _)))
    go_wp2
    go_ret
    exact ⟨ret_int (by rw [HB.out, w64_byte, w64_byte]), h1.drewN _, only_drewN h2 _⟩
  · have hb' : (twoOf t) = 0 := by simp [twoOf, hb]
    have HB := Lib.hid hb'
    have hz : t.size < 2 := by omega
    clear hb'
    go_enter Tryd.func29, Tryd.ntmps29
    go_wp2_with (first | (go_at_call 35; refine HT.out.mono ?_; rintro e w1 ⟨rfl, h1, h2⟩) | (go_at_call 36; refine (two_any _ _ _).mono ?_; rintro e w2 ⟨rfl, rfl⟩))
    go_ret
    exact ⟨ret_int (by rw [HB.out]), h1, h2⟩

theorem err_any (b : Nat) (s : ByteArray) (p : Nat) (e : Int) (w : World) (h : Rd w b s p e) :
    Calls Tryd.prog 30 #[.pointer (some ⟨b, 0, none⟩)] w fun r w' => r = .returned (.int .i64 e) ∧ w = w' := by
  have c0 : w.cell? ⟨b, 0, none⟩ = some (.int .i64 e) := h.cell 0
  clear h
  go_enter Tryd.func30, Tryd.ntmps30
  go_wp2
  go_ret
  exact ⟨rfl, rfl⟩

def leftOf (s : ByteArray) (p : Nat) (e : Int) : Int := if e = 0 then (s.size : Int) - p else 0

end Go.Proofs.YtgmobncmkembiaaDoor
