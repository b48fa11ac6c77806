/- Frames as bytes: the document's answers in plain form, and Print and Size by their contracts. -/
import Derived.Test.YtjhihccjhnlghaaC3
import Derived.Test.YtjhihccjhnlghaaW1
namespace Go.Proofs.Ytjhihccjhnlghaa
open Go.RowKit Go.Lib
set_option linter.unusedVariables false

namespace Fr
/-- What stands ahead of the data. -/
def hd (t f : Int) (d : ByteArray) : ByteArray := ⟨#[UInt8.ofNat t.toNat, UInt8.ofNat f.toNat, UInt8.ofNat d.size]⟩
/-- A frame as bytes, or why it has none. -/
def prV (t f : Int) (d : ByteArray) : ByteArray × Int := if t < 0 ∨ 255 < t ∨ f < 0 ∨ 255 < f then (⟨#[]⟩, 2) else if 32 < d.size then (⟨#[]⟩, 4) else (Cr.sealed (hd t f d ++ d), 0)
def szV (n : Int) : Int := if 0 ≤ n ∧ n ≤ 32 then n + 5 else 0

theorem hd_size (t f : Int) (d : ByteArray) : (hd t f d).size = 3 := rfl
theorem ok_of {t f : Int} {d : ByteArray} (ht0 : 0 ≤ t) (ht1 : t ≤ 255) (hf0 : 0 ≤ f) (hf1 : f ≤ 255) (hd : d.size ≤ 32) : prV t f d = (Cr.sealed (Fr.hd t f d ++ d), 0) := by
  rw [prV, if_neg (by omega), if_neg (by omega)]
theorem limit_of {t f : Int} {d : ByteArray} (ht0 : 0 ≤ t) (ht1 : t ≤ 255) (hf0 : 0 ≤ f) (hf1 : f ≤ 255) (hd : 32 < d.size) : prV t f d = (⟨#[]⟩, 4) := by
  rw [prV, if_neg (by omega), if_pos (by omega)]
theorem arg_of {t f : Int} {d : ByteArray} (h : t < 0 ∨ 255 < t ∨ f < 0 ∨ 255 < f) : prV t f d = (⟨#[]⟩, 2) := by
  rw [prV, if_pos h]
end Fr

theorem size_any (n : Int) (w : World) : Calls Try.prog 45 #[.int .i64 n] w fun e w' => e = .returned (.int .i64 (Fr.szV n)) ∧ w = w' := by
  by_cases h0 : n < 0
  · have hv := Lib.hid (show Fr.szV n = 0 by rw [Fr.szV, if_neg (by omega)])
    go_enter Try.func45, Try.ntmps45
    go_wp2
    go_ret
    exact ⟨ret_int hv.out.symm, rfl⟩
  · by_cases h1 : 32 < n
    · have hv := Lib.hid (show Fr.szV n = 0 by rw [Fr.szV, if_neg (by omega)])
      go_enter Try.func45, Try.ntmps45
      go_wp2
      go_ret
      exact ⟨ret_int hv.out.symm, rfl⟩
    · have hv := Lib.hid (show Fr.szV n = n + 5 by rw [Fr.szV, if_pos (by omega)])
      go_enter Try.func45, Try.ntmps45
      go_wp2
      go_ret
      exact ⟨ret_int (by rw [hv.out]; omega), rfl⟩

section
variable {B b : Nat} {l : List UInt8} {w : World}
theorem wgood (n : Int) (h : Wr w B b (some l)) (hb : B ≤ b) (hB : B ≤ w.heap.size) (hl : l.length ≤ 1000) (h0 : 0 ≤ n) (h1 : n ≤ 255) :
    Calls Try.prog 50 #[.pointer (some ⟨b, 0, none⟩), .int .i64 n] w fun r w' => r = .returned (.tuple #[]) ∧ Wr w' B b (some (l ++ [UInt8.ofNat n.toNat])) ∧ Below B w w' := by
  have hx : wrNext (some l) 0 n .empty = some (l ++ [UInt8.ofNat n.toNat]) := by simp [wrNext, stepBytes, h0, h1]
  have := wbyte_any B b n .empty (some l) w h hb hB (fun l' e => by injection e with e; subst e; omega)
  rw [hx] at this
  exact this
theorem wbad (n : Int) (h : Wr w B b (some l)) (hb : B ≤ b) (hB : B ≤ w.heap.size) (hl : l.length ≤ 1000) (h0 : n < 0 ∨ 255 < n) :
    Calls Try.prog 50 #[.pointer (some ⟨b, 0, none⟩), .int .i64 n] w fun r w' => r = .returned (.tuple #[]) ∧ Wr w' B b none ∧ Below B w w' := by
  have hx : wrNext (some l) 0 n .empty = none := by
    have : ¬ (0 ≤ n ∧ n ≤ 255) := by omega
    simp [wrNext, stepBytes, this]
  have := wbyte_any B b n .empty (some l) w h hb hB (fun l' e => by injection e with e; subst e; omega)
  rw [hx] at this
  exact this
theorem wnone (n : Int) (h : Wr w B b none) (hb : B ≤ b) (hB : B ≤ w.heap.size) :
    Calls Try.prog 50 #[.pointer (some ⟨b, 0, none⟩), .int .i64 n] w fun r w' => r = .returned (.tuple #[]) ∧ Wr w' B b none ∧ Below B w w' :=
  wbyte_any B b n .empty none w h hb hB (fun l' e => by cases e)
theorem wtext (t : ByteArray) (h : Wr w B b (some l)) (hb : B ≤ b) (hB : B ≤ w.heap.size) (hl : l.length ≤ 1000) (ht : t.size ≤ 100) :
    Calls Try.prog 52 #[.pointer (some ⟨b, 0, none⟩), .string t] w fun r w' => r = .returned (.tuple #[]) ∧ Wr w' B b (some (l ++ t.data.toList)) ∧ Below B w w' := by
  have hx : wrNext (some l) 2 0 t = some (l ++ t.data.toList) := by simp [wrNext, stepBytes]
  have := wtext_any B b 0 t 2 (some l) w h hb hB (fun l' e => by injection e with e; subst e; omega) ht (by decide) (by decide)
  rw [hx] at this
  exact this
theorem werr_ok (h : Wr w B b (some l)) : Calls Try.prog 51 #[.pointer (some ⟨b, 0, none⟩)] w fun r w' => r = .returned (.int .i64 0) ∧ w = w' := werr_any B b _ w h
theorem werr_no (h : Wr w B b none) : Calls Try.prog 51 #[.pointer (some ⟨b, 0, none⟩)] w fun r w' => r = .returned (.int .i64 2) ∧ w = w' := werr_any B b _ w h
theorem wall (h : Wr w B b (some l)) : Calls Try.prog 54 #[.pointer (some ⟨b, 0, none⟩)] w fun r w' => r = .returned (.string ⟨l.toArray⟩) ∧ w = w' := wbytes_any B b _ w h
theorem wnew (w : World) (hB : B = w.heap.size) : Wr (w.alloc (.cells #[.int .i64 0, .slice none 0 0] 107)) B B (some []) := ⟨.slice none 0 0, by rw [hB]; exact Blk.new _ _ _, World.ownsRow_nil _ _ _ _⟩
end

theorem run_three_bytes (x y z : Int) (W : World) : (convert 94 9 (.slice (some ⟨W.heap.size, 0, none⟩) 3 3)).run Try.prog (W.alloc (.cells #[.int .u8 x, .int .u8 y, .int .u8 z] 5)) =
    .ok (.string ⟨#[UInt8.ofNat x.toNat, UInt8.ofNat y.toNat, UInt8.ofNat z.toNat]⟩) (W.alloc (.cells #[.int .u8 x, .int .u8 y, .int .u8 z] 5)) := by
  have h := run_convert_bytes_arg (P := Try.prog) (W.alloc (.cells #[.int .u8 x, .int .u8 y, .int .u8 z] 5)) 94 5 Try.underlying94 Try.underlying5 W.heap.size 0 3 3 [x, y, z] rfl (by
    intro i hi
    match i, hi with
    | 0, _ => simp
    | 1, _ => simp
    | 2, _ => simp) 9 Try.underlying9
  rw [h]
  congr 2

set_option maxRecDepth 20000 in
theorem rprint_any (t f : Int) (d : ByteArray) (w : World) (hd : d.size ≤ 200) : Calls Try.prog 26 #[.agg #[.int .i64 t, .int .i64 f, .string d]] w fun e w' => e = .returned (.tuple #[.string (Fr.prV t f d).1, .int .i64 (Fr.prV t f d).2]) ∧ Below w.heap.size w w' := by
  have one : ∀ o, Below w.heap.size w (w.alloc o) := fun o => (Below.refl _ _).alloc (Nat.le_refl _) _
  by_cases hbad : t < 0 ∨ 255 < t ∨ f < 0 ∨ 255 < f
  · have hv := Lib.hid (Fr.arg_of (d := d) hbad)
    by_cases h0 : t < 0
    · clear hbad
      go_enter Try.func26, Try.ntmps26
      go_wp2
      go_ret2
      rw [hv.out]
      exact ⟨rfl, one _⟩
    · by_cases h1 : 255 < t
      · clear hbad
        go_enter Try.func26, Try.ntmps26
        go_wp2
        go_ret2
        rw [hv.out]
        exact ⟨rfl, one _⟩
      · by_cases h2 : f < 0
        · clear hbad
          go_enter Try.func26, Try.ntmps26
          go_wp2
          go_ret2
          rw [hv.out]
          exact ⟨rfl, one _⟩
        · have h3 : 255 < f := by omega
          clear hbad
          go_enter Try.func26, Try.ntmps26
          go_wp2
          go_ret2
          rw [hv.out]
          exact ⟨rfl, one _⟩
  · have t0 : 0 ≤ t := by omega
    have t1 : t ≤ 255 := by omega
    have f0 : 0 ≤ f := by omega
    have f1 : f ≤ 255 := by omega
    clear hbad
    by_cases h32 : (32 : Int) < (d.size : Int)
    · have hv := Lib.hid (Fr.limit_of (d := d) t0 t1 f0 f1 (by omega))
      go_enter Try.func26, Try.ntmps26
      go_wp2
      go_ret2
      rw [hv.out]
      exact ⟨rfl, one _⟩
    · have hv := Lib.hid (Fr.ok_of (d := d) t0 t1 f0 f1 (by omega))
      have hk : (convert 94 9 (.slice (some ⟨w.heap.size + 1, 0, none⟩) 3 3)).run Try.prog ((w.alloc (.cells #[.int .i64 t, .int .i64 f, .string d] 73)).alloc (.cells #[.int .u8 t, .int .u8 f, .int .u8 (d.size : Int)] 5)) = .ok (.string (Fr.hd t f d)) ((w.alloc (.cells #[.int .i64 t, .int .i64 f, .string d] 73)).alloc (.cells #[.int .u8 t, .int .u8 f, .int .u8 (d.size : Int)] 5)) := by
        have := run_three_bytes t f (d.size : Int) (w.alloc (.cells #[.int .i64 t, .int .i64 f, .string d] 73))
        rw [show UInt8.ofNat (d.size : Int).toNat = UInt8.ofNat d.size by rw [Int.toNat_natCast]] at this
        simpa [Fr.hd] using this
      have e0 : IntKind.u8.wrap t = t := by rw [IntKind.wrap_u8]; omega
      have e1 : IntKind.u8.wrap f = f := by rw [IntKind.wrap_u8]; omega
      have e2 : IntKind.u8.wrap (d.size : Int) = (d.size : Int) := by rw [IntKind.wrap_u8]; omega
      have hz := Fr.hd_size t f d
      have hcat : ¬ 9223372036854775807 < (Fr.hd t f d).size + d.size := by omega
      have hsm : (Fr.hd t f d ++ d).size ≤ 1000 := by rw [ByteArray.size_append]; omega
      have HS := Lib.hid (fun w => rseal_any (Fr.hd t f d ++ d) w hsm)
      have HB := Lib.hid (show Below w.heap.size w ((w.alloc (.cells #[.int .i64 t, .int .i64 f, .string d] 73)).alloc (.cells #[.int .u8 t, .int .u8 f, .int .u8 (d.size : Int)] 5)) from (one _).alloc (by simp) _)
      generalize Fr.hd t f d = x at *
      clear hsm hz one
      go_enter Try.func26, Try.ntmps26
      go_wp2_with (first | (go_at_call 40; with_reducible refine (HS.out _).mono ?_; rintro e w1 ⟨rfl, b1⟩))
      go_ret2
      rw [hv.out]
      exact ⟨rfl, HB.out.trans (b1.mono HB.out.size)⟩
end Go.Proofs.Ytjhihccjhnlghaa
