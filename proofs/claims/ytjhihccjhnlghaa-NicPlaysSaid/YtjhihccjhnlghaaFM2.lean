/- Print of package frame, by its contract. -/
import Derived.Test.YtjhihccjhnlghaaFM1
namespace Go.Proofs.Ytjhihccjhnlghaa
open Go.RowKit Go.Lib
set_option linter.unusedVariables false

/-- What is kept between two calls on the writer: the frame's own cells, the writer, and what lies below. -/
def PrK (w0 W : World) (t f : Int) (d : ByteArray) (o : Option (List UInt8)) : Prop :=
  Blk W w0.heap.size 46 #[.int .i64 t, .int .i64 f, .string d] ∧ Wr W (w0.heap.size + 1) (w0.heap.size + 1) o ∧ Below w0.heap.size w0 W ∧ w0.heap.size + 1 < W.heap.size

section
variable {w0 W W' : World} {t f : Int} {d : ByteArray} {o o' : Option (List UInt8)}
theorem PrK.step (h : PrK w0 W t f d o) (h' : Wr W' (w0.heap.size + 1) (w0.heap.size + 1) o') (b : Below (w0.heap.size + 1) W W') : PrK w0 W' t f d o' :=
  ⟨h.1.below b (by omega), h', h.2.2.1.trans (b.mono (by omega)), Nat.lt_of_lt_of_le h.2.2.2 b.size⟩
theorem PrK.new (w0 : World) (t f : Int) (d : ByteArray) : PrK w0 ((w0.alloc (.cells #[.int .i64 t, .int .i64 f, .string d] 46)).alloc (.cells #[.int .i64 0, .slice none 0 0] 107)) t f d (some []) :=
  ⟨(Blk.new _ _ _).alloc _, wnew _ (by simp), ((Below.refl _ _).alloc (Nat.le_refl _) _).alloc (by simp) _, by simp⟩
theorem pr_good (n : Int) {l : List UInt8} (h : PrK w0 W t f d (some l)) (hl : l.length ≤ 1000) (h0 : 0 ≤ n) (h1 : n ≤ 255) :
    Calls Try.prog 50 #[.pointer (some ⟨w0.heap.size + 1, 0, none⟩), .int .i64 n] W fun r w' => r = .returned (.tuple #[]) ∧ PrK w0 w' t f d (some (l ++ [UInt8.ofNat n.toNat])) :=
  (wgood n h.2.1 (Nat.le_refl _) (by have := h.2.2.2; omega) hl h0 h1).mono fun _ _ ⟨e, k, b⟩ => ⟨e, h.step k b⟩
theorem pr_bad (n : Int) {l : List UInt8} (h : PrK w0 W t f d (some l)) (hl : l.length ≤ 1000) (h0 : n < 0 ∨ 255 < n) :
    Calls Try.prog 50 #[.pointer (some ⟨w0.heap.size + 1, 0, none⟩), .int .i64 n] W fun r w' => r = .returned (.tuple #[]) ∧ PrK w0 w' t f d none :=
  (wbad n h.2.1 (Nat.le_refl _) (by have := h.2.2.2; omega) hl h0).mono fun _ _ ⟨e, k, b⟩ => ⟨e, h.step k b⟩
theorem pr_none (n : Int) (h : PrK w0 W t f d none) :
    Calls Try.prog 50 #[.pointer (some ⟨w0.heap.size + 1, 0, none⟩), .int .i64 n] W fun r w' => r = .returned (.tuple #[]) ∧ PrK w0 w' t f d none :=
  (wnone n h.2.1 (Nat.le_refl _) (by have := h.2.2.2; omega)).mono fun _ _ ⟨e, k, b⟩ => ⟨e, h.step k b⟩
theorem pr_text (s : ByteArray) {l : List UInt8} (h : PrK w0 W t f d (some l)) (hl : l.length ≤ 1000) (hs : s.size ≤ 100) :
    Calls Try.prog 52 #[.pointer (some ⟨w0.heap.size + 1, 0, none⟩), .string s] W fun r w' => r = .returned (.tuple #[]) ∧ PrK w0 w' t f d (some (l ++ s.data.toList)) :=
  (wtext s h.2.1 (Nat.le_refl _) (by have := h.2.2.2; omega) hl hs).mono fun _ _ ⟨e, k, b⟩ => ⟨e, h.step k b⟩
theorem pr_err_ok {l : List UInt8} (h : PrK w0 W t f d (some l)) : Calls Try.prog 51 #[.pointer (some ⟨w0.heap.size + 1, 0, none⟩)] W fun r w' => r = .returned (.int .i64 0) ∧ W = w' := werr_ok h.2.1
theorem pr_err_no (h : PrK w0 W t f d none) : Calls Try.prog 51 #[.pointer (some ⟨w0.heap.size + 1, 0, none⟩)] W fun r w' => r = .returned (.int .i64 2) ∧ W = w' := werr_no h.2.1
theorem pr_all {l : List UInt8} (h : PrK w0 W t f d (some l)) : Calls Try.prog 54 #[.pointer (some ⟨w0.heap.size + 1, 0, none⟩)] W fun r w' => r = .returned (.string ⟨l.toArray⟩) ∧ W = w' := wall h.2.1
theorem PrK.cells (h : PrK w0 W t f d o) : W.cell? ⟨w0.heap.size, 0, none⟩ = some (.int .i64 t) ∧ W.cell? ⟨w0.heap.size, 1, none⟩ = some (.int .i64 f) ∧ W.cell? ⟨w0.heap.size, 2, none⟩ = some (.string d) :=
  ⟨h.1.cell 0, h.1.cell 1, h.1.cell 2⟩
end

theorem hd_list (t f : Int) (d : ByteArray) : (⟨([] ++ [UInt8.ofNat t.toNat] ++ [UInt8.ofNat f.toNat] ++ [UInt8.ofNat (d.size : Int).toNat] ++ d.data.toList).toArray⟩ : ByteArray) = Fr.hd t f d ++ d := by
  apply ByteArray.ext
  rw [ByteArray.data_append]
  simp [Fr.hd]

theorem print_any (t f : Int) (d : ByteArray) (w : World) (hd : d.size ≤ 200) : Calls Try.prog 36 #[.agg #[.int .i64 t, .int .i64 f, .string d]] w fun e w' => e = .returned (.tuple #[.string (Fr.prV t f d).1, .int .i64 (Fr.prV t f d).2]) ∧ Below w.heap.size w w' := by
  have P0 := Lib.hid (PrK.new w t f d)
  by_cases hbad : t < 0 ∨ 255 < t ∨ f < 0 ∨ 255 < f
  · have hv := Lib.hid (Fr.arg_of (d := d) hbad)
    by_cases ht : t < 0 ∨ 255 < t
    · have HT := Lib.hid ht
      clear ht hbad
      go_enter Try.func36, Try.ntmps36
      go_wp2_with (first
        | (go_at_call 50; with_reducible refine (pr_bad _ P0.out (by decide) HT.out).mono ?_; rintro e w1 ⟨rfl, p1⟩; have P1 := Lib.hid p1; obtain ⟨c0, c1, c2⟩ := p1.cells; clear p1)
        | (go_at_call 50; with_reducible refine (pr_none _ P1.out).mono ?_; rintro e w2 ⟨rfl, p2⟩; have P2 := Lib.hid p2; clear p2 c0 c1 c2)
        | (go_at_call 51; with_reducible refine (pr_err_no P2.out).mono ?_; rintro e w3 ⟨rfl, rfl⟩))
      go_ret2
      rw [hv.out]
      exact ⟨rfl, P2.out.2.2.1⟩
    · have HT0 : 0 ≤ t := by omega
      have HT1 : t ≤ 255 := by omega
      have HF := Lib.hid (show f < 0 ∨ 255 < f by omega)
      replace HT0 := Lib.hid HT0
      replace HT1 := Lib.hid HT1
      clear ht hbad
      go_enter Try.func36, Try.ntmps36
      go_wp2_with (first
        | (go_at_call 50; with_reducible refine (pr_good _ P0.out (by decide) HT0.out HT1.out).mono ?_; rintro e w1 ⟨rfl, p1⟩; have P1 := Lib.hid p1; obtain ⟨c0, c1, c2⟩ := p1.cells; clear p1)
        | (go_at_call 50; with_reducible refine (pr_bad _ P1.out (by simp) HF.out).mono ?_; rintro e w2 ⟨rfl, p2⟩; have P2 := Lib.hid p2; clear p2 c0 c1 c2)
        | (go_at_call 51; with_reducible refine (pr_err_no P2.out).mono ?_; rintro e w3 ⟨rfl, rfl⟩))
      go_ret2
      rw [hv.out]
      exact ⟨rfl, P2.out.2.2.1⟩
  · have t0 : 0 ≤ t := by omega
    have t1 : t ≤ 255 := by omega
    have f0 : 0 ≤ f := by omega
    have f1 : f ≤ 255 := by omega
    clear hbad
    by_cases h32 : (32 : Int) < (d.size : Int)
    · have hv := Lib.hid (Fr.limit_of (d := d) t0 t1 f0 f1 (by omega))
      replace t0 := Lib.hid t0
      replace t1 := Lib.hid t1
      replace f0 := Lib.hid f0
      replace f1 := Lib.hid f1
      go_enter Try.func36, Try.ntmps36
      go_wp2_with (first
        | (go_at_call 50; with_reducible refine (pr_good _ P0.out (by decide) t0.out t1.out).mono ?_; rintro e w1 ⟨rfl, p1⟩; have P1 := Lib.hid p1; obtain ⟨c0, c1, c2⟩ := p1.cells; clear p1)
        | (go_at_call 50; with_reducible refine (pr_good _ P1.out (by simp) f0.out f1.out).mono ?_; rintro e w2 ⟨rfl, p2⟩; have P2 := Lib.hid p2; clear c0 c1 c2; obtain ⟨c0, c1, c2⟩ := p2.cells; clear p2)
        | (go_at_call 51; with_reducible refine (pr_err_ok P2.out).mono ?_; rintro e w3 ⟨rfl, rfl⟩))
      go_ret2
      rw [hv.out]
      exact ⟨rfl, P2.out.2.2.1⟩
    · have hv := Lib.hid (Fr.ok_of (d := d) t0 t1 f0 f1 (by omega))
      have hsz : d.size ≤ 32 := by omega
      have hd3 := Fr.hd_size t f d
      have hsm : (Fr.hd t f d ++ d).size ≤ 1000 := by rw [ByteArray.size_append]; omega
      have HS := Lib.hid (fun w => seal_any (Fr.hd t f d ++ d) w hsm)
      have HL := Lib.hid (hd_list t f d)
      replace t0 := Lib.hid t0
      replace t1 := Lib.hid t1
      replace f0 := Lib.hid f0
      replace f1 := Lib.hid f1
      have n0 := Lib.hid (show (0 : Int) ≤ (d.size : Int) by omega)
      have n1 := Lib.hid (show (d.size : Int) ≤ 255 by omega)
      have n2 := Lib.hid (show d.size ≤ 100 by omega)
      clear hsm hd3 hsz hd
      go_enter Try.func36, Try.ntmps36
      go_wp2_with (first
        | (go_at_call 50; with_reducible refine (pr_good _ P0.out (by decide) t0.out t1.out).mono ?_; rintro e w1 ⟨rfl, p1⟩; have P1 := Lib.hid p1; obtain ⟨c0, c1, c2⟩ := p1.cells; clear p1)
        | (go_at_call 50; with_reducible refine (pr_good _ P1.out (by simp) f0.out f1.out).mono ?_; rintro e w2 ⟨rfl, p2⟩; have P2 := Lib.hid p2; clear c0 c1 c2; obtain ⟨c0, c1, c2⟩ := p2.cells; clear p2)
        | (go_at_call 51; with_reducible refine (pr_err_ok P2.out).mono ?_; rintro e w3 ⟨rfl, rfl⟩)
        | (go_at_call 50; with_reducible refine (pr_good _ P2.out (by simp) n0.out n1.out).mono ?_; rintro e w4 ⟨rfl, p4⟩; have P4 := Lib.hid p4; clear c0 c1 c2; obtain ⟨c0, c1, c2⟩ := p4.cells; clear p4)
        | (go_at_call 52; with_reducible refine (pr_text _ P4.out (by simp) n2.out).mono ?_; rintro e w5 ⟨rfl, p5⟩; have P5 := Lib.hid p5; clear p5 c0 c1 c2)
        | (go_at_call 54; with_reducible refine (pr_all P5.out).mono ?_; rintro e w6 ⟨rfl, rfl⟩; rw [HL.out])
        | (go_at_call 53; with_reducible refine (HS.out _).mono ?_; rintro e w7 ⟨rfl, b7⟩))
      go_ret2
      rw [hv.out]
      exact ⟨rfl, P5.out.2.2.1.trans (b7.mono P5.out.2.2.1.size)⟩
end Go.Proofs.Ytjhihccjhnlghaa
