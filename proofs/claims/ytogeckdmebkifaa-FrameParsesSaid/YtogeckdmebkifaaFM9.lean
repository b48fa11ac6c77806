/- The walk of FrameParses. -/
import Derived.Test.YtogeckdmebkifaaFM8
namespace Go.Proofs.Ytogeckdmebkifaa
open Go.RowKit Go.Lib
set_option linter.unusedVariables false

/-- What a call leaves of a frame of the document's that was just laid, and of what lay before. -/
theorem fr_laid2 {w w4 : World} {t f : Int} {d : ByteArray} (b : Below (w.alloc (.cells #[.int .i64 t, .int .i64 f, .string d] 29)).heap.size (w.alloc (.cells #[.int .i64 t, .int .i64 f, .string d] 29)) w4) :
    (w4.cell? ⟨w.heap.size, 0, none⟩ = some (.int .i64 t) ∧ w4.cell? ⟨w.heap.size, 1, none⟩ = some (.int .i64 f) ∧ w4.cell? ⟨w.heap.size, 2, none⟩ = some (.string d)) ∧ Below w.heap.size w w4 :=
  have h : Blk w4 w.heap.size 29 #[.int .i64 t, .int .i64 f, .string d] := (Blk.new _ _ _).below b (by simp)
  ⟨⟨h.cell 0, h.cell 1, h.cell 2⟩, ((Below.refl _ _).alloc (Nat.le_refl _) _).trans (b.mono (by simp))⟩

def Fr3 (w : World) (g : Nat) (t f : Int) (d : ByteArray) : Prop := w.cell? ⟨g, 0, none⟩ = some (.int .i64 t) ∧ w.cell? ⟨g, 1, none⟩ = some (.int .i64 f) ∧ w.cell? ⟨g, 2, none⟩ = some (.string d)
theorem Fr3.keep {w w' : World} {g : Nat} {t f : Int} {d : ByteArray} (h : Fr3 w g t f d) (b : Below w.heap.size w w') (hg : g < w.heap.size) : Fr3 w' g t f d :=
  ⟨(b.cell (p := ⟨g, 0, none⟩) hg).trans h.1, (b.cell (p := ⟨g, 1, none⟩) hg).trans h.2.1, (b.cell (p := ⟨g, 2, none⟩) hg).trans h.2.2⟩

theorem fr_first {w1 w2 : World} {t f : Int} {d : ByteArray} (b2 : Below (w1.alloc (.cells #[.int .i64 t, .int .i64 f, .string d] 23)).heap.size (w1.alloc (.cells #[.int .i64 t, .int .i64 f, .string d] 23)) w2) :
    Fr3 (w2.alloc (.cells #[.int .i64 t, .int .i64 f, .string d] 29)) w1.heap.size t f d ∧ Below w1.heap.size w1 (w2.alloc (.cells #[.int .i64 t, .int .i64 f, .string d] 29)) ∧ w1.heap.size < w2.heap.size := by
  obtain ⟨h, k⟩ := fr_laid b2
  have hl : w1.heap.size < w2.heap.size := by have := b2.size; simp at this; omega
  exact ⟨Fr3.keep h ((Below.refl _ _).alloc (Nat.le_refl _) _) hl, k.trans ((Below.refl _ _).alloc (Nat.le_of_lt hl) _), hl⟩
theorem fr_second {w1 w2 w3 : World} {t f : Int} {d : ByteArray} (h : Fr3 (w2.alloc (.cells #[.int .i64 t, .int .i64 f, .string d] 29)) w1.heap.size t f d) (k : Below w1.heap.size w1 (w2.alloc (.cells #[.int .i64 t, .int .i64 f, .string d] 29))) (hl : w1.heap.size < w2.heap.size)
    (b3 : Below (w2.alloc (.cells #[.int .i64 t, .int .i64 f, .string d] 29)).heap.size (w2.alloc (.cells #[.int .i64 t, .int .i64 f, .string d] 29)) w3) :
    Fr3 w3 w1.heap.size t f d ∧ Fr3 w3 w2.heap.size t f d ∧ Below w1.heap.size w1 w3 ∧ w1.heap.size < w3.heap.size :=
  ⟨h.keep b3 (by simp; omega), (fr_laid2 b3).1, k.trans (b3.mono (by simp; omega)), by have := b3.size; simp at this; omega⟩
theorem Fr3.at0 {w : World} {g : Nat} {t f : Int} {d : ByteArray} (h : Fr3 w g t f d) : w.cell? ⟨g, 0, none⟩ = some (.int .i64 t) := h.1
theorem Fr3.at1 {w : World} {g : Nat} {t f : Int} {d : ByteArray} (h : Fr3 w g t f d) : w.cell? ⟨g, 1, none⟩ = some (.int .i64 f) := h.2.1
theorem Fr3.at2 {w : World} {g : Nat} {t f : Int} {d : ByteArray} (h : Fr3 w g t f d) : w.cell? ⟨g, 2, none⟩ = some (.string d) := h.2.2

theorem fparses_walk (s : ByteArray) (m : Int) (w : World) : Calls Try.prog 4 #[.string s, .int .i64 m] w fun e w' => e = .returned (.bool true) ∧ Below w.heap.size w w' := by
  have HL := Lib.hid (fun w => live11_any w)
  by_cases hs : s.size ≤ 300
  · have HP := Lib.hid (fun w => parse_any s w (by omega))
    have HR := Lib.hid (fun w => rparse_any s w (by omega))
    have HF := Lib.hid (fun w => for_any s m w (by omega))
    have hfo := Fr.forth (s := s)
    have hlt : ¬ (300 : Int) < (s.size : Int) := by omega
    generalize Fr.paV s = x at HP HR HF hfo
    obtain ⟨⟨a, b, c⟩, e⟩ := x
    simp only at HP HR HF hfo
    clear hs
    by_cases he : e = 0
    · subst he
      obtain ⟨h1, h2⟩ := hfo rfl
      have HQ := Lib.hid (fun w => print_any a b c w (by omega))
      rw [h1] at HQ
      clear hfo h1 h2
      by_cases ha : a = m
      · subst ha
        have hb : (((0 : Int) == 0) && (a == a)) = true := by simp
        rw [hb] at HF
        clear hb
        go_enter Try.func4, Try.ntmps4
        go_wp2_with (first
          | (go_at_call 10; with_reducible refine (HP.out _).mono ?_; rintro e w1 ⟨rfl, b1⟩; replace b1 := Lib.hid b1)
          | (go_at_call 11; with_reducible refine (HR.out _).mono ?_; rintro e w2 ⟨rfl, b2⟩; obtain ⟨k2, q2, l2⟩ := fr_first b2; have c0 := k2.at0; have c1 := k2.at1; have c2 := k2.at2; replace k2 := Lib.hid k2; replace q2 := Lib.hid q2; clear b2)
          | (go_at_call 12; with_reducible refine (HF.out _).mono ?_; rintro e w3 ⟨rfl, b3⟩; obtain ⟨k3, j3, q3, l3⟩ := fr_second k2.out q2.out l2 b3; clear c0 c1 c2; have c0 := k3.at0; have c1 := k3.at1; have c2 := k3.at2; have d0 := j3.at0; have d1 := j3.at1; have d2 := j3.at2; replace q3 := Lib.hid q3; clear b3 k3 j3)
          | (go_at_call 7; with_reducible refine (HQ.out _).mono ?_; rintro e w5 ⟨rfl, b5⟩; replace b5 := Lib.hid b5)
          | (go_at_call 6; with_reducible refine (HL.out _).mono ?_; rintro e w6 ⟨rfl, b6⟩; replace b6 := Lib.hid b6))
        go_ret
        refine ⟨rfl, ?_⟩
        have z1 := b1.out.trans (q3.out.mono b1.out.size)
        have z2 := z1.trans (b5.out.mono z1.size)
        exact z2.trans (b6.out.mono z2.size)
      · have ha' : (a == m) = false := by simpa using ha
        have hb : (((0 : Int) == 0) && (a == m)) = false := by simp [ha]
        rw [hb] at HF
        clear hb
        go_enter Try.func4, Try.ntmps4
        go_wp2_with (first
          | (go_at_call 10; with_reducible refine (HP.out _).mono ?_; rintro e w1 ⟨rfl, b1⟩; replace b1 := Lib.hid b1)
          | (go_at_call 11; with_reducible refine (HR.out _).mono ?_; rintro e w2 ⟨rfl, b2⟩; obtain ⟨k2, q2, l2⟩ := fr_first b2; have c0 := k2.at0; have c1 := k2.at1; have c2 := k2.at2; replace k2 := Lib.hid k2; replace q2 := Lib.hid q2; clear b2)
          | (go_at_call 12; with_reducible refine (HF.out _).mono ?_; rintro e w3 ⟨rfl, b3⟩; obtain ⟨k3, j3, q3, l3⟩ := fr_second k2.out q2.out l2 b3; clear c0 c1 c2; have c0 := k3.at0; have c1 := k3.at1; have c2 := k3.at2; have d0 := j3.at0; have d1 := j3.at1; have d2 := j3.at2; replace q3 := Lib.hid q3; clear b3 k3 j3)
          | (go_at_call 7; with_reducible refine (HQ.out _).mono ?_; rintro e w5 ⟨rfl, b5⟩; replace b5 := Lib.hid b5)
          | (go_at_call 6; with_reducible refine (HL.out _).mono ?_; rintro e w6 ⟨rfl, b6⟩; replace b6 := Lib.hid b6))
        go_ret
        refine ⟨rfl, ?_⟩
        have z1 := b1.out.trans (q3.out.mono b1.out.size)
        have z2 := z1.trans (b5.out.mono z1.size)
        exact z2.trans (b6.out.mono z2.size)
    · have he' : (e == 0) = false := by simpa using he
      have he2 : (e != 0) = true := by simpa using he
      have hb : ((e == 0) && (a == m)) = false := by simp [he]
      rw [hb] at HF
      clear hb hfo
      go_enter Try.func4, Try.ntmps4
      go_wp2_with (first
        | (go_at_call 10; with_reducible refine (HP.out _).mono ?_; rintro e w1 ⟨rfl, b1⟩; replace b1 := Lib.hid b1)
        | (go_at_call 11; with_reducible refine (HR.out _).mono ?_; rintro e w2 ⟨rfl, b2⟩; obtain ⟨k2, q2, l2⟩ := fr_first b2; have c0 := k2.at0; have c1 := k2.at1; have c2 := k2.at2; replace k2 := Lib.hid k2; replace q2 := Lib.hid q2; clear b2)
        | (go_at_call 12; with_reducible refine (HF.out _).mono ?_; rintro e w3 ⟨rfl, b3⟩; obtain ⟨k3, j3, q3, l3⟩ := fr_second k2.out q2.out l2 b3; clear c0 c1 c2; have c0 := k3.at0; have c1 := k3.at1; have c2 := k3.at2; have d0 := j3.at0; have d1 := j3.at1; have d2 := j3.at2; replace q3 := Lib.hid q3; clear b3 k3 j3)
        | (go_at_call 7; with_reducible refine (HQ.out _).mono ?_; rintro e w5 ⟨rfl, b5⟩; replace b5 := Lib.hid b5)
        | (go_at_call 6; with_reducible refine (HL.out _).mono ?_; rintro e w6 ⟨rfl, b6⟩; replace b6 := Lib.hid b6))
      go_ret
      refine ⟨rfl, ?_⟩
      have z1 := b1.out.trans (q3.out.mono b1.out.size)
      exact z1.trans (b6.out.mono z1.size)
  · have hlt : (300 : Int) < (s.size : Int) := by omega
    clear hs
    go_enter Try.func4, Try.ntmps4
    go_wp2_with (go_at_call 6; with_reducible refine (HL.out _).mono ?_; rintro e w4 ⟨rfl, b4⟩)
    go_ret
    exact ⟨rfl, b4⟩
end Go.Proofs.Ytogeckdmebkifaa
