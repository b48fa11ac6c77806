/- For of package frame, the short trial, and FramePrints. -/
import Derived.Test.YtogeckdmebkifaaFM5
namespace Go.Proofs.Ytogeckdmebkifaa
open Go.RowKit Go.Lib
set_option linter.unusedVariables false

theorem for_any (s : ByteArray) (m : Int) (w : World) (hs : s.size ≤ 1000) : Calls Try.prog 12 #[.string s, .int .i64 m] w fun e w' => e = .returned (.bool ((Fr.paV s).2 == 0 && (Fr.paV s).1.1 == m)) ∧ Below w.heap.size w w' := by
  have HP := Lib.hid (fun w => parse_any s w hs)
  generalize Fr.paV s = x at HP ⊢
  obtain ⟨⟨a, b, c⟩, e⟩ := x
  by_cases he : e = 0
  · subst he
    by_cases ha : a = m
    · subst ha
      go_enter Try.func12, Try.ntmps12
      go_wp2_with (go_at_call 10; with_reducible refine (HP.out _).mono ?_; rintro e w1 ⟨rfl, b1⟩)
      go_ret
      exact ⟨by simp, b1.alloc b1.size _⟩
    · have ha' : (a == m) = false := by simpa using ha
      go_enter Try.func12, Try.ntmps12
      go_wp2_with (go_at_call 10; with_reducible refine (HP.out _).mono ?_; rintro e w1 ⟨rfl, b1⟩)
      go_ret
      exact ⟨by simp [ha'], b1.alloc b1.size _⟩
  · have he' : (e == 0) = false := by simpa using he
    go_enter Try.func12, Try.ntmps12
    go_wp2_with (go_at_call 10; with_reducible refine (HP.out _).mono ?_; rintro e w1 ⟨rfl, b1⟩)
    go_ret
    exact ⟨by simp [he'], b1.alloc b1.size _⟩

theorem live11_any (w : World) : Calls Try.prog 6 #[] w fun e w' => e = .returned (.bool true) ∧ Below w.heap.size w w' := by
  have HP := Lib.hid (fun w => print_any 7 9 ⟨#[104, 105]⟩ w (by decide))
  rw [Fr.ok_of (by decide) (by decide) (by decide) (by decide) (by decide)] at HP
  have hz : (Cr.sealed (Fr.hd 7 9 ⟨#[104, 105]⟩ ++ ⟨#[104, 105]⟩)).size = 7 := Fr.all_size
  have hx : ((Cr.sealed (Fr.hd 7 9 ⟨#[104, 105]⟩ ++ ⟨#[104, 105]⟩)).extract 0 5).toList = [7, 9, 2, 104, 105] := by
    have h := Cr.sealed_head (Fr.hd 7 9 ⟨#[104, 105]⟩ ++ ⟨#[104, 105]⟩)
    rw [show (Fr.hd 7 9 ⟨#[104, 105]⟩ ++ ⟨#[104, 105]⟩ : ByteArray).size = 5 from rfl] at h
    rw [h, ByteArray.toList_eq]
    decide +kernel
  generalize Cr.sealed (Fr.hd 7 9 ⟨#[104, 105]⟩ ++ ⟨#[104, 105]⟩) = y at HP hz hx
  have HZ := Lib.hid (show ∀ W, Calls Try.prog 9 #[.int .i64 2] W fun e w' => e = .returned (.int .i64 7) ∧ W = w' from fun W => size_any 2 W)
  go_enter Try.func6, Try.ntmps6
  go_wp2_with (first | (go_at_call 7; with_reducible refine (HP.out _).mono ?_; rintro e w1 ⟨rfl, b1⟩) | (go_at_call 9; with_reducible refine (HZ.out _).mono ?_; rintro e w2 ⟨rfl, rfl⟩))
  go_ret
  exact ⟨rfl, b1⟩
end Go.Proofs.Ytogeckdmebkifaa
