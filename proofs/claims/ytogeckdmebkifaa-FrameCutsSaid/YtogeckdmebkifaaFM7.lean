/- The walk of FramePrints. -/
import Derived.Test.YtogeckdmebkifaaFM6
namespace Go.Proofs.Ytogeckdmebkifaa
open Go.RowKit Go.Lib
set_option linter.unusedVariables false

/-- Two prints (the program's, the document's) with one answer, then the trial: what is left of FramePrints where there are no bytes. -/
theorem fprints_none (t f n : Int) (d S : ByteArray) (E : Int) (w : World) (hd : d.size ≤ 200) (hE : E ≠ 0)
    (H1 : Hid (∀ w, Calls Try.prog 7 #[.agg #[.int .i64 t, .int .i64 f, .string d]] w fun e w' => e = .returned (.tuple #[.string S, .int .i64 E]) ∧ Below w.heap.size w w'))
    (H2 : Hid (∀ w, Calls Try.prog 8 #[.agg #[.int .i64 t, .int .i64 f, .string d]] w fun e w' => e = .returned (.tuple #[.string S, .int .i64 E]) ∧ Below w.heap.size w w')) :
    Calls Try.prog 3 #[.agg #[.int .i64 t, .int .i64 f, .string d], .int .i64 n] w fun e w' => e = .returned (.bool true) ∧ Below w.heap.size w w' := by
  have HL := Lib.hid (fun w => live11_any w)
  have hE' : (E != 0) = true := by simpa using hE
  have hbx := (Below.refl w.heap.size w).alloc (Nat.le_refl _) (.cells #[.int .i64 t, .int .i64 f, .string d] 23)
  have HB := Lib.hid hbx
  have hlt : ¬ (200 : Int) < (d.size : Int) := by omega
  have keep : ∀ w1, Below (w.alloc (.cells #[.int .i64 t, .int .i64 f, .string d] 23)).heap.size (w.alloc (.cells #[.int .i64 t, .int .i64 f, .string d] 23)) w1 → (w1.cell? ⟨w.heap.size, 0, none⟩ = some (.int .i64 t) ∧ w1.cell? ⟨w.heap.size, 1, none⟩ = some (.int .i64 f) ∧ w1.cell? ⟨w.heap.size, 2, none⟩ = some (.string d)) ∧ Below w.heap.size w w1 := fun w1 hb =>
    have h : Blk w1 w.heap.size 23 #[.int .i64 t, .int .i64 f, .string d] := (Blk.new _ _ _).below hb (by simp)
    ⟨⟨h.cell 0, h.cell 1, h.cell 2⟩, hbx.trans (hb.mono (by simp))⟩
  have KP := Lib.hid keep
  clear hE hbx keep hd
  have key : ∀ z, Fr.szV n = z → Calls Try.prog 3 #[.agg #[.int .i64 t, .int .i64 f, .string d], .int .i64 n] w fun e w' => e = .returned (.bool true) ∧ Below w.heap.size w w' := fun z hz => by
    have HS := Lib.hid (size_any n)
    rw [hz] at HS
    by_cases h0 : n < 0
    · have hz' : z = 0 := by rw [← hz, Fr.szV, if_neg (by omega)]
      subst hz'
      clear hz
      go_enter Try.func3, Try.ntmps3
      go_wp2_with (first
        | (go_at_call 7; with_reducible refine (H1.out _).mono ?_; rintro e w1 ⟨rfl, b1⟩; obtain ⟨⟨c0, c1, c2⟩, K1⟩ := KP.out _ b1; replace K1 := Lib.hid K1; clear b1)
        | (go_at_call 8; with_reducible refine (H2.out _).mono ?_; rintro e w2 ⟨rfl, b2⟩; have K2 := Lib.hid (K1.out.trans (b2.mono K1.out.size)); clear b2 c0 c1 c2)
        | (go_at_call 9; with_reducible refine (HS.out _).mono ?_; rintro e w3 ⟨rfl, rfl⟩)
        | (go_at_call 6; with_reducible refine (HL.out _).mono ?_; rintro e w4 ⟨rfl, b4⟩))
      go_ret
      exact ⟨rfl, K2.out.trans (b4.mono K2.out.size)⟩
    · by_cases h1 : 32 < n
      · have hz' : z = 0 := by rw [← hz, Fr.szV, if_neg (by omega)]
        subst hz'
        clear hz
        go_enter Try.func3, Try.ntmps3
        go_wp2_with (first
          | (go_at_call 7; with_reducible refine (H1.out _).mono ?_; rintro e w1 ⟨rfl, b1⟩; obtain ⟨⟨c0, c1, c2⟩, K1⟩ := KP.out _ b1; replace K1 := Lib.hid K1; clear b1)
          | (go_at_call 8; with_reducible refine (H2.out _).mono ?_; rintro e w2 ⟨rfl, b2⟩; have K2 := Lib.hid (K1.out.trans (b2.mono K1.out.size)); clear b2 c0 c1 c2)
          | (go_at_call 9; with_reducible refine (HS.out _).mono ?_; rintro e w3 ⟨rfl, rfl⟩)
          | (go_at_call 6; with_reducible refine (HL.out _).mono ?_; rintro e w4 ⟨rfl, b4⟩))
        go_ret
        exact ⟨rfl, K2.out.trans (b4.mono K2.out.size)⟩
      · have hz' : z = n + 5 := by rw [← hz, Fr.szV, if_pos (by omega)]
        subst hz'
        clear hz
        go_enter Try.func3, Try.ntmps3
        go_wp2_with (first
          | (go_at_call 7; with_reducible refine (H1.out _).mono ?_; rintro e w1 ⟨rfl, b1⟩; obtain ⟨⟨c0, c1, c2⟩, K1⟩ := KP.out _ b1; replace K1 := Lib.hid K1; clear b1)
          | (go_at_call 8; with_reducible refine (H2.out _).mono ?_; rintro e w2 ⟨rfl, b2⟩; have K2 := Lib.hid (K1.out.trans (b2.mono K1.out.size)); clear b2 c0 c1 c2)
          | (go_at_call 9; with_reducible refine (HS.out _).mono ?_; rintro e w3 ⟨rfl, rfl⟩)
          | (go_at_call 6; with_reducible refine (HL.out _).mono ?_; rintro e w4 ⟨rfl, b4⟩))
        go_ret
        exact ⟨rfl, K2.out.trans (b4.mono K2.out.size)⟩
  exact key _ rfl
end Go.Proofs.Ytogeckdmebkifaa
