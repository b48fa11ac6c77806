/- The walk of FramePrints, behind a frame that has bytes; and all of it. -/
import Derived.Test.YtogeckdmebkifaaFM7
namespace Go.Proofs.Ytogeckdmebkifaa
open Go.RowKit Go.Lib
set_option linter.unusedVariables false

/-- What a call leaves of a frame that was just laid, and of what lay before. -/
theorem fr_laid {w w4 : World} {t f : Int} {d : ByteArray} (b : Below (w.alloc (.cells #[.int .i64 t, .int .i64 f, .string d] 23)).heap.size (w.alloc (.cells #[.int .i64 t, .int .i64 f, .string d] 23)) w4) :
    (w4.cell? ⟨w.heap.size, 0, none⟩ = some (.int .i64 t) ∧ w4.cell? ⟨w.heap.size, 1, none⟩ = some (.int .i64 f) ∧ w4.cell? ⟨w.heap.size, 2, none⟩ = some (.string d)) ∧ Below w.heap.size w w4 :=
  have h : Blk w4 w.heap.size 23 #[.int .i64 t, .int .i64 f, .string d] := (Blk.new _ _ _).below b (by simp)
  ⟨⟨h.cell 0, h.cell 1, h.cell 2⟩, ((Below.refl _ _).alloc (Nat.le_refl _) _).trans (b.mono (by simp))⟩

theorem fprints_some (t f n : Int) (d S : ByteArray) (w : World) (hd : d.size ≤ 200) (hS : S.size = d.size + 5)
    (H1 : Hid (∀ w, Calls Try.prog 7 #[.agg #[.int .i64 t, .int .i64 f, .string d]] w fun e w' => e = .returned (.tuple #[.string S, .int .i64 0]) ∧ Below w.heap.size w w'))
    (H2 : Hid (∀ w, Calls Try.prog 8 #[.agg #[.int .i64 t, .int .i64 f, .string d]] w fun e w' => e = .returned (.tuple #[.string S, .int .i64 0]) ∧ Below w.heap.size w w'))
    (HP : Hid (∀ w, Calls Try.prog 10 #[.string S] w fun e w' => e = .returned (.tuple #[.agg #[.int .i64 t, .int .i64 f, .string d], .int .i64 0]) ∧ Below w.heap.size w w'))
    (HD : Hid (∀ w, Calls Try.prog 9 #[.int .i64 d.size] w fun e w' => e = .returned (.int .i64 (d.size + 5)) ∧ w = w')) :
    Calls Try.prog 3 #[.agg #[.int .i64 t, .int .i64 f, .string d], .int .i64 n] w fun e w' => e = .returned (.bool true) ∧ Below w.heap.size w w' := by
  have HL := Lib.hid (fun w => live11_any w)
  have hbx := (Below.refl w.heap.size w).alloc (Nat.le_refl _) (.cells #[.int .i64 t, .int .i64 f, .string d] 23)
  have hlt : ¬ (200 : Int) < (d.size : Int) := by omega
  have hSi : (S.size : Int) = (d.size : Int) + 5 := by omega
  have keep : ∀ w1, Below (w.alloc (.cells #[.int .i64 t, .int .i64 f, .string d] 23)).heap.size (w.alloc (.cells #[.int .i64 t, .int .i64 f, .string d] 23)) w1 → (w1.cell? ⟨w.heap.size, 0, none⟩ = some (.int .i64 t) ∧ w1.cell? ⟨w.heap.size, 1, none⟩ = some (.int .i64 f) ∧ w1.cell? ⟨w.heap.size, 2, none⟩ = some (.string d)) ∧ Below w.heap.size w w1 ∧ w.heap.size < w1.heap.size := fun w1 hb =>
    have h : Blk w1 w.heap.size 23 #[.int .i64 t, .int .i64 f, .string d] := (Blk.new _ _ _).below hb (by simp)
    ⟨⟨h.cell 0, h.cell 1, h.cell 2⟩, hbx.trans (hb.mono (by simp)), h.lt⟩
  have keep2 : ∀ w1 w2, (w1.cell? ⟨w.heap.size, 0, none⟩ = some (.int .i64 t) ∧ w1.cell? ⟨w.heap.size, 1, none⟩ = some (.int .i64 f) ∧ w1.cell? ⟨w.heap.size, 2, none⟩ = some (.string d)) → Below w.heap.size w w1 → w.heap.size < w1.heap.size → Below w1.heap.size w1 w2 →
      (w2.cell? ⟨w.heap.size, 0, none⟩ = some (.int .i64 t) ∧ w2.cell? ⟨w.heap.size, 1, none⟩ = some (.int .i64 f) ∧ w2.cell? ⟨w.heap.size, 2, none⟩ = some (.string d)) ∧ Below w.heap.size w w2 ∧ w.heap.size < w2.heap.size := fun w1 w2 ⟨c0, c1, c2⟩ k h b =>
    ⟨⟨(b.cell (p := ⟨w.heap.size, 0, none⟩) h).trans c0, (b.cell (p := ⟨w.heap.size, 1, none⟩) h).trans c1, (b.cell (p := ⟨w.heap.size, 2, none⟩) h).trans c2⟩, k.trans (b.mono k.size), Nat.lt_of_lt_of_le h b.size⟩
  have KP := Lib.hid keep
  have KQ := Lib.hid keep2
  clear hbx keep keep2 hd hS
  have key : ∀ z, Fr.szV n = z → Calls Try.prog 3 #[.agg #[.int .i64 t, .int .i64 f, .string d], .int .i64 n] w fun e w' => e = .returned (.bool true) ∧ Below w.heap.size w w' := fun z hz => by
    have HS := Lib.hid (size_any n)
    rw [hz] at HS
    by_cases h0 : n < 0
    · have hz' : z = 0 := by rw [← hz, Fr.szV, if_neg (by omega)]
      subst hz'
      clear hz
      go_enter Try.func3, Try.ntmps3
      go_wp2_with (first
        | (go_at_call 7; with_reducible refine (H1.out _).mono ?_; rintro e w1 ⟨rfl, b1⟩; obtain ⟨⟨c0, c1, c2⟩, K1, g1⟩ := KP.out _ b1; replace K1 := Lib.hid K1; clear b1)
        | (go_at_call 8; with_reducible refine (H2.out _).mono ?_; rintro e w2 ⟨rfl, b2⟩; have q2 := KQ.out _ _ ⟨c0, c1, c2⟩ K1.out g1 b2; clear c0 c1 c2 g1 b2; obtain ⟨⟨c0, c1, c2⟩, K2, g2⟩ := q2; replace K2 := Lib.hid K2)
        | (go_at_call 9; with_reducible refine (HS.out _).mono ?_; rintro e w3 ⟨rfl, rfl⟩)
        | (go_at_call 9; with_reducible refine (HD.out _).mono ?_; rintro e w3 ⟨rfl, rfl⟩)
        | (go_at_call 10; with_reducible refine (HP.out _).mono ?_; rintro e w5 ⟨rfl, b5⟩; have q5 := KQ.out _ _ ⟨c0, c1, c2⟩ K2.out g2 b5; clear c0 c1 c2 g2 b5; obtain ⟨⟨c0, c1, c2⟩, K5, g5⟩ := q5; replace K5 := Lib.hid K5)
        | (go_at_call 6; with_reducible refine (HL.out _).mono ?_; rintro e w4 ⟨rfl, b4⟩; obtain ⟨⟨e0, e1, e2⟩, b6⟩ := fr_laid b4; have q6 := KQ.out _ _ ⟨c0, c1, c2⟩ K5.out g5 b6; clear c0 c1 c2 g5 b4 b6; obtain ⟨⟨c0, c1, c2⟩, K6, g6⟩ := q6; replace K6 := Lib.hid K6))
      go_ret
      exact ⟨by simp, K6.out⟩
    · by_cases h1 : 32 < n
      · have hz' : z = 0 := by rw [← hz, Fr.szV, if_neg (by omega)]
        subst hz'
        clear hz
        go_enter Try.func3, Try.ntmps3
        go_wp2_with (first
          | (go_at_call 7; with_reducible refine (H1.out _).mono ?_; rintro e w1 ⟨rfl, b1⟩; obtain ⟨⟨c0, c1, c2⟩, K1, g1⟩ := KP.out _ b1; replace K1 := Lib.hid K1; clear b1)
          | (go_at_call 8; with_reducible refine (H2.out _).mono ?_; rintro e w2 ⟨rfl, b2⟩; have q2 := KQ.out _ _ ⟨c0, c1, c2⟩ K1.out g1 b2; clear c0 c1 c2 g1 b2; obtain ⟨⟨c0, c1, c2⟩, K2, g2⟩ := q2; replace K2 := Lib.hid K2)
          | (go_at_call 9; with_reducible refine (HS.out _).mono ?_; rintro e w3 ⟨rfl, rfl⟩)
          | (go_at_call 9; with_reducible refine (HD.out _).mono ?_; rintro e w3 ⟨rfl, rfl⟩)
          | (go_at_call 10; with_reducible refine (HP.out _).mono ?_; rintro e w5 ⟨rfl, b5⟩; have q5 := KQ.out _ _ ⟨c0, c1, c2⟩ K2.out g2 b5; clear c0 c1 c2 g2 b5; obtain ⟨⟨c0, c1, c2⟩, K5, g5⟩ := q5; replace K5 := Lib.hid K5)
          | (go_at_call 6; with_reducible refine (HL.out _).mono ?_; rintro e w4 ⟨rfl, b4⟩; obtain ⟨⟨e0, e1, e2⟩, b6⟩ := fr_laid b4; have q6 := KQ.out _ _ ⟨c0, c1, c2⟩ K5.out g5 b6; clear c0 c1 c2 g5 b4 b6; obtain ⟨⟨c0, c1, c2⟩, K6, g6⟩ := q6; replace K6 := Lib.hid K6))
        go_ret
        exact ⟨by simp, K6.out⟩
      · have hz' : z = n + 5 := by rw [← hz, Fr.szV, if_pos (by omega)]
        subst hz'
        clear hz
        go_enter Try.func3, Try.ntmps3
        go_wp2_with (first
          | (go_at_call 7; with_reducible refine (H1.out _).mono ?_; rintro e w1 ⟨rfl, b1⟩; obtain ⟨⟨c0, c1, c2⟩, K1, g1⟩ := KP.out _ b1; replace K1 := Lib.hid K1; clear b1)
          | (go_at_call 8; with_reducible refine (H2.out _).mono ?_; rintro e w2 ⟨rfl, b2⟩; have q2 := KQ.out _ _ ⟨c0, c1, c2⟩ K1.out g1 b2; clear c0 c1 c2 g1 b2; obtain ⟨⟨c0, c1, c2⟩, K2, g2⟩ := q2; replace K2 := Lib.hid K2)
          | (go_at_call 9; with_reducible refine (HS.out _).mono ?_; rintro e w3 ⟨rfl, rfl⟩)
          | (go_at_call 9; with_reducible refine (HD.out _).mono ?_; rintro e w3 ⟨rfl, rfl⟩)
          | (go_at_call 10; with_reducible refine (HP.out _).mono ?_; rintro e w5 ⟨rfl, b5⟩; have q5 := KQ.out _ _ ⟨c0, c1, c2⟩ K2.out g2 b5; clear c0 c1 c2 g2 b5; obtain ⟨⟨c0, c1, c2⟩, K5, g5⟩ := q5; replace K5 := Lib.hid K5)
          | (go_at_call 6; with_reducible refine (HL.out _).mono ?_; rintro e w4 ⟨rfl, b4⟩; obtain ⟨⟨e0, e1, e2⟩, b6⟩ := fr_laid b4; have q6 := KQ.out _ _ ⟨c0, c1, c2⟩ K5.out g5 b6; clear c0 c1 c2 g5 b4 b6; obtain ⟨⟨c0, c1, c2⟩, K6, g6⟩ := q6; replace K6 := Lib.hid K6))
        go_ret
        exact ⟨by simp, K6.out⟩
  exact key _ rfl

theorem fprints_walk (t f n : Int) (d : ByteArray) (w : World) : Calls Try.prog 3 #[.agg #[.int .i64 t, .int .i64 f, .string d], .int .i64 n] w fun e w' => e = .returned (.bool true) ∧ Below w.heap.size w w' := by
  by_cases hd : d.size ≤ 200
  · have H1 := Lib.hid (fun w => print_any t f d w hd)
    have H2 := Lib.hid (fun w => rprint_any t f d w hd)
    by_cases hbad : t < 0 ∨ 255 < t ∨ f < 0 ∨ 255 < f
    · rw [Fr.arg_of hbad] at H1 H2
      exact fprints_none t f n d _ _ w hd (by decide) H1 H2
    · by_cases h32 : 32 < d.size
      · rw [Fr.limit_of (by omega) (by omega) (by omega) (by omega) h32] at H1 H2
        exact fprints_none t f n d _ _ w hd (by decide) H1 H2
      · rw [Fr.ok_of (by omega) (by omega) (by omega) (by omega) (by omega)] at H1 H2
        have hsz := Fr.all_size (t := t) (f := f) (d := d)
        have HP := Lib.hid (fun w => parse_any (Cr.sealed (Fr.hd t f d ++ d)) w (by omega))
        rw [Fr.back (by omega) (by omega) (by omega) (by omega) (by omega)] at HP
        have HD := Lib.hid (fun w => size_any (d.size : Int) w)
        rw [show Fr.szV (d.size : Int) = (d.size : Int) + 5 by rw [Fr.szV, if_pos (by omega)]] at HD
        exact fprints_some t f n d _ w hd hsz H1 H2 HP HD
  · have HL := Lib.hid (fun w => live11_any w)
    have hlt : (200 : Int) < (d.size : Int) := by omega
    have HB := Lib.hid ((Below.refl w.heap.size w).alloc (Nat.le_refl _) (.cells #[.int .i64 t, .int .i64 f, .string d] 23))
    clear hd
    go_enter Try.func3, Try.ntmps3
    go_wp2_with (go_at_call 6; with_reducible refine (HL.out _).mono ?_; rintro e w4 ⟨rfl, b4⟩)
    go_ret
    exact ⟨rfl, HB.out.trans (b4.mono HB.out.size)⟩
end Go.Proofs.Ytogeckdmebkifaa
