/- The walk of FrameCuts. -/
import Derived.Test.YtogeckdmebkifaaFM9
namespace Go.Proofs.Ytogeckdmebkifaa
open Go.RowKit Go.Lib
set_option linter.unusedVariables false

theorem fcuts_none (t f : Int) (a : Nat) (d z S : ByteArray) (E : Int) (w : World) (hd : d.size ≤ 200) (hz : z.size ≤ 50) (hE : E ≠ 0)
    (H2 : Hid (∀ w, Calls Try.prog 8 #[.agg #[.int .i64 t, .int .i64 f, .string d]] w fun e w' => e = .returned (.tuple #[.string S, .int .i64 E]) ∧ Below w.heap.size w w')) :
    Calls Try.prog 5 #[.agg #[.int .i64 t, .int .i64 f, .string d], .int .u8 a, .string z] w fun e w' => e = .returned (.bool true) ∧ Below w.heap.size w w' := by
  have HL := Lib.hid (fun w => live11_any w)
  have hE' : (E != 0) = true := by simpa using hE
  have HB := Lib.hid ((Below.refl w.heap.size w).alloc (Nat.le_refl _) (.cells #[.int .i64 t, .int .i64 f, .string d] 23))
  have h1 : ¬ (200 : Int) < (d.size : Int) := by omega
  have h2 : ¬ (50 : Int) < (z.size : Int) := by omega
  clear hd hz hE
  go_enter Try.func5, Try.ntmps5
  go_wp2_with (first
    | (go_at_call 8; with_reducible refine (H2.out _).mono ?_; rintro e w2 ⟨rfl, b2⟩; replace b2 := Lib.hid b2)
    | (go_at_call 6; with_reducible refine (HL.out _).mono ?_; rintro e w4 ⟨rfl, b4⟩; replace b4 := Lib.hid b4))
  go_ret
  have k := HB.out.trans (b2.out.mono HB.out.size)
  exact ⟨rfl, k.trans (b4.out.mono k.size)⟩

theorem fcuts_some (t f : Int) (a k : Nat) (d z S C Z : ByteArray) (E : Int) (w : World) (hd : d.size ≤ 200) (hz : z.size ≤ 50) (hS : 0 < S.size) (hSb : S.size ≤ 1000) (ha : a < 256) (hk : k = a % S.size) (hC : C = S.extract 0 k) (hZ : Z = S ++ z)
    (hE : z = ⟨#[]⟩ ∧ E = 0 ∨ z ≠ ⟨#[]⟩ ∧ E = 3)
    (H2 : Hid (∀ w, Calls Try.prog 8 #[.agg #[.int .i64 t, .int .i64 f, .string d]] w fun e w' => e = .returned (.tuple #[.string S, .int .i64 0]) ∧ Below w.heap.size w w'))
    (HC : Hid (∀ w, ∃ p q r, Calls Try.prog 10 #[.string C] w fun e w' => e = .returned (.tuple #[.agg #[.int .i64 p, .int .i64 q, .string r], .int .i64 5]) ∧ Below w.heap.size w w'))
    (HZ : Hid (∀ w, ∃ p q r, Calls Try.prog 10 #[.string Z] w fun e w' => e = .returned (.tuple #[.agg #[.int .i64 p, .int .i64 q, .string r], .int .i64 E]) ∧ Below w.heap.size w w')) :
    Calls Try.prog 5 #[.agg #[.int .i64 t, .int .i64 f, .string d], .int .u8 a, .string z] w fun e w' => e = .returned (.bool true) ∧ Below w.heap.size w w' := by
  have HL := Lib.hid (fun w => live11_any w)
  have HB := Lib.hid ((Below.refl w.heap.size w).alloc (Nat.le_refl _) (.cells #[.int .i64 t, .int .i64 f, .string d] 23))
  have h1 : ¬ (200 : Int) < (d.size : Int) := by omega
  have h2 : ¬ (50 : Int) < (z.size : Int) := by omega
  have hw : wrap64 (a : Int) = (a : Int) := IntWalk.wrap64_in _ ⟨by omega, by omega⟩
  have hne : (S.size : Int) ≠ 0 := by omega
  have hr : (a : Int).tmod (S.size : Int) = (k : Int) := by rw [hk]; rfl
  have hkl : k < S.size := by rw [hk]; exact Nat.mod_lt _ hS
  have k1 : (k : Int) ≤ (S.size : Int) := by omega
  have k2 : k ≤ S.size := by omega
  have k3 : 0 ≤ (k : Int) := by omega
  have k4 : S.extract 0 k = C := hC.symm
  have hcat : ¬ 9223372036854775807 < S.size + z.size := by omega
  have k5 : S ++ z = Z := hZ.symm
  have HK := Lib.hid hk
  clear hd hz hkl hC hZ hS hSb hk
  rcases hE with ⟨rfl, rfl⟩ | ⟨hz, rfl⟩
  · go_enter Try.func5, Try.ntmps5
    go_wp2_with (first
      | (go_at_call 8; with_reducible refine (H2.out _).mono ?_; rintro e w2 ⟨rfl, b2⟩; replace b2 := Lib.hid b2)
      | (go_at_call 10; obtain ⟨p1, q1, r1, g1⟩ := HC.out _; with_reducible refine g1.mono ?_; clear g1; rintro e w3 ⟨rfl, b3⟩; replace b3 := Lib.hid b3)
      | (go_at_call 10; obtain ⟨p2, q2, r2, g2⟩ := HZ.out _; with_reducible refine g2.mono ?_; clear g2; rintro e w5 ⟨rfl, b5⟩; replace b5 := Lib.hid b5)
      | (go_at_call 6; with_reducible refine (HL.out _).mono ?_; rintro e w4 ⟨rfl, b4⟩; replace b4 := Lib.hid b4))
    go_ret
    have x1 := HB.out.trans (b2.out.mono HB.out.size)
    have x2 := x1.trans (b3.out.mono x1.size)
    have x3 := x2.alloc x2.size (.cells #[.int .i64 p1, .int .i64 q1, .string r1] 23)
    have x4 := x3.trans (b5.out.mono x3.size)
    have x5 := x4.alloc x4.size (.cells #[.int .i64 p2, .int .i64 q2, .string r2] 23)
    exact ⟨by simp, x5.trans (b4.out.mono x5.size)⟩
  · have hz1 : (z.toList == []) = false := by
      have := Cr.str_ne hz
      simpa using this
    go_enter Try.func5, Try.ntmps5
    go_wp2_with (first
      | (go_at_call 8; with_reducible refine (H2.out _).mono ?_; rintro e w2 ⟨rfl, b2⟩; replace b2 := Lib.hid b2)
      | (go_at_call 10; obtain ⟨p1, q1, r1, g1⟩ := HC.out _; with_reducible refine g1.mono ?_; clear g1; rintro e w3 ⟨rfl, b3⟩; replace b3 := Lib.hid b3)
      | (go_at_call 10; obtain ⟨p2, q2, r2, g2⟩ := HZ.out _; with_reducible refine g2.mono ?_; clear g2; rintro e w5 ⟨rfl, b5⟩; replace b5 := Lib.hid b5)
      | (go_at_call 6; with_reducible refine (HL.out _).mono ?_; rintro e w4 ⟨rfl, b4⟩; replace b4 := Lib.hid b4))
    go_ret
    have x1 := HB.out.trans (b2.out.mono HB.out.size)
    have x2 := x1.trans (b3.out.mono x1.size)
    have x3 := x2.alloc x2.size (.cells #[.int .i64 p1, .int .i64 q1, .string r1] 23)
    have x4 := x3.trans (b5.out.mono x3.size)
    have x5 := x4.alloc x4.size (.cells #[.int .i64 p2, .int .i64 q2, .string r2] 23)
    exact ⟨by simp, x5.trans (b4.out.mono x5.size)⟩

theorem fcuts_walk (t f : Int) (d : ByteArray) (at' : Int) (z : ByteArray) (w : World) (hat : 0 ≤ at' ∧ at' ≤ 255) : Calls Try.prog 5 #[.agg #[.int .i64 t, .int .i64 f, .string d], .int .u8 at', .string z] w fun e w' => e = .returned (.bool true) ∧ Below w.heap.size w w' := by
  have HL := Lib.hid (fun w => live11_any w)
  have HB := Lib.hid ((Below.refl w.heap.size w).alloc (Nat.le_refl _) (.cells #[.int .i64 t, .int .i64 f, .string d] 23))
  by_cases hd : d.size ≤ 200
  · by_cases hz : z.size ≤ 50
    · obtain ⟨a, rfl⟩ := Int.eq_ofNat_of_zero_le hat.1
      have H2 := Lib.hid (fun w => rprint_any t f d w hd)
      by_cases hbad : t < 0 ∨ 255 < t ∨ f < 0 ∨ 255 < f
      · rw [Fr.arg_of hbad] at H2
        exact fcuts_none t f a d z _ _ w hd hz (by decide) H2
      · by_cases h32 : 32 < d.size
        · rw [Fr.limit_of (by omega) (by omega) (by omega) (by omega) h32] at H2
          exact fcuts_none t f a d z _ _ w hd hz (by decide) H2
        · rw [Fr.ok_of (by omega) (by omega) (by omega) (by omega) (by omega)] at H2
          have hsz := Fr.all_size (t := t) (f := f) (d := d)
          have hk : a % (Cr.sealed (Fr.hd t f d ++ d)).size < d.size + 5 := by rw [hsz]; exact Nat.mod_lt _ (by omega)
          have hce := Fr.cut_end (t := t) (f := f) (d := d) (by omega) _ hk
          have HC := Lib.hid (fun w => show ∃ p q r, Calls Try.prog 10 #[.string ((Cr.sealed (Fr.hd t f d ++ d)).extract 0 (a % (Cr.sealed (Fr.hd t f d ++ d)).size))] w fun e w' => e = .returned (.tuple #[.agg #[.int .i64 p, .int .i64 q, .string r], .int .i64 5]) ∧ Below w.heap.size w w' from by
            have := parse_any ((Cr.sealed (Fr.hd t f d ++ d)).extract 0 (a % (Cr.sealed (Fr.hd t f d ++ d)).size)) w (by rw [ByteArray.size_extract, hsz]; omega)
            rw [hce] at this
            exact ⟨_, _, _, this⟩)
          by_cases hz0 : z.size = 0
          · have hze : z = ⟨#[]⟩ := by
              apply ByteArray.ext
              exact Array.eq_empty_of_size_eq_zero hz0
            have HZ := Lib.hid (fun w => show ∃ p q r, Calls Try.prog 10 #[.string (Cr.sealed (Fr.hd t f d ++ d) ++ z)] w fun e w' => e = .returned (.tuple #[.agg #[.int .i64 p, .int .i64 q, .string r], .int .i64 0]) ∧ Below w.heap.size w w' from by
              have := parse_any (Cr.sealed (Fr.hd t f d ++ d) ++ z) w (by rw [ByteArray.size_append, hsz]; omega)
              rw [hze, Fr.app_empty, Fr.back (by omega) (by omega) (by omega) (by omega) (by omega)] at this
              rw [hze, Fr.app_empty]
              exact ⟨_, _, _, this⟩)
            exact fcuts_some t f a _ d z _ _ _ 0 w hd hz (by rw [hsz]; omega) (by rw [hsz]; omega) (by omega) rfl rfl rfl (Or.inl ⟨hze, rfl⟩) H2 HC HZ
          · have hzn : z ≠ ⟨#[]⟩ := fun e => hz0 (by rw [e]; rfl)
            have HZ := Lib.hid (fun w => show ∃ p q r, Calls Try.prog 10 #[.string (Cr.sealed (Fr.hd t f d ++ d) ++ z)] w fun e w' => e = .returned (.tuple #[.agg #[.int .i64 p, .int .i64 q, .string r], .int .i64 3]) ∧ Below w.heap.size w w' from by
              have := parse_any (Cr.sealed (Fr.hd t f d ++ d) ++ z) w (by rw [ByteArray.size_append, hsz]; omega)
              rw [Fr.more_form (by omega) z (by omega)] at this
              exact ⟨_, _, _, this⟩)
            exact fcuts_some t f a _ d z _ _ _ 3 w hd hz (by rw [hsz]; omega) (by rw [hsz]; omega) (by omega) rfl rfl rfl (Or.inr ⟨hzn, rfl⟩) H2 HC HZ
    · have h1 : ¬ (200 : Int) < (d.size : Int) := by omega
      have h2 : (50 : Int) < (z.size : Int) := by omega
      clear hd hz hat
      go_enter Try.func5, Try.ntmps5
      go_wp2_with (go_at_call 6; with_reducible refine (HL.out _).mono ?_; rintro e w4 ⟨rfl, b4⟩)
      go_ret
      exact ⟨rfl, HB.out.trans (b4.mono HB.out.size)⟩
  · have h1 : (200 : Int) < (d.size : Int) := by omega
    clear hd hat
    go_enter Try.func5, Try.ntmps5
    go_wp2_with (go_at_call 6; with_reducible refine (HL.out _).mono ?_; rintro e w4 ⟨rfl, b4⟩)
    go_ret
    exact ⟨rfl, HB.out.trans (b4.mono HB.out.size)⟩
end Go.Proofs.Ytogeckdmebkifaa
