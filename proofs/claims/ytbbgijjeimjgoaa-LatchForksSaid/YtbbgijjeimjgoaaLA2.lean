/- A board: what writes it, by contract. -/
import Derived.Test.YtbbgijjeimjgoaaLA1
import Derived.RegionTactic
namespace Go.Proofs.Ytbbgijjeimjgoaa
open Go.RowKit Go.Lib
set_option linter.unusedVariables false

theorem Lt.delivered_nil (x : Int) (w : World) : Calls Try.prog 14 #[.pointer none, .int .i64 x] w fun e w' => e = .returned (.int .i64 0) ∧ w = w' := by
  go_enter Try.func14, Try.ntmps14
  go_wp2_with (go_at_call 21; refine (Lt.has_nil _ _).mono ?_; rintro e w' ⟨rfl, rfl⟩)
  go_ret
  exact ⟨rfl, rfl⟩
theorem Lt.delivered_no (b c : Nat) (x : Int) (o : Nat → Nat × Nat) (w : World) (h : Lt.Brd w b c o) (hi : ¬ (1 ≤ x ∧ x ≤ c)) : Calls Try.prog 14 #[.pointer (some ⟨b, 0, none⟩), .int .i64 x] w fun e w' => e = .returned (.int .i64 0) ∧ w = w' := by
  have HC := Lib.hid (Lt.has_no b c x o w h hi)
  clear h hi
  go_enter Try.func14, Try.ntmps14
  go_wp2_with (go_at_call 21; (with_reducible refine HC.out.mono ?_); rintro e w' ⟨rfl, rfl⟩)
  go_ret
  exact ⟨rfl, rfl⟩
theorem Lt.delivered_yes (b c i : Nat) (o : Nat → Nat × Nat) (w : World) (h : Lt.Brd w b c o) (hi : i < c) : Calls Try.prog 14 #[.pointer (some ⟨b, 0, none⟩), .int .i64 ((i : Int) + 1)] w fun e w' => e = .returned (.int .i64 (o i).2) ∧ w = w' := by
  have HC := Lib.hid (Lt.has_yes b c i o w h hi)
  have i8 : i < 8 := Nat.lt_of_lt_of_le hi h.cnt
  have c0 : w.cell? ⟨b, 1 + i * 2 + 1, none⟩ = some (.int .i64 (o i).2) := (h.blk.cell _).trans (Lt.brdC_d c o i8)
  have i0 : (0 : Int) ≤ (i : Int) := by omega
  have i9 : (i : Int) < 8 := by omega
  clear h hi
  go_enter Try.func14, Try.ntmps14
  go_wp2_with (go_at_call 21; (with_reducible refine HC.out.mono ?_); rintro e w' ⟨rfl, rfl⟩)
  go_ret
  exact ⟨rfl, rfl⟩
theorem Lt.open_nil (x : Int) (w : World) : Calls Try.prog 11 #[.pointer none, .int .i64 x] w fun e w' => e = .returned (.int .i64 0) ∧ w = w' := by
  go_enter Try.func11, Try.ntmps11
  go_wp2_with (go_at_call 21; refine (Lt.has_nil _ _).mono ?_; rintro e w' ⟨rfl, rfl⟩)
  go_ret
  exact ⟨rfl, rfl⟩
theorem Lt.open_no (b c : Nat) (x : Int) (o : Nat → Nat × Nat) (w : World) (h : Lt.Brd w b c o) (hi : ¬ (1 ≤ x ∧ x ≤ c)) : Calls Try.prog 11 #[.pointer (some ⟨b, 0, none⟩), .int .i64 x] w fun e w' => e = .returned (.int .i64 0) ∧ w = w' := by
  have HC := Lib.hid (Lt.has_no b c x o w h hi)
  clear h hi
  go_enter Try.func11, Try.ntmps11
  go_wp2_with (go_at_call 21; (with_reducible refine HC.out.mono ?_); rintro e w' ⟨rfl, rfl⟩)
  go_ret
  exact ⟨rfl, rfl⟩
theorem Lt.take_nil (x : Int) (w : World) : Calls Try.prog 12 #[.pointer none, .int .i64 x] w fun e w' => e = .returned (.int .i64 0) ∧ w = w' := by
  go_enter Try.func12, Try.ntmps12
  go_wp2_with (go_at_call 21; refine (Lt.has_nil _ _).mono ?_; rintro e w' ⟨rfl, rfl⟩)
  go_ret
  exact ⟨rfl, rfl⟩
theorem Lt.take_no (b c : Nat) (x : Int) (o : Nat → Nat × Nat) (w : World) (h : Lt.Brd w b c o) (hi : ¬ (1 ≤ x ∧ x ≤ c)) : Calls Try.prog 12 #[.pointer (some ⟨b, 0, none⟩), .int .i64 x] w fun e w' => e = .returned (.int .i64 0) ∧ w = w' := by
  have HC := Lib.hid (Lt.has_no b c x o w h hi)
  clear h hi
  go_enter Try.func12, Try.ntmps12
  go_wp2_with (go_at_call 21; (with_reducible refine HC.out.mono ?_); rintro e w' ⟨rfl, rfl⟩)
  go_ret
  exact ⟨rfl, rfl⟩
theorem Lt.take_yes (b c i : Nat) (o : Nat → Nat × Nat) (w : World) (h : Lt.Brd w b c o) (hi : i < c) : Calls Try.prog 12 #[.pointer (some ⟨b, 0, none⟩), .int .i64 ((i : Int) + 1)] w fun e w' => e = .returned (.int .i64 (o i).2) ∧ Lt.Brd w' b c (Lt.upd o i ((o i).1, 0)) ∧ w.grownBy w' (some b) := by
  have HC := Lib.hid (Lt.has_yes b c i o w h hi)
  have i8 : i < 8 := Nat.lt_of_lt_of_le hi h.cnt
  have c0 : w.cell? ⟨b, 1 + i * 2 + 1, none⟩ = some (.int .i64 (o i).2) := (h.blk.cell _).trans (Lt.brdC_d c o i8)
  have f0 : w.frozen? ⟨b, 1 + i * 2 + 1, none⟩ = false := h.blk.free _
  have HN := Lib.hid (h.putd i8 (x := 0) (by omega))
  have i0 : (0 : Int) ≤ (i : Int) := by omega
  have i9 : (i : Int) < 8 := by omega
  clear h hi
  go_enter Try.func12, Try.ntmps12
  go_wp2_with (go_at_call 21; (with_reducible refine HC.out.mono ?_); rintro e w' ⟨rfl, rfl⟩)
  go_ret
  exact ⟨rfl, HN.out, only_put (only_refl _ _) _ _⟩
theorem Lt.open_yes (b c i : Nat) (o : Nat → Nat × Nat) (w : World) (h : Lt.Brd w b c o) (hi : i < c) : Calls Try.prog 11 #[.pointer (some ⟨b, 0, none⟩), .int .i64 ((i : Int) + 1)] w fun e w' => e = .returned (.int .i64 (o i).1) ∧ Lt.Brd w' b c (Lt.upd o i (0, (o i).2 ||| (o i).1)) ∧ w.grownBy w' (some b) := by
  have HC := Lib.hid (Lt.has_yes b c i o w h hi)
  have i8 : i < 8 := Nat.lt_of_lt_of_le hi h.cnt
  have c0 : w.cell? ⟨b, 1 + i * 2, none⟩ = some (.int .i64 (o i).1) := (h.blk.cell _).trans (Lt.brdC_l c o i8)
  have c1 : w.cell? ⟨b, 1 + i * 2 + 1, none⟩ = some (.int .i64 (o i).2) := (h.blk.cell _).trans (Lt.brdC_d c o i8)
  have f0 : w.frozen? ⟨b, 1 + i * 2, none⟩ = false := h.blk.free _
  have f1 : w.frozen? ⟨b, 1 + i * 2 + 1, none⟩ = false := h.blk.free _
  have hb := h.lt i i8
  have e1 := Lt.or64 (o i).2 (o i).1 hb.2 hb.1
  have HN := Lib.hid (show Lt.Brd ((w.setCell ⟨b, 1 + i * 2 + 1, none⟩ (.int .i64 (((o i).2 ||| (o i).1 : Nat)))).setCell ⟨b, 1 + i * 2, none⟩ (.int .i64 0)) b c (Lt.upd o i (0, (o i).2 ||| (o i).1)) from by
    have := (h.putd i8 (x := (o i).2 ||| (o i).1) (Lt.or_lt hb.2 hb.1)).putl i8 (x := 0) (by omega)
    rw [Lt.upd_at] at this
    refine ⟨?_, this.cnt, ?_⟩
    · have e : Lt.upd (Lt.upd o i ((o i).1, (o i).2 ||| (o i).1)) i (0, ((o i).1, (o i).2 ||| (o i).1).2) = Lt.upd o i (0, (o i).2 ||| (o i).1) := by
        funext j; unfold Lt.upd; split <;> rfl
      rw [← e]; exact this.blk
    · intro j hj
      have := this.lt j hj
      unfold Lt.upd at this ⊢
      split <;> simp_all)
  have i0 : (0 : Int) ≤ (i : Int) := by omega
  have i9 : (i : Int) < 8 := by omega
  clear h hi hb
  generalize (o i).1 = x at *
  generalize (o i).2 = y at *
  go_enter Try.func11, Try.ntmps11
  go_wp2_with (go_at_call 21; (with_reducible refine HC.out.mono ?_); rintro e w' ⟨rfl, rfl⟩)
  go_ret
  exact ⟨rfl, HN.out, only_put (only_put (only_refl _ _) _ _) _ _⟩
theorem Lt.raise_nil (x y : Int) (w : World) : Calls Try.prog 10 #[.pointer none, .int .i64 x, .int .i64 y] w fun e w' => e = .returned (.int .i64 1) ∧ w = w' := by
  go_enter Try.func10, Try.ntmps10
  go_wp2
  go_ret
  exact ⟨rfl, rfl⟩
theorem Lt.raise_no (b c : Nat) (x y : Int) (o : Nat → Nat × Nat) (w : World) (h : Lt.Brd w b c o) (hi : ¬ (1 ≤ x ∧ x ≤ c)) : Calls Try.prog 10 #[.pointer (some ⟨b, 0, none⟩), .int .i64 x, .int .i64 y] w fun e w' => e = .returned (.int .i64 7) ∧ w = w' := by
  have HC := Lib.hid (Lt.has_no b c x o w h hi)
  clear h hi
  go_enter Try.func10, Try.ntmps10
  go_wp2_with (go_at_call 21; (with_reducible refine HC.out.mono ?_); rintro e w' ⟨rfl, rfl⟩)
  go_ret
  exact ⟨rfl, rfl⟩
theorem Lt.raise_arg (b c i : Nat) (y : Int) (o : Nat → Nat × Nat) (w : World) (h : Lt.Brd w b c o) (hi : i < c) (hy : ¬ (0 ≤ y ∧ y ≤ 255)) : Calls Try.prog 10 #[.pointer (some ⟨b, 0, none⟩), .int .i64 ((i : Int) + 1), .int .i64 y] w fun e w' => e = .returned (.int .i64 2) ∧ w = w' := by
  have HC := Lib.hid (Lt.has_yes b c i o w h hi)
  clear h hi
  by_cases y0 : y < 0
  · clear hy
    go_enter Try.func10, Try.ntmps10
    go_wp2_with (go_at_call 21; (with_reducible refine HC.out.mono ?_); rintro e w' ⟨rfl, rfl⟩)
    go_ret
    exact ⟨rfl, rfl⟩
  · have y1 : (255 : Int) < y := by omega
    clear hy
    go_enter Try.func10, Try.ntmps10
    go_wp2_with (go_at_call 21; (with_reducible refine HC.out.mono ?_); rintro e w' ⟨rfl, rfl⟩)
    go_ret
    exact ⟨rfl, rfl⟩
theorem Lt.raise_yes (b c i y : Nat) (o : Nat → Nat × Nat) (w : World) (h : Lt.Brd w b c o) (hi : i < c) (hy : y < 256) : Calls Try.prog 10 #[.pointer (some ⟨b, 0, none⟩), .int .i64 ((i : Int) + 1), .int .i64 y] w fun e w' => e = .returned (.int .i64 0) ∧ Lt.Brd w' b c (Lt.upd o i ((o i).1 ||| y, (o i).2)) ∧ w.grownBy w' (some b) := by
  have HC := Lib.hid (Lt.has_yes b c i o w h hi)
  have i8 : i < 8 := Nat.lt_of_lt_of_le hi h.cnt
  have c0 : w.cell? ⟨b, 1 + i * 2, none⟩ = some (.int .i64 (o i).1) := (h.blk.cell _).trans (Lt.brdC_l c o i8)
  have f0 : w.frozen? ⟨b, 1 + i * 2, none⟩ = false := h.blk.free _
  have hb := h.lt i i8
  have e1 := Lt.or64 (o i).1 y hb.1 hy
  have HN := Lib.hid (fun q => (h.drewN q).putl i8 (x := (o i).1 ||| y) (Lt.or_lt hb.1 hy))
  have i0 : (0 : Int) ≤ (i : Int) := by omega
  have i9 : (i : Int) < 8 := by omega
  have y0 : ¬ (y : Int) < 0 := by omega
  have y1 : ¬ (255 : Int) < (y : Int) := by omega
  have u1 : IntKind.i64.wrap ((i : Int) + 1 - 1) = (i : Int) := by rw [IntKind.wrap_i64]; omega
  have u2 : wrap64 ((i : Int) + 1 - 1) = (i : Int) := by rw [IntWalk.wrap64_in _ ⟨by omega, by omega⟩]; omega
  clear h hi hb
  generalize (o i).1 = x at *
  go_enter Try.func10, Try.ntmps10
  go_upto_region 7 with (go_at_call 21; (with_reducible refine HC.out.mono ?_); rintro e w' ⟨rfl, rfl⟩)
  go_region
  all_goals go_wp2
  all_goals go_ret
  all_goals exact ⟨rfl, HN.out 1, only_put (only_drewN (only_refl _ _) 1) _ _⟩
end Go.Proofs.Ytbbgijjeimjgoaa
