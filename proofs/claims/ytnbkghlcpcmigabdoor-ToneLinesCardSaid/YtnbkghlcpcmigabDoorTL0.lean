/- Symbols on a line, as they stand: which words they are, how they turn, and what they say. -/
import Derived.Test.YtnbkghlcpcmigabDoorRows
import Derived.Test.YtnbkghlcpcmigabDoorK
import Derived.WalkLawsBesides
import Derived.WalkMore
import Derived.ScopeJumps
import Derived.Lib.Hide
namespace Go.Proofs.YtnbkghlcpcmigabDoor
open Go.RowKit Go.Lib
set_option linter.unusedVariables false

/-- A complex number of words x and y. -/
abbrev Cx (x y : Nat) : Value := .complex .f64 x y
/-- The words of 1 and -1. -/
abbrev sA : Nat := 4607182418800017408
abbrev sB : Nat := 13830554455654793216
/-- The symbol of a quarter; the quarter of two bits (which goes back by itself); the symbol of two bits. -/
def qz : Nat → Nat × Nat
  | 0 => (sA, sA)
  | 1 => (sB, sA)
  | 2 => (sB, sB)
  | _ => (sA, sB)
def gy : Nat → Nat
  | 0 => 0
  | 1 => 1
  | 2 => 3
  | _ => 2
def sx (n : Nat) : Nat := (qz (gy (n % 4))).1
def sz (n : Nat) : Nat := (qz (gy (n % 4))).2
abbrev Sy (n : Nat) : Value := Cx (sx n) (sz n)

/-- The table of the package, as it was laid. -/
structure Gr (w : World) : Prop where
  c0 : w.cell? ⟨0, 0, none⟩ = some (.int .i64 0)
  c1 : w.cell? ⟨0, 1, none⟩ = some (.int .i64 1)
  c2 : w.cell? ⟨0, 2, none⟩ = some (.int .i64 3)
  c3 : w.cell? ⟨0, 3, none⟩ = some (.int .i64 2)
  pos : 0 < w.heap.size
theorem Gr.below {B : Nat} {w w' : World} (h : Gr w) (hb : Below B w w') (hB : 0 < B) : Gr w' := by
  have hc : ∀ i, w'.cell? ⟨0, i, none⟩ = w.cell? ⟨0, i, none⟩ := fun i => hb.cell (p := ⟨0, i, none⟩) hB
  exact ⟨(hc 0).trans h.c0, (hc 1).trans h.c1, (hc 2).trans h.c2, (hc 3).trans h.c3, Nat.lt_of_lt_of_le h.pos hb.size⟩
theorem Gr.drewN {w : World} (h : Gr w) (n : Nat) : Gr (w.drewN n) := ⟨h.c0, h.c1, h.c2, h.c3, h.pos⟩

theorem bits_and3 (n : Int) : bits .and .i64 n 3 = n % 4 := by
  show IntKind.i64.wrap ((BitVec.ofInt 64 n &&& BitVec.ofInt 64 3).toNat : Int) = _
  have h : (BitVec.ofInt 64 (3 : Int)).toNat = 2 ^ 2 - 1 := by decide
  rw [BitVec.toNat_and, h, Nat.and_two_pow_sub_one_eq_mod, BitVec.toNat_ofInt, IntKind.wrap_i64]
  omega

/-- Turned by so many quarters. -/
def trn : Nat → Nat × Nat → Nat × Nat
  | 0, z => z
  | n + 1, z => trn n (Op.negFloat .f64 z.2, z.1)

set_option maxRecDepth 100000 in
theorem turn_any (a b k : Nat) (K : Int) (hK : K % 4 = (k : Int)) (w : World) :
    Calls Tryd.prog 20 #[Cx a b, .int .i64 K] w fun e w' => e = .returned (Cx (trn k (a, b)).1 (trn k (a, b)).2) ∧ w = w' := by
  have hneg : ∀ x, Op.unary .neg (.float .f64 x) = pure (.float .f64 (Op.negFloat .f64 x)) := fun _ => rfl
  have hand : bits .and .i64 K 3 = (k : Int) := by rw [bits_and3, hK]
  have hk : k < 4 := by omega
  clear hK
  go_enter Tryd.func20, Tryd.ntmps20
  go_wp2
  refine wp_scope_jumps 0 (fun a' w' => w' = w ∧ ∃ (m x y : Nat) (u5 u6 u7 u8 u9 u10 u11 u12 u13 u14 u15 u16 u17 : Value), a' = { tmps := #[Cx x y, .int .i64 m, undef, undef, Cx 0 0, u5, u6, u7, u8, u9, u10, u11, u12, u13, u14, u15, u16, u17], defers := [] } ∧ trn m (x, y) = trn k (a, b) ∧ m < 4) (fun a' _ => (intOf (a'.tmps.getD 1 undef)).toNat) rfl ?_ ?_
  · go_wp2
    go_step3
    go_wp2
    · rename_i h0
      obtain rfl : k = 0 := by simp at h0; omega
      simp only [Exit.jump]
      go_ret
      exact ⟨rfl, rfl⟩
    · rename_i h0
      obtain ⟨j, rfl⟩ : ∃ j, k = j + 1 := ⟨k - 1, by simp at h0; omega⟩
      go_step3
      rw [show ((j + 1 : Nat) : Int) - 1 = (j : Int) by omega]
      exact ⟨rfl, rfl, j, _, _, _, _, _, _, _, _, _, _, _, _, _, _, _, rfl, rfl, by omega⟩
  · rintro a' w' ⟨rfl, m, x, y, u5, u6, u7, u8, u9, u10, u11, u12, u13, u14, u15, u16, u17, rfl, hs, hm⟩
    go_wp2
    · rename_i h0
      obtain rfl : m = 0 := by simp at h0; omega
      simp only [Exit.jump]
      go_ret
      rw [← hs]
      exact ⟨rfl, rfl⟩
    · rename_i h0
      obtain ⟨j, rfl⟩ : ∃ j, m = j + 1 := ⟨m - 1, by simp at h0; omega⟩
      go_step3
      rw [show ((j + 1 : Nat) : Int) - 1 = (j : Int) by omega]
      refine ⟨rfl, ⟨rfl, j, _, _, _, _, _, _, _, _, _, _, _, _, _, _, _, rfl, hs, by omega⟩, ?_⟩
      simp [intOf]

theorem sided_A (w : World) : Calls Tryd.prog 22 #[.float .f64 sA] w fun e w' => e = .returned (.bool true) ∧ w = w' := by
  have o1 : (FloatKind.f64.format.order sA 0 == some Ordering.gt) = true := by decide +kernel
  go_enter Tryd.func22, Tryd.ntmps22
  go_wp2
  go_ret
  exact ⟨rfl, rfl⟩
theorem sided_B (w : World) : Calls Tryd.prog 22 #[.float .f64 sB] w fun e w' => e = .returned (.bool true) ∧ w = w' := by
  have o1 : (FloatKind.f64.format.order sB 0 == some Ordering.gt) = false := by decide +kernel
  have o2 : (FloatKind.f64.format.order sB 0 == some Ordering.lt) = true := by decide +kernel
  go_enter Tryd.func22, Tryd.ntmps22
  go_wp2
  go_ret
  exact ⟨rfl, rfl⟩
theorem sided_any (x : Nat) (hx : x = sA ∨ x = sB) (w : World) : Calls Tryd.prog 22 #[.float .f64 x] w fun e w' => e = .returned (.bool true) ∧ w = w' := by
  rcases hx with rfl | rfl
  · exact sided_A w
  · exact sided_B w
theorem qz_parts (q : Nat) : ((qz q).1 = sA ∨ (qz q).1 = sB) ∧ ((qz q).2 = sA ∨ (qz q).2 = sB) := by
  match q with
  | 0 => exact ⟨.inl rfl, .inl rfl⟩
  | 1 => exact ⟨.inr rfl, .inl rfl⟩
  | 2 => exact ⟨.inr rfl, .inr rfl⟩
  | _ + 3 => exact ⟨.inl rfl, .inr rfl⟩
theorem back_qz (q : Nat) (hq : q < 3) : trn 3 (qz (q + 1)) = qz q := by
  rcases (by omega : q = 0 ∨ q = 1 ∨ q = 2) with rfl | rfl | rfl <;> decide +kernel
theorem first_qz (q : Nat) : ((FloatKind.f64.format.order (qz q).1 0 == some Ordering.gt) && (FloatKind.f64.format.order (qz q).2 0 == some Ordering.gt)) = decide (q = 0) := by
  match q with
  | 0 => decide +kernel
  | 1 => decide +kernel
  | 2 => decide +kernel
  | n + 3 =>
    show ((FloatKind.f64.format.order sA 0 == some Ordering.gt) && (FloatKind.f64.format.order sB 0 == some Ordering.gt)) = _
    rw [decide_eq_false (by omega)]
    decide +kernel

set_option maxRecDepth 100000 in
theorem quarter_any (q : Nat) (hq : q < 4) (w : World) : Calls Tryd.prog 21 #[Cx (qz q).1 (qz q).2] w fun e w' => e = .returned (.int .i64 q) ∧ w = w' := by
  have H1 := Lib.hid (fun w => sided_any (qz q).1 (qz_parts q).1 w)
  have H2 := Lib.hid (fun w => sided_any (qz q).2 (qz_parts q).2 w)
  have HT := Lib.hid (fun (j : Nat) (hj : j < 3) w => (back_qz j hj ▸ turn_any (qz (j + 1)).1 (qz (j + 1)).2 3 (-1) (by decide) w : Calls Tryd.prog 20 #[Cx (qz (j + 1)).1 (qz (j + 1)).2, .int .i64 (-1)] w fun e w' => e = .returned (Cx (qz j).1 (qz j).2) ∧ w = w'))
  have oA : (FloatKind.f64.format.order sA 0 == some Ordering.gt) = true := by decide +kernel
  have oB : (FloatKind.f64.format.order sB 0 == some Ordering.gt) = false := by decide +kernel
  go_enter Tryd.func21, Tryd.ntmps21
  go_wp2_with fail
  refine wp_scope_jumps 0 (fun a' w' => w' = w ∧ ∃ (i j : Nat) (u4 u5 u6 u7 u8 u9 u10 u11 u12 u13 u14 u15 u16 u17 u18 u19 u20 u21 u22 u23 u24 u25 u26 : Value), a' = { tmps := #[Cx (qz j).1 (qz j).2, undef, .int .i64 0, .int .i64 i, u4, u5, u6, u7, u8, u9, u10, u11, u12, u13, u14, u15, u16, u17, u18, u19, u20, u21, u22, u23, u24, u25, u26], defers := [] } ∧ i + j = q) (fun a' _ => (4 - intOf (a'.tmps.getD 3 undef)).toNat) rfl ?_ ?_
  · have H3 := Lib.hid (show ∀ j, q = j + 1 → ∀ w, Calls Tryd.prog 20 #[Cx (qz q).1 (qz q).2, .int .i64 (-1)] w fun e w' => e = .returned (Cx (qz j).1 (qz j).2) ∧ w = w' from fun j hj w => by subst hj; exact HT.out j (by omega) w)
    clear HT
    rcases (by omega : q = 0 ∨ q = 1 ∨ q = 2 ∨ q = 3) with rfl | rfl | rfl | rfl
    all_goals simp only [qz] at H1 H2 ⊢
    · go_wp2_with (first | (go_at_call 22; with_reducible refine (H1.out _).mono ?_; rintro e w' ⟨rfl, rfl⟩) | (go_at_call 22; with_reducible refine (H2.out _).mono ?_; rintro e w' ⟨rfl, rfl⟩))
      go_step3
      go_wp2
      simp only [Exit.jump]
      go_ret
      exact ⟨rfl, rfl⟩
    all_goals
      have H3 := Lib.hid (H3.out _ rfl)
      simp only [qz] at H3
      go_wp2_with (first | (go_at_call 22; with_reducible refine (H1.out _).mono ?_; rintro e w' ⟨rfl, rfl⟩) | (go_at_call 22; with_reducible refine (H2.out _).mono ?_; rintro e w' ⟨rfl, rfl⟩))
      go_step3
      go_wp2_with (go_at_call 20; with_reducible refine (H3.out _).mono ?_; rintro e w' ⟨rfl, rfl⟩)
      go_step3
    · exact ⟨rfl, rfl, 1, 0, _, _, _, _, _, _, _, _, _, _, _, _, _, _, _, _, _, _, _, _, _, _, _, rfl, rfl⟩
    · exact ⟨rfl, rfl, 1, 1, _, _, _, _, _, _, _, _, _, _, _, _, _, _, _, _, _, _, _, _, _, _, _, rfl, rfl⟩
    · exact ⟨rfl, rfl, 1, 2, _, _, _, _, _, _, _, _, _, _, _, _, _, _, _, _, _, _, _, _, _, _, _, rfl, rfl⟩
  · rintro a' w' ⟨rfl, i, j, u4, u5, u6, u7, u8, u9, u10, u11, u12, u13, u14, u15, u16, u17, u18, u19, u20, u21, u22, u23, u24, u25, u26, rfl, hij⟩
    have hj : j < 4 := by omega
    rcases (by omega : j = 0 ∨ j = 1 ∨ j = 2 ∨ j = 3) with rfl | rfl | rfl | rfl
    · obtain rfl : i = q := by omega
      simp only [qz]
      go_wp2
      simp only [Exit.jump]
      go_ret
      exact ⟨rfl, rfl⟩
    · have H3 := Lib.hid (HT.out 0 (by omega))
      simp only [qz] at H3 ⊢
      go_wp2_with (go_at_call 20; with_reducible refine (H3.out _).mono ?_; rintro e w' ⟨rfl, rfl⟩)
      go_step3
      exact ⟨rfl, ⟨rfl, i + 1, 0, _, _, _, _, _, _, _, _, _, _, _, _, _, _, _, _, _, _, _, _, _, _, _, rfl, by omega⟩, by simp [intOf]; omega⟩
    · have H3 := Lib.hid (HT.out 1 (by omega))
      simp only [qz] at H3 ⊢
      go_wp2_with (go_at_call 20; with_reducible refine (H3.out _).mono ?_; rintro e w' ⟨rfl, rfl⟩)
      go_step3
      exact ⟨rfl, ⟨rfl, i + 1, 1, _, _, _, _, _, _, _, _, _, _, _, _, _, _, _, _, _, _, _, _, _, _, _, rfl, by omega⟩, by simp [intOf]; omega⟩
    · have H3 := Lib.hid (HT.out 2 (by omega))
      simp only [qz] at H3 ⊢
      go_wp2_with (go_at_call 20; with_reducible refine (H3.out _).mono ?_; rintro e w' ⟨rfl, rfl⟩)
      go_step3
      exact ⟨rfl, ⟨rfl, i + 1, 2, _, _, _, _, _, _, _, _, _, _, _, _, _, _, _, _, _, _, _, _, _, _, _, rfl, by omega⟩, by simp [intOf]; omega⟩
end Go.Proofs.YtnbkghlcpcmigabDoor
