/- Tones: a byte's symbols. -/
import Derived.Test.YtnbkghlcpcmigabDoorTL1
namespace Go.Proofs.YtnbkghlcpcmigabDoor
open Go.RowKit Go.Lib
set_option linter.unusedVariables false

/-- The first i symbols of a byte, and nothing behind them. -/
def tc (b : Nat) : Nat → Array Value
  | 0 => #[Cx 0 0, Cx 0 0, Cx 0 0, Cx 0 0]
  | 1 => #[Sy (b / 64), Cx 0 0, Cx 0 0, Cx 0 0]
  | 2 => #[Sy (b / 64), Sy (b / 16), Cx 0 0, Cx 0 0]
  | 3 => #[Sy (b / 64), Sy (b / 16), Sy (b / 4), Cx 0 0]
  | _ => #[Sy (b / 64), Sy (b / 16), Sy (b / 4), Sy b]

theorem store_cx (P : Program) (w : World) (a : Addr) (m : Mode) (k : FloatKind) (x y : Nat) : (store a (.complex k x y) m).run P w = stored P w a (.complex k x y) m := run_store P w a _ m rfl
attribute [local go_sem] store_cx

set_option maxRecDepth 100000 in
set_option maxHeartbeats 1600000 in
theorem tones_any (b : Nat) (hb : b < 256) (w : World) (hG : Gr w) : Calls Tryd.prog 9 #[.int .i64 b] w fun e w' => e = .returned (.agg (tc b 4)) ∧ Below w.heap.size w w' := by
  have HS := Lib.hid (fun (i : Nat) (hi : i < 4) w => shift_any i hi w)
  have hY := fun (n : Nat) (wr : World) (h : Below w.heap.size w wr) => symbol_any n wr (hG.below h hG.pos)
  have HY0 := Lib.hid (show ∀ wr, Below w.heap.size w wr → Calls Tryd.prog 14 #[.int .i64 ((b : Int) / 64)] wr fun e w' => e = .returned (Sy (b / 64)) ∧ wr = w' from fun wr h => hY (b / 64) wr h)
  have HY1 := Lib.hid (show ∀ wr, Below w.heap.size w wr → Calls Tryd.prog 14 #[.int .i64 ((b : Int) / 16)] wr fun e w' => e = .returned (Sy (b / 16)) ∧ wr = w' from fun wr h => hY (b / 16) wr h)
  have HY2 := Lib.hid (show ∀ wr, Below w.heap.size w wr → Calls Tryd.prog 14 #[.int .i64 ((b : Int) / 4)] wr fun e w' => e = .returned (Sy (b / 4)) ∧ wr = w' from fun wr h => hY (b / 4) wr h)
  have HY3 := Lib.hid (show ∀ wr, Below w.heap.size w wr → Calls Tryd.prog 14 #[.int .i64 ((b : Int))] wr fun e w' => e = .returned (Sy b) ∧ wr = w' from fun wr h => hY b wr h)
  clear hY
  clear hG
  go_enter Tryd.func9, Tryd.ntmps9
  go_wp2_with fail
  go_loopw [5] (fun x wr => ∃ i : Nat, x = .int .i64 i ∧ i ≤ 4 ∧ Blk wr w.heap.size 31 (tc b 0) ∧ Blk wr (w.heap.size + 1) 31 (tc b i) ∧ Below w.heap.size w wr) (fun x _ => 4 - (intOf x).toNat)
  case atStart => exact ⟨0, rfl, by omega, (Blk.new w _ _).alloc _, by
    have := Blk.new (w.alloc (.cells (tc b 0) 31)) 31 (tc b 0)
    have e : (w.alloc (.cells (tc b 0) 31)).heap.size = w.heap.size + 1 := by simp
    rw [e] at this
    exact this, ((Below.refl _ _).alloc (Nat.le_refl _) _).alloc (by simp) _⟩
  case round =>
    obtain ⟨i, rfl, hi, h0, h1, hB⟩ := hrel
    have HB := Lib.hid hB
    have H0 := Lib.hid h0
    have H1 := Lib.hid h1
    clear hB h0 h1
    rcases (by omega : i = 0 ∨ i = 1 ∨ i = 2 ∨ i = 3 ∨ i = 4) with rfl | rfl | rfl | rfl | rfl
    · have HSi := Lib.hid (show ∀ w, Calls Tryd.prog 15 #[.int .i64 0] w fun e w' => e = .returned (.int .i64 6) ∧ w = w' from HS.out 0 (by omega))
      have f1 : wr.frozen? ⟨w.heap.size + 1, 0, none⟩ = false := H1.out.free 0
      have f2 : wr.cell? ⟨w.heap.size + 1, 0, none⟩ = some (Cx 0 0) := H1.out.cell 0
      go_wp2_with (first | (go_at_call 15; with_reducible refine (HSi.out _).mono ?_; rintro e w' ⟨rfl, rfl⟩) | (go_at_call 14; with_reducible refine (HY0.out _ HB.out).mono ?_; rintro e w' ⟨rfl, rfl⟩))
      go_roundw
      case rel => exact ⟨1, rfl, by omega, H0.out.far (by simp) _, H1.out.put 0 (Sy (b / 64)), HB.out.setCell (by simp) _⟩
      case measure => simp [intOf]
    · have HSi := Lib.hid (show ∀ w, Calls Tryd.prog 15 #[.int .i64 1] w fun e w' => e = .returned (.int .i64 4) ∧ w = w' from HS.out 1 (by omega))
      have f1 : wr.frozen? ⟨w.heap.size + 1, 1, none⟩ = false := H1.out.free 1
      have f2 : wr.cell? ⟨w.heap.size + 1, 1, none⟩ = some (Cx 0 0) := H1.out.cell 1
      go_wp2_with (first | (go_at_call 15; with_reducible refine (HSi.out _).mono ?_; rintro e w' ⟨rfl, rfl⟩) | (go_at_call 14; with_reducible refine (HY1.out _ HB.out).mono ?_; rintro e w' ⟨rfl, rfl⟩))
      go_roundw
      case rel => exact ⟨2, rfl, by omega, H0.out.far (by simp) _, H1.out.put 1 (Sy (b / 16)), HB.out.setCell (by simp) _⟩
      case measure => simp [intOf]
    · have HSi := Lib.hid (show ∀ w, Calls Tryd.prog 15 #[.int .i64 2] w fun e w' => e = .returned (.int .i64 2) ∧ w = w' from HS.out 2 (by omega))
      have f1 : wr.frozen? ⟨w.heap.size + 1, 2, none⟩ = false := H1.out.free 2
      have f2 : wr.cell? ⟨w.heap.size + 1, 2, none⟩ = some (Cx 0 0) := H1.out.cell 2
      go_wp2_with (first | (go_at_call 15; with_reducible refine (HSi.out _).mono ?_; rintro e w' ⟨rfl, rfl⟩) | (go_at_call 14; with_reducible refine (HY2.out _ HB.out).mono ?_; rintro e w' ⟨rfl, rfl⟩))
      go_roundw
      case rel => exact ⟨3, rfl, by omega, H0.out.far (by simp) _, H1.out.put 2 (Sy (b / 4)), HB.out.setCell (by simp) _⟩
      case measure => simp [intOf]
    · have HSi := Lib.hid (show ∀ w, Calls Tryd.prog 15 #[.int .i64 3] w fun e w' => e = .returned (.int .i64 0) ∧ w = w' from HS.out 3 (by omega))
      have f1 : wr.frozen? ⟨w.heap.size + 1, 3, none⟩ = false := H1.out.free 3
      have f2 : wr.cell? ⟨w.heap.size + 1, 3, none⟩ = some (Cx 0 0) := H1.out.cell 3
      go_wp2_with (first | (go_at_call 15; with_reducible refine (HSi.out _).mono ?_; rintro e w' ⟨rfl, rfl⟩) | (go_at_call 14; with_reducible refine (HY3.out _ HB.out).mono ?_; rintro e w' ⟨rfl, rfl⟩))
      go_roundw
      case rel => exact ⟨4, rfl, by omega, H0.out.far (by simp) _, H1.out.put 3 (Sy b), HB.out.setCell (by simp) _⟩
      case measure => simp [intOf]
    · have f0 : wr.frozen? ⟨w.heap.size, 0, none⟩ = false := H0.out.free 0
      have f1 : wr.frozen? ⟨w.heap.size, 1, none⟩ = false := H0.out.free 1
      have f2 : wr.frozen? ⟨w.heap.size, 2, none⟩ = false := H0.out.free 2
      have f3 : wr.frozen? ⟨w.heap.size, 3, none⟩ = false := H0.out.free 3
      have g0 : wr.cell? ⟨w.heap.size, 0, none⟩ = some (Cx 0 0) := H0.out.cell 0
      have g1 : wr.cell? ⟨w.heap.size, 1, none⟩ = some (Cx 0 0) := H0.out.cell 1
      have g2 : wr.cell? ⟨w.heap.size, 2, none⟩ = some (Cx 0 0) := H0.out.cell 2
      have g3 : wr.cell? ⟨w.heap.size, 3, none⟩ = some (Cx 0 0) := H0.out.cell 3
      have c0 : wr.cell? ⟨w.heap.size + 1, 0, none⟩ = some (Sy (b / 64)) := H1.out.cell 0
      have c1 : wr.cell? ⟨w.heap.size + 1, 1, none⟩ = some (Sy (b / 16)) := H1.out.cell 1
      have c2 : wr.cell? ⟨w.heap.size + 1, 2, none⟩ = some (Sy (b / 4)) := H1.out.cell 2
      have c3 : wr.cell? ⟨w.heap.size + 1, 3, none⟩ = some (Sy b) := H1.out.cell 3
      go_wp2
      have hb4 := (((H0.out.put 0 (Sy (b / 64))).put 1 (Sy (b / 16))).put 2 (Sy (b / 4))).put 3 (Sy b)
      have hB4 := (((HB.out.setCell (p := ⟨w.heap.size, 0, none⟩) (Nat.le_refl _) (Sy (b / 64))).setCell (p := ⟨w.heap.size, 1, none⟩) (Nat.le_refl _) (Sy (b / 16))).setCell (p := ⟨w.heap.size, 2, none⟩) (Nat.le_refl _) (Sy (b / 4))).setCell (p := ⟨w.heap.size, 3, none⟩) (Nat.le_refl _) (Sy b)
      have e0 := hb4.cell 0
      have e1 := hb4.cell 1
      have e2 := hb4.cell 2
      have e3 := hb4.cell 3
      generalize World.setCell _ _ (Sy b) = w4 at hB4 e0 e1 e2 e3
      simp [tc] at e0 e1 e2 e3
      exact bodyPost_ret (v := .agg (tc b 4)) (by simp [results, Tryd.results9, go_sem, e0, e1, e2, e3, tc]) rfl ⟨rfl, hB4⟩
end Go.Proofs.YtnbkghlcpcmigabDoor
