/- An empty line is read; what is asked whatever the input. -/
import Derived.Test.YtnbkghlcpcmigabDoorTL7
namespace Go.Proofs.YtnbkghlcpcmigabDoor
open Go.RowKit Go.Lib
set_option linter.unusedVariables false

set_option maxRecDepth 100000 in
theorem read_none (A : Option Addr) (c : Nat) (w : World) : Calls Tryd.prog 8 #[.slice A 0 c] w fun e w' => e = .returned (.tuple #[.string ⟨#[]⟩, .int .i64 0, .int .i64 0]) ∧ Below w.heap.size w w' := by
  have HS := Lib.hid (fun w' => silent_none w' c A)
  obtain ⟨i0, hi0, hz0, hz1, hz2⟩ := info_u8
  obtain ⟨w1, hr, hown, hg⟩ := run_makeSlice_owned (P := Tryd.prog) w w.heap.size 39 5 i0 _ 1 Tryd.underlying39 hi0 hz0 hz1 .i64 .i64 0 (by omega) (by rw [hz2]; omega) (by unfold maxLen; omega) (Nat.le_refl _)
  have HO := Lib.hid (show OwnB w1 w.heap.size _ [] from hown)
  have HB1 := Lib.hid (below_of_only hg (Nat.le_refl w.heap.size) (fun k hk => by cases hk))
  have hr : (Instr.makeSlice 39 (.int .i64 0) (.int .i64 0)).run Tryd.prog w = .ok (.slice (some ⟨w.heap.size, 0, none⟩) 0 0) w1 := hr
  have hs : (convert 39 9 (.slice (some ⟨w.heap.size, 0, none⟩) 0 0)).run Tryd.prog w1 = .ok (.string ⟨#[]⟩) w1 := HO.out.str rfl
  clear hown hg
  go_enter Tryd.func8, Tryd.ntmps8
  go_wp2_with (first | simp only [hr] | (go_at_call 13; with_reducible refine (HS.out _).mono ?_; rintro e w2 ⟨rfl, rfl⟩))
  go_loop [6, 7] (fun v x => v = .slice (some ⟨w.heap.size, 0, none⟩) 0 0 ∧ x = .int .i64 0) (fun _ _ => 0)
  case atStart => exact ⟨rfl, rfl⟩
  case round =>
    obtain ⟨rfl, rfl⟩ := hrel
    go_wp2
    go_ret3
    exact ⟨rfl, HB1.out⟩

attribute [local go_sem] store_cx
set_option maxRecDepth 100000 in
set_option maxHeartbeats 1600000 in
theorem live10_any (w : World) (hG : Gr w) : Calls Tryd.prog 4 #[] w fun e w' => e = .returned (.bool true) ∧ Below w.heap.size w w' := by
  have e27 : tc 27 4 = #[Cx sA sA, Cx sB sA, Cx sA sB, Cx sB sB] := by kernel_rfl
  have hT := tones_any 27 (by omega) w hG
  have hY := fun w' (h : Below w.heap.size w w') => byte_any 27 (by omega) w' (hG.below h hG.pos)
  simp only [e27] at hT hY
  have HT := Lib.hid (show Calls Tryd.prog 9 #[.int .i64 27] w fun e w' => e = .returned (.agg #[Cx sA sA, Cx sB sA, Cx sA sB, Cx sB sB]) ∧ Below w.heap.size w w' from hT)
  have HY := Lib.hid (show ∀ w', Below w.heap.size w w' → Calls Tryd.prog 10 #[.agg #[Cx sA sA, Cx sB sA, Cx sA sB, Cx sB sB]] w' fun e w2 => e = .returned (.tuple #[.int .i64 27, .int .i64 0]) ∧ Below w'.heap.size w' w2 from hY)
  have eA : (FloatKind.f64.format.order sA sA == some Ordering.eq) = true := by decide +kernel
  have eB : (FloatKind.f64.format.order sB sB == some Ordering.eq) = true := by decide +kernel
  clear hT hY e27 hG
  go_enter Tryd.func4, Tryd.ntmps4
  go_wp2_with (first | (go_at_call 9; with_reducible refine HT.out.mono ?_; rintro e w2 ⟨rfl, b2⟩; have HB2 := Lib.hid b2; clear b2) | (go_at_call 10; with_reducible refine (HY.out _ (HB2.out.alloc HB2.out.size _)).mono ?_; rintro e w4 ⟨rfl, b4⟩; have HB4 := Lib.hid ((HB2.out.alloc HB2.out.size _).trans (b4.mono (Nat.le_trans HB2.out.size (by simp)))); have hbk := (Blk.new w2 31 #[Cx sA sA, Cx sB sA, Cx sA sB, Cx sB sB]).below b4 (by simp); have c0 := hbk.cell 0; have c1 := hbk.cell 1; have c2 := hbk.cell 2; have c3 := hbk.cell 3; clear b4 hbk))
  go_ret
  exact ⟨rfl, HB4.out⟩
end Go.Proofs.YtnbkghlcpcmigabDoor
