/- Package asm: what catches a reader that gave up, by its contracts. -/
import Derived.Test.YtgjpjmolfdiahaaDoorAX23
import Derived.Defers
import Derived.Recover
namespace Go.Proofs.YtgjpjmolfdiahaaDoor
open Go.RowKit Go.Lib
set_option linter.unusedVariables false

theorem Am.und18 : Array.replicate 18 undef = #[undef, undef, undef, undef, undef, undef, undef, undef, undef, undef, undef, undef, undef, undef, undef, undef, undef, undef] := by rfl
theorem Am.catch_idle (q0 q1 q2 : Nat) (w : World) : CallsD Tryd.prog 26 #[.pointer (some ⟨q0, 0, none⟩), .pointer (some ⟨q1, 0, none⟩), .pointer (some ⟨q2, 0, none⟩)] .returning w fun e u' w' => e = .returned (.tuple #[]) ∧ u' = .returning ∧ w' = w := by
  refine callsD_of_wpS Tryd.func26 rfl fun c₀ cs hu => ?_
  apply wpS_seq
  apply wpS_region
  simp [wpOpsS, go_sem, recoverD, hu, Tryd.ntmps26, Exit.thenS]
  simp only [Am.und18, List.setIfInBounds_toArray, List.set_cons_succ, List.set_cons_zero, List.append_toArray, List.cons_append, List.nil_append]
  refine wpS_of_wp ?_
  go_wp2
  cases c₀
  simp_all [bodyPostS, results, Tryd.results26]
theorem Am.run_is (ln e : Int) (W : World) : (Instr.typeAssert (Value.iface 71 (Value.agg #[Value.int IntKind.i64 ln, Value.int IntKind.i64 e])) 20 71 true).run Tryd.prog W = .ok (.tuple #[.agg #[.int .i64 ln, .int .i64 e], .bool true]) W := by kernel_rfl
set_option maxRecDepth 20000 in
set_option maxHeartbeats 1600000 in
theorem Am.catch_dies (q0 q1 q2 : Nat) (ln e : Int) (w : World) (v0 v1 v2 : Value) (h0 : w.cell? ⟨q0, 0, none⟩ = some v0) (h1 : w.cell? ⟨q1, 0, none⟩ = some v1) (h2 : w.cell? ⟨q2, 0, none⟩ = some v2) (f0 : w.frozen? ⟨q0, 0, none⟩ = false) (f1 : w.frozen? ⟨q1, 0, none⟩ = false) (f2 : w.frozen? ⟨q2, 0, none⟩ = false) (n1 : q0 ≠ q1) (n2 : q0 ≠ q2) (n3 : q1 ≠ q2) :
    CallsD Tryd.prog 26 #[.pointer (some ⟨q0, 0, none⟩), .pointer (some ⟨q1, 0, none⟩), .pointer (some ⟨q2, 0, none⟩)] (.panicking (Am.chn ln e)) w fun r u' w' => r = .returned (.tuple #[]) ∧ u' = .panicking [{ v := .iface 71 (.agg #[.int .i64 ln, .int .i64 e]), recovered := true }] ∧ w'.cell? ⟨q0, 0, none⟩ = some (.pointer none) ∧ w'.cell? ⟨q1, 0, none⟩ = some (.int .i64 ln) ∧ w'.cell? ⟨q2, 0, none⟩ = some (.int .i64 e) ∧ Keeps (fun i => i = q0 ∨ i = q1 ∨ i = q2) w w' := by
  have l0 : q0 < w.heap.size := World.block_lt_of_cell? w _ h0
  have l1 : q1 < w.heap.size := World.block_lt_of_cell? w _ h1
  have l2 : q2 < w.heap.size := World.block_lt_of_cell? w _ h2
  refine callsD_of_wpS Tryd.func26 rfl fun c₀ cs hu => ?_
  apply wpS_seq
  apply wpS_region
  simp [wpOpsS, go_sem, recoverD, hu, Tryd.ntmps26, Exit.thenS, Am.chn]
  simp only [Am.und18, List.setIfInBounds_toArray, List.set_cons_succ, List.set_cons_zero, List.append_toArray, List.cons_append, List.nil_append]
  refine wpS_of_wp ?_
  have hta := fun W : World => Am.run_is ln e W
  obtain ⟨w1, hw1⟩ : ∃ W, W = w.alloc (.cells #[.int .i64 ln, .int .i64 e] 71) := ⟨_, rfl⟩
  have B1 := Lib.hid (show Blk w1 w.heap.size 71 #[.int .i64 ln, .int .i64 e] from by rw [hw1]; exact Blk.new _ _ _)
  have g1 : w.grownBy w1 none := by rw [hw1]; exact only_alloc (only_refl _ _) _
  have G1 := Lib.hid g1
  have C1 := Lib.hid (show (w1.cell? ⟨q0, 0, none⟩ = some v0 ∧ w1.cell? ⟨q1, 0, none⟩ = some v1 ∧ w1.cell? ⟨q2, 0, none⟩ = some v2) from ⟨by rw [Am.kc g1 l0]; exact h0, by rw [Am.kc g1 l1]; exact h1, by rw [Am.kc g1 l2]; exact h2⟩)
  have hfz : ∀ q, q < w.heap.size → w1.frozen? ⟨q, 0, none⟩ = w.frozen? ⟨q, 0, none⟩ := fun q hq => by
    have := g1.block q hq (by simp)
    simp only [World.frozen?, this]
  have F1 := Lib.hid (show w1.frozen? ⟨q0, 0, none⟩ = false ∧ w1.frozen? ⟨q1, 0, none⟩ = false ∧ w1.frozen? ⟨q2, 0, none⟩ = false from ⟨by rw [hfz q0 l0]; exact f0, by rw [hfz q1 l1]; exact f1, by rw [hfz q2 l2]; exact f2⟩)
  have HQ := Lib.hid (show q0 < w.heap.size ∧ q1 < w.heap.size ∧ q2 < w.heap.size from ⟨l0, l1, l2⟩)
  clear h0 h1 h2 f0 f1 f2 g1 l0 l1 l2 hfz
  go_upto_region 3 with (fail)
  rw [← hw1]
  clear hw1
  generalize hgb : w.heap.size = gb at *
  go_upto_region 5 with (fail)
  obtain ⟨c0, c1, c2⟩ := C1.out
  obtain ⟨f0, f1, f2⟩ := F1.out
  have m1 : ¬ gb = q0 := by have := HQ.out; omega
  have m2 : ¬ gb = q1 := by have := HQ.out; omega
  have m3 : ¬ gb = q2 := by have := HQ.out; omega
  have x1 : ¬ q1 = q0 := fun e => n1 e.symm
  have x2 : ¬ q2 = q0 := fun e => n2 e.symm
  have x3 : ¬ q2 = q1 := fun e => n3 e.symm
  have SX := Lib.hid (show ∀ W, W = w1.drew ∨ W = (w1.setCell ⟨q0, 0, none⟩ (.pointer none)).drew ∨ W = ((w1.setCell ⟨q0, 0, none⟩ (.pointer none)).setCell ⟨q1, 0, none⟩ (.int .i64 ln)).drew ∨ W = (((w1.setCell ⟨q0, 0, none⟩ (.pointer none)).setCell ⟨q1, 0, none⟩ (.int .i64 ln)).setCell ⟨q2, 0, none⟩ (.int .i64 e)).drew → W.cell? ⟨gb, 0, none⟩ = some (.int .i64 ln) ∧ W.cell? ⟨gb, 1, none⟩ = some (.int .i64 e) from fun W hW => by
    rcases hW with rfl | rfl | rfl | rfl
    · exact ⟨B1.out.cell 0, B1.out.cell 1⟩
    · have q := B1.out.far (p := ⟨q0, 0, none⟩) (fun e => m1 e) (.pointer none)
      exact ⟨q.cell 0, q.cell 1⟩
    · have q := (B1.out.far (p := ⟨q0, 0, none⟩) (fun e => m1 e) (.pointer none)).far (p := ⟨q1, 0, none⟩) (fun e => m2 e) (.int .i64 ln)
      exact ⟨q.cell 0, q.cell 1⟩
    · have q := ((B1.out.far (p := ⟨q0, 0, none⟩) (fun e => m1 e) (.pointer none)).far (p := ⟨q1, 0, none⟩) (fun e => m2 e) (.int .i64 ln)).far (p := ⟨q2, 0, none⟩) (fun e => m3 e) (.int .i64 e)
      exact ⟨q.cell 0, q.cell 1⟩)
  have r1 : (w1.setCell ⟨q0, 0, none⟩ (.pointer none)).cell? ⟨q1, 0, none⟩ = some v1 := by rw [World.cell?_setCell_other _ _ _ _ (by intro e; injection e with e; exact x1 e.symm)]; exact c1
  have r2 : ((w1.setCell ⟨q0, 0, none⟩ (.pointer none)).setCell ⟨q1, 0, none⟩ (.int .i64 ln)).cell? ⟨q2, 0, none⟩ = some v2 := by rw [World.cell?_setCell_other _ _ _ _ (by intro e; injection e with e; exact x3 e.symm), World.cell?_setCell_other _ _ _ _ (by intro e; injection e with e; exact x2 e.symm)]; exact c2
  have FIN := Lib.hid (show ∀ W, W = (((w1.setCell ⟨q0, 0, none⟩ (.pointer none)).setCell ⟨q1, 0, none⟩ (.int .i64 ln)).setCell ⟨q2, 0, none⟩ (.int .i64 e)).drew → W.cell? ⟨q0, 0, none⟩ = some (.pointer none) ∧ W.cell? ⟨q1, 0, none⟩ = some (.int .i64 ln) ∧ W.cell? ⟨q2, 0, none⟩ = some (.int .i64 e) ∧ Keeps (fun i => i = q0 ∨ i = q1 ∨ i = q2) w W from fun W hW => by
    subst hW
    refine ⟨?_, ?_, ?_, ?_⟩
    · show (World.setCell _ _ _).cell? _ = _
      rw [World.cell?_setCell_other _ _ _ _ (by intro e; injection e with e; exact n2 e.symm), World.cell?_setCell_other _ _ _ _ (by intro e; injection e with e; exact n1 e.symm), World.cell?_setCell_same _ _ _ c0]
    · show (World.setCell _ _ _).cell? _ = _
      rw [World.cell?_setCell_other _ _ _ _ (by intro e; injection e with e; exact n3 e.symm), World.cell?_setCell_same _ _ _ r1]
    · show (World.setCell _ _ _).cell? _ = _
      rw [World.cell?_setCell_same _ _ _ r2]
    · exact (Keeps.put (p := ⟨q2, 0, none⟩) (Keeps.put (p := ⟨q1, 0, none⟩) (Keeps.put (p := ⟨q0, 0, none⟩) (Keeps.of_only G1.out (fun k hk => by cases hk)) (.inl (.inl rfl)) _) (.inl (.inr (.inl rfl))) _) (.inl (.inr (.inr rfl))) _).drew 1)
  refine wp_region_held_drew (S := fun W => W.cell? ⟨gb, 0, none⟩ = some (.int .i64 ln) ∧ W.cell? ⟨gb, 1, none⟩ = some (.int .i64 e)) (by kernel_rfl) (SX.out _ (.inl rfl)) (fun hHeld => ?_)
  refine wpAnyH_take (i := 0) (oi := _) (v := ?_) rfl (by kernel_rfl) (by kernel_rfl) (by kernel_rfl) (fun _ _ _ h => h) (Or.inl ⟨by rfl, ?_⟩) (by assumption) ?_
  case refine_2 => intro w hSw; (try dsimp only at hSw); go_simp; try with_reducible rfl
  try simp only [Act.put, List.setIfInBounds_toArray, List.set_cons_zero, List.set_cons_succ]
  refine wpAnyH_take (i := 1) (oi := _) (v := ?_) rfl (by kernel_rfl) (by kernel_rfl) (by kernel_rfl) (fun _ _ _ h => h) (Or.inl ⟨by rfl, ?_⟩) (by assumption) ?_
  case refine_2 => intro w hSw; (try dsimp only at hSw); go_simp; try with_reducible rfl
  try simp only [Act.put, List.setIfInBounds_toArray, List.set_cons_zero, List.set_cons_succ]
  refine wpAnyH_take (i := 2) (oi := _) (v := ?_) rfl (by kernel_rfl) (by kernel_rfl) (by kernel_rfl) (fun _ _ _ h => h) (Or.inl ⟨by rfl, ?_⟩) (by assumption) ?_
  case refine_2 => intro w hSw; (try dsimp only at hSw); go_simp; try with_reducible rfl
  try simp only [Act.put, List.setIfInBounds_toArray, List.set_cons_zero, List.set_cons_succ]
  refine wpAnyH_take (i := 3) (oi := _) (v := ?_) rfl (by kernel_rfl) (by kernel_rfl) (by kernel_rfl) (fun _ _ _ h => h) (Or.inl ⟨by rfl, ?_⟩) (by assumption) ?_
  case refine_2 => intro w hSw; (try dsimp only at hSw); go_simp; try with_reducible rfl
  try simp only [Act.put, List.setIfInBounds_toArray, List.set_cons_zero, List.set_cons_succ]
  refine wpAnyH_ready (rs := [4]) (by kernel_rfl) (by simp) ?_
  refine AllReadyH.cons (o := _) rfl (fun K hK => ?_) AllReadyH.nil
  go_simp
  refine hK.out _ _ (SX.out _ (.inr (.inl rfl))) (fun hHeld => ?_)
  clear hK K
  try simp only [Act.put, List.setIfInBounds_toArray, List.set_cons_zero, List.set_cons_succ]
  refine wpAnyH_ready (rs := [5]) (by kernel_rfl) (by simp) ?_
  refine AllReadyH.cons (o := _) rfl (fun K hK => ?_) AllReadyH.nil
  go_simp
  refine hK.out _ _ (SX.out _ (.inr (.inr (.inl rfl)))) (fun hHeld => ?_)
  clear hK K
  try simp only [Act.put, List.setIfInBounds_toArray, List.set_cons_zero, List.set_cons_succ]
  refine wpAnyH_ready (rs := [6]) (by kernel_rfl) (by simp) ?_
  refine AllReadyH.cons (o := _) rfl (fun K hK => ?_) AllReadyH.nil
  go_simp
  refine hK.out _ _ (SX.out _ (.inr (.inr (.inr rfl)))) (fun hHeld => ?_)
  clear hK K
  try simp only [Act.put, List.setIfInBounds_toArray, List.set_cons_zero, List.set_cons_succ]
  refine wpAnyH_done (by kernel_rfl) ?_ _
  go_wp2
  obtain ⟨y0, y1, y2, y3⟩ := FIN.out _ rfl
  exact ⟨rfl, _, rfl, .tuple #[], by simp [results, Tryd.results26], rfl, rfl, y0, y1, y2, y3⟩
end Go.Proofs.YtgjpjmolfdiahaaDoor
