import Derived.Test.YtiicoabkhponmaaDoorZ07
set_option linter.all false
/- Package cpu: do, the arms that touch no memory. -/
namespace Go.Proofs.YtiicoabkhponmaaDoor
open Go.RowKit Go.Lib
set_option linter.unusedVariables false
set_option maxRecDepth 8000

def Cu.inV (k x n : Int) : Value := .agg #[.int .u8 k, .int .i64 x, .int .i64 n]
set_option maxHeartbeats 3200000 in
theorem Cu.do_stop (m : Nat) (base size pc md x n : Int) (r : Nat → Int) (w : World) : Calls Tryd.prog 27 #[Cu.vw m base size, Cu.stV pc r md, Cu.inV 0 x n] w fun e w' => e = .returned (.tuple #[Cu.stV pc r 2, Cu.outV 4 0 0 0]) ∧ w.grownBy w' none := by
  unfold Cu.stV Cu.stC Cu.outV Cu.vw Cu.inV
  go_enter Tryd.func27, Tryd.ntmps27
  go_wp2
  refine bodyPost_ret (v := .tuple #[.agg #[.int .i64 pc, .int .i64 (r 0), .int .i64 (r 1), .int .i64 (r 2), .int .i64 (r 3), .int .i64 (r 4), .int .i64 (r 5), .int .i64 (r 6), .int .i64 (r 7), .int .i64 2], .agg #[.int .i64 4, .int .i64 0, .int .i64 0, .int .i64 0]]) (by simp [results, Tryd.results27, go_sem]) rfl ⟨rfl, ?_⟩
  repeat (first | exact only_refl _ _ | refine only_alloc ?_ _)
set_option maxHeartbeats 6400000 in
theorem Cu.do_rest (m : Nat) (base size pc md x n : Int) (r : Nat → Int) (hpc : 0 ≤ pc ∧ pc ≤ 16384) (w : World) : Calls Tryd.prog 27 #[Cu.vw m base size, Cu.stV pc r md, Cu.inV 15 x n] w fun e w' => e = .returned (.tuple #[Cu.stV (pc + 4) r 1, Cu.outV 3 0 0 0]) ∧ w.grownBy w' none := by
  have hw : IntKind.i64.wrap (pc + 4) = pc + 4 := by rw [IntKind.wrap_i64]; omega
  unfold Cu.stV Cu.stC Cu.outV Cu.vw Cu.inV
  go_enter Tryd.func27, Tryd.ntmps27
  go_upto_region 28 with (fail)
  go_region
  go_wp2
  refine bodyPost_ret (v := .tuple #[.agg #[.int .i64 (pc + 4), .int .i64 (r 0), .int .i64 (r 1), .int .i64 (r 2), .int .i64 (r 3), .int .i64 (r 4), .int .i64 (r 5), .int .i64 (r 6), .int .i64 (r 7), .int .i64 1], .agg #[.int .i64 3, .int .i64 0, .int .i64 0, .int .i64 0]]) (by simp [results, Tryd.results27, go_sem]) rfl ⟨rfl, ?_⟩
  refine only_drewN ?_ 1
  repeat (first | exact only_refl _ _ | refine only_alloc ?_ _)
set_option maxHeartbeats 6400000 in
theorem Cu.do_call (m : Nat) (base size pc md x n : Int) (r : Nat → Int) (hpc : 0 ≤ pc ∧ pc ≤ 16384) (w : World) : Calls Tryd.prog 27 #[Cu.vw m base size, Cu.stV pc r md, Cu.inV 14 x n] w fun e w' => e = .returned (.tuple #[Cu.stV (pc + 4) r md, Cu.outV 2 n x 0]) ∧ w.grownBy w' none := by
  have hw : IntKind.i64.wrap (pc + 4) = pc + 4 := by rw [IntKind.wrap_i64]; omega
  unfold Cu.stV Cu.stC Cu.outV Cu.vw Cu.inV
  go_enter Tryd.func27, Tryd.ntmps27
  go_upto_region 28 with (fail)
  go_region
  go_wp2
  refine bodyPost_ret (v := .tuple #[.agg #[.int .i64 (pc + 4), .int .i64 (r 0), .int .i64 (r 1), .int .i64 (r 2), .int .i64 (r 3), .int .i64 (r 4), .int .i64 (r 5), .int .i64 (r 6), .int .i64 (r 7), .int .i64 md], .agg #[.int .i64 2, .int .i64 n, .int .i64 x, .int .i64 0]]) (by simp [results, Tryd.results27, go_sem]) rfl ⟨rfl, ?_⟩
  refine only_drewN ?_ 1
  repeat (first | exact only_refl _ _ | refine only_alloc ?_ _)
end Go.Proofs.YtiicoabkhponmaaDoor
