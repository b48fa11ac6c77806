/- The row of ToneLines: what was put on a line is read: for every text the law returns true, where the package's table starts as the program's text lays it. -/
import Derived.Test.YtnbkghlcpcmigabDoorTL9
import Derived.ProofKit
import Derived.LaidMore
import Derived.OpenShut
import Derived.ShutString
import Derived.ChangeOld
import Derived.Stop.Joined
namespace Go.Proofs.YtnbkghlcpcmigabDoor
open Go.RowKit Go.Lib Go.ChangeShapes Go.WideShapes Go.ChangeAt
open Go.ChangeMaps (open_string shut_string)
set_option linter.unusedVariables false

theorem lines_own : ownKnob Tryd.prog.godebug = none := by kernel_rfl
theorem gray_at : Tryd.prog.globalNamed "campanile/tone.gray" = some 0 := by kernel_rfl
theorem gray_type : (Tryd.prog.globals[0]?).map (·.type) = some 46 := by kernel_rfl
theorem cells_int : Tryd.prog.cellsOf 3 = 1 := by kernel_rfl
def laid1 : List (String × DataW Unit) := [("campanile/tone.gray", Rows.laid_campanile_tone_gray)]

/-- The door's own heap meets the condition: three closed facts. -/
theorem lines_door (os : Os) (args : Array Value) : laidMetH Tryd.prog laid1 ((World.doorLaid Tryd.prog 400 os).forCall (fun _ _ => 0) ⟨#[], args, []⟩).memory :=
  laidMetH_of_parts3 (fuel := 8) (laidMet_of_run' 8 (by kernel_rfl) (by kernel_rfl)) (by kernel_rfl) (by kernel_rfl)

/-- What the condition gives the walks: the table's four cells. -/
theorem gr_of_laid {W : World} (h : laidMetH Tryd.prog laid1 W) : Gr W := by
  rw [MakeChecks.laidMetH_plain _ _ _ (by kernel_rfl)] at h
  obtain ⟨ps, ⟨g0, t0, cs0, f0, p0, q0, hg0, ht0, hv0, hd0, _, _⟩, _, _⟩ := h
  obtain rfl := Option.some.inj (gray_at.symm.trans hg0)
  obtain rfl := Option.some.inj (gray_type.symm.trans ht0)
  obtain ⟨xs, m1, rfl, hx1, hlen, hn4, hel⟩ := DataW.trod_array Tryd.underlying46 hd0
  rw [cells_int] at hel
  have hc : ∀ i, W.cell? ⟨0, i, none⟩ = cs0[i]? := fun i => World.var?_cell hg0 hv0 i
  match xs, hn4 with
  | [x0, x1, x2, x3], _ =>
    simp only [Rows.laid_campanile_tone_gray, Prod.mk.injEq, DataW.agg.injEq, List.map_cons, List.map_nil, List.cons.injEq] at hx1
    obtain ⟨⟨y0, y1, y2, y3, _⟩, _⟩ := hx1
    have one : ∀ (i : Nat) (x : DataW Unit × List MemPlace) (k : Int), i < 4 → [x0, x1, x2, x3][i]? = some x → DataW.lit (.int .i64 k) = x.1 → W.cell? ⟨0, i, none⟩ = some (.int .i64 k) := by
      intro i x k hi hx hk
      have h1 := hel i hi
      rw [hx, Nat.mul_one] at h1
      obtain ⟨k', e1, e2, _⟩ := DataW.trod_int Tryd.underlying3 h1
      rw [e2] at hk
      have hkk : k = k' := by simpa using hk
      subst hkk
      rw [hc i]
      have e3 : cs0.toList[i]? = some (.int .i64 k) := by
        have := congrArg (fun l => l[0]?) e1
        simpa [List.getElem?_take, List.getElem?_drop] using this
      simpa using e3
    have c0 := one 0 x0 0 (by omega) rfl y0
    refine ⟨c0, one 1 x1 1 (by omega) rfl y1, one 2 x2 3 (by omega) rfl y2, one 3 x3 2 (by omega) rfl y3, ?_⟩
    rcases Nat.eq_zero_or_pos W.heap.size with hz | hz
    · have : W.heap = #[] := Array.eq_empty_of_size_eq_zero hz
      simp [World.cell?, this] at c0
    · exact hz

set_option maxRecDepth 100000 in
theorem lines_lifted (os : Os) (started : os.Started) (H : Type) (enc : TypeId × Value → H) :
    ReturnsInHanded {} Tryd.checked os 3 .any (fun w args => (Rows.toneLinesSpec.pre enc Tryd.prog Tryd.f3 [] false w args ∧ laidMetH Tryd.prog laid1 w) ∧ sizedMet enc Tryd.prog Tryd.f3 (OpenSpec.ofChange Rows.toneLinesSpec) false w args)
      (Rows.toneLinesSpec.post enc Tryd.prog Tryd.f3 false true false false) := by
  refine returnsInHanded_of_change_and (C := Tryd.checked) (X := fun w _ => laidMetH Tryd.prog laid1 w) (fun _ _ _ hh h => h.of_heap hh) lines_own started (by kernel_rfl) Tryd.func3
    (ChangeSpec.witness_shaped (enc := enc) (C := Tryd.checked) (os := os) (X := fun w _ => laidMetH Tryd.prog laid1 w) false (World.doorLaid Tryd.prog 400 os) #[.string .empty] 8 rfl (World.shaped_of_RefB (by kernel_rfl) (by kernel_rfl)) (by kernel_rfl) (by kernel_rfl) (by kernel_rfl) (lines_door os _)) ?_
  intro W base args ds gs before hval0 hW _ _ hL _
  have hval : ∀ (j : Nat) t v, Tryd.f3.params[j]? = some t → args[j]? = some v → Value.okWide Tryd.prog W .any base t v := hval0
  have hW' := hW
  obtain ⟨p, q, hA0, hV, rfl, hfz, hnd⟩ := hW
  have hA : DataW.TrodAll enc Tryd.prog W 0 (fun _ => true) true Tryd.f3.params.toList args.toList ds p := hA0
  rw [Tryd.params3] at hA hval
  obtain ⟨v0, vs0, d0, ds0, p0, q0, hargs, rfl, rfl, h0, r0⟩ := trodAll_cons hA
  obtain ⟨rfl, rfl, rfl⟩ := trodAll_nil r0
  obtain rfl : args = #[v0] := by cases args; simp_all
  obtain ⟨rfl, rfl⟩ := trodVars_none hV
  obtain ⟨a0, rfl, rfl, rfl, w0⟩ := open_string Tryd.underlying9 (hval 0 9 v0 rfl rfl) h0
  clear hA0 hval0
  refine (lines_walk a0 W (gr_of_laid hL)).mono fun e W' ⟨he, bel⟩ => ?_
  subst he
  exact ⟨_, rfl, _, _, _, [], _, [], hW', trodAll_mk1 (shut_bool Tryd.underlying4 _), (trodAll_cons_mk (shut_string Tryd.underlying9 w0) trodAll_mk0), rfl, bel.frame _, fun h => by cases h⟩

theorem lines_holds : Rows.ToneLinesSaid :=
  OpenClaim.holds_of_wide 3 Tryd.f3 rfl rfl rfl rfl rfl rfl rfl ⟨rfl, rfl, rfl, rfl, rfl⟩ rfl rfl rfl rfl rfl (by kernel_rfl) Tryd.func3 (by kernel_rfl)
    (of_decide_eq_true (by kernel_rfl)) (by unfold Func.isWrapper; first | (rw [if_pos (by decide +kernel)]; kernel_rfl) | (rw [if_neg (by decide +kernel)]; exact ⟨rfl, rfl⟩))
    (fun os started H enc _ => lines_lifted os started H enc)
#print axioms lines_holds
end Go.Proofs.YtnbkghlcpcmigabDoor
