/- MemPlays: what was written is read, and all other places are as they were: for every size and deeds the law returns true, and they read afterwards as before. No condition. -/
import Derived.Test.YthneljkaieckeaaMP7
import Derived.Test.YthneljkaieckeaaF
import Derived.ShutString
import Derived.ChangeOld
namespace Go.Proofs.Ythneljkaieckeaa
open Go.RowKit Go.Lib Go.ChangeShapes Go.WideShapes Go.ChangeAt Go.Deep
set_option linter.unusedVariables false

theorem deeds_own : ownKnob Try.prog.godebug = none := by kernel_rfl
theorem deeds_laid : laidOutB Try.prog = true := by kernel_rfl
theorem deeds_of {H : Type} {enc : TypeId × Value → H} {w : World} {base : Nat} {spare : Nat → Bool} {held : Bool} {A : Option Addr} {len cap fuel : Nat} {x : DataW H × List MemPlace}
    (h : DataW.trod enc Try.prog w base spare held fuel 22 [.slice A len cap] = some x) : len ≤ 9223372036854775807 ∧ ∃ D P N T, DeedsF w A len D P N T := by
  obtain ⟨h1, h2, h3, h4⟩ := open_structs Try.underlying22 Try.underlying38 (by kernel_rfl) (by kernel_rfl) (by decide) h
  refine ⟨Nat.le_trans h1 h2, ?_⟩
  by_cases h0 : 0 < len
  · obtain ⟨b, off, hA, hb, hc⟩ := h4 h0
    have key : ∀ i, i < len → ∃ (d p n : Int) (t : ByteArray), w.cell? ⟨b, off + i * 4, none⟩ = some (.int .i64 d) ∧ w.cell? ⟨b, off + i * 4 + 1, none⟩ = some (.int .i64 p) ∧ w.cell? ⟨b, off + i * 4 + 2, none⟩ = some (.int .i64 n) ∧ w.cell? ⟨b, off + i * 4 + 3, none⟩ = some (.string t) := fun i hi => by
      obtain ⟨v0, n0, y0, c0, r0⟩ := hc i hi 0 _ rfl
      obtain ⟨v1, n1, y1, c1, r1⟩ := hc i hi 1 _ rfl
      obtain ⟨v2, n2, y2, c2, r2⟩ := hc i hi 2 _ rfl
      obtain ⟨v3, n3, y3, c3, r3⟩ := hc i hi 3 _ rfl
      obtain ⟨d, e0, _, _⟩ := DataW.trod_int Try.underlying3 r0
      obtain ⟨p, e1, _, _⟩ := DataW.trod_int Try.underlying3 r1
      obtain ⟨n, e2, _, _⟩ := DataW.trod_int Try.underlying3 r2
      obtain ⟨t, e3, _, _⟩ := DataW.trod_string Try.underlying9 r3
      injection e0 with e0 _
      injection e1 with e1 _
      injection e2 with e2 _
      injection e3 with e3 _
      subst e0 e1 e2 e3
      exact ⟨d, p, n, t, c0, c1, c2, c3⟩
    refine ⟨fun i => if hi : i < len then (key i hi).choose else 0, fun i => if hi : i < len then (key i hi).choose_spec.choose else 0, fun i => if hi : i < len then (key i hi).choose_spec.choose_spec.choose else 0, fun i => if hi : i < len then (key i hi).choose_spec.choose_spec.choose_spec.choose else .empty, fun _ => ⟨b, off, hA, hb, fun i hi => ?_⟩⟩
    simp only [dif_pos hi]
    exact (key i hi).choose_spec.choose_spec.choose_spec.choose_spec
  · exact ⟨fun _ => 0, fun _ => 0, fun _ => 0, fun _ => .empty, fun h => absurd h h0⟩

set_option maxRecDepth 100000 in
theorem plays_lifted (os : Os) (started : os.Started) (H : Type) (enc : TypeId × Value → H) :
    ReturnsInHanded {} Try.checked os 3 .any (Rows.memPlaysSpec.pre6 enc Try.prog Try.f3 Rows.memPlaysRow.domain false) (Rows.memPlaysSpec.post enc Try.prog Try.f3 false true false false) := by
  refine returnsInHanded_of_change (C := Try.checked) deeds_own started (by kernel_rfl) Try.func3
    (ChangeSpec.witness6 (enc := enc) (C := Try.checked) false ⟨#[], #[.int .i64 0, .slice none 0 0], []⟩ 8 (by kernel_rfl) (by kernel_rfl) (by kernel_rfl) (by kernel_rfl)) ?_
  intro W base args ds gs before hval0 hW hcnd _
  have hval : ∀ (j : Nat) t v, Try.f3.params[j]? = some t → args[j]? = some v → Value.okWide Try.prog W .any base t v := hval0
  have hW' := hW
  obtain ⟨p, q, hA0, hV, rfl, hfz, hnd⟩ := hW
  have hA : DataW.TrodAll enc Try.prog W 0 (fun _ => true) true Try.f3.params.toList args.toList ds p := hA0
  rw [Try.params3] at hA hval
  obtain ⟨v0, vs0, d0, ds0, p0, q0, hargs, rfl, rfl, h0, r0⟩ := trodAll_cons hA
  obtain ⟨v1, vs1, d1, ds1, p1, q1, rfl, rfl, rfl, h1, r1⟩ := trodAll_cons r0
  obtain ⟨rfl, rfl, rfl⟩ := trodAll_nil r1
  obtain rfl : args = #[v0, v1] := by cases args; simp_all
  obtain ⟨rfl, rfl⟩ := trodVars_none hV
  obtain ⟨a0, rfl, rfl, rfl, w0⟩ := open_int Try.underlying3 (hval 0 3 v0 rfl rfl) h0
  obtain ⟨A, len, cap, rfl⟩ := okWide_slice Try.underlying22 (hval 1 22 v1 rfl rfl)
  have k1 := h1
  have lt1 : ∀ x ∈ p1, x.block < W.heap.size := by obtain ⟨m, hm⟩ := k1; exact DataW.trod_lt m _ _ _ hm
  obtain ⟨fuel, hf⟩ := h1
  obtain ⟨hl, D, P, N, T, hst⟩ := deeds_of (by simpa [Value.cells] using hf)
  clear hA0 hval0
  refine (plays_walk a0 A len cap D P N T W hst hl).mono fun e W' ⟨he, bel⟩ => ?_
  subst he
  exact ⟨_, rfl, _, _, _, [], _, [], hW', trodAll_mk1 (shut_bool Try.underlying4 _), (trodAll_cons_mk (shut_int Try.underlying3 w0) (trodAll_cons_mk (Below.trod deeds_laid (by kernel_rfl) (of_decide_eq_true (by kernel_rfl)) k1 bel lt1) trodAll_mk0)), rfl, bel.frame _, fun h => by cases h⟩

theorem plays_holds : Rows.MemPlaysSaid :=
  OpenClaim.holds_of_wide 3 Try.f3 rfl rfl rfl rfl rfl rfl rfl ⟨rfl, rfl, rfl, rfl, rfl⟩ rfl rfl rfl rfl rfl (by kernel_rfl) Try.func3 (by kernel_rfl)
    (of_decide_eq_true (by kernel_rfl)) (by unfold Func.isWrapper; first | (rw [if_pos (by decide +kernel)]; kernel_rfl) | (rw [if_neg (by decide +kernel)]; exact ⟨rfl, rfl⟩))
    (fun os started H enc _ => plays_lifted os started H enc)
#print axioms plays_holds
end Go.Proofs.Ythneljkaieckeaa
