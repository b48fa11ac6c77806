import Derived.Test.YtfhhcpmoaggdmaaGreatZ02
import Derived.Test.YtfhhcpmoaggdmaaGreatZ01
import Derived.Test.YtfhhcpmoaggdmaaGreatZ19
import Derived.ShutString
import Derived.ChangeOld
import Derived.Lib.SmallJoins
set_option linter.all false
/- How a machine's tables that came in by value are opened. -/
namespace Go.Proofs.YtfhhcpmoaggdmaaGreat
open Go.RowKit Go.Lib Go.ChangeShapes Go.WideShapes Go.ChangeAt Go.Deep
set_option linter.unusedVariables false

theorem open_wins {H : Type} {enc : TypeId × Value → H} {w : World} {base : Nat} {spare : Nat → Bool} {held : Bool} {A : Option Addr} {len cap fuel : Nat} {x : DataW H × List MemPlace}
    (h : DataW.trod enc Tryz.prog w base spare held fuel 22 [.slice A len cap] = some x) : len ≤ cap ∧ cap ≤ 9223372036854775807 ∧ ∃ d, Row3 w A len d ∧ ∀ i, i < len → FitW3 (d i) := by
  obtain ⟨h1, h2, h3, h4⟩ := open_structs Tryz.underlying22 Tryz.underlying78 (by kernel_rfl) (by kernel_rfl) (by decide) h
  refine ⟨h1, by unfold maxLen at h2; omega, ?_⟩
  by_cases hp : 0 < len
  · obtain ⟨b, off, hA, hb, hc⟩ := h4 hp
    have hx : ∀ i, ∃ r : W3, i < len → (w.cell? ⟨b, off + i * 3, none⟩ = some (.int .i64 r.1) ∧ w.cell? ⟨b, off + i * 3 + 1, none⟩ = some (.int .i64 r.2.1) ∧ w.cell? ⟨b, off + i * 3 + 2, none⟩ = some (.int .i64 r.2.2)) ∧ FitW3 r := by
      intro i
      by_cases hi : i < len
      · obtain ⟨v0, n0, y0, c0, r0⟩ := hc i hi 0 _ rfl
        obtain ⟨v1, n1, y1, c1, r1⟩ := hc i hi 1 _ rfl
        obtain ⟨v2, n2, y2, c2, r2⟩ := hc i hi 2 _ rfl
        obtain ⟨p0, e0, _, w0⟩ := DataW.trod_int Tryz.underlying3 r0
        obtain ⟨p1, e1, _, w1⟩ := DataW.trod_int Tryz.underlying3 r1
        obtain ⟨p2, e2, _, w2⟩ := DataW.trod_int Tryz.underlying3 r2
        injection e0 with e0 _
        injection e1 with e1 _
        injection e2 with e2 _
        subst e0 e1 e2
        exact ⟨(p0, p1, p2), fun _ => ⟨⟨c0, c1, c2⟩, fitI_of w0, fitI_of w1, fitI_of w2⟩⟩
      · exact ⟨(0, 0, 0), fun h => absurd h hi⟩
    exact ⟨fun i => Classical.choose (hx i), ⟨fun h => (h3 h).1, fun _ => ⟨b, off, hA, hb, fun i hi => (Classical.choose_spec (hx i) hi).1⟩⟩, fun i hi => (Classical.choose_spec (hx i) hi).2⟩
  · exact ⟨fun _ => (0, 0, 0), ⟨fun h => (h3 h).1, fun h => absurd h hp⟩, fun i hi => absurd hi (by omega)⟩
theorem open_slots {H : Type} {enc : TypeId × Value → H} {w : World} {base : Nat} {spare : Nat → Bool} {held : Bool} {A : Option Addr} {len cap fuel : Nat} {x : DataW H × List MemPlace}
    (h : DataW.trod enc Tryz.prog w base spare held fuel 23 [.slice A len cap] = some x) : len ≤ cap ∧ cap ≤ 9223372036854775807 ∧ ∃ d, Row3 w A len d ∧ ∀ i, i < len → FitW3 (d i) := by
  obtain ⟨h1, h2, h3, h4⟩ := open_structs Tryz.underlying23 Tryz.underlying84 (by kernel_rfl) (by kernel_rfl) (by decide) h
  refine ⟨h1, by unfold maxLen at h2; omega, ?_⟩
  by_cases hp : 0 < len
  · obtain ⟨b, off, hA, hb, hc⟩ := h4 hp
    have hx : ∀ i, ∃ r : W3, i < len → (w.cell? ⟨b, off + i * 3, none⟩ = some (.int .i64 r.1) ∧ w.cell? ⟨b, off + i * 3 + 1, none⟩ = some (.int .i64 r.2.1) ∧ w.cell? ⟨b, off + i * 3 + 2, none⟩ = some (.int .i64 r.2.2)) ∧ FitW3 r := by
      intro i
      by_cases hi : i < len
      · obtain ⟨v0, n0, y0, c0, r0⟩ := hc i hi 0 _ rfl
        obtain ⟨v1, n1, y1, c1, r1⟩ := hc i hi 1 _ rfl
        obtain ⟨v2, n2, y2, c2, r2⟩ := hc i hi 2 _ rfl
        obtain ⟨p0, e0, _, w0⟩ := DataW.trod_int Tryz.underlying3 r0
        obtain ⟨p1, e1, _, w1⟩ := DataW.trod_int Tryz.underlying3 r1
        obtain ⟨p2, e2, _, w2⟩ := DataW.trod_int Tryz.underlying3 r2
        injection e0 with e0 _
        injection e1 with e1 _
        injection e2 with e2 _
        subst e0 e1 e2
        exact ⟨(p0, p1, p2), fun _ => ⟨⟨c0, c1, c2⟩, fitI_of w0, fitI_of w1, fitI_of w2⟩⟩
      · exact ⟨(0, 0, 0), fun h => absurd h hi⟩
    exact ⟨fun i => Classical.choose (hx i), ⟨fun h => (h3 h).1, fun _ => ⟨b, off, hA, hb, fun i hi => (Classical.choose_spec (hx i) hi).1⟩⟩, fun i hi => (Classical.choose_spec (hx i) hi).2⟩
  · exact ⟨fun _ => (0, 0, 0), ⟨fun h => (h3 h).1, fun h => absurd h hp⟩, fun i hi => absurd hi (by omega)⟩
theorem open_clients {H : Type} {enc : TypeId × Value → H} {w : World} {base : Nat} {spare : Nat → Bool} {held : Bool} {A : Option Addr} {len cap fuel : Nat} {x : DataW H × List MemPlace}
    (h : DataW.trod enc Tryz.prog w base spare held fuel 24 [.slice A len cap] = some x) : len ≤ cap ∧ cap ≤ 9223372036854775807 ∧ ∃ d, RowC w A len d ∧ ∀ i, i < len → FitCl (d i) := by
  obtain ⟨h1, h2, h3, h4⟩ := open_structs Tryz.underlying24 Tryz.underlying36 (by kernel_rfl) (by kernel_rfl) (by decide) h
  refine ⟨h1, by unfold maxLen at h2; omega, ?_⟩
  by_cases hp : 0 < len
  · obtain ⟨b, off, hA, hb, hc⟩ := h4 hp
    have hx : ∀ i, ∃ r : Cl, i < len → (w.cell? ⟨b, off + i * 10, none⟩ = some (.int .i64 r.base) ∧ w.cell? ⟨b, off + i * 10 + 1, none⟩ = some (.int .i64 r.size) ∧ w.cell? ⟨b, off + i * 10 + 2, none⟩ = some (.int .i64 r.ring) ∧ w.cell? ⟨b, off + i * 10 + 3, none⟩ = some (.int .i64 r.at') ∧ w.cell? ⟨b, off + i * 10 + 4, none⟩ = some (.int .i64 r.quota) ∧ w.cell? ⟨b, off + i * 10 + 5, none⟩ = some (.int .i64 r.queue) ∧ w.cell? ⟨b, off + i * 10 + 6, none⟩ = some (.int .i64 r.mac) ∧ w.cell? ⟨b, off + i * 10 + 7, none⟩ = some (.int .i64 r.chan) ∧ w.cell? ⟨b, off + i * 10 + 8, none⟩ = some (.int .i64 r.first) ∧ w.cell? ⟨b, off + i * 10 + 9, none⟩ = some (.int .i64 r.secs)) ∧ FitCl r := by
      intro i
      by_cases hi : i < len
      · obtain ⟨v0, n0, y0, c0, r0⟩ := hc i hi 0 _ rfl
        obtain ⟨v1, n1, y1, c1, r1⟩ := hc i hi 1 _ rfl
        obtain ⟨v2, n2, y2, c2, r2⟩ := hc i hi 2 _ rfl
        obtain ⟨v3, n3, y3, c3, r3⟩ := hc i hi 3 _ rfl
        obtain ⟨v4, n4, y4, c4, r4⟩ := hc i hi 4 _ rfl
        obtain ⟨v5, n5, y5, c5, r5⟩ := hc i hi 5 _ rfl
        obtain ⟨v6, n6, y6, c6, r6⟩ := hc i hi 6 _ rfl
        obtain ⟨v7, n7, y7, c7, r7⟩ := hc i hi 7 _ rfl
        obtain ⟨v8, n8, y8, c8, r8⟩ := hc i hi 8 _ rfl
        obtain ⟨v9, n9, y9, c9, r9⟩ := hc i hi 9 _ rfl
        obtain ⟨p0, e0, _, w0⟩ := DataW.trod_int Tryz.underlying3 r0
        obtain ⟨p1, e1, _, w1⟩ := DataW.trod_int Tryz.underlying3 r1
        obtain ⟨p2, e2, _, w2⟩ := DataW.trod_int Tryz.underlying3 r2
        obtain ⟨p3, e3, _, w3⟩ := DataW.trod_int Tryz.underlying3 r3
        obtain ⟨p4, e4, _, w4⟩ := DataW.trod_int Tryz.underlying3 r4
        obtain ⟨p5, e5, _, w5⟩ := DataW.trod_int Tryz.underlying3 r5
        obtain ⟨p6, e6, _, w6⟩ := DataW.trod_int Tryz.underlying3 r6
        obtain ⟨p7, e7, _, w7⟩ := DataW.trod_int Tryz.underlying3 r7
        obtain ⟨p8, e8, _, w8⟩ := DataW.trod_int Tryz.underlying3 r8
        obtain ⟨p9, e9, _, w9⟩ := DataW.trod_int Tryz.underlying3 r9
        injection e0 with e0 _
        injection e1 with e1 _
        injection e2 with e2 _
        injection e3 with e3 _
        injection e4 with e4 _
        injection e5 with e5 _
        injection e6 with e6 _
        injection e7 with e7 _
        injection e8 with e8 _
        injection e9 with e9 _
        subst e0 e1 e2 e3 e4 e5 e6 e7 e8 e9
        exact ⟨(⟨p0, p1, p2, p3, p4, p5, p6, p7, p8, p9⟩ : Cl), fun _ => ⟨⟨c0, c1, c2, c3, c4, c5, c6, c7, c8, c9⟩, fitI_of w0, fitI_of w1, fitI_of w2, fitI_of w3, fitI_of w4, fitI_of w5, fitI_of w6, fitI_of w7, fitI_of w8, fitI_of w9⟩⟩
      · exact ⟨(⟨0, 0, 0, 0, 0, 0, 0, 0, 0, 0⟩ : Cl), fun h => absurd h hi⟩
    exact ⟨fun i => Classical.choose (hx i), ⟨fun h => (h3 h).1, fun _ => ⟨b, off, hA, hb, fun i hi => (Classical.choose_spec (hx i) hi).1⟩⟩, fun i hi => (Classical.choose_spec (hx i) hi).2⟩
  · exact ⟨fun _ => (⟨0, 0, 0, 0, 0, 0, 0, 0, 0, 0⟩ : Cl), ⟨fun h => (h3 h).1, fun h => absurd h hp⟩, fun i hi => absurd hi (by omega)⟩
/-- One field of a struct by value whose fields are one cell each. -/
theorem open_fieldc {H : Type} {enc : TypeId × Value → H} {P : Program} {w : World} {base : Nat} {spare : Nat → Bool} {held : Bool} {t : TypeId} {fs : Array Field} {fuel : Nat} {cs : List Value} {x : DataW H × List MemPlace}
    (hs : P.underlying t = some (.struct fs)) (hone : oneCellFields P fs = true) (h : DataW.trod enc P w base spare held fuel t cs = some x) {i : Nat} {f : Field} (hf : fs[i]? = some f) {c : Value} (hc : cs[i]? = some c) :
    ∃ n y, DataW.trod enc P w base spare held n f.type [c] = some y := by
  obtain ⟨xs, n, _, _, _, hlen, hfld⟩ := DataW.trod_struct hs h
  obtain ⟨o, k⟩ := hone_of hone i f hf
  have h1 := hfld i f hf
  have hi : i < fs.size := (Array.getElem?_eq_some_iff.1 hf).1
  have hcl : i < cs.length := (List.getElem?_eq_some_iff.1 hc).1
  have hce : cs[i] = c := (List.getElem?_eq_some_iff.1 hc).2
  rw [o, k, List.getElem?_eq_getElem (by omega), List.drop_eq_getElem_cons hcl, hce] at h1
  exact ⟨n, _, by simpa using h1⟩
theorem cutc4 {cs : Array Value} (h : cs.size = 4) : ∃ c0 c1 c2 c3, cs = #[c0, c1, c2, c3] := by
  obtain ⟨l⟩ := cs
  match l, h with
  | [c0, c1, c2, c3], _ => exact ⟨c0, c1, c2, c3, rfl⟩
theorem form_slice {H : Type} {enc : TypeId × Value → H} {P : Program} {w : World} {base : Nat} {spare : Nat → Bool} {held : Bool} {t e : TypeId} {fuel : Nat} {c : Value} {x : DataW H × List MemPlace}
    (ht : P.underlying t = some (.slice e)) (h : DataW.trod enc P w base spare held fuel t [c] = some x) : ∃ A n k, c = .slice A n k := by
  rcases open_slice ht h with ⟨hcs, _⟩ | ⟨a, l, k, m, n, D, Pl, hcs, _⟩
  · injection hcs with hcs _
    exact ⟨_, _, _, hcs⟩
  · injection hcs with hcs _
    exact ⟨_, _, _, hcs⟩
set_option maxRecDepth 20000 in
/-- Tables that came in by value. -/
theorem open_config {H : Type} {enc : TypeId × Value → H} {W : World} {base b0 : Nat} {spare : Nat → Bool} {held : Bool} {r : Reach} {v : Value} {d : DataW H} {p : List MemPlace}
    (hv : Value.okWide Tryz.prog W r b0 26 v) (h : DataW.Trod enc Tryz.prog W base spare held 26 v d p) : ∃ c : Cf, v = cfv c ∧ CfV W c ∧ FitCf c := by
  obtain ⟨cs, rfl, hsz⟩ := okWide_struct Tryz.underlying26 hv
  obtain ⟨c0, c1, c2, c3, rfl⟩ := cutc4 (hsz.trans (by kernel_rfl))
  obtain ⟨fuel, hf⟩ := h
  replace hf : DataW.trod enc Tryz.prog W base spare held fuel 26 [c0, c1, c2, c3] = some (d, p) := hf
  obtain ⟨n0, y0, h0⟩ := open_fieldc Tryz.underlying26 (by kernel_rfl) hf (i := 0) rfl (c := c0) rfl
  obtain ⟨n1, y1, h1⟩ := open_fieldc Tryz.underlying26 (by kernel_rfl) hf (i := 1) rfl (c := c1) rfl
  obtain ⟨n2, y2, h2⟩ := open_fieldc Tryz.underlying26 (by kernel_rfl) hf (i := 2) rfl (c := c2) rfl
  obtain ⟨n3, y3, h3⟩ := open_fieldc Tryz.underlying26 (by kernel_rfl) hf (i := 3) rfl (c := c3) rfl
  obtain ⟨o, e0, _, w0⟩ := DataW.trod_int Tryz.underlying3 h0
  injection e0 with e0 _
  obtain ⟨A1, l1, k1, rfl⟩ := form_slice Tryz.underlying22 h1
  obtain ⟨A2, l2, k2, rfl⟩ := form_slice Tryz.underlying23 h2
  obtain ⟨A3, l3, k3, rfl⟩ := form_slice Tryz.underlying24 h3
  obtain ⟨q1, m1, d1, r1, f1⟩ := open_wins h1
  obtain ⟨q2, m2, d2, r2, f2⟩ := open_slots h2
  obtain ⟨q3, m3, d3, r3, f3⟩ := open_clients h3
  subst e0
  exact ⟨⟨o, A1, l1, k1, d1, A2, l2, k2, d2, A3, l3, k3, d3⟩, rfl, ⟨r1, r2, r3⟩, fitI_of w0, ⟨q1, m1, f1⟩, ⟨q2, m2, f2⟩, ⟨q3, m3, f3⟩⟩
end Go.Proofs.YtfhhcpmoaggdmaaGreat

/- PlanFrames: each client has one post and, just behind it, one collect in each frame, whatever the tables that are right, of frames of up to 300 ticks, and the frame. No condition. -/
namespace Go.Proofs.YtfhhcpmoaggdmaaGreat
open Go.RowKit Go.Lib Go.ChangeShapes Go.WideShapes Go.ChangeAt Go.Deep Go.Joins
open Go.ChangeMaps (open_string shut_string)
set_option linter.unusedVariables false

theorem PNF_in_u8 {n : Int} (w : (Lit.int .u8 n).wf = true) : 0 ≤ n ∧ n ≤ 255 := by
  simp only [Lit.wf, Bool.and_eq_true, decide_eq_true_eq] at w
  have e1 : IntKind.u8.min = 0 := by kernel_rfl
  have e2 : IntKind.u8.max = 255 := by kernel_rfl
  omega
theorem PNF_own : ownKnob Tryz.prog.godebug = none := by kernel_rfl
theorem PNF_laid : laidOutB Tryz.prog = true := by kernel_rfl
set_option maxRecDepth 100000 in
theorem PNF_lifted (os : Os) (started : os.Started) (H : Type) (enc : TypeId × Value → H) :
    ReturnsInHanded {} Tryz.checked os 5 .any (Rows.planFramesSpec.pre6 enc Tryz.prog Tryz.f5 Rows.planFramesRow.domain false) (Rows.planFramesSpec.post enc Tryz.prog Tryz.f5 false true false false) := by
  refine returnsInHanded_of_change (C := Tryz.checked) PNF_own started (by kernel_rfl) Tryz.func5
    (ChangeSpec.witness6 (enc := enc) (C := Tryz.checked) false ⟨#[], #[.agg #[.int .i64 0, .slice none 0 0, .slice none 0 0, .slice none 0 0], .int .u8 0], []⟩ 8 (by kernel_rfl) (by kernel_rfl) (by kernel_rfl) (by kernel_rfl)) ?_
  intro W base args ds gs before hval0 hW hcnd _
  have hval : ∀ (j : Nat) t v, Tryz.f5.params[j]? = some t → args[j]? = some v → Value.okWide Tryz.prog W .any base t v := hval0
  have hW' := hW
  obtain ⟨p, q, hA0, hV, rfl, hfz, hnd⟩ := hW
  have hA : DataW.TrodAll enc Tryz.prog W 0 (fun _ => true) true Tryz.f5.params.toList args.toList ds p := hA0
  rw [Tryz.params5] at hA hval
  obtain ⟨v0, vs0, d0, ds0, p0, q0, hargs, rfl, rfl, h0, r0⟩ := trodAll_cons hA
  obtain ⟨v1, vs1, d1, ds1, p1, q1, rfl, rfl, rfl, h1, r1⟩ := trodAll_cons r0
  obtain ⟨rfl, rfl, rfl⟩ := trodAll_nil r1
  obtain rfl : args = #[v0, v1] := by cases args; simp_all
  obtain ⟨rfl, rfl⟩ := trodVars_none hV
  obtain ⟨D0, rfl, hfit0⟩ := open_config (hval 0 26 v0 rfl rfl) h0
  have k0 := h0
  have lt0 : ∀ x ∈ p0, x.block < W.heap.size := by obtain ⟨m, hm⟩ := k0; exact DataW.trod_lt m _ _ _ hm
  obtain ⟨a1, rfl, rfl, rfl, w1⟩ := open_int Tryz.underlying5 (hval 1 5 v1 rfl rfl) h1
  clear hA0 hval0
  refine (planframes_walk D0 a1 W hfit0 (PNF_in_u8 w1)).mono fun e W' ⟨he, bel⟩ => ?_
  subst he
  exact ⟨_, rfl, _, _, _, [], _, [], hW', trodAll_mk1 (shut_bool Tryz.underlying4 _), (trodAll_cons_mk (Below.trod PNF_laid (by kernel_rfl) (of_decide_eq_true (by kernel_rfl)) k0 bel lt0) (trodAll_cons_mk (shut_int Tryz.underlying5 w1) trodAll_mk0)), rfl, bel.frame _, fun h => by cases h⟩

theorem PNF_holds : Rows.PlanFramesSaid :=
  OpenClaim.holds_of_wide 5 Tryz.f5 rfl rfl rfl rfl rfl rfl rfl ⟨rfl, rfl, rfl, rfl, rfl⟩ rfl rfl rfl rfl rfl (by kernel_rfl) Tryz.func5 (by kernel_rfl)
    (of_decide_eq_true (by kernel_rfl)) (by unfold Func.isWrapper; first | (rw [if_pos (by decide +kernel)]; kernel_rfl) | (rw [if_neg (by decide +kernel)]; exact ⟨rfl, rfl⟩))
    (fun os started H enc _ => PNF_lifted os started H enc)
#print axioms PNF_holds
end Go.Proofs.YtfhhcpmoaggdmaaGreat
