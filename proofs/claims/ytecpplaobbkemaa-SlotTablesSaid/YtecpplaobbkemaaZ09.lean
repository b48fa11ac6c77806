import Derived.Test.YtecpplaobbkemaaZ08
import Derived.Test.YtecpplaobbkemaaZ02
import Derived.Test.YtecpplaobbkemaaZ01
import Derived.ShutString
import Derived.ChangeOld
import Derived.Lib.SmallJoins
set_option linter.all false
/- The laws of tables and of steps, walked. -/
namespace Go.Proofs.Ytecpplaobbkemaa
open Go.RowKit Go.Lib Go.Sort
set_option linter.unusedVariables false

/-- Why slots make no table; 0: they do. -/
def tabE (f : Int) (n : Nat) (d : Nat → W3) : Int := if rightB f then newE f d n else 2
theorem tabE_zero {f : Int} {n : Nat} {d : Nat → W3} : tabE f n d = 0 ↔ rightB f = true ∧ newE f d n = 0 := by
  unfold tabE
  cases rightB f <;> simp
/-- A table as1 New makes it. -/
def Tb17 (W : World) (b : Nat) (f : Int) (n : Nat) (d : Nat → W3) : Prop := ∃ A c d', TbS W b f A n c d' ∧ GoodS f n d' ∧ ((List.range n).map d').Perm ((List.range n).map d) ∧ ∀ i j, i < j → j < n → (d' i).2.1 ≤ (d' j).2.1
theorem Tb17.grown {w w' : World} {b : Nat} {f : Int} {n : Nat} {d : Nat → W3} (h : Tb17 w b f n d) (g : w.grownBy w' none) : Tb17 w' b f n d := by
  obtain ⟨A, c, d', h1, h2⟩ := h
  exact ⟨A, c, d', h1.grown g, h2⟩
theorem new_yes (f : Int) (A : Option Addr) (n cap : Nat) (d : Nat → W3) (w : World) (hst : Row3 w A n d) (hm : n ≤ 1000) (hE : tabE f n d = 0) : Calls Try.prog 8 #[.int .i64 f, .slice A n cap] w fun e w' => ∃ b, e = .returned (.tuple #[.pointer (some ⟨b, 0, none⟩), .int .i64 0]) ∧ Tb17 w' b f n d ∧ Below w.heap.size w w' := by
  have hz := tabE_zero.1 hE
  refine (snew_any f A n cap d w hst hm).mono fun e w' hv => ?_
  obtain ⟨b, A', c', d', he, hp, hpm, hso⟩ := hv.1 hz
  exact ⟨b, he, ⟨A', c', d', hp.tbs, good_perm (good_of hz.2) hpm, hpm, hso⟩, hp.bl⟩
theorem new_no (f : Int) (A : Option Addr) (n cap : Nat) (d : Nat → W3) (w : World) (hst : Row3 w A n d) (hm : n ≤ 1000) (hE : tabE f n d ≠ 0) : Calls Try.prog 8 #[.int .i64 f, .slice A n cap] w fun e w' => e = .returned (.tuple #[.pointer none, .int .i64 (tabE f n d)]) ∧ Below w.heap.size w w' :=
  (snew_any f A n cap d w hst hm).mono fun e w' hv => hv.2 (fun k => hE (tabE_zero.2 k))
theorem rch17 (f : Int) (A : Option Addr) (n cap : Nat) (d : Nat → W3) (w : World) (hst : Row3 w A n d) (hm : n ≤ 10000) : Calls Try.prog 9 #[.int .i64 f, .slice A n cap] w fun e w' => e = .returned (.int .i64 (tabE f n d)) ∧ w.grownBy w' none := rcheck17_any f A n cap d w hst hm
theorem row_below {w w' : World} {A : Option Addr} {n : Nat} {d : Nat → W3} (h : Row3 w A n d) (b : Below w.heap.size w w') : Row3 w' A n d := h.grown (only_far b)
set_option maxRecDepth 20000 in
set_option maxHeartbeats 1600000 in
theorem slottables_walk (f : Int) (A : Option Addr) (len cap : Nat) (d : Nat → W3) (w : World) (hf : fitI f) (hst : Row3 w A len d) (hfit : ∀ i, i < len → FitW3 (d i)) (hlc : len ≤ cap) (hcm : cap ≤ 9223372036854775807) : Calls Try.prog 3 #[.int .i64 f, .slice A len cap] w fun e w' => e = .returned (.bool true) ∧ Below w.heap.size w w' := by
  have HL := Lib.hid (fun W => live17_any W)
  obtain ⟨n, hn⟩ : ∃ n, n = min len 32 := ⟨_, rfl⟩
  have hn32 : n ≤ 32 := by omega
  have hr : Row3 w A n d := hst.cut n (by omega)
  have HR := Lib.hid hr
  have HC := Lib.hid (fun W (k : Row3 W A n d) => rch17 f A n cap d W k (by omega))
  have HNO := Lib.hid (fun (h : tabE f n d ≠ 0) => new_no f A n cap d w hr (by omega) h)
  have HYES := Lib.hid (fun (h : tabE f n d = 0) => new_yes f A n cap d w hr (by omega) h)
  clear hst hfit hr
  generalize tabE f n d = E at HC HNO HYES
  by_cases hE : E = 0
  · subst hE
    have HY := Lib.hid (HYES.out rfl)
    clear HYES HNO
    rcases Nat.lt_or_ge 32 len with h32 | h32
    · obtain rfl : n = 32 := by omega
      have hmin : min (len : Int) 32 = 32 := by omega
      clear hn hn32
      go_enter Try.func3, Try.ntmps3
      go_wp2_with (first
        | (go_at_call 8; (with_reducible refine HY.out.mono ?_); rintro e w2 ⟨b, rfl, _, b2⟩; have B2 := Lib.hid b2; have R2 := Lib.hid (row_below HR.out b2); clear b2)
        | (go_at_call 9; (with_reducible refine (HC.out _ R2.out).mono ?_); rintro e w3 ⟨rfl, g3⟩; have B3 := Lib.hid (B2.out.trans (below_of_only g3 B2.out.size (by simp))); clear g3)
        | (go_at_call 10; (with_reducible refine (HL.out _).mono ?_); rintro e w4 ⟨rfl, b4⟩; have B4 := Lib.hid (B3.out.trans (b4.mono B3.out.size)); clear b4))
      go_ret
      exact ⟨by first | rfl | simp, B4.out⟩

    · obtain rfl : n = len := by omega
      have hmin : min (n : Int) 32 = (n : Int) := by omega
      clear hn hn32
      go_enter Try.func3, Try.ntmps3
      go_wp2_with (first
        | (go_at_call 8; (with_reducible refine HY.out.mono ?_); rintro e w2 ⟨b, rfl, _, b2⟩; have B2 := Lib.hid b2; have R2 := Lib.hid (row_below HR.out b2); clear b2)
        | (go_at_call 9; (with_reducible refine (HC.out _ R2.out).mono ?_); rintro e w3 ⟨rfl, g3⟩; have B3 := Lib.hid (B2.out.trans (below_of_only g3 B2.out.size (by simp))); clear g3)
        | (go_at_call 10; (with_reducible refine (HL.out _).mono ?_); rintro e w4 ⟨rfl, b4⟩; have B4 := Lib.hid (B3.out.trans (b4.mono B3.out.size)); clear b4))
      go_ret
      exact ⟨by first | rfl | simp, B4.out⟩

  · have hne : (E == 0) = false := by simpa using hE
    have hne2 : (E != 0) = true := by simpa using hE
    have HY := Lib.hid (HNO.out hE)
    clear HYES HNO
    rcases Nat.lt_or_ge 32 len with h32 | h32
    · obtain rfl : n = 32 := by omega
      have hmin : min (len : Int) 32 = 32 := by omega
      clear hn hn32
      go_enter Try.func3, Try.ntmps3
      go_wp2_with (first
        | (go_at_call 8; (with_reducible refine HY.out.mono ?_); rintro e w2 ⟨rfl, b2⟩; have B2 := Lib.hid b2; have R2 := Lib.hid (row_below HR.out b2); clear b2)
        | (go_at_call 9; (with_reducible refine (HC.out _ R2.out).mono ?_); rintro e w3 ⟨rfl, g3⟩; have B3 := Lib.hid (B2.out.trans (below_of_only g3 B2.out.size (by simp))); clear g3)
        | (go_at_call 10; (with_reducible refine (HL.out _).mono ?_); rintro e w4 ⟨rfl, b4⟩; have B4 := Lib.hid (B3.out.trans (b4.mono B3.out.size)); clear b4))
      go_ret
      exact ⟨by first | rfl | simp, B4.out⟩

    · obtain rfl : n = len := by omega
      have hmin : min (n : Int) 32 = (n : Int) := by omega
      clear hn hn32
      go_enter Try.func3, Try.ntmps3
      go_wp2_with (first
        | (go_at_call 8; (with_reducible refine HY.out.mono ?_); rintro e w2 ⟨rfl, b2⟩; have B2 := Lib.hid b2; have R2 := Lib.hid (row_below HR.out b2); clear b2)
        | (go_at_call 9; (with_reducible refine (HC.out _ R2.out).mono ?_); rintro e w3 ⟨rfl, g3⟩; have B3 := Lib.hid (B2.out.trans (below_of_only g3 B2.out.size (by simp))); clear g3)
        | (go_at_call 10; (with_reducible refine (HL.out _).mono ?_); rintro e w4 ⟨rfl, b4⟩; have B4 := Lib.hid (B3.out.trans (b4.mono B3.out.size)); clear b4))
      go_ret
      exact ⟨by first | rfl | simp, B4.out⟩

/-- What 'made' answers. -/
def MdV (f : Int) (A : Option Addr) (n cap : Nat) (d : Nat → W3) (w : World) (e : Ending) (w' : World) : Prop :=
  Below w.heap.size w w' ∧ ((f ≤ 200 ∧ tabE f n d = 0 ∧ ∃ b, e = .returned (.tuple #[.pointer (some ⟨b, 0, none⟩), .slice A n cap]) ∧ Tb17 w' b f n d) ∨ (¬ (f ≤ 200 ∧ tabE f n d = 0) ∧ e = .returned (.tuple #[.pointer none, .slice A n cap])))
set_option maxRecDepth 20000 in
set_option maxHeartbeats 1600000 in
theorem made17_any (f : Int) (A : Option Addr) (len cap : Nat) (d : Nat → W3) (w : World) (hst : Row3 w A len d) (hlc : len ≤ cap) (hcm : cap ≤ 9223372036854775807) (n : Nat) (hn : n = min len 32) : Calls Try.prog 11 #[.int .i64 f, .slice A len cap] w (MdV f A n cap d w) := by
  have hn32 : n ≤ 32 := by omega
  have hr : Row3 w A n d := hst.cut n (by omega)
  have HR := Lib.hid hr
  have HC := Lib.hid (fun W (k : Row3 W A n d) => rch17 f A n cap d W k (by omega))
  have HYES := Lib.hid (fun (h : tabE f n d = 0) W (k : Row3 W A n d) => new_yes f A n cap d W k (by omega) h)
  have HV1 := Lib.hid (fun (h1 : f ≤ 200) (h2 : tabE f n d = 0) (b : Nat) (w' : World) (hb : Below w.heap.size w w') (t : Tb17 w' b f n d) => (show MdV f A n cap d w (.returned (.tuple #[.pointer (some ⟨b, 0, none⟩), .slice A n cap])) w' from ⟨hb, .inl ⟨h1, h2, b, rfl, t⟩⟩))
  have HV2 := Lib.hid (fun (h : ¬ (f ≤ 200 ∧ tabE f n d = 0)) (w' : World) (hb : Below w.heap.size w w') => (show MdV f A n cap d w (.returned (.tuple #[.pointer none, .slice A n cap])) w' from ⟨hb, .inr ⟨h, rfl⟩⟩))
  clear hst hr
  generalize tabE f n d = E at HC HYES HV1 HV2
  by_cases h200 : 200 < f
  · have HV := Lib.hid (HV2.out (by omega))
    clear HV1 HV2 HYES
    rcases Nat.lt_or_ge 32 len with h32 | h32
    · obtain rfl : n = 32 := by omega
      have hmin : min (len : Int) 32 = 32 := by omega
      clear hn hn32
      go_enter Try.func11, Try.ntmps11
      go_wp2
      go_ret2
      exact HV.out _ (Below.refl _ _)

    · obtain rfl : n = len := by omega
      have hmin : min (n : Int) 32 = (n : Int) := by omega
      clear hn hn32
      go_enter Try.func11, Try.ntmps11
      go_wp2
      go_ret2
      exact HV.out _ (Below.refl _ _)

  by_cases hE : E = 0
  · subst hE
    have HY := Lib.hid (HYES.out rfl)
    have HV := Lib.hid (HV1.out (by omega) rfl)
    clear HV1 HV2 HYES
    rcases Nat.lt_or_ge 32 len with h32 | h32
    · obtain rfl : n = 32 := by omega
      have hmin : min (len : Int) 32 = 32 := by omega
      clear hn hn32
      go_enter Try.func11, Try.ntmps11
      go_wp2_with (first
        | (go_at_call 9; (with_reducible refine (HC.out _ HR.out).mono ?_); rintro e w3 ⟨rfl, g3⟩; have B3 := Lib.hid g3; have R3 := Lib.hid (HR.out.grown g3); clear g3)
        | (go_at_call 8; (with_reducible refine (HY.out _ R3.out).mono ?_); rintro e w2 ⟨b, rfl, hb, b2⟩; have TB := Lib.hid hb; have B2 := Lib.hid ((below_of_only B3.out (Nat.le_refl _) (by simp)).trans (b2.mono B3.out.size)); clear b2 hb))
      go_ret2
      exact HV.out b _ B2.out TB.out

    · obtain rfl : n = len := by omega
      have hmin : min (n : Int) 32 = (n : Int) := by omega
      clear hn hn32
      go_enter Try.func11, Try.ntmps11
      go_wp2_with (first
        | (go_at_call 9; (with_reducible refine (HC.out _ HR.out).mono ?_); rintro e w3 ⟨rfl, g3⟩; have B3 := Lib.hid g3; have R3 := Lib.hid (HR.out.grown g3); clear g3)
        | (go_at_call 8; (with_reducible refine (HY.out _ R3.out).mono ?_); rintro e w2 ⟨b, rfl, hb, b2⟩; have TB := Lib.hid hb; have B2 := Lib.hid ((below_of_only B3.out (Nat.le_refl _) (by simp)).trans (b2.mono B3.out.size)); clear b2 hb))
      go_ret2
      exact HV.out b _ B2.out TB.out

  · have hne : (E == 0) = false := by simpa using hE
    have hne2 : (E != 0) = true := by simpa using hE
    have HV := Lib.hid (HV2.out (by omega))
    clear HV1 HV2 HYES
    rcases Nat.lt_or_ge 32 len with h32 | h32
    · obtain rfl : n = 32 := by omega
      have hmin : min (len : Int) 32 = 32 := by omega
      clear hn hn32
      go_enter Try.func11, Try.ntmps11
      go_wp2_with (go_at_call 9; (with_reducible refine (HC.out _ HR.out).mono ?_); rintro e w3 ⟨rfl, g3⟩; have B3 := Lib.hid g3; clear g3)
      go_ret2
      exact HV.out _ (below_of_only B3.out (Nat.le_refl _) (by simp))

    · obtain rfl : n = len := by omega
      have hmin : min (n : Int) 32 = (n : Int) := by omega
      clear hn hn32
      go_enter Try.func11, Try.ntmps11
      go_wp2_with (go_at_call 9; (with_reducible refine (HC.out _ HR.out).mono ?_); rintro e w3 ⟨rfl, g3⟩; have B3 := Lib.hid g3; clear g3)
      go_ret2
      exact HV.out _ (below_of_only B3.out (Nat.le_refl _) (by simp))

end Go.Proofs.Ytecpplaobbkemaa

/- How a machine's tables that came in by value are opened. -/
namespace Go.Proofs.Ytecpplaobbkemaa
open Go.RowKit Go.Lib Go.ChangeShapes Go.WideShapes Go.ChangeAt Go.Deep
set_option linter.unusedVariables false

theorem open_slots {H : Type} {enc : TypeId × Value → H} {w : World} {base : Nat} {spare : Nat → Bool} {held : Bool} {A : Option Addr} {len cap fuel : Nat} {x : DataW H × List MemPlace}
    (h : DataW.trod enc Try.prog w base spare held fuel 22 [.slice A len cap] = some x) : len ≤ cap ∧ cap ≤ 9223372036854775807 ∧ ∃ d, Row3 w A len d ∧ ∀ i, i < len → FitW3 (d i) := by
  obtain ⟨h1, h2, h3, h4⟩ := open_structs Try.underlying22 Try.underlying54 (by kernel_rfl) (by kernel_rfl) (by decide) h
  refine ⟨h1, by unfold maxLen at h2; omega, ?_⟩
  by_cases hp : 0 < len
  · obtain ⟨b, off, hA, hb, hc⟩ := h4 hp
    have hx : ∀ i, ∃ r : W3, i < len → (w.cell? ⟨b, off + i * 3, none⟩ = some (.int .i64 r.1) ∧ w.cell? ⟨b, off + i * 3 + 1, none⟩ = some (.int .i64 r.2.1) ∧ w.cell? ⟨b, off + i * 3 + 2, none⟩ = some (.int .i64 r.2.2)) ∧ FitW3 r := by
      intro i
      by_cases hi : i < len
      · obtain ⟨v0, n0, y0, c0, r0⟩ := hc i hi 0 _ rfl
        obtain ⟨v1, n1, y1, c1, r1⟩ := hc i hi 1 _ rfl
        obtain ⟨v2, n2, y2, c2, r2⟩ := hc i hi 2 _ rfl
        obtain ⟨p0, e0, _, w0⟩ := DataW.trod_int Try.underlying3 r0
        obtain ⟨p1, e1, _, w1⟩ := DataW.trod_int Try.underlying3 r1
        obtain ⟨p2, e2, _, w2⟩ := DataW.trod_int Try.underlying3 r2
        injection e0 with e0 _
        injection e1 with e1 _
        injection e2 with e2 _
        subst e0 e1 e2
        exact ⟨(p0, p1, p2), fun _ => ⟨⟨c0, c1, c2⟩, fitI_of w0, fitI_of w1, fitI_of w2⟩⟩
      · exact ⟨(0, 0, 0), fun h => absurd h hi⟩
    exact ⟨fun i => Classical.choose (hx i), ⟨fun h => (h3 h).1, fun _ => ⟨b, off, hA, hb, fun i hi => (Classical.choose_spec (hx i) hi).1⟩⟩, fun i hi => (Classical.choose_spec (hx i) hi).2⟩
  · exact ⟨fun _ => (0, 0, 0), ⟨fun h => (h3 h).1, fun h => absurd h hp⟩, fun i hi => absurd hi (by omega)⟩
/-- One field of a struct by value whose fields are one cell each. -/
theorem open_fieldc {H : Type} {enc : TypeId × Value → H} {P : Program} {w : World} {base : Nat} {spare : Nat → Bool} {held : Bool} {t : TypeId} {fs : Array Field} {fuel : Nat} {cs : List Value} {x : DataW H × List MemPlace}
    (hs : P.underlying t = some (.struct fs)) (hone : oneCellFields P fs = true) (h : DataW.trod enc P w base spare held fuel t cs = some x) {i : Nat} {f : Field} (hf : fs[i]? = some f) {c : Value} (hc : cs[i]? = some c) :
    ∃ n y, DataW.trod enc P w base spare held n f.type [c] = some y := by
  obtain ⟨xs, n, _, _, _, hlen, hfld⟩ := DataW.trod_struct hs h
  obtain ⟨o, k⟩ := hone_of hone i f hf
  have h1 := hfld i f hf
  have hi : i < fs.size := (Array.getElem?_eq_some_iff.1 hf).1
  have hcl : i < cs.length := (List.getElem?_eq_some_iff.1 hc).1
  have hce : cs[i] = c := (List.getElem?_eq_some_iff.1 hc).2
  rw [o, k, List.getElem?_eq_getElem (by omega), List.drop_eq_getElem_cons hcl, hce] at h1
  exact ⟨n, _, by simpa using h1⟩
theorem cutc4 {cs : Array Value} (h : cs.size = 4) : ∃ c0 c1 c2 c3, cs = #[c0, c1, c2, c3] := by
  obtain ⟨l⟩ := cs
  match l, h with
  | [c0, c1, c2, c3], _ => exact ⟨c0, c1, c2, c3, rfl⟩
theorem form_slice {H : Type} {enc : TypeId × Value → H} {P : Program} {w : World} {base : Nat} {spare : Nat → Bool} {held : Bool} {t e : TypeId} {fuel : Nat} {c : Value} {x : DataW H × List MemPlace}
    (ht : P.underlying t = some (.slice e)) (h : DataW.trod enc P w base spare held fuel t [c] = some x) : ∃ A n k, c = .slice A n k := by
  rcases open_slice ht h with ⟨hcs, _⟩ | ⟨a, l, k, m, n, D, Pl, hcs, _⟩
  · injection hcs with hcs _
    exact ⟨_, _, _, hcs⟩
  · injection hcs with hcs _
    exact ⟨_, _, _, hcs⟩
end Go.Proofs.Ytecpplaobbkemaa

/- SlotTables: which slots make a table, or what is wrong with them, is the document's, whatever the number of ticks and the slots. -/
namespace Go.Proofs.Ytecpplaobbkemaa
open Go.RowKit Go.Lib Go.ChangeShapes Go.WideShapes Go.ChangeAt Go.Deep Go.Joins
open Go.ChangeMaps (open_string shut_string)
set_option linter.unusedVariables false

theorem QTP_own : ownKnob Try.prog.godebug = none := by kernel_rfl
theorem QTP_laid : laidOutB Try.prog = true := by kernel_rfl
set_option maxRecDepth 100000 in
theorem QTP_lifted (os : Os) (started : os.Started) (H : Type) (enc : TypeId × Value → H) :
    ReturnsInHanded {} Try.checked os 3 .any (Rows.slotTablesSpec.pre6 enc Try.prog Try.f3 Rows.slotTablesRow.domain false) (Rows.slotTablesSpec.post enc Try.prog Try.f3 false true false false) := by
  refine returnsInHanded_of_change (C := Try.checked) QTP_own started (by kernel_rfl) Try.func3
    (ChangeSpec.witness6 (enc := enc) (C := Try.checked) false ⟨#[], #[.int .i64 0, .slice none 0 0], []⟩ 8 (by kernel_rfl) (by kernel_rfl) (by kernel_rfl) (by kernel_rfl)) ?_
  intro W base args ds gs before hval0 hW hcnd _
  have hval : ∀ (j : Nat) t v, Try.f3.params[j]? = some t → args[j]? = some v → Value.okWide Try.prog W .any base t v := hval0
  have hW' := hW
  obtain ⟨p, q, hA0, hV, rfl, hfz, hnd⟩ := hW
  have hA : DataW.TrodAll enc Try.prog W 0 (fun _ => true) true Try.f3.params.toList args.toList ds p := hA0
  rw [Try.params3] at hA hval
  obtain ⟨v0, vs0, d0, ds0, p0, q0, hargs, rfl, rfl, h0, r0⟩ := trodAll_cons hA
  obtain ⟨v1, vs1, d1, ds1, p1, q1, rfl, rfl, rfl, h1, r1⟩ := trodAll_cons r0
  obtain ⟨rfl, rfl, rfl⟩ := trodAll_nil r1
  obtain rfl : args = #[v0, v1] := by cases args; simp_all
  obtain ⟨rfl, rfl⟩ := trodVars_none hV
  obtain ⟨a0, rfl, rfl, rfl, w0⟩ := open_int Try.underlying3 (hval 0 3 v0 rfl rfl) h0
  obtain ⟨A1, len1, cap1, rfl⟩ := okWide_slice Try.underlying22 (hval 1 22 v1 rfl rfl)
  have k1 := h1
  have lt1 : ∀ x ∈ p1, x.block < W.heap.size := by obtain ⟨m, hm⟩ := k1; exact DataW.trod_lt m _ _ _ hm
  obtain ⟨fuel1, hf1⟩ := h1
  obtain ⟨hlc1, hcm1, D1, hst1, hfit1⟩ := open_slots (by simpa [Value.cells] using hf1)
  clear hA0 hval0
  refine (slottables_walk a0 A1 len1 cap1 D1 W (fitI_of w0) hst1 hfit1 hlc1 hcm1).mono fun e W' ⟨he, bel⟩ => ?_
  subst he
  exact ⟨_, rfl, _, _, _, [], _, [], hW', trodAll_mk1 (shut_bool Try.underlying4 _), (trodAll_cons_mk (shut_int Try.underlying3 w0) (trodAll_cons_mk (Below.trod QTP_laid (by kernel_rfl) (of_decide_eq_true (by kernel_rfl)) k1 bel lt1) trodAll_mk0)), rfl, bel.frame _, fun h => by cases h⟩

theorem QTP_holds : Rows.SlotTablesSaid :=
  OpenClaim.holds_of_wide 3 Try.f3 rfl rfl rfl rfl rfl rfl rfl ⟨rfl, rfl, rfl, rfl, rfl⟩ rfl rfl rfl rfl rfl (by kernel_rfl) Try.func3 (by kernel_rfl)
    (of_decide_eq_true (by kernel_rfl)) (by unfold Func.isWrapper; first | (rw [if_pos (by decide +kernel)]; kernel_rfl) | (rw [if_neg (by decide +kernel)]; exact ⟨rfl, rfl⟩))
    (fun os started H enc _ => QTP_lifted os started H enc)
#print axioms QTP_holds
end Go.Proofs.Ytecpplaobbkemaa
