import Derived.Test.YteoaaogfloljlaaDoorZ07
import Derived.Defers
import Derived.Recover
set_option linter.all false
/- Package asm: the labels' places put where their names stand, by their contract. -/
namespace Go.Proofs.YteoaaogfloljlaaDoor
open Go.RowKit Go.Lib
set_option linter.unusedVariables false

theorem Am.step_copy_eq {P : Program} {ops : Array Oper} {o : Oper} {a : Act} {W : World} {K : Act → World → Prop} {Q : Exit → Act → World → Prop} {E : Prop} (hgd : o.guard = none) (s x : Operand) (t u : TypeId) (ho : o.op = .call { callee := .builtin .copy, args := #[s, x], argTypes := #[t, u] })
    {v xs v' : Value} {w' : World} (hr : (Builtin.copy_ #[t, u] o.type #[v, xs]).run P W = .ok v' w') (hs : a.eval s = v) (hx : a.eval x = xs) (h : K (a.put o.dst v') w') : if Region.wanted o (yielded ops a.tmps) = true then Oper.wp P o a W K Q else E := by
  have hw : Region.wanted o (yielded ops a.tmps) = true := by simp [Region.wanted, hgd]
  rw [if_pos hw]
  unfold Oper.wp execOp
  simp only [ho, resolve, invoke, builtin, Sem.run_bind, Sem.run_pure, Result.andThen_ok, List.map_toArray, List.map_cons, List.map_nil, hs, hx, hr]
  exact h
/-- The program with all places in, in memory; or giving up. -/
def Am.fuP (w : World) (b : Nat) (F : Nat → Prop) (st : Am.St) (z : Int × Nat × List UInt8) (r : Ending) (w' : World) : Prop :=
  if z.1 = 0 then r = .returned (.tuple #[]) ∧ ∃ F' ln', Am.Rd w' b ln' ⟨z.2.2, st.lb, st.ws⟩ F' ∧ Am.Nx w w' F F' else r = .panicked (Am.chn z.2.1 z.1) ∧ Keeps F w w'
/-- What is kept from name to name. -/
structure Am.FuI (w wr : World) (b ln : Nat) (st : Am.St) (pv lv wv : Value) (m k : Nat) (p : List UInt8) : Prop where
  ful : Am.ful st.lb st.ws st.pr = Am.ful st.lb (st.ws.drop k) p
  len : p.length = st.pr.length
  rr : Am.Rr wr b ln ⟨p, st.lb, st.ws⟩ pv lv wv m
  nx : Am.Nx w wr (Am.ft b m pv lv wv) (Am.ft b m pv lv wv)
theorem Am.ful_at {lb : List (List UInt8 × Nat)} {ws : List (Nat × List UInt8 × Nat)} {k : Nat} {p : List UInt8} (hk : k < ws.length) {x : Nat × List UInt8 × Nat} (hx : x = ws[k]) : Am.ful lb (ws.drop k) p = match Am.look lb x.2.1 with | none => (14, x.1, p) | some a => Am.ful lb (ws.drop (k + 1)) (Am.put2 p x.2.2 a) := by
  rw [List.drop_eq_getElem_cons hk, ← hx]
  rfl
theorem Am.wsL_at {ws : List (Nat × List UInt8 × Nat)} {k : Nat} {x : Nat × List UInt8 × Nat} (hk : k < ws.length) (hx : x = ws[k]) : (Am.wsL ws)[k * 3]? = some (.int .i64 x.1) ∧ (Am.wsL ws)[k * 3 + 1]? = some (.string ⟨x.2.1.toArray⟩) ∧ (Am.wsL ws)[k * 3 + 2]? = some (.int .i64 x.2.2) := by
  subst hx
  induction ws generalizing k with
  | nil => simp at hk
  | cons y r ih =>
    have e : Am.wsL (y :: r) = Am.ws1 y ++ Am.wsL r := rfl
    cases k with
    | zero => rw [e]; exact ⟨rfl, rfl, rfl⟩
    | succ k =>
      have hk' : k < r.length := by simpa using hk
      obtain ⟨a, b, c⟩ := ih hk'
      rw [e, show (k + 1) * 3 = 3 + k * 3 from by omega]
      have hl : (Am.ws1 y).length = 3 := rfl
      refine ⟨?_, ?_, ?_⟩
      · rw [List.getElem?_append_right (by omega), hl, show 3 + k * 3 - 3 = k * 3 from by omega]; exact a
      · rw [List.getElem?_append_right (by omega), hl, show 3 + k * 3 + 1 - 3 = k * 3 + 1 from by omega]; exact b
      · rw [List.getElem?_append_right (by omega), hl, show 3 + k * 3 + 2 - 3 = k * 3 + 2 from by omega]; exact c
set_option maxRecDepth 20000 in
set_option maxHeartbeats 3200000 in
theorem Am.fulfil_any (b ln : Nat) (st : Am.St) (F : Nat → Prop) (w : World) (h : Am.Rd w b ln st F) (hw : Am.WsOk st) (hp : st.pr.length ≤ 1024) (hwl : st.ws.length ≤ 100000) :
    Calls Tryd.prog 20 #[.pointer (some ⟨b, 0, none⟩)] w (Am.fuP w b F st (Am.ful st.lb st.ws st.pr)) := by
  obtain ⟨pv, lv, wv, m, hR, hF⟩ := h
  obtain ⟨pA, pc, rfl⟩ := hR.pr.form
  obtain ⟨wA, wc, rfl⟩ := hR.ws.form
  have hcw : ∀ k, k < st.ws.length → ∃ g off, wA = some ⟨g, off, none⟩ := fun k hk => by
    rcases hR.ws.2 with ⟨_, h0⟩ | ⟨g, off, cap, h1, _⟩
    · omega
    · injection h1 with h1 _ _
      exact ⟨g, off, h1⟩
  have HCW := Lib.hid hcw
  have c4 : w.cell? ⟨b, 4, none⟩ = some (.slice wA st.ws.length wc) := hR.blk.cell 4
  have I0 := Lib.hid (show Am.FuI w w b ln st (.slice pA st.pr.length pc) lv (.slice wA st.ws.length wc) m 0 st.pr from ⟨rfl, rfl, hR, Am.Nx.refl _ _⟩)
  have HF := Lib.hid hF
  have HW := Lib.hid hw
  have HB := Lib.hid (And.intro hp hwl)
  have FIN := Lib.hid (fun (wr : World) (k : Nat) (p : List UInt8) (hk : st.ws.length ≤ k) (I : Am.FuI w wr b ln st (.slice pA st.pr.length pc) lv (.slice wA st.ws.length wc) m k p) => (show Am.fuP w b F st (Am.ful st.lb st.ws st.pr) (.returned (.tuple #[])) wr from by
    have e : Am.ful st.lb st.ws st.pr = (0, 0, p) := by rw [I.ful, List.drop_of_length_le hk]; rfl
    unfold Am.fuP
    rw [e, if_pos rfl]
    obtain ⟨F', h1, h2⟩ := Am.Rd.of hF I.rr I.nx
    exact ⟨rfl, F', ln, h1, h2⟩))
  have DIE := Lib.hid (fun (wr w' : World) (k : Nat) (p : List UInt8) (hk : k < st.ws.length) (x : Nat × List UInt8 × Nat) (hx : x = st.ws[k]) (I : Am.FuI w wr b ln st (.slice pA st.pr.length pc) lv (.slice wA st.ws.length wc) m k p) (hl : Am.look st.lb x.2.1 = none) (hkp : Keeps (Am.ft b m (.slice pA st.pr.length pc) lv (.slice wA st.ws.length wc)) wr w') => (show Am.fuP w b F st (Am.ful st.lb st.ws st.pr) (.panicked (Am.chn x.1 14)) w' from by
    have e : Am.ful st.lb st.ws st.pr = (14, x.1, p) := by rw [I.ful, Am.ful_at hk hx, hl]
    unfold Am.fuP
    rw [e, if_neg (show ¬ ((14 : Int), x.1, p).1 = 0 from by show ¬ (14 : Int) = 0; decide)]
    exact ⟨rfl, (I.nx.1.trans hkp).mono (fun i _ hi => hF i hi)⟩))
  clear hR hF hw hp hwl hcw
  go_enter Tryd.func20, Tryd.ntmps20
  go_upto_region 1 with (fail)
  clear c4
  go_loopw [11] (fun y wr => ∃ (k : Nat) (p : List UInt8), y = .int .i64 k ∧ k ≤ st.ws.length ∧ Hid (Am.FuI w wr b ln st (.slice pA st.pr.length pc) lv (.slice wA st.ws.length wc) m k p)) (fun y _ => st.ws.length - (Go.Lib.intOf y).toNat)
  case atStart => exact ⟨0, st.pr, rfl, by omega, I0⟩
  case round =>
    obtain ⟨k, p, rfl, hk, HI⟩ := hrel
    by_cases hin : k < st.ws.length
    case neg =>
      obtain rfl : k = st.ws.length := by omega
      go_wp2
      go_end0
      exact FIN.out _ _ _ (Nat.le_refl _) HI.out
    have KL := Lib.hid hin
    have i1 : (k : Int) < (st.ws.length : Int) := by omega
    have i0 : (0 : Int) ≤ (k : Int) := by omega
    have u1 : IntKind.i64.wrap ((k : Int) + 1) = (k : Int) + 1 := by rw [IntKind.wrap_i64]; have := HB.out; omega
    obtain ⟨gw, offw, rfl⟩ := HCW.out k hin
    obtain ⟨x, hx⟩ : ∃ x, x = st.ws[k] := ⟨_, rfl⟩
    obtain ⟨a0, a1, a2⟩ := Am.wsL_at hin hx
    have HXX := Lib.hid (show x.2.2 + 2 ≤ st.pr.length ∧ x.2.1.length ≤ 16 from HW.out x (by rw [hx]; exact List.getElem_mem hin))
    have HX := Lib.hid hx
    obtain ⟨xl, xn, xa⟩ := x
    have hcl : wr.cell? ⟨gw, offw + k * 3, none⟩ = some (.int .i64 xl) ∧ wr.cell? ⟨gw, offw + k * 3 + 1, none⟩ = some (.string ⟨xn.toArray⟩) ∧ wr.cell? ⟨gw, offw + k * 3 + 2, none⟩ = some (.int .i64 xa) := by
      rcases HI.out.rr.ws.2 with ⟨h0, _⟩ | ⟨g', off', cap', h1, _, _, _, _, hc⟩
      · cases h0
      · injection h1 with h1 _ _
        injection h1 with h1
        injection h1 with h1 h2
        subst h1 h2
        exact ⟨hc _ _ a0, by rw [Nat.add_assoc]; exact hc _ _ a1, by rw [Nat.add_assoc]; exact hc _ _ a2⟩
    obtain ⟨x0, x1, x2⟩ := hcl
    clear hk hx a0 a1 a2 hin
    go_upto_region 3 with (fail)
    obtain ⟨w2, hw2⟩ : ∃ W, W = wr.alloc (.cells #[.int .i64 xl, .string ⟨xn.toArray⟩, .int .i64 xa] 72) := ⟨_, rfl⟩
    have B2 := Lib.hid (show Blk w2 wr.heap.size 72 #[.int .i64 xl, .string ⟨xn.toArray⟩, .int .i64 xa] from by rw [hw2]; exact Blk.new _ _ _)
    have g2 : wr.grownBy w2 none := by rw [hw2]; exact only_alloc (only_refl _ _) _
    have R2 := Lib.hid (HI.out.rr.grown g2)
    have N2 := Lib.hid (Am.Nx.of_grown g2 (Am.ft b m (.slice pA st.pr.length pc) lv (.slice (some ⟨gw, offw, none⟩) st.ws.length wc)))
    rw [← hw2]
    clear hw2 g2 x0 x1 x2
    generalize wr.heap.size = gb at *
    obtain ⟨b0, b1, b2⟩ := in3 B2.out
    obtain ⟨c0, c1, c3⟩ : w2.cell? ⟨b, 0, none⟩ = some (.int .i64 ln) ∧ w2.cell? ⟨b, 1, none⟩ = some (.slice pA st.pr.length pc) ∧ w2.cell? ⟨b, 3, none⟩ = some (.map (some m)) := ⟨R2.out.blk.cell 0, R2.out.blk.cell 1, R2.out.blk.cell 3⟩
    have hsm : (⟨xn.toArray⟩ : ByteArray).size ≤ maxLen := by show xn.toArray.size ≤ maxLen; have := HXX.out.2; unfold maxLen; simp; simp at this; omega
    have hnm : (⟨xn.toArray⟩ : ByteArray).data.toList = xn := by simp
    cases e : Am.look st.lb xn with
    | none =>
      have hlk := Am.run_look_none hsm R2.out.mp.drew (by rw [hnm]; exact e)
      have HE := Lib.hid e
      have f0 := R2.out.blk.free 0
      clear e hnm
      generalize (⟨xn.toArray⟩ : ByteArray) = sn at *
      have HG := Lib.hid (fun (W : World) (hc : W.cell? ⟨b, 0, none⟩ = some (.int .i64 xl)) => Am.giveup_any b xl 14 W hc)
      go_upto_region 3 with (fail)
      refine wp_region_held_drew (S := fun W => W = w2.drew) (by kernel_rfl) rfl (fun hHeld => ?_)
      refine wpAnyH_take (i := 0) (oi := _) (v := ?_) rfl (by kernel_rfl) (by kernel_rfl) (by kernel_rfl) (fun _ _ _ h => h) (Or.inl ⟨by rfl, ?_⟩) (by assumption) ?_
      case refine_2 => intro w hSw; (try dsimp only at hSw); subst hSw; go_simp; try with_reducible rfl
      try simp only [Act.put, List.setIfInBounds_toArray, List.set_cons_zero, List.set_cons_succ]
      refine wpAnyH_take (i := 1) (oi := _) (v := ?_) rfl (by kernel_rfl) (by kernel_rfl) (by kernel_rfl) (fun _ _ _ h => h) (Or.inl ⟨by rfl, ?_⟩) (by assumption) ?_
      case refine_2 => intro w hSw; (try dsimp only at hSw); subst hSw; go_simp; try with_reducible rfl
      try simp only [Act.put, List.setIfInBounds_toArray, List.set_cons_zero, List.set_cons_succ]
      refine wpAnyH_take (i := 2) (oi := _) (v := ?_) rfl (by kernel_rfl) (by kernel_rfl) (by kernel_rfl) (fun _ _ _ h => h) (Or.inl ⟨by rfl, ?_⟩) (by assumption) ?_
      case refine_2 => intro w hSw; (try dsimp only at hSw); subst hSw; go_simp; try with_reducible rfl
      try simp only [Act.put, List.setIfInBounds_toArray, List.set_cons_zero, List.set_cons_succ]
      refine wpAnyH_take (i := 3) (oi := _) (v := ?_) rfl (by kernel_rfl) (by kernel_rfl) (by kernel_rfl) (fun _ _ _ h => h) (Or.inl ⟨by rfl, ?_⟩) (by assumption) ?_
      case refine_2 => intro w hSw; (try dsimp only at hSw); subst hSw; go_simp; try with_reducible rfl
      try simp only [Act.put, List.setIfInBounds_toArray, List.set_cons_zero, List.set_cons_succ]
      refine wpAnyH_take (i := 4) (oi := _) (v := ?_) rfl (by kernel_rfl) (by kernel_rfl) (by kernel_rfl) (fun _ _ _ h => h) (Or.inl ⟨by rfl, ?_⟩) (by assumption) ?_
      case refine_2 => intro w hSw; (try dsimp only at hSw); subst hSw; go_simp; try with_reducible rfl
      try simp only [Act.put, List.setIfInBounds_toArray, List.set_cons_zero, List.set_cons_succ]
      refine wpAnyH_take (i := 5) (oi := _) (v := ?_) rfl (by kernel_rfl) (by kernel_rfl) (by kernel_rfl) (fun _ _ _ h => h) (Or.inl ⟨by rfl, ?_⟩) (by assumption) ?_
      case refine_2 => intro w hSw; (try dsimp only at hSw); subst hSw; go_simp; try with_reducible rfl
      try simp only [Act.put, List.setIfInBounds_toArray, List.set_cons_zero, List.set_cons_succ]
      refine wpAnyH_take (i := 6) (oi := _) (v := ?_) rfl (by kernel_rfl) (by kernel_rfl) (by kernel_rfl) (fun _ _ _ h => h) (Or.inl ⟨by rfl, ?_⟩) (by assumption) ?_
      case refine_2 => intro w hSw; (try dsimp only at hSw); subst hSw; go_simp; try with_reducible rfl
      try simp only [Act.put, List.setIfInBounds_toArray, List.set_cons_zero, List.set_cons_succ]
      refine wpAnyH_take (i := 7) (oi := _) (v := ?_) rfl (by kernel_rfl) (by kernel_rfl) (by kernel_rfl) (fun _ _ _ h => h) (Or.inl ⟨by rfl, ?_⟩) (by assumption) ?_
      case refine_2 => intro w hSw; (try dsimp only at hSw); subst hSw; go_simp; try with_reducible rfl
      try simp only [Act.put, List.setIfInBounds_toArray, List.set_cons_zero, List.set_cons_succ]
      refine wpAnyH_take (i := 8) (oi := _) (v := ?_) rfl (by kernel_rfl) (by kernel_rfl) (by kernel_rfl) (fun _ _ _ h => h) (Or.inl ⟨by rfl, ?_⟩) (by assumption) ?_
      case refine_2 => intro w hSw; (try dsimp only at hSw); subst hSw; go_simp; try with_reducible rfl
      try simp only [Act.put, List.setIfInBounds_toArray, List.set_cons_zero, List.set_cons_succ]
      refine wpAnyH_take (i := 9) (oi := _) (v := ?_) rfl (by kernel_rfl) (by kernel_rfl) (by kernel_rfl) (fun _ _ _ h => h) (Or.inl ⟨by rfl, ?_⟩) (by assumption) ?_
      case refine_2 => intro w hSw; (try dsimp only at hSw); subst hSw; go_simp; try with_reducible rfl
      try simp only [Act.put, List.setIfInBounds_toArray, List.set_cons_zero, List.set_cons_succ]
      refine wpAnyH_take (i := 10) (oi := _) (v := ?_) rfl (by kernel_rfl) (by kernel_rfl) (by kernel_rfl) (fun _ _ _ h => h) (Or.inl ⟨by rfl, ?_⟩) (by assumption) ?_
      case refine_2 => intro w hSw; (try dsimp only at hSw); subst hSw; go_simp; try with_reducible rfl
      try simp only [Act.put, List.setIfInBounds_toArray, List.set_cons_zero, List.set_cons_succ]
      refine wpAnyH_take (i := 11) (oi := _) (v := ?_) rfl (by kernel_rfl) (by kernel_rfl) (by kernel_rfl) (fun _ _ _ h => h) (Or.inl ⟨by rfl, ?_⟩) (by assumption) ?_
      case refine_2 => intro w hSw; (try dsimp only at hSw); subst hSw; go_simp; try with_reducible rfl
      try simp only [Act.put, List.setIfInBounds_toArray, List.set_cons_zero, List.set_cons_succ]
      refine wpAnyH_done (by kernel_rfl) ?_ _
      go_upto_region 6 with (fail)
      obtain ⟨w4, hw4⟩ : ∃ W, W = (w2.setCell ⟨b, 0, none⟩ (.int .i64 xl)).drew := ⟨_, rfl⟩
      have K4 := Lib.hid (show Keeps (Am.ft b m (.slice pA st.pr.length pc) lv (.slice (some ⟨gw, offw, none⟩) st.ws.length wc)) wr w4 from by rw [hw4]; exact (Keeps.put (p := ⟨b, 0, none⟩) N2.out.1 (.inl (.inl rfl)) _).drew 1)
      have hc4 : w4.cell? ⟨b, 0, none⟩ = some (.int .i64 xl) := by rw [hw4]; show (w2.setCell _ _).cell? _ = _; exact World.cell?_setCell_same _ _ _ c0
      rw [← hw4]
      clear hw4
      go_wp2_with (first
        | (go_at_call 33; (with_reducible refine (HG.out _ hc4).mono ?_); rintro r w5 ⟨rfl, rfl⟩))
      exact ⟨rfl, DIE.out _ _ k p KL.out (xl, xn, xa) HX.out HI.out HE.out K4.out⟩
    | some a =>
      have hlk := Am.run_look_some hsm R2.out.mp.drew (by rw [hnm]; exact e)
      have HE := Lib.hid e
      clear e hnm
      generalize (⟨xn.toArray⟩ : ByteArray) = sn at *
      go_upto_region 3 with (fail)
      refine wp_region_held_drew (S := fun W => W = w2.drew) (by kernel_rfl) rfl (fun hHeld => ?_)
      refine wpAnyH_take (i := 0) (oi := _) (v := ?_) rfl (by kernel_rfl) (by kernel_rfl) (by kernel_rfl) (fun _ _ _ h => h) (Or.inl ⟨by rfl, ?_⟩) (by assumption) ?_
      case refine_2 => intro w hSw; (try dsimp only at hSw); subst hSw; go_simp; try with_reducible rfl
      try simp only [Act.put, List.setIfInBounds_toArray, List.set_cons_zero, List.set_cons_succ]
      refine wpAnyH_take (i := 1) (oi := _) (v := ?_) rfl (by kernel_rfl) (by kernel_rfl) (by kernel_rfl) (fun _ _ _ h => h) (Or.inl ⟨by rfl, ?_⟩) (by assumption) ?_
      case refine_2 => intro w hSw; (try dsimp only at hSw); subst hSw; go_simp; try with_reducible rfl
      try simp only [Act.put, List.setIfInBounds_toArray, List.set_cons_zero, List.set_cons_succ]
      refine wpAnyH_take (i := 2) (oi := _) (v := ?_) rfl (by kernel_rfl) (by kernel_rfl) (by kernel_rfl) (fun _ _ _ h => h) (Or.inl ⟨by rfl, ?_⟩) (by assumption) ?_
      case refine_2 => intro w hSw; (try dsimp only at hSw); subst hSw; go_simp; try with_reducible rfl
      try simp only [Act.put, List.setIfInBounds_toArray, List.set_cons_zero, List.set_cons_succ]
      refine wpAnyH_take (i := 3) (oi := _) (v := ?_) rfl (by kernel_rfl) (by kernel_rfl) (by kernel_rfl) (fun _ _ _ h => h) (Or.inl ⟨by rfl, ?_⟩) (by assumption) ?_
      case refine_2 => intro w hSw; (try dsimp only at hSw); subst hSw; go_simp; try with_reducible rfl
      try simp only [Act.put, List.setIfInBounds_toArray, List.set_cons_zero, List.set_cons_succ]
      refine wpAnyH_take (i := 4) (oi := _) (v := ?_) rfl (by kernel_rfl) (by kernel_rfl) (by kernel_rfl) (fun _ _ _ h => h) (Or.inl ⟨by rfl, ?_⟩) (by assumption) ?_
      case refine_2 => intro w hSw; (try dsimp only at hSw); subst hSw; go_simp; try with_reducible rfl
      try simp only [Act.put, List.setIfInBounds_toArray, List.set_cons_zero, List.set_cons_succ]
      refine wpAnyH_take (i := 5) (oi := _) (v := ?_) rfl (by kernel_rfl) (by kernel_rfl) (by kernel_rfl) (fun _ _ _ h => h) (Or.inl ⟨by rfl, ?_⟩) (by assumption) ?_
      case refine_2 => intro w hSw; (try dsimp only at hSw); subst hSw; go_simp; try with_reducible rfl
      try simp only [Act.put, List.setIfInBounds_toArray, List.set_cons_zero, List.set_cons_succ]
      refine wpAnyH_take (i := 6) (oi := _) (v := ?_) rfl (by kernel_rfl) (by kernel_rfl) (by kernel_rfl) (fun _ _ _ h => h) (Or.inl ⟨by rfl, ?_⟩) (by assumption) ?_
      case refine_2 => intro w hSw; (try dsimp only at hSw); subst hSw; go_simp; try with_reducible rfl
      try simp only [Act.put, List.setIfInBounds_toArray, List.set_cons_zero, List.set_cons_succ]
      refine wpAnyH_take (i := 7) (oi := _) (v := ?_) rfl (by kernel_rfl) (by kernel_rfl) (by kernel_rfl) (fun _ _ _ h => h) (Or.inl ⟨by rfl, ?_⟩) (by assumption) ?_
      case refine_2 => intro w hSw; (try dsimp only at hSw); subst hSw; go_simp; try with_reducible rfl
      try simp only [Act.put, List.setIfInBounds_toArray, List.set_cons_zero, List.set_cons_succ]
      refine wpAnyH_take (i := 8) (oi := _) (v := ?_) rfl (by kernel_rfl) (by kernel_rfl) (by kernel_rfl) (fun _ _ _ h => h) (Or.inl ⟨by rfl, ?_⟩) (by assumption) ?_
      case refine_2 => intro w hSw; (try dsimp only at hSw); subst hSw; go_simp; try with_reducible rfl
      try simp only [Act.put, List.setIfInBounds_toArray, List.set_cons_zero, List.set_cons_succ]
      refine wpAnyH_take (i := 9) (oi := _) (v := ?_) rfl (by kernel_rfl) (by kernel_rfl) (by kernel_rfl) (fun _ _ _ h => h) (Or.inl ⟨by rfl, ?_⟩) (by assumption) ?_
      case refine_2 => intro w hSw; (try dsimp only at hSw); subst hSw; go_simp; try with_reducible rfl
      try simp only [Act.put, List.setIfInBounds_toArray, List.set_cons_zero, List.set_cons_succ]
      refine wpAnyH_take (i := 10) (oi := _) (v := ?_) rfl (by kernel_rfl) (by kernel_rfl) (by kernel_rfl) (fun _ _ _ h => h) (Or.inl ⟨by rfl, ?_⟩) (by assumption) ?_
      case refine_2 => intro w hSw; (try dsimp only at hSw); subst hSw; go_simp; try with_reducible rfl
      try simp only [Act.put, List.setIfInBounds_toArray, List.set_cons_zero, List.set_cons_succ]
      refine wpAnyH_take (i := 11) (oi := _) (v := ?_) rfl (by kernel_rfl) (by kernel_rfl) (by kernel_rfl) (fun _ _ _ h => h) (Or.inl ⟨by rfl, ?_⟩) (by assumption) ?_
      case refine_2 => intro w hSw; (try dsimp only at hSw); subst hSw; go_simp; try with_reducible rfl
      try simp only [Act.put, List.setIfInBounds_toArray, List.set_cons_zero, List.set_cons_succ]
      refine wpAnyH_done (by kernel_rfl) ?_ _
      go_upto_region 7 with (fail)
      obtain ⟨w3, hw3⟩ : ∃ W, W = w2.drew := ⟨_, rfl⟩
      have g3 : w2.grownBy w3 none := by rw [hw3]; exact only_drewN (only_refl _ _) 1
      have R3 := Lib.hid (R2.out.grown g3)
      have B3 := Lib.hid (B2.out.only g3 (by simp))
      have N3 := Lib.hid (N2.out.trans (Am.Nx.of_grown g3 _))
      rw [← hw3]
      clear hw3 g3 hlk b0 b1 b2 c0 c1 c3
      have HBP := Lib.hid (fun W : World => Go.Proofs.YteoaaogfloljlaaDoor.put_any (a : Int) W)
      obtain ⟨w5, hw5⟩ : ∃ W, W = w3.drew.alloc (.cells #[.int .u8 ((a : Int) % 256), .int .u8 ((a : Int) / 256 % 256)] 5) := ⟨_, rfl⟩
      have g5 : w3.grownBy w5 none := by rw [hw5]; exact only_alloc (only_drewN (only_refl _ _) 1) _
      have R5 := R3.out.grown g5
      have hpl := HI.out.len
      obtain ⟨g, off, rfl, hcap, hcp, R6, N6⟩ := (show Am.Rr w5 b ln ⟨p, st.lb, st.ws⟩ (.slice pA (⟨p, st.lb, st.ws⟩ : Am.St).pr.length pc) lv (.slice (some ⟨gw, offw, none⟩) st.ws.length wc) m from by show Am.Rr w5 b ln ⟨p, st.lb, st.ws⟩ (.slice pA p.length pc) lv _ m; rw [hpl]; exact R5).copy2 xa a (by show xa + 2 ≤ p.length; rw [hpl]; exact HXX.out.1)
      change (Builtin.copy_ _ _ #[.slice (some ⟨g, off + xa, none⟩) (p.length - xa) (pc - xa), _]).run _ _ = _ at hcp
      rw [hpl] at hcp
      change p.length ≤ pc at hcap
      rw [hpl] at hcap
      replace R6 : Am.Rr _ b ln ⟨Am.put2 p xa a, st.lb, st.ws⟩ (.slice (some ⟨g, off, none⟩) p.length pc) lv (.slice (some ⟨gw, offw, none⟩) st.ws.length wc) m := R6
      replace N6 : Am.Nx w5 _ (Am.ft b m (.slice (some ⟨g, off, none⟩) p.length pc) lv (.slice (some ⟨gw, offw, none⟩) st.ws.length wc)) (Am.ft b m (.slice (some ⟨g, off, none⟩) p.length pc) lv (.slice (some ⟨gw, offw, none⟩) st.ws.length wc)) := N6
      rw [hpl] at R6 N6
      have S5 := Lib.hid (show ∀ W, W = w3.drew ∨ W = w5 → W.cell? ⟨b, 1, none⟩ = some (.slice (some ⟨g, off, none⟩) st.pr.length pc) ∧ W.cell? ⟨gb, 2, none⟩ = some (.int .i64 xa) from fun W hW => by
        rcases hW with rfl | rfl
        · exact ⟨R3.out.blk.cell 1, B3.out.cell 2⟩
        · exact ⟨R5.blk.cell 1, (B3.out.only g5 (by simp)).cell 2⟩)
      have HK := Lib.hid hcp
      have I6 := Lib.hid (show Am.FuI w _ b ln st (.slice (some ⟨g, off, none⟩) st.pr.length pc) lv (.slice (some ⟨gw, offw, none⟩) st.ws.length wc) m (k + 1) (Am.put2 p xa a) from ⟨by
        have q := HI.out.ful
        rw [Am.ful_at KL.out HX.out, HE.out] at q
        exact q, by simp [Am.put2, hpl], R6, ((HI.out.nx.trans N3.out).trans (Am.Nx.of_grown g5 _)).trans N6⟩)
      have q1 : xa ≤ st.pr.length := by have : xa + 2 ≤ st.pr.length := HXX.out.1; omega
      have q2 : (0 : Int) ≤ (xa : Int) := by omega
      have q3 : (xa : Int) ≤ (st.pr.length : Int) := by omega
      have q7 : ¬ pc = xa := by have : xa + 2 ≤ st.pr.length := HXX.out.1; omega
      have q4 : ¬ xa = pc := by have : xa + 2 ≤ st.pr.length := HXX.out.1; omega
      have q5 : (st.pr.length : Int) ≤ (pc : Int) := by omega
      have q6 : (xa : Int) ≤ (pc : Int) := by omega
      clear hpl R5 R6 N6 hcp
      refine wp_region_ends2 9 (fun W => W.cell? ⟨b, 1, none⟩ = some (.slice (some ⟨g, off, none⟩) st.pr.length pc) ∧ W.cell? ⟨gb, 2, none⟩ = some (.int .i64 xa)) (by kernel_rfl) (by kernel_rfl) (S5.out _ (.inl rfl)) (fun hHeld => ?_)
      simp only [List.take_succ_cons, List.take_zero]
      refine wpAnyH_take (i := 0) (oi := _) (v := ?_) rfl (by kernel_rfl) (by kernel_rfl) (by kernel_rfl) (fun _ _ _ h => h) (Or.inl ⟨by rfl, ?_⟩) (by assumption) ?_
      case refine_2 => intro w hSw; (try dsimp only at hSw); go_simp; try with_reducible rfl
      try simp only [Act.put, List.setIfInBounds_toArray, List.set_cons_zero, List.set_cons_succ]
      refine wpAnyH_take (i := 1) (oi := _) (v := ?_) rfl (by kernel_rfl) (by kernel_rfl) (by kernel_rfl) (fun _ _ _ h => h) (Or.inl ⟨by rfl, ?_⟩) (by assumption) ?_
      case refine_2 => intro w hSw; (try dsimp only at hSw); go_simp; try with_reducible rfl
      try simp only [Act.put, List.setIfInBounds_toArray, List.set_cons_zero, List.set_cons_succ]
      refine wpAnyH_take (i := 2) (oi := _) (v := ?_) rfl (by kernel_rfl) (by kernel_rfl) (by kernel_rfl) (fun _ _ _ h => h) (Or.inl ⟨by rfl, ?_⟩) (by assumption) ?_
      case refine_2 => intro w hSw; (try dsimp only at hSw); go_simp; try with_reducible rfl
      try simp only [Act.put, List.setIfInBounds_toArray, List.set_cons_zero, List.set_cons_succ]
      refine wpAnyH_take (i := 3) (oi := _) (v := ?_) rfl (by kernel_rfl) (by kernel_rfl) (by kernel_rfl) (fun _ _ _ h => h) (Or.inl ⟨by rfl, ?_⟩) (by assumption) ?_
      case refine_2 => intro w hSw; (try dsimp only at hSw); go_simp; try with_reducible rfl
      try simp only [Act.put, List.setIfInBounds_toArray, List.set_cons_zero, List.set_cons_succ]
      refine wpAnyH_take (i := 4) (oi := _) (v := ?_) rfl (by kernel_rfl) (by kernel_rfl) (by kernel_rfl) (fun _ _ _ h => h) (Or.inl ⟨by rfl, ?_⟩) (by assumption) ?_
      case refine_2 => intro w hSw; (try dsimp only at hSw); go_simp; try with_reducible rfl
      try simp only [Act.put, List.setIfInBounds_toArray, List.set_cons_zero, List.set_cons_succ]
      refine wpAnyH_take (i := 5) (oi := _) (v := ?_) rfl (by kernel_rfl) (by kernel_rfl) (by kernel_rfl) (fun _ _ _ h => h) (Or.inl ⟨by rfl, ?_⟩) (by assumption) ?_
      case refine_2 => intro w hSw; (try dsimp only at hSw); go_simp; try with_reducible rfl
      try simp only [Act.put, List.setIfInBounds_toArray, List.set_cons_zero, List.set_cons_succ]
      refine wpAnyH_take (i := 6) (oi := _) (v := ?_) rfl (by kernel_rfl) (by kernel_rfl) (by kernel_rfl) (fun _ _ _ h => h) (Or.inl ⟨by rfl, ?_⟩) (by assumption) ?_
      case refine_2 => intro w hSw; (try dsimp only at hSw); go_simp; try with_reducible rfl
      try simp only [Act.put, List.setIfInBounds_toArray, List.set_cons_zero, List.set_cons_succ]
      refine wpAnyH_take (i := 7) (oi := _) (v := ?_) rfl (by kernel_rfl) (by kernel_rfl) (by kernel_rfl) (fun _ _ _ h => h) (Or.inl ⟨by rfl, ?_⟩) (by assumption) ?_
      case refine_2 => intro w hSw; (try dsimp only at hSw); go_simp; try with_reducible rfl
      try simp only [Act.put, List.setIfInBounds_toArray, List.set_cons_zero, List.set_cons_succ]
      refine wpAnyH_ready (rs := [8]) (by kernel_rfl) (by simp) ?_
      refine AllReadyH.cons (o := _) rfl (fun K hK => ?_) AllReadyH.nil
      go_simp
      refine (HBP.out _).mono ?_
      rintro r w5' ⟨rfl, hw5'⟩
      rw [← hw5] at hw5'
      subst hw5'
      try clear hw5
      try simp only []
      refine hK.out _ _ (S5.out _ (.inr rfl)) (fun hHeld => ?_)
      clear hK K
      try simp only [Act.put, List.setIfInBounds_toArray, List.set_cons_zero, List.set_cons_succ]
      refine wpAnyH_done (by kernel_rfl) ?_ _
      refine Ends.last rfl (fun K hK => ?_)
      refine Am.step_copy_eq rfl (.tmp 40) (.tmp 42) 34 9 rfl HK.out rfl rfl ?_
      refine hK.out _ _ ?_
      clear hK K
      go_wp2
      go_roundw
      case rel => exact ⟨k + 1, Am.put2 p xa a, by go_num, KL.out, I6.out⟩
      case measure =>
        have := KL.out
        simp [Go.Lib.intOf]
        omega
end Go.Proofs.YteoaaogfloljlaaDoor

/- Package asm: what catches a reader that gave up, by its contracts. -/
namespace Go.Proofs.YteoaaogfloljlaaDoor
open Go.RowKit Go.Lib
set_option linter.unusedVariables false

theorem Am.und18 : Array.replicate 18 undef = #[undef, undef, undef, undef, undef, undef, undef, undef, undef, undef, undef, undef, undef, undef, undef, undef, undef, undef] := by rfl
theorem Am.catch_idle (q0 q1 q2 : Nat) (w : World) : CallsD Tryd.prog 18 #[.pointer (some ⟨q0, 0, none⟩), .pointer (some ⟨q1, 0, none⟩), .pointer (some ⟨q2, 0, none⟩)] .returning w fun e u' w' => e = .returned (.tuple #[]) ∧ u' = .returning ∧ w' = w := by
  refine callsD_of_wpS Tryd.func18 rfl fun c₀ cs hu => ?_
  apply wpS_seq
  apply wpS_region
  simp [wpOpsS, go_sem, recoverD, hu, Tryd.ntmps18, Exit.thenS]
  simp only [Am.und18, List.setIfInBounds_toArray, List.set_cons_succ, List.set_cons_zero, List.append_toArray, List.cons_append, List.nil_append]
  refine wpS_of_wp ?_
  go_wp2
  cases c₀
  simp_all [bodyPostS, results, Tryd.results18]
theorem Am.run_is (ln e : Int) (W : World) : (Instr.typeAssert (Value.iface 55 (Value.agg #[Value.int IntKind.i64 ln, Value.int IntKind.i64 e])) 20 55 true).run Tryd.prog W = .ok (.tuple #[.agg #[.int .i64 ln, .int .i64 e], .bool true]) W := by kernel_rfl
set_option maxRecDepth 20000 in
set_option maxHeartbeats 1600000 in
theorem Am.catch_dies (q0 q1 q2 : Nat) (ln e : Int) (w : World) (v0 v1 v2 : Value) (h0 : w.cell? ⟨q0, 0, none⟩ = some v0) (h1 : w.cell? ⟨q1, 0, none⟩ = some v1) (h2 : w.cell? ⟨q2, 0, none⟩ = some v2) (f0 : w.frozen? ⟨q0, 0, none⟩ = false) (f1 : w.frozen? ⟨q1, 0, none⟩ = false) (f2 : w.frozen? ⟨q2, 0, none⟩ = false) (n1 : q0 ≠ q1) (n2 : q0 ≠ q2) (n3 : q1 ≠ q2) :
    CallsD Tryd.prog 18 #[.pointer (some ⟨q0, 0, none⟩), .pointer (some ⟨q1, 0, none⟩), .pointer (some ⟨q2, 0, none⟩)] (.panicking (Am.chn ln e)) w fun r u' w' => r = .returned (.tuple #[]) ∧ u' = .panicking [{ v := .iface 55 (.agg #[.int .i64 ln, .int .i64 e]), recovered := true }] ∧ w'.cell? ⟨q0, 0, none⟩ = some (.pointer none) ∧ w'.cell? ⟨q1, 0, none⟩ = some (.int .i64 ln) ∧ w'.cell? ⟨q2, 0, none⟩ = some (.int .i64 e) ∧ Keeps (fun i => i = q0 ∨ i = q1 ∨ i = q2) w w' := by
  have l0 : q0 < w.heap.size := World.block_lt_of_cell? w _ h0
  have l1 : q1 < w.heap.size := World.block_lt_of_cell? w _ h1
  have l2 : q2 < w.heap.size := World.block_lt_of_cell? w _ h2
  refine callsD_of_wpS Tryd.func18 rfl fun c₀ cs hu => ?_
  apply wpS_seq
  apply wpS_region
  simp [wpOpsS, go_sem, recoverD, hu, Tryd.ntmps18, Exit.thenS, Am.chn]
  simp only [Am.und18, List.setIfInBounds_toArray, List.set_cons_succ, List.set_cons_zero, List.append_toArray, List.cons_append, List.nil_append]
  refine wpS_of_wp ?_
  have hta := fun W : World => Am.run_is ln e W
  obtain ⟨w1, hw1⟩ : ∃ W, W = w.alloc (.cells #[.int .i64 ln, .int .i64 e] 55) := ⟨_, rfl⟩
  have B1 := Lib.hid (show Blk w1 w.heap.size 55 #[.int .i64 ln, .int .i64 e] from by rw [hw1]; exact Blk.new _ _ _)
  have g1 : w.grownBy w1 none := by rw [hw1]; exact only_alloc (only_refl _ _) _
  have G1 := Lib.hid g1
  have C1 := Lib.hid (show (w1.cell? ⟨q0, 0, none⟩ = some v0 ∧ w1.cell? ⟨q1, 0, none⟩ = some v1 ∧ w1.cell? ⟨q2, 0, none⟩ = some v2) from ⟨by rw [Am.kc g1 l0]; exact h0, by rw [Am.kc g1 l1]; exact h1, by rw [Am.kc g1 l2]; exact h2⟩)
  have hfz : ∀ q, q < w.heap.size → w1.frozen? ⟨q, 0, none⟩ = w.frozen? ⟨q, 0, none⟩ := fun q hq => by
    have := g1.block q hq (by simp)
    simp only [World.frozen?, this]
  have F1 := Lib.hid (show w1.frozen? ⟨q0, 0, none⟩ = false ∧ w1.frozen? ⟨q1, 0, none⟩ = false ∧ w1.frozen? ⟨q2, 0, none⟩ = false from ⟨by rw [hfz q0 l0]; exact f0, by rw [hfz q1 l1]; exact f1, by rw [hfz q2 l2]; exact f2⟩)
  have HQ := Lib.hid (show q0 < w.heap.size ∧ q1 < w.heap.size ∧ q2 < w.heap.size from ⟨l0, l1, l2⟩)
  clear h0 h1 h2 f0 f1 f2 g1 l0 l1 l2 hfz
  go_upto_region 3 with (fail)
  rw [← hw1]
  clear hw1
  generalize hgb : w.heap.size = gb at *
  go_upto_region 5 with (fail)
  obtain ⟨c0, c1, c2⟩ := C1.out
  obtain ⟨f0, f1, f2⟩ := F1.out
  have m1 : ¬ gb = q0 := by have := HQ.out; omega
  have m2 : ¬ gb = q1 := by have := HQ.out; omega
  have m3 : ¬ gb = q2 := by have := HQ.out; omega
  have x1 : ¬ q1 = q0 := fun e => n1 e.symm
  have x2 : ¬ q2 = q0 := fun e => n2 e.symm
  have x3 : ¬ q2 = q1 := fun e => n3 e.symm
  have SX := Lib.hid (show ∀ W, W = w1.drew ∨ W = (w1.setCell ⟨q0, 0, none⟩ (.pointer none)).drew ∨ W = ((w1.setCell ⟨q0, 0, none⟩ (.pointer none)).setCell ⟨q1, 0, none⟩ (.int .i64 ln)).drew ∨ W = (((w1.setCell ⟨q0, 0, none⟩ (.pointer none)).setCell ⟨q1, 0, none⟩ (.int .i64 ln)).setCell ⟨q2, 0, none⟩ (.int .i64 e)).drew → W.cell? ⟨gb, 0, none⟩ = some (.int .i64 ln) ∧ W.cell? ⟨gb, 1, none⟩ = some (.int .i64 e) from fun W hW => by
    rcases hW with rfl | rfl | rfl | rfl
    · exact ⟨B1.out.cell 0, B1.out.cell 1⟩
    · have q := B1.out.far (p := ⟨q0, 0, none⟩) (fun e => m1 e) (.pointer none)
      exact ⟨q.cell 0, q.cell 1⟩
    · have q := (B1.out.far (p := ⟨q0, 0, none⟩) (fun e => m1 e) (.pointer none)).far (p := ⟨q1, 0, none⟩) (fun e => m2 e) (.int .i64 ln)
      exact ⟨q.cell 0, q.cell 1⟩
    · have q := ((B1.out.far (p := ⟨q0, 0, none⟩) (fun e => m1 e) (.pointer none)).far (p := ⟨q1, 0, none⟩) (fun e => m2 e) (.int .i64 ln)).far (p := ⟨q2, 0, none⟩) (fun e => m3 e) (.int .i64 e)
      exact ⟨q.cell 0, q.cell 1⟩)
  have r1 : (w1.setCell ⟨q0, 0, none⟩ (.pointer none)).cell? ⟨q1, 0, none⟩ = some v1 := by rw [World.cell?_setCell_other _ _ _ _ (by intro e; injection e with e; exact x1 e.symm)]; exact c1
  have r2 : ((w1.setCell ⟨q0, 0, none⟩ (.pointer none)).setCell ⟨q1, 0, none⟩ (.int .i64 ln)).cell? ⟨q2, 0, none⟩ = some v2 := by rw [World.cell?_setCell_other _ _ _ _ (by intro e; injection e with e; exact x3 e.symm), World.cell?_setCell_other _ _ _ _ (by intro e; injection e with e; exact x2 e.symm)]; exact c2
  have FIN := Lib.hid (show ∀ W, W = (((w1.setCell ⟨q0, 0, none⟩ (.pointer none)).setCell ⟨q1, 0, none⟩ (.int .i64 ln)).setCell ⟨q2, 0, none⟩ (.int .i64 e)).drew → W.cell? ⟨q0, 0, none⟩ = some (.pointer none) ∧ W.cell? ⟨q1, 0, none⟩ = some (.int .i64 ln) ∧ W.cell? ⟨q2, 0, none⟩ = some (.int .i64 e) ∧ Keeps (fun i => i = q0 ∨ i = q1 ∨ i = q2) w W from fun W hW => by
    subst hW
    refine ⟨?_, ?_, ?_, ?_⟩
    · show (World.setCell _ _ _).cell? _ = _
      rw [World.cell?_setCell_other _ _ _ _ (by intro e; injection e with e; exact n2 e.symm), World.cell?_setCell_other _ _ _ _ (by intro e; injection e with e; exact n1 e.symm), World.cell?_setCell_same _ _ _ c0]
    · show (World.setCell _ _ _).cell? _ = _
      rw [World.cell?_setCell_other _ _ _ _ (by intro e; injection e with e; exact n3 e.symm), World.cell?_setCell_same _ _ _ r1]
    · show (World.setCell _ _ _).cell? _ = _
      rw [World.cell?_setCell_same _ _ _ r2]
    · exact (Keeps.put (p := ⟨q2, 0, none⟩) (Keeps.put (p := ⟨q1, 0, none⟩) (Keeps.put (p := ⟨q0, 0, none⟩) (Keeps.of_only G1.out (fun k hk => by cases hk)) (.inl (.inl rfl)) _) (.inl (.inr (.inl rfl))) _) (.inl (.inr (.inr rfl))) _).drew 1)
  refine wp_region_held_drew (S := fun W => W.cell? ⟨gb, 0, none⟩ = some (.int .i64 ln) ∧ W.cell? ⟨gb, 1, none⟩ = some (.int .i64 e)) (by kernel_rfl) (SX.out _ (.inl rfl)) (fun hHeld => ?_)
  refine wpAnyH_take (i := 0) (oi := _) (v := ?_) rfl (by kernel_rfl) (by kernel_rfl) (by kernel_rfl) (fun _ _ _ h => h) (Or.inl ⟨by rfl, ?_⟩) (by assumption) ?_
  case refine_2 => intro w hSw; (try dsimp only at hSw); go_simp; try with_reducible rfl
  try simp only [Act.put, List.setIfInBounds_toArray, List.set_cons_zero, List.set_cons_succ]
  refine wpAnyH_take (i := 1) (oi := _) (v := ?_) rfl (by kernel_rfl) (by kernel_rfl) (by kernel_rfl) (fun _ _ _ h => h) (Or.inl ⟨by rfl, ?_⟩) (by assumption) ?_
  case refine_2 => intro w hSw; (try dsimp only at hSw); go_simp; try with_reducible rfl
  try simp only [Act.put, List.setIfInBounds_toArray, List.set_cons_zero, List.set_cons_succ]
  refine wpAnyH_take (i := 2) (oi := _) (v := ?_) rfl (by kernel_rfl) (by kernel_rfl) (by kernel_rfl) (fun _ _ _ h => h) (Or.inl ⟨by rfl, ?_⟩) (by assumption) ?_
  case refine_2 => intro w hSw; (try dsimp only at hSw); go_simp; try with_reducible rfl
  try simp only [Act.put, List.setIfInBounds_toArray, List.set_cons_zero, List.set_cons_succ]
  refine wpAnyH_take (i := 3) (oi := _) (v := ?_) rfl (by kernel_rfl) (by kernel_rfl) (by kernel_rfl) (fun _ _ _ h => h) (Or.inl ⟨by rfl, ?_⟩) (by assumption) ?_
  case refine_2 => intro w hSw; (try dsimp only at hSw); go_simp; try with_reducible rfl
  try simp only [Act.put, List.setIfInBounds_toArray, List.set_cons_zero, List.set_cons_succ]
  refine wpAnyH_ready (rs := [4]) (by kernel_rfl) (by simp) ?_
  refine AllReadyH.cons (o := _) rfl (fun K hK => ?_) AllReadyH.nil
  go_simp
  refine hK.out _ _ (SX.out _ (.inr (.inl rfl))) (fun hHeld => ?_)
  clear hK K
  try simp only [Act.put, List.setIfInBounds_toArray, List.set_cons_zero, List.set_cons_succ]
  refine wpAnyH_ready (rs := [5]) (by kernel_rfl) (by simp) ?_
  refine AllReadyH.cons (o := _) rfl (fun K hK => ?_) AllReadyH.nil
  go_simp
  refine hK.out _ _ (SX.out _ (.inr (.inr (.inl rfl)))) (fun hHeld => ?_)
  clear hK K
  try simp only [Act.put, List.setIfInBounds_toArray, List.set_cons_zero, List.set_cons_succ]
  refine wpAnyH_ready (rs := [6]) (by kernel_rfl) (by simp) ?_
  refine AllReadyH.cons (o := _) rfl (fun K hK => ?_) AllReadyH.nil
  go_simp
  refine hK.out _ _ (SX.out _ (.inr (.inr (.inr rfl)))) (fun hHeld => ?_)
  clear hK K
  try simp only [Act.put, List.setIfInBounds_toArray, List.set_cons_zero, List.set_cons_succ]
  refine wpAnyH_done (by kernel_rfl) ?_ _
  go_wp2
  obtain ⟨y0, y1, y2, y3⟩ := FIN.out _ rfl
  exact ⟨rfl, _, rfl, .tuple #[], by simp [results, Tryd.results18], rfl, rfl, y0, y1, y2, y3⟩
end Go.Proofs.YteoaaogfloljlaaDoor

/- Package asm: a text read, by its contract. -/
namespace Go.Proofs.YteoaaogfloljlaaDoor
open Go.RowKit Go.Lib
set_option linter.unusedVariables false

/-- What a text makes: a reader, or why it is wrong, and at which line. -/
def Am.rdP (w : World) (z : Int × Nat × List UInt8 × List (List UInt8 × Nat)) (r : Ending) (w' : World) : Prop :=
  Below w.heap.size w w' ∧ ((z.1 = 0 ∧ ∃ b ln st F, r = .returned (.tuple #[.pointer (some ⟨b, 0, none⟩), .int .i64 0, .int .i64 0]) ∧ Am.Rd w' b ln st F ∧ st.pr = z.2.2.1 ∧ st.lb = z.2.2.2) ∨
    (z.1 ≠ 0 ∧ r = .returned (.tuple #[.pointer none, .int .i64 z.2.1, .int .i64 z.1])))
theorem Am.txP_cases {w w' : World} {b : Nat} {F : Nat → Prop} {z : Int × Nat × Am.St} {r : Ending} (h : Am.txP w b F z r w') : (z.1 = 0 ∧ r = .returned (.tuple #[]) ∧ ∃ ln' F', Am.Rd w' b ln' z.2.2 F' ∧ Am.Nx w w' F F') ∨ (z.1 ≠ 0 ∧ r = .panicked (Am.chn z.2.1 z.1) ∧ Keeps F w w') := by
  unfold Am.txP at h
  by_cases hz : z.1 = 0
  · rw [if_pos hz] at h; exact .inl ⟨hz, h.1, h.2⟩
  · rw [if_neg hz] at h; exact .inr ⟨hz, h.1, h.2⟩
theorem Am.fuP_cases {w w' : World} {b : Nat} {F : Nat → Prop} {st : Am.St} {z : Int × Nat × List UInt8} {r : Ending} (h : Am.fuP w b F st z r w') : (z.1 = 0 ∧ r = .returned (.tuple #[]) ∧ ∃ F' ln', Am.Rd w' b ln' ⟨z.2.2, st.lb, st.ws⟩ F' ∧ Am.Nx w w' F F') ∨ (z.1 ≠ 0 ∧ r = .panicked (Am.chn z.2.1 z.1) ∧ Keeps F w w') := by
  unfold Am.fuP at h
  by_cases hz : z.1 = 0
  · rw [if_pos hz] at h; exact .inl ⟨hz, h.1, h.2⟩
  · rw [if_neg hz] at h; exact .inr ⟨hz, h.1, h.2⟩
theorem Am.go_le : ∀ (l : List (List UInt8)) (i : Nat) (st : Am.St), st.pr.length ≤ 1024 → (Am.go i l st).1 = 0 → (Am.go i l st).2.2.pr.length ≤ 1024 ∧ (Am.go i l st).2.2.ws.length ≤ st.ws.length + l.length
  | [], i, st, h, _ => ⟨h, Nat.le_refl _⟩
  | x :: r, i, st, h, h0 => by
    unfold Am.go at h0 ⊢
    by_cases q : (Am.one (i + 1) (Am.line x) st).1 = 0
    · rw [if_pos q] at h0 ⊢
      obtain ⟨p1, _, p3⟩ := Am.one_le q h
      obtain ⟨a, b⟩ := Am.go_le r (i + 1) _ p1 h0
      exact ⟨a, by rw [List.length_cons]; omega⟩
    · rw [if_neg q] at h0
      exact absurd h0 q
/-- A reader as1 it was made. -/
theorem Am.rd_new {w : World} {b m : Nat} (hb : Blk w b 43 #[.int .i64 0, .slice none 0 0, .slice none 0 0, .map (some m), .slice none 0 0]) (hm : Am.MapL w m []) (hne : m ≠ b) : Am.Rd w b 0 Am.st0 (fun i => i = b ∨ i = m) :=
  ⟨.slice none 0 0, .slice none 0 0, .slice none 0 0, m, ⟨hb, RowZ.nil 1 w, RowZ.nil 2 w, RowZ.nil 3 w, hm, hne, fun i hi => (by cases hi), fun i hi => (by cases hi), fun i hi => (by cases hi)⟩, fun i hi => by
    rcases hi with e | e | e | e | e
    · exact .inl e
    · exact .inr e
    · cases e
    · cases e
    · cases e⟩
theorem Am.Rd.far {w w1 : World} {b ln q : Nat} {st : Am.St} {F : Nat → Prop} (h : Am.Rd w b ln st F) (g : w.grownBy w1 (some q)) (hq : ¬ F q) : Am.Rd w1 b ln st F := by
  obtain ⟨pv, lv, wv, m, k, hF⟩ := h
  have hn : ∀ i, Am.ft b m pv lv wv i → i ≠ q := fun i hi e => hq (hF q (e ▸ hi))
  exact ⟨pv, lv, wv, m, ⟨k.blk.only g (fun e => by injection e with e; exact hn b (.inl rfl) e), k.pr.only g (Am.dis fun i hi e => (by injection e with e; exact hn i (.inr (.inr (.inl hi))) e.symm)), k.lb.only g (Am.dis fun i hi e => (by injection e with e; exact hn i (.inr (.inr (.inr (.inl hi)))) e.symm)), k.ws.only g (Am.dis fun i hi e => (by injection e with e; exact hn i (.inr (.inr (.inr (.inr hi)))) e.symm)), k.mp.only g (fun e => by injection e with e; exact hn m (.inr (.inl rfl)) e), k.n1, k.n2, k.n3, k.n4⟩, hF⟩
/-- The three results' variables, the map and the reader, as1 they were made. -/
structure Am.Rw (w w5 : World) (q0 q1 q2 m b : Nat) : Prop where
  g : w.grownBy w5 none
  c0 : Blk w5 q0 36 #[.pointer (some ⟨b, 0, none⟩)]
  c1 : Blk w5 q1 3 #[.int .i64 0]
  c2 : Blk w5 q2 28 #[.int .i64 0]
  rd : Am.Rd w5 b 0 Am.st0 (fun i => i = b ∨ i = m)
  lo : w.heap.size ≤ q0
  n1 : q0 < q1
  n2 : q1 < q2
  n3 : q2 < m
  n4 : m < b
  n5 : b < w5.heap.size
theorem Am.rw_new (w : World) : Am.Rw w (((((w.alloc (.cells #[.pointer (some ⟨w.heap.size + 1 + 1 + 1 + 1, 0, none⟩)] 36)).alloc (.cells #[.int .i64 0] 3)).alloc (.cells #[.int .i64 0] 28)).alloc (.map #[] 0)).alloc (.cells #[.int .i64 0, .slice none 0 0, .slice none 0 0, .map (some (w.heap.size + 1 + 1 + 1)), .slice none 0 0] 43)) w.heap.size (w.heap.size + 1) (w.heap.size + 1 + 1) (w.heap.size + 1 + 1 + 1) (w.heap.size + 1 + 1 + 1 + 1) := by
  have k0 := Blk.new w 36 #[.pointer (some ⟨w.heap.size + 1 + 1 + 1 + 1, 0, none⟩)]
  generalize hA : w.alloc (.cells #[.pointer (some ⟨w.heap.size + 1 + 1 + 1 + 1, 0, none⟩)] 36) = A at *
  have sA : A.heap.size = w.heap.size + 1 := by rw [← hA]; simp
  have k1 := Blk.new A 3 #[.int .i64 0]
  generalize hB : A.alloc (.cells #[.int .i64 0] 3) = B at *
  have sB : B.heap.size = w.heap.size + 1 + 1 := by rw [← hB]; simp [sA]
  have k2 := Blk.new B 28 #[.int .i64 0]
  generalize hC : B.alloc (.cells #[.int .i64 0] 28) = C at *
  have sC : C.heap.size = w.heap.size + 1 + 1 + 1 := by rw [← hC]; simp [sB]
  have k3 := Am.MapL.new C
  generalize hD : C.alloc (.map #[] 0) = D at *
  have sD : D.heap.size = w.heap.size + 1 + 1 + 1 + 1 := by rw [← hD]; simp [sC]
  have k4 := Blk.new D 43 #[.int .i64 0, .slice none 0 0, .slice none 0 0, .map (some (w.heap.size + 1 + 1 + 1)), .slice none 0 0]
  rw [sA] at k1
  rw [sB] at k2
  rw [sC] at k3
  rw [sD] at k4
  have gA : w.grownBy A none := by rw [← hA]; exact only_alloc (only_refl _ _) _
  have gB : A.grownBy B none := by rw [← hB]; exact only_alloc (only_refl _ _) _
  have gC : B.grownBy C none := by rw [← hC]; exact only_alloc (only_refl _ _) _
  have gD : C.grownBy D none := by rw [← hD]; exact only_alloc (only_refl _ _) _
  have gE : D.grownBy (D.alloc (.cells #[.int .i64 0, .slice none 0 0, .slice none 0 0, .map (some (w.heap.size + 1 + 1 + 1)), .slice none 0 0] 43)) none := only_alloc (only_refl _ _) _
  have gCE := only_trans gD gE
  have gBE := only_trans gC gCE
  exact ⟨only_trans gA (only_trans gB gBE), k0.only (only_trans gB gBE) (by simp), k1.only gBE (by simp), k2.only gCE (by simp), Am.rd_new k4 (k3.only gE (by simp)) (by omega), Nat.le_refl _, by omega, by omega, by omega, by omega, by simp [sD]⟩
/-- What is kept of the results' variables. -/
theorem Am.Rw.box {w w5 W : World} {q0 q1 q2 m b : Nat} (h : Am.Rw w w5 q0 q1 q2 m b) (k : Keeps (fun i => i = b ∨ i = m) w5 W) : Blk W q0 36 #[.pointer (some ⟨b, 0, none⟩)] ∧ Blk W q1 3 #[.int .i64 0] ∧ Blk W q2 28 #[.int .i64 0] := by
  have := h.n1
  have := h.n2
  have := h.n3
  have := h.n4
  exact ⟨h.c0.keeps k (by omega), h.c1.keeps k (by omega), h.c2.keeps k (by omega)⟩
theorem Am.Rw.below {w w5 W : World} {q0 q1 q2 m b : Nat} (h : Am.Rw w w5 q0 q1 q2 m b) (k : Keeps (fun i => i = b ∨ i = m) w5 W) : Below w.heap.size w W := by
  have := h.n1
  have := h.n2
  have := h.n3
  have := h.n4
  have := h.lo
  exact (below_of_only h.g (Nat.le_refl _) (by simp)).trans (k.below h.g.size (fun i hi e => by omega))
theorem Am.Rw.dead {w w5 W V : World} {q0 q1 q2 m b : Nat} (h : Am.Rw w w5 q0 q1 q2 m b) (k : Keeps (fun i => i = b ∨ i = m) w5 W) (k2 : Keeps (fun i => i = q0 ∨ i = q1 ∨ i = q2) W V) : Below w.heap.size w V := by
  have := h.n1
  have := h.n2
  have := h.lo
  have h1 := h.below k
  exact h1.trans (k2.below h1.size (fun i hi e => by omega))
set_option maxRecDepth 20000 in
set_option maxHeartbeats 3200000 in
theorem Am.read_any (s : ByteArray) (hs : s.size ≤ 65536) (w : World) (hg : Am.Gl w) : Calls Tryd.prog 10 #[.string s] w (Am.rdP w (Am.read s.data.toList)) := by
  have hmf : ∀ (fn : Fn) (first cap : Array Value) (w : World), (Instr.makeFunc fn first cap).run Tryd.prog w = .ok (.func fn first cap) w := fun _ _ _ _ => rfl
  have i1 : ¬ (65536 : Int) < (s.size : Int) := by omega
  go_enter_defers Tryd.func10, Tryd.ntmps10
  have hmm : ∀ W : World, (Instr.makeMap 40 none).run Tryd.prog W = .ok (.map (some W.heap.size)) (W.alloc (.map #[] 0)) := fun W => by rfl
  obtain ⟨w5, hw5⟩ : ∃ W, W = (((((w.alloc (.cells #[.pointer (some ⟨w.heap.size + 1 + 1 + 1 + 1, 0, none⟩)] 36)).alloc (.cells #[.int .i64 0] 3)).alloc (.cells #[.int .i64 0] 28)).alloc (.map #[] 0)).alloc (.cells #[.int .i64 0, .slice none 0 0, .slice none 0 0, .map (some (w.heap.size + 1 + 1 + 1)), .slice none 0 0] 43)) := ⟨_, rfl⟩
  have RW := Lib.hid (Am.rw_new w)
  rw [← hw5] at RW
  have GL5 := Lib.hid (hg.grown RW.out.g)
  have HG8 := Lib.hid hg.sz
  have HS := Lib.hid hs
  clear hg hs
  go_upto_region 5 with (fail)
  rw [← hw5]
  clear hw5 hmm
  generalize hq4 : w.heap.size + 1 + 1 + 1 + 1 = b at RW ⊢
  generalize hq3 : w.heap.size + 1 + 1 + 1 = m at RW ⊢
  generalize hq2 : w.heap.size + 1 + 1 = q2 at RW ⊢
  generalize hq1 : w.heap.size + 1 = q1 at RW ⊢
  generalize hq0 : w.heap.size = q0 at RW ⊢
  clear hq4 hq3 hq2 hq1 hq0
  have HT := Lib.hid (Am.text_any b 0 Am.st0 (fun i => i = b ∨ i = m) s w5 RW.out.rd GL5.out (fun i hi => by have := HG8.out; have := RW.out.lo; have := RW.out.n1; have := RW.out.n2; have := RW.out.n3; have := RW.out.n4; omega) (fun i hi => by have := RW.out.n4; have := RW.out.n5; omega) HS.out (by show 0 ≤ 1024; omega) ⟨rfl, rfl⟩)
  have HRE := Lib.hid (show ¬ 65536 < s.data.toList.length from by rw [Am.len]; have := HS.out; omega)
  have HWS := Lib.hid (show Am.WsOk (Am.go 0 (Am.spl 10 s.data.toList) Am.st0).2.2 from Am.WsOk.go _ _ _ (fun x hx => by cases hx))
  have HLE := Lib.hid (show (Am.go 0 (Am.spl 10 s.data.toList) Am.st0).1 = 0 → (Am.go 0 (Am.spl 10 s.data.toList) Am.st0).2.2.pr.length ≤ 1024 ∧ (Am.go 0 (Am.spl 10 s.data.toList) Am.st0).2.2.ws.length ≤ 100000 from fun h0 => by
    obtain ⟨x, y⟩ := Am.go_le (Am.spl 10 s.data.toList) 0 Am.st0 (by show 0 ≤ 1024; omega) h0
    refine ⟨x, ?_⟩
    rw [Am.spl_len] at y
    have := List.count_le_length (a := (10 : UInt8)) (l := s.data.toList)
    have := HRE.out
    have e0 : Am.st0.ws.length = 0 := rfl
    rw [e0] at y
    omega)
  have hrd0 : Am.read s.data.toList = if (Am.go 0 (Am.spl 10 s.data.toList) Am.st0).1 = 0 then
    (if (Am.ful (Am.go 0 (Am.spl 10 s.data.toList) Am.st0).2.2.lb (Am.go 0 (Am.spl 10 s.data.toList) Am.st0).2.2.ws (Am.go 0 (Am.spl 10 s.data.toList) Am.st0).2.2.pr).1 = 0 then
      (0, 0, (Am.ful (Am.go 0 (Am.spl 10 s.data.toList) Am.st0).2.2.lb (Am.go 0 (Am.spl 10 s.data.toList) Am.st0).2.2.ws (Am.go 0 (Am.spl 10 s.data.toList) Am.st0).2.2.pr).2.2, (Am.go 0 (Am.spl 10 s.data.toList) Am.st0).2.2.lb)
     else ((Am.ful (Am.go 0 (Am.spl 10 s.data.toList) Am.st0).2.2.lb (Am.go 0 (Am.spl 10 s.data.toList) Am.st0).2.2.ws (Am.go 0 (Am.spl 10 s.data.toList) Am.st0).2.2.pr).1, (Am.ful (Am.go 0 (Am.spl 10 s.data.toList) Am.st0).2.2.lb (Am.go 0 (Am.spl 10 s.data.toList) Am.st0).2.2.ws (Am.go 0 (Am.spl 10 s.data.toList) Am.st0).2.2.pr).2.1, [], []))
  else ((Am.go 0 (Am.spl 10 s.data.toList) Am.st0).1, (Am.go 0 (Am.spl 10 s.data.toList) Am.st0).2.1, [], []) := by
    unfold Am.read
    rw [if_neg HRE.out]
  have HRD := Lib.hid hrd0
  clear hrd0 HRE
  generalize Am.read s.data.toList = Z at *
  generalize Am.go 0 (Am.spl 10 s.data.toList) Am.st0 = G at *
  obtain ⟨ge, gl, gs⟩ := G
  have c0 : w5.cell? ⟨q0, 0, none⟩ = some (.pointer (some ⟨b, 0, none⟩)) := RW.out.c0.cell 0
  have DEAD := Lib.hid (fun (W : World) (ln e : Int) (k : Keeps (fun i => i = b ∨ i = m) w5 W) => (show CallsD Tryd.prog 18 #[.pointer (some ⟨q0, 0, none⟩), .pointer (some ⟨q1, 0, none⟩), .pointer (some ⟨q2, 0, none⟩)] (.panicking (Am.chn ln e)) W fun r u' w' => r = .returned (.tuple #[]) ∧ u' = .panicking [{ v := .iface 55 (.agg #[.int .i64 ln, .int .i64 e]), recovered := true }] ∧ w'.cell? ⟨q0, 0, none⟩ = some (.pointer none) ∧ w'.cell? ⟨q1, 0, none⟩ = some (.int .i64 ln) ∧ w'.cell? ⟨q2, 0, none⟩ = some (.int .i64 e) ∧ Keeps (fun i => i = q0 ∨ i = q1 ∨ i = q2) W w' from by
    obtain ⟨k0, k1, k2⟩ := RW.out.box k
    have := RW.out.n1
    have := RW.out.n2
    exact Am.catch_dies q0 q1 q2 ln e W _ _ _ (k0.cell 0) (k1.cell 0) (k2.cell 0) (k0.free 0) (k1.free 0) (k2.free 0) (by omega) (by omega) (by omega)))
  go_upto_region 6 with (first
    | (go_at_call 19; (with_reducible refine HT.out.mono ?_); rintro r w6 hp; rcases Am.txP_cases hp with ⟨z0, rfl, ln', F', r1, r2⟩ | ⟨z0, rfl, r1⟩ <;> clear hp))
  · have hb6 := RW.out.box r2.1
    have c6 : w6.cell? ⟨q0, 0, none⟩ = some (.pointer (some ⟨b, 0, none⟩)) := hb6.1.cell 0
    have HFU := Lib.hid (Am.fulfil_any b ln' gs F' w6 r1 HWS.out (HLE.out z0).1 (HLE.out z0).2)
    have N6 := Lib.hid r2
    have Z0 := Lib.hid (show ge = 0 from z0)
    clear c0 r1 r2 hb6 z0
    go_upto_region 7 with (first
      | (go_at_call 20; (with_reducible refine HFU.out.mono ?_); rintro r w7 hp; rcases Am.fuP_cases hp with ⟨t0, rfl, F7, ln7, r1, r2⟩ | ⟨t0, rfl, r1⟩ <;> clear hp))
    · have N7 := Lib.hid (N6.out.trans r2)
      have R7 := Lib.hid r1
      have Y0 := Lib.hid t0
      obtain ⟨k0, k1, k2⟩ := RW.out.box N7.out.1
      have p0 := k0.cell 0
      have p1 := k1.cell 0
      have p2 := k2.cell 0
      have f0 := k0.free 0
      have f1 := k1.free 0
      have f2 := k2.free 0
      have NN := Lib.hid (show q0 < q1 ∧ q1 < q2 ∧ q2 < m ∧ m < b ∧ b < w5.heap.size ∧ w.heap.size ≤ q0 from ⟨RW.out.n1, RW.out.n2, RW.out.n3, RW.out.n4, RW.out.n5, RW.out.lo⟩)
      have e1 : ¬ q1 = q0 := by have := NN.out; omega
      have e2 : ¬ q2 = q0 := by have := NN.out; omega
      have e3 : ¬ q2 = q1 := by have := NN.out; omega
      have e4 : ¬ q0 = q1 := by have := NN.out; omega
      have e5 : ¬ q0 = q2 := by have := NN.out; omega
      have e6 : ¬ q1 = q2 := by have := NN.out; omega
      have HK := Lib.hid (And.intro k0 (And.intro k1 k2))
      have NF := Lib.hid (show ¬ F7 q0 ∧ ¬ F7 q1 ∧ ¬ F7 q2 from by
        have hh : ∀ i, i < m → ¬ F7 i := fun i hi e => by
          have := NN.out
          rcases N7.out.2 i e with (h | h) | h <;> omega
        have := NN.out
        exact ⟨hh q0 (by omega), hh q1 (by omega), hh q2 (by omega)⟩)
      clear k0 k1 k2 c6 r1 r2 t0
      go_wp2
      obtain ⟨w8, hw8⟩ : ∃ W, W = ((w7.setCell ⟨q0, 0, none⟩ (.pointer (some ⟨b, 0, none⟩))).setCell ⟨q1, 0, none⟩ (.int .i64 0)).setCell ⟨q2, 0, none⟩ (.int .i64 0) := ⟨_, rfl⟩
      obtain ⟨k0, k1, k2⟩ := HK.out
      have x0 : w8.cell? ⟨q0, 0, none⟩ = some (.pointer (some ⟨b, 0, none⟩)) := by rw [hw8]; exact (((k0.put 0 _).far (p := ⟨q1, 0, none⟩) e4 _).far (p := ⟨q2, 0, none⟩) e5 _).cell 0
      have x1 : w8.cell? ⟨q1, 0, none⟩ = some (.int .i64 0) := by rw [hw8]; exact (((k1.far (p := ⟨q0, 0, none⟩) e1 _).put 0 _).far (p := ⟨q2, 0, none⟩) e6 _).cell 0
      have x2 : w8.cell? ⟨q2, 0, none⟩ = some (.int .i64 0) := by rw [hw8]; exact (((k2.far (p := ⟨q0, 0, none⟩) e2 _).far (p := ⟨q1, 0, none⟩) e3 _).put 0 _).cell 0
      have R8 := Lib.hid (show Am.Rd w8 b ln7 ⟨(Am.ful gs.lb gs.ws gs.pr).2.2, gs.lb, gs.ws⟩ F7 from by
        rw [hw8]
        exact ((R7.out.far (only_put (only_refl w7 (some q0)) 0 _) NF.out.1).far (only_put (only_refl _ (some q1)) 0 _) NF.out.2.1).far (only_put (only_refl _ (some q2)) 0 _) NF.out.2.2)
      have KK := Lib.hid (show Keeps (fun i => i = q0 ∨ i = q1 ∨ i = q2) w7 w8 from by
        rw [hw8]
        exact Keeps.put (p := ⟨q2, 0, none⟩) (Keeps.put (p := ⟨q1, 0, none⟩) (Keeps.put (p := ⟨q0, 0, none⟩) (Keeps.refl _ _) (.inl (.inl rfl)) _) (.inl (.inr (.inl rfl))) _) (.inl (.inr (.inr rfl))) _)
      rw [← hw8]
      clear hw8 k0 k1 k2 p0 p1 p2 f0 f1 f2 e1 e2 e3 e4 e5 e6
      refine leaves_cons (f := 18) (args := #[.pointer (some ⟨q0, 0, none⟩), .pointer (some ⟨q1, 0, none⟩), .pointer (some ⟨q2, 0, none⟩)]) (by simp) (by simp [go_sem]) ?_
      refine (Am.catch_idle q0 q1 q2 w8).mono ?_
      rintro e u' w9 ⟨rfl, rfl, rfl⟩
      have FIN := Lib.hid (show Am.rdP w Z (.returned (.tuple #[.pointer (some ⟨b, 0, none⟩), .int .i64 0, .int .i64 0])) w9 from ⟨RW.out.dead N7.out.1 KK.out, .inl (by rw [HRD.out, if_pos Z0.out, if_pos Y0.out]; exact ⟨rfl, b, ln7, _, F7, rfl, R8.out, rfl, rfl⟩)⟩)
      simp [Leaves, settle, results, Tryd.results10, go_sem, x0, x1, x2]
      exact FIN.out
    · refine leaves_cons (f := 18) (args := #[.pointer (some ⟨q0, 0, none⟩), .pointer (some ⟨q1, 0, none⟩), .pointer (some ⟨q2, 0, none⟩)]) (by simp) (by simp [go_sem]) ?_
      refine (DEAD.out w7 (Am.ful gs.lb gs.ws gs.pr).2.1 (Am.ful gs.lb gs.ws gs.pr).1 (N6.out.trans (⟨r1, fun i hi => .inl hi⟩ : Am.Nx w6 w7 F' F')).1).mono ?_
      rintro e u' w9 ⟨rfl, rfl, y0, y1, y2, kk⟩
      have FIN := Lib.hid (show Am.rdP w Z (.returned (.tuple #[.pointer none, .int .i64 ((Am.ful gs.lb gs.ws gs.pr).2.1 : Int), .int .i64 (Am.ful gs.lb gs.ws gs.pr).1])) w9 from ⟨RW.out.dead (N6.out.trans (⟨r1, fun i hi => .inl hi⟩ : Am.Nx w6 w7 F' F')).1 kk, .inr (by rw [HRD.out, if_pos Z0.out, if_neg t0]; exact ⟨t0, rfl⟩)⟩)
      simp [Leaves, settle, results, Tryd.results10, go_sem, y0, y1, y2]
      exact FIN.out
  · refine leaves_cons (f := 18) (args := #[.pointer (some ⟨q0, 0, none⟩), .pointer (some ⟨q1, 0, none⟩), .pointer (some ⟨q2, 0, none⟩)]) (by simp) (by simp [go_sem]) ?_
    refine (DEAD.out w6 gl ge r1).mono ?_
    rintro e u' w9 ⟨rfl, rfl, y0, y1, y2, kk⟩
    have FIN := Lib.hid (show Am.rdP w Z (.returned (.tuple #[.pointer none, .int .i64 (gl : Int), .int .i64 ge])) w9 from ⟨RW.out.dead r1 kk, .inr (by rw [HRD.out, if_neg z0]; exact ⟨z0, rfl⟩)⟩)
    simp [Leaves, settle, results, Tryd.results10, go_sem, y0, y1, y2]
    exact FIN.out
end Go.Proofs.YteoaaogfloljlaaDoor

/- Package asm: Assemble, by its contract; the law's own example. -/
namespace Go.Proofs.YteoaaogfloljlaaDoor
open Go.RowKit Go.Lib
set_option linter.unusedVariables false
set_option maxRecDepth 8000

theorem Am.conv_nil (w : World) : (convert 34 9 (.slice none 0 0)).run Tryd.prog w = .ok (.string ⟨#[]⟩) w := by kernel_rfl
theorem Am.run_str {w : World} {v : Value} {l : List UInt8} (h : RowZ 1 w v l.length (byteCells l)) : (convert 34 9 v).run Tryd.prog w = .ok (.string ⟨l.toArray⟩) w := by
  rcases h with ⟨hl, ⟨rfl, h0⟩ | ⟨g, off, cap, rfl, _, _, _, _, hc⟩⟩
  · have : l = [] := List.eq_nil_of_length_eq_zero h0
    subst this
    exact Am.conv_nil w
  · have hr := run_convert_bytes_arg (P := Tryd.prog) w 34 5 Tryd.underlying34 Tryd.underlying5 g off l.length cap (l.map fun b => (b.toNat : Int)) (by simp) (fun i hi => hc i _ (by simp [byteCells, hi])) 9 Tryd.underlying9
    rw [hr, strOfNums_bytes]
theorem Am.read_bad (s : List UInt8) (h : (Am.read s).1 ≠ 0) : (Am.read s).2.2 = ([], []) := by
  unfold Am.read at h ⊢
  split
  · rfl
  · rename_i h1
    rw [if_neg h1] at h
    split
    · rename_i h2
      rw [if_pos h2] at h
      split
      · rename_i h3
        rw [if_pos h3] at h
        exact absurd rfl h
      · rfl
    · rfl
theorem Am.read_ok (s : List UInt8) (h : (Am.read s).1 = 0) : (Am.read s).2.1 = 0 := by
  unfold Am.read at h ⊢
  split
  · rfl
  · rename_i h1
    rw [if_neg h1] at h
    split
    · rename_i h2
      rw [if_pos h2] at h
      split
      · rfl
      · rename_i h3
        rw [if_neg h3] at h
        exact absurd h h3
    · rename_i h2
      rw [if_neg h2] at h
      exact absurd h h2
theorem Am.Gl.below {B : Nat} {w w' : World} (h : Am.Gl w) (k : Below B w w') (hB : 3 ≤ B) : Am.Gl w' := by
  have hs := h.sz
  refine ⟨h.nm.below k (by omega), ?_, by have := k.size; omega⟩
  obtain ⟨q, hq⟩ := h.mx
  exact ⟨q, (k.cell (p := ⟨2, 0, none⟩) (by show 2 < B; omega)).trans hq⟩
set_option maxHeartbeats 1600000 in
theorem Am.assemble_any (s : ByteArray) (hs : s.size ≤ 65536) (w : World) (hg : Am.Gl w) : Calls Tryd.prog 6 #[.string s] w fun r w' => r = .returned (.tuple #[.string ⟨(Am.read s.data.toList).2.2.1.toArray⟩, .int .i64 (Am.read s.data.toList).2.1, .int .i64 (Am.read s.data.toList).1]) ∧ Below w.heap.size w w' := by
  have HR := Lib.hid (Am.read_any s hs w hg)
  have HB := Lib.hid (Am.read_bad s.data.toList)
  have HO := Lib.hid (Am.read_ok s.data.toList)
  generalize Am.read s.data.toList = Z at *
  obtain ⟨ze, zl, zp, zb⟩ := Z
  clear hs hg
  by_cases h0 : ze = 0
  · subst h0
    obtain rfl : zl = 0 := HO.out rfl
    go_enter Tryd.func6, Tryd.ntmps6
    go_wp2_with (first
      | (go_at_call 10; (with_reducible refine HR.out.mono ?_); rintro r w6 hp; rcases hp with ⟨bel, ⟨_, b, ln, st, F, rfl, ⟨pv, lv, wv, m, hR, hF⟩, hpr, hlb⟩ | ⟨h0, _⟩⟩; have c1 : w6.cell? ⟨b, 1, none⟩ = some pv := hR.blk.cell 1; have hcv := Am.run_str hR.pr; have BEL := Lib.hid bel; rw [show st.pr = zp from hpr] at hcv; clear bel hR hF hpr hlb; rotate_left; exact absurd rfl h0))
    go_ret3
    exact ⟨rfl, BEL.out⟩
  · have hb := HB.out h0
    have n1 : (ze == 0) = false := by simpa using h0
    obtain rfl : zp = [] := by injection hb
    go_enter Tryd.func6, Tryd.ntmps6
    go_wp2_with (first
      | (go_at_call 10; (with_reducible refine HR.out.mono ?_); rintro r w6 hp; rcases hp with ⟨bel, ⟨z0, _⟩ | ⟨_, rfl⟩⟩; exact absurd z0 h0))
    go_ret3
    exact ⟨rfl, bel⟩
end Go.Proofs.YteoaaogfloljlaaDoor
