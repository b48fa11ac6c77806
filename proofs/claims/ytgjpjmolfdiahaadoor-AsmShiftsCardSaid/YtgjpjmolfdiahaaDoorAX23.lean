/- Package asm: the labels' places put where their names stand, by their contract. -/
import Derived.Test.YtgjpjmolfdiahaaDoorAX22
namespace Go.Proofs.YtgjpjmolfdiahaaDoor
open Go.RowKit Go.Lib
set_option linter.unusedVariables false

theorem Am.step_copy_eq {P : Program} {ops : Array Oper} {o : Oper} {a : Act} {W : World} {K : Act → World → Prop} {Q : Exit → Act → World → Prop} {E : Prop} (hgd : o.guard = none) (s x : Operand) (t u : TypeId) (ho : o.op = .call { callee := .builtin .copy, args := #[s, x], argTypes := #[t, u] })
    {v xs v' : Value} {w' : World} (hr : (Builtin.copy_ #[t, u] o.type #[v, xs]).run P W = .ok v' w') (hs : a.eval s = v) (hx : a.eval x = xs) (h : K (a.put o.dst v') w') : if Region.wanted o (yielded ops a.tmps) = true then Oper.wp P o a W K Q else E := by
  have hw : Region.wanted o (yielded ops a.tmps) = true := by simp [Region.wanted, hgd]
  rw [if_pos hw]
  unfold Oper.wp execOp
  simp only [ho, resolve, invoke, builtin, Sem.run_bind, Sem.run_pure, Result.andThen_ok, List.map_toArray, List.map_cons, List.map_nil, hs, hx, hr]
  exact h
/-- The program with all places in, in memory; or giving up. -/
def Am.fuP (w : World) (b : Nat) (F : Nat → Prop) (st : Am.St) (z : Int × Nat × List UInt8) (r : Ending) (w' : World) : Prop :=
  if z.1 = 0 then r = .returned (.tuple #[]) ∧ ∃ F' ln', Am.Rd w' b ln' ⟨z.2.2, st.lb, st.ws⟩ F' ∧ Am.Nx w w' F F' else r = .panicked (Am.chn z.2.1 z.1) ∧ Keeps F w w'
/-- What is kept from name to name. -/
structure Am.FuI (w wr : World) (b ln : Nat) (st : Am.St) (pv lv wv : Value) (m k : Nat) (p : List UInt8) : Prop where
  ful : Am.ful st.lb st.ws st.pr = Am.ful st.lb (st.ws.drop k) p
  len : p.length = st.pr.length
  rr : Am.Rr wr b ln ⟨p, st.lb, st.ws⟩ pv lv wv m
  nx : Am.Nx w wr (Am.ft b m pv lv wv) (Am.ft b m pv lv wv)
theorem Am.ful_at {lb : List (List UInt8 × Nat)} {ws : List (Nat × List UInt8 × Nat)} {k : Nat} {p : List UInt8} (hk : k < ws.length) {x : Nat × List UInt8 × Nat} (hx : x = ws[k]) : Am.ful lb (ws.drop k) p = match Am.look lb x.2.1 with | none => (14, x.1, p) | some a => Am.ful lb (ws.drop (k + 1)) (Am.put2 p x.2.2 a) := by
  rw [List.drop_eq_getElem_cons hk, ← hx]
  rfl
theorem Am.wsL_at {ws : List (Nat × List UInt8 × Nat)} {k : Nat} {x : Nat × List UInt8 × Nat} (hk : k < ws.length) (hx : x = ws[k]) : (Am.wsL ws)[k * 3]? = some (.int .i64 x.1) ∧ (Am.wsL ws)[k * 3 + 1]? = some (.string ⟨x.2.1.toArray⟩) ∧ (Am.wsL ws)[k * 3 + 2]? = some (.int .i64 x.2.2) := by
  subst hx
  induction ws generalizing k with
  | nil => simp at hk
  | cons y r ih =>
    have e : Am.wsL (y :: r) = Am.ws1 y ++ Am.wsL r := rfl
    cases k with
    | zero => rw [e]; exact ⟨rfl, rfl, rfl⟩
    | succ k =>
      have hk' : k < r.length := by simpa using hk
      obtain ⟨a, b, c⟩ := ih hk'
      rw [e, show (k + 1) * 3 = 3 + k * 3 from by omega]
      have hl : (Am.ws1 y).length = 3 := rfl
      refine ⟨?_, ?_, ?_⟩
      · rw [List.getElem?_append_right (by omega), hl, show 3 + k * 3 - 3 = k * 3 from by omega]; exact a
      · rw [List.getElem?_append_right (by omega), hl, show 3 + k * 3 + 1 - 3 = k * 3 + 1 from by omega]; exact b
      · rw [List.getElem?_append_right (by omega), hl, show 3 + k * 3 + 2 - 3 = k * 3 + 2 from by omega]; exact c
set_option maxRecDepth 20000 in
set_option maxHeartbeats 3200000 in
theorem Am.fulfil_any (b ln : Nat) (st : Am.St) (F : Nat → Prop) (w : World) (h : Am.Rd w b ln st F) (hw : Am.WsOk st) (hp : st.pr.length ≤ 1024) (hwl : st.ws.length ≤ 100000) :
    Calls Tryd.prog 28 #[.pointer (some ⟨b, 0, none⟩)] w (Am.fuP w b F st (Am.ful st.lb st.ws st.pr)) := by
  obtain ⟨pv, lv, wv, m, hR, hF⟩ := h
  obtain ⟨pA, pc, rfl⟩ := hR.pr.form
  obtain ⟨wA, wc, rfl⟩ := hR.ws.form
  have hcw : ∀ k, k < st.ws.length → ∃ g off, wA = some ⟨g, off, none⟩ := fun k hk => by
    rcases hR.ws.2 with ⟨_, h0⟩ | ⟨g, off, cap, h1, _⟩
    · omega
    · injection h1 with h1 _ _
      exact ⟨g, off, h1⟩
  have HCW := Lib.hid hcw
  have c4 : w.cell? ⟨b, 4, none⟩ = some (.slice wA st.ws.length wc) := hR.blk.cell 4
  have I0 := Lib.hid (show Am.FuI w w b ln st (.slice pA st.pr.length pc) lv (.slice wA st.ws.length wc) m 0 st.pr from ⟨rfl, rfl, hR, Am.Nx.refl _ _⟩)
  have HF := Lib.hid hF
  have HW := Lib.hid hw
  have HB := Lib.hid (And.intro hp hwl)
  have FIN := Lib.hid (fun (wr : World) (k : Nat) (p : List UInt8) (hk : st.ws.length ≤ k) (I : Am.FuI w wr b ln st (.slice pA st.pr.length pc) lv (.slice wA st.ws.length wc) m k p) => (show Am.fuP w b F st (Am.ful st.lb st.ws st.pr) (.returned (.tuple #[])) wr from by
    have e : Am.ful st.lb st.ws st.pr = (0, 0, p) := by rw [I.ful, List.drop_of_length_le hk]; rfl
    unfold Am.fuP
    rw [e, if_pos rfl]
    obtain ⟨F', h1, h2⟩ := Am.Rd.of hF I.rr I.nx
    exact ⟨rfl, F', ln, h1, h2⟩))
  have DIE := Lib.hid (fun (wr w' : World) (k : Nat) (p : List UInt8) (hk : k < st.ws.length) (x : Nat × List UInt8 × Nat) (hx : x = st.ws[k]) (I : Am.FuI w wr b ln st (.slice pA st.pr.length pc) lv (.slice wA st.ws.length wc) m k p) (hl : Am.look st.lb x.2.1 = none) (hkp : Keeps (Am.ft b m (.slice pA st.pr.length pc) lv (.slice wA st.ws.length wc)) wr w') => (show Am.fuP w b F st (Am.ful st.lb st.ws st.pr) (.panicked (Am.chn x.1 14)) w' from by
    have e : Am.ful st.lb st.ws st.pr = (14, x.1, p) := by rw [I.ful, Am.ful_at hk hx, hl]
    unfold Am.fuP
    rw [e, if_neg (show ¬ ((14 : Int), x.1, p).1 = 0 from by show ¬ (14 : Int) = 0; decide)]
    exact ⟨rfl, (I.nx.1.trans hkp).mono (fun i _ hi => hF i hi)⟩))
  clear hR hF hw hp hwl hcw
  go_enter Tryd.func28, Tryd.ntmps28
  go_upto_region 1 with (fail)
  clear c4
  go_loopw [11] (fun y wr => ∃ (k : Nat) (p : List UInt8), y = .int .i64 k ∧ k ≤ st.ws.length ∧ Hid (Am.FuI w wr b ln st (.slice pA st.pr.length pc) lv (.slice wA st.ws.length wc) m k p)) (fun y _ => st.ws.length - (Go.Lib.intOf y).toNat)
  case atStart => exact ⟨0, st.pr, rfl, by omega, I0⟩
  case round =>
    obtain ⟨k, p, rfl, hk, HI⟩ := hrel
    by_cases hin : k < st.ws.length
    case neg =>
      obtain rfl : k = st.ws.length := by omega
      go_wp2
      go_end0
      exact FIN.out _ _ _ (Nat.le_refl _) HI.out
    have KL := Lib.hid hin
    have i1 : (k : Int) < (st.ws.length : Int) := by omega
    have i0 : (0 : Int) ≤ (k : Int) := by omega
    have u1 : IntKind.i64.wrap ((k : Int) + 1) = (k : Int) + 1 := by rw [IntKind.wrap_i64]; have := HB.out; omega
    obtain ⟨gw, offw, rfl⟩ := HCW.out k hin
    obtain ⟨x, hx⟩ : ∃ x, x = st.ws[k] := ⟨_, rfl⟩
    obtain ⟨a0, a1, a2⟩ := Am.wsL_at hin hx
    have HXX := Lib.hid (show x.2.2 + 2 ≤ st.pr.length ∧ x.2.1.length ≤ 16 from HW.out x (by rw [hx]; exact List.getElem_mem hin))
    have HX := Lib.hid hx
    obtain ⟨xl, xn, xa⟩ := x
    have hcl : wr.cell? ⟨gw, offw + k * 3, none⟩ = some (.int .i64 xl) ∧ wr.cell? ⟨gw, offw + k * 3 + 1, none⟩ = some (.string ⟨xn.toArray⟩) ∧ wr.cell? ⟨gw, offw + k * 3 + 2, none⟩ = some (.int .i64 xa) := by
      rcases HI.out.rr.ws.2 with ⟨h0, _⟩ | ⟨g', off', cap', h1, _, _, _, _, hc⟩
      · cases h0
      · injection h1 with h1 _ _
        injection h1 with h1
        injection h1 with h1 h2
        subst h1 h2
        exact ⟨hc _ _ a0, by rw [Nat.add_assoc]; exact hc _ _ a1, by rw [Nat.add_assoc]; exact hc _ _ a2⟩
    obtain ⟨x0, x1, x2⟩ := hcl
    clear hk hx a0 a1 a2 hin
    go_upto_region 3 with (fail)
    obtain ⟨w2, hw2⟩ : ∃ W, W = wr.alloc (.cells #[.int .i64 xl, .string ⟨xn.toArray⟩, .int .i64 xa] 90) := ⟨_, rfl⟩
    have B2 := Lib.hid (show Blk w2 wr.heap.size 90 #[.int .i64 xl, .string ⟨xn.toArray⟩, .int .i64 xa] from by rw [hw2]; exact Blk.new _ _ _)
    have g2 : wr.grownBy w2 none := by rw [hw2]; exact only_alloc (only_refl _ _) _
    have R2 := Lib.hid (HI.out.rr.grown g2)
    have N2 := Lib.hid (Am.Nx.of_grown g2 (Am.ft b m (.slice pA st.pr.length pc) lv (.slice (some ⟨gw, offw, none⟩) st.ws.length wc)))
    rw [← hw2]
    clear hw2 g2 x0 x1 x2
    generalize wr.heap.size = gb at *
    obtain ⟨b0, b1, b2⟩ := in3 B2.out
    obtain ⟨c0, c1, c3⟩ : w2.cell? ⟨b, 0, none⟩ = some (.int .i64 ln) ∧ w2.cell? ⟨b, 1, none⟩ = some (.slice pA st.pr.length pc) ∧ w2.cell? ⟨b, 3, none⟩ = some (.map (some m)) := ⟨R2.out.blk.cell 0, R2.out.blk.cell 1, R2.out.blk.cell 3⟩
    have hsm : (⟨xn.toArray⟩ : ByteArray).size ≤ maxLen := by show xn.toArray.size ≤ maxLen; have := HXX.out.2; unfold maxLen; simp; simp at this; omega
    have hnm : (⟨xn.toArray⟩ : ByteArray).data.toList = xn := by simp
    cases e : Am.look st.lb xn with
    | none =>
      have hlk := Am.run_look_none hsm R2.out.mp.drew (by rw [hnm]; exact e)
      have HE := Lib.hid e
      have f0 := R2.out.blk.free 0
      clear e hnm
      generalize (⟨xn.toArray⟩ : ByteArray) = sn at *
      have HG := Lib.hid (fun (W : World) (hc : W.cell? ⟨b, 0, none⟩ = some (.int .i64 xl)) => Am.giveup_any b xl 14 W hc)
      go_upto_region 3 with (fail)
      refine wp_region_held_drew (S := fun W => W = w2.drew) (by kernel_rfl) rfl (fun hHeld => ?_)
      refine wpAnyH_take (i := 0) (oi := _) (v := ?_) rfl (by kernel_rfl) (by kernel_rfl) (by kernel_rfl) (fun _ _ _ h => h) (Or.inl ⟨by rfl, ?_⟩) (by assumption) ?_
      case refine_2 => intro w hSw; (try dsimp only at hSw); subst hSw; go_simp; try with_reducible rfl
      try simp only [Act.put, List.setIfInBounds_toArray, List.set_cons_zero, List.set_cons_succ]
      refine wpAnyH_take (i := 1) (oi := _) (v := ?_) rfl (by kernel_rfl) (by kernel_rfl) (by kernel_rfl) (fun _ _ _ h => h) (Or.inl ⟨by rfl, ?_⟩) (by assumption) ?_
      case refine_2 => intro w hSw; (try dsimp only at hSw); subst hSw; go_simp; try with_reducible rfl
      try simp only [Act.put, List.setIfInBounds_toArray, List.set_cons_zero, List.set_cons_succ]
      refine wpAnyH_take (i := 2) (oi := _) (v := ?_) rfl (by kernel_rfl) (by kernel_rfl) (by kernel_rfl) (fun _ _ _ h => h) (Or.inl ⟨by rfl, ?_⟩) (by assumption) ?_
      case refine_2 => intro w hSw; (try dsimp only at hSw); subst hSw; go_simp; try with_reducible rfl
      try simp only [Act.put, List.setIfInBounds_toArray, List.set_cons_zero, List.set_cons_succ]
      refine wpAnyH_take (i := 3) (oi := _) (v := ?_) rfl (by kernel_rfl) (by kernel_rfl) (by kernel_rfl) (fun _ _ _ h => h) (Or.inl ⟨by rfl, ?_⟩) (by assumption) ?_
      case refine_2 => intro w hSw; (try dsimp only at hSw); subst hSw; go_simp; try with_reducible rfl
      try simp only [Act.put, List.setIfInBounds_toArray, List.set_cons_zero, List.set_cons_succ]
      refine wpAnyH_take (i := 4) (oi := _) (v := ?_) rfl (by kernel_rfl) (by kernel_rfl) (by kernel_rfl) (fun _ _ _ h => h) (Or.inl ⟨by rfl, ?_⟩) (by assumption) ?_
      case refine_2 => intro w hSw; (try dsimp only at hSw); subst hSw; go_simp; try with_reducible rfl
      try simp only [Act.put, List.setIfInBounds_toArray, List.set_cons_zero, List.set_cons_succ]
      refine wpAnyH_take (i := 5) (oi := _) (v := ?_) rfl (by kernel_rfl) (by kernel_rfl) (by kernel_rfl) (fun _ _ _ h => h) (Or.inl ⟨by rfl, ?_⟩) (by assumption) ?_
      case refine_2 => intro w hSw; (try dsimp only at hSw); subst hSw; go_simp; try with_reducible rfl
      try simp only [Act.put, List.setIfInBounds_toArray, List.set_cons_zero, List.set_cons_succ]
      refine wpAnyH_take (i := 6) (oi := _) (v := ?_) rfl (by kernel_rfl) (by kernel_rfl) (by kernel_rfl) (fun _ _ _ h => h) (Or.inl ⟨by rfl, ?_⟩) (by assumption) ?_
      case refine_2 => intro w hSw; (try dsimp only at hSw); subst hSw; go_simp; try with_reducible rfl
      try simp only [Act.put, List.setIfInBounds_toArray, List.set_cons_zero, List.set_cons_succ]
      refine wpAnyH_take (i := 7) (oi := _) (v := ?_) rfl (by kernel_rfl) (by kernel_rfl) (by kernel_rfl) (fun _ _ _ h => h) (Or.inl ⟨by rfl, ?_⟩) (by assumption) ?_
      case refine_2 => intro w hSw; (try dsimp only at hSw); subst hSw; go_simp; try with_reducible rfl
      try simp only [Act.put, List.setIfInBounds_toArray, List.set_cons_zero, List.set_cons_succ]
      refine wpAnyH_take (i := 8) (oi := _) (v := ?_) rfl (by kernel_rfl) (by kernel_rfl) (by kernel_rfl) (fun _ _ _ h => h) (Or.inl ⟨by rfl, ?_⟩) (by assumption) ?_
      case refine_2 => intro w hSw; (try dsimp only at hSw); subst hSw; go_simp; try with_reducible rfl
      try simp only [Act.put, List.setIfInBounds_toArray, List.set_cons_zero, List.set_cons_succ]
      refine wpAnyH_take (i := 9) (oi := _) (v := ?_) rfl (by kernel_rfl) (by kernel_rfl) (by kernel_rfl) (fun _ _ _ h => h) (Or.inl ⟨by rfl, ?_⟩) (by assumption) ?_
      case refine_2 => intro w hSw; (try dsimp only at hSw); subst hSw; go_simp; try with_reducible rfl
      try simp only [Act.put, List.setIfInBounds_toArray, List.set_cons_zero, List.set_cons_succ]
      refine wpAnyH_take (i := 10) (oi := _) (v := ?_) rfl (by kernel_rfl) (by kernel_rfl) (by kernel_rfl) (fun _ _ _ h => h) (Or.inl ⟨by rfl, ?_⟩) (by assumption) ?_
      case refine_2 => intro w hSw; (try dsimp only at hSw); subst hSw; go_simp; try with_reducible rfl
      try simp only [Act.put, List.setIfInBounds_toArray, List.set_cons_zero, List.set_cons_succ]
      refine wpAnyH_take (i := 11) (oi := _) (v := ?_) rfl (by kernel_rfl) (by kernel_rfl) (by kernel_rfl) (fun _ _ _ h => h) (Or.inl ⟨by rfl, ?_⟩) (by assumption) ?_
      case refine_2 => intro w hSw; (try dsimp only at hSw); subst hSw; go_simp; try with_reducible rfl
      try simp only [Act.put, List.setIfInBounds_toArray, List.set_cons_zero, List.set_cons_succ]
      refine wpAnyH_done (by kernel_rfl) ?_ _
      go_upto_region 6 with (fail)
      obtain ⟨w4, hw4⟩ : ∃ W, W = (w2.setCell ⟨b, 0, none⟩ (.int .i64 xl)).drew := ⟨_, rfl⟩
      have K4 := Lib.hid (show Keeps (Am.ft b m (.slice pA st.pr.length pc) lv (.slice (some ⟨gw, offw, none⟩) st.ws.length wc)) wr w4 from by rw [hw4]; exact (Keeps.put (p := ⟨b, 0, none⟩) N2.out.1 (.inl (.inl rfl)) _).drew 1)
      have hc4 : w4.cell? ⟨b, 0, none⟩ = some (.int .i64 xl) := by rw [hw4]; show (w2.setCell _ _).cell? _ = _; exact World.cell?_setCell_same _ _ _ c0
      rw [← hw4]
      clear hw4
      go_wp2_with (first
        | (go_at_call 47; (with_reducible refine (HG.out _ hc4).mono ?_); rintro r w5 ⟨rfl, rfl⟩))
      exact ⟨rfl, DIE.out _ _ k p KL.out (xl, xn, xa) HX.out HI.out HE.out K4.out⟩
    | some a =>
      have hlk := Am.run_look_some hsm R2.out.mp.drew (by rw [hnm]; exact e)
      have HE := Lib.hid e
      clear e hnm
      generalize (⟨xn.toArray⟩ : ByteArray) = sn at *
      go_upto_region 3 with (fail)
      refine wp_region_held_drew (S := fun W => W = w2.drew) (by kernel_rfl) rfl (fun hHeld => ?_)
      refine wpAnyH_take (i := 0) (oi := _) (v := ?_) rfl (by kernel_rfl) (by kernel_rfl) (by kernel_rfl) (fun _ _ _ h => h) (Or.inl ⟨by rfl, ?_⟩) (by assumption) ?_
      case refine_2 => intro w hSw; (try dsimp only at hSw); subst hSw; go_simp; try with_reducible rfl
      try simp only [Act.put, List.setIfInBounds_toArray, List.set_cons_zero, List.set_cons_succ]
      refine wpAnyH_take (i := 1) (oi := _) (v := ?_) rfl (by kernel_rfl) (by kernel_rfl) (by kernel_rfl) (fun _ _ _ h => h) (Or.inl ⟨by rfl, ?_⟩) (by assumption) ?_
      case refine_2 => intro w hSw; (try dsimp only at hSw); subst hSw; go_simp; try with_reducible rfl
      try simp only [Act.put, List.setIfInBounds_toArray, List.set_cons_zero, List.set_cons_succ]
      refine wpAnyH_take (i := 2) (oi := _) (v := ?_) rfl (by kernel_rfl) (by kernel_rfl) (by kernel_rfl) (fun _ _ _ h => h) (Or.inl ⟨by rfl, ?_⟩) (by assumption) ?_
      case refine_2 => intro w hSw; (try dsimp only at hSw); subst hSw; go_simp; try with_reducible rfl
      try simp only [Act.put, List.setIfInBounds_toArray, List.set_cons_zero, List.set_cons_succ]
      refine wpAnyH_take (i := 3) (oi := _) (v := ?_) rfl (by kernel_rfl) (by kernel_rfl) (by kernel_rfl) (fun _ _ _ h => h) (Or.inl ⟨by rfl, ?_⟩) (by assumption) ?_
      case refine_2 => intro w hSw; (try dsimp only at hSw); subst hSw; go_simp; try with_reducible rfl
      try simp only [Act.put, List.setIfInBounds_toArray, List.set_cons_zero, List.set_cons_succ]
      refine wpAnyH_take (i := 4) (oi := _) (v := ?_) rfl (by kernel_rfl) (by kernel_rfl) (by kernel_rfl) (fun _ _ _ h => h) (Or.inl ⟨by rfl, ?_⟩) (by assumption) ?_
      case refine_2 => intro w hSw; (try dsimp only at hSw); subst hSw; go_simp; try with_reducible rfl
      try simp only [Act.put, List.setIfInBounds_toArray, List.set_cons_zero, List.set_cons_succ]
      refine wpAnyH_take (i := 5) (oi := _) (v := ?_) rfl (by kernel_rfl) (by kernel_rfl) (by kernel_rfl) (fun _ _ _ h => h) (Or.inl ⟨by rfl, ?_⟩) (by assumption) ?_
      case refine_2 => intro w hSw; (try dsimp only at hSw); subst hSw; go_simp; try with_reducible rfl
      try simp only [Act.put, List.setIfInBounds_toArray, List.set_cons_zero, List.set_cons_succ]
      refine wpAnyH_take (i := 6) (oi := _) (v := ?_) rfl (by kernel_rfl) (by kernel_rfl) (by kernel_rfl) (fun _ _ _ h => h) (Or.inl ⟨by rfl, ?_⟩) (by assumption) ?_
      case refine_2 => intro w hSw; (try dsimp only at hSw); subst hSw; go_simp; try with_reducible rfl
      try simp only [Act.put, List.setIfInBounds_toArray, List.set_cons_zero, List.set_cons_succ]
      refine wpAnyH_take (i := 7) (oi := _) (v := ?_) rfl (by kernel_rfl) (by kernel_rfl) (by kernel_rfl) (fun _ _ _ h => h) (Or.inl ⟨by rfl, ?_⟩) (by assumption) ?_
      case refine_2 => intro w hSw; (try dsimp only at hSw); subst hSw; go_simp; try with_reducible rfl
      try simp only [Act.put, List.setIfInBounds_toArray, List.set_cons_zero, List.set_cons_succ]
      refine wpAnyH_take (i := 8) (oi := _) (v := ?_) rfl (by kernel_rfl) (by kernel_rfl) (by kernel_rfl) (fun _ _ _ h => h) (Or.inl ⟨by rfl, ?_⟩) (by assumption) ?_
      case refine_2 => intro w hSw; (try dsimp only at hSw); subst hSw; go_simp; try with_reducible rfl
      try simp only [Act.put, List.setIfInBounds_toArray, List.set_cons_zero, List.set_cons_succ]
      refine wpAnyH_take (i := 9) (oi := _) (v := ?_) rfl (by kernel_rfl) (by kernel_rfl) (by kernel_rfl) (fun _ _ _ h => h) (Or.inl ⟨by rfl, ?_⟩) (by assumption) ?_
      case refine_2 => intro w hSw; (try dsimp only at hSw); subst hSw; go_simp; try with_reducible rfl
      try simp only [Act.put, List.setIfInBounds_toArray, List.set_cons_zero, List.set_cons_succ]
      refine wpAnyH_take (i := 10) (oi := _) (v := ?_) rfl (by kernel_rfl) (by kernel_rfl) (by kernel_rfl) (fun _ _ _ h => h) (Or.inl ⟨by rfl, ?_⟩) (by assumption) ?_
      case refine_2 => intro w hSw; (try dsimp only at hSw); subst hSw; go_simp; try with_reducible rfl
      try simp only [Act.put, List.setIfInBounds_toArray, List.set_cons_zero, List.set_cons_succ]
      refine wpAnyH_take (i := 11) (oi := _) (v := ?_) rfl (by kernel_rfl) (by kernel_rfl) (by kernel_rfl) (fun _ _ _ h => h) (Or.inl ⟨by rfl, ?_⟩) (by assumption) ?_
      case refine_2 => intro w hSw; (try dsimp only at hSw); subst hSw; go_simp; try with_reducible rfl
      try simp only [Act.put, List.setIfInBounds_toArray, List.set_cons_zero, List.set_cons_succ]
      refine wpAnyH_done (by kernel_rfl) ?_ _
      go_upto_region 7 with (fail)
      obtain ⟨w3, hw3⟩ : ∃ W, W = w2.drew := ⟨_, rfl⟩
      have g3 : w2.grownBy w3 none := by rw [hw3]; exact only_drewN (only_refl _ _) 1
      have R3 := Lib.hid (R2.out.grown g3)
      have B3 := Lib.hid (B2.out.only g3 (by simp))
      have N3 := Lib.hid (N2.out.trans (Am.Nx.of_grown g3 _))
      rw [← hw3]
      clear hw3 g3 hlk b0 b1 b2 c0 c1 c3
      have HBP := Lib.hid (fun W : World => Go.Proofs.YtgjpjmolfdiahaaDoor.put_any (a : Int) W)
      obtain ⟨w5, hw5⟩ : ∃ W, W = w3.drew.alloc (.cells #[.int .u8 ((a : Int) % 256), .int .u8 ((a : Int) / 256 % 256)] 5) := ⟨_, rfl⟩
      have g5 : w3.grownBy w5 none := by rw [hw5]; exact only_alloc (only_drewN (only_refl _ _) 1) _
      have R5 := R3.out.grown g5
      have hpl := HI.out.len
      obtain ⟨g, off, rfl, hcap, hcp, R6, N6⟩ := (show Am.Rr w5 b ln ⟨p, st.lb, st.ws⟩ (.slice pA (⟨p, st.lb, st.ws⟩ : Am.St).pr.length pc) lv (.slice (some ⟨gw, offw, none⟩) st.ws.length wc) m from by show Am.Rr w5 b ln ⟨p, st.lb, st.ws⟩ (.slice pA p.length pc) lv _ m; rw [hpl]; exact R5).copy2 xa a (by show xa + 2 ≤ p.length; rw [hpl]; exact HXX.out.1)
      change (Builtin.copy_ _ _ #[.slice (some ⟨g, off + xa, none⟩) (p.length - xa) (pc - xa), _]).run _ _ = _ at hcp
      rw [hpl] at hcp
      change p.length ≤ pc at hcap
      rw [hpl] at hcap
      replace R6 : Am.Rr _ b ln ⟨Am.put2 p xa a, st.lb, st.ws⟩ (.slice (some ⟨g, off, none⟩) p.length pc) lv (.slice (some ⟨gw, offw, none⟩) st.ws.length wc) m := R6
      replace N6 : Am.Nx w5 _ (Am.ft b m (.slice (some ⟨g, off, none⟩) p.length pc) lv (.slice (some ⟨gw, offw, none⟩) st.ws.length wc)) (Am.ft b m (.slice (some ⟨g, off, none⟩) p.length pc) lv (.slice (some ⟨gw, offw, none⟩) st.ws.length wc)) := N6
      rw [hpl] at R6 N6
      have S5 := Lib.hid (show ∀ W, W = w3.drew ∨ W = w5 → W.cell? ⟨b, 1, none⟩ = some (.slice (some ⟨g, off, none⟩) st.pr.length pc) ∧ W.cell? ⟨gb, 2, none⟩ = some (.int .i64 xa) from fun W hW => by
        rcases hW with rfl | rfl
        · exact ⟨R3.out.blk.cell 1, B3.out.cell 2⟩
        · exact ⟨R5.blk.cell 1, (B3.out.only g5 (by simp)).cell 2⟩)
      have HK := Lib.hid hcp
      have I6 := Lib.hid (show Am.FuI w _ b ln st (.slice (some ⟨g, off, none⟩) st.pr.length pc) lv (.slice (some ⟨gw, offw, none⟩) st.ws.length wc) m (k + 1) (Am.put2 p xa a) from ⟨by
        have q := HI.out.ful
        rw [Am.ful_at KL.out HX.out, HE.out] at q
        exact q, by simp [Am.put2, hpl], R6, ((HI.out.nx.trans N3.out).trans (Am.Nx.of_grown g5 _)).trans N6⟩)
      have q1 : xa ≤ st.pr.length := by have : xa + 2 ≤ st.pr.length := HXX.out.1; omega
      have q2 : (0 : Int) ≤ (xa : Int) := by omega
      have q3 : (xa : Int) ≤ (st.pr.length : Int) := by omega
      have q7 : ¬ pc = xa := by have : xa + 2 ≤ st.pr.length := HXX.out.1; omega
      have q4 : ¬ xa = pc := by have : xa + 2 ≤ st.pr.length := HXX.out.1; omega
      have q5 : (st.pr.length : Int) ≤ (pc : Int) := by omega
      have q6 : (xa : Int) ≤ (pc : Int) := by omega
      clear hpl R5 R6 N6 hcp
      refine wp_region_ends2 9 (fun W => W.cell? ⟨b, 1, none⟩ = some (.slice (some ⟨g, off, none⟩) st.pr.length pc) ∧ W.cell? ⟨gb, 2, none⟩ = some (.int .i64 xa)) (by kernel_rfl) (by kernel_rfl) (S5.out _ (.inl rfl)) (fun hHeld => ?_)
      simp only [List.take_succ_cons, List.take_zero]
      refine wpAnyH_take (i := 0) (oi := _) (v := ?_) rfl (by kernel_rfl) (by kernel_rfl) (by kernel_rfl) (fun _ _ _ h => h) (Or.inl ⟨by rfl, ?_⟩) (by assumption) ?_
      case refine_2 => intro w hSw; (try dsimp only at hSw); go_simp; try with_reducible rfl
      try simp only [Act.put, List.setIfInBounds_toArray, List.set_cons_zero, List.set_cons_succ]
      refine wpAnyH_take (i := 1) (oi := _) (v := ?_) rfl (by kernel_rfl) (by kernel_rfl) (by kernel_rfl) (fun _ _ _ h => h) (Or.inl ⟨by rfl, ?_⟩) (by assumption) ?_
      case refine_2 => intro w hSw; (try dsimp only at hSw); go_simp; try with_reducible rfl
      try simp only [Act.put, List.setIfInBounds_toArray, List.set_cons_zero, List.set_cons_succ]
      refine wpAnyH_take (i := 2) (oi := _) (v := ?_) rfl (by kernel_rfl) (by kernel_rfl) (by kernel_rfl) (fun _ _ _ h => h) (Or.inl ⟨by rfl, ?_⟩) (by assumption) ?_
      case refine_2 => intro w hSw; (try dsimp only at hSw); go_simp; try with_reducible rfl
      try simp only [Act.put, List.setIfInBounds_toArray, List.set_cons_zero, List.set_cons_succ]
      refine wpAnyH_take (i := 3) (oi := _) (v := ?_) rfl (by kernel_rfl) (by kernel_rfl) (by kernel_rfl) (fun _ _ _ h => h) (Or.inl ⟨by rfl, ?_⟩) (by assumption) ?_
      case refine_2 => intro w hSw; (try dsimp only at hSw); go_simp; try with_reducible rfl
      try simp only [Act.put, List.setIfInBounds_toArray, List.set_cons_zero, List.set_cons_succ]
      refine wpAnyH_take (i := 4) (oi := _) (v := ?_) rfl (by kernel_rfl) (by kernel_rfl) (by kernel_rfl) (fun _ _ _ h => h) (Or.inl ⟨by rfl, ?_⟩) (by assumption) ?_
      case refine_2 => intro w hSw; (try dsimp only at hSw); go_simp; try with_reducible rfl
      try simp only [Act.put, List.setIfInBounds_toArray, List.set_cons_zero, List.set_cons_succ]
      refine wpAnyH_take (i := 5) (oi := _) (v := ?_) rfl (by kernel_rfl) (by kernel_rfl) (by kernel_rfl) (fun _ _ _ h => h) (Or.inl ⟨by rfl, ?_⟩) (by assumption) ?_
      case refine_2 => intro w hSw; (try dsimp only at hSw); go_simp; try with_reducible rfl
      try simp only [Act.put, List.setIfInBounds_toArray, List.set_cons_zero, List.set_cons_succ]
      refine wpAnyH_take (i := 6) (oi := _) (v := ?_) rfl (by kernel_rfl) (by kernel_rfl) (by kernel_rfl) (fun _ _ _ h => h) (Or.inl ⟨by rfl, ?_⟩) (by assumption) ?_
      case refine_2 => intro w hSw; (try dsimp only at hSw); go_simp; try with_reducible rfl
      try simp only [Act.put, List.setIfInBounds_toArray, List.set_cons_zero, List.set_cons_succ]
      refine wpAnyH_take (i := 7) (oi := _) (v := ?_) rfl (by kernel_rfl) (by kernel_rfl) (by kernel_rfl) (fun _ _ _ h => h) (Or.inl ⟨by rfl, ?_⟩) (by assumption) ?_
      case refine_2 => intro w hSw; (try dsimp only at hSw); go_simp; try with_reducible rfl
      try simp only [Act.put, List.setIfInBounds_toArray, List.set_cons_zero, List.set_cons_succ]
      refine wpAnyH_ready (rs := [8]) (by kernel_rfl) (by simp) ?_
      refine AllReadyH.cons (o := _) rfl (fun K hK => ?_) AllReadyH.nil
      go_simp
      refine (HBP.out _).mono ?_
      rintro r w5' ⟨rfl, hw5'⟩
      rw [← hw5] at hw5'
      subst hw5'
      try clear hw5
      try simp only []
      refine hK.out _ _ (S5.out _ (.inr rfl)) (fun hHeld => ?_)
      clear hK K
      try simp only [Act.put, List.setIfInBounds_toArray, List.set_cons_zero, List.set_cons_succ]
      refine wpAnyH_done (by kernel_rfl) ?_ _
      refine Ends.last rfl (fun K hK => ?_)
      refine Am.step_copy_eq rfl (.tmp 40) (.tmp 42) 50 9 rfl HK.out rfl rfl ?_
      refine hK.out _ _ ?_
      clear hK K
      go_wp2
      go_roundw
      case rel => exact ⟨k + 1, Am.put2 p xa a, by go_num, KL.out, I6.out⟩
      case measure =>
        have := KL.out
        simp [Go.Lib.intOf]
        omega
end Go.Proofs.YtgjpjmolfdiahaaDoor
