/- Package asm: labels, by their contract. -/
import Derived.Test.YtgjpjmolfdiahaaDoorAX17
namespace Go.Proofs.YtgjpjmolfdiahaaDoor
open Go.RowKit Go.Lib
set_option linter.unusedVariables false

theorem Am.Rq.pushL {w : World} {b ln : Nat} {st : Am.St} {ml : List (List UInt8 × Nat)} {pv lv wv : Value} {m : Nat} (h : Am.Rq w b ln st ml pv lv wv m) (s : ByteArray) (x : Nat) (hs : st.lb.length ≤ 100000) :
    ∃ v' w2, (Builtin.append_ #[27, 27] 27 #[lv, .slice (some ⟨w.heap.size, 0, none⟩) 1 1]).run Tryd.prog (w.alloc (.cells #[.string s, .int .i64 x] 37)).drew = .ok v' w2 ∧ Am.Rq (w2.setCell ⟨b, 2, none⟩ v') b ln ⟨st.pr, st.lb ++ [(s.data.toList, x)], st.ws⟩ ml pv v' wv m ∧ Am.Nx w (w2.setCell ⟨b, 2, none⟩ v') (Am.ft b m pv lv wv) (Am.ft b m pv v' wv) ∧ (∃ A c, v' = .slice A (st.lb.length + 1) c) ∧
      ∀ W, W = w.drew ∨ W = (w.alloc (.cells #[.string s, .int .i64 x] 37)).drew ∨ W = w2 → Blk W b 54 #[.int .i64 ln, pv, lv, .map (some m), wv] := by
  obtain ⟨i0, hi, hz, hsz, hby⟩ := Am.parts Am.label_info
  have e3 : #[Value.string s, .int .i64 x] = (Am.lb1 (s.data.toList, x)).toArray := by simp [Am.lb1]
  rw [e3]
  generalize hW1 : (w.alloc (.cells (Am.lb1 (s.data.toList, x)).toArray 37)).drew = W1
  have g1 : w.grownBy W1 none := by rw [← hW1]; exact only_drewN (only_alloc (only_refl _ none) _) 1
  have b1 : Blk W1 w.heap.size 37 (Am.lb1 (s.data.toList, x)).toArray := by rw [← hW1]; exact (Blk.new w 37 _).drewN 1
  have hsrc : Src Tryd.prog 2 27 (.slice (some ⟨w.heap.size, 0, none⟩) 1 1) 1 (Am.lb1 (s.data.toList, x)) W1 := Src.ofSlice _ Tryd.underlying27 _ _ _ _ (by simp [Am.lb1]) (fun k u hu => by
    rw [addr_at, Nat.zero_add, b1.cell k]
    simpa using hu) (by intro u hu; simp [Am.lb1] at hu; rcases hu with rfl | rfl <;> rfl)
  obtain ⟨v', w2, hk, hr, hg, ho⟩ := run_pushZ (P := Tryd.prog) W1 27 37 27 i0 _ 24 Tryd.underlying27 hi hz hsz hby (by omega) rfl _ _ _ (h.lb.grown g1) (Am.lbL_one _) _ _ hsrc (by omega)
  have hl : (st.lb ++ [(s.data.toList, x)]).length = st.lb.length + 1 := by simp
  have hy : Am.lbL st.lb ++ Am.lb1 (s.data.toList, x) = Am.lbL (st.lb ++ [(s.data.toList, x)]) := by simp [Am.lbL]
  obtain ⟨q1, q2, q3⟩ := h.setL g1 hg ho (st.lb ++ [(s.data.toList, x)]) (by rw [hl, ← hy]; exact hr)
  refine ⟨v', w2, hk, q2, q3, hr.form, fun W hW => ?_⟩
  rcases hW with rfl | rfl | rfl
  · exact h.blk.drewN 1
  · exact h.blk.only g1 (by simp)
  · exact q1
/-- What a label makes of what was read. -/
def Am.labV (ln : Nat) (s : List UInt8) (st : Am.St) : Int × Am.St := if Am.isName s = true then (if (Am.look st.lb s).isSome = true then (14, st) else (0, ⟨st.pr, st.lb ++ [(s, st.pr.length)], st.ws⟩)) else (3, st)
set_option maxRecDepth 20000 in
set_option maxHeartbeats 1600000 in
theorem Am.label_any (b ln : Nat) (st : Am.St) (F : Nat → Prop) (s : ByteArray) (hs : s.size ≤ 100000) (w : World) (h : Am.Rd w b ln st F) (hp : st.pr.length ≤ 100000) (hlb : st.lb.length ≤ 100000) :
    Calls Tryd.prog 45 #[.pointer (some ⟨b, 0, none⟩), .string s] w (Am.stP w b ln F (Am.labV ln s.data.toList st)) := by
  obtain ⟨pv, lv, wv, m, hR, hF⟩ := h
  have HI := Lib.hid (Am.isname_any s w)
  have HR := Lib.hid hR
  have HF := Lib.hid hF
  have HP := Lib.hid (And.intro hp hlb)
  have hsm : s.size ≤ maxLen := by unfold maxLen; omega
  by_cases hn : Am.isName s.data.toList = true
  case neg =>
    have hv : Am.labV ln s.data.toList st = (3, st) := by unfold Am.labV; rw [if_neg hn]
    rw [hv, Am.stP_bad (by decide)]
    rw [show Am.isName s.data.toList = false from by simpa using hn] at HI
    have HG := Lib.hid (fun (W : World) (q : w.grownBy W none) => Am.giveup_any b ln 3 W (by rw [Am.kc q HR.out.blk.lt 0]; exact HR.out.blk.cell 0))
    clear hv hn hR hF hp hlb hsm hs
    go_enter Tryd.func45, Tryd.ntmps45
    go_wp2_with (first
      | (go_at_call 56; (with_reducible refine HI.out.mono ?_); rintro r w2 ⟨rfl, g2⟩; have G2 := Lib.hid g2; clear g2)
      | (go_at_call 47; (with_reducible refine (HG.out _ G2.out).mono ?_); rintro r w3 ⟨rfl, rfl⟩))
    exact ⟨rfl, rfl, Keeps.of_only G2.out (fun k hk => by cases hk)⟩
  rw [hn] at HI
  have hv0 : Am.labV ln s.data.toList st = if (Am.look st.lb s.data.toList).isSome = true then (14, st) else (0, ⟨st.pr, st.lb ++ [(s.data.toList, st.pr.length)], st.ws⟩) := by unfold Am.labV; rw [if_pos hn]
  have HSM := Lib.hid hsm
  clear hn hs hsm
  cases e : Am.look st.lb s.data.toList with
  | some n =>
    rw [hv0, e, if_pos (show (some n).isSome = true from rfl), Am.stP_bad (by decide)]
    have HE := Lib.hid e
    clear hv0 hR hF hp hlb e
    go_enter Tryd.func45, Tryd.ntmps45
    go_upto_region 2 with (first
      | (go_at_call 56; (with_reducible refine HI.out.mono ?_); rintro r w2 ⟨rfl, g2⟩; have G2 := Lib.hid g2; clear g2))
    have c0 : w2.cell? ⟨b, 0, none⟩ = some (.int .i64 ln) := (HR.out.grown G2.out).blk.cell 0
    have c3 : w2.cell? ⟨b, 3, none⟩ = some (.map (some m)) := (HR.out.grown G2.out).blk.cell 3
    have hlk := Am.run_look_some HSM.out (HR.out.grown G2.out).mp HE.out
    have HG := Lib.hid (Am.giveup_any b ln 14 w2 c0)
    go_wp2_with (first
      | (go_at_call 47; (with_reducible refine HG.out.mono ?_); rintro r w3 ⟨rfl, rfl⟩))
    exact ⟨rfl, rfl, Keeps.of_only G2.out (fun k hk => by cases hk)⟩
  | none =>
  rw [hv0, e, if_neg (show ¬ (none : Option Nat).isSome = true from by decide), Am.stP_ok]
  have HE := Lib.hid e
  clear hv0 hR hF hp hlb e
  go_enter Tryd.func45, Tryd.ntmps45
  go_upto_region 2 with (first
    | (go_at_call 56; (with_reducible refine HI.out.mono ?_); rintro r w2 ⟨rfl, g2⟩; have G2 := Lib.hid g2; clear g2))
  obtain ⟨pA, pc, rfl⟩ := HR.out.pr.form
  obtain ⟨lA, lc, rfl⟩ := HR.out.lb.form
  have HR2 := Lib.hid (HR.out.grown G2.out)
  have c3 : w2.cell? ⟨b, 3, none⟩ = some (.map (some m)) := HR2.out.blk.cell 3
  have hlk := Am.run_look_none HSM.out HR2.out.mp HE.out
  go_upto_region 5 with (fail)
  clear hlk c3
  obtain ⟨w3, hput, hm3, hg3⟩ := Am.run_put (n := st.pr.length) HSM.out HR2.out.mp.drew HE.out (by have := HP.out.2; unfold maxLen; omega)
  have hR2d : Am.Rr w2.drew b ln st (.slice pA st.pr.length pc) (.slice lA st.lb.length lc) wv m := HR2.out.grown (only_drewN (only_refl _ _) 1)
  obtain ⟨q3, n3⟩ := hR2d.setM hg3 hm3
  have SX := Lib.hid (show w2.drew.cell? ⟨b, 1, none⟩ = some (.slice pA st.pr.length pc) ∧ w2.drew.cell? ⟨b, 3, none⟩ = some (.map (some m)) from ⟨hR2d.blk.cell 1, hR2d.blk.cell 3⟩)
  have Q3 := Lib.hid q3
  have N3 := Lib.hid (((Am.Nx.of_grown G2.out (Am.ft b m (.slice pA st.pr.length pc) (.slice lA st.lb.length lc) wv)).trans (Am.Nx.of_grown (only_drewN (only_refl w2 _) 1) _)).trans n3)
  clear q3 n3 hR2d hg3 hm3
  refine wp_region_ends2 10 (fun W => W.cell? ⟨b, 1, none⟩ = some (.slice pA st.pr.length pc) ∧ W.cell? ⟨b, 3, none⟩ = some (.map (some m))) (by kernel_rfl) (by kernel_rfl) SX.out (fun hHeld => ?_)
  simp only [List.take_succ_cons, List.take_zero]
  refine wpAnyH_take (i := 0) (oi := _) (v := ?_) rfl (by kernel_rfl) (by kernel_rfl) (by kernel_rfl) (fun _ _ _ h => h) (Or.inl ⟨by rfl, ?_⟩) (by assumption) ?_
  case refine_2 => intro w hSw; (try dsimp only at hSw); go_simp; try with_reducible rfl
  try simp only [Act.put, List.setIfInBounds_toArray, List.set_cons_zero, List.set_cons_succ]
  refine wpAnyH_take (i := 1) (oi := _) (v := ?_) rfl (by kernel_rfl) (by kernel_rfl) (by kernel_rfl) (fun _ _ _ h => h) (Or.inl ⟨by rfl, ?_⟩) (by assumption) ?_
  case refine_2 => intro w hSw; (try dsimp only at hSw); go_simp; try with_reducible rfl
  try simp only [Act.put, List.setIfInBounds_toArray, List.set_cons_zero, List.set_cons_succ]
  refine wpAnyH_take (i := 2) (oi := _) (v := ?_) rfl (by kernel_rfl) (by kernel_rfl) (by kernel_rfl) (fun _ _ _ h => h) (Or.inl ⟨by rfl, ?_⟩) (by assumption) ?_
  case refine_2 => intro w hSw; (try dsimp only at hSw); go_simp; try with_reducible rfl
  try simp only [Act.put, List.setIfInBounds_toArray, List.set_cons_zero, List.set_cons_succ]
  refine wpAnyH_take (i := 3) (oi := _) (v := ?_) rfl (by kernel_rfl) (by kernel_rfl) (by kernel_rfl) (fun _ _ _ h => h) (Or.inl ⟨by rfl, ?_⟩) (by assumption) ?_
  case refine_2 => intro w hSw; (try dsimp only at hSw); go_simp; try with_reducible rfl
  try simp only [Act.put, List.setIfInBounds_toArray, List.set_cons_zero, List.set_cons_succ]
  refine wpAnyH_take (i := 4) (oi := _) (v := ?_) rfl (by kernel_rfl) (by kernel_rfl) (by kernel_rfl) (fun _ _ _ h => h) (Or.inl ⟨by rfl, ?_⟩) (by assumption) ?_
  case refine_2 => intro w hSw; (try dsimp only at hSw); go_simp; try with_reducible rfl
  try simp only [Act.put, List.setIfInBounds_toArray, List.set_cons_zero, List.set_cons_succ]
  refine wpAnyH_take (i := 5) (oi := _) (v := ?_) rfl (by kernel_rfl) (by kernel_rfl) (by kernel_rfl) (fun _ _ _ h => h) (Or.inl ⟨by rfl, ?_⟩) (by assumption) ?_
  case refine_2 => intro w hSw; (try dsimp only at hSw); go_simp; try with_reducible rfl
  try simp only [Act.put, List.setIfInBounds_toArray, List.set_cons_zero, List.set_cons_succ]
  refine wpAnyH_take (i := 6) (oi := _) (v := ?_) rfl (by kernel_rfl) (by kernel_rfl) (by kernel_rfl) (fun _ _ _ h => h) (Or.inl ⟨by rfl, ?_⟩) (by assumption) ?_
  case refine_2 => intro w hSw; (try dsimp only at hSw); go_simp; try with_reducible rfl
  try simp only [Act.put, List.setIfInBounds_toArray, List.set_cons_zero, List.set_cons_succ]
  refine wpAnyH_take (i := 7) (oi := _) (v := ?_) rfl (by kernel_rfl) (by kernel_rfl) (by kernel_rfl) (fun _ _ _ h => h) (Or.inl ⟨by rfl, ?_⟩) (by assumption) ?_
  case refine_2 => intro w hSw; (try dsimp only at hSw); go_simp; try with_reducible rfl
  try simp only [Act.put, List.setIfInBounds_toArray, List.set_cons_zero, List.set_cons_succ]
  refine wpAnyH_take (i := 8) (oi := _) (v := ?_) rfl (by kernel_rfl) (by kernel_rfl) (by kernel_rfl) (fun _ _ _ h => h) (Or.inl ⟨by rfl, ?_⟩) (by assumption) ?_
  case refine_2 => intro w hSw; (try dsimp only at hSw); go_simp; try with_reducible rfl
  try simp only [Act.put, List.setIfInBounds_toArray, List.set_cons_zero, List.set_cons_succ]
  refine wpAnyH_take (i := 9) (oi := _) (v := ?_) rfl (by kernel_rfl) (by kernel_rfl) (by kernel_rfl) (fun _ _ _ h => h) (Or.inl ⟨by rfl, ?_⟩) (by assumption) ?_
  case refine_2 => intro w hSw; (try dsimp only at hSw); go_simp; try with_reducible rfl
  try simp only [Act.put, List.setIfInBounds_toArray, List.set_cons_zero, List.set_cons_succ]
  refine wpAnyH_done (by kernel_rfl) ?_ _
  refine Ends.last rfl (fun K hK => ?_)
  go_simp
  refine hK.out _ _ ?_
  clear hK K hput hHeld
  obtain ⟨v4, w4, hk4, r2, r3, ⟨A4, c4, rfl⟩, r5⟩ := Q3.out.pushL s st.pr.length (by exact HP.out.2)
  have HK4 := Lib.hid hk4
  have R2 := Lib.hid r2
  have R3 := Lib.hid r3
  have SX4 := Lib.hid (show ∀ W, W = w3.drew ∨ W = (w3.alloc (.cells #[.string s, .int .i64 st.pr.length] 37)).drew ∨ W = w4 → W.cell? ⟨b, 1, none⟩ = some (.slice pA st.pr.length pc) ∧ W.cell? ⟨b, 2, none⟩ = some (.slice lA st.lb.length lc) from fun W hW => by
    have q := r5 W hW
    exact ⟨q.cell 1, q.cell 2⟩)
  have y1 : w4.cell? ⟨b, 2, none⟩ = some (.slice lA st.lb.length lc) := (SX4.out w4 (.inr (.inr rfl))).2
  have y2 : w4.frozen? ⟨b, 2, none⟩ = false := (r5 w4 (.inr (.inr rfl))).free 2
  clear hk4 r2 r3 r5 SX
  go_upto_region 6 with (fail)
  refine wp_region_ends2 16 (fun W => W.cell? ⟨b, 1, none⟩ = some (.slice pA st.pr.length pc) ∧ W.cell? ⟨b, 2, none⟩ = some (.slice lA st.lb.length lc)) (by kernel_rfl) (by kernel_rfl) (SX4.out _ (.inl rfl)) (fun hHeld => ?_)
  simp only [List.take_succ_cons, List.take_zero]
  refine wpAnyH_take (i := 0) (oi := _) (v := ?_) rfl (by kernel_rfl) (by kernel_rfl) (by kernel_rfl) (fun _ _ _ h => h) (Or.inl ⟨by rfl, ?_⟩) (by assumption) ?_
  case refine_2 => intro w hSw; (try dsimp only at hSw); go_simp; try with_reducible rfl
  try simp only [Act.put, List.setIfInBounds_toArray, List.set_cons_zero, List.set_cons_succ]
  refine wpAnyH_take (i := 1) (oi := _) (v := ?_) rfl (by kernel_rfl) (by kernel_rfl) (by kernel_rfl) (fun _ _ _ h => h) (Or.inl ⟨by rfl, ?_⟩) (by assumption) ?_
  case refine_2 => intro w hSw; (try dsimp only at hSw); go_simp; try with_reducible rfl
  try simp only [Act.put, List.setIfInBounds_toArray, List.set_cons_zero, List.set_cons_succ]
  refine wpAnyH_take (i := 2) (oi := _) (v := ?_) rfl (by kernel_rfl) (by kernel_rfl) (by kernel_rfl) (fun _ _ _ h => h) (Or.inl ⟨by rfl, ?_⟩) (by assumption) ?_
  case refine_2 => intro w hSw; (try dsimp only at hSw); go_simp; try with_reducible rfl
  try simp only [Act.put, List.setIfInBounds_toArray, List.set_cons_zero, List.set_cons_succ]
  refine wpAnyH_take (i := 3) (oi := _) (v := ?_) rfl (by kernel_rfl) (by kernel_rfl) (by kernel_rfl) (fun _ _ _ h => h) (Or.inl ⟨by rfl, ?_⟩) (by assumption) ?_
  case refine_2 => intro w hSw; (try dsimp only at hSw); go_simp; try with_reducible rfl
  try simp only [Act.put, List.setIfInBounds_toArray, List.set_cons_zero, List.set_cons_succ]
  refine wpAnyH_take (i := 4) (oi := _) (v := ?_) rfl (by kernel_rfl) (by kernel_rfl) (by kernel_rfl) (fun _ _ _ h => h) (Or.inl ⟨by rfl, ?_⟩) (by assumption) ?_
  case refine_2 => intro w hSw; (try dsimp only at hSw); go_simp; try with_reducible rfl
  try simp only [Act.put, List.setIfInBounds_toArray, List.set_cons_zero, List.set_cons_succ]
  refine wpAnyH_take (i := 5) (oi := _) (v := ?_) rfl (by kernel_rfl) (by kernel_rfl) (by kernel_rfl) (fun _ _ _ h => h) (Or.inl ⟨by rfl, ?_⟩) (by assumption) ?_
  case refine_2 => intro w hSw; (try dsimp only at hSw); go_simp; try with_reducible rfl
  try simp only [Act.put, List.setIfInBounds_toArray, List.set_cons_zero, List.set_cons_succ]
  refine wpAnyH_take (i := 6) (oi := _) (v := ?_) rfl (by kernel_rfl) (by kernel_rfl) (by kernel_rfl) (fun _ _ _ h => h) (Or.inl ⟨by rfl, ?_⟩) (by assumption) ?_
  case refine_2 => intro w hSw; (try dsimp only at hSw); go_simp; try with_reducible rfl
  try simp only [Act.put, List.setIfInBounds_toArray, List.set_cons_zero, List.set_cons_succ]
  refine wpAnyH_take (i := 7) (oi := _) (v := ?_) rfl (by kernel_rfl) (by kernel_rfl) (by kernel_rfl) (fun _ _ _ h => h) (Or.inl ⟨by rfl, ?_⟩) (by assumption) ?_
  case refine_2 => intro w hSw; (try dsimp only at hSw); go_simp; try with_reducible rfl
  try simp only [Act.put, List.setIfInBounds_toArray, List.set_cons_zero, List.set_cons_succ]
  refine wpAnyH_take (i := 8) (oi := _) (v := ?_) rfl (by kernel_rfl) (by kernel_rfl) (by kernel_rfl) (fun _ _ _ h => h) (Or.inl ⟨by rfl, ?_⟩) (by assumption) ?_
  case refine_2 => intro w hSw; (try dsimp only at hSw); go_simp; try with_reducible rfl
  try simp only [Act.put, List.setIfInBounds_toArray, List.set_cons_zero, List.set_cons_succ]
  refine wpAnyH_take (i := 9) (oi := _) (v := ?_) rfl (by kernel_rfl) (by kernel_rfl) (by kernel_rfl) (fun _ _ _ h => h) (Or.inl ⟨by rfl, ?_⟩) (by assumption) ?_
  case refine_2 => intro w hSw; (try dsimp only at hSw); go_simp; try with_reducible rfl
  try simp only [Act.put, List.setIfInBounds_toArray, List.set_cons_zero, List.set_cons_succ]
  refine wpAnyH_take (i := 10) (oi := _) (v := ?_) rfl (by kernel_rfl) (by kernel_rfl) (by kernel_rfl) (fun _ _ _ h => h) (Or.inl ⟨by rfl, ?_⟩) (by assumption) ?_
  case refine_2 => intro w hSw; (try dsimp only at hSw); go_simp; try with_reducible rfl
  try simp only [Act.put, List.setIfInBounds_toArray, List.set_cons_zero, List.set_cons_succ]
  refine wpAnyH_take (i := 11) (oi := _) (v := ?_) rfl (by kernel_rfl) (by kernel_rfl) (by kernel_rfl) (fun _ _ _ h => h) (Or.inl ⟨by rfl, ?_⟩) (by assumption) ?_
  case refine_2 => intro w hSw; (try dsimp only at hSw); go_simp; try with_reducible rfl
  try simp only [Act.put, List.setIfInBounds_toArray, List.set_cons_zero, List.set_cons_succ]
  refine wpAnyH_ready (rs := [12]) (by kernel_rfl) (by simp) ?_
  refine AllReadyH.cons (o := _) rfl (fun K hK => ?_) AllReadyH.nil
  go_simp
  refine hK.out _ _ (SX4.out _ (.inr (.inl rfl))) (fun hHeld => ?_)
  clear hK K
  try simp only [Act.put, List.setIfInBounds_toArray, List.set_cons_zero, List.set_cons_succ]
  refine wpAnyH_ready (rs := [13]) (by kernel_rfl) (by simp) ?_
  refine AllReadyH.cons (o := _) rfl (fun K hK => ?_) AllReadyH.nil
  refine Am.step_app_eq rfl (.tmp 37) (.tmp 45) 27 rfl HK4.out rfl rfl ?_
  refine hK.out _ _ (SX4.out _ (.inr (.inr rfl))) (fun hHeld => ?_)
  clear hK K
  try simp only [Act.put, List.setIfInBounds_toArray, List.set_cons_zero, List.set_cons_succ]
  refine wpAnyH_ready (rs := [14]) (by kernel_rfl) (by simp) ?_
  refine AllReadyH.cons (o := _) rfl (fun K hK => ?_) AllReadyH.nil
  go_simp
  refine hK.out _ _ (SX4.out _ (.inr (.inr rfl))) (fun hHeld => ?_)
  clear hK K
  try simp only [Act.put, List.setIfInBounds_toArray, List.set_cons_zero, List.set_cons_succ]
  refine wpAnyH_ready (rs := [15]) (by kernel_rfl) (by simp) ?_
  refine AllReadyH.cons (o := _) rfl (fun K hK => ?_) AllReadyH.nil
  go_simp
  refine hK.out _ _ (SX4.out _ (.inr (.inr rfl))) (fun hHeld => ?_)
  clear hK K
  try simp only [Act.put, List.setIfInBounds_toArray, List.set_cons_zero, List.set_cons_succ]
  refine wpAnyH_done (by kernel_rfl) ?_ _
  refine Ends.last rfl (fun K hK => ?_)
  go_simp
  refine hK.out _ _ ?_
  clear hK K
  go_wp2
  go_end0
  exact ⟨rfl, Am.Rd.of HF.out R2.out (N3.out.trans R3.out)⟩
end Go.Proofs.YtgjpjmolfdiahaaDoor
