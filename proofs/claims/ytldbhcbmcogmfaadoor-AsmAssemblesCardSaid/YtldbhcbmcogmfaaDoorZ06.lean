import Derived.Test.YtldbhcbmcogmfaaDoorZ05
import Derived.Shelf.Strings.SplitShaped
import Derived.Laws.IdiomCopy
set_option linter.all false
/- Package asm: labels, by their contract. -/
namespace Go.Proofs.YtldbhcbmcogmfaaDoor
open Go.RowKit Go.Lib
set_option linter.unusedVariables false

theorem Am.Rq.pushL {w : World} {b ln : Nat} {st : Am.St} {ml : List (List UInt8 × Nat)} {pv lv wv : Value} {m : Nat} (h : Am.Rq w b ln st ml pv lv wv m) (s : ByteArray) (x : Nat) (hs : st.lb.length ≤ 100000) :
    ∃ v' w2, (Builtin.append_ #[27, 27] 27 #[lv, .slice (some ⟨w.heap.size, 0, none⟩) 1 1]).run Tryd.prog (w.alloc (.cells #[.string s, .int .i64 x] 37)).drew = .ok v' w2 ∧ Am.Rq (w2.setCell ⟨b, 2, none⟩ v') b ln ⟨st.pr, st.lb ++ [(s.data.toList, x)], st.ws⟩ ml pv v' wv m ∧ Am.Nx w (w2.setCell ⟨b, 2, none⟩ v') (Am.ft b m pv lv wv) (Am.ft b m pv v' wv) ∧ (∃ A c, v' = .slice A (st.lb.length + 1) c) ∧
      ∀ W, W = w.drew ∨ W = (w.alloc (.cells #[.string s, .int .i64 x] 37)).drew ∨ W = w2 → Blk W b 54 #[.int .i64 ln, pv, lv, .map (some m), wv] := by
  obtain ⟨i0, hi, hz, hsz, hby⟩ := Am.parts Am.label_info
  have e3 : #[Value.string s, .int .i64 x] = (Am.lb1 (s.data.toList, x)).toArray := by simp [Am.lb1]
  rw [e3]
  generalize hW1 : (w.alloc (.cells (Am.lb1 (s.data.toList, x)).toArray 37)).drew = W1
  have g1 : w.grownBy W1 none := by rw [← hW1]; exact only_drewN (only_alloc (only_refl _ none) _) 1
  have b1 : Blk W1 w.heap.size 37 (Am.lb1 (s.data.toList, x)).toArray := by rw [← hW1]; exact (Blk.new w 37 _).drewN 1
  have hsrc : Src Tryd.prog 2 27 (.slice (some ⟨w.heap.size, 0, none⟩) 1 1) 1 (Am.lb1 (s.data.toList, x)) W1 := Src.ofSlice _ Tryd.underlying27 _ _ _ _ (by simp [Am.lb1]) (fun k u hu => by
    rw [addr_at, Nat.zero_add, b1.cell k]
    simpa using hu) (by intro u hu; simp [Am.lb1] at hu; rcases hu with rfl | rfl <;> rfl)
  obtain ⟨v', w2, hk, hr, hg, ho⟩ := run_pushZ (P := Tryd.prog) W1 27 37 27 i0 _ 24 Tryd.underlying27 hi hz hsz hby (by omega) rfl _ _ _ (h.lb.grown g1) (Am.lbL_one _) _ _ hsrc (by omega)
  have hl : (st.lb ++ [(s.data.toList, x)]).length = st.lb.length + 1 := by simp
  have hy : Am.lbL st.lb ++ Am.lb1 (s.data.toList, x) = Am.lbL (st.lb ++ [(s.data.toList, x)]) := by simp [Am.lbL]
  obtain ⟨q1, q2, q3⟩ := h.setL g1 hg ho (st.lb ++ [(s.data.toList, x)]) (by rw [hl, ← hy]; exact hr)
  refine ⟨v', w2, hk, q2, q3, hr.form, fun W hW => ?_⟩
  rcases hW with rfl | rfl | rfl
  · exact h.blk.drewN 1
  · exact h.blk.only g1 (by simp)
  · exact q1
/-- What a label makes of what was read. -/
def Am.labV (ln : Nat) (s : List UInt8) (st : Am.St) : Int × Am.St := if Am.isName s = true then (if (Am.look st.lb s).isSome = true then (14, st) else (0, ⟨st.pr, st.lb ++ [(s, st.pr.length)], st.ws⟩)) else (3, st)
set_option maxRecDepth 20000 in
set_option maxHeartbeats 1600000 in
theorem Am.label_any (b ln : Nat) (st : Am.St) (F : Nat → Prop) (s : ByteArray) (hs : s.size ≤ 100000) (w : World) (h : Am.Rd w b ln st F) (hp : st.pr.length ≤ 100000) (hlb : st.lb.length ≤ 100000) :
    Calls Tryd.prog 45 #[.pointer (some ⟨b, 0, none⟩), .string s] w (Am.stP w b ln F (Am.labV ln s.data.toList st)) := by
  obtain ⟨pv, lv, wv, m, hR, hF⟩ := h
  have HI := Lib.hid (Am.isname_any s w)
  have HR := Lib.hid hR
  have HF := Lib.hid hF
  have HP := Lib.hid (And.intro hp hlb)
  have hsm : s.size ≤ maxLen := by unfold maxLen; omega
  by_cases hn : Am.isName s.data.toList = true
  case neg =>
    have hv : Am.labV ln s.data.toList st = (3, st) := by unfold Am.labV; rw [if_neg hn]
    rw [hv, Am.stP_bad (by decide)]
    rw [show Am.isName s.data.toList = false from by simpa using hn] at HI
    have HG := Lib.hid (fun (W : World) (q : w.grownBy W none) => Am.giveup_any b ln 3 W (by rw [Am.kc q HR.out.blk.lt 0]; exact HR.out.blk.cell 0))
    clear hv hn hR hF hp hlb hsm hs
    go_enter Tryd.func45, Tryd.ntmps45
    go_wp2_with (first
      | (go_at_call 56; (with_reducible refine HI.out.mono ?_); rintro r w2 ⟨rfl, g2⟩; have G2 := Lib.hid g2; clear g2)
      | (go_at_call 47; (with_reducible refine (HG.out _ G2.out).mono ?_); rintro r w3 ⟨rfl, rfl⟩))
    exact ⟨rfl, rfl, Keeps.of_only G2.out (fun k hk => by cases hk)⟩
  rw [hn] at HI
  have hv0 : Am.labV ln s.data.toList st = if (Am.look st.lb s.data.toList).isSome = true then (14, st) else (0, ⟨st.pr, st.lb ++ [(s.data.toList, st.pr.length)], st.ws⟩) := by unfold Am.labV; rw [if_pos hn]
  have HSM := Lib.hid hsm
  clear hn hs hsm
  cases e : Am.look st.lb s.data.toList with
  | some n =>
    rw [hv0, e, if_pos (show (some n).isSome = true from rfl), Am.stP_bad (by decide)]
    have HE := Lib.hid e
    clear hv0 hR hF hp hlb e
    go_enter Tryd.func45, Tryd.ntmps45
    go_upto_region 2 with (first
      | (go_at_call 56; (with_reducible refine HI.out.mono ?_); rintro r w2 ⟨rfl, g2⟩; have G2 := Lib.hid g2; clear g2))
    have c0 : w2.cell? ⟨b, 0, none⟩ = some (.int .i64 ln) := (HR.out.grown G2.out).blk.cell 0
    have c3 : w2.cell? ⟨b, 3, none⟩ = some (.map (some m)) := (HR.out.grown G2.out).blk.cell 3
    have hlk := Am.run_look_some HSM.out (HR.out.grown G2.out).mp HE.out
    have HG := Lib.hid (Am.giveup_any b ln 14 w2 c0)
    go_wp2_with (first
      | (go_at_call 47; (with_reducible refine HG.out.mono ?_); rintro r w3 ⟨rfl, rfl⟩))
    exact ⟨rfl, rfl, Keeps.of_only G2.out (fun k hk => by cases hk)⟩
  | none =>
  rw [hv0, e, if_neg (show ¬ (none : Option Nat).isSome = true from by decide), Am.stP_ok]
  have HE := Lib.hid e
  clear hv0 hR hF hp hlb e
  go_enter Tryd.func45, Tryd.ntmps45
  go_upto_region 2 with (first
    | (go_at_call 56; (with_reducible refine HI.out.mono ?_); rintro r w2 ⟨rfl, g2⟩; have G2 := Lib.hid g2; clear g2))
  obtain ⟨pA, pc, rfl⟩ := HR.out.pr.form
  obtain ⟨lA, lc, rfl⟩ := HR.out.lb.form
  have HR2 := Lib.hid (HR.out.grown G2.out)
  have c3 : w2.cell? ⟨b, 3, none⟩ = some (.map (some m)) := HR2.out.blk.cell 3
  have hlk := Am.run_look_none HSM.out HR2.out.mp HE.out
  go_upto_region 5 with (fail)
  clear hlk c3
  obtain ⟨w3, hput, hm3, hg3⟩ := Am.run_put (n := st.pr.length) HSM.out HR2.out.mp.drew HE.out (by have := HP.out.2; unfold maxLen; omega)
  have hR2d : Am.Rr w2.drew b ln st (.slice pA st.pr.length pc) (.slice lA st.lb.length lc) wv m := HR2.out.grown (only_drewN (only_refl _ _) 1)
  obtain ⟨q3, n3⟩ := hR2d.setM hg3 hm3
  have SX := Lib.hid (show w2.drew.cell? ⟨b, 1, none⟩ = some (.slice pA st.pr.length pc) ∧ w2.drew.cell? ⟨b, 3, none⟩ = some (.map (some m)) from ⟨hR2d.blk.cell 1, hR2d.blk.cell 3⟩)
  have Q3 := Lib.hid q3
  have N3 := Lib.hid (((Am.Nx.of_grown G2.out (Am.ft b m (.slice pA st.pr.length pc) (.slice lA st.lb.length lc) wv)).trans (Am.Nx.of_grown (only_drewN (only_refl w2 _) 1) _)).trans n3)
  clear q3 n3 hR2d hg3 hm3
  refine wp_region_ends2 10 (fun W => W.cell? ⟨b, 1, none⟩ = some (.slice pA st.pr.length pc) ∧ W.cell? ⟨b, 3, none⟩ = some (.map (some m))) (by kernel_rfl) (by kernel_rfl) SX.out (fun hHeld => ?_)
  simp only [List.take_succ_cons, List.take_zero]
  refine wpAnyH_take (i := 0) (oi := _) (v := ?_) rfl (by kernel_rfl) (by kernel_rfl) (by kernel_rfl) (fun _ _ _ h => h) (Or.inl ⟨by rfl, ?_⟩) (by assumption) ?_
  case refine_2 => intro w hSw; (try dsimp only at hSw); go_simp; try with_reducible rfl
  try simp only [Act.put, List.setIfInBounds_toArray, List.set_cons_zero, List.set_cons_succ]
  refine wpAnyH_take (i := 1) (oi := _) (v := ?_) rfl (by kernel_rfl) (by kernel_rfl) (by kernel_rfl) (fun _ _ _ h => h) (Or.inl ⟨by rfl, ?_⟩) (by assumption) ?_
  case refine_2 => intro w hSw; (try dsimp only at hSw); go_simp; try with_reducible rfl
  try simp only [Act.put, List.setIfInBounds_toArray, List.set_cons_zero, List.set_cons_succ]
  refine wpAnyH_take (i := 2) (oi := _) (v := ?_) rfl (by kernel_rfl) (by kernel_rfl) (by kernel_rfl) (fun _ _ _ h => h) (Or.inl ⟨by rfl, ?_⟩) (by assumption) ?_
  case refine_2 => intro w hSw; (try dsimp only at hSw); go_simp; try with_reducible rfl
  try simp only [Act.put, List.setIfInBounds_toArray, List.set_cons_zero, List.set_cons_succ]
  refine wpAnyH_take (i := 3) (oi := _) (v := ?_) rfl (by kernel_rfl) (by kernel_rfl) (by kernel_rfl) (fun _ _ _ h => h) (Or.inl ⟨by rfl, ?_⟩) (by assumption) ?_
  case refine_2 => intro w hSw; (try dsimp only at hSw); go_simp; try with_reducible rfl
  try simp only [Act.put, List.setIfInBounds_toArray, List.set_cons_zero, List.set_cons_succ]
  refine wpAnyH_take (i := 4) (oi := _) (v := ?_) rfl (by kernel_rfl) (by kernel_rfl) (by kernel_rfl) (fun _ _ _ h => h) (Or.inl ⟨by rfl, ?_⟩) (by assumption) ?_
  case refine_2 => intro w hSw; (try dsimp only at hSw); go_simp; try with_reducible rfl
  try simp only [Act.put, List.setIfInBounds_toArray, List.set_cons_zero, List.set_cons_succ]
  refine wpAnyH_take (i := 5) (oi := _) (v := ?_) rfl (by kernel_rfl) (by kernel_rfl) (by kernel_rfl) (fun _ _ _ h => h) (Or.inl ⟨by rfl, ?_⟩) (by assumption) ?_
  case refine_2 => intro w hSw; (try dsimp only at hSw); go_simp; try with_reducible rfl
  try simp only [Act.put, List.setIfInBounds_toArray, List.set_cons_zero, List.set_cons_succ]
  refine wpAnyH_take (i := 6) (oi := _) (v := ?_) rfl (by kernel_rfl) (by kernel_rfl) (by kernel_rfl) (fun _ _ _ h => h) (Or.inl ⟨by rfl, ?_⟩) (by assumption) ?_
  case refine_2 => intro w hSw; (try dsimp only at hSw); go_simp; try with_reducible rfl
  try simp only [Act.put, List.setIfInBounds_toArray, List.set_cons_zero, List.set_cons_succ]
  refine wpAnyH_take (i := 7) (oi := _) (v := ?_) rfl (by kernel_rfl) (by kernel_rfl) (by kernel_rfl) (fun _ _ _ h => h) (Or.inl ⟨by rfl, ?_⟩) (by assumption) ?_
  case refine_2 => intro w hSw; (try dsimp only at hSw); go_simp; try with_reducible rfl
  try simp only [Act.put, List.setIfInBounds_toArray, List.set_cons_zero, List.set_cons_succ]
  refine wpAnyH_take (i := 8) (oi := _) (v := ?_) rfl (by kernel_rfl) (by kernel_rfl) (by kernel_rfl) (fun _ _ _ h => h) (Or.inl ⟨by rfl, ?_⟩) (by assumption) ?_
  case refine_2 => intro w hSw; (try dsimp only at hSw); go_simp; try with_reducible rfl
  try simp only [Act.put, List.setIfInBounds_toArray, List.set_cons_zero, List.set_cons_succ]
  refine wpAnyH_take (i := 9) (oi := _) (v := ?_) rfl (by kernel_rfl) (by kernel_rfl) (by kernel_rfl) (fun _ _ _ h => h) (Or.inl ⟨by rfl, ?_⟩) (by assumption) ?_
  case refine_2 => intro w hSw; (try dsimp only at hSw); go_simp; try with_reducible rfl
  try simp only [Act.put, List.setIfInBounds_toArray, List.set_cons_zero, List.set_cons_succ]
  refine wpAnyH_done (by kernel_rfl) ?_ _
  refine Ends.last rfl (fun K hK => ?_)
  go_simp
  refine hK.out _ _ ?_
  clear hK K hput hHeld
  obtain ⟨v4, w4, hk4, r2, r3, ⟨A4, c4, rfl⟩, r5⟩ := Q3.out.pushL s st.pr.length (by exact HP.out.2)
  have HK4 := Lib.hid hk4
  have R2 := Lib.hid r2
  have R3 := Lib.hid r3
  have SX4 := Lib.hid (show ∀ W, W = w3.drew ∨ W = (w3.alloc (.cells #[.string s, .int .i64 st.pr.length] 37)).drew ∨ W = w4 → W.cell? ⟨b, 1, none⟩ = some (.slice pA st.pr.length pc) ∧ W.cell? ⟨b, 2, none⟩ = some (.slice lA st.lb.length lc) from fun W hW => by
    have q := r5 W hW
    exact ⟨q.cell 1, q.cell 2⟩)
  have y1 : w4.cell? ⟨b, 2, none⟩ = some (.slice lA st.lb.length lc) := (SX4.out w4 (.inr (.inr rfl))).2
  have y2 : w4.frozen? ⟨b, 2, none⟩ = false := (r5 w4 (.inr (.inr rfl))).free 2
  clear hk4 r2 r3 r5 SX
  go_upto_region 6 with (fail)
  refine wp_region_ends2 16 (fun W => W.cell? ⟨b, 1, none⟩ = some (.slice pA st.pr.length pc) ∧ W.cell? ⟨b, 2, none⟩ = some (.slice lA st.lb.length lc)) (by kernel_rfl) (by kernel_rfl) (SX4.out _ (.inl rfl)) (fun hHeld => ?_)
  simp only [List.take_succ_cons, List.take_zero]
  refine wpAnyH_take (i := 0) (oi := _) (v := ?_) rfl (by kernel_rfl) (by kernel_rfl) (by kernel_rfl) (fun _ _ _ h => h) (Or.inl ⟨by rfl, ?_⟩) (by assumption) ?_
  case refine_2 => intro w hSw; (try dsimp only at hSw); go_simp; try with_reducible rfl
  try simp only [Act.put, List.setIfInBounds_toArray, List.set_cons_zero, List.set_cons_succ]
  refine wpAnyH_take (i := 1) (oi := _) (v := ?_) rfl (by kernel_rfl) (by kernel_rfl) (by kernel_rfl) (fun _ _ _ h => h) (Or.inl ⟨by rfl, ?_⟩) (by assumption) ?_
  case refine_2 => intro w hSw; (try dsimp only at hSw); go_simp; try with_reducible rfl
  try simp only [Act.put, List.setIfInBounds_toArray, List.set_cons_zero, List.set_cons_succ]
  refine wpAnyH_take (i := 2) (oi := _) (v := ?_) rfl (by kernel_rfl) (by kernel_rfl) (by kernel_rfl) (fun _ _ _ h => h) (Or.inl ⟨by rfl, ?_⟩) (by assumption) ?_
  case refine_2 => intro w hSw; (try dsimp only at hSw); go_simp; try with_reducible rfl
  try simp only [Act.put, List.setIfInBounds_toArray, List.set_cons_zero, List.set_cons_succ]
  refine wpAnyH_take (i := 3) (oi := _) (v := ?_) rfl (by kernel_rfl) (by kernel_rfl) (by kernel_rfl) (fun _ _ _ h => h) (Or.inl ⟨by rfl, ?_⟩) (by assumption) ?_
  case refine_2 => intro w hSw; (try dsimp only at hSw); go_simp; try with_reducible rfl
  try simp only [Act.put, List.setIfInBounds_toArray, List.set_cons_zero, List.set_cons_succ]
  refine wpAnyH_take (i := 4) (oi := _) (v := ?_) rfl (by kernel_rfl) (by kernel_rfl) (by kernel_rfl) (fun _ _ _ h => h) (Or.inl ⟨by rfl, ?_⟩) (by assumption) ?_
  case refine_2 => intro w hSw; (try dsimp only at hSw); go_simp; try with_reducible rfl
  try simp only [Act.put, List.setIfInBounds_toArray, List.set_cons_zero, List.set_cons_succ]
  refine wpAnyH_take (i := 5) (oi := _) (v := ?_) rfl (by kernel_rfl) (by kernel_rfl) (by kernel_rfl) (fun _ _ _ h => h) (Or.inl ⟨by rfl, ?_⟩) (by assumption) ?_
  case refine_2 => intro w hSw; (try dsimp only at hSw); go_simp; try with_reducible rfl
  try simp only [Act.put, List.setIfInBounds_toArray, List.set_cons_zero, List.set_cons_succ]
  refine wpAnyH_take (i := 6) (oi := _) (v := ?_) rfl (by kernel_rfl) (by kernel_rfl) (by kernel_rfl) (fun _ _ _ h => h) (Or.inl ⟨by rfl, ?_⟩) (by assumption) ?_
  case refine_2 => intro w hSw; (try dsimp only at hSw); go_simp; try with_reducible rfl
  try simp only [Act.put, List.setIfInBounds_toArray, List.set_cons_zero, List.set_cons_succ]
  refine wpAnyH_take (i := 7) (oi := _) (v := ?_) rfl (by kernel_rfl) (by kernel_rfl) (by kernel_rfl) (fun _ _ _ h => h) (Or.inl ⟨by rfl, ?_⟩) (by assumption) ?_
  case refine_2 => intro w hSw; (try dsimp only at hSw); go_simp; try with_reducible rfl
  try simp only [Act.put, List.setIfInBounds_toArray, List.set_cons_zero, List.set_cons_succ]
  refine wpAnyH_take (i := 8) (oi := _) (v := ?_) rfl (by kernel_rfl) (by kernel_rfl) (by kernel_rfl) (fun _ _ _ h => h) (Or.inl ⟨by rfl, ?_⟩) (by assumption) ?_
  case refine_2 => intro w hSw; (try dsimp only at hSw); go_simp; try with_reducible rfl
  try simp only [Act.put, List.setIfInBounds_toArray, List.set_cons_zero, List.set_cons_succ]
  refine wpAnyH_take (i := 9) (oi := _) (v := ?_) rfl (by kernel_rfl) (by kernel_rfl) (by kernel_rfl) (fun _ _ _ h => h) (Or.inl ⟨by rfl, ?_⟩) (by assumption) ?_
  case refine_2 => intro w hSw; (try dsimp only at hSw); go_simp; try with_reducible rfl
  try simp only [Act.put, List.setIfInBounds_toArray, List.set_cons_zero, List.set_cons_succ]
  refine wpAnyH_take (i := 10) (oi := _) (v := ?_) rfl (by kernel_rfl) (by kernel_rfl) (by kernel_rfl) (fun _ _ _ h => h) (Or.inl ⟨by rfl, ?_⟩) (by assumption) ?_
  case refine_2 => intro w hSw; (try dsimp only at hSw); go_simp; try with_reducible rfl
  try simp only [Act.put, List.setIfInBounds_toArray, List.set_cons_zero, List.set_cons_succ]
  refine wpAnyH_take (i := 11) (oi := _) (v := ?_) rfl (by kernel_rfl) (by kernel_rfl) (by kernel_rfl) (fun _ _ _ h => h) (Or.inl ⟨by rfl, ?_⟩) (by assumption) ?_
  case refine_2 => intro w hSw; (try dsimp only at hSw); go_simp; try with_reducible rfl
  try simp only [Act.put, List.setIfInBounds_toArray, List.set_cons_zero, List.set_cons_succ]
  refine wpAnyH_ready (rs := [12]) (by kernel_rfl) (by simp) ?_
  refine AllReadyH.cons (o := _) rfl (fun K hK => ?_) AllReadyH.nil
  go_simp
  refine hK.out _ _ (SX4.out _ (.inr (.inl rfl))) (fun hHeld => ?_)
  clear hK K
  try simp only [Act.put, List.setIfInBounds_toArray, List.set_cons_zero, List.set_cons_succ]
  refine wpAnyH_ready (rs := [13]) (by kernel_rfl) (by simp) ?_
  refine AllReadyH.cons (o := _) rfl (fun K hK => ?_) AllReadyH.nil
  refine Am.step_app_eq rfl (.tmp 37) (.tmp 45) 27 rfl HK4.out rfl rfl ?_
  refine hK.out _ _ (SX4.out _ (.inr (.inr rfl))) (fun hHeld => ?_)
  clear hK K
  try simp only [Act.put, List.setIfInBounds_toArray, List.set_cons_zero, List.set_cons_succ]
  refine wpAnyH_ready (rs := [14]) (by kernel_rfl) (by simp) ?_
  refine AllReadyH.cons (o := _) rfl (fun K hK => ?_) AllReadyH.nil
  go_simp
  refine hK.out _ _ (SX4.out _ (.inr (.inr rfl))) (fun hHeld => ?_)
  clear hK K
  try simp only [Act.put, List.setIfInBounds_toArray, List.set_cons_zero, List.set_cons_succ]
  refine wpAnyH_ready (rs := [15]) (by kernel_rfl) (by simp) ?_
  refine AllReadyH.cons (o := _) rfl (fun K hK => ?_) AllReadyH.nil
  go_simp
  refine hK.out _ _ (SX4.out _ (.inr (.inr rfl))) (fun hHeld => ?_)
  clear hK K
  try simp only [Act.put, List.setIfInBounds_toArray, List.set_cons_zero, List.set_cons_succ]
  refine wpAnyH_done (by kernel_rfl) ?_ _
  refine Ends.last rfl (fun K hK => ?_)
  go_simp
  refine hK.out _ _ ?_
  clear hK K
  go_wp2
  go_end0
  exact ⟨rfl, Am.Rd.of HF.out R2.out (N3.out.trans R3.out)⟩
end Go.Proofs.YtldbhcbmcogmfaaDoor

/- Package asm: a text's parts, and what is kept of the program's tables, by their contracts. -/
namespace Go.Proofs
open Go.Shelf
def Tryd.splitM_ren : Go.Shelf.Ren := ⟨fun | 146 => 43 | 221 => 54 | 268 => 66 | 138 => 67 | 143 => 68 | 195 => 77 | 197 => 78 | 218 => 79 | 219 => 80 | 260 => 91 | 217 => 92 | 225 => 93 | 224 => 94 | 267 => 95 | 266 => 101 | 314 => 102 | n => n, fun | 9 => 9 | 31 => 57 | 3 => 3 | 4 => 4 | 0 => 0 | 105 => 120 | 21 => 21 | 5 => 5 | 46 => 113 | 119 => 137 | 139 => 140 | 138 => 139 | 146 => 141 | 51 => 131 | n => n, fun | 1 => 2 | 3 => 3 | 4 => 4 | n => n⟩
theorem Tryd.splitM : Go.Proofs.LaysM.n146 Tryd.prog Tryd.splitM_ren := {
  mixed := by kernel_rfl
  f138 := Tryd.func67.trans (congrArg some (by kernel_rfl))
  f143 := Tryd.func68.trans (congrArg some (by kernel_rfl))
  f146 := Tryd.func43.trans (congrArg some (by kernel_rfl))
  f195 := Tryd.func77.trans (congrArg some (by kernel_rfl))
  f197 := Tryd.func78.trans (congrArg some (by kernel_rfl))
  f217 := Tryd.func92.trans (congrArg some (by kernel_rfl))
  f218 := Tryd.func79.trans (congrArg some (by kernel_rfl))
  f219 := Tryd.func80.trans (congrArg some (by kernel_rfl))
  f221 := Tryd.func54.trans (congrArg some (by kernel_rfl))
  f224 := Tryd.func94.trans (congrArg some (by kernel_rfl))
  f225 := Tryd.func93.trans (congrArg some (by kernel_rfl))
  f260 := Tryd.func91.trans (congrArg some (by kernel_rfl))
  f266 := Tryd.func101.trans (congrArg some (by kernel_rfl))
  f267 := Tryd.func95.trans (congrArg some (by kernel_rfl))
  f268 := Tryd.func66.trans (congrArg some (by kernel_rfl))
  f314 := Tryd.func102.trans (congrArg some (by kernel_rfl))
  t0 := Tryd.underlying0
  a0 := Tryd.isAgg0
  z0 := Tryd.sizeOf0
  v0 := Tryd.zeroValue0
  t3 := Tryd.underlying3
  a3 := Tryd.isAgg3
  z3 := Tryd.sizeOf3
  v3 := Tryd.zeroValue3
  t4 := Tryd.underlying4
  a4 := Tryd.isAgg4
  z4 := Tryd.sizeOf4
  v4 := Tryd.zeroValue4
  t5 := Tryd.underlying5
  a5 := Tryd.isAgg5
  z5 := Tryd.sizeOf5
  v5 := Tryd.zeroValue5
  t9 := Tryd.underlying9
  a9 := Tryd.isAgg9
  z9 := Tryd.sizeOf9
  v9 := Tryd.zeroValue9
  t21 := Tryd.underlying21
  a21 := Tryd.isAgg21
  z21 := Tryd.sizeOf21
  v21 := Tryd.zeroValue21
  t31 := Tryd.underlying57
  a31 := Tryd.isAgg57
  z31 := Tryd.sizeOf57
  v31 := Tryd.zeroValue57
  t46 := Tryd.underlying113
  a46 := Tryd.isAgg113
  z46 := Tryd.sizeOf113
  v46 := Tryd.zeroValue113
  t51 := Tryd.underlying131
  a51 := Tryd.isAgg131
  z51 := Tryd.sizeOf131
  v51 := Tryd.zeroValue131
  t105 := Tryd.underlying120
  a105 := Tryd.isAgg120
  z105 := Tryd.sizeOf120
  v105 := Tryd.zeroValue120
  t119 := Tryd.underlying137
  a119 := Tryd.isAgg137
  z119 := Tryd.sizeOf137
  t138 := Tryd.underlying139
  a138 := Tryd.isAgg139
  z138 := Tryd.sizeOf139
  v138 := Tryd.zeroValue139
  t139 := Tryd.underlying140
  a139 := Tryd.isAgg140
  z139 := Tryd.sizeOf140
  v139 := Tryd.zeroValue140
  t146 := Tryd.underlying141
  a146 := Tryd.isAgg141
  z146 := Tryd.sizeOf141
  v146 := Tryd.zeroValue141
  g1 := by kernel_rfl
  g3 := by kernel_rfl
  g4 := by kernel_rfl
  i0 := by kernel_rfl
  i3 := by kernel_rfl
  i4 := by kernel_rfl
  i5 := by kernel_rfl
  i9 := by kernel_rfl
  i21 := by kernel_rfl
  i31 := by kernel_rfl
  i46 := by kernel_rfl
  i51 := by kernel_rfl
  i105 := by kernel_rfl
  i138 := by kernel_rfl
  i139 := by kernel_rfl
  i146 := by kernel_rfl
  m1 := by kernel_rfl
  s1_3 := fun w h => Go.Proofs.cell_of_shapedOpen_int (zero := #[.int .i64 0]) (t := 3) h (of_decide_eq_true (by kernel_rfl)) (by kernel_rfl) rfl (by kernel_rfl) (by kernel_rfl) Tryd.underlying3
  m3 := by kernel_rfl
  m4 := by kernel_rfl }
end Go.Proofs
namespace Go.Proofs.YtldbhcbmcogmfaaDoor
open Go.RowKit Go.Lib
set_option linter.unusedVariables false

/-- The program's tables, as1 they were laid. -/
structure Am.Gl (w : World) : Prop where
  nm : Nm w
  mx : ∃ k : Int, w.cell? ⟨2, 0, none⟩ = some (.int .i64 k)
  sz : 3 ≤ w.heap.size
theorem Am.Gl.keeps {w w' : World} {F : Nat → Prop} (h : Am.Gl w) (k : Keeps F w w') (hF : ∀ i, F i → 3 ≤ i) : Am.Gl w' := by
  have hs := h.sz
  have hk : ∀ i, i < 3 → w'.heap[i]? = w.heap[i]? := fun i hi => k.2.2.2.2 i (by omega) (fun e => by have := hF i e; omega)
  refine ⟨⟨fun j hj => ?_, by have := k.size; omega⟩, ?_, by have := k.size; omega⟩
  · rw [show w'.cell? ⟨0, j, none⟩ = w.cell? ⟨0, j, none⟩ from by simp only [World.cell?, hk 0 (by omega)]]
    exact h.nm.at' j hj
  · obtain ⟨q, hq⟩ := h.mx
    exact ⟨q, by rw [show w'.cell? ⟨2, 0, none⟩ = w.cell? ⟨2, 0, none⟩ from by simp only [World.cell?, hk 2 (by omega)]]; exact hq⟩
theorem Am.Gl.grown {w w' : World} (h : Am.Gl w) (g : w.grownBy w' none) : Am.Gl w' := h.keeps (F := fun _ => False) (Keeps.of_only g (fun k hk => by cases hk)) (fun i hi => hi.elim)
def Am.strs (L : List (List UInt8)) : List Value := L.map fun x => .string ⟨x.toArray⟩
theorem Am.split_cells (s : ByteArray) (y : UInt8) : (Go.Lib.splitB ⟨#[y]⟩ 0 (Go.Lib.countB s ⟨#[y]⟩) s).map Value.string = Am.strs (Am.spl y s.data.toList) := by
  rw [← Am.split_all, Am.strs, List.map_map]
  apply List.map_congr_left
  intro x _
  simp
theorem Am.split_count (s : ByteArray) (y : UInt8) : Go.Lib.countB s ⟨#[y]⟩ + 1 = (Am.spl y s.data.toList).length := by
  have h := congrArg List.length (Am.split_all s y)
  rw [List.length_map, Go.Lib.splitB_all ⟨#[y]⟩ (by show 1 ≤ 1; omega) 0 _ s rfl] at h
  exact h
theorem Am.split_any (y : UInt8) (s : ByteArray) (hs : s.size ≤ 100000) (w : World) (hg : Am.Gl w) :
    Calls Tryd.prog 43 #[.string s, .string ⟨#[y]⟩] w fun e w' => e = .returned (.slice (some ⟨w.heap.size, 0, none⟩) (Am.spl y s.data.toList).length (Am.spl y s.data.toList).length) ∧ w' = w.alloc (.cells (Am.strs (Am.spl y s.data.toList)).toArray 9) := by
  obtain ⟨k, hk⟩ := hg.mx
  have h : Calls Tryd.prog 43 #[.string s, .string ⟨#[y]⟩] w fun e w' => e = .returned (.slice (some ⟨w.heap.size, 0, none⟩) (Go.Lib.countB s ⟨#[y]⟩ + 1) (Go.Lib.countB s ⟨#[y]⟩ + 1)) ∧ w' = w.alloc (.cells ((Go.Lib.splitB ⟨#[y]⟩ 0 (Go.Lib.countB s ⟨#[y]⟩) s).map Value.string).toArray 9) :=
    Any.strings_Split { Tryd.splitM with } Tryd.splitM.i9 s ⟨#[y]⟩ k w (by omega) hk (by show 1 ≤ 1; omega)
  rw [Am.split_cells, Am.split_count] at h
  exact h
theorem Am.suf_yes {l : List UInt8} (h : l.getLast? = some 58) : Go.Lib.hasSuffix l [58] = true ∧ Go.Lib.trimSuffix l [58] = l.dropLast := by
  obtain ⟨a, rfl⟩ : ∃ a, l = a ++ [58] := by
    rw [List.getLast?_eq_some_iff] at h
    exact h
  have h1 : Go.Lib.hasSuffix (a ++ [58]) [58] = true := by
    unfold Go.Lib.hasSuffix
    rw [List.isSuffixOf_iff_suffix]
    exact List.suffix_append a [58]
  refine ⟨h1, ?_⟩
  unfold Go.Lib.trimSuffix
  rw [if_pos h1]
  simp
theorem Am.suf_no {l : List UInt8} (h : ¬ l.getLast? = some 58) : Go.Lib.hasSuffix l [58] = false := by
  cases e : Go.Lib.hasSuffix l [58] with
  | false => rfl
  | true =>
    exfalso
    unfold Go.Lib.hasSuffix at e
    rw [List.isSuffixOf_iff_suffix] at e
    obtain ⟨a, rfl⟩ := e
    exact h (by simp)
end Go.Proofs.YtldbhcbmcogmfaaDoor

/- Package asm: a text's lines gone through: what is kept from line to line, in plain form. -/
namespace Go.Proofs.YtldbhcbmcogmfaaDoor
open Go.RowKit Go.Lib
set_option linter.unusedVariables false

theorem Am.one_le {i : Nat} {l : Am.Ln} {st : Am.St} (h : (Am.one i l st).1 = 0) (hp : st.pr.length ≤ 1024) : (Am.one i l st).2.pr.length ≤ 1024 ∧ (Am.one i l st).2.lb.length ≤ st.lb.length + 1 ∧ (Am.one i l st).2.ws.length ≤ st.ws.length + 1 := by
  unfold Am.one at h ⊢
  by_cases h0 : l.kind = 0
  · simp only [h0, if_true]; omega
  · by_cases h1 : l.kind = 1
    · simp only [h1, if_true, Nat.one_ne_zero, if_false]
      by_cases hl : (Am.look st.lb l.nm).isSome = true
      · rw [if_pos hl]; simp; omega
      · rw [if_neg hl]; simp; omega
    · by_cases h2 : l.kind = 2
      · rw [if_neg h0, if_neg h1, if_pos h2] at h ⊢
        by_cases hl : 1024 < st.pr.length + l.bs.length
        · rw [if_pos hl] at h; simp at h
        · rw [if_neg hl]
          by_cases hn : l.nm = []
          · simp [hn]; omega
          · simp [hn]; omega
      · rw [if_neg h0, if_neg h1, if_neg h2]; simp; omega
theorem Am.go_at {L : List (List UInt8)} {k : Nat} {st : Am.St} (hk : k < L.length) : Am.go k (L.drop k) st = if (Am.one (k + 1) (Am.line L[k]) st).1 = 0 then Am.go (k + 1) (L.drop (k + 1)) (Am.one (k + 1) (Am.line L[k]) st).2 else ((Am.one (k + 1) (Am.line L[k]) st).1, k + 1, st) := by
  rw [List.drop_eq_getElem_cons hk]
  rfl
theorem Am.line_skip {x : List UInt8} (h : x = [] ∨ x.head? = some 35) (ln : Nat) (st : Am.St) : Am.one ln (Am.line x) st = (0, st) := by
  unfold Am.line Am.one
  rw [if_pos h]
  rfl
theorem Am.line_label {x : List UInt8} (h : ¬ (x = [] ∨ x.head? = some 35)) (h2 : x.getLast? = some 58) (ln : Nat) (st : Am.St) : Am.one ln (Am.line x) st = Am.labV ln x.dropLast st := by
  unfold Am.line Am.labV
  rw [if_neg h, if_pos h2]
  by_cases hn : Am.isName x.dropLast = true
  · rw [if_pos hn, if_pos hn]; rfl
  · rw [if_neg hn, if_neg hn]; rfl
theorem Am.line_sen {x v : List UInt8} {r : List (List UInt8)} (h : ¬ (x = [] ∨ x.head? = some 35)) (h2 : ¬ x.getLast? = some 58) (hs : Am.spl 32 x = v :: r) (ln : Nat) (st : Am.St) : Am.one ln (Am.line x) st = Am.senV ln v r st := by
  unfold Am.line Am.senV
  rw [if_neg h, if_neg h2, hs]
  rfl
/-- What a text makes, in memory; or giving up. -/
def Am.txP (w : World) (b : Nat) (F : Nat → Prop) (z : Int × Nat × Am.St) (r : Ending) (w' : World) : Prop :=
  if z.1 = 0 then r = .returned (.tuple #[]) ∧ ∃ ln' F', Am.Rd w' b ln' z.2.2 F' ∧ Am.Nx w w' F F' else r = .panicked (Am.chn z.2.1 z.1) ∧ Keeps F w w'
/-- What is kept from line to line. -/
structure Am.TxI (w1 wr : World) (b : Nat) (F : Nat → Prop) (L : List (List UInt8)) (st : Am.St) (k : Nat) (st' : Am.St) (F' : Nat → Prop) (ln' : Nat) : Prop where
  go : Am.go 0 L st = Am.go k (L.drop k) st'
  rd : Am.Rd wr b ln' st' F'
  nx : Am.Nx w1 wr F F'
  pr : st'.pr.length ≤ 1024
  lb : st'.lb.length ≤ k
  ws : st'.ws.length ≤ k
section
variable {w w1 wr w' : World} {b : Nat} {F F' F3 : Nat → Prop} {L : List (List UInt8)} {st st' : Am.St} {k ln' : Nat}
theorem Am.TxI.line (h : Am.TxI w1 wr b F L st k st' F' ln') (j : Nat) : ∃ F2, Am.TxI w1 (wr.setCell ⟨b, 0, none⟩ (.int .i64 j)) b F L st k st' F2 j := by
  obtain ⟨pv, lv, wv, m, hR, hF⟩ := h.rd
  obtain ⟨q1, q2⟩ := hR.line j
  obtain ⟨F2, r1, r2⟩ := Am.Rd.of hF q1 q2
  exact ⟨F2, h.go, r1, h.nx.trans r2, h.pr, h.lb, h.ws⟩
theorem Am.TxI.next {z : Int × Am.St} (h : Am.TxI w1 wr b F L st k st' F' ln') (hk : k < L.length) {x : List UInt8} (hx : x = L[k]) (hz : Am.one (k + 1) (Am.line x) st' = z) (h0 : z.1 = 0) (hr : ∃ F3, Am.Rd w' b (k + 1) z.2 F3 ∧ Am.Nx wr w' F' F3) : ∃ F3, Am.TxI w1 w' b F L st (k + 1) z.2 F3 (k + 1) := by
  obtain ⟨F3, r1, r2⟩ := hr
  subst hx
  subst hz
  obtain ⟨p1, p2, p3⟩ := Am.one_le h0 h.pr
  have := h.lb
  have := h.ws
  exact ⟨F3, by rw [h.go, Am.go_at hk, if_pos h0], r1, h.nx.trans r2, p1, by omega, by omega⟩
theorem Am.TxI.dies {z : Int × Am.St} (h : Am.TxI w1 wr b F L st k st' F' ln') (n0 : Am.Nx w w1 F F) (hk : k < L.length) {x : List UInt8} (hx : x = L[k]) (hz : Am.one (k + 1) (Am.line x) st' = z) (h0 : z.1 ≠ 0) (hr : Keeps F' wr w') : Am.txP w b F (Am.go 0 L st) (.panicked (Am.chn ((k + 1 : Nat) : Int) z.1)) w' := by
  subst hx
  have e : Am.go 0 L st = (z.1, k + 1, st') := by rw [h.go, Am.go_at hk, hz, if_neg h0]
  unfold Am.txP
  rw [e, if_neg h0]
  have n1 : Am.Nx wr w' F' F' := ⟨hr, fun i hi => .inl hi⟩
  exact ⟨rfl, ((n0.trans h.nx).trans n1).1⟩
theorem Am.TxI.done (h : Am.TxI w1 wr b F L st k st' F' ln') (n0 : Am.Nx w w1 F F) (hk : L.length ≤ k) : Am.txP w b F (Am.go 0 L st) (.returned (.tuple #[])) wr := by
  have e : Am.go 0 L st = (0, 0, st') := by rw [h.go, List.drop_of_length_le hk]; rfl
  unfold Am.txP
  rw [e, if_pos rfl]
  exact ⟨rfl, ln', F', h.rd, n0.trans h.nx⟩
end
end Go.Proofs.YtldbhcbmcogmfaaDoor

/- Package asm: a text's lines, by their contract. -/
namespace Go.Proofs.YtldbhcbmcogmfaaDoor
open Go.RowKit Go.Lib
set_option linter.unusedVariables false

set_option maxRecDepth 20000 in
set_option maxHeartbeats 3200000 in
theorem Am.text_any (b ln : Nat) (st : Am.St) (F : Nat → Prop) (s : ByteArray) (w : World) (h : Am.Rd w b ln st F) (hg : Am.Gl w) (hF8 : ∀ i, F i → 3 ≤ i) (hFl : ∀ i, F i → i < w.heap.size) (hs : s.size ≤ 65536) (hp : st.pr.length ≤ 1024) (hb : st.lb.length = 0 ∧ st.ws.length = 0) :
    Calls Tryd.prog 27 #[.pointer (some ⟨b, 0, none⟩), .string s] w (Am.txP w b F (Am.go 0 (Am.spl 10 s.data.toList) st)) := by
  have HSP := Lib.hid (Am.split_any 10 s (by omega) w hg)
  have hLl : (Am.spl 10 s.data.toList).length ≤ 65537 := by
    rw [Am.spl_len]
    have := List.count_le_length (a := (10 : UInt8)) (l := s.data.toList)
    have := Am.len s
    omega
  have HLX := Lib.hid (show ∀ x ∈ Am.spl 10 s.data.toList, x.length ≤ 65536 from fun x hx => by have := Am.spl_sum 10 s.data.toList x hx; have := Am.len s; omega)
  generalize Am.spl 10 s.data.toList = L at *
  obtain ⟨w1, hw1⟩ : ∃ W, W = w.alloc (.cells (Am.strs L).toArray 9) := ⟨_, rfl⟩
  have gw : w.grownBy w1 none := by rw [hw1]; exact only_alloc (only_refl _ _) _
  have B1 := Lib.hid (show Blk w1 w.heap.size 9 (Am.strs L).toArray from by rw [hw1]; exact Blk.new _ _ _)
  have N0 := Lib.hid (Am.Nx.of_grown gw F)
  have G1 := Lib.hid (hg.grown gw)
  have HNF := Lib.hid (show ¬ F w.heap.size from fun e => by have := hFl _ e; omega)
  have I0 := Lib.hid (show Am.TxI w1 w1 b F L st 0 st F ln from ⟨rfl, h.grown gw, Am.Nx.refl _ _, hp, by omega, by omega⟩)
  have HF8 := Lib.hid hF8
  rw [← hw1] at HSP
  have HLL := Lib.hid hLl
  generalize w.heap.size = g at *
  clear h hg hF8 hFl hs hp hb hw1 gw hLl
  have HCL := Lib.hid (show ∀ (wr : World), Keeps F w1 wr → ∀ j (hj : j < L.length), wr.cell? ⟨g, j, none⟩ = some (.string ⟨(L[j]).toArray⟩) from fun wr k j hj => by
    have := (B1.out.keeps k HNF.out).cell j
    rw [this]
    simp [Am.strs, hj])
  go_enter Tryd.func27, Tryd.ntmps27
  go_upto_region 1 with (first
    | (go_at_call 43; (with_reducible refine HSP.out.mono ?_); rintro r w1 ⟨rfl, rfl⟩))
  go_loopw [12] (fun y wr => ∃ (k : Nat) (st' : Am.St) (F' : Nat → Prop) (ln' : Nat), y = .int .i64 k ∧ k ≤ L.length ∧ Hid (Am.TxI w1 wr b F L st k st' F' ln')) (fun y _ => L.length - (Go.Lib.intOf y).toNat)
  case atStart => exact ⟨0, st, F, ln, rfl, by omega, I0⟩
  case round =>
    obtain ⟨k, st', F', ln', rfl, hk, HT⟩ := hrel
    by_cases hin : k < L.length
    case neg =>
      obtain rfl : k = L.length := by omega
      go_wp2
      go_end0
      exact HT.out.done N0.out (Nat.le_refl _)
    have KL := Lib.hid hin
    have i1 : (k : Int) < (L.length : Int) := by omega
    have i0 : (0 : Int) ≤ (k : Int) := by omega
    have u1 : IntKind.i64.wrap ((k : Int) + 1) = (k : Int) + 1 := by rw [IntKind.wrap_i64]; have := HLL.out; omega
    obtain ⟨x, hx⟩ : ∃ x, x = L[k] := ⟨_, rfl⟩
    have c0 : wr.cell? ⟨g, k, none⟩ = some (.string ⟨x.toArray⟩) := by rw [hx]; exact HCL.out wr HT.out.nx.1 k hin
    have HX := Lib.hid hx
    have HXL := Lib.hid (show x.length ≤ 65536 from by rw [hx]; exact HLX.out _ (List.getElem_mem hin))
    obtain ⟨e1, e2⟩ : wr.cell? ⟨b, 0, none⟩ = some (.int .i64 ln') ∧ wr.frozen? ⟨b, 0, none⟩ = false := by
      obtain ⟨pv, lv, wv, m, hR, hF⟩ := HT.out.rd
      exact ⟨hR.blk.cell 0, hR.blk.free 0⟩
    obtain ⟨F2, hT2⟩ := HT.out.line (k + 1)
    obtain ⟨w2, hw2⟩ : ∃ W, W = wr.setCell ⟨b, 0, none⟩ (.int .i64 ((k : Int) + 1)) := ⟨_, rfl⟩
    rw [show (((k + 1 : Nat) : Nat) : Int) = (k : Int) + 1 from by omega, ← hw2] at hT2
    have T2 := Lib.hid hT2
    have hsx : (⟨x.toArray⟩ : ByteArray).size = x.length := by show x.toArray.size = _; simp
    have HCS := Lib.hid (show Calls Tryd.prog 44 #[.string ⟨x.toArray⟩, .string ⟨#[58]⟩] w2 (fun e w' => e = .returned (.tuple #[.string ⟨(Go.Lib.trimSuffix (⟨x.toArray⟩ : ByteArray).data.toList (⟨#[58]⟩ : ByteArray).data.toList).toArray⟩, .bool (Go.Lib.hasSuffix (⟨x.toArray⟩ : ByteArray).data.toList (⟨#[58]⟩ : ByteArray).data.toList)]) ∧ w' = w2) from Any.strings_CutSuffix Tryd.cutSuffix ⟨x.toArray⟩ ⟨#[58]⟩ w2 (by have := HXL.out; omega))
    rw [show (⟨#[58]⟩ : ByteArray).data.toList = [58] from rfl, show (⟨x.toArray⟩ : ByteArray).data.toList = x from by simp] at HCS
    clear hT2 hk hx
    go_upto_region 4 with (fail)
    rw [← hw2]
    clear hw2 e1 e2 c0
    by_cases hsk : x = [] ∨ x.head? = some 35
    · have HZ := Lib.hid (Am.line_skip hsk (k + 1) st')
      generalize (⟨(Go.Lib.trimSuffix x [58]).toArray⟩ : ByteArray) = tr at HCS
      generalize Go.Lib.hasSuffix x [58] = hb at HCS
      have FIN := Lib.hid (show ∃ F3, Am.TxI w1 w2 b F L st (k + 1) st' F3 (k + 1) from T2.out.next (z := (0, st')) KL.out HX.out HZ.out rfl ⟨F2, T2.out.rd, Am.Nx.refl _ _⟩)
      rcases hsk with hsk | hsk
      · subst hsk
        go_wp2_with (first
          | (go_at_call 44; (with_reducible refine HCS.out.mono ?_); rintro r w2 ⟨rfl, rfl⟩))
        go_roundw
        case rel =>
          obtain ⟨F3, hh⟩ := FIN.out
          exact ⟨k + 1, st', F3, k + 1, by go_num, KL.out, Lib.hid hh⟩
        case measure =>
          have := KL.out
          simp [Go.Lib.intOf]
          omega
      · obtain ⟨c, y, rfl⟩ : ∃ c y, x = c :: y := by
          cases x with
          | nil => cases hsk
          | cons c y => exact ⟨c, y, rfl⟩
        obtain rfl : c = 35 := by simpa using hsk
        have j0 : 0 < (⟨(35 :: y).toArray⟩ : ByteArray).size := by rw [hsx]; simp
        have j1 : ((⟨(35 :: y).toArray⟩ : ByteArray)[0]'j0) = 35 := rfl
        have j2 : (0 : Int) < ((⟨(35 :: y).toArray⟩ : ByteArray).size : Int) := by omega
        have j3 : (⟨(35 :: y).toArray⟩ : ByteArray).toList.isEmpty = false := Am.str_some (Am.ne_of j0)
        generalize (⟨(35 :: y).toArray⟩ : ByteArray) = sx at *
        clear hsk
        go_wp2_with (first
          | (go_at_call 44; (with_reducible refine HCS.out.mono ?_); rintro r w2 ⟨rfl, rfl⟩))
        go_roundw
        case rel =>
          obtain ⟨F3, hh⟩ := FIN.out
          exact ⟨k + 1, st', F3, k + 1, by go_num, KL.out, Lib.hid hh⟩
        case measure =>
          have := KL.out
          simp [Go.Lib.intOf]
          omega
    have hne : x ≠ [] := fun e => hsk (.inl e)
    obtain ⟨c, y, hcy⟩ : ∃ c y, x = c :: y := by
      cases x with
      | nil => exact absurd rfl hne
      | cons c y => exact ⟨c, y, rfl⟩
    have j0 : 0 < (⟨x.toArray⟩ : ByteArray).size := by rw [hsx, hcy]; simp
    have j1 : ¬ ((((⟨x.toArray⟩ : ByteArray)[0]'j0).toNat : Int) = 35) := by
      intro e
      apply hsk
      right
      have h2 := Am.head_of j0
      rw [show (⟨x.toArray⟩ : ByteArray).data.toList = x from by simp] at h2
      rw [h2]
      congr 1
      exact UInt8.toNat_inj.1 (by rw [show (35 : UInt8).toNat = 35 from rfl]; omega)
    have j4 : ((((⟨x.toArray⟩ : ByteArray)[0]'j0).toNat : Int) == 35) = false := by rw [beq_eq_false_iff_ne]; exact j1
    have j2 : (0 : Int) < ((⟨x.toArray⟩ : ByteArray).size : Int) := by omega
    have j3 : (⟨x.toArray⟩ : ByteArray).toList.isEmpty = false := Am.str_some (Am.ne_of j0)
    have hxs : (⟨x.toArray⟩ : ByteArray).data.toList = x := by simp
    have T2R := Lib.hid T2.out.rd
    have HPB := Lib.hid (show st'.pr.length ≤ 100000 ∧ st'.lb.length ≤ 100000 ∧ st'.ws.length ≤ 100000 from by have := T2.out.pr; have := T2.out.lb; have := T2.out.ws; have := HLL.out; have := KL.out; omega)
    by_cases hla : x.getLast? = some 58
    · have HZ := Lib.hid (Am.line_label hsk hla (k + 1) st')
      obtain ⟨s1, s2⟩ := Am.suf_yes hla
      rw [s1, s2] at HCS
      have HLB := Lib.hid (show Calls Tryd.prog 45 #[.pointer (some ⟨b, 0, none⟩), .string ⟨x.dropLast.toArray⟩] w2 (Am.stP w2 b (k + 1) F2 (Am.labV (k + 1) x.dropLast st')) from by
        have := Am.label_any b (k + 1) st' F2 ⟨x.dropLast.toArray⟩ (by show x.dropLast.toArray.size ≤ 100000; have := HXL.out; simp; omega) w2 T2R.out HPB.out.1 HPB.out.2.1
        simpa using this)
      generalize (⟨x.dropLast.toArray⟩ : ByteArray) = tr at *
      generalize (⟨x.toArray⟩ : ByteArray) = sx at *
      clear hsk hne hcy hla s1 s2 hsx hxs
      go_wp2_with (first
        | (go_at_call 44; (with_reducible refine HCS.out.mono ?_); rintro r w2 ⟨rfl, rfl⟩)
        | (go_at_call 45; (with_reducible refine HLB.out.mono ?_); rintro r w9 hp; rcases Am.stP_cases hp with ⟨z0, rfl, hh⟩ | ⟨z0, rfl, r1⟩ <;> clear hp))
      · go_roundw
        case rel =>
          obtain ⟨F3, hh⟩ := T2.out.next KL.out HX.out HZ.out z0 hh
          exact ⟨k + 1, _, F3, k + 1, by go_num, KL.out, Lib.hid hh⟩
        case measure =>
          have := KL.out
          simp [Go.Lib.intOf]
          omega
      · exact ⟨rfl, T2.out.dies N0.out KL.out HX.out HZ.out z0 r1⟩
    · obtain ⟨v, rst, hsp⟩ := Am.spl_cons 32 x
      have HZ := Lib.hid (Am.line_sen hsk hla hsp (k + 1) st')
      rw [Am.suf_no hla] at HCS
      generalize (⟨(Go.Lib.trimSuffix x [58]).toArray⟩ : ByteArray) = tr at HCS
      have GL2 := Lib.hid (G1.out.keeps T2.out.nx.1 HF8.out)
      have HS2 := Lib.hid (Am.split_any 32 ⟨x.toArray⟩ (by rw [hsx]; have := HXL.out; omega) w2 GL2.out)
      rw [hxs, hsp] at HS2
      have HVL := Lib.hid (show ∀ y ∈ v :: rst, y.length ≤ 100000 from fun y hy => by have := Am.spl_sum 32 x y (by rw [hsp]; exact hy); have := HXL.out; omega)
      obtain ⟨w3, hw3⟩ : ∃ W, W = w2.alloc (.cells (Am.strs (v :: rst)).toArray 9) := ⟨_, rfl⟩
      have gw3 : w2.grownBy w3 none := by rw [hw3]; exact only_alloc (only_refl _ _) _
      have B3 := Lib.hid (show Blk w3 w2.heap.size 9 (Am.strs (v :: rst)).toArray from by rw [hw3]; exact Blk.new _ _ _)
      rw [← hw3] at HS2
      have G3 := Lib.hid gw3
      have L3 := Lib.hid (show w2.heap.size < w3.heap.size from by rw [hw3]; simp)
      have W3 := Lib.hid (show Am.Wd w3.drew (some ⟨w2.heap.size, 1, none⟩) rst from by
        right
        refine ⟨w2.heap.size, 1, rfl, L3.out, fun j hj => ?_⟩
        have := B3.out.cell (1 + j)
        show w3.cell? _ = _
        rw [this, Nat.add_comm 1 j]
        simp [Am.strs, hj])
      have y0 : w3.drew.cell? ⟨w2.heap.size, 0, none⟩ = some (.string ⟨v.toArray⟩) := by show w3.cell? _ = _; rw [B3.out.cell 0]; simp [Am.strs]
      have g3d : w2.grownBy w3.drew none := only_trans gw3 (only_drewN (only_refl _ _) 1)
      have HSE := Lib.hid (fun (A : Option Addr) (cap : Nat) (hA : Am.Wd w3.drew A rst) => (show Calls Tryd.prog 46 #[.pointer (some ⟨b, 0, none⟩), .string ⟨v.toArray⟩, .slice A rst.length cap] w3.drew (Am.stP w3.drew b (k + 1) F2 (Am.senV (k + 1) v rst st')) from Am.sentence_any b (k + 1) st' F2 A cap v rst w3.drew (T2R.out.grown g3d) hA ((GL2.out.grown g3d).nm) (fun y hy => HVL.out y (List.mem_cons_of_mem _ hy)) HPB.out.1 HPB.out.2.2))
      have N3 := Lib.hid (Am.Nx.of_grown g3d F2)
      generalize w2.heap.size = g2 at *
      generalize (⟨x.toArray⟩ : ByteArray) = sx at *
      have FIN1 := Lib.hid (fun (w9 : World) (z0 : (Am.senV (k + 1) v rst st').1 = 0) (hh : ∃ F', Am.Rd w9 b (k + 1) (Am.senV (k + 1) v rst st').2 F' ∧ Am.Nx w3.drew w9 F2 F') => (show ∃ F3, Am.TxI w1 w9 b F L st (k + 1) (Am.senV (k + 1) v rst st').2 F3 (k + 1) from T2.out.next KL.out HX.out HZ.out z0 (by obtain ⟨F4, h1, h2⟩ := hh; exact ⟨F4, h1, N3.out.trans h2⟩)))
      have FIN2 := Lib.hid (fun (w9 : World) (z0 : (Am.senV (k + 1) v rst st').1 ≠ 0) (r1 : Keeps F2 w3.drew w9) => (show Am.txP w b F (Am.go 0 L st) (.panicked (Am.chn ((k + 1 : Nat) : Int) (Am.senV (k + 1) v rst st').1)) w9 from T2.out.dies N0.out KL.out HX.out HZ.out z0 (N3.out.1.trans r1)))
      clear hsk hne hcy hla hsx hxs hsp hw3 gw3 g3d
      rcases rst with _ | ⟨v2, rst⟩
      · rw [show (v :: ([] : List (List UInt8))).length = 1 from rfl] at HS2
        go_upto_region 6 with (first
          | (go_at_call 44; (with_reducible refine HCS.out.mono ?_); rintro r w2 ⟨rfl, rfl⟩)
          | (go_at_call 43; (with_reducible refine HS2.out.mono ?_); rintro r w3 ⟨rfl, rfl⟩))
        refine wp_region_ends2 6 (fun W => W.cell? ⟨g2, 0, none⟩ = some (.string ⟨v.toArray⟩)) (by kernel_rfl) (by kernel_rfl) y0 (fun hHeld => ?_)
        simp only [List.take_succ_cons, List.take_zero]
        refine wpAnyH_take (i := 0) (oi := _) (v := ?_) rfl (by kernel_rfl) (by kernel_rfl) (by kernel_rfl) (fun _ _ _ h => h) (Or.inl ⟨by rfl, ?_⟩) (by assumption) ?_
        case refine_2 => intro w hSw; (try dsimp only at hSw); go_simp; try with_reducible rfl
        try simp only [Act.put, List.setIfInBounds_toArray, List.set_cons_zero, List.set_cons_succ]
        refine wpAnyH_take (i := 1) (oi := _) (v := ?_) rfl (by kernel_rfl) (by kernel_rfl) (by kernel_rfl) (fun _ _ _ h => h) (Or.inl ⟨by rfl, ?_⟩) (by assumption) ?_
        case refine_2 => intro w hSw; (try dsimp only at hSw); go_simp; try with_reducible rfl
        try simp only [Act.put, List.setIfInBounds_toArray, List.set_cons_zero, List.set_cons_succ]
        refine wpAnyH_take (i := 2) (oi := _) (v := ?_) rfl (by kernel_rfl) (by kernel_rfl) (by kernel_rfl) (fun _ _ _ h => h) (Or.inl ⟨by rfl, ?_⟩) (by assumption) ?_
        case refine_2 => intro w hSw; (try dsimp only at hSw); go_simp; try with_reducible rfl
        try simp only [Act.put, List.setIfInBounds_toArray, List.set_cons_zero, List.set_cons_succ]
        refine wpAnyH_take (i := 3) (oi := _) (v := ?_) rfl (by kernel_rfl) (by kernel_rfl) (by kernel_rfl) (fun _ _ _ h => h) (Or.inl ⟨by rfl, ?_⟩) (by assumption) ?_
        case refine_2 => intro w hSw; (try dsimp only at hSw); go_simp; try with_reducible rfl
        try simp only [Act.put, List.setIfInBounds_toArray, List.set_cons_zero, List.set_cons_succ]
        refine wpAnyH_take (i := 4) (oi := _) (v := ?_) rfl (by kernel_rfl) (by kernel_rfl) (by kernel_rfl) (fun _ _ _ h => h) (Or.inl ⟨by rfl, ?_⟩) (by assumption) ?_
        case refine_2 => intro w hSw; (try dsimp only at hSw); go_simp; try with_reducible rfl
        try simp only [Act.put, List.setIfInBounds_toArray, List.set_cons_zero, List.set_cons_succ]
        refine wpAnyH_take (i := 5) (oi := _) (v := ?_) rfl (by kernel_rfl) (by kernel_rfl) (by kernel_rfl) (fun _ _ _ h => h) (Or.inl ⟨by rfl, ?_⟩) (by assumption) ?_
        case refine_2 => intro w hSw; (try dsimp only at hSw); go_simp; try with_reducible rfl
        try simp only [Act.put, List.setIfInBounds_toArray, List.set_cons_zero, List.set_cons_succ]
        refine wpAnyH_done (by kernel_rfl) ?_ _
        refine Ends.last rfl (fun K hK => ?_)
        go_simp
        refine (HSE.out _ _ (Or.inl rfl)).mono ?_
        rintro r w9 hp
        rcases Am.stP_cases hp with ⟨z0, rfl, hh⟩ | ⟨z0, rfl, r1⟩
        · refine hK.out _ _ ?_
          clear hK K hp
          go_wp2
          go_roundw
          case rel =>
            obtain ⟨F3, hh⟩ := FIN1.out _ z0 hh
            exact ⟨k + 1, _, F3, k + 1, by go_num, KL.out, Lib.hid hh⟩
          case measure =>
            have := KL.out
            simp [Go.Lib.intOf]
            omega
        · exact ⟨rfl, FIN2.out _ z0 r1⟩
      · rw [show (v :: v2 :: rst).length = rst.length + 2 from rfl] at HS2
        have l1 : (1 : Int) ≤ (rst.length : Int) + 2 := by omega
        have l0 : (0 : Int) < (rst.length : Int) + 2 := by omega
        have l2 : ¬ rst.length + 2 = 1 := by omega
        go_upto_region 6 with (first
          | (go_at_call 44; (with_reducible refine HCS.out.mono ?_); rintro r w2 ⟨rfl, rfl⟩)
          | (go_at_call 43; (with_reducible refine HS2.out.mono ?_); rintro r w3 ⟨rfl, rfl⟩))
        refine wp_region_ends2 6 (fun W => W.cell? ⟨g2, 0, none⟩ = some (.string ⟨v.toArray⟩)) (by kernel_rfl) (by kernel_rfl) y0 (fun hHeld => ?_)
        simp only [List.take_succ_cons, List.take_zero]
        refine wpAnyH_take (i := 0) (oi := _) (v := ?_) rfl (by kernel_rfl) (by kernel_rfl) (by kernel_rfl) (fun _ _ _ h => h) (Or.inl ⟨by rfl, ?_⟩) (by assumption) ?_
        case refine_2 => intro w hSw; (try dsimp only at hSw); go_simp; try with_reducible rfl
        try simp only [Act.put, List.setIfInBounds_toArray, List.set_cons_zero, List.set_cons_succ]
        refine wpAnyH_take (i := 1) (oi := _) (v := ?_) rfl (by kernel_rfl) (by kernel_rfl) (by kernel_rfl) (fun _ _ _ h => h) (Or.inl ⟨by rfl, ?_⟩) (by assumption) ?_
        case refine_2 => intro w hSw; (try dsimp only at hSw); go_simp; try with_reducible rfl
        try simp only [Act.put, List.setIfInBounds_toArray, List.set_cons_zero, List.set_cons_succ]
        refine wpAnyH_take (i := 2) (oi := _) (v := ?_) rfl (by kernel_rfl) (by kernel_rfl) (by kernel_rfl) (fun _ _ _ h => h) (Or.inl ⟨by rfl, ?_⟩) (by assumption) ?_
        case refine_2 => intro w hSw; (try dsimp only at hSw); go_simp; try with_reducible rfl
        try simp only [Act.put, List.setIfInBounds_toArray, List.set_cons_zero, List.set_cons_succ]
        refine wpAnyH_take (i := 3) (oi := _) (v := ?_) rfl (by kernel_rfl) (by kernel_rfl) (by kernel_rfl) (fun _ _ _ h => h) (Or.inl ⟨by rfl, ?_⟩) (by assumption) ?_
        case refine_2 => intro w hSw; (try dsimp only at hSw); go_simp; try with_reducible rfl
        try simp only [Act.put, List.setIfInBounds_toArray, List.set_cons_zero, List.set_cons_succ]
        refine wpAnyH_take (i := 4) (oi := _) (v := ?_) rfl (by kernel_rfl) (by kernel_rfl) (by kernel_rfl) (fun _ _ _ h => h) (Or.inl ⟨by rfl, ?_⟩) (by assumption) ?_
        case refine_2 => intro w hSw; (try dsimp only at hSw); go_simp; try with_reducible rfl
        try simp only [Act.put, List.setIfInBounds_toArray, List.set_cons_zero, List.set_cons_succ]
        refine wpAnyH_take (i := 5) (oi := _) (v := ?_) rfl (by kernel_rfl) (by kernel_rfl) (by kernel_rfl) (fun _ _ _ h => h) (Or.inl ⟨by rfl, ?_⟩) (by assumption) ?_
        case refine_2 => intro w hSw; (try dsimp only at hSw); go_simp; try with_reducible rfl
        try simp only [Act.put, List.setIfInBounds_toArray, List.set_cons_zero, List.set_cons_succ]
        refine wpAnyH_done (by kernel_rfl) ?_ _
        refine Ends.last rfl (fun K hK => ?_)
        go_simp
        refine (HSE.out _ _ W3.out).mono ?_
        rintro r w9 hp
        rcases Am.stP_cases hp with ⟨z0, rfl, hh⟩ | ⟨z0, rfl, r1⟩
        · refine hK.out _ _ ?_
          clear hK K hp
          go_wp2
          go_roundw
          case rel =>
            obtain ⟨F3, hh⟩ := FIN1.out _ z0 hh
            exact ⟨k + 1, _, F3, k + 1, by go_num, KL.out, Lib.hid hh⟩
          case measure =>
            have := KL.out
            simp [Go.Lib.intOf]
            omega
        · exact ⟨rfl, FIN2.out _ z0 r1⟩
end Go.Proofs.YtldbhcbmcogmfaaDoor

/- Package asm: names that wait for their places; two bytes put into the program. -/
namespace Go.Proofs.YtldbhcbmcogmfaaDoor
open Go.RowKit Go.Lib
set_option linter.unusedVariables false
set_option maxRecDepth 8000

theorem Am.row_set1 {w : World} {g off n c : Nat} {xs : List Value} (h : RowZ 1 w (.slice (some ⟨g, off, none⟩) n c) n xs) (i : Nat) (hi : i < n) (u : Value) : RowZ 1 (w.setCell ⟨g, off + i, none⟩ u) (.slice (some ⟨g, off, none⟩) n c) n (xs.set i u) := by
  have hl := h.1
  rcases h.2 with ⟨h0, _⟩ | ⟨g', off', cap', h1, h2, h3, h4, h5, hc⟩
  · cases h0
  · injection h1 with e1 e2 e3
    injection e1 with e1
    injection e1 with e1 e2
    subst e1 e2 e3
    refine ⟨by simpa using hl, .inr ⟨g, off, c, rfl, h2, h3, by simpa using h4, fun j hj => ?_, fun j v hv => ?_⟩⟩
    · rw [World.frozen?_setCell]
      refine ⟨?_, (h5 j hj).2⟩
      by_cases e : i = j
      · subst e
        obtain ⟨y, hy⟩ := Option.isSome_iff_exists.1 (h5 i hj).1
        rw [World.cell?_setCell_same _ _ _ hy]
        rfl
      · rw [World.cell?_setCell_other _ _ _ _ (by intro q; injection q with _ q2; omega)]
        exact (h5 j hj).1
    · by_cases e : i = j
      · subst e
        have hix : i < xs.length := by omega
        obtain ⟨y, hy⟩ := Option.isSome_iff_exists.1 (h5 i (by omega)).1
        rw [World.cell?_setCell_same _ _ _ hy]
        simp [hix] at hv
        rw [hv]
      · rw [World.cell?_setCell_other _ _ _ _ (by intro q; injection q with _ q2; omega)]
        rw [List.getElem?_set_ne e] at hv
        exact hc j v hv
theorem Am.byteCells_eq (l : List UInt8) : Go.Lib.byteCells l = byteCells l := rfl
theorem Am.run_copy_str {P : Program} (w : World) (dT sT ty elem : TypeId) (g o dLen dCap : Nat) (s : ByteArray) (hu : P.underlying dT = some (.slice elem)) (hs : (P.info? elem).map (·.size) = some 1) (hle : s.size ≤ dLen)
    (hc : ∀ j, j < s.size → (w.cell? ⟨g, o + j, none⟩).isSome = true) (hf : ∀ j, j < s.size → w.frozen? ⟨g, o + j, none⟩ = false) :
    (Builtin.copy_ #[dT, sT] ty #[.slice (some ⟨g, o, none⟩) dLen dCap, .string s]).run P w = .ok (goInt s.size) (w.setCells g o (Go.Lib.byteCells s.data.toList)) := by
  have hlen : (Go.Lib.byteCells s.data.toList).length = s.size := by rw [Go.Lib.byteCells_length, ← Go.Lib.size_eq]
  have hst := run_storeCells_cells (P := P) g o (Go.Lib.byteCells s.data.toList) 0 w (fun j hj => by rw [Nat.add_zero]; exact hc j (by omega)) (fun j hj => by rw [Nat.add_zero]; exact hf j (by omega)) (by rw [Am.byteCells_eq]; exact Am.bytes_one _)
  have hmin : Nat.min s.size dLen = s.size := Nat.min_eq_left hle
  have htk : List.take s.size (List.map (fun b : UInt8 => Value.int IntKind.u8 (b.toNat : Int)) s.data.toList) = Go.Lib.byteCells s.data.toList := by
    rw [List.take_of_length_le (by rw [List.length_map, ← Go.Lib.size_eq]; exact Nat.le_refl _)]
    rfl
  simp only [Nat.add_zero] at hst
  cases hq : P.info? elem with
  | none => simp [hq] at hs
  | some i =>
    simp [Builtin.copy_, run_underlying hu, Builtin.lenOf, Builtin.firstCells, sizeOf, typeInfo, hq, hmin]
    rw [htk, hst]
    simp [Result.andThen]
/-- Two bytes put into the program, in its own row. -/
theorem Am.Rr.copy2 {w : World} {b ln : Nat} {st : Am.St} {pA : Option Addr} {pc : Nat} {lv wv : Value} {m : Nat} (h : Am.Rr w b ln st (.slice pA st.pr.length pc) lv wv m) (q a : Nat) (hq : q + 2 ≤ st.pr.length) :
    ∃ g off, pA = some ⟨g, off, none⟩ ∧ st.pr.length ≤ pc ∧
      (Builtin.copy_ #[50, 9] 3 #[.slice (some ⟨g, off + q, none⟩) (st.pr.length - q) (pc - q), .string (Bt.put a)]).run Tryd.prog w = .ok (.int .i64 2) (w.setCells g (off + q) (byteCells (Bt.put a).data.toList)) ∧
      Am.Rr (w.setCells g (off + q) (byteCells (Bt.put a).data.toList)) b ln ⟨Am.put2 st.pr q a, st.lb, st.ws⟩ (.slice pA st.pr.length pc) lv wv m ∧ Am.Nx w (w.setCells g (off + q) (byteCells (Bt.put a).data.toList)) (Am.ft b m (.slice pA st.pr.length pc) lv wv) (Am.ft b m (.slice pA st.pr.length pc) lv wv) := by
  have hp := h.pr
  obtain ⟨g, off, rfl, hcap, hcs⟩ : ∃ g off, pA = some ⟨g, off, none⟩ ∧ st.pr.length ≤ pc ∧ ∀ j, j < pc * 1 → (w.cell? ⟨g, off + j, none⟩).isSome = true ∧ w.frozen? ⟨g, off + j, none⟩ = false := by
    rcases hp.2 with ⟨_, h0⟩ | ⟨g, off, cap, h1, h2, h3, h4, h5, _⟩
    · omega
    · injection h1 with h1 h1' h1''
      subst h1''
      exact ⟨g, off, h1, h2, h5⟩
  have hsz : (Bt.put (a : Int)).size = 2 := rfl
  have hrun := Am.run_copy_str (P := Tryd.prog) w 50 9 3 5 g (off + q) (st.pr.length - q) (pc - q) (Bt.put a) Tryd.underlying50 (by kernel_rfl) (by rw [hsz]; omega) (fun j hj => by rw [Nat.add_assoc]; exact (hcs (q + j) (by rw [hsz] at hj; omega)).1) (fun j hj => by rw [Nat.add_assoc]; exact (hcs (q + j) (by rw [hsz] at hj; omega)).2)
  rw [Am.byteCells_eq] at hrun
  have hw2 : w.setCells g (off + q) (byteCells (Bt.put a).data.toList) = (w.setCell ⟨g, off + q, none⟩ (.int .u8 ((UInt8.ofNat (a % 256)).toNat : Int))).setCell ⟨g, off + (q + 1), none⟩ (.int .u8 ((UInt8.ofNat (a / 256 % 256)).toNat : Int)) := by
    rw [Am.put_of]
    rfl
  have hg := only_cells w g (off + q) (byteCells (Bt.put a).data.toList)
  refine ⟨g, off, rfl, hcap, hrun, ?_, Keeps.of_only hg (fun k hk => by injection hk with hk; subst hk; exact .inr (.inr (.inl rfl))), fun i hi => .inl hi⟩
  obtain ⟨a1, a2, a3, a4⟩ := h.n2 g rfl
  have hrow : RowZ 1 (w.setCells g (off + q) (byteCells (Bt.put a).data.toList)) (.slice (some ⟨g, off, none⟩) st.pr.length pc) (Am.put2 st.pr q a).length (byteCells (Am.put2 st.pr q a)) := by
    rw [hw2]
    have hl : (Am.put2 st.pr q a).length = st.pr.length := by simp [Am.put2]
    have he : byteCells (Am.put2 st.pr q a) = ((byteCells st.pr).set q (.int .u8 ((UInt8.ofNat (a % 256)).toNat : Int))).set (q + 1) (.int .u8 ((UInt8.ofNat (a / 256 % 256)).toNat : Int)) := by simp [Am.put2, byteCells, List.map_set]
    rw [hl, he]
    exact Am.row_set1 (Am.row_set1 hp q (by omega) _) (q + 1) (by omega) _
  exact ⟨h.blk.only hg (fun e => by injection e with e; exact a1 e.symm), hrow, h.lb.only hg (Am.dis fun i hi e => by injection e with e; subst e; exact a3 hi), h.ws.only hg (Am.dis fun i hi e => by injection e with e; subst e; exact a4 hi), h.mp.only hg (fun e => by injection e with e; exact a2 e.symm), h.n1, fun i hi => h.n2 i hi, h.n3, h.n4⟩
/-- Names that wait for places that are there. -/
def Am.WsOk (st : Am.St) : Prop := ∀ x ∈ st.ws, x.2.2 + 2 ≤ st.pr.length ∧ x.2.1.length ≤ 16
theorem Am.name_len {l : List UInt8} (h : Am.isName l = true) : l.length ≤ 16 := by
  unfold Am.isName at h
  simp at h
  exact h.2.1
def Am.OkN (o : Option (List UInt8 × List UInt8)) : Prop := ∀ v, o = some v → v.2 = [] ∨ (v.2.length ≤ 16 ∧ 2 ≤ v.1.length)
theorem Am.OkN.val {w : List UInt8} {f : Nat → List UInt8} (hf : ∀ n, 2 ≤ (f n).length) : Am.OkN ((Am.val w).map fun v => (f v.1, v.2)) := by
  intro v hv
  cases e : Am.val w with
  | none => rw [e] at hv; cases hv
  | some q =>
    rw [e] at hv
    simp at hv
    subst hv
    obtain ⟨n, m⟩ := q
    obtain ⟨_, h | ⟨h1, _, h2⟩⟩ := Am.val_le e
    · exact .inl h
    · subst h1
      exact .inr ⟨Am.name_len h2, hf n⟩
theorem Am.OkN.nil {α : Type} {o : Option α} {f : α → List UInt8} : Am.OkN (o.map fun n => (f n, [])) := by
  intro v hv
  cases o with
  | none => cases hv
  | some q => simp at hv; subst hv; exact .inl rfl
theorem Am.OkN.none : Am.OkN none := fun v hv => by cases hv
theorem Am.ok_ins (k : Nat) (r : List (List UInt8)) : Am.OkN (Am.ins k r) := by
  unfold Am.ins
  split
  · split
    · intro v hv; injection hv with hv; subst hv; exact .inl rfl
    · exact Am.OkN.none
  · split
    · split
      · exact Am.OkN.val (fun n => by simp [Am.pt])
      · exact Am.OkN.none
    · split
      · cases Am.reg (r.getD 0 []) with
        | none => exact Am.OkN.none
        | some x =>
          simp only [Option.bind_some]
          split
          · exact Am.OkN.nil
          · split
            · exact Am.OkN.nil
            · exact Am.OkN.val (fun n => by simp [Am.pt])
      · exact Am.OkN.none
theorem Am.ok_lnO {o : Option (List UInt8 × List UInt8)} (h : Am.OkN o) : (Am.lnO o).nm = [] ∨ ((Am.lnO o).nm.length ≤ 16 ∧ 2 ≤ (Am.lnO o).bs.length) := by
  cases o with
  | none => exact .inl rfl
  | some v => exact h v rfl
theorem Am.ok_sen (v : List UInt8) (r : List (List UInt8)) : (Am.sen v r).nm = [] ∨ ((Am.sen v r).nm.length ≤ 16 ∧ 2 ≤ (Am.sen v r).bs.length) := by
  unfold Am.sen
  split
  · refine Am.ok_lnO ?_
    split
    · exact Am.OkN.nil
    · exact Am.OkN.none
  · split
    · refine Am.ok_lnO ?_
      split
      · exact Am.OkN.val (f := fun n => [UInt8.ofNat (n % 256), UInt8.ofNat (n / 256 % 256)]) (fun n => by simp)
      · exact Am.OkN.none
    · split
      · exact Am.ok_lnO (Am.ok_ins _ _)
      · exact .inl rfl
theorem Am.ok_line (s : List UInt8) (h : (Am.line s).kind = 2) : (Am.line s).nm = [] ∨ ((Am.line s).nm.length ≤ 16 ∧ 2 ≤ (Am.line s).bs.length) := by
  unfold Am.line at h ⊢
  split
  · exact .inl rfl
  · split
    · rename_i h1 h2
      rw [if_neg h1, if_pos h2] at h
      split at h <;> simp at h
    · exact Am.ok_sen _ _
theorem Am.WsOk.one {i : Nat} {x : List UInt8} {st : Am.St} (h : Am.WsOk st) : Am.WsOk (Am.one i (Am.line x) st).2 := by
  unfold Am.one
  by_cases h0 : (Am.line x).kind = 0
  · rw [if_pos h0]; exact h
  · rw [if_neg h0]
    by_cases h1 : (Am.line x).kind = 1
    · rw [if_pos h1]
      split
      · exact h
      · exact h
    · rw [if_neg h1]
      by_cases h2 : (Am.line x).kind = 2
      · rw [if_pos h2]
        have hn := Am.ok_line x h2
        split
        · exact h
        · intro y hy
          simp only at hy ⊢
          have old : ∀ y ∈ st.ws, y.2.2 + 2 ≤ (st.pr ++ (Am.line x).bs).length ∧ y.2.1.length ≤ 16 := fun y hy => by
            have := h y hy
            rw [List.length_append]
            omega
          by_cases hm : (Am.line x).nm = []
          · rw [if_pos hm] at hy
            exact old y hy
          · rw [if_neg hm, List.mem_append] at hy
            rcases hy with hy | hy
            · exact old y hy
            · simp at hy
              subst hy
              rcases hn with e | ⟨e1, e2⟩
              · exact absurd e hm
              · simp only [List.length_append]
                omega
      · rw [if_neg h2]; exact h
theorem Am.WsOk.go : ∀ (l : List (List UInt8)) (i : Nat) (st : Am.St), Am.WsOk st → Am.WsOk (Am.go i l st).2.2
  | [], i, st, h => h
  | x :: r, i, st, h => by
    unfold Am.go
    split
    · exact Am.WsOk.go r (i + 1) _ h.one
    · exact h
end Go.Proofs.YtldbhcbmcogmfaaDoor
