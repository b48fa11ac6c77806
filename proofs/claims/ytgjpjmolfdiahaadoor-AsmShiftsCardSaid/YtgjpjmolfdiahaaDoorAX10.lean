/- Package asm: put, by its contract. -/
import Derived.Test.YtgjpjmolfdiahaaDoorAX9
namespace Go.Proofs.YtgjpjmolfdiahaaDoor
open Go.RowKit Go.Lib
set_option linter.unusedVariables false

set_option maxRecDepth 20000 in
set_option maxHeartbeats 1600000 in
theorem Am.put_any (b ln : Nat) (st : Am.St) (F : Nat → Prop) (s nm : ByteArray) (w : World) (h : Am.Rd w b ln st F) (h0 : 0 < s.size) (h4 : s.size ≤ 4) (hn : nm.data.toList ≠ [] → 2 ≤ s.size) (hp : st.pr.length ≤ 100000) (hw : st.ws.length ≤ 100000) :
    Calls Tryd.prog 58 #[.pointer (some ⟨b, 0, none⟩), .string s, .string nm] w (Am.stP w b ln F (Am.putV ln s.data.toList nm.data.toList st)) := by
  obtain ⟨pv, lv, wv, m, hR, hF⟩ := h
  obtain ⟨pA, pc, rfl⟩ := hR.pr.form
  have c0 : w.cell? ⟨b, 0, none⟩ = some (.int .i64 ln) := hR.blk.cell 0
  have c1 : w.cell? ⟨b, 1, none⟩ = some (.slice pA st.pr.length pc) := hR.blk.cell 1
  have u1 : IntKind.i64.wrap ((st.pr.length : Int) + (s.size : Int)) = (st.pr.length : Int) + (s.size : Int) := by rw [IntKind.wrap_i64]; omega
  have v1 : wrap64 ((st.pr.length : Int) + (s.size : Int)) = (st.pr.length : Int) + (s.size : Int) := IntWalk.wrap64_in _ ⟨by omega, by omega⟩
  have hsl := Am.len s
  by_cases hb : 1024 < st.pr.length + s.size
  · have hz : Am.putV ln s.data.toList nm.data.toList st = (4, st) := by unfold Am.putV; rw [if_pos (by omega)]
    have i1 : (1024 : Int) < (st.pr.length : Int) + (s.size : Int) := by omega
    have HG := Lib.hid (Am.giveup_any b ln 4 w c0)
    rw [hz]
    rw [Am.stP_bad (by decide)]
    clear hR hz hsl hn h0 h4 hp hw hb
    go_enter Tryd.func58, Tryd.ntmps58
    go_wp2_with (first
      | (go_at_call 47; (with_reducible refine HG.out.mono ?_); rintro r w3 ⟨rfl, rfl⟩))
    exact ⟨rfl, rfl, Keeps.refl _ _⟩
  have i1 : ¬ (1024 : Int) < (st.pr.length : Int) + (s.size : Int) := by omega
  have hz : Am.putV ln s.data.toList nm.data.toList st = (0, ⟨st.pr ++ s.data.toList, st.lb, if nm.data.toList = [] then st.ws else st.ws ++ [(ln, nm.data.toList, st.pr.length + s.size - 2)]⟩) := by unfold Am.putV; rw [if_neg (by omega), hsl]
  rw [hz]
  rw [Am.stP_ok]
  obtain ⟨v', w2, hk, hb2, q2, q3, A', c', rfl⟩ := hR.pushP s h0 (by omega)
  have d1 : w2.cell? ⟨b, 1, none⟩ = some (.slice pA st.pr.length pc) := hb2.cell 1
  have e1 := hb2.free 1
  have HK := Lib.hid hk
  obtain ⟨w3, hw3⟩ : ∃ W, W = w2.setCell ⟨b, 1, none⟩ (.slice A' (st.pr.length + s.size) c') := ⟨_, rfl⟩
  rw [← hw3] at q2 q3
  have Q2 := Lib.hid q2
  have Q3 := Lib.hid q3
  have HF := Lib.hid hF
  have HW := Lib.hid hw
  have HN := Lib.hid hn
  have HP4 := Lib.hid (show 0 < s.size ∧ s.size ≤ 4 ∧ st.pr.length ≤ 100000 from ⟨h0, h4, hp⟩)
  clear hR hz hsl hn h0 h4 hp hw hb hk hb2 q2 q3 hF c0
  by_cases hne : nm = ⟨#[]⟩
  · subst hne
    go_enter Tryd.func58, Tryd.ntmps58
    go_wp2_with (first | (at_builtin; refine wpList_append_eq2 rfl (.tmp 21) (.tmp 22) 50 9 rfl HK.out rfl rfl ?_))
    go_end0
    rw [← hw3]
    exact ⟨rfl, Am.Rd.of HF.out Q2.out Q3.out⟩
  · have hnb := Am.str_some hne
    have hnl : nm.data.toList ≠ [] := fun e => hne (by obtain ⟨⟨l⟩⟩ := nm; simp at e; rw [e])
    have h2 := HN.out hnl
    have HNL := Lib.hid hnl
    obtain ⟨x, hx⟩ : ∃ x : Nat, x = st.pr.length + s.size - 2 := ⟨_, rfl⟩
    rw [if_neg hnl, ← hx]
    have u2 : IntKind.i64.wrap (((st.pr.length + s.size : Nat) : Int) - 2) = (x : Int) := by rw [IntKind.wrap_i64]; have := HP4.out; omega
    have u3 : IntKind.i64.wrap ((st.pr.length : Int) + (s.size : Int) - 2) = (x : Int) := by rw [IntKind.wrap_i64]; have := HP4.out; omega
    have v2 : wrap64 (((st.pr.length + s.size : Nat) : Int) - 2) = (x : Int) := by rw [IntWalk.wrap64_in _ (by have := HP4.out; omega)]; have := HP4.out; omega
    have v3 : wrap64 ((st.pr.length : Int) + (s.size : Int) - 2) = (x : Int) := by rw [IntWalk.wrap64_in _ (by have := HP4.out; omega)]; have := HP4.out; omega
    obtain ⟨v4, w4, hk4, r2, r3, ⟨A4, c4, rfl⟩, r5⟩ := Q2.out.pushW nm.data.toList x (by show st.ws.length ≤ 100000; exact HW.out)
    rw [show (⟨nm.data.toList.toArray⟩ : ByteArray) = nm from by simp] at hk4 r5
    obtain ⟨wA, wc, rfl⟩ := Q2.out.ws.form
    have HK4 := Lib.hid hk4
    have R2 := Lib.hid r2
    have R3 := Lib.hid r3
    have SX := Lib.hid (show ∀ W, W = w3.drew ∨ W = (w3.alloc (.cells #[.int .i64 ln, .string nm, .int .i64 x] 90)).drew ∨ W = w4 → W.cell? ⟨b, 0, none⟩ = some (.int .i64 ln) ∧ W.cell? ⟨b, 1, none⟩ = some (.slice A' (st.pr.length + s.size) c') ∧ W.cell? ⟨b, 4, none⟩ = some (.slice wA st.ws.length wc) from fun W hW => by
      have q := r5 W hW
      exact ⟨q.cell 0, q.cell 1, q.cell 4⟩)
    have y1 : w4.cell? ⟨b, 4, none⟩ = some (.slice wA st.ws.length wc) := (SX.out w4 (.inr (.inr rfl))).2.2
    have y2 : w4.frozen? ⟨b, 4, none⟩ = false := (r5 w4 (.inr (.inr rfl))).free 4
    clear hk4 r2 r3 r5 hx hnl h2 hne
    go_enter Tryd.func58, Tryd.ntmps58
    go_upto_region 3 with (first | (at_builtin; refine wpList_append_eq2 rfl (.tmp 21) (.tmp 22) 50 9 rfl HK.out rfl rfl ?_))
    rw [← hw3]
    clear hw3 c1 d1 e1 HK
    go_upto_region 4 with (fail)
    refine wp_region_ends2 21 (fun W => W.cell? ⟨b, 0, none⟩ = some (.int .i64 ln) ∧ W.cell? ⟨b, 1, none⟩ = some (.slice A' (st.pr.length + s.size) c') ∧ W.cell? ⟨b, 4, none⟩ = some (.slice wA st.ws.length wc)) (by kernel_rfl) (by kernel_rfl) (SX.out _ (.inl rfl)) (fun hHeld => ?_)
    simp only [List.take_succ_cons, List.take_zero]
    refine wpAnyH_take (i := 0) (oi := _) (v := ?_) rfl (by kernel_rfl) (by kernel_rfl) (by kernel_rfl) (fun _ _ _ h => h) (Or.inl ⟨by rfl, ?_⟩) (by assumption) ?_
    case refine_2 => intro w hSw; (try dsimp only at hSw); go_simp; try with_reducible rfl
    try simp only [Act.put, List.setIfInBounds_toArray, List.set_cons_zero, List.set_cons_succ]
    refine wpAnyH_take (i := 1) (oi := _) (v := ?_) rfl (by kernel_rfl) (by kernel_rfl) (by kernel_rfl) (fun _ _ _ h => h) (Or.inl ⟨by rfl, ?_⟩) (by assumption) ?_
    case refine_2 => intro w hSw; (try dsimp only at hSw); go_simp; try with_reducible rfl
    try simp only [Act.put, List.setIfInBounds_toArray, List.set_cons_zero, List.set_cons_succ]
    refine wpAnyH_take (i := 2) (oi := _) (v := ?_) rfl (by kernel_rfl) (by kernel_rfl) (by kernel_rfl) (fun _ _ _ h => h) (Or.inl ⟨by rfl, ?_⟩) (by assumption) ?_
    case refine_2 => intro w hSw; (try dsimp only at hSw); go_simp; try with_reducible rfl
    try simp only [Act.put, List.setIfInBounds_toArray, List.set_cons_zero, List.set_cons_succ]
    refine wpAnyH_take (i := 3) (oi := _) (v := ?_) rfl (by kernel_rfl) (by kernel_rfl) (by kernel_rfl) (fun _ _ _ h => h) (Or.inl ⟨by rfl, ?_⟩) (by assumption) ?_
    case refine_2 => intro w hSw; (try dsimp only at hSw); go_simp; try with_reducible rfl
    try simp only [Act.put, List.setIfInBounds_toArray, List.set_cons_zero, List.set_cons_succ]
    refine wpAnyH_take (i := 4) (oi := _) (v := ?_) rfl (by kernel_rfl) (by kernel_rfl) (by kernel_rfl) (fun _ _ _ h => h) (Or.inl ⟨by rfl, ?_⟩) (by assumption) ?_
    case refine_2 => intro w hSw; (try dsimp only at hSw); go_simp; try with_reducible rfl
    try simp only [Act.put, List.setIfInBounds_toArray, List.set_cons_zero, List.set_cons_succ]
    refine wpAnyH_take (i := 5) (oi := _) (v := ?_) rfl (by kernel_rfl) (by kernel_rfl) (by kernel_rfl) (fun _ _ _ h => h) (Or.inl ⟨by rfl, ?_⟩) (by assumption) ?_
    case refine_2 => intro w hSw; (try dsimp only at hSw); go_simp; try with_reducible rfl
    try simp only [Act.put, List.setIfInBounds_toArray, List.set_cons_zero, List.set_cons_succ]
    refine wpAnyH_take (i := 6) (oi := _) (v := ?_) rfl (by kernel_rfl) (by kernel_rfl) (by kernel_rfl) (fun _ _ _ h => h) (Or.inl ⟨by rfl, ?_⟩) (by assumption) ?_
    case refine_2 => intro w hSw; (try dsimp only at hSw); go_simp; try with_reducible rfl
    try simp only [Act.put, List.setIfInBounds_toArray, List.set_cons_zero, List.set_cons_succ]
    refine wpAnyH_take (i := 7) (oi := _) (v := ?_) rfl (by kernel_rfl) (by kernel_rfl) (by kernel_rfl) (fun _ _ _ h => h) (Or.inl ⟨by rfl, ?_⟩) (by assumption) ?_
    case refine_2 => intro w hSw; (try dsimp only at hSw); go_simp; try with_reducible rfl
    try simp only [Act.put, List.setIfInBounds_toArray, List.set_cons_zero, List.set_cons_succ]
    refine wpAnyH_take (i := 8) (oi := _) (v := ?_) rfl (by kernel_rfl) (by kernel_rfl) (by kernel_rfl) (fun _ _ _ h => h) (Or.inl ⟨by rfl, ?_⟩) (by assumption) ?_
    case refine_2 => intro w hSw; (try dsimp only at hSw); go_simp; try with_reducible rfl
    try simp only [Act.put, List.setIfInBounds_toArray, List.set_cons_zero, List.set_cons_succ]
    refine wpAnyH_take (i := 9) (oi := _) (v := ?_) rfl (by kernel_rfl) (by kernel_rfl) (by kernel_rfl) (fun _ _ _ h => h) (Or.inl ⟨by rfl, ?_⟩) (by assumption) ?_
    case refine_2 => intro w hSw; (try dsimp only at hSw); go_simp; try with_reducible rfl
    try simp only [Act.put, List.setIfInBounds_toArray, List.set_cons_zero, List.set_cons_succ]
    refine wpAnyH_take (i := 10) (oi := _) (v := ?_) rfl (by kernel_rfl) (by kernel_rfl) (by kernel_rfl) (fun _ _ _ h => h) (Or.inl ⟨by rfl, ?_⟩) (by assumption) ?_
    case refine_2 => intro w hSw; (try dsimp only at hSw); go_simp; try with_reducible rfl
    try simp only [Act.put, List.setIfInBounds_toArray, List.set_cons_zero, List.set_cons_succ]
    refine wpAnyH_take (i := 11) (oi := _) (v := ?_) rfl (by kernel_rfl) (by kernel_rfl) (by kernel_rfl) (fun _ _ _ h => h) (Or.inl ⟨by rfl, ?_⟩) (by assumption) ?_
    case refine_2 => intro w hSw; (try dsimp only at hSw); go_simp; try with_reducible rfl
    try simp only [Act.put, List.setIfInBounds_toArray, List.set_cons_zero, List.set_cons_succ]
    refine wpAnyH_take (i := 12) (oi := _) (v := ?_) rfl (by kernel_rfl) (by kernel_rfl) (by kernel_rfl) (fun _ _ _ h => h) (Or.inl ⟨by rfl, ?_⟩) (by assumption) ?_
    case refine_2 => intro w hSw; (try dsimp only at hSw); go_simp; try with_reducible rfl
    try simp only [Act.put, List.setIfInBounds_toArray, List.set_cons_zero, List.set_cons_succ]
    refine wpAnyH_take (i := 13) (oi := _) (v := ?_) rfl (by kernel_rfl) (by kernel_rfl) (by kernel_rfl) (fun _ _ _ h => h) (Or.inl ⟨by rfl, ?_⟩) (by assumption) ?_
    case refine_2 => intro w hSw; (try dsimp only at hSw); go_simp; try with_reducible rfl
    try simp only [Act.put, List.setIfInBounds_toArray, List.set_cons_zero, List.set_cons_succ]
    refine wpAnyH_take (i := 14) (oi := _) (v := ?_) rfl (by kernel_rfl) (by kernel_rfl) (by kernel_rfl) (fun _ _ _ h => h) (Or.inl ⟨by rfl, ?_⟩) (by assumption) ?_
    case refine_2 => intro w hSw; (try dsimp only at hSw); go_simp; try with_reducible rfl
    try simp only [Act.put, List.setIfInBounds_toArray, List.set_cons_zero, List.set_cons_succ]
    refine wpAnyH_take (i := 15) (oi := _) (v := ?_) rfl (by kernel_rfl) (by kernel_rfl) (by kernel_rfl) (fun _ _ _ h => h) (Or.inl ⟨by rfl, ?_⟩) (by assumption) ?_
    case refine_2 => intro w hSw; (try dsimp only at hSw); go_simp; try with_reducible rfl
    try simp only [Act.put, List.setIfInBounds_toArray, List.set_cons_zero, List.set_cons_succ]
    refine wpAnyH_take (i := 16) (oi := _) (v := ?_) rfl (by kernel_rfl) (by kernel_rfl) (by kernel_rfl) (fun _ _ _ h => h) (Or.inl ⟨by rfl, ?_⟩) (by assumption) ?_
    case refine_2 => intro w hSw; (try dsimp only at hSw); go_simp; try with_reducible rfl
    try simp only [Act.put, List.setIfInBounds_toArray, List.set_cons_zero, List.set_cons_succ]
    refine wpAnyH_ready (rs := [17]) (by kernel_rfl) (by simp) ?_
    refine AllReadyH.cons (o := _) rfl (fun K hK => ?_) AllReadyH.nil
    go_simp
    refine hK.out _ _ (SX.out _ (.inr (.inl rfl))) (fun hHeld => ?_)
    clear hK K
    try simp only [Act.put, List.setIfInBounds_toArray, List.set_cons_zero, List.set_cons_succ]
    refine wpAnyH_ready (rs := [18]) (by kernel_rfl) (by simp) ?_
    refine AllReadyH.cons (o := _) rfl (fun K hK => ?_) AllReadyH.nil
    refine Am.step_app_eq rfl (.tmp 32) (.tmp 45) 52 rfl HK4.out rfl rfl ?_
    refine hK.out _ _ (SX.out _ (.inr (.inr rfl))) (fun hHeld => ?_)
    clear hK K
    try simp only [Act.put, List.setIfInBounds_toArray, List.set_cons_zero, List.set_cons_succ]
    refine wpAnyH_ready (rs := [19]) (by kernel_rfl) (by simp) ?_
    refine AllReadyH.cons (o := _) rfl (fun K hK => ?_) AllReadyH.nil
    go_simp
    refine hK.out _ _ (SX.out _ (.inr (.inr rfl))) (fun hHeld => ?_)
    clear hK K
    try simp only [Act.put, List.setIfInBounds_toArray, List.set_cons_zero, List.set_cons_succ]
    refine wpAnyH_ready (rs := [20]) (by kernel_rfl) (by simp) ?_
    refine AllReadyH.cons (o := _) rfl (fun K hK => ?_) AllReadyH.nil
    go_simp
    refine hK.out _ _ (SX.out _ (.inr (.inr rfl))) (fun hHeld => ?_)
    clear hK K
    try simp only [Act.put, List.setIfInBounds_toArray, List.set_cons_zero, List.set_cons_succ]
    refine wpAnyH_done (by kernel_rfl) ?_ _
    refine Ends.last rfl (fun K hK => ?_)
    go_simp
    refine hK.out _ _ ?_
    clear hK K
    go_wp2
    go_end0
    exact ⟨rfl, Am.Rd.of HF.out R2.out (Q3.out.trans R3.out)⟩
end Go.Proofs.YtgjpjmolfdiahaaDoor
