/- Queues of frames: what goes in and out, and a fork: their contracts. -/
import Derived.Test.YtjhihccjhnlghaaNQ1
import Derived.Deep.RegionLaw
namespace Go.Proofs.Ytjhihccjhnlghaa
open Go.RowKit Go.Lib
set_option linter.unusedVariables false

section
variable {w : World} {b : Nat} {v : Value} {l : List Frm} {lim dr : Nat}
/-- append where its run is known, as a step of a region that draws its order. -/
theorem step_append_eq {P : Program} {ops : Array Oper} {o : Oper} {a : Act} {W : World} {K : Act → World → Prop} {Q : Exit → Act → World → Prop} {E : Prop} (hgd : o.guard = none) (s x : Operand) (t : TypeId) (ho : o.op = .call { callee := .builtin .append, args := #[s, x], argTypes := #[t, t] })
    {v xs v' : Value} {w' : World} (hr : (Builtin.append_ #[t, t] o.type #[v, xs]).run P W = .ok v' w') (hs : a.eval s = v) (hx : a.eval x = xs) (h : K (a.put o.dst v') w') : if Region.wanted o (yielded ops a.tmps) = true then Oper.wp P o a W K Q else E := by
  have hw : Region.wanted o (yielded ops a.tmps) = true := by simp [Region.wanted, hgd]
  rw [if_pos hw]
  unfold Oper.wp execOp
  simp only [ho, resolve, invoke, builtin, Sem.run_bind, Sem.run_pure, Result.andThen_ok, List.map_toArray, List.map_cons, List.map_nil, hs, hx, hr]
  exact h
theorem frm_news (W : World) (x1 x2 : Int) (x3 : ByteArray) : ∀ j u, (frC (x1, x2, x3))[j]? = some u → (W.alloc (.cells #[.int .i64 x1, .int .i64 x2, .string x3] 46)).cell? ((⟨W.heap.size, 0, none⟩ : Addr).add j) = some u := by
  intro j u hj
  rw [addr_at, (Blk.new W 46 #[.int .i64 x1, .int .i64 x2, .string x3]).cell, Nat.zero_add]
  simpa [frC] using hj
set_option maxRecDepth 20000 in
theorem fpush_on (x : Frm) (h : QueF w b v l lim dr) (hl : l.length < lim) (hn : l.length ≤ 1000000) :
    Calls Try.prog 31 #[.pointer (some ⟨b, 0, none⟩), frv x] w fun e w' => e = .returned (.bool true) ∧ QueFN w b v lim w' (l ++ [x]) dr := by
  obtain ⟨i0, hi0, hz0, hz1, hz2⟩ := info_parts frame_info
  obtain ⟨x1, x2, x3⟩ := x
  have hb := h.1.alloc (.cells #[.int .i64 x1, .int .i64 x2, .string x3] 46)
  have c0 : w.cell? ⟨b, 0, none⟩ = some v := h.1.cell 0
  have c1 : w.cell? ⟨b, 1, none⟩ = some (.int .i64 lim) := h.1.cell 1
  have k0 : (w.alloc (.cells #[.int .i64 x1, .int .i64 x2, .string x3] 46)).cell? ⟨b, 0, none⟩ = some v := hb.cell 0
  have k1 : (w.alloc (.cells #[.int .i64 x1, .int .i64 x2, .string x3] 46)).cell? ⟨b, 1, none⟩ = some (.int .i64 lim) := hb.cell 1
  have f0 := hb.free 0
  have H := Lib.hid h
  have HB := Lib.hid hb
  have hl' : (l.length : Int) < (lim : Int) := by omega
  have HBX := Lib.hid (Blk.new w 46 #[.int .i64 x1, .int .i64 x2, .string x3])
  obtain ⟨A, c, hv⟩ := h.2.1.form
  subst hv
  clear h hb
  go_enter Try.func31, Try.ntmps31
  go_wp2
  go_quiet (fail)
  have hx := HBX.out.drewN nq
  obtain ⟨W0, hW0⟩ : ∃ W0, W0 = (w.alloc (.cells #[.int .i64 x1, .int .i64 x2, .string x3] 46)).drewN nq := ⟨_, rfl⟩
  have y0 : W0.cell? ⟨w.heap.size, 0, none⟩ = some (.int .i64 x1) := by rw [hW0]; exact hx.cell 0
  have y1 : W0.cell? ⟨w.heap.size, 1, none⟩ = some (.int .i64 x2) := by rw [hW0]; exact hx.cell 1
  have y2 : W0.cell? ⟨w.heap.size, 2, none⟩ = some (.string x3) := by rw [hW0]; exact hx.cell 2
  have q0 : W0.cell? ⟨b, 0, none⟩ = some (.slice A l.length c) := by rw [hW0]; exact k0
  have hB0 : Blk W0 b 92 #[.slice A l.length c, .int .i64 lim, .int .i64 dr] := by rw [hW0]; exact HB.out.drewN nq
  have hK0 : Keeps (OwnQ b (.slice A l.length c)) w W0 := by rw [hW0]; exact ((Keeps.refl _ w).alloc _).drew nq
  have hR0 : RowZ 3 W0 (.slice A l.length c) l.length (frL l) := by rw [hW0]; exact (H.out.2.1.alloc _).drewN nq
  have hsz0 : w.heap.size ≤ W0.heap.size := hK0.size
  rw [← hW0]
  clear hW0 hx c0 c1 k0 k1 f0
  have hrow : RowZ 3 (W0.alloc (.cells #[.int .i64 x1, .int .i64 x2, .string x3] 46)).drew (.slice A l.length c) l.length (frL l) := (hR0.alloc _).drewN 1
  have hsrc : Src Try.prog 3 90 (.slice (some ⟨W0.heap.size, 0, none⟩) 1 1) 1 (frC (x1, x2, x3)) (W0.alloc (.cells #[.int .i64 x1, .int .i64 x2, .string x3] 46)).drew := Src.ofSlice _ Try.underlying90 _ _ _ _ rfl (frm_news W0 x1 x2 x3) (by simp [frC, Value.oneCell'])
  obtain ⟨v', w', hk, hr, hg, ho⟩ := run_pushZ (P := Try.prog) _ 90 46 90 i0 _ 32 Try.underlying90 hi0 hz0 hz1 hz2 (by omega) rfl _ _ _ hrow (frL_cell l) _ _ hsrc hn
  have hb0 := (hB0.alloc (.cells #[.int .i64 x1, .int .i64 x2, .string x3] 46)).drewN 1
  have hb1 := hb0.only hg (fun e => H.out.2.2 e.symm)
  have d0 : w'.cell? ⟨b, 0, none⟩ = some (.slice A l.length c) := hb1.cell 0
  have e0 := hb1.free 0
  have hne : v'.ownBlock ≠ some b := by
    rcases ho with ho | ho
    · rw [ho]
      exact H.out.2.2
    · rw [ho]
      intro q
      injection q with q
      exact absurd hb0.lt (by rw [← q]; exact Nat.lt_irrefl _)
  have fin : QueFN w b (.slice A l.length c) lim (w'.setCell ⟨b, 0, none⟩ v') (l ++ [(x1, x2, x3)]) dr := by
    refine ⟨_, ⟨hb1.put 0 _, ?_, hne⟩, Keeps.put (Keeps.trans ((hK0.alloc _).drew 1) (Keeps.of_only hg (fun k hk => .inr hk))) (.inl (.inl rfl)) _, ?_⟩
    · rw [frL_app, frL_one, List.length_append]
      exact hr.put hne _
    · rintro i (rfl | hi)
      · exact .inl (.inl rfl)
      · rcases ho with ho | ho
        · exact .inl (.inr (ho ▸ hi))
        · rw [ho] at hi
          injection hi with hi
          exact .inr (by simp at hi; omega)
  obtain ⟨A', c', rfl⟩ := hr.form
  have FIN := Lib.hid fin
  have HK := Lib.hid hk
  clear fin hne hb0 hb1 ho hg hr hrow hsrc hk hB0 hK0 hR0
  have q1 := Go.Lib.cell?_alloc_some (.cells #[.int .i64 x1, .int .i64 x2, .string x3] 46) q0
  go_wp2
  go_region_law (refine step_append_eq rfl (.tmp 28) (.tmp 30) 90 rfl HK.out rfl rfl ?_)
  all_goals
    go_wp2
    go_ret
    exact ⟨rfl, FIN.out⟩
set_option maxRecDepth 20000 in
theorem fpush_nil (x : Frm) (w : World) : Calls Try.prog 31 #[.pointer none, frv x] w fun e w' => e = .returned (.bool false) ∧ w.grownBy w' none := by
  obtain ⟨x1, x2, x3⟩ := x
  go_enter Try.func31, Try.ntmps31
  go_wp2
  go_ret
  exact ⟨rfl, only_alloc (only_refl _ _) _⟩

set_option maxRecDepth 20000 in
theorem fpeek_in (x : Frm) (h : QueF w b v (x :: l) lim dr) (hn : (x :: l).length ≤ 1000000) :
    Calls Try.prog 48 #[.pointer (some ⟨b, 0, none⟩), .int .i64 0] w fun e w' => e = .returned (.tuple #[frv x, .bool true]) ∧ w.grownBy w' none := by
  have c0 : w.cell? ⟨b, 0, none⟩ = some v := h.1.cell 0
  have hlt := h.1.lt
  have HL := Lib.hid (show ∀ W, QueF W b v (x :: l) lim dr → Calls Try.prog 33 #[.pointer (some ⟨b, 0, none⟩)] W fun e w' => e = .returned (.int .i64 (l.length + 1)) ∧ W = w' from fun W hW => by
    have := flen_any hW
    rw [List.length_cons, Int.natCast_add, Int.natCast_one] at this
    exact this)
  have HW := Lib.hid (show QueF (w.alloc (.cells #[.int .i64 0, .int .i64 0, .string ⟨#[]⟩] 46)) b v (x :: l) lim dr from h.keeps (S := fun _ => False) ((Keeps.refl _ w).alloc _) (fun _ _ h => h))
  have d0 : (w.alloc (.cells #[.int .i64 0, .int .i64 0, .string ⟨#[]⟩] 46)).cell? ⟨b, 0, none⟩ = some v := Go.Lib.cell?_alloc_some _ c0
  obtain ⟨hxl, h0 | ⟨g, off, cap, rfl, h2, h3, h4, h5, h6⟩⟩ := h.2.1
  · exact absurd h0.2 (by simp)
  · obtain ⟨x1, x2, x3⟩ := x
    have c1 : w.cell? ⟨g, off, none⟩ = some (.int .i64 x1) := h6 0 _ rfl
    have c2 : w.cell? ⟨g, off + 1, none⟩ = some (.int .i64 x2) := h6 1 _ rfl
    have c3 : w.cell? ⟨g, off + 2, none⟩ = some (.string x3) := h6 2 _ rfl
    have d1 : (w.alloc (.cells #[.int .i64 0, .int .i64 0, .string ⟨#[]⟩] 46)).cell? ⟨g, off, none⟩ = some (.int .i64 x1) := Go.Lib.cell?_alloc_some _ c1
    have d2 : (w.alloc (.cells #[.int .i64 0, .int .i64 0, .string ⟨#[]⟩] 46)).cell? ⟨g, off + 1, none⟩ = some (.int .i64 x2) := Go.Lib.cell?_alloc_some _ c2
    have d3 : (w.alloc (.cells #[.int .i64 0, .int .i64 0, .string ⟨#[]⟩] 46)).cell? ⟨g, off + 2, none⟩ = some (.string x3) := Go.Lib.cell?_alloc_some _ c3
    have i1 : ¬ ((l.length : Int) + 1 ≤ 0) := by omega
    have i2 : (0 : Int) < ((l.length + 1 : Nat) : Int) := by omega
    clear h h2 h3 h4 h5 h6 hxl c0 c1 c2 c3 hn
    go_enter Try.func48, Try.ntmps48
    go_wp2_with (go_at_call 33; with_reducible refine (HL.out _ HW.out).mono ?_; rintro e w' ⟨rfl, rfl⟩)
    refine bodyPost_ret (v := .tuple #[.agg #[.int .i64 x1, .int .i64 x2, .string x3], .bool true]) (by simp [results, Try.results48, go_sem]) rfl ⟨rfl, only_alloc (only_refl _ _) _⟩
set_option maxRecDepth 20000 in
theorem fpeek_off (h : QueF w b v [] lim dr) :
    Calls Try.prog 48 #[.pointer (some ⟨b, 0, none⟩), .int .i64 0] w fun e w' => e = .returned (.tuple #[frv (0, 0, ⟨#[]⟩), .bool false]) ∧ w.grownBy w' none := by
  have HL := Lib.hid (fun W (hW : QueF W b v [] lim dr) => flen_any hW)
  have HW := Lib.hid (show QueF (w.alloc (.cells #[.int .i64 0, .int .i64 0, .string ⟨#[]⟩] 46)) b v [] lim dr from h.keeps (S := fun _ => False) ((Keeps.refl _ w).alloc _) (fun _ _ h => h))
  clear h
  go_enter Try.func48, Try.ntmps48
  go_wp2_with (go_at_call 33; with_reducible refine (HL.out _ HW.out).mono ?_; rintro e w' ⟨rfl, rfl⟩)
  refine bodyPost_ret (v := .tuple #[.agg #[.int .i64 0, .int .i64 0, .string ⟨#[]⟩], .bool false]) (by simp [results, Try.results48, go_sem]) rfl ⟨rfl, only_alloc (only_alloc (only_refl _ _) _) _⟩
end
end Go.Proofs.Ytjhihccjhnlghaa
