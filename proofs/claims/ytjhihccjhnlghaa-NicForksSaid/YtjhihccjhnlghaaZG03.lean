import Derived.Test.YtjhihccjhnlghaaZG02
import Derived.Deep.RegionLaw
set_option linter.all false
/- Queues of frames: what goes in and out, and a fork: their contracts. -/
namespace Go.Proofs.Ytjhihccjhnlghaa
open Go.RowKit Go.Lib
set_option linter.unusedVariables false

section
variable {w : World} {b : Nat} {v : Value} {l : List Frm} {lim dr : Nat}
/-- append where its run is known, as1 a step of a region that draws its order. -/
theorem step_append_eq {P : Program} {ops : Array Oper} {o : Oper} {a : Act} {W : World} {K : Act → World → Prop} {Q : Exit → Act → World → Prop} {E : Prop} (hgd : o.guard = none) (s x : Operand) (t : TypeId) (ho : o.op = .call { callee := .builtin .append, args := #[s, x], argTypes := #[t, t] })
    {v xs v' : Value} {w' : World} (hr : (Builtin.append_ #[t, t] o.type #[v, xs]).run P W = .ok v' w') (hs : a.eval s = v) (hx : a.eval x = xs) (h : K (a.put o.dst v') w') : if Region.wanted o (yielded ops a.tmps) = true then Oper.wp P o a W K Q else E := by
  have hw : Region.wanted o (yielded ops a.tmps) = true := by simp [Region.wanted, hgd]
  rw [if_pos hw]
  unfold Oper.wp execOp
  simp only [ho, resolve, invoke, builtin, Sem.run_bind, Sem.run_pure, Result.andThen_ok, List.map_toArray, List.map_cons, List.map_nil, hs, hx, hr]
  exact h
theorem frm_news (W : World) (x1 x2 : Int) (x3 : ByteArray) : ∀ j u, (frC (x1, x2, x3))[j]? = some u → (W.alloc (.cells #[.int .i64 x1, .int .i64 x2, .string x3] 46)).cell? ((⟨W.heap.size, 0, none⟩ : Addr).add j) = some u := by
  intro j u hj
  rw [addr_at, (Blk.new W 46 #[.int .i64 x1, .int .i64 x2, .string x3]).cell, Nat.zero_add]
  simpa [frC] using hj
set_option maxRecDepth 20000 in
theorem fpush_on (x : Frm) (h : QueF w b v l lim dr) (hl : l.length < lim) (hn : l.length ≤ 1000000) :
    Calls Try.prog 31 #[.pointer (some ⟨b, 0, none⟩), frv x] w fun e w' => e = .returned (.bool true) ∧ QueFN w b v lim w' (l ++ [x]) dr := by
  obtain ⟨i0, hi0, hz0, hz1, hz2⟩ := info_parts frame_info
  obtain ⟨x1, x2, x3⟩ := x
  have hb := h.1.alloc (.cells #[.int .i64 x1, .int .i64 x2, .string x3] 46)
  have c0 : w.cell? ⟨b, 0, none⟩ = some v := h.1.cell 0
  have c1 : w.cell? ⟨b, 1, none⟩ = some (.int .i64 lim) := h.1.cell 1
  have k0 : (w.alloc (.cells #[.int .i64 x1, .int .i64 x2, .string x3] 46)).cell? ⟨b, 0, none⟩ = some v := hb.cell 0
  have k1 : (w.alloc (.cells #[.int .i64 x1, .int .i64 x2, .string x3] 46)).cell? ⟨b, 1, none⟩ = some (.int .i64 lim) := hb.cell 1
  have f0 := hb.free 0
  have H := Lib.hid h
  have HB := Lib.hid hb
  have hl' : (l.length : Int) < (lim : Int) := by omega
  have HBX := Lib.hid (Blk.new w 46 #[.int .i64 x1, .int .i64 x2, .string x3])
  obtain ⟨A, c, hv⟩ := h.2.1.form
  subst hv
  clear h hb
  go_enter Try.func31, Try.ntmps31
  go_wp2
  go_quiet (fail)
  have hx := HBX.out.drewN nq
  obtain ⟨W0, hW0⟩ : ∃ W0, W0 = (w.alloc (.cells #[.int .i64 x1, .int .i64 x2, .string x3] 46)).drewN nq := ⟨_, rfl⟩
  have y0 : W0.cell? ⟨w.heap.size, 0, none⟩ = some (.int .i64 x1) := by rw [hW0]; exact hx.cell 0
  have y1 : W0.cell? ⟨w.heap.size, 1, none⟩ = some (.int .i64 x2) := by rw [hW0]; exact hx.cell 1
  have y2 : W0.cell? ⟨w.heap.size, 2, none⟩ = some (.string x3) := by rw [hW0]; exact hx.cell 2
  have q0 : W0.cell? ⟨b, 0, none⟩ = some (.slice A l.length c) := by rw [hW0]; exact k0
  have hB0 : Blk W0 b 92 #[.slice A l.length c, .int .i64 lim, .int .i64 dr] := by rw [hW0]; exact HB.out.drewN nq
  have hK0 : Keeps (OwnQ b (.slice A l.length c)) w W0 := by rw [hW0]; exact ((Keeps.refl _ w).alloc _).drew nq
  have hR0 : RowZ 3 W0 (.slice A l.length c) l.length (frL l) := by rw [hW0]; exact (H.out.2.1.alloc _).drewN nq
  have hsz0 : w.heap.size ≤ W0.heap.size := hK0.size
  rw [← hW0]
  clear hW0 hx c0 c1 k0 k1 f0
  have hrow : RowZ 3 (W0.alloc (.cells #[.int .i64 x1, .int .i64 x2, .string x3] 46)).drew (.slice A l.length c) l.length (frL l) := (hR0.alloc _).drewN 1
  have hsrc : Src Try.prog 3 90 (.slice (some ⟨W0.heap.size, 0, none⟩) 1 1) 1 (frC (x1, x2, x3)) (W0.alloc (.cells #[.int .i64 x1, .int .i64 x2, .string x3] 46)).drew := Src.ofSlice _ Try.underlying90 _ _ _ _ rfl (frm_news W0 x1 x2 x3) (by simp [frC, Value.oneCell'])
  obtain ⟨v', w', hk, hr, hg, ho⟩ := run_pushZ (P := Try.prog) _ 90 46 90 i0 _ 32 Try.underlying90 hi0 hz0 hz1 hz2 (by omega) rfl _ _ _ hrow (frL_cell l) _ _ hsrc hn
  have hb0 := (hB0.alloc (.cells #[.int .i64 x1, .int .i64 x2, .string x3] 46)).drewN 1
  have hb1 := hb0.only hg (fun e => H.out.2.2 e.symm)
  have d0 : w'.cell? ⟨b, 0, none⟩ = some (.slice A l.length c) := hb1.cell 0
  have e0 := hb1.free 0
  have hne : v'.ownBlock ≠ some b := by
    rcases ho with ho | ho
    · rw [ho]
      exact H.out.2.2
    · rw [ho]
      intro q
      injection q with q
      exact absurd hb0.lt (by rw [← q]; exact Nat.lt_irrefl _)
  have fin : QueFN w b (.slice A l.length c) lim (w'.setCell ⟨b, 0, none⟩ v') (l ++ [(x1, x2, x3)]) dr := by
    refine ⟨_, ⟨hb1.put 0 _, ?_, hne⟩, Keeps.put (Keeps.trans ((hK0.alloc _).drew 1) (Keeps.of_only hg (fun k hk => .inr hk))) (.inl (.inl rfl)) _, ?_⟩
    · rw [frL_app, frL_one, List.length_append]
      exact hr.put hne _
    · rintro i (rfl | hi)
      · exact .inl (.inl rfl)
      · rcases ho with ho | ho
        · exact .inl (.inr (ho ▸ hi))
        · rw [ho] at hi
          injection hi with hi
          exact .inr (by simp at hi; omega)
  obtain ⟨A', c', rfl⟩ := hr.form
  have FIN := Lib.hid fin
  have HK := Lib.hid hk
  clear fin hne hb0 hb1 ho hg hr hrow hsrc hk hB0 hK0 hR0
  have q1 := Go.Lib.cell?_alloc_some (.cells #[.int .i64 x1, .int .i64 x2, .string x3] 46) q0
  go_wp2
  go_region_law (refine step_append_eq rfl (.tmp 28) (.tmp 30) 90 rfl HK.out rfl rfl ?_)
  all_goals
    go_wp2
    go_ret
    exact ⟨rfl, FIN.out⟩
set_option maxRecDepth 20000 in
theorem fpush_nil (x : Frm) (w : World) : Calls Try.prog 31 #[.pointer none, frv x] w fun e w' => e = .returned (.bool false) ∧ w.grownBy w' none := by
  obtain ⟨x1, x2, x3⟩ := x
  go_enter Try.func31, Try.ntmps31
  go_wp2
  go_ret
  exact ⟨rfl, only_alloc (only_refl _ _) _⟩

set_option maxRecDepth 20000 in
theorem fpeek_in (x : Frm) (h : QueF w b v (x :: l) lim dr) (hn : (x :: l).length ≤ 1000000) :
    Calls Try.prog 48 #[.pointer (some ⟨b, 0, none⟩), .int .i64 0] w fun e w' => e = .returned (.tuple #[frv x, .bool true]) ∧ w.grownBy w' none := by
  have c0 : w.cell? ⟨b, 0, none⟩ = some v := h.1.cell 0
  have hlt := h.1.lt
  have HL := Lib.hid (show ∀ W, QueF W b v (x :: l) lim dr → Calls Try.prog 33 #[.pointer (some ⟨b, 0, none⟩)] W fun e w' => e = .returned (.int .i64 (l.length + 1)) ∧ W = w' from fun W hW => by
    have := flen_any hW
    rw [List.length_cons, Int.natCast_add, Int.natCast_one] at this
    exact this)
  have HW := Lib.hid (show QueF (w.alloc (.cells #[.int .i64 0, .int .i64 0, .string ⟨#[]⟩] 46)) b v (x :: l) lim dr from h.keeps (S := fun _ => False) ((Keeps.refl _ w).alloc _) (fun _ _ h => h))
  have d0 : (w.alloc (.cells #[.int .i64 0, .int .i64 0, .string ⟨#[]⟩] 46)).cell? ⟨b, 0, none⟩ = some v := Go.Lib.cell?_alloc_some _ c0
  obtain ⟨hxl, h0 | ⟨g, off, cap, rfl, h2, h3, h4, h5, h6⟩⟩ := h.2.1
  · exact absurd h0.2 (by simp)
  · obtain ⟨x1, x2, x3⟩ := x
    have c1 : w.cell? ⟨g, off, none⟩ = some (.int .i64 x1) := h6 0 _ rfl
    have c2 : w.cell? ⟨g, off + 1, none⟩ = some (.int .i64 x2) := h6 1 _ rfl
    have c3 : w.cell? ⟨g, off + 2, none⟩ = some (.string x3) := h6 2 _ rfl
    have d1 : (w.alloc (.cells #[.int .i64 0, .int .i64 0, .string ⟨#[]⟩] 46)).cell? ⟨g, off, none⟩ = some (.int .i64 x1) := Go.Lib.cell?_alloc_some _ c1
    have d2 : (w.alloc (.cells #[.int .i64 0, .int .i64 0, .string ⟨#[]⟩] 46)).cell? ⟨g, off + 1, none⟩ = some (.int .i64 x2) := Go.Lib.cell?_alloc_some _ c2
    have d3 : (w.alloc (.cells #[.int .i64 0, .int .i64 0, .string ⟨#[]⟩] 46)).cell? ⟨g, off + 2, none⟩ = some (.string x3) := Go.Lib.cell?_alloc_some _ c3
    have i1 : ¬ ((l.length : Int) + 1 ≤ 0) := by omega
    have i2 : (0 : Int) < ((l.length + 1 : Nat) : Int) := by omega
    clear h h2 h3 h4 h5 h6 hxl c0 c1 c2 c3 hn
    go_enter Try.func48, Try.ntmps48
    go_wp2_with (go_at_call 33; with_reducible refine (HL.out _ HW.out).mono ?_; rintro e w' ⟨rfl, rfl⟩)
    refine bodyPost_ret (v := .tuple #[.agg #[.int .i64 x1, .int .i64 x2, .string x3], .bool true]) (by simp [results, Try.results48, go_sem]) rfl ⟨rfl, only_alloc (only_refl _ _) _⟩
set_option maxRecDepth 20000 in
theorem fpeek_off (h : QueF w b v [] lim dr) :
    Calls Try.prog 48 #[.pointer (some ⟨b, 0, none⟩), .int .i64 0] w fun e w' => e = .returned (.tuple #[frv (0, 0, ⟨#[]⟩), .bool false]) ∧ w.grownBy w' none := by
  have HL := Lib.hid (fun W (hW : QueF W b v [] lim dr) => flen_any hW)
  have HW := Lib.hid (show QueF (w.alloc (.cells #[.int .i64 0, .int .i64 0, .string ⟨#[]⟩] 46)) b v [] lim dr from h.keeps (S := fun _ => False) ((Keeps.refl _ w).alloc _) (fun _ _ h => h))
  clear h
  go_enter Try.func48, Try.ntmps48
  go_wp2_with (go_at_call 33; with_reducible refine (HL.out _ HW.out).mono ?_; rintro e w' ⟨rfl, rfl⟩)
  refine bodyPost_ret (v := .tuple #[.agg #[.int .i64 0, .int .i64 0, .string ⟨#[]⟩], .bool false]) (by simp [results, Try.results48, go_sem]) rfl ⟨rfl, only_alloc (only_alloc (only_refl _ _) _) _⟩
end
end Go.Proofs.Ytjhihccjhnlghaa

/- Queues of frames: let, Pop, Clone and Fork: their contracts. -/
namespace Go.Proofs.Ytjhihccjhnlghaa
open Go.RowKit Go.Lib
set_option linter.unusedVariables false

theorem frame_zero (w : World) : (zeroValue 46).run Try.prog w = .ok (.agg #[.int .i64 0, .int .i64 0, .string ⟨#[]⟩]) w := by
  obtain ⟨i0, hi0, hz0, _, _⟩ := info_parts frame_info
  simp [zeroValue, typeInfo, hi0, hz0]
theorem zero3 : (Builtin.zeroCells (Value.agg #[.int .i64 0, .int .i64 0, .string ⟨#[]⟩]).cells 1).toList = [Value.int .i64 0, .int .i64 0, .string ⟨#[]⟩] := by kernel_rfl
section
variable {w : World} {b : Nat} {v : Value} {l : List Frm} {lim dr : Nat}
set_option maxRecDepth 20000 in
theorem flet_one (x : Frm) (h : QueF w b v (x :: l) lim dr) (hn : (x :: l).length ≤ 1000000) :
    Calls Try.prog 49 #[.pointer (some ⟨b, 0, none⟩), .int .i64 1] w fun e w' => e = .returned (.tuple #[]) ∧ QueFN w b v lim w' l dr := by
  have c0 : w.cell? ⟨b, 0, none⟩ = some v := h.1.cell 0
  have hB := h.1
  have hob := h.2.2
  obtain ⟨hxl, h0 | ⟨g, off, cap, rfl, h2, h3, h4, h5, h6⟩⟩ := h.2.1
  · exact absurd h0.2 (by simp)
  · have hgb : g ≠ b := by intro e; subst e; exact hob rfl
    rw [List.length_cons] at hxl h2
    have hR := RowZ.cleared (w := w) [Value.int .i64 0, .int .i64 0, .string ⟨#[]⟩] hxl (k := 1) rfl h2 h3 h4 h5 h6 (by omega)
    have hcap : 1 ≤ cap := by omega
    have hk := run_clear_sized (P := Try.prog) w 90 46 0 (.agg #[.int .i64 0, .int .i64 0, .string ⟨#[]⟩]) Try.underlying90 frame_zero g off 1 cap (by omega) (by rw [zero3]; simp [Value.oneCell']) (by rw [zero3]; intro j hj; simp at hj; exact (h5 j (by omega)).1) (by rw [zero3]; intro j hj; simp at hj; exact (h5 j (by omega)).2)
    rw [zero3] at hk
    have hg := only_cells w g off [Value.int .i64 0, .int .i64 0, .string ⟨#[]⟩]
    generalize w.setCells g off [Value.int .i64 0, .int .i64 0, .string ⟨#[]⟩] = w1 at *
    have hB1 := hB.only hg (by simpa using Ne.symm hgb)
    have d0 : w1.cell? ⟨b, 0, none⟩ = some (.slice (some ⟨g, off, none⟩) (l.length + 1) cap) := by simpa using hB1.cell 0
    have e0 := hB1.free 0
    rw [Nat.one_mul, Nat.add_sub_cancel, frL_drop] at hR
    have fin : QueFN w b (.slice (some ⟨g, off, none⟩) (l.length + 1) cap) lim (w1.setCell ⟨b, 0, none⟩ (.slice (some ⟨g, off + 3, none⟩) l.length (cap - 1))) l dr :=
      ⟨_, ⟨hB1.put 0 _, hR.put (by simpa [Value.ownBlock] using hgb) _, by simpa [Value.ownBlock] using hgb⟩, (Keeps.of_only hg (fun k hk => .inr (by simpa [Value.ownBlock] using hk))).put (.inl (.inl rfl)) _, fun i hi => .inl (by simpa [OwnQ, Value.ownBlock] using hi)⟩
    have FIN := Lib.hid fin
    have fin2 : cap = 1 → QueFN w b (.slice (some ⟨g, off, none⟩) (l.length + 1) cap) lim (w1.setCell ⟨b, 0, none⟩ (.slice (some ⟨g, off, none⟩) l.length 0)) l dr := by
      intro e
      have hl : l = [] := List.eq_nil_of_length_eq_zero (by omega)
      subst hl
      exact ⟨_, ⟨hB1.put 0 _, (RowZ.empty 3 off (Nat.lt_of_lt_of_le h4 hg.size)).put (by simpa [Value.ownBlock] using hgb) _, by simpa [Value.ownBlock] using hgb⟩, (Keeps.of_only hg (fun k hk => .inr (by simpa [Value.ownBlock] using hk))).put (.inl (.inl rfl)) _, fun i hi => .inl (by simpa [OwnQ, Value.ownBlock] using hi)⟩
    have FIN2 := Lib.hid fin2
    have i1 : (1 : Int) ≤ (cap : Int) := by omega
    have i2 : (1 : Int) ≤ ((l.length + 1 : Nat) : Int) := by omega
    rw [List.length_cons] at c0
    clear fin fin2 hR hB hB1 h h5 h6 hg hxl
    go_enter Try.func49, Try.ntmps49
    go_wp2_with (at_builtin; refine wpList_clear_eq rfl (.tmp 9) 90 rfl hk rfl ?_)
    · subst h
      go_end0
      exact ⟨rfl, FIN2.out rfl⟩
    · go_end0
      exact ⟨rfl, FIN.out⟩
theorem QueF.grown {w' : World} (h : QueF w b v l lim dr) (g : w.grownBy w' none) : QueF w' b v l lim dr := h.keeps (S := fun _ => False) (Keeps.of_only g (by simp)) (fun _ _ h => h)
/-- What a call that writes a queue leaves, seen from a world before, behind some writes to blocks that were not there. -/
theorem QueFN.seen {w0 w1 w2 : World} {l' : List Frm} {dr' : Nat} (hq : ∀ i, OwnQ b v i → i < w0.heap.size) (k : Keeps (fun _ => False) w0 w) (h : QueFN w b v lim w1 l' dr') (k2 : Keeps (fun i => w0.heap.size ≤ i ∧ ∀ v', (∀ i, OwnQ b v' i → OwnQ b v i ∨ w.heap.size ≤ i) → ¬ OwnQ b v' i) w1 w2) : QueFN w0 b v lim w2 l' dr' := by
  obtain ⟨v', h1, h2, h3⟩ := h
  refine ⟨v', h1.keeps k2 (fun i hi hn => hn.2 v' h3 hi), ?_, fun i hi => (h3 i hi).imp id (fun h => by have := k.size; omega)⟩
  exact ⟨k2.1.trans (h2.1.trans k.1), k2.2.1.trans (h2.2.1.trans k.2.1), k2.2.2.1.trans (h2.2.2.1.trans k.2.2.1), Nat.le_trans k.size (Nat.le_trans h2.size k2.size), fun i hi hn => by
    have hi2 : i < w.heap.size := Nat.lt_of_lt_of_le hi k.size
    rw [k2.2.2.2.2 i (Nat.lt_of_lt_of_le hi2 h2.size) (fun h => by omega), h2.2.2.2.2 i hi2 hn, k.2.2.2.2 i hi (fun h => h)]⟩
theorem QueFN.box {w3 : World} {l' : List Frm} {dr' x : Nat} {ty : TypeId} {cs : Array Value} (h : QueFN w b v lim w3 l' dr') (hx : Blk w x ty cs) (hn : ¬ OwnQ b v x) : Blk w3 x ty cs := by
  obtain ⟨v', _, h2, _⟩ := h
  exact hx.keeps h2 hn
theorem own_late {W : World} {x : Nat} (hq : ∀ i, OwnQ b v i → i < w.heap.size) (h0 : w.heap.size ≤ x) (h1 : x < W.heap.size) : w.heap.size ≤ x ∧ ∀ v', (∀ i, OwnQ b v' i → OwnQ b v i ∨ W.heap.size ≤ i) → ¬ OwnQ b v' x := by
  refine ⟨h0, fun v' hv hx => ?_⟩
  rcases hv x hx with h | h
  · have := hq x h
    omega
  · omega
set_option maxRecDepth 20000 in
theorem fpop_in (x : Frm) (h : QueF w b v (x :: l) lim dr) (hn : (x :: l).length ≤ 1000000) :
    Calls Try.prog 35 #[.pointer (some ⟨b, 0, none⟩)] w fun e w' => e = .returned (.tuple #[frv x, .bool true]) ∧ QueFN w b v lim w' l dr := by
  have hlt := h.lt
  have hw0 := h.grown (only_alloc (only_refl w none) (.cells #[.int .i64 0, .int .i64 0, .string ⟨#[]⟩] 46))
  have H1 := Lib.hid (fpeek_in x hw0 hn)
  have H2 := Lib.hid (fun (W : World) (hW : QueF W b v (x :: l) lim dr) => flet_one x hW hn)
  have HW0 := Lib.hid hw0
  have HLT := Lib.hid hlt
  obtain ⟨x1, x2, x3⟩ := x
  have R0 := Lib.hid (Blk.new w 46 #[.int .i64 0, .int .i64 0, .string ⟨#[]⟩])
  have fin : ∀ w1 w3, (w.alloc (.cells #[.int .i64 0, .int .i64 0, .string ⟨#[]⟩] 46)).grownBy w1 none → QueFN (w1.alloc (.cells #[.int .i64 x1, .int .i64 x2, .string x3] 46)) b v lim w3 l dr →
      (w3.cell? ⟨w1.heap.size, 0, none⟩ = some (.int .i64 x1) ∧ w3.cell? ⟨w1.heap.size, 1, none⟩ = some (.int .i64 x2) ∧ w3.cell? ⟨w1.heap.size, 2, none⟩ = some (.string x3)) ∧ Blk w3 w.heap.size 46 #[.int .i64 0, .int .i64 0, .string ⟨#[]⟩] ∧
      QueFN w b v lim (((w3.setCell ⟨w.heap.size, 0, none⟩ (.int .i64 x1)).setCell ⟨w.heap.size, 1, none⟩ (.int .i64 x2)).setCell ⟨w.heap.size, 2, none⟩ (.string x3)) l dr := fun w1 w3 g1 q3 => by
    have hs1 : w.heap.size + 1 ≤ w1.heap.size := by simpa using g1.size
    have hx1 := q3.box (Blk.new w1 46 #[.int .i64 x1, .int .i64 x2, .string x3]) (fun e => by have := hlt _ e; omega)
    have hx0 := q3.box (((Blk.new w 46 #[.int .i64 0, .int .i64 0, .string ⟨#[]⟩]).only g1 (by simp)).alloc (.cells #[.int .i64 x1, .int .i64 x2, .string x3] 46)) (fun e => by have := hlt _ e; omega)
    have hT := own_late (W := w1.alloc (.cells #[.int .i64 x1, .int .i64 x2, .string x3] 46)) (x := w.heap.size) hlt (Nat.le_refl _) (by simp; omega)
    refine ⟨⟨hx1.cell 0, hx1.cell 1, hx1.cell 2⟩, hx0, q3.seen hlt ?_ (((((Keeps.refl _ _).put (p := ⟨w.heap.size, 0, none⟩) (.inl hT) _).put (p := ⟨w.heap.size, 1, none⟩) (.inl hT) _).put (p := ⟨w.heap.size, 2, none⟩) (.inl hT) _))⟩
    exact (Keeps.of_only (only_trans (only_alloc (only_refl w none) _) g1) (by simp)).alloc _
  have FIN := Lib.hid fin
  clear h hw0 hlt fin
  go_enter Try.func35, Try.ntmps35
  go_wp2_with (first
    | (go_at_call 48; with_reducible refine H1.out.mono ?_; rintro e w1 ⟨rfl, g1⟩; have W2 := Lib.hid ((HW0.out.grown g1).grown (only_alloc (only_refl w1 none) (.cells #[.int .i64 x1, .int .i64 x2, .string x3] 46))); have G1 := Lib.hid g1; clear g1)
    | (go_at_call 49; with_reducible refine (H2.out _ W2.out).mono ?_; rintro e w3 ⟨rfl, q3⟩; obtain ⟨⟨c0, c1, c2⟩, b3, q4⟩ := FIN.out _ _ G1.out q3; have d0 := b3.cell 0; have d1 := b3.cell 1; have d2 := b3.cell 2; have f0 := b3.free 0; have f1 := b3.free 1; have f2 := b3.free 2; simp at d0 d1 d2; have Q4 := Lib.hid q4; clear q3 q4 b3))
  refine bodyPost_ret (v := .tuple #[.agg #[.int .i64 x1, .int .i64 x2, .string x3], .bool true]) (by simp [results, Try.results35, go_sem, d0, d1, d2]) rfl ⟨rfl, Q4.out⟩
set_option maxRecDepth 20000 in
theorem fpop_off (h : QueF w b v [] lim dr) :
    Calls Try.prog 35 #[.pointer (some ⟨b, 0, none⟩)] w fun e w' => e = .returned (.tuple #[frv (0, 0, ⟨#[]⟩), .bool false]) ∧ Below w.heap.size w w' := by
  have hw0 := h.grown (only_alloc (only_refl w none) (.cells #[.int .i64 0, .int .i64 0, .string ⟨#[]⟩] 46))
  have H1 := Lib.hid (fpeek_off hw0)
  have R0 := Lib.hid (Blk.new w 46 #[.int .i64 0, .int .i64 0, .string ⟨#[]⟩])
  have B0 : Hid (Below w.heap.size w (w.alloc (.cells #[.int .i64 0, .int .i64 0, .string ⟨#[]⟩] 46))) := Lib.hid ((Below.refl _ _).alloc (Nat.le_refl _) _)
  clear h hw0
  go_enter Try.func35, Try.ntmps35
  go_wp2_with (go_at_call 48; with_reducible refine H1.out.mono ?_; rintro e w1 ⟨rfl, g1⟩; have b3 := (R0.out.only g1 (by simp)).alloc (.cells #[.int .i64 0, .int .i64 0, .string ⟨#[]⟩] 46); have d0 := b3.cell 0; have d1 := b3.cell 1; have d2 := b3.cell 2; have f0 := b3.free 0; have f1 := b3.free 1; have f2 := b3.free 2; simp at d0 d1 d2; have B1 := Lib.hid (B0.out.trans (below_of_only g1 (by simp) (by simp))); clear g1 b3)
  refine bodyPost_ret (v := .tuple #[.agg #[.int .i64 0, .int .i64 0, .string ⟨#[]⟩], .bool false]) (by simp [results, Try.results35, go_sem, d0, d1, d2]) rfl ⟨rfl, ?_⟩
  first
    | exact (((B1.out.alloc B1.out.size _).setCell (Nat.le_refl _) _).setCell (Nat.le_refl _) _).setCell (Nat.le_refl _) _
    | exact B1.out.alloc B1.out.size _
end
end Go.Proofs.Ytjhihccjhnlghaa
