/- Queues of numbers: each call by its contract. -/
import Derived.Test.YtlhjhdheejdgnaaRows
import Derived.Test.YtlhjhdheejdgnaaFQ1
import Derived.Test.YtlhjhdheejdgnaaF
import Derived.BigQuiet
namespace Go.Proofs.Ytlhjhdheejdgnaa
open Go.RowKit Go.Lib
set_option linter.unusedVariables false

theorem string_info_i : (Try.prog.info? 3).map (fun i => (i.zero, i.size, i.bytes)) = some (some (.int .i64 0), 1, 8) := by kernel_rfl

theorem fnew_any_i (n : Int) (w : World) : Calls Try.prog 31 #[.int .i64 n] w fun e w' => e = .returned (.pointer (some ⟨w.heap.size, 0, none⟩)) ∧ w.alloc (.cells #[.slice none 0 0, .int .i64 (limQ n), .int .i64 0] 70) = w' := by
  by_cases h0 : n < 0
  · have E := Lib.hid (show ((limQ n : Nat) : Int) = 0 by unfold limQ; omega)
    go_enter Try.func31, Try.ntmps31
    go_wp2
    go_ret
    exact ⟨rfl, by rw [E.out]⟩
  · by_cases h1 : 65536 < n
    · have E := Lib.hid (show ((limQ n : Nat) : Int) = 65536 by unfold limQ; omega)
      go_enter Try.func31, Try.ntmps31
      go_wp2
      go_ret
      exact ⟨rfl, by rw [E.out]⟩
    · have E := Lib.hid (show ((limQ n : Nat) : Int) = n by unfold limQ; omega)
      go_enter Try.func31, Try.ntmps31
      go_wp2
      go_ret
      exact ⟨rfl, by rw [E.out]⟩

section
variable {w : World} {b : Nat} {v : Value} {l : List Value} {lim dr : Nat}
theorem flen_any_i (h : Que w b 70 v l lim dr) : Calls Try.prog 35 #[.pointer (some ⟨b, 0, none⟩)] w fun e w' => e = .returned (.int .i64 l.length) ∧ w = w' := by
  have c0 : w.cell? ⟨b, 0, none⟩ = some v := h.1.cell 0
  obtain ⟨A, c, rfl⟩ := h.2.1.form
  clear h
  go_enter Try.func35, Try.ntmps35
  go_wp2
  go_ret
  exact ⟨rfl, rfl⟩
theorem fdrops_any_i (h : Que w b 70 v l lim dr) : Calls Try.prog 34 #[.pointer (some ⟨b, 0, none⟩)] w fun e w' => e = .returned (.int .i64 dr) ∧ w = w' := by
  have c0 : w.cell? ⟨b, 2, none⟩ = some (.int .i64 dr) := h.1.cell 2
  clear h
  go_enter Try.func34, Try.ntmps34
  go_wp2
  go_ret
  exact ⟨rfl, rfl⟩

theorem fpush_off_i (x : Value) (h : Que w b 70 v l lim dr) (hl : lim ≤ l.length) (hd : dr ≤ 1000000) :
    Calls Try.prog 32 #[.pointer (some ⟨b, 0, none⟩), x] w fun e w' => e = .returned (.bool false) ∧ QueN w b 70 v lim w' l (dr + 1) := by
  have c0 : w.cell? ⟨b, 0, none⟩ = some v := h.1.cell 0
  have c1 : w.cell? ⟨b, 1, none⟩ = some (.int .i64 lim) := h.1.cell 1
  have c2 : w.cell? ⟨b, 2, none⟩ = some (.int .i64 dr) := h.1.cell 2
  have f2 := h.1.free 2
  have H := Lib.hid h
  have hl' : (lim : Int) ≤ (l.length : Int) := by omega
  obtain ⟨A, c, rfl⟩ := h.2.1.form
  clear h
  go_enter Try.func32, Try.ntmps32
  go_wp2
  go_quiet (fail)
  go_wp2
  go_ret
  refine ⟨rfl, _, ⟨((H.out.1.drewN nq).put 2 (.int .i64 ((dr : Int) + 1))), (H.out.2.1.drewN nq).put H.out.2.2 _, H.out.2.2⟩, ((Keeps.refl _ _).drew nq).put (.inl (.inl rfl)) _, fun i hi => .inl hi⟩

theorem fpush_on_i (x : Int) (h : Que w b 70 v l lim dr) (h1 : ∀ u ∈ l, u.oneCell' = true) (hl : l.length < lim) (hn : l.length ≤ 1000000) :
    Calls Try.prog 32 #[.pointer (some ⟨b, 0, none⟩), .int .i64 x] w fun e w' => e = .returned (.bool true) ∧ QueN w b 70 v lim w' (l ++ [.int .i64 x]) dr := by
  obtain ⟨i0, hi0, hz0, hz1, hz2⟩ := info_parts string_info_i
  have c0 : w.cell? ⟨b, 0, none⟩ = some v := h.1.cell 0
  have c1 : w.cell? ⟨b, 1, none⟩ = some (.int .i64 lim) := h.1.cell 1
  have f0 := h.1.free 0
  have H := Lib.hid h
  have hl' : (l.length : Int) < (lim : Int) := by omega
  obtain ⟨A, c, hv⟩ := h.2.1.form
  subst hv
  clear h
  go_enter Try.func32, Try.ntmps32
  go_wp2
  go_quiet (fail)
  have hrow : RowQ ((w.drewN nq).alloc (.cells #[.int .i64 x] 3)) (.slice A l.length c) l := (H.out.2.1.drewN nq).alloc _
  have hsrc : Src Try.prog 1 68 (.slice (some ⟨(w.drewN nq).heap.size, 0, none⟩) 1 1) 1 [.int .i64 x] ((w.drewN nq).alloc (.cells #[.int .i64 x] 3)) := Src.ofSlice _ Try.underlying68 _ _ _ _ rfl (cell_one_new _ _ _) (by simp [Value.oneCell'])
  obtain ⟨v', w', hk, hr, hg, ho, A', c', rfl⟩ := run_push (P := Try.prog) _ 68 3 68 i0 _ 8 Try.underlying68 hi0 hz0 hz1 hz2 (by omega) rfl _ _ hrow h1 _ _ hsrc hn
  have hb0 : Blk ((w.drewN nq).alloc (.cells #[.int .i64 x] 3)) b 70 #[.slice A l.length c, .int .i64 lim, .int .i64 dr] := (H.out.1.drewN nq).alloc _
  have hb1 := hb0.only hg (fun e => H.out.2.2 e.symm)
  have d0 : w'.cell? ⟨b, 0, none⟩ = some (.slice A l.length c) := hb1.cell 0
  have e0 := hb1.free 0
  have hne : (Value.slice A' (l.length + 1) c').ownBlock ≠ some b := by
    rcases ho with ho | ho
    · rw [ho]
      exact H.out.2.2
    · rw [ho]
      have := hb0.lt
      intro q
      injection q with q
      omega
  have fin : QueN w b 70 (.slice A l.length c) lim (w'.setCell ⟨b, 0, none⟩ (.slice A' (l.length + 1) c')) (l ++ [.int .i64 x]) dr := by
    refine ⟨_, ⟨hb1.put 0 _, hr.put hne _, hne⟩, Keeps.put (Keeps.trans ((Keeps.refl _ w).drew nq |>.alloc _) (Keeps.of_only hg (fun k hk => .inr hk))) (.inl (.inl rfl)) _, ?_⟩
    rintro i (rfl | hi)
    · exact .inl (.inl rfl)
    · rcases ho with ho | ho
      · exact .inl (.inr (ho ▸ hi))
      · rw [ho] at hi
        injection hi with hi
        exact .inr (by simp at hi; omega)
  have FIN := Lib.hid fin
  have HK := Lib.hid hk
  clear fin hne hb0 hb1 ho hg hr hrow hsrc c1 hk
  go_wp2_with (at_builtin; refine wpList_append_eq rfl (.tmp 28) (.tmp 30) 68 rfl HK.out rfl rfl ?_)
  go_ret
  exact ⟨rfl, FIN.out⟩

theorem fpeek_in_i (i : Nat) (h : Que w b 70 v l lim dr) (hi : i < l.length) (hn : l.length ≤ 1000000) :
    Calls Try.prog 42 #[.pointer (some ⟨b, 0, none⟩), .int .i64 i] w fun e w' => e = .returned (.tuple #[l[i], .bool true]) ∧ w = w' := by
  have c0 : w.cell? ⟨b, 0, none⟩ = some v := h.1.cell 0
  have HL := Lib.hid (flen_any_i h)
  have hi' : (i : Int) < (l.length : Int) := by omega
  obtain ⟨g, off, cap, rfl, h2, h3, h4, h5, h6⟩ := h.2.1.resolve_left (by rintro ⟨_, rfl⟩; simp at hi)
  have c1 := h6 i hi
  obtain ⟨u, hu⟩ : ∃ u, u = l[i] := ⟨_, rfl⟩
  rw [← hu] at c1 ⊢
  obtain ⟨n, hn2⟩ : ∃ n, n = l.length := ⟨_, rfl⟩
  rw [← hn2] at c0 HL hi' hi
  clear h h2 h3 h4 h5 h6 hu hn hn2
  go_enter Try.func42, Try.ntmps42
  go_wp2_with (go_at_call 35; refine HL.out.mono ?_; rintro e w' ⟨rfl, rfl⟩)
  go_ret2
  exact ⟨rfl, rfl⟩
theorem fpeek_off_i (n : Int) (h : Que w b 70 v l lim dr) (hi : n < 0 ∨ (l.length : Int) ≤ n) :
    Calls Try.prog 42 #[.pointer (some ⟨b, 0, none⟩), .int .i64 n] w fun e w' => e = .returned (.tuple #[.int .i64 0, .bool false]) ∧ w = w' := by
  have HL := Lib.hid (flen_any_i h)
  clear h
  by_cases h0 : n < 0
  · go_enter Try.func42, Try.ntmps42
    go_wp2_with (go_at_call 35; refine HL.out.mono ?_; rintro e w' ⟨rfl, rfl⟩)
    go_ret2
    exact ⟨rfl, rfl⟩
  · have h1 : (l.length : Int) ≤ n := by omega
    clear hi
    go_enter Try.func42, Try.ntmps42
    go_wp2_with (go_at_call 35; refine HL.out.mono ?_; rintro e w' ⟨rfl, rfl⟩)
    go_ret2
    exact ⟨rfl, rfl⟩

theorem string_zero_i (w : World) : (zeroValue 3).run Try.prog w = .ok (.int .i64 0) w := by
  obtain ⟨i0, hi0, hz0, _, _⟩ := info_parts string_info_i
  simp [zeroValue, typeInfo, hi0, hz0]

theorem flet_any_i (n : Nat) (h : Que w b 70 v l lim dr) (h0 : 0 < n) (hi : n ≤ l.length) (hn : l.length ≤ 1000000) :
    Calls Try.prog 43 #[.pointer (some ⟨b, 0, none⟩), .int .i64 n] w fun e w' => e = .returned (.tuple #[]) ∧ QueN w b 70 v lim w' (l.drop n) dr := by
  have c0 : w.cell? ⟨b, 0, none⟩ = some v := h.1.cell 0
  have hB := h.1
  have hob := h.2.2
  obtain ⟨g, off, cap, rfl, h2, h3, h4, h5, h6⟩ := h.2.1.resolve_left (by rintro ⟨_, rfl⟩; simp at hi; omega)
  have hgb : g ≠ b := by intro e; subst e; exact hob rfl
  have hR := RowQ.cleared (w := w) (.int .i64 0) h2 h3 h4 h5 h6 hi
  have hk := run_clear_slice (P := Try.prog) w 68 3 0 (.int .i64 0) Try.underlying68 string_zero_i rfl rfl g off n cap h0 (fun j hj => (h5 j (by omega)).1) (fun j hj => (h5 j (by omega)).2)
  have hg := only_cells w g off (List.replicate n (.int .i64 0))
  generalize w.setCells g off (List.replicate n (.int .i64 0)) = w1 at *
  have hB1 := hB.only hg (by simpa using Ne.symm hgb)
  have d0 : w1.cell? ⟨b, 0, none⟩ = some (.slice (some ⟨g, off, none⟩) l.length cap) := hB1.cell 0
  have e0 := hB1.free 0
  have hi' : (n : Int) ≤ (l.length : Int) := by omega
  have hc' : (l.length : Int) ≤ (cap : Int) := by omega
  have hnc : n ≤ cap := by omega
  have hnc' : (n : Int) ≤ (cap : Int) := by omega
  have fin : QueN w b 70 (.slice (some ⟨g, off, none⟩) l.length cap) lim (w1.setCell ⟨b, 0, none⟩ (.slice (some ⟨g, off + n, none⟩) (l.length - n) (cap - n))) (l.drop n) dr :=
    ⟨_, ⟨hB1.put 0 _, hR.put (by simpa [Value.ownBlock] using hgb) _, by simpa [Value.ownBlock] using hgb⟩, (Keeps.of_only hg (fun k hk => .inr (by simpa [Value.ownBlock] using hk))).put (.inl (.inl rfl)) _, fun i hi => .inl (by simpa [OwnQ, Value.ownBlock] using hi)⟩
  have FIN := Lib.hid fin
  have fin2 : cap = n → QueN w b 70 (.slice (some ⟨g, off, none⟩) l.length cap) lim (w1.setCell ⟨b, 0, none⟩ (.slice (some ⟨g, off, none⟩) (l.length - n) 0)) (l.drop n) dr := by
    intro e
    have hl : l.drop n = [] := List.drop_eq_nil_of_le (by omega)
    have hz : l.length - n = 0 := by omega
    rw [hl, hz]
    exact ⟨_, ⟨hB1.put 0 _, (RowQ.empty off (Nat.lt_of_lt_of_le h4 hg.size)).put (by simpa [Value.ownBlock] using hgb) _, by simpa [Value.ownBlock] using hgb⟩, (Keeps.of_only hg (fun k hk => .inr (by simpa [Value.ownBlock] using hk))).put (.inl (.inl rfl)) _, fun i hi => .inl (by simpa [OwnQ, Value.ownBlock] using hi)⟩
  have FIN2 := Lib.hid fin2
  clear fin fin2 hR hB hB1 h h5 h6 hg
  go_enter Try.func43, Try.ntmps43
  go_wp2
  · subst h
    go_end0
    exact ⟨rfl, FIN2.out rfl⟩
  · go_end0
    exact ⟨rfl, FIN.out⟩

theorem fpop_in_i (x : Value) (h : Que w b 70 v (x :: l) lim dr) (hn : (x :: l).length ≤ 1000000) :
    Calls Try.prog 33 #[.pointer (some ⟨b, 0, none⟩)] w fun e w' => e = .returned (.tuple #[x, .bool true]) ∧ QueN w b 70 v lim w' l dr := by
  have H1 := Lib.hid (fpeek_in_i 0 h (by simp) hn)
  have H2 := Lib.hid (flet_any_i 1 h (by omega) (by simp) hn)
  clear h
  go_enter Try.func33, Try.ntmps33
  go_wp2_with (first | (go_at_call 42; refine H1.out.mono ?_; rintro e w' ⟨rfl, rfl⟩) | (go_at_call 43; refine H2.out.mono ?_; rintro e w1 ⟨rfl, h2⟩))
  go_ret2
  exact ⟨rfl, h2⟩
theorem fpop_off_i (h : Que w b 70 v [] lim dr) :
    Calls Try.prog 33 #[.pointer (some ⟨b, 0, none⟩)] w fun e w' => e = .returned (.tuple #[.int .i64 0, .bool false]) ∧ w = w' := by
  have H1 := Lib.hid (fpeek_off_i 0 h (.inr (by simp)))
  clear h
  go_enter Try.func33, Try.ntmps33
  go_wp2_with (first | (go_at_call 42; refine H1.out.mono ?_; rintro e w' ⟨rfl, rfl⟩))
  go_ret2
  exact ⟨rfl, rfl⟩
end
end Go.Proofs.Ytlhjhdheejdgnaa
