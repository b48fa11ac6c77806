/- The document's queue, call by call: a list that is always made anew. -/
import Derived.Test.YtlhjhdheejdgnaaFQ4
namespace Go.Proofs.Ytlhjhdheejdgnaa
open Go.RowKit Go.Lib
set_option linter.unusedVariables false

theorem rnew_any (n : Int) (w : World) : Calls Try.prog 8 #[.int .i64 n] w fun e w' => e = .returned (.pointer (some ⟨w.heap.size, 0, none⟩)) ∧ w.alloc (.cells #[.slice none 0 0, .int .i64 (limQ n), .int .i64 0] 33) = w' := by
  by_cases h0 : n < 0
  · have E := Lib.hid (show ((limQ n : Nat) : Int) = 0 by unfold limQ; omega)
    go_enter Try.func8, Try.ntmps8
    go_wp2
    go_ret
    exact ⟨rfl, by rw [E.out]⟩
  · by_cases h1 : 65536 < n
    · have E := Lib.hid (show ((limQ n : Nat) : Int) = 65536 by unfold limQ; omega)
      go_enter Try.func8, Try.ntmps8
      go_wp2
      go_ret
      exact ⟨rfl, by rw [E.out]⟩
    · have E := Lib.hid (show ((limQ n : Nat) : Int) = n by unfold limQ; omega)
      go_enter Try.func8, Try.ntmps8
      go_wp2
      go_ret
      exact ⟨rfl, by rw [E.out]⟩

/-- What a call that writes the document's queue leaves: it writes the queue's own block alone. -/
def RefN (w : World) (b : Nat) (v : Value) (lim : Nat) (w' : World) (l' : List Value) (dr' : Nat) : Prop :=
  ∃ v', Que w' b 33 v' l' lim dr' ∧ Keeps (fun i => i = b) w w' ∧ ∀ i, OwnQ b v' i → OwnQ b v i ∨ w.heap.size ≤ i

section
variable {w : World} {b : Nat} {v : Value} {l : List Value} {lim dr : Nat}
theorem rpush_off (x : ByteArray) (h : Que w b 33 v l lim dr) (hl : lim ≤ l.length) (hd : dr ≤ 1000000) :
    Calls Try.prog 27 #[.pointer (some ⟨b, 0, none⟩), .string x] w fun e w' => e = .returned (.bool false) ∧ RefN w b v lim w' l (dr + 1) := by
  have c0 : w.cell? ⟨b, 0, none⟩ = some v := h.1.cell 0
  have c1 : w.cell? ⟨b, 1, none⟩ = some (.int .i64 lim) := h.1.cell 1
  have c2 : w.cell? ⟨b, 2, none⟩ = some (.int .i64 dr) := h.1.cell 2
  have f2 := h.1.free 2
  have H := Lib.hid h
  have hl' : (lim : Int) ≤ (l.length : Int) := by omega
  obtain ⟨A, c, rfl⟩ := h.2.1.form
  clear h
  go_enter Try.func27, Try.ntmps27
  go_wp2
  go_quiet (fail)
  go_wp2
  go_ret
  refine ⟨rfl, _, ⟨((H.out.1.drewN nq).put 2 (.int .i64 ((dr : Int) + 1))), (H.out.2.1.drewN nq).put H.out.2.2 _, H.out.2.2⟩, Keeps.put (S := fun i => i = b) (p := ⟨b, 2, none⟩) ((Keeps.refl _ _).drew nq) (.inl rfl) _, fun i hi => .inl hi⟩

theorem rpush_on (x : ByteArray) (h : Que w b 33 v l lim dr) (h1 : ∀ u ∈ l, u.oneCell' = true) (hl : l.length < lim) (hn : l.length ≤ 100000) :
    Calls Try.prog 27 #[.pointer (some ⟨b, 0, none⟩), .string x] w fun e w' => e = .returned (.bool true) ∧ RefN w b v lim w' (l ++ [.string x]) dr := by
  obtain ⟨i0, hi0, hz0, hz1, hz2⟩ := info_parts string_info
  have c0 : w.cell? ⟨b, 0, none⟩ = some v := h.1.cell 0
  have c1 : w.cell? ⟨b, 1, none⟩ = some (.int .i64 lim) := h.1.cell 1
  have H := Lib.hid h
  have hl' : (l.length : Int) < (lim : Int) := by omega
  obtain ⟨A, c, hv⟩ := h.2.1.form
  subst hv
  clear h
  go_enter Try.func27, Try.ntmps27
  go_wp2
  go_quiet (fail)
  have k0 : ((w.drewN nq).alloc (.cells #[] 9)).cell? ⟨b, 0, none⟩ = some (.slice A l.length c) := ((H.out.1.drewN nq).alloc _).cell 0
  have hrow : RowQ ((w.drewN nq).alloc (.cells #[] 9)) (.slice A l.length c) l := (H.out.2.1.drewN nq).alloc _
  obtain ⟨v1, w1, hk, hr, hb, ho, A1, c1', rfl⟩ := run_all (P := Try.prog) ((w.drewN nq).alloc (.cells #[] 9)) 31 9 31 i0 _ 16 Try.underlying31 hi0 hz0 hz1 hz2 (by omega) rfl _ _ hrow h1 (by omega) w.heap.size (by simp)
  have hown1 : ∀ i, (Value.slice (some A1) l.length c1').ownBlock = some i → w.heap.size ≤ i ∧ i < w1.heap.size := by
    intro i hi
    refine ⟨?_, hr.lt i hi⟩
    rcases ho with ho | ho
    · rw [ho] at hi
      injection hi with hi
      omega
    · rw [ho] at hi
      injection hi with hi
      simp at hi
      omega
  have b1 : Below w.heap.size w w1 := by
    have q : Below w.heap.size w ((w.drewN nq).alloc (.cells #[] 9)) := (below_drewN (Below.refl _ _) nq).alloc (by simp) _
    exact q.trans (hb.mono (by simp))
  have B1 := H.out.1.below b1 H.out.1.lt
  have hrow1 : RowQ (w1.alloc (.cells #[.string x] 9)) (.slice (some A1) l.length c1') l := hr.alloc _
  have hsrc : Src Try.prog 1 31 (.slice (some ⟨w1.heap.size, 0, none⟩) 1 1) 1 [.string x] (w1.alloc (.cells #[.string x] 9)) := Src.ofSlice _ Try.underlying31 _ _ _ _ rfl (cell_one_new _ _ _) (by simp [Value.oneCell'])
  obtain ⟨v2, w2, hk2, hr2, hg2, ho2, A2, c2', rfl⟩ := run_push (P := Try.prog) _ 31 9 31 i0 _ 16 Try.underlying31 hi0 hz0 hz1 hz2 (by omega) rfl _ _ hrow1 h1 _ _ hsrc (by omega)
  have hlt := H.out.1.lt
  have hb2 : Below w.heap.size w w2 := by
    have q : Below w.heap.size w (w1.alloc (.cells #[.string x] 9)) := b1.alloc b1.size _
    exact q.trans (below_of_only hg2 (Nat.le_trans b1.size (by simp)) (fun k e => (hown1 k e).1))
  have B2 := H.out.1.below hb2 hlt
  have d0 : w2.cell? ⟨b, 0, none⟩ = some (.slice A l.length c) := B2.cell 0
  have e0 := B2.free 0
  have hown2 : ∀ i, (Value.slice A2 (l.length + 1) c2').ownBlock = some i → w.heap.size ≤ i := by
    intro i hi
    rcases ho2 with ho2 | ho2
    · rw [ho2] at hi
      exact (hown1 i hi).1
    · rw [ho2] at hi
      injection hi with hi
      have := b1.size
      simp at hi
      omega
  have hne : (Value.slice A2 (l.length + 1) c2').ownBlock ≠ some b := fun e => by have := hown2 b e; omega
  have fin : RefN w b (.slice A l.length c) lim (w2.setCell ⟨b, 0, none⟩ (.slice A2 (l.length + 1) c2')) (l ++ [.string x]) dr := by
    refine ⟨_, ⟨B2.put 0 _, hr2.put hne _, hne⟩, Keeps.put (S := fun i => i = b) (p := ⟨b, 0, none⟩) (Keeps.of_below hb2 _) (.inl rfl) _, ?_⟩
    rintro i (rfl | hi)
    · exact .inl (.inl rfl)
    · exact .inr (hown2 i hi)
  have FIN := Lib.hid fin
  have HK := Lib.hid hk
  have HK2 := Lib.hid hk2
  clear fin hne hown2 B2 hb2 hk2 hr2 hg2 ho2 hsrc hrow1 B1 b1 hown1 hk hr hb ho hrow c1
  go_wp2_with (first | (at_builtin; refine wpList_append_eq rfl (.tmp 23) (.tmp 27) 31 rfl HK.out rfl rfl ?_) | (at_builtin; refine wpList_append_eq rfl (.tmp 28) (.tmp 30) 31 rfl HK2.out rfl rfl ?_))
  go_ret
  exact ⟨rfl, FIN.out⟩

/-- The slices of a row's first elements, and of those behind them, as they are cut. -/
theorem RowQ.cuts (h : RowQ w v l) (k : Nat) (hk : k ≤ l.length) : (v = .slice none 0 0 ∧ l = [] ∧ k = 0) ∨ ∃ g off cap, v = .slice (some ⟨g, off, none⟩) l.length cap ∧ k ≤ cap ∧ l.length ≤ cap ∧ g < w.heap.size ∧ RowQ w (.slice (some ⟨g, off, none⟩) k cap) (l.take k) ∧ RowQ w (.slice (some ⟨g, off + k, none⟩) (l.length - k) (cap - k)) (l.drop k) ∧ (cap = k → RowQ w (.slice (some ⟨g, off, none⟩) (l.length - k) 0) (l.drop k)) := by
  rcases h with ⟨rfl, rfl⟩ | ⟨g, off, cap, rfl, h2, h3, h4, h5, h6⟩
  · exact .inl ⟨rfl, rfl, by simpa using hk⟩
  · refine .inr ⟨g, off, cap, rfl, by omega, h2, h4, RowQ.first h2 h3 h4 h5 h6 hk, RowQ.rest h2 h3 h4 h5 h6 hk, fun e => ?_⟩
    have hl : l.drop k = [] := List.drop_eq_nil_of_le (by omega)
    have hz : l.length - k = 0 := by omega
    rw [hl, hz]
    exact RowQ.empty off h4
end

/-- What the document's Take leaves: its result, and the queue. -/
def TakeN (w : World) (b : Nat) (v : Value) (l : List Value) (lim dr k : Nat) (out : Value) (w' : World) : Prop :=
  RowQ w' out (l.take k) ∧ (∀ i, out.ownBlock = some i → w.heap.size ≤ i) ∧ RefN w b v lim w' (l.drop k) dr

/-- The two appends of Take, and its store. -/
theorem take_mid (w : World) (b : Nat) (v : Value) (l : List Value) (lim dr k : Nat) (h : Que w b 33 v l lim dr) (h1 : ∀ u ∈ l, u.oneCell' = true) (hn : l.length ≤ 100000) (hk : k ≤ l.length) (v1 v2 : Value) (r1 : RowQ w v1 (l.take k)) (r2 : RowQ w v2 (l.drop k)) (hv2 : v2.ownBlock = none ∨ v2.ownBlock = v.ownBlock) :
    ∃ A1 c1 w1 A2 c2 w2, (Builtin.append_ #[31, 31] 31 #[.slice (some ⟨w.heap.size, 0, none⟩) 0 0, v1]).run Try.prog (w.alloc (.cells #[] 9)) = .ok (.slice (some A1) (l.take k).length c1) w1 ∧ w1.cell? ⟨b, 0, none⟩ = some v ∧ b < w1.heap.size ∧
      (Builtin.append_ #[31, 31] 31 #[.slice (some ⟨w1.heap.size, 0, none⟩) 0 0, v2]).run Try.prog (w1.alloc (.cells #[] 9)) = .ok (.slice (some A2) (l.drop k).length c2) w2 ∧ w2.cell? ⟨b, 0, none⟩ = some v ∧ w2.frozen? ⟨b, 0, none⟩ = false ∧
      TakeN w b v l lim dr k (.slice (some A1) (l.take k).length c1) (w2.setCell ⟨b, 0, none⟩ (.slice (some A2) (l.drop k).length c2)) := by
  obtain ⟨i0, hi0, hz0, hz1, hz2⟩ := info_parts string_info
  have hlt := h.1.lt
  obtain ⟨x1, w1, e1, q1, b1, o1, A1, c1, rfl⟩ := run_all (P := Try.prog) (w.alloc (.cells #[] 9)) 31 9 31 i0 _ 16 Try.underlying31 hi0 hz0 hz1 hz2 (by omega) rfl _ _ (r1.alloc _) (fun u hu => h1 u (List.mem_of_mem_take hu)) (by simp; omega) w.heap.size (by simp)
  have b1' : Below w.heap.size w w1 := ((Below.refl w.heap.size w).alloc (Nat.le_refl _) _).trans (b1.mono (by simp))
  have r2' : RowQ w1 v2 (l.drop k) := r2.below b1' fun i hi => by
    rcases hv2 with hv2 | hv2
    · rw [hv2] at hi
      cases hi
    · rw [hv2] at hi
      exact h.2.1.lt i hi
  obtain ⟨x2, w2, e2, q2, b2, o2, A2, c2, rfl⟩ := run_all (P := Try.prog) (w1.alloc (.cells #[] 9)) 31 9 31 i0 _ 16 Try.underlying31 hi0 hz0 hz1 hz2 (by omega) rfl _ _ (r2'.alloc _) (fun u hu => h1 u (List.mem_of_mem_drop hu)) (by simp; omega) w1.heap.size (by simp)
  have b2' : Below w1.heap.size w1 w2 := ((Below.refl w1.heap.size w1).alloc (Nat.le_refl _) _).trans (b2.mono (by simp))
  have b3 : Below w.heap.size w w2 := b1'.trans (b2'.mono b1'.size)
  have B1 := h.1.below b1' hlt
  have B2 := h.1.below b3 hlt
  have own : ∀ (A : Addr) (m c : Nat) (W : World), ((Value.slice (some A) m c).ownBlock = some W.heap.size ∨ (Value.slice (some A) m c).ownBlock = some (W.alloc (.cells #[] 9)).heap.size) → ∀ i, (Value.slice (some A) m c).ownBlock = some i → W.heap.size ≤ i := by
    intro A m c W ho i hi
    rcases ho with ho | ho
    · rw [ho] at hi
      injection hi with hi
      omega
    · rw [ho] at hi
      injection hi with hi
      simp at hi
      omega
  have w1le := b1'.size
  have own1 := own A1 _ c1 w o1
  have own2 := own A2 _ c2 w1 o2
  have hne : (Value.slice (some A2) (l.drop k).length c2).ownBlock ≠ some b := fun e => by have := own2 b e; omega
  refine ⟨A1, c1, w1, A2, c2, w2, e1, B1.cell 0, Nat.lt_of_lt_of_le hlt w1le, e2, B2.cell 0, B2.free 0, ?_, own1, _, ⟨B2.put 0 _, q2.put hne _, hne⟩, Keeps.put (S := fun i => i = b) (p := ⟨b, 0, none⟩) (Keeps.of_below b3 _) (.inl rfl) _, ?_⟩
  · refine (q1.below b2' fun i hi => q1.lt i hi).put (fun e => ?_) _
    have := own1 b e
    omega
  · rintro i (rfl | hi)
    · exact .inl (.inl rfl)
    · exact .inr (Nat.le_trans w1le (own2 i hi))

section
variable {w : World} {b : Nat} {v : Value} {l : List Value} {lim dr : Nat}
set_option maxHeartbeats 1600000 in
theorem rtake_any (n : Int) (h : Que w b 33 v l lim dr) (h1 : ∀ u ∈ l, u.oneCell' = true) (hn : l.length ≤ 100000) :
    Calls Try.prog 28 #[.pointer (some ⟨b, 0, none⟩), .int .i64 n] w fun e w' => ∃ out, e = .returned out ∧ TakeN w b v l lim dr (takeN n l.length) out w' := by
  obtain ⟨k, hk⟩ : ∃ k, k = takeN n l.length := ⟨_, rfl⟩
  have hk2 : k ≤ l.length := by rw [hk]; unfold takeN; omega
  have hcase : n < 0 ∧ k = 0 ∨ ¬ n < 0 ∧ (l.length : Int) < n ∧ k = l.length ∨ ¬ n < 0 ∧ ¬ (l.length : Int) < n ∧ n = (k : Int) := by rw [hk]; unfold takeN; omega
  rw [← hk]
  clear hk
  have c0 : w.cell? ⟨b, 0, none⟩ = some v := h.1.cell 0
  have hlt := h.1.lt
  have i0 : 0 ≤ (k : Int) := by omega
  have i4 : ¬ (k : Int) < 0 := by omega
  rcases h.2.1.cuts k hk2 with ⟨rfl, rfl, rfl⟩ | ⟨g, off, cap, rfl, hkc, hlc, hg, r1, r2, r3⟩
  · obtain ⟨A1, c1, w1, A2, c2, w2, m1, m2, m3, m4, m5, m6, m7⟩ := take_mid w b _ _ lim dr 0 h h1 hn hk2 (.slice none 0 0) (.slice none 0 0) (RowQ.nil _) (RowQ.nil _) (.inl rfl)
    have M1 := Lib.hid m1
    have M4 := Lib.hid m4
    have M7 := Lib.hid m7
    clear m1 m4 m7 h
    simp only [List.take_nil, List.drop_nil, List.length_nil] at *
    rcases hcase with ⟨hc, _⟩ | ⟨hc, hc2, _⟩ | ⟨hc, hc2, rfl⟩
    · go_enter Try.func28, Try.ntmps28
      go_wp2_with (first | (at_builtin; refine wpList_append_eq rfl (.tmp 22) (.tmp 28) 31 rfl M1.out rfl rfl ?_) | (at_builtin; refine wpList_append_eq rfl (.tmp 31) (.tmp 37) 31 rfl M4.out rfl rfl ?_))
      go_ret
      exact ⟨_, rfl, M7.out⟩
    · have hc3 : (0 : Int) < n := by simpa using hc2
      go_enter Try.func28, Try.ntmps28
      go_wp2_with (first | (at_builtin; refine wpList_append_eq rfl (.tmp 22) (.tmp 28) 31 rfl M1.out rfl rfl ?_) | (at_builtin; refine wpList_append_eq rfl (.tmp 31) (.tmp 37) 31 rfl M4.out rfl rfl ?_))
      go_ret
      exact ⟨_, rfl, M7.out⟩
    · have hc3 : (0 : Int) ≤ 0 := by omega
      go_enter Try.func28, Try.ntmps28
      go_wp2_with (first | (at_builtin; refine wpList_append_eq rfl (.tmp 22) (.tmp 28) 31 rfl M1.out rfl rfl ?_) | (at_builtin; refine wpList_append_eq rfl (.tmp 31) (.tmp 37) 31 rfl M4.out rfl rfl ?_))
      go_ret
      exact ⟨_, rfl, M7.out⟩
  · have z1 : (k : Int) ≤ (cap : Int) := by omega
    have z2 : (k : Int) ≤ (l.length : Int) := by omega
    have z3 : (l.length : Int) ≤ (cap : Int) := by omega
    have fin : ∀ v2, RowQ w v2 (l.drop k) → v2.ownBlock = some g → True := fun _ _ _ => trivial
    clear fin
    rcases hcase with ⟨hc, hk0⟩ | hcase
    · subst hk0
      have hv : RowQ w (.slice (some ⟨g, off, none⟩) l.length cap) (l.drop 0) := h.2.1
      obtain ⟨A1, c1, w1, A2, c2, w2, m1, m2, m3, m4, m5, m6, m7⟩ := take_mid w b _ _ lim dr 0 h h1 hn hk2 _ _ r1 hv (.inr rfl)
      simp only [List.length_take, List.length_drop, Nat.min_eq_left hk2, Nat.sub_zero] at m1 m4 m7
      have M1 := Lib.hid m1
      have M4 := Lib.hid m4
      have M7 := Lib.hid m7
      have hn' : ¬ (l.length : Int) < n := by omega
      clear m1 m4 m7 h r1 r2 r3 hv
      go_enter Try.func28, Try.ntmps28
      go_wp2_with (first | (at_builtin; refine wpList_append_eq rfl (.tmp 22) (.tmp 28) 31 rfl M1.out rfl rfl ?_) | (at_builtin; refine wpList_append_eq rfl (.tmp 31) (.tmp 37) 31 rfl M4.out rfl rfl ?_))
      go_ret
      exact ⟨_, rfl, M7.out⟩
    · by_cases hck : cap = k
      · subst hck
        obtain ⟨A1, c1, w1, A2, c2, w2, m1, m2, m3, m4, m5, m6, m7⟩ := take_mid w b _ _ lim dr cap h h1 hn hk2 _ _ r1 (r3 rfl) (.inr rfl)
        simp only [List.length_take, List.length_drop, Nat.min_eq_left hk2] at m1 m4 m7
        have hz : l.length - cap = 0 := by omega
        rw [hz] at m4 m7
        clear hz
        have M1 := Lib.hid m1
        have M4 := Lib.hid m4
        have M7 := Lib.hid m7
        clear m1 m4 m7 h r1 r2 r3
        rcases hcase with ⟨hc, hc2, hkl⟩ | ⟨hc, hc2, rfl⟩
        · have hkl' : (l.length : Int) = (cap : Int) := by omega
          clear hkl
          go_enter Try.func28, Try.ntmps28
          go_wp2_with (first | (at_builtin; refine wpList_append_eq rfl (.tmp 22) (.tmp 28) 31 rfl M1.out rfl rfl ?_) | (at_builtin; refine wpList_append_eq rfl (.tmp 31) (.tmp 37) 31 rfl M4.out rfl rfl ?_))
          go_ret
          exact ⟨_, rfl, M7.out⟩
        · go_enter Try.func28, Try.ntmps28
          go_wp2_with (first | (at_builtin; refine wpList_append_eq rfl (.tmp 22) (.tmp 28) 31 rfl M1.out rfl rfl ?_) | (at_builtin; refine wpList_append_eq rfl (.tmp 31) (.tmp 37) 31 rfl M4.out rfl rfl ?_))
          go_ret
          exact ⟨_, rfl, M7.out⟩
      · obtain ⟨A1, c1, w1, A2, c2, w2, m1, m2, m3, m4, m5, m6, m7⟩ := take_mid w b _ _ lim dr k h h1 hn hk2 _ _ r1 r2 (.inr rfl)
        simp only [List.length_take, List.length_drop, Nat.min_eq_left hk2] at m1 m4 m7
        have M1 := Lib.hid m1
        have M4 := Lib.hid m4
        have M7 := Lib.hid m7
        clear m1 m4 m7 h r1 r2 r3
        rcases hcase with ⟨hc, hc2, hkl⟩ | ⟨hc, hc2, rfl⟩
        · have hkl' : (l.length : Int) = (k : Int) := by omega
          clear hkl
          go_enter Try.func28, Try.ntmps28
          go_wp2_with (first | (at_builtin; refine wpList_append_eq rfl (.tmp 22) (.tmp 28) 31 rfl M1.out rfl rfl ?_) | (at_builtin; refine wpList_append_eq rfl (.tmp 31) (.tmp 37) 31 rfl M4.out rfl rfl ?_))
          go_ret
          exact ⟨_, rfl, M7.out⟩
        · go_enter Try.func28, Try.ntmps28
          go_wp2_with (first | (at_builtin; refine wpList_append_eq rfl (.tmp 22) (.tmp 28) 31 rfl M1.out rfl rfl ?_) | (at_builtin; refine wpList_append_eq rfl (.tmp 31) (.tmp 37) 31 rfl M4.out rfl rfl ?_))
          go_ret
          exact ⟨_, rfl, M7.out⟩

/-- Two rows of the same strings are the same. -/
theorem same_any {w : World} {v1 v2 : Value} (L : List ByteArray) (h1 : RowQ w v1 (L.map .string)) (h2 : RowQ w v2 (L.map .string)) (hL : L.length ≤ 100000) :
    Calls Try.prog 15 #[v1, v2] w fun e w' => e = .returned (.bool true) ∧ ∃ q, w.drewN q = w' := by
  obtain ⟨A1, c1, rfl⟩ := h1.form
  obtain ⟨A2, c2, rfl⟩ := h2.form
  obtain ⟨n, hn⟩ : ∃ n, n = L.length := ⟨_, rfl⟩
  have key : ∀ {A : Option Addr} {c : Nat}, RowQ w (.slice A (L.map Value.string).length c) (L.map .string) → ∀ k, k < n → ∃ g off, A = some ⟨g, off, none⟩ ∧ ∀ q, (w.drewN q).cell? ⟨g, off + k, none⟩ = some (.string (L[k]?.getD ⟨#[]⟩)) := by
    intro A c h k hk
    rcases h with ⟨_, hz⟩ | ⟨g, off, cap, hv, _, _, _, _, h6⟩
    · simp at hz
      rw [hz] at hn
      simp at hn
      omega
    · injection hv with e1 e2 e3
      refine ⟨g, off, e1, fun q => ?_⟩
      have := h6 k (by simp; omega)
      rw [show (w.drewN q).cell? ⟨g, off + k, none⟩ = w.cell? ⟨g, off + k, none⟩ from rfl, this]
      simp [show k < L.length from by omega]
  have k1 := key h1
  have k2 := key h2
  have hl : (L.map Value.string).length = n := by simp [hn]
  rw [hl] at *
  have K1 := Lib.hid k1
  have K2 := Lib.hid k2
  have hn100 : n ≤ 100000 := by omega
  clear key k1 k2 h1 h2 hl hn
  go_enter Try.func15, Try.ntmps15
  go_wp2
  go_loopw [5] (fun k wr => ∃ (i q : Nat), k = .int .i64 i ∧ i ≤ n ∧ wr = w.drewN q) (fun k _ => (n - intOf k).toNat)
  case atStart => exact ⟨0, 0, rfl, by omega, rfl⟩
  case round =>
    obtain ⟨i, q, rfl, hi, rfl⟩ := hrel
    by_cases h : i < n
    · obtain ⟨g1, o1, rfl, d1⟩ := K1.out i h
      obtain ⟨g2, o2, rfl, d2⟩ := K2.out i h
      generalize L[i]?.getD ⟨#[]⟩ = s at d1 d2
      have i1 : (i : Int) < (n : Int) := by omega
      go_wp2
      go_quiet (fail)
      go_wp2
      go_round
      case rel => exact ⟨i + 1, _, by go_num, by omega, rfl⟩
      case measure => simp [intOf]; omega
    · obtain rfl : i = n := by omega
      go_wp2
      go_ret
      exact ⟨rfl, q, rfl⟩
end
end Go.Proofs.Ytlhjhdheejdgnaa
