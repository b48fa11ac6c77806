/- Queues: Clone, Take, Fork; and what every law of package fifo asks first. -/
import Derived.Test.YtlhjhdheejdgnaaFQ2
namespace Go.Proofs.Ytlhjhdheejdgnaa
open Go.RowKit Go.Lib
set_option linter.unusedVariables false

/-- A queue of the call's own, whose blocks lie from B on. -/
def QueB (w : World) (B b : Nat) (T : TypeId) (l : List Value) (lim dr : Nat) : Prop := ∃ v, Que w b T v l lim dr ∧ (∀ i, OwnQ b v i → B ≤ i) ∧ B ≤ w.heap.size
theorem QueN.next {w w' : World} {B b : Nat} {T : TypeId} {v : Value} {lim dr' : Nat} {l' : List Value} (hb : ∀ i, OwnQ b v i → B ≤ i) (hB : B ≤ w.heap.size) (h : QueN w b T v lim w' l' dr') : QueB w' B b T l' lim dr' ∧ Below B w w' := by
  obtain ⟨v', h1, h2, h3⟩ := h
  refine ⟨⟨v', h1, fun i hi => ?_, Nat.le_trans hB h2.size⟩, h2.below hB fun i hi hn => absurd (hb i hn) (by omega)⟩
  rcases h3 i hi with h | h
  · exact hb i h
  · omega
theorem QueB.new (w : World) (T : TypeId) (lim : Nat) : QueB (w.alloc (.cells #[.slice none 0 0, .int .i64 lim, .int .i64 0] T)) w.heap.size w.heap.size T [] lim 0 :=
  ⟨_, ⟨Blk.new _ _ _, RowQ.nil _, by simp [Value.ownBlock]⟩, by
    rintro i (rfl | hi)
    · exact Nat.le_refl _
    · simp [Value.ownBlock] at hi, by simp⟩
theorem QueB.below {w w' : World} {B b : Nat} {T : TypeId} {l : List Value} {lim dr : Nat} (h : QueB w B b T l lim dr) (k : Below w.heap.size w w') : QueB w' B b T l lim dr := by
  obtain ⟨v, h1, h2, h3⟩ := h
  exact ⟨v, h1.keeps (Keeps.of_below k (fun _ => False)) (fun _ _ h => h), h2, Nat.le_trans h3 k.size⟩

theorem live_push (w : World) (B b : Nat) (x : Int) (l : List Value) (dr : Nat) (h : QueB w B b 70 l 2 dr) (h1 : ∀ u ∈ l, u.oneCell' = true) (hl : l.length < 2) :
    Calls Try.prog 32 #[.pointer (some ⟨b, 0, none⟩), .int .i64 x] w fun e w' => e = .returned (.bool true) ∧ QueB w' B b 70 (l ++ [.int .i64 x]) 2 dr ∧ Below B w w' := by
  obtain ⟨v, h2, h3, h4⟩ := h
  exact (fpush_on_i x h2 h1 hl (by omega)).mono fun e w' k => ⟨k.1, QueN.next h3 h4 k.2⟩
theorem live_push_off (w : World) (B b : Nat) (x : Int) (l : List Value) (dr : Nat) (h : QueB w B b 70 l 2 dr) (hl : 2 ≤ l.length) (hd : dr ≤ 1000000) :
    Calls Try.prog 32 #[.pointer (some ⟨b, 0, none⟩), .int .i64 x] w fun e w' => e = .returned (.bool false) ∧ QueB w' B b 70 l 2 (dr + 1) ∧ Below B w w' := by
  obtain ⟨v, h2, h3, h4⟩ := h
  exact (fpush_off_i (.int .i64 x) h2 hl hd).mono fun e w' k => ⟨k.1, QueN.next h3 h4 k.2⟩
theorem live_pop (w : World) (B b : Nat) (x : Value) (l : List Value) (dr : Nat) (h : QueB w B b 70 (x :: l) 2 dr) (hl : l.length ≤ 1000) :
    Calls Try.prog 33 #[.pointer (some ⟨b, 0, none⟩)] w fun e w' => e = .returned (.tuple #[x, .bool true]) ∧ QueB w' B b 70 l 2 dr ∧ Below B w w' := by
  obtain ⟨v, h2, h3, h4⟩ := h
  exact (fpop_in_i x h2 (by simp; omega)).mono fun e w' k => ⟨k.1, QueN.next h3 h4 k.2⟩
theorem live_drops (w : World) (B b : Nat) (l : List Value) (dr : Nat) (h : QueB w B b 70 l 2 dr) :
    Calls Try.prog 34 #[.pointer (some ⟨b, 0, none⟩)] w fun e w' => e = .returned (.int .i64 dr) ∧ w = w' := by
  obtain ⟨v, h2, h3, h4⟩ := h
  exact fdrops_any_i h2
theorem live_len (w : World) (B b : Nat) (l : List Value) (dr : Nat) (h : QueB w B b 70 l 2 dr) :
    Calls Try.prog 35 #[.pointer (some ⟨b, 0, none⟩)] w fun e w' => e = .returned (.int .i64 l.length) ∧ w = w' := by
  obtain ⟨v, h2, h3, h4⟩ := h
  exact flen_any_i h2

theorem live7_any (w : World) : Calls Try.prog 14 #[] w fun e w' => e = .returned (.bool true) ∧ Below w.heap.size w w' := by
  have q0 := QueB.new w 70 2
  have hn : ∀ w, Calls Try.prog 31 #[.int .i64 2] w fun e w' => e = .returned (.pointer (some ⟨w.heap.size, 0, none⟩)) ∧ w.alloc (.cells #[.slice none 0 0, .int .i64 ((2 : Nat) : Int), .int .i64 0] 70) = w' := fun w => fnew_any_i 2 w
  have b0 : Below w.heap.size w (w.alloc (.cells #[.slice none 0 0, .int .i64 ((2 : Nat) : Int), .int .i64 0] 70)) := (Below.refl _ _).alloc (Nat.le_refl _) _
  obtain ⟨B, hB⟩ : ∃ B, B = w.heap.size := ⟨_, rfl⟩
  have HN := Lib.hid (hn w)
  generalize w.alloc (.cells #[.slice none 0 0, .int .i64 ((2 : Nat) : Int), .int .i64 0] 70) = w0 at *
  rw [← hB] at q0 b0 HN ⊢
  have P1 := Lib.hid (live_push w0 B B 1 [] 0 q0 (by simp) (by simp))
  have P2 := Lib.hid (fun w q => live_push w B B 2 [.int .i64 1] 0 q (by simp [Value.oneCell']) (by simp))
  have P3 := Lib.hid (fun w q => live_push_off w B B 3 [.int .i64 1, .int .i64 2] 0 q (by simp) (by omega))
  have P4 := Lib.hid (fun w q => live_pop w B B (.int .i64 1) [.int .i64 2] 1 q (by simp))
  have P5 := Lib.hid (fun w q => live_drops w B B [.int .i64 2] 1 q)
  have P6 := Lib.hid (fun w q => live_len w B B [.int .i64 2] 1 q)
  clear hn hB q0
  go_enter Try.func14, Try.ntmps14
  go_wp2_with (first | (go_at_call 31; refine HN.out.mono ?_; rintro e w' ⟨rfl, rfl⟩) | (go_at_call 32; with_reducible refine P1.out.mono ?_; rintro e w1 ⟨rfl, q1, b1⟩; have Q1 := Lib.hid q1; clear q1) | (go_at_call 32; with_reducible refine (P2.out _ Q1.out).mono ?_; rintro e w2 ⟨rfl, q2, b2⟩; have Q2 := Lib.hid q2; clear q2) | (go_at_call 32; with_reducible refine (P3.out _ Q2.out).mono ?_; rintro e w3 ⟨rfl, q3, b3⟩; have Q3 := Lib.hid q3; clear q3) | (go_at_call 33; with_reducible refine (P4.out _ Q3.out).mono ?_; rintro e w4 ⟨rfl, q4, b4⟩; have Q4 := Lib.hid q4; clear q4) | (go_at_call 34; with_reducible refine (P5.out _ Q4.out).mono ?_; rintro e w' ⟨rfl, rfl⟩) | (go_at_call 35; with_reducible refine (P6.out _ Q4.out).mono ?_; rintro e w' ⟨rfl, rfl⟩))
  go_ret
  exact ⟨rfl, (((b0.trans b1).trans b2).trans b3).trans b4⟩

theorem clone_any {w : World} {v : Value} {l : List Value} (h : RowQ w v l) (h1 : ∀ u ∈ l, u.oneCell' = true) (hn : l.length ≤ 1000000) :
    Calls Try.prog 36 #[v] w fun e w' => ∃ v', e = .returned v' ∧ RowQ w' v' l ∧ Below w.heap.size w w' ∧ ∀ i, v'.ownBlock = some i → w.heap.size ≤ i := by
  obtain ⟨i0, hi0, hz0, hz1, hz2⟩ := info_parts string_info
  have H := Lib.hid h
  rcases h with ⟨rfl, rfl⟩ | ⟨g, off, cap, rfl, _⟩
  · have he := run_eql_slice_nil (P := Try.prog) w 31 9 none 0 0 0 0 Try.underlying31
    go_enter Try.func36, Try.ntmps36
    go_wp2
    go_ret
    exact ⟨_, rfl, RowQ.nil _, Below.refl _ _, fun i hi => by simp [Value.ownBlock] at hi⟩
  · have hrow : RowQ (w.alloc (.cells #[] 9)) (.slice (some ⟨g, off, none⟩) l.length cap) l := H.out.alloc _
    obtain ⟨v', w', hk, hr, hb, ho, A', c', rfl⟩ := run_all (P := Try.prog) (w.alloc (.cells #[] 9)) 31 9 31 i0 _ 16 Try.underlying31 hi0 hz0 hz1 hz2 (by omega) rfl _ _ hrow h1 hn w.heap.size (by simp)
    have HK := Lib.hid hk
    have HR := Lib.hid hr
    have HB := Lib.hid hb
    have HO := Lib.hid ho
    clear hk hr hb ho hrow
    have he := run_eql_slice_nil (P := Try.prog) w 31 9 (some ⟨g, off, none⟩) l.length cap 0 0 Try.underlying31
    go_enter Try.func36, Try.ntmps36
    go_wp2_with (at_builtin; refine wpList_append_eq rfl (.tmp 5) (.tmp 6) 31 rfl HK.out rfl rfl ?_)
    go_ret
    refine ⟨.slice (some A') l.length c', rfl, HR.out, ?_, fun i hi => ?_⟩
    · have h0 : Below w.heap.size w (w.alloc (.cells #[] 9)) := (Below.refl _ _).alloc (Nat.le_refl _) _
      exact h0.trans (HB.out.mono (by simp))
    · rcases HO.out with ho | ho
      · rw [ho] at hi
        injection hi with hi
        omega
      · rw [ho] at hi
        injection hi with hi
        simp at hi
        omega

theorem QueN.stay {w : World} {b : Nat} {T : TypeId} {v : Value} {l : List Value} {lim dr : Nat} (h : Que w b T v l lim dr) : QueN w b T v lim w l dr := ⟨v, h, Keeps.refl _ _, fun i hi => .inl hi⟩

/-- How many a Take(n) takes. -/
def takeN (n : Int) (len : Nat) : Nat := (min n len).toNat

section
variable {w : World} {b : Nat} {v : Value} {l : List Value} {lim dr : Nat}
theorem ftake_any (n : Int) (h : Que w b 51 v l lim dr) (h1 : ∀ u ∈ l, u.oneCell' = true) (hn : l.length ≤ 1000000) :
    Calls Try.prog 17 #[.pointer (some ⟨b, 0, none⟩), .int .i64 n] w fun e w' => ∃ out, e = .returned out ∧ RowQ w' out (l.take (takeN n l.length)) ∧ (∀ i, out.ownBlock = some i → w.heap.size ≤ i) ∧ QueN w b 51 v lim w' (l.drop (takeN n l.length)) dr := by
  have HL := Lib.hid (flen_any h)
  by_cases h0 : min n l.length < 1
  · have hk : takeN n l.length = 0 := by unfold takeN; omega
    have FIN := Lib.hid (QueN.stay h)
    rw [hk]
    clear h hk
    by_cases hm : n ≤ (l.length : Int)
    · have hm' : n < 1 := by omega
      clear h0
      go_enter Try.func17, Try.ntmps17
      go_wp2_with (go_at_call 10; refine HL.out.mono ?_; rintro e w' ⟨rfl, rfl⟩)
      go_ret
      exact ⟨.slice none 0 0, rfl, RowQ.nil _, fun i hi => by simp [Value.ownBlock] at hi, FIN.out⟩
    · have hm' : (l.length : Int) < 1 := by omega
      have hm2 : (l.length : Int) < n := by omega
      clear h0 hm
      go_enter Try.func17, Try.ntmps17
      go_wp2_with (go_at_call 10; refine HL.out.mono ?_; rintro e w' ⟨rfl, rfl⟩)
      go_ret
      exact ⟨.slice none 0 0, rfl, RowQ.nil _, fun i hi => by simp [Value.ownBlock] at hi, FIN.out⟩
  · obtain ⟨k, hk⟩ : ∃ k, k = takeN n l.length := ⟨_, rfl⟩
    have hk1 : 0 < k := by rw [hk]; unfold takeN; omega
    have hk2 : k ≤ l.length := by rw [hk]; unfold takeN; omega
    have hmin : min n (l.length : Int) = (k : Int) := by rw [hk]; unfold takeN; omega
    rw [← hk]
    have HK := Lib.hid hk
    clear hk h0
    have c0 : w.cell? ⟨b, 0, none⟩ = some v := h.1.cell 0
    have H := Lib.hid h
    obtain ⟨g, off, cap, rfl, h2, h3, h4, h5, h6⟩ := h.2.1.resolve_left (by rintro ⟨_, rfl⟩; simp at hk2; omega)
    have hR := RowQ.first (w := w) (n := k) h2 h3 h4 h5 h6 hk2
    have HC := Lib.hid (clone_any hR (fun u hu => h1 u (List.mem_of_mem_take hu)) (by simp; omega))
    have i1 : (k : Int) ≤ (cap : Int) := by omega
    have i2 : k ≤ cap := by omega
    have i3 : (0 : Int) < (k : Int) := by omega
    have i4 : ¬ (k : Int) < 1 := by omega
    have HLT := Lib.hid (fun (w1 : World) (q : Que w1 b 51 (.slice (some ⟨g, off, none⟩) l.length cap) l lim dr) => flet_any k q hk1 hk2 hn)
    clear h hR h5 h6 h2 h3 h4
    have tail : ∀ (w1 w2 : World) (out : Value), Below w.heap.size w w1 → RowQ w1 out (l.take k) → (∀ i, out.ownBlock = some i → w.heap.size ≤ i) → QueN w1 b 51 (.slice (some ⟨g, off, none⟩) l.length cap) lim w2 (l.drop k) dr →
        RowQ w2 out (l.take k) ∧ QueN w b 51 (.slice (some ⟨g, off, none⟩) l.length cap) lim w2 (l.drop k) dr := by
      intro w1 w2 out bel hr ho hq
      obtain ⟨v', q1, q2, q3⟩ := hq
      refine ⟨hr.keeps q2 fun i hi hn => ?_, v', q1, (Keeps.of_below bel _).trans q2, fun i hi => ?_⟩
      · have := ho i hi
        have := H.out.lt i hn
        omega
      · rcases q3 i hi with h | h
        · exact .inl h
        · exact .inr (Nat.le_trans bel.size h)
    have TAIL := Lib.hid tail
    clear tail
    by_cases hm : n ≤ (l.length : Int)
    · obtain rfl : n = (k : Int) := by omega
      clear hmin
      go_enter Try.func17, Try.ntmps17
      go_wp2_with (first | (go_at_call 10; refine HL.out.mono ?_; rintro e w' ⟨rfl, rfl⟩) | (go_at_call 36; refine HC.out.mono ?_; rintro e w1 ⟨out, rfl, r1, b1, o1⟩; have Q1 := Lib.hid (H.out.keeps (Keeps.of_below b1 (fun _ => False)) (fun _ _ h => h)); have R1 := Lib.hid r1; have O1 := Lib.hid o1; clear r1 o1) | (go_at_call 37; refine (HLT.out _ Q1.out).mono ?_; rintro e w2 ⟨rfl, q2⟩; have Q2 := Lib.hid q2; clear q2))
      go_ret
      obtain ⟨t1, t2⟩ := TAIL.out _ _ _ b1 R1.out O1.out Q2.out
      exact ⟨out, rfl, t1, O1.out, t2⟩
    · obtain hkl : l.length = k := by omega
      have hm2 : (l.length : Int) < n := by omega
      have hkl' : (l.length : Int) = (k : Int) := by omega
      clear hmin hm
      go_enter Try.func17, Try.ntmps17
      go_wp2_with (first | (go_at_call 10; refine HL.out.mono ?_; rintro e w' ⟨rfl, rfl⟩) | (go_at_call 36; refine HC.out.mono ?_; rintro e w1 ⟨out, rfl, r1, b1, o1⟩; have Q1 := Lib.hid (H.out.keeps (Keeps.of_below b1 (fun _ => False)) (fun _ _ h => h)); have R1 := Lib.hid r1; have O1 := Lib.hid o1; clear r1 o1) | (go_at_call 37; refine (HLT.out _ Q1.out).mono ?_; rintro e w2 ⟨rfl, q2⟩; have Q2 := Lib.hid q2; clear q2))
      trace_state
      go_ret
      obtain ⟨t1, t2⟩ := TAIL.out _ _ _ b1 R1.out O1.out Q2.out
      exact ⟨out, rfl, t1, O1.out, t2⟩
end
end Go.Proofs.Ytlhjhdheejdgnaa
