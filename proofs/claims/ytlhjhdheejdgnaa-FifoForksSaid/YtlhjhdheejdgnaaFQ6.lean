/- A deed on both queues, the program's and the document's: they answer alike. -/
import Derived.Test.YtlhjhdheejdgnaaFQ5
import Derived.Deep.RegionHeld3
namespace Go.Proofs.Ytlhjhdheejdgnaa
open Go.RowKit Go.Lib
set_option linter.unusedVariables false

abbrev sv (L : List ByteArray) : List Value := L.map Value.string
theorem sv_one (L : List ByteArray) : ∀ u ∈ sv L, u.oneCell' = true := by
  intro u hu
  obtain ⟨s, _, rfl⟩ := List.mem_map.1 hu
  rfl

/-- Both queues hold the same, apart from each other. -/
def Two (w : World) (q x : Nat) (v u : Value) (L : List ByteArray) (lim dr : Nat) : Prop :=
  Que w q 51 v (sv L) lim dr ∧ Que w x 33 u (sv L) lim dr ∧ ∀ i, OwnQ q v i → ¬ OwnQ x u i
/-- The program's has done its part. -/
def MidP (w : World) (q x : Nat) (v u : Value) (L : List ByteArray) (lim dr : Nat) (L' : List ByteArray) (dr' : Nat) (W : World) : Prop :=
  ∃ v', Que W q 51 v' (sv L') lim dr' ∧ Que W x 33 u (sv L) lim dr ∧ (∀ i, OwnQ q v' i → ¬ OwnQ x u i) ∧ (∀ i, OwnQ q v' i → OwnQ q v i ∨ w.heap.size ≤ i) ∧ Keeps (OwnQ q v) w W
/-- Both have. -/
def StepW (w : World) (q x : Nat) (v u : Value) (lim : Nat) (L' : List ByteArray) (dr' : Nat) (W : World) : Prop :=
  ∃ v' u', Two W q x v' u' L' lim dr' ∧ Keeps (fun i => OwnQ q v i ∨ i = x) w W ∧ (∀ i, OwnQ q v' i → OwnQ q v i ∨ w.heap.size ≤ i) ∧ (∀ i, OwnQ x u' i → OwnQ x u i ∨ w.heap.size ≤ i)

section
variable {w : World} {q x : Nat} {v u : Value} {L : List ByteArray} {lim dr : Nat}
theorem Two.below {W : World} (h : Two w q x v u L lim dr) (hW : Below w.heap.size w W) : Two W q x v u L lim dr :=
  ⟨h.1.keeps (Keeps.of_below hW (fun _ => False)) (fun _ _ h => h), h.2.1.keeps (Keeps.of_below hW (fun _ => False)) (fun _ _ h => h), h.2.2⟩
theorem MidP.of {W W1 : World} {L' : List ByteArray} {dr' : Nat} (h : Two w q x v u L lim dr) (hW : Below w.heap.size w W) (hq : QueN W q 51 v lim W1 (sv L') dr') : MidP w q x v u L lim dr L' dr' W1 := by
  obtain ⟨v', q1, q2, q3⟩ := hq
  have h' := h.below hW
  refine ⟨v', q1, h'.2.1.keeps q2 fun i hi hn => h.2.2 i hn hi, fun i hi hx => ?_, fun i hi => ?_, (Keeps.of_below hW _).trans q2⟩
  · rcases q3 i hi with h0 | h0
    · exact h.2.2 i h0 hx
    · have := h'.2.1.lt i hx
      omega
  · rcases q3 i hi with h0 | h0
    · exact .inl h0
    · exact .inr (Nat.le_trans hW.size h0)
theorem MidP.stay {W : World} (h : Two w q x v u L lim dr) (hW : Below w.heap.size w W) : MidP w q x v u L lim dr L dr W := by
  have h' := h.below hW
  exact ⟨v, h'.1, h'.2.1, h.2.2, fun i hi => .inl hi, Keeps.of_below hW _⟩
theorem StepW.of {W1 W2 : World} {L' : List ByteArray} {dr' : Nat} (h : MidP w q x v u L lim dr L' dr' W1) (hr : RefN W1 x u lim W2 (sv L') dr') : StepW w q x v u lim L' dr' W2 := by
  obtain ⟨v', m1, m2, m3, m4, m5⟩ := h
  obtain ⟨u', r1, r2, r3⟩ := hr
  refine ⟨v', u', ⟨m1.keeps r2 fun i hi e => m3 i hi (.inl e), r1, fun i hi hx => ?_⟩, (m5.mono fun i _ hi => .inl hi).trans (r2.mono fun i _ hi => .inr hi), m4, fun i hi => ?_⟩
  · rcases r3 i hx with h0 | h0
    · exact m3 i hi h0
    · have := m1.lt i hi
      omega
  · rcases r3 i hi with h0 | h0
    · exact .inl h0
    · exact .inr (Nat.le_trans m5.size h0)
theorem StepW.stay {W : World} (h : Two w q x v u L lim dr) (hW : Below w.heap.size w W) : StepW w q x v u lim L dr W :=
  ⟨v, u, h.below hW, Keeps.of_below hW _, fun i hi => .inl hi, fun i hi => .inl hi⟩
theorem StepW.drewN {W : World} {L' : List ByteArray} {dr' : Nat} (h : StepW w q x v u lim L' dr' W) (n : Nat) : StepW w q x v u lim L' dr' (W.drewN n) := h

/-- What a Push leaves. -/
def pushed (lim : Nat) (L : List ByteArray) (dr : Nat) (t : ByteArray) : List ByteArray × Nat := if L.length < lim then (L ++ [t], dr) else (L, dr + 1)

theorem push1_any (h : Two w q x v u L lim dr) (hn : L.length ≤ 10000) (hd : dr ≤ 10000) (t : ByteArray) (W : World) (hW : Below w.heap.size w W) :
    Calls Try.prog 16 #[.pointer (some ⟨q, 0, none⟩), .string t] W fun e W1 => e = .returned (.bool (decide (L.length < lim))) ∧ MidP w q x v u L lim dr (pushed lim L dr t).1 (pushed lim L dr t).2 W1 ∧ Keeps (OwnQ q v) W W1 := by
  have h' := h.below hW
  have hl : (sv L).length = L.length := by simp
  by_cases hlt : L.length < lim
  · have hp : pushed lim L dr t = (L ++ [t], dr) := by rw [pushed, if_pos hlt]
    rw [hp]
    refine (fpush_on t h'.1 (sv_one L) (by rw [hl]; exact hlt) (by rw [hl]; omega)).mono fun e W1 k => ⟨by rw [k.1, decide_eq_true hlt], MidP.of h hW (by simpa [sv] using k.2), ?_⟩
    obtain ⟨_, _, k2, _⟩ := k.2
    exact k2
  · have hp : pushed lim L dr t = (L, dr + 1) := by rw [pushed, if_neg hlt]
    rw [hp]
    refine (fpush_off (.string t) h'.1 (by rw [hl]; omega) (by omega)).mono fun e W1 k => ⟨by rw [k.1, decide_eq_false hlt], MidP.of h hW k.2, ?_⟩
    obtain ⟨_, _, k2, _⟩ := k.2
    exact k2
theorem push2_any (hn : L.length ≤ 10000) (hd : dr ≤ 10000) (t : ByteArray) (W1 : World) (hM : MidP w q x v u L lim dr (pushed lim L dr t).1 (pushed lim L dr t).2 W1) :
    Calls Try.prog 27 #[.pointer (some ⟨x, 0, none⟩), .string t] W1 fun e W2 => e = .returned (.bool (decide (L.length < lim))) ∧ StepW w q x v u lim (pushed lim L dr t).1 (pushed lim L dr t).2 W2 ∧ Keeps (fun i => i = x) W1 W2 := by
  have hl : (sv L).length = L.length := by simp
  obtain ⟨v', m1, m2, m3, m4, m5⟩ := hM
  by_cases hlt : L.length < lim
  · have hp : pushed lim L dr t = (L ++ [t], dr) := by rw [pushed, if_pos hlt]
    rw [hp] at m1 ⊢
    exact (rpush_on t m2 (sv_one L) (by rw [hl]; exact hlt) (by rw [hl]; omega)).mono fun e W2 k => ⟨by rw [k.1, decide_eq_true hlt], StepW.of ⟨v', m1, m2, m3, m4, m5⟩ (by simpa [sv] using k.2), by obtain ⟨_, _, k5, _⟩ := k.2; exact k5⟩
  · have hp : pushed lim L dr t = (L, dr + 1) := by rw [pushed, if_neg hlt]
    rw [hp] at m1 ⊢
    exact (rpush_off t m2 (by rw [hl]; omega) (by omega)).mono fun e W2 k => ⟨by rw [k.1, decide_eq_false hlt], StepW.of ⟨v', m1, m2, m3, m4, m5⟩ k.2, by obtain ⟨_, _, k5, _⟩ := k.2; exact k5⟩

theorem take1_any (h : Two w q x v u L lim dr) (hn : L.length ≤ 10000) (n : Int) (W : World) (hW : Below w.heap.size w W) :
    Calls Try.prog 17 #[.pointer (some ⟨q, 0, none⟩), .int .i64 n] W fun e W1 => ∃ out, e = .returned out ∧ RowQ W1 out (sv (L.take (takeN n L.length))) ∧ out.ownBlock ≠ some x ∧ MidP w q x v u L lim dr (L.drop (takeN n L.length)) dr W1 ∧ Keeps (OwnQ q v) W W1 := by
  have h' := h.below hW
  have hl : (sv L).length = L.length := by simp
  refine (ftake_any n h'.1 (sv_one L) (by rw [hl]; omega)).mono fun e W1 k => ?_
  obtain ⟨out, k1, k2, k3, k4⟩ := k
  rw [hl] at k2 k4
  refine ⟨out, k1, by simpa [sv, List.map_take] using k2, fun e => ?_, MidP.of h hW (by simpa [sv, List.map_drop] using k4), ?_⟩
  · have := k3 x e
    have := h.2.1.lt x (.inl rfl)
    have := hW.size
    omega
  · obtain ⟨_, _, k5, _⟩ := k4
    exact k5
theorem take2_any (hn : L.length ≤ 10000) (n : Int) (W1 : World) (hM : MidP w q x v u L lim dr (L.drop (takeN n L.length)) dr W1) :
    Calls Try.prog 28 #[.pointer (some ⟨x, 0, none⟩), .int .i64 n] W1 fun e W2 => ∃ out, e = .returned out ∧ RowQ W2 out (sv (L.take (takeN n L.length))) ∧ StepW w q x v u lim (L.drop (takeN n L.length)) dr W2 ∧ Keeps (fun i => i = x) W1 W2 := by
  have hl : (sv L).length = L.length := by simp
  obtain ⟨v', m1, m2, m3, m4, m5⟩ := hM
  refine (rtake_any n m2 (sv_one L) (by rw [hl]; omega)).mono fun e W2 k => ?_
  obtain ⟨out, k1, k2, k3, k4⟩ := k
  rw [hl] at k2 k4
  refine ⟨out, k1, by simpa [sv, List.map_take] using k2, StepW.of ⟨v', m1, m2, m3, m4, m5⟩ (by simpa [sv, List.map_drop] using k4), ?_⟩
  obtain ⟨_, _, k5, _⟩ := k4
  exact k5

theorem pop1_in (s : ByteArray) (h : Two w q x v u (s :: L) lim dr) (hn : L.length ≤ 10000) (W : World) (hW : Below w.heap.size w W) :
    Calls Try.prog 19 #[.pointer (some ⟨q, 0, none⟩)] W fun e W1 => e = .returned (.tuple #[.string s, .bool true]) ∧ MidP w q x v u (s :: L) lim dr L dr W1 :=
  (fpop_in (.string s) (h.below hW).1 (by simp; omega)).mono fun e W1 k => ⟨k.1, MidP.of h hW k.2⟩
theorem pop1_off (h : Two w q x v u [] lim dr) (W : World) (hW : Below w.heap.size w W) :
    Calls Try.prog 19 #[.pointer (some ⟨q, 0, none⟩)] W fun e W1 => e = .returned (.tuple #[.string ⟨#[]⟩, .bool false]) ∧ MidP w q x v u [] lim dr [] dr W1 :=
  (fpop_off (h.below hW).1).mono fun e W1 k => ⟨k.1, by rw [← k.2]; exact MidP.stay h hW⟩
end
end Go.Proofs.Ytlhjhdheejdgnaa
