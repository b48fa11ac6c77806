/- A deed on both queues: the law's step. -/
import Derived.Test.YtlhjhdheejdgnaaFQ6
namespace Go.Proofs.Ytlhjhdheejdgnaa
open Go.RowKit Go.Lib
set_option linter.unusedVariables false

/-- What the law's step leaves: it says yes, and both queues hold the same again. -/
def StepV (w : World) (q x : Nat) (v u : Value) (L : List ByteArray) (lim dr : Nat) (e : Ending) (w' : World) : Prop :=
  e = .returned (.bool true) ∧ ∃ L' dr', StepW w q x v u lim L' dr' w' ∧ L'.length ≤ L.length + 1 ∧ dr' ≤ dr + 1

section
variable {w : World} {q x : Nat} {v u : Value} {L : List ByteArray} {lim dr : Nat}
theorem pushed_le (t : ByteArray) : (pushed lim L dr t).1.length ≤ L.length + 1 ∧ (pushed lim L dr t).2 ≤ dr + 1 := by
  unfold pushed
  split <;> simp

theorem boxed_deed {w W1 : World} {S : Nat → Prop} {d n : Int} {t : ByteArray} (T : TypeId) (hk : Keeps S ((w.alloc (.cells #[.int .i64 d, .int .i64 n, .string t] T)).drew) W1) (hS : ¬ S w.heap.size) :
    W1.cell? ⟨w.heap.size, 0, none⟩ = some (.int .i64 d) ∧ W1.cell? ⟨w.heap.size, 1, none⟩ = some (.int .i64 n) ∧ W1.cell? ⟨w.heap.size, 2, none⟩ = some (.string t) := by
  have hb : Blk ((w.alloc (.cells #[.int .i64 d, .int .i64 n, .string t] T)).drew) w.heap.size T #[.int .i64 d, .int .i64 n, .string t] := Blk.new w _ _
  have h1 := hb.keeps hk hS
  exact ⟨h1.cell 0, h1.cell 1, h1.cell 2⟩

theorem Keeps.cell {S : Nat → Prop} {W1 W2 : World} (hk : Keeps S W1 W2) {a : Addr} {y : Value} (h : W1.cell? a = some y) (hS : ¬ S a.block) : W2.cell? a = some y :=
  (World.cell?_of_block (hk.2.2.2.2 a.block (World.block_lt_of_cell? W1 a h) hS)).trans h

set_option maxHeartbeats 1600000 in
theorem step_push (h : Two w q x v u L lim dr) (hn : L.length ≤ 10000) (hd : dr ≤ 10000) (n : Int) (t : ByteArray) :
    Calls Try.prog 9 #[.pointer (some ⟨q, 0, none⟩), .pointer (some ⟨x, 0, none⟩), .agg #[.int .i64 0, .int .i64 n, .string t]] w (StepV w q x v u L lim dr) := by
  have P1 := Lib.hid (push1_any h hn hd t)
  have P2 := Lib.hid (fun W1 => push2_any (w := w) (q := q) (x := x) (v := v) (u := u) (lim := lim) hn hd t W1)
  have hnot : ¬ OwnQ q v w.heap.size := fun e => by have := h.1.lt _ e; omega
  have HB := Lib.hid (show Below w.heap.size w ((w.alloc (.cells #[.int .i64 0, .int .i64 n, .string t] 29)).drew) from ((Below.refl w.heap.size w).alloc (Nat.le_refl _) _).drew)
  have hle := pushed_le (lim := lim) (L := L) (dr := dr) t
  have HLE := Lib.hid hle
  have HNOT := Lib.hid hnot
  have hx : ¬ w.heap.size = x := fun e => by have := h.2.1.lt x (.inl rfl); omega
  generalize (pushed lim L dr t).1 = L' at *
  generalize (pushed lim L dr t).2 = dr' at *
  generalize decide (L.length < lim) = r at *
  have c2 : (w.alloc (.cells #[.int .i64 0, .int .i64 n, .string t] 29)).cell? ⟨w.heap.size, 2, none⟩ = some (.string t) := (Blk.new w 29 #[.int .i64 0, .int .i64 n, .string t]).cell 2
  clear h hle hnot
  go_enter Try.func9, Try.ntmps9
  go_wp2
  go_region_held3 (fun w' => w'.cell? ⟨w.heap.size, 2, none⟩ = some (.string t)) (first | exact e2 | go_keep) (first
    | (go_at_call 16; refine (P1.out _ HB.out).mono ?_; rintro e W1 ⟨rfl, m1, k1⟩; obtain ⟨e0, e1, e2⟩ := boxed_deed _ k1 HNOT.out; have M1 := Lib.hid m1; clear m1 k1 e0 e1)
    | (go_at_call 27; refine (P2.out _ M1.out).mono ?_; rintro e W2 ⟨rfl, m2, k2⟩; have e2' := k2.cell e2 hx; clear e2; have e2 := e2'; have M2 := Lib.hid m2; clear m2 k2 e2'))
  go_wp2
  go_ret
  exact ⟨rfl, L', dr', M2.out, HLE.out⟩

set_option maxHeartbeats 1600000 in
theorem step_take (h : Two w q x v u L lim dr) (hn : L.length ≤ 10000) (n : Int) (t : ByteArray) :
    Calls Try.prog 9 #[.pointer (some ⟨q, 0, none⟩), .pointer (some ⟨x, 0, none⟩), .agg #[.int .i64 2, .int .i64 n, .string t]] w (StepV w q x v u L lim dr) := by
  have P1 := Lib.hid (take1_any h hn n)
  have P2 := Lib.hid (fun W1 => take2_any (w := w) (q := q) (x := x) (v := v) (u := u) (lim := lim) (dr := dr) hn n W1)
  have P3 := Lib.hid (fun (W2 : World) (v1 v2 : Value) (r1 : RowQ W2 v1 (sv (L.take (takeN n L.length)))) r2 => same_any (w := W2) (v1 := v1) (v2 := v2) (L.take (takeN n L.length)) r1 r2 (by simp; omega))
  have hnot : ¬ OwnQ q v w.heap.size := fun e => by have := h.1.lt _ e; omega
  have HB := Lib.hid (show Below w.heap.size w ((w.alloc (.cells #[.int .i64 2, .int .i64 n, .string t] 29)).drew) from ((Below.refl w.heap.size w).alloc (Nat.le_refl _) _).drew)
  have HLE := Lib.hid (show (L.drop (takeN n L.length)).length ≤ L.length + 1 ∧ dr ≤ dr + 1 from ⟨by simp; omega, by omega⟩)
  have HNOT := Lib.hid hnot
  have hx : ¬ w.heap.size = x := fun e => by have := h.2.1.lt x (.inl rfl); omega
  generalize L.take (takeN n L.length) = Lt at *
  generalize L.drop (takeN n L.length) = L' at *
  have c1 : (w.alloc (.cells #[.int .i64 2, .int .i64 n, .string t] 29)).cell? ⟨w.heap.size, 1, none⟩ = some (.int .i64 n) := (Blk.new w 29 #[.int .i64 2, .int .i64 n, .string t]).cell 1
  clear h hnot
  go_enter Try.func9, Try.ntmps9
  go_wp2
  go_region_held3 (fun w' => w'.cell? ⟨w.heap.size, 1, none⟩ = some (.int .i64 n)) (first | exact e1 | go_keep) (first
    | (go_at_call 17; refine (P1.out _ HB.out).mono ?_; rintro e W1 ⟨o1, rfl, r1, x1, m1, k1⟩; obtain ⟨e0, e1, e2⟩ := boxed_deed _ k1 HNOT.out; have M1 := Lib.hid m1; have R1 := Lib.hid r1; have X1 := Lib.hid x1; clear m1 k1 e0 e2 r1 x1)
    | (go_at_call 28; refine (P2.out _ M1.out).mono ?_; rintro e W2 ⟨o2, rfl, r2, m2, k2⟩; have e1' := k2.cell e1 hx; clear e1; have e1 := e1'; have R12 := Lib.hid (R1.out.keeps k2 (fun i hi e => X1.out (e ▸ hi))); have R2 := Lib.hid r2; have M2 := Lib.hid m2; clear m2 k2 e1' r2)
    | (go_at_call 15; refine (P3.out _ _ _ R12.out R2.out).mono ?_; rintro e W3 ⟨rfl, qd, rfl⟩; have e1' : (W2.drewN qd).cell? ⟨w.heap.size, 1, none⟩ = some (.int .i64 n) := e1; clear e1; have e1 := e1'; clear e1'))
  go_wp2
  go_ret
  exact ⟨rfl, L', dr, M2.out.drewN _, HLE.out⟩

set_option maxHeartbeats 1600000 in
theorem step_pop (h : Two w q x v u L lim dr) (hn : L.length ≤ 10000) (n : Int) (t : ByteArray) :
    Calls Try.prog 9 #[.pointer (some ⟨q, 0, none⟩), .pointer (some ⟨x, 0, none⟩), .agg #[.int .i64 1, .int .i64 n, .string t]] w (StepV w q x v u L lim dr) := by
  have HB := Lib.hid (show Below w.heap.size w (w.alloc (.cells #[.int .i64 1, .int .i64 n, .string t] 29)) from ((Below.refl w.heap.size w).alloc (Nat.le_refl _) _))
  cases L with
  | nil =>
    have P1 := Lib.hid (pop1_off h _ HB.out)
    have P2 := Lib.hid (fun W1 => take2_any (w := w) (q := q) (x := x) (v := v) (u := u) (L := []) (lim := lim) (dr := dr) (by simp) 1 W1)
    clear h
    go_enter Try.func9, Try.ntmps9
    go_wp2_with (first | (go_at_call 19; refine P1.out.mono ?_; rintro e W1 ⟨rfl, m1⟩; have M1 := Lib.hid m1; clear m1) | (go_at_call 28; refine (P2.out _ M1.out).mono ?_; rintro e W2 ⟨o2, rfl, r2, m2, _⟩; obtain ⟨A2, c2, hf⟩ := r2.form; simp only [List.take_nil, sv, List.map_nil, List.length_nil] at hf; subst hf; have M2 := Lib.hid m2; clear m2 r2))
    go_ret
    exact ⟨rfl, [], dr, M2.out, by simp, by omega⟩
  | cons s L =>
    have P1 := Lib.hid (pop1_in s h (by simp at hn; omega) _ HB.out)
    have P2 := Lib.hid (fun W1 => take2_any (w := w) (q := q) (x := x) (v := v) (u := u) (L := s :: L) (lim := lim) (dr := dr) hn 1 W1)
    have ht : takeN 1 (s :: L).length = 1 := by unfold takeN; simp; omega
    rw [ht] at P2
    clear h
    go_enter Try.func9, Try.ntmps9
    go_wp2_with (first | (go_at_call 19; refine P1.out.mono ?_; rintro e W1 ⟨rfl, m1⟩; have M1 := Lib.hid m1; clear m1) | (go_at_call 28; refine (P2.out _ M1.out).mono ?_; rintro e W2 ⟨o2, rfl, r2, m2, _⟩; obtain ⟨g2, off2, cap2, rfl, _, _, _, _, h6⟩ := r2.resolve_left (by rintro ⟨_, hz⟩; simp [sv] at hz); have d2 := h6 0 (by simp [sv]); simp only [sv, List.take_succ_cons, List.take_zero, List.map_cons, List.map_nil, List.length_cons, List.length_nil, Nat.add_zero, List.getElem_cons_zero] at d2; have M2 := Lib.hid m2; clear m2 r2 h6))
    go_ret
    exact ⟨rfl, L, dr, M2.out, by simp; omega, by omega⟩
end
end Go.Proofs.Ytlhjhdheejdgnaa
