/- End of package disk, by its contract. -/
import Derived.Test.YtlmdnhpdeiekfaaJ7
namespace Go.Proofs.Ytlmdnhpdeiekfaa
open Go.RowKit Go.Lib Go.Sort
set_option linter.unusedVariables false

/-- A job that may be done: owner k, sector s, m sectors, the owner's row from f on, c sectors. -/
def JobOK (T : Nat → Prt) (x : Jb) (k s m f c : Nat) : Prop := x.1 = (k : Int) ∧ 1 ≤ k ∧ k < 9 ∧ (T k).1 ≠ 0 ∧ x.2.1 = (s : Int) ∧ sizeJ x = (m : Int) * 16 ∧ 1 ≤ m ∧ m ≤ 2 ∧ (T k).2.1 = (f : Int) ∧ (T k).2.2 = (c : Int) ∧ s + m ≤ c ∧ f + c ≤ 512
theorem ask_ok {T : Nat → Prt} (hT : ∀ k, k < 9 → Within (T k)) {x : Jb} (h : askD T x = 0) : ∃ k s m f c, JobOK T x k s m f c := by
  unfold askD at h
  cases hn : noT T x.1 with
  | true => rw [hn] at h; simp at h
  | false =>
    rw [hn] at h
    simp only [if_false, Bool.false_eq_true] at h
    simp [noT] at hn
    obtain ⟨n1, n2, n3⟩ := hn
    obtain ⟨w1, w2, w3, w4⟩ := hT x.1.toNat (by omega)
    unfold askP at h
    by_cases h1 : sizeJ x < 1 ∨ ¬ sizeJ x % 16 = 0
    · rw [if_pos h1] at h; cases h
    · rw [if_neg h1] at h
      by_cases h2 : 32 < sizeJ x
      · rw [if_pos h2] at h; cases h
      · rw [if_neg h2] at h
        cases h3 : hasB (T x.1.toNat) x.2.1 (sizeJ x / 16) with
        | false => rw [h3] at h; simp at h
        | true =>
          simp [hasB] at h3
          exact ⟨x.1.toNat, x.2.1.toNat, (sizeJ x / 16).toNat, (T x.1.toNat).2.1.toNat, (T x.1.toNat).2.2.toNat, by omega, by omega, by omega, n3, by omega, by omega, by omega, by omega, by omega, by omega, by omega, by omega⟩

abbrev noJob : Jb := (0, 0, 0, false, ⟨#[]⟩)
section
variable {w w' : World} {b : Nat} {S : Nat → UInt8} {T : Nat → Prt} {bz : Bool} {j : Jb} {st : Int} {v : Value}
theorem end_nil (tick : Int) (w : World) : Calls Try.prog 14 #[.pointer none, .int .i64 tick] w fun e w' => e = .returned (.tuple #[.string ⟨#[]⟩, .int .i64 1]) ∧ w = w' := by
  go_enter Try.func14, Try.ntmps14
  go_wp2
  go_ret2
  exact ⟨rfl, rfl⟩
theorem end_idle (h : Dsk w b S T false j st v) (tick : Int) : Calls Try.prog 14 #[.pointer (some ⟨b, 0, none⟩), .int .i64 tick] w fun e w' => e = .returned (.tuple #[.string ⟨#[]⟩, .int .i64 9]) ∧ w = w' := by
  have c0 := h.busy
  clear h
  go_enter Try.func14, Try.ntmps14
  go_wp2
  go_ret2
  exact ⟨rfl, rfl⟩
theorem end_early (h : Dsk w b S T true j st v) (tick : Int) (ht : fitI tick) (h0 : 0 ≤ st) (h1 : st ≤ 2147483647) (hlt : tick < st + 3) : Calls Try.prog 14 #[.pointer (some ⟨b, 0, none⟩), .int .i64 tick] w fun e w' => e = .returned (.tuple #[.string ⟨#[]⟩, .int .i64 13]) ∧ w = w' := by
  have c0 := h.busy
  have c1 := h.start
  unfold fitI at ht
  clear h
  by_cases h2 : tick < st
  · clear hlt h0 h1 ht
    go_enter Try.func14, Try.ntmps14
    go_wp2
    go_ret2
    exact ⟨rfl, rfl⟩
  · have e1 : IntKind.i64.wrap (tick - st) = tick - st := by rw [IntKind.wrap_i64]; omega
    have i1 : tick - st < 3 := by omega
    clear hlt h0 h1 ht
    go_enter Try.func14, Try.ntmps14
    go_wp2
    go_ret2
    exact ⟨rfl, rfl⟩

set_option maxHeartbeats 1600000 in
theorem end_read (h : Dsk w b S T true j st v) (tick : Int) (ht : fitI tick) (h0 : 0 ≤ st) (h1 : st ≤ 2147483647) (hge : st + 3 ≤ tick) (hw : j.2.2.2.1 = false) {k s m f c : Nat} (hj : JobOK T j k s m f c) : Calls Try.prog 14 #[.pointer (some ⟨b, 0, none⟩), .int .i64 tick] w fun e w' => e = .returned (.tuple #[.string (secS S ((f + s) * 16) (m * 16)), .int .i64 0]) ∧ Dsk w' b S T false noJob 0 v ∧ w.grownBy w' (some b) := by
  have c0 := h.busy
  have c1 := h.start
  unfold fitI at ht
  obtain ⟨jo, js, jn, jw, jt⟩ := j
  obtain ⟨e1, _, hk, _, e2, e3, m1, m2, e4, e5, i1, i2⟩ := hj
  simp only [sizeJ] at e1 e2 e3 hw
  subst hw
  simp only [if_false, Bool.false_eq_true] at e3
  subst e1 e2 e3
  obtain ⟨b1, b2, b3, b4, b5⟩ := h.job
  have hlt := h.lt
  have ha := h.grown (only_alloc (only_refl w none) (.cells #[.int .i64 k, .int .i64 s, .int .i64 ((m : Int) * 16), .bool false, .string jt] 36))
  have hd := ha.setAll false noJob 0
  have a0 := ha.busy
  obtain ⟨a1, a2, a3, a4, a5⟩ := ha.job
  have a6 := ha.start
  simp only at a1 a2 a3 a4 a5
  simp only at hd
  have f0 := ha.free 8219
  have f1 := ha.free 8220
  have f2 := ha.free 8221
  have f3 := ha.free 8222
  have f4 := ha.free 8223
  have f5 := ha.free 8224
  have f6 := ha.free 8225
  have HR := Lib.hid (fun (W : World) (hW : Dsk W b S T false noJob 0 v) => read_any hW k s m jt hk e4 (by omega) m2)
  have hbx : ¬ w.heap.size = b := by omega
  have hbx2 : ¬ b = w.heap.size := by omega
  have g0 : w.grownBy ((((((((w.alloc (.cells #[.int .i64 k, .int .i64 s, .int .i64 ((m : Int) * 16), .bool false, .string jt] 36)).setCell ⟨b, 8219, none⟩ (.bool false)).setCell ⟨b, 8220, none⟩ (.int .i64 0)).setCell ⟨b, 8221, none⟩ (.int .i64 0)).setCell ⟨b, 8222, none⟩ (.int .i64 0)).setCell ⟨b, 8223, none⟩ (.bool false)).setCell ⟨b, 8224, none⟩ (.string ⟨#[]⟩)).setCell ⟨b, 8225, none⟩ (.int .i64 0)) (some b) := only_trans (only_alloc (only_refl _ _) _) (only_seven _ b _ _ _ _ _ _ _)
  have HD := Lib.hid hd
  have G0 := Lib.hid g0
  have j1 : ¬ tick < st := by omega
  have j2 : IntKind.i64.wrap (tick - st) = tick - st := by rw [IntKind.wrap_i64]; omega
  have j3 : ¬ tick - st < 3 := by omega
  clear h ha hd g0 ht hge h0 h1 e4 e5 i1 i2 m1 m2 hlt
  go_enter Try.func14, Try.ntmps14
  go_wp2_with (go_at_call 27; with_reducible refine (HR.out _ HD.out).mono ?_; rintro e w1 ⟨rfl, b1⟩; have fin := And.intro (HD.out.below b1) (only_trans G0.out (only_any (only_far b1) (some b))); have FIN := Lib.hid fin; clear fin b1)
  go_ret2
  exact ⟨rfl, FIN.out⟩

set_option maxHeartbeats 1600000 in
theorem end_write {B n : Nat} {rc : Nat → Rec} (h : Dsk w b S T true j st v) (hl : LogV w B v n rc) (tick : Int) (ht : fitI tick) (h0 : 0 ≤ st) (h1 : st ≤ 2147483647) (hge : st + 3 ≤ tick) (hw : j.2.2.2.1 = true) {k s m f c : Nat} (hj : JobOK T j k s m f c) (hn : n ≤ 1000) (hB : B ≤ w.heap.size) : Calls Try.prog 14 #[.pointer (some ⟨b, 0, none⟩), .int .i64 tick] w fun e w' => e = .returned (.tuple #[.string ⟨#[]⟩, .int .i64 0]) ∧
    ∃ v', Dsk w' b (putS S ((f + s) * 16) j.2.2.2.2.data.toList) T false noJob 0 v' ∧ LogV w' B v' (n + m) (wrRc rc n tick k s j.2.2.2.2) ∧ (v'.ownBlock = v.ownBlock ∨ ∃ k, v'.ownBlock = some k ∧ w.heap.size ≤ k) ∧ Keeps (DskB b v) w w' := by
  have c0 := h.busy
  have c1 := h.start
  unfold fitI at ht
  obtain ⟨jo, js, jn, jw, jt⟩ := j
  obtain ⟨e1, _, hk, _, e2, e3, m1, m2, e4, e5, i1, i2⟩ := hj
  simp only [sizeJ] at e1 e2 e3 hw
  subst hw
  simp only [if_true] at e3
  subst e1 e2
  obtain ⟨b1, b2, b3, b4, b5⟩ := h.job
  have hlt := h.lt
  have ha := h.grown (only_alloc (only_refl w none) (.cells #[.int .i64 k, .int .i64 s, .int .i64 jn, .bool true, .string jt] 36))
  have hd := ha.setAll false noJob 0
  have a0 := ha.busy
  obtain ⟨a1, a2, a3, a4, a5⟩ := ha.job
  have a6 := ha.start
  simp only at a1 a2 a3 a4 a5
  simp only at hd
  have f0 := ha.free 8219
  have f1 := ha.free 8220
  have f2 := ha.free 8221
  have f3 := ha.free 8222
  have f4 := ha.free 8223
  have f5 := ha.free 8224
  have f6 := ha.free 8225
  have hts : jt.size = m * 16 := by omega
  have hbx : ¬ w.heap.size = b := by omega
  have hbx2 : ¬ b = w.heap.size := by omega
  have g0 : w.grownBy ((((((((w.alloc (.cells #[.int .i64 k, .int .i64 s, .int .i64 jn, .bool true, .string jt] 36)).setCell ⟨b, 8219, none⟩ (.bool false)).setCell ⟨b, 8220, none⟩ (.int .i64 0)).setCell ⟨b, 8221, none⟩ (.int .i64 0)).setCell ⟨b, 8222, none⟩ (.int .i64 0)).setCell ⟨b, 8223, none⟩ (.bool false)).setCell ⟨b, 8224, none⟩ (.string ⟨#[]⟩)).setCell ⟨b, 8225, none⟩ (.int .i64 0)) (some b) := only_trans (only_alloc (only_refl _ _) _) (only_seven _ b _ _ _ _ _ _ _)
  have HR := Lib.hid (fun (W : World) (hW : Dsk W b S T false noJob 0 v) (hL : LogV W B v n rc) (hBW : B ≤ W.heap.size) => write_any hW hL k s m jn tick jt hk e4 (by omega) hts m2 hn hBW)
  have HL := Lib.hid (hl.only g0 (.inr (hl.off h)))
  have HBW := Lib.hid (Nat.le_trans hB g0.size)
  have FN := Lib.hid (fun (W w' : World) (g : w.grownBy W (some b)) (hws : WrS (W.alloc (.cells #[.int .i64 k, .int .i64 s, .int .i64 jn, .bool true, .string jt] 36)) w' B b S T false noJob 0 v n (wrRc rc n tick k s jt) ((f + s) * 16) jt m) => show ∃ v', Dsk w' b (putS S ((f + s) * 16) jt.data.toList) T false noJob 0 v' ∧ LogV w' B v' (n + m) (wrRc rc n tick k s jt) ∧ (v'.ownBlock = v.ownBlock ∨ ∃ k, v'.ownBlock = some k ∧ w.heap.size ≤ k) ∧ Keeps (DskB b v) w w' from by
    obtain ⟨v', q1, q2, q3, q4⟩ := hws
    rw [List.take_of_length_le (by rw [Array.length_toList]; show jt.size ≤ _; omega)] at q1
    have hsz := g.size
    refine ⟨v', q1, q2, ?_, ?_⟩
    · rcases q3 with q3 | ⟨k, q3, q5⟩
      · exact .inl q3
      · exact .inr ⟨k, q3, by simp at q5; omega⟩
    · exact (((Keeps.of_only g (S := DskB b v) (fun k hk => by injection hk with hk; exact .inl hk.symm)).alloc _).trans q4))
  have HD := Lib.hid hd
  have G0 := Lib.hid g0
  have j1 : ¬ tick < st := by omega
  have j2 : IntKind.i64.wrap (tick - st) = tick - st := by rw [IntKind.wrap_i64]; omega
  have j3 : ¬ tick - st < 3 := by omega
  clear h ha hd g0 ht hge h0 h1 e4 e5 i1 i2 m1 m2 hlt hl hB hts e3
  go_enter Try.func14, Try.ntmps14
  go_wp2_with (go_at_call 26; with_reducible refine (HR.out _ HD.out HL.out HBW.out).mono ?_; rintro e w1 ⟨rfl, b1⟩; have FIN := Lib.hid (FN.out _ _ G0.out b1); clear b1)
  go_ret2
  exact ⟨rfl, FIN.out⟩
end
end Go.Proofs.Ytlmdnhpdeiekfaa
