/- Parse of package frame, by its contract. -/
import Derived.Test.YtjhihccjhnlghaaFM3
namespace Go.Proofs.Ytjhihccjhnlghaa
open Go.RowKit Go.Lib
set_option linter.unusedVariables false

/-- Where a reader stands behind k bytes that were asked for, and its error. -/
def shP (s : ByteArray) (k : Nat) : Nat := if k ≤ s.size then k else s.size
def shE (s : ByteArray) (k : Nat) : Int := if k ≤ s.size then 0 else 5

section
variable {w0 W W' : World} {s : ByteArray}
theorem pa_sh (k : Nat) (h : PaK w0 W s (shP s k) (shE s k)) (hs : s.size ≤ 1000) :
    Calls Try.prog 43 #[.pointer (some ⟨w0.heap.size + 1, 0, none⟩)] W fun r w' => (∃ m, r = .returned (.int .i64 m)) ∧ PaK w0 w' s (shP s (k + 1)) (shE s (k + 1)) := by
  by_cases h1 : k < s.size
  · have e1 : shP s k = k := by rw [shP, if_pos (by omega)]
    have e2 : shE s k = 0 := by rw [shE, if_pos (by omega)]
    have e3 : shP s (k + 1) = k + 1 := by rw [shP, if_pos (by omega)]
    have e4 : shE s (k + 1) = 0 := by rw [shE, if_pos (by omega)]
    rw [e1, e2] at h
    rw [e3, e4]
    exact (pa_at h h1 hs).mono fun _ _ ⟨e, p⟩ => ⟨⟨_, e⟩, p⟩
  · by_cases h2 : k = s.size
    · have e1 : shP s k = k := by rw [shP, if_pos (by omega)]
      have e2 : shE s k = 0 := by rw [shE, if_pos (by omega)]
      have e3 : shP s (k + 1) = k := by rw [shP, if_neg (by omega), h2]
      have e4 : shE s (k + 1) = 5 := by rw [shE, if_neg (by omega)]
      rw [e1, e2] at h
      rw [e3, e4]
      exact (pa_off h h2 hs).mono fun _ _ ⟨e, p⟩ => ⟨⟨_, e⟩, p⟩
    · have e1 : shP s k = s.size := by rw [shP, if_neg (by omega)]
      have e2 : shE s k = 5 := by rw [shE, if_neg (by omega)]
      have e3 : shP s (k + 1) = s.size := by rw [shP, if_neg (by omega)]
      have e4 : shE s (k + 1) = 5 := by rw [shE, if_neg (by omega)]
      rw [e1, e2] at h
      rw [e3, e4]
      exact (pa_gone h (Nat.le_refl _) hs).mono fun _ _ ⟨e, p⟩ => ⟨⟨_, e⟩, p⟩
theorem pa_err5 {p : Nat} (h : PaK w0 W s p 5) : Calls Try.prog 44 #[.pointer (some ⟨w0.heap.size + 1, 0, none⟩)] W fun r w' => r = .returned (.int .i64 5) ∧ W = w' := pa_err h
theorem pa_err0 {p : Nat} (h : PaK w0 W s p 0) : Calls Try.prog 44 #[.pointer (some ⟨w0.heap.size + 1, 0, none⟩)] W fun r w' => r = .returned (.int .i64 0) ∧ W = w' := pa_err h
theorem PaK.below {p : Nat} {e : Int} (h : PaK w0 W s p e) : Below w0.heap.size w0 W := h.2.2.1
theorem PaK.form {p : Nat} {e : Int} (h : PaK w0 W s p e) : W.cell? ⟨w0.heap.size, 0, none⟩ = some (.int .i64 0) ∧ W.cell? ⟨w0.heap.size, 1, none⟩ = some (.int .i64 0) ∧ W.cell? ⟨w0.heap.size, 2, none⟩ = some (.string ⟨#[]⟩) ∧ W.frozen? ⟨w0.heap.size, 0, none⟩ = false ∧ W.frozen? ⟨w0.heap.size, 1, none⟩ = false ∧ W.frozen? ⟨w0.heap.size, 2, none⟩ = false :=
  ⟨h.1.cell 0, h.1.cell 1, h.1.cell 2, h.1.free 0, h.1.free 1, h.1.free 2⟩
end

/-- What Open answers of bytes that have the length of a frame's. -/
theorem open_ok {s : ByteArray} {n : Nat} (hs : s.size = n + 5) (h : Cr.sealed (s.extract 0 (n + 3)) = s) : Cr.openV s = (s.extract 0 (n + 3), 0) := by
  have hi := Cr.tail_iff s (by omega)
  rw [show s.size - 2 = n + 3 by omega] at hi
  rw [Cr.openV, if_neg (by omega), show s.size - 2 = n + 3 by omega, if_pos (hi.2 h)]
theorem open_no {s : ByteArray} {n : Nat} (hs : s.size = n + 5) (h : Cr.sealed (s.extract 0 (n + 3)) ≠ s) : Cr.openV s = (⟨#[]⟩, 10) := by
  have hi := Cr.tail_iff s (by omega)
  rw [show s.size - 2 = n + 3 by omega] at hi
  rw [Cr.openV, if_neg (by omega), show s.size - 2 = n + 3 by omega, if_neg (fun e => h (hi.1 e))]

set_option maxRecDepth 20000 in
theorem parse_any (s : ByteArray) (w : World) (hs : s.size ≤ 1000) : Calls Try.prog 30 #[.string s] w fun e w' => e = .returned (.tuple #[.agg #[.int .i64 (Fr.paV s).1.1, .int .i64 (Fr.paV s).1.2.1, .string (Fr.paV s).1.2.2], .int .i64 (Fr.paV s).2]) ∧ Below w.heap.size w w' := by
  have P0 := Lib.hid (PaK.new w s)
  have HN := Lib.hid (new_any s)
  by_cases h3 : s.size < 3
  · have hv := Lib.hid (Fr.pa_short h3)
    have hE : shE s 3 = 5 := by rw [shE, if_neg (by omega)]
    have P0 := Lib.hid (show PaK w ((w.alloc (.cells #[.int .i64 0, .int .i64 0, .string ⟨#[]⟩] 46)).alloc (.cells #[.int .i64 0, .string s, .int .i64 0] 113)) s (shP s 0) (shE s 0) from by
      have e1 : shP s 0 = 0 := by rw [shP, if_pos (by omega)]
      have e2 : shE s 0 = 0 := by rw [shE, if_pos (by omega)]
      rw [e1, e2]
      exact P0.out)
    have HE := Lib.hid hE
    clear hE h3
    go_enter Try.func30, Try.ntmps30
    go_wp2_with (first
      | (go_at_call 42; with_reducible refine (HN.out _).mono ?_; rintro e w1 ⟨rfl, rfl⟩)
      | (go_at_call 43; with_reducible refine (pa_sh 0 P0.out hs).mono ?_; rintro e w1 ⟨⟨m1, rfl⟩, p1⟩; replace p1 := Lib.hid p1)
      | (go_at_call 43; with_reducible refine (pa_sh 1 p1.out hs).mono ?_; rintro e w2 ⟨⟨m2, rfl⟩, p2⟩; replace p2 := Lib.hid p2)
      | (go_at_call 43; with_reducible refine (pa_sh 2 p2.out hs).mono ?_; rintro e w3 ⟨⟨m3, rfl⟩, p3⟩; rw [HE.out] at p3; obtain ⟨c0, c1, c2, f0, f1, f2⟩ := p3.form; replace p3 := Lib.hid p3)
      | (go_at_call 44; with_reducible refine (pa_err5 p3.out).mono ?_; rintro e w4 ⟨rfl, rfl⟩))
    refine bodyPost_ret (v := .tuple #[.agg #[.int .i64 0, .int .i64 0, .string ⟨#[]⟩], .int .i64 5]) (by simp [results, Try.results30, go_sem, c0, c1, c2, f0, f1, f2]) rfl ?_
    rw [hv.out]
    exact ⟨rfl, ((p3.out.below.setCell (Nat.le_refl _) _).setCell (Nat.le_refl _) _).setCell (Nat.le_refl _) _⟩
  · have h3' : 3 ≤ s.size := by omega
    have l0 := Lib.hid (show 0 < s.size from Nat.lt_of_lt_of_le (by decide) h3')
    have l1 := Lib.hid (show 0 + 1 < s.size from Nat.lt_of_lt_of_le (by decide) h3')
    have l2 := Lib.hid (show 0 + 1 + 1 < s.size from h3')
    obtain ⟨n, hn⟩ : ∃ n, n = Fr.bt s 2 := ⟨_, rfl⟩
    have A2 : ∀ W, PaK w W s (0 + 1 + 1) 0 → Calls Try.prog 43 #[.pointer (some ⟨w.heap.size + 1, 0, none⟩)] W fun r w' => r = .returned (.int .i64 n) ∧ PaK w w' s 3 0 := fun W p => by
      have := pa_at p l2.out hs
      rw [← (show n = Fr.bt s (0 + 1 + 1) from hn)] at this
      exact this
    replace A2 := Lib.hid A2
    have n256 : n < 256 := by rw [hn]; exact Fr.bt_lt _ _
    by_cases h32 : (32 : Int) < (n : Int)
    · have hv := Lib.hid (Fr.pa_limit h3' (by omega))
      clear h3 h3' hn
      go_enter Try.func30, Try.ntmps30
      go_wp2_with (first
        | (go_at_call 42; with_reducible refine (HN.out _).mono ?_; rintro e w1 ⟨rfl, rfl⟩)
        | (go_at_call 43; with_reducible refine (pa_at P0.out l0.out hs).mono ?_; rintro e w1 ⟨rfl, p1⟩; replace p1 := Lib.hid p1)
        | (go_at_call 43; with_reducible refine (pa_at p1.out l1.out hs).mono ?_; rintro e w2 ⟨rfl, p2⟩; replace p2 := Lib.hid p2)
        | (go_at_call 43; with_reducible refine (A2.out _ p2.out).mono ?_; rintro e w3 ⟨rfl, p3⟩; obtain ⟨c0, c1, c2, f0, f1, f2⟩ := p3.form; replace p3 := Lib.hid p3)
        | (go_at_call 44; with_reducible refine (pa_err0 p3.out).mono ?_; rintro e w4 ⟨rfl, rfl⟩))
      refine bodyPost_ret (v := .tuple #[.agg #[.int .i64 0, .int .i64 0, .string ⟨#[]⟩], .int .i64 4]) (by simp [results, Try.results30, go_sem, c0, c1, c2, f0, f1, f2]) rfl ?_
      rw [hv.out]
      exact ⟨rfl, ((p3.out.below.setCell (Nat.le_refl _) _).setCell (Nat.le_refl _) _).setCell (Nat.le_refl _) _⟩
    · have HZ := Lib.hid (show ∀ W, Calls Try.prog 45 #[.int .i64 n] W fun e w' => e = .returned (.int .i64 ((n : Int) + 5)) ∧ W = w' from fun W => by
        have := size_any (n : Int) W
        rw [Fr.szV, if_pos (by omega)] at this
        exact this)
      by_cases hlt : (s.size : Int) < (n : Int) + 5
      · have hv := Lib.hid (Fr.pa_end h3' (by omega) (by omega))
        clear h3 h3' hn
        go_enter Try.func30, Try.ntmps30
        go_wp2_with (first
          | (go_at_call 42; with_reducible refine (HN.out _).mono ?_; rintro e w1 ⟨rfl, rfl⟩)
          | (go_at_call 45; with_reducible refine (HZ.out _).mono ?_; rintro e w5 ⟨rfl, rfl⟩)
          | (go_at_call 43; with_reducible refine (pa_at P0.out l0.out hs).mono ?_; rintro e w1 ⟨rfl, p1⟩; replace p1 := Lib.hid p1)
          | (go_at_call 43; with_reducible refine (pa_at p1.out l1.out hs).mono ?_; rintro e w2 ⟨rfl, p2⟩; replace p2 := Lib.hid p2)
          | (go_at_call 43; with_reducible refine (A2.out _ p2.out).mono ?_; rintro e w3 ⟨rfl, p3⟩; obtain ⟨c0, c1, c2, f0, f1, f2⟩ := p3.form; replace p3 := Lib.hid p3)
          | (go_at_call 44; with_reducible refine (pa_err0 p3.out).mono ?_; rintro e w4 ⟨rfl, rfl⟩))
        refine bodyPost_ret (v := .tuple #[.agg #[.int .i64 0, .int .i64 0, .string ⟨#[]⟩], .int .i64 5]) (by simp [results, Try.results30, go_sem, c0, c1, c2, f0, f1, f2]) rfl ?_
        rw [hv.out]
        exact ⟨rfl, ((p3.out.below.setCell (Nat.le_refl _) _).setCell (Nat.le_refl _) _).setCell (Nat.le_refl _) _⟩
      · by_cases hgt : (n : Int) + 5 < (s.size : Int)
        · have hv := Lib.hid (Fr.pa_form h3' (by omega) (by omega))
          clear h3 h3' hn
          go_enter Try.func30, Try.ntmps30
          go_wp2_with (first
            | (go_at_call 42; with_reducible refine (HN.out _).mono ?_; rintro e w1 ⟨rfl, rfl⟩)
            | (go_at_call 45; with_reducible refine (HZ.out _).mono ?_; rintro e w5 ⟨rfl, rfl⟩)
            | (go_at_call 43; with_reducible refine (pa_at P0.out l0.out hs).mono ?_; rintro e w1 ⟨rfl, p1⟩; replace p1 := Lib.hid p1)
            | (go_at_call 43; with_reducible refine (pa_at p1.out l1.out hs).mono ?_; rintro e w2 ⟨rfl, p2⟩; replace p2 := Lib.hid p2)
            | (go_at_call 43; with_reducible refine (A2.out _ p2.out).mono ?_; rintro e w3 ⟨rfl, p3⟩; obtain ⟨c0, c1, c2, f0, f1, f2⟩ := p3.form; replace p3 := Lib.hid p3)
            | (go_at_call 44; with_reducible refine (pa_err0 p3.out).mono ?_; rintro e w4 ⟨rfl, rfl⟩))
          refine bodyPost_ret (v := .tuple #[.agg #[.int .i64 0, .int .i64 0, .string ⟨#[]⟩], .int .i64 3]) (by simp [results, Try.results30, go_sem, c0, c1, c2, f0, f1, f2]) rfl ?_
          rw [hv.out]
          exact ⟨rfl, ((p3.out.below.setCell (Nat.le_refl _) _).setCell (Nat.le_refl _) _).setCell (Nat.le_refl _) _⟩
        · have hsz : s.size = n + 5 := by omega
          have hv0 := fun h => Fr.pa_ok (s := s) (by omega) (by omega) h
          have hv1 := fun h => Fr.pa_bad (s := s) (by omega) (by omega) h
          rw [← hn] at hv0 hv1
          have HO := fun W => open_any s W hs
          by_cases he : Cr.sealed (s.extract 0 (n + 3)) = s
          · have hv := Lib.hid (hv0 he)
            rw [open_ok hsz he] at HO
            replace HO := Lib.hid HO
            have HT := Lib.hid (show ∀ W, PaK w W s 3 0 → Calls Try.prog 47 #[.pointer (some ⟨w.heap.size + 1, 0, none⟩), .int .i64 n] W fun r w' => r = .returned (.string (s.extract 3 (n + 3))) ∧ PaK w w' s (n + 3) 0 from fun W p => by
              have := pa_text n p (by omega) hs
              rw [Nat.add_comm 3 n] at this
              exact this)
            have HS := Lib.hid hsz
            clear h3 h3' hn hv0 hv1 he hsz
            go_enter Try.func30, Try.ntmps30
            go_wp2_with (first
              | (go_at_call 42; with_reducible refine (HN.out _).mono ?_; rintro e w1 ⟨rfl, rfl⟩)
              | (go_at_call 45; with_reducible refine (HZ.out _).mono ?_; rintro e w5 ⟨rfl, rfl⟩)
              | (go_at_call 43; with_reducible refine (pa_at P0.out l0.out hs).mono ?_; rintro e w1 ⟨rfl, p1⟩; replace p1 := Lib.hid p1)
              | (go_at_call 43; with_reducible refine (pa_at p1.out l1.out hs).mono ?_; rintro e w2 ⟨rfl, p2⟩; replace p2 := Lib.hid p2)
              | (go_at_call 43; with_reducible refine (A2.out _ p2.out).mono ?_; rintro e w3 ⟨rfl, p3⟩; replace p3 := Lib.hid p3)
              | (go_at_call 44; with_reducible refine (pa_err0 p3.out).mono ?_; rintro e w4 ⟨rfl, rfl⟩)
              | (go_at_call 46; with_reducible refine (HO.out _).mono ?_; rintro e w6 ⟨rfl, b6⟩; have p6 := Lib.hid (p3.out.far b6); clear b6)
              | (go_at_call 47; with_reducible refine (HT.out _ p6.out).mono ?_; rintro e w7 ⟨rfl, p7⟩; obtain ⟨c0, c1, c2, f0, f1, f2⟩ := p7.form; replace p7 := Lib.hid p7))
            refine bodyPost_ret (v := .tuple #[.agg #[.int .i64 (Fr.bt s 0 : Nat), .int .i64 (Fr.bt s 1 : Nat), .string (s.extract 3 (n + 3))], .int .i64 0]) (by simp [results, Try.results30, go_sem, c0, c1, c2, f0, f1, f2]) rfl ?_
            rw [hv.out]
            exact ⟨rfl, ((p7.out.below.setCell (Nat.le_refl _) _).setCell (Nat.le_refl _) _).setCell (Nat.le_refl _) _⟩
          · have hv := Lib.hid (hv1 he)
            rw [open_no hsz he] at HO
            replace HO := Lib.hid HO
            have HS := Lib.hid hsz
            clear h3 h3' hn hv0 hv1 he hsz
            go_enter Try.func30, Try.ntmps30
            go_wp2_with (first
              | (go_at_call 42; with_reducible refine (HN.out _).mono ?_; rintro e w1 ⟨rfl, rfl⟩)
              | (go_at_call 45; with_reducible refine (HZ.out _).mono ?_; rintro e w5 ⟨rfl, rfl⟩)
              | (go_at_call 43; with_reducible refine (pa_at P0.out l0.out hs).mono ?_; rintro e w1 ⟨rfl, p1⟩; replace p1 := Lib.hid p1)
              | (go_at_call 43; with_reducible refine (pa_at p1.out l1.out hs).mono ?_; rintro e w2 ⟨rfl, p2⟩; replace p2 := Lib.hid p2)
              | (go_at_call 43; with_reducible refine (A2.out _ p2.out).mono ?_; rintro e w3 ⟨rfl, p3⟩; replace p3 := Lib.hid p3)
              | (go_at_call 44; with_reducible refine (pa_err0 p3.out).mono ?_; rintro e w4 ⟨rfl, rfl⟩)
              | (go_at_call 46; with_reducible refine (HO.out _).mono ?_; rintro e w6 ⟨rfl, b6⟩; have p6 := (p3.out.far b6); obtain ⟨c0, c1, c2, f0, f1, f2⟩ := p6.form; replace p6 := Lib.hid p6; clear b6))
            refine bodyPost_ret (v := .tuple #[.agg #[.int .i64 0, .int .i64 0, .string ⟨#[]⟩], .int .i64 10]) (by simp [results, Try.results30, go_sem, c0, c1, c2, f0, f1, f2]) rfl ?_
            rw [hv.out]
            exact ⟨rfl, ((p6.out.below.setCell (Nat.le_refl _) _).setCell (Nat.le_refl _) _).setCell (Nat.le_refl _) _⟩
end Go.Proofs.Ytjhihccjhnlghaa
