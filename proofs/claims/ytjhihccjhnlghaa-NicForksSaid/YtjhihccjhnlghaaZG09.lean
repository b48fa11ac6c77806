import Derived.Test.YtjhihccjhnlghaaZG08
import Derived.StillTailTactics
set_option linter.all false
/- Parse and For of package frame, and the document's Parse, by their contracts. -/
namespace Go.Proofs.Ytjhihccjhnlghaa
open Go.RowKit Go.Lib
set_option linter.unusedVariables false

namespace Fr
def bt (s : ByteArray) (i : Nat) : Nat := if h : i < s.size then s[i].toNat else 0
theorem bt_lt (s : ByteArray) (i : Nat) : bt s i < 256 := by
  unfold bt
  split
  · exact byte_lt _
  · omega
theorem bt_of {s : ByteArray} {i : Nat} (h : i < s.size) : bt s i = s[i].toNat := by simp [bt, h]
/-- The frame that bytes are, or why they are none. -/
def paV (s : ByteArray) : (Int × Int × ByteArray) × Int :=
  if s.size < 3 then ((0, 0, ⟨#[]⟩), 5) else if 32 < bt s 2 then ((0, 0, ⟨#[]⟩), 4) else if s.size < bt s 2 + 5 then ((0, 0, ⟨#[]⟩), 5) else if bt s 2 + 5 < s.size then ((0, 0, ⟨#[]⟩), 3)
  else if Cr.sealed (s.extract 0 (bt s 2 + 3)) = s then (((bt s 0 : Int), (bt s 1 : Int), s.extract 3 (bt s 2 + 3)), 0) else ((0, 0, ⟨#[]⟩), 10)
section
variable {s : ByteArray}
theorem pa_short (h : s.size < 3) : paV s = ((0, 0, ⟨#[]⟩), 5) := by rw [paV, if_pos h]
theorem pa_limit (h : 3 ≤ s.size) (h1 : 32 < bt s 2) : paV s = ((0, 0, ⟨#[]⟩), 4) := by rw [paV, if_neg (by omega), if_pos h1]
theorem pa_end (h : 3 ≤ s.size) (h1 : bt s 2 ≤ 32) (h2 : s.size < bt s 2 + 5) : paV s = ((0, 0, ⟨#[]⟩), 5) := by rw [paV, if_neg (by omega), if_neg (by omega), if_pos h2]
theorem pa_form (h : 3 ≤ s.size) (h1 : bt s 2 ≤ 32) (h2 : bt s 2 + 5 < s.size) : paV s = ((0, 0, ⟨#[]⟩), 3) := by rw [paV, if_neg (by omega), if_neg (by omega), if_neg (by omega), if_pos h2]
theorem pa_bad (h1 : bt s 2 ≤ 32) (h2 : s.size = bt s 2 + 5) (h3 : Cr.sealed (s.extract 0 (bt s 2 + 3)) ≠ s) : paV s = ((0, 0, ⟨#[]⟩), 10) := by rw [paV, if_neg (by omega), if_neg (by omega), if_neg (by omega), if_neg (by omega), if_neg h3]
theorem pa_ok (h1 : bt s 2 ≤ 32) (h2 : s.size = bt s 2 + 5) (h3 : Cr.sealed (s.extract 0 (bt s 2 + 3)) = s) : paV s = (((bt s 0 : Int), (bt s 1 : Int), s.extract 3 (bt s 2 + 3)), 0) := by rw [paV, if_neg (by omega), if_neg (by omega), if_neg (by omega), if_neg (by omega), if_pos h3]
end
end Fr

section
variable {b p : Nat} {s : ByteArray} {w : World}
theorem rd_at (h : Rd w b s p 0) (hp : p < s.size) (hs : s.size ≤ 1000) :
    Calls Try.prog 43 #[.pointer (some ⟨b, 0, none⟩)] w fun r w' => r = .returned (.int .i64 (Fr.bt s p : Nat)) ∧ Rd w' b s (p + 1) 0 ∧ w.grownBy w' (some b) := by
  have hx : rdText s p 0 1 = (s.extract p (p + 1), p + 1, 0) := by
    rw [rdText, if_neg (by omega), if_neg (by omega), if_neg (by omega)]
    rfl
  have := byte_any b s p 0 w h (by omega) (by omega)
  rw [hx] at this
  refine this.mono fun e w' ⟨h1, h2, h3⟩ => ⟨?_, h2, h3⟩
  rw [h1]
  apply ret_int
  have hl : 0 < (s.extract p (p + 1)).size := by simp; omega
  rw [byteOf, dif_pos hl, Fr.bt_of hp]
  simp [ByteArray.getElem_extract]
theorem rd_end (h : Rd w b s p 0) (hp : p = s.size) (hs : s.size ≤ 1000) :
    Calls Try.prog 43 #[.pointer (some ⟨b, 0, none⟩)] w fun r w' => r = .returned (.int .i64 0) ∧ Rd w' b s p 5 ∧ w.grownBy w' (some b) := by
  have hx : rdText s p 0 1 = (.empty, p, 5) := by
    rw [rdText, if_neg (by omega), if_neg (by omega), if_pos (by omega)]
  have := byte_any b s p 0 w h (by omega) (by omega)
  rw [hx] at this
  exact this
theorem rd_gone (h : Rd w b s p 5) (hp : p ≤ s.size) (hs : s.size ≤ 1000) :
    Calls Try.prog 43 #[.pointer (some ⟨b, 0, none⟩)] w fun r w' => r = .returned (.int .i64 0) ∧ Rd w' b s p 5 ∧ w.grownBy w' (some b) := by
  have hx : rdText s p 5 1 = (.empty, p, 5) := by
    rw [rdText, if_pos (by omega)]
  have := byte_any b s p 5 w h (by omega) (by omega)
  rw [hx] at this
  exact this
theorem rd_text (n : Nat) (h : Rd w b s p 0) (hp : p + n ≤ s.size) (hs : s.size ≤ 1000) :
    Calls Try.prog 47 #[.pointer (some ⟨b, 0, none⟩), .int .i64 n] w fun r w' => r = .returned (.string (s.extract p (p + n))) ∧ Rd w' b s (p + n) 0 ∧ w.grownBy w' (some b) := by
  have hx : rdText s p 0 (n : Int) = (s.extract p (p + n), p + n, 0) := by
    rw [rdText, if_neg (by omega), if_neg (by omega), if_neg (by omega)]
    rfl
  have := text_any b s p 0 n w h (by omega) (by omega)
  rw [hx] at this
  exact this
end

/-- What is kept between two calls on the reader: the answer's own cells, the reader, and what lies below. -/
def PaK (w0 W : World) (s : ByteArray) (p : Nat) (e : Int) : Prop :=
  Blk W w0.heap.size 46 #[.int .i64 0, .int .i64 0, .string ⟨#[]⟩] ∧ Rd W (w0.heap.size + 1) s p e ∧ Below w0.heap.size w0 W ∧ w0.heap.size + 1 < W.heap.size
section
variable {w0 W W' : World} {s : ByteArray} {p p' : Nat} {e e' : Int}
theorem PaK.new (w0 : World) (s : ByteArray) : PaK w0 ((w0.alloc (.cells #[.int .i64 0, .int .i64 0, .string ⟨#[]⟩] 46)).alloc (.cells #[.int .i64 0, .string s, .int .i64 0] 113)) s 0 0 :=
  ⟨(Blk.new _ _ _).alloc _, by have := Blk.new (w0.alloc (.cells #[.int .i64 0, .int .i64 0, .string ⟨#[]⟩] 46)) 113 #[.int .i64 0, .string s, .int .i64 0]; simpa [Rd] using this, ((Below.refl _ _).alloc (Nat.le_refl _) _).alloc (by simp) _, by simp⟩
theorem PaK.step (h : PaK w0 W s p e) (h' : Rd W' (w0.heap.size + 1) s p' e') (g : W.grownBy W' (some (w0.heap.size + 1))) : PaK w0 W' s p' e' :=
  have b : Below (w0.heap.size + 1) W W' := below_of_only g (by have := h.2.2.2; omega) (fun k hk => by injection hk with hk; omega)
  ⟨h.1.below b (by omega), h', h.2.2.1.trans (b.mono (by omega)), Nat.lt_of_lt_of_le h.2.2.2 b.size⟩
theorem PaK.far (h : PaK w0 W s p e) (b : Below W.heap.size W W') : PaK w0 W' s p e :=
  ⟨h.1.below b h.1.lt, Blk.below h.2.1 b h.2.2.2, h.2.2.1.trans (b.mono (by have := h.2.2.2; omega)), Nat.lt_of_lt_of_le h.2.2.2 b.size⟩
theorem pa_at (h : PaK w0 W s p 0) (hp : p < s.size) (hs : s.size ≤ 1000) :
    Calls Try.prog 43 #[.pointer (some ⟨w0.heap.size + 1, 0, none⟩)] W fun r w' => r = .returned (.int .i64 (Fr.bt s p : Nat)) ∧ PaK w0 w' s (p + 1) 0 :=
  (rd_at h.2.1 hp hs).mono fun _ _ ⟨e, k, g⟩ => ⟨e, h.step k g⟩
theorem pa_off (h : PaK w0 W s p 0) (hp : p = s.size) (hs : s.size ≤ 1000) :
    Calls Try.prog 43 #[.pointer (some ⟨w0.heap.size + 1, 0, none⟩)] W fun r w' => r = .returned (.int .i64 0) ∧ PaK w0 w' s p 5 :=
  (rd_end h.2.1 hp hs).mono fun _ _ ⟨e, k, g⟩ => ⟨e, h.step k g⟩
theorem pa_gone (h : PaK w0 W s p 5) (hp : p ≤ s.size) (hs : s.size ≤ 1000) :
    Calls Try.prog 43 #[.pointer (some ⟨w0.heap.size + 1, 0, none⟩)] W fun r w' => r = .returned (.int .i64 0) ∧ PaK w0 w' s p 5 :=
  (rd_gone h.2.1 hp hs).mono fun _ _ ⟨e, k, g⟩ => ⟨e, h.step k g⟩
theorem pa_err (h : PaK w0 W s p e) : Calls Try.prog 44 #[.pointer (some ⟨w0.heap.size + 1, 0, none⟩)] W fun r w' => r = .returned (.int .i64 e) ∧ W = w' := err_any _ s p e W h.2.1
theorem pa_text (n : Nat) (h : PaK w0 W s p 0) (hp : p + n ≤ s.size) (hs : s.size ≤ 1000) :
    Calls Try.prog 47 #[.pointer (some ⟨w0.heap.size + 1, 0, none⟩), .int .i64 n] W fun r w' => r = .returned (.string (s.extract p (p + n))) ∧ PaK w0 w' s (p + n) 0 :=
  (rd_text n h.2.1 hp hs).mono fun _ _ ⟨e, k, g⟩ => ⟨e, h.step k g⟩
theorem PaK.cells (h : PaK w0 W s p e) : (W.cell? ⟨w0.heap.size, 0, none⟩ = some (.int .i64 0) ∧ W.cell? ⟨w0.heap.size, 1, none⟩ = some (.int .i64 0) ∧ W.cell? ⟨w0.heap.size, 2, none⟩ = some (.string ⟨#[]⟩)) ∧ (W.frozen? ⟨w0.heap.size, 0, none⟩ = false ∧ W.frozen? ⟨w0.heap.size, 1, none⟩ = false ∧ W.frozen? ⟨w0.heap.size, 2, none⟩ = false) ∧ W.heap[w0.heap.size]? = some (.cells #[.int .i64 0, .int .i64 0, .string ⟨#[]⟩] 46 (0, 0)) ∧ w0.heap.size < W.heap.size :=
  ⟨⟨h.1.cell 0, h.1.cell 1, h.1.cell 2⟩, ⟨h.1.free 0, h.1.free 1, h.1.free 2⟩, h.1, by have := h.2.2.2; omega⟩
theorem PaK.put3 (h : PaK w0 W s p e) (a c d : Value) : Below w0.heap.size w0 (((W.setCell ⟨w0.heap.size, 0, none⟩ a).setCell ⟨w0.heap.size, 1, none⟩ c).setCell ⟨w0.heap.size, 2, none⟩ d) :=
  ((h.2.2.1.setCell (Nat.le_refl _) _).setCell (Nat.le_refl _) _).setCell (Nat.le_refl _) _
end

theorem rpa_keep {w w2 : World} (hb : Below (w.alloc (.cells #[.int .i64 0, .int .i64 0, .string ⟨#[]⟩] 73)).heap.size (w.alloc (.cells #[.int .i64 0, .int .i64 0, .string ⟨#[]⟩] 73)) w2) :
    (w2.cell? ⟨w.heap.size, 0, none⟩ = some (.int .i64 0) ∧ w2.cell? ⟨w.heap.size, 1, none⟩ = some (.int .i64 0) ∧ w2.cell? ⟨w.heap.size, 2, none⟩ = some (.string ⟨#[]⟩)) ∧ (w2.frozen? ⟨w.heap.size, 0, none⟩ = false ∧ w2.frozen? ⟨w.heap.size, 1, none⟩ = false ∧ w2.frozen? ⟨w.heap.size, 2, none⟩ = false) ∧ Below w.heap.size w w2 :=
  have h : Blk w2 w.heap.size 73 #[.int .i64 0, .int .i64 0, .string ⟨#[]⟩] := (Blk.new _ _ _).below hb (by simp)
  ⟨⟨h.cell 0, h.cell 1, h.cell 2⟩, ⟨h.free 0, h.free 1, h.free 2⟩, ((Below.refl _ _).alloc (Nat.le_refl _) _).trans (hb.mono (by simp))⟩

set_option maxRecDepth 20000 in
theorem rparse_any (s : ByteArray) (w : World) (hs : s.size ≤ 1000) : Calls Try.prog 27 #[.string s] w fun e w' => e = .returned (.tuple #[.agg #[.int .i64 (Fr.paV s).1.1, .int .i64 (Fr.paV s).1.2.1, .string (Fr.paV s).1.2.2], .int .i64 (Fr.paV s).2]) ∧ Below w.heap.size w w' := by
  have b1 : ∀ o, Below w.heap.size w (w.alloc o) := fun o => (Below.refl _ _).alloc (Nat.le_refl _) _
  by_cases h3 : s.size < 3
  · have hv := Lib.hid (Fr.pa_short h3)
    have h3' : (s.size : Int) < 3 := by omega
    clear h3
    go_enter Try.func27, Try.ntmps27
    go_wp2
    refine bodyPost_ret (v := .tuple #[.agg #[.int .i64 0, .int .i64 0, .string ⟨#[]⟩], .int .i64 5]) (by simp [results, Try.results27, go_sem]) rfl ?_
    rw [hv.out]
    exact ⟨rfl, b1 _⟩
  · have h3' : 3 ≤ s.size := by omega
    obtain ⟨n, hn⟩ : ∃ n, n = Fr.bt s 2 := ⟨_, rfl⟩
    have n256 : n < 256 := by rw [hn]; exact Fr.bt_lt _ _
    have l2 : 2 < s.size := h3'
    have e2 : (s[2]'l2).toNat = n := by rw [hn, Fr.bt_of]
    have i2 : (2 : Int) < (s.size : Int) := by omega
    have wn : wrap64 (n : Int) = (n : Int) := IntWalk.wrap64_in _ ⟨by omega, by omega⟩
    by_cases h32 : (32 : Int) < (n : Int)
    · have hv := Lib.hid (Fr.pa_limit h3' (by omega))
      clear h3 hn
      go_enter Try.func27, Try.ntmps27
      go_wp2
      refine bodyPost_ret (v := .tuple #[.agg #[.int .i64 0, .int .i64 0, .string ⟨#[]⟩], .int .i64 4]) (by simp [results, Try.results27, go_sem]) rfl ?_
      rw [hv.out]
      exact ⟨rfl, b1 _⟩
    · by_cases hlt : (s.size : Int) < (n : Int) + 5
      · have hv := Lib.hid (Fr.pa_end h3' (by omega) (by omega))
        clear h3 hn
        go_enter Try.func27, Try.ntmps27
        go_wp2
        refine bodyPost_ret (v := .tuple #[.agg #[.int .i64 0, .int .i64 0, .string ⟨#[]⟩], .int .i64 5]) (by simp [results, Try.results27, go_sem]) rfl ?_
        rw [hv.out]
        exact ⟨rfl, b1 _⟩
      · by_cases hgt : (n : Int) + 5 < (s.size : Int)
        · have hv := Lib.hid (Fr.pa_form h3' (by omega) (by omega))
          clear h3 hn
          go_enter Try.func27, Try.ntmps27
          go_wp2
          refine bodyPost_ret (v := .tuple #[.agg #[.int .i64 0, .int .i64 0, .string ⟨#[]⟩], .int .i64 3]) (by simp [results, Try.results27, go_sem]) rfl ?_
          rw [hv.out]
          exact ⟨rfl, b1 _⟩
        · have hsz : s.size = n + 5 := by omega
          have l0 : 0 < s.size := Nat.lt_of_lt_of_le (by decide) h3'
          have l1 : 1 < s.size := Nat.lt_of_lt_of_le (by decide) h3'
          have e0 : (s[0]'l0).toNat = Fr.bt s 0 := by rw [Fr.bt_of]
          have e1 : (s[1]'l1).toNat = Fr.bt s 1 := by rw [Fr.bt_of]
          have x0 := Fr.bt_lt s 0
          have x1 := Fr.bt_lt s 1
          have i0 : (0 : Int) < (s.size : Int) := by omega
          have i1 : (1 : Int) < (s.size : Int) := by omega
          have u0 : wrap64 (Fr.bt s 0 : Int) = (Fr.bt s 0 : Int) := IntWalk.wrap64_in _ ⟨by omega, by omega⟩
          have u1 : wrap64 (Fr.bt s 1 : Int) = (Fr.bt s 1 : Int) := IntWalk.wrap64_in _ ⟨by omega, by omega⟩
          have z1 : (n : Int) + 3 ≤ (s.size : Int) := by omega
          have z2 : n + 3 ≤ s.size := by omega
          have hp : (s.extract 0 (n + 3)).size ≤ 1000 := by simp; omega
          have H1 := Lib.hid (fun w => rseal_any (s.extract 0 (n + 3)) w hp)
          have hv0 := fun h => Fr.pa_ok (s := s) (by omega) (by omega) h
          have hv1 := fun h => Fr.pa_bad (s := s) (by omega) (by omega) h
          rw [← hn] at hv0 hv1
          have HS := Lib.hid hsz
          clear hp h3 hn hsz
          generalize Cr.sealed (s.extract 0 (n + 3)) = x at *
          generalize Fr.bt s 0 = y0 at *
          generalize Fr.bt s 1 = y1 at *
          by_cases he : x = s
          · have hv := Lib.hid (hv0 he)
            clear hv0 hv1
            subst he
            go_enter Try.func27, Try.ntmps27
            go_wp2_with (first | (go_at_call 40; with_reducible refine (H1.out _).mono ?_; rintro e w1 ⟨rfl, k1⟩; obtain ⟨⟨c0, c1, c2⟩, ⟨f0, f1, f2⟩, K1⟩ := rpa_keep k1; replace K1 := Lib.hid K1; clear k1))
            have q0 : IntKind.i64.wrap (y0 : Int) = (y0 : Int) := by rw [IntKind.wrap_i64]; omega
            have q1 : IntKind.i64.wrap (y1 : Int) = (y1 : Int) := by rw [IntKind.wrap_i64]; omega
            have q3 : IntKind.i64.wrap ((n : Int) + 3) = (n : Int) + 3 := by rw [IntKind.wrap_i64]; omega
            have q4 : (3 : Int) ≤ (n : Int) + 3 := by omega
            have q5 : ((n : Int) + 3).toNat = n + 3 := by omega
            have q6 : (0 : Int) ≤ (n : Int) + 3 := by omega
            go_still_tail 11, (by kernel_rfl)
            change wpList _ _ _ _ _ w1.drew
            have K2 := Lib.hid (show Below w.heap.size w w1.drew from below_drewN K1.out 1)
            have d0 : w1.drew.cell? ⟨w.heap.size, 0, none⟩ = some (.int .i64 0) := c0
            have d1 : w1.drew.cell? ⟨w.heap.size, 1, none⟩ = some (.int .i64 0) := c1
            have d2 : w1.drew.cell? ⟨w.heap.size, 2, none⟩ = some (.string ⟨#[]⟩) := c2
            have g0 : w1.drew.frozen? ⟨w.heap.size, 0, none⟩ = false := f0
            have g1 : w1.drew.frozen? ⟨w.heap.size, 1, none⟩ = false := f1
            have g2 : w1.drew.frozen? ⟨w.heap.size, 2, none⟩ = false := f2
            clear c0 c1 c2 f0 f1 f2 K1
            generalize w1.drew = w2 at *
            go_wp2
            refine bodyPost_ret (v := .tuple #[.agg #[.int .i64 y0, .int .i64 y1, .string (x.extract 3 (n + 3))], .int .i64 0]) (by simp [results, Try.results27, go_sem, d0, d1, d2, g0, g1, g2]) rfl ?_
            rw [hv.out]
            exact ⟨rfl, ((K2.out.setCell (Nat.le_refl _) _).setCell (Nat.le_refl _) _).setCell (Nat.le_refl _) _⟩
          · have hv := Lib.hid (hv1 he)
            have he' := Cr.str_ne he
            clear hv0 hv1 he
            go_enter Try.func27, Try.ntmps27
            go_wp2_with (first | (go_at_call 40; with_reducible refine (H1.out _).mono ?_; rintro e w1 ⟨rfl, k1⟩; obtain ⟨⟨c0, c1, c2⟩, ⟨f0, f1, f2⟩, K1⟩ := rpa_keep k1; replace K1 := Lib.hid K1; clear k1))
            refine bodyPost_ret (v := .tuple #[.agg #[.int .i64 0, .int .i64 0, .string ⟨#[]⟩], .int .i64 10]) (by simp [results, Try.results27, go_sem, c0, c1, c2, f0, f1, f2]) rfl ?_
            rw [hv.out]
            exact ⟨rfl, ((K1.out.setCell (Nat.le_refl _) _).setCell (Nat.le_refl _) _).setCell (Nat.le_refl _) _⟩
end Go.Proofs.Ytjhihccjhnlghaa

/- Parse of package frame, by its contract. -/
namespace Go.Proofs.Ytjhihccjhnlghaa
open Go.RowKit Go.Lib
set_option linter.unusedVariables false

/-- Where a reader stands behind k bytes that were asked for, and its error. -/
def shP (s : ByteArray) (k : Nat) : Nat := if k ≤ s.size then k else s.size
def shE (s : ByteArray) (k : Nat) : Int := if k ≤ s.size then 0 else 5

section
variable {w0 W W' : World} {s : ByteArray}
theorem pa_sh (k : Nat) (h : PaK w0 W s (shP s k) (shE s k)) (hs : s.size ≤ 1000) :
    Calls Try.prog 43 #[.pointer (some ⟨w0.heap.size + 1, 0, none⟩)] W fun r w' => (∃ m, r = .returned (.int .i64 m)) ∧ PaK w0 w' s (shP s (k + 1)) (shE s (k + 1)) := by
  by_cases h1 : k < s.size
  · have e1 : shP s k = k := by rw [shP, if_pos (by omega)]
    have e2 : shE s k = 0 := by rw [shE, if_pos (by omega)]
    have e3 : shP s (k + 1) = k + 1 := by rw [shP, if_pos (by omega)]
    have e4 : shE s (k + 1) = 0 := by rw [shE, if_pos (by omega)]
    rw [e1, e2] at h
    rw [e3, e4]
    exact (pa_at h h1 hs).mono fun _ _ ⟨e, p⟩ => ⟨⟨_, e⟩, p⟩
  · by_cases h2 : k = s.size
    · have e1 : shP s k = k := by rw [shP, if_pos (by omega)]
      have e2 : shE s k = 0 := by rw [shE, if_pos (by omega)]
      have e3 : shP s (k + 1) = k := by rw [shP, if_neg (by omega), h2]
      have e4 : shE s (k + 1) = 5 := by rw [shE, if_neg (by omega)]
      rw [e1, e2] at h
      rw [e3, e4]
      exact (pa_off h h2 hs).mono fun _ _ ⟨e, p⟩ => ⟨⟨_, e⟩, p⟩
    · have e1 : shP s k = s.size := by rw [shP, if_neg (by omega)]
      have e2 : shE s k = 5 := by rw [shE, if_neg (by omega)]
      have e3 : shP s (k + 1) = s.size := by rw [shP, if_neg (by omega)]
      have e4 : shE s (k + 1) = 5 := by rw [shE, if_neg (by omega)]
      rw [e1, e2] at h
      rw [e3, e4]
      exact (pa_gone h (Nat.le_refl _) hs).mono fun _ _ ⟨e, p⟩ => ⟨⟨_, e⟩, p⟩
theorem pa_err5 {p : Nat} (h : PaK w0 W s p 5) : Calls Try.prog 44 #[.pointer (some ⟨w0.heap.size + 1, 0, none⟩)] W fun r w' => r = .returned (.int .i64 5) ∧ W = w' := pa_err h
theorem pa_err0 {p : Nat} (h : PaK w0 W s p 0) : Calls Try.prog 44 #[.pointer (some ⟨w0.heap.size + 1, 0, none⟩)] W fun r w' => r = .returned (.int .i64 0) ∧ W = w' := pa_err h
theorem PaK.below {p : Nat} {e : Int} (h : PaK w0 W s p e) : Below w0.heap.size w0 W := h.2.2.1
theorem PaK.form {p : Nat} {e : Int} (h : PaK w0 W s p e) : W.cell? ⟨w0.heap.size, 0, none⟩ = some (.int .i64 0) ∧ W.cell? ⟨w0.heap.size, 1, none⟩ = some (.int .i64 0) ∧ W.cell? ⟨w0.heap.size, 2, none⟩ = some (.string ⟨#[]⟩) ∧ W.frozen? ⟨w0.heap.size, 0, none⟩ = false ∧ W.frozen? ⟨w0.heap.size, 1, none⟩ = false ∧ W.frozen? ⟨w0.heap.size, 2, none⟩ = false :=
  ⟨h.1.cell 0, h.1.cell 1, h.1.cell 2, h.1.free 0, h.1.free 1, h.1.free 2⟩
end

/-- What Open answers of bytes that have the length of a frame's. -/
theorem open_ok {s : ByteArray} {n : Nat} (hs : s.size = n + 5) (h : Cr.sealed (s.extract 0 (n + 3)) = s) : Cr.openV s = (s.extract 0 (n + 3), 0) := by
  have hi := Cr.tail_iff s (by omega)
  rw [show s.size - 2 = n + 3 by omega] at hi
  rw [Cr.openV, if_neg (by omega), show s.size - 2 = n + 3 by omega, if_pos (hi.2 h)]
theorem open_no {s : ByteArray} {n : Nat} (hs : s.size = n + 5) (h : Cr.sealed (s.extract 0 (n + 3)) ≠ s) : Cr.openV s = (⟨#[]⟩, 10) := by
  have hi := Cr.tail_iff s (by omega)
  rw [show s.size - 2 = n + 3 by omega] at hi
  rw [Cr.openV, if_neg (by omega), show s.size - 2 = n + 3 by omega, if_neg (fun e => h (hi.1 e))]

set_option maxRecDepth 20000 in
theorem parse_any (s : ByteArray) (w : World) (hs : s.size ≤ 1000) : Calls Try.prog 30 #[.string s] w fun e w' => e = .returned (.tuple #[.agg #[.int .i64 (Fr.paV s).1.1, .int .i64 (Fr.paV s).1.2.1, .string (Fr.paV s).1.2.2], .int .i64 (Fr.paV s).2]) ∧ Below w.heap.size w w' := by
  have P0 := Lib.hid (PaK.new w s)
  have HN := Lib.hid (new_any s)
  by_cases h3 : s.size < 3
  · have hv := Lib.hid (Fr.pa_short h3)
    have hE : shE s 3 = 5 := by rw [shE, if_neg (by omega)]
    have P0 := Lib.hid (show PaK w ((w.alloc (.cells #[.int .i64 0, .int .i64 0, .string ⟨#[]⟩] 46)).alloc (.cells #[.int .i64 0, .string s, .int .i64 0] 113)) s (shP s 0) (shE s 0) from by
      have e1 : shP s 0 = 0 := by rw [shP, if_pos (by omega)]
      have e2 : shE s 0 = 0 := by rw [shE, if_pos (by omega)]
      rw [e1, e2]
      exact P0.out)
    have HE := Lib.hid hE
    clear hE h3
    go_enter Try.func30, Try.ntmps30
    go_wp2_with (first
      | (go_at_call 42; with_reducible refine (HN.out _).mono ?_; rintro e w1 ⟨rfl, rfl⟩)
      | (go_at_call 43; with_reducible refine (pa_sh 0 P0.out hs).mono ?_; rintro e w1 ⟨⟨m1, rfl⟩, p1⟩; replace p1 := Lib.hid p1)
      | (go_at_call 43; with_reducible refine (pa_sh 1 p1.out hs).mono ?_; rintro e w2 ⟨⟨m2, rfl⟩, p2⟩; replace p2 := Lib.hid p2)
      | (go_at_call 43; with_reducible refine (pa_sh 2 p2.out hs).mono ?_; rintro e w3 ⟨⟨m3, rfl⟩, p3⟩; rw [HE.out] at p3; obtain ⟨c0, c1, c2, f0, f1, f2⟩ := p3.form; replace p3 := Lib.hid p3)
      | (go_at_call 44; with_reducible refine (pa_err5 p3.out).mono ?_; rintro e w4 ⟨rfl, rfl⟩))
    refine bodyPost_ret (v := .tuple #[.agg #[.int .i64 0, .int .i64 0, .string ⟨#[]⟩], .int .i64 5]) (by simp [results, Try.results30, go_sem, c0, c1, c2, f0, f1, f2]) rfl ?_
    rw [hv.out]
    exact ⟨rfl, ((p3.out.below.setCell (Nat.le_refl _) _).setCell (Nat.le_refl _) _).setCell (Nat.le_refl _) _⟩
  · have h3' : 3 ≤ s.size := by omega
    have l0 := Lib.hid (show 0 < s.size from Nat.lt_of_lt_of_le (by decide) h3')
    have l1 := Lib.hid (show 0 + 1 < s.size from Nat.lt_of_lt_of_le (by decide) h3')
    have l2 := Lib.hid (show 0 + 1 + 1 < s.size from h3')
    obtain ⟨n, hn⟩ : ∃ n, n = Fr.bt s 2 := ⟨_, rfl⟩
    have A2 : ∀ W, PaK w W s (0 + 1 + 1) 0 → Calls Try.prog 43 #[.pointer (some ⟨w.heap.size + 1, 0, none⟩)] W fun r w' => r = .returned (.int .i64 n) ∧ PaK w w' s 3 0 := fun W p => by
      have := pa_at p l2.out hs
      rw [← (show n = Fr.bt s (0 + 1 + 1) from hn)] at this
      exact this
    replace A2 := Lib.hid A2
    have n256 : n < 256 := by rw [hn]; exact Fr.bt_lt _ _
    by_cases h32 : (32 : Int) < (n : Int)
    · have hv := Lib.hid (Fr.pa_limit h3' (by omega))
      clear h3 h3' hn
      go_enter Try.func30, Try.ntmps30
      go_wp2_with (first
        | (go_at_call 42; with_reducible refine (HN.out _).mono ?_; rintro e w1 ⟨rfl, rfl⟩)
        | (go_at_call 43; with_reducible refine (pa_at P0.out l0.out hs).mono ?_; rintro e w1 ⟨rfl, p1⟩; replace p1 := Lib.hid p1)
        | (go_at_call 43; with_reducible refine (pa_at p1.out l1.out hs).mono ?_; rintro e w2 ⟨rfl, p2⟩; replace p2 := Lib.hid p2)
        | (go_at_call 43; with_reducible refine (A2.out _ p2.out).mono ?_; rintro e w3 ⟨rfl, p3⟩; obtain ⟨c0, c1, c2, f0, f1, f2⟩ := p3.form; replace p3 := Lib.hid p3)
        | (go_at_call 44; with_reducible refine (pa_err0 p3.out).mono ?_; rintro e w4 ⟨rfl, rfl⟩))
      refine bodyPost_ret (v := .tuple #[.agg #[.int .i64 0, .int .i64 0, .string ⟨#[]⟩], .int .i64 4]) (by simp [results, Try.results30, go_sem, c0, c1, c2, f0, f1, f2]) rfl ?_
      rw [hv.out]
      exact ⟨rfl, ((p3.out.below.setCell (Nat.le_refl _) _).setCell (Nat.le_refl _) _).setCell (Nat.le_refl _) _⟩
    · have HZ := Lib.hid (show ∀ W, Calls Try.prog 45 #[.int .i64 n] W fun e w' => e = .returned (.int .i64 ((n : Int) + 5)) ∧ W = w' from fun W => by
        have := size_any (n : Int) W
        rw [Fr.szV, if_pos (by omega)] at this
        exact this)
      by_cases hlt : (s.size : Int) < (n : Int) + 5
      · have hv := Lib.hid (Fr.pa_end h3' (by omega) (by omega))
        clear h3 h3' hn
        go_enter Try.func30, Try.ntmps30
        go_wp2_with (first
          | (go_at_call 42; with_reducible refine (HN.out _).mono ?_; rintro e w1 ⟨rfl, rfl⟩)
          | (go_at_call 45; with_reducible refine (HZ.out _).mono ?_; rintro e w5 ⟨rfl, rfl⟩)
          | (go_at_call 43; with_reducible refine (pa_at P0.out l0.out hs).mono ?_; rintro e w1 ⟨rfl, p1⟩; replace p1 := Lib.hid p1)
          | (go_at_call 43; with_reducible refine (pa_at p1.out l1.out hs).mono ?_; rintro e w2 ⟨rfl, p2⟩; replace p2 := Lib.hid p2)
          | (go_at_call 43; with_reducible refine (A2.out _ p2.out).mono ?_; rintro e w3 ⟨rfl, p3⟩; obtain ⟨c0, c1, c2, f0, f1, f2⟩ := p3.form; replace p3 := Lib.hid p3)
          | (go_at_call 44; with_reducible refine (pa_err0 p3.out).mono ?_; rintro e w4 ⟨rfl, rfl⟩))
        refine bodyPost_ret (v := .tuple #[.agg #[.int .i64 0, .int .i64 0, .string ⟨#[]⟩], .int .i64 5]) (by simp [results, Try.results30, go_sem, c0, c1, c2, f0, f1, f2]) rfl ?_
        rw [hv.out]
        exact ⟨rfl, ((p3.out.below.setCell (Nat.le_refl _) _).setCell (Nat.le_refl _) _).setCell (Nat.le_refl _) _⟩
      · by_cases hgt : (n : Int) + 5 < (s.size : Int)
        · have hv := Lib.hid (Fr.pa_form h3' (by omega) (by omega))
          clear h3 h3' hn
          go_enter Try.func30, Try.ntmps30
          go_wp2_with (first
            | (go_at_call 42; with_reducible refine (HN.out _).mono ?_; rintro e w1 ⟨rfl, rfl⟩)
            | (go_at_call 45; with_reducible refine (HZ.out _).mono ?_; rintro e w5 ⟨rfl, rfl⟩)
            | (go_at_call 43; with_reducible refine (pa_at P0.out l0.out hs).mono ?_; rintro e w1 ⟨rfl, p1⟩; replace p1 := Lib.hid p1)
            | (go_at_call 43; with_reducible refine (pa_at p1.out l1.out hs).mono ?_; rintro e w2 ⟨rfl, p2⟩; replace p2 := Lib.hid p2)
            | (go_at_call 43; with_reducible refine (A2.out _ p2.out).mono ?_; rintro e w3 ⟨rfl, p3⟩; obtain ⟨c0, c1, c2, f0, f1, f2⟩ := p3.form; replace p3 := Lib.hid p3)
            | (go_at_call 44; with_reducible refine (pa_err0 p3.out).mono ?_; rintro e w4 ⟨rfl, rfl⟩))
          refine bodyPost_ret (v := .tuple #[.agg #[.int .i64 0, .int .i64 0, .string ⟨#[]⟩], .int .i64 3]) (by simp [results, Try.results30, go_sem, c0, c1, c2, f0, f1, f2]) rfl ?_
          rw [hv.out]
          exact ⟨rfl, ((p3.out.below.setCell (Nat.le_refl _) _).setCell (Nat.le_refl _) _).setCell (Nat.le_refl _) _⟩
        · have hsz : s.size = n + 5 := by omega
          have hv0 := fun h => Fr.pa_ok (s := s) (by omega) (by omega) h
          have hv1 := fun h => Fr.pa_bad (s := s) (by omega) (by omega) h
          rw [← hn] at hv0 hv1
          have HO := fun W => open_any s W hs
          by_cases he : Cr.sealed (s.extract 0 (n + 3)) = s
          · have hv := Lib.hid (hv0 he)
            rw [open_ok hsz he] at HO
            replace HO := Lib.hid HO
            have HT := Lib.hid (show ∀ W, PaK w W s 3 0 → Calls Try.prog 47 #[.pointer (some ⟨w.heap.size + 1, 0, none⟩), .int .i64 n] W fun r w' => r = .returned (.string (s.extract 3 (n + 3))) ∧ PaK w w' s (n + 3) 0 from fun W p => by
              have := pa_text n p (by omega) hs
              rw [Nat.add_comm 3 n] at this
              exact this)
            have HS := Lib.hid hsz
            clear h3 h3' hn hv0 hv1 he hsz
            go_enter Try.func30, Try.ntmps30
            go_wp2_with (first
              | (go_at_call 42; with_reducible refine (HN.out _).mono ?_; rintro e w1 ⟨rfl, rfl⟩)
              | (go_at_call 45; with_reducible refine (HZ.out _).mono ?_; rintro e w5 ⟨rfl, rfl⟩)
              | (go_at_call 43; with_reducible refine (pa_at P0.out l0.out hs).mono ?_; rintro e w1 ⟨rfl, p1⟩; replace p1 := Lib.hid p1)
              | (go_at_call 43; with_reducible refine (pa_at p1.out l1.out hs).mono ?_; rintro e w2 ⟨rfl, p2⟩; replace p2 := Lib.hid p2)
              | (go_at_call 43; with_reducible refine (A2.out _ p2.out).mono ?_; rintro e w3 ⟨rfl, p3⟩; replace p3 := Lib.hid p3)
              | (go_at_call 44; with_reducible refine (pa_err0 p3.out).mono ?_; rintro e w4 ⟨rfl, rfl⟩)
              | (go_at_call 46; with_reducible refine (HO.out _).mono ?_; rintro e w6 ⟨rfl, b6⟩; have p6 := Lib.hid (p3.out.far b6); clear b6)
              | (go_at_call 47; with_reducible refine (HT.out _ p6.out).mono ?_; rintro e w7 ⟨rfl, p7⟩; obtain ⟨c0, c1, c2, f0, f1, f2⟩ := p7.form; replace p7 := Lib.hid p7))
            refine bodyPost_ret (v := .tuple #[.agg #[.int .i64 (Fr.bt s 0 : Nat), .int .i64 (Fr.bt s 1 : Nat), .string (s.extract 3 (n + 3))], .int .i64 0]) (by simp [results, Try.results30, go_sem, c0, c1, c2, f0, f1, f2]) rfl ?_
            rw [hv.out]
            exact ⟨rfl, ((p7.out.below.setCell (Nat.le_refl _) _).setCell (Nat.le_refl _) _).setCell (Nat.le_refl _) _⟩
          · have hv := Lib.hid (hv1 he)
            rw [open_no hsz he] at HO
            replace HO := Lib.hid HO
            have HS := Lib.hid hsz
            clear h3 h3' hn hv0 hv1 he hsz
            go_enter Try.func30, Try.ntmps30
            go_wp2_with (first
              | (go_at_call 42; with_reducible refine (HN.out _).mono ?_; rintro e w1 ⟨rfl, rfl⟩)
              | (go_at_call 45; with_reducible refine (HZ.out _).mono ?_; rintro e w5 ⟨rfl, rfl⟩)
              | (go_at_call 43; with_reducible refine (pa_at P0.out l0.out hs).mono ?_; rintro e w1 ⟨rfl, p1⟩; replace p1 := Lib.hid p1)
              | (go_at_call 43; with_reducible refine (pa_at p1.out l1.out hs).mono ?_; rintro e w2 ⟨rfl, p2⟩; replace p2 := Lib.hid p2)
              | (go_at_call 43; with_reducible refine (A2.out _ p2.out).mono ?_; rintro e w3 ⟨rfl, p3⟩; replace p3 := Lib.hid p3)
              | (go_at_call 44; with_reducible refine (pa_err0 p3.out).mono ?_; rintro e w4 ⟨rfl, rfl⟩)
              | (go_at_call 46; with_reducible refine (HO.out _).mono ?_; rintro e w6 ⟨rfl, b6⟩; have p6 := (p3.out.far b6); obtain ⟨c0, c1, c2, f0, f1, f2⟩ := p6.form; replace p6 := Lib.hid p6; clear b6))
            refine bodyPost_ret (v := .tuple #[.agg #[.int .i64 0, .int .i64 0, .string ⟨#[]⟩], .int .i64 10]) (by simp [results, Try.results30, go_sem, c0, c1, c2, f0, f1, f2]) rfl ?_
            rw [hv.out]
            exact ⟨rfl, ((p6.out.below.setCell (Nat.le_refl _) _).setCell (Nat.le_refl _) _).setCell (Nat.le_refl _) _⟩
end Go.Proofs.Ytjhihccjhnlghaa
