import Derived.Test.YtjhihccjhnlghaaZG08
import Derived.Test.YtjhihccjhnlghaaZG10
set_option linter.all false
/- Print of package frame, by its contract. -/
namespace Go.Proofs.Ytjhihccjhnlghaa
open Go.RowKit Go.Lib
set_option linter.unusedVariables false

/-- What is kept between two calls on the writer: the frame's own cells, the writer, and what lies below. -/
def PrK (w0 W : World) (t f : Int) (d : ByteArray) (o : Option (List UInt8)) : Prop :=
  Blk W w0.heap.size 46 #[.int .i64 t, .int .i64 f, .string d] ∧ Wr W (w0.heap.size + 1) (w0.heap.size + 1) o ∧ Below w0.heap.size w0 W ∧ w0.heap.size + 1 < W.heap.size

section
variable {w0 W W' : World} {t f : Int} {d : ByteArray} {o o' : Option (List UInt8)}
theorem PrK.step (h : PrK w0 W t f d o) (h' : Wr W' (w0.heap.size + 1) (w0.heap.size + 1) o') (b : Below (w0.heap.size + 1) W W') : PrK w0 W' t f d o' :=
  ⟨h.1.below b (by omega), h', h.2.2.1.trans (b.mono (by omega)), Nat.lt_of_lt_of_le h.2.2.2 b.size⟩
theorem PrK.new (w0 : World) (t f : Int) (d : ByteArray) : PrK w0 ((w0.alloc (.cells #[.int .i64 t, .int .i64 f, .string d] 46)).alloc (.cells #[.int .i64 0, .slice none 0 0] 107)) t f d (some []) :=
  ⟨(Blk.new _ _ _).alloc _, wnew _ (by simp), ((Below.refl _ _).alloc (Nat.le_refl _) _).alloc (by simp) _, by simp⟩
theorem pr_good (n : Int) {l : List UInt8} (h : PrK w0 W t f d (some l)) (hl : l.length ≤ 1000) (h0 : 0 ≤ n) (h1 : n ≤ 255) :
    Calls Try.prog 50 #[.pointer (some ⟨w0.heap.size + 1, 0, none⟩), .int .i64 n] W fun r w' => r = .returned (.tuple #[]) ∧ PrK w0 w' t f d (some (l ++ [UInt8.ofNat n.toNat])) :=
  (wgood n h.2.1 (Nat.le_refl _) (by have := h.2.2.2; omega) hl h0 h1).mono fun _ _ ⟨e, k, b⟩ => ⟨e, h.step k b⟩
theorem pr_bad (n : Int) {l : List UInt8} (h : PrK w0 W t f d (some l)) (hl : l.length ≤ 1000) (h0 : n < 0 ∨ 255 < n) :
    Calls Try.prog 50 #[.pointer (some ⟨w0.heap.size + 1, 0, none⟩), .int .i64 n] W fun r w' => r = .returned (.tuple #[]) ∧ PrK w0 w' t f d none :=
  (wbad n h.2.1 (Nat.le_refl _) (by have := h.2.2.2; omega) hl h0).mono fun _ _ ⟨e, k, b⟩ => ⟨e, h.step k b⟩
theorem pr_none (n : Int) (h : PrK w0 W t f d none) :
    Calls Try.prog 50 #[.pointer (some ⟨w0.heap.size + 1, 0, none⟩), .int .i64 n] W fun r w' => r = .returned (.tuple #[]) ∧ PrK w0 w' t f d none :=
  (wnone n h.2.1 (Nat.le_refl _) (by have := h.2.2.2; omega)).mono fun _ _ ⟨e, k, b⟩ => ⟨e, h.step k b⟩
theorem pr_text (s : ByteArray) {l : List UInt8} (h : PrK w0 W t f d (some l)) (hl : l.length ≤ 1000) (hs : s.size ≤ 100) :
    Calls Try.prog 52 #[.pointer (some ⟨w0.heap.size + 1, 0, none⟩), .string s] W fun r w' => r = .returned (.tuple #[]) ∧ PrK w0 w' t f d (some (l ++ s.data.toList)) :=
  (wtext s h.2.1 (Nat.le_refl _) (by have := h.2.2.2; omega) hl hs).mono fun _ _ ⟨e, k, b⟩ => ⟨e, h.step k b⟩
theorem pr_err_ok {l : List UInt8} (h : PrK w0 W t f d (some l)) : Calls Try.prog 51 #[.pointer (some ⟨w0.heap.size + 1, 0, none⟩)] W fun r w' => r = .returned (.int .i64 0) ∧ W = w' := werr_ok h.2.1
theorem pr_err_no (h : PrK w0 W t f d none) : Calls Try.prog 51 #[.pointer (some ⟨w0.heap.size + 1, 0, none⟩)] W fun r w' => r = .returned (.int .i64 2) ∧ W = w' := werr_no h.2.1
theorem pr_all {l : List UInt8} (h : PrK w0 W t f d (some l)) : Calls Try.prog 54 #[.pointer (some ⟨w0.heap.size + 1, 0, none⟩)] W fun r w' => r = .returned (.string ⟨l.toArray⟩) ∧ W = w' := wall h.2.1
theorem PrK.cells (h : PrK w0 W t f d o) : W.cell? ⟨w0.heap.size, 0, none⟩ = some (.int .i64 t) ∧ W.cell? ⟨w0.heap.size, 1, none⟩ = some (.int .i64 f) ∧ W.cell? ⟨w0.heap.size, 2, none⟩ = some (.string d) :=
  ⟨h.1.cell 0, h.1.cell 1, h.1.cell 2⟩
end

theorem hd_list (t f : Int) (d : ByteArray) : (⟨([] ++ [UInt8.ofNat t.toNat] ++ [UInt8.ofNat f.toNat] ++ [UInt8.ofNat (d.size : Int).toNat] ++ d.data.toList).toArray⟩ : ByteArray) = Fr.hd t f d ++ d := by
  apply ByteArray.ext
  rw [ByteArray.data_append]
  simp [Fr.hd]

theorem print_any (t f : Int) (d : ByteArray) (w : World) (hd : d.size ≤ 200) : Calls Try.prog 36 #[.agg #[.int .i64 t, .int .i64 f, .string d]] w fun e w' => e = .returned (.tuple #[.string (Fr.prV t f d).1, .int .i64 (Fr.prV t f d).2]) ∧ Below w.heap.size w w' := by
  have P0 := Lib.hid (PrK.new w t f d)
  by_cases hbad : t < 0 ∨ 255 < t ∨ f < 0 ∨ 255 < f
  · have hv := Lib.hid (Fr.arg_of (d := d) hbad)
    by_cases ht : t < 0 ∨ 255 < t
    · have HT := Lib.hid ht
      clear ht hbad
      go_enter Try.func36, Try.ntmps36
      go_wp2_with (first
        | (go_at_call 50; with_reducible refine (pr_bad _ P0.out (by decide) HT.out).mono ?_; rintro e w1 ⟨rfl, p1⟩; have P1 := Lib.hid p1; obtain ⟨c0, c1, c2⟩ := p1.cells; clear p1)
        | (go_at_call 50; with_reducible refine (pr_none _ P1.out).mono ?_; rintro e w2 ⟨rfl, p2⟩; have P2 := Lib.hid p2; clear p2 c0 c1 c2)
        | (go_at_call 51; with_reducible refine (pr_err_no P2.out).mono ?_; rintro e w3 ⟨rfl, rfl⟩))
      go_ret2
      rw [hv.out]
      exact ⟨rfl, P2.out.2.2.1⟩
    · have HT0 : 0 ≤ t := by omega
      have HT1 : t ≤ 255 := by omega
      have HF := Lib.hid (show f < 0 ∨ 255 < f by omega)
      replace HT0 := Lib.hid HT0
      replace HT1 := Lib.hid HT1
      clear ht hbad
      go_enter Try.func36, Try.ntmps36
      go_wp2_with (first
        | (go_at_call 50; with_reducible refine (pr_good _ P0.out (by decide) HT0.out HT1.out).mono ?_; rintro e w1 ⟨rfl, p1⟩; have P1 := Lib.hid p1; obtain ⟨c0, c1, c2⟩ := p1.cells; clear p1)
        | (go_at_call 50; with_reducible refine (pr_bad _ P1.out (by simp) HF.out).mono ?_; rintro e w2 ⟨rfl, p2⟩; have P2 := Lib.hid p2; clear p2 c0 c1 c2)
        | (go_at_call 51; with_reducible refine (pr_err_no P2.out).mono ?_; rintro e w3 ⟨rfl, rfl⟩))
      go_ret2
      rw [hv.out]
      exact ⟨rfl, P2.out.2.2.1⟩
  · have t0 : 0 ≤ t := by omega
    have t1 : t ≤ 255 := by omega
    have f0 : 0 ≤ f := by omega
    have f1 : f ≤ 255 := by omega
    clear hbad
    by_cases h32 : (32 : Int) < (d.size : Int)
    · have hv := Lib.hid (Fr.limit_of (d := d) t0 t1 f0 f1 (by omega))
      replace t0 := Lib.hid t0
      replace t1 := Lib.hid t1
      replace f0 := Lib.hid f0
      replace f1 := Lib.hid f1
      go_enter Try.func36, Try.ntmps36
      go_wp2_with (first
        | (go_at_call 50; with_reducible refine (pr_good _ P0.out (by decide) t0.out t1.out).mono ?_; rintro e w1 ⟨rfl, p1⟩; have P1 := Lib.hid p1; obtain ⟨c0, c1, c2⟩ := p1.cells; clear p1)
        | (go_at_call 50; with_reducible refine (pr_good _ P1.out (by simp) f0.out f1.out).mono ?_; rintro e w2 ⟨rfl, p2⟩; have P2 := Lib.hid p2; clear c0 c1 c2; obtain ⟨c0, c1, c2⟩ := p2.cells; clear p2)
        | (go_at_call 51; with_reducible refine (pr_err_ok P2.out).mono ?_; rintro e w3 ⟨rfl, rfl⟩))
      go_ret2
      rw [hv.out]
      exact ⟨rfl, P2.out.2.2.1⟩
    · have hv := Lib.hid (Fr.ok_of (d := d) t0 t1 f0 f1 (by omega))
      have hsz : d.size ≤ 32 := by omega
      have hd3 := Fr.hd_size t f d
      have hsm : (Fr.hd t f d ++ d).size ≤ 1000 := by rw [ByteArray.size_append]; omega
      have HS := Lib.hid (fun w => seal_any (Fr.hd t f d ++ d) w hsm)
      have HL := Lib.hid (hd_list t f d)
      replace t0 := Lib.hid t0
      replace t1 := Lib.hid t1
      replace f0 := Lib.hid f0
      replace f1 := Lib.hid f1
      have n0 := Lib.hid (show (0 : Int) ≤ (d.size : Int) by omega)
      have n1 := Lib.hid (show (d.size : Int) ≤ 255 by omega)
      have n2 := Lib.hid (show d.size ≤ 100 by omega)
      clear hsm hd3 hsz hd
      go_enter Try.func36, Try.ntmps36
      go_wp2_with (first
        | (go_at_call 50; with_reducible refine (pr_good _ P0.out (by decide) t0.out t1.out).mono ?_; rintro e w1 ⟨rfl, p1⟩; have P1 := Lib.hid p1; obtain ⟨c0, c1, c2⟩ := p1.cells; clear p1)
        | (go_at_call 50; with_reducible refine (pr_good _ P1.out (by simp) f0.out f1.out).mono ?_; rintro e w2 ⟨rfl, p2⟩; have P2 := Lib.hid p2; clear c0 c1 c2; obtain ⟨c0, c1, c2⟩ := p2.cells; clear p2)
        | (go_at_call 51; with_reducible refine (pr_err_ok P2.out).mono ?_; rintro e w3 ⟨rfl, rfl⟩)
        | (go_at_call 50; with_reducible refine (pr_good _ P2.out (by simp) n0.out n1.out).mono ?_; rintro e w4 ⟨rfl, p4⟩; have P4 := Lib.hid p4; clear c0 c1 c2; obtain ⟨c0, c1, c2⟩ := p4.cells; clear p4)
        | (go_at_call 52; with_reducible refine (pr_text _ P4.out (by simp) n2.out).mono ?_; rintro e w5 ⟨rfl, p5⟩; have P5 := Lib.hid p5; clear p5 c0 c1 c2)
        | (go_at_call 54; with_reducible refine (pr_all P5.out).mono ?_; rintro e w6 ⟨rfl, rfl⟩; rw [HL.out])
        | (go_at_call 53; with_reducible refine (HS.out _).mono ?_; rintro e w7 ⟨rfl, b7⟩))
      go_ret2
      rw [hv.out]
      exact ⟨rfl, P5.out.2.2.1.trans (b7.mono P5.out.2.2.1.size)⟩
end Go.Proofs.Ytjhihccjhnlghaa

/- A device of package nic: clones of rows; Log and Send. -/
namespace Go.Proofs.Ytjhihccjhnlghaa
open Go.RowKit Go.Lib
set_option linter.unusedVariables false

theorem RowZ.of_own {w : World} {B : Nat} {e : TypeId} {s : Nat} {v : Value} {n : Nat} {xs : List Value} (h : w.ownsRow B e s v n xs) : RowZ s w v n xs := by
  have h' := h
  obtain ⟨hl, ⟨rfl, rfl⟩ | ⟨g, cap, cur, rfl, hB, hh, hcap, hm, hc, hp⟩⟩ := h'
  · exact ⟨hl, .inl ⟨rfl, rfl⟩⟩
  · have hb : Blk w g e cur := hh
    refine ⟨hl, .inr ⟨g, 0, cap, rfl, hcap, hm, hb.lt, fun j hj => ⟨?_, hb.free _⟩, fun j u hu => ?_⟩⟩
    · rw [hb.cell, Nat.zero_add, Array.getElem?_eq_getElem (by omega)]
      rfl
    · have hj := (List.getElem?_eq_some_iff.1 hu).1
      rw [Nat.zero_add, World.ownsRow.cellAt h j (by omega), hu]
theorem own_base {w : World} {B : Nat} {e : TypeId} {s : Nat} {v : Value} {n : Nat} {xs : List Value} (h : w.ownsRow B e s v n xs) : ∀ i, v.ownBlock = some i → B ≤ i := by
  obtain ⟨hl, ⟨rfl, rfl⟩ | ⟨g, cap, cur, rfl, hB, hh, hcap, hm, hc, hp⟩⟩ := h
  · intro i hi
    simp [Value.ownBlock] at hi
  · intro i hi
    simp [Value.ownBlock] at hi
    omega
theorem sent_info : (Try.prog.info? 57).map (fun i => (i.zero, i.size, i.bytes)) = some (some (.agg #[.int .i64 0, .int .i64 0, .string ⟨#[]⟩]), 3, 32) := by kernel_rfl
/-- What a clone of rows of three cells answers. -/
def CloZ (w : World) (n : Nat) (xs : List Value) (v' : Value) (w' : World) : Prop := RowZ 3 w' v' n xs ∧ (∀ i, v'.ownBlock = some i → w.heap.size ≤ i) ∧ Below w.heap.size w w'

theorem sent_nil (w : World) : (binOp BinOp.eql 54 (.slice none 0 0) (.slice none 0 0)).run Try.prog w = .ok (.bool true) w := by kernel_rfl
theorem sent_some (g o n cap : Nat) (w : World) : (binOp BinOp.eql 54 (.slice (some ⟨g, o, none⟩) n cap) (.slice none 0 0)).run Try.prog w = .ok (.bool false) w := by kernel_rfl
set_option maxRecDepth 100000 in
theorem sent_clone_nil (w : World) : Calls Try.prog 37 #[.slice none 0 0] w fun r w' => r = .returned (.slice none 0 0) ∧ w = w' := by
  have hs := sent_nil w
  go_enter Try.func37, Try.ntmps37
  go_wp2
  go_ret
  exact ⟨rfl, rfl⟩
set_option maxRecDepth 100000 in
theorem sent_clone (w : World) (v : Value) (S : List Frm) (h : RowZ 3 w v S.length (frL S)) (hn : S.length ≤ 1000) : Calls Try.prog 37 #[v] w fun r w' => ∃ v', r = .returned v' ∧ CloZ w S.length (frL S) v' w' := by
  have hlen := frL_len S
  have hone := frL_cell S
  obtain ⟨n, hn'⟩ : ∃ n, n = S.length := ⟨_, rfl⟩
  rw [← hn'] at h hn hlen ⊢
  obtain ⟨hl, ⟨rfl, hz⟩ | ⟨g, off, cap, rfl, hcap, hm, hlt, hfree, hcs⟩⟩ := h
  · subst hz

    exact (sent_clone_nil w).mono fun r w' ⟨h1, h2⟩ => by subst h2; exact ⟨_, h1, ⟨hl, .inl ⟨rfl, rfl⟩⟩, by simp [Value.ownBlock], Below.refl _ _⟩
  · obtain ⟨i0, hi0, hz0, hz1, hz2⟩ := info_parts sent_info
    have hown : (w.alloc (.cells #[] 57)).ownsRow w.heap.size 57 3 (.slice (some ⟨w.heap.size, 0, none⟩) 0 0) 0 [] := ⟨rfl, .inr ⟨w.heap.size, 0, #[], rfl, Nat.le_refl _, Blk.new w _ _, by omega, by unfold maxLen; omega, rfl, rfl⟩⟩
    have hcs2 : ∀ j u, (frL S)[j]? = some u → (w.alloc (.cells #[] 57)).cell? ((⟨g, off, none⟩ : Addr).add j) = some u := fun j u hj => by
      rw [addr_at]
      exact (((Below.refl w.heap.size w).alloc (Nat.le_refl _) _).cell (p := ⟨g, off + j, none⟩) hlt).trans (hcs j u hj)
    have HCS := Lib.hid hcs2
    have HOWN := Lib.hid hown
    have HLEN := Lib.hid hl
    have HONE := Lib.hid hone
    have hs := sent_some g off n cap w
    clear hlt hcs hown hcs2 hfree hl hlen hone hn'
    go_enter Try.func37, Try.ntmps37
    go_wp2_with (at_builtin; refine wpList_append_own_at _ rfl (.tmp 5) (.tmp 6) 54 rfl w.heap.size 57 i0 _ 3 32 Try.underlying54 hi0 hz0 hz1 hz2 rfl (by decide) (.slice (some ⟨w.heap.size, 0, none⟩) 0 0) 0 [] rfl HOWN.out ⟨g, off, none⟩ n _ (frL S) rfl HLEN.out HCS.out HONE.out (by unfold maxLen; omega) (by omega) (by simp) ?_; intro v1 w1 hown1 hg1 _ hat1; have O1 := Lib.hid hown1; have G1 := Lib.hid hg1; clear hown1 hg1 hat1)
    go_ret
    have hO := O1.out
    simp only [Nat.zero_add, List.nil_append] at hO
    exact ⟨_, rfl, RowZ.of_own hO, own_base hO, ((Below.refl w.heap.size w).alloc (Nat.le_refl _) _).trans (below_of_only G1.out (by simp) (fun k hk => by simp [Value.ownBlock] at hk; omega))⟩

theorem frm_nil (w : World) : (binOp BinOp.eql 90 (.slice none 0 0) (.slice none 0 0)).run Try.prog w = .ok (.bool true) w := by kernel_rfl
theorem frm_some (g o n cap : Nat) (w : World) : (binOp BinOp.eql 90 (.slice (some ⟨g, o, none⟩) n cap) (.slice none 0 0)).run Try.prog w = .ok (.bool false) w := by kernel_rfl
set_option maxRecDepth 100000 in
theorem frm_clone_nil (w : World) : Calls Try.prog 55 #[.slice none 0 0] w fun r w' => r = .returned (.slice none 0 0) ∧ w = w' := by
  have hs := frm_nil w
  go_enter Try.func55, Try.ntmps55
  go_wp2
  go_ret
  exact ⟨rfl, rfl⟩
set_option maxRecDepth 100000 in
theorem frm_clone (w : World) (v : Value) (S : List Frm) (h : RowZ 3 w v S.length (frL S)) (hn : S.length ≤ 1000) : Calls Try.prog 55 #[v] w fun r w' => ∃ v', r = .returned v' ∧ CloZ w S.length (frL S) v' w' := by
  have hlen := frL_len S
  have hone := frL_cell S
  obtain ⟨n, hn'⟩ : ∃ n, n = S.length := ⟨_, rfl⟩
  rw [← hn'] at h hn hlen ⊢
  obtain ⟨hl, ⟨rfl, hz⟩ | ⟨g, off, cap, rfl, hcap, hm, hlt, hfree, hcs⟩⟩ := h
  · subst hz

    exact (frm_clone_nil w).mono fun r w' ⟨h1, h2⟩ => by subst h2; exact ⟨_, h1, ⟨hl, .inl ⟨rfl, rfl⟩⟩, by simp [Value.ownBlock], Below.refl _ _⟩
  · obtain ⟨i0, hi0, hz0, hz1, hz2⟩ := info_parts frame_info
    have hown : (w.alloc (.cells #[] 46)).ownsRow w.heap.size 46 3 (.slice (some ⟨w.heap.size, 0, none⟩) 0 0) 0 [] := ⟨rfl, .inr ⟨w.heap.size, 0, #[], rfl, Nat.le_refl _, Blk.new w _ _, by omega, by unfold maxLen; omega, rfl, rfl⟩⟩
    have hcs2 : ∀ j u, (frL S)[j]? = some u → (w.alloc (.cells #[] 46)).cell? ((⟨g, off, none⟩ : Addr).add j) = some u := fun j u hj => by
      rw [addr_at]
      exact (((Below.refl w.heap.size w).alloc (Nat.le_refl _) _).cell (p := ⟨g, off + j, none⟩) hlt).trans (hcs j u hj)
    have HCS := Lib.hid hcs2
    have HOWN := Lib.hid hown
    have HLEN := Lib.hid hl
    have HONE := Lib.hid hone
    have hs := frm_some g off n cap w
    clear hlt hcs hown hcs2 hfree hl hlen hone hn'
    go_enter Try.func55, Try.ntmps55
    go_wp2_with (at_builtin; refine wpList_append_own_at _ rfl (.tmp 5) (.tmp 6) 90 rfl w.heap.size 46 i0 _ 3 32 Try.underlying90 hi0 hz0 hz1 hz2 rfl (by decide) (.slice (some ⟨w.heap.size, 0, none⟩) 0 0) 0 [] rfl HOWN.out ⟨g, off, none⟩ n _ (frL S) rfl HLEN.out HCS.out HONE.out (by unfold maxLen; omega) (by omega) (by simp) ?_; intro v1 w1 hown1 hg1 _ hat1; have O1 := Lib.hid hown1; have G1 := Lib.hid hg1; clear hown1 hg1 hat1)
    go_ret
    have hO := O1.out
    simp only [Nat.zero_add, List.nil_append] at hO
    exact ⟨_, rfl, RowZ.of_own hO, own_base hO, ((Below.refl w.heap.size w).alloc (Nat.le_refl _) _).trans (below_of_only G1.out (by simp) (fun k hk => by simp [Value.ownBlock] at hk; omega))⟩

section
variable {w : World} {d m : Nat} {lv : Value} {odd : Int} {S : List Frm} {G : List Gp}
theorem nlog_nil (w : World) : Calls Try.prog 21 #[.pointer none] w fun e w' => e = .returned (.slice none 0 0) ∧ w = w' := by
  go_enter Try.func21, Try.ntmps21
  go_wp2
  go_ret
  exact ⟨rfl, rfl⟩
theorem nlog_any (h : NicG w d m lv odd S G) (hn : S.length ≤ 1000) : Calls Try.prog 21 #[.pointer (some ⟨d, 0, none⟩)] w fun e w' => ∃ v', e = .returned v' ∧ CloZ w S.length (frL S) v' w' := by
  have c2 : w.cell? ⟨d, 2, none⟩ = some lv := h.1.cell 2
  have HC := Lib.hid (sent_clone w lv S h.2.2.1 hn)
  obtain ⟨Av, cv, rfl⟩ := h.2.2.1.form
  clear h
  go_enter Try.func21, Try.ntmps21
  go_wp2_with (go_at_call 37; with_reducible refine HC.out.mono ?_; rintro e w1 ⟨v', rfl, h1⟩; have H1 := Lib.hid h1; clear h1)
  go_ret
  exact ⟨_, rfl, H1.out⟩
end
end Go.Proofs.Ytjhihccjhnlghaa

/- A device of package nic: Send. -/
namespace Go.Proofs.Ytjhihccjhnlghaa
open Go.RowKit Go.Lib
set_option linter.unusedVariables false

theorem snt_news (W : World) (x1 x2 : Int) (x3 : ByteArray) : ∀ j u, (frC (x1, x2, x3))[j]? = some u → (W.alloc (.cells #[.int .i64 x1, .int .i64 x2, .string x3] 57)).cell? ((⟨W.heap.size, 0, none⟩ : Addr).add j) = some u := by
  intro j u hj
  rw [addr_at, (Blk.new W 57 #[.int .i64 x1, .int .i64 x2, .string x3]).cell, Nat.zero_add]
  simpa [frC] using hj
section
variable {w : World} {d m : Nat} {lv : Value} {odd : Int} {S : List Frm} {G : List Gp}
/-- One more row in the log. -/
theorem NicG.logs (h : NicG w d m lv odd S G) (x1 x2 : Int) (x3 : ByteArray) (hn : S.length ≤ 1000) :
    ∃ v' w', (Builtin.append_ #[54, 54] 54 #[lv, .slice (some ⟨w.heap.size, 0, none⟩) 1 1]).run Try.prog (w.alloc (.cells #[.int .i64 x1, .int .i64 x2, .string x3] 57)) = .ok v' w' ∧ (∃ A c, v' = .slice A (S.length + 1) c) ∧
      w'.cell? ⟨d, 2, none⟩ = some lv ∧ w'.frozen? ⟨d, 2, none⟩ = false ∧ NicN w d m lv G (w'.setCell ⟨d, 2, none⟩ v') odd (S ++ [(x1, x2, x3)]) (G.map Gp.sp) := by
  obtain ⟨i0, hi0, hz0, hz1, hz2⟩ := info_parts sent_info
  have hlt := h.lt
  obtain ⟨h1, h2, h3, h4, h5, h6, h7, h8⟩ := h
  have hsrc : Src Try.prog 3 54 (.slice (some ⟨w.heap.size, 0, none⟩) 1 1) 1 (frC (x1, x2, x3)) (w.alloc (.cells #[.int .i64 x1, .int .i64 x2, .string x3] 57)) := Src.ofSlice _ Try.underlying54 _ _ _ _ rfl (snt_news w x1 x2 x3) (by simp [frC, Value.oneCell'])
  obtain ⟨v', w', hk, hr, hg, ho⟩ := run_pushZ (P := Try.prog) _ 54 57 54 i0 _ 32 Try.underlying54 hi0 hz0 hz1 hz2 (by omega) rfl _ _ _ (h3.alloc (.cells #[.int .i64 x1, .int .i64 x2, .string x3] 57)) (frL_cell S) _ _ hsrc (by omega)
  have hnd : some d ≠ lv.ownBlock := fun e => (h6 d e.symm).1 rfl
  have hd := (h1.alloc (.cells #[.int .i64 x1, .int .i64 x2, .string x3] 57)).only hg hnd
  have hv : ∀ i, v'.ownBlock = some i → lv.ownBlock = some i ∨ w.heap.size < i := fun i hi => by
    rcases ho with ho | ho
    · exact .inl (ho ▸ hi)
    · rw [ho] at hi
      injection hi with hi
      simp at hi
      exact .inr (by omega)
  have hvd : v'.ownBlock ≠ some d := fun e => by
    rcases hv d e with q | q
    · exact hnd q.symm
    · have := hlt d (.inl rfl)
      omega
  have k1 : Keeps (fun i => lv.ownBlock = some i) w w' := ((Keeps.refl _ w).alloc _).trans (Keeps.of_only hg fun k hk => hk)
  have k2 : Keeps (fun i => i = d ∨ lv.ownBlock = some i) w (w'.setCell ⟨d, 2, none⟩ v') := (k1.mono fun i _ hi => .inr hi).put (p := ⟨d, 2, none⟩) (.inl (.inl rfl)) _
  refine ⟨v', w', hk, hr.form, hd.cell 2, hd.free 2, v', G, ⟨by simpa using hd.put 2 v', h2.keeps k2 ?_, ?_, fun g hg' => ⟨(h4 g hg').1.keeps k2 ?_, (h4 g hg').2⟩, h5, ?_, h7, h8⟩, rfl, k2.mono ?_, ?_⟩
  · rintro (e | e)
    · exact h5 e.symm
    · exact (h6 m e).2.1 rfl
  · have := hr.put (p := ⟨d, 2, none⟩) hvd v'
    rw [frL_app, frL_one, List.length_append]
    exact this
  · rintro i hi (e | e)
    · exact (h7 g hg' i hi).1 e
    · exact (h6 i e).2.2 g hg' hi
  · intro i hi
    rcases hv i hi with q | q
    · exact h6 i q
    · refine ⟨fun e => ?_, fun e => ?_, fun g hg' e => ?_⟩
      · have := hlt d (.inl rfl)
        omega
      · have := hlt m (.inr (.inl rfl))
        omega
      · have := hlt i (.inr (.inr (.inr ⟨g, hg', e⟩)))
        omega
  · rintro i _ (e | e)
    · exact .inl e
    · exact .inr (.inr (.inl e))
  · rintro i (e | e | e | e)
    · exact .inl (.inl e)
    · exact .inl (.inr (.inl e))
    · rcases hv i e with q | q
      · exact .inl (.inr (.inr (.inl q)))
      · exact .inr (by omega)
    · exact .inl (.inr (.inr (.inr e)))

theorem nsend_nil (t o to : Int) (s : ByteArray) (w : World) : Calls Try.prog 20 #[.pointer none, .int .i64 t, .int .i64 o, .int .i64 to, .string s] w fun e w' => e = .returned (.int .i64 1) ∧ w.grownBy w' none := by
  go_enter Try.func20, Try.ntmps20
  go_wp2_with (go_at_call 32; with_reducible refine (nfind_nil o _).mono ?_; rintro e w1 ⟨rfl, g1⟩; have G1 := Lib.hid (only_alloc g1 (.cells #[.pointer none, .int .i64 0] 70)); clear g1)
  go_ret
  exact ⟨rfl, G1.out⟩
theorem nsend_none (h : NicG w d m lv odd S G) (t o to : Int) (s : ByteArray) (hf : fitI o) (hn : ∀ g ∈ G, g.o ≠ o) : Calls Try.prog 20 #[.pointer (some ⟨d, 0, none⟩), .int .i64 t, .int .i64 o, .int .i64 to, .string s] w fun e w' => e = .returned (.int .i64 7) ∧ Below w.heap.size w w' := by
  have HF := Lib.hid (h.finds o hf hn)
  clear h
  go_enter Try.func20, Try.ntmps20
  go_wp2_with (go_at_call 32; with_reducible refine HF.out.mono ?_; rintro e w1 ⟨rfl, g1⟩; have G1 := Lib.hid (only_alloc g1 (.cells #[.pointer none, .int .i64 0] 70)); clear g1)
  go_ret
  exact ⟨rfl, below_of_only G1.out (Nat.le_refl _) (by simp)⟩
theorem nsend_bad {A C : List Gp} {g : Gp} (h : NicG w d m lv odd S (A ++ g :: C)) (t to : Int) (s : ByteArray) (hs : s.size ≤ 200) (he : (Fr.prV to g.mac s).2 ≠ 0) : Calls Try.prog 20 #[.pointer (some ⟨d, 0, none⟩), .int .i64 t, .int .i64 g.o, .int .i64 to, .string s] w fun e w' => e = .returned (.int .i64 (Fr.prV to g.mac s).2) ∧ Below w.heap.size w w' := by
  have HF := Lib.hid h.find
  have hp := fun W => print_any to g.mac s W hs
  obtain ⟨⟨p, z⟩, hv⟩ : ∃ v, v = Fr.prV to g.mac s := ⟨_, rfl⟩
  rw [← hv] at hp he ⊢
  simp only at hp he ⊢
  have HP := Lib.hid hp
  clear h hp hv
  go_enter Try.func20, Try.ntmps20
  go_wp2_with (first
    | (go_at_call 32; with_reducible refine HF.out.mono ?_; rintro e w1 ⟨rfl, g1⟩; have G1 := Lib.hid (only_alloc g1 (.cells #[.pointer (some ⟨g.q, 0, none⟩), .int .i64 g.mac] 70)); clear g1)
    | (go_at_call 36; (with_reducible refine (HP.out _).mono ?_); rintro e w3 ⟨rfl, b3⟩; have B3 := Lib.hid ((below_of_only G1.out (Nat.le_refl _) (by simp)).trans (b3.mono G1.out.size)); clear b3))
  go_ret
  exact ⟨rfl, B3.out⟩
set_option maxRecDepth 20000 in
theorem nsend_ok {A C : List Gp} {g : Gp} (h : NicG w d m lv odd S (A ++ g :: C)) (t to : Int) (s : ByteArray) (hs : s.size ≤ 200) (hn : S.length ≤ 1000) (he : (Fr.prV to g.mac s).2 = 0) : Calls Try.prog 20 #[.pointer (some ⟨d, 0, none⟩), .int .i64 t, .int .i64 g.o, .int .i64 to, .string s] w fun e w' => e = .returned (.int .i64 0) ∧ NicN w d m lv (A ++ g :: C) w' odd (S ++ [(t, g.o, (Fr.prV to g.mac s).1)]) ((A ++ g :: C).map Gp.sp) := by
  have HF := Lib.hid h.find
  have H := Lib.hid h
  have hp := fun W => print_any to g.mac s W hs
  obtain ⟨⟨p, z⟩, hv⟩ : ∃ v, v = Fr.prV to g.mac s := ⟨_, rfl⟩
  rw [← hv] at hp he ⊢
  simp only at hp he ⊢
  subst he
  have HP := Lib.hid hp
  have hlg := fun W (hW : NicG W d m lv odd S (A ++ g :: C)) => hW.logs t g.o p hn
  obtain ⟨Al, cl, rfl⟩ := h.2.2.1.form
  have HLG := Lib.hid hlg
  clear h hp hv hlg
  go_enter Try.func20, Try.ntmps20
  go_wp2_with (first
    | (go_at_call 32; with_reducible refine HF.out.mono ?_; rintro e w1 ⟨rfl, g1⟩; have G1 := Lib.hid (only_alloc g1 (.cells #[.pointer (some ⟨g.q, 0, none⟩), .int .i64 g.mac] 70)); clear g1)
    | (go_at_call 36; (with_reducible refine (HP.out _).mono ?_); rintro e w3 ⟨rfl, b3⟩; have B3 := Lib.hid ((below_of_only G1.out (Nat.le_refl _) (by simp)).trans (b3.mono G1.out.size)); clear b3; have h3 := H.out.below B3.out; have c2 : w3.cell? ⟨d, 2, none⟩ = some (.slice Al S.length cl) := h3.1.cell 2; obtain ⟨v', w4, hk, ⟨A', c', rfl⟩, d2, f2, fin⟩ := HLG.out w3 h3; have HK := Lib.hid hk; have FIN := Lib.hid (fin.from B3.out); clear h3 hk fin)
    | (at_builtin; refine wpList_append_eq rfl (.tmp 38) (.tmp 43) 54 rfl HK.out rfl rfl ?_))
  go_ret
  exact ⟨rfl, FIN.out⟩
end
end Go.Proofs.Ytjhihccjhnlghaa
