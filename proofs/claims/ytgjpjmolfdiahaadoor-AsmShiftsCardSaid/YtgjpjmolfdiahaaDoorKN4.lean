/- Package code: Put, by its contract. -/
import Derived.Test.YtgjpjmolfdiahaaDoorKN3
namespace Go.Proofs.YtgjpjmolfdiahaaDoor
open Go.RowKit Go.Lib
set_option linter.unusedVariables false

/-- An instruction's bytes. -/
def ptI (k : Nat) (x n : Int) : ByteArray := ⟨#[UInt8.ofNat k, UInt8.ofNat x.toNat, UInt8.ofNat (n % 256).toNat, UInt8.ofNat (n / 256 % 256).toNat]⟩
/-- What is kept between two calls on the writer: the instruction's cells, the writer, what lies below. -/
def PkI (w0 W : World) (b k : Nat) (x n : Int) (l : List UInt8) : Prop :=
  Blk W w0.heap.size 42 #[.int .u8 k, .int .i64 x, .int .i64 n] ∧ Wr W b b (some l) ∧ Below w0.heap.size w0 W ∧ w0.heap.size < b ∧ b < W.heap.size
section
variable {w0 W W' : World} {b k : Nat} {x n : Int} {l l' : List UInt8}
theorem PkI.step (h : PkI w0 W b k x n l) (h' : Wr W' b b (some l')) (hb : Below b W W') : PkI w0 W' b k x n l' :=
  ⟨h.1.below hb h.2.2.2.1, h', h.2.2.1.trans (hb.mono (Nat.le_of_lt h.2.2.2.1)), h.2.2.2.1, Nat.lt_of_lt_of_le h.2.2.2.2 hb.size⟩
theorem PkI.cells (h : PkI w0 W b k x n l) : W.cell? ⟨w0.heap.size, 0, none⟩ = some (.int .u8 k) ∧ W.cell? ⟨w0.heap.size, 1, none⟩ = some (.int .i64 x) ∧ W.cell? ⟨w0.heap.size, 2, none⟩ = some (.int .i64 n) := ⟨h.1.cell 0, h.1.cell 1, h.1.cell 2⟩
theorem pki_byte (m : Int) (h : PkI w0 W b k x n l) (hl : l.length ≤ 1000) (h0 : 0 ≤ m ∧ m ≤ 255) :
    Calls Tryd.prog 82 #[.pointer (some ⟨b, 0, none⟩), .int .i64 m] W fun r w' => r = .returned (.tuple #[]) ∧ PkI w0 w' b k x n (l ++ [UInt8.ofNat m.toNat]) := by
  have hx : wrNext (some l) 0 m .empty = some (l ++ [UInt8.ofNat m.toNat]) := by simp [wrNext, stepBytes, h0.1, h0.2]
  have := wbyte_any b b m .empty (some l) W h.2.1 (Nat.le_refl _) (Nat.le_of_lt h.2.2.2.2) (fun l' e => by injection e with e; subst e; omega)
  rw [hx] at this
  exact this.mono fun _ _ ⟨e, q, c⟩ => ⟨e, h.step q c⟩
theorem pki_two (m : Int) (h : PkI w0 W b k x n l) (hl : l.length ≤ 1000) (h0 : 0 ≤ m ∧ m ≤ 65535) :
    Calls Tryd.prog 83 #[.pointer (some ⟨b, 0, none⟩), .int .i64 m] W fun r w' => r = .returned (.tuple #[]) ∧ PkI w0 w' b k x n (l ++ [UInt8.ofNat (m % 256).toNat, UInt8.ofNat (m / 256 % 256).toNat]) := by
  have hx : wrNext (some l) 1 m .empty = some (l ++ [UInt8.ofNat (m % 256).toNat, UInt8.ofNat (m / 256 % 256).toNat]) := by simp [wrNext, stepBytes, h0.1, h0.2, Bt.put]
  have := wtwo_any b b m .empty (some l) W h.2.1 (Nat.le_refl _) (Nat.le_of_lt h.2.2.2.2) (fun l' e => by injection e with e; subst e; omega)
  rw [hx] at this
  exact this.mono fun _ _ ⟨e, q, c⟩ => ⟨e, h.step q c⟩
theorem pki_err (h : PkI w0 W b k x n l) : Calls Tryd.prog 85 #[.pointer (some ⟨b, 0, none⟩)] W fun r w' => r = .returned (.int .i64 0) ∧ W = w' := werr_any b b _ W h.2.1
theorem pki_all (h : PkI w0 W b k x n l) : Calls Tryd.prog 84 #[.pointer (some ⟨b, 0, none⟩)] W fun r w' => r = .returned (.string ⟨l.toArray⟩) ∧ W = w' := wbytes_any b b _ W h.2.1
end
theorem pki_new {w0 W : World} {k : Nat} {x n : Int} (hb : Blk W w0.heap.size 42 #[.int .u8 k, .int .i64 x, .int .i64 n]) (hl : Below w0.heap.size w0 W) : PkI w0 (W.alloc (.cells #[.int .i64 0, .slice none 0 0] 126)) W.heap.size k x n [] :=
  ⟨hb.alloc _, ⟨.slice none 0 0, Blk.new _ _ _, World.ownsRow_nil _ _ _ _⟩, hl.alloc (Nat.le_of_lt hb.lt) _, hb.lt, by simp⟩
set_option maxHeartbeats 1600000 in
theorem put_yes (k : Nat) (x n : Int) (hk : k < 256) (w : World) (hG : Nm w) (hm : mayI k x n = true) : Calls Tryd.prog 72 #[.agg #[.int .u8 k, .int .i64 x, .int .i64 n]] w fun e w' => e = .returned (.tuple #[.string (ptI k x n), .int .i64 0]) ∧ w.grownBy w' none := by
  obtain ⟨k1, x1, x2, n1, n2⟩ := mayI_facts hm
  obtain ⟨W1, hW, g1, hB⟩ := ibox w 42 #[.int .u8 k, .int .i64 x, .int .i64 n]
  obtain ⟨c0, c1, c2⟩ := in3 hB
  have hw : IntKind.i64.wrap (k : Int) = (k : Int) := by rw [IntKind.wrap_i64]; omega
  have HM := Lib.hid (may_any k x n hk W1 (hG.grown g1 (by simp)))
  rw [hm] at HM
  have HB := Lib.hid hB
  have HG := Lib.hid g1
  have HP := Lib.hid (show (⟨([] ++ [UInt8.ofNat (k : Int).toNat] ++ [UInt8.ofNat x.toNat] ++ [UInt8.ofNat (n % 256).toNat, UInt8.ofNat (n / 256 % 256).toNat]).toArray⟩ : ByteArray) = ptI k x n from by simp [ptI])
  have F1 := Lib.hid (show 0 ≤ (k : Int) ∧ (k : Int) ≤ 255 from by omega)
  have F2 := Lib.hid (show 0 ≤ x ∧ x ≤ 255 from by omega)
  have F3 := Lib.hid (show 0 ≤ n ∧ n ≤ 65535 from ⟨n1, n2⟩)
  clear hB g1 hG hm k1 x1 x2 n1 n2
  go_enter Tryd.func72, Tryd.ntmps72
  go_upto_region 1 with (fail)
  rw [← hW]
  clear hW
  go_upto_region 4 with (go_at_call 21; (with_reducible refine HM.out.mono ?_); rintro e w2 ⟨rfl, g2⟩; have B2 := Lib.hid (HB.out.only g2 (by simp)); have G2 := Lib.hid (only_trans HG.out g2); clear g2 c0 c1 c2)
  have P0 := Lib.hid (pki_new (w0 := w) B2.out (below_of_only G2.out (Nat.le_refl _) (by simp)))
  obtain ⟨c0, c1, c2⟩ := P0.out.cells
  obtain ⟨b, hb⟩ : ∃ b, b = w2.heap.size := ⟨_, rfl⟩
  obtain ⟨w3, hw3⟩ : ∃ w3, w3 = w2.alloc (.cells #[.int .i64 0, .slice none 0 0] 126) := ⟨_, rfl⟩
  rw [← hw3] at P0 c0 c1 c2 ⊢
  rw [← hb] at P0 ⊢
  clear hb hw3
  go_wp2_with (first
    | (go_at_call 82; (with_reducible refine (pki_byte _ P0.out (by decide) F1.out).mono ?_); rintro e w4 ⟨rfl, p1⟩; have P1 := Lib.hid p1; clear c0 c1 c2; obtain ⟨c0, c1, c2⟩ := p1.cells; clear p1)
    | (go_at_call 82; (with_reducible refine (pki_byte _ P1.out (by simp) F2.out).mono ?_); rintro e w5 ⟨rfl, p2⟩; have P2 := Lib.hid p2; clear c0 c1 c2; obtain ⟨c0, c1, c2⟩ := p2.cells; clear p2)
    | (go_at_call 83; (with_reducible refine (pki_two _ P2.out (by simp) F3.out).mono ?_); rintro e w6 ⟨rfl, p3⟩; have P3 := Lib.hid p3; clear c0 c1 c2 p3)
    | (go_at_call 84; (with_reducible refine (pki_all P3.out).mono ?_); rintro e w7 ⟨rfl, rfl⟩)
    | (go_at_call 85; (with_reducible refine (pki_err P3.out).mono ?_); rintro e w8 ⟨rfl, rfl⟩))
  go_ret2
  exact ⟨rfl, ⟨P3.out.2.2.1.os, P3.out.2.2.1.tape, P3.out.2.2.1.output, P3.out.2.2.1.size, fun i hi _ => P3.out.2.2.1.block i hi⟩⟩
set_option maxHeartbeats 1600000 in
theorem put_no (k : Nat) (x n : Int) (hk : k < 256) (w : World) (hG : Nm w) (hm : mayI k x n = false) : Calls Tryd.prog 72 #[.agg #[.int .u8 k, .int .i64 x, .int .i64 n]] w fun e w' => e = .returned (.tuple #[.string ⟨#[]⟩, .int .i64 12]) ∧ w.grownBy w' none := by
  obtain ⟨W1, hW, g1, hB⟩ := ibox w 42 #[.int .u8 k, .int .i64 x, .int .i64 n]
  obtain ⟨c0, c1, c2⟩ := in3 hB
  have HM := Lib.hid (may_any k x n hk W1 (hG.grown g1 (by simp)))
  rw [hm] at HM
  have HG := Lib.hid g1
  clear hB g1 hG hm
  go_enter Tryd.func72, Tryd.ntmps72
  go_upto_region 1 with (fail)
  rw [← hW]
  clear hW
  go_wp2_with (go_at_call 21; (with_reducible refine HM.out.mono ?_); rintro e w2 ⟨rfl, g2⟩; have G2 := Lib.hid (only_trans HG.out g2); clear g2 c0 c1 c2)
  go_ret2
  exact ⟨rfl, G2.out⟩
end Go.Proofs.YtgjpjmolfdiahaaDoor
