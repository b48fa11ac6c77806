import Derived.Test.YtjmdcmcheiagjaaZ05
import Derived.Test.YtjmdcmcheiagjaaZ03
import Derived.StillTailTactics
set_option linter.all false
/- Rows are written, by the contracts of these functions. -/
namespace Go.Proofs.Ytjmdcmcheiagjaa
open Go.RowKit Go.Lib Go.Sort
set_option linter.unusedVariables false

theorem only_of_below {w w' : World} (h : Below w.heap.size w w') : w.grownBy w' none := only_far h
set_option maxHeartbeats 1600000 in
theorem prwin_any (wB : World) (b : Nat) (A : Option Addr) (n cap : Nat) (d : Nat → W3) (R : Option Nat) (o : Wo) (w : World) (hBel : Below wB.heap.size wB w) (hrow : Row3 wB A n d) (hb : wB.heap.size ≤ b) (hR : ∀ k, R = some k → wB.heap.size ≤ k) (h : WrR w b R o) (hl : Ln o 20000) (hn : n ≤ 1000) :
    Calls Try.prog 18 #[.pointer (some ⟨b, 0, none⟩), .slice A n cap, .func (.func 19) #[] #[]] w (StepR w b R (pR pW d n (pB n o))) := by
  have HK := Lib.hid (wbyter b n R o w h (fun l e => by have := hl l e; omega))
  have HS := Lib.hid (show ∀ R1 w1, Nxt w w1 b R R1 → Row3 w1 A n d ∧ Below wB.heap.size wB w1 from fun R1 w1 k => by
    have k1 := (k.below hBel.size hb hR).1
    exact ⟨hrow.grown (only_of_below (hBel.trans k1)), hBel.trans k1⟩)
  have HLN := Lib.hid (show ∀ i, i ≤ n → Ln (pR pW d i (pB n o)) 40000 from fun i hi => ((hl.byte n).rows (s := 5) (fun x o m k => k.win x) d i).mono (by omega))
  clear hBel hrow hb hR h hl
  go_enter Try.func18, Try.ntmps18
  go_wp2_with (go_at_call 49; (with_reducible refine HK.out.mono ?_); rintro e w1 ⟨rfl, k1⟩; have K1 := Lib.hid k1; clear k1)
  go_loopw [14] (fun y wr => ∃ i : Nat, y = .int .i64 i ∧ i ≤ n ∧ Hid (∃ R', WrR wr b R' (pR pW d i (pB n o)) ∧ Nxt w wr b R R')) (fun y _ => n - (intOf y).toNat)
  case atStart => exact ⟨0, rfl, by omega, K1⟩
  case round =>
    obtain ⟨i, rfl, hi, HR⟩ := hrel
    by_cases hin : i < n
    · have i1 : (i : Int) < (n : Int) := by omega
      have i0 : (0 : Int) ≤ (i : Int) := by omega
      obtain ⟨R', hw, hx⟩ := HR.out
      obtain ⟨b', off, hA, hb', hcl⟩ := (HS.out _ _ hx).1.2 (by omega)
      have hcell := hcl i hin
      have hnx : pR pW d (i + 1) (pB n o) = pW (d i) (pR pW d i (pB n o)) := rfl
      have HNX := Lib.hid hnx
      have hP := pwin_any b (d i) R' (pR pW d i (pB n o)) 
      have HX := Lib.hid hx
      have HW := Lib.hid hw
      have LN := HLN.out i (by omega)
      subst hA
      clear hcl hnx hx hw HR
      generalize pR pW d i (pB n o) = oi at hP HNX HW LN
      obtain ⟨x, hxx⟩ : ∃ x, x = d i := ⟨_, rfl⟩
      rw [← hxx] at hcell hP HNX
      replace hxx := Lib.hid hxx
      obtain ⟨x0, x1, x2⟩ := x
      obtain ⟨c0, c1, c2⟩ := hcell
      simp only at c0 c1 c2
      have HP := Lib.hid (show ∀ W, WrR W b R' oi → Calls Try.prog 19 #[.pointer (some ⟨b, 0, none⟩), .agg #[.int .i64 x0, .int .i64 x1, .int .i64 x2]] W (StepR W b R' (pW ⟨x0, x1, x2⟩ oi)) from fun W k => hP W k LN)
      have HAL := Lib.hid (show WrR (wr.alloc (.cells #[.int .i64 x0, .int .i64 x1, .int .i64 x2] 49)) b R' oi from HW.out.alloc _)
      clear hP LN
      go_wp2_with (go_at_call 19; (with_reducible refine (HP.out _ HAL.out).mono ?_); rintro e w2 ⟨rfl, k2⟩; have K2 := Lib.hid k2; clear k2)
      go_roundw
      case rel =>
        obtain ⟨R2, q1, q2⟩ := K2.out
        exact ⟨i + 1, by go_num, by omega, Lib.hid ⟨R2, by rw [HNX.out]; exact q1, HX.out.trans ((Nxt.alloc _ _ _ _).trans q2)⟩⟩
      case measure => simp [intOf] <;> omega
    · obtain rfl : i = n := by omega
      have i1 : ¬ (i : Int) < (i : Int) := by omega
      go_wp2
      go_end0
      exact ⟨rfl, HR.out⟩
set_option maxHeartbeats 1600000 in
theorem prslot_any (wB : World) (b : Nat) (A : Option Addr) (n cap : Nat) (d : Nat → W3) (R : Option Nat) (o : Wo) (w : World) (hBel : Below wB.heap.size wB w) (hrow : Row3 wB A n d) (hb : wB.heap.size ≤ b) (hR : ∀ k, R = some k → wB.heap.size ≤ k) (h : WrR w b R o) (hl : Ln o 20000) (hn : n ≤ 1000) :
    Calls Try.prog 20 #[.pointer (some ⟨b, 0, none⟩), .slice A n cap, .func (.func 21) #[] #[]] w (StepR w b R (pR pW d n (pB n o))) := by
  have HK := Lib.hid (wbyter b n R o w h (fun l e => by have := hl l e; omega))
  have HS := Lib.hid (show ∀ R1 w1, Nxt w w1 b R R1 → Row3 w1 A n d ∧ Below wB.heap.size wB w1 from fun R1 w1 k => by
    have k1 := (k.below hBel.size hb hR).1
    exact ⟨hrow.grown (only_of_below (hBel.trans k1)), hBel.trans k1⟩)
  have HLN := Lib.hid (show ∀ i, i ≤ n → Ln (pR pW d i (pB n o)) 40000 from fun i hi => ((hl.byte n).rows (s := 5) (fun x o m k => k.win x) d i).mono (by omega))
  clear hBel hrow hb hR h hl
  go_enter Try.func20, Try.ntmps20
  go_wp2_with (go_at_call 49; (with_reducible refine HK.out.mono ?_); rintro e w1 ⟨rfl, k1⟩; have K1 := Lib.hid k1; clear k1)
  go_loopw [14] (fun y wr => ∃ i : Nat, y = .int .i64 i ∧ i ≤ n ∧ Hid (∃ R', WrR wr b R' (pR pW d i (pB n o)) ∧ Nxt w wr b R R')) (fun y _ => n - (intOf y).toNat)
  case atStart => exact ⟨0, rfl, by omega, K1⟩
  case round =>
    obtain ⟨i, rfl, hi, HR⟩ := hrel
    by_cases hin : i < n
    · have i1 : (i : Int) < (n : Int) := by omega
      have i0 : (0 : Int) ≤ (i : Int) := by omega
      obtain ⟨R', hw, hx⟩ := HR.out
      obtain ⟨b', off, hA, hb', hcl⟩ := (HS.out _ _ hx).1.2 (by omega)
      have hcell := hcl i hin
      have hnx : pR pW d (i + 1) (pB n o) = pW (d i) (pR pW d i (pB n o)) := rfl
      have HNX := Lib.hid hnx
      have hP := pslot_any b (d i) R' (pR pW d i (pB n o)) 
      have HX := Lib.hid hx
      have HW := Lib.hid hw
      have LN := HLN.out i (by omega)
      subst hA
      clear hcl hnx hx hw HR
      generalize pR pW d i (pB n o) = oi at hP HNX HW LN
      obtain ⟨x, hxx⟩ : ∃ x, x = d i := ⟨_, rfl⟩
      rw [← hxx] at hcell hP HNX
      replace hxx := Lib.hid hxx
      obtain ⟨x0, x1, x2⟩ := x
      obtain ⟨c0, c1, c2⟩ := hcell
      simp only at c0 c1 c2
      have HP := Lib.hid (show ∀ W, WrR W b R' oi → Calls Try.prog 21 #[.pointer (some ⟨b, 0, none⟩), .agg #[.int .i64 x0, .int .i64 x1, .int .i64 x2]] W (StepR W b R' (pW ⟨x0, x1, x2⟩ oi)) from fun W k => hP W k LN)
      have HAL := Lib.hid (show WrR (wr.alloc (.cells #[.int .i64 x0, .int .i64 x1, .int .i64 x2] 53)) b R' oi from HW.out.alloc _)
      clear hP LN
      go_wp2_with (go_at_call 21; (with_reducible refine (HP.out _ HAL.out).mono ?_); rintro e w2 ⟨rfl, k2⟩; have K2 := Lib.hid k2; clear k2)
      go_roundw
      case rel =>
        obtain ⟨R2, q1, q2⟩ := K2.out
        exact ⟨i + 1, by go_num, by omega, Lib.hid ⟨R2, by rw [HNX.out]; exact q1, HX.out.trans ((Nxt.alloc _ _ _ _).trans q2)⟩⟩
      case measure => simp [intOf] <;> omega
    · obtain rfl : i = n := by omega
      have i1 : ¬ (i : Int) < (i : Int) := by omega
      go_wp2
      go_end0
      exact ⟨rfl, HR.out⟩
set_option maxHeartbeats 1600000 in
theorem prcli_any (wB : World) (b : Nat) (A : Option Addr) (n cap : Nat) (d : Nat → Cl) (R : Option Nat) (o : Wo) (w : World) (hBel : Below wB.heap.size wB w) (hrow : RowC wB A n d) (hb : wB.heap.size ≤ b) (hR : ∀ k, R = some k → wB.heap.size ≤ k) (h : WrR w b R o) (hl : Ln o 20000) (hn : n ≤ 1000) :
    Calls Try.prog 22 #[.pointer (some ⟨b, 0, none⟩), .slice A n cap, .func (.func 23) #[] #[]] w (StepR w b R (pR pC d n (pB n o))) := by
  have HK := Lib.hid (wbyter b n R o w h (fun l e => by have := hl l e; omega))
  have HS := Lib.hid (show ∀ R1 w1, Nxt w w1 b R R1 → RowC w1 A n d ∧ Below wB.heap.size wB w1 from fun R1 w1 k => by
    have k1 := (k.below hBel.size hb hR).1
    exact ⟨hrow.grown (only_of_below (hBel.trans k1)), hBel.trans k1⟩)
  have HLN := Lib.hid (show ∀ i, i ≤ n → Ln (pR pC d i (pB n o)) 40000 from fun i hi => ((hl.byte n).rows (s := 14) (fun x o m k => k.cli x) d i).mono (by omega))
  clear hBel hrow hb hR h hl
  go_enter Try.func22, Try.ntmps22
  go_wp2_with (go_at_call 49; (with_reducible refine HK.out.mono ?_); rintro e w1 ⟨rfl, k1⟩; have K1 := Lib.hid k1; clear k1)
  go_loopw [14] (fun y wr => ∃ i : Nat, y = .int .i64 i ∧ i ≤ n ∧ Hid (∃ R', WrR wr b R' (pR pC d i (pB n o)) ∧ Nxt w wr b R R')) (fun y _ => n - (intOf y).toNat)
  case atStart => exact ⟨0, rfl, by omega, K1⟩
  case round =>
    obtain ⟨i, rfl, hi, HR⟩ := hrel
    by_cases hin : i < n
    · have i1 : (i : Int) < (n : Int) := by omega
      have i0 : (0 : Int) ≤ (i : Int) := by omega
      obtain ⟨R', hw, hx⟩ := HR.out
      obtain ⟨b', off, hA, hb', hcl⟩ := (HS.out _ _ hx).1.2 (by omega)
      have hcell := hcl i hin
      have hnx : pR pC d (i + 1) (pB n o) = pC (d i) (pR pC d i (pB n o)) := rfl
      have HNX := Lib.hid hnx
      have hP := pcli_any b (d i) R' (pR pC d i (pB n o)) 
      have HX := Lib.hid hx
      have HW := Lib.hid hw
      have LN := HLN.out i (by omega)
      subst hA
      clear hcl hnx hx hw HR
      generalize pR pC d i (pB n o) = oi at hP HNX HW LN
      obtain ⟨x, hxx⟩ : ∃ x, x = d i := ⟨_, rfl⟩
      rw [← hxx] at hcell hP HNX
      replace hxx := Lib.hid hxx
      obtain ⟨x0, x1, x2, x3, x4, x5, x6, x7, x8, x9⟩ := x
      obtain ⟨c0, c1, c2, c3, c4, c5, c6, c7, c8, c9⟩ := hcell
      simp only at c0 c1 c2 c3 c4 c5 c6 c7 c8 c9
      have HP := Lib.hid (show ∀ W, WrR W b R' oi → Calls Try.prog 23 #[.pointer (some ⟨b, 0, none⟩), .agg #[.int .i64 x0, .int .i64 x1, .int .i64 x2, .int .i64 x3, .int .i64 x4, .int .i64 x5, .int .i64 x6, .int .i64 x7, .int .i64 x8, .int .i64 x9]] W (StepR W b R' (pC ⟨x0, x1, x2, x3, x4, x5, x6, x7, x8, x9⟩ oi)) from fun W k => hP W k LN)
      have HAL := Lib.hid (show WrR (wr.alloc (.cells #[.int .i64 x0, .int .i64 x1, .int .i64 x2, .int .i64 x3, .int .i64 x4, .int .i64 x5, .int .i64 x6, .int .i64 x7, .int .i64 x8, .int .i64 x9] 57)) b R' oi from HW.out.alloc _)
      clear hP LN
      go_wp2_with (go_at_call 23; (with_reducible refine (HP.out _ HAL.out).mono ?_); rintro e w2 ⟨rfl, k2⟩; have K2 := Lib.hid k2; clear k2)
      go_roundw
      case rel =>
        obtain ⟨R2, q1, q2⟩ := K2.out
        exact ⟨i + 1, by go_num, by omega, Lib.hid ⟨R2, by rw [HNX.out]; exact q1, HX.out.trans ((Nxt.alloc _ _ _ _).trans q2)⟩⟩
      case measure => simp [intOf] <;> omega
    · obtain rfl : i = n := by omega
      have i1 : ¬ (i : Int) < (i : Int) := by omega
      go_wp2
      go_end0
      exact ⟨rfl, HR.out⟩
end Go.Proofs.Ytjmdcmcheiagjaa

/- Tables as1 bytes: the program's Print, by its contract. -/
namespace Go.Proofs.Ytjmdcmcheiagjaa
open Go.RowKit Go.Lib Go.Sort
set_option linter.unusedVariables false

theorem werrr (b : Nat) (R : Option Nat) (o : Wo) (w : World) (h : WrR w b R o) :
    Calls Try.prog 24 #[.pointer (some ⟨b, 0, none⟩)] w fun r w' => r = .returned (.int .i64 (errOf o)) ∧ w = w' := by
  have key : ∀ e : Int, w.cell? ⟨b, 0, none⟩ = some (.int .i64 e) → Calls Try.prog 24 #[.pointer (some ⟨b, 0, none⟩)] w fun r w' => r = .returned (.int .i64 e) ∧ w = w' := by
    intro e c0
    go_enter Try.func24, Try.ntmps24
    go_wp2
    go_ret
    exact ⟨rfl, rfl⟩
  cases o with
  | none => exact key 2 (h.1.cell 0)
  | some l =>
    obtain ⟨v, hblk, _⟩ := h
    exact key 0 (hblk.cell 0)
theorem wbytesr (b : Nat) (R : Option Nat) (l : List UInt8) (w : World) (h : WrR w b R (some l)) :
    Calls Try.prog 26 #[.pointer (some ⟨b, 0, none⟩)] w fun r w' => r = .returned (.string ⟨l.toArray⟩) ∧ w = w' := by
  obtain ⟨v, hblk, hown, _⟩ := h
  have c0 : w.cell? ⟨b, 0, none⟩ = some (.int .i64 0) := hblk.cell 0
  have c1 : w.cell? ⟨b, 1, none⟩ = some v := hblk.cell 1
  obtain ⟨A1, n1, rfl⟩ := hown.form
  have hconv : (convert 42 9 (.slice A1 l.length n1)).run Try.prog w = .ok (.string ⟨l.toArray⟩) w := by
    rcases hown.2 with ⟨e, h0⟩ | ⟨g, off, cap, e, _, _, _, _, h5⟩
    · have hl : l = [] := List.eq_nil_of_length_eq_zero h0
      subst hl
      injection e with e1 e2 e3
      subst e1 e3
      rw [run_convert_bytes_nil w 42 5 Try.underlying42 Try.underlying5 _ _ 9 Try.underlying9]
      rfl
    · injection e with e1 e2 e3
      subst e1 e3
      rw [run_convert_bytes_arg (P := Try.prog) w 42 5 Try.underlying42 Try.underlying5 g off l.length n1 (l.map fun b => (b.toNat : Int)) (by simp) (by
        intro i hi
        have := h5 i (.int .u8 (l[i].toNat : Int)) (by simp [byteCells, List.getElem?_eq_getElem hi])
        rw [this]
        simp [List.getElem?_eq_getElem hi]) 9 Try.underlying9, strOfNums_bytes]
  clear hblk hown
  go_enter Try.func26, Try.ntmps26
  go_wp2_with (go_at_call 46; refine (failed_any _ _ _ _ c0).mono ?_; rintro e w' ⟨rfl, rfl⟩)
  go_ret
  exact ⟨rfl, rfl⟩
/-- Tables as1 a writer writes them. -/
def enc (c : Cf) : Wo := pR pC c.cd c.cn (pB c.cn (pR pW c.sd c.sn (pB c.sn (pR pW c.wd c.wn (pB c.wn (pT c.fr (some [67, 1])))))))
/-- Tables as1 bytes, or why they have none. -/
def imV (c : Cf) : ByteArray × Int := if 255 < c.wn ∨ 255 < c.sn ∨ 255 < c.cn then (⟨#[]⟩, 4) else match enc c with | none => (⟨#[]⟩, 2) | some l => (Cr.sealed ⟨l.toArray⟩, 0)
theorem enc_len (c : Cf) (h : c.wn ≤ 255 ∧ c.sn ≤ 255 ∧ c.cn ≤ 255) : Ln (enc c) 9000 := by
  have h0 : Ln (some [67, 1]) 2 := fun l e => by injection e with e; subst e; simp
  have h1 := (h0.two c.fr).byte c.wn
  have h2 := (h1.rows (f := pW) (s := 5) (fun x o m k => k.win x) c.wd c.wn).byte c.sn
  have h3 := (h2.rows (f := pW) (s := 5) (fun x o m k => k.win x) c.sd c.sn).byte c.cn
  exact (h3.rows (f := pC) (s := 14) (fun x o m k => k.cli x) c.cd c.cn).mono (by omega)
/-- What is kept between two calls on the writer of Print. -/
def PK (W1 W : World) (b : Nat) (o : Wo) (m : Nat) : Prop := ∃ R, WrR W b R o ∧ Below W1.heap.size W1 W ∧ (∀ k, R = some k → W1.heap.size ≤ k) ∧ Ln o m
theorem PK.step {W1 W W' : World} {b n : Nat} {R : Option Nat} {o' : Wo} {r : Ending} (hb : W1.heap.size ≤ b) (hl : Ln o' n) (h2 : Below W1.heap.size W1 W) (h3 : ∀ k, R = some k → W1.heap.size ≤ k) (k : StepR W b R o' r W') : r = .returned (.tuple #[]) ∧ PK W1 W' b o' n := by
  obtain ⟨rfl, R', k1, k2⟩ := k
  obtain ⟨k3, k4⟩ := k2.below h2.size hb h3
  exact ⟨rfl, R', k1, h2.trans k3, k4, hl⟩
theorem PK.new (W1 : World) : PK W1 (W1.alloc (.cells #[.int .i64 0, .slice none 0 0] 44)) W1.heap.size (some []) 0 :=
  ⟨none, ⟨.slice none 0 0, Blk.new _ _ _, RowZ.nil 1 _, rfl, by simp⟩, (Below.refl _ _).alloc (Nat.le_refl _) _, fun k e => (by cases e), fun l e => (by injection e with e; subst e; simp)⟩
theorem PK.far {W1 W : World} {b m : Nat} {o : Wo} (h : PK W1 W b o m) : Below W1.heap.size W1 W := by
  obtain ⟨R, _, h2, _⟩ := h
  exact h2
section
variable {W1 W : World} {b : Nat} {o : Wo}
theorem PK.text {l : List UInt8} (h : PK W1 W b (some l) 0) (hb : W1.heap.size ≤ b) (t : ByteArray) (ht0 : 0 < t.size) (ht : t.size ≤ 100) : Calls Try.prog 16 #[.pointer (some ⟨b, 0, none⟩), .string t] W fun r w' => r = .returned (.tuple #[]) ∧ PK W1 w' b (some (l ++ t.data.toList)) 100 := by
  obtain ⟨R, h1, h2, h3, h4⟩ := h
  have := (wtextr b t ht0 ht R (some l) W h1 (fun l e => by have := h4 l e; omega))
  rw [show wrNext (some l) 2 0 t = some (l ++ t.data.toList) from by simp [wrNext, stepBytes]] at this
  exact this.mono fun r w' k => PK.step hb (fun q e => by injection e with e; subst e; have := h4 l rfl; simp; omega) h2 h3 k
theorem PK.two {m : Nat} (h : PK W1 W b o m) (hb : W1.heap.size ≤ b) (hm : m ≤ 20000) (n : Int) : Calls Try.prog 17 #[.pointer (some ⟨b, 0, none⟩), .int .i64 n] W fun r w' => r = .returned (.tuple #[]) ∧ PK W1 w' b (pT n o) (m + 2) := by
  obtain ⟨R, h1, h2, h3, h4⟩ := h
  exact (wtwor b n R o W h1 (fun l e => by have := h4 l e; omega)).mono fun r w' k => PK.step hb (h4.two n) h2 h3 k
theorem PK.wins {m : Nat} (h : PK W1 W b o m) (hb : W1.heap.size ≤ b) (hm : m ≤ 20000) {A : Option Addr} {n cap : Nat} {d : Nat → W3} (hr : Row3 W1 A n d) (hn : n ≤ 255) : Calls Try.prog 18 #[.pointer (some ⟨b, 0, none⟩), .slice A n cap, .func (.func 19) #[] #[]] W fun r w' => r = .returned (.tuple #[]) ∧ PK W1 w' b (pR pW d n (pB n o)) (m + 1300) := by
  obtain ⟨R, h1, h2, h3, h4⟩ := h
  exact (prwin_any W1 b A n cap d R o W h2 hr hb h3 h1 (h4.mono hm) (by omega)).mono fun r w' k => PK.step hb (((h4.byte n).rows (s := 5) (fun x o m k => k.win x) d n).mono (by omega)) h2 h3 k
theorem PK.slots {m : Nat} (h : PK W1 W b o m) (hb : W1.heap.size ≤ b) (hm : m ≤ 20000) {A : Option Addr} {n cap : Nat} {d : Nat → W3} (hr : Row3 W1 A n d) (hn : n ≤ 255) : Calls Try.prog 20 #[.pointer (some ⟨b, 0, none⟩), .slice A n cap, .func (.func 21) #[] #[]] W fun r w' => r = .returned (.tuple #[]) ∧ PK W1 w' b (pR pW d n (pB n o)) (m + 1300) := by
  obtain ⟨R, h1, h2, h3, h4⟩ := h
  exact (prslot_any W1 b A n cap d R o W h2 hr hb h3 h1 (h4.mono hm) (by omega)).mono fun r w' k => PK.step hb (((h4.byte n).rows (s := 5) (fun x o m k => k.win x) d n).mono (by omega)) h2 h3 k
theorem PK.clis {m : Nat} (h : PK W1 W b o m) (hb : W1.heap.size ≤ b) (hm : m ≤ 20000) {A : Option Addr} {n cap : Nat} {d : Nat → Cl} (hr : RowC W1 A n d) (hn : n ≤ 255) : Calls Try.prog 22 #[.pointer (some ⟨b, 0, none⟩), .slice A n cap, .func (.func 23) #[] #[]] W fun r w' => r = .returned (.tuple #[]) ∧ PK W1 w' b (pR pC d n (pB n o)) (m + 4000) := by
  obtain ⟨R, h1, h2, h3, h4⟩ := h
  exact (prcli_any W1 b A n cap d R o W h2 hr hb h3 h1 (h4.mono hm) (by omega)).mono fun r w' k => PK.step hb (((h4.byte n).rows (s := 14) (fun x o m k => k.cli x) d n).mono (by omega)) h2 h3 k
theorem PK.err {m : Nat} (h : PK W1 W b o m) : Calls Try.prog 24 #[.pointer (some ⟨b, 0, none⟩)] W fun r w' => r = .returned (.int .i64 (errOf o)) ∧ W = w' := by
  obtain ⟨R, h1, _⟩ := h
  exact werrr b R o W h1
theorem PK.all {m : Nat} {l : List UInt8} (h : PK W1 W b (some l) m) : Calls Try.prog 26 #[.pointer (some ⟨b, 0, none⟩)] W fun r w' => r = .returned (.string ⟨l.toArray⟩) ∧ W = w' := by
  obtain ⟨R, h1, _⟩ := h
  exact wbytesr b R l W h1
end
theorem cf_cells {w : World} {g : Nat} {c : Cf} (h : BoxC w g c) : w.cell? ⟨g, 0, none⟩ = some (.int .i64 c.fr) ∧ w.cell? ⟨g, 1, none⟩ = some (.slice c.wA c.wn c.wc) ∧ w.cell? ⟨g, 2, none⟩ = some (.slice c.sA c.sn c.sc) ∧ w.cell? ⟨g, 3, none⟩ = some (.slice c.cA c.cn c.cc) := ⟨h.cell 0, h.cell 1, h.cell 2, h.cell 3⟩
set_option maxRecDepth 20000 in
set_option maxHeartbeats 1600000 in
theorem iprint_any (c : Cf) (w : World) (hc : CfV w c) : Calls Try.prog 8 #[cfv c] w fun e w' => e = .returned (.tuple #[.string (imV c).1, .int .i64 (imV c).2]) ∧ Below w.heap.size w w' := by
  obtain ⟨W1, hW, G0, hA⟩ := box1 w 26 #[.int .i64 c.fr, .slice c.wA c.wn c.wc, .slice c.sA c.sn c.sc, .slice c.cA c.cn c.cc]
  obtain ⟨k0, k1, k2, k3⟩ := cf_cells (c := c) hA
  have BX := Lib.hid (show BoxC W1 w.heap.size c from hA)
  have BL := Lib.hid hA.lt
  have HC1 := Lib.hid (hc.grown G0).1
  have HC2 := Lib.hid (hc.grown G0).2.1
  have HC3 := Lib.hid (hc.grown G0).2.2
  have B1 := Lib.hid (below_of_only G0 (Nat.le_refl _) (by simp))
  have hz : W1.heap.size = w.heap.size + 1 := by rw [hW]; simp
  have HZ := Lib.hid hz
  clear hz hc hA G0
  show Calls Try.prog 8 #[.agg #[.int .i64 c.fr, .slice c.wA c.wn c.wc, .slice c.sA c.sn c.sc, .slice c.cA c.cn c.cc]] w _
  by_cases hbig : 255 < c.wn ∨ 255 < c.sn ∨ 255 < c.cn
  · have HV := Lib.hid (show imV c = (⟨#[]⟩, 4) from by rw [imV, if_pos hbig])
    rcases Nat.lt_or_ge c.wn c.sn with a1 | a1 <;> rcases Nat.lt_or_ge c.sn c.cn with a2 | a2 <;> rcases Nat.lt_or_ge c.wn c.cn with a3 | a3
    all_goals
      first
      | (exfalso; omega)
      | (first | (have m1 : (c.wn : Int) < (c.sn : Int) := by omega) | (have m1 : ¬ (c.wn : Int) < (c.sn : Int) := by omega)
         first | (have m2 : (c.sn : Int) < (c.cn : Int) := by omega) | (have m2 : ¬ (c.sn : Int) < (c.cn : Int) := by omega)
         first | (have m3 : (c.wn : Int) < (c.cn : Int) := by omega) | (have m3 : ¬ (c.wn : Int) < (c.cn : Int) := by omega)
         try have q1 : (255 : Int) < (c.wn : Int) := by omega
         try have q2 : (255 : Int) < (c.sn : Int) := by omega
         try have q3 : (255 : Int) < (c.cn : Int) := by omega
         go_enter Try.func8, Try.ntmps8
         go_upto_region 1 with (fail)
         rw [← hW]
         clear hW
         go_wp2
         go_ret2
         rw [HV.out]
         exact ⟨rfl, B1.out⟩)
  · obtain ⟨h1, h2, h3⟩ : c.wn ≤ 255 ∧ c.sn ≤ 255 ∧ c.cn ≤ 255 := by omega
    have HV := Lib.hid (show imV c = (match enc c with | none => (⟨#[]⟩, 2) | some l => (Cr.sealed ⟨l.toArray⟩, 0)) from by rw [imV, if_neg hbig])
    have HLN := Lib.hid (enc_len c ⟨h1, h2, h3⟩)
    have P0 := Lib.hid (PK.new W1)
    rcases Nat.lt_or_ge c.wn c.sn with a1 | a1 <;> rcases Nat.lt_or_ge c.sn c.cn with a2 | a2 <;> rcases Nat.lt_or_ge c.wn c.cn with a3 | a3
    all_goals
      first
      | (exfalso; omega)
      | (first | (have m1 : (c.wn : Int) < (c.sn : Int) := by omega) | (have m1 : ¬ (c.wn : Int) < (c.sn : Int) := by omega)
         first | (have m2 : (c.sn : Int) < (c.cn : Int) := by omega) | (have m2 : ¬ (c.sn : Int) < (c.cn : Int) := by omega)
         first | (have m3 : (c.wn : Int) < (c.cn : Int) := by omega) | (have m3 : ¬ (c.wn : Int) < (c.cn : Int) := by omega)
         have n1 : ¬ (255 : Int) < (c.wn : Int) := by omega
         have n2 : ¬ (255 : Int) < (c.sn : Int) := by omega
         have n3 : ¬ (255 : Int) < (c.cn : Int) := by omega
         go_enter Try.func8, Try.ntmps8
         go_upto_region 1 with (fail)
         rw [← hW]
         clear hW
         go_upto_region 4 with (fail)
         clear k0 k1 k2 k3
         have k0 : (W1.alloc (.cells #[.int .i64 0, .slice none 0 0] 44)).cell? ⟨w.heap.size, 0, none⟩ = some (.int .i64 c.fr) := (BX.out.below P0.out.far BL.out).cell 0
         have k1 : (W1.alloc (.cells #[.int .i64 0, .slice none 0 0] 44)).cell? ⟨w.heap.size, 1, none⟩ = some (.slice c.wA c.wn c.wc) := (BX.out.below P0.out.far BL.out).cell 1
         have k2 : (W1.alloc (.cells #[.int .i64 0, .slice none 0 0] 44)).cell? ⟨w.heap.size, 2, none⟩ = some (.slice c.sA c.sn c.sc) := (BX.out.below P0.out.far BL.out).cell 2
         have k3 : (W1.alloc (.cells #[.int .i64 0, .slice none 0 0] 44)).cell? ⟨w.heap.size, 3, none⟩ = some (.slice c.cA c.cn c.cc) := (BX.out.below P0.out.far BL.out).cell 3
         go_upto_region 5 with (go_at_call 16; (with_reducible refine (PK.text P0.out (Nat.le_refl _) ⟨#[67, 1]⟩ (by decide) (by decide)).mono ?_); rintro e w1 ⟨rfl, p1⟩; have P1 := Lib.hid p1; clear p1 k0 k1 k2 k3; have k0 : w1.cell? ⟨w.heap.size, 0, none⟩ = some (.int .i64 c.fr) := (BX.out.below P1.out.far BL.out).cell 0; have k1 : w1.cell? ⟨w.heap.size, 1, none⟩ = some (.slice c.wA c.wn c.wc) := (BX.out.below P1.out.far BL.out).cell 1; have k2 : w1.cell? ⟨w.heap.size, 2, none⟩ = some (.slice c.sA c.sn c.sc) := (BX.out.below P1.out.far BL.out).cell 2; have k3 : w1.cell? ⟨w.heap.size, 3, none⟩ = some (.slice c.cA c.cn c.cc) := (BX.out.below P1.out.far BL.out).cell 3)
         go_upto_region 6 with (go_at_call 17; (with_reducible refine (PK.two P1.out (Nat.le_refl _) (by omega) c.fr).mono ?_); rintro e w2 ⟨rfl, p2⟩; have P2 := Lib.hid p2; clear p2 k0 k1 k2 k3; have k0 : w2.cell? ⟨w.heap.size, 0, none⟩ = some (.int .i64 c.fr) := (BX.out.below P2.out.far BL.out).cell 0; have k1 : w2.cell? ⟨w.heap.size, 1, none⟩ = some (.slice c.wA c.wn c.wc) := (BX.out.below P2.out.far BL.out).cell 1; have k2 : w2.cell? ⟨w.heap.size, 2, none⟩ = some (.slice c.sA c.sn c.sc) := (BX.out.below P2.out.far BL.out).cell 2; have k3 : w2.cell? ⟨w.heap.size, 3, none⟩ = some (.slice c.cA c.cn c.cc) := (BX.out.below P2.out.far BL.out).cell 3)
         go_upto_region 7 with (go_at_call 18; go_loud (with_reducible refine (PK.wins P2.out (Nat.le_refl _) (by omega) HC1.out h1).mono ?_); rintro e w3 ⟨rfl, p3⟩; have P3 := Lib.hid p3; clear p3 k0 k1 k2 k3; have k0 : w3.cell? ⟨w.heap.size, 0, none⟩ = some (.int .i64 c.fr) := (BX.out.below P3.out.far BL.out).cell 0; have k1 : w3.cell? ⟨w.heap.size, 1, none⟩ = some (.slice c.wA c.wn c.wc) := (BX.out.below P3.out.far BL.out).cell 1; have k2 : w3.cell? ⟨w.heap.size, 2, none⟩ = some (.slice c.sA c.sn c.sc) := (BX.out.below P3.out.far BL.out).cell 2; have k3 : w3.cell? ⟨w.heap.size, 3, none⟩ = some (.slice c.cA c.cn c.cc) := (BX.out.below P3.out.far BL.out).cell 3)
         go_upto_region 8 with (go_at_call 20; (with_reducible refine (PK.slots P3.out (Nat.le_refl _) (by omega) HC2.out h2).mono ?_); rintro e w4 ⟨rfl, p4⟩; have P4 := Lib.hid p4; clear p4 k0 k1 k2 k3; have k0 : w4.cell? ⟨w.heap.size, 0, none⟩ = some (.int .i64 c.fr) := (BX.out.below P4.out.far BL.out).cell 0; have k1 : w4.cell? ⟨w.heap.size, 1, none⟩ = some (.slice c.wA c.wn c.wc) := (BX.out.below P4.out.far BL.out).cell 1; have k2 : w4.cell? ⟨w.heap.size, 2, none⟩ = some (.slice c.sA c.sn c.sc) := (BX.out.below P4.out.far BL.out).cell 2; have k3 : w4.cell? ⟨w.heap.size, 3, none⟩ = some (.slice c.cA c.cn c.cc) := (BX.out.below P4.out.far BL.out).cell 3)
         go_upto_region 9 with (go_at_call 22; (with_reducible refine (PK.clis P4.out (Nat.le_refl _) (by omega) HC3.out h3).mono ?_); rintro e w5 ⟨rfl, p5⟩; have P5 := Lib.hid p5; clear p5 k0 k1 k2 k3; have k0 : w5.cell? ⟨w.heap.size, 0, none⟩ = some (.int .i64 c.fr) := (BX.out.below P5.out.far BL.out).cell 0; have k1 : w5.cell? ⟨w.heap.size, 1, none⟩ = some (.slice c.wA c.wn c.wc) := (BX.out.below P5.out.far BL.out).cell 1; have k2 : w5.cell? ⟨w.heap.size, 2, none⟩ = some (.slice c.sA c.sn c.sc) := (BX.out.below P5.out.far BL.out).cell 2; have k3 : w5.cell? ⟨w.heap.size, 3, none⟩ = some (.slice c.cA c.cn c.cc) := (BX.out.below P5.out.far BL.out).cell 3)
         have P6 := Lib.hid (show PK W1 w5 W1.heap.size (enc c) _ from P5.out)
         have BF := Lib.hid (B1.out.trans (P6.out.far.mono (by have := HZ.out; omega)))
         clear k0 k1 k2 k3 P0 P1 P2 P3 P4 P5
         cases ho : enc c
         · rw [ho] at P6 HV
           go_wp2_with (go_at_call 24; (with_reducible refine P6.out.err.mono ?_); rintro e w6 ⟨rfl, rfl⟩)
           trace_state
           go_ret2
           rw [HV.out]
           exact ⟨rfl, BF.out⟩
         · rename_i l
           rw [ho] at P6 HV HLN
           have HS := Lib.hid (fun W => seal_big ⟨l.toArray⟩ W (by have := HLN.out l rfl; show l.toArray.size ≤ 10000; simp; omega))
           go_wp2_with (first | (go_at_call 24; (with_reducible refine P6.out.err.mono ?_); rintro e w6 ⟨rfl, rfl⟩) | (go_at_call 26; (with_reducible refine P6.out.all.mono ?_); rintro e w6 ⟨rfl, rfl⟩) | (go_at_call 25; (with_reducible refine (HS.out _).mono ?_); rintro e w7 ⟨rfl, b7⟩; have B7 := Lib.hid b7; clear b7))
           go_ret2
           rw [HV.out]
           exact ⟨rfl, BF.out.trans (B7.out.mono BF.out.size)⟩)
end Go.Proofs.Ytjmdcmcheiagjaa

/- The numbers of an image, by the contract of the document's Nums. -/
namespace Go.Proofs.Ytjmdcmcheiagjaa
open Go.RowKit Go.Lib Go.Sort
set_option linter.unusedVariables false

/-- The numbers of a window, or a slot; of a client: each with how many bytes it is. -/
def rowN (x : W3) : List (Int × Int) := [(x.1, 1), (x.2.1, 2), (x.2.2, 2)]
def cliN (x : Cl) : List (Int × Int) := [(x.base, 2), (x.size, 2), (x.ring, 1), (x.at', 2), (x.quota, 1), (x.queue, 1), (x.mac, 1), (x.chan, 1), (x.first, 2), (x.secs, 1)]
def rN {α : Type} (f : α → List (Int × Int)) (d : Nat → α) : Nat → List (Int × Int)
  | 0 => []
  | n + 1 => rN f d n ++ f (d n)
def nm1 (c : Cf) : List (Int × Int) := [(67, 1), (1, 1), (c.fr, 2), (c.wn, 1)]
def nm2 (c : Cf) : List (Int × Int) := (nm1 c ++ rN rowN c.wd c.wn) ++ [((c.sn : Int), 1)]
def nm3 (c : Cf) : List (Int × Int) := (nm2 c ++ rN rowN c.sd c.sn) ++ [((c.cn : Int), 1)]
/-- All numbers of an image. -/
def nums (c : Cf) : List (Int × Int) := nm3 c ++ rN cliN c.cd c.cn
theorem rN_len {α : Type} {f : α → List (Int × Int)} {s : Nat} (hf : ∀ x, (f x).length = s) (d : Nat → α) (n : Nat) : (rN f d n).length = n * s := by
  induction n with
  | zero => simp [rN]
  | succ n ih =>
    unfold rN
    rw [List.length_append, ih, hf, Nat.add_mul, Nat.one_mul]
def nmC (L : List (Int × Int)) : List Value := L.flatMap fun x => [.int .i64 x.1, .int .i64 x.2]
theorem nmC_len (L : List (Int × Int)) : (nmC L).length = L.length * 2 := by
  induction L with
  | nil => rfl
  | cons a L ih =>
    have : nmC (a :: L) = [.int .i64 a.1, .int .i64 a.2] ++ nmC L := rfl
    rw [this, List.length_append, ih]
    simp
    omega
theorem nmC_app (L M : List (Int × Int)) : nmC (L ++ M) = nmC L ++ nmC M := List.flatMap_append
theorem nmC_one (L : List (Int × Int)) : ∀ u ∈ nmC L, u.oneCell' = true := by
  intro u hu
  simp only [nmC, List.mem_flatMap] at hu
  obtain ⟨a, _, h⟩ := hu
  simp at h
  rcases h with rfl | rfl <;> rfl
theorem num_info : (Try.prog.info? 64).map (fun i => (i.zero, i.size, i.bytes)) = some (some (.agg #[.int .i64 0, .int .i64 0]), 2, 16) := by kernel_rfl
/-- The numbers so far. -/
def NS (w : World) (c : Cf) (s : Value) (wr : World) (L : List (Int × Int)) : Prop := RowZ 2 wr s L.length (nmC L) ∧ (∀ k, s.ownBlock = some k → w.heap.size < k) ∧ BoxC wr w.heap.size c ∧ Below w.heap.size w wr
theorem ns_push {w wr w2 : World} {c : Cf} {va : Option Addr} {vc g : Nat} {L L' : List (Int × Int)} {cs : Array Value} (h : NS w c (.slice va L.length vc) wr L) (hL : L.length ≤ 100000) (g2 : wr.grownBy w2 none) (hb : Blk w2 g 64 cs) (hcs : cs.toList = nmC L') (m : Nat) (hm : L'.length = m) (hl : 0 < m ∧ m ≤ 20) :
    ∃ v' w', (Builtin.append_ #[61, 61] 61 #[.slice va L.length vc, .slice (some ⟨g, 0, none⟩) m m]).run Try.prog w2 = .ok v' w' ∧ NS w c v' w' (L ++ L') := by
  subst hm
  obtain ⟨hrow, hown, hbox, hbel⟩ := h
  obtain ⟨i0, hi0, hz0, hz1, hz2⟩ := info_parts num_info
  have hsrc : Src Try.prog 2 61 (.slice (some ⟨g, 0, none⟩) L'.length L'.length) L'.length (nmC L') w2 := Src.ofSlice _ Try.underlying61 _ _ _ _ (nmC_len L') (fun j u hu => by
    rw [addr_at, Nat.zero_add, hb.cell j, ← Array.getElem?_toList, hcs]
    exact hu) (nmC_one _)
  obtain ⟨v', w', hk, hr3, hg', ho⟩ := run_growZ (P := Try.prog) w2 61 61 64 61 L'.length hl.1 i0 _ 16 Try.underlying61 hi0 hz0 hz1 hz2 (by omega) rfl _ _ _ (hrow.grown g2) (nmC_one _) _ _ hsrc (by omega)
  have hs2 := g2.size
  have hs1 := hbel.size
  have hlt := hbox.lt
  have hbel2 := hbel.trans (below_of_only g2 hs1 (by simp))
  refine ⟨v', w', hk, ?_, fun k hk => ?_, (hbox.only g2 (by simp)).only hg' (fun e => ?_), hbel2.trans (below_of_only hg' hbel2.size (fun k hk => ?_))⟩
  · rw [nmC_app, List.length_append]
    exact hr3
  · rcases ho with ho | ho
    · exact hown k (ho ▸ hk)
    · rw [ho] at hk
      injection hk with hk
      omega
  · have := hown _ e.symm
    omega
  · have := hown k hk
    omega
theorem row16_any (x y z : Int) (W : World) : Calls Try.prog 52 #[.int .i64 x, .int .i64 y, .int .i64 z] W fun e w' => e = .returned (.slice (some ⟨W.heap.size, 0, none⟩) 3 3) ∧ W.alloc (.cells #[.int .i64 x, .int .i64 1, .int .i64 y, .int .i64 2, .int .i64 z, .int .i64 2] 64) = w' := by
  go_enter Try.func52, Try.ntmps52
  go_wp2
  go_ret
  exact ⟨rfl, rfl⟩
end Go.Proofs.Ytjmdcmcheiagjaa

/- The document's Nums, walked. -/
namespace Go.Proofs.Ytjmdcmcheiagjaa
open Go.RowKit Go.Lib Go.Sort
set_option linter.unusedVariables false

/-- What the document's Nums answers. -/
def NumsV (c : Cf) (w : World) (e : Ending) (w' : World) : Prop := ∃ A k, e = .returned (.slice A (nums c).length k) ∧ RowZ 2 w' (.slice A (nums c).length k) (nums c).length (nmC (nums c)) ∧ (∀ q, (Value.slice A (nums c).length k).ownBlock = some q → w.heap.size < q) ∧ Below w.heap.size w w'
theorem nums_len (c : Cf) : (nums c).length = 4 + c.wn * 3 + 1 + c.sn * 3 + 1 + c.cn * 10 := by
  unfold nums nm3 nm2 nm1
  simp only [List.length_append, rN_len (s := 3) (f := rowN) (fun x => rfl), rN_len (s := 10) (f := cliN) (fun x => rfl), List.length_cons, List.length_nil]
theorem nm1r_len (c : Cf) : (nm1 c ++ rN rowN c.wd c.wn).length = 4 + c.wn * 3 := by
  rw [List.length_append, rN_len (s := 3) (f := rowN) (fun x => rfl)]
  rfl
theorem nm2_len (c : Cf) : (nm2 c).length = 4 + c.wn * 3 + 1 := by
  unfold nm2
  rw [List.length_append, nm1r_len]
  rfl
theorem nm2r_len (c : Cf) : (nm2 c ++ rN rowN c.sd c.sn).length = 4 + c.wn * 3 + 1 + c.sn * 3 := by
  rw [List.length_append, rN_len (s := 3) (f := rowN) (fun x => rfl), nm2_len]
theorem nm3_len (c : Cf) : (nm3 c).length = 4 + c.wn * 3 + 1 + c.sn * 3 + 1 := by
  unfold nm3
  rw [List.length_append, nm2r_len]
  rfl
set_option maxRecDepth 40000 in
set_option maxHeartbeats 16000000 in
set_option synthInstance.maxHeartbeats 16000000 in
theorem rnums_any (c : Cf) (w : World) (hc : CfV w c) (hn : c.wn ≤ 255 ∧ c.sn ≤ 255 ∧ c.cn ≤ 255) : Calls Try.prog 27 #[cfv c] w (NumsV c w) := by
  obtain ⟨W1, hW, G0, hA⟩ := box1 w 26 #[.int .i64 c.fr, .slice c.wA c.wn c.wc, .slice c.sA c.sn c.sc, .slice c.cA c.cn c.cc]
  obtain ⟨k0, k1, k2, k3⟩ := cf_cells (c := c) hA
  have HR1 := Lib.hid hc.1
  have HR2 := Lib.hid hc.2.1
  have HR3 := Lib.hid hc.2.2
  have HLN := Lib.hid hn
  have hz : W1.heap.size = w.heap.size + 1 := by rw [hW]; simp
  have hB1 := below_of_only G0 (Nat.le_refl _) (by simp)
  have NSV : Hid (NS w c (.slice (some ⟨W1.heap.size, 0, none⟩) 4 4) (W1.alloc (.cells #[.int .i64 67, .int .i64 1, .int .i64 1, .int .i64 1, .int .i64 c.fr, .int .i64 2, .int .i64 c.wn, .int .i64 1] 64)) (nm1 c)) := Lib.hid ⟨RowZ.new W1 #[.int .i64 67, .int .i64 1, .int .i64 1, .int .i64 1, .int .i64 c.fr, .int .i64 2, .int .i64 c.wn, .int .i64 1] 64 4 (by simp [nmC, nm1]) (by simp) (by simp [nm1]) (by unfold maxLen; omega) (fun j u hu => by simpa [nmC, nm1] using hu), fun k hk => by simp [Value.ownBlock] at hk; omega, Blk.alloc hA _, hB1.alloc (by omega) _⟩
  have HFIN := Lib.hid (show ∀ s w', NS w c s w' (nm3 c ++ rN cliN c.cd c.cn) → NumsV c w (.returned s) w' from fun s w' h => by
    obtain ⟨h1, h2, h3, h4⟩ := h
    obtain ⟨A, k, rfl⟩ := h1.form
    exact ⟨A, k, rfl, h1, h2, h4⟩)
  show Calls Try.prog 27 #[.agg #[.int .i64 c.fr, .slice c.wA c.wn c.wc, .slice c.sA c.sn c.sc, .slice c.cA c.cn c.cc]] w _
  clear hc hA hz G0 hn hB1
  go_enter Try.func27, Try.ntmps27
  go_upto_region 1 with (fail)
  rw [← hW]
  clear hW
  go_wp2
  clear k0 k1 k2 k3
  go_loopw [3, 4] (fun s y wr => ∃ i : Nat, y = .int .i64 i ∧ i ≤ c.wn ∧ Hid (NS w c s wr (nm1 c ++ rN rowN c.wd i))) (fun s y _ => c.wn - (intOf y).toNat)
  case atStart => exact ⟨0, rfl, by omega, Lib.hid (by rw [show rN rowN c.wd 0 = [] from rfl, List.append_nil]; exact NSV.out)⟩
  case round =>
    obtain ⟨i, rfl, hi, HN⟩ := hrel
    obtain ⟨k0, k1, k2, k3⟩ := cf_cells HN.out.2.2.1
    by_cases hin : i < c.wn
    · have i1 : (i : Int) < (c.wn : Int) := by omega
      have i0 : (0 : Int) ≤ (i : Int) := by omega
      have i255 : i < 1000 := by have := HLN.out; omega
      obtain ⟨b', off, hA, hb', hcl⟩ := HR1.out.2 (by omega)
      have hcw := hcl i hin
      have hnx : rN rowN c.wd (i + 1) = rN rowN c.wd i ++ rowN (c.wd i) := rfl
      rw [hA] at k1
      have HLL := Lib.hid (show (nm1 c ++ rN rowN c.wd i).length ≤ 100000 from by
        have := HLN.out
        rw [List.length_append, rN_len (s := 3) (f := rowN) (fun x => rfl)]
        first | (have : (nm1 c).length = 4 := rfl; omega) | (have := (nm2_len c).symm; omega))
      have HNX := Lib.hid (show (nm1 c ++ rN rowN c.wd i) ++ rowN (c.wd i) = nm1 c ++ rN rowN c.wd (i + 1) from by rw [hnx, List.append_assoc])
      clear hnx
      generalize hq : nm1 c ++ rN rowN c.wd i = L at HN HLL HNX
      clear hq
      obtain ⟨x, hx⟩ : ∃ x, x = c.wd i := ⟨_, rfl⟩
      rw [← hx] at hcw HNX
      replace hx := Lib.hid hx
      obtain ⟨x0, x1, x2⟩ := x
      have HCW := Lib.hid (show w.cell? ⟨b', off + i * 3, none⟩ = some (.int .i64 x0) ∧ w.cell? ⟨b', off + i * 3 + 1, none⟩ = some (.int .i64 x1) ∧ w.cell? ⟨b', off + i * 3 + 2, none⟩ = some (.int .i64 x2) from hcw)
      clear hcw
      obtain ⟨va, vc, rfl⟩ := HN.out.1.form
      obtain ⟨v', w', hk, hns⟩ := ns_push (w := w) (c := c) (va := va) (vc := vc) (wr := wr) HN.out HLL.out (w2 := (wr.alloc (.cells #[.int .i64 x0, .int .i64 1, .int .i64 x1, .int .i64 2, .int .i64 x2, .int .i64 2] 64)).drew) (g := wr.heap.size) (L' := rowN (x0, x1, x2)) (only_drewN (only_alloc (only_refl _ _) _) 1) ((Blk.new wr _ _).drewN 1) rfl 3 rfl (by omega)
      have HK := Lib.hid hk
      have NS2 := Lib.hid hns
      have hn0 : w.heap.size < wr.heap.size := HN.out.2.2.1.lt
      clear hk hns HLL
      generalize L.length = ln at HK ⊢
      go_upto_region 5 with (fail)
      have hbw := hb'
      have HCE := Lib.hid (fun (W : World) (hW : Below w.heap.size w W) => (show W.cell? ⟨b', off + i * 3, none⟩ = some (.int .i64 x0) ∧ W.cell? ⟨b', off + i * 3 + 1, none⟩ = some (.int .i64 x1) ∧ W.cell? ⟨b', off + i * 3 + 2, none⟩ = some (.int .i64 x2) from by
        rw [hW.cell (p := ⟨b', off + i * 3, none⟩) hbw, hW.cell (p := ⟨b', off + i * 3 + 1, none⟩) hbw, hW.cell (p := ⟨b', off + i * 3 + 2, none⟩) hbw]
        exact HCW.out))
      obtain ⟨e0, e1, e2⟩ := HCE.out wr HN.out.2.2.2
      obtain ⟨y0, y1, y2⟩ := HCE.out w' NS2.out.2.2.2
      obtain ⟨m0, m1, m2, m3⟩ := cf_cells NS2.out.2.2.1
      rw [hA] at m1
      have HBW := Lib.hid (only_drewN (only_alloc (only_refl wr none) (.cells #[.int .i64 x0, .int .i64 1, .int .i64 x1, .int .i64 2, .int .i64 x2, .int .i64 2] 64)) 1)
      obtain ⟨z0, z1, z2⟩ := HCE.out _ (HN.out.2.2.2.trans (below_of_only HBW.out HN.out.2.2.2.size (by simp)))
      obtain ⟨n0, n1, n2, n3⟩ := cf_cells (HN.out.2.2.1.only HBW.out (by simp))
      rw [hA] at n1
      clear HBW hA hcl
      have sd : wr.drew.cell? ⟨w.heap.size, 1, none⟩ = some (.slice (some ⟨b', off, none⟩) c.wn c.wc) ∧ wr.drew.cell? ⟨b', off + i * 3, none⟩ = some (.int .i64 x0) ∧ wr.drew.cell? ⟨b', off + i * 3 + 1, none⟩ = some (.int .i64 x1) ∧ wr.drew.cell? ⟨b', off + i * 3 + 2, none⟩ = some (.int .i64 x2) := ⟨k1, e0, e1, e2⟩
      have sn : (wr.alloc (.cells #[.int .i64 x0, .int .i64 1, .int .i64 x1, .int .i64 2, .int .i64 x2, .int .i64 2] 64)).drew.cell? ⟨w.heap.size, 1, none⟩ = some (.slice (some ⟨b', off, none⟩) c.wn c.wc) ∧ (wr.alloc (.cells #[.int .i64 x0, .int .i64 1, .int .i64 x1, .int .i64 2, .int .i64 x2, .int .i64 2] 64)).drew.cell? ⟨b', off + i * 3, none⟩ = some (.int .i64 x0) ∧ (wr.alloc (.cells #[.int .i64 x0, .int .i64 1, .int .i64 x1, .int .i64 2, .int .i64 x2, .int .i64 2] 64)).drew.cell? ⟨b', off + i * 3 + 1, none⟩ = some (.int .i64 x1) ∧ (wr.alloc (.cells #[.int .i64 x0, .int .i64 1, .int .i64 x1, .int .i64 2, .int .i64 x2, .int .i64 2] 64)).drew.cell? ⟨b', off + i * 3 + 2, none⟩ = some (.int .i64 x2) := ⟨n1, z0, z1, z2⟩
      have sm : w'.cell? ⟨w.heap.size, 1, none⟩ = some (.slice (some ⟨b', off, none⟩) c.wn c.wc) ∧ w'.cell? ⟨b', off + i * 3, none⟩ = some (.int .i64 x0) ∧ w'.cell? ⟨b', off + i * 3 + 1, none⟩ = some (.int .i64 x1) ∧ w'.cell? ⟨b', off + i * 3 + 2, none⟩ = some (.int .i64 x2) := ⟨m1, y0, y1, y2⟩
      go_region_held3 (fun W => W.cell? ⟨w.heap.size, 1, none⟩ = some (.slice (some ⟨b', off, none⟩) c.wn c.wc) ∧ W.cell? ⟨b', off + i * 3, none⟩ = some (.int .i64 x0) ∧ W.cell? ⟨b', off + i * 3 + 1, none⟩ = some (.int .i64 x1) ∧ W.cell? ⟨b', off + i * 3 + 2, none⟩ = some (.int .i64 x2)) (first | with_reducible exact sd | with_reducible exact sn | with_reducible exact sm | go_keep) (first
        | (go_at_call 52; (with_reducible refine (row16_any _ _ _ _).mono ?_); rintro e w2 ⟨rfl, rfl⟩)
        | (with_reducible refine step_app_eq2 (v := .slice va ln vc) (xs := .slice (some ⟨wr.heap.size, 0, none⟩) 3 3) (v' := v') (w' := w') ?g1x25 (.tmp 25) (.tmp 44) 61 61 ?g2x25 ?g3x25 ?g4x25 ?g5x25 ?g6x25
           case g1x25 => rfl
           case g2x25 => rfl
           case g3x25 => exact HK.out
           case g4x25 => rfl
           case g5x25 => rfl)
        | fail "q")
      clear k0 k1 k2 k3 e0 e1 e2 y0 y1 y2 m0 m1 m2 m3 z0 z1 z2 n0 n1 n2 n3 sd sn sm
      go_wp2
      go_roundw
      case rel => exact ⟨i + 1, by go_num, by omega, Lib.hid (by rw [← HNX.out]; exact NS2.out)⟩
      case measure => simp [intOf] <;> omega
    · obtain rfl : i = c.wn := by omega
      have i1 : ¬ (c.wn : Int) < (c.wn : Int) := by omega
      obtain ⟨va, vc, rfl⟩ := HN.out.1.form
      obtain ⟨v', w', hk, hns⟩ := ns_push (w := w) (c := c) (va := va) (vc := vc) (wr := wr) HN.out (by have := nm1r_len c; have := HLN.out; omega) (w2 := wr.alloc (.cells #[.int .i64 c.sn, .int .i64 1] 64)) (g := wr.heap.size) (L' := [((c.sn : Int), 1)]) (only_alloc (only_refl _ _) _) (Blk.new wr _ _) rfl 1 rfl (by omega)
      have HK := Lib.hid hk
      have NSV := Lib.hid (show NS w c v' w' (nm2 c) from hns)
      clear hk hns HN
      generalize List.length _ = ln at HK ⊢
      go_upto_region 7 with (at_builtin; refine wpList_append_eq rfl (.tmp 46) (.tmp 51) 61 rfl HK.out rfl rfl ?_)
      clear k0 k1 k2 k3 HK
      go_wp2
      go_loopw [3, 5] (fun s y wr => ∃ i : Nat, y = .int .i64 i ∧ i ≤ c.sn ∧ Hid (NS w c s wr (nm2 c ++ rN rowN c.sd i))) (fun s y _ => c.sn - (intOf y).toNat)
      case atStart => exact ⟨0, rfl, by omega, Lib.hid (by rw [show rN rowN c.sd 0 = [] from rfl, List.append_nil]; exact NSV.out)⟩
      case round =>
        obtain ⟨i, rfl, hi, HN⟩ := hrel
        obtain ⟨k0, k1, k2, k3⟩ := cf_cells HN.out.2.2.1
        by_cases hin : i < c.sn
        · have i1 : (i : Int) < (c.sn : Int) := by omega
          have i0 : (0 : Int) ≤ (i : Int) := by omega
          have i255 : i < 1000 := by have := HLN.out; omega
          obtain ⟨b', off, hA, hb', hcl⟩ := HR2.out.2 (by omega)
          have hcw := hcl i hin
          have hnx : rN rowN c.sd (i + 1) = rN rowN c.sd i ++ rowN (c.sd i) := rfl
          rw [hA] at k2
          have HLL := Lib.hid (show (nm2 c ++ rN rowN c.sd i).length ≤ 100000 from by
            have := HLN.out
            rw [List.length_append, rN_len (s := 3) (f := rowN) (fun x => rfl)]
            first | (have : (nm2 c).length = 4 := rfl; omega) | (have := (nm2_len c).symm; omega))
          have HNX := Lib.hid (show (nm2 c ++ rN rowN c.sd i) ++ rowN (c.sd i) = nm2 c ++ rN rowN c.sd (i + 1) from by rw [hnx, List.append_assoc])
          clear hnx
          generalize hq : nm2 c ++ rN rowN c.sd i = L at HN HLL HNX
          clear hq
          obtain ⟨x, hx⟩ : ∃ x, x = c.sd i := ⟨_, rfl⟩
          rw [← hx] at hcw HNX
          replace hx := Lib.hid hx
          obtain ⟨x0, x1, x2⟩ := x
          have HCW := Lib.hid (show w.cell? ⟨b', off + i * 3, none⟩ = some (.int .i64 x0) ∧ w.cell? ⟨b', off + i * 3 + 1, none⟩ = some (.int .i64 x1) ∧ w.cell? ⟨b', off + i * 3 + 2, none⟩ = some (.int .i64 x2) from hcw)
          clear hcw
          obtain ⟨va, vc, rfl⟩ := HN.out.1.form
          obtain ⟨v', w', hk, hns⟩ := ns_push (w := w) (c := c) (va := va) (vc := vc) (wr := wr) HN.out HLL.out (w2 := (wr.alloc (.cells #[.int .i64 x0, .int .i64 1, .int .i64 x1, .int .i64 2, .int .i64 x2, .int .i64 2] 64)).drew) (g := wr.heap.size) (L' := rowN (x0, x1, x2)) (only_drewN (only_alloc (only_refl _ _) _) 1) ((Blk.new wr _ _).drewN 1) rfl 3 rfl (by omega)
          have HK := Lib.hid hk
          have NS2 := Lib.hid hns
          have hn0 : w.heap.size < wr.heap.size := HN.out.2.2.1.lt
          clear hk hns HLL
          generalize L.length = ln at HK ⊢
          go_upto_region 10 with (fail)
          have hbw := hb'
          have HCE := Lib.hid (fun (W : World) (hW : Below w.heap.size w W) => (show W.cell? ⟨b', off + i * 3, none⟩ = some (.int .i64 x0) ∧ W.cell? ⟨b', off + i * 3 + 1, none⟩ = some (.int .i64 x1) ∧ W.cell? ⟨b', off + i * 3 + 2, none⟩ = some (.int .i64 x2) from by
            rw [hW.cell (p := ⟨b', off + i * 3, none⟩) hbw, hW.cell (p := ⟨b', off + i * 3 + 1, none⟩) hbw, hW.cell (p := ⟨b', off + i * 3 + 2, none⟩) hbw]
            exact HCW.out))
          obtain ⟨e0, e1, e2⟩ := HCE.out wr HN.out.2.2.2
          obtain ⟨y0, y1, y2⟩ := HCE.out w' NS2.out.2.2.2
          obtain ⟨m0, m1, m2, m3⟩ := cf_cells NS2.out.2.2.1
          rw [hA] at m2
          have HBW := Lib.hid (only_drewN (only_alloc (only_refl wr none) (.cells #[.int .i64 x0, .int .i64 1, .int .i64 x1, .int .i64 2, .int .i64 x2, .int .i64 2] 64)) 1)
          obtain ⟨z0, z1, z2⟩ := HCE.out _ (HN.out.2.2.2.trans (below_of_only HBW.out HN.out.2.2.2.size (by simp)))
          obtain ⟨n0, n1, n2, n3⟩ := cf_cells (HN.out.2.2.1.only HBW.out (by simp))
          rw [hA] at n2
          clear HBW hA hcl
          have sd : wr.drew.cell? ⟨w.heap.size, 2, none⟩ = some (.slice (some ⟨b', off, none⟩) c.sn c.sc) ∧ wr.drew.cell? ⟨b', off + i * 3, none⟩ = some (.int .i64 x0) ∧ wr.drew.cell? ⟨b', off + i * 3 + 1, none⟩ = some (.int .i64 x1) ∧ wr.drew.cell? ⟨b', off + i * 3 + 2, none⟩ = some (.int .i64 x2) := ⟨k2, e0, e1, e2⟩
          have sn : (wr.alloc (.cells #[.int .i64 x0, .int .i64 1, .int .i64 x1, .int .i64 2, .int .i64 x2, .int .i64 2] 64)).drew.cell? ⟨w.heap.size, 2, none⟩ = some (.slice (some ⟨b', off, none⟩) c.sn c.sc) ∧ (wr.alloc (.cells #[.int .i64 x0, .int .i64 1, .int .i64 x1, .int .i64 2, .int .i64 x2, .int .i64 2] 64)).drew.cell? ⟨b', off + i * 3, none⟩ = some (.int .i64 x0) ∧ (wr.alloc (.cells #[.int .i64 x0, .int .i64 1, .int .i64 x1, .int .i64 2, .int .i64 x2, .int .i64 2] 64)).drew.cell? ⟨b', off + i * 3 + 1, none⟩ = some (.int .i64 x1) ∧ (wr.alloc (.cells #[.int .i64 x0, .int .i64 1, .int .i64 x1, .int .i64 2, .int .i64 x2, .int .i64 2] 64)).drew.cell? ⟨b', off + i * 3 + 2, none⟩ = some (.int .i64 x2) := ⟨n2, z0, z1, z2⟩
          have sm : w'.cell? ⟨w.heap.size, 2, none⟩ = some (.slice (some ⟨b', off, none⟩) c.sn c.sc) ∧ w'.cell? ⟨b', off + i * 3, none⟩ = some (.int .i64 x0) ∧ w'.cell? ⟨b', off + i * 3 + 1, none⟩ = some (.int .i64 x1) ∧ w'.cell? ⟨b', off + i * 3 + 2, none⟩ = some (.int .i64 x2) := ⟨m2, y0, y1, y2⟩
          go_region_held3 (fun W => W.cell? ⟨w.heap.size, 2, none⟩ = some (.slice (some ⟨b', off, none⟩) c.sn c.sc) ∧ W.cell? ⟨b', off + i * 3, none⟩ = some (.int .i64 x0) ∧ W.cell? ⟨b', off + i * 3 + 1, none⟩ = some (.int .i64 x1) ∧ W.cell? ⟨b', off + i * 3 + 2, none⟩ = some (.int .i64 x2)) (first | with_reducible exact sd | with_reducible exact sn | with_reducible exact sm | go_keep) (first
            | (go_at_call 52; (with_reducible refine (row16_any _ _ _ _).mono ?_); rintro e w2 ⟨rfl, rfl⟩)
            | (with_reducible refine step_app_eq2 (v := .slice va ln vc) (xs := .slice (some ⟨wr.heap.size, 0, none⟩) 3 3) (v' := v') (w' := w') ?g1x60 (.tmp 60) (.tmp 79) 61 61 ?g2x60 ?g3x60 ?g4x60 ?g5x60 ?g6x60
               case g1x60 => rfl
               case g2x60 => rfl
               case g3x60 => exact HK.out
               case g4x60 => rfl
               case g5x60 => rfl)
            | fail "q")
          clear k0 k1 k2 k3 e0 e1 e2 y0 y1 y2 m0 m1 m2 m3 z0 z1 z2 n0 n1 n2 n3 sd sn sm
          go_wp2
          go_roundw
          case rel => exact ⟨i + 1, by go_num, by omega, Lib.hid (by rw [← HNX.out]; exact NS2.out)⟩
          case measure => simp [intOf] <;> omega
        · obtain rfl : i = c.sn := by omega
          have i1 : ¬ (c.sn : Int) < (c.sn : Int) := by omega
          obtain ⟨va, vc, rfl⟩ := HN.out.1.form
          obtain ⟨v', w', hk, hns⟩ := ns_push (w := w) (c := c) (va := va) (vc := vc) (wr := wr) HN.out (by have := nm2r_len c; have := HLN.out; omega) (w2 := wr.alloc (.cells #[.int .i64 c.cn, .int .i64 1] 64)) (g := wr.heap.size) (L' := [((c.cn : Int), 1)]) (only_alloc (only_refl _ _) _) (Blk.new wr _ _) rfl 1 rfl (by omega)
          have HK := Lib.hid hk
          have NSV := Lib.hid (show NS w c v' w' (nm3 c) from hns)
          clear hk hns HN
          generalize List.length _ = ln at HK ⊢
          go_upto_region 12 with (at_builtin; refine wpList_append_eq rfl (.tmp 81) (.tmp 86) 61 rfl HK.out rfl rfl ?_)
          clear k0 k1 k2 k3 HK
          go_wp2
          go_loopw [3, 6] (fun s y wr => ∃ i : Nat, y = .int .i64 i ∧ i ≤ c.cn ∧ Hid (NS w c s wr (nm3 c ++ rN cliN c.cd i))) (fun s y _ => c.cn - (intOf y).toNat)
          case atStart => exact ⟨0, rfl, by omega, Lib.hid (by rw [show rN cliN c.cd 0 = [] from rfl, List.append_nil]; exact NSV.out)⟩
          case round =>
            obtain ⟨i, rfl, hi, HN⟩ := hrel
            obtain ⟨k0, k1, k2, k3⟩ := cf_cells HN.out.2.2.1
            by_cases hin : i < c.cn
            · have i1 : (i : Int) < (c.cn : Int) := by omega
              have i0 : (0 : Int) ≤ (i : Int) := by omega
              have i255 : i < 1000 := by have := HLN.out; omega
              obtain ⟨b', off, hA, hb', hcl⟩ := (HR3.out.grown (only_of_below HN.out.2.2.2)).2 (by omega)
              obtain ⟨e0, e1, e2, e3, e4, e5, e6, e7, e8, e9⟩ := hcl i hin
              have hnx : rN cliN c.cd (i + 1) = rN cliN c.cd i ++ cliN (c.cd i) := rfl
              rw [hA] at k3
              clear hA
              have HLL := Lib.hid (show (nm3 c ++ rN cliN c.cd i).length ≤ 100000 from by
                have := HLN.out
                rw [List.length_append, rN_len (s := 10) (f := cliN) (fun x => rfl)]
                have := nm3_len c
                omega)
              have HNX := Lib.hid (show (nm3 c ++ rN cliN c.cd i) ++ cliN (c.cd i) = nm3 c ++ rN cliN c.cd (i + 1) from by rw [hnx, List.append_assoc])
              clear hcl hnx
              generalize hq : nm3 c ++ rN cliN c.cd i = L at HN HLL HNX
              clear hq
              obtain ⟨x, hx⟩ : ∃ x, x = c.cd i := ⟨_, rfl⟩
              rw [← hx] at e0 e1 e2 e3 e4 e5 e6 e7 e8 e9 HNX
              replace hx := Lib.hid hx
              obtain ⟨x0, x1, x2, x3, x4, x5, x6, x7, x8, x9⟩ := x
              simp only at e0 e1 e2 e3 e4 e5 e6 e7 e8 e9
              obtain ⟨va, vc, rfl⟩ := HN.out.1.form
              obtain ⟨v', w', hk, hns⟩ := ns_push (w := w) (c := c) (va := va) (vc := vc) (wr := wr) HN.out HLL.out (w2 := (wr.alloc (.cells #[.int .i64 x0, .int .i64 x1, .int .i64 x2, .int .i64 x3, .int .i64 x4, .int .i64 x5, .int .i64 x6, .int .i64 x7, .int .i64 x8, .int .i64 x9] 57)).alloc (.cells #[.int .i64 x0, .int .i64 2, .int .i64 x1, .int .i64 2, .int .i64 x2, .int .i64 1, .int .i64 x3, .int .i64 2, .int .i64 x4, .int .i64 1, .int .i64 x5, .int .i64 1, .int .i64 x6, .int .i64 1, .int .i64 x7, .int .i64 1, .int .i64 x8, .int .i64 2, .int .i64 x9, .int .i64 1] 64)) (g := wr.heap.size + 1) (L' := cliN ⟨x0, x1, x2, x3, x4, x5, x6, x7, x8, x9⟩) (only_alloc (only_alloc (only_refl _ _) _) _) (by have := Blk.new (wr.alloc (.cells #[.int .i64 x0, .int .i64 x1, .int .i64 x2, .int .i64 x3, .int .i64 x4, .int .i64 x5, .int .i64 x6, .int .i64 x7, .int .i64 x8, .int .i64 x9] 57)) 64 #[.int .i64 x0, .int .i64 2, .int .i64 x1, .int .i64 2, .int .i64 x2, .int .i64 1, .int .i64 x3, .int .i64 2, .int .i64 x4, .int .i64 1, .int .i64 x5, .int .i64 1, .int .i64 x6, .int .i64 1, .int .i64 x7, .int .i64 1, .int .i64 x8, .int .i64 2, .int .i64 x9, .int .i64 1]; simpa using this) rfl 10 rfl (by omega)
              have HK := Lib.hid hk
              have NS2 := Lib.hid hns
              have hn0 : w.heap.size < wr.heap.size := HN.out.2.2.1.lt
              clear hk hns HLL
              generalize L.length = ln at HK ⊢
              go_wp2_with (at_builtin; refine wpList_append_eq rfl (.tmp 100) (.tmp 131) 61 rfl HK.out rfl rfl ?_)
              go_roundw
              case rel => exact ⟨i + 1, by go_num, by omega, Lib.hid (by rw [← HNX.out]; exact NS2.out)⟩
              case measure => simp [intOf] <;> omega
            · obtain rfl : i = c.cn := by omega
              have i1 : ¬ (c.cn : Int) < (c.cn : Int) := by omega
              go_wp2
              go_ret
              exact HFIN.out _ _ HN.out

end Go.Proofs.Ytjmdcmcheiagjaa

/- Numbers as1 bytes, one behind the other; what the writer wrote is what they say. -/
namespace Go.Proofs.Ytjmdcmcheiagjaa
open Go.RowKit Go.Lib Go.Sort
set_option linter.unusedVariables false

/-- One number written. -/
def stp (x : Int × Int) (o : Wo) : Wo := if x.2 = 1 then pB x.1 o else pT x.1 o
def encL : List (Int × Int) → Wo → Wo
  | [], o => o
  | x :: L, o => encL L (stp x o)
theorem encL_app (L M : List (Int × Int)) (o : Wo) : encL (L ++ M) o = encL M (encL L o) := by
  induction L generalizing o with
  | nil => rfl
  | cons x L ih => exact ih _
theorem encL_none (L : List (Int × Int)) : encL L none = none := by
  induction L with
  | nil => rfl
  | cons x L ih =>
    have h : stp x none = none := by
      unfold stp pB pT wrNext
      split <;> rfl
    show encL L (stp x none) = none
    rw [h, ih]
theorem encL_rows (d : Nat → W3) (n : Nat) (o : Wo) : encL (rN rowN d n) o = pR pW d n o := by
  induction n with
  | zero => rfl
  | succ n ih =>
    show encL (rN rowN d n ++ rowN (d n)) o = pW (d n) (pR pW d n o)
    rw [encL_app, ih]
    rfl
theorem encL_clis (d : Nat → Cl) (n : Nat) (o : Wo) : encL (rN cliN d n) o = pR pC d n o := by
  induction n with
  | zero => rfl
  | succ n ih =>
    show encL (rN cliN d n ++ cliN (d n)) o = pC (d n) (pR pC d n o)
    rw [encL_app, ih]
    rfl
theorem enc_nums (c : Cf) : enc c = encL (nums c) (some []) := by
  have h1 : encL (nm1 c) (some []) = pB c.wn (pT c.fr (some [67, 1])) := by
    have e1 : pB 67 (some []) = some [67] := by decide
    have e2 : pB 1 (some [67]) = some [67, 1] := by decide
    show pB c.wn (pT c.fr (pB 1 (pB 67 (some [])))) = _
    rw [e1, e2]
  unfold nums nm3 nm2 enc
  rw [encL_app, encL_app, encL_app, encL_app, encL_app, h1, encL_rows, encL_rows, encL_clis]
  rfl
/-- A number that its bytes can't tell. -/
def badN (x : Int × Int) : Prop := x.1 < 0 ∨ (x.2 = 1 ∧ 255 < x.1) ∨ 65535 < x.1
theorem stp_bad {x : Int × Int} (h : badN x) (hx : x.2 = 1 ∨ x.2 = 2) (o : Wo) : stp x o = none := by
  unfold stp
  rcases hx with e | e
  · rw [if_pos e]
    cases o with
    | none => rfl
    | some l =>
      have : ¬ (0 ≤ x.1 ∧ x.1 ≤ 255) := by unfold badN at h; omega
      simp [pB, wrNext, stepBytes, this]
  · rw [if_neg (by omega)]
    cases o with
    | none => rfl
    | some l =>
      have : ¬ (0 ≤ x.1 ∧ x.1 ≤ 65535) := by unfold badN at h; omega
      simp [pT, wrNext, stepBytes, this]
theorem stp_one {x : Int × Int} (h : ¬ badN x) (e : x.2 = 1) (l : List UInt8) : stp x (some l) = some (l ++ ((Bt.put x.1).extract 0 1).data.toList) := by
  have h1 : 0 ≤ x.1 ∧ x.1 ≤ 255 := by unfold badN at h; omega
  have h2 : ((Bt.put x.1).extract 0 1).data.toList = [UInt8.ofNat (x.1 % 256).toNat] := by
    simp [Bt.put, ByteArray.extract, ByteArray.copySlice]
  rw [h2, show x.1 % 256 = x.1 by omega]
  unfold stp
  rw [if_pos e]
  simp [pB, wrNext, stepBytes, h1]
theorem stp_two {x : Int × Int} (h : ¬ badN x) (e : x.2 = 2) (l : List UInt8) : stp x (some l) = some (l ++ ((Bt.put x.1).extract 0 2).data.toList) := by
  have h1 : 0 ≤ x.1 ∧ x.1 ≤ 65535 := by unfold badN at h; omega
  have h2 : ((Bt.put x.1).extract 0 2).data.toList = (Bt.put x.1).data.toList := by
    simp [Bt.put, ByteArray.extract, ByteArray.copySlice]
  rw [h2]
  unfold stp
  rw [if_neg (by omega)]
  simp [pT, wrNext, stepBytes, h1]
theorem rowN_two (x : W3) : ∀ y ∈ rowN x, y.2 = 1 ∨ y.2 = 2 := by
  intro y hy
  simp [rowN] at hy
  rcases hy with rfl | rfl | rfl <;> simp
theorem cliN_two (x : Cl) : ∀ y ∈ cliN x, y.2 = 1 ∨ y.2 = 2 := by
  intro y hy
  simp [cliN] at hy
  rcases hy with rfl | rfl | rfl | rfl | rfl | rfl | rfl | rfl | rfl | rfl <;> simp
theorem rN_two {α : Type} {f : α → List (Int × Int)} (hf : ∀ x, ∀ y ∈ f x, y.2 = 1 ∨ y.2 = 2) (d : Nat → α) (n : Nat) : ∀ y ∈ rN f d n, y.2 = 1 ∨ y.2 = 2 := by
  induction n with
  | zero => intro y hy; simp [rN] at hy
  | succ n ih =>
    intro y hy
    unfold rN at hy
    rcases List.mem_append.1 hy with h | h
    · exact ih y h
    · exact hf _ y h
theorem nums_two (c : Cf) : ∀ y ∈ nums c, y.2 = 1 ∨ y.2 = 2 := by
  intro y hy
  unfold nums nm3 nm2 nm1 at hy
  simp only [List.mem_append] at hy
  rcases hy with ((((h | h) | h) | h) | h) | h
  · simp at h
    rcases h with rfl | rfl | rfl | rfl <;> simp
  · exact rN_two rowN_two _ _ y h
  · simp at h
    subst h
    simp
  · exact rN_two rowN_two _ _ y h
  · simp at h
    subst h
    simp
  · exact rN_two cliN_two _ _ y h
theorem encL_take {L : List (Int × Int)} {i : Nat} (hi : i < L.length) (o : Wo) : encL (L.take (i + 1)) o = stp L[i] (encL (L.take i) o) := by
  rw [List.take_succ_eq_append_getElem hi, encL_app]
  rfl
theorem encL_stop {L : List (Int × Int)} {i : Nat} (hi : i < L.length) {o : Wo} (h : stp L[i] (encL (L.take i) o) = none) : encL L o = none := by
  rw [← List.take_append_drop (i + 1) L, encL_app, encL_take hi, h, encL_none]
theorem nmC_get {L : List (Int × Int)} {i : Nat} (hi : i < L.length) : (nmC L)[i * 2]? = some (.int .i64 L[i].1) ∧ (nmC L)[i * 2 + 1]? = some (.int .i64 L[i].2) := by
  induction L generalizing i with
  | nil => simp at hi
  | cons x L ih =>
    have h : nmC (x :: L) = [.int .i64 x.1, .int .i64 x.2] ++ nmC L := rfl
    cases i with
    | zero => rw [h]; exact ⟨rfl, rfl⟩
    | succ i =>
      have := ih (i := i) (by simpa using hi)
      rw [h, show (i + 1) * 2 = i * 2 + 2 by omega, show i * 2 + 2 + 1 = (i * 2 + 1) + 2 by omega]
      simpa using this
end Go.Proofs.Ytjmdcmcheiagjaa
