/- For of the document's ports, by its contract; rows of texts that came in; frames that are not unlike. -/
import Derived.Test.YtjhihccjhnlghaaNA1
import Derived.Test.YtjhihccjhnlghaaNPO
import Derived.Deep.Strs
import Derived.BigQuiet
namespace Go.Proofs.Ytjhihccjhnlghaa
open Go.RowKit Go.Lib Go.ChangeShapes Go.WideShapes Go.ChangeAt Go.Deep
set_option linter.unusedVariables false
attribute [-go_sem] Go.run_eql_struct Go.run_neq_struct

theorem jfor_at {mk : Nat → Int} {n : Nat} {s : ByteArray} {k : Nat} (he : (Fr.paV s).2 = 0) (hk : k < n) (h : mk k = (Fr.paV s).1.1) (hb : ∀ i, i < k → mk i ≠ (Fr.paV s).1.1) : jfor mk n s = some k := by
  unfold jfor
  rw [if_pos he, List.find?_range_eq_some]
  exact ⟨by simp [h], by simp [hk], fun j hj => by simpa using hb j hj⟩
theorem jfor_out {mk : Nat → Int} {n : Nat} {s : ByteArray} (he : (Fr.paV s).2 ≠ 0) : jfor mk n s = none := by
  unfold jfor
  rw [if_neg he]
theorem jfor_no {mk : Nat → Int} {n : Nat} {s : ByteArray} (h : ∀ i, i < n → mk i ≠ (Fr.paV s).1.1) : jfor mk n s = none := by
  unfold jfor
  split
  · exact List.find?_eq_none.2 (by intro x hx; simpa using h x (by simpa using hx))
  · rfl
/-- Which port bytes are for, as a number. -/
def jZ (j : Option Nat) : Int := match j with | some k => k | none => -1

set_option maxRecDepth 20000 in
set_option maxHeartbeats 1600000 in
theorem rfor_any (A : Option Addr) (n cap : Nat) (R : Nat → Rp) (mk : Nat → Int) (s : ByteArray) (w : World) (hs : s.size ≤ 1000) (hst : PortsV w A n R) (hmk : ∀ i, i < n → (R i).2.1 = mk i) (hn : n ≤ 1000) :
    Calls Try.prog 11 #[.slice A n cap, .string s] w fun e w' => e = .returned (.int .i64 (jZ (jfor mk n s))) ∧ Below w.heap.size w w' := by
  have HP := Lib.hid (fun W => rparse_any s W hs)
  have HST := Lib.hid (fun (W : World) (hb : Below w.heap.size w W) => hst.below hb)
  have HJ1 := Lib.hid (fun k => jfor_at (mk := mk) (n := n) (s := s) (k := k))
  have HJ2 := Lib.hid (jfor_out (mk := mk) (n := n) (s := s))
  have HJ3 := Lib.hid (jfor_no (mk := mk) (n := n) (s := s))
  have HMK := Lib.hid hmk
  clear hst hmk
  generalize jfor mk n s = j at HJ1 HJ2 HJ3 ⊢
  generalize Fr.paV s = x at HP HJ1 HJ2 HJ3
  obtain ⟨⟨a, b, c⟩, e0⟩ := x
  simp only at HP HJ1 HJ2 HJ3
  by_cases he : e0 = 0
  · subst he
    go_enter Try.func11, Try.ntmps11
    go_wp2_with (go_at_call 27; with_reducible refine (HP.out _).mono ?_; rintro e w1 ⟨rfl, b1⟩; have B1 := Lib.hid (b1.alloc b1.size (.cells #[.int .i64 a, .int .i64 b, .string c] 73)); have R1 := Lib.hid (Blk.new w1 73 #[.int .i64 a, .int .i64 b, .string c]); clear b1)
    generalize hwx : w1.alloc (.cells #[.int .i64 a, .int .i64 b, .string c] 73) = wx at B1 R1 ⊢
    clear hwx
    go_loopw [7] (fun x wr => ∃ i : Nat, x = .int .i64 i ∧ i ≤ n ∧ Hid (∀ k, k < i → mk k ≠ a) ∧ Below wx.heap.size wx wr) (fun x _ => n - (intOf x).toNat)
    case atStart => exact ⟨0, rfl, by omega, Lib.hid (by intro k hk; omega), Below.refl _ _⟩
    case round =>
      obtain ⟨i, rfl, hi, HS, hb⟩ := hrel
      have HB := Lib.hid hb
      have HBW := Lib.hid (B1.out.trans (hb.mono B1.out.size))
      have hf := (R1.out.below hb R1.out.lt).cell 0
      simp at hf
      clear hb
      by_cases hin : i < n
      · obtain ⟨g, rfl, hg, hc⟩ := (HST.out wr HBW.out) (by omega)
        obtain ⟨_, c1, _, _, _⟩ := hc i hin
        rw [HMK.out i hin] at c1
        have i1 : (i : Int) < (n : Int) := by omega
        clear hc
        by_cases hm : mk i = a
        · have hj : j = some i := HJ1.out i trivial hin hm HS.out
          have HJ := Lib.hid hj
          rw [hm] at c1
          clear hj hm
          go_wp2
          go_quiet (fail)
          go_wp2
          go_ret
          exact ⟨ret_int (by rw [HJ.out]; rfl), below_drewN HBW.out _⟩
        · have HM := Lib.hid hm
          generalize mk i = mi at c1 hm
          have hm' : (mi == a) = false := by simpa using hm
          clear hm
          go_wp2
          go_quiet (fail)
          go_wp2
          go_roundw
          case rel =>
            refine ⟨i + 1, by go_num, by omega, Lib.hid fun k hk => ?_, below_drewN HB.out _⟩
            by_cases hki : k < i
            · exact HS.out k hki
            · obtain rfl : k = i := by omega
              exact HM.out
          case measure => simp [intOf] <;> omega
      · have hj : j = none := HJ3.out fun k hk => HS.out k (by omega)
        have HJ := Lib.hid hj
        have i1 : ¬ (i : Int) < (n : Int) := by omega
        clear hj
        go_wp2
        go_ret
        exact ⟨ret_int (by rw [HJ.out]; rfl), HBW.out⟩
  · have hj : j = none := HJ2.out he
    have HJ := Lib.hid hj
    have he' : (e0 == 0) = false := by simpa using he
    clear hj
    rcases Nat.eq_zero_or_pos n with hz | hz
    all_goals
      try (have i1 : (0 : Int) < (n : Int) := by omega)
      try (have i1 : ¬ (0 : Int) < (n : Int) := by omega)
      go_enter Try.func11, Try.ntmps11
      go_wp2_with (go_at_call 27; with_reducible refine (HP.out _).mono ?_; rintro e w1 ⟨rfl, b1⟩; have B1 := Lib.hid (b1.alloc b1.size (.cells #[.int .i64 a, .int .i64 b, .string c] 73)); clear b1)
      go_loop [7] (fun x => x = .int .i64 0) (fun _ => 0)
      case atStart => rfl
      case round =>
        subst hrel
        go_wp2
        go_ret
        exact ⟨ret_int (by rw [HJ.out]; rfl), B1.out⟩

/-- Texts that came in. -/
def TxtsN (w : World) (A : Option Addr) (len : Nat) (S : Nat → ByteArray) : Prop := 0 < len → ∃ b off, A = some ⟨b, off, none⟩ ∧ b < w.heap.size ∧ ∀ i, i < len → w.cell? ⟨b, off + i, none⟩ = some (.string (S i))
theorem TxtsN.below {w w' : World} {A : Option Addr} {len : Nat} {S : Nat → ByteArray} (h : TxtsN w A len S) (hb : Below w.heap.size w w') : TxtsN w' A len S := fun hp => by
  obtain ⟨b, off, e, hg, hc⟩ := h hp
  exact ⟨b, off, e, Nat.lt_of_lt_of_le hg hb.size, fun i hi => (hb.cell (p := ⟨b, _, none⟩) hg).trans (hc i hi)⟩
def AnyT (s : ByteArray) : Prop := s.size ≤ maxLen
theorem open_txts {H : Type} {enc : TypeId × Value → H} {w : World} {base : Nat} {spare : Nat → Bool} {held : Bool} {A : Option Addr} {len cap fuel : Nat} {x : DataW H × List MemPlace}
    (h : DataW.trod enc Try.prog w base spare held fuel 40 [.slice A len cap] = some x) : len ≤ cap ∧ cap ≤ 9223372036854775807 ∧ ∃ d, TxtsN w A len d ∧ ∀ i, i < len → AnyT (d i) := by
  rcases open_strs Try.underlying40 Try.underlying9 (by kernel_rfl) h with ⟨e, _⟩ | ⟨a, len', cap', m, Sx, e, hb, hl, hm, hmm, _, hc⟩
  · injection e with e _
    injection e with e1 e2 e3
    subst e2 e3
    exact ⟨by omega, by omega, fun _ => .empty, fun h => absurd h (by omega), fun i hi => absurd hi (by omega)⟩
  · injection e with e _
    injection e with e1 e2 e3
    subst e1 e2 e3
    have hlm : len ≤ m := by rw [hmm]; split <;> omega
    refine ⟨hl, by unfold maxLen at hm; omega, Sx, fun hp => ?_, fun i hi => (hc i (by omega)).2⟩
    obtain ⟨b, off, tg⟩ := a
    have h0 := (hc 0 (by omega)).1
    obtain rfl : tg = none := by
      have hs := World.cell?_spot h0
      simpa [Addr.add] using hs
    refine ⟨b, off, rfl, ?_, fun i hi => ?_⟩
    · have := (hc 0 (by omega)).1
      simp only [Addr.add, World.cell?] at this
      cases hb' : w.heap[b]? with
      | none => simp [hb'] at this
      | some o => exact (Array.getElem?_eq_some_iff.1 hb').1
    · have := (hc i (by omega)).1
      rwa [addr_at] at this

theorem ne_frm (a b : Int) (s : ByteArray) (w : World) : (binOp BinOp.neq 46 (.agg #[.int .i64 a, .int .i64 b, .string s]) (.agg #[.int .i64 a, .int .i64 b, .string s])).run Try.prog w = .ok (.bool false) w := by
  have h := eq_frm a b s w
  rw [run_eql_struct] at h
  rw [run_neq_struct]
  generalize (Op.equalIn 10000 46 (.agg #[.int .i64 a, .int .i64 b, .string s]) (.agg #[.int .i64 a, .int .i64 b, .string s])).run Try.prog w = r at h ⊢
  cases r <;> simp_all
end Go.Proofs.Ytjhihccjhnlghaa
