import Derived.Test.YtjhihccjhnlghaaZG14
import Derived.Test.YtjhihccjhnlghaaZG02
import Derived.Deep.Strs
import Derived.BigQuiet
import Derived.OrdersHeld
import Derived.Deep.RegionHeld
set_option linter.all false
/- How ports that came in are opened; what is sent comes: the law, whole. -/
namespace Go.Proofs.Ytjhihccjhnlghaa
open Go.RowKit Go.Lib Go.ChangeShapes Go.WideShapes Go.ChangeAt Go.Deep
set_option linter.unusedVariables false

def FitN (r : I3) : Prop := fitI r.1 ∧ fitI r.2.1 ∧ fitI r.2.2
/-- Ports that came in: their numbers, which fit. -/
theorem open_ports {H : Type} {enc : TypeId × Value → H} {w : World} {base : Nat} {spare : Nat → Bool} {held : Bool} {A : Option Addr} {len cap fuel : Nat} {x : DataW H × List MemPlace}
    (h : DataW.trod enc Try.prog w base spare held fuel 22 [.slice A len cap] = some x) : len ≤ cap ∧ cap ≤ 9223372036854775807 ∧ ∃ d, RowsN w A len cap d ∧ ∀ i, i < len → FitN (d i) := by
  obtain ⟨h1, h2, h3, h4⟩ := open_structs Try.underlying22 Try.underlying62 (by kernel_rfl) (by kernel_rfl) (by decide) h
  refine ⟨h1, by unfold maxLen at h2; omega, ?_⟩
  by_cases hp : 0 < len
  · obtain ⟨b, off, hA, hb, hc⟩ := h4 hp
    have hx : ∀ i, ∃ r : I3, i < len → (w.cell? ⟨b, off + i * 3, none⟩ = some (.int .i64 r.1) ∧ w.cell? ⟨b, off + i * 3 + 1, none⟩ = some (.int .i64 r.2.1) ∧ w.cell? ⟨b, off + i * 3 + 2, none⟩ = some (.int .i64 r.2.2)) ∧ FitN r := by
      intro i
      by_cases hi : i < len
      · obtain ⟨v0, n0, y0, c0, r0⟩ := hc i hi 0 _ rfl
        obtain ⟨v1, n1, y1, c1, r1⟩ := hc i hi 1 _ rfl
        obtain ⟨v2, n2, y2, c2, r2⟩ := hc i hi 2 _ rfl
        obtain ⟨p, e0, _, w0⟩ := DataW.trod_int Try.underlying3 r0
        obtain ⟨q, e1, _, w1⟩ := DataW.trod_int Try.underlying3 r1
        obtain ⟨s, e2, _, w2⟩ := DataW.trod_int Try.underlying3 r2
        injection e0 with e0 _
        injection e1 with e1 _
        injection e2 with e2 _
        subst e0 e1 e2
        exact ⟨(p, q, s), fun _ => ⟨⟨c0, c1, c2⟩, fitI_of w0, fitI_of w1, fitI_of w2⟩⟩
      · exact ⟨(0, 0, 0), fun h => absurd h hi⟩
    exact ⟨fun i => Classical.choose (hx i), ⟨fun h => h3 h, fun _ => ⟨b, off, hA, hb, fun i hi => (Classical.choose_spec (hx i) hi).1⟩⟩, fun i hi => (Classical.choose_spec (hx i) hi).2⟩
  · exact ⟨fun _ => (0, 0, 0), ⟨fun h => h3 h, fun h => absurd h hp⟩, fun i hi => absurd hi (by omega)⟩

theorem nback_call (A : Option Addr) (len cap : Nat) (d : Nat → I3) (fr to : Int) (s : ByteArray) (w : World) (hst : RowsN w A len cap d) (hf : ∀ i, i < len → FitN (d i)) (hlc : len ≤ cap) (hcm : cap ≤ 9223372036854775807) (hfr : fitI fr) (hto : fitI to) :
    Calls Try.prog 5 #[.slice A len cap, .int .i64 fr, .int .i64 to, .string s] w fun e w' => e = .returned (.bool true) ∧ Below w.heap.size w w' := by
  show Calls Try.prog 5 #[.slice A len cap, .int .i64 fr, .int .i64 to, .string s] w (BackV w)
  obtain ⟨n, hn⟩ : ∃ n, n = min len 8 := ⟨_, rfl⟩
  by_cases he : newE d n = 0
  · rcases ownI_cases (frp d) n fr with ⟨i, hi, hio, hfr⟩ | hio
    · rcases ownI_cases (frp d) n to with ⟨k, hk, hko, hto⟩ | hko
      · by_cases hs : (32 : Int) < (s.size : Int)
        · exact nback_off A len cap n d fr to s w hst hlc hcm hn (.inr (.inr (.inr ⟨he, by omega, by omega, hs⟩)))
        · by_cases hl : (d k).2.2 = 0
          · exact nback_zero A len cap n d fr to s w hst hlc hcm hn he (by omega) k hk hko hs hl
          · exact nback_on A len cap n d fr to s w hst hlc hcm hn he i hi hio hfr k hk hko hto hs hl
      · exact nback_off A len cap n d fr to s w hst hlc hcm hn (.inr (.inr (.inl ⟨he, by omega, by omega⟩)))
    · exact nback_off A len cap n d fr to s w hst hlc hcm hn (.inr (.inl ⟨he, by omega⟩))
  · exact nback_off A len cap n d fr to s w hst hlc hcm hn (.inl he)
end Go.Proofs.Ytjhihccjhnlghaa

/- For of the document's ports, by its contract; rows of texts that came in; frames that are not unlike. -/
namespace Go.Proofs.Ytjhihccjhnlghaa
open Go.RowKit Go.Lib Go.ChangeShapes Go.WideShapes Go.ChangeAt Go.Deep
set_option linter.unusedVariables false
attribute [-go_sem] Go.run_eql_struct Go.run_neq_struct

theorem jfor_at {mk : Nat → Int} {n : Nat} {s : ByteArray} {k : Nat} (he : (Fr.paV s).2 = 0) (hk : k < n) (h : mk k = (Fr.paV s).1.1) (hb : ∀ i, i < k → mk i ≠ (Fr.paV s).1.1) : jfor mk n s = some k := by
  unfold jfor
  rw [if_pos he, List.find?_range_eq_some]
  exact ⟨by simp [h], by simp [hk], fun j hj => by simpa using hb j hj⟩
theorem jfor_out {mk : Nat → Int} {n : Nat} {s : ByteArray} (he : (Fr.paV s).2 ≠ 0) : jfor mk n s = none := by
  unfold jfor
  rw [if_neg he]
theorem jfor_no {mk : Nat → Int} {n : Nat} {s : ByteArray} (h : ∀ i, i < n → mk i ≠ (Fr.paV s).1.1) : jfor mk n s = none := by
  unfold jfor
  split
  · exact List.find?_eq_none.2 (by intro x hx; simpa using h x (by simpa using hx))
  · rfl
/-- Which port bytes are for, as1 a number. -/
def jZ (j : Option Nat) : Int := match j with | some k => k | none => -1

set_option maxRecDepth 20000 in
set_option maxHeartbeats 1600000 in
theorem rfor_any (A : Option Addr) (n cap : Nat) (R : Nat → Rp) (mk : Nat → Int) (s : ByteArray) (w : World) (hs : s.size ≤ 1000) (hst : PortsV w A n R) (hmk : ∀ i, i < n → (R i).2.1 = mk i) (hn : n ≤ 1000) :
    Calls Try.prog 11 #[.slice A n cap, .string s] w fun e w' => e = .returned (.int .i64 (jZ (jfor mk n s))) ∧ Below w.heap.size w w' := by
  have HP := Lib.hid (fun W => rparse_any s W hs)
  have HST := Lib.hid (fun (W : World) (hb : Below w.heap.size w W) => hst.below hb)
  have HJ1 := Lib.hid (fun k => jfor_at (mk := mk) (n := n) (s := s) (k := k))
  have HJ2 := Lib.hid (jfor_out (mk := mk) (n := n) (s := s))
  have HJ3 := Lib.hid (jfor_no (mk := mk) (n := n) (s := s))
  have HMK := Lib.hid hmk
  clear hst hmk
  generalize jfor mk n s = j at HJ1 HJ2 HJ3 ⊢
  generalize Fr.paV s = x at HP HJ1 HJ2 HJ3
  obtain ⟨⟨a, b, c⟩, e0⟩ := x
  simp only at HP HJ1 HJ2 HJ3
  by_cases he : e0 = 0
  · subst he
    go_enter Try.func11, Try.ntmps11
    go_wp2_with (go_at_call 27; with_reducible refine (HP.out _).mono ?_; rintro e w1 ⟨rfl, b1⟩; have B1 := Lib.hid (b1.alloc b1.size (.cells #[.int .i64 a, .int .i64 b, .string c] 73)); have R1 := Lib.hid (Blk.new w1 73 #[.int .i64 a, .int .i64 b, .string c]); clear b1)
    generalize hwx : w1.alloc (.cells #[.int .i64 a, .int .i64 b, .string c] 73) = wx at B1 R1 ⊢
    clear hwx
    go_loopw [7] (fun x wr => ∃ i : Nat, x = .int .i64 i ∧ i ≤ n ∧ Hid (∀ k, k < i → mk k ≠ a) ∧ Below wx.heap.size wx wr) (fun x _ => n - (intOf x).toNat)
    case atStart => exact ⟨0, rfl, by omega, Lib.hid (by intro k hk; omega), Below.refl _ _⟩
    case round =>
      obtain ⟨i, rfl, hi, HS, hb⟩ := hrel
      have HB := Lib.hid hb
      have HBW := Lib.hid (B1.out.trans (hb.mono B1.out.size))
      have hf := (R1.out.below hb R1.out.lt).cell 0
      simp at hf
      clear hb
      by_cases hin : i < n
      · obtain ⟨g, rfl, hg, hc⟩ := (HST.out wr HBW.out) (by omega)
        obtain ⟨_, c1, _, _, _⟩ := hc i hin
        rw [HMK.out i hin] at c1
        have i1 : (i : Int) < (n : Int) := by omega
        clear hc
        by_cases hm : mk i = a
        · have hj : j = some i := HJ1.out i trivial hin hm HS.out
          have HJ := Lib.hid hj
          rw [hm] at c1
          clear hj hm
          go_wp2
          go_quiet (fail)
          go_wp2
          go_ret
          exact ⟨ret_int (by rw [HJ.out]; rfl), below_drewN HBW.out _⟩
        · have HM := Lib.hid hm
          generalize mk i = mi at c1 hm
          have hm' : (mi == a) = false := by simpa using hm
          clear hm
          go_wp2
          go_quiet (fail)
          go_wp2
          go_roundw
          case rel =>
            refine ⟨i + 1, by go_num, by omega, Lib.hid fun k hk => ?_, below_drewN HB.out _⟩
            by_cases hki : k < i
            · exact HS.out k hki
            · obtain rfl : k = i := by omega
              exact HM.out
          case measure => simp [intOf] <;> omega
      · have hj : j = none := HJ3.out fun k hk => HS.out k (by omega)
        have HJ := Lib.hid hj
        have i1 : ¬ (i : Int) < (n : Int) := by omega
        clear hj
        go_wp2
        go_ret
        exact ⟨ret_int (by rw [HJ.out]; rfl), HBW.out⟩
  · have hj : j = none := HJ2.out he
    have HJ := Lib.hid hj
    have he' : (e0 == 0) = false := by simpa using he
    clear hj
    rcases Nat.eq_zero_or_pos n with hz | hz
    all_goals
      try (have i1 : (0 : Int) < (n : Int) := by omega)
      try (have i1 : ¬ (0 : Int) < (n : Int) := by omega)
      go_enter Try.func11, Try.ntmps11
      go_wp2_with (go_at_call 27; with_reducible refine (HP.out _).mono ?_; rintro e w1 ⟨rfl, b1⟩; have B1 := Lib.hid (b1.alloc b1.size (.cells #[.int .i64 a, .int .i64 b, .string c] 73)); clear b1)
      go_loop [7] (fun x => x = .int .i64 0) (fun _ => 0)
      case atStart => rfl
      case round =>
        subst hrel
        go_wp2
        go_ret
        exact ⟨ret_int (by rw [HJ.out]; rfl), B1.out⟩

/-- Texts that came in. -/
def TxtsN (w : World) (A : Option Addr) (len : Nat) (S : Nat → ByteArray) : Prop := 0 < len → ∃ b off, A = some ⟨b, off, none⟩ ∧ b < w.heap.size ∧ ∀ i, i < len → w.cell? ⟨b, off + i, none⟩ = some (.string (S i))
theorem TxtsN.below {w w' : World} {A : Option Addr} {len : Nat} {S : Nat → ByteArray} (h : TxtsN w A len S) (hb : Below w.heap.size w w') : TxtsN w' A len S := fun hp => by
  obtain ⟨b, off, e, hg, hc⟩ := h hp
  exact ⟨b, off, e, Nat.lt_of_lt_of_le hg hb.size, fun i hi => (hb.cell (p := ⟨b, _, none⟩) hg).trans (hc i hi)⟩
def AnyT (s : ByteArray) : Prop := s.size ≤ maxLen
theorem open_txts {H : Type} {enc : TypeId × Value → H} {w : World} {base : Nat} {spare : Nat → Bool} {held : Bool} {A : Option Addr} {len cap fuel : Nat} {x : DataW H × List MemPlace}
    (h : DataW.trod enc Try.prog w base spare held fuel 40 [.slice A len cap] = some x) : len ≤ cap ∧ cap ≤ 9223372036854775807 ∧ ∃ d, TxtsN w A len d ∧ ∀ i, i < len → AnyT (d i) := by
  rcases open_strs Try.underlying40 Try.underlying9 (by kernel_rfl) h with ⟨e, _⟩ | ⟨a, len', cap', m, Sx, e, hb, hl, hm, hmm, _, hc⟩
  · injection e with e _
    injection e with e1 e2 e3
    subst e2 e3
    exact ⟨by omega, by omega, fun _ => .empty, fun h => absurd h (by omega), fun i hi => absurd hi (by omega)⟩
  · injection e with e _
    injection e with e1 e2 e3
    subst e1 e2 e3
    have hlm : len ≤ m := by rw [hmm]; split <;> omega
    refine ⟨hl, by unfold maxLen at hm; omega, Sx, fun hp => ?_, fun i hi => (hc i (by omega)).2⟩
    obtain ⟨b, off, tg⟩ := a
    have h0 := (hc 0 (by omega)).1
    obtain rfl : tg = none := by
      have hs := World.cell?_spot h0
      simpa [Addr.add] using hs
    refine ⟨b, off, rfl, ?_, fun i hi => ?_⟩
    · have := (hc 0 (by omega)).1
      simp only [Addr.add, World.cell?] at this
      cases hb' : w.heap[b]? with
      | none => simp [hb'] at this
      | some o => exact (Array.getElem?_eq_some_iff.1 hb').1
    · have := (hc i (by omega)).1
      rwa [addr_at] at this

theorem ne_frm (a b : Int) (s : ByteArray) (w : World) : (binOp BinOp.neq 46 (.agg #[.int .i64 a, .int .i64 b, .string s]) (.agg #[.int .i64 a, .int .i64 b, .string s])).run Try.prog w = .ok (.bool false) w := by
  have h := eq_frm a b s w
  rw [run_eql_struct] at h
  rw [run_neq_struct]
  generalize (Op.equalIn 10000 46 (.agg #[.int .i64 a, .int .i64 b, .string s]) (.agg #[.int .i64 a, .int .i64 b, .string s])).run Try.prog w = r at h ⊢
  cases r <;> simp_all
end Go.Proofs.Ytjhihccjhnlghaa

/- A region that draws its order, and whose last operation waits for all others: they in any order, under a condition that need not hold behind the last one; then the last one. No program is spoken of here. -/
namespace Go.Proofs.Ytjhihccjhnlghaa
open Go
set_option linter.unusedVariables false

section
variable {P : Program} {ops : Array Oper} {md : Region.Mode} {Q : Exit → Act → World → Prop} {S : World → Prop} {n : Nat}

/-- The post behind all but the last one. -/
def Ends (P : Program) (ops : Array Oper) (Q : Exit → Act → World → Prop) (n : Nat) : Exit → Act → World → Prop
  | .normal, a, w => wpOp P ops Q n (fun a' w' => Q .normal a' w') a w
  | .ret, a, w => Q .ret a w
  | .panic c, a, w => Q (.panic c) a w
  | .outgrown, a, w => Q .outgrown a w
  | e, a, w => Q e a w

theorem wpOp_pop (hz : ops.size = n + 1) (hg : ∀ (i : Nat) (o : Oper), ops[i]? = some o → o.guard = none) {i : Nat} (hi : i < n) {K : Act → World → Prop} {a : Act} {w : World} (h : wpOp P ops.pop (Ends P ops Q n) i K a w) : wpOp P ops Q i K a w := by
  unfold wpOp at *
  have he : ops.pop[i]? = ops[i]? := by rw [Array.getElem?_pop, if_pos (by omega)]
  rw [he] at h
  cases ho : ops[i]? with
  | none => rw [ho] at h; exact h
  | some o =>
    rw [ho] at h
    have hw : ∀ y, Region.wanted o y = true := fun y => by simp [Region.wanted, hg i o ho]
    simp only [hw, if_true] at h ⊢
    rcases h with h | ⟨h1, h2⟩
    · refine .inl ?_
      unfold Oper.wp at *
      generalize (execOp a.eval o).run P w = r at *
      cases r with
      | ok x w' =>
        cases x <;> simp only [Oper.upon] at h ⊢
        case value u => exact h
        case skip => exact h
        case defer d => exact h
        case enter f args =>
          refine Calls.mono h fun e w'' he => ?_
          cases e with
          | returned u => exact he
          | panicked c => exact he
          | outgrown => exact he
        case row row args => exact h
      | halt x w' =>
        cases x <;> simp only [Oper.upon] at h ⊢
        case panic u => exact h
    · exact .inr ⟨h1, h2⟩

/-- What the law asks of the region's form. -/
def endsB (md : Region.Mode) (ops : Array Oper) (n : Nat) : Bool :=
  decide (ops.size = n + 1) && (List.range (n + 1)).all fun i => match ops[i]? with
    | none => true
    | some o => o.guard.isNone && (o.after.all fun e => decide (e.on < i)) && (if i = n then (List.range n).all fun j => o.after.any fun e => Region.binds md e && decide (e.on = j) else true)
theorem endsB_spec (h : endsB md ops n = true) : ops.size = n + 1 ∧ (∀ (i : Nat) (o : Oper), ops[i]? = some o → o.guard = none) ∧ (∀ (i : Nat) (o : Oper), ops[i]? = some o → ∀ e ∈ o.after, e.on < i) ∧ ∀ (o : Oper), ops[n]? = some o → ∀ j, j < n → ∃ e ∈ o.after, Region.binds md e = true ∧ e.on = j := by
  unfold endsB at h
  rw [Bool.and_eq_true, List.all_eq_true] at h
  obtain ⟨h1, h2⟩ := h
  have hz : ops.size = n + 1 := by simpa using h1
  have key : ∀ (i : Nat) (o : Oper), ops[i]? = some o → (o.guard.isNone && (o.after.all fun e => decide (e.on < i)) && (if i = n then (List.range n).all fun j => o.after.any fun e => Region.binds md e && decide (e.on = j) else true)) = true := fun i o ho => by
    have hi : i < ops.size := (Array.getElem?_eq_some_iff.1 ho).1
    have := h2 i (by rw [List.mem_range]; omega)
    rwa [ho] at this
  refine ⟨hz, fun i o ho => ?_, fun i o ho e he => ?_, fun o ho j hj => ?_⟩
  · have := key i o ho
    simp only [Bool.and_eq_true] at this
    simpa using this.1.1
  · have := key i o ho
    simp only [Bool.and_eq_true] at this
    have := this.1.2
    rw [Array.all_eq_true_iff_forall_mem] at this
    simpa using this e he
  · have := key n o ho
    simp only [Bool.and_eq_true, if_true] at this
    have := this.2
    rw [List.all_eq_true] at this
    have := this j (by simpa using hj)
    obtain ⟨q, hq, hb⟩ := Array.any_eq_true.1 this
    simp only [Bool.and_eq_true, decide_eq_true_eq] at hb
    exact ⟨_, Array.getElem_mem hq, hb⟩

/-- Something may come up as1 long as1 something has not. -/
theorem some_ready (he : ∀ (i : Nat) (o : Oper), ops[i]? = some o → ∀ e ∈ o.after, e.on < i) {listed : Array Bool} (hl : listed.size = ops.size) : ∀ (i : Nat), i < ops.size → listed.getD i true = false → ∃ j, j ≤ i ∧ j ∈ Region.ready md ops listed := by
  intro i
  induction i using Nat.strongRecOn with
  | ind i ih =>
    intro hi hf
    by_cases hall : ∀ e ∈ (ops[i]'hi).after, Region.binds md e = true → listed.getD e.on false = true
    · exact ⟨i, Nat.le_refl _, mem_ready.2 ⟨hf, _, Array.getElem?_eq_getElem hi, hall⟩⟩
    · simp only [Classical.not_forall] at hall
      obtain ⟨e, hm, hbi, hb⟩ := hall
      have hlt := he i _ (Array.getElem?_eq_getElem hi) e hm
      have h9 : e.on < listed.size := by omega
      have hf' : listed.getD e.on true = false := by
        simp [Array.getD, h9] at hb ⊢
        exact hb
      obtain ⟨j, hj, hr⟩ := ih e.on hlt (by omega) hf'
      exact ⟨j, by omega, hr⟩

/-- All but the last one have come up. -/
def AllBut (n : Nat) (listed : Array Bool) : Prop := listed.size = n + 1 ∧ listed.getD n true = false ∧ ∀ i, i < n → listed.getD i true = true
theorem getD_same {listed : Array Bool} {i : Nat} (h : i < listed.size) : listed.getD i true = listed.getD i false := by simp [Array.getD, h]
theorem getD_pop {listed : Array Bool} {i : Nat} (d : Bool) (h : i + 1 < listed.size) : listed.pop.getD i d = listed.getD i d := by
  have h1 : i < listed.pop.size := by simp; omega
  have h2 : i < listed.size := by omega
  simp only [Array.getD, h1, h2, dif_pos]
  simp
theorem ready_pop (hz : ops.size = n + 1) (he : ∀ (i : Nat) (o : Oper), ops[i]? = some o → ∀ e ∈ o.after, e.on < i) {listed : Array Bool} (hl : listed.size = n + 1) {i : Nat} (hi : i < n) : i ∈ Region.ready md ops listed ↔ i ∈ Region.ready md ops.pop listed.pop := by
  rw [mem_ready, mem_ready, getD_pop _ (by omega), Array.getElem?_pop, if_pos (by omega)]
  refine and_congr Iff.rfl ⟨fun ⟨o, ho, h⟩ => ⟨o, ho, fun e hm hb => ?_⟩, fun ⟨o, ho, h⟩ => ⟨o, ho, fun e hm hb => ?_⟩⟩
  · have := he i o ho e hm
    rw [getD_pop _ (by omega)]
    exact h e hm hb
  · have := he i o ho e hm
    have h9 := h e hm hb
    rwa [getD_pop _ (by omega)] at h9
theorem ends_done (hz : ops.size = n + 1) (he : ∀ (i : Nat) (o : Oper), ops[i]? = some o → ∀ e ∈ o.after, e.on < i) {listed : Array Bool} (h : AllBut n listed) {a : Act} {w : World} (hq : Ends P ops Q n .normal a w) (fuel : Nat) : wpAny P md ops Q (fuel + 1) listed a w := by
  obtain ⟨h1, h2, h3⟩ := h
  have hn : n < ops.size := by omega
  have hr : n ∈ Region.ready md ops listed := mem_ready.2 ⟨h2, _, Array.getElem?_eq_getElem hn, fun e hm hb => by
    have := he n _ (Array.getElem?_eq_getElem hn) e hm
    rw [← getD_same (by omega)]
    exact h3 e.on this⟩
  have hset : Region.ready md ops (listed.setIfInBounds n true) = [] := by
    refine List.eq_nil_iff_forall_not_mem.2 fun i hi => ?_
    obtain ⟨k1, o, ho, _⟩ := mem_ready.1 hi
    have hio : i < ops.size := (Array.getElem?_eq_some_iff.1 ho).1
    by_cases hin : i = n
    · subst hin
      simp [Array.getD, h1] at k1
    · rw [getD_set_ne true (Ne.symm hin), h3 i (by omega)] at k1
      cases k1
  refine ⟨fun h0 => (by rw [h0] at hr; cases hr), fun i hi => ?_⟩
  have hin : i = n := by
    obtain ⟨k1, o, ho, _⟩ := mem_ready.1 hi
    have hio : i < ops.size := (Array.getElem?_eq_some_iff.1 ho).1
    refine Classical.byContradiction fun hne => ?_
    rw [h3 i (by omega)] at k1
    cases k1
  subst hin
  refine wpOp_mono (fun a' w' hq' => ?_) hq
  cases fuel with
  | zero => exact ⟨hset, hq'⟩
  | succ k => exact ⟨fun _ => hq', by rw [hset]; simp⟩
theorem all_but (hz : ops.size = n + 1) (he : ∀ (i : Nat) (o : Oper), ops[i]? = some o → ∀ e ∈ o.after, e.on < i) {listed : Array Bool} (hl : listed.size = n + 1) (hn : listed.getD n true = false) (hr : Region.ready md ops.pop listed.pop = []) : AllBut n listed := by
  refine ⟨hl, hn, fun i hi => ?_⟩
  refine Classical.byContradiction fun hne => ?_
  have hf : listed.getD i true = false := by simpa using hne
  obtain ⟨j, hj, hjr⟩ := some_ready (md := md) he (by omega) i (by omega) hf
  have := (ready_pop hz he hl (by omega)).1 hjr
  rw [hr] at this
  cases this
theorem wpAny_ends (hB : endsB md ops n = true) : ∀ (fuel : Nat) (listed : Array Bool) (a : Act) (w : World), listed.size = n + 1 → listed.getD n true = false → wpAnyH P md ops.pop (Ends P ops Q n) S fuel listed.pop a w → wpAny P md ops Q (fuel + 1) listed a w
  | 0, listed, a, w, hl, hn, h => by
    obtain ⟨hz, hg, he, hlast⟩ := endsB_spec hB
    exact ends_done hz he (all_but hz he hl hn h.1) h.2 0
  | fuel + 1, listed, a, w, hl, hn, h => by
    obtain ⟨hz, hg, he, hlast⟩ := endsB_spec hB
    by_cases h0 : Region.ready md ops.pop listed.pop = []
    · exact ends_done hz he (all_but hz he hl hn h0) (h.1 h0) (fuel + 1)
    · have hlow : ∀ i, i ∈ Region.ready md ops listed → i < n := fun i hi => by
        obtain ⟨k1, o, ho, k2⟩ := mem_ready.1 hi
        have hio : i < ops.size := (Array.getElem?_eq_some_iff.1 ho).1
        refine Classical.byContradiction fun hne => h0 ?_
        have hin : i = n := by omega
        subst hin
        refine List.eq_nil_iff_forall_not_mem.2 fun j hj => ?_
        have hjn : j < i := by
          obtain ⟨_, o', ho', _⟩ := mem_ready.1 hj
          have := (Array.getElem?_eq_some_iff.1 ho').1
          simp at this
          omega
        obtain ⟨e, hm, hb, rfl⟩ := hlast o ho j hjn
        have h9 := k2 e hm hb
        have h8 := (mem_ready.1 ((ready_pop hz he hl hjn).2 hj)).1
        rw [getD_same (by omega)] at h8
        rw [h8] at h9
        cases h9
      refine ⟨fun h1 => ?_, fun i hi => ?_⟩
      · exfalso
        refine h0 (List.eq_nil_iff_forall_not_mem.2 fun j hj => ?_)
        have hjn : j < n := by
          obtain ⟨_, o', ho', _⟩ := mem_ready.1 hj
          have := (Array.getElem?_eq_some_iff.1 ho').1
          simp at this
          omega
        have := (ready_pop hz he hl hjn).2 hj
        rw [h1] at this
        cases this
      · have hin := hlow i hi
        have h2 := h.2 i ((ready_pop hz he hl hin).1 hi)
        refine wpOp_mono (fun a' w' h3 => ?_) (wpOp_pop hz hg hin h2)
        refine wpAny_ends hB fuel _ a' w' (by simpa using hl) (by rw [getD_set_ne true (by omega)]; exact hn) ?_
        have : (listed.setIfInBounds i true).pop = listed.pop.setIfInBounds i true := by
          apply Array.ext_getElem?
          intro k
          simp only [Array.getElem?_pop, Array.getElem?_setIfInBounds, Array.size_pop, Array.size_setIfInBounds]
          by_cases hk : i = k
          · subst hk
            have q1 : i < listed.size := by omega
            have q2 : i < listed.size - 1 := by omega
            simp [q1, q2]
          · simp [hk]
        rw [this]
        exact h3.2

/-- The last one comes up. -/
theorem Ends.last {a : Act} {w : World} {o : Oper} (ho : ops[n]? = some o) (h : ∀ K' : Act → World → Prop, Shut (∀ a w, Q .normal a w → K' a w) → if Region.wanted o (yielded ops a.tmps) = true then Oper.wp P o a w K' Q else K' (a.put o.dst undef) w) : Ends P ops Q n .normal a w :=
  wpOp_step ho h

/-- **A region whose last operation waits for all others.** -/
theorem wp_region_ends {id : Nat} {a : Act} {w : World} {l : List Oper} (n : Nat) (S : World → Prop) (hm : P.follows .mixedOrders = true) (hB : endsB .any l.toArray n = true) (hS : S w.drew)
    (h : S w.drew → wpAnyH P .any (l.take n).toArray (Ends P l.toArray Q n) S n (Array.replicate n false) a w.drew) : (Code.region id l.toArray true).wp P Q a w := by
  obtain ⟨hz, hg, he, hlast⟩ := endsB_spec hB
  refine wp_region_any hm ?_
  rw [hz]
  refine wpAny_ends (S := S) hB n (Array.replicate (n + 1) false) a _ (by simp) (by simp [Array.getD]) ?_
  have h1 : l.toArray.pop = (l.take n).toArray := by
    have hz' : l.length = n + 1 := by simpa using hz
    rw [List.pop_toArray, List.dropLast_eq_take, hz']
    rfl
  have h2 : (Array.replicate (n + 1) false).pop = Array.replicate n false := by simp
  rw [h1, h2]
  exact h hS
end
end Go.Proofs.Ytjhihccjhnlghaa
