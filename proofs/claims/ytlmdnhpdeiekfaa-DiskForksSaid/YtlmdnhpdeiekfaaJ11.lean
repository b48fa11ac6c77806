/- New of package disk, by its contract. -/
import Derived.Test.YtlmdnhpdeiekfaaJ10
namespace Go.Proofs.Ytlmdnhpdeiekfaa
open Go.RowKit Go.Lib Go.Sort
set_option linter.unusedVariables false

/-- Rows that came in, or were made: nil, or a row of cells. -/
def PrtsV (w : World) (A : Option Addr) (len : Nat) (d : Nat → Prt) : Prop :=
  (A = none → len = 0) ∧ (0 < len → ∃ b off, A = some ⟨b, off, none⟩ ∧ b < w.heap.size ∧ ∀ i, i < len → w.cell? ⟨b, off + i * 3, none⟩ = some (.int .i64 (d i).1) ∧ w.cell? ⟨b, off + i * 3 + 1, none⟩ = some (.int .i64 (d i).2.1) ∧ w.cell? ⟨b, off + i * 3 + 2, none⟩ = some (.int .i64 (d i).2.2))
theorem PrtsV.under {w w' : World} {B : Nat} {A : Option Addr} {len : Nat} {d : Nat → Prt} (h : PrtsV w A len d) (hb : Below B w w') (hB : w.heap.size ≤ B) : PrtsV w' A len d := by
  refine ⟨h.1, fun hp => ?_⟩
  obtain ⟨b, off, h1, h2, h3⟩ := h.2 hp
  have hlB := Nat.lt_of_lt_of_le h2 hB
  refine ⟨b, off, h1, Nat.lt_of_lt_of_le h2 hb.size, fun i hi => ?_⟩
  obtain ⟨c0, c1, c2⟩ := h3 i hi
  exact ⟨(hb.cell (p := ⟨b, off + i * 3, none⟩) hlB).trans c0, (hb.cell (p := ⟨b, off + i * 3 + 1, none⟩) hlB).trans c1, (hb.cell (p := ⟨b, off + i * 3 + 2, none⟩) hlB).trans c2⟩
theorem PrtsV.below {w w' : World} {A : Option Addr} {len : Nat} {d : Nat → Prt} (h : PrtsV w A len d) (hb : Below w.heap.size w w') : PrtsV w' A len d := h.under hb (Nat.le_refl _)
theorem PrtsV.cut {w : World} {A : Option Addr} {len : Nat} {d : Nat → Prt} (h : PrtsV w A len d) (m : Nat) (hm : m ≤ len) : PrtsV w A m d := by
  refine ⟨fun hn => by have := h.1 hn; omega, fun hp => ?_⟩
  obtain ⟨b, off, h1, h2, h3⟩ := h.2 (by omega)
  exact ⟨b, off, h1, h2, fun i hi => h3 i (by omega)⟩

def updT (T : Nat → Prt) (k : Nat) (p : Prt) : Nat → Prt := fun i => if i = k then p else T i
/-- The rows by their owners, of the first n. -/
def tblN (d : Nat → Prt) : Nat → Nat → Prt
  | 0 => fun _ => (0, 0, 0)
  | n + 1 => updT (tblN d n) (d n).1.toNat (d n)
/-- What is wrong with the first n rows. -/
def newE (d : Nat → Prt) : Nat → Int
  | 0 => 0
  | n + 1 => if newE d n = 0 then chkT (tblN d n) (d n) else newE d n
theorem chkT_may {T : Nat → Prt} {p : Prt} (h : chkT T p = 0) : mayB p = true := by
  unfold chkT at h
  by_cases hm : mayB p = false
  · rw [if_pos hm] at h; cases h
  · simpa using hm
theorem newE_may {d : Nat → Prt} {n : Nat} (h : newE d n = 0) : ∀ i, i < n → mayB (d i) = true := by
  induction n with
  | zero => intro i hi; omega
  | succ n ih =>
    unfold newE at h
    by_cases h0 : newE d n = 0
    · rw [if_pos h0] at h
      intro i hi
      by_cases e : i = n
      · subst e; exact chkT_may h
      · exact ih h0 i (by omega)
    · rw [if_neg h0] at h
      exact absurd h h0
theorem tblN_within {d : Nat → Prt} {n : Nat} (h : newE d n = 0) : ∀ k, k < 9 → Within (tblN d n k) := by
  have hm := newE_may h
  clear h
  intro k hk
  induction n with
  | zero => exact Within.none
  | succ n ih =>
    unfold tblN updT
    split
    · exact Within.of (hm n (by omega))
    · exact ih (fun i hi => hm i (by omega))
theorem newE_stop {d : Nat → Prt} {i n : Nat} (hi : i < n) (h : newE d i = 0) (hc : chkT (tblN d i) (d i) ≠ 0) : newE d n = chkT (tblN d i) (d i) := by
  induction n with
  | zero => omega
  | succ n ih =>
    unfold newE
    by_cases e : i = n
    · subst e
      rw [if_pos h]
    · rw [if_neg (by rw [ih (by omega)]; exact hc), ih (by omega)]

/-- A disk's zero value. -/
noncomputable def devZ : Array Value := (Try.prog.built 66 []).getD #[]
def isZ8 : Value → Bool
  | .int .u8 0 => true
  | _ => false
theorem isZ8_eq {v : Value} (h : isZ8 v = true) : v = .int .u8 0 := by
  unfold isZ8 at h
  split at h
  · rfl
  · cases h
theorem devZ_some : (Try.prog.built 66 []).isSome = true := by kernel_rfl
theorem devZ_bytes : (devZ.toList.take 8192).all isZ8 = true := by kernel_rfl
theorem devZ_size : devZ.size = 8227 := by kernel_rfl
theorem devZ_tail : devZ.toList.drop 8192 = [.int .i64 0, .int .i64 0, .int .i64 0, .int .i64 0, .int .i64 0, .int .i64 0, .int .i64 0, .int .i64 0, .int .i64 0, .int .i64 0, .int .i64 0, .int .i64 0, .int .i64 0, .int .i64 0, .int .i64 0, .int .i64 0, .int .i64 0, .int .i64 0, .int .i64 0, .int .i64 0, .int .i64 0, .int .i64 0, .int .i64 0, .int .i64 0, .int .i64 0, .int .i64 0, .int .i64 0, .bool false, .int .i64 0, .int .i64 0, .int .i64 0, .bool false, .string ⟨#[]⟩, .int .i64 0, .slice none 0 0] := by kernel_rfl
theorem devZ_at (k : Nat) : devZ[8192 + k]? = ([.int .i64 0, .int .i64 0, .int .i64 0, .int .i64 0, .int .i64 0, .int .i64 0, .int .i64 0, .int .i64 0, .int .i64 0, .int .i64 0, .int .i64 0, .int .i64 0, .int .i64 0, .int .i64 0, .int .i64 0, .int .i64 0, .int .i64 0, .int .i64 0, .int .i64 0, .int .i64 0, .int .i64 0, .int .i64 0, .int .i64 0, .int .i64 0, .int .i64 0, .int .i64 0, .int .i64 0, .bool false, .int .i64 0, .int .i64 0, .int .i64 0, .bool false, .string ⟨#[]⟩, .int .i64 0, .slice none 0 0] : List Value)[k]? := by
  rw [← devZ_tail, List.getElem?_drop, Array.getElem?_toList]
set_option maxRecDepth 100000 in
theorem Dsk.new (w : World) : Dsk (w.alloc (.cells devZ 66)) w.heap.size (fun _ => 0) (fun _ => (0, 0, 0)) false noJob 0 (.slice none 0 0) := by
  refine ⟨devZ, Blk.new _ _ _, devZ_size, fun k hk => ?_, fun k hk => ?_, devZ_at 27, devZ_at 28, devZ_at 29, devZ_at 30, devZ_at 31, devZ_at 32, devZ_at 33, devZ_at 34⟩
  · have hl : devZ.toList.length = 8227 := by rw [Array.length_toList]; exact devZ_size
    have h1 := List.all_eq_true.1 devZ_bytes
    have h2 : (devZ.toList.take 8192)[k]? = some devZ.toList[k] := by rw [List.getElem?_take_of_lt hk, List.getElem?_eq_getElem (by omega)]
    have h3 := isZ8_eq (h1 _ (List.mem_of_getElem? h2))
    rw [← Array.getElem?_toList, List.getElem?_eq_getElem (by omega), h3]
    rfl
  · have h9 : k = 0 ∨ k = 1 ∨ k = 2 ∨ k = 3 ∨ k = 4 ∨ k = 5 ∨ k = 6 ∨ k = 7 ∨ k = 8 := by omega
    rcases h9 with rfl | rfl | rfl | rfl | rfl | rfl | rfl | rfl | rfl
    · exact ⟨devZ_at 0, devZ_at 1, devZ_at 2⟩
    · exact ⟨devZ_at 3, devZ_at 4, devZ_at 5⟩
    · exact ⟨devZ_at 6, devZ_at 7, devZ_at 8⟩
    · exact ⟨devZ_at 9, devZ_at 10, devZ_at 11⟩
    · exact ⟨devZ_at 12, devZ_at 13, devZ_at 14⟩
    · exact ⟨devZ_at 15, devZ_at 16, devZ_at 17⟩
    · exact ⟨devZ_at 18, devZ_at 19, devZ_at 20⟩
    · exact ⟨devZ_at 21, devZ_at 22, devZ_at 23⟩
    · exact ⟨devZ_at 24, devZ_at 25, devZ_at 26⟩
theorem wpList_build_dev {ops : Array Oper} {Q : Exit → Act → World → Prop} {rest : List Oper} {a : Act} {o : Oper} {w : World} (hg : o.guard = none) (ho : o.op = .build 66 #[]) (Z : Array Value) (hZ : Z = devZ) (h : wpList Try.prog ops Q rest (a.put o.dst (.agg Z)) w) : wpList Try.prog ops Q (o :: rest) a w := by
  subst hZ
  have key : ∀ l, l = [] → (Try.prog.built 66 l).isSome = true ∧ (Try.prog.built 66 l).getD #[] = devZ := by
    rintro _ rfl
    exact ⟨devZ_some, rfl⟩
  have e := key (Array.map (fun x : Nat × Operand => match x with | (i, x) => (i, a.eval x)) #[]).toList (by simp)
  refine wpList_build hg _ _ ho e.1 ?_
  rw [e.2]
  exact h

section
variable {w w' : World} {b : Nat} {S : Nat → UInt8} {T : Nat → Prt} {bz : Bool} {j : Jb} {st : Int} {v : Value}
theorem Dsk.setPart (h : Dsk w b S T bz j st v) {k : Nat} (hk : k < 9) (p : Prt) : Dsk (((w.setCell ⟨b, 8192 + k * 3, none⟩ (.int .i64 p.1)).setCell ⟨b, 8192 + k * 3 + 1, none⟩ (.int .i64 p.2.1)).setCell ⟨b, 8192 + k * 3 + 2, none⟩ (.int .i64 p.2.2)) b S (updT T k p) bz j st v := by
  obtain ⟨cs, h0, h1, h2, h3, h4, h5, h6, h7, h8, h9, h10, h11⟩ := h
  refine ⟨_, ((h0.put _ _).put _ _).put _ _, by simpa using h1, fun i hi => ?_, fun i hi => ?_, ?_, ?_, ?_, ?_, ?_, ?_, ?_, ?_⟩
  · rw [Array.getElem?_setIfInBounds, if_neg (by omega), Array.getElem?_setIfInBounds, if_neg (by omega), Array.getElem?_setIfInBounds, if_neg (by omega)]; exact h2 i hi
  · by_cases e : i = k
    · subst e
      simp only [updT, if_true]
      refine ⟨?_, ?_, ?_⟩
      · rw [Array.getElem?_setIfInBounds, if_neg (by omega), Array.getElem?_setIfInBounds, if_neg (by omega), Array.getElem?_setIfInBounds, if_pos rfl, if_pos (by omega)]
      · rw [Array.getElem?_setIfInBounds, if_neg (by omega), Array.getElem?_setIfInBounds, if_pos rfl, if_pos (by simp; omega)]
      · rw [Array.getElem?_setIfInBounds, if_pos rfl, if_pos (by simp; omega)]
    · simp only [updT, if_neg e]
      obtain ⟨a0, a1, a2⟩ := h3 i hi
      refine ⟨?_, ?_, ?_⟩
      · rw [Array.getElem?_setIfInBounds, if_neg (by omega), Array.getElem?_setIfInBounds, if_neg (by omega), Array.getElem?_setIfInBounds, if_neg (by omega)]; exact a0
      · rw [Array.getElem?_setIfInBounds, if_neg (by omega), Array.getElem?_setIfInBounds, if_neg (by omega), Array.getElem?_setIfInBounds, if_neg (by omega)]; exact a1
      · rw [Array.getElem?_setIfInBounds, if_neg (by omega), Array.getElem?_setIfInBounds, if_neg (by omega), Array.getElem?_setIfInBounds, if_neg (by omega)]; exact a2
  all_goals (rw [Array.getElem?_setIfInBounds, if_neg (by omega), Array.getElem?_setIfInBounds, if_neg (by omega), Array.getElem?_setIfInBounds, if_neg (by omega)]; assumption)
end

/-- What New answers. -/
def NewV (d : Nat → Prt) (n : Nat) (w : World) (e : Ending) (w' : World) : Prop :=
  Below w.heap.size w w' ∧ ((newE d n ≠ 0 ∧ e = .returned (.tuple #[.pointer none, .int .i64 (newE d n)])) ∨ (newE d n = 0 ∧ e = .returned (.tuple #[.pointer (some ⟨w.heap.size, 0, none⟩), .int .i64 0]) ∧ Dsk w' w.heap.size (fun _ => 0) (tblN d n) false noJob 0 (.slice none 0 0)))
set_option maxHeartbeats 1600000 in
theorem dnew_any (A : Option Addr) (n cap : Nat) (d : Nat → Prt) (w : World) (hst : PrtsV w A n d) (hf : ∀ i, i < n → FitP (d i)) (hn : n ≤ 1000) : Calls Try.prog 7 #[.slice A n cap] w (NewV d n w) := by
  have hb0 : Below w.heap.size w (w.alloc (.cells devZ 66)) := (Below.refl _ _).alloc (Nat.le_refl _) _
  have D0 := Lib.hid (Dsk.new w)
  have B0 := Lib.hid hb0
  have HST := Lib.hid (fun (W : World) (hb : Below w.heap.size w W) => hst.below hb)
  have HF := Lib.hid hf
  clear hst hf hb0
  generalize hz : devZ = Z at D0 B0
  have HZ := Lib.hid hz.symm
  clear hz
  go_enter Try.func7, Try.ntmps7
  go_wp2_with (refine wpList_build_dev (o := ⟨some 8, .build 66 #[], _, _, _, none⟩) rfl rfl Z HZ.out ?_)
  go_loopw [12] (fun y wr => ∃ i : Nat, y = .int .i64 i ∧ i ≤ n ∧ Hid (newE d i = 0) ∧ Hid (Dsk wr w.heap.size (fun _ => 0) (tblN d i) false noJob 0 (.slice none 0 0)) ∧ Hid (Below w.heap.size w wr)) (fun y _ => n - (intOf y).toNat)
  case atStart => exact ⟨0, rfl, by omega, Lib.hid rfl, D0, B0⟩
  case round =>
    obtain ⟨i, rfl, hin, HE, HD, HB⟩ := hrel
    by_cases hi : i < n
    · obtain ⟨b9, off, rfl, hb9, hc⟩ := (HST.out wr HB.out).2 (by omega)
      obtain ⟨c0, c1, c2⟩ := hc i hi
      have hfi := HF.out i hi
      have hbl := Nat.lt_of_lt_of_le HD.out.lt (Nat.le_refl _)
      have hck := fun (W : World) (hd : Dsk W w.heap.size (fun _ => 0) (tblN d i) false noJob 0 (.slice none 0 0)) => dcheck_any hd (tblN_within HE.out) (d i) hfi
      have hstop := fun hcc => newE_stop (n := n) hi HE.out hcc
      have hnext : chkT (tblN d i) (d i) = 0 → newE d (i + 1) = 0 := fun h => by show (if newE d i = 0 then _ else _) = _; rw [if_pos HE.out]; exact h
      have hmay : chkT (tblN d i) (d i) = 0 → mayB (d i) = true := chkT_may
      have htb : tblN d (i + 1) = updT (tblN d i) (d i).1.toNat (d i) := rfl
      have HTB := Lib.hid htb
      have HNX := Lib.hid hnext
      have HIN := Lib.hid hi
      generalize hx : d i = x at c0 c1 c2 hfi hck hstop hmay HTB HNX
      obtain ⟨p, q, s⟩ := x
      have HD1 := Lib.hid (HD.out.grown (only_alloc (only_refl wr none) (.cells #[.int .i64 p, .int .i64 q, .int .i64 s] 59)))
      have HB1 : Hid (Below w.heap.size w (wr.alloc (.cells #[.int .i64 p, .int .i64 q, .int .i64 s] 59))) := Lib.hid (HB.out.alloc HB.out.size _)
      have HX1 := Lib.hid (Blk.new wr 59 #[.int .i64 p, .int .i64 q, .int .i64 s])
      have i1 : (i : Int) < (n : Int) := by omega
      have HLT := Lib.hid hbl
      by_cases hcc : chkT (tblN d i) (p, q, s) = 0
      · rw [hcc] at hck
        have HCK := Lib.hid hck
        have hm := mayB_iff.1 (hmay hcc)
        simp only at hm
        have HCC := Lib.hid hcc
        clear hck hstop hmay hx hfi hc htb hnext hcc hi
        obtain ⟨k, rfl⟩ : ∃ k : Nat, p = k := ⟨p.toNat, by omega⟩
        have hk9 : (k : Int) < 9 := by omega
        have HK : Hid (k < 9) := Lib.hid (by omega)
        clear hm
        go_wp2_with (go_at_call 20; with_reducible refine (HCK.out _ HD1.out).mono ?_; rintro e w1 ⟨rfl, b1⟩; have D2 := Lib.hid (HD1.out.below b1); have hx2 := HX1.out.below b1 HX1.out.lt; have x0 := hx2.cell 0; have x1 := hx2.cell 1; have x2 := hx2.cell 2; simp at x0 x1 x2; have B2 := Lib.hid (HB1.out.trans (b1.mono HB1.out.size)); clear b1 hx2)
        obtain ⟨y0, y1, y2⟩ := D2.out.row HK.out
        have z0 := D2.out.free (8192 + k * 3)
        have z1 := D2.out.free (8192 + k * 3 + 1)
        have z2 := D2.out.free (8192 + k * 3 + 2)
        have hne : ¬ wr.heap.size = w.heap.size := by have := HLT.out; omega
        have hne2 : ¬ w.heap.size = wr.heap.size := by have := HLT.out; omega
        go_region
        all_goals
          go_wp2
          go_roundw
          case rel =>
            refine ⟨i + 1, by go_num, HIN.out, Lib.hid (HNX.out HCC.out), ?_, ?_⟩
            · rw [HTB.out]
              exact Lib.hid ((D2.out.setPart HK.out (k, q, s)).grown (only_drewN (only_refl _ none) 1))
            · exact Lib.hid (below_drewN (((B2.out.setCell (Nat.le_refl _) _).setCell (Nat.le_refl _) _).setCell (Nat.le_refl _) _) 1)
          case measure => have := HIN.out; simp [intOf]; omega
      · have hstop' := hstop hcc
        generalize chkT (tblN d i) (p, q, s) = c at hck hstop' hcc
        have HCK := Lib.hid hck
        have hcb : (c != 0) = true := by simpa using hcc
        have HS := Lib.hid (And.intro hstop' hcc)
        clear hck hstop hmay hx hfi hc htb hnext hcc hi hstop'
        go_wp2_with (go_at_call 20; with_reducible refine (HCK.out _ HD1.out).mono ?_; rintro e w1 ⟨rfl, b1⟩; have B2 := Lib.hid (HB1.out.trans (b1.mono HB1.out.size)); clear b1)
        go_ret2
        refine ⟨B2.out, .inl ?_⟩
        rw [HS.out.1]
        exact ⟨HS.out.2, rfl⟩
    · obtain rfl : i = n := by omega
      go_wp2
      go_ret2
      exact ⟨HB.out, .inr ⟨HE.out, rfl, HD.out⟩⟩
end Go.Proofs.Ytlmdnhpdeiekfaa
