import Derived.Test.YthhodadfiipffaaDoorZ02
import Derived.Lib.AppendStr
import Derived.Deep.RegionLaw
import Derived.Deep.RegionHeld3
import Derived.Deep.Cut
import Derived.Lib.QuietBelow
import Derived.BigQuiet
set_option linter.all false
/- The writer of package bits: each call by its contract. -/
namespace Go.Proofs.YthhodadfiipffaaDoor
open Go.RowKit Go.Lib
set_option linter.unusedVariables false
set_option maxRecDepth 4000

def byteCells (l : List UInt8) : List Value := l.map fun b => .int .u8 (b.toNat : Int)

/-- The bytes that a step writes, or that it cannot be written. -/
def stepBytes (d n : Int) (t : ByteArray) : Option (List UInt8) :=
  if d = 0 then (if 0 ≤ n ∧ n ≤ 255 then some [UInt8.ofNat n.toNat] else none)
  else if d = 1 then (if 0 ≤ n ∧ n ≤ 65535 then some (Bt.put n).data.toList else none)
  else some t.data.toList
def wrNext (o : Option (List UInt8)) (d n : Int) (t : ByteArray) : Option (List UInt8) := o.bind fun l => (stepBytes d n t).map fun x => l ++ x

theorem u8_info : (Tryd.prog.info? 5).map (fun i => (i.zero, i.size, i.bytes)) = some (some (.int .u8 0), 1, 1) := by kernel_rfl

/-- append of a string's bytes onto what the call owns, as1 one step of a region that draws. -/
theorem step_append_str {P : Program} {ops : Array Oper} {o : Oper} {a : Act} {w : World} {K : Act → World → Prop} {Q : Exit → Act → World → Prop} {E : Prop} (hgd : o.guard = none) (sl x : Operand) (t u : TypeId)
    (ho : o.op = .call { callee := .builtin .append, args := #[sl, x], argTypes := #[t, u] })
    (base : Nat) (e : TypeId) (i : TypeInfo) (ht : P.underlying t = some (.slice e)) (hu : P.underlying u = some .string) (hi : P.info? e = some i) (hz : i.zero = some (.int .u8 0))
    (hsize : i.size = 1) (hby : i.bytes = 1)
    (v : Value) (n : Nat) (xs : List Value) (hs : a.eval sl = v) (hown : w.ownsRow base e 1 v n xs) (s : ByteArray) (hx : a.eval x = .string s)
    (h63 : n + s.size ≤ maxLen) (hbytes : n + s.size ≤ 140737488355328) (hbase : base ≤ w.heap.size)
    (h : ∀ v' w', w'.ownsRow base e 1 v' (n + s.size) (xs ++ strCells s) → w.grownBy w' v.ownBlock → K (a.put o.dst v') w') :
    if Region.wanted o (yielded ops a.tmps) = true then Oper.wp P o a w K Q else E := by
  have hw : Region.wanted o (yielded ops a.tmps) = true := by simp [Region.wanted, hgd]
  rw [if_pos hw]
  obtain ⟨v', w', hr, h2, h3, h4⟩ := run_append_own_string (P := P) w base t u o.type e i ht hu hi hz hsize hby v n xs hown s h63 hbytes hbase
  unfold Oper.wp execOp
  simp only [ho, resolve, invoke, builtin, Sem.run_bind, Sem.run_pure, Result.andThen_ok, List.map_toArray, List.map_cons, List.map_nil, hs, hx, hr]
  exact h v' w' h2 h3

theorem put_bytes (n : Int) : (Bt.put n).size = 2 := rfl

/-- The error of what steps write. -/
def errOf (o : Option (List UInt8)) : Int := if o.isSome then 0 else 2
/-- The bytes of what steps write. -/
def textFor (o : Option (List UInt8)) : ByteArray := ⟨(o.getD []).toArray⟩

theorem strOfNums_bytes (l : List UInt8) : strOfNums (l.map fun b => (b.toNat : Int)) = ⟨l.toArray⟩ := by
  have h : strOfNums (l.map fun b => (b.toNat : Int)) = (l.map fun b => (b.toNat : Int)).foldl (fun r n => r.push (UInt8.ofNat n.toNat)) ByteArray.empty := by
    rw [foldl_push_bytes]
    simp [strOfNums]
  rw [h, foldl_push_byteCells]
  simp

end Go.Proofs.YthhodadfiipffaaDoor

/- Package code: the codes' names, and the small functions, by their contracts. -/
namespace Go.Proofs.YthhodadfiipffaaDoor
open Go.RowKit Go.Lib
set_option linter.unusedVariables false

/-- The codes' names. -/
def nmX : Nat → List UInt8
  | 0 => [115, 116, 111, 112]
  | 1 => [115, 101, 116]
  | 2 => [109, 111, 118, 101]
  | 3 => [97, 100, 100]
  | 4 => [115, 117, 98]
  | 5 => [97, 110, 100]
  | 6 => [120, 111, 114]
  | 7 => [114, 101, 97, 100]
  | 8 => [119, 114, 105, 116, 101]
  | 9 => [114, 101, 97, 100, 50]
  | 10 => [119, 114, 105, 116, 101, 50]
  | 11 => [106, 117, 109, 112]
  | 12 => [122, 101, 114, 111]
  | 13 => [108, 101, 115, 115]
  | 14 => [99, 97, 108, 108]
  | 15 => [114, 101, 115, 116]
  | _ => []
def nmL (k : Nat) : ByteArray := ⟨(nmX k).toArray⟩
/-- Where the package's table stands as1 it was laid. -/
structure Nm (w : World) : Prop where
  at' : ∀ k, k < 16 → w.cell? ⟨0, k, none⟩ = some (.string (nmL k))
  pos : 0 < w.heap.size
theorem Nm.grown {w w' : World} {r : Option Nat} (h : Nm w) (g : w.grownBy w' r) (hr : r ≠ some 0) : Nm w' :=
  ⟨fun k hk => by
    have := g.block 0 h.pos (fun e => hr e.symm)
    rw [show w'.cell? ⟨0, k, none⟩ = w.cell? ⟨0, k, none⟩ by simp only [World.cell?, this]]
    exact h.at' k hk, Nat.lt_of_lt_of_le h.pos g.size⟩
theorem Nm.below {B : Nat} {w w' : World} (h : Nm w) (hb : Below B w w') (hB : 0 < B) : Nm w' :=
  ⟨fun k hk => (hb.cell (p := ⟨0, k, none⟩) hB).trans (h.at' k hk), Nat.lt_of_lt_of_le h.pos hb.size⟩
theorem nm_one : ∀ i : Fin 16, ∀ j : Fin 16, nmX i.val = nmX j.val → i = j := by decide +kernel
theorem nmL_one {i j : Nat} (hi : i < 16) (hj : j < 16) (h : nmL i = nmL j) : i = j := by
  have h' : nmX i = nmX j := by
    have := congrArg (fun b : ByteArray => b.data.toList) h
    simpa [nmL] using this
  have := nm_one ⟨i, hi⟩ ⟨j, hj⟩ h'
  simpa using this
theorem nmL_some : ∀ i : Fin 16, nmX i.val ≠ [] := by decide +kernel
theorem nmL_none {k : Nat} (h : 16 ≤ k) : nmL k = ⟨#[]⟩ := by
  have : nmX k = [] := by
    obtain ⟨j, rfl⟩ : ∃ j, k = j + 16 := ⟨k - 16, by omega⟩
    rfl
  unfold nmL
  rw [this]
/-- The code of a name, if it is one. -/
def ndF (t : ByteArray) : Nat → Int × Bool
  | 0 => (0, false)
  | k + 1 => if nmX k = t.data.toList then ((k : Int), true) else ndF t k
def ndV (t : ByteArray) : Int × Bool := ndF t 16
theorem nmX_eq {k : Nat} {t : ByteArray} : nmX k = t.data.toList ↔ nmL k = t := by
  constructor
  · intro h
    unfold nmL
    rw [h]
  · rintro rfl
    simp [nmL]
theorem ndF_at {t : ByteArray} {k : Nat} (hk : k < 16) (h : nmL k = t) : ∀ n, k < n → n ≤ 16 → ndF t n = ((k : Int), true)
  | 0, h0, _ => by omega
  | n + 1, h0, h1 => by
    unfold ndF
    by_cases e : nmX n = t.data.toList
    · have := nmL_one (i := k) (j := n) hk (by omega) (h.trans (nmX_eq.1 e).symm)
      rw [if_pos e, this]
    · rw [if_neg e]
      refine ndF_at hk h n ?_ (by omega)
      have : k ≠ n := by
        rintro rfl
        exact e (nmX_eq.2 h)
      omega
theorem ndF_none {t : ByteArray} : ∀ n, (∀ k, k < n → nmL k ≠ t) → ndF t n = (0, false)
  | 0, _ => rfl
  | n + 1, h => by
    unfold ndF
    rw [if_neg (fun e => h n (by omega) (nmX_eq.1 e))]
    exact ndF_none n (fun k hk => h k (by omega))
theorem ndV_at {t : ByteArray} {k : Nat} (hk : k < 16) (h : nmL k = t) : ndV t = ((k : Int), true) := ndF_at hk h 16 hk (by omega)
theorem ndV_none {t : ByteArray} (h : ∀ k, k < 16 → nmL k ≠ t) : ndV t = (0, false) := ndF_none 16 h
theorem str_ne19 {a b : ByteArray} (h : a ≠ b) : (a.toList == b.toList) = false := by
  apply beq_eq_false_iff_ne.2
  intro he
  rw [ByteArray.toList_eq, ByteArray.toList_eq] at he
  apply h
  obtain ⟨x⟩ := a
  obtain ⟨y⟩ := b
  simp at he
  rw [he]
theorem name_any (k : Nat) (hk : k < 256) (w : World) (hG : Nm w) : Calls Tryd.prog 78 #[.int .u8 k] w fun e w' => e = .returned (.string (nmL k)) ∧ w = w' := by
  have hw : IntKind.i64.wrap (k : Int) = (k : Int) := by rw [IntKind.wrap_i64]; omega
  by_cases h : k < 16
  · have c := hG.at' k h
    have i0 : ¬ (16 : Int) ≤ (k : Int) := by omega
    have i1 : (k : Int) < 16 := by omega
    have i2 : (0 : Int) ≤ (k : Int) := by omega
    clear hG
    go_enter Tryd.func78, Tryd.ntmps78
    go_wp2
    go_ret
    exact ⟨rfl, rfl⟩
  · have i0 : (16 : Int) ≤ (k : Int) := by omega
    have e : nmL k = ⟨#[]⟩ := nmL_none (by omega)
    rw [e]
    clear hG e
    go_enter Tryd.func78, Tryd.ntmps78
    go_wp2
    go_ret
    exact ⟨rfl, rfl⟩
/-- Is a code's N a register. -/
def rgB (k : Nat) : Bool := decide (2 ≤ k ∧ k ≤ 10)
theorem register_any (k : Nat) (hk : k < 256) (w : World) : Calls Tryd.prog 85 #[.int .u8 k] w fun e w' => e = .returned (.bool (rgB k)) ∧ w = w' := by
  by_cases h : k < 11
  · have key : k = 0 ∨ k = 1 ∨ k = 2 ∨ k = 3 ∨ k = 4 ∨ k = 5 ∨ k = 6 ∨ k = 7 ∨ k = 8 ∨ k = 9 ∨ k = 10 := by omega
    rcases key with rfl | rfl | rfl | rfl | rfl | rfl | rfl | rfl | rfl | rfl | rfl
    all_goals
      go_enter Tryd.func85, Tryd.ntmps85
      go_wp2
      go_ret
      exact ⟨rfl, rfl⟩
  · have e : rgB k = false := by unfold rgB; simp; omega
    have i2 : ((k : Int) == 2) = false := by rw [beq_eq_false_iff_ne]; omega
    have i3 : ((k : Int) == 3) = false := by rw [beq_eq_false_iff_ne]; omega
    have i4 : ((k : Int) == 4) = false := by rw [beq_eq_false_iff_ne]; omega
    have i5 : ((k : Int) == 5) = false := by rw [beq_eq_false_iff_ne]; omega
    have i6 : ((k : Int) == 6) = false := by rw [beq_eq_false_iff_ne]; omega
    have i7 : ((k : Int) == 7) = false := by rw [beq_eq_false_iff_ne]; omega
    have i8 : ((k : Int) == 8) = false := by rw [beq_eq_false_iff_ne]; omega
    have i9 : ((k : Int) == 9) = false := by rw [beq_eq_false_iff_ne]; omega
    have i10 : ((k : Int) == 10) = false := by rw [beq_eq_false_iff_ne]; omega
    rw [e]
    clear e h
    go_enter Tryd.func85, Tryd.ntmps85
    go_wp2
    go_ret
    exact ⟨rfl, rfl⟩
def mxX (k : Nat) : Int := if k = 0 ∨ k = 15 ∨ k = 11 then 0 else 7
def mxN (k : Nat) : Int := if k = 0 ∨ k = 15 then 0 else if rgB k then 7 else 65535
theorem mostx_any (k : Nat) (hk : k < 256) (w : World) : Calls Tryd.prog 80 #[.int .u8 k] w fun e w' => e = .returned (.int .i64 (mxX k)) ∧ w = w' := by
  by_cases h : k = 0 ∨ k = 15 ∨ k = 11
  · rcases h with rfl | rfl | rfl
    all_goals
      go_enter Tryd.func80, Tryd.ntmps80
      go_wp2
      go_ret
      exact ⟨rfl, rfl⟩
  · have e : mxX k = 7 := by unfold mxX; rw [if_neg h]
    have i0 : ((k : Int) == 0) = false := by rw [beq_eq_false_iff_ne]; omega
    have i1 : ((k : Int) == 15) = false := by rw [beq_eq_false_iff_ne]; omega
    have i2 : ((k : Int) == 11) = false := by rw [beq_eq_false_iff_ne]; omega
    rw [e]
    clear e h
    go_enter Tryd.func80, Tryd.ntmps80
    go_wp2
    go_ret
    exact ⟨rfl, rfl⟩
theorem mostn_any (k : Nat) (hk : k < 256) (w : World) : Calls Tryd.prog 81 #[.int .u8 k] w fun e w' => e = .returned (.int .i64 (mxN k)) ∧ w = w' := by
  have HR := Lib.hid (fun W => register_any k hk W)
  by_cases h : k = 0 ∨ k = 15
  · clear HR
    rcases h with rfl | rfl
    all_goals
      go_enter Tryd.func81, Tryd.ntmps81
      go_wp2
      go_ret
      exact ⟨rfl, rfl⟩
  · have e : mxN k = if rgB k then 7 else 65535 := by unfold mxN; rw [if_neg h]
    have i0 : ((k : Int) == 0) = false := by rw [beq_eq_false_iff_ne]; omega
    have i1 : ((k : Int) == 15) = false := by rw [beq_eq_false_iff_ne]; omega
    rw [e]
    clear e h
    generalize rgB k = r at HR
    cases r
    all_goals
      go_enter Tryd.func81, Tryd.ntmps81
      go_wp2_with (go_at_call 85; (with_reducible refine (HR.out _).mono ?_); rintro e w1 ⟨rfl, rfl⟩)
      go_ret
      exact ⟨rfl, rfl⟩
theorem upto_any (n m : Int) (w : World) : Calls Tryd.prog 79 #[.int .i64 n, .int .i64 m] w fun e w' => e = .returned (.bool (decide (0 ≤ n ∧ n ≤ m))) ∧ w = w' := by
  by_cases h : 0 ≤ n
  · go_enter Tryd.func79, Tryd.ntmps79
    go_wp2
    go_ret
    exact ⟨by simp [h], rfl⟩
  · go_enter Tryd.func79, Tryd.ntmps79
    go_wp2
    go_ret
    exact ⟨by first | (simp [h]; done) | (simp; omega), rfl⟩
end Go.Proofs.YthhodadfiipffaaDoor

/- Package code: a name's code, what may be, by their contracts. -/
namespace Go.Proofs.YthhodadfiipffaaDoor
open Go.RowKit Go.Lib
set_option linter.unusedVariables false

theorem nm_index (k : Nat) (hk : k < 16) (w : World) : (Instr.index 141 (.agg #[.string (nmL 0), .string (nmL 1), .string (nmL 2), .string (nmL 3), .string (nmL 4), .string (nmL 5), .string (nmL 6), .string (nmL 7), .string (nmL 8), .string (nmL 9), .string (nmL 10), .string (nmL 11), .string (nmL 12), .string (nmL 13), .string (nmL 14), .string (nmL 15)]) (.int .i64 k)).run Tryd.prog w = .ok (.string (nmL k)) w := by
  have key : k = 0 ∨ k = 1 ∨ k = 2 ∨ k = 3 ∨ k = 4 ∨ k = 5 ∨ k = 6 ∨ k = 7 ∨ k = 8 ∨ k = 9 ∨ k = 10 ∨ k = 11 ∨ k = 12 ∨ k = 13 ∨ k = 14 ∨ k = 15 := by omega
  rcases key with rfl | rfl | rfl | rfl | rfl | rfl | rfl | rfl | rfl | rfl | rfl | rfl | rfl | rfl | rfl | rfl
  all_goals (show Sem.run _ _ w = _; kernel_rfl)
/-- An instruction that may be. -/
def mayI (k : Nat) (x n : Int) : Bool := decide (k < 16) && decide (0 ≤ x ∧ x ≤ mxX k) && decide (0 ≤ n ∧ n ≤ mxN k)
end Go.Proofs.YthhodadfiipffaaDoor

/- Package code, and the document's word: which instructions may be, by their contracts. -/
namespace Go.Proofs.YthhodadfiipffaaDoor
open Go.RowKit Go.Lib
set_option linter.unusedVariables false

theorem ibox (w : World) (t : TypeId) (cs : Array Value) : ∃ W, W = w.alloc (.cells cs t) ∧ w.grownBy W none ∧ Blk W w.heap.size t cs := ⟨_, rfl, only_alloc (only_refl _ _) _, Blk.new w t cs⟩
theorem in3 {W : World} {g : Nat} {t : TypeId} {a b c : Value} (h : Blk W g t #[a, b, c]) : W.cell? ⟨g, 0, none⟩ = some a ∧ W.cell? ⟨g, 1, none⟩ = some b ∧ W.cell? ⟨g, 2, none⟩ = some c := ⟨h.cell 0, h.cell 1, h.cell 2⟩
theorem nm_some {k : Nat} (h : k < 16) : nmL k ≠ ⟨#[]⟩ := by
  intro e
  have := nmL_some ⟨k, h⟩
  apply this
  have := congrArg (fun b : ByteArray => b.data.toList) e
  simpa [nmL] using this
set_option maxHeartbeats 1600000 in
theorem may_any (k : Nat) (x n : Int) (hk : k < 256) (w : World) (hG : Nm w) : Calls Tryd.prog 72 #[.agg #[.int .u8 k, .int .i64 x, .int .i64 n]] w fun e w' => e = .returned (.bool (mayI k x n)) ∧ w.grownBy w' none := by
  obtain ⟨W1, hW, g1, hB⟩ := ibox w 104 #[.int .u8 k, .int .i64 x, .int .i64 n]
  obtain ⟨c0, c1, c2⟩ := in3 hB
  have HN := Lib.hid (fun q => name_any k hk (W1.drewN q) (hG.grown (only_drewN g1 q) (by simp)))
  have HX := Lib.hid (fun W => mostx_any k hk W)
  have HM := Lib.hid (fun W => mostn_any k hk W)
  have HUX := Lib.hid (fun W => upto_any x (mxX k) W)
  have HUN := Lib.hid (fun W => upto_any n (mxN k) W)
  have HV := Lib.hid (show mayI k x n = (decide (k < 16) && decide (0 ≤ x ∧ x ≤ mxX k) && decide (0 ≤ n ∧ n ≤ mxN k)) from rfl)
  have HG := Lib.hid g1
  clear hB g1 hG
  generalize mayI k x n = r at HV ⊢
  generalize decide (0 ≤ x ∧ x ≤ mxX k) = bx at HUX HV
  generalize decide (0 ≤ n ∧ n ≤ mxN k) = bn at HUN HV
  generalize mxX k = mx at *
  generalize mxN k = mn at *
  by_cases h : k < 16
  · have hne := str_ne19 (nm_some h)
    have hne2 : (nmL k).toList ≠ [] := by
      intro e
      rw [e] at hne
      simp at hne
    rw [decide_eq_true h] at HV
    generalize nmL k = nm at *
    cases bx <;> cases bn
    all_goals
      go_enter Tryd.func72, Tryd.ntmps72
      go_upto_region 1 with (fail)
      rw [← hW]
      clear hW
      go_quiet (first
        | (go_at_call 78; with_reducible exact quiet_same (HN.out _))
        | (go_at_call 80; with_reducible exact quiet_same (HX.out _))
        | (go_at_call 81; with_reducible exact quiet_same (HM.out _))
        | (go_at_call 79; with_reducible exact quiet_same (HUX.out _))
        | (go_at_call 79; with_reducible exact quiet_same (HUN.out _)))
      go_wp2
      go_ret
      exact ⟨by rw [HV.out]; first | rfl | (simp; done) | (simp; exact hne2), only_drewN HG.out _⟩
  · have he : nmL k = ⟨#[]⟩ := nmL_none (by omega)
    rw [decide_eq_false h] at HV
    rw [he] at HN
    go_enter Tryd.func72, Tryd.ntmps72
    go_upto_region 1 with (fail)
    rw [← hW]
    clear hW
    go_quiet (first
      | (go_at_call 78; with_reducible exact quiet_same (HN.out _))
      | (go_at_call 80; with_reducible exact quiet_same (HX.out _))
      | (go_at_call 81; with_reducible exact quiet_same (HM.out _))
      | (go_at_call 79; with_reducible exact quiet_same (HUX.out _))
      | (go_at_call 79; with_reducible exact quiet_same (HUN.out _)))
    go_wp2
    go_ret
    exact ⟨by rw [HV.out]; first | rfl | (simp; done) | (simp; exact hne2), only_drewN HG.out _⟩
theorem mayI_iff {k : Nat} {x n : Int} : mayI k x n = true ↔ k < 16 ∧ (0 ≤ x ∧ x ≤ mxX k) ∧ (0 ≤ n ∧ n ≤ mxN k) := by
  unfold mayI
  simp [and_assoc]
theorem mayI_facts {k : Nat} {x n : Int} (h : mayI k x n = true) : k < 16 ∧ 0 ≤ x ∧ x ≤ 7 ∧ 0 ≤ n ∧ n ≤ 65535 := by
  obtain ⟨h1, h2, h3⟩ := mayI_iff.1 h
  have e1 : mxX k ≤ 7 := by unfold mxX; split <;> omega
  have e2 : mxN k ≤ 65535 := by unfold mxN; split <;> (try split) <;> omega
  omega
set_option maxHeartbeats 1600000 in
theorem rmay_s0 (k : Nat) (x n : Int) (w : World) (h1 : k < 16 ∧ 0 ≤ x ∧ x ≤ 7 ∧ 0 ≤ n ∧ n ≤ 65535) (hk : k = 0) (hn : n ≠ 0) : Calls Tryd.prog 66 #[.agg #[.int .u8 k, .int .i64 x, .int .i64 n]] w fun e w' => e = .returned (.bool false) ∧ w.grownBy w' none := by
  obtain ⟨W1, hW, g1, hB⟩ := ibox w 104 #[.int .u8 k, .int .i64 x, .int .i64 n]
  obtain ⟨c0, c1, c2⟩ := in3 hB
  have hw : IntKind.i64.wrap (k : Int) = (k : Int) := by rw [IntKind.wrap_i64]; omega
  have HG := Lib.hid g1
  obtain ⟨k1, x1, x2, n1, n2⟩ := h1
  have b0 : ¬ (15 : Int) < k := by omega
  have b1 : ¬ x < 0 := by omega
  have b2 : ¬ 7 < x := by omega
  have b3 : ¬ n < 0 := by omega
  have b4 : ¬ 65535 < n := by omega
  clear hB g1
  have z0 : ((k : Int) == 0) = true := by rw [beq_iff_eq]; omega
  have z0n : ((k : Int) != 0) = false := by rw [bne_eq_false_iff_eq]; omega
  have z1 : ((k : Int) == 15) = false := by rw [beq_eq_false_iff_ne]; omega
  have z1n : ((k : Int) != 15) = true := by rw [bne_iff_ne]; omega
  have z2 : ((k : Int) == 11) = false := by rw [beq_eq_false_iff_ne]; omega
  have z2n : ((k : Int) != 11) = true := by rw [bne_iff_ne]; omega
  have z3 : ¬ (2 : Int) ≤ k := by omega
  have y0 : (n == 0) = false := by rw [beq_eq_false_iff_ne]; omega
  have y1 : (n != 0) = true := by rw [bne_iff_ne]; omega
  clear hk hn
  go_enter Tryd.func66, Tryd.ntmps66
  go_upto_region 1 with (fail)
  rw [← hW]
  clear hW
  go_wp2
  go_ret
  exact ⟨by first | rfl | simp, HG.out⟩
set_option maxHeartbeats 1600000 in
theorem rmay_s0z (k : Nat) (x n : Int) (w : World) (h1 : k < 16 ∧ 0 ≤ x ∧ x ≤ 7 ∧ 0 ≤ n ∧ n ≤ 65535) (hk : k = 0) (hn : n = 0) : Calls Tryd.prog 66 #[.agg #[.int .u8 k, .int .i64 x, .int .i64 n]] w fun e w' => e = .returned (.bool (x == 0)) ∧ w.grownBy w' none := by
  obtain ⟨W1, hW, g1, hB⟩ := ibox w 104 #[.int .u8 k, .int .i64 x, .int .i64 n]
  obtain ⟨c0, c1, c2⟩ := in3 hB
  have hw : IntKind.i64.wrap (k : Int) = (k : Int) := by rw [IntKind.wrap_i64]; omega
  have HG := Lib.hid g1
  obtain ⟨k1, x1, x2, n1, n2⟩ := h1
  have b0 : ¬ (15 : Int) < k := by omega
  have b1 : ¬ x < 0 := by omega
  have b2 : ¬ 7 < x := by omega
  have b3 : ¬ n < 0 := by omega
  have b4 : ¬ 65535 < n := by omega
  clear hB g1
  have z0 : ((k : Int) == 0) = true := by rw [beq_iff_eq]; omega
  have z0n : ((k : Int) != 0) = false := by rw [bne_eq_false_iff_eq]; omega
  have z1 : ((k : Int) == 15) = false := by rw [beq_eq_false_iff_ne]; omega
  have z1n : ((k : Int) != 15) = true := by rw [bne_iff_ne]; omega
  have z2 : ((k : Int) == 11) = false := by rw [beq_eq_false_iff_ne]; omega
  have z2n : ((k : Int) != 11) = true := by rw [bne_iff_ne]; omega
  have z3 : ¬ (2 : Int) ≤ k := by omega
  have y0 : (n == 0) = true := by rw [beq_iff_eq]; omega
  have y1 : (n != 0) = false := by rw [bne_eq_false_iff_eq]; omega
  clear hk hn
  go_enter Tryd.func66, Tryd.ntmps66
  go_upto_region 1 with (fail)
  rw [← hW]
  clear hW
  go_wp2
  go_ret
  exact ⟨by first | rfl | simp, HG.out⟩
set_option maxHeartbeats 1600000 in
theorem rmay_s15 (k : Nat) (x n : Int) (w : World) (h1 : k < 16 ∧ 0 ≤ x ∧ x ≤ 7 ∧ 0 ≤ n ∧ n ≤ 65535) (hk : k = 15) (hn : n ≠ 0) : Calls Tryd.prog 66 #[.agg #[.int .u8 k, .int .i64 x, .int .i64 n]] w fun e w' => e = .returned (.bool false) ∧ w.grownBy w' none := by
  obtain ⟨W1, hW, g1, hB⟩ := ibox w 104 #[.int .u8 k, .int .i64 x, .int .i64 n]
  obtain ⟨c0, c1, c2⟩ := in3 hB
  have hw : IntKind.i64.wrap (k : Int) = (k : Int) := by rw [IntKind.wrap_i64]; omega
  have HG := Lib.hid g1
  obtain ⟨k1, x1, x2, n1, n2⟩ := h1
  have b0 : ¬ (15 : Int) < k := by omega
  have b1 : ¬ x < 0 := by omega
  have b2 : ¬ 7 < x := by omega
  have b3 : ¬ n < 0 := by omega
  have b4 : ¬ 65535 < n := by omega
  clear hB g1
  have z0 : ((k : Int) == 0) = false := by rw [beq_eq_false_iff_ne]; omega
  have z0n : ((k : Int) != 0) = true := by rw [bne_iff_ne]; omega
  have z1 : ((k : Int) == 15) = true := by rw [beq_iff_eq]; omega
  have z1n : ((k : Int) != 15) = false := by rw [bne_eq_false_iff_eq]; omega
  have z2 : ((k : Int) == 11) = false := by rw [beq_eq_false_iff_ne]; omega
  have z2n : ((k : Int) != 11) = true := by rw [bne_iff_ne]; omega
  have z3 : (2 : Int) ≤ k := by omega
  have z4 : ¬ (k : Int) ≤ 10 := by omega
  have y0 : (n == 0) = false := by rw [beq_eq_false_iff_ne]; omega
  have y1 : (n != 0) = true := by rw [bne_iff_ne]; omega
  clear hk hn
  go_enter Tryd.func66, Tryd.ntmps66
  go_upto_region 1 with (fail)
  rw [← hW]
  clear hW
  go_wp2
  go_ret
  exact ⟨by first | rfl | simp, HG.out⟩
set_option maxHeartbeats 1600000 in
theorem rmay_s15z (k : Nat) (x n : Int) (w : World) (h1 : k < 16 ∧ 0 ≤ x ∧ x ≤ 7 ∧ 0 ≤ n ∧ n ≤ 65535) (hk : k = 15) (hn : n = 0) : Calls Tryd.prog 66 #[.agg #[.int .u8 k, .int .i64 x, .int .i64 n]] w fun e w' => e = .returned (.bool (x == 0)) ∧ w.grownBy w' none := by
  obtain ⟨W1, hW, g1, hB⟩ := ibox w 104 #[.int .u8 k, .int .i64 x, .int .i64 n]
  obtain ⟨c0, c1, c2⟩ := in3 hB
  have hw : IntKind.i64.wrap (k : Int) = (k : Int) := by rw [IntKind.wrap_i64]; omega
  have HG := Lib.hid g1
  obtain ⟨k1, x1, x2, n1, n2⟩ := h1
  have b0 : ¬ (15 : Int) < k := by omega
  have b1 : ¬ x < 0 := by omega
  have b2 : ¬ 7 < x := by omega
  have b3 : ¬ n < 0 := by omega
  have b4 : ¬ 65535 < n := by omega
  clear hB g1
  have z0 : ((k : Int) == 0) = false := by rw [beq_eq_false_iff_ne]; omega
  have z0n : ((k : Int) != 0) = true := by rw [bne_iff_ne]; omega
  have z1 : ((k : Int) == 15) = true := by rw [beq_iff_eq]; omega
  have z1n : ((k : Int) != 15) = false := by rw [bne_eq_false_iff_eq]; omega
  have z2 : ((k : Int) == 11) = false := by rw [beq_eq_false_iff_ne]; omega
  have z2n : ((k : Int) != 11) = true := by rw [bne_iff_ne]; omega
  have z3 : (2 : Int) ≤ k := by omega
  have z4 : ¬ (k : Int) ≤ 10 := by omega
  have y0 : (n == 0) = true := by rw [beq_iff_eq]; omega
  have y1 : (n != 0) = false := by rw [bne_eq_false_iff_eq]; omega
  clear hk hn
  go_enter Tryd.func66, Tryd.ntmps66
  go_upto_region 1 with (fail)
  rw [← hW]
  clear hW
  go_wp2
  go_ret
  exact ⟨by first | rfl | simp, HG.out⟩
set_option maxHeartbeats 1600000 in
theorem rmay_j (k : Nat) (x n : Int) (w : World) (h1 : k < 16 ∧ 0 ≤ x ∧ x ≤ 7 ∧ 0 ≤ n ∧ n ≤ 65535) (hk : k = 11) : Calls Tryd.prog 66 #[.agg #[.int .u8 k, .int .i64 x, .int .i64 n]] w fun e w' => e = .returned (.bool (x == 0)) ∧ w.grownBy w' none := by
  obtain ⟨W1, hW, g1, hB⟩ := ibox w 104 #[.int .u8 k, .int .i64 x, .int .i64 n]
  obtain ⟨c0, c1, c2⟩ := in3 hB
  have hw : IntKind.i64.wrap (k : Int) = (k : Int) := by rw [IntKind.wrap_i64]; omega
  have HG := Lib.hid g1
  obtain ⟨k1, x1, x2, n1, n2⟩ := h1
  have b0 : ¬ (15 : Int) < k := by omega
  have b1 : ¬ x < 0 := by omega
  have b2 : ¬ 7 < x := by omega
  have b3 : ¬ n < 0 := by omega
  have b4 : ¬ 65535 < n := by omega
  clear hB g1
  have z0 : ((k : Int) == 0) = false := by rw [beq_eq_false_iff_ne]; omega
  have z0n : ((k : Int) != 0) = true := by rw [bne_iff_ne]; omega
  have z1 : ((k : Int) == 15) = false := by rw [beq_eq_false_iff_ne]; omega
  have z1n : ((k : Int) != 15) = true := by rw [bne_iff_ne]; omega
  have z2 : ((k : Int) == 11) = true := by rw [beq_iff_eq]; omega
  have z2n : ((k : Int) != 11) = false := by rw [bne_eq_false_iff_eq]; omega
  have z3 : (2 : Int) ≤ k := by omega
  have z4 : ¬ (k : Int) ≤ 10 := by omega
  clear hk
  go_enter Tryd.func66, Tryd.ntmps66
  go_upto_region 1 with (fail)
  rw [← hW]
  clear hW
  go_wp2
  go_ret
  exact ⟨by first | rfl | simp, HG.out⟩
set_option maxHeartbeats 1600000 in
theorem rmay_r (k : Nat) (x n : Int) (w : World) (h1 : k < 16 ∧ 0 ≤ x ∧ x ≤ 7 ∧ 0 ≤ n ∧ n ≤ 65535) (hk : 2 ≤ k ∧ k ≤ 10) (hn : n ≤ 7) : Calls Tryd.prog 66 #[.agg #[.int .u8 k, .int .i64 x, .int .i64 n]] w fun e w' => e = .returned (.bool true) ∧ w.grownBy w' none := by
  obtain ⟨W1, hW, g1, hB⟩ := ibox w 104 #[.int .u8 k, .int .i64 x, .int .i64 n]
  obtain ⟨c0, c1, c2⟩ := in3 hB
  have hw : IntKind.i64.wrap (k : Int) = (k : Int) := by rw [IntKind.wrap_i64]; omega
  have HG := Lib.hid g1
  obtain ⟨k1, x1, x2, n1, n2⟩ := h1
  have b0 : ¬ (15 : Int) < k := by omega
  have b1 : ¬ x < 0 := by omega
  have b2 : ¬ 7 < x := by omega
  have b3 : ¬ n < 0 := by omega
  have b4 : ¬ 65535 < n := by omega
  clear hB g1
  have z0 : ((k : Int) == 0) = false := by rw [beq_eq_false_iff_ne]; omega
  have z0n : ((k : Int) != 0) = true := by rw [bne_iff_ne]; omega
  have z1 : ((k : Int) == 15) = false := by rw [beq_eq_false_iff_ne]; omega
  have z1n : ((k : Int) != 15) = true := by rw [bne_iff_ne]; omega
  have z2 : ((k : Int) == 11) = false := by rw [beq_eq_false_iff_ne]; omega
  have z2n : ((k : Int) != 11) = true := by rw [bne_iff_ne]; omega
  have z3 : (2 : Int) ≤ k := by omega
  have z4 : (k : Int) ≤ 10 := by omega
  have y7 : ¬ 7 < n := by omega
  clear hk hn
  go_enter Tryd.func66, Tryd.ntmps66
  go_upto_region 1 with (fail)
  rw [← hW]
  clear hW
  go_wp2
  go_ret
  exact ⟨by first | rfl | simp, HG.out⟩
set_option maxHeartbeats 1600000 in
theorem rmay_rn (k : Nat) (x n : Int) (w : World) (h1 : k < 16 ∧ 0 ≤ x ∧ x ≤ 7 ∧ 0 ≤ n ∧ n ≤ 65535) (hk : 2 ≤ k ∧ k ≤ 10) (hn : 7 < n) : Calls Tryd.prog 66 #[.agg #[.int .u8 k, .int .i64 x, .int .i64 n]] w fun e w' => e = .returned (.bool false) ∧ w.grownBy w' none := by
  obtain ⟨W1, hW, g1, hB⟩ := ibox w 104 #[.int .u8 k, .int .i64 x, .int .i64 n]
  obtain ⟨c0, c1, c2⟩ := in3 hB
  have hw : IntKind.i64.wrap (k : Int) = (k : Int) := by rw [IntKind.wrap_i64]; omega
  have HG := Lib.hid g1
  obtain ⟨k1, x1, x2, n1, n2⟩ := h1
  have b0 : ¬ (15 : Int) < k := by omega
  have b1 : ¬ x < 0 := by omega
  have b2 : ¬ 7 < x := by omega
  have b3 : ¬ n < 0 := by omega
  have b4 : ¬ 65535 < n := by omega
  clear hB g1
  have z0 : ((k : Int) == 0) = false := by rw [beq_eq_false_iff_ne]; omega
  have z0n : ((k : Int) != 0) = true := by rw [bne_iff_ne]; omega
  have z1 : ((k : Int) == 15) = false := by rw [beq_eq_false_iff_ne]; omega
  have z1n : ((k : Int) != 15) = true := by rw [bne_iff_ne]; omega
  have z2 : ((k : Int) == 11) = false := by rw [beq_eq_false_iff_ne]; omega
  have z2n : ((k : Int) != 11) = true := by rw [bne_iff_ne]; omega
  have z3 : (2 : Int) ≤ k := by omega
  have z4 : (k : Int) ≤ 10 := by omega
  have y7 : (7 : Int) < n := by omega
  clear hk hn
  go_enter Tryd.func66, Tryd.ntmps66
  go_upto_region 1 with (fail)
  rw [← hW]
  clear hW
  go_wp2
  go_ret
  exact ⟨by first | rfl | simp, HG.out⟩
set_option maxHeartbeats 1600000 in
theorem rmay_o1 (k : Nat) (x n : Int) (w : World) (h1 : k < 16 ∧ 0 ≤ x ∧ x ≤ 7 ∧ 0 ≤ n ∧ n ≤ 65535) (hk : k = 1) : Calls Tryd.prog 66 #[.agg #[.int .u8 k, .int .i64 x, .int .i64 n]] w fun e w' => e = .returned (.bool true) ∧ w.grownBy w' none := by
  obtain ⟨W1, hW, g1, hB⟩ := ibox w 104 #[.int .u8 k, .int .i64 x, .int .i64 n]
  obtain ⟨c0, c1, c2⟩ := in3 hB
  have hw : IntKind.i64.wrap (k : Int) = (k : Int) := by rw [IntKind.wrap_i64]; omega
  have HG := Lib.hid g1
  obtain ⟨k1, x1, x2, n1, n2⟩ := h1
  have b0 : ¬ (15 : Int) < k := by omega
  have b1 : ¬ x < 0 := by omega
  have b2 : ¬ 7 < x := by omega
  have b3 : ¬ n < 0 := by omega
  have b4 : ¬ 65535 < n := by omega
  clear hB g1
  have z0 : ((k : Int) == 0) = false := by rw [beq_eq_false_iff_ne]; omega
  have z0n : ((k : Int) != 0) = true := by rw [bne_iff_ne]; omega
  have z1 : ((k : Int) == 15) = false := by rw [beq_eq_false_iff_ne]; omega
  have z1n : ((k : Int) != 15) = true := by rw [bne_iff_ne]; omega
  have z2 : ((k : Int) == 11) = false := by rw [beq_eq_false_iff_ne]; omega
  have z2n : ((k : Int) != 11) = true := by rw [bne_iff_ne]; omega
  have z3 : ¬ (2 : Int) ≤ k := by omega
  clear hk
  go_enter Tryd.func66, Tryd.ntmps66
  go_upto_region 1 with (fail)
  rw [← hW]
  clear hW
  go_wp2
  go_ret
  exact ⟨by first | rfl | simp, HG.out⟩
set_option maxHeartbeats 1600000 in
theorem rmay_o2 (k : Nat) (x n : Int) (w : World) (h1 : k < 16 ∧ 0 ≤ x ∧ x ≤ 7 ∧ 0 ≤ n ∧ n ≤ 65535) (hk : 12 ≤ k ∧ k ≤ 14) : Calls Tryd.prog 66 #[.agg #[.int .u8 k, .int .i64 x, .int .i64 n]] w fun e w' => e = .returned (.bool true) ∧ w.grownBy w' none := by
  obtain ⟨W1, hW, g1, hB⟩ := ibox w 104 #[.int .u8 k, .int .i64 x, .int .i64 n]
  obtain ⟨c0, c1, c2⟩ := in3 hB
  have hw : IntKind.i64.wrap (k : Int) = (k : Int) := by rw [IntKind.wrap_i64]; omega
  have HG := Lib.hid g1
  obtain ⟨k1, x1, x2, n1, n2⟩ := h1
  have b0 : ¬ (15 : Int) < k := by omega
  have b1 : ¬ x < 0 := by omega
  have b2 : ¬ 7 < x := by omega
  have b3 : ¬ n < 0 := by omega
  have b4 : ¬ 65535 < n := by omega
  clear hB g1
  have z0 : ((k : Int) == 0) = false := by rw [beq_eq_false_iff_ne]; omega
  have z0n : ((k : Int) != 0) = true := by rw [bne_iff_ne]; omega
  have z1 : ((k : Int) == 15) = false := by rw [beq_eq_false_iff_ne]; omega
  have z1n : ((k : Int) != 15) = true := by rw [bne_iff_ne]; omega
  have z2 : ((k : Int) == 11) = false := by rw [beq_eq_false_iff_ne]; omega
  have z2n : ((k : Int) != 11) = true := by rw [bne_iff_ne]; omega
  have z3 : (2 : Int) ≤ k := by omega
  have z4 : ¬ (k : Int) ≤ 10 := by omega
  clear hk
  go_enter Tryd.func66, Tryd.ntmps66
  go_upto_region 1 with (fail)
  rw [← hW]
  clear hW
  go_wp2
  go_ret
  exact ⟨by first | rfl | simp, HG.out⟩
set_option maxHeartbeats 1600000 in
theorem rmay_out (k : Nat) (x n : Int) (hk : k < 256) (w : World) (h1 : ¬ (k < 16 ∧ 0 ≤ x ∧ x ≤ 7 ∧ 0 ≤ n ∧ n ≤ 65535)) : Calls Tryd.prog 66 #[.agg #[.int .u8 k, .int .i64 x, .int .i64 n]] w fun e w' => e = .returned (.bool false) ∧ w.grownBy w' none := by
  obtain ⟨W1, hW, g1, hB⟩ := ibox w 104 #[.int .u8 k, .int .i64 x, .int .i64 n]
  obtain ⟨c0, c1, c2⟩ := in3 hB
  have hw : IntKind.i64.wrap (k : Int) = (k : Int) := by rw [IntKind.wrap_i64]; omega
  have HG := Lib.hid g1
  clear hB g1
  have a1 : (15 : Int) < k ∨ (¬ (15 : Int) < k ∧ x < 0) ∨ (¬ (15 : Int) < k ∧ ¬ x < 0 ∧ 7 < x) ∨ (¬ (15 : Int) < k ∧ ¬ x < 0 ∧ ¬ 7 < x ∧ n < 0) ∨ (¬ (15 : Int) < k ∧ ¬ x < 0 ∧ ¬ 7 < x ∧ ¬ n < 0 ∧ 65535 < n) := by omega
  clear h1
  rcases a1 with a | ⟨a, b⟩ | ⟨a, b, c⟩ | ⟨a, b, c, d⟩ | ⟨a, b, c, d, e⟩
  all_goals
    go_enter Tryd.func66, Tryd.ntmps66
    go_upto_region 1 with (fail)
    rw [← hW]
    clear hW
    go_wp2
    go_ret
    exact ⟨rfl, HG.out⟩
theorem rmay_any (k : Nat) (x n : Int) (hk : k < 256) (w : World) : Calls Tryd.prog 66 #[.agg #[.int .u8 k, .int .i64 x, .int .i64 n]] w fun e w' => e = .returned (.bool (mayI k x n)) ∧ w.grownBy w' none := by
  by_cases h1 : k < 16 ∧ 0 ≤ x ∧ x ≤ 7 ∧ 0 ≤ n ∧ n ≤ 65535
  case neg =>
    rw [show mayI k x n = false from by
      cases e : mayI k x n
      · rfl
      · exact absurd (mayI_facts e) h1]
    exact rmay_out k x n hk w h1
  have e1 : mxX k = if k = 0 ∨ k = 15 ∨ k = 11 then 0 else 7 := rfl
  have e2 : mxN k = if k = 0 ∨ k = 15 then 0 else if 2 ≤ k ∧ k ≤ 10 then 7 else 65535 := by unfold mxN rgB; simp
  have val : ∀ b : Bool, (b = true ↔ k < 16 ∧ (0 ≤ x ∧ x ≤ mxX k) ∧ (0 ≤ n ∧ n ≤ mxN k)) → mayI k x n = b := fun b hb => by rw [Bool.eq_iff_iff, mayI_iff, hb]
  have key : k = 0 ∨ k = 15 ∨ k = 11 ∨ (2 ≤ k ∧ k ≤ 10) ∨ k = 1 ∨ (12 ≤ k ∧ k ≤ 14) := by omega
  rcases key with h | h | h | h | h | h
  · rw [if_pos (by omega)] at e1 e2
    by_cases hn : n = 0
    · rw [val (x == 0) (by rw [e1, e2, beq_iff_eq]; omega)]
      exact rmay_s0z k x n w h1 h hn
    · rw [val false (by rw [e1, e2]; simp; omega)]
      exact rmay_s0 k x n w h1 h hn
  · rw [if_pos (by omega)] at e1 e2
    by_cases hn : n = 0
    · rw [val (x == 0) (by rw [e1, e2, beq_iff_eq]; omega)]
      exact rmay_s15z k x n w h1 h hn
    · rw [val false (by rw [e1, e2]; simp; omega)]
      exact rmay_s15 k x n w h1 h hn
  · rw [if_pos (by omega)] at e1
    rw [if_neg (by omega), if_neg (by omega)] at e2
    rw [val (x == 0) (by rw [e1, e2, beq_iff_eq]; omega)]
    exact rmay_j k x n w h1 h
  · rw [if_neg (by omega)] at e1
    rw [if_neg (by omega), if_pos h] at e2
    by_cases hn : n ≤ 7
    · rw [val true (by rw [e1, e2]; simp; omega)]
      exact rmay_r k x n w h1 h hn
    · rw [val false (by rw [e1, e2]; simp; omega)]
      exact rmay_rn k x n w h1 h (by omega)
  · rw [if_neg (by omega)] at e1
    rw [if_neg (by omega), if_neg (by omega)] at e2
    rw [val true (by rw [e1, e2]; simp; omega)]
    exact rmay_o1 k x n w h1 h
  · rw [if_neg (by omega)] at e1
    rw [if_neg (by omega), if_neg (by omega)] at e2
    rw [val true (by rw [e1, e2]; simp; omega)]
    exact rmay_o2 k x n w h1 h
end Go.Proofs.YthhodadfiipffaaDoor

/- Package code: Put, by its contract. -/
namespace Go.Proofs.YthhodadfiipffaaDoor
open Go.RowKit Go.Lib
set_option linter.unusedVariables false

/-- An instruction's bytes. -/
def ptI (k : Nat) (x n : Int) : ByteArray := ⟨#[UInt8.ofNat k, UInt8.ofNat x.toNat, UInt8.ofNat (n % 256).toNat, UInt8.ofNat (n / 256 % 256).toNat]⟩
section
variable {w0 W W' : World} {b k : Nat} {x n : Int} {l l' : List UInt8}
end
end Go.Proofs.YthhodadfiipffaaDoor
