/- Package code: the codes' names, and the small functions, by their contracts. -/
import Derived.Test.YtgjpjmolfdiahaaDoorW1
namespace Go.Proofs.YtgjpjmolfdiahaaDoor
open Go.RowKit Go.Lib
set_option linter.unusedVariables false

/-- The codes' names. -/
def nmX : Nat → List UInt8
  | 0 => [115, 116, 111, 112]
  | 1 => [115, 101, 116]
  | 2 => [109, 111, 118, 101]
  | 3 => [97, 100, 100]
  | 4 => [115, 117, 98]
  | 5 => [97, 110, 100]
  | 6 => [120, 111, 114]
  | 7 => [114, 101, 97, 100]
  | 8 => [119, 114, 105, 116, 101]
  | 9 => [114, 101, 97, 100, 50]
  | 10 => [119, 114, 105, 116, 101, 50]
  | 11 => [106, 117, 109, 112]
  | 12 => [122, 101, 114, 111]
  | 13 => [108, 101, 115, 115]
  | 14 => [99, 97, 108, 108]
  | 15 => [114, 101, 115, 116]
  | _ => []
def nmL (k : Nat) : ByteArray := ⟨(nmX k).toArray⟩
/-- Where the package's table stands as it was laid. -/
structure Nm (w : World) : Prop where
  at' : ∀ k, k < 16 → w.cell? ⟨0, k, none⟩ = some (.string (nmL k))
  pos : 0 < w.heap.size
theorem Nm.grown {w w' : World} {r : Option Nat} (h : Nm w) (g : w.grownBy w' r) (hr : r ≠ some 0) : Nm w' :=
  ⟨fun k hk => by
    have := g.block 0 h.pos (fun e => hr e.symm)
    rw [show w'.cell? ⟨0, k, none⟩ = w.cell? ⟨0, k, none⟩ by simp only [World.cell?, this]]
    exact h.at' k hk, Nat.lt_of_lt_of_le h.pos g.size⟩
theorem Nm.below {B : Nat} {w w' : World} (h : Nm w) (hb : Below B w w') (hB : 0 < B) : Nm w' :=
  ⟨fun k hk => (hb.cell (p := ⟨0, k, none⟩) hB).trans (h.at' k hk), Nat.lt_of_lt_of_le h.pos hb.size⟩
theorem nm_one : ∀ i : Fin 16, ∀ j : Fin 16, nmX i.val = nmX j.val → i = j := by decide +kernel
theorem nmL_one {i j : Nat} (hi : i < 16) (hj : j < 16) (h : nmL i = nmL j) : i = j := by
  have h' : nmX i = nmX j := by
    have := congrArg (fun b : ByteArray => b.data.toList) h
    simpa [nmL] using this
  have := nm_one ⟨i, hi⟩ ⟨j, hj⟩ h'
  simpa using this
theorem nmL_some : ∀ i : Fin 16, nmX i.val ≠ [] := by decide +kernel
theorem nmL_none {k : Nat} (h : 16 ≤ k) : nmL k = ⟨#[]⟩ := by
  have : nmX k = [] := by
    obtain ⟨j, rfl⟩ : ∃ j, k = j + 16 := ⟨k - 16, by omega⟩
    rfl
  unfold nmL
  rw [this]
/-- The code of a name, if it is one. -/
def ndF (t : ByteArray) : Nat → Int × Bool
  | 0 => (0, false)
  | k + 1 => if nmX k = t.data.toList then ((k : Int), true) else ndF t k
def ndV (t : ByteArray) : Int × Bool := ndF t 16
theorem nmX_eq {k : Nat} {t : ByteArray} : nmX k = t.data.toList ↔ nmL k = t := by
  constructor
  · intro h
    unfold nmL
    rw [h]
  · rintro rfl
    simp [nmL]
theorem ndF_at {t : ByteArray} {k : Nat} (hk : k < 16) (h : nmL k = t) : ∀ n, k < n → n ≤ 16 → ndF t n = ((k : Int), true)
  | 0, h0, _ => by omega
  | n + 1, h0, h1 => by
    unfold ndF
    by_cases e : nmX n = t.data.toList
    · have := nmL_one (i := k) (j := n) hk (by omega) (h.trans (nmX_eq.1 e).symm)
      rw [if_pos e, this]
    · rw [if_neg e]
      refine ndF_at hk h n ?_ (by omega)
      have : k ≠ n := by
        rintro rfl
        exact e (nmX_eq.2 h)
      omega
theorem ndF_none {t : ByteArray} : ∀ n, (∀ k, k < n → nmL k ≠ t) → ndF t n = (0, false)
  | 0, _ => rfl
  | n + 1, h => by
    unfold ndF
    rw [if_neg (fun e => h n (by omega) (nmX_eq.1 e))]
    exact ndF_none n (fun k hk => h k (by omega))
theorem ndV_at {t : ByteArray} {k : Nat} (hk : k < 16) (h : nmL k = t) : ndV t = ((k : Int), true) := ndF_at hk h 16 hk (by omega)
theorem ndV_none {t : ByteArray} (h : ∀ k, k < 16 → nmL k ≠ t) : ndV t = (0, false) := ndF_none 16 h
theorem str_ne19 {a b : ByteArray} (h : a ≠ b) : (a.toList == b.toList) = false := by
  apply beq_eq_false_iff_ne.2
  intro he
  rw [ByteArray.toList_eq, ByteArray.toList_eq] at he
  apply h
  obtain ⟨x⟩ := a
  obtain ⟨y⟩ := b
  simp at he
  rw [he]
theorem name_any (k : Nat) (hk : k < 256) (w : World) (hG : Nm w) : Calls Tryd.prog 36 #[.int .u8 k] w fun e w' => e = .returned (.string (nmL k)) ∧ w = w' := by
  have hw : IntKind.i64.wrap (k : Int) = (k : Int) := by rw [IntKind.wrap_i64]; omega
  by_cases h : k < 16
  · have c := hG.at' k h
    have i0 : ¬ (16 : Int) ≤ (k : Int) := by omega
    have i1 : (k : Int) < 16 := by omega
    have i2 : (0 : Int) ≤ (k : Int) := by omega
    clear hG
    go_enter Tryd.func36, Tryd.ntmps36
    go_wp2
    go_ret
    exact ⟨rfl, rfl⟩
  · have i0 : (16 : Int) ≤ (k : Int) := by omega
    have e : nmL k = ⟨#[]⟩ := nmL_none (by omega)
    rw [e]
    clear hG e
    go_enter Tryd.func36, Tryd.ntmps36
    go_wp2
    go_ret
    exact ⟨rfl, rfl⟩
/-- Is a code's N a register. -/
def rgB (k : Nat) : Bool := decide (2 ≤ k ∧ k ≤ 10)
theorem register_any (k : Nat) (hk : k < 256) (w : World) : Calls Tryd.prog 51 #[.int .u8 k] w fun e w' => e = .returned (.bool (rgB k)) ∧ w = w' := by
  by_cases h : k < 11
  · have key : k = 0 ∨ k = 1 ∨ k = 2 ∨ k = 3 ∨ k = 4 ∨ k = 5 ∨ k = 6 ∨ k = 7 ∨ k = 8 ∨ k = 9 ∨ k = 10 := by omega
    rcases key with rfl | rfl | rfl | rfl | rfl | rfl | rfl | rfl | rfl | rfl | rfl
    all_goals
      go_enter Tryd.func51, Tryd.ntmps51
      go_wp2
      go_ret
      exact ⟨rfl, rfl⟩
  · have e : rgB k = false := by unfold rgB; simp; omega
    have i2 : ((k : Int) == 2) = false := by rw [beq_eq_false_iff_ne]; omega
    have i3 : ((k : Int) == 3) = false := by rw [beq_eq_false_iff_ne]; omega
    have i4 : ((k : Int) == 4) = false := by rw [beq_eq_false_iff_ne]; omega
    have i5 : ((k : Int) == 5) = false := by rw [beq_eq_false_iff_ne]; omega
    have i6 : ((k : Int) == 6) = false := by rw [beq_eq_false_iff_ne]; omega
    have i7 : ((k : Int) == 7) = false := by rw [beq_eq_false_iff_ne]; omega
    have i8 : ((k : Int) == 8) = false := by rw [beq_eq_false_iff_ne]; omega
    have i9 : ((k : Int) == 9) = false := by rw [beq_eq_false_iff_ne]; omega
    have i10 : ((k : Int) == 10) = false := by rw [beq_eq_false_iff_ne]; omega
    rw [e]
    clear e h
    go_enter Tryd.func51, Tryd.ntmps51
    go_wp2
    go_ret
    exact ⟨rfl, rfl⟩
def mxX (k : Nat) : Int := if k = 0 ∨ k = 15 ∨ k = 11 then 0 else 7
def mxN (k : Nat) : Int := if k = 0 ∨ k = 15 then 0 else if rgB k then 7 else 65535
theorem mostx_any (k : Nat) (hk : k < 256) (w : World) : Calls Tryd.prog 38 #[.int .u8 k] w fun e w' => e = .returned (.int .i64 (mxX k)) ∧ w = w' := by
  by_cases h : k = 0 ∨ k = 15 ∨ k = 11
  · rcases h with rfl | rfl | rfl
    all_goals
      go_enter Tryd.func38, Tryd.ntmps38
      go_wp2
      go_ret
      exact ⟨rfl, rfl⟩
  · have e : mxX k = 7 := by unfold mxX; rw [if_neg h]
    have i0 : ((k : Int) == 0) = false := by rw [beq_eq_false_iff_ne]; omega
    have i1 : ((k : Int) == 15) = false := by rw [beq_eq_false_iff_ne]; omega
    have i2 : ((k : Int) == 11) = false := by rw [beq_eq_false_iff_ne]; omega
    rw [e]
    clear e h
    go_enter Tryd.func38, Tryd.ntmps38
    go_wp2
    go_ret
    exact ⟨rfl, rfl⟩
theorem mostn_any (k : Nat) (hk : k < 256) (w : World) : Calls Tryd.prog 39 #[.int .u8 k] w fun e w' => e = .returned (.int .i64 (mxN k)) ∧ w = w' := by
  have HR := Lib.hid (fun W => register_any k hk W)
  by_cases h : k = 0 ∨ k = 15
  · clear HR
    rcases h with rfl | rfl
    all_goals
      go_enter Tryd.func39, Tryd.ntmps39
      go_wp2
      go_ret
      exact ⟨rfl, rfl⟩
  · have e : mxN k = if rgB k then 7 else 65535 := by unfold mxN; rw [if_neg h]
    have i0 : ((k : Int) == 0) = false := by rw [beq_eq_false_iff_ne]; omega
    have i1 : ((k : Int) == 15) = false := by rw [beq_eq_false_iff_ne]; omega
    rw [e]
    clear e h
    generalize rgB k = r at HR
    cases r
    all_goals
      go_enter Tryd.func39, Tryd.ntmps39
      go_wp2_with (go_at_call 51; (with_reducible refine (HR.out _).mono ?_); rintro e w1 ⟨rfl, rfl⟩)
      go_ret
      exact ⟨rfl, rfl⟩
theorem upto_any (n m : Int) (w : World) : Calls Tryd.prog 37 #[.int .i64 n, .int .i64 m] w fun e w' => e = .returned (.bool (decide (0 ≤ n ∧ n ≤ m))) ∧ w = w' := by
  by_cases h : 0 ≤ n
  · go_enter Tryd.func37, Tryd.ntmps37
    go_wp2
    go_ret
    exact ⟨by simp [h], rfl⟩
  · go_enter Tryd.func37, Tryd.ntmps37
    go_wp2
    go_ret
    exact ⟨by first | (simp [h]; done) | (simp; omega), rfl⟩
end Go.Proofs.YtgjpjmolfdiahaaDoor
