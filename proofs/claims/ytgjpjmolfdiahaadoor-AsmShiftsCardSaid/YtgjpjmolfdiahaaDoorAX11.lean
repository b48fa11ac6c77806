/- Package asm: an instruction's words: what is wanted of a call's answers, in cases. -/
import Derived.Test.YtgjpjmolfdiahaaDoorAX10
import Derived.LoopN
namespace Go.Proofs.YtgjpjmolfdiahaaDoor
open Go.RowKit Go.Lib
set_option linter.unusedVariables false

theorem Am.numP_cases {o : Option Nat} {ln : Int} {w w' : World} {r : Ending} (h : Am.numP o ln w r w') : (∃ n : Nat, o = some n ∧ r = .returned (.int .i64 n) ∧ w.grownBy w' none) ∨ (o = none ∧ r = .panicked (Am.chn ln 3) ∧ w.grownBy w' none) := by
  obtain ⟨h1, h2⟩ := h
  cases o with
  | none => exact .inr ⟨rfl, h1, h2⟩
  | some n => exact .inl ⟨n, rfl, h1, h2⟩
theorem Am.valP_cases {o : Option (Nat × List UInt8)} {ln : Int} {w w' : World} {r : Ending} (h : Am.valP o ln w r w') : (∃ (n : Nat) (nm : List UInt8), o = some (n, nm) ∧ r = .returned (.tuple #[.int .i64 n, .string ⟨nm.toArray⟩]) ∧ w.grownBy w' none) ∨ (o = none ∧ r = .panicked (Am.chn ln 3) ∧ w.grownBy w' none) := by
  obtain ⟨h1, h2⟩ := h
  cases o with
  | none => exact .inr ⟨rfl, h1, h2⟩
  | some n => exact .inl ⟨n.1, n.2, rfl, h1, h2⟩
theorem Am.stP_cases {w w' : World} {b ln : Nat} {F : Nat → Prop} {z : Int × Am.St} {r : Ending} (h : Am.stP w b ln F z r w') : (z.1 = 0 ∧ r = .returned (.tuple #[]) ∧ ∃ F', Am.Rd w' b ln z.2 F' ∧ Am.Nx w w' F F') ∨ (z.1 ≠ 0 ∧ r = .panicked (Am.chn ln z.1) ∧ Keeps F w w') := by
  unfold Am.stP at h
  by_cases hz : z.1 = 0
  · rw [if_pos hz] at h
    exact .inl ⟨hz, h.1, h.2⟩
  · rw [if_neg hz] at h
    exact .inr ⟨hz, h.1, h.2⟩
theorem Am.stP_yes {w w' : World} {b ln : Nat} {F : Nat → Prop} {z : Int × Am.St} (hz : z.1 = 0) (h : ∃ F', Am.Rd w' b ln z.2 F' ∧ Am.Nx w w' F F') : Am.stP w b ln F z (.returned (.tuple #[])) w' := by
  unfold Am.stP
  rw [if_pos hz]
  exact ⟨rfl, h⟩
theorem Am.stP_no {w w' : World} {b ln : Nat} {F : Nat → Prop} {z : Int × Am.St} (hz : z.1 ≠ 0) (h : Keeps F w w') : Am.stP w b ln F z (.panicked (Am.chn ln z.1)) w' := by
  unfold Am.stP
  rw [if_neg hz]
  exact ⟨rfl, h⟩
/-- Words in a row of texts. -/
def Am.Wd (w : World) (A : Option Addr) (l : List (List UInt8)) : Prop := l = [] ∨ ∃ g off, A = some ⟨g, off, none⟩ ∧ g < w.heap.size ∧ ∀ j (h : j < l.length), w.cell? ⟨g, off + j, none⟩ = some (.string ⟨(l[j]).toArray⟩)
/-- What an instruction's words make of what was read. -/
def Am.insV (ln k : Nat) (l : List (List UInt8)) (st : Am.St) : Int × Am.St := match Am.ins k l with | none => (3, st) | some v => Am.putV ln v.1 v.2 st
theorem Am.pt_of (k x n : Nat) : (ptI k x n).data.toList = Am.pt k x n := by
  unfold ptI Am.pt
  simp only [Int.toNat_natCast]
  rw [show ((n : Int) % 256).toNat = n % 256 from by omega, show ((n : Int) / 256 % 256).toNat = n / 256 % 256 from by omega]
theorem Am.operands0 {k : Nat} (hk : k < 256) (h : Am.ops k = []) (w : World) : Calls Tryd.prog 41 #[.int .u8 k] w fun r w' => r = .returned (.slice none 0 0) ∧ w.grownBy w' none :=
  (Am.operands_any k hk w).mono fun r w' hp => by
    obtain ⟨g, ⟨_, e⟩ | ⟨l, e, ne, _⟩⟩ := hp
    · exact ⟨e, g⟩
    · exact absurd (e.symm.trans h) ne
theorem Am.operands1 {k : Nat} {p : Int} (hk : k < 256) (h : Am.ops k = [p]) (w : World) : Calls Tryd.prog 41 #[.int .u8 k] w fun r w' => r = .returned (.slice (some ⟨w.heap.size, 0, none⟩) 1 1) ∧ w.grownBy w' none ∧ w.heap.size < w'.heap.size ∧ w'.cell? ⟨w.heap.size, 0, none⟩ = some (.int .i64 p) :=
  (Am.operands_any k hk w).mono fun r w' hp => by
    obtain ⟨g, ⟨e, _⟩ | ⟨l, e, ne, hr, hs, hc⟩⟩ := hp
    · rw [h] at e; cases e
    · rw [h] at e
      subst e
      exact ⟨hr, g, hs, hc 0 p rfl⟩
theorem Am.operands2 {k : Nat} {p q : Int} (hk : k < 256) (h : Am.ops k = [p, q]) (w : World) : Calls Tryd.prog 41 #[.int .u8 k] w fun r w' => r = .returned (.slice (some ⟨w.heap.size, 0, none⟩) 2 2) ∧ w.grownBy w' none ∧ w.heap.size < w'.heap.size ∧ w'.cell? ⟨w.heap.size, 0, none⟩ = some (.int .i64 p) ∧ w'.cell? ⟨w.heap.size, 1, none⟩ = some (.int .i64 q) :=
  (Am.operands_any k hk w).mono fun r w' hp => by
    obtain ⟨g, ⟨e, _⟩ | ⟨l, e, ne, hr, hs, hc⟩⟩ := hp
    · rw [h] at e; cases e
    · rw [h] at e
      subst e
      exact ⟨hr, g, hs, hc 0 p rfl, hc 1 q rfl⟩
end Go.Proofs.YtgjpjmolfdiahaaDoor
