/- Package asm: what an instruction's words are, and two bytes of a number, by their contracts. -/
import Derived.Test.YtgjpjmolfdiahaaDoorAX6
namespace Go.Proofs.YtgjpjmolfdiahaaDoor
open Go.RowKit Go.Lib
set_option linter.unusedVariables false

/-- A slice of the kinds of an instruction's words, of the call's own. -/
def Am.opsP (k : Nat) (w : World) (r : Ending) (w' : World) : Prop :=
  w.grownBy w' none ∧ ((Am.ops k = [] ∧ r = .returned (.slice none 0 0)) ∨ ∃ l : List Int, Am.ops k = l ∧ l ≠ [] ∧ r = .returned (.slice (some ⟨w.heap.size, 0, none⟩) l.length l.length) ∧ w.heap.size < w'.heap.size ∧ ∀ j x, l[j]? = some x → w'.cell? ⟨w.heap.size, j, none⟩ = some (.int .i64 x))
theorem Am.ops_row (w : World) (l : List Int) (hl : l = [3] ∨ l = [0, 2] ∨ l = [0, 1] ∨ l = [0, 3]) (t : TypeId) : ∀ j x, l[j]? = some x → (w.alloc (.cells (l.map (Value.int .i64)).toArray t)).cell? ⟨w.heap.size, j, none⟩ = some (.int .i64 x) := by
  intro j x h
  rw [(Blk.new w t (l.map (Value.int .i64)).toArray).cell j]
  simp [h]
set_option maxRecDepth 8000 in
theorem Am.operands_any (k : Nat) (hk : k < 256) (w : World) : Calls Tryd.prog 41 #[.int .u8 k] w (Am.opsP k w) := by
  have HR := Lib.hid (Go.Proofs.YtgjpjmolfdiahaaDoor.register_any k hk w)
  by_cases h0 : k = 0
  · subst h0
    have he : Am.ops 0 = [] := by decide
    go_enter Tryd.func41, Tryd.ntmps41
    go_wp2
    go_ret
    exact ⟨only_refl _ _, Or.inl ⟨he, rfl⟩⟩
  by_cases h15 : k = 15
  · subst h15
    have he : Am.ops 15 = [] := by decide
    go_enter Tryd.func41, Tryd.ntmps41
    go_wp2
    go_ret
    exact ⟨only_refl _ _, Or.inl ⟨he, rfl⟩⟩
  by_cases h11 : k = 11
  · subst h11
    have he : Am.ops 11 = [3] := by decide
    go_enter Tryd.func41, Tryd.ntmps41
    go_wp2
    go_ret
    exact ⟨only_alloc (only_refl _ _) _, Or.inr ⟨[3], he, by simp, rfl, by simp, Am.ops_row w [3] (by simp) _⟩⟩
  by_cases h14 : k = 14
  · subst h14
    have he : Am.ops 14 = [0, 2] := by decide
    go_enter Tryd.func41, Tryd.ntmps41
    go_wp2
    go_ret
    exact ⟨only_alloc (only_refl _ _) _, Or.inr ⟨[0, 2], he, by simp, rfl, by simp, Am.ops_row w [0, 2] (by simp) _⟩⟩
  have i0 : ¬ ((k : Int) = 0) := by omega
  have i15 : ¬ ((k : Int) = 15) := by omega
  have i11 : ¬ ((k : Int) = 11) := by omega
  have i14 : ¬ ((k : Int) = 14) := by omega
  have j0 : ((k : Int) == 0) = false := by rw [beq_eq_false_iff_ne]; exact i0
  have j15 : ((k : Int) == 15) = false := by rw [beq_eq_false_iff_ne]; exact i15
  have j11 : ((k : Int) == 11) = false := by rw [beq_eq_false_iff_ne]; exact i11
  have j14 : ((k : Int) == 14) = false := by rw [beq_eq_false_iff_ne]; exact i14
  have he : Am.ops k = if rgB k then [0, 1] else [0, 3] := by unfold Am.ops; rw [if_neg (by omega), if_neg h11, if_neg h14]
  have HE := Lib.hid he
  clear he h0 h11 h14 h15 i0 i15 i11 i14
  cases hr : rgB k
  · rw [hr] at HR HE
    clear hr
    go_enter Tryd.func41, Tryd.ntmps41
    go_wp2_with (first
      | (go_at_call 51; (with_reducible refine HR.out.mono ?_); rintro r w3 ⟨rfl, rfl⟩))
    go_ret
    exact ⟨only_alloc (only_refl _ _) _, Or.inr ⟨[0, 3], HE.out, by simp, rfl, by simp, Am.ops_row w [0, 3] (by simp) _⟩⟩
  · rw [hr] at HR HE
    clear hr
    go_enter Tryd.func41, Tryd.ntmps41
    go_wp2_with (first
      | (go_at_call 51; (with_reducible refine HR.out.mono ?_); rintro r w3 ⟨rfl, rfl⟩))
    go_ret
    exact ⟨only_alloc (only_refl _ _) _, Or.inr ⟨[0, 1], HE.out, by simp, rfl, by simp, Am.ops_row w [0, 1] (by simp) _⟩⟩
end Go.Proofs.YtgjpjmolfdiahaaDoor
