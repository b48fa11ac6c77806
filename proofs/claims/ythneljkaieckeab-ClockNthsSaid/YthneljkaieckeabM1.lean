/- Meet, Holds, In, and the document's answers for them: their contracts. -/
import Derived.Test.YthneljkaieckeabS5
namespace Go.Proofs.Ythneljkaieckeab
open Go.RowKit Go.Lib Go.Sort
set_option linter.unusedVariables false

def isB (p : Int × Int) : Bool := decide (0 ≤ p.1 ∧ p.1 < p.2)
def holdsB (p : Int × Int) (k : Int) : Bool := decide (0 ≤ p.1 ∧ p.1 ≤ k ∧ k < p.2)
def inB (p : Int × Int) (n : Int) : Bool := decide (0 ≤ p.1 ∧ p.1 < p.2 ∧ p.2 ≤ n)
def meetsB (a b : Int × Int) : Bool := isB a && isB b && (holdsB a b.1 || holdsB b a.1)
def bothOf (a b : Int × Int) : Int × Int := (if a.1 < b.1 then b.1 else a.1, if b.2 < a.2 then b.2 else a.2)
def meetV (a b : Int × Int) : Int × Int := if meetsB a b then bothOf a b else (0, 0)

theorem is_any (p : Int × Int) (w : World) : Calls Try.prog 23 #[spv p] w fun e w' => e = .returned (.bool (isB p)) ∧ w.grownBy w' none := by
  by_cases h : 0 ≤ p.1 ∧ p.1 < p.2
  · have e : isB p = true := by simp [isB, h]
    rw [e]; exact is_yes p w h.1 h.2
  · have e : isB p = false := by simp [isB]; omega
    rw [e]; exact is_no p w h

theorem rholds_any (p : Int × Int) (k : Int) (w : World) : Calls Try.prog 27 #[spv p, .int .i64 k] w fun e w' => e = .returned (.bool (holdsB p k)) ∧ w.grownBy w' none := by
  obtain ⟨a, b⟩ := p
  have key : (0 ≤ a ∧ a ≤ k ∧ holdsB (a, b) k = decide (k < b)) ∨ (0 ≤ a ∧ ¬ a ≤ k ∧ holdsB (a, b) k = false) ∨ (¬ 0 ≤ a ∧ holdsB (a, b) k = false) := by
    by_cases h0 : 0 ≤ a
    · by_cases h1 : a ≤ k
      · exact .inl ⟨h0, h1, by simp [holdsB, h0, h1]⟩
      · exact .inr (.inl ⟨h0, h1, by simp [holdsB]; omega⟩)
    · exact .inr (.inr ⟨h0, by simp [holdsB]; omega⟩)
  rcases key with ⟨h0, h1, e⟩ | ⟨h0, h1, e⟩ | ⟨h0, e⟩
  all_goals
    have E := Lib.hid e
    clear e
    go_enter Try.func27, Try.ntmps27
    go_wp2
    go_ret
    rw [E.out]
    exact ⟨rfl, only_alloc (only_refl _ _) _⟩

theorem ris_any (p : Int × Int) (w : World) : Calls Try.prog 16 #[spv p] w fun e w' => e = .returned (.bool (isB p)) ∧ w.grownBy w' none := by
  obtain ⟨a, b⟩ := p
  have e : isB (a, b) = holdsB (a, b) a := by simp [isB, holdsB]
  have E := Lib.hid e
  clear e
  go_enter Try.func16, Try.ntmps16
  go_wp2_with (go_at_call 27; refine (rholds_any (a, b) a _).mono ?_; rintro e w2 ⟨rfl, g2⟩)
  go_ret
  rw [E.out]
  exact ⟨rfl, only_trans (only_alloc (only_refl _ _) _) g2⟩

theorem holds_any (p : Int × Int) (k : Int) (w : World) : Calls Try.prog 30 #[spv p, .int .i64 k] w fun e w' => e = .returned (.bool (holdsB p k)) ∧ w.grownBy w' none := by
  obtain ⟨a, b⟩ := p
  have key : (isB (a, b) = true ∧ a ≤ k ∧ holdsB (a, b) k = decide (k < b)) ∨ (isB (a, b) = true ∧ ¬ a ≤ k ∧ holdsB (a, b) k = false) ∨ (isB (a, b) = false ∧ holdsB (a, b) k = false) := by
    by_cases h0 : 0 ≤ a ∧ a < b
    · by_cases h1 : a ≤ k
      · exact .inl ⟨by simp [isB, h0], h1, by simp [holdsB, h0, h1]⟩
      · exact .inr (.inl ⟨by simp [isB, h0], h1, by simp [holdsB]; omega⟩)
    · exact .inr (.inr ⟨by simp [isB]; omega, by simp [holdsB]; omega⟩)
  rcases key with ⟨h0, h1, e⟩ | ⟨h0, h1, e⟩ | ⟨h0, e⟩
  all_goals
    have E := Lib.hid e
    clear e
    go_enter Try.func30, Try.ntmps30
    go_wp2_with (go_at_call 23; refine (is_any (a, b) _).mono ?_; rintro e w2 ⟨rfl, g2⟩; have hblk := (Blk.new w 31 #[.int .i64 a, .int .i64 b]).only g2 (by simp); have e0 := hblk.cell 0; have e1 := hblk.cell 1; simp at e0 e1)
    go_ret
    rw [E.out]
    exact ⟨rfl, only_trans (only_alloc (only_refl _ _) _) g2⟩

/-- The two boxed spans of a call, in a world behind calls that lay blocks alone. -/
theorem boxes {w w2 : World} {p q : Int × Int} (g : ((w.alloc (.cells #[.int .i64 p.1, .int .i64 p.2] 31)).alloc (.cells #[.int .i64 q.1, .int .i64 q.2] 31)).grownBy w2 none) :
    w2.cell? ⟨w.heap.size, 0, none⟩ = some (.int .i64 p.1) ∧ w2.cell? ⟨w.heap.size, 1, none⟩ = some (.int .i64 p.2) ∧ w2.cell? ⟨w.heap.size + 1, 0, none⟩ = some (.int .i64 q.1) ∧ w2.cell? ⟨w.heap.size + 1, 1, none⟩ = some (.int .i64 q.2) := by
  have h1 := ((Blk.new w 31 #[.int .i64 p.1, .int .i64 p.2]).alloc (.cells #[.int .i64 q.1, .int .i64 q.2] 31)).only g (by simp)
  have h2 := (Blk.new (w.alloc (.cells #[.int .i64 p.1, .int .i64 p.2] 31)) 31 #[.int .i64 q.1, .int .i64 q.2]).only g (by simp)
  refine ⟨h1.cell 0, h1.cell 1, ?_, ?_⟩
  · simpa using h2.cell 0
  · simpa using h2.cell 1

end Go.Proofs.Ythneljkaieckeab
