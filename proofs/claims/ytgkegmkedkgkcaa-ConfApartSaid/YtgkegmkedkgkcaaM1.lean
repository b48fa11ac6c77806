/- Meet, Holds, In, and the document's answers for them: their contracts. -/
import Derived.Test.YtgkegmkedkgkcaaS5
namespace Go.Proofs.Ytgkegmkedkgkcaa
open Go.RowKit Go.Lib Go.Sort
set_option linter.unusedVariables false

def isB (p : Int × Int) : Bool := decide (0 ≤ p.1 ∧ p.1 < p.2)
def holdsB (p : Int × Int) (k : Int) : Bool := decide (0 ≤ p.1 ∧ p.1 ≤ k ∧ k < p.2)
def inB (p : Int × Int) (n : Int) : Bool := decide (0 ≤ p.1 ∧ p.1 < p.2 ∧ p.2 ≤ n)
def meetsB (a b : Int × Int) : Bool := isB a && isB b && (holdsB a b.1 || holdsB b a.1)
def bothOf (a b : Int × Int) : Int × Int := (if a.1 < b.1 then b.1 else a.1, if b.2 < a.2 then b.2 else a.2)
def meetV (a b : Int × Int) : Int × Int := if meetsB a b then bothOf a b else (0, 0)

theorem is_any (p : Int × Int) (w : World) : Calls Try.prog 56 #[spv p] w fun e w' => e = .returned (.bool (isB p)) ∧ w.grownBy w' none := by
  by_cases h : 0 ≤ p.1 ∧ p.1 < p.2
  · have e : isB p = true := by simp [isB, h]
    rw [e]; exact is_yes p w h.1 h.2
  · have e : isB p = false := by simp [isB]; omega
    rw [e]; exact is_no p w h

theorem rholds_any (p : Int × Int) (k : Int) (w : World) : Calls Try.prog 44 #[spv p, .int .i64 k] w fun e w' => e = .returned (.bool (holdsB p k)) ∧ w.grownBy w' none := by
  obtain ⟨a, b⟩ := p
  have key : (0 ≤ a ∧ a ≤ k ∧ holdsB (a, b) k = decide (k < b)) ∨ (0 ≤ a ∧ ¬ a ≤ k ∧ holdsB (a, b) k = false) ∨ (¬ 0 ≤ a ∧ holdsB (a, b) k = false) := by
    by_cases h0 : 0 ≤ a
    · by_cases h1 : a ≤ k
      · exact .inl ⟨h0, h1, by simp [holdsB, h0, h1]⟩
      · exact .inr (.inl ⟨h0, h1, by simp [holdsB]; omega⟩)
    · exact .inr (.inr ⟨h0, by simp [holdsB]; omega⟩)
  rcases key with ⟨h0, h1, e⟩ | ⟨h0, h1, e⟩ | ⟨h0, e⟩
  all_goals
    have E := Lib.hid e
    clear e
    go_enter Try.func44, Try.ntmps44
    go_wp2
    go_ret
    rw [E.out]
    exact ⟨rfl, only_alloc (only_refl _ _) _⟩

theorem ris_any (p : Int × Int) (w : World) : Calls Try.prog 43 #[spv p] w fun e w' => e = .returned (.bool (isB p)) ∧ w.grownBy w' none := by
  obtain ⟨a, b⟩ := p
  have e : isB (a, b) = holdsB (a, b) a := by simp [isB, holdsB]
  have E := Lib.hid e
  clear e
  go_enter Try.func43, Try.ntmps43
  go_wp2_with (go_at_call 44; refine (rholds_any (a, b) a _).mono ?_; rintro e w2 ⟨rfl, g2⟩)
  go_ret
  rw [E.out]
  exact ⟨rfl, only_trans (only_alloc (only_refl _ _) _) g2⟩

theorem in_any (p : Int × Int) (n : Int) (w : World) : Calls Try.prog 41 #[spv p, .int .i64 n] w fun e w' => e = .returned (.bool (inB p n)) ∧ w.grownBy w' none := by
  obtain ⟨a, b⟩ := p
  have key : (isB (a, b) = true ∧ inB (a, b) n = decide (b ≤ n)) ∨ (isB (a, b) = false ∧ inB (a, b) n = false) := by
    by_cases h0 : 0 ≤ a ∧ a < b
    · exact .inl ⟨by simp [isB, h0], by simp [inB, h0]⟩
    · exact .inr ⟨by simp [isB]; omega, by simp [inB]; omega⟩
  rcases key with ⟨h0, e⟩ | ⟨h0, e⟩
  all_goals
    have E := Lib.hid e
    clear e
    go_enter Try.func41, Try.ntmps41
    go_wp2_with (go_at_call 56; refine (is_any (a, b) _).mono ?_; rintro e w2 ⟨rfl, g2⟩; have hblk := (Blk.new w 36 #[.int .i64 a, .int .i64 b]).only g2 (by simp); have e0 := hblk.cell 0; have e1 := hblk.cell 1; simp at e0 e1)
    go_ret
    rw [E.out]
    exact ⟨rfl, only_trans (only_alloc (only_refl _ _) _) g2⟩

/-- The two boxed spans of a call, in a world behind calls that lay blocks alone. -/
theorem boxes {w w2 : World} {p q : Int × Int} (g : ((w.alloc (.cells #[.int .i64 p.1, .int .i64 p.2] 36)).alloc (.cells #[.int .i64 q.1, .int .i64 q.2] 36)).grownBy w2 none) :
    w2.cell? ⟨w.heap.size, 0, none⟩ = some (.int .i64 p.1) ∧ w2.cell? ⟨w.heap.size, 1, none⟩ = some (.int .i64 p.2) ∧ w2.cell? ⟨w.heap.size + 1, 0, none⟩ = some (.int .i64 q.1) ∧ w2.cell? ⟨w.heap.size + 1, 1, none⟩ = some (.int .i64 q.2) := by
  have h1 := ((Blk.new w 36 #[.int .i64 p.1, .int .i64 p.2]).alloc (.cells #[.int .i64 q.1, .int .i64 q.2] 36)).only g (by simp)
  have h2 := (Blk.new (w.alloc (.cells #[.int .i64 p.1, .int .i64 p.2] 36)) 36 #[.int .i64 q.1, .int .i64 q.2]).only g (by simp)
  refine ⟨h1.cell 0, h1.cell 1, ?_, ?_⟩
  · simpa using h2.cell 0
  · simpa using h2.cell 1

theorem meets_any (p q : Int × Int) (w : World) : Calls Try.prog 17 #[spv p, spv q] w fun e w' => e = .returned (.bool (meetsB p q)) ∧ w.grownBy w' none := by
  have key : (isB p = false ∧ meetsB p q = false) ∨ (isB p = true ∧ isB q = false ∧ meetsB p q = false) ∨ (isB p = true ∧ isB q = true ∧ holdsB p q.1 = true ∧ meetsB p q = true) ∨ (isB p = true ∧ isB q = true ∧ holdsB p q.1 = false ∧ meetsB p q = holdsB q p.1) := by
    unfold meetsB
    cases isB p <;> cases isB q <;> cases holdsB p q.1 <;> simp
  obtain ⟨a, b⟩ := p
  obtain ⟨c, d⟩ := q
  rcases key with ⟨h0, e⟩ | ⟨h0, h1, e⟩ | ⟨h0, h1, h2, e⟩ | ⟨h0, h1, h2, e⟩
  all_goals
    have E := Lib.hid e
    clear e
    have g0 : ((w.alloc (.cells #[.int .i64 a, .int .i64 b] 36)).alloc (.cells #[.int .i64 c, .int .i64 d] 36)).grownBy ((w.alloc (.cells #[.int .i64 a, .int .i64 b] 36)).alloc (.cells #[.int .i64 c, .int .i64 d] 36)) none := only_refl _ _
    have G := Lib.hid g0
    clear g0
    go_enter Try.func17, Try.ntmps17
    go_wp2_with (first | (go_at_call 43; ((with_reducible refine (ris_any (a, b) _).mono ?_)); rintro e w2 ⟨rfl, g2⟩; have G2 := Lib.hid (only_trans G.out g2); obtain ⟨e0, e1, e2, e3⟩ := boxes (p := (a, b)) (q := (c, d)) G2.out; clear g2) | (go_at_call 43; ((with_reducible refine (ris_any (c, d) _).mono ?_)); rintro e w3 ⟨rfl, g3⟩; have G3 := Lib.hid (only_trans G2.out g3); obtain ⟨f0, f1, f2, f3⟩ := boxes (p := (a, b)) (q := (c, d)) G3.out; clear g3) | (go_at_call 44; ((with_reducible refine (rholds_any (a, b) c _).mono ?_)); rintro e w4 ⟨rfl, g4⟩; have G4 := Lib.hid (only_trans G3.out g4); obtain ⟨k0, k1, k2, k3⟩ := boxes (p := (a, b)) (q := (c, d)) G4.out; clear g4) | (go_at_call 44; ((with_reducible refine (rholds_any (c, d) a _).mono ?_)); rintro e w5 ⟨rfl, g5⟩; have G5 := Lib.hid (only_trans G4.out g5); clear g5))
    go_ret
    rw [E.out]
    refine ⟨rfl, ?_⟩
    first | exact only_trans (only_alloc (only_alloc (only_refl _ _) _) _) G5.out | exact only_trans (only_alloc (only_alloc (only_refl _ _) _) _) G4.out | exact only_trans (only_alloc (only_alloc (only_refl _ _) _) _) G3.out | exact only_trans (only_alloc (only_alloc (only_refl _ _) _) _) G2.out
end Go.Proofs.Ytgkegmkedkgkcaa
