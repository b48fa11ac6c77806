/- Whether anything is wrong, the document's way, by its contract. -/
import Derived.Test.YtgkegmkedkgkcaaO18
namespace Go.Proofs.Ytgkegmkedkgkcaa
open Go.RowKit Go.Lib Go.Sort
set_option linter.unusedVariables false

/-- The document's word on one fault of one row. -/
def hasB (c : Cf) (why row : Nat) : Bool :=
  if why = 2 then decide (1 ≤ row ∧ row ≤ c.cn) && badC (c.cd (row - 1))
  else if why = 3 then decide (1 ≤ row ∧ row ≤ c.cn) && shB (c.cd (row - 1)) c.cd (row - 1)
  else if why = 4 then decide (1 ≤ row ∧ row ≤ c.wn) && badW c (c.wd (row - 1))
  else if why = 5 then decide (1 ≤ row ∧ row ≤ c.wn) && anyB (fun k => wM (c.wd (row - 1)) (c.wd k)) (row - 1)
  else if why = 6 then decide (row ≤ c.cn) && decide (fwI c row < 0)
  else if why = 7 then decide (row = 0) && shwB c
  else if why = 8 then decide (1 ≤ row ∧ row ≤ c.sn) && badS c (c.sd (row - 1))
  else if why = 9 then decide (1 ≤ row ∧ row ≤ c.sn) && anyB (fun k => sM (c.sd (row - 1)) (c.sd k)) (row - 1)
  else decide (1 ≤ row ∧ row ≤ c.cn) && decide (unitsV c row < (c.cd (row - 1)).quota)
theorem has_any (c : Cf) (w : World) (hc : CfV w c) (hf : FitCf c) (hcn : c.cn ≤ 1000) (why row : Nat) (h2 : 2 ≤ why) (h10 : why ≤ 10) (h32 : row ≤ 1000) : Calls Try.prog 14 #[cfv c, .int .i64 why, .int .i64 row] w fun e w' => e = .returned (.bool (hasB c why row)) ∧ w.grownBy w' none := by
  have key : why = 2 ∨ why = 3 ∨ why = 4 ∨ why = 5 ∨ why = 6 ∨ why = 7 ∨ why = 8 ∨ why = 9 ∨ why = 10 := by omega
  rcases key with rfl | rfl | rfl | rfl | rfl | rfl | rfl | rfl | rfl
  · exact has2_any c w hc hf row h32
  · exact has3_any c w hc hf row h32
  · exact has4_any c w hc hf row h32
  · exact has5_any c w hc hf row h32
  · exact has6_any c w hc hf row h32
  · exact has7_any c w hc hf row h32 hcn
  · exact has8_any c w hc hf row h32
  · exact has9_any c w hc hf row h32
  · exact has10_any c w hc hf row h32
/-- Nothing is wrong ahead of this fault of this row. -/
def NoneB (c : Cf) (y r : Nat) : Prop := (∀ a, 2 ≤ a → a < y → ∀ b, b ≤ 32 → hasB c a b = false) ∧ ∀ b, b < r → hasB c y b = false
/-- What was told so far. -/
def OutV (c : Cf) (w : World) (s : Value) (wr : World) (y r : Nat) : Prop :=
  ∃ L : List (Int × Int), RowZ 2 wr s L.length (flC L) ∧ (∀ k, s.ownBlock = some k → w.heap.size < k) ∧ L.length ≤ 33 * (y - 2) + r ∧ (L = [] ↔ NoneB c y r) ∧ BoxC wr w.heap.size c ∧ Below w.heap.size w wr
/-- What the document's Faults answers, so far as it is asked for. -/
def RFaultsV (c : Cf) (w : World) (e : Ending) (w' : World) : Prop := ∃ A n k, e = .returned (.slice A n k) ∧ (n = 0 ↔ frB c = true ∧ NoneB c 11 0) ∧ n ≤ 1000 ∧ w.grownBy w' none
theorem NoneB.next {c : Cf} {y : Nat} (hy : 2 ≤ y) : NoneB c y 33 ↔ NoneB c (y + 1) 0 := by
  constructor
  · rintro ⟨h1, h2⟩
    refine ⟨fun a ha hl b hb => ?_, fun b hb => by omega⟩
    by_cases e : a = y
    · rw [e]; exact h2 b (by omega)
    · exact h1 a ha (by omega) b hb
  · rintro ⟨h1, h2⟩
    exact ⟨fun a ha hl b hb => h1 a ha (by omega) b hb, fun b hb => h1 y hy (by omega) b (by omega)⟩
theorem NoneB.row {c : Cf} {y r : Nat} : NoneB c y (r + 1) ↔ NoneB c y r ∧ hasB c y r = false := by
  constructor
  · rintro ⟨h1, h2⟩
    exact ⟨⟨h1, fun b hb => h2 b (by omega)⟩, h2 r (by omega)⟩
  · rintro ⟨⟨h1, h2⟩, h3⟩
    refine ⟨h1, fun b hb => ?_⟩
    by_cases e : b = r
    · rw [e]; exact h3
    · exact h2 b (by omega)
theorem OutV.pass {c : Cf} {w wr w2 : World} {s : Value} {y r : Nat} (h : OutV c w s wr y r) (g : wr.grownBy w2 none) (hh : hasB c y r = false) : OutV c w s w2 y (r + 1) := by
  obtain ⟨L, h1, h2, h3, h4, h5, h6⟩ := h
  have hs := h6.size
  exact ⟨L, h1.grown g, h2, by omega, by rw [h4, NoneB.row]; exact ⟨fun x => ⟨x, hh⟩, fun x => x.1⟩, h5.only g (by simp), h6.trans (below_of_only g hs (by simp))⟩
theorem OutV.next {c : Cf} {w wr : World} {s : Value} {y : Nat} (h : OutV c w s wr y 33) (hy : 2 ≤ y) : OutV c w s wr (y + 1) 0 := by
  obtain ⟨L, h1, h2, h3, h4, h5, h6⟩ := h
  exact ⟨L, h1, h2, by omega, by rw [h4, NoneB.next hy], h5, h6⟩
end Go.Proofs.Ytgkegmkedkgkcaa
