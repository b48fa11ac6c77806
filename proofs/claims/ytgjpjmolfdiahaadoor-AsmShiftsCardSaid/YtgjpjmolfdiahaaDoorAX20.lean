/- Package asm: a text's lines gone through: what is kept from line to line, in plain form. -/
import Derived.Test.YtgjpjmolfdiahaaDoorAX19
namespace Go.Proofs.YtgjpjmolfdiahaaDoor
open Go.RowKit Go.Lib
set_option linter.unusedVariables false

theorem Am.one_le {i : Nat} {l : Am.Ln} {st : Am.St} (h : (Am.one i l st).1 = 0) (hp : st.pr.length ≤ 1024) : (Am.one i l st).2.pr.length ≤ 1024 ∧ (Am.one i l st).2.lb.length ≤ st.lb.length + 1 ∧ (Am.one i l st).2.ws.length ≤ st.ws.length + 1 := by
  unfold Am.one at h ⊢
  by_cases h0 : l.kind = 0
  · simp only [h0, if_true]; omega
  · by_cases h1 : l.kind = 1
    · simp only [h1, if_true, Nat.one_ne_zero, if_false]
      by_cases hl : (Am.look st.lb l.nm).isSome = true
      · rw [if_pos hl]; simp; omega
      · rw [if_neg hl]; simp; omega
    · by_cases h2 : l.kind = 2
      · rw [if_neg h0, if_neg h1, if_pos h2] at h ⊢
        by_cases hl : 1024 < st.pr.length + l.bs.length
        · rw [if_pos hl] at h; simp at h
        · rw [if_neg hl]
          by_cases hn : l.nm = []
          · simp [hn]; omega
          · simp [hn]; omega
      · rw [if_neg h0, if_neg h1, if_neg h2]; simp; omega
theorem Am.go_at {L : List (List UInt8)} {k : Nat} {st : Am.St} (hk : k < L.length) : Am.go k (L.drop k) st = if (Am.one (k + 1) (Am.line L[k]) st).1 = 0 then Am.go (k + 1) (L.drop (k + 1)) (Am.one (k + 1) (Am.line L[k]) st).2 else ((Am.one (k + 1) (Am.line L[k]) st).1, k + 1, st) := by
  rw [List.drop_eq_getElem_cons hk]
  rfl
theorem Am.line_skip {x : List UInt8} (h : x = [] ∨ x.head? = some 35) (ln : Nat) (st : Am.St) : Am.one ln (Am.line x) st = (0, st) := by
  unfold Am.line Am.one
  rw [if_pos h]
  rfl
theorem Am.line_label {x : List UInt8} (h : ¬ (x = [] ∨ x.head? = some 35)) (h2 : x.getLast? = some 58) (ln : Nat) (st : Am.St) : Am.one ln (Am.line x) st = Am.labV ln x.dropLast st := by
  unfold Am.line Am.labV
  rw [if_neg h, if_pos h2]
  by_cases hn : Am.isName x.dropLast = true
  · rw [if_pos hn, if_pos hn]; rfl
  · rw [if_neg hn, if_neg hn]; rfl
theorem Am.line_sen {x v : List UInt8} {r : List (List UInt8)} (h : ¬ (x = [] ∨ x.head? = some 35)) (h2 : ¬ x.getLast? = some 58) (hs : Am.spl 32 x = v :: r) (ln : Nat) (st : Am.St) : Am.one ln (Am.line x) st = Am.senV ln v r st := by
  unfold Am.line Am.senV
  rw [if_neg h, if_neg h2, hs]
  rfl
/-- What a text makes, in memory; or giving up. -/
def Am.txP (w : World) (b : Nat) (F : Nat → Prop) (z : Int × Nat × Am.St) (r : Ending) (w' : World) : Prop :=
  if z.1 = 0 then r = .returned (.tuple #[]) ∧ ∃ ln' F', Am.Rd w' b ln' z.2.2 F' ∧ Am.Nx w w' F F' else r = .panicked (Am.chn z.2.1 z.1) ∧ Keeps F w w'
/-- What is kept from line to line. -/
structure Am.TxI (w1 wr : World) (b : Nat) (F : Nat → Prop) (L : List (List UInt8)) (st : Am.St) (k : Nat) (st' : Am.St) (F' : Nat → Prop) (ln' : Nat) : Prop where
  go : Am.go 0 L st = Am.go k (L.drop k) st'
  rd : Am.Rd wr b ln' st' F'
  nx : Am.Nx w1 wr F F'
  pr : st'.pr.length ≤ 1024
  lb : st'.lb.length ≤ k
  ws : st'.ws.length ≤ k
section
variable {w w1 wr w' : World} {b : Nat} {F F' F3 : Nat → Prop} {L : List (List UInt8)} {st st' : Am.St} {k ln' : Nat}
theorem Am.TxI.line (h : Am.TxI w1 wr b F L st k st' F' ln') (j : Nat) : ∃ F2, Am.TxI w1 (wr.setCell ⟨b, 0, none⟩ (.int .i64 j)) b F L st k st' F2 j := by
  obtain ⟨pv, lv, wv, m, hR, hF⟩ := h.rd
  obtain ⟨q1, q2⟩ := hR.line j
  obtain ⟨F2, r1, r2⟩ := Am.Rd.of hF q1 q2
  exact ⟨F2, h.go, r1, h.nx.trans r2, h.pr, h.lb, h.ws⟩
theorem Am.TxI.next {z : Int × Am.St} (h : Am.TxI w1 wr b F L st k st' F' ln') (hk : k < L.length) {x : List UInt8} (hx : x = L[k]) (hz : Am.one (k + 1) (Am.line x) st' = z) (h0 : z.1 = 0) (hr : ∃ F3, Am.Rd w' b (k + 1) z.2 F3 ∧ Am.Nx wr w' F' F3) : ∃ F3, Am.TxI w1 w' b F L st (k + 1) z.2 F3 (k + 1) := by
  obtain ⟨F3, r1, r2⟩ := hr
  subst hx
  subst hz
  obtain ⟨p1, p2, p3⟩ := Am.one_le h0 h.pr
  have := h.lb
  have := h.ws
  exact ⟨F3, by rw [h.go, Am.go_at hk, if_pos h0], r1, h.nx.trans r2, p1, by omega, by omega⟩
theorem Am.TxI.dies {z : Int × Am.St} (h : Am.TxI w1 wr b F L st k st' F' ln') (n0 : Am.Nx w w1 F F) (hk : k < L.length) {x : List UInt8} (hx : x = L[k]) (hz : Am.one (k + 1) (Am.line x) st' = z) (h0 : z.1 ≠ 0) (hr : Keeps F' wr w') : Am.txP w b F (Am.go 0 L st) (.panicked (Am.chn ((k + 1 : Nat) : Int) z.1)) w' := by
  subst hx
  have e : Am.go 0 L st = (z.1, k + 1, st') := by rw [h.go, Am.go_at hk, hz, if_neg h0]
  unfold Am.txP
  rw [e, if_neg h0]
  have n1 : Am.Nx wr w' F' F' := ⟨hr, fun i hi => .inl hi⟩
  exact ⟨rfl, ((n0.trans h.nx).trans n1).1⟩
theorem Am.TxI.done (h : Am.TxI w1 wr b F L st k st' F' ln') (n0 : Am.Nx w w1 F F) (hk : L.length ≤ k) : Am.txP w b F (Am.go 0 L st) (.returned (.tuple #[])) wr := by
  have e : Am.go 0 L st = (0, 0, st') := by rw [h.go, List.drop_of_length_le hk]; rfl
  unfold Am.txP
  rw [e, if_pos rfl]
  exact ⟨rfl, ln', F', h.rd, n0.trans h.nx⟩
end
end Go.Proofs.YtgjpjmolfdiahaaDoor
