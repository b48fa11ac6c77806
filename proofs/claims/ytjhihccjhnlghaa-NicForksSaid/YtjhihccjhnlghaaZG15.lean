import Derived.Test.YtjhihccjhnlghaaZG12
import Derived.Test.YtjhihccjhnlghaaZG14
set_option linter.all false
/- Forks: of a queue of frames; ports in another order. -/
namespace Go.Proofs.Ytjhihccjhnlghaa
open Go.RowKit Go.Lib
set_option linter.unusedVariables false

section
variable {w : World} {b : Nat} {v : Value} {l : List Frm} {lim dr : Nat}
set_option maxRecDepth 20000 in
theorem ffork_any (h : QueF w b v l lim dr) (hn : l.length ≤ 1000) :
    Calls Try.prog 38 #[.pointer (some ⟨b, 0, none⟩)] w fun e w' => ∃ b' v', e = .returned (.pointer (some ⟨b', 0, none⟩)) ∧ QueF w' b' v' l lim dr ∧ (∀ i, OwnQ b' v' i → w.heap.size ≤ i) ∧ Below w.heap.size w w' := by
  have c0 : w.cell? ⟨b, 0, none⟩ = some v := h.1.cell 0
  have c1 : w.cell? ⟨b, 1, none⟩ = some (.int .i64 lim) := h.1.cell 1
  have c2 : w.cell? ⟨b, 2, none⟩ = some (.int .i64 dr) := h.1.cell 2
  have hb0 : Below w.heap.size w (w.alloc (.cells #[v, .int .i64 lim, .int .i64 dr] 92)) := (Below.refl _ _).alloc (Nat.le_refl _) _
  have d0 : (w.alloc (.cells #[v, .int .i64 lim, .int .i64 dr] 92)).cell? ⟨b, 0, none⟩ = some v := Go.Lib.cell?_alloc_some _ c0
  have HC := Lib.hid (frm_clone _ v l (h.2.1.below hb0 fun i hi => h.2.1.lt i hi) hn)
  have HX := Lib.hid (Blk.new w 92 #[v, .int .i64 lim, .int .i64 dr])
  have HB0 := Lib.hid hb0
  obtain ⟨Av, cv, rfl⟩ := h.2.1.form
  clear h hb0
  go_enter Try.func38, Try.ntmps38
  go_wp2_with (go_at_call 55; (with_reducible refine HC.out.mono ?_); rintro e w1 ⟨v1, rfl, r1, o1, b1⟩; have x1 := HX.out.below b1 HX.out.lt; have e0 := x1.cell 0; have f0 := x1.free 0; obtain ⟨A1, k1, rfl⟩ := r1.form; have X1 := Lib.hid x1; have R1 := Lib.hid r1; have O1 := Lib.hid o1; have B1 := Lib.hid (HB0.out.trans (b1.mono (by simp))); clear r1 o1 b1 x1)
  go_ret
  have hne : (Value.slice A1 l.length k1).ownBlock ≠ some w.heap.size := fun e => absurd (O1.out _ e) (by first | (simp; done) | (simp; omega))
  refine ⟨_, _, rfl, ⟨X1.out.put 0 _, R1.out.put hne _, hne⟩, ?_, B1.out.setCell (Nat.le_refl _) _⟩
  rintro i (rfl | hi)
  · exact Nat.le_refl _
  · have := O1.out i hi
    simp at this
    omega
end

/-- A map's ports in another order. -/
theorem Says.perm {D : DataW Unit} {L L' : List Pp} (h : Says D L) (hp : L.Perm L') : Says D L' := by
  obtain ⟨h1, h2, h3⟩ := h
  refine ⟨h1, fun o ho => ?_, fun r hr => h3 r (hp.mem_iff.2 hr)⟩
  rw [h2 o ho, Bool.eq_iff_iff, List.any_eq_true, List.any_eq_true]
  exact ⟨fun ⟨x, hx, q⟩ => ⟨x, hp.mem_iff.1 hx, q⟩, fun ⟨x, hx, q⟩ => ⟨x, hp.mem_iff.2 hx, q⟩⟩
theorem MapP.perm {w : World} {b : Nat} {L L' : List Pp} (h : MapP w b L) (hp : L.Perm L') : MapP w b L' := by
  obtain ⟨D, h1, h2⟩ := h
  exact ⟨D, by rw [← hp.length_eq]; exact h1, h2.perm hp⟩
theorem NicG.perm {w : World} {d m : Nat} {lv : Value} {odd : Int} {S : List Frm} {G G' : List Gp} (h : NicG w d m lv odd S G) (hp : G.Perm G') : NicG w d m lv odd S G' := by
  obtain ⟨h1, h2, h3, h4, h5, h6, h7, h8⟩ := h
  refine ⟨h1, h2.perm (hp.map _), h3, fun g hg => h4 g (hp.mem_iff.2 hg), h5, fun i hi => ⟨(h6 i hi).1, (h6 i hi).2.1, fun g hg => (h6 i hi).2.2 g (hp.mem_iff.2 hg)⟩, fun g hg => h7 g (hp.mem_iff.2 hg), ?_⟩
  exact (hp.pairwise_iff (fun {a b} q => ⟨q.1.symm, q.2.1.symm, fun i hi hi' => q.2.2 i hi' hi⟩)).1 h8
/-- A list whose images are others in another order can be put into that order. -/
theorem perm_lift {α β : Type} (f : α → β) {l2 : List β} : ∀ {l1 : List α}, (l1.map f).Perm l2 → ∃ l1', l1.Perm l1' ∧ l1'.map f = l2 := by
  induction l2 with
  | nil =>
    intro l1 h
    have : l1 = [] := by simpa using h.length_eq
    subst this
    exact ⟨[], .refl _, rfl⟩
  | cons y l2 ih =>
    intro l1 h
    have hy : y ∈ l1.map f := h.mem_iff.2 (List.mem_cons_self ..)
    obtain ⟨x, hx, rfl⟩ := List.mem_map.1 hy
    obtain ⟨a, c, rfl⟩ := List.append_of_mem hx
    have hm : (a ++ x :: c).Perm (x :: (a ++ c)) := List.perm_middle
    have h2 : ((a ++ c).map f).Perm l2 := by
      have := ((hm.map f).symm.trans h)
      rw [List.map_cons] at this
      exact this.cons_inv
    obtain ⟨l', q1, q2⟩ := ih h2
    exact ⟨x :: l', hm.trans (q1.cons x), by rw [List.map_cons, q2]⟩
end Go.Proofs.Ytjhihccjhnlghaa
