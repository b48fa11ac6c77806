/- A device of package nic: what a call that writes one leaves; Come. -/
import Derived.Test.YtjhihccjhnlghaaNP5
import Derived.Test.YtjhihccjhnlghaaFM4
namespace Go.Proofs.Ytjhihccjhnlghaa
open Go.RowKit Go.Lib
set_option linter.unusedVariables false

/-- A port as it counts: owner, address, limit, frames, drops. -/
abbrev Sp := Int × Int × Nat × List Frm × Nat
def Gp.sp (g : Gp) : Sp := (g.o, g.mac, g.lim, g.l, g.dr)
/-- The port of an owner becomes another. -/
def updS (L : List Sp) (o : Int) (f : Sp → Sp) : List Sp := L.map fun x => if x.1 = o then f x else x
/-- What a call that writes a device leaves. -/
def NicN (w : World) (d m : Nat) (lv : Value) (G : List Gp) (w' : World) (odd' : Int) (S' : List Frm) (L' : List Sp) : Prop :=
  ∃ lv' G', NicG w' d m lv' odd' S' G' ∧ G'.map Gp.sp = L' ∧ Keeps (nOwn d m lv G) w w' ∧ ∀ i, nOwn d m lv' G' i → nOwn d m lv G i ∨ w.heap.size ≤ i
section
variable {w w' : World} {d m : Nat} {lv : Value} {odd : Int} {S : List Frm} {G : List Gp}
theorem NicN.from {w0 : World} {odd' : Int} {S' : List Frm} {L' : List Sp} (hb : Below w0.heap.size w0 w) (h : NicN w d m lv G w' odd' S' L') : NicN w0 d m lv G w' odd' S' L' := by
  obtain ⟨lv', G', h1, h2, h3, h4⟩ := h
  refine ⟨lv', G', h1, h2, (Keeps.of_below hb _).trans h3, fun i hi => (h4 i hi).imp id fun h => ?_⟩
  have := hb.size
  omega
theorem NicN.upto {w2 : World} {odd' : Int} {S' : List Frm} {L' : List Sp} (h : NicN w d m lv G w' odd' S' L') (hb : Below w'.heap.size w' w2) : NicN w d m lv G w2 odd' S' L' := by
  obtain ⟨lv', G', h1, h2, h3, h4⟩ := h
  exact ⟨lv', G', h1.below hb, h2, h3.trans (Keeps.of_below hb _), h4⟩
theorem upd_mid {A C : List Gp} {g : Gp} (f : Sp → Sp) (h : (A ++ g :: C).Pairwise fun a b => a.o ≠ b.o) : updS ((A ++ g :: C).map Gp.sp) g.o f = A.map Gp.sp ++ f g.sp :: C.map Gp.sp := by
  rw [List.pairwise_append] at h
  obtain ⟨_, h2, h3⟩ := h
  rw [List.pairwise_cons] at h2
  unfold updS
  rw [List.map_append, List.map_cons, List.map_append, List.map_cons, List.map_map, List.map_map]
  congr 1
  · refine List.map_congr_left fun x hx => ?_
    have : x.o ≠ g.o := h3 x hx g (List.mem_cons_self ..)
    simp [Gp.sp, this]
  · congr 1
    · simp [Gp.sp]
    · refine List.map_congr_left fun x hx => ?_
      have : x.o ≠ g.o := (h2.1 x hx).symm
      simp [Gp.sp, this]
/-- A port's queue was written. -/
theorem NicG.seat {A C : List Gp} {g : Gp} {l' : List Frm} {dr' : Nat} (h : NicG w d m lv odd S (A ++ g :: C)) (hq : QueFN w g.q g.v g.lim w' l' dr') :
    NicN w d m lv (A ++ g :: C) w' odd S (updS ((A ++ g :: C).map Gp.sp) g.o fun x => (x.1, x.2.1, x.2.2.1, l', dr')) := by
  obtain ⟨v', hQ, hK, hnew⟩ := hq
  have hlt := h.lt
  obtain ⟨h1, h2, h3, h4, h5, h6, h7, h8⟩ := h
  have hg : g ∈ A ++ g :: C := by simp
  have hown : ∀ i, (⟨g.o, g.mac, g.q, v', l', g.lim, dr'⟩ : Gp).own i → g.own i ∨ w.heap.size ≤ i := fun i hi => hnew i hi
  have h8' := h8
  rw [List.pairwise_append] at h8
  obtain ⟨p1, p2, p3⟩ := h8
  rw [List.pairwise_cons] at p2
  have hmem : ∀ x ∈ A ++ ⟨g.o, g.mac, g.q, v', l', g.lim, dr'⟩ :: C, x = ⟨g.o, g.mac, g.q, v', l', g.lim, dr'⟩ ∨ (x ∈ A ++ g :: C ∧ (∀ i, x.own i → ¬ g.own i)) := fun x hx => by
    rcases List.mem_append.1 hx with hx | hx
    · exact .inr ⟨by simp [hx], (p3 x hx g (List.mem_cons_self ..)).2.2⟩
    · rcases List.mem_cons.1 hx with hx | hx
      · exact .inl hx
      · exact .inr ⟨by simp [hx], fun i hi hi' => (p2.1 x hx).2.2 i hi' hi⟩
  refine ⟨lv, A ++ ⟨g.o, g.mac, g.q, v', l', g.lim, dr'⟩ :: C, ⟨h1.keeps hK fun e => (h7 g hg d e).1 rfl, ?_, h3.keeps hK fun i hi => (h6 i hi).2.2 g hg, fun x hx => ?_, h5, fun i hi => ⟨(h6 i hi).1, (h6 i hi).2.1, fun x hx hxi => ?_⟩, fun x hx i hi => ?_, ?_⟩, ?_, hK.mono fun i _ hi => .inr (.inr (.inr ⟨g, hg, hi⟩)), ?_⟩
  · have := h2.keeps hK fun e => (h7 g hg m e).2 rfl
    simpa [Gp.row] using this
  · rcases hmem x hx with rfl | ⟨hx, hn⟩
    · exact ⟨hQ, (h4 g hg).2⟩
    · exact ⟨(h4 x hx).1.keeps hK hn, (h4 x hx).2⟩
  · rcases hmem x hx with rfl | ⟨hx, hn⟩
    · rcases hown i hxi with e | e
      · exact (h6 i hi).2.2 g hg e
      · have := hlt i (.inr (.inr (.inl hi)))
        omega
    · exact (h6 i hi).2.2 x hx hxi
  · rcases hmem x hx with rfl | ⟨hx, hn⟩
    · rcases hown i hi with e | e
      · exact h7 g hg i e
      · have := hlt d (.inl rfl)
        have := hlt m (.inr (.inl rfl))
        omega
    · exact h7 x hx i hi
  · rw [List.pairwise_append, List.pairwise_cons]
    refine ⟨p1, ⟨fun y hy => ⟨(p2.1 y hy).1, (p2.1 y hy).2.1, fun i hi hi' => ?_⟩, p2.2⟩, fun x hx y hy => ?_⟩
    · rcases hown i hi with e | e
      · exact (p2.1 y hy).2.2 i e hi'
      · have := hlt i (.inr (.inr (.inr ⟨y, by simp [hy], hi'⟩)))
        omega
    · rcases List.mem_cons.1 hy with rfl | hy
      · have hp := p3 x hx g (List.mem_cons_self ..)
        refine ⟨hp.1, hp.2.1, fun i hi hi' => ?_⟩
        rcases hown i hi' with e | e
        · exact hp.2.2 i hi e
        · have := hlt i (.inr (.inr (.inr ⟨x, by simp [hx], hi⟩)))
          omega
      · exact p3 x hx y (List.mem_cons_of_mem _ hy)
  · rw [upd_mid _ (h8'.imp fun {a b} h => h.1)]
    simp [Gp.sp]
  · rintro i (rfl | rfl | hi | ⟨x, hx, hi⟩)
    · exact .inl (.inl rfl)
    · exact .inl (.inr (.inl rfl))
    · exact .inl (.inr (.inr (.inl hi)))
    · rcases hmem x hx with rfl | ⟨hx, hn⟩
      · rcases hown i hi with e | e
        · exact .inl (.inr (.inr (.inr ⟨g, hg, e⟩)))
        · exact .inr e
      · exact .inl (.inr (.inr (.inr ⟨x, hx, hi⟩)))
/-- The number of odd ones was written. -/
theorem NicG.odds (h : NicG w d m lv odd S G) (x : Int) : NicN w d m lv G (w.setCell ⟨d, 1, none⟩ (.int .i64 x)) x S (G.map Gp.sp) := by
  have hk : Keeps (fun i => i = d) w (w.setCell ⟨d, 1, none⟩ (.int .i64 x)) := (Keeps.refl (fun i => i = d) w).put (p := ⟨d, 1, none⟩) (.inl rfl) _
  have hb := h.1.put 1 (.int .i64 x)
  have h2 := h
  obtain ⟨h1, h2, h3, h4, h5, h6, h7, h8⟩ := h
  exact ⟨lv, G, ⟨by simpa using hb, h2.keeps hk fun e => h5 e.symm, h3.keeps hk fun i hi => (h6 i hi).1, fun g hg => ⟨(h4 g hg).1.keeps hk fun i hi => (h7 g hg i hi).1, (h4 g hg).2⟩, h5, h6, h7, h8⟩, rfl, hk.mono fun i _ hi => .inl hi, fun i hi => .inl hi⟩
end
end Go.Proofs.Ytjhihccjhnlghaa
