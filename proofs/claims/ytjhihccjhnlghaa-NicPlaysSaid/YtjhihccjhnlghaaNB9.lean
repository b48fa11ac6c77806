/- Each answer is the document's: the law. -/
import Derived.Test.YtjhihccjhnlghaaNB8
namespace Go.Proofs.Ytjhihccjhnlghaa
open Go.RowKit Go.Lib Go.ChangeShapes Go.WideShapes Go.ChangeAt Go.Deep
set_option linter.unusedVariables false

/-- Deeds that came in. -/
def DedN (w : World) (A : Option Addr) (len : Nat) (D : Nat → Ded) : Prop := 0 < len → ∃ b off, A = some ⟨b, off, none⟩ ∧ b < w.heap.size ∧ ∀ i, i < len → w.cell? ⟨b, off + i * 5, none⟩ = some (.int .i64 (D i).1) ∧ w.cell? ⟨b, off + i * 5 + 1, none⟩ = some (.int .i64 (D i).2.1) ∧ w.cell? ⟨b, off + i * 5 + 2, none⟩ = some (.int .i64 (D i).2.2.1) ∧ w.cell? ⟨b, off + i * 5 + 3, none⟩ = some (.int .i64 (D i).2.2.2.1) ∧ w.cell? ⟨b, off + i * 5 + 4, none⟩ = some (.string (D i).2.2.2.2)
theorem DedN.below {w w' : World} {A : Option Addr} {len : Nat} {D : Nat → Ded} (h : DedN w A len D) (hb : Below w.heap.size w w') : DedN w' A len D := fun hp => by
  obtain ⟨b, off, e, hg, hc⟩ := h hp
  exact ⟨b, off, e, Nat.lt_of_lt_of_le hg hb.size, fun i hi => ⟨(hb.cell (p := ⟨b, _, none⟩) hg).trans (hc i hi).1, (hb.cell (p := ⟨b, _, none⟩) hg).trans (hc i hi).2.1, (hb.cell (p := ⟨b, _, none⟩) hg).trans (hc i hi).2.2.1, (hb.cell (p := ⟨b, _, none⟩) hg).trans (hc i hi).2.2.2.1, (hb.cell (p := ⟨b, _, none⟩) hg).trans (hc i hi).2.2.2.2⟩⟩
def FitD (x : Ded) : Prop := fitI x.2.1
theorem open_deds {H : Type} {enc : TypeId × Value → H} {w : World} {base : Nat} {spare : Nat → Bool} {held : Bool} {A : Option Addr} {len cap fuel : Nat} {x : DataW H × List MemPlace}
    (h : DataW.trod enc Try.prog w base spare held fuel 23 [.slice A len cap] = some x) : len ≤ cap ∧ cap ≤ 9223372036854775807 ∧ ∃ d, DedN w A len d ∧ ∀ i, i < len → FitD (d i) := by
  obtain ⟨h1, h2, h3, h4⟩ := open_structs Try.underlying23 Try.underlying34 (by kernel_rfl) (by kernel_rfl) (by decide) h
  refine ⟨h1, by unfold maxLen at h2; omega, ?_⟩
  by_cases hp : 0 < len
  · obtain ⟨b, off, hA, hb, hc⟩ := h4 hp
    have hx : ∀ i, ∃ r : Ded, i < len → (w.cell? ⟨b, off + i * 5, none⟩ = some (.int .i64 r.1) ∧ w.cell? ⟨b, off + i * 5 + 1, none⟩ = some (.int .i64 r.2.1) ∧ w.cell? ⟨b, off + i * 5 + 2, none⟩ = some (.int .i64 r.2.2.1) ∧ w.cell? ⟨b, off + i * 5 + 3, none⟩ = some (.int .i64 r.2.2.2.1) ∧ w.cell? ⟨b, off + i * 5 + 4, none⟩ = some (.string r.2.2.2.2)) ∧ FitD r := by
      intro i
      by_cases hi : i < len
      · obtain ⟨v0, n0, y0, c0, r0⟩ := hc i hi 0 _ rfl
        obtain ⟨v1, n1, y1, c1, r1⟩ := hc i hi 1 _ rfl
        obtain ⟨v2, n2, y2, c2, r2⟩ := hc i hi 2 _ rfl
        obtain ⟨v3, n3, y3, c3, r3⟩ := hc i hi 3 _ rfl
        obtain ⟨v4, n4, y4, c4, r4⟩ := hc i hi 4 _ rfl
        obtain ⟨p, e0, _, w0⟩ := DataW.trod_int Try.underlying3 r0
        obtain ⟨q, e1, _, w1⟩ := DataW.trod_int Try.underlying3 r1
        obtain ⟨s, e2, _, w2⟩ := DataW.trod_int Try.underlying3 r2
        obtain ⟨u, e3, _, w3⟩ := DataW.trod_int Try.underlying3 r3
        obtain ⟨z, e4, _, w4⟩ := DataW.trod_string Try.underlying9 r4
        injection e0 with e0 _
        injection e1 with e1 _
        injection e2 with e2 _
        injection e3 with e3 _
        injection e4 with e4 _
        subst e0 e1 e2 e3 e4
        exact ⟨(p, q, s, u, z), fun _ => ⟨⟨c0, c1, c2, c3, c4⟩, fitI_of w1⟩⟩
      · exact ⟨(0, 0, 0, 0, .empty), fun h => absurd h hi⟩
    exact ⟨fun i => Classical.choose (hx i), fun _ => ⟨b, off, hA, hb, fun i hi => (Classical.choose_spec (hx i) hi).1⟩, fun i hi => (Classical.choose_spec (hx i) hi).2⟩
  · exact ⟨fun _ => (0, 0, 0, 0, .empty), fun h => absurd h hp, fun i hi => absurd hi (by omega)⟩

theorem dv_new2 {A : Option Addr} {n cap : Nat} {d : Nat → I3} {w : World} (hst : RowsN w A n cap d) (hn : n ≤ 1000000) (he : newE d n = 0) :
    Calls Try.prog 8 #[.slice A n cap] w fun e w' => ∃ dd O, e = .returned (.tuple #[.pointer (some ⟨dd, 0, none⟩), .int .i64 0]) ∧ Dv w' dd O 0 [] n (sp0 d) ∧ (∀ i, O i → w.heap.size ≤ i) ∧ Below w.heap.size w w' ∧ ∀ i, i < n → 0 ≤ (d i).2.2 := by
  refine (new_ok hst hn he).mono fun e w' ⟨dd, m, G, h1, h0, h6⟩ => ⟨dd, _, h1, ⟨m, _, G, h0.1, ?_, rfl⟩, h0.2.2.2, h6, fun i hi => ?_⟩
  · obtain ⟨h2, h3, h4, h5⟩ := h0
    have hm : G.map Gp.sp = (G.map Gp.pub).map fun r => (r.1, r.2.1, r.2.2.toNat, [], 0) := by
      rw [List.map_map]
      refine List.map_congr_left fun g hg => ?_
      obtain ⟨q1, q2⟩ := h4 g hg
      simp [Gp.sp, Gp.pub, q1, q2]
    rw [hm, h3]
    unfold rwN
    rw [List.map_map]
    rfl
  · obtain ⟨_, g, _, _, _, _, q, _⟩ := h0.seat hi
    omega
theorem new_bad {A : Option Addr} {n cap : Nat} {d : Nat → I3} {w : World} (hst : RowsN w A n cap d) (hn : n ≤ 1000000) (he : newE d n ≠ 0) :
    Calls Try.prog 8 #[.slice A n cap] w fun e w' => e = .returned (.tuple #[.pointer none, .int .i64 (newE d n)]) ∧ Below w.heap.size w w' := by
  refine (nnew_any A n cap d w hst hn).mono fun e w' ⟨h1, h2⟩ => ?_
  rcases h2 with ⟨q, _⟩ | ⟨_, q⟩
  · exact absurd q he
  · exact ⟨q, h1⟩
/-- A device just made, and the document's ports just laid. -/
theorem Bo.new {w0 w1 w2 : World} {A : Option Addr} {n c : Nat} {d : Nat → I3} {dd : Nat} {O : Nat → Prop} (h : OwnRP w1 w0.heap.size (.slice A n c) n (frp d)) (hd : Dv w2 dd O 0 [] n (sp0 d)) (ho : ∀ i, O i → w1.heap.size ≤ i) (hb : Below w1.heap.size w1 w2) (hl : ∀ i, i < n → 0 ≤ (d i).2.2) (hs : w0.heap.size ≤ w1.heap.size) :
    ∃ F, Bo w2 F d n dd A 0 [] 0 O (sp0 d) (frp d) ∧ ∀ i, F i → w0.heap.size ≤ i := by
  have hA : ∀ i, A = some ⟨i, 0, none⟩ → w0.heap.size ≤ i ∧ i < w1.heap.size := fun i hi => by
    have := World.ownsRow.lt h i (by rw [hi]; rfl)
    exact this
  have hD : ∀ i, DcO A n (frp d) i → w0.heap.size ≤ i ∧ i < w1.heap.size := by
    rintro i (⟨_, q⟩ | ⟨k, hk, q⟩)
    · exact hA i q
    · simp [frp, Value.ownBlock] at q
  have hDc : Dc w1 A n (frp d) := fun hp => by
    rcases h.2 with ⟨e, h0⟩ | ⟨g, cap, cur, e, hB, hg, hcap, hm, hc, hp'⟩
    · exact absurd hp (by omega)
    · injection e with e1 e2 e3
      subst e1
      have h' : w1.ownsRow w0.heap.size 52 5 (.slice (some ⟨g, 0, none⟩) n c) n (rpCells n (frp d)) := h
      refine ⟨g, cur, rfl, hg, by rw [hc]; exact Nat.mul_le_mul_right 5 hcap, fun j u hu => ?_⟩
      have hj := (List.getElem?_eq_some_iff.1 hu).1
      rw [rpCells_len] at hj
      have := h'.cellAt j hj
      have hb' : Blk w1 g 52 cur := hg
      rw [hb'.cell] at this
      rw [this, hu]
  refine ⟨fun i => O i ∨ DcO A n (frp d) i, ⟨hd, fun hp => (hDc.keeps (Keeps.of_below hb (fun _ => False)) fun _ _ h => h) hp, fun k hk => ⟨RowZ.nil 3 _, rfl, rfl, ?_, rfl⟩, Lk.new d n, Sm.new d n, Nat.le_refl _, fun i hi hi' => ?_, fun k g hk hg e => ?_, fun i => Iff.rfl⟩, fun i hi => ?_⟩
  · have := hl k hk
    simp only [frp, sp0]
    omega
  · have := hD i hi
    have := ho i hi'
    omega
  · simp [frp, Value.ownBlock] at e
  · rcases hi with hi | hi
    · exact Nat.le_trans hs (ho i hi)
    · exact (hD i hi).1
end Go.Proofs.Ytjhihccjhnlghaa
