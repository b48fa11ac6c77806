/- The document's disk: the row that End writes. -/
import Derived.Test.YtlmdnhpdeiekfaaJ21
import Derived.Laws.IdiomStrings
namespace Go.Proofs.Ytlmdnhpdeiekfaa
open Go.RowKit Go.Lib
set_option linter.unusedVariables false

theorem RowZ.at1 {s : Nat} {w : World} {g off n c : Nat} {l : List Value} (h : RowZ s w (.slice (some ⟨g, off, none⟩) n c) n l) : g < w.heap.size ∧ ∀ j u, l[j]? = some u → w.cell? ⟨g, off + j, none⟩ = some u := by
  rcases h.2 with ⟨h0, _⟩ | ⟨g', off', cap', h1, _, _, h4, _, hc⟩
  · cases h0
  · injection h1 with e1 e2 e3
    injection e1 with e1
    injection e1 with e1 e2
    subst e1 e2
    exact ⟨h4, hc⟩
theorem RowZ.addr {s : Nat} {w : World} {A : Addr} {n c : Nat} {l : List Value} (h : RowZ s w (.slice (some A) n c) n l) : ∃ g off, A = ⟨g, off, none⟩ := by
  rcases h.2 with ⟨h0, _⟩ | ⟨g', off', cap', h1, _⟩
  · cases h0
  · injection h1 with e1 e2 e3
    injection e1 with e1
    exact ⟨_, _, e1⟩
/-- A part of a row, for an append. -/
theorem RowZ.part1 {w w' : World} {g off c : Nat} {l : List UInt8} (h : RowZ 1 w (.slice (some ⟨g, off, none⟩) l.length c) l.length (u8L l)) (hb : Below w.heap.size w w') (a m : Nat) (ha : a + m ≤ l.length) (c' : Nat) : Src Try.prog 1 71 (.slice (some ⟨g, off + a, none⟩) m c') m (u8L ((l.drop a).take m)) w' := by
  have hl : ((l.drop a).take m).length = m := by simp; omega
  refine Src.ofSlice w' Try.underlying71 _ _ _ _ (by rw [u8L_len, hl, Nat.mul_one]) (fun j u hu => ?_) (u8L_one _)
  have hj := (List.getElem?_eq_some_iff.1 hu).1
  rw [u8L_len, hl] at hj
  rw [addr_at, Nat.add_assoc]
  refine (hb.cell (p := ⟨g, off + (a + j), none⟩) h.at1.1).trans (h.at1.2 (a + j) u ?_)
  have hj2 : a + j < l.length := by omega
  have hj3 : j < m := hj
  rw [← hu]
  simp [u8L, hj3, List.getElem?_take, List.getElem?_drop]
/-- A text's bytes, for an append. -/
theorem txt_src (w : World) (t : ByteArray) (cap : Nat) : Src Try.prog 1 71 (.slice (some ⟨w.heap.size, 0, none⟩) t.size cap) t.size (u8L t.data.toList) (w.drew.alloc (.cells (bytesRow t cap) 5 ((bytesRow t cap).size, (bytesRow t cap).size + 1))) := by
  refine Src.ofSlice _ Try.underlying71 _ _ _ _ (by rw [u8L_len, Nat.mul_one, Array.length_toList]; rfl) (fun j u hu => ?_) (u8L_one _)
  have hj := (List.getElem?_eq_some_iff.1 hu).1
  rw [u8L_len] at hj
  have hj' : j < t.data.size := by simpa using hj
  have c := World.cell?_alloc_mark w.drew (bytesRow t cap) 5 ((bytesRow t cap).size, (bytesRow t cap).size + 1) j
  rw [addr_at, Nat.zero_add]
  refine c.trans ?_
  rw [← hu]
  unfold bytesRow u8L
  rw [Array.getElem?_append_left (by simpa using hj')]
  simp [hj']
set_option maxHeartbeats 1600000 in
theorem wr_any (W : World) (g2 off2 c2 q : Nat) (l : List UInt8) (t : ByteArray) (hrow : RowZ 1 W (.slice (some ⟨g2, off2, none⟩) l.length c2) l.length (u8L l)) (hq : q + t.size ≤ l.length) (hl : l.length ≤ 1024) (A3 : Addr) (c3 : Nat) (hA : A3 = ⟨g2, off2 + (q + t.size), none⟩ ∨ l.length = q + t.size) :
    ∃ v1 W1 s2 W2 v3 W3 v4 W4, (Builtin.append_ #[71, 71] 71 #[.slice (some ⟨W.heap.size, 0, none⟩) 0 0, .slice (some ⟨g2, off2, none⟩) q c2]).run Try.prog (W.alloc (.cells #[] 5)) = .ok v1 W1 ∧
      (convert 9 71 (.string t)).run Try.prog W1 = .ok s2 W2 ∧
      (Builtin.append_ #[71, 71] 71 #[v1, s2]).run Try.prog W2 = .ok v3 W3 ∧
      (Builtin.append_ #[71, 71] 71 #[v3, .slice (some A3) (l.length - (q + t.size)) c3]).run Try.prog W3.drew = .ok v4 W4 ∧
      RowZ 1 W4 v4 l.length (u8L (l.take q ++ t.data.toList ++ l.drop (q + t.size))) ∧ Below W.heap.size W W1 ∧ Below W.heap.size W W2 ∧ Below W.heap.size W W3 ∧ Below W.heap.size W W4 ∧ ∀ k, v4.ownBlock = some k → W.heap.size ≤ k := by
  obtain ⟨i0, hi0, hz0, hz1, hz2⟩ := info_parts by_info
  have b0 : Below W.heap.size W (W.alloc (.cells #[] 5)) := (Below.refl _ _).alloc (Nat.le_refl _) _
  have s1 := RowZ.part1 hrow b0 0 q (by omega) c2
  rw [Nat.add_zero, List.drop_zero] at s1
  obtain ⟨v1, W1, e1, r1, g1, o1, ⟨A1, c1, rfl⟩⟩ := run_allZ (P := Try.prog) (W.alloc (.cells #[] 5)) 71 5 71 i0 _ 1 Try.underlying71 hi0 hz0 hz1 hz2 (by omega) rfl W.heap.size q (by simp) _ _ s1 (by omega)
  have b1 : Below W.heap.size W W1 := b0.trans (below_of_only g1 b0.size (by simp))
  have e2 := run_bytes_of_string (P := Try.prog) W1 9 71 5 t Try.underlying9 Try.underlying71 Try.underlying5
  have s2 := txt_src W1 t (grownCap W1 t.size 0 5)
  have b2 : Below W1.heap.size W1 (W1.drew.alloc (.cells (bytesRow t (grownCap W1 t.size 0 5)) 5 ((bytesRow t (grownCap W1 t.size 0 5)).size, (bytesRow t (grownCap W1 t.size 0 5)).size + 1))) := (Below.refl _ _).drew.alloc (Nat.le_refl _) _
  generalize W1.drew.alloc (.cells (bytesRow t (grownCap W1 t.size 0 5)) 5 ((bytesRow t (grownCap W1 t.size 0 5)).size, (bytesRow t (grownCap W1 t.size 0 5)).size + 1)) = W2 at e2 s2 b2
  have r2 := r1.below b2 (fun k hk => r1.lt k hk)
  have B2 : Below W.heap.size W W2 := b1.trans (b2.mono b1.size)
  obtain ⟨g, off, rfl⟩ := r2.addr
  have hg : W.heap.size ≤ g := by
    rcases o1 with o1 | o1
    · simp [Value.ownBlock] at o1
      omega
    · simp [Value.ownBlock] at o1
      omega
  have hg2 : g < W1.heap.size := r1.lt g rfl
  have hlq : (l.take q).length = q := by simp; omega
  obtain ⟨v3, W3, e3, r3, g3, o3, ⟨A4, c4, rfl⟩⟩ := run_joinZ (P := Try.prog) W2 71 5 71 i0 _ 1 Try.underlying71 hi0 hz0 hz1 hz2 (by omega) rfl g off c1 q t.size _ r2 (u8L_one _) _ _ s2 (by omega)
  have B3 : Below W.heap.size W W3 := B2.trans (below_of_only g3 B2.size (fun k hk => by injection hk with hk; omega))
  have hszs : W2.heap.size ≤ W3.heap.size := g3.size
  obtain ⟨g', off', rfl⟩ := r3.addr
  have hg' : W.heap.size ≤ g' := by
    have := B2.size
    rcases o3 with o3 | o3
    · simp [Value.ownBlock] at o3
      omega
    · simp [Value.ownBlock] at o3
      omega
  have s4 : Src Try.prog 1 71 (.slice (some A3) (l.length - (q + t.size)) c3) (l.length - (q + t.size)) (u8L (l.drop (q + t.size))) W3.drew := by
    rcases hA with rfl | hA
    · have := RowZ.part1 hrow (below_drewN B3 1) (q + t.size) (l.length - (q + t.size)) (by omega) c3
      rw [List.take_of_length_le (by simp)] at this
      exact this
    · have e0 : l.drop (q + t.size) = [] := List.drop_eq_nil_of_le (by omega)
      rw [e0, hA, Nat.sub_self]
      exact Src.ofSlice _ Try.underlying71 _ _ _ _ (by simp [u8L]) (by simp [u8L]) (by simp [u8L])
  obtain ⟨v4, W4, e4, r4, g4, o4, _⟩ := run_joinZ (P := Try.prog) W3.drew 71 5 71 i0 _ 1 Try.underlying71 hi0 hz0 hz1 hz2 (by omega) rfl g' off' c4 (q + t.size) (l.length - (q + t.size)) _ (r3.drewN 1) (by
    intro u hu
    rw [← u8L_app] at hu
    exact u8L_one _ u hu) _ _ s4 (by omega)
  have hle : q + t.size + (l.length - (q + t.size)) = l.length := by omega
  rw [hle, ← u8L_app, ← u8L_app] at r4
  refine ⟨_, W1, _, W2, _, W3, v4, W4, e1, e2, e3, e4, r4, b1, B2, B3, (below_drewN B3 1).trans (below_of_only g4 (below_drewN B3 1).size (fun k hk => by injection hk with hk; omega)), fun k hk => ?_⟩
  rcases o4 with o4 | o4
  · rw [o4] at hk
    injection hk with hk
    omega
  · rw [o4] at hk
    injection hk with hk
    have := B3.size
    rw [← hk]
    exact this
end Go.Proofs.Ytlmdnhpdeiekfaa
