/- The clients' rows copied, and one of them moved: what the law of moves lays. -/
import Derived.Test.YtgkegmkedkgkcaaO23
namespace Go.Proofs.Ytgkegmkedkgkcaa
open Go.RowKit Go.Lib Go.Sort
set_option linter.unusedVariables false

/-- append of a whole row onto an empty one of no room, of larger elements. -/
theorem run_allY {P : Program} {s : Nat} (w : World) (t e ty : TypeId) (i : TypeInfo) (z : Value) (bytes : Nat) (ht : P.underlying t = some (.slice e)) (hi : P.info? e = some i) (hz : i.zero = some z) (hs : i.size = s) (hby : i.bytes = bytes) (hb16 : bytes ≤ 128) (hzs : z.cells.size = s)
    (b m : Nat) (hb : b < w.heap.size) (xs : Value) (x : List Value) (hx : Src P s t xs m x w) (hn : m ≤ 1000000) :
    ∃ v' w', (Builtin.append_ #[t, t] ty #[.slice (some ⟨b, 0, none⟩) 0 0, xs]).run P w = .ok v' w' ∧ RowZ s w' v' m x ∧ w.grownBy w' none ∧ (v'.ownBlock = some b ∨ v'.ownBlock = some w.heap.size) ∧ ∃ A c, v' = .slice (some A) m c := by
  have hxl : x.length = m * s := hx.newsLen
  have hsrc : Src P i.size t xs m x w := by rw [hs]; exact hx
  rcases Nat.eq_zero_or_pos m with rfl | hm
  · have hx0 : x = [] := List.eq_nil_of_length_eq_zero (by omega)
    subst hx0
    have hr := run_append_room_src (P := P) w t t ty e i ht hi b 0 0 0 xs 0 [] hsrc (by omega) (by simp) (by simp)
    exact ⟨_, _, hr, RowZ.empty s 0 hb, only_refl w none, .inl rfl, _, _, rfl⟩
  · have hbm : (0 + m) * bytes ≤ 140737488355328 := by
      have : (0 + m) * bytes ≤ 1000001 * 128 := Nat.mul_le_mul (by omega) hb16
      omega
    have hold := ((RowZ.empty (w := w) s 0 hb).drewN 1).src (P := P) t e ht (by simp) |>.cells
    have hm2 : 0 + m ≤ maxLen := by unfold maxLen; omega
    have hge := grownCap_ge w (0 + m) 0 e
    have hcm := grownCap_le_maxLen w (0 + m) 0 e hm2
    have hr := run_append_grow_src (P := P) w t t ty e i z ht hi hz (some ⟨b, 0, none⟩) 0 0 [] (by rw [hs]; exact hold) xs m x hsrc (by omega) (by omega) (by rw [hby]; exact growslice_fits (by omega) hbm)
    rw [Nat.zero_add, List.nil_append] at hr
    rw [Nat.zero_add] at hge hcm
    refine ⟨_, _, hr, ?_, ⟨rfl, rfl, rfl, by simp, fun k hk _ => Below.heap_alloc w.drew _ k hk⟩, .inr rfl, _, _, rfl⟩
    refine RowZ.new w.drew _ e _ hxl ?_ hge hcm (fun j u hu => ?_)
    · simp only [Array.size_append, List.size_toArray, size_zeroCells, hzs, hxl]
      rw [← Nat.add_mul]
      congr 1
      omega
    · have hj := (List.getElem?_eq_some_iff.1 hu).1
      rw [Array.getElem?_append_left (by simpa using hj)]
      simpa using hu


theorem flat_len {α : Type} (f : Nat → List α) (s : Nat) (hf : ∀ i, (f i).length = s) (n : Nat) : ((List.range n).flatMap f).length = n * s := by
  induction n with
  | zero => simp
  | succ n ih =>
    rw [List.range_succ, List.flatMap_append, List.length_append, ih, Nat.add_mul, Nat.one_mul]
    simp [hf]
theorem flat_get {α : Type} (f : Nat → List α) (s : Nat) (hf : ∀ i, (f i).length = s) (n i t : Nat) (hi : i < n) (ht : t < s) : ((List.range n).flatMap f)[i * s + t]? = (f i)[t]? := by
  induction n with
  | zero => omega
  | succ n ih =>
    have hl := flat_len f s hf n
    rw [List.range_succ, List.flatMap_append]
    by_cases h : i < n
    · have : (i + 1) * s ≤ n * s := Nat.mul_le_mul_right s h
      rw [Nat.add_mul, Nat.one_mul] at this
      rw [List.getElem?_append_left (by omega), ih h]
    · obtain rfl : i = n := by omega
      rw [List.getElem?_append_right (by omega), hl, Nat.add_sub_cancel_left]
      simp
/-- The cells of clients. -/
def clL (n : Nat) (d : Nat → Cl) : List Value := (List.range n).flatMap fun i => (clA (d i)).toList
theorem clL_len (n : Nat) (d : Nat → Cl) : (clL n d).length = n * 10 := flat_len _ 10 (fun i => rfl) n
theorem clL_one (n : Nat) (d : Nat → Cl) : ∀ u ∈ clL n d, u.oneCell' = true := by
  intro u hu
  simp only [clL, List.mem_flatMap] at hu
  obtain ⟨i, _, h⟩ := hu
  simp at h
  rcases h with rfl | rfl | rfl | rfl | rfl | rfl | rfl | rfl | rfl | rfl <;> rfl
theorem clL_get {n : Nat} {d : Nat → Cl} {i t : Nat} (hi : i < n) (ht : t < 10) : (clL n d)[i * 10 + t]? = (clA (d i))[t]? := by
  unfold clL
  rw [flat_get _ 10 (fun i => rfl) n i t hi ht]
  simp
theorem rowC_cells {w : World} {b off n : Nat} {d : Nat → Cl} : (∀ i, i < n → ClC w b (off + i * 10) (d i)) ↔ ∀ j u, (clL n d)[j]? = some u → w.cell? ⟨b, off + j, none⟩ = some u := by
  constructor
  · intro h j u hu
    have hj := (List.getElem?_eq_some_iff.1 hu).1
    rw [clL_len] at hj
    have hq : j = j / 10 * 10 + j % 10 := by omega
    have hi : j / 10 < n := by omega
    obtain ⟨c0, c1, c2, c3, c4, c5, c6, c7, c8, c9⟩ := h (j / 10) hi
    rw [hq, clL_get hi (by omega)] at hu
    rw [hq, ← Nat.add_assoc]
    have ht : j % 10 < 10 := Nat.mod_lt _ (by omega)
    generalize j % 10 = t at hu ht ⊢
    have key : t = 0 ∨ t = 1 ∨ t = 2 ∨ t = 3 ∨ t = 4 ∨ t = 5 ∨ t = 6 ∨ t = 7 ∨ t = 8 ∨ t = 9 := by omega
    rcases key with rfl | rfl | rfl | rfl | rfl | rfl | rfl | rfl | rfl | rfl
    · exact c0.trans hu
    · exact c1.trans hu
    · exact c2.trans hu
    · exact c3.trans hu
    · exact c4.trans hu
    · exact c5.trans hu
    · exact c6.trans hu
    · exact c7.trans hu
    · exact c8.trans hu
    · exact c9.trans hu
  · intro h i hi
    have g : ∀ t u, t < 10 → (clA (d i))[t]? = some u → w.cell? ⟨b, off + i * 10 + t, none⟩ = some u := fun t u ht hu => by
      rw [Nat.add_assoc]
      exact h _ u (by rw [clL_get hi ht]; exact hu)
    exact ⟨g 0 _ (by omega) rfl, g 1 _ (by omega) rfl, g 2 _ (by omega) rfl, g 3 _ (by omega) rfl, g 4 _ (by omega) rfl, g 5 _ (by omega) rfl, g 6 _ (by omega) rfl, g 7 _ (by omega) rfl, g 8 _ (by omega) rfl, g 9 _ (by omega) rfl⟩
theorem client_info : (Try.prog.info? 43).map (fun i => (i.zero, i.size, i.bytes)) = some (some (.agg #[.int .i64 0, .int .i64 0, .int .i64 0, .int .i64 0, .int .i64 0, .int .i64 0, .int .i64 0, .int .i64 0, .int .i64 0, .int .i64 0]), 10, 80) := by kernel_rfl
/-- What the law lays: a box of the tables, the clients copied, one of them moved. -/
theorem mov_world (c : Cf) (w2 : World) (hc : CfV w2 c) (hf : FitCf c) (hn : c.cn ≤ 1000) (k : Nat) (hk : k < c.cn) (b : Int) (hb : fitI b) :
    ∃ g off cap w5, (Builtin.append_ #[24, 24] 24 #[.slice (some ⟨w2.heap.size + 1, 0, none⟩) 0 0, .slice c.cA c.cn c.cc]).run Try.prog ((w2.alloc (.cells (cfA c) 26)).alloc (.cells #[] 43)) = .ok (.slice (some ⟨g, off, none⟩) c.cn cap) w5 ∧
      (w5.cell? ⟨w2.heap.size, 3, none⟩ = some (.slice c.cA c.cn c.cc) ∧ w5.frozen? ⟨w2.heap.size, 3, none⟩ = false) ∧ c.cn ≤ cap ∧
      (∀ v, (w5.setCell ⟨w2.heap.size, 3, none⟩ v).cell? ⟨w2.heap.size, 3, none⟩ = some v) ∧ (∀ v, (w5.setCell ⟨w2.heap.size, 3, none⟩ v).cell? ⟨g, off + k * 10, none⟩ = some (.int .i64 (c.cd k).base) ∧ (w5.setCell ⟨w2.heap.size, 3, none⟩ v).frozen? ⟨g, off + k * 10, none⟩ = false) ∧
      ∀ W6, W6 = (w5.setCell ⟨w2.heap.size, 3, none⟩ (.slice (some ⟨g, off, none⟩) c.cn cap)).setCell ⟨g, off + k * 10, none⟩ (.int .i64 b) → CfV W6 (movC c k b (some ⟨g, off, none⟩) cap) ∧ FitCf (movC c k b (some ⟨g, off, none⟩) cap) ∧ BoxC W6 w2.heap.size (movC c k b (some ⟨g, off, none⟩) cap) ∧ w2.grownBy W6 none := by
  obtain ⟨bb, off0, hA, hbb, hcl⟩ := hc.2.2.2 (by omega)
  obtain ⟨i0, hi0, hz0, hz1, hz2⟩ := info_parts client_info
  obtain ⟨WA, hWA⟩ : ∃ WA, WA = (w2.alloc (.cells (cfA c) 26)).alloc (.cells #[] 43) := ⟨_, rfl⟩
  have hsz : WA.heap.size = w2.heap.size + 2 := by rw [hWA]; simp
  have hgA : w2.grownBy WA none := by rw [hWA]; exact only_alloc (only_alloc (only_refl _ _) _) _
  have hB : Blk WA w2.heap.size 26 (cfA c) := by rw [hWA]; exact (Blk.new w2 _ _).alloc _
  rw [← hWA]
  clear hWA
  have hcA := hc.grown hgA
  have hcells := rowC_cells.1 (fun i hi => (hcl i hi).grown hbb hgA)
  have hsrc : Src Try.prog 10 24 (.slice c.cA c.cn c.cc) c.cn (clL c.cn c.cd) WA := by
    rw [hA]
    exact Src.ofSlice _ Try.underlying24 _ _ _ _ (clL_len _ _) (fun j u hu => by rw [addr_at]; exact hcells j u hu) (clL_one _ _)
  obtain ⟨v', w5, hk5, hr5, hg5, ho5, _⟩ := run_allY (P := Try.prog) WA 24 43 24 i0 _ 80 Try.underlying24 hi0 hz0 hz1 hz2 (by omega) rfl (w2.heap.size + 1) c.cn (by omega) _ _ hsrc (by omega)
  have hr5' := hr5
  rcases hr5' with ⟨hl, ⟨rfl, h0⟩ | ⟨g, off, cap, rfl, h1, h2, h3, h4, h5⟩⟩
  · omega
  have hgne : g ≠ w2.heap.size ∧ w2.heap.size ≤ g := by
    rcases ho5 with h | h
    · simp [Value.ownBlock] at h; omega
    · simp [Value.ownBlock] at h; omega
  have hB5 := hB.only hg5 (by simp)
  have hr6 : ∀ v, RowZ 10 (w5.setCell ⟨w2.heap.size, 3, none⟩ v) (.slice (some ⟨g, off, none⟩) c.cn cap) c.cn (clL c.cn c.cd) := fun v => hr5.put (p := ⟨w2.heap.size, 3, none⟩) (fun e => by simp [Value.ownBlock] at e; exact hgne.1 e) v
  have hc6 : ∀ v i, i < c.cn → ClC (w5.setCell ⟨w2.heap.size, 3, none⟩ v) g (off + i * 10) (c.cd i) := fun v => by
    rcases hr6 v with ⟨_, ⟨e, _⟩ | ⟨g', off', cap', e, _, _, _, _, q5⟩⟩
    · cases e
    · injection e with e1 e2 e3
      injection e1 with e1
      injection e1 with e1 e4
      subst e1 e4
      exact rowC_cells.2 q5
  have hkc : k * 10 < cap * 10 := by omega
  refine ⟨g, off, cap, w5, hk5, ⟨hB5.cell 3, hB5.free 3⟩, h1, fun v => (hB5.put 3 v).cell 3, fun v => ⟨(hc6 v k hk).1, by rw [World.frozen?_setCell]; exact (h4 (k * 10) hkc).2⟩, ?_⟩
  rintro W6 rfl
  have hc7 := hc6 (.slice (some ⟨g, off, none⟩) c.cn cap)
  have hb7 := hB5.put 3 (.slice (some ⟨g, off, none⟩) c.cn cap)
  have hs7 : (w5.setCell ⟨w2.heap.size, 3, none⟩ (.slice (some ⟨g, off, none⟩) c.cn cap)).heap.size = w5.heap.size := by simp
  have hbel : Below w2.heap.size w2 (w5.setCell ⟨w2.heap.size, 3, none⟩ (.slice (some ⟨g, off, none⟩) c.cn cap)) := ((below_of_only hgA (Nat.le_refl _) (by simp)).trans (below_of_only hg5 (by omega) (by simp))).setCell (p := ⟨w2.heap.size, 3, none⟩) (Nat.le_refl _) _
  have hcf7 := hc.grown (only_of_below hbel)
  generalize w5.setCell ⟨w2.heap.size, 3, none⟩ (.slice (some ⟨g, off, none⟩) c.cn cap) = W7 at hc7 hb7 hs7 hbel hcf7
  have hbel8 := hbel.setCell (p := ⟨g, off + k * 10, none⟩) hgne.2 (.int .i64 b)
  have hcf8 := hc.grown (only_of_below hbel8)
  have hother : ∀ q, q ≠ off + k * 10 → (W7.setCell ⟨g, off + k * 10, none⟩ (.int .i64 b)).cell? ⟨g, q, none⟩ = W7.cell? ⟨g, q, none⟩ := fun q hq => by
    apply World.cell?_setCell_other
    intro e
    injection e with _ e _
    exact hq e.symm
  refine ⟨⟨hcf8.1, hcf8.2.1, ⟨fun e => (by cases e), fun _ => ⟨g, off, rfl, (by simp; omega), fun i hi => ?_⟩⟩⟩, ⟨hf.1, hf.2.1, hf.2.2.1, h1, by unfold maxLen at h2; exact Nat.le_trans h2 (by omega), fun i hi => ?_⟩, ?_, only_of_below hbel8⟩
  · have hi' : i < c.cn := hi
    obtain ⟨c0, c1, c2, c3, c4, c5, c6, c7, c8, c9⟩ := hc7 i hi'
    by_cases e : i = k
    · subst e
      rw [mov_at]
      refine ⟨by apply World.cell?_setCell_same; exact c0, ?_, ?_, ?_, ?_, ?_, ?_, ?_, ?_, ?_⟩
      all_goals (rw [hother _ (by omega)]; assumption)
    · rw [mov_off c b _ _ e]
      refine ⟨?_, ?_, ?_, ?_, ?_, ?_, ?_, ?_, ?_, ?_⟩
      all_goals (rw [hother _ (by omega)]; assumption)
  · have hi' : i < c.cn := hi
    have := hf.2.2.2.2.2 i hi'
    by_cases e : i = k
    · subst e
      rw [mov_at]
      exact ⟨hb, this.2⟩
    · rw [mov_off c b _ _ e]
      exact this
  · exact hb7.far (p := ⟨g, off + k * 10, none⟩) hgne.1.symm _
end Go.Proofs.Ytgkegmkedkgkcaa
