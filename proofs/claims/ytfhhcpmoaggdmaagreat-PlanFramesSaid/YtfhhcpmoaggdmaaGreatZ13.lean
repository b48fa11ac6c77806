import Derived.Test.YtfhhcpmoaggdmaaGreatZ12
import Derived.Test.YtfhhcpmoaggdmaaGreatZ05
import Derived.Test.YtfhhcpmoaggdmaaGreatZ09
import Derived.Lib.QuietBelow
import Derived.WalkKit
set_option linter.all false
/- What must be whatever is asked, of the law of tables. -/
namespace Go.Proofs.YtfhhcpmoaggdmaaGreat
open Go.RowKit Go.Lib Go.Sort
set_option linter.unusedVariables false

/-- The example's tables. -/
def lvC (h : Nat) (q : Int) : Cf := { fr := 20, wA := some ⟨h + 1, 0, none⟩, wn := 2, wc := 2, wd := fun i => if i = 0 then (0, 0, 4) else (1, 4, 20), sA := some ⟨h + 2, 0, none⟩, sn := 1, sc := 1, sd := fun _ => (1, 4, 12), cA := some ⟨h + 3, 0, none⟩, cn := 1, cc := 1, cd := fun _ => { base := 128, size := 32, ring := 1, at' := 0, quota := q, queue := 0, mac := 0, chan := 0, first := 0, secs := 0 } }
theorem lv_flt3 (h : Nat) : fltL (lvC h 3) = [(1, 10)] := by
  have : fltL (lvC 0 3) = [(1, 10)] := by decide +kernel
  exact this
theorem lv_flt2 (h : Nat) : fltL (lvC h 2) = [] := by
  have : fltL (lvC 0 2) = [] := by decide +kernel
  exact this
theorem lv_units (h : Nat) : unitsV (lvC h 2) 1 = 2 := by
  have : unitsV (lvC 0 2) 1 = 2 := by decide +kernel
  exact this
theorem lv_ring : rgN 16 = 130 := by decide +kernel
abbrev lvX (q : Int) : Array Value := #[.int .i64 128, .int .i64 32, .int .i64 1, .int .i64 0, .int .i64 q, .int .i64 0, .int .i64 0, .int .i64 0, .int .i64 0, .int .i64 0]
theorem lv_fit (h : Nat) {q : Int} (hq : 0 ≤ q ∧ q ≤ 100) : FitCf (lvC h q) := by
  refine ⟨by unfold fitI lvC; simp, ⟨by simp [lvC], by simp [lvC], fun i hi => ?_⟩, ⟨by simp [lvC], by simp [lvC], fun i hi => ?_⟩, ⟨by simp [lvC], by simp [lvC], fun i hi => ?_⟩⟩
  · unfold FitW3 fitI lvC
    by_cases e : i = 0 <;> simp [e]
  · unfold FitW3 fitI lvC
    simp
  · unfold FitCl fitI lvC
    simp
    omega
/-- The rows of the example. -/
def LvW (W : World) (h : Nat) (q : Int) : Prop := Blk W (h + 1) 78 #[.int .i64 0, .int .i64 0, .int .i64 4, .int .i64 1, .int .i64 4, .int .i64 20] ∧ Blk W (h + 2) 84 #[.int .i64 1, .int .i64 4, .int .i64 12] ∧ Blk W (h + 3) 36 (lvX q) ∧ BoxC W (h + 4) (lvC h q)
theorem LvW.cf {W : World} {h : Nat} {q : Int} (k : LvW W h q) : CfV W (lvC h q) := by
  obtain ⟨b1, b2, b3, b4⟩ := k
  refine ⟨⟨fun e => by simp [lvC] at e, fun _ => ⟨h + 1, 0, rfl, b1.lt, fun i hi => ?_⟩⟩, ⟨fun e => by simp [lvC] at e, fun _ => ⟨h + 2, 0, rfl, b2.lt, fun i hi => ?_⟩⟩, ⟨fun e => by simp [lvC] at e, fun _ => ⟨h + 3, 0, rfl, b3.lt, fun i hi => ?_⟩⟩⟩
  · have hi' : i < 2 := hi
    have : i = 0 ∨ i = 1 := by omega
    rcases this with rfl | rfl
    · exact ⟨b1.cell 0, b1.cell 1, b1.cell 2⟩
    · exact ⟨b1.cell 3, b1.cell 4, b1.cell 5⟩
  · have hi' : i < 1 := hi
    obtain rfl : i = 0 := by omega
    exact ⟨b2.cell 0, b2.cell 1, b2.cell 2⟩
  · have hi' : i < 1 := hi
    obtain rfl : i = 0 := by omega
    exact ⟨b3.cell 0, b3.cell 1, b3.cell 2, b3.cell 3, b3.cell 4, b3.cell 5, b3.cell 6, b3.cell 7, b3.cell 8, b3.cell 9⟩
theorem LvW.below {W W' : World} {h : Nat} {q : Int} (k : LvW W h q) {B : Nat} (b : Below B W W') (hB : h + 5 ≤ B) : LvW W' h q :=
  ⟨k.1.below b (by omega), k.2.1.below b (by omega), k.2.2.1.below b (by omega), k.2.2.2.below b (by omega)⟩
theorem LvW.only {W W' : World} {h : Nat} {q : Int} (k : LvW W h q) (g : W.grownBy W' none) : LvW W' h q :=
  ⟨k.1.only g (by simp), k.2.1.only g (by simp), k.2.2.1.only g (by simp), k.2.2.2.only g (by simp)⟩
theorem LvW.set {W : World} {h : Nat} (k : LvW W h 3) : LvW (W.setCell ⟨h + 3, 4, none⟩ (.int .i64 2)) h 2 :=
  ⟨k.1.far (by simp) _, k.2.1.far (by simp) _, k.2.2.1.put 4 _, k.2.2.2.far (by simp) _⟩
theorem lv_world (w : World) : ∃ W, W = (((((w.alloc (.cells (lvX 3) 36)).alloc (.cells #[.int .i64 0, .int .i64 0, .int .i64 4, .int .i64 1, .int .i64 4, .int .i64 20] 78)).alloc (.cells #[.int .i64 1, .int .i64 4, .int .i64 12] 84)).alloc (.cells (lvX 3) 36)).alloc (.cells #[.int .i64 20, .slice (some ⟨w.heap.size + 1, 0, none⟩) 2 2, .slice (some ⟨w.heap.size + 2, 0, none⟩) 1 1, .slice (some ⟨w.heap.size + 3, 0, none⟩) 1 1] 26)) ∧ LvW W w.heap.size 3 ∧ w.grownBy W none ∧ W.heap.size = w.heap.size + 5 := by
  refine ⟨_, rfl, ⟨?_, ?_, ?_, ?_⟩, only_alloc (only_alloc (only_alloc (only_alloc (only_alloc (only_refl _ _) _) _) _) _) _, by simp⟩
  · refine Blk.alloc (Blk.alloc (Blk.alloc ?_ _) _) _
    simpa using Blk.new (w.alloc (.cells (lvX 3) 36)) 78 _
  · refine Blk.alloc (Blk.alloc ?_ _) _
    have := Blk.new ((w.alloc (.cells (lvX 3) 36)).alloc (.cells #[.int .i64 0, .int .i64 0, .int .i64 4, .int .i64 1, .int .i64 4, .int .i64 20] 78)) 84 #[.int .i64 1, .int .i64 4, .int .i64 12]
    rw [show ((w.alloc (.cells (lvX 3) 36)).alloc (.cells #[.int .i64 0, .int .i64 0, .int .i64 4, .int .i64 1, .int .i64 4, .int .i64 20] 78)).heap.size = w.heap.size + 2 by simp] at this
    exact this
  · refine Blk.alloc ?_ _
    have := Blk.new (((w.alloc (.cells (lvX 3) 36)).alloc (.cells #[.int .i64 0, .int .i64 0, .int .i64 4, .int .i64 1, .int .i64 4, .int .i64 20] 78)).alloc (.cells #[.int .i64 1, .int .i64 4, .int .i64 12] 84)) 36 (lvX 3)
    rw [show (((w.alloc (.cells (lvX 3) 36)).alloc (.cells #[.int .i64 0, .int .i64 0, .int .i64 4, .int .i64 1, .int .i64 4, .int .i64 20] 78)).alloc (.cells #[.int .i64 1, .int .i64 4, .int .i64 12] 84)).heap.size = w.heap.size + 3 by simp] at this
    exact this
  · have := Blk.new ((((w.alloc (.cells (lvX 3) 36)).alloc (.cells #[.int .i64 0, .int .i64 0, .int .i64 4, .int .i64 1, .int .i64 4, .int .i64 20] 78)).alloc (.cells #[.int .i64 1, .int .i64 4, .int .i64 12] 84)).alloc (.cells (lvX 3) 36)) 26 (cfA (lvC w.heap.size 3))
    rw [show ((((w.alloc (.cells (lvX 3) 36)).alloc (.cells #[.int .i64 0, .int .i64 0, .int .i64 4, .int .i64 1, .int .i64 4, .int .i64 20] 78)).alloc (.cells #[.int .i64 1, .int .i64 4, .int .i64 12] 84)).alloc (.cells (lvX 3) 36)).heap.size = w.heap.size + 4 by simp] at this
    exact this
theorem row_one {w : World} {v a b : Value} (h : RowZ 2 w v 1 [a, b]) : ∃ g off cap, v = .slice (some ⟨g, off, none⟩) 1 cap ∧ v.ownBlock = some g ∧ w.cell? ⟨g, off, none⟩ = some a ∧ w.cell? ⟨g, off + 1, none⟩ = some b := by
  rcases h with ⟨hl, ⟨rfl, h0⟩ | ⟨g, off, cap, rfl, h1, h2, h3, h4, h5⟩⟩
  · omega
  · exact ⟨g, off, cap, rfl, rfl, h5 0 a rfl, h5 1 b rfl⟩
end Go.Proofs.YtfhhcpmoaggdmaaGreat

/- The clients' rows copied, and one of them moved: what the law of moves lays. -/
namespace Go.Proofs.YtfhhcpmoaggdmaaGreat
open Go.RowKit Go.Lib Go.Sort
set_option linter.unusedVariables false

/-- append of a whole row onto an empty one of no room, of larger elements. -/
theorem run_allY {P : Program} {s : Nat} (w : World) (t e ty : TypeId) (i : TypeInfo) (z : Value) (bytes : Nat) (ht : P.underlying t = some (.slice e)) (hi : P.info? e = some i) (hz : i.zero = some z) (hs : i.size = s) (hby : i.bytes = bytes) (hb16 : bytes ≤ 128) (hzs : z.cells.size = s)
    (b m : Nat) (hb : b < w.heap.size) (xs : Value) (x : List Value) (hx : Src P s t xs m x w) (hn : m ≤ 1000000) :
    ∃ v' w', (Builtin.append_ #[t, t] ty #[.slice (some ⟨b, 0, none⟩) 0 0, xs]).run P w = .ok v' w' ∧ RowZ s w' v' m x ∧ w.grownBy w' none ∧ (v'.ownBlock = some b ∨ v'.ownBlock = some w.heap.size) ∧ ∃ A c, v' = .slice (some A) m c := by
  have hxl : x.length = m * s := hx.newsLen
  have hsrc : Src P i.size t xs m x w := by rw [hs]; exact hx
  rcases Nat.eq_zero_or_pos m with rfl | hm
  · have hx0 : x = [] := List.eq_nil_of_length_eq_zero (by omega)
    subst hx0
    have hr := run_append_room_src (P := P) w t t ty e i ht hi b 0 0 0 xs 0 [] hsrc (by omega) (by simp) (by simp)
    exact ⟨_, _, hr, RowZ.empty s 0 hb, only_refl w none, .inl rfl, _, _, rfl⟩
  · have hbm : (0 + m) * bytes ≤ 140737488355328 := by
      have : (0 + m) * bytes ≤ 1000001 * 128 := Nat.mul_le_mul (by omega) hb16
      omega
    have hold := ((RowZ.empty (w := w) s 0 hb).drewN 1).src (P := P) t e ht (by simp) |>.cells
    have hm2 : 0 + m ≤ maxLen := by unfold maxLen; omega
    have hge := grownCap_ge w (0 + m) 0 e
    have hcm := grownCap_le_maxLen w (0 + m) 0 e hm2
    have hr := run_append_grow_src (P := P) w t t ty e i z ht hi hz (some ⟨b, 0, none⟩) 0 0 [] (by rw [hs]; exact hold) xs m x hsrc (by omega) (by omega) (by rw [hby]; exact growslice_fits (by omega) hbm)
    rw [Nat.zero_add, List.nil_append] at hr
    rw [Nat.zero_add] at hge hcm
    refine ⟨_, _, hr, ?_, ⟨rfl, rfl, rfl, by simp, fun k hk _ => Below.heap_alloc w.drew _ k hk⟩, .inr rfl, _, _, rfl⟩
    refine RowZ.new w.drew _ e _ hxl ?_ hge hcm (fun j u hu => ?_)
    · simp only [Array.size_append, List.size_toArray, size_zeroCells, hzs, hxl]
      rw [← Nat.add_mul]
      congr 1
      omega
    · have hj := (List.getElem?_eq_some_iff.1 hu).1
      rw [Array.getElem?_append_left (by simpa using hj)]
      simpa using hu


theorem flat_len {α : Type} (f : Nat → List α) (s : Nat) (hf : ∀ i, (f i).length = s) (n : Nat) : ((List.range n).flatMap f).length = n * s := by
  induction n with
  | zero => simp
  | succ n ih =>
    rw [List.range_succ, List.flatMap_append, List.length_append, ih, Nat.add_mul, Nat.one_mul]
    simp [hf]
theorem flat_get {α : Type} (f : Nat → List α) (s : Nat) (hf : ∀ i, (f i).length = s) (n i t : Nat) (hi : i < n) (ht : t < s) : ((List.range n).flatMap f)[i * s + t]? = (f i)[t]? := by
  induction n with
  | zero => omega
  | succ n ih =>
    have hl := flat_len f s hf n
    rw [List.range_succ, List.flatMap_append]
    by_cases h : i < n
    · have : (i + 1) * s ≤ n * s := Nat.mul_le_mul_right s h
      rw [Nat.add_mul, Nat.one_mul] at this
      rw [List.getElem?_append_left (by omega), ih h]
    · obtain rfl : i = n := by omega
      rw [List.getElem?_append_right (by omega), hl, Nat.add_sub_cancel_left]
      simp
/-- The cells of clients. -/
def clL (n : Nat) (d : Nat → Cl) : List Value := (List.range n).flatMap fun i => (clA (d i)).toList
theorem clL_len (n : Nat) (d : Nat → Cl) : (clL n d).length = n * 10 := flat_len _ 10 (fun i => rfl) n
theorem clL_one (n : Nat) (d : Nat → Cl) : ∀ u ∈ clL n d, u.oneCell' = true := by
  intro u hu
  simp only [clL, List.mem_flatMap] at hu
  obtain ⟨i, _, h⟩ := hu
  simp at h
  rcases h with rfl | rfl | rfl | rfl | rfl | rfl | rfl | rfl | rfl | rfl <;> rfl
theorem clL_get {n : Nat} {d : Nat → Cl} {i t : Nat} (hi : i < n) (ht : t < 10) : (clL n d)[i * 10 + t]? = (clA (d i))[t]? := by
  unfold clL
  rw [flat_get _ 10 (fun i => rfl) n i t hi ht]
  simp
theorem rowC_cells {w : World} {b off n : Nat} {d : Nat → Cl} : (∀ i, i < n → ClC w b (off + i * 10) (d i)) ↔ ∀ j u, (clL n d)[j]? = some u → w.cell? ⟨b, off + j, none⟩ = some u := by
  constructor
  · intro h j u hu
    have hj := (List.getElem?_eq_some_iff.1 hu).1
    rw [clL_len] at hj
    have hq : j = j / 10 * 10 + j % 10 := by omega
    have hi : j / 10 < n := by omega
    obtain ⟨c0, c1, c2, c3, c4, c5, c6, c7, c8, c9⟩ := h (j / 10) hi
    rw [hq, clL_get hi (by omega)] at hu
    rw [hq, ← Nat.add_assoc]
    have ht : j % 10 < 10 := Nat.mod_lt _ (by omega)
    generalize j % 10 = t at hu ht ⊢
    have key : t = 0 ∨ t = 1 ∨ t = 2 ∨ t = 3 ∨ t = 4 ∨ t = 5 ∨ t = 6 ∨ t = 7 ∨ t = 8 ∨ t = 9 := by omega
    rcases key with rfl | rfl | rfl | rfl | rfl | rfl | rfl | rfl | rfl | rfl
    · exact c0.trans hu
    · exact c1.trans hu
    · exact c2.trans hu
    · exact c3.trans hu
    · exact c4.trans hu
    · exact c5.trans hu
    · exact c6.trans hu
    · exact c7.trans hu
    · exact c8.trans hu
    · exact c9.trans hu
  · intro h i hi
    have g : ∀ t u, t < 10 → (clA (d i))[t]? = some u → w.cell? ⟨b, off + i * 10 + t, none⟩ = some u := fun t u ht hu => by
      rw [Nat.add_assoc]
      exact h _ u (by rw [clL_get hi ht]; exact hu)
    exact ⟨g 0 _ (by omega) rfl, g 1 _ (by omega) rfl, g 2 _ (by omega) rfl, g 3 _ (by omega) rfl, g 4 _ (by omega) rfl, g 5 _ (by omega) rfl, g 6 _ (by omega) rfl, g 7 _ (by omega) rfl, g 8 _ (by omega) rfl, g 9 _ (by omega) rfl⟩
theorem client_info : (Tryz.prog.info? 36).map (fun i => (i.zero, i.size, i.bytes)) = some (some (.agg #[.int .i64 0, .int .i64 0, .int .i64 0, .int .i64 0, .int .i64 0, .int .i64 0, .int .i64 0, .int .i64 0, .int .i64 0, .int .i64 0]), 10, 80) := by kernel_rfl
/-- What the law lays: a box of the tables, the clients copied, one of them moved. -/
theorem mov_world (c : Cf) (w2 : World) (hc : CfV w2 c) (hf : FitCf c) (hn : c.cn ≤ 1000) (k : Nat) (hk : k < c.cn) (b : Int) (hb : fitI b) :
    ∃ g off cap w5, (Builtin.append_ #[24, 24] 24 #[.slice (some ⟨w2.heap.size + 1, 0, none⟩) 0 0, .slice c.cA c.cn c.cc]).run Tryz.prog ((w2.alloc (.cells (cfA c) 26)).alloc (.cells #[] 36)) = .ok (.slice (some ⟨g, off, none⟩) c.cn cap) w5 ∧
      (w5.cell? ⟨w2.heap.size, 3, none⟩ = some (.slice c.cA c.cn c.cc) ∧ w5.frozen? ⟨w2.heap.size, 3, none⟩ = false) ∧ c.cn ≤ cap ∧
      (∀ v, (w5.setCell ⟨w2.heap.size, 3, none⟩ v).cell? ⟨w2.heap.size, 3, none⟩ = some v) ∧ (∀ v, (w5.setCell ⟨w2.heap.size, 3, none⟩ v).cell? ⟨g, off + k * 10, none⟩ = some (.int .i64 (c.cd k).base) ∧ (w5.setCell ⟨w2.heap.size, 3, none⟩ v).frozen? ⟨g, off + k * 10, none⟩ = false) ∧
      ∀ W6, W6 = (w5.setCell ⟨w2.heap.size, 3, none⟩ (.slice (some ⟨g, off, none⟩) c.cn cap)).setCell ⟨g, off + k * 10, none⟩ (.int .i64 b) → CfV W6 (movC c k b (some ⟨g, off, none⟩) cap) ∧ FitCf (movC c k b (some ⟨g, off, none⟩) cap) ∧ BoxC W6 w2.heap.size (movC c k b (some ⟨g, off, none⟩) cap) ∧ w2.grownBy W6 none := by
  obtain ⟨bb, off0, hA, hbb, hcl⟩ := hc.2.2.2 (by omega)
  obtain ⟨i0, hi0, hz0, hz1, hz2⟩ := info_parts client_info
  obtain ⟨WA, hWA⟩ : ∃ WA, WA = (w2.alloc (.cells (cfA c) 26)).alloc (.cells #[] 36) := ⟨_, rfl⟩
  have hsz : WA.heap.size = w2.heap.size + 2 := by rw [hWA]; simp
  have hgA : w2.grownBy WA none := by rw [hWA]; exact only_alloc (only_alloc (only_refl _ _) _) _
  have hB : Blk WA w2.heap.size 26 (cfA c) := by rw [hWA]; exact (Blk.new w2 _ _).alloc _
  rw [← hWA]
  clear hWA
  have hcA := hc.grown hgA
  have hcells := rowC_cells.1 (fun i hi => (hcl i hi).grown hbb hgA)
  have hsrc : Src Tryz.prog 10 24 (.slice c.cA c.cn c.cc) c.cn (clL c.cn c.cd) WA := by
    rw [hA]
    exact Src.ofSlice _ Tryz.underlying24 _ _ _ _ (clL_len _ _) (fun j u hu => by rw [addr_at]; exact hcells j u hu) (clL_one _ _)
  obtain ⟨v', w5, hk5, hr5, hg5, ho5, _⟩ := run_allY (P := Tryz.prog) WA 24 36 24 i0 _ 80 Tryz.underlying24 hi0 hz0 hz1 hz2 (by omega) rfl (w2.heap.size + 1) c.cn (by omega) _ _ hsrc (by omega)
  have hr5' := hr5
  rcases hr5' with ⟨hl, ⟨rfl, h0⟩ | ⟨g, off, cap, rfl, h1, h2, h3, h4, h5⟩⟩
  · omega
  have hgne : g ≠ w2.heap.size ∧ w2.heap.size ≤ g := by
    rcases ho5 with h | h
    · simp [Value.ownBlock] at h; omega
    · simp [Value.ownBlock] at h; omega
  have hB5 := hB.only hg5 (by simp)
  have hr6 : ∀ v, RowZ 10 (w5.setCell ⟨w2.heap.size, 3, none⟩ v) (.slice (some ⟨g, off, none⟩) c.cn cap) c.cn (clL c.cn c.cd) := fun v => hr5.put (p := ⟨w2.heap.size, 3, none⟩) (fun e => by simp [Value.ownBlock] at e; exact hgne.1 e) v
  have hc6 : ∀ v i, i < c.cn → ClC (w5.setCell ⟨w2.heap.size, 3, none⟩ v) g (off + i * 10) (c.cd i) := fun v => by
    rcases hr6 v with ⟨_, ⟨e, _⟩ | ⟨g', off', cap', e, _, _, _, _, q5⟩⟩
    · cases e
    · injection e with e1 e2 e3
      injection e1 with e1
      injection e1 with e1 e4
      subst e1 e4
      exact rowC_cells.2 q5
  have hkc : k * 10 < cap * 10 := by omega
  refine ⟨g, off, cap, w5, hk5, ⟨hB5.cell 3, hB5.free 3⟩, h1, fun v => (hB5.put 3 v).cell 3, fun v => ⟨(hc6 v k hk).1, by rw [World.frozen?_setCell]; exact (h4 (k * 10) hkc).2⟩, ?_⟩
  rintro W6 rfl
  have hc7 := hc6 (.slice (some ⟨g, off, none⟩) c.cn cap)
  have hb7 := hB5.put 3 (.slice (some ⟨g, off, none⟩) c.cn cap)
  have hs7 : (w5.setCell ⟨w2.heap.size, 3, none⟩ (.slice (some ⟨g, off, none⟩) c.cn cap)).heap.size = w5.heap.size := by simp
  have hbel : Below w2.heap.size w2 (w5.setCell ⟨w2.heap.size, 3, none⟩ (.slice (some ⟨g, off, none⟩) c.cn cap)) := ((below_of_only hgA (Nat.le_refl _) (by simp)).trans (below_of_only hg5 (by omega) (by simp))).setCell (p := ⟨w2.heap.size, 3, none⟩) (Nat.le_refl _) _
  have hcf7 := hc.grown (only_of_below hbel)
  generalize w5.setCell ⟨w2.heap.size, 3, none⟩ (.slice (some ⟨g, off, none⟩) c.cn cap) = W7 at hc7 hb7 hs7 hbel hcf7
  have hbel8 := hbel.setCell (p := ⟨g, off + k * 10, none⟩) hgne.2 (.int .i64 b)
  have hcf8 := hc.grown (only_of_below hbel8)
  have hother : ∀ q, q ≠ off + k * 10 → (W7.setCell ⟨g, off + k * 10, none⟩ (.int .i64 b)).cell? ⟨g, q, none⟩ = W7.cell? ⟨g, q, none⟩ := fun q hq => by
    apply World.cell?_setCell_other
    intro e
    injection e with _ e _
    exact hq e.symm
  refine ⟨⟨hcf8.1, hcf8.2.1, ⟨fun e => (by cases e), fun _ => ⟨g, off, rfl, (by simp; omega), fun i hi => ?_⟩⟩⟩, ⟨hf.1, hf.2.1, hf.2.2.1, h1, by unfold maxLen at h2; exact Nat.le_trans h2 (by omega), fun i hi => ?_⟩, ?_, only_of_below hbel8⟩
  · have hi' : i < c.cn := hi
    obtain ⟨c0, c1, c2, c3, c4, c5, c6, c7, c8, c9⟩ := hc7 i hi'
    by_cases e : i = k
    · subst e
      rw [mov_at]
      refine ⟨by apply World.cell?_setCell_same; exact c0, ?_, ?_, ?_, ?_, ?_, ?_, ?_, ?_, ?_⟩
      all_goals (rw [hother _ (by omega)]; assumption)
    · rw [mov_off c b _ _ e]
      refine ⟨?_, ?_, ?_, ?_, ?_, ?_, ?_, ?_, ?_, ?_⟩
      all_goals (rw [hother _ (by omega)]; assumption)
  · have hi' : i < c.cn := hi
    have := hf.2.2.2.2.2 i hi'
    by_cases e : i = k
    · subst e
      rw [mov_at]
      exact ⟨hb, this.2⟩
    · rw [mov_off c b _ _ e]
      exact this
  · exact hb7.far (p := ⟨g, off + k * 10, none⟩) hgne.1.symm _
end Go.Proofs.YtfhhcpmoaggdmaaGreat

/- Each client's memory, by the contract of Regions. -/
namespace Go.Proofs.YtfhhcpmoaggdmaaGreat
open Go.RowKit Go.Lib Go.Sort
set_option linter.unusedVariables false

/-- The cells of the clients' memories. -/
def rgC (d : Nat → Cl) (n : Nat) : List Value := (List.range n).flatMap fun (i : Nat) => [.int .i64 ((i : Int) + 1), .int .i64 (d i).base, .int .i64 (d i).size]
theorem rgC_succ (d : Nat → Cl) (n : Nat) : rgC d (n + 1) = rgC d n ++ [.int .i64 ((n : Int) + 1), .int .i64 (d n).base, .int .i64 (d n).size] := by
  simp [rgC, List.range_succ, List.flatMap_append]
theorem rgC_len (d : Nat → Cl) (n : Nat) : (rgC d n).length = n * 3 := flat_len _ 3 (fun i => rfl) n
theorem rgC_one (d : Nat → Cl) (n : Nat) : ∀ u ∈ rgC d n, u.oneCell' = true := by
  intro u hu
  simp only [rgC, List.mem_flatMap] at hu
  obtain ⟨i, _, h⟩ := hu
  simp at h
  rcases h with rfl | rfl | rfl <;> rfl
theorem region_info : (Tryz.prog.info? 44).map (fun i => (i.zero, i.size, i.bytes)) = some (some (.agg #[.int .i64 0, .int .i64 0, .int .i64 0]), 3, 24) := by kernel_rfl
/-- The memories so far. -/
def RgS (w : World) (c : Cf) (s : Value) (wr : World) (i : Nat) : Prop := RowZ 3 wr s i (rgC c.cd i) ∧ (∀ k, s.ownBlock = some k → w.heap.size < k) ∧ Below w.heap.size w wr ∧ w.heap.size < wr.heap.size
/-- What Regions answers. -/
def RegionsV (c : Cf) (w : World) (e : Ending) (w' : World) : Prop := ∃ A k, e = .returned (.slice A c.cn k) ∧ RowZ 3 w' (.slice A c.cn k) c.cn (rgC c.cd c.cn) ∧ (∀ q, (Value.slice A c.cn k).ownBlock = some q → w.heap.size < q) ∧ Below w.heap.size w w'
theorem rg_push {w wr w2 : World} {c : Cf} {va : Option Addr} {vc g i : Nat} (h : RgS w c (.slice va i vc) wr i) (hi : i ≤ 100000) (g2 : wr.grownBy w2 none) (hb : Blk w2 g 44 #[.int .i64 ((i : Int) + 1), .int .i64 (c.cd i).base, .int .i64 (c.cd i).size]) :
    ∃ v' w', (Builtin.append_ #[74, 74] 74 #[.slice va i vc, .slice (some ⟨g, 0, none⟩) 1 1]).run Tryz.prog w2 = .ok v' w' ∧ RgS w c v' w' (i + 1) := by
  obtain ⟨hrow, hown, hbel, hlt⟩ := h
  obtain ⟨i0, hi0, hz0, hz1, hz2⟩ := info_parts region_info
  have hsrc : Src Tryz.prog 3 74 (.slice (some ⟨g, 0, none⟩) 1 1) 1 [.int .i64 ((i : Int) + 1), .int .i64 (c.cd i).base, .int .i64 (c.cd i).size] w2 := Src.ofSlice _ Tryz.underlying74 _ _ _ _ rfl (fun j u hu => by
    rw [addr_at, Nat.zero_add, hb.cell j]
    simpa using hu) (by simp [Value.oneCell'])
  obtain ⟨v', w', hk, hr3, hg', ho⟩ := run_pushZ (P := Tryz.prog) w2 74 44 74 i0 _ 24 Tryz.underlying74 hi0 hz0 hz1 hz2 (by omega) rfl _ _ _ (hrow.grown g2) (rgC_one _ _) _ _ hsrc (by omega)
  have hs2 := g2.size
  have hs1 := hbel.size
  have hs3 := hg'.size
  have hbel2 := hbel.trans (below_of_only g2 hs1 (by simp))
  refine ⟨v', w', hk, ?_, fun k hk => ?_, hbel2.trans (below_of_only hg' hbel2.size (fun k hk => ?_)), by omega⟩
  · rw [rgC_succ]
    exact hr3
  · rcases ho with ho | ho
    · exact hown k (ho ▸ hk)
    · rw [ho] at hk
      injection hk with hk
      omega
  · have := hown k hk
    omega
set_option maxRecDepth 20000 in
set_option maxHeartbeats 1600000 in
theorem regions_any (c : Cf) (w : World) (hc : CfV w c) (hn : c.cn ≤ 1000) : Calls Tryz.prog 30 #[cfv c] w (RegionsV c w) := by
  obtain ⟨W1, hW, G0, hA⟩ := box1 w 26 #[.int .i64 c.fr, .slice c.wA c.wn c.wc, .slice c.sA c.sn c.sc, .slice c.cA c.cn c.cc]
  obtain ⟨k0, k1, k2, k3⟩ := cf_cells (c := c) hA
  have hz : W1.heap.size = w.heap.size + 1 := by rw [hW]; simp
  have HR := Lib.hid hc.2.2
  have R0 : Hid (RgS w c (.slice none 0 0) W1 0) := Lib.hid ⟨RowZ.nil 3 W1, fun k hk => by simp [Value.ownBlock] at hk, below_of_only G0 (Nat.le_refl _) (by simp), by omega⟩
  have HFIN := Lib.hid (show ∀ s w', RgS w c s w' c.cn → RegionsV c w (.returned s) w' from fun s w' h => by
    obtain ⟨h1, h2, h3, h4⟩ := h
    obtain ⟨A, k, rfl⟩ := h1.form
    exact ⟨A, k, rfl, h1, h2, h3⟩)
  show Calls Tryz.prog 30 #[.agg #[.int .i64 c.fr, .slice c.wA c.wn c.wc, .slice c.sA c.sn c.sc, .slice c.cA c.cn c.cc]] w _
  clear hc hA hz G0
  generalize c.cA = Ac at HR k3 hW ⊢
  go_enter Tryz.func30, Tryz.ntmps30
  go_upto_region 1 with (fail)
  rw [← hW]
  clear hW
  go_wp2
  clear k0 k1 k2 k3
  go_loopw [3, 9] (fun s y wr => ∃ i : Nat, y = .int .i64 i ∧ i ≤ c.cn ∧ Hid (RgS w c s wr i)) (fun s y _ => c.cn - (intOf y).toNat)
  case atStart => exact ⟨0, rfl, by omega, R0⟩
  case round =>
    obtain ⟨i, rfl, hi, HN⟩ := hrel
    by_cases hin : i < c.cn
    · have i1 : (i : Int) < (c.cn : Int) := by omega
      have i0 : (0 : Int) ≤ (i : Int) := by omega
      have i255 : i < 1000 := by omega
      have hw1 : IntKind.i64.wrap ((i : Int) + 1) = (i : Int) + 1 := by rw [IntKind.wrap_i64]; omega
      obtain ⟨b', off, hA, hb', hcl⟩ := (HR.out.grown (only_of_below HN.out.2.2.1)).2 (by omega)
      obtain ⟨c0, c1, c2, c3, c4, c5, c6, c7, c8, c9⟩ := hcl i hin
      obtain ⟨va, vc, rfl⟩ := HN.out.1.form
      obtain ⟨v', w', hk, hns⟩ := rg_push HN.out (by omega) (w2 := (wr.alloc (.cells (clA (c.cd i)) 36)).alloc (.cells #[.int .i64 ((i : Int) + 1), .int .i64 (c.cd i).base, .int .i64 (c.cd i).size] 44)) (g := wr.heap.size + 1) (only_alloc (only_alloc (only_refl _ _) _) _) (by have := Blk.new (wr.alloc (.cells (clA (c.cd i)) 36)) 44 #[.int .i64 ((i : Int) + 1), .int .i64 (c.cd i).base, .int .i64 (c.cd i).size]; simpa using this)
      have HK := Lib.hid hk
      have NS2 := Lib.hid hns
      clear hk hns hcl HN
      subst hA
      obtain ⟨x, hx⟩ : ∃ x, x = c.cd i := ⟨_, rfl⟩
      rw [← hx] at c0 c1 c2 c3 c4 c5 c6 c7 c8 c9 HK
      replace hx := Lib.hid hx
      obtain ⟨x0, x1, x2, x3, x4, x5, x6, x7, x8, x9⟩ := x
      simp only at c0 c1 c2 c3 c4 c5 c6 c7 c8 c9
      replace HK := Lib.hid (show (Builtin.append_ #[74, 74] 74 #[.slice va i vc, .slice (some ⟨wr.heap.size + 1, 0, none⟩) 1 1]).run Tryz.prog ((wr.alloc (.cells #[.int .i64 x0, .int .i64 x1, .int .i64 x2, .int .i64 x3, .int .i64 x4, .int .i64 x5, .int .i64 x6, .int .i64 x7, .int .i64 x8, .int .i64 x9] 36)).alloc (.cells #[.int .i64 ((i : Int) + 1), .int .i64 x0, .int .i64 x1] 44)) = .ok v' w' from HK.out)
      go_wp2_with (at_builtin; refine wpList_append_eq rfl (.tmp 14) (.tmp 22) 74 rfl HK.out rfl rfl ?_)
      go_roundw
      case rel => exact ⟨i + 1, by go_num, by omega, NS2⟩
      case measure => simp [intOf] <;> omega
    · obtain rfl : i = c.cn := by omega
      have i1 : ¬ (c.cn : Int) < (c.cn : Int) := by omega
      go_wp2
      go_ret
      exact HFIN.out _ _ HN.out
end Go.Proofs.YtfhhcpmoaggdmaaGreat

/- Package plan: clones of rows, by their contracts. -/
namespace Go.Proofs.YtfhhcpmoaggdmaaGreat
open Go.RowKit Go.Lib Go.Sort
set_option linter.unusedVariables false

theorem row3_cells {w : World} {b off n : Nat} {d : Nat → W3} (h : ∀ i, i < n → W3C w b (off + i * 3) (d i)) : ∀ j u, (sL d n)[j]? = some u → w.cell? ⟨b, off + j, none⟩ = some u := by
  intro j u hu
  have hj := (List.getElem?_eq_some_iff.1 hu).1
  rw [sL_len] at hj
  have hq : j = j / 3 * 3 + j % 3 := by omega
  have hi : j / 3 < n := by omega
  obtain ⟨c0, c1, c2⟩ := h (j / 3) hi
  rw [hq, sL_get hi (by omega)] at hu
  rw [hq, ← Nat.add_assoc]
  have ht : j % 3 < 3 := Nat.mod_lt _ (by omega)
  generalize j % 3 = t at hu ht ⊢
  have key : t = 0 ∨ t = 1 ∨ t = 2 := by omega
  rcases key with rfl | rfl | rfl
  · exact c0.trans hu
  · exact c1.trans hu
  · exact c2.trans hu
theorem wclone_row {w : World} {A : Option Addr} {n cap : Nat} {d : Nat → W3} (h : RowZ 3 w (.slice A n cap) n (sL d n)) : Row3 w A n d := srow_of h
theorem cclone_row {w : World} {A : Option Addr} {n cap : Nat} {d : Nat → Cl} (h : RowZ 10 w (.slice A n cap) n (clL n d)) : RowC w A n d := by
  rcases h with ⟨hl, ⟨e, h0⟩ | ⟨g, off, cap', e, h1, h2, h3, h4, h5⟩⟩
  · injection e with e1 e2 e3
    exact ⟨fun _ => h0, fun hp => by omega⟩
  · injection e with e1 e2 e3
    subst e1
    exact ⟨fun x => (by cases x), fun hp => ⟨g, off, rfl, h3, fun i hi => rowC_cells.2 h5 i hi⟩⟩
theorem wclone_info : (Tryz.prog.info? 78).map (fun i => (i.zero, i.size, i.bytes)) = some (some (.agg #[.int .i64 0, .int .i64 0, .int .i64 0]), 3, 24) := by kernel_rfl
theorem wclone_nil (cap : Nat) (w : World) : (binOp BinOp.eql 22 (.slice none 0 cap) (.slice none 0 0)).run Tryz.prog w = .ok (.bool true) w := by kernel_rfl
theorem wclone_some (a : Addr) (n cap : Nat) (w : World) : (binOp BinOp.eql 22 (.slice (some a) n cap) (.slice none 0 0)).run Tryz.prog w = .ok (.bool false) w := by kernel_rfl
set_option maxRecDepth 100000 in
theorem wclone_any (A : Option Addr) (n cap : Nat) (d : Nat → W3) (w : World) (h : Row3 w A n d) (hn : n ≤ 1000) :
    Calls Tryz.prog 31 #[.slice A n cap] w fun e w' => ∃ A' c', e = .returned (.slice A' n c') ∧ Row3 w' A' n d ∧ w.grownBy w' none := by
  cases A with
  | none =>
    obtain rfl : n = 0 := h.1 rfl
    have hs := wclone_nil cap w
    clear h
    go_enter Tryz.func31, Tryz.ntmps31
    go_wp2
    go_ret
    exact ⟨none, 0, rfl, ⟨fun _ => rfl, fun hp => by omega⟩, only_refl _ _⟩
  | some a =>
    have hs := wclone_some a n cap w
    obtain ⟨i0, hi0, hz0, hz1, hz2⟩ := info_parts wclone_info
    obtain ⟨WA, hWA⟩ : ∃ WA, WA = w.alloc (.cells #[] 78) := ⟨_, rfl⟩
    have hsz : WA.heap.size = w.heap.size + 1 := by rw [hWA]; simp
    have hgA : w.grownBy WA none := by rw [hWA]; exact only_alloc (only_refl _ _) _
    have hcA := h.grown hgA
    have hsrc : Src Tryz.prog 3 22 (.slice (some a) n cap) n (sL d n) WA := by
      refine Src.ofSlice _ Tryz.underlying22 _ _ _ _ (sL_len _ _) (fun j u hu => ?_) (sL_one d n)
      have hj := (List.getElem?_eq_some_iff.1 hu).1
      have hp : 0 < n := by
        rcases Nat.eq_zero_or_pos n with rfl | hp
        · simp [sL] at hj
        · exact hp
      obtain ⟨b, off, e, hb, hc⟩ := hcA.2 hp
      injection e with e
      subst e
      rw [addr_at]
      exact row3_cells hc j u hu
    obtain ⟨v', w5, hk5, hr5, hg5, ho5, A5, c5, rfl⟩ := run_allY (P := Tryz.prog) WA 22 78 22 i0 _ 24 Tryz.underlying22 hi0 hz0 hz1 hz2 (by omega) rfl w.heap.size n (by omega) _ _ hsrc (by omega)
    rw [hWA] at hk5
    have HK := Lib.hid hk5
    have HR := Lib.hid hr5
    have HG := Lib.hid (only_trans hgA hg5)
    clear hk5 hr5 hg5 ho5 hsrc hcA h hi0 hz0 hz1 hz2 hgA hsz hWA
    go_enter Tryz.func31, Tryz.ntmps31
    go_wp2_with (at_builtin; refine wpList_append_eq rfl (.tmp 5) (.tmp 6) 22 rfl HK.out rfl rfl ?_)
    go_ret
    exact ⟨_, _, rfl, wclone_row HR.out, HG.out⟩
theorem cclone_info : (Tryz.prog.info? 36).map (fun i => (i.zero, i.size, i.bytes)) = some (some (.agg #[.int .i64 0, .int .i64 0, .int .i64 0, .int .i64 0, .int .i64 0, .int .i64 0, .int .i64 0, .int .i64 0, .int .i64 0, .int .i64 0]), 10, 80) := by kernel_rfl
theorem cclone_nil (cap : Nat) (w : World) : (binOp BinOp.eql 24 (.slice none 0 cap) (.slice none 0 0)).run Tryz.prog w = .ok (.bool true) w := by kernel_rfl
theorem cclone_some (a : Addr) (n cap : Nat) (w : World) : (binOp BinOp.eql 24 (.slice (some a) n cap) (.slice none 0 0)).run Tryz.prog w = .ok (.bool false) w := by kernel_rfl
set_option maxRecDepth 100000 in
theorem cclone_any (A : Option Addr) (n cap : Nat) (d : Nat → Cl) (w : World) (h : RowC w A n d) (hn : n ≤ 1000) :
    Calls Tryz.prog 32 #[.slice A n cap] w fun e w' => ∃ A' c', e = .returned (.slice A' n c') ∧ RowC w' A' n d ∧ w.grownBy w' none := by
  cases A with
  | none =>
    obtain rfl : n = 0 := h.1 rfl
    have hs := cclone_nil cap w
    clear h
    go_enter Tryz.func32, Tryz.ntmps32
    go_wp2
    go_ret
    exact ⟨none, 0, rfl, ⟨fun _ => rfl, fun hp => by omega⟩, only_refl _ _⟩
  | some a =>
    have hs := cclone_some a n cap w
    obtain ⟨i0, hi0, hz0, hz1, hz2⟩ := info_parts cclone_info
    obtain ⟨WA, hWA⟩ : ∃ WA, WA = w.alloc (.cells #[] 36) := ⟨_, rfl⟩
    have hsz : WA.heap.size = w.heap.size + 1 := by rw [hWA]; simp
    have hgA : w.grownBy WA none := by rw [hWA]; exact only_alloc (only_refl _ _) _
    have hcA := h.grown hgA
    have hsrc : Src Tryz.prog 10 24 (.slice (some a) n cap) n (clL n d) WA := by
      refine Src.ofSlice _ Tryz.underlying24 _ _ _ _ (clL_len _ _) (fun j u hu => ?_) (clL_one n d)
      have hj := (List.getElem?_eq_some_iff.1 hu).1
      have hp : 0 < n := by
        rcases Nat.eq_zero_or_pos n with rfl | hp
        · simp [clL] at hj
        · exact hp
      obtain ⟨b, off, e, hb, hc⟩ := hcA.2 hp
      injection e with e
      subst e
      rw [addr_at]
      exact rowC_cells.1 hc j u hu
    obtain ⟨v', w5, hk5, hr5, hg5, ho5, A5, c5, rfl⟩ := run_allY (P := Tryz.prog) WA 24 36 24 i0 _ 80 Tryz.underlying24 hi0 hz0 hz1 hz2 (by omega) rfl w.heap.size n (by omega) _ _ hsrc (by omega)
    rw [hWA] at hk5
    have HK := Lib.hid hk5
    have HR := Lib.hid hr5
    have HG := Lib.hid (only_trans hgA hg5)
    clear hk5 hr5 hg5 ho5 hsrc hcA h hi0 hz0 hz1 hz2 hgA hsz hWA
    go_enter Tryz.func32, Tryz.ntmps32
    go_wp2_with (at_builtin; refine wpList_append_eq rfl (.tmp 5) (.tmp 6) 24 rfl HK.out rfl rfl ?_)
    go_ret
    exact ⟨_, _, rfl, cclone_row HR.out, HG.out⟩
end Go.Proofs.YtfhhcpmoaggdmaaGreat

/- Which two meet first, for tables: the contract of the document's First. -/
namespace Go.Proofs.YtfhhcpmoaggdmaaGreat
open Go.RowKit Go.Lib Go.Sort
set_option linter.unusedVariables false

/-- The first two of n spans that meet, or that none do. -/
def First (d : Nat → Int × Int) (n : Nat) (x y : Int) : Prop :=
  (x = -1 ∧ y = -1 ∧ ∀ k, k < n → ∀ i, i < k → meetsB (d i) (d k) = false) ∨
  ∃ i k : Nat, x = i ∧ y = k ∧ i < k ∧ k < n ∧ meetsB (d i) (d k) = true ∧ (∀ j, j < i → meetsB (d j) (d k) = false) ∧ ∀ k', k' < k → ∀ j, j < k' → meetsB (d j) (d k') = false
def FirstV (d : Nat → Int × Int) (n : Nat) (w : World) (e : Ending) (w' : World) : Prop :=
  ∃ x y : Int, e = .returned (.tuple #[.int .i64 x, .int .i64 y]) ∧ First d n x y ∧ Below w.heap.size w w'

end Go.Proofs.YtfhhcpmoaggdmaaGreat

/- Plain facts: what follows where nothing is wrong with tables. -/
namespace Go.Proofs.YtfhhcpmoaggdmaaGreat
open Go.RowKit Go.Lib Go.Sort
set_option linter.unusedVariables false

theorem ask_from1 {p : Int → Bool} {why : Int} {m : Nat} (h : askL p why 1 m = []) {i : Nat} (hi : i < m) : p ((i : Int) + 1) = false := by
  have := (askL_nil.1 h) i hi
  rw [show (1 : Int) + (i : Int) = (i : Int) + 1 by omega] at this
  exact this
theorem succ_back (i : Nat) : ((i : Int) + 1 - 1).toNat = i := by omega
/-- How many of the first n windows are an owner's. -/
def cntW (c : Cf) (o : Int) : Nat → Int
  | 0 => 0
  | n + 1 => cntW c o n + if (c.wd n).1 = o then 1 else 0
theorem cntW_le (c : Cf) (o : Int) (n : Nat) : 0 ≤ cntW c o n ∧ cntW c o n ≤ n := by
  induction n with
  | zero => simp [cntW]
  | succ n ih =>
    unfold cntW
    split <;> omega
theorem cntW_none {c : Cf} {o : Int} {n : Nat} (h : ∀ i, i < n → (c.wd i).1 ≠ o) : cntW c o n = 0 := by
  induction n with
  | zero => rfl
  | succ n ih =>
    unfold cntW
    rw [ih (fun i hi => h i (by omega)), if_neg (h n (by omega))]
    rfl
theorem cntW_one {c : Cf} {o : Int} {n i : Nat} (hi : i < n) (h : (c.wd i).1 = o) (hu : ∀ j, j < n → j ≠ i → (c.wd j).1 ≠ o) : cntW c o n = 1 := by
  induction n with
  | zero => omega
  | succ n ih =>
    unfold cntW
    by_cases e : i = n
    · subst e
      rw [cntW_none (fun j hj => hu j (by omega) (by omega)), if_pos h]
      rfl
    · rw [ih (by omega) (fun j hj => hu j (by omega)), if_neg (hu n (by omega) (fun x => e x.symm))]
      rfl
/-- What the law asks of tables that are right. -/
structure ApartF (c : Cf) : Prop where
  few : 1 ≤ c.cn ∧ c.cn ≤ 8 ∧ c.wn ≤ 9 ∧ c.sn ≤ 32 ∧ 1 ≤ c.fr ∧ c.fr ≤ 4096
  win : ∀ i, i < c.wn → 0 ≤ (c.wd i).1 ∧ (c.wd i).1 ≤ c.cn ∧ (c.wd i).2.2 ≤ c.fr
  wins : ∀ i, i < c.wn → ∀ j, j < i → meetsB (w3s (c.wd j)) (w3s (c.wd i)) = false
  one : ∀ o : Nat, o ≤ c.cn → cntW c o c.wn = 1
  slots : ∀ i, i < c.sn → ∀ j, j < i → meetsB (w3s (c.sd j)) (w3s (c.sd i)) = false
  good : ∀ i, i < c.cn → 0 ≤ (c.cd i).base ∧ (c.cd i).base ≤ 20000 ∧ 0 ≤ (c.cd i).size ∧ (c.cd i).size ≤ 20000
  mems : ∀ i, i < c.cn → ∀ j, j < i → meetsB ((c.cd j).base, (c.cd j).base + (c.cd j).size) ((c.cd i).base, (c.cd i).base + (c.cd i).size) = false
  quota : ∀ i : Nat, i < c.cn → (c.cd i).quota ≤ unitsV c ((i : Int) + 1)
theorem apart_of (c : Cf) (h : fltL c = []) : ApartF c := by
  obtain ⟨hfr, hgood, hcm, h4, h5, h6, h7, h8, h9, h10⟩ := (right_iff c).1 h
  have hb := frB_iff.1 hfr
  have g4 : ∀ i, i < c.wn → badW c (c.wd i) = false := fun i hi => by
    have := ask_from1 h4 hi
    rw [succ_back] at this
    exact this
  have g5 : ∀ i, i < c.wn → ∀ j, j < i → wM (c.wd i) (c.wd j) = false := fun i hi j hj => by
    have := ask_from1 h5 hi
    rw [succ_back, anyB_no] at this
    exact this j hj
  have g9 : ∀ i, i < c.sn → ∀ j, j < i → sM (c.sd i) (c.sd j) = false := fun i hi j hj => by
    have := ask_from1 h9 hi
    rw [succ_back, anyB_no] at this
    exact this j hj
  refine ⟨by omega, fun i hi => ?_, fun i hi j hj => ?_, fun o ho => ?_, fun i hi j hj => ?_, fun i hi => ?_, fun i hi j hj => ?_, fun i hi => ?_⟩
  · have := badW_no.1 (g4 i hi)
    omega
  · have := g5 i hi j hj
    unfold wM at this
    rw [Bool.or_eq_false_iff] at this
    rw [meetsC_symm]
    exact this.2
  · have := (askL_nil.1 h6) o (by omega)
    rw [show (0 : Int) + (o : Int) = o by omega, decide_eq_false_iff_not] at this
    rcases fstI_cases (fun i => decide ((c.wd i).1 = (o : Int))) c.wn with ⟨i, hi, _, hq, _⟩ | ⟨e, _⟩
    · have hq' := of_decide_eq_true hq
      refine cntW_one hi hq' (fun j hj hne e => ?_)
      by_cases hlt : j < i
      · have := g5 i hi j hlt
        unfold wM at this
        rw [Bool.or_eq_false_iff, decide_eq_false_iff_not] at this
        exact this.1 (hq'.trans e.symm)
      · have := g5 j hj i (by omega)
        unfold wM at this
        rw [Bool.or_eq_false_iff, decide_eq_false_iff_not] at this
        exact this.1 (e.trans hq'.symm)
    · exfalso
      apply this
      show fstI (fun i => decide ((c.wd i).1 = (o : Int))) c.wn < 0
      omega
  · rw [meetsC_symm]
    exact g9 i hi j hj
  · have := good_size (hgood i hi)
    omega
  · have := hcm i hi j hj
    unfold cM at this
    simp only [Bool.or_eq_false_iff] at this
    rw [meetsC_symm]
    exact this.1.2
  · have := ask_from1 h10 hi
    rw [succ_back, decide_eq_false_iff_not] at this
    omega
theorem first_no {d : Nat → Int × Int} {n : Nat} {x y : Int} (h : First d n x y) (k : ∀ i, i < n → ∀ j, j < i → meetsB (d j) (d i) = false) : x = -1 := by
  rcases h with ⟨h, _⟩ | ⟨i, q, _, _, h1, h2, h3, _⟩
  · exact h
  · rw [k q h2 i h1] at h3
    cases h3
/-- The cells of so many spans. -/
def spL (d : Nat → Int × Int) (n : Nat) : List Value := (List.range n).flatMap fun (i : Nat) => [.int .i64 (d i).1, .int .i64 (d i).2]
theorem spL_succ (d : Nat → Int × Int) (n : Nat) : spL d (n + 1) = spL d n ++ [.int .i64 (d n).1, .int .i64 (d n).2] := by
  simp [spL, List.range_succ, List.flatMap_append]
theorem spL_one (d : Nat → Int × Int) (n : Nat) : ∀ u ∈ spL d n, u.oneCell' = true := by
  intro u hu
  simp only [spL, List.mem_flatMap] at hu
  obtain ⟨i, _, h⟩ := hu
  simp at h
  rcases h with rfl | rfl <;> rfl
theorem spL_get {d : Nat → Int × Int} {n i : Nat} (hi : i < n) : (spL d n)[i * 2]? = some (.int .i64 (d i).1) ∧ (spL d n)[i * 2 + 1]? = some (.int .i64 (d i).2) := by
  unfold spL
  refine ⟨?_, ?_⟩
  · have := flat_get (fun (i : Nat) => [Value.int .i64 (d i).1, .int .i64 (d i).2]) 2 (fun i => rfl) n i 0 hi (by omega)
    simpa using this
  · have := flat_get (fun (i : Nat) => [Value.int .i64 (d i).1, .int .i64 (d i).2]) 2 (fun i => rfl) n i 1 hi (by omega)
    simpa using this
theorem spans_rowz {w : World} {A : Option Addr} {n cap : Nat} {d : Nat → Int × Int} (h : RowZ 2 w (.slice A n cap) n (spL d n)) : Spans w A n cap d := by
  rcases h with ⟨hl, ⟨e, h0⟩ | ⟨g, off, cap', e, h1, h2, h3, h4, h5⟩⟩
  · injection e with e1 e2 e3
    exact ⟨fun _ => ⟨h0, e3⟩, fun hp => by omega⟩
  · injection e with e1 e2 e3
    subst e1
    exact ⟨fun x => (by cases x), fun hp => ⟨g, off, rfl, h3, fun i hi => ⟨h5 _ _ (spL_get hi).1, by rw [Nat.add_assoc]; exact h5 _ _ (spL_get hi).2⟩⟩⟩
end Go.Proofs.YtfhhcpmoaggdmaaGreat

/- Plain facts on sorting rows of regions by their bases: no program is spoken of here. -/
namespace Go.Proofs.YtfhhcpmoaggdmaaGreat.Sr

abbrev P2 := Int × Int × Int
def cmpI (x y : Int) : Int := if x < y then -1 else if y < x then 1 else 0
def cmpS (a b : P2) : Int := cmpI a.2.1 b.2.1
def lt (a b : P2) : Prop := a.2.1 < b.2.1
theorem cmpS_neg (a b : P2) : cmpS a b < 0 ↔ lt a b := by
  unfold cmpS cmpI lt
  split <;> (try split) <;> omega
theorem lt_irrefl (a : P2) : ¬ lt a a := by unfold lt; omega
theorem lt_trans {a b c : P2} (h : lt a b) (k : lt b c) : lt a c := by unfold lt at *; omega
/-- Not above: the order that the sort leaves. -/
def le (a b : P2) : Prop := ¬ lt b a
theorem le_refl (a : P2) : le a a := lt_irrefl a
theorem le_trans {a b c : P2} (h : le a b) (k : le b c) : le a c := by unfold le lt at *; omega
theorem le_of_lt {a b : P2} (h : lt a b) : le a b := by unfold le lt at *; omega
/-- The row d with a and b in the places i. -/
def upd (d : Nat → P2) (i : Nat) (p : P2) : Nat → P2 := fun k => if k = i then p else d k
def swp (d : Nat → P2) (i j : Nat) : Nat → P2 := upd (upd d i (d j)) j (d i)
theorem swp_at (d : Nat → P2) (i j k : Nat) : swp d i j k = if k = j then d i else if k = i then d j else d k := by simp [swp, upd]

def Sorted (d : Nat → P2) (a b : Nat) : Prop := ∀ p q, a ≤ p → p < q → q < b → le (d p) (d q)
/-- d' is d with what stands from a on, up to b, in another order. -/
def Perm (a b : Nat) (d d' : Nat → P2) : Prop := ∃ s t : Nat → Nat, (∀ k, t (s k) = k) ∧ (∀ k, s (t k) = k) ∧ (∀ k, ¬ (a ≤ k ∧ k < b) → s k = k) ∧ (∀ k, d' k = d (s k))

theorem Perm.refl (a b : Nat) (d : Nat → P2) : Perm a b d d := ⟨id, id, fun _ => rfl, fun _ => rfl, fun _ _ => rfl, fun _ => rfl⟩
theorem Perm.trans {a b : Nat} {d e f : Nat → P2} (h : Perm a b d e) (k : Perm a b e f) : Perm a b d f := by
  obtain ⟨s, t, h1, h2, h3, h4⟩ := h
  obtain ⟨u, v, k1, k2, k3, k4⟩ := k
  refine ⟨fun x => s (u x), fun x => v (t x), fun x => by simp [h1, k1], fun x => by simp [k2, h2], fun x hx => by simp [k3 x hx, h3 x hx], fun x => by rw [k4, h4]⟩
theorem Perm.mono {a b a' b' : Nat} {d e : Nat → P2} (h : Perm a b d e) (ha : a' ≤ a) (hb : b ≤ b') : Perm a' b' d e := by
  obtain ⟨s, t, h1, h2, h3, h4⟩ := h
  exact ⟨s, t, h1, h2, fun k hk => h3 k (by omega), h4⟩
theorem Perm.swp {a b i j : Nat} (d : Nat → P2) (hi : a ≤ i ∧ i < b) (hj : a ≤ j ∧ j < b) : Perm a b d (swp d i j) := by
  refine ⟨fun k => if k = j then i else if k = i then j else k, fun k => if k = j then i else if k = i then j else k, ?_, ?_, ?_, ?_⟩
  · intro k; dsimp only; split <;> (try split) <;> (try split) <;> (try split) <;> omega
  · intro k; dsimp only; split <;> (try split) <;> (try split) <;> (try split) <;> omega
  · intro k hk; dsimp only; rw [if_neg (by omega), if_neg (by omega)]
  · intro k
    rw [swp_at]
    dsimp only
    split
    · rfl
    · split <;> rfl
theorem Perm.out {a b : Nat} {d e : Nat → P2} (h : Perm a b d e) {k : Nat} (hk : ¬ (a ≤ k ∧ k < b)) : e k = d k := by
  obtain ⟨s, t, h1, h2, h3, h4⟩ := h
  rw [h4, h3 k hk]
theorem Perm.into {a b : Nat} {d e : Nat → P2} (h : Perm a b d e) {k : Nat} (hk : a ≤ k ∧ k < b) : ∃ j, a ≤ j ∧ j < b ∧ e k = d j := by
  obtain ⟨s, t, h1, h2, h3, h4⟩ := h
  refine ⟨s k, ?_⟩
  by_cases hs : a ≤ s k ∧ s k < b
  · exact ⟨hs.1, hs.2, h4 k⟩
  · have := h3 (s k) hs
    have e1 := h1 k
    have e2 := h1 (s k)
    rw [this] at e2
    rw [e1] at e2
    omega

/-- Within an insertion: all but the one at j stand in order, and those behind it are not below it. -/
def Ins (d : Nat → P2) (a i j : Nat) : Prop := (∀ p q, a ≤ p → p < q → q ≤ i → p ≠ j → q ≠ j → le (d p) (d q)) ∧ (∀ q, j < q → q ≤ i → le (d j) (d q))
theorem Ins.start {d : Nat → P2} {a i : Nat} (h : Sorted d a i) : Ins d a i i := ⟨fun p q h1 h2 h3 _ h5 => h p q h1 h2 (by omega), fun q h1 h2 => by omega⟩
theorem Ins.step {d : Nat → P2} {a i j : Nat} (h : Ins d a i j) (ha : a < j) (hj : j ≤ i) (hl : lt (d j) (d (j - 1))) : Ins (swp d j (j - 1)) a i (j - 1) := by
  refine ⟨fun p q h1 h2 h3 h4 h5 => ?_, fun q h1 h2 => ?_⟩
  · rw [swp_at, swp_at, if_neg h4, if_neg h5]
    by_cases hp : p = j
    · rw [if_pos hp, if_neg (by omega)]
      subst hp
      exact h.1 (p - 1) q (by omega) (by omega) h3 (by omega) (by omega)
    · rw [if_neg hp]
      by_cases hq : q = j
      · rw [if_pos hq]
        exact h.1 p (j - 1) h1 (by omega) (by omega) hp (by omega)
      · rw [if_neg hq]
        exact h.1 p q h1 h2 h3 hp hq
  · rw [swp_at, swp_at, if_pos rfl, if_neg (by omega)]
    by_cases hq : q = j
    · rw [if_pos hq]
      exact le_of_lt hl
    · rw [if_neg hq]
      exact h.2 q (by omega) h2
theorem Ins.done {d : Nat → P2} {a i j : Nat} (h : Ins d a i j) (hj : j ≤ i) (haj : a ≤ j) (hl : j = a ∨ ¬ lt (d j) (d (j - 1))) : Sorted d a (i + 1) := by
  intro p q h1 h2 h3
  by_cases hp : p = j
  · subst hp
    exact h.2 q h2 (by omega)
  · by_cases hq : q = j
    · subst hq
      rcases hl with hl | hl
      · omega
      · by_cases hp1 : p = q - 1
        · subst hp1; exact hl
        · exact le_trans (h.1 p (q - 1) h1 (by omega) (by omega) hp (by omega)) hl
    · exact h.1 p q h1 h2 (by omega) hp hq
theorem Sorted.one (d : Nat → P2) (a : Nat) : Sorted d a (a + 1) := fun p q h1 h2 h3 => by omega
theorem Sorted.out {d e : Nat → P2} {a b : Nat} (h : Sorted d a b) (he : ∀ k, a ≤ k → k < b → e k = d k) : Sorted e a b := fun p q h1 h2 h3 => by
  rw [he p h1 (by omega), he q (by omega) h3]
  exact h p q h1 h2 h3
def rot (d : Nat → P2) (a m b : Nat) : Nat → P2 := fun k => if a ≤ k ∧ k < a + (b - m) then d (k - a + m) else if a + (b - m) ≤ k ∧ k < b then d (k - (b - m)) else d k
theorem rot_down (d : Nat → P2) {m k : Nat} (h : k < m) : swp (rot d (k + 1) m (m + 1)) (k + 1) k = rot d k m (m + 1) := by
  funext q; rw [swp_at]; simp only [rot]
  repeat' split
  all_goals first | (exfalso; omega) | (congr 1 <;> omega)
theorem rot_right (d : Nat → P2) (m b : Nat) : rot d m m b = d := by
  funext k; simp only [rot]
  repeat' split
  all_goals first | (exfalso; omega) | (congr 1 <;> omega)
theorem Perm.rotDown {d : Nat → P2} {m k lo hi : Nat} (i : Nat) (hki : k + i = m) (h1 : lo ≤ k) (h3 : m < hi) : Perm lo hi d (rot d k m (m + 1)) := by
  induction i generalizing k with
  | zero => obtain rfl : k = m := by omega
            rw [rot_right]; exact Perm.refl _ _ _
  | succ i ih =>
    rw [← rot_down d (show k < m by omega)]
    exact (ih (by omega) (by omega)).trans (Perm.swp _ ⟨by omega, by omega⟩ ⟨by omega, by omega⟩)
theorem one_last {d : Nat → P2} {a m i : Nat} (hs : Sorted d a m) (h1 : a ≤ i) (h2 : i ≤ m) (hl : ∀ q, a ≤ q → q < i → ¬ lt (d m) (d q)) (hr : ∀ q, i ≤ q → q < m → lt (d m) (d q)) : Sorted (rot d i m (m + 1)) a (m + 1) := by
  intro p q hp hpq hq
  simp only [rot]
  by_cases c1 : p < i
  · rw [if_neg (by omega), if_neg (by omega)]
    by_cases c2 : q < i
    · rw [if_neg (by omega), if_neg (by omega)]; exact hs _ _ (by omega) (by omega) (by omega)
    · by_cases c3 : q = i
      · rw [if_pos (by omega), show q - i + m = m by omega]; exact hl p (by omega) (by omega)
      · rw [if_neg (by omega), if_pos (by omega)]; exact hs _ _ (by omega) (by omega) (by omega)
  · by_cases c3 : p = i
    · rw [if_pos (by omega), if_neg (by omega), if_pos (by omega), show p - i + m = m by omega]
      exact le_of_lt (hr _ (by omega) (by omega))
    · rw [if_neg (by omega), if_pos (by omega), if_neg (by omega), if_pos (by omega)]; exact hs _ _ (by omega) (by omega) (by omega)
def lst (n : Nat) (d : Nat → P2) : List P2 := (List.range n).map d
theorem lst_perm {n : Nat} {d e : Nat → P2} (h : Perm 0 n d e) : (lst n e).Perm (lst n d) := by
  obtain ⟨s, t, h1, h2, h3, h4⟩ := h
  have hs : ∀ k, k < n → s k < n := fun k hk => by
    rcases Nat.lt_or_ge (s k) n with h | h
    · exact h
    · have := h3 (s k) (by omega)
      have e2 := h1 (s k)
      rw [this] at e2
      have e1 := h1 k
      rw [e1] at e2
      omega
  have ht : ∀ k, k < n → t k < n := fun k hk => by
    rcases Nat.lt_or_ge (t k) n with h | h
    · exact h
    · have := h3 (t k) (by omega)
      rw [h2] at this
      omega
  have hp : ((List.range n).map s).Perm (List.range n) := by
    refine (List.perm_ext_iff_of_nodup ?_ List.nodup_range).2 fun a => ?_
    · refine List.Pairwise.map _ ?_ (List.nodup_range (n := n))
      intro a b hab e
      exact hab (by rw [← h1 a, ← h1 b, e])
    · simp only [List.mem_map, List.mem_range]
      exact ⟨fun ⟨k, hk, e⟩ => e ▸ hs k hk, fun hk => ⟨t a, ht a hk, h2 a⟩⟩
  have he : lst n e = ((List.range n).map s).map d := by
    unfold lst
    rw [List.map_map]
    apply List.map_congr_left
    intro k _
    exact h4 k
  rw [he]
  exact hp.map d
theorem lst_sorted {n : Nat} {d : Nat → P2} (h : Sorted d 0 n) : (lst n d).Pairwise le := by
  unfold lst
  rw [List.pairwise_map]
  have := List.pairwise_lt_range (n := n)
  refine this.imp_of_mem ?_
  intro a b ha hb hab
  exact h a b (by omega) hab (List.mem_range.1 hb)
theorem lst_len (n : Nat) (d : Nat → P2) : (lst n d).length = n := by simp [lst]
theorem lst_get {n : Nat} {d : Nat → P2} {k : Nat} (h : k < n) : (lst n d)[k]? = some (d k) := by simp [lst, h]
theorem lst_mem {n : Nat} {d : Nat → P2} {x : P2} : x ∈ lst n d ↔ ∃ k, k < n ∧ d k = x := by simp [lst]
theorem lst_succ (n : Nat) (d : Nat → P2) : lst (n + 1) d = lst n d ++ [d n] := by simp [lst, List.range_succ]
theorem lst_congr {n : Nat} {d e : Nat → P2} (h : ∀ k, k < n → d k = e k) : lst n d = lst n e := by
  unfold lst
  apply List.map_congr_left
  intro k hk
  exact h k (List.mem_range.1 hk)
theorem sorted_one {n : Nat} {d e f : Nat → P2} (he : (lst n e).Perm (lst n d)) (hf : (lst n f).Perm (lst n d)) (se : Sorted e 0 n) (sf : Sorted f 0 n) (hd : ∀ i k, i < n → k < n → (d i).2.1 = (d k).2.1 → d i = d k) : ∀ k, k < n → e k = f k := by
  have hl : lst n e = lst n f := List.Perm.eq_of_pairwise (fun a b ha hb h k => by
    obtain ⟨i, hi, rfl⟩ := lst_mem.1 ((he.mem_iff).1 ha)
    obtain ⟨j, hj, rfl⟩ := lst_mem.1 ((hf.mem_iff).1 hb)
    unfold le lt at h k
    exact hd i j hi hj (by omega)) (lst_sorted se) (lst_sorted sf) (he.trans hf.symm)
  intro k hk
  have h1 : (lst n e)[k]? = some (e k) := lst_get hk
  have h2 : (lst n f)[k]? = some (f k) := lst_get hk
  rw [hl, h2] at h1
  injection h1 with h1
  exact h1.symm
end Go.Proofs.YtfhhcpmoaggdmaaGreat.Sr
