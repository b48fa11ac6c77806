import Derived.Test.YtecpplaobbkemaaZ05
set_option linter.all false
/- Slots that make a table: what follows; what the bus is at a tick. -/
namespace Go.Proofs.Ytecpplaobbkemaa
open Go.RowKit Go.Lib Go.Sort
set_option linter.unusedVariables false

/-- Slots that are spans of the frame, and do not meet. -/
def GoodS (f : Int) (n : Nat) (d : Nat → W3) : Prop := (∀ i, i < n → 1 ≤ (d i).1 ∧ (d i).1 ≤ 8 ∧ 0 ≤ (d i).2.1 ∧ (d i).2.1 < (d i).2.2 ∧ (d i).2.2 ≤ f) ∧ ∀ i k, i < n → k < n → i ≠ k → (d i).2.2 ≤ (d k).2.1 ∨ (d k).2.2 ≤ (d i).2.1
theorem newE_zero {f : Int} {d : Nat → W3} : ∀ {n : Nat}, newE f d n = 0 → ∀ i, i < n → sE f d i (d i) = 0
  | 0, _, i, hi => by omega
  | n + 1, h, i, hi => by
    rw [newE] at h
    by_cases h0 : newE f d n = 0
    · rw [if_pos h0] at h
      by_cases e : i = n
      · rw [e]; exact h
      · exact newE_zero h0 i (by omega)
    · rw [if_neg h0] at h
      exact absurd h h0
theorem sE_zero {f : Int} {d : Nat → W3} {i : Nat} {x : W3} (h : sE f d i x = 0) : (1 ≤ x.1 ∧ x.1 ≤ 8 ∧ 0 ≤ x.2.1 ∧ x.2.1 < x.2.2 ∧ x.2.2 ≤ f) ∧ ∀ k, k < i → meetsB (w3s x) (w3s (d k)) = false := by
  unfold sE at h
  by_cases hb : sBad f x = true
  · rw [if_pos hb] at h; cases h
  · rw [if_neg hb] at h
    by_cases ha : anyB (fun k => meetsB (w3s x) (w3s (d k))) i = true
    · rw [if_pos ha] at h; cases h
    · have hb' : sBad f x = false := by simpa using hb
      unfold sBad inB w3s at hb'
      simp at hb'
      refine ⟨by omega, fun k hk => anyB_no.1 (by simpa using ha) k hk⟩
theorem apart_of_meets {a b : Int × Int} (ha : 0 ≤ a.1 ∧ a.1 < a.2) (hb : 0 ≤ b.1 ∧ b.1 < b.2) (h : meetsB a b = false) : a.2 ≤ b.1 ∨ b.2 ≤ a.1 := by
  unfold meetsB isB holdsB at h
  simp [ha, hb] at h
  omega
theorem good_of {f : Int} {d : Nat → W3} {n : Nat} (h : newE f d n = 0) : GoodS f n d := by
  have hz := newE_zero h
  refine ⟨fun i hi => (sE_zero (hz i hi)).1, fun i k hi hk hne => ?_⟩
  have a1 := (sE_zero (hz i hi)).1
  have a2 := (sE_zero (hz k hk)).1
  rcases Nat.lt_or_gt_of_ne hne with hik | hik
  · have := apart_of_meets (a := w3s (d k)) (b := w3s (d i)) ⟨a2.2.2.1, a2.2.2.2.1⟩ ⟨a1.2.2.1, a1.2.2.2.1⟩ ((sE_zero (hz k hk)).2 i hik)
    simp only at this
    omega
  · have := apart_of_meets (a := w3s (d i)) (b := w3s (d k)) ⟨a1.2.2.1, a1.2.2.2.1⟩ ⟨a2.2.2.1, a2.2.2.2.1⟩ ((sE_zero (hz i hi)).2 k hik)
    simp only at this
    omega
/-- Two slots that do not meet. -/
def ApS (x y : W3) : Prop := x.2.2 ≤ y.2.1 ∨ y.2.2 ≤ x.2.1
theorem good_list {f : Int} {d : Nat → W3} {n : Nat} : GoodS f n d ↔ (∀ x ∈ (List.range n).map d, 1 ≤ x.1 ∧ x.1 ≤ 8 ∧ 0 ≤ x.2.1 ∧ x.2.1 < x.2.2 ∧ x.2.2 ≤ f) ∧ ((List.range n).map d).Pairwise ApS := by
  constructor
  · rintro ⟨h1, h2⟩
    refine ⟨fun x hx => ?_, ?_⟩
    · obtain ⟨i, hi, rfl⟩ := List.mem_map.1 hx
      exact h1 i (by simpa using hi)
    · rw [List.pairwise_iff_getElem]
      intro i j hi hj hij
      simp at hi hj
      simp only [List.getElem_map, List.getElem_range]
      exact h2 i j hi hj (by omega)
  · rintro ⟨h1, h2⟩
    rw [List.pairwise_iff_getElem] at h2
    refine ⟨fun i hi => h1 (d i) (List.mem_map.2 ⟨i, by simpa using hi, rfl⟩), fun i k hi hk hne => ?_⟩
    rcases Nat.lt_or_gt_of_ne hne with hik | hik
    · have := h2 i k (by simpa using hi) (by simpa using hk) hik
      simp only [List.getElem_map, List.getElem_range] at this
      exact this
    · have := h2 k i (by simpa using hk) (by simpa using hi) hik
      simp only [List.getElem_map, List.getElem_range] at this
      exact Or.symm this
theorem good_perm {f : Int} {d d' : Nat → W3} {n : Nat} (h : GoodS f n d) (p : ((List.range n).map d').Perm ((List.range n).map d)) : GoodS f n d' := by
  rw [good_list] at h ⊢
  exact ⟨fun x hx => h.1 x (p.mem_iff.1 hx), (p.pairwise_iff (fun k => Or.symm k)).2 h.2⟩
theorem perm_at {d d' : Nat → W3} {n : Nat} (p : ((List.range n).map d').Perm ((List.range n).map d)) {i : Nat} (hi : i < n) : ∃ k, k < n ∧ d k = d' i := by
  have := p.mem_iff.1 (List.mem_map.2 ⟨i, by simpa using hi, rfl⟩)
  obtain ⟨k, hk, e⟩ := List.mem_map.1 this
  exact ⟨k, by simpa using hk, e⟩
/-- What the bus is at an offset within a slot. -/
def stp (x : W3) (at' : Int) : W3 := (x.1, if (at' - x.2.1) / 4 < (x.2.2 - x.2.1) / 4 then ((at' - x.2.1) / 4, (at' - x.2.1) % 4) else (-1, 0))
/-- Which slot has an offset. -/
def hasS (d : Nat → W3) (at' : Int) (i : Nat) : Bool := holdsB (w3s (d i)) at'
/-- What the bus is at a tick. -/
def stepV (f : Int) (n : Nat) (d : Nat → W3) (t : Int) : W3 := if t < 0 then (0, -1, 0) else if fstI (hasS d (t % f)) n < 0 then (0, -1, 0) else stp (d (fstI (hasS d (t % f)) n).toNat) (t % f)
theorem stepV_neg {f : Int} {n : Nat} {d : Nat → W3} {t : Int} (h : t < 0) : stepV f n d t = (0, -1, 0) := by rw [stepV, if_pos h]
theorem stepV_none {f : Int} {n : Nat} {d : Nat → W3} {t : Int} (h : 0 ≤ t) (k : ∀ i, i < n → hasS d (t % f) i = false) : stepV f n d t = (0, -1, 0) := by
  rw [stepV, if_neg (by omega), fstI_none k, if_pos (by decide)]
theorem stepV_at {f : Int} {n : Nat} {d : Nat → W3} {t : Int} (h : 0 ≤ t) {i : Nat} (hi : i < n) (k : hasS d (t % f) i = true) (hb : ∀ j, j < i → hasS d (t % f) j = false) : stepV f n d t = stp (d i) (t % f) := by
  rw [stepV, if_neg (by omega), fstI_at hi k hb, if_neg (by omega), Int.toNat_natCast]
theorem has_one {f : Int} {n : Nat} {d : Nat → W3} (g : GoodS f n d) {x : Int} {i k : Nat} (hi : i < n) (hk : k < n) (h1 : hasS d x i = true) (h2 : hasS d x k = true) : i = k := by
  by_cases e : i = k
  · exact e
  · have := g.2 i k hi hk e
    unfold hasS holdsB w3s at h1 h2
    simp at h1 h2
    omega
/-- Of slots that do not meet, whichever has the offset. -/
theorem stepV_any {f : Int} {n : Nat} {d : Nat → W3} (g : GoodS f n d) {t : Int} (h : 0 ≤ t) {i : Nat} (hi : i < n) (k : hasS d (t % f) i = true) : stepV f n d t = stp (d i) (t % f) :=
  stepV_at h hi k (fun j hj => by
    cases hq : hasS d (t % f) j
    · rfl
    · have := has_one g (by omega) hi hq k
      omega)
theorem stepV_perm {f : Int} {n : Nat} {d d' : Nat → W3} (g : GoodS f n d) (p : ((List.range n).map d').Perm ((List.range n).map d)) (t : Int) : stepV f n d' t = stepV f n d t := by
  by_cases h : t < 0
  · rw [stepV_neg h, stepV_neg h]
  · rcases fstI_cases (hasS d' (t % f)) n with ⟨i, hi, _, h1, _⟩ | ⟨_, h1⟩
    · obtain ⟨k, hk, e⟩ := perm_at p hi
      rw [stepV_any (good_perm g p) (by omega) hi h1, stepV_any g (by omega) hk (by unfold hasS at h1 ⊢; rw [e]; exact h1), e]
    · rw [stepV_none (by omega) h1, stepV_none (by omega) (fun i hi => by
        obtain ⟨k, hk, e⟩ := perm_at p.symm hi
        have := h1 k hk
        unfold hasS at this ⊢
        rw [← e]
        exact this)]
/-- Does a unit of an owner begin? -/
def begB (f : Int) (n : Nat) (d : Nat → W3) (t o : Int) : Bool := decide ((stepV f n d t).1 = o ∧ 0 ≤ (stepV f n d t).2.1 ∧ (stepV f n d t).2.2 = 0)
end Go.Proofs.Ytecpplaobbkemaa

/- What the bus is at a tick: At, by its contract. -/
namespace Go.Proofs.Ytecpplaobbkemaa
open Go.RowKit Go.Lib Go.Sort
set_option linter.unusedVariables false

/-- A table of slots at a block. -/
def TbS (w : World) (b : Nat) (f : Int) (A : Option Addr) (n c : Nat) (d : Nat → W3) : Prop := Blk w b 52 #[.int .i64 f, .slice A n c] ∧ Row3 w A n d
theorem TbS.grown {w w' : World} {b : Nat} {f : Int} {A : Option Addr} {n c : Nat} {d : Nat → W3} (h : TbS w b f A n c d) (g : w.grownBy w' none) : TbS w' b f A n c d := ⟨h.1.only g (by simp), h.2.grown g⟩
theorem PT.tbs {w W : World} {b : Nat} {f : Int} {A : Option Addr} {n c : Nat} {d : Nat → W3} (h : PT w W b f (.slice A n c) n (sL d n)) : TbS W b f A n c d := ⟨h.bt, h.row3⟩
abbrev stv (x : W3) : Value := .agg #[.int .i64 x.1, .int .i64 x.2.1, .int .i64 x.2.2]
/-- Two boxes of steps. -/
theorem two_boxes (w : World) (t : TypeId) (cs cs2 : Array Value) : ∃ W, W = (w.alloc (.cells cs t)).alloc (.cells cs2 t) ∧ w.grownBy W none ∧ Blk W w.heap.size t cs ∧ Blk W (w.heap.size + 1) t cs2 := box2 w t cs t cs2
set_option maxRecDepth 20000 in
set_option maxHeartbeats 1600000 in
theorem sat_nil (t : Int) (w : World) : Calls Try.prog 12 #[.pointer none, .int .i64 t] w fun e w' => e = .returned (stv (0, -1, 0)) ∧ w.grownBy w' none := by
  obtain ⟨W1, hW, G1, hR, hS⟩ := two_boxes w 33 #[.int .i64 0, .int .i64 0, .int .i64 0] #[.int .i64 0, .int .i64 (-1), .int .i64 0]
  have GG := Lib.hid G1
  have HR := Lib.hid hR
  have c0 : W1.cell? ⟨w.heap.size, 0, none⟩ = some (.int .i64 0) := hR.cell 0
  have c1 : W1.cell? ⟨w.heap.size, 1, none⟩ = some (.int .i64 0) := hR.cell 1
  have c2 : W1.cell? ⟨w.heap.size, 2, none⟩ = some (.int .i64 0) := hR.cell 2
  have f0 := hR.free 0
  have f1 := hR.free 1
  have f2 := hR.free 2
  have d0 : W1.cell? ⟨w.heap.size + 1, 0, none⟩ = some (.int .i64 0) := hS.cell 0
  have d1 : W1.cell? ⟨w.heap.size + 1, 1, none⟩ = some (.int .i64 (-1)) := hS.cell 1
  have d2 : W1.cell? ⟨w.heap.size + 1, 2, none⟩ = some (.int .i64 0) := hS.cell 2
  clear hR hS G1
  go_enter Try.func12, Try.ntmps12
  go_upto_region 2 with (fail)
  rw [← hW]
  clear hW
  go_wp2
  have bf := (((HR.out.put 0 (.int .i64 0)).put 1 (.int .i64 (-1))).put 2 (.int .i64 0))
  have r0 := bf.cell 0
  have r1 := bf.cell 1
  have r2 := bf.cell 2
  simp at r0 r1 r2
  refine bodyPost_ret (v := .agg #[.int .i64 0, .int .i64 (-1), .int .i64 0]) (by simp [results, Try.results12, go_sem, r0, r1, r2]) rfl ⟨rfl, only_putc (only_putc (only_putc GG.out (p := ⟨w.heap.size, 0, none⟩) (Nat.le_refl _) _) (p := ⟨w.heap.size, 1, none⟩) (Nat.le_refl _) _) (p := ⟨w.heap.size, 2, none⟩) (Nat.le_refl _) _⟩
set_option maxRecDepth 20000 in
set_option maxHeartbeats 1600000 in
theorem stat_any (b : Nat) (f : Int) (A : Option Addr) (n c : Nat) (d : Nat → W3) (t : Int) (w : World) (h : TbS w b f A n c d) (hr : rightB f = true) (hg : GoodS f n d) (hn : n ≤ 1000) (ht : t ≤ 9223372036854775807) :
    Calls Try.prog 12 #[.pointer (some ⟨b, 0, none⟩), .int .i64 t] w fun e w' => e = .returned (stv (stepV f n d t)) ∧ w.grownBy w' none := by
  obtain ⟨W1, hW, G1, hR, hS⟩ := two_boxes w 33 #[.int .i64 0, .int .i64 0, .int .i64 0] #[.int .i64 0, .int .i64 (-1), .int .i64 0]
  have GG := Lib.hid G1
  have HR := Lib.hid hR
  have HS := Lib.hid hS
  have HT := Lib.hid (h.grown G1)
  have hbl := h.1.lt
  obtain ⟨f1, f2⟩ := (rightB_iff f).1 hr
  by_cases h0 : t < 0
  · rw [stepV_neg h0]
    have c0 : W1.cell? ⟨w.heap.size, 0, none⟩ = some (.int .i64 0) := hR.cell 0
    have c1 : W1.cell? ⟨w.heap.size, 1, none⟩ = some (.int .i64 0) := hR.cell 1
    have c2 : W1.cell? ⟨w.heap.size, 2, none⟩ = some (.int .i64 0) := hR.cell 2
    have f0 := hR.free 0
    have f1 := hR.free 1
    have f2 := hR.free 2
    have d0 : W1.cell? ⟨w.heap.size + 1, 0, none⟩ = some (.int .i64 0) := hS.cell 0
    have d1 : W1.cell? ⟨w.heap.size + 1, 1, none⟩ = some (.int .i64 (-1)) := hS.cell 1
    have d2 : W1.cell? ⟨w.heap.size + 1, 2, none⟩ = some (.int .i64 0) := hS.cell 2
    clear hR hS G1 h hr hg
    go_enter Try.func12, Try.ntmps12
    go_upto_region 2 with (fail)
    rw [← hW]
    clear hW
    go_wp2
    have bf := (((HR.out.put 0 (.int .i64 0)).put 1 (.int .i64 (-1))).put 2 (.int .i64 0))
    have r0 := bf.cell 0
    have r1 := bf.cell 1
    have r2 := bf.cell 2
    simp at r0 r1 r2
    refine bodyPost_ret (v := .agg #[.int .i64 0, .int .i64 (-1), .int .i64 0]) (by simp [results, Try.results12, go_sem, r0, r1, r2]) rfl ⟨rfl, only_putc (only_putc (only_putc GG.out (p := ⟨w.heap.size, 0, none⟩) (Nat.le_refl _) _) (p := ⟨w.heap.size, 1, none⟩) (Nat.le_refl _) _) (p := ⟨w.heap.size, 2, none⟩) (Nat.le_refl _) _⟩
  have hfrv : frV t f = (t / f, t % f) := by simp [frV, hr]; omega
  have HFC := Lib.hid (fun W => (show Calls Try.prog 28 #[.int .i64 t, .int .i64 f] W (fun r w' => r = .returned (.tuple #[.int .i64 (t / f), .int .i64 (t % f)]) ∧ ∃ q, W.drewN q = w') from by
    have := frame_any t f W ht
    rw [hfrv] at this
    exact this))
  have x0 := Int.emod_nonneg t (show f ≠ 0 by omega)
  have x1 := Int.emod_lt_of_pos t (show 0 < f by omega)
  have HV0 := Lib.hid (fun k => stepV_none (f := f) (n := n) (d := d) (t := t) (by omega) k)
  have HV1 := Lib.hid (fun i hi k => stepV_any (f := f) hg (t := t) (by omega) (i := i) hi k)
  have HGD := Lib.hid hg.1
  generalize stepV f n d t = r at HV0 HV1 ⊢
  have HFI := Lib.hid (fstI_cases (hasS d (t % f)) n)
  have HIX := Lib.hid (fun (g : Nat) (W : World) (k : Row3 W A n d) (q : W.cell? ⟨g, 0, none⟩ = some (.int .i64 (t % f))) => (show Calls Try.prog 29 #[.slice A n c, .func (.func 30) #[] #[.pointer (some ⟨g, 0, none⟩)]] W (fun e w' => e = .returned (.int .i64 (fstI (hasS d (t % f)) n)) ∧ W.grownBy w' none) from
    idxa17_any g (hasS d (t % f)) A n c d W k (by omega) (fun i hi W' hw => sat_any (d i) (t % f) g W' (by
      have : g < W.heap.size := World.block_lt_of_cell? W _ q
      rw [cell_heap (hw.block g this (by simp)) 0]
      exact q))))
  generalize hx : t % f = x at *
  generalize t / f = y at *
  generalize hfi : fstI (hasS d x) n = fi at *
  clear hfrv hx hfi h hr hg
  have a0 : W1.cell? ⟨b, 0, none⟩ = some (.int .i64 f) := HT.out.1.cell 0
  have hne : ¬ b = w.heap.size := by omega
  have hne2 : ¬ b = w.heap.size + 1 := by omega
  clear hR hS G1
  go_enter Try.func12, Try.ntmps12
  go_upto_region 2 with (fail)
  rw [← hW]
  have HSZ := Lib.hid (show W1.heap.size = w.heap.size + 2 from by rw [hW]; simp)
  clear hW
  go_upto_region 5 with (go_at_call 28; (with_reducible refine (HFC.out _).mono ?_); rintro e w2 ⟨rfl, q, hq⟩; have g2 : W1.grownBy w2 none := (by rw [← hq]; exact only_drewN (only_refl _ _) q); have T2 := Lib.hid (HT.out.grown g2); have R2 := Lib.hid (HR.out.only g2 (by simp)); have S2 := Lib.hid (HS.out.only g2 (by simp)); have G2 := Lib.hid (only_trans GG.out g2); have SZ2 := Lib.hid (show w.heap.size + 2 ≤ w2.heap.size from by have := g2.size; have := HSZ.out; omega); clear g2 hq a0)
  obtain ⟨w3, hw3⟩ : ∃ w3, w3 = w2.alloc (.cells #[.int .i64 x] 3) := ⟨_, rfl⟩
  have g3 : w2.grownBy w3 none := by rw [hw3]; exact only_alloc (only_refl _ _) _
  have HX : Hid (Blk w3 w2.heap.size 3 #[.int .i64 x]) := Lib.hid (by rw [hw3]; exact Blk.new _ _ _)
  have T3 := Lib.hid (T2.out.grown g3)
  have R3 := Lib.hid (R2.out.only g3 (by simp))
  have S3 := Lib.hid (S2.out.only g3 (by simp))
  have G3 := Lib.hid (only_trans G2.out g3)
  rw [← hw3]
  clear hw3 g3 T2 R2 S2 G2 HT HR HS GG
  have hgx : w.heap.size + 2 ≤ w2.heap.size := SZ2.out
  generalize w2.heap.size = gx at HX hgx ⊢
  have b1 : w3.cell? ⟨b, 1, none⟩ = some (.slice A n c) := T3.out.1.cell 1
  have HI := Lib.hid (HIX.out gx w3 T3.out.2 (HX.out.cell 0))
  rcases HFI.out with ⟨i, hi, rfl, hq, _⟩ | ⟨rfl, hq⟩
  case inr =>
    have HRZ := Lib.hid (HV0.out hq)
    have d0 : ∀ W, w3.grownBy W none → W.cell? ⟨w.heap.size + 1, 0, none⟩ = some (.int .i64 0) ∧ W.cell? ⟨w.heap.size + 1, 1, none⟩ = some (.int .i64 (-1)) ∧ W.cell? ⟨w.heap.size + 1, 2, none⟩ = some (.int .i64 0) ∧ W.cell? ⟨w.heap.size, 0, none⟩ = some (.int .i64 0) ∧ W.cell? ⟨w.heap.size, 1, none⟩ = some (.int .i64 0) ∧ W.cell? ⟨w.heap.size, 2, none⟩ = some (.int .i64 0) ∧ W.frozen? ⟨w.heap.size, 0, none⟩ = false ∧ W.frozen? ⟨w.heap.size, 1, none⟩ = false ∧ W.frozen? ⟨w.heap.size, 2, none⟩ = false := fun W g => by
      have s := S3.out.only g (by simp)
      have r := R3.out.only g (by simp)
      exact ⟨s.cell 0, s.cell 1, s.cell 2, r.cell 0, r.cell 1, r.cell 2, r.free 0, r.free 1, r.free 2⟩
    have D0 := Lib.hid d0
    clear d0 hq HV0 HV1 HFI
    go_wp2_with (go_at_call 29; (with_reducible refine HI.out.mono ?_); rintro e w4 ⟨rfl, g4⟩; obtain ⟨d0, d1, d2, c0, c1, c2, f0, f1, f2⟩ := D0.out w4 g4; have R4 := Lib.hid (R3.out.only g4 (by simp)); have G4 := Lib.hid (only_trans G3.out g4); clear g4 b1)
    have bf := (((R4.out.put 0 (.int .i64 0)).put 1 (.int .i64 (-1))).put 2 (.int .i64 0))
    have r0 := bf.cell 0
    have r1 := bf.cell 1
    have r2 := bf.cell 2
    simp at r0 r1 r2
    refine bodyPost_ret (v := .agg #[.int .i64 0, .int .i64 (-1), .int .i64 0]) (by simp [results, Try.results12, go_sem, r0, r1, r2]) rfl ⟨by rw [HRZ.out], only_putc (only_putc (only_putc G4.out (p := ⟨w.heap.size, 0, none⟩) (Nat.le_refl _) _) (p := ⟨w.heap.size, 1, none⟩) (Nat.le_refl _) _) (p := ⟨w.heap.size, 2, none⟩) (Nat.le_refl _) _⟩
  have hgd := HGD.out i hi
  have HRV := Lib.hid (HV1.out i hi hq)
  have hho : holdsB (w3s (d i)) x = true := hq
  clear hq HV0 HV1 HFI HGD HIX
  obtain ⟨bs, off, rfl, hbs, hcs⟩ := T3.out.2.2 (by omega)
  obtain ⟨s0, s1, s2⟩ := hcs i hi
  clear hcs
  obtain ⟨y0, hy0⟩ : ∃ y, y = d i := ⟨_, rfl⟩
  rw [← hy0] at s0 s1 s2 hgd hho HRV
  have HYI := Lib.hid hy0
  clear hy0
  obtain ⟨so, sa, sb⟩ := y0
  simp only at s0 s1 s2 hgd
  have hh : sa ≤ x ∧ x < sb := by unfold holdsB w3s at hho; simp at hho; omega
  have HUN := Lib.hid (fun W => suns_any (so, sa, sb) ⟨by simp only; omega, by simp only; omega, by simp only; omega⟩ W)
  simp only at HUN
  have i1 : (i : Int) < (n : Int) := by omega
  have i0 : ¬ (i : Int) < 0 := by omega
  have i2 : (0 : Int) ≤ (i : Int) := by omega
  have u1 : IntKind.i64.wrap (x - sa) = x - sa := by rw [IntKind.wrap_i64]; omega
  have u2 : Int.tdiv (x - sa) 4 = (x - sa) / 4 := Int.tdiv_eq_ediv_of_nonneg (by omega)
  have u3 : Int.tmod (x - sa) 4 = (x - sa) % 4 := Int.tmod_eq_emod_of_nonneg (by omega)
  have u4 : IntKind.i64.wrap ((x - sa) / 4) = (x - sa) / 4 := by rw [IntKind.wrap_i64]; omega
  have u5 : IntKind.i64.wrap ((x - sa) % 4) = (x - sa) % 4 := by rw [IntKind.wrap_i64]; omega
  have HD := Lib.hid (show ∀ W, w3.grownBy W none → W.cell? ⟨b, 1, none⟩ = some (.slice (some ⟨bs, off, none⟩) n c) ∧ W.cell? ⟨bs, off + i * 3, none⟩ = some (.int .i64 so) ∧ W.cell? ⟨bs, off + i * 3 + 1, none⟩ = some (.int .i64 sa) ∧ W.cell? ⟨bs, off + i * 3 + 2, none⟩ = some (.int .i64 sb) ∧ Blk W w.heap.size 33 #[.int .i64 0, .int .i64 0, .int .i64 0] ∧ Blk W (w.heap.size + 1) 33 #[.int .i64 0, .int .i64 (-1), .int .i64 0] ∧ Blk W gx 3 #[.int .i64 x] from fun W g => by
    have t := T3.out.1.only g (by simp)
    have q : ∀ k, W.cell? ⟨bs, k, none⟩ = w3.cell? ⟨bs, k, none⟩ := fun k => cell_heap (g.block bs hbs (by simp)) k
    exact ⟨t.cell 1, (q _).trans s0, (q _).trans s1, (q _).trans s2, R3.out.only g (by simp), S3.out.only g (by simp), HX.out.only g (by simp)⟩)
  have HBLT := Lib.hid (show b < w3.heap.size ∧ bs < w3.heap.size ∧ gx < w3.heap.size from ⟨T3.out.1.lt, hbs, HX.out.lt⟩)
  clear s0 s1 s2 hho hbs
  go_upto_region 8 with (go_at_call 29; (with_reducible refine HI.out.mono ?_); rintro e w4 ⟨rfl, g4⟩; obtain ⟨z1, s0, s1, s2, R4, S4, X4⟩ := HD.out w4 g4; replace R4 := Lib.hid R4; replace S4 := Lib.hid S4; replace X4 := Lib.hid X4; have G4 := Lib.hid (only_trans G3.out g4); have sz4 := g4.size; clear g4 b1)
  obtain ⟨w5, hw5⟩ : ∃ w5, w5 = w4.alloc (.cells #[.int .i64 so, .int .i64 sa, .int .i64 sb] 54) := ⟨_, rfl⟩
  have g5 : w4.grownBy w5 none := by rw [hw5]; exact only_alloc (only_refl _ _) _
  have HY : Hid (Blk w5 w4.heap.size 54 #[.int .i64 so, .int .i64 sa, .int .i64 sb]) := Lib.hid (by rw [hw5]; exact Blk.new _ _ _)
  have R5 := Lib.hid (R4.out.only g5 (by simp))
  have S5 := Lib.hid (S4.out.only g5 (by simp))
  have X5 := Lib.hid (X4.out.only g5 (by simp))
  have G5 := Lib.hid (only_trans G4.out g5)
  have hgy : gx < w4.heap.size := X4.out.lt
  go_upto_region 9 with (fail)
  rw [← hw5]
  clear hw5 g5 z1 s0 s1 s2 R4 S4 X4 G4 HD HI HX T3 R3 S3 G3
  generalize w4.heap.size = gy at HY hgy ⊢
  have y0 : w5.cell? ⟨gy, 0, none⟩ = some (.int .i64 so) := HY.out.cell 0
  have v0 : w5.cell? ⟨w.heap.size + 1, 0, none⟩ = some (.int .i64 0) := S5.out.cell 0
  have v1 := S5.out.free 0
  go_upto_region 10 with (fail)
  obtain ⟨w6, hw6⟩ : ∃ w6, w6 = w5.setCell ⟨w.heap.size + 1, 0, none⟩ (.int .i64 so) := ⟨_, rfl⟩
  have S6 : Hid (Blk w6 (w.heap.size + 1) 33 #[.int .i64 so, .int .i64 (-1), .int .i64 0]) := Lib.hid (by rw [hw6]; exact S5.out.put 0 (.int .i64 so))
  have R6 : Hid (Blk w6 w.heap.size 33 #[.int .i64 0, .int .i64 0, .int .i64 0]) := Lib.hid (by rw [hw6]; exact R5.out.far (p := ⟨w.heap.size + 1, 0, none⟩) (by show w.heap.size ≠ w.heap.size + 1; omega) _)
  have X6 : Hid (Blk w6 gx 3 #[.int .i64 x]) := Lib.hid (by rw [hw6]; exact X5.out.far (p := ⟨w.heap.size + 1, 0, none⟩) (by show gx ≠ w.heap.size + 1; omega) _)
  have Y6 : Hid (Blk w6 gy 54 #[.int .i64 so, .int .i64 sa, .int .i64 sb]) := Lib.hid (by rw [hw6]; exact HY.out.far (p := ⟨w.heap.size + 1, 0, none⟩) (by show gy ≠ w.heap.size + 1; omega) _)
  have G6 := Lib.hid (show w.grownBy w6 none from by rw [hw6]; exact only_putc G5.out (p := ⟨w.heap.size + 1, 0, none⟩) (Nat.le_succ _) _)
  rw [← hw6]
  clear hw6 y0 v0 v1 HY R5 S5 X5 G5
  have y0 : w6.cell? ⟨gy, 0, none⟩ = some (.int .i64 so) := Y6.out.cell 0
  have y1 : w6.cell? ⟨gy, 1, none⟩ = some (.int .i64 sa) := Y6.out.cell 1
  have y2 : w6.cell? ⟨gy, 2, none⟩ = some (.int .i64 sb) := Y6.out.cell 2
  have x0 : w6.cell? ⟨gx, 0, none⟩ = some (.int .i64 x) := X6.out.cell 0
  have HST := Lib.hid (show r = (so, if (x - sa) / 4 < (sb - sa) / 4 then ((x - sa) / 4, (x - sa) % 4) else (-1, 0)) from HRV.out)
  clear HRV
  by_cases hu : (x - sa) / 4 < (sb - sa) / 4
  case neg =>
    rw [if_neg hu] at HST
    go_wp2_with (go_at_call 33; (with_reducible refine (HUN.out _).mono ?_); rintro e w7 ⟨rfl, g7⟩; have S7 := Lib.hid (S6.out.only g7 (by simp)); have R7 := Lib.hid (R6.out.only g7 (by simp)); have G7 := Lib.hid (only_trans G6.out g7); clear g7 y0 y1 y2 x0; have d0 : w7.cell? ⟨w.heap.size + 1, 0, none⟩ = some (.int .i64 so) := S7.out.cell 0; have d1 : w7.cell? ⟨w.heap.size + 1, 1, none⟩ = some (.int .i64 (-1)) := S7.out.cell 1; have d2 : w7.cell? ⟨w.heap.size + 1, 2, none⟩ = some (.int .i64 0) := S7.out.cell 2; have c0 : w7.cell? ⟨w.heap.size, 0, none⟩ = some (.int .i64 0) := R7.out.cell 0; have c1 : w7.cell? ⟨w.heap.size, 1, none⟩ = some (.int .i64 0) := R7.out.cell 1; have c2 : w7.cell? ⟨w.heap.size, 2, none⟩ = some (.int .i64 0) := R7.out.cell 2; have f0 := R7.out.free 0; have f1' := R7.out.free 1; have f2' := R7.out.free 2)
    have bf := (((R7.out.put 0 (.int .i64 so)).put 1 (.int .i64 (-1))).put 2 (.int .i64 0))
    have r0 := bf.cell 0
    have r1 := bf.cell 1
    have r2 := bf.cell 2
    simp at r0 r1 r2
    refine bodyPost_ret (v := .agg #[.int .i64 so, .int .i64 (-1), .int .i64 0]) (by simp [results, Try.results12, go_sem, r0, r1, r2]) rfl ⟨by rw [HST.out], only_putc (only_putc (only_putc G7.out (p := ⟨w.heap.size, 0, none⟩) (Nat.le_refl _) _) (p := ⟨w.heap.size, 1, none⟩) (Nat.le_refl _) _) (p := ⟨w.heap.size, 2, none⟩) (Nat.le_refl _) _⟩
  rw [if_pos hu] at HST
  go_upto_region 12 with (go_at_call 33; (with_reducible refine (HUN.out _).mono ?_); rintro e w7 ⟨rfl, g7⟩; have S7 := Lib.hid (S6.out.only g7 (by simp)); have R7 := Lib.hid (R6.out.only g7 (by simp)); have Y7 := Lib.hid (Y6.out.only g7 (by simp)); have X7 := Lib.hid (X6.out.only g7 (by simp)); have G7 := Lib.hid (only_trans G6.out g7); clear g7 y0 y1 y2 x0)
  clear S6 R6 Y6 X6 G6
  have y1 : w7.cell? ⟨gy, 1, none⟩ = some (.int .i64 sa) := Y7.out.cell 1
  have x0 : w7.cell? ⟨gx, 0, none⟩ = some (.int .i64 x) := X7.out.cell 0
  have d1 : w7.cell? ⟨w.heap.size + 1, 1, none⟩ = some (.int .i64 (-1)) := S7.out.cell 1
  have d2 : w7.cell? ⟨w.heap.size + 1, 2, none⟩ = some (.int .i64 0) := S7.out.cell 2
  have e1 := S7.out.free 1
  have e2 := S7.out.free 2
  have n1 : ¬ gx = w.heap.size + 1 := by omega
  have n2 : ¬ gy = w.heap.size + 1 := by omega
  have n3 : ¬ w.heap.size + 1 = gx := by omega
  have n4 : ¬ w.heap.size + 1 = gy := by omega
  go_region_held3 (fun w' => w'.cell? ⟨gy, 1, none⟩ = some (.int .i64 sa) ∧ w'.cell? ⟨gx, 0, none⟩ = some (.int .i64 x)) (go_keep) (fail)
  obtain ⟨w8, hw8⟩ : ∃ w8, w8 = ((w7.setCell ⟨w.heap.size + 1, 1, none⟩ (.int .i64 ((x - sa) / 4))).setCell ⟨w.heap.size + 1, 2, none⟩ (.int .i64 ((x - sa) % 4))).drew := ⟨_, rfl⟩
  have hS8 : Blk w8 (w.heap.size + 1) 33 #[.int .i64 so, .int .i64 ((x - sa) / 4), .int .i64 ((x - sa) % 4)] := by rw [hw8]; exact ((S7.out.put 1 (.int .i64 ((x - sa) / 4))).put 2 (.int .i64 ((x - sa) % 4))).drewN 1
  have R8 : Hid (Blk w8 w.heap.size 33 #[.int .i64 0, .int .i64 0, .int .i64 0]) := Lib.hid (by rw [hw8]; exact ((R7.out.far (p := ⟨w.heap.size + 1, 1, none⟩) (by show w.heap.size ≠ w.heap.size + 1; omega) _).far (p := ⟨w.heap.size + 1, 2, none⟩) (by show w.heap.size ≠ w.heap.size + 1; omega) _).drewN 1)
  have G8 := Lib.hid (show w.grownBy w8 none from by rw [hw8]; exact only_drewN (only_putc (only_putc G7.out (p := ⟨w.heap.size + 1, 1, none⟩) (Nat.le_succ _) _) (p := ⟨w.heap.size + 1, 2, none⟩) (Nat.le_succ _) _) 1)
  rw [← hw8]
  clear hw8 y1 x0 d1 d2 e1 e2 S7 R7 Y7 X7 G7
  have d0 : w8.cell? ⟨w.heap.size + 1, 0, none⟩ = some (.int .i64 so) := hS8.cell 0
  have d1 : w8.cell? ⟨w.heap.size + 1, 1, none⟩ = some (.int .i64 ((x - sa) / 4)) := hS8.cell 1
  have d2 : w8.cell? ⟨w.heap.size + 1, 2, none⟩ = some (.int .i64 ((x - sa) % 4)) := hS8.cell 2
  have c0 : w8.cell? ⟨w.heap.size, 0, none⟩ = some (.int .i64 0) := R8.out.cell 0
  have c1 : w8.cell? ⟨w.heap.size, 1, none⟩ = some (.int .i64 0) := R8.out.cell 1
  have c2 : w8.cell? ⟨w.heap.size, 2, none⟩ = some (.int .i64 0) := R8.out.cell 2
  have g0 := R8.out.free 0
  have g1 := R8.out.free 1
  have g2 := R8.out.free 2
  clear hS8
  go_wp2
  have bf := (((R8.out.put 0 (.int .i64 so)).put 1 (.int .i64 ((x - sa) / 4))).put 2 (.int .i64 ((x - sa) % 4)))
  have r0 := bf.cell 0
  have r1 := bf.cell 1
  have r2 := bf.cell 2
  simp at r0 r1 r2
  refine bodyPost_ret (v := .agg #[.int .i64 so, .int .i64 ((x - sa) / 4), .int .i64 ((x - sa) % 4)]) (by simp [results, Try.results12, go_sem, r0, r1, r2]) rfl ⟨by rw [HST.out], only_putc (only_putc (only_putc G8.out (p := ⟨w.heap.size, 0, none⟩) (Nat.le_refl _) _) (p := ⟨w.heap.size, 1, none⟩) (Nat.le_refl _) _) (p := ⟨w.heap.size, 2, none⟩) (Nat.le_refl _) _⟩
end Go.Proofs.Ytecpplaobbkemaa

/- The document's word on what the bus is at a tick, by its contract. -/
namespace Go.Proofs.Ytecpplaobbkemaa
open Go.RowKit Go.Lib Go.Sort
set_option linter.unusedVariables false

/-- Within a slot: unit k is the one, if the offset is in it. -/
theorem stp_unit {x : W3} {at' : Int} {k : Nat} (h1 : x.2.1 + 4 * (k : Int) ≤ at') (h2 : at' < x.2.1 + 4 * (k : Int) + 4) (h3 : x.2.1 + 4 * (k : Int) + 4 ≤ x.2.2) : stp x at' = (x.1, (k : Int), at' - (x.2.1 + 4 * (k : Int))) := by
  unfold stp
  have a1 : (at' - x.2.1) / 4 = (k : Int) := by omega
  have a2 : (k : Int) < (x.2.2 - x.2.1) / 4 := by omega
  rw [a1, if_pos a2]
  congr 2
  omega
theorem stp_idle {x : W3} {at' : Int} {k : Nat} (h1 : x.2.1 + 4 * (k : Int) ≤ at') (h3 : ¬ x.2.1 + 4 * (k : Int) + 4 ≤ x.2.2) : stp x at' = (x.1, -1, 0) := by
  unfold stp
  rw [if_neg]
  omega
set_option maxRecDepth 20000 in
set_option maxHeartbeats 3200000 in
theorem rat17_any (f : Int) (A : Option Addr) (n c : Nat) (d : Nat → W3) (t : Int) (w : World) (h : Row3 w A n d) (hr : rightB f = true) (hg : GoodS f n d) (hn : n ≤ 1000) (ht : t ≤ 9223372036854775807) :
    Calls Try.prog 13 #[.int .i64 f, .slice A n c, .int .i64 t] w fun e w' => e = .returned (stv (stepV f n d t)) ∧ w.grownBy w' none := by
  obtain ⟨f1, f2⟩ := (rightB_iff f).1 hr
  obtain ⟨W1, hW, G1, hR⟩ := box1 w 35 #[.int .i64 0, .int .i64 0, .int .i64 0]
  have GG := Lib.hid G1
  have HR := Lib.hid hR
  have HT := Lib.hid (h.grown G1)
  have HA := Lib.hid (show 0 < n → ∃ b off, A = some ⟨b, off, none⟩ ∧ b < w.heap.size from fun k => by obtain ⟨b, off, e, q, _⟩ := h.2 k; exact ⟨b, off, e, q⟩)
  have HW1 := Lib.hid (show ∀ W, W1.grownBy W none → W.cell? ⟨w.heap.size, 0, none⟩ = some (.int .i64 0) ∧ W.cell? ⟨w.heap.size, 1, none⟩ = some (.int .i64 0) ∧ W.cell? ⟨w.heap.size, 2, none⟩ = some (.int .i64 0) ∧ W.frozen? ⟨w.heap.size, 0, none⟩ = false ∧ W.frozen? ⟨w.heap.size, 1, none⟩ = false ∧ W.frozen? ⟨w.heap.size, 2, none⟩ = false ∧ Blk W w.heap.size 35 #[.int .i64 0, .int .i64 0, .int .i64 0] ∧ w.grownBy W none from fun W g => by
    have r := hR.only g (by simp)
    exact ⟨r.cell 0, r.cell 1, r.cell 2, r.free 0, r.free 1, r.free 2, r, only_trans G1 g⟩)
  by_cases h0 : t < 0
  · rw [stepV_neg h0]
    obtain ⟨c0, c1, c2, q0, q1, q2, _, _⟩ := HW1.out W1 (only_refl _ _)
    clear hR G1 h hr hg
    go_enter Try.func13, Try.ntmps13
    go_upto_region 1 with (fail)
    rw [← hW]
    clear hW
    go_wp2
    have bf := (((HR.out.put 0 (.int .i64 0)).put 1 (.int .i64 (-1))).put 2 (.int .i64 0))
    have r0 := bf.cell 0
    have r1 := bf.cell 1
    have r2 := bf.cell 2
    simp at r0 r1 r2
    refine bodyPost_ret (v := .agg #[.int .i64 0, .int .i64 (-1), .int .i64 0]) (by simp [results, Try.results13, go_sem, r0, r1, r2]) rfl ⟨rfl, only_putc (only_putc (only_putc GG.out (p := ⟨w.heap.size, 0, none⟩) (Nat.le_refl _) _) (p := ⟨w.heap.size, 1, none⟩) (Nat.le_refl _) _) (p := ⟨w.heap.size, 2, none⟩) (Nat.le_refl _) _⟩
  have x0 := Int.emod_nonneg t (show f ≠ 0 by omega)
  have x1 := Int.emod_lt_of_pos t (show 0 < f by omega)
  have HO := Lib.hid (fun W => (show Calls Try.prog 34 #[.int .i64 t, .int .i64 f] W (fun e w' => e = .returned (.int .i64 (t % f)) ∧ W = w') from roff_any t f W (by omega) f1 ht))
  have HV0 := Lib.hid (fun k => stepV_none (f := f) (n := n) (d := d) (t := t) (by omega) k)
  have HV1 := Lib.hid (fun i hi k => stepV_any (f := f) hg (t := t) (by omega) (i := i) hi k)
  have HGD := Lib.hid hg.1
  generalize stepV f n d t = r at HV0 HV1 ⊢
  generalize t % f = x at *
  clear hR G1 h hr hg
  go_enter Try.func13, Try.ntmps13
  go_upto_region 1 with (fail)
  rw [← hW]
  clear hW
  go_wp2_with (go_at_call 34; (with_reducible refine (HO.out _).mono ?_); rintro e w2 ⟨rfl, rfl⟩)
  go_loopw [8] (fun y wr => ∃ (i : Nat), y = .int .i64 i ∧ i ≤ n ∧ Hid (∀ k, k < i → hasS d x k = false) ∧ Hid (W1.grownBy wr none)) (fun y _ => n - (intOf y).toNat)
  case atStart => exact ⟨0, rfl, by omega, Lib.hid (fun k hk => by omega), Lib.hid (only_refl _ _)⟩
  case round =>
    obtain ⟨i, rfl, hi, HN, HG⟩ := hrel
    obtain ⟨c0, c1, c2, q0, q1, q2, hRw, hGw⟩ := HW1.out wr HG.out
    have RW := Lib.hid hRw
    have GW := Lib.hid hGw
    clear hRw hGw
    by_cases hin : i < n
    · have i1 : (i : Int) < (n : Int) := by omega
      obtain ⟨bs, off, rfl, hbs0⟩ := HA.out (by omega)
      obtain ⟨bs', off', hA, hbs, hcs⟩ := (HT.out.grown HG.out).2 (by omega)
      injection hA with hA
      injection hA with hA1 hA2
      subst hA1 hA2
      obtain ⟨s0, s1, s2⟩ := hcs i hin
      have hgd := HGD.out i hin
      have HRV := Lib.hid (HV1.out i hin)
      have HHS := Lib.hid (show hasS d x i = holdsB (w3s (d i)) x from rfl)
      have hns : ¬ bs = w.heap.size := by omega
      have hns' : ¬ w.heap.size = bs := by omega
      clear hcs
      obtain ⟨y0, hy0⟩ : ∃ y, y = d i := ⟨_, rfl⟩
      rw [← hy0] at s0 s1 s2 hgd HRV HHS
      have HYI := Lib.hid hy0
      clear hy0
      obtain ⟨so, sa, sb⟩ := y0
      simp only at s0 s1 s2 hgd
      have hh : (hasS d x i = false ∧ (x < sa ∨ (¬ x < sa ∧ sb ≤ x))) ∨ (hasS d x i = true ∧ ¬ x < sa ∧ ¬ sb ≤ x) := by
        rw [HHS.out]
        unfold holdsB w3s
        by_cases a1 : x < sa
        · exact .inl ⟨by simp; omega, .inl a1⟩
        · by_cases a2 : sb ≤ x
          · exact .inl ⟨by simp; omega, .inr ⟨a1, a2⟩⟩
          · exact .inr ⟨by simp; omega, a1, a2⟩
      clear HHS
      rcases hh with ⟨hfl, hh⟩ | ⟨htr, hh1, hh2⟩
      · have HN2 := Lib.hid (show ∀ k, k < i + 1 → hasS d x k = false from fun k hk => by
          by_cases e : k = i
          · rw [e]; exact hfl
          · exact HN.out k (by omega))
        clear hfl
        rcases hh with g1 | ⟨g1, g2⟩
        all_goals
          go_wp2
          go_roundw
          case rel => exact ⟨i + 1, by go_num, by omega, HN2, HG⟩
          case measure => simp [intOf] <;> omega
      · have HRS := Lib.hid (HRV.out htr)
        clear htr HRV
        have g3 : sa ≤ x := by omega
        have g4 : x < sb := by omega
        have g5 : sb ≤ 4096 := by omega
        have g6 : 0 ≤ sa := by omega
        clear hgd
        go_wp2
        go_loopw [9, 10] (fun y z wq => ∃ (k : Nat) (p : Int), y = .int .i64 k ∧ z = .int .i64 p ∧ k ≤ 4096 ∧ sa ≤ p ∧ p ≤ x ∧ Hid (p = sa + 4 * (k : Int)) ∧ Hid (wr = wq)) (fun y z _ => (sb - intOf z).toNat)
        case atStart => exact ⟨0, sa, rfl, rfl, by omega, by omega, by omega, Lib.hid (by omega), Lib.hid rfl⟩
        case round =>
          obtain ⟨k, p, rfl, rfl, hk9, hp1, hp2, HPK, HWQ⟩ := hrel
          obtain rfl := HWQ.out
          have u1 : IntKind.i64.wrap (p + 4) = p + 4 := by rw [IntKind.wrap_i64]; omega
          have u2 : IntKind.i64.wrap (x - p) = x - p := by rw [IntKind.wrap_i64]; omega
          by_cases hq : p + 4 ≤ sb
          · by_cases hx4 : x < p + 4
            · have HRZ := Lib.hid (show r = (so, (k : Int), x - p) from by
                have e := HPK.out
                rw [HRS.out, stp_unit (k := k) (by simp only; omega) (by simp only; omega) (by simp only; omega), e])
              go_wp2
              have bf := (((RW.out.put 0 (.int .i64 so)).put 1 (.int .i64 (k : Int))).put 2 (.int .i64 (x - p)))
              have r0 := bf.cell 0
              have r1 := bf.cell 1
              have r2 := bf.cell 2
              simp at r0 r1 r2
              refine bodyPost_ret (v := .agg #[.int .i64 so, .int .i64 (k : Int), .int .i64 (x - p)]) (by simp [results, Try.results13, go_sem, r0, r1, r2]) rfl ⟨by rw [HRZ.out], only_putc (only_putc (only_putc GW.out (p := ⟨w.heap.size, 0, none⟩) (Nat.le_refl _) _) (p := ⟨w.heap.size, 1, none⟩) (Nat.le_refl _) _) (p := ⟨w.heap.size, 2, none⟩) (Nat.le_refl _) _⟩
            · have hkk : k < 4096 := by have := HPK.out; omega
              go_wp2
              go_roundw
              case rel => exact ⟨k + 1, p + 4, by go_num, by go_num, by omega, by omega, by omega, Lib.hid (by have := HPK.out; omega), Lib.hid (by first | trivial | rfl)⟩
              case measure => simp [intOf] <;> omega
          · have HRZ := Lib.hid (show r = (so, -1, 0) from by
              have e := HPK.out
              rw [HRS.out, stp_idle (k := k) (by simp only; omega) (by simp only; omega)])
            go_wp2
            have bf := (((RW.out.put 0 (.int .i64 so)).put 1 (.int .i64 (-1))).put 2 (.int .i64 0))
            have r0 := bf.cell 0
            have r1 := bf.cell 1
            have r2 := bf.cell 2
            simp at r0 r1 r2
            refine bodyPost_ret (v := .agg #[.int .i64 so, .int .i64 (-1), .int .i64 0]) (by simp [results, Try.results13, go_sem, r0, r1, r2]) rfl ⟨by rw [HRZ.out], only_putc (only_putc (only_putc GW.out (p := ⟨w.heap.size, 0, none⟩) (Nat.le_refl _) _) (p := ⟨w.heap.size, 1, none⟩) (Nat.le_refl _) _) (p := ⟨w.heap.size, 2, none⟩) (Nat.le_refl _) _⟩
    · have i1 : ¬ (i : Int) < (n : Int) := by omega
      have HRZ := Lib.hid (HV0.out (fun k hk => HN.out k (by omega)))
      go_wp2
      have bf := (((RW.out.put 0 (.int .i64 0)).put 1 (.int .i64 (-1))).put 2 (.int .i64 0))
      have r0 := bf.cell 0
      have r1 := bf.cell 1
      have r2 := bf.cell 2
      simp at r0 r1 r2
      refine bodyPost_ret (v := .agg #[.int .i64 0, .int .i64 (-1), .int .i64 0]) (by simp [results, Try.results13, go_sem, r0, r1, r2]) rfl ⟨by rw [HRZ.out], only_putc (only_putc (only_putc GW.out (p := ⟨w.heap.size, 0, none⟩) (Nat.le_refl _) _) (p := ⟨w.heap.size, 1, none⟩) (Nat.le_refl _) _) (p := ⟨w.heap.size, 2, none⟩) (Nat.le_refl _) _⟩
/-- Begins. -/
theorem beg17_any (f : Int) (A : Option Addr) (n c : Nat) (d : Nat → W3) (t o : Int) (w : World) (h : Row3 w A n d) (hr : rightB f = true) (hg : GoodS f n d) (hn : n ≤ 1000) (ht : t ≤ 9223372036854775807) :
    Calls Try.prog 18 #[.int .i64 f, .slice A n c, .int .i64 t, .int .i64 o] w fun e w' => e = .returned (.bool (begB f n d t o)) ∧ w.grownBy w' none := by
  have HA := Lib.hid (rat17_any f A n c d t w h hr hg hn ht)
  have HB := Lib.hid (show begB f n d t o = decide ((stepV f n d t).1 = o ∧ 0 ≤ (stepV f n d t).2.1 ∧ (stepV f n d t).2.2 = 0) from rfl)
  generalize stepV f n d t = r at HA HB
  generalize begB f n d t o = z at HB ⊢
  obtain ⟨r0, r1, r2⟩ := r
  simp only at HB
  have key : (¬ r0 = o ∧ z = false) ∨ (r0 = o ∧ ¬ 0 ≤ r1 ∧ z = false) ∨ (r0 = o ∧ 0 ≤ r1 ∧ ¬ r2 = 0 ∧ z = false) ∨ (r0 = o ∧ 0 ≤ r1 ∧ r2 = 0 ∧ z = true) := by
    rw [HB.out]
    by_cases a : r0 = o
    · by_cases b : 0 ≤ r1
      · by_cases e : r2 = 0 <;> simp [a, b, e]
      · simp [a, b]
    · simp [a]
  clear HB h hg hr
  rcases key with ⟨k1, e⟩ | ⟨k1, k2, e⟩ | ⟨k1, k2, k3, e⟩ | ⟨k1, k2, k3, e⟩
  all_goals
    have E := Lib.hid e
    clear e
    first | (have e1 : (r0 == o) = true := by simpa using k1) | (have e1 : (r0 == o) = false := by simpa using k1)
    try first | (have e3 : (r2 == 0) = true := by simpa using k3) | (have e3 : (r2 == 0) = false := by simpa using k3)
    go_enter Try.func18, Try.ntmps18
    go_wp2_with (go_at_call 13; (with_reducible refine HA.out.mono ?_); rintro e w2 ⟨rfl, g2⟩; have G2 := Lib.hid g2; clear g2)
    go_ret
    refine ⟨?_, only_trans G2.out (only_alloc (only_refl _ _) _)⟩
    rw [E.out]
    first | rfl | (simp [k1]; done) | (simp [k1, k2]; done) | simp [k1, k2, k3]
end Go.Proofs.Ytecpplaobbkemaa
