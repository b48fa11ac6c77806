/- What a table's calls answer: which rows may be, where they lie, whose region is whose. -/
import Derived.Test.YthlapnljinkekaaRR1
import Derived.Deep.RegionHeld3
namespace Go.Proofs.Ythlapnljinkekaa
open Go.RowKit Go.Lib Go.Sort
set_option linter.unusedVariables false

/-- The places of a region. -/
abbrev spn (r : Reg) : Int × Int := (r.2.1, r.2.1 + r.2.2)
def mayB (r : Reg) : Bool := decide (1 ≤ r.1 ∧ r.1 ≤ 8 ∧ 128 ≤ r.2.1 ∧ r.2.1 ≤ 16383 ∧ 1 ≤ r.2.2 ∧ r.2.2 ≤ 16384 - r.2.1)
theorem mayB_iff {r : Reg} : mayB r = true ↔ (1 ≤ r.1 ∧ r.1 ≤ 8 ∧ 128 ≤ r.2.1 ∧ r.2.1 ≤ 16383 ∧ 1 ≤ r.2.2 ∧ r.2.2 ≤ 16384 - r.2.1) := by simp [mayB]

theorem may_any (r : Reg) (hf : Fits r) (w : World) : Calls Try.prog 27 #[rgv r] w fun e w' => e = .returned (.bool (mayB r)) ∧ w.grownBy w' none := by
  obtain ⟨o, b, s⟩ := r
  obtain ⟨hf1, hf2, hf3⟩ := hf
  unfold fitI at hf1 hf2 hf3
  simp only at hf1 hf2 hf3
  have key : (¬ 1 ≤ o ∧ mayB (o, b, s) = false) ∨ (1 ≤ o ∧ ¬ o ≤ 8 ∧ mayB (o, b, s) = false) ∨ (1 ≤ o ∧ o ≤ 8 ∧ ¬ 128 ≤ b ∧ mayB (o, b, s) = false) ∨ (1 ≤ o ∧ o ≤ 8 ∧ 128 ≤ b ∧ ¬ 1 ≤ s ∧ mayB (o, b, s) = false) ∨ (1 ≤ o ∧ o ≤ 8 ∧ 128 ≤ b ∧ 1 ≤ s ∧ ¬ s ≤ 16384 - b ∧ mayB (o, b, s) = false) ∨ (1 ≤ o ∧ o ≤ 8 ∧ 128 ≤ b ∧ 1 ≤ s ∧ s ≤ 16384 - b ∧ mayB (o, b, s) = true) := by
    by_cases h1 : 1 ≤ o <;> by_cases h2 : o ≤ 8 <;> by_cases h3 : 128 ≤ b <;> by_cases h4 : 1 ≤ s <;> by_cases h5 : s ≤ 16384 - b <;> simp [mayB, h1, h2, h3, h4, h5] <;> omega
  have hw : 128 ≤ b → IntKind.i64.wrap (16384 - b) = 16384 - b := fun h => by rw [IntKind.wrap_i64]; omega
  rcases key with ⟨h1, e⟩ | ⟨h1, h2, e⟩ | ⟨h1, h2, h3, e⟩ | ⟨h1, h2, h3, h4, e⟩ | ⟨h1, h2, h3, h4, h5, e⟩ | ⟨h1, h2, h3, h4, h5, e⟩
  all_goals
    have E := Lib.hid e
    clear e
    try have hw' := hw h3
    clear hw hf1 hf2 hf3
    go_enter Try.func27, Try.ntmps27
    go_wp2
    go_ret
    rw [E.out]
    exact ⟨by first | rfl | (simp; done) | (simp; omega), only_alloc (only_refl _ _) _⟩

theorem places_any (r : Reg) (h : mayB r = true) (w : World) : Calls Try.prog 25 #[rgv r] w fun e w' => e = .returned (spv (spn r)) ∧ w.grownBy w' none := by
  obtain ⟨o, b, s⟩ := r
  have h' := mayB_iff.1 h
  simp only at h'
  have hw : IntKind.i64.wrap (b + s) = b + s := by rw [IntKind.wrap_i64]; omega
  clear h h'
  go_enter Try.func25, Try.ntmps25
  go_wp2
  refine bodyPost_ret (v := .agg #[.int .i64 b, .int .i64 (b + s)]) (by simp [results, Try.results25, go_sem]) rfl ⟨rfl, only_alloc (only_alloc (only_refl _ _) _) _⟩

theorem rspan_any (r : Reg) (h : mayB r = true) (w : World) : Calls Try.prog 15 #[rgv r] w fun e w' => e = .returned (spv (spn r)) ∧ w.grownBy w' none := by
  obtain ⟨o, b, s⟩ := r
  have h' := mayB_iff.1 h
  simp only at h'
  have hw : IntKind.i64.wrap (b + s) = b + s := by rw [IntKind.wrap_i64]; omega
  clear h h'
  go_enter Try.func15, Try.ntmps15
  go_wp2
  refine bodyPost_ret (v := .agg #[.int .i64 b, .int .i64 (b + s)]) (by simp [results, Try.results15, go_sem]) rfl ⟨rfl, only_alloc (only_alloc (only_refl _ _) _) _⟩

theorem find_nil (o : Int) (w : World) : Calls Try.prog 10 #[.pointer none, .int .i64 o] w fun e w' => e = .returned (.tuple #[.agg #[.int .i64 0, .int .i64 0, .int .i64 0], .int .i64 7]) ∧ w.grownBy w' none := by
  go_enter Try.func10, Try.ntmps10
  go_wp2
  refine bodyPost_ret (v := .tuple #[.agg #[.int .i64 0, .int .i64 0, .int .i64 0], .int .i64 7]) (by simp [results, Try.results10, go_sem]) rfl ⟨rfl, only_alloc (only_refl _ _) _⟩
theorem find_some {w : World} {B t : Nat} {L : List Reg} {o p q s : Int} (h : TabV w B t L) (ho : fitI o) (hl : lookL L o = some (p, q, s)) : Calls Try.prog 10 #[.pointer (some ⟨t, 0, none⟩), .int .i64 o] w fun e w' => e = .returned (.tuple #[.agg #[.int .i64 p, .int .i64 q, .int .i64 s], .int .i64 0]) ∧ w.grownBy w' none := by
  obtain ⟨b, h1, h2, h3, h4⟩ := h
  have c0 := h3.cell 0
  simp at c0
  have k0 : (w.alloc (.cells #[.int .i64 0, .int .i64 0, .int .i64 0] 30)).cell? ⟨t, 0, none⟩ = some (.map (some b)) := (h3.alloc _).cell 0
  have HM := Lib.hid h4
  have HL := Lib.hid hl
  clear h1 h2 h3 h4 hl
  go_enter Try.func10, Try.ntmps10
  go_wp2_with (at_lookup; refine wpList_look_some rfl _ _ rfl b L o p q s rfl (HM.out.only (only_alloc (only_refl _ none) _) (by simp)) rfl ho HL.out ?_)
  refine bodyPost_ret (v := .tuple #[.agg #[.int .i64 p, .int .i64 q, .int .i64 s], .int .i64 0]) (by simp [results, Try.results10, go_sem]) rfl ⟨rfl, only_alloc (only_alloc (only_refl _ _) _) _⟩
theorem find_none {w : World} {B t : Nat} {L : List Reg} {o : Int} (h : TabV w B t L) (ho : fitI o) (hl : lookL L o = none) : Calls Try.prog 10 #[.pointer (some ⟨t, 0, none⟩), .int .i64 o] w fun e w' => e = .returned (.tuple #[.agg #[.int .i64 0, .int .i64 0, .int .i64 0], .int .i64 7]) ∧ w.grownBy w' none := by
  obtain ⟨b, h1, h2, h3, h4⟩ := h
  have c0 := h3.cell 0
  simp at c0
  have k0 : (w.alloc (.cells #[.int .i64 0, .int .i64 0, .int .i64 0] 30)).cell? ⟨t, 0, none⟩ = some (.map (some b)) := (h3.alloc _).cell 0
  have HM := Lib.hid h4
  have HL := Lib.hid hl
  clear h1 h2 h3 h4 hl
  go_enter Try.func10, Try.ntmps10
  go_wp2_with (at_lookup; refine wpList_look_none rfl _ _ rfl b L o rfl (HM.out.only (only_alloc (only_refl _ none) _) (by simp)) rfl ho HL.out ?_)
  refine bodyPost_ret (v := .tuple #[.agg #[.int .i64 0, .int .i64 0, .int .i64 0], .int .i64 7]) (by simp [results, Try.results10, go_sem]) rfl ⟨rfl, only_alloc (only_alloc (only_refl _ _) _) _⟩
/-- The region of an owner, or none; and the error. -/
def fndR (L : List Reg) (o : Int) : Reg := (lookL L o).getD (0, 0, 0)
def fndE (L : List Reg) (o : Int) : Int := if (lookL L o).isSome then 0 else 7
theorem find_any {w : World} {B t : Nat} {L : List Reg} {o : Int} (h : TabV w B t L) (ho : fitI o) : Calls Try.prog 10 #[.pointer (some ⟨t, 0, none⟩), .int .i64 o] w fun e w' => e = .returned (.tuple #[.agg #[.int .i64 (fndR L o).1, .int .i64 (fndR L o).2.1, .int .i64 (fndR L o).2.2], .int .i64 (fndE L o)]) ∧ w.grownBy w' none := by
  unfold fndR fndE
  cases hl : lookL L o with
  | none => exact find_none h ho hl
  | some r => exact find_some h ho hl
/-- A table of rows that may be. -/
def AllMay (L : List Reg) : Prop := ∀ r ∈ L, mayB r = true
theorem AllMay.look {L : List Reg} (h : AllMay L) {o : Int} {r : Reg} (hl : lookL L o = some r) : mayB r = true := h r (lookL_some hl).1

/-- Where an address is; or why it is not. -/
def mapV (L : List Reg) (o a n : Int) : Int × Int :=
  match lookL L o with
  | none => (0, 7)
  | some r => if n < 0 then (0, 2) else if a < 0 then (0, 6) else if r.2.2 - a < n then (0, 6) else (r.2.1 + a, 0)
theorem map_nil (o a n : Int) (w : World) : Calls Try.prog 16 #[.pointer none, .int .i64 o, .int .i64 a, .int .i64 n] w fun e w' => e = .returned (.tuple #[.int .i64 0, .int .i64 7]) ∧ w.grownBy w' none := by
  go_enter Try.func16, Try.ntmps16
  go_wp2_with (go_at_call 10; refine (find_nil _ _).mono ?_; rintro e w1 ⟨rfl, g1⟩; have G1 := Lib.hid g1; clear g1)
  go_ret2
  exact ⟨rfl, by first | exact G1.out | exact only_alloc G1.out _⟩
theorem map_any {w : World} {B t : Nat} {L : List Reg} {o : Int} (a n : Int) (h : TabV w B t L) (hm : AllMay L) (ho : fitI o) (ha : fitI a) : Calls Try.prog 16 #[.pointer (some ⟨t, 0, none⟩), .int .i64 o, .int .i64 a, .int .i64 n] w fun e w' => e = .returned (.tuple #[.int .i64 (mapV L o a n).1, .int .i64 (mapV L o a n).2]) ∧ w.grownBy w' none := by
  unfold mapV
  cases hl : lookL L o with
  | none =>
    have HC := Lib.hid (find_none h ho hl)
    clear h hl
    go_enter Try.func16, Try.ntmps16
    go_wp2_with (go_at_call 10; refine HC.out.mono ?_; rintro e w1 ⟨rfl, g1⟩; have G1 := Lib.hid g1; clear g1)
    go_ret2
    exact ⟨rfl, by first | exact G1.out | exact only_alloc G1.out _⟩
  | some r =>
    obtain ⟨p, q, s⟩ := r
    have HC := Lib.hid (find_some h ho hl)
    have hmay := mayB_iff.1 (hm.look hl)
    simp only at hmay ⊢
    unfold fitI at ha
    have key : (n < 0 ∧ (if n < 0 then ((0, 2) : Int × Int) else if a < 0 then (0, 6) else if s - a < n then (0, 6) else (q + a, 0)) = (0, 2)) ∨ (¬ n < 0 ∧ a < 0 ∧ (if n < 0 then ((0, 2) : Int × Int) else if a < 0 then (0, 6) else if s - a < n then (0, 6) else (q + a, 0)) = (0, 6)) ∨ (¬ n < 0 ∧ ¬ a < 0 ∧ s - a < n ∧ (if n < 0 then ((0, 2) : Int × Int) else if a < 0 then (0, 6) else if s - a < n then (0, 6) else (q + a, 0)) = (0, 6)) ∨ (¬ n < 0 ∧ ¬ a < 0 ∧ ¬ s - a < n ∧ (if n < 0 then ((0, 2) : Int × Int) else if a < 0 then (0, 6) else if s - a < n then (0, 6) else (q + a, 0)) = (q + a, 0)) := by
      by_cases h1 : n < 0 <;> by_cases h2 : a < 0 <;> by_cases h3 : s - a < n <;> simp [h1, h2, h3]
    have hw1 : ¬ a < 0 → IntKind.i64.wrap (s - a) = s - a := fun h => by rw [IntKind.wrap_i64]; omega
    have hw2 : ¬ n < 0 → ¬ a < 0 → ¬ s - a < n → IntKind.i64.wrap (q + a) = q + a := fun _ h1 h2 => by rw [IntKind.wrap_i64]; omega
    clear h hl ha hmay hm
    rcases key with ⟨h1, e⟩ | ⟨h1, h2, e⟩ | ⟨h1, h2, h3, e⟩ | ⟨h1, h2, h3, e⟩
    all_goals
      rw [e]
      clear e
      try have hw3 := hw1 h2
      try have hw4 := hw2 h1 h2 h3
      clear hw1 hw2
      go_enter Try.func16, Try.ntmps16
      go_wp2_with (go_at_call 10; refine HC.out.mono ?_; rintro e w1 ⟨rfl, g1⟩; have G1 := Lib.hid g1; clear g1)
      go_ret2
      exact ⟨rfl, by first | exact G1.out | exact only_alloc G1.out _⟩

/-- An owner's places; none: (0, 0). -/
def spanV (L : List Reg) (o : Int) : Int × Int :=
  match lookL L o with
  | none => (0, 0)
  | some r => spn r
theorem tspan_nil (o : Int) (w : World) : Calls Try.prog 14 #[.pointer none, .int .i64 o] w fun e w' => e = .returned (.agg #[.int .i64 0, .int .i64 0]) ∧ w.grownBy w' none := by
  go_enter Try.func14, Try.ntmps14
  go_wp2_with (go_at_call 10; refine (find_nil _ _).mono ?_; rintro e w1 ⟨rfl, g1⟩; have hb1 := ((Blk.new w 37 #[.int .i64 0, .int .i64 0]).only g1 (by simp)).alloc (.cells #[.int .i64 0, .int .i64 0, .int .i64 0] 30); have e0 := hb1.cell 0; have e1 := hb1.cell 1; have f0 := hb1.free 0; have f1 := hb1.free 1; simp at e0 e1; have B1 := Lib.hid (((Below.refl w.heap.size w).alloc (Nat.le_refl _) (.cells #[.int .i64 0, .int .i64 0] 37)).trans (below_of_only g1 (by simp) (by simp))); clear g1 hb1)
  refine bodyPost_ret (v := .agg #[.int .i64 0, .int .i64 0]) (by simp [results, Try.results14, go_sem, e0, e1]) rfl ⟨rfl, only_far ?_⟩
  exact ((B1.out.alloc B1.out.size _).setCell (by simp) _).setCell (by simp) _
theorem tspan_any {w : World} {B t : Nat} {L : List Reg} {o : Int} (h : TabV w B t L) (hm : AllMay L) (ho : fitI o) : Calls Try.prog 14 #[.pointer (some ⟨t, 0, none⟩), .int .i64 o] w fun e w' => e = .returned (.agg #[.int .i64 (spanV L o).1, .int .i64 (spanV L o).2]) ∧ w.grownBy w' none := by
  unfold spanV
  have h2 : TabV (w.alloc (.cells #[.int .i64 0, .int .i64 0] 37)) B t L := h.below ((Below.refl w.heap.size w).alloc (Nat.le_refl _) _)
  clear h
  cases hl : lookL L o with
  | none =>
    have HC := Lib.hid (find_none h2 ho hl)
    clear h2 hl
    go_enter Try.func14, Try.ntmps14
    go_wp2_with (go_at_call 10; refine HC.out.mono ?_; rintro e w1 ⟨rfl, g1⟩; have hb1 := ((Blk.new w 37 #[.int .i64 0, .int .i64 0]).only g1 (by simp)).alloc (.cells #[.int .i64 0, .int .i64 0, .int .i64 0] 30); have e0 := hb1.cell 0; have e1 := hb1.cell 1; have f0 := hb1.free 0; have f1 := hb1.free 1; simp at e0 e1; have B1 := Lib.hid (((Below.refl w.heap.size w).alloc (Nat.le_refl _) (.cells #[.int .i64 0, .int .i64 0] 37)).trans (below_of_only g1 (by simp) (by simp))); clear g1 hb1)
    refine bodyPost_ret (v := .agg #[.int .i64 0, .int .i64 0]) (by simp [results, Try.results14, go_sem, e0, e1]) rfl ⟨rfl, only_far ?_⟩
    exact ((B1.out.alloc B1.out.size _).setCell (by simp) _).setCell (by simp) _
  | some r =>
    obtain ⟨p, q, s⟩ := r
    have HC := Lib.hid (find_some h2 ho hl)
    have HP := Lib.hid (fun W => places_any (p, q, s) (hm.look hl) W)
    clear h2 hl hm
    go_enter Try.func14, Try.ntmps14
    go_wp2_with (first
      | (go_at_call 10; refine HC.out.mono ?_; rintro e w1 ⟨rfl, g1⟩; have HB1 := Lib.hid (((Blk.new w 37 #[.int .i64 0, .int .i64 0]).only g1 (by simp)).alloc (.cells #[.int .i64 p, .int .i64 q, .int .i64 s] 30)); have B1 := Lib.hid (((Below.refl w.heap.size w).alloc (Nat.le_refl _) (.cells #[.int .i64 0, .int .i64 0] 37)).trans (below_of_only g1 (by simp) (by simp))); clear g1)
      | (go_at_call 25; refine (HP.out _).mono ?_; rintro e w2 ⟨rfl, g2⟩; have hb2 := HB1.out.only g2 (by simp); have e0 := hb2.cell 0; have e1 := hb2.cell 1; have f0 := hb2.free 0; have f1 := hb2.free 1; simp at e0 e1; have B2 := Lib.hid ((B1.out.alloc B1.out.size (.cells #[.int .i64 p, .int .i64 q, .int .i64 s] 30)).trans (below_of_only g2 (Nat.le_trans B1.out.size (by simp)) (by simp))); clear g2 hb2))
    refine bodyPost_ret (v := .agg #[.int .i64 q, .int .i64 (q + s)]) (by simp [results, Try.results14, go_sem, e0, e1]) rfl ⟨rfl, only_far ?_⟩
    exact (B2.out.setCell (by simp) _).setCell (by simp) _
end Go.Proofs.Ythlapnljinkekaa
