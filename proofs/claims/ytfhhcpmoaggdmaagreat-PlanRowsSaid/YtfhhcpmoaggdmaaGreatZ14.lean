import Derived.Test.YtfhhcpmoaggdmaaGreatZ13
import Derived.Test.YtfhhcpmoaggdmaaGreatZ02
import Derived.Maps.RangeWalk
import Derived.Maps.OwnSet
import Derived.Maps.OwnOps
import Derived.Maps.Views
import Derived.Carry
import Derived.Deep.RegionHeld3
import Derived.Deep.QuietTactic
import Derived.Lib.QuietBelow
import Derived.BigRegion
set_option linter.all false
/- Regions: rows of three numbers in memory; what the map of a table holds. -/
namespace Go.Proofs.YtfhhcpmoaggdmaaGreat.Rg
open Go.RowKit Go.Lib Go.Sort
set_option linter.unusedVariables false

abbrev Reg := Int × Int × Int
/-- A region as1 a value. -/
abbrev rgv (r : Reg) : Value := .agg #[.int .i64 r.1, .int .i64 r.2.1, .int .i64 r.2.2]
def fitI (x : Int) : Prop := -9223372036854775808 ≤ x ∧ x ≤ 9223372036854775807
instance (x : Int) : Decidable (fitI x) := inferInstanceAs (Decidable (_ ∧ _))
def Fits (r : Reg) : Prop := fitI r.1 ∧ fitI r.2.1 ∧ fitI r.2.2
theorem fitI_wf {x : Int} (h : fitI x) : (Lit.int .i64 x).wf = true := by
  simp only [Lit.wf, Bool.and_eq_true, decide_eq_true_eq]
  have e1 : IntKind.i64.min = -9223372036854775808 := by kernel_rfl
  have e2 : IntKind.i64.max = 9223372036854775807 := by kernel_rfl
  unfold fitI at h
  omega
theorem fitI_of {x : Int} (w : (Lit.int .i64 x).wf = true) : fitI x := by
  simp only [Lit.wf, Bool.and_eq_true, decide_eq_true_eq] at w
  have e1 : IntKind.i64.min = -9223372036854775808 := by kernel_rfl
  have e2 : IntKind.i64.max = 9223372036854775807 := by kernel_rfl
  unfold fitI
  omega

/-- Regions that came in, or were made: nil, or a row of cells. -/
def Regs (w : World) (A : Option Addr) (len cap : Nat) (d : Nat → Reg) : Prop :=
  (A = none → len = 0 ∧ cap = 0) ∧ (0 < len → ∃ b off, A = some ⟨b, off, none⟩ ∧ b < w.heap.size ∧ ∀ i, i < len → w.cell? ⟨b, off + i * 3, none⟩ = some (.int .i64 (d i).1) ∧ w.cell? ⟨b, off + i * 3 + 1, none⟩ = some (.int .i64 (d i).2.1) ∧ w.cell? ⟨b, off + i * 3 + 2, none⟩ = some (.int .i64 (d i).2.2))
theorem Regs.under {w w' : World} {B : Nat} {A : Option Addr} {len cap : Nat} {d : Nat → Reg} (h : Regs w A len cap d) (hb : Below B w w') (hB : w.heap.size ≤ B) : Regs w' A len cap d := by
  refine ⟨h.1, fun hp => ?_⟩
  obtain ⟨b, off, h1, h2, h3⟩ := h.2 hp
  have hlB := Nat.lt_of_lt_of_le h2 hB
  refine ⟨b, off, h1, Nat.lt_of_lt_of_le h2 hb.size, fun i hi => ?_⟩
  obtain ⟨c0, c1, c2⟩ := h3 i hi
  exact ⟨(hb.cell (p := ⟨b, off + i * 3, none⟩) hlB).trans c0, (hb.cell (p := ⟨b, off + i * 3 + 1, none⟩) hlB).trans c1, (hb.cell (p := ⟨b, off + i * 3 + 2, none⟩) hlB).trans c2⟩
theorem Regs.below {w w' : World} {A : Option Addr} {len cap : Nat} {d : Nat → Reg} (h : Regs w A len cap d) (hb : Below w.heap.size w w') : Regs w' A len cap d := h.under hb (Nat.le_refl _)
theorem Regs.cut {w : World} {A : Option Addr} {len cap : Nat} {d : Nat → Reg} (h : Regs w A len cap d) (m : Nat) (hm : m ≤ len) : Regs w A m cap d := by
  refine ⟨fun hn => ⟨by have := (h.1 hn).1; omega, (h.1 hn).2⟩, fun hp => ?_⟩
  obtain ⟨b, off, h1, h2, h3⟩ := h.2 (by omega)
  exact ⟨b, off, h1, h2, fun i hi => h3 i (by omega)⟩

/-- How a region reads as1 a map's element. -/
def regDat (r : Reg) : DataW Unit := .agg [.lit (.int .i64 r.1), .lit (.int .i64 r.2.1), .lit (.int .i64 r.2.2)]
def regElem (v : Value) : Option (DataW Unit × List MemPlace) :=
  match v with
  | .agg cs => (match cs.toList with
    | [.int .i64 a, .int .i64 b, .int .i64 c] => some (regDat (a, b, c), [])
    | _ => none)
  | _ => none
theorem regElem_mk (r : Reg) : regElem (rgv r) = some (regDat r, []) := rfl
theorem regElem_inv {v : Value} {z : DataW Unit × List MemPlace} (h : regElem v = some z) : ∃ r : Reg, v = rgv r ∧ z = (regDat r, []) := by
  unfold regElem at h
  split at h
  · rename_i cs
    split at h
    · rename_i a b c e
      injection h with h
      refine ⟨(a, b, c), ?_, h.symm⟩
      have : cs = #[.int .i64 a, .int .i64 b, .int .i64 c] := by
        apply Array.toList_inj.1
        rw [e]
      rw [this]
    · cases h
  · cases h
theorem regDat_inj {r s : Reg} (h : regDat r = regDat s) : r = s := by
  obtain ⟨a, b, c⟩ := r
  obtain ⟨a', b', c'⟩ := s
  simp only [regDat] at h
  injection h with h
  injection h with h1 h
  injection h with h2 h
  injection h with h3 h
  injection h1 with h1
  injection h2 with h2
  injection h3 with h3
  injection h1 with _ h1
  injection h2 with _ h2
  injection h3 with _ h3
  rw [h1, h2, h3]

theorem int_keys : Maps.Keyed Tryz.prog 3 := Maps.int_keyed Tryz.underlying3
theorem int_key {x : Int} (h : fitI x) : keyOf Tryz.prog 3 (.int .i64 x) = some (.int .i64 x) := Maps.keyOf_int_mk Tryz.underlying3 (fitI_wf h)
theorem int_key_lit {x : Int} (h : fitI x) : WideAt.IsKeyLit (.int .i64 x) := int_keys.key (int_key h)
theorem reg_zero (w : World) : (zeroValue 44).run Tryz.prog w = .ok (.agg #[.int .i64 0, .int .i64 0, .int .i64 0]) w := by kernel_rfl

/-- The region of an owner among some. -/
def lookL (L : List Reg) (o : Int) : Option Reg := L.find? fun r => decide (r.1 = o)
theorem lookL_some {L : List Reg} {o : Int} {r : Reg} (h : lookL L o = some r) : r ∈ L ∧ r.1 = o := by
  have h1 := List.mem_of_find?_eq_some h
  have h2 := List.find?_some h
  exact ⟨h1, by simpa using h2⟩
theorem lookL_none {L : List Reg} {o : Int} (h : lookL L o = none) : ∀ r ∈ L, r.1 ≠ o := by
  intro r hr
  have := List.find?_eq_none.1 h r hr
  simpa using this

/-- What the datum of a map says of the regions L. -/
def Says (D : DataW Unit) (L : List Reg) : Prop :=
  Maps.IsMap D ∧ (∀ o : Int, fitI o → Maps.has D (.int .i64 o) = L.any (fun r => decide (r.1 = o))) ∧ (∀ r ∈ L, fitI r.1 ∧ ∀ z, D.atKey (.int .i64 r.1) z = regDat r)
theorem Says.nil : Says (.map []) [] := ⟨Maps.isMap_empty, fun o _ => rfl, fun r hr => by cases hr⟩
theorem Says.put {D : DataW Unit} {L : List Reg} (h : Says D L) (r : Reg) (hf : fitI r.1) (hn : ∀ x ∈ L, x.1 ≠ r.1) : Says (D.put (.int .i64 r.1) (regDat r)) (L ++ [r]) := by
  obtain ⟨h1, h2, h3⟩ := h
  refine ⟨h1.put _ _, fun o ho => ?_, fun x hx => ?_⟩
  · by_cases e : o = r.1
    · subst e
      rw [Maps.has_put_same h1 (int_key_lit hf)]
      simp
    · have hne : (Lit.int .i64 o) ≠ .int .i64 r.1 := fun h => e (by injection h)
      rw [Maps.has_put_other hne, h2 o ho]
      have : ¬ r.1 = o := fun h => e h.symm
      simp [this]
  · rcases List.mem_append.1 hx with hx | hx
    · obtain ⟨f, g⟩ := h3 x hx
      refine ⟨f, fun z => ?_⟩
      have hne : (Lit.int .i64 x.1) ≠ .int .i64 r.1 := fun h => hn x hx (by injection h)
      rw [Maps.atKey_put_other hne, g]
    · obtain rfl : x = r := by simpa using hx
      exact ⟨hf, fun z => Maps.atKey_put_same h1 (int_key_lit hf) _ _⟩
theorem Says.has_some {D : DataW Unit} {L : List Reg} (h : Says D L) {o : Int} {r : Reg} (hr : lookL L o = some r) : Maps.has D (.int .i64 o) = true ∧ ∀ z, D.atKey (.int .i64 o) z = regDat r := by
  obtain ⟨h1, rfl⟩ := lookL_some hr
  refine ⟨?_, (h.2.2 r h1).2⟩
  rw [h.2.1 r.1 (h.2.2 r h1).1, List.any_eq_true]
  exact ⟨r, h1, by simp⟩
theorem Says.has_none {D : DataW Unit} {L : List Reg} (h : Says D L) {o : Int} (ho : fitI o) (hr : lookL L o = none) : Maps.has D (.int .i64 o) = false := by
  rw [h.2.1 o ho]
  have := lookL_none hr
  simpa using fun a b c hm => this (a, b, c) hm

/-- Block b is a map of the regions L. -/
def MapR (w : World) (b : Nat) (L : List Reg) : Prop := ∃ D : DataW Unit, w.ownsMap Tryz.prog 3 regElem b L.length D ∧ Says D L
theorem MapR.lt {w : World} {b : Nat} {L : List Reg} (h : MapR w b L) : b < w.heap.size := by
  obtain ⟨D, h1, _⟩ := h
  exact h1.lt
theorem MapR.only {w w' : World} {b : Nat} {L : List Reg} {row : Option Nat} (h : MapR w b L) (hb : w.grownBy w' row) (hne : some b ≠ row) : MapR w' b L := by
  obtain ⟨D, h1, h2⟩ := h
  exact ⟨D, h1.kept hb hne, h2⟩
theorem MapR.below {w w' : World} {b : Nat} {L : List Reg} (h : MapR w b L) (hb : Below w.heap.size w w') : MapR w' b L := h.only (only_far hb) (by simp)
theorem MapR.new (w : World) : MapR (w.alloc (.map #[] 0)) w.heap.size [] := ⟨_, World.ownsMap_made w _ _ _, Says.nil⟩
theorem MapR.drewN {w : World} {b : Nat} {L : List Reg} (h : MapR w b L) (n : Nat) : MapR (w.drewN n) b L := h.only (only_drewN (only_refl _ none) n) (by simp)

/-- A table lies in block t, its map in block b, both from B on. -/
def TabG (w : World) (B t b : Nat) (L : List Reg) : Prop := B ≤ t ∧ B ≤ b ∧ Blk w t 89 #[.map (some b)] ∧ MapR w b L
def TabV (w : World) (B t : Nat) (L : List Reg) : Prop := ∃ b, TabG w B t b L
theorem TabG.only {w w' : World} {B t b : Nat} {L : List Reg} {row : Option Nat} (h : TabG w B t b L) (hb : w.grownBy w' row) (h1 : some t ≠ row) (h2 : some b ≠ row) : TabG w' B t b L := ⟨h.1, h.2.1, h.2.2.1.only hb h1, h.2.2.2.only hb h2⟩
theorem TabG.below {w w' : World} {B t b : Nat} {L : List Reg} (h : TabG w B t b L) (hb : Below w.heap.size w w') : TabG w' B t b L := h.only (only_far hb) (by simp) (by simp)
theorem TabV.below {w w' : World} {B t : Nat} {L : List Reg} (h : TabV w B t L) (hb : Below w.heap.size w w') : TabV w' B t L := by
  obtain ⟨b, h⟩ := h
  exact ⟨b, h.below hb⟩
theorem TabG.tab {w : World} {B t b : Nat} {L : List Reg} (h : TabG w B t b L) : TabV w B t L := ⟨b, h⟩

/-! ### at the operation -/
section
variable {w : World} {ops : Array Oper} {rest : List Oper} {o : Oper} {a : Act} {Q : Exit → Act → World → Prop}

/-- 'r, ok := m[k]', there. -/
theorem wpList_look_some (hg : o.guard = none) (m x : Operand) (hop : o.op = Op.lookup 87 m x true) (b : Nat) (L : List Reg) (k p q s : Int) (hm : a.eval m = .map (some b)) (hmap : MapR w b L) (hx : a.eval x = .int .i64 k) (hk : fitI k) (hl : lookL L k = some (p, q, s))
    (hK : wpList Tryz.prog ops Q rest (a.put o.dst (.tuple #[.agg #[.int .i64 p, .int .i64 q, .int .i64 s], .bool true])) w) : wpList Tryz.prog ops Q (o :: rest) a w := by
  obtain ⟨D, h1, h2⟩ := hmap
  obtain ⟨e1, e2⟩ := h2.has_some hl
  refine wpList_lookup_own_ok w hg m x _ hop 3 44 int_keys Tryz.underlying87 regElem (reg_zero w) (regDat (0, 0, 0)) [] rfl b L.length D hm h1 (.int .i64 k) (.int .i64 k) hx (int_key hk) ?_
  intro v ps hv
  rw [e2] at hv
  obtain ⟨r, rfl, hz⟩ := regElem_inv hv
  injection hz with hz _
  obtain rfl := regDat_inj hz
  rw [e1]
  exact hK
/-- .. not there. -/
theorem wpList_look_none (hg : o.guard = none) (m x : Operand) (hop : o.op = Op.lookup 87 m x true) (b : Nat) (L : List Reg) (k : Int) (hm : a.eval m = .map (some b)) (hmap : MapR w b L) (hx : a.eval x = .int .i64 k) (hk : fitI k) (hl : lookL L k = none)
    (hK : wpList Tryz.prog ops Q rest (a.put o.dst (.tuple #[.agg #[.int .i64 0, .int .i64 0, .int .i64 0], .bool false])) w) : wpList Tryz.prog ops Q (o :: rest) a w := by
  obtain ⟨D, h1, h2⟩ := hmap
  have e1 := h2.has_none hk hl
  refine wpList_lookup_own_ok w hg m x _ hop 3 44 int_keys Tryz.underlying87 regElem (reg_zero w) (regDat (0, 0, 0)) [] rfl b L.length D hm h1 (.int .i64 k) (.int .i64 k) hx (int_key hk) ?_
  intro v ps hv
  rw [Maps.atKey_of_not_has e1] at hv
  obtain ⟨r, rfl, hz⟩ := regElem_inv hv
  injection hz with hz _
  obtain rfl := regDat_inj hz
  rw [e1]
  exact hK
/-- 'm[r.Owner] = r', where it is not there yet. -/
theorem wpList_put_reg (hg : o.guard = none) (m x v : Operand) (hop : o.op = Op.mapUpdate 87 m x v) (b : Nat) (L : List Reg) (p q s : Int) (hm : a.eval m = .map (some b)) (hmap : MapR w b L) (hx : a.eval x = .int .i64 p) (hv : a.eval v = .agg #[.int .i64 p, .int .i64 q, .int .i64 s]) (hk : fitI p) (hn : ∀ y ∈ L, y.1 ≠ p) (hl : L.length < maxLen)
    (hK : ∀ w', MapR w' b (L ++ [(p, q, s)]) → w.grownBy w' (some b) → wpList Tryz.prog ops Q rest (a.put o.dst undef) w') : wpList Tryz.prog ops Q (o :: rest) a w := by
  obtain ⟨D, h1, h2⟩ := hmap
  refine wpList_mapUpdate_in w hg m x v _ hop 3 44 int_keys Tryz.underlying87 regElem b L.length D hm h1 hl _ _ (.int .i64 p) hx hv (int_key hk) (regDat (p, q, s)) [] rfl ?_
  intro w' h3 h4
  exact hK w' ⟨_, by simpa using h3, h2.put (p, q, s) hk hn⟩ h4.grown

/-- A range over a map of regions under way: rem is still to come. -/
def Rng (w : World) (b r : Nat) (L rem : List Reg) (cnt : Nat) : Prop :=
  ∃ D left, w.ranges Tryz.prog 3 regElem b r L.length D left cnt ∧ Says D L ∧ (∀ kl, left kl = true → ∃ x ∈ rem, kl = .int .i64 x.1) ∧ (∀ x ∈ rem, left (.int .i64 x.1) = true) ∧ (∀ x ∈ rem, x ∈ L) ∧ (rem.map (·.1)).Nodup
theorem Rng.map {w : World} {b r : Nat} {L rem : List Reg} {cnt : Nat} (h : Rng w b r L rem cnt) : MapR w b L := by
  obtain ⟨D, left, h1, h2, _⟩ := h
  exact ⟨D, h1.owns, h2⟩
theorem Rng.only {w w' : World} {b r : Nat} {L rem : List Reg} {cnt : Nat} {row : Option Nat} (h : Rng w b r L rem cnt) (hb : w.grownBy w' row) (h1 : some b ≠ row) (h2 : some r ≠ row) : Rng w' b r L rem cnt := by
  obtain ⟨D, left, h3, h4⟩ := h
  exact ⟨D, left, h3.kept hb h1 h2, h4⟩
theorem Rng.left_eq {w : World} {b r : Nat} {L rem : List Reg} {cnt : Nat} (h : Rng w b r L rem cnt) : w.rangeLeft b r = cnt := by
  obtain ⟨D, left, h3, h4⟩ := h
  exact h3.left_eq

theorem wpList_range_reg (hg : o.guard = none) (m : Operand) (hop : o.op = Op.range 87 m) (b : Nat) (L : List Reg) (hm : a.eval m = .map (some b)) (hmap : MapR w b L) (hnd : (L.map (·.1)).Nodup)
    (hK : ∀ w' cnt, Rng w' b w.heap.size L L cnt → w.grownBy w' none → w'.heap.size = w.heap.size + 1 → wpList Tryz.prog ops Q rest (a.put o.dst (.pointer (some ⟨w.heap.size, 0, none⟩))) w') : wpList Tryz.prog ops Q (o :: rest) a w := by
  obtain ⟨D, h1, h2⟩ := hmap
  refine wpList_range_own w hg m _ hop 3 44 int_keys Tryz.underlying87 regElem b L.length D hm h1 ?_
  intro w' h3 h4 h5
  refine hK w' _ ⟨D, Maps.has D, h3, h2, fun kl hkl => ?_, fun x hx => ?_, fun x hx => hx, hnd⟩ h4 h5
  · obtain ⟨es, clock, _, F, _, hD⟩ := h1
    rw [hD] at hkl
    obtain ⟨p, hp, hpk⟩ := List.any_eq_true.1 hkl
    obtain ⟨y, hy, rfl⟩ := List.mem_map.1 (mem_sorted.1 hp)
    obtain ⟨z, hz⟩ := F.reads y hy
    rw [WideElems.rg_of hz] at hpk
    have hk := WideElems.rd_key hz
    obtain ⟨x, hx1, hx2, hx3⟩ := Maps.keyOf_int_inv Tryz.underlying3 hk
    have hkx := WideAt.sameKey_eq hpk
    have hf := fitI_of hx3
    have hh : Maps.has D (.int .i64 x) = true := by
      rw [hD]
      rw [← hx2, hkx]
      exact hkl
    rw [h2.2.1 x hf] at hh
    obtain ⟨r, hr, hrx⟩ := List.any_eq_true.1 hh
    have hrx' : r.1 = x := by simpa using hrx
    exact ⟨r, hr, by rw [hrx', ← hkx, hx2]⟩
  · rw [h2.2.1 x.1 (h2.2.2 x hx).1, List.any_eq_true]
    exact ⟨x, hx, by simp⟩

theorem wpList_next_reg (hg : o.guard = none) (it : Operand) (hop : o.op = Op.next it false) (b r : Nat) (L rem : List Reg) (cnt : Nat) (hit : a.eval it = .pointer (some ⟨r, 0, none⟩)) (h : Rng w b r L rem cnt)
    (hDone : rem = [] → wpList Tryz.prog ops Q rest (a.put o.dst (.tuple #[.bool false])) w)
    (hMore : ∀ (p q s : Int) (rem' : List Reg) (w' : World) (cnt' : Nat), rem.Perm ((p, q, s) :: rem') → Rng w' b r L rem' cnt' → cnt' < cnt → w.grownBy w' (some r) → w'.heap.size = w.heap.size →
      (Instr.entry (.pointer (some ⟨r, 0, none⟩))).run Tryz.prog w' = .ok (.tuple #[.int .i64 p, .agg #[.int .i64 p, .int .i64 q, .int .i64 s]]) w' → wpList Tryz.prog ops Q rest (a.put o.dst (.tuple #[.bool true, .int .i64 p, .agg #[.int .i64 p, .int .i64 q, .int .i64 s]])) w') : wpList Tryz.prog ops Q (o :: rest) a w := by
  obtain ⟨D, left, h1, h2, h3, h4, h5, h6⟩ := h
  refine wpList_next_ranges (β := Reg) w hg it hop 3 int_keys regElem (Value.int .i64) rgv (fun key kl hkey => by obtain ⟨x, rfl, _⟩ := Maps.keyOf_int_inv Tryz.underlying3 hkey; exact ⟨x, rfl⟩) (fun v y hv => by obtain ⟨c, rfl, _⟩ := regElem_inv hv; exact ⟨c, rfl⟩) b r L.length D left cnt hit h1 ?_ ?_
  · intro _ hl
    refine hDone ?_
    cases rem with
    | nil => rfl
    | cons x rem =>
      have := h4 x (List.mem_cons_self ..)
      rw [hl] at this
      cases this
  · intro x c kl y w' cnt' hkey hlk hv hat hrg hlt hgr hsz hen
    obtain ⟨x', ex, rfl, hwx⟩ := Maps.keyOf_int_inv Tryz.underlying3 hkey
    injection ex with _ ex
    subst ex
    obtain ⟨z, hz, hzk⟩ := h3 _ hlk
    have hzx : x = z.1 := by injection hzk
    subst hzx
    rw [regElem_mk] at hv
    injection hv with hv
    subst hv
    have hzc := (h2.2.2 z (h5 z hz)).2 (regDat z)
    rw [hat] at hzc
    obtain rfl := regDat_inj hzc
    have hp := List.perm_cons_erase hz
    refine hMore c.1 c.2.1 c.2.2 (rem.erase c) w' cnt' hp ⟨D, _, hrg, h2, fun kl hkl => ?_, fun x hx => ?_, fun x hx => h5 x (List.mem_of_mem_erase hx), ?_⟩ hlt hgr hsz hen
    · simp only [Bool.and_eq_true] at hkl
      obtain ⟨u, hu, rfl⟩ := h3 kl hkl.1
      rcases List.mem_cons.1 ((hp.mem_iff).1 hu) with e | e
      · subst e
        have := hkl.2
        rw [WideAt.sameKey_self (int_key_lit (h2.2.2 u (h5 u hu)).1)] at this
        cases this
      · exact ⟨u, e, rfl⟩
    · have hx' := List.mem_of_mem_erase hx
      simp only [Bool.and_eq_true]
      refine ⟨h4 x hx', ?_⟩
      have hnd := (hp.map (·.1)).nodup_iff.1 h6
      have hne : (Lit.int .i64 x.1) ≠ .int .i64 c.1 := fun e => by
        injection e with _ e
        rw [List.map_cons, List.nodup_cons] at hnd
        exact hnd.1 (List.mem_map.2 ⟨x, hx, e⟩)
      rw [Maps.sameKey_ne hne]
      rfl
    · have hnd := (hp.map (·.1)).nodup_iff.1 h6
      rw [List.map_cons, List.nodup_cons] at hnd
      exact hnd.2
end
end Go.Proofs.YtfhhcpmoaggdmaaGreat.Rg

/- What a table's calls answer: which rows may be, where they lie, whose region is whose. -/
namespace Go.Proofs.YtfhhcpmoaggdmaaGreat.Rg
open Go.RowKit Go.Lib Go.Sort
set_option linter.unusedVariables false

/-- The places of a region. -/
abbrev spn (r : Reg) : Int × Int := (r.2.1, r.2.1 + r.2.2)
def mayB (r : Reg) : Bool := decide (1 ≤ r.1 ∧ r.1 ≤ 8 ∧ 128 ≤ r.2.1 ∧ r.2.1 ≤ 16383 ∧ 1 ≤ r.2.2 ∧ r.2.2 ≤ 16384 - r.2.1)
theorem mayB_iff {r : Reg} : mayB r = true ↔ (1 ≤ r.1 ∧ r.1 ≤ 8 ∧ 128 ≤ r.2.1 ∧ r.2.1 ≤ 16383 ∧ 1 ≤ r.2.2 ∧ r.2.2 ≤ 16384 - r.2.1) := by simp [mayB]

theorem may_any (r : Reg) (hf : Fits r) (w : World) : Calls Tryz.prog 93 #[rgv r] w fun e w' => e = .returned (.bool (mayB r)) ∧ w.grownBy w' none := by
  obtain ⟨o, b, s⟩ := r
  obtain ⟨hf1, hf2, hf3⟩ := hf
  unfold fitI at hf1 hf2 hf3
  simp only at hf1 hf2 hf3
  have key : (¬ 1 ≤ o ∧ mayB (o, b, s) = false) ∨ (1 ≤ o ∧ ¬ o ≤ 8 ∧ mayB (o, b, s) = false) ∨ (1 ≤ o ∧ o ≤ 8 ∧ ¬ 128 ≤ b ∧ mayB (o, b, s) = false) ∨ (1 ≤ o ∧ o ≤ 8 ∧ 128 ≤ b ∧ ¬ 1 ≤ s ∧ mayB (o, b, s) = false) ∨ (1 ≤ o ∧ o ≤ 8 ∧ 128 ≤ b ∧ 1 ≤ s ∧ ¬ s ≤ 16384 - b ∧ mayB (o, b, s) = false) ∨ (1 ≤ o ∧ o ≤ 8 ∧ 128 ≤ b ∧ 1 ≤ s ∧ s ≤ 16384 - b ∧ mayB (o, b, s) = true) := by
    by_cases h1 : 1 ≤ o <;> by_cases h2 : o ≤ 8 <;> by_cases h3 : 128 ≤ b <;> by_cases h4 : 1 ≤ s <;> by_cases h5 : s ≤ 16384 - b <;> simp [mayB, h1, h2, h3, h4, h5] <;> omega
  have hw : 128 ≤ b → IntKind.i64.wrap (16384 - b) = 16384 - b := fun h => by rw [IntKind.wrap_i64]; omega
  rcases key with ⟨h1, e⟩ | ⟨h1, h2, e⟩ | ⟨h1, h2, h3, e⟩ | ⟨h1, h2, h3, h4, e⟩ | ⟨h1, h2, h3, h4, h5, e⟩ | ⟨h1, h2, h3, h4, h5, e⟩
  all_goals
    have E := Lib.hid e
    clear e
    try have hw' := hw h3
    clear hw hf1 hf2 hf3
    go_enter Tryz.func93, Tryz.ntmps93
    go_wp2
    go_ret
    rw [E.out]
    exact ⟨by first | rfl | (simp; done) | (simp; omega), only_alloc (only_refl _ _) _⟩

theorem places_any (r : Reg) (h : mayB r = true) (w : World) : Calls Tryz.prog 94 #[rgv r] w fun e w' => e = .returned (spv (spn r)) ∧ w.grownBy w' none := by
  obtain ⟨o, b, s⟩ := r
  have h' := mayB_iff.1 h
  simp only at h'
  have hw : IntKind.i64.wrap (b + s) = b + s := by rw [IntKind.wrap_i64]; omega
  clear h h'
  go_enter Tryz.func94, Tryz.ntmps94
  go_wp2
  refine bodyPost_ret (v := .agg #[.int .i64 b, .int .i64 (b + s)]) (by simp [results, Tryz.results94, go_sem]) rfl ⟨rfl, only_alloc (only_alloc (only_refl _ _) _) _⟩

theorem rspan_any (r : Reg) (h : mayB r = true) (w : World) : Calls Tryz.prog 16 #[rgv r] w fun e w' => e = .returned (spv (spn r)) ∧ w.grownBy w' none := by
  obtain ⟨o, b, s⟩ := r
  have h' := mayB_iff.1 h
  simp only at h'
  have hw : IntKind.i64.wrap (b + s) = b + s := by rw [IntKind.wrap_i64]; omega
  clear h h'
  go_enter Tryz.func16, Tryz.ntmps16
  go_wp2
  refine bodyPost_ret (v := .agg #[.int .i64 b, .int .i64 (b + s)]) (by simp [results, Tryz.results16, go_sem]) rfl ⟨rfl, only_alloc (only_alloc (only_refl _ _) _) _⟩

theorem find_nil (o : Int) (w : World) : Calls Tryz.prog 15 #[.pointer none, .int .i64 o] w fun e w' => e = .returned (.tuple #[.agg #[.int .i64 0, .int .i64 0, .int .i64 0], .int .i64 7]) ∧ w.grownBy w' none := by
  go_enter Tryz.func15, Tryz.ntmps15
  go_wp2
  refine bodyPost_ret (v := .tuple #[.agg #[.int .i64 0, .int .i64 0, .int .i64 0], .int .i64 7]) (by simp [results, Tryz.results15, go_sem]) rfl ⟨rfl, only_alloc (only_refl _ _) _⟩
theorem find_some {w : World} {B t : Nat} {L : List Reg} {o p q s : Int} (h : TabV w B t L) (ho : fitI o) (hl : lookL L o = some (p, q, s)) : Calls Tryz.prog 15 #[.pointer (some ⟨t, 0, none⟩), .int .i64 o] w fun e w' => e = .returned (.tuple #[.agg #[.int .i64 p, .int .i64 q, .int .i64 s], .int .i64 0]) ∧ w.grownBy w' none := by
  obtain ⟨b, h1, h2, h3, h4⟩ := h
  have c0 := h3.cell 0
  simp at c0
  have k0 : (w.alloc (.cells #[.int .i64 0, .int .i64 0, .int .i64 0] 44)).cell? ⟨t, 0, none⟩ = some (.map (some b)) := (h3.alloc _).cell 0
  have HM := Lib.hid h4
  have HL := Lib.hid hl
  clear h1 h2 h3 h4 hl
  go_enter Tryz.func15, Tryz.ntmps15
  go_wp2_with (at_lookup; refine wpList_look_some rfl _ _ rfl b L o p q s rfl (HM.out.only (only_alloc (only_refl _ none) _) (by simp)) rfl ho HL.out ?_)
  refine bodyPost_ret (v := .tuple #[.agg #[.int .i64 p, .int .i64 q, .int .i64 s], .int .i64 0]) (by simp [results, Tryz.results15, go_sem]) rfl ⟨rfl, only_alloc (only_alloc (only_refl _ _) _) _⟩
theorem find_none {w : World} {B t : Nat} {L : List Reg} {o : Int} (h : TabV w B t L) (ho : fitI o) (hl : lookL L o = none) : Calls Tryz.prog 15 #[.pointer (some ⟨t, 0, none⟩), .int .i64 o] w fun e w' => e = .returned (.tuple #[.agg #[.int .i64 0, .int .i64 0, .int .i64 0], .int .i64 7]) ∧ w.grownBy w' none := by
  obtain ⟨b, h1, h2, h3, h4⟩ := h
  have c0 := h3.cell 0
  simp at c0
  have k0 : (w.alloc (.cells #[.int .i64 0, .int .i64 0, .int .i64 0] 44)).cell? ⟨t, 0, none⟩ = some (.map (some b)) := (h3.alloc _).cell 0
  have HM := Lib.hid h4
  have HL := Lib.hid hl
  clear h1 h2 h3 h4 hl
  go_enter Tryz.func15, Tryz.ntmps15
  go_wp2_with (at_lookup; refine wpList_look_none rfl _ _ rfl b L o rfl (HM.out.only (only_alloc (only_refl _ none) _) (by simp)) rfl ho HL.out ?_)
  refine bodyPost_ret (v := .tuple #[.agg #[.int .i64 0, .int .i64 0, .int .i64 0], .int .i64 7]) (by simp [results, Tryz.results15, go_sem]) rfl ⟨rfl, only_alloc (only_alloc (only_refl _ _) _) _⟩
/-- The region of an owner, or none; and the error. -/
def fndR (L : List Reg) (o : Int) : Reg := (lookL L o).getD (0, 0, 0)
def fndE (L : List Reg) (o : Int) : Int := if (lookL L o).isSome then 0 else 7
theorem find_any {w : World} {B t : Nat} {L : List Reg} {o : Int} (h : TabV w B t L) (ho : fitI o) : Calls Tryz.prog 15 #[.pointer (some ⟨t, 0, none⟩), .int .i64 o] w fun e w' => e = .returned (.tuple #[.agg #[.int .i64 (fndR L o).1, .int .i64 (fndR L o).2.1, .int .i64 (fndR L o).2.2], .int .i64 (fndE L o)]) ∧ w.grownBy w' none := by
  unfold fndR fndE
  cases hl : lookL L o with
  | none => exact find_none h ho hl
  | some r => exact find_some h ho hl
/-- A table of rows that may be. -/
def AllMay (L : List Reg) : Prop := ∀ r ∈ L, mayB r = true
theorem AllMay.look {L : List Reg} (h : AllMay L) {o : Int} {r : Reg} (hl : lookL L o = some r) : mayB r = true := h r (lookL_some hl).1

/-- Where an address is; or why it is not. -/
def mapV (L : List Reg) (o a n : Int) : Int × Int :=
  match lookL L o with
  | none => (0, 7)
  | some r => if n < 0 then (0, 2) else if a < 0 then (0, 6) else if r.2.2 - a < n then (0, 6) else (r.2.1 + a, 0)
/-- An owner's places; none: (0, 0). -/
def spanV (L : List Reg) (o : Int) : Int × Int :=
  match lookL L o with
  | none => (0, 0)
  | some r => spn r
end Go.Proofs.YtfhhcpmoaggdmaaGreat.Rg

/- What is wrong with a row beside those that are there; the call that makes a table. -/
namespace Go.Proofs.YtfhhcpmoaggdmaaGreat.Rg
open Go.RowKit Go.Lib Go.Sort
set_option linter.unusedVariables false

theorem meetsB_symm (a b : Int × Int) : meetsB a b = meetsB b a := by
  unfold meetsB
  cases isB a <;> cases isB b <;> cases holdsB a b.1 <;> cases holdsB b a.1 <;> rfl
/-- What is wrong with a row beside the rows L. -/
def chkV (L : List Reg) (r : Reg) : Int := if mayB r = false then 2 else if (lookL L r.1).isSome then 15 else if L.any (fun x => meetsB (spn r) (spn x)) then 11 else 0

set_option maxRecDepth 100000 in
/-- 'v, ok := m[k]' as1 an equation, for regions that draw. -/
theorem run_look_some {w : World} {b : Nat} {L : List Reg} {k p q s : Int} (hmap : MapR w b L) (hk : fitI k) (hl : lookL L k = some (p, q, s)) :
    (Instr.lookup 87 (.map (some b)) (.int .i64 k) true).run Tryz.prog w = .ok (.tuple #[.agg #[.int .i64 p, .int .i64 q, .int .i64 s], .bool true]) w := by
  obtain ⟨D, h1, h2⟩ := hmap
  obtain ⟨e1, e2⟩ := h2.has_some hl
  obtain ⟨v, ps, hr, hv⟩ := h1.look_ok int_keys Tryz.underlying87 (reg_zero w) (regElem_mk (0, 0, 0)) (int_key hk)
  rw [e2] at hv
  obtain ⟨r, rfl, hz⟩ := regElem_inv hv
  injection hz with hz _
  obtain rfl := regDat_inj hz
  rw [e1] at hr
  exact hr
set_option maxRecDepth 100000 in
theorem run_look_none {w : World} {b : Nat} {L : List Reg} {k : Int} (hmap : MapR w b L) (hk : fitI k) (hl : lookL L k = none) :
    (Instr.lookup 87 (.map (some b)) (.int .i64 k) true).run Tryz.prog w = .ok (.tuple #[.agg #[.int .i64 0, .int .i64 0, .int .i64 0], .bool false]) w := by
  obtain ⟨D, h1, h2⟩ := hmap
  have e1 := h2.has_none hk hl
  obtain ⟨v, ps, hr, hv⟩ := h1.look_ok int_keys Tryz.underlying87 (reg_zero w) (regElem_mk (0, 0, 0)) (int_key hk)
  rw [Maps.atKey_of_not_has e1] at hv
  obtain ⟨r, rfl, hz⟩ := regElem_inv hv
  injection hz with hz _
  obtain rfl := regDat_inj hz
  rw [e1] at hr
  exact hr
theorem MapR.drew {w : World} {b : Nat} {L : List Reg} (h : MapR w b L) : MapR w.drew b L := h.drewN 1
theorem MapR.alloc {w : World} {b : Nat} {L : List Reg} (h : MapR w b L) (o : Obj) : MapR (w.alloc o) b L := h.only (only_alloc (only_refl _ none) _) (by simp)

theorem chkV_end {L : List Reg} {r : Reg} (h0 : mayB r = true) (hl : lookL L r.1 = none) (h : ∀ y ∈ L, meetsB (spn r) (spn y) = false) : chkV L r = 0 := by
  have : L.any (fun x => meetsB (spn r) (spn x)) = false := by
    rw [List.any_eq_false]
    intro x hx
    rw [h x hx]
    decide
  simp only [chkV, h0, hl, this]
  rfl
theorem chkV_meet {L : List Reg} {r y : Reg} (h0 : mayB r = true) (hl : lookL L r.1 = none) (hy : y ∈ L) (h : meetsB (spn r) (spn y) = true) : chkV L r = 11 := by
  have : L.any (fun x => meetsB (spn r) (spn x)) = true := List.any_eq_true.2 ⟨y, hy, h⟩
  simp only [chkV, h0, hl, this]
  rfl

def CheckV (L : List Reg) (r : Reg) (w : World) (e : Ending) (w' : World) : Prop := e = .returned (.int .i64 (chkV L r)) ∧ Below w.heap.size w w'
set_option maxHeartbeats 1600000 in
theorem tcheck_any {w : World} {B t : Nat} {L : List Reg} (r : Reg) (hf : Fits r) (h : TabV w B t L) (hm : AllMay L) (hnd : (L.map (·.1)).Nodup) : Calls Tryz.prog 52 #[.pointer (some ⟨t, 0, none⟩), rgv r] w (CheckV L r w) := by
  have hcm := fun W => may_any r hf W
  have HCM := Lib.hid hcm
  clear hcm
  by_cases h0 : mayB r = true
  · obtain ⟨b, ht1, ht2, ht3, ht4⟩ := h
    have hb0 := (Below.refl w.heap.size w).alloc (Nat.le_refl _) (.cells #[.int .i64 r.1, .int .i64 r.2.1, .int .i64 r.2.2] 44)
    have HT := Lib.hid ht3
    have HM := Lib.hid ht4
    have HB0 := Lib.hid hb0
    have hp := fun W => places_any r h0 W
    have HP := Lib.hid hp
    rw [h0] at HCM
    clear hp ht3 ht4 hb0
    cases hl : lookL L r.1 with
    | some x =>
      have hc : chkV L r = 15 := by simp [chkV, h0, hl]
      have HC := Lib.hid hc
      have HL := Lib.hid hl
      clear hc hl
      obtain ⟨p, q, s⟩ := r
      obtain ⟨x1, x2, x3⟩ := x
      have ho := hf.1
      simp only at ho
      go_enter Tryz.func52, Tryz.ntmps52
      go_wp2_with (first
        | (go_at_call 93; refine (HCM.out _).mono ?_; rintro e w1 ⟨rfl, g1⟩; have B1 := Lib.hid (HB0.out.trans (below_of_only g1 (by simp) (by simp))); have hblk := (Blk.new w 44 #[.int .i64 p, .int .i64 q, .int .i64 s]).only g1 (by simp); have e0 := hblk.cell 0; have e1 := hblk.cell 1; have e2 := hblk.cell 2; simp at e0 e1 e2; have R1 := Lib.hid hblk; have T1 := Lib.hid (HT.out.below B1.out HT.out.lt); have c0 := T1.out.cell 0; simp at c0; have M1 := Lib.hid (HM.out.below B1.out); clear g1 hblk)
  )
      have c0' : (w1.alloc (.cells #[.int .i64 0, .int .i64 0, .int .i64 0] 44)).cell? ⟨t, 0, none⟩ = some (.map (some b)) := (T1.out.alloc _).cell 0
      have e0' : (w1.alloc (.cells #[.int .i64 0, .int .i64 0, .int .i64 0] 44)).cell? ⟨w.heap.size, 0, none⟩ = some (.int .i64 p) := (R1.out.alloc _).cell 0
      have k1 := run_look_some M1.out.drew ho HL.out
      have k2 := run_look_some (M1.out.alloc (.cells #[.int .i64 0, .int .i64 0, .int .i64 0] 44)).drew ho HL.out
      go_region
      all_goals
        go_wp2
        go_ret
        exact ⟨ret_int (by rw [HC.out]), below_drewN (B1.out.alloc B1.out.size _) 1⟩
    | none =>
      have HL := Lib.hid hl
      have hnd' := hnd
      have HND := Lib.hid hnd
      clear hl hnd hnd'
      obtain ⟨p, q, s⟩ := r
      have ho := hf.1
      simp only at ho
      go_enter Tryz.func52, Tryz.ntmps52
      go_wp2_with (first
        | (go_at_call 93; refine (HCM.out _).mono ?_; rintro e w1 ⟨rfl, g1⟩; have B1 := Lib.hid (HB0.out.trans (below_of_only g1 (by simp) (by simp))); have hblk := (Blk.new w 44 #[.int .i64 p, .int .i64 q, .int .i64 s]).only g1 (by simp); have e0 := hblk.cell 0; have e1 := hblk.cell 1; have e2 := hblk.cell 2; simp at e0 e1 e2; have R1 := Lib.hid hblk; have T1 := Lib.hid (HT.out.below B1.out HT.out.lt); have c0 := T1.out.cell 0; simp at c0; have M1 := Lib.hid (HM.out.below B1.out); clear g1 hblk)
  )
      have c0' : (w1.alloc (.cells #[.int .i64 0, .int .i64 0, .int .i64 0] 44)).cell? ⟨t, 0, none⟩ = some (.map (some b)) := (T1.out.alloc _).cell 0
      have e0' : (w1.alloc (.cells #[.int .i64 0, .int .i64 0, .int .i64 0] 44)).cell? ⟨w.heap.size, 0, none⟩ = some (.int .i64 p) := (R1.out.alloc _).cell 0
      have k1 := run_look_none M1.out.drew ho HL.out
      have k2 := run_look_none (M1.out.alloc (.cells #[.int .i64 0, .int .i64 0, .int .i64 0] 44)).drew ho HL.out
      go_region
      all_goals
        obtain ⟨w2, hw2⟩ : ∃ w2, w2 = (w1.alloc (.cells #[.int .i64 0, .int .i64 0, .int .i64 0] 44)).drew := ⟨_, rfl⟩
        have R2 : Hid (Blk w2 w.heap.size 44 #[.int .i64 p, .int .i64 q, .int .i64 s]) := by rw [hw2]; exact Lib.hid ((R1.out.alloc _).drewN 1)
        have T2 : Hid (Blk w2 t 89 #[.map (some b)]) := by rw [hw2]; exact Lib.hid ((T1.out.alloc _).drewN 1)
        have M2 : Hid (MapR w2 b L) := by rw [hw2]; exact Lib.hid ((M1.out.alloc _).drew)
        have B2 : Hid (Below w.heap.size w w2) := by rw [hw2]; exact Lib.hid (below_drewN (B1.out.alloc B1.out.size _) 1)
        rw [← hw2]
        clear c0 c0' e0 e0' e1 e2 k1 k2 R1 T1 M1 B1 hw2
        have c0 : w2.cell? ⟨t, 0, none⟩ = some (.map (some b)) := T2.out.cell 0
        go_wp2_with (at_range; refine wpList_range_reg rfl _ rfl b L rfl M2.out HND.out ?_; intro w3 cnt hr hg3 hs3)
        go_frame
        have RN := Lib.hid hr
        have G3 := Lib.hid hg3
        have LT := Lib.hid (And.intro R2.out.lt M2.out.lt)
        have R3 := Lib.hid (R2.out.only hg3 (by simp))
        have B3 := Lib.hid (B2.out.trans (below_of_only hg3 B2.out.size (by simp)))
        clear hr hg3 hs3 c0
        go_loopw [8] (fun x wr => ∃ rem cnt, Rng wr b w2.heap.size L rem cnt ∧ Hid (∀ y ∈ L, y ∈ rem ∨ meetsB (spn (p, q, s)) (spn y) = false) ∧ (∀ y ∈ rem, y ∈ L) ∧ Blk wr w.heap.size 44 #[.int .i64 p, .int .i64 q, .int .i64 s] ∧ Below w.heap.size w wr) (fun x wr => wr.rangeLeft b w2.heap.size)
        case atStart => exact ⟨L, _, RN.out, Lib.hid (fun y hy => .inl hy), fun y hy => hy, R3.out, B3.out⟩
        case round =>
          obtain ⟨rem, cnt', hrn, HS, hrl, hR, hb⟩ := hrel
          have HRN := Lib.hid hrn
          have HRL := Lib.hid hrl
          have HR := Lib.hid hR
          have HB := Lib.hid hb
          clear hrn hrl hR hb
          go_wp2_with (at_next; refine wpList_next_reg rfl _ rfl b _ L rem cnt' rfl HRN.out ?_ ?_)
          · intro hrem
            subst hrem
            have hc : chkV L (p, q, s) = 0 := chkV_end h0 HL.out (fun y hy => by rcases HS.out y hy with h | h <;> first | (cases h; done) | exact h)
            have HC := Lib.hid hc
            clear hc
            go_wp2
            go_ret
            exact ⟨ret_int (by rw [HC.out]), HB.out⟩
          · intro x1 x2 x3 rem' wn cnt2 hperm hrn2 hlt hgn hsn hen
            have hyL : (x1, x2, x3) ∈ L := HRL.out _ (hperm.mem_iff.2 (List.mem_cons_self ..))
            have hmy : mayB (x1, x2, x3) = true := hm _ hyL
            have hpo : ∀ W, Calls Tryz.prog 94 #[.agg #[.int .i64 x1, .int .i64 x2, .int .i64 x3]] W fun e w' => e = .returned (.agg #[.int .i64 x2, .int .i64 (x2 + x3)]) ∧ W.grownBy w' none := fun W => places_any (x1, x2, x3) hmy W
            have hpr : ∀ W, Calls Tryz.prog 94 #[.agg #[.int .i64 p, .int .i64 q, .int .i64 s]] W fun e w' => e = .returned (.agg #[.int .i64 q, .int .i64 (q + s)]) ∧ W.grownBy w' none := fun W => places_any (p, q, s) h0 W
            have HPO := Lib.hid hpo
            have HPR := Lib.hid hpr
            clear hpo hpr
            obtain ⟨mb, hmb⟩ : ∃ mb, mb = meetsB (q, q + s) (x2, x2 + x3) := ⟨_, rfl⟩
            obtain ⟨v, hv⟩ : ∃ v, v = meetV (q, q + s) (x2, x2 + x3) := ⟨_, rfl⟩
            obtain ⟨v1, v2⟩ := v
            have hme : ∀ W, Calls Tryz.prog 89 #[.agg #[.int .i64 q, .int .i64 (q + s)], .agg #[.int .i64 x2, .int .i64 (x2 + x3)]] W fun e w' => e = .returned (.tuple #[.agg #[.int .i64 v1, .int .i64 v2], .bool mb]) ∧ W.grownBy w' none := fun W => by
              have := meet_any (q, q + s) (x2, x2 + x3) W
              rw [← hmb, ← hv] at this
              exact this
            have HME := Lib.hid hme
            have HMB := Lib.hid hmb
            clear hme hmb hv
            have HRNN := Lib.hid hrn2
            have HPERM := Lib.hid hperm
            have HLT := Lib.hid hlt
            have HYL := Lib.hid hyL
            have RQ := Lib.hid (HR.out.only hgn (by have := LT.out.1; intro e; injection e with e; omega))
            have BQ := Lib.hid (HB.out.trans (below_of_only hgn HB.out.size (fun k hk => by have := LT.out.1; injection hk with hk; omega)))
            clear hperm hrn2 hlt hgn hsn hyL hmy
            go_wp2
            obtain ⟨wq, hwq⟩ : ∃ wq, wq = wn.alloc (.cells #[.int .i64 x1, .int .i64 x2, .int .i64 x3] 44) := ⟨_, rfl⟩
            have hOQ : Blk wq wn.heap.size 44 #[.int .i64 x1, .int .i64 x2, .int .i64 x3] := by rw [hwq]; exact Blk.new _ _ _
            have hRQ : Blk wq w.heap.size 44 #[.int .i64 p, .int .i64 q, .int .i64 s] := by rw [hwq]; exact RQ.out.alloc _
            have hBQ : Below w.heap.size w wq := by rw [hwq]; exact BQ.out.alloc BQ.out.size _
            have hNQ : Rng wq b w2.heap.size L rem' cnt2 := by rw [hwq]; exact HRNN.out.only (only_alloc (only_refl _ none) _) (by simp) (by simp)
            rw [← hwq]
            have hold : ∀ W, Below wq.heap.size wq W → W.cell? ⟨w.heap.size, 0, none⟩ = some (.int .i64 p) ∧ W.cell? ⟨w.heap.size, 1, none⟩ = some (.int .i64 q) ∧ W.cell? ⟨w.heap.size, 2, none⟩ = some (.int .i64 s) ∧ W.cell? ⟨wn.heap.size, 0, none⟩ = some (.int .i64 x1) ∧ W.cell? ⟨wn.heap.size, 1, none⟩ = some (.int .i64 x2) ∧ W.cell? ⟨wn.heap.size, 2, none⟩ = some (.int .i64 x3) := fun W h =>
              ⟨(hRQ.below h hRQ.lt).cell 0, (hRQ.below h hRQ.lt).cell 1, (hRQ.below h hRQ.lt).cell 2, (hOQ.below h hOQ.lt).cell 0, (hOQ.below h hOQ.lt).cell 1, (hOQ.below h hOQ.lt).cell 2⟩
            have HOLD := Lib.hid hold
            obtain ⟨c0, c1, c2, c3, c4, c5⟩ := hold wq (Below.refl _ _)
            have HRQ := Lib.hid hRQ
            have HBQ := Lib.hid hBQ
            have HNQ := Lib.hid hNQ
            clear hwq hOQ hRQ hBQ hNQ hold RQ BQ HRNN
            go_region_held3 (fun w' => w'.cell? ⟨w.heap.size, 0, none⟩ = some (.int .i64 p) ∧ w'.cell? ⟨w.heap.size, 1, none⟩ = some (.int .i64 q) ∧ w'.cell? ⟨w.heap.size, 2, none⟩ = some (.int .i64 s) ∧ w'.cell? ⟨wn.heap.size, 0, none⟩ = some (.int .i64 x1) ∧ w'.cell? ⟨wn.heap.size, 1, none⟩ = some (.int .i64 x2) ∧ w'.cell? ⟨wn.heap.size, 2, none⟩ = some (.int .i64 x3))
              (first | exact ⟨l0, l1, l2, l3, l4, l5⟩ | exact ⟨k0, k1, k2, k3, k4, k5⟩ | exact ⟨j0, j1, j2, j3, j4, j5⟩ | exact HOLD.out _ (HB6.out.alloc HB6.out.size _) | exact HOLD.out _ ((HB6.out.setCell (Nat.le_refl _) _).setCell (Nat.le_refl _) _) | exact HOLD.out _ ((HB6.out.setCell HB4.out.size _).setCell HB4.out.size _) | exact HOLD.out _ ((HB6.out.setCell HB5.out.size _).setCell HB5.out.size _) | go_keep) (first
              | (go_at_call 94; ((with_reducible refine (HPR.out _).mono ?_)); rintro e w4 ⟨rfl, g4⟩; (first
                  | (have hB4 : Below wq.heap.size wq w4 := (below_drewN (Below.refl _ wq) 1).trans (below_of_only g4 (by simp) (by simp)))
                  | (have hB4 : Below wq.heap.size wq w4 := ((below_drewN (Below.refl _ wq) 1).alloc (by simp) (.cells #[.int .i64 0, .int .i64 0] 40)).trans (below_of_only g4 (by simp) (by simp)); have HZ4 := Lib.hid ((Blk.new wq.drew 40 #[.int .i64 0, .int .i64 0]).only g4 (by simp))) | fail "q"); obtain ⟨j0, j1, j2, j3, j4, j5⟩ := HOLD.out w4 hB4; have HB4 := Lib.hid hB4; clear hB4 g4)
              | (go_at_call 94; ((with_reducible refine (HPO.out _).mono ?_)); rintro e w5 ⟨rfl, g5⟩; (first
                  | (have hB5 : Below wq.heap.size wq w5 := HB4.out.trans (below_of_only g5 HB4.out.size (by simp)))
                  | (have hB5 : Below wq.heap.size wq w5 := (HB4.out.alloc HB4.out.size (.cells #[.int .i64 0, .int .i64 0] 40)).trans (below_of_only g5 (Nat.le_trans HB4.out.size (by simp)) (by simp)); have HZ5 := Lib.hid ((Blk.new w4 40 #[.int .i64 0, .int .i64 0]).only g5 (by simp))) | fail "q"); obtain ⟨k0, k1, k2, k3, k4, k5⟩ := HOLD.out w5 hB5; (try have HZ5 := Lib.hid (HZ4.out.only g5 (by simp))); have HB5 := Lib.hid hB5; clear hB5 g5)
              | (go_at_call 89; ((with_reducible refine (HME.out _).mono ?_)); rintro e w6 ⟨rfl, g6⟩; (first
                  | (have hB6 : Below wq.heap.size wq w6 := HB5.out.trans (below_of_only g6 HB5.out.size (by simp)))
                  | (have hB6 : Below wq.heap.size wq w6 := (HB5.out.alloc HB5.out.size (.cells #[.int .i64 0, .int .i64 0] 40)).trans (below_of_only g6 (Nat.le_trans HB5.out.size (by simp)) (by simp)); have HZ6 := Lib.hid ((Blk.new w5 40 #[.int .i64 0, .int .i64 0]).only g6 (by simp))) | fail "q"); obtain ⟨l0, l1, l2, l3, l4, l5⟩ := HOLD.out w6 hB6; (try have HZ6 := Lib.hid (HZ5.out.only g6 (by simp))); (try (have z0 := HZ6.out.cell 0; have z1 := HZ6.out.cell 1; have y0 := HZ6.out.free 0; have y1 := HZ6.out.free 1; simp at z0 z1 y0 y1)); have HB6 := Lib.hid hB6; clear hB6 g6))
            all_goals
              (first
                | (obtain ⟨wf, hwf⟩ : ∃ wf, wf = w6.alloc (.cells #[.int .i64 v1, .int .i64 v2] 40) := ⟨_, rfl⟩
                   rw [← hwf]
                   have HF : Hid (Below wq.heap.size wq wf) := by rw [hwf]; exact Lib.hid (HB6.out.alloc HB6.out.size _))
                | (obtain ⟨wf, hwf⟩ : ∃ wf, wf = (w6.setCell ⟨w5.heap.size, 0, none⟩ (.int .i64 v1)).setCell ⟨w5.heap.size, 1, none⟩ (.int .i64 v2) := ⟨_, rfl⟩
                   rw [← hwf]
                   have HF : Hid (Below wq.heap.size wq wf) := by rw [hwf]; exact Lib.hid ((HB6.out.setCell HB5.out.size _).setCell HB5.out.size _))
                | (obtain ⟨wf, hwf⟩ : ∃ wf, wf = (w6.setCell ⟨w4.heap.size, 0, none⟩ (.int .i64 v1)).setCell ⟨w4.heap.size, 1, none⟩ (.int .i64 v2) := ⟨_, rfl⟩
                   rw [← hwf]
                   have HF : Hid (Below wq.heap.size wq wf) := by rw [hwf]; exact Lib.hid ((HB6.out.setCell HB4.out.size _).setCell HB4.out.size _))
                | (obtain ⟨wf, hwf⟩ : ∃ wf, wf = (w6.setCell ⟨wq.heap.size, 0, none⟩ (.int .i64 v1)).setCell ⟨wq.heap.size, 1, none⟩ (.int .i64 v2) := ⟨_, rfl⟩
                   rw [← hwf]
                   have HF : Hid (Below wq.heap.size wq wf) := by rw [hwf]; exact Lib.hid ((HB6.out.setCell (Nat.le_refl _) _).setCell (Nat.le_refl _) _)))
              clear hwf l0 l1 l2 l3 l4 l5 k0 k1 k2 k3 k4 k5 j0 j1 j2 j3 j4 j5 HB4 HB5 HB6 c0 c1 c2 c3 c4 c5
              try clear z0 z1 y0 y1
              cases mb with
              | true =>
                have hc : chkV L (p, q, s) = 11 := chkV_meet h0 HL.out HYL.out HMB.out.symm
                have HC := Lib.hid hc
                clear hc
                go_wp2
                go_ret
                exact ⟨ret_int (by rw [HC.out]), HBQ.out.trans (HF.out.mono HBQ.out.size)⟩
              | false =>
                go_wp2
                go_roundw
                case rel =>
                  refine ⟨rem', cnt2, HNQ.out.only (only_far HF.out) (by simp) (by simp), Lib.hid fun y hy => ?_, fun y hy => HRL.out y (HPERM.out.mem_iff.2 (List.mem_cons_of_mem _ hy)), HRQ.out.below HF.out HRQ.out.lt, HBQ.out.trans (HF.out.mono HBQ.out.size)⟩
                  rcases HS.out y hy with h | h
                  · rcases List.mem_cons.1 (HPERM.out.mem_iff.1 h) with e | e
                    · subst e
                      exact .inr HMB.out.symm
                    · exact .inl e
                  · exact .inr h
                case measure =>
                  rw [(HNQ.out.only (only_far HF.out) (by simp) (by simp)).left_eq, HRN.out.left_eq]
                  exact HLT.out
  · have h0' : mayB r = false := by simpa using h0
    have hc : chkV L r = 2 := by simp [chkV, h0']
    rw [h0'] at HCM
    have HC := Lib.hid hc
    have hb0 := (Below.refl w.heap.size w).alloc (Nat.le_refl _) (.cells #[.int .i64 r.1, .int .i64 r.2.1, .int .i64 r.2.2] 44)
    have HB0 := Lib.hid hb0
    clear hb0 hc h0 h0' h
    obtain ⟨p, q, s⟩ := r
    go_enter Tryz.func52, Tryz.ntmps52
    go_wp2_with (go_at_call 93; refine (HCM.out _).mono ?_; rintro e w1 ⟨rfl, g1⟩; have B1 := Lib.hid (HB0.out.trans (below_of_only g1 (by simp) (by simp))); clear g1)
    go_ret
    exact ⟨ret_int (by rw [HC.out]), B1.out⟩
end Go.Proofs.YtfhhcpmoaggdmaaGreat.Rg

/- The call that makes a table: its contract. -/
namespace Go.Proofs.YtfhhcpmoaggdmaaGreat.Rg
open Go.RowKit Go.Lib Go.Sort
set_option linter.unusedVariables false

/-- The first k rows as1 a list. -/
abbrev rws (d : Nat → Reg) (k : Nat) : List Reg := Sr.lst k d
/-- What is wrong with the first k rows. -/
def chkN (d : Nat → Reg) : Nat → Int
  | 0 => 0
  | k + 1 => if chkN d k = 0 then chkV (rws d k) (d k) else chkN d k
theorem chkN_next {d : Nat → Reg} {k : Nat} (h : chkN d k = 0) : chkN d (k + 1) = chkV (rws d k) (d k) := by
  show (if chkN d k = 0 then _ else _) = _
  rw [if_pos h]
theorem chkN_stop {d : Nat → Reg} {k : Nat} (h : chkN d k ≠ 0) (j : Nat) : chkN d (k + j) = chkN d k := by
  induction j with
  | zero => rfl
  | succ j ih =>
    have e : chkN d (k + (j + 1)) = if chkN d (k + j) = 0 then chkV (rws d (k + j)) (d (k + j)) else chkN d (k + j) := rfl
    rw [e, ih, if_neg h]
theorem chkN_le {d : Nat → Reg} {k n : Nat} (h : chkN d n = 0) (hk : k ≤ n) : chkN d k = 0 := by
  rcases Decidable.em (chkN d k = 0) with e | e
  · exact e
  · obtain ⟨j, rfl⟩ : ∃ j, n = k + j := ⟨n - k, by omega⟩
    rw [chkN_stop e j] at h
    exact absurd h e
theorem chkV_zero {L : List Reg} {r : Reg} (h : chkV L r = 0) : mayB r = true ∧ lookL L r.1 = none ∧ ∀ y ∈ L, meetsB (spn r) (spn y) = false := by
  unfold chkV at h
  cases h0 : mayB r with
  | false => rw [h0] at h; simp at h
  | true =>
    cases h1 : lookL L r.1 with
    | some x => rw [h0, h1] at h; simp at h
    | none =>
      refine ⟨rfl, rfl, fun y hy => ?_⟩
      rw [h0, h1] at h
      cases h2 : meetsB (spn r) (spn y) with
      | false => rfl
      | true =>
        have : L.any (fun x => meetsB (spn r) (spn x)) = true := List.any_eq_true.2 ⟨y, hy, h2⟩
        rw [this] at h
        simp at h
theorem rws_succ (d : Nat → Reg) (k : Nat) : rws d (k + 1) = rws d k ++ [d k] := Sr.lst_succ k d
theorem chkN_may {d : Nat → Reg} {n : Nat} (h : chkN d n = 0) : AllMay (rws d n) := by
  intro r hr
  obtain ⟨k, hk, rfl⟩ := Sr.lst_mem.1 hr
  have h1 := chkN_le h (show k + 1 ≤ n by omega)
  rw [chkN_next (chkN_le h (Nat.le_of_lt hk))] at h1
  exact (chkV_zero h1).1
theorem chkN_nodup {d : Nat → Reg} {n : Nat} (h : chkN d n = 0) : ((rws d n).map (·.1)).Nodup := by
  induction n with
  | zero => simp [rws, Sr.lst]
  | succ n ih =>
    have h0 := chkN_le h (Nat.le_succ n)
    rw [chkN_next h0] at h
    have h2 := lookL_none (chkV_zero h).2.1
    rw [rws_succ, List.map_append, List.nodup_append]
    refine ⟨ih h0, by simp, ?_⟩
    intro a ha b hb
    obtain ⟨r, hr, rfl⟩ := List.mem_map.1 ha
    obtain rfl : b = (d n).1 := by simpa using hb
    exact h2 r hr
theorem chkN_apart {d : Nat → Reg} {n : Nat} (h : chkN d n = 0) {i k : Nat} (hi : i < k) (hk : k < n) : (d i).1 ≠ (d k).1 ∧ meetsB (spn (d i)) (spn (d k)) = false := by
  have h1 := chkN_le h (show k + 1 ≤ n by omega)
  rw [chkN_next (chkN_le h (Nat.le_of_lt hk))] at h1
  obtain ⟨_, h2, h3⟩ := chkV_zero h1
  have hm : d i ∈ rws d k := Sr.lst_mem.2 ⟨i, hi, rfl⟩
  exact ⟨lookL_none h2 _ hm, by rw [meetsB_symm]; exact h3 _ hm⟩

/-- 'm[r.Owner] = r' as1 an equation, for regions that draw. -/
theorem run_put_reg {w : World} {b : Nat} {L : List Reg} {p q s : Int} (hmap : MapR w b L) (hk : fitI p) (hn : lookL L p = none) (hl : L.length < maxLen) :
    ∃ w', (Instr.mapUpdate 87 (.map (some b)) (.int .i64 p) (.agg #[.int .i64 p, .int .i64 q, .int .i64 s])).run Tryz.prog w = .ok () w' ∧ MapR w' b (L ++ [(p, q, s)]) ∧ w.grownBy w' (some b) := by
  obtain ⟨D, h1, h2⟩ := hmap
  obtain ⟨w', hr, h3, h4⟩ := h1.store int_keys Tryz.underlying87 hl (int_key hk) (regElem_mk (p, q, s))
  exact ⟨w', hr, ⟨_, by simpa using h3, h2.put (p, q, s) hk (lookL_none hn)⟩, h4.grown⟩

/-- What New answers. -/
def NewV (d : Nat → Reg) (n : Nat) (w : World) (e : Ending) (w' : World) : Prop :=
  Below w.heap.size w w' ∧ ((chkN d n = 0 ∧ ∃ t, e = .returned (.tuple #[.pointer (some ⟨t, 0, none⟩), .int .i64 0]) ∧ TabV w' w.heap.size t (rws d n)) ∨ (chkN d n ≠ 0 ∧ e = .returned (.tuple #[.pointer none, .int .i64 (chkN d n)])))

set_option maxHeartbeats 1600000 in
theorem tnew_any (A : Option Addr) (n cap : Nat) (d : Nat → Reg) (w : World) (hst : Regs w A n cap d) (hf : ∀ i, i < n → Fits (d i)) (hn : n ≤ 1000000) :
    Calls Tryz.prog 29 #[.slice A n cap] w (NewV d n w) := by
  have hmm := @run_makeMap Tryz.prog
  have HST := Lib.hid hst
  have HF := Lib.hid hf
  clear hst hf
  go_enter Tryz.func29, Tryz.ntmps29
  go_wp2
  have hT0 : TabG ((w.alloc (.map #[] 0)).alloc (.cells #[.map (some w.heap.size)] 89)) w.heap.size (w.heap.size + 1) w.heap.size [] :=
    ⟨by omega, Nat.le_refl _, by simpa using Blk.new (w.alloc (.map #[] 0)) 89 #[.map (some w.heap.size)], (MapR.new w).alloc _⟩
  have hB0 : Below w.heap.size w ((w.alloc (.map #[] 0)).alloc (.cells #[.map (some w.heap.size)] 89)) := ((Below.refl _ _).alloc (Nat.le_refl _) _).alloc (by simp) _
  have HT0 := Lib.hid hT0
  have HB0 := Lib.hid hB0
  clear hT0 hB0
  go_loopw [13] (fun x wr => ∃ k : Nat, x = .int .i64 k ∧ k ≤ n ∧ Hid (chkN d k = 0) ∧ TabG wr w.heap.size (w.heap.size + 1) w.heap.size (rws d k) ∧ Below w.heap.size w wr) (fun x _ => n - (intOf x).toNat)
  case atStart => exact ⟨0, rfl, by omega, Lib.hid rfl, HT0.out, HB0.out⟩
  case round =>
    obtain ⟨k, rfl, hk, HC, hT, hb⟩ := hrel
    have HT := Lib.hid hT
    have HB := Lib.hid hb
    clear hT hb HT0 HB0
    by_cases hkn : k < n
    · obtain ⟨b, off, rfl, hbB, hcells⟩ := HST.out.2 (by omega)
      obtain ⟨a0, a1, a2⟩ := hcells k hkn
      have d0 := (HB.out.cell (p := ⟨b, off + k * 3, none⟩) hbB).trans a0
      have d1 := (HB.out.cell (p := ⟨b, off + k * 3 + 1, none⟩) hbB).trans a1
      have d2 := (HB.out.cell (p := ⟨b, off + k * 3 + 2, none⟩) hbB).trans a2
      have hfk := HF.out k hkn
      have hnx := chkN_next HC.out
      have hrs := rws_succ d k
      have hlen : (rws d k).length = k := Sr.lst_len k d
      have hck : ∀ W, TabG W w.heap.size (w.heap.size + 1) w.heap.size (rws d k) → Calls Tryz.prog 52 #[.pointer (some ⟨w.heap.size + 1, 0, none⟩), .agg #[.int .i64 (d k).1, .int .i64 (d k).2.1, .int .i64 (d k).2.2]] W (CheckV (rws d k) (d k) W) := fun W h => tcheck_any (d k) hfk h.tab (chkN_may HC.out) (chkN_nodup HC.out)
      have HLEN := Lib.hid hlen
      have HRS := Lib.hid hrs
      have HNX := Lib.hid hnx
      have HFK := Lib.hid hfk
      have HCK := Lib.hid hck
      clear hcells a0 a1 a2 hfk hnx hrs hlen hck
      obtain ⟨r, hr⟩ : ∃ r, r = d k := ⟨_, rfl⟩
      rw [← hr] at d0 d1 d2 HRS HNX HFK HCK
      have HR := Lib.hid hr
      clear hr
      have i1 : (k : Int) < (n : Int) := by omega
      obtain ⟨p, q, s⟩ := r
      simp only at d0 d1 d2
      by_cases hz : chkV (rws d k) (p, q, s) = 0
      · obtain ⟨hz1, hz2, hz3⟩ := chkV_zero hz
        have HZ2 := Lib.hid hz2
        have hv : CheckV (rws d k) (p, q, s) = fun W e W' => e = .returned (.int .i64 0) ∧ Below W.heap.size W W' := by unfold CheckV; rw [hz]
        rw [hv] at HCK
        have HZ := Lib.hid hz
        clear hz hz1 hz2 hz3 hv
        go_wp2_with (go_at_call 52; refine (HCK.out _ (HT.out.below ((Below.refl _ _).alloc (Nat.le_refl _) _))).mono ?_; rintro e w1 ⟨rfl, b1⟩; have hb1 := ((Below.refl wr.heap.size wr).alloc (Nat.le_refl _) (.cells #[.int .i64 p, .int .i64 q, .int .i64 s] 44)).trans (b1.mono (by simp)); have B1 := Lib.hid (HB.out.trans (hb1.mono HB.out.size)); have T1 := Lib.hid (HT.out.below hb1); have hblk := (Blk.new wr 44 #[.int .i64 p, .int .i64 q, .int .i64 s]).below b1 (Blk.new _ _ _).lt; have e0 := hblk.cell 0; have e1 := hblk.cell 1; have e2 := hblk.cell 2; simp at e0 e1 e2; have c0 := T1.out.2.2.1.cell 0; simp at c0; clear b1 hb1 hblk)
        obtain ⟨w2, hrun, hm2, hg2⟩ := run_put_reg (q := q) (s := s) T1.out.2.2.2.drew HFK.out.1 HZ2.out (by rw [HLEN.out]; unfold maxLen; omega)
        rw [← HRS.out] at hm2
        have HM2 := Lib.hid hm2
        have HG2 := Lib.hid (show w1.grownBy w2 (some w.heap.size) from only_trans (only_drewN (only_refl w1 _) 1) hg2)
        clear hm2 hg2 HCK
        go_region
        all_goals
          go_wp2
          go_roundw
          case rel => exact ⟨k + 1, by go_num, by omega, Lib.hid (by rw [HNX.out, HZ.out]), ⟨T1.out.1, T1.out.2.1, T1.out.2.2.1.only HG2.out (by intro e; injection e with e; omega), HM2.out⟩, B1.out.trans (below_of_only HG2.out B1.out.size (fun k hk => by injection hk with hk; omega))⟩
          case measure => simp [intOf] <;> omega
      · have hne : chkN d n ≠ 0 ∧ chkN d n = chkV (rws d k) (p, q, s) := by
          have h1 : chkN d (k + 1) ≠ 0 := by rw [HNX.out]; exact hz
          have h2 := chkN_stop h1 (n - (k + 1))
          rw [show k + 1 + (n - (k + 1)) = n by omega] at h2
          rw [h2]
          exact ⟨h1, HNX.out⟩
        have HNE := Lib.hid hne
        obtain ⟨c, hc⟩ : ∃ c, c = chkV (rws d k) (p, q, s) := ⟨_, rfl⟩
        have hv : CheckV (rws d k) (p, q, s) = fun W e W' => e = .returned (.int .i64 c) ∧ Below W.heap.size W W' := by unfold CheckV; rw [hc]
        rw [hv] at HCK
        rw [← hc] at hz
        have hz' : (c != 0) = true := by simpa using hz
        have HCC := Lib.hid hc
        clear hne hv hc hz
        go_wp2_with (go_at_call 52; refine (HCK.out _ (HT.out.below ((Below.refl _ _).alloc (Nat.le_refl _) _))).mono ?_; rintro e w1 ⟨rfl, b1⟩; have hb1 := ((Below.refl wr.heap.size wr).alloc (Nat.le_refl _) (.cells #[.int .i64 p, .int .i64 q, .int .i64 s] 44)).trans (b1.mono (by simp)); have B1 := Lib.hid (HB.out.trans (hb1.mono HB.out.size)); clear b1 hb1)
        go_ret2
        exact ⟨B1.out, .inr ⟨HNE.out.1, by rw [HNE.out.2, ← HCC.out]; rfl⟩⟩
    · obtain rfl : k = n := by omega
      go_wp2
      go_ret2
      exact ⟨HB.out, .inl ⟨HC.out, _, rfl, HT.out.tab⟩⟩
end Go.Proofs.YtfhhcpmoaggdmaaGreat.Rg

/- The document's answers for regions: Check, Find, Map: their contracts. -/
namespace Go.Proofs.YtfhhcpmoaggdmaaGreat.Rg
open Go.RowKit Go.Lib Go.Sort
set_option linter.unusedVariables false

theorem lookL_at {d : Nat → Reg} {i k : Nat} {o : Int} (hk : k < i) (h : (d k).1 = o) : (lookL (rws d i) o).isSome = true := by
  cases hl : lookL (rws d i) o with
  | some x => rfl
  | none => exact absurd h (lookL_none hl _ (Sr.lst_mem.2 ⟨k, hk, rfl⟩))
theorem lookL_not {d : Nat → Reg} {i : Nat} {o : Int} (h : ∀ k, k < i → (d k).1 ≠ o) : lookL (rws d i) o = none := by
  cases hl : lookL (rws d i) o with
  | none => rfl
  | some x =>
    obtain ⟨h1, h2⟩ := lookL_some hl
    obtain ⟨k, hk, rfl⟩ := Sr.lst_mem.1 h1
    exact absurd h2 (h k hk)
theorem chkV_same {d : Nat → Reg} {i k : Nat} {r : Reg} (h0 : mayB r = true) (hk : k < i) (h : (d k).1 = r.1) : chkV (rws d i) r = 15 := by
  simp only [chkV, h0, lookL_at hk h]
  rfl
theorem chkV_fit {d : Nat → Reg} {i k : Nat} {r : Reg} (h0 : mayB r = true) (hn : ∀ k, k < i → (d k).1 ≠ r.1) (hk : k < i) (h : meetsB (spn (d k)) (spn r) = true) : chkV (rws d i) r = 11 :=
  chkV_meet h0 (lookL_not hn) (Sr.lst_mem.2 ⟨k, hk, rfl⟩) (by rw [meetsB_symm]; exact h)
theorem chkV_ok {d : Nat → Reg} {i : Nat} {r : Reg} (h0 : mayB r = true) (hn : ∀ k, k < i → (d k).1 ≠ r.1) (hm : ∀ k, k < i → meetsB (spn (d k)) (spn r) = false) : chkV (rws d i) r = 0 :=
  chkV_end h0 (lookL_not hn) (fun y hy => by
    obtain ⟨k, hk, rfl⟩ := Sr.lst_mem.1 hy
    rw [meetsB_symm]
    exact hm k hk)
theorem chkN_bad {d : Nat → Reg} {n i : Nat} {c : Int} (hi : i < n) (h0 : chkN d i = 0) (h : chkV (rws d i) (d i) = c) (hc : c ≠ 0) : chkN d n = c := by
  have h1 : chkN d (i + 1) = c := by rw [chkN_next h0, h]
  have h2 := chkN_stop (d := d) (k := i + 1) (by rw [h1]; exact hc) (n - (i + 1))
  rw [show i + 1 + (n - (i + 1)) = n by omega] at h2
  rw [h2, h1]

def RCheckV (d : Nat → Reg) (n : Nat) (w : World) (e : Ending) (w' : World) : Prop := e = .returned (.int .i64 (chkN d n)) ∧ Below w.heap.size w w'
end Go.Proofs.YtfhhcpmoaggdmaaGreat.Rg

/- The document's Find and Map: their contracts. -/
namespace Go.Proofs.YtfhhcpmoaggdmaaGreat.Rg
open Go.RowKit Go.Lib Go.Sort
set_option linter.unusedVariables false

theorem lookL_first {d : Nat → Reg} {n k : Nat} {o : Int} (hk : k < n) (hn : ∀ i, i < k → (d i).1 ≠ o) (h : (d k).1 = o) : lookL (rws d n) o = some (d k) := by
  unfold lookL
  rw [List.find?_eq_some_iff_append]
  refine ⟨by simpa using h, rws d k, (List.range' (k + 1) (n - (k + 1))).map d, ?_, fun a ha => ?_⟩
  · unfold rws Sr.lst
    have e : List.range n = List.range k ++ k :: List.range' (k + 1) (n - (k + 1)) := by
      rw [List.range_eq_range', List.range_eq_range']
      have h1 : k :: List.range' (k + 1) (n - (k + 1)) = List.range' k (n - k) := by
        rw [show n - k = (n - (k + 1)) + 1 by omega, List.range'_succ]
      rw [h1]
      have h2 := List.range'_append_1 (s := 0) (m := k) (n := n - k)
      rw [show k + (n - k) = n by omega, Nat.zero_add] at h2
      exact h2.symm
    rw [e, List.map_append, List.map_cons]
  · obtain ⟨i, hi, rfl⟩ := Sr.lst_mem.1 ha
    simpa using hn i hi
def RFindV (d : Nat → Reg) (n : Nat) (o : Int) (w : World) (e : Ending) (w' : World) : Prop := e = .returned (.agg #[.int .i64 (fndR (rws d n) o).1, .int .i64 (fndR (rws d n) o).2.1, .int .i64 (fndR (rws d n) o).2.2]) ∧ Below w.heap.size w w'
end Go.Proofs.YtfhhcpmoaggdmaaGreat.Rg
