/- Regions: rows of three numbers in memory; what the map of a table holds. -/
import Derived.Test.YthlapnljinkekaaRR0
import Derived.Test.YthlapnljinkekaaM2
import Derived.Maps.RangeWalk
import Derived.Maps.OwnSet
import Derived.Maps.OwnOps
import Derived.Maps.Views
import Derived.Carry
namespace Go.Proofs.Ythlapnljinkekaa
open Go.RowKit Go.Lib Go.Sort
set_option linter.unusedVariables false

abbrev Reg := Int × Int × Int
/-- A region as a value. -/
abbrev rgv (r : Reg) : Value := .agg #[.int .i64 r.1, .int .i64 r.2.1, .int .i64 r.2.2]
def fitI (x : Int) : Prop := -9223372036854775808 ≤ x ∧ x ≤ 9223372036854775807
instance (x : Int) : Decidable (fitI x) := inferInstanceAs (Decidable (_ ∧ _))
def Fits (r : Reg) : Prop := fitI r.1 ∧ fitI r.2.1 ∧ fitI r.2.2
theorem fitI_wf {x : Int} (h : fitI x) : (Lit.int .i64 x).wf = true := by
  simp only [Lit.wf, Bool.and_eq_true, decide_eq_true_eq]
  have e1 : IntKind.i64.min = -9223372036854775808 := by kernel_rfl
  have e2 : IntKind.i64.max = 9223372036854775807 := by kernel_rfl
  unfold fitI at h
  omega
theorem fitI_of {x : Int} (w : (Lit.int .i64 x).wf = true) : fitI x := by
  simp only [Lit.wf, Bool.and_eq_true, decide_eq_true_eq] at w
  have e1 : IntKind.i64.min = -9223372036854775808 := by kernel_rfl
  have e2 : IntKind.i64.max = 9223372036854775807 := by kernel_rfl
  unfold fitI
  omega

/-- Regions that came in, or were made: nil, or a row of cells. -/
def Regs (w : World) (A : Option Addr) (len cap : Nat) (d : Nat → Reg) : Prop :=
  (A = none → len = 0 ∧ cap = 0) ∧ (0 < len → ∃ b off, A = some ⟨b, off, none⟩ ∧ b < w.heap.size ∧ ∀ i, i < len → w.cell? ⟨b, off + i * 3, none⟩ = some (.int .i64 (d i).1) ∧ w.cell? ⟨b, off + i * 3 + 1, none⟩ = some (.int .i64 (d i).2.1) ∧ w.cell? ⟨b, off + i * 3 + 2, none⟩ = some (.int .i64 (d i).2.2))
theorem Regs.under {w w' : World} {B : Nat} {A : Option Addr} {len cap : Nat} {d : Nat → Reg} (h : Regs w A len cap d) (hb : Below B w w') (hB : w.heap.size ≤ B) : Regs w' A len cap d := by
  refine ⟨h.1, fun hp => ?_⟩
  obtain ⟨b, off, h1, h2, h3⟩ := h.2 hp
  have hlB := Nat.lt_of_lt_of_le h2 hB
  refine ⟨b, off, h1, Nat.lt_of_lt_of_le h2 hb.size, fun i hi => ?_⟩
  obtain ⟨c0, c1, c2⟩ := h3 i hi
  exact ⟨(hb.cell (p := ⟨b, off + i * 3, none⟩) hlB).trans c0, (hb.cell (p := ⟨b, off + i * 3 + 1, none⟩) hlB).trans c1, (hb.cell (p := ⟨b, off + i * 3 + 2, none⟩) hlB).trans c2⟩
theorem Regs.below {w w' : World} {A : Option Addr} {len cap : Nat} {d : Nat → Reg} (h : Regs w A len cap d) (hb : Below w.heap.size w w') : Regs w' A len cap d := h.under hb (Nat.le_refl _)
theorem Regs.cut {w : World} {A : Option Addr} {len cap : Nat} {d : Nat → Reg} (h : Regs w A len cap d) (m : Nat) (hm : m ≤ len) : Regs w A m cap d := by
  refine ⟨fun hn => ⟨by have := (h.1 hn).1; omega, (h.1 hn).2⟩, fun hp => ?_⟩
  obtain ⟨b, off, h1, h2, h3⟩ := h.2 (by omega)
  exact ⟨b, off, h1, h2, fun i hi => h3 i (by omega)⟩

/-- How a region reads as a map's element. -/
def regDat (r : Reg) : DataW Unit := .agg [.lit (.int .i64 r.1), .lit (.int .i64 r.2.1), .lit (.int .i64 r.2.2)]
def regElem (v : Value) : Option (DataW Unit × List MemPlace) :=
  match v with
  | .agg cs => (match cs.toList with
    | [.int .i64 a, .int .i64 b, .int .i64 c] => some (regDat (a, b, c), [])
    | _ => none)
  | _ => none
theorem regElem_mk (r : Reg) : regElem (rgv r) = some (regDat r, []) := rfl
theorem regElem_inv {v : Value} {z : DataW Unit × List MemPlace} (h : regElem v = some z) : ∃ r : Reg, v = rgv r ∧ z = (regDat r, []) := by
  unfold regElem at h
  split at h
  · rename_i cs
    split at h
    · rename_i a b c e
      injection h with h
      refine ⟨(a, b, c), ?_, h.symm⟩
      have : cs = #[.int .i64 a, .int .i64 b, .int .i64 c] := by
        apply Array.toList_inj.1
        rw [e]
      rw [this]
    · cases h
  · cases h
theorem regDat_inj {r s : Reg} (h : regDat r = regDat s) : r = s := by
  obtain ⟨a, b, c⟩ := r
  obtain ⟨a', b', c'⟩ := s
  simp only [regDat] at h
  injection h with h
  injection h with h1 h
  injection h with h2 h
  injection h with h3 h
  injection h1 with h1
  injection h2 with h2
  injection h3 with h3
  injection h1 with _ h1
  injection h2 with _ h2
  injection h3 with _ h3
  rw [h1, h2, h3]

theorem int_keys : Maps.Keyed Try.prog 3 := Maps.int_keyed Try.underlying3
theorem int_key {x : Int} (h : fitI x) : keyOf Try.prog 3 (.int .i64 x) = some (.int .i64 x) := Maps.keyOf_int_mk Try.underlying3 (fitI_wf h)
theorem int_key_lit {x : Int} (h : fitI x) : WideAt.IsKeyLit (.int .i64 x) := int_keys.key (int_key h)
theorem reg_zero (w : World) : (zeroValue 30).run Try.prog w = .ok (.agg #[.int .i64 0, .int .i64 0, .int .i64 0]) w := by kernel_rfl

/-- The region of an owner among some. -/
def lookL (L : List Reg) (o : Int) : Option Reg := L.find? fun r => decide (r.1 = o)
theorem lookL_some {L : List Reg} {o : Int} {r : Reg} (h : lookL L o = some r) : r ∈ L ∧ r.1 = o := by
  have h1 := List.mem_of_find?_eq_some h
  have h2 := List.find?_some h
  exact ⟨h1, by simpa using h2⟩
theorem lookL_none {L : List Reg} {o : Int} (h : lookL L o = none) : ∀ r ∈ L, r.1 ≠ o := by
  intro r hr
  have := List.find?_eq_none.1 h r hr
  simpa using this

/-- What the datum of a map says of the regions L. -/
def Says (D : DataW Unit) (L : List Reg) : Prop :=
  Maps.IsMap D ∧ (∀ o : Int, fitI o → Maps.has D (.int .i64 o) = L.any (fun r => decide (r.1 = o))) ∧ (∀ r ∈ L, fitI r.1 ∧ ∀ z, D.atKey (.int .i64 r.1) z = regDat r)
theorem Says.nil : Says (.map []) [] := ⟨Maps.isMap_empty, fun o _ => rfl, fun r hr => by cases hr⟩
theorem Says.put {D : DataW Unit} {L : List Reg} (h : Says D L) (r : Reg) (hf : fitI r.1) (hn : ∀ x ∈ L, x.1 ≠ r.1) : Says (D.put (.int .i64 r.1) (regDat r)) (L ++ [r]) := by
  obtain ⟨h1, h2, h3⟩ := h
  refine ⟨h1.put _ _, fun o ho => ?_, fun x hx => ?_⟩
  · by_cases e : o = r.1
    · subst e
      rw [Maps.has_put_same h1 (int_key_lit hf)]
      simp
    · have hne : (Lit.int .i64 o) ≠ .int .i64 r.1 := fun h => e (by injection h)
      rw [Maps.has_put_other hne, h2 o ho]
      have : ¬ r.1 = o := fun h => e h.symm
      simp [this]
  · rcases List.mem_append.1 hx with hx | hx
    · obtain ⟨f, g⟩ := h3 x hx
      refine ⟨f, fun z => ?_⟩
      have hne : (Lit.int .i64 x.1) ≠ .int .i64 r.1 := fun h => hn x hx (by injection h)
      rw [Maps.atKey_put_other hne, g]
    · obtain rfl : x = r := by simpa using hx
      exact ⟨hf, fun z => Maps.atKey_put_same h1 (int_key_lit hf) _ _⟩
theorem Says.has_some {D : DataW Unit} {L : List Reg} (h : Says D L) {o : Int} {r : Reg} (hr : lookL L o = some r) : Maps.has D (.int .i64 o) = true ∧ ∀ z, D.atKey (.int .i64 o) z = regDat r := by
  obtain ⟨h1, rfl⟩ := lookL_some hr
  refine ⟨?_, (h.2.2 r h1).2⟩
  rw [h.2.1 r.1 (h.2.2 r h1).1, List.any_eq_true]
  exact ⟨r, h1, by simp⟩
theorem Says.has_none {D : DataW Unit} {L : List Reg} (h : Says D L) {o : Int} (ho : fitI o) (hr : lookL L o = none) : Maps.has D (.int .i64 o) = false := by
  rw [h.2.1 o ho]
  have := lookL_none hr
  simpa using fun a b c hm => this (a, b, c) hm

/-- Block b is a map of the regions L. -/
def MapR (w : World) (b : Nat) (L : List Reg) : Prop := ∃ D : DataW Unit, w.ownsMap Try.prog 3 regElem b L.length D ∧ Says D L
theorem MapR.lt {w : World} {b : Nat} {L : List Reg} (h : MapR w b L) : b < w.heap.size := by
  obtain ⟨D, h1, _⟩ := h
  exact h1.lt
theorem MapR.only {w w' : World} {b : Nat} {L : List Reg} {row : Option Nat} (h : MapR w b L) (hb : w.grownBy w' row) (hne : some b ≠ row) : MapR w' b L := by
  obtain ⟨D, h1, h2⟩ := h
  exact ⟨D, h1.kept hb hne, h2⟩
theorem MapR.below {w w' : World} {b : Nat} {L : List Reg} (h : MapR w b L) (hb : Below w.heap.size w w') : MapR w' b L := h.only (only_far hb) (by simp)
theorem MapR.new (w : World) : MapR (w.alloc (.map #[] 0)) w.heap.size [] := ⟨_, World.ownsMap_made w _ _ _, Says.nil⟩
theorem MapR.drewN {w : World} {b : Nat} {L : List Reg} (h : MapR w b L) (n : Nat) : MapR (w.drewN n) b L := h.only (only_drewN (only_refl _ none) n) (by simp)

/-- A table lies in block t, its map in block b, both from B on. -/
def TabG (w : World) (B t b : Nat) (L : List Reg) : Prop := B ≤ t ∧ B ≤ b ∧ Blk w t 51 #[.map (some b)] ∧ MapR w b L
def TabV (w : World) (B t : Nat) (L : List Reg) : Prop := ∃ b, TabG w B t b L
theorem TabG.only {w w' : World} {B t b : Nat} {L : List Reg} {row : Option Nat} (h : TabG w B t b L) (hb : w.grownBy w' row) (h1 : some t ≠ row) (h2 : some b ≠ row) : TabG w' B t b L := ⟨h.1, h.2.1, h.2.2.1.only hb h1, h.2.2.2.only hb h2⟩
theorem TabG.below {w w' : World} {B t b : Nat} {L : List Reg} (h : TabG w B t b L) (hb : Below w.heap.size w w') : TabG w' B t b L := h.only (only_far hb) (by simp) (by simp)
theorem TabV.below {w w' : World} {B t : Nat} {L : List Reg} (h : TabV w B t L) (hb : Below w.heap.size w w') : TabV w' B t L := by
  obtain ⟨b, h⟩ := h
  exact ⟨b, h.below hb⟩
theorem TabG.tab {w : World} {B t b : Nat} {L : List Reg} (h : TabG w B t b L) : TabV w B t L := ⟨b, h⟩

/-! ### at the operation -/
section
variable {w : World} {ops : Array Oper} {rest : List Oper} {o : Oper} {a : Act} {Q : Exit → Act → World → Prop}

/-- 'r, ok := m[k]', there. -/
theorem wpList_look_some (hg : o.guard = none) (m x : Operand) (hop : o.op = Op.lookup 49 m x true) (b : Nat) (L : List Reg) (k p q s : Int) (hm : a.eval m = .map (some b)) (hmap : MapR w b L) (hx : a.eval x = .int .i64 k) (hk : fitI k) (hl : lookL L k = some (p, q, s))
    (hK : wpList Try.prog ops Q rest (a.put o.dst (.tuple #[.agg #[.int .i64 p, .int .i64 q, .int .i64 s], .bool true])) w) : wpList Try.prog ops Q (o :: rest) a w := by
  obtain ⟨D, h1, h2⟩ := hmap
  obtain ⟨e1, e2⟩ := h2.has_some hl
  refine wpList_lookup_own_ok w hg m x _ hop 3 30 int_keys Try.underlying49 regElem (reg_zero w) (regDat (0, 0, 0)) [] rfl b L.length D hm h1 (.int .i64 k) (.int .i64 k) hx (int_key hk) ?_
  intro v ps hv
  rw [e2] at hv
  obtain ⟨r, rfl, hz⟩ := regElem_inv hv
  injection hz with hz _
  obtain rfl := regDat_inj hz
  rw [e1]
  exact hK
/-- .. not there. -/
theorem wpList_look_none (hg : o.guard = none) (m x : Operand) (hop : o.op = Op.lookup 49 m x true) (b : Nat) (L : List Reg) (k : Int) (hm : a.eval m = .map (some b)) (hmap : MapR w b L) (hx : a.eval x = .int .i64 k) (hk : fitI k) (hl : lookL L k = none)
    (hK : wpList Try.prog ops Q rest (a.put o.dst (.tuple #[.agg #[.int .i64 0, .int .i64 0, .int .i64 0], .bool false])) w) : wpList Try.prog ops Q (o :: rest) a w := by
  obtain ⟨D, h1, h2⟩ := hmap
  have e1 := h2.has_none hk hl
  refine wpList_lookup_own_ok w hg m x _ hop 3 30 int_keys Try.underlying49 regElem (reg_zero w) (regDat (0, 0, 0)) [] rfl b L.length D hm h1 (.int .i64 k) (.int .i64 k) hx (int_key hk) ?_
  intro v ps hv
  rw [Maps.atKey_of_not_has e1] at hv
  obtain ⟨r, rfl, hz⟩ := regElem_inv hv
  injection hz with hz _
  obtain rfl := regDat_inj hz
  rw [e1]
  exact hK
/-- 'm[r.Owner] = r', where it is not there yet. -/
theorem wpList_put_reg (hg : o.guard = none) (m x v : Operand) (hop : o.op = Op.mapUpdate 49 m x v) (b : Nat) (L : List Reg) (p q s : Int) (hm : a.eval m = .map (some b)) (hmap : MapR w b L) (hx : a.eval x = .int .i64 p) (hv : a.eval v = .agg #[.int .i64 p, .int .i64 q, .int .i64 s]) (hk : fitI p) (hn : ∀ y ∈ L, y.1 ≠ p) (hl : L.length < maxLen)
    (hK : ∀ w', MapR w' b (L ++ [(p, q, s)]) → w.grownBy w' (some b) → wpList Try.prog ops Q rest (a.put o.dst undef) w') : wpList Try.prog ops Q (o :: rest) a w := by
  obtain ⟨D, h1, h2⟩ := hmap
  refine wpList_mapUpdate_in w hg m x v _ hop 3 30 int_keys Try.underlying49 regElem b L.length D hm h1 hl _ _ (.int .i64 p) hx hv (int_key hk) (regDat (p, q, s)) [] rfl ?_
  intro w' h3 h4
  exact hK w' ⟨_, by simpa using h3, h2.put (p, q, s) hk hn⟩ h4.grown

/-- A range over a map of regions under way: rem is still to come. -/
def Rng (w : World) (b r : Nat) (L rem : List Reg) (cnt : Nat) : Prop :=
  ∃ D left, w.ranges Try.prog 3 regElem b r L.length D left cnt ∧ Says D L ∧ (∀ kl, left kl = true → ∃ x ∈ rem, kl = .int .i64 x.1) ∧ (∀ x ∈ rem, left (.int .i64 x.1) = true) ∧ (∀ x ∈ rem, x ∈ L) ∧ (rem.map (·.1)).Nodup
theorem Rng.map {w : World} {b r : Nat} {L rem : List Reg} {cnt : Nat} (h : Rng w b r L rem cnt) : MapR w b L := by
  obtain ⟨D, left, h1, h2, _⟩ := h
  exact ⟨D, h1.owns, h2⟩
theorem Rng.only {w w' : World} {b r : Nat} {L rem : List Reg} {cnt : Nat} {row : Option Nat} (h : Rng w b r L rem cnt) (hb : w.grownBy w' row) (h1 : some b ≠ row) (h2 : some r ≠ row) : Rng w' b r L rem cnt := by
  obtain ⟨D, left, h3, h4⟩ := h
  exact ⟨D, left, h3.kept hb h1 h2, h4⟩
theorem Rng.left_eq {w : World} {b r : Nat} {L rem : List Reg} {cnt : Nat} (h : Rng w b r L rem cnt) : w.rangeLeft b r = cnt := by
  obtain ⟨D, left, h3, h4⟩ := h
  exact h3.left_eq

theorem wpList_range_reg (hg : o.guard = none) (m : Operand) (hop : o.op = Op.range 49 m) (b : Nat) (L : List Reg) (hm : a.eval m = .map (some b)) (hmap : MapR w b L) (hnd : (L.map (·.1)).Nodup)
    (hK : ∀ w' cnt, Rng w' b w.heap.size L L cnt → w.grownBy w' none → w'.heap.size = w.heap.size + 1 → wpList Try.prog ops Q rest (a.put o.dst (.pointer (some ⟨w.heap.size, 0, none⟩))) w') : wpList Try.prog ops Q (o :: rest) a w := by
  obtain ⟨D, h1, h2⟩ := hmap
  refine wpList_range_own w hg m _ hop 3 30 int_keys Try.underlying49 regElem b L.length D hm h1 ?_
  intro w' h3 h4 h5
  refine hK w' _ ⟨D, Maps.has D, h3, h2, fun kl hkl => ?_, fun x hx => ?_, fun x hx => hx, hnd⟩ h4 h5
  · obtain ⟨es, clock, _, F, _, hD⟩ := h1
    rw [hD] at hkl
    obtain ⟨p, hp, hpk⟩ := List.any_eq_true.1 hkl
    obtain ⟨y, hy, rfl⟩ := List.mem_map.1 (mem_sorted.1 hp)
    obtain ⟨z, hz⟩ := F.reads y hy
    rw [WideElems.rg_of hz] at hpk
    have hk := WideElems.rd_key hz
    obtain ⟨x, hx1, hx2, hx3⟩ := Maps.keyOf_int_inv Try.underlying3 hk
    have hkx := WideAt.sameKey_eq hpk
    have hf := fitI_of hx3
    have hh : Maps.has D (.int .i64 x) = true := by
      rw [hD]
      rw [← hx2, hkx]
      exact hkl
    rw [h2.2.1 x hf] at hh
    obtain ⟨r, hr, hrx⟩ := List.any_eq_true.1 hh
    have hrx' : r.1 = x := by simpa using hrx
    exact ⟨r, hr, by rw [hrx', ← hkx, hx2]⟩
  · rw [h2.2.1 x.1 (h2.2.2 x hx).1, List.any_eq_true]
    exact ⟨x, hx, by simp⟩

theorem wpList_next_reg (hg : o.guard = none) (it : Operand) (hop : o.op = Op.next it false) (b r : Nat) (L rem : List Reg) (cnt : Nat) (hit : a.eval it = .pointer (some ⟨r, 0, none⟩)) (h : Rng w b r L rem cnt)
    (hDone : rem = [] → wpList Try.prog ops Q rest (a.put o.dst (.tuple #[.bool false])) w)
    (hMore : ∀ (p q s : Int) (rem' : List Reg) (w' : World) (cnt' : Nat), rem.Perm ((p, q, s) :: rem') → Rng w' b r L rem' cnt' → cnt' < cnt → w.grownBy w' (some r) → w'.heap.size = w.heap.size →
      (Instr.entry (.pointer (some ⟨r, 0, none⟩))).run Try.prog w' = .ok (.tuple #[.int .i64 p, .agg #[.int .i64 p, .int .i64 q, .int .i64 s]]) w' → wpList Try.prog ops Q rest (a.put o.dst (.tuple #[.bool true, .int .i64 p, .agg #[.int .i64 p, .int .i64 q, .int .i64 s]])) w') : wpList Try.prog ops Q (o :: rest) a w := by
  obtain ⟨D, left, h1, h2, h3, h4, h5, h6⟩ := h
  refine wpList_next_ranges (β := Reg) w hg it hop 3 int_keys regElem (Value.int .i64) rgv (fun key kl hkey => by obtain ⟨x, rfl, _⟩ := Maps.keyOf_int_inv Try.underlying3 hkey; exact ⟨x, rfl⟩) (fun v y hv => by obtain ⟨c, rfl, _⟩ := regElem_inv hv; exact ⟨c, rfl⟩) b r L.length D left cnt hit h1 ?_ ?_
  · intro _ hl
    refine hDone ?_
    cases rem with
    | nil => rfl
    | cons x rem =>
      have := h4 x (List.mem_cons_self ..)
      rw [hl] at this
      cases this
  · intro x c kl y w' cnt' hkey hlk hv hat hrg hlt hgr hsz hen
    obtain ⟨x', ex, rfl, hwx⟩ := Maps.keyOf_int_inv Try.underlying3 hkey
    injection ex with _ ex
    subst ex
    obtain ⟨z, hz, hzk⟩ := h3 _ hlk
    have hzx : x = z.1 := by injection hzk
    subst hzx
    rw [regElem_mk] at hv
    injection hv with hv
    subst hv
    have hzc := (h2.2.2 z (h5 z hz)).2 (regDat z)
    rw [hat] at hzc
    obtain rfl := regDat_inj hzc
    have hp := List.perm_cons_erase hz
    refine hMore c.1 c.2.1 c.2.2 (rem.erase c) w' cnt' hp ⟨D, _, hrg, h2, fun kl hkl => ?_, fun x hx => ?_, fun x hx => h5 x (List.mem_of_mem_erase hx), ?_⟩ hlt hgr hsz hen
    · simp only [Bool.and_eq_true] at hkl
      obtain ⟨u, hu, rfl⟩ := h3 kl hkl.1
      rcases List.mem_cons.1 ((hp.mem_iff).1 hu) with e | e
      · subst e
        have := hkl.2
        rw [WideAt.sameKey_self (int_key_lit (h2.2.2 u (h5 u hu)).1)] at this
        cases this
      · exact ⟨u, e, rfl⟩
    · have hx' := List.mem_of_mem_erase hx
      simp only [Bool.and_eq_true]
      refine ⟨h4 x hx', ?_⟩
      have hnd := (hp.map (·.1)).nodup_iff.1 h6
      have hne : (Lit.int .i64 x.1) ≠ .int .i64 c.1 := fun e => by
        injection e with _ e
        rw [List.map_cons, List.nodup_cons] at hnd
        exact hnd.1 (List.mem_map.2 ⟨x, hx, e⟩)
      rw [Maps.sameKey_ne hne]
      rfl
    · have hnd := (hp.map (·.1)).nodup_iff.1 h6
      rw [List.map_cons, List.nodup_cons] at hnd
      exact hnd.2
end
end Go.Proofs.Ythlapnljinkekaa
