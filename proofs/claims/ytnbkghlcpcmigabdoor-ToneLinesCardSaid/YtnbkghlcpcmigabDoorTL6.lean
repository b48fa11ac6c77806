/- A line that is read: silent, and each byte's symbols where they stand. -/
import Derived.Test.YtnbkghlcpcmigabDoorTL5
namespace Go.Proofs.YtnbkghlcpcmigabDoor
open Go.RowKit Go.Lib
set_option linter.unusedVariables false

/-- What symbol j of bytes says, with what stands ahead of it. -/
def sn (l : List UInt8) (j : Nat) : Nat := (l.getD (j / 4) 0).toNat / (match j % 4 with | 0 => 64 | 1 => 16 | 2 => 4 | _ => 1)
theorem lnC_get (l : List UInt8) : ∀ j, j < 4 * l.length → (lnC l)[j]? = some (Sy (sn l j)) := by
  induction l with
  | nil => intro j hj; simp at hj
  | cons x l ih =>
    intro j hj
    have e : lnC (x :: l) = four x.toNat ++ lnC l := by simp [lnC]
    rw [e]
    by_cases h4 : j < 4
    · rcases (by omega : j = 0 ∨ j = 1 ∨ j = 2 ∨ j = 3) with rfl | rfl | rfl | rfl <;> simp [four, sn]
    · obtain ⟨k, rfl⟩ : ∃ k, j = k + 4 := ⟨j - 4, by omega⟩
      have hk : k < 4 * l.length := by simp at hj; omega
      rw [List.getElem?_append_right (by simp [four]), show k + 4 - (four x.toNat).length = k by simp [four], ih k hk]
      have e1 : (k + 4) / 4 = k / 4 + 1 := by omega
      have e2 : (k + 4) % 4 = k % 4 := by omega
      simp only [sn, e1, e2, List.getD_cons_succ]

/-- The symbols of bytes, where they stand. -/
structure LnR (w : World) (g : Nat) (l : List UInt8) : Prop where
  lt : g < w.heap.size
  at' : ∀ j, j < 4 * l.length → w.cell? ⟨g, j, none⟩ = some (Sy (sn l j))
theorem LnR.below {w w' : World} {g : Nat} {l : List UInt8} (h : LnR w g l) (hb : Below w.heap.size w w') : LnR w' g l :=
  ⟨Nat.lt_of_lt_of_le h.lt hb.size, fun j hj => (hb.cell (p := ⟨g, j, none⟩) h.lt).trans (h.at' j hj)⟩
theorem OwnC.read {w : World} {B : Nat} {v : Value} {l : List UInt8} (h : OwnC w B v l) (hl : 0 < l.length) : ∃ g c, v = .slice (some ⟨g, 0, none⟩) (4 * l.length) c ∧ 4 * l.length ≤ c ∧ LnR w g l := by
  have h' : w.ownsRow B 26 1 v (4 * l.length) (lnC l) := h
  rcases h'.2 with ⟨rfl, h0⟩ | ⟨g, cap, cur, rfl, h1, h2, h3, h4, h5, h6⟩
  · have := lnC_len l
    rw [h0] at this
    simp at this
    omega
  · refine ⟨g, cap, rfl, h3, lt_of_block h2, fun j hj => ?_⟩
    rw [h'.cellAt j (by omega), lnC_get l j hj]

set_option maxRecDepth 100000 in
theorem silent_any (g n c : Nat) (l : List UInt8) (hn : n = 4 * l.length) (hb : n ≤ 1200) (w : World) (hG : Gr w) (hL : LnR w g l) : Calls Tryd.prog 13 #[.slice (some ⟨g, 0, none⟩) n c] w fun e w' => e = .returned (.int .i64 (-1)) ∧ w = w' := by
  have HS := Lib.hid (fun m => says_any m w hG)
  have HL := Lib.hid (fun j (hj : j < n) => hL.at' j (by omega))
  clear hG hL hn
  go_enter Tryd.func13, Tryd.ntmps13
  go_wp2
  go_loop [7] (fun x => ∃ i : Nat, x = .int .i64 i ∧ i ≤ n) (fun x => (n - (intOf x).toNat))
  case atStart => exact ⟨0, rfl, by omega⟩
  case round =>
    obtain ⟨i, rfl, hi⟩ := hrel
    by_cases h8 : i < n
    · have hc := HL.out i h8
      have HX := Lib.hid (HS.out (sn l i))
      have i1 : (i : Int) < (n : Int) := by omega
      have i3 : (n : Int) ≤ 1200 := by omega
      have i2 : ¬ ((sn l i % 4 : Nat) : Int) < 0 := by omega
      generalize sn l i = m at hc HX i2
      go_wp2_with (go_at_call 16; with_reducible refine HX.out.mono ?_; rintro e w' ⟨rfl, rfl⟩)
      exact ⟨⟨i + 1, by go_num, by omega⟩, by simp [intOf]; omega⟩
    · obtain rfl : i = n := by omega
      go_wp2
      go_ret
      exact ⟨rfl, rfl⟩

theorem silent_none (w : World) (c : Nat) (A : Option Addr) : Calls Tryd.prog 13 #[.slice A 0 c] w fun e w' => e = .returned (.int .i64 (-1)) ∧ w = w' := by
  go_enter Tryd.func13, Tryd.ntmps13
  go_wp2
  go_loop [7] (fun x => x = .int .i64 0) (fun x => 0)
  case atStart => rfl
  case round =>
    obtain rfl := hrel
    go_wp2
    go_ret
    exact ⟨rfl, rfl⟩

/-- Bytes of the call's own. -/
def u8Cells (l : List UInt8) : List Value := l.map fun b => .int .u8 (b.toNat : Int)
theorem u8Cells_get {l : List UInt8} {i : Nat} (h : i < l.length) : (u8Cells l)[i]? = some (.int .u8 ((l[i]).toNat : Int)) := by simp [u8Cells, h]
def OwnB (w : World) (B : Nat) (v : Value) (l : List UInt8) : Prop := w.ownsRow B 5 1 v l.length (u8Cells l)
theorem OwnB.form {w : World} {B : Nat} {v : Value} {l : List UInt8} (h : OwnB w B v l) : ∃ A c, v = .slice A l.length c := by
  have h' : w.ownsRow B 5 1 v l.length (u8Cells l) := h
  rcases h'.2 with ⟨rfl, h0⟩ | ⟨g, cap, cur, rfl, _⟩
  · have hl : l.length = 0 := by simpa [u8Cells] using h0
    exact ⟨none, 0, by rw [hl]⟩
  · exact ⟨_, cap, rfl⟩
theorem OwnB.str {w : World} {B c n : Nat} {A : Option Addr} {l : List UInt8} (h : OwnB w B (.slice A n c) l) (hn : n = l.length) : (convert 39 9 (.slice A n c)).run Tryd.prog w = .ok (.string ⟨l.toArray⟩) w := by
  subst hn
  have h' : w.ownsRow B 5 1 (.slice A l.length c) l.length (u8Cells l) := h
  rcases h'.2 with ⟨e, h0⟩ | ⟨g, cap, cur, e, _⟩
  · injection e with e1 e2 e3
    have hl : l = [] := List.eq_nil_of_length_eq_zero e2
    subst e1 hl
    exact run_convert_bytes_nil w 39 5 Tryd.underlying39 Tryd.underlying5 0 c 9 Tryd.underlying9
  · injection e with e1 e2 e3
    subst e1
    refine run_convert_bytes_back (P := Tryd.prog) w 39 9 5 ⟨g, 0, none⟩ c l Tryd.underlying39 Tryd.underlying5 Tryd.underlying9 (fun i hi => ?_)
    have ha : (⟨g, 0, none⟩ : Addr).add i = ⟨g, i, none⟩ := by unfold Addr.add; split <;> simp_all
    rw [ha, h'.cellAt i (by omega)]
    exact u8Cells_get hi
theorem OwnB.below {w w' : World} {B : Nat} {v : Value} {l : List UInt8} (h : OwnB w B v l) (hb : w.grownBy w' none) : OwnB w' B v l :=
  World.ownsRow.kept h hb (by cases hv : v.ownBlock <;> simp)
theorem one_u8 (w : World) (x : Int) : ∀ j u, [Value.int .u8 x][j]? = some u → (w.alloc (.cells #[.int .u8 x] 5)).cell? ((⟨w.heap.size, 0, none⟩ : Addr).add j) = some u := by
  intro j u hj
  match j, hj with
  | 0, hj => simp at hj; subst hj; exact (Blk.new w 5 #[.int .u8 x]).cell 0
theorem one_u8' (x : Int) : ∀ u ∈ [Value.int .u8 x], u.oneCell' = true := by
  intro u hu; simp at hu; subst hu; rfl
theorem info_u8 : ∃ i, Tryd.prog.info? 5 = some i ∧ i.zero = some (.int .u8 0) ∧ i.size = 1 ∧ i.bytes = 1 := by
  have h : (Tryd.prog.info? 5).map (fun i => (i.zero, i.size, i.bytes)) = some (some (.int .u8 0), 1, 1) := by kernel_rfl
  cases hi : Tryd.prog.info? 5 with
  | none => rw [hi] at h; cases h
  | some i =>
    rw [hi] at h
    simp only [Option.map_some, Option.some.injEq, Prod.mk.injEq] at h
    exact ⟨i, rfl, h.1, h.2.1, h.2.2⟩

/-- append of one byte. -/
theorem wpList_append_u8 {w : World} {ops : Array Oper} {rest : List Oper} {o : Oper} {a : Act} {Q : Exit → Act → World → Prop} (hgd : o.guard = none) (s x : Operand)
    (ho : o.op = .call { callee := .builtin .append, args := #[s, x], argTypes := #[39, 39] })
    (B : Nat) (v : Value) (l : List UInt8) (hs : a.eval s = v) (hV : OwnB w B v l) (g c : Nat) (y : UInt8) (hx : a.eval x = .slice (some ⟨g, 0, none⟩) 1 c) (hsp : ∀ j u, [Value.int .u8 (y.toNat : Int)][j]? = some u → w.cell? ((⟨g, 0, none⟩ : Addr).add j) = some u) (hn : l.length ≤ 1000000) (hB : B ≤ w.heap.size)
    (h : ∀ v' w', OwnB w' B v' (l ++ [y]) → Below B w w' → wpList Tryd.prog ops Q rest (a.put o.dst v') w') : wpList Tryd.prog ops Q (o :: rest) a w := by
  obtain ⟨i0, hi0, hz0, hz1, hz2⟩ := info_u8
  refine wpList_append_own w hgd s x 39 ho B 5 i0 _ 1 1 Tryd.underlying39 hi0 hz0 hz1 hz2 rfl (by decide) v l.length (u8Cells l) hs hV ⟨g, 0, none⟩ 1 c [.int .u8 (y.toNat : Int)] hx rfl hsp (one_u8' _) (by unfold maxLen; omega) (by omega) hB ?_
  intro v' w' hown hg hnil
  refine h v' w' ?_ (below_of_only hg hB (fun k hk => (World.ownsRow.lt hV k hk).1))
  show w'.ownsRow B 5 1 v' (l ++ [y]).length (u8Cells (l ++ [y]))
  have e : u8Cells (l ++ [y]) = u8Cells l ++ [.int .u8 (y.toNat : Int)] := by simp [u8Cells]
  rw [List.length_append, e]
  exact hown
end Go.Proofs.YtnbkghlcpcmigabDoor
