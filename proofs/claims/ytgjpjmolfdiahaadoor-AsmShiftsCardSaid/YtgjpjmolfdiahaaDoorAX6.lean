/- Package asm: registers, values, counts, operands, by their contracts. -/
import Derived.Test.YtgjpjmolfdiahaaDoorAX5
namespace Go.Proofs.YtgjpjmolfdiahaaDoor
open Go.RowKit Go.Lib
set_option linter.unusedVariables false

theorem Am.pre_yes {l : List UInt8} (h : l.head? = some 114) : Go.Lib.hasPrefix l [114] = true ∧ Go.Lib.trimPrefix l [114] = l.tail := by
  cases l with
  | nil => cases h
  | cons a b =>
    simp at h
    subst h
    simp [Go.Lib.trimPrefix, Go.Lib.hasPrefix]
theorem Am.pre_no {l : List UInt8} (h : ¬ l.head? = some 114) : Go.Lib.hasPrefix l [114] = false ∧ Go.Lib.trimPrefix l [114] = l := by
  cases l with
  | nil => simp [Go.Lib.trimPrefix, Go.Lib.hasPrefix]
  | cons a b =>
    simp at h
    have : ¬ (114 : UInt8) = a := fun e => h e.symm
    simp [Go.Lib.trimPrefix, Go.Lib.hasPrefix, List.isPrefixOf, this]
theorem Am.tail_size {s : ByteArray} (h : s.size ≤ 100000) : (⟨s.data.toList.tail.toArray⟩ : ByteArray).size ≤ 100000 := by
  have := Am.len s
  show s.data.toList.tail.toArray.size ≤ 100000
  rw [List.size_toArray, List.length_tail]
  omega
theorem Am.register_any (b : Nat) (ln : Int) (s : ByteArray) (hs : s.size ≤ 100000) (w : World) (h0 : w.cell? ⟨b, 0, none⟩ = some (.int .i64 ln)) :
    Calls Tryd.prog 71 #[.pointer (some ⟨b, 0, none⟩), .string s] w (Am.numP (Am.reg s.data.toList) ln w) := by
  have HC := Lib.hid (show Calls Tryd.prog 81 #[.string s, .string ⟨#[114]⟩] w (fun e w' => e = .returned (.tuple #[.string ⟨(Go.Lib.trimPrefix s.data.toList (⟨#[114]⟩ : ByteArray).data.toList).toArray⟩, .bool (Go.Lib.hasPrefix s.data.toList (⟨#[114]⟩ : ByteArray).data.toList)]) ∧ w' = w) from Any.strings_CutPrefix Tryd.cutPrefix s ⟨#[114]⟩ w)
  have HG := Lib.hid (Am.giveup_any b ln 3 w h0)
  by_cases hp : s.data.toList.head? = some 114
  · have h := Am.pre_yes hp
    have hr : Am.reg s.data.toList = Am.num s.data.toList.tail 7 := by unfold Am.reg; rw [if_pos hp]
    have HN := Lib.hid (show Calls Tryd.prog 59 #[.pointer (some ⟨b, 0, none⟩), .string ⟨s.data.toList.tail.toArray⟩, .int .i64 7] w (Am.numP (Am.num (⟨s.data.toList.tail.toArray⟩ : ByteArray).data.toList 7) ln w) from Am.number_any b ln ⟨s.data.toList.tail.toArray⟩ (Am.tail_size hs) 7 (by omega) w h0)
    rw [show (⟨#[114]⟩ : ByteArray).data.toList = [114] from rfl, h.1, h.2] at HC
    rw [show (⟨s.data.toList.tail.toArray⟩ : ByteArray).data.toList = s.data.toList.tail from by simp] at HN
    rw [hr]
    generalize (⟨s.data.toList.tail.toArray⟩ : ByteArray) = s2 at *
    cases e : Am.num s.data.toList.tail 7 with
    | none =>
      rw [e] at HN
      clear e h h0 hp hr
      unfold Am.numP at HN ⊢
      go_enter Tryd.func71, Tryd.ntmps71
      go_wp2_with (first
        | (go_at_call 81; (with_reducible refine HC.out.mono ?_); rintro r w2 ⟨rfl, rfl⟩)
        | (go_at_call 47; (with_reducible refine HG.out.mono ?_); rintro r w3 ⟨rfl, rfl⟩)
        | (go_at_call 59; (with_reducible refine HN.out.mono ?_); rintro r w3 ⟨rfl, g3⟩))
      exact ⟨rfl, rfl, g3⟩
    | some n =>
      rw [e] at HN
      clear e h h0 hp hr
      unfold Am.numP at HN ⊢
      go_enter Tryd.func71, Tryd.ntmps71
      go_wp2_with (first
        | (go_at_call 81; (with_reducible refine HC.out.mono ?_); rintro r w2 ⟨rfl, rfl⟩)
        | (go_at_call 47; (with_reducible refine HG.out.mono ?_); rintro r w3 ⟨rfl, rfl⟩)
        | (go_at_call 59; (with_reducible refine HN.out.mono ?_); rintro r w3 ⟨rfl, g3⟩))
      go_ret
      exact ⟨rfl, g3⟩
  · have h := Am.pre_no hp
    have hr : Am.reg s.data.toList = none := by unfold Am.reg; rw [if_neg hp]
    rw [show (⟨#[114]⟩ : ByteArray).data.toList = [114] from rfl, h.1] at HC
    rw [hr]
    generalize (⟨(Go.Lib.trimPrefix s.data.toList [114]).toArray⟩ : ByteArray) = s2 at *
    clear h h0 hp hr
    unfold Am.numP
    go_enter Tryd.func71, Tryd.ntmps71
    go_wp2_with (first
      | (go_at_call 81; (with_reducible refine HC.out.mono ?_); rintro r w2 ⟨rfl, rfl⟩)
      | (go_at_call 47; (with_reducible refine HG.out.mono ?_); rintro r w3 ⟨rfl, rfl⟩))
    exact ⟨rfl, rfl, only_refl _ _⟩
/-- A number and a name, or giving up. -/
def Am.valP (o : Option (Nat × List UInt8)) (ln : Int) (w : World) (r : Ending) (w' : World) : Prop := (match o with | some v => r = .returned (.tuple #[.int .i64 v.1, .string ⟨v.2.toArray⟩]) | none => r = .panicked (Am.chn ln 3)) ∧ w.grownBy w' none
theorem Am.value_any (b : Nat) (ln : Int) (s : ByteArray) (hs : s.size ≤ 100000) (w : World) (h0 : w.cell? ⟨b, 0, none⟩ = some (.int .i64 ln)) :
    Calls Tryd.prog 60 #[.pointer (some ⟨b, 0, none⟩), .string s] w (Am.valP (Am.val s.data.toList) ln w) := by
  have hlt : b < w.heap.size := World.block_lt_of_cell? w _ h0
  have HI := Lib.hid (Am.isname_any s w)
  have HN := Lib.hid (fun (W : World) (q : w.grownBy W none) => (show Calls Tryd.prog 59 #[.pointer (some ⟨b, 0, none⟩), .string s, .int .i64 65535] W (Am.numP (Am.num s.data.toList 65535) ln W) from Am.number_any b ln s hs 65535 (by omega) W (by rw [Am.kc q hlt 0]; exact h0)))
  by_cases hn : Am.isName s.data.toList = true
  · have hv : Am.val s.data.toList = some (0, s.data.toList) := by unfold Am.val; rw [if_pos hn]
    rw [hn] at HI
    rw [hv]
    clear hv h0 hn
    unfold Am.valP
    go_enter Tryd.func60, Tryd.ntmps60
    go_wp2_with (first
      | (go_at_call 56; (with_reducible refine HI.out.mono ?_); rintro r w2 ⟨rfl, g2⟩))
    go_ret2
    exact ⟨by rw [show s = ⟨s.data.toList.toArray⟩ from by simp]; simp, g2⟩
  · have hn : Am.isName s.data.toList = false := by simpa using hn
    have hv : Am.val s.data.toList = (Am.num s.data.toList 65535).map fun n => (n, []) := by unfold Am.val; rw [hn]; rfl
    rw [hn] at HI
    rw [hv]
    cases e : Am.num s.data.toList 65535 with
    | none =>
      rw [e] at HN
      clear hv h0 hn e
      unfold Am.numP at HN
      unfold Am.valP
      go_enter Tryd.func60, Tryd.ntmps60
      go_wp2_with (first
        | (go_at_call 56; (with_reducible refine HI.out.mono ?_); rintro r w2 ⟨rfl, g2⟩; have G2 := Lib.hid g2; clear g2)
        | (go_at_call 59; (with_reducible refine (HN.out _ G2.out).mono ?_); rintro r w3 ⟨rfl, g3⟩; have G3 := Lib.hid (only_trans G2.out g3); clear g3))
      exact ⟨rfl, rfl, G3.out⟩
    | some n =>
      rw [e] at HN
      rw [Option.map_some]
      clear hv h0 hn e
      unfold Am.numP at HN
      unfold Am.valP
      go_enter Tryd.func60, Tryd.ntmps60
      go_wp2_with (first
        | (go_at_call 56; (with_reducible refine HI.out.mono ?_); rintro r w2 ⟨rfl, g2⟩; have G2 := Lib.hid g2; clear g2)
        | (go_at_call 59; (with_reducible refine (HN.out _ G2.out).mono ?_); rintro r w3 ⟨rfl, g3⟩; have G3 := Lib.hid (only_trans G2.out g3); clear g3))
      go_ret2
      exact ⟨rfl, G3.out⟩
/-- Nothing, or giving up. -/
theorem Am.count_yes (b : Nat) (A : Option Addr) (n c : Nat) (w : World) : Calls Tryd.prog 57 #[.pointer (some ⟨b, 0, none⟩), .slice A n c, .int .i64 n] w fun r w' => r = .returned (.tuple #[]) ∧ w = w' := by
  go_enter Tryd.func57, Tryd.ntmps57
  go_wp2
  go_end0
  exact ⟨rfl, rfl⟩
theorem Am.count_no (b : Nat) (ln : Int) (A : Option Addr) (n c m : Nat) (hne : n ≠ m) (w : World) (h0 : w.cell? ⟨b, 0, none⟩ = some (.int .i64 ln)) : Calls Tryd.prog 57 #[.pointer (some ⟨b, 0, none⟩), .slice A n c, .int .i64 m] w fun r w' => r = .panicked (Am.chn ln 3) ∧ w = w' := by
  have HG := Lib.hid (Am.giveup_any b ln 3 w h0)
  have hi : ¬ ((n : Int) = (m : Int)) := by omega
  have hi2 : ((n : Int) == (m : Int)) = false := by rw [beq_eq_false_iff_ne]; exact hi
  clear h0
  go_enter Tryd.func57, Tryd.ntmps57
  go_wp2_with (first
    | (go_at_call 47; (with_reducible refine HG.out.mono ?_); rintro r w3 ⟨rfl, rfl⟩))
  exact ⟨rfl, rfl, rfl⟩
/-- The kinds of an instruction's words. -/
def Am.ops (k : Nat) : List Int := if k = 0 ∨ k = 15 then [] else if k = 11 then [3] else if k = 14 then [0, 2] else if rgB k then [0, 1] else [0, 3]
end Go.Proofs.YtgjpjmolfdiahaaDoor
