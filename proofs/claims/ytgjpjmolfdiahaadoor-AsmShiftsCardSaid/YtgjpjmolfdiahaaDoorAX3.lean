/- Package asm: words: names, numbers, registers, values, by their contracts; what a reader gives up by. -/
import Derived.Test.YtgjpjmolfdiahaaDoorAX2
import Derived.Test.YtgjpjmolfdiahaaDoorKD1
import Derived.WalkLawsBesides
import Derived.Laws.IdiomStrings
namespace Go.Proofs.YtgjpjmolfdiahaaDoor
open Go.RowKit Go.Lib
set_option linter.unusedVariables false

/-- Block g begins with the bytes l. -/
def Am.RowT (w : World) (g : Nat) (l : List UInt8) : Prop := ∀ j (hj : j < l.length), w.cell? ⟨g, j, none⟩ = some (.int .u8 (l[j].toNat : Int))
theorem Am.RowT.new (w : World) (s : ByteArray) (cap : Nat) (t : TypeId) : Am.RowT (w.drew.alloc (.cells (bytesRow s cap) t ((bytesRow s cap).size, (bytesRow s cap).size + 1))) w.heap.size s.data.toList := by
  intro j hj
  have hj' : j < s.data.size := by simpa using hj
  have c := World.cell?_alloc_mark w.drew (bytesRow s cap) t ((bytesRow s cap).size, (bytesRow s cap).size + 1) j
  have hb := bytesRow_at s cap j hj'
  exact c.trans (by rw [hb]; simp)
def Am.isL (c : UInt8) : Bool := decide (97 ≤ c.toNat) && decide (c.toNat ≤ 122)
theorem Am.isName_eq (l : List UInt8) : Am.isName l = (decide (1 ≤ l.length) && (decide (l.length ≤ 16) && l.all Am.isL)) := rfl
theorem Am.take_next {l : List UInt8} {i : Nat} (hi : i < l.length) : l.take (i + 1) = l.take i ++ [l[i]] := (List.take_append_getElem hi).symm

theorem Am.str_some {a : ByteArray} (h : a ≠ ⟨#[]⟩) : a.toList.isEmpty = false := by
  cases e : a.toList with
  | nil =>
    exfalso
    apply h
    rw [ByteArray.toList_eq] at e
    obtain ⟨⟨l⟩⟩ := a
    simp at e
    rw [e]
  | cons x y => rfl
set_option maxRecDepth 20000 in
theorem Am.isname_any (s : ByteArray) (w : World) : Calls Tryd.prog 56 #[.string s] w fun e w' => e = .returned (.bool (Am.isName s.data.toList)) ∧ w.grownBy w' none := by
  have hlen : s.data.toList.length = s.size := by simp
  by_cases he : s = ⟨#[]⟩
  · subst he
    have hr : Am.isName (⟨#[]⟩ : ByteArray).data.toList = false := by decide
    rw [hr]
    go_enter Tryd.func56, Tryd.ntmps56
    go_wp2
    go_ret
    exact ⟨rfl, only_refl _ _⟩
  have hne := Am.str_some he
  have h1 : 1 ≤ s.size := by
    rcases Nat.lt_or_ge 0 s.size with h | h
    · exact h
    · exact absurd (by obtain ⟨⟨l⟩⟩ := s; cases l with | nil => rfl | cons a b => simp [ByteArray.size] at h) he
  by_cases h16 : 16 < s.size
  · have hr : Am.isName s.data.toList = false := by
      rw [Am.isName_eq, hlen]
      have : ¬ s.size ≤ 16 := by omega
      simp [this]
    rw [hr]
    have i16 : (16 : Int) < (s.size : Int) := by omega
    clear hr hlen he
    go_enter Tryd.func56, Tryd.ntmps56
    go_wp2
    go_ret
    exact ⟨rfl, only_refl _ _⟩
  have i16 : ¬ (16 : Int) < (s.size : Int) := by omega
  have HRS := Lib.hid (show s.data.toList.all Am.isL = true → Am.isName s.data.toList = true from fun h => by
    rw [Am.isName_eq, hlen, h]
    have h2 : s.size ≤ 16 := by omega
    simp [h1, h2])
  have HRN := Lib.hid (show s.data.toList.all Am.isL = false → Am.isName s.data.toList = false from fun h => by
    rw [Am.isName_eq, h]
    simp)
  have hk := run_bytes_of_string (P := Tryd.prog) w 9 50 5 s rfl rfl rfl
  have R := Am.RowT.new w s (grownCap w s.size 0 5) 5
  have B0 : w.grownBy (w.drew.alloc (.cells (bytesRow s (grownCap w s.size 0 5)) 5 ((bytesRow s (grownCap w s.size 0 5)).size, (bytesRow s (grownCap w s.size 0 5)).size + 1))) none := only_alloc (only_drewN (only_refl _ _) 1) _
  obtain ⟨B, hB⟩ : ∃ B, B = w.heap.size := ⟨_, rfl⟩
  generalize grownCap w s.size 0 5 = cap at *
  generalize w.drew.alloc (.cells (bytesRow s cap) 5 ((bytesRow s cap).size, (bytesRow s cap).size + 1)) = w1 at *
  rw [← hB] at hk R
  clear hB
  replace R := Lib.hid R
  replace B0 := Lib.hid B0
  generalize Am.isName s.data.toList = r at *
  have HL := Lib.hid hlen
  generalize s.data.toList = l at *
  clear hlen he
  go_enter Tryd.func56, Tryd.ntmps56
  go_wp2
  go_loopw [15] (fun k wr => ∃ i : Nat, k = .int .i64 i ∧ i ≤ s.size ∧ Hid ((l.take i).all Am.isL = true) ∧ w1 = wr) (fun k _ => s.size - (intOf k).toNat)
  case atStart => exact ⟨0, rfl, by omega, Lib.hid (by simp), rfl⟩
  case round =>
    obtain ⟨i, rfl, hi, HI, rfl⟩ := hrel
    by_cases hin : i < s.size
    · have hil : i < l.length := by rw [HL.out]; exact hin
      have c0 := R.out i hil
      have i1 : (i : Int) < (s.size : Int) := by omega
      obtain ⟨c, hc⟩ : ∃ c, c = l[i] := ⟨_, rfl⟩
      rw [← hc] at c0
      have HT := Lib.hid (show (l.take (i + 1)).all Am.isL = Am.isL c from by rw [Am.take_next hil, List.all_append, HI.out, hc]; simp)
      have HA := Lib.hid (show Am.isL c = false → l.all Am.isL = false from fun h => by
        rw [List.all_eq_false]
        exact ⟨c, by rw [hc]; exact List.getElem_mem hil, by rw [h]; simp⟩)
      clear hil hc
      by_cases ha : c.toNat < 97
      · have ia : (c.toNat : Int) < 97 := by omega
        go_wp2
        go_ret
        exact ⟨by rw [HRN.out (HA.out (by unfold Am.isL; simp; omega))]; rfl, B0.out⟩
      · have ia : ¬ (c.toNat : Int) < 97 := by omega
        by_cases hb : 122 < c.toNat
        · have ib : (122 : Int) < (c.toNat : Int) := by omega
          go_wp2
          go_ret
          exact ⟨by rw [HRN.out (HA.out (by unfold Am.isL; simp; omega))]; rfl, B0.out⟩
        · have ib : ¬ (122 : Int) < (c.toNat : Int) := by omega
          have u1 : IntKind.i64.wrap ((i : Int) + 1) = (i : Int) + 1 := by rw [IntKind.wrap_i64]; omega
          go_wp2
          go_roundw
          case rel => exact ⟨i + 1, by go_num, by omega, Lib.hid (by rw [HT.out]; unfold Am.isL; simp; omega), by first | rfl | trivial⟩
          case measure => simp [intOf] <;> omega
    · obtain rfl : i = s.size := by omega
      go_wp2
      go_ret
      exact ⟨by rw [HRS.out (by have := HI.out; rw [List.take_of_length_le (by rw [HL.out]; exact Nat.le_refl _)] at this; exact this)]; rfl, B0.out⟩
end Go.Proofs.YtgjpjmolfdiahaaDoor
