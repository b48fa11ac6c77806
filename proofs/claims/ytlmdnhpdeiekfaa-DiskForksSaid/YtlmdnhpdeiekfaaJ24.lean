/- What the two disks tell: they refuse alike; the bytes of a row are the sectors' bytes. -/
import Derived.Test.YtlmdnhpdeiekfaaJ23
namespace Go.Proofs.Ytlmdnhpdeiekfaa
open Go.RowKit Go.Lib
set_option linter.unusedVariables false

/-- Both refuse alike. -/
theorem ask_eq {d : Nat → Prt} {n : Nat} (h : newE d n = 0) (j : Jb) : askR d n j = askD (tblN d n) j := by
  have hm := newE_may h
  unfold askR askD
  rcases ownD_cases d n j.1 with ⟨i, hi, e, hj⟩ | ⟨e, hj⟩
  · have hmi := mayB_iff.1 (hm i hi)
    have ht : tblN d n j.1.toNat = d i := by
      rw [← hj]
      exact tbl_own h hi
    have hn : noT (tblN d n) j.1 = false := by
      unfold noT
      rw [ht]
      simp
      omega
    rw [e, hn, if_neg (by omega), ht]
    simp
  · have hn : noT (tblN d n) j.1 = true := by
      unfold noT
      simp only [decide_eq_true_eq]
      by_cases h1 : j.1 < 1 ∨ 8 < j.1
      · omega
      · rcases tbl_cases (d := d) (n := n) hm j.1.toNat with ⟨h5, _⟩ | ⟨i, hi, _, h6⟩
        · exact .inr (.inr (by rw [h5]))
        · exact absurd (by omega) (hj i hi)
    rw [e, hn]
    simp
theorem start_eq {d : Nat → Prt} {n : Nat} (h : newE d n = 0) (bz : Bool) (tick : Int) (j : Jb) : startR d n bz tick j = startV (tblN d n) bz tick j := by
  unfold startR startV
  rw [ask_eq h]
theorem secL_zero (a m : Nat) : secL (fun _ => 0) a m = List.replicate m 0 := by
  apply List.ext_getElem
  · simp [secL]
  · intro i h1 h2
    simp [secL]
theorem secL_cut (S : Nat → UInt8) (a m q k : Nat) (h : q + k ≤ m) : ((secL S a m).drop q).take k = secL S (a + q) k := by
  apply List.ext_getElem
  · simp [secL]
    omega
  · intro i h1 h2
    simp [secL, Nat.add_assoc]
theorem secL_get (S : Nat → UInt8) (a m i : Nat) : (secL S a m)[i]? = if i < m then some (S (a + i)) else none := by
  by_cases h : i < m
  · simp [secL, h]
  · simp [secL, h]
theorem secL_put_in (S : Nat → UInt8) (a m q : Nat) (t : ByteArray) (h : q + t.size ≤ m) : secL (putS S (a + q) t.data.toList) a m = wrL (secL S a m) q t := by
  have ht : t.data.toList.length = t.size := by rw [Array.length_toList]; rfl
  have hl1 : ((secL S a m).take q).length = q := by simp [secL]; omega
  apply List.ext_getElem?
  intro i
  unfold wrL
  rw [secL_get, List.getElem?_append, List.getElem?_append, List.getElem?_take, List.getElem?_drop, secL_get, secL_get, List.length_append, hl1, ht]
  unfold putS
  rw [ht]
  by_cases c1 : i < q
  · rw [if_pos (by omega), if_neg (by omega), if_pos (by omega), if_pos c1, if_pos c1, if_pos (by omega)]
  · by_cases c2 : i < q + t.size
    · have c4 : i - q < t.data.toList.length := by rw [ht]; omega
      rw [if_pos (by omega), if_pos (by omega), if_pos c2, if_neg c1, List.getElem?_eq_getElem c4, show a + i - (a + q) = i - q by omega, List.getD_eq_getElem?_getD, List.getElem?_eq_getElem c4]
      rfl
    · rw [if_neg (by omega : ¬ (a + q ≤ a + i ∧ a + i < a + q + t.size)), if_neg c2, show q + t.size + (i - (q + t.size)) = i by omega]
theorem secL_put_off (S : Nat → UInt8) (a m p : Nat) (t : List UInt8) (h : a + m ≤ p ∨ p + t.length ≤ a) : secL (putS S p t) a m = secL S a m := by
  apply List.ext_getElem?
  intro i
  rw [secL_get, secL_get]
  by_cases c : i < m
  · unfold putS
    rw [if_pos c, if_pos c, if_neg (by omega)]
  · rw [if_neg c, if_neg c]
end Go.Proofs.Ytlmdnhpdeiekfaa
