/- Words for the law on what is written. -/
import Derived.Test.YtblchpaoffdniabW2
namespace Go.Proofs.Ytblchpaoffdniab
open Go.RowKit Go.Lib
set_option linter.unusedVariables false

theorem Wr.below {w w' : World} {B b : Nat} {o : Option (List UInt8)} (h : Wr w B b o) (hb : Below w.heap.size w w') : Wr w' B b o := by
  cases o with
  | none =>
    have h' : Blk w b 45 #[.int .i64 2, .slice none 0 0] := h
    exact h'.below hb h'.lt
  | some l =>
    obtain ⟨v, hblk, hown⟩ := h
    have hg : w.grownBy w' none := ⟨hb.os, hb.tape, hb.output, hb.size, fun k hk _ => hb.block k hk⟩
    exact ⟨v, hblk.below hb hblk.lt, hown.kept hg (by cases hv : v.ownBlock <;> simp)⟩
theorem Wr.drewN {w : World} {B b : Nat} {o : Option (List UInt8)} (h : Wr w B b o) (n : Nat) : Wr (w.drewN n) B b o := h
theorem StepsF.below {w w' : World} {B : Nat} {A : Option Addr} {len : Nat} {D N : Nat → Int} {T : Nat → ByteArray} (h : StepsF w A len D N T) (hb : Below B w w') (hB : w.heap.size ≤ B) : StepsF w' A len D N T := fun h0 => by
  obtain ⟨b, off, hA, hlt, hc⟩ := h h0
  refine ⟨b, off, hA, Nat.lt_of_lt_of_le hlt hb.size, fun i hi => ?_⟩
  obtain ⟨c0, c1, c2⟩ := hc i hi
  exact ⟨(hb.cell (p := ⟨b, off + i * 3, none⟩) (Nat.lt_of_lt_of_le hlt hB)).trans c0, (hb.cell (p := ⟨b, off + i * 3 + 1, none⟩) (Nat.lt_of_lt_of_le hlt hB)).trans c1, (hb.cell (p := ⟨b, off + i * 3 + 2, none⟩) (Nat.lt_of_lt_of_le hlt hB)).trans c2⟩
theorem StepsF.fewer {w : World} {A : Option Addr} {len m : Nat} {D N : Nat → Int} {T : Nat → ByteArray} (h : StepsF w A len D N T) (hm : m ≤ len) : StepsF w A m D N T := fun h0 => by
  obtain ⟨b, off, hA, hlt, hc⟩ := h (by omega)
  exact ⟨b, off, hA, hlt, fun i hi => hc i (by omega)⟩
theorem wrTo_fits {D N : Nat → Int} {T : Nat → ByteArray} {k : Nat} (hk : k ≤ 40) (ht : ∀ i, i < k → (T i).size ≤ 100) : ∀ l, wrTo D N T k = some l → l.length ≤ 100000 := fun l h => by
  have := wrTo_len ht h
  omega

theorem small_succ {T : Nat → ByteArray} {k : Nat} (h : ∀ j, j < k → (T j).size ≤ 100) (hk : (T k).size ≤ 100) : ∀ j, j < k + 1 → (T j).size ≤ 100 := fun j hj => by
  rcases Nat.lt_or_ge j k with h' | h'
  · exact h j h'
  · obtain rfl : j = k := by omega
    exact hk

theorem text_small {D N : Nat → Int} {T : Nat → ByteArray} {k : Nat} (hk : k ≤ 40) (ht : ∀ i, i < k → (T i).size ≤ 100) : (textFor (wrTo D N T k)).size ≤ 4000 := by
  rcases h : wrTo D N T k with _ | l
  · decide
  · have := wrTo_len ht h
    have e : (textFor (some l)).size = l.length := by simp [textFor, ByteArray.size]
    omega

/-- Reading on, behind what was written ahead, gives just the next step's bytes. -/
theorem rd_part {S : ByteArray} {a x r : List UInt8} (h : S.data.toList = a ++ x ++ r) : rdText S a.length 0 (x.length : Int) = (⟨x.toArray⟩, a.length + x.length, 0) := by
  have hs : S.size = (a ++ x ++ r).length := by rw [← h]; simp
  rw [rdText_ok _ _ _ (by rw [hs]; simp)]
  congr 1
  apply ByteArray.ext
  apply Array.toList_inj.1
  have e : (S.extract a.length (a.length + x.length)).data.toList = ((S.data.toList).drop a.length).take x.length := by
    rw [ByteArray.data_extract, Array.toList_extract]
    simp
  rw [e, h]
  simp
theorem byte_back (n : Int) (h0 : 0 ≤ n) (h1 : n ≤ 255) : byteOf ⟨[UInt8.ofNat n.toNat].toArray⟩ = n := by
  have : byteOf ⟨[UInt8.ofNat n.toNat].toArray⟩ = ((UInt8.ofNat n.toNat).toNat : Int) := rfl
  rw [this]
  simp
  omega
theorem two_back (n : Int) (h0 : 0 ≤ n) (h1 : n ≤ 65535) : twoOf ⟨(Bt.put n).data.toList.toArray⟩ = n := by
  have : twoOf ⟨(Bt.put n).data.toList.toArray⟩ = ((UInt8.ofNat (n % 256).toNat).toNat : Int) + (256 : Int) * ((UInt8.ofNat (n / 256 % 256).toNat).toNat : Int) := rfl
  rw [this]
  simp
  omega

theorem back_byte (b : Nat) (S : ByteArray) (a r : List UInt8) (n : Int) (W : World) (hS : S.data.toList = a ++ [UInt8.ofNat n.toNat] ++ r) (hs : S.size ≤ 4000) (h0 : 0 ≤ n) (h1 : n ≤ 255) (h : Rd W b S a.length 0) :
    Calls Try.prog 19 #[.pointer (some ⟨b, 0, none⟩)] W fun e w' => e = .returned (.int .i64 n) ∧ Rd w' b S (a ++ [UInt8.ofNat n.toNat]).length 0 ∧ W.grownBy w' (some b) := by
  have hz : S.size = (a ++ [UInt8.ofNat n.toNat] ++ r).length := by rw [← hS]; simp
  have hr := byte_any b S a.length 0 W h (by rw [hz]; simp) (by omega)
  have hp := rd_part (x := [UInt8.ofNat n.toNat]) hS
  have hp' : rdText S a.length 0 1 = (⟨[UInt8.ofNat n.toNat].toArray⟩, a.length + 1, 0) := hp
  rw [hp'] at hr
  refine hr.mono fun e w' ⟨q1, q2, q3⟩ => ⟨?_, ?_, q3⟩
  · rw [q1]; exact ret_int (byte_back n h0 h1)
  · simpa using q2
theorem back_two (b : Nat) (S : ByteArray) (a r : List UInt8) (n : Int) (W : World) (hS : S.data.toList = a ++ (Bt.put n).data.toList ++ r) (hs : S.size ≤ 4000) (h0 : 0 ≤ n) (h1 : n ≤ 65535) (h : Rd W b S a.length 0) :
    Calls Try.prog 20 #[.pointer (some ⟨b, 0, none⟩)] W fun e w' => e = .returned (.int .i64 n) ∧ Rd w' b S (a ++ (Bt.put n).data.toList).length 0 ∧ W.grownBy w' (some b) := by
  have hz : S.size = (a ++ (Bt.put n).data.toList ++ r).length := by rw [← hS]; simp
  have hr := rdtwo_any b S a.length 0 W h (by rw [hz]; simp) (by omega)
  have hp := rd_part (x := (Bt.put n).data.toList) hS
  have hp' : rdText S a.length 0 2 = (⟨(Bt.put n).data.toList.toArray⟩, a.length + 2, 0) := hp
  rw [hp'] at hr
  refine hr.mono fun e w' ⟨q1, q2, q3⟩ => ⟨?_, ?_, q3⟩
  · rw [q1]; exact ret_int (two_back n h0 h1)
  · have e2 : (a ++ (Bt.put n).data.toList).length = a.length + 2 := by simp [Bt.put]
    rw [e2]
    exact q2
theorem back_text (b : Nat) (S : ByteArray) (a r : List UInt8) (t : ByteArray) (W : World) (hS : S.data.toList = a ++ t.data.toList ++ r) (hs : S.size ≤ 4000) (h : Rd W b S a.length 0) :
    Calls Try.prog 21 #[.pointer (some ⟨b, 0, none⟩), .int .i64 (t.size : Int)] W fun e w' => e = .returned (.string t) ∧ Rd w' b S (a ++ t.data.toList).length 0 ∧ W.grownBy w' (some b) := by
  have hz : S.size = (a ++ t.data.toList ++ r).length := by rw [← hS]; simp
  have hr := text_any b S a.length 0 (t.size : Int) W h (by rw [hz]; simp) (by omega)
  have hp := rd_part (x := t.data.toList) hS
  have hl : t.data.toList.length = t.size := by simp
  rw [hl] at hp
  rw [hp] at hr
  refine hr.mono fun e w' ⟨q1, q2, q3⟩ => ⟨?_, ?_, q3⟩
  · rw [q1]
  · have e2 : (a ++ t.data.toList).length = a.length + t.size := by simp
    rw [e2]
    exact q2

end Go.Proofs.Ytblchpaoffdniab
