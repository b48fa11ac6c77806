/- MemPlays: its walk. -/
import Derived.Test.YthneljkaieckeaaMP6
namespace Go.Proofs.Ythneljkaieckeaa
open Go.RowKit Go.Lib Go.Sort
set_option linter.unusedVariables false

/-- What a law answers that is true. -/
def TrueV (w : World) (e : Ending) (w' : World) : Prop := e = .returned (.bool true) ∧ Below w.heap.size w w'
theorem sizeOf'_small {n : Int} (h : n ≤ 400) : sizeOf' n ≤ 400 := by unfold sizeOf'; split <;> (try split) <;> omega
theorem whole_text (L : List UInt8) (s : Nat) (hL : L.length = s) (hs : s ≤ 400) (W : World) (B m : Nat) (h : MemV W B m L) : Calls Try.prog 10 #[.pointer (some ⟨m, 0, none⟩), .int .i64 0, .int .i64 s] W fun r w' => r = .returned (.tuple #[.string ⟨L.toArray⟩, .int .i64 0]) ∧ W = w' := by
  have h1 := mtext_any W B m L 0 s h (by omega)
  have hc : chk L.length 0 s = 0 := by unfold chk; rw [if_neg (by omega), if_neg (by omega), if_neg (by omega), if_neg (by omega)]
  rw [hc, if_pos rfl] at h1
  have e : (L.drop (0 : Int).toNat).take (s : Int).toNat = L := by rw [Int.toNat_natCast]; simp [← hL]
  rw [e] at h1
  exact h1
theorem whole_rtext (L : List UInt8) (s : Nat) (hL : L.length = s) (hs : s ≤ 400) (W : World) (A : Option Addr) (c : Nat) (h : Ints W A c (num L)) : Calls Try.prog 12 #[.slice A s c, .int .i64 0, .int .i64 s] W fun r w' => r = .returned (.string ⟨L.toArray⟩) ∧ Below W.heap.size W w' := by
  have h1 := rtext_any A c s L (by rw [num_len]; exact hL.symm) 0 s W h (by omega) (by omega)
  have e : (L.drop 0).take s = L := by simp [← hL]
  rw [e] at h1
  exact h1

set_option maxRecDepth 100000 in
set_option maxHeartbeats 3200000 in
theorem plays_walk (size : Int) (A : Option Addr) (len cap : Nat) (D P N : Nat → Int) (T : Nat → ByteArray) (w : World) (hst : DeedsF w A len D P N T) (hln : len ≤ 9223372036854775807) :
    Calls Try.prog 3 #[.int .i64 size, .slice A len cap] w (TrueV w) := by
  have hfew := few_any size A len cap D P N T w hst hln
  have hpl : (size ≤ 400 ∧ ∀ i, i < len → (T i).size ≤ 300) → Calls Try.prog 9 #[.int .i64 size, .slice A len cap] w (PlayedV (plTo D P N T (List.replicate (sizeOf' size) 0) (min len 40)) (sizeOf' size) w) := fun h => played_any size A len cap D P N T w hst h.1 h.2 hln
  have hL : (plTo D P N T (List.replicate (sizeOf' size) 0) (min len 40)).length = sizeOf' size := by rw [plTo_len, List.length_replicate]
  have hs : size ≤ 400 → sizeOf' size ≤ 400 := sizeOf'_small
  generalize plTo D P N T (List.replicate (sizeOf' size) 0) (min len 40) = L at *
  generalize sizeOf' size = s at *
  have hsz : ∀ W B m, MemV W B m L → Calls Try.prog 11 #[.pointer (some ⟨m, 0, none⟩)] W fun r w' => r = .returned (.int .i64 s) ∧ W = w' := fun W B m h => by
    have := size_any W _ m _ h
    rw [hL] at this
    exact this
  have htx := fun (h : s ≤ 400) => whole_text L s hL h
  have hrt := fun (h : s ≤ 400) => whole_rtext L s hL h
  have HFEW := Lib.hid hfew
  have HPL := Lib.hid hpl
  have HSZ := Lib.hid hsz
  have HTX := Lib.hid htx
  have HRT := Lib.hid hrt
  have HS := Lib.hid hs
  clear hfew hpl hL hs hsz htx hrt hst
  go_enter Try.func3, Try.ntmps3
  go_wp2_with (go_at_call 7; refine HFEW.out.mono ?_; rintro e w0 ⟨⟨r, rfl, hr⟩, rfl⟩; have HR := Lib.hid hr; clear hr; cases r)
  · go_wp2_with (go_at_call 8; refine (mlive_any _).mono ?_; rintro e w1 ⟨rfl, b1⟩; have B1 := Lib.hid b1; clear b1)
    go_ret
    exact ⟨rfl, B1.out⟩
  · have H4 := Lib.hid (HR.out (by first | rfl | trivial))
    have H5 := Lib.hid (HS.out H4.out.1)
    go_wp2_with (first
      | (go_at_call 9; refine (HPL.out H4.out).mono ?_; rintro e w1 ⟨m, g, A1, c1, rfl, hg, hi, ho, hb⟩; have G1 := Lib.hid hg; have I1 := Lib.hid hi; have B1 := Lib.hid hb; clear hg hi ho hb)
      | (go_at_call 11; refine (HSZ.out _ _ _ G1.out.mem).mono ?_; rintro e w2 ⟨rfl, rfl⟩)
      | (go_at_call 10; refine (HTX.out H5.out _ _ _ G1.out.mem).mono ?_; rintro e w2 ⟨rfl, rfl⟩)
      | (go_at_call 8; refine (mlive_any _).mono ?_; rintro e w3 ⟨rfl, b3⟩; have I3 := Lib.hid (I1.out.below b3); have B3 := Lib.hid (B1.out.trans (b3.mono B1.out.size)); clear b3)
      | (go_at_call 12; refine (HRT.out H5.out _ _ _ I3.out).mono ?_; rintro e w4 ⟨rfl, b4⟩; have B4 := Lib.hid (B3.out.trans (b4.mono B3.out.size)); clear b4))
    go_ret
    exact ⟨by first | rfl | (simp; done), B4.out⟩
end Go.Proofs.Ythneljkaieckeaa
