/- Deeds: what few and played answer. -/
import Derived.Test.YthneljkaieckeaaMP3
import Derived.Test.YthneljkaieckeaaMP5
namespace Go.Proofs.Ythneljkaieckeaa
open Go.RowKit Go.Lib Go.Sort
set_option linter.unusedVariables false

def DeedsF (w : World) (A : Option Addr) (len : Nat) (D P N : Nat → Int) (T : Nat → ByteArray) : Prop :=
  0 < len → ∃ b off, A = some ⟨b, off, none⟩ ∧ b < w.heap.size ∧ ∀ i, i < len → w.cell? ⟨b, off + i * 4, none⟩ = some (.int .i64 (D i)) ∧ w.cell? ⟨b, off + i * 4 + 1, none⟩ = some (.int .i64 (P i)) ∧ w.cell? ⟨b, off + i * 4 + 2, none⟩ = some (.int .i64 (N i)) ∧ w.cell? ⟨b, off + i * 4 + 3, none⟩ = some (.string (T i))
theorem DeedsF.below {w w' : World} {B : Nat} {A : Option Addr} {len : Nat} {D P N : Nat → Int} {T : Nat → ByteArray} (h : DeedsF w A len D P N T) (hb : Below B w w') (hB : w.heap.size ≤ B) : DeedsF w' A len D P N T := fun h0 => by
  obtain ⟨b, off, hA, hlt, hc⟩ := h h0
  have hlB := Nat.lt_of_lt_of_le hlt hB
  refine ⟨b, off, hA, Nat.lt_of_lt_of_le hlt hb.size, fun i hi => ?_⟩
  obtain ⟨c0, c1, c2, c3⟩ := hc i hi
  exact ⟨(hb.cell (p := ⟨b, off + i * 4, none⟩) hlB).trans c0, (hb.cell (p := ⟨b, off + i * 4 + 1, none⟩) hlB).trans c1, (hb.cell (p := ⟨b, off + i * 4 + 2, none⟩) hlB).trans c2, (hb.cell (p := ⟨b, off + i * 4 + 3, none⟩) hlB).trans c3⟩

/-- The document's memory behind so many deeds. -/
def plTo (D P N : Nat → Int) (T : Nat → ByteArray) (l : List UInt8) : Nat → List UInt8
  | 0 => l
  | k + 1 => if 0 ≤ D k ∧ D k < 3 then wroteL (plTo D P N T l k) (P k) (bsOf (D k) (N k) (T k)) else plTo D P N T l k
theorem plTo_len (D P N : Nat → Int) (T : Nat → ByteArray) (l : List UInt8) (k : Nat) : (plTo D P N T l k).length = l.length := by
  induction k with
  | zero => rfl
  | succ k ih =>
    unfold plTo
    split
    · rw [wroteL_len, ih]
    · exact ih
theorem plTo_next (D P N : Nat → Int) (T : Nat → ByteArray) (l : List UInt8) (k : Nat) : plTo D P N T l (k + 1) = if 0 ≤ D k ∧ D k < 3 then wroteL (plTo D P N T l k) (P k) (bsOf (D k) (N k) (T k)) else plTo D P N T l k := rfl

/-- What few answers. -/
def FewV (size : Int) (len : Nat) (T : Nat → ByteArray) (w : World) (e : Ending) (w' : World) : Prop := (∃ r : Bool, e = .returned (.bool r) ∧ (r = true → size ≤ 400 ∧ ∀ i, i < len → (T i).size ≤ 300)) ∧ w = w'

set_option maxHeartbeats 1600000 in
theorem few_any (size : Int) (A : Option Addr) (len cap : Nat) (D P N : Nat → Int) (T : Nat → ByteArray) (w : World) (hst : DeedsF w A len D P N T) (hln : len ≤ 9223372036854775807) :
    Calls Try.prog 7 #[.int .i64 size, .slice A len cap] w (FewV size len T w) := by
  have HST := Lib.hid hst
  clear hst
  go_enter Try.func7, Try.ntmps7
  go_wp2
  go_loopw [5] (fun x wr => ∃ k : Nat, x = .int .i64 k ∧ k ≤ len ∧ Hid (∀ i, i < k → (T i).size ≤ 300) ∧ w = wr) (fun x _ => len - (intOf x).toNat)
  case atStart => exact ⟨0, rfl, by omega, Lib.hid (fun i hi => by omega), rfl⟩
  case round =>
    obtain ⟨k, rfl, hk, HS, rfl⟩ := hrel
    by_cases h1 : k < len
    · obtain ⟨b, off, rfl, hbB, hcells⟩ := HST.out (by omega)
      obtain ⟨c0, c1, c2, c3⟩ := hcells k h1
      have hsm : (T k).size ≤ 300 → ∀ i, i < k + 1 → (T i).size ≤ 300 := fun h i hi => by
        rcases Nat.lt_or_ge i k with q | q
        · exact HS.out i q
        · obtain rfl : i = k := by omega
          exact h
      have HSM := Lib.hid hsm
      clear hcells c0 c1 c2 hsm
      generalize T k = t at *
      have i1 : (k : Int) < (len : Int) := by omega
      by_cases h3 : 300 < t.size
      · have i2 : (300 : Int) < (t.size : Int) := by omega
        go_wp2
        go_ret
        exact ⟨⟨false, rfl, fun h => by cases h⟩, rfl⟩
      · have i2 : ¬ (300 : Int) < (t.size : Int) := by omega
        go_wp2
        go_roundw
        case rel => exact ⟨k + 1, by go_num, by omega, Lib.hid (HSM.out (by omega)), by first | rfl | trivial⟩
        case measure => simp [intOf] <;> omega
    · have i1 : ¬ (k : Int) < (len : Int) := by omega
      obtain rfl : k = len := by omega
      by_cases h4 : size ≤ 400
      · go_wp2
        go_ret
        exact ⟨⟨true, by first | rfl | (simp; done) | (simp; omega), fun _ => ⟨h4, HS.out⟩⟩, rfl⟩
      · go_wp2
        go_ret
        exact ⟨⟨false, by first | rfl | (simp; done) | (simp; omega), fun h => by cases h⟩, rfl⟩

/-- What played answers. -/
def PlayedV (L : List UInt8) (len : Nat) (w : World) (e : Ending) (w' : World) : Prop :=
  ∃ m g A c, e = .returned (.tuple #[.pointer (some ⟨m, 0, none⟩), .slice A len c, .bool true]) ∧ MemG w' w.heap.size m g L ∧ Ints w' A c (num L) ∧ OffI L A g ∧ Below w.heap.size w w'

set_option maxRecDepth 100000 in
set_option maxHeartbeats 6400000 in
theorem played_any (size : Int) (A : Option Addr) (len cap : Nat) (D P N : Nat → Int) (T : Nat → ByteArray) (w : World) (hst : DeedsF w A len D P N T) (hsz : size ≤ 400) (ht : ∀ i, i < len → (T i).size ≤ 300) (hln : len ≤ 9223372036854775807) :
    Calls Try.prog 9 #[.int .i64 size, .slice A len cap] w (PlayedV (plTo D P N T (List.replicate (sizeOf' size) 0) (min len 40)) (sizeOf' size) w) := by
  have hnew : ∀ W, Calls Try.prog 18 #[.int .i64 size] W fun r w' => ∃ m, r = .returned (.pointer (some ⟨m, 0, none⟩)) ∧ MemV w' W.heap.size m (List.replicate (sizeOf' size) 0) ∧ Below W.heap.size W w' := fun W => mnew_any size W
  have hrnew : ∀ W, Calls Try.prog 19 #[.int .i64 size] W fun r w' => ∃ A c, r = .returned (.slice A (sizeOf' size) c) ∧ Ints w' A c (num (List.replicate (sizeOf' size) 0)) ∧ (∀ g, g < W.heap.size → Off A g) ∧ Below W.heap.size W w' := fun W => (rmnew_any size W hsz).mono fun e w' ⟨v, he, hv, hb⟩ => by
    obtain ⟨A, c, rfl⟩ := hv.slice (n := sizeOf' size) (by rw [num_len, List.length_replicate])
    exact ⟨A, c, he, hv.ints3, fun g hg => hv.off hg, hb⟩
  have hs4 : sizeOf' size ≤ 400 := by unfold sizeOf'; split <;> (try split) <;> omega
  obtain ⟨L0, hL0⟩ : ∃ L, L = List.replicate (sizeOf' size) (0 : UInt8) := ⟨_, rfl⟩
  have hlen0 : L0.length = sizeOf' size := by rw [hL0, List.length_replicate]
  rw [← hL0] at hnew hrnew ⊢
  obtain ⟨s, hs⟩ : ∃ s, s = sizeOf' size := ⟨_, rfl⟩
  rw [← hs] at hlen0 hs4 hrnew ⊢
  have hpl : ∀ k, (plTo D P N T L0 k).length = s := fun k => by rw [plTo_len, hlen0]
  have HST := Lib.hid hst
  have HT := Lib.hid ht
  have HNEW := Lib.hid hnew
  have HRNEW := Lib.hid hrnew
  have HPL := Lib.hid hpl
  clear hst ht hnew hrnew hpl hL0 hs hlen0
  go_enter Try.func9, Try.ntmps9
  go_wp2_with (first
    | (go_at_call 18; refine (HNEW.out _).mono ?_; rintro e w1 ⟨m, rfl, hm, b1⟩; obtain ⟨g, hg⟩ := hm.named; have G1 := Lib.hid hg; have B1 := Lib.hid b1; have L1 := Lib.hid hg.lt; clear hm b1 hg)
    | (go_at_call 19; refine (HRNEW.out _).mono ?_; rintro e w2 ⟨A2, c2, rfl, hi, ho, b2⟩; have I2 := Lib.hid hi; have O2 := Lib.hid (ho g L1.out.1); have G2 := Lib.hid (G1.out.below b2); have B2 := Lib.hid (B1.out.trans (b2.mono B1.out.size)); clear hi ho b2))
  go_loopw [8, 9, 10] (fun v x o wr => ∃ (k : Nat) (A3 : Option Addr) (c3 : Nat), x = .int .i64 k ∧ v = .slice A3 s c3 ∧ k ≤ len ∧ k ≤ 40 ∧ MemG wr w.heap.size m g (plTo D P N T L0 k) ∧ Ints wr A3 c3 (num (plTo D P N T L0 k)) ∧ OffI (plTo D P N T L0 k) A3 g ∧ Below w.heap.size w wr) (fun _ x _ _ => 40 - (intOf x).toNat)
  case atStart => exact ⟨0, A2, c2, rfl, rfl, by omega, by omega, G2.out, I2.out, fun _ => O2.out, B2.out⟩
  case round =>
    obtain ⟨k, A3, c3, rfl, rfl, hk, hk4, hg, hi, ho, hb⟩ := hrel
    have G3 := Lib.hid hg
    have I3 := Lib.hid hi
    have O3 := Lib.hid ho
    have B3 := Lib.hid hb
    have HL := Lib.hid (HPL.out k)
    clear hg hi ho hb
    by_cases h1 : k < len ∧ k < 40
    · obtain ⟨h1, h2⟩ := h1
      obtain ⟨b, off, rfl, hbB, hcells⟩ := HST.out (by omega)
      obtain ⟨a0, a1, a2, a3⟩ := hcells k h1
      have d0 := (B3.out.cell (p := ⟨b, off + k * 4, none⟩) hbB).trans a0
      have d1 := (B3.out.cell (p := ⟨b, off + k * 4 + 1, none⟩) hbB).trans a1
      have d2 := (B3.out.cell (p := ⟨b, off + k * 4 + 2, none⟩) hbB).trans a2
      have d3 := (B3.out.cell (p := ⟨b, off + k * 4 + 3, none⟩) hbB).trans a3
      have hnx := plTo_next D P N T L0 k
      have htk := HT.out k h1
      have HNX := Lib.hid hnx
      have HL2 := Lib.hid (HPL.out (k + 1))
      clear hcells a0 a1 a2 a3 hnx
      generalize D k = d at *
      generalize P k = p at *
      generalize N k = n at *
      generalize T k = t at *
      generalize plTo D P N T L0 k = l at *
      have i1 : (k : Int) < (len : Int) := by omega
      have i2 : (k : Int) < 40 := by omega
      have hlen := HL.out
      by_cases hd : 0 ≤ d ∧ d < 3
      · obtain ⟨hd0, hd3⟩ := hd
        have hw := wrote_any d p n t hd0 hd3 wr w.heap.size m g s c3 A3 l G3.out I3.out O3.out hlen.symm (by omega) htk
        have hnx := HNX.out
        rw [if_pos ⟨hd0, hd3⟩] at hnx
        rw [← hnx] at hw
        have HW := Lib.hid hw
        have hz : ∀ W, MemG W w.heap.size m g (plTo D P N T L0 (k + 1)) → Calls Try.prog 11 #[.pointer (some ⟨m, 0, none⟩)] W fun r w' => r = .returned (.int .i64 s) ∧ W = w' := fun W h => by
          have := size_any W _ m _ h.mem
          rw [HL2.out] at this
          exact this
        have HZ := Lib.hid hz
        clear hw hnx hz hlen
        go_wp2_with (first
          | (go_at_call 15; refine HW.out.mono ?_; rintro e w4 ⟨A4, c4, rfl, hg4, hi4, ho4, hb4⟩; have B4 := Lib.hid (B3.out.trans (G3.out.under B3.out.size hb4)); have G4 := Lib.hid hg4; have I4 := Lib.hid hi4; have O4 := Lib.hid ho4; clear hg4 hi4 ho4 hb4)
          | (go_at_call 11; refine (HZ.out _ G4.out).mono ?_; rintro e w5 ⟨rfl, rfl⟩))
        go_roundw
        case rel => exact ⟨k + 1, A4, c4, by go_num, rfl, by omega, by omega, G4.out, I4.out, O4.out, B4.out⟩
        case measure => simp [intOf] <;> omega
      · have htl : ∀ W, MemG W w.heap.size m g l → Ints W A3 c3 (num l) → Calls Try.prog 26 #[.pointer (some ⟨m, 0, none⟩), .slice A3 s c3, .agg #[.int .i64 d, .int .i64 p, .int .i64 n, .string t]] W (ToldV W) := fun W h1 h2 => told_any d p n t W w.heap.size m s c3 A3 l h1.mem h2 hlen.symm (by omega)
        have hnx := HNX.out
        rw [if_neg hd] at hnx
        have HNX2 := Lib.hid hnx
        have HTL := Lib.hid htl
        have hz : ∀ W, MemG W w.heap.size m g l → Calls Try.prog 11 #[.pointer (some ⟨m, 0, none⟩)] W fun r w' => r = .returned (.int .i64 s) ∧ W = w' := fun W h => by
          have := size_any W _ m _ h.mem
          rw [HL.out] at this
          exact this
        have HZ := Lib.hid hz
        clear hnx htl hz hlen
        rcases Int.lt_or_le d 0 with hd0 | hd0
        all_goals
          first | (have hd1 : ¬ 0 ≤ d := by omega) | (have hd1 : ¬ d < 3 := by omega)
          clear hd
          go_wp2_with (first
            | (go_at_call 26; refine (HTL.out _ G3.out I3.out).mono ?_; rintro e w4 ⟨rfl, b4⟩; have B4 := Lib.hid (B3.out.trans (b4.mono B3.out.size)); have G4 := Lib.hid (G3.out.below b4); have I4 := Lib.hid (I3.out.below b4); clear b4)
            | (go_at_call 11; refine (HZ.out _ G4.out).mono ?_; rintro e w5 ⟨rfl, rfl⟩))
          go_roundw
          case rel => exact ⟨k + 1, A3, c3, by go_num, rfl, by omega, by omega, by rw [HNX2.out]; exact G4.out, by rw [HNX2.out]; exact I4.out, by rw [HNX2.out]; exact O3.out, B4.out⟩
          case measure => simp [intOf] <;> omega
    · have hk9 : k = min len 40 := by omega
      have HK := Lib.hid hk9
      have hcc : (len ≤ k) ∨ (k < len ∧ 40 ≤ k) := by omega
      clear hk9 h1
      rcases hcc with hc1 | ⟨hc1, hc2⟩
      all_goals
        first | (have i1 : ¬ (k : Int) < (len : Int) := by omega) | (have i1 : (k : Int) < (len : Int) := (by omega); have i2 : ¬ (k : Int) < 40 := (by omega))
        go_wp2
        go_ret3
        rw [← HK.out]
        exact ⟨m, g, A3, c3, rfl, G3.out, I3.out, O3.out, B3.out⟩
end Go.Proofs.Ythneljkaieckeaa
