/- MemSizes: its walk. -/
import Derived.Test.YthneljkaieckeaaMM7
import Derived.Test.YthneljkaieckeaaMM8
namespace Go.Proofs.Ythneljkaieckeaa
open Go.RowKit Go.Lib Go.Sort
set_option linter.unusedVariables false

/-- A row of spans is answered. -/
def RowD (la lb : List UInt8) (W : World) (e : Ending) (w' : World) : Prop :=
  ∃ A c, e = .returned (.slice A (rTo (unl la lb) (max la.length lb.length)).1 c) ∧ Spans w' A (rTo (unl la lb) (max la.length lb.length)).1 c (rTo (unl la lb) (max la.length lb.length)).2 ∧ Below W.heap.size W w'
theorem DiffV.row {la lb : List UInt8} {W w' : World} {e : Ending} (h : DiffV la lb W e w') : RowD la lb W e w' := by
  obtain ⟨v, he, hv, hb⟩ := h
  obtain ⟨A, c, rfl, hs⟩ := hv.spans
  exact ⟨A, c, he, hs, hb⟩
theorem RDiffV.row {la lb : List UInt8} {W w' : World} {e : Ending} (h : RDiffV la lb W e w') : RowD la lb W e w' := by
  obtain ⟨v, he, hv, hb⟩ := h
  obtain ⟨A, c, rfl, hs⟩ := hv.spans
  exact ⟨A, c, he, hs, hb⟩
theorem RowD.sym {la lb : List UInt8} {W w' : World} {e : Ending} (h : RowD lb la W e w') : RowD la lb W e w' := by
  unfold RowD at h ⊢
  rw [unl_sym lb la, Nat.max_comm] at h
  exact h
theorem sameD_any (A B : Option Addr) (ca cb : Nat) (la lb : List UInt8) (w : World) (hA : Spans w A (rTo (unl la lb) (max la.length lb.length)).1 ca (rTo (unl la lb) (max la.length lb.length)).2) (hB : Spans w B (rTo (unl la lb) (max la.length lb.length)).1 cb (rTo (unl la lb) (max la.length lb.length)).2) (h1 : la.length ≤ 400) (h2 : lb.length ≤ 400) :
    Calls Try.prog 16 #[.slice A (rTo (unl la lb) (max la.length lb.length)).1 ca, .slice B (rTo (unl la lb) (max la.length lb.length)).1 cb] w fun r w' => r = .returned (.bool true) ∧ Below w.heap.size w w' :=
  same_any A B _ ca cb _ _ w hA hB (fun _ _ => rfl) (by have := rTo_le (unl la lb) (max la.length lb.length); omega)

theorem OwnN.far {w w' : World} {B g : Nat} {v : Value} {l : List Int} (h : OwnN w B v l) (hb : w.grownBy w' (some g)) (hg : g < B) : OwnN w' B v l := by
  refine World.ownsRow.kept h hb ?_
  cases hv : v.ownBlock with
  | none => exact .inl rfl
  | some k => exact .inr (fun e => by injection e with e; have := h.blk k hv; omega)
theorem OwnN.ints_of {w : World} {B n c : Nat} {A : Option Addr} {l : List Int} (h : OwnN w B (.slice A n c) l) : Ints w A c l := by
  obtain ⟨A', c', hv, hi, _⟩ := h.ints
  injection hv with e1 e2 e3
  subst e1 e3
  exact hi
theorem over_one {l : List UInt8} {b : UInt8} (h : 0 < l.length) : over l 0 [b] = l.set 0 b := by
  cases l with
  | nil => simp at h
  | cons x l => simp [over]

set_option maxRecDepth 100000 in
set_option maxHeartbeats 6400000 in
theorem sizes_walk (a b n : Int) (w : World) : Calls Try.prog 5 #[.int .i64 a, .int .i64 b, .int .i64 n] w fun e w' => e = .returned (.bool true) ∧ Below w.heap.size w w' := by
  by_cases hbig : 400 < a ∨ 400 < b
  · have hcase : (a < b ∧ max a b = b) ∨ (b ≤ a ∧ max a b = a) := by omega
    have hc2 : (400 < a) ∨ (a ≤ 400 ∧ 400 < b) := by omega
    have hbig2 : 400 < max a b := by omega
    obtain ⟨M, hM⟩ : ∃ M, M = max a b := ⟨_, rfl⟩
    rw [← hM] at hcase hbig2
    have hsz : (16384 < M ∧ ((List.replicate (sizeOf' M) (0 : UInt8)).length : Int) = 16384) ∨ (M ≤ 16384 ∧ ((List.replicate (sizeOf' M) (0 : UInt8)).length : Int) = M) := by
      rw [List.length_replicate]
      unfold sizeOf'
      by_cases h : 16384 < M
      · exact .inl ⟨h, by rw [if_neg (by omega), if_pos h]; rfl⟩
      · exact .inr ⟨by omega, by rw [if_neg (by omega), if_neg h]; omega⟩
    have hn : ∀ W, Calls Try.prog 18 #[.int .i64 M] W fun r w' => ∃ m, r = .returned (.pointer (some ⟨m, 0, none⟩)) ∧ MemV w' W.heap.size m (List.replicate (sizeOf' M) 0) ∧ Below W.heap.size W w' := fun W => mnew_any M W
    obtain ⟨L, hL⟩ : ∃ L, L = List.replicate (sizeOf' M) (0 : UInt8) := ⟨_, rfl⟩
    rw [← hL] at hsz hn
    have HN := Lib.hid hn
    clear hM hL hn hbig
    rcases hcase with ⟨h1, rfl⟩ | ⟨h1, rfl⟩
    all_goals
      rcases hc2 with h2 | ⟨h2, h3⟩
    all_goals
      rcases hsz with ⟨h4, h5⟩ | ⟨h4, h5⟩
    all_goals
      have H5 := Lib.hid h5
      clear h5
      try (exfalso; omega)
      all_goals
        go_enter Try.func5, Try.ntmps5
        go_wp2_with (first | (go_at_call 8; refine (mlive_any _).mono ?_; rintro e w1 ⟨rfl, b1⟩; have B1 := Lib.hid b1; clear b1) | (go_at_call 18; refine (HN.out _).mono ?_; rintro e w2 ⟨m, rfl, hm, b2⟩; have HM := Lib.hid hm; have B2 := Lib.hid (B1.out.trans (b2.mono B1.out.size)); clear hm b2) | (go_at_call 11; refine (size_any _ _ _ _ HM.out).mono ?_; rintro e w3 ⟨rfl, rfl⟩; rw [H5.out]))
        go_ret
        exact ⟨by first | rfl | (simp; done) | (simp; omega), B2.out⟩
  · have ha : a ≤ 400 := by omega
    have hb : b ≤ 400 := by omega
    have hsa : sizeOf' a ≤ 400 := by unfold sizeOf'; split <;> (try split) <;> omega
    have hsb : sizeOf' b ≤ 400 := by unfold sizeOf'; split <;> (try split) <;> omega
    have hna : ∀ W, Calls Try.prog 18 #[.int .i64 a] W fun r w' => ∃ m, r = .returned (.pointer (some ⟨m, 0, none⟩)) ∧ MemV w' W.heap.size m (List.replicate (sizeOf' a) 0) ∧ Below W.heap.size W w' := fun W => mnew_any a W
    have hnb : ∀ W, Calls Try.prog 18 #[.int .i64 b] W fun r w' => ∃ m, r = .returned (.pointer (some ⟨m, 0, none⟩)) ∧ MemV w' W.heap.size m (List.replicate (sizeOf' b) 0) ∧ Below W.heap.size W w' := fun W => mnew_any b W
    have hra : ∀ W, Calls Try.prog 19 #[.int .i64 a] W fun r w' => ∃ v, r = .returned v ∧ OwnN w' W.heap.size v (num (List.replicate (sizeOf' a) 0)) ∧ Below W.heap.size W w' := fun W => rmnew_any a W ha
    have hrb : ∀ W, Calls Try.prog 19 #[.int .i64 b] W fun r w' => ∃ v, r = .returned v ∧ OwnN w' W.heap.size v (num (List.replicate (sizeOf' b) 0)) ∧ Below W.heap.size W w' := fun W => rmnew_any b W hb
    have hla : (List.replicate (sizeOf' a) (0 : UInt8)).length ≤ 400 := by rw [List.length_replicate]; exact hsa
    have hlb : (List.replicate (sizeOf' b) (0 : UInt8)).length ≤ 400 := by rw [List.length_replicate]; exact hsb
    obtain ⟨za, hza⟩ : ∃ L, L = List.replicate (sizeOf' a) (0 : UInt8) := ⟨_, rfl⟩
    obtain ⟨zb, hzb⟩ : ∃ L, L = List.replicate (sizeOf' b) (0 : UInt8) := ⟨_, rfl⟩
    rw [← hza] at hna hra hla
    rw [← hzb] at hnb hrb hlb
    have HNA := Lib.hid hna
    have HNB := Lib.hid hnb
    have HRA := Lib.hid hra
    have HRB := Lib.hid hrb
    clear hna hnb hra hrb hza hzb hsa hsb hbig
    by_cases hz : za.length = 0
    · have hck : chk za.length 0 1 = 6 := by rw [hz]; decide
      have hset : ∀ W B m g, MemG W B m g za → Calls Try.prog 20 #[.pointer (some ⟨m, 0, none⟩), .int .i64 0, .int .i64 n] W fun r w' => r = .returned (.int .i64 6) ∧ MemG w' B m g za ∧ W.grownBy w' (some g) := fun W B m g h => by
        have := set_any W B m g za 0 n h (by omega)
        rw [hck, if_neg (by decide)] at this
        exact this
      have HSET := Lib.hid hset
      have hdxy : ∀ W B B' m1 m2, MemV W B m1 za → MemV W B' m2 zb → Calls Try.prog 14 #[.pointer (some ⟨m1, 0, none⟩), .pointer (some ⟨m2, 0, none⟩)] W (RowD za zb W) := fun W B B' m1 m2 h1 h2 => (mdiff_any W B B' m1 m2 za zb h1 h2 hla hlb).mono fun _ _ h => h.row
      have hdyx : ∀ W B B' m1 m2, MemV W B m1 za → MemV W B' m2 zb → Calls Try.prog 14 #[.pointer (some ⟨m2, 0, none⟩), .pointer (some ⟨m1, 0, none⟩)] W (RowD za zb W) := fun W B B' m1 m2 h1 h2 => (mdiff_any W B' B m2 m1 zb za h2 h1 hlb hla).mono fun _ _ h => h.row.sym
      have hrd : ∀ W A1 c1 A2 c2, Ints W A1 c1 (num za) → Ints W A2 c2 (num zb) → Calls Try.prog 17 #[.slice A1 (num za).length c1, .slice A2 (num zb).length c2] W (RowD za zb W) := fun W A1 c1 A2 c2 h1 h2 => (rdiff_any W A1 A2 c1 c2 _ _ za zb (num_len _) (num_len _) h1 h2 hla hlb).mono fun _ _ h => h.row
      have hsm := fun A B ca cb w hA hB => sameD_any A B ca cb za zb w hA hB hla hlb
      have HDXY := Lib.hid hdxy
      have HDYX := Lib.hid hdyx
      have HRD := Lib.hid hrd
      have HSM := Lib.hid hsm
      clear hdxy hdyx hrd hsm
      clear hset hck hz
      go_enter Try.func5, Try.ntmps5
      go_wp2_with (first
        | (go_at_call 18; (with_reducible refine (HNA.out _).mono ?_); rintro e w1 ⟨m1, rfl, hm, b1⟩; obtain ⟨g1, hg1⟩ := hm.named; have G1 := Lib.hid hg1; have B1 := Lib.hid b1; have L1 := Lib.hid hg1.lt; clear hm b1 hg1)
        | (go_at_call 18; (with_reducible refine (HNB.out _).mono ?_); rintro e w2 ⟨m2, rfl, hm, b2⟩; obtain ⟨g2, hg2⟩ := hm.named; have G2 := Lib.hid hg2; have G1a := Lib.hid (G1.out.below b2); have D := Lib.hid (⟨by have := hg2.1; have := L1.out.1; omega, by have := hg2.2.1; have := L1.out.1; omega⟩ : g2 ≠ g1 ∧ m2 ≠ g1); have B2 := Lib.hid (B1.out.trans (b2.mono B1.out.size)); have L2 := Lib.hid (Nat.lt_of_lt_of_le L1.out.1 b2.size); clear hm b2 hg2)
        | (go_at_call 19; (with_reducible refine (HRA.out _).mono ?_); rintro e w3 ⟨v3, rfl, hv, b3⟩; have O3 := Lib.hid hv; obtain ⟨A3, c3, rfl⟩ := hv.form; have B3 := Lib.hid (B2.out.trans (b3.mono B2.out.size)); have G1b := Lib.hid (G1a.out.below b3); have G2b := Lib.hid (G2.out.below b3); have L3 := Lib.hid (Nat.lt_of_lt_of_le L2.out b3.size); clear hv b3)
        | (go_at_call 19; (with_reducible refine (HRB.out _).mono ?_); rintro e w4 ⟨v4, rfl, hv, b4⟩; have O4 := Lib.hid hv; obtain ⟨A4, c4, rfl⟩ := hv.form; have O3a := Lib.hid (O3.out.below (only_far b4)); have B4 := Lib.hid (B3.out.trans (b4.mono B3.out.size)); have G1c := Lib.hid (G1b.out.below b4); have G2c := Lib.hid (G2b.out.below b4); clear hv b4)
        | (go_at_call 20; refine (HSET.out _ _ _ _ G1c.out).mono ?_; rintro e w5 ⟨rfl, hg5, hb5⟩; have G1z := Lib.hid hg5; have G2z := Lib.hid (G2c.out.far hb5 D.out.1 D.out.2); have I3 := Lib.hid ((O3a.out.far hb5 L2.out).ints_of); have I4 := Lib.hid ((O4.out.far hb5 L3.out).ints_of); have B5 := Lib.hid (B4.out.trans (G1c.out.under B4.out.size hb5)); clear hg5 hb5)
        | (go_at_call 8; refine (mlive_any _).mono ?_; rintro e w7 ⟨rfl, b7⟩; have B7 := Lib.hid (b7 : Below w5.heap.size w5 w7); clear b7)
        | (go_at_call 14; (with_reducible refine (HDXY.out _ _ _ m1 m2 (G1z.out.below B7.out).mem (G2z.out.below B7.out).mem).mono ?_); rintro e w8 ⟨A8, c8, rfl, s8, b8⟩; have S8 := Lib.hid s8; have B8 := Lib.hid (B7.out.trans (b8.mono B7.out.size)); clear s8 b8)
        | (go_at_call 17; (with_reducible refine (HRD.out _ A3 c3 A4 c4 (I3.out.below B8.out) (I4.out.below B8.out)).mono ?_); rintro e w9 ⟨A9, c9, rfl, s9, b9⟩; have S9 := Lib.hid s9; have S8a := Lib.hid (S8.out.below b9); have B9 := Lib.hid (B8.out.trans (b9.mono B8.out.size)); clear s9 b9)
        | (go_at_call 16; (with_reducible refine (HSM.out A8 A9 c8 c9 _ S8a.out S9.out).mono ?_); rintro e w10 ⟨rfl, b10⟩; have B10 := Lib.hid (B9.out.trans (b10.mono B9.out.size)); clear b10)
        | (go_at_call 14; (with_reducible refine (HDYX.out _ _ _ m1 m2 (G1z.out.below B10.out).mem (G2z.out.below B10.out).mem).mono ?_); rintro e w11 ⟨A11, c11, rfl, s11, b11⟩; have S11 := Lib.hid s11; have B11 := Lib.hid (B10.out.trans (b11.mono B10.out.size)); clear s11 b11)
        | (go_at_call 17; (with_reducible refine (HRD.out _ A3 c3 A4 c4 (I3.out.below B11.out) (I4.out.below B11.out)).mono ?_); rintro e w12 ⟨A12, c12, rfl, s12, b12⟩; have S12 := Lib.hid s12; have S11a := Lib.hid (S11.out.below b12); have B12 := Lib.hid (B11.out.trans (b12.mono B11.out.size)); clear s12 b12)
        | (go_at_call 16; (with_reducible refine (HSM.out A11 A12 c11 c12 _ S11a.out S12.out).mono ?_); rintro e w13 ⟨rfl, b13⟩; have FIN := Lib.hid (B5.out.trans ((B12.out.trans (b13.mono B12.out.size)).mono B5.out.size)); clear b13))
      go_ret
      exact ⟨rfl, FIN.out⟩
    · have hck : chk za.length 0 1 = 0 := by unfold chk; rw [if_neg (by omega), if_neg (by omega), if_neg (by omega), if_neg (by omega)]
      have hset : ∀ W B m g, MemG W B m g za → Calls Try.prog 20 #[.pointer (some ⟨m, 0, none⟩), .int .i64 0, .int .i64 n] W fun r w' => r = .returned (.int .i64 0) ∧ MemG w' B m g (za.set 0 (low8 n)) ∧ W.grownBy w' (some g) := fun W B m g h => by
        have := set_any W B m g za 0 n h (by omega)
        rw [hck, if_pos rfl] at this
        exact this
      have hwith : ∀ W A c A2, Ints W A c (num za) → Ints W A2 1 [n] → Calls Try.prog 21 #[.slice A (num za).length c, .int .i64 0, .slice A2 1 1] W fun r w' => ∃ v, r = .returned v ∧ OwnN w' W.heap.size v (num (za.set 0 (low8 n))) ∧ Below W.heap.size W w' := fun W A c A2 h1 h2 => by
        have := rwith_any A c za 0 A2 1 1 [n] rfl (num za).length (num_len za) W h1 h2 (by simp; omega) (by omega)
        have e : over za 0 ([n].map low8) = za.set 0 (low8 n) := over_one (by omega)
        rw [e] at this
        exact this
      have hl3 : (za.set 0 (low8 n)).length ≤ 400 := by simpa using hla
      obtain ⟨zc, hzc⟩ : ∃ z, z = za.set 0 (low8 n) := ⟨_, rfl⟩
      rw [← hzc] at hset hwith hl3
      have HSET := Lib.hid hset
      have HWITH := Lib.hid hwith
      have hdxy : ∀ W B B' m1 m2, MemV W B m1 zc → MemV W B' m2 zb → Calls Try.prog 14 #[.pointer (some ⟨m1, 0, none⟩), .pointer (some ⟨m2, 0, none⟩)] W (RowD zc zb W) := fun W B B' m1 m2 h1 h2 => (mdiff_any W B B' m1 m2 zc zb h1 h2 hl3 hlb).mono fun _ _ h => h.row
      have hdyx : ∀ W B B' m1 m2, MemV W B m1 zc → MemV W B' m2 zb → Calls Try.prog 14 #[.pointer (some ⟨m2, 0, none⟩), .pointer (some ⟨m1, 0, none⟩)] W (RowD zc zb W) := fun W B B' m1 m2 h1 h2 => (mdiff_any W B' B m2 m1 zb zc h2 h1 hlb hl3).mono fun _ _ h => h.row.sym
      have hrd : ∀ W A1 c1 A2 c2, Ints W A1 c1 (num zc) → Ints W A2 c2 (num zb) → Calls Try.prog 17 #[.slice A1 (num zc).length c1, .slice A2 (num zb).length c2] W (RowD zc zb W) := fun W A1 c1 A2 c2 h1 h2 => (rdiff_any W A1 A2 c1 c2 _ _ zc zb (num_len _) (num_len _) h1 h2 hl3 hlb).mono fun _ _ h => h.row
      have hsm := fun A B ca cb w hA hB => sameD_any A B ca cb zc zb w hA hB hl3 hlb
      have HDXY := Lib.hid hdxy
      have HDYX := Lib.hid hdyx
      have HRD := Lib.hid hrd
      have HSM := Lib.hid hsm
      clear hdxy hdyx hrd hsm
      clear hset hck hwith hzc
      go_enter Try.func5, Try.ntmps5
      go_wp2_with (first
        | (go_at_call 18; (with_reducible refine (HNA.out _).mono ?_); rintro e w1 ⟨m1, rfl, hm, b1⟩; obtain ⟨g1, hg1⟩ := hm.named; have G1 := Lib.hid hg1; have B1 := Lib.hid b1; have L1 := Lib.hid hg1.lt; clear hm b1 hg1)
        | (go_at_call 18; (with_reducible refine (HNB.out _).mono ?_); rintro e w2 ⟨m2, rfl, hm, b2⟩; obtain ⟨g2, hg2⟩ := hm.named; have G2 := Lib.hid hg2; have G1a := Lib.hid (G1.out.below b2); have D := Lib.hid (⟨by have := hg2.1; have := L1.out.1; omega, by have := hg2.2.1; have := L1.out.1; omega⟩ : g2 ≠ g1 ∧ m2 ≠ g1); have B2 := Lib.hid (B1.out.trans (b2.mono B1.out.size)); have L2 := Lib.hid (Nat.lt_of_lt_of_le L1.out.1 b2.size); clear hm b2 hg2)
        | (go_at_call 19; (with_reducible refine (HRA.out _).mono ?_); rintro e w3 ⟨v3, rfl, hv, b3⟩; have O3 := Lib.hid hv; obtain ⟨A3, c3, rfl⟩ := hv.form; have B3 := Lib.hid (B2.out.trans (b3.mono B2.out.size)); have G1b := Lib.hid (G1a.out.below b3); have G2b := Lib.hid (G2.out.below b3); have L3 := Lib.hid (Nat.lt_of_lt_of_le L2.out b3.size); clear hv b3)
        | (go_at_call 19; (with_reducible refine (HRB.out _).mono ?_); rintro e w4 ⟨v4, rfl, hv, b4⟩; have O4 := Lib.hid hv; obtain ⟨A4, c4, rfl⟩ := hv.form; have O3a := Lib.hid (O3.out.below (only_far b4)); have B4 := Lib.hid (B3.out.trans (b4.mono B3.out.size)); have G1c := Lib.hid (G1b.out.below b4); have G2c := Lib.hid (G2b.out.below b4); clear hv b4)
        | (go_at_call 20; refine (HSET.out _ _ _ _ G1c.out).mono ?_; rintro e w5 ⟨rfl, hg5, hb5⟩; have G1z := Lib.hid hg5; have G2z := Lib.hid (G2c.out.far hb5 D.out.1 D.out.2); have I3 := Lib.hid ((O3a.out.far hb5 L2.out).ints_of); have I4 := Lib.hid ((O4.out.far hb5 L3.out).ints_of); have B5 := Lib.hid (B4.out.trans (G1c.out.under B4.out.size hb5)); clear hg5 hb5)
        | (go_at_call 21; refine (HWITH.out _ A3 c3 _ (I3.out.below ((Below.refl _ _).alloc (Nat.le_refl _) _)) (one_int w5 n)).mono ?_; rintro e w6 ⟨v6, rfl, hv6, b6⟩; obtain ⟨A6, c6, rfl, hi6, _⟩ := hv6.ints; have b6' := ((Below.refl w5.heap.size w5).alloc (Nat.le_refl _) (.cells #[.int .i64 n] 3)).trans (b6.mono (by simp)); have I6 := Lib.hid hi6; have G1y := Lib.hid (G1z.out.below b6'); have G2y := Lib.hid (G2z.out.below b6'); have I4y := Lib.hid (I4.out.below b6'); have B6 := Lib.hid (B5.out.trans (b6'.mono B5.out.size)); clear hv6 hi6 b6 b6')
        | (go_at_call 8; refine (mlive_any _).mono ?_; rintro e w7 ⟨rfl, b7⟩; have B7 := Lib.hid (b7 : Below w6.heap.size w6 w7); clear b7)
        | (go_at_call 14; (with_reducible refine (HDXY.out _ _ _ m1 m2 (G1y.out.below B7.out).mem (G2y.out.below B7.out).mem).mono ?_); rintro e w8 ⟨A8, c8, rfl, s8, b8⟩; have S8 := Lib.hid s8; have B8 := Lib.hid (B7.out.trans (b8.mono B7.out.size)); clear s8 b8)
        | (go_at_call 17; (with_reducible refine (HRD.out _ A6 c6 A4 c4 (I6.out.below B8.out) (I4y.out.below B8.out)).mono ?_); rintro e w9 ⟨A9, c9, rfl, s9, b9⟩; have S9 := Lib.hid s9; have S8a := Lib.hid (S8.out.below b9); have B9 := Lib.hid (B8.out.trans (b9.mono B8.out.size)); clear s9 b9)
        | (go_at_call 16; (with_reducible refine (HSM.out A8 A9 c8 c9 _ S8a.out S9.out).mono ?_); rintro e w10 ⟨rfl, b10⟩; have B10 := Lib.hid (B9.out.trans (b10.mono B9.out.size)); clear b10)
        | (go_at_call 14; (with_reducible refine (HDYX.out _ _ _ m1 m2 (G1y.out.below B10.out).mem (G2y.out.below B10.out).mem).mono ?_); rintro e w11 ⟨A11, c11, rfl, s11, b11⟩; have S11 := Lib.hid s11; have B11 := Lib.hid (B10.out.trans (b11.mono B10.out.size)); clear s11 b11)
        | (go_at_call 17; (with_reducible refine (HRD.out _ A6 c6 A4 c4 (I6.out.below B11.out) (I4y.out.below B11.out)).mono ?_); rintro e w12 ⟨A12, c12, rfl, s12, b12⟩; have S12 := Lib.hid s12; have S11a := Lib.hid (S11.out.below b12); have B12 := Lib.hid (B11.out.trans (b12.mono B11.out.size)); clear s12 b12)
        | (go_at_call 16; (with_reducible refine (HSM.out A11 A12 c11 c12 _ S11a.out S12.out).mono ?_); rintro e w13 ⟨rfl, b13⟩; have FIN := Lib.hid (B6.out.trans ((B12.out.trans (b13.mono B12.out.size)).mono B6.out.size)); clear b13))
      go_ret
      exact ⟨rfl, FIN.out⟩
end Go.Proofs.Ythneljkaieckeaa
