/- slices.IndexFunc and ContainsFunc over rows of tables, by their contracts. -/
import Derived.Test.YtgkegmkedkgkcaaO3
namespace Go.Proofs.Ytgkegmkedkgkcaa
open Go.RowKit Go.Lib Go.Sort
set_option linter.unusedVariables false

/-- The first place below n that has it; -1: none. -/
def fstI (q : Nat → Bool) (n : Nat) : Int := match (List.range n).find? q with | some i => i | none => -1
def anyB (q : Nat → Bool) (n : Nat) : Bool := (List.range n).any q
theorem fstI_at {q : Nat → Bool} {n i : Nat} (hi : i < n) (h : q i = true) (hb : ∀ k, k < i → q k = false) : fstI q n = i := by
  have : (List.range n).find? q = some i := by
    rw [List.find?_range_eq_some]
    exact ⟨h, by simp [hi], fun j hj => by simp [hb j hj]⟩
  rw [fstI, this]
theorem fstI_none {q : Nat → Bool} {n : Nat} (h : ∀ k, k < n → q k = false) : fstI q n = -1 := by
  have : (List.range n).find? q = none := List.find?_eq_none.2 (by intro x hx; simp [h x (by simpa using hx)])
  rw [fstI, this]
theorem fstI_cases (q : Nat → Bool) (n : Nat) : (∃ i : Nat, i < n ∧ fstI q n = i ∧ q i = true ∧ ∀ k, k < i → q k = false) ∨ (fstI q n = -1 ∧ ∀ k, k < n → q k = false) := by
  unfold fstI
  cases h : (List.range n).find? q with
  | none =>
    refine .inr ⟨rfl, fun k hk => ?_⟩
    have := List.find?_eq_none.1 h k (by simpa using hk)
    simpa using this
  | some i =>
    have h1 := List.find?_range_eq_some.1 h
    exact .inl ⟨i, by simpa using h1.2.1, rfl, h1.1, fun k hk => by simpa using h1.2.2 k hk⟩
theorem anyB_eq (q : Nat → Bool) (n : Nat) : anyB q n = decide (0 ≤ fstI q n) := by
  rcases fstI_cases q n with ⟨i, hi, e, h1, _⟩ | ⟨e, h1⟩
  · rw [e]
    have : anyB q n = true := List.any_eq_true.2 ⟨i, by simpa using hi, h1⟩
    rw [this]
    simp
  · rw [e]
    have : anyB q n = false := List.any_eq_false.2 (by intro x hx; simp [h1 x (by simpa using hx)])
    rw [this]
    simp
theorem anyB_iff {q : Nat → Bool} {n : Nat} : anyB q n = true ↔ ∃ i, i < n ∧ q i = true := by
  unfold anyB
  rw [List.any_eq_true]
  constructor
  · rintro ⟨i, hi, h⟩
    exact ⟨i, by simpa using hi, h⟩
  · rintro ⟨i, hi, h⟩
    exact ⟨i, by simpa using hi, h⟩
theorem anyB_no {q : Nat → Bool} {n : Nat} : anyB q n = false ↔ ∀ i, i < n → q i = false := by
  unfold anyB
  rw [List.any_eq_false]
  constructor
  · intro h i hi
    simpa using h i (by simpa using hi)
  · intro h i hi
    simpa using h i (by simpa using hi)

set_option maxHeartbeats 1600000 in
theorem idxw_any (g : Nat) (p : Nat → Bool) (A : Option Addr) (n cap : Nat) (d : Nat → W3) (w : World) (hst : Row3 w A n d) (hm : n ≤ 9223372036854775807)
    (H : ∀ i, i < n → ∀ W, w.grownBy W none → Calls Try.prog 51 #[w3v (d i), .pointer (some ⟨g, 0, none⟩)] W fun e w' => e = .returned (.bool (p i)) ∧ W.grownBy w' none) :
    Calls Try.prog 59 #[.slice A n cap, .func (.func 51) #[] #[.pointer (some ⟨g, 0, none⟩)]] w fun e w' => e = .returned (.int .i64 (fstI p n)) ∧ w.grownBy w' none := by
  have HST := Lib.hid hst
  have HC := Lib.hid H
  clear hst H
  go_enter Try.func59, Try.ntmps59
  go_wp2
  go_loopw [8] (fun y wr => ∃ i : Nat, y = .int .i64 i ∧ i ≤ n ∧ Hid (∀ k, k < i → p k = false) ∧ Hid (w.grownBy wr none)) (fun y _ => n - (intOf y).toNat)
  case atStart => exact ⟨0, rfl, by omega, Lib.hid (fun k hk => absurd hk (by omega)), Lib.hid (only_refl _ _)⟩
  case round =>
    obtain ⟨i, rfl, hi, HN, HG⟩ := hrel
    by_cases hin : i < n
    · have i1 : (i : Int) < (n : Int) := by omega
      obtain ⟨b, off, rfl, hb, hc⟩ := (HST.out.grown HG.out).2 (by omega)
      obtain ⟨c0, c1, c2⟩ := hc i hin
      have HCI := Lib.hid (HC.out i hin wr HG.out)
      have HP := Lib.hid (fstI_at (q := p) hin)
      have HP2 := Lib.hid (show p i = false → ∀ k, k < i + 1 → p k = false from fun h k hk => by
        by_cases e : k = i
        · rw [e]; exact h
        · exact HN.out k (by omega))
      clear hc hb
      generalize d i = x at c0 c1 c2 HCI
      obtain ⟨x1, x2, x3⟩ := x
      simp only at c0 c1 c2
      obtain ⟨r, hr⟩ : ∃ r, r = p i := ⟨_, rfl⟩
      rw [← hr] at HCI HP HP2
      clear hr
      go_wp2_with (go_at_call 51; (with_reducible refine HCI.out.mono ?_); rintro e w2 ⟨rfl, g2⟩; have G2 := Lib.hid (only_trans HG.out g2); clear g2; cases r)
      · go_roundw
        case rel => exact ⟨i + 1, by go_num, by omega, Lib.hid (HP2.out trivial), G2⟩
        case measure => simp [intOf] <;> omega
      · go_ret
        exact ⟨ret_int (HP.out trivial HN.out).symm, G2.out⟩
    · obtain rfl : i = n := by omega
      have i1 : ¬ (i : Int) < (i : Int) := by omega
      go_wp2
      go_ret
      exact ⟨ret_int (fstI_none HN.out).symm, HG.out⟩
theorem hasw_any (g : Nat) (p : Nat → Bool) (A : Option Addr) (n cap : Nat) (d : Nat → W3) (w : World) (hst : Row3 w A n d) (hm : n ≤ 9223372036854775807)
    (H : ∀ i, i < n → ∀ W, w.grownBy W none → Calls Try.prog 51 #[w3v (d i), .pointer (some ⟨g, 0, none⟩)] W fun e w' => e = .returned (.bool (p i)) ∧ W.grownBy w' none) :
    Calls Try.prog 50 #[.slice A n cap, .func (.func 51) #[] #[.pointer (some ⟨g, 0, none⟩)]] w fun e w' => e = .returned (.bool (anyB p n)) ∧ w.grownBy w' none := by
  have HI := Lib.hid (idxw_any g p A n cap d w hst hm H)
  have HE := Lib.hid (anyB_eq p n)
  generalize fstI p n = r at HI HE
  clear hst H
  go_enter Try.func50, Try.ntmps50
  go_wp2_with (go_at_call 59; (with_reducible refine HI.out.mono ?_); rintro e w2 ⟨rfl, g2⟩; have G2 := Lib.hid g2; clear g2)
  go_ret
  exact ⟨ret_bool HE.out.symm, G2.out⟩

set_option maxHeartbeats 1600000 in
theorem idxs_any (g : Nat) (p : Nat → Bool) (A : Option Addr) (n cap : Nat) (d : Nat → W3) (w : World) (hst : Row3 w A n d) (hm : n ≤ 9223372036854775807)
    (H : ∀ i, i < n → ∀ W, w.grownBy W none → Calls Try.prog 54 #[w3v (d i), .pointer (some ⟨g, 0, none⟩)] W fun e w' => e = .returned (.bool (p i)) ∧ W.grownBy w' none) :
    Calls Try.prog 61 #[.slice A n cap, .func (.func 54) #[] #[.pointer (some ⟨g, 0, none⟩)]] w fun e w' => e = .returned (.int .i64 (fstI p n)) ∧ w.grownBy w' none := by
  have HST := Lib.hid hst
  have HC := Lib.hid H
  clear hst H
  go_enter Try.func61, Try.ntmps61
  go_wp2
  go_loopw [8] (fun y wr => ∃ i : Nat, y = .int .i64 i ∧ i ≤ n ∧ Hid (∀ k, k < i → p k = false) ∧ Hid (w.grownBy wr none)) (fun y _ => n - (intOf y).toNat)
  case atStart => exact ⟨0, rfl, by omega, Lib.hid (fun k hk => absurd hk (by omega)), Lib.hid (only_refl _ _)⟩
  case round =>
    obtain ⟨i, rfl, hi, HN, HG⟩ := hrel
    by_cases hin : i < n
    · have i1 : (i : Int) < (n : Int) := by omega
      obtain ⟨b, off, rfl, hb, hc⟩ := (HST.out.grown HG.out).2 (by omega)
      obtain ⟨c0, c1, c2⟩ := hc i hin
      have HCI := Lib.hid (HC.out i hin wr HG.out)
      have HP := Lib.hid (fstI_at (q := p) hin)
      have HP2 := Lib.hid (show p i = false → ∀ k, k < i + 1 → p k = false from fun h k hk => by
        by_cases e : k = i
        · rw [e]; exact h
        · exact HN.out k (by omega))
      clear hc hb
      generalize d i = x at c0 c1 c2 HCI
      obtain ⟨x1, x2, x3⟩ := x
      simp only at c0 c1 c2
      obtain ⟨r, hr⟩ : ∃ r, r = p i := ⟨_, rfl⟩
      rw [← hr] at HCI HP HP2
      clear hr
      go_wp2_with (go_at_call 54; (with_reducible refine HCI.out.mono ?_); rintro e w2 ⟨rfl, g2⟩; have G2 := Lib.hid (only_trans HG.out g2); clear g2; cases r)
      · go_roundw
        case rel => exact ⟨i + 1, by go_num, by omega, Lib.hid (HP2.out trivial), G2⟩
        case measure => simp [intOf] <;> omega
      · go_ret
        exact ⟨ret_int (HP.out trivial HN.out).symm, G2.out⟩
    · obtain rfl : i = n := by omega
      have i1 : ¬ (i : Int) < (i : Int) := by omega
      go_wp2
      go_ret
      exact ⟨ret_int (fstI_none HN.out).symm, HG.out⟩
theorem hass_any (g : Nat) (p : Nat → Bool) (A : Option Addr) (n cap : Nat) (d : Nat → W3) (w : World) (hst : Row3 w A n d) (hm : n ≤ 9223372036854775807)
    (H : ∀ i, i < n → ∀ W, w.grownBy W none → Calls Try.prog 54 #[w3v (d i), .pointer (some ⟨g, 0, none⟩)] W fun e w' => e = .returned (.bool (p i)) ∧ W.grownBy w' none) :
    Calls Try.prog 53 #[.slice A n cap, .func (.func 54) #[] #[.pointer (some ⟨g, 0, none⟩)]] w fun e w' => e = .returned (.bool (anyB p n)) ∧ w.grownBy w' none := by
  have HI := Lib.hid (idxs_any g p A n cap d w hst hm H)
  have HE := Lib.hid (anyB_eq p n)
  generalize fstI p n = r at HI HE
  clear hst H
  go_enter Try.func53, Try.ntmps53
  go_wp2_with (go_at_call 61; (with_reducible refine HI.out.mono ?_); rintro e w2 ⟨rfl, g2⟩; have G2 := Lib.hid g2; clear g2)
  go_ret
  exact ⟨ret_bool HE.out.symm, G2.out⟩

set_option maxHeartbeats 1600000 in
theorem idxc_any (g : Nat) (p : Nat → Bool) (A : Option Addr) (n cap : Nat) (d : Nat → Cl) (w : World) (hst : RowC w A n d) (hm : n ≤ 9223372036854775807)
    (H : ∀ i, i < n → ∀ W, w.grownBy W none → Calls Try.prog 46 #[clv (d i), .pointer (some ⟨g, 0, none⟩)] W fun e w' => e = .returned (.bool (p i)) ∧ W.grownBy w' none) :
    Calls Try.prog 57 #[.slice A n cap, .func (.func 46) #[] #[.pointer (some ⟨g, 0, none⟩)]] w fun e w' => e = .returned (.int .i64 (fstI p n)) ∧ w.grownBy w' none := by
  have HST := Lib.hid hst
  have HC := Lib.hid H
  clear hst H
  go_enter Try.func57, Try.ntmps57
  go_wp2
  go_loopw [8] (fun y wr => ∃ i : Nat, y = .int .i64 i ∧ i ≤ n ∧ Hid (∀ k, k < i → p k = false) ∧ Hid (w.grownBy wr none)) (fun y _ => n - (intOf y).toNat)
  case atStart => exact ⟨0, rfl, by omega, Lib.hid (fun k hk => absurd hk (by omega)), Lib.hid (only_refl _ _)⟩
  case round =>
    obtain ⟨i, rfl, hi, HN, HG⟩ := hrel
    by_cases hin : i < n
    · have i1 : (i : Int) < (n : Int) := by omega
      obtain ⟨b, off, rfl, hb, hc⟩ := (HST.out.grown HG.out).2 (by omega)
      obtain ⟨c0, c1, c2, c3, c4, c5, c6, c7, c8, c9⟩ := hc i hin
      have HCI := Lib.hid (HC.out i hin wr HG.out)
      have HP := Lib.hid (fstI_at (q := p) hin)
      have HP2 := Lib.hid (show p i = false → ∀ k, k < i + 1 → p k = false from fun h k hk => by
        by_cases e : k = i
        · rw [e]; exact h
        · exact HN.out k (by omega))
      clear hc hb
      generalize d i = x at c0 c1 c2 c3 c4 c5 c6 c7 c8 c9 HCI
      obtain ⟨x1, x2, x3, x4, x5, x6, x7, x8, x9, x10⟩ := x
      simp only at c0 c1 c2 c3 c4 c5 c6 c7 c8 c9
      obtain ⟨r, hr⟩ : ∃ r, r = p i := ⟨_, rfl⟩
      rw [← hr] at HCI HP HP2
      clear hr
      go_wp2_with (go_at_call 46; (with_reducible refine HCI.out.mono ?_); rintro e w2 ⟨rfl, g2⟩; have G2 := Lib.hid (only_trans HG.out g2); clear g2; cases r)
      · go_roundw
        case rel => exact ⟨i + 1, by go_num, by omega, Lib.hid (HP2.out trivial), G2⟩
        case measure => simp [intOf] <;> omega
      · go_ret
        exact ⟨ret_int (HP.out trivial HN.out).symm, G2.out⟩
    · obtain rfl : i = n := by omega
      have i1 : ¬ (i : Int) < (i : Int) := by omega
      go_wp2
      go_ret
      exact ⟨ret_int (fstI_none HN.out).symm, HG.out⟩
theorem hasc_any (g : Nat) (p : Nat → Bool) (A : Option Addr) (n cap : Nat) (d : Nat → Cl) (w : World) (hst : RowC w A n d) (hm : n ≤ 9223372036854775807)
    (H : ∀ i, i < n → ∀ W, w.grownBy W none → Calls Try.prog 46 #[clv (d i), .pointer (some ⟨g, 0, none⟩)] W fun e w' => e = .returned (.bool (p i)) ∧ W.grownBy w' none) :
    Calls Try.prog 45 #[.slice A n cap, .func (.func 46) #[] #[.pointer (some ⟨g, 0, none⟩)]] w fun e w' => e = .returned (.bool (anyB p n)) ∧ w.grownBy w' none := by
  have HI := Lib.hid (idxc_any g p A n cap d w hst hm H)
  have HE := Lib.hid (anyB_eq p n)
  generalize fstI p n = r at HI HE
  clear hst H
  go_enter Try.func45, Try.ntmps45
  go_wp2_with (go_at_call 57; (with_reducible refine HI.out.mono ?_); rintro e w2 ⟨rfl, g2⟩; have G2 := Lib.hid g2; clear g2)
  go_ret
  exact ⟨ret_bool HE.out.symm, G2.out⟩

set_option maxHeartbeats 1600000 in
theorem idxf_any (g : Nat) (p : Nat → Bool) (A : Option Addr) (n cap : Nat) (d : Nat → W3) (w : World) (hst : Row3 w A n d) (hm : n ≤ 9223372036854775807)
    (H : ∀ i, i < n → ∀ W, w.grownBy W none → Calls Try.prog 60 #[w3v (d i), .pointer (some ⟨g, 0, none⟩)] W fun e w' => e = .returned (.bool (p i)) ∧ W.grownBy w' none) :
    Calls Try.prog 59 #[.slice A n cap, .func (.func 60) #[] #[.pointer (some ⟨g, 0, none⟩)]] w fun e w' => e = .returned (.int .i64 (fstI p n)) ∧ w.grownBy w' none := by
  have HST := Lib.hid hst
  have HC := Lib.hid H
  clear hst H
  go_enter Try.func59, Try.ntmps59
  go_wp2
  go_loopw [8] (fun y wr => ∃ i : Nat, y = .int .i64 i ∧ i ≤ n ∧ Hid (∀ k, k < i → p k = false) ∧ Hid (w.grownBy wr none)) (fun y _ => n - (intOf y).toNat)
  case atStart => exact ⟨0, rfl, by omega, Lib.hid (fun k hk => absurd hk (by omega)), Lib.hid (only_refl _ _)⟩
  case round =>
    obtain ⟨i, rfl, hi, HN, HG⟩ := hrel
    by_cases hin : i < n
    · have i1 : (i : Int) < (n : Int) := by omega
      obtain ⟨b, off, rfl, hb, hc⟩ := (HST.out.grown HG.out).2 (by omega)
      obtain ⟨c0, c1, c2⟩ := hc i hin
      have HCI := Lib.hid (HC.out i hin wr HG.out)
      have HP := Lib.hid (fstI_at (q := p) hin)
      have HP2 := Lib.hid (show p i = false → ∀ k, k < i + 1 → p k = false from fun h k hk => by
        by_cases e : k = i
        · rw [e]; exact h
        · exact HN.out k (by omega))
      clear hc hb
      generalize d i = x at c0 c1 c2 HCI
      obtain ⟨x1, x2, x3⟩ := x
      simp only at c0 c1 c2
      obtain ⟨r, hr⟩ : ∃ r, r = p i := ⟨_, rfl⟩
      rw [← hr] at HCI HP HP2
      clear hr
      go_wp2_with (go_at_call 60; (with_reducible refine HCI.out.mono ?_); rintro e w2 ⟨rfl, g2⟩; have G2 := Lib.hid (only_trans HG.out g2); clear g2; cases r)
      · go_roundw
        case rel => exact ⟨i + 1, by go_num, by omega, Lib.hid (HP2.out trivial), G2⟩
        case measure => simp [intOf] <;> omega
      · go_ret
        exact ⟨ret_int (HP.out trivial HN.out).symm, G2.out⟩
    · obtain rfl : i = n := by omega
      have i1 : ¬ (i : Int) < (i : Int) := by omega
      go_wp2
      go_ret
      exact ⟨ret_int (fstI_none HN.out).symm, HG.out⟩
end Go.Proofs.Ytgkegmkedkgkcaa
