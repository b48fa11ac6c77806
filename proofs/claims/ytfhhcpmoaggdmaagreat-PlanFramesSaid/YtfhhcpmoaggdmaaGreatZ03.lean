import Derived.Test.YtfhhcpmoaggdmaaGreatZ02
import Derived.Deep.RegionWith
import Derived.Test.YtfhhcpmoaggdmaaGreatZ01
import Derived.ShutString
import Derived.ChangeOld
set_option linter.all false
/- slices.IndexFunc and ContainsFunc over rows of tables, by their contracts. -/
namespace Go.Proofs.YtfhhcpmoaggdmaaGreat
open Go.RowKit Go.Lib Go.Sort
set_option linter.unusedVariables false

/-- The first place below n that has it; -1: none. -/
def fstI (q : Nat → Bool) (n : Nat) : Int := match (List.range n).find? q with | some i => i | none => -1
def anyB (q : Nat → Bool) (n : Nat) : Bool := (List.range n).any q
theorem fstI_at {q : Nat → Bool} {n i : Nat} (hi : i < n) (h : q i = true) (hb : ∀ k, k < i → q k = false) : fstI q n = i := by
  have : (List.range n).find? q = some i := by
    rw [List.find?_range_eq_some]
    exact ⟨h, by simp [hi], fun j hj => by simp [hb j hj]⟩
  rw [fstI, this]
theorem fstI_none {q : Nat → Bool} {n : Nat} (h : ∀ k, k < n → q k = false) : fstI q n = -1 := by
  have : (List.range n).find? q = none := List.find?_eq_none.2 (by intro x hx; simp [h x (by simpa using hx)])
  rw [fstI, this]
theorem fstI_cases (q : Nat → Bool) (n : Nat) : (∃ i : Nat, i < n ∧ fstI q n = i ∧ q i = true ∧ ∀ k, k < i → q k = false) ∨ (fstI q n = -1 ∧ ∀ k, k < n → q k = false) := by
  unfold fstI
  cases h : (List.range n).find? q with
  | none =>
    refine .inr ⟨rfl, fun k hk => ?_⟩
    have := List.find?_eq_none.1 h k (by simpa using hk)
    simpa using this
  | some i =>
    have h1 := List.find?_range_eq_some.1 h
    exact .inl ⟨i, by simpa using h1.2.1, rfl, h1.1, fun k hk => by simpa using h1.2.2 k hk⟩
theorem anyB_eq (q : Nat → Bool) (n : Nat) : anyB q n = decide (0 ≤ fstI q n) := by
  rcases fstI_cases q n with ⟨i, hi, e, h1, _⟩ | ⟨e, h1⟩
  · rw [e]
    have : anyB q n = true := List.any_eq_true.2 ⟨i, by simpa using hi, h1⟩
    rw [this]
    simp
  · rw [e]
    have : anyB q n = false := List.any_eq_false.2 (by intro x hx; simp [h1 x (by simpa using hx)])
    rw [this]
    simp
theorem anyB_iff {q : Nat → Bool} {n : Nat} : anyB q n = true ↔ ∃ i, i < n ∧ q i = true := by
  unfold anyB
  rw [List.any_eq_true]
  constructor
  · rintro ⟨i, hi, h⟩
    exact ⟨i, by simpa using hi, h⟩
  · rintro ⟨i, hi, h⟩
    exact ⟨i, by simpa using hi, h⟩
theorem anyB_no {q : Nat → Bool} {n : Nat} : anyB q n = false ↔ ∀ i, i < n → q i = false := by
  unfold anyB
  rw [List.any_eq_false]
  constructor
  · intro h i hi
    simpa using h i (by simpa using hi)
  · intro h i hi
    simpa using h i (by simpa using hi)

set_option maxHeartbeats 1600000 in
theorem idxw_any (g : Nat) (p : Nat → Bool) (A : Option Addr) (n cap : Nat) (d : Nat → W3) (w : World) (hst : Row3 w A n d) (hm : n ≤ 9223372036854775807)
    (H : ∀ i, i < n → ∀ W, w.grownBy W none → Calls Tryz.prog 107 #[w3v (d i), .pointer (some ⟨g, 0, none⟩)] W fun e w' => e = .returned (.bool (p i)) ∧ W.grownBy w' none) :
    Calls Tryz.prog 59 #[.slice A n cap, .func (.func 107) #[] #[.pointer (some ⟨g, 0, none⟩)]] w fun e w' => e = .returned (.int .i64 (fstI p n)) ∧ w.grownBy w' none := by
  have HST := Lib.hid hst
  have HC := Lib.hid H
  clear hst H
  go_enter Tryz.func59, Tryz.ntmps59
  go_wp2
  go_loopw [8] (fun y wr => ∃ i : Nat, y = .int .i64 i ∧ i ≤ n ∧ Hid (∀ k, k < i → p k = false) ∧ Hid (w.grownBy wr none)) (fun y _ => n - (intOf y).toNat)
  case atStart => exact ⟨0, rfl, by omega, Lib.hid (fun k hk => absurd hk (by omega)), Lib.hid (only_refl _ _)⟩
  case round =>
    obtain ⟨i, rfl, hi, HN, HG⟩ := hrel
    by_cases hin : i < n
    · have i1 : (i : Int) < (n : Int) := by omega
      obtain ⟨b, off, rfl, hb, hc⟩ := (HST.out.grown HG.out).2 (by omega)
      obtain ⟨c0, c1, c2⟩ := hc i hin
      have HCI := Lib.hid (HC.out i hin wr HG.out)
      have HP := Lib.hid (fstI_at (q := p) hin)
      have HP2 := Lib.hid (show p i = false → ∀ k, k < i + 1 → p k = false from fun h k hk => by
        by_cases e : k = i
        · rw [e]; exact h
        · exact HN.out k (by omega))
      clear hc hb
      generalize d i = x at c0 c1 c2 HCI
      obtain ⟨x1, x2, x3⟩ := x
      simp only at c0 c1 c2
      obtain ⟨r, hr⟩ : ∃ r, r = p i := ⟨_, rfl⟩
      rw [← hr] at HCI HP HP2
      clear hr
      go_wp2_with (go_at_call 107; (with_reducible refine HCI.out.mono ?_); rintro e w2 ⟨rfl, g2⟩; have G2 := Lib.hid (only_trans HG.out g2); clear g2; cases r)
      · go_roundw
        case rel => exact ⟨i + 1, by go_num, by omega, Lib.hid (HP2.out trivial), G2⟩
        case measure => simp [intOf] <;> omega
      · go_ret
        exact ⟨ret_int (HP.out trivial HN.out).symm, G2.out⟩
    · obtain rfl : i = n := by omega
      have i1 : ¬ (i : Int) < (i : Int) := by omega
      go_wp2
      go_ret
      exact ⟨ret_int (fstI_none HN.out).symm, HG.out⟩
theorem hasw_any (g : Nat) (p : Nat → Bool) (A : Option Addr) (n cap : Nat) (d : Nat → W3) (w : World) (hst : Row3 w A n d) (hm : n ≤ 9223372036854775807)
    (H : ∀ i, i < n → ∀ W, w.grownBy W none → Calls Tryz.prog 107 #[w3v (d i), .pointer (some ⟨g, 0, none⟩)] W fun e w' => e = .returned (.bool (p i)) ∧ W.grownBy w' none) :
    Calls Tryz.prog 106 #[.slice A n cap, .func (.func 107) #[] #[.pointer (some ⟨g, 0, none⟩)]] w fun e w' => e = .returned (.bool (anyB p n)) ∧ w.grownBy w' none := by
  have HI := Lib.hid (idxw_any g p A n cap d w hst hm H)
  have HE := Lib.hid (anyB_eq p n)
  generalize fstI p n = r at HI HE
  clear hst H
  go_enter Tryz.func106, Tryz.ntmps106
  go_wp2_with (go_at_call 59; (with_reducible refine HI.out.mono ?_); rintro e w2 ⟨rfl, g2⟩; have G2 := Lib.hid g2; clear g2)
  go_ret
  exact ⟨ret_bool HE.out.symm, G2.out⟩

set_option maxHeartbeats 1600000 in
theorem idxs_any (g : Nat) (p : Nat → Bool) (A : Option Addr) (n cap : Nat) (d : Nat → W3) (w : World) (hst : Row3 w A n d) (hm : n ≤ 9223372036854775807)
    (H : ∀ i, i < n → ∀ W, w.grownBy W none → Calls Tryz.prog 109 #[w3v (d i), .pointer (some ⟨g, 0, none⟩)] W fun e w' => e = .returned (.bool (p i)) ∧ W.grownBy w' none) :
    Calls Tryz.prog 61 #[.slice A n cap, .func (.func 109) #[] #[.pointer (some ⟨g, 0, none⟩)]] w fun e w' => e = .returned (.int .i64 (fstI p n)) ∧ w.grownBy w' none := by
  have HST := Lib.hid hst
  have HC := Lib.hid H
  clear hst H
  go_enter Tryz.func61, Tryz.ntmps61
  go_wp2
  go_loopw [8] (fun y wr => ∃ i : Nat, y = .int .i64 i ∧ i ≤ n ∧ Hid (∀ k, k < i → p k = false) ∧ Hid (w.grownBy wr none)) (fun y _ => n - (intOf y).toNat)
  case atStart => exact ⟨0, rfl, by omega, Lib.hid (fun k hk => absurd hk (by omega)), Lib.hid (only_refl _ _)⟩
  case round =>
    obtain ⟨i, rfl, hi, HN, HG⟩ := hrel
    by_cases hin : i < n
    · have i1 : (i : Int) < (n : Int) := by omega
      obtain ⟨b, off, rfl, hb, hc⟩ := (HST.out.grown HG.out).2 (by omega)
      obtain ⟨c0, c1, c2⟩ := hc i hin
      have HCI := Lib.hid (HC.out i hin wr HG.out)
      have HP := Lib.hid (fstI_at (q := p) hin)
      have HP2 := Lib.hid (show p i = false → ∀ k, k < i + 1 → p k = false from fun h k hk => by
        by_cases e : k = i
        · rw [e]; exact h
        · exact HN.out k (by omega))
      clear hc hb
      generalize d i = x at c0 c1 c2 HCI
      obtain ⟨x1, x2, x3⟩ := x
      simp only at c0 c1 c2
      obtain ⟨r, hr⟩ : ∃ r, r = p i := ⟨_, rfl⟩
      rw [← hr] at HCI HP HP2
      clear hr
      go_wp2_with (go_at_call 109; (with_reducible refine HCI.out.mono ?_); rintro e w2 ⟨rfl, g2⟩; have G2 := Lib.hid (only_trans HG.out g2); clear g2; cases r)
      · go_roundw
        case rel => exact ⟨i + 1, by go_num, by omega, Lib.hid (HP2.out trivial), G2⟩
        case measure => simp [intOf] <;> omega
      · go_ret
        exact ⟨ret_int (HP.out trivial HN.out).symm, G2.out⟩
    · obtain rfl : i = n := by omega
      have i1 : ¬ (i : Int) < (i : Int) := by omega
      go_wp2
      go_ret
      exact ⟨ret_int (fstI_none HN.out).symm, HG.out⟩
theorem hass_any (g : Nat) (p : Nat → Bool) (A : Option Addr) (n cap : Nat) (d : Nat → W3) (w : World) (hst : Row3 w A n d) (hm : n ≤ 9223372036854775807)
    (H : ∀ i, i < n → ∀ W, w.grownBy W none → Calls Tryz.prog 109 #[w3v (d i), .pointer (some ⟨g, 0, none⟩)] W fun e w' => e = .returned (.bool (p i)) ∧ W.grownBy w' none) :
    Calls Tryz.prog 87 #[.slice A n cap, .func (.func 109) #[] #[.pointer (some ⟨g, 0, none⟩)]] w fun e w' => e = .returned (.bool (anyB p n)) ∧ w.grownBy w' none := by
  have HI := Lib.hid (idxs_any g p A n cap d w hst hm H)
  have HE := Lib.hid (anyB_eq p n)
  generalize fstI p n = r at HI HE
  clear hst H
  go_enter Tryz.func87, Tryz.ntmps87
  go_wp2_with (go_at_call 61; (with_reducible refine HI.out.mono ?_); rintro e w2 ⟨rfl, g2⟩; have G2 := Lib.hid g2; clear g2)
  go_ret
  exact ⟨ret_bool HE.out.symm, G2.out⟩

set_option maxHeartbeats 1600000 in
theorem idxc_any (g : Nat) (p : Nat → Bool) (A : Option Addr) (n cap : Nat) (d : Nat → Cl) (w : World) (hst : RowC w A n d) (hm : n ≤ 9223372036854775807)
    (H : ∀ i, i < n → ∀ W, w.grownBy W none → Calls Tryz.prog 101 #[clv (d i), .pointer (some ⟨g, 0, none⟩)] W fun e w' => e = .returned (.bool (p i)) ∧ W.grownBy w' none) :
    Calls Tryz.prog 120 #[.slice A n cap, .func (.func 101) #[] #[.pointer (some ⟨g, 0, none⟩)]] w fun e w' => e = .returned (.int .i64 (fstI p n)) ∧ w.grownBy w' none := by
  have HST := Lib.hid hst
  have HC := Lib.hid H
  clear hst H
  go_enter Tryz.func120, Tryz.ntmps120
  go_wp2
  go_loopw [8] (fun y wr => ∃ i : Nat, y = .int .i64 i ∧ i ≤ n ∧ Hid (∀ k, k < i → p k = false) ∧ Hid (w.grownBy wr none)) (fun y _ => n - (intOf y).toNat)
  case atStart => exact ⟨0, rfl, by omega, Lib.hid (fun k hk => absurd hk (by omega)), Lib.hid (only_refl _ _)⟩
  case round =>
    obtain ⟨i, rfl, hi, HN, HG⟩ := hrel
    by_cases hin : i < n
    · have i1 : (i : Int) < (n : Int) := by omega
      obtain ⟨b, off, rfl, hb, hc⟩ := (HST.out.grown HG.out).2 (by omega)
      obtain ⟨c0, c1, c2, c3, c4, c5, c6, c7, c8, c9⟩ := hc i hin
      have HCI := Lib.hid (HC.out i hin wr HG.out)
      have HP := Lib.hid (fstI_at (q := p) hin)
      have HP2 := Lib.hid (show p i = false → ∀ k, k < i + 1 → p k = false from fun h k hk => by
        by_cases e : k = i
        · rw [e]; exact h
        · exact HN.out k (by omega))
      clear hc hb
      generalize d i = x at c0 c1 c2 c3 c4 c5 c6 c7 c8 c9 HCI
      obtain ⟨x1, x2, x3, x4, x5, x6, x7, x8, x9, x10⟩ := x
      simp only at c0 c1 c2 c3 c4 c5 c6 c7 c8 c9
      obtain ⟨r, hr⟩ : ∃ r, r = p i := ⟨_, rfl⟩
      rw [← hr] at HCI HP HP2
      clear hr
      go_wp2_with (go_at_call 101; (with_reducible refine HCI.out.mono ?_); rintro e w2 ⟨rfl, g2⟩; have G2 := Lib.hid (only_trans HG.out g2); clear g2; cases r)
      · go_roundw
        case rel => exact ⟨i + 1, by go_num, by omega, Lib.hid (HP2.out trivial), G2⟩
        case measure => simp [intOf] <;> omega
      · go_ret
        exact ⟨ret_int (HP.out trivial HN.out).symm, G2.out⟩
    · obtain rfl : i = n := by omega
      have i1 : ¬ (i : Int) < (i : Int) := by omega
      go_wp2
      go_ret
      exact ⟨ret_int (fstI_none HN.out).symm, HG.out⟩
theorem hasc_any (g : Nat) (p : Nat → Bool) (A : Option Addr) (n cap : Nat) (d : Nat → Cl) (w : World) (hst : RowC w A n d) (hm : n ≤ 9223372036854775807)
    (H : ∀ i, i < n → ∀ W, w.grownBy W none → Calls Tryz.prog 101 #[clv (d i), .pointer (some ⟨g, 0, none⟩)] W fun e w' => e = .returned (.bool (p i)) ∧ W.grownBy w' none) :
    Calls Tryz.prog 100 #[.slice A n cap, .func (.func 101) #[] #[.pointer (some ⟨g, 0, none⟩)]] w fun e w' => e = .returned (.bool (anyB p n)) ∧ w.grownBy w' none := by
  have HI := Lib.hid (idxc_any g p A n cap d w hst hm H)
  have HE := Lib.hid (anyB_eq p n)
  generalize fstI p n = r at HI HE
  clear hst H
  go_enter Tryz.func100, Tryz.ntmps100
  go_wp2_with (go_at_call 120; (with_reducible refine HI.out.mono ?_); rintro e w2 ⟨rfl, g2⟩; have G2 := Lib.hid g2; clear g2)
  go_ret
  exact ⟨ret_bool HE.out.symm, G2.out⟩

set_option maxHeartbeats 1600000 in
theorem idxf_any (g : Nat) (p : Nat → Bool) (A : Option Addr) (n cap : Nat) (d : Nat → W3) (w : World) (hst : Row3 w A n d) (hm : n ≤ 9223372036854775807)
    (H : ∀ i, i < n → ∀ W, w.grownBy W none → Calls Tryz.prog 121 #[w3v (d i), .pointer (some ⟨g, 0, none⟩)] W fun e w' => e = .returned (.bool (p i)) ∧ W.grownBy w' none) :
    Calls Tryz.prog 59 #[.slice A n cap, .func (.func 121) #[] #[.pointer (some ⟨g, 0, none⟩)]] w fun e w' => e = .returned (.int .i64 (fstI p n)) ∧ w.grownBy w' none := by
  have HST := Lib.hid hst
  have HC := Lib.hid H
  clear hst H
  go_enter Tryz.func59, Tryz.ntmps59
  go_wp2
  go_loopw [8] (fun y wr => ∃ i : Nat, y = .int .i64 i ∧ i ≤ n ∧ Hid (∀ k, k < i → p k = false) ∧ Hid (w.grownBy wr none)) (fun y _ => n - (intOf y).toNat)
  case atStart => exact ⟨0, rfl, by omega, Lib.hid (fun k hk => absurd hk (by omega)), Lib.hid (only_refl _ _)⟩
  case round =>
    obtain ⟨i, rfl, hi, HN, HG⟩ := hrel
    by_cases hin : i < n
    · have i1 : (i : Int) < (n : Int) := by omega
      obtain ⟨b, off, rfl, hb, hc⟩ := (HST.out.grown HG.out).2 (by omega)
      obtain ⟨c0, c1, c2⟩ := hc i hin
      have HCI := Lib.hid (HC.out i hin wr HG.out)
      have HP := Lib.hid (fstI_at (q := p) hin)
      have HP2 := Lib.hid (show p i = false → ∀ k, k < i + 1 → p k = false from fun h k hk => by
        by_cases e : k = i
        · rw [e]; exact h
        · exact HN.out k (by omega))
      clear hc hb
      generalize d i = x at c0 c1 c2 HCI
      obtain ⟨x1, x2, x3⟩ := x
      simp only at c0 c1 c2
      obtain ⟨r, hr⟩ : ∃ r, r = p i := ⟨_, rfl⟩
      rw [← hr] at HCI HP HP2
      clear hr
      go_wp2_with (go_at_call 121; (with_reducible refine HCI.out.mono ?_); rintro e w2 ⟨rfl, g2⟩; have G2 := Lib.hid (only_trans HG.out g2); clear g2; cases r)
      · go_roundw
        case rel => exact ⟨i + 1, by go_num, by omega, Lib.hid (HP2.out trivial), G2⟩
        case measure => simp [intOf] <;> omega
      · go_ret
        exact ⟨ret_int (HP.out trivial HN.out).symm, G2.out⟩
    · obtain rfl : i = n := by omega
      have i1 : ¬ (i : Int) < (i : Int) := by omega
      go_wp2
      go_ret
      exact ⟨ret_int (fstI_none HN.out).symm, HG.out⟩
end Go.Proofs.YtfhhcpmoaggdmaaGreat

/- What two rows have both, and whether a row ahead has it: by their contracts. -/
namespace Go.Proofs.YtfhhcpmoaggdmaaGreat
open Go.RowKit Go.Lib Go.Sort
set_option linter.unusedVariables false

/-- Two windows of one owner, or at one time. -/
def wM (x y : W3) : Bool := decide (x.1 = y.1) || meetsB (w3s x) (w3s y)
def sM (x y : W3) : Bool := meetsB (w3s x) (w3s y)
/-- Two clients that have something both. -/
def cM (x y : Cl) : Bool := decide (x.mac = y.mac) || decide (x.chan = y.chan) || meetsB (x.base, x.base + x.size) (y.base, y.base + y.size) || meetsB (x.first, x.first + x.secs) (y.first, y.first + y.secs)
theorem goodC_fit {x : Cl} (h : badC x = false) : fitI (x.base + x.size) ∧ fitI (x.first + x.secs) := by
  have := badC_no.1 h
  unfold GoodC at this
  unfold fitI
  omega
set_option maxHeartbeats 1600000 in
theorem wm_any (x y : W3) (g : Nat) (w : World) (hg : Blk w g 78 #[.int .i64 x.1, .int .i64 x.2.1, .int .i64 x.2.2]) : Calls Tryz.prog 107 #[w3v y, .pointer (some ⟨g, 0, none⟩)] w fun e w' => e = .returned (.bool (wM x y)) ∧ w.grownBy w' none := by
  obtain ⟨x1, x2, x3⟩ := x
  obtain ⟨y1, y2, y3⟩ := y
  have hr : wM (x1, x2, x3) (y1, y2, y3) = (decide (x1 = y1) || meetsB (x2, x3) (y2, y3)) := rfl
  rw [hr]
  clear hr
  have HX := Lib.hid (fun W => ticks_any (x1, x2, x3) W)
  have HY := Lib.hid (fun W => ticks_any (y1, y2, y3) W)
  have HM := Lib.hid (fun W => meet_conf (x2, x3) (y2, y3) W)
  generalize meetsB (x2, x3) (y2, y3) = r at *
  obtain ⟨W1, hW, G0, hB⟩ := box1 w 78 #[.int .i64 y1, .int .i64 y2, .int .i64 y3]
  have k1 := blk_re (hg.only G0 (by simp))
  have k2 := blk_re hB
  have G0 := Lib.hid G0
  have hne : ¬ g = w.heap.size := by have := hg.lt; omega
  clear hB hg
  simp only at k1
  by_cases he : x1 = y1
  all_goals
    first | (have hd : (x1 == y1) = true := by simpa using he) | (have hd : (x1 == y1) = false := by simpa using he)
    go_enter Tryz.func107, Tryz.ntmps107
    go_upto_region 1 with (fail)
    rw [← hW]
    clear hW
    refine wp_region_quiet_below (by kernel_rfl) (by kernel_rfl) ?_
    repeat (go_big_quiet_step ((first | (go_at_call 105; with_reducible exact rg1 (HX.out _)) | (go_at_call 105; with_reducible exact rg1 (HY.out _)) | (go_at_call 102; with_reducible exact rg1 (HM.out _)))))
    refine wpQuiet_nil ?_
    intro w3 hw3
    obtain ⟨p, rfl⟩ := hw3
    have G3 := Lib.hid (only_trans G0.out (only_re W1 p.d p.os))
    clear k1 k2
    generalize grow (redrawn W1 p.d) p.os = w3 at G3 ⊢
    go_wp2
    go_ret
    exact ⟨by simp [he], G3.out⟩
set_option maxHeartbeats 1600000 in
theorem sm_any (x y : W3) (g : Nat) (w : World) (hg : Blk w g 84 #[.int .i64 x.1, .int .i64 x.2.1, .int .i64 x.2.2]) : Calls Tryz.prog 109 #[w3v y, .pointer (some ⟨g, 0, none⟩)] w fun e w' => e = .returned (.bool (sM x y)) ∧ w.grownBy w' none := by
  obtain ⟨x1, x2, x3⟩ := x
  obtain ⟨y1, y2, y3⟩ := y
  have hr : sM (x1, x2, x3) (y1, y2, y3) = meetsB (x2, x3) (y2, y3) := rfl
  rw [hr]
  clear hr
  have HX := Lib.hid (fun W => ticks_any (x1, x2, x3) W)
  have HY := Lib.hid (fun W => ticks_any (y1, y2, y3) W)
  have HM := Lib.hid (fun W => meet_conf (x2, x3) (y2, y3) W)
  generalize meetsB (x2, x3) (y2, y3) = r at *
  obtain ⟨W1, hW, G0, hB⟩ := box1 w 84 #[.int .i64 y1, .int .i64 y2, .int .i64 y3]
  have k1 := blk_re (hg.only G0 (by simp))
  have k2 := blk_re hB
  have G0 := Lib.hid G0
  have hne : ¬ g = w.heap.size := by have := hg.lt; omega
  clear hB hg
  simp only at k1
  go_enter Tryz.func109, Tryz.ntmps109
  go_upto_region 1 with (fail)
  rw [← hW]
  clear hW
  refine wp_region_quiet_below (by kernel_rfl) (by kernel_rfl) ?_
  repeat (go_big_quiet_step ((first | (go_at_call 105; with_reducible exact rg1 (HX.out _)) | (go_at_call 105; with_reducible exact rg1 (HY.out _)) | (go_at_call 102; with_reducible exact rg1 (HM.out _)))))
  refine wpQuiet_nil ?_
  intro w3 hw3
  obtain ⟨p, rfl⟩ := hw3
  have G3 := Lib.hid (only_trans G0.out (only_re W1 p.d p.os))
  clear k1 k2
  generalize grow (redrawn W1 p.d) p.os = w3 at G3 ⊢
  go_wp2
  go_ret
  exact ⟨by simp, G3.out⟩
set_option maxHeartbeats 3200000 in
theorem cm_any (x y : Cl) (hx : badC x = false) (hy : FitCl y) (g : Nat) (w : World) (hg : Blk w g 36 (clA x)) : Calls Tryz.prog 101 #[clv y, .pointer (some ⟨g, 0, none⟩)] w fun e w' => e = .returned (.bool (!badC y && cM x y)) ∧ w.grownBy w' none := by
  have HB := Lib.hid (fun W => badc_any y hy W)
  obtain ⟨fx1, fx2⟩ := goodC_fit hx
  have HMX := Lib.hid (fun W => memory_any x fx1 W)
  have HSX := Lib.hid (fun W => sectors_any x fx2 W)
  cases hby : badC y
  case true =>
    rw [hby] at HB
    simp only [Bool.not_true, Bool.false_and]
    obtain ⟨x1, x2, x3, x4, x5, x6, x7, x8, x9, x10⟩ := x
    obtain ⟨y1, y2, y3, y4, y5, y6, y7, y8, y9, y10⟩ := y
    show Calls Tryz.prog 101 #[.agg #[.int .i64 y1, .int .i64 y2, .int .i64 y3, .int .i64 y4, .int .i64 y5, .int .i64 y6, .int .i64 y7, .int .i64 y8, .int .i64 y9, .int .i64 y10], .pointer (some ⟨g, 0, none⟩)] w _
    obtain ⟨W1, hW, G0, hB⟩ := box1 w 36 #[.int .i64 y1, .int .i64 y2, .int .i64 y3, .int .i64 y4, .int .i64 y5, .int .i64 y6, .int .i64 y7, .int .i64 y8, .int .i64 y9, .int .i64 y10]
    have k1 := blk_re (hg.only G0 (by simp))
    have k2 := blk_re hB
    have G0 := Lib.hid G0
    have hne : ¬ g = w.heap.size := by have := hg.lt; omega
    clear hB hg hby hx hy fx1 fx2 HMX HSX
    go_enter Tryz.func101, Tryz.ntmps101
    go_upto_region 1 with (fail)
    rw [← hW]
    clear hW
    refine wp_region_quiet_below (by kernel_rfl) (by kernel_rfl) ?_
    repeat (go_big_quiet_step ((first | (go_at_call 69; with_reducible exact rg1 (HB.out _)))))
    refine wpQuiet_nil ?_
    intro w3 hw3
    obtain ⟨p, rfl⟩ := hw3
    have G3 := Lib.hid (only_trans G0.out (only_re W1 p.d p.os))
    clear k1 k2
    generalize grow (redrawn W1 p.d) p.os = w3 at G3 ⊢
    go_wp2
    go_ret
    exact ⟨by simp, G3.out⟩
  case false =>
    rw [hby] at HB
    obtain ⟨fy1, fy2⟩ := goodC_fit hby
    have HMY := Lib.hid (fun W => memory_any y fy1 W)
    have HSY := Lib.hid (fun W => sectors_any y fy2 W)
    simp only [Bool.not_false, Bool.true_and]
    obtain ⟨x1, x2, x3, x4, x5, x6, x7, x8, x9, x10⟩ := x
    obtain ⟨y1, y2, y3, y4, y5, y6, y7, y8, y9, y10⟩ := y
    have hr : cM ⟨x1, x2, x3, x4, x5, x6, x7, x8, x9, x10⟩ ⟨y1, y2, y3, y4, y5, y6, y7, y8, y9, y10⟩ = (decide (x7 = y7) || decide (x8 = y8) || meetsB (x1, x1 + x2) (y1, y1 + y2) || meetsB (x9, x9 + x10) (y9, y9 + y10)) := rfl
    rw [hr]
    clear hr
    simp only at HMX HSX HMY HSY
    have HM := Lib.hid (fun W => meet_conf (x1, x1 + x2) (y1, y1 + y2) W)
    have HS := Lib.hid (fun W => meet_conf (x9, x9 + x10) (y9, y9 + y10) W)
    generalize meetsB (x1, x1 + x2) (y1, y1 + y2) = r at *
    generalize meetsB (x9, x9 + x10) (y9, y9 + y10) = s at *
    show Calls Tryz.prog 101 #[.agg #[.int .i64 y1, .int .i64 y2, .int .i64 y3, .int .i64 y4, .int .i64 y5, .int .i64 y6, .int .i64 y7, .int .i64 y8, .int .i64 y9, .int .i64 y10], .pointer (some ⟨g, 0, none⟩)] w _
    obtain ⟨W1, hW, G0, hB⟩ := box1 w 36 #[.int .i64 y1, .int .i64 y2, .int .i64 y3, .int .i64 y4, .int .i64 y5, .int .i64 y6, .int .i64 y7, .int .i64 y8, .int .i64 y9, .int .i64 y10]
    have k1 := blk_re (hg.only G0 (by simp))
    have k2 := blk_re hB
    have G0 := Lib.hid G0
    have hne : ¬ g = w.heap.size := by have := hg.lt; omega
    clear hB hg hby hx hy fx1 fx2 fy1 fy2
    have key : (x7 = y7) ∨ (¬ x7 = y7 ∧ x8 = y8) ∨ (¬ x7 = y7 ∧ ¬ x8 = y8 ∧ r = true) ∨ (¬ x7 = y7 ∧ ¬ x8 = y8 ∧ r = false) := by
      cases r <;> by_cases h1 : x7 = y7 <;> by_cases h2 : x8 = y8 <;> simp [h1, h2]
    rcases key with h1 | ⟨h1, h2⟩ | ⟨h1, h2, rfl⟩ | ⟨h1, h2, rfl⟩
    all_goals
      first | (have hd : (x7 == y7) = true := by simpa using h1) | (have hd : (x7 == y7) = false := by simpa using h1)
      try first | (have hd2 : (x8 == y8) = true := by simpa using h2) | (have hd2 : (x8 == y8) = false := by simpa using h2)
      go_enter Tryz.func101, Tryz.ntmps101
      go_upto_region 1 with (fail)
      rw [← hW]
      clear hW
      refine wp_region_quiet_below (by kernel_rfl) (by kernel_rfl) ?_
      repeat (go_big_quiet_step ((first | (go_at_call 69; with_reducible exact rg1 (HB.out _)) | (go_at_call 103; with_reducible exact rg1 (HMX.out _)) | (go_at_call 103; with_reducible exact rg1 (HMY.out _)) | (go_at_call 104; with_reducible exact rg1 (HSX.out _)) | (go_at_call 104; with_reducible exact rg1 (HSY.out _)) | (go_at_call 102; with_reducible exact rg1 (HM.out _)) | (go_at_call 102; with_reducible exact rg1 (HS.out _)))))
      refine wpQuiet_nil ?_
      intro w3 hw3
      obtain ⟨p, rfl⟩ := hw3
      have G3 := Lib.hid (only_trans G0.out (only_re W1 p.d p.os))
      clear k1 k2
      generalize grow (redrawn W1 p.d) p.os = w3 at G3 ⊢
      go_wp2
      go_ret
      exact ⟨by simp [*], G3.out⟩
end Go.Proofs.YtfhhcpmoaggdmaaGreat

/- The functions of package clock that only reckon: each by its contract. -/
namespace Go.Proofs.YtfhhcpmoaggdmaaGreat
open Go.RowKit Go.Lib Go.Sort
set_option linter.unusedVariables false

/-- Can a frame have so many ticks? -/
def rightB (f : Int) : Bool := decide (1 ≤ f ∧ f ≤ 4096)
theorem right_any (f : Int) (w : World) : Calls Tryz.prog 47 #[.int .i64 f] w fun r w' => r = .returned (.bool (rightB f)) ∧ w = w' := by
  have key : (1 ≤ f ∧ f ≤ 4096 ∧ rightB f = true) ∨ (1 ≤ f ∧ ¬ f ≤ 4096 ∧ rightB f = false) ∨ (¬ 1 ≤ f ∧ rightB f = false) := by
    by_cases h1 : 1 ≤ f <;> by_cases h2 : f ≤ 4096 <;> simp [rightB, h1, h2]
  rcases key with ⟨h1, h2, e⟩ | ⟨h1, h2, e⟩ | ⟨h1, e⟩
  all_goals
    have E := Lib.hid e
    clear e
    go_enter Tryz.func47, Tryz.ntmps47
    go_wp2
    go_ret
    rw [E.out]
    exact ⟨by first | rfl | simp, rfl⟩
theorem rightB_iff (f : Int) : rightB f = true ↔ 1 ≤ f ∧ f ≤ 4096 := by simp [rightB]

/-- A tick's frame and its offset there, if there is a frame. -/
def frV (t f : Int) : Int × Int := if rightB f = true ∧ 0 ≤ t then (t / f, t % f) else (0, 0)
theorem frame_any (t f : Int) (w : World) (ht2 : t ≤ 9223372036854775807) : Calls Tryz.prog 60 #[.int .i64 t, .int .i64 f] w fun r w' => r = .returned (.tuple #[.int .i64 (frV t f).1, .int .i64 (frV t f).2]) ∧ ∃ q, w.drewN q = w' := by
  by_cases hf : rightB f = true
  · have hf' := (rightB_iff f).1 hf
    obtain ⟨f1, f2⟩ := hf'
    have hc := right_any f w
    rw [hf] at hc
    have HC := Lib.hid hc
    by_cases ht : 0 ≤ t
    · have e : frV t f = (t / f, t % f) := by simp [frV, hf, ht]
      rw [e]
      have q0 : 0 ≤ t / f := Int.ediv_nonneg ht (by omega)
      have q1 : t / f ≤ t := Int.ediv_le_self _ ht
      have q2 : 0 ≤ t % f := Int.emod_nonneg _ (by omega)
      have q3 : t % f < f := Int.emod_lt_of_pos _ (by omega)
      clear hc hf e
      go_enter Tryz.func60, Tryz.ntmps60
      go_wp2_with (go_at_call 47; refine HC.out.mono ?_; rintro e w' ⟨rfl, rfl⟩)
      go_quiet (fail)
      go_wp2
      go_ret2
      exact ⟨rfl, _, rfl⟩
    · have e : frV t f = (0, 0) := by simp [frV, ht]
      rw [e]
      clear hc hf e
      go_enter Tryz.func60, Tryz.ntmps60
      go_wp2_with (go_at_call 47; refine HC.out.mono ?_; rintro e w' ⟨rfl, rfl⟩)
      go_ret2
      exact ⟨rfl, 0, rfl⟩
  · have e : frV t f = (0, 0) := by simp [frV, hf]
    have hff : rightB f = false := by simpa using hf
    have hc := right_any f w
    rw [hff] at hc
    have HC := Lib.hid hc
    rw [e]
    clear hc hf e hff
    go_enter Tryz.func60, Tryz.ntmps60
    go_wp2_with (go_at_call 47; refine HC.out.mono ?_; rintro e w' ⟨rfl, rfl⟩)
    go_ret2
    exact ⟨rfl, 0, rfl⟩

end Go.Proofs.YtfhhcpmoaggdmaaGreat

/- Plain facts on ticks and frames: no program is spoken of here. -/
namespace Go.Proofs.YtfhhcpmoaggdmaaGreat
open Go.RowKit Go.Lib Go.Sort
set_option linter.unusedVariables false

/-- Has a frame of f ticks such an offset? -/
def offB (o f : Int) : Bool := decide (1 ≤ f ∧ f ≤ 4096 ∧ 0 ≤ o ∧ o < f)
theorem offB_iff (o f : Int) : offB o f = true ↔ 1 ≤ f ∧ f ≤ 4096 ∧ 0 ≤ o ∧ o < f := by simp [offB]
theorem offB_is (o f : Int) : offB o f = (rightB f && holdsB (0, f) o) := by
  rw [Bool.eq_iff_iff, offB_iff]
  simp only [rightB, holdsB, Bool.and_eq_true, decide_eq_true_eq]
  omega

theorem ticks {t f : Int} (hf : 0 < f) : t = f * (t / f) + t % f ∧ 0 ≤ t % f ∧ t % f < f := ⟨(Int.mul_ediv_add_emod t f).symm, Int.emod_nonneg _ (by omega), Int.emod_lt_of_pos _ hf⟩
/-- A tick's frame and offset are one pair. -/
theorem tick_one {f q r : Int} (h0 : 0 ≤ r) (h1 : r < f) : (q * f + r) / f = q ∧ (q * f + r) % f = r := by
  have e : q * f + r = r + f * q := by rw [Int.mul_comm, Int.add_comm]
  have hf : f ≠ 0 := by omega
  constructor
  · rw [e, Int.add_mul_ediv_left _ _ hf, Int.ediv_eq_zero_of_lt h0 h1, Int.zero_add]
  · rw [e, Int.add_mul_emod_self_left, Int.emod_eq_of_lt h0 h1]
theorem tick_next {t f : Int} (hf : 0 < f) (h : t % f + 1 < f) : (t + 1) / f = t / f ∧ (t + 1) % f = t % f + 1 := by
  obtain ⟨a, b, c⟩ := ticks (t := t) hf
  have e : t + 1 = (t / f) * f + (t % f + 1) := by rw [Int.mul_comm]; omega
  have := tick_one (f := f) (q := t / f) (r := t % f + 1) (by omega) h
  rw [← e] at this
  exact this
theorem tick_turn {t f : Int} (hf : 0 < f) (h : ¬ t % f + 1 < f) : (t + 1) / f = t / f + 1 ∧ (t + 1) % f = 0 := by
  obtain ⟨a, b, c⟩ := ticks (t := t) hf
  have e : t + 1 = (t / f + 1) * f + 0 := by rw [Int.add_mul, Int.mul_comm]; omega
  have := tick_one (f := f) (q := t / f + 1) (r := 0) (by omega) hf
  rw [← e] at this
  exact this

/-- The first tick from one on that has an offset. -/
def nextV (t o f : Int) : Int := if offB o f = true ∧ t ≤ 2147483647 then (if o < (max t 0) % f then max t 0 + (o + f) - (max t 0) % f else max t 0 + o - (max t 0) % f) else -1
theorem next_is {t o f : Int} (h : offB o f = true) (ht : t ≤ 2147483647) : max t 0 ≤ nextV t o f ∧ nextV t o f - max t 0 < f ∧ nextV t o f % f = o := by
  have h' := (offB_iff o f).1 h
  obtain ⟨f1, f2, o1, o2⟩ := h'
  obtain ⟨a, b, c⟩ := ticks (t := max t 0) (f := f) (by omega)
  unfold nextV
  rw [if_pos ⟨h, ht⟩]
  split
  · refine ⟨by omega, by omega, ?_⟩
    have e : max t 0 + (o + f) - (max t 0) % f = ((max t 0) / f + 1) * f + o := by rw [Int.add_mul, Int.mul_comm]; omega
    rw [e]
    exact (tick_one o1 o2).2
  · refine ⟨by omega, by omega, ?_⟩
    have e : max t 0 + o - (max t 0) % f = ((max t 0) / f) * f + o := by rw [Int.mul_comm]; omega
    rw [e]
    exact (tick_one o1 o2).2
/-- No two ticks of one offset are nearer than a frame. -/
theorem off_far {a b f : Int} (hf : 0 < f) (hab : a < b) (h : b - a < f) : a % f ≠ b % f := by
  intro e
  have h1 := Int.emod_emod_of_dvd a (Int.dvd_refl f)
  obtain ⟨a1, a2, a3⟩ := ticks (t := a) hf
  obtain ⟨b1, b2, b3⟩ := ticks (t := b) hf
  have h2 : b - a = f * (b / f - a / f) := by rw [Int.mul_sub]; omega
  rcases Int.lt_trichotomy (b / f - a / f) 0 with q | q | q
  · have := Int.mul_le_mul_of_nonneg_left (show b / f - a / f ≤ -1 by omega) (Int.le_of_lt hf)
    omega
  · rw [q, Int.mul_zero] at h2
    omega
  · have := Int.mul_le_mul_of_nonneg_left (show 1 ≤ b / f - a / f by omega) (Int.le_of_lt hf)
    omega

/-- How many ticks ahead of one have an offset that is due. -/
def aheadV (t : Int) (p : Int × Int) (f : Int) : Int := t / f * (p.2 - p.1) + (if t % f - p.1 < 0 then 0 else if p.2 - p.1 < t % f - p.1 then p.2 - p.1 else t % f - p.1)
theorem ahead_next {t f : Int} {p : Int × Int} (hf : 0 < f) (h0 : 0 ≤ p.1) (h1 : p.1 < p.2) (h2 : p.2 ≤ f) : aheadV (t + 1) p f = aheadV t p f + (if holdsB p (t % f) then 1 else 0) := by
  obtain ⟨a, b, c⟩ := ticks (t := t) hf
  have hh : holdsB p (t % f) = true ↔ p.1 ≤ t % f ∧ t % f < p.2 := by simp [holdsB, h0]
  unfold aheadV
  by_cases h : t % f + 1 < f
  · obtain ⟨e1, e2⟩ := tick_next hf h
    rw [e1, e2]
    by_cases k : holdsB p (t % f) = true
    · rw [if_pos k]; rw [hh] at k; repeat' split
      all_goals omega
    · rw [if_neg k]; rw [hh] at k; repeat' split
      all_goals omega
  · obtain ⟨e1, e2⟩ := tick_turn hf h
    rw [e1, e2, Int.add_mul, Int.one_mul]
    by_cases k : holdsB p (t % f) = true
    · rw [if_pos k]; rw [hh] at k; repeat' split
      all_goals omega
    · rw [if_neg k]; rw [hh] at k; repeat' split
      all_goals omega
theorem ahead_more {f : Int} {p : Int × Int} (hf : 0 < f) (h0 : 0 ≤ p.1) (h1 : p.1 < p.2) (h2 : p.2 ≤ f) (t : Int) (k : Nat) : aheadV t p f ≤ aheadV (t + k) p f ∧ aheadV (t + k) p f ≤ aheadV t p f + k := by
  induction k with
  | zero => simp
  | succ k ih =>
    have e : t + ((k + 1 : Nat) : Int) = (t + k) + 1 := by omega
    rw [e, ahead_next hf h0 h1 h2]
    split <;> omega
/-- How many of the ticks from a on, k of them, have an offset of p. -/
def cntT (p : Int × Int) (f a : Int) : Nat → Int
  | 0 => 0
  | k + 1 => cntT p f a k + (if holdsB p ((a + k) % f) then 1 else 0)
theorem cntT_is {f : Int} {p : Int × Int} (hf : 0 < f) (h0 : 0 ≤ p.1) (h1 : p.1 < p.2) (h2 : p.2 ≤ f) (a : Int) (k : Nat) : cntT p f a k = aheadV (a + k) p f - aheadV a p f := by
  induction k with
  | zero => simp [cntT]
  | succ k ih =>
    have e : a + ((k + 1 : Nat) : Int) = (a + k) + 1 := by omega
    rw [e, ahead_next hf h0 h1 h2, cntT, ih]
    omega
theorem cntT_same {f : Int} {p q : Int × Int} (h : ∀ x, 0 ≤ x → x < f → holdsB p x = holdsB q x) (hf : 0 < f) (a : Int) (k : Nat) : cntT p f a k = cntT q f a k := by
  induction k with
  | zero => rfl
  | succ k ih =>
    obtain ⟨_, b, c⟩ := ticks (t := a + k) hf
    rw [cntT, cntT, ih, h _ b c]
theorem cntT_none {f : Int} {p : Int × Int} (h : ∀ x, 0 ≤ x → x < f → holdsB p x = false) (hf : 0 < f) (a : Int) (k : Nat) : cntT p f a k = 0 := by
  induction k with
  | zero => rfl
  | succ k ih =>
    obtain ⟨_, b, c⟩ := ticks (t := a + k) hf
    rw [cntT, ih, h _ b c]
    rfl
theorem cntT_le (p : Int × Int) (f a : Int) (k : Nat) : 0 ≤ cntT p f a k ∧ cntT p f a k ≤ k := by
  induction k with
  | zero => simp [cntT]
  | succ k ih => rw [cntT]; split <;> omega
/-- What two spans have in common lies in both. -/
theorem meet_in {p : Int × Int} {f : Int} (hm : meetsB p (0, f) = true) : 0 ≤ (meetV p (0, f)).1 ∧ (meetV p (0, f)).1 < (meetV p (0, f)).2 ∧ (meetV p (0, f)).2 ≤ f := by
  have h := hm
  rw [meets_iff] at h
  simp only [Bool.and_eq_true, isB, decide_eq_true_eq] at h
  obtain ⟨⟨_, _⟩, h3, h4⟩ := h
  unfold meetV
  rw [if_pos hm]
  refine ⟨h3, h4, ?_⟩
  simp only [bothOf]
  split <;> omega
theorem meet_holds {p : Int × Int} {f x : Int} (h0 : 0 ≤ x) (h1 : x < f) : holdsB (meetV p (0, f)) x = holdsB p x := by
  rw [holds_meet]
  have : holdsB (0, f) x = true := by simp [holdsB, h0, h1]
  rw [this, Bool.and_true]
theorem meet_not {p : Int × Int} {f x : Int} (hm : meetsB p (0, f) = false) (h0 : 0 ≤ x) (h1 : x < f) : holdsB p x = false := by
  have h := meet_holds (p := p) h0 h1
  have e : meetV p (0, f) = (0, 0) := by simp [meetV, hm]
  rw [e] at h
  rw [← h]
  simp [holdsB]
end Go.Proofs.YtfhhcpmoaggdmaaGreat

/- Package clock: ticks of offsets, the next tick, how many: each call by its contract. -/
namespace Go.Proofs.YtfhhcpmoaggdmaaGreat
open Go.RowKit Go.Lib Go.Sort
set_option linter.unusedVariables false

/-- The tick of an offset in a frame. -/
def atV (q o f : Int) : Int := if offB o f = true ∧ 0 ≤ q ∧ q ≤ 2147483647 then q * f + o else -1
theorem prod_small {q f : Int} (h0 : 0 ≤ q) (h1 : q ≤ 2147483647) (f0 : 1 ≤ f) (f1 : f ≤ 4096) : 0 ≤ q * f ∧ q * f ≤ 8796093018112 := by
  refine ⟨Int.mul_nonneg h0 (by omega), ?_⟩
  have := Int.mul_le_mul h1 f1 (by omega) (by omega)
  omega
theorem only_drew {a w : World} {row : Option Nat} (h : a.grownBy w row) {q : Nat} : a.grownBy (w.drewN q) row := only_drewN h q

end Go.Proofs.YtfhhcpmoaggdmaaGreat

/- Plain facts on exchanging and turning parts of a row, and on the merge of two sorted parts in place: no program is spoken of here. -/
namespace Go.Proofs.YtfhhcpmoaggdmaaGreat.So

/-- The n places from a on and the n places from b on, exchanged. -/
def swr (d : Nat → P2) (a b n : Nat) : Nat → P2 := fun k => if a ≤ k ∧ k < a + n then d (k - a + b) else if b ≤ k ∧ k < b + n then d (k - b + a) else d k
/-- What stands from m up to b comes first, then what stands from a up to m. -/
def rot (d : Nat → P2) (a m b : Nat) : Nat → P2 := fun k => if a ≤ k ∧ k < a + (b - m) then d (k - a + m) else if a + (b - m) ≤ k ∧ k < b then d (k - (b - m)) else d k

theorem swr_zero (d : Nat → P2) (a b : Nat) : swr d a b 0 = d := by
  funext k; simp only [swr]
  repeat' split
  all_goals first | rfl | (exfalso; omega)
theorem swr_succ (d : Nat → P2) {a b n : Nat} (h : a + (n + 1) ≤ b) : swp (swr d a b n) (a + n) (b + n) = swr d a b (n + 1) := by
  funext k; rw [swp_at]; simp only [swr]
  repeat' split
  all_goals first | (exfalso; omega) | (congr 1 <;> omega)
theorem Perm.swr {d : Nat → P2} {a b n lo hi : Nat} (h : a + n ≤ b) (h1 : lo ≤ a) (h2 : b + n ≤ hi) : Perm lo hi d (swr d a b n) := by
  induction n with
  | zero => rw [swr_zero]; exact Perm.refl _ _ _
  | succ n ih =>
    rw [← swr_succ d h]
    exact (ih (by omega) (by omega)).trans (Perm.swp _ ⟨by omega, by omega⟩ ⟨by omega, by omega⟩)

theorem rot_more (d : Nat → P2) {m i j : Nat} (hi : i ≤ m) (hij : j < i) : rot (swr d (m - i) m j) (m - (i - j)) m (m + j) = rot d (m - i) m (m + j) := by
  funext k; simp only [rot, swr]
  repeat' split
  all_goals first | (exfalso; omega) | (congr 1 <;> omega)
theorem rot_less (d : Nat → P2) {m i j : Nat} (hi : i ≤ m) (hij : i < j) : rot (swr d (m - i) (m + j - i) i) (m - i) m (m + (j - i)) = rot d (m - i) m (m + j) := by
  funext k; simp only [rot, swr]
  repeat' split
  all_goals first | (exfalso; omega) | (congr 1 <;> omega)
theorem rot_same (d : Nat → P2) {m i : Nat} (hi : i ≤ m) : swr d (m - i) m i = rot d (m - i) m (m + i) := by
  funext k; simp only [rot, swr]
  repeat' split
  all_goals first | (exfalso; omega) | (congr 1 <;> omega)
theorem rot_left (d : Nat → P2) (a m : Nat) : rot d a m m = d := by
  funext k; simp only [rot]
  repeat' split
  all_goals first | (exfalso; omega) | (congr 1 <;> omega)
theorem rot_right (d : Nat → P2) (m b : Nat) : rot d m m b = d := by
  funext k; simp only [rot]
  repeat' split
  all_goals first | (exfalso; omega) | (congr 1 <;> omega)
theorem rot_up (d : Nat → P2) {a k : Nat} (h : a ≤ k) : swp (rot d a (a + 1) (k + 1)) k (k + 1) = rot d a (a + 1) (k + 2) := by
  funext q; rw [swp_at]; simp only [rot]
  repeat' split
  all_goals first | (exfalso; omega) | (congr 1 <;> omega)
theorem rot_down (d : Nat → P2) {m k : Nat} (h : k < m) : swp (rot d (k + 1) m (m + 1)) (k + 1) k = rot d k m (m + 1) := by
  funext q; rw [swp_at]; simp only [rot]
  repeat' split
  all_goals first | (exfalso; omega) | (congr 1 <;> omega)

theorem Perm.rotUp {d : Nat → P2} {a k lo hi : Nat} (h1 : lo ≤ a) (h2 : a ≤ k) (h3 : k < hi) : Perm lo hi d (rot d a (a + 1) (k + 1)) := by
  induction k with
  | zero => obtain rfl : a = 0 := by omega
            rw [rot_left]; exact Perm.refl _ _ _
  | succ k ih =>
    by_cases hk : a ≤ k
    · rw [← rot_up d hk]
      exact (ih hk (by omega)).trans (Perm.swp _ ⟨by omega, by omega⟩ ⟨by omega, by omega⟩)
    · obtain rfl : a = k + 1 := by omega
      rw [rot_left]; exact Perm.refl _ _ _
theorem Perm.rotDown {d : Nat → P2} {m k lo hi : Nat} (i : Nat) (hki : k + i = m) (h1 : lo ≤ k) (h3 : m < hi) : Perm lo hi d (rot d k m (m + 1)) := by
  induction i generalizing k with
  | zero => obtain rfl : k = m := by omega
            rw [rot_right]; exact Perm.refl _ _ _
  | succ i ih =>
    rw [← rot_down d (show k < m by omega)]
    exact (ih (by omega) (by omega)).trans (Perm.swp _ ⟨by omega, by omega⟩ ⟨by omega, by omega⟩)

/-- ONE BEFORE MANY: the first one goes behind all that are below it. -/
theorem one_first {d : Nat → P2} {a b i : Nat} (hs : Sorted d (a + 1) b) (h1 : a + 1 ≤ i) (h2 : i ≤ b) (hl : ∀ q, a + 1 ≤ q → q < i → lt (d q) (d a)) (hr : ∀ q, i ≤ q → q < b → ¬ lt (d q) (d a)) : Sorted (rot d a (a + 1) i) a b := by
  intro p q hp hpq hq
  simp only [rot]
  by_cases c1 : p < i - 1
  · rw [if_pos (by omega)]
    by_cases c2 : q < i - 1
    · rw [if_pos (by omega)]; exact hs _ _ (by omega) (by omega) (by omega)
    · by_cases c3 : q = i - 1
      · rw [if_neg (by omega), if_pos (by omega), show q - (i - (a + 1)) = a by omega]
        exact le_of_lt (hl _ (by omega) (by omega))
      · rw [if_neg (by omega), if_neg (by omega)]; exact hs _ _ (by omega) (by omega) (by omega)
  · by_cases c3 : p = i - 1
    · rw [if_neg (by omega), if_pos (by omega), if_neg (by omega), if_neg (by omega), show p - (i - (a + 1)) = a by omega]
      exact hr q (by omega) hq
    · rw [if_neg (by omega), if_neg (by omega), if_neg (by omega), if_neg (by omega)]; exact hs _ _ (by omega) (by omega) (by omega)
/-- MANY BEFORE ONE. -/
theorem one_last {d : Nat → P2} {a m i : Nat} (hs : Sorted d a m) (h1 : a ≤ i) (h2 : i ≤ m) (hl : ∀ q, a ≤ q → q < i → ¬ lt (d m) (d q)) (hr : ∀ q, i ≤ q → q < m → lt (d m) (d q)) : Sorted (rot d i m (m + 1)) a (m + 1) := by
  intro p q hp hpq hq
  simp only [rot]
  by_cases c1 : p < i
  · rw [if_neg (by omega), if_neg (by omega)]
    by_cases c2 : q < i
    · rw [if_neg (by omega), if_neg (by omega)]; exact hs _ _ (by omega) (by omega) (by omega)
    · by_cases c3 : q = i
      · rw [if_pos (by omega), show q - i + m = m by omega]; exact hl p (by omega) (by omega)
      · rw [if_neg (by omega), if_pos (by omega)]; exact hs _ _ (by omega) (by omega) (by omega)
  · by_cases c3 : p = i
    · rw [if_pos (by omega), if_neg (by omega), if_pos (by omega), show p - i + m = m by omega]
      exact le_of_lt (hr _ (by omega) (by omega))
    · rw [if_neg (by omega), if_pos (by omega), if_neg (by omega), if_pos (by omega)]; exact hs _ _ (by omega) (by omega) (by omega)

theorem Perm.rotAll {d : Nat → P2} {a m b lo hi : Nat} (h1 : lo ≤ a) (h2 : a ≤ m) (h3 : m ≤ b) (h4 : b ≤ hi) : Perm lo hi d (rot d a m b) := by
  refine ⟨fun k => if a ≤ k ∧ k < a + (b - m) then k - a + m else if a + (b - m) ≤ k ∧ k < b then k - (b - m) else k, fun k => if m ≤ k ∧ k < b then k - m + a else if a ≤ k ∧ k < m then k + (b - m) else k, ?_, ?_, ?_, ?_⟩
  · intro k; dsimp only; repeat' split
    all_goals omega
  · intro k; dsimp only; repeat' split
    all_goals omega
  · intro k hk; dsimp only; repeat' split
    all_goals omega
  · intro k; simp only [rot]; repeat' split
    all_goals rfl

/-- THE CUT: what the search finds. From lo up to hi: 'c' is the first one at which the other side's is below it. -/
structure Cut (d : Nat → P2) (a m b mid s : Nat) : Prop where
  as1 : a ≤ s
  sm : s ≤ m
  smid : s ≤ mid
  eb : mid + m - s ≤ b
  low : ∀ p q, a ≤ p → p < s → mid + m - s ≤ q → q < b → le (d p) (d q)
  high : ∀ p q, m ≤ p → p < mid + m - s → s ≤ q → q < m → le (d p) (d q)

theorem Cut.of_more {d : Nat → P2} {a m b mid s : Nat} (h1 : Sorted d a m) (h2 : Sorted d m b) (hmb : m < b) (hmid : 2 * mid + 1 ≥ a + b) (hmid2 : 2 * mid ≤ a + b) (hm : mid < m)
    (hs1 : mid + m - b ≤ s) (hs2 : s ≤ mid) (hl : ∀ c, mid + m - b ≤ c → c < s → ¬ lt (d (mid + m - 1 - c)) (d c)) (hr : ∀ c, s ≤ c → c < mid → lt (d (mid + m - 1 - c)) (d c)) : Cut d a m b mid s := by
  refine ⟨by omega, by omega, hs2, by omega, fun p q hp hps hq hqb => ?_, fun p q hp hpe hq hqm => ?_⟩
  · have hx : le (d (s - 1)) (d (mid + m - s)) := by
      have := hl (s - 1) (by omega) (by omega)
      rw [show mid + m - 1 - (s - 1) = mid + m - s by omega] at this
      exact this
    have e1 : le (d p) (d (s - 1)) := by
      rcases Nat.lt_or_ge p (s - 1) with h | h
      · exact h1 _ _ hp h (by omega)
      · rw [show p = s - 1 by omega]; exact le_refl _
    have e2 : le (d (mid + m - s)) (d q) := by
      rcases Nat.lt_or_ge (mid + m - s) q with h | h
      · exact h2 _ _ (by omega) h hqb
      · rw [show q = mid + m - s by omega]; exact le_refl _
    exact le_trans e1 (le_trans hx e2)
  · have hx : le (d (mid + m - 1 - s)) (d s) := le_of_lt (hr s (Nat.le_refl _) (by omega))
    have e1 : le (d p) (d (mid + m - 1 - s)) := by
      rcases Nat.lt_or_ge p (mid + m - 1 - s) with h | h
      · exact h2 _ _ hp h (by omega)
      · rw [show p = mid + m - 1 - s by omega]; exact le_refl _
    have e2 : le (d s) (d q) := by
      rcases Nat.lt_or_ge s q with h | h
      · exact h1 _ _ (by omega) h hqm
      · rw [show q = s by omega]; exact le_refl _
    exact le_trans e1 (le_trans hx e2)
theorem Cut.of_less {d : Nat → P2} {a m b mid s : Nat} (h1 : Sorted d a m) (h2 : Sorted d m b) (ham : a < m) (hmb : m < b) (hmid : 2 * mid + 1 ≥ a + b) (hmid2 : 2 * mid ≤ a + b) (hm : m ≤ mid)
    (hs1 : a ≤ s) (hs2 : s ≤ m) (hl : ∀ c, a ≤ c → c < s → ¬ lt (d (mid + m - 1 - c)) (d c)) (hr : ∀ c, s ≤ c → c < m → lt (d (mid + m - 1 - c)) (d c)) : Cut d a m b mid s := by
  refine ⟨hs1, hs2, by omega, by omega, fun p q hp hps hq hqb => ?_, fun p q hp hpe hq hqm => ?_⟩
  · have hx : le (d (s - 1)) (d (mid + m - s)) := by
      have := hl (s - 1) (by omega) (by omega)
      rw [show mid + m - 1 - (s - 1) = mid + m - s by omega] at this
      exact this
    have e1 : le (d p) (d (s - 1)) := by
      rcases Nat.lt_or_ge p (s - 1) with h | h
      · exact h1 _ _ hp h (by omega)
      · rw [show p = s - 1 by omega]; exact le_refl _
    have e2 : le (d (mid + m - s)) (d q) := by
      rcases Nat.lt_or_ge (mid + m - s) q with h | h
      · exact h2 _ _ (by omega) h hqb
      · rw [show q = mid + m - s by omega]; exact le_refl _
    exact le_trans e1 (le_trans hx e2)
  · have hx : le (d (mid + m - 1 - s)) (d s) := le_of_lt (hr s (Nat.le_refl _) (by omega))
    have e1 : le (d p) (d (mid + m - 1 - s)) := by
      rcases Nat.lt_or_ge p (mid + m - 1 - s) with h | h
      · exact h2 _ _ hp h (by omega)
      · rw [show p = mid + m - 1 - s by omega]; exact le_refl _
    have e2 : le (d s) (d q) := by
      rcases Nat.lt_or_ge s q with h | h
      · exact h1 _ _ (by omega) h hqm
      · rw [show q = s by omega]; exact le_refl _
    exact le_trans e1 (le_trans hx e2)

theorem rot_first {d : Nat → P2} {m mid s : Nat} (hs : s ≤ m) (hs2 : s ≤ mid) {k : Nat} (h1 : s ≤ k) (h2 : k < mid) : rot d s m (mid + m - s) k = d (k - s + m) := by
  simp only [rot]; rw [if_pos (by omega)]
theorem rot_second {d : Nat → P2} {m mid s : Nat} (hs : s ≤ m) (hs2 : s ≤ mid) {k : Nat} (h1 : mid ≤ k) (h2 : k < mid + m - s) : rot d s m (mid + m - s) k = d (k - (mid - s)) := by
  simp only [rot]; rw [if_neg (by omega), if_pos (by omega)]; congr 1; omega
theorem rot_off {d : Nat → P2} {m mid s : Nat} (hs : s ≤ m) (hs2 : s ≤ mid) {k : Nat} (h : k < s ∨ mid + m - s ≤ k) : rot d s m (mid + m - s) k = d k := by
  simp only [rot]; rw [if_neg (by omega), if_neg (by omega)]

/-- Behind the turn: what stands left of mid is nowhere above what stands right of it. -/
theorem Cut.apart {d : Nat → P2} {a m b mid s : Nat} (h : Cut d a m b mid s) (h1 : Sorted d a m) (h2 : Sorted d m b) {p q : Nat} (hp : a ≤ p) (hpm : p < mid) (hq : mid ≤ q) (hqb : q < b) : le (rot d s m (mid + m - s) p) (rot d s m (mid + m - s) q) := by
  obtain ⟨g1, g2, g3, g4, gl, gh⟩ := h
  by_cases c1 : p < s
  · rw [rot_off g2 g3 (.inl c1)]
    by_cases c2 : q < mid + m - s
    · rw [rot_second g2 g3 hq c2]; exact h1 _ _ hp (by omega) (by omega)
    · rw [rot_off g2 g3 (.inr (by omega))]; exact gl _ _ hp c1 (by omega) hqb
  · rw [rot_first g2 g3 (by omega) hpm]
    by_cases c2 : q < mid + m - s
    · rw [rot_second g2 g3 hq c2]; exact gh _ _ (by omega) (by omega) (by omega) (by omega)
    · rw [rot_off g2 g3 (.inr (by omega))]; exact h2 _ _ (by omega) (by omega) hqb
theorem Cut.left1 {d : Nat → P2} {a m b mid s : Nat} (h : Cut d a m b mid s) (h1 : Sorted d a m) : Sorted (rot d s m (mid + m - s)) a s := fun p q hp hpq hq => by
  rw [rot_off h.sm h.smid (.inl (by omega)), rot_off h.sm h.smid (.inl hq)]; exact h1 _ _ hp hpq (by have := h.sm; omega)
theorem Cut.left2 {d : Nat → P2} {a m b mid s : Nat} (h : Cut d a m b mid s) (h2 : Sorted d m b) : Sorted (rot d s m (mid + m - s)) s mid := fun p q hp hpq hq => by
  have := h.eb
  rw [rot_first h.sm h.smid hp (by omega), rot_first h.sm h.smid (by omega) hq]; exact h2 _ _ (by omega) (by omega) (by omega)
theorem Cut.right1 {d : Nat → P2} {a m b mid s : Nat} (h : Cut d a m b mid s) (h1 : Sorted d a m) : Sorted (rot d s m (mid + m - s)) mid (mid + m - s) := fun p q hp hpq hq => by
  have := h.as1; have := h.smid
  rw [rot_second h.sm h.smid hp (by omega), rot_second h.sm h.smid (by omega) hq]; exact h1 _ _ (by omega) (by omega) (by omega)
theorem Cut.right2 {d : Nat → P2} {a m b mid s : Nat} (h : Cut d a m b mid s) (h2 : Sorted d m b) : Sorted (rot d s m (mid + m - s)) (mid + m - s) b := fun p q hp hpq hq => by
  have := h.sm; have := h.smid
  rw [rot_off h.sm h.smid (.inr hp), rot_off h.sm h.smid (.inr (by omega))]; exact h2 _ _ (by omega) hpq hq
/-- A merge of a part whose one half is empty is done already. -/
theorem Sorted.cat {d : Nat → P2} {a s m : Nat} (h1 : Sorted d a s) (h2 : Sorted d s m) (h : ¬ (a < s ∧ s < m)) (h3 : a ≤ s) (h4 : s ≤ m) : Sorted d a m := by
  by_cases c : a < s
  · obtain rfl : s = m := by omega
    exact h1
  · obtain rfl : a = s := by omega
    exact h2
theorem Sorted.kept {d e : Nat → P2} {a b x y : Nat} (h : Sorted d a b) (p : Perm x y d e) (hd : b ≤ x ∨ y ≤ a) : Sorted e a b :=
  h.out fun k h1 h2 => p.out (by omega)
/-- BOTH HALVES SORTED, and the left nowhere above the right: all is. -/
theorem halves {d e f : Nat → P2} {a mid b : Nat} (h : ∀ p q, a ≤ p → p < mid → mid ≤ q → q < b → le (d p) (d q)) (p1 : Perm a mid d e) (s1 : Sorted e a mid) (p2 : Perm mid b e f) (s2 : Sorted f mid b) (ha : a ≤ mid) (hb : mid ≤ b) : Perm a b d f ∧ Sorted f a b := by
  refine ⟨(p1.mono (Nat.le_refl _) hb).trans (p2.mono ha (Nat.le_refl _)), fun p q hp hpq hq => ?_⟩
  by_cases c1 : q < mid
  · rw [p2.out (by omega), p2.out (by omega)]; exact s1 _ _ hp hpq c1
  · by_cases c2 : mid ≤ p
    · exact s2 _ _ c2 hpq hq
    · obtain ⟨j, j1, j2, ej⟩ := p2.into (k := q) ⟨by omega, hq⟩
      rw [p2.out (k := p) (by omega), ej, p1.out (k := j) (by omega)]
      obtain ⟨i, i1, i2, ei⟩ := p1.into (k := p) ⟨hp, by omega⟩
      rw [ei]
      exact h _ _ i1 i2 j1 j2
/-- The search of the cut goes one way: what holds at one holds at all behind it. -/
theorem cut_mono {d : Nat → P2} {a m b mid c c' : Nat} (h1 : Sorted d a m) (h2 : Sorted d m b) (hc : c ≤ c') (ha : a ≤ c) (hm : c' < m) (hp : m ≤ mid + m - 1 - c') (hb : mid + m - 1 - c < b) (hx : c' ≤ mid + m - 1) (h : lt (d (mid + m - 1 - c)) (d c)) : lt (d (mid + m - 1 - c')) (d c') := by
  rcases Nat.lt_or_ge c c' with hl | hl
  · have e1 := h1 c c' ha hl hm
    have e2 := h2 (mid + m - 1 - c') (mid + m - 1 - c) hp (by omega) hb
    unfold le lt at *
    omega
  · obtain rfl : c = c' := by omega
    exact h
end Go.Proofs.YtfhhcpmoaggdmaaGreat.So

/- The exchange of two parts of a row of spans: its contract. -/
namespace Go.Proofs.YtfhhcpmoaggdmaaGreat
open Go.RowKit Go.Lib Go.Sort
set_option linter.unusedVariables false

end Go.Proofs.YtfhhcpmoaggdmaaGreat

/- A part of a row of spans is turned: its contract. -/
namespace Go.Proofs.YtfhhcpmoaggdmaaGreat
open Go.RowKit Go.Lib Go.Sort
set_option linter.unusedVariables false

end Go.Proofs.YtfhhcpmoaggdmaaGreat

/- The merge in place: its contract, where one part is one span. -/
namespace Go.Proofs.YtfhhcpmoaggdmaaGreat
open Go.RowKit Go.Lib Go.Sort
set_option linter.unusedVariables false

end Go.Proofs.YtfhhcpmoaggdmaaGreat

/- The merge in place: its contract, where the second part is one span. -/
namespace Go.Proofs.YtfhhcpmoaggdmaaGreat
open Go.RowKit Go.Lib Go.Sort
set_option linter.unusedVariables false

end Go.Proofs.YtfhhcpmoaggdmaaGreat

/- The merge in place: its contract, where the middle is left of the second part. -/
namespace Go.Proofs.YtfhhcpmoaggdmaaGreat
open Go.RowKit Go.Lib Go.Sort
set_option linter.unusedVariables false

end Go.Proofs.YtfhhcpmoaggdmaaGreat

/- The merge in place: its contract, where the middle is not left of the second part. -/
namespace Go.Proofs.YtfhhcpmoaggdmaaGreat
open Go.RowKit Go.Lib Go.Sort
set_option linter.unusedVariables false

end Go.Proofs.YtfhhcpmoaggdmaaGreat

/- The merge in place, and the stable sort: their contracts. -/
namespace Go.Proofs.YtfhhcpmoaggdmaaGreat
open Go.RowKit Go.Lib Go.Sort
set_option linter.unusedVariables false

/-- In blocks of s, up to p, the row stands in order; behind p, up to n, in blocks of t. -/
def Blocks (d : Nat → Int × Int) (s p t n : Nat) : Prop := (∀ c, s * c + s ≤ p → So.Sorted d (s * c) (s * c + s)) ∧ (∀ c, p ≤ t * c → t * c < n → So.Sorted d (t * c) (min (t * c + t) n))

end Go.Proofs.YtfhhcpmoaggdmaaGreat

/- The stable sort of up to 60 spans: its contract. -/
namespace Go.Proofs.YtfhhcpmoaggdmaaGreat
open Go.RowKit Go.Lib Go.Sort
set_option linter.unusedVariables false

end Go.Proofs.YtfhhcpmoaggdmaaGreat

/- The document's order of spans, place by place: its contract. -/
namespace Go.Proofs.YtfhhcpmoaggdmaaGreat
open Go.RowKit Go.Lib Go.Sort
set_option linter.unusedVariables false

def ltB (a b : Int × Int) : Bool := decide (a.1 < b.1) || (decide (a.1 = b.1) && decide (a.2 < b.2))
theorem ltB_iff (a b : Int × Int) : ltB a b = true ↔ So.lt a b := by simp [ltB, So.lt]
end Go.Proofs.YtfhhcpmoaggdmaaGreat

/- The document's order of spans: its contract. -/
namespace Go.Proofs.YtfhhcpmoaggdmaaGreat
open Go.RowKit Go.Lib Go.Sort
set_option linter.unusedVariables false

theorem spCells_congr {n : Nat} {d e : Nat → Int × Int} (h : ∀ q, q < n → d q = e q) : spCells n d = spCells n e := by
  unfold spCells
  rw [List.flatMap_def, List.flatMap_def]
  congr 1
  apply List.map_congr_left
  intro i hi
  rw [h i (List.mem_range.1 hi)]
theorem spCells_add (k j : Nat) (d : Nat → Int × Int) : spCells (k + j) d = spCells k d ++ spCells j (fun q => d (k + q)) := by
  induction j with
  | zero => simp [spCells]
  | succ j ih => rw [← Nat.add_assoc, spCells_succ, ih, spCells_succ, List.append_assoc]
theorem spCells_ins {k i : Nat} (e : Nat → Int × Int) (hk : k ≤ i) : (spCells k e ++ [.int .i64 (e i).1, .int .i64 (e i).2]) ++ spCells (i - k) (fun q => e (k + q)) = spCells (i + 1) (So.rot e k i (i + 1)) := by
  rw [show i + 1 = (k + 1) + (i - k) by omega, spCells_add, spCells_add k 1]
  congr 1
  · congr 1
    · exact spCells_congr fun q hq => by simp only [So.rot]; rw [if_neg (by omega), if_neg (by omega)]
    · have : So.rot e k i (k + 1 + (i - k)) k = e i := by simp only [So.rot]; rw [if_pos (by omega)]; congr 1; omega
      simp [spCells, this]
  · refine spCells_congr fun q hq => ?_
    simp only [So.rot]
    rw [if_neg (by omega), if_pos (by omega)]
    congr 1
    omega

theorem Spans.below {w w' : World} {A : Option Addr} {len cap : Nat} {d : Nat → Int × Int} (h : Spans w A len cap d) (hb : Below w.heap.size w w') : Spans w' A len cap d := by
  refine ⟨h.1, fun hp => ?_⟩
  obtain ⟨b, off, h1, h2, h3⟩ := h.2 hp
  refine ⟨b, off, h1, Nat.lt_of_lt_of_le h2 hb.size, fun i hi => ?_⟩
  have e := hb.block b h2
  obtain ⟨c1, c2⟩ := h3 i hi
  constructor
  · rw [← c1]; simp [World.cell?, e]
  · rw [← c2]; simp [World.cell?, e]
theorem RowS.spans {w : World} {g n cap : Nat} {d : Nat → Int × Int} (h : RowS w g n cap d) (k : Nat) (hk : k ≤ n) (c : Nat) : Spans w (some ⟨g, 0, none⟩) k c d :=
  ⟨fun e => (by cases e), fun _ => ⟨g, 0, rfl, h.lt, fun i hi => by rw [Nat.zero_add]; exact ⟨h.fst (by omega), h.snd (by omega)⟩⟩⟩
theorem RowV.made {w : World} {B n : Nat} {v : Value} {d : Nat → Int × Int} (h : RowV w B v n d) (hn : 0 < n) : ∃ g cap, v = .slice (some ⟨g, 0, none⟩) n cap ∧ B ≤ g ∧ RowS w g n cap d := by
  rcases h with ⟨_, rfl⟩ | h
  · omega
  · exact h
theorem RowS.room {w : World} {g n cap : Nat} {d : Nat → Int × Int} (h : RowS w g n cap d) : n ≤ cap ∧ cap ≤ maxLen := by
  obtain ⟨cur, h1, h2, h3, h4⟩ := h
  exact h2

theorem one_cells (w : World) (p q : Int) (t : TypeId) : ∀ j u, [Value.int .i64 p, Value.int .i64 q][j]? = some u → (w.alloc (.cells #[.int .i64 p, .int .i64 q] t)).cell? ((⟨w.heap.size, 0, none⟩ : Addr).add j) = some u := by
  intro j u hj
  match j, hj with
  | 0, hj => simp at hj; subst hj; exact (Blk.new w t #[.int .i64 p, .int .i64 q]).cell 0
  | 1, hj => simp at hj; subst hj; exact (Blk.new w t #[.int .i64 p, .int .i64 q]).cell 1
theorem one_cell' (p q : Int) : ∀ u ∈ [Value.int .i64 p, Value.int .i64 q], u.oneCell' = true := by
  intro u hu; simp at hu; rcases hu with rfl | rfl <;> rfl
/-- What lies in a row of the call's own, from place k on. -/
theorem row_cells {w : World} {g n cap : Nat} {d : Nat → Int × Int} (h : RowS w g n cap d) (k j off : Nat) (hk : k + j ≤ n) (ho : off = k * 2) : ∀ x u, (spCells j (fun q => d (k + q)))[x]? = some u → w.cell? ((⟨g, off, none⟩ : Addr).add x) = some u := by
  subst ho
  exact spans_cells fun i hi => by
    have h1 := h.fst (show k + i < n by omega)
    have h2 := h.snd (show k + i < n by omega)
    rw [show (k + i) * 2 = k * 2 + i * 2 by omega] at h1 h2
    exact ⟨h1, h2⟩
theorem row_cells0 {w : World} {g n cap : Nat} {d : Nat → Int × Int} (h : RowS w g n cap d) (j : Nat) (hk : j ≤ n) : ∀ x u, (spCells j d)[x]? = some u → w.cell? ((⟨g, 0, none⟩ : Addr).add x) = some u := by
  have := row_cells h 0 j 0 (by omega) (by omega)
  simpa using this
/-- What an append to the call's own spans leaves of another row of its own. -/
theorem app_any {B g n len cap1 m : Nat} {v v1 : Value} {o o1 d' : Nat → Int × Int} {W W' wz : World} (hV : RowV W B v n o) (hR : RowS W g len cap1 d') (hvg : v.ownBlock ≠ some g) (hB : B ≤ W.heap.size) (hW : W.grownBy W' none)
    (hown : wz.ownsRow B 40 2 v1 m (spCells m o1)) (hg : W'.grownBy wz v.ownBlock) {z : Nat} (hz : W.heap.size ≤ z) (hat : v1.ownBlock = v.ownBlock ∨ v1.ownBlock = some z) :
    RowV wz B v1 m o1 ∧ v1.ownBlock ≠ some g ∧ RowS wz g len cap1 d' ∧ Below B W wz := by
  refine ⟨row_of_own hown, ?_, (hR.only hW (by simp)).only hg (fun e => hvg e.symm), (below_of_only hW hB (by simp)).trans (below_of_only hg (Nat.le_trans hB hW.size) (fun k hk => (hV.blk k hk).1))⟩
  rcases hat with h | h
  · rw [h]; exact hvg
  · rw [h]
    intro e
    injection e with e
    have h1 := hR.lt
    omega

/-- The spans l as1 the document puts them in order. -/
def USortedV (B n : Nat) (d : Nat → Int × Int) (w : World) (e : Ending) (w' : World) : Prop :=
  ∃ v d', e = .returned v ∧ RowV w' B v n d' ∧ So.Perm 0 n d d' ∧ So.Sorted d' 0 n ∧ Below B w w'

end Go.Proofs.YtfhhcpmoaggdmaaGreat

/- Are two rows of spans the same: the contract of the document's Same. -/
namespace Go.Proofs.YtfhhcpmoaggdmaaGreat
open Go.RowKit Go.Lib Go.Sort
set_option linter.unusedVariables false

end Go.Proofs.YtfhhcpmoaggdmaaGreat

/- SpanSorts: sorted spans are the same ones, in order: for every spans (of which the first 60 count) the law returns true. No condition. -/
namespace Go.Proofs.YtfhhcpmoaggdmaaGreat
open Go.RowKit Go.Lib Go.Sort
set_option linter.unusedVariables false

theorem RowV.spans {w : World} {B n : Nat} {v : Value} {d : Nat → Int × Int} (h : RowV w B v n d) : ∃ A c, v = .slice A n c ∧ Spans w A n c d := by
  rcases h with ⟨rfl, rfl⟩ | ⟨g, c, rfl, _, h⟩
  · exact ⟨none, 0, rfl, fun _ => ⟨rfl, rfl⟩, fun h => absurd h (by omega)⟩
  · exact ⟨_, c, rfl, h.spans n (Nat.le_refl _) c⟩
theorem Spans.cut {w : World} {A : Option Addr} {len cap : Nat} {d : Nat → Int × Int} (h : Spans w A len cap d) (m : Nat) (hm : m ≤ len) : Spans w A m cap d := by
  refine ⟨fun hn => ⟨by have := (h.1 hn).1; omega, (h.1 hn).2⟩, fun hp => ?_⟩
  obtain ⟨b, off, h1, h2, h3⟩ := h.2 (by omega)
  exact ⟨b, off, h1, h2, fun i hi => h3 i (by omega)⟩

end Go.Proofs.YtfhhcpmoaggdmaaGreat
