/- SpanGaps: its walk. -/
import Derived.Test.YtgineifljofljaaZ2
import Derived.Test.YtgineifljofljaaZ3
import Derived.Test.YtgineifljofljaaY3
import Derived.Laws.AppendOwnNone
namespace Go.Proofs.Ytgineifljofljaa
open Go.RowKit Go.Lib Go.Sort
set_option linter.unusedVariables false

/-- One row, and another one behind it. -/
def joinS (n : Nat) (e d : Nat → Int × Int) : Nat → Int × Int := fun i => if i < n then e i else d (i - n)
theorem spCells_join (n m : Nat) (e d : Nat → Int × Int) : spCells n e ++ spCells m d = spCells (n + m) (joinS n e d) := by
  rw [spCells_add]
  congr 1
  · exact spCells_congr fun q hq => by simp [joinS, hq]
  · exact spCells_congr fun q hq => by simp only [joinS]; rw [if_neg (by omega)]; congr 1; omega
theorem inN_join (n m : Nat) (e d : Nat → Int × Int) (x : Int) : inN (joinS n e d) x (n + m) = (inN e x n || inN d x m) := by
  rw [Bool.eq_iff_iff, Bool.or_eq_true, inN_iff, inN_iff, inN_iff]
  constructor
  · rintro ⟨i, hi, h⟩
    by_cases c : i < n
    · exact .inl ⟨i, c, by simpa [joinS, c] using h⟩
    · exact .inr ⟨i - n, by omega, by simpa [joinS, c] using h⟩
  · rintro (⟨i, hi, h⟩ | ⟨i, hi, h⟩)
    · exact ⟨i, by omega, by simpa [joinS, hi] using h⟩
    · exact ⟨n + i, by omega, by simp only [joinS]; rw [if_neg (by omega), show n + i - n = i by omega]; exact h⟩
theorem src_cells {w : World} {ad : Addr} {n c : Nat} {d : Nat → Int × Int} (h : Spans w (some ad) n c d) : ∀ j u, (spCells n d)[j]? = some u → w.cell? (ad.add j) = some u := by
  by_cases hn : 0 < n
  · obtain ⟨b, off, h1, h2, h3⟩ := h.2 hn
    injection h1 with h1
    subst h1
    exact spans_cells h3
  · obtain rfl : n = 0 := by omega
    intro j u hj
    simp [spCells] at hj

/-- append of a row of spans, whatever it is, onto a row of the call's own. -/
theorem wpList_append_spans {w : World} {ops : Array Oper} {rest : List Oper} {o : Oper} {a : Act} {Q : Exit → Act → World → Prop} (hgd : o.guard = none) (s x : Operand)
    (ho : o.op = .call { callee := .builtin .append, args := #[s, x], argTypes := #[31, 31] })
    (B : Nat) (v : Value) (n : Nat) (e : Nat → Int × Int) (hs : a.eval s = v) (hV : RowV w B v n e) (A : Option Addr) (m c : Nat) (d : Nat → Int × Int) (hx : a.eval x = .slice A m c) (hsp : Spans w A m c d) (hn : n + m ≤ 1000000) (hB : B ≤ w.heap.size)
    (h : ∀ v' w', RowV w' B v' (n + m) (joinS n e d) → Below B w w' → wpList Try.prog ops Q rest (a.put o.dst v') w') : wpList Try.prog ops Q (o :: rest) a w := by
  obtain ⟨i0, hi0, hz0, hz1, hz2⟩ := info_parts span_info
  cases A with
  | none =>
    obtain ⟨rfl, rfl⟩ := hsp.1 rfl
    refine wpList_append_own_none hgd s x 31 ho B 23 i0 2 Try.underlying31 hi0 v n (spCells n e) hs (own_of_row hV) hx ?_
    exact h v w (RowV.ext (n := n + 0) hV (fun i hi => by simp only [joinS]; rw [if_pos (by omega)])) (Below.refl _ _)
  | some ad =>
    refine wpList_append_own w hgd s x 31 ho B 23 i0 _ 2 16 Try.underlying31 hi0 hz0 hz1 hz2 rfl (by decide) v n (spCells n e) hs (own_of_row hV) ad m c (spCells m d) hx (spCells_len m d) (src_cells hsp) (spCells_cell m d) (by unfold maxLen; omega) (by omega) hB ?_
    intro v' w' hown hg _
    rw [spCells_join] at hown
    exact h v' w' (row_of_own hown) (below_of_only hg hB (fun k hk => (hV.blk k hk).1))

theorem joinS_zero (e d : Nat → Int × Int) : joinS 0 e d = d := by funext i; simp [joinS]
theorem meets_common {a b : Int × Int} (h : meetsB a b = true) : ∃ z, holdsB a z = true ∧ holdsB b z = true := by
  have h' := h
  rw [meets_iff] at h'
  simp only [Bool.and_eq_true] at h'
  have hs := h'.2
  rw [isB_iff] at hs
  have hv : holdsB (meetV a b) (meetV a b).1 = true := by
    rw [holdsB_iff]
    unfold meetV
    rw [if_pos h]
    unfold isS at hs
    omega
  rw [holds_meet, Bool.and_eq_true] at hv
  exact ⟨_, hv⟩
/-- Rising spans, and rising spans of other places: no two meet. -/
theorem join_apart {n m : Nat} {e d : Nat → Int × Int} (he : Rising n e) (hd : Rising m d) (h : ∀ x, ¬ (inN e x n = true ∧ inN d x m = true)) {x y : Int} (hf : First (joinS n e d) (n + m) x y) : x = -1 := by
  rcases hf with ⟨h1, _, _⟩ | ⟨i, k, _, _, hik, hkn, hm, _, _⟩
  · exact h1
  · exfalso
    obtain ⟨z, z1, z2⟩ := meets_common hm
    by_cases ci : i < n
    · have z1' : holdsB (e i) z = true := by simpa [joinS, ci] using z1
      by_cases ck : k < n
      · have z2' : holdsB (e k) z = true := by simpa [joinS, ck] using z2
        have := he.only ci ck z1' z2'
        omega
      · have z2' : holdsB (d (k - n)) z = true := by simpa [joinS, ck] using z2
        exact h z ⟨(inN_iff _ _ _).2 ⟨i, ci, z1'⟩, (inN_iff _ _ _).2 ⟨k - n, by omega, z2'⟩⟩
    · have ck : ¬ k < n := by omega
      have z1' : holdsB (d (i - n)) z = true := by simpa [joinS, ci] using z1
      have z2' : holdsB (d (k - n)) z = true := by simpa [joinS, ck] using z2
      have := hd.only (by omega) (by omega) z1' z2'
      omega
theorem rising_none {n : Nat} {o : Nat → Int × Int} (h : Rising n o) (hx : ∀ x, inN o x n = false) : n = 0 := by
  rcases Nat.eq_zero_or_pos n with q | q
  · exact q
  · have s := h.1 0 q
    unfold isS at s
    have := (inN_iff o (o 0).1 n).2 ⟨0, q, by rw [holdsB_iff]; omega⟩
    rw [hx] at this
    cases this
theorem RowC.zero {n : Nat} {o o2 : Nat → Int × Int} {W w' : World} {e : Ending} (h : RowC 0 o W e w') (hn : n = 0) : RowC n o2 W e w' := by
  subst hn
  obtain ⟨A, c, h1, h2, h3⟩ := h
  exact ⟨A, c, h1, ⟨h2.1, fun h => absurd h (by omega)⟩, h3⟩

theorem runs_none (n : Int) (hn : n < 0) (is : Bool) (A : Option Addr) (len cap : Nat) (w : World) :
    Calls Try.prog 25 #[.int .i64 n, .slice A len cap, .bool is] w (RowC 0 (fun _ => (0, 0)) w) := by
  go_enter Try.func25, Try.ntmps25
  go_wp2
  refine wp_loop_rounds 1 ?_
  rw [rounds_succ]
  go_wp2
  go_ret
  exact ⟨_, _, rfl, ⟨fun e => (by cases e), fun h => absurd h (by omega)⟩, (Below.refl _ _).alloc (Nat.le_refl _) _⟩

set_option maxRecDepth 100000 in
set_option maxHeartbeats 3200000 in
theorem gaps_walk (n : Int) (A : Option Addr) (len cap : Nat) (d : Nat → Int × Int) (w : World) (hsp : Spans w A len cap d) (hl : len ≤ maxLen) : Calls Try.prog 7 #[.int .i64 n, .slice A len cap] w fun e w' => e = .returned (.bool true) ∧ Below w.heap.size w w' := by
  have HSP := Lib.hid hsp
  have HSM := Lib.hid (small_any A len cap d w hsp hl)
  clear hsp
  by_cases hn : 300 < n
  · clear HSM HSP hl
    go_enter Try.func7, Try.ntmps7
    go_wp2_with (go_at_call 12; refine (live_any _).mono ?_; rintro e w2 ⟨rfl, b2⟩)
    go_ret
    exact ⟨rfl, b2⟩
  · have hns : decide (300 < n) = false := by simpa using hn
    go_enter Try.func7, Try.ntmps7
    go_wp2_with fail
    refine HSM.out.mono ?_
    rintro e w1 ⟨r, rfl, h1, b1⟩
    have H1 := Lib.hid h1
    have B1 := Lib.hid b1
    clear h1 b1 HSM
    cases r with
    | false =>
      go_wp2_with (go_at_call 12; refine (live_any _).mono ?_; rintro e w2 ⟨rfl, b2⟩; have B2 := Lib.hid (B1.out.trans (b2.mono B1.out.size)); clear b2)
      go_ret
      exact ⟨rfl, B2.out⟩
    | true =>
      obtain ⟨hl30, h300⟩ := H1.out (by first | rfl | trivial)
      have H300 := Lib.hid h300
      have HG := Lib.hid (gaps_any n A len cap d w1 (HSP.out.below B1.out) (by omega) (stable_ok len (by omega)))
      clear h300 H1 hl hns
      go_wp2_with fail
      refine HG.out.mono ?_
      rintro e w2 ⟨v1, kg, g, rfl, hv1, hkg, hup, hin, hb1⟩
      obtain ⟨Ag, cg, rfl, hsg⟩ := hv1.spans
      have HSG := Lib.hid hsg
      have HUP := Lib.hid hup
      have HIN := Lib.hid hin
      have HB2 := Lib.hid (B1.out.trans (hb1.mono B1.out.size))
      clear hv1 hsg hup hin hb1 HG
      have hruns2 : ∀ W, Below w.heap.size w W → Calls Try.prog 25 #[.int .i64 n, .slice A len cap, .bool false] W (RowC kg g W) := fun W hW => by
        by_cases h0 : n < 0
        · refine (runs_none n h0 false A len cap W).mono fun e w' h => h.zero ?_
          refine rising_none HUP.out fun x => ?_
          rw [HIN.out]
          have : decide (0 ≤ x ∧ x < n) = false := by simp; omega
          rw [this]; rfl
        · obtain ⟨N, rfl⟩ : ∃ N : Nat, n = N := ⟨n.toNat, by omega⟩
          refine (runs_any N (by omega) false A len cap d W (HSP.out.below hW) (by omega)).mono fun e w' ⟨v, he, hv, hb⟩ => ?_
          have r := running (fun x => inN d x len == false) N
          have same : ∀ x, inN g x kg = inN (rTo (fun x => inN d x len == false) N).2 x (rTo (fun x => inN d x len == false) N).1 := fun x => by
            rw [HIN.out, r.same]
            congr 1
            cases inN d x len <;> rfl
          exact RowC.of he hv (HUP.out.len r.up same) (fun i hi => (HUP.out.one r.up same i hi).2) hb
      have hruns1 : ∀ W, Below w.heap.size w W → Calls Try.prog 25 #[.int .i64 (300 : Int), .slice A len cap, .bool true] W (fun e w' => ∃ A6 n6 c6 o6, e = .returned (.slice A6 n6 c6) ∧ Spans w' A6 n6 c6 o6 ∧ Rising n6 o6 ∧ n6 ≤ 300 ∧ (∀ x, inN o6 x n6 = (decide (0 ≤ x ∧ x < 300) && inN d x len)) ∧ Below W.heap.size W w') := fun W hW => (runs_any 300 (by omega) true A len cap d W (HSP.out.below hW) (by omega)).mono fun e w' ⟨v, he, hv, hb⟩ => by
        have r := running (fun x => inN d x len == true) 300
        obtain ⟨A6, c6, rfl, hs⟩ := hv.spans
        refine ⟨A6, _, c6, _, he, hs, r.up, rTo_le _ _, fun x => ?_, hb⟩
        rw [r.same]
        simp
      have HR1 := Lib.hid hruns1
      have HR2 := Lib.hid hruns2
      clear hruns1 hruns2
      go_wp2_with (first
        | (refine wpList_append_spans (o := ⟨some 24, _, _, _, _, _⟩) rfl (.tmp 22) (.tmp 23) rfl w2.heap.size _ 0 g rfl (RowV.bare w2 w2.heap.size g (Nat.le_refl _)) Ag kg cg g rfl (HSG.out.below ((Below.refl w2.heap.size w2).alloc (Nat.le_refl _) (.cells #[] 23))) (by omega) (by simp) ?_; intro v3 w3 hv3 hb3; rw [Nat.zero_add, joinS_zero] at hv3; have HV3 := Lib.hid hv3; have HB3 := Lib.hid (((Below.refl w2.heap.size w2).alloc (Nat.le_refl _) (.cells #[] 23)).trans hb3); clear hv3 hb3; obtain ⟨A3, c3, rfl⟩ := HV3.out.form)
        | (refine wpList_append_spans (o := ⟨some 26, _, _, _, _, _⟩) rfl (.tmp 24) (.tmp 25) rfl w2.heap.size (.slice A3 kg c3) kg g rfl HV3.out A len cap d rfl (HSP.out.below (HB2.out.trans (HB3.out.mono HB2.out.size))) (by omega) HB3.out.size ?_; intro v4 w4 hv4 hb4; have HB4 := Lib.hid (HB3.out.trans hb4); obtain ⟨A4, c4, rfl, hs4⟩ := hv4.spans; have HS4 := Lib.hid hs4; clear hv4 hb4 hs4)
        | (refine wpList_append_spans (o := ⟨some 30, _, _, _, _, _⟩) rfl (.tmp 28) (.tmp 29) rfl w4.heap.size _ 0 g rfl (RowV.bare w4 w4.heap.size g (Nat.le_refl _)) Ag kg cg g rfl (HSG.out.below (HB4.out.trans (((Below.refl w4.heap.size w4).alloc (Nat.le_refl _) (.cells #[] 23)).mono HB4.out.size))) (by omega) (by simp) ?_; intro v5 w5 hv5 hb5; rw [Nat.zero_add, joinS_zero] at hv5; have HV5 := Lib.hid hv5; have HB5 := Lib.hid (((Below.refl w4.heap.size w4).alloc (Nat.le_refl _) (.cells #[] 23)).trans hb5); clear hv5 hb5; obtain ⟨A5, c5, rfl⟩ := HV5.out.form)
        | (go_at_call 25; (with_reducible refine (HR1.out _ (HB2.out.trans ((HB4.out.trans (HB5.out.mono HB4.out.size)).mono HB2.out.size))).mono ?_); rintro e w6 ⟨A6, n6, c6, o6, rfl, hs6, hu6, hn6, hi6, hb6⟩; have HS6 := Lib.hid hs6; have HU6 := Lib.hid hu6; have HI6 := Lib.hid hi6; have HV6 := Lib.hid (HV5.out.far hb6); have HB6 := Lib.hid (HB5.out.trans (hb6.mono HB5.out.size)); clear hs6 hu6 hi6 hb6)
        | (refine wpList_append_spans (o := ⟨some 33, _, _, _, _, _⟩) rfl (.tmp 30) (.tmp 32) rfl w4.heap.size (.slice A5 kg c5) kg g rfl HV6.out A6 n6 c6 o6 rfl HS6.out (by omega) HB6.out.size ?_; intro v7 w7 hv7 hb7; have HB7 := Lib.hid (HB6.out.trans hb7); obtain ⟨A7, c7, rfl, hs7⟩ := hv7.spans; have HS7 := Lib.hid hs7; clear hv7 hb7 hs7)
        | (go_at_call 18; refine (rfirst_any A7 (kg + n6) c7 _ w7 HS7.out (by omega)).mono ?_; rintro e w8 ⟨x, y, rfl, hf, hb8⟩; have HF := Lib.hid hf; have HB8 := Lib.hid (HB7.out.trans (hb8.mono HB7.out.size)); clear hf hb8))
      have hx := join_apart HUP.out HU6.out (fun z ⟨z1, z2⟩ => by
        rw [HIN.out] at z1
        rw [HI6.out] at z2
        cases h : inN d z len
        · rw [h] at z2; simp at z2
        · rw [h] at z1; simp at z1) HF.out
      subst hx
      have HBW := Lib.hid (HB2.out.trans ((HB4.out.trans (HB8.out.mono HB4.out.size)).mono HB2.out.size))
      have HS8 := Lib.hid (HS4.out.below HB8.out)
      have HSG8 := Lib.hid (HSG.out.below (HB4.out.trans (HB8.out.mono HB4.out.size)))
      clear HF HS7 HB7 HB6 HV6 HS6 HU6 HI6 HV5 HB5 HS4 HV3 HB3 HB4 HB8 HB2 HSG HR1 B1 HSP HUP
      go_loopw [9, 10] (fun h a wr => ∃ k : Nat, a = .int .i64 k ∧ h = .bool true ∧ k ≤ 300 ∧ Below w8.heap.size w8 wr) (fun _ a _ => (n - intOf a).toNat)
      case atStart => exact ⟨0, rfl, rfl, by omega, Below.refl _ _⟩
      case round =>
        obtain ⟨k, rfl, rfl, hk, hb⟩ := hrel
        have HBE := Lib.hid hb
        clear hb
        by_cases hkn : (k : Int) < n
        · have hcall := rin_any A4 (kg + len) c4 (joinS kg g d) k wr (HS8.out.below HBE.out) (by omega)
          have hin : inN (joinS kg g d) k (kg + len) = true := by
            rw [inN_join, HIN.out, decide_eq_true (show (0 : Int) ≤ (k : Int) ∧ (k : Int) < n by omega)]
            cases inN d k len <;> rfl
          rw [hin] at hcall
          have HCALL := Lib.hid hcall
          clear hcall hin
          go_wp2_with (go_at_call 27; refine HCALL.out.mono ?_; rintro e w9 ⟨rfl, b9⟩; have HB9 := Lib.hid (HBE.out.trans (b9.mono HBE.out.size)); clear b9)
          go_roundw
          case rel => exact ⟨k + 1, by go_num, rfl, by omega, HB9.out⟩
          case measure => simp [intOf] <;> omega
        · have HBR := Lib.hid (HBW.out.trans (HBE.out.mono HBW.out.size))
          go_wp2_with (first | (go_at_call 12; refine (live_any _).mono ?_; rintro e w10 ⟨rfl, b10⟩; have B10 := Lib.hid (HBE.out.trans (b10.mono HBE.out.size)); clear b10) | (go_at_call 25; (with_reducible refine (HR2.out _ (HBW.out.trans (B10.out.mono HBW.out.size))).mono ?_); rintro e w11 ⟨A11, c11, rfl, s11, b11⟩; have S11 := Lib.hid s11; have B11 := Lib.hid (B10.out.trans (b11.mono B10.out.size)); clear s11 b11) | (go_at_call 20; (with_reducible refine (same_any Ag A11 kg cg c11 g g _ (HSG8.out.below B11.out) S11.out (fun _ _ => rfl) (by omega)).mono ?_); rintro e w12 ⟨rfl, b12⟩; have B12 := Lib.hid (B11.out.trans (b12.mono B11.out.size)); clear b12))
          go_ret
          exact ⟨rfl, HBW.out.trans (B12.out.mono HBW.out.size)⟩
end Go.Proofs.Ytgineifljofljaa
