/- SpanMerges: its walk. -/
import Derived.Test.YtgineifljofljaaY2
namespace Go.Proofs.Ytgineifljofljaa
open Go.RowKit Go.Lib Go.Sort
set_option linter.unusedVariables false

theorem RowV.ext {w : World} {B n : Nat} {v : Value} {d e : Nat → Int × Int} (h : RowV w B v n d) (he : ∀ i, i < n → d i = e i) : RowV w B v n e := by
  rcases h with h | ⟨g, cap, h1, h2, cur, h3, h4, h5, h6⟩
  · exact .inl h
  · exact .inr ⟨g, cap, h1, h2, cur, h3, h4, h5, fun i hi => by rw [← he i hi]; exact h6 i hi⟩

/-- A row of spans is answered. -/
def RowC (n : Nat) (o : Nat → Int × Int) (W : World) (e : Ending) (w' : World) : Prop := ∃ A c, e = .returned (.slice A n c) ∧ Spans w' A n c o ∧ Below W.heap.size W w'
theorem RowC.of {B n n2 : Nat} {o o2 : Nat → Int × Int} {W w' : World} {e : Ending} {v : Value} (he : e = .returned v) (h : RowV w' B v n2 o2) (hn : n = n2) (ho : ∀ i, i < n → o i = o2 i) (hb : Below W.heap.size W w') : RowC n o W e w' := by
  subst hn
  obtain ⟨A, c, rfl, hs⟩ := (h.ext (fun i hi => (ho i hi).symm)).spans
  exact ⟨A, c, he, hs, hb⟩

set_option maxRecDepth 100000 in
set_option maxHeartbeats 3200000 in
theorem merges_walk (A : Option Addr) (len cap : Nat) (d : Nat → Int × Int) (w : World) (hsp : Spans w A len cap d) (hl : len ≤ maxLen) : Calls Try.prog 6 #[.slice A len cap] w fun e w' => e = .returned (.bool true) ∧ Below w.heap.size w w' := by
  obtain ⟨i0, hi0, hz0, hz1, hz2⟩ := info_parts span_info
  have HSP := Lib.hid hsp
  have HSM := Lib.hid (small_any A len cap d w hsp hl)
  clear hsp
  go_enter Try.func6, Try.ntmps6
  go_wp2_with fail
  refine HSM.out.mono ?_
  rintro e w1 ⟨r, rfl, h1, b1⟩
  have H1 := Lib.hid h1
  have B1 := Lib.hid b1
  clear h1 b1 HSM
  cases r with
  | false =>
    go_wp2_with (go_at_call 12; refine (live_any _).mono ?_; rintro e w2 ⟨rfl, b2⟩; have B2 := Lib.hid (B1.out.trans (b2.mono B1.out.size)); clear b2)
    go_ret
    exact ⟨rfl, B2.out⟩
  | true =>
    obtain ⟨hl30, h300⟩ := H1.out (by first | rfl | trivial)
    have H300 := Lib.hid h300
    have HM1 := Lib.hid (merge_any A len cap d w1 (HSP.out.below B1.out) (by omega) (stable_ok len (by omega)))
    clear h300 H1 hl
    go_wp2_with (go_at_call 24; refine HM1.out.mono ?_)
    rintro e w2 ⟨v1, d1, rfl, hv1, hp1, hs1, hb1⟩
    have hle := mTo_le d1 len
    have hruns : ∀ W, Below w.heap.size w W → Calls Try.prog 25 #[.int .i64 (300 : Int), .slice A len cap, .bool true] W (RowC (mTo d1 len).1 (mTo d1 len).2 W) := fun W hW => (runs_any 300 (by omega) true A len cap d W (HSP.out.below hW) (by omega)).mono fun e w' ⟨v, he, hv, hb⟩ => by
      have q := merge_runs (k := 300) (p := fun x => inN d x len == true) hp1 hs1 (fun i hi => by simpa using H300.out i hi) (fun x _ _ => by simp)
      exact RowC.of he hv q.1 q.2 hb
    have hm2 : ∀ W A1 c1, Spans W A1 (mTo d1 len).1 c1 (mTo d1 len).2 → Calls Try.prog 24 #[.slice A1 (mTo d1 len).1 c1] W (RowC (mTo d1 len).1 (mTo d1 len).2 W) := fun W A1 c1 hW => (merge_any A1 _ c1 _ W hW (by omega) (stable_ok _ (by omega))).mono fun e w' ⟨v, d2, he, hv, hp, hs, hb⟩ => by
      have q := merge_same (merging hs1 len (Nat.le_refl _)).up hp hs
      exact RowC.of he hv q.1.symm (fun i hi => (q.2 i hi).symm) hb
    have hm3 : ∀ W Ab cb, Spans W Ab len cb (fun i => d (len - 1 - i)) → Calls Try.prog 24 #[.slice Ab len cb] W (RowC (mTo d1 len).1 (mTo d1 len).2 W) := fun W Ab cb hW => (merge_any Ab len cb _ W hW (by omega) (stable_ok _ (by omega))).mono fun e w' ⟨v, d2, he, hv, hp, hs, hb⟩ => by
      have q := merge_one hp1 hs1 hp hs (fun x => (back_same x).symm)
      exact RowC.of he hv q.1 q.2 hb
    have hsame : ∀ W A1 c1 A2 c2, Spans W A1 (mTo d1 len).1 c1 (mTo d1 len).2 → Spans W A2 (mTo d1 len).1 c2 (mTo d1 len).2 → Calls Try.prog 20 #[.slice A1 (mTo d1 len).1 c1, .slice A2 (mTo d1 len).1 c2] W fun r w' => r = .returned (.bool true) ∧ Below W.heap.size W w' := fun W A1 c1 A2 c2 h h2 => same_any A1 A2 _ c1 c2 _ _ W h h2 (fun _ _ => rfl) (by omega)
    obtain ⟨A1, c1, rfl, hsp1⟩ := hv1.spans
    have HRUNS := Lib.hid hruns
    have HM2 := Lib.hid hm2
    have HM3 := Lib.hid hm3
    have HSAME := Lib.hid hsame
    have HSP1 := Lib.hid hsp1
    have HBW := Lib.hid (B1.out.trans (hb1.mono B1.out.size))
    clear hruns hm2 hm3 hsame hsp1 hv1 hp1 hs1 hb1 HM1 H300
    generalize (mTo d1 len).1 = n1 at *
    generalize (mTo d1 len).2 = o1 at *
    go_wp2
    go_loopw [4, 5] (fun v i wr => ∃ (k : Nat) (x : Int), i = .int .i64 x ∧ k ≤ len ∧ x + k + 1 ≤ len ∧ len ≤ x + k + 1 ∧ RowV wr w2.heap.size v k (fun i => d (len - 1 - i)) ∧ Below w2.heap.size w2 wr) (fun _ i _ => (intOf i + 1).toNat)
    case atStart => exact ⟨0, (len : Int) - 1, rfl, by omega, by omega, by omega, RowV.bare w2 _ _ (Nat.le_refl _), (Below.refl _ _).alloc (Nat.le_refl _) _⟩
    case round =>
      obtain ⟨k, x, rfl, hk, hx1, hx2, hv, hb⟩ := hrel
      have HV := Lib.hid hv
      have HB := Lib.hid hb
      clear hv hb
      obtain ⟨Ab, cb, rfl⟩ := HV.out.form
      by_cases hkl : k < len
      · obtain ⟨q, rfl⟩ : ∃ q : Nat, x = q := ⟨x.toNat, by omega⟩
        have hql : q < len := by omega
        obtain ⟨b, off, rfl, hbl, hc⟩ := (HSP.out.below (HBW.out.trans (HB.out.mono HBW.out.size))).2 (by omega)
        have cc0 := (hc q hql).1
        have cc1 := (hc q hql).2
        clear hc
        have hext : So.upd (fun i => d (len - 1 - i)) k (d q) = fun i => d (len - 1 - i) := by
          funext i
          by_cases e : i = k
          · subst e; simp [So.upd]; congr 1; omega
          · simp [So.upd, e]
        have HEXT := Lib.hid hext
        clear hext
        obtain ⟨s, hs⟩ : ∃ s, s = d q := ⟨_, rfl⟩
        rw [← hs] at cc0 cc1
        have HS := Lib.hid hs
        clear hs
        have i1 : (q : Int) < (len : Int) := by omega
        go_wp2_with (at_builtin; refine wpList_append_own_at _ rfl (.tmp 20) (.tmp 25) 31 rfl w2.heap.size 23 i0 _ 2 16 Try.underlying31 hi0 hz0 hz1 hz2 rfl (by decide) (.slice Ab k cb) k (spCells k (fun i => d (len - 1 - i))) rfl (by exact World.ownsRow.alloc (w := wr) (own_of_row HV.out) _) ⟨wr.heap.size, 0, none⟩ 1 1 [.int .i64 s.1, .int .i64 s.2] rfl rfl (one_cells _ _ _ _) (one_cell' _ _) (by unfold maxLen; omega) (by omega) (by have := HB.out.size; simp; omega) ?_; intro v3 wz hown1 hg1 _ hat1; have R1 := Lib.hid (app_own (s := s) HV.out HB.out.size (only_alloc (only_refl wr none) _) hown1 hg1); clear hown1 hg1 hat1; obtain ⟨A3, c3, rfl⟩ := R1.out.1.form)
        go_roundw
        case rel =>
          have R2 := R1.out.1
          rw [HS.out, HEXT.out] at R2
          exact ⟨k + 1, _, by first | rfl | go_num, by omega, by omega, by omega, R2, HB.out.trans R1.out.2⟩
        case measure => simp [intOf] <;> omega
      · obtain rfl : k = len := by omega
        obtain rfl : x = -1 := by omega
        have hspb : Spans wr Ab k cb (fun i => d (k - 1 - i)) := by
          obtain ⟨A', c', hv, hs⟩ := HV.out.spans
          injection hv with e1 e2 e3
          subst e1 e3
          exact hs
        have HSPB := Lib.hid hspb
        have HSP2 := Lib.hid (HSP1.out.below HB.out)
        have HBR := Lib.hid (HBW.out.trans (HB.out.mono HBW.out.size))
        clear hspb
        go_wp2_with (first | (go_at_call 12; refine (live_any _).mono ?_; rintro e w3 ⟨rfl, b3⟩; have B3 := Lib.hid (b3 : Below wr.heap.size wr w3); clear b3) | (go_at_call 25; refine (HRUNS.out _ (HBR.out.trans (B3.out.mono HBR.out.size))).mono ?_; rintro e w4 ⟨A4, c4, rfl, s4, b4⟩; have S4 := Lib.hid s4; have B4 := Lib.hid (B3.out.trans (b4.mono B3.out.size)); clear s4 b4) | (go_at_call 20; (with_reducible refine (HSAME.out _ A1 c1 A4 c4 (HSP2.out.below B4.out) S4.out).mono ?_); rintro e w5 ⟨rfl, b5⟩; have B5 := Lib.hid (B4.out.trans (b5.mono B4.out.size)); clear b5) | (go_at_call 24; (with_reducible refine (HM2.out _ A1 c1 (HSP2.out.below B5.out)).mono ?_); rintro e w6 ⟨A6, c6, rfl, s6, b6⟩; have S6 := Lib.hid s6; have B6 := Lib.hid (B5.out.trans (b6.mono B5.out.size)); clear s6 b6) | (go_at_call 20; (with_reducible refine (HSAME.out _ A6 c6 A1 c1 S6.out (HSP2.out.below B6.out)).mono ?_); rintro e w7 ⟨rfl, b7⟩; have B7 := Lib.hid (B6.out.trans (b7.mono B6.out.size)); clear b7) | (go_at_call 24; (with_reducible refine (HM3.out _ Ab cb (HSPB.out.below B7.out)).mono ?_); rintro e w8 ⟨A8, c8, rfl, s8, b8⟩; have S8 := Lib.hid s8; have B8 := Lib.hid (B7.out.trans (b8.mono B7.out.size)); clear s8 b8) | (go_at_call 20; (with_reducible refine (HSAME.out _ A8 c8 A1 c1 S8.out (HSP2.out.below B8.out)).mono ?_); rintro e w9 ⟨rfl, b9⟩; have B9 := Lib.hid (B8.out.trans (b9.mono B8.out.size)); clear b9))
        go_ret
        exact ⟨rfl, HBR.out.trans (B9.out.mono HBR.out.size)⟩
end Go.Proofs.Ytgineifljofljaa
