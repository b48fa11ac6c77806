/- The walk of DiskWaits. -/
import Derived.Test.YtlmdnhpdeiekfaaJ13
import Derived.Test.YtlmdnhpdeiekfaaJ15
namespace Go.Proofs.Ytlmdnhpdeiekfaa
open Go.RowKit Go.Lib Go.Sort
set_option linter.unusedVariables false

theorem newV_ok {d : Nat → Prt} {n : Nat} {W w' : World} {e : Ending} {b : Nat} (hb : W.heap.size = b) (h0 : newE d n = 0) (h : NewV d n W e w') : e = .returned (.tuple #[.pointer (some ⟨b, 0, none⟩), .int .i64 0]) ∧ Dsk w' b (fun _ => 0) (tblN d n) false noJob 0 (.slice none 0 0) ∧ Below b W w' := by
  subst hb
  obtain ⟨h1, ⟨h2, _⟩ | ⟨_, h2, h3⟩⟩ := h
  · exact absurd h0 h2
  · exact ⟨h2, h3, h1⟩
theorem startV_zero {T : Nat → Prt} {bz : Bool} {tick : Int} {x : Jb} (h : startV T bz tick x = 0) : 0 ≤ tick ∧ tick ≤ 2147483647 ∧ bz = false ∧ askD T x = 0 := by
  unfold startV at h
  by_cases h1 : tick < 0 ∨ 2147483647 < tick
  · rw [if_pos h1] at h; cases h
  · rw [if_neg h1] at h
    cases bz with
    | true => simp at h
    | false => exact ⟨by omega, by omega, rfl, by simpa using h⟩

theorem box_size {w W : World} {o : Obj} (h : Below (w.heap.size + 1) (w.alloc o) W) : w.heap.size + 1 ≤ W.heap.size := by
  have := h.size
  simpa using this
theorem box_next {w W W2 : World} {o : Obj} (h : Below (w.heap.size + 1) (w.alloc o) W) (k : Below W.heap.size W W2) : Below (w.heap.size + 1) (w.alloc o) W2 := h.trans (k.mono (box_size h))
theorem box_row {w W W2 : World} {o : Obj} {b : Nat} (h : Below (w.heap.size + 1) (w.alloc o) W) (g : W.grownBy W2 (some b)) (hb : w.heap.size + 1 ≤ b) : Below (w.heap.size + 1) (w.alloc o) W2 := h.trans (below_of_only g (box_size h) (fun k hk => by injection hk with hk; omega))
theorem box_keeps {w W W2 : World} {o : Obj} {b : Nat} (h : Below (w.heap.size + 1) (w.alloc o) W) (g : Keeps (DskB b (.slice none 0 0)) W W2) (hb : w.heap.size + 1 ≤ b) : Below (w.heap.size + 1) (w.alloc o) W2 := h.trans (keepsD_below g (box_size h) hb)
theorem cut_eq {t : ByteArray} {m i : Nat} (ht : t.size = m * 16) (hi : i < m) : (⟨((t.data.toList.drop (i * 16)).take 16).toArray⟩ : ByteArray) = t.extract (16 * (i : Int)).toNat (16 * (i : Int) + 16).toNat := by
  have e1 : (16 * (i : Int)).toNat = i * 16 := by omega
  have e2 : (16 * (i : Int) + 16).toNat = i * 16 + 16 := by omega
  rw [e1, e2]
  apply ByteArray.ext
  rw [ByteArray.data_extract]
  apply Array.toList_inj.1
  rw [Array.toList_extract, List.extract_eq_take_drop, Nat.add_sub_cancel_left]
theorem log_at {w : World} {B m c i : Nat} {g : Nat} {rc : Nat → Rec} (h : LogV w B (.slice (some ⟨g, 0, none⟩) m c) m rc) (hi : i < m) : w.cell? ⟨g, i * 4, none⟩ = some (.int .i64 (rc i).1) ∧ w.cell? ⟨g, i * 4 + 1, none⟩ = some (.int .i64 (rc i).2.1) ∧ w.cell? ⟨g, i * 4 + 2, none⟩ = some (.int .i64 (rc i).2.2.1) ∧ w.cell? ⟨g, i * 4 + 3, none⟩ = some (.string (rc i).2.2.2) := by
  have hc : ∀ r, r < 4 → w.cell? ⟨g, i * 4 + r, none⟩ = (recCells (rc i))[r]? := fun r hr => by
    rw [World.ownsRow.cellAt h (i * 4 + r) (by omega), rcCells_at rc hi hr]
  exact ⟨hc 0 (by omega), hc 1 (by omega), hc 2 (by omega), hc 3 (by omega)⟩
theorem log_some {w : World} {B m : Nat} {v : Value} {rc : Nat → Rec} (h : LogV w B v m rc) (hm : 0 < m) : ∃ g c, v = .slice (some ⟨g, 0, none⟩) m c := by
  have h' : w.ownsRow B 48 4 v m (rcCells m rc) := h
  rcases h'.2 with ⟨_, h0⟩ | ⟨g, cap, cur, e, _⟩
  · omega
  · exact ⟨g, cap, e⟩
/-- The box of a job stays. -/
theorem job_cells2 {w W : World} {j : Jb} (hb : Below (w.heap.size + 1) (w.alloc (.cells #[.int .i64 j.1, .int .i64 j.2.1, .int .i64 j.2.2.1, .bool j.2.2.2.1, .string j.2.2.2.2] 36)) W) : Below w.heap.size w W := ((Below.refl w.heap.size w).alloc (Nat.le_refl _) _).trans (hb.mono (by omega))

set_option maxRecDepth 20000 in
set_option maxHeartbeats 3200000 in
theorem waits_walk (A : Option Addr) (len cap : Nat) (d : Nat → Prt) (j : Jb) (fr at' : Int) (w : World) (hst : PrtsV w A len d) (hf : ∀ i, i < len → FitP (d i)) (hj : FitJ j) (hfr : fitI fr) (hat : fitI at') (hlc : len ≤ cap) (hcm : cap ≤ 9223372036854775807) :
    Calls Try.prog 4 #[.slice A len cap, jbv j, .int .i64 fr, .int .i64 at'] w fun e w' => e = .returned (.bool true) ∧ Below w.heap.size w w' := by
  have HL := Lib.hid (fun W => live14_any W)
  have hb0 : Below w.heap.size w (w.alloc (.cells #[.int .i64 j.1, .int .i64 j.2.1, .int .i64 j.2.2.1, .bool j.2.2.2.1, .string j.2.2.2.2] 36)) := (Below.refl _ _).alloc (Nat.le_refl _) _
  have HR := Lib.hid (rows_any A len cap d _ (hst.below hb0) hlc hcm)
  have HJ := Lib.hid (fun (W : World) (hb : Below (w.heap.size + 1) (w.alloc (.cells #[.int .i64 j.1, .int .i64 j.2.1, .int .i64 j.2.2.1, .bool j.2.2.2.1, .string j.2.2.2.2] 36)) W) => job_cells (j := j) hb)
  have HJ2 := Lib.hid (fun (W : World) (hb : Below (w.heap.size + 1) (w.alloc (.cells #[.int .i64 j.1, .int .i64 j.2.1, .int .i64 j.2.2.1, .bool j.2.2.2.1, .string j.2.2.2.2] 36)) W) => job_cells2 (j := j) hb)
  obtain ⟨n, hn, hn8, hnl⟩ : ∃ n, min len 8 = n ∧ n ≤ 8 ∧ n ≤ len := ⟨_, rfl, by omega, by omega⟩
  rw [hn] at HR
  have hfn : ∀ i, i < n → FitP (d i) := fun i hi => hf i (by omega)
  have HST := Lib.hid (fun (W : World) (hb : Below (w.heap.size + 1) (w.alloc (.cells #[.int .i64 j.1, .int .i64 j.2.1, .int .i64 j.2.2.1, .bool j.2.2.2.1, .string j.2.2.2.2] 36)) W) => (hst.cut n hnl).below (job_cells2 (j := j) hb))
  have HC := Lib.hid (fun (W : World) (A2 : Option Addr) (c2 : Nat) (h : PrtsV W A2 n d) => rcheck_any A2 n c2 d W h hfn (by omega))
  have HNW := Lib.hid (fun (W : World) (h : PrtsV W A n d) => dnew_any A n cap d W h hfn (by omega))
  have HJF := Lib.hid hj
  have HFR := Lib.hid hfr
  have HAT := Lib.hid hat
  clear hst hf hj hfr hat hb0 hn hnl hlc hcm hfn
  unfold RCheckV at HC
  have hr := HR.out.mono (R' := fun e w' => ∃ A2 c2, e = .returned (.tuple #[.slice A n cap, .slice A2 n c2]) ∧ PrtsV w' A2 n d ∧ Below (w.heap.size + 1) (w.alloc (.cells #[.int .i64 j.1, .int .i64 j.2.1, .int .i64 j.2.2.1, .bool j.2.2.2.1, .string j.2.2.2.2] 36)) w') fun e w' h => by
    obtain ⟨A2, c2, h1, h2, h3⟩ := h
    exact ⟨A2, c2, h1, h2.prts, by simpa using h3⟩
  have HROW := Lib.hid hr
  clear hr HR
  by_cases hE : newE d n = 0
  · rw [hE] at HC
    have HE := Lib.hid hE
    by_cases h100 : (100 : Int) < (j.2.2.2.2.size : Int)
    · clear HNW hE HST
      obtain ⟨jo, js, jn, jw, jt⟩ := j
      simp only at h100
      go_enter Try.func4, Try.ntmps4
      go_wp2_with (first
        | (go_at_call 6; with_reducible refine HROW.out.mono ?_; rintro e w1 ⟨A2, c2, rfl, p1, b1⟩; have P1 := Lib.hid p1; have B1 := Lib.hid b1; clear p1 b1)
        | (go_at_call 8; with_reducible refine (HC.out _ _ _ P1.out).mono ?_; rintro e w2 ⟨rfl, b2⟩; have b12 := box_next B1.out b2; have B2 := Lib.hid b12; obtain ⟨c0, c1, c2', c3, c4⟩ := HJ.out _ b12; clear b2 b12)
        | (go_at_call 9; with_reducible refine (HL.out _).mono ?_; rintro e w3 ⟨rfl, b3⟩; have B3 := Lib.hid ((HJ2.out _ B2.out).trans (b3.mono (HJ2.out _ B2.out).size)); clear b3))
      go_ret
      exact ⟨rfl, B3.out⟩
    · have hnw : ∀ W b, W.heap.size = b → PrtsV W A n d → Calls Try.prog 7 #[.slice A n cap] W fun e w' => e = .returned (.tuple #[.pointer (some ⟨b, 0, none⟩), .int .i64 0]) ∧ Dsk w' b (fun _ => 0) (tblN d n) false noJob 0 (.slice none 0 0) ∧ Below b W w' := fun W b hb hp => (HNW.out W hp).mono fun e w' h => newV_ok hb HE.out h
      have HNEW := Lib.hid hnw
      have hwit := tblN_within hE
      have hlog := fun (W : World) (b : Nat) (T : Nat → Prt) (S : Nat → UInt8) (bz : Bool) (x : Jb) (st : Int) (h : Dsk W b S T bz x st (.slice none 0 0)) => (log_any (B := 0) (n := 0) (rc := fun _ => (0, 0, 0, ⟨#[]⟩)) h (LogV.nil _ _ _) (by omega)).mono (R' := fun e w' => ∃ A' c', e = .returned (.slice A' 0 c') ∧ Below W.heap.size W w') fun e w' ⟨v', h1, h2, h3⟩ => by
        obtain ⟨A', c', rfl⟩ := h2.form
        exact ⟨A', c', h1, h3⟩
      have HLOG := Lib.hid hlog
      clear hnw HNW hlog
      by_cases hs : startV (tblN d n) false fr j = 0
      · have HSTART := Lib.hid (fun (W : World) (b : Nat) (h : Dsk W b (fun _ => 0) (tblN d n) false noJob 0 (.slice none 0 0)) => start_ok h hwit fr j HJF.out hs)
        obtain ⟨t0, t1, _, hask⟩ := startV_zero hs
        obtain ⟨k, sc, m, f, c, hok⟩ := ask_ok hwit hask
        have hw3 : IntKind.i64.wrap (fr + 3) = fr + 3 := by rw [IntKind.wrap_i64]; omega
        by_cases hlt : at' < fr + 3
        · have HEND := Lib.hid (fun (W : World) (b : Nat) (h : Dsk W b (fun _ => 0) (tblN d n) true j fr (.slice none 0 0)) => end_early h at' HAT.out t0 t1 hlt)
          clear hs hask hok hE t0 t1
          obtain ⟨jo, js, jn, jw, jt⟩ := j
          simp only at h100
          go_enter Try.func4, Try.ntmps4
          go_wp2_with (first
            | (go_at_call 6; with_reducible refine HROW.out.mono ?_; rintro e w1 ⟨A2, c2, rfl, p1, b1⟩; have P1 := Lib.hid p1; have B1 := Lib.hid b1; clear p1 b1)
            | (go_at_call 8; with_reducible refine (HC.out _ _ _ P1.out).mono ?_; rintro e w2 ⟨rfl, b2⟩; have b12 := box_next B1.out b2; have B2 := Lib.hid b12; obtain ⟨c0, c1, c2', c3, c4⟩ := HJ.out _ b12; clear b2 b12)
            | (go_at_call 7; with_reducible refine (HNEW.out _ _ rfl (HST.out _ B2.out)).mono ?_; rintro e w3 ⟨rfl, d3, b3⟩; have D3 := Lib.hid d3; have b13 := box_next B2.out b3; have B3 := Lib.hid b13; obtain ⟨c0, c1, c2', c3, c4⟩ := HJ.out _ b13; clear d3 b3 b13)
            | (go_at_call 13; with_reducible refine (HSTART.out _ _ D3.out).mono ?_; rintro e w4 ⟨rfl, d4, g4⟩; have D4 := Lib.hid d4; have B4 := Lib.hid (box_row B3.out g4 (box_size B2.out)); clear d4 g4)
            | (go_at_call 14; with_reducible refine (HEND.out _ _ D4.out).mono ?_; rintro e w5 ⟨rfl, rfl⟩)
            | (go_at_call 15; with_reducible refine (HLOG.out _ _ _ _ _ _ _ D4.out).mono ?_; rintro e w6 ⟨A6, c6, rfl, b6⟩; have D6 := Lib.hid (D4.out.below b6); have B6 := Lib.hid (box_next B4.out b6); clear b6)
            | (go_at_call 9; with_reducible refine (HL.out _).mono ?_; rintro e w7 ⟨rfl, b7⟩; have D7 := Lib.hid (D6.out.below b7); have B7 := Lib.hid (HJ2.out _ (box_next B6.out b7)); clear b7)
            | (go_at_call 16; with_reducible refine (busy_any D7.out).mono ?_; rintro e w8 ⟨rfl, rfl⟩))
          go_ret
          exact ⟨rfl, B7.out⟩
        · cases hjw : j.2.2.2.1 with
          | false =>
            have HEND := Lib.hid (fun (W : World) (b : Nat) (h : Dsk W b (fun _ => 0) (tblN d n) true j fr (.slice none 0 0)) => end_read h at' HAT.out t0 t1 (by omega) hjw hok)
            clear hs hask hok hE t0 t1
            obtain ⟨jo, js, jn, jw, jt⟩ := j
            simp only at h100 hjw
            subst hjw
            go_enter Try.func4, Try.ntmps4
            go_wp2_with (first
              | (go_at_call 6; with_reducible refine HROW.out.mono ?_; rintro e w1 ⟨A2, c2, rfl, p1, b1⟩; have P1 := Lib.hid p1; have B1 := Lib.hid b1; clear p1 b1)
              | (go_at_call 8; with_reducible refine (HC.out _ _ _ P1.out).mono ?_; rintro e w2 ⟨rfl, b2⟩; have b12 := box_next B1.out b2; have B2 := Lib.hid b12; obtain ⟨c0, c1, c2', c3, c4⟩ := HJ.out _ b12; clear b2 b12)
              | (go_at_call 7; with_reducible refine (HNEW.out _ _ rfl (HST.out _ B2.out)).mono ?_; rintro e w3 ⟨rfl, d3, b3⟩; have D3 := Lib.hid d3; have b13 := box_next B2.out b3; have B3 := Lib.hid b13; obtain ⟨c0, c1, c2', c3, c4⟩ := HJ.out _ b13; clear d3 b3 b13)
              | (go_at_call 13; with_reducible refine (HSTART.out _ _ D3.out).mono ?_; rintro e w4 ⟨rfl, d4, g4⟩; have D4 := Lib.hid d4; have B4 := Lib.hid (box_row B3.out g4 (box_size B2.out)); clear d4 g4)
              | (go_at_call 14; with_reducible refine (HEND.out _ _ D4.out).mono ?_; rintro e w5 ⟨rfl, d5, g5⟩; have D5 := Lib.hid d5; have B5 := Lib.hid (box_row B4.out g5 (box_size B2.out)); clear d5 g5)
              | (go_at_call 15; with_reducible refine (HLOG.out _ _ _ _ _ _ _ D5.out).mono ?_; rintro e w6 ⟨A6, c6, rfl, b6⟩; have b16 := box_next B5.out b6; have B6 := Lib.hid b16; obtain ⟨c0, c1, c2', c3, c4⟩ := HJ.out _ b16; clear b6 b16)
              | (go_at_call 9; with_reducible refine (HL.out _).mono ?_; rintro e w7 ⟨rfl, b7⟩; have B7 := Lib.hid (HJ2.out _ (box_next B6.out b7)); clear b7))
            go_ret
            exact ⟨rfl, B7.out⟩
          | true =>
            have hend := fun (W : World) (b : Nat) (h : Dsk W b (fun _ => 0) (tblN d n) true j fr (.slice none 0 0)) => end_write (B := 0) (n := 0) (rc := fun _ => (0, 0, 0, ⟨#[]⟩)) h (LogV.nil _ _ _) at' HAT.out t0 t1 (by omega) hjw hok (by omega) (by omega)
            obtain ⟨e1, k1, k9, _, e2, e3, m1, m2, e4, e5, i1, i2⟩ := hok
            obtain ⟨jo, js, jn, jw, jt⟩ := j
            simp only [sizeJ] at h100 hjw e1 e2 e3
            subst hjw e1 e2
            simp only [if_true] at e3
            rw [Nat.zero_add] at hend
            have HEND := Lib.hid hend
            have HSZ := Lib.hid (show jt.size = m * 16 by omega)
            have hq : (jt.size : Int) / 16 = m := by omega
            have HQ := Lib.hid hq
            have HM := Lib.hid (And.intro m1 m2)
            have HSC := Lib.hid (show sc ≤ 512 by omega)
            have hne : ¬ at' < fr + 3 := hlt
            have HLOG2 := Lib.hid (fun (W : World) (b : Nat) (T : Nat → Prt) (S : Nat → UInt8) (bz : Bool) (x : Jb) (st : Int) (v : Value) (rc : Nat → Rec) (h : Dsk W b S T bz x st v) (hl : LogV W 0 v m rc) => (log_any h hl (by omega)).mono (R' := fun e w' => ∃ g c', e = .returned (.slice (some ⟨g, 0, none⟩) m c') ∧ LogV w' W.heap.size (.slice (some ⟨g, 0, none⟩) m c') m rc ∧ Below W.heap.size W w') fun e w' ⟨v', h1, h2, h3⟩ => by
              obtain ⟨g, c', rfl⟩ := log_some h2 m1
              exact ⟨g, c', h1, h2, h3⟩)
            clear hs hask hE t0 t1 e3 e4 e5 i1 i2 k9 k1 hend hlt HLOG m1 m2
            go_enter Try.func4, Try.ntmps4
            go_wp2_with (first
              | (go_at_call 6; with_reducible refine HROW.out.mono ?_; rintro e w1 ⟨A2, c2, rfl, p1, b1⟩; have P1 := Lib.hid p1; have B1 := Lib.hid b1; clear p1 b1)
              | (go_at_call 8; with_reducible refine (HC.out _ _ _ P1.out).mono ?_; rintro e w2 ⟨rfl, b2⟩; have b12 := box_next B1.out b2; have B2 := Lib.hid b12; obtain ⟨c0, c1, c2', c3, c4⟩ := HJ.out _ b12; clear b2 b12)
              | (go_at_call 7; with_reducible refine (HNEW.out _ _ rfl (HST.out _ B2.out)).mono ?_; rintro e w3 ⟨rfl, d3, b3⟩; have D3 := Lib.hid d3; have b13 := box_next B2.out b3; have B3 := Lib.hid b13; obtain ⟨c0, c1, c2', c3, c4⟩ := HJ.out _ b13; clear d3 b3 b13)
              | (go_at_call 13; with_reducible refine (HSTART.out _ _ D3.out).mono ?_; rintro e w4 ⟨rfl, d4, g4⟩; have D4 := Lib.hid d4; have B4 := Lib.hid (box_row B3.out g4 (box_size B2.out)); clear d4 g4)
              | (go_at_call 14; with_reducible refine (HEND.out _ _ D4.out).mono ?_; rintro e w5 ⟨rfl, v5, d5, l5, _, g5⟩; have D5 := Lib.hid d5; have L5 := Lib.hid l5; have B5 := Lib.hid (box_keeps B4.out g5 (box_size B2.out)); clear d5 l5 g5)
              | (go_at_call 15; with_reducible refine (HLOG2.out _ _ _ _ _ _ _ _ _ D5.out L5.out).mono ?_; rintro e w6 ⟨g6, c6, rfl, l6, b6⟩; have L6 := Lib.hid l6; have b16 := box_next B5.out b6; have B6 := Lib.hid b16; obtain ⟨c0, c1, c2', c3, c4⟩ := HJ.out _ b16; clear l6 b6 b16))
            clear c0 c1 c2' c3 c4 hq hw3 hne
            go_loopw [15] (fun y wr => ∃ i : Nat, y = .int .i64 i ∧ i ≤ m ∧ Hid (LogV wr w5.heap.size (.slice (some ⟨g6, 0, none⟩) m c6) m (wrRc (fun _ => (0, 0, 0, ⟨#[]⟩)) 0 at' k sc jt)) ∧ Hid (Below (w.heap.size + 1) (w.alloc (.cells #[.int .i64 k, .int .i64 sc, .int .i64 jn, .bool true, .string jt] 36)) wr)) (fun y _ => m - (intOf y).toNat)
            case atStart => exact ⟨0, rfl, by omega, L6, B6⟩
            case round =>
              obtain ⟨i, rfl, him, LR, BR⟩ := hrel
              by_cases hin : i < m
              · obtain ⟨q0, q1, q2, q3⟩ := log_at LR.out hin
                have hrc := wrRc_new (fun _ => ((0 : Int), (0 : Int), (0 : Int), (⟨#[]⟩ : ByteArray))) 0 at' k sc jt i
                rw [Nat.zero_add, cut_eq HSZ.out hin] at hrc
                rw [hrc] at q0 q1 q2 q3
                simp only at q0 q1 q2 q3
                obtain ⟨c0, c1, c2', c3, c4⟩ := HJ.out _ BR.out
                have i1 : (i : Int) < (m : Int) := by omega
                have z1 : IntKind.i64.wrap ((sc : Int) + (i : Int)) = (sc : Int) + (i : Int) := by rw [IntKind.wrap_i64]; have := HSC.out; have := HM.out; omega
                have z2 : IntKind.i64.wrap (16 * (i : Int)) = 16 * (i : Int) := by rw [IntKind.wrap_i64]; have := HM.out; omega
                have z3 : IntKind.i64.wrap (16 * (i : Int) + 16) = 16 * (i : Int) + 16 := by rw [IntKind.wrap_i64]; have := HM.out; omega
                have i2 : (0 : Int) ≤ 16 * (i : Int) := by omega
                have i3 : 16 * (i : Int) ≤ 16 * (i : Int) + 16 := by omega
                have i4 : 16 * (i : Int) + 16 ≤ (jt.size : Int) := by have := HSZ.out; omega
                have HIN := Lib.hid hin
                clear hrc hin
                go_wp2
                go_quiet (fail)
                go_wp2
                go_roundw
                case rel => exact ⟨i + 1, by go_num, by have := HIN.out; omega, Lib.hid (LR.out.grown (only_drewN (only_refl _ none) _)), Lib.hid (below_drewN BR.out _)⟩
                case measure => have := HIN.out; simp [intOf]; omega
              · obtain rfl : i = m := by omega
                go_wp2_with (go_at_call 9; with_reducible refine (HL.out _).mono ?_; rintro e w7 ⟨rfl, b7⟩; have B7 := Lib.hid (HJ2.out _ (box_next BR.out b7)); clear b7)
                go_ret
                exact ⟨rfl, B7.out⟩
      · have HSTART := Lib.hid (fun (W : World) (b : Nat) (h : Dsk W b (fun _ => 0) (tblN d n) false noJob 0 (.slice none 0 0)) => start_bad h hwit fr j HJF.out hs)
        generalize startV (tblN d n) false fr j = c at hs HSTART
        have hcb : (c != 0) = true := by simpa using hs
        clear hE hs
        obtain ⟨jo, js, jn, jw, jt⟩ := j
        simp only at h100
        go_enter Try.func4, Try.ntmps4
        go_wp2_with (first
          | (go_at_call 6; with_reducible refine HROW.out.mono ?_; rintro e w1 ⟨A2, c2, rfl, p1, b1⟩; have P1 := Lib.hid p1; have B1 := Lib.hid b1; clear p1 b1)
          | (go_at_call 8; with_reducible refine (HC.out _ _ _ P1.out).mono ?_; rintro e w2 ⟨rfl, b2⟩; have b12 := box_next B1.out b2; have B2 := Lib.hid b12; obtain ⟨c0, c1, c2', c3, c4⟩ := HJ.out _ b12; clear b2 b12)
          | (go_at_call 7; with_reducible refine (HNEW.out _ _ rfl (HST.out _ B2.out)).mono ?_; rintro e w3 ⟨rfl, d3, b3⟩; have D3 := Lib.hid d3; have b13 := box_next B2.out b3; have B3 := Lib.hid b13; obtain ⟨c0, c1, c2', c3, c4⟩ := HJ.out _ b13; clear d3 b3 b13)
          | (go_at_call 13; with_reducible refine (HSTART.out _ _ D3.out).mono ?_; rintro e w4 ⟨rfl, g4⟩; have B4 := Lib.hid (box_next B3.out (below_of_only g4 (Nat.le_refl _) (by simp))); clear g4)
          | (go_at_call 9; with_reducible refine (HL.out _).mono ?_; rintro e w7 ⟨rfl, b7⟩; have B7 := Lib.hid (HJ2.out _ (box_next B4.out b7)); clear b7))
        go_ret
        exact ⟨rfl, B7.out⟩
  · have hE' : (newE d n != 0) = true := by simpa using hE
    generalize newE d n = E at HC hE hE'
    clear HNW HST
    obtain ⟨jo, js, jn, jw, jt⟩ := j
    go_enter Try.func4, Try.ntmps4
    go_wp2_with (first
      | (go_at_call 6; with_reducible refine HROW.out.mono ?_; rintro e w1 ⟨A2, c2, rfl, p1, b1⟩; have P1 := Lib.hid p1; have B1 := Lib.hid b1; clear p1 b1)
      | (go_at_call 8; with_reducible refine (HC.out _ _ _ P1.out).mono ?_; rintro e w2 ⟨rfl, b2⟩; have b12 := box_next B1.out b2; have B2 := Lib.hid b12; obtain ⟨c0, c1, c2', c3, c4⟩ := HJ.out _ b12; clear b2 b12)
      | (go_at_call 9; with_reducible refine (HL.out _).mono ?_; rintro e w3 ⟨rfl, b3⟩; have B3 := Lib.hid ((HJ2.out _ B2.out).trans (b3.mono (HJ2.out _ B2.out).size)); clear b3))
    go_ret
    exact ⟨rfl, B3.out⟩
theorem waits_call (A : Option Addr) (len cap : Nat) (d : Nat → Prt) (j : Jb) (fr at' : Int) (w : World) (hst : PrtsV w A len d) (hf : ∀ i, i < len → FitP (d i)) (hlc : len ≤ cap) (hcm : cap ≤ 9223372036854775807) (hj : FitJ j) (hfr : fitI fr) (hat : fitI at') :
    Calls Try.prog 4 #[.slice A len cap, jbv j, .int .i64 fr, .int .i64 at'] w fun e w' => e = .returned (.bool true) ∧ Below w.heap.size w w' := waits_walk A len cap d j fr at' w hst hf hj hfr hat hlc hcm
end Go.Proofs.Ytlmdnhpdeiekfaa
