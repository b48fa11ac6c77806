/- LatchPlays: rows made anew, the walk. -/
import Derived.Test.YtbbgijjeimjgoaaLB5
import Derived.OwnWalk
namespace Go.Proofs.Ytbbgijjeimjgoaa
open Go.RowKit Go.Lib
set_option linter.unusedVariables false
set_option maxRecDepth 8000

theorem Lt.of_own {w : World} {B : Nat} {e : TypeId} {s : Nat} {v : Value} {n : Nat} {xs : List Value} (h : w.ownsRow B e s v n xs) : RowZ s w v n xs := by
  have h' := h
  obtain ⟨hl, ⟨rfl, rfl⟩ | ⟨g, cap, cur, rfl, hB, hh, hcap, hm, hc, hp⟩⟩ := h'
  · exact ⟨hl, .inl ⟨rfl, rfl⟩⟩
  · have hb : Blk w g e cur := hh
    refine ⟨hl, .inr ⟨g, 0, cap, rfl, hcap, hm, hb.lt, fun j hj => ⟨?_, hb.free _⟩, fun j u hu => ?_⟩⟩
    · rw [hb.cell, Nat.zero_add, Array.getElem?_eq_getElem (by omega)]
      rfl
    · have hj := (List.getElem?_eq_some_iff.1 hu).1
      rw [Nat.zero_add, World.ownsRow.cellAt h j (by omega), hu]
theorem Lt.row_all : (Try.prog.info? 46).map (fun i => (i.zero, i.size, i.bytes)) = some (some (.agg (Lt.rowC Lt.z0 Lt.f0)), 16, 72) := by kernel_rfl
theorem Lt.parts {i : Option TypeInfo} {z : Value} {n b : Nat} (h : i.map (fun i => (i.zero, i.size, i.bytes)) = some (some z, n, b)) : ∃ j, i = some j ∧ j.zero = some z ∧ j.size = n ∧ j.bytes = b := by
  cases i with
  | none => cases h
  | some j =>
    simp at h
    exact ⟨j, rfl, h.1, h.2.1, h.2.2⟩
theorem Lt.made_at (z : Array Value) (hz : z.size = 16) (m j : Nat) : (madeCells z m)[j]? = if j < m then z[j % 16]? else none := by
  unfold madeCells
  by_cases h : j < m
  · rw [if_pos h]
    have hm : j % z.size < z.size := by rw [hz]; exact Nat.mod_lt _ (by omega)
    simp only [Array.getElem?_map, Array.getElem?_range, h, if_true, Option.map_some]
    rw [getElem!_pos z (j % z.size) hm, Array.getElem?_eq_getElem (by rw [hz] at hm; rw [hz]; exact hm)]
    simp only [hz]
  · rw [if_neg h]
    simp [h]
theorem Lt.made_rows (n : Nat) : (madeCells (Value.agg (Lt.rowC Lt.z0 Lt.f0)).cells (n * 16)).toList = Lt.rwsL n (fun _ => (Lt.z0, Lt.f0)) := by
  have hl := Lt.rwsL_len n (fun _ => (Lt.z0, Lt.f0))
  apply List.ext_getElem?
  intro j
  rw [Array.getElem?_toList, show (Value.agg (Lt.rowC Lt.z0 Lt.f0)).cells = Lt.rowC Lt.z0 Lt.f0 from rfl, Lt.made_at _ (Lt.rowC_size _ _)]
  by_cases h : j < n * 16
  · rw [if_pos h]
    have hq : j = j / 16 * 16 + j % 16 := by omega
    have hm : j % 16 < 16 := Nat.mod_lt _ (by omega)
    have := Lt.rwsL_get (n := n) (X := fun _ => (Lt.z0, Lt.f0)) (i := j / 16) (t := j % 16) (by omega) hm
    rw [← hq] at this
    exact this.symm
  · rw [if_neg h, List.getElem?_eq_none (by omega)]
/-- What a board and rows begin as. -/
theorem Lt.two_new {w1 w2 : World} {b n : Nat} (hb : Lt.Brd w1 b n Lt.o0) (hbw : b < w1.heap.size) (h : w2.ownsRow w1.heap.size 46 16 (.slice (some ⟨w1.heap.size, 0, none⟩) n n) n (madeCells (Value.agg (Lt.rowC Lt.z0 Lt.f0)).cells (n * 16)).toList) (g : w1.grownBy w2 none) : Lt.Two w2 b (some ⟨w1.heap.size, 0, none⟩) n n 0 Lt.o0 := by
  rw [Lt.made_rows n] at h
  refine ⟨fun _ => (Lt.z0, Lt.f0), hb.only g (by simp), Lt.of_own h, fun i _ => Lt.Rw.new, fun e => by simp [Value.ownBlock] at e; omega⟩
/-- All deeds done. -/
def Lt.foldO (n : Nat) (d : Nat → Lt.Ded) : Nat → Nat → Nat × Nat
  | 0 => Lt.o0
  | k + 1 => Lt.deedO n (Lt.foldO n d k) (d k)
set_option maxRecDepth 20000 in
set_option maxHeartbeats 3200000 in
theorem latchplays_walk (x : Int) (A : Option Addr) (n cp : Nat) (d : Nat → Lt.Ded) (w : World) (hd : Lt.DedL w A n d) (hn : n ≤ 9223372036854775807) : Calls Try.prog 3 #[.int .i64 x, .slice A n cp] w fun e w' => e = .returned (.bool true) ∧ Below w.heap.size w w' := by
  obtain ⟨i0, hi0, hz0, hz1, hz2⟩ := Lt.parts Lt.row_all
  have hc8 := Lt.cap_le x
  obtain ⟨m, hm⟩ : ∃ m, m = Lt.cap x := ⟨_, rfl⟩
  have hcase : (x < 0 ∧ m = 0) ∨ (8 < x ∧ ¬ x < 0 ∧ m = 8) ∨ x = (m : Int) := by
    rw [hm]; unfold Lt.cap
    by_cases h0 : x < 0
    · rw [if_pos h0]; exact .inl ⟨h0, rfl⟩
    · rw [if_neg h0]
      by_cases h8 : 8 < x
      · rw [if_pos h8]; exact .inr (.inl ⟨h8, h0, rfl⟩)
      · rw [if_neg h8]; exact .inr (.inr (by omega))
  rw [← hm] at hc8
  have HN := Lib.hid (Lt.new_any x w)
  rw [← hm] at HN
  obtain ⟨W1, hW1, G1, P1, Z1⟩ := Lt.box1 w 42 (Lt.brdC m Lt.o0)
  rw [← hW1] at HN
  have HB := Lib.hid (show Lt.Brd W1 w.heap.size m Lt.o0 from ⟨P1, hc8, fun i _ => by simp [Lt.o0]⟩)
  have HLT := Lib.hid P1.lt
  have HG1 := Lib.hid G1
  have HD := Lib.hid hd
  have H8 := Lib.hid hc8
  have H0 := Lib.hid hi0
  have H1 := Lib.hid hz0
  have H2 := Lib.hid hz1
  have H3 := Lib.hid hz2
  have HZ1 := Lib.hid Z1
  clear hW1 G1 P1 Z1 hd hc8 hm hi0 hz0 hz1 hz2
  have m0 : (0 : Int) ≤ (m : Int) := by omega
  rcases hcase with ⟨hx, hm0⟩ | ⟨hx, hx0, hm8⟩ | rfl
  · have HM := Lib.hid (show (0 : Int) = (m : Int) from by omega)
    clear hm0
    go_enter Try.func3, Try.ntmps3
    go_upto_region 2 with (go_at_call 6; (with_reducible refine HN.out.mono ?_); rintro e W1 ⟨rfl, rfl⟩)
    go_upto_region 3 with (refine wpList_make_full _ rfl (.tmp 12) (.tmp 12) 25 rfl W1.heap.size 46 i0 (.agg (Lt.rowC Lt.z0 Lt.f0)) 16 Try.underlying25 H0.out H1.out H2.out .i64 .i64 0 0 m rfl rfl HM.out HM.out (by rw [H3.out]; have := H8.out; omega) (by unfold maxLen; have := H8.out; omega) (Nat.le_refl _) ?_; intro w2 hown hg; have HT := Lib.hid (Lt.two_new HB.out HLT.out hown hg); have HG2 := Lib.hid (only_trans HG1.out hg); have HFR := Lib.hid (show ∀ i, Lt.Ft w.heap.size (some ⟨W1.heap.size, 0, none⟩) m m i → w.heap.size ≤ i from (by rintro i (rfl | e); exact Nat.le_refl _; simp [Value.ownBlock] at e; have := HZ1.out; omega)); clear hown hg)
    go_wp2
    go_loopw [7] (fun y wr => ∃ k : Nat, y = .int .i64 k ∧ k ≤ n ∧ k ≤ 80 ∧ Hid (Lt.Two wr w.heap.size (some ⟨W1.heap.size, 0, none⟩) m m k (Lt.foldO m d k)) ∧ Hid (Below w.heap.size w wr)) (fun y _ => 80 - (intOf y).toNat)
    case atStart => exact ⟨0, rfl, Nat.zero_le _, Nat.zero_le _, HT, Lib.hid (below_of_only HG2.out (Nat.le_refl _) (by simp))⟩
    case round =>
      obtain ⟨k, rfl, hk, hk80, RT, RL⟩ := hrel
      clear HT HG2 HB HLT HG1 H0 H1 H2 H3
      by_cases hin : k < n ∧ k < 80
      case neg =>
        by_cases h1 : k < n
        · have h2 : ¬ k < 80 := fun e => hin ⟨h1, e⟩
          have i1 : (k : Int) < (n : Int) := by omega
          have i2 : ¬ (k : Int) < 80 := by omega
          clear hin h1 h2 hk hk80
          go_wp2_with (go_at_call 9; (with_reducible refine (Lt.live22_any _).mono ?_); rintro e w3 ⟨rfl, bel⟩; have TL := Lib.hid (RL.out.trans (bel.mono RL.out.size)); clear bel)
          go_ret
          exact ⟨by first | rfl | (simp; done), TL.out⟩
        · have i1 : ¬ (k : Int) < (n : Int) := by omega
          clear hin h1 hk hk80
          go_wp2_with (go_at_call 9; (with_reducible refine (Lt.live22_any _).mono ?_); rintro e w3 ⟨rfl, bel⟩; have TL := Lib.hid (RL.out.trans (bel.mono RL.out.size)); clear bel)
          go_ret
          exact ⟨by first | rfl | (simp; done), TL.out⟩
      case pos =>
        obtain ⟨h1, h2⟩ := hin
        obtain ⟨g, off, rfl, hg, hc⟩ := HD.out (by omega)
        have i1 : (k : Int) < (n : Int) := by omega
        have i2 : (k : Int) < 80 := by omega
        have i3 : (0 : Int) ≤ (k : Int) := by omega
        have u1 : IntKind.i64.wrap ((k : Int) + 1) = ((k + 1 : Nat) : Int) := by rw [IntKind.wrap_i64]; omega
        obtain ⟨c0, c1, c2⟩ := hc k h1
        have d0 : wr.cell? ⟨g, off + k * 3, none⟩ = some (.int .i64 (d k).1) := (RL.out.cell (p := ⟨g, _, none⟩) hg).trans c0
        have d1 : wr.cell? ⟨g, off + k * 3 + 1, none⟩ = some (.int .i64 (d k).2.1) := (RL.out.cell (p := ⟨g, _, none⟩) hg).trans c1
        have d2 : wr.cell? ⟨g, off + k * 3 + 2, none⟩ = some (.int .i64 (d k).2.2) := (RL.out.cell (p := ⟨g, _, none⟩) hg).trans c2
        have HS := Lib.hid (Lt.step_any RT.out (by omega) (d k))
        have HE := Lib.hid (show Lt.foldO m d (k + 1) = Lt.deedO m (Lt.foldO m d k) (d k) from rfl)
        generalize d k = dk at *
        obtain ⟨dx, dy, dz⟩ := dk
        replace HS := Lib.hid (show Calls Try.prog 7 #[.pointer (some ⟨w.heap.size, 0, none⟩), .slice (some ⟨W1.heap.size, 0, none⟩) m m, .agg #[.int .i64 dx, .int .i64 dy, .int .i64 dz]] wr _ from HS.out)
        have KK := Lib.hid (show k + 1 ≤ n ∧ k + 1 ≤ 80 from ⟨by omega, by omega⟩)
        clear c0 c1 c2 hc hg hk hk80 h1 h2 HD RT
        go_wp2_with (first
          | (go_at_call 7; (with_reducible refine HS.out.mono ?_); rintro e w3 ⟨rfl, ht, hkk⟩; have XT := Lib.hid ht; have XL := Lib.hid (RL.out.trans (hkk.below RL.out.size (fun i hi hf => by have := HFR.out i hf; omega))); clear ht hkk)
          | (go_at_call 8; (with_reducible refine (Lt.told_any XT.out).mono ?_); rintro e w4 ⟨rfl, bel⟩; have YT := Lib.hid (show Lt.Two w4 w.heap.size (some ⟨W1.heap.size, 0, none⟩) m m (k + 1) _ from by obtain ⟨X, q⟩ := XT.out; exact ⟨X, q.keeps (Keeps.of_below bel (fun _ => False)) (fun x => x) (fun _ _ x => x)⟩); have YL := Lib.hid (XL.out.trans (bel.mono XL.out.size)); clear bel))
        go_roundw
        case rel => exact ⟨k + 1, by go_num, KK.out.1, KK.out.2, Lib.hid (by rw [HE.out]; exact YT.out), YL⟩
        case measure =>
          have := KK.out
          simp [intOf]
          omega
  · have HM := Lib.hid (show (8 : Int) = (m : Int) from by omega)
    clear hm8
    go_enter Try.func3, Try.ntmps3
    go_upto_region 2 with (go_at_call 6; (with_reducible refine HN.out.mono ?_); rintro e W1 ⟨rfl, rfl⟩)
    go_upto_region 3 with (refine wpList_make_full _ rfl (.tmp 12) (.tmp 12) 25 rfl W1.heap.size 46 i0 (.agg (Lt.rowC Lt.z0 Lt.f0)) 16 Try.underlying25 H0.out H1.out H2.out .i64 .i64 8 8 m rfl rfl HM.out HM.out (by rw [H3.out]; have := H8.out; omega) (by unfold maxLen; have := H8.out; omega) (Nat.le_refl _) ?_; intro w2 hown hg; have HT := Lib.hid (Lt.two_new HB.out HLT.out hown hg); have HG2 := Lib.hid (only_trans HG1.out hg); have HFR := Lib.hid (show ∀ i, Lt.Ft w.heap.size (some ⟨W1.heap.size, 0, none⟩) m m i → w.heap.size ≤ i from (by rintro i (rfl | e); exact Nat.le_refl _; simp [Value.ownBlock] at e; have := HZ1.out; omega)); clear hown hg)
    go_wp2
    go_loopw [7] (fun y wr => ∃ k : Nat, y = .int .i64 k ∧ k ≤ n ∧ k ≤ 80 ∧ Hid (Lt.Two wr w.heap.size (some ⟨W1.heap.size, 0, none⟩) m m k (Lt.foldO m d k)) ∧ Hid (Below w.heap.size w wr)) (fun y _ => 80 - (intOf y).toNat)
    case atStart => exact ⟨0, rfl, Nat.zero_le _, Nat.zero_le _, HT, Lib.hid (below_of_only HG2.out (Nat.le_refl _) (by simp))⟩
    case round =>
      obtain ⟨k, rfl, hk, hk80, RT, RL⟩ := hrel
      clear HT HG2 HB HLT HG1 H0 H1 H2 H3
      by_cases hin : k < n ∧ k < 80
      case neg =>
        by_cases h1 : k < n
        · have h2 : ¬ k < 80 := fun e => hin ⟨h1, e⟩
          have i1 : (k : Int) < (n : Int) := by omega
          have i2 : ¬ (k : Int) < 80 := by omega
          clear hin h1 h2 hk hk80
          go_wp2_with (go_at_call 9; (with_reducible refine (Lt.live22_any _).mono ?_); rintro e w3 ⟨rfl, bel⟩; have TL := Lib.hid (RL.out.trans (bel.mono RL.out.size)); clear bel)
          go_ret
          exact ⟨by first | rfl | (simp; done), TL.out⟩
        · have i1 : ¬ (k : Int) < (n : Int) := by omega
          clear hin h1 hk hk80
          go_wp2_with (go_at_call 9; (with_reducible refine (Lt.live22_any _).mono ?_); rintro e w3 ⟨rfl, bel⟩; have TL := Lib.hid (RL.out.trans (bel.mono RL.out.size)); clear bel)
          go_ret
          exact ⟨by first | rfl | (simp; done), TL.out⟩
      case pos =>
        obtain ⟨h1, h2⟩ := hin
        obtain ⟨g, off, rfl, hg, hc⟩ := HD.out (by omega)
        have i1 : (k : Int) < (n : Int) := by omega
        have i2 : (k : Int) < 80 := by omega
        have i3 : (0 : Int) ≤ (k : Int) := by omega
        have u1 : IntKind.i64.wrap ((k : Int) + 1) = ((k + 1 : Nat) : Int) := by rw [IntKind.wrap_i64]; omega
        obtain ⟨c0, c1, c2⟩ := hc k h1
        have d0 : wr.cell? ⟨g, off + k * 3, none⟩ = some (.int .i64 (d k).1) := (RL.out.cell (p := ⟨g, _, none⟩) hg).trans c0
        have d1 : wr.cell? ⟨g, off + k * 3 + 1, none⟩ = some (.int .i64 (d k).2.1) := (RL.out.cell (p := ⟨g, _, none⟩) hg).trans c1
        have d2 : wr.cell? ⟨g, off + k * 3 + 2, none⟩ = some (.int .i64 (d k).2.2) := (RL.out.cell (p := ⟨g, _, none⟩) hg).trans c2
        have HS := Lib.hid (Lt.step_any RT.out (by omega) (d k))
        have HE := Lib.hid (show Lt.foldO m d (k + 1) = Lt.deedO m (Lt.foldO m d k) (d k) from rfl)
        generalize d k = dk at *
        obtain ⟨dx, dy, dz⟩ := dk
        replace HS := Lib.hid (show Calls Try.prog 7 #[.pointer (some ⟨w.heap.size, 0, none⟩), .slice (some ⟨W1.heap.size, 0, none⟩) m m, .agg #[.int .i64 dx, .int .i64 dy, .int .i64 dz]] wr _ from HS.out)
        have KK := Lib.hid (show k + 1 ≤ n ∧ k + 1 ≤ 80 from ⟨by omega, by omega⟩)
        clear c0 c1 c2 hc hg hk hk80 h1 h2 HD RT
        go_wp2_with (first
          | (go_at_call 7; (with_reducible refine HS.out.mono ?_); rintro e w3 ⟨rfl, ht, hkk⟩; have XT := Lib.hid ht; have XL := Lib.hid (RL.out.trans (hkk.below RL.out.size (fun i hi hf => by have := HFR.out i hf; omega))); clear ht hkk)
          | (go_at_call 8; (with_reducible refine (Lt.told_any XT.out).mono ?_); rintro e w4 ⟨rfl, bel⟩; have YT := Lib.hid (show Lt.Two w4 w.heap.size (some ⟨W1.heap.size, 0, none⟩) m m (k + 1) _ from by obtain ⟨X, q⟩ := XT.out; exact ⟨X, q.keeps (Keeps.of_below bel (fun _ => False)) (fun x => x) (fun _ _ x => x)⟩); have YL := Lib.hid (XL.out.trans (bel.mono XL.out.size)); clear bel))
        go_roundw
        case rel => exact ⟨k + 1, by go_num, KK.out.1, KK.out.2, Lib.hid (by rw [HE.out]; exact YT.out), YL⟩
        case measure =>
          have := KK.out
          simp [intOf]
          omega
  · have HM := Lib.hid (show (0 : Int) ≤ (m : Int) from by omega)
    skip
    have h8m : (m : Int) ≤ 8 := by have := H8.out; omega
    go_enter Try.func3, Try.ntmps3
    go_upto_region 2 with (go_at_call 6; (with_reducible refine HN.out.mono ?_); rintro e W1 ⟨rfl, rfl⟩)
    go_upto_region 3 with (refine wpList_make_full _ rfl (.tmp 12) (.tmp 12) 25 rfl W1.heap.size 46 i0 (.agg (Lt.rowC Lt.z0 Lt.f0)) 16 Try.underlying25 H0.out H1.out H2.out .i64 .i64 (m : Int) (m : Int) m rfl rfl rfl rfl (by rw [H3.out]; have := H8.out; omega) (by unfold maxLen; have := H8.out; omega) (Nat.le_refl _) ?_; intro w2 hown hg; have HT := Lib.hid (Lt.two_new HB.out HLT.out hown hg); have HG2 := Lib.hid (only_trans HG1.out hg); have HFR := Lib.hid (show ∀ i, Lt.Ft w.heap.size (some ⟨W1.heap.size, 0, none⟩) m m i → w.heap.size ≤ i from (by rintro i (rfl | e); exact Nat.le_refl _; simp [Value.ownBlock] at e; have := HZ1.out; omega)); clear hown hg)
    go_wp2
    go_loopw [7] (fun y wr => ∃ k : Nat, y = .int .i64 k ∧ k ≤ n ∧ k ≤ 80 ∧ Hid (Lt.Two wr w.heap.size (some ⟨W1.heap.size, 0, none⟩) m m k (Lt.foldO m d k)) ∧ Hid (Below w.heap.size w wr)) (fun y _ => 80 - (intOf y).toNat)
    case atStart => exact ⟨0, rfl, Nat.zero_le _, Nat.zero_le _, HT, Lib.hid (below_of_only HG2.out (Nat.le_refl _) (by simp))⟩
    case round =>
      obtain ⟨k, rfl, hk, hk80, RT, RL⟩ := hrel
      clear HT HG2 HB HLT HG1 H0 H1 H2 H3
      by_cases hin : k < n ∧ k < 80
      case neg =>
        by_cases h1 : k < n
        · have h2 : ¬ k < 80 := fun e => hin ⟨h1, e⟩
          have i1 : (k : Int) < (n : Int) := by omega
          have i2 : ¬ (k : Int) < 80 := by omega
          clear hin h1 h2 hk hk80
          go_wp2_with (go_at_call 9; (with_reducible refine (Lt.live22_any _).mono ?_); rintro e w3 ⟨rfl, bel⟩; have TL := Lib.hid (RL.out.trans (bel.mono RL.out.size)); clear bel)
          go_ret
          exact ⟨by first | rfl | (simp; done), TL.out⟩
        · have i1 : ¬ (k : Int) < (n : Int) := by omega
          clear hin h1 hk hk80
          go_wp2_with (go_at_call 9; (with_reducible refine (Lt.live22_any _).mono ?_); rintro e w3 ⟨rfl, bel⟩; have TL := Lib.hid (RL.out.trans (bel.mono RL.out.size)); clear bel)
          go_ret
          exact ⟨by first | rfl | (simp; done), TL.out⟩
      case pos =>
        obtain ⟨h1, h2⟩ := hin
        obtain ⟨g, off, rfl, hg, hc⟩ := HD.out (by omega)
        have i1 : (k : Int) < (n : Int) := by omega
        have i2 : (k : Int) < 80 := by omega
        have i3 : (0 : Int) ≤ (k : Int) := by omega
        have u1 : IntKind.i64.wrap ((k : Int) + 1) = ((k + 1 : Nat) : Int) := by rw [IntKind.wrap_i64]; omega
        obtain ⟨c0, c1, c2⟩ := hc k h1
        have d0 : wr.cell? ⟨g, off + k * 3, none⟩ = some (.int .i64 (d k).1) := (RL.out.cell (p := ⟨g, _, none⟩) hg).trans c0
        have d1 : wr.cell? ⟨g, off + k * 3 + 1, none⟩ = some (.int .i64 (d k).2.1) := (RL.out.cell (p := ⟨g, _, none⟩) hg).trans c1
        have d2 : wr.cell? ⟨g, off + k * 3 + 2, none⟩ = some (.int .i64 (d k).2.2) := (RL.out.cell (p := ⟨g, _, none⟩) hg).trans c2
        have HS := Lib.hid (Lt.step_any RT.out (by omega) (d k))
        have HE := Lib.hid (show Lt.foldO m d (k + 1) = Lt.deedO m (Lt.foldO m d k) (d k) from rfl)
        generalize d k = dk at *
        obtain ⟨dx, dy, dz⟩ := dk
        replace HS := Lib.hid (show Calls Try.prog 7 #[.pointer (some ⟨w.heap.size, 0, none⟩), .slice (some ⟨W1.heap.size, 0, none⟩) m m, .agg #[.int .i64 dx, .int .i64 dy, .int .i64 dz]] wr _ from HS.out)
        have KK := Lib.hid (show k + 1 ≤ n ∧ k + 1 ≤ 80 from ⟨by omega, by omega⟩)
        clear c0 c1 c2 hc hg hk hk80 h1 h2 HD RT
        go_wp2_with (first
          | (go_at_call 7; (with_reducible refine HS.out.mono ?_); rintro e w3 ⟨rfl, ht, hkk⟩; have XT := Lib.hid ht; have XL := Lib.hid (RL.out.trans (hkk.below RL.out.size (fun i hi hf => by have := HFR.out i hf; omega))); clear ht hkk)
          | (go_at_call 8; (with_reducible refine (Lt.told_any XT.out).mono ?_); rintro e w4 ⟨rfl, bel⟩; have YT := Lib.hid (show Lt.Two w4 w.heap.size (some ⟨W1.heap.size, 0, none⟩) m m (k + 1) _ from by obtain ⟨X, q⟩ := XT.out; exact ⟨X, q.keeps (Keeps.of_below bel (fun _ => False)) (fun x => x) (fun _ _ x => x)⟩); have YL := Lib.hid (XL.out.trans (bel.mono XL.out.size)); clear bel))
        go_roundw
        case rel => exact ⟨k + 1, by go_num, KK.out.1, KK.out.2, Lib.hid (by rw [HE.out]; exact YT.out), YL⟩
        case measure =>
          have := KK.out
          simp [intOf]
          omega
end Go.Proofs.Ytbbgijjeimjgoaa
