import Derived.Test.YtkiifafocmjfkaaX04
import Derived.RegionTactic
import Derived.RegionCalls
import Derived.Deep.Cut
import Derived.Deep.CutBlock
import Derived.LoopTactic
import Derived.Lib.QuietBelow
set_option linter.all false
/- The other calls of a queue of requests. -/
namespace Go.Proofs.Ytkiifafocmjfkaa
open Go.RowKit Go.Lib Go.Shelf
set_option linter.unusedVariables false
/-- The wrong ones at the front. -/
theorem Qu.lead : ∀ (L : List Qu.It) (k : Nat), k ≤ L.length → (∀ x ∈ L.take k, x.bad = true) → (k = L.length ∨ ∃ x, L[k]? = some x ∧ x.bad = false) →
    k = (L.takeWhile (·.bad)).length ∧ L.take k = L.takeWhile (·.bad) ∧ L.drop k = L.dropWhile (·.bad)
  | [], k, hk, _, _ => by
    obtain rfl : k = 0 := by simpa using hk
    simp
  | y :: l, 0, _, _, h => by
    rcases h with h | ⟨x, h1, h2⟩
    · simp at h
    · simp at h1
      subst h1
      simp [h2]
  | y :: l, k + 1, hk, hb, h => by
    have hy : y.bad = true := hb y (by simp)
    obtain ⟨e1, e2, e3⟩ := Qu.lead l k (by simpa using hk) (fun x hx => hb x (by simp [hx])) (by simpa using h)
    simp [hy, e2, e3, ← e1]
theorem Qu.settle_doc (w : World) (q bw bd lim : Nat) (vw vd : Value) (L : List Qu.It) (D : List Qu.Cl) (h : Qu.Qv w q bw bd vw vd L D lim) : Calls Try.prog 12 #[.pointer (some ⟨q, 0, none⟩)] w fun e w' =>
    e = .returned (.int .i64 (L.takeWhile (·.bad)).length) ∧ Qu.N w q bw bd vw vd w' (L.dropWhile (·.bad)) (D ++ (L.takeWhile (·.bad)).map Qu.wr) lim := by
  refine (Qu.settle_any w q bw bd lim vw vd L D h).mono ?_
  rintro e w' ⟨k, hk, hb, he, rfl, hN⟩
  obtain ⟨e1, e2, e3⟩ := Qu.lead L k hk hb he
  rw [e2, e3] at hN
  exact ⟨by rw [← e1], hN⟩
section
variable {w : World} {q bw bd lim : Nat} {vw vd : Value} {L : List Qu.It} {D : List Qu.Cl}
theorem Qu.waits_any (h : Qu.Qv w q bw bd vw vd L D lim) : Calls Try.prog 18 #[.pointer (some ⟨q, 0, none⟩)] w fun e w' => e = .returned (.int .i64 L.length) ∧ w = w' := by
  have c0 : w.cell? ⟨q, 0, none⟩ = some (.pointer (some ⟨bw, 0, none⟩)) := h.blk.cell 0
  have HW := Lib.hid (Fi.len_any h.wq)
  clear h
  go_enter Try.func18, Try.ntmps18
  go_wp2_with (go_at_call 36; (with_reducible refine HW.out.mono ?_); rintro e w' ⟨rfl, rfl⟩)
  go_ret
  exact ⟨rfl, rfl⟩
theorem Qu.len_any (h : Qu.Qv w q bw bd vw vd L D lim) : Calls Try.prog 16 #[.pointer (some ⟨q, 0, none⟩)] w fun e w' => e = .returned (.int .i64 ((L.length + D.length : Nat) : Int)) ∧ w.grownBy w' none := by
  have hd : w.grownBy w.drew none := only_drewN (only_refl _ none) 1
  have c0 : w.cell? ⟨q, 0, none⟩ = some (.pointer (some ⟨bw, 0, none⟩)) := h.blk.cell 0
  have c1 : w.cell? ⟨q, 1, none⟩ = some (.pointer (some ⟨bd, 0, none⟩)) := h.blk.cell 1
  have HW := Lib.hid (Fi.len_any (h.wq.grown hd))
  have HD := Lib.hid (Fc.len_any (h.dq.grown hd))
  have i1 : (L.length : Int) ≤ 16 := by have := h.sm; have := h.l16; omega
  have i2 : (D.length : Int) ≤ 16 := by have := h.sm; have := h.l16; omega
  have i3 : (0 : Int) ≤ (L.length : Int) := by omega
  have i4 : (0 : Int) ≤ (D.length : Int) := by omega
  have hw : IntKind.i64.wrap ((L.length : Int) + (D.length : Int)) = (L.length : Int) + (D.length : Int) := by rw [IntKind.wrap_i64]; omega
  have HG := Lib.hid hd
  clear h hd
  go_enter Try.func16, Try.ntmps16
  go_wp2
  go_region_with (first | (go_at_call 36; (with_reducible refine HW.out.mono ?_); rintro e w' ⟨rfl, rfl⟩) | (go_at_call 35; (with_reducible refine HD.out.mono ?_); rintro e w' ⟨rfl, rfl⟩))
  all_goals go_wp2
  all_goals go_ret
  all_goals exact ⟨by simp [Act.put, hw], HG.out⟩
/-- What Head answers. -/
def Qu.hd : List Qu.It → Value
  | [] => .tuple #[.agg #[.int .i64 0, .int .u8 0, .int .u8 0, .int .i64 0, .int .i64 0, .int .i64 0, .bool false], .bool false]
  | x :: _ => .tuple #[.agg #[.int .i64 x.k, .int .u8 x.wh, .int .u8 x.st, .int .i64 x.ad, .int .i64 x.ln, .int .i64 x.ar, .bool x.bad], .bool true]
theorem Qu.peek_any {b lim dr : Nat} {v : Value} {l : List Qu.It} (h : Fi.Que w b v l lim dr) (hn : l.length ≤ 1000000) : Calls Try.prog 32 #[.pointer (some ⟨b, 0, none⟩), .int .i64 0] w fun e w' => e = .returned (Qu.hd l) ∧ w.grownBy w' none := by
  cases l with
  | nil => exact Fi.peek_off h
  | cons x l => exact Fi.peek_in x h hn
end
end Go.Proofs.Ytkiifafocmjfkaa

/- Put and Head of a queue of requests. -/
namespace Go.Proofs.Ytkiifafocmjfkaa
open Go.RowKit Go.Lib Go.Shelf
set_option linter.unusedVariables false
section
variable {w : World} {q bw bd lim : Nat} {vw vd : Value} {L : List Qu.It} {D : List Qu.Cl}
/-- A box of one's own that is written behind a call. -/
theorem Qu.N.boxed {w0 W1 W2 W3 : World} {L1 : List Qu.It} {D1 : List Qu.Cl} {vw1 vd1 : Value} {b : Nat} (g0 : w.grownBy w0 none) (hb : w.heap.size ≤ b) (hb2 : b < w0.heap.size) (hlt : ∀ i, Qu.Ft q bw bd vw vd i → i < w.heap.size)
    (Q1 : Qu.Qv W1 q bw bd vw1 vd1 L1 D1 lim) (k1 : Keeps (Qu.Ft q bw bd vw vd) w0 W1) (k2 : ∀ i, Qu.Ft q bw bd vw1 vd1 i → Qu.Ft q bw bd vw vd i ∨ w0.heap.size ≤ i) (g2 : W1.grownBy W2 none) (g3 : W2.grownBy W3 (some b)) :
    Qu.N w q bw bd vw vd W3 L1 D1 lim := by
  have hn : ∀ i, Qu.Ft q bw bd vw1 vd1 i → ¬ i = b := fun i hi e => (k2 i hi).elim (fun h => by have := hlt i h; omega) (fun h => by omega)
  have kp := Keeps.of_only g3 (S := fun i => i = b) (fun i e => by injection e with e; exact e.symm)
  have s0 := g0.size
  have s1 := k1.size
  have s2 := g2.size
  refine ⟨vw1, vd1, (Q1.grown g2).keeps kp hn, ?_, fun i hi => (k2 i hi).imp id (fun h => by omega)⟩
  refine ⟨kp.1.trans (g2.os.trans (k1.1.trans g0.os)), kp.2.1.trans (g2.tape.trans (k1.2.1.trans g0.tape)), kp.2.2.1.trans (g2.output.trans (k1.2.2.1.trans g0.output)), Nat.le_trans (Nat.le_trans (Nat.le_trans s0 s1) s2) kp.size, fun i hi hs => ?_⟩
  exact (((kp.2.2.2.2 i (by omega) (by omega)).trans (g2.block i (by omega) (by simp))).trans (k1.2.2.2.2 i (by omega) hs)).trans (g0.block i hi (by simp))
theorem Qu.put7 {W : World} {b : Nat} {t : TypeId} {s0 s1 s2 s3 s4 s5 s6 : Value} (h : Blk W b t #[s0, s1, s2, s3, s4, s5, s6]) (y0 y1 y2 y3 y4 y5 y6 : Value) :
    ∀ W', W' = ((((((W.setCell ⟨b, 0, none⟩ y0).setCell ⟨b, 1, none⟩ y1).setCell ⟨b, 2, none⟩ y2).setCell ⟨b, 3, none⟩ y3).setCell ⟨b, 4, none⟩ y4).setCell ⟨b, 5, none⟩ y5).setCell ⟨b, 6, none⟩ y6 → Blk W' b t #[y0, y1, y2, y3, y4, y5, y6] ∧ W.grownBy W' (some b) := by
  rintro W' rfl
  refine ⟨?_, only_put (only_put (only_put (only_put (only_put (only_put (only_put (only_refl _ _) 0 y0) 1 y1) 2 y2) 3 y3) 4 y4) 5 y5) 6 y6⟩
  have q := (((((((h.put 0 y0).put 1 y1).put 2 y2).put 3 y3).put 4 y4).put 5 y5).put 6 y6)
  simp only [List.setIfInBounds_toArray, List.set_cons_zero, List.set_cons_succ] at q
  exact q
set_option maxHeartbeats 1000000 in
theorem Qu.head_any (h : Qu.Qv w q bw bd vw vd L D lim) : Calls Try.prog 13 #[.pointer (some ⟨q, 0, none⟩)] w fun e w' => e = .returned (Qu.hd (L.dropWhile (·.bad))) ∧ Qu.N w q bw bd vw vd w' (L.dropWhile (·.bad)) (D ++ (L.takeWhile (·.bad)).map Qu.wr) lim := by
  have g0 := only_alloc (only_refl w none) (.cells #[.int .i64 0, .int .u8 0, .int .u8 0, .int .i64 0, .int .i64 0, .int .i64 0, .bool false] 35)
  have hb := Blk.new w 35 #[.int .i64 0, .int .u8 0, .int .u8 0, .int .i64 0, .int .i64 0, .int .i64 0, .bool false]
  have HS := Lib.hid (Qu.settle_doc _ q bw bd lim vw vd L D (h.grown g0))
  have H := Lib.hid h
  have HB := Lib.hid hb
  have G0 := Lib.hid g0
  clear h g0 hb
  go_enter Try.func13, Try.ntmps13
  go_upto_region 4 with (go_at_call 12; (with_reducible refine HS.out.mono ?_); rintro e W1 ⟨rfl, hN⟩)
  obtain ⟨vw1, vd1, Q1, k1, k2⟩ := hN
  have c0 : W1.cell? ⟨q, 0, none⟩ = some (.pointer (some ⟨bw, 0, none⟩)) := Q1.blk.cell 0
  have b1 := HB.out.keeps k1 (fun e => by have := H.out.lt _ e; omega)
  have hl : (L.dropWhile (·.bad)).length ≤ 1000000 := by have := Q1.sm; have := Q1.l16; omega
  have HP := Lib.hid (Qu.peek_any Q1.wq hl)
  have HLT := Lib.hid (H.out.lt)
  obtain ⟨L1, hL1⟩ : ∃ L1, L.dropWhile (·.bad) = L1 := ⟨_, rfl⟩
  rw [hL1] at Q1 HP
  have HL1 := Lib.hid hL1
  have HQ1 := Lib.hid Q1
  have HK1 := Lib.hid k1
  have HK2 := Lib.hid k2
  have B1 := Lib.hid b1
  clear k1 k2 Q1 hl H HS HB b1 hL1
  cases L1 with
  | nil =>
    have HP2 := Lib.hid (show Calls Try.prog 32 #[.pointer (some ⟨bw, 0, none⟩), .int .i64 0] W1 fun e w' => e = .returned (.tuple #[.agg #[.int .i64 0, .int .u8 0, .int .u8 0, .int .i64 0, .int .i64 0, .int .i64 0, .bool false], .bool false]) ∧ W1.grownBy w' none from HP.out)
    clear HP
    go_wp2_with (go_at_call 32; (with_reducible refine HP2.out.mono ?_); rintro e W2 ⟨rfl, g2⟩; have G2 := Lib.hid g2; have b2 := B1.out.only g2 (by simp); have B2 := Lib.hid b2; have f0 := b2.free 0; have f1 := b2.free 1; have f2 := b2.free 2; have f3 := b2.free 3; have f4 := b2.free 4; have f5 := b2.free 5; have f6 := b2.free 6; have d0 : W2.cell? ⟨w.heap.size, 0, none⟩ = some (.int .i64 0) := b2.cell 0; have d1 : W2.cell? ⟨w.heap.size, 1, none⟩ = some (.int .u8 0) := b2.cell 1; have d2 : W2.cell? ⟨w.heap.size, 2, none⟩ = some (.int .u8 0) := b2.cell 2; have d3 : W2.cell? ⟨w.heap.size, 3, none⟩ = some (.int .i64 0) := b2.cell 3; have d4 : W2.cell? ⟨w.heap.size, 4, none⟩ = some (.int .i64 0) := b2.cell 4; have d5 : W2.cell? ⟨w.heap.size, 5, none⟩ = some (.int .i64 0) := b2.cell 5; have d6 : W2.cell? ⟨w.heap.size, 6, none⟩ = some (.bool false) := b2.cell 6; clear g2 b2)
    obtain ⟨W3, hW3⟩ : ∃ W3, W3 = (((((((W2.setCell ⟨w.heap.size, 0, none⟩ (.int .i64 0)).setCell ⟨w.heap.size, 1, none⟩ (.int .u8 0)).setCell ⟨w.heap.size, 2, none⟩ (.int .u8 0)).setCell ⟨w.heap.size, 3, none⟩ (.int .i64 0)).setCell ⟨w.heap.size, 4, none⟩ (.int .i64 0)).setCell ⟨w.heap.size, 5, none⟩ (.int .i64 0)).setCell ⟨w.heap.size, 6, none⟩ (.bool false)) := ⟨_, rfl⟩
    obtain ⟨b3, g3⟩ := Qu.put7 B2.out (.int .i64 0) (.int .u8 0) (.int .u8 0) (.int .i64 0) (.int .i64 0) (.int .i64 0) (.bool false) W3 hW3
    rw [← hW3]
    clear hW3 d0 d1 d2 d3 d4 d5 d6 f0 f1 f2 f3 f4 f5 f6
    have e0 : W3.cell? ⟨w.heap.size, 0, none⟩ = some (.int .i64 0) := b3.cell 0
    have e1 : W3.cell? ⟨w.heap.size, 1, none⟩ = some (.int .u8 0) := b3.cell 1
    have e2 : W3.cell? ⟨w.heap.size, 2, none⟩ = some (.int .u8 0) := b3.cell 2
    have e3 : W3.cell? ⟨w.heap.size, 3, none⟩ = some (.int .i64 0) := b3.cell 3
    have e4 : W3.cell? ⟨w.heap.size, 4, none⟩ = some (.int .i64 0) := b3.cell 4
    have e5 : W3.cell? ⟨w.heap.size, 5, none⟩ = some (.int .i64 0) := b3.cell 5
    have e6 : W3.cell? ⟨w.heap.size, 6, none⟩ = some (.bool false) := b3.cell 6
    refine bodyPost_ret (v := .tuple #[.agg #[.int .i64 0, .int .u8 0, .int .u8 0, .int .i64 0, .int .i64 0, .int .i64 0, .bool false], .bool false]) (by simp [results, Try.results13, go_sem, e0, e1, e2, e3, e4, e5, e6]) rfl ⟨by rw [HL1.out]; rfl, ?_⟩
    rw [HL1.out]
    exact Qu.N.boxed G0.out (Nat.le_refl _) (by simp) HLT.out HQ1.out HK1.out HK2.out G2.out g3
  | cons x l =>
    have HP2 := Lib.hid (show Calls Try.prog 32 #[.pointer (some ⟨bw, 0, none⟩), .int .i64 0] W1 fun e w' => e = .returned (.tuple #[.agg #[.int .i64 x.k, .int .u8 x.wh, .int .u8 x.st, .int .i64 x.ad, .int .i64 x.ln, .int .i64 x.ar, .bool x.bad], .bool true]) ∧ W1.grownBy w' none from HP.out)
    clear HP
    go_wp2_with (go_at_call 32; (with_reducible refine HP2.out.mono ?_); rintro e W2 ⟨rfl, g2⟩; have G2 := Lib.hid g2; have b2 := B1.out.only g2 (by simp); have B2 := Lib.hid b2; have f0 := b2.free 0; have f1 := b2.free 1; have f2 := b2.free 2; have f3 := b2.free 3; have f4 := b2.free 4; have f5 := b2.free 5; have f6 := b2.free 6; have d0 : W2.cell? ⟨w.heap.size, 0, none⟩ = some (.int .i64 0) := b2.cell 0; have d1 : W2.cell? ⟨w.heap.size, 1, none⟩ = some (.int .u8 0) := b2.cell 1; have d2 : W2.cell? ⟨w.heap.size, 2, none⟩ = some (.int .u8 0) := b2.cell 2; have d3 : W2.cell? ⟨w.heap.size, 3, none⟩ = some (.int .i64 0) := b2.cell 3; have d4 : W2.cell? ⟨w.heap.size, 4, none⟩ = some (.int .i64 0) := b2.cell 4; have d5 : W2.cell? ⟨w.heap.size, 5, none⟩ = some (.int .i64 0) := b2.cell 5; have d6 : W2.cell? ⟨w.heap.size, 6, none⟩ = some (.bool false) := b2.cell 6; clear g2 b2)
    obtain ⟨W3, hW3⟩ : ∃ W3, W3 = (((((((W2.setCell ⟨w.heap.size, 0, none⟩ (.int .i64 x.k)).setCell ⟨w.heap.size, 1, none⟩ (.int .u8 x.wh)).setCell ⟨w.heap.size, 2, none⟩ (.int .u8 x.st)).setCell ⟨w.heap.size, 3, none⟩ (.int .i64 x.ad)).setCell ⟨w.heap.size, 4, none⟩ (.int .i64 x.ln)).setCell ⟨w.heap.size, 5, none⟩ (.int .i64 x.ar)).setCell ⟨w.heap.size, 6, none⟩ (.bool x.bad)) := ⟨_, rfl⟩
    obtain ⟨b3, g3⟩ := Qu.put7 B2.out (.int .i64 x.k) (.int .u8 x.wh) (.int .u8 x.st) (.int .i64 x.ad) (.int .i64 x.ln) (.int .i64 x.ar) (.bool x.bad) W3 hW3
    rw [← hW3]
    clear hW3 d0 d1 d2 d3 d4 d5 d6 f0 f1 f2 f3 f4 f5 f6
    have e0 : W3.cell? ⟨w.heap.size, 0, none⟩ = some (.int .i64 x.k) := b3.cell 0
    have e1 : W3.cell? ⟨w.heap.size, 1, none⟩ = some (.int .u8 x.wh) := b3.cell 1
    have e2 : W3.cell? ⟨w.heap.size, 2, none⟩ = some (.int .u8 x.st) := b3.cell 2
    have e3 : W3.cell? ⟨w.heap.size, 3, none⟩ = some (.int .i64 x.ad) := b3.cell 3
    have e4 : W3.cell? ⟨w.heap.size, 4, none⟩ = some (.int .i64 x.ln) := b3.cell 4
    have e5 : W3.cell? ⟨w.heap.size, 5, none⟩ = some (.int .i64 x.ar) := b3.cell 5
    have e6 : W3.cell? ⟨w.heap.size, 6, none⟩ = some (.bool x.bad) := b3.cell 6
    refine bodyPost_ret (v := .tuple #[.agg #[.int .i64 x.k, .int .u8 x.wh, .int .u8 x.st, .int .i64 x.ad, .int .i64 x.ln, .int .i64 x.ar, .bool x.bad], .bool true]) (by simp [results, Try.results13, go_sem, e0, e1, e2, e3, e4, e5, e6]) rfl ⟨by rw [HL1.out]; rfl, ?_⟩
    rw [HL1.out]
    exact Qu.N.boxed G0.out (Nat.le_refl _) (by simp) HLT.out HQ1.out HK1.out HK2.out G2.out g3
end
end Go.Proofs.Ytkiifafocmjfkaa

/- Put and Post of a queue of requests. -/
namespace Go.Proofs.Ytkiifafocmjfkaa
open Go.RowKit Go.Lib Go.Shelf
set_option linter.unusedVariables false
section
variable {w : World} {q bw bd lim : Nat} {vw vd : Value} {L : List Qu.It} {D : List Qu.Cl}
theorem Qu.ctake_any {b : Nat} {v : Value} {l : List Qu.Cl} (h : Fc.Que w b v l lim 0) (hl : l.length ≤ 1000) : Calls Try.prog 34 #[.pointer (some ⟨b, 0, none⟩), .int .i64 l.length] w fun e w' => ∃ out, e = .returned out ∧ RowZ 9 w' out l.length (Fc.L l) ∧ (∀ i, out.ownBlock = some i → w.heap.size ≤ i) ∧ Fc.QueN w b v lim w' [] 0 := by
  by_cases h0 : 0 < l.length
  · refine (Fc.take_n l.length h h0 (Nat.le_refl _) hl).mono ?_
    rintro e w' ⟨o, h1, h2, h3, h4⟩
    rw [List.take_length] at h2
    rw [List.drop_length] at h4
    exact ⟨o, h1, h2, h3, h4⟩
  · obtain rfl : l = [] := List.eq_nil_of_length_eq_zero (by omega)
    refine (Fc.take_0 _ h (by simp)).mono ?_
    rintro e w' ⟨rfl, rfl⟩
    exact ⟨_, rfl, RowZ.nil 9 w, fun i hi => by simp [Value.ownBlock] at hi, Fc.QueN.stay h⟩
set_option maxHeartbeats 1000000 in
theorem Qu.post_any (h : Qu.Qv w q bw bd vw vd L D lim) : Calls Try.prog 15 #[.pointer (some ⟨q, 0, none⟩)] w fun e w' => ∃ out, e = .returned out ∧ RowZ 9 w' out (D ++ (L.takeWhile (·.bad)).map Qu.wr).length (Fc.L (D ++ (L.takeWhile (·.bad)).map Qu.wr)) ∧ (∀ i, out.ownBlock = some i → w.heap.size ≤ i) ∧ Qu.N w q bw bd vw vd w' (L.dropWhile (·.bad)) [] lim := by
  have HS := Lib.hid (Qu.settle_doc _ q bw bd lim vw vd L D h)
  clear h
  go_enter Try.func15, Try.ntmps15
  go_wp2_with (go_at_call 12; (with_reducible refine HS.out.mono ?_); rintro e W1 ⟨rfl, hN⟩; obtain ⟨vw1, vd1, Q1, k1, k2⟩ := hN; have c1 : W1.cell? ⟨q, 1, none⟩ = some (.pointer (some ⟨bd, 0, none⟩)) := Q1.blk.cell 1; have HQ1 := Lib.hid Q1; have HK1 := Lib.hid k1; have HK2 := Lib.hid k2; clear Q1 k1 k2)
  have hd : W1.grownBy W1.drew none := only_drewN (only_refl _ none) 1
  have hl : (D ++ (L.takeWhile (·.bad)).map Qu.wr).length ≤ 1000 := by have := HQ1.out.sm; have := HQ1.out.l16; omega
  have HL := Lib.hid (Fc.len_any (HQ1.out.dq.grown hd))
  have HT := Lib.hid (Qu.ctake_any (HQ1.out.dq.grown hd) hl)
  have HD := Lib.hid hd
  clear hd hl HS
  obtain ⟨D1, hD1⟩ : ∃ D1, D ++ (L.takeWhile (·.bad)).map Qu.wr = D1 := ⟨_, rfl⟩
  rw [hD1] at HQ1 HL HT
  have HE := Lib.hid hD1
  clear hD1
  go_region_with (first | (go_at_call 35; (with_reducible refine HL.out.mono ?_); rintro e w' ⟨rfl, rfl⟩) | (go_at_call 34; (with_reducible refine HT.out.mono ?_); rintro e W2 ⟨out, rfl, hr, ho, hN⟩))
  all_goals go_wp2
  all_goals go_ret
  all_goals
    have hp := HQ1.out.putD (hN.before HD.out) (by have := HQ1.out.sm; simp; omega)
    exact ⟨out, rfl, by rw [HE.out]; exact hr, fun i hi => by have := ho i hi; have := HD.out.size; have := HK1.out.size; omega, Qu.N.trans HK1.out HK2.out hp⟩
end
end Go.Proofs.Ytkiifafocmjfkaa

/- Put of a queue of requests. -/
namespace Go.Proofs.Ytkiifafocmjfkaa
open Go.RowKit Go.Lib Go.Shelf Go.Sort
set_option linter.unusedVariables false
section
variable {w : World} {q bw bd lim : Nat} {vw vd : Value} {L : List Qu.It} {D : List Qu.Cl}
set_option maxHeartbeats 1000000 in
theorem Qu.put_any (x : Qu.It) (h : Qu.Qv w q bw bd vw vd L D lim) : Calls Try.prog 11 #[.pointer (some ⟨q, 0, none⟩), .agg #[.int .i64 x.k, .int .u8 x.wh, .int .u8 x.st, .int .i64 x.ad, .int .i64 x.ln, .int .i64 x.ar, .bool x.bad]] w fun e w' =>
    if L.length + D.length < lim then e = .returned (.bool true) ∧ Qu.N w q bw bd vw vd w' (L ++ [x]) D lim else e = .returned (.bool false) ∧ Qu.N w q bw bd vw vd w' L D lim := by
  have g0 := only_alloc (only_refl w none) (.cells #[.int .i64 x.k, .int .u8 x.wh, .int .u8 x.st, .int .i64 x.ad, .int .i64 x.ln, .int .i64 x.ar, .bool x.bad] 35)
  have hb := Blk.new w 35 #[.int .i64 x.k, .int .u8 x.wh, .int .u8 x.st, .int .i64 x.ad, .int .i64 x.ln, .int .i64 x.ar, .bool x.bad]
  obtain ⟨w0, hw0⟩ : ∃ w0, w0 = w.alloc (.cells #[.int .i64 x.k, .int .u8 x.wh, .int .u8 x.st, .int .i64 x.ad, .int .i64 x.ln, .int .i64 x.ar, .bool x.bad] 35) := ⟨_, rfl⟩
  rw [← hw0] at g0 hb
  have h0 := h.grown g0
  have gr : ∀ d os, w0.grownBy (grow (redrawn w0 d) os) none := fun d os => by have b := below_regrown w0 d os; exact ⟨b.os, b.tape, b.output, b.size, fun i hi _ => b.block i hi⟩
  have HLN := Lib.hid (fun (d : Nat) (os : Array Obj) => (Qu.len_any (h0.grown (gr d os))).mono (fun e w' (hh : _ ∧ _) => (⟨hh.1, ⟨hh.2.os, hh.2.tape, hh.2.output, hh.2.size, fun i hi => hh.2.block i hi (by simp)⟩⟩ : e = .returned (.int .i64 ((L.length + D.length : Nat) : Int)) ∧ Below (grow (redrawn w0 d) os).heap.size (grow (redrawn w0 d) os) w')))
  have HLM := Lib.hid (fun (d : Nat) (os : Array Obj) => (Fi.limit_any (h0.wq.grown (gr d os))).mono (fun e w' (hh : _ ∧ _) => (⟨hh.1, hh.2 ▸ Below.refl _ _⟩ : e = .returned (.int .i64 (lim : Int)) ∧ Below (grow (redrawn w0 d) os).heap.size (grow (redrawn w0 d) os) w')))
  have c0 : w0.cell? ⟨q, 0, none⟩ = some (.pointer (some ⟨bw, 0, none⟩)) := h0.blk.cell 0
  have c0r := fun d os => cell_regrown c0 d os
  have H := Lib.hid h
  have H0 := Lib.hid h0
  have HB := Lib.hid hb
  have G0 := Lib.hid g0
  have GR := Lib.hid gr
  clear h gr h0 hb g0
  obtain ⟨n, hn⟩ : ∃ n, L.length + D.length = n := ⟨_, rfl⟩
  rw [hn] at HLN ⊢
  have HNN := Lib.hid hn
  clear hn
  by_cases hlt : n < lim
  · simp only [if_pos hlt]
    have i1 : ¬ (lim : Int) ≤ (n : Int) := by omega
    go_enter Try.func11, Try.ntmps11
    go_wp2
    rw [← hw0]
    clear hw0
    refine wp_region_quiet_below (by kernel_rfl) (by kernel_rfl) ?_
    repeat (quiet_step ((first
      | (go_at_call 16; with_reducible exact Calls.regrown_of (HLN.out _ _))
      | (go_at_call 27; with_reducible exact Calls.regrown_of (HLM.out _ _)))))
    refine wpQuiet_nil ?_
    rintro _ ⟨⟨dq, osq⟩, rfl⟩
    have HG := Lib.hid (GR.out dq osq)
    clear c0r HLN HLM GR c0
    generalize grow (redrawn w0 dq) osq = W1 at HG ⊢
    have HQ := Lib.hid (H0.out.grown HG.out)
    have hx := HB.out.only HG.out (by simp)
    have x0 : W1.cell? ⟨w.heap.size, 0, none⟩ = some (.int .i64 x.k) := hx.cell 0
    have x1 : W1.cell? ⟨w.heap.size, 1, none⟩ = some (.int .u8 x.wh) := hx.cell 1
    have x2 : W1.cell? ⟨w.heap.size, 2, none⟩ = some (.int .u8 x.st) := hx.cell 2
    have x3 : W1.cell? ⟨w.heap.size, 3, none⟩ = some (.int .i64 x.ad) := hx.cell 3
    have x4 : W1.cell? ⟨w.heap.size, 4, none⟩ = some (.int .i64 x.ln) := hx.cell 4
    have x5 : W1.cell? ⟨w.heap.size, 5, none⟩ = some (.int .i64 x.ar) := hx.cell 5
    have x6 : W1.cell? ⟨w.heap.size, 6, none⟩ = some (.bool x.bad) := hx.cell 6
    clear hx
    have c0 : W1.cell? ⟨q, 0, none⟩ = some (.pointer (some ⟨bw, 0, none⟩)) := HQ.out.blk.cell 0
    have hd : W1.grownBy W1.drew none := only_drewN (only_refl _ none) 1
    have HP := Lib.hid (Fi.push_on x (HQ.out.wq.grown hd) (by have := HNN.out; omega) (by have := HQ.out.sm; have := HQ.out.l16; omega))
    have HD := Lib.hid hd
    clear hd
    go_wp2
    go_region_with (go_at_call 28; (with_reducible refine HP.out.mono ?_); rintro e W2 ⟨rfl, hN⟩)
    all_goals go_wp2
    all_goals go_ret
    all_goals exact ⟨rfl, Qu.N.before (only_trans G0.out HG.out) (HQ.out.putW (hN.before HD.out) (by have := HNN.out; simp; omega))⟩
  · simp only [if_neg hlt]
    have i1 : (lim : Int) ≤ (n : Int) := by omega
    go_enter Try.func11, Try.ntmps11
    go_wp2
    rw [← hw0]
    clear hw0
    refine wp_region_quiet_below (by kernel_rfl) (by kernel_rfl) ?_
    repeat (quiet_step ((first
      | (go_at_call 16; with_reducible exact Calls.regrown_of (HLN.out _ _))
      | (go_at_call 27; with_reducible exact Calls.regrown_of (HLM.out _ _)))))
    refine wpQuiet_nil ?_
    rintro _ ⟨⟨dq, osq⟩, rfl⟩
    have HG := Lib.hid (GR.out dq osq)
    clear c0r HLN HLM GR c0
    generalize grow (redrawn w0 dq) osq = W1 at HG ⊢
    go_wp2
    go_ret
    exact ⟨rfl, Qu.N.grown H.out (only_trans G0.out HG.out)⟩
end
end Go.Proofs.Ytkiifafocmjfkaa

/- Pop of a queue of requests. -/
namespace Go.Proofs.Ytkiifafocmjfkaa
open Go.RowKit Go.Lib Go.Shelf
set_option linter.unusedVariables false
section
variable {w : World} {b lim dr : Nat} {v : Value} {l : List Qu.It}
/-- A box of one's own, written ahead of and behind a call. -/
theorem Fi.QueN.boxed {w2 w3 W3 : World} {l' : List Qu.It} {bx : Nat} (hlt : ∀ i, OwnQ b v i → i < w.heap.size) (g : w.grownBy w2 none) (hb : w.heap.size ≤ bx) (hb2 : bx < w2.heap.size) (h : Fi.QueN w2 b v lim w3 l' dr) (g3 : w3.grownBy W3 (some bx)) : Fi.QueN w b v lim W3 l' dr := by
  obtain ⟨v', h1, h2, h3⟩ := h
  have s0 := g.size
  have s1 := h2.size
  have kp := Keeps.of_only g3 (S := fun i => i = bx) (fun i e => by injection e with e; exact e.symm)
  refine ⟨v', h1.keeps kp (fun i hi e => (h3 i hi).elim (fun h => by have := hlt i h; omega) (fun h => by omega)), ?_, fun i hi => (h3 i hi).imp id (fun h => by omega)⟩
  refine ⟨kp.1.trans (h2.1.trans g.os), kp.2.1.trans (h2.2.1.trans g.tape), kp.2.2.1.trans (h2.2.2.1.trans g.output), Nat.le_trans (Nat.le_trans s0 s1) kp.size, fun i hi hs => ?_⟩
  exact ((kp.2.2.2.2 i (by omega) (by omega)).trans (h2.2.2.2.2 i (by omega) hs)).trans (g.block i hi (by simp))
set_option maxHeartbeats 1000000 in
theorem Fi.pop_in (x : Qu.It) (h : Fi.Que w b v (x :: l) lim dr) (hn : (x :: l).length ≤ 1000000) : Calls Try.prog 33 #[.pointer (some ⟨b, 0, none⟩)] w fun e w' => e = .returned (.tuple #[.agg #[.int .i64 x.k, .int .u8 x.wh, .int .u8 x.st, .int .i64 x.ad, .int .i64 x.ln, .int .i64 x.ar, .bool x.bad], .bool true]) ∧ Fi.QueN w b v lim w' l dr := by
  have g0 := only_alloc (only_refl w none) (.cells #[.int .i64 0, .int .u8 0, .int .u8 0, .int .i64 0, .int .i64 0, .int .i64 0, .bool false] 35)
  have R0 := Lib.hid (Blk.new w 35 #[.int .i64 0, .int .u8 0, .int .u8 0, .int .i64 0, .int .i64 0, .int .i64 0, .bool false])
  have hw0 := h.grown g0
  have H1 := Lib.hid (Fi.peek_in x hw0 hn)
  have H2 := Lib.hid (fun (W : World) (hW : Fi.Que W b v (x :: l) lim dr) => show Calls Try.prog 42 #[.pointer (some ⟨b, 0, none⟩), .int .i64 1] W fun e w' => e = .returned (.tuple #[]) ∧ Fi.QueN W b v lim w' l dr from Fi.let_any 1 hW (by omega) (by simp) hn)
  have HW0 := Lib.hid hw0
  have HLT := Lib.hid h.lt
  have G0 := Lib.hid g0
  clear h hw0 g0
  go_enter Try.func33, Try.ntmps33
  go_wp2_with (first
    | (go_at_call 32; (with_reducible refine H1.out.mono ?_); rintro e w1 ⟨rfl, g1⟩; have G1 := Lib.hid g1; have W2 := Lib.hid ((HW0.out.grown g1).grown (only_alloc (only_refl w1 none) (.cells #[.int .i64 x.k, .int .u8 x.wh, .int .u8 x.st, .int .i64 x.ad, .int .i64 x.ln, .int .i64 x.ar, .bool x.bad] 35))); clear g1)
    | (go_at_call 42; (with_reducible refine (H2.out _ W2.out).mono ?_); rintro e w3 ⟨rfl, q3⟩; have Q3 := Lib.hid q3; have HK := Lib.hid (show Keeps (OwnQ b v) (w1.alloc (.cells #[.int .i64 x.k, .int .u8 x.wh, .int .u8 x.st, .int .i64 x.ad, .int .i64 x.ln, .int .i64 x.ar, .bool x.bad] 35)) w3 from by obtain ⟨_, _, k, _⟩ := q3; exact k); have hs := G1.out.size; have hx := (Blk.new w1 35 #[.int .i64 x.k, .int .u8 x.wh, .int .u8 x.st, .int .i64 x.ad, .int .i64 x.ln, .int .i64 x.ar, .bool x.bad]).keeps HK.out (fun e => by have := HLT.out _ e; simp at hs; omega); have hz := ((R0.out.only G1.out (by simp)).alloc (.cells #[.int .i64 x.k, .int .u8 x.wh, .int .u8 x.st, .int .i64 x.ad, .int .i64 x.ln, .int .i64 x.ar, .bool x.bad] 35)).keeps HK.out (fun e => by have := HLT.out _ e; omega); have HZ := Lib.hid hz; have x0 : w3.cell? ⟨w1.heap.size, 0, none⟩ = some (.int .i64 x.k) := hx.cell 0; have x1 : w3.cell? ⟨w1.heap.size, 1, none⟩ = some (.int .u8 x.wh) := hx.cell 1; have x2 : w3.cell? ⟨w1.heap.size, 2, none⟩ = some (.int .u8 x.st) := hx.cell 2; have x3 : w3.cell? ⟨w1.heap.size, 3, none⟩ = some (.int .i64 x.ad) := hx.cell 3; have x4 : w3.cell? ⟨w1.heap.size, 4, none⟩ = some (.int .i64 x.ln) := hx.cell 4; have x5 : w3.cell? ⟨w1.heap.size, 5, none⟩ = some (.int .i64 x.ar) := hx.cell 5; have x6 : w3.cell? ⟨w1.heap.size, 6, none⟩ = some (.bool x.bad) := hx.cell 6; have d0 : w3.cell? ⟨w.heap.size, 0, none⟩ = some (.int .i64 0) := hz.cell 0; have d1 : w3.cell? ⟨w.heap.size, 1, none⟩ = some (.int .u8 0) := hz.cell 1; have d2 : w3.cell? ⟨w.heap.size, 2, none⟩ = some (.int .u8 0) := hz.cell 2; have d3 : w3.cell? ⟨w.heap.size, 3, none⟩ = some (.int .i64 0) := hz.cell 3; have d4 : w3.cell? ⟨w.heap.size, 4, none⟩ = some (.int .i64 0) := hz.cell 4; have d5 : w3.cell? ⟨w.heap.size, 5, none⟩ = some (.int .i64 0) := hz.cell 5; have d6 : w3.cell? ⟨w.heap.size, 6, none⟩ = some (.bool false) := hz.cell 6; have f0 := hz.free 0; have f1 := hz.free 1; have f2 := hz.free 2; have f3 := hz.free 3; have f4 := hz.free 4; have f5 := hz.free 5; have f6 := hz.free 6; clear q3 hs hx hz))
  obtain ⟨W3, hW3⟩ : ∃ W3, W3 = (((((((w3.setCell ⟨w.heap.size, 0, none⟩ (.int .i64 x.k)).setCell ⟨w.heap.size, 1, none⟩ (.int .u8 x.wh)).setCell ⟨w.heap.size, 2, none⟩ (.int .u8 x.st)).setCell ⟨w.heap.size, 3, none⟩ (.int .i64 x.ad)).setCell ⟨w.heap.size, 4, none⟩ (.int .i64 x.ln)).setCell ⟨w.heap.size, 5, none⟩ (.int .i64 x.ar)).setCell ⟨w.heap.size, 6, none⟩ (.bool x.bad)) := ⟨_, rfl⟩
  obtain ⟨b3, g3⟩ := Qu.put7 HZ.out (.int .i64 x.k) (.int .u8 x.wh) (.int .u8 x.st) (.int .i64 x.ad) (.int .i64 x.ln) (.int .i64 x.ar) (.bool x.bad) W3 hW3
  rw [← hW3]
  clear hW3
  have e0 : W3.cell? ⟨w.heap.size, 0, none⟩ = some (.int .i64 x.k) := b3.cell 0
  have e1 : W3.cell? ⟨w.heap.size, 1, none⟩ = some (.int .u8 x.wh) := b3.cell 1
  have e2 : W3.cell? ⟨w.heap.size, 2, none⟩ = some (.int .u8 x.st) := b3.cell 2
  have e3 : W3.cell? ⟨w.heap.size, 3, none⟩ = some (.int .i64 x.ad) := b3.cell 3
  have e4 : W3.cell? ⟨w.heap.size, 4, none⟩ = some (.int .i64 x.ln) := b3.cell 4
  have e5 : W3.cell? ⟨w.heap.size, 5, none⟩ = some (.int .i64 x.ar) := b3.cell 5
  have e6 : W3.cell? ⟨w.heap.size, 6, none⟩ = some (.bool x.bad) := b3.cell 6
  refine bodyPost_ret (v := .tuple #[.agg #[.int .i64 x.k, .int .u8 x.wh, .int .u8 x.st, .int .i64 x.ad, .int .i64 x.ln, .int .i64 x.ar, .bool x.bad], .bool true]) (by simp [results, Try.results33, go_sem, e0, e1, e2, e3, e4, e5, e6]) rfl ⟨rfl, ?_⟩
  have g2 := only_alloc (only_trans G0.out G1.out) (.cells #[.int .i64 x.k, .int .u8 x.wh, .int .u8 x.st, .int .i64 x.ad, .int .i64 x.ln, .int .i64 x.ar, .bool x.bad] 35)
  have hs := G1.out.size
  exact Fi.QueN.boxed HLT.out g2 (Nat.le_refl _) (by simp at hs ⊢; omega) (by simpa using Q3.out) g3
end
end Go.Proofs.Ytkiifafocmjfkaa

/- Pop of none. -/
namespace Go.Proofs.Ytkiifafocmjfkaa
open Go.RowKit Go.Lib Go.Shelf
set_option linter.unusedVariables false
section
variable {w : World} {b lim dr : Nat} {v : Value}
set_option maxHeartbeats 1000000 in
theorem Fi.pop_off (h : Fi.Que w b v [] lim dr) : Calls Try.prog 33 #[.pointer (some ⟨b, 0, none⟩)] w fun e w' => e = .returned (.tuple #[.agg #[.int .i64 0, .int .u8 0, .int .u8 0, .int .i64 0, .int .i64 0, .int .i64 0, .bool false], .bool false]) ∧ w.grownBy w' none := by
  have g0 := only_alloc (only_refl w none) (.cells #[.int .i64 0, .int .u8 0, .int .u8 0, .int .i64 0, .int .i64 0, .int .i64 0, .bool false] 35)
  have R0 := Lib.hid (Blk.new w 35 #[.int .i64 0, .int .u8 0, .int .u8 0, .int .i64 0, .int .i64 0, .int .i64 0, .bool false])
  have H1 := Lib.hid (Fi.peek_off (h.grown g0))
  have G0 := Lib.hid g0
  clear h g0
  go_enter Try.func33, Try.ntmps33
  go_wp2_with (go_at_call 32; (with_reducible refine H1.out.mono ?_); rintro e w1 ⟨rfl, g1⟩; have G1 := Lib.hid g1; have hz := (R0.out.only g1 (by simp)).alloc (.cells #[.int .i64 0, .int .u8 0, .int .u8 0, .int .i64 0, .int .i64 0, .int .i64 0, .bool false] 35); have HZ := Lib.hid hz; have d0 : (w1.alloc (.cells #[.int .i64 0, .int .u8 0, .int .u8 0, .int .i64 0, .int .i64 0, .int .i64 0, .bool false] 35)).cell? ⟨w.heap.size, 0, none⟩ = some (.int .i64 0) := hz.cell 0; have d1 : (w1.alloc (.cells #[.int .i64 0, .int .u8 0, .int .u8 0, .int .i64 0, .int .i64 0, .int .i64 0, .bool false] 35)).cell? ⟨w.heap.size, 1, none⟩ = some (.int .u8 0) := hz.cell 1; have d2 : (w1.alloc (.cells #[.int .i64 0, .int .u8 0, .int .u8 0, .int .i64 0, .int .i64 0, .int .i64 0, .bool false] 35)).cell? ⟨w.heap.size, 2, none⟩ = some (.int .u8 0) := hz.cell 2; have d3 : (w1.alloc (.cells #[.int .i64 0, .int .u8 0, .int .u8 0, .int .i64 0, .int .i64 0, .int .i64 0, .bool false] 35)).cell? ⟨w.heap.size, 3, none⟩ = some (.int .i64 0) := hz.cell 3; have d4 : (w1.alloc (.cells #[.int .i64 0, .int .u8 0, .int .u8 0, .int .i64 0, .int .i64 0, .int .i64 0, .bool false] 35)).cell? ⟨w.heap.size, 4, none⟩ = some (.int .i64 0) := hz.cell 4; have d5 : (w1.alloc (.cells #[.int .i64 0, .int .u8 0, .int .u8 0, .int .i64 0, .int .i64 0, .int .i64 0, .bool false] 35)).cell? ⟨w.heap.size, 5, none⟩ = some (.int .i64 0) := hz.cell 5; have d6 : (w1.alloc (.cells #[.int .i64 0, .int .u8 0, .int .u8 0, .int .i64 0, .int .i64 0, .int .i64 0, .bool false] 35)).cell? ⟨w.heap.size, 6, none⟩ = some (.bool false) := hz.cell 6; have f0 := hz.free 0; have f1 := hz.free 1; have f2 := hz.free 2; have f3 := hz.free 3; have f4 := hz.free 4; have f5 := hz.free 5; have f6 := hz.free 6; clear hz g1)
  obtain ⟨W3, hW3⟩ : ∃ W3, W3 = ((((((((w1.alloc (.cells #[.int .i64 0, .int .u8 0, .int .u8 0, .int .i64 0, .int .i64 0, .int .i64 0, .bool false] 35)).setCell ⟨w.heap.size, 0, none⟩ (.int .i64 0)).setCell ⟨w.heap.size, 1, none⟩ (.int .u8 0)).setCell ⟨w.heap.size, 2, none⟩ (.int .u8 0)).setCell ⟨w.heap.size, 3, none⟩ (.int .i64 0)).setCell ⟨w.heap.size, 4, none⟩ (.int .i64 0)).setCell ⟨w.heap.size, 5, none⟩ (.int .i64 0)).setCell ⟨w.heap.size, 6, none⟩ (.bool false)) := ⟨_, rfl⟩
  obtain ⟨b3, g3⟩ := Qu.put7 HZ.out (.int .i64 0) (.int .u8 0) (.int .u8 0) (.int .i64 0) (.int .i64 0) (.int .i64 0) (.bool false) W3 hW3
  rw [← hW3]
  clear hW3
  have e0 : W3.cell? ⟨w.heap.size, 0, none⟩ = some (.int .i64 0) := b3.cell 0
  have e1 : W3.cell? ⟨w.heap.size, 1, none⟩ = some (.int .u8 0) := b3.cell 1
  have e2 : W3.cell? ⟨w.heap.size, 2, none⟩ = some (.int .u8 0) := b3.cell 2
  have e3 : W3.cell? ⟨w.heap.size, 3, none⟩ = some (.int .i64 0) := b3.cell 3
  have e4 : W3.cell? ⟨w.heap.size, 4, none⟩ = some (.int .i64 0) := b3.cell 4
  have e5 : W3.cell? ⟨w.heap.size, 5, none⟩ = some (.int .i64 0) := b3.cell 5
  have e6 : W3.cell? ⟨w.heap.size, 6, none⟩ = some (.bool false) := b3.cell 6
  refine bodyPost_ret (v := .tuple #[.agg #[.int .i64 0, .int .u8 0, .int .u8 0, .int .i64 0, .int .i64 0, .int .i64 0, .bool false], .bool false]) (by simp [results, Try.results33, go_sem, e0, e1, e2, e3, e4, e5, e6]) rfl ⟨rfl, ?_⟩
  have g2 := only_alloc (only_trans G0.out G1.out) (.cells #[.int .i64 0, .int .u8 0, .int .u8 0, .int .i64 0, .int .i64 0, .int .i64 0, .bool false] 35)
  exact ⟨g3.os.trans g2.os, g3.tape.trans g2.tape, g3.output.trans g2.output, Nat.le_trans g2.size g3.size, fun i hi hn => (g3.block i (Nat.lt_of_lt_of_le hi g2.size) (fun e => by injection e with e; omega)).trans (g2.block i hi hn)⟩
end
end Go.Proofs.Ytkiifafocmjfkaa

/- Finish of a queue of requests. -/
namespace Go.Proofs.Ytkiifafocmjfkaa
open Go.RowKit Go.Lib Go.Shelf
set_option linter.unusedVariables false
section
variable {w : World} {q bw bd lim : Nat} {vw vd : Value} {L : List Qu.It} {D : List Qu.Cl}
set_option maxHeartbeats 1000000 in
theorem Qu.finish_off (s n : Int) (h : Qu.Qv w q bw bd vw vd L D lim) (hL : L.dropWhile (·.bad) = []) : Calls Try.prog 14 #[.pointer (some ⟨q, 0, none⟩), .int .i64 s, .int .i64 n] w fun e w' => e = .returned (.int .i64 9) ∧ Qu.N w q bw bd vw vd w' [] (D ++ (L.takeWhile (·.bad)).map Qu.wr) lim := by
  have HS := Lib.hid (Qu.settle_doc w q bw bd lim vw vd L D h)
  have HL := Lib.hid hL
  clear h hL
  go_enter Try.func14, Try.ntmps14
  go_upto_region 4 with (go_at_call 12; (with_reducible refine HS.out.mono ?_); rintro e W1 ⟨rfl, hN⟩)
  rw [HL.out] at hN
  obtain ⟨vw1, vd1, Q1, k1, k2⟩ := hN
  have c0 : W1.cell? ⟨q, 0, none⟩ = some (.pointer (some ⟨bw, 0, none⟩)) := Q1.blk.cell 0
  have HP := Lib.hid (Fi.pop_off Q1.wq)
  have HQ1 := Lib.hid Q1
  have HK1 := Lib.hid k1
  have HK2 := Lib.hid k2
  clear k1 k2 Q1 HS
  go_wp2_with (go_at_call 33; (with_reducible refine HP.out.mono ?_); rintro e W2 ⟨rfl, g2⟩; have G2 := Lib.hid g2; clear g2)
  go_ret
  exact ⟨rfl, Qu.N.trans HK1.out HK2.out (Qu.N.grown HQ1.out (only_alloc G2.out _))⟩
set_option maxHeartbeats 1000000 in
theorem Qu.finish_on (s n : Int) (x : Qu.It) (l : List Qu.It) (h : Qu.Qv w q bw bd vw vd L D lim) (hL : L.dropWhile (·.bad) = x :: l) : Calls Try.prog 14 #[.pointer (some ⟨q, 0, none⟩), .int .i64 s, .int .i64 n] w fun e w' => e = .returned (.int .i64 0) ∧ Qu.N w q bw bd vw vd w' l ((D ++ (L.takeWhile (·.bad)).map Qu.wr) ++ [⟨x, s, n⟩]) lim := by
  have HS := Lib.hid (Qu.settle_doc w q bw bd lim vw vd L D h)
  have HL := Lib.hid hL
  clear h hL
  go_enter Try.func14, Try.ntmps14
  go_upto_region 4 with (go_at_call 12; (with_reducible refine HS.out.mono ?_); rintro e W1 ⟨rfl, hN⟩)
  rw [HL.out] at hN
  obtain ⟨D1, hD1⟩ : ∃ D1, D ++ (L.takeWhile (·.bad)).map Qu.wr = D1 := ⟨_, rfl⟩
  rw [hD1] at hN
  have HE := Lib.hid hD1
  clear hD1
  obtain ⟨vw1, vd1, Q1, k1, k2⟩ := hN
  have c0 : W1.cell? ⟨q, 0, none⟩ = some (.pointer (some ⟨bw, 0, none⟩)) := Q1.blk.cell 0
  have HP := Lib.hid (Fi.pop_in x Q1.wq (by have := Q1.sm; have := Q1.l16; omega))
  have HQ1 := Lib.hid Q1
  have HK1 := Lib.hid k1
  have HK2 := Lib.hid k2
  clear k1 k2 Q1 HS
  go_upto_region 7 with (go_at_call 33; (with_reducible refine HP.out.mono ?_); rintro e W2 ⟨rfl, h2⟩; have H2 := Lib.hid h2; clear h2)
  have hx := Blk.new W2 35 #[.int .i64 x.k, .int .u8 x.wh, .int .u8 x.st, .int .i64 x.ad, .int .i64 x.ln, .int .i64 x.ar, .bool x.bad]
  have g3 : W2.grownBy (W2.alloc (.cells #[.int .i64 x.k, .int .u8 x.wh, .int .u8 x.st, .int .i64 x.ad, .int .i64 x.ln, .int .i64 x.ar, .bool x.bad] 35)) none := only_alloc (only_refl _ none) _
  obtain ⟨W3, hW3⟩ : ∃ W3, W3 = W2.alloc (.cells #[.int .i64 x.k, .int .u8 x.wh, .int .u8 x.st, .int .i64 x.ad, .int .i64 x.ln, .int .i64 x.ar, .bool x.bad] 35) := ⟨_, rfl⟩
  rw [← hW3] at hx g3
  rw [← hW3]
  have hsm : (x :: l).length + D1.length ≤ lim := HQ1.out.sm
  have hsm2 : l.length + 1 + D1.length ≤ lim := by simpa using hsm
  obtain ⟨vw2, vd2, Q2, k3, k4⟩ := HQ1.out.putW H2.out (by omega)
  have Q3 := Q2.grown g3
  have x0 : W3.cell? ⟨W2.heap.size, 0, none⟩ = some (.int .i64 x.k) := hx.cell 0
  have x1 : W3.cell? ⟨W2.heap.size, 1, none⟩ = some (.int .u8 x.wh) := hx.cell 1
  have x2 : W3.cell? ⟨W2.heap.size, 2, none⟩ = some (.int .u8 x.st) := hx.cell 2
  have x3 : W3.cell? ⟨W2.heap.size, 3, none⟩ = some (.int .i64 x.ad) := hx.cell 3
  have x4 : W3.cell? ⟨W2.heap.size, 4, none⟩ = some (.int .i64 x.ln) := hx.cell 4
  have x5 : W3.cell? ⟨W2.heap.size, 5, none⟩ = some (.int .i64 x.ar) := hx.cell 5
  have x6 : W3.cell? ⟨W2.heap.size, 6, none⟩ = some (.bool x.bad) := hx.cell 6
  have c1 : W3.cell? ⟨q, 1, none⟩ = some (.pointer (some ⟨bd, 0, none⟩)) := Q3.blk.cell 1
  have hd : W3.grownBy W3.drew none := only_drewN (only_refl _ none) 1
  have HC := Lib.hid (Fc.push_on ⟨x, s, n⟩ (Q3.dq.grown hd) (by omega) (by have := Q3.l16; omega))
  have HD := Lib.hid hd
  have HQ3 := Lib.hid Q3
  have HK3 := Lib.hid k3
  have HK4 := Lib.hid k4
  have HG3 := Lib.hid g3
  have HSM := Lib.hid hsm2
  clear hW3 hd k3 k4 g3 Q3 Q2 hx hsm hsm2 c0 HP
  go_wp2
  go_region_with (go_at_call 30; (with_reducible refine HC.out.mono ?_); rintro e W4 ⟨rfl, hN4⟩)
  all_goals go_wp2
  all_goals go_ret
  all_goals
    have hp := HQ3.out.putD (hN4.before HD.out) (by have := HSM.out; simp; omega)
    rw [HE.out]
    exact ⟨rfl, Qu.N.trans HK1.out HK2.out (Qu.N.trans (HK3.out.trans (Keeps.of_only HG3.out (by simp))) HK4.out hp)⟩
/-- New. -/
theorem Qu.new_w (n : Int) (w : World) : Calls Try.prog 6 #[.int .i64 n] w fun e w' => e = .returned (.pointer (some ⟨w.heap.size + 1 + 1, 0, none⟩)) ∧ ((w.alloc (.cells #[.slice none 0 0, .int .i64 (limQ (min n 16)), .int .i64 0] 78)).alloc (.cells #[.slice none 0 0, .int .i64 (limQ (min n 16)), .int .i64 0] 80)).alloc (.cells #[.pointer (some ⟨w.heap.size, 0, none⟩), .pointer (some ⟨w.heap.size + 1, 0, none⟩)] 59) = w' := by
  by_cases h16 : n ≤ 16
  · have e1 : min n 16 = n := by omega
    rw [e1]
    clear e1
    have HF := Lib.hid (fun W => Fi.new_any n W)
    have HC := Lib.hid (fun W => Fc.new_any n W)
    go_enter Try.func6, Try.ntmps6
    go_wp2_with (first
      | (go_at_call 20; (with_reducible refine (HF.out _).mono ?_); rintro e W1 ⟨rfl, rfl⟩)
      | (go_at_call 21; (with_reducible refine (HC.out _).mono ?_); rintro e W1 ⟨rfl, rfl⟩))
    go_ret
    exact ⟨by simp, by simp⟩
  · have e1 : min n 16 = 16 := by omega
    rw [e1]
    clear e1
    have HF := Lib.hid (fun W => Fi.new_any 16 W)
    have HC := Lib.hid (fun W => Fc.new_any 16 W)
    go_enter Try.func6, Try.ntmps6
    go_wp2_with (first
      | (go_at_call 20; (with_reducible refine (HF.out _).mono ?_); rintro e W1 ⟨rfl, rfl⟩)
      | (go_at_call 21; (with_reducible refine (HC.out _).mono ?_); rintro e W1 ⟨rfl, rfl⟩))
    go_ret
    exact ⟨by simp, by simp⟩
/-- New: a queue of its own. -/
def Qu.NewV (w : World) (lim : Nat) (e : Ending) (w' : World) : Prop := ∃ q bw bd, e = .returned (.pointer (some ⟨q, 0, none⟩)) ∧ Qu.Qv w' q bw bd (.slice none 0 0) (.slice none 0 0) [] [] lim ∧ w.grownBy w' none ∧ ∀ i, Qu.Ft q bw bd (.slice none 0 0) (.slice none 0 0) i → w.heap.size ≤ i
theorem Qu.new_any (n : Int) (w : World) : Calls Try.prog 6 #[.int .i64 n] w (Qu.NewV w (limQ (min n 16))) := by
  refine (Qu.new_w n w).mono ?_
  rintro e w' ⟨rfl, rfl⟩
  have hl : limQ (min n 16) ≤ 16 := by unfold limQ; omega
  generalize limQ (min n 16) = k at hl ⊢
  refine ⟨_, w.heap.size, w.heap.size + 1, rfl, ⟨?_, ⟨?_, RowZ.nil _ _, by simp [Value.ownBlock]⟩, ⟨?_, RowZ.nil _ _, by simp [Value.ownBlock]⟩, ?_, ?_, ?_, by simp, hl⟩, ?_, ?_⟩
  · have := Blk.new ((w.alloc (.cells #[.slice none 0 0, .int .i64 k, .int .i64 0] 78)).alloc (.cells #[.slice none 0 0, .int .i64 k, .int .i64 0] 80)) 59 #[.pointer (some ⟨w.heap.size, 0, none⟩), .pointer (some ⟨w.heap.size + 1, 0, none⟩)]
    simpa using this
  · exact ((Blk.new w 78 #[.slice none 0 0, .int .i64 k, .int .i64 0]).alloc _).alloc _
  · have := (Blk.new (w.alloc (.cells #[.slice none 0 0, .int .i64 k, .int .i64 0] 78)) 80 #[.slice none 0 0, .int .i64 k, .int .i64 0]).alloc (.cells #[.pointer (some ⟨w.heap.size, 0, none⟩), .pointer (some ⟨w.heap.size + 1, 0, none⟩)] 59)
    simpa using this
  · rintro (h | h)
    · omega
    · simp [Value.ownBlock] at h
  · rintro (h | h)
    · omega
    · simp [Value.ownBlock] at h
  · rintro i (h | h) (h2 | h2)
    · omega
    · simp [Value.ownBlock] at h2
    · simp [Value.ownBlock] at h
    · simp [Value.ownBlock] at h
  · exact only_alloc (only_alloc (only_alloc (only_refl _ none) _) _) _
  · rintro i (h | (h | h) | (h | h))
    · omega
    · omega
    · simp [Value.ownBlock] at h
    · omega
    · simp [Value.ownBlock] at h
end
end Go.Proofs.Ytkiifafocmjfkaa

/- A queue of requests of the call's own, above the world in which the call began. -/
namespace Go.Proofs.Ytkiifafocmjfkaa
open Go.RowKit Go.Lib Go.Shelf
set_option linter.unusedVariables false
/-- A queue whose blocks are all new since w. -/
structure Qu.Own (w W : World) (q bw bd : Nat) (vw vd : Value) (L : List Qu.It) (D : List Qu.Cl) (lim : Nat) : Prop where
  qv : Qu.Qv W q bw bd vw vd L D lim
  gr : w.grownBy W none
  fr : ∀ i, Qu.Ft q bw bd vw vd i → w.heap.size ≤ i
/-- What a call leaves of it; blocks that are not the queue's stay as1 they were, and are not the queue's then. -/
def Qu.Nx (w W : World) (q bw bd : Nat) (vw vd : Value) (W' : World) (L : List Qu.It) (D : List Qu.Cl) (lim : Nat) : Prop :=
  ∃ vw' vd', Qu.Own w W' q bw bd vw' vd' L D lim ∧ Keeps (Qu.Ft q bw bd vw vd) W W' ∧ ∀ i, Qu.Ft q bw bd vw' vd' i → Qu.Ft q bw bd vw vd i ∨ W.heap.size ≤ i
section
variable {w W W' : World} {q bw bd lim : Nat} {vw vd : Value} {L L' : List Qu.It} {D D' : List Qu.Cl}
theorem Qu.Own.lt (h : Qu.Own w W q bw bd vw vd L D lim) : ∀ i, Qu.Ft q bw bd vw vd i → i < W.heap.size := h.qv.lt
theorem Qu.Own.grown (h : Qu.Own w W q bw bd vw vd L D lim) (g : W.grownBy W' none) : Qu.Own w W' q bw bd vw vd L D lim := ⟨h.qv.grown g, only_trans h.gr g, h.fr⟩
theorem Qu.Own.keeps {S : Nat → Prop} (h : Qu.Own w W q bw bd vw vd L D lim) (k : Keeps S W W') (hn : ∀ i, Qu.Ft q bw bd vw vd i → ¬ S i) (hw : ∀ i, i < w.heap.size → ¬ S i) : Qu.Own w W' q bw bd vw vd L D lim :=
  ⟨h.qv.keeps k hn, ⟨k.1.trans h.gr.os, k.2.1.trans h.gr.tape, k.2.2.1.trans h.gr.output, Nat.le_trans h.gr.size k.size, fun i hi _ => (k.2.2.2.2 i (Nat.lt_of_lt_of_le hi h.gr.size) (hw i hi)).trans (h.gr.block i hi (by simp))⟩, h.fr⟩
theorem Qu.Own.next (h : Qu.Own w W q bw bd vw vd L D lim) (hN : Qu.N W q bw bd vw vd W' L' D' lim) : Qu.Nx w W q bw bd vw vd W' L' D' lim := by
  obtain ⟨vw', vd', h1, h2, h3⟩ := hN
  have s1 := h.gr.size
  refine ⟨vw', vd', ⟨h1, ?_, fun i hi => (h3 i hi).elim (h.fr i) (fun e => by omega)⟩, h2, h3⟩
  exact ⟨h2.1.trans h.gr.os, h2.2.1.trans h.gr.tape, h2.2.2.1.trans h.gr.output, Nat.le_trans s1 h2.size, fun i hi _ => (h2.2.2.2.2 i (by omega) (fun e => by have := h.fr i e; omega)).trans (h.gr.block i hi (by simp))⟩
theorem Qu.NewV.own {e : Ending} (h : Qu.NewV w lim e W) : ∃ q bw bd, e = .returned (.pointer (some ⟨q, 0, none⟩)) ∧ Qu.Own w W q bw bd (.slice none 0 0) (.slice none 0 0) [] [] lim := by
  obtain ⟨q, bw, bd, h1, h2, h3, h4⟩ := h
  exact ⟨q, bw, bd, h1, h2, h3, h4⟩
theorem Qu.Own.put (h : Qu.Own w W q bw bd vw vd L D lim) (x : Qu.It) : Calls Try.prog 11 #[.pointer (some ⟨q, 0, none⟩), .agg #[.int .i64 x.k, .int .u8 x.wh, .int .u8 x.st, .int .i64 x.ad, .int .i64 x.ln, .int .i64 x.ar, .bool x.bad]] W fun e W' =>
    if L.length + D.length < lim then e = .returned (.bool true) ∧ Qu.Nx w W q bw bd vw vd W' (L ++ [x]) D lim else e = .returned (.bool false) ∧ Qu.Nx w W q bw bd vw vd W' L D lim :=
  (Qu.put_any x h.qv).mono fun e W' hh => by
    split at hh
    · rename_i hc
      rw [if_pos hc]
      exact ⟨hh.1, h.next hh.2⟩
    · rename_i hc
      rw [if_neg hc]
      exact ⟨hh.1, h.next hh.2⟩
theorem Qu.Own.settle (h : Qu.Own w W q bw bd vw vd L D lim) : Calls Try.prog 12 #[.pointer (some ⟨q, 0, none⟩)] W fun e W' =>
    e = .returned (.int .i64 (L.takeWhile (·.bad)).length) ∧ Qu.Nx w W q bw bd vw vd W' (L.dropWhile (·.bad)) (D ++ (L.takeWhile (·.bad)).map Qu.wr) lim :=
  (Qu.settle_doc W q bw bd lim vw vd L D h.qv).mono fun e W' hh => ⟨hh.1, h.next hh.2⟩
theorem Qu.Own.head (h : Qu.Own w W q bw bd vw vd L D lim) : Calls Try.prog 13 #[.pointer (some ⟨q, 0, none⟩)] W fun e W' =>
    e = .returned (Qu.hd (L.dropWhile (·.bad))) ∧ Qu.Nx w W q bw bd vw vd W' (L.dropWhile (·.bad)) (D ++ (L.takeWhile (·.bad)).map Qu.wr) lim :=
  (Qu.head_any h.qv).mono fun e W' hh => ⟨hh.1, h.next hh.2⟩
/-- What Finish makes of what waits and what is done. -/
def Qu.fin (L : List Qu.It) (s n : Int) : List Qu.Cl := match L with | [] => [] | x :: _ => [⟨x, s, n⟩]
theorem Qu.Own.finish (h : Qu.Own w W q bw bd vw vd L D lim) (s n : Int) : Calls Try.prog 14 #[.pointer (some ⟨q, 0, none⟩), .int .i64 s, .int .i64 n] W fun e W' =>
    e = .returned (.int .i64 (if (L.dropWhile (·.bad)) = [] then 9 else 0)) ∧ Qu.Nx w W q bw bd vw vd W' (L.dropWhile (·.bad)).tail ((D ++ (L.takeWhile (·.bad)).map Qu.wr) ++ Qu.fin (L.dropWhile (·.bad)) s n) lim := by
  cases hL : L.dropWhile (·.bad) with
  | nil =>
    refine (Qu.finish_off s n h.qv hL).mono fun e W' hh => ⟨by rw [hh.1, if_pos rfl], ?_⟩
    have := h.next hh.2
    simpa [Qu.fin] using this
  | cons x l =>
    refine (Qu.finish_on s n x l h.qv hL).mono fun e W' hh => ⟨by rw [hh.1, if_neg (by simp)], ?_⟩
    have := h.next hh.2
    simpa [Qu.fin] using this
theorem Qu.Own.post (h : Qu.Own w W q bw bd vw vd L D lim) : Calls Try.prog 15 #[.pointer (some ⟨q, 0, none⟩)] W fun e W' => ∃ out, e = .returned out ∧ RowZ 9 W' out (D ++ (L.takeWhile (·.bad)).map Qu.wr).length (Fc.L (D ++ (L.takeWhile (·.bad)).map Qu.wr)) ∧ (∀ i, out.ownBlock = some i → W.heap.size ≤ i) ∧ Qu.Nx w W q bw bd vw vd W' (L.dropWhile (·.bad)) [] lim :=
  (Qu.post_any h.qv).mono fun e W' ⟨out, h1, h2, h3, h4⟩ => ⟨out, h1, h2, h3, h.next h4⟩
theorem Qu.Own.len (h : Qu.Own w W q bw bd vw vd L D lim) : Calls Try.prog 16 #[.pointer (some ⟨q, 0, none⟩)] W fun e W' => e = .returned (.int .i64 ((L.length + D.length : Nat) : Int)) ∧ W.grownBy W' none := Qu.len_any h.qv
theorem Qu.Own.waits (h : Qu.Own w W q bw bd vw vd L D lim) : Calls Try.prog 18 #[.pointer (some ⟨q, 0, none⟩)] W fun e W' => e = .returned (.int .i64 L.length) ∧ W = W' := Qu.waits_any h.qv
/-- A row apart from the queue stays. -/
theorem Qu.row_stays {s n : Nat} {v : Value} {xs : List Value} {vw' vd' : Value} (hr : RowZ s W v n xs) (ha : ∀ i, v.ownBlock = some i → ¬ Qu.Ft q bw bd vw vd i) (hk : Keeps (Qu.Ft q bw bd vw vd) W W') (hf : ∀ i, Qu.Ft q bw bd vw' vd' i → Qu.Ft q bw bd vw vd i ∨ W.heap.size ≤ i) :
    RowZ s W' v n xs ∧ ∀ i, v.ownBlock = some i → ¬ Qu.Ft q bw bd vw' vd' i :=
  ⟨hr.keeps hk ha, fun i hi hn => (hf i hn).elim (ha i hi) (fun e => by have := hr.lt i hi; omega)⟩
end
/-- The law's live: closed numbers. -/
def Qu.x7 : Qu.It := ⟨7, 0, 0, 0, 0, 0, true⟩
def Qu.x8 : Qu.It := ⟨8, 0, 0, 0, 0, 0, false⟩
set_option maxHeartbeats 1000000 in
theorem Qu.live_any (w : World) : Calls Try.prog 10 #[] w fun e w' => e = .returned (.bool true) ∧ w.grownBy w' none := by
  have HN := Lib.hid (show Calls Try.prog 6 #[.int .i64 4] w (Qu.NewV w 4) from Qu.new_any 4 w)
  have HP1 := Lib.hid (fun (W : World) (q bw bd : Nat) (vw vd : Value) (h : Qu.Own w W q bw bd vw vd [] [] 4) => show Calls Try.prog 11 #[.pointer (some ⟨q, 0, none⟩), .agg #[.int .i64 7, .int .u8 0, .int .u8 0, .int .i64 0, .int .i64 0, .int .i64 0, .bool true]] W fun e W' => e = .returned (.bool true) ∧ Qu.Nx w W q bw bd vw vd W' [Qu.x7] [] 4 from h.put Qu.x7)
  have HP2 := Lib.hid (fun (W : World) (q bw bd : Nat) (vw vd : Value) (h : Qu.Own w W q bw bd vw vd [Qu.x7] [] 4) => show Calls Try.prog 11 #[.pointer (some ⟨q, 0, none⟩), .agg #[.int .i64 8, .int .u8 0, .int .u8 0, .int .i64 0, .int .i64 0, .int .i64 0, .bool false]] W fun e W' => e = .returned (.bool true) ∧ Qu.Nx w W q bw bd vw vd W' [Qu.x7, Qu.x8] [] 4 from h.put Qu.x8)
  have HH := Lib.hid (fun (W : World) (q bw bd : Nat) (vw vd : Value) (h : Qu.Own w W q bw bd vw vd [Qu.x7, Qu.x8] [] 4) => show Calls Try.prog 13 #[.pointer (some ⟨q, 0, none⟩)] W fun e W' => e = .returned (.tuple #[.agg #[.int .i64 8, .int .u8 0, .int .u8 0, .int .i64 0, .int .i64 0, .int .i64 0, .bool false], .bool true]) ∧ Qu.Nx w W q bw bd vw vd W' [Qu.x8] [⟨Qu.x7, 2, 0⟩] 4 from h.head)
  have HF := Lib.hid (fun (W : World) (q bw bd : Nat) (vw vd : Value) (h : Qu.Own w W q bw bd vw vd [Qu.x8] [⟨Qu.x7, 2, 0⟩] 4) => show Calls Try.prog 14 #[.pointer (some ⟨q, 0, none⟩), .int .i64 1, .int .i64 3] W fun e W' => e = .returned (.int .i64 0) ∧ Qu.Nx w W q bw bd vw vd W' [] [⟨Qu.x7, 2, 0⟩, ⟨Qu.x8, 1, 3⟩] 4 from h.finish 1 3)
  have HO := Lib.hid (fun (W : World) (q bw bd : Nat) (vw vd : Value) (h : Qu.Own w W q bw bd vw vd [] [⟨Qu.x7, 2, 0⟩, ⟨Qu.x8, 1, 3⟩] 4) => show Calls Try.prog 15 #[.pointer (some ⟨q, 0, none⟩)] W fun e W' => ∃ b off c, e = .returned (.slice (some ⟨b, off, none⟩) 2 c) ∧ (W'.cell? ⟨b, off + 7, none⟩ = some (.int .i64 2) ∧ W'.cell? ⟨b, off + 9, none⟩ = some (.int .i64 8) ∧ W'.cell? ⟨b, off + 9 + 1, none⟩ = some (.int .u8 0) ∧ W'.cell? ⟨b, off + 9 + 2, none⟩ = some (.int .u8 0) ∧ W'.cell? ⟨b, off + 9 + 3, none⟩ = some (.int .i64 0) ∧ W'.cell? ⟨b, off + 9 + 4, none⟩ = some (.int .i64 0) ∧ W'.cell? ⟨b, off + 9 + 5, none⟩ = some (.int .i64 0) ∧ W'.cell? ⟨b, off + 9 + 6, none⟩ = some (.bool false) ∧ W'.cell? ⟨b, off + 9 + 7, none⟩ = some (.int .i64 1) ∧ W'.cell? ⟨b, off + 9 + 8, none⟩ = some (.int .i64 3)) ∧ w.grownBy W' none ∧ (∀ (i : Nat) (cs : Array Value), Blk W i 35 cs → ¬ Qu.Ft q bw bd vw vd i → Blk W' i 35 cs) from h.post.mono fun e W' ⟨out, h1, h2, h3, h4⟩ => by
    obtain ⟨_, _, h5, hk5, _⟩ := h4
    rcases h2.2 with ⟨_, hz⟩ | ⟨b, off, c, rfl, h6, h7, h8, h9, hc⟩
    · exact absurd hz (by decide)
    · exact ⟨b, off, c, h1, ⟨hc 7 _ rfl, hc 9 _ rfl, hc 10 _ rfl, hc 11 _ rfl, hc 12 _ rfl, hc 13 _ rfl, hc 14 _ rfl, hc 15 _ rfl, hc 16 _ rfl, hc 17 _ rfl⟩, h5.gr, fun i cs hb hn => hb.keeps hk5 hn⟩)
  have he : ∀ W, (binOp BinOp.eql 51 (.agg #[.int .i64 8, .int .u8 0, .int .u8 0, .int .i64 0, .int .i64 0, .int .i64 0, .bool false, .int .i64 1, .int .i64 3]) (.agg #[.int .i64 8, .int .u8 0, .int .u8 0, .int .i64 0, .int .i64 0, .int .i64 0, .bool false, .int .i64 1, .int .i64 3])).run Try.prog W = .ok (.bool true) W := fun W => by kernel_rfl
  go_enter Try.func10, Try.ntmps10
  go_upto_region 6 with (first
    | (go_at_call 6; (with_reducible refine HN.out.mono ?_); rintro e w1 hh; obtain ⟨q, bw, bd, rfl, ho⟩ := hh.own; have O1 := Lib.hid ho; clear hh ho)
    | (go_at_call 11; (with_reducible refine (HP1.out _ _ _ _ _ _ O1.out).mono ?_); rintro e w2 ⟨rfl, vw2, vd2, ho, _, _⟩; have O2 := Lib.hid ho; clear ho)
    | (go_at_call 11; (with_reducible refine (HP2.out _ _ _ _ _ _ O2.out).mono ?_); rintro e w3 ⟨rfl, vw3, vd3, ho, _, _⟩; have O3 := Lib.hid ho; clear ho)
    | (go_at_call 13; (with_reducible refine (HH.out _ _ _ _ _ _ O3.out).mono ?_); rintro e w4 ⟨rfl, vw4, vd4, ho, _, _⟩; have hb := Blk.new w4 35 #[.int .i64 8, .int .u8 0, .int .u8 0, .int .i64 0, .int .i64 0, .int .i64 0, .bool false]; have g5 : w4.grownBy (w4.alloc (.cells #[.int .i64 8, .int .u8 0, .int .u8 0, .int .i64 0, .int .i64 0, .int .i64 0, .bool false] 35)) none := only_alloc (only_refl _ none) _; have O5 := Lib.hid (ho.grown g5); have HB := Lib.hid hb; have HLW := Lib.hid (show w4.heap.size < (w4.alloc (.cells #[.int .i64 8, .int .u8 0, .int .u8 0, .int .i64 0, .int .i64 0, .int .i64 0, .bool false] 35)).heap.size by simp); have HNF := Lib.hid (show ¬ Qu.Ft q bw bd vw4 vd4 w4.heap.size from fun e => by have := ho.lt _ e; omega); clear ho hb g5)
    | (go_at_call 14; (with_reducible refine (HF.out _ _ _ _ _ _ O5.out).mono ?_); rintro e w6 ⟨rfl, vw6, vd6, ho, hk, hf⟩; have O6 := Lib.hid ho; have HB6 := Lib.hid (HB.out.keeps hk HNF.out); have HNF6 := Lib.hid (show ¬ Qu.Ft q bw bd vw6 vd6 w4.heap.size from fun e => (hf _ e).elim HNF.out (fun e => by have := HLW.out; omega)); clear ho hk hf)
    | (go_at_call 15; (with_reducible refine (HO.out _ _ _ _ _ _ O6.out).mono ?_); rintro e w7 ⟨b, off, c, rfl, hcs, g7, hbk⟩; have G7 := Lib.hid g7; have HB7 := Lib.hid (hbk _ _ HB6.out HNF6.out); have HCS := Lib.hid hcs; clear g7 hbk hcs))
  obtain ⟨k0, k1, k2, k3, k4, k5, k6, k7, k8, k9⟩ := HCS.out
  have c0 : w7.cell? ⟨w4.heap.size, 0, none⟩ = some (.int .i64 8) := HB7.out.cell 0
  clear HCS HB7 HB6 HNF6 O6 O5 O3 O2 O1 HN HP1 HP2 HH HF HO HB HLW HNF
  go_wp2
  go_ret
  exact ⟨rfl, G7.out⟩
end Go.Proofs.Ytkiifafocmjfkaa
