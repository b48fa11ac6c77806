import Derived.Test.YthlapnljinkekabJF03
import Derived.Deep.QuietTactic
import Derived.Lib.QuietBelow
import Derived.BigRegion
import Derived.Maps.AppendAt
set_option linter.all false
/- What is wrong with a row beside those that are there; the call that makes a table. -/
namespace Go.Proofs.Ythlapnljinkekab
open Go.RowKit Go.Lib Go.Sort
set_option linter.unusedVariables false

theorem meetsB_symm (a b : Int × Int) : meetsB a b = meetsB b a := by
  unfold meetsB
  cases isB a <;> cases isB b <;> cases holdsB a b.1 <;> cases holdsB b a.1 <;> rfl
/-- What is wrong with a row beside the rows L. -/
def chkV (L : List Reg) (r : Reg) : Int := if mayB r = false then 2 else if (lookL L r.1).isSome then 15 else if L.any (fun x => meetsB (spn r) (spn x)) then 11 else 0

/-- 'v, ok := m[k]' as1 an equation, for regions that draw. -/
theorem run_look_some {w : World} {b : Nat} {L : List Reg} {k p q s : Int} (hmap : MapR w b L) (hk : fitI k) (hl : lookL L k = some (p, q, s)) :
    (Instr.lookup 72 (.map (some b)) (.int .i64 k) true).run Try.prog w = .ok (.tuple #[.agg #[.int .i64 p, .int .i64 q, .int .i64 s], .bool true]) w := by
  obtain ⟨D, h1, h2⟩ := hmap
  obtain ⟨e1, e2⟩ := h2.has_some hl
  obtain ⟨v, ps, hr, hv⟩ := h1.look_ok int_keys Try.underlying72 (reg_zero w) (regElem_mk (0, 0, 0)) (int_key hk)
  rw [e2] at hv
  obtain ⟨r, rfl, hz⟩ := regElem_inv hv
  injection hz with hz _
  obtain rfl := regDat_inj hz
  rw [e1] at hr
  exact hr
theorem run_look_none {w : World} {b : Nat} {L : List Reg} {k : Int} (hmap : MapR w b L) (hk : fitI k) (hl : lookL L k = none) :
    (Instr.lookup 72 (.map (some b)) (.int .i64 k) true).run Try.prog w = .ok (.tuple #[.agg #[.int .i64 0, .int .i64 0, .int .i64 0], .bool false]) w := by
  obtain ⟨D, h1, h2⟩ := hmap
  have e1 := h2.has_none hk hl
  obtain ⟨v, ps, hr, hv⟩ := h1.look_ok int_keys Try.underlying72 (reg_zero w) (regElem_mk (0, 0, 0)) (int_key hk)
  rw [Maps.atKey_of_not_has e1] at hv
  obtain ⟨r, rfl, hz⟩ := regElem_inv hv
  injection hz with hz _
  obtain rfl := regDat_inj hz
  rw [e1] at hr
  exact hr
theorem MapR.drew {w : World} {b : Nat} {L : List Reg} (h : MapR w b L) : MapR w.drew b L := h.drewN 1
theorem MapR.alloc {w : World} {b : Nat} {L : List Reg} (h : MapR w b L) (o : Obj) : MapR (w.alloc o) b L := h.only (only_alloc (only_refl _ none) _) (by simp)

theorem chkV_end {L : List Reg} {r : Reg} (h0 : mayB r = true) (hl : lookL L r.1 = none) (h : ∀ y ∈ L, meetsB (spn r) (spn y) = false) : chkV L r = 0 := by
  have : L.any (fun x => meetsB (spn r) (spn x)) = false := by
    rw [List.any_eq_false]
    intro x hx
    rw [h x hx]
    decide
  simp only [chkV, h0, hl, this]
  rfl
theorem chkV_meet {L : List Reg} {r y : Reg} (h0 : mayB r = true) (hl : lookL L r.1 = none) (hy : y ∈ L) (h : meetsB (spn r) (spn y) = true) : chkV L r = 11 := by
  have : L.any (fun x => meetsB (spn r) (spn x)) = true := List.any_eq_true.2 ⟨y, hy, h⟩
  simp only [chkV, h0, hl, this]
  rfl

def CheckV (L : List Reg) (r : Reg) (w : World) (e : Ending) (w' : World) : Prop := e = .returned (.int .i64 (chkV L r)) ∧ Below w.heap.size w w'
set_option maxHeartbeats 1600000 in
theorem tcheck_any {w : World} {B t : Nat} {L : List Reg} (r : Reg) (hf : Fits r) (h : TabV w B t L) (hm : AllMay L) (hnd : (L.map (·.1)).Nodup) : Calls Try.prog 28 #[.pointer (some ⟨t, 0, none⟩), rgv r] w (CheckV L r w) := by
  have hcm := fun W => may_any r hf W
  have HCM := Lib.hid hcm
  clear hcm
  by_cases h0 : mayB r = true
  · obtain ⟨b, ht1, ht2, ht3, ht4⟩ := h
    have hb0 := (Below.refl w.heap.size w).alloc (Nat.le_refl _) (.cells #[.int .i64 r.1, .int .i64 r.2.1, .int .i64 r.2.2] 62)
    have HT := Lib.hid ht3
    have HM := Lib.hid ht4
    have HB0 := Lib.hid hb0
    have hp := fun W => places_any r h0 W
    have HP := Lib.hid hp
    rw [h0] at HCM
    clear hp ht3 ht4 hb0
    cases hl : lookL L r.1 with
    | some x =>
      have hc : chkV L r = 15 := by simp [chkV, h0, hl]
      have HC := Lib.hid hc
      have HL := Lib.hid hl
      clear hc hl
      obtain ⟨p, q, s⟩ := r
      obtain ⟨x1, x2, x3⟩ := x
      have ho := hf.1
      simp only at ho
      go_enter Try.func28, Try.ntmps28
      go_wp2_with (first
        | (go_at_call 41; refine (HCM.out _).mono ?_; rintro e w1 ⟨rfl, g1⟩; have B1 := Lib.hid (HB0.out.trans (below_of_only g1 (by simp) (by simp))); have hblk := (Blk.new w 62 #[.int .i64 p, .int .i64 q, .int .i64 s]).only g1 (by simp); have e0 := hblk.cell 0; have e1 := hblk.cell 1; have e2 := hblk.cell 2; simp at e0 e1 e2; have R1 := Lib.hid hblk; have T1 := Lib.hid (HT.out.below B1.out HT.out.lt); have c0 := T1.out.cell 0; simp at c0; have M1 := Lib.hid (HM.out.below B1.out); clear g1 hblk)
  )
      have c0' : (w1.alloc (.cells #[.int .i64 0, .int .i64 0, .int .i64 0] 62)).cell? ⟨t, 0, none⟩ = some (.map (some b)) := (T1.out.alloc _).cell 0
      have e0' : (w1.alloc (.cells #[.int .i64 0, .int .i64 0, .int .i64 0] 62)).cell? ⟨w.heap.size, 0, none⟩ = some (.int .i64 p) := (R1.out.alloc _).cell 0
      have k1 := run_look_some M1.out.drew ho HL.out
      have k2 := run_look_some (M1.out.alloc (.cells #[.int .i64 0, .int .i64 0, .int .i64 0] 62)).drew ho HL.out
      go_region
      all_goals
        go_wp2
        go_ret
        exact ⟨ret_int (by rw [HC.out]), below_drewN (B1.out.alloc B1.out.size _) 1⟩
    | none =>
      have HL := Lib.hid hl
      have hnd' := hnd
      have HND := Lib.hid hnd
      clear hl hnd hnd'
      obtain ⟨p, q, s⟩ := r
      have ho := hf.1
      simp only at ho
      go_enter Try.func28, Try.ntmps28
      go_wp2_with (first
        | (go_at_call 41; refine (HCM.out _).mono ?_; rintro e w1 ⟨rfl, g1⟩; have B1 := Lib.hid (HB0.out.trans (below_of_only g1 (by simp) (by simp))); have hblk := (Blk.new w 62 #[.int .i64 p, .int .i64 q, .int .i64 s]).only g1 (by simp); have e0 := hblk.cell 0; have e1 := hblk.cell 1; have e2 := hblk.cell 2; simp at e0 e1 e2; have R1 := Lib.hid hblk; have T1 := Lib.hid (HT.out.below B1.out HT.out.lt); have c0 := T1.out.cell 0; simp at c0; have M1 := Lib.hid (HM.out.below B1.out); clear g1 hblk)
  )
      have c0' : (w1.alloc (.cells #[.int .i64 0, .int .i64 0, .int .i64 0] 62)).cell? ⟨t, 0, none⟩ = some (.map (some b)) := (T1.out.alloc _).cell 0
      have e0' : (w1.alloc (.cells #[.int .i64 0, .int .i64 0, .int .i64 0] 62)).cell? ⟨w.heap.size, 0, none⟩ = some (.int .i64 p) := (R1.out.alloc _).cell 0
      have k1 := run_look_none M1.out.drew ho HL.out
      have k2 := run_look_none (M1.out.alloc (.cells #[.int .i64 0, .int .i64 0, .int .i64 0] 62)).drew ho HL.out
      go_region
      all_goals
        obtain ⟨w2, hw2⟩ : ∃ w2, w2 = (w1.alloc (.cells #[.int .i64 0, .int .i64 0, .int .i64 0] 62)).drew := ⟨_, rfl⟩
        have R2 : Hid (Blk w2 w.heap.size 62 #[.int .i64 p, .int .i64 q, .int .i64 s]) := by rw [hw2]; exact Lib.hid ((R1.out.alloc _).drewN 1)
        have T2 : Hid (Blk w2 t 74 #[.map (some b)]) := by rw [hw2]; exact Lib.hid ((T1.out.alloc _).drewN 1)
        have M2 : Hid (MapR w2 b L) := by rw [hw2]; exact Lib.hid ((M1.out.alloc _).drew)
        have B2 : Hid (Below w.heap.size w w2) := by rw [hw2]; exact Lib.hid (below_drewN (B1.out.alloc B1.out.size _) 1)
        rw [← hw2]
        clear c0 c0' e0 e0' e1 e2 k1 k2 R1 T1 M1 B1 hw2
        have c0 : w2.cell? ⟨t, 0, none⟩ = some (.map (some b)) := T2.out.cell 0
        go_wp2_with (at_range; refine wpList_range_reg rfl _ rfl b L rfl M2.out HND.out ?_; intro w3 cnt hr hg3 hs3)
        go_frame
        have RN := Lib.hid hr
        have G3 := Lib.hid hg3
        have LT := Lib.hid (And.intro R2.out.lt M2.out.lt)
        have R3 := Lib.hid (R2.out.only hg3 (by simp))
        have B3 := Lib.hid (B2.out.trans (below_of_only hg3 B2.out.size (by simp)))
        clear hr hg3 hs3 c0
        go_loopw [8] (fun x wr => ∃ rem cnt, Rng wr b w2.heap.size L rem cnt ∧ Hid (∀ y ∈ L, y ∈ rem ∨ meetsB (spn (p, q, s)) (spn y) = false) ∧ (∀ y ∈ rem, y ∈ L) ∧ Blk wr w.heap.size 62 #[.int .i64 p, .int .i64 q, .int .i64 s] ∧ Below w.heap.size w wr) (fun x wr => wr.rangeLeft b w2.heap.size)
        case atStart => exact ⟨L, _, RN.out, Lib.hid (fun y hy => .inl hy), fun y hy => hy, R3.out, B3.out⟩
        case round =>
          obtain ⟨rem, cnt', hrn, HS, hrl, hR, hb⟩ := hrel
          have HRN := Lib.hid hrn
          have HRL := Lib.hid hrl
          have HR := Lib.hid hR
          have HB := Lib.hid hb
          clear hrn hrl hR hb
          go_wp2_with (at_next; refine wpList_next_reg rfl _ rfl b _ L rem cnt' rfl HRN.out ?_ ?_)
          · intro hrem
            subst hrem
            have hc : chkV L (p, q, s) = 0 := chkV_end h0 HL.out (fun y hy => by rcases HS.out y hy with h | h <;> first | (cases h; done) | exact h)
            have HC := Lib.hid hc
            clear hc
            go_wp2
            go_ret
            exact ⟨ret_int (by rw [HC.out]), HB.out⟩
          · intro x1 x2 x3 rem' wn cnt2 hperm hrn2 hlt hgn hsn hen
            have hyL : (x1, x2, x3) ∈ L := HRL.out _ (hperm.mem_iff.2 (List.mem_cons_self ..))
            have hmy : mayB (x1, x2, x3) = true := hm _ hyL
            have hpo : ∀ W, Calls Try.prog 43 #[.agg #[.int .i64 x1, .int .i64 x2, .int .i64 x3]] W fun e w' => e = .returned (.agg #[.int .i64 x2, .int .i64 (x2 + x3)]) ∧ W.grownBy w' none := fun W => places_any (x1, x2, x3) hmy W
            have hpr : ∀ W, Calls Try.prog 43 #[.agg #[.int .i64 p, .int .i64 q, .int .i64 s]] W fun e w' => e = .returned (.agg #[.int .i64 q, .int .i64 (q + s)]) ∧ W.grownBy w' none := fun W => places_any (p, q, s) h0 W
            have HPO := Lib.hid hpo
            have HPR := Lib.hid hpr
            clear hpo hpr
            obtain ⟨mb, hmb⟩ : ∃ mb, mb = meetsB (q, q + s) (x2, x2 + x3) := ⟨_, rfl⟩
            obtain ⟨v, hv⟩ : ∃ v, v = meetV (q, q + s) (x2, x2 + x3) := ⟨_, rfl⟩
            obtain ⟨v1, v2⟩ := v
            have hme : ∀ W, Calls Try.prog 42 #[.agg #[.int .i64 q, .int .i64 (q + s)], .agg #[.int .i64 x2, .int .i64 (x2 + x3)]] W fun e w' => e = .returned (.tuple #[.agg #[.int .i64 v1, .int .i64 v2], .bool mb]) ∧ W.grownBy w' none := fun W => by
              have := meet_any (q, q + s) (x2, x2 + x3) W
              rw [← hmb, ← hv] at this
              exact this
            have HME := Lib.hid hme
            have HMB := Lib.hid hmb
            clear hme hmb hv
            have HRNN := Lib.hid hrn2
            have HPERM := Lib.hid hperm
            have HLT := Lib.hid hlt
            have HYL := Lib.hid hyL
            have RQ := Lib.hid (HR.out.only hgn (by have := LT.out.1; intro e; injection e with e; omega))
            have BQ := Lib.hid (HB.out.trans (below_of_only hgn HB.out.size (fun k hk => by have := LT.out.1; injection hk with hk; omega)))
            clear hperm hrn2 hlt hgn hsn hyL hmy
            go_wp2
            obtain ⟨wq, hwq⟩ : ∃ wq, wq = wn.alloc (.cells #[.int .i64 x1, .int .i64 x2, .int .i64 x3] 62) := ⟨_, rfl⟩
            have hOQ : Blk wq wn.heap.size 62 #[.int .i64 x1, .int .i64 x2, .int .i64 x3] := by rw [hwq]; exact Blk.new _ _ _
            have hRQ : Blk wq w.heap.size 62 #[.int .i64 p, .int .i64 q, .int .i64 s] := by rw [hwq]; exact RQ.out.alloc _
            have hBQ : Below w.heap.size w wq := by rw [hwq]; exact BQ.out.alloc BQ.out.size _
            have hNQ : Rng wq b w2.heap.size L rem' cnt2 := by rw [hwq]; exact HRNN.out.only (only_alloc (only_refl _ none) _) (by simp) (by simp)
            rw [← hwq]
            have hold : ∀ W, Below wq.heap.size wq W → W.cell? ⟨w.heap.size, 0, none⟩ = some (.int .i64 p) ∧ W.cell? ⟨w.heap.size, 1, none⟩ = some (.int .i64 q) ∧ W.cell? ⟨w.heap.size, 2, none⟩ = some (.int .i64 s) ∧ W.cell? ⟨wn.heap.size, 0, none⟩ = some (.int .i64 x1) ∧ W.cell? ⟨wn.heap.size, 1, none⟩ = some (.int .i64 x2) ∧ W.cell? ⟨wn.heap.size, 2, none⟩ = some (.int .i64 x3) := fun W h =>
              ⟨(hRQ.below h hRQ.lt).cell 0, (hRQ.below h hRQ.lt).cell 1, (hRQ.below h hRQ.lt).cell 2, (hOQ.below h hOQ.lt).cell 0, (hOQ.below h hOQ.lt).cell 1, (hOQ.below h hOQ.lt).cell 2⟩
            have HOLD := Lib.hid hold
            obtain ⟨c0, c1, c2, c3, c4, c5⟩ := hold wq (Below.refl _ _)
            have HRQ := Lib.hid hRQ
            have HBQ := Lib.hid hBQ
            have HNQ := Lib.hid hNQ
            clear hwq hOQ hRQ hBQ hNQ hold RQ BQ HRNN
            go_region_held3 (fun w' => w'.cell? ⟨w.heap.size, 0, none⟩ = some (.int .i64 p) ∧ w'.cell? ⟨w.heap.size, 1, none⟩ = some (.int .i64 q) ∧ w'.cell? ⟨w.heap.size, 2, none⟩ = some (.int .i64 s) ∧ w'.cell? ⟨wn.heap.size, 0, none⟩ = some (.int .i64 x1) ∧ w'.cell? ⟨wn.heap.size, 1, none⟩ = some (.int .i64 x2) ∧ w'.cell? ⟨wn.heap.size, 2, none⟩ = some (.int .i64 x3))
              (first | exact ⟨l0, l1, l2, l3, l4, l5⟩ | exact ⟨k0, k1, k2, k3, k4, k5⟩ | exact ⟨j0, j1, j2, j3, j4, j5⟩ | exact HOLD.out _ (HB6.out.alloc HB6.out.size _) | exact HOLD.out _ ((HB6.out.setCell (Nat.le_refl _) _).setCell (Nat.le_refl _) _) | exact HOLD.out _ ((HB6.out.setCell HB4.out.size _).setCell HB4.out.size _) | exact HOLD.out _ ((HB6.out.setCell HB5.out.size _).setCell HB5.out.size _) | go_keep) (first
              | (go_at_call 43; ((with_reducible refine (HPR.out _).mono ?_)); rintro e w4 ⟨rfl, g4⟩; (first
                  | (have hB4 : Below wq.heap.size wq w4 := (below_drewN (Below.refl _ wq) 1).trans (below_of_only g4 (by simp) (by simp)))
                  | (have hB4 : Below wq.heap.size wq w4 := ((below_drewN (Below.refl _ wq) 1).alloc (by simp) (.cells #[.int .i64 0, .int .i64 0] 59)).trans (below_of_only g4 (by simp) (by simp)); have HZ4 := Lib.hid ((Blk.new wq.drew 59 #[.int .i64 0, .int .i64 0]).only g4 (by simp))) | fail "q"); obtain ⟨j0, j1, j2, j3, j4, j5⟩ := HOLD.out w4 hB4; have HB4 := Lib.hid hB4; clear hB4 g4)
              | (go_at_call 43; ((with_reducible refine (HPO.out _).mono ?_)); rintro e w5 ⟨rfl, g5⟩; (first
                  | (have hB5 : Below wq.heap.size wq w5 := HB4.out.trans (below_of_only g5 HB4.out.size (by simp)))
                  | (have hB5 : Below wq.heap.size wq w5 := (HB4.out.alloc HB4.out.size (.cells #[.int .i64 0, .int .i64 0] 59)).trans (below_of_only g5 (Nat.le_trans HB4.out.size (by simp)) (by simp)); have HZ5 := Lib.hid ((Blk.new w4 59 #[.int .i64 0, .int .i64 0]).only g5 (by simp))) | fail "q"); obtain ⟨k0, k1, k2, k3, k4, k5⟩ := HOLD.out w5 hB5; (try have HZ5 := Lib.hid (HZ4.out.only g5 (by simp))); have HB5 := Lib.hid hB5; clear hB5 g5)
              | (go_at_call 42; ((with_reducible refine (HME.out _).mono ?_)); rintro e w6 ⟨rfl, g6⟩; (first
                  | (have hB6 : Below wq.heap.size wq w6 := HB5.out.trans (below_of_only g6 HB5.out.size (by simp)))
                  | (have hB6 : Below wq.heap.size wq w6 := (HB5.out.alloc HB5.out.size (.cells #[.int .i64 0, .int .i64 0] 59)).trans (below_of_only g6 (Nat.le_trans HB5.out.size (by simp)) (by simp)); have HZ6 := Lib.hid ((Blk.new w5 59 #[.int .i64 0, .int .i64 0]).only g6 (by simp))) | fail "q"); obtain ⟨l0, l1, l2, l3, l4, l5⟩ := HOLD.out w6 hB6; (try have HZ6 := Lib.hid (HZ5.out.only g6 (by simp))); (try (have z0 := HZ6.out.cell 0; have z1 := HZ6.out.cell 1; have y0 := HZ6.out.free 0; have y1 := HZ6.out.free 1; simp at z0 z1 y0 y1)); have HB6 := Lib.hid hB6; clear hB6 g6))
            all_goals
              (first
                | (obtain ⟨wf, hwf⟩ : ∃ wf, wf = w6.alloc (.cells #[.int .i64 v1, .int .i64 v2] 59) := ⟨_, rfl⟩
                   rw [← hwf]
                   have HF : Hid (Below wq.heap.size wq wf) := by rw [hwf]; exact Lib.hid (HB6.out.alloc HB6.out.size _))
                | (obtain ⟨wf, hwf⟩ : ∃ wf, wf = (w6.setCell ⟨w5.heap.size, 0, none⟩ (.int .i64 v1)).setCell ⟨w5.heap.size, 1, none⟩ (.int .i64 v2) := ⟨_, rfl⟩
                   rw [← hwf]
                   have HF : Hid (Below wq.heap.size wq wf) := by rw [hwf]; exact Lib.hid ((HB6.out.setCell HB5.out.size _).setCell HB5.out.size _))
                | (obtain ⟨wf, hwf⟩ : ∃ wf, wf = (w6.setCell ⟨w4.heap.size, 0, none⟩ (.int .i64 v1)).setCell ⟨w4.heap.size, 1, none⟩ (.int .i64 v2) := ⟨_, rfl⟩
                   rw [← hwf]
                   have HF : Hid (Below wq.heap.size wq wf) := by rw [hwf]; exact Lib.hid ((HB6.out.setCell HB4.out.size _).setCell HB4.out.size _))
                | (obtain ⟨wf, hwf⟩ : ∃ wf, wf = (w6.setCell ⟨wq.heap.size, 0, none⟩ (.int .i64 v1)).setCell ⟨wq.heap.size, 1, none⟩ (.int .i64 v2) := ⟨_, rfl⟩
                   rw [← hwf]
                   have HF : Hid (Below wq.heap.size wq wf) := by rw [hwf]; exact Lib.hid ((HB6.out.setCell (Nat.le_refl _) _).setCell (Nat.le_refl _) _)))
              clear hwf l0 l1 l2 l3 l4 l5 k0 k1 k2 k3 k4 k5 j0 j1 j2 j3 j4 j5 HB4 HB5 HB6 c0 c1 c2 c3 c4 c5
              try clear z0 z1 y0 y1
              cases mb with
              | true =>
                have hc : chkV L (p, q, s) = 11 := chkV_meet h0 HL.out HYL.out HMB.out.symm
                have HC := Lib.hid hc
                clear hc
                go_wp2
                go_ret
                exact ⟨ret_int (by rw [HC.out]), HBQ.out.trans (HF.out.mono HBQ.out.size)⟩
              | false =>
                go_wp2
                go_roundw
                case rel =>
                  refine ⟨rem', cnt2, HNQ.out.only (only_far HF.out) (by simp) (by simp), Lib.hid fun y hy => ?_, fun y hy => HRL.out y (HPERM.out.mem_iff.2 (List.mem_cons_of_mem _ hy)), HRQ.out.below HF.out HRQ.out.lt, HBQ.out.trans (HF.out.mono HBQ.out.size)⟩
                  rcases HS.out y hy with h | h
                  · rcases List.mem_cons.1 (HPERM.out.mem_iff.1 h) with e | e
                    · subst e
                      exact .inr HMB.out.symm
                    · exact .inl e
                  · exact .inr h
                case measure =>
                  rw [(HNQ.out.only (only_far HF.out) (by simp) (by simp)).left_eq, HRN.out.left_eq]
                  exact HLT.out
  · have h0' : mayB r = false := by simpa using h0
    have hc : chkV L r = 2 := by simp [chkV, h0']
    rw [h0'] at HCM
    have HC := Lib.hid hc
    have hb0 := (Below.refl w.heap.size w).alloc (Nat.le_refl _) (.cells #[.int .i64 r.1, .int .i64 r.2.1, .int .i64 r.2.2] 62)
    have HB0 := Lib.hid hb0
    clear hb0 hc h0 h0' h
    obtain ⟨p, q, s⟩ := r
    go_enter Try.func28, Try.ntmps28
    go_wp2_with (go_at_call 41; refine (HCM.out _).mono ?_; rintro e w1 ⟨rfl, g1⟩; have B1 := Lib.hid (HB0.out.trans (below_of_only g1 (by simp) (by simp))); clear g1)
    go_ret
    exact ⟨ret_int (by rw [HC.out]), B1.out⟩
end Go.Proofs.Ythlapnljinkekab

/- The call that makes a table: its contract. -/
namespace Go.Proofs.Ythlapnljinkekab
open Go.RowKit Go.Lib Go.Sort
set_option linter.unusedVariables false

/-- The first k rows as1 a list. -/
abbrev rws (d : Nat → Reg) (k : Nat) : List Reg := Sr.lst k d
/-- What is wrong with the first k rows. -/
def chkN (d : Nat → Reg) : Nat → Int
  | 0 => 0
  | k + 1 => if chkN d k = 0 then chkV (rws d k) (d k) else chkN d k
theorem chkN_next {d : Nat → Reg} {k : Nat} (h : chkN d k = 0) : chkN d (k + 1) = chkV (rws d k) (d k) := by
  show (if chkN d k = 0 then _ else _) = _
  rw [if_pos h]
theorem chkN_stop {d : Nat → Reg} {k : Nat} (h : chkN d k ≠ 0) (j : Nat) : chkN d (k + j) = chkN d k := by
  induction j with
  | zero => rfl
  | succ j ih =>
    have e : chkN d (k + (j + 1)) = if chkN d (k + j) = 0 then chkV (rws d (k + j)) (d (k + j)) else chkN d (k + j) := rfl
    rw [e, ih, if_neg h]
theorem chkN_le {d : Nat → Reg} {k n : Nat} (h : chkN d n = 0) (hk : k ≤ n) : chkN d k = 0 := by
  rcases Decidable.em (chkN d k = 0) with e | e
  · exact e
  · obtain ⟨j, rfl⟩ : ∃ j, n = k + j := ⟨n - k, by omega⟩
    rw [chkN_stop e j] at h
    exact absurd h e
theorem chkV_zero {L : List Reg} {r : Reg} (h : chkV L r = 0) : mayB r = true ∧ lookL L r.1 = none ∧ ∀ y ∈ L, meetsB (spn r) (spn y) = false := by
  unfold chkV at h
  cases h0 : mayB r with
  | false => rw [h0] at h; simp at h
  | true =>
    cases h1 : lookL L r.1 with
    | some x => rw [h0, h1] at h; simp at h
    | none =>
      refine ⟨rfl, rfl, fun y hy => ?_⟩
      rw [h0, h1] at h
      cases h2 : meetsB (spn r) (spn y) with
      | false => rfl
      | true =>
        have : L.any (fun x => meetsB (spn r) (spn x)) = true := List.any_eq_true.2 ⟨y, hy, h2⟩
        rw [this] at h
        simp at h
theorem rws_succ (d : Nat → Reg) (k : Nat) : rws d (k + 1) = rws d k ++ [d k] := Sr.lst_succ k d
theorem chkN_may {d : Nat → Reg} {n : Nat} (h : chkN d n = 0) : AllMay (rws d n) := by
  intro r hr
  obtain ⟨k, hk, rfl⟩ := Sr.lst_mem.1 hr
  have h1 := chkN_le h (show k + 1 ≤ n by omega)
  rw [chkN_next (chkN_le h (Nat.le_of_lt hk))] at h1
  exact (chkV_zero h1).1
theorem chkN_nodup {d : Nat → Reg} {n : Nat} (h : chkN d n = 0) : ((rws d n).map (·.1)).Nodup := by
  induction n with
  | zero => simp [rws, Sr.lst]
  | succ n ih =>
    have h0 := chkN_le h (Nat.le_succ n)
    rw [chkN_next h0] at h
    have h2 := lookL_none (chkV_zero h).2.1
    rw [rws_succ, List.map_append, List.nodup_append]
    refine ⟨ih h0, by simp, ?_⟩
    intro a ha b hb
    obtain ⟨r, hr, rfl⟩ := List.mem_map.1 ha
    obtain rfl : b = (d n).1 := by simpa using hb
    exact h2 r hr
theorem chkN_apart {d : Nat → Reg} {n : Nat} (h : chkN d n = 0) {i k : Nat} (hi : i < k) (hk : k < n) : (d i).1 ≠ (d k).1 ∧ meetsB (spn (d i)) (spn (d k)) = false := by
  have h1 := chkN_le h (show k + 1 ≤ n by omega)
  rw [chkN_next (chkN_le h (Nat.le_of_lt hk))] at h1
  obtain ⟨_, h2, h3⟩ := chkV_zero h1
  have hm : d i ∈ rws d k := Sr.lst_mem.2 ⟨i, hi, rfl⟩
  exact ⟨lookL_none h2 _ hm, by rw [meetsB_symm]; exact h3 _ hm⟩

/-- 'm[r.Owner] = r' as1 an equation, for regions that draw. -/
theorem run_put_reg {w : World} {b : Nat} {L : List Reg} {p q s : Int} (hmap : MapR w b L) (hk : fitI p) (hn : lookL L p = none) (hl : L.length < maxLen) :
    ∃ w', (Instr.mapUpdate 72 (.map (some b)) (.int .i64 p) (.agg #[.int .i64 p, .int .i64 q, .int .i64 s])).run Try.prog w = .ok () w' ∧ MapR w' b (L ++ [(p, q, s)]) ∧ w.grownBy w' (some b) := by
  obtain ⟨D, h1, h2⟩ := hmap
  obtain ⟨w', hr, h3, h4⟩ := h1.store int_keys Try.underlying72 hl (int_key hk) (regElem_mk (p, q, s))
  exact ⟨w', hr, ⟨_, by simpa using h3, h2.put (p, q, s) hk (lookL_none hn)⟩, h4.grown⟩

/-- What New answers. -/
def NewV (d : Nat → Reg) (n : Nat) (w : World) (e : Ending) (w' : World) : Prop :=
  Below w.heap.size w w' ∧ ((chkN d n = 0 ∧ ∃ t, e = .returned (.tuple #[.pointer (some ⟨t, 0, none⟩), .int .i64 0]) ∧ TabV w' w.heap.size t (rws d n)) ∨ (chkN d n ≠ 0 ∧ e = .returned (.tuple #[.pointer none, .int .i64 (chkN d n)])))

set_option maxHeartbeats 1600000 in
theorem tnew_any (A : Option Addr) (n cap : Nat) (d : Nat → Reg) (w : World) (hst : Regs w A n cap d) (hf : ∀ i, i < n → Fits (d i)) (hn : n ≤ 1000000) :
    Calls Try.prog 9 #[.slice A n cap] w (NewV d n w) := by
  have hmm := @run_makeMap Try.prog
  have HST := Lib.hid hst
  have HF := Lib.hid hf
  clear hst hf
  go_enter Try.func9, Try.ntmps9
  go_wp2
  have hT0 : TabG ((w.alloc (.map #[] 0)).alloc (.cells #[.map (some w.heap.size)] 74)) w.heap.size (w.heap.size + 1) w.heap.size [] :=
    ⟨by omega, Nat.le_refl _, by simpa using Blk.new (w.alloc (.map #[] 0)) 74 #[.map (some w.heap.size)], (MapR.new w).alloc _⟩
  have hB0 : Below w.heap.size w ((w.alloc (.map #[] 0)).alloc (.cells #[.map (some w.heap.size)] 74)) := ((Below.refl _ _).alloc (Nat.le_refl _) _).alloc (by simp) _
  have HT0 := Lib.hid hT0
  have HB0 := Lib.hid hB0
  clear hT0 hB0
  go_loopw [13] (fun x wr => ∃ k : Nat, x = .int .i64 k ∧ k ≤ n ∧ Hid (chkN d k = 0) ∧ TabG wr w.heap.size (w.heap.size + 1) w.heap.size (rws d k) ∧ Below w.heap.size w wr) (fun x _ => n - (intOf x).toNat)
  case atStart => exact ⟨0, rfl, by omega, Lib.hid rfl, HT0.out, HB0.out⟩
  case round =>
    obtain ⟨k, rfl, hk, HC, hT, hb⟩ := hrel
    have HT := Lib.hid hT
    have HB := Lib.hid hb
    clear hT hb HT0 HB0
    by_cases hkn : k < n
    · obtain ⟨b, off, rfl, hbB, hcells⟩ := HST.out.2 (by omega)
      obtain ⟨a0, a1, a2⟩ := hcells k hkn
      have d0 := (HB.out.cell (p := ⟨b, off + k * 3, none⟩) hbB).trans a0
      have d1 := (HB.out.cell (p := ⟨b, off + k * 3 + 1, none⟩) hbB).trans a1
      have d2 := (HB.out.cell (p := ⟨b, off + k * 3 + 2, none⟩) hbB).trans a2
      have hfk := HF.out k hkn
      have hnx := chkN_next HC.out
      have hrs := rws_succ d k
      have hlen : (rws d k).length = k := Sr.lst_len k d
      have hck : ∀ W, TabG W w.heap.size (w.heap.size + 1) w.heap.size (rws d k) → Calls Try.prog 28 #[.pointer (some ⟨w.heap.size + 1, 0, none⟩), .agg #[.int .i64 (d k).1, .int .i64 (d k).2.1, .int .i64 (d k).2.2]] W (CheckV (rws d k) (d k) W) := fun W h => tcheck_any (d k) hfk h.tab (chkN_may HC.out) (chkN_nodup HC.out)
      have HLEN := Lib.hid hlen
      have HRS := Lib.hid hrs
      have HNX := Lib.hid hnx
      have HFK := Lib.hid hfk
      have HCK := Lib.hid hck
      clear hcells a0 a1 a2 hfk hnx hrs hlen hck
      obtain ⟨r, hr⟩ : ∃ r, r = d k := ⟨_, rfl⟩
      rw [← hr] at d0 d1 d2 HRS HNX HFK HCK
      have HR := Lib.hid hr
      clear hr
      have i1 : (k : Int) < (n : Int) := by omega
      obtain ⟨p, q, s⟩ := r
      simp only at d0 d1 d2
      by_cases hz : chkV (rws d k) (p, q, s) = 0
      · obtain ⟨hz1, hz2, hz3⟩ := chkV_zero hz
        have HZ2 := Lib.hid hz2
        have hv : CheckV (rws d k) (p, q, s) = fun W e W' => e = .returned (.int .i64 0) ∧ Below W.heap.size W W' := by unfold CheckV; rw [hz]
        rw [hv] at HCK
        have HZ := Lib.hid hz
        clear hz hz1 hz2 hz3 hv
        go_wp2_with (go_at_call 28; refine (HCK.out _ (HT.out.below ((Below.refl _ _).alloc (Nat.le_refl _) _))).mono ?_; rintro e w1 ⟨rfl, b1⟩; have hb1 := ((Below.refl wr.heap.size wr).alloc (Nat.le_refl _) (.cells #[.int .i64 p, .int .i64 q, .int .i64 s] 62)).trans (b1.mono (by simp)); have B1 := Lib.hid (HB.out.trans (hb1.mono HB.out.size)); have T1 := Lib.hid (HT.out.below hb1); have hblk := (Blk.new wr 62 #[.int .i64 p, .int .i64 q, .int .i64 s]).below b1 (Blk.new _ _ _).lt; have e0 := hblk.cell 0; have e1 := hblk.cell 1; have e2 := hblk.cell 2; simp at e0 e1 e2; have c0 := T1.out.2.2.1.cell 0; simp at c0; clear b1 hb1 hblk)
        obtain ⟨w2, hrun, hm2, hg2⟩ := run_put_reg (q := q) (s := s) T1.out.2.2.2.drew HFK.out.1 HZ2.out (by rw [HLEN.out]; unfold maxLen; omega)
        rw [← HRS.out] at hm2
        have HM2 := Lib.hid hm2
        have HG2 := Lib.hid (show w1.grownBy w2 (some w.heap.size) from only_trans (only_drewN (only_refl w1 _) 1) hg2)
        clear hm2 hg2 HCK
        go_region
        all_goals
          go_wp2
          go_roundw
          case rel => exact ⟨k + 1, by go_num, by omega, Lib.hid (by rw [HNX.out, HZ.out]), ⟨T1.out.1, T1.out.2.1, T1.out.2.2.1.only HG2.out (by intro e; injection e with e; omega), HM2.out⟩, B1.out.trans (below_of_only HG2.out B1.out.size (fun k hk => by injection hk with hk; omega))⟩
          case measure => simp [intOf] <;> omega
      · have hne : chkN d n ≠ 0 ∧ chkN d n = chkV (rws d k) (p, q, s) := by
          have h1 : chkN d (k + 1) ≠ 0 := by rw [HNX.out]; exact hz
          have h2 := chkN_stop h1 (n - (k + 1))
          rw [show k + 1 + (n - (k + 1)) = n by omega] at h2
          rw [h2]
          exact ⟨h1, HNX.out⟩
        have HNE := Lib.hid hne
        obtain ⟨c, hc⟩ : ∃ c, c = chkV (rws d k) (p, q, s) := ⟨_, rfl⟩
        have hv : CheckV (rws d k) (p, q, s) = fun W e W' => e = .returned (.int .i64 c) ∧ Below W.heap.size W W' := by unfold CheckV; rw [hc]
        rw [hv] at HCK
        rw [← hc] at hz
        have hz' : (c != 0) = true := by simpa using hz
        have HCC := Lib.hid hc
        clear hne hv hc hz
        go_wp2_with (go_at_call 28; refine (HCK.out _ (HT.out.below ((Below.refl _ _).alloc (Nat.le_refl _) _))).mono ?_; rintro e w1 ⟨rfl, b1⟩; have hb1 := ((Below.refl wr.heap.size wr).alloc (Nat.le_refl _) (.cells #[.int .i64 p, .int .i64 q, .int .i64 s] 62)).trans (b1.mono (by simp)); have B1 := Lib.hid (HB.out.trans (hb1.mono HB.out.size)); clear b1 hb1)
        go_ret2
        exact ⟨B1.out, .inr ⟨HNE.out.1, by rw [HNE.out.2, ← HCC.out]; rfl⟩⟩
    · obtain rfl : k = n := by omega
      go_wp2
      go_ret2
      exact ⟨HB.out, .inl ⟨HC.out, _, rfl, HT.out.tab⟩⟩
end Go.Proofs.Ythlapnljinkekab

/- The document's answers for regions: Check, Find, Map: their contracts. -/
namespace Go.Proofs.Ythlapnljinkekab
open Go.RowKit Go.Lib Go.Sort
set_option linter.unusedVariables false

theorem lookL_at {d : Nat → Reg} {i k : Nat} {o : Int} (hk : k < i) (h : (d k).1 = o) : (lookL (rws d i) o).isSome = true := by
  cases hl : lookL (rws d i) o with
  | some x => rfl
  | none => exact absurd h (lookL_none hl _ (Sr.lst_mem.2 ⟨k, hk, rfl⟩))
theorem lookL_not {d : Nat → Reg} {i : Nat} {o : Int} (h : ∀ k, k < i → (d k).1 ≠ o) : lookL (rws d i) o = none := by
  cases hl : lookL (rws d i) o with
  | none => rfl
  | some x =>
    obtain ⟨h1, h2⟩ := lookL_some hl
    obtain ⟨k, hk, rfl⟩ := Sr.lst_mem.1 h1
    exact absurd h2 (h k hk)
theorem chkV_same {d : Nat → Reg} {i k : Nat} {r : Reg} (h0 : mayB r = true) (hk : k < i) (h : (d k).1 = r.1) : chkV (rws d i) r = 15 := by
  simp only [chkV, h0, lookL_at hk h]
  rfl
theorem chkV_fit {d : Nat → Reg} {i k : Nat} {r : Reg} (h0 : mayB r = true) (hn : ∀ k, k < i → (d k).1 ≠ r.1) (hk : k < i) (h : meetsB (spn (d k)) (spn r) = true) : chkV (rws d i) r = 11 :=
  chkV_meet h0 (lookL_not hn) (Sr.lst_mem.2 ⟨k, hk, rfl⟩) (by rw [meetsB_symm]; exact h)
theorem chkV_ok {d : Nat → Reg} {i : Nat} {r : Reg} (h0 : mayB r = true) (hn : ∀ k, k < i → (d k).1 ≠ r.1) (hm : ∀ k, k < i → meetsB (spn (d k)) (spn r) = false) : chkV (rws d i) r = 0 :=
  chkV_end h0 (lookL_not hn) (fun y hy => by
    obtain ⟨k, hk, rfl⟩ := Sr.lst_mem.1 hy
    rw [meetsB_symm]
    exact hm k hk)
theorem chkN_bad {d : Nat → Reg} {n i : Nat} {c : Int} (hi : i < n) (h0 : chkN d i = 0) (h : chkV (rws d i) (d i) = c) (hc : c ≠ 0) : chkN d n = c := by
  have h1 : chkN d (i + 1) = c := by rw [chkN_next h0, h]
  have h2 := chkN_stop (d := d) (k := i + 1) (by rw [h1]; exact hc) (n - (i + 1))
  rw [show i + 1 + (n - (i + 1)) = n by omega] at h2
  rw [h2, h1]

def RCheckV (d : Nat → Reg) (n : Nat) (w : World) (e : Ending) (w' : World) : Prop := e = .returned (.int .i64 (chkN d n)) ∧ Below w.heap.size w w'
set_option maxHeartbeats 3200000 in
theorem rcheck_any (A : Option Addr) (n cap : Nat) (d : Nat → Reg) (w : World) (hst : Regs w A n cap d) (hf : ∀ i, i < n → Fits (d i)) (hn : n ≤ 1000000) :
    Calls Try.prog 27 #[.slice A n cap] w (RCheckV d n w) := by
  have HST := Lib.hid hst
  have HF := Lib.hid hf
  clear hst hf
  go_enter Try.func27, Try.ntmps27
  go_wp2
  go_loopw [3] (fun x wr => ∃ i : Nat, x = .int .i64 i ∧ i ≤ n ∧ Hid (chkN d i = 0) ∧ Below w.heap.size w wr) (fun x _ => n - (intOf x).toNat)
  case atStart => exact ⟨0, rfl, by omega, Lib.hid rfl, Below.refl _ _⟩
  case round =>
    obtain ⟨i, rfl, hi, HC, hb⟩ := hrel
    obtain ⟨wo, hwo⟩ : ∃ wo : World, wo = wr := ⟨_, rfl⟩
    subst hwo
    have HB := Lib.hid hb
    clear hb
    by_cases hin : i < n
    · obtain ⟨b, off, rfl, hbB, hcells⟩ := HST.out.2 (by omega)
      obtain ⟨a0, a1, a2⟩ := hcells i hin
      have d0 := (HB.out.cell (p := ⟨b, off + i * 3, none⟩) hbB).trans a0
      have d1 := (HB.out.cell (p := ⟨b, off + i * 3 + 1, none⟩) hbB).trans a1
      have d2 := (HB.out.cell (p := ⟨b, off + i * 3 + 2, none⟩) hbB).trans a2
      have HCELLS := Lib.hid hcells
      have hfk := HF.out i hin
      clear a0 a1 a2
      obtain ⟨r, hr⟩ : ∃ r, r = d i := ⟨_, rfl⟩
      rw [← hr] at d0 d1 d2 hfk
      have HR := Lib.hid hr
      clear hr hcells
      obtain ⟨p, q, s⟩ := r
      obtain ⟨f1, f2, f3⟩ := hfk
      unfold fitI at f1 f2 f3
      simp only at d0 d1 d2 f1 f2 f3
      have i1 : (i : Int) < (n : Int) := by omega
      by_cases h0 : mayB (p, q, s) = true
      · have hm := mayB_iff.1 h0
        simp only at hm
        obtain ⟨m1, m2, m3, m4, m5, m6⟩ := hm
        have u1 : ¬ p < 1 := by omega
        have u2 : ¬ 8 < p := by omega
        have u3 : ¬ q < 128 := by omega
        have u4 : ¬ 16383 < q := by omega
        have u5 : ¬ s < 1 := by omega
        have u6 : ¬ 16384 - q < s := by omega
        have u7 : IntKind.i64.wrap (16384 - q) = 16384 - q := by rw [IntKind.wrap_i64]; omega
        clear m1 m2 m3 m4 m5 m6 f1 f2 f3
        go_wp2
        have hold : ∀ W, Below wo.heap.size wo W → ∀ k, k < n → W.cell? ⟨b, off + k * 3, none⟩ = some (.int .i64 (d k).1) ∧ W.cell? ⟨b, off + k * 3 + 1, none⟩ = some (.int .i64 (d k).2.1) ∧ W.cell? ⟨b, off + k * 3 + 2, none⟩ = some (.int .i64 (d k).2.2) := fun W h k hk => by
          obtain ⟨a0, a1, a2⟩ := HCELLS.out k hk
          have h' := HB.out.trans (h.mono HB.out.size)
          exact ⟨(h'.cell (p := ⟨b, off + k * 3, none⟩) hbB).trans a0, (h'.cell (p := ⟨b, off + k * 3 + 1, none⟩) hbB).trans a1, (h'.cell (p := ⟨b, off + k * 3 + 2, none⟩) hbB).trans a2⟩
        have HOLD := Lib.hid hold
        clear d0 d1 d2 hold
        go_loopw [5] (fun x wq => ∃ k : Nat, x = .int .i64 k ∧ k ≤ i ∧ Hid (∀ k', k' < k → (d k').1 ≠ p) ∧ Blk wq wo.heap.size 62 #[.int .i64 p, .int .i64 q, .int .i64 s] ∧ Below wo.heap.size wo wq) (fun x _ => i - (intOf x).toNat)
        case atStart => exact ⟨0, rfl, by omega, Lib.hid (fun k' h => by omega), Blk.new _ _ _, (Below.refl _ _).alloc (Nat.le_refl _) _⟩
        case round =>
          obtain ⟨k, rfl, hk, HS, hblk, hbq⟩ := hrel
          obtain ⟨wq, hwq⟩ : ∃ wq : World, wq = wr := ⟨_, rfl⟩
          subst hwq
          have HBLK := Lib.hid hblk
          have HBQ := Lib.hid hbq
          clear hblk hbq
          by_cases hki : k < i
          · obtain ⟨c0, _, _⟩ := HOLD.out wq HBQ.out k (by omega)
            have e0 := HBLK.out.cell 0
            simp at e0
            obtain ⟨o, ho⟩ : ∃ o, o = (d k).1 := ⟨_, rfl⟩
            rw [← ho] at c0
            have HO := Lib.hid ho
            clear ho
            have j1 : (k : Int) < (i : Int) := by omega
            have j2 : (k : Int) < (n : Int) := by omega
            by_cases hop : o = p
            · have hc : chkN d n = 15 := chkN_bad hin HC.out (by rw [← HR.out]; exact chkV_same h0 hki (by rw [← HO.out, hop])) (by omega)
              have HCC := Lib.hid hc
              subst hop
              clear hc
              go_wp2
              go_quiet (fail)
              go_wp2
              go_ret
              exact ⟨ret_int (by rw [HCC.out]), below_drewN (HB.out.trans (HBQ.out.mono HB.out.size)) _⟩
            · have hob : (o == p) = false := by simpa using hop
              go_wp2
              go_quiet (fail)
              go_wp2
              go_roundw
              case rel =>
                refine ⟨k + 1, by go_num, by omega, Lib.hid fun k' hk' => ?_, HBLK.out.drewN _, below_drewN HBQ.out _⟩
                by_cases e : k' = k
                · subst e; rw [← HO.out]; exact hop
                · exact HS.out k' (by omega)
              case measure => simp [intOf] <;> omega
          · obtain rfl : k = i := by omega
            have HNS := HS
            clear HS
            go_wp2
            go_loopw [6] (fun x wz => ∃ j : Nat, x = .int .i64 j ∧ j ≤ k ∧ Hid (∀ k', k' < j → meetsB (spn (d k')) (q, q + s) = false) ∧ Blk wz wo.heap.size 62 #[.int .i64 p, .int .i64 q, .int .i64 s] ∧ Below wo.heap.size wo wz) (fun x _ => k - (intOf x).toNat)
            case atStart => exact ⟨0, rfl, by omega, Lib.hid (fun k' h => by omega), HBLK.out, HBQ.out⟩
            case round =>
              obtain ⟨j, rfl, hj, HS, hblk, hbq⟩ := hrel
              obtain ⟨wz, hwz⟩ : ∃ wz : World, wz = wr := ⟨_, rfl⟩
              subst hwz
              have HBLK2 := Lib.hid hblk
              have HBQ2 := Lib.hid hbq
              clear hblk hbq HBLK HBQ
              by_cases hjk : j < k
              · obtain ⟨c0, c1, c2⟩ := HOLD.out wz HBQ2.out j (by omega)
                have e0 := HBLK2.out.cell 0
                have e1 := HBLK2.out.cell 1
                have e2 := HBLK2.out.cell 2
                simp at e0 e1 e2
                have hmj : mayB (d j) = true := chkN_may HC.out _ (Sr.lst_mem.2 ⟨j, by omega, rfl⟩)
                obtain ⟨y, hy⟩ : ∃ y, y = d j := ⟨_, rfl⟩
                rw [← hy] at c0 c1 c2 hmj
                have HY := Lib.hid hy
                clear hy
                obtain ⟨y1, y2, y3⟩ := y
                simp only at c0 c1 c2
                obtain ⟨mb, hmb⟩ : ∃ mb, mb = meetsB (y2, y2 + y3) (q, q + s) := ⟨_, rfl⟩
                have hme : ∀ W, Calls Try.prog 40 #[.agg #[.int .i64 y2, .int .i64 (y2 + y3)], .agg #[.int .i64 q, .int .i64 (q + s)]] W fun e w' => e = .returned (.bool mb) ∧ W.grownBy w' none := fun W => by
                  have := meets_any (y2, y2 + y3) (q, q + s) W
                  rw [← hmb] at this
                  exact this
                have hpo : ∀ W, Calls Try.prog 22 #[.agg #[.int .i64 y1, .int .i64 y2, .int .i64 y3]] W fun e w' => e = .returned (.agg #[.int .i64 y2, .int .i64 (y2 + y3)]) ∧ W.grownBy w' none := fun W => rspan_any (y1, y2, y3) hmj W
                have hpr : ∀ W, Calls Try.prog 22 #[.agg #[.int .i64 p, .int .i64 q, .int .i64 s]] W fun e w' => e = .returned (.agg #[.int .i64 q, .int .i64 (q + s)]) ∧ W.grownBy w' none := fun W => rspan_any (p, q, s) h0 W
                have HPO := Lib.hid hpo
                have HPR := Lib.hid hpr
                have HME := Lib.hid hme
                have HMB := Lib.hid hmb
                have j1 : (j : Int) < (k : Int) := by omega
                have j2 : (j : Int) < (n : Int) := by omega
                clear hpo hpr hme hmb hmj
                have k0 := fun d os => cell_regrown c0 d os
                have k1 := fun d os => cell_regrown c1 d os
                have k2 := fun d os => cell_regrown c2 d os
                have k3 := fun d os => cell_regrown e0 d os
                have k4 := fun d os => cell_regrown e1 d os
                have k5 := fun d os => cell_regrown e2 d os
                clear c0 c1 c2 e0 e1 e2
                go_wp2
                refine wp_region_quiet_below (by kernel_rfl) (by kernel_rfl) ?_
                repeat (quiet_step (first | (go_at_call 22; with_reducible exact Calls.regrown_of (((HPO.out _).mono fun _ _ ⟨h1, h2⟩ => ⟨h1, below_of_only h2 (Nat.le_refl _) (by simp)⟩))) | (go_at_call 22; with_reducible exact Calls.regrown_of (((HPR.out _).mono fun _ _ ⟨h1, h2⟩ => ⟨h1, below_of_only h2 (Nat.le_refl _) (by simp)⟩))) | (go_at_call 40; with_reducible exact Calls.regrown_of (((HME.out _).mono fun _ _ ⟨h1, h2⟩ => ⟨h1, below_of_only h2 (Nat.le_refl _) (by simp)⟩)))))
                refine wpQuiet_nil ?_
                rintro _ ⟨⟨dq, osq⟩, rfl⟩
                have hb3 := below_regrown wz dq osq
                generalize grow (redrawn wz dq) osq = w3 at hb3 ⊢
                have B3 := Lib.hid (HBQ2.out.trans (hb3.mono HBQ2.out.size))
                have R3 := Lib.hid (HBLK2.out.below hb3 HBLK2.out.lt)
                clear hb3 k0 k1 k2 k3 k4 k5
                cases mb with
                | true =>
                  have hc : chkN d n = 11 := chkN_bad hin HC.out (by rw [← HR.out]; exact chkV_fit h0 HNS.out hjk (by rw [← HY.out]; exact HMB.out.symm)) (by omega)
                  have HCC := Lib.hid hc
                  clear hc
                  go_wp2
                  go_ret
                  exact ⟨ret_int (by rw [HCC.out]), HB.out.trans (B3.out.mono HB.out.size)⟩
                | false =>
                  go_wp2
                  go_roundw
                  case rel =>
                    refine ⟨j + 1, by go_num, by omega, Lib.hid fun k' hk' => ?_, R3.out, B3.out⟩
                    by_cases e : k' = j
                    · subst e; rw [← HY.out]; exact HMB.out.symm
                    · exact HS.out k' (by omega)
                  case measure => simp [intOf] <;> omega
              · obtain rfl : j = k := by omega
                have hc : chkN d (j + 1) = 0 := by
                  rw [chkN_next HC.out, ← HR.out]
                  exact chkV_ok h0 HNS.out HS.out
                have HCC := Lib.hid hc
                clear hc
                go_wp2
                go_roundw
                case rel => exact ⟨j + 1, by go_num, by omega, HCC, HB.out.trans (HBQ2.out.mono HB.out.size)⟩
                case measure => simp [intOf] <;> omega
      · have hc : chkN d n = 2 := chkN_bad hin HC.out (by rw [← HR.out]; simp [chkV, h0]) (by omega)
        have HCC := Lib.hid hc
        have hm : ¬ (1 ≤ p ∧ p ≤ 8 ∧ 128 ≤ q ∧ q ≤ 16383 ∧ 1 ≤ s ∧ s ≤ 16384 - q) := fun h => h0 (mayB_iff.2 h)
        have key : (p < 1) ∨ (¬ p < 1 ∧ 8 < p) ∨ (¬ p < 1 ∧ ¬ 8 < p ∧ q < 128) ∨ (¬ p < 1 ∧ ¬ 8 < p ∧ ¬ q < 128 ∧ 16383 < q) ∨ (¬ p < 1 ∧ ¬ 8 < p ∧ ¬ q < 128 ∧ ¬ 16383 < q ∧ s < 1) ∨ (¬ p < 1 ∧ ¬ 8 < p ∧ ¬ q < 128 ∧ ¬ 16383 < q ∧ ¬ s < 1 ∧ 16384 - q < s) := by omega
        have u7 : ¬ q < 128 → IntKind.i64.wrap (16384 - q) = 16384 - q := fun _ => by rw [IntKind.wrap_i64]; omega
        clear hc hm f1 f2 f3
        rcases key with u1 | ⟨u1, u2⟩ | ⟨u1, u2, u3⟩ | ⟨u1, u2, u3, u4⟩ | ⟨u1, u2, u3, u4, u5⟩ | ⟨u1, u2, u3, u4, u5, u6⟩
        all_goals
          try have u8 := u7 u3
          clear u7
          go_wp2
          go_ret
          exact ⟨ret_int (by rw [HCC.out]), HB.out.alloc HB.out.size _⟩
    · obtain rfl : i = n := by omega
      go_wp2
      go_ret
      exact ⟨ret_int (by rw [HC.out]), HB.out⟩
end Go.Proofs.Ythlapnljinkekab

/- The document's Find and Map: their contracts. -/
namespace Go.Proofs.Ythlapnljinkekab
open Go.RowKit Go.Lib Go.Sort
set_option linter.unusedVariables false

theorem lookL_first {d : Nat → Reg} {n k : Nat} {o : Int} (hk : k < n) (hn : ∀ i, i < k → (d i).1 ≠ o) (h : (d k).1 = o) : lookL (rws d n) o = some (d k) := by
  unfold lookL
  rw [List.find?_eq_some_iff_append]
  refine ⟨by simpa using h, rws d k, (List.range' (k + 1) (n - (k + 1))).map d, ?_, fun a ha => ?_⟩
  · unfold rws Sr.lst
    have e : List.range n = List.range k ++ k :: List.range' (k + 1) (n - (k + 1)) := by
      rw [List.range_eq_range', List.range_eq_range']
      have h1 : k :: List.range' (k + 1) (n - (k + 1)) = List.range' k (n - k) := by
        rw [show n - k = (n - (k + 1)) + 1 by omega, List.range'_succ]
      rw [h1]
      have h2 := List.range'_append_1 (s := 0) (m := k) (n := n - k)
      rw [show k + (n - k) = n by omega, Nat.zero_add] at h2
      exact h2.symm
    rw [e, List.map_append, List.map_cons]
  · obtain ⟨i, hi, rfl⟩ := Sr.lst_mem.1 ha
    simpa using hn i hi
def RFindV (d : Nat → Reg) (n : Nat) (o : Int) (w : World) (e : Ending) (w' : World) : Prop := e = .returned (.agg #[.int .i64 (fndR (rws d n) o).1, .int .i64 (fndR (rws d n) o).2.1, .int .i64 (fndR (rws d n) o).2.2]) ∧ Below w.heap.size w w'
set_option maxHeartbeats 1600000 in
theorem rfind_any (A : Option Addr) (n cap : Nat) (d : Nat → Reg) (o : Int) (w : World) (hst : Regs w A n cap d) (hn : n ≤ 1000000) :
    Calls Try.prog 23 #[.slice A n cap, .int .i64 o] w (RFindV d n o w) := by
  have HST := Lib.hid hst
  clear hst
  go_enter Try.func23, Try.ntmps23
  go_wp2
  have HB0 := Lib.hid ((Below.refl w.heap.size w).alloc (Nat.le_refl _) (.cells #[.int .i64 0, .int .i64 0, .int .i64 0] 62))
  go_loopw [5] (fun x wr => ∃ k : Nat, x = .int .i64 k ∧ k ≤ n ∧ Hid (∀ i, i < k → (d i).1 ≠ o) ∧ Blk wr w.heap.size 62 #[.int .i64 0, .int .i64 0, .int .i64 0] ∧ Below w.heap.size w wr) (fun x _ => n - (intOf x).toNat)
  case atStart => exact ⟨0, rfl, by omega, Lib.hid (fun i h => by omega), Blk.new _ _ _, HB0.out⟩
  case round =>
    obtain ⟨k, rfl, hk, HS, hR, hb⟩ := hrel
    have HR := Lib.hid hR
    have HB := Lib.hid hb
    have r0 := hR.cell 0
    have r1 := hR.cell 1
    have r2 := hR.cell 2
    have g0 := hR.free 0
    have g1 := hR.free 1
    have g2 := hR.free 2
    simp at r0 r1 r2
    clear hR hb HB0
    by_cases hkn : k < n
    · obtain ⟨b, off, rfl, hbB, hcells⟩ := HST.out.2 (by omega)
      obtain ⟨a0, a1, a2⟩ := hcells k hkn
      have d0 := (HB.out.cell (p := ⟨b, off + k * 3, none⟩) hbB).trans a0
      have d1 := (HB.out.cell (p := ⟨b, off + k * 3 + 1, none⟩) hbB).trans a1
      have d2 := (HB.out.cell (p := ⟨b, off + k * 3 + 2, none⟩) hbB).trans a2
      clear a0 a1 a2 hcells
      have hfst : (d k).1 = o → fndR (rws d n) o = d k := fun h => by
        unfold fndR
        rw [lookL_first hkn HS.out h]
        rfl
      obtain ⟨y, hy⟩ : ∃ y, y = d k := ⟨_, rfl⟩
      rw [← hy] at d0 d1 d2 hfst
      have HY := Lib.hid hy
      have HFST := Lib.hid hfst
      clear hy hfst
      obtain ⟨y1, y2, y3⟩ := y
      simp only at d0 d1 d2
      have i1 : (k : Int) < (n : Int) := by omega
      by_cases ho : y1 = o
      · have hf := HFST.out ho
        have HFF := Lib.hid hf
        subst ho
        have hne : ¬ b = w.heap.size := Nat.ne_of_lt hbB
        have hne' : ¬ w.heap.size = b := fun e => hne e.symm
        clear hf
        go_wp2
        refine bodyPost_ret (v := .agg #[.int .i64 y1, .int .i64 y2, .int .i64 y3]) (by simp [results, Try.results23, go_sem, r0, r1, r2]) rfl ⟨?_, ?_⟩
        · rw [HFF.out]
        · exact ((HB.out.setCell (Nat.le_refl _) _).setCell (Nat.le_refl _) _).setCell (Nat.le_refl _) _
      · have hob : (y1 == o) = false := by simpa using ho
        go_wp2
        go_roundw
        case rel =>
          refine ⟨k + 1, by go_num, by omega, Lib.hid fun i hi => ?_, HR.out, HB.out⟩
          by_cases e : i = k
          · subst e; rw [← HY.out]; exact ho
          · exact HS.out i (by omega)
        case measure => simp [intOf] <;> omega
    · obtain rfl : k = n := by omega
      have hf : fndR (rws d k) o = (0, 0, 0) := by unfold fndR; rw [lookL_not HS.out]; rfl
      have HFF := Lib.hid hf
      clear hf
      go_wp2
      refine bodyPost_ret (v := .agg #[.int .i64 0, .int .i64 0, .int .i64 0]) (by simp [results, Try.results23, go_sem, r0, r1, r2]) rfl ⟨?_, ?_⟩
      · rw [HFF.out]
      · exact ((HB.out.setCell (Nat.le_refl _) _).setCell (Nat.le_refl _) _).setCell (Nat.le_refl _) _

set_option maxHeartbeats 1600000 in
theorem rmap_any (A : Option Addr) (n cap : Nat) (d : Nat → Reg) (o a m : Int) (w : World) (hst : Regs w A n cap d) (hn : n ≤ 1000000) (h0 : chkN d n = 0) (ha : fitI a) :
    Calls Try.prog 44 #[.slice A n cap, .int .i64 o, .int .i64 a, .int .i64 m] w fun e w' => e = .returned (.tuple #[.int .i64 (mapV (rws d n) o a m).1, .int .i64 (mapV (rws d n) o a m).2]) ∧ Below w.heap.size w w' := by
  have hfind := rfind_any A n cap d o w hst hn
  have hmay := chkN_may h0
  unfold RFindV fndR at hfind
  unfold mapV
  cases hl : lookL (rws d n) o with
  | none =>
    rw [hl] at hfind
    simp only [Option.getD_none] at hfind
    have HC := Lib.hid hfind
    clear hfind hl hst
    go_enter Try.func44, Try.ntmps44
    go_wp2_with (go_at_call 23; refine HC.out.mono ?_; rintro e w1 ⟨rfl, b1⟩; have B1 := Lib.hid b1; clear b1)
    go_ret2
    exact ⟨rfl, B1.out.alloc B1.out.size _⟩
  | some r =>
    have hm := mayB_iff.1 (hmay.look hl)
    rw [hl] at hfind
    obtain ⟨p, q, s⟩ := r
    simp only [Option.getD_some] at hfind hm ⊢
    have HC := Lib.hid hfind
    unfold fitI at ha
    have key : (m < 0 ∧ (if m < 0 then ((0, 2) : Int × Int) else if a < 0 then (0, 6) else if s - a < m then (0, 6) else (q + a, 0)) = (0, 2)) ∨ (¬ m < 0 ∧ a < 0 ∧ (if m < 0 then ((0, 2) : Int × Int) else if a < 0 then (0, 6) else if s - a < m then (0, 6) else (q + a, 0)) = (0, 6)) ∨ (¬ m < 0 ∧ ¬ a < 0 ∧ s < a ∧ (if m < 0 then ((0, 2) : Int × Int) else if a < 0 then (0, 6) else if s - a < m then (0, 6) else (q + a, 0)) = (0, 6)) ∨ (¬ m < 0 ∧ ¬ a < 0 ∧ ¬ s < a ∧ s - a < m ∧ (if m < 0 then ((0, 2) : Int × Int) else if a < 0 then (0, 6) else if s - a < m then (0, 6) else (q + a, 0)) = (0, 6)) ∨ (¬ m < 0 ∧ ¬ a < 0 ∧ ¬ s < a ∧ ¬ s - a < m ∧ (if m < 0 then ((0, 2) : Int × Int) else if a < 0 then (0, 6) else if s - a < m then (0, 6) else (q + a, 0)) = (q + a, 0)) := by
      by_cases h1 : m < 0 <;> by_cases h2 : a < 0 <;> by_cases h3 : s < a <;> by_cases h4 : s - a < m <;> simp [h1, h2, h3, h4] <;> omega
    have hw1 : ¬ a < 0 → IntKind.i64.wrap (s - a) = s - a := fun h => by rw [IntKind.wrap_i64]; omega
    have hw2 : ¬ a < 0 → ¬ s < a → IntKind.i64.wrap (q + a) = q + a := fun h1 h2 => by rw [IntKind.wrap_i64]; omega
    have hp0 : ¬ p = 0 := by omega
    have hp1 : (p == 0) = false := by simpa using hp0
    clear hfind hl hst ha hm hmay
    rcases key with ⟨h1, e⟩ | ⟨h1, h2, e⟩ | ⟨h1, h2, h3, e⟩ | ⟨h1, h2, h3, h4, e⟩ | ⟨h1, h2, h3, h4, e⟩
    all_goals
      rw [e]
      clear e
      try have hw3 := hw1 h2
      try have hw4 := hw2 h2 h3
      clear hw1 hw2
      go_enter Try.func44, Try.ntmps44
      go_wp2_with (go_at_call 23; refine HC.out.mono ?_; rintro e w1 ⟨rfl, b1⟩; have B1 := Lib.hid b1; clear b1)
      go_ret2
      exact ⟨rfl, B1.out.alloc B1.out.size _⟩
end Go.Proofs.Ythlapnljinkekab

/- The engine of bursts: what it lies in, and what stays. -/
namespace Go.Proofs.Ythlapnljinkekab
open Go.RowKit Go.Lib Go.Sort
set_option linter.unusedVariables false

/-- A record: tick, owner, address, number, whether it writes, error. -/
abbrev Rec := Int × Int × Int × Int × Bool × Int
def recCells (r : Rec) : List Value := [.int .i64 r.1, .int .i64 r.2.1, .int .i64 r.2.2.1, .int .i64 r.2.2.2.1, .bool r.2.2.2.2.1, .int .i64 r.2.2.2.2.2]
def rcCells (n : Nat) (rc : Nat → Rec) : List Value := (List.range n).flatMap fun i => recCells (rc i)
theorem rcCells_succ (n : Nat) (rc : Nat → Rec) : rcCells (n + 1) rc = rcCells n rc ++ recCells (rc n) := by simp [rcCells, List.range_succ]
theorem rcCells_len (n : Nat) (rc : Nat → Rec) : (rcCells n rc).length = n * 6 := by
  induction n with
  | zero => rfl
  | succ n ih => rw [rcCells_succ, List.length_append, ih]; simp [recCells]; omega
theorem rcCells_cell (n : Nat) (rc : Nat → Rec) : ∀ u ∈ rcCells n rc, u.oneCell' = true := by
  intro u hu
  simp only [rcCells, List.mem_flatMap] at hu
  obtain ⟨i, _, hi⟩ := hu
  simp [recCells] at hi
  rcases hi with rfl | rfl | rfl | rfl | rfl | rfl <;> rfl
theorem recCells_cell (r : Rec) : ∀ u ∈ recCells r, u.oneCell' = true := by
  intro u hu
  simp [recCells] at hu
  rcases hu with rfl | rfl | rfl | rfl | rfl | rfl <;> rfl
def updC (rc : Nat → Rec) (i : Nat) (r : Rec) : Nat → Rec := fun k => if k = i then r else rc k
theorem rcCells_upd (n : Nat) (rc : Nat → Rec) (r : Rec) : rcCells n rc ++ recCells r = rcCells (n + 1) (updC rc n r) := by
  rw [rcCells_succ]
  have h1 : updC rc n r n = r := by simp [updC]
  have h2 : rcCells n (updC rc n r) = rcCells n rc := by
    unfold rcCells
    rw [List.flatMap_def, List.flatMap_def]
    congr 1
    apply List.map_congr_left
    intro i hi
    have : i ≠ n := by have := List.mem_range.1 hi; omega
    simp [updC, this]
  rw [h1, h2]
theorem rcCells_last (n : Nat) (rc : Nat → Rec) {j : Nat} (hj : j < 6) : (rcCells (n + 1) rc)[n * 6 + j]? = (recCells (rc n))[j]? := by
  rw [rcCells_succ, List.getElem?_append_right (by rw [rcCells_len]; omega), rcCells_len]
  congr 1
  omega
/-- A value is a row of records in a block from B on, or nil. -/
def RecV (w : World) (B : Nat) (v : Value) (n : Nat) (rc : Nat → Rec) : Prop := w.ownsRow B 45 6 v n (rcCells n rc)
theorem rec_info : (Try.prog.info? 45).map (fun i => (i.zero, i.size, i.bytes)) = some (some (.agg #[.int .i64 0, .int .i64 0, .int .i64 0, .int .i64 0, .bool false, .int .i64 0]), 6, 48) := by kernel_rfl
theorem RecV.form {w : World} {B n : Nat} {v : Value} {rc : Nat → Rec} (h : RecV w B v n rc) : ∃ A c, v = .slice A n c := own_form h
theorem RecV.only {w w' : World} {B n : Nat} {v : Value} {rc : Nat → Rec} {row : Option Nat} (h : RecV w B v n rc) (hb : w.grownBy w' row) (hne : v.ownBlock = none ∨ v.ownBlock ≠ row) : RecV w' B v n rc := World.ownsRow.kept h hb hne
theorem RecV.grown {w w' : World} {B n : Nat} {v : Value} {rc : Nat → Rec} (h : RecV w B v n rc) (hb : w.grownBy w' none) : RecV w' B v n rc := h.only hb (by cases hv : v.ownBlock <;> simp)
theorem RecV.blk {w : World} {B n : Nat} {v : Value} {rc : Nat → Rec} (h : RecV w B v n rc) : ∀ k, v.ownBlock = some k → B ≤ k ∧ k < w.heap.size := fun k hk => World.ownsRow.lt h k hk

/-- An engine lies in block e: its memory, its table, its records, and what it moved. -/
def EngG (w : World) (e m t : Nat) (rv : Value) (rd wr : Nat → Int) : Prop :=
  ∃ cs, Blk w e 77 cs ∧ cs.size = 21 ∧ cs[0]? = some (.pointer (some ⟨m, 0, none⟩)) ∧ cs[1]? = some (.pointer (some ⟨t, 0, none⟩)) ∧ cs[2]? = some rv ∧ (∀ k, k < 9 → cs[3 + k]? = some (.int .i64 (rd k))) ∧ (∀ k, k < 9 → cs[12 + k]? = some (.int .i64 (wr k)))
section
variable {w w' : World} {e m t : Nat} {rv : Value} {rd wr : Nat → Int}
theorem EngG.lt (h : EngG w e m t rv rd wr) : e < w.heap.size := by obtain ⟨cs, h0, _⟩ := h; exact h0.lt
theorem EngG.mem (h : EngG w e m t rv rd wr) : w.cell? ⟨e, 0, none⟩ = some (.pointer (some ⟨m, 0, none⟩)) := by obtain ⟨cs, h0, _, h1, _⟩ := h; exact (h0.cell 0).trans h1
theorem EngG.tab (h : EngG w e m t rv rd wr) : w.cell? ⟨e, 1, none⟩ = some (.pointer (some ⟨t, 0, none⟩)) := by obtain ⟨cs, h0, _, _, h1, _⟩ := h; exact (h0.cell 1).trans h1
theorem EngG.recs (h : EngG w e m t rv rd wr) : w.cell? ⟨e, 2, none⟩ = some rv := by obtain ⟨cs, h0, _, _, _, h1, _⟩ := h; exact (h0.cell 2).trans h1
theorem EngG.rds (h : EngG w e m t rv rd wr) {k : Nat} (hk : k < 9) : w.cell? ⟨e, 3 + k, none⟩ = some (.int .i64 (rd k)) := by obtain ⟨cs, h0, _, _, _, _, h1, _⟩ := h; exact (h0.cell _).trans (h1 k hk)
theorem EngG.wrs (h : EngG w e m t rv rd wr) {k : Nat} (hk : k < 9) : w.cell? ⟨e, 12 + k, none⟩ = some (.int .i64 (wr k)) := by obtain ⟨cs, h0, _, _, _, _, _, h1⟩ := h; exact (h0.cell _).trans (h1 k hk)
theorem EngG.free (h : EngG w e m t rv rd wr) (i : Nat) : w.frozen? ⟨e, i, none⟩ = false := by obtain ⟨cs, h0, _⟩ := h; exact h0.free i
theorem EngG.only {row : Option Nat} (h : EngG w e m t rv rd wr) (hb : w.grownBy w' row) (hne : some e ≠ row) : EngG w' e m t rv rd wr := by
  obtain ⟨cs, h0, h1⟩ := h
  exact ⟨cs, h0.only hb hne, h1⟩
theorem EngG.below (h : EngG w e m t rv rd wr) (hb : Below w.heap.size w w') : EngG w' e m t rv rd wr := h.only (only_far hb) (by simp)
theorem EngG.setRecs (h : EngG w e m t rv rd wr) (v : Value) : EngG (w.setCell ⟨e, 2, none⟩ v) e m t v rd wr := by
  obtain ⟨cs, h0, h1, h2, h3, h4, h5, h6⟩ := h
  refine ⟨_, h0.put 2 v, by simpa using h1, by simpa [Array.getElem?_setIfInBounds] using h2, by simpa [Array.getElem?_setIfInBounds] using h3, by simp [Array.getElem?_setIfInBounds, h1], fun k hk => ?_, fun k hk => ?_⟩
  · rw [Array.getElem?_setIfInBounds, if_neg (by omega)]; exact h5 k hk
  · rw [Array.getElem?_setIfInBounds, if_neg (by omega)]; exact h6 k hk
def updI (f : Nat → Int) (i : Nat) (x : Int) : Nat → Int := fun k => if k = i then x else f k
theorem EngG.setRd (h : EngG w e m t rv rd wr) {i : Nat} (hi : i < 9) (x : Int) : EngG (w.setCell ⟨e, 3 + i, none⟩ (.int .i64 x)) e m t rv (updI rd i x) wr := by
  obtain ⟨cs, h0, h1, h2, h3, h4, h5, h6⟩ := h
  refine ⟨_, h0.put (3 + i) _, by simpa using h1, ?_, ?_, ?_, fun k hk => ?_, fun k hk => ?_⟩
  · rw [Array.getElem?_setIfInBounds, if_neg (by omega)]; exact h2
  · rw [Array.getElem?_setIfInBounds, if_neg (by omega)]; exact h3
  · rw [Array.getElem?_setIfInBounds, if_neg (by omega)]; exact h4
  · by_cases e : k = i
    · subst e
      rw [Array.getElem?_setIfInBounds, if_pos rfl, if_pos (by omega)]
      simp [updI]
    · rw [Array.getElem?_setIfInBounds, if_neg (by omega), h5 k hk]
      simp [updI, e]
  · rw [Array.getElem?_setIfInBounds, if_neg (by omega)]; exact h6 k hk
theorem EngG.setWr (h : EngG w e m t rv rd wr) {i : Nat} (hi : i < 9) (x : Int) : EngG (w.setCell ⟨e, 12 + i, none⟩ (.int .i64 x)) e m t rv rd (updI wr i x) := by
  obtain ⟨cs, h0, h1, h2, h3, h4, h5, h6⟩ := h
  refine ⟨_, h0.put (12 + i) _, by simpa using h1, ?_, ?_, ?_, fun k hk => ?_, fun k hk => ?_⟩
  · rw [Array.getElem?_setIfInBounds, if_neg (by omega)]; exact h2
  · rw [Array.getElem?_setIfInBounds, if_neg (by omega)]; exact h3
  · rw [Array.getElem?_setIfInBounds, if_neg (by omega)]; exact h4
  · rw [Array.getElem?_setIfInBounds, if_neg (by omega)]; exact h5 k hk
  · by_cases e : k = i
    · subst e
      rw [Array.getElem?_setIfInBounds, if_pos rfl, if_pos (by omega)]
      simp [updI]
    · rw [Array.getElem?_setIfInBounds, if_neg (by omega), h6 k hk]
      simp [updI, e]
end

/-- An engine with its memory, its table and its records; all from B on. -/
def StG (w : World) (B e m g t : Nat) (L : List Reg) (l : List UInt8) (rv : Value) (n : Nat) (rc : Nat → Rec) (rd wr : Nat → Int) : Prop :=
  B ≤ e ∧ EngG w e m t rv rd wr ∧ MemG w B m g l ∧ TabV w B t L ∧ RecV w B rv n rc
/-- Between the worlds w and w' the blocks that were there stay, but for those of S. -/
def Keeps (S : Nat → Prop) (w w' : World) : Prop := w'.os = w.os ∧ w'.tape = w.tape ∧ w'.output = w.output ∧ w.heap.size ≤ w'.heap.size ∧ ∀ i, i < w.heap.size → ¬ S i → w'.heap[i]? = w.heap[i]?
theorem Keeps.trans {S : Nat → Prop} {a b c : World} (h : Keeps S a b) (k : Keeps S b c) : Keeps S a c :=
  ⟨k.1.trans h.1, k.2.1.trans h.2.1, k.2.2.1.trans h.2.2.1, Nat.le_trans h.2.2.2.1 k.2.2.2.1, fun i hi hs => (k.2.2.2.2 i (Nat.lt_of_lt_of_le hi h.2.2.2.1) hs).trans (h.2.2.2.2 i hi hs)⟩
theorem Keeps.mono {S T : Nat → Prop} {a b : World} (h : Keeps S a b) (hs : ∀ i, i < a.heap.size → S i → T i) : Keeps T a b := ⟨h.1, h.2.1, h.2.2.1, h.2.2.2.1, fun i hi hn => h.2.2.2.2 i hi (fun x => hn (hs i hi x))⟩
theorem Keeps.of_only {a b : World} {row : Option Nat} (h : a.grownBy b row) {S : Nat → Prop} (hs : ∀ k, row = some k → S k) : Keeps S a b := ⟨h.os, h.tape, h.output, h.size, fun i hi hn => h.block i hi (fun e => hn (hs i e.symm))⟩
theorem Keeps.of_below {a b : World} (h : Below a.heap.size a b) (S : Nat → Prop) : Keeps S a b := Keeps.of_only (only_far h) (by simp)
theorem Keeps.below {a b : World} {B : Nat} {S : Nat → Prop} (h : Keeps S a b) (hB : B ≤ a.heap.size) (hs : ∀ i, i < B → ¬ S i) : Below B a b := ⟨h.1, h.2.1, h.2.2.1, h.2.2.2.1, fun i hi => h.2.2.2.2 i (Nat.lt_of_lt_of_le hi hB) (hs i hi)⟩
/-- What a burst may change: the engine, the memory's bytes, the row of records. -/
def Burst (e g : Nat) (rv : Value) (i : Nat) : Prop := i = e ∨ i = g ∨ rv.ownBlock = some i
end Go.Proofs.Ythlapnljinkekab
