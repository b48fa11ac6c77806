/- What is wrong with a row beside those that are there; the call that makes a table. -/
import Derived.Test.YthlapnljinkekaaRR2
import Derived.Deep.QuietTactic
import Derived.Lib.QuietBelow
import Derived.BigRegion
namespace Go.Proofs.Ythlapnljinkekaa
open Go.RowKit Go.Lib Go.Sort
set_option linter.unusedVariables false

theorem meetsB_symm (a b : Int × Int) : meetsB a b = meetsB b a := by
  unfold meetsB
  cases isB a <;> cases isB b <;> cases holdsB a b.1 <;> cases holdsB b a.1 <;> rfl
/-- What is wrong with a row beside the rows L. -/
def chkV (L : List Reg) (r : Reg) : Int := if mayB r = false then 2 else if (lookL L r.1).isSome then 15 else if L.any (fun x => meetsB (spn r) (spn x)) then 11 else 0

/-- 'v, ok := m[k]' as an equation, for regions that draw. -/
theorem run_look_some {w : World} {b : Nat} {L : List Reg} {k p q s : Int} (hmap : MapR w b L) (hk : fitI k) (hl : lookL L k = some (p, q, s)) :
    (Instr.lookup 49 (.map (some b)) (.int .i64 k) true).run Try.prog w = .ok (.tuple #[.agg #[.int .i64 p, .int .i64 q, .int .i64 s], .bool true]) w := by
  obtain ⟨D, h1, h2⟩ := hmap
  obtain ⟨e1, e2⟩ := h2.has_some hl
  obtain ⟨v, ps, hr, hv⟩ := h1.look_ok int_keys Try.underlying49 (reg_zero w) (regElem_mk (0, 0, 0)) (int_key hk)
  rw [e2] at hv
  obtain ⟨r, rfl, hz⟩ := regElem_inv hv
  injection hz with hz _
  obtain rfl := regDat_inj hz
  rw [e1] at hr
  exact hr
theorem run_look_none {w : World} {b : Nat} {L : List Reg} {k : Int} (hmap : MapR w b L) (hk : fitI k) (hl : lookL L k = none) :
    (Instr.lookup 49 (.map (some b)) (.int .i64 k) true).run Try.prog w = .ok (.tuple #[.agg #[.int .i64 0, .int .i64 0, .int .i64 0], .bool false]) w := by
  obtain ⟨D, h1, h2⟩ := hmap
  have e1 := h2.has_none hk hl
  obtain ⟨v, ps, hr, hv⟩ := h1.look_ok int_keys Try.underlying49 (reg_zero w) (regElem_mk (0, 0, 0)) (int_key hk)
  rw [Maps.atKey_of_not_has e1] at hv
  obtain ⟨r, rfl, hz⟩ := regElem_inv hv
  injection hz with hz _
  obtain rfl := regDat_inj hz
  rw [e1] at hr
  exact hr
theorem MapR.drew {w : World} {b : Nat} {L : List Reg} (h : MapR w b L) : MapR w.drew b L := h.drewN 1
theorem MapR.alloc {w : World} {b : Nat} {L : List Reg} (h : MapR w b L) (o : Obj) : MapR (w.alloc o) b L := h.only (only_alloc (only_refl _ none) _) (by simp)

theorem chkV_end {L : List Reg} {r : Reg} (h0 : mayB r = true) (hl : lookL L r.1 = none) (h : ∀ y ∈ L, meetsB (spn r) (spn y) = false) : chkV L r = 0 := by
  have : L.any (fun x => meetsB (spn r) (spn x)) = false := by
    rw [List.any_eq_false]
    intro x hx
    rw [h x hx]
    decide
  simp only [chkV, h0, hl, this]
  rfl
theorem chkV_meet {L : List Reg} {r y : Reg} (h0 : mayB r = true) (hl : lookL L r.1 = none) (hy : y ∈ L) (h : meetsB (spn r) (spn y) = true) : chkV L r = 11 := by
  have : L.any (fun x => meetsB (spn r) (spn x)) = true := List.any_eq_true.2 ⟨y, hy, h⟩
  simp only [chkV, h0, hl, this]
  rfl

def CheckV (L : List Reg) (r : Reg) (w : World) (e : Ending) (w' : World) : Prop := e = .returned (.int .i64 (chkV L r)) ∧ Below w.heap.size w w'
set_option maxHeartbeats 1600000 in
theorem tcheck_any {w : World} {B t : Nat} {L : List Reg} (r : Reg) (hf : Fits r) (h : TabV w B t L) (hm : AllMay L) (hnd : (L.map (·.1)).Nodup) : Calls Try.prog 20 #[.pointer (some ⟨t, 0, none⟩), rgv r] w (CheckV L r w) := by
  have hcm := fun W => may_any r hf W
  have HCM := Lib.hid hcm
  clear hcm
  by_cases h0 : mayB r = true
  · obtain ⟨b, ht1, ht2, ht3, ht4⟩ := h
    have hb0 := (Below.refl w.heap.size w).alloc (Nat.le_refl _) (.cells #[.int .i64 r.1, .int .i64 r.2.1, .int .i64 r.2.2] 30)
    have HT := Lib.hid ht3
    have HM := Lib.hid ht4
    have HB0 := Lib.hid hb0
    have hp := fun W => places_any r h0 W
    have HP := Lib.hid hp
    rw [h0] at HCM
    clear hp ht3 ht4 hb0
    cases hl : lookL L r.1 with
    | some x =>
      have hc : chkV L r = 15 := by simp [chkV, h0, hl]
      have HC := Lib.hid hc
      have HL := Lib.hid hl
      clear hc hl
      obtain ⟨p, q, s⟩ := r
      obtain ⟨x1, x2, x3⟩ := x
      have ho := hf.1
      simp only at ho
      go_enter Try.func20, Try.ntmps20
      go_wp2_with (first
        | (go_at_call 27; refine (HCM.out _).mono ?_; rintro e w1 ⟨rfl, g1⟩; have B1 := Lib.hid (HB0.out.trans (below_of_only g1 (by simp) (by simp))); have hblk := (Blk.new w 30 #[.int .i64 p, .int .i64 q, .int .i64 s]).only g1 (by simp); have e0 := hblk.cell 0; have e1 := hblk.cell 1; have e2 := hblk.cell 2; simp at e0 e1 e2; have R1 := Lib.hid hblk; have T1 := Lib.hid (HT.out.below B1.out HT.out.lt); have c0 := T1.out.cell 0; simp at c0; have M1 := Lib.hid (HM.out.below B1.out); clear g1 hblk)
  )
      have c0' : (w1.alloc (.cells #[.int .i64 0, .int .i64 0, .int .i64 0] 30)).cell? ⟨t, 0, none⟩ = some (.map (some b)) := (T1.out.alloc _).cell 0
      have e0' : (w1.alloc (.cells #[.int .i64 0, .int .i64 0, .int .i64 0] 30)).cell? ⟨w.heap.size, 0, none⟩ = some (.int .i64 p) := (R1.out.alloc _).cell 0
      have k1 := run_look_some M1.out.drew ho HL.out
      have k2 := run_look_some (M1.out.alloc (.cells #[.int .i64 0, .int .i64 0, .int .i64 0] 30)).drew ho HL.out
      go_region
      all_goals
        go_wp2
        go_ret
        exact ⟨ret_int (by rw [HC.out]), below_drewN (B1.out.alloc B1.out.size _) 1⟩
    | none =>
      have HL := Lib.hid hl
      have hnd' := hnd
      have HND := Lib.hid hnd
      clear hl hnd hnd'
      obtain ⟨p, q, s⟩ := r
      have ho := hf.1
      simp only at ho
      go_enter Try.func20, Try.ntmps20
      go_wp2_with (first
        | (go_at_call 27; refine (HCM.out _).mono ?_; rintro e w1 ⟨rfl, g1⟩; have B1 := Lib.hid (HB0.out.trans (below_of_only g1 (by simp) (by simp))); have hblk := (Blk.new w 30 #[.int .i64 p, .int .i64 q, .int .i64 s]).only g1 (by simp); have e0 := hblk.cell 0; have e1 := hblk.cell 1; have e2 := hblk.cell 2; simp at e0 e1 e2; have R1 := Lib.hid hblk; have T1 := Lib.hid (HT.out.below B1.out HT.out.lt); have c0 := T1.out.cell 0; simp at c0; have M1 := Lib.hid (HM.out.below B1.out); clear g1 hblk)
  )
      have c0' : (w1.alloc (.cells #[.int .i64 0, .int .i64 0, .int .i64 0] 30)).cell? ⟨t, 0, none⟩ = some (.map (some b)) := (T1.out.alloc _).cell 0
      have e0' : (w1.alloc (.cells #[.int .i64 0, .int .i64 0, .int .i64 0] 30)).cell? ⟨w.heap.size, 0, none⟩ = some (.int .i64 p) := (R1.out.alloc _).cell 0
      have k1 := run_look_none M1.out.drew ho HL.out
      have k2 := run_look_none (M1.out.alloc (.cells #[.int .i64 0, .int .i64 0, .int .i64 0] 30)).drew ho HL.out
      go_region
      all_goals
        obtain ⟨w2, hw2⟩ : ∃ w2, w2 = (w1.alloc (.cells #[.int .i64 0, .int .i64 0, .int .i64 0] 30)).drew := ⟨_, rfl⟩
        have R2 : Hid (Blk w2 w.heap.size 30 #[.int .i64 p, .int .i64 q, .int .i64 s]) := by rw [hw2]; exact Lib.hid ((R1.out.alloc _).drewN 1)
        have T2 : Hid (Blk w2 t 51 #[.map (some b)]) := by rw [hw2]; exact Lib.hid ((T1.out.alloc _).drewN 1)
        have M2 : Hid (MapR w2 b L) := by rw [hw2]; exact Lib.hid ((M1.out.alloc _).drew)
        have B2 : Hid (Below w.heap.size w w2) := by rw [hw2]; exact Lib.hid (below_drewN (B1.out.alloc B1.out.size _) 1)
        rw [← hw2]
        clear c0 c0' e0 e0' e1 e2 k1 k2 R1 T1 M1 B1 hw2
        have c0 : w2.cell? ⟨t, 0, none⟩ = some (.map (some b)) := T2.out.cell 0
        go_wp2_with (at_range; refine wpList_range_reg rfl _ rfl b L rfl M2.out HND.out ?_; intro w3 cnt hr hg3 hs3)
        go_frame
        have RN := Lib.hid hr
        have G3 := Lib.hid hg3
        have LT := Lib.hid (And.intro R2.out.lt M2.out.lt)
        have R3 := Lib.hid (R2.out.only hg3 (by simp))
        have B3 := Lib.hid (B2.out.trans (below_of_only hg3 B2.out.size (by simp)))
        clear hr hg3 hs3 c0
        go_loopw [8] (fun x wr => ∃ rem cnt, Rng wr b w2.heap.size L rem cnt ∧ Hid (∀ y ∈ L, y ∈ rem ∨ meetsB (spn (p, q, s)) (spn y) = false) ∧ (∀ y ∈ rem, y ∈ L) ∧ Blk wr w.heap.size 30 #[.int .i64 p, .int .i64 q, .int .i64 s] ∧ Below w.heap.size w wr) (fun x wr => wr.rangeLeft b w2.heap.size)
        case atStart => exact ⟨L, _, RN.out, Lib.hid (fun y hy => .inl hy), fun y hy => hy, R3.out, B3.out⟩
        case round =>
          obtain ⟨rem, cnt', hrn, HS, hrl, hR, hb⟩ := hrel
          have HRN := Lib.hid hrn
          have HRL := Lib.hid hrl
          have HR := Lib.hid hR
          have HB := Lib.hid hb
          clear hrn hrl hR hb
          go_wp2_with (at_next; refine wpList_next_reg rfl _ rfl b _ L rem cnt' rfl HRN.out ?_ ?_)
          · intro hrem
            subst hrem
            have hc : chkV L (p, q, s) = 0 := chkV_end h0 HL.out (fun y hy => by rcases HS.out y hy with h | h <;> first | (cases h; done) | exact h)
            have HC := Lib.hid hc
            clear hc
            go_wp2
            go_ret
            exact ⟨ret_int (by rw [HC.out]), HB.out⟩
          · intro x1 x2 x3 rem' wn cnt2 hperm hrn2 hlt hgn hsn hen
            have hyL : (x1, x2, x3) ∈ L := HRL.out _ (hperm.mem_iff.2 (List.mem_cons_self ..))
            have hmy : mayB (x1, x2, x3) = true := hm _ hyL
            have hpo : ∀ W, Calls Try.prog 25 #[.agg #[.int .i64 x1, .int .i64 x2, .int .i64 x3]] W fun e w' => e = .returned (.agg #[.int .i64 x2, .int .i64 (x2 + x3)]) ∧ W.grownBy w' none := fun W => places_any (x1, x2, x3) hmy W
            have hpr : ∀ W, Calls Try.prog 25 #[.agg #[.int .i64 p, .int .i64 q, .int .i64 s]] W fun e w' => e = .returned (.agg #[.int .i64 q, .int .i64 (q + s)]) ∧ W.grownBy w' none := fun W => places_any (p, q, s) h0 W
            have HPO := Lib.hid hpo
            have HPR := Lib.hid hpr
            clear hpo hpr
            obtain ⟨mb, hmb⟩ : ∃ mb, mb = meetsB (q, q + s) (x2, x2 + x3) := ⟨_, rfl⟩
            obtain ⟨v, hv⟩ : ∃ v, v = meetV (q, q + s) (x2, x2 + x3) := ⟨_, rfl⟩
            obtain ⟨v1, v2⟩ := v
            have hme : ∀ W, Calls Try.prog 28 #[.agg #[.int .i64 q, .int .i64 (q + s)], .agg #[.int .i64 x2, .int .i64 (x2 + x3)]] W fun e w' => e = .returned (.tuple #[.agg #[.int .i64 v1, .int .i64 v2], .bool mb]) ∧ W.grownBy w' none := fun W => by
              have := meet_any (q, q + s) (x2, x2 + x3) W
              rw [← hmb, ← hv] at this
              exact this
            have HME := Lib.hid hme
            have HMB := Lib.hid hmb
            clear hme hmb hv
            have HRNN := Lib.hid hrn2
            have HPERM := Lib.hid hperm
            have HLT := Lib.hid hlt
            have HYL := Lib.hid hyL
            have RQ := Lib.hid (HR.out.only hgn (by have := LT.out.1; intro e; injection e with e; omega))
            have BQ := Lib.hid (HB.out.trans (below_of_only hgn HB.out.size (fun k hk => by have := LT.out.1; injection hk with hk; omega)))
            clear hperm hrn2 hlt hgn hsn hyL hmy
            go_wp2
            obtain ⟨wq, hwq⟩ : ∃ wq, wq = wn.alloc (.cells #[.int .i64 x1, .int .i64 x2, .int .i64 x3] 30) := ⟨_, rfl⟩
            have hOQ : Blk wq wn.heap.size 30 #[.int .i64 x1, .int .i64 x2, .int .i64 x3] := by rw [hwq]; exact Blk.new _ _ _
            have hRQ : Blk wq w.heap.size 30 #[.int .i64 p, .int .i64 q, .int .i64 s] := by rw [hwq]; exact RQ.out.alloc _
            have hBQ : Below w.heap.size w wq := by rw [hwq]; exact BQ.out.alloc BQ.out.size _
            have hNQ : Rng wq b w2.heap.size L rem' cnt2 := by rw [hwq]; exact HRNN.out.only (only_alloc (only_refl _ none) _) (by simp) (by simp)
            rw [← hwq]
            have hold : ∀ W, Below wq.heap.size wq W → W.cell? ⟨w.heap.size, 0, none⟩ = some (.int .i64 p) ∧ W.cell? ⟨w.heap.size, 1, none⟩ = some (.int .i64 q) ∧ W.cell? ⟨w.heap.size, 2, none⟩ = some (.int .i64 s) ∧ W.cell? ⟨wn.heap.size, 0, none⟩ = some (.int .i64 x1) ∧ W.cell? ⟨wn.heap.size, 1, none⟩ = some (.int .i64 x2) ∧ W.cell? ⟨wn.heap.size, 2, none⟩ = some (.int .i64 x3) := fun W h =>
              ⟨(hRQ.below h hRQ.lt).cell 0, (hRQ.below h hRQ.lt).cell 1, (hRQ.below h hRQ.lt).cell 2, (hOQ.below h hOQ.lt).cell 0, (hOQ.below h hOQ.lt).cell 1, (hOQ.below h hOQ.lt).cell 2⟩
            have HOLD := Lib.hid hold
            obtain ⟨c0, c1, c2, c3, c4, c5⟩ := hold wq (Below.refl _ _)
            have HRQ := Lib.hid hRQ
            have HBQ := Lib.hid hBQ
            have HNQ := Lib.hid hNQ
            clear hwq hOQ hRQ hBQ hNQ hold RQ BQ HRNN
            go_region_held3 (fun w' => w'.cell? ⟨w.heap.size, 0, none⟩ = some (.int .i64 p) ∧ w'.cell? ⟨w.heap.size, 1, none⟩ = some (.int .i64 q) ∧ w'.cell? ⟨w.heap.size, 2, none⟩ = some (.int .i64 s) ∧ w'.cell? ⟨wn.heap.size, 0, none⟩ = some (.int .i64 x1) ∧ w'.cell? ⟨wn.heap.size, 1, none⟩ = some (.int .i64 x2) ∧ w'.cell? ⟨wn.heap.size, 2, none⟩ = some (.int .i64 x3))
              (first | exact ⟨l0, l1, l2, l3, l4, l5⟩ | exact ⟨k0, k1, k2, k3, k4, k5⟩ | exact ⟨j0, j1, j2, j3, j4, j5⟩ | exact HOLD.out _ (HB6.out.alloc HB6.out.size _) | exact HOLD.out _ ((HB6.out.setCell (Nat.le_refl _) _).setCell (Nat.le_refl _) _) | exact HOLD.out _ ((HB6.out.setCell HB4.out.size _).setCell HB4.out.size _) | exact HOLD.out _ ((HB6.out.setCell HB5.out.size _).setCell HB5.out.size _) | go_keep) (first
              | (go_at_call 25; ((with_reducible refine (HPR.out _).mono ?_)); rintro e w4 ⟨rfl, g4⟩; (first
                  | (have hB4 : Below wq.heap.size wq w4 := (below_drewN (Below.refl _ wq) 1).trans (below_of_only g4 (by simp) (by simp)))
                  | (have hB4 : Below wq.heap.size wq w4 := ((below_drewN (Below.refl _ wq) 1).alloc (by simp) (.cells #[.int .i64 0, .int .i64 0] 37)).trans (below_of_only g4 (by simp) (by simp)); have HZ4 := Lib.hid ((Blk.new wq.drew 37 #[.int .i64 0, .int .i64 0]).only g4 (by simp))) | fail "q"); obtain ⟨j0, j1, j2, j3, j4, j5⟩ := HOLD.out w4 hB4; have HB4 := Lib.hid hB4; clear hB4 g4)
              | (go_at_call 25; ((with_reducible refine (HPO.out _).mono ?_)); rintro e w5 ⟨rfl, g5⟩; (first
                  | (have hB5 : Below wq.heap.size wq w5 := HB4.out.trans (below_of_only g5 HB4.out.size (by simp)))
                  | (have hB5 : Below wq.heap.size wq w5 := (HB4.out.alloc HB4.out.size (.cells #[.int .i64 0, .int .i64 0] 37)).trans (below_of_only g5 (Nat.le_trans HB4.out.size (by simp)) (by simp)); have HZ5 := Lib.hid ((Blk.new w4 37 #[.int .i64 0, .int .i64 0]).only g5 (by simp))) | fail "q"); obtain ⟨k0, k1, k2, k3, k4, k5⟩ := HOLD.out w5 hB5; (try have HZ5 := Lib.hid (HZ4.out.only g5 (by simp))); have HB5 := Lib.hid hB5; clear hB5 g5)
              | (go_at_call 28; ((with_reducible refine (HME.out _).mono ?_)); rintro e w6 ⟨rfl, g6⟩; (first
                  | (have hB6 : Below wq.heap.size wq w6 := HB5.out.trans (below_of_only g6 HB5.out.size (by simp)))
                  | (have hB6 : Below wq.heap.size wq w6 := (HB5.out.alloc HB5.out.size (.cells #[.int .i64 0, .int .i64 0] 37)).trans (below_of_only g6 (Nat.le_trans HB5.out.size (by simp)) (by simp)); have HZ6 := Lib.hid ((Blk.new w5 37 #[.int .i64 0, .int .i64 0]).only g6 (by simp))) | fail "q"); obtain ⟨l0, l1, l2, l3, l4, l5⟩ := HOLD.out w6 hB6; (try have HZ6 := Lib.hid (HZ5.out.only g6 (by simp))); (try (have z0 := HZ6.out.cell 0; have z1 := HZ6.out.cell 1; have y0 := HZ6.out.free 0; have y1 := HZ6.out.free 1; simp at z0 z1 y0 y1)); have HB6 := Lib.hid hB6; clear hB6 g6))
            all_goals
              (first
                | (obtain ⟨wf, hwf⟩ : ∃ wf, wf = w6.alloc (.cells #[.int .i64 v1, .int .i64 v2] 37) := ⟨_, rfl⟩
                   rw [← hwf]
                   have HF : Hid (Below wq.heap.size wq wf) := by rw [hwf]; exact Lib.hid (HB6.out.alloc HB6.out.size _))
                | (obtain ⟨wf, hwf⟩ : ∃ wf, wf = (w6.setCell ⟨w5.heap.size, 0, none⟩ (.int .i64 v1)).setCell ⟨w5.heap.size, 1, none⟩ (.int .i64 v2) := ⟨_, rfl⟩
                   rw [← hwf]
                   have HF : Hid (Below wq.heap.size wq wf) := by rw [hwf]; exact Lib.hid ((HB6.out.setCell HB5.out.size _).setCell HB5.out.size _))
                | (obtain ⟨wf, hwf⟩ : ∃ wf, wf = (w6.setCell ⟨w4.heap.size, 0, none⟩ (.int .i64 v1)).setCell ⟨w4.heap.size, 1, none⟩ (.int .i64 v2) := ⟨_, rfl⟩
                   rw [← hwf]
                   have HF : Hid (Below wq.heap.size wq wf) := by rw [hwf]; exact Lib.hid ((HB6.out.setCell HB4.out.size _).setCell HB4.out.size _))
                | (obtain ⟨wf, hwf⟩ : ∃ wf, wf = (w6.setCell ⟨wq.heap.size, 0, none⟩ (.int .i64 v1)).setCell ⟨wq.heap.size, 1, none⟩ (.int .i64 v2) := ⟨_, rfl⟩
                   rw [← hwf]
                   have HF : Hid (Below wq.heap.size wq wf) := by rw [hwf]; exact Lib.hid ((HB6.out.setCell (Nat.le_refl _) _).setCell (Nat.le_refl _) _)))
              clear hwf l0 l1 l2 l3 l4 l5 k0 k1 k2 k3 k4 k5 j0 j1 j2 j3 j4 j5 HB4 HB5 HB6 c0 c1 c2 c3 c4 c5
              try clear z0 z1 y0 y1
              cases mb with
              | true =>
                have hc : chkV L (p, q, s) = 11 := chkV_meet h0 HL.out HYL.out HMB.out.symm
                have HC := Lib.hid hc
                clear hc
                go_wp2
                go_ret
                exact ⟨ret_int (by rw [HC.out]), HBQ.out.trans (HF.out.mono HBQ.out.size)⟩
              | false =>
                go_wp2
                go_roundw
                case rel =>
                  refine ⟨rem', cnt2, HNQ.out.only (only_far HF.out) (by simp) (by simp), Lib.hid fun y hy => ?_, fun y hy => HRL.out y (HPERM.out.mem_iff.2 (List.mem_cons_of_mem _ hy)), HRQ.out.below HF.out HRQ.out.lt, HBQ.out.trans (HF.out.mono HBQ.out.size)⟩
                  rcases HS.out y hy with h | h
                  · rcases List.mem_cons.1 (HPERM.out.mem_iff.1 h) with e | e
                    · subst e
                      exact .inr HMB.out.symm
                    · exact .inl e
                  · exact .inr h
                case measure =>
                  rw [(HNQ.out.only (only_far HF.out) (by simp) (by simp)).left_eq, HRN.out.left_eq]
                  exact HLT.out
  · have h0' : mayB r = false := by simpa using h0
    have hc : chkV L r = 2 := by simp [chkV, h0']
    rw [h0'] at HCM
    have HC := Lib.hid hc
    have hb0 := (Below.refl w.heap.size w).alloc (Nat.le_refl _) (.cells #[.int .i64 r.1, .int .i64 r.2.1, .int .i64 r.2.2] 30)
    have HB0 := Lib.hid hb0
    clear hb0 hc h0 h0' h
    obtain ⟨p, q, s⟩ := r
    go_enter Try.func20, Try.ntmps20
    go_wp2_with (go_at_call 27; refine (HCM.out _).mono ?_; rintro e w1 ⟨rfl, g1⟩; have B1 := Lib.hid (HB0.out.trans (below_of_only g1 (by simp) (by simp))); clear g1)
    go_ret
    exact ⟨ret_int (by rw [HC.out]), B1.out⟩
end Go.Proofs.Ythlapnljinkekaa
