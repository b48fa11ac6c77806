/- A device of package nic: what is wrong with a port beside those that are there. -/
import Derived.Test.YtjhihccjhnlghaaNP2
import Derived.Deep.QuietTactic
import Derived.Lib.QuietBelow
import Derived.BigRegion
namespace Go.Proofs.Ytjhihccjhnlghaa
open Go.RowKit Go.Lib
set_option linter.unusedVariables false

/-- 'v, ok := m[k]' and 'm[k]' as equations, for regions that draw. -/
theorem run_look_some {w : World} {b : Nat} {L : List Pp} {k p : Int} {q : Option Nat} {s : Int} (hmap : MapP w b L) (hk : fitI k) (hl : lookL L k = some (p, q, s)) :
    (Instr.lookup 63 (.map (some b)) (.int .i64 k) true).run Try.prog w = .ok (.tuple #[.agg #[ptr q, .int .i64 s], .bool true]) w := by
  obtain ⟨D, h1, h2⟩ := hmap
  obtain ⟨e1, e2⟩ := h2.has_some hl
  obtain ⟨v, ps, hr, hv⟩ := h1.look_ok int_keys Try.underlying63 (pp_zero w) (ppElem_mk none 0) (int_key hk)
  rw [e2] at hv
  obtain ⟨q', m', rfl, hz⟩ := ppElem_inv hv
  obtain ⟨rfl, rfl⟩ := ppDat_inj (show ppDat _ _ = ppDat _ _ from congrArg Prod.fst hz)
  rw [e1] at hr
  exact hr
theorem run_look_none {w : World} {b : Nat} {L : List Pp} {k : Int} (hmap : MapP w b L) (hk : fitI k) (hl : lookL L k = none) :
    (Instr.lookup 63 (.map (some b)) (.int .i64 k) true).run Try.prog w = .ok (.tuple #[.agg #[.pointer none, .int .i64 0], .bool false]) w := by
  obtain ⟨D, h1, h2⟩ := hmap
  have e1 := h2.has_none hk hl
  obtain ⟨v, ps, hr, hv⟩ := h1.look_ok int_keys Try.underlying63 (pp_zero w) (ppElem_mk none 0) (int_key hk)
  rw [Maps.atKey_of_not_has e1] at hv
  obtain ⟨q', m', rfl, hz⟩ := ppElem_inv hv
  obtain ⟨rfl, rfl⟩ := ppDat_inj (show ppDat _ _ = ppDat _ _ from congrArg Prod.fst hz)
  rw [e1] at hr
  exact hr
theorem MapP.drew {w : World} {b : Nat} {L : List Pp} (h : MapP w b L) : MapP w.drew b L := h.drewN 1
theorem MapP.alloc {w : World} {b : Nat} {L : List Pp} (h : MapP w b L) (o : Obj) : MapP (w.alloc o) b L := h.only (only_alloc (only_refl _ none) _) (by simp)

/-- What is wrong with a port beside the ports L. -/
def chkN (L : List Pp) (r : Int × Int × Int) : Int := if mayP r = false then 2 else if (lookL L r.1).isSome then 15 else if ownL L r.2.1 ≠ 0 then 15 else 0
def CheckN (L : List Pp) (r : Int × Int × Int) (w : World) (e : Ending) (w' : World) : Prop := e = .returned (.int .i64 (chkN L r)) ∧ Below w.heap.size w w'
section
variable {w : World} {d m : Nat} {L : List Pp} {odd : Int} {lv : Value}
set_option maxHeartbeats 1600000 in
theorem ncheck_any (r : Int × Int × Int) (hd : Blk w d 65 #[.map (some m), .int .i64 odd, lv]) (hm : MapP w m L) (hn1 : (L.map (·.1)).Nodup) (hn2 : (L.map (·.2.2)).Nodup) : Calls Try.prog 24 #[.pointer (some ⟨d, 0, none⟩), i3v r] w (CheckN L r w) := by
  have hcm := fun W => pmay_any r W
  have HCM := Lib.hid hcm
  clear hcm
  by_cases h0 : mayP r = true
  · have hb0 := (Below.refl w.heap.size w).alloc (Nat.le_refl _) (.cells #[.int .i64 r.1, .int .i64 r.2.1, .int .i64 r.2.2] 62)
    have HT := Lib.hid hd
    have HM := Lib.hid hm
    have HB0 := Lib.hid hb0
    rw [h0] at HCM
    have ho : fitI r.1 := by have := mayP_iff.1 h0; unfold fitI; omega
    clear hd hm hb0
    cases hl : lookL L r.1 with
    | some x =>
      have hc : chkN L r = 15 := by simp [chkN, h0, hl]
      have HC := Lib.hid hc
      have HL := Lib.hid hl
      clear hc hl
      obtain ⟨p, q, s⟩ := r
      obtain ⟨x1, x2, x3⟩ := x
      simp only at ho
      go_enter Try.func24, Try.ntmps24
      go_wp2_with (first
        | (go_at_call 39; refine (HCM.out _).mono ?_; rintro e w1 ⟨rfl, g1⟩; have B1 := Lib.hid (HB0.out.trans (below_of_only g1 (by simp) (by simp))); have hblk := (Blk.new w 62 #[.int .i64 p, .int .i64 q, .int .i64 s]).only g1 (by simp); have e0 := hblk.cell 0; have e1 := hblk.cell 1; have e2 := hblk.cell 2; simp at e0 e1 e2; have R1 := Lib.hid hblk; have T1 := Lib.hid (HT.out.below B1.out HT.out.lt); have c0 := T1.out.cell 0; simp at c0; have M1 := Lib.hid (HM.out.below B1.out); clear g1 hblk)
  )
      have c0' : (w1.alloc (.cells #[.pointer none, .int .i64 0] 70)).cell? ⟨d, 0, none⟩ = some (.map (some m)) := (T1.out.alloc _).cell 0
      have e0' : (w1.alloc (.cells #[.pointer none, .int .i64 0] 70)).cell? ⟨w.heap.size, 0, none⟩ = some (.int .i64 p) := (R1.out.alloc _).cell 0
      have k1 := run_look_some M1.out.drew ho HL.out
      have k2 := run_look_some (M1.out.alloc (.cells #[.pointer none, .int .i64 0] 70)).drew ho HL.out
      go_region
      all_goals
        go_wp2
        go_ret
        exact ⟨ret_int (by rw [HC.out]), below_drewN (B1.out.alloc B1.out.size _) 1⟩
    | none =>
      have HL := Lib.hid hl
      have HN1 := Lib.hid hn1
      have HN2 := Lib.hid hn2
      have hOW := fun W h1 h2 => nown_any (w := W) (d := d) (m := m) (L := L) (odd := odd) (lv := lv) r.2.1 h1 h2 hn1 hn2
      have HOW := Lib.hid hOW
      clear hl hn1 hn2 hOW
      obtain ⟨z, hz⟩ : ∃ z, z = ownL L r.2.1 := ⟨_, rfl⟩
      have hc : chkN L r = if z ≠ 0 then 15 else 0 := by simp [chkN, h0, HL.out, hz]
      rw [← hz] at HOW
      have HC := Lib.hid hc
      clear hz hc
      obtain ⟨p, q, s⟩ := r
      simp only at ho
      go_enter Try.func24, Try.ntmps24
      go_wp2_with (first
        | (go_at_call 39; refine (HCM.out _).mono ?_; rintro e w1 ⟨rfl, g1⟩; have B1 := Lib.hid (HB0.out.trans (below_of_only g1 (by simp) (by simp))); have hblk := (Blk.new w 62 #[.int .i64 p, .int .i64 q, .int .i64 s]).only g1 (by simp); have e0 := hblk.cell 0; have e1 := hblk.cell 1; have e2 := hblk.cell 2; simp at e0 e1 e2; have R1 := Lib.hid hblk; have T1 := Lib.hid (HT.out.below B1.out HT.out.lt); have c0 := T1.out.cell 0; simp at c0; have M1 := Lib.hid (HM.out.below B1.out); clear g1 hblk)
  )
      have c0' : (w1.alloc (.cells #[.pointer none, .int .i64 0] 70)).cell? ⟨d, 0, none⟩ = some (.map (some m)) := (T1.out.alloc _).cell 0
      have e0' : (w1.alloc (.cells #[.pointer none, .int .i64 0] 70)).cell? ⟨w.heap.size, 0, none⟩ = some (.int .i64 p) := (R1.out.alloc _).cell 0
      have k1 := run_look_none M1.out.drew ho HL.out
      have k2 := run_look_none (M1.out.alloc (.cells #[.pointer none, .int .i64 0] 70)).drew ho HL.out
      go_region
      all_goals
        obtain ⟨w2, hw2⟩ : ∃ w2, w2 = (w1.alloc (.cells #[.pointer none, .int .i64 0] 70)).drew := ⟨_, rfl⟩
        have R2 : Hid (Blk w2 w.heap.size 62 #[.int .i64 p, .int .i64 q, .int .i64 s]) := by rw [hw2]; exact Lib.hid ((R1.out.alloc _).drewN 1)
        have T2 : Hid (Blk w2 d 65 #[.map (some m), .int .i64 odd, lv]) := by rw [hw2]; exact Lib.hid ((T1.out.alloc _).drewN 1)
        have M2 : Hid (MapP w2 m L) := by rw [hw2]; exact Lib.hid ((M1.out.alloc _).drew)
        have B2 : Hid (Below w.heap.size w w2) := by rw [hw2]; exact Lib.hid (below_drewN (B1.out.alloc B1.out.size _) 1)
        rw [← hw2]
        clear c0 c0' e0 e0' e1 e2 k1 k2 R1 T1 M1 B1 hw2
        have e1 : w2.cell? ⟨w.heap.size, 1, none⟩ = some (.int .i64 q) := R2.out.cell 1
        by_cases hz : z = 0
        · subst hz
          go_wp2_with (go_at_call 23; refine (HOW.out _ T2.out M2.out).mono ?_; rintro e w5 ⟨rfl, g5⟩; have G5 := Lib.hid g5; clear g5)
          go_ret
          exact ⟨ret_int (by rw [HC.out]; rfl), B2.out.trans (below_of_only G5.out B2.out.size (by simp))⟩
        · go_wp2_with (go_at_call 23; refine (HOW.out _ T2.out M2.out).mono ?_; rintro e w5 ⟨rfl, g5⟩; have G5 := Lib.hid g5; clear g5)
          go_ret
          exact ⟨ret_int (by rw [HC.out]; simp [hz]), B2.out.trans (below_of_only G5.out B2.out.size (by simp))⟩
  · have h0' : mayP r = false := by simpa using h0
    have hc : chkN L r = 2 := by simp [chkN, h0']
    rw [h0'] at HCM
    have HC := Lib.hid hc
    have hb0 := (Below.refl w.heap.size w).alloc (Nat.le_refl _) (.cells #[.int .i64 r.1, .int .i64 r.2.1, .int .i64 r.2.2] 62)
    have HB0 := Lib.hid hb0
    clear hb0 hc h0 h0' hd hm
    obtain ⟨p, q, s⟩ := r
    go_enter Try.func24, Try.ntmps24
    go_wp2_with (go_at_call 39; refine (HCM.out _).mono ?_; rintro e w1 ⟨rfl, g1⟩; have B1 := Lib.hid (HB0.out.trans (below_of_only g1 (by simp) (by simp))); clear g1)
    go_ret
    exact ⟨ret_int (by rw [HC.out]), B1.out⟩
end
end Go.Proofs.Ytjhihccjhnlghaa
