import Derived.Test.YtjhihccjhnlghaaZG04
import Derived.Deep.QuietTactic
import Derived.Lib.QuietBelow
import Derived.BigRegion
set_option linter.all false
/- A device of package nic: what is wrong with a port beside those that are there. -/
namespace Go.Proofs.Ytjhihccjhnlghaa
open Go.RowKit Go.Lib
set_option linter.unusedVariables false

/-- 'v, ok := m[k]' and 'm[k]' as1 equations, for regions that draw. -/
theorem run_look_some {w : World} {b : Nat} {L : List Pp} {k p : Int} {q : Option Nat} {s : Int} (hmap : MapP w b L) (hk : fitI k) (hl : lookL L k = some (p, q, s)) :
    (Instr.lookup 63 (.map (some b)) (.int .i64 k) true).run Try.prog w = .ok (.tuple #[.agg #[ptr q, .int .i64 s], .bool true]) w := by
  obtain ⟨D, h1, h2⟩ := hmap
  obtain ⟨e1, e2⟩ := h2.has_some hl
  obtain ⟨v, ps, hr, hv⟩ := h1.look_ok int_keys Try.underlying63 (pp_zero w) (ppElem_mk none 0) (int_key hk)
  rw [e2] at hv
  obtain ⟨q', m', rfl, hz⟩ := ppElem_inv hv
  obtain ⟨rfl, rfl⟩ := ppDat_inj (show ppDat _ _ = ppDat _ _ from congrArg Prod.fst hz)
  rw [e1] at hr
  exact hr
theorem run_look_none {w : World} {b : Nat} {L : List Pp} {k : Int} (hmap : MapP w b L) (hk : fitI k) (hl : lookL L k = none) :
    (Instr.lookup 63 (.map (some b)) (.int .i64 k) true).run Try.prog w = .ok (.tuple #[.agg #[.pointer none, .int .i64 0], .bool false]) w := by
  obtain ⟨D, h1, h2⟩ := hmap
  have e1 := h2.has_none hk hl
  obtain ⟨v, ps, hr, hv⟩ := h1.look_ok int_keys Try.underlying63 (pp_zero w) (ppElem_mk none 0) (int_key hk)
  rw [Maps.atKey_of_not_has e1] at hv
  obtain ⟨q', m', rfl, hz⟩ := ppElem_inv hv
  obtain ⟨rfl, rfl⟩ := ppDat_inj (show ppDat _ _ = ppDat _ _ from congrArg Prod.fst hz)
  rw [e1] at hr
  exact hr
theorem MapP.drew {w : World} {b : Nat} {L : List Pp} (h : MapP w b L) : MapP w.drew b L := h.drewN 1
theorem MapP.alloc {w : World} {b : Nat} {L : List Pp} (h : MapP w b L) (o : Obj) : MapP (w.alloc o) b L := h.only (only_alloc (only_refl _ none) _) (by simp)

/-- What is wrong with a port beside the ports L. -/
def chkN (L : List Pp) (r : Int × Int × Int) : Int := if mayP r = false then 2 else if (lookL L r.1).isSome then 15 else if ownL L r.2.1 ≠ 0 then 15 else 0
def CheckN (L : List Pp) (r : Int × Int × Int) (w : World) (e : Ending) (w' : World) : Prop := e = .returned (.int .i64 (chkN L r)) ∧ Below w.heap.size w w'
section
variable {w : World} {d m : Nat} {L : List Pp} {odd : Int} {lv : Value}
set_option maxHeartbeats 1600000 in
theorem ncheck_any (r : Int × Int × Int) (hd : Blk w d 65 #[.map (some m), .int .i64 odd, lv]) (hm : MapP w m L) (hn1 : (L.map (·.1)).Nodup) (hn2 : (L.map (·.2.2)).Nodup) : Calls Try.prog 24 #[.pointer (some ⟨d, 0, none⟩), i3v r] w (CheckN L r w) := by
  have hcm := fun W => pmay_any r W
  have HCM := Lib.hid hcm
  clear hcm
  by_cases h0 : mayP r = true
  · have hb0 := (Below.refl w.heap.size w).alloc (Nat.le_refl _) (.cells #[.int .i64 r.1, .int .i64 r.2.1, .int .i64 r.2.2] 62)
    have HT := Lib.hid hd
    have HM := Lib.hid hm
    have HB0 := Lib.hid hb0
    rw [h0] at HCM
    have ho : fitI r.1 := by have := mayP_iff.1 h0; unfold fitI; omega
    clear hd hm hb0
    cases hl : lookL L r.1 with
    | some x =>
      have hc : chkN L r = 15 := by simp [chkN, h0, hl]
      have HC := Lib.hid hc
      have HL := Lib.hid hl
      clear hc hl
      obtain ⟨p, q, s⟩ := r
      obtain ⟨x1, x2, x3⟩ := x
      simp only at ho
      go_enter Try.func24, Try.ntmps24
      go_wp2_with (first
        | (go_at_call 39; refine (HCM.out _).mono ?_; rintro e w1 ⟨rfl, g1⟩; have B1 := Lib.hid (HB0.out.trans (below_of_only g1 (by simp) (by simp))); have hblk := (Blk.new w 62 #[.int .i64 p, .int .i64 q, .int .i64 s]).only g1 (by simp); have e0 := hblk.cell 0; have e1 := hblk.cell 1; have e2 := hblk.cell 2; simp at e0 e1 e2; have R1 := Lib.hid hblk; have T1 := Lib.hid (HT.out.below B1.out HT.out.lt); have c0 := T1.out.cell 0; simp at c0; have M1 := Lib.hid (HM.out.below B1.out); clear g1 hblk)
  )
      have c0' : (w1.alloc (.cells #[.pointer none, .int .i64 0] 70)).cell? ⟨d, 0, none⟩ = some (.map (some m)) := (T1.out.alloc _).cell 0
      have e0' : (w1.alloc (.cells #[.pointer none, .int .i64 0] 70)).cell? ⟨w.heap.size, 0, none⟩ = some (.int .i64 p) := (R1.out.alloc _).cell 0
      have k1 := run_look_some M1.out.drew ho HL.out
      have k2 := run_look_some (M1.out.alloc (.cells #[.pointer none, .int .i64 0] 70)).drew ho HL.out
      go_region
      all_goals
        go_wp2
        go_ret
        exact ⟨ret_int (by rw [HC.out]), below_drewN (B1.out.alloc B1.out.size _) 1⟩
    | none =>
      have HL := Lib.hid hl
      have HN1 := Lib.hid hn1
      have HN2 := Lib.hid hn2
      have hOW := fun W h1 h2 => nown_any (w := W) (d := d) (m := m) (L := L) (odd := odd) (lv := lv) r.2.1 h1 h2 hn1 hn2
      have HOW := Lib.hid hOW
      clear hl hn1 hn2 hOW
      obtain ⟨z, hz⟩ : ∃ z, z = ownL L r.2.1 := ⟨_, rfl⟩
      have hc : chkN L r = if z ≠ 0 then 15 else 0 := by simp [chkN, h0, HL.out, hz]
      rw [← hz] at HOW
      have HC := Lib.hid hc
      clear hz hc
      obtain ⟨p, q, s⟩ := r
      simp only at ho
      go_enter Try.func24, Try.ntmps24
      go_wp2_with (first
        | (go_at_call 39; refine (HCM.out _).mono ?_; rintro e w1 ⟨rfl, g1⟩; have B1 := Lib.hid (HB0.out.trans (below_of_only g1 (by simp) (by simp))); have hblk := (Blk.new w 62 #[.int .i64 p, .int .i64 q, .int .i64 s]).only g1 (by simp); have e0 := hblk.cell 0; have e1 := hblk.cell 1; have e2 := hblk.cell 2; simp at e0 e1 e2; have R1 := Lib.hid hblk; have T1 := Lib.hid (HT.out.below B1.out HT.out.lt); have c0 := T1.out.cell 0; simp at c0; have M1 := Lib.hid (HM.out.below B1.out); clear g1 hblk)
  )
      have c0' : (w1.alloc (.cells #[.pointer none, .int .i64 0] 70)).cell? ⟨d, 0, none⟩ = some (.map (some m)) := (T1.out.alloc _).cell 0
      have e0' : (w1.alloc (.cells #[.pointer none, .int .i64 0] 70)).cell? ⟨w.heap.size, 0, none⟩ = some (.int .i64 p) := (R1.out.alloc _).cell 0
      have k1 := run_look_none M1.out.drew ho HL.out
      have k2 := run_look_none (M1.out.alloc (.cells #[.pointer none, .int .i64 0] 70)).drew ho HL.out
      go_region
      all_goals
        obtain ⟨w2, hw2⟩ : ∃ w2, w2 = (w1.alloc (.cells #[.pointer none, .int .i64 0] 70)).drew := ⟨_, rfl⟩
        have R2 : Hid (Blk w2 w.heap.size 62 #[.int .i64 p, .int .i64 q, .int .i64 s]) := by rw [hw2]; exact Lib.hid ((R1.out.alloc _).drewN 1)
        have T2 : Hid (Blk w2 d 65 #[.map (some m), .int .i64 odd, lv]) := by rw [hw2]; exact Lib.hid ((T1.out.alloc _).drewN 1)
        have M2 : Hid (MapP w2 m L) := by rw [hw2]; exact Lib.hid ((M1.out.alloc _).drew)
        have B2 : Hid (Below w.heap.size w w2) := by rw [hw2]; exact Lib.hid (below_drewN (B1.out.alloc B1.out.size _) 1)
        rw [← hw2]
        clear c0 c0' e0 e0' e1 e2 k1 k2 R1 T1 M1 B1 hw2
        have e1 : w2.cell? ⟨w.heap.size, 1, none⟩ = some (.int .i64 q) := R2.out.cell 1
        by_cases hz : z = 0
        · subst hz
          go_wp2_with (go_at_call 23; refine (HOW.out _ T2.out M2.out).mono ?_; rintro e w5 ⟨rfl, g5⟩; have G5 := Lib.hid g5; clear g5)
          go_ret
          exact ⟨ret_int (by rw [HC.out]; rfl), B2.out.trans (below_of_only G5.out B2.out.size (by simp))⟩
        · go_wp2_with (go_at_call 23; refine (HOW.out _ T2.out M2.out).mono ?_; rintro e w5 ⟨rfl, g5⟩; have G5 := Lib.hid g5; clear g5)
          go_ret
          exact ⟨ret_int (by rw [HC.out]; simp [hz]), B2.out.trans (below_of_only G5.out B2.out.size (by simp))⟩
  · have h0' : mayP r = false := by simpa using h0
    have hc : chkN L r = 2 := by simp [chkN, h0']
    rw [h0'] at HCM
    have HC := Lib.hid hc
    have hb0 := (Below.refl w.heap.size w).alloc (Nat.le_refl _) (.cells #[.int .i64 r.1, .int .i64 r.2.1, .int .i64 r.2.2] 62)
    have HB0 := Lib.hid hb0
    clear hb0 hc h0 h0' hd hm
    obtain ⟨p, q, s⟩ := r
    go_enter Try.func24, Try.ntmps24
    go_wp2_with (go_at_call 39; refine (HCM.out _).mono ?_; rintro e w1 ⟨rfl, g1⟩; have B1 := Lib.hid (HB0.out.trans (below_of_only g1 (by simp) (by simp))); clear g1)
    go_ret
    exact ⟨ret_int (by rw [HC.out]), B1.out⟩
end
end Go.Proofs.Ytjhihccjhnlghaa

/- A device of package nic: how it lies in memory; the call that makes one. -/
namespace Go.Proofs.Ytjhihccjhnlghaa
open Go.RowKit Go.Lib
set_option linter.unusedVariables false

/-- A port of a device: owner, address, its queue's block, the queue's slice, the frames that wait, limit, drops. -/
structure Gp where
  o : Int
  mac : Int
  q : Nat
  v : Value
  l : List Frm
  lim : Nat
  dr : Nat
def Gp.row (g : Gp) : Pp := (g.o, some g.q, g.mac)
def Gp.pub (g : Gp) : Int × Int × Int := (g.o, g.mac, g.lim)
def Gp.own (g : Gp) (i : Nat) : Prop := OwnQ g.q g.v i
/-- The blocks of a device. -/
def nOwn (d m : Nat) (lv : Value) (G : List Gp) (i : Nat) : Prop := i = d ∨ i = m ∨ lv.ownBlock = some i ∨ ∃ g ∈ G, g.own i
/-- Its blocks lie apart; no two ports have one owner or one address. -/
def NApart (d m : Nat) (lv : Value) (G : List Gp) : Prop :=
  d ≠ m ∧ (∀ i, lv.ownBlock = some i → i ≠ d ∧ i ≠ m ∧ ∀ g ∈ G, ¬ g.own i) ∧ (∀ g ∈ G, ∀ i, g.own i → i ≠ d ∧ i ≠ m) ∧ G.Pairwise fun a b => a.o ≠ b.o ∧ a.mac ≠ b.mac ∧ ∀ i, a.own i → ¬ b.own i
/-- A device lies in block d. -/
def NicG (w : World) (d m : Nat) (lv : Value) (odd : Int) (S : List Frm) (G : List Gp) : Prop :=
  Blk w d 65 #[.map (some m), .int .i64 odd, lv] ∧ MapP w m (G.map Gp.row) ∧ RowZ 3 w lv S.length (frL S) ∧ (∀ g ∈ G, QueF w g.q g.v g.l g.lim g.dr ∧ mayP g.pub = true) ∧ NApart d m lv G

section
variable {w w' : World} {d m : Nat} {lv : Value} {odd : Int} {S : List Frm} {G : List Gp}
theorem NicG.lt (h : NicG w d m lv odd S G) : ∀ i, nOwn d m lv G i → i < w.heap.size := by
  rintro i (rfl | rfl | hi | ⟨g, hg, hi⟩)
  · exact h.1.lt
  · exact h.2.1.lt
  · exact h.2.2.1.lt i hi
  · exact (h.2.2.2.1 g hg).1.lt i hi
theorem MapP.keeps {b : Nat} {L : List Pp} {T : Nat → Prop} (h : MapP w b L) (k : Keeps T w w') (hn : ¬ T b) : MapP w' b L := by
  have hs : w.grownBy w' none ∨ True := .inr trivial
  obtain ⟨D, h1, h2⟩ := h
  refine ⟨D, ?_, h2⟩
  have hb : w'.heap[b]? = w.heap[b]? := k.2.2.2.2 b h1.lt hn
  obtain ⟨es, clock, e1, F, e2, e3⟩ := h1
  exact ⟨es, clock, hb.trans e1, F, e2, e3⟩
theorem NicG.keeps {T : Nat → Prop} (h : NicG w d m lv odd S G) (k : Keeps T w w') (hn : ∀ i, nOwn d m lv G i → ¬ T i) : NicG w' d m lv odd S G :=
  ⟨h.1.keeps k (hn d (.inl rfl)), h.2.1.keeps k (hn m (.inr (.inl rfl))), h.2.2.1.keeps k fun i hi => hn i (.inr (.inr (.inl hi))), fun g hg => ⟨(h.2.2.2.1 g hg).1.keeps k fun i hi => hn i (.inr (.inr (.inr ⟨g, hg, hi⟩))), (h.2.2.2.1 g hg).2⟩, h.2.2.2.2⟩
theorem NicG.grown (h : NicG w d m lv odd S G) (g : w.grownBy w' none) : NicG w' d m lv odd S G := h.keeps (T := fun _ => False) (Keeps.of_only g (by simp)) (fun _ _ h => h)
theorem NicG.below (h : NicG w d m lv odd S G) (g : Below w.heap.size w w') : NicG w' d m lv odd S G := h.grown (only_far g)
theorem pw_map {α β : Type} {R : α → α → Prop} {f : α → β} {l : List α} (h : l.Pairwise R) (hr : ∀ a b, R a b → f a ≠ f b) : (l.map f).Nodup := by
  unfold List.Nodup
  rw [List.pairwise_map]
  exact h.imp (fun {a b} h => hr a b h)
theorem NicG.owners (h : NicG w d m lv odd S G) : ((G.map Gp.row).map (·.1)).Nodup := by
  rw [List.map_map]
  exact pw_map h.2.2.2.2.2.2.2 (fun a b h => h.1)
theorem NicG.macs (h : NicG w d m lv odd S G) : ((G.map Gp.row).map (·.2.2)).Nodup := by
  rw [List.map_map]
  exact pw_map h.2.2.2.2.2.2.2 (fun a b h => h.2.1)
/-- One more port. -/
theorem NicG.more {w5 w6 : World} (h : NicG w d m lv odd S G) (g : Gp) (h5 : w.grownBy w5 none) (hq : QueF w5 g.q g.v g.l g.lim g.dr) (hy : mayP g.pub = true) (h6 : w5.grownBy w6 (some m)) (hm : MapP w6 m (G.map Gp.row ++ [g.row])) (hf : ∀ i, g.own i → w.heap.size ≤ i) (ho : ∀ x ∈ G, x.o ≠ g.o ∧ x.mac ≠ g.mac) : NicG w6 d m lv odd S (G ++ [g]) := by
  have k6 : Keeps (fun i => i = m) w5 w6 := Keeps.of_only h6 (fun k hk => by injection hk with hk; exact hk.symm)
  have k5 := h.grown h5
  have hap := h.2.2.2.2
  have hlt := h.lt
  refine ⟨k5.1.keeps k6 hap.1, by simpa using hm, k5.2.2.1.keeps k6 fun i hi => (hap.2.1 i hi).2.1, fun x hx => ?_, hap.1, fun i hi => ⟨(hap.2.1 i hi).1, (hap.2.1 i hi).2.1, fun x hx hxi => ?_⟩, fun x hx i hi => ?_, ?_⟩
  · rcases List.mem_append.1 hx with hx | hx
    · exact ⟨(k5.2.2.2.1 x hx).1.keeps k6 fun i hi => (hap.2.2.1 x hx i hi).2, (k5.2.2.2.1 x hx).2⟩
    · obtain rfl : x = g := by simpa using hx
      exact ⟨hq.keeps k6 fun i hi e => by have := hf i hi; have := hlt m (.inr (.inl rfl)); omega, hy⟩
  · rcases List.mem_append.1 hx with hx | hx
    · exact (hap.2.1 i hi).2.2 x hx hxi
    · obtain rfl : x = g := by simpa using hx
      have := hf i hxi
      have := hlt i (.inr (.inr (.inl hi)))
      omega
  · rcases List.mem_append.1 hx with hx | hx
    · exact hap.2.2.1 x hx i hi
    · obtain rfl : x = g := by simpa using hx
      have := hf i hi
      have := hlt d (.inl rfl)
      have := hlt m (.inr (.inl rfl))
      omega
  · rw [List.pairwise_append]
    refine ⟨hap.2.2.2, by simp, fun x hx y hy => ?_⟩
    obtain rfl : y = g := by simpa using hy
    refine ⟨(ho x hx).1, (ho x hx).2, fun i hi hi' => ?_⟩
    have := hf i hi'
    have := hlt i (.inr (.inr (.inr ⟨x, hx, hi⟩)))
    omega
end
end Go.Proofs.Ytjhihccjhnlghaa
