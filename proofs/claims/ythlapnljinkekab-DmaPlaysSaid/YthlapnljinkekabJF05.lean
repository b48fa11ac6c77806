import Derived.Test.YthlapnljinkekabJF04
import Derived.StillTailTactics
import Derived.Deep.AppendLies
import Derived.Deep.RegionLaw
set_option linter.all false
/- A burst that writes: the closure, try, move, Write: their contracts. -/
namespace Go.Proofs.Ythlapnljinkekab
open Go.RowKit Go.Lib Go.Sort
set_option linter.unusedVariables false

/-- Where a burst begins, or why it is refused. -/
def askV (L : List Reg) (len : Nat) (o a n : Int) : Int × Int :=
  if 32 < n then (0, 4) else if (mapV L o a n).2 = 0 then (if thereB len (mapV L o a n).1 n = true then ((mapV L o a n).1, 0) else (0, 6)) else (0, (mapV L o a n).2)

/-- What a write leaves: the memory holds l', c is told. -/
def PutV (B m g : Nat) (l' : List UInt8) (c : Int) (w : World) (e : Ending) (w' : World) : Prop := e = .returned (.int .i64 c) ∧ MemG w' B m g l' ∧ w.grownBy w' (some g)
def putL (l : List UInt8) (at' : Int) (s : ByteArray) : List UInt8 := if chk l.length at' s.size = 0 then over l at'.toNat s.data.toList else l
/-- The memory behind a burst that writes. -/
def wrL (L : List Reg) (l : List UInt8) (o a : Int) (s : ByteArray) : List UInt8 := if (askV L l.length o a s.size).2 = 0 then over l (askV L l.length o a s.size).1.toNat s.data.toList else l
theorem chk_there {len : Nat} {y : Int} {n : Nat} (h : 0 ≤ y) : chk len y n = if thereB len y n = true then 0 else 6 := by
  by_cases h1 : (len : Int) < y
  · have h2 : thereB len y n = false := by simp [thereB]; omega
    unfold chk
    rw [if_neg (by omega), if_neg (by omega), if_pos h1, h2]
    rfl
  · by_cases h3 : (len : Int) - y < n
    · have h2 : thereB len y n = false := by simp [thereB]; omega
      unfold chk
      rw [if_neg (by omega), if_neg (by omega), if_neg h1, if_pos h3, h2]
      rfl
    · have h2 : thereB len y n = true := by simp [thereB]; omega
      unfold chk
      rw [if_neg (by omega), if_neg (by omega), if_neg h1, if_neg h3, h2]
      rfl
theorem mapV_nn {L : List Reg} {o a n y : Int} (hm : AllMay L) (h : mapV L o a n = (y, 0)) : 128 ≤ y ∧ 0 ≤ n := by
  unfold mapV at h
  cases hl : lookL L o with
  | none => rw [hl] at h; simp at h
  | some r =>
    rw [hl] at h
    have hmy := mayB_iff.1 (hm.look hl)
    simp only at h
    by_cases h1 : n < 0
    · rw [if_pos h1] at h; simp at h
    · rw [if_neg h1] at h
      by_cases h2 : a < 0
      · rw [if_pos h2] at h; simp at h
      · rw [if_neg h2] at h
        by_cases h3 : r.2.2 - a < n
        · rw [if_pos h3] at h; simp at h
        · rw [if_neg h3] at h
          injection h with h _
          omega
/-- Where the table has an address, memory's own answer counts. -/
theorem askV_at {L : List Reg} {len : Nat} {o a : Int} {n : Nat} {y : Int} (hm : AllMay L) (h : mapV L o a n = (y, 0)) (hn : ¬ (32 : Int) < n) : askV L len o a n = if chk len y n = 0 then (y, 0) else (0, chk len y n) := by
  have hy := mapV_nn hm h
  rw [chk_there (by omega)]
  unfold askV
  rw [if_neg hn, h, if_pos rfl]
  cases thereB len y n <;> simp

set_option maxRecDepth 100000 in
theorem w1_any (w : World) (B e m g t be bs : Nat) (rv : Value) (rd wr : Nat → Int) (l : List UInt8) (at' : Int) (s : ByteArray) (hE : EngG w e m t rv rd wr) (hM : MemG w B m g l) (hbe : w.cell? ⟨be, 0, none⟩ = some (.pointer (some ⟨e, 0, none⟩))) (hbs : w.cell? ⟨bs, 0, none⟩ = some (.string s)) (hl : l.length ≤ 16384) (hs : s.size ≤ 1000000) :
    Calls Try.prog 35 #[.int .i64 at', .pointer (some ⟨be, 0, none⟩), .pointer (some ⟨bs, 0, none⟩)] w (PutV B m g (putL l at' s) (chk l.length at' s.size) w) := by
  have hp : ∀ W, MemG W B m g l → Calls Try.prog 36 #[.pointer (some ⟨m, 0, none⟩), .int .i64 at', .string s] W (PutV B m g (putL l at' s) (chk l.length at' s.size) W) := fun W h => mput_any W B m g l at' s h hl hs
  generalize chk l.length at' s.size = c at hp ⊢
  generalize putL l at' s = l' at hp ⊢
  have HP := Lib.hid hp
  clear hp
  have HM := Lib.hid hM
  have c0 := hE.mem
  clear hM hE
  go_enter Try.func35, Try.ntmps35
  go_wp2
  go_still_tail 6, (by kernel_rfl)
  change wpList _ _ _ _ _ w.drew
  have HM2 := Lib.hid (show MemG w.drew B m g l from HM.out.drewN 1)
  have HD := Lib.hid (show w.grownBy w.drew (some g) from only_drewN (only_refl _ _) 1)
  generalize w.drew = w0 at HM2 HD ⊢
  go_wp2_with (go_at_call 36; refine (HP.out _ HM2.out).mono ?_; rintro r w1 ⟨rfl, h1, h2⟩; have H1 := Lib.hid h1; have H2 := Lib.hid (only_trans HD.out h2); clear h1 h2)
  go_ret
  exact ⟨rfl, H1.out, H2.out⟩

theorem tryw_any (w : World) (B e m g t be bs : Nat) (L : List Reg) (rv : Value) (n : Nat) (rc : Nat → Rec) (rd wr : Nat → Int) (l : List UInt8) (tick o a x : Int) (s : ByteArray) (hst : StG w B e m g t L l rv n rc rd wr) (hbe : w.cell? ⟨be, 0, none⟩ = some (.pointer (some ⟨e, 0, none⟩))) (hbs : w.cell? ⟨bs, 0, none⟩ = some (.string s)) (hm : AllMay L) (ho : fitI o) (ha : fitI a) (hl : l.length ≤ 16384) (hs : s.size ≤ 1000000) :
    Calls Try.prog 47 #[.pointer (some ⟨e, 0, none⟩), .agg #[.int .i64 tick, .int .i64 o, .int .i64 a, .int .i64 s.size, .bool true, .int .i64 x], .func (.func 35) #[] #[.pointer (some ⟨be, 0, none⟩), .pointer (some ⟨bs, 0, none⟩)]] w (PutV B m g (wrL L l o a s) (askV L l.length o a s.size).2 w) := by
  obtain ⟨hBe, hE, hM, hT, hR⟩ := hst
  have hb0 := (Below.refl w.heap.size w).alloc (Nat.le_refl _) (.cells #[.int .i64 tick, .int .i64 o, .int .i64 a, .int .i64 s.size, .bool true, .int .i64 x] 45)
  have HB0 := Lib.hid hb0
  have HG : Hid (g < w.heap.size ∧ w.heap.size ≤ w.heap.size) := ⟨hM.lt.1, Nat.le_refl _⟩
  by_cases h32 : (32 : Int) < (s.size : Int)
  · have hv : askV L l.length o a s.size = (0, 4) := by unfold askV; rw [if_pos h32]
    have hw : wrL L l o a s = l := by unfold wrL; rw [hv]; rfl
    rw [hv, hw]
    clear hw
    have HM := Lib.hid hM
    clear hE hM hT hR hv hb0
    go_enter Try.func47, Try.ntmps47
    go_wp2
    go_ret
    exact ⟨rfl, HM.out.below HB0.out, only_any (only_far HB0.out) _⟩
  · obtain ⟨y, E, hy⟩ : ∃ y E, mapV L o a s.size = (y, E) := ⟨_, _, rfl⟩
    have hmap := fun W (hW : Below w.heap.size w W) => map_any a s.size (hT.below hW) hm ho ha
    simp only [hy] at hmap
    have HMAP := Lib.hid hmap
    have c1 := (hE.below hb0).tab
    have hnew := Blk.new w 45 #[.int .i64 tick, .int .i64 o, .int .i64 a, .int .i64 s.size, .bool true, .int .i64 x]
    have b1 : (w.alloc (.cells #[.int .i64 tick, .int .i64 o, .int .i64 a, .int .i64 s.size, .bool true, .int .i64 x] 45)).cell? ⟨w.heap.size, 1, none⟩ = some (.int .i64 o) := hnew.cell 1
    have b2 : (w.alloc (.cells #[.int .i64 tick, .int .i64 o, .int .i64 a, .int .i64 s.size, .bool true, .int .i64 x] 45)).cell? ⟨w.heap.size, 2, none⟩ = some (.int .i64 a) := hnew.cell 2
    have b3 : (w.alloc (.cells #[.int .i64 tick, .int .i64 o, .int .i64 a, .int .i64 s.size, .bool true, .int .i64 x] 45)).cell? ⟨w.heap.size, 3, none⟩ = some (.int .i64 s.size) := hnew.cell 3
    have k0 := fun d os => cell_regrown c1 d os
    have k1 := fun d os => cell_regrown b1 d os
    have k2 := fun d os => cell_regrown b2 d os
    have k3 := fun d os => cell_regrown b3 d os
    have HE := Lib.hid hE
    have HM := Lib.hid hM
    have hw1 := fun W (hW : Below w.heap.size w W) (h1 : W.cell? ⟨be, 0, none⟩ = some (.pointer (some ⟨e, 0, none⟩))) (h2 : W.cell? ⟨bs, 0, none⟩ = some (.string s)) => w1_any W B e m g t be bs rv rd wr l y s (hE.below hW) (hM.below hW) h1 h2 hl hs
    have HW1 := Lib.hid hw1
    have HBE := Lib.hid hbe
    have HBS := Lib.hid hbs
    have HLE := Lib.hid (World.block_lt_of_cell? _ _ hbe)
    have HLS := Lib.hid (World.block_lt_of_cell? _ _ hbs)
    have HY := Lib.hid hy
    clear hE hM hT hR c1 b1 b2 b3 hnew hmap hw1 hbe hbs hb0 hy
    by_cases hE0 : E = 0
    · subst hE0
      have hv := askV_at (len := l.length) hm HY.out h32
      have hw : wrL L l o a s = putL l y s := by
        unfold wrL putL
        rw [hv]
        by_cases hc : chk l.length y s.size = 0
        · rw [if_pos hc, if_pos hc, if_pos rfl]
        · rw [if_neg hc, if_neg hc, if_neg hc]
      have hv2 : (askV L l.length o a s.size).2 = chk l.length y s.size := by
        rw [hv]
        by_cases hc : chk l.length y s.size = 0
        · rw [if_pos hc, hc]
        · rw [if_neg hc]
      rw [hv2, hw]
      generalize chk l.length y s.size = c at HW1 ⊢
      generalize putL l y s = l' at HW1 ⊢
      clear hv hv2 hw
      go_enter Try.func47, Try.ntmps47
      go_wp2
      refine wp_region_quiet_below (by kernel_rfl) (by kernel_rfl) ?_
      repeat (quiet_step ((go_at_call 50; exact Calls.regrown_of ((HMAP.out _ (HB0.out.trans ((below_regrown _ _ _).mono (by simp)))).mono fun _ _ ⟨h1, h2⟩ => ⟨h1, below_of_only h2 (Nat.le_refl _) (by simp)⟩))))
      refine wpQuiet_nil ?_
      rintro _ ⟨⟨dq, osq⟩, rfl⟩
      have hb3 := below_regrown (w.alloc (.cells #[.int .i64 tick, .int .i64 o, .int .i64 a, .int .i64 s.size, .bool true, .int .i64 x] 45)) dq osq
      generalize grow (redrawn (w.alloc (.cells #[.int .i64 tick, .int .i64 o, .int .i64 a, .int .i64 s.size, .bool true, .int .i64 x] 45)) dq) osq = w3 at hb3 ⊢
      have B3 := Lib.hid (HB0.out.trans (hb3.mono (by simp)))
      have hbe3 := (hb3.cell (p := ⟨be, 0, none⟩) (Nat.lt_of_lt_of_le HLE.out (by simp))).trans ((HB0.out.cell (p := ⟨be, 0, none⟩) HLE.out).trans HBE.out)
      have hbs3 := (hb3.cell (p := ⟨bs, 0, none⟩) (Nat.lt_of_lt_of_le HLS.out (by simp))).trans ((HB0.out.cell (p := ⟨bs, 0, none⟩) HLS.out).trans HBS.out)
      have HC := Lib.hid (HW1.out w3 B3.out hbe3 hbs3)
      clear hb3 k0 k1 k2 k3 hbe3 hbs3
      go_wp2_with (go_at_call 35; refine HC.out.mono ?_; rintro r w4 ⟨rfl, h1, h2⟩; have H1 := Lib.hid h1; have H2 := Lib.hid (only_trans (only_any (only_far B3.out) _) h2); clear h1 h2)
      go_ret
      exact ⟨rfl, H1.out, H2.out⟩
    · have hv : askV L l.length o a s.size = (0, E) := by unfold askV; rw [if_neg h32, HY.out, if_neg hE0]
      have hw : wrL L l o a s = l := by unfold wrL; rw [hv, if_neg hE0]
      rw [hv, hw]
      clear hw
      have hEb : (E != 0) = true := by simpa using hE0
      clear hv
      go_enter Try.func47, Try.ntmps47
      go_wp2
      refine wp_region_quiet_below (by kernel_rfl) (by kernel_rfl) ?_
      repeat (quiet_step ((go_at_call 50; exact Calls.regrown_of ((HMAP.out _ (HB0.out.trans ((below_regrown _ _ _).mono (by simp)))).mono fun _ _ ⟨h1, h2⟩ => ⟨h1, below_of_only h2 (Nat.le_refl _) (by simp)⟩))))
      refine wpQuiet_nil ?_
      rintro _ ⟨⟨dq, osq⟩, rfl⟩
      have hb3 := below_regrown (w.alloc (.cells #[.int .i64 tick, .int .i64 o, .int .i64 a, .int .i64 s.size, .bool true, .int .i64 x] 45)) dq osq
      generalize grow (redrawn (w.alloc (.cells #[.int .i64 tick, .int .i64 o, .int .i64 a, .int .i64 s.size, .bool true, .int .i64 x] 45)) dq) osq = w3 at hb3 ⊢
      have B3 := Lib.hid (HB0.out.trans (hb3.mono (by simp)))
      clear hb3 k0 k1 k2 k3
      go_wp2
      go_ret
      exact ⟨rfl, HM.out.below B3.out, only_any (only_far B3.out) _⟩
end Go.Proofs.Ythlapnljinkekab

/- A burst that writes: move and Write: their contracts. -/
namespace Go.Proofs.Ythlapnljinkekab
open Go.RowKit Go.Lib Go.Sort
set_option linter.unusedVariables false

theorem EngG.apart {w : World} {e m t : Nat} {rv : Value} {rd wr : Nat → Int} {B n : Nat} {v : Value} {rc : Nat → Rec} (h : EngG w e m t rv rd wr) (hr : RecV w B v n rc) : v.ownBlock ≠ some e := by
  obtain ⟨cs, h0, _⟩ := h
  exact own_ne hr h0 (by decide)
theorem MemG.apart {w : World} {B m g : Nat} {l : List UInt8} {B' n : Nat} {v : Value} {rc : Nat → Rec} (h : MemG w B m g l) (hr : RecV w B' v n rc) : v.ownBlock ≠ some g ∧ v.ownBlock ≠ some m := ⟨own_ne hr h.2.2.2 (by decide), own_ne hr h.2.2.1 (by decide)⟩
theorem MemG.eng {w : World} {e m t : Nat} {rv : Value} {rd wr : Nat → Int} {B m' g : Nat} {l : List UInt8} (h : EngG w e m t rv rd wr) (hm : MemG w B m' g l) : e ≠ g ∧ e ≠ m' := by
  obtain ⟨cs, h0, _⟩ := h
  exact ⟨h0.differ hm.2.2.2 (by decide), h0.differ hm.2.2.1 (by decide)⟩
/-- A write to a block that is new keeps what was there. -/
theorem Keeps.trans2 {S : Nat → Prop} {a b c : World} (h : Keeps S a b) (k : b.grownBy c (some a.heap.size)) : Keeps S a c :=
  ⟨k.os.trans h.1, k.tape.trans h.2.1, k.output.trans h.2.2.1, Nat.le_trans h.2.2.2.1 k.size, fun i hi hs => (k.block i (Nat.lt_of_lt_of_le hi h.2.2.2.1) (fun e => by injection e with e; omega)).trans (h.2.2.2.2 i hi hs)⟩
/-- What is no map's block. -/
theorem MapR.apart {w : World} {b : Nat} {L : List Reg} (h : MapR w b L) {i : Nat} {t : TypeId} {cs : Array Value} (hi : Blk w i t cs) : b ≠ i := by
  rintro rfl
  obtain ⟨D, ⟨es, clock, h1, _⟩, _⟩ := h
  have h2 : w.heap[b]? = some (.cells cs t (0, 0)) := hi
  rw [h1] at h2
  cases h2
theorem MapR.off {w : World} {b : Nat} {L : List Reg} (h : MapR w b L) {B n : Nat} {v : Value} {rc : Nat → Rec} (hr : RecV w B v n rc) : v.ownBlock ≠ some b := by
  intro e
  have h' : w.ownsRow B 45 6 v n (rcCells n rc) := hr
  rcases h'.2 with ⟨rfl, _⟩ | ⟨g', cap, cur, rfl, _, hh, _⟩
  · simp [Value.ownBlock] at e
  · have e1 : g' = b := by simpa [Value.ownBlock] using e
    subst e1
    exact h.apart (show Blk w g' 45 cur from hh) rfl
/-- A table stays where the engine, the bytes, the records or a burst's own blocks are written. -/
theorem TabV.stays {w w' : World} {B t : Nat} {L : List Reg} {row : Option Nat} (h : TabV w B t L) (hb : w.grownBy w' row) (hr : ∀ k, row = some k → (∃ ty cs, Blk w k ty cs ∧ ty ≠ 74) ) : TabV w' B t L := by
  obtain ⟨b, h⟩ := h
  refine ⟨b, h.only hb (fun e => ?_) (fun e => ?_)⟩
  · obtain ⟨ty, cs, h1, h2⟩ := hr t e.symm
    exact h.2.2.1.differ h1 (fun e => h2 e.symm) rfl
  · obtain ⟨ty, cs, h1, h2⟩ := hr b e.symm
    exact h.2.2.2.apart h1 rfl
/-- What a refused burst leaves. -/
def RefV (B e m g t : Nat) (L : List Reg) (l : List UInt8) (rv : Value) (n : Nat) (rc : Nat → Rec) (rd wr : Nat → Int) (w w' : World) : Prop :=
  ∃ rv', StG w' B e m g t L l rv' n rc rd wr ∧ (rv'.ownBlock = rv.ownBlock ∨ ∃ k, rv'.ownBlock = some k ∧ w.heap.size ≤ k) ∧ Keeps (Burst e g rv) w w'

theorem RecV.has {w : World} {B n : Nat} {v : Value} {rc : Nat → Rec} (h : RecV w B v n rc) {k : Nat} (hk : v.ownBlock = some k) : ∃ cur, Blk w k 45 cur := by
  have h' : w.ownsRow B 45 6 v n (rcCells n rc) := h
  rcases h'.2 with ⟨rfl, _⟩ | ⟨g', cap, cur, rfl, _, hh, _⟩
  · simp [Value.ownBlock] at hk
  · have e1 : g' = k := by simpa [Value.ownBlock] using hk
    subst e1
    exact ⟨cur, hh⟩
/-- The end of a refused burst. -/
theorem ref_fin {w w2 w3 : World} {B e m g t : Nat} {L : List Reg} {l : List UInt8} {rv : Value} {n : Nat} {rc : Nat → Rec} {rd wr : Nat → Int} {r : Rec} {g' cap' : Nat} (hBe : B ≤ e) (E2 : EngG w2 e m t rv rd wr) (M2 : MemG w2 B m g l) (T2 : TabV w2 B t L) (R2 : RecV w2 B rv n rc) (K2 : Keeps (Burst e g rv) w w2)
    (G3 : w2.grownBy w3 rv.ownBlock) (E3 : EngG w3 e m t rv rd wr) (OWN : w3.ownsRow B 45 6 (.slice (some ⟨g', 0, none⟩) (n + 1) cap') (n + 1) (rcCells n rc ++ recCells r)) (AT : rv.ownBlock = some g' ∨ w.heap.size ≤ g') :
    RefV B e m g t L l rv (n + 1) (updC rc n r) rd wr w (w3.setCell ⟨e, 2, none⟩ (.slice (some ⟨g', 0, none⟩) (n + 1) cap')) := by
  have hs : w3.grownBy (w3.setCell ⟨e, 2, none⟩ (.slice (some ⟨g', 0, none⟩) (n + 1) cap')) (some e) := only_put (only_refl _ _) _ _
  have R3 : RecV w3 B (.slice (some ⟨g', 0, none⟩) (n + 1) cap') (n + 1) (updC rc n r) := by
    show w3.ownsRow _ _ _ _ _ _
    rw [← rcCells_upd]
    exact OWN
  have hmg := MemG.eng E2 M2
  have M3 : MemG w3 B m g l := ⟨M2.1, M2.2.1, M2.2.2.1.only G3 (fun h => (M2.apart R2).2 h.symm), M2.2.2.2.only G3 (fun h => (M2.apart R2).1 h.symm)⟩
  have T3 : TabV w3 B t L := T2.stays G3 (fun k hk => by obtain ⟨cur, hc⟩ := R2.has hk; exact ⟨_, _, hc, by decide⟩)
  refine ⟨_, ⟨hBe, E3.setRecs _, M3.far hs (fun h => hmg.1 h.symm) (fun h => hmg.2 h.symm), T3.stays hs (fun k hk => by injection hk with hk; subst hk; obtain ⟨cs, h0, _⟩ := E3; exact ⟨_, _, h0, by decide⟩), R3.only hs (.inr (E3.apart R3))⟩, ?_, ?_⟩
  · rcases AT with h | h
    · exact .inl (by rw [h]; rfl)
    · exact .inr ⟨g', rfl, h⟩
  · refine K2.trans ⟨hs.os.trans G3.os, hs.tape.trans G3.tape, hs.output.trans G3.output, Nat.le_trans G3.size hs.size, fun i hi hn => ?_⟩
    rw [hs.block i (Nat.lt_of_lt_of_le hi G3.size) (fun h => hn (.inl (by injection h)))]
    exact G3.block i hi (fun h => hn (.inr (.inr h.symm)))

theorem movew_bad (w : World) (B e m g t be bs : Nat) (L : List Reg) (rv : Value) (n : Nat) (rc : Nat → Rec) (rd wr : Nat → Int) (l : List UInt8) (tick o a x : Int) (s : ByteArray) (hst : StG w B e m g t L l rv n rc rd wr) (hbe : w.cell? ⟨be, 0, none⟩ = some (.pointer (some ⟨e, 0, none⟩))) (hbs : w.cell? ⟨bs, 0, none⟩ = some (.string s)) (hm : AllMay L) (ho : fitI o) (ha : fitI a) (hl : l.length ≤ 16384) (hs : s.size ≤ 1000000) (hB : B ≤ w.heap.size) (hn : n ≤ 1000) {c : Int} (hc : (askV L l.length o a s.size).2 = c) (hc0 : c ≠ 0) :
    Calls Try.prog 34 #[.pointer (some ⟨e, 0, none⟩), .agg #[.int .i64 tick, .int .i64 o, .int .i64 a, .int .i64 s.size, .bool true, .int .i64 x], .func (.func 35) #[] #[.pointer (some ⟨be, 0, none⟩), .pointer (some ⟨bs, 0, none⟩)]] w fun r w' => r = .returned (.int .i64 c) ∧ RefV B e m g t L l rv (n + 1) (updC rc n (tick, o, a, s.size, true, c)) rd wr w w' := by
  have htry := fun W (hW : Below w.heap.size w W) => tryw_any W B e m g t be bs L rv n rc rd wr l tick o a x s ⟨hst.1, hst.2.1.below hW, hst.2.2.1.below hW, hst.2.2.2.1.below hW, hst.2.2.2.2.grown (only_far hW)⟩ ((hW.cell (p := ⟨be, 0, none⟩) (World.block_lt_of_cell? _ _ hbe)).trans hbe) ((hW.cell (p := ⟨bs, 0, none⟩) (World.block_lt_of_cell? _ _ hbs)).trans hbs) hm ho ha hl hs
  have hw : wrL L l o a s = l := by unfold wrL; rw [hc, if_neg hc0]
  simp only [hc, hw] at htry
  have HTRY := Lib.hid htry
  have HST := Lib.hid hst
  have hcb : (c != 0) = true := by simpa using hc0
  have HB0 := Lib.hid ((Below.refl w.heap.size w).alloc (Nat.le_refl _) (.cells #[.int .i64 tick, .int .i64 o, .int .i64 a, .int .i64 s.size, .bool true, .int .i64 x] 45))
  clear htry hst hbe hbs hw hc
  go_enter Try.func34, Try.ntmps34
  go_wp2_with (go_at_call 47; refine (HTRY.out _ HB0.out).mono ?_; rintro r w1 ⟨rfl, hM1, hg1⟩; have M1 := Lib.hid hM1; have G1 := Lib.hid (only_trans (only_alloc (only_refl w (some g)) _) hg1); have X1 := Lib.hid ((Blk.new w 45 #[.int .i64 tick, .int .i64 o, .int .i64 a, .int .i64 s.size, .bool true, .int .i64 x]).only hg1 (by have := HST.out.2.2.1.lt.1; intro h; injection h with h; omega)); have x0 := X1.out.cell 0; have x1 := X1.out.cell 1; have x2 := X1.out.cell 2; have x3 := X1.out.cell 3; have x4 := X1.out.cell 4; have x5 := X1.out.cell 5; have y5 := X1.out.free 5; simp at x0 x1 x2 x3 x4 x5; clear hM1 hg1)
  obtain ⟨hBe, hE0, hM0, hT0, hR0⟩ := HST.out
  have hg0 := hM0.lt.1
  -- the world behind the error's store
  have hE1 := hE0.only G1.out (fun h => (MemG.eng hE0 hM0).1 (by injection h))
  have hR1 := hR0.only G1.out (.inr (hM0.apart hR0).1)
  have hT1 := hT0.stays G1.out (fun k hk => by injection hk with hk; subst hk; exact ⟨_, _, hM0.2.2.2, by decide⟩)
  obtain ⟨w2, hw2⟩ : ∃ w2, w2 = w1.setCell ⟨w.heap.size, 5, none⟩ (.int .i64 c) := ⟨_, rfl⟩
  have hg2 : w1.grownBy w2 (some w.heap.size) := by rw [hw2]; exact only_put (only_refl _ _) _ _
  have hX2 : Blk w2 w.heap.size 45 #[.int .i64 tick, .int .i64 o, .int .i64 a, .int .i64 s.size, .bool true, .int .i64 c] := by rw [hw2]; exact X1.out.put 5 _
  have hlt1 : ∀ {k : Nat}, k < w.heap.size → (some k : Option Nat) ≠ some w.heap.size := fun hk h => by injection h with h; omega
  have hE2 : EngG w2 e m t rv rd wr := hE1.only hg2 (hlt1 hE0.lt)
  have hR2 : RecV w2 B rv n rc := hR1.only hg2 (.inr (fun h => by have := (hR0.blk _ h).2; omega))
  have hM2 : MemG w2 B m g l := M1.out.far hg2 (Nat.ne_of_lt hg0) (Nat.ne_of_lt hM0.lt.2)
  have hT2 : TabV w2 B t L := by
    obtain ⟨b, hTb⟩ := hT0
    have htb : t < w.heap.size := hTb.2.2.1.lt
    have hbb : b < w.heap.size := hTb.2.2.2.lt
    have h1 : TabG w1 B t b L := hTb.only G1.out (fun h => hTb.2.2.1.differ hM0.2.2.2 (by decide) (by injection h)) (fun h => hTb.2.2.2.apart hM0.2.2.2 (by injection h))
    exact ⟨b, h1.only hg2 (hlt1 htb) (hlt1 hbb)⟩
  rw [← hw2]
  have hk2 : Keeps (Burst e g rv) w w2 := (Keeps.of_only G1.out (fun k hk => by injection hk with hk; subst hk; exact .inr (.inl rfl))).trans2 hg2
  have c2 := hE2.recs
  have f2 := hE2.free 2
  have HE2 := Lib.hid hE2
  have HR2 := Lib.hid hR2
  have HM2 := Lib.hid hM2
  have HT2 := Lib.hid hT2
  have HX2 := Lib.hid hX2
  have HK2 := Lib.hid hk2
  have HBW : Hid (B ≤ w2.heap.size) := Nat.le_trans hB (hk2.2.2.2.1)
  have z0 : w2.cell? ⟨w.heap.size, 0, none⟩ = some (.int .i64 tick) := hX2.cell 0
  have z1 : w2.cell? ⟨w.heap.size, 1, none⟩ = some (.int .i64 o) := hX2.cell 1
  have z2 : w2.cell? ⟨w.heap.size, 2, none⟩ = some (.int .i64 a) := hX2.cell 2
  have z3 : w2.cell? ⟨w.heap.size, 3, none⟩ = some (.int .i64 s.size) := hX2.cell 3
  have z4 : w2.cell? ⟨w.heap.size, 4, none⟩ = some (.bool true) := hX2.cell 4
  have z5 : w2.cell? ⟨w.heap.size, 5, none⟩ = some (.int .i64 c) := hX2.cell 5
  have c2' : (w2.alloc (.cells #[.int .i64 tick, .int .i64 o, .int .i64 a, .int .i64 s.size, .bool true, .int .i64 c] 45)).cell? ⟨e, 2, none⟩ = some rv := (hE2.only (only_alloc (only_refl _ none) _) (by simp)).recs
  have HOB := Lib.hid (fun k (h : rv.ownBlock = some k) => (hR0.blk k h).2)
  have HBE := Lib.hid hBe
  have HLW := Lib.hid hk2.2.2.2.1
  clear hE2 hR2 hM2 hT2 hX2 hk2 hg2 hlt1 hw2 hE1 hR1 hT1 hE0 hM0 hT0 hR0 hBe hg0 x0 x1 x2 x3 x4 x5 y5 M1 G1 X1 HTRY HB0
  obtain ⟨i0, hi0, hz0, hz1, hz2⟩ := info_parts rec_info
  obtain ⟨Av, cv, rfl⟩ := HR2.out.form
  have hnews : ∀ j u, (recCells (tick, o, a, s.size, true, c))[j]? = some u → (w2.alloc (.cells #[.int .i64 tick, .int .i64 o, .int .i64 a, .int .i64 s.size, .bool true, .int .i64 c] 45)).drew.cell? ((⟨w2.heap.size, 0, none⟩ : Addr).add j) = some u :=
    World.news_of_block (cs := #[.int .i64 tick, .int .i64 o, .int .i64 a, .int .i64 s.size, .bool true, .int .i64 c]) (show (w2.alloc (.cells #[.int .i64 tick, .int .i64 o, .int .i64 a, .int .i64 s.size, .bool true, .int .i64 c] 45)).drew.heap[w2.heap.size]? = some (.cells #[.int .i64 tick, .int .i64 o, .int .i64 a, .int .i64 s.size, .bool true, .int .i64 c] 45 (0, 0)) from Blk.new w2 _ _)
  have HNEWS := Lib.hid hnews
  have hap : ∀ w3, (w2.alloc (.cells #[.int .i64 tick, .int .i64 o, .int .i64 a, .int .i64 s.size, .bool true, .int .i64 c] 45)).drew.grownBy w3 (Value.slice Av n cv).ownBlock → EngG w3 e m t (.slice Av n cv) rd wr ∧ w2.grownBy w3 (Value.slice Av n cv).ownBlock := fun w3 h => by
    have h1 : w2.grownBy w3 (Value.slice Av n cv).ownBlock := only_trans (show w2.grownBy (w2.alloc (.cells #[.int .i64 tick, .int .i64 o, .int .i64 a, .int .i64 s.size, .bool true, .int .i64 c] 45)).drew _ from only_drewN (only_alloc (only_refl _ _) _) 1) h
    exact ⟨HE2.out.only h1 (fun e1 => HE2.out.apart HR2.out e1.symm), h1⟩
  have HAP := Lib.hid hap
  clear hnews hap
  go_region_law (refine step_append_lies _ rfl (.tmp 21) (.tmp 23) 42 rfl B 45 i0 _ 6 48 Try.underlying42 hi0 hz0 hz1 hz2 rfl (by decide) (.slice Av n cv) n (rcCells n rc) (by simp [Act.eval, Act.put]) (World.ownsRow.alloc (w := w2.drew) HR2.out _) ⟨w2.heap.size, 0, none⟩ 1 1 (recCells (tick, o, a, s.size, true, c)) (by simp [Act.eval, Act.put]) rfl HNEWS.out (recCells_cell _) (by omega) (by unfold maxLen; omega) (by omega) (by have := HBW.out; simp; omega) _ rfl ?_; intro g' cap' w3 hown3 hg3 hat3 hlt3; have E3 := Lib.hid (HAP.out _ hg3).1; have G3 := Lib.hid (HAP.out _ hg3).2; have s0 := E3.out.recs; have s1 := E3.out.free 2; have OWN3 := Lib.hid hown3; have AT3 := Lib.hid hat3; clear hown3 hg3 hat3)
  all_goals
    have FIN := Lib.hid (ref_fin (r := (tick, o, a, (s.size : Int), true, c)) HBE.out HE2.out HM2.out HT2.out HR2.out HK2.out G3.out E3.out OWN3.out (AT3.out.elim (fun h => .inl h) (fun h => .inr (by rw [h]; have := HLW.out; simp; omega))))
    have X4 := Lib.hid ((HX2.out.only G3.out (fun h => by have := HOB.out _ h.symm; omega)).far (p := ⟨e, 2, none⟩) (fun h => by have := HE2.out; obtain ⟨cs, h0, _⟩ := this; exact HX2.out.differ h0 (by decide) h) (.slice (some ⟨g', 0, none⟩) (n + 1) cap'))
    have z6 := X4.out.cell 5
    simp at z6
    generalize w3.setCell ⟨e, 2, none⟩ (.slice (some ⟨g', 0, none⟩) (n + 1) cap') = w4 at FIN X4 z6 ⊢
    clear z0 z1 z2 z3 z4 z5 c2 c2' f2 s0 s1
    go_wp2
    go_ret
    exact ⟨rfl, FIN.out⟩
end Go.Proofs.Ythlapnljinkekab

/- A burst that writes and is done: move; Write: their contracts. -/
namespace Go.Proofs.Ythlapnljinkekab
open Go.RowKit Go.Lib Go.Sort
set_option linter.unusedVariables false

theorem askV_ok {L : List Reg} {len : Nat} {o a n : Int} (hm : AllMay L) (h : (askV L len o a n).2 = 0) : n ≤ 32 ∧ 0 ≤ n ∧ 1 ≤ o ∧ o ≤ 8 ∧ mapV L o a n = ((askV L len o a n).1, 0) ∧ 128 ≤ (askV L len o a n).1 ∧ (askV L len o a n).1 + n ≤ len := by
  unfold askV at h ⊢
  by_cases h1 : 32 < n
  · rw [if_pos h1] at h; simp at h
  · rw [if_neg h1] at h ⊢
    by_cases h2 : (mapV L o a n).2 = 0
    · rw [if_pos h2] at h ⊢
      cases h3 : thereB len (mapV L o a n).1 n with
      | false => rw [h3] at h; simp at h
      | true =>
        rw [if_pos rfl]
        have h4 : mapV L o a n = ((mapV L o a n).1, 0) := by rw [← h2]
        have h5 := mapV_nn hm h4
        have h6 := there_fit h3
        refine ⟨by omega, h5.2, ?_, ?_, h4, h5.1, h6.2⟩
        all_goals
          cases hl : lookL L o with
          | none => unfold mapV at h2; rw [hl] at h2; simp at h2
          | some r =>
            have hmy := mayB_iff.1 (hm.look hl)
            have := (lookL_some hl).2
            omega
    · rw [if_neg h2] at h
      exact absurd h h2

/-- What a burst that was done leaves. -/
def DoneV (B e m g t : Nat) (L : List Reg) (l : List UInt8) (rv : Value) (n : Nat) (rc : Nat → Rec) (rd wr : Nat → Int) (w w' : World) : Prop := StG w' B e m g t L l rv n rc rd wr ∧ Keeps (Burst e g rv) w w'
theorem done_fin {w w2 : World} {B e m g t : Nat} {L : List Reg} {l : List UInt8} {rv : Value} {n : Nat} {rc : Nat → Rec} {rd wr rd' wr' : Nat → Int} {i : Nat} {u : Value} (hBe : B ≤ e) (E2 : EngG w2 e m t rv rd wr) (M2 : MemG w2 B m g l) (T2 : TabV w2 B t L) (R2 : RecV w2 B rv n rc) (K2 : Keeps (Burst e g rv) w w2)
    (E3 : EngG (w2.setCell ⟨e, i, none⟩ u) e m t rv rd' wr') : DoneV B e m g t L l rv n rc rd' wr' w (w2.setCell ⟨e, i, none⟩ u) := by
  have hs : w2.grownBy (w2.setCell ⟨e, i, none⟩ u) (some e) := only_put (only_refl _ _) _ _
  have hmg := MemG.eng E2 M2
  refine ⟨⟨hBe, E3, M2.far hs (fun h => hmg.1 h.symm) (fun h => hmg.2 h.symm), T2.stays hs (fun k hk => by injection hk with hk; subst hk; obtain ⟨cs, h0, _⟩ := E2; exact ⟨_, _, h0, by decide⟩), R2.only hs (.inr (E2.apart R2))⟩, ?_⟩
  exact K2.trans (Keeps.of_only hs (fun k hk => by injection hk with hk; exact .inl hk.symm))
theorem DoneV.drew {w w' : World} {B e m g t : Nat} {L : List Reg} {l : List UInt8} {rv : Value} {n : Nat} {rc : Nat → Rec} {rd wr : Nat → Int} (h : DoneV B e m g t L l rv n rc rd wr w w') (q : Nat) : DoneV B e m g t L l rv n rc rd wr w (w'.drewN q) := by
  obtain ⟨⟨h1, h2, h3, h4, h5⟩, h6⟩ := h
  exact ⟨⟨h1, h2.only (only_drewN (only_refl _ none) q) (by simp), h3.drewN q, h4.stays (only_drewN (only_refl _ none) q) (by simp), h5.grown (only_drewN (only_refl _ none) q)⟩, h6.trans (Keeps.of_only (only_drewN (only_refl _ none) q) (by simp))⟩

theorem movew_ok (w : World) (B e m g t be bs : Nat) (L : List Reg) (rv : Value) (n : Nat) (rc : Nat → Rec) (rd wr : Nat → Int) (l : List UInt8) (tick o a x : Int) (s : ByteArray) (hst : StG w B e m g t L l rv n rc rd wr) (hbe : w.cell? ⟨be, 0, none⟩ = some (.pointer (some ⟨e, 0, none⟩))) (hbs : w.cell? ⟨bs, 0, none⟩ = some (.string s)) (hm : AllMay L) (ho : fitI o) (ha : fitI a) (hl : l.length ≤ 16384) (hs : s.size ≤ 1000000) (hB : B ≤ w.heap.size) (hn : n ≤ 1000) (hc : (askV L l.length o a s.size).2 = 0) (hwr : ∀ k, k < 9 → 0 ≤ wr k ∧ wr k ≤ 1000000) :
    Calls Try.prog 34 #[.pointer (some ⟨e, 0, none⟩), .agg #[.int .i64 tick, .int .i64 o, .int .i64 a, .int .i64 s.size, .bool true, .int .i64 x], .func (.func 35) #[] #[.pointer (some ⟨be, 0, none⟩), .pointer (some ⟨bs, 0, none⟩)]] w fun r w' => r = .returned (.int .i64 0) ∧ DoneV B e m g t L (wrL L l o a s) rv n rc rd (updI wr o.toNat (wr o.toNat + s.size)) w w' := by
  have htry := fun W (hW : Below w.heap.size w W) => tryw_any W B e m g t be bs L rv n rc rd wr l tick o a x s ⟨hst.1, hst.2.1.below hW, hst.2.2.1.below hW, hst.2.2.2.1.below hW, hst.2.2.2.2.grown (only_far hW)⟩ ((hW.cell (p := ⟨be, 0, none⟩) (World.block_lt_of_cell? _ _ hbe)).trans hbe) ((hW.cell (p := ⟨bs, 0, none⟩) (World.block_lt_of_cell? _ _ hbs)).trans hbs) hm ho ha hl hs
  simp only [hc] at htry
  obtain ⟨q1, q2, q3, q4, _⟩ := askV_ok hm hc
  obtain ⟨k, hk⟩ : ∃ k : Nat, o = k := ⟨o.toNat, by omega⟩
  subst hk
  have hk9 : k < 9 := by omega
  have hwk := hwr k hk9
  rw [Int.toNat_natCast]
  obtain ⟨l', hl'⟩ : ∃ l', l' = wrL L l (k : Int) a s := ⟨_, rfl⟩
  rw [← hl'] at htry ⊢
  have HTRY := Lib.hid htry
  have HST := Lib.hid hst
  have HB0 := Lib.hid ((Below.refl w.heap.size w).alloc (Nat.le_refl _) (.cells #[.int .i64 tick, .int .i64 (k : Int), .int .i64 a, .int .i64 s.size, .bool true, .int .i64 x] 45))
  clear htry hst hbe hbs hc hwr hl' ho
  go_enter Try.func34, Try.ntmps34
  go_wp2_with (go_at_call 47; refine (HTRY.out _ HB0.out).mono ?_; rintro r w1 ⟨rfl, hM1, hg1⟩; have M1 := Lib.hid hM1; have G1 := Lib.hid (only_trans (only_alloc (only_refl w (some g)) _) hg1); have X1 := Lib.hid ((Blk.new w 45 #[.int .i64 tick, .int .i64 (k : Int), .int .i64 a, .int .i64 s.size, .bool true, .int .i64 x]).only hg1 (by have := HST.out.2.2.1.lt.1; intro h; injection h with h; omega)); have x0 := X1.out.cell 0; have x1 := X1.out.cell 1; have x2 := X1.out.cell 2; have x3 := X1.out.cell 3; have x4 := X1.out.cell 4; have x5 := X1.out.cell 5; have y5 := X1.out.free 5; simp at x0 x1 x2 x3 x4 x5; clear hM1 hg1)
  obtain ⟨hBe, hE0, hM0, hT0, hR0⟩ := HST.out
  have hg0 := hM0.lt.1
  -- the world behind the error's store
  have hE1 := hE0.only G1.out (fun h => (MemG.eng hE0 hM0).1 (by injection h))
  have hR1 := hR0.only G1.out (.inr (hM0.apart hR0).1)
  have hT1 := hT0.stays G1.out (fun k hk => by injection hk with hk; subst hk; exact ⟨_, _, hM0.2.2.2, by decide⟩)
  obtain ⟨w2, hw2⟩ : ∃ w2, w2 = w1.setCell ⟨w.heap.size, 5, none⟩ (.int .i64 0) := ⟨_, rfl⟩
  have hg2 : w1.grownBy w2 (some w.heap.size) := by rw [hw2]; exact only_put (only_refl _ _) _ _
  have hX2 : Blk w2 w.heap.size 45 #[.int .i64 tick, .int .i64 (k : Int), .int .i64 a, .int .i64 s.size, .bool true, .int .i64 0] := by rw [hw2]; exact X1.out.put 5 _
  have hlt1 : ∀ {k : Nat}, k < w.heap.size → (some k : Option Nat) ≠ some w.heap.size := fun hk h => by injection h with h; omega
  have hE2 : EngG w2 e m t rv rd wr := hE1.only hg2 (hlt1 hE0.lt)
  have hR2 : RecV w2 B rv n rc := hR1.only hg2 (.inr (fun h => by have := (hR0.blk _ h).2; omega))
  have hM2 : MemG w2 B m g l' := M1.out.far hg2 (Nat.ne_of_lt hg0) (Nat.ne_of_lt hM0.lt.2)
  have hT2 : TabV w2 B t L := by
    obtain ⟨b, hTb⟩ := hT0
    have htb : t < w.heap.size := hTb.2.2.1.lt
    have hbb : b < w.heap.size := hTb.2.2.2.lt
    have h1 : TabG w1 B t b L := hTb.only G1.out (fun h => hTb.2.2.1.differ hM0.2.2.2 (by decide) (by injection h)) (fun h => hTb.2.2.2.apart hM0.2.2.2 (by injection h))
    exact ⟨b, h1.only hg2 (hlt1 htb) (hlt1 hbb)⟩
  rw [← hw2]
  have hk2 : Keeps (Burst e g rv) w w2 := (Keeps.of_only G1.out (fun k hk => by injection hk with hk; subst hk; exact .inr (.inl rfl))).trans2 hg2
  have c2 := hE2.wrs hk9
  have f2 := hE2.free (12 + k)
  have hE3 := hE2.setWr hk9 (wr k + (s.size : Int))
  have hfin := done_fin hBe hE2 hM2 hT2 hR2 hk2 hE3
  have HFIN := Lib.hid hfin
  have z1 : w2.cell? ⟨w.heap.size, 1, none⟩ = some (.int .i64 (k : Int)) := hX2.cell 1
  have z3 : w2.cell? ⟨w.heap.size, 3, none⟩ = some (.int .i64 s.size) := hX2.cell 3
  clear hE2 hR2 hM2 hT2 hX2 hk2 hg2 hlt1 hw2 hE1 hR1 hT1 hE0 hM0 hT0 hR0 hBe hg0 x0 x1 x2 x3 x4 x5 y5 M1 G1 X1 HTRY HB0 hE3 hfin HST
  have i1 : (k : Int) < 9 := by omega
  have i2 : (0 : Int) ≤ (k : Int) := by omega
  have i3 : IntKind.i64.wrap (wr k + (s.size : Int)) = wr k + (s.size : Int) := by rw [IntKind.wrap_i64]; omega
  go_region
  all_goals
    have FIN := Lib.hid (HFIN.out.drew 1)
    go_wp2
    go_ret
    exact ⟨rfl, FIN.out⟩

/-- What Write leaves and answers. -/
def WriteV (B e m g t : Nat) (L : List Reg) (l : List UInt8) (rv : Value) (n : Nat) (rc : Nat → Rec) (rd wr : Nat → Int) (tick o a : Int) (s : ByteArray) (w : World) (r : Ending) (w' : World) : Prop :=
  r = .returned (.int .i64 (askV L l.length o a s.size).2) ∧ (((askV L l.length o a s.size).2 ≠ 0 ∧ RefV B e m g t L l rv (n + 1) (updC rc n (tick, o, a, s.size, true, (askV L l.length o a s.size).2)) rd wr w w') ∨ ((askV L l.length o a s.size).2 = 0 ∧ DoneV B e m g t L (wrL L l o a s) rv n rc rd (updI wr o.toNat (wr o.toNat + s.size)) w w'))
theorem movew_any (w : World) (B e m g t be bs : Nat) (L : List Reg) (rv : Value) (n : Nat) (rc : Nat → Rec) (rd wr : Nat → Int) (l : List UInt8) (tick o a x : Int) (s : ByteArray) (hst : StG w B e m g t L l rv n rc rd wr) (hbe : w.cell? ⟨be, 0, none⟩ = some (.pointer (some ⟨e, 0, none⟩))) (hbs : w.cell? ⟨bs, 0, none⟩ = some (.string s)) (hm : AllMay L) (ho : fitI o) (ha : fitI a) (hl : l.length ≤ 16384) (hs : s.size ≤ 1000000) (hB : B ≤ w.heap.size) (hn : n ≤ 1000) (hwr : ∀ k, k < 9 → 0 ≤ wr k ∧ wr k ≤ 1000000) :
    Calls Try.prog 34 #[.pointer (some ⟨e, 0, none⟩), .agg #[.int .i64 tick, .int .i64 o, .int .i64 a, .int .i64 s.size, .bool true, .int .i64 x], .func (.func 35) #[] #[.pointer (some ⟨be, 0, none⟩), .pointer (some ⟨bs, 0, none⟩)]] w (WriteV B e m g t L l rv n rc rd wr tick o a s w) := by
  by_cases hc : (askV L l.length o a s.size).2 = 0
  · exact (movew_ok w B e m g t be bs L rv n rc rd wr l tick o a x s hst hbe hbs hm ho ha hl hs hB hn hc hwr).mono fun r w' ⟨h1, h2⟩ => ⟨by rw [h1, hc], .inr ⟨hc, h2⟩⟩
  · exact (movew_bad w B e m g t be bs L rv n rc rd wr l tick o a x s hst hbe hbs hm ho ha hl hs hB hn rfl hc).mono fun r w' ⟨h1, h2⟩ => ⟨h1, .inl ⟨hc, h2⟩⟩
theorem StG.below {w w' : World} {B e m g t : Nat} {L : List Reg} {l : List UInt8} {rv : Value} {n : Nat} {rc : Nat → Rec} {rd wr : Nat → Int} (h : StG w B e m g t L l rv n rc rd wr) (hb : Below w.heap.size w w') : StG w' B e m g t L l rv n rc rd wr :=
  ⟨h.1, h.2.1.below hb, h.2.2.1.below hb, h.2.2.2.1.below hb, h.2.2.2.2.grown (only_far hb)⟩
theorem WriteV.from {w0 w w' : World} {B e m g t : Nat} {L : List Reg} {l : List UInt8} {rv : Value} {n : Nat} {rc : Nat → Rec} {rd wr : Nat → Int} {tick o a : Int} {s : ByteArray} {r : Ending} (h : WriteV B e m g t L l rv n rc rd wr tick o a s w r w') (hb : Below w0.heap.size w0 w) : WriteV B e m g t L l rv n rc rd wr tick o a s w0 r w' := by
  obtain ⟨h1, h2⟩ := h
  refine ⟨h1, h2.imp (fun ⟨q, rv', q1, q2, q3⟩ => ⟨q, rv', q1, q2.imp id (fun ⟨k, hk, hk2⟩ => ⟨k, hk, Nat.le_trans hb.size hk2⟩), (Keeps.of_below hb _).trans q3⟩) (fun ⟨q, q1, q2⟩ => ⟨q, q1, (Keeps.of_below hb _).trans q2⟩)⟩

theorem ewrite_any (w : World) (B e m g t : Nat) (L : List Reg) (rv : Value) (n : Nat) (rc : Nat → Rec) (rd wr : Nat → Int) (l : List UInt8) (tick o a : Int) (s : ByteArray) (hst : StG w B e m g t L l rv n rc rd wr) (hm : AllMay L) (ho : fitI o) (ha : fitI a) (hl : l.length ≤ 16384) (hs : s.size ≤ 1000000) (hB : B ≤ w.heap.size) (hn : n ≤ 1000) (hwr : ∀ k, k < 9 → 0 ≤ wr k ∧ wr k ≤ 1000000) :
    Calls Try.prog 20 #[.pointer (some ⟨e, 0, none⟩), .int .i64 tick, .int .i64 o, .int .i64 a, .string s] w (WriteV B e m g t L l rv n rc rd wr tick o a s w) := by
  have hmv := fun W be bs (hW : Below w.heap.size w W) (h1 : W.cell? ⟨be, 0, none⟩ = some (.pointer (some ⟨e, 0, none⟩))) (h2 : W.cell? ⟨bs, 0, none⟩ = some (.string s)) => (movew_any W B e m g t be bs L rv n rc rd wr l tick o a 0 s (hst.below hW) h1 h2 hm ho ha hl hs (Nat.le_trans hB hW.size) hn hwr).mono fun r w' h => h.from hW
  have HMV := Lib.hid hmv
  have hW : Below w.heap.size w ((w.alloc (.cells #[.pointer (some ⟨e, 0, none⟩)] 33)).alloc (.cells #[.string s] 9)) := ((Below.refl _ _).alloc (Nat.le_refl _) _).alloc (by simp) _
  have hc1 : ((w.alloc (.cells #[.pointer (some ⟨e, 0, none⟩)] 33)).alloc (.cells #[.string s] 9)).cell? ⟨w.heap.size, 0, none⟩ = some (.pointer (some ⟨e, 0, none⟩)) := ((Blk.new w 33 #[.pointer (some ⟨e, 0, none⟩)]).alloc _).cell 0
  have hc2 : ((w.alloc (.cells #[.pointer (some ⟨e, 0, none⟩)] 33)).alloc (.cells #[.string s] 9)).cell? ⟨w.heap.size + 1, 0, none⟩ = some (.string s) := by
    have := (Blk.new (w.alloc (.cells #[.pointer (some ⟨e, 0, none⟩)] 33)) 9 #[.string s]).cell 0
    simpa using this
  have HM2 := Lib.hid (HMV.out _ _ _ hW hc1 hc2)
  clear hmv hst hwr hc1 hc2 hW
  go_enter Try.func20, Try.ntmps20
  go_wp2_with (go_at_call 34; refine HM2.out.mono ?_; rintro r w1 hV; obtain ⟨rfl, hV2⟩ := hV; have HV := Lib.hid hV2; clear hV2)
  go_ret
  exact ⟨rfl, HV.out⟩
end Go.Proofs.Ythlapnljinkekab

/- A burst that reads: the closure, try: their contracts. -/
namespace Go.Proofs.Ythlapnljinkekab
open Go.RowKit Go.Lib Go.Sort
set_option linter.unusedVariables false

/-- What a read leaves: the string x in block bs, c is told. -/
def GetV (bs : Nat) (x : ByteArray) (c : Int) (w : World) (e : Ending) (w' : World) : Prop := e = .returned (.int .i64 c) ∧ Blk w' bs 9 #[.string x] ∧ w.grownBy w' (some bs)
def getS (l : List UInt8) (at' q : Int) : ByteArray := if chk l.length at' q = 0 then ⟨((l.drop at'.toNat).take q.toNat).toArray⟩ else .empty
/-- What a burst reads. -/
def rdS (L : List Reg) (l : List UInt8) (o a q : Int) : ByteArray := if (askV L l.length o a q).2 = 0 then ⟨((l.drop (askV L l.length o a q).1.toNat).take q.toNat).toArray⟩ else .empty
theorem askV_at' {L : List Reg} {len : Nat} {o a q : Int} {y : Int} (hm : AllMay L) (h : mapV L o a q = (y, 0)) (hn : ¬ (32 : Int) < q) : askV L len o a q = if chk len y q = 0 then (y, 0) else (0, chk len y q) := by
  have hy := mapV_nn hm h
  obtain ⟨n, rfl⟩ : ∃ n : Nat, q = n := ⟨q.toNat, by omega⟩
  exact askV_at hm h hn

set_option maxRecDepth 100000 in
theorem r1_any (w : World) (B e m g t be bn bs : Nat) (rv : Value) (rd wr : Nat → Int) (l : List UInt8) (at' q : Int) (hE : EngG w e m t rv rd wr) (hM : MemG w B m g l) (hbe : w.cell? ⟨be, 0, none⟩ = some (.pointer (some ⟨e, 0, none⟩))) (hbn : w.cell? ⟨bn, 0, none⟩ = some (.int .i64 q)) (hbs : Blk w bs 9 #[.string .empty]) (hl : l.length ≤ 16384) :
    Calls Try.prog 39 #[.int .i64 at', .pointer (some ⟨be, 0, none⟩), .pointer (some ⟨bn, 0, none⟩), .pointer (some ⟨bs, 0, none⟩)] w (GetV bs (getS l at' q) (chk l.length at' q) w) := by
  have hp : ∀ W, MemG W B m g l → Calls Try.prog 16 #[.pointer (some ⟨m, 0, none⟩), .int .i64 at', .int .i64 q] W fun r w' => r = .returned (.tuple #[.string (getS l at' q), .int .i64 (chk l.length at' q)]) ∧ W = w' := fun W h => mtext_any W B m l at' q h.mem hl
  generalize chk l.length at' q = c at hp ⊢
  generalize getS l at' q = x at hp ⊢
  have HP := Lib.hid hp
  have HM := Lib.hid hM
  have HBS := Lib.hid hbs
  have c0 := hE.mem
  have s0 := hbs.cell 0
  have s1 := hbs.free 0
  simp at s0
  clear hp hM hE hbs
  go_enter Try.func39, Try.ntmps39
  go_wp2
  go_region_with (go_at_call 16; refine (HP.out _ (show MemG w.drew B m g l from HM.out.drewN 1)).mono ?_; rintro r w1 ⟨rfl, rfl⟩)
  all_goals
    go_wp2
    go_ret
    exact ⟨rfl, (HBS.out.drewN 1).put 0 _, only_put (only_drewN (only_refl _ _) 1) _ _⟩

set_option maxRecDepth 100000 in
theorem tryr_any (w : World) (B e m g t be bn bs : Nat) (L : List Reg) (rv : Value) (n : Nat) (rc : Nat → Rec) (rd wr : Nat → Int) (l : List UInt8) (tick o a q x : Int) (hst : StG w B e m g t L l rv n rc rd wr) (hbe : w.cell? ⟨be, 0, none⟩ = some (.pointer (some ⟨e, 0, none⟩))) (hbn : w.cell? ⟨bn, 0, none⟩ = some (.int .i64 q)) (hbs : Blk w bs 9 #[.string .empty]) (hm : AllMay L) (ho : fitI o) (ha : fitI a) (hl : l.length ≤ 16384) :
    Calls Try.prog 47 #[.pointer (some ⟨e, 0, none⟩), .agg #[.int .i64 tick, .int .i64 o, .int .i64 a, .int .i64 q, .bool false, .int .i64 x], .func (.func 39) #[] #[.pointer (some ⟨be, 0, none⟩), .pointer (some ⟨bn, 0, none⟩), .pointer (some ⟨bs, 0, none⟩)]] w (GetV bs (rdS L l o a q) (askV L l.length o a q).2 w) := by
  obtain ⟨hBe, hE, hM, hT, hR⟩ := hst
  have hb0 := (Below.refl w.heap.size w).alloc (Nat.le_refl _) (.cells #[.int .i64 tick, .int .i64 o, .int .i64 a, .int .i64 q, .bool false, .int .i64 x] 45)
  have HB0 := Lib.hid hb0
  have HG : Hid (g < w.heap.size ∧ w.heap.size ≤ w.heap.size) := ⟨hM.lt.1, Nat.le_refl _⟩
  by_cases h32 : (32 : Int) < q
  · have hv : askV L l.length o a q = (0, 4) := by unfold askV; rw [if_pos h32]
    have hw : rdS L l o a q = .empty := by unfold rdS; rw [hv]; rfl
    rw [hv, hw]
    clear hw
    have HS0 := Lib.hid hbs
    clear hE hM hT hR hv hb0
    go_enter Try.func47, Try.ntmps47
    go_wp2
    go_ret
    exact ⟨rfl, HS0.out.below HB0.out HS0.out.lt, only_any (only_far HB0.out) _⟩
  · obtain ⟨y, E, hy⟩ : ∃ y E, mapV L o a q = (y, E) := ⟨_, _, rfl⟩
    have hmap := fun W (hW : Below w.heap.size w W) => map_any a q (hT.below hW) hm ho ha
    simp only [hy] at hmap
    have HMAP := Lib.hid hmap
    have c1 := (hE.below hb0).tab
    have hnew := Blk.new w 45 #[.int .i64 tick, .int .i64 o, .int .i64 a, .int .i64 q, .bool false, .int .i64 x]
    have b1 : (w.alloc (.cells #[.int .i64 tick, .int .i64 o, .int .i64 a, .int .i64 q, .bool false, .int .i64 x] 45)).cell? ⟨w.heap.size, 1, none⟩ = some (.int .i64 o) := hnew.cell 1
    have b2 : (w.alloc (.cells #[.int .i64 tick, .int .i64 o, .int .i64 a, .int .i64 q, .bool false, .int .i64 x] 45)).cell? ⟨w.heap.size, 2, none⟩ = some (.int .i64 a) := hnew.cell 2
    have b3 : (w.alloc (.cells #[.int .i64 tick, .int .i64 o, .int .i64 a, .int .i64 q, .bool false, .int .i64 x] 45)).cell? ⟨w.heap.size, 3, none⟩ = some (.int .i64 q) := hnew.cell 3
    have k0 := fun d os => cell_regrown c1 d os
    have k1 := fun d os => cell_regrown b1 d os
    have k2 := fun d os => cell_regrown b2 d os
    have k3 := fun d os => cell_regrown b3 d os
    have HE := Lib.hid hE
    have HM := Lib.hid hM
    have hw1 := fun W (hW : Below w.heap.size w W) (h1 : W.cell? ⟨be, 0, none⟩ = some (.pointer (some ⟨e, 0, none⟩))) (h2 : W.cell? ⟨bn, 0, none⟩ = some (.int .i64 q)) => r1_any W B e m g t be bn bs rv rd wr l y q (hE.below hW) (hM.below hW) h1 h2 (hbs.below hW hbs.lt) hl
    have HW1 := Lib.hid hw1
    have HBE := Lib.hid hbe
    have HBN := Lib.hid hbn
    have HBS := Lib.hid hbs
    have HLE := Lib.hid (World.block_lt_of_cell? _ _ hbe)
    have HLS := Lib.hid (World.block_lt_of_cell? _ _ hbn)
    have HY := Lib.hid hy
    clear hE hM hT hR c1 b1 b2 b3 hnew hmap hw1 hbe hbn hbs hb0 hy
    by_cases hE0 : E = 0
    · subst hE0
      have hv := askV_at' (len := l.length) hm HY.out h32
      have hw : rdS L l o a q = getS l y q := by
        unfold rdS getS
        rw [hv]
        by_cases hc : chk l.length y q = 0
        · rw [if_pos hc, if_pos hc, if_pos rfl]
        · rw [if_neg hc, if_neg hc, if_neg hc]
      have hv2 : (askV L l.length o a q).2 = chk l.length y q := by
        rw [hv]
        by_cases hc : chk l.length y q = 0
        · rw [if_pos hc, hc]
        · rw [if_neg hc]
      rw [hv2, hw]
      generalize chk l.length y q = c at HW1 ⊢
      generalize getS l y q = x' at HW1 ⊢
      clear hv hv2 hw
      go_enter Try.func47, Try.ntmps47
      go_wp2
      refine wp_region_quiet_below (by kernel_rfl) (by kernel_rfl) ?_
      repeat (quiet_step ((go_at_call 50; exact Calls.regrown_of ((HMAP.out _ (HB0.out.trans ((below_regrown _ _ _).mono (by simp)))).mono fun _ _ ⟨h1, h2⟩ => ⟨h1, below_of_only h2 (Nat.le_refl _) (by simp)⟩))))
      refine wpQuiet_nil ?_
      rintro _ ⟨⟨dq, osq⟩, rfl⟩
      have hb3 := below_regrown (w.alloc (.cells #[.int .i64 tick, .int .i64 o, .int .i64 a, .int .i64 q, .bool false, .int .i64 x] 45)) dq osq
      generalize grow (redrawn (w.alloc (.cells #[.int .i64 tick, .int .i64 o, .int .i64 a, .int .i64 q, .bool false, .int .i64 x] 45)) dq) osq = w3 at hb3 ⊢
      have B3 := Lib.hid (HB0.out.trans (hb3.mono (by simp)))
      have hbe3 := (hb3.cell (p := ⟨be, 0, none⟩) (Nat.lt_of_lt_of_le HLE.out (by simp))).trans ((HB0.out.cell (p := ⟨be, 0, none⟩) HLE.out).trans HBE.out)
      have hbs3 := (hb3.cell (p := ⟨bn, 0, none⟩) (Nat.lt_of_lt_of_le HLS.out (by simp))).trans ((HB0.out.cell (p := ⟨bn, 0, none⟩) HLS.out).trans HBN.out)
      have HC := Lib.hid (HW1.out w3 B3.out hbe3 hbs3)
      clear hb3 k0 k1 k2 k3 hbe3 hbs3
      go_wp2_with (go_at_call 39; refine HC.out.mono ?_; rintro r w4 ⟨rfl, h1, h2⟩; have H1 := Lib.hid h1; have H2 := Lib.hid (only_trans (only_any (only_far B3.out) _) h2); clear h1 h2)
      go_ret
      exact ⟨rfl, H1.out, H2.out⟩
    · have hv : askV L l.length o a q = (0, E) := by unfold askV; rw [if_neg h32, HY.out, if_neg hE0]
      have hw : rdS L l o a q = .empty := by unfold rdS; rw [hv, if_neg hE0]
      rw [hv, hw]
      clear hw
      have hEb : (E != 0) = true := by simpa using hE0
      clear hv
      go_enter Try.func47, Try.ntmps47
      go_wp2
      refine wp_region_quiet_below (by kernel_rfl) (by kernel_rfl) ?_
      repeat (quiet_step ((go_at_call 50; exact Calls.regrown_of ((HMAP.out _ (HB0.out.trans ((below_regrown _ _ _).mono (by simp)))).mono fun _ _ ⟨h1, h2⟩ => ⟨h1, below_of_only h2 (Nat.le_refl _) (by simp)⟩))))
      refine wpQuiet_nil ?_
      rintro _ ⟨⟨dq, osq⟩, rfl⟩
      have hb3 := below_regrown (w.alloc (.cells #[.int .i64 tick, .int .i64 o, .int .i64 a, .int .i64 q, .bool false, .int .i64 x] 45)) dq osq
      generalize grow (redrawn (w.alloc (.cells #[.int .i64 tick, .int .i64 o, .int .i64 a, .int .i64 q, .bool false, .int .i64 x] 45)) dq) osq = w3 at hb3 ⊢
      have B3 := Lib.hid (HB0.out.trans (hb3.mono (by simp)))
      clear hb3 k0 k1 k2 k3
      go_wp2
      go_ret
      exact ⟨rfl, HBS.out.below B3.out HBS.out.lt, only_any (only_far B3.out) _⟩
end Go.Proofs.Ythlapnljinkekab
