/- Both disks: a job is ended on both. -/
import Derived.Test.YtlmdnhpdeiekfaaJ26
namespace Go.Proofs.Ytlmdnhpdeiekfaa
open Go.RowKit Go.Lib
set_option linter.unusedVariables false

section
variable {w w1 w' : World} {d : Nat → Prt} {n b x : Nat} {A : Option Addr} {c B : Nat} {S : Nat → UInt8} {bz : Bool} {jd jr : Jb} {sd sr : Int} {bv v : Value} {E : Nat → Value} {m : Nat} {rc : Nat → Rec}
/-- What the device does to itself leaves the document's disk. -/
theorem Tw.mid (h : Tw w d n b x A c B S bz jd jr sd sr bv v E m rc) (k : Keeps (DskB b v) w w1) : RDk w1 x (.slice A n c) bv bz jr sr ∧ PrtsV w1 A n d ∧ Bys w1 bv n E (rowsL S d) := by
  refine ⟨(k.2.2.2.2 x (Blk.lt h.doc) (fun hh => ?_)).trans h.doc, ⟨h.row.1, fun hn => ?_⟩, h.bys.1.keeps k (fun q hq hh => ?_), fun i hi => ⟨(h.bys.2 i hi).1.keeps k (fun q hq hh => ?_), (h.bys.2 i hi).2⟩⟩
  · rcases hh with hh | hh
    · exact h.nx hh
    · exact h.nv.1 hh
  · obtain ⟨g, off, hA, hg, hc⟩ := h.row.2 hn
    have hng := h.nA g (by rw [hA]; rfl)
    have hcell : ∀ q, w1.cell? ⟨g, q, none⟩ = w.cell? ⟨g, q, none⟩ := fun q => by
      have e1 := k.2.2.2.2 g hg (fun hh => by
        rcases hh with hh | hh
        · exact hng.1 hh
        · exact hng.2.2.2 hh)
      simp only [World.cell?, e1]
    exact ⟨g, off, hA, by have := k.size; omega, fun i hi => by rw [hcell, hcell, hcell]; exact hc i hi⟩
  · rcases hh with hh | hh
    · exact (h.nbv q hq).1 hh
    · exact (h.nbv q hq).2.2 hh
  · rcases hh with hh | hh
    · exact (h.nE i hi q hq).1 hh
    · exact (h.nE i hi q hq).2.2 hh
/-- The blocks that are written, of both. -/
def Foot (b x : Nat) (bv v : Value) (i : Nat) : Prop := (i = b ∨ v.ownBlock = some i) ∨ i = x ∨ bv.ownBlock = some i
/-- Both tell the same, whatever they hold now, and the log has at most two more. -/
def TwN (w : World) (d : Nat → Prt) (n b x : Nat) (A : Option Addr) (c B m : Nat) (bv v : Value) (w' : World) : Prop :=
  ∃ S bz jd jr sd sr v' E m' rc, Tw w' d n b x A c B S bz jd jr sd sr bv v' E m' rc ∧ m' ≤ m + 2 ∧ Keeps (Foot b x bv v) w w'
abbrev EndV (s : ByteArray) (ec : Int) : Ending := .returned (.tuple #[.string s, .int .i64 ec])
def End2 (d : Nat → Prt) (n b x : Nat) (A : Option Addr) (c B m : Nat) (bv v : Value) (tick : Int) (s : ByteArray) (ec : Int) (w : World) (e : Ending) (w1 : World) : Prop :=
  e = EndV s ec ∧ Keeps (Foot b x bv v) w w1 ∧ Calls Try.prog 25 #[.pointer (some ⟨x, 0, none⟩), .int .i64 tick] w1 fun e2 w2 => e2 = EndV s ec ∧ TwN w d n b x A c B m bv v w2
theorem Tw.lowD (h : Tw w d n b x A c B S bz jd jr sd sr bv v E m rc) : B ≤ w.heap.size ∧ ∀ i, i < B → ¬ DskB b v i := by
  have := h.dev.lt
  refine ⟨by have := h.lo.1; omega, fun i hi hh => ?_⟩
  rcases hh with hh | hh
  · have := h.lo.1
    omega
  · have := (h.log.blk i hh).1
    omega
set_option maxHeartbeats 1600000 in
/-- A job is ended on both. -/
theorem ends_both (h : Tw w d n b x A c B S bz jd jr sd sr bv v E m rc) (he : newE d n = 0) (hn : n ≤ 8) (tick : Int) (ht : fitI tick) (hm : m ≤ 900) : ∃ s ec, Calls Try.prog 14 #[.pointer (some ⟨b, 0, none⟩), .int .i64 tick] w (End2 d n b x A c B m bv v tick s ec w) := by
  have hwit : ∀ k, k < 9 → Within (tblN d n k) := tblN_within he
  have hBw := h.lowD.1
  have h1000 : n ≤ 1000 := by omega
  cases bz with
  | false =>
    refine ⟨⟨#[]⟩, 9, (end_idle h.dev tick).mono ?_⟩
    rintro e w1 ⟨rfl, rfl⟩
    refine ⟨rfl, Keeps.refl _ _, (rend_empty A n c tick w x bv jr sr h.doc).mono ?_⟩
    rintro e w2 ⟨rfl, rfl⟩
    exact ⟨rfl, S, _, _, _, _, _, _, _, _, _, h, by omega, Keeps.refl _ _⟩
  | true =>
    obtain ⟨rfl, rfl, h0, h1, hask⟩ := h.run rfl
    by_cases hlt : tick < sr + 3
    · refine ⟨⟨#[]⟩, 13, (end_early h.dev tick ht h0 h1 hlt).mono ?_⟩
      rintro e w1 ⟨rfl, rfl⟩
      refine ⟨rfl, Keeps.refl _ _, (rend_early A n c tick w x bv jr sr h.doc h0 h1 hlt).mono ?_⟩
      rintro e w2 ⟨rfl, rfl⟩
      exact ⟨rfl, S, _, _, _, _, _, _, _, _, _, h, by omega, Keeps.refl _ _⟩
    · obtain ⟨k, s, q, f, cc, hj⟩ := ask_ok hwit hask
      have hj' := hj
      obtain ⟨j1, j2, j3, j4, j5, j6, j7, j8, j9, j10, j11, j12⟩ := hj'
      have hidx : ∃ i, i < n ∧ ownD d n jr.1 = (i : Nat) ∧ tblN d n k = d i := by
        rcases ownD_cases d n jr.1 with ⟨i, hi, ho, hoi⟩ | ⟨ho, _⟩
        · refine ⟨i, hi, ho, ?_⟩
          have := tbl_own he hi
          rw [hoi, j1] at this
          exact this
        · have := ask_eq he jr
          rw [hask] at this
          unfold askR at this
          rw [ho] at this
          simp at this
      obtain ⟨i, hi, ho, hti⟩ := hidx
      rw [hti] at j9 j10
      have hmi := mayB_iff.1 (newE_may he i hi)
      have hA : A.map (·.block) ≠ some x := fun e => (h.nA x e).2.1 rfl
      have hbx : bv.ownBlock ≠ some x := fun e => (h.nbv x e).2.1 rfl
      have hEx : ∀ q, q < n → (E q).ownBlock ≠ some x := fun q hq e => (h.nE q hq x e).2.1 rfl
      have hLl : (rowsL S d i).length = (16 * (d i).2.2).toNat := secL_len _ _ _
      obtain ⟨jo, js, jn, jw, jt⟩ := jr
      simp only at j1 j5 ho
      subst j5
      cases jw with
      | false =>
        have hjn : jn = ((q * 16 : Nat) : Int) := by
          have : sizeJ (jo, (s : Int), jn, false, jt) = jn := rfl
          omega
        subst hjn
        refine ⟨secS S ((f + s) * 16) (q * 16), 0, (end_read h.dev tick ht h0 h1 (by omega) rfl hj).mono ?_⟩
        rintro e w1 ⟨rfl, hd1, g1⟩
        have hk1 : Keeps (DskB b v) w w1 := Keeps.of_only g1 (fun k hk => by injection hk with hk; exact .inl hk.symm)
        obtain ⟨m1, m2, m3⟩ := h.mid hk1
        have b1 : Keeps (Foot b x bv v) w w1 := hk1.mono (fun _ _ h => .inl h)
        refine ⟨rfl, b1, (rend_read A n c d jo s (q * 16) jt tick w1 x bv sr E (rowsL S d) i m1 m2 hA h1000 m3 hbx hEx h0 h1 hlt hi ho (by omega) (by rw [hLl]; omega) (by rw [hLl]; omega)).mono ?_⟩
        rintro e w2 ⟨rfl, hr2, g2⟩
        have hstr : (⟨(((rowsL S d i).drop (16 * s)).take (q * 16)).toArray⟩ : ByteArray) = secS S ((f + s) * 16) (q * 16) := by
          unfold rowsL
          rw [secL_cut _ _ _ _ _ (by omega), secS_eq, show 16 * (d i).2.1.toNat + 16 * s = (f + s) * 16 by omega]
        rw [hstr]
        refine ⟨rfl, S, _, _, _, _, _, _, _, _, _, h.both hd1 g1 hr2 g2 (fun hf => by cases hf), by omega, b1.trans (Keeps.of_only g2 (fun k hk => by injection hk with hk; exact .inr (.inl hk.symm)))⟩
      | true =>
        have hjt : (jt.size : Int) = (q : Int) * 16 := j6
        refine ⟨⟨#[]⟩, 0, (end_write h.dev h.log tick ht h0 h1 (by omega) rfl hj (by omega) hBw).mono ?_⟩
        rintro e w1 ⟨rfl, v', hd1, hl1, ho1, hk1⟩
        obtain ⟨m1, m2, m3⟩ := h.mid hk1
        have b1 : Keeps (Foot b x bv v) w w1 := hk1.mono (fun _ _ h => .inl h)
        refine ⟨rfl, b1, (rend_write A n c d jo jn s jt tick w1 x bv sr E (rowsL S d) i m1 m2 hA h1000 m3 hbx hEx h0 h1 hlt hi ho (by omega) (by rw [hLl]; omega) (by rw [hLl]; omega)).mono ?_⟩
        intro e w2 hr2
        have hfe : (d i).2.1.toNat = f := by omega
        obtain ⟨E', ht'⟩ := h.wrote he (i := i) (a := s) (t := jt) hi (by omega) (by omega) (by rw [hfe]; exact hd1) hl1 ho1 hk1 hr2
        refine ⟨hr2.1, _, _, _, _, _, _, _, _, _, _, ht', by omega, b1.trans (hr2.2.choose_spec.2.2.2.mono (fun _ _ h => .inr h))⟩
end
end Go.Proofs.Ytlmdnhpdeiekfaa
