/- Both disks, side by side. -/
import Derived.Test.YtlmdnhpdeiekfaaJ24
namespace Go.Proofs.Ytlmdnhpdeiekfaa
open Go.RowKit Go.Lib
set_option linter.unusedVariables false

theorem PrtsV.only {w w' : World} {A : Option Addr} {n : Nat} {d : Nat → Prt} {row : Option Nat} (h : PrtsV w A n d) (hb : w.grownBy w' row) (hA : ∀ k, A.map (·.block) = some k → some k ≠ row) : PrtsV w' A n d := by
  refine ⟨h.1, fun hn => ?_⟩
  obtain ⟨b, off, rfl, hlt, hc⟩ := h.2 hn
  have hk := hb.block b hlt (hA b rfl)
  have hcell : ∀ q, w'.cell? ⟨b, q, none⟩ = w.cell? ⟨b, q, none⟩ := fun q => by simp only [World.cell?, hk]
  exact ⟨b, off, rfl, Nat.lt_of_lt_of_le hlt hb.size, fun i hi => by rw [hcell, hcell, hcell]; exact hc i hi⟩
theorem Bys.only {w w' : World} {bv : Value} {n : Nat} {E : Nat → Value} {L : Nat → List UInt8} {row : Option Nat} (h : Bys w bv n E L) (hb : w.grownBy w' row) (h1 : ∀ k, bv.ownBlock = some k → some k ≠ row) (h2 : ∀ i, i < n → ∀ k, (E i).ownBlock = some k → some k ≠ row) : Bys w' bv n E L := by
  have key : ∀ (v : Value), (∀ k, v.ownBlock = some k → some k ≠ row) → v.ownBlock = none ∨ v.ownBlock ≠ row := fun v hv => by
    cases e : v.ownBlock with
    | none => exact .inl rfl
    | some k => exact .inr (hv k e)
  exact ⟨h.1.only hb (key _ h1), fun i hi => ⟨(h.2 i hi).1.only hb (key _ (h2 i hi)), (h.2 i hi).2⟩⟩
theorem Bys.below {w w' : World} {bv : Value} {n : Nat} {E : Nat → Value} {L : Nat → List UInt8} (h : Bys w bv n E L) (hb : Below w.heap.size w w') : Bys w' bv n E L := h.only (only_far hb) (fun _ _ => by simp) (fun _ _ _ _ => by simp)
/-- The bytes of a row, as the device's sectors have them. -/
def rowsL (S : Nat → UInt8) (d : Nat → Prt) (i : Nat) : List UInt8 := secL S (16 * (d i).2.1.toNat) (16 * (d i).2.2).toNat
/-- Both disks: they tell the same. -/
structure Tw (w : World) (d : Nat → Prt) (n b x : Nat) (A : Option Addr) (c B : Nat) (S : Nat → UInt8) (bz : Bool) (jd jr : Jb) (sd sr : Int) (bv v : Value) (E : Nat → Value) (m : Nat) (rc : Nat → Rec) : Prop where
  dev : Dsk w b S (tblN d n) bz jd sd v
  log : LogV w B v m rc
  doc : RDk w x (.slice A n c) bv bz jr sr
  row : PrtsV w A n d
  bys : Bys w bv n E (rowsL S d)
  run : bz = true → jr = jd ∧ sr = sd ∧ 0 ≤ sd ∧ sd ≤ 2147483647 ∧ askD (tblN d n) jd = 0
  nx : x ≠ b
  nA : ∀ k, A.map (·.block) = some k → k ≠ b ∧ k ≠ x ∧ bv.ownBlock ≠ some k ∧ v.ownBlock ≠ some k
  nbv : ∀ k, bv.ownBlock = some k → k ≠ b ∧ k ≠ x ∧ v.ownBlock ≠ some k
  nE : ∀ i, i < n → ∀ k, (E i).ownBlock = some k → k ≠ b ∧ k ≠ x ∧ v.ownBlock ≠ some k
  nv : v.ownBlock ≠ some x ∧ v.ownBlock ≠ some b
  lo : B ≤ b ∧ B ≤ x ∧ ∀ k, bv.ownBlock = some k → B ≤ k
section
variable {w w1 w' : World} {d : Nat → Prt} {n b x : Nat} {A : Option Addr} {c B : Nat} {S : Nat → UInt8} {bz : Bool} {jd jr : Jb} {sd sr : Int} {bv v : Value} {E : Nat → Value} {m : Nat} {rc : Nat → Rec}
theorem Tw.below (h : Tw w d n b x A c B S bz jd jr sd sr bv v E m rc) (hb : Below w.heap.size w w') : Tw w' d n b x A c B S bz jd jr sd sr bv v E m rc :=
  ⟨h.dev.below hb, h.log.below hb, h.doc.below hb, h.row.below hb, h.bys.below hb, h.run, h.nx, h.nA, h.nbv, h.nE, h.nv, h.lo⟩
/-- What each has done to itself alone is side by side again. -/
theorem Tw.both (h : Tw w d n b x A c B S bz jd jr sd sr bv v E m rc) {bz' : Bool} {jd' jr' : Jb} {sd' sr' : Int} (hd : Dsk w1 b S (tblN d n) bz' jd' sd' v) (g1 : w.grownBy w1 (some b)) (hr : RDk w' x (.slice A n c) bv bz' jr' sr') (g2 : w1.grownBy w' (some x))
    (hrun : bz' = true → jr' = jd' ∧ sr' = sd' ∧ 0 ≤ sd' ∧ sd' ≤ 2147483647 ∧ askD (tblN d n) jd' = 0) : Tw w' d n b x A c B S bz' jd' jr' sd' sr' bv v E m rc := by
  have hv : ∀ k, v.ownBlock ≠ some k → v.ownBlock = none ∨ v.ownBlock ≠ some k := fun k h => .inr h
  refine ⟨hd.only g2 (fun e => h.nx (by injection e with e; exact e.symm)), (h.log.only g1 (hv _ h.nv.2)).only g2 (hv _ h.nv.1), hr, (h.row.only g1 ?_).only g2 ?_, (h.bys.only g1 ?_ ?_).only g2 ?_ ?_, hrun, h.nx, h.nA, h.nbv, h.nE, h.nv, h.lo⟩
  · exact fun k hk e => (h.nA k hk).1 (by injection e)
  · exact fun k hk e => (h.nA k hk).2.1 (by injection e)
  · exact fun k hk e => (h.nbv k hk).1 (by injection e)
  · exact fun i hi k hk e => (h.nE i hi k hk).1 (by injection e)
  · exact fun k hk e => (h.nbv k hk).2.1 (by injection e)
  · exact fun i hi k hk e => (h.nE i hi k hk).2.1 (by injection e)
end
end Go.Proofs.Ytlmdnhpdeiekfaa
