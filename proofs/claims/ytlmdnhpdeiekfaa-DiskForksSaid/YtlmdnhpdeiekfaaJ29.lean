/- Both disks: a job is started on both. -/
import Derived.Test.YtlmdnhpdeiekfaaJ28
namespace Go.Proofs.Ytlmdnhpdeiekfaa
open Go.RowKit Go.Lib
set_option linter.unusedVariables false

section
variable {w w1 w' : World} {d : Nat → Prt} {n b x : Nat} {A : Option Addr} {c B : Nat} {S : Nat → UInt8} {bz : Bool} {jd jr : Jb} {sd sr : Int} {bv v : Value} {E : Nat → Value} {m : Nat} {rc : Nat → Rec}
/-- The device has started a job, or refused it: the document's disk answers alike, later too. -/
def Start2 (d : Nat → Prt) (n b x : Nat) (A : Option Addr) (c B m : Nat) (bv v : Value) (tick : Int) (j : Jb) (ec : Int) (w : World) (e : Ending) (w1 : World) : Prop :=
  e = .returned (.int .i64 ec) ∧ Keeps (Foot b x bv v) w w1 ∧ ∀ W, Below w1.heap.size w1 W → Calls Try.prog 24 #[.pointer (some ⟨x, 0, none⟩), .int .i64 tick, jbv j] W fun e2 w2 => e2 = .returned (.int .i64 ec) ∧ TwN w d n b x A c B m bv v w2
theorem starts_both (h : Tw w d n b x A c B S bz jd jr sd sr bv v E m rc) (he : newE d n = 0) (hn : n ≤ 8) (tick : Int) (j : Jb) (hj : FitJ j) : Calls Try.prog 13 #[.pointer (some ⟨b, 0, none⟩), .int .i64 tick, jbv j] w (Start2 d n b x A c B m bv v tick j (startV (tblN d n) bz tick j) w) := by
  have hwit : ∀ k, k < 9 → Within (tblN d n k) := tblN_within he
  have h1000 : n ≤ 1000 := by omega
  have hww : ∀ i, i < n → Within (d i) := fun i hi => Within.of (newE_may he i hi)
  by_cases hs : startV (tblN d n) bz tick j = 0
  · obtain ⟨t0, t1, rfl, hask⟩ := startV_zero hs
    rw [hs]
    refine (start_ok h.dev hwit tick j hj hs).mono ?_
    rintro e w1 ⟨rfl, hd1, g1⟩
    have hk1 : Keeps (DskB b v) w w1 := Keeps.of_only g1 (fun k hk => by injection hk with hk; exact .inl hk.symm)
    obtain ⟨m1, m2, m3⟩ := h.mid hk1
    refine ⟨rfl, hk1.mono (fun _ _ h => .inl h), fun W hW => ?_⟩
    refine (rstart_ok A n c d j tick W x bv false jr sr (m1.below hW) (m2.below hW) h1000 hww (by rw [start_eq he]; exact hs)).mono ?_
    rintro e w2 ⟨rfl, hr2, g2⟩
    have gW : w.grownBy W (some b) := only_trans g1 (only_any (only_far hW) _)
    refine ⟨rfl, S, true, j, j, tick, tick, v, E, m, rc, h.both (hd1.below hW) gW hr2 g2 (fun _ => ⟨rfl, rfl, t0, t1, hask⟩), by omega, ?_⟩
    exact (Keeps.of_only gW (fun k hk => by injection hk with hk; exact .inl (.inl hk.symm))).trans (Keeps.of_only g2 (fun k hk => by injection hk with hk; exact .inr (.inl hk.symm)))
  · refine (start_bad h.dev hwit tick j hj hs).mono ?_
    rintro e w1 ⟨rfl, g1⟩
    have b1 : Below w.heap.size w w1 := below_of_only g1 (Nat.le_refl _) (by simp)
    refine ⟨rfl, Keeps.of_below b1 _, fun W hW => ?_⟩
    have hTW := (h.below b1).below hW
    refine (rstart_bad A n c d j tick W x bv bz jr sr hTW.doc hTW.row h1000 hww (by rw [start_eq he]; exact hs)).mono ?_
    rintro e w2 ⟨rfl, b2⟩
    rw [start_eq he]
    exact ⟨rfl, S, bz, jd, jr, sd, sr, v, E, m, rc, hTW.below b2, by omega, ((Keeps.of_below b1 _).trans (Keeps.of_below hW _)).trans (Keeps.of_below b2 _)⟩
end
end Go.Proofs.Ytlmdnhpdeiekfaa
