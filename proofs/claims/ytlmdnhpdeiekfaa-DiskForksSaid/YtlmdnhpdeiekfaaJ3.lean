/- Busy, Sector of package disk; a job's sector: by their contracts. -/
import Derived.Test.YtlmdnhpdeiekfaaJ2
import Derived.Laws.IdiomStrings
import Derived.BigQuiet
import Derived.Deep.QuietTactic
namespace Go.Proofs.Ytlmdnhpdeiekfaa
open Go.RowKit Go.Lib Go.Sort
set_option linter.unusedVariables false

/-- n bytes of a disk from one on. -/
def secS (S : Nat → UInt8) (a n : Nat) : ByteArray := ⟨((List.range n).map fun i => S (a + i)).toArray⟩
section
variable {w w' : World} {b : Nat} {S : Nat → UInt8} {T : Nat → Prt} {bz : Bool} {j : Jb} {st : Int} {v : Value}
theorem busy_any (h : Dsk w b S T bz j st v) : Calls Try.prog 16 #[.pointer (some ⟨b, 0, none⟩)] w fun e w' => e = .returned (.bool bz) ∧ w = w' := by
  have c0 := h.busy
  clear h
  go_enter Try.func16, Try.ntmps16
  go_wp2
  go_ret
  exact ⟨rfl, rfl⟩
theorem busy_nil (w : World) : Calls Try.prog 16 #[.pointer none] w fun e w' => e = .returned (.bool false) ∧ w = w' := by
  go_enter Try.func16, Try.ntmps16
  go_wp2
  go_ret
  exact ⟨rfl, rfl⟩
theorem ask_any (h : Dsk w b S T bz j st v) (hT : ∀ k, k < 9 → Within (T k)) (x : Jb) (hx : FitJ x) : Calls Try.prog 19 #[.pointer (some ⟨b, 0, none⟩), jbv x] w fun e w' => e = .returned (.int .i64 (askD T x)) ∧ w.grownBy w' none := by
  refine ask_core (p := fndT T x.1) (e0 := fndE T x.1) ?_ hx.2.1 (dfind_any (h.grown (only_alloc (only_refl _ _) _)) x.1) ?_
  · unfold fndT
    cases hn : noT T x.1 with
    | true => exact Within.none
    | false =>
      simp [noT] at hn
      exact hT _ (by omega)
  · unfold askD fndE fndT
    cases hn : noT T x.1 with
    | true => simp
    | false => simp
theorem ask_nil (x : Jb) (hx : FitJ x) (w : World) : Calls Try.prog 19 #[.pointer none, jbv x] w fun e w' => e = .returned (.int .i64 1) ∧ w.grownBy w' none :=
  ask_core (p := (0, 0, 0)) (e0 := 1) Within.none hx.2.1 (dfind_nil x.1 _) (by simp)

/-- The bytes of a sector, as they are read. -/
theorem sec_run (h : Dsk w b S T bz j st v) (a n cap : Nat) (ha : a + n ≤ 8192) : (convert 71 9 (.slice (some ⟨b, a, none⟩) n cap)).run Try.prog w = .ok (.string (secS S a n)) w := by
  have hl : ((List.range n).map fun i => S (a + i)).length = n := by simp
  have := run_convert_bytes_back (P := Try.prog) w 71 9 5 ⟨b, a, none⟩ cap ((List.range n).map fun i => S (a + i)) Try.underlying71 Try.underlying5 Try.underlying9 (fun i hi => by
    have e : (⟨b, a, none⟩ : Addr).add i = ⟨b, a + i, none⟩ := by unfold Addr.add; split <;> simp_all
    rw [e, h.byte (by rw [hl] at hi; omega)]
    simp)
  rw [hl] at this
  exact this

theorem sector_nil (o s : Int) (w : World) : Calls Try.prog 18 #[.pointer none, .int .i64 o, .int .i64 s] w fun e w' => e = .returned (.tuple #[.string ⟨#[]⟩, .int .i64 1]) ∧ Below w.heap.size w w' := by
  have H := Lib.hid (dfind_nil o w)
  go_enter Try.func18, Try.ntmps18
  go_wp2_with (go_at_call 29; with_reducible refine H.out.mono ?_; rintro e w1 ⟨rfl, g1⟩; have K1 := Lib.hid (below_of_only g1 (Nat.le_refl _) (by simp)); clear g1)
  go_ret2
  exact ⟨rfl, K1.out.alloc K1.out.size _⟩
/-- What Sector answers. -/
def sectV (S : Nat → UInt8) (T : Nat → Prt) (o s : Int) : ByteArray × Int := if noT T o then (⟨#[]⟩, 7) else if hasB (T o.toNat) s 1 then (secS S (((T o.toNat).2.1 + s).toNat * 16) 16, 0) else (⟨#[]⟩, 6)
theorem sector_any (h : Dsk w b S T bz j st v) (hT : ∀ k, k < 9 → Within (T k)) (o s : Int) (hs : fitI s) : Calls Try.prog 18 #[.pointer (some ⟨b, 0, none⟩), .int .i64 o, .int .i64 s] w fun e w' => e = .returned (.tuple #[.string (sectV S T o s).1, .int .i64 (sectV S T o s).2]) ∧ Below w.heap.size w w' := by
  have hf := dfind_any h o
  unfold fndT fndE at hf
  unfold sectV
  cases hn : noT T o with
  | true =>
    rw [hn] at hf
    simp only [if_true] at hf ⊢
    have H := Lib.hid hf
    clear hf h
    go_enter Try.func18, Try.ntmps18
    go_wp2_with (go_at_call 29; with_reducible refine H.out.mono ?_; rintro e w1 ⟨rfl, g1⟩; have K1 := Lib.hid (below_of_only g1 (Nat.le_refl _) (by simp)); clear g1)
    go_ret2
    exact ⟨rfl, K1.out.alloc K1.out.size _⟩
  | false =>
    rw [hn] at hf
    simp only [if_false, Bool.false_eq_true] at hf ⊢
    have hw : Within (T o.toNat) := hT _ (by simp [noT] at hn; omega)
    generalize T o.toNat = p at hf hw ⊢
    obtain ⟨po, pf, pc⟩ := p
    have hh := fun W => has_any (po, pf, pc) hw s 1 hs W
    have HP := Lib.hid (fun (w1 W : World) (hb : Below (w1.heap.size + 1) (w1.alloc (.cells #[.int .i64 po, .int .i64 pf, .int .i64 pc] 59)) W) => part_cells (p := (po, pf, pc)) hb)
    have H := Lib.hid hf
    have HD := Lib.hid h
    clear hf h
    cases hb : hasB (po, pf, pc) s 1 with
    | false =>
      rw [hb] at hh
      have HH := Lib.hid hh
      clear hh hb hw
      simp only [if_false, Bool.false_eq_true]
      go_enter Try.func18, Try.ntmps18
      go_wp2_with (first
        | (go_at_call 29; with_reducible refine H.out.mono ?_; rintro e w1 ⟨rfl, g1⟩; have K1 := Lib.hid (below_of_only g1 (Nat.le_refl _) (by simp)); obtain ⟨p0, p1, p2⟩ := HP.out w1 _ (Below.refl _ _); clear g1)
        | (go_at_call 30; with_reducible refine (HH.out _).mono ?_; rintro e w2 ⟨rfl, g2⟩; have K2 := Lib.hid ((K1.out.alloc K1.out.size (.cells #[.int .i64 po, .int .i64 pf, .int .i64 pc] 59)).trans (below_of_only g2 (by have := K1.out.size; simp; omega) (by simp))); clear g2))
      go_ret2
      exact ⟨rfl, K2.out⟩
    | true =>
      rw [hb] at hh
      have HH := Lib.hid hh
      have hb' := hb
      simp [hasB] at hb'
      obtain ⟨hw1, hw2, hw3, hw4⟩ := hw
      simp only at hw1 hw2 hw3 hw4
      clear hh hb
      simp only [if_true]
      obtain ⟨k, rfl⟩ : ∃ k : Nat, s = k := ⟨s.toNat, by omega⟩
      obtain ⟨f, rfl⟩ : ∃ f : Nat, pf = f := ⟨pf.toNat, by omega⟩
      have i1 : f + k < 512 := by omega
      have e1 : IntKind.i64.wrap ((f : Int) + (k : Int)) = (f : Int) + (k : Int) := by rw [IntKind.wrap_i64]; omega
      have e2 : ((f : Int) + (k : Int)).toNat = f + k := by omega
      have i2 : (0 : Int) ≤ (f : Int) + (k : Int) := by omega
      have i3 : (f : Int) + (k : Int) < 512 := by omega
      rw [e2]
      have HR := Lib.hid (fun (W : World) (hW : Below w.heap.size w W) => sec_run (HD.out.below hW) ((f + k) * 16) 16 16 (by omega))
      clear hb' hw1 hw2 hw3 hw4
      go_enter Try.func18, Try.ntmps18
      go_wp2_with (first
        | (go_at_call 29; with_reducible refine H.out.mono ?_; rintro e w1 ⟨rfl, g1⟩; have K1 := Lib.hid (below_of_only g1 (Nat.le_refl _) (by simp)); obtain ⟨p0, p1, p2⟩ := HP.out w1 _ (Below.refl _ _); clear g1)
        | (go_at_call 30; with_reducible refine (HH.out _).mono ?_; rintro e w2 ⟨rfl, g2⟩; have K2 := Lib.hid ((K1.out.alloc K1.out.size (.cells #[.int .i64 po, .int .i64 (f : Int), .int .i64 pc] 59)).trans (below_of_only g2 (by have := K1.out.size; simp; omega) (by simp))); obtain ⟨p0, p1, p2⟩ := HP.out w1 _ (below_of_only g2 (by simp) (by simp)); clear g2))
      have hr : ∀ n, (convert 71 9 (.slice (some ⟨b, (f + k) * 16, none⟩) 16 16)).run Try.prog (w2.drewN n) = .ok (.string (secS S ((f + k) * 16) 16)) (w2.drewN n) := fun n => HR.out _ (below_drewN K2.out n)
      go_quiet (fail)
      go_wp2
      go_ret2
      exact ⟨rfl, below_drewN K2.out _⟩
end
end Go.Proofs.Ytlmdnhpdeiekfaa
