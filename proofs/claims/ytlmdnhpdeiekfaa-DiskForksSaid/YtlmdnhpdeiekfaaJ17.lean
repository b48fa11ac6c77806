/- The document's disk: where it lies; whose row is where; a job for it. -/
import Derived.Test.YtlmdnhpdeiekfaaJ16
namespace Go.Proofs.Ytlmdnhpdeiekfaa
open Go.RowKit Go.Lib
set_option linter.unusedVariables false

/-- The document's disk lies in block x: its rows, its bytes, busy, its job, its start. -/
def RDk (w : World) (x : Nat) (pv bv : Value) (bz : Bool) (j : Jb) (st : Int) : Prop :=
  Blk w x 54 #[pv, bv, .bool bz, .int .i64 j.1, .int .i64 j.2.1, .int .i64 j.2.2.1, .bool j.2.2.2.1, .string j.2.2.2.2, .int .i64 st]
theorem RDk.below {w w' : World} {x : Nat} {pv bv : Value} {bz : Bool} {j : Jb} {st : Int} (h : RDk w x pv bv bz j st) (hb : Below w.heap.size w w') : RDk w' x pv bv bz j st := Blk.below h hb (Blk.lt h)

/-- The place of an owner's row among the first n. -/
def ownD (d : Nat → Prt) (n : Nat) (o : Int) : Int := match (List.range n).find? fun i => decide ((d i).1 = o) with | some i => i | none => -1
theorem ownD_at {d : Nat → Prt} {n i : Nat} {o : Int} (hi : i < n) (h : (d i).1 = o) (hb : ∀ k, k < i → (d k).1 ≠ o) : ownD d n o = i := by
  have : (List.range n).find? (fun i => decide ((d i).1 = o)) = some i := by
    rw [List.find?_range_eq_some]
    exact ⟨by simp [h], by simp [hi], fun j hj => by simpa using hb j hj⟩
  rw [ownD, this]
theorem ownD_none {d : Nat → Prt} {n : Nat} {o : Int} (h : ∀ k, k < n → (d k).1 ≠ o) : ownD d n o = -1 := by
  have : (List.range n).find? (fun i => decide ((d i).1 = o)) = none := List.find?_eq_none.2 (by intro x hx; simpa using h x (by simpa using hx))
  rw [ownD, this]
theorem ownD_cases (d : Nat → Prt) (n : Nat) (o : Int) : (∃ i : Nat, i < n ∧ ownD d n o = i ∧ (d i).1 = o) ∨ (ownD d n o = -1 ∧ ∀ k, k < n → (d k).1 ≠ o) := by
  unfold ownD
  cases h : (List.range n).find? fun i => decide ((d i).1 = o) with
  | none =>
    refine .inr ⟨rfl, fun k hk => ?_⟩
    have := List.find?_eq_none.1 h k (by simpa using hk)
    simpa using this
  | some i =>
    have h1 := List.mem_of_find?_eq_some h
    have h2 := List.find?_some h
    exact .inl ⟨i, by simpa using h1, rfl, by simpa using h2⟩
theorem rdown_any (A : Option Addr) (n c : Nat) (d : Nat → Prt) (o : Int) (w : World) (x : Nat) (bv : Value) (bz : Bool) (j : Jb) (st : Int) (h : RDk w x (.slice A n c) bv bz j st) (hst : PrtsV w A n d) (hn : n ≤ 1000) :
    Calls Try.prog 37 #[.pointer (some ⟨x, 0, none⟩), .int .i64 o] w fun e w' => e = .returned (.int .i64 (ownD d n o)) ∧ w = w' := by
  have HST := Lib.hid hst
  have x0 : w.cell? ⟨x, 0, none⟩ = some (.slice A n c) := Blk.cell h 0
  clear hst h
  go_enter Try.func37, Try.ntmps37
  go_wp2
  go_loop [5] (fun x => ∃ i : Nat, x = .int .i64 i ∧ i ≤ n ∧ Hid (∀ k, k < i → (d k).1 ≠ o)) (fun x => n - (intOf x).toNat)
  case atStart => exact ⟨0, rfl, by omega, Lib.hid (by intro k hk; omega)⟩
  case round =>
    obtain ⟨i, rfl, hi, HS⟩ := hrel
    by_cases hin : i < n
    · obtain ⟨g, off, rfl, hg, hc⟩ := HST.out.2 (by omega)
      obtain ⟨c0, _, _⟩ := hc i hin
      have i1 : (i : Int) < (n : Int) := by omega
      clear hc
      by_cases he : (d i).1 = o
      · have hv : ownD d n o = i := ownD_at hin he HS.out
        have HV := Lib.hid hv
        clear hv
        go_wp2
        go_ret
        exact ⟨ret_int HV.out.symm, rfl⟩
      · have HE := Lib.hid he
        go_wp2
        go_round
        case rel =>
          refine ⟨i + 1, by go_num, by omega, Lib.hid fun k hk => ?_⟩
          by_cases hki : k < i
          · exact HS.out k hki
          · obtain rfl : k = i := by omega
            exact HE.out
        case measure => simp [intOf]; omega
    · have hv : ownD d n o = -1 := ownD_none fun k hk => HS.out k (by omega)
      have HV := Lib.hid hv
      have i1 : ¬ (i : Int) < (n : Int) := by omega
      clear hv
      go_wp2
      go_ret
      exact ⟨ret_int HV.out.symm, rfl⟩

/-- A job for the document's disk. -/
theorem rjob_any (j : Jb) (w : World) : Calls Try.prog 23 #[jbv j] w fun e w' => e = .returned (jbv j) ∧ Below w.heap.size w w' := by
  obtain ⟨o, s, n, b, z⟩ := j
  go_enter Try.func23, Try.ntmps23
  go_wp2
  refine bodyPost_ret (v := .agg #[.int .i64 o, .int .i64 s, .int .i64 n, .bool b, .string z]) (by simp [results, Try.results23, go_sem]) rfl ⟨rfl, ?_⟩
  exact ((Below.refl _ _).alloc (Nat.le_refl _) _).alloc (by simp) _
end Go.Proofs.Ytlmdnhpdeiekfaa
