/- What is wrong with a row beside those that are there: check of package disk; Log. -/
import Derived.Test.YtlmdnhpdeiekfaaJ8
import Derived.Deep.RegionHeld3
namespace Go.Proofs.Ytlmdnhpdeiekfaa
open Go.RowKit Go.Lib Go.Sort
set_option linter.unusedVariables false

def ptCells (n : Nat) (T : Nat → Prt) : List Value := (List.range n).flatMap fun k => [.int .i64 (T k).1, .int .i64 (T k).2.1, .int .i64 (T k).2.2]
theorem ptCells_succ (n : Nat) (T : Nat → Prt) : ptCells (n + 1) T = ptCells n T ++ [.int .i64 (T n).1, .int .i64 (T n).2.1, .int .i64 (T n).2.2] := by simp [ptCells, List.range_succ]
theorem ptCells_len (n : Nat) (T : Nat → Prt) : (ptCells n T).length = n * 3 := by
  induction n with
  | zero => rfl
  | succ n ih => rw [ptCells_succ, List.length_append, ih]; simp; omega
theorem ptCells_at {n : Nat} (T : Nat → Prt) {i j : Nat} (hi : i < n) (hj : j < 3) : (ptCells n T)[i * 3 + j]? = [Value.int .i64 (T i).1, .int .i64 (T i).2.1, .int .i64 (T i).2.2][j]? := by
  induction n with
  | zero => omega
  | succ n ih =>
    rw [ptCells_succ]
    by_cases h : i < n
    · rw [List.getElem?_append_left (by rw [ptCells_len]; omega)]
      exact ih h
    · obtain rfl : i = n := by omega
      rw [List.getElem?_append_right (by rw [ptCells_len]; omega), ptCells_len]
      congr 1
      omega
theorem parts_info : (Try.prog.info? 64).map (·.size) = some 27 := by kernel_rfl
section
variable {w w' : World} {b : Nat} {S : Nat → UInt8} {T : Nat → Prt} {bz : Bool} {j : Jb} {st : Int} {v : Value}
theorem run_load_parts (h : Dsk w b S T bz j st v) : (Instr.loadAt 64 (.pointer (some ⟨b, 8192, none⟩))).run Try.prog w = .ok (.agg (ptCells 9 T).toArray) w := by
  have hlen : (ptCells 9 T).length = 27 := ptCells_len 9 T
  have hl : (loadCells ⟨b, 8192, none⟩ (ptCells 9 T).length).run Try.prog w = .ok (ptCells 9 T).toArray w :=
    run_loadCells_list (P := Try.prog) w ⟨b, 8192, none⟩ (ptCells 9 T) (fun i u hu => by
      have hadd : (⟨b, 8192, none⟩ : Addr).add i = ⟨b, 8192 + i, none⟩ := by unfold Addr.add; split <;> simp_all
      rw [hadd]
      have hi : i < 27 := by
        have := (List.getElem?_eq_some_iff.1 hu).1
        omega
      have e : i / 3 * 3 + i % 3 = i := by omega
      have h9 : i / 3 < 9 := by omega
      have hr : i % 3 < 3 := by omega
      rw [← e, ptCells_at T h9 hr] at hu
      obtain ⟨c0, c1, c2⟩ := h.row h9
      rw [← e]
      generalize i % 3 = r at hu hr ⊢
      generalize i / 3 = q at hu c0 c1 c2 ⊢
      match r, hr with
      | 0, _ => rw [← hu]; exact c0
      | 1, _ => rw [← hu]; exact c1
      | 2, _ => rw [← hu]; exact c2)
  rw [hlen] at hl
  have hi := parts_info
  cases hq : Try.prog.info? 64 with
  | none => simp [hq] at hi
  | some i =>
    have hs : i.size = 27 := by simpa [hq] using hi
    have hagg : (isAgg 64).run Try.prog w = .ok true w := by
      unfold isAgg
      rw [Sem.run_bind, run_underlying Try.underlying64 w]
      simp
    simp only [Instr.loadAt, Instr.sureAddr, Sem.run_bind, Sem.run_pure, Result.andThen]
    simp [loadVar, Sem.run_bind, hagg, sizeOf, typeInfo, hq, hs, hl]
theorem run_index_part (T : Nat → Prt) (w : World) (k : Nat) (hk : k < 9) : (Instr.index 64 (.agg (ptCells 9 T).toArray) (.int .i64 k)).run Try.prog w = .ok (prv (T k)) w := by
  have x0 : (Instr.index 64 (.agg (ptCells 9 T).toArray) (.int .i64 ((0 : Nat) : Int))).run Try.prog w = .ok (prv (T 0)) w := by kernel_rfl
  have x1 : (Instr.index 64 (.agg (ptCells 9 T).toArray) (.int .i64 ((1 : Nat) : Int))).run Try.prog w = .ok (prv (T 1)) w := by kernel_rfl
  have x2 : (Instr.index 64 (.agg (ptCells 9 T).toArray) (.int .i64 ((2 : Nat) : Int))).run Try.prog w = .ok (prv (T 2)) w := by kernel_rfl
  have x3 : (Instr.index 64 (.agg (ptCells 9 T).toArray) (.int .i64 ((3 : Nat) : Int))).run Try.prog w = .ok (prv (T 3)) w := by kernel_rfl
  have x4 : (Instr.index 64 (.agg (ptCells 9 T).toArray) (.int .i64 ((4 : Nat) : Int))).run Try.prog w = .ok (prv (T 4)) w := by kernel_rfl
  have x5 : (Instr.index 64 (.agg (ptCells 9 T).toArray) (.int .i64 ((5 : Nat) : Int))).run Try.prog w = .ok (prv (T 5)) w := by kernel_rfl
  have x6 : (Instr.index 64 (.agg (ptCells 9 T).toArray) (.int .i64 ((6 : Nat) : Int))).run Try.prog w = .ok (prv (T 6)) w := by kernel_rfl
  have x7 : (Instr.index 64 (.agg (ptCells 9 T).toArray) (.int .i64 ((7 : Nat) : Int))).run Try.prog w = .ok (prv (T 7)) w := by kernel_rfl
  have x8 : (Instr.index 64 (.agg (ptCells 9 T).toArray) (.int .i64 ((8 : Nat) : Int))).run Try.prog w = .ok (prv (T 8)) w := by kernel_rfl
  have h9 : k = 0 ∨ k = 1 ∨ k = 2 ∨ k = 3 ∨ k = 4 ∨ k = 5 ∨ k = 6 ∨ k = 7 ∨ k = 8 := by omega
  rcases h9 with rfl | rfl | rfl | rfl | rfl | rfl | rfl | rfl | rfl <;> assumption
theorem wpList_load_parts {ops : Array Oper} {Q : Exit → Act → World → Prop} {rest : List Oper} {a : Act} {o : Oper} (hg : o.guard = none) (p : Operand) (hop : o.op = Op.load 64 p) (h : Dsk w b S T bz j st v) (hp : a.eval p = .pointer (some ⟨b, 8192, none⟩)) (hK : wpList Try.prog ops Q rest (a.put o.dst (.agg (ptCells 9 T).toArray)) w) :
    wpList Try.prog ops Q (o :: rest) a w := by
  have hrun := run_load_parts h
  refine wpList_plain hg fun K' hK' => ?_
  unfold Oper.wp
  simp [execOp, hop, hp, hrun, Result.andThen]
  exact hK' _ _ hK
theorem wpList_index_part {ops : Array Oper} {Q : Exit → Act → World → Prop} {rest : List Oper} {a : Act} {o : Oper} (hg : o.guard = none) (p i : Operand) (hop : o.op = Op.index 64 p i) (w : World) (k : Nat) (hk : k < 9) (hp : a.eval p = .agg (ptCells 9 T).toArray) (hi : a.eval i = .int .i64 k) (hK : wpList Try.prog ops Q rest (a.put o.dst (prv (T k))) w) :
    wpList Try.prog ops Q (o :: rest) a w := by
  have hrun := run_index_part T w k hk
  refine wpList_plain hg fun K' hK' => ?_
  unfold Oper.wp
  simp only [execOp, hop, hp, hi, Sem.run_bind, Sem.run_pure, hrun, Result.andThen]
  exact hK' _ _ hK
end

/-- What is wrong with a row beside those of T. -/
def chkT (T : Nat → Prt) (p : Prt) : Int := if mayB p = false then 2 else if ¬ (T p.1.toNat).1 = 0 then 15 else if (List.range 9).any (fun k => meetsB (spd p) (spd (T k))) then 11 else 0
theorem chkT_meet {T : Nat → Prt} {p : Prt} {k : Nat} (h1 : mayB p = true) (h2 : (T p.1.toNat).1 = 0) (hk : k < 9) (hm : meetsB (spd p) (spd (T k)) = true) : chkT T p = 11 := by
  have : (List.range 9).any (fun k => meetsB (spd p) (spd (T k))) = true := List.any_eq_true.2 ⟨k, List.mem_range.2 hk, hm⟩
  unfold chkT
  rw [if_neg (by simp [h1]), if_neg (by simp [h2]), if_pos this]
theorem chkT_end {T : Nat → Prt} {p : Prt} (h1 : mayB p = true) (h2 : (T p.1.toNat).1 = 0) (hm : ∀ k, k < 9 → meetsB (spd p) (spd (T k)) = false) : chkT T p = 0 := by
  have : ¬ (List.range 9).any (fun k => meetsB (spd p) (spd (T k))) = true := by
    intro h
    obtain ⟨k, hk, e⟩ := List.any_eq_true.1 h
    rw [hm k (List.mem_range.1 hk)] at e
    cases e
  unfold chkT
  rw [if_neg (by simp [h1]), if_neg (by simp [h2]), if_neg this]
end Go.Proofs.Ytlmdnhpdeiekfaa
