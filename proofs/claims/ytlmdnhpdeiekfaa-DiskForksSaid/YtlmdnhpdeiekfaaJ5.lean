/- A sector is written, as a step of a drawn region; what a disk puts down. -/
import Derived.Test.YtlmdnhpdeiekfaaJ4
import Derived.Lib.BufferWrite
import Derived.Deep.RegionLaw
import Derived.Deep.AppendLies
namespace Go.Proofs.Ytlmdnhpdeiekfaa
open Go.RowKit Go.Lib Go.Sort
set_option linter.unusedVariables false

/-- Bytes laid over a disk's, from one on. -/
def putS (S : Nat → UInt8) (a : Nat) (t : List UInt8) : Nat → UInt8 := fun k => if a ≤ k ∧ k < a + t.length then t.getD (k - a) 0 else S k
theorem putS_nil (S : Nat → UInt8) (a : Nat) : putS S a [] = S := by
  funext k
  rw [putS, if_neg (by simp)]
theorem putS_more (S : Nat → UInt8) (a n : Nat) (t : List UInt8) (hn : n ≤ t.length) : putS (putS S a (t.take n)) (a + n) ((t.drop n).take 16) = putS S a (t.take (n + 16)) := by
  funext k
  have l1 : (t.take n).length = n := by simp; omega
  have l2 : ((t.drop n).take 16).length = min 16 (t.length - n) := by simp
  have l3 : (t.take (n + 16)).length = min (n + 16) t.length := by simp
  simp only [putS, l1, l2, l3]
  by_cases h1 : a + n ≤ k ∧ k < a + n + min 16 (t.length - n)
  · rw [if_pos h1, if_pos (by omega)]
    rw [List.getD_eq_getElem?_getD, List.getD_eq_getElem?_getD, List.getElem?_take_of_lt (by omega), List.getElem?_drop, List.getElem?_take_of_lt (by omega)]
    congr 2
    omega
  · rw [if_neg h1]
    by_cases h2 : a ≤ k ∧ k < a + n
    · rw [if_pos h2, if_pos (by omega), List.getD_eq_getElem?_getD, List.getD_eq_getElem?_getD, List.getElem?_take_of_lt (by omega), List.getElem?_take_of_lt (by omega)]
    · rw [if_neg h2, if_neg (by omega)]
theorem secL_put (S : Nat → UInt8) (a : Nat) (t : List UInt8) (h : t.length = 16) : secL (putS S a t) a 16 = t := by
  apply List.ext_getElem?
  intro i
  by_cases hi : i < 16
  · rw [List.getElem?_eq_getElem (by rw [secL_len]; exact hi), List.getElem?_eq_getElem (by omega)]
    simp [secL, putS, hi, h]
  · rw [List.getElem?_eq_none (by rw [secL_len]; omega), List.getElem?_eq_none (by omega)]

theorem run_copy_row_take {P : Program} (w : World) (dT sT ty elem : TypeId) (g o dLen dCap : Nat) (s : ByteArray) (cur : Array Value) (t : TypeId)
    (hu : P.underlying dT = some (.slice elem)) (hs : (P.info? elem).map (·.size) = some 1) (hg : w.heap[g]? = some (.cells cur t (0, 0))) (hle : dLen ≤ s.size) (hfit : o + dLen ≤ cur.size) :
    (Builtin.copy_ #[dT, sT] ty #[.slice (some ⟨g, o, none⟩) dLen dCap, .string s]).run P w =
      .ok (goInt dLen) (w.setRow g (cur.toList.take o ++ Go.Lib.byteCells (s.data.toList.take dLen) ++ cur.toList.drop (o + dLen)).toArray) := by
  have hsz : s.data.toList.length = s.size := by rw [Array.length_toList]; rfl
  have hlen : (Go.Lib.byteCells (s.data.toList.take dLen)).length = dLen := by rw [Go.Lib.byteCells_length, List.length_take, hsz]; omega
  have hst := run_storeCells_at P g o t (Go.Lib.byteCells (s.data.toList.take dLen)) 0 cur w hg (by rw [hlen]; simpa using hfit) (Go.Lib.byteCells_one _)
  have hmin : Nat.min s.size dLen = dLen := Nat.min_eq_right hle
  have htk : List.take dLen (List.map (fun b : UInt8 => Value.int IntKind.u8 (b.toNat : Int)) s.data.toList) = Go.Lib.byteCells (s.data.toList.take dLen) := by
    rw [← List.map_take]
    rfl
  rw [hlen] at hst
  simp only [Nat.add_zero] at hst
  cases hq : P.info? elem with
  | none => simp [hq] at hs
  | some i =>
    simp [Builtin.copy_, run_underlying hu, Builtin.lenOf, Builtin.firstCells, sizeOf, typeInfo, hq, hmin]
    rw [htk, hst]
    simp [Result.andThen]

theorem over_get (cs : Array Value) (bs : List Value) (o : Nat) (h : o + bs.length ≤ cs.size) (k : Nat) : (cs.toList.take o ++ bs ++ cs.toList.drop (o + bs.length)).toArray[k]? = if o ≤ k ∧ k < o + bs.length then bs[k - o]? else cs[k]? := by
  have hl : cs.toList.length = cs.size := Array.length_toList
  have l1 : (cs.toList.take o).length = o := by rw [List.length_take, hl]; omega
  rw [List.getElem?_toArray, List.append_assoc]
  by_cases h1 : k < o
  · rw [List.getElem?_append_left (by omega), List.getElem?_take_of_lt h1, if_neg (by omega), Array.getElem?_toList]
  · rw [List.getElem?_append_right (by omega), l1]
    by_cases h2 : k < o + bs.length
    · rw [List.getElem?_append_left (by omega), if_pos (by omega)]
    · rw [List.getElem?_append_right (by omega), if_neg (by omega), List.getElem?_drop, Array.getElem?_toList]
      congr 1
      omega

section
variable {w w' : World} {b : Nat} {S : Nat → UInt8} {T : Nat → Prt} {bz : Bool} {j : Jb} {st : Int} {v : Value}
theorem only_row (w : World) (g : Nat) (xs : Array Value) : w.grownBy (w.setRow g xs) (some g) :=
  ⟨rfl, rfl, rfl, by simp [World.setRow], fun k _ hk => setRow_other w g k xs (fun e => hk (by rw [e]))⟩
theorem Dsk.over {cs : Array Value} (hb : Blk w b 66 cs) (hz : cs.size = 8227) (h1 : ∀ k, k < 8192 → cs[k]? = some (.int .u8 (S k).toNat)) (a : Nat) (t : List UInt8) (ha : a + t.length ≤ 8192) :
    ∃ cs', Blk (w.setRow b (cs.toList.take a ++ Go.Lib.byteCells t ++ cs.toList.drop (a + t.length)).toArray) b 66 cs' ∧ cs'.size = 8227 ∧ (∀ k, k < 8192 → cs'[k]? = some (.int .u8 (putS S a t k).toNat)) ∧ ∀ k, 8192 ≤ k → cs'[k]? = cs[k]? := by
  have hl := Go.Lib.byteCells_length t
  have hg := over_get cs (Go.Lib.byteCells t) a (by rw [hl]; omega)
  rw [hl] at hg
  refine ⟨(cs.toList.take a ++ Go.Lib.byteCells t ++ cs.toList.drop (a + t.length)).toArray, ?_, ?_, fun k hk => ?_, fun k hk => ?_⟩
  · show (World.setRow _ _ _).heap[b]? = _
    rw [setRow_heap w b _ _ _ _ hb]
  · have e : cs.toList.length = cs.size := Array.length_toList
    simp [hl]
    omega
  · rw [hg k, putS]
    by_cases h : a ≤ k ∧ k < a + t.length
    · rw [if_pos h, if_pos h, Go.Lib.byteCells, List.getElem?_map, List.getElem?_eq_getElem (by omega), List.getD_eq_getElem?_getD, List.getElem?_eq_getElem (by omega)]
      rfl
    · rw [if_neg h, if_neg h]
      exact h1 k hk
  · rw [hg k, if_neg (by omega)]

/-- copy of a string's first 16 bytes into a sector, as a step of a region that draws its order. -/
theorem step_copy_sec {ops : Array Oper} {o : Oper} {a : Act} {K : Act → World → Prop} {Q : Exit → Act → World → Prop} {E : Prop} (hgd : o.guard = none) (d s : Operand) (dT sT : TypeId)
    (ho : o.op = .call { callee := .builtin .copy, args := #[d, s], argTypes := #[dT, sT] }) (elem : TypeId) (hu : Try.prog.underlying dT = some (.slice elem)) (hsz : (Try.prog.info? elem).map (·.size) = some 1)
    (h : Dsk w b S T bz j st v) (off dCap : Nat) (t : ByteArray) (hd : a.eval d = .slice (some ⟨b, off, none⟩) 16 dCap) (hs : a.eval s = .string t) (ht : 16 ≤ t.size) (hfit : off + 16 ≤ 8192)
    (hK : ∀ w', Dsk w' b (putS S off (t.data.toList.take 16)) T bz j st v → w.grownBy w' (some b) → K (a.put o.dst (goInt 16)) w') :
    if Region.wanted o (yielded ops a.tmps) = true then Oper.wp Try.prog o a w K Q else E := by
  have hw : Region.wanted o (yielded ops a.tmps) = true := by simp [Region.wanted, hgd]
  rw [if_pos hw]
  obtain ⟨cs, h0, h1, h2, h3, h4, h5, h6, h7, h8, h9, h10, h11⟩ := h
  have hrun := run_copy_row_take (P := Try.prog) w dT sT o.type elem b off 16 dCap t cs _ hu hsz h0 ht (by omega)
  have hlen : (t.data.toList.take 16).length = 16 := by
    rw [List.length_take, Array.length_toList]
    show min 16 t.size = 16
    omega
  obtain ⟨cs', a1, a2, a3, a4⟩ := Dsk.over h0 h1 h2 off (t.data.toList.take 16) (by omega)
  rw [hlen] at a1
  have hk := hK _ ⟨cs', a1, a2, a3, fun k hk => by rw [a4 _ (by omega), a4 _ (by omega), a4 _ (by omega)]; exact h3 k hk, by rw [a4 _ (by omega)]; exact h4, by rw [a4 _ (by omega)]; exact h5, by rw [a4 _ (by omega)]; exact h6, by rw [a4 _ (by omega)]; exact h7, by rw [a4 _ (by omega)]; exact h8, by rw [a4 _ (by omega)]; exact h9, by rw [a4 _ (by omega)]; exact h10, by rw [a4 _ (by omega)]; exact h11⟩ (only_row _ _ _)
  unfold Oper.wp
  simp only [execOp, ho, resolve, invoke, builtin, Sem.run_bind, Sem.run_pure, Result.andThen_ok, List.map_toArray, List.map_cons, List.map_nil, hd, hs, hrun]
  exact hk

/-- A new log. -/
theorem Dsk.setLog (h : Dsk w b S T bz j st v) (u : Value) : Dsk (w.setCell ⟨b, 8226, none⟩ u) b S T bz j st u := by
  obtain ⟨cs, h0, h1, h2, h3, h4, h5, h6, h7, h8, h9, h10, h11⟩ := h
  refine ⟨_, h0.put 8226 u, by simpa using h1, fun k hk => ?_, fun k hk => ?_, ?_, ?_, ?_, ?_, ?_, ?_, ?_, ?_⟩
  · rw [Array.getElem?_setIfInBounds, if_neg (by omega)]; exact h2 k hk
  · rw [Array.getElem?_setIfInBounds, if_neg (by omega), Array.getElem?_setIfInBounds, if_neg (by omega), Array.getElem?_setIfInBounds, if_neg (by omega)]; exact h3 k hk
  all_goals first | (rw [Array.getElem?_setIfInBounds, if_neg (by omega)]; assumption) | skip
  rw [Array.getElem?_setIfInBounds, if_pos rfl, if_pos (by omega)]
end

/-- What was put down: tick, owner, sector, bytes. -/
abbrev Rec := Int × Int × Int × ByteArray
def recCells (r : Rec) : List Value := [.int .i64 r.1, .int .i64 r.2.1, .int .i64 r.2.2.1, .string r.2.2.2]
def rcCells (n : Nat) (rc : Nat → Rec) : List Value := (List.range n).flatMap fun i => recCells (rc i)
theorem rcCells_succ (n : Nat) (rc : Nat → Rec) : rcCells (n + 1) rc = rcCells n rc ++ recCells (rc n) := by simp [rcCells, List.range_succ]
theorem rcCells_len (n : Nat) (rc : Nat → Rec) : (rcCells n rc).length = n * 4 := by
  induction n with
  | zero => rfl
  | succ n ih => rw [rcCells_succ, List.length_append, ih]; simp [recCells]; omega
theorem recCells_cell (r : Rec) : ∀ u ∈ recCells r, u.oneCell' = true := by
  intro u hu
  simp [recCells] at hu
  rcases hu with rfl | rfl | rfl | rfl <;> rfl
theorem rcCells_cell (n : Nat) (rc : Nat → Rec) : ∀ u ∈ rcCells n rc, u.oneCell' = true := by
  intro u hu
  simp only [rcCells, List.mem_flatMap] at hu
  obtain ⟨i, _, hi⟩ := hu
  exact recCells_cell _ u hi
theorem rcCells_congr {n : Nat} {f g : Nat → Rec} (h : ∀ i, i < n → f i = g i) : rcCells n f = rcCells n g := by
  unfold rcCells
  rw [List.flatMap_def, List.flatMap_def]
  congr 1
  apply List.map_congr_left
  intro i hi
  rw [h i (List.mem_range.1 hi)]
theorem rcCells_at {n : Nat} (rc : Nat → Rec) {i j : Nat} (hi : i < n) (hj : j < 4) : (rcCells n rc)[i * 4 + j]? = (recCells (rc i))[j]? := by
  induction n with
  | zero => omega
  | succ n ih =>
    rw [rcCells_succ]
    by_cases h : i < n
    · rw [List.getElem?_append_left (by rw [rcCells_len]; omega)]
      exact ih h
    · obtain rfl : i = n := by omega
      rw [List.getElem?_append_right (by rw [rcCells_len]; omega), rcCells_len]
      congr 1
      omega
def LogV (w : World) (B : Nat) (v : Value) (n : Nat) (rc : Nat → Rec) : Prop := w.ownsRow B 48 4 v n (rcCells n rc)
theorem log_info : (Try.prog.info? 48).map (fun i => (i.zero, i.size, i.bytes)) = some (some (.agg #[.int .i64 0, .int .i64 0, .int .i64 0, .string ⟨#[]⟩]), 4, 40) := by kernel_rfl
section
variable {w w' : World} {B n : Nat} {v : Value} {rc : Nat → Rec}
theorem LogV.form (h : LogV w B v n rc) : ∃ A c, v = .slice A n c := own_form h
theorem LogV.only {row : Option Nat} (h : LogV w B v n rc) (hb : w.grownBy w' row) (hne : v.ownBlock = none ∨ v.ownBlock ≠ row) : LogV w' B v n rc := World.ownsRow.kept h hb hne
theorem LogV.grown (h : LogV w B v n rc) (hb : w.grownBy w' none) : LogV w' B v n rc := h.only hb (by cases hv : v.ownBlock <;> simp)
theorem LogV.below (h : LogV w B v n rc) (hb : Below w.heap.size w w') : LogV w' B v n rc := h.grown (only_far hb)
theorem LogV.blk (h : LogV w B v n rc) : ∀ k, v.ownBlock = some k → B ≤ k ∧ k < w.heap.size := fun k hk => World.ownsRow.lt h k hk
theorem LogV.nil (w : World) (B : Nat) (rc : Nat → Rec) : LogV w B (.slice none 0 0) 0 rc := World.ownsRow_nil _ _ _ _
theorem LogV.has (h : LogV w B v n rc) {k : Nat} (hk : v.ownBlock = some k) : ∃ cur, Blk w k 48 cur := by
  have h' : w.ownsRow B 48 4 v n (rcCells n rc) := h
  rcases h'.2 with ⟨rfl, _⟩ | ⟨g', cap, cur, rfl, _, hh, _⟩
  · simp [Value.ownBlock] at hk
  · have e1 : g' = k := by simpa [Value.ownBlock] using hk
    subst e1
    exact ⟨cur, hh⟩
theorem LogV.apart {i : Nat} {t : TypeId} {cs : Array Value} (h : LogV w B v n rc) (hi : Blk w i t cs) (hne : 48 ≠ t) : v.ownBlock ≠ some i := own_ne h hi hne
theorem LogV.off {b : Nat} {S : Nat → UInt8} {T : Nat → Prt} {bz : Bool} {j : Jb} {st : Int} {u : Value} (h : LogV w B v n rc) (hd : Dsk w b S T bz j st u) : v.ownBlock ≠ some b := by
  obtain ⟨cs, h0, _⟩ := hd
  exact h.apart h0 (by decide)
end
end Go.Proofs.Ytlmdnhpdeiekfaa
