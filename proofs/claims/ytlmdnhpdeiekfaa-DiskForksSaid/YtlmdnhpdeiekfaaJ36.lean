/- A fork of a disk, by its contract. -/
import Derived.Test.YtlmdnhpdeiekfaaJ14
import Derived.Test.YtlmdnhpdeiekfaaJ15
import Derived.Deep.WholeRow
import Derived.Deep.Onto
namespace Go.Proofs.Ytlmdnhpdeiekfaa
open Go.RowKit Go.Lib Go.Sort
set_option linter.unusedVariables false

theorem dev_info : (Try.prog.info? 66).map (fun i => (i.zero, i.size)) = some (some (.agg devZ), 8227) := by kernel_rfl
theorem dev_size : (Try.prog.info? 66).map (·.size) = some 8227 := (zero_of_info dev_info).2
theorem wpList_alloc_dev {ops : Array Oper} {Q : Exit → Act → World → Prop} {rest : List Oper} {a : Act} {o : Oper} {w : World} (hg : o.guard = none) (hop : o.op = .alloc 66) (Z : Array Value) (hZ : Z = devZ) (hK : wpList Try.prog ops Q rest (a.put o.dst (.pointer (some ⟨w.heap.size, 0, none⟩))) (w.alloc (.cells Z 66))) :
    wpList Try.prog ops Q (o :: rest) a w := by
  subst hZ
  have hrun : (Instr.alloc 66 true (.tuple #[])).run Try.prog w = .ok (.pointer (some ⟨w.heap.size, 0, none⟩)) (w.alloc (.cells devZ 66)) := by
    have hz := (zero_of_info dev_info).1 w
    simp only [Instr.alloc, Sem.run_bind, Sem.run_pure, Result.andThen, hz, newVar, newRow, run_newObj_alloc, Value.cells]
  refine wpList_plain hg fun K' hK' => ?_
  unfold Oper.wp
  simp [execOp, hop, hrun, Result.andThen]
  exact hK' _ _ hK
theorem wpList_store_dev {ops : Array Oper} {Q : Exit → Act → World → Prop} {rest : List Oper} {a : Act} {o : Oper} (hg : o.guard = none) (p v : Operand) (hop : o.op = Op.store 66 p v) (w : World) (Z cs : Array Value) (hZ : Z.size = 8227) (hsz : cs.size = 8227) (ho : cs.all (·.oneCell') = true) (hp : a.eval p = .pointer (some ⟨w.heap.size, 0, none⟩)) (hv : a.eval v = .agg cs) (hK : wpList Try.prog ops Q rest (a.put o.dst undef) (w.alloc (.cells cs 66))) :
    wpList Try.prog ops Q (o :: rest) a (w.alloc (.cells Z 66)) := by
  have hrun := run_storeAt_new (P := Try.prog) w 66 Z cs (by rw [dev_size, hsz]) (by rw [hsz]; exact hZ) ho
  refine wpList_plain hg fun K' hK' => ?_
  unfold Oper.wp
  simp [execOp, hop, hp, hv, hrun, Result.andThen]
  exact hK' _ _ hK
theorem wpList_load_dev {ops : Array Oper} {Q : Exit → Act → World → Prop} {rest : List Oper} {a : Act} {o : Oper} (hg : o.guard = none) (p : Operand) (hop : o.op = Op.load 66 p) (w : World) (e : Nat) (cs : Array Value) (hsz : cs.size = 8227) (hb : Blk w e 66 cs) (hp : a.eval p = .pointer (some ⟨e, 0, none⟩)) (hK : wpList Try.prog ops Q rest (a.put o.dst (.agg cs)) w) :
    wpList Try.prog ops Q (o :: rest) a w := by
  have hrun : (Instr.loadAt 66 (.pointer (some ⟨e, 0, none⟩))).run Try.prog w = .ok (.agg cs) w := by
    simp only [Instr.loadAt, Instr.sureAddr, Sem.run_bind, Sem.run_pure, Result.andThen]
    exact run_loadVar_row w e 66 66 cs (0, 0) _ hb Try.underlying66 rfl (by rw [dev_size, hsz])
  refine wpList_plain hg fun K' hK' => ?_
  unfold Oper.wp
  simp [execOp, hop, hp, hrun, Result.andThen]
  exact hK' _ _ hK
/-- The cells of a disk. -/
def DevC (cs : Array Value) (S : Nat → UInt8) (T : Nat → Prt) (bz : Bool) (j : Jb) (st : Int) (v : Value) : Prop :=
  cs.size = 8227 ∧ (∀ k, k < 8192 → cs[k]? = some (.int .u8 (S k).toNat)) ∧ (∀ k, k < 9 → cs[8192 + k * 3]? = some (.int .i64 (T k).1) ∧ cs[8192 + k * 3 + 1]? = some (.int .i64 (T k).2.1) ∧ cs[8192 + k * 3 + 2]? = some (.int .i64 (T k).2.2)) ∧
    cs[8219]? = some (.bool bz) ∧ cs[8220]? = some (.int .i64 j.1) ∧ cs[8221]? = some (.int .i64 j.2.1) ∧ cs[8222]? = some (.int .i64 j.2.2.1) ∧ cs[8223]? = some (.bool j.2.2.2.1) ∧ cs[8224]? = some (.string j.2.2.2.2) ∧ cs[8225]? = some (.int .i64 st) ∧ cs[8226]? = some v
section
variable {w w' : World} {b B n : Nat} {S : Nat → UInt8} {T : Nat → Prt} {bz : Bool} {j : Jb} {st : Int} {v : Value} {cs : Array Value} {rc : Nat → Rec}
theorem DevC.ones (h : DevC cs S T bz j st v) (hv : v.oneCell' = true) : cs.all (·.oneCell') = true := by
  obtain ⟨h1, h2, h3, h4, h5, h6, h7, h8, h9, h10, h11⟩ := h
  rw [Array.all_eq_true]
  intro i hi
  have key : ∀ u : Value, cs[i]? = some u → u.oneCell' = true → cs[i].oneCell' = true := fun u h q => by
    rw [Array.getElem?_eq_getElem hi] at h
    injection h with h
    rw [h]
    exact q
  by_cases q1 : i < 8192
  · exact key _ (h2 i q1) rfl
  by_cases q2 : i < 8219
  · obtain ⟨k, r, hk, hr, e⟩ : ∃ k r, k < 9 ∧ r < 3 ∧ i = 8192 + k * 3 + r := ⟨(i - 8192) / 3, (i - 8192) % 3, by omega, by omega, by omega⟩
    obtain ⟨a0, a1, a2⟩ := h3 k hk
    subst e
    match r, hr with
    | 0, _ => exact key _ a0 rfl
    | 1, _ => exact key _ a1 rfl
    | 2, _ => exact key _ a2 rfl
  have hc : i = 8219 ∨ i = 8220 ∨ i = 8221 ∨ i = 8222 ∨ i = 8223 ∨ i = 8224 ∨ i = 8225 ∨ i = 8226 := by omega
  rcases hc with rfl | rfl | rfl | rfl | rfl | rfl | rfl | rfl
  · exact key _ h4 rfl
  · exact key _ h5 rfl
  · exact key _ h6 rfl
  · exact key _ h7 rfl
  · exact key _ h8 rfl
  · exact key _ h9 rfl
  · exact key _ h10 rfl
  · exact key _ h11 hv
theorem DevC.log (h : DevC cs S T bz j st v) (v' : Value) : DevC (cs.setIfInBounds 8226 v') S T bz j st v' := by
  obtain ⟨h1, h2, h3, h4, h5, h6, h7, h8, h9, h10, h11⟩ := h
  have key : ∀ i, i < 8226 → (cs.setIfInBounds 8226 v')[i]? = cs[i]? := fun i hi => by rw [Array.getElem?_setIfInBounds, if_neg (by omega)]
  refine ⟨by simpa using h1, fun k hk => ?_, fun k hk => ?_, ?_, ?_, ?_, ?_, ?_, ?_, ?_, ?_⟩
  · rw [key _ (by omega)]; exact h2 k hk
  · rw [key _ (by omega), key _ (by omega), key _ (by omega)]; exact h3 k hk
  all_goals first | (rw [key _ (by omega)]; assumption) | (rw [Array.getElem?_setIfInBounds, if_pos rfl, if_pos (by omega)])
/-- What a fork leaves: one more device that tells the same, with a log of its own. -/
def ForkV (b : Nat) (S : Nat → UInt8) (T : Nat → Prt) (bz : Bool) (j : Jb) (st : Int) (n : Nat) (rc : Nat → Rec) (w : World) (e : Ending) (w' : World) : Prop :=
  ∃ f v', e = .returned (.pointer (some ⟨f, 0, none⟩)) ∧ w.heap.size ≤ f ∧ Dsk w' f S T bz j st v' ∧ LogV w' w.heap.size v' n rc ∧ v'.ownBlock ≠ some f ∧ Below w.heap.size w w'
set_option maxHeartbeats 3200000 in
set_option maxRecDepth 100000 in
theorem dfork_any (h : Dsk w b S T bz j st v) (hl : LogV w B v n rc) (hn : n ≤ 1000) : Calls Try.prog 17 #[.pointer (some ⟨b, 0, none⟩)] w (ForkV b S T bz j st n rc w) := by
  have hlt := h.lt
  have hne : ¬ b = w.heap.size := by omega
  have hne' : ¬ w.heap.size = b := by omega
  obtain ⟨cs, hB, hC⟩ := h
  have HDC : Hid (DevC cs S T bz j st v) := Lib.hid hC
  obtain ⟨Av, cv, rfl⟩ := hl.form
  have h8 : cs[8226]? = some (.slice Av n cv) := hC.2.2.2.2.2.2.2.2.2.2
  have HO := Lib.hid (HDC.out.ones rfl)
  have HSZ := Lib.hid hC.1
  have H8 := Lib.hid h8
  have HB := Lib.hid hB
  have HLT := Lib.hid hlt
  have HL := Lib.hid hl
  have HZS := Lib.hid devZ_size
  generalize hz : devZ = Z at HZS
  have HZ := Lib.hid hz.symm
  clear hz hlt hB hC hl h8
  go_enter Try.func17, Try.ntmps17
  go_wp2_with (first
    | (refine wpList_load_dev (o := ⟨some 8, .load 66 (.tmp 7), _, _, _, none⟩) rfl (.tmp 7) rfl w b cs HSZ.out HB.out rfl ?_)
    | (refine wpList_alloc_dev (o := ⟨some 3, .alloc 66, _, _, _, none⟩) rfl rfl Z HZ.out ?_)
    | (refine wpList_store_dev (o := ⟨none, .store 66 (.tmp 3) (.tmp 8), _, _, _, none⟩) rfl (.tmp 3) (.tmp 8) rfl w Z cs HZS.out HSZ.out HO.out rfl rfl ?_; obtain ⟨w2, hw2⟩ : ∃ w2, w2 = w.alloc (.cells cs 66) := ⟨_, rfl⟩; have hb := Blk.new w 66 cs; have hbe := HB.out.alloc (.cells cs 66); have hbl := (Below.refl w.heap.size w).alloc (Nat.le_refl _) (.cells cs 66); have hll := HL.out.below hbl; rw [← hw2] at hb hbe hbl hll ⊢; clear hw2; have m2' := (hbe.cell 8226).trans H8.out; have N2 := Lib.hid hb; have L2 := Lib.hid hbl; have K2 := Lib.hid hll; clear hb hbe hbl hll)
    | (go_at_call 28; refine (clone_any w2 _ _ n rc K2.out hn).mono ?_; rintro r w1 ⟨v', rfl, l1, b1⟩; have hs2 := N2.out.lt; have N3 := Lib.hid (N2.out.below b1 hs2); have L3 := Lib.hid (L2.out.trans (b1.mono L2.out.size)); have V3 := Lib.hid l1; have HW2 := Lib.hid hs2; have f8 := N3.out.free 8226; have n8 := (N3.out.cell 8226).trans H8.out; obtain ⟨A3, c3, rfl⟩ := l1.form; clear l1 b1 hs2))
  go_ret
  have hw2 : w.heap.size < w2.heap.size := HW2.out
  have hob : (Value.slice A3 n c3).ownBlock ≠ some w.heap.size := fun e => by
    have := (V3.out.blk _ e).1
    omega
  refine ⟨w.heap.size, _, rfl, Nat.le_refl _, ⟨_, N3.out.put 8226 _, HDC.out.log _⟩, ?_, hob, ?_⟩
  · have q := V3.out.only (only_put (only_refl _ (some w.heap.size)) 8226 (Value.slice A3 n c3)) (.inr hob)
    exact World.ownsRow.mono q (by omega)
  · exact L3.out.setCell (Nat.le_refl _) _
end
end Go.Proofs.Ytlmdnhpdeiekfaa
