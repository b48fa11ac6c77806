/- A fork of a board, and of rows; LatchForks. -/
import Derived.Test.YtbbgijjeimjgoaaLB6
import Derived.Deep.WholeRow
import Derived.Maps.AppendAt
namespace Go.Proofs.Ytbbgijjeimjgoaa
open Go.RowKit Go.Lib
set_option linter.unusedVariables false
set_option maxRecDepth 8000

theorem Lt.brd_info : (Try.prog.info? 42).map (·.size) = some 17 := by kernel_rfl
theorem Lt.brdC_size (c : Nat) (o : Nat → Nat × Nat) : (Lt.brdC c o).size = 17 := rfl
theorem Lt.brdC_one (c : Nat) (o : Nat → Nat × Nat) : (Lt.brdC c o).all (·.oneCell') = true := by simp [Lt.brdC, Value.oneCell']
theorem Lt.wp_lb {ops : Array Oper} {Q : Exit → Act → World → Prop} {rest : List Oper} {a : Act} {o : Oper} (hg : o.guard = none) (p : Operand) (hop : o.op = Op.load 42 p) (w : World) (e : Nat) (cs : Array Value) (hsz : cs.size = 17) (hb : Blk w e 42 cs) (hp : a.eval p = .pointer (some ⟨e, 0, none⟩)) (hK : wpList Try.prog ops Q rest (a.put o.dst (.agg cs)) w) :
    wpList Try.prog ops Q (o :: rest) a w := by
  have hrun : (Instr.loadAt 42 (.pointer (some ⟨e, 0, none⟩))).run Try.prog w = .ok (.agg cs) w := by
    simp only [Instr.loadAt, Instr.sureAddr, Sem.run_bind, Sem.run_pure, Result.andThen]
    exact run_loadVar_row w e 42 42 cs (0, 0) _ hb Try.underlying42 rfl (by rw [Lt.brd_info, hsz])
  refine wpList_plain hg fun K' hK' => ?_
  unfold Oper.wp
  simp [execOp, hop, hp, hrun, Result.andThen]
  exact hK' _ _ hK
theorem Lt.wp_sb {ops : Array Oper} {Q : Exit → Act → World → Prop} {rest : List Oper} {a : Act} {o : Oper} (hg : o.guard = none) (p v : Operand) (hop : o.op = Op.store 42 p v) (w : World) (cs : Array Value) (hsz : cs.size = 17) (ho : cs.all (·.oneCell') = true) (hp : a.eval p = .pointer (some ⟨w.heap.size, 0, none⟩)) (hv : a.eval v = .agg cs) (hK : wpList Try.prog ops Q rest (a.put o.dst undef) (w.alloc (.cells cs 42))) :
    wpList Try.prog ops Q (o :: rest) a (w.alloc (.cells (Lt.brdC 0 Lt.o0) 42)) := by
  have hrun := run_storeAt_new (P := Try.prog) w 42 (Lt.brdC 0 Lt.o0) cs (by rw [Lt.brd_info, hsz]) (by rw [hsz]; rfl) ho
  refine wpList_plain hg fun K' hK' => ?_
  unfold Oper.wp
  simp [execOp, hop, hp, hv, hrun, Result.andThen]
  exact hK' _ _ hK
theorem Lt.fork_nil (w : World) : Calls Try.prog 15 #[.pointer none] w fun e w' => e = .returned (.pointer none) ∧ w = w' := by
  go_enter Try.func15, Try.ntmps15
  go_wp2
  go_ret
  exact ⟨rfl, rfl⟩
set_option maxRecDepth 20000 in
set_option maxHeartbeats 1600000 in
theorem Lt.fork_any (w : World) (b c : Nat) (o : Nat → Nat × Nat) (h : Lt.Brd w b c o) : Calls Try.prog 15 #[.pointer (some ⟨b, 0, none⟩)] w fun r w' => r = .returned (.pointer (some ⟨w.heap.size, 0, none⟩)) ∧ w' = w.alloc (.cells (Lt.brdC c o) 42) := by
  have HB := Lib.hid h.blk
  have HS := Lib.hid (Lt.brdC_size c o)
  have HO := Lib.hid (Lt.brdC_one c o)
  obtain ⟨cs, hcs⟩ : ∃ cs, cs = Lt.brdC c o := ⟨_, rfl⟩
  rw [← hcs] at HB HS HO ⊢
  clear hcs h
  go_enter Try.func15, Try.ntmps15
  go_wp2_with (first
    | (refine Lt.wp_lb (o := ⟨some 8, .load 42 (.tmp 7), _, _, _, none⟩) rfl (.tmp 7) rfl w b cs HS.out HB.out rfl ?_)
    | (refine Lt.wp_sb (o := ⟨none, .store 42 (.tmp 3) (.tmp 8), _, _, _, none⟩) rfl (.tmp 3) (.tmp 8) rfl w cs HS.out HO.out rfl rfl ?_))
  go_ret
  exact ⟨rfl, rfl⟩
theorem Lt.run_all {P : Program} {s : Nat} (w : World) (t e ty : TypeId) (i : TypeInfo) (z : Value) (bytes : Nat) (ht : P.underlying t = some (.slice e)) (hi : P.info? e = some i) (hz : i.zero = some z) (hs : i.size = s) (hby : i.bytes = bytes) (hb16 : bytes ≤ 128) (hzs : z.cells.size = s)
    (b m : Nat) (hb : b < w.heap.size) (xs : Value) (x : List Value) (hx : Src P s t xs m x w) (hn : m ≤ 1000000) :
    ∃ v' w', (Builtin.append_ #[t, t] ty #[.slice (some ⟨b, 0, none⟩) 0 0, xs]).run P w = .ok v' w' ∧ RowZ s w' v' m x ∧ w.grownBy w' none ∧ (v'.ownBlock = some b ∨ v'.ownBlock = some w.heap.size) ∧ ∃ A c, v' = .slice (some A) m c := by
  have hxl : x.length = m * s := hx.newsLen
  have hsrc : Src P i.size t xs m x w := by rw [hs]; exact hx
  rcases Nat.eq_zero_or_pos m with rfl | hm
  · have hx0 : x = [] := List.eq_nil_of_length_eq_zero (by omega)
    subst hx0
    have hr := run_append_room_src (P := P) w t t ty e i ht hi b 0 0 0 xs 0 [] hsrc (by omega) (by simp) (by simp)
    exact ⟨_, _, hr, RowZ.empty s 0 hb, only_refl w none, .inl rfl, _, _, rfl⟩
  · have hbm : (0 + m) * bytes ≤ 140737488355328 := by
      have : (0 + m) * bytes ≤ 1000001 * 128 := Nat.mul_le_mul (by omega) hb16
      omega
    have hold := ((RowZ.empty (w := w) s 0 hb).drewN 1).src (P := P) t e ht (by simp) |>.cells
    have hm2 : 0 + m ≤ maxLen := by unfold maxLen; omega
    have hge := grownCap_ge w (0 + m) 0 e
    have hcm := grownCap_le_maxLen w (0 + m) 0 e hm2
    have hr := run_append_grow_src (P := P) w t t ty e i z ht hi hz (some ⟨b, 0, none⟩) 0 0 [] (by rw [hs]; exact hold) xs m x hsrc (by omega) (by omega) (by rw [hby]; exact growslice_fits (by omega) hbm)
    rw [Nat.zero_add, List.nil_append] at hr
    rw [Nat.zero_add] at hge hcm
    refine ⟨_, _, hr, ?_, ⟨rfl, rfl, rfl, by simp, fun k hk _ => Below.heap_alloc w.drew _ k hk⟩, .inr rfl, _, _, rfl⟩
    refine RowZ.new w.drew _ e _ hxl ?_ hge hcm (fun j u hu => ?_)
    · simp only [Array.size_append, List.size_toArray, size_zeroCells, hzs, hxl]
      rw [← Nat.add_mul]
      congr 1
      omega
    · have hj := (List.getElem?_eq_some_iff.1 hu).1
      rw [Array.getElem?_append_left (by simpa using hj)]
      simpa using hu
/-- A fork of a board and a copy of its rows. -/
theorem Lt.two_fork {w : World} {b : Nat} {A : Option Addr} {n c J : Nat} {o : Nat → Nat × Nat} (h : Lt.Two w b A n c J o) : ∃ A2 c2 W, (Builtin.append_ #[25, 25] 25 #[.slice (some ⟨w.heap.size + 1, 0, none⟩) 0 0, .slice A n c]).run Try.prog ((w.alloc (.cells (Lt.brdC n o) 42)).alloc (.cells #[] 46)) = .ok (.slice (some A2) n c2) W ∧ Lt.Two W w.heap.size (some A2) n c2 J o ∧ Lt.Two W b A n c J o ∧ w.grownBy W none ∧ (∀ i, Lt.Ft w.heap.size (some A2) n c2 i → w.heap.size ≤ i) ∧ (∀ i, Lt.Ft b A n c i → i < w.heap.size) := by
  obtain ⟨X, h⟩ := h
  obtain ⟨i0, hi0, hz0, hz1, hz2⟩ := Lt.parts Lt.row_all
  have hcnt := h.brd.cnt
  obtain ⟨W1, hW1, G1, P1, Z1⟩ := Lt.box1 w 42 (Lt.brdC n o)
  obtain ⟨W2, hW2, G2, P2, Z2⟩ := Lt.box1 W1 46 #[]
  have hr2 := (h.row.grown G1).grown G2
  have hsrc := hr2.src (P := Try.prog) 25 46 Try.underlying25 (Lt.rwsL_one n X)
  obtain ⟨v', W, hk, hr, hg, ho, A2, c2, rfl⟩ := Lt.run_all (P := Try.prog) W2 25 46 25 i0 _ 72 Try.underlying25 hi0 hz0 hz1 hz2 (by omega) rfl (w.heap.size + 1) n (by omega) _ _ hsrc (by omega)
  have hown : ∀ i, (Value.slice (some A2) n c2).ownBlock = some i → w.heap.size + 1 ≤ i := fun i hi => by
    rcases ho with e | e
    · rw [e] at hi; injection hi with hi; omega
    · rw [e] at hi; injection hi with hi; omega
  have hw : w.grownBy W none := only_trans (only_trans G1 G2) hg
  refine ⟨A2, c2, W, by rw [← hW1, ← hW2]; exact hk, ⟨X, ⟨((P1.only G2 (by simp)).only hg (by simp)), hcnt, h.brd.lt⟩, hr, h.rel, fun e => by have := hown _ e; omega⟩, ⟨X, h.grown hw⟩, hw, fun i hi => ?_, fun i hi => ?_⟩
  · rcases hi with rfl | e
    · exact Nat.le_refl _
    · have := hown i e; omega
  · rcases hi with rfl | e
    · exact h.brd.blk.lt
    · exact h.row.lt i e
theorem Lt.Two.keeps {S : Nat → Prop} {w w' : World} {b : Nat} {A : Option Addr} {n c J : Nat} {o : Nat → Nat × Nat} (h : Lt.Two w b A n c J o) (k : Keeps S w w') (hS : ∀ i, Lt.Ft b A n c i → ¬ S i) : Lt.Two w' b A n c J o := by
  obtain ⟨X, h⟩ := h
  exact ⟨X, h.keeps k (hS b (.inl rfl)) (fun i hi => hS i (.inr hi))⟩
end Go.Proofs.Ytbbgijjeimjgoaa
