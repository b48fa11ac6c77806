import Derived.Test.YthlapnljinkekabJF06
import Derived.Test.YthlapnljinkekabJF03
import Derived.Deep.WholeRow
import Derived.Test.YthlapnljinkekabJF01
import Derived.Test.YthlapnljinkekabJF02
import Derived.ShutString
import Derived.ChangeOld
set_option linter.all false
/- The document's answer for bursts: Size, Ask: their contracts. -/
namespace Go.Proofs.Ythlapnljinkekab
open Go.RowKit Go.Lib Go.Sort
set_option linter.unusedVariables false

/-- A deed by value. -/
def deedV (t o a q : Int) (b : Bool) (s : ByteArray) : Value := .agg #[.int .i64 t, .int .i64 o, .int .i64 a, .int .i64 q, .bool b, .string s]
/-- How many bytes a deed has. -/
def deedN (q : Int) (b : Bool) (s : ByteArray) : Int := if b then s.size else q
theorem dsize_any (t o a q : Int) (b : Bool) (s : ByteArray) (w : World) : Calls Try.prog 14 #[.agg #[.int .i64 t, .int .i64 o, .int .i64 a, .int .i64 q, .bool b, .string s]] w fun e w' => e = .returned (.int .i64 (deedN q b s)) ∧ Below w.heap.size w w' := by
  cases b
  all_goals
    go_enter Try.func14, Try.ntmps14
    go_wp2
    go_ret
    exact ⟨rfl, by first | exact Below.refl _ _ | exact (Below.refl _ _).alloc (Nat.le_refl _) _⟩
theorem mapV_low {L : List Reg} (hm : AllMay L) {o a n : Int} (ho : o < 1) : mapV L o a n = (0, 7) := by
  unfold mapV
  cases hl : lookL L o with
  | none => rfl
  | some r =>
    have h1 := mayB_iff.1 (hm.look hl)
    have h2 := (lookL_some hl).2
    omega
set_option maxHeartbeats 1600000 in
theorem rask_any (A : Option Addr) (n cap : Nat) (d : Nat → Reg) (A2 : Option Addr) (len2 cap2 : Nat) (t o a q : Int) (b : Bool) (s : ByteArray) (w : World) (hst : Regs w A n cap d) (hn : n ≤ 1000000) (h0 : chkN d n = 0) (ha : fitI a) (hl : len2 ≤ 1000000) :
    Calls Try.prog 29 #[.slice A n cap, .slice A2 len2 cap2, .agg #[.int .i64 t, .int .i64 o, .int .i64 a, .int .i64 q, .bool b, .string s]] w fun e w' => e = .returned (.tuple #[.int .i64 (askV (rws d n) len2 o a (deedN q b s)).1, .int .i64 (askV (rws d n) len2 o a (deedN q b s)).2]) ∧ Below w.heap.size w w' := by
  have hmay := chkN_may h0
  have hsz := fun W => dsize_any t o a q b s W
  generalize deedN q b s = N at hsz ⊢
  have hmp := fun W (hW : Below w.heap.size w W) => rmap_any A n cap d o a N W (hst.below hW) hn h0 ha
  have hlow : o < 1 → mapV (rws d n) o a N = (0, 7) := fun h => mapV_low hmay h
  unfold askV
  generalize mapV (rws d n) o a N = yc at hmp hlow ⊢
  obtain ⟨y, c⟩ := yc
  simp only at hmp ⊢
  have hth := fun W => there_any A2 len2 cap2 y N W hl
  generalize thereB len2 y N = tb at hth ⊢
  have HSZ := Lib.hid hsz
  have HMP := Lib.hid hmp
  have HTH := Lib.hid hth
  have HB0 := Lib.hid ((Below.refl w.heap.size w).alloc (Nat.le_refl _) (.cells #[.int .i64 t, .int .i64 o, .int .i64 a, .int .i64 q, .bool b, .string s] 39))
  have X0 := Lib.hid (Blk.new w 39 #[.int .i64 t, .int .i64 o, .int .i64 a, .int .i64 q, .bool b, .string s])
  have key : (32 < N) ∨ (¬ 32 < N ∧ o < 1 ∧ y = 0 ∧ c = 7) ∨ (¬ 32 < N ∧ ¬ o < 1 ∧ c ≠ 0) ∨ (¬ 32 < N ∧ ¬ o < 1 ∧ c = 0) := by
    by_cases h1 : 32 < N
    · exact .inl h1
    · by_cases h2 : o < 1
      · have := hlow h2
        simp only [Prod.mk.injEq] at this
        exact .inr (.inl ⟨h1, h2, this⟩)
      · by_cases h3 : c = 0
        · exact .inr (.inr (.inr ⟨h1, h2, h3⟩))
        · exact .inr (.inr (.inl ⟨h1, h2, h3⟩))
  clear hlow hsz hmp hth hmay h0 hst
  rcases key with h1 | ⟨h1, h2, rfl, rfl⟩ | ⟨h1, h2, h3⟩ | ⟨h1, h2, rfl⟩
  · go_enter Try.func29, Try.ntmps29
    go_wp2_with (go_at_call 14; refine (HSZ.out _).mono ?_; rintro e w1 ⟨rfl, b1⟩; have X0 := Lib.hid (X0.out.below b1 X0.out.lt); have HB0 := Lib.hid (HB0.out.trans (b1.mono HB0.out.size)); have x0 := X0.out.cell 0; have x1 := X0.out.cell 1; have x2 := X0.out.cell 2; have x3 := X0.out.cell 3; have x4 := X0.out.cell 4; have x5 := X0.out.cell 5; simp at x0 x1 x2 x3 x4 x5; clear b1)
    go_ret2
    exact ⟨by simp [h1], HB0.out⟩
  · go_enter Try.func29, Try.ntmps29
    go_wp2_with (go_at_call 14; refine (HSZ.out _).mono ?_; rintro e w1 ⟨rfl, b1⟩; have X0 := Lib.hid (X0.out.below b1 X0.out.lt); have HB0 := Lib.hid (HB0.out.trans (b1.mono HB0.out.size)); have x0 := X0.out.cell 0; have x1 := X0.out.cell 1; have x2 := X0.out.cell 2; have x3 := X0.out.cell 3; have x4 := X0.out.cell 4; have x5 := X0.out.cell 5; simp at x0 x1 x2 x3 x4 x5; clear b1)
    have hmpw := fun W (hW : Below w1.heap.size w1 W) => HMP.out W (HB0.out.trans (hW.mono HB0.out.size))
    have HMPW := Lib.hid hmpw
    clear hmpw
    have k0 := fun d os => cell_regrown x0 d os
    have k1 := fun d os => cell_regrown x1 d os
    have k2 := fun d os => cell_regrown x2 d os
    have k3 := fun d os => cell_regrown x3 d os
    have k4 := fun d os => cell_regrown x4 d os
    have k5 := fun d os => cell_regrown x5 d os
    clear x0 x1 x2 x3 x4 x5
    refine wp_region_quiet_below (by kernel_rfl) (by kernel_rfl) ?_
    repeat (quiet_step ((first | (go_at_call 14; with_reducible exact Calls.regrown_of (HSZ.out _)) | (go_at_call 44; exact Calls.regrown_of (HMPW.out _ (below_regrown w1 _ _))))))
    refine wpQuiet_nil ?_
    rintro _ ⟨⟨dq, osq⟩, rfl⟩
    have b1 := below_regrown w1 dq osq
    generalize grow (redrawn w1 dq) osq = w2 at b1 ⊢
    have X0 := Lib.hid (X0.out.below b1 X0.out.lt)
    have HB0 := Lib.hid (HB0.out.trans (b1.mono HB0.out.size))
    have x0 := X0.out.cell 0
    have x1 := X0.out.cell 1
    have x2 := X0.out.cell 2
    have x3 := X0.out.cell 3
    have x4 := X0.out.cell 4
    have x5 := X0.out.cell 5
    simp at x0 x1 x2 x3 x4 x5
    clear b1
    clear k0 k1 k2 k3 k4 k5
    go_wp2
    go_ret2
    exact ⟨by simp [h1], HB0.out⟩
  · have h4 : ¬ c = 0 := h3
    go_enter Try.func29, Try.ntmps29
    go_wp2_with (go_at_call 14; refine (HSZ.out _).mono ?_; rintro e w1 ⟨rfl, b1⟩; have X0 := Lib.hid (X0.out.below b1 X0.out.lt); have HB0 := Lib.hid (HB0.out.trans (b1.mono HB0.out.size)); have x0 := X0.out.cell 0; have x1 := X0.out.cell 1; have x2 := X0.out.cell 2; have x3 := X0.out.cell 3; have x4 := X0.out.cell 4; have x5 := X0.out.cell 5; simp at x0 x1 x2 x3 x4 x5; clear b1)
    have hmpw := fun W (hW : Below w1.heap.size w1 W) => HMP.out W (HB0.out.trans (hW.mono HB0.out.size))
    have HMPW := Lib.hid hmpw
    clear hmpw
    have k0 := fun d os => cell_regrown x0 d os
    have k1 := fun d os => cell_regrown x1 d os
    have k2 := fun d os => cell_regrown x2 d os
    have k3 := fun d os => cell_regrown x3 d os
    have k4 := fun d os => cell_regrown x4 d os
    have k5 := fun d os => cell_regrown x5 d os
    clear x0 x1 x2 x3 x4 x5
    refine wp_region_quiet_below (by kernel_rfl) (by kernel_rfl) ?_
    repeat (quiet_step ((first | (go_at_call 14; with_reducible exact Calls.regrown_of (HSZ.out _)) | (go_at_call 44; exact Calls.regrown_of (HMPW.out _ (below_regrown w1 _ _))))))
    refine wpQuiet_nil ?_
    rintro _ ⟨⟨dq, osq⟩, rfl⟩
    have b1 := below_regrown w1 dq osq
    generalize grow (redrawn w1 dq) osq = w2 at b1 ⊢
    have X0 := Lib.hid (X0.out.below b1 X0.out.lt)
    have HB0 := Lib.hid (HB0.out.trans (b1.mono HB0.out.size))
    have x0 := X0.out.cell 0
    have x1 := X0.out.cell 1
    have x2 := X0.out.cell 2
    have x3 := X0.out.cell 3
    have x4 := X0.out.cell 4
    have x5 := X0.out.cell 5
    simp at x0 x1 x2 x3 x4 x5
    clear b1
    clear k0 k1 k2 k3 k4 k5
    go_wp2
    go_ret2
    exact ⟨by simp [h1, h3], HB0.out⟩
  · cases tb
    all_goals
      go_enter Try.func29, Try.ntmps29
      go_wp2_with (go_at_call 14; refine (HSZ.out _).mono ?_; rintro e w1 ⟨rfl, b1⟩; have X0 := Lib.hid (X0.out.below b1 X0.out.lt); have HB0 := Lib.hid (HB0.out.trans (b1.mono HB0.out.size)); have x0 := X0.out.cell 0; have x1 := X0.out.cell 1; have x2 := X0.out.cell 2; have x3 := X0.out.cell 3; have x4 := X0.out.cell 4; have x5 := X0.out.cell 5; simp at x0 x1 x2 x3 x4 x5; clear b1)
      have hmpw := fun W (hW : Below w1.heap.size w1 W) => HMP.out W (HB0.out.trans (hW.mono HB0.out.size))
      have HMPW := Lib.hid hmpw
      clear hmpw
      have k0 := fun d os => cell_regrown x0 d os
      have k1 := fun d os => cell_regrown x1 d os
      have k2 := fun d os => cell_regrown x2 d os
      have k3 := fun d os => cell_regrown x3 d os
      have k4 := fun d os => cell_regrown x4 d os
      have k5 := fun d os => cell_regrown x5 d os
      clear x0 x1 x2 x3 x4 x5
      refine wp_region_quiet_below (by kernel_rfl) (by kernel_rfl) ?_
      repeat (quiet_step ((first | (go_at_call 14; with_reducible exact Calls.regrown_of (HSZ.out _)) | (go_at_call 44; exact Calls.regrown_of (HMPW.out _ (below_regrown w1 _ _))))))
      refine wpQuiet_nil ?_
      rintro _ ⟨⟨dq, osq⟩, rfl⟩
      have b1 := below_regrown w1 dq osq
      generalize grow (redrawn w1 dq) osq = w2 at b1 ⊢
      have X0 := Lib.hid (X0.out.below b1 X0.out.lt)
      have HB0 := Lib.hid (HB0.out.trans (b1.mono HB0.out.size))
      have x0 := X0.out.cell 0
      have x1 := X0.out.cell 1
      have x2 := X0.out.cell 2
      have x3 := X0.out.cell 3
      have x4 := X0.out.cell 4
      have x5 := X0.out.cell 5
      simp at x0 x1 x2 x3 x4 x5
      clear b1
      clear k0 k1 k2 k3 k4 k5
      go_wp2_with (first
        | (go_at_call 14; refine (HSZ.out _).mono ?_; rintro e w4 ⟨rfl, b1⟩; have HB0 := Lib.hid (HB0.out.trans (b1.mono HB0.out.size)); clear b1)
        | (go_at_call 45; refine (HTH.out _).mono ?_; rintro e w9 ⟨rfl, rfl⟩))
      go_ret2
      exact ⟨by simp [h1], HB0.out⟩
end Go.Proofs.Ythlapnljinkekab

/- A fork of a new engine: its contract. -/
namespace Go.Proofs.Ythlapnljinkekab
open Go.RowKit Go.Lib Go.Sort
set_option linter.unusedVariables false

theorem eng_info : (Try.prog.info? 77).map (·.size) = some 21 := by kernel_rfl
def engZero : Array Value := #[.pointer none, .pointer none, .slice none 0 0, .int .i64 0, .int .i64 0, .int .i64 0, .int .i64 0, .int .i64 0, .int .i64 0, .int .i64 0, .int .i64 0, .int .i64 0, .int .i64 0, .int .i64 0, .int .i64 0, .int .i64 0, .int .i64 0, .int .i64 0, .int .i64 0, .int .i64 0, .int .i64 0]
theorem eng_ones (m t : Nat) : (engCells m t).all (·.oneCell') = true := by simp [engCells, Value.oneCell']
theorem wpList_store_eng {ops : Array Oper} {Q : Exit → Act → World → Prop} {rest : List Oper} {a : Act} {o : Oper} (hg : o.guard = none) (p v : Operand) (hop : o.op = Op.store 77 p v) (w : World) (cs : Array Value) (hsz : cs.size = 21) (ho : cs.all (·.oneCell') = true) (hp : a.eval p = .pointer (some ⟨w.heap.size, 0, none⟩)) (hv : a.eval v = .agg cs) (hK : wpList Try.prog ops Q rest (a.put o.dst undef) (w.alloc (.cells cs 77))) :
    wpList Try.prog ops Q (o :: rest) a (w.alloc (.cells engZero 77)) := by
  have hrun := run_storeAt_new (P := Try.prog) w 77 engZero cs (by rw [eng_info, hsz]) (by rw [hsz]; rfl) ho
  refine wpList_plain hg fun K' hK' => ?_
  unfold Oper.wp
  simp [execOp, hop, hp, hv, hrun, Result.andThen]
  exact hK' _ _ hK
theorem wpList_load_eng {ops : Array Oper} {Q : Exit → Act → World → Prop} {rest : List Oper} {a : Act} {o : Oper} (hg : o.guard = none) (p : Operand) (hop : o.op = Op.load 77 p) (w : World) (e : Nat) (cs : Array Value) (hsz : cs.size = 21) (hb : Blk w e 77 cs) (hp : a.eval p = .pointer (some ⟨e, 0, none⟩)) (hK : wpList Try.prog ops Q rest (a.put o.dst (.agg cs)) w) :
    wpList Try.prog ops Q (o :: rest) a w := by
  have hrun : (Instr.loadAt 77 (.pointer (some ⟨e, 0, none⟩))).run Try.prog w = .ok (.agg cs) w := by
    simp only [Instr.loadAt, Instr.sureAddr, Sem.run_bind, Sem.run_pure, Result.andThen]
    exact run_loadVar_row w e 77 77 cs (0, 0) _ hb Try.underlying77 rfl (by rw [eng_info, hsz])
  refine wpList_plain hg fun K' hK' => ?_
  unfold Oper.wp
  simp [execOp, hop, hp, hrun, Result.andThen]
  exact hK' _ _ hK
theorem eng_two (m t m2 : Nat) : ((engCells m t).setIfInBounds 0 (.pointer (some ⟨m2, 0, none⟩))).setIfInBounds 2 (.slice none 0 0) = engCells m2 t := rfl
set_option maxHeartbeats 3200000 in
set_option maxRecDepth 100000 in
theorem efork_any (w : World) (e m t m2 : Nat) (h : Blk w e 77 (engCells m t)) : Calls Try.prog 25 #[.pointer (some ⟨e, 0, none⟩), .pointer (some ⟨m2, 0, none⟩)] w fun r w' => ∃ f, r = .returned (.pointer (some ⟨f, 0, none⟩)) ∧ w.heap.size ≤ f ∧ Blk w' f 77 (engCells m2 t) ∧ Below w.heap.size w w' := by
  have hlt := h.lt
  have hne : ¬ e = w.heap.size := by omega
  have hne' : ¬ w.heap.size = e := by omega
  have hT := eng_two m t m2
  have hsz : (engCells m t).size = 21 := rfl
  have h0 : (engCells m t)[0]? = some (.pointer (some ⟨m, 0, none⟩)) := rfl
  have h2 : (engCells m t)[2]? = some (.slice none 0 0) := rfl
  have ho := eng_ones m t
  generalize engCells m t = cs at h hT hsz h0 h2 ho
  have b2 := (h.cell 2).trans h2
  have HB := Lib.hid h
  have HLT := Lib.hid hlt
  have HT := Lib.hid hT
  have HSZ := Lib.hid hsz
  have H0 := Lib.hid h0
  have H2 := Lib.hid h2
  have HO := Lib.hid ho
  clear h hlt hT hsz h0 h2 ho b2
  go_enter Try.func25, Try.ntmps25
  go_wp2_with (first
    | (refine wpList_load_eng (o := ⟨some 10, .load 77 (.tmp 9), _, _, _, none⟩) rfl (.tmp 9) rfl w e cs HSZ.out HB.out rfl ?_)
    | (refine wpList_store_eng (o := ⟨none, .store 77 (.tmp 5) (.tmp 10), _, _, _, none⟩) rfl (.tmp 5) (.tmp 10) rfl w cs HSZ.out HO.out rfl rfl ?_; obtain ⟨w2, hw2⟩ : ∃ w2, w2 = w.alloc (.cells cs 77) := ⟨_, rfl⟩; have hb := Blk.new w 77 cs; have hbe := HB.out.alloc (.cells cs 77); have hbl := (Below.refl w.heap.size w).alloc (Nat.le_refl _) (.cells cs 77); rw [← hw2] at hb hbe hbl ⊢; clear hw2; have n0 := (hb.cell 0).trans H0.out; have n2 := (hb.cell 2).trans H2.out; have m2' := (hbe.cell 2).trans H2.out; have f0 := hb.free 0; have f2 := hb.free 2; have N2 := Lib.hid hb; have L2 := Lib.hid hbl; clear hb hbe hbl)
    | (go_at_call 32; refine (clone_nil _).mono ?_; rintro r w1 ⟨rfl, rfl⟩))
  trace_state
  go_ret
  refine ⟨_, rfl, Nat.le_refl _, ?_, ?_⟩
  · have := (N2.out.put 0 (.pointer (some ⟨m2, 0, none⟩))).put 2 (.slice none 0 0)
    rw [HT.out] at this
    exact this
  · exact (L2.out.setCell (Nat.le_refl _) _).setCell (Nat.le_refl _) _
end Go.Proofs.Ythlapnljinkekab

/- A burst of the law's that writes: its contract. -/
namespace Go.Proofs.Ythlapnljinkekab
open Go.RowKit Go.Lib Go.Sort
set_option linter.unusedVariables false

theorem Blk.kept2 {w w' : World} {S : Nat → Prop} {i : Nat} {ty : TypeId} {cs : Array Value} (h : Blk w i ty cs) (k : Keeps S w w') (hn : ¬ S i) : Blk w' i ty cs := (k.2.2.2.2 i h.lt hn).trans h
theorem StG.apart2 {w : World} {B e m g t : Nat} {L : List Reg} {l : List UInt8} {rv : Value} {n : Nat} {rc : Nat → Rec} {rd wr : Nat → Int} (S : StG w B e m g t L l rv n rc rd wr) {i : Nat} {ty : TypeId} {cs : Array Value} (h : Blk w i ty cs) (h1 : ty ≠ 77) (h2 : ty ≠ 5) (h3 : ty ≠ 45) : ¬ Burst e g rv i := by
  rintro (h4 | h4 | h4)
  · obtain ⟨cs', h0, _⟩ := S.2.1
    exact h.differ h0 h1 h4
  · exact h.differ S.2.2.1.2.2.2 h2 h4
  · exact own_ne S.2.2.2.2 h (fun e => h3 e.symm) h4
/-- Numbers of the law's own stay where a burst writes. -/
theorem OwnN.kept {w w' : World} {B e m g t C : Nat} {L : List Reg} {l : List UInt8} {rv v : Value} {n : Nat} {rc : Nat → Rec} {rd wr : Nat → Int} {x : List Int} (S : StG w B e m g t L l rv n rc rd wr) (k : Keeps (Burst e g rv) w w') (h : OwnN w C v x) : OwnN w' C v x := by
  have h' : w.ownsRow C 3 1 v x.length (iCells x) := h
  rcases h'.2 with ⟨rfl, h0⟩ | ⟨g', cap, cur, rfl, q1, q2, q3⟩
  · exact ⟨h'.1, .inl ⟨rfl, h0⟩⟩
  · exact ⟨h'.1, .inr ⟨g', cap, cur, rfl, q1, Blk.kept2 (show Blk w g' 3 cur from q2) k (S.apart2 (show Blk w g' 3 cur from q2) (by decide) (by decide) (by decide)), q3⟩⟩
theorem WriteV.to {w w' w'' : World} {B e m g t : Nat} {L : List Reg} {l : List UInt8} {rv : Value} {n : Nat} {rc : Nat → Rec} {rd wr : Nat → Int} {tick o a : Int} {s : ByteArray} {r : Ending} (h : WriteV B e m g t L l rv n rc rd wr tick o a s w r w') (hb : Below w'.heap.size w' w'') : WriteV B e m g t L l rv n rc rd wr tick o a s w r w'' := by
  obtain ⟨h1, h2⟩ := h
  exact ⟨h1, h2.imp (fun ⟨q, rv', q1, q2, q3⟩ => ⟨q, rv', q1.below hb, q2, q3.trans (Keeps.of_below hb _)⟩) (fun ⟨q, q1, q2⟩ => ⟨q, q1.below hb, q2.trans (Keeps.of_below hb _)⟩)⟩
theorem WriteV.keeps {w w' : World} {B e m g t : Nat} {L : List Reg} {l : List UInt8} {rv : Value} {n : Nat} {rc : Nat → Rec} {rd wr : Nat → Int} {tick o a : Int} {s : ByteArray} {r : Ending} (h : WriteV B e m g t L l rv n rc rd wr tick o a s w r w') : Keeps (Burst e g rv) w w' := by
  obtain ⟨h1, ⟨q, rv', q1, q2, q3⟩ | ⟨q, q1, q2⟩⟩ := h
  · exact q3
  · exact q2
theorem OwnN.ints_at {w : World} {B n c : Nat} {A : Option Addr} {l : List Int} (h : OwnN w B (.slice A n c) l) : Ints w A c l := by
  obtain ⟨A', c', hv, hi, _⟩ := h.ints
  injection hv with e1 e2 e3
  subst e1 e3
  exact hi
theorem OwnN.lower {w : World} {B C : Nat} {v : Value} {l : List Int} (h : OwnN w B v l) (hC : C ≤ B) : OwnN w C v l := by
  have h' : w.ownsRow B 3 1 v l.length (iCells l) := h
  rcases h'.2 with ⟨rfl, h0⟩ | ⟨g', cap, cur, rfl, q1, q2⟩
  · exact ⟨h'.1, .inl ⟨rfl, h0⟩⟩
  · exact ⟨h'.1, .inr ⟨g', cap, cur, rfl, Nat.le_trans hC q1, q2⟩⟩
/-- What the law's 'do' leaves of a burst that writes. -/
def DoW (B e m g t : Nat) (L : List Reg) (l : List UInt8) (rv : Value) (n : Nat) (rc : Nat → Rec) (rd wr : Nat → Int) (tick o a : Int) (s : ByteArray) (C : Nat) (lb : List UInt8) (w : World) (r : Ending) (w' : World) : Prop :=
  ∃ v, r = .returned (.tuple #[v, .int .i64 (askV L l.length o a s.size).2, .bool true]) ∧ OwnN w' C v (num (wrL L lb o a s)) ∧ WriteV B e m g t L l rv n rc rd wr tick o a s w (.returned (.int .i64 (askV L l.length o a s.size).2)) w'
set_option maxHeartbeats 1600000 in
set_option maxRecDepth 100000 in
theorem do_write (w : World) (A : Option Addr) (nr capr : Nat) (d : Nat → Reg) (B e m g t C : Nat) (rv : Value) (n : Nat) (rc : Nat → Rec) (rd wr : Nat → Int) (l lb : List UInt8) (tick o a q : Int) (s : ByteArray) (Ab : Option Addr) (lenb capb : Nat)
    (hregs : Regs w A nr capr d) (hnr : nr ≤ 1000000) (h0 : chkN d nr = 0) (hst : StG w B e m g t (rws d nr) l rv n rc rd wr) (hb : OwnN w C (.slice Ab lenb capb) (num lb)) (hll : lb.length = l.length) (hlb : lenb = lb.length) (ho : fitI o) (ha : fitI a) (hl : l.length ≤ 600) (hs : s.size ≤ 200) (hB : B ≤ w.heap.size) (hC : C ≤ w.heap.size) (hn : n ≤ 1000) (hwr : ∀ k, k < 9 → 0 ≤ wr k ∧ wr k ≤ 1000000) :
    Calls Try.prog 12 #[.pointer (some ⟨e, 0, none⟩), .slice A nr capr, .slice Ab lenb capb, .agg #[.int .i64 tick, .int .i64 o, .int .i64 a, .int .i64 q, .bool true, .string s]] w (DoW B e m g t (rws d nr) l rv n rc rd wr tick o a s C lb w) := by
  have hmay := chkN_may h0
  obtain rfl : lenb = l.length := by omega
  have hask := fun W (hW : Below w.heap.size w W) => rask_any A nr capr d Ab l.length capb tick o a q true s W (hregs.below hW) hnr h0 ha (by omega)
  simp only [deedN, if_true] at hask
  have hwrt := fun W (hW : Below w.heap.size w W) => ewrite_any W B e m g t (rws d nr) rv n rc rd wr l tick o a s (hst.below hW) hmay ho ha (by omega) (by omega) (Nat.le_trans hB hW.size) hn hwr
  have key : ((askV (rws d nr) l.length o a s.size).2 ≠ 0 ∧ wrL (rws d nr) lb o a s = lb) ∨ ((askV (rws d nr) l.length o a s.size).2 = 0 ∧ ∃ y : Nat, (askV (rws d nr) l.length o a s.size).1 = y ∧ y + s.size ≤ lb.length ∧ wrL (rws d nr) lb o a s = over lb y s.data.toList) := by
    by_cases hc : (askV (rws d nr) l.length o a s.size).2 = 0
    · obtain ⟨q1, q2, q3, q4, q5, q6, q7⟩ := askV_ok hmay hc
      refine .inr ⟨hc, (askV (rws d nr) l.length o a s.size).1.toNat, by omega, by omega, ?_⟩
      unfold wrL
      rw [hll, if_pos hc]
    · refine .inl ⟨hc, ?_⟩
      unfold wrL
      rw [hll, if_neg hc]
  have hdo : DoW B e m g t (rws d nr) l rv n rc rd wr tick o a s C lb w = fun r w' => ∃ v, r = .returned (.tuple #[v, .int .i64 (askV (rws d nr) l.length o a s.size).2, .bool true]) ∧ OwnN w' C v (num (wrL (rws d nr) lb o a s)) ∧ WriteV B e m g t (rws d nr) l rv n rc rd wr tick o a s w (.returned (.int .i64 (askV (rws d nr) l.length o a s.size).2)) w' := rfl
  rw [hdo]
  have hwv : ∀ W r w', WriteV B e m g t (rws d nr) l rv n rc rd wr tick o a s W r w' → r = .returned (.int .i64 (askV (rws d nr) l.length o a s.size).2) := fun W r w' h => h.1
  have hbytes := fun W => rbytes_any s W (by omega)
  have hsz2 : (num s.data.toList).length = s.size := by simp [num]
  generalize hyc : askV (rws d nr) l.length o a s.size = yc at hask hwv key ⊢
  generalize wrL (rws d nr) lb o a s = lb' at key ⊢
  obtain ⟨y, c⟩ := yc
  simp only at hask key hwv ⊢
  have HASK := Lib.hid hask
  have HWR := Lib.hid hwrt
  have HWV := Lib.hid hwv
  have HBY := Lib.hid hbytes
  have HSZ := Lib.hid hsz2
  have HST := Lib.hid hst
  have HBN := Lib.hid hb
  have HB0 := Lib.hid ((Below.refl w.heap.size w).alloc (Nat.le_refl _) (.cells #[.int .i64 tick, .int .i64 o, .int .i64 a, .int .i64 q, .bool true, .string s] 39))
  have X0 := Lib.hid (Blk.new w 39 #[.int .i64 tick, .int .i64 o, .int .i64 a, .int .i64 q, .bool true, .string s])
  have HLL := Lib.hid hll
  have HL := Lib.hid hl
  have HS := Lib.hid hs
  clear hask hwrt hwv hbytes hsz2 hst hb hregs h0 hmay hwr hyc hdo hlb hll hl hs
  rcases key with ⟨h1, rfl⟩ | ⟨rfl, yn, rfl, h2, rfl⟩
  · go_enter Try.func12, Try.ntmps12
    go_wp2_with (first
      | (go_at_call 29; refine (HASK.out _ HB0.out).mono ?_; rintro e1 w1 ⟨rfl, b1⟩; have X1 := Lib.hid (X0.out.below b1 X0.out.lt); have B1 := Lib.hid (HB0.out.trans (b1.mono HB0.out.size)); have x0 := X1.out.cell 0; have x1 := X1.out.cell 1; have x2 := X1.out.cell 2; have x4 := X1.out.cell 4; have x5 := X1.out.cell 5; simp at x0 x1 x2 x4 x5; have S1 := Lib.hid (HST.out.below B1.out); have N1 := Lib.hid (HBN.out.below (only_far B1.out)); clear b1)
      | (go_at_call 20; refine (HWR.out _ B1.out).mono ?_; intro r2 w2 hw2; obtain rfl := HWV.out _ _ _ hw2; have N2 := Lib.hid (OwnN.kept S1.out hw2.keeps N1.out); have W2 := Lib.hid (hw2.from B1.out); have X2 := Lib.hid (X1.out.kept2 hw2.keeps (S1.out.apart2 X1.out (by decide) (by decide) (by decide))); have y5 := X2.out.cell 5; simp at y5; have Z2 := Lib.hid (Nat.le_trans B1.out.size hw2.keeps.2.2.2.1); clear hw2))
    go_ret3
    exact ⟨_, rfl, N2.out, W2.out⟩
  · go_enter Try.func12, Try.ntmps12
    go_wp2_with (first
      | (go_at_call 29; refine (HASK.out _ HB0.out).mono ?_; rintro e1 w1 ⟨rfl, b1⟩; have X1 := Lib.hid (X0.out.below b1 X0.out.lt); have B1 := Lib.hid (HB0.out.trans (b1.mono HB0.out.size)); have x0 := X1.out.cell 0; have x1 := X1.out.cell 1; have x2 := X1.out.cell 2; have x4 := X1.out.cell 4; have x5 := X1.out.cell 5; simp at x0 x1 x2 x4 x5; have S1 := Lib.hid (HST.out.below B1.out); have N1 := Lib.hid (HBN.out.below (only_far B1.out)); clear b1)
      | (go_at_call 20; refine (HWR.out _ B1.out).mono ?_; intro r2 w2 hw2; obtain rfl := HWV.out _ _ _ hw2; have N2 := Lib.hid (OwnN.kept S1.out hw2.keeps N1.out); have W2 := Lib.hid (hw2.from B1.out); have X2 := Lib.hid (X1.out.kept2 hw2.keeps (S1.out.apart2 X1.out (by decide) (by decide) (by decide))); have y5 := X2.out.cell 5; simp at y5; have Z2 := Lib.hid (Nat.le_trans B1.out.size hw2.keeps.2.2.2.1); clear hw2)
      | (go_at_call 31; refine (HBY.out _).mono ?_; rintro r3 w3 ⟨v3, rfl, hv3, b3⟩; obtain ⟨A9, c9, hv9, hi9, _⟩ := hv3.ints; rw [HSZ.out] at hv9; subst hv9; have I3 := Lib.hid hi9; have N3 := Lib.hid (N2.out.below (only_far b3)); have W3 := Lib.hid (W2.out.to b3); have Z3 := Lib.hid (Nat.le_trans Z2.out b3.size); clear hv3 b3 hi9)
      | (go_at_call 30; refine (rwith_any Ab capb lb yn A9 c9 s.size (num s.data.toList) HSZ.out.symm l.length HLL.out.symm w3 N3.out.ints_at I3.out (by rw [HSZ.out]; exact h2) (by rw [HLL.out]; exact Nat.le_trans HL.out (by omega))).mono ?_; rintro r4 w4 ⟨v4, rfl, hv4, b4⟩; rw [num_low] at hv4; have V4 := Lib.hid hv4; have W4 := Lib.hid (W3.out.to b4); clear hv4 b4))
    go_ret3
    exact ⟨_, rfl, V4.out.lower (Nat.le_trans hC Z3.out), W4.out⟩
end Go.Proofs.Ythlapnljinkekab

/- A burst of the law's that reads: its contract. -/
namespace Go.Proofs.Ythlapnljinkekab
open Go.RowKit Go.Lib Go.Sort
set_option linter.unusedVariables false

/-- What a burst that reads leaves. -/
def ReadT (B e m g t : Nat) (L : List Reg) (l : List UInt8) (rv : Value) (n : Nat) (rc : Nat → Rec) (rd wr : Nat → Int) (tick o a q : Int) (w w' : World) : Prop :=
  ((askV L l.length o a q).2 ≠ 0 ∧ RefV B e m g t L l rv (n + 1) (updC rc n (tick, o, a, q, false, (askV L l.length o a q).2)) rd wr w w') ∨ ((askV L l.length o a q).2 = 0 ∧ DoneV B e m g t L l rv n rc (updI rd o.toNat (rd o.toNat + q)) wr w w')
theorem ReadT.to {w w' w'' : World} {B e m g t : Nat} {L : List Reg} {l : List UInt8} {rv : Value} {n : Nat} {rc : Nat → Rec} {rd wr : Nat → Int} {tick o a q : Int} (h2 : ReadT B e m g t L l rv n rc rd wr tick o a q w w') (hb : Below w'.heap.size w' w'') : ReadT B e m g t L l rv n rc rd wr tick o a q w w'' :=
  h2.imp (fun ⟨q, rv', q1, q2, q3⟩ => ⟨q, rv', q1.below hb, q2, q3.trans (Keeps.of_below hb _)⟩) (fun ⟨q, q1, q2⟩ => ⟨q, q1.below hb, q2.trans (Keeps.of_below hb _)⟩)
theorem ReadT.from {w0 w w' : World} {B e m g t : Nat} {L : List Reg} {l : List UInt8} {rv : Value} {n : Nat} {rc : Nat → Rec} {rd wr : Nat → Int} {tick o a q : Int} (h2 : ReadT B e m g t L l rv n rc rd wr tick o a q w w') (hb : Below w0.heap.size w0 w) : ReadT B e m g t L l rv n rc rd wr tick o a q w0 w' :=
  h2.imp (fun ⟨q, rv', q1, q2, q3⟩ => ⟨q, rv', q1, q2.imp id (fun ⟨k, hk, hk2⟩ => ⟨k, hk, Nat.le_trans hb.size hk2⟩), (Keeps.of_below hb _).trans q3⟩) (fun ⟨q, q1, q2⟩ => ⟨q, q1, (Keeps.of_below hb _).trans q2⟩)
theorem ReadT.keeps {w w' : World} {B e m g t : Nat} {L : List Reg} {l : List UInt8} {rv : Value} {n : Nat} {rc : Nat → Rec} {rd wr : Nat → Int} {tick o a q : Int} (h2 : ReadT B e m g t L l rv n rc rd wr tick o a q w w') : Keeps (Burst e g rv) w w' := by
  rcases h2 with ⟨q, rv', q1, q2, q3⟩ | ⟨q, q1, q2⟩
  · exact q3
  · exact q2
/-- What the law's 'do' leaves of a burst that reads. -/
def DoR (B e m g t : Nat) (L : List Reg) (l : List UInt8) (rv : Value) (n : Nat) (rc : Nat → Rec) (rd wr : Nat → Int) (tick o a q : Int) (C : Nat) (vb : Value) (w : World) (r : Ending) (w' : World) : Prop :=
  r = .returned (.tuple #[vb, .int .i64 (askV L l.length o a q).2, .bool true]) ∧ OwnN w' C vb (num l) ∧ ReadT B e m g t L l rv n rc rd wr tick o a q w w'
set_option maxHeartbeats 1600000 in
set_option maxRecDepth 100000 in
theorem do_read (w : World) (A : Option Addr) (nr capr : Nat) (d : Nat → Reg) (B e m g t C : Nat) (rv : Value) (n : Nat) (rc : Nat → Rec) (rd wr : Nat → Int) (l : List UInt8) (tick o a q : Int) (s : ByteArray) (Ab : Option Addr) (lenb capb : Nat)
    (hregs : Regs w A nr capr d) (hnr : nr ≤ 1000000) (h0 : chkN d nr = 0) (hst : StG w B e m g t (rws d nr) l rv n rc rd wr) (hb : OwnN w C (.slice Ab lenb capb) (num l)) (hlb : lenb = l.length) (ho : fitI o) (ha : fitI a) (hl : l.length ≤ 600) (hB : B ≤ w.heap.size) (hC : C ≤ w.heap.size) (hn : n ≤ 1000) (hrd : ∀ k, k < 9 → 0 ≤ rd k ∧ rd k ≤ 1000000) :
    Calls Try.prog 12 #[.pointer (some ⟨e, 0, none⟩), .slice A nr capr, .slice Ab lenb capb, .agg #[.int .i64 tick, .int .i64 o, .int .i64 a, .int .i64 q, .bool false, .string s]] w (DoR B e m g t (rws d nr) l rv n rc rd wr tick o a q C (.slice Ab lenb capb) w) := by
  have hmay := chkN_may h0
  subst hlb
  have hask := fun W (hW : Below w.heap.size w W) => rask_any A nr capr d Ab l.length capb tick o a q false s W (hregs.below hW) hnr h0 ha (by omega)
  simp only [deedN, Bool.false_eq_true, if_false] at hask
  have hrdt := fun W (hW : Below w.heap.size w W) => (eread_any W B e m g t (rws d nr) rv n rc rd wr l tick o a q (hst.below hW) hmay ho ha (by omega) (Nat.le_trans hB hW.size) hn hrd).mono fun r w' h => (show r = .returned (.tuple #[.string (rdS (rws d nr) l o a q), .int .i64 (askV (rws d nr) l.length o a q).2]) ∧ ReadT B e m g t (rws d nr) l rv n rc rd wr tick o a q W w' from h)
  have key : ((askV (rws d nr) l.length o a q).2 ≠ 0 ∧ rdS (rws d nr) l o a q = .empty) ∨ ((askV (rws d nr) l.length o a q).2 = 0 ∧ ∀ W, Ints W Ab capb (num l) → Calls Try.prog 18 #[.slice Ab l.length capb, .int .i64 (askV (rws d nr) l.length o a q).1, .int .i64 q] W fun r w' => r = .returned (.string (rdS (rws d nr) l o a q)) ∧ Below W.heap.size W w') := by
    by_cases hc : (askV (rws d nr) l.length o a q).2 = 0
    · obtain ⟨q1, q2, q3, q4, q5, q6, q7⟩ := askV_ok hmay hc
      refine .inr ⟨hc, fun W hW => ?_⟩
      have h := rtext_any Ab capb l.length l (num_len l).symm (askV (rws d nr) l.length o a q).1.toNat q.toNat W hW (by omega) (by omega)
      unfold rdS
      rw [if_pos hc]
      rw [show (((askV (rws d nr) l.length o a q).1.toNat : Nat) : Int) = (askV (rws d nr) l.length o a q).1 from by omega, show ((q.toNat : Nat) : Int) = q from by omega] at h
      exact h
    · refine .inl ⟨hc, ?_⟩
      unfold rdS
      rw [if_neg hc]
  have hdo : DoR B e m g t (rws d nr) l rv n rc rd wr tick o a q C (.slice Ab l.length capb) w = fun r w' => r = .returned (.tuple #[.slice Ab l.length capb, .int .i64 (askV (rws d nr) l.length o a q).2, .bool true]) ∧ OwnN w' C (.slice Ab l.length capb) (num l) ∧ ReadT B e m g t (rws d nr) l rv n rc rd wr tick o a q w w' := rfl
  rw [hdo]
  generalize hx : rdS (rws d nr) l o a q = x at hrdt key
  generalize hyc : askV (rws d nr) l.length o a q = yc at hask hrdt key ⊢
  obtain ⟨y, c⟩ := yc
  simp only at hask hrdt key ⊢
  have HASK := Lib.hid hask
  have HRD := Lib.hid hrdt
  have HST := Lib.hid hst
  have HBN := Lib.hid hb
  have HB0 := Lib.hid ((Below.refl w.heap.size w).alloc (Nat.le_refl _) (.cells #[.int .i64 tick, .int .i64 o, .int .i64 a, .int .i64 q, .bool false, .string s] 39))
  have X0 := Lib.hid (Blk.new w 39 #[.int .i64 tick, .int .i64 o, .int .i64 a, .int .i64 q, .bool false, .string s])
  clear hask hrdt hst hb hregs h0 hmay hrd hyc hdo hx hl
  rcases key with ⟨h1, rfl⟩ | ⟨rfl, htx⟩
  · have h2 : ¬ c = 0 := h1
    go_enter Try.func12, Try.ntmps12
    go_wp2_with (first
      | (go_at_call 29; refine (HASK.out _ HB0.out).mono ?_; rintro e1 w1 ⟨rfl, b1⟩; have X1 := Lib.hid (X0.out.below b1 X0.out.lt); have B1 := Lib.hid (HB0.out.trans (b1.mono HB0.out.size)); have x0 := X1.out.cell 0; have x1 := X1.out.cell 1; have x2 := X1.out.cell 2; have x3 := X1.out.cell 3; have x4 := X1.out.cell 4; simp at x0 x1 x2 x3 x4; have S1 := Lib.hid (HST.out.below B1.out); have N1 := Lib.hid (HBN.out.below (only_far B1.out)); clear b1)
      | (go_at_call 26; refine (HRD.out _ B1.out).mono ?_; rintro r2 w2 ⟨rfl, hw2⟩; have N2 := Lib.hid (OwnN.kept S1.out hw2.keeps N1.out); have W2 := Lib.hid (hw2.from B1.out); clear hw2))
    trace_state
    go_ret3
    exact ⟨rfl, N2.out, W2.out⟩
  · have HTX := Lib.hid htx
    clear htx
    go_enter Try.func12, Try.ntmps12
    go_wp2_with (first
      | (go_at_call 29; refine (HASK.out _ HB0.out).mono ?_; rintro e1 w1 ⟨rfl, b1⟩; have X1 := Lib.hid (X0.out.below b1 X0.out.lt); have B1 := Lib.hid (HB0.out.trans (b1.mono HB0.out.size)); have x0 := X1.out.cell 0; have x1 := X1.out.cell 1; have x2 := X1.out.cell 2; have x3 := X1.out.cell 3; have x4 := X1.out.cell 4; simp at x0 x1 x2 x3 x4; have S1 := Lib.hid (HST.out.below B1.out); have N1 := Lib.hid (HBN.out.below (only_far B1.out)); clear b1)
      | (go_at_call 26; refine (HRD.out _ B1.out).mono ?_; rintro r2 w2 ⟨rfl, hw2⟩; have N2 := Lib.hid (OwnN.kept S1.out hw2.keeps N1.out); have W2 := Lib.hid (hw2.from B1.out); have X2 := Lib.hid (X1.out.kept2 hw2.keeps (S1.out.apart2 X1.out (by decide) (by decide) (by decide))); have y3 := X2.out.cell 3; simp at y3; clear hw2)
      | (go_at_call 18; refine (HTX.out _ N2.out.ints_at).mono ?_; rintro r3 w3 ⟨rfl, b3⟩; have N3 := Lib.hid (N2.out.below (only_far b3)); have W3 := Lib.hid (W2.out.to b3); clear b3))
    trace_state
    go_ret3
    exact ⟨by first | rfl | simp, N3.out, W3.out⟩
end Go.Proofs.Ythlapnljinkekab

/- Plain facts on exchanging and turning parts of a row, and on the merge of two sorted parts in place: no program is spoken of here. -/
namespace Go.Proofs.Ythlapnljinkekab.So

/-- The n places from a on and the n places from b on, exchanged. -/
def swr (d : Nat → P2) (a b n : Nat) : Nat → P2 := fun k => if a ≤ k ∧ k < a + n then d (k - a + b) else if b ≤ k ∧ k < b + n then d (k - b + a) else d k
/-- What stands from m up to b comes first, then what stands from a up to m. -/
def rot (d : Nat → P2) (a m b : Nat) : Nat → P2 := fun k => if a ≤ k ∧ k < a + (b - m) then d (k - a + m) else if a + (b - m) ≤ k ∧ k < b then d (k - (b - m)) else d k

theorem swr_zero (d : Nat → P2) (a b : Nat) : swr d a b 0 = d := by
  funext k; simp only [swr]
  repeat' split
  all_goals first | rfl | (exfalso; omega)
theorem swr_succ (d : Nat → P2) {a b n : Nat} (h : a + (n + 1) ≤ b) : swp (swr d a b n) (a + n) (b + n) = swr d a b (n + 1) := by
  funext k; rw [swp_at]; simp only [swr]
  repeat' split
  all_goals first | (exfalso; omega) | (congr 1 <;> omega)
theorem Perm.swr {d : Nat → P2} {a b n lo hi : Nat} (h : a + n ≤ b) (h1 : lo ≤ a) (h2 : b + n ≤ hi) : Perm lo hi d (swr d a b n) := by
  induction n with
  | zero => rw [swr_zero]; exact Perm.refl _ _ _
  | succ n ih =>
    rw [← swr_succ d h]
    exact (ih (by omega) (by omega)).trans (Perm.swp _ ⟨by omega, by omega⟩ ⟨by omega, by omega⟩)

theorem rot_more (d : Nat → P2) {m i j : Nat} (hi : i ≤ m) (hij : j < i) : rot (swr d (m - i) m j) (m - (i - j)) m (m + j) = rot d (m - i) m (m + j) := by
  funext k; simp only [rot, swr]
  repeat' split
  all_goals first | (exfalso; omega) | (congr 1 <;> omega)
theorem rot_less (d : Nat → P2) {m i j : Nat} (hi : i ≤ m) (hij : i < j) : rot (swr d (m - i) (m + j - i) i) (m - i) m (m + (j - i)) = rot d (m - i) m (m + j) := by
  funext k; simp only [rot, swr]
  repeat' split
  all_goals first | (exfalso; omega) | (congr 1 <;> omega)
theorem rot_same (d : Nat → P2) {m i : Nat} (hi : i ≤ m) : swr d (m - i) m i = rot d (m - i) m (m + i) := by
  funext k; simp only [rot, swr]
  repeat' split
  all_goals first | (exfalso; omega) | (congr 1 <;> omega)
theorem rot_left (d : Nat → P2) (a m : Nat) : rot d a m m = d := by
  funext k; simp only [rot]
  repeat' split
  all_goals first | (exfalso; omega) | (congr 1 <;> omega)
theorem rot_right (d : Nat → P2) (m b : Nat) : rot d m m b = d := by
  funext k; simp only [rot]
  repeat' split
  all_goals first | (exfalso; omega) | (congr 1 <;> omega)
theorem rot_up (d : Nat → P2) {a k : Nat} (h : a ≤ k) : swp (rot d a (a + 1) (k + 1)) k (k + 1) = rot d a (a + 1) (k + 2) := by
  funext q; rw [swp_at]; simp only [rot]
  repeat' split
  all_goals first | (exfalso; omega) | (congr 1 <;> omega)
theorem rot_down (d : Nat → P2) {m k : Nat} (h : k < m) : swp (rot d (k + 1) m (m + 1)) (k + 1) k = rot d k m (m + 1) := by
  funext q; rw [swp_at]; simp only [rot]
  repeat' split
  all_goals first | (exfalso; omega) | (congr 1 <;> omega)

theorem Perm.rotUp {d : Nat → P2} {a k lo hi : Nat} (h1 : lo ≤ a) (h2 : a ≤ k) (h3 : k < hi) : Perm lo hi d (rot d a (a + 1) (k + 1)) := by
  induction k with
  | zero => obtain rfl : a = 0 := by omega
            rw [rot_left]; exact Perm.refl _ _ _
  | succ k ih =>
    by_cases hk : a ≤ k
    · rw [← rot_up d hk]
      exact (ih hk (by omega)).trans (Perm.swp _ ⟨by omega, by omega⟩ ⟨by omega, by omega⟩)
    · obtain rfl : a = k + 1 := by omega
      rw [rot_left]; exact Perm.refl _ _ _
theorem Perm.rotDown {d : Nat → P2} {m k lo hi : Nat} (i : Nat) (hki : k + i = m) (h1 : lo ≤ k) (h3 : m < hi) : Perm lo hi d (rot d k m (m + 1)) := by
  induction i generalizing k with
  | zero => obtain rfl : k = m := by omega
            rw [rot_right]; exact Perm.refl _ _ _
  | succ i ih =>
    rw [← rot_down d (show k < m by omega)]
    exact (ih (by omega) (by omega)).trans (Perm.swp _ ⟨by omega, by omega⟩ ⟨by omega, by omega⟩)

/-- ONE BEFORE MANY: the first one goes behind all that are below it. -/
theorem one_first {d : Nat → P2} {a b i : Nat} (hs : Sorted d (a + 1) b) (h1 : a + 1 ≤ i) (h2 : i ≤ b) (hl : ∀ q, a + 1 ≤ q → q < i → lt (d q) (d a)) (hr : ∀ q, i ≤ q → q < b → ¬ lt (d q) (d a)) : Sorted (rot d a (a + 1) i) a b := by
  intro p q hp hpq hq
  simp only [rot]
  by_cases c1 : p < i - 1
  · rw [if_pos (by omega)]
    by_cases c2 : q < i - 1
    · rw [if_pos (by omega)]; exact hs _ _ (by omega) (by omega) (by omega)
    · by_cases c3 : q = i - 1
      · rw [if_neg (by omega), if_pos (by omega), show q - (i - (a + 1)) = a by omega]
        exact le_of_lt (hl _ (by omega) (by omega))
      · rw [if_neg (by omega), if_neg (by omega)]; exact hs _ _ (by omega) (by omega) (by omega)
  · by_cases c3 : p = i - 1
    · rw [if_neg (by omega), if_pos (by omega), if_neg (by omega), if_neg (by omega), show p - (i - (a + 1)) = a by omega]
      exact hr q (by omega) hq
    · rw [if_neg (by omega), if_neg (by omega), if_neg (by omega), if_neg (by omega)]; exact hs _ _ (by omega) (by omega) (by omega)
/-- MANY BEFORE ONE. -/
theorem one_last {d : Nat → P2} {a m i : Nat} (hs : Sorted d a m) (h1 : a ≤ i) (h2 : i ≤ m) (hl : ∀ q, a ≤ q → q < i → ¬ lt (d m) (d q)) (hr : ∀ q, i ≤ q → q < m → lt (d m) (d q)) : Sorted (rot d i m (m + 1)) a (m + 1) := by
  intro p q hp hpq hq
  simp only [rot]
  by_cases c1 : p < i
  · rw [if_neg (by omega), if_neg (by omega)]
    by_cases c2 : q < i
    · rw [if_neg (by omega), if_neg (by omega)]; exact hs _ _ (by omega) (by omega) (by omega)
    · by_cases c3 : q = i
      · rw [if_pos (by omega), show q - i + m = m by omega]; exact hl p (by omega) (by omega)
      · rw [if_neg (by omega), if_pos (by omega)]; exact hs _ _ (by omega) (by omega) (by omega)
  · by_cases c3 : p = i
    · rw [if_pos (by omega), if_neg (by omega), if_pos (by omega), show p - i + m = m by omega]
      exact le_of_lt (hr _ (by omega) (by omega))
    · rw [if_neg (by omega), if_pos (by omega), if_neg (by omega), if_pos (by omega)]; exact hs _ _ (by omega) (by omega) (by omega)

theorem Perm.rotAll {d : Nat → P2} {a m b lo hi : Nat} (h1 : lo ≤ a) (h2 : a ≤ m) (h3 : m ≤ b) (h4 : b ≤ hi) : Perm lo hi d (rot d a m b) := by
  refine ⟨fun k => if a ≤ k ∧ k < a + (b - m) then k - a + m else if a + (b - m) ≤ k ∧ k < b then k - (b - m) else k, fun k => if m ≤ k ∧ k < b then k - m + a else if a ≤ k ∧ k < m then k + (b - m) else k, ?_, ?_, ?_, ?_⟩
  · intro k; dsimp only; repeat' split
    all_goals omega
  · intro k; dsimp only; repeat' split
    all_goals omega
  · intro k hk; dsimp only; repeat' split
    all_goals omega
  · intro k; simp only [rot]; repeat' split
    all_goals rfl

/-- THE CUT: what the search finds. From lo up to hi: 'c' is the first one at which the other side's is below it. -/
structure Cut (d : Nat → P2) (a m b mid s : Nat) : Prop where
  as1 : a ≤ s
  sm : s ≤ m
  smid : s ≤ mid
  eb : mid + m - s ≤ b
  low : ∀ p q, a ≤ p → p < s → mid + m - s ≤ q → q < b → le (d p) (d q)
  high : ∀ p q, m ≤ p → p < mid + m - s → s ≤ q → q < m → le (d p) (d q)

theorem Cut.of_more {d : Nat → P2} {a m b mid s : Nat} (h1 : Sorted d a m) (h2 : Sorted d m b) (hmb : m < b) (hmid : 2 * mid + 1 ≥ a + b) (hmid2 : 2 * mid ≤ a + b) (hm : mid < m)
    (hs1 : mid + m - b ≤ s) (hs2 : s ≤ mid) (hl : ∀ c, mid + m - b ≤ c → c < s → ¬ lt (d (mid + m - 1 - c)) (d c)) (hr : ∀ c, s ≤ c → c < mid → lt (d (mid + m - 1 - c)) (d c)) : Cut d a m b mid s := by
  refine ⟨by omega, by omega, hs2, by omega, fun p q hp hps hq hqb => ?_, fun p q hp hpe hq hqm => ?_⟩
  · have hx : le (d (s - 1)) (d (mid + m - s)) := by
      have := hl (s - 1) (by omega) (by omega)
      rw [show mid + m - 1 - (s - 1) = mid + m - s by omega] at this
      exact this
    have e1 : le (d p) (d (s - 1)) := by
      rcases Nat.lt_or_ge p (s - 1) with h | h
      · exact h1 _ _ hp h (by omega)
      · rw [show p = s - 1 by omega]; exact le_refl _
    have e2 : le (d (mid + m - s)) (d q) := by
      rcases Nat.lt_or_ge (mid + m - s) q with h | h
      · exact h2 _ _ (by omega) h hqb
      · rw [show q = mid + m - s by omega]; exact le_refl _
    exact le_trans e1 (le_trans hx e2)
  · have hx : le (d (mid + m - 1 - s)) (d s) := le_of_lt (hr s (Nat.le_refl _) (by omega))
    have e1 : le (d p) (d (mid + m - 1 - s)) := by
      rcases Nat.lt_or_ge p (mid + m - 1 - s) with h | h
      · exact h2 _ _ hp h (by omega)
      · rw [show p = mid + m - 1 - s by omega]; exact le_refl _
    have e2 : le (d s) (d q) := by
      rcases Nat.lt_or_ge s q with h | h
      · exact h1 _ _ (by omega) h hqm
      · rw [show q = s by omega]; exact le_refl _
    exact le_trans e1 (le_trans hx e2)
theorem Cut.of_less {d : Nat → P2} {a m b mid s : Nat} (h1 : Sorted d a m) (h2 : Sorted d m b) (ham : a < m) (hmb : m < b) (hmid : 2 * mid + 1 ≥ a + b) (hmid2 : 2 * mid ≤ a + b) (hm : m ≤ mid)
    (hs1 : a ≤ s) (hs2 : s ≤ m) (hl : ∀ c, a ≤ c → c < s → ¬ lt (d (mid + m - 1 - c)) (d c)) (hr : ∀ c, s ≤ c → c < m → lt (d (mid + m - 1 - c)) (d c)) : Cut d a m b mid s := by
  refine ⟨hs1, hs2, by omega, by omega, fun p q hp hps hq hqb => ?_, fun p q hp hpe hq hqm => ?_⟩
  · have hx : le (d (s - 1)) (d (mid + m - s)) := by
      have := hl (s - 1) (by omega) (by omega)
      rw [show mid + m - 1 - (s - 1) = mid + m - s by omega] at this
      exact this
    have e1 : le (d p) (d (s - 1)) := by
      rcases Nat.lt_or_ge p (s - 1) with h | h
      · exact h1 _ _ hp h (by omega)
      · rw [show p = s - 1 by omega]; exact le_refl _
    have e2 : le (d (mid + m - s)) (d q) := by
      rcases Nat.lt_or_ge (mid + m - s) q with h | h
      · exact h2 _ _ (by omega) h hqb
      · rw [show q = mid + m - s by omega]; exact le_refl _
    exact le_trans e1 (le_trans hx e2)
  · have hx : le (d (mid + m - 1 - s)) (d s) := le_of_lt (hr s (Nat.le_refl _) (by omega))
    have e1 : le (d p) (d (mid + m - 1 - s)) := by
      rcases Nat.lt_or_ge p (mid + m - 1 - s) with h | h
      · exact h2 _ _ hp h (by omega)
      · rw [show p = mid + m - 1 - s by omega]; exact le_refl _
    have e2 : le (d s) (d q) := by
      rcases Nat.lt_or_ge s q with h | h
      · exact h1 _ _ (by omega) h hqm
      · rw [show q = s by omega]; exact le_refl _
    exact le_trans e1 (le_trans hx e2)

theorem rot_first {d : Nat → P2} {m mid s : Nat} (hs : s ≤ m) (hs2 : s ≤ mid) {k : Nat} (h1 : s ≤ k) (h2 : k < mid) : rot d s m (mid + m - s) k = d (k - s + m) := by
  simp only [rot]; rw [if_pos (by omega)]
theorem rot_second {d : Nat → P2} {m mid s : Nat} (hs : s ≤ m) (hs2 : s ≤ mid) {k : Nat} (h1 : mid ≤ k) (h2 : k < mid + m - s) : rot d s m (mid + m - s) k = d (k - (mid - s)) := by
  simp only [rot]; rw [if_neg (by omega), if_pos (by omega)]; congr 1; omega
theorem rot_off {d : Nat → P2} {m mid s : Nat} (hs : s ≤ m) (hs2 : s ≤ mid) {k : Nat} (h : k < s ∨ mid + m - s ≤ k) : rot d s m (mid + m - s) k = d k := by
  simp only [rot]; rw [if_neg (by omega), if_neg (by omega)]

/-- Behind the turn: what stands left of mid is nowhere above what stands right of it. -/
theorem Cut.apart {d : Nat → P2} {a m b mid s : Nat} (h : Cut d a m b mid s) (h1 : Sorted d a m) (h2 : Sorted d m b) {p q : Nat} (hp : a ≤ p) (hpm : p < mid) (hq : mid ≤ q) (hqb : q < b) : le (rot d s m (mid + m - s) p) (rot d s m (mid + m - s) q) := by
  obtain ⟨g1, g2, g3, g4, gl, gh⟩ := h
  by_cases c1 : p < s
  · rw [rot_off g2 g3 (.inl c1)]
    by_cases c2 : q < mid + m - s
    · rw [rot_second g2 g3 hq c2]; exact h1 _ _ hp (by omega) (by omega)
    · rw [rot_off g2 g3 (.inr (by omega))]; exact gl _ _ hp c1 (by omega) hqb
  · rw [rot_first g2 g3 (by omega) hpm]
    by_cases c2 : q < mid + m - s
    · rw [rot_second g2 g3 hq c2]; exact gh _ _ (by omega) (by omega) (by omega) (by omega)
    · rw [rot_off g2 g3 (.inr (by omega))]; exact h2 _ _ (by omega) (by omega) hqb
theorem Cut.left1 {d : Nat → P2} {a m b mid s : Nat} (h : Cut d a m b mid s) (h1 : Sorted d a m) : Sorted (rot d s m (mid + m - s)) a s := fun p q hp hpq hq => by
  rw [rot_off h.sm h.smid (.inl (by omega)), rot_off h.sm h.smid (.inl hq)]; exact h1 _ _ hp hpq (by have := h.sm; omega)
theorem Cut.left2 {d : Nat → P2} {a m b mid s : Nat} (h : Cut d a m b mid s) (h2 : Sorted d m b) : Sorted (rot d s m (mid + m - s)) s mid := fun p q hp hpq hq => by
  have := h.eb
  rw [rot_first h.sm h.smid hp (by omega), rot_first h.sm h.smid (by omega) hq]; exact h2 _ _ (by omega) (by omega) (by omega)
theorem Cut.right1 {d : Nat → P2} {a m b mid s : Nat} (h : Cut d a m b mid s) (h1 : Sorted d a m) : Sorted (rot d s m (mid + m - s)) mid (mid + m - s) := fun p q hp hpq hq => by
  have := h.as1; have := h.smid
  rw [rot_second h.sm h.smid hp (by omega), rot_second h.sm h.smid (by omega) hq]; exact h1 _ _ (by omega) (by omega) (by omega)
theorem Cut.right2 {d : Nat → P2} {a m b mid s : Nat} (h : Cut d a m b mid s) (h2 : Sorted d m b) : Sorted (rot d s m (mid + m - s)) (mid + m - s) b := fun p q hp hpq hq => by
  have := h.sm; have := h.smid
  rw [rot_off h.sm h.smid (.inr hp), rot_off h.sm h.smid (.inr (by omega))]; exact h2 _ _ (by omega) hpq hq
/-- A merge of a part whose one half is empty is done already. -/
theorem Sorted.cat {d : Nat → P2} {a s m : Nat} (h1 : Sorted d a s) (h2 : Sorted d s m) (h : ¬ (a < s ∧ s < m)) (h3 : a ≤ s) (h4 : s ≤ m) : Sorted d a m := by
  by_cases c : a < s
  · obtain rfl : s = m := by omega
    exact h1
  · obtain rfl : a = s := by omega
    exact h2
theorem Sorted.kept {d e : Nat → P2} {a b x y : Nat} (h : Sorted d a b) (p : Perm x y d e) (hd : b ≤ x ∨ y ≤ a) : Sorted e a b :=
  h.out fun k h1 h2 => p.out (by omega)
/-- BOTH HALVES SORTED, and the left nowhere above the right: all is. -/
theorem halves {d e f : Nat → P2} {a mid b : Nat} (h : ∀ p q, a ≤ p → p < mid → mid ≤ q → q < b → le (d p) (d q)) (p1 : Perm a mid d e) (s1 : Sorted e a mid) (p2 : Perm mid b e f) (s2 : Sorted f mid b) (ha : a ≤ mid) (hb : mid ≤ b) : Perm a b d f ∧ Sorted f a b := by
  refine ⟨(p1.mono (Nat.le_refl _) hb).trans (p2.mono ha (Nat.le_refl _)), fun p q hp hpq hq => ?_⟩
  by_cases c1 : q < mid
  · rw [p2.out (by omega), p2.out (by omega)]; exact s1 _ _ hp hpq c1
  · by_cases c2 : mid ≤ p
    · exact s2 _ _ c2 hpq hq
    · obtain ⟨j, j1, j2, ej⟩ := p2.into (k := q) ⟨by omega, hq⟩
      rw [p2.out (k := p) (by omega), ej, p1.out (k := j) (by omega)]
      obtain ⟨i, i1, i2, ei⟩ := p1.into (k := p) ⟨hp, by omega⟩
      rw [ei]
      exact h _ _ i1 i2 j1 j2
/-- The search of the cut goes one way: what holds at one holds at all behind it. -/
theorem cut_mono {d : Nat → P2} {a m b mid c c' : Nat} (h1 : Sorted d a m) (h2 : Sorted d m b) (hc : c ≤ c') (ha : a ≤ c) (hm : c' < m) (hp : m ≤ mid + m - 1 - c') (hb : mid + m - 1 - c < b) (hx : c' ≤ mid + m - 1) (h : lt (d (mid + m - 1 - c)) (d c)) : lt (d (mid + m - 1 - c')) (d c') := by
  rcases Nat.lt_or_ge c c' with hl | hl
  · have e1 := h1 c c' ha hl hm
    have e2 := h2 (mid + m - 1 - c') (mid + m - 1 - c) hp (by omega) hb
    unfold le lt at *
    omega
  · obtain rfl : c = c' := by omega
    exact h
end Go.Proofs.Ythlapnljinkekab.So

/- The exchange of two parts of a row of spans: its contract. -/
namespace Go.Proofs.Ythlapnljinkekab
open Go.RowKit Go.Lib Go.Sort
set_option linter.unusedVariables false

end Go.Proofs.Ythlapnljinkekab

/- A part of a row of spans is turned: its contract. -/
namespace Go.Proofs.Ythlapnljinkekab
open Go.RowKit Go.Lib Go.Sort
set_option linter.unusedVariables false

end Go.Proofs.Ythlapnljinkekab

/- The merge in place: its contract, where one part is one span. -/
namespace Go.Proofs.Ythlapnljinkekab
open Go.RowKit Go.Lib Go.Sort
set_option linter.unusedVariables false

end Go.Proofs.Ythlapnljinkekab

/- The merge in place: its contract, where the second part is one span. -/
namespace Go.Proofs.Ythlapnljinkekab
open Go.RowKit Go.Lib Go.Sort
set_option linter.unusedVariables false

end Go.Proofs.Ythlapnljinkekab

/- The merge in place: its contract, where the middle is left of the second part. -/
namespace Go.Proofs.Ythlapnljinkekab
open Go.RowKit Go.Lib Go.Sort
set_option linter.unusedVariables false

end Go.Proofs.Ythlapnljinkekab

/- The merge in place: its contract, where the middle is not left of the second part. -/
namespace Go.Proofs.Ythlapnljinkekab
open Go.RowKit Go.Lib Go.Sort
set_option linter.unusedVariables false

end Go.Proofs.Ythlapnljinkekab

/- The merge in place, and the stable sort: their contracts. -/
namespace Go.Proofs.Ythlapnljinkekab
open Go.RowKit Go.Lib Go.Sort
set_option linter.unusedVariables false

/-- In blocks of s, up to p, the row stands in order; behind p, up to n, in blocks of t. -/
def Blocks (d : Nat → Int × Int) (s p t n : Nat) : Prop := (∀ c, s * c + s ≤ p → So.Sorted d (s * c) (s * c + s)) ∧ (∀ c, p ≤ t * c → t * c < n → So.Sorted d (t * c) (min (t * c + t) n))

end Go.Proofs.Ythlapnljinkekab

/- The stable sort of up to 60 spans: its contract. -/
namespace Go.Proofs.Ythlapnljinkekab
open Go.RowKit Go.Lib Go.Sort
set_option linter.unusedVariables false

end Go.Proofs.Ythlapnljinkekab

/- The document's order of spans, place by place: its contract. -/
namespace Go.Proofs.Ythlapnljinkekab
open Go.RowKit Go.Lib Go.Sort
set_option linter.unusedVariables false

def ltB (a b : Int × Int) : Bool := decide (a.1 < b.1) || (decide (a.1 = b.1) && decide (a.2 < b.2))
theorem ltB_iff (a b : Int × Int) : ltB a b = true ↔ So.lt a b := by simp [ltB, So.lt]
end Go.Proofs.Ythlapnljinkekab

/- The document's order of spans: its contract. -/
namespace Go.Proofs.Ythlapnljinkekab
open Go.RowKit Go.Lib Go.Sort
set_option linter.unusedVariables false

theorem spCells_congr {n : Nat} {d e : Nat → Int × Int} (h : ∀ q, q < n → d q = e q) : spCells n d = spCells n e := by
  unfold spCells
  rw [List.flatMap_def, List.flatMap_def]
  congr 1
  apply List.map_congr_left
  intro i hi
  rw [h i (List.mem_range.1 hi)]
theorem spCells_add (k j : Nat) (d : Nat → Int × Int) : spCells (k + j) d = spCells k d ++ spCells j (fun q => d (k + q)) := by
  induction j with
  | zero => simp [spCells]
  | succ j ih => rw [← Nat.add_assoc, spCells_succ, ih, spCells_succ, List.append_assoc]
theorem spCells_ins {k i : Nat} (e : Nat → Int × Int) (hk : k ≤ i) : (spCells k e ++ [.int .i64 (e i).1, .int .i64 (e i).2]) ++ spCells (i - k) (fun q => e (k + q)) = spCells (i + 1) (So.rot e k i (i + 1)) := by
  rw [show i + 1 = (k + 1) + (i - k) by omega, spCells_add, spCells_add k 1]
  congr 1
  · congr 1
    · exact spCells_congr fun q hq => by simp only [So.rot]; rw [if_neg (by omega), if_neg (by omega)]
    · have : So.rot e k i (k + 1 + (i - k)) k = e i := by simp only [So.rot]; rw [if_pos (by omega)]; congr 1; omega
      simp [spCells, this]
  · refine spCells_congr fun q hq => ?_
    simp only [So.rot]
    rw [if_neg (by omega), if_pos (by omega)]
    congr 1
    omega

theorem Spans.below {w w' : World} {A : Option Addr} {len cap : Nat} {d : Nat → Int × Int} (h : Spans w A len cap d) (hb : Below w.heap.size w w') : Spans w' A len cap d := by
  refine ⟨h.1, fun hp => ?_⟩
  obtain ⟨b, off, h1, h2, h3⟩ := h.2 hp
  refine ⟨b, off, h1, Nat.lt_of_lt_of_le h2 hb.size, fun i hi => ?_⟩
  have e := hb.block b h2
  obtain ⟨c1, c2⟩ := h3 i hi
  constructor
  · rw [← c1]; simp [World.cell?, e]
  · rw [← c2]; simp [World.cell?, e]
theorem RowS.spans {w : World} {g n cap : Nat} {d : Nat → Int × Int} (h : RowS w g n cap d) (k : Nat) (hk : k ≤ n) (c : Nat) : Spans w (some ⟨g, 0, none⟩) k c d :=
  ⟨fun e => (by cases e), fun _ => ⟨g, 0, rfl, h.lt, fun i hi => by rw [Nat.zero_add]; exact ⟨h.fst (by omega), h.snd (by omega)⟩⟩⟩
theorem RowV.made {w : World} {B n : Nat} {v : Value} {d : Nat → Int × Int} (h : RowV w B v n d) (hn : 0 < n) : ∃ g cap, v = .slice (some ⟨g, 0, none⟩) n cap ∧ B ≤ g ∧ RowS w g n cap d := by
  rcases h with ⟨_, rfl⟩ | h
  · omega
  · exact h
theorem RowS.room {w : World} {g n cap : Nat} {d : Nat → Int × Int} (h : RowS w g n cap d) : n ≤ cap ∧ cap ≤ maxLen := by
  obtain ⟨cur, h1, h2, h3, h4⟩ := h
  exact h2

theorem one_cells (w : World) (p q : Int) (t : TypeId) : ∀ j u, [Value.int .i64 p, Value.int .i64 q][j]? = some u → (w.alloc (.cells #[.int .i64 p, .int .i64 q] t)).cell? ((⟨w.heap.size, 0, none⟩ : Addr).add j) = some u := by
  intro j u hj
  match j, hj with
  | 0, hj => simp at hj; subst hj; exact (Blk.new w t #[.int .i64 p, .int .i64 q]).cell 0
  | 1, hj => simp at hj; subst hj; exact (Blk.new w t #[.int .i64 p, .int .i64 q]).cell 1
theorem one_cell' (p q : Int) : ∀ u ∈ [Value.int .i64 p, Value.int .i64 q], u.oneCell' = true := by
  intro u hu; simp at hu; rcases hu with rfl | rfl <;> rfl
/-- What lies in a row of the call's own, from place k on. -/
theorem row_cells {w : World} {g n cap : Nat} {d : Nat → Int × Int} (h : RowS w g n cap d) (k j off : Nat) (hk : k + j ≤ n) (ho : off = k * 2) : ∀ x u, (spCells j (fun q => d (k + q)))[x]? = some u → w.cell? ((⟨g, off, none⟩ : Addr).add x) = some u := by
  subst ho
  exact spans_cells fun i hi => by
    have h1 := h.fst (show k + i < n by omega)
    have h2 := h.snd (show k + i < n by omega)
    rw [show (k + i) * 2 = k * 2 + i * 2 by omega] at h1 h2
    exact ⟨h1, h2⟩
theorem row_cells0 {w : World} {g n cap : Nat} {d : Nat → Int × Int} (h : RowS w g n cap d) (j : Nat) (hk : j ≤ n) : ∀ x u, (spCells j d)[x]? = some u → w.cell? ((⟨g, 0, none⟩ : Addr).add x) = some u := by
  have := row_cells h 0 j 0 (by omega) (by omega)
  simpa using this
/-- What an append to the call's own spans leaves of another row of its own. -/
theorem app_any {B g n len cap1 m : Nat} {v v1 : Value} {o o1 d' : Nat → Int × Int} {W W' wz : World} (hV : RowV W B v n o) (hR : RowS W g len cap1 d') (hvg : v.ownBlock ≠ some g) (hB : B ≤ W.heap.size) (hW : W.grownBy W' none)
    (hown : wz.ownsRow B 59 2 v1 m (spCells m o1)) (hg : W'.grownBy wz v.ownBlock) {z : Nat} (hz : W.heap.size ≤ z) (hat : v1.ownBlock = v.ownBlock ∨ v1.ownBlock = some z) :
    RowV wz B v1 m o1 ∧ v1.ownBlock ≠ some g ∧ RowS wz g len cap1 d' ∧ Below B W wz := by
  refine ⟨row_of_own hown, ?_, (hR.only hW (by simp)).only hg (fun e => hvg e.symm), (below_of_only hW hB (by simp)).trans (below_of_only hg (Nat.le_trans hB hW.size) (fun k hk => (hV.blk k hk).1))⟩
  rcases hat with h | h
  · rw [h]; exact hvg
  · rw [h]
    intro e
    injection e with e
    have h1 := hR.lt
    omega

/-- The spans l as1 the document puts them in order. -/
def USortedV (B n : Nat) (d : Nat → Int × Int) (w : World) (e : Ending) (w' : World) : Prop :=
  ∃ v d', e = .returned v ∧ RowV w' B v n d' ∧ So.Perm 0 n d d' ∧ So.Sorted d' 0 n ∧ Below B w w'

end Go.Proofs.Ythlapnljinkekab

/- Are two rows of spans the same: the contract of the document's Same. -/
namespace Go.Proofs.Ythlapnljinkekab
open Go.RowKit Go.Lib Go.Sort
set_option linter.unusedVariables false

end Go.Proofs.Ythlapnljinkekab

/- SpanSorts: sorted spans are the same ones, in order: for every spans (of which the first 60 count) the law returns true. No condition. -/
namespace Go.Proofs.Ythlapnljinkekab
open Go.RowKit Go.Lib Go.Sort
set_option linter.unusedVariables false

theorem RowV.spans {w : World} {B n : Nat} {v : Value} {d : Nat → Int × Int} (h : RowV w B v n d) : ∃ A c, v = .slice A n c ∧ Spans w A n c d := by
  rcases h with ⟨rfl, rfl⟩ | ⟨g, c, rfl, _, h⟩
  · exact ⟨none, 0, rfl, fun _ => ⟨rfl, rfl⟩, fun h => absurd h (by omega)⟩
  · exact ⟨_, c, rfl, h.spans n (Nat.le_refl _) c⟩
theorem Spans.cut {w : World} {A : Option Addr} {len cap : Nat} {d : Nat → Int × Int} (h : Spans w A len cap d) (m : Nat) (hm : m ≤ len) : Spans w A m cap d := by
  refine ⟨fun hn => ⟨by have := (h.1 hn).1; omega, (h.1 hn).2⟩, fun hp => ?_⟩
  obtain ⟨b, off, h1, h2, h3⟩ := h.2 (by omega)
  exact ⟨b, off, h1, h2, fun i hi => h3 i (by omega)⟩

end Go.Proofs.Ythlapnljinkekab
