import Derived.Test.YteoaaogfloljlaaDoorZ04
import Derived.LoopN
set_option linter.all false
/- Package asm: a reader as1 it stands in memory; what becomes of it where something is put behind what it has read. -/
namespace Go.Proofs.YteoaaogfloljlaaDoor
open Go.RowKit Go.Lib
set_option linter.unusedVariables false
set_option maxRecDepth 8000

theorem Am.step_app_eq {P : Program} {ops : Array Oper} {o : Oper} {a : Act} {W : World} {K : Act → World → Prop} {Q : Exit → Act → World → Prop} {E : Prop} (hgd : o.guard = none) (s x : Operand) (t : TypeId) (ho : o.op = .call { callee := .builtin .append, args := #[s, x], argTypes := #[t, t] })
    {v xs v' : Value} {w' : World} (hr : (Builtin.append_ #[t, t] o.type #[v, xs]).run P W = .ok v' w') (hs : a.eval s = v) (hx : a.eval x = xs) (h : K (a.put o.dst v') w') : if Region.wanted o (yielded ops a.tmps) = true then Oper.wp P o a W K Q else E := by
  have hw : Region.wanted o (yielded ops a.tmps) = true := by simp [Region.wanted, hgd]
  rw [if_pos hw]
  unfold Oper.wp execOp
  simp only [ho, resolve, invoke, builtin, Sem.run_bind, Sem.run_pure, Result.andThen_ok, List.map_toArray, List.map_cons, List.map_nil, hs, hx, hr]
  exact h
def Am.lb1 (x : List UInt8 × Nat) : List Value := [.string ⟨x.1.toArray⟩, .int .i64 x.2]
def Am.ws1 (x : Nat × List UInt8 × Nat) : List Value := [.int .i64 x.1, .string ⟨x.2.1.toArray⟩, .int .i64 x.2.2]
def Am.lbL (L : List (List UInt8 × Nat)) : List Value := L.flatMap Am.lb1
def Am.wsL (L : List (Nat × List UInt8 × Nat)) : List Value := L.flatMap Am.ws1
theorem Am.lbL_one (L : List (List UInt8 × Nat)) : ∀ u ∈ Am.lbL L, u.oneCell' = true := by
  intro u hu
  simp only [Am.lbL, List.mem_flatMap, Am.lb1, List.mem_cons, List.not_mem_nil, or_false] at hu
  obtain ⟨x, _, rfl | rfl⟩ := hu <;> rfl
theorem Am.wsL_one (L : List (Nat × List UInt8 × Nat)) : ∀ u ∈ Am.wsL L, u.oneCell' = true := by
  intro u hu
  simp only [Am.wsL, List.mem_flatMap, Am.ws1, List.mem_cons, List.not_mem_nil, or_false] at hu
  obtain ⟨x, _, rfl | rfl | rfl⟩ := hu <;> rfl
theorem Am.bytes_one (l : List UInt8) : ∀ u ∈ byteCells l, u.oneCell' = true := by
  intro u hu
  simp only [byteCells, List.mem_map] at hu
  obtain ⟨a, _, rfl⟩ := hu
  rfl
/-- The blocks of a reader. -/
def Am.ft (b m : Nat) (pv lv wv : Value) (i : Nat) : Prop := i = b ∨ i = m ∨ pv.ownBlock = some i ∨ lv.ownBlock = some i ∨ wv.ownBlock = some i
structure Am.Rq (w : World) (b : Nat) (ln : Nat) (st : Am.St) (ml : List (List UInt8 × Nat)) (pv lv wv : Value) (m : Nat) : Prop where
  blk : Blk w b 43 #[.int .i64 ln, pv, lv, .map (some m), wv]
  pr : RowZ 1 w pv st.pr.length (byteCells st.pr)
  lb : RowZ 2 w lv st.lb.length (Am.lbL st.lb)
  ws : RowZ 3 w wv st.ws.length (Am.wsL st.ws)
  mp : Am.MapL w m ml
  n1 : m ≠ b
  n2 : ∀ i, pv.ownBlock = some i → i ≠ b ∧ i ≠ m ∧ lv.ownBlock ≠ some i ∧ wv.ownBlock ≠ some i
  n3 : ∀ i, lv.ownBlock = some i → i ≠ b ∧ i ≠ m ∧ wv.ownBlock ≠ some i
  n4 : ∀ i, wv.ownBlock = some i → i ≠ b ∧ i ≠ m
abbrev Am.Rr (w : World) (b : Nat) (ln : Nat) (st : Am.St) (pv lv wv : Value) (m : Nat) : Prop := Am.Rq w b ln st st.lb pv lv wv m
/-- A reader in block b, which is at line ln and has read st; its blocks are among F. -/
def Am.Rd (w : World) (b ln : Nat) (st : Am.St) (F : Nat → Prop) : Prop := ∃ pv lv wv m, Am.Rr w b ln st pv lv wv m ∧ ∀ i, Am.ft b m pv lv wv i → F i
/-- What a call on a reader changes. -/
def Am.Nx (w w' : World) (F F' : Nat → Prop) : Prop := Keeps F w w' ∧ ∀ i, F' i → F i ∨ w.heap.size ≤ i
theorem Am.Nx.refl (w : World) (F : Nat → Prop) : Am.Nx w w F F := ⟨Keeps.refl _ _, fun i h => .inl h⟩
theorem Am.Nx.trans {w1 w2 w3 : World} {F F1 F2 : Nat → Prop} (h : Am.Nx w1 w2 F F1) (k : Am.Nx w2 w3 F1 F2) : Am.Nx w1 w3 F F2 := by
  have hs := h.1.size
  refine ⟨⟨k.1.1.trans h.1.1, k.1.2.1.trans h.1.2.1, k.1.2.2.1.trans h.1.2.2.1, Nat.le_trans hs k.1.size, fun i hi hn => ?_⟩, fun i hi => ?_⟩
  · rw [k.1.2.2.2.2 i (by omega) (fun e => ?_), h.1.2.2.2.2 i hi hn]
    rcases h.2 i e with e | e
    · exact hn e
    · omega
  · rcases k.2 i hi with e | e
    · exact h.2 i e
    · exact .inr (by omega)
theorem Am.Nx.of_grown {w w' : World} (h : w.grownBy w' none) (F : Nat → Prop) : Am.Nx w w' F F := ⟨Keeps.of_only h (fun k hk => by cases hk), fun i hi => .inl hi⟩
theorem Am.dis {a b : Option Nat} (h : ∀ i, a = some i → b ≠ some i) : a = none ∨ a ≠ b := by
  cases a with
  | none => exact .inl rfl
  | some i => exact .inr (fun e => h i rfl e.symm)
section
variable {w w1 w2 : World} {b ln : Nat} {st : Am.St} {pv lv wv v' : Value} {m n : Nat} {ys : List Value}
theorem Am.Rq.grown {ml : List (List UInt8 × Nat)} (h : Am.Rq w b ln st ml pv lv wv m) (g : w.grownBy w1 none) : Am.Rq w1 b ln st ml pv lv wv m :=
  ⟨h.blk.only g (by simp), h.pr.grown g, h.lb.grown g, h.ws.grown g, h.mp.only g (by simp), h.n1, h.n2, h.n3, h.n4⟩
theorem Am.Rd.grown {F : Nat → Prop} (h : Am.Rd w b ln st F) (g : w.grownBy w1 none) : Am.Rd w1 b ln st F := by
  obtain ⟨pv, lv, wv, m, h, k⟩ := h
  exact ⟨pv, lv, wv, m, h.grown g, k⟩
theorem Am.Rq.lt {ml : List (List UInt8 × Nat)} (h : Am.Rq w b ln st ml pv lv wv m) : ∀ i, Am.ft b m pv lv wv i → i < w.heap.size := by
  intro i hi
  rcases hi with rfl | rfl | hi | hi | hi
  · exact h.blk.lt
  · exact h.mp.lt
  · exact h.pr.lt i hi
  · exact h.lb.lt i hi
  · exact h.ws.lt i hi
/-- A line's number. -/
theorem Am.Rr.line (h : Am.Rr w b ln st pv lv wv m) (k : Nat) : Am.Rr (w.setCell ⟨b, 0, none⟩ (.int .i64 k)) b k st pv lv wv m ∧ Am.Nx w (w.setCell ⟨b, 0, none⟩ (.int .i64 k)) (Am.ft b m pv lv wv) (Am.ft b m pv lv wv) := by
  have q1 := fun e => (h.n2 b e).1 rfl
  have q2 := fun e => (h.n3 b e).1 rfl
  have q3 := fun e => (h.n4 b e).1 rfl
  refine ⟨⟨h.blk.put 0 _, h.pr.put q1 _, h.lb.put q2 _, h.ws.put q3 _, h.mp.only (only_put (only_refl w (some b)) 0 _) (fun e => by injection e with e; exact h.n1 e), h.n1, h.n2, h.n3, h.n4⟩, ?_, fun i hi => .inl hi⟩
  exact Keeps.put (p := ⟨b, 0, none⟩) (Keeps.refl _ _) (.inl (.inl rfl)) _
/-- What a call of append onto the program leaves. -/
theorem Am.Rr.setP (h : Am.Rr w b ln st pv lv wv m) (g1 : w.grownBy w1 none) (hg : w1.grownBy w2 pv.ownBlock) (ho : v'.ownBlock = pv.ownBlock ∨ v'.ownBlock = some w1.heap.size)
    (l : List UInt8) (hr : RowZ 1 w2 v' l.length (byteCells l)) :
    Blk w2 b 43 #[.int .i64 ln, pv, lv, .map (some m), wv] ∧ Am.Rr (w2.setCell ⟨b, 1, none⟩ v') b ln ⟨l, st.lb, st.ws⟩ v' lv wv m ∧ Am.Nx w (w2.setCell ⟨b, 1, none⟩ v') (Am.ft b m pv lv wv) (Am.ft b m v' lv wv) := by
  have k := h.grown g1
  have hs := g1.size
  have hb := k.blk.only hg (fun e => (h.n2 b e.symm).1 rfl)
  have n2' : ∀ i, v'.ownBlock = some i → i ≠ b ∧ i ≠ m ∧ lv.ownBlock ≠ some i ∧ wv.ownBlock ≠ some i := fun i hi => by
    rcases ho with e | e
    · exact h.n2 i (e ▸ hi)
    · rw [e] at hi
      injection hi with hi
      subst hi
      have := k.blk.lt
      have := k.mp.lt
      exact ⟨by omega, by omega, fun q => by have := k.lb.lt _ q; omega, fun q => by have := k.ws.lt _ q; omega⟩
  refine ⟨hb, ⟨hb.put 1 v', hr.put (fun e => (n2' b e).1 rfl) _, (k.lb.only hg (Am.dis fun i hi q => (h.n2 i q).2.2.1 hi)).put (fun e => (h.n3 b e).1 rfl) _, (k.ws.only hg (Am.dis fun i hi q => (h.n2 i q).2.2.2 hi)).put (fun e => (h.n4 b e).1 rfl) _, (k.mp.only hg (fun e => (h.n2 m e.symm).2.1 rfl)).only (only_put (only_refl w2 (some b)) 1 _) (fun e => by injection e with e; exact h.n1 e), h.n1, n2', h.n3, h.n4⟩, ?_, fun i hi => ?_⟩
  · have k1 : Keeps (Am.ft b m pv lv wv) w w1 := Keeps.of_only g1 (fun k hk => by cases hk)
    have k2 : Keeps (Am.ft b m pv lv wv) w1 w2 := Keeps.of_only hg (fun k hk => .inr (.inr (.inl hk)))
    exact Keeps.put (p := ⟨b, 1, none⟩) (k1.trans k2) (.inl (.inl rfl)) _
  · rcases hi with e | e | e | e | e
    · exact .inl (.inl e)
    · exact .inl (.inr (.inl e))
    · rcases ho with q | q
      · exact .inl (.inr (.inr (.inl (q ▸ e))))
      · rw [q] at e; injection e with e; exact .inr (by omega)
    · exact .inl (.inr (.inr (.inr (.inl e))))
    · exact .inl (.inr (.inr (.inr (.inr e))))
theorem Am.Rr.setW (h : Am.Rr w b ln st pv lv wv m) (g1 : w.grownBy w1 none) (hg : w1.grownBy w2 wv.ownBlock) (ho : v'.ownBlock = wv.ownBlock ∨ v'.ownBlock = some w1.heap.size)
    (l : List (Nat × List UInt8 × Nat)) (hr : RowZ 3 w2 v' l.length (Am.wsL l)) :
    Blk w2 b 43 #[.int .i64 ln, pv, lv, .map (some m), wv] ∧ Am.Rr (w2.setCell ⟨b, 4, none⟩ v') b ln ⟨st.pr, st.lb, l⟩ pv lv v' m ∧ Am.Nx w (w2.setCell ⟨b, 4, none⟩ v') (Am.ft b m pv lv wv) (Am.ft b m pv lv v') := by
  have k := h.grown g1
  have hs := g1.size
  have hb := k.blk.only hg (fun e => (h.n4 b e.symm).1 rfl)
  have nw : ∀ i, v'.ownBlock = some i → wv.ownBlock = some i ∨ i = w1.heap.size := fun i hi => by
    rcases ho with e | e
    · exact .inl (e ▸ hi)
    · rw [e] at hi; injection hi with hi; exact .inr hi.symm
  have n4' : ∀ i, v'.ownBlock = some i → i ≠ b ∧ i ≠ m := fun i hi => by
    have := k.blk.lt
    have := k.mp.lt
    rcases nw i hi with e | e
    · exact h.n4 i e
    · exact ⟨by omega, by omega⟩
  have n2' : ∀ i, pv.ownBlock = some i → i ≠ b ∧ i ≠ m ∧ lv.ownBlock ≠ some i ∧ v'.ownBlock ≠ some i := fun i hi => by
    obtain ⟨a1, a2, a3, a4⟩ := h.n2 i hi
    exact ⟨a1, a2, a3, fun q => by rcases nw i q with e | e; exact a4 e; have := k.pr.lt i hi; omega⟩
  have n3' : ∀ i, lv.ownBlock = some i → i ≠ b ∧ i ≠ m ∧ v'.ownBlock ≠ some i := fun i hi => by
    obtain ⟨a1, a2, a3⟩ := h.n3 i hi
    exact ⟨a1, a2, fun q => by rcases nw i q with e | e; exact a3 e; have := k.lb.lt i hi; omega⟩
  refine ⟨hb, ⟨hb.put 4 v', (k.pr.only hg (Am.dis fun i hi q => (h.n2 i hi).2.2.2 q)).put (fun e => (h.n2 b e).1 rfl) _, (k.lb.only hg (Am.dis fun i hi q => (h.n3 i hi).2.2 q)).put (fun e => (h.n3 b e).1 rfl) _, hr.put (fun e => (n4' b e).1 rfl) _, (k.mp.only hg (fun e => (h.n4 m e.symm).2 rfl)).only (only_put (only_refl w2 (some b)) 4 _) (fun e => by injection e with e; exact h.n1 e), h.n1, n2', n3', n4'⟩, ?_, fun i hi => ?_⟩
  · have k1 : Keeps (Am.ft b m pv lv wv) w w1 := Keeps.of_only g1 (fun k hk => by cases hk)
    have k2 : Keeps (Am.ft b m pv lv wv) w1 w2 := Keeps.of_only hg (fun k hk => .inr (.inr (.inr (.inr hk))))
    exact Keeps.put (p := ⟨b, 4, none⟩) (k1.trans k2) (.inl (.inl rfl)) _
  · rcases hi with e | e | e | e | e
    · exact .inl (.inl e)
    · exact .inl (.inr (.inl e))
    · exact .inl (.inr (.inr (.inl e)))
    · exact .inl (.inr (.inr (.inr (.inl e))))
    · rcases nw i e with q | q
      · exact .inl (.inr (.inr (.inr (.inr q))))
      · exact .inr (by omega)
theorem Am.Rq.setL {ml : List (List UInt8 × Nat)} (h : Am.Rq w b ln st ml pv lv wv m) (g1 : w.grownBy w1 none) (hg : w1.grownBy w2 lv.ownBlock) (ho : v'.ownBlock = lv.ownBlock ∨ v'.ownBlock = some w1.heap.size)
    (l : List (List UInt8 × Nat)) (hr : RowZ 2 w2 v' l.length (Am.lbL l)) :
    Blk w2 b 43 #[.int .i64 ln, pv, lv, .map (some m), wv] ∧ Am.Rq (w2.setCell ⟨b, 2, none⟩ v') b ln ⟨st.pr, l, st.ws⟩ ml pv v' wv m ∧ Am.Nx w (w2.setCell ⟨b, 2, none⟩ v') (Am.ft b m pv lv wv) (Am.ft b m pv v' wv) := by
  have k := h.grown g1
  have hs := g1.size
  have hb := k.blk.only hg (fun e => (h.n3 b e.symm).1 rfl)
  have nw : ∀ i, v'.ownBlock = some i → lv.ownBlock = some i ∨ i = w1.heap.size := fun i hi => by
    rcases ho with e | e
    · exact .inl (e ▸ hi)
    · rw [e] at hi; injection hi with hi; exact .inr hi.symm
  have n3' : ∀ i, v'.ownBlock = some i → i ≠ b ∧ i ≠ m ∧ wv.ownBlock ≠ some i := fun i hi => by
    have := k.blk.lt
    have := k.mp.lt
    rcases nw i hi with e | e
    · exact h.n3 i e
    · exact ⟨by omega, by omega, fun q => by have := k.ws.lt i q; omega⟩
  have n2' : ∀ i, pv.ownBlock = some i → i ≠ b ∧ i ≠ m ∧ v'.ownBlock ≠ some i ∧ wv.ownBlock ≠ some i := fun i hi => by
    obtain ⟨a1, a2, a3, a4⟩ := h.n2 i hi
    exact ⟨a1, a2, fun q => by rcases nw i q with e | e; exact a3 e; have := k.pr.lt i hi; omega, a4⟩
  refine ⟨hb, ⟨hb.put 2 v', (k.pr.only hg (Am.dis fun i hi q => (h.n2 i hi).2.2.1 q)).put (fun e => (h.n2 b e).1 rfl) _, hr.put (fun e => (n3' b e).1 rfl) _, (k.ws.only hg (Am.dis fun i hi q => (h.n3 i q).2.2 hi)).put (fun e => (h.n4 b e).1 rfl) _, (k.mp.only hg (fun e => (h.n3 m e.symm).2.1 rfl)).only (only_put (only_refl w2 (some b)) 2 _) (fun e => by injection e with e; exact h.n1 e), h.n1, n2', n3', h.n4⟩, ?_, fun i hi => ?_⟩
  · have k1 : Keeps (Am.ft b m pv lv wv) w w1 := Keeps.of_only g1 (fun k hk => by cases hk)
    have k2 : Keeps (Am.ft b m pv lv wv) w1 w2 := Keeps.of_only hg (fun k hk => .inr (.inr (.inr (.inl hk))))
    exact Keeps.put (p := ⟨b, 2, none⟩) (k1.trans k2) (.inl (.inl rfl)) _
  · rcases hi with e | e | e | e | e
    · exact .inl (.inl e)
    · exact .inl (.inr (.inl e))
    · exact .inl (.inr (.inr (.inl e)))
    · rcases nw i e with q | q
      · exact .inl (.inr (.inr (.inr (.inl q))))
      · exact .inr (by omega)
    · exact .inl (.inr (.inr (.inr (.inr e))))
/-- What a name's place put into the map leaves. -/
theorem Am.Rr.setM {ml : List (List UInt8 × Nat)} (h : Am.Rr w b ln st pv lv wv m) (hg : w.grownBy w1 (some m)) (hm : Am.MapL w1 m ml) : Am.Rq w1 b ln st ml pv lv wv m ∧ Am.Nx w w1 (Am.ft b m pv lv wv) (Am.ft b m pv lv wv) :=
  ⟨⟨h.blk.only hg (fun e => by injection e with e; exact h.n1 e.symm), h.pr.only hg (Am.dis fun i hi q => by injection q with q; exact (h.n2 i hi).2.1 q.symm), h.lb.only hg (Am.dis fun i hi q => by injection q with q; exact (h.n3 i hi).2.1 q.symm), h.ws.only hg (Am.dis fun i hi q => by injection q with q; exact (h.n4 i hi).2 q.symm), hm, h.n1, h.n2, h.n3, h.n4⟩,
    Keeps.of_only hg (fun k hk => by injection hk with hk; exact .inr (.inl hk.symm)), fun i hi => .inl hi⟩
end
end Go.Proofs.YteoaaogfloljlaaDoor

/- Package asm: bytes put behind the program, by their contract. -/
namespace Go.Proofs.YteoaaogfloljlaaDoor
open Go.RowKit Go.Lib
set_option linter.unusedVariables false
set_option maxRecDepth 8000

theorem Am.u8_info : (Tryd.prog.info? 5).map (fun i => (i.zero, i.size, i.bytes)) = some (some (.int .u8 0), 1, 1) := by kernel_rfl
theorem Am.wish_info : (Tryd.prog.info? 72).map (fun i => (i.zero, i.size, i.bytes)) = some (some (.agg #[.int .i64 0, .string ⟨#[]⟩, .int .i64 0]), 3, 32) := by kernel_rfl
theorem Am.label_info : (Tryd.prog.info? 82).map (fun i => (i.zero, i.size, i.bytes)) = some (some (.agg #[.string ⟨#[]⟩, .int .i64 0]), 2, 24) := by kernel_rfl
theorem Am.parts {P : Program} {e : TypeId} {z : Value} {s b : Nat} (h : (P.info? e).map (fun i => (i.zero, i.size, i.bytes)) = some (some z, s, b)) : ∃ i, P.info? e = some i ∧ i.zero = some z ∧ i.size = s ∧ i.bytes = b := by
  cases hi : P.info? e with
  | none => rw [hi] at h; cases h
  | some i =>
    rw [hi] at h
    simp only [Option.map_some, Option.some.injEq, Prod.mk.injEq] at h
    exact ⟨i, rfl, h.1, h.2.1, h.2.2⟩
section
variable {w : World} {b ln : Nat} {st : Am.St} {pv lv wv : Value} {m : Nat}
theorem Am.Rr.pushP (h : Am.Rr w b ln st pv lv wv m) (s : ByteArray) (h0 : 0 < s.size) (hs : st.pr.length + s.size ≤ 1000000) :
    ∃ v' w2, (Builtin.append_ #[34, 9] 34 #[pv, .string s]).run Tryd.prog w = .ok v' w2 ∧ Blk w2 b 43 #[.int .i64 ln, pv, lv, .map (some m), wv] ∧ Am.Rr (w2.setCell ⟨b, 1, none⟩ v') b ln ⟨st.pr ++ s.data.toList, st.lb, st.ws⟩ v' lv wv m ∧ Am.Nx w (w2.setCell ⟨b, 1, none⟩ v') (Am.ft b m pv lv wv) (Am.ft b m v' lv wv) ∧ ∃ A c, v' = .slice A (st.pr.length + s.size) c := by
  obtain ⟨i0, hi, hz, hsz, hby⟩ := Am.parts Am.u8_info
  have hsrc : Src Tryd.prog 1 9 (.string s) s.size (Go.byteCells s) w := Src.ofString (w := w) Tryd.underlying9 _
  obtain ⟨v', w2, hk, hr, hg, ho⟩ := run_growZ (P := Tryd.prog) w 34 9 5 34 s.size h0 i0 _ 1 Tryd.underlying34 hi hz hsz hby (by omega) rfl _ _ _ h.pr (Am.bytes_one _) _ _ hsrc hs
  have hy : byteCells st.pr ++ Go.byteCells s = byteCells (st.pr ++ s.data.toList) := by simp [byteCells, Go.byteCells]
  have hl : (st.pr ++ s.data.toList).length = st.pr.length + s.size := by simp
  obtain ⟨q1, q2, q3⟩ := h.setP (only_refl _ _) hg ho (st.pr ++ s.data.toList) (by rw [hl, ← hy]; exact hr)
  exact ⟨v', w2, hk, q1, q2, q3, hr.form⟩
theorem Am.Rr.pushW (h : Am.Rr w b ln st pv lv wv m) (nm : List UInt8) (x : Nat) (hs : st.ws.length ≤ 100000) :
    ∃ v' w2, (Builtin.append_ #[41, 41] 41 #[wv, .slice (some ⟨w.heap.size, 0, none⟩) 1 1]).run Tryd.prog (w.alloc (.cells #[.int .i64 ln, .string ⟨nm.toArray⟩, .int .i64 x] 72)).drew = .ok v' w2 ∧ Am.Rr (w2.setCell ⟨b, 4, none⟩ v') b ln ⟨st.pr, st.lb, st.ws ++ [(ln, nm, x)]⟩ pv lv v' m ∧ Am.Nx w (w2.setCell ⟨b, 4, none⟩ v') (Am.ft b m pv lv wv) (Am.ft b m pv lv v') ∧ (∃ A c, v' = .slice A (st.ws.length + 1) c) ∧
      ∀ W, W = w.drew ∨ W = (w.alloc (.cells #[.int .i64 ln, .string ⟨nm.toArray⟩, .int .i64 x] 72)).drew ∨ W = w2 → Blk W b 43 #[.int .i64 ln, pv, lv, .map (some m), wv] := by
  obtain ⟨i0, hi, hz, hsz, hby⟩ := Am.parts Am.wish_info
  have e3 : #[Value.int .i64 ln, .string ⟨nm.toArray⟩, .int .i64 x] = (Am.ws1 (ln, nm, x)).toArray := rfl
  rw [e3]
  generalize hW1 : (w.alloc (.cells (Am.ws1 (ln, nm, x)).toArray 72)).drew = W1
  have g1 : w.grownBy W1 none := by rw [← hW1]; exact only_drewN (only_alloc (only_refl _ none) _) 1
  have b1 : Blk W1 w.heap.size 72 (Am.ws1 (ln, nm, x)).toArray := by rw [← hW1]; exact (Blk.new w 72 _).drewN 1
  have hsrc : Src Tryd.prog 3 41 (.slice (some ⟨w.heap.size, 0, none⟩) 1 1) 1 (Am.ws1 (ln, nm, x)) W1 := Src.ofSlice _ Tryd.underlying41 _ _ _ _ (by simp [Am.ws1]) (fun k u hu => by
    rw [addr_at, Nat.zero_add, b1.cell k]
    simpa using hu) (by intro u hu; simp [Am.ws1] at hu; rcases hu with rfl | rfl | rfl <;> rfl)
  obtain ⟨v', w2, hk, hr, hg, ho⟩ := run_pushZ (P := Tryd.prog) W1 41 72 41 i0 _ 32 Tryd.underlying41 hi hz hsz hby (by omega) rfl _ _ _ (h.ws.grown g1) (Am.wsL_one _) _ _ hsrc (by omega)
  have hl : (st.ws ++ [(ln, nm, x)]).length = st.ws.length + 1 := by simp
  have hy : Am.wsL st.ws ++ Am.ws1 (ln, nm, x) = Am.wsL (st.ws ++ [(ln, nm, x)]) := by simp [Am.wsL]
  obtain ⟨q1, q2, q3⟩ := h.setW g1 hg ho (st.ws ++ [(ln, nm, x)]) (by rw [hl, ← hy]; exact hr)
  refine ⟨v', w2, hk, q2, q3, hr.form, fun W hW => ?_⟩
  rcases hW with rfl | rfl | rfl
  · exact h.blk.drewN 1
  · exact h.blk.only g1 (by simp)
  · exact q1
end
/-- Nothing, and what was read; or giving up. -/
def Am.stP (w : World) (b ln : Nat) (F : Nat → Prop) (z : Int × Am.St) (r : Ending) (w' : World) : Prop :=
  if z.1 = 0 then r = .returned (.tuple #[]) ∧ ∃ F', Am.Rd w' b ln z.2 F' ∧ Am.Nx w w' F F' else r = .panicked (Am.chn ln z.1) ∧ Keeps F w w'
theorem Am.stP_bad {w : World} {b ln : Nat} {F : Nat → Prop} {e : Int} {st : Am.St} (h : e ≠ 0) : Am.stP w b ln F (e, st) = fun r w' => r = .panicked (Am.chn ln e) ∧ Keeps F w w' := by
  funext r w'
  unfold Am.stP
  rw [if_neg h]
theorem Am.stP_ok {w : World} {b ln : Nat} {F : Nat → Prop} {st : Am.St} : Am.stP w b ln F (0, st) = fun r w' => r = .returned (.tuple #[]) ∧ ∃ F', Am.Rd w' b ln st F' ∧ Am.Nx w w' F F' := by
  funext r w'
  unfold Am.stP
  rw [if_pos rfl]
/-- What bytes, with a name for the last two, make of what was read. -/
def Am.putV (ln : Nat) (s nm : List UInt8) (st : Am.St) : Int × Am.St := if 1024 < st.pr.length + s.length then (4, st) else (0, ⟨st.pr ++ s, st.lb, if nm = [] then st.ws else st.ws ++ [(ln, nm, st.pr.length + s.length - 2)]⟩)
theorem Am.Nx.mono {w w' : World} {F F' G : Nat → Prop} (h : Am.Nx w w' F F') (hs : ∀ i, F i → G i) : Am.Nx w w' G (fun i => F' i ∨ G i) :=
  ⟨h.1.mono (fun i _ hi => hs i hi), fun i hi => by
    rcases hi with e | e
    · rcases h.2 i e with q | q
      · exact .inl (hs i q)
      · exact .inr q
    · exact .inl e⟩
theorem Am.Rd.of {w w' : World} {b ln' : Nat} {st' : Am.St} {pv lv wv pv' lv' wv' : Value} {m m' : Nat} {F : Nat → Prop} (k : ∀ i, Am.ft b m pv lv wv i → F i) (h : Am.Rr w' b ln' st' pv' lv' wv' m') (n : Am.Nx w w' (Am.ft b m pv lv wv) (Am.ft b m' pv' lv' wv')) : ∃ F', Am.Rd w' b ln' st' F' ∧ Am.Nx w w' F F' :=
  ⟨_, ⟨_, _, _, _, h, fun i hi => .inl hi⟩, n.mono k⟩
end Go.Proofs.YteoaaogfloljlaaDoor

/- Package asm: put, by its contract. -/
namespace Go.Proofs.YteoaaogfloljlaaDoor
open Go.RowKit Go.Lib
set_option linter.unusedVariables false

set_option maxRecDepth 20000 in
set_option maxHeartbeats 1600000 in
theorem Am.put_any (b ln : Nat) (st : Am.St) (F : Nat → Prop) (s nm : ByteArray) (w : World) (h : Am.Rd w b ln st F) (h0 : 0 < s.size) (h4 : s.size ≤ 4) (hn : nm.data.toList ≠ [] → 2 ≤ s.size) (hp : st.pr.length ≤ 100000) (hw : st.ws.length ≤ 100000) :
    Calls Tryd.prog 42 #[.pointer (some ⟨b, 0, none⟩), .string s, .string nm] w (Am.stP w b ln F (Am.putV ln s.data.toList nm.data.toList st)) := by
  obtain ⟨pv, lv, wv, m, hR, hF⟩ := h
  obtain ⟨pA, pc, rfl⟩ := hR.pr.form
  have c0 : w.cell? ⟨b, 0, none⟩ = some (.int .i64 ln) := hR.blk.cell 0
  have c1 : w.cell? ⟨b, 1, none⟩ = some (.slice pA st.pr.length pc) := hR.blk.cell 1
  have u1 : IntKind.i64.wrap ((st.pr.length : Int) + (s.size : Int)) = (st.pr.length : Int) + (s.size : Int) := by rw [IntKind.wrap_i64]; omega
  have v1 : wrap64 ((st.pr.length : Int) + (s.size : Int)) = (st.pr.length : Int) + (s.size : Int) := IntWalk.wrap64_in _ ⟨by omega, by omega⟩
  have hsl := Am.len s
  by_cases hb : 1024 < st.pr.length + s.size
  · have hz : Am.putV ln s.data.toList nm.data.toList st = (4, st) := by unfold Am.putV; rw [if_pos (by omega)]
    have i1 : (1024 : Int) < (st.pr.length : Int) + (s.size : Int) := by omega
    have HG := Lib.hid (Am.giveup_any b ln 4 w c0)
    rw [hz]
    rw [Am.stP_bad (by decide)]
    clear hR hz hsl hn h0 h4 hp hw hb
    go_enter Tryd.func42, Tryd.ntmps42
    go_wp2_with (first
      | (go_at_call 33; (with_reducible refine HG.out.mono ?_); rintro r w3 ⟨rfl, rfl⟩))
    exact ⟨rfl, rfl, Keeps.refl _ _⟩
  have i1 : ¬ (1024 : Int) < (st.pr.length : Int) + (s.size : Int) := by omega
  have hz : Am.putV ln s.data.toList nm.data.toList st = (0, ⟨st.pr ++ s.data.toList, st.lb, if nm.data.toList = [] then st.ws else st.ws ++ [(ln, nm.data.toList, st.pr.length + s.size - 2)]⟩) := by unfold Am.putV; rw [if_neg (by omega), hsl]
  rw [hz]
  rw [Am.stP_ok]
  obtain ⟨v', w2, hk, hb2, q2, q3, A', c', rfl⟩ := hR.pushP s h0 (by omega)
  have d1 : w2.cell? ⟨b, 1, none⟩ = some (.slice pA st.pr.length pc) := hb2.cell 1
  have e1 := hb2.free 1
  have HK := Lib.hid hk
  obtain ⟨w3, hw3⟩ : ∃ W, W = w2.setCell ⟨b, 1, none⟩ (.slice A' (st.pr.length + s.size) c') := ⟨_, rfl⟩
  rw [← hw3] at q2 q3
  have Q2 := Lib.hid q2
  have Q3 := Lib.hid q3
  have HF := Lib.hid hF
  have HW := Lib.hid hw
  have HN := Lib.hid hn
  have HP4 := Lib.hid (show 0 < s.size ∧ s.size ≤ 4 ∧ st.pr.length ≤ 100000 from ⟨h0, h4, hp⟩)
  clear hR hz hsl hn h0 h4 hp hw hb hk hb2 q2 q3 hF c0
  by_cases hne : nm = ⟨#[]⟩
  · subst hne
    go_enter Tryd.func42, Tryd.ntmps42
    go_wp2_with (first | (at_builtin; refine wpList_append_eq2 rfl (.tmp 21) (.tmp 22) 34 9 rfl HK.out rfl rfl ?_))
    go_end0
    rw [← hw3]
    exact ⟨rfl, Am.Rd.of HF.out Q2.out Q3.out⟩
  · have hnb := Am.str_some hne
    have hnl : nm.data.toList ≠ [] := fun e => hne (by obtain ⟨⟨l⟩⟩ := nm; simp at e; rw [e])
    have h2 := HN.out hnl
    have HNL := Lib.hid hnl
    obtain ⟨x, hx⟩ : ∃ x : Nat, x = st.pr.length + s.size - 2 := ⟨_, rfl⟩
    rw [if_neg hnl, ← hx]
    have u2 : IntKind.i64.wrap (((st.pr.length + s.size : Nat) : Int) - 2) = (x : Int) := by rw [IntKind.wrap_i64]; have := HP4.out; omega
    have u3 : IntKind.i64.wrap ((st.pr.length : Int) + (s.size : Int) - 2) = (x : Int) := by rw [IntKind.wrap_i64]; have := HP4.out; omega
    have v2 : wrap64 (((st.pr.length + s.size : Nat) : Int) - 2) = (x : Int) := by rw [IntWalk.wrap64_in _ (by have := HP4.out; omega)]; have := HP4.out; omega
    have v3 : wrap64 ((st.pr.length : Int) + (s.size : Int) - 2) = (x : Int) := by rw [IntWalk.wrap64_in _ (by have := HP4.out; omega)]; have := HP4.out; omega
    obtain ⟨v4, w4, hk4, r2, r3, ⟨A4, c4, rfl⟩, r5⟩ := Q2.out.pushW nm.data.toList x (by show st.ws.length ≤ 100000; exact HW.out)
    rw [show (⟨nm.data.toList.toArray⟩ : ByteArray) = nm from by simp] at hk4 r5
    obtain ⟨wA, wc, rfl⟩ := Q2.out.ws.form
    have HK4 := Lib.hid hk4
    have R2 := Lib.hid r2
    have R3 := Lib.hid r3
    have SX := Lib.hid (show ∀ W, W = w3.drew ∨ W = (w3.alloc (.cells #[.int .i64 ln, .string nm, .int .i64 x] 72)).drew ∨ W = w4 → W.cell? ⟨b, 0, none⟩ = some (.int .i64 ln) ∧ W.cell? ⟨b, 1, none⟩ = some (.slice A' (st.pr.length + s.size) c') ∧ W.cell? ⟨b, 4, none⟩ = some (.slice wA st.ws.length wc) from fun W hW => by
      have q := r5 W hW
      exact ⟨q.cell 0, q.cell 1, q.cell 4⟩)
    have y1 : w4.cell? ⟨b, 4, none⟩ = some (.slice wA st.ws.length wc) := (SX.out w4 (.inr (.inr rfl))).2.2
    have y2 : w4.frozen? ⟨b, 4, none⟩ = false := (r5 w4 (.inr (.inr rfl))).free 4
    clear hk4 r2 r3 r5 hx hnl h2 hne
    go_enter Tryd.func42, Tryd.ntmps42
    go_upto_region 3 with (first | (at_builtin; refine wpList_append_eq2 rfl (.tmp 21) (.tmp 22) 34 9 rfl HK.out rfl rfl ?_))
    rw [← hw3]
    clear hw3 c1 d1 e1 HK
    go_upto_region 4 with (fail)
    refine wp_region_ends2 21 (fun W => W.cell? ⟨b, 0, none⟩ = some (.int .i64 ln) ∧ W.cell? ⟨b, 1, none⟩ = some (.slice A' (st.pr.length + s.size) c') ∧ W.cell? ⟨b, 4, none⟩ = some (.slice wA st.ws.length wc)) (by kernel_rfl) (by kernel_rfl) (SX.out _ (.inl rfl)) (fun hHeld => ?_)
    simp only [List.take_succ_cons, List.take_zero]
    refine wpAnyH_take (i := 0) (oi := _) (v := ?_) rfl (by kernel_rfl) (by kernel_rfl) (by kernel_rfl) (fun _ _ _ h => h) (Or.inl ⟨by rfl, ?_⟩) (by assumption) ?_
    case refine_2 => intro w hSw; (try dsimp only at hSw); go_simp; try with_reducible rfl
    try simp only [Act.put, List.setIfInBounds_toArray, List.set_cons_zero, List.set_cons_succ]
    refine wpAnyH_take (i := 1) (oi := _) (v := ?_) rfl (by kernel_rfl) (by kernel_rfl) (by kernel_rfl) (fun _ _ _ h => h) (Or.inl ⟨by rfl, ?_⟩) (by assumption) ?_
    case refine_2 => intro w hSw; (try dsimp only at hSw); go_simp; try with_reducible rfl
    try simp only [Act.put, List.setIfInBounds_toArray, List.set_cons_zero, List.set_cons_succ]
    refine wpAnyH_take (i := 2) (oi := _) (v := ?_) rfl (by kernel_rfl) (by kernel_rfl) (by kernel_rfl) (fun _ _ _ h => h) (Or.inl ⟨by rfl, ?_⟩) (by assumption) ?_
    case refine_2 => intro w hSw; (try dsimp only at hSw); go_simp; try with_reducible rfl
    try simp only [Act.put, List.setIfInBounds_toArray, List.set_cons_zero, List.set_cons_succ]
    refine wpAnyH_take (i := 3) (oi := _) (v := ?_) rfl (by kernel_rfl) (by kernel_rfl) (by kernel_rfl) (fun _ _ _ h => h) (Or.inl ⟨by rfl, ?_⟩) (by assumption) ?_
    case refine_2 => intro w hSw; (try dsimp only at hSw); go_simp; try with_reducible rfl
    try simp only [Act.put, List.setIfInBounds_toArray, List.set_cons_zero, List.set_cons_succ]
    refine wpAnyH_take (i := 4) (oi := _) (v := ?_) rfl (by kernel_rfl) (by kernel_rfl) (by kernel_rfl) (fun _ _ _ h => h) (Or.inl ⟨by rfl, ?_⟩) (by assumption) ?_
    case refine_2 => intro w hSw; (try dsimp only at hSw); go_simp; try with_reducible rfl
    try simp only [Act.put, List.setIfInBounds_toArray, List.set_cons_zero, List.set_cons_succ]
    refine wpAnyH_take (i := 5) (oi := _) (v := ?_) rfl (by kernel_rfl) (by kernel_rfl) (by kernel_rfl) (fun _ _ _ h => h) (Or.inl ⟨by rfl, ?_⟩) (by assumption) ?_
    case refine_2 => intro w hSw; (try dsimp only at hSw); go_simp; try with_reducible rfl
    try simp only [Act.put, List.setIfInBounds_toArray, List.set_cons_zero, List.set_cons_succ]
    refine wpAnyH_take (i := 6) (oi := _) (v := ?_) rfl (by kernel_rfl) (by kernel_rfl) (by kernel_rfl) (fun _ _ _ h => h) (Or.inl ⟨by rfl, ?_⟩) (by assumption) ?_
    case refine_2 => intro w hSw; (try dsimp only at hSw); go_simp; try with_reducible rfl
    try simp only [Act.put, List.setIfInBounds_toArray, List.set_cons_zero, List.set_cons_succ]
    refine wpAnyH_take (i := 7) (oi := _) (v := ?_) rfl (by kernel_rfl) (by kernel_rfl) (by kernel_rfl) (fun _ _ _ h => h) (Or.inl ⟨by rfl, ?_⟩) (by assumption) ?_
    case refine_2 => intro w hSw; (try dsimp only at hSw); go_simp; try with_reducible rfl
    try simp only [Act.put, List.setIfInBounds_toArray, List.set_cons_zero, List.set_cons_succ]
    refine wpAnyH_take (i := 8) (oi := _) (v := ?_) rfl (by kernel_rfl) (by kernel_rfl) (by kernel_rfl) (fun _ _ _ h => h) (Or.inl ⟨by rfl, ?_⟩) (by assumption) ?_
    case refine_2 => intro w hSw; (try dsimp only at hSw); go_simp; try with_reducible rfl
    try simp only [Act.put, List.setIfInBounds_toArray, List.set_cons_zero, List.set_cons_succ]
    refine wpAnyH_take (i := 9) (oi := _) (v := ?_) rfl (by kernel_rfl) (by kernel_rfl) (by kernel_rfl) (fun _ _ _ h => h) (Or.inl ⟨by rfl, ?_⟩) (by assumption) ?_
    case refine_2 => intro w hSw; (try dsimp only at hSw); go_simp; try with_reducible rfl
    try simp only [Act.put, List.setIfInBounds_toArray, List.set_cons_zero, List.set_cons_succ]
    refine wpAnyH_take (i := 10) (oi := _) (v := ?_) rfl (by kernel_rfl) (by kernel_rfl) (by kernel_rfl) (fun _ _ _ h => h) (Or.inl ⟨by rfl, ?_⟩) (by assumption) ?_
    case refine_2 => intro w hSw; (try dsimp only at hSw); go_simp; try with_reducible rfl
    try simp only [Act.put, List.setIfInBounds_toArray, List.set_cons_zero, List.set_cons_succ]
    refine wpAnyH_take (i := 11) (oi := _) (v := ?_) rfl (by kernel_rfl) (by kernel_rfl) (by kernel_rfl) (fun _ _ _ h => h) (Or.inl ⟨by rfl, ?_⟩) (by assumption) ?_
    case refine_2 => intro w hSw; (try dsimp only at hSw); go_simp; try with_reducible rfl
    try simp only [Act.put, List.setIfInBounds_toArray, List.set_cons_zero, List.set_cons_succ]
    refine wpAnyH_take (i := 12) (oi := _) (v := ?_) rfl (by kernel_rfl) (by kernel_rfl) (by kernel_rfl) (fun _ _ _ h => h) (Or.inl ⟨by rfl, ?_⟩) (by assumption) ?_
    case refine_2 => intro w hSw; (try dsimp only at hSw); go_simp; try with_reducible rfl
    try simp only [Act.put, List.setIfInBounds_toArray, List.set_cons_zero, List.set_cons_succ]
    refine wpAnyH_take (i := 13) (oi := _) (v := ?_) rfl (by kernel_rfl) (by kernel_rfl) (by kernel_rfl) (fun _ _ _ h => h) (Or.inl ⟨by rfl, ?_⟩) (by assumption) ?_
    case refine_2 => intro w hSw; (try dsimp only at hSw); go_simp; try with_reducible rfl
    try simp only [Act.put, List.setIfInBounds_toArray, List.set_cons_zero, List.set_cons_succ]
    refine wpAnyH_take (i := 14) (oi := _) (v := ?_) rfl (by kernel_rfl) (by kernel_rfl) (by kernel_rfl) (fun _ _ _ h => h) (Or.inl ⟨by rfl, ?_⟩) (by assumption) ?_
    case refine_2 => intro w hSw; (try dsimp only at hSw); go_simp; try with_reducible rfl
    try simp only [Act.put, List.setIfInBounds_toArray, List.set_cons_zero, List.set_cons_succ]
    refine wpAnyH_take (i := 15) (oi := _) (v := ?_) rfl (by kernel_rfl) (by kernel_rfl) (by kernel_rfl) (fun _ _ _ h => h) (Or.inl ⟨by rfl, ?_⟩) (by assumption) ?_
    case refine_2 => intro w hSw; (try dsimp only at hSw); go_simp; try with_reducible rfl
    try simp only [Act.put, List.setIfInBounds_toArray, List.set_cons_zero, List.set_cons_succ]
    refine wpAnyH_take (i := 16) (oi := _) (v := ?_) rfl (by kernel_rfl) (by kernel_rfl) (by kernel_rfl) (fun _ _ _ h => h) (Or.inl ⟨by rfl, ?_⟩) (by assumption) ?_
    case refine_2 => intro w hSw; (try dsimp only at hSw); go_simp; try with_reducible rfl
    try simp only [Act.put, List.setIfInBounds_toArray, List.set_cons_zero, List.set_cons_succ]
    refine wpAnyH_ready (rs := [17]) (by kernel_rfl) (by simp) ?_
    refine AllReadyH.cons (o := _) rfl (fun K hK => ?_) AllReadyH.nil
    go_simp
    refine hK.out _ _ (SX.out _ (.inr (.inl rfl))) (fun hHeld => ?_)
    clear hK K
    try simp only [Act.put, List.setIfInBounds_toArray, List.set_cons_zero, List.set_cons_succ]
    refine wpAnyH_ready (rs := [18]) (by kernel_rfl) (by simp) ?_
    refine AllReadyH.cons (o := _) rfl (fun K hK => ?_) AllReadyH.nil
    refine Am.step_app_eq rfl (.tmp 32) (.tmp 45) 41 rfl HK4.out rfl rfl ?_
    refine hK.out _ _ (SX.out _ (.inr (.inr rfl))) (fun hHeld => ?_)
    clear hK K
    try simp only [Act.put, List.setIfInBounds_toArray, List.set_cons_zero, List.set_cons_succ]
    refine wpAnyH_ready (rs := [19]) (by kernel_rfl) (by simp) ?_
    refine AllReadyH.cons (o := _) rfl (fun K hK => ?_) AllReadyH.nil
    go_simp
    refine hK.out _ _ (SX.out _ (.inr (.inr rfl))) (fun hHeld => ?_)
    clear hK K
    try simp only [Act.put, List.setIfInBounds_toArray, List.set_cons_zero, List.set_cons_succ]
    refine wpAnyH_ready (rs := [20]) (by kernel_rfl) (by simp) ?_
    refine AllReadyH.cons (o := _) rfl (fun K hK => ?_) AllReadyH.nil
    go_simp
    refine hK.out _ _ (SX.out _ (.inr (.inr rfl))) (fun hHeld => ?_)
    clear hK K
    try simp only [Act.put, List.setIfInBounds_toArray, List.set_cons_zero, List.set_cons_succ]
    refine wpAnyH_done (by kernel_rfl) ?_ _
    refine Ends.last rfl (fun K hK => ?_)
    go_simp
    refine hK.out _ _ ?_
    clear hK K
    go_wp2
    go_end0
    exact ⟨rfl, Am.Rd.of HF.out R2.out (Q3.out.trans R3.out)⟩
end Go.Proofs.YteoaaogfloljlaaDoor

/- Package asm: an instruction's words: what is wanted of a call's answers, in cases. -/
namespace Go.Proofs.YteoaaogfloljlaaDoor
open Go.RowKit Go.Lib
set_option linter.unusedVariables false

theorem Am.numP_cases {o : Option Nat} {ln : Int} {w w' : World} {r : Ending} (h : Am.numP o ln w r w') : (∃ n : Nat, o = some n ∧ r = .returned (.int .i64 n) ∧ w.grownBy w' none) ∨ (o = none ∧ r = .panicked (Am.chn ln 3) ∧ w.grownBy w' none) := by
  obtain ⟨h1, h2⟩ := h
  cases o with
  | none => exact .inr ⟨rfl, h1, h2⟩
  | some n => exact .inl ⟨n, rfl, h1, h2⟩
theorem Am.valP_cases {o : Option (Nat × List UInt8)} {ln : Int} {w w' : World} {r : Ending} (h : Am.valP o ln w r w') : (∃ (n : Nat) (nm : List UInt8), o = some (n, nm) ∧ r = .returned (.tuple #[.int .i64 n, .string ⟨nm.toArray⟩]) ∧ w.grownBy w' none) ∨ (o = none ∧ r = .panicked (Am.chn ln 3) ∧ w.grownBy w' none) := by
  obtain ⟨h1, h2⟩ := h
  cases o with
  | none => exact .inr ⟨rfl, h1, h2⟩
  | some n => exact .inl ⟨n.1, n.2, rfl, h1, h2⟩
theorem Am.stP_cases {w w' : World} {b ln : Nat} {F : Nat → Prop} {z : Int × Am.St} {r : Ending} (h : Am.stP w b ln F z r w') : (z.1 = 0 ∧ r = .returned (.tuple #[]) ∧ ∃ F', Am.Rd w' b ln z.2 F' ∧ Am.Nx w w' F F') ∨ (z.1 ≠ 0 ∧ r = .panicked (Am.chn ln z.1) ∧ Keeps F w w') := by
  unfold Am.stP at h
  by_cases hz : z.1 = 0
  · rw [if_pos hz] at h
    exact .inl ⟨hz, h.1, h.2⟩
  · rw [if_neg hz] at h
    exact .inr ⟨hz, h.1, h.2⟩
theorem Am.stP_yes {w w' : World} {b ln : Nat} {F : Nat → Prop} {z : Int × Am.St} (hz : z.1 = 0) (h : ∃ F', Am.Rd w' b ln z.2 F' ∧ Am.Nx w w' F F') : Am.stP w b ln F z (.returned (.tuple #[])) w' := by
  unfold Am.stP
  rw [if_pos hz]
  exact ⟨rfl, h⟩
theorem Am.stP_no {w w' : World} {b ln : Nat} {F : Nat → Prop} {z : Int × Am.St} (hz : z.1 ≠ 0) (h : Keeps F w w') : Am.stP w b ln F z (.panicked (Am.chn ln z.1)) w' := by
  unfold Am.stP
  rw [if_neg hz]
  exact ⟨rfl, h⟩
/-- Words in a row of texts. -/
def Am.Wd (w : World) (A : Option Addr) (l : List (List UInt8)) : Prop := l = [] ∨ ∃ g off, A = some ⟨g, off, none⟩ ∧ g < w.heap.size ∧ ∀ j (h : j < l.length), w.cell? ⟨g, off + j, none⟩ = some (.string ⟨(l[j]).toArray⟩)
/-- What an instruction's words make of what was read. -/
def Am.insV (ln k : Nat) (l : List (List UInt8)) (st : Am.St) : Int × Am.St := match Am.ins k l with | none => (3, st) | some v => Am.putV ln v.1 v.2 st
theorem Am.pt_of (k x n : Nat) : (ptI k x n).data.toList = Am.pt k x n := by
  unfold ptI Am.pt
  simp only [Int.toNat_natCast]
  rw [show ((n : Int) % 256).toNat = n % 256 from by omega, show ((n : Int) / 256 % 256).toNat = n / 256 % 256 from by omega]
theorem Am.operands0 {k : Nat} (hk : k < 256) (h : Am.ops k = []) (w : World) : Calls Tryd.prog 26 #[.int .u8 k] w fun r w' => r = .returned (.slice none 0 0) ∧ w.grownBy w' none :=
  (Am.operands_any k hk w).mono fun r w' hp => by
    obtain ⟨g, ⟨_, e⟩ | ⟨l, e, ne, _⟩⟩ := hp
    · exact ⟨e, g⟩
    · exact absurd (e.symm.trans h) ne
theorem Am.operands1 {k : Nat} {p : Int} (hk : k < 256) (h : Am.ops k = [p]) (w : World) : Calls Tryd.prog 26 #[.int .u8 k] w fun r w' => r = .returned (.slice (some ⟨w.heap.size, 0, none⟩) 1 1) ∧ w.grownBy w' none ∧ w.heap.size < w'.heap.size ∧ w'.cell? ⟨w.heap.size, 0, none⟩ = some (.int .i64 p) :=
  (Am.operands_any k hk w).mono fun r w' hp => by
    obtain ⟨g, ⟨e, _⟩ | ⟨l, e, ne, hr, hs, hc⟩⟩ := hp
    · rw [h] at e; cases e
    · rw [h] at e
      subst e
      exact ⟨hr, g, hs, hc 0 p rfl⟩
theorem Am.operands2 {k : Nat} {p q : Int} (hk : k < 256) (h : Am.ops k = [p, q]) (w : World) : Calls Tryd.prog 26 #[.int .u8 k] w fun r w' => r = .returned (.slice (some ⟨w.heap.size, 0, none⟩) 2 2) ∧ w.grownBy w' none ∧ w.heap.size < w'.heap.size ∧ w'.cell? ⟨w.heap.size, 0, none⟩ = some (.int .i64 p) ∧ w'.cell? ⟨w.heap.size, 1, none⟩ = some (.int .i64 q) :=
  (Am.operands_any k hk w).mono fun r w' hp => by
    obtain ⟨g, ⟨e, _⟩ | ⟨l, e, ne, hr, hs, hc⟩⟩ := hp
    · rw [h] at e; cases e
    · rw [h] at e
      subst e
      exact ⟨hr, g, hs, hc 0 p rfl, hc 1 q rfl⟩
end Go.Proofs.YteoaaogfloljlaaDoor

/- Package asm: an instruction of two words, by its contract. -/
namespace Go.Proofs.YteoaaogfloljlaaDoor
open Go.RowKit Go.Lib
set_option linter.unusedVariables false
set_option maxRecDepth 20000 in
set_option maxHeartbeats 1600000 in
theorem Am.ins_v (b ln k : Nat) (st : Am.St) (F : Nat → Prop) (A : Option Addr) (cap : Nat) (l : List (List UInt8)) (w : World) (h : Am.Rd w b ln st F) (hW : Am.Wd w A l) (hN : Nm w) (hsz : ∀ x ∈ l, x.length ≤ 100000) (hp : st.pr.length ≤ 100000) (hw : st.ws.length ≤ 100000)
    (hk : k < 16) (hops : Am.ops k = [0, 3]) (hmay : ∀ x n : Nat, x ≤ 7 → n ≤ 65535 → mayI k x n = true) (hins : ∀ a b2 x, Am.reg a = some x → Am.ins k [a, b2] = (Am.val b2).map fun v => (Am.pt k x v.1, v.2)) (hin0 : ∀ a b2, Am.reg a = none → Am.ins k [a, b2] = none) (hin1 : l.length ≠ 2 → Am.ins k l = none) :
    Calls Tryd.prog 46 #[.pointer (some ⟨b, 0, none⟩), .int .u8 k, .slice A l.length cap] w (Am.stP w b ln F (Am.insV ln k l st)) := by
  have HO := Lib.hid (Am.operands2 (by omega) hops w)
  have HRD := Lib.hid h
  have hc0 : w.cell? ⟨b, 0, none⟩ = some (.int .i64 ln) := by obtain ⟨pv, lv, wv, m, hR, hF⟩ := h; exact hR.blk.cell 0
  have hbl : b < w.heap.size := by obtain ⟨pv, lv, wv, m, hR, hF⟩ := h; exact hR.blk.lt
  have HC0 := Lib.hid (fun (W : World) (q : w.grownBy W none) => (show W.cell? ⟨b, 0, none⟩ = some (.int .i64 ln) from by rw [Am.kc q hbl 0]; exact hc0))
  have HNM := Lib.hid (fun (W : World) (q : w.grownBy W none) => hN.grown q (by simp))
  by_cases hl : l.length = 2
  case neg =>
    have hv : Am.insV ln k l st = (3, st) := by unfold Am.insV; rw [hin1 hl]
    rw [hv, Am.stP_bad (by decide)]
    have HCN := Lib.hid (fun (W : World) (q : w.grownBy W none) => (show Calls Tryd.prog 41 #[.pointer (some ⟨b, 0, none⟩), .slice A l.length cap, .int .i64 2] W (fun r w' => r = .panicked (Am.chn ln 3) ∧ W = w') from Am.count_no b ln A l.length cap 2 hl W (HC0.out W q)))
    clear hv hl hin1 hin0 hins hmay hops hk hw hp hsz hN hW h hc0 hbl
    go_enter Tryd.func46, Tryd.ntmps46
    go_wp2_with (first
      | (go_at_call 26; (with_reducible refine HO.out.mono ?_); rintro r w2 ⟨rfl, g2, s2, o0, o1⟩; have G2 := Lib.hid g2; clear g2)
      | (go_at_call 41; (with_reducible refine (HCN.out _ G2.out).mono ?_); rintro r w3 ⟨rfl, rfl⟩))
    exact ⟨rfl, rfl, Keeps.of_only G2.out (fun k hk => by cases hk)⟩
  obtain ⟨a, b2, rfl⟩ : ∃ a b2, l = [a, b2] := by
    match l, hl with
    | [a, b2], _ => exact ⟨a, b2, rfl⟩
  obtain ⟨g, off, rfl, hg, hcs⟩ : ∃ g off, A = some ⟨g, off, none⟩ ∧ g < w.heap.size ∧ ∀ j (h : j < [a, b2].length), w.cell? ⟨g, off + j, none⟩ = some (.string ⟨([a, b2][j]).toArray⟩) := by
    rcases hW with e | e
    · cases e
    · exact e
  have hx0 : w.cell? ⟨g, off, none⟩ = some (.string ⟨a.toArray⟩) := hcs 0 (by simp)
  have hx1 : w.cell? ⟨g, off + 1, none⟩ = some (.string ⟨b2.toArray⟩) := hcs 1 (by simp)
  have HX := Lib.hid (fun (W : World) (q : w.grownBy W none) => (show W.cell? ⟨g, off, none⟩ = some (.string ⟨a.toArray⟩) ∧ W.cell? ⟨g, off + 1, none⟩ = some (.string ⟨b2.toArray⟩) from ⟨by rw [Am.kc q hg]; exact hx0, by rw [Am.kc q hg]; exact hx1⟩))
  have HCN := Lib.hid (fun (W : World) => (show Calls Tryd.prog 41 #[.pointer (some ⟨b, 0, none⟩), .slice (some ⟨g, off, none⟩) 2 cap, .int .i64 2] W (fun r w' => r = .returned (.tuple #[]) ∧ W = w') from Am.count_yes b (some ⟨g, off, none⟩) 2 cap W))
  have hsa : (⟨a.toArray⟩ : ByteArray).size ≤ 100000 := by have := hsz a (by simp); show a.toArray.size ≤ 100000; simpa using this
  have hsb : (⟨b2.toArray⟩ : ByteArray).size ≤ 100000 := by have := hsz b2 (by simp); show b2.toArray.size ≤ 100000; simpa using this
  have HR := Lib.hid (fun (W : World) (q : w.grownBy W none) => (show Calls Tryd.prog 55 #[.pointer (some ⟨b, 0, none⟩), .string ⟨a.toArray⟩] W (Am.numP (Am.reg a) ln W) from by have := Am.register_any b ln ⟨a.toArray⟩ hsa W (HC0.out W q); simpa using this))
  have HS := Lib.hid (fun (W : World) (q : w.grownBy W none) => (show Calls Tryd.prog 44 #[.pointer (some ⟨b, 0, none⟩), .string ⟨b2.toArray⟩] W (Am.valP (Am.val b2) ln W) from by have := Am.value_any b ln ⟨b2.toArray⟩ hsb W (HC0.out W q); simpa using this))
  have HPU := Lib.hid (fun (x n : Nat) (nm : List UInt8) (W : World) (q : w.grownBy W none) => (show Calls Tryd.prog 42 #[.pointer (some ⟨b, 0, none⟩), .string (ptI k x n), .string ⟨nm.toArray⟩] W (Am.stP W b ln F (Am.putV ln (Am.pt k x n) nm st)) from by
    have := Am.put_any b ln st F (ptI k x n) ⟨nm.toArray⟩ W (HRD.out.grown q) (by show 0 < 4; omega) (by show 4 ≤ 4; omega) (fun _ => by show 2 ≤ 4; omega) hp hw
    rw [Am.pt_of] at this
    simpa using this))
  have HCP := Lib.hid (fun (x n : Nat) (hx : x ≤ 7) (hn : n ≤ 65535) (W : World) (q : w.grownBy W none) => (show Calls Tryd.prog 56 #[.agg #[.int .u8 k, .int .i64 x, .int .i64 n]] W (fun e w' => e = .returned (.tuple #[.string (ptI k x n), .int .i64 0]) ∧ W.grownBy w' none) from put_yes k x n (by omega) W (HNM.out W q) (hmay x n hx hn)))
  have HINS := Lib.hid hins
  have HIN0 := Lib.hid hin0
  clear hin1 hin0 hins hmay hops hk hw hp hsz hN hW h hc0 hbl hsa hsb hx0 hx1 hcs hl
  show Calls Tryd.prog 46 #[.pointer (some ⟨b, 0, none⟩), .int .u8 k, .slice (some ⟨g, off, none⟩) 2 cap] w _
  go_enter Tryd.func46, Tryd.ntmps46
  go_upto_region 2 with (first
    | (go_at_call 26; (with_reducible refine HO.out.mono ?_); rintro r w2 ⟨rfl, g2, s2, o0, o1⟩; have G2 := Lib.hid g2; have S2 := Lib.hid s2; have O2 := Lib.hid (And.intro o0 o1); clear g2 s2 o0 o1)
    | (go_at_call 41; (with_reducible refine (HCN.out _).mono ?_); rintro r w3 ⟨rfl, rfl⟩))
  go_upto_region 3 with (fail)
  obtain ⟨w3, hw3⟩ : ∃ W, W = w2.alloc (.cells #[.int .u8 k, .int .i64 0, .int .i64 0] 26) := ⟨_, rfl⟩
  have B3 := Lib.hid (show Blk w3 w2.heap.size 26 #[.int .u8 k, .int .i64 0, .int .i64 0] from by rw [hw3]; exact Blk.new _ _ _)
  have hg3 : w2.grownBy w3 none := by rw [hw3]; exact only_alloc (only_refl _ _) _
  have G3 := Lib.hid (only_trans G2.out hg3)
  have HLO := Lib.hid (show w.heap.size ≤ w2.heap.size from G2.out.size)
  have HNE := Lib.hid (show w.heap.size ≠ w2.heap.size from by have := S2.out; omega)
  have O3 := Lib.hid (show w3.cell? ⟨w.heap.size, 0, none⟩ = some (.int .i64 0) ∧ w3.cell? ⟨w.heap.size, 1, none⟩ = some (.int .i64 3) from ⟨by rw [Am.kc hg3 S2.out]; exact O2.out.1, by rw [Am.kc hg3 S2.out]; exact O2.out.2⟩)
  have S3 := Lib.hid (show w.heap.size < w3.heap.size from Nat.lt_of_lt_of_le S2.out hg3.size)
  rw [← hw3]
  clear hw3 hg3
  generalize w2.heap.size = gi at *
  generalize hgo : w.heap.size = go at *
  have HGO := Lib.hid hgo
  obtain ⟨p0, p1⟩ := O3.out
  obtain ⟨x0, x1⟩ := HX.out _ G3.out
  obtain ⟨f0, f1, f2, f3, f4, f5⟩ := in3f B3.out
  clear hgo
  go_upto_region 4 with (fail)
  refine wp_loop_rounds 3 ?_
  rw [rounds_succ]
  go_wp2_with (first
    | (go_at_call 55; (with_reducible refine (HR.out _ G3.out).mono ?_); rintro r w4 hp; rcases Am.numP_cases hp with ⟨x, hx, rfl, g4⟩ | ⟨hx, rfl, g4⟩ <;> (have HXX := Lib.hid hx; have G34 := Lib.hid g4; have G4 := Lib.hid (only_trans G3.out g4); have B4 := Lib.hid (B3.out.only g4 (by simp)); obtain ⟨q0, q1, q2, q3, q4, q5⟩ := in3f B4.out; clear hp hx g4)))
  rotate_left
  · have hv : Am.insV ln k [a, b2] st = (3, st) := by unfold Am.insV; rw [HIN0.out a b2 HXX.out]
    rw [hv]
    exact ⟨rfl, Am.stP_no (show ((3 : Int), st).1 ≠ 0 from by show (3 : Int) ≠ 0; decide) (Keeps.of_only G4.out (fun k hk => by cases hk))⟩
  obtain ⟨w5, hw5⟩ : ∃ W, W = w4.setCell ⟨gi, 1, none⟩ (.int .i64 x) := ⟨_, rfl⟩
  have B5 := Lib.hid (show Blk w5 gi 26 #[.int .u8 k, .int .i64 x, .int .i64 0] from by rw [hw5]; exact B4.out.put 1 _)
  have G5 := Lib.hid (show w.grownBy w5 none from by rw [hw5]; exact only_putc G4.out (p := ⟨gi, 1, none⟩) (by rw [HGO.out]; exact HLO.out) _)
  have O5 := Lib.hid (show w5.cell? ⟨go, 0, none⟩ = some (.int .i64 0) ∧ w5.cell? ⟨go, 1, none⟩ = some (.int .i64 3) from by
    have hf : ∀ i, w5.cell? ⟨go, i, none⟩ = w4.cell? ⟨go, i, none⟩ := fun i => by rw [hw5]; exact World.cell?_setCell_other _ _ _ _ (by intro e; injection e with e; exact HNE.out e.symm)
    exact ⟨by rw [hf, Am.kc G34.out S3.out]; exact O3.out.1, by rw [hf, Am.kc G34.out S3.out]; exact O3.out.2⟩)
  rw [← hw5]
  clear hw5 p0 p1 x0 x1 f0 f1 f2 f3 f4 f5 q0 q1 q2 q3 q4 q5
  obtain ⟨p0, p1⟩ := O5.out
  obtain ⟨x0, x1⟩ := HX.out _ G5.out
  obtain ⟨f0, f1, f2, f3, f4, f5⟩ := in3f B5.out
  rw [rounds_succ]
  go_wp2_with (first
    | (go_at_call 44; (with_reducible refine (HS.out _ G5.out).mono ?_); rintro r w6 hp; rcases Am.valP_cases hp with ⟨n, nm, hx, rfl, g6⟩ | ⟨hx, rfl, g6⟩ <;> (have HYY := Lib.hid hx; have G6 := Lib.hid (only_trans G5.out g6); have B6 := Lib.hid (B5.out.only g6 (by simp)); obtain ⟨q0, q1, q2, q3, q4, q5⟩ := in3f B6.out; clear hp hx g6)))
  rotate_left
  · have hv : Am.insV ln k [a, b2] st = (3, st) := by unfold Am.insV; rw [HINS.out a b2 x HXX.out, HYY.out]; rfl
    rw [hv]
    exact ⟨rfl, Am.stP_no (show ((3 : Int), st).1 ≠ 0 from by show (3 : Int) ≠ 0; decide) (Keeps.of_only G6.out (fun k hk => by cases hk))⟩
  obtain ⟨w7, hw7⟩ : ∃ W, W = w6.setCell ⟨gi, 2, none⟩ (.int .i64 n) := ⟨_, rfl⟩
  have B7 := Lib.hid (show Blk w7 gi 26 #[.int .u8 k, .int .i64 x, .int .i64 n] from by rw [hw7]; exact B6.out.put 2 _)
  have G7 := Lib.hid (show w.grownBy w7 none from by rw [hw7]; exact only_putc G6.out (p := ⟨gi, 2, none⟩) (by rw [HGO.out]; exact HLO.out) _)
  rw [← hw7]
  clear hw7 p0 p1 x0 x1 f0 f1 f2 f3 f4 f5 q0 q1 q2 q3 q4 q5
  obtain ⟨f0, f1, f2, f3, f4, f5⟩ := in3f B7.out
  have hv : Am.insV ln k [a, b2] st = Am.putV ln (Am.pt k x n) nm st := by unfold Am.insV; rw [HINS.out a b2 x HXX.out, HYY.out]; rfl
  have HV := Lib.hid hv
  have HCPz := Lib.hid (HCP.out x n (Am.reg_le HXX.out) (Am.val_le HYY.out).1)
  have HPUz := Lib.hid (HPU.out x n nm)
  clear hv
  rw [rounds_succ]
  go_wp2_with (first
    | (go_at_call 56; (with_reducible refine (HCPz.out _ G7.out).mono ?_); rintro r w8 ⟨rfl, g8⟩; have G8 := Lib.hid (only_trans G7.out g8); clear g8)
    | (go_at_call 42; (with_reducible refine (HPUz.out _ G8.out).mono ?_); rintro r w9 hp; rcases Am.stP_cases hp with ⟨z0, rfl, F', r1, r2⟩ | ⟨z0, rfl, r1⟩ <;> clear hp))
  · go_end0
    rw [HV.out]
    exact Am.stP_yes z0 ⟨F', r1, (Am.Nx.of_grown G8.out F).trans r2⟩
  · rw [HV.out]
    exact ⟨rfl, Am.stP_no z0 ((Keeps.of_only G8.out (fun k hk => by cases hk)).trans r1)⟩
end Go.Proofs.YteoaaogfloljlaaDoor
