/- Package asm: a reader as it stands in memory; what becomes of it where something is put behind what it has read. -/
import Derived.Test.YtgjpjmolfdiahaaDoorAX7
import Derived.Test.YtgjpjmolfdiahaaDoorIW0
import Derived.Test.YtgjpjmolfdiahaaDoorHE2
namespace Go.Proofs.YtgjpjmolfdiahaaDoor
open Go.RowKit Go.Lib
set_option linter.unusedVariables false
set_option maxRecDepth 8000

theorem Am.step_app_eq {P : Program} {ops : Array Oper} {o : Oper} {a : Act} {W : World} {K : Act → World → Prop} {Q : Exit → Act → World → Prop} {E : Prop} (hgd : o.guard = none) (s x : Operand) (t : TypeId) (ho : o.op = .call { callee := .builtin .append, args := #[s, x], argTypes := #[t, t] })
    {v xs v' : Value} {w' : World} (hr : (Builtin.append_ #[t, t] o.type #[v, xs]).run P W = .ok v' w') (hs : a.eval s = v) (hx : a.eval x = xs) (h : K (a.put o.dst v') w') : if Region.wanted o (yielded ops a.tmps) = true then Oper.wp P o a W K Q else E := by
  have hw : Region.wanted o (yielded ops a.tmps) = true := by simp [Region.wanted, hgd]
  rw [if_pos hw]
  unfold Oper.wp execOp
  simp only [ho, resolve, invoke, builtin, Sem.run_bind, Sem.run_pure, Result.andThen_ok, List.map_toArray, List.map_cons, List.map_nil, hs, hx, hr]
  exact h
def Am.lb1 (x : List UInt8 × Nat) : List Value := [.string ⟨x.1.toArray⟩, .int .i64 x.2]
def Am.ws1 (x : Nat × List UInt8 × Nat) : List Value := [.int .i64 x.1, .string ⟨x.2.1.toArray⟩, .int .i64 x.2.2]
def Am.lbL (L : List (List UInt8 × Nat)) : List Value := L.flatMap Am.lb1
def Am.wsL (L : List (Nat × List UInt8 × Nat)) : List Value := L.flatMap Am.ws1
theorem Am.lbL_one (L : List (List UInt8 × Nat)) : ∀ u ∈ Am.lbL L, u.oneCell' = true := by
  intro u hu
  simp only [Am.lbL, List.mem_flatMap, Am.lb1, List.mem_cons, List.not_mem_nil, or_false] at hu
  obtain ⟨x, _, rfl | rfl⟩ := hu <;> rfl
theorem Am.wsL_one (L : List (Nat × List UInt8 × Nat)) : ∀ u ∈ Am.wsL L, u.oneCell' = true := by
  intro u hu
  simp only [Am.wsL, List.mem_flatMap, Am.ws1, List.mem_cons, List.not_mem_nil, or_false] at hu
  obtain ⟨x, _, rfl | rfl | rfl⟩ := hu <;> rfl
theorem Am.bytes_one (l : List UInt8) : ∀ u ∈ byteCells l, u.oneCell' = true := by
  intro u hu
  simp only [byteCells, List.mem_map] at hu
  obtain ⟨a, _, rfl⟩ := hu
  rfl
/-- The blocks of a reader. -/
def Am.ft (b m : Nat) (pv lv wv : Value) (i : Nat) : Prop := i = b ∨ i = m ∨ pv.ownBlock = some i ∨ lv.ownBlock = some i ∨ wv.ownBlock = some i
structure Am.Rq (w : World) (b : Nat) (ln : Nat) (st : Am.St) (ml : List (List UInt8 × Nat)) (pv lv wv : Value) (m : Nat) : Prop where
  blk : Blk w b 54 #[.int .i64 ln, pv, lv, .map (some m), wv]
  pr : RowZ 1 w pv st.pr.length (byteCells st.pr)
  lb : RowZ 2 w lv st.lb.length (Am.lbL st.lb)
  ws : RowZ 3 w wv st.ws.length (Am.wsL st.ws)
  mp : Am.MapL w m ml
  n1 : m ≠ b
  n2 : ∀ i, pv.ownBlock = some i → i ≠ b ∧ i ≠ m ∧ lv.ownBlock ≠ some i ∧ wv.ownBlock ≠ some i
  n3 : ∀ i, lv.ownBlock = some i → i ≠ b ∧ i ≠ m ∧ wv.ownBlock ≠ some i
  n4 : ∀ i, wv.ownBlock = some i → i ≠ b ∧ i ≠ m
abbrev Am.Rr (w : World) (b : Nat) (ln : Nat) (st : Am.St) (pv lv wv : Value) (m : Nat) : Prop := Am.Rq w b ln st st.lb pv lv wv m
/-- A reader in block b, which is at line ln and has read st; its blocks are among F. -/
def Am.Rd (w : World) (b ln : Nat) (st : Am.St) (F : Nat → Prop) : Prop := ∃ pv lv wv m, Am.Rr w b ln st pv lv wv m ∧ ∀ i, Am.ft b m pv lv wv i → F i
/-- What a call on a reader changes. -/
def Am.Nx (w w' : World) (F F' : Nat → Prop) : Prop := Keeps F w w' ∧ ∀ i, F' i → F i ∨ w.heap.size ≤ i
theorem Am.Nx.refl (w : World) (F : Nat → Prop) : Am.Nx w w F F := ⟨Keeps.refl _ _, fun i h => .inl h⟩
theorem Am.Nx.trans {w1 w2 w3 : World} {F F1 F2 : Nat → Prop} (h : Am.Nx w1 w2 F F1) (k : Am.Nx w2 w3 F1 F2) : Am.Nx w1 w3 F F2 := by
  have hs := h.1.size
  refine ⟨⟨k.1.1.trans h.1.1, k.1.2.1.trans h.1.2.1, k.1.2.2.1.trans h.1.2.2.1, Nat.le_trans hs k.1.size, fun i hi hn => ?_⟩, fun i hi => ?_⟩
  · rw [k.1.2.2.2.2 i (by omega) (fun e => ?_), h.1.2.2.2.2 i hi hn]
    rcases h.2 i e with e | e
    · exact hn e
    · omega
  · rcases k.2 i hi with e | e
    · exact h.2 i e
    · exact .inr (by omega)
theorem Am.Nx.of_grown {w w' : World} (h : w.grownBy w' none) (F : Nat → Prop) : Am.Nx w w' F F := ⟨Keeps.of_only h (fun k hk => by cases hk), fun i hi => .inl hi⟩
theorem Am.dis {a b : Option Nat} (h : ∀ i, a = some i → b ≠ some i) : a = none ∨ a ≠ b := by
  cases a with
  | none => exact .inl rfl
  | some i => exact .inr (fun e => h i rfl e.symm)
section
variable {w w1 w2 : World} {b ln : Nat} {st : Am.St} {pv lv wv v' : Value} {m n : Nat} {ys : List Value}
theorem Am.Rq.grown {ml : List (List UInt8 × Nat)} (h : Am.Rq w b ln st ml pv lv wv m) (g : w.grownBy w1 none) : Am.Rq w1 b ln st ml pv lv wv m :=
  ⟨h.blk.only g (by simp), h.pr.grown g, h.lb.grown g, h.ws.grown g, h.mp.only g (by simp), h.n1, h.n2, h.n3, h.n4⟩
theorem Am.Rd.grown {F : Nat → Prop} (h : Am.Rd w b ln st F) (g : w.grownBy w1 none) : Am.Rd w1 b ln st F := by
  obtain ⟨pv, lv, wv, m, h, k⟩ := h
  exact ⟨pv, lv, wv, m, h.grown g, k⟩
theorem Am.Rq.lt {ml : List (List UInt8 × Nat)} (h : Am.Rq w b ln st ml pv lv wv m) : ∀ i, Am.ft b m pv lv wv i → i < w.heap.size := by
  intro i hi
  rcases hi with rfl | rfl | hi | hi | hi
  · exact h.blk.lt
  · exact h.mp.lt
  · exact h.pr.lt i hi
  · exact h.lb.lt i hi
  · exact h.ws.lt i hi
/-- A line's number. -/
theorem Am.Rr.line (h : Am.Rr w b ln st pv lv wv m) (k : Nat) : Am.Rr (w.setCell ⟨b, 0, none⟩ (.int .i64 k)) b k st pv lv wv m ∧ Am.Nx w (w.setCell ⟨b, 0, none⟩ (.int .i64 k)) (Am.ft b m pv lv wv) (Am.ft b m pv lv wv) := by
  have q1 := fun e => (h.n2 b e).1 rfl
  have q2 := fun e => (h.n3 b e).1 rfl
  have q3 := fun e => (h.n4 b e).1 rfl
  refine ⟨⟨h.blk.put 0 _, h.pr.put q1 _, h.lb.put q2 _, h.ws.put q3 _, h.mp.only (only_put (only_refl w (some b)) 0 _) (fun e => by injection e with e; exact h.n1 e), h.n1, h.n2, h.n3, h.n4⟩, ?_, fun i hi => .inl hi⟩
  exact Keeps.put (p := ⟨b, 0, none⟩) (Keeps.refl _ _) (.inl (.inl rfl)) _
/-- What a call of append onto the program leaves. -/
theorem Am.Rr.setP (h : Am.Rr w b ln st pv lv wv m) (g1 : w.grownBy w1 none) (hg : w1.grownBy w2 pv.ownBlock) (ho : v'.ownBlock = pv.ownBlock ∨ v'.ownBlock = some w1.heap.size)
    (l : List UInt8) (hr : RowZ 1 w2 v' l.length (byteCells l)) :
    Blk w2 b 54 #[.int .i64 ln, pv, lv, .map (some m), wv] ∧ Am.Rr (w2.setCell ⟨b, 1, none⟩ v') b ln ⟨l, st.lb, st.ws⟩ v' lv wv m ∧ Am.Nx w (w2.setCell ⟨b, 1, none⟩ v') (Am.ft b m pv lv wv) (Am.ft b m v' lv wv) := by
  have k := h.grown g1
  have hs := g1.size
  have hb := k.blk.only hg (fun e => (h.n2 b e.symm).1 rfl)
  have n2' : ∀ i, v'.ownBlock = some i → i ≠ b ∧ i ≠ m ∧ lv.ownBlock ≠ some i ∧ wv.ownBlock ≠ some i := fun i hi => by
    rcases ho with e | e
    · exact h.n2 i (e ▸ hi)
    · rw [e] at hi
      injection hi with hi
      subst hi
      have := k.blk.lt
      have := k.mp.lt
      exact ⟨by omega, by omega, fun q => by have := k.lb.lt _ q; omega, fun q => by have := k.ws.lt _ q; omega⟩
  refine ⟨hb, ⟨hb.put 1 v', hr.put (fun e => (n2' b e).1 rfl) _, (k.lb.only hg (Am.dis fun i hi q => (h.n2 i q).2.2.1 hi)).put (fun e => (h.n3 b e).1 rfl) _, (k.ws.only hg (Am.dis fun i hi q => (h.n2 i q).2.2.2 hi)).put (fun e => (h.n4 b e).1 rfl) _, (k.mp.only hg (fun e => (h.n2 m e.symm).2.1 rfl)).only (only_put (only_refl w2 (some b)) 1 _) (fun e => by injection e with e; exact h.n1 e), h.n1, n2', h.n3, h.n4⟩, ?_, fun i hi => ?_⟩
  · have k1 : Keeps (Am.ft b m pv lv wv) w w1 := Keeps.of_only g1 (fun k hk => by cases hk)
    have k2 : Keeps (Am.ft b m pv lv wv) w1 w2 := Keeps.of_only hg (fun k hk => .inr (.inr (.inl hk)))
    exact Keeps.put (p := ⟨b, 1, none⟩) (k1.trans k2) (.inl (.inl rfl)) _
  · rcases hi with e | e | e | e | e
    · exact .inl (.inl e)
    · exact .inl (.inr (.inl e))
    · rcases ho with q | q
      · exact .inl (.inr (.inr (.inl (q ▸ e))))
      · rw [q] at e; injection e with e; exact .inr (by omega)
    · exact .inl (.inr (.inr (.inr (.inl e))))
    · exact .inl (.inr (.inr (.inr (.inr e))))
theorem Am.Rr.setW (h : Am.Rr w b ln st pv lv wv m) (g1 : w.grownBy w1 none) (hg : w1.grownBy w2 wv.ownBlock) (ho : v'.ownBlock = wv.ownBlock ∨ v'.ownBlock = some w1.heap.size)
    (l : List (Nat × List UInt8 × Nat)) (hr : RowZ 3 w2 v' l.length (Am.wsL l)) :
    Blk w2 b 54 #[.int .i64 ln, pv, lv, .map (some m), wv] ∧ Am.Rr (w2.setCell ⟨b, 4, none⟩ v') b ln ⟨st.pr, st.lb, l⟩ pv lv v' m ∧ Am.Nx w (w2.setCell ⟨b, 4, none⟩ v') (Am.ft b m pv lv wv) (Am.ft b m pv lv v') := by
  have k := h.grown g1
  have hs := g1.size
  have hb := k.blk.only hg (fun e => (h.n4 b e.symm).1 rfl)
  have nw : ∀ i, v'.ownBlock = some i → wv.ownBlock = some i ∨ i = w1.heap.size := fun i hi => by
    rcases ho with e | e
    · exact .inl (e ▸ hi)
    · rw [e] at hi; injection hi with hi; exact .inr hi.symm
  have n4' : ∀ i, v'.ownBlock = some i → i ≠ b ∧ i ≠ m := fun i hi => by
    have := k.blk.lt
    have := k.mp.lt
    rcases nw i hi with e | e
    · exact h.n4 i e
    · exact ⟨by omega, by omega⟩
  have n2' : ∀ i, pv.ownBlock = some i → i ≠ b ∧ i ≠ m ∧ lv.ownBlock ≠ some i ∧ v'.ownBlock ≠ some i := fun i hi => by
    obtain ⟨a1, a2, a3, a4⟩ := h.n2 i hi
    exact ⟨a1, a2, a3, fun q => by rcases nw i q with e | e; exact a4 e; have := k.pr.lt i hi; omega⟩
  have n3' : ∀ i, lv.ownBlock = some i → i ≠ b ∧ i ≠ m ∧ v'.ownBlock ≠ some i := fun i hi => by
    obtain ⟨a1, a2, a3⟩ := h.n3 i hi
    exact ⟨a1, a2, fun q => by rcases nw i q with e | e; exact a3 e; have := k.lb.lt i hi; omega⟩
  refine ⟨hb, ⟨hb.put 4 v', (k.pr.only hg (Am.dis fun i hi q => (h.n2 i hi).2.2.2 q)).put (fun e => (h.n2 b e).1 rfl) _, (k.lb.only hg (Am.dis fun i hi q => (h.n3 i hi).2.2 q)).put (fun e => (h.n3 b e).1 rfl) _, hr.put (fun e => (n4' b e).1 rfl) _, (k.mp.only hg (fun e => (h.n4 m e.symm).2 rfl)).only (only_put (only_refl w2 (some b)) 4 _) (fun e => by injection e with e; exact h.n1 e), h.n1, n2', n3', n4'⟩, ?_, fun i hi => ?_⟩
  · have k1 : Keeps (Am.ft b m pv lv wv) w w1 := Keeps.of_only g1 (fun k hk => by cases hk)
    have k2 : Keeps (Am.ft b m pv lv wv) w1 w2 := Keeps.of_only hg (fun k hk => .inr (.inr (.inr (.inr hk))))
    exact Keeps.put (p := ⟨b, 4, none⟩) (k1.trans k2) (.inl (.inl rfl)) _
  · rcases hi with e | e | e | e | e
    · exact .inl (.inl e)
    · exact .inl (.inr (.inl e))
    · exact .inl (.inr (.inr (.inl e)))
    · exact .inl (.inr (.inr (.inr (.inl e))))
    · rcases nw i e with q | q
      · exact .inl (.inr (.inr (.inr (.inr q))))
      · exact .inr (by omega)
theorem Am.Rq.setL {ml : List (List UInt8 × Nat)} (h : Am.Rq w b ln st ml pv lv wv m) (g1 : w.grownBy w1 none) (hg : w1.grownBy w2 lv.ownBlock) (ho : v'.ownBlock = lv.ownBlock ∨ v'.ownBlock = some w1.heap.size)
    (l : List (List UInt8 × Nat)) (hr : RowZ 2 w2 v' l.length (Am.lbL l)) :
    Blk w2 b 54 #[.int .i64 ln, pv, lv, .map (some m), wv] ∧ Am.Rq (w2.setCell ⟨b, 2, none⟩ v') b ln ⟨st.pr, l, st.ws⟩ ml pv v' wv m ∧ Am.Nx w (w2.setCell ⟨b, 2, none⟩ v') (Am.ft b m pv lv wv) (Am.ft b m pv v' wv) := by
  have k := h.grown g1
  have hs := g1.size
  have hb := k.blk.only hg (fun e => (h.n3 b e.symm).1 rfl)
  have nw : ∀ i, v'.ownBlock = some i → lv.ownBlock = some i ∨ i = w1.heap.size := fun i hi => by
    rcases ho with e | e
    · exact .inl (e ▸ hi)
    · rw [e] at hi; injection hi with hi; exact .inr hi.symm
  have n3' : ∀ i, v'.ownBlock = some i → i ≠ b ∧ i ≠ m ∧ wv.ownBlock ≠ some i := fun i hi => by
    have := k.blk.lt
    have := k.mp.lt
    rcases nw i hi with e | e
    · exact h.n3 i e
    · exact ⟨by omega, by omega, fun q => by have := k.ws.lt i q; omega⟩
  have n2' : ∀ i, pv.ownBlock = some i → i ≠ b ∧ i ≠ m ∧ v'.ownBlock ≠ some i ∧ wv.ownBlock ≠ some i := fun i hi => by
    obtain ⟨a1, a2, a3, a4⟩ := h.n2 i hi
    exact ⟨a1, a2, fun q => by rcases nw i q with e | e; exact a3 e; have := k.pr.lt i hi; omega, a4⟩
  refine ⟨hb, ⟨hb.put 2 v', (k.pr.only hg (Am.dis fun i hi q => (h.n2 i hi).2.2.1 q)).put (fun e => (h.n2 b e).1 rfl) _, hr.put (fun e => (n3' b e).1 rfl) _, (k.ws.only hg (Am.dis fun i hi q => (h.n3 i q).2.2 hi)).put (fun e => (h.n4 b e).1 rfl) _, (k.mp.only hg (fun e => (h.n3 m e.symm).2.1 rfl)).only (only_put (only_refl w2 (some b)) 2 _) (fun e => by injection e with e; exact h.n1 e), h.n1, n2', n3', h.n4⟩, ?_, fun i hi => ?_⟩
  · have k1 : Keeps (Am.ft b m pv lv wv) w w1 := Keeps.of_only g1 (fun k hk => by cases hk)
    have k2 : Keeps (Am.ft b m pv lv wv) w1 w2 := Keeps.of_only hg (fun k hk => .inr (.inr (.inr (.inl hk))))
    exact Keeps.put (p := ⟨b, 2, none⟩) (k1.trans k2) (.inl (.inl rfl)) _
  · rcases hi with e | e | e | e | e
    · exact .inl (.inl e)
    · exact .inl (.inr (.inl e))
    · exact .inl (.inr (.inr (.inl e)))
    · rcases nw i e with q | q
      · exact .inl (.inr (.inr (.inr (.inl q))))
      · exact .inr (by omega)
    · exact .inl (.inr (.inr (.inr (.inr e))))
/-- What a name's place put into the map leaves. -/
theorem Am.Rr.setM {ml : List (List UInt8 × Nat)} (h : Am.Rr w b ln st pv lv wv m) (hg : w.grownBy w1 (some m)) (hm : Am.MapL w1 m ml) : Am.Rq w1 b ln st ml pv lv wv m ∧ Am.Nx w w1 (Am.ft b m pv lv wv) (Am.ft b m pv lv wv) :=
  ⟨⟨h.blk.only hg (fun e => by injection e with e; exact h.n1 e.symm), h.pr.only hg (Am.dis fun i hi q => by injection q with q; exact (h.n2 i hi).2.1 q.symm), h.lb.only hg (Am.dis fun i hi q => by injection q with q; exact (h.n3 i hi).2.1 q.symm), h.ws.only hg (Am.dis fun i hi q => by injection q with q; exact (h.n4 i hi).2 q.symm), hm, h.n1, h.n2, h.n3, h.n4⟩,
    Keeps.of_only hg (fun k hk => by injection hk with hk; exact .inr (.inl hk.symm)), fun i hi => .inl hi⟩
end
end Go.Proofs.YtgjpjmolfdiahaaDoor
