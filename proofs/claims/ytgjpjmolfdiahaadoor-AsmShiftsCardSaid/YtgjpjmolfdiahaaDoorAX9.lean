/- Package asm: bytes put behind the program, by their contract. -/
import Derived.Test.YtgjpjmolfdiahaaDoorAX8
namespace Go.Proofs.YtgjpjmolfdiahaaDoor
open Go.RowKit Go.Lib
set_option linter.unusedVariables false
set_option maxRecDepth 8000

theorem Am.u8_info : (Tryd.prog.info? 5).map (fun i => (i.zero, i.size, i.bytes)) = some (some (.int .u8 0), 1, 1) := by kernel_rfl
theorem Am.wish_info : (Tryd.prog.info? 90).map (fun i => (i.zero, i.size, i.bytes)) = some (some (.agg #[.int .i64 0, .string ⟨#[]⟩, .int .i64 0]), 3, 32) := by kernel_rfl
theorem Am.label_info : (Tryd.prog.info? 37).map (fun i => (i.zero, i.size, i.bytes)) = some (some (.agg #[.string ⟨#[]⟩, .int .i64 0]), 2, 24) := by kernel_rfl
theorem Am.parts {P : Program} {e : TypeId} {z : Value} {s b : Nat} (h : (P.info? e).map (fun i => (i.zero, i.size, i.bytes)) = some (some z, s, b)) : ∃ i, P.info? e = some i ∧ i.zero = some z ∧ i.size = s ∧ i.bytes = b := by
  cases hi : P.info? e with
  | none => rw [hi] at h; cases h
  | some i =>
    rw [hi] at h
    simp only [Option.map_some, Option.some.injEq, Prod.mk.injEq] at h
    exact ⟨i, rfl, h.1, h.2.1, h.2.2⟩
section
variable {w : World} {b ln : Nat} {st : Am.St} {pv lv wv : Value} {m : Nat}
theorem Am.Rr.pushP (h : Am.Rr w b ln st pv lv wv m) (s : ByteArray) (h0 : 0 < s.size) (hs : st.pr.length + s.size ≤ 1000000) :
    ∃ v' w2, (Builtin.append_ #[50, 9] 50 #[pv, .string s]).run Tryd.prog w = .ok v' w2 ∧ Blk w2 b 54 #[.int .i64 ln, pv, lv, .map (some m), wv] ∧ Am.Rr (w2.setCell ⟨b, 1, none⟩ v') b ln ⟨st.pr ++ s.data.toList, st.lb, st.ws⟩ v' lv wv m ∧ Am.Nx w (w2.setCell ⟨b, 1, none⟩ v') (Am.ft b m pv lv wv) (Am.ft b m v' lv wv) ∧ ∃ A c, v' = .slice A (st.pr.length + s.size) c := by
  obtain ⟨i0, hi, hz, hsz, hby⟩ := Am.parts Am.u8_info
  have hsrc : Src Tryd.prog 1 9 (.string s) s.size (Go.byteCells s) w := Src.ofString (w := w) Tryd.underlying9 _
  obtain ⟨v', w2, hk, hr, hg, ho⟩ := run_growZ (P := Tryd.prog) w 50 9 5 50 s.size h0 i0 _ 1 Tryd.underlying50 hi hz hsz hby (by omega) rfl _ _ _ h.pr (Am.bytes_one _) _ _ hsrc hs
  have hy : byteCells st.pr ++ Go.byteCells s = byteCells (st.pr ++ s.data.toList) := by simp [byteCells, Go.byteCells]
  have hl : (st.pr ++ s.data.toList).length = st.pr.length + s.size := by simp
  obtain ⟨q1, q2, q3⟩ := h.setP (only_refl _ _) hg ho (st.pr ++ s.data.toList) (by rw [hl, ← hy]; exact hr)
  exact ⟨v', w2, hk, q1, q2, q3, hr.form⟩
theorem Am.Rr.pushW (h : Am.Rr w b ln st pv lv wv m) (nm : List UInt8) (x : Nat) (hs : st.ws.length ≤ 100000) :
    ∃ v' w2, (Builtin.append_ #[52, 52] 52 #[wv, .slice (some ⟨w.heap.size, 0, none⟩) 1 1]).run Tryd.prog (w.alloc (.cells #[.int .i64 ln, .string ⟨nm.toArray⟩, .int .i64 x] 90)).drew = .ok v' w2 ∧ Am.Rr (w2.setCell ⟨b, 4, none⟩ v') b ln ⟨st.pr, st.lb, st.ws ++ [(ln, nm, x)]⟩ pv lv v' m ∧ Am.Nx w (w2.setCell ⟨b, 4, none⟩ v') (Am.ft b m pv lv wv) (Am.ft b m pv lv v') ∧ (∃ A c, v' = .slice A (st.ws.length + 1) c) ∧
      ∀ W, W = w.drew ∨ W = (w.alloc (.cells #[.int .i64 ln, .string ⟨nm.toArray⟩, .int .i64 x] 90)).drew ∨ W = w2 → Blk W b 54 #[.int .i64 ln, pv, lv, .map (some m), wv] := by
  obtain ⟨i0, hi, hz, hsz, hby⟩ := Am.parts Am.wish_info
  have e3 : #[Value.int .i64 ln, .string ⟨nm.toArray⟩, .int .i64 x] = (Am.ws1 (ln, nm, x)).toArray := rfl
  rw [e3]
  generalize hW1 : (w.alloc (.cells (Am.ws1 (ln, nm, x)).toArray 90)).drew = W1
  have g1 : w.grownBy W1 none := by rw [← hW1]; exact only_drewN (only_alloc (only_refl _ none) _) 1
  have b1 : Blk W1 w.heap.size 90 (Am.ws1 (ln, nm, x)).toArray := by rw [← hW1]; exact (Blk.new w 90 _).drewN 1
  have hsrc : Src Tryd.prog 3 52 (.slice (some ⟨w.heap.size, 0, none⟩) 1 1) 1 (Am.ws1 (ln, nm, x)) W1 := Src.ofSlice _ Tryd.underlying52 _ _ _ _ (by simp [Am.ws1]) (fun k u hu => by
    rw [addr_at, Nat.zero_add, b1.cell k]
    simpa using hu) (by intro u hu; simp [Am.ws1] at hu; rcases hu with rfl | rfl | rfl <;> rfl)
  obtain ⟨v', w2, hk, hr, hg, ho⟩ := run_pushZ (P := Tryd.prog) W1 52 90 52 i0 _ 32 Tryd.underlying52 hi hz hsz hby (by omega) rfl _ _ _ (h.ws.grown g1) (Am.wsL_one _) _ _ hsrc (by omega)
  have hl : (st.ws ++ [(ln, nm, x)]).length = st.ws.length + 1 := by simp
  have hy : Am.wsL st.ws ++ Am.ws1 (ln, nm, x) = Am.wsL (st.ws ++ [(ln, nm, x)]) := by simp [Am.wsL]
  obtain ⟨q1, q2, q3⟩ := h.setW g1 hg ho (st.ws ++ [(ln, nm, x)]) (by rw [hl, ← hy]; exact hr)
  refine ⟨v', w2, hk, q2, q3, hr.form, fun W hW => ?_⟩
  rcases hW with rfl | rfl | rfl
  · exact h.blk.drewN 1
  · exact h.blk.only g1 (by simp)
  · exact q1
end
/-- Nothing, and what was read; or giving up. -/
def Am.stP (w : World) (b ln : Nat) (F : Nat → Prop) (z : Int × Am.St) (r : Ending) (w' : World) : Prop :=
  if z.1 = 0 then r = .returned (.tuple #[]) ∧ ∃ F', Am.Rd w' b ln z.2 F' ∧ Am.Nx w w' F F' else r = .panicked (Am.chn ln z.1) ∧ Keeps F w w'
theorem Am.stP_bad {w : World} {b ln : Nat} {F : Nat → Prop} {e : Int} {st : Am.St} (h : e ≠ 0) : Am.stP w b ln F (e, st) = fun r w' => r = .panicked (Am.chn ln e) ∧ Keeps F w w' := by
  funext r w'
  unfold Am.stP
  rw [if_neg h]
theorem Am.stP_ok {w : World} {b ln : Nat} {F : Nat → Prop} {st : Am.St} : Am.stP w b ln F (0, st) = fun r w' => r = .returned (.tuple #[]) ∧ ∃ F', Am.Rd w' b ln st F' ∧ Am.Nx w w' F F' := by
  funext r w'
  unfold Am.stP
  rw [if_pos rfl]
/-- What bytes, with a name for the last two, make of what was read. -/
def Am.putV (ln : Nat) (s nm : List UInt8) (st : Am.St) : Int × Am.St := if 1024 < st.pr.length + s.length then (4, st) else (0, ⟨st.pr ++ s, st.lb, if nm = [] then st.ws else st.ws ++ [(ln, nm, st.pr.length + s.length - 2)]⟩)
theorem Am.Nx.mono {w w' : World} {F F' G : Nat → Prop} (h : Am.Nx w w' F F') (hs : ∀ i, F i → G i) : Am.Nx w w' G (fun i => F' i ∨ G i) :=
  ⟨h.1.mono (fun i _ hi => hs i hi), fun i hi => by
    rcases hi with e | e
    · rcases h.2 i e with q | q
      · exact .inl (hs i q)
      · exact .inr q
    · exact .inl e⟩
theorem Am.Rd.of {w w' : World} {b ln' : Nat} {st' : Am.St} {pv lv wv pv' lv' wv' : Value} {m m' : Nat} {F : Nat → Prop} (k : ∀ i, Am.ft b m pv lv wv i → F i) (h : Am.Rr w' b ln' st' pv' lv' wv' m') (n : Am.Nx w w' (Am.ft b m pv lv wv) (Am.ft b m' pv' lv' wv')) : ∃ F', Am.Rd w' b ln' st' F' ∧ Am.Nx w w' F F' :=
  ⟨_, ⟨_, _, _, _, h, fun i hi => .inl hi⟩, n.mono k⟩
end Go.Proofs.YtgjpjmolfdiahaaDoor
