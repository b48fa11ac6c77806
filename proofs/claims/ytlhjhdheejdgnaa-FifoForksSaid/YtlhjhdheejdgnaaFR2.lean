/- The law's own walk through a queue: what it collects. -/
import Derived.Test.YtlhjhdheejdgnaaFR1
namespace Go.Proofs.Ytlhjhdheejdgnaa
open Go.RowKit Go.Lib Go.Shelf
attribute [local go_sem] Oper.semAt_some
set_option linter.unusedVariables false

/-- append, at the operation, where its run is known: within a fence. -/
theorem wpListIn_append_eq {F : Fence} {n : Nat} {P : Program} {w : World} {ops : Array Oper} {rest : List Oper} {o : Oper} {a : Act} {Q : Exit → Act → World → Prop}
    (hg : o.guard = none) (s x : Operand) (t : TypeId) (hop : o.op = Op.call { callee := Callee.builtin Builtin.append, args := #[s, x], argTypes := #[t, t] })
    {v xs v' : Value} {w' : World} (hr : (Builtin.append_ #[t, t] o.type #[v, xs]).run P w = .ok v' w') (hs : a.eval s = v) (hx : a.eval x = xs)
    (hK : wpListIn F n P ops Q rest (a.put o.dst v') w') : wpListIn F n P ops Q (o :: rest) a w := by
  refine wpListIn_plain hg fun K hK' => ?_
  unfold Oper.wpIn
  refine ⟨by simp [Oper.about, hop, resolve, Target.leads, Sem.run_pure], ?_⟩
  rw [Oper.semAt_plain F _ _ (by rw [hop]; intro c hc'; cases hc')]
  simp [execOp, hop, resolve, invoke, builtin, hs, hx, hr, Result.andThen]
  exact hK' _ _ hK

/-- A slice's row abides the turn of a block that is no cells. -/
theorem RowQ.own {w w' : World} {v : Value} {l : List Value} {row : Option Nat} (h : RowQ w v l) (hg : w.grownBy w' row) (hr : ∀ r, row = some r → ∃ o : Obj, w.heap[r]? = some o ∧ o.isCells = false) : RowQ w' v l := by
  rcases h with h | ⟨g, off, cap, rfl, h1, h2, h3, h4, h5⟩
  · exact .inl h
  · rcases Nat.eq_zero_or_pos cap with hc | hc
    · subst hc
      have hl : l.length = 0 := by omega
      exact .inr ⟨g, off, 0, rfl, h1, h2, Nat.lt_of_lt_of_le h3 hg.size, fun j hj => absurd hj (by omega), fun j hj => absurd hj (by omega)⟩
    · refine RowQ.same (.inr ⟨g, off, cap, rfl, h1, h2, h3, h4, h5⟩) hg.size fun k hk => hg.block k ?_ ?_
      · simp [Value.ownBlock] at hk
        omega
      · intro e
        obtain ⟨o, ho, hno⟩ := hr k e.symm
        simp [Value.ownBlock] at hk
        subst hk
        have := (h4 0 hc).1
        simp only [World.cell?, ho] at this
        cases o <;> simp [Obj.isCells] at hno this
theorem Blk.own {w w' : World} {g : Nat} {t : TypeId} {cs : Array Value} {row : Option Nat} (h : Blk w g t cs) (hg : w.grownBy w' row) (hr : ∀ r, row = some r → ∃ o : Obj, w.heap[r]? = some o ∧ o.isCells = false) : Blk w' g t cs :=
  h.only hg (fun e => by
    obtain ⟨o, ho, hno⟩ := hr g e.symm
    have h' : w.heap[g]? = some (.cells cs t (0, 0)) := h
    rw [h'] at ho
    injection ho with ho
    subst ho
    simp [Obj.isCells] at hno)

/-- Where a slice lies there are cells. -/
def OwnC (w : World) (v : Value) : Prop := ∀ i, v.ownBlock = some i → ∃ o : Obj, w.heap[i]? = some o ∧ o.isCells = true
theorem OwnC.own {w w' : World} {v : Value} {row : Option Nat} (h : OwnC w v) (hg : w.grownBy w' row) (hr : ∀ r, row = some r → ∃ o : Obj, w.heap[r]? = some o ∧ o.isCells = false) : OwnC w' v := fun i hi => by
  obtain ⟨o, ho, hc⟩ := h i hi
  refine ⟨o, (hg.block i (Array.getElem?_eq_some_iff.1 ho).1 ?_).trans ho, hc⟩
  intro e
  obtain ⟨o', ho', hc'⟩ := hr i e.symm
  rw [ho] at ho'
  injection ho' with ho'
  subst ho'
  rw [hc] at hc'
  cases hc'
theorem RowQ.ownC {w : World} {v : Value} {l : List Value} (h : RowQ w v l) (hl : 0 < l.length) : OwnC w v := fun i hi => by
  rcases h with ⟨rfl, _⟩ | ⟨g, off, cap, rfl, _, _, _, _, h5⟩
  · simp [Value.ownBlock] at hi
  · simp [Value.ownBlock] at hi
    subst hi
    have := h5 0 hl
    simp only [World.cell?] at this
    cases ho : w.heap[g]? with
    | none => simp [ho] at this
    | some o =>
      refine ⟨o, rfl, ?_⟩
      rw [ho] at this
      cases o <;> first | rfl | (simp at this)

theorem run_equalIn_func_nil {P : Program} (w : World) (d : Nat) (t : TypeId) (a b : Array TypeId) (c : Bool) (f : Fn) (x y : Array Value) (h : P.underlying t = some (.func a b c)) :
    (Op.equalIn (d + 1) t (.func f x y) .nilFunc).run P w = .ok false w := by
  simp [Op.equalIn, run_underlying h]
theorem run_eql_func_nil {P : Program} (w : World) (t : TypeId) (a b : Array TypeId) (c : Bool) (f : Fn) (x y : Array Value) (h : P.underlying t = some (.func a b c)) :
    (binOp .eql t (.func f x y) .nilFunc).run P w = .ok (.bool false) w := by
  simp only [binOp]
  simp [Op.equal, Op.maxDepth, run_equalIn_func_nil w 9999 t a b c f x y h]

theorem seq_underlying : Try.prog.underlying 56 = some (.func #[67] #[] false) := by kernel_rfl

/-- What the walk holds between two rounds: what came so far, and its results' cells. -/
def AllI (w : World) (pre : List (Nat × ByteArray)) (W : World) : Prop :=
  Good pre ∧ (∃ v, Blk W (w.heap.size + 1 + 1 + 1) 31 #[v] ∧ RowQ W v ((pre.map (·.2)).map .string) ∧ OwnC W v ∧ ∀ i, v.ownBlock = some i → w.heap.size + 1 + 1 ≤ i ∧ i ≠ w.heap.size + 1 + 1 + 1) ∧
    Blk W w.heap.size 31 #[.slice none 0 0] ∧ Blk W (w.heap.size + 1) 4 #[.bool false] ∧ Below w.heap.size w W

theorem AllI.own (w : World) {B : Nat} (hB : w.heap.size ≤ B) : OwnFrom B (AllI w) := fun pre W W' row h hg hr => by
  obtain ⟨h1, ⟨v, h2, h3, h4, h5⟩, h6, h7, h8⟩ := h
  have hr' : ∀ r, row = some r → ∃ o : Obj, W.heap[r]? = some o ∧ o.isCells = false := fun r e => (hr r e).2
  exact ⟨h1, ⟨v, h2.own hg hr', h3.own hg hr', h4.own hg hr', h5⟩, h6.own hg hr', h7.own hg hr', h8.grown hg h8.size (fun k e => Nat.le_trans hB (hr k e).1)⟩

set_option maxRecDepth 100000 in
set_option maxHeartbeats 2000000 in
theorem all_any (b lim dr : Nat) (v : Value) (L : List ByteArray) (w : World) (hL : L.length ≤ 100000) (hQ : Que w b 51 v (L.map .string) lim dr) :
    Calls Try.prog 13 #[.pointer (some ⟨b, 0, none⟩)] w fun e w' => ∃ out, e = .returned (.tuple #[out, .bool true]) ∧ RowQ w' out (L.map .string) ∧ Below w.heap.size w w' := by
  obtain ⟨i0, hi0, hz0, hz1, hz2⟩ := info_parts string_info
  have hnil : ∀ W y, (binOp .eql 56 (.func (.func 41) #[] y) .nilFunc).run Try.prog W = .ok (.bool false) W := fun W y => run_eql_func_nil W _ _ _ _ _ _ _ seq_underlying
  have b1 : Below w.heap.size w (w.alloc (.cells #[.slice none 0 0] 31)) := (Below.refl _ _).alloc (Nat.le_refl _) _
  have b2 := b1.alloc b1.size (.cells #[.bool false] 4)
  have b3 := b2.alloc b2.size (.cells #[] 9)
  have b4 := b3.alloc b3.size (.cells #[.slice (some ⟨w.heap.size + 1 + 1, 0, none⟩) 0 0] 31)
  have b5 := b4.alloc b4.size (.cells #[.pointer (some ⟨b, 0, none⟩)] 23)
  have I0 : AllI w [] (((((w.alloc (.cells #[.slice none 0 0] 31)).alloc (.cells #[.bool false] 4)).alloc (.cells #[] 9)).alloc (.cells #[.slice (some ⟨w.heap.size + 1 + 1, 0, none⟩) 0 0] 31)).alloc (.cells #[.pointer (some ⟨b, 0, none⟩)] 23)) := by
    have e3 := Blk.new ((w.alloc (.cells #[.slice none 0 0] 31)).alloc (.cells #[.bool false] 4)) 9 #[]
    have e4 := Blk.new (((w.alloc (.cells #[.slice none 0 0] 31)).alloc (.cells #[.bool false] 4)).alloc (.cells #[] 9)) 31 #[.slice (some ⟨w.heap.size + 1 + 1, 0, none⟩) 0 0]
    have e2 := Blk.new (w.alloc (.cells #[.slice none 0 0] 31)) 4 #[.bool false]
    have e1 := Blk.new w 31 #[.slice none 0 0]
    simp only [World.size_alloc] at e2 e3 e4
    refine ⟨fun j y h => by simp at h, ⟨_, e4.alloc _, RowQ.empty 0 (by simp), ?_, ?_⟩, (((e1.alloc _).alloc _).alloc _).alloc _, ((e2.alloc _).alloc _).alloc _, b5⟩
    · intro i hi
      simp [Value.ownBlock] at hi
      subst hi
      exact ⟨_, ((e3.alloc (.cells #[.slice (some ⟨w.heap.size + 1 + 1, 0, none⟩) 0 0] 31)).alloc (.cells #[.pointer (some ⟨b, 0, none⟩)] 23)), rfl⟩
    · intro i hi
      simp [Value.ownBlock] at hi
      omega
  have c5 : (((((w.alloc (.cells #[.slice none 0 0] 31)).alloc (.cells #[.bool false] 4)).alloc (.cells #[] 9)).alloc (.cells #[.slice (some ⟨w.heap.size + 1 + 1, 0, none⟩) 0 0] 31)).alloc (.cells #[.pointer (some ⟨b, 0, none⟩)] 23)).cell? ⟨w.heap.size + 1 + 1 + 1 + 1, 0, none⟩ = some (.pointer (some ⟨b, 0, none⟩)) := by
    have e5 := Blk.new ((((w.alloc (.cells #[.slice none 0 0] 31)).alloc (.cells #[.bool false] 4)).alloc (.cells #[] 9)).alloc (.cells #[.slice (some ⟨w.heap.size + 1 + 1, 0, none⟩) 0 0] 31)) 23 #[.pointer (some ⟨b, 0, none⟩)]
    simp only [World.size_alloc] at e5
    exact e5.cell 0
  have hQ5 := hQ.keeps (Keeps.of_below b5 (fun _ => False)) (fun _ _ h => h)
  have hlt := hQ.lt
  have hsz : (((((w.alloc (.cells #[.slice none 0 0] 31)).alloc (.cells #[.bool false] 4)).alloc (.cells #[] 9)).alloc (.cells #[.slice (some ⟨w.heap.size + 1 + 1, 0, none⟩) 0 0] 31)).alloc (.cells #[.pointer (some ⟨b, 0, none⟩)] 23)).heap.size = w.heap.size + 5 := by simp
  have I0 := Lib.hid I0
  have C5 := Lib.hid c5
  have Q5 := Lib.hid hQ5
  have LT := Lib.hid hlt
  have SZ := Lib.hid hsz
  clear b1 b2 b3 b4 b5 c5 hQ5 hlt hQ hsz
  refine (callsIn_wide (n := 10)).1 ?_
  refine callsIn_of_wp_marks Try.func13 rfl trivial ?_ rfl
  simp only [Try.ntmps13, List.size_toArray, List.length_cons, List.length_nil, Nat.reduceAdd, Nat.reduceSub, Array.replicate_succ, Array.replicate_zero, List.push_toArray, List.append_toArray, List.nil_append, List.cons_append]
  gi_wp2_with (refine ⟨trivial, ?_⟩; gi_at_call 30; refine (fall_in _ _ _).mono ?_; rintro e w' ⟨rfl, rfl⟩)
  generalize ((((w.alloc (.cells #[.slice none 0 0] 31)).alloc (.cells #[.bool false] 4)).alloc (.cells #[] 9)).alloc (.cells #[.slice (some ⟨w.heap.size + 1 + 1, 0, none⟩) 0 0] 31)).alloc (.cells #[.pointer (some ⟨b, 0, none⟩)] 23) = w5 at *
  have h5 : w.heap.size ≤ w5.heap.size := by have := SZ.out; omega
  refine wpIn_rangeFunc_ownF rfl (by omega) (gf := 41) (lb := #[.pointer (some ⟨w.heap.size + 1 + 1 + 1 + 1, 0, none⟩)]) rfl trivial (enters_of Try.func41 (by kernel_rfl) rfl)
    (fall_stops (10 - 1) (by omega) (w.heap.size + 1 + 1 + 1 + 1) w.heap.size b lim dr v L hL w5 (by have := SZ.out; omega) h5 C5.out Q5.out LT.out) belowK_t (belowK_b h5) (Below.refl _ _) (fun _ => rfl)
    (AllI w) (fun c pre W => c = .ret ∧ ¬ Good pre) (AllI.own w h5) (fun _ _ _ _ _ hs _ _ => hs) I0.out
    (fun x => { tmps := #[.pointer (some ⟨b, 0, none⟩), undef, .pointer (some ⟨w.heap.size, 0, none⟩), .pointer (some ⟨w.heap.size + 1, 0, none⟩), .pointer (some ⟨w.heap.size + 1 + 1 + 1, 0, none⟩), .func (.func 41) #[] #[.pointer (some ⟨w.heap.size + 1 + 1 + 1 + 1, 0, none⟩)], .int .i64 (x.1 : Int), .string x.2, .slice (some ⟨w.heap.size + 1 + 1, 0, none⟩) 0 0, .pointer (some ⟨b, 0, none⟩), .func (.func 41) #[] #[.pointer (some ⟨w.heap.size + 1 + 1 + 1 + 1, 0, none⟩)], .func (.func 41) #[] #[.pointer (some ⟨w.heap.size + 1 + 1 + 1 + 1, 0, none⟩)], .bool false, undef, .func (.func 41) #[] #[.pointer (some ⟨w.heap.size + 1 + 1 + 1 + 1, 0, none⟩)], .int .i64 (x.1 : Int), .string x.2, undef, undef, undef, undef, undef, undef, undef, undef, undef, undef], defers := [] }) ?assign ?body ?done ?stop
  case assign =>
    intro l x W K hK
    gi_wp2
    exact hK
  case body =>
    rintro l pre ⟨x, s⟩ W hI hlen
    have HI := Lib.hid hI
    obtain ⟨hg, ⟨u, e4, hrow, hoc, hob⟩, e1, e2, hbl⟩ := hI
    have c4 : W.cell? ⟨w.heap.size + 1 + 1 + 1, 0, none⟩ = some u := e4.cell 0
    have f4 := e4.free 0
    obtain ⟨A, c, rfl⟩ := hrow.form
    have hlp : ((pre.map (·.2)).map Value.string).length = pre.length := by simp
    rw [hlp] at c4
    by_cases hx : x = pre.length
    · subst hx
      have hx' : ((pre.length : Int) != (pre.length : Int)) = false := by simp
      have hone : ∀ y ∈ (pre.map (·.2)).map Value.string, y.oneCell' = true := by
        intro y hy
        obtain ⟨z, _, rfl⟩ := List.mem_map.1 hy
        rfl
      have hrow1 : RowQ (W.alloc (.cells #[.string s] 9)) (.slice A ((pre.map (·.2)).map Value.string).length c) ((pre.map (·.2)).map .string) := hrow.alloc _
      have hsrc : Src Try.prog 1 31 (.slice (some ⟨W.heap.size, 0, none⟩) 1 1) 1 [.string s] (W.alloc (.cells #[.string s] 9)) := Src.ofSlice _ Try.underlying31 _ _ _ _ rfl (cell_one_new _ _ _) (by simp [Value.oneCell'])
      obtain ⟨v', w', hk, hr, hgr, ho, A', c', rfl⟩ := run_push (P := Try.prog) _ 31 9 31 i0 _ 16 Try.underlying31 hi0 hz0 hz1 hz2 (by omega) rfl _ _ hrow1 hone _ _ hsrc (by rw [hlp]; omega)
      rw [hlp] at hk hr hgr ho hob
      have hne4 : some (w.heap.size + 1 + 1 + 1) ≠ (Value.slice A pre.length c).ownBlock := fun e => (hob _ e.symm).2 rfl
      have g4 := (e4.alloc (.cells #[.string s] 9)).only hgr hne4
      rw [hlp] at g4
      have d4 : w'.cell? ⟨w.heap.size + 1 + 1 + 1, 0, none⟩ = some (.slice A pre.length c) := g4.cell 0
      have h4 := g4.free 0
      have hne1 : some w.heap.size ≠ (Value.slice A pre.length c).ownBlock := fun e => by have := (hob _ e.symm).1; omega
      have hne2 : some (w.heap.size + 1) ≠ (Value.slice A pre.length c).ownBlock := fun e => by have := (hob _ e.symm).1; omega
      have hsz4 := e4.lt
      have hob2 : ∀ i, (Value.slice A' (pre.length + 1) c').ownBlock = some i → w.heap.size + 1 + 1 ≤ i ∧ i ≠ w.heap.size + 1 + 1 + 1 := by
        intro i hi
        rcases ho with ho | ho
        · rw [ho] at hi
          exact hob i hi
        · rw [ho] at hi
          injection hi with hi
          simp at hi
          omega
      have hr2 : RowQ (w'.setCell ⟨w.heap.size + 1 + 1 + 1, 0, none⟩ (.slice A' (pre.length + 1) c')) (.slice A' (pre.length + 1) c') (((pre ++ [(pre.length, s)]).map (·.2)).map .string) := by
        have : ((pre ++ [(pre.length, s)]).map (·.2)).map Value.string = (pre.map (·.2)).map .string ++ [.string s] := by simp
        rw [this]
        exact hr.put (fun e => (hob2 _ e).2 rfl) _
      have hko : KeepsOthers W (w'.setCell ⟨w.heap.size + 1 + 1 + 1, 0, none⟩ (.slice A' (pre.length + 1) c')) := by
        refine ((KeepsOthers.alloc W _).trans (KeepsOthers.of_grownBy hgr fun j o ej hj => ?_)).trans (KeepsOthers.setCell _ _ _)
        obtain ⟨o', ho', hc'⟩ := hoc j (by rw [hlp]; exact ej)
        rw [Below.heap_alloc W _ j (Array.getElem?_eq_some_iff.1 ho').1, ho'] at hj
        injection hj with hj
        subst hj
        exact hc'
      have hbl2 : Below w.heap.size W (w'.setCell ⟨w.heap.size + 1 + 1 + 1, 0, none⟩ (.slice A' (pre.length + 1) c')) := by
        have q1 : Below w.heap.size W (W.alloc (.cells #[.string s] 9)) := (Below.refl _ _).alloc hbl.size _
        have q2 : Below w.heap.size (W.alloc (.cells #[.string s] 9)) w' := below_of_only hgr (Nat.le_trans hbl.size (by simp)) (fun k e => by have := (hob k e).1; omega)
        exact (q1.trans q2).setCell (p := ⟨w.heap.size + 1 + 1 + 1, 0, none⟩) (by show w.heap.size ≤ w.heap.size + 1 + 1 + 1; omega) _
      have fin : AllI w (pre ++ [(pre.length, s)]) (w'.setCell ⟨w.heap.size + 1 + 1 + 1, 0, none⟩ (.slice A' (pre.length + 1) c')) :=
        ⟨hg.snoc s, ⟨_, g4.put 0 _, hr2, hr2.ownC (by simp), hob2⟩, ((e1.alloc _).only hgr hne1).far (by show w.heap.size ≠ w.heap.size + 1 + 1 + 1; omega) _, ((e2.alloc _).only hgr hne2).far (by show w.heap.size + 1 ≠ w.heap.size + 1 + 1 + 1; omega) _, hbl.trans hbl2⟩
      have FIN := Lib.hid fin
      have HK := Lib.hid hk
      have HKO := Lib.hid hko
      have HBL := Lib.hid hbl2
      clear fin hk hko hbl2 hr2 hob2 hsz4 hne1 hne2 g4 hne4 hr hgr ho hsrc hrow1 hone hg hrow hoc hob e1 e2 e4 hbl
      dsimp only
      gi_wp2_with (gi_at_builtin; refine wpListIn_append_eq rfl (.tmp 22) (.tmp 24) 31 rfl HK.out rfl rfl ?_)
      exact ⟨HKO.out, HBL.out, FIN.out⟩
    · have hx' : ((x : Int) != (pre.length : Int)) = true := bne_iff_ne.2 (by omega)
      have c1 : W.cell? ⟨w.heap.size, 0, none⟩ = some (.slice none 0 0) := e1.cell 0
      have f1 := e1.free 0
      have c2 : W.cell? ⟨w.heap.size + 1, 0, none⟩ = some (.bool false) := e2.cell 0
      have f2 := e2.free 0
      have hbad := Good.bad (x := (x, s)) hx
      clear hg hrow hoc hob e1 e2 e4 hbl hx
      dsimp only
      gi_wp2
      exact ⟨(KeepsOthers.setCell _ _ _).trans (KeepsOthers.setCell _ _ _), rfl, hbad⟩
  case done =>
    rintro D ys W hD rfl hI hK
    obtain ⟨hg, ⟨u, e4, hrow, hoc, hob⟩, e1, e2, hbl⟩ := hI
    rw [placed_all] at hrow
    have c4 : W.cell? ⟨w.heap.size + 1 + 1 + 1, 0, none⟩ = some u := e4.cell 0
    obtain ⟨A, c, rfl⟩ := hrow.form
    rw [List.length_map] at c4
    have c1 : W.cell? ⟨w.heap.size, 0, none⟩ = some (.slice none 0 0) := e1.cell 0
    have f1 := e1.free 0
    have c2 : W.cell? ⟨w.heap.size + 1, 0, none⟩ = some (.bool false) := e2.cell 0
    have f2 := e2.free 0
    have hK2 := ((KeepsOthers.setCell W ⟨w.heap.size, 0, none⟩ (.slice A L.length c)).trans (KeepsOthers.setCell _ ⟨w.heap.size + 1, 0, none⟩ (.bool true))).same D _ hK rfl
    have r1 := (e1.put 0 (.slice A L.length c)).far (p := ⟨w.heap.size + 1, 0, none⟩) (by show w.heap.size ≠ w.heap.size + 1; omega) (.bool true)
    have r2 := (e2.far (p := ⟨w.heap.size, 0, none⟩) (by show w.heap.size + 1 ≠ w.heap.size; omega) (.slice A L.length c)).put 0 (.bool true)
    have hgD := grownBy_putObj' ((W.setCell ⟨w.heap.size, 0, none⟩ (.slice A L.length c)).setCell ⟨w.heap.size + 1, 0, none⟩ (.bool true)) D (.deferred none)
    have hnD : ∀ r, some D = some r → ∃ o : Obj, ((W.setCell ⟨w.heap.size, 0, none⟩ (.slice A L.length c)).setCell ⟨w.heap.size + 1, 0, none⟩ (.bool true)).heap[r]? = some o ∧ o.isCells = false := fun r e => by
      injection e with e
      subst e
      exact ⟨_, hK2, rfl⟩
    have s1 := (r1.own hgD hnD).cell 0
    have s2 := (r2.own hgD hnD).cell 0
    have hrow2 : RowQ (((W.setCell ⟨w.heap.size, 0, none⟩ (.slice A L.length c)).setCell ⟨w.heap.size + 1, 0, none⟩ (.bool true)).putObj D (.deferred none)) (.slice A L.length c) (L.map .string) := by
      rw [List.length_map] at hrow hob
      refine RowQ.own ?_ hgD hnD
      exact (hrow.put (fun e => by have := (hob _ e).1; simp at this; omega) _).put (fun e => by have := (hob _ e).1; simp at this; omega) _
    have hfin : Below w.heap.size w (((W.setCell ⟨w.heap.size, 0, none⟩ (.slice A L.length c)).setCell ⟨w.heap.size + 1, 0, none⟩ (.bool true)).putObj D (.deferred none)) :=
      ((hbl.setCell (p := ⟨w.heap.size, 0, none⟩) (Nat.le_refl _) _).setCell (p := ⟨w.heap.size + 1, 0, none⟩) (by show w.heap.size ≤ w.heap.size + 1; omega) _).grown hgD (by simpa using hbl.size) (fun k e => by injection e with e; omega)
    have HFIN := Lib.hid hfin
    have HROW := Lib.hid hrow2
    have HK2 := Lib.hid hK2
    have S1 := Lib.hid s1
    have S2 := Lib.hid s2
    clear hg hrow hoc hob e1 e2 e4 hbl hK hK2 r1 r2 hgD hnD hrow2 hfin s1 s2
    gi_wp2
    refine ⟨by simp, .inl ⟨_, _, rfl, run_takeDeferred HK2.out, ?_⟩⟩
    have t1 := S1.out
    have t2 := S2.out
    simp only [List.setIfInBounds_toArray, List.set_cons_zero] at t1 t2
    refine ⟨.tuple #[.slice A L.length c, .bool true], ?_, .slice A L.length c, rfl, HROW.out, HFIN.out⟩
    simp [results, Try.f13, go_sem, t1, t2]
  case stop =>
    rintro D c pre W hD ⟨k, hk, rfl⟩ ⟨rfl, hb⟩ hK
    exact absurd (placed_good L k) hb
end Go.Proofs.Ytlhjhdheejdgnaa
