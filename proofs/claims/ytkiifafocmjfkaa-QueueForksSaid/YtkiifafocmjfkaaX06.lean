import Derived.Test.YtkiifafocmjfkaaX05
import Derived.RegionIn
import Derived.Test.YtkiifafocmjfkaaX01
import Derived.Test.YtkiifafocmjfkaaX02
set_option linter.all false
/- Backlog of a queue of requests. -/
namespace Go.Proofs.Ytkiifafocmjfkaa
open Go.RowKit Go.Lib Go.Shelf
attribute [local go_sem] Oper.semAt_some
set_option linter.unusedVariables false

/-- How many are not wrong. -/
def Qu.cnt (l : List Qu.It) : Nat := (l.filter fun x => !x.bad).length
def Qu.cntP (l : List (Nat × Qu.It)) : Nat := Qu.cnt (l.map Prod.snd)
theorem Qu.cntP_snoc (l : List (Nat × Qu.It)) (x : Nat × Qu.It) : Qu.cntP (l ++ [x]) = Qu.cntP l + (if x.2.bad then 0 else 1) := by
  unfold Qu.cntP Qu.cnt
  cases h : x.2.bad <;> simp [h]
theorem Qu.cntP_len (l : List (Nat × Qu.It)) : Qu.cntP l ≤ l.length := by
  unfold Qu.cntP Qu.cnt
  have := List.length_filter_le (fun x : Qu.It => !x.bad) (l.map Prod.snd)
  simpa using this
theorem Qu.cntP_placed (L : List Qu.It) : Qu.cntP (Qu.placed L L.length) = Qu.cnt L := by
  unfold Qu.cntP
  congr 1
  refine List.ext_getElem (by simp [Qu.placed]) fun i h1 h2 => ?_
  simp [Qu.placed, h2]
/-- What the loop holds between two rounds. -/
structure Qu.BI (W3 : World) (nb : Nat) (pre : List (Nat × Qu.It)) (W' : World) : Prop where
  b : Blk W' nb 3 #[.int .i64 (Qu.cntP pre : Int)]
  ks : Keeps (fun i => i = nb) W3 W'
section
variable {W3 W W' : World} {nb : Nat} {pre : List (Nat × Qu.It)}
theorem Qu.BI.own (hnb : nb < W3.heap.size) : OwnFrom W3.heap.size (Qu.BI W3 nb) := fun pre W W' row h hg hr => by
  have k : Keeps (fun i => row = some i) W W' := Keeps.of_only hg (fun _ e => e)
  have hn : ∀ i, i < W3.heap.size → ¬ row = some i := fun i hi e => by have := (hr i e).1; omega
  exact ⟨h.b.keeps k (hn _ hnb), ⟨k.1.trans h.ks.1, k.2.1.trans h.ks.2.1, k.2.2.1.trans h.ks.2.2.1, Nat.le_trans h.ks.size k.size, fun i hi hs => (k.2.2.2.2 i (Nat.lt_of_lt_of_le hi h.ks.size) (hn i hi)).trans (h.ks.2.2.2.2 i hi hs)⟩⟩
theorem Qu.BI.more (h : Qu.BI W3 nb pre W) (hnb : nb < W3.heap.size) (x : Nat × Qu.It) (hx : x.2.bad = false) : Qu.BI W3 nb (pre ++ [x]) (W.setCell ⟨nb, 0, none⟩ (.int .i64 ((Qu.cntP pre : Int) + 1))) ∧ KeepsFrom W3.heap.size W (W.setCell ⟨nb, 0, none⟩ (.int .i64 ((Qu.cntP pre : Int) + 1))) ∧ ∀ P : Nat → Prop, (∀ i, P i → i < W3.heap.size ∧ i ≠ nb) → Qu.Kp P W (W.setCell ⟨nb, 0, none⟩ (.int .i64 ((Qu.cntP pre : Int) + 1))) := by
  have g := grownBy_setCell' W nb (.int .i64 ((Qu.cntP pre : Int) + 1))
  have kp := Keeps.of_only g (S := fun i => i = nb) (fun i e => by injection e with e; exact e.symm)
  refine ⟨⟨?_, ⟨kp.1.trans h.ks.1, kp.2.1.trans h.ks.2.1, kp.2.2.1.trans h.ks.2.2.1, Nat.le_trans h.ks.size kp.size, fun i hi hs => (kp.2.2.2.2 i (Nat.lt_of_lt_of_le hi h.ks.size) hs).trans (h.ks.2.2.2.2 i hi hs)⟩⟩, ⟨kp.size, fun i o hB ho hc => ?_⟩, fun P hP => ⟨kp.size, fun i hi => kp.2.2.2.2 i (Nat.lt_of_lt_of_le (hP i hi).1 h.ks.size) (hP i hi).2⟩⟩
  · rw [Qu.cntP_snoc, hx]
    have := h.b.put 0 (.int .i64 ((Qu.cntP pre : Int) + 1))
    simpa using this
  · have hi := (Array.getElem?_eq_some_iff.1 ho).1
    exact (kp.2.2.2.2 i hi (by omega)).trans ho
theorem Qu.BI.same (h : Qu.BI W3 nb pre W) (x : Nat × Qu.It) (hx : x.2.bad = true) : Qu.BI W3 nb (pre ++ [x]) W := by
  refine ⟨?_, h.ks⟩
  rw [Qu.cntP_snoc, hx]
  exact h.b
end
theorem Qu.three {w w3 W W2 : World} {nb Db : Nat} (g : w.grownBy w3 none) (k : Keeps (fun i => i = nb) w3 W) (kp : W.grownBy W2 (some Db)) (hnb : w.heap.size ≤ nb) (hDb : w3.heap.size ≤ Db) : w.grownBy W2 none := by
  have s1 := g.size
  have s2 := k.size
  exact ⟨kp.os.trans (k.1.trans g.os), kp.tape.trans (k.2.1.trans g.tape), kp.output.trans (k.2.2.1.trans g.output), Nat.le_trans s1 (Nat.le_trans s2 kp.size), fun i hi _ => ((kp.block i (by omega) (fun e => by injection e with e; omega)).trans (k.2.2.2.2 i (by omega) (by omega))).trans (g.block i hi (by simp))⟩
set_option maxRecDepth 100000 in
set_option maxHeartbeats 16000000 in
theorem Qu.backlog_any (w : World) (q bw bd lim : Nat) (vw vd : Value) (L : List Qu.It) (D : List Qu.Cl) (h : Qu.Qv w q bw bd vw vd L D lim) : Calls Try.prog 19 #[.pointer (some ⟨q, 0, none⟩)] w fun e w' => e = .returned (.int .i64 (Qu.cnt L : Nat)) ∧ w.grownBy w' none := by
  have k0 : ∀ W', w.grownBy W' none → W'.cell? ⟨q, 0, none⟩ = some (.pointer (some ⟨bw, 0, none⟩)) := fun W' g => (h.grown g).blk.cell 0
  have K1 := k0 _ (only_alloc (only_refl w none) (.cells #[.int .i64 0] 3))
  refine (callsIn_wide (n := 10)).1 ?_
  refine callsIn_of_wp_marks Try.func19 rfl trivial ?_ rfl
  simp only [Try.ntmps19, List.size_toArray, List.length_cons, List.length_nil, Nat.reduceAdd, Nat.reduceSub, Array.replicate_succ, Array.replicate_zero, List.push_toArray, List.append_toArray, List.nil_append, List.cons_append]
  gi_wp2_with (refine ⟨trivial, ?_⟩; gi_at_call 29; refine (Qu.all_in _ _ _).mono ?_; rintro e w' ⟨rfl, rfl⟩)
  have g3 := only_alloc (only_alloc (only_refl w none) (.cells #[.int .i64 0] 3)) (.cells #[.pointer (some ⟨bw, 0, none⟩)] 54)
  have bn := (Blk.new w 3 #[.int .i64 0]).alloc (.cells #[.pointer (some ⟨bw, 0, none⟩)] 54)
  have bs := Blk.new (w.alloc (.cells #[.int .i64 0] 3)) 54 #[.pointer (some ⟨bw, 0, none⟩)]
  have hsz : ((w.alloc (.cells #[.int .i64 0] 3)).alloc (.cells #[.pointer (some ⟨bw, 0, none⟩)] 54)).heap.size = w.heap.size + 2 := by simp
  simp only [World.size_alloc] at bs
  generalize (w.alloc (.cells #[.int .i64 0] 3)).alloc (.cells #[.pointer (some ⟨bw, 0, none⟩)] 54) = w3 at *
  have hlt := h.lt
  have H3 := h.grown g3
  have hnb : w.heap.size < w3.heap.size := by omega
  have hP : ∀ i, (OwnQ bw vw i ∨ i = w.heap.size + 1) → i < w3.heap.size ∧ i ≠ w.heap.size := fun i hi => by
    rcases hi with hi | hi
    · have := hlt i (.inr (.inl hi)); omega
    · omega
  have I0 : Qu.BI w3 w.heap.size [] w3 := ⟨bn, Keeps.refl _ _⟩
  have hL16 : L.length + D.length ≤ 16 := Nat.le_trans h.sm h.l16
  have c3 : w3.cell? ⟨w.heap.size + 1, 0, none⟩ = some (.pointer (some ⟨bw, 0, none⟩)) := bs.cell 0
  have hB : w.heap.size + 1 < w3.heap.size := by omega
  clear K1 k0 bn bs
  refine wpIn_rangeFunc_ownH rfl (by omega) (gf := 40) (lb := #[.pointer (some ⟨w.heap.size + 1, 0, none⟩)]) rfl trivial (enters_of Try.func40 (by kernel_rfl) rfl)
    (Qu.all_stops (10 - 1) (by omega) (w.heap.size + 1) bw lim 0 (fun i => OwnQ bw vw i ∨ i = w.heap.size + 1) vw L (by omega) w3 c3 H3.wq (fun i => Iff.rfl)) (fun h k => h.trans k)
    (fun W l o o' hl ho hc hw => Qu.Kp.book (w := w3) (fun i hi => (hP i hi).1) W l o o' hl ho hc hw) (Below.refl _ _) (fun _ => rfl)
    (Qu.BI w3 w.heap.size)
    (fun c pre W => False)
    (Qu.BI.own hnb) (fun c pre X Y row hs hg hr => hs.elim) I0
    (fun x a' W => ∃ Bx, w3.heap.size ≤ Bx ∧ Blk W Bx 35 (Qu.cs x.2) ∧ a' = { tmps := #[.pointer (some ⟨q, 0, none⟩), undef, .int .i64 0, .pointer (some ⟨w.heap.size, 0, none⟩), undef, .pointer (some ⟨Bx, 0, none⟩), .pointer (some ⟨q, 0, none⟩), .bool false, .pointer (some ⟨q, 0, none⟩), .pointer (some ⟨q, 0, none⟩), .pointer (some ⟨q, 0, none⟩), .pointer (some ⟨bw, 0, none⟩), .func (.func 40) #[] #[.pointer (some ⟨w.heap.size + 1, 0, none⟩)], .int .i64 (x.1 : Int), .agg (Qu.cs x.2), undef, undef, undef, undef, undef, undef], defers := [] })
    (fun x a' _ X Y row hs hg hr => by
      obtain ⟨Bx, h1, h2, h3⟩ := hs
      refine ⟨Bx, h1, h2.only hg (fun e => ?_), h3⟩
      obtain ⟨_, o, ho, hc⟩ := hr Bx e.symm
      rw [show X.heap[Bx]? = _ from h2] at ho
      injection ho with ho
      subst ho
      cases hc)
    ?assign ?body ?done ?stop
  case assign =>
    intro l pre x W K hI hK
    gi_wp2
    have g := World.grownBy_alloc W (.cells #[.int .i64 x.2.k, .int .u8 x.2.wh, .int .u8 x.2.st, .int .i64 x.2.ad, .int .i64 x.2.ln, .int .i64 x.2.ar, .bool x.2.bad] 35) none
    exact hK _ _ ((KeepsOthers.alloc _ _).from _) (Qu.Kp.of_grown g (fun i hi => ⟨Nat.lt_of_lt_of_le (hP i hi).1 hI.ks.size, by simp⟩)) ((Qu.BI.own hnb).alloc _ hI) ⟨W.heap.size, hI.ks.size, Blk.new W _ _, rfl⟩
  case body =>
    rintro l pre x a' W hl ⟨r, hr⟩ hI ⟨Bx, hBx, bX, rfl⟩ hlt2
    unfold Qu.cs at bX ⊢
    have x6 : W.cell? ⟨Bx, 6, none⟩ = some (.bool x.2.bad) := bX.cell 6
    have y8 : W.cell? ⟨w.heap.size, 0, none⟩ = some (.int .i64 (Qu.cntP pre : Int)) := hI.b.cell 0
    have f8 := hI.b.free 0
    rcases Bool.eq_false_or_eq_true x.2.bad with hb | hb
    · rw [hb] at x6
      gi_wp2
      exact ⟨KeepsFrom.refl _ _, Qu.Kp.refl _ _, hI.same x hb⟩
    · rw [hb] at x6
      obtain ⟨s1, s2, s3⟩ := hI.more hnb x hb
      have S1 := Lib.hid s1
      have S2 := Lib.hid s2
      have S3 := Lib.hid (s3 _ hP)
      have hc := Qu.cntP_len pre
      have i0 : (0 : Int) ≤ (Qu.cntP pre : Int) := by omega
      have i1 : (Qu.cntP pre : Int) < 17 := by omega
      obtain ⟨cc, hcc⟩ : ∃ cc, Qu.cntP pre = cc := ⟨_, rfl⟩
      rw [hcc] at y8 S1 S2 S3 i0 i1
      have hw : IntKind.i64.wrap ((cc : Int) + 1) = (cc : Int) + 1 := by rw [IntKind.wrap_i64]; omega
      clear s1 s2 s3 hc hcc
      gi_wp2
      exact ⟨S2.out, S3.out, S1.out⟩
  case done =>
    rintro Db xs W hDb rfl hI hK
    have y3 : W.cell? ⟨w.heap.size, 0, none⟩ = some (.int .i64 (Qu.cntP (Qu.placed L L.length) : Int)) := hI.b.cell 0
    rw [Qu.cntP_placed] at y3
    have HI := Lib.hid hI
    have HKD := Lib.hid hK
    have HG3 := Lib.hid g3
    clear hI hK
    gi_wp2
    refine ⟨by simp, .inl ⟨_, _, rfl, run_takeDeferred HKD.out, ?_⟩⟩
    refine ⟨_, results_tmp rfl _ _ _, rfl, ?_⟩
    exact Qu.three HG3.out HI.out.ks (grownBy_putObj' _ _ _) (Nat.le_refl _) hDb
  case stop =>
    rintro Db c pre W hDb hk hs hK
    exact hs.elim
end Go.Proofs.Ytkiifafocmjfkaa

/- A region that draws its order, and whose last operation waits for all others, some of them by way of others; see HE. No program is spoken of here. -/
namespace Go.Proofs.Ytkiifafocmjfkaa
open Go
set_option linter.unusedVariables false

section
variable {P : Program} {ops : Array Oper} {md : Region.Mode} {Q : Exit → Act → World → Prop} {S : World → Prop} {n : Nat}
/-- What the law asks of the region's form: no guards; each operation but the last has one that waits for it. -/
def endsB2 (md : Region.Mode) (ops : Array Oper) (n : Nat) : Bool :=
  decide (ops.size = n + 1) && ((List.range (n + 1)).all fun i => match ops[i]? with
    | none => true
    | some o => o.guard.isNone && (o.after.all fun e => decide (e.on < i))) &&
  (List.range n).all fun j => (List.range (n + 1)).any fun k => decide (j < k) && match ops[k]? with
    | none => false
    | some o => o.after.any fun e => Region.binds md e && decide (e.on = j)
theorem endsB2_spec (h : endsB2 md ops n = true) : ops.size = n + 1 ∧ (∀ (i : Nat) (o : Oper), ops[i]? = some o → o.guard = none) ∧ (∀ (i : Nat) (o : Oper), ops[i]? = some o → ∀ e ∈ o.after, e.on < i) ∧ ∀ j, j < n → ∃ k o, j < k ∧ k ≤ n ∧ ops[k]? = some o ∧ ∃ e ∈ o.after, Region.binds md e = true ∧ e.on = j := by
  unfold endsB2 at h
  rw [Bool.and_eq_true, Bool.and_eq_true, List.all_eq_true, List.all_eq_true] at h
  obtain ⟨⟨h1, h2⟩, h3⟩ := h
  have hz : ops.size = n + 1 := by simpa using h1
  have key : ∀ (i : Nat) (o : Oper), ops[i]? = some o → (o.guard.isNone && (o.after.all fun e => decide (e.on < i))) = true := fun i o ho => by
    have hi : i < ops.size := (Array.getElem?_eq_some_iff.1 ho).1
    have := h2 i (by rw [List.mem_range]; omega)
    rwa [ho] at this
  refine ⟨hz, fun i o ho => ?_, fun i o ho e he => ?_, fun j hj => ?_⟩
  · have := key i o ho
    simp only [Bool.and_eq_true] at this
    simpa using this.1
  · have := key i o ho
    simp only [Bool.and_eq_true] at this
    have := this.2
    rw [Array.all_eq_true_iff_forall_mem] at this
    simpa using this e he
  · have := h3 j (by simpa using hj)
    rw [List.any_eq_true] at this
    obtain ⟨k, hk, hb⟩ := this
    simp only [Bool.and_eq_true, decide_eq_true_eq] at hb
    obtain ⟨hjk, hb⟩ := hb
    cases ho : ops[k]? with
    | none => rw [ho] at hb; cases hb
    | some o =>
      rw [ho] at hb
      obtain ⟨q, hq, hb⟩ := Array.any_eq_true.1 hb
      simp only [Bool.and_eq_true, decide_eq_true_eq] at hb
      exact ⟨k, o, hjk, by have := List.mem_range.1 hk; omega, ho, _, Array.getElem_mem hq, hb⟩
/-- What has come up had all come up that it waits for. -/
def DownC (md : Region.Mode) (ops : Array Oper) (listed : Array Bool) : Prop := ∀ (i : Nat) (o : Oper), ops[i]? = some o → listed.getD i true = true → ∀ e ∈ o.after, Region.binds md e = true → listed.getD e.on false = true
theorem DownC.set {listed : Array Bool} {i : Nat} (h : DownC md ops listed) (hi : i ∈ Region.ready md ops listed) : DownC md ops (listed.setIfInBounds i true) := fun j o ho hj e hm hb => by
  obtain ⟨k1, o', ho', k2⟩ := mem_ready.1 hi
  by_cases he : i = j
  · subst he
    rw [ho] at ho'
    injection ho' with ho'
    subst ho'
    exact getD_set_true (k2 e hm hb)
  · rw [getD_set_ne true he] at hj
    exact getD_set_true (h j o ho hj e hm hb)
theorem last_all (hz : ops.size = n + 1) (hsucc : ∀ j, j < n → ∃ k o, j < k ∧ k ≤ n ∧ ops[k]? = some o ∧ ∃ e ∈ o.after, Region.binds md e = true ∧ e.on = j) {listed : Array Bool} (hl : listed.size = n + 1) (hd : DownC md ops listed) (hr : n ∈ Region.ready md ops listed) : ∀ m j, n - j = m → j < n → listed.getD j false = true := by
  intro m
  induction m using Nat.strongRecOn with
  | ind m ih =>
    intro j hm hj
    obtain ⟨k, o, hjk, hkn, ho, e, he, hb, rfl⟩ := hsucc j hj
    by_cases hk : k = n
    · subst hk
      obtain ⟨_, o', ho', k2⟩ := mem_ready.1 hr
      rw [ho] at ho'
      injection ho' with ho'
      subst ho'
      exact k2 e he hb
    · have hkl := ih (n - k) (by omega) k rfl (by omega)
      exact hd k o ho (by rw [getD_same (by omega)]; exact hkl) e he hb
theorem wpAny_ends2 (hB : endsB2 md ops n = true) : ∀ (fuel : Nat) (listed : Array Bool) (a : Act) (w : World), listed.size = n + 1 → listed.getD n true = false → DownC md ops listed → wpAnyH P md ops.pop (Ends P ops Q n) S fuel listed.pop a w → wpAny P md ops Q (fuel + 1) listed a w
  | 0, listed, a, w, hl, hn, hd, h => by
    obtain ⟨hz, hg, he, hlast⟩ := endsB2_spec hB
    exact ends_done hz he (all_but hz he hl hn h.1) h.2 0
  | fuel + 1, listed, a, w, hl, hn, hd, h => by
    obtain ⟨hz, hg, he, hlast⟩ := endsB2_spec hB
    by_cases h0 : Region.ready md ops.pop listed.pop = []
    · exact ends_done hz he (all_but hz he hl hn h0) (h.1 h0) (fuel + 1)
    · have hlow : ∀ i, i ∈ Region.ready md ops listed → i < n := fun i hi => by
        obtain ⟨k1, o, ho, k2⟩ := mem_ready.1 hi
        have hio : i < ops.size := (Array.getElem?_eq_some_iff.1 ho).1
        refine Classical.byContradiction fun hne => h0 ?_
        have hin : i = n := by omega
        subst hin
        refine List.eq_nil_iff_forall_not_mem.2 fun j hj => ?_
        have hjn : j < i := by
          obtain ⟨_, o', ho', _⟩ := mem_ready.1 hj
          have := (Array.getElem?_eq_some_iff.1 ho').1
          simp at this
          omega
        have h9 := last_all hz hlast hl hd hi _ j rfl hjn
        have h8 := (mem_ready.1 ((ready_pop hz he hl hjn).2 hj)).1
        rw [getD_same (by omega)] at h8
        rw [h8] at h9
        cases h9
      refine ⟨fun h1 => ?_, fun i hi => ?_⟩
      · exfalso
        refine h0 (List.eq_nil_iff_forall_not_mem.2 fun j hj => ?_)
        have hjn : j < n := by
          obtain ⟨_, o', ho', _⟩ := mem_ready.1 hj
          have := (Array.getElem?_eq_some_iff.1 ho').1
          simp at this
          omega
        have := (ready_pop hz he hl hjn).2 hj
        rw [h1] at this
        cases this
      · have hin := hlow i hi
        have h2 := h.2 i ((ready_pop hz he hl hin).1 hi)
        refine wpOp_mono (fun a' w' h3 => ?_) (wpOp_pop hz hg hin h2)
        refine wpAny_ends2 hB fuel _ a' w' (by simpa using hl) (by rw [getD_set_ne true (by omega)]; exact hn) (hd.set hi) ?_
        have : (listed.setIfInBounds i true).pop = listed.pop.setIfInBounds i true := by
          apply Array.ext_getElem?
          intro k
          simp only [Array.getElem?_pop, Array.getElem?_setIfInBounds, Array.size_pop, Array.size_setIfInBounds]
          by_cases hk : i = k
          · subst hk
            have q1 : i < listed.size := by omega
            have q2 : i < listed.size - 1 := by omega
            simp [q1, q2]
          · simp [hk]
        rw [this]
        exact h3.2
theorem wp_region_ends2 {id : Nat} {a : Act} {w : World} {l : List Oper} (n : Nat) (S : World → Prop) (hm : P.follows .mixedOrders = true) (hB : endsB2 .any l.toArray n = true) (hS : S w.drew)
    (h : S w.drew → wpAnyH P .any (l.take n).toArray (Ends P l.toArray Q n) S n (Array.replicate n false) a w.drew) : (Code.region id l.toArray true).wp P Q a w := by
  obtain ⟨hz, hg, he, hlast⟩ := endsB2_spec hB
  refine wp_region_any hm ?_
  rw [hz]
  refine wpAny_ends2 (S := S) hB n (Array.replicate (n + 1) false) a _ (by simp) (by simp [Array.getD]) (fun i o ho hl => ?_) ?_
  · have hio : i < l.toArray.size := (Array.getElem?_eq_some_iff.1 ho).1
    have : i < n + 1 := by omega
    simp [Array.getD, this] at hl
  · have h1 : l.toArray.pop = (l.take n).toArray := by
      have hz' : l.length = n + 1 := by simpa using hz
      rw [List.pop_toArray, List.dropLast_eq_take, hz']
      rfl
    have h2 : (Array.replicate (n + 1) false).pop = Array.replicate n false := by simp
    rw [h1, h2]
    exact h hS
end
end Go.Proofs.Ytkiifafocmjfkaa

/- The document's queue, by contract: what is put, and what is done. -/
namespace Go.Proofs.Ytkiifafocmjfkaa
open Go.RowKit Go.Lib
set_option linter.unusedVariables false
set_option maxRecDepth 8000

/-- A request that is not done, as1 the document has it. -/
def Qu.nd (x : Qu.It) : Qu.Cl := ⟨x, 0, 0⟩
theorem Qu.r_info : (Try.prog.info? 62).map (fun i => (i.zero, i.size, i.bytes)) = some (some (.agg #[.int .i64 0, .int .u8 0, .int .u8 0, .int .i64 0, .int .i64 0, .int .i64 0, .bool false, .int .i64 0, .int .i64 0]), 9, 64) := by kernel_rfl
theorem Qu.box1 (w : World) (t : TypeId) (cs : Array Value) : ∃ W, W = w.alloc (.cells cs t) ∧ w.grownBy W none ∧ Blk W w.heap.size t cs ∧ W.heap.size = w.heap.size + 1 := ⟨_, rfl, only_alloc (only_refl _ none) _, Blk.new w t cs, by simp⟩
theorem Qu.grow_of {W W' : World} (b : Below W.heap.size W W') : W.grownBy W' none := ⟨b.os, b.tape, b.output, b.size, fun i hi _ => b.block i hi⟩
theorem Qu.putn {w W : World} (h : w.grownBy W none) {p : Addr} (hp : w.heap.size ≤ p.block) (v : Value) : w.grownBy (W.setCell p v) none := ⟨h.os, h.tape, h.output, by simpa using h.size, fun k hk hn => (Below.heap_setCell W p v k (by omega)).trans (h.block k hk hn)⟩
/-- The rows of the document's queue. -/
structure Qu.Dr (w : World) (v1 v2 : Value) (L : List Qu.It) (D : List Qu.Cl) : Prop where
  r1 : RowZ 9 w v1 L.length (Fc.L (L.map Qu.nd))
  r2 : RowZ 9 w v2 D.length (Fc.L D)
def Qu.Do (v1 v2 : Value) (i : Nat) : Prop := v1.ownBlock = some i ∨ v2.ownBlock = some i
section
variable {w w' : World} {v1 v2 : Value} {L : List Qu.It} {D : List Qu.Cl}
theorem Qu.Dr.grown (h : Qu.Dr w v1 v2 L D) (g : w.grownBy w' none) : Qu.Dr w' v1 v2 L D := ⟨h.r1.grown g, h.r2.grown g⟩
theorem Qu.Dr.lt (h : Qu.Dr w v1 v2 L D) : ∀ i, Qu.Do v1 v2 i → i < w.heap.size := fun i hi => hi.elim (h.r1.lt i) (h.r2.lt i)
theorem Qu.Dr.keeps {S : Nat → Prop} (h : Qu.Dr w v1 v2 L D) (k : Keeps S w w') (hn : ∀ i, Qu.Do v1 v2 i → ¬ S i) : Qu.Dr w' v1 v2 L D := ⟨h.r1.keeps k fun i hi => hn i (.inl hi), h.r2.keeps k fun i hi => hn i (.inr hi)⟩
end
/-- What a call of the document's answers: a queue; its rows were there or are new. -/
def Qu.DV (w : World) (v1 v2 : Value) (L : List Qu.It) (D : List Qu.Cl) (lim : Nat) (mk : Value → Value) (e : Ending) (w' : World) : Prop :=
  ∃ A c A2 c2, e = .returned (mk (.agg #[.slice A L.length c, .slice A2 D.length c2, .int .i64 lim])) ∧ Qu.Dr w' (.slice A L.length c) (.slice A2 D.length c2) L D ∧ w.grownBy w' none ∧ ∀ i, Qu.Do (.slice A L.length c) (.slice A2 D.length c2) i → Qu.Do v1 v2 i ∨ w.heap.size ≤ i
theorem Qu.cl_one (l : List Qu.Cl) : ∀ u ∈ Fc.L l, u.oneCell' = true := Fc.L_cell l
set_option maxRecDepth 20000 in
set_option maxHeartbeats 6400000 in
theorem Qu.rput_yes (A A2 : Option Addr) (c c2 lim : Nat) (L : List Qu.It) (D : List Qu.Cl) (x : Qu.It) (w : World) (h : Qu.Dr w (.slice A L.length c) (.slice A2 D.length c2) L D) (hlt : L.length + D.length < lim) (hl : lim ≤ 16) : Calls Try.prog 22 #[.agg #[.slice A L.length c, .slice A2 D.length c2, .int .i64 lim], .agg #[.int .i64 x.k, .int .u8 x.wh, .int .u8 x.st, .int .i64 x.ad, .int .i64 x.ln, .int .i64 x.ar, .bool x.bad, .int .i64 0, .int .i64 0]] w (Qu.DV w (.slice A L.length c) (.slice A2 D.length c2) (L ++ [x]) D lim (fun v => .tuple #[v, .bool true])) := by
  obtain ⟨W1, hW1, G1, P1, Z1⟩ := Qu.box1 w 27 #[.slice A L.length c, .slice A2 D.length c2, .int .i64 lim]
  obtain ⟨W2, hW2, G2, P2, Z2⟩ := Qu.box1 W1 62 #[.int .i64 x.k, .int .u8 x.wh, .int .u8 x.st, .int .i64 x.ad, .int .i64 x.ln, .int .i64 x.ar, .bool x.bad, .int .i64 0, .int .i64 0]
  obtain ⟨wx, hwx, G3, P3, Z3⟩ := Qu.box1 W2 27 #[.slice none 0 0, .slice none 0 0, .int .i64 0]
  rw [Z1] at P2
  rw [Z2, Z1] at P3
  have G := only_trans G1 (only_trans G2 G3)
  have PB := Lib.hid ((P1.only G2 (by simp)).only G3 (by simp))
  have IB := Lib.hid (P2.only G3 (by simp))
  have RB := Lib.hid P3
  have GX := Lib.hid G
  have HH := Lib.hid h
  have ROWX := Lib.hid (h.grown G)
  have hlt0 : ∀ i, Qu.Do (.slice A L.length c) (.slice A2 D.length c2) i → i < w.heap.size := h.lt
  have HLT := Lib.hid hlt0
  obtain ⟨n, hn⟩ : ∃ n, L.length = n := ⟨_, rfl⟩
  obtain ⟨n2, hn2⟩ : ∃ n2, D.length = n2 := ⟨_, rfl⟩
  have HN1 := Lib.hid (show (L ++ [x]).length = n + 1 by simp [hn])
  have HN2 := Lib.hid hn2
  have HLN := Lib.hid hn
  rw [hn, hn2] at PB ROWX hW1 HH HLT
  rw [hn, hn2]
  have i1 : ¬ (lim : Int) ≤ (n : Int) + (n2 : Int) := by omega
  have u1 : IntKind.i64.wrap ((n : Int) + (n2 : Int)) = (n : Int) + (n2 : Int) := by rw [IntKind.wrap_i64]; omega
  have HM := Lib.hid (show n ≤ 16 by omega)
  clear G1 G2 G3 P1 P2 P3 Z1 Z2 Z3 G h hlt hl hlt0 hn hn2
  obtain ⟨c0, c1, c2'⟩ : wx.cell? ⟨w.heap.size, 0, none⟩ = some (.slice A n c) ∧ wx.cell? ⟨w.heap.size, 1, none⟩ = some (.slice A2 n2 c2) ∧ wx.cell? ⟨w.heap.size, 2, none⟩ = some (.int .i64 lim) := ⟨PB.out.cell 0, PB.out.cell 1, PB.out.cell 2⟩
  go_enter Try.func22, Try.ntmps22
  go_upto_region 1 with (fail)
  rw [← hW1, ← hW2, ← hwx]
  clear hW1 hW2 hwx
  go_upto_region 3 with (fail)
  clear c0 c1 c2' i1 u1
  obtain ⟨i0, hi0, hz0, hz1, hz2⟩ := info_parts Qu.r_info
  obtain ⟨⟨aA, cA, WA, dA, eA, XA, kA, yA, mA, zA⟩, ⟨aB, cB, WB, dB, eB, XB, kB, yB, mB, zB⟩, ⟨aC, cC, WC, dC, eC, XC, kC, yC, mC, zC⟩⟩ := Zz.three (P := Try.prog) (ty := 25) Try.underlying25 hi0 hz0 hz1 hz2 (by omega) rfl wx n _ (Fc.L (L.map Qu.nd)) #[.int .i64 x.k, .int .u8 x.wh, .int .u8 x.st, .int .i64 x.ad, .int .i64 x.ln, .int .i64 x.ar, .bool x.bad, .int .i64 0, .int .i64 0] (by have := ROWX.out.r1; rw [HLN.out] at this; exact this) (Qu.cl_one _) (by have := HM.out; omega) rfl (Fc.C_cell ⟨x, 0, 0⟩)
  have KA := Lib.hid kA
  have KB := Lib.hid kB
  have KC := Lib.hid kC
  have MA := Lib.hid mA
  have MB := Lib.hid mB
  have MC := Lib.hid mC
  have YA := Lib.hid yA
  have YB := Lib.hid yB
  have YC := Lib.hid yC
  have ZA := Lib.hid zA
  have ZB := Lib.hid zB
  have ZC := Lib.hid zC
  have SX : Hid (∀ W, Below wx.heap.size wx W → W.cell? ⟨w.heap.size, 0, none⟩ = some (.slice A n c) ∧ W.cell? ⟨w.heap.size + 1, 0, none⟩ = some (.int .i64 x.k) ∧ W.cell? ⟨w.heap.size + 1, 1, none⟩ = some (.int .u8 x.wh) ∧ W.cell? ⟨w.heap.size + 1, 2, none⟩ = some (.int .u8 x.st) ∧ W.cell? ⟨w.heap.size + 1, 3, none⟩ = some (.int .i64 x.ad) ∧ W.cell? ⟨w.heap.size + 1, 4, none⟩ = some (.int .i64 x.ln) ∧ W.cell? ⟨w.heap.size + 1, 5, none⟩ = some (.int .i64 x.ar) ∧ W.cell? ⟨w.heap.size + 1, 6, none⟩ = some (.bool x.bad) ∧ W.cell? ⟨w.heap.size + 1, 7, none⟩ = some (.int .i64 0) ∧ W.cell? ⟨w.heap.size + 1, 8, none⟩ = some (.int .i64 0)) := Lib.hid fun W hb => by
    have q := PB.out.below hb PB.out.lt
    have q2 := IB.out.below hb IB.out.lt
    exact ⟨q.cell 0, q2.cell 0, q2.cell 1, q2.cell 2, q2.cell 3, q2.cell 4, q2.cell 5, q2.cell 6, q2.cell 7, q2.cell 8⟩
  have hrl := RB.out.lt
  have DONE : Hid (∀ (W : World) (v : Value), Zz.Fin 9 wx n (Fc.L (L.map Qu.nd)) #[.int .i64 x.k, .int .u8 x.wh, .int .u8 x.st, .int .i64 x.ad, .int .i64 x.ln, .int .i64 x.ar, .bool x.bad, .int .i64 0, .int .i64 0].toList v W → ((((W.setCell ⟨w.heap.size, 0, none⟩ v).setCell ⟨(w.heap.size + 1 + 1), 0, none⟩ (v)).setCell ⟨(w.heap.size + 1 + 1), 1, none⟩ (.slice A2 n2 c2)).setCell ⟨(w.heap.size + 1 + 1), 2, none⟩ (.int .i64 lim)).cell? ⟨(w.heap.size + 1 + 1), 0, none⟩ = some v ∧ ((((W.setCell ⟨w.heap.size, 0, none⟩ v).setCell ⟨(w.heap.size + 1 + 1), 0, none⟩ (v)).setCell ⟨(w.heap.size + 1 + 1), 1, none⟩ (.slice A2 n2 c2)).setCell ⟨(w.heap.size + 1 + 1), 2, none⟩ (.int .i64 lim)).cell? ⟨(w.heap.size + 1 + 1), 1, none⟩ = some (.slice A2 n2 c2) ∧ ((((W.setCell ⟨w.heap.size, 0, none⟩ v).setCell ⟨(w.heap.size + 1 + 1), 0, none⟩ (v)).setCell ⟨(w.heap.size + 1 + 1), 1, none⟩ (.slice A2 n2 c2)).setCell ⟨(w.heap.size + 1 + 1), 2, none⟩ (.int .i64 lim)).cell? ⟨(w.heap.size + 1 + 1), 2, none⟩ = some (.int .i64 lim) ∧ Qu.Dr ((((W.setCell ⟨w.heap.size, 0, none⟩ v).setCell ⟨(w.heap.size + 1 + 1), 0, none⟩ (v)).setCell ⟨(w.heap.size + 1 + 1), 1, none⟩ (.slice A2 n2 c2)).setCell ⟨(w.heap.size + 1 + 1), 2, none⟩ (.int .i64 lim)) v (.slice A2 n2 c2) (L ++ [x]) D ∧ w.grownBy ((((W.setCell ⟨w.heap.size, 0, none⟩ v).setCell ⟨(w.heap.size + 1 + 1), 0, none⟩ (v)).setCell ⟨(w.heap.size + 1 + 1), 1, none⟩ (.slice A2 n2 c2)).setCell ⟨(w.heap.size + 1 + 1), 2, none⟩ (.int .i64 lim)) none ∧ ∀ i, Qu.Do v (.slice A2 n2 c2) i → Qu.Do (.slice A n c) (.slice A2 n2 c2) i ∨ w.heap.size ≤ i) := Lib.hid fun W v h => by
    obtain ⟨h1, h2, h3, _⟩ := h
    have hb := only_trans GX.out (Qu.grow_of h2)
    have q := RB.out.below h2 RB.out.lt
    have hs := GX.out.size
    have n1 : ∀ b, b < wx.heap.size → v.ownBlock ≠ some b := fun b hb e => by have := h3 _ e; omega
    have n2' : ∀ b, w.heap.size ≤ b → (Value.slice A2 n2 c2).ownBlock ≠ some b := fun b hb e => by have := HLT.out b (.inr e); omega
    have b3 := (((q.far (p := ⟨w.heap.size, 0, none⟩) (by show w.heap.size + 1 + 1 ≠ w.heap.size; omega) v).put 0 v).put 1 (.slice A2 n2 c2)).put 2 (.int .i64 lim)
    have r2 : RowZ 9 W (.slice A2 n2 c2) n2 (Fc.L D) := by
      have := ROWX.out.r2
      rw [HN2.out] at this
      exact this.grown (Qu.grow_of h2)
    have hL : Fc.L (L.map Qu.nd) ++ #[.int .i64 x.k, .int .u8 x.wh, .int .u8 x.st, .int .i64 x.ad, .int .i64 x.ln, .int .i64 x.ar, .bool x.bad, .int .i64 0, .int .i64 0].toList = Fc.L ((L ++ [x]).map Qu.nd) := by rw [List.map_append, Fc.L_app]; rfl
    rw [hL] at h1
    refine ⟨b3.cell 0, b3.cell 1, b3.cell 2, ⟨?_, ?_⟩, ?_, ?_⟩
    · rw [HN1.out]
      exact (((h1.put (p := ⟨w.heap.size, 0, none⟩) (n1 _ (by show w.heap.size < _; omega)) _).put (p := ⟨(w.heap.size + 1 + 1), 0, none⟩) (n1 _ hrl) _).put (p := ⟨(w.heap.size + 1 + 1), 1, none⟩) (n1 _ hrl) _).put (p := ⟨(w.heap.size + 1 + 1), 2, none⟩) (n1 _ hrl) _
    · rw [HN2.out]
      exact (((r2.put (p := ⟨w.heap.size, 0, none⟩) (n2' _ (Nat.le_refl _)) _).put (p := ⟨(w.heap.size + 1 + 1), 0, none⟩) (n2' _ (by show w.heap.size ≤ w.heap.size + 1 + 1; omega)) _).put (p := ⟨(w.heap.size + 1 + 1), 1, none⟩) (n2' _ (by show w.heap.size ≤ w.heap.size + 1 + 1; omega)) _).put (p := ⟨(w.heap.size + 1 + 1), 2, none⟩) (n2' _ (by show w.heap.size ≤ w.heap.size + 1 + 1; omega)) _
    · exact Qu.putn (Qu.putn (Qu.putn (Qu.putn hb (Nat.le_refl _) _) (by show w.heap.size ≤ w.heap.size + 1 + 1; omega) _) (by show w.heap.size ≤ w.heap.size + 1 + 1; omega) _) (by show w.heap.size ≤ w.heap.size + 1 + 1; omega) _
    · exact fun i hi => hi.elim (fun e => .inr (by have := h3 _ e; omega)) (fun e => .inl (.inr e))
  clear hrl kA kB kC mA mB mC yA yB yC zA zB zC hi0 hz0 hz1 hz2
  have b0 : Below wx.heap.size wx wx := Below.refl _ _
  have bE := below_drewN (b0.alloc (by simp) (.cells #[] 62)) 1
  have bF := below_drewN (b0.alloc (by simp) (.cells #[.int .i64 x.k, .int .u8 x.wh, .int .u8 x.st, .int .i64 x.ad, .int .i64 x.ln, .int .i64 x.ar, .bool x.bad, .int .i64 0, .int .i64 0] 62)) 1
  have bEF := below_drewN ((b0.alloc (by simp) (.cells #[] 62)).alloc (by simp) (.cells #[.int .i64 x.k, .int .u8 x.wh, .int .u8 x.st, .int .i64 x.ad, .int .i64 x.ln, .int .i64 x.ar, .bool x.bad, .int .i64 0, .int .i64 0] 62)) 1
  have bFE := below_drewN ((b0.alloc (by simp) (.cells #[.int .i64 x.k, .int .u8 x.wh, .int .u8 x.st, .int .i64 x.ad, .int .i64 x.ln, .int .i64 x.ar, .bool x.bad, .int .i64 0, .int .i64 0] 62)).alloc (by simp) (.cells #[] 62)) 1
  have bWAF := YA.out.alloc YA.out.size (.cells #[.int .i64 x.k, .int .u8 x.wh, .int .u8 x.st, .int .i64 x.ad, .int .i64 x.ln, .int .i64 x.ar, .bool x.bad, .int .i64 0, .int .i64 0] 62)
  refine wp_region_ends 8 (fun w' => w'.cell? ⟨w.heap.size, 0, none⟩ = some (.slice A n c) ∧ w'.cell? ⟨w.heap.size + 1, 0, none⟩ = some (.int .i64 x.k) ∧ w'.cell? ⟨w.heap.size + 1, 1, none⟩ = some (.int .u8 x.wh) ∧ w'.cell? ⟨w.heap.size + 1, 2, none⟩ = some (.int .u8 x.st) ∧ w'.cell? ⟨w.heap.size + 1, 3, none⟩ = some (.int .i64 x.ad) ∧ w'.cell? ⟨w.heap.size + 1, 4, none⟩ = some (.int .i64 x.ln) ∧ w'.cell? ⟨w.heap.size + 1, 5, none⟩ = some (.int .i64 x.ar) ∧ w'.cell? ⟨w.heap.size + 1, 6, none⟩ = some (.bool x.bad) ∧ w'.cell? ⟨w.heap.size + 1, 7, none⟩ = some (.int .i64 0) ∧ w'.cell? ⟨w.heap.size + 1, 8, none⟩ = some (.int .i64 0)) (by kernel_rfl) (by kernel_rfl) (SX.out _ (below_drewN b0 1)) (fun hHeld => ?_)
  simp only [List.take_succ_cons, List.take_zero]
  refine wpAnyH_take (i := 1) (oi := _) (v := ?_) rfl (by kernel_rfl) (by kernel_rfl) (by kernel_rfl) (fun _ _ _ h => h) (Or.inl ⟨by rfl, ?_⟩) (by assumption) ?_
  case refine_2 => intro w hSw; (try dsimp only at hSw); go_simp; try with_reducible rfl
  try simp only [Act.put, List.setIfInBounds_toArray, List.set_cons_zero, List.set_cons_succ]
  refine wpAnyH_take (i := 2) (oi := _) (v := ?_) rfl (by kernel_rfl) (by kernel_rfl) (by kernel_rfl) (fun _ _ _ h => h) (Or.inl ⟨by rfl, ?_⟩) (by assumption) ?_
  case refine_2 => intro w hSw; (try dsimp only at hSw); go_simp; try with_reducible rfl
  try simp only [Act.put, List.setIfInBounds_toArray, List.set_cons_zero, List.set_cons_succ]
  refine wpAnyH_take (i := 4) (oi := _) (v := ?_) rfl (by kernel_rfl) (by kernel_rfl) (by kernel_rfl) (fun _ _ _ h => h) (Or.inl ⟨by rfl, ?_⟩) (by assumption) ?_
  case refine_2 => intro w hSw; (try dsimp only at hSw); go_simp; try with_reducible rfl
  try simp only [Act.put, List.setIfInBounds_toArray, List.set_cons_zero, List.set_cons_succ]
  refine wpAnyH_ready (rs := [0, 5]) (by kernel_rfl) (by simp) ?_
  refine AllReadyH.cons (o := _) rfl (fun K hK => ?_) ?_
  · skip
    go_simp
    refine hK.out _ _ (SX.out _ bE) (fun hHeld => ?_)
    clear hK K
    try simp only [Act.put, List.setIfInBounds_toArray, List.set_cons_zero, List.set_cons_succ]
    refine wpAnyH_ready (rs := [3, 5]) (by kernel_rfl) (by simp) ?_
    refine AllReadyH.cons (o := _) rfl (fun K hK => ?_) ?_
    · skip
      refine Zz.step_app rfl (.tmp 17) (.tmp 19) 25 rfl KA.out rfl rfl ?_
      refine hK.out _ _ (SX.out _ YA.out) (fun hHeld => ?_)
      clear hK K
      try simp only [Act.put, List.setIfInBounds_toArray, List.set_cons_zero, List.set_cons_succ]
      refine wpAnyH_ready (rs := [5]) (by kernel_rfl) (by simp) ?_
      refine AllReadyH.cons (o := _) rfl (fun K hK => ?_) AllReadyH.nil
      go_simp
      refine hK.out _ _ (SX.out _ bWAF) (fun hHeld => ?_)
      clear hK K
      try simp only [Act.put, List.setIfInBounds_toArray, List.set_cons_zero, List.set_cons_succ]
      refine wpAnyH_ready (rs := [6]) (by kernel_rfl) (by simp) ?_
      refine AllReadyH.cons (o := _) rfl (fun K hK => ?_) AllReadyH.nil
      refine Zz.step_app rfl (.tmp 20) (.tmp 22) 25 rfl MA.out rfl rfl ?_
      refine hK.out _ _ (SX.out _ ZA.out.2.1) (fun hHeld => ?_)
      clear hK K
      try simp only [Act.put, List.setIfInBounds_toArray, List.set_cons_zero, List.set_cons_succ]
      refine wpAnyH_ready (rs := [7]) (by kernel_rfl) (by simp) ?_
      refine AllReadyH.cons (o := _) rfl (fun K hK => ?_) AllReadyH.nil
      go_simp
      refine hK.out _ _ (SX.out _ ZA.out.2.1) (fun hHeld => ?_)
      clear hK K
      try simp only [Act.put, List.setIfInBounds_toArray, List.set_cons_zero, List.set_cons_succ]
      refine wpAnyH_done (by kernel_rfl) ?_ _
      have q := PB.out.below ZA.out.2.1 PB.out.lt
      have y0 := q.cell 0
      have y1 := q.cell 1
      have y2 := q.cell 2
      have u0 := q.free 0
      have q2 := RB.out.below ZA.out.2.1 RB.out.lt
      have r0 := q2.cell 0
      have r1 := q2.cell 1
      have r2 := q2.cell 2
      have v0 := q2.free 0
      have v1 := q2.free 1
      have v2 := q2.free 2
      clear q q2
      refine Ends.last rfl (fun K hK => ?_)
      go_simp
      refine hK.out _ _ ?_
      clear hK K
      go_wp2
      obtain ⟨z0, z1, z2, hfin⟩ := DONE.out _ _ ZA.out
      refine bodyPost_ret (v := .tuple #[.agg #[.slice dA (n + 1) eA, .slice A2 n2 c2, .int .i64 lim], .bool true]) (by simp [results, Try.results22, go_sem, z0, z1, z2]) rfl ?_
      exact ⟨dA, eA, A2, c2, by rw [HN1.out, HN2.out], by rw [HN1.out, HN2.out]; exact hfin⟩
    · skip
      refine AllReadyH.cons (o := _) rfl (fun K hK => ?_) AllReadyH.nil
      go_simp
      refine hK.out _ _ (SX.out _ bEF) (fun hHeld => ?_)
      clear hK K
      try simp only [Act.put, List.setIfInBounds_toArray, List.set_cons_zero, List.set_cons_succ]
      refine wpAnyH_ready (rs := [3]) (by kernel_rfl) (by simp) ?_
      refine AllReadyH.cons (o := _) rfl (fun K hK => ?_) AllReadyH.nil
      refine Zz.step_app rfl (.tmp 17) (.tmp 19) 25 rfl KB.out rfl rfl ?_
      refine hK.out _ _ (SX.out _ YB.out) (fun hHeld => ?_)
      clear hK K
      try simp only [Act.put, List.setIfInBounds_toArray, List.set_cons_zero, List.set_cons_succ]
      refine wpAnyH_ready (rs := [6]) (by kernel_rfl) (by simp) ?_
      refine AllReadyH.cons (o := _) rfl (fun K hK => ?_) AllReadyH.nil
      refine Zz.step_app rfl (.tmp 20) (.tmp 22) 25 rfl MB.out rfl rfl ?_
      refine hK.out _ _ (SX.out _ ZB.out.2.1) (fun hHeld => ?_)
      clear hK K
      try simp only [Act.put, List.setIfInBounds_toArray, List.set_cons_zero, List.set_cons_succ]
      refine wpAnyH_ready (rs := [7]) (by kernel_rfl) (by simp) ?_
      refine AllReadyH.cons (o := _) rfl (fun K hK => ?_) AllReadyH.nil
      go_simp
      refine hK.out _ _ (SX.out _ ZB.out.2.1) (fun hHeld => ?_)
      clear hK K
      try simp only [Act.put, List.setIfInBounds_toArray, List.set_cons_zero, List.set_cons_succ]
      refine wpAnyH_done (by kernel_rfl) ?_ _
      have q := PB.out.below ZB.out.2.1 PB.out.lt
      have y0 := q.cell 0
      have y1 := q.cell 1
      have y2 := q.cell 2
      have u0 := q.free 0
      have q2 := RB.out.below ZB.out.2.1 RB.out.lt
      have r0 := q2.cell 0
      have r1 := q2.cell 1
      have r2 := q2.cell 2
      have v0 := q2.free 0
      have v1 := q2.free 1
      have v2 := q2.free 2
      clear q q2
      refine Ends.last rfl (fun K hK => ?_)
      go_simp
      refine hK.out _ _ ?_
      clear hK K
      go_wp2
      obtain ⟨z0, z1, z2, hfin⟩ := DONE.out _ _ ZB.out
      refine bodyPost_ret (v := .tuple #[.agg #[.slice dB (n + 1) eB, .slice A2 n2 c2, .int .i64 lim], .bool true]) (by simp [results, Try.results22, go_sem, z0, z1, z2]) rfl ?_
      exact ⟨dB, eB, A2, c2, by rw [HN1.out, HN2.out], by rw [HN1.out, HN2.out]; exact hfin⟩
  · skip
    refine AllReadyH.cons (o := _) rfl (fun K hK => ?_) AllReadyH.nil
    go_simp
    refine hK.out _ _ (SX.out _ bF) (fun hHeld => ?_)
    clear hK K
    try simp only [Act.put, List.setIfInBounds_toArray, List.set_cons_zero, List.set_cons_succ]
    refine wpAnyH_ready (rs := [0]) (by kernel_rfl) (by simp) ?_
    refine AllReadyH.cons (o := _) rfl (fun K hK => ?_) AllReadyH.nil
    go_simp
    refine hK.out _ _ (SX.out _ bFE) (fun hHeld => ?_)
    clear hK K
    try simp only [Act.put, List.setIfInBounds_toArray, List.set_cons_zero, List.set_cons_succ]
    refine wpAnyH_ready (rs := [3]) (by kernel_rfl) (by simp) ?_
    refine AllReadyH.cons (o := _) rfl (fun K hK => ?_) AllReadyH.nil
    refine Zz.step_app rfl (.tmp 17) (.tmp 19) 25 rfl KC.out rfl rfl ?_
    refine hK.out _ _ (SX.out _ YC.out) (fun hHeld => ?_)
    clear hK K
    try simp only [Act.put, List.setIfInBounds_toArray, List.set_cons_zero, List.set_cons_succ]
    refine wpAnyH_ready (rs := [6]) (by kernel_rfl) (by simp) ?_
    refine AllReadyH.cons (o := _) rfl (fun K hK => ?_) AllReadyH.nil
    refine Zz.step_app rfl (.tmp 20) (.tmp 22) 25 rfl MC.out rfl rfl ?_
    refine hK.out _ _ (SX.out _ ZC.out.2.1) (fun hHeld => ?_)
    clear hK K
    try simp only [Act.put, List.setIfInBounds_toArray, List.set_cons_zero, List.set_cons_succ]
    refine wpAnyH_ready (rs := [7]) (by kernel_rfl) (by simp) ?_
    refine AllReadyH.cons (o := _) rfl (fun K hK => ?_) AllReadyH.nil
    go_simp
    refine hK.out _ _ (SX.out _ ZC.out.2.1) (fun hHeld => ?_)
    clear hK K
    try simp only [Act.put, List.setIfInBounds_toArray, List.set_cons_zero, List.set_cons_succ]
    refine wpAnyH_done (by kernel_rfl) ?_ _
    have q := PB.out.below ZC.out.2.1 PB.out.lt
    have y0 := q.cell 0
    have y1 := q.cell 1
    have y2 := q.cell 2
    have u0 := q.free 0
    have q2 := RB.out.below ZC.out.2.1 RB.out.lt
    have r0 := q2.cell 0
    have r1 := q2.cell 1
    have r2 := q2.cell 2
    have v0 := q2.free 0
    have v1 := q2.free 1
    have v2 := q2.free 2
    clear q q2
    refine Ends.last rfl (fun K hK => ?_)
    go_simp
    refine hK.out _ _ ?_
    clear hK K
    go_wp2
    obtain ⟨z0, z1, z2, hfin⟩ := DONE.out _ _ ZC.out
    refine bodyPost_ret (v := .tuple #[.agg #[.slice dC (n + 1) eC, .slice A2 n2 c2, .int .i64 lim], .bool true]) (by simp [results, Try.results22, go_sem, z0, z1, z2]) rfl ?_
    exact ⟨dC, eC, A2, c2, by rw [HN1.out, HN2.out], by rw [HN1.out, HN2.out]; exact hfin⟩
end Go.Proofs.Ytkiifafocmjfkaa
