import Derived.Test.YtkiifafocmjfkaaX11
import Derived.LoopTactic
import Derived.BigQuiet
import Derived.ShutString
import Derived.ChangeOld
import Derived.Lib.SmallJoins
set_option linter.all false
/- Forks of queues; a nil queue. -/
namespace Go.Proofs.Ytkiifafocmjfkaa
open Go.RowKit Go.Lib Go.Shelf
set_option linter.unusedVariables false
set_option maxRecDepth 20000
set_option maxHeartbeats 1600000

theorem Fi.fork_any {w : World} {b : Nat} {v : Value} {l : List Qu.It} {lim dr : Nat} (h : Fi.Que w b v l lim dr) (hn : l.length ≤ 1000) : Calls Try.prog 37 #[.pointer (some ⟨b, 0, none⟩)] w fun e w' => ∃ v', e = .returned (.pointer (some ⟨w.heap.size, 0, none⟩)) ∧ Fi.Que w' w.heap.size v' l lim dr ∧ w.grownBy w' none ∧ ∀ i, OwnQ w.heap.size v' i → w.heap.size ≤ i := by
  have c0 : w.cell? ⟨b, 0, none⟩ = some v := h.1.cell 0
  have c1 : w.cell? ⟨b, 1, none⟩ = some (.int .i64 lim) := h.1.cell 1
  have c2 : w.cell? ⟨b, 2, none⟩ = some (.int .i64 dr) := h.1.cell 2
  have hlt := h.1.lt
  have hR := h.2.1.alloc (.cells #[v, .int .i64 lim, .int .i64 dr] 78)
  have HC := Lib.hid (Fi.clone_any l v _ hR hn)
  have HB := Lib.hid (only_alloc (only_refl w none) (.cells #[v, .int .i64 lim, .int .i64 dr] 78))
  have NB := Lib.hid (Blk.new w 78 #[v, .int .i64 lim, .int .i64 dr])
  obtain ⟨A, c, hv⟩ := h.2.1.form
  obtain ⟨n, hnl⟩ : ∃ n, l.length = n := ⟨_, rfl⟩
  have HNL := Lib.hid hnl
  rw [hnl] at hv
  subst hv
  clear h hR hn hnl
  go_enter Try.func37, Try.ntmps37
  go_wp2_with (go_at_call 41; (with_reducible refine HC.out.mono ?_); rintro e w2 ⟨v2, rfl, r2, o2, g2⟩; rw [HNL.out] at r2; obtain ⟨A2, n2, hf⟩ := r2.form; subst hf; have B2 := NB.out.only g2 (by simp); have d0 := B2.cell 0; have e0 := B2.free 0; (try simp at d0); have R2 := Lib.hid r2; have O2 := Lib.hid o2; have BB2 := Lib.hid (only_trans HB.out g2); have BK2 := Lib.hid B2; clear r2 o2 g2 B2)
  go_ret
  have hos : ∀ i, (Value.slice A2 n n2).ownBlock = some i → w.heap.size + 1 ≤ i := fun i hi => by have := O2.out i hi; simpa using this
  have k := only_put (only_refl w2 (some w.heap.size)) 0 (.slice A2 n n2)
  refine ⟨.slice A2 n n2, rfl, ⟨?_, ?_, fun e => by have := hos _ e; omega⟩, ?_, ?_⟩
  · have q := BK2.out.put 0 (.slice A2 n n2)
    simpa using q
  · have := R2.out.only k (.inr (fun e => by have := hos _ e; omega))
    rw [HNL.out]
    exact this
  · exact Qu.grow_box BB2.out k (Nat.le_refl _)
  · rintro i (rfl | hi)
    · exact Nat.le_refl _
    · have := hos i hi
      omega
theorem Fc.fork_any {w : World} {b : Nat} {v : Value} {l : List Qu.Cl} {lim dr : Nat} (h : Fc.Que w b v l lim dr) (hn : l.length ≤ 1000) : Calls Try.prog 38 #[.pointer (some ⟨b, 0, none⟩)] w fun e w' => ∃ v', e = .returned (.pointer (some ⟨w.heap.size, 0, none⟩)) ∧ Fc.Que w' w.heap.size v' l lim dr ∧ w.grownBy w' none ∧ ∀ i, OwnQ w.heap.size v' i → w.heap.size ≤ i := by
  have c0 : w.cell? ⟨b, 0, none⟩ = some v := h.1.cell 0
  have c1 : w.cell? ⟨b, 1, none⟩ = some (.int .i64 lim) := h.1.cell 1
  have c2 : w.cell? ⟨b, 2, none⟩ = some (.int .i64 dr) := h.1.cell 2
  have hlt := h.1.lt
  have hR := h.2.1.alloc (.cells #[v, .int .i64 lim, .int .i64 dr] 80)
  have HC := Lib.hid (Fc.clone_any l v _ hR hn)
  have HB := Lib.hid (only_alloc (only_refl w none) (.cells #[v, .int .i64 lim, .int .i64 dr] 80))
  have NB := Lib.hid (Blk.new w 80 #[v, .int .i64 lim, .int .i64 dr])
  obtain ⟨A, c, hv⟩ := h.2.1.form
  obtain ⟨n, hnl⟩ : ∃ n, l.length = n := ⟨_, rfl⟩
  have HNL := Lib.hid hnl
  rw [hnl] at hv
  subst hv
  clear h hR hn hnl
  go_enter Try.func38, Try.ntmps38
  go_wp2_with (go_at_call 43; (with_reducible refine HC.out.mono ?_); rintro e w2 ⟨v2, rfl, r2, o2, g2⟩; rw [HNL.out] at r2; obtain ⟨A2, n2, hf⟩ := r2.form; subst hf; have B2 := NB.out.only g2 (by simp); have d0 := B2.cell 0; have e0 := B2.free 0; (try simp at d0); have R2 := Lib.hid r2; have O2 := Lib.hid o2; have BB2 := Lib.hid (only_trans HB.out g2); have BK2 := Lib.hid B2; clear r2 o2 g2 B2)
  go_ret
  have hos : ∀ i, (Value.slice A2 n n2).ownBlock = some i → w.heap.size + 1 ≤ i := fun i hi => by have := O2.out i hi; simpa using this
  have k := only_put (only_refl w2 (some w.heap.size)) 0 (.slice A2 n n2)
  refine ⟨.slice A2 n n2, rfl, ⟨?_, ?_, fun e => by have := hos _ e; omega⟩, ?_, ?_⟩
  · have q := BK2.out.put 0 (.slice A2 n n2)
    simpa using q
  · have := R2.out.only k (.inr (fun e => by have := hos _ e; omega))
    rw [HNL.out]
    exact this
  · exact Qu.grow_box BB2.out k (Nat.le_refl _)
  · rintro i (rfl | hi)
    · exact Nat.le_refl _
    · have := hos i hi
      omega
theorem Qu.nil_waits (w : World) : Calls Try.prog 18 #[.pointer none] w fun e w' => e = .returned (.int .i64 0) ∧ w = w' := by
  go_enter Try.func18, Try.ntmps18
  go_wp2
  go_ret
  exact ⟨rfl, rfl⟩
theorem Qu.nil_len (w : World) : Calls Try.prog 16 #[.pointer none] w fun e w' => e = .returned (.int .i64 0) ∧ w = w' := by
  go_enter Try.func16, Try.ntmps16
  go_wp2
  go_ret
  exact ⟨rfl, rfl⟩
theorem Qu.nil_settle (w : World) : Calls Try.prog 12 #[.pointer none] w fun e w' => e = .returned (.int .i64 0) ∧ w.grownBy w' none := by
  go_enter Try.func12, Try.ntmps12
  go_wp2
  go_ret
  exact ⟨rfl, only_alloc (only_refl _ none) _⟩
theorem Qu.nil_backlog (w : World) : Calls Try.prog 19 #[.pointer none] w fun e w' => e = .returned (.int .i64 0) ∧ w.grownBy w' none := by
  go_enter Try.func19, Try.ntmps19
  go_wp2
  go_ret
  exact ⟨rfl, only_refl _ none⟩
theorem Qu.nil_post (w : World) : Calls Try.prog 15 #[.pointer none] w fun e w' => e = .returned (.slice none 0 0) ∧ w = w' := by
  go_enter Try.func15, Try.ntmps15
  go_wp2
  go_ret
  exact ⟨rfl, rfl⟩
theorem Qu.nil_finish (w : World) : Calls Try.prog 14 #[.pointer none, .int .i64 0, .int .i64 0] w fun e w' => e = .returned (.int .i64 1) ∧ w = w' := by
  go_enter Try.func14, Try.ntmps14
  go_wp2
  go_ret
  exact ⟨rfl, rfl⟩
theorem Qu.nil_fork (w : World) : Calls Try.prog 17 #[.pointer none] w fun e w' => e = .returned (.pointer none) ∧ w = w' := by
  go_enter Try.func17, Try.ntmps17
  go_wp2
  go_ret
  exact ⟨rfl, rfl⟩
theorem Qu.nil_head (w : World) : Calls Try.prog 13 #[.pointer none] w fun e w' => e = .returned (.tuple #[.agg #[.int .i64 0, .int .u8 0, .int .u8 0, .int .i64 0, .int .i64 0, .int .i64 0, .bool false], .bool false]) ∧ w.grownBy w' none := by
  go_enter Try.func13, Try.ntmps13
  go_wp2
  refine bodyPost_ret (v := .tuple #[.agg #[.int .i64 0, .int .u8 0, .int .u8 0, .int .i64 0, .int .i64 0, .int .i64 0, .bool false], .bool false]) (by simp [results, Try.results13, go_sem]) rfl ?_
  exact ⟨rfl, only_alloc (only_refl _ none) _⟩
theorem Qu.nil_put (w : World) : Calls Try.prog 11 #[.pointer none, .agg #[.int .i64 0, .int .u8 0, .int .u8 0, .int .i64 0, .int .i64 0, .int .i64 0, .bool false]] w fun e w' => e = .returned (.bool false) ∧ w.grownBy w' none := by
  have gx : w.grownBy (w.alloc (.cells #[.int .i64 0, .int .u8 0, .int .u8 0, .int .i64 0, .int .i64 0, .int .i64 0, .bool false] 35)) none := only_alloc (only_refl _ none) _
  have GX := Lib.hid gx
  clear gx
  go_enter Try.func11, Try.ntmps11
  go_upto_region 1 with (fail)
  refine wp_region_quiet_below (by kernel_rfl) (by kernel_rfl) ?_
  repeat (quiet_step (fail))
  refine wpQuiet_nil ?_
  rintro _ ⟨⟨dq, osq⟩, rfl⟩
  go_wp2
  go_ret
  exact ⟨rfl, only_trans GX.out (Qu.regr _ dq osq)⟩
end Go.Proofs.Ytkiifafocmjfkaa

/- A queue's Fork. -/
namespace Go.Proofs.Ytkiifafocmjfkaa
open Go.RowKit Go.Lib Go.Shelf
set_option linter.unusedVariables false
set_option maxRecDepth 20000

def Qu.ForkV (w : World) (L : List Qu.It) (D : List Qu.Cl) (lim : Nat) (e : Ending) (w' : World) : Prop := ∃ f bf df vf uf, e = .returned (.pointer (some ⟨f, 0, none⟩)) ∧ Qu.Qv w' f bf df vf uf L D lim ∧ w.grownBy w' none ∧ ∀ i, Qu.Ft f bf df vf uf i → w.heap.size ≤ i
theorem Qu.fork_end {w wd w1 w2 : World} {q bw bd lim : Nat} {vw vd v1 v2 : Value} {L : List Qu.It} {D : List Qu.Cl} (h : Qu.Qv w q bw bd vw vd L D lim) (g0 : w.grownBy wd none) (q1 : Fi.Que w1 wd.heap.size v1 L lim 0) (g1 : wd.grownBy w1 none) (o1 : ∀ i, OwnQ wd.heap.size v1 i → wd.heap.size ≤ i) (q2 : Fc.Que w2 w1.heap.size v2 D lim 0) (g2 : w1.grownBy w2 none) (o2 : ∀ i, OwnQ w1.heap.size v2 i → w1.heap.size ≤ i) : ∀ W, W = w2.alloc (.cells #[.pointer (some ⟨wd.heap.size, 0, none⟩), .pointer (some ⟨w1.heap.size, 0, none⟩)] 59) → Qu.ForkV w L D lim (.returned (.pointer (some ⟨w2.heap.size, 0, none⟩))) W := by
  rintro W rfl
  have ga := only_alloc (only_refl w2 none) (.cells #[.pointer (some ⟨wd.heap.size, 0, none⟩), .pointer (some ⟨w1.heap.size, 0, none⟩)] 59)
  have s0 := g0.size
  have s1 := g1.size
  have s2 := g2.size
  refine ⟨w2.heap.size, wd.heap.size, w1.heap.size, v1, v2, rfl, ⟨Blk.new _ _ _, (q1.grown g2).grown ga, q2.grown ga, fun e => ?_, fun e => ?_, fun i e1 e2 => ?_, h.sm, h.l16⟩, only_trans g0 (only_trans g1 (only_trans g2 ga)), ?_⟩
  · have := q1.lt _ e; omega
  · have := q2.lt _ e; omega
  · have := q1.lt _ e1; have := o2 _ e2; omega
  · rintro i (rfl | hi | hi)
    · omega
    · have := o1 i hi; omega
    · have := o2 i hi; omega
set_option maxHeartbeats 3200000 in
theorem Qu.fork_any {w : World} {q bw bd lim : Nat} {vw vd : Value} {L : List Qu.It} {D : List Qu.Cl} (h : Qu.Qv w q bw bd vw vd L D lim) : Calls Try.prog 17 #[.pointer (some ⟨q, 0, none⟩)] w (Qu.ForkV w L D lim) := by
  have HQ := Lib.hid h
  have HB := Lib.hid h.blk
  have HLN := Lib.hid (show L.length ≤ 1000 ∧ D.length ≤ 1000 by have := h.sm; have := h.l16; omega)
  clear h
  go_enter Try.func17, Try.ntmps17
  go_wp2
  have gdr : w.grownBy w.drew none := only_drewN (only_refl _ none) 1
  have G0 := Lib.hid gdr
  have BD := Lib.hid (HB.out.only gdr (by simp))
  have QD := Lib.hid (HQ.out.grown gdr)
  clear gdr
  refine wp_region_held_drew (S := fun w' => w'.cell? ⟨q, 0, none⟩ = some (.pointer (some ⟨bw, 0, none⟩)) ∧ w'.cell? ⟨q, 1, none⟩ = some (.pointer (some ⟨bd, 0, none⟩))) (by kernel_rfl) ⟨BD.out.cell 0, BD.out.cell 1⟩ (fun hHeld => ?_)
  generalize w.drew = wd at *
  refine wpAnyH_take (i := 0) (oi := _) (v := ?_) rfl (by kernel_rfl) (by kernel_rfl) (by kernel_rfl) (fun _ _ _ h => h) (Or.inl ⟨by rfl, ?_⟩) (by assumption) ?_
  case refine_2 => intro w hSw; (try dsimp only at hSw); go_simp; try with_reducible rfl
  try simp only [Act.put, List.setIfInBounds_toArray, List.set_cons_zero, List.set_cons_succ]
  refine wpAnyH_take (i := 1) (oi := _) (v := ?_) rfl (by kernel_rfl) (by kernel_rfl) (by kernel_rfl) (fun _ _ _ h => h) (Or.inl ⟨by rfl, ?_⟩) (by assumption) ?_
  case refine_2 => intro w hSw; (try dsimp only at hSw); go_simp; try with_reducible rfl
  try simp only [Act.put, List.setIfInBounds_toArray, List.set_cons_zero, List.set_cons_succ]
  refine wpAnyH_take (i := 2) (oi := _) (v := ?_) rfl (by kernel_rfl) (by kernel_rfl) (by kernel_rfl) (fun _ _ _ h => h) (Or.inl ⟨by rfl, ?_⟩) (by assumption) ?_
  case refine_2 => intro w hSw; (try dsimp only at hSw); go_simp; try with_reducible rfl
  try simp only [Act.put, List.setIfInBounds_toArray, List.set_cons_zero, List.set_cons_succ]
  refine wpAnyH_take (i := 3) (oi := _) (v := ?_) rfl (by kernel_rfl) (by kernel_rfl) (by kernel_rfl) (fun _ _ _ h => h) (Or.inl ⟨by rfl, ?_⟩) (by assumption) ?_
  case refine_2 => intro w hSw; (try dsimp only at hSw); go_simp; try with_reducible rfl
  try simp only [Act.put, List.setIfInBounds_toArray, List.set_cons_zero, List.set_cons_succ]
  refine wpAnyH_take (i := 5) (oi := _) (v := ?_) rfl (by kernel_rfl) (by kernel_rfl) (by kernel_rfl) (fun _ _ _ h => h) (Or.inl ⟨by rfl, ?_⟩) (by assumption) ?_
  case refine_2 => intro w hSw; (try dsimp only at hSw); go_simp; try with_reducible rfl
  try simp only [Act.put, List.setIfInBounds_toArray, List.set_cons_zero, List.set_cons_succ]
  refine wpAnyH_take (i := 6) (oi := _) (v := ?_) rfl (by kernel_rfl) (by kernel_rfl) (by kernel_rfl) (fun _ _ _ h => h) (Or.inl ⟨by rfl, ?_⟩) (by assumption) ?_
  case refine_2 => intro w hSw; (try dsimp only at hSw); go_simp; try with_reducible rfl
  try simp only [Act.put, List.setIfInBounds_toArray, List.set_cons_zero, List.set_cons_succ]
  refine wpAnyH_take (i := 7) (oi := _) (v := ?_) rfl (by kernel_rfl) (by kernel_rfl) (by kernel_rfl) (fun _ _ _ h => h) (Or.inl ⟨by rfl, ?_⟩) (by assumption) ?_
  case refine_2 => intro w hSw; (try dsimp only at hSw); go_simp; try with_reducible rfl
  try simp only [Act.put, List.setIfInBounds_toArray, List.set_cons_zero, List.set_cons_succ]
  refine wpAnyH_take (i := 8) (oi := _) (v := ?_) rfl (by kernel_rfl) (by kernel_rfl) (by kernel_rfl) (fun _ _ _ h => h) (Or.inl ⟨by rfl, ?_⟩) (by assumption) ?_
  case refine_2 => intro w hSw; (try dsimp only at hSw); go_simp; try with_reducible rfl
  try simp only [Act.put, List.setIfInBounds_toArray, List.set_cons_zero, List.set_cons_succ]
  refine wpAnyH_ready (rs := [4]) (by kernel_rfl) (by simp) ?_
  refine AllReadyH.cons (o := _) rfl (fun K hK => ?_) AllReadyH.nil
  go_simp
  go_at_call 37
  (with_reducible refine (Fi.fork_any QD.out.wq HLN.out.1).mono ?_)
  rintro e w1 ⟨v1, rfl, q1, g1, o1⟩
  have Q1 := Lib.hid q1
  have G1 := Lib.hid g1
  have O1 := Lib.hid o1
  have B1 := Lib.hid (BD.out.only g1 (by simp))
  have QD1 := Lib.hid (QD.out.grown g1)
  clear q1 g1 o1
  refine hK.out _ _ (⟨B1.out.cell 0, B1.out.cell 1⟩) (fun hHeld => ?_)
  clear hK K
  try simp only [Act.put, List.setIfInBounds_toArray, List.set_cons_zero, List.set_cons_succ]
  refine wpAnyH_ready (rs := [9]) (by kernel_rfl) (by simp) ?_
  refine AllReadyH.cons (o := _) rfl (fun K hK => ?_) AllReadyH.nil
  go_simp
  go_at_call 38
  (with_reducible refine (Fc.fork_any QD1.out.dq HLN.out.2).mono ?_)
  rintro e w2 ⟨v2, rfl, q2, g2, o2⟩
  have Q2 := Lib.hid q2
  have G2 := Lib.hid g2
  have O2 := Lib.hid o2
  have B2 := Lib.hid (B1.out.only g2 (by simp))
  clear q2 g2 o2
  refine hK.out _ _ (⟨B2.out.cell 0, B2.out.cell 1⟩) (fun hHeld => ?_)
  clear hK K
  try simp only [Act.put, List.setIfInBounds_toArray, List.set_cons_zero, List.set_cons_succ]
  refine wpAnyH_take (i := 10) (oi := _) (v := ?_) rfl (by kernel_rfl) (by kernel_rfl) (by kernel_rfl) (fun _ _ _ h => h) (Or.inl ⟨by rfl, ?_⟩) (by assumption) ?_
  case refine_2 => intro w hSw; (try dsimp only at hSw); go_simp; try with_reducible rfl
  try simp only [Act.put, List.setIfInBounds_toArray, List.set_cons_zero, List.set_cons_succ]
  obtain ⟨W9, hW9⟩ : ∃ W9, W9 = w2.alloc (.cells #[.pointer (some ⟨wd.heap.size, 0, none⟩), .pointer (some ⟨w1.heap.size, 0, none⟩)] 59) := ⟨_, rfl⟩
  have B9 := Lib.hid (B2.out.only (show w2.grownBy W9 none by rw [hW9]; exact only_alloc (only_refl _ none) _) (by simp))
  have HF := Lib.hid (Qu.fork_end HQ.out G0.out Q1.out G1.out O1.out Q2.out G2.out O2.out W9 hW9)
  refine wpAnyH_ready (rs := [11]) (by kernel_rfl) (by simp) ?_
  refine AllReadyH.cons (o := _) rfl (fun K hK => ?_) AllReadyH.nil
  go_simp
  rw [← hW9]
  refine hK.out _ _ (⟨B9.out.cell 0, B9.out.cell 1⟩) (fun hHeld => ?_)
  clear hK K
  try simp only [Act.put, List.setIfInBounds_toArray, List.set_cons_zero, List.set_cons_succ]
  refine wpAnyH_take (i := 12) (oi := ⟨some 2, _, _, _, _, none⟩) (v := ?_) rfl (by kernel_rfl) (by kernel_rfl) (by kernel_rfl) (fun _ _ _ h => h) (Or.inl ⟨by rfl, ?_⟩) (by assumption) ?_
  case refine_2 => intro w hSw; (try dsimp only at hSw); go_simp; try with_reducible rfl
  try simp only [Act.put, List.setIfInBounds_toArray, List.set_cons_zero, List.set_cons_succ]
  refine wpAnyH_done (by kernel_rfl) ?_ _
  clear hW9
  go_wp2
  go_ret
  exact HF.out
/-- The program's queue forked; the document's is taken once more. -/
theorem Qu.Pl.fork {w W : World} {q bw bd lim b n c n2 c2 : Nat} {A A2 : Option Addr} (h : Qu.Pl w W q bw bd lim b A n c A2 n2 c2) : Calls Try.prog 17 #[.pointer (some ⟨q, 0, none⟩)] W fun e W' => ∃ f bf df, e = .returned (.pointer (some ⟨f, 0, none⟩)) ∧ W.grownBy W' none ∧ ∀ W9, W9 = W'.alloc (.cells #[.slice A n c, .slice A2 n2 c2, .int .i64 lim] 27) → Qu.Pl W W9 f bf df lim W'.heap.size A n c A2 n2 c2 := by
  obtain ⟨vw, vd, L, D, h1, h2, h3, h4, h5, ⟨h6, h6'⟩, h7, h8⟩ := h
  refine (Qu.fork_any h1.qv).mono fun e W' hh => ?_
  obtain ⟨f, bf, df, vf, uf, rfl, k1, k2, k3⟩ := hh
  refine ⟨f, bf, df, rfl, k2, ?_⟩
  rintro W9 rfl
  have ga := only_alloc (only_refl W' none) (.cells #[.slice A n c, .slice A2 n2 c2, .int .i64 lim] 27)
  have s1 := k2.size
  exact ⟨vf, uf, L, D, ⟨k1.grown ga, only_trans k2 ga, k3⟩, h2.grown (only_trans k2 ga), h3, h4, fun i hi e => by have := h2.lt i hi; have := k3 i e; omega, ⟨fun e => by have := k1.lt _ e; omega, fun e => by have := h2.lt _ e; omega⟩, Blk.new _ _ _, s1⟩
end Go.Proofs.Ytkiifafocmjfkaa

/- QueueForks walked. -/
namespace Go.Proofs.Ytkiifafocmjfkaa
open Go.RowKit Go.Lib Go.Shelf
set_option linter.unusedVariables false
set_option maxRecDepth 20000

set_option maxHeartbeats 6400000 in
theorem Qu.forks_walk (limit : Int) (A : Option Addr) (k c : Nat) (d : Nat → Qu.Dd) (B : Option Addr) (kb cb : Nat) (db : Nat → Qu.Dd) (w : World) (hd : Qu.DdP w A k d) (hk : k ≤ c) (hc : c ≤ 9223372036854775807) (hdb : Qu.DdP w B kb db) (hkb : kb ≤ cb) (hcb : cb ≤ 9223372036854775807) : Calls Try.prog 5 #[.int .i64 limit, .slice A k c, .slice B kb cb] w fun e w' => e = .returned (.bool true) ∧ Below w.heap.size w w' := by
  have HN := Lib.hid (Qu.new_any limit w)
  have HR := Lib.hid (fun W => Qu.rnew_any limit W)
  obtain ⟨lim, hlim⟩ : ∃ lim, limQ (min limit 16) = lim := ⟨_, rfl⟩
  rw [hlim] at HN
  simp only [hlim] at HR
  have HD := Lib.hid hd
  have HDB := Lib.hid hdb
  have HKC := Lib.hid (show k ≤ c ∧ kb ≤ cb from ⟨hk, hkb⟩)
  clear hd hdb hlim hk hkb
  go_enter Try.func5, Try.ntmps5
  go_upto_region 3 with (first
    | (go_at_call 6; (with_reducible refine HN.out.mono ?_); rintro e w1 hh; obtain ⟨q, bw, bd, rfl, ho⟩ := hh.own; have O1 := Lib.hid ho; clear hh ho)
    | (go_at_call 7; (with_reducible refine (HR.out _).mono ?_); rintro e w2 ⟨rfl, g2⟩; have G2 := Lib.hid g2; clear g2))
  obtain ⟨w0, hw0⟩ : ∃ w0, w0 = w2.alloc (.cells #[.slice none 0 0, .slice none 0 0, .int .i64 lim] 27) := ⟨_, rfl⟩
  have P0 := Lib.hid (Qu.Pl.start O1.out G2.out w0 hw0)
  rw [← hw0]
  obtain ⟨b6, hb6⟩ : ∃ b6, b6 = w2.heap.size := ⟨_, rfl⟩
  rw [← hb6] at P0 ⊢
  clear hb6 hw0 O1 G2
  go_wp2
  go_loopw [9] (fun t wr => ∃ (j n c n2 c2 : Nat) (A A2 : Option Addr), t = .int .i64 j ∧ j ≤ 40 ∧ Hid (j ≤ k) ∧ Hid (Qu.Pl w wr q bw bd lim b6 A n c A2 n2 c2)) (fun t _ => 40 - (intOf t).toNat)
  case atStart => exact ⟨0, 0, 0, 0, 0, none, none, rfl, by omega, Lib.hid (Nat.zero_le _), P0⟩
  case round =>
    obtain ⟨j, n, c', n2, c2, A', A2, rfl, hj8, HB, HS⟩ := hrel
    clear P0
    by_cases hin : j < k ∧ j < 40
    case pos =>
      obtain ⟨h1, h2⟩ := hin
      obtain ⟨g, off, rfl, hg, hcs⟩ := HD.out (by omega)
      have hcj := hcs j h1
      obtain ⟨y, hy⟩ : ∃ y, d j = y := ⟨_, rfl⟩
      rw [hy] at hcj
      have HCS := Lib.hid (fun W (g' : w.grownBy W none) => show W.cell? ⟨g, off + j * 10, none⟩ = some (.int .i64 y.dd) ∧ W.cell? ⟨g, off + j * 10 + 1, none⟩ = some (.int .i64 y.it.k) ∧ W.cell? ⟨g, off + j * 10 + 2, none⟩ = some (.int .u8 y.it.wh) ∧ W.cell? ⟨g, off + j * 10 + 3, none⟩ = some (.int .u8 y.it.st) ∧ W.cell? ⟨g, off + j * 10 + 4, none⟩ = some (.int .i64 y.it.ad) ∧ W.cell? ⟨g, off + j * 10 + 5, none⟩ = some (.int .i64 y.it.ln) ∧ W.cell? ⟨g, off + j * 10 + 6, none⟩ = some (.int .i64 y.it.ar) ∧ W.cell? ⟨g, off + j * 10 + 7, none⟩ = some (.bool y.it.bad) ∧ W.cell? ⟨g, off + j * 10 + 8, none⟩ = some (.int .i64 y.st) ∧ W.cell? ⟨g, off + j * 10 + 9, none⟩ = some (.int .i64 y.n) from hcj.below hg (Qu.bel g'))
      have HJ := Lib.hid (show j + 1 ≤ k ∧ j + 1 ≤ 40 from ⟨h1, h2⟩)
      have i1 : (j : Int) < (k : Int) := by omega
      have i2 : (j : Int) < 40 := by omega
      have i3 : (0 : Int) ≤ (j : Int) := by omega
      have u1 : IntKind.i64.wrap ((j : Int) + 1) = ((j + 1 : Nat) : Int) := by rw [IntKind.wrap_i64]; omega
      clear hcj hcs hg hy
      go_wp2
      have gdr : wr.grownBy wr.drew none := only_drewN (only_refl _ none) 1
      have HSD := Lib.hid (HS.out.grown gdr)
      have SC : wr.drew.cell? ⟨g, off + j * 10, none⟩ = some (.int .i64 y.dd) ∧ wr.drew.cell? ⟨g, off + j * 10 + 1, none⟩ = some (.int .i64 y.it.k) ∧ wr.drew.cell? ⟨g, off + j * 10 + 2, none⟩ = some (.int .u8 y.it.wh) ∧ wr.drew.cell? ⟨g, off + j * 10 + 3, none⟩ = some (.int .u8 y.it.st) ∧ wr.drew.cell? ⟨g, off + j * 10 + 4, none⟩ = some (.int .i64 y.it.ad) ∧ wr.drew.cell? ⟨g, off + j * 10 + 5, none⟩ = some (.int .i64 y.it.ln) ∧ wr.drew.cell? ⟨g, off + j * 10 + 6, none⟩ = some (.int .i64 y.it.ar) ∧ wr.drew.cell? ⟨g, off + j * 10 + 7, none⟩ = some (.bool y.it.bad) ∧ wr.drew.cell? ⟨g, off + j * 10 + 8, none⟩ = some (.int .i64 y.st) ∧ wr.drew.cell? ⟨g, off + j * 10 + 9, none⟩ = some (.int .i64 y.n) := HCS.out _ HSD.out.gr
      refine wp_region_held_drew (S := fun w' => w'.cell? ⟨g, off + j * 10, none⟩ = some (.int .i64 y.dd) ∧ w'.cell? ⟨g, off + j * 10 + 1, none⟩ = some (.int .i64 y.it.k) ∧ w'.cell? ⟨g, off + j * 10 + 2, none⟩ = some (.int .u8 y.it.wh) ∧ w'.cell? ⟨g, off + j * 10 + 3, none⟩ = some (.int .u8 y.it.st) ∧ w'.cell? ⟨g, off + j * 10 + 4, none⟩ = some (.int .i64 y.it.ad) ∧ w'.cell? ⟨g, off + j * 10 + 5, none⟩ = some (.int .i64 y.it.ln) ∧ w'.cell? ⟨g, off + j * 10 + 6, none⟩ = some (.int .i64 y.it.ar) ∧ w'.cell? ⟨g, off + j * 10 + 7, none⟩ = some (.bool y.it.bad) ∧ w'.cell? ⟨g, off + j * 10 + 8, none⟩ = some (.int .i64 y.st) ∧ w'.cell? ⟨g, off + j * 10 + 9, none⟩ = some (.int .i64 y.n)) (by kernel_rfl) SC (fun hHeld => ?_)
      clear gdr
      generalize wr.drew = wd at *
      refine wpAnyH_take (i := 0) (oi := _) (v := ?_) rfl (by kernel_rfl) (by kernel_rfl) (by kernel_rfl) (fun _ _ _ h => h) (Or.inl ⟨by rfl, ?_⟩) (by assumption) ?_
      case refine_2 => intro w hSw; (try dsimp only at hSw); go_simp; (try rw [if_pos h1]); try with_reducible rfl
      try simp only [Act.put, List.setIfInBounds_toArray, List.set_cons_zero, List.set_cons_succ]
      refine wpAnyH_take (i := 2) (oi := _) (v := ?_) rfl (by kernel_rfl) (by kernel_rfl) (by kernel_rfl) (fun _ _ _ h => h) (Or.inl ⟨by rfl, ?_⟩) (by assumption) ?_
      case refine_2 => intro w hSw; (try dsimp only at hSw); go_simp; (try rw [if_pos h1]); try with_reducible rfl
      try simp only [Act.put, List.setIfInBounds_toArray, List.set_cons_zero, List.set_cons_succ]
      refine wpAnyH_take (i := 3) (oi := _) (v := ?_) rfl (by kernel_rfl) (by kernel_rfl) (by kernel_rfl) (fun _ _ _ h => h) (Or.inl ⟨by rfl, ?_⟩) (by assumption) ?_
      case refine_2 => intro w hSw; (try dsimp only at hSw); go_simp; (try rw [if_pos h1]); try with_reducible rfl
      try simp only [Act.put, List.setIfInBounds_toArray, List.set_cons_zero, List.set_cons_succ]
      refine wpAnyH_take (i := 4) (oi := _) (v := ?_) rfl (by kernel_rfl) (by kernel_rfl) (by kernel_rfl) (fun _ _ _ h => h) (Or.inl ⟨by rfl, ?_⟩) (by assumption) ?_
      case refine_2 => intro w hSw; (try dsimp only at hSw); go_simp; (try rw [if_pos h1]); try with_reducible rfl
      try simp only [Act.put, List.setIfInBounds_toArray, List.set_cons_zero, List.set_cons_succ]
      refine wpAnyH_take (i := 5) (oi := _) (v := ?_) rfl (by kernel_rfl) (by kernel_rfl) (by kernel_rfl) (fun _ _ _ h => h) (Or.inl ⟨by rfl, ?_⟩) (by assumption) ?_
      case refine_2 => intro w hSw; (try dsimp only at hSw); go_simp; (try rw [if_pos h1]); try with_reducible rfl
      try simp only [Act.put, List.setIfInBounds_toArray, List.set_cons_zero, List.set_cons_succ]
      obtain ⟨⟨p0, p1, p2⟩, _, _, _⟩ := Qu.cells3 HSD.out.bk
      refine wpAnyH_ready (rs := [1]) (by kernel_rfl) (by simp) ?_
      refine AllReadyH.cons (o := _) rfl (fun K hK => ?_) AllReadyH.nil
      go_simp
      refine hK.out _ _ (hHeld) (fun hHeld => ?_)
      clear hK K
      try simp only [Act.put, List.setIfInBounds_toArray, List.set_cons_zero, List.set_cons_succ]
      refine wpAnyH_ready (rs := [6]) (by kernel_rfl) (by simp) ?_
      refine AllReadyH.cons (o := _) rfl (fun K hK => ?_) AllReadyH.nil
      go_simp
      go_at_call 8
      (with_reducible refine (HSD.out.step y).mono ?_)
      rintro e w2 ⟨A5, n5, c5, A6, n6, c6, rfl, hb2, hg2, hnext⟩
      have HB2 := Lib.hid hb2
      have HG2 := Lib.hid hg2
      have HNEXT := Lib.hid hnext
      clear hb2 hg2 hnext p0 p1 p2
      have S2 : w2.cell? ⟨g, off + j * 10, none⟩ = some (.int .i64 y.dd) ∧ w2.cell? ⟨g, off + j * 10 + 1, none⟩ = some (.int .i64 y.it.k) ∧ w2.cell? ⟨g, off + j * 10 + 2, none⟩ = some (.int .u8 y.it.wh) ∧ w2.cell? ⟨g, off + j * 10 + 3, none⟩ = some (.int .u8 y.it.st) ∧ w2.cell? ⟨g, off + j * 10 + 4, none⟩ = some (.int .i64 y.it.ad) ∧ w2.cell? ⟨g, off + j * 10 + 5, none⟩ = some (.int .i64 y.it.ln) ∧ w2.cell? ⟨g, off + j * 10 + 6, none⟩ = some (.int .i64 y.it.ar) ∧ w2.cell? ⟨g, off + j * 10 + 7, none⟩ = some (.bool y.it.bad) ∧ w2.cell? ⟨g, off + j * 10 + 8, none⟩ = some (.int .i64 y.st) ∧ w2.cell? ⟨g, off + j * 10 + 9, none⟩ = some (.int .i64 y.n) := HCS.out _ HG2.out
      refine hK.out _ _ (S2) (fun hHeld => ?_)
      clear hK K
      try simp only [Act.put, List.setIfInBounds_toArray, List.set_cons_zero, List.set_cons_succ]
      refine wpAnyH_take (i := 7) (oi := _) (v := ?_) rfl (by kernel_rfl) (by kernel_rfl) (by kernel_rfl) (fun _ _ _ h => h) (Or.inl ⟨by rfl, ?_⟩) (by assumption) ?_
      case refine_2 => intro w hSw; (try dsimp only at hSw); go_simp; try with_reducible rfl
      try simp only [Act.put, List.setIfInBounds_toArray, List.set_cons_zero, List.set_cons_succ]
      refine wpAnyH_take (i := 8) (oi := _) (v := ?_) rfl (by kernel_rfl) (by kernel_rfl) (by kernel_rfl) (fun _ _ _ h => h) (Or.inl ⟨by rfl, ?_⟩) (by assumption) ?_
      case refine_2 => intro w hSw; (try dsimp only at hSw); go_simp; try with_reducible rfl
      try simp only [Act.put, List.setIfInBounds_toArray, List.set_cons_zero, List.set_cons_succ]
      refine wpAnyH_take (i := 9) (oi := _) (v := ?_) rfl (by kernel_rfl) (by kernel_rfl) (by kernel_rfl) (fun _ _ _ h => h) (Or.inl ⟨by rfl, ?_⟩) (by assumption) ?_
      case refine_2 => intro w hSw; (try dsimp only at hSw); go_simp; try with_reducible rfl
      try simp only [Act.put, List.setIfInBounds_toArray, List.set_cons_zero, List.set_cons_succ]
      obtain ⟨⟨x0, x1, x2⟩, y0, y1, y2⟩ := Qu.cells3 HB2.out
      obtain ⟨W9, hW9⟩ : ∃ W9, W9 = (((w2.setCell ⟨b6, 0, none⟩ (.slice A5 n5 c5)).setCell ⟨b6, 1, none⟩ (.slice A6 n6 c6)).setCell ⟨b6, 2, none⟩ (.int .i64 lim)) := ⟨_, rfl⟩
      have HP := Lib.hid (HNEXT.out W9 hW9)
      have S9 : W9.cell? ⟨g, off + j * 10, none⟩ = some (.int .i64 y.dd) ∧ W9.cell? ⟨g, off + j * 10 + 1, none⟩ = some (.int .i64 y.it.k) ∧ W9.cell? ⟨g, off + j * 10 + 2, none⟩ = some (.int .u8 y.it.wh) ∧ W9.cell? ⟨g, off + j * 10 + 3, none⟩ = some (.int .u8 y.it.st) ∧ W9.cell? ⟨g, off + j * 10 + 4, none⟩ = some (.int .i64 y.it.ad) ∧ W9.cell? ⟨g, off + j * 10 + 5, none⟩ = some (.int .i64 y.it.ln) ∧ W9.cell? ⟨g, off + j * 10 + 6, none⟩ = some (.int .i64 y.it.ar) ∧ W9.cell? ⟨g, off + j * 10 + 7, none⟩ = some (.bool y.it.bad) ∧ W9.cell? ⟨g, off + j * 10 + 8, none⟩ = some (.int .i64 y.st) ∧ W9.cell? ⟨g, off + j * 10 + 9, none⟩ = some (.int .i64 y.n) := HCS.out _ HP.out.gr
      refine wpAnyH_ready (rs := [10]) (by kernel_rfl) (by simp) ?_
      refine AllReadyH.cons (o := _) rfl (fun K hK => ?_) AllReadyH.nil
      go_simp
      rw [← hW9]
      refine hK.out _ _ (S9) (fun hHeld => ?_)
      clear hK K
      try simp only [Act.put, List.setIfInBounds_toArray, List.set_cons_zero, List.set_cons_succ]
      refine wpAnyH_done (by kernel_rfl) ?_ _
      clear x0 x1 x2 y0 y1 y2 hW9 S9 S2 SC
      go_wp2
      go_roundw
      case rel => exact ⟨j + 1, n5, c5, n6, c6, A5, A6, by go_num, HJ.out.2, Lib.hid HJ.out.1, HP⟩
      case measure =>
        have := HJ.out
        simp [intOf]
        omega
    case neg =>
      have key : (¬ (j : Int) < (k : Int)) ∨ ((j : Int) < (k : Int) ∧ ¬ (j : Int) < 40) := by omega
      clear hin
      rcases key with i1 | ⟨i1, i2⟩
      all_goals
        go_upto_region 8 with (go_at_call 17; (with_reducible refine HS.out.fork.mono ?_); rintro e w3 ⟨f, bf, df, rfl, g3, hn3⟩; have G3 := Lib.hid g3; have HN3 := Lib.hid hn3; clear g3 hn3)
        obtain ⟨⟨z0, z1, z2⟩, _, _, _⟩ := Qu.cells3 (HS.out.grown G3.out).bk
        go_upto_region 11 with (fail)
        obtain ⟨w4, hw4⟩ : ∃ w4, w4 = w3.alloc (.cells #[.slice A' n c', .slice A2 n2 c2, .int .i64 lim] 27) := ⟨_, rfl⟩
        have P4 := Lib.hid (HN3.out w4 hw4)
        have GW := Lib.hid HS.out.gr
        rw [← hw4]
        obtain ⟨b11, hb11⟩ : ∃ b11, b11 = w3.heap.size := ⟨_, rfl⟩
        rw [← hb11] at P4 ⊢
        clear hb11 hw4 G3 HN3 z0 z1 z2 i1
        go_wp2
        generalize wr = wF at *
        go_loopw [12] (fun t wz => ∃ (j n c n2 c2 : Nat) (A A2 : Option Addr), t = .int .i64 j ∧ j ≤ 40 ∧ Hid (j ≤ kb) ∧ Hid (Qu.Pl wF wz f bf df lim b11 A n c A2 n2 c2)) (fun t _ => 40 - (intOf t).toNat)
        case atStart => exact ⟨0, n, c', n2, c2, A', A2, rfl, by omega, Lib.hid (Nat.zero_le _), P4⟩
        case round =>
          have HQ := HS
          clear HS
          obtain ⟨jj, m, cm, m2, cm2, M, M2, rfl, hjj, HBB, HS⟩ := hrel
          clear P4
          by_cases hin : jj < kb ∧ jj < 40
          case pos =>
            obtain ⟨h1, h2⟩ := hin
            obtain ⟨g, off, rfl, hg, hcs⟩ := HDB.out (by omega)
            have hcj := hcs jj h1
            obtain ⟨y, hy⟩ : ∃ y, db jj = y := ⟨_, rfl⟩
            rw [hy] at hcj
            have HCS := Lib.hid (fun W (g' : wF.grownBy W none) => show W.cell? ⟨g, off + jj * 10, none⟩ = some (.int .i64 y.dd) ∧ W.cell? ⟨g, off + jj * 10 + 1, none⟩ = some (.int .i64 y.it.k) ∧ W.cell? ⟨g, off + jj * 10 + 2, none⟩ = some (.int .u8 y.it.wh) ∧ W.cell? ⟨g, off + jj * 10 + 3, none⟩ = some (.int .u8 y.it.st) ∧ W.cell? ⟨g, off + jj * 10 + 4, none⟩ = some (.int .i64 y.it.ad) ∧ W.cell? ⟨g, off + jj * 10 + 5, none⟩ = some (.int .i64 y.it.ln) ∧ W.cell? ⟨g, off + jj * 10 + 6, none⟩ = some (.int .i64 y.it.ar) ∧ W.cell? ⟨g, off + jj * 10 + 7, none⟩ = some (.bool y.it.bad) ∧ W.cell? ⟨g, off + jj * 10 + 8, none⟩ = some (.int .i64 y.st) ∧ W.cell? ⟨g, off + jj * 10 + 9, none⟩ = some (.int .i64 y.n) from hcj.below hg (Qu.bel (only_trans GW.out g')))
            have HJ := Lib.hid (show jj + 1 ≤ kb ∧ jj + 1 ≤ 40 from ⟨h1, h2⟩)
            have i1 : (jj : Int) < (kb : Int) := by omega
            have i2 : (jj : Int) < 40 := by omega
            have i3 : (0 : Int) ≤ (jj : Int) := by omega
            have u1 : IntKind.i64.wrap ((jj : Int) + 1) = ((jj + 1 : Nat) : Int) := by rw [IntKind.wrap_i64]; omega
            clear hcj hcs hg hy
            go_wp2
            have gdr : wr.grownBy wr.drew none := only_drewN (only_refl _ none) 1
            have HSD := Lib.hid (HS.out.grown gdr)
            have SC : wr.drew.cell? ⟨g, off + jj * 10, none⟩ = some (.int .i64 y.dd) ∧ wr.drew.cell? ⟨g, off + jj * 10 + 1, none⟩ = some (.int .i64 y.it.k) ∧ wr.drew.cell? ⟨g, off + jj * 10 + 2, none⟩ = some (.int .u8 y.it.wh) ∧ wr.drew.cell? ⟨g, off + jj * 10 + 3, none⟩ = some (.int .u8 y.it.st) ∧ wr.drew.cell? ⟨g, off + jj * 10 + 4, none⟩ = some (.int .i64 y.it.ad) ∧ wr.drew.cell? ⟨g, off + jj * 10 + 5, none⟩ = some (.int .i64 y.it.ln) ∧ wr.drew.cell? ⟨g, off + jj * 10 + 6, none⟩ = some (.int .i64 y.it.ar) ∧ wr.drew.cell? ⟨g, off + jj * 10 + 7, none⟩ = some (.bool y.it.bad) ∧ wr.drew.cell? ⟨g, off + jj * 10 + 8, none⟩ = some (.int .i64 y.st) ∧ wr.drew.cell? ⟨g, off + jj * 10 + 9, none⟩ = some (.int .i64 y.n) := HCS.out _ HSD.out.gr
            refine wp_region_held_drew (S := fun w' => w'.cell? ⟨g, off + jj * 10, none⟩ = some (.int .i64 y.dd) ∧ w'.cell? ⟨g, off + jj * 10 + 1, none⟩ = some (.int .i64 y.it.k) ∧ w'.cell? ⟨g, off + jj * 10 + 2, none⟩ = some (.int .u8 y.it.wh) ∧ w'.cell? ⟨g, off + jj * 10 + 3, none⟩ = some (.int .u8 y.it.st) ∧ w'.cell? ⟨g, off + jj * 10 + 4, none⟩ = some (.int .i64 y.it.ad) ∧ w'.cell? ⟨g, off + jj * 10 + 5, none⟩ = some (.int .i64 y.it.ln) ∧ w'.cell? ⟨g, off + jj * 10 + 6, none⟩ = some (.int .i64 y.it.ar) ∧ w'.cell? ⟨g, off + jj * 10 + 7, none⟩ = some (.bool y.it.bad) ∧ w'.cell? ⟨g, off + jj * 10 + 8, none⟩ = some (.int .i64 y.st) ∧ w'.cell? ⟨g, off + jj * 10 + 9, none⟩ = some (.int .i64 y.n)) (by kernel_rfl) SC (fun hHeld => ?_)
            clear gdr
            generalize wr.drew = wd at *
            refine wpAnyH_take (i := 0) (oi := _) (v := ?_) rfl (by kernel_rfl) (by kernel_rfl) (by kernel_rfl) (fun _ _ _ h => h) (Or.inl ⟨by rfl, ?_⟩) (by assumption) ?_
            case refine_2 => intro w hSw; (try dsimp only at hSw); go_simp; (try rw [if_pos h1]); try with_reducible rfl
            try simp only [Act.put, List.setIfInBounds_toArray, List.set_cons_zero, List.set_cons_succ]
            refine wpAnyH_take (i := 2) (oi := _) (v := ?_) rfl (by kernel_rfl) (by kernel_rfl) (by kernel_rfl) (fun _ _ _ h => h) (Or.inl ⟨by rfl, ?_⟩) (by assumption) ?_
            case refine_2 => intro w hSw; (try dsimp only at hSw); go_simp; (try rw [if_pos h1]); try with_reducible rfl
            try simp only [Act.put, List.setIfInBounds_toArray, List.set_cons_zero, List.set_cons_succ]
            refine wpAnyH_take (i := 3) (oi := _) (v := ?_) rfl (by kernel_rfl) (by kernel_rfl) (by kernel_rfl) (fun _ _ _ h => h) (Or.inl ⟨by rfl, ?_⟩) (by assumption) ?_
            case refine_2 => intro w hSw; (try dsimp only at hSw); go_simp; (try rw [if_pos h1]); try with_reducible rfl
            try simp only [Act.put, List.setIfInBounds_toArray, List.set_cons_zero, List.set_cons_succ]
            refine wpAnyH_take (i := 4) (oi := _) (v := ?_) rfl (by kernel_rfl) (by kernel_rfl) (by kernel_rfl) (fun _ _ _ h => h) (Or.inl ⟨by rfl, ?_⟩) (by assumption) ?_
            case refine_2 => intro w hSw; (try dsimp only at hSw); go_simp; (try rw [if_pos h1]); try with_reducible rfl
            try simp only [Act.put, List.setIfInBounds_toArray, List.set_cons_zero, List.set_cons_succ]
            refine wpAnyH_take (i := 5) (oi := _) (v := ?_) rfl (by kernel_rfl) (by kernel_rfl) (by kernel_rfl) (fun _ _ _ h => h) (Or.inl ⟨by rfl, ?_⟩) (by assumption) ?_
            case refine_2 => intro w hSw; (try dsimp only at hSw); go_simp; (try rw [if_pos h1]); try with_reducible rfl
            try simp only [Act.put, List.setIfInBounds_toArray, List.set_cons_zero, List.set_cons_succ]
            obtain ⟨⟨p0, p1, p2⟩, _, _, _⟩ := Qu.cells3 HSD.out.bk
            refine wpAnyH_ready (rs := [1]) (by kernel_rfl) (by simp) ?_
            refine AllReadyH.cons (o := _) rfl (fun K hK => ?_) AllReadyH.nil
            go_simp
            refine hK.out _ _ (hHeld) (fun hHeld => ?_)
            clear hK K
            try simp only [Act.put, List.setIfInBounds_toArray, List.set_cons_zero, List.set_cons_succ]
            refine wpAnyH_ready (rs := [6]) (by kernel_rfl) (by simp) ?_
            refine AllReadyH.cons (o := _) rfl (fun K hK => ?_) AllReadyH.nil
            go_simp
            go_at_call 8
            (with_reducible refine (HSD.out.step y).mono ?_)
            rintro e w2 ⟨A5, n5, c5, A6, n6, c6, rfl, hb2, hg2, hnext⟩
            have HB2 := Lib.hid hb2
            have HG2 := Lib.hid hg2
            have HNEXT := Lib.hid hnext
            clear hb2 hg2 hnext p0 p1 p2
            have S2 : w2.cell? ⟨g, off + jj * 10, none⟩ = some (.int .i64 y.dd) ∧ w2.cell? ⟨g, off + jj * 10 + 1, none⟩ = some (.int .i64 y.it.k) ∧ w2.cell? ⟨g, off + jj * 10 + 2, none⟩ = some (.int .u8 y.it.wh) ∧ w2.cell? ⟨g, off + jj * 10 + 3, none⟩ = some (.int .u8 y.it.st) ∧ w2.cell? ⟨g, off + jj * 10 + 4, none⟩ = some (.int .i64 y.it.ad) ∧ w2.cell? ⟨g, off + jj * 10 + 5, none⟩ = some (.int .i64 y.it.ln) ∧ w2.cell? ⟨g, off + jj * 10 + 6, none⟩ = some (.int .i64 y.it.ar) ∧ w2.cell? ⟨g, off + jj * 10 + 7, none⟩ = some (.bool y.it.bad) ∧ w2.cell? ⟨g, off + jj * 10 + 8, none⟩ = some (.int .i64 y.st) ∧ w2.cell? ⟨g, off + jj * 10 + 9, none⟩ = some (.int .i64 y.n) := HCS.out _ HG2.out
            refine hK.out _ _ (S2) (fun hHeld => ?_)
            clear hK K
            try simp only [Act.put, List.setIfInBounds_toArray, List.set_cons_zero, List.set_cons_succ]
            refine wpAnyH_take (i := 7) (oi := _) (v := ?_) rfl (by kernel_rfl) (by kernel_rfl) (by kernel_rfl) (fun _ _ _ h => h) (Or.inl ⟨by rfl, ?_⟩) (by assumption) ?_
            case refine_2 => intro w hSw; (try dsimp only at hSw); go_simp; try with_reducible rfl
            try simp only [Act.put, List.setIfInBounds_toArray, List.set_cons_zero, List.set_cons_succ]
            refine wpAnyH_take (i := 8) (oi := _) (v := ?_) rfl (by kernel_rfl) (by kernel_rfl) (by kernel_rfl) (fun _ _ _ h => h) (Or.inl ⟨by rfl, ?_⟩) (by assumption) ?_
            case refine_2 => intro w hSw; (try dsimp only at hSw); go_simp; try with_reducible rfl
            try simp only [Act.put, List.setIfInBounds_toArray, List.set_cons_zero, List.set_cons_succ]
            refine wpAnyH_take (i := 9) (oi := _) (v := ?_) rfl (by kernel_rfl) (by kernel_rfl) (by kernel_rfl) (fun _ _ _ h => h) (Or.inl ⟨by rfl, ?_⟩) (by assumption) ?_
            case refine_2 => intro w hSw; (try dsimp only at hSw); go_simp; try with_reducible rfl
            try simp only [Act.put, List.setIfInBounds_toArray, List.set_cons_zero, List.set_cons_succ]
            obtain ⟨⟨x0, x1, x2⟩, y0, y1, y2⟩ := Qu.cells3 HB2.out
            obtain ⟨W9, hW9⟩ : ∃ W9, W9 = (((w2.setCell ⟨b11, 0, none⟩ (.slice A5 n5 c5)).setCell ⟨b11, 1, none⟩ (.slice A6 n6 c6)).setCell ⟨b11, 2, none⟩ (.int .i64 lim)) := ⟨_, rfl⟩
            have HP := Lib.hid (HNEXT.out W9 hW9)
            have S9 : W9.cell? ⟨g, off + jj * 10, none⟩ = some (.int .i64 y.dd) ∧ W9.cell? ⟨g, off + jj * 10 + 1, none⟩ = some (.int .i64 y.it.k) ∧ W9.cell? ⟨g, off + jj * 10 + 2, none⟩ = some (.int .u8 y.it.wh) ∧ W9.cell? ⟨g, off + jj * 10 + 3, none⟩ = some (.int .u8 y.it.st) ∧ W9.cell? ⟨g, off + jj * 10 + 4, none⟩ = some (.int .i64 y.it.ad) ∧ W9.cell? ⟨g, off + jj * 10 + 5, none⟩ = some (.int .i64 y.it.ln) ∧ W9.cell? ⟨g, off + jj * 10 + 6, none⟩ = some (.int .i64 y.it.ar) ∧ W9.cell? ⟨g, off + jj * 10 + 7, none⟩ = some (.bool y.it.bad) ∧ W9.cell? ⟨g, off + jj * 10 + 8, none⟩ = some (.int .i64 y.st) ∧ W9.cell? ⟨g, off + jj * 10 + 9, none⟩ = some (.int .i64 y.n) := HCS.out _ HP.out.gr
            refine wpAnyH_ready (rs := [10]) (by kernel_rfl) (by simp) ?_
            refine AllReadyH.cons (o := _) rfl (fun K hK => ?_) AllReadyH.nil
            go_simp
            rw [← hW9]
            refine hK.out _ _ (S9) (fun hHeld => ?_)
            clear hK K
            try simp only [Act.put, List.setIfInBounds_toArray, List.set_cons_zero, List.set_cons_succ]
            refine wpAnyH_take (i := 11) (oi := ⟨some 13, _, _, _, _, none⟩) (v := ?_) rfl (by kernel_rfl) (by kernel_rfl) (by kernel_rfl) (fun _ _ _ h => h) (Or.inl ⟨by rfl, ?_⟩) (by assumption) ?_
            case refine_2 => intro w hSw; (try dsimp only at hSw); go_simp; try with_reducible rfl
            try simp only [Act.put, List.setIfInBounds_toArray, List.set_cons_zero, List.set_cons_succ]
            refine wpAnyH_done (by kernel_rfl) ?_ _
            clear x0 x1 x2 y0 y1 y2 hW9 S9 S2 SC
            go_wp2
            go_roundw
            case rel => exact ⟨jj + 1, n5, c5, n6, c6, A5, A6, by go_num, HJ.out.2, Lib.hid HJ.out.1, HP⟩
            case measure =>
              have := HJ.out
              simp [intOf]
              omega
          case neg =>
            have key : (¬ (jj : Int) < (kb : Int)) ∨ ((jj : Int) < (kb : Int) ∧ ¬ (jj : Int) < 40) := by omega
            clear hin
            have HQF := Lib.hid (fun W (g : wr.grownBy W none) => HQ.out.grown (only_trans HS.out.gr g))
            have HFF := Lib.hid (fun W (g : wr.grownBy W none) => HS.out.grown g)
            have HNH := Lib.hid (fun W => Qu.nil_head W)
            have HNP := Lib.hid (fun W => Qu.nil_put W)
            have HNF := Lib.hid (fun W => Qu.nil_finish W)
            have HNS := Lib.hid (fun W => Qu.nil_settle W)
            have HNW := Lib.hid (fun W => Qu.nil_waits W)
            have HNB := Lib.hid (fun W => Qu.nil_backlog W)
            have HNL := Lib.hid (fun W => Qu.nil_len W)
            have HNO := Lib.hid (fun W => Qu.nil_post W)
            have HNK := Lib.hid (fun W => Qu.nil_fork W)
            rcases key with e1 | ⟨e1, e2⟩
            all_goals
              go_wp2_with (first
                | (go_at_call 13; (with_reducible refine (HNH.out _).mono ?_); rintro e w5 ⟨rfl, g5⟩; have G5 := Lib.hid g5; clear g5)
                | (go_at_call 10; (with_reducible refine (Qu.live_any _).mono ?_); rintro e w6 ⟨rfl, g6⟩; have G6 := Lib.hid (only_trans (only_alloc G5.out _) g6); clear g6; obtain ⟨⟨a0, a1, a2⟩, _, _, _⟩ := Qu.cells3 (HQF.out _ G6.out).bk)
                | (go_at_call 9; (with_reducible refine (HQF.out _ G6.out).told.mono ?_); rintro e w7 ⟨rfl, g7⟩; have G7 := Lib.hid (only_trans G6.out g7); clear g7 a0 a1 a2; obtain ⟨⟨b0, b1, b2⟩, _, _, _⟩ := Qu.cells3 (HFF.out _ G7.out).bk)
                | (go_at_call 9; (with_reducible refine (HFF.out _ G7.out).told.mono ?_); rintro e w8 ⟨rfl, g8⟩; have G8 := Lib.hid (only_trans G7.out g8); clear g8 b0 b1 b2)
                | (go_at_call 11; (with_reducible refine (HNP.out _).mono ?_); rintro e w9 ⟨rfl, g9⟩; have G9 := Lib.hid (only_trans G8.out g9); clear g9)
                | (go_at_call 14; (with_reducible refine (HNF.out _).mono ?_); rintro e w' ⟨rfl, rfl⟩)
                | (go_at_call 12; (with_reducible refine (HNS.out _).mono ?_); rintro e wt ⟨rfl, gt⟩; have GT := Lib.hid (only_trans G9.out gt); clear gt)
                | (go_at_call 18; (with_reducible refine (HNW.out _).mono ?_); rintro e w' ⟨rfl, rfl⟩)
                | (go_at_call 19; (with_reducible refine (HNB.out _).mono ?_); rintro e w' ⟨rfl, gb⟩; have GT2 := Lib.hid (only_trans GT.out gb); clear gb)
                | (go_at_call 16; (with_reducible refine (HNL.out _).mono ?_); rintro e w' ⟨rfl, rfl⟩)
                | (go_at_call 15; (with_reducible refine (HNO.out _).mono ?_); rintro e w' ⟨rfl, rfl⟩)
                | (go_at_call 17; (with_reducible refine (HNK.out _).mono ?_); rintro e w' ⟨rfl, rfl⟩))
              go_ret
              exact ⟨by first | rfl | (simp; done), Qu.bel (only_trans GW.out (only_trans HS.out.gr GT2.out))⟩
end Go.Proofs.Ytkiifafocmjfkaa

/- QueueForks: what becomes of a fork changes nothing of the other one; a nil queue is empty: for every limit and two lists of deeds the law returns true. -/
namespace Go.Proofs.Ytkiifafocmjfkaa
open Go.RowKit Go.Lib Go.ChangeShapes Go.WideShapes Go.ChangeAt Go.Deep Go.Joins
open Go.ChangeMaps (open_string shut_string)
set_option linter.unusedVariables false

theorem queueForks_own : ownKnob Try.prog.godebug = none := by kernel_rfl
theorem queueForks_laid : laidOutB Try.prog = true := by kernel_rfl
set_option maxRecDepth 100000 in
theorem queueForks_lifted (os : Os) (started : os.Started) (H : Type) (enc : TypeId × Value → H) :
    ReturnsInHanded {} Try.checked os 5 .any (Rows.queueForksSpec.pre6 enc Try.prog Try.f5 Rows.queueForksRow.domain false) (Rows.queueForksSpec.post enc Try.prog Try.f5 false true false false) := by
  refine returnsInHanded_of_change (C := Try.checked) queueForks_own started (by kernel_rfl) Try.func5
    (ChangeSpec.witness6 (enc := enc) (C := Try.checked) false ⟨#[], #[.int .i64 0, .slice none 0 0, .slice none 0 0], []⟩ 8 (by kernel_rfl) (by kernel_rfl) (by kernel_rfl) (by kernel_rfl)) ?_
  intro W base args ds gs before hval0 hW hcnd _
  have hval : ∀ (j : Nat) t v, Try.f5.params[j]? = some t → args[j]? = some v → Value.okWide Try.prog W .any base t v := hval0
  have hW' := hW
  obtain ⟨p, q, hA0, hV, rfl, hfz, hnd⟩ := hW
  have hA : DataW.TrodAll enc Try.prog W 0 (fun _ => true) true Try.f5.params.toList args.toList ds p := hA0
  rw [Try.params5] at hA hval
  obtain ⟨v0, vs0, d0, ds0, p0, q0, hargs, rfl, rfl, h0, r0⟩ := trodAll_cons hA
  obtain ⟨v1, vs1, d1, ds1, p1, q1, rfl, rfl, rfl, h1, r1⟩ := trodAll_cons r0
  obtain ⟨v2, vs2, d2, ds2, p2, q2, rfl, rfl, rfl, h2, r2⟩ := trodAll_cons r1
  obtain ⟨rfl, rfl, rfl⟩ := trodAll_nil r2
  obtain rfl : args = #[v0, v1, v2] := by cases args; simp_all
  obtain ⟨rfl, rfl⟩ := trodVars_none hV
  obtain ⟨a0, rfl, rfl, rfl, w0⟩ := open_int Try.underlying3 (hval 0 3 v0 rfl rfl) h0
  obtain ⟨A1, len1, cap1, rfl⟩ := okWide_slice Try.underlying22 (hval 1 22 v1 rfl rfl)
  have k1 := h1
  have lt1 : ∀ x ∈ p1, x.block < W.heap.size := by obtain ⟨m, hm⟩ := k1; exact DataW.trod_lt m _ _ _ hm
  obtain ⟨fuel1, hf1⟩ := h1
  obtain ⟨hlc1, hcm1, D1, hst1, hfit1⟩ := Qu.open_dds (by simpa [Value.cells] using hf1)
  obtain ⟨A2, len2, cap2, rfl⟩ := okWide_slice Try.underlying22 (hval 2 22 v2 rfl rfl)
  have k2 := h2
  have lt2 : ∀ x ∈ p2, x.block < W.heap.size := by obtain ⟨m, hm⟩ := k2; exact DataW.trod_lt m _ _ _ hm
  obtain ⟨fuel2, hf2⟩ := h2
  obtain ⟨hlc2, hcm2, D2, hst2, hfit2⟩ := Qu.open_dds (by simpa [Value.cells] using hf2)
  clear hA0 hval0
  refine (Qu.forks_walk a0 A1 len1 cap1 D1 A2 len2 cap2 D2 W hst1 hlc1 hcm1 hst2 hlc2 hcm2).mono fun e W' ⟨he, bel⟩ => ?_
  subst he
  exact ⟨_, rfl, _, _, _, [], _, [], hW', trodAll_mk1 (shut_bool Try.underlying4 _), (trodAll_cons_mk (shut_int Try.underlying3 w0) (trodAll_cons_mk (Below.trod queueForks_laid (by kernel_rfl) (of_decide_eq_true (by kernel_rfl)) k1 bel lt1) (trodAll_cons_mk (Below.trod queueForks_laid (by kernel_rfl) (of_decide_eq_true (by kernel_rfl)) k2 bel lt2) trodAll_mk0))), rfl, bel.frame _, fun h => by cases h⟩

theorem queueForks_holds : Rows.QueueForksSaid :=
  OpenClaim.holds_of_wide 5 Try.f5 rfl rfl rfl rfl rfl rfl rfl ⟨rfl, rfl, rfl, rfl, rfl⟩ rfl rfl rfl rfl rfl (by kernel_rfl) Try.func5 (by kernel_rfl)
    (of_decide_eq_true (by kernel_rfl)) (by unfold Func.isWrapper; first | (rw [if_pos (by decide +kernel)]; kernel_rfl) | (rw [if_neg (by decide +kernel)]; exact ⟨rfl, rfl⟩))
    (fun os started H enc _ => queueForks_lifted os started H enc)
#print axioms queueForks_holds
end Go.Proofs.Ytkiifafocmjfkaa
