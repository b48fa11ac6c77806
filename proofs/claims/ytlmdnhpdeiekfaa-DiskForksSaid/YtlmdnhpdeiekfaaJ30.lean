/- The law's step on both disks, where a job is started. -/
import Derived.Test.YtlmdnhpdeiekfaaJ29
namespace Go.Proofs.Ytlmdnhpdeiekfaa
open Go.RowKit Go.Lib
set_option linter.unusedVariables false

section
variable {w w1 w' : World} {d : Nat → Prt} {n b x : Nat} {A : Option Addr} {c B : Nat} {S : Nat → UInt8} {bz : Bool} {jd jr : Jb} {sd sr : Int} {bv v : Value} {E : Nat → Value} {m : Nat} {rc : Nat → Rec}
set_option maxRecDepth 20000 in
set_option maxHeartbeats 6400000 in
theorem step14_start (h : Tw w d n b x A c B S bz jd jr sd sr bv v E m rc) (he : newE d n = 0) (hn : n ≤ 8) (kd tick : Int) (j : Jb) (hkd : kd = 0) (ht : fitI tick) (hj : FitJ j) (hm : m ≤ 900) :
    Calls Try.prog 11 #[.pointer (some ⟨b, 0, none⟩), .pointer (some ⟨x, 0, none⟩), .agg #[.int .i64 kd, .int .i64 tick, .int .i64 j.1, .int .i64 j.2.1, .int .i64 j.2.2.1, .bool j.2.2.2.1, .string j.2.2.2.2]] w (StepT w d n b x A c B m bv v) := by
  have hwit : ∀ k, k < 9 → Within (tblN d n k) := tblN_within he
  have h1000 : n ≤ 1000 := by omega
  have hww : ∀ i, i < n → Within (d i) := fun i hi => Within.of (newE_may he i hi)
  have hbl : b < w.heap.size := h.dev.lt
  have hxl : x < w.heap.size := Blk.lt h.doc
  have HA := Lib.hid fun (W : World) (hW : Below w.heap.size w W) => ask_any (h.below hW).dev hwit j hj
  have HR := Lib.hid fun (W : World) (hW : Below w.heap.size w W) => rask_any A n c d j W x bv bz jr sr (h.below hW).doc (h.below hW).row h1000 hww
  rw [ask_eq he] at HR
  have HJ := Lib.hid fun (W : World) => rjob_any j W
  subst hkd
  have HS2 := Lib.hid fun (W : World) (hW : Below w.heap.size w W) => starts_both (h.below hW) he hn tick j hj
  obtain ⟨o, s, nn, wr, t⟩ := j
  generalize startV (tblN d n) bz tick (o, s, nn, wr, t) = sv at HS2
  generalize askD (tblN d n) (o, s, nn, wr, t) = av at HA HR
  have HT := Lib.hid fun (W : World) (hW : Below (w.heap.size + 1) (w.alloc (.cells #[.int .i64 0, .int .i64 tick, .int .i64 o, .int .i64 s, .int .i64 nn, .bool wr, .string t] 38)) W) => (show Below w.heap.size w W from ((Below.refl w.heap.size w).alloc (Nat.le_refl _) _).trans (hW.mono (Nat.le_succ _)))
  have HC := Lib.hid fun (W : World) (hW : Below (w.heap.size + 1) (w.alloc (.cells #[.int .i64 0, .int .i64 tick, .int .i64 o, .int .i64 s, .int .i64 nn, .bool wr, .string t] 38)) W) => (show W.cell? ⟨w.heap.size, 0, none⟩ = some (.int .i64 0) ∧ W.cell? ⟨w.heap.size, 1, none⟩ = some (.int .i64 tick) ∧ W.cell? ⟨w.heap.size, 2, none⟩ = some (.int .i64 o) ∧ W.cell? ⟨w.heap.size, 3, none⟩ = some (.int .i64 s) ∧ W.cell? ⟨w.heap.size, 4, none⟩ = some (.int .i64 nn) ∧ W.cell? ⟨w.heap.size, 5, none⟩ = some (.bool wr) ∧ W.cell? ⟨w.heap.size, 6, none⟩ = some (.string t) from by
    have q := Blk.below (Blk.new w 38 #[.int .i64 0, .int .i64 tick, .int .i64 o, .int .i64 s, .int .i64 nn, .bool wr, .string t]) hW (Nat.lt_succ_self _)
    exact ⟨q.cell 0, q.cell 1, q.cell 2, q.cell 3, q.cell 4, q.cell 5, q.cell 6⟩)
  have HH := Lib.hid h
  have NF : Hid (¬ Foot b x bv v w.heap.size) := Lib.hid fun hf => by
    rcases hf with (hf | hf) | hf | hf
    · omega
    · have := (h.log.blk _ hf).2
      omega
    · omega
    · have := h.bys.1.lt _ hf
      omega
  clear h hwit hww hbl hxl
  show Calls Try.prog 11 #[.pointer (some ⟨b, 0, none⟩), .pointer (some ⟨x, 0, none⟩), .agg #[.int .i64 0, .int .i64 tick, .int .i64 o, .int .i64 s, .int .i64 nn, .bool wr, .string t]] w (StepT w d n b x A c B m bv v)
  go_enter Try.func11, Try.ntmps11
  go_wp2
  obtain ⟨c0, c1, c2, c3, c4, c5, c6⟩ := HC.out _ (below_drewN (Below.refl _ _) 1)
  go_region_held3 (fun w' => w'.cell? ⟨w.heap.size, 2, none⟩ = some (.int .i64 o) ∧ w'.cell? ⟨w.heap.size, 3, none⟩ = some (.int .i64 s) ∧ w'.cell? ⟨w.heap.size, 4, none⟩ = some (.int .i64 nn) ∧ w'.cell? ⟨w.heap.size, 5, none⟩ = some (.bool wr) ∧ w'.cell? ⟨w.heap.size, 6, none⟩ = some (.string t))
    (first | exact ⟨c2, c3, c4, c5, c6⟩ | exact (HC.out _ E3.out).2.2 | exact (HC.out _ E2.out).2.2 | exact (HC.out _ E1.out).2.2 | go_keep)
    (first
      | (go_at_call 22; have HQ := HR.out _ (HT.out _ E2.out); refine HQ.mono ?_; clear HQ; rintro e w3 ⟨rfl, b3⟩; have E3 := Lib.hid (box_next E2.out b3); clear b3)
      | (go_at_call 23; go_loud (have HQ := HJ.out w1); go_loud (refine HQ.mono ?_); clear HQ; rintro e w2 ⟨rfl, b2⟩; go_loud (have E2 := Lib.hid (box_next E1.out b2)); clear b2)
      | (go_at_call 19; have HQ := HA.out _ (HT.out _ (below_drewN (Below.refl _ _) 1)); refine HQ.mono ?_; clear HQ; rintro e w1 ⟨rfl, g1⟩; have E1 := Lib.hid (box_next (below_drewN (Below.refl _ _) 1) (below_of_only g1 (Nat.le_refl _) (by simp))); clear g1))
  all_goals
    obtain ⟨z0, z1, z2, z3, z4, z5, z6⟩ := HC.out _ E3.out
    have L3 : Hid (w.heap.size < w3.heap.size) := Lib.hid (by have := box_size E3.out; omega)
    go_wp2
    have HS3 := Lib.hid (HS2.out (w3.drewN 1) (HT.out _ (below_drewN E3.out 1)))
    refine wp_region_held_drew (S := fun w' => w'.cell? ⟨w.heap.size, 1, none⟩ = some (.int .i64 tick) ∧ w'.cell? ⟨w.heap.size, 2, none⟩ = some (.int .i64 o) ∧ w'.cell? ⟨w.heap.size, 3, none⟩ = some (.int .i64 s) ∧ w'.cell? ⟨w.heap.size, 4, none⟩ = some (.int .i64 nn) ∧ w'.cell? ⟨w.heap.size, 5, none⟩ = some (.bool wr) ∧ w'.cell? ⟨w.heap.size, 6, none⟩ = some (.string t)) (by kernel_rfl) (HC.out _ (below_drewN E3.out 1)).2 (fun hHeld => ?_)
    refine wpAnyH_take (i := 0) (oi := _) (v := ?_) rfl (by kernel_rfl) (by kernel_rfl) (by kernel_rfl) (fun _ _ _ h => h) (Or.inl ⟨by rfl, ?_⟩) (by assumption) ?_
    case refine_2 => intro w hSw; (try dsimp only at hSw); go_simp; try with_reducible rfl
    try simp only [Act.put, List.setIfInBounds_toArray, List.set_cons_zero, List.set_cons_succ]
    refine wpAnyH_take (i := 1) (oi := _) (v := ?_) rfl (by kernel_rfl) (by kernel_rfl) (by kernel_rfl) (fun _ _ _ h => h) (Or.inl ⟨by rfl, ?_⟩) (by assumption) ?_
    case refine_2 => intro w hSw; (try dsimp only at hSw); go_simp; try with_reducible rfl
    try simp only [Act.put, List.setIfInBounds_toArray, List.set_cons_zero, List.set_cons_succ]
    refine wpAnyH_take (i := 2) (oi := _) (v := ?_) rfl (by kernel_rfl) (by kernel_rfl) (by kernel_rfl) (fun _ _ _ h => h) (Or.inl ⟨by rfl, ?_⟩) (by assumption) ?_
    case refine_2 => intro w hSw; (try dsimp only at hSw); go_simp; try with_reducible rfl
    try simp only [Act.put, List.setIfInBounds_toArray, List.set_cons_zero, List.set_cons_succ]
    refine wpAnyH_take (i := 3) (oi := _) (v := ?_) rfl (by kernel_rfl) (by kernel_rfl) (by kernel_rfl) (fun _ _ _ h => h) (Or.inl ⟨by rfl, ?_⟩) (by assumption) ?_
    case refine_2 => intro w hSw; (try dsimp only at hSw); go_simp; try with_reducible rfl
    try simp only [Act.put, List.setIfInBounds_toArray, List.set_cons_zero, List.set_cons_succ]
    refine wpAnyH_take (i := 4) (oi := _) (v := ?_) rfl (by kernel_rfl) (by kernel_rfl) (by kernel_rfl) (fun _ _ _ h => h) (Or.inl ⟨by rfl, ?_⟩) (by assumption) ?_
    case refine_2 => intro w hSw; (try dsimp only at hSw); go_simp; try with_reducible rfl
    try simp only [Act.put, List.setIfInBounds_toArray, List.set_cons_zero, List.set_cons_succ]
    refine wpAnyH_take (i := 6) (oi := _) (v := ?_) rfl (by kernel_rfl) (by kernel_rfl) (by kernel_rfl) (fun _ _ _ h => h) (Or.inl ⟨by rfl, ?_⟩) (by assumption) ?_
    case refine_2 => intro w hSw; (try dsimp only at hSw); go_simp; try with_reducible rfl
    try simp only [Act.put, List.setIfInBounds_toArray, List.set_cons_zero, List.set_cons_succ]
    refine wpAnyH_take (i := 7) (oi := _) (v := ?_) rfl (by kernel_rfl) (by kernel_rfl) (by kernel_rfl) (fun _ _ _ h => h) (Or.inl ⟨by rfl, ?_⟩) (by assumption) ?_
    case refine_2 => intro w hSw; (try dsimp only at hSw); go_simp; try with_reducible rfl
    try simp only [Act.put, List.setIfInBounds_toArray, List.set_cons_zero, List.set_cons_succ]
    refine wpAnyH_take (i := 8) (oi := _) (v := ?_) rfl (by kernel_rfl) (by kernel_rfl) (by kernel_rfl) (fun _ _ _ h => h) (Or.inl ⟨by rfl, ?_⟩) (by assumption) ?_
    case refine_2 => intro w hSw; (try dsimp only at hSw); go_simp; try with_reducible rfl
    try simp only [Act.put, List.setIfInBounds_toArray, List.set_cons_zero, List.set_cons_succ]
    refine wpAnyH_take (i := 9) (oi := _) (v := ?_) rfl (by kernel_rfl) (by kernel_rfl) (by kernel_rfl) (fun _ _ _ h => h) (Or.inl ⟨by rfl, ?_⟩) (by assumption) ?_
    case refine_2 => intro w hSw; (try dsimp only at hSw); go_simp; try with_reducible rfl
    try simp only [Act.put, List.setIfInBounds_toArray, List.set_cons_zero, List.set_cons_succ]
    refine wpAnyH_take (i := 10) (oi := _) (v := ?_) rfl (by kernel_rfl) (by kernel_rfl) (by kernel_rfl) (fun _ _ _ h => h) (Or.inl ⟨by rfl, ?_⟩) (by assumption) ?_
    case refine_2 => intro w hSw; (try dsimp only at hSw); go_simp; try with_reducible rfl
    try simp only [Act.put, List.setIfInBounds_toArray, List.set_cons_zero, List.set_cons_succ]
    refine wpAnyH_ready (rs := [5]) (by kernel_rfl) (by simp) ?_
    refine AllReadyH.cons (o := _) rfl (fun K hK => ?_) AllReadyH.nil
    go_simp
    have HQ := HS3.out
    refine HQ.mono ?_
    clear HQ
    rintro e w4 ⟨rfl, k4, c4⟩
    have HC4 := Lib.hid c4
    have E4 : Hid (Below (w.heap.size + 1) (w.alloc (.cells #[.int .i64 0, .int .i64 tick, .int .i64 o, .int .i64 s, .int .i64 nn, .bool wr, .string t] 38)) (w3.drewN 1)) := Lib.hid (below_drewN E3.out 1)
    have S4 : Hid (w4.cell? ⟨w.heap.size, 1, none⟩ = some (.int .i64 tick) ∧ w4.cell? ⟨w.heap.size, 2, none⟩ = some (.int .i64 o) ∧ w4.cell? ⟨w.heap.size, 3, none⟩ = some (.int .i64 s) ∧ w4.cell? ⟨w.heap.size, 4, none⟩ = some (.int .i64 nn) ∧ w4.cell? ⟨w.heap.size, 5, none⟩ = some (.bool wr) ∧ w4.cell? ⟨w.heap.size, 6, none⟩ = some (.string t)) := Lib.hid (by
      obtain ⟨q0, q1, q2, q3, q4, q5, q6⟩ := HC.out _ E4.out
      exact ⟨k4.cellO q1 L3.out NF.out, k4.cellO q2 L3.out NF.out, k4.cellO q3 L3.out NF.out, k4.cellO q4 L3.out NF.out, k4.cellO q5 L3.out NF.out, k4.cellO q6 L3.out NF.out⟩)
    have K4 := Lib.hid k4
    clear k4 c4
    try simp only []
    refine hK.out _ _ (S4.out) (fun hHeld => ?_)
    clear hK K
    try simp only [Act.put, List.setIfInBounds_toArray, List.set_cons_zero, List.set_cons_succ]
    refine wpAnyH_ready (rs := [11]) (by kernel_rfl) (by simp) ?_
    refine AllReadyH.cons (o := _) rfl (fun K hK => ?_) AllReadyH.nil
    go_simp
    have HQ := HJ.out w4
    refine HQ.mono ?_
    clear HQ
    rintro e w5 ⟨rfl, b5⟩
    have S5 : Hid (w5.cell? ⟨w.heap.size, 1, none⟩ = some (.int .i64 tick) ∧ w5.cell? ⟨w.heap.size, 2, none⟩ = some (.int .i64 o) ∧ w5.cell? ⟨w.heap.size, 3, none⟩ = some (.int .i64 s) ∧ w5.cell? ⟨w.heap.size, 4, none⟩ = some (.int .i64 nn) ∧ w5.cell? ⟨w.heap.size, 5, none⟩ = some (.bool wr) ∧ w5.cell? ⟨w.heap.size, 6, none⟩ = some (.string t)) := Lib.hid (by
      obtain ⟨q1, q2, q3, q4, q5, q6⟩ := S4.out
      have hlt : w.heap.size < w4.heap.size := Nat.lt_of_lt_of_le L3.out K4.out.size
      exact ⟨(b5.cell (p := ⟨w.heap.size, 1, none⟩) hlt).trans q1, (b5.cell (p := ⟨w.heap.size, 2, none⟩) hlt).trans q2, (b5.cell (p := ⟨w.heap.size, 3, none⟩) hlt).trans q3, (b5.cell (p := ⟨w.heap.size, 4, none⟩) hlt).trans q4, (b5.cell (p := ⟨w.heap.size, 5, none⟩) hlt).trans q5, (b5.cell (p := ⟨w.heap.size, 6, none⟩) hlt).trans q6⟩)
    have B5 := Lib.hid b5
    clear b5
    try simp only []
    refine hK.out _ _ (S5.out) (fun hHeld => ?_)
    clear hK K
    try simp only [Act.put, List.setIfInBounds_toArray, List.set_cons_zero, List.set_cons_succ]
    refine wpAnyH_ready (rs := [12]) (by kernel_rfl) (by simp) ?_
    refine AllReadyH.cons (o := _) rfl (fun K hK => ?_) AllReadyH.nil
    go_simp
    have HQ := HC4.out w5 B5.out
    refine HQ.mono ?_
    clear HQ
    rintro e w6 ⟨rfl, S6, bz6, jd6, jr6, sd6, sr6, v6, F6, m6, rc6, h6, hm6, k6⟩
    have x2 : w6.cell? ⟨x, 2, none⟩ = some (.bool bz6) := Blk.cell h6.doc 2
    have HB6 := Lib.hid (busy_any h6.dev)
    have T6 : Hid (w6.cell? ⟨w.heap.size, 1, none⟩ = some (.int .i64 tick) ∧ w6.cell? ⟨w.heap.size, 2, none⟩ = some (.int .i64 o) ∧ w6.cell? ⟨w.heap.size, 3, none⟩ = some (.int .i64 s) ∧ w6.cell? ⟨w.heap.size, 4, none⟩ = some (.int .i64 nn) ∧ w6.cell? ⟨w.heap.size, 5, none⟩ = some (.bool wr) ∧ w6.cell? ⟨w.heap.size, 6, none⟩ = some (.string t)) := Lib.hid (by
      obtain ⟨q0, q1, q2, q3, q4, q5, q6⟩ := HC.out _ E4.out
      exact ⟨k6.cellO q1 L3.out NF.out, k6.cellO q2 L3.out NF.out, k6.cellO q3 L3.out NF.out, k6.cellO q4 L3.out NF.out, k6.cellO q5 L3.out NF.out, k6.cellO q6 L3.out NF.out⟩)
    have FIN : Hid (TwN w d n b x A c B m bv v w6) := Lib.hid ⟨S6, bz6, jd6, jr6, sd6, sr6, v6, F6, m6, rc6, h6, hm6, (Keeps.of_below (HT.out _ E3.out) _).trans ((Keeps.drew (Keeps.refl _ _) 1).trans k6)⟩
    clear h6 k6
    try simp only []
    refine hK.out _ _ (T6.out) (fun hHeld => ?_)
    clear hK K
    try simp only [Act.put, List.setIfInBounds_toArray, List.set_cons_zero, List.set_cons_succ]
    refine wpAnyH_ready (rs := [13]) (by kernel_rfl) (by simp) ?_
    refine AllReadyH.cons (o := _) rfl (fun K hK => ?_) AllReadyH.nil
    go_simp
    refine hK.out _ _ (T6.out) (fun hHeld => ?_)
    clear hK K
    try simp only [Act.put, List.setIfInBounds_toArray, List.set_cons_zero, List.set_cons_succ]
    refine wpAnyH_ready (rs := [14]) (by kernel_rfl) (by simp) ?_
    refine AllReadyH.cons (o := _) rfl (fun K hK => ?_) AllReadyH.nil
    go_simp
    refine hK.out _ _ (T6.out) (fun hHeld => ?_)
    clear hK K
    try simp only [Act.put, List.setIfInBounds_toArray, List.set_cons_zero, List.set_cons_succ]
    refine wpAnyH_take (i := 15) (oi := _) (v := ?_) rfl (by kernel_rfl) (by kernel_rfl) (by kernel_rfl) (fun _ _ _ h => h) (Or.inl ⟨by rfl, ?_⟩) (by assumption) ?_
    case refine_2 => intro w hSw; (try dsimp only at hSw); go_simp; try with_reducible rfl
    try simp only [Act.put, List.setIfInBounds_toArray, List.set_cons_zero, List.set_cons_succ]
    refine wpAnyH_take (i := 17) (oi := _) (v := ?_) rfl (by kernel_rfl) (by kernel_rfl) (by kernel_rfl) (fun _ _ _ h => h) (Or.inl ⟨by rfl, ?_⟩) (by assumption) ?_
    case refine_2 => intro w hSw; (try dsimp only at hSw); go_simp; try with_reducible rfl
    try simp only [Act.put, List.setIfInBounds_toArray, List.set_cons_zero, List.set_cons_succ]
    refine wpAnyH_take (i := 18) (oi := _) (v := ?_) rfl (by kernel_rfl) (by kernel_rfl) (by kernel_rfl) (fun _ _ _ h => h) (Or.inl ⟨by rfl, ?_⟩) (by assumption) ?_
    case refine_2 => intro w hSw; (try dsimp only at hSw); go_simp; try with_reducible rfl
    try simp only [Act.put, List.setIfInBounds_toArray, List.set_cons_zero, List.set_cons_succ]
    refine wpAnyH_take (i := 19) (oi := _) (v := ?_) rfl (by kernel_rfl) (by kernel_rfl) (by kernel_rfl) (fun _ _ _ h => h) (Or.inl ⟨by rfl, ?_⟩) (by assumption) ?_
    case refine_2 => intro w hSw; (try dsimp only at hSw); go_simp; try with_reducible rfl
    try simp only [Act.put, List.setIfInBounds_toArray, List.set_cons_zero, List.set_cons_succ]
    refine wpAnyH_ready (rs := [16, 20]) (by kernel_rfl) (by simp) ?_
    refine AllReadyH.cons (o := _) rfl (fun K hK => ?_) (AllReadyH.cons (o := _) rfl (fun K hK => ?_) AllReadyH.nil)
    · go_simp
      have HQ := HB6.out
      refine HQ.mono ?_
      clear HQ
      rintro e w7 ⟨rfl, rfl⟩
      try simp only []
      refine hK.out _ _ (T6.out) (fun hHeld => ?_)
      clear hK K
      try simp only [Act.put, List.setIfInBounds_toArray, List.set_cons_zero, List.set_cons_succ]
      refine wpAnyH_ready (rs := [20]) (by kernel_rfl) (by simp) ?_
      refine AllReadyH.cons (o := _) rfl (fun K hK => ?_) AllReadyH.nil
      go_simp
      refine hK.out _ _ (T6.out) (fun hHeld => ?_)
      clear hK K
      try simp only [Act.put, List.setIfInBounds_toArray, List.set_cons_zero, List.set_cons_succ]
      refine wpAnyH_ready (rs := [21]) (by kernel_rfl) (by simp) ?_
      refine AllReadyH.cons (o := _) rfl (fun K hK => ?_) AllReadyH.nil
      go_simp
      refine hK.out _ _ (T6.out) (fun hHeld => ?_)
      clear hK K
      try simp only [Act.put, List.setIfInBounds_toArray, List.set_cons_zero, List.set_cons_succ]
      refine wpAnyH_ready (rs := [22]) (by kernel_rfl) (by simp) ?_
      refine AllReadyH.cons (o := _) rfl (fun K hK => ?_) AllReadyH.nil
      go_simp
      refine hK.out _ _ (T6.out) (fun hHeld => ?_)
      clear hK K
      try simp only [Act.put, List.setIfInBounds_toArray, List.set_cons_zero, List.set_cons_succ]
      refine wpAnyH_ready (rs := [23]) (by kernel_rfl) (by simp) ?_
      refine AllReadyH.cons (o := _) rfl (fun K hK => ?_) AllReadyH.nil
      go_simp
      refine hK.out _ _ (T6.out) (fun hHeld => ?_)
      clear hK K
      try simp only [Act.put, List.setIfInBounds_toArray, List.set_cons_zero, List.set_cons_succ]
      refine wpAnyH_done (by kernel_rfl) ?_ _
      go_wp2
      go_ret
      exact ⟨by simp, FIN.out⟩
    · go_simp
      refine hK.out _ _ (T6.out) (fun hHeld => ?_)
      clear hK K
      try simp only [Act.put, List.setIfInBounds_toArray, List.set_cons_zero, List.set_cons_succ]
      refine wpAnyH_ready (rs := [16]) (by kernel_rfl) (by simp) ?_
      refine AllReadyH.cons (o := _) rfl (fun K hK => ?_) AllReadyH.nil
      go_simp
      have HQ := HB6.out
      refine HQ.mono ?_
      clear HQ
      rintro e w7 ⟨rfl, rfl⟩
      try simp only []
      refine hK.out _ _ (T6.out) (fun hHeld => ?_)
      clear hK K
      try simp only [Act.put, List.setIfInBounds_toArray, List.set_cons_zero, List.set_cons_succ]
      refine wpAnyH_ready (rs := [21]) (by kernel_rfl) (by simp) ?_
      refine AllReadyH.cons (o := _) rfl (fun K hK => ?_) AllReadyH.nil
      go_simp
      refine hK.out _ _ (T6.out) (fun hHeld => ?_)
      clear hK K
      try simp only [Act.put, List.setIfInBounds_toArray, List.set_cons_zero, List.set_cons_succ]
      refine wpAnyH_ready (rs := [22]) (by kernel_rfl) (by simp) ?_
      refine AllReadyH.cons (o := _) rfl (fun K hK => ?_) AllReadyH.nil
      go_simp
      refine hK.out _ _ (T6.out) (fun hHeld => ?_)
      clear hK K
      try simp only [Act.put, List.setIfInBounds_toArray, List.set_cons_zero, List.set_cons_succ]
      refine wpAnyH_ready (rs := [23]) (by kernel_rfl) (by simp) ?_
      refine AllReadyH.cons (o := _) rfl (fun K hK => ?_) AllReadyH.nil
      go_simp
      refine hK.out _ _ (T6.out) (fun hHeld => ?_)
      clear hK K
      try simp only [Act.put, List.setIfInBounds_toArray, List.set_cons_zero, List.set_cons_succ]
      refine wpAnyH_done (by kernel_rfl) ?_ _
      go_wp2
      go_ret
      exact ⟨by simp, FIN.out⟩
end
end Go.Proofs.Ytlmdnhpdeiekfaa
