import Derived.Test.YtfhhcpmoaggdmaaGreatZ05
set_option linter.all false
/- append of many onto a row of the call's own. No program is spoken of here. -/
namespace Go.Proofs.YtfhhcpmoaggdmaaGreat
open Go.RowKit Go.Lib
set_option linter.unusedVariables false

/-- append of a whole row onto an empty one of no room. -/
theorem run_allZ {P : Program} {s : Nat} (w : World) (t e ty : TypeId) (i : TypeInfo) (z : Value) (bytes : Nat) (ht : P.underlying t = some (.slice e)) (hi : P.info? e = some i) (hz : i.zero = some z) (hs : i.size = s) (hby : i.bytes = bytes) (hb16 : bytes ≤ 64) (hzs : z.cells.size = s)
    (b m : Nat) (hb : b < w.heap.size) (xs : Value) (x : List Value) (hx : Src P s t xs m x w) (hn : m ≤ 1000000) :
    ∃ v' w', (Builtin.append_ #[t, t] ty #[.slice (some ⟨b, 0, none⟩) 0 0, xs]).run P w = .ok v' w' ∧ RowZ s w' v' m x ∧ w.grownBy w' none ∧ (v'.ownBlock = some b ∨ v'.ownBlock = some w.heap.size) ∧ ∃ A c, v' = .slice (some A) m c := by
  have hxl : x.length = m * s := hx.newsLen
  have hsrc : Src P i.size t xs m x w := by rw [hs]; exact hx
  rcases Nat.eq_zero_or_pos m with rfl | hm
  · have hx0 : x = [] := List.eq_nil_of_length_eq_zero (by omega)
    subst hx0
    have hr := run_append_room_src (P := P) w t t ty e i ht hi b 0 0 0 xs 0 [] hsrc (by omega) (by simp) (by simp)
    exact ⟨_, _, hr, RowZ.empty s 0 hb, only_refl w none, .inl rfl, _, _, rfl⟩
  · have hbm : (0 + m) * bytes ≤ 140737488355328 := by
      have : (0 + m) * bytes ≤ 1000001 * 64 := Nat.mul_le_mul (by omega) hb16
      omega
    have hold := ((RowZ.empty (w := w) s 0 hb).drewN 1).src (P := P) t e ht (by simp) |>.cells
    have hm2 : 0 + m ≤ maxLen := by unfold maxLen; omega
    have hge := grownCap_ge w (0 + m) 0 e
    have hcm := grownCap_le_maxLen w (0 + m) 0 e hm2
    have hr := run_append_grow_src (P := P) w t t ty e i z ht hi hz (some ⟨b, 0, none⟩) 0 0 [] (by rw [hs]; exact hold) xs m x hsrc (by omega) (by omega) (by rw [hby]; exact growslice_fits (by omega) hbm)
    rw [Nat.zero_add, List.nil_append] at hr
    rw [Nat.zero_add] at hge hcm
    refine ⟨_, _, hr, ?_, ⟨rfl, rfl, rfl, by simp, fun k hk _ => Below.heap_alloc w.drew _ k hk⟩, .inr rfl, _, _, rfl⟩
    refine RowZ.new w.drew _ e _ hxl ?_ hge hcm (fun j u hu => ?_)
    · simp only [Array.size_append, List.size_toArray, size_zeroCells, hzs, hxl]
      rw [← Nat.add_mul]
      congr 1
      omega
    · have hj := (List.getElem?_eq_some_iff.1 hu).1
      rw [Array.getElem?_append_left (by simpa using hj)]
      simpa using hu

/-- append of many onto a row. -/
theorem run_joinZ {P : Program} {s : Nat} (w : World) (t e ty : TypeId) (i : TypeInfo) (z : Value) (bytes : Nat) (ht : P.underlying t = some (.slice e)) (hi : P.info? e = some i) (hz : i.zero = some z) (hs : i.size = s) (hby : i.bytes = bytes) (hb16 : bytes ≤ 64) (hzs : z.cells.size = s)
    (g off cap n m : Nat) (l : List Value) (h : RowZ s w (.slice (some ⟨g, off, none⟩) n cap) n l) (h1 : ∀ u ∈ l, u.oneCell' = true) (xs : Value) (x : List Value) (hx : Src P s t xs m x w) (hn : n + m ≤ 1000000) :
    ∃ v' w', (Builtin.append_ #[t, t] ty #[.slice (some ⟨g, off, none⟩) n cap, xs]).run P w = .ok v' w' ∧ RowZ s w' v' (n + m) (l ++ x) ∧ w.grownBy w' (some g) ∧ (v'.ownBlock = some g ∨ v'.ownBlock = some w.heap.size) ∧ ∃ A c, v' = .slice (some A) (n + m) c := by
  have hxl : x.length = m * s := hx.newsLen
  have hl0 : l.length = n * s := h.1
  have hlx : (l ++ x).length = (n + m) * s := by rw [List.length_append, hl0, hxl, Nat.add_mul]
  have hbm : (n + m) * bytes ≤ 140737488355328 := by
    have : (n + m) * bytes ≤ 1000001 * 64 := Nat.mul_le_mul (by omega) hb16
    omega
  have hsrc : Src P i.size t xs m x w := by rw [hs]; exact hx
  obtain ⟨hl, ⟨he, _⟩ | ⟨g', off', cap', he, h2, h3, h4, h5, h6⟩⟩ := id h
  · cases he
  · injection he with e1 e2 e3
    injection e1 with e1
    injection e1 with e4 e5
    subst e4 e5 e3
    by_cases hroom : n + m ≤ cap
    · have hcs : n * s + m * s ≤ cap * s := by
        have := Nat.mul_le_mul_right s hroom
        rw [Nat.add_mul] at this
        exact this
      have hr := run_append_room_src (P := P) w t t ty e i ht hi g off n cap xs m x hsrc hroom (by
        intro j hj
        rw [hs, Nat.add_assoc]
        exact (h5 (n * s + j) (by omega)).1) (by
        intro j hj
        rw [hs, Nat.add_assoc]
        exact (h5 (n * s + j) (by omega)).2)
      rw [hs] at hr
      have hsome : ∀ k, k < x.length → (w.cell? ⟨g, off + n * s + k, none⟩).isSome = true := fun k hk => by
        rw [Nat.add_assoc]
        exact (h5 (n * s + k) (by omega)).1
      refine ⟨_, _, hr, ⟨hlx, .inr ⟨g, off, cap, rfl, hroom, h3, ?_, ?_, ?_⟩⟩, only_cells _ _ _ _, .inl rfl, _, _, rfl⟩
      · rw [(setCells_at g x (off + n * s) w).2.2.2.1]
        exact h4
      · intro j hj
        rw [World.frozen?_setCells]
        refine ⟨?_, (h5 j hj).2⟩
        by_cases e1 : n * s ≤ j ∧ j < n * s + m * s
        · have := World.cell?_setCells_in g x (off + n * s) w hsome (j - n * s) (by omega)
          rw [show off + n * s + (j - n * s) = off + j by omega] at this
          rw [this]
          rfl
        · rw [World.cell?_setCells_out g x (off + n * s) w _ (by intro _ _; simp; omega)]
          exact (h5 j hj).1
      · intro j u hu
        by_cases e1 : j < n * s
        · rw [List.getElem?_append_left (by omega)] at hu
          rw [World.cell?_setCells_out g x (off + n * s) w _ (by intro _ _; simp; omega)]
          exact h6 j u hu
        · have hj := (List.getElem?_eq_some_iff.1 hu).1
          rw [List.length_append, hl] at hj
          rw [List.getElem?_append_right (by omega), hl] at hu
          have := World.cell?_setCells_in g x (off + n * s) w hsome (j - n * s) (by omega)
          rw [show off + n * s + (j - n * s) = off + j by omega] at this
          rw [this, ← List.getElem?_eq_getElem]
          exact hu
    · have hold := ((h.drewN 1).src (P := P) t e ht h1).cells
      have hm : n + m ≤ maxLen := by unfold maxLen; omega
      have hge := grownCap_ge w (n + m) cap e
      have hcm := grownCap_le_maxLen w (n + m) cap e hm
      have hr := run_append_grow_src (P := P) w t t ty e i z ht hi hz (some ⟨g, off, none⟩) n cap l (by rw [hs]; exact hold) xs m x hsrc (by omega) (by omega) (by rw [hby]; exact growslice_fits (by omega) hbm)
      refine ⟨_, _, hr, ?_, ⟨rfl, rfl, rfl, by simp, fun k hk _ => Below.heap_alloc w.drew _ k hk⟩, .inr rfl, _, _, rfl⟩
      refine RowZ.new w.drew _ e _ hlx ?_ hge hcm (fun j u hu => ?_)
      · simp only [Array.size_append, List.size_toArray, size_zeroCells, hzs, hlx]
        rw [← Nat.add_mul]
        congr 1
        omega
      · have hj := (List.getElem?_eq_some_iff.1 hu).1
        rw [Array.getElem?_append_left (by simpa using hj)]
        simpa using hu
end Go.Proofs.YtfhhcpmoaggdmaaGreat

/- Package slot: check, by its contract; a table that is being made. -/
namespace Go.Proofs.YtfhhcpmoaggdmaaGreat
open Go.RowKit Go.Lib Go.Sort
set_option linter.unusedVariables false

/-- A slot that may not be. -/
def sBad (f : Int) (x : W3) : Bool := decide (x.1 < 1) || decide (8 < x.1) || !inB (w3s x) f
/-- Why a slot can't stand beside others; 0: it can. -/
def sE (f : Int) (d : Nat → W3) (n : Nat) (x : W3) : Int := if sBad f x then 2 else if anyB (fun i => meetsB (w3s x) (w3s (d i))) n then 11 else 0
/-- The same of the first ones of a row, each beside those ahead. -/
def newE (f : Int) (d : Nat → W3) : Nat → Int
  | 0 => 0
  | n + 1 => if newE f d n = 0 then sE f d n (d n) else newE f d n
theorem meetsB_comm (a b : Int × Int) : meetsB a b = meetsB b a := by
  unfold meetsB
  cases isB a <;> cases isB b <;> simp [Bool.or_comm]
set_option maxHeartbeats 1600000 in
theorem scheck_any (b : Nat) (f : Int) (A : Option Addr) (n cap : Nat) (d : Nat → W3) (x : W3) (w : World) (hb : Blk w b 96 #[.int .i64 f, .slice A n cap]) (hst : Row3 w A n d) (hm : n ≤ 9223372036854775807) :
    Calls Tryz.prog 48 #[.pointer (some ⟨b, 0, none⟩), w3v x] w fun e w' => e = .returned (.int .i64 (sE f d n x)) ∧ w.grownBy w' none := by
  obtain ⟨x1, x2, x3⟩ := x
  show Calls Tryz.prog 48 #[.pointer (some ⟨b, 0, none⟩), .agg #[.int .i64 x1, .int .i64 x2, .int .i64 x3]] w _
  obtain ⟨W1, hW, G0, hB⟩ := box1 w 84 #[.int .i64 x1, .int .i64 x2, .int .i64 x3]
  have HX := Lib.hid (fun W => sticks_any (x1, x2, x3) W)
  have HI := Lib.hid (fun W => in_any (x2, x3) f W)
  have HC := Lib.hid (fun (W : World) (g : W1.grownBy W none) => hasc17_any w.heap.size (fun i => meetsB (x2, x3) (w3s (d i))) A n cap d W ((hst.grown G0).grown g) hm (fun i hi W' hg => schk_any (x1, x2, x3) (d i) w.heap.size W' ((hB.only g (by simp)).only hg (by simp))))
  have HE := Lib.hid (show sE f d n (x1, x2, x3) = if (decide (x1 < 1) || decide (8 < x1) || !inB (x2, x3) f) = true then 2 else if anyB (fun i => meetsB (x2, x3) (w3s (d i))) n = true then 11 else 0 from rfl)
  generalize sE f d n (x1, x2, x3) = r at HE ⊢
  generalize inB (x2, x3) f = c at *
  generalize anyB (fun i => meetsB (x2, x3) (w3s (d i))) n = z at *
  have hbt := hb.only G0 (by simp)
  have k1 := blk_re hbt
  have k2 := blk_re hB
  have G0 := Lib.hid G0
  have HBT := Lib.hid hbt
  have hne : ¬ b = w.heap.size := by have := hb.lt; omega
  clear hB hb hst hbt
  have key : (x1 < 1) ∨ (¬ x1 < 1 ∧ 8 < x1) ∨ (¬ x1 < 1 ∧ ¬ 8 < x1 ∧ c = false) ∨ (¬ x1 < 1 ∧ ¬ 8 < x1 ∧ c = true ∧ z = true) ∨ (¬ x1 < 1 ∧ ¬ 8 < x1 ∧ c = true ∧ z = false) := by
    cases c <;> cases z <;> simp <;> omega
  rcases key with h1 | ⟨h1, h2⟩ | ⟨h1, h2, rfl⟩ | ⟨h1, h2, rfl, rfl⟩ | ⟨h1, h2, rfl, rfl⟩
  all_goals
    go_enter Tryz.func48, Tryz.ntmps48
    go_upto_region 1 with (fail)
    rw [← hW]
    clear hW
    have hd1 : decide (x1 < 1) = true ∨ decide (x1 < 1) = false := by simp; omega
    have hd2 : decide (8 < x1) = true ∨ decide (8 < x1) = false := by simp; omega
    rcases hd1 with hd1 | hd1 <;> first | (exfalso; simp at hd1; omega) | skip
    rcases hd2 with hd2 | hd2 <;> first | (exfalso; simp at hd2; omega) | skip
    all_goals
      refine wp_region_quiet_below (by kernel_rfl) (by kernel_rfl) ?_
      repeat (go_big_quiet_step ((first | (go_at_call 63; with_reducible exact rg1 (HX.out _)) | (go_at_call 86; with_reducible exact rg1 (HI.out _)))))
      refine wpQuiet_nil ?_
      intro w3 hw3
      obtain ⟨p, rfl⟩ := hw3
      have G3 := Lib.hid (only_re W1 p.d p.os)
      have hbt := HBT.out.only G3.out (by simp)
      clear k1 k2
      generalize grow (redrawn W1 p.d) p.os = w3 at G3 hbt ⊢
      have d0 : w3.cell? ⟨b, 0, none⟩ = some (.int .i64 f) := hbt.cell 0
      have d1 : w3.cell? ⟨b, 1, none⟩ = some (.slice A n cap) := hbt.cell 1
      clear hbt
      go_wp2_with (go_at_call 87; (with_reducible refine (HC.out _ G3.out).mono ?_); rintro e w4 ⟨rfl, g4⟩; replace G3 := Lib.hid (only_trans G3.out g4); clear g4)
      go_ret
      exact ⟨ret_int (by rw [HE.out]; simp [hd1, hd2] <;> omega), only_trans G0.out G3.out⟩
/-- What is kept of a table that is being made. -/
structure PT (w W : World) (b : Nat) (f : Int) (v : Value) (n : Nat) (xs : List Value) : Prop where
  bt : Blk W b 96 #[.int .i64 f, v]
  bl : Below w.heap.size w W
  lo : w.heap.size ≤ b
  row : RowZ 3 W v n xs
  own : ∀ q, v.ownBlock = some q → b < q
theorem PT.only {w W W' : World} {b : Nat} {f : Int} {v : Value} {n : Nat} {xs : List Value} (h : PT w W b f v n xs) (g : W.grownBy W' none) : PT w W' b f v n xs :=
  ⟨h.bt.only g (by simp), h.bl.trans (below_of_only g h.bl.size (by simp)), h.lo, h.row.grown g, h.own⟩
theorem slot17_info : (Tryz.prog.info? 84).map (fun i => (i.zero, i.size, i.bytes)) = some (some (.agg #[.int .i64 0, .int .i64 0, .int .i64 0]), 3, 24) := by kernel_rfl
/-- One more slot: what the region leaves on its way, and behind it. -/
def PTP (w wr : World) (b : Nat) (f : Int) (v : Value) (n : Nat) (xs ys : List Value) (v' : Value) (w' : World) : Prop :=
  PT w (w'.setCell ⟨b, 1, none⟩ v') b f v' (n + 1) (xs ++ ys) ∧ (∀ W, W = wr.drew ∨ W = (wr.alloc (.cells ys.toArray 84)).drew ∨ W = w' → W.cell? ⟨b, 1, none⟩ = some v) ∧ (∀ W, W = wr.drew ∨ W = (wr.alloc (.cells ys.toArray 84)).drew ∨ W = w' → ∀ g, g < wr.heap.size → v.ownBlock ≠ some g → ∀ i, W.cell? ⟨g, i, none⟩ = wr.cell? ⟨g, i, none⟩) ∧ w'.frozen? ⟨b, 1, none⟩ = false ∧ ∃ A c, v' = .slice A (n + 1) c
theorem cell_heap {w w' : World} {g : Nat} (h : w'.heap[g]? = w.heap[g]?) (i : Nat) : w'.cell? ⟨g, i, none⟩ = w.cell? ⟨g, i, none⟩ := by simp only [World.cell?, h]
theorem PT.push {w wr : World} {b : Nat} {f : Int} {v : Value} {n : Nat} {xs ys : List Value} (h : PT w wr b f v n xs)
    (h1 : ∀ u ∈ xs, u.oneCell' = true) (h2 : ∀ u ∈ ys, u.oneCell' = true) (hy : ys.length = 3) (hn : n ≤ 1000) :
    ∃ v' w', (Builtin.append_ #[23, 23] 23 #[v, .slice (some ⟨wr.heap.size, 0, none⟩) 1 1]).run Tryz.prog (wr.alloc (.cells ys.toArray 84)).drew = .ok v' w' ∧ PTP w wr b f v n xs ys v' w' := by
  obtain ⟨i0, hi, hz, hs, hby⟩ := info_parts slot17_info
  have hgw := h.bt.lt
  have b1 : Blk (wr.alloc (.cells ys.toArray 84)).drew wr.heap.size 84 ys.toArray := (Blk.new wr 84 ys.toArray).drewN 1
  have hsrc : Src Tryz.prog 3 23 (.slice (some ⟨wr.heap.size, 0, none⟩) 1 1) 1 ys (wr.alloc (.cells ys.toArray 84)).drew := Src.ofSlice _ Tryz.underlying23 _ _ _ _ (by omega) (fun k u hu => by
    rw [addr_at, Nat.zero_add, b1.cell k]
    simpa using hu) h2
  have g1 : wr.grownBy (wr.alloc (.cells ys.toArray 84)).drew none := only_drewN (only_alloc (only_refl _ none) _) 1
  obtain ⟨v', w', hk, hr, hg, ho⟩ := run_pushZ (P := Tryz.prog) (wr.alloc (.cells ys.toArray 84)).drew 23 84 23 i0 _ 24 Tryz.underlying23 hi hz hs hby (by omega) rfl _ _ _ (h.row.grown g1) h1 _ _ hsrc (by omega)
  have hsz : (wr.alloc (.cells ys.toArray 84)).drew.heap.size = wr.heap.size + 1 := by simp
  have hov : ∀ q, v'.ownBlock = some q → b < q := fun q hq => by
    rcases ho with ho | ho
    · exact h.own q (ho ▸ hq)
    · rw [ho] at hq; injection hq with hq; omega
  have hvg : ∀ q, q ≤ b → v.ownBlock ≠ some q := fun q hq e => by have := h.own q e; omega
  have hne : v'.ownBlock ≠ some b := fun e => by have := hov b e; omega
  have bc1 := (h.bt.only g1 (by simp)).only hg (fun e => hvg b (Nat.le_refl _) e.symm)
  have bw : Below w.heap.size w w' := (h.bl.trans (below_of_only g1 h.bl.size (by simp))).trans (below_of_only hg (by have := h.bl.size; omega) (fun q hq => by have := h.own q hq; have := h.lo; omega))
  refine ⟨v', w', hk, ⟨bc1.put 1 v', bw.setCell (p := ⟨b, 1, none⟩) h.lo _, h.lo, hr.put (p := ⟨b, 1, none⟩) hne _, hov⟩, fun W hW => ?_, fun W hW g hgl hgv i => ?_, bc1.free 1, hr.form⟩
  · rcases hW with rfl | rfl | rfl
    · exact (h.bt.drewN 1).cell 1
    · exact (h.bt.only g1 (by simp)).cell 1
    · exact bc1.cell 1
  · rcases hW with rfl | rfl | rfl
    · rfl
    · exact cell_heap (g1.block g hgl (by simp)) i
    · exact cell_heap ((hg.block g (by omega) (fun e => hgv e.symm)).trans (g1.block g hgl (by simp))) i
end Go.Proofs.YtfhhcpmoaggdmaaGreat

/- Rows of slots as1 lists of cells. -/
namespace Go.Proofs.YtfhhcpmoaggdmaaGreat
open Go.RowKit Go.Lib Go.Sort
set_option linter.unusedVariables false

theorem sflat_len {α : Type} (f : Nat → List α) (s : Nat) (hf : ∀ i, (f i).length = s) (n : Nat) : ((List.range n).flatMap f).length = n * s := by
  induction n with
  | zero => simp
  | succ n ih =>
    rw [List.range_succ, List.flatMap_append, List.length_append, ih, Nat.add_mul, Nat.one_mul]
    simp [hf]
theorem sflat_get {α : Type} (f : Nat → List α) (s : Nat) (hf : ∀ i, (f i).length = s) (n i t : Nat) (hi : i < n) (ht : t < s) : ((List.range n).flatMap f)[i * s + t]? = (f i)[t]? := by
  induction n with
  | zero => omega
  | succ n ih =>
    have hl := sflat_len f s hf n
    rw [List.range_succ, List.flatMap_append]
    by_cases h : i < n
    · have : (i + 1) * s ≤ n * s := Nat.mul_le_mul_right s h
      rw [Nat.add_mul, Nat.one_mul] at this
      rw [List.getElem?_append_left (by omega), ih h]
    · obtain rfl : i = n := by omega
      rw [List.getElem?_append_right (by omega), hl, Nat.add_sub_cancel_left]
      simp
/-- A slot's three cells; those of slots. -/
def encS (x : W3) : List Value := [.int .i64 x.1, .int .i64 x.2.1, .int .i64 x.2.2]
def sL (d : Nat → W3) (n : Nat) : List Value := (List.range n).flatMap fun (i : Nat) => encS (d i)
theorem sL_succ (d : Nat → W3) (n : Nat) : sL d (n + 1) = sL d n ++ encS (d n) := by
  simp [sL, List.range_succ, List.flatMap_append]
theorem sL_one (d : Nat → W3) (n : Nat) : ∀ u ∈ sL d n, u.oneCell' = true := by
  intro u hu
  simp only [sL, encS, List.mem_flatMap] at hu
  obtain ⟨i, _, h⟩ := hu
  simp at h
  rcases h with rfl | rfl | rfl <;> rfl
theorem sL_len (d : Nat → W3) (n : Nat) : (sL d n).length = n * 3 := sflat_len _ 3 (fun i => rfl) n
theorem sL_get {d : Nat → W3} {n i t : Nat} (hi : i < n) (ht : t < 3) : (sL d n)[i * 3 + t]? = (encS (d i))[t]? :=
  sflat_get _ 3 (fun i => rfl) n i t hi ht
theorem srow_of {w : World} {A : Option Addr} {n cap : Nat} {d : Nat → W3} (h : RowZ 3 w (.slice A n cap) n (sL d n)) : Row3 w A n d := by
  rcases h with ⟨hl, ⟨e, h0⟩ | ⟨g, off, cap', e, h1, h2, h3, h4, h5⟩⟩
  · injection e with e1 e2 e3
    exact ⟨fun _ => h0, fun hp => by omega⟩
  · injection e with e1 e2 e3
    subst e1
    have g0 : ∀ i t u, i < n → t < 3 → (encS (d i))[t]? = some u → w.cell? ⟨g, off + i * 3 + t, none⟩ = some u := fun i t u hi ht hu => by
      rw [Nat.add_assoc]
      exact h5 _ u (by rw [sL_get hi ht]; exact hu)
    exact ⟨fun x => (by cases x), fun hp => ⟨g, off, rfl, h3, fun i hi => ⟨g0 i 0 _ hi (by omega) rfl, g0 i 1 _ hi (by omega) rfl, g0 i 2 _ hi (by omega) rfl⟩⟩⟩
theorem PT.row3 {w W : World} {b : Nat} {f : Int} {A : Option Addr} {n c : Nat} {d : Nat → W3} (h : PT w W b f (.slice A n c) n (sL d n)) : Row3 W A n d := srow_of h.row
end Go.Proofs.YtfhhcpmoaggdmaaGreat

/- Slots that make a table: what follows; what the bus is at a tick. -/
namespace Go.Proofs.YtfhhcpmoaggdmaaGreat
open Go.RowKit Go.Lib Go.Sort
set_option linter.unusedVariables false

/-- Slots that are spans of the frame, and do not meet. -/
def GoodS (f : Int) (n : Nat) (d : Nat → W3) : Prop := (∀ i, i < n → 1 ≤ (d i).1 ∧ (d i).1 ≤ 8 ∧ 0 ≤ (d i).2.1 ∧ (d i).2.1 < (d i).2.2 ∧ (d i).2.2 ≤ f) ∧ ∀ i k, i < n → k < n → i ≠ k → (d i).2.2 ≤ (d k).2.1 ∨ (d k).2.2 ≤ (d i).2.1
theorem newE_zero {f : Int} {d : Nat → W3} : ∀ {n : Nat}, newE f d n = 0 → ∀ i, i < n → sE f d i (d i) = 0
  | 0, _, i, hi => by omega
  | n + 1, h, i, hi => by
    rw [newE] at h
    by_cases h0 : newE f d n = 0
    · rw [if_pos h0] at h
      by_cases e : i = n
      · rw [e]; exact h
      · exact newE_zero h0 i (by omega)
    · rw [if_neg h0] at h
      exact absurd h h0
theorem sE_zero {f : Int} {d : Nat → W3} {i : Nat} {x : W3} (h : sE f d i x = 0) : (1 ≤ x.1 ∧ x.1 ≤ 8 ∧ 0 ≤ x.2.1 ∧ x.2.1 < x.2.2 ∧ x.2.2 ≤ f) ∧ ∀ k, k < i → meetsB (w3s x) (w3s (d k)) = false := by
  unfold sE at h
  by_cases hb : sBad f x = true
  · rw [if_pos hb] at h; cases h
  · rw [if_neg hb] at h
    by_cases ha : anyB (fun k => meetsB (w3s x) (w3s (d k))) i = true
    · rw [if_pos ha] at h; cases h
    · have hb' : sBad f x = false := by simpa using hb
      unfold sBad inB w3s at hb'
      simp at hb'
      refine ⟨by omega, fun k hk => anyB_no.1 (by simpa using ha) k hk⟩
theorem apart_of_meets {a b : Int × Int} (ha : 0 ≤ a.1 ∧ a.1 < a.2) (hb : 0 ≤ b.1 ∧ b.1 < b.2) (h : meetsB a b = false) : a.2 ≤ b.1 ∨ b.2 ≤ a.1 := by
  unfold meetsB isB holdsB at h
  simp [ha, hb] at h
  omega
theorem good_of {f : Int} {d : Nat → W3} {n : Nat} (h : newE f d n = 0) : GoodS f n d := by
  have hz := newE_zero h
  refine ⟨fun i hi => (sE_zero (hz i hi)).1, fun i k hi hk hne => ?_⟩
  have a1 := (sE_zero (hz i hi)).1
  have a2 := (sE_zero (hz k hk)).1
  rcases Nat.lt_or_gt_of_ne hne with hik | hik
  · have := apart_of_meets (a := w3s (d k)) (b := w3s (d i)) ⟨a2.2.2.1, a2.2.2.2.1⟩ ⟨a1.2.2.1, a1.2.2.2.1⟩ ((sE_zero (hz k hk)).2 i hik)
    simp only at this
    omega
  · have := apart_of_meets (a := w3s (d i)) (b := w3s (d k)) ⟨a1.2.2.1, a1.2.2.2.1⟩ ⟨a2.2.2.1, a2.2.2.2.1⟩ ((sE_zero (hz i hi)).2 k hik)
    simp only at this
    omega
/-- Two slots that do not meet. -/
def ApS (x y : W3) : Prop := x.2.2 ≤ y.2.1 ∨ y.2.2 ≤ x.2.1
theorem good_list {f : Int} {d : Nat → W3} {n : Nat} : GoodS f n d ↔ (∀ x ∈ (List.range n).map d, 1 ≤ x.1 ∧ x.1 ≤ 8 ∧ 0 ≤ x.2.1 ∧ x.2.1 < x.2.2 ∧ x.2.2 ≤ f) ∧ ((List.range n).map d).Pairwise ApS := by
  constructor
  · rintro ⟨h1, h2⟩
    refine ⟨fun x hx => ?_, ?_⟩
    · obtain ⟨i, hi, rfl⟩ := List.mem_map.1 hx
      exact h1 i (by simpa using hi)
    · rw [List.pairwise_iff_getElem]
      intro i j hi hj hij
      simp at hi hj
      simp only [List.getElem_map, List.getElem_range]
      exact h2 i j hi hj (by omega)
  · rintro ⟨h1, h2⟩
    rw [List.pairwise_iff_getElem] at h2
    refine ⟨fun i hi => h1 (d i) (List.mem_map.2 ⟨i, by simpa using hi, rfl⟩), fun i k hi hk hne => ?_⟩
    rcases Nat.lt_or_gt_of_ne hne with hik | hik
    · have := h2 i k (by simpa using hi) (by simpa using hk) hik
      simp only [List.getElem_map, List.getElem_range] at this
      exact this
    · have := h2 k i (by simpa using hk) (by simpa using hi) hik
      simp only [List.getElem_map, List.getElem_range] at this
      exact Or.symm this
theorem good_perm {f : Int} {d d' : Nat → W3} {n : Nat} (h : GoodS f n d) (p : ((List.range n).map d').Perm ((List.range n).map d)) : GoodS f n d' := by
  rw [good_list] at h ⊢
  exact ⟨fun x hx => h.1 x (p.mem_iff.1 hx), (p.pairwise_iff (fun k => Or.symm k)).2 h.2⟩
theorem perm_at {d d' : Nat → W3} {n : Nat} (p : ((List.range n).map d').Perm ((List.range n).map d)) {i : Nat} (hi : i < n) : ∃ k, k < n ∧ d k = d' i := by
  have := p.mem_iff.1 (List.mem_map.2 ⟨i, by simpa using hi, rfl⟩)
  obtain ⟨k, hk, e⟩ := List.mem_map.1 this
  exact ⟨k, by simpa using hk, e⟩
/-- What the bus is at an offset within a slot. -/
def stp (x : W3) (at' : Int) : W3 := (x.1, if (at' - x.2.1) / 4 < (x.2.2 - x.2.1) / 4 then ((at' - x.2.1) / 4, (at' - x.2.1) % 4) else (-1, 0))
/-- Which slot has an offset. -/
def hasS (d : Nat → W3) (at' : Int) (i : Nat) : Bool := holdsB (w3s (d i)) at'
/-- What the bus is at a tick. -/
def stepV (f : Int) (n : Nat) (d : Nat → W3) (t : Int) : W3 := if t < 0 then (0, -1, 0) else if fstI (hasS d (t % f)) n < 0 then (0, -1, 0) else stp (d (fstI (hasS d (t % f)) n).toNat) (t % f)
theorem stepV_neg {f : Int} {n : Nat} {d : Nat → W3} {t : Int} (h : t < 0) : stepV f n d t = (0, -1, 0) := by rw [stepV, if_pos h]
theorem stepV_none {f : Int} {n : Nat} {d : Nat → W3} {t : Int} (h : 0 ≤ t) (k : ∀ i, i < n → hasS d (t % f) i = false) : stepV f n d t = (0, -1, 0) := by
  rw [stepV, if_neg (by omega), fstI_none k, if_pos (by decide)]
theorem stepV_at {f : Int} {n : Nat} {d : Nat → W3} {t : Int} (h : 0 ≤ t) {i : Nat} (hi : i < n) (k : hasS d (t % f) i = true) (hb : ∀ j, j < i → hasS d (t % f) j = false) : stepV f n d t = stp (d i) (t % f) := by
  rw [stepV, if_neg (by omega), fstI_at hi k hb, if_neg (by omega), Int.toNat_natCast]
theorem has_one {f : Int} {n : Nat} {d : Nat → W3} (g : GoodS f n d) {x : Int} {i k : Nat} (hi : i < n) (hk : k < n) (h1 : hasS d x i = true) (h2 : hasS d x k = true) : i = k := by
  by_cases e : i = k
  · exact e
  · have := g.2 i k hi hk e
    unfold hasS holdsB w3s at h1 h2
    simp at h1 h2
    omega
/-- Of slots that do not meet, whichever has the offset. -/
theorem stepV_any {f : Int} {n : Nat} {d : Nat → W3} (g : GoodS f n d) {t : Int} (h : 0 ≤ t) {i : Nat} (hi : i < n) (k : hasS d (t % f) i = true) : stepV f n d t = stp (d i) (t % f) :=
  stepV_at h hi k (fun j hj => by
    cases hq : hasS d (t % f) j
    · rfl
    · have := has_one g (by omega) hi hq k
      omega)
theorem stepV_perm {f : Int} {n : Nat} {d d' : Nat → W3} (g : GoodS f n d) (p : ((List.range n).map d').Perm ((List.range n).map d)) (t : Int) : stepV f n d' t = stepV f n d t := by
  by_cases h : t < 0
  · rw [stepV_neg h, stepV_neg h]
  · rcases fstI_cases (hasS d' (t % f)) n with ⟨i, hi, _, h1, _⟩ | ⟨_, h1⟩
    · obtain ⟨k, hk, e⟩ := perm_at p hi
      rw [stepV_any (good_perm g p) (by omega) hi h1, stepV_any g (by omega) hk (by unfold hasS at h1 ⊢; rw [e]; exact h1), e]
    · rw [stepV_none (by omega) h1, stepV_none (by omega) (fun i hi => by
        obtain ⟨k, hk, e⟩ := perm_at p.symm hi
        have := h1 k hk
        unfold hasS at this ⊢
        rw [← e]
        exact this)]
/-- Does a unit of an owner begin? -/
def begB (f : Int) (n : Nat) (d : Nat → W3) (t o : Int) : Bool := decide ((stepV f n d t).1 = o ∧ 0 ≤ (stepV f n d t).2.1 ∧ (stepV f n d t).2.2 = 0)
end Go.Proofs.YtfhhcpmoaggdmaaGreat

/- What the bus is at a tick: At, by its contract. -/
namespace Go.Proofs.YtfhhcpmoaggdmaaGreat
open Go.RowKit Go.Lib Go.Sort
set_option linter.unusedVariables false

/-- A table of slots at a block. -/
def TbS (w : World) (b : Nat) (f : Int) (A : Option Addr) (n c : Nat) (d : Nat → W3) : Prop := Blk w b 96 #[.int .i64 f, .slice A n c] ∧ Row3 w A n d
theorem TbS.grown {w w' : World} {b : Nat} {f : Int} {A : Option Addr} {n c : Nat} {d : Nat → W3} (h : TbS w b f A n c d) (g : w.grownBy w' none) : TbS w' b f A n c d := ⟨h.1.only g (by simp), h.2.grown g⟩
theorem PT.tbs {w W : World} {b : Nat} {f : Int} {A : Option Addr} {n c : Nat} {d : Nat → W3} (h : PT w W b f (.slice A n c) n (sL d n)) : TbS W b f A n c d := ⟨h.bt, h.row3⟩
abbrev stv (x : W3) : Value := .agg #[.int .i64 x.1, .int .i64 x.2.1, .int .i64 x.2.2]
/-- Two boxes of steps. -/
theorem two_boxes (w : World) (t : TypeId) (cs cs2 : Array Value) : ∃ W, W = (w.alloc (.cells cs t)).alloc (.cells cs2 t) ∧ w.grownBy W none ∧ Blk W w.heap.size t cs ∧ Blk W (w.heap.size + 1) t cs2 := box2 w t cs t cs2
set_option maxRecDepth 20000 in
set_option maxHeartbeats 1600000 in
theorem sat_nil (t : Int) (w : World) : Calls Tryz.prog 41 #[.pointer none, .int .i64 t] w fun e w' => e = .returned (stv (0, -1, 0)) ∧ w.grownBy w' none := by
  obtain ⟨W1, hW, G1, hR, hS⟩ := two_boxes w 56 #[.int .i64 0, .int .i64 0, .int .i64 0] #[.int .i64 0, .int .i64 (-1), .int .i64 0]
  have GG := Lib.hid G1
  have HR := Lib.hid hR
  have c0 : W1.cell? ⟨w.heap.size, 0, none⟩ = some (.int .i64 0) := hR.cell 0
  have c1 : W1.cell? ⟨w.heap.size, 1, none⟩ = some (.int .i64 0) := hR.cell 1
  have c2 : W1.cell? ⟨w.heap.size, 2, none⟩ = some (.int .i64 0) := hR.cell 2
  have f0 := hR.free 0
  have f1 := hR.free 1
  have f2 := hR.free 2
  have d0 : W1.cell? ⟨w.heap.size + 1, 0, none⟩ = some (.int .i64 0) := hS.cell 0
  have d1 : W1.cell? ⟨w.heap.size + 1, 1, none⟩ = some (.int .i64 (-1)) := hS.cell 1
  have d2 : W1.cell? ⟨w.heap.size + 1, 2, none⟩ = some (.int .i64 0) := hS.cell 2
  clear hR hS G1
  go_enter Tryz.func41, Tryz.ntmps41
  go_upto_region 2 with (fail)
  rw [← hW]
  clear hW
  go_wp2
  have bf := (((HR.out.put 0 (.int .i64 0)).put 1 (.int .i64 (-1))).put 2 (.int .i64 0))
  have r0 := bf.cell 0
  have r1 := bf.cell 1
  have r2 := bf.cell 2
  simp at r0 r1 r2
  refine bodyPost_ret (v := .agg #[.int .i64 0, .int .i64 (-1), .int .i64 0]) (by simp [results, Tryz.results41, go_sem, r0, r1, r2]) rfl ⟨rfl, only_putc (only_putc (only_putc GG.out (p := ⟨w.heap.size, 0, none⟩) (Nat.le_refl _) _) (p := ⟨w.heap.size, 1, none⟩) (Nat.le_refl _) _) (p := ⟨w.heap.size, 2, none⟩) (Nat.le_refl _) _⟩
set_option maxRecDepth 20000 in
set_option maxHeartbeats 1600000 in
theorem stat_any (b : Nat) (f : Int) (A : Option Addr) (n c : Nat) (d : Nat → W3) (t : Int) (w : World) (h : TbS w b f A n c d) (hr : rightB f = true) (hg : GoodS f n d) (hn : n ≤ 1000) (ht : t ≤ 9223372036854775807) :
    Calls Tryz.prog 41 #[.pointer (some ⟨b, 0, none⟩), .int .i64 t] w fun e w' => e = .returned (stv (stepV f n d t)) ∧ w.grownBy w' none := by
  obtain ⟨W1, hW, G1, hR, hS⟩ := two_boxes w 56 #[.int .i64 0, .int .i64 0, .int .i64 0] #[.int .i64 0, .int .i64 (-1), .int .i64 0]
  have GG := Lib.hid G1
  have HR := Lib.hid hR
  have HS := Lib.hid hS
  have HT := Lib.hid (h.grown G1)
  have hbl := h.1.lt
  obtain ⟨f1, f2⟩ := (rightB_iff f).1 hr
  by_cases h0 : t < 0
  · rw [stepV_neg h0]
    have c0 : W1.cell? ⟨w.heap.size, 0, none⟩ = some (.int .i64 0) := hR.cell 0
    have c1 : W1.cell? ⟨w.heap.size, 1, none⟩ = some (.int .i64 0) := hR.cell 1
    have c2 : W1.cell? ⟨w.heap.size, 2, none⟩ = some (.int .i64 0) := hR.cell 2
    have f0 := hR.free 0
    have f1 := hR.free 1
    have f2 := hR.free 2
    have d0 : W1.cell? ⟨w.heap.size + 1, 0, none⟩ = some (.int .i64 0) := hS.cell 0
    have d1 : W1.cell? ⟨w.heap.size + 1, 1, none⟩ = some (.int .i64 (-1)) := hS.cell 1
    have d2 : W1.cell? ⟨w.heap.size + 1, 2, none⟩ = some (.int .i64 0) := hS.cell 2
    clear hR hS G1 h hr hg
    go_enter Tryz.func41, Tryz.ntmps41
    go_upto_region 2 with (fail)
    rw [← hW]
    clear hW
    go_wp2
    have bf := (((HR.out.put 0 (.int .i64 0)).put 1 (.int .i64 (-1))).put 2 (.int .i64 0))
    have r0 := bf.cell 0
    have r1 := bf.cell 1
    have r2 := bf.cell 2
    simp at r0 r1 r2
    refine bodyPost_ret (v := .agg #[.int .i64 0, .int .i64 (-1), .int .i64 0]) (by simp [results, Tryz.results41, go_sem, r0, r1, r2]) rfl ⟨rfl, only_putc (only_putc (only_putc GG.out (p := ⟨w.heap.size, 0, none⟩) (Nat.le_refl _) _) (p := ⟨w.heap.size, 1, none⟩) (Nat.le_refl _) _) (p := ⟨w.heap.size, 2, none⟩) (Nat.le_refl _) _⟩
  have hfrv : frV t f = (t / f, t % f) := by simp [frV, hr]; omega
  have HFC := Lib.hid (fun W => (show Calls Tryz.prog 60 #[.int .i64 t, .int .i64 f] W (fun r w' => r = .returned (.tuple #[.int .i64 (t / f), .int .i64 (t % f)]) ∧ ∃ q, W.drewN q = w') from by
    have := frame_any t f W ht
    rw [hfrv] at this
    exact this))
  have x0 := Int.emod_nonneg t (show f ≠ 0 by omega)
  have x1 := Int.emod_lt_of_pos t (show 0 < f by omega)
  have HV0 := Lib.hid (fun k => stepV_none (f := f) (n := n) (d := d) (t := t) (by omega) k)
  have HV1 := Lib.hid (fun i hi k => stepV_any (f := f) hg (t := t) (by omega) (i := i) hi k)
  have HGD := Lib.hid hg.1
  generalize stepV f n d t = r at HV0 HV1 ⊢
  have HFI := Lib.hid (fstI_cases (hasS d (t % f)) n)
  have HIX := Lib.hid (fun (g : Nat) (W : World) (k : Row3 W A n d) (q : W.cell? ⟨g, 0, none⟩ = some (.int .i64 (t % f))) => (show Calls Tryz.prog 61 #[.slice A n c, .func (.func 62) #[] #[.pointer (some ⟨g, 0, none⟩)]] W (fun e w' => e = .returned (.int .i64 (fstI (hasS d (t % f)) n)) ∧ W.grownBy w' none) from
    idxa17_any g (hasS d (t % f)) A n c d W k (by omega) (fun i hi W' hw => sat_any (d i) (t % f) g W' (by
      have : g < W.heap.size := World.block_lt_of_cell? W _ q
      rw [cell_heap (hw.block g this (by simp)) 0]
      exact q))))
  generalize hx : t % f = x at *
  generalize t / f = y at *
  generalize hfi : fstI (hasS d x) n = fi at *
  clear hfrv hx hfi h hr hg
  have a0 : W1.cell? ⟨b, 0, none⟩ = some (.int .i64 f) := HT.out.1.cell 0
  have hne : ¬ b = w.heap.size := by omega
  have hne2 : ¬ b = w.heap.size + 1 := by omega
  clear hR hS G1
  go_enter Tryz.func41, Tryz.ntmps41
  go_upto_region 2 with (fail)
  rw [← hW]
  have HSZ := Lib.hid (show W1.heap.size = w.heap.size + 2 from by rw [hW]; simp)
  clear hW
  go_upto_region 5 with (go_at_call 60; (with_reducible refine (HFC.out _).mono ?_); rintro e w2 ⟨rfl, q, hq⟩; have g2 : W1.grownBy w2 none := (by rw [← hq]; exact only_drewN (only_refl _ _) q); have T2 := Lib.hid (HT.out.grown g2); have R2 := Lib.hid (HR.out.only g2 (by simp)); have S2 := Lib.hid (HS.out.only g2 (by simp)); have G2 := Lib.hid (only_trans GG.out g2); have SZ2 := Lib.hid (show w.heap.size + 2 ≤ w2.heap.size from by have := g2.size; have := HSZ.out; omega); clear g2 hq a0)
  obtain ⟨w3, hw3⟩ : ∃ w3, w3 = w2.alloc (.cells #[.int .i64 x] 3) := ⟨_, rfl⟩
  have g3 : w2.grownBy w3 none := by rw [hw3]; exact only_alloc (only_refl _ _) _
  have HX : Hid (Blk w3 w2.heap.size 3 #[.int .i64 x]) := Lib.hid (by rw [hw3]; exact Blk.new _ _ _)
  have T3 := Lib.hid (T2.out.grown g3)
  have R3 := Lib.hid (R2.out.only g3 (by simp))
  have S3 := Lib.hid (S2.out.only g3 (by simp))
  have G3 := Lib.hid (only_trans G2.out g3)
  rw [← hw3]
  clear hw3 g3 T2 R2 S2 G2 HT HR HS GG
  have hgx : w.heap.size + 2 ≤ w2.heap.size := SZ2.out
  generalize w2.heap.size = gx at HX hgx ⊢
  have b1 : w3.cell? ⟨b, 1, none⟩ = some (.slice A n c) := T3.out.1.cell 1
  have HI := Lib.hid (HIX.out gx w3 T3.out.2 (HX.out.cell 0))
  rcases HFI.out with ⟨i, hi, rfl, hq, _⟩ | ⟨rfl, hq⟩
  case inr =>
    have HRZ := Lib.hid (HV0.out hq)
    have d0 : ∀ W, w3.grownBy W none → W.cell? ⟨w.heap.size + 1, 0, none⟩ = some (.int .i64 0) ∧ W.cell? ⟨w.heap.size + 1, 1, none⟩ = some (.int .i64 (-1)) ∧ W.cell? ⟨w.heap.size + 1, 2, none⟩ = some (.int .i64 0) ∧ W.cell? ⟨w.heap.size, 0, none⟩ = some (.int .i64 0) ∧ W.cell? ⟨w.heap.size, 1, none⟩ = some (.int .i64 0) ∧ W.cell? ⟨w.heap.size, 2, none⟩ = some (.int .i64 0) ∧ W.frozen? ⟨w.heap.size, 0, none⟩ = false ∧ W.frozen? ⟨w.heap.size, 1, none⟩ = false ∧ W.frozen? ⟨w.heap.size, 2, none⟩ = false := fun W g => by
      have s := S3.out.only g (by simp)
      have r := R3.out.only g (by simp)
      exact ⟨s.cell 0, s.cell 1, s.cell 2, r.cell 0, r.cell 1, r.cell 2, r.free 0, r.free 1, r.free 2⟩
    have D0 := Lib.hid d0
    clear d0 hq HV0 HV1 HFI
    go_wp2_with (go_at_call 61; (with_reducible refine HI.out.mono ?_); rintro e w4 ⟨rfl, g4⟩; obtain ⟨d0, d1, d2, c0, c1, c2, f0, f1, f2⟩ := D0.out w4 g4; have R4 := Lib.hid (R3.out.only g4 (by simp)); have G4 := Lib.hid (only_trans G3.out g4); clear g4 b1)
    have bf := (((R4.out.put 0 (.int .i64 0)).put 1 (.int .i64 (-1))).put 2 (.int .i64 0))
    have r0 := bf.cell 0
    have r1 := bf.cell 1
    have r2 := bf.cell 2
    simp at r0 r1 r2
    refine bodyPost_ret (v := .agg #[.int .i64 0, .int .i64 (-1), .int .i64 0]) (by simp [results, Tryz.results41, go_sem, r0, r1, r2]) rfl ⟨by rw [HRZ.out], only_putc (only_putc (only_putc G4.out (p := ⟨w.heap.size, 0, none⟩) (Nat.le_refl _) _) (p := ⟨w.heap.size, 1, none⟩) (Nat.le_refl _) _) (p := ⟨w.heap.size, 2, none⟩) (Nat.le_refl _) _⟩
  have hgd := HGD.out i hi
  have HRV := Lib.hid (HV1.out i hi hq)
  have hho : holdsB (w3s (d i)) x = true := hq
  clear hq HV0 HV1 HFI HGD HIX
  obtain ⟨bs, off, rfl, hbs, hcs⟩ := T3.out.2.2 (by omega)
  obtain ⟨s0, s1, s2⟩ := hcs i hi
  clear hcs
  obtain ⟨y0, hy0⟩ : ∃ y, y = d i := ⟨_, rfl⟩
  rw [← hy0] at s0 s1 s2 hgd hho HRV
  have HYI := Lib.hid hy0
  clear hy0
  obtain ⟨so, sa, sb⟩ := y0
  simp only at s0 s1 s2 hgd
  have hh : sa ≤ x ∧ x < sb := by unfold holdsB w3s at hho; simp at hho; omega
  have HUN := Lib.hid (fun W => suns_any (so, sa, sb) ⟨by simp only; omega, by simp only; omega, by simp only; omega⟩ W)
  simp only at HUN
  have i1 : (i : Int) < (n : Int) := by omega
  have i0 : ¬ (i : Int) < 0 := by omega
  have i2 : (0 : Int) ≤ (i : Int) := by omega
  have u1 : IntKind.i64.wrap (x - sa) = x - sa := by rw [IntKind.wrap_i64]; omega
  have u2 : Int.tdiv (x - sa) 4 = (x - sa) / 4 := Int.tdiv_eq_ediv_of_nonneg (by omega)
  have u3 : Int.tmod (x - sa) 4 = (x - sa) % 4 := Int.tmod_eq_emod_of_nonneg (by omega)
  have u4 : IntKind.i64.wrap ((x - sa) / 4) = (x - sa) / 4 := by rw [IntKind.wrap_i64]; omega
  have u5 : IntKind.i64.wrap ((x - sa) % 4) = (x - sa) % 4 := by rw [IntKind.wrap_i64]; omega
  have HD := Lib.hid (show ∀ W, w3.grownBy W none → W.cell? ⟨b, 1, none⟩ = some (.slice (some ⟨bs, off, none⟩) n c) ∧ W.cell? ⟨bs, off + i * 3, none⟩ = some (.int .i64 so) ∧ W.cell? ⟨bs, off + i * 3 + 1, none⟩ = some (.int .i64 sa) ∧ W.cell? ⟨bs, off + i * 3 + 2, none⟩ = some (.int .i64 sb) ∧ Blk W w.heap.size 56 #[.int .i64 0, .int .i64 0, .int .i64 0] ∧ Blk W (w.heap.size + 1) 56 #[.int .i64 0, .int .i64 (-1), .int .i64 0] ∧ Blk W gx 3 #[.int .i64 x] from fun W g => by
    have t := T3.out.1.only g (by simp)
    have q : ∀ k, W.cell? ⟨bs, k, none⟩ = w3.cell? ⟨bs, k, none⟩ := fun k => cell_heap (g.block bs hbs (by simp)) k
    exact ⟨t.cell 1, (q _).trans s0, (q _).trans s1, (q _).trans s2, R3.out.only g (by simp), S3.out.only g (by simp), HX.out.only g (by simp)⟩)
  have HBLT := Lib.hid (show b < w3.heap.size ∧ bs < w3.heap.size ∧ gx < w3.heap.size from ⟨T3.out.1.lt, hbs, HX.out.lt⟩)
  clear s0 s1 s2 hho hbs
  go_upto_region 8 with (go_at_call 61; (with_reducible refine HI.out.mono ?_); rintro e w4 ⟨rfl, g4⟩; obtain ⟨z1, s0, s1, s2, R4, S4, X4⟩ := HD.out w4 g4; replace R4 := Lib.hid R4; replace S4 := Lib.hid S4; replace X4 := Lib.hid X4; have G4 := Lib.hid (only_trans G3.out g4); have sz4 := g4.size; clear g4 b1)
  obtain ⟨w5, hw5⟩ : ∃ w5, w5 = w4.alloc (.cells #[.int .i64 so, .int .i64 sa, .int .i64 sb] 84) := ⟨_, rfl⟩
  have g5 : w4.grownBy w5 none := by rw [hw5]; exact only_alloc (only_refl _ _) _
  have HY : Hid (Blk w5 w4.heap.size 84 #[.int .i64 so, .int .i64 sa, .int .i64 sb]) := Lib.hid (by rw [hw5]; exact Blk.new _ _ _)
  have R5 := Lib.hid (R4.out.only g5 (by simp))
  have S5 := Lib.hid (S4.out.only g5 (by simp))
  have X5 := Lib.hid (X4.out.only g5 (by simp))
  have G5 := Lib.hid (only_trans G4.out g5)
  have hgy : gx < w4.heap.size := X4.out.lt
  go_upto_region 9 with (fail)
  rw [← hw5]
  clear hw5 g5 z1 s0 s1 s2 R4 S4 X4 G4 HD HI HX T3 R3 S3 G3
  generalize w4.heap.size = gy at HY hgy ⊢
  have y0 : w5.cell? ⟨gy, 0, none⟩ = some (.int .i64 so) := HY.out.cell 0
  have v0 : w5.cell? ⟨w.heap.size + 1, 0, none⟩ = some (.int .i64 0) := S5.out.cell 0
  have v1 := S5.out.free 0
  go_upto_region 10 with (fail)
  obtain ⟨w6, hw6⟩ : ∃ w6, w6 = w5.setCell ⟨w.heap.size + 1, 0, none⟩ (.int .i64 so) := ⟨_, rfl⟩
  have S6 : Hid (Blk w6 (w.heap.size + 1) 56 #[.int .i64 so, .int .i64 (-1), .int .i64 0]) := Lib.hid (by rw [hw6]; exact S5.out.put 0 (.int .i64 so))
  have R6 : Hid (Blk w6 w.heap.size 56 #[.int .i64 0, .int .i64 0, .int .i64 0]) := Lib.hid (by rw [hw6]; exact R5.out.far (p := ⟨w.heap.size + 1, 0, none⟩) (by show w.heap.size ≠ w.heap.size + 1; omega) _)
  have X6 : Hid (Blk w6 gx 3 #[.int .i64 x]) := Lib.hid (by rw [hw6]; exact X5.out.far (p := ⟨w.heap.size + 1, 0, none⟩) (by show gx ≠ w.heap.size + 1; omega) _)
  have Y6 : Hid (Blk w6 gy 84 #[.int .i64 so, .int .i64 sa, .int .i64 sb]) := Lib.hid (by rw [hw6]; exact HY.out.far (p := ⟨w.heap.size + 1, 0, none⟩) (by show gy ≠ w.heap.size + 1; omega) _)
  have G6 := Lib.hid (show w.grownBy w6 none from by rw [hw6]; exact only_putc G5.out (p := ⟨w.heap.size + 1, 0, none⟩) (Nat.le_succ _) _)
  rw [← hw6]
  clear hw6 y0 v0 v1 HY R5 S5 X5 G5
  have y0 : w6.cell? ⟨gy, 0, none⟩ = some (.int .i64 so) := Y6.out.cell 0
  have y1 : w6.cell? ⟨gy, 1, none⟩ = some (.int .i64 sa) := Y6.out.cell 1
  have y2 : w6.cell? ⟨gy, 2, none⟩ = some (.int .i64 sb) := Y6.out.cell 2
  have x0 : w6.cell? ⟨gx, 0, none⟩ = some (.int .i64 x) := X6.out.cell 0
  have HST := Lib.hid (show r = (so, if (x - sa) / 4 < (sb - sa) / 4 then ((x - sa) / 4, (x - sa) % 4) else (-1, 0)) from HRV.out)
  clear HRV
  by_cases hu : (x - sa) / 4 < (sb - sa) / 4
  case neg =>
    rw [if_neg hu] at HST
    go_wp2_with (go_at_call 64; (with_reducible refine (HUN.out _).mono ?_); rintro e w7 ⟨rfl, g7⟩; have S7 := Lib.hid (S6.out.only g7 (by simp)); have R7 := Lib.hid (R6.out.only g7 (by simp)); have G7 := Lib.hid (only_trans G6.out g7); clear g7 y0 y1 y2 x0; have d0 : w7.cell? ⟨w.heap.size + 1, 0, none⟩ = some (.int .i64 so) := S7.out.cell 0; have d1 : w7.cell? ⟨w.heap.size + 1, 1, none⟩ = some (.int .i64 (-1)) := S7.out.cell 1; have d2 : w7.cell? ⟨w.heap.size + 1, 2, none⟩ = some (.int .i64 0) := S7.out.cell 2; have c0 : w7.cell? ⟨w.heap.size, 0, none⟩ = some (.int .i64 0) := R7.out.cell 0; have c1 : w7.cell? ⟨w.heap.size, 1, none⟩ = some (.int .i64 0) := R7.out.cell 1; have c2 : w7.cell? ⟨w.heap.size, 2, none⟩ = some (.int .i64 0) := R7.out.cell 2; have f0 := R7.out.free 0; have f1' := R7.out.free 1; have f2' := R7.out.free 2)
    have bf := (((R7.out.put 0 (.int .i64 so)).put 1 (.int .i64 (-1))).put 2 (.int .i64 0))
    have r0 := bf.cell 0
    have r1 := bf.cell 1
    have r2 := bf.cell 2
    simp at r0 r1 r2
    refine bodyPost_ret (v := .agg #[.int .i64 so, .int .i64 (-1), .int .i64 0]) (by simp [results, Tryz.results41, go_sem, r0, r1, r2]) rfl ⟨by rw [HST.out], only_putc (only_putc (only_putc G7.out (p := ⟨w.heap.size, 0, none⟩) (Nat.le_refl _) _) (p := ⟨w.heap.size, 1, none⟩) (Nat.le_refl _) _) (p := ⟨w.heap.size, 2, none⟩) (Nat.le_refl _) _⟩
  rw [if_pos hu] at HST
  go_upto_region 12 with (go_at_call 64; (with_reducible refine (HUN.out _).mono ?_); rintro e w7 ⟨rfl, g7⟩; have S7 := Lib.hid (S6.out.only g7 (by simp)); have R7 := Lib.hid (R6.out.only g7 (by simp)); have Y7 := Lib.hid (Y6.out.only g7 (by simp)); have X7 := Lib.hid (X6.out.only g7 (by simp)); have G7 := Lib.hid (only_trans G6.out g7); clear g7 y0 y1 y2 x0)
  clear S6 R6 Y6 X6 G6
  have y1 : w7.cell? ⟨gy, 1, none⟩ = some (.int .i64 sa) := Y7.out.cell 1
  have x0 : w7.cell? ⟨gx, 0, none⟩ = some (.int .i64 x) := X7.out.cell 0
  have d1 : w7.cell? ⟨w.heap.size + 1, 1, none⟩ = some (.int .i64 (-1)) := S7.out.cell 1
  have d2 : w7.cell? ⟨w.heap.size + 1, 2, none⟩ = some (.int .i64 0) := S7.out.cell 2
  have e1 := S7.out.free 1
  have e2 := S7.out.free 2
  have n1 : ¬ gx = w.heap.size + 1 := by omega
  have n2 : ¬ gy = w.heap.size + 1 := by omega
  have n3 : ¬ w.heap.size + 1 = gx := by omega
  have n4 : ¬ w.heap.size + 1 = gy := by omega
  go_region_held3 (fun w' => w'.cell? ⟨gy, 1, none⟩ = some (.int .i64 sa) ∧ w'.cell? ⟨gx, 0, none⟩ = some (.int .i64 x)) (go_keep) (fail)
  obtain ⟨w8, hw8⟩ : ∃ w8, w8 = ((w7.setCell ⟨w.heap.size + 1, 1, none⟩ (.int .i64 ((x - sa) / 4))).setCell ⟨w.heap.size + 1, 2, none⟩ (.int .i64 ((x - sa) % 4))).drew := ⟨_, rfl⟩
  have hS8 : Blk w8 (w.heap.size + 1) 56 #[.int .i64 so, .int .i64 ((x - sa) / 4), .int .i64 ((x - sa) % 4)] := by rw [hw8]; exact ((S7.out.put 1 (.int .i64 ((x - sa) / 4))).put 2 (.int .i64 ((x - sa) % 4))).drewN 1
  have R8 : Hid (Blk w8 w.heap.size 56 #[.int .i64 0, .int .i64 0, .int .i64 0]) := Lib.hid (by rw [hw8]; exact ((R7.out.far (p := ⟨w.heap.size + 1, 1, none⟩) (by show w.heap.size ≠ w.heap.size + 1; omega) _).far (p := ⟨w.heap.size + 1, 2, none⟩) (by show w.heap.size ≠ w.heap.size + 1; omega) _).drewN 1)
  have G8 := Lib.hid (show w.grownBy w8 none from by rw [hw8]; exact only_drewN (only_putc (only_putc G7.out (p := ⟨w.heap.size + 1, 1, none⟩) (Nat.le_succ _) _) (p := ⟨w.heap.size + 1, 2, none⟩) (Nat.le_succ _) _) 1)
  rw [← hw8]
  clear hw8 y1 x0 d1 d2 e1 e2 S7 R7 Y7 X7 G7
  have d0 : w8.cell? ⟨w.heap.size + 1, 0, none⟩ = some (.int .i64 so) := hS8.cell 0
  have d1 : w8.cell? ⟨w.heap.size + 1, 1, none⟩ = some (.int .i64 ((x - sa) / 4)) := hS8.cell 1
  have d2 : w8.cell? ⟨w.heap.size + 1, 2, none⟩ = some (.int .i64 ((x - sa) % 4)) := hS8.cell 2
  have c0 : w8.cell? ⟨w.heap.size, 0, none⟩ = some (.int .i64 0) := R8.out.cell 0
  have c1 : w8.cell? ⟨w.heap.size, 1, none⟩ = some (.int .i64 0) := R8.out.cell 1
  have c2 : w8.cell? ⟨w.heap.size, 2, none⟩ = some (.int .i64 0) := R8.out.cell 2
  have g0 := R8.out.free 0
  have g1 := R8.out.free 1
  have g2 := R8.out.free 2
  clear hS8
  go_wp2
  have bf := (((R8.out.put 0 (.int .i64 so)).put 1 (.int .i64 ((x - sa) / 4))).put 2 (.int .i64 ((x - sa) % 4)))
  have r0 := bf.cell 0
  have r1 := bf.cell 1
  have r2 := bf.cell 2
  simp at r0 r1 r2
  refine bodyPost_ret (v := .agg #[.int .i64 so, .int .i64 ((x - sa) / 4), .int .i64 ((x - sa) % 4)]) (by simp [results, Tryz.results41, go_sem, r0, r1, r2]) rfl ⟨by rw [HST.out], only_putc (only_putc (only_putc G8.out (p := ⟨w.heap.size, 0, none⟩) (Nat.le_refl _) _) (p := ⟨w.heap.size, 1, none⟩) (Nat.le_refl _) _) (p := ⟨w.heap.size, 2, none⟩) (Nat.le_refl _) _⟩
end Go.Proofs.YtfhhcpmoaggdmaaGreat
