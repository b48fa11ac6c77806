/- The document's disk: how its bytes lie; New. -/
import Derived.Test.YtlmdnhpdeiekfaaJ18
import Derived.Test.YtlmdnhpdeiekfaaHZ
import Derived.Test.YtlmdnhpdeiekfaaHE2
namespace Go.Proofs.Ytlmdnhpdeiekfaa
open Go.RowKit Go.Lib
set_option linter.unusedVariables false

/-- append where its run is known, as a step of a region that draws its order. -/
theorem step_app_eq {P : Program} {ops : Array Oper} {o : Oper} {a : Act} {W : World} {K : Act → World → Prop} {Q : Exit → Act → World → Prop} {E : Prop} (hgd : o.guard = none) (s x : Operand) (t : TypeId) (ho : o.op = .call { callee := .builtin .append, args := #[s, x], argTypes := #[t, t] })
    {v xs v' : Value} {w' : World} (hr : (Builtin.append_ #[t, t] o.type #[v, xs]).run P W = .ok v' w') (hs : a.eval s = v) (hx : a.eval x = xs) (h : K (a.put o.dst v') w') : if Region.wanted o (yielded ops a.tmps) = true then Oper.wp P o a W K Q else E := by
  have hw : Region.wanted o (yielded ops a.tmps) = true := by simp [Region.wanted, hgd]
  rw [if_pos hw]
  unfold Oper.wp execOp
  simp only [ho, resolve, invoke, builtin, Sem.run_bind, Sem.run_pure, Result.andThen_ok, List.map_toArray, List.map_cons, List.map_nil, hs, hx, hr]
  exact h
/-- Rows of bytes, each of its own: E tells the slices, L the bytes. -/
def Bys (w : World) (bv : Value) (n : Nat) (E : Nat → Value) (L : Nat → List UInt8) : Prop :=
  RowZ 1 w bv n ((List.range n).map E) ∧ ∀ i, i < n → RowZ 1 w (E i) (L i).length (u8L (L i)) ∧ ∀ k, (E i).ownBlock = some k → bv.ownBlock ≠ some k
theorem bys_info : (Try.prog.info? 71).map (fun i => (i.zero, i.size, i.bytes)) = some (some (.slice none 0 0), 1, 24) := by kernel_rfl
theorem RowZ.one1 {s : Nat} {w : World} {v : Value} {n : Nat} {xs : List Value} (h : RowZ s w v n xs) : v.oneCell' = true := by
  obtain ⟨A, c, rfl⟩ := h.form
  rfl
/-- The bytes of a row before anything was written. -/
def zeroL (p : Prt) : List UInt8 := List.replicate (16 * p.2.2).toNat 0
/-- The document's disk just made of some rows. -/
def NewD (A : Option Addr) (n c : Nat) (d : Nat → Prt) (w : World) (e : Ending) (w' : World) : Prop :=
  ∃ x bv E, e = .returned (.pointer (some ⟨x, 0, none⟩)) ∧ RDk w' x (.slice A n c) bv false noJob 0 ∧ Bys w' bv n E (fun i => zeroL (d i)) ∧ w.heap.size ≤ x ∧ (∀ k, bv.ownBlock = some k → x < k) ∧ (∀ i k, i < n → (E i).ownBlock = some k → x < k) ∧ Below w.heap.size w w'
set_option maxRecDepth 20000 in
set_option maxHeartbeats 3200000 in
theorem rnew14 (A : Option Addr) (n c : Nat) (d : Nat → Prt) (w : World) (hst : PrtsV w A n d) (hw : ∀ i, i < n → Within (d i)) (hn : n ≤ 8) : Calls Try.prog 10 #[.slice A n c] w (NewD A n c d w) := by
  have HST := Lib.hid hst
  have HWI := Lib.hid hw
  clear hst hw
  go_enter Try.func10, Try.ntmps10
  go_wp2
  go_loopw [4] (fun x wr => ∃ (i : Nat) (bv : Value) (E : Nat → Value), x = .int .i64 i ∧ i ≤ n ∧ Hid (RDk wr w.heap.size (.slice A n c) bv false noJob 0 ∧ Bys wr bv i E (fun i => zeroL (d i)) ∧ (∀ k, bv.ownBlock = some k → w.heap.size < k) ∧ (∀ i' k, i' < i → (E i').ownBlock = some k → w.heap.size < k)) ∧ Hid (Below w.heap.size w wr)) (fun x _ => n - (intOf x).toNat)
  case atStart => exact ⟨0, .slice none 0 0, fun _ => .slice none 0 0, rfl, by omega, Lib.hid ⟨Blk.new _ _ _, ⟨RowZ.nil 1 _, fun i hi => absurd hi (by omega)⟩, by simp [Value.ownBlock], fun i' k hi => absurd hi (by omega)⟩, Lib.hid ((Below.refl _ _).alloc (Nat.le_refl _) _)⟩
  case round =>
    obtain ⟨i, bv, E, rfl, hi, HR, HB⟩ := hrel
    by_cases hin : i < n
    · have i1 : (i : Int) < (n : Int) := by omega
      obtain ⟨g, off, rfl, hg, hc⟩ := HST.out.2 (by omega)
      have c2 := (HB.out.cell (p := ⟨g, off + i * 3 + 2, none⟩) hg).trans (hc i hin).2.2
      have hwi := HWI.out i hin
      have x1 : wr.cell? ⟨w.heap.size, 1, none⟩ = some bv := Blk.cell HR.out.1 1
      have hzl : (16 * (d i).2.2).toNat = (zeroL (d i)).length := by simp [zeroL]
      obtain ⟨w1, w2, _, _⟩ := hwi
      have u1 : IntKind.i64.wrap (16 * (d i).2.2) = 16 * (d i).2.2 := by rw [IntKind.wrap_i64]; omega
      clear hc
      obtain ⟨i0, hi0, hz0, hz1, hz2⟩ := info_parts by_info
      obtain ⟨i1', hi1', hz1', hz2', hz3'⟩ := info_parts bys_info
      obtain ⟨cnt, hcnt⟩ : ∃ cnt, cnt = (d i).2.2 := ⟨_, rfl⟩
      rw [← hcnt] at c2 w1 w2 u1 hzl
      have hmk : (Instr.makeSlice 71 (.int .i64 (16 * cnt)) (.int .i64 (16 * cnt))).run Try.prog wr.drew = .ok (.slice (some ⟨wr.heap.size, 0, none⟩) (16 * cnt).toNat (16 * cnt).toNat) (wr.alloc (.cells (madeCells #[Value.int .u8 0] (16 * cnt).toNat) 5)).drew := by
        have := run_makeSlice wr.drew 71 5 i0 (.int .u8 0) Try.underlying71 hi0 hz0 .i64 .i64 (16 * cnt) (16 * cnt) (by omega) (Int.le_refl _) (by rw [hz1]; omega) (by rw [hz2]; omega) (by omega)
        rw [hz1, Nat.mul_one] at this
        exact this
      have hR := HR.out.2.1
      have hlo := HR.out.2.2
      obtain ⟨bA, bc, rfl⟩ := hR.1.form
      have hb2 : Below wr.heap.size wr ((wr.alloc (.cells (madeCells #[Value.int .u8 0] (16 * cnt).toNat) 5)).alloc (.cells #[.slice (some ⟨wr.heap.size, 0, none⟩) (16 * cnt).toNat (16 * cnt).toNat] 71)).drew := below_drewN (((Below.refl _ _).alloc (Nat.le_refl _) _).alloc (by simp) _) 1
      have hrow := hR.1.below hb2 (fun k hk => hR.1.lt k hk)
      have hsrc : Src Try.prog 1 51 (.slice (some ⟨wr.heap.size + 1, 0, none⟩) 1 1) 1 [.slice (some ⟨wr.heap.size, 0, none⟩) (16 * cnt).toNat (16 * cnt).toNat] ((wr.alloc (.cells (madeCells #[Value.int .u8 0] (16 * cnt).toNat) 5)).alloc (.cells #[.slice (some ⟨wr.heap.size, 0, none⟩) (16 * cnt).toNat (16 * cnt).toNat] 71)).drew := Src.ofSlice _ Try.underlying51 _ _ _ _ rfl (fun j u hu => by
        obtain ⟨rfl, rfl⟩ : j = 0 ∧ u = .slice (some ⟨wr.heap.size, 0, none⟩) (16 * cnt).toNat (16 * cnt).toNat := by
          cases j with
          | zero => simp at hu; exact ⟨rfl, hu.symm⟩
          | succ j => simp at hu
        have := (Blk.new (wr.alloc (.cells (madeCells #[Value.int .u8 0] (16 * cnt).toNat) 5)) 71 #[.slice (some ⟨wr.heap.size, 0, none⟩) (16 * cnt).toNat (16 * cnt).toNat]).cell 0
        simp only [World.size_alloc] at this
        rw [addr_at]
        exact this) (by simp [Value.oneCell'])
      obtain ⟨v', w', hk, hr, hg', ho⟩ := run_pushZ (P := Try.prog) _ 51 71 51 i1' _ 24 Try.underlying51 hi1' hz1' hz2' hz3' (by omega) rfl _ _ _ hrow (by intro u hu; obtain ⟨q, hq, rfl⟩ := List.mem_map.1 hu; exact (hR.2 q (by simpa using hq)).1.one1) _ _ hsrc (by omega)
      have hrl := lt_of_block HR.out.1
      have b1 : Below (w.heap.size + 1) wr (wr.alloc (.cells (madeCells #[Value.int .u8 0] (16 * cnt).toNat) 5)).drew := below_drewN ((Below.refl _ _).alloc hrl _) 1
      have b2 : Below (w.heap.size + 1) wr ((wr.alloc (.cells (madeCells #[Value.int .u8 0] (16 * cnt).toNat) 5)).alloc (.cells #[.slice (some ⟨wr.heap.size, 0, none⟩) (16 * cnt).toNat (16 * cnt).toNat] 71)).drew := below_drewN (((Below.refl _ _).alloc hrl _).alloc (by simp; omega) _) 1
      have b3 : Below (w.heap.size + 1) wr w' := b2.trans (below_of_only hg' (by have := b2.size; omega) (fun k hk => hlo.1 k hk))
      obtain ⟨A', c', rfl⟩ := hr.form
      have hx' : Blk w' w.heap.size 54 _ := Blk.below HR.out.1 b3 (Nat.lt_succ_self _)
      have f1 := hx'.free 1
      have hsz2 : ((wr.alloc (.cells (madeCells #[Value.int .u8 0] (16 * cnt).toNat) 5)).alloc (.cells #[.slice (some ⟨wr.heap.size, 0, none⟩) (16 * cnt).toNat (16 * cnt).toNat] 71)).drew.heap.size = wr.heap.size + 2 := by simp
      have hbo : ∀ k, (Value.slice A' (i + 1) c').ownBlock = some k → w.heap.size < k ∧ ((Value.slice bA i bc).ownBlock = some k ∨ k = wr.heap.size + 2) := fun k hk => by
        rcases ho with ho | ho
        · exact ⟨hlo.1 k (ho ▸ hk), .inl (ho ▸ hk)⟩
        · rw [ho] at hk
          injection hk with hk
          omega
      have hzrow : RowZ 1 w' (.slice (some ⟨wr.heap.size, 0, none⟩) (16 * cnt).toNat (16 * cnt).toNat) (zeroL (d i)).length (u8L (zeroL (d i))) := by
        rw [← hzl]
        have hz0 : RowZ 1 (wr.alloc (.cells (madeCells #[Value.int .u8 0] (16 * cnt).toNat) 5)) (.slice (some ⟨wr.heap.size, 0, none⟩) (16 * cnt).toNat (16 * cnt).toNat) (16 * cnt).toNat (u8L (zeroL (d i))) := RowZ.new wr _ 5 _ (by rw [u8L_len, Nat.mul_one]; exact hzl.symm) (by rw [size_madeCells, Nat.mul_one]) (Nat.le_refl _) (by unfold maxLen; omega) (fun j u hu => by
          have hj := (List.getElem?_eq_some_iff.1 hu).1
          rw [u8L_len, ← hzl] at hj
          have : u = .int .u8 0 := by
            unfold u8L zeroL at hu
            rw [List.map_replicate, List.getElem?_replicate] at hu
            split at hu
            · injection hu with hu
              exact hu.symm
            · cases hu
          subst this
          simp [madeCells, hj, Nat.mod_one])
        have hz1 := (hz0.alloc (.cells #[.slice (some ⟨wr.heap.size, 0, none⟩) (16 * cnt).toNat (16 * cnt).toNat] 71)).drewN 1
        exact hz1.only hg' (.inr fun e => absurd (show wr.heap.size < wr.heap.size from hR.1.lt _ e.symm) (Nat.lt_irrefl _))
      have hEs : ∀ i', i' < i → RowZ 1 w' (E i') (zeroL (d i')).length (u8L (zeroL (d i'))) := fun i' hi' => ((hR.2 i' hi').1.below hb2 (fun k hk => (hR.2 i' hi').1.lt k hk)).only hg' (by
        cases he : (E i').ownBlock with
        | none => exact .inl rfl
        | some k => exact .inr fun e => (hR.2 i' hi').2 k he e.symm)
      have SX : Hid (∀ W, Below (w.heap.size + 1) wr W → W.cell? ⟨w.heap.size, 1, none⟩ = some (.slice bA i bc) ∧ W.cell? ⟨g, off + i * 3 + 2, none⟩ = some (.int .i64 cnt)) := Lib.hid fun W hW => ⟨(hW.cell (p := ⟨w.heap.size, 1, none⟩) (Nat.lt_succ_self _)).trans x1, (hW.cell (p := ⟨g, off + i * 3 + 2, none⟩) (by show g < _; omega)).trans c2⟩
      have REL : Hid (RDk (w'.setCell ⟨w.heap.size, 1, none⟩ (.slice A' (i + 1) c')) w.heap.size (.slice (some ⟨g, off, none⟩) n c) (.slice A' (i + 1) c') false noJob 0 ∧ Bys (w'.setCell ⟨w.heap.size, 1, none⟩ (.slice A' (i + 1) c')) (.slice A' (i + 1) c') (i + 1) (fun j => if j = i then .slice (some ⟨wr.heap.size, 0, none⟩) (16 * cnt).toNat (16 * cnt).toNat else E j) (fun i => zeroL (d i)) ∧ (∀ k, (Value.slice A' (i + 1) c').ownBlock = some k → w.heap.size < k) ∧ (∀ i' k, i' < i + 1 → ((fun j => if j = i then Value.slice (some ⟨wr.heap.size, 0, none⟩) (16 * cnt).toNat (16 * cnt).toNat else E j) i').ownBlock = some k → w.heap.size < k)) := Lib.hid (by
        refine ⟨Blk.put hx' 1 _, ⟨?_, fun i' hi' => ?_⟩, fun k hk => (hbo k hk).1, fun i' k hi' hk => ?_⟩
        · have hne : (Value.slice A' (i + 1) c').ownBlock ≠ some w.heap.size := fun e => by have := (hbo _ e).1; omega
          have := hr.put (p := ⟨w.heap.size, 1, none⟩) hne (.slice A' (i + 1) c')
          rw [List.range_succ, List.map_append]
          have e1 : (List.range i).map (fun j => if j = i then Value.slice (some ⟨wr.heap.size, 0, none⟩) (16 * cnt).toNat (16 * cnt).toNat else E j) = (List.range i).map E := List.map_congr_left fun q hq => by
            have : q ≠ i := by have := List.mem_range.1 hq; omega
            simp [this]
          rw [e1]
          simpa using this
        · by_cases hq : i' = i
          · subst hq
            simp only [if_pos]
            refine ⟨hzrow.put (p := ⟨w.heap.size, 1, none⟩) (by simp [Value.ownBlock]; omega) _, fun k hk e => ?_⟩
            simp [Value.ownBlock] at hk
            rcases (hbo k e).2 with q | q
            · have := hR.1.lt k q
              omega
            · omega
          · have hq' : i' < i := by omega
            simp only [if_neg hq]
            refine ⟨(hEs i' hq').put (p := ⟨w.heap.size, 1, none⟩) (fun e => absurd (show w.heap.size < w.heap.size from hlo.2 i' _ hq' e) (Nat.lt_irrefl _)) _, fun k hk e => ?_⟩
            rcases (hbo k e).2 with q | q
            · exact (hR.2 i' hq').2 k hk q
            · have := (hR.2 i' hq').1.lt k hk
              omega
        · by_cases hq : i' = i
          · subst hq
            simp only [if_pos] at hk
            simp [Value.ownBlock] at hk
            omega
          · simp only [if_neg hq] at hk
            exact hlo.2 i' k (by omega) hk)
      have BW : Hid (Below w.heap.size w (w'.setCell ⟨w.heap.size, 1, none⟩ (.slice A' (i + 1) c'))) := Lib.hid ((HB.out.trans (b3.mono (Nat.le_succ _))).setCell (Nat.le_refl _) _)
      have HK := Lib.hid hk
      have y1 : w'.cell? ⟨w.heap.size, 1, none⟩ = some (.slice bA i bc) := (SX.out w' b3).1
      have i3 : ¬ (i : Int) < 0 := by omega
      have r0 : Below (w.heap.size + 1) wr wr.drew := below_drewN (Below.refl _ _) 1
      clear hk hr ho hg' hsrc hrow hR hlo hb2 hx' hbo hzrow hEs hzl w1 w2 hi0 hz0 hz1 hz2 hi1' hz1' hz2' hz3' hcnt hrl hg hsz2 x1 c2
      go_wp2
      refine wp_region_ends2 16 (fun w' => w'.cell? ⟨w.heap.size, 1, none⟩ = some (.slice bA i bc) ∧ w'.cell? ⟨g, off + i * 3 + 2, none⟩ = some (.int .i64 cnt)) (by kernel_rfl) (by kernel_rfl) (SX.out _ r0) (fun hHeld => ?_)
      simp only [List.take_succ_cons, List.take_zero]
      refine wpAnyH_take (i := 0) (oi := _) (v := ?_) rfl (by kernel_rfl) (by kernel_rfl) (by kernel_rfl) (fun _ _ _ h => h) (Or.inl ⟨by rfl, ?_⟩) (by assumption) ?_
      case refine_2 => intro w hSw; (try dsimp only at hSw); go_simp; try with_reducible rfl
      try simp only [Act.put, List.setIfInBounds_toArray, List.set_cons_zero, List.set_cons_succ]
      refine wpAnyH_take (i := 1) (oi := _) (v := ?_) rfl (by kernel_rfl) (by kernel_rfl) (by kernel_rfl) (fun _ _ _ h => h) (Or.inl ⟨by rfl, ?_⟩) (by assumption) ?_
      case refine_2 => intro w hSw; (try dsimp only at hSw); go_simp; try with_reducible rfl
      try simp only [Act.put, List.setIfInBounds_toArray, List.set_cons_zero, List.set_cons_succ]
      refine wpAnyH_take (i := 2) (oi := _) (v := ?_) rfl (by kernel_rfl) (by kernel_rfl) (by kernel_rfl) (fun _ _ _ h => h) (Or.inl ⟨by rfl, ?_⟩) (by assumption) ?_
      case refine_2 => intro w hSw; (try dsimp only at hSw); go_simp; try with_reducible rfl
      try simp only [Act.put, List.setIfInBounds_toArray, List.set_cons_zero, List.set_cons_succ]
      refine wpAnyH_take (i := 3) (oi := _) (v := ?_) rfl (by kernel_rfl) (by kernel_rfl) (by kernel_rfl) (fun _ _ _ h => h) (Or.inl ⟨by rfl, ?_⟩) (by assumption) ?_
      case refine_2 => intro w hSw; (try dsimp only at hSw); go_simp; try with_reducible rfl
      try simp only [Act.put, List.setIfInBounds_toArray, List.set_cons_zero, List.set_cons_succ]
      refine wpAnyH_take (i := 4) (oi := _) (v := ?_) rfl (by kernel_rfl) (by kernel_rfl) (by kernel_rfl) (fun _ _ _ h => h) (Or.inl ⟨by rfl, ?_⟩) (by assumption) ?_
      case refine_2 => intro w hSw; (try dsimp only at hSw); go_simp; try with_reducible rfl
      try simp only [Act.put, List.setIfInBounds_toArray, List.set_cons_zero, List.set_cons_succ]
      refine wpAnyH_take (i := 5) (oi := _) (v := ?_) rfl (by kernel_rfl) (by kernel_rfl) (by kernel_rfl) (fun _ _ _ h => h) (Or.inl ⟨by rfl, ?_⟩) (by assumption) ?_
      case refine_2 => intro w hSw; (try dsimp only at hSw); go_simp; try with_reducible rfl
      try simp only [Act.put, List.setIfInBounds_toArray, List.set_cons_zero, List.set_cons_succ]
      refine wpAnyH_take (i := 6) (oi := _) (v := ?_) rfl (by kernel_rfl) (by kernel_rfl) (by kernel_rfl) (fun _ _ _ h => h) (Or.inl ⟨by rfl, ?_⟩) (by assumption) ?_
      case refine_2 => intro w hSw; (try dsimp only at hSw); go_simp; try with_reducible rfl
      try simp only [Act.put, List.setIfInBounds_toArray, List.set_cons_zero, List.set_cons_succ]
      refine wpAnyH_take (i := 7) (oi := _) (v := ?_) rfl (by kernel_rfl) (by kernel_rfl) (by kernel_rfl) (fun _ _ _ h => h) (Or.inl ⟨by rfl, ?_⟩) (by assumption) ?_
      case refine_2 => intro w hSw; (try dsimp only at hSw); go_simp; try with_reducible rfl
      try simp only [Act.put, List.setIfInBounds_toArray, List.set_cons_zero, List.set_cons_succ]
      refine wpAnyH_take (i := 8) (oi := _) (v := ?_) rfl (by kernel_rfl) (by kernel_rfl) (by kernel_rfl) (fun _ _ _ h => h) (Or.inl ⟨by rfl, ?_⟩) (by assumption) ?_
      case refine_2 => intro w hSw; (try dsimp only at hSw); go_simp; try with_reducible rfl
      try simp only [Act.put, List.setIfInBounds_toArray, List.set_cons_zero, List.set_cons_succ]
      refine wpAnyH_take (i := 9) (oi := _) (v := ?_) rfl (by kernel_rfl) (by kernel_rfl) (by kernel_rfl) (fun _ _ _ h => h) (Or.inl ⟨by rfl, ?_⟩) (by assumption) ?_
      case refine_2 => intro w hSw; (try dsimp only at hSw); go_simp; try with_reducible rfl
      try simp only [Act.put, List.setIfInBounds_toArray, List.set_cons_zero, List.set_cons_succ]
      refine wpAnyH_take (i := 10) (oi := _) (v := ?_) rfl (by kernel_rfl) (by kernel_rfl) (by kernel_rfl) (fun _ _ _ h => h) (Or.inl ⟨by rfl, ?_⟩) (by assumption) ?_
      case refine_2 => intro w hSw; (try dsimp only at hSw); go_simp; try with_reducible rfl
      try simp only [Act.put, List.setIfInBounds_toArray, List.set_cons_zero, List.set_cons_succ]
      refine wpAnyH_ready (rs := [11]) (by kernel_rfl) (by simp) ?_
      refine AllReadyH.cons (o := _) rfl (fun K hK => ?_) AllReadyH.nil
      go_simp
      refine hK.out _ _ (SX.out _ b1) (fun hHeld => ?_)
      clear hK K
      try simp only [Act.put, List.setIfInBounds_toArray, List.set_cons_zero, List.set_cons_succ]
      refine wpAnyH_ready (rs := [12]) (by kernel_rfl) (by simp) ?_
      refine AllReadyH.cons (o := _) rfl (fun K hK => ?_) AllReadyH.nil
      go_simp
      refine hK.out _ _ (SX.out _ b2) (fun hHeld => ?_)
      clear hK K
      try simp only [Act.put, List.setIfInBounds_toArray, List.set_cons_zero, List.set_cons_succ]
      refine wpAnyH_ready (rs := [13]) (by kernel_rfl) (by simp) ?_
      refine AllReadyH.cons (o := _) rfl (fun K hK => ?_) AllReadyH.nil
      refine step_app_eq rfl (.tmp 18) (.tmp 26) 51 rfl HK.out rfl rfl ?_
      refine hK.out _ _ (SX.out _ b3) (fun hHeld => ?_)
      clear hK K
      try simp only [Act.put, List.setIfInBounds_toArray, List.set_cons_zero, List.set_cons_succ]
      refine wpAnyH_ready (rs := [14]) (by kernel_rfl) (by simp) ?_
      refine AllReadyH.cons (o := _) rfl (fun K hK => ?_) AllReadyH.nil
      go_simp
      refine hK.out _ _ (SX.out _ b3) (fun hHeld => ?_)
      clear hK K
      try simp only [Act.put, List.setIfInBounds_toArray, List.set_cons_zero, List.set_cons_succ]
      refine wpAnyH_ready (rs := [15]) (by kernel_rfl) (by simp) ?_
      refine AllReadyH.cons (o := _) rfl (fun K hK => ?_) AllReadyH.nil
      go_simp
      refine hK.out _ _ (SX.out _ b3) (fun hHeld => ?_)
      clear hK K
      try simp only [Act.put, List.setIfInBounds_toArray, List.set_cons_zero, List.set_cons_succ]
      refine wpAnyH_done (by kernel_rfl) ?_ _
      refine Ends.last rfl (fun K hK => ?_)
      go_simp
      refine hK.out _ _ ?_
      clear hK K
      go_wp2
      go_roundw
      case rel => exact ⟨i + 1, _, _, by go_num, by omega, REL, BW⟩
      case measure => simp [intOf] <;> omega
    · have i1 : ¬ (i : Int) < (n : Int) := by omega
      obtain rfl : i = n := by omega
      go_wp2
      go_ret
      exact ⟨_, _, E, rfl, HR.out.1, HR.out.2.1, Nat.le_refl _, fun k hk => HR.out.2.2.1 k hk, fun i' k hi' hk => HR.out.2.2.2 i' k hi' hk, HB.out⟩
end Go.Proofs.Ytlmdnhpdeiekfaa
