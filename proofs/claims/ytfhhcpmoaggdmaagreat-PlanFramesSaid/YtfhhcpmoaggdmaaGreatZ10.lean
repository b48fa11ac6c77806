import Derived.Test.YtfhhcpmoaggdmaaGreatZ09
import Derived.Test.YtfhhcpmoaggdmaaGreatZ05
set_option linter.all false
/- Package conf: ask, once for each function that is handed in. -/
namespace Go.Proofs.YtfhhcpmoaggdmaaGreat
open Go.RowKit Go.Lib Go.Sort
set_option linter.unusedVariables false

/-- The cells of faults: row, why. -/
def flC (L : List (Int × Int)) : List Value := L.flatMap fun x => [.int .i64 x.1, .int .i64 x.2]
theorem flC_len (L : List (Int × Int)) : (flC L).length = L.length * 2 := by
  induction L with
  | nil => rfl
  | cons x L ih =>
    have : flC (x :: L) = [.int .i64 x.1, .int .i64 x.2] ++ flC L := rfl
    rw [this, List.length_append, ih, List.length_cons, List.length_cons, List.length_nil, List.length_cons]
    omega
theorem flC_app (L M : List (Int × Int)) : flC (L ++ M) = flC L ++ flC M := List.flatMap_append
theorem flC_one (L : List (Int × Int)) : ∀ u ∈ flC L, u.oneCell' = true := by
  intro u hu
  obtain ⟨x, _, hx⟩ := List.mem_flatMap.1 hu
  simp at hx
  rcases hx with rfl | rfl <;> rfl
theorem fault_info : (Tryz.prog.info? 83).map (fun i => (i.zero, i.size, i.bytes)) = some (some (.agg #[.int .i64 0, .int .i64 0]), 2, 16) := by kernel_rfl
/-- The faults so far: a box with their slice, whose row lies behind the box. -/
def FltS (w : World) (b : Nat) (L : List (Int × Int)) : Prop := ∃ v, Blk w b 31 #[v] ∧ RowZ 2 w v L.length (flC L) ∧ ∀ k, v.ownBlock = some k → b < k
theorem FltS.grown {w w' : World} {b : Nat} {L : List (Int × Int)} (h : FltS w b L) (g : w.grownBy w' none) : FltS w' b L := by
  obtain ⟨v, h1, h2, h3⟩ := h
  exact ⟨v, h1.only g (by simp), h2.only g (by cases v.ownBlock <;> simp), h3⟩
/-- The rows from f on, of which there are m, that have it. -/
def askL (p : Int → Bool) (why f : Int) : Nat → List (Int × Int)
  | 0 => []
  | m + 1 => if p (f + m) then askL p why f m ++ [(f + m, why)] else askL p why f m
theorem askL_len (p : Int → Bool) (why f : Int) (m : Nat) : (askL p why f m).length ≤ m := by
  induction m with
  | zero => simp [askL]
  | succ m ih =>
    unfold askL
    split
    · rw [List.length_append]
      simp
      exact ih
    · omega

set_option maxRecDepth 20000 in
set_option maxHeartbeats 1600000 in
theorem ask2_any (b g : Nat) (p : Int → Bool) (why f l : Int) (m : Nat) (L : List (Int × Int)) (w : World) (hl : l = f + m - 1) (hf : -1000 ≤ f ∧ f ≤ 1000) (hm : m ≤ 1000) (hL : L.length ≤ 1000) (hS : FltS w b L)
    (H : ∀ i : Nat, i < m → ∀ W, Below b w W → Calls Tryz.prog 68 #[.int .i64 (f + i), .pointer (some ⟨g, 0, none⟩)] W fun e w' => e = .returned (.bool (p (f + i))) ∧ W.grownBy w' none) :
    Calls Tryz.prog 67 #[.int .i64 why, .int .i64 f, .int .i64 l, .func (.func 68) #[] #[.pointer (some ⟨g, 0, none⟩)], .pointer (some ⟨b, 0, none⟩)] w fun e w' => e = .returned (.tuple #[]) ∧ FltS w' b (L ++ askL p why f m) ∧ Below b w w' := by
  have HC := Lib.hid H
  have HS := Lib.hid hS
  have HLL := Lib.hid hl
  clear H hS hl
  go_enter Tryz.func67, Tryz.ntmps67
  go_wp2
  go_loopw [9] (fun y wr => ∃ i : Nat, y = .int .i64 (f + i) ∧ i ≤ m ∧ Hid (FltS wr b (L ++ askL p why f i)) ∧ Hid (Below b w wr)) (fun y _ => m - ((intOf y) - f).toNat)
  case atStart => exact ⟨0, by simp, by omega, Lib.hid (by simpa [askL] using HS.out), Lib.hid (Below.refl _ _)⟩
  case round =>
    obtain ⟨i, rfl, hi, HR, HB⟩ := hrel
    by_cases hin : i < m
    · have i1 : f + (i : Int) ≤ l := by have := HLL.out; omega
      have hw : IntKind.i64.wrap (f + (i : Int) + 1) = f + (i : Int) + 1 := by rw [IntKind.wrap_i64]; omega
      have hw' : f + (i : Int) + 1 = f + ((i + 1 : Nat) : Int) := by omega
      have HCI := Lib.hid (HC.out i hin wr HB.out)
      have HA := Lib.hid (show askL p why f (i + 1) = if p (f + i) then askL p why f i ++ [(f + i, why)] else askL p why f i from rfl)
      have HLN := Lib.hid (show (L ++ askL p why f i).length ≤ 2000 by
        have := askL_len p why f i
        rw [List.length_append]
        omega)
      have HW' := Lib.hid hw'
      generalize p (f + (i : Int)) = z at HCI HA
      generalize askL p why f i = M at HR HA HLN
      clear hw'
      cases z
      · have HA2 := Lib.hid (show askL p why f (i + 1) = M by rw [HA.out]; simp)
        clear HA
        obtain ⟨r, hr⟩ : ∃ r, r = f + (i : Int) := ⟨_, rfl⟩
        rw [← hr] at HCI i1 hw ⊢
        replace hr := Lib.hid hr
        go_wp2_with (go_at_call 68; (with_reducible refine HCI.out.mono ?_); rintro e w2 ⟨rfl, g2⟩; have R2 := Lib.hid (HR.out.grown g2); have hb2 := HB.out.size; have B2 := Lib.hid (HB.out.trans (below_of_only g2 (by obtain ⟨v, h1, _⟩ := HR.out; exact Nat.le_of_lt h1.lt) (by simp))); clear g2 hb2)
        go_roundw
        case rel => exact ⟨i + 1, by rw [← HW'.out, hr.out], by omega, Lib.hid (by rw [HA2.out]; exact R2.out), B2⟩
        case measure => have := hr.out; simp [intOf] <;> omega
      · have HA2 := Lib.hid (show askL p why f (i + 1) = M ++ [(f + i, why)] by rw [HA.out]; simp)
        clear HA
        obtain ⟨r, hr⟩ : ∃ r, r = f + (i : Int) := ⟨_, rfl⟩
        rw [← hr] at HCI i1 hw HA2 ⊢
        replace hr := Lib.hid hr
        go_upto_region 4 with (go_at_call 68; (with_reducible refine HCI.out.mono ?_); rintro e w2 ⟨rfl, g2⟩; have R2 := Lib.hid (HR.out.grown g2); have B2 := Lib.hid (HB.out.trans (below_of_only g2 (by obtain ⟨v, h1, _⟩ := HR.out; exact Nat.le_of_lt h1.lt) (by simp))); clear g2)
        obtain ⟨v, hb, hrow, hown⟩ := R2.out
        obtain ⟨va, vc, rfl⟩ := hrow.form
        obtain ⟨i0, hi0, hz0, hz1, hz2⟩ := info_parts fault_info
        have hbl := hb.lt
        have hrow3 := hrow.below ((Below.refl w2.heap.size w2).alloc (Nat.le_refl _) (.cells #[.int .i64 r, .int .i64 why] 83)) (fun k hk => hrow.lt k hk)
        have hsrc : Src Tryz.prog 2 31 (.slice (some ⟨w2.heap.size, 0, none⟩) 1 1) 1 [.int .i64 r, .int .i64 why] (w2.alloc (.cells #[.int .i64 r, .int .i64 why] 83)) := Src.ofSlice _ Tryz.underlying31 _ _ _ _ rfl (fun j u hu => by
          have hj := (Blk.new w2 83 #[.int .i64 r, .int .i64 why]).cell j
          rw [addr_at, Nat.zero_add, hj]
          simpa using hu) (by simp [Value.oneCell'])
        obtain ⟨v', w', hk, hr3, hg', ho⟩ := run_pushZ (P := Tryz.prog) _ 31 83 31 i0 _ 16 Tryz.underlying31 hi0 hz0 hz1 hz2 (by omega) rfl _ _ _ hrow3 (flC_one _) _ _ hsrc (by have := HLN.out; omega)
        have hb3 : Below w2.heap.size w2 (w2.alloc (.cells #[.int .i64 r, .int .i64 why] 83)) := (Below.refl _ _).alloc (Nat.le_refl _) _
        have hb3' := hb.below hb3 hbl
        have hne : some b ≠ (Value.slice va (L ++ M).length vc).ownBlock := fun e => by
          have := hown b e.symm
          omega
        have hb4 := hb3'.only hg' hne
        have c4 : w'.cell? ⟨b, 0, none⟩ = some (.slice va (L ++ M).length vc) := hb4.cell 0
        have f4 := hb4.free 0
        obtain ⟨va', vc', rfl⟩ := hr3.form
        have hlo : ∀ k, (Value.slice va' ((L ++ M).length + 1) vc').ownBlock = some k → b < k := fun k hk => by
          rcases ho with ho | ho
          · exact hown k (ho ▸ hk)
          · rw [ho] at hk
            injection hk with hk
            rw [← hk]
            simp
            omega
        have hB4 : Below b w w' := (B2.out.trans (hb3.mono (by omega))).trans (below_of_only hg' (by simp; omega) (fun k hk => by have := hown k hk; omega))
        have c2 : w2.cell? ⟨b, 0, none⟩ = some (.slice va (L ++ M).length vc) := hb.cell 0
        have REL : Hid (FltS (w'.setCell ⟨b, 0, none⟩ (.slice va' ((L ++ M).length + 1) vc')) b (L ++ (M ++ [(r, why)]))) := Lib.hid (by
          refine ⟨_, by simpa using hb4.put 0 (.slice va' ((L ++ M).length + 1) vc'), ?_, hlo⟩
          have e1 : (L ++ (M ++ [(r, why)])).length = (L ++ M).length + 1 := by rw [← List.append_assoc, List.length_append]; rfl
          have e2 : flC (L ++ (M ++ [(r, why)])) = flC (L ++ M) ++ [.int .i64 r, .int .i64 why] := by rw [← List.append_assoc, flC_app]; rfl
          rw [e1, e2]
          exact hr3.put (p := ⟨b, 0, none⟩) (fun e => by have := hlo b e; omega) _)
        have BEL := Lib.hid (hB4.setCell (p := ⟨b, 0, none⟩) (Nat.le_refl _) (.slice va' ((L ++ M).length + 1) vc'))
        have HK := Lib.hid hk
        have HLN2 := Lib.hid (show (L ++ M).length ≤ 2000 from HLN.out)
        clear HLN
        generalize (L ++ M).length = ln at c2 c4 REL BEL HK HLN2 hrow hb4 hne hrow3 hr3 hb hb3' hown hlo ho hg' hk ⊢
        generalize ln + 1 = ln1 at REL BEL HK ⊢
        clear hb hrow hown hi0 hz0 hz1 hz2 hrow3 hsrc hk hr3 hg' ho hb3 hb3' hne hb4 hlo hB4
        go_wp2_with (at_builtin; refine wpList_append_eq rfl (.tmp 19) (.tmp 23) 31 rfl HK.out rfl rfl ?_)
        go_roundw
        case rel => exact ⟨i + 1, by rw [← HW'.out, hr.out], by omega, Lib.hid (by rw [HA2.out]; exact REL.out), BEL⟩
        case measure => have := hr.out; simp [intOf] <;> omega
    · obtain rfl : i = m := by omega
      have i1 : ¬ f + (i : Int) ≤ l := by have := HLL.out; omega
      go_wp2
      go_end0
      exact ⟨rfl, HR.out, HB.out⟩

set_option maxRecDepth 20000 in
set_option maxHeartbeats 1600000 in
theorem ask3_any (b g : Nat) (p : Int → Bool) (why f l : Int) (m : Nat) (L : List (Int × Int)) (w : World) (hl : l = f + m - 1) (hf : -1000 ≤ f ∧ f ≤ 1000) (hm : m ≤ 1000) (hL : L.length ≤ 1000) (hS : FltS w b L)
    (H : ∀ i : Nat, i < m → ∀ W, Below b w W → Calls Tryz.prog 70 #[.int .i64 (f + i), .pointer (some ⟨g, 0, none⟩)] W fun e w' => e = .returned (.bool (p (f + i))) ∧ W.grownBy w' none) :
    Calls Tryz.prog 67 #[.int .i64 why, .int .i64 f, .int .i64 l, .func (.func 70) #[] #[.pointer (some ⟨g, 0, none⟩)], .pointer (some ⟨b, 0, none⟩)] w fun e w' => e = .returned (.tuple #[]) ∧ FltS w' b (L ++ askL p why f m) ∧ Below b w w' := by
  have HC := Lib.hid H
  have HS := Lib.hid hS
  have HLL := Lib.hid hl
  clear H hS hl
  go_enter Tryz.func67, Tryz.ntmps67
  go_wp2
  go_loopw [9] (fun y wr => ∃ i : Nat, y = .int .i64 (f + i) ∧ i ≤ m ∧ Hid (FltS wr b (L ++ askL p why f i)) ∧ Hid (Below b w wr)) (fun y _ => m - ((intOf y) - f).toNat)
  case atStart => exact ⟨0, by simp, by omega, Lib.hid (by simpa [askL] using HS.out), Lib.hid (Below.refl _ _)⟩
  case round =>
    obtain ⟨i, rfl, hi, HR, HB⟩ := hrel
    by_cases hin : i < m
    · have i1 : f + (i : Int) ≤ l := by have := HLL.out; omega
      have hw : IntKind.i64.wrap (f + (i : Int) + 1) = f + (i : Int) + 1 := by rw [IntKind.wrap_i64]; omega
      have hw' : f + (i : Int) + 1 = f + ((i + 1 : Nat) : Int) := by omega
      have HCI := Lib.hid (HC.out i hin wr HB.out)
      have HA := Lib.hid (show askL p why f (i + 1) = if p (f + i) then askL p why f i ++ [(f + i, why)] else askL p why f i from rfl)
      have HLN := Lib.hid (show (L ++ askL p why f i).length ≤ 2000 by
        have := askL_len p why f i
        rw [List.length_append]
        omega)
      have HW' := Lib.hid hw'
      generalize p (f + (i : Int)) = z at HCI HA
      generalize askL p why f i = M at HR HA HLN
      clear hw'
      cases z
      · have HA2 := Lib.hid (show askL p why f (i + 1) = M by rw [HA.out]; simp)
        clear HA
        obtain ⟨r, hr⟩ : ∃ r, r = f + (i : Int) := ⟨_, rfl⟩
        rw [← hr] at HCI i1 hw ⊢
        replace hr := Lib.hid hr
        go_wp2_with (go_at_call 70; (with_reducible refine HCI.out.mono ?_); rintro e w2 ⟨rfl, g2⟩; have R2 := Lib.hid (HR.out.grown g2); have hb2 := HB.out.size; have B2 := Lib.hid (HB.out.trans (below_of_only g2 (by obtain ⟨v, h1, _⟩ := HR.out; exact Nat.le_of_lt h1.lt) (by simp))); clear g2 hb2)
        go_roundw
        case rel => exact ⟨i + 1, by rw [← HW'.out, hr.out], by omega, Lib.hid (by rw [HA2.out]; exact R2.out), B2⟩
        case measure => have := hr.out; simp [intOf] <;> omega
      · have HA2 := Lib.hid (show askL p why f (i + 1) = M ++ [(f + i, why)] by rw [HA.out]; simp)
        clear HA
        obtain ⟨r, hr⟩ : ∃ r, r = f + (i : Int) := ⟨_, rfl⟩
        rw [← hr] at HCI i1 hw HA2 ⊢
        replace hr := Lib.hid hr
        go_upto_region 4 with (go_at_call 70; (with_reducible refine HCI.out.mono ?_); rintro e w2 ⟨rfl, g2⟩; have R2 := Lib.hid (HR.out.grown g2); have B2 := Lib.hid (HB.out.trans (below_of_only g2 (by obtain ⟨v, h1, _⟩ := HR.out; exact Nat.le_of_lt h1.lt) (by simp))); clear g2)
        obtain ⟨v, hb, hrow, hown⟩ := R2.out
        obtain ⟨va, vc, rfl⟩ := hrow.form
        obtain ⟨i0, hi0, hz0, hz1, hz2⟩ := info_parts fault_info
        have hbl := hb.lt
        have hrow3 := hrow.below ((Below.refl w2.heap.size w2).alloc (Nat.le_refl _) (.cells #[.int .i64 r, .int .i64 why] 83)) (fun k hk => hrow.lt k hk)
        have hsrc : Src Tryz.prog 2 31 (.slice (some ⟨w2.heap.size, 0, none⟩) 1 1) 1 [.int .i64 r, .int .i64 why] (w2.alloc (.cells #[.int .i64 r, .int .i64 why] 83)) := Src.ofSlice _ Tryz.underlying31 _ _ _ _ rfl (fun j u hu => by
          have hj := (Blk.new w2 83 #[.int .i64 r, .int .i64 why]).cell j
          rw [addr_at, Nat.zero_add, hj]
          simpa using hu) (by simp [Value.oneCell'])
        obtain ⟨v', w', hk, hr3, hg', ho⟩ := run_pushZ (P := Tryz.prog) _ 31 83 31 i0 _ 16 Tryz.underlying31 hi0 hz0 hz1 hz2 (by omega) rfl _ _ _ hrow3 (flC_one _) _ _ hsrc (by have := HLN.out; omega)
        have hb3 : Below w2.heap.size w2 (w2.alloc (.cells #[.int .i64 r, .int .i64 why] 83)) := (Below.refl _ _).alloc (Nat.le_refl _) _
        have hb3' := hb.below hb3 hbl
        have hne : some b ≠ (Value.slice va (L ++ M).length vc).ownBlock := fun e => by
          have := hown b e.symm
          omega
        have hb4 := hb3'.only hg' hne
        have c4 : w'.cell? ⟨b, 0, none⟩ = some (.slice va (L ++ M).length vc) := hb4.cell 0
        have f4 := hb4.free 0
        obtain ⟨va', vc', rfl⟩ := hr3.form
        have hlo : ∀ k, (Value.slice va' ((L ++ M).length + 1) vc').ownBlock = some k → b < k := fun k hk => by
          rcases ho with ho | ho
          · exact hown k (ho ▸ hk)
          · rw [ho] at hk
            injection hk with hk
            rw [← hk]
            simp
            omega
        have hB4 : Below b w w' := (B2.out.trans (hb3.mono (by omega))).trans (below_of_only hg' (by simp; omega) (fun k hk => by have := hown k hk; omega))
        have c2 : w2.cell? ⟨b, 0, none⟩ = some (.slice va (L ++ M).length vc) := hb.cell 0
        have REL : Hid (FltS (w'.setCell ⟨b, 0, none⟩ (.slice va' ((L ++ M).length + 1) vc')) b (L ++ (M ++ [(r, why)]))) := Lib.hid (by
          refine ⟨_, by simpa using hb4.put 0 (.slice va' ((L ++ M).length + 1) vc'), ?_, hlo⟩
          have e1 : (L ++ (M ++ [(r, why)])).length = (L ++ M).length + 1 := by rw [← List.append_assoc, List.length_append]; rfl
          have e2 : flC (L ++ (M ++ [(r, why)])) = flC (L ++ M) ++ [.int .i64 r, .int .i64 why] := by rw [← List.append_assoc, flC_app]; rfl
          rw [e1, e2]
          exact hr3.put (p := ⟨b, 0, none⟩) (fun e => by have := hlo b e; omega) _)
        have BEL := Lib.hid (hB4.setCell (p := ⟨b, 0, none⟩) (Nat.le_refl _) (.slice va' ((L ++ M).length + 1) vc'))
        have HK := Lib.hid hk
        have HLN2 := Lib.hid (show (L ++ M).length ≤ 2000 from HLN.out)
        clear HLN
        generalize (L ++ M).length = ln at c2 c4 REL BEL HK HLN2 hrow hb4 hne hrow3 hr3 hb hb3' hown hlo ho hg' hk ⊢
        generalize ln + 1 = ln1 at REL BEL HK ⊢
        clear hb hrow hown hi0 hz0 hz1 hz2 hrow3 hsrc hk hr3 hg' ho hb3 hb3' hne hb4 hlo hB4
        go_wp2_with (at_builtin; refine wpList_append_eq rfl (.tmp 19) (.tmp 23) 31 rfl HK.out rfl rfl ?_)
        go_roundw
        case rel => exact ⟨i + 1, by rw [← HW'.out, hr.out], by omega, Lib.hid (by rw [HA2.out]; exact REL.out), BEL⟩
        case measure => have := hr.out; simp [intOf] <;> omega
    · obtain rfl : i = m := by omega
      have i1 : ¬ f + (i : Int) ≤ l := by have := HLL.out; omega
      go_wp2
      go_end0
      exact ⟨rfl, HR.out, HB.out⟩

set_option maxRecDepth 20000 in
set_option maxHeartbeats 1600000 in
theorem ask4_any (b g : Nat) (p : Int → Bool) (why f l : Int) (m : Nat) (L : List (Int × Int)) (w : World) (hl : l = f + m - 1) (hf : -1000 ≤ f ∧ f ≤ 1000) (hm : m ≤ 1000) (hL : L.length ≤ 1000) (hS : FltS w b L)
    (H : ∀ i : Nat, i < m → ∀ W, Below b w W → Calls Tryz.prog 72 #[.int .i64 (f + i), .pointer (some ⟨g, 0, none⟩)] W fun e w' => e = .returned (.bool (p (f + i))) ∧ W.grownBy w' none) :
    Calls Tryz.prog 67 #[.int .i64 why, .int .i64 f, .int .i64 l, .func (.func 72) #[] #[.pointer (some ⟨g, 0, none⟩)], .pointer (some ⟨b, 0, none⟩)] w fun e w' => e = .returned (.tuple #[]) ∧ FltS w' b (L ++ askL p why f m) ∧ Below b w w' := by
  have HC := Lib.hid H
  have HS := Lib.hid hS
  have HLL := Lib.hid hl
  clear H hS hl
  go_enter Tryz.func67, Tryz.ntmps67
  go_wp2
  go_loopw [9] (fun y wr => ∃ i : Nat, y = .int .i64 (f + i) ∧ i ≤ m ∧ Hid (FltS wr b (L ++ askL p why f i)) ∧ Hid (Below b w wr)) (fun y _ => m - ((intOf y) - f).toNat)
  case atStart => exact ⟨0, by simp, by omega, Lib.hid (by simpa [askL] using HS.out), Lib.hid (Below.refl _ _)⟩
  case round =>
    obtain ⟨i, rfl, hi, HR, HB⟩ := hrel
    by_cases hin : i < m
    · have i1 : f + (i : Int) ≤ l := by have := HLL.out; omega
      have hw : IntKind.i64.wrap (f + (i : Int) + 1) = f + (i : Int) + 1 := by rw [IntKind.wrap_i64]; omega
      have hw' : f + (i : Int) + 1 = f + ((i + 1 : Nat) : Int) := by omega
      have HCI := Lib.hid (HC.out i hin wr HB.out)
      have HA := Lib.hid (show askL p why f (i + 1) = if p (f + i) then askL p why f i ++ [(f + i, why)] else askL p why f i from rfl)
      have HLN := Lib.hid (show (L ++ askL p why f i).length ≤ 2000 by
        have := askL_len p why f i
        rw [List.length_append]
        omega)
      have HW' := Lib.hid hw'
      generalize p (f + (i : Int)) = z at HCI HA
      generalize askL p why f i = M at HR HA HLN
      clear hw'
      cases z
      · have HA2 := Lib.hid (show askL p why f (i + 1) = M by rw [HA.out]; simp)
        clear HA
        obtain ⟨r, hr⟩ : ∃ r, r = f + (i : Int) := ⟨_, rfl⟩
        rw [← hr] at HCI i1 hw ⊢
        replace hr := Lib.hid hr
        go_wp2_with (go_at_call 72; (with_reducible refine HCI.out.mono ?_); rintro e w2 ⟨rfl, g2⟩; have R2 := Lib.hid (HR.out.grown g2); have hb2 := HB.out.size; have B2 := Lib.hid (HB.out.trans (below_of_only g2 (by obtain ⟨v, h1, _⟩ := HR.out; exact Nat.le_of_lt h1.lt) (by simp))); clear g2 hb2)
        go_roundw
        case rel => exact ⟨i + 1, by rw [← HW'.out, hr.out], by omega, Lib.hid (by rw [HA2.out]; exact R2.out), B2⟩
        case measure => have := hr.out; simp [intOf] <;> omega
      · have HA2 := Lib.hid (show askL p why f (i + 1) = M ++ [(f + i, why)] by rw [HA.out]; simp)
        clear HA
        obtain ⟨r, hr⟩ : ∃ r, r = f + (i : Int) := ⟨_, rfl⟩
        rw [← hr] at HCI i1 hw HA2 ⊢
        replace hr := Lib.hid hr
        go_upto_region 4 with (go_at_call 72; (with_reducible refine HCI.out.mono ?_); rintro e w2 ⟨rfl, g2⟩; have R2 := Lib.hid (HR.out.grown g2); have B2 := Lib.hid (HB.out.trans (below_of_only g2 (by obtain ⟨v, h1, _⟩ := HR.out; exact Nat.le_of_lt h1.lt) (by simp))); clear g2)
        obtain ⟨v, hb, hrow, hown⟩ := R2.out
        obtain ⟨va, vc, rfl⟩ := hrow.form
        obtain ⟨i0, hi0, hz0, hz1, hz2⟩ := info_parts fault_info
        have hbl := hb.lt
        have hrow3 := hrow.below ((Below.refl w2.heap.size w2).alloc (Nat.le_refl _) (.cells #[.int .i64 r, .int .i64 why] 83)) (fun k hk => hrow.lt k hk)
        have hsrc : Src Tryz.prog 2 31 (.slice (some ⟨w2.heap.size, 0, none⟩) 1 1) 1 [.int .i64 r, .int .i64 why] (w2.alloc (.cells #[.int .i64 r, .int .i64 why] 83)) := Src.ofSlice _ Tryz.underlying31 _ _ _ _ rfl (fun j u hu => by
          have hj := (Blk.new w2 83 #[.int .i64 r, .int .i64 why]).cell j
          rw [addr_at, Nat.zero_add, hj]
          simpa using hu) (by simp [Value.oneCell'])
        obtain ⟨v', w', hk, hr3, hg', ho⟩ := run_pushZ (P := Tryz.prog) _ 31 83 31 i0 _ 16 Tryz.underlying31 hi0 hz0 hz1 hz2 (by omega) rfl _ _ _ hrow3 (flC_one _) _ _ hsrc (by have := HLN.out; omega)
        have hb3 : Below w2.heap.size w2 (w2.alloc (.cells #[.int .i64 r, .int .i64 why] 83)) := (Below.refl _ _).alloc (Nat.le_refl _) _
        have hb3' := hb.below hb3 hbl
        have hne : some b ≠ (Value.slice va (L ++ M).length vc).ownBlock := fun e => by
          have := hown b e.symm
          omega
        have hb4 := hb3'.only hg' hne
        have c4 : w'.cell? ⟨b, 0, none⟩ = some (.slice va (L ++ M).length vc) := hb4.cell 0
        have f4 := hb4.free 0
        obtain ⟨va', vc', rfl⟩ := hr3.form
        have hlo : ∀ k, (Value.slice va' ((L ++ M).length + 1) vc').ownBlock = some k → b < k := fun k hk => by
          rcases ho with ho | ho
          · exact hown k (ho ▸ hk)
          · rw [ho] at hk
            injection hk with hk
            rw [← hk]
            simp
            omega
        have hB4 : Below b w w' := (B2.out.trans (hb3.mono (by omega))).trans (below_of_only hg' (by simp; omega) (fun k hk => by have := hown k hk; omega))
        have c2 : w2.cell? ⟨b, 0, none⟩ = some (.slice va (L ++ M).length vc) := hb.cell 0
        have REL : Hid (FltS (w'.setCell ⟨b, 0, none⟩ (.slice va' ((L ++ M).length + 1) vc')) b (L ++ (M ++ [(r, why)]))) := Lib.hid (by
          refine ⟨_, by simpa using hb4.put 0 (.slice va' ((L ++ M).length + 1) vc'), ?_, hlo⟩
          have e1 : (L ++ (M ++ [(r, why)])).length = (L ++ M).length + 1 := by rw [← List.append_assoc, List.length_append]; rfl
          have e2 : flC (L ++ (M ++ [(r, why)])) = flC (L ++ M) ++ [.int .i64 r, .int .i64 why] := by rw [← List.append_assoc, flC_app]; rfl
          rw [e1, e2]
          exact hr3.put (p := ⟨b, 0, none⟩) (fun e => by have := hlo b e; omega) _)
        have BEL := Lib.hid (hB4.setCell (p := ⟨b, 0, none⟩) (Nat.le_refl _) (.slice va' ((L ++ M).length + 1) vc'))
        have HK := Lib.hid hk
        have HLN2 := Lib.hid (show (L ++ M).length ≤ 2000 from HLN.out)
        clear HLN
        generalize (L ++ M).length = ln at c2 c4 REL BEL HK HLN2 hrow hb4 hne hrow3 hr3 hb hb3' hown hlo ho hg' hk ⊢
        generalize ln + 1 = ln1 at REL BEL HK ⊢
        clear hb hrow hown hi0 hz0 hz1 hz2 hrow3 hsrc hk hr3 hg' ho hb3 hb3' hne hb4 hlo hB4
        go_wp2_with (at_builtin; refine wpList_append_eq rfl (.tmp 19) (.tmp 23) 31 rfl HK.out rfl rfl ?_)
        go_roundw
        case rel => exact ⟨i + 1, by rw [← HW'.out, hr.out], by omega, Lib.hid (by rw [HA2.out]; exact REL.out), BEL⟩
        case measure => have := hr.out; simp [intOf] <;> omega
    · obtain rfl : i = m := by omega
      have i1 : ¬ f + (i : Int) ≤ l := by have := HLL.out; omega
      go_wp2
      go_end0
      exact ⟨rfl, HR.out, HB.out⟩

set_option maxRecDepth 20000 in
set_option maxHeartbeats 1600000 in
theorem ask5_any (b g : Nat) (p : Int → Bool) (why f l : Int) (m : Nat) (L : List (Int × Int)) (w : World) (hl : l = f + m - 1) (hf : -1000 ≤ f ∧ f ≤ 1000) (hm : m ≤ 1000) (hL : L.length ≤ 1000) (hS : FltS w b L)
    (H : ∀ i : Nat, i < m → ∀ W, Below b w W → Calls Tryz.prog 74 #[.int .i64 (f + i), .pointer (some ⟨g, 0, none⟩)] W fun e w' => e = .returned (.bool (p (f + i))) ∧ W.grownBy w' none) :
    Calls Tryz.prog 67 #[.int .i64 why, .int .i64 f, .int .i64 l, .func (.func 74) #[] #[.pointer (some ⟨g, 0, none⟩)], .pointer (some ⟨b, 0, none⟩)] w fun e w' => e = .returned (.tuple #[]) ∧ FltS w' b (L ++ askL p why f m) ∧ Below b w w' := by
  have HC := Lib.hid H
  have HS := Lib.hid hS
  have HLL := Lib.hid hl
  clear H hS hl
  go_enter Tryz.func67, Tryz.ntmps67
  go_wp2
  go_loopw [9] (fun y wr => ∃ i : Nat, y = .int .i64 (f + i) ∧ i ≤ m ∧ Hid (FltS wr b (L ++ askL p why f i)) ∧ Hid (Below b w wr)) (fun y _ => m - ((intOf y) - f).toNat)
  case atStart => exact ⟨0, by simp, by omega, Lib.hid (by simpa [askL] using HS.out), Lib.hid (Below.refl _ _)⟩
  case round =>
    obtain ⟨i, rfl, hi, HR, HB⟩ := hrel
    by_cases hin : i < m
    · have i1 : f + (i : Int) ≤ l := by have := HLL.out; omega
      have hw : IntKind.i64.wrap (f + (i : Int) + 1) = f + (i : Int) + 1 := by rw [IntKind.wrap_i64]; omega
      have hw' : f + (i : Int) + 1 = f + ((i + 1 : Nat) : Int) := by omega
      have HCI := Lib.hid (HC.out i hin wr HB.out)
      have HA := Lib.hid (show askL p why f (i + 1) = if p (f + i) then askL p why f i ++ [(f + i, why)] else askL p why f i from rfl)
      have HLN := Lib.hid (show (L ++ askL p why f i).length ≤ 2000 by
        have := askL_len p why f i
        rw [List.length_append]
        omega)
      have HW' := Lib.hid hw'
      generalize p (f + (i : Int)) = z at HCI HA
      generalize askL p why f i = M at HR HA HLN
      clear hw'
      cases z
      · have HA2 := Lib.hid (show askL p why f (i + 1) = M by rw [HA.out]; simp)
        clear HA
        obtain ⟨r, hr⟩ : ∃ r, r = f + (i : Int) := ⟨_, rfl⟩
        rw [← hr] at HCI i1 hw ⊢
        replace hr := Lib.hid hr
        go_wp2_with (go_at_call 74; (with_reducible refine HCI.out.mono ?_); rintro e w2 ⟨rfl, g2⟩; have R2 := Lib.hid (HR.out.grown g2); have hb2 := HB.out.size; have B2 := Lib.hid (HB.out.trans (below_of_only g2 (by obtain ⟨v, h1, _⟩ := HR.out; exact Nat.le_of_lt h1.lt) (by simp))); clear g2 hb2)
        go_roundw
        case rel => exact ⟨i + 1, by rw [← HW'.out, hr.out], by omega, Lib.hid (by rw [HA2.out]; exact R2.out), B2⟩
        case measure => have := hr.out; simp [intOf] <;> omega
      · have HA2 := Lib.hid (show askL p why f (i + 1) = M ++ [(f + i, why)] by rw [HA.out]; simp)
        clear HA
        obtain ⟨r, hr⟩ : ∃ r, r = f + (i : Int) := ⟨_, rfl⟩
        rw [← hr] at HCI i1 hw HA2 ⊢
        replace hr := Lib.hid hr
        go_upto_region 4 with (go_at_call 74; (with_reducible refine HCI.out.mono ?_); rintro e w2 ⟨rfl, g2⟩; have R2 := Lib.hid (HR.out.grown g2); have B2 := Lib.hid (HB.out.trans (below_of_only g2 (by obtain ⟨v, h1, _⟩ := HR.out; exact Nat.le_of_lt h1.lt) (by simp))); clear g2)
        obtain ⟨v, hb, hrow, hown⟩ := R2.out
        obtain ⟨va, vc, rfl⟩ := hrow.form
        obtain ⟨i0, hi0, hz0, hz1, hz2⟩ := info_parts fault_info
        have hbl := hb.lt
        have hrow3 := hrow.below ((Below.refl w2.heap.size w2).alloc (Nat.le_refl _) (.cells #[.int .i64 r, .int .i64 why] 83)) (fun k hk => hrow.lt k hk)
        have hsrc : Src Tryz.prog 2 31 (.slice (some ⟨w2.heap.size, 0, none⟩) 1 1) 1 [.int .i64 r, .int .i64 why] (w2.alloc (.cells #[.int .i64 r, .int .i64 why] 83)) := Src.ofSlice _ Tryz.underlying31 _ _ _ _ rfl (fun j u hu => by
          have hj := (Blk.new w2 83 #[.int .i64 r, .int .i64 why]).cell j
          rw [addr_at, Nat.zero_add, hj]
          simpa using hu) (by simp [Value.oneCell'])
        obtain ⟨v', w', hk, hr3, hg', ho⟩ := run_pushZ (P := Tryz.prog) _ 31 83 31 i0 _ 16 Tryz.underlying31 hi0 hz0 hz1 hz2 (by omega) rfl _ _ _ hrow3 (flC_one _) _ _ hsrc (by have := HLN.out; omega)
        have hb3 : Below w2.heap.size w2 (w2.alloc (.cells #[.int .i64 r, .int .i64 why] 83)) := (Below.refl _ _).alloc (Nat.le_refl _) _
        have hb3' := hb.below hb3 hbl
        have hne : some b ≠ (Value.slice va (L ++ M).length vc).ownBlock := fun e => by
          have := hown b e.symm
          omega
        have hb4 := hb3'.only hg' hne
        have c4 : w'.cell? ⟨b, 0, none⟩ = some (.slice va (L ++ M).length vc) := hb4.cell 0
        have f4 := hb4.free 0
        obtain ⟨va', vc', rfl⟩ := hr3.form
        have hlo : ∀ k, (Value.slice va' ((L ++ M).length + 1) vc').ownBlock = some k → b < k := fun k hk => by
          rcases ho with ho | ho
          · exact hown k (ho ▸ hk)
          · rw [ho] at hk
            injection hk with hk
            rw [← hk]
            simp
            omega
        have hB4 : Below b w w' := (B2.out.trans (hb3.mono (by omega))).trans (below_of_only hg' (by simp; omega) (fun k hk => by have := hown k hk; omega))
        have c2 : w2.cell? ⟨b, 0, none⟩ = some (.slice va (L ++ M).length vc) := hb.cell 0
        have REL : Hid (FltS (w'.setCell ⟨b, 0, none⟩ (.slice va' ((L ++ M).length + 1) vc')) b (L ++ (M ++ [(r, why)]))) := Lib.hid (by
          refine ⟨_, by simpa using hb4.put 0 (.slice va' ((L ++ M).length + 1) vc'), ?_, hlo⟩
          have e1 : (L ++ (M ++ [(r, why)])).length = (L ++ M).length + 1 := by rw [← List.append_assoc, List.length_append]; rfl
          have e2 : flC (L ++ (M ++ [(r, why)])) = flC (L ++ M) ++ [.int .i64 r, .int .i64 why] := by rw [← List.append_assoc, flC_app]; rfl
          rw [e1, e2]
          exact hr3.put (p := ⟨b, 0, none⟩) (fun e => by have := hlo b e; omega) _)
        have BEL := Lib.hid (hB4.setCell (p := ⟨b, 0, none⟩) (Nat.le_refl _) (.slice va' ((L ++ M).length + 1) vc'))
        have HK := Lib.hid hk
        have HLN2 := Lib.hid (show (L ++ M).length ≤ 2000 from HLN.out)
        clear HLN
        generalize (L ++ M).length = ln at c2 c4 REL BEL HK HLN2 hrow hb4 hne hrow3 hr3 hb hb3' hown hlo ho hg' hk ⊢
        generalize ln + 1 = ln1 at REL BEL HK ⊢
        clear hb hrow hown hi0 hz0 hz1 hz2 hrow3 hsrc hk hr3 hg' ho hb3 hb3' hne hb4 hlo hB4
        go_wp2_with (at_builtin; refine wpList_append_eq rfl (.tmp 19) (.tmp 23) 31 rfl HK.out rfl rfl ?_)
        go_roundw
        case rel => exact ⟨i + 1, by rw [← HW'.out, hr.out], by omega, Lib.hid (by rw [HA2.out]; exact REL.out), BEL⟩
        case measure => have := hr.out; simp [intOf] <;> omega
    · obtain rfl : i = m := by omega
      have i1 : ¬ f + (i : Int) ≤ l := by have := HLL.out; omega
      go_wp2
      go_end0
      exact ⟨rfl, HR.out, HB.out⟩

set_option maxRecDepth 20000 in
set_option maxHeartbeats 1600000 in
theorem ask6_any (b g : Nat) (p : Int → Bool) (why f l : Int) (m : Nat) (L : List (Int × Int)) (w : World) (hl : l = f + m - 1) (hf : -1000 ≤ f ∧ f ≤ 1000) (hm : m ≤ 1000) (hL : L.length ≤ 1000) (hS : FltS w b L)
    (H : ∀ i : Nat, i < m → ∀ W, Below b w W → Calls Tryz.prog 76 #[.int .i64 (f + i), .pointer (some ⟨g, 0, none⟩)] W fun e w' => e = .returned (.bool (p (f + i))) ∧ W.grownBy w' none) :
    Calls Tryz.prog 67 #[.int .i64 why, .int .i64 f, .int .i64 l, .func (.func 76) #[] #[.pointer (some ⟨g, 0, none⟩)], .pointer (some ⟨b, 0, none⟩)] w fun e w' => e = .returned (.tuple #[]) ∧ FltS w' b (L ++ askL p why f m) ∧ Below b w w' := by
  have HC := Lib.hid H
  have HS := Lib.hid hS
  have HLL := Lib.hid hl
  clear H hS hl
  go_enter Tryz.func67, Tryz.ntmps67
  go_wp2
  go_loopw [9] (fun y wr => ∃ i : Nat, y = .int .i64 (f + i) ∧ i ≤ m ∧ Hid (FltS wr b (L ++ askL p why f i)) ∧ Hid (Below b w wr)) (fun y _ => m - ((intOf y) - f).toNat)
  case atStart => exact ⟨0, by simp, by omega, Lib.hid (by simpa [askL] using HS.out), Lib.hid (Below.refl _ _)⟩
  case round =>
    obtain ⟨i, rfl, hi, HR, HB⟩ := hrel
    by_cases hin : i < m
    · have i1 : f + (i : Int) ≤ l := by have := HLL.out; omega
      have hw : IntKind.i64.wrap (f + (i : Int) + 1) = f + (i : Int) + 1 := by rw [IntKind.wrap_i64]; omega
      have hw' : f + (i : Int) + 1 = f + ((i + 1 : Nat) : Int) := by omega
      have HCI := Lib.hid (HC.out i hin wr HB.out)
      have HA := Lib.hid (show askL p why f (i + 1) = if p (f + i) then askL p why f i ++ [(f + i, why)] else askL p why f i from rfl)
      have HLN := Lib.hid (show (L ++ askL p why f i).length ≤ 2000 by
        have := askL_len p why f i
        rw [List.length_append]
        omega)
      have HW' := Lib.hid hw'
      generalize p (f + (i : Int)) = z at HCI HA
      generalize askL p why f i = M at HR HA HLN
      clear hw'
      cases z
      · have HA2 := Lib.hid (show askL p why f (i + 1) = M by rw [HA.out]; simp)
        clear HA
        obtain ⟨r, hr⟩ : ∃ r, r = f + (i : Int) := ⟨_, rfl⟩
        rw [← hr] at HCI i1 hw ⊢
        replace hr := Lib.hid hr
        go_wp2_with (go_at_call 76; (with_reducible refine HCI.out.mono ?_); rintro e w2 ⟨rfl, g2⟩; have R2 := Lib.hid (HR.out.grown g2); have hb2 := HB.out.size; have B2 := Lib.hid (HB.out.trans (below_of_only g2 (by obtain ⟨v, h1, _⟩ := HR.out; exact Nat.le_of_lt h1.lt) (by simp))); clear g2 hb2)
        go_roundw
        case rel => exact ⟨i + 1, by rw [← HW'.out, hr.out], by omega, Lib.hid (by rw [HA2.out]; exact R2.out), B2⟩
        case measure => have := hr.out; simp [intOf] <;> omega
      · have HA2 := Lib.hid (show askL p why f (i + 1) = M ++ [(f + i, why)] by rw [HA.out]; simp)
        clear HA
        obtain ⟨r, hr⟩ : ∃ r, r = f + (i : Int) := ⟨_, rfl⟩
        rw [← hr] at HCI i1 hw HA2 ⊢
        replace hr := Lib.hid hr
        go_upto_region 4 with (go_at_call 76; (with_reducible refine HCI.out.mono ?_); rintro e w2 ⟨rfl, g2⟩; have R2 := Lib.hid (HR.out.grown g2); have B2 := Lib.hid (HB.out.trans (below_of_only g2 (by obtain ⟨v, h1, _⟩ := HR.out; exact Nat.le_of_lt h1.lt) (by simp))); clear g2)
        obtain ⟨v, hb, hrow, hown⟩ := R2.out
        obtain ⟨va, vc, rfl⟩ := hrow.form
        obtain ⟨i0, hi0, hz0, hz1, hz2⟩ := info_parts fault_info
        have hbl := hb.lt
        have hrow3 := hrow.below ((Below.refl w2.heap.size w2).alloc (Nat.le_refl _) (.cells #[.int .i64 r, .int .i64 why] 83)) (fun k hk => hrow.lt k hk)
        have hsrc : Src Tryz.prog 2 31 (.slice (some ⟨w2.heap.size, 0, none⟩) 1 1) 1 [.int .i64 r, .int .i64 why] (w2.alloc (.cells #[.int .i64 r, .int .i64 why] 83)) := Src.ofSlice _ Tryz.underlying31 _ _ _ _ rfl (fun j u hu => by
          have hj := (Blk.new w2 83 #[.int .i64 r, .int .i64 why]).cell j
          rw [addr_at, Nat.zero_add, hj]
          simpa using hu) (by simp [Value.oneCell'])
        obtain ⟨v', w', hk, hr3, hg', ho⟩ := run_pushZ (P := Tryz.prog) _ 31 83 31 i0 _ 16 Tryz.underlying31 hi0 hz0 hz1 hz2 (by omega) rfl _ _ _ hrow3 (flC_one _) _ _ hsrc (by have := HLN.out; omega)
        have hb3 : Below w2.heap.size w2 (w2.alloc (.cells #[.int .i64 r, .int .i64 why] 83)) := (Below.refl _ _).alloc (Nat.le_refl _) _
        have hb3' := hb.below hb3 hbl
        have hne : some b ≠ (Value.slice va (L ++ M).length vc).ownBlock := fun e => by
          have := hown b e.symm
          omega
        have hb4 := hb3'.only hg' hne
        have c4 : w'.cell? ⟨b, 0, none⟩ = some (.slice va (L ++ M).length vc) := hb4.cell 0
        have f4 := hb4.free 0
        obtain ⟨va', vc', rfl⟩ := hr3.form
        have hlo : ∀ k, (Value.slice va' ((L ++ M).length + 1) vc').ownBlock = some k → b < k := fun k hk => by
          rcases ho with ho | ho
          · exact hown k (ho ▸ hk)
          · rw [ho] at hk
            injection hk with hk
            rw [← hk]
            simp
            omega
        have hB4 : Below b w w' := (B2.out.trans (hb3.mono (by omega))).trans (below_of_only hg' (by simp; omega) (fun k hk => by have := hown k hk; omega))
        have c2 : w2.cell? ⟨b, 0, none⟩ = some (.slice va (L ++ M).length vc) := hb.cell 0
        have REL : Hid (FltS (w'.setCell ⟨b, 0, none⟩ (.slice va' ((L ++ M).length + 1) vc')) b (L ++ (M ++ [(r, why)]))) := Lib.hid (by
          refine ⟨_, by simpa using hb4.put 0 (.slice va' ((L ++ M).length + 1) vc'), ?_, hlo⟩
          have e1 : (L ++ (M ++ [(r, why)])).length = (L ++ M).length + 1 := by rw [← List.append_assoc, List.length_append]; rfl
          have e2 : flC (L ++ (M ++ [(r, why)])) = flC (L ++ M) ++ [.int .i64 r, .int .i64 why] := by rw [← List.append_assoc, flC_app]; rfl
          rw [e1, e2]
          exact hr3.put (p := ⟨b, 0, none⟩) (fun e => by have := hlo b e; omega) _)
        have BEL := Lib.hid (hB4.setCell (p := ⟨b, 0, none⟩) (Nat.le_refl _) (.slice va' ((L ++ M).length + 1) vc'))
        have HK := Lib.hid hk
        have HLN2 := Lib.hid (show (L ++ M).length ≤ 2000 from HLN.out)
        clear HLN
        generalize (L ++ M).length = ln at c2 c4 REL BEL HK HLN2 hrow hb4 hne hrow3 hr3 hb hb3' hown hlo ho hg' hk ⊢
        generalize ln + 1 = ln1 at REL BEL HK ⊢
        clear hb hrow hown hi0 hz0 hz1 hz2 hrow3 hsrc hk hr3 hg' ho hb3 hb3' hne hb4 hlo hB4
        go_wp2_with (at_builtin; refine wpList_append_eq rfl (.tmp 19) (.tmp 23) 31 rfl HK.out rfl rfl ?_)
        go_roundw
        case rel => exact ⟨i + 1, by rw [← HW'.out, hr.out], by omega, Lib.hid (by rw [HA2.out]; exact REL.out), BEL⟩
        case measure => have := hr.out; simp [intOf] <;> omega
    · obtain rfl : i = m := by omega
      have i1 : ¬ f + (i : Int) ≤ l := by have := HLL.out; omega
      go_wp2
      go_end0
      exact ⟨rfl, HR.out, HB.out⟩

set_option maxRecDepth 20000 in
set_option maxHeartbeats 1600000 in
theorem ask7_any (b g : Nat) (p : Int → Bool) (why f l : Int) (m : Nat) (L : List (Int × Int)) (w : World) (hl : l = f + m - 1) (hf : -1000 ≤ f ∧ f ≤ 1000) (hm : m ≤ 1000) (hL : L.length ≤ 1000) (hS : FltS w b L)
    (H : ∀ i : Nat, i < m → ∀ W, Below b w W → Calls Tryz.prog 78 #[.int .i64 (f + i), .pointer (some ⟨g, 0, none⟩)] W fun e w' => e = .returned (.bool (p (f + i))) ∧ W.grownBy w' none) :
    Calls Tryz.prog 67 #[.int .i64 why, .int .i64 f, .int .i64 l, .func (.func 78) #[] #[.pointer (some ⟨g, 0, none⟩)], .pointer (some ⟨b, 0, none⟩)] w fun e w' => e = .returned (.tuple #[]) ∧ FltS w' b (L ++ askL p why f m) ∧ Below b w w' := by
  have HC := Lib.hid H
  have HS := Lib.hid hS
  have HLL := Lib.hid hl
  clear H hS hl
  go_enter Tryz.func67, Tryz.ntmps67
  go_wp2
  go_loopw [9] (fun y wr => ∃ i : Nat, y = .int .i64 (f + i) ∧ i ≤ m ∧ Hid (FltS wr b (L ++ askL p why f i)) ∧ Hid (Below b w wr)) (fun y _ => m - ((intOf y) - f).toNat)
  case atStart => exact ⟨0, by simp, by omega, Lib.hid (by simpa [askL] using HS.out), Lib.hid (Below.refl _ _)⟩
  case round =>
    obtain ⟨i, rfl, hi, HR, HB⟩ := hrel
    by_cases hin : i < m
    · have i1 : f + (i : Int) ≤ l := by have := HLL.out; omega
      have hw : IntKind.i64.wrap (f + (i : Int) + 1) = f + (i : Int) + 1 := by rw [IntKind.wrap_i64]; omega
      have hw' : f + (i : Int) + 1 = f + ((i + 1 : Nat) : Int) := by omega
      have HCI := Lib.hid (HC.out i hin wr HB.out)
      have HA := Lib.hid (show askL p why f (i + 1) = if p (f + i) then askL p why f i ++ [(f + i, why)] else askL p why f i from rfl)
      have HLN := Lib.hid (show (L ++ askL p why f i).length ≤ 2000 by
        have := askL_len p why f i
        rw [List.length_append]
        omega)
      have HW' := Lib.hid hw'
      generalize p (f + (i : Int)) = z at HCI HA
      generalize askL p why f i = M at HR HA HLN
      clear hw'
      cases z
      · have HA2 := Lib.hid (show askL p why f (i + 1) = M by rw [HA.out]; simp)
        clear HA
        obtain ⟨r, hr⟩ : ∃ r, r = f + (i : Int) := ⟨_, rfl⟩
        rw [← hr] at HCI i1 hw ⊢
        replace hr := Lib.hid hr
        go_wp2_with (go_at_call 78; (with_reducible refine HCI.out.mono ?_); rintro e w2 ⟨rfl, g2⟩; have R2 := Lib.hid (HR.out.grown g2); have hb2 := HB.out.size; have B2 := Lib.hid (HB.out.trans (below_of_only g2 (by obtain ⟨v, h1, _⟩ := HR.out; exact Nat.le_of_lt h1.lt) (by simp))); clear g2 hb2)
        go_roundw
        case rel => exact ⟨i + 1, by rw [← HW'.out, hr.out], by omega, Lib.hid (by rw [HA2.out]; exact R2.out), B2⟩
        case measure => have := hr.out; simp [intOf] <;> omega
      · have HA2 := Lib.hid (show askL p why f (i + 1) = M ++ [(f + i, why)] by rw [HA.out]; simp)
        clear HA
        obtain ⟨r, hr⟩ : ∃ r, r = f + (i : Int) := ⟨_, rfl⟩
        rw [← hr] at HCI i1 hw HA2 ⊢
        replace hr := Lib.hid hr
        go_upto_region 4 with (go_at_call 78; (with_reducible refine HCI.out.mono ?_); rintro e w2 ⟨rfl, g2⟩; have R2 := Lib.hid (HR.out.grown g2); have B2 := Lib.hid (HB.out.trans (below_of_only g2 (by obtain ⟨v, h1, _⟩ := HR.out; exact Nat.le_of_lt h1.lt) (by simp))); clear g2)
        obtain ⟨v, hb, hrow, hown⟩ := R2.out
        obtain ⟨va, vc, rfl⟩ := hrow.form
        obtain ⟨i0, hi0, hz0, hz1, hz2⟩ := info_parts fault_info
        have hbl := hb.lt
        have hrow3 := hrow.below ((Below.refl w2.heap.size w2).alloc (Nat.le_refl _) (.cells #[.int .i64 r, .int .i64 why] 83)) (fun k hk => hrow.lt k hk)
        have hsrc : Src Tryz.prog 2 31 (.slice (some ⟨w2.heap.size, 0, none⟩) 1 1) 1 [.int .i64 r, .int .i64 why] (w2.alloc (.cells #[.int .i64 r, .int .i64 why] 83)) := Src.ofSlice _ Tryz.underlying31 _ _ _ _ rfl (fun j u hu => by
          have hj := (Blk.new w2 83 #[.int .i64 r, .int .i64 why]).cell j
          rw [addr_at, Nat.zero_add, hj]
          simpa using hu) (by simp [Value.oneCell'])
        obtain ⟨v', w', hk, hr3, hg', ho⟩ := run_pushZ (P := Tryz.prog) _ 31 83 31 i0 _ 16 Tryz.underlying31 hi0 hz0 hz1 hz2 (by omega) rfl _ _ _ hrow3 (flC_one _) _ _ hsrc (by have := HLN.out; omega)
        have hb3 : Below w2.heap.size w2 (w2.alloc (.cells #[.int .i64 r, .int .i64 why] 83)) := (Below.refl _ _).alloc (Nat.le_refl _) _
        have hb3' := hb.below hb3 hbl
        have hne : some b ≠ (Value.slice va (L ++ M).length vc).ownBlock := fun e => by
          have := hown b e.symm
          omega
        have hb4 := hb3'.only hg' hne
        have c4 : w'.cell? ⟨b, 0, none⟩ = some (.slice va (L ++ M).length vc) := hb4.cell 0
        have f4 := hb4.free 0
        obtain ⟨va', vc', rfl⟩ := hr3.form
        have hlo : ∀ k, (Value.slice va' ((L ++ M).length + 1) vc').ownBlock = some k → b < k := fun k hk => by
          rcases ho with ho | ho
          · exact hown k (ho ▸ hk)
          · rw [ho] at hk
            injection hk with hk
            rw [← hk]
            simp
            omega
        have hB4 : Below b w w' := (B2.out.trans (hb3.mono (by omega))).trans (below_of_only hg' (by simp; omega) (fun k hk => by have := hown k hk; omega))
        have c2 : w2.cell? ⟨b, 0, none⟩ = some (.slice va (L ++ M).length vc) := hb.cell 0
        have REL : Hid (FltS (w'.setCell ⟨b, 0, none⟩ (.slice va' ((L ++ M).length + 1) vc')) b (L ++ (M ++ [(r, why)]))) := Lib.hid (by
          refine ⟨_, by simpa using hb4.put 0 (.slice va' ((L ++ M).length + 1) vc'), ?_, hlo⟩
          have e1 : (L ++ (M ++ [(r, why)])).length = (L ++ M).length + 1 := by rw [← List.append_assoc, List.length_append]; rfl
          have e2 : flC (L ++ (M ++ [(r, why)])) = flC (L ++ M) ++ [.int .i64 r, .int .i64 why] := by rw [← List.append_assoc, flC_app]; rfl
          rw [e1, e2]
          exact hr3.put (p := ⟨b, 0, none⟩) (fun e => by have := hlo b e; omega) _)
        have BEL := Lib.hid (hB4.setCell (p := ⟨b, 0, none⟩) (Nat.le_refl _) (.slice va' ((L ++ M).length + 1) vc'))
        have HK := Lib.hid hk
        have HLN2 := Lib.hid (show (L ++ M).length ≤ 2000 from HLN.out)
        clear HLN
        generalize (L ++ M).length = ln at c2 c4 REL BEL HK HLN2 hrow hb4 hne hrow3 hr3 hb hb3' hown hlo ho hg' hk ⊢
        generalize ln + 1 = ln1 at REL BEL HK ⊢
        clear hb hrow hown hi0 hz0 hz1 hz2 hrow3 hsrc hk hr3 hg' ho hb3 hb3' hne hb4 hlo hB4
        go_wp2_with (at_builtin; refine wpList_append_eq rfl (.tmp 19) (.tmp 23) 31 rfl HK.out rfl rfl ?_)
        go_roundw
        case rel => exact ⟨i + 1, by rw [← HW'.out, hr.out], by omega, Lib.hid (by rw [HA2.out]; exact REL.out), BEL⟩
        case measure => have := hr.out; simp [intOf] <;> omega
    · obtain rfl : i = m := by omega
      have i1 : ¬ f + (i : Int) ≤ l := by have := HLL.out; omega
      go_wp2
      go_end0
      exact ⟨rfl, HR.out, HB.out⟩

set_option maxRecDepth 20000 in
set_option maxHeartbeats 1600000 in
theorem ask8_any (b g : Nat) (p : Int → Bool) (why f l : Int) (m : Nat) (L : List (Int × Int)) (w : World) (hl : l = f + m - 1) (hf : -1000 ≤ f ∧ f ≤ 1000) (hm : m ≤ 1000) (hL : L.length ≤ 1000) (hS : FltS w b L)
    (H : ∀ i : Nat, i < m → ∀ W, Below b w W → Calls Tryz.prog 80 #[.int .i64 (f + i), .pointer (some ⟨g, 0, none⟩)] W fun e w' => e = .returned (.bool (p (f + i))) ∧ W.grownBy w' none) :
    Calls Tryz.prog 67 #[.int .i64 why, .int .i64 f, .int .i64 l, .func (.func 80) #[] #[.pointer (some ⟨g, 0, none⟩)], .pointer (some ⟨b, 0, none⟩)] w fun e w' => e = .returned (.tuple #[]) ∧ FltS w' b (L ++ askL p why f m) ∧ Below b w w' := by
  have HC := Lib.hid H
  have HS := Lib.hid hS
  have HLL := Lib.hid hl
  clear H hS hl
  go_enter Tryz.func67, Tryz.ntmps67
  go_wp2
  go_loopw [9] (fun y wr => ∃ i : Nat, y = .int .i64 (f + i) ∧ i ≤ m ∧ Hid (FltS wr b (L ++ askL p why f i)) ∧ Hid (Below b w wr)) (fun y _ => m - ((intOf y) - f).toNat)
  case atStart => exact ⟨0, by simp, by omega, Lib.hid (by simpa [askL] using HS.out), Lib.hid (Below.refl _ _)⟩
  case round =>
    obtain ⟨i, rfl, hi, HR, HB⟩ := hrel
    by_cases hin : i < m
    · have i1 : f + (i : Int) ≤ l := by have := HLL.out; omega
      have hw : IntKind.i64.wrap (f + (i : Int) + 1) = f + (i : Int) + 1 := by rw [IntKind.wrap_i64]; omega
      have hw' : f + (i : Int) + 1 = f + ((i + 1 : Nat) : Int) := by omega
      have HCI := Lib.hid (HC.out i hin wr HB.out)
      have HA := Lib.hid (show askL p why f (i + 1) = if p (f + i) then askL p why f i ++ [(f + i, why)] else askL p why f i from rfl)
      have HLN := Lib.hid (show (L ++ askL p why f i).length ≤ 2000 by
        have := askL_len p why f i
        rw [List.length_append]
        omega)
      have HW' := Lib.hid hw'
      generalize p (f + (i : Int)) = z at HCI HA
      generalize askL p why f i = M at HR HA HLN
      clear hw'
      cases z
      · have HA2 := Lib.hid (show askL p why f (i + 1) = M by rw [HA.out]; simp)
        clear HA
        obtain ⟨r, hr⟩ : ∃ r, r = f + (i : Int) := ⟨_, rfl⟩
        rw [← hr] at HCI i1 hw ⊢
        replace hr := Lib.hid hr
        go_wp2_with (go_at_call 80; (with_reducible refine HCI.out.mono ?_); rintro e w2 ⟨rfl, g2⟩; have R2 := Lib.hid (HR.out.grown g2); have hb2 := HB.out.size; have B2 := Lib.hid (HB.out.trans (below_of_only g2 (by obtain ⟨v, h1, _⟩ := HR.out; exact Nat.le_of_lt h1.lt) (by simp))); clear g2 hb2)
        go_roundw
        case rel => exact ⟨i + 1, by rw [← HW'.out, hr.out], by omega, Lib.hid (by rw [HA2.out]; exact R2.out), B2⟩
        case measure => have := hr.out; simp [intOf] <;> omega
      · have HA2 := Lib.hid (show askL p why f (i + 1) = M ++ [(f + i, why)] by rw [HA.out]; simp)
        clear HA
        obtain ⟨r, hr⟩ : ∃ r, r = f + (i : Int) := ⟨_, rfl⟩
        rw [← hr] at HCI i1 hw HA2 ⊢
        replace hr := Lib.hid hr
        go_upto_region 4 with (go_at_call 80; (with_reducible refine HCI.out.mono ?_); rintro e w2 ⟨rfl, g2⟩; have R2 := Lib.hid (HR.out.grown g2); have B2 := Lib.hid (HB.out.trans (below_of_only g2 (by obtain ⟨v, h1, _⟩ := HR.out; exact Nat.le_of_lt h1.lt) (by simp))); clear g2)
        obtain ⟨v, hb, hrow, hown⟩ := R2.out
        obtain ⟨va, vc, rfl⟩ := hrow.form
        obtain ⟨i0, hi0, hz0, hz1, hz2⟩ := info_parts fault_info
        have hbl := hb.lt
        have hrow3 := hrow.below ((Below.refl w2.heap.size w2).alloc (Nat.le_refl _) (.cells #[.int .i64 r, .int .i64 why] 83)) (fun k hk => hrow.lt k hk)
        have hsrc : Src Tryz.prog 2 31 (.slice (some ⟨w2.heap.size, 0, none⟩) 1 1) 1 [.int .i64 r, .int .i64 why] (w2.alloc (.cells #[.int .i64 r, .int .i64 why] 83)) := Src.ofSlice _ Tryz.underlying31 _ _ _ _ rfl (fun j u hu => by
          have hj := (Blk.new w2 83 #[.int .i64 r, .int .i64 why]).cell j
          rw [addr_at, Nat.zero_add, hj]
          simpa using hu) (by simp [Value.oneCell'])
        obtain ⟨v', w', hk, hr3, hg', ho⟩ := run_pushZ (P := Tryz.prog) _ 31 83 31 i0 _ 16 Tryz.underlying31 hi0 hz0 hz1 hz2 (by omega) rfl _ _ _ hrow3 (flC_one _) _ _ hsrc (by have := HLN.out; omega)
        have hb3 : Below w2.heap.size w2 (w2.alloc (.cells #[.int .i64 r, .int .i64 why] 83)) := (Below.refl _ _).alloc (Nat.le_refl _) _
        have hb3' := hb.below hb3 hbl
        have hne : some b ≠ (Value.slice va (L ++ M).length vc).ownBlock := fun e => by
          have := hown b e.symm
          omega
        have hb4 := hb3'.only hg' hne
        have c4 : w'.cell? ⟨b, 0, none⟩ = some (.slice va (L ++ M).length vc) := hb4.cell 0
        have f4 := hb4.free 0
        obtain ⟨va', vc', rfl⟩ := hr3.form
        have hlo : ∀ k, (Value.slice va' ((L ++ M).length + 1) vc').ownBlock = some k → b < k := fun k hk => by
          rcases ho with ho | ho
          · exact hown k (ho ▸ hk)
          · rw [ho] at hk
            injection hk with hk
            rw [← hk]
            simp
            omega
        have hB4 : Below b w w' := (B2.out.trans (hb3.mono (by omega))).trans (below_of_only hg' (by simp; omega) (fun k hk => by have := hown k hk; omega))
        have c2 : w2.cell? ⟨b, 0, none⟩ = some (.slice va (L ++ M).length vc) := hb.cell 0
        have REL : Hid (FltS (w'.setCell ⟨b, 0, none⟩ (.slice va' ((L ++ M).length + 1) vc')) b (L ++ (M ++ [(r, why)]))) := Lib.hid (by
          refine ⟨_, by simpa using hb4.put 0 (.slice va' ((L ++ M).length + 1) vc'), ?_, hlo⟩
          have e1 : (L ++ (M ++ [(r, why)])).length = (L ++ M).length + 1 := by rw [← List.append_assoc, List.length_append]; rfl
          have e2 : flC (L ++ (M ++ [(r, why)])) = flC (L ++ M) ++ [.int .i64 r, .int .i64 why] := by rw [← List.append_assoc, flC_app]; rfl
          rw [e1, e2]
          exact hr3.put (p := ⟨b, 0, none⟩) (fun e => by have := hlo b e; omega) _)
        have BEL := Lib.hid (hB4.setCell (p := ⟨b, 0, none⟩) (Nat.le_refl _) (.slice va' ((L ++ M).length + 1) vc'))
        have HK := Lib.hid hk
        have HLN2 := Lib.hid (show (L ++ M).length ≤ 2000 from HLN.out)
        clear HLN
        generalize (L ++ M).length = ln at c2 c4 REL BEL HK HLN2 hrow hb4 hne hrow3 hr3 hb hb3' hown hlo ho hg' hk ⊢
        generalize ln + 1 = ln1 at REL BEL HK ⊢
        clear hb hrow hown hi0 hz0 hz1 hz2 hrow3 hsrc hk hr3 hg' ho hb3 hb3' hne hb4 hlo hB4
        go_wp2_with (at_builtin; refine wpList_append_eq rfl (.tmp 19) (.tmp 23) 31 rfl HK.out rfl rfl ?_)
        go_roundw
        case rel => exact ⟨i + 1, by rw [← HW'.out, hr.out], by omega, Lib.hid (by rw [HA2.out]; exact REL.out), BEL⟩
        case measure => have := hr.out; simp [intOf] <;> omega
    · obtain rfl : i = m := by omega
      have i1 : ¬ f + (i : Int) ≤ l := by have := HLL.out; omega
      go_wp2
      go_end0
      exact ⟨rfl, HR.out, HB.out⟩

set_option maxRecDepth 20000 in
set_option maxHeartbeats 1600000 in
theorem ask9_any (b g : Nat) (p : Int → Bool) (why f l : Int) (m : Nat) (L : List (Int × Int)) (w : World) (hl : l = f + m - 1) (hf : -1000 ≤ f ∧ f ≤ 1000) (hm : m ≤ 1000) (hL : L.length ≤ 1000) (hS : FltS w b L)
    (H : ∀ i : Nat, i < m → ∀ W, Below b w W → Calls Tryz.prog 82 #[.int .i64 (f + i), .pointer (some ⟨g, 0, none⟩)] W fun e w' => e = .returned (.bool (p (f + i))) ∧ W.grownBy w' none) :
    Calls Tryz.prog 67 #[.int .i64 why, .int .i64 f, .int .i64 l, .func (.func 82) #[] #[.pointer (some ⟨g, 0, none⟩)], .pointer (some ⟨b, 0, none⟩)] w fun e w' => e = .returned (.tuple #[]) ∧ FltS w' b (L ++ askL p why f m) ∧ Below b w w' := by
  have HC := Lib.hid H
  have HS := Lib.hid hS
  have HLL := Lib.hid hl
  clear H hS hl
  go_enter Tryz.func67, Tryz.ntmps67
  go_wp2
  go_loopw [9] (fun y wr => ∃ i : Nat, y = .int .i64 (f + i) ∧ i ≤ m ∧ Hid (FltS wr b (L ++ askL p why f i)) ∧ Hid (Below b w wr)) (fun y _ => m - ((intOf y) - f).toNat)
  case atStart => exact ⟨0, by simp, by omega, Lib.hid (by simpa [askL] using HS.out), Lib.hid (Below.refl _ _)⟩
  case round =>
    obtain ⟨i, rfl, hi, HR, HB⟩ := hrel
    by_cases hin : i < m
    · have i1 : f + (i : Int) ≤ l := by have := HLL.out; omega
      have hw : IntKind.i64.wrap (f + (i : Int) + 1) = f + (i : Int) + 1 := by rw [IntKind.wrap_i64]; omega
      have hw' : f + (i : Int) + 1 = f + ((i + 1 : Nat) : Int) := by omega
      have HCI := Lib.hid (HC.out i hin wr HB.out)
      have HA := Lib.hid (show askL p why f (i + 1) = if p (f + i) then askL p why f i ++ [(f + i, why)] else askL p why f i from rfl)
      have HLN := Lib.hid (show (L ++ askL p why f i).length ≤ 2000 by
        have := askL_len p why f i
        rw [List.length_append]
        omega)
      have HW' := Lib.hid hw'
      generalize p (f + (i : Int)) = z at HCI HA
      generalize askL p why f i = M at HR HA HLN
      clear hw'
      cases z
      · have HA2 := Lib.hid (show askL p why f (i + 1) = M by rw [HA.out]; simp)
        clear HA
        obtain ⟨r, hr⟩ : ∃ r, r = f + (i : Int) := ⟨_, rfl⟩
        rw [← hr] at HCI i1 hw ⊢
        replace hr := Lib.hid hr
        go_wp2_with (go_at_call 82; (with_reducible refine HCI.out.mono ?_); rintro e w2 ⟨rfl, g2⟩; have R2 := Lib.hid (HR.out.grown g2); have hb2 := HB.out.size; have B2 := Lib.hid (HB.out.trans (below_of_only g2 (by obtain ⟨v, h1, _⟩ := HR.out; exact Nat.le_of_lt h1.lt) (by simp))); clear g2 hb2)
        go_roundw
        case rel => exact ⟨i + 1, by rw [← HW'.out, hr.out], by omega, Lib.hid (by rw [HA2.out]; exact R2.out), B2⟩
        case measure => have := hr.out; simp [intOf] <;> omega
      · have HA2 := Lib.hid (show askL p why f (i + 1) = M ++ [(f + i, why)] by rw [HA.out]; simp)
        clear HA
        obtain ⟨r, hr⟩ : ∃ r, r = f + (i : Int) := ⟨_, rfl⟩
        rw [← hr] at HCI i1 hw HA2 ⊢
        replace hr := Lib.hid hr
        go_upto_region 4 with (go_at_call 82; (with_reducible refine HCI.out.mono ?_); rintro e w2 ⟨rfl, g2⟩; have R2 := Lib.hid (HR.out.grown g2); have B2 := Lib.hid (HB.out.trans (below_of_only g2 (by obtain ⟨v, h1, _⟩ := HR.out; exact Nat.le_of_lt h1.lt) (by simp))); clear g2)
        obtain ⟨v, hb, hrow, hown⟩ := R2.out
        obtain ⟨va, vc, rfl⟩ := hrow.form
        obtain ⟨i0, hi0, hz0, hz1, hz2⟩ := info_parts fault_info
        have hbl := hb.lt
        have hrow3 := hrow.below ((Below.refl w2.heap.size w2).alloc (Nat.le_refl _) (.cells #[.int .i64 r, .int .i64 why] 83)) (fun k hk => hrow.lt k hk)
        have hsrc : Src Tryz.prog 2 31 (.slice (some ⟨w2.heap.size, 0, none⟩) 1 1) 1 [.int .i64 r, .int .i64 why] (w2.alloc (.cells #[.int .i64 r, .int .i64 why] 83)) := Src.ofSlice _ Tryz.underlying31 _ _ _ _ rfl (fun j u hu => by
          have hj := (Blk.new w2 83 #[.int .i64 r, .int .i64 why]).cell j
          rw [addr_at, Nat.zero_add, hj]
          simpa using hu) (by simp [Value.oneCell'])
        obtain ⟨v', w', hk, hr3, hg', ho⟩ := run_pushZ (P := Tryz.prog) _ 31 83 31 i0 _ 16 Tryz.underlying31 hi0 hz0 hz1 hz2 (by omega) rfl _ _ _ hrow3 (flC_one _) _ _ hsrc (by have := HLN.out; omega)
        have hb3 : Below w2.heap.size w2 (w2.alloc (.cells #[.int .i64 r, .int .i64 why] 83)) := (Below.refl _ _).alloc (Nat.le_refl _) _
        have hb3' := hb.below hb3 hbl
        have hne : some b ≠ (Value.slice va (L ++ M).length vc).ownBlock := fun e => by
          have := hown b e.symm
          omega
        have hb4 := hb3'.only hg' hne
        have c4 : w'.cell? ⟨b, 0, none⟩ = some (.slice va (L ++ M).length vc) := hb4.cell 0
        have f4 := hb4.free 0
        obtain ⟨va', vc', rfl⟩ := hr3.form
        have hlo : ∀ k, (Value.slice va' ((L ++ M).length + 1) vc').ownBlock = some k → b < k := fun k hk => by
          rcases ho with ho | ho
          · exact hown k (ho ▸ hk)
          · rw [ho] at hk
            injection hk with hk
            rw [← hk]
            simp
            omega
        have hB4 : Below b w w' := (B2.out.trans (hb3.mono (by omega))).trans (below_of_only hg' (by simp; omega) (fun k hk => by have := hown k hk; omega))
        have c2 : w2.cell? ⟨b, 0, none⟩ = some (.slice va (L ++ M).length vc) := hb.cell 0
        have REL : Hid (FltS (w'.setCell ⟨b, 0, none⟩ (.slice va' ((L ++ M).length + 1) vc')) b (L ++ (M ++ [(r, why)]))) := Lib.hid (by
          refine ⟨_, by simpa using hb4.put 0 (.slice va' ((L ++ M).length + 1) vc'), ?_, hlo⟩
          have e1 : (L ++ (M ++ [(r, why)])).length = (L ++ M).length + 1 := by rw [← List.append_assoc, List.length_append]; rfl
          have e2 : flC (L ++ (M ++ [(r, why)])) = flC (L ++ M) ++ [.int .i64 r, .int .i64 why] := by rw [← List.append_assoc, flC_app]; rfl
          rw [e1, e2]
          exact hr3.put (p := ⟨b, 0, none⟩) (fun e => by have := hlo b e; omega) _)
        have BEL := Lib.hid (hB4.setCell (p := ⟨b, 0, none⟩) (Nat.le_refl _) (.slice va' ((L ++ M).length + 1) vc'))
        have HK := Lib.hid hk
        have HLN2 := Lib.hid (show (L ++ M).length ≤ 2000 from HLN.out)
        clear HLN
        generalize (L ++ M).length = ln at c2 c4 REL BEL HK HLN2 hrow hb4 hne hrow3 hr3 hb hb3' hown hlo ho hg' hk ⊢
        generalize ln + 1 = ln1 at REL BEL HK ⊢
        clear hb hrow hown hi0 hz0 hz1 hz2 hrow3 hsrc hk hr3 hg' ho hb3 hb3' hne hb4 hlo hB4
        go_wp2_with (at_builtin; refine wpList_append_eq rfl (.tmp 19) (.tmp 23) 31 rfl HK.out rfl rfl ?_)
        go_roundw
        case rel => exact ⟨i + 1, by rw [← HW'.out, hr.out], by omega, Lib.hid (by rw [HA2.out]; exact REL.out), BEL⟩
        case measure => have := hr.out; simp [intOf] <;> omega
    · obtain rfl : i = m := by omega
      have i1 : ¬ f + (i : Int) ≤ l := by have := HLL.out; omega
      go_wp2
      go_end0
      exact ⟨rfl, HR.out, HB.out⟩

set_option maxRecDepth 20000 in
set_option maxHeartbeats 1600000 in
theorem ask10_any (b g : Nat) (p : Int → Bool) (why f l : Int) (m : Nat) (L : List (Int × Int)) (w : World) (hl : l = f + m - 1) (hf : -1000 ≤ f ∧ f ≤ 1000) (hm : m ≤ 1000) (hL : L.length ≤ 1000) (hS : FltS w b L)
    (H : ∀ i : Nat, i < m → ∀ W, Below b w W → Calls Tryz.prog 84 #[.int .i64 (f + i), .pointer (some ⟨g, 0, none⟩)] W fun e w' => e = .returned (.bool (p (f + i))) ∧ W.grownBy w' none) :
    Calls Tryz.prog 67 #[.int .i64 why, .int .i64 f, .int .i64 l, .func (.func 84) #[] #[.pointer (some ⟨g, 0, none⟩)], .pointer (some ⟨b, 0, none⟩)] w fun e w' => e = .returned (.tuple #[]) ∧ FltS w' b (L ++ askL p why f m) ∧ Below b w w' := by
  have HC := Lib.hid H
  have HS := Lib.hid hS
  have HLL := Lib.hid hl
  clear H hS hl
  go_enter Tryz.func67, Tryz.ntmps67
  go_wp2
  go_loopw [9] (fun y wr => ∃ i : Nat, y = .int .i64 (f + i) ∧ i ≤ m ∧ Hid (FltS wr b (L ++ askL p why f i)) ∧ Hid (Below b w wr)) (fun y _ => m - ((intOf y) - f).toNat)
  case atStart => exact ⟨0, by simp, by omega, Lib.hid (by simpa [askL] using HS.out), Lib.hid (Below.refl _ _)⟩
  case round =>
    obtain ⟨i, rfl, hi, HR, HB⟩ := hrel
    by_cases hin : i < m
    · have i1 : f + (i : Int) ≤ l := by have := HLL.out; omega
      have hw : IntKind.i64.wrap (f + (i : Int) + 1) = f + (i : Int) + 1 := by rw [IntKind.wrap_i64]; omega
      have hw' : f + (i : Int) + 1 = f + ((i + 1 : Nat) : Int) := by omega
      have HCI := Lib.hid (HC.out i hin wr HB.out)
      have HA := Lib.hid (show askL p why f (i + 1) = if p (f + i) then askL p why f i ++ [(f + i, why)] else askL p why f i from rfl)
      have HLN := Lib.hid (show (L ++ askL p why f i).length ≤ 2000 by
        have := askL_len p why f i
        rw [List.length_append]
        omega)
      have HW' := Lib.hid hw'
      generalize p (f + (i : Int)) = z at HCI HA
      generalize askL p why f i = M at HR HA HLN
      clear hw'
      cases z
      · have HA2 := Lib.hid (show askL p why f (i + 1) = M by rw [HA.out]; simp)
        clear HA
        obtain ⟨r, hr⟩ : ∃ r, r = f + (i : Int) := ⟨_, rfl⟩
        rw [← hr] at HCI i1 hw ⊢
        replace hr := Lib.hid hr
        go_wp2_with (go_at_call 84; (with_reducible refine HCI.out.mono ?_); rintro e w2 ⟨rfl, g2⟩; have R2 := Lib.hid (HR.out.grown g2); have hb2 := HB.out.size; have B2 := Lib.hid (HB.out.trans (below_of_only g2 (by obtain ⟨v, h1, _⟩ := HR.out; exact Nat.le_of_lt h1.lt) (by simp))); clear g2 hb2)
        go_roundw
        case rel => exact ⟨i + 1, by rw [← HW'.out, hr.out], by omega, Lib.hid (by rw [HA2.out]; exact R2.out), B2⟩
        case measure => have := hr.out; simp [intOf] <;> omega
      · have HA2 := Lib.hid (show askL p why f (i + 1) = M ++ [(f + i, why)] by rw [HA.out]; simp)
        clear HA
        obtain ⟨r, hr⟩ : ∃ r, r = f + (i : Int) := ⟨_, rfl⟩
        rw [← hr] at HCI i1 hw HA2 ⊢
        replace hr := Lib.hid hr
        go_upto_region 4 with (go_at_call 84; (with_reducible refine HCI.out.mono ?_); rintro e w2 ⟨rfl, g2⟩; have R2 := Lib.hid (HR.out.grown g2); have B2 := Lib.hid (HB.out.trans (below_of_only g2 (by obtain ⟨v, h1, _⟩ := HR.out; exact Nat.le_of_lt h1.lt) (by simp))); clear g2)
        obtain ⟨v, hb, hrow, hown⟩ := R2.out
        obtain ⟨va, vc, rfl⟩ := hrow.form
        obtain ⟨i0, hi0, hz0, hz1, hz2⟩ := info_parts fault_info
        have hbl := hb.lt
        have hrow3 := hrow.below ((Below.refl w2.heap.size w2).alloc (Nat.le_refl _) (.cells #[.int .i64 r, .int .i64 why] 83)) (fun k hk => hrow.lt k hk)
        have hsrc : Src Tryz.prog 2 31 (.slice (some ⟨w2.heap.size, 0, none⟩) 1 1) 1 [.int .i64 r, .int .i64 why] (w2.alloc (.cells #[.int .i64 r, .int .i64 why] 83)) := Src.ofSlice _ Tryz.underlying31 _ _ _ _ rfl (fun j u hu => by
          have hj := (Blk.new w2 83 #[.int .i64 r, .int .i64 why]).cell j
          rw [addr_at, Nat.zero_add, hj]
          simpa using hu) (by simp [Value.oneCell'])
        obtain ⟨v', w', hk, hr3, hg', ho⟩ := run_pushZ (P := Tryz.prog) _ 31 83 31 i0 _ 16 Tryz.underlying31 hi0 hz0 hz1 hz2 (by omega) rfl _ _ _ hrow3 (flC_one _) _ _ hsrc (by have := HLN.out; omega)
        have hb3 : Below w2.heap.size w2 (w2.alloc (.cells #[.int .i64 r, .int .i64 why] 83)) := (Below.refl _ _).alloc (Nat.le_refl _) _
        have hb3' := hb.below hb3 hbl
        have hne : some b ≠ (Value.slice va (L ++ M).length vc).ownBlock := fun e => by
          have := hown b e.symm
          omega
        have hb4 := hb3'.only hg' hne
        have c4 : w'.cell? ⟨b, 0, none⟩ = some (.slice va (L ++ M).length vc) := hb4.cell 0
        have f4 := hb4.free 0
        obtain ⟨va', vc', rfl⟩ := hr3.form
        have hlo : ∀ k, (Value.slice va' ((L ++ M).length + 1) vc').ownBlock = some k → b < k := fun k hk => by
          rcases ho with ho | ho
          · exact hown k (ho ▸ hk)
          · rw [ho] at hk
            injection hk with hk
            rw [← hk]
            simp
            omega
        have hB4 : Below b w w' := (B2.out.trans (hb3.mono (by omega))).trans (below_of_only hg' (by simp; omega) (fun k hk => by have := hown k hk; omega))
        have c2 : w2.cell? ⟨b, 0, none⟩ = some (.slice va (L ++ M).length vc) := hb.cell 0
        have REL : Hid (FltS (w'.setCell ⟨b, 0, none⟩ (.slice va' ((L ++ M).length + 1) vc')) b (L ++ (M ++ [(r, why)]))) := Lib.hid (by
          refine ⟨_, by simpa using hb4.put 0 (.slice va' ((L ++ M).length + 1) vc'), ?_, hlo⟩
          have e1 : (L ++ (M ++ [(r, why)])).length = (L ++ M).length + 1 := by rw [← List.append_assoc, List.length_append]; rfl
          have e2 : flC (L ++ (M ++ [(r, why)])) = flC (L ++ M) ++ [.int .i64 r, .int .i64 why] := by rw [← List.append_assoc, flC_app]; rfl
          rw [e1, e2]
          exact hr3.put (p := ⟨b, 0, none⟩) (fun e => by have := hlo b e; omega) _)
        have BEL := Lib.hid (hB4.setCell (p := ⟨b, 0, none⟩) (Nat.le_refl _) (.slice va' ((L ++ M).length + 1) vc'))
        have HK := Lib.hid hk
        have HLN2 := Lib.hid (show (L ++ M).length ≤ 2000 from HLN.out)
        clear HLN
        generalize (L ++ M).length = ln at c2 c4 REL BEL HK HLN2 hrow hb4 hne hrow3 hr3 hb hb3' hown hlo ho hg' hk ⊢
        generalize ln + 1 = ln1 at REL BEL HK ⊢
        clear hb hrow hown hi0 hz0 hz1 hz2 hrow3 hsrc hk hr3 hg' ho hb3 hb3' hne hb4 hlo hB4
        go_wp2_with (at_builtin; refine wpList_append_eq rfl (.tmp 19) (.tmp 23) 31 rfl HK.out rfl rfl ?_)
        go_roundw
        case rel => exact ⟨i + 1, by rw [← HW'.out, hr.out], by omega, Lib.hid (by rw [HA2.out]; exact REL.out), BEL⟩
        case measure => have := hr.out; simp [intOf] <;> omega
    · obtain rfl : i = m := by omega
      have i1 : ¬ f + (i : Int) ≤ l := by have := HLL.out; omega
      go_wp2
      go_end0
      exact ⟨rfl, HR.out, HB.out⟩
end Go.Proofs.YtfhhcpmoaggdmaaGreat
