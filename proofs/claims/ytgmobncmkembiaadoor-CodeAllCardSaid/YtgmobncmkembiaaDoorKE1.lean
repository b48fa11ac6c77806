/- Package code: All, by its contract. -/
import Derived.Test.YtgmobncmkembiaaDoorKD6
import Derived.Test.YtgmobncmkembiaaDoorNQ0
namespace Go.Proofs.YtgmobncmkembiaaDoor
open Go.RowKit Go.Lib
set_option linter.unusedVariables false

theorem kflat_len {α : Type} (f : Nat → List α) (s : Nat) (hf : ∀ i, (f i).length = s) (n : Nat) : ((List.range n).flatMap f).length = n * s := by
  induction n with
  | zero => simp
  | succ n ih =>
    rw [List.range_succ, List.flatMap_append, List.length_append, ih, Nat.add_mul, Nat.one_mul]
    simp [hf]
theorem kflat_get {α : Type} (f : Nat → List α) (s : Nat) (hf : ∀ i, (f i).length = s) (n i t : Nat) (hi : i < n) (ht : t < s) : ((List.range n).flatMap f)[i * s + t]? = (f i)[t]? := by
  induction n with
  | zero => omega
  | succ n ih =>
    have hl := kflat_len f s hf n
    rw [List.range_succ, List.flatMap_append]
    by_cases h : i < n
    · have : (i + 1) * s ≤ n * s := Nat.mul_le_mul_right s h
      rw [Nat.add_mul, Nat.one_mul] at this
      rw [List.getElem?_append_left (by omega), ih h]
    · obtain rfl : i = n := by omega
      rw [List.getElem?_append_right (by omega), hl, Nat.add_sub_cancel_left]
      simp
/-- The instruction that lies at a text's place 4 i, as cells. -/
def cI (t : ByteArray) (i : Nat) : List Value := [.int .u8 (gb t (4 * i)), .int .i64 (gb t (4 * i + 1)), .int .i64 (gw t (4 * i + 2))]
def cIL (t : ByteArray) (n : Nat) : List Value := (List.range n).flatMap (cI t)
theorem cIL_succ (t : ByteArray) (n : Nat) : cIL t (n + 1) = cIL t n ++ cI t n := by
  simp [cIL, List.range_succ, List.flatMap_append]
theorem cIL_one (t : ByteArray) (n : Nat) : ∀ u ∈ cIL t n, u.oneCell' = true := by
  intro u hu
  simp only [cIL, cI, List.mem_flatMap] at hu
  obtain ⟨i, _, h⟩ := hu
  simp at h
  rcases h with rfl | rfl | rfl <;> rfl
theorem cIL_get {t : ByteArray} {n i k : Nat} (hi : i < n) (hk : k < 3) : (cIL t n)[i * 3 + k]? = (cI t i)[k]? := kflat_get _ 3 (fun i => rfl) n i k hi hk
/-- Why no instruction lies there; 0: one does. -/
def eA (t : ByteArray) (j : Nat) : Int := if t.size < 4 * j + 4 then 5 else if mayI (gb t (4 * j)) (gb t (4 * j + 1)) (gw t (4 * j + 2)) = true then 0 else 12
theorem gb_cut {t : ByteArray} {p : Nat} (h : p ≤ t.size) (i : Nat) : gb (t.extract p t.size) i = gb t (p + i) := by
  have hs : (t.extract p t.size).size = t.size - p := by simp
  by_cases hi : p + i < t.size
  · rw [gb_of (show i < (t.extract p t.size).size by omega), gb_of hi]
    simp [ByteArray.getElem_extract]
  · rw [gb_off (by omega), gb_off (by omega)]
theorem gw_cut {t : ByteArray} {p : Nat} (h : p ≤ t.size) (i : Nat) : gw (t.extract p t.size) i = gw t (p + i) := by
  have hs : (t.extract p t.size).size = t.size - p := by simp
  unfold gw
  rw [gb_cut h, gb_cut h, hs]
  by_cases hi : p + i + 2 ≤ t.size
  · rw [if_pos (by omega), if_pos hi, Nat.add_assoc]
  · rw [if_neg (by omega), if_neg hi]
theorem getV_cut {t : ByteArray} {j : Nat} (h : 4 * j ≤ t.size) : getV (t.extract (4 * j) t.size) = if eA t j = 0 then .tuple #[.agg #[.int .u8 (gb t (4 * j)), .int .i64 (gb t (4 * j + 1)), .int .i64 (gw t (4 * j + 2))], .int .i64 0] else .tuple #[.agg #[.int .u8 0, .int .i64 0, .int .i64 0], .int .i64 (eA t j)] := by
  have hs : (t.extract (4 * j) t.size).size = t.size - 4 * j := by simp
  unfold getV eA
  rw [gb_cut h, gb_cut h, gw_cut h, hs, Nat.add_zero]
  by_cases h4 : t.size < 4 * j + 4
  · rw [if_pos (by omega), if_pos h4, if_neg (by decide)]
  · rw [if_neg (by omega), if_neg h4]
    by_cases hm : mayI (gb t (4 * j)) (gb t (4 * j + 1)) (gw t (4 * j + 2)) = true
    · rw [if_pos hm, if_pos hm, if_pos rfl]
    · rw [if_neg hm, if_neg hm, if_neg (by decide)]
theorem eA_size {t : ByteArray} {j : Nat} (h : eA t j = 0) : 4 * j + 4 ≤ t.size := by
  unfold eA at h
  by_cases h4 : t.size < 4 * j + 4
  · rw [if_pos h4] at h
    cases h
  · omega
theorem instr_info : (Tryd.prog.info? 24).map (fun i => (i.zero, i.size, i.bytes)) = some (some (.agg #[.int .u8 0, .int .i64 0, .int .i64 0]), 3, 24) := by kernel_rfl
/-- The instructions so far. -/
def AiS (w : World) (t : ByteArray) (s : Value) (wr : World) (i : Nat) : Prop := RowZ 3 wr s i (cIL t i) ∧ (∀ k, s.ownBlock = some k → w.heap.size ≤ k) ∧ Below w.heap.size w wr
theorem ai_push {w wr w2 : World} {t : ByteArray} {va : Option Addr} {vc g i : Nat} (h : AiS w t (.slice va i vc) wr i) (hi : i ≤ 100000) (g2 : wr.grownBy w2 none) (hb : Blk w2 g 24 #[.int .u8 (gb t (4 * i)), .int .i64 (gb t (4 * i + 1)), .int .i64 (gw t (4 * i + 2))]) :
    ∃ A c w', (Builtin.append_ #[34, 34] 34 #[.slice va i vc, .slice (some ⟨g, 0, none⟩) 1 1]).run Tryd.prog w2 = .ok (.slice A (i + 1) c) w' ∧ AiS w t (.slice A (i + 1) c) w' (i + 1) := by
  obtain ⟨hrow, hown, hbel⟩ := h
  obtain ⟨i0, hi0, hz0, hz1, hz2⟩ := info_parts instr_info
  have hsrc : Src Tryd.prog 3 34 (.slice (some ⟨g, 0, none⟩) 1 1) 1 (cI t i) w2 := Src.ofSlice _ Tryd.underlying34 _ _ _ _ rfl (fun j u hu => by
    rw [addr_at, Nat.zero_add, hb.cell j]
    simpa [cI] using hu) (by simp [cI, Value.oneCell'])
  obtain ⟨v', w', hk, hr3, hg', ho⟩ := run_pushZ (P := Tryd.prog) w2 34 24 34 i0 _ 24 Tryd.underlying34 hi0 hz0 hz1 hz2 (by omega) rfl _ _ _ (hrow.grown g2) (cIL_one _ _) _ _ hsrc (by omega)
  have hs2 := g2.size
  have hs1 := hbel.size
  have hbel2 := hbel.trans (below_of_only g2 hs1 (by simp))
  have hrow' : RowZ 3 w' v' (i + 1) (cIL t (i + 1)) := by rw [cIL_succ]; exact hr3
  have hown' : ∀ k, v'.ownBlock = some k → w.heap.size ≤ k := fun k hk => by
    rcases ho with ho | ho
    · exact hown k (ho ▸ hk)
    · rw [ho] at hk
      injection hk with hk
      omega
  have hbel' := hbel2.trans (below_of_only hg' hbel2.size (fun k hk => by have := hown k hk; omega))
  have hform : ∃ A c, v' = .slice A (i + 1) c := by
    rcases hrow'.2 with ⟨_, h0⟩ | ⟨g', off, cap, e, _⟩
    · omega
    · exact ⟨_, _, e⟩
  obtain ⟨A, c, rfl⟩ := hform
  exact ⟨A, c, w', hk, hrow', hown', hbel'⟩
/-- What All answers. -/
def AllV (t : ByteArray) (w : World) (e : Ending) (w' : World) : Prop :=
  (∃ j : Nat, 4 * j < t.size ∧ (∀ i, i < j → eA t i = 0) ∧ eA t j ≠ 0 ∧ e = .returned (.tuple #[.slice none 0 0, .int .i64 ((4 * j : Nat) : Int), .int .i64 (eA t j)]) ∧ Below w.heap.size w w') ∨
  (∃ (n : Nat) (A : Option Addr) (c : Nat), t.size = 4 * n ∧ (∀ i, i < n → eA t i = 0) ∧ e = .returned (.tuple #[.slice A n c, .int .i64 (t.size : Int), .int .i64 0]) ∧ AiS w t (.slice A n c) w' n)
set_option maxRecDepth 20000 in
set_option maxHeartbeats 3200000 in
theorem all_any (t : ByteArray) (hs : t.size ≤ 400) (w : World) (hG : Nm w) : Calls Tryd.prog 14 #[.string t] w (AllV t w) := by
  have HN := Lib.hid (fun W (h : Below w.heap.size w W) => hG.below h hG.pos)
  have HBAD := Lib.hid (show ∀ j : Nat, 4 * j < t.size → (∀ i, i < j → eA t i = 0) → eA t j ≠ 0 → ∀ w', Below w.heap.size w w' → AllV t w (.returned (.tuple #[.slice none 0 0, .int .i64 ((4 * j : Nat) : Int), .int .i64 (eA t j)])) w' from fun j h1 h2 h3 w' b => .inl ⟨j, h1, h2, h3, rfl, b⟩)
  have HOK := Lib.hid (show ∀ (n : Nat) (A : Option Addr) (c : Nat), t.size = 4 * n → (∀ i, i < n → eA t i = 0) → ∀ w', AiS w t (.slice A n c) w' n → AllV t w (.returned (.tuple #[.slice A n c, .int .i64 (t.size : Int), .int .i64 0])) w' from fun n A c h1 h2 w' b => .inr ⟨n, A, c, h1, h2, rfl, b⟩)
  have R0 : Hid (AiS w t (.slice none 0 0) w 0) := Lib.hid ⟨RowZ.nil 3 w, fun k hk => by simp [Value.ownBlock] at hk, Below.refl _ _⟩
  clear hG
  go_enter Tryd.func14, Tryd.ntmps14
  go_wp2
  go_loopw [5, 6] (fun s y wr => ∃ (j p : Nat) (A : Option Addr) (c : Nat), s = .slice A j c ∧ y = .int .i64 p ∧ Hid (p = 4 * j) ∧ p ≤ t.size ∧ Hid (∀ i, i < j → eA t i = 0) ∧ Hid (AiS w t (.slice A j c) wr j)) (fun s y _ => t.size - (intOf y).toNat)
  case atStart => exact ⟨0, 0, none, 0, rfl, rfl, Lib.hid rfl, by omega, Lib.hid (fun i hi => by omega), R0⟩
  case round =>
    obtain ⟨j, p, A, c, rfl, rfl, HP, hp, HE, HR⟩ := hrel
    by_cases hin : p < t.size
    · have i1 : (p : Int) < (t.size : Int) := by omega
      have i2 : (0 : Int) ≤ (p : Int) := by omega
      have i3 : (p : Int) ≤ (t.size : Int) := by omega
      have u1 : IntKind.i64.wrap ((p : Int) + 4) = ((p + 4 : Nat) : Int) := by rw [IntKind.wrap_i64]; omega
      have HGT := Lib.hid (get_any (t.extract p t.size) (by simp; omega) wr (HN.out wr HR.out.2.2))
      have hgv := getV_cut (t := t) (j := j) (by have := HP.out; omega)
      rw [← HP.out] at hgv
      rw [hgv] at HGT
      by_cases he : eA t j = 0
      · rw [if_pos he] at HGT
        have hsz := eA_size he
        rw [← HP.out] at hsz
        have HEE := Lib.hid (show ∀ i, i < j + 1 → eA t i = 0 from fun i hi => by
          by_cases q : i = j
          · rw [q]; exact he
          · exact HE.out i (by omega))
        have HP4 := Lib.hid (show p + 4 = 4 * (j + 1) from by have := HP.out; omega)
        have hj := Lib.hid (show j ≤ 100000 from by have := HP.out; omega)
        clear hgv he
        go_upto_region 8 with (go_at_call 11; (with_reducible refine HGT.out.mono ?_); rintro e w2 ⟨rfl, g2⟩; have G2 := Lib.hid g2; clear g2)
        obtain ⟨w3, hw3⟩ : ∃ w3, w3 = w2.alloc (.cells #[.int .u8 (gb t p), .int .i64 (gb t (p + 1)), .int .i64 (gw t (p + 2))] 24) := ⟨_, rfl⟩
        have g3 : w2.grownBy w3 none := by rw [hw3]; exact only_alloc (only_refl _ _) _
        have B3 := (show Blk w3 w2.heap.size 24 #[.int .u8 (gb t p), .int .i64 (gb t (p + 1)), .int .i64 (gw t (p + 2))] from by rw [hw3]; exact Blk.new _ _ _)
        obtain ⟨w', hw'⟩ : ∃ w', w' = w3.alloc (.cells #[.int .u8 (gb t p), .int .i64 (gb t (p + 1)), .int .i64 (gw t (p + 2))] 24) := ⟨_, rfl⟩
        obtain ⟨A2, c2, w5, hk, HR5⟩ := ai_push HR.out hj.out (only_trans (only_trans G2.out g3) (only_alloc (only_refl w3 none) (.cells #[.int .u8 (gb t p), .int .i64 (gb t (p + 1)), .int .i64 (gw t (p + 2))] 24))) (show Blk (w3.alloc (.cells #[.int .u8 (gb t p), .int .i64 (gb t (p + 1)), .int .i64 (gw t (p + 2))] 24)) w3.heap.size 24 #[.int .u8 (gb t (4 * j)), .int .i64 (gb t (4 * j + 1)), .int .i64 (gw t (4 * j + 2))] from by rw [← HP.out]; exact Blk.new _ _ _)
        have HK := Lib.hid hk
        replace HR5 := Lib.hid HR5
        obtain ⟨d0, d1, d2⟩ := in3 B3
        rw [← hw3]
        clear hw3 g3 B3 hw' w' hk G2 HR HE HP hj HGT HBAD HOK R0 HN
        go_upto_region 4 with (at_builtin; refine wpList_append_eq rfl (.tmp 26) (.tmp 28) 34 rfl HK.out rfl rfl ?_)
        clear d0 d1 d2 HK
        go_wp2
        go_roundw
        case rel => exact ⟨j + 1, p + 4, A2, c2, rfl, rfl, HP4, hsz, HEE, HR5⟩
        case measure => simp [intOf] <;> omega
      · rw [if_neg he] at HGT
        have HBJ := Lib.hid (HBAD.out j (by have := HP.out; omega) HE.out he)
        have hpj := HP.out
        obtain ⟨e', hee⟩ : ∃ e', e' = eA t j := ⟨_, rfl⟩
        rw [← hpj, ← hee] at HBJ
        rw [← hee] at HGT he
        have HB0 := Lib.hid HR.out.2.2
        clear hgv hee HBAD HOK R0 HN HE HR hpj HP
        go_wp2_with (go_at_call 11; (with_reducible refine HGT.out.mono ?_); rintro e w2 ⟨rfl, g2⟩; have G2 := Lib.hid g2; clear g2)
        go_ret3
        exact HBJ.out _ (by
          have h1 := G2.out
          have h2 := HB0.out
          exact h2.trans (below_of_only (only_trans h1 (only_alloc (only_refl _ _) _)) h2.size (by simp)))
    · have i1 : ¬ (p : Int) < (t.size : Int) := by omega
      have HQ := Lib.hid (HOK.out j A c (by have := HP.out; omega) HE.out wr HR.out)
      clear HBAD HOK R0 HN HE HR HP
      go_wp2
      go_ret3
      exact HQ.out
end Go.Proofs.YtgmobncmkembiaaDoor
