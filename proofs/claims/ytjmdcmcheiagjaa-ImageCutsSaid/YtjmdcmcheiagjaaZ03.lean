import Derived.Test.YtjmdcmcheiagjaaZ02
import Derived.Test.YtjmdcmcheiagjaaZ01
import Derived.Lib.QuietBelow
set_option linter.all false
/- Rows of windows are read, by the contract of readRows. -/
namespace Go.Proofs.Ytjmdcmcheiagjaa
open Go.RowKit Go.Lib Go.Sort
set_option linter.unusedVariables false

/-- What readRows answers. -/
def RowsRV (w : World) (b : Nat) (t : ByteArray) (k : Nat) (e : Ending) (w' : World) : Prop := ∃ s, e = .returned s ∧ IRow w b t k s w' (gb t k)
theorem rrwin_any (b : Nat) (t : ByteArray) (k : Nat) (w : World) (h : RdK w b t k) (hs : t.size ≤ 10000) : Calls Try.prog 37 #[.pointer (some ⟨b, 0, none⟩), .func (.func 38) #[] #[]] w (RowsRV w b t k) := by
  have HS := Lib.hid hs
  have HB := Lib.hid (rbyte_at h hs)
  have hlt := h.lt
  have HI := Lib.hid (show ∀ w1, RdK w1 b t (k + 1) → w.grownBy w1 (some b) → IRow w b t k (.slice none 0 0) w1 0 from fun w1 q1 q2 => ⟨RowZ.nil 3 w1, fun q hq => by simp [Value.ownBlock] at hq, by simpa using q1, q2, hlt⟩)
  have HN := Lib.hid (gb_lt t k)
  have HR := Lib.hid (show ∀ s w', IRow w b t k s w' (gb t k) → RowsRV w b t k (.returned s) w' from fun s w' q => ⟨s, rfl, q⟩)
  have HP := Lib.hid (show ∀ (va : Option Addr) (vc i : Nat) (wr : World), i < gb t k → IRow w b t k (.slice va i vc) wr i → Calls Try.prog 38 #[.pointer (some ⟨b, 0, none⟩)] wr fun r w2 => r = .returned (w3v (winR t (k + 1 + i * 5))) ∧ RdK w2 b t (k + 1 + i * 5 + 5) ∧ wr.grownBy w2 (some b) from fun va vc i wr hi q => rdwin_any b t _ wr q.2.2.1 hs)
  have HQ := Lib.hid (show ∀ (va : Option Addr) (vc i : Nat) (wr w2 : World), i < gb t k → IRow w b t k (.slice va i vc) wr i → RdK w2 b t (k + 1 + i * 5 + 5) → wr.grownBy w2 (some b) → ∃ v' w', (Builtin.append_ #[22, 22] 22 #[.slice va i vc, .slice (some ⟨w2.heap.size, 0, none⟩) 1 1]).run Try.prog (w2.alloc (.cells #[.int .i64 (winR t (k + 1 + i * 5)).1, .int .i64 (winR t (k + 1 + i * 5)).2.1, .int .i64 (winR t (k + 1 + i * 5)).2.2] 49)) = .ok v' w' ∧ IRow w b t k v' w' (i + 1) from fun va vc i wr w2 hi q q1 q2 => by
    have hl := gb_lt t k
    exact IRow.push q (by omega) (q1.only (row := none) (only_alloc (only_refl _ _) _) (by simp)) (only_trans q2 (only_alloc (only_refl _ _) _)) (Blk.new w2 _ _))
  clear h hs
  generalize gb t k = n at HN HR HP HQ HB
  go_enter Try.func37, Try.ntmps37
  go_wp2
  refine wp_scope_jumps 0 (fun a' w' => ∃ (i : Nat) (s u7 u8 u9 u10 u11 u12 u13 u14 u15 u16 u17 u18 u19 : Value), a' = { tmps := #[.pointer (some ⟨b, 0, none⟩), .func (.func 38) #[] #[], undef, undef, .slice none 0 0, .int .i64 n, s, u7, u8, u9, u10, u11, u12, u13, u14, u15, u16, u17, u18, u19], defers := [] } ∧ i ≤ n ∧ Hid (IRow w b t k s w' i)) (fun a' _ => n - (match a'.tmps.getD 6 undef with | .slice _ m _ => m | _ => 0)) rfl ?_ ?_
  · go_wp2_with (go_at_call 57; (with_reducible refine HB.out.mono ?_); rintro e w1 ⟨rfl, r1, g1⟩; have I1 := Lib.hid (HI.out _ r1 g1); clear r1 g1)
    go_step3
    rcases Nat.eq_zero_or_pos n with hz | hp
    · have j1 : ¬ (0 : Int) < (n : Int) := by omega
      have I3 := Lib.hid (show IRow w b t k (.slice none 0 0) w1 n from by rw [hz]; exact I1.out)
      clear hz
      go_wp2
      simp only [Exit.jump]
      go_ret
      exact HR.out _ _ I3.out
    · have j1 : (0 : Int) < (n : Int) := by omega
      go_wp2_with (first
      | (go_at_call 38; (with_reducible refine (HP.out _ _ 0 _ (by omega) I1.out).mono ?_); rintro e w2 ⟨rfl, r2, g2⟩; obtain ⟨v', w', HK, I2⟩ := HQ.out _ _ 0 _ _ (by omega) I1.out r2 g2; replace HK := Lib.hid HK; replace I2 := Lib.hid I2; clear r2 g2)
      | (at_builtin; refine wpList_append_eq rfl (.tmp 13) (.tmp 17) 22 rfl HK.out rfl rfl ?_))
      go_step3
      exact ⟨rfl, 1, v', _, _, _, _, _, _, _, _, _, _, _, _, _, rfl, by omega, I2⟩
  · rintro a' w' ⟨i, s, u7, u8, u9, u10, u11, u12, u13, u14, u15, u16, u17, u18, u19, rfl, hi, HN2⟩
    obtain ⟨va, vc, rfl⟩ := HN2.out.1.form
    by_cases hin : i < n
    · have j1 : (i : Int) < (n : Int) := by omega
      have HIN := Lib.hid hin
      go_wp2_with (first
      | (go_at_call 38; (with_reducible refine (HP.out _ _ i _ (by omega) HN2.out).mono ?_); rintro e w2 ⟨rfl, r2, g2⟩; obtain ⟨v', w', HK, I2⟩ := HQ.out _ _ i _ _ (by omega) HN2.out r2 g2; replace HK := Lib.hid HK; replace I2 := Lib.hid I2; clear r2 g2)
      | (at_builtin; refine wpList_append_eq rfl (.tmp 13) (.tmp 17) 22 rfl HK.out rfl rfl ?_))
      go_step3
      obtain ⟨va', vc', rfl⟩ := I2.out.1.form
      refine ⟨rfl, ⟨i + 1, _, _, _, _, _, _, _, _, _, _, _, _, _, _, rfl, by omega, I2⟩, ?_⟩
      have := HIN.out
      show n - (i + 1) < n - i
      omega
    · have j1 : ¬ (i : Int) < (n : Int) := by omega
      have I3 := Lib.hid (show IRow w b t k (.slice va i vc) w' n from by rw [show n = i by omega]; exact HN2.out)
      go_wp2
      simp only [Exit.jump]
      go_ret
      exact HR.out _ _ I3.out
end Go.Proofs.Ytjmdcmcheiagjaa

/- Rows of slots are read, by the contract of readRows. -/
namespace Go.Proofs.Ytjmdcmcheiagjaa
open Go.RowKit Go.Lib Go.Sort
set_option linter.unusedVariables false

theorem rdslot_any (b : Nat) (t : ByteArray) (k : Nat) (w : World) (h : RdK w b t k) (hs : t.size ≤ 10000) : Calls Try.prog 40 #[.pointer (some ⟨b, 0, none⟩)] w fun r w' => r = .returned (w3v (winR t k)) ∧ RdK w' b t (k + 5) ∧ w.grownBy w' (some b) := by
  have hlt := h.lt
  obtain ⟨W1, hW⟩ : ∃ W1, W1 = w.alloc (.cells #[.int .i64 0, .int .i64 0, .int .i64 0] 53) := ⟨_, rfl⟩
  have g1 : w.grownBy W1 (some b) := by rw [hW]; exact only_alloc (only_refl _ _) _
  have gn : w.grownBy W1 none := by rw [hW]; exact only_alloc (only_refl _ _) _
  have HR := Lib.hid (rdwin_any b t k W1 (h.only gn (by simp)) hs)
  have B0 : Hid (Blk W1 w.heap.size 53 #[.int .i64 0, .int .i64 0, .int .i64 0]) := Lib.hid (by rw [hW]; exact Blk.new _ _ _)
  have G0 := Lib.hid g1
  clear h hs g1 gn
  generalize winR t k = x at HR ⊢
  obtain ⟨x0, x1, x2⟩ := x
  go_enter Try.func40, Try.ntmps40
  go_upto_region 1 with (fail)
  rw [← hW]
  clear hW
  go_wp2_with (go_at_call 38; (with_reducible refine HR.out.mono ?_); rintro e w1 ⟨rfl, r1, g1⟩; have R1 := Lib.hid r1; have G1 := Lib.hid (only_trans G0.out g1); have B1 := Lib.hid (B0.out.only g1 (by simp; omega)); clear r1 g1; have c0 : w1.cell? ⟨w.heap.size, 0, none⟩ = some (.int .i64 0) := B1.out.cell 0; have f0 := B1.out.free 0; have c1 : w1.cell? ⟨w.heap.size, 1, none⟩ = some (.int .i64 0) := B1.out.cell 1; have f1 := B1.out.free 1; have c2 : w1.cell? ⟨w.heap.size, 2, none⟩ = some (.int .i64 0) := B1.out.cell 2; have f2 := B1.out.free 2)
  have bf := ((B1.out.put 0 (.int .i64 x0)).put 1 (.int .i64 x1)).put 2 (.int .i64 x2)
  have r0 := bf.cell 0
  have r1 := bf.cell 1
  have r2 := bf.cell 2
  simp at r0 r1 r2
  refine bodyPost_ret (v := .agg #[.int .i64 x0, .int .i64 x1, .int .i64 x2]) (by simp [results, Try.results40, go_sem, r0, r1, r2]) rfl ⟨rfl, (((R1.out.put (p := ⟨w.heap.size, 0, none⟩) (by show b ≠ w.heap.size; omega) (.int .i64 x0)).put (p := ⟨w.heap.size, 1, none⟩) (by show b ≠ w.heap.size; omega) (.int .i64 x1)).put (p := ⟨w.heap.size, 2, none⟩) (by show b ≠ w.heap.size; omega) (.int .i64 x2)), (only_putc (only_putc (only_putc G1.out (p := ⟨w.heap.size, 0, none⟩) (Nat.le_refl _) (.int .i64 x0)) (p := ⟨w.heap.size, 1, none⟩) (Nat.le_refl _) (.int .i64 x1)) (p := ⟨w.heap.size, 2, none⟩) (Nat.le_refl _) (.int .i64 x2))⟩
theorem IRow.pushs {w wr w2 : World} {b k i g vc : Nat} {t : ByteArray} {va : Option Addr} (h : IRow w b t k (.slice va i vc) wr i) (hi : i ≤ 100000) (hr : RdK w2 b t (k + 1 + i * 5 + 5)) (g2 : wr.grownBy w2 (some b)) (hb : Blk w2 g 53 #[.int .i64 (winR t (k + 1 + i * 5)).1, .int .i64 (winR t (k + 1 + i * 5)).2.1, .int .i64 (winR t (k + 1 + i * 5)).2.2]) :
    ∃ v' w', (Builtin.append_ #[23, 23] 23 #[.slice va i vc, .slice (some ⟨g, 0, none⟩) 1 1]).run Try.prog w2 = .ok v' w' ∧ IRow w b t k v' w' (i + 1) := by
  obtain ⟨h1, h2, h3, h4, h5⟩ := h
  obtain ⟨i0, hi0, hz0, hz1, hz2⟩ := info_parts slot_info
  have hsrc : Src Try.prog 3 23 (.slice (some ⟨g, 0, none⟩) 1 1) 1 [.int .i64 (winR t (k + 1 + i * 5)).1, .int .i64 (winR t (k + 1 + i * 5)).2.1, .int .i64 (winR t (k + 1 + i * 5)).2.2] w2 := Src.ofSlice _ Try.underlying23 _ _ _ _ rfl (fun j u hu => by
    rw [addr_at, Nat.zero_add, hb.cell j]
    simpa using hu) (by simp [Value.oneCell'])
  have hne : ∀ q, (Value.slice va i vc).ownBlock = some q → q ≠ b := fun q hq => by have := h2 q hq; omega
  have h1' := h1.only g2 (by
    cases hv : (Value.slice va i vc).ownBlock with
    | none => exact .inl rfl
    | some q => exact .inr (fun e => hne q hv (by injection e)))
  obtain ⟨v', w', hk, hr3, hg', ho⟩ := run_pushZ (P := Try.prog) w2 23 53 23 i0 _ 24 Try.underlying23 hi0 hz0 hz1 hz2 (by omega) rfl _ _ _ h1' (w3L_one _ _) _ _ hsrc (by omega)
  have hs1 := h4.size
  have hs2 := g2.size
  have hs3 := hg'.size
  refine ⟨v', w', hk, ?_, fun q hq => ?_, ?_, ⟨hg'.os.trans (g2.os.trans h4.os), hg'.tape.trans (g2.tape.trans h4.tape), hg'.output.trans (g2.output.trans h4.output), by omega, fun q hq hn => ?_⟩, h5⟩
  · rw [w3L_succ]
    exact hr3
  · rcases ho with ho | ho
    · exact h2 q (ho ▸ hq)
    · rw [ho] at hq
      injection hq with hq
      omega
  · rw [show k + 1 + (i + 1) * 5 = k + 1 + i * 5 + 5 by omega]
    exact hr.only hg' (fun e => hne b e rfl)
  · rw [hg'.block q (by omega) (fun e => by have := h2 q e.symm; omega), g2.block q (by omega) hn, h4.block q hq hn]
theorem rrslot_any (b : Nat) (t : ByteArray) (k : Nat) (w : World) (h : RdK w b t k) (hs : t.size ≤ 10000) : Calls Try.prog 39 #[.pointer (some ⟨b, 0, none⟩), .func (.func 40) #[] #[]] w (RowsRV w b t k) := by
  have HS := Lib.hid hs
  have HB := Lib.hid (rbyte_at h hs)
  have hlt := h.lt
  have HI := Lib.hid (show ∀ w1, RdK w1 b t (k + 1) → w.grownBy w1 (some b) → IRow w b t k (.slice none 0 0) w1 0 from fun w1 q1 q2 => ⟨RowZ.nil 3 w1, fun q hq => by simp [Value.ownBlock] at hq, by simpa using q1, q2, hlt⟩)
  have HN := Lib.hid (gb_lt t k)
  have HR := Lib.hid (show ∀ s w', IRow w b t k s w' (gb t k) → RowsRV w b t k (.returned s) w' from fun s w' q => ⟨s, rfl, q⟩)
  have HP := Lib.hid (show ∀ (va : Option Addr) (vc i : Nat) (wr : World), i < gb t k → IRow w b t k (.slice va i vc) wr i → Calls Try.prog 40 #[.pointer (some ⟨b, 0, none⟩)] wr fun r w2 => r = .returned (w3v (winR t (k + 1 + i * 5))) ∧ RdK w2 b t (k + 1 + i * 5 + 5) ∧ wr.grownBy w2 (some b) from fun va vc i wr hi q => rdslot_any b t _ wr q.2.2.1 hs)
  have HQ := Lib.hid (show ∀ (va : Option Addr) (vc i : Nat) (wr w2 : World), i < gb t k → IRow w b t k (.slice va i vc) wr i → RdK w2 b t (k + 1 + i * 5 + 5) → wr.grownBy w2 (some b) → ∃ v' w', (Builtin.append_ #[23, 23] 23 #[.slice va i vc, .slice (some ⟨w2.heap.size, 0, none⟩) 1 1]).run Try.prog (w2.alloc (.cells #[.int .i64 (winR t (k + 1 + i * 5)).1, .int .i64 (winR t (k + 1 + i * 5)).2.1, .int .i64 (winR t (k + 1 + i * 5)).2.2] 53)) = .ok v' w' ∧ IRow w b t k v' w' (i + 1) from fun va vc i wr w2 hi q q1 q2 => by
    have hl := gb_lt t k
    exact IRow.pushs q (by omega) (q1.only (row := none) (only_alloc (only_refl _ _) _) (by simp)) (only_trans q2 (only_alloc (only_refl _ _) _)) (Blk.new w2 _ _))
  clear h hs
  generalize gb t k = n at HN HR HP HQ HB
  go_enter Try.func39, Try.ntmps39
  go_wp2
  refine wp_scope_jumps 0 (fun a' w' => ∃ (i : Nat) (s u7 u8 u9 u10 u11 u12 u13 u14 u15 u16 u17 u18 u19 : Value), a' = { tmps := #[.pointer (some ⟨b, 0, none⟩), .func (.func 40) #[] #[], undef, undef, .slice none 0 0, .int .i64 n, s, u7, u8, u9, u10, u11, u12, u13, u14, u15, u16, u17, u18, u19], defers := [] } ∧ i ≤ n ∧ Hid (IRow w b t k s w' i)) (fun a' _ => n - (match a'.tmps.getD 6 undef with | .slice _ m _ => m | _ => 0)) rfl ?_ ?_
  · go_wp2_with (go_at_call 57; (with_reducible refine HB.out.mono ?_); rintro e w1 ⟨rfl, r1, g1⟩; have I1 := Lib.hid (HI.out _ r1 g1); clear r1 g1)
    go_step3
    rcases Nat.eq_zero_or_pos n with hz | hp
    · have j1 : ¬ (0 : Int) < (n : Int) := by omega
      have I3 := Lib.hid (show IRow w b t k (.slice none 0 0) w1 n from by rw [hz]; exact I1.out)
      clear hz
      go_wp2
      simp only [Exit.jump]
      go_ret
      exact HR.out _ _ I3.out
    · have j1 : (0 : Int) < (n : Int) := by omega
      go_wp2_with (first
      | (go_at_call 40; (with_reducible refine (HP.out _ _ 0 _ (by omega) I1.out).mono ?_); rintro e w2 ⟨rfl, r2, g2⟩; obtain ⟨v', w', HK, I2⟩ := HQ.out _ _ 0 _ _ (by omega) I1.out r2 g2; replace HK := Lib.hid HK; replace I2 := Lib.hid I2; clear r2 g2)
      | (at_builtin; refine wpList_append_eq rfl (.tmp 13) (.tmp 17) 23 rfl HK.out rfl rfl ?_))
      go_step3
      exact ⟨rfl, 1, v', _, _, _, _, _, _, _, _, _, _, _, _, _, rfl, by omega, I2⟩
  · rintro a' w' ⟨i, s, u7, u8, u9, u10, u11, u12, u13, u14, u15, u16, u17, u18, u19, rfl, hi, HN2⟩
    obtain ⟨va, vc, rfl⟩ := HN2.out.1.form
    by_cases hin : i < n
    · have j1 : (i : Int) < (n : Int) := by omega
      have HIN := Lib.hid hin
      go_wp2_with (first
      | (go_at_call 40; (with_reducible refine (HP.out _ _ i _ (by omega) HN2.out).mono ?_); rintro e w2 ⟨rfl, r2, g2⟩; obtain ⟨v', w', HK, I2⟩ := HQ.out _ _ i _ _ (by omega) HN2.out r2 g2; replace HK := Lib.hid HK; replace I2 := Lib.hid I2; clear r2 g2)
      | (at_builtin; refine wpList_append_eq rfl (.tmp 13) (.tmp 17) 23 rfl HK.out rfl rfl ?_))
      go_step3
      obtain ⟨va', vc', rfl⟩ := I2.out.1.form
      refine ⟨rfl, ⟨i + 1, _, _, _, _, _, _, _, _, _, _, _, _, _, _, rfl, by omega, I2⟩, ?_⟩
      have := HIN.out
      show n - (i + 1) < n - i
      omega
    · have j1 : ¬ (i : Int) < (n : Int) := by omega
      have I3 := Lib.hid (show IRow w b t k (.slice va i vc) w' n from by rw [show n = i by omega]; exact HN2.out)
      go_wp2
      simp only [Exit.jump]
      go_ret
      exact HR.out _ _ I3.out
end Go.Proofs.Ytjmdcmcheiagjaa

/- Rows of clients are read, by the contract of readRows. -/
namespace Go.Proofs.Ytjmdcmcheiagjaa
open Go.RowKit Go.Lib Go.Sort
set_option linter.unusedVariables false

/-- The cells of clients. -/
def cl9L (d : Nat → Cl) (n : Nat) : List Value := (List.range n).flatMap fun (i : Nat) => [.int .i64 (d i).base, .int .i64 (d i).size, .int .i64 (d i).ring, .int .i64 (d i).at', .int .i64 (d i).quota, .int .i64 (d i).queue, .int .i64 (d i).mac, .int .i64 (d i).chan, .int .i64 (d i).first, .int .i64 (d i).secs]
theorem cl9L_succ (d : Nat → Cl) (n : Nat) : cl9L d (n + 1) = cl9L d n ++ [.int .i64 (d n).base, .int .i64 (d n).size, .int .i64 (d n).ring, .int .i64 (d n).at', .int .i64 (d n).quota, .int .i64 (d n).queue, .int .i64 (d n).mac, .int .i64 (d n).chan, .int .i64 (d n).first, .int .i64 (d n).secs] := by
  simp [cl9L, List.range_succ, List.flatMap_append]
theorem cl9L_one (d : Nat → Cl) (n : Nat) : ∀ u ∈ cl9L d n, u.oneCell' = true := by
  intro u hu
  simp only [cl9L, List.mem_flatMap] at hu
  obtain ⟨i, _, h⟩ := hu
  simp at h
  rcases h with rfl | rfl | rfl | rfl | rfl | rfl | rfl | rfl | rfl | rfl <;> rfl
theorem cl9L_get {d : Nat → Cl} {n i t : Nat} (hi : i < n) (ht : t < 10) : (cl9L d n)[i * 10 + t]? = [Value.int .i64 (d i).base, .int .i64 (d i).size, .int .i64 (d i).ring, .int .i64 (d i).at', .int .i64 (d i).quota, .int .i64 (d i).queue, .int .i64 (d i).mac, .int .i64 (d i).chan, .int .i64 (d i).first, .int .i64 (d i).secs][t]? :=
  flatr_get _ 10 (fun i => rfl) n i t hi ht
theorem row9_of {w : World} {A : Option Addr} {n cap : Nat} {d : Nat → Cl} (h : RowZ 10 w (.slice A n cap) n (cl9L d n)) : RowC w A n d := by
  rcases h with ⟨hl, ⟨e, h0⟩ | ⟨g, off, cap', e, h1, h2, h3, h4, h5⟩⟩
  · injection e with e1 e2 e3
    exact ⟨fun _ => h0, fun hp => by omega⟩
  · injection e with e1 e2 e3
    subst e1
    have g0 : ∀ i t u, i < n → t < 10 → [Value.int .i64 (d i).base, .int .i64 (d i).size, .int .i64 (d i).ring, .int .i64 (d i).at', .int .i64 (d i).quota, .int .i64 (d i).queue, .int .i64 (d i).mac, .int .i64 (d i).chan, .int .i64 (d i).first, .int .i64 (d i).secs][t]? = some u → w.cell? ⟨g, off + i * 10 + t, none⟩ = some u := fun i t u hi ht hu => by
      rw [Nat.add_assoc]
      exact h5 _ u (by rw [cl9L_get hi ht]; exact hu)
    exact ⟨fun x => (by cases x), fun hp => ⟨g, off, rfl, h3, fun i hi => ⟨g0 i 0 _ hi (by omega) rfl, g0 i 1 _ hi (by omega) rfl, g0 i 2 _ hi (by omega) rfl, g0 i 3 _ hi (by omega) rfl, g0 i 4 _ hi (by omega) rfl, g0 i 5 _ hi (by omega) rfl, g0 i 6 _ hi (by omega) rfl, g0 i 7 _ hi (by omega) rfl, g0 i 8 _ hi (by omega) rfl, g0 i 9 _ hi (by omega) rfl⟩⟩⟩
theorem cli_info : (Try.prog.info? 57).map (fun i => (i.zero, i.size, i.bytes)) = some (some (.agg #[.int .i64 0, .int .i64 0, .int .i64 0, .int .i64 0, .int .i64 0, .int .i64 0, .int .i64 0, .int .i64 0, .int .i64 0, .int .i64 0]), 10, 80) := by kernel_rfl
/-- The clients that were read so far, and the reader. -/
def CRow (w : World) (b : Nat) (t : ByteArray) (k : Nat) (s : Value) (wr : World) (i : Nat) : Prop := RowZ 10 wr s i (cl9L (fun q => cliR t (k + 1 + q * 14)) i) ∧ (∀ q, s.ownBlock = some q → w.heap.size ≤ q) ∧ RdK wr b t (k + 1 + i * 14) ∧ w.grownBy wr (some b) ∧ b < w.heap.size
/-- What readRows answers of clients. -/
def RowsCV (w : World) (b : Nat) (t : ByteArray) (k : Nat) (e : Ending) (w' : World) : Prop := ∃ s, e = .returned s ∧ CRow w b t k s w' (gb t k)
theorem CRow.push {w wr w2 : World} {b k i g vc : Nat} {t : ByteArray} {va : Option Addr} (h : CRow w b t k (.slice va i vc) wr i) (hi : i ≤ 100000) (hr : RdK w2 b t (k + 1 + i * 14 + 14)) (g2 : wr.grownBy w2 (some b)) (hb : Blk w2 g 57 #[.int .i64 (cliR t (k + 1 + i * 14)).base, .int .i64 (cliR t (k + 1 + i * 14)).size, .int .i64 (cliR t (k + 1 + i * 14)).ring, .int .i64 (cliR t (k + 1 + i * 14)).at', .int .i64 (cliR t (k + 1 + i * 14)).quota, .int .i64 (cliR t (k + 1 + i * 14)).queue, .int .i64 (cliR t (k + 1 + i * 14)).mac, .int .i64 (cliR t (k + 1 + i * 14)).chan, .int .i64 (cliR t (k + 1 + i * 14)).first, .int .i64 (cliR t (k + 1 + i * 14)).secs]) :
    ∃ v' w', (Builtin.append_ #[24, 24] 24 #[.slice va i vc, .slice (some ⟨g, 0, none⟩) 1 1]).run Try.prog w2 = .ok v' w' ∧ CRow w b t k v' w' (i + 1) := by
  obtain ⟨h1, h2, h3, h4, h5⟩ := h
  obtain ⟨i0, hi0, hz0, hz1, hz2⟩ := info_parts cli_info
  have hsrc : Src Try.prog 10 24 (.slice (some ⟨g, 0, none⟩) 1 1) 1 [.int .i64 (cliR t (k + 1 + i * 14)).base, .int .i64 (cliR t (k + 1 + i * 14)).size, .int .i64 (cliR t (k + 1 + i * 14)).ring, .int .i64 (cliR t (k + 1 + i * 14)).at', .int .i64 (cliR t (k + 1 + i * 14)).quota, .int .i64 (cliR t (k + 1 + i * 14)).queue, .int .i64 (cliR t (k + 1 + i * 14)).mac, .int .i64 (cliR t (k + 1 + i * 14)).chan, .int .i64 (cliR t (k + 1 + i * 14)).first, .int .i64 (cliR t (k + 1 + i * 14)).secs] w2 := Src.ofSlice _ Try.underlying24 _ _ _ _ rfl (fun j u hu => by
    rw [addr_at, Nat.zero_add, hb.cell j]
    simpa using hu) (by simp [Value.oneCell'])
  have hne : ∀ q, (Value.slice va i vc).ownBlock = some q → q ≠ b := fun q hq => by have := h2 q hq; omega
  have h1' := h1.only g2 (by
    cases hv : (Value.slice va i vc).ownBlock with
    | none => exact .inl rfl
    | some q => exact .inr (fun e => hne q hv (by injection e)))
  obtain ⟨v', w', hk, hr3, hg', ho⟩ := run_growZ (P := Try.prog) w2 24 24 57 24 1 (by omega) i0 _ 80 Try.underlying24 hi0 hz0 hz1 hz2 (by omega) rfl _ _ _ h1' (cl9L_one _ _) _ _ hsrc (by omega)
  have hs1 := h4.size
  have hs2 := g2.size
  have hs3 := hg'.size
  refine ⟨v', w', hk, ?_, fun q hq => ?_, ?_, ⟨hg'.os.trans (g2.os.trans h4.os), hg'.tape.trans (g2.tape.trans h4.tape), hg'.output.trans (g2.output.trans h4.output), by omega, fun q hq hn => ?_⟩, h5⟩
  · rw [cl9L_succ]
    exact hr3
  · rcases ho with ho | ho
    · exact h2 q (ho ▸ hq)
    · rw [ho] at hq
      injection hq with hq
      omega
  · rw [show k + 1 + (i + 1) * 14 = k + 1 + i * 14 + 14 by omega]
    exact hr.only hg' (fun e => hne b e rfl)
  · rw [hg'.block q (by omega) (fun e => by have := h2 q e.symm; omega), g2.block q (by omega) hn, h4.block q hq hn]
theorem rrcli_any (b : Nat) (t : ByteArray) (k : Nat) (w : World) (h : RdK w b t k) (hs : t.size ≤ 10000) : Calls Try.prog 41 #[.pointer (some ⟨b, 0, none⟩), .func (.func 42) #[] #[]] w (RowsCV w b t k) := by
  have HS := Lib.hid hs
  have HB := Lib.hid (rbyte_at h hs)
  have hlt := h.lt
  have HI := Lib.hid (show ∀ w1, RdK w1 b t (k + 1) → w.grownBy w1 (some b) → CRow w b t k (.slice none 0 0) w1 0 from fun w1 q1 q2 => ⟨RowZ.nil 10 w1, fun q hq => by simp [Value.ownBlock] at hq, by simpa using q1, q2, hlt⟩)
  have HN := Lib.hid (gb_lt t k)
  have HR := Lib.hid (show ∀ s w', CRow w b t k s w' (gb t k) → RowsCV w b t k (.returned s) w' from fun s w' q => ⟨s, rfl, q⟩)
  have HP := Lib.hid (show ∀ (va : Option Addr) (vc i : Nat) (wr : World), i < gb t k → CRow w b t k (.slice va i vc) wr i → Calls Try.prog 42 #[.pointer (some ⟨b, 0, none⟩)] wr fun r w2 => r = .returned (clv (cliR t (k + 1 + i * 14))) ∧ RdK w2 b t (k + 1 + i * 14 + 14) ∧ wr.grownBy w2 (some b) from fun va vc i wr hi q => rdcli_any b t _ wr q.2.2.1 hs)
  have HQ := Lib.hid (show ∀ (va : Option Addr) (vc i : Nat) (wr w2 : World), i < gb t k → CRow w b t k (.slice va i vc) wr i → RdK w2 b t (k + 1 + i * 14 + 14) → wr.grownBy w2 (some b) → ∃ v' w', (Builtin.append_ #[24, 24] 24 #[.slice va i vc, .slice (some ⟨w2.heap.size, 0, none⟩) 1 1]).run Try.prog (w2.alloc (.cells #[.int .i64 (cliR t (k + 1 + i * 14)).base, .int .i64 (cliR t (k + 1 + i * 14)).size, .int .i64 (cliR t (k + 1 + i * 14)).ring, .int .i64 (cliR t (k + 1 + i * 14)).at', .int .i64 (cliR t (k + 1 + i * 14)).quota, .int .i64 (cliR t (k + 1 + i * 14)).queue, .int .i64 (cliR t (k + 1 + i * 14)).mac, .int .i64 (cliR t (k + 1 + i * 14)).chan, .int .i64 (cliR t (k + 1 + i * 14)).first, .int .i64 (cliR t (k + 1 + i * 14)).secs] 57)) = .ok v' w' ∧ CRow w b t k v' w' (i + 1) from fun va vc i wr w2 hi q q1 q2 => by
    have hl := gb_lt t k
    exact CRow.push q (by omega) (q1.only (row := none) (only_alloc (only_refl _ _) _) (by simp)) (only_trans q2 (only_alloc (only_refl _ _) _)) (Blk.new w2 _ _))
  clear h hs
  generalize gb t k = n at HN HR HP HQ HB
  go_enter Try.func41, Try.ntmps41
  go_wp2
  refine wp_scope_jumps 0 (fun a' w' => ∃ (i : Nat) (s u7 u8 u9 u10 u11 u12 u13 u14 u15 u16 u17 u18 u19 : Value), a' = { tmps := #[.pointer (some ⟨b, 0, none⟩), .func (.func 42) #[] #[], undef, undef, .slice none 0 0, .int .i64 n, s, u7, u8, u9, u10, u11, u12, u13, u14, u15, u16, u17, u18, u19], defers := [] } ∧ i ≤ n ∧ Hid (CRow w b t k s w' i)) (fun a' _ => n - (match a'.tmps.getD 6 undef with | .slice _ m _ => m | _ => 0)) rfl ?_ ?_
  · go_wp2_with (go_at_call 57; (with_reducible refine HB.out.mono ?_); rintro e w1 ⟨rfl, r1, g1⟩; have I1 := Lib.hid (HI.out _ r1 g1); clear r1 g1)
    go_step3
    rcases Nat.eq_zero_or_pos n with hz | hp
    · have j1 : ¬ (0 : Int) < (n : Int) := by omega
      have I3 := Lib.hid (show CRow w b t k (.slice none 0 0) w1 n from by rw [hz]; exact I1.out)
      clear hz
      go_wp2
      simp only [Exit.jump]
      go_ret
      exact HR.out _ _ I3.out
    · have j1 : (0 : Int) < (n : Int) := by omega
      go_wp2_with (first
      | (go_at_call 42; (with_reducible refine (HP.out _ _ 0 _ (by omega) I1.out).mono ?_); rintro e w2 ⟨rfl, r2, g2⟩; obtain ⟨v', w', HK, I2⟩ := HQ.out _ _ 0 _ _ (by omega) I1.out r2 g2; replace HK := Lib.hid HK; replace I2 := Lib.hid I2; clear r2 g2)
      | (at_builtin; refine wpList_append_eq rfl (.tmp 13) (.tmp 17) 24 rfl HK.out rfl rfl ?_))
      go_step3
      exact ⟨rfl, 1, v', _, _, _, _, _, _, _, _, _, _, _, _, _, rfl, by omega, I2⟩
  · rintro a' w' ⟨i, s, u7, u8, u9, u10, u11, u12, u13, u14, u15, u16, u17, u18, u19, rfl, hi, HN2⟩
    obtain ⟨va, vc, rfl⟩ := HN2.out.1.form
    by_cases hin : i < n
    · have j1 : (i : Int) < (n : Int) := by omega
      have HIN := Lib.hid hin
      go_wp2_with (first
      | (go_at_call 42; (with_reducible refine (HP.out _ _ i _ (by omega) HN2.out).mono ?_); rintro e w2 ⟨rfl, r2, g2⟩; obtain ⟨v', w', HK, I2⟩ := HQ.out _ _ i _ _ (by omega) HN2.out r2 g2; replace HK := Lib.hid HK; replace I2 := Lib.hid I2; clear r2 g2)
      | (at_builtin; refine wpList_append_eq rfl (.tmp 13) (.tmp 17) 24 rfl HK.out rfl rfl ?_))
      go_step3
      obtain ⟨va', vc', rfl⟩ := I2.out.1.form
      refine ⟨rfl, ⟨i + 1, _, _, _, _, _, _, _, _, _, _, _, _, _, _, rfl, by omega, I2⟩, ?_⟩
      have := HIN.out
      show n - (i + 1) < n - i
      omega
    · have j1 : ¬ (i : Int) < (n : Int) := by omega
      have I3 := Lib.hid (show CRow w b t k (.slice va i vc) w' n from by rw [show n = i by omega]; exact HN2.out)
      go_wp2
      simp only [Exit.jump]
      go_ret
      exact HR.out _ _ I3.out
end Go.Proofs.Ytjmdcmcheiagjaa

/- Plain facts on the check of sixteen bits: no program is spoken of here. -/
namespace Go.Proofs.Ytjmdcmcheiagjaa.Cr
open Go.RowKit

/-- The number behind one bit more. -/
def push (x b : Nat) : Nat := (x * 2 % 65536) ^^^ (if x / 32768 = b then 0 else 4129)
/-- A bit of a byte, from the highest one (0) on. -/
def bitOf (b i : Nat) : Nat := b / 2 ^ (7 - i) % 2
def feed (x : Nat) (l : List Nat) : Nat := l.foldl push x
/-- The first k bits of a byte. -/
def bitsTo (b k : Nat) : List Nat := (List.range k).map (bitOf b)
def step (x b : Nat) : Nat := feed x (bitsTo b 8)
def from' (x : Nat) (l : List UInt8) : Nat := l.foldl (fun x b => step x b.toNat) x

theorem push_lt (x b : Nat) : push x b < 65536 := by
  have h : push x b < 2 ^ 16 := by
    apply Nat.xor_lt_two_pow
    · omega
    · split <;> decide
  simpa using h

theorem feed_lt (l : List Nat) (x : Nat) (h : x < 65536) : feed x l < 65536 := by
  induction l generalizing x with
  | nil => simpa [feed] using h
  | cons b l ih => exact ih _ (push_lt x b)

theorem step_lt (x b : Nat) (h : x < 65536) : step x b < 65536 := feed_lt _ _ h

theorem from_lt (l : List UInt8) (x : Nat) (h : x < 65536) : from' x l < 65536 := by
  induction l generalizing x with
  | nil => simpa [from'] using h
  | cons b l ih => exact ih _ (step_lt x _ h)

theorem bitsTo_succ (b k : Nat) : bitsTo b (k + 1) = bitsTo b k ++ [bitOf b k] := by
  simp [bitsTo, List.range_succ]

theorem feed_succ (x b k : Nat) : feed x (bitsTo b (k + 1)) = push (feed x (bitsTo b k)) (bitOf b k) := by
  rw [bitsTo_succ]
  simp [feed]

theorem feed_append (x : Nat) (l m : List Nat) : feed x (l ++ m) = feed (feed x l) m := by simp [feed]

theorem from_append (x : Nat) (l m : List UInt8) : from' x (l ++ m) = from' (from' x l) m := by simp [from']

theorem from_snoc (x : Nat) (l : List UInt8) (b : UInt8) : from' x (l ++ [b]) = step (from' x l) b.toNat := by simp [from']

theorem push_own (x : Nat) : push x (x / 32768) = x * 2 % 65536 := by simp [push]

/-- A number that is fed its own two bytes is 0. -/
theorem feed_own (x k : Nat) (hk : k ≤ 8) (h : x < 65536) : feed x (bitsTo (x / 256) k) = x * 2 ^ k % 65536 := by
  induction k with
  | zero => simp [bitsTo, feed]; omega
  | succ k ih =>
    rw [feed_succ, ih (by omega)]
    have hb : bitOf (x / 256) k = (x * 2 ^ k % 65536) / 32768 := by
      have hk' : k = 0 ∨ k = 1 ∨ k = 2 ∨ k = 3 ∨ k = 4 ∨ k = 5 ∨ k = 6 ∨ k = 7 := by omega
      rcases hk' with rfl | rfl | rfl | rfl | rfl | rfl | rfl | rfl <;> simp [bitOf] <;> omega
    rw [hb, push_own, Nat.pow_succ, ← Nat.mul_assoc]
    omega

theorem step_own (x : Nat) (h : x < 65536) : step x (x / 256) = x % 256 * 256 := by
  rw [step, feed_own x 8 (by omega) h]
  omega

theorem step_own2 (x : Nat) (h : x < 65536) : step (step x (x / 256)) (x % 256) = 0 := by
  rw [step_own x h]
  have h2 : x % 256 = (x % 256 * 256) / 256 := by omega
  have h3 := step_own (x % 256 * 256) (by omega)
  rw [← h2] at h3
  rw [h3]
  omega

theorem and65535 (n : Int) : bits .and .i64 n 65535 = n % 65536 := by
  show IntKind.i64.wrap ((BitVec.ofInt 64 n &&& BitVec.ofInt 64 65535).toNat : Int) = _
  have h : (BitVec.ofInt 64 (65535 : Int)).toNat = 2 ^ 16 - 1 := by decide
  rw [BitVec.toNat_and, h, Nat.and_two_pow_sub_one_eq_mod, BitVec.toNat_ofInt, IntKind.wrap_i64]
  omega

theorem and1 (a : Nat) (h : a < 9223372036854775808) : bits .and .i64 (a : Int) 1 = ((a % 2 : Nat) : Int) := by
  show IntKind.i64.wrap ((BitVec.ofInt 64 (a : Int) &&& BitVec.ofInt 64 1).toNat : Int) = _
  have h1 : (BitVec.ofInt 64 (1 : Int)).toNat = 2 ^ 1 - 1 := by decide
  rw [BitVec.toNat_and, h1, Nat.and_two_pow_sub_one_eq_mod, BitVec.toNat_ofInt, IntKind.wrap_i64]
  omega

theorem xorN (a b : Nat) (ha : a < 65536) (hb : b < 65536) : bits .xor .i64 (a : Int) (b : Int) = ((a ^^^ b : Nat) : Int) := by
  have hx : a ^^^ b < 2 ^ 16 := Nat.xor_lt_two_pow (by omega) (by omega)
  have k1 : (BitVec.ofInt 64 (a : Int)).toNat = a := by rw [BitVec.ofInt_natCast, BitVec.toNat_ofNat]; omega
  have k2 : (BitVec.ofInt 64 (b : Int)).toNat = b := by rw [BitVec.ofInt_natCast, BitVec.toNat_ofNat]; omega
  show IntKind.i64.wrap ((BitVec.ofInt 64 (a : Int) ^^^ BitVec.ofInt 64 (b : Int)).toNat : Int) = _
  rw [BitVec.toNat_xor, k1, k2, IntKind.wrap_i64]
  omega

theorem xor_mod2 (a b : Nat) : (a ^^^ b) % 2 = if a % 2 = b % 2 then 0 else 1 := by
  have h := Nat.xor_mod_two_pow (a := a) (b := b) (n := 1)
  simp only [Nat.pow_one] at h
  rw [h]
  rcases Nat.mod_two_eq_zero_or_one a with ha | ha <;> rcases Nat.mod_two_eq_zero_or_one b with hb | hb <;> simp [ha, hb]

/-- What one round of Step reckons. -/
theorem unlike (x b k : Nat) (hx : x < 65536) (hb : b < 256) : bits .and .i64 (bits .xor .i64 ((x : Int) / 32768) ((b : Int) / 2 ^ k)) 1 = ((if x / 32768 = b / 2 ^ k % 2 then 0 else 1 : Nat) : Int) := by
  have e1 : ((x : Int) / 32768) = ((x / 32768 : Nat) : Int) := by omega
  have e2 : ((b : Int) / 2 ^ k) = ((b / 2 ^ k : Nat) : Int) := by push_cast; rfl
  have h2 : b / 2 ^ k ≤ b := Nat.div_le_self _ _
  rw [e1, e2, xorN _ _ (by omega) (by omega)]
  have hl : x / 32768 ^^^ b / 2 ^ k < 2 ^ 16 := Nat.xor_lt_two_pow (by omega) (by omega)
  rw [and1 _ (by omega), xor_mod2]
  have : x / 32768 % 2 = x / 32768 := by omega
  rw [this]

theorem round_is (x b k : Nat) (hx : x < 65536) : bits .xor .i64 (bits .and .i64 ((x : Int) * 2) 65535) (((if x / 32768 = b / 2 ^ k % 2 then 0 else 1 : Nat) : Int) * 4129) = ((push x (b / 2 ^ k % 2) : Nat) : Int) := by
  have e1 : ((x : Int) * 2) % 65536 = ((x * 2 % 65536 : Nat) : Int) := by omega
  rw [and65535, e1]
  by_cases h : x / 32768 = b / 2 ^ k % 2
  · rw [if_pos h]
    have := xorN (x * 2 % 65536) 0 (by omega) (by omega)
    simp only [push, if_pos h]
    simpa using this
  · rw [if_neg h]
    have := xorN (x * 2 % 65536) 4129 (by omega) (by omega)
    simp only [push, if_neg h]
    simpa using this
end Go.Proofs.Ytjmdcmcheiagjaa.Cr

/- The check of sixteen bits: Step and Sum, and the document's, each by its contract. -/
namespace Go.Proofs.Ytjmdcmcheiagjaa
open Go.RowKit Go.Lib
set_option linter.unusedVariables false

theorem push_any (x b : Nat) (w : World) (hx : x < 65536) (hb : b < 2) : Calls Try.prog 63 #[.int .i64 x, .int .i64 b] w fun e w' => e = .returned (.int .i64 (Cr.push x b)) ∧ w = w' := by
  have E1 : Hid (((x : Int) * 2) % 65536 = ((x * 2 % 65536 : Nat) : Int)) := by unfold Hid; omega
  by_cases h : (x : Int) / 32768 = (b : Int)
  · have hp : Cr.push x b = x * 2 % 65536 := by
      rw [Cr.push, if_pos (by omega)]
      simp
    have h' : ((x : Int) / 32768 != (b : Int)) = false := by simp [h]
    have HP := Lib.hid hp
    clear hp h
    go_enter Try.func63, Try.ntmps63
    go_wp2
    go_ret
    exact ⟨ret_int (by rw [HP.out, ← E1.out]), rfl⟩
  · have hp : Cr.push x b = x * 2 % 65536 ^^^ 4129 := by rw [Cr.push, if_neg (by omega)]
    have h' : ((x : Int) / 32768 != (b : Int)) = true := by simp [h]
    have HP := Lib.hid hp
    clear hp h
    go_enter Try.func63, Try.ntmps63
    go_wp2
    go_ret
    exact ⟨ret_int (by rw [HP.out, E1.out]; exact Cr.xorN _ 4129 (by omega) (by omega)), rfl⟩

theorem bit_any (b i : Nat) (w : World) (hb : b < 256) (hi : i < 8) : Calls Try.prog 64 #[.int .u8 b, .int .i64 i] w fun e w' => e = .returned (.int .i64 (Cr.bitOf b i)) ∧ w = w' := by
  have hw : wrap64 (b : Int) = (b : Int) := IntWalk.wrap64_in _ ⟨by omega, by omega⟩
  go_enter Try.func64, Try.ntmps64
  go_wp2
  go_loop [5, 6] (fun n k => ∃ (d m : Nat), n = .int .i64 m ∧ k = .int .i64 ((7 - d : Nat) : Int) ∧ d + i ≤ 7 ∧ m < 256 ∧ Hid (m = b / 2 ^ d)) (fun _ k => (intOf k).toNat)
  case atStart => exact ⟨0, b, by go_num, by go_num, by omega, by omega, by unfold Hid; simp⟩
  case round =>
    obtain ⟨d, m, rfl, rfl, hd, hm, H⟩ := hrel
    by_cases h : d + i = 7
    · have h2 : ((7 - d : Nat) : Int) ≤ (i : Int) := by omega
      have e : ((m : Int) % 2) = ((Cr.bitOf b i : Nat) : Int) := by
        have h3 : d = 7 - i := by omega
        have := H.out
        rw [Cr.bitOf, ← h3, ← this]
        omega
      have E := Lib.hid e
      clear e
      go_wp2
      go_ret
      exact ⟨ret_int E.out, rfl⟩
    · have h2 : (i : Int) < ((7 - d : Nat) : Int) := by omega
      go_wp2
      go_round
      case rel =>
        refine ⟨d + 1, m / 2, by go_num, by go_num, by omega, by omega, ?_⟩
        have := H.out
        unfold Hid
        rw [this, Nat.pow_succ, Nat.div_div_eq_div_mul]
      case measure => simp [intOf]; omega

theorem step_any (n : Int) (b : Nat) (w : World) (hb : b < 256) : Calls Try.prog 61 #[.int .i64 n, .int .i64 b] w fun e w' => e = .returned (.int .i64 (Cr.step (n % 65536).toNat b)) ∧ w = w' := by
  have ha := Cr.and65535 n
  have h0 : 0 ≤ n % 65536 := by omega
  have h1 : n % 65536 < 65536 := by omega
  go_enter Try.func61, Try.ntmps61
  go_wp2
  go_loop [0, 9] (fun s k => ∃ (x i : Nat), s = .int .i64 x ∧ k = .int .i64 i ∧ i ≤ 8 ∧ x < 65536 ∧ Hid (x = Cr.feed (n % 65536).toNat (Cr.bitsTo b i))) (fun _ k => (8 - intOf k).toNat)
  case atStart => exact ⟨(n % 65536).toNat, 0, by rw [Int.toNat_of_nonneg h0], rfl, by omega, by omega, by unfold Hid; simp [Cr.feed, Cr.bitsTo]⟩
  case round =>
    obtain ⟨x, i, rfl, rfl, hi, hx, H⟩ := hrel
    clear ha h0 h1
    by_cases h8 : i < 8
    · have u := Cr.unlike x b (7 - i) hx hb
      have r := Cr.round_is x b (7 - i) hx
      have hn : Cr.push x (b / 2 ^ (7 - i) % 2) = Cr.feed (n % 65536).toNat (Cr.bitsTo b (i + 1)) := by
        rw [Cr.feed_succ, ← H.out]
        rfl
      have hl := Cr.push_lt x (b / 2 ^ (7 - i) % 2)
      have hz : ((7 : Int) - i).toNat = 7 - i := by omega
      generalize hu : (if x / 32768 = b / 2 ^ (7 - i) % 2 then 0 else 1 : Nat) = v at u r
      have hv : v ≤ 1 := by rw [← hu]; split <;> omega
      clear hu
      generalize Cr.push x (b / 2 ^ (7 - i) % 2) = y at hn r hl
      have HN := Lib.hid hn
      clear hn H
      go_wp2
      go_round
      case rel =>
        exact ⟨y, i + 1, by go_num, by go_num, by omega, hl, HN⟩
      case measure => simp [intOf]; omega
    · obtain rfl : i = 8 := by omega
      go_wp2
      go_ret
      exact ⟨ret_int (by rw [H.out]; rfl), rfl⟩

/-- The first bytes of a text. -/
def pre (s : ByteArray) (i : Nat) : List UInt8 := s.data.toList.take i

theorem pre_succ (s : ByteArray) (i : Nat) (h : i < s.size) : pre s (i + 1) = pre s i ++ [s[i]] := by
  have h' : i < s.data.toList.length := by simpa using h
  rw [pre, List.take_succ_eq_append_getElem h']
  rfl
theorem pre_all (s : ByteArray) : pre s s.size = s.data.toList := by
  rw [pre, List.take_of_length_le (by simp)]
/-- A byte at a place, as1 a number. -/
theorem byte_lt (x : UInt8) : x.toNat < 256 := by have := x.toNat_lt; omega

theorem sum_big (s : ByteArray) (w : World) (hs : s.size ≤ 10000) : Calls Try.prog 51 #[.string s] w fun e w' => e = .returned (.int .i64 (Cr.from' 65535 s.data.toList)) ∧ w = w' := by
  go_enter Try.func51, Try.ntmps51
  go_wp2
  go_loop [3, 7] (fun n k => ∃ (x i : Nat), n = .int .i64 x ∧ k = .int .i64 i ∧ i ≤ s.size ∧ x < 65536 ∧ Hid (x = Cr.from' 65535 (pre s i))) (fun _ k => (s.size - intOf k).toNat)
  case atStart => exact ⟨65535, 0, rfl, rfl, by omega, by omega, by unfold Hid; simp [Cr.from', pre]⟩
  case round =>
    obtain ⟨x, i, rfl, rfl, hi, hx, H⟩ := hrel
    by_cases h8 : i < s.size
    · have hb := byte_lt s[i]
      have hw : wrap64 (s[i].toNat : Int) = (s[i].toNat : Int) := w64_byte _
      have hn : Cr.step ((x : Int) % 65536).toNat s[i].toNat = Cr.from' 65535 (pre s (i + 1)) := by
        have : ((x : Int) % 65536).toNat = x := by omega
        rw [this, pre_succ s i h8, Cr.from_snoc, ← H.out]
      have hl : Cr.step ((x : Int) % 65536).toNat s[i].toNat < 65536 := Cr.step_lt _ _ (by omega)
      have HS := fun w => step_any (x : Int) s[i].toNat w hb
      generalize Cr.step ((x : Int) % 65536).toNat s[i].toNat = y at hn hl HS
      have HS := Lib.hid HS
      have HN := Lib.hid hn
      clear hn H
      go_wp2_with (go_at_call 61; refine (HS.out _).mono ?_; rintro e w' ⟨rfl, rfl⟩)
      go_round
      case rel => exact ⟨y, i + 1, by go_num, by go_num, by omega, hl, HN⟩
      case measure => simp [intOf]; omega
    · obtain rfl : i = s.size := by omega
      go_wp2
      go_ret
      exact ⟨ret_int (by rw [H.out, pre_all]), rfl⟩

theorem from_big (n : Int) (s : ByteArray) (w : World) (hs : s.size ≤ 10000) (hn0 : 0 ≤ n) (hn1 : n < 65536) : Calls Try.prog 58 #[.int .i64 n, .string s] w fun e w' => e = .returned (.int .i64 (Cr.from' n.toNat s.data.toList)) ∧ w = w' := by
  go_enter Try.func58, Try.ntmps58
  go_wp2
  go_loop [0, 5] (fun n1 k => ∃ (x i : Nat), n1 = .int .i64 x ∧ k = .int .i64 i ∧ i ≤ s.size ∧ x < 65536 ∧ Hid (x = Cr.from' n.toNat (pre s i))) (fun _ k => (s.size - intOf k).toNat)
  case atStart => exact ⟨n.toNat, 0, by rw [Int.toNat_of_nonneg hn0], rfl, by omega, by omega, by unfold Hid; simp [Cr.from', pre]⟩
  case round =>
    obtain ⟨x, i, rfl, rfl, hi, hx, H⟩ := hrel
    by_cases h8 : i < s.size
    · have hb := byte_lt s[i]
      have hi' : (i : Int) < (s.size : Int) := by omega
      go_wp2
      go_loop [0, 6] (fun n2 k => ∃ (y j : Nat), n2 = .int .i64 y ∧ k = .int .i64 j ∧ j ≤ 8 ∧ y < 65536 ∧ Hid (y = Cr.feed x (Cr.bitsTo s[i].toNat j))) (fun _ k => (8 - intOf k).toNat)
      case atStart => exact ⟨x, 0, rfl, rfl, by omega, by omega, by unfold Hid; simp [Cr.feed, Cr.bitsTo]⟩
      case round =>
        obtain ⟨y, j, rfl, rfl, hj, hy, HY⟩ := hrel
        by_cases h9 : j < 8
        · have hn : Cr.push y (Cr.bitOf s[i].toNat j) = Cr.feed x (Cr.bitsTo s[i].toNat (j + 1)) := by rw [Cr.feed_succ, ← HY.out]
          have hl := Cr.push_lt y (Cr.bitOf s[i].toNat j)
          have h2 : Cr.bitOf s[i].toNat j < 2 := by unfold Cr.bitOf; omega
          have HB := fun w => bit_any s[i].toNat j w hb h9
          have HP := fun w => push_any y (Cr.bitOf s[i].toNat j) w hy h2
          generalize Cr.bitOf s[i].toNat j = bt at hn hl h2 HB HP
          generalize Cr.push y bt = z at hn hl HP
          have HN := Lib.hid hn
          have HB := Lib.hid HB
          have HP := Lib.hid HP
          clear hn H HY
          go_wp2_with (first | (go_at_call 64; refine (HB.out _).mono ?_; rintro e w' ⟨rfl, rfl⟩) | (go_at_call 63; refine (HP.out _).mono ?_; rintro e w' ⟨rfl, rfl⟩))
          go_round
          case rel => exact ⟨z, j + 1, by go_num, by go_num, by omega, hl, HN⟩
          case measure => simp [intOf]; omega
        · obtain rfl : j = 8 := by omega
          have hn : y = Cr.from' n.toNat (pre s (i + 1)) := by rw [pre_succ s i h8, Cr.from_snoc, ← H.out, HY.out]; rfl
          have HN := Lib.hid hn
          clear hn H HY
          go_wp2
          go_round
          case rel => exact ⟨y, i + 1, by go_num, by go_num, by omega, hy, HN⟩
          case measure => simp [intOf]; omega
    · obtain rfl : i = s.size := by omega
      go_wp2
      go_ret
      exact ⟨ret_int (by rw [H.out, pre_all]), rfl⟩

theorem rsum_big (s : ByteArray) (w : World) (hs : s.size ≤ 10000) : Calls Try.prog 44 #[.string s] w fun e w' => e = .returned (.int .i64 (Cr.from' 65535 s.data.toList)) ∧ w = w' := by
  have HF := Lib.hid (fun w => from_big 65535 s w hs (by omega) (by omega))
  go_enter Try.func44, Try.ntmps44
  go_wp2_with (go_at_call 58; refine (HF.out _).mono ?_; rintro e w' ⟨rfl, rfl⟩)
  go_ret
  exact ⟨rfl, rfl⟩

theorem sum_any (s : ByteArray) (w : World) (hs : s.size ≤ 1000) : Calls Try.prog 51 #[.string s] w fun e w' => e = .returned (.int .i64 (Cr.from' 65535 s.data.toList)) ∧ w = w' := sum_big s w (by omega)
theorem from_any (n : Int) (s : ByteArray) (w : World) (hs : s.size ≤ 1000) (hn0 : 0 ≤ n) (hn1 : n < 65536) : Calls Try.prog 58 #[.int .i64 n, .string s] w fun e w' => e = .returned (.int .i64 (Cr.from' n.toNat s.data.toList)) ∧ w = w' := from_big n s w (by omega) hn0 hn1
theorem rsum_any (s : ByteArray) (w : World) (hs : s.size ≤ 1000) : Calls Try.prog 44 #[.string s] w fun e w' => e = .returned (.int .i64 (Cr.from' 65535 s.data.toList)) ∧ w = w' := rsum_big s w (by omega)
end Go.Proofs.Ytjmdcmcheiagjaa

/- Seals: bytes with their check; each call by its contract. -/
namespace Go.Proofs.Ytjmdcmcheiagjaa
open Go.RowKit Go.Lib
set_option linter.unusedVariables false

namespace Cr
/-- A check's two bytes, the higher one first. -/
def tl (x : Nat) : ByteArray := ⟨#[UInt8.ofNat (x / 256), UInt8.ofNat (x % 256)]⟩
def chk (s : ByteArray) : Nat := from' 65535 s.data.toList
def sealed (s : ByteArray) : ByteArray := s ++ tl (chk s)

theorem chk_lt (s : ByteArray) : chk s < 65536 := from_lt _ _ (by omega)
theorem tl_size (x : Nat) : (tl x).size = 2 := rfl
theorem sealed_size (s : ByteArray) : (sealed s).size = s.size + 2 := by simp [sealed, tl_size]
theorem chk_sealed (s : ByteArray) : chk (sealed s) = 0 := by
  have h : (sealed s).data.toList = s.data.toList ++ [UInt8.ofNat (chk s / 256), UInt8.ofNat (chk s % 256)] := by simp [sealed, tl]
  have hl := chk_lt s
  rw [chk, h, from_append]
  show from' (chk s) _ = 0
  have h1 : (UInt8.ofNat (chk s / 256)).toNat = chk s / 256 := by simp; omega
  have h2 : (UInt8.ofNat (chk s % 256)).toNat = chk s % 256 := by simp
  simp only [from', List.foldl_cons, List.foldl_nil, h1, h2]
  exact step_own2 _ hl
theorem sealed_head (s : ByteArray) : (sealed s).extract 0 s.size = s := by
  rw [sealed, ByteArray.extract_append_eq_left rfl]
theorem sealed_tail (s : ByteArray) : (sealed s).extract s.size (s.size + 2) = tl (chk s) := by
  rw [sealed, ByteArray.extract_append_eq_right rfl (by rw [tl_size])]
theorem cut (s : ByteArray) (k : Nat) (h : k ≤ s.size) : s.extract 0 k ++ s.extract k s.size = s := by
  rw [ByteArray.extract_append_extract]
  simp [Nat.min_eq_left (Nat.zero_le k), Nat.max_eq_right h]

theorem str_ne {a b : ByteArray} (h : a ≠ b) : (a.toList == b.toList) = false := by
  apply beq_eq_false_iff_ne.2
  intro he
  rw [ByteArray.toList_eq, ByteArray.toList_eq] at he
  apply h
  obtain ⟨x⟩ := a
  obtain ⟨y⟩ := b
  simp at he
  rw [he]
/-- What Open answers. -/
def openV (s : ByteArray) : ByteArray × Int :=
  if s.size < 2 then (⟨#[]⟩, 5) else if s.extract (s.size - 2) s.size = tl (chk (s.extract 0 (s.size - 2))) then (s.extract 0 (s.size - 2), 0) else (⟨#[]⟩, 10)
theorem open_sealed (s : ByteArray) : openV (sealed s) = (s, 0) := by
  have h := sealed_size s
  rw [openV, if_neg (by omega), h, show s.size + 2 - 2 = s.size from rfl, sealed_head, sealed_tail, if_pos rfl]
theorem open_bad (s : ByteArray) (h2 : 2 ≤ s.size) (h : chk s ≠ 0) : openV s = (⟨#[]⟩, 10) := by
  rw [openV, if_neg (by omega), if_neg]
  intro he
  apply h
  have := cut s (s.size - 2) (by omega)
  rw [he] at this
  rw [← this]
  exact chk_sealed _
theorem tail_iff (s : ByteArray) (h2 : 2 ≤ s.size) : s.extract (s.size - 2) s.size = tl (chk (s.extract 0 (s.size - 2))) ↔ sealed (s.extract 0 (s.size - 2)) = s := by
  have hc := cut s (s.size - 2) (by omega)
  constructor
  · intro h
    rw [h] at hc
    exact hc
  · intro h
    have h3 := sealed_tail (s.extract 0 (s.size - 2))
    rw [h] at h3
    have h4 : (s.extract 0 (s.size - 2)).size = s.size - 2 := by simp
    rw [h4, show s.size - 2 + 2 = s.size from by omega] at h3
    exact h3
end Cr

theorem tail_any (x : Nat) (w : World) (hx : x < 65536) : Calls Try.prog 50 #[.int .i64 x] w fun e w' => e = .returned (.string (Cr.tl x)) ∧ Below w.heap.size w w' := by
  obtain ⟨a, ha⟩ : ∃ a, a = x / 256 := ⟨_, rfl⟩
  obtain ⟨b, hb⟩ : ∃ b, b = x % 256 := ⟨_, rfl⟩
  have la : a < 256 := by omega
  have lb : b < 256 := by omega
  have hp : ∀ n w, n = (a : Int) + 256 * (b : Int) → Calls Try.prog 48 #[.int .i64 n] w fun e w' => e = .returned (.string (Cr.tl x)) ∧ Below w.heap.size w w' := fun n w hn => by
    have e1 : n % 256 = (a : Int) := by omega
    have e2 : n / 256 % 256 = (b : Int) := by omega
    have hq : Bt.put n = Cr.tl x := by
      rw [Bt.put, Cr.tl, ← ha, ← hb, e1, e2]
      rfl
    exact (put_any n w).mono fun e w' h => ⟨by rw [h.1, hq], by rw [← h.2]; exact (Below.refl _ _).alloc (Nat.le_refl _) _⟩
  have HP := Lib.hid hp
  obtain rfl : x = 256 * a + b := by omega
  clear hp ha hb
  go_enter Try.func50, Try.ntmps50
  go_wp2_with (first | (go_at_call 60; refine (high_any _ _).mono ?_; rintro e w' ⟨rfl, rfl⟩) | (go_at_call 59; refine (low_any _ _).mono ?_; rintro e w' ⟨rfl, rfl⟩) | (go_at_call 56; refine (two_any _ _ _).mono ?_; rintro e w' ⟨rfl, rfl⟩) | (go_at_call 48; refine (HP.out _ _ (by omega)).mono ?_; rintro e w1 ⟨rfl, b1⟩))
  go_ret
  exact ⟨rfl, b1⟩

theorem seal_big (s : ByteArray) (w : World) (hs : s.size ≤ 10000) : Calls Try.prog 25 #[.string s] w fun e w' => e = .returned (.string (Cr.sealed s)) ∧ Below w.heap.size w w' := by
  have H1 := Lib.hid (show ∀ w, Calls Try.prog 51 #[.string s] w fun e w' => e = .returned (.int .i64 (Cr.chk s)) ∧ w = w' from fun w => sum_big s w hs)
  have H2 := Lib.hid (fun w => tail_any (Cr.chk s) w (Cr.chk_lt s))
  have hcat : ¬ 9223372036854775807 < s.size + (Cr.tl (Cr.chk s)).size := by rw [Cr.tl_size]; omega
  have hse : s ++ Cr.tl (Cr.chk s) = Cr.sealed s := rfl
  go_enter Try.func25, Try.ntmps25
  go_wp2_with (first | (go_at_call 51; refine (H1.out _).mono ?_; rintro e w' ⟨rfl, rfl⟩) | (go_at_call 50; refine (H2.out _).mono ?_; rintro e w1 ⟨rfl, b1⟩))
  go_ret
  exact ⟨rfl, b1⟩

theorem rseal_big (s : ByteArray) (w : World) (hs : s.size ≤ 10000) : Calls Try.prog 14 #[.string s] w fun e w' => e = .returned (.string (Cr.sealed s)) ∧ Below w.heap.size w w' := by
  have H1 := Lib.hid (show ∀ w, Calls Try.prog 44 #[.string s] w fun e w' => e = .returned (.int .i64 (Cr.chk s)) ∧ w = w' from fun w => rsum_big s w hs)
  have hl := Cr.chk_lt s
  obtain ⟨a, ha⟩ : ∃ a, a = Cr.chk s / 256 := ⟨_, rfl⟩
  obtain ⟨b, hb⟩ : ∃ b, b = Cr.chk s % 256 := ⟨_, rfl⟩
  have hk := run_two_bytes (a : Int) (b : Int) w
  have he : (⟨#[UInt8.ofNat (a : Int).toNat, UInt8.ofNat (b : Int).toNat]⟩ : ByteArray) = Cr.tl (Cr.chk s) := by rw [Cr.tl, ← ha, ← hb]; rfl
  rw [he] at hk
  have hse : s ++ Cr.tl (Cr.chk s) = Cr.sealed s := rfl
  have hcat : ¬ 9223372036854775807 < s.size + (Cr.tl (Cr.chk s)).size := by rw [Cr.tl_size]; omega
  have e1 : (Cr.chk s : Int) / 256 = (a : Int) := by omega
  have e2 : (Cr.chk s : Int) % 256 = (b : Int) := by omega
  have e3 : IntKind.u8.wrap (a : Int) = (a : Int) := by rw [IntKind.wrap_u8]; omega
  have e4 : IntKind.u8.wrap (b : Int) = (b : Int) := by rw [IntKind.wrap_u8]; omega
  have HA := Lib.hid ha
  have HB := Lib.hid hb
  clear ha hb he
  go_enter Try.func14, Try.ntmps14
  go_wp2_with (first | (go_at_call 44; refine (H1.out _).mono ?_; rintro e w' ⟨rfl, rfl⟩))
  go_ret
  exact ⟨rfl, (Below.refl _ _).alloc (Nat.le_refl _) _⟩

theorem open_big (s : ByteArray) (w : World) (hs : s.size ≤ 10000) : Calls Try.prog 32 #[.string s] w fun e w' => e = .returned (.tuple #[.string (Cr.openV s).1, .int .i64 (Cr.openV s).2]) ∧ Below w.heap.size w w' := by
  by_cases h2 : s.size < 2
  · have hv : Cr.openV s = (⟨#[]⟩, 5) := by rw [Cr.openV, if_pos h2]
    have HV := Lib.hid hv
    clear hv
    go_enter Try.func32, Try.ntmps32
    go_wp2
    go_ret2
    rw [HV.out]
    exact ⟨rfl, Below.refl _ _⟩
  · obtain ⟨n, hn⟩ : ∃ n, s.size = n + 2 := ⟨s.size - 2, by omega⟩
    have hv : Cr.openV s = if s.extract n s.size = Cr.tl (Cr.chk (s.extract 0 n)) then (s.extract 0 n, 0) else (⟨#[]⟩, 10) := by
      rw [Cr.openV, if_neg h2, show s.size - 2 = n from by omega]
    have hp : (s.extract 0 n).size ≤ 10000 := by simp; omega
    have H1 := Lib.hid (show ∀ w, Calls Try.prog 51 #[.string (s.extract 0 n)] w fun e w' => e = .returned (.int .i64 (Cr.chk (s.extract 0 n))) ∧ Below w.heap.size w w' from fun w => (sum_big (s.extract 0 n) w hp).mono fun e w' h => ⟨h.1, by rw [← h.2]; exact Below.refl _ _⟩)
    have H2 := Lib.hid (fun w => tail_any (Cr.chk (s.extract 0 n)) w (Cr.chk_lt _))
    have hz : (s.size : Int) - 2 = (n : Int) := by omega
    have z1 : (n : Int) ≤ (s.size : Int) := by omega
    have z2 : n ≤ s.size := by omega
    have HN := Lib.hid hn
    clear hp h2 hn
    generalize hc : Cr.chk (s.extract 0 n) = c at *
    have HC := Lib.hid hc
    clear hc
    by_cases he : s.extract n s.size = Cr.tl c
    · rw [if_pos he] at hv
      have HV := Lib.hid hv
      clear hv
      go_enter Try.func32, Try.ntmps32
      go_wp2
      refine wp_region_quiet_below (by kernel_rfl) (by kernel_rfl) ?_
      repeat (quiet_step ((first | (go_at_call 51; with_reducible exact Calls.regrown_of (H1.out _)) | (go_at_call 50; with_reducible exact Calls.regrown_of (H2.out _)))))
      refine wpQuiet_nil ?_
      rintro _ ⟨⟨dq, osq⟩, rfl⟩
      have hbq := below_regrown w dq osq
      generalize «Sort».grow (redrawn w dq) osq = w9 at hbq ⊢
      go_wp2
      go_ret2
      rw [HV.out]
      exact ⟨rfl, hbq⟩
    · have he' := Cr.str_ne he
      rw [if_neg he] at hv
      have HV := Lib.hid hv
      clear hv
      go_enter Try.func32, Try.ntmps32
      go_wp2
      refine wp_region_quiet_below (by kernel_rfl) (by kernel_rfl) ?_
      repeat (quiet_step ((first | (go_at_call 51; with_reducible exact Calls.regrown_of (H1.out _)) | (go_at_call 50; with_reducible exact Calls.regrown_of (H2.out _)))))
      refine wpQuiet_nil ?_
      rintro _ ⟨⟨dq, osq⟩, rfl⟩
      have hbq := below_regrown w dq osq
      generalize «Sort».grow (redrawn w dq) osq = w9 at hbq ⊢
      go_wp2
      go_ret2
      rw [HV.out]
      exact ⟨rfl, hbq⟩

theorem seal_any (s : ByteArray) (w : World) (hs : s.size ≤ 1000) : Calls Try.prog 25 #[.string s] w fun e w' => e = .returned (.string (Cr.sealed s)) ∧ Below w.heap.size w w' := seal_big s w (by omega)
theorem rseal_any (s : ByteArray) (w : World) (hs : s.size ≤ 1000) : Calls Try.prog 14 #[.string s] w fun e w' => e = .returned (.string (Cr.sealed s)) ∧ Below w.heap.size w w' := rseal_big s w (by omega)
theorem open_any (s : ByteArray) (w : World) (hs : s.size ≤ 1000) : Calls Try.prog 32 #[.string s] w fun e w' => e = .returned (.tuple #[.string (Cr.openV s).1, .int .i64 (Cr.openV s).2]) ∧ Below w.heap.size w w' := open_big s w (by omega)
end Go.Proofs.Ytjmdcmcheiagjaa

/- What an image's bytes say, by places; the reader's first two bytes, its error, what is left. -/
namespace Go.Proofs.Ytjmdcmcheiagjaa
open Go.RowKit Go.Lib Go.Sort
set_option linter.unusedVariables false

/-- Where the slots, the clients, and what is behind them begin. -/
def iq1 (t : ByteArray) : Nat := 5 + gb t 4 * 5
def iq2 (t : ByteArray) : Nat := iq1 t + 1 + gb t (iq1 t) * 5
def iq3 (t : ByteArray) : Nat := iq2 t + 1 + gb t (iq2 t) * 14
/-- Are the first two bytes others? -/
def otherB (t : ByteArray) : Prop := 2 ≤ t.size ∧ ¬ (gb t 0 = 67 ∧ gb t 1 = 1)
/-- Why bytes ahead of the check are no tables; 0: they are. -/
noncomputable def bodyE (t : ByteArray) : Int := by
  classical
  exact if otherB t then 3 else if t.size < iq3 t then 5 else if iq3 t < t.size then 3 else 0
/-- Why bytes are no image; 0: they are one. -/
noncomputable def imgE (s : ByteArray) : Int := if (Cr.openV s).2 = 0 then bodyE (Cr.openV s).1 else (Cr.openV s).2
/-- Tables that tell what bytes say. -/
def TellsB (t : ByteArray) (c : Cf) : Prop := c.fr = gw t 2 ∧ (c.wn = gb t 4 ∧ ∀ i, i < c.wn → c.wd i = winR t (5 + i * 5)) ∧ (c.sn = gb t (iq1 t) ∧ ∀ i, i < c.sn → c.sd i = winR t (iq1 t + 1 + i * 5)) ∧ (c.cn = gb t (iq2 t) ∧ ∀ i, i < c.cn → c.cd i = cliR t (iq2 t + 1 + i * 14))
/-- Tables of nothing. -/
def NoneC (c : Cf) : Prop := c.fr = 0 ∧ c.wn = 0 ∧ c.sn = 0 ∧ c.cn = 0
/-- What Parse answers. -/
def ParseV (s : ByteArray) (w : World) (e : Ending) (w' : World) : Prop := ∃ c : Cf, e = .returned (.tuple #[cfv c, .int .i64 (imgE s)]) ∧ CfV w' c ∧ FitCf c ∧ Below w.heap.size w w' ∧ (imgE s = 0 → TellsB (Cr.openV s).1 c) ∧ (imgE s ≠ 0 → NoneC c)
theorem bodyE_other {t : ByteArray} (h : otherB t) : bodyE t = 3 := by
  unfold bodyE
  rw [if_pos h]
theorem bodyE_end {t : ByteArray} (h : ¬ otherB t) (h1 : t.size < iq3 t) : bodyE t = 5 := by
  unfold bodyE
  rw [if_neg h, if_pos h1]
theorem bodyE_more {t : ByteArray} (h : ¬ otherB t) (h1 : iq3 t < t.size) : bodyE t = 3 := by
  unfold bodyE
  rw [if_neg h, if_neg (by omega), if_pos h1]
theorem bodyE_ok {t : ByteArray} (h : ¬ otherB t) (h1 : iq3 t = t.size) : bodyE t = 0 := by
  unfold bodyE
  rw [if_neg h, if_neg (by omega), if_neg (by omega)]
theorem rtext2_at {w : World} {b : Nat} {t : ByteArray} (h : RdK w b t 0) (hs : t.size ≤ 10000) : Calls Try.prog 34 #[.pointer (some ⟨b, 0, none⟩), .int .i64 2] w fun r w' => r = .returned (.string (if 2 ≤ t.size then t.extract 0 2 else .empty)) ∧ RdK w' b t 2 ∧ w.grownBy w' (some b) := by
  rcases h with ⟨h1, h⟩ | ⟨h1, _⟩
  · by_cases hk : 2 ≤ t.size
    · have hx : rdText t 0 0 2 = (t.extract 0 2, 2, 0) := by
        rw [rdText, if_neg (by omega), if_neg (by omega), if_neg (by omega)]
        rfl
      have := text_any b t 0 0 2 w h (by omega) (by omega)
      rw [hx] at this
      rw [if_pos hk]
      exact this.mono fun e w' ⟨q1, q2, q3⟩ => ⟨q1, .inl ⟨hk, q2⟩, q3⟩
    · have hx : rdText t 0 0 2 = (.empty, 0, 5) := by
        rw [rdText, if_neg (by omega), if_neg (by omega), if_pos (by omega)]
      have := text_any b t 0 0 2 w h (by omega) (by omega)
      rw [hx] at this
      rw [if_neg hk]
      exact this.mono fun e w' ⟨q1, q2, q3⟩ => ⟨q1, .inr ⟨by omega, 0, by omega, q2⟩, q3⟩
  · omega
theorem rerr_at {w : World} {b k : Nat} {t : ByteArray} (h : RdK w b t k) : Calls Try.prog 35 #[.pointer (some ⟨b, 0, none⟩)] w fun r w' => r = .returned (.int .i64 (if k ≤ t.size then 0 else 5)) ∧ w = w' := by
  rcases h with ⟨h1, h⟩ | ⟨h1, p, h2, h⟩
  · rw [if_pos h1]
    exact err_any b t k 0 w h
  · rw [if_neg (by omega)]
    exact err_any b t p 5 w h
theorem rleft_at {w : World} {b k : Nat} {t : ByteArray} (h : RdK w b t k) (hk : k ≤ t.size) (hs : t.size ≤ 10000) : Calls Try.prog 43 #[.pointer (some ⟨b, 0, none⟩)] w fun r w' => r = .returned (.int .i64 ((t.size - k : Nat) : Int)) ∧ ∃ q, w.drewN q = w' := by
  rcases h with ⟨h1, h⟩ | ⟨h1, p, h2, h⟩
  · have := left_any b t k 0 w h (by omega) (by omega)
    rw [show leftOf t k 0 = ((t.size - k : Nat) : Int) from by unfold leftOf; rw [if_pos rfl]; omega] at this
    exact this
  · omega
end Go.Proofs.Ytjmdcmcheiagjaa

/- Parse of package image, by its contract: where the check is wrong. -/
namespace Go.Proofs.Ytjmdcmcheiagjaa
open Go.RowKit Go.Lib Go.Sort
set_option linter.unusedVariables false

/-- Tables of nothing. -/
def zC : Cf := { fr := 0, wA := none, wn := 0, wc := 0, wd := fun _ => (0, 0, 0), sA := none, sn := 0, sc := 0, sd := fun _ => (0, 0, 0), cA := none, cn := 0, cc := 0, cd := fun _ => ⟨0, 0, 0, 0, 0, 0, 0, 0, 0, 0⟩ }
theorem zC_no {s : ByteArray} {w w' : World} (h : imgE s ≠ 0) (b : Below w.heap.size w w') : ParseV s w (.returned (.tuple #[.agg #[.int .i64 0, .slice none 0 0, .slice none 0 0, .slice none 0 0], .int .i64 (imgE s)])) w' := by
  refine ⟨zC, rfl, ⟨⟨fun _ => rfl, fun hi => ?_⟩, ⟨fun _ => rfl, fun hi => ?_⟩, ⟨fun _ => rfl, fun hi => ?_⟩⟩, ⟨by simp [zC, fitI], ⟨by simp [zC], by simp [zC], fun i hi => ?_⟩, ⟨by simp [zC], by simp [zC], fun i hi => ?_⟩, ⟨by simp [zC], by simp [zC], fun i hi => ?_⟩⟩, b, fun e => absurd e h, fun _ => ⟨rfl, rfl, rfl, rfl⟩⟩
  all_goals first | exact (Nat.not_lt_zero _ hi).elim | exact (Nat.lt_irrefl _ h).elim
theorem parse_bad (s : ByteArray) (w : World) (hs : s.size ≤ 9000) (h : (Cr.openV s).2 ≠ 0) : Calls Try.prog 12 #[.string s] w (ParseV s w) := by
  have hi : imgE s = (Cr.openV s).2 := if_neg h
  obtain ⟨W1, hW⟩ : ∃ W1, W1 = w.alloc (.cells #[.int .i64 0, .slice none 0 0, .slice none 0 0, .slice none 0 0] 26) := ⟨_, rfl⟩
  have B1 := Lib.hid (show Below w.heap.size w W1 by rw [hW]; exact (Below.refl _ _).alloc (Nat.le_refl _) _)
  have BX : Hid (Blk W1 w.heap.size 26 #[.int .i64 0, .slice none 0 0, .slice none 0 0, .slice none 0 0]) := Lib.hid (by rw [hW]; exact Blk.new _ _ _)
  have HO := Lib.hid (open_big s W1 (by omega))
  have HNO := Lib.hid (fun (w' : World) (b : Below w.heap.size w w') => zC_no (s := s) (by rw [hi]; exact h) b)
  rw [hi] at HNO
  generalize Cr.openV s = o at HO HNO h
  obtain ⟨o1, o2⟩ := o
  simp only at h
  have hd : (o2 == 0) = false := by simpa using h
  have hd2 : (o2 != 0) = true := by simpa using h
  clear hi
  go_enter Try.func12, Try.ntmps12
  go_upto_region 1 with (fail)
  rw [← hW]
  clear hW
  go_wp2_with (go_at_call 32; (with_reducible refine HO.out.mono ?_); rintro e w2 ⟨rfl, b2⟩; have B2 := Lib.hid (B1.out.trans (b2.mono B1.out.size)); have X2 := Lib.hid (BX.out.below b2 BX.out.lt); clear b2; have c0 : w2.cell? ⟨w.heap.size, 0, none⟩ = some (.int .i64 0) := X2.out.cell 0; have c1 : w2.cell? ⟨w.heap.size, 1, none⟩ = some (.slice none 0 0) := X2.out.cell 1; have c2 : w2.cell? ⟨w.heap.size, 2, none⟩ = some (.slice none 0 0) := X2.out.cell 2; have c3 : w2.cell? ⟨w.heap.size, 3, none⟩ = some (.slice none 0 0) := X2.out.cell 3; have f0 := X2.out.free 0; have f1 := X2.out.free 1; have f2 := X2.out.free 2; have f3 := X2.out.free 3)
  have bf := ((((X2.out.put 0 (.int .i64 0)).put 1 (.slice none 0 0)).put 2 (.slice none 0 0)).put 3 (.slice none 0 0))
  have r0 := bf.cell 0
  have r1 := bf.cell 1
  have r2 := bf.cell 2
  have r3 := bf.cell 3
  simp at r0 r1 r2 r3
  refine bodyPost_ret (v := .tuple #[.agg #[.int .i64 0, .slice none 0 0, .slice none 0 0, .slice none 0 0], .int .i64 o2]) (by simp [results, Try.results12, go_sem, r0, r1, r2, r3]) rfl ?_
  exact HNO.out _ ((((B2.out.setCell (p := ⟨w.heap.size, 0, none⟩) (Nat.le_refl _) _).setCell (p := ⟨w.heap.size, 1, none⟩) (Nat.le_refl _) _).setCell (p := ⟨w.heap.size, 2, none⟩) (Nat.le_refl _) _).setCell (p := ⟨w.heap.size, 3, none⟩) (Nat.le_refl _) _)
end Go.Proofs.Ytjmdcmcheiagjaa
