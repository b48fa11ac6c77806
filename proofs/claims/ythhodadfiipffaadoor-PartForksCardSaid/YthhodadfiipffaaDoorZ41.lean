import Derived.Test.YthhodadfiipffaaDoorZ40
set_option linter.all false
/- Package part: the document's Step. -/
namespace Go.Proofs.YthhodadfiipffaaDoor
open Go.RowKit Go.Lib
set_option linter.unusedVariables false
set_option maxRecDepth 20000

theorem Pt.empty_row {w : World} {g : Nat} (h : Blk w g 73 #[]) : RowZ 6 w (.slice (some ⟨g, 0, none⟩) 0 0) 0 [] :=
  ⟨rfl, .inr ⟨g, 0, 0, rfl, Nat.le_refl _, by unfold maxLen; omega, h.lt, fun j hj => by omega, fun j u hu => by simp at hu⟩⟩
theorem Pt.first_row {w : World} {v : Value} {y : Pt.Mk} (h : RowZ 6 w v 1 (Pt.mc y)) : Pt.MkR w v [y] := by
  rcases h.2 with ⟨_, hz⟩ | ⟨g, off, cap, rfl, k1, k2, k3, k4, k5⟩
  · omega
  · refine ⟨_, _, rfl, by simp, fun _ => ⟨g, off, rfl, k3, fun i z hz j u hu => ?_⟩⟩
    have hi : i = 0 := by have := (List.getElem?_eq_some_iff.1 hz).1; simp at this; omega
    subst hi
    injection hz with hz
    subst hz
    rw [show off + 0 * 6 + j = off + j by omega]
    exact k5 j u hu
theorem Pt.app_one (w : World) (g1 g2 : Nat) (y : Pt.Mk) (b1 : Blk w g1 73 #[]) (b2 : Blk w g2 73 (Pt.mc y).toArray) : ∃ v' w', (Builtin.append_ #[50, 50] 50 #[.slice (some ⟨g1, 0, none⟩) 0 0, .slice (some ⟨g2, 0, none⟩) 1 1]).run Tryd.prog w = .ok v' w' ∧ Pt.MkR w' v' [y] ∧ w.grownBy w' (some g1) ∧ (v'.ownBlock = some g1 ∨ v'.ownBlock = some w.heap.size) := by
  obtain ⟨i0, hi, hz, hsz, hby⟩ : ∃ i, Tryd.prog.info? 73 = some i ∧ i.zero = some (.agg #[.int .i64 0, .int .u8 0, .int .i64 0, .int .i64 0, .int .i64 0, .string ⟨#[]⟩]) ∧ i.size = 6 ∧ i.bytes = 56 := by
    have h := Pt.m_info
    cases hq : Tryd.prog.info? 73 with
    | none => rw [hq] at h; cases h
    | some i =>
      rw [hq] at h
      injection h with h
      injection h with h1 h
      injection h with h2 h3
      exact ⟨i, rfl, h1, h2, h3⟩
  have hsrc : Src Tryd.prog 6 50 (.slice (some ⟨g2, 0, none⟩) 1 1) 1 (Pt.mc y) w := Src.ofSlice _ Tryd.underlying50 _ _ _ _ (by simp [Pt.mc]) (fun k u hu => by
    rw [addr_at, Nat.zero_add, b2.cell k]
    simpa using hu) (Pt.mc_one y)
  obtain ⟨v', w2, hk, hr, hg, ho⟩ := run_pushZ (P := Tryd.prog) w 50 73 50 i0 _ 56 Tryd.underlying50 hi hz hsz hby (by omega) rfl _ _ _ (Pt.empty_row b1) (fun u hu => by simp at hu) _ _ hsrc (by omega)
  exact ⟨v', w2, hk, Pt.first_row hr, hg, ho⟩
/-- What the document's Step leaves. -/
def Pt.RstV (w : World) (A : Option Addr) (n : Nat) (V V1 : List UInt8) (pc : Int) (r : Nat → Int) (md : Int) (l : List Pt.Mk) (fl : Bool) (e : Ending) (w' : World) : Prop :=
  ∃ A' c' v, e = .returned (.tuple #[.agg #[.slice A' n c', .int .i64 pc, .int .i64 (r 0), .int .i64 (r 1), .int .i64 (r 2), .int .i64 (r 3), .int .i64 (r 4), .int .i64 (r 5), .int .i64 (r 6), .int .i64 (r 7), .int .i64 md], v, .bool fl]) ∧ Pt.MkR w' v l ∧ Ints w' A' c' (num V1) ∧ w.grownBy w' none ∧ (∀ i, v.ownBlock = some i → w.heap.size ≤ i) ∧ ∀ i, i < w.heap.size → OffI V A i → OffI V1 A' i
theorem Pt.reg_cell {w : World} {b : Nat} {pc md : Int} {r : Nat → Int} (h : Blk w b 35 #[.int .i64 pc, .int .i64 (r 0), .int .i64 (r 1), .int .i64 (r 2), .int .i64 (r 3), .int .i64 (r 4), .int .i64 (r 5), .int .i64 (r 6), .int .i64 (r 7), .int .i64 md]) {k : Nat} (hk : k < 8) : w.cell? ⟨b, 1 + k, none⟩ = some (.int .i64 (r k)) := by
  rw [h.cell (1 + k)]
  rcases (by omega : k = 0 ∨ k = 1 ∨ k = 2 ∨ k = 3 ∨ k = 4 ∨ k = 5 ∨ k = 6 ∨ k = 7) with rfl | rfl | rfl | rfl | rfl | rfl | rfl | rfl <;> rfl
theorem Pt.reg_put {w W : World} {b : Nat} {pc md : Int} {r : Nat → Int} (h : Blk w b 35 #[.int .i64 pc, .int .i64 (r 0), .int .i64 (r 1), .int .i64 (r 2), .int .i64 (r 3), .int .i64 (r 4), .int .i64 (r 5), .int .i64 (r 6), .int .i64 (r 7), .int .i64 md]) {k : Nat} (hk : k < 8) (n : Int) (hW : W = w.setCell ⟨b, 1 + k, none⟩ (.int .i64 n)) : Blk W b 35 #[.int .i64 pc, .int .i64 (Cu.upd r k n 0), .int .i64 (Cu.upd r k n 1), .int .i64 (Cu.upd r k n 2), .int .i64 (Cu.upd r k n 3), .int .i64 (Cu.upd r k n 4), .int .i64 (Cu.upd r k n 5), .int .i64 (Cu.upd r k n 6), .int .i64 (Cu.upd r k n 7), .int .i64 md] ∧ w.grownBy W (some b) := by
  subst hW
  refine ⟨?_, only_put (only_refl _ _) _ _⟩
  have q := h.put (1 + k) (.int .i64 n)
  rcases (by omega : k = 0 ∨ k = 1 ∨ k = 2 ∨ k = 3 ∨ k = 4 ∨ k = 5 ∨ k = 6 ∨ k = 7) with rfl | rfl | rfl | rfl | rfl | rfl | rfl | rfl <;> exact q
set_option maxHeartbeats 12800000 in
theorem Pt.rstep_core (w : World) (A : Option Addr) (n c : Nat) (V V1 : List UInt8) (pc pc1 md md1 : Int) (r r1 : Nat → Int) (o1 o2 o3 o4 : Int) (x : Pt.F)
    (hA : Ints w A c (num V)) (hS : ∀ W, w.grownBy W none → Calls Tryd.prog 42 #[.slice A n c, .agg #[.int .i64 pc, .int .i64 (r 0), .int .i64 (r 1), .int .i64 (r 2), .int .i64 (r 3), .int .i64 (r 4), .int .i64 (r 5), .int .i64 (r 6), .int .i64 (r 7), .int .i64 md]] W fun e w' => ∃ A' c', e = .returned (.tuple #[.slice A' n c', .agg #[.int .i64 pc1, .int .i64 (r1 0), .int .i64 (r1 1), .int .i64 (r1 2), .int .i64 (r1 3), .int .i64 (r1 4), .int .i64 (r1 5), .int .i64 (r1 6), .int .i64 (r1 7), .int .i64 md1], .agg #[.int .i64 o1, .int .i64 o2, .int .i64 o3, .int .i64 o4]]) ∧ Ints w' A' c' (num V1) ∧ W.grownBy w' none ∧ ∀ i, i < W.heap.size → OffI V A i → OffI V1 A' i)
    (hO3 : o1 = 2 → ∃ k : Nat, k < 8 ∧ o3 = k) : Calls Tryd.prog 31 #[.agg #[.slice A n c, .int .i64 pc, .int .i64 (r 0), .int .i64 (r 1), .int .i64 (r 2), .int .i64 (r 3), .int .i64 (r 4), .int .i64 (r 5), .int .i64 (r 6), .int .i64 (r 7), .int .i64 md], .agg #[.int .i64 x.t, .int .i64 x.f, .int .i64 x.d, .int .i64 x.p, .int .i64 x.b]] w (Pt.RstV w A n V V1 pc1 (Pt.regs o1 o2 o3 r1 x) md1 (Pt.told o1 o2 o4 x) (o1 == 2 && o2 == 4)) := by
  obtain ⟨W0, hW0⟩ : ∃ W0, W0 = ((w.alloc (.cells #[.slice A n c, .int .i64 pc, .int .i64 (r 0), .int .i64 (r 1), .int .i64 (r 2), .int .i64 (r 3), .int .i64 (r 4), .int .i64 (r 5), .int .i64 (r 6), .int .i64 (r 7), .int .i64 md] 37)).alloc (.cells #[.int .i64 x.t, .int .i64 x.f, .int .i64 x.d, .int .i64 x.p, .int .i64 x.b] 64)).alloc (.cells #[.slice none 0 0, .int .i64 0, .int .i64 0, .int .i64 0, .int .i64 0, .int .i64 0, .int .i64 0, .int .i64 0, .int .i64 0, .int .i64 0, .int .i64 0] 37) := ⟨_, rfl⟩
  have G0 := Lib.hid (show w.grownBy W0 none by rw [hW0]; exact only_alloc (only_alloc (only_alloc (only_refl _ none) _) _) _)
  have PB := Lib.hid (show Blk W0 w.heap.size 37 #[.slice A n c, .int .i64 pc, .int .i64 (r 0), .int .i64 (r 1), .int .i64 (r 2), .int .i64 (r 3), .int .i64 (r 4), .int .i64 (r 5), .int .i64 (r 6), .int .i64 (r 7), .int .i64 md] by rw [hW0]; exact ((Blk.new _ _ _).alloc _).alloc _)
  have FB := Lib.hid (show Blk W0 (w.heap.size + 1) 64 #[.int .i64 x.t, .int .i64 x.f, .int .i64 x.d, .int .i64 x.p, .int .i64 x.b] by rw [hW0]; have := Blk.new (w.alloc (.cells #[.slice A n c, .int .i64 pc, .int .i64 (r 0), .int .i64 (r 1), .int .i64 (r 2), .int .i64 (r 3), .int .i64 (r 4), .int .i64 (r 5), .int .i64 (r 6), .int .i64 (r 7), .int .i64 md] 37)) 64 #[.int .i64 x.t, .int .i64 x.f, .int .i64 x.d, .int .i64 x.p, .int .i64 x.b]; exact Blk.alloc (by simpa using this) _)
  have RB := Lib.hid (show Blk W0 (w.heap.size + 1 + 1) 37 #[.slice none 0 0, .int .i64 0, .int .i64 0, .int .i64 0, .int .i64 0, .int .i64 0, .int .i64 0, .int .i64 0, .int .i64 0, .int .i64 0, .int .i64 0] by rw [hW0]; have := Blk.new ((w.alloc (.cells #[.slice A n c, .int .i64 pc, .int .i64 (r 0), .int .i64 (r 1), .int .i64 (r 2), .int .i64 (r 3), .int .i64 (r 4), .int .i64 (r 5), .int .i64 (r 6), .int .i64 (r 7), .int .i64 md] 37)).alloc (.cells #[.int .i64 x.t, .int .i64 x.f, .int .i64 x.d, .int .i64 x.p, .int .i64 x.b] 64)) 37 #[.slice none 0 0, .int .i64 0, .int .i64 0, .int .i64 0, .int .i64 0, .int .i64 0, .int .i64 0, .int .i64 0, .int .i64 0, .int .i64 0, .int .i64 0]; simpa using this)
  have HZ0 := Lib.hid (show W0.heap.size = w.heap.size + 1 + 1 + 1 by rw [hW0]; simp)
  have HS := Lib.hid (hS W0 G0.out)
  have HO3 := Lib.hid hO3
  have HI0 := Lib.hid (Cu.offi_new (i := w.heap.size + 1 + 1) hA (by omega))
  clear hS hO3 hA
  obtain ⟨p0, p1, p2, p3, p4, p5, p6, p7, p8, p9, p10⟩ := Pt.cells11 PB.out
  go_enter Tryd.func31, Tryd.ntmps31
  go_upto_region 1 with (fail)
  rw [← hW0]
  clear hW0
  go_upto_region 2 with (go_at_call 42; (with_reducible refine HS.out.mono ?_); rintro e w3 ⟨A', c', rfl, hA3, g3, ho3⟩; have HA3 := Lib.hid hA3; have G3 := Lib.hid g3; have HOF := Lib.hid ho3; clear hA3 g3 ho3)
  clear p0 p1 p2 p3 p4 p5 p6 p7 p8 p9 p10 HS
  obtain ⟨W4, hW4⟩ : ∃ W4, W4 = (w3.alloc (.cells #[.int .i64 pc1, .int .i64 (r1 0), .int .i64 (r1 1), .int .i64 (r1 2), .int .i64 (r1 3), .int .i64 (r1 4), .int .i64 (r1 5), .int .i64 (r1 6), .int .i64 (r1 7), .int .i64 md1] 35)).alloc (.cells #[.int .i64 o1, .int .i64 o2, .int .i64 o3, .int .i64 o4] 99) := ⟨_, rfl⟩
  have G4 := Lib.hid (show W0.grownBy W4 none by rw [hW4]; exact only_trans G3.out (only_alloc (only_alloc (only_refl _ none) _) _))
  have SB := Lib.hid (show Blk W4 w3.heap.size 35 #[.int .i64 pc1, .int .i64 (r1 0), .int .i64 (r1 1), .int .i64 (r1 2), .int .i64 (r1 3), .int .i64 (r1 4), .int .i64 (r1 5), .int .i64 (r1 6), .int .i64 (r1 7), .int .i64 md1] by rw [hW4]; exact (Blk.new _ _ _).alloc _)
  have OB := Lib.hid (show Blk W4 (w3.heap.size + 1) 99 #[.int .i64 o1, .int .i64 o2, .int .i64 o3, .int .i64 o4] by rw [hW4]; have := Blk.new (w3.alloc (.cells #[.int .i64 pc1, .int .i64 (r1 0), .int .i64 (r1 1), .int .i64 (r1 2), .int .i64 (r1 3), .int .i64 (r1 4), .int .i64 (r1 5), .int .i64 (r1 6), .int .i64 (r1 7), .int .i64 md1] 35)) 99 #[.int .i64 o1, .int .i64 o2, .int .i64 o3, .int .i64 o4]; simpa using this)
  have HZ3 := Lib.hid (show W0.heap.size ≤ w3.heap.size from G3.out.size)
  have HA4 := Lib.hid (show Ints W4 A' c' (num V1) by rw [hW4]; exact Cu.ints_gr HA3.out (only_alloc (only_alloc (only_refl _ none) _) _))
  rw [← hW4]
  have HW4 := Lib.hid (show w3.heap.size + 1 < W4.heap.size by rw [hW4]; simp)
  clear hW4
  have RBO := Lib.hid (HOF.out (w.heap.size + 1 + 1) (by have := HZ0.out; omega) HI0.out)
  have HBO := Lib.hid (Cu.offi_new HA3.out (Nat.le_refl _))
  obtain ⟨bs, hbs⟩ : ∃ bs, bs = w3.heap.size := ⟨_, rfl⟩
  rw [← hbs] at SB OB HZ3 HW4 HBO ⊢
  clear hbs HA3
  go_upto_region 3 with (fail)
  obtain ⟨W5, hW5⟩ : ∃ W5, W5 = W4.alloc (.cells #[] 73) := ⟨_, rfl⟩
  have g45 : W4.grownBy W5 none := by rw [hW5]; exact only_alloc (only_refl _ none) _
  have LB := Lib.hid (show Blk W5 W4.heap.size 73 #[] by rw [hW5]; exact Blk.new _ _ _)
  rw [← hW5]
  obtain ⟨bl, hbl⟩ : ∃ bl, bl = W4.heap.size := ⟨_, rfl⟩
  rw [← hbl] at LB HW4 ⊢
  have G5 := Lib.hid (only_trans G4.out g45)
  replace SB := Lib.hid (SB.out.only g45 (by simp))
  replace OB := Lib.hid (OB.out.only g45 (by simp))
  have HA5 := Lib.hid (Cu.ints_gr HA4.out g45)
  have FB5 := Lib.hid (FB.out.only G5.out (by simp))
  have RB5 := Lib.hid (RB.out.only G5.out (by simp))
  have HOB := Lib.hid (show OffI V1 A' bs ∧ OffI V1 A' bl ∧ OffI V1 A' (w.heap.size + 1 + 1) from ⟨HBO.out, Cu.offi_new HA4.out (Nat.le_of_eq hbl.symm), RBO.out⟩)
  clear hW5 g45 hbl HA4 FB RB PB G4
  replace G5 := Lib.hid (only_trans G0.out G5.out)
  by_cases e2 : o1 = 2
  · subst e2
    obtain ⟨kx, hkx, rfl⟩ := HO3.out rfl
    obtain ⟨nr, hnr⟩ : ∃ nr, Pt.res o2 x = nr := ⟨_, rfl⟩
    have HNR := Lib.hid hnr
    have HR := Lib.hid (show Calls Tryd.prog 21 #[.int .i64 o2, .agg #[.int .i64 x.t, .int .i64 x.f, .int .i64 x.d, .int .i64 x.p, .int .i64 x.b]] W5 fun e w' => e = .returned (.int .i64 nr) ∧ W5.grownBy w' none from by rw [← hnr]; exact Pt.rresult_any o2 x W5)
    clear hnr
    obtain ⟨c0, c1, c2, c3⟩ := Cu.cells4 OB.out
    obtain ⟨a0, a1, a2, a3, a4⟩ := Pt.cells5 FB5.out
    go_upto_region 6 with (go_at_call 21; (with_reducible refine HR.out.mono ?_); rintro e w6 ⟨rfl, g6⟩; have G6 := Lib.hid g6; clear g6)
    clear c0 c1 c2 c3 a0 a1 a2 a3 a4 HR
    replace SB := Lib.hid (SB.out.only G6.out (by simp))
    replace OB := Lib.hid (OB.out.only G6.out (by simp))
    replace LB := Lib.hid (LB.out.only G6.out (by simp))
    replace FB5 := Lib.hid (FB5.out.only G6.out (by simp))
    replace RB5 := Lib.hid (RB5.out.only G6.out (by simp))
    replace HA5 := Lib.hid (Cu.ints_gr HA5.out G6.out)
    replace G5 := Lib.hid (only_trans G5.out G6.out)
    obtain ⟨c0, c1, c2, c3⟩ := Cu.cells4 OB.out
    have sc := Pt.reg_cell SB.out hkx
    have sf : w6.frozen? ⟨bs, 1 + kx, none⟩ = false := SB.out.free _
    have i1 : (kx : Int) < 8 := by omega
    have i2 : (0 : Int) ≤ (kx : Int) := by omega
    have n1 : ¬ bs = bs + 1 := by omega
    have n2 : ¬ bs + 1 = bs := by omega
    go_upto_region 7 with (fail)
    obtain ⟨W7, hW7⟩ : ∃ W7, W7 = w6.setCell ⟨bs, 1 + kx, none⟩ (.int .i64 nr) := ⟨_, rfl⟩
    obtain ⟨b7, k7⟩ := Pt.reg_put SB.out hkx nr hW7
    rw [← hW7]
    clear sc sf i1 i2 n1 n2 hW7 c0 c1 c2 c3
    have HZB := Lib.hid (show w.heap.size + 1 + 1 < bs by have := HZ0.out; have := HZ3.out; omega)
    have HK7 := Lib.hid k7
    replace SB := Lib.hid b7
    replace OB := Lib.hid (OB.out.only k7 (fun e => by injection e with e; omega))
    replace LB := Lib.hid (LB.out.only k7 (fun e => by injection e with e; have := HW4.out; omega))
    replace FB5 := Lib.hid (FB5.out.only k7 (fun e => by injection e with e; have := HZB.out; omega))
    replace RB5 := Lib.hid (RB5.out.only k7 (fun e => by injection e with e; have := HZB.out; omega))
    replace HA5 := Lib.hid (HA5.out.farI k7 (HOB.out.1))
    replace G5 := Lib.hid (Pt.grow_box G5.out k7 (by have := HZB.out; omega))
    clear b7 k7
    obtain ⟨v', w9, hk, hrow, hg9, how⟩ := Pt.app_one (W7.alloc (.cells #[.int .i64 x.t, .int .u8 3, .int .i64 o2, .int .i64 nr, .int .i64 0, .string ⟨#[]⟩] 73)) bl W7.heap.size ⟨x.t, 3, o2, nr, 0, ⟨#[]⟩⟩ (LB.out.alloc _) (Blk.new W7 _ _)
    have g79 : W7.grownBy (W7.alloc (.cells #[.int .i64 x.t, .int .u8 3, .int .i64 o2, .int .i64 nr, .int .i64 0, .string ⟨#[]⟩] 73)) none := only_alloc (only_refl _ none) _
    have HL7 := Lib.hid LB.out.lt
    have HK := Lib.hid hk
    have HROW := Lib.hid hrow
    have HOW := Lib.hid how
    obtain ⟨A9, c9, rfl, _, _⟩ := hrow
    obtain ⟨a0, a1, a2, a3, a4⟩ := Pt.cells5 FB5.out
    obtain ⟨c0, c1, c2, c3⟩ := Cu.cells4 OB.out
    go_upto_region 8 with (at_builtin; refine wpList_append_eq rfl (.tmp 35) (.tmp 42) 50 rfl HK.out rfl rfl ?_)
    have HRO := Lib.hid (HOB.out.2.2)
    have HS79 := Lib.hid (g79.size)
    have G9 := Lib.hid (Pt.grow_box (only_trans G5.out g79) hg9 (by have := HW4.out; have := HZB.out; omega))
    replace SB := Lib.hid ((SB.out.only g79 (by simp)).only hg9 (fun e => by injection e with e; have := HW4.out; omega))
    replace OB := Lib.hid ((OB.out.only g79 (by simp)).only hg9 (fun e => by injection e with e; have := HW4.out; omega))
    replace RB5 := Lib.hid ((RB5.out.only g79 (by simp)).only hg9 (fun e => by injection e with e; have := HW4.out; have := HZB.out; omega))
    replace HA5 := Lib.hid ((Cu.ints_gr HA5.out g79).farI hg9 HOB.out.2.1)
    have HV := Lib.hid (show Pt.told 2 o2 o4 x = [⟨x.t, 3, o2, nr, 0, ⟨#[]⟩⟩] by unfold Pt.told; rw [if_pos rfl, HNR.out])
    have HRG := Lib.hid (show Pt.regs 2 o2 (kx : Int) r1 x = Cu.upd r1 kx nr by unfold Pt.regs; rw [if_pos rfl, HNR.out, Int.toNat_natCast])
    have HOWN := Lib.hid (show ∀ i, (Value.slice A9 1 c9).ownBlock = some i → w.heap.size ≤ i ∧ i ≠ w.heap.size + 1 + 1 from fun i e => by
      have HO : (Value.slice A9 1 c9).ownBlock = some bl ∨ (Value.slice A9 1 c9).ownBlock = some _ := HOW.out
      have h1 := HW4.out
      have h2 := HZB.out
      have h3 := HS79.out
      have h4 := HL7.out
      rcases HO with q | q <;> (rw [e] at q; injection q with q; (try simp at q); omega))
    clear a0 a1 a2 a3 a4 c0 c1 c2 c3 hk hg9 how g79
    obtain ⟨c0, c1, c2, c3⟩ := Cu.cells4 OB.out
    obtain ⟨x0, x1, x2, x3, x4, x5, x6, x7, x8, x9⟩ := Cu.cells10 SB.out
    obtain ⟨z0, z1, z2, z3, z4, z5, z6, z7, z8, z9, z10⟩ := Pt.cells11 RB5.out
    obtain ⟨y0, y1, y2, y3, y4, y5, y6, y7, y8, y9, y10⟩ := Pt.free11 RB5.out
    obtain ⟨W10, hW10⟩ : ∃ W10, W10 = (((((((((((w9.setCell ⟨w.heap.size + 1 + 1, 0, none⟩ (.slice A' n c')).setCell ⟨w.heap.size + 1 + 1, 1, none⟩ (.int .i64 pc1)).setCell ⟨w.heap.size + 1 + 1, 2, none⟩ (.int .i64 (Cu.upd r1 kx nr 0))).setCell ⟨w.heap.size + 1 + 1, 3, none⟩ (.int .i64 (Cu.upd r1 kx nr 1))).setCell ⟨w.heap.size + 1 + 1, 4, none⟩ (.int .i64 (Cu.upd r1 kx nr 2))).setCell ⟨w.heap.size + 1 + 1, 5, none⟩ (.int .i64 (Cu.upd r1 kx nr 3))).setCell ⟨w.heap.size + 1 + 1, 6, none⟩ (.int .i64 (Cu.upd r1 kx nr 4))).setCell ⟨w.heap.size + 1 + 1, 7, none⟩ (.int .i64 (Cu.upd r1 kx nr 5))).setCell ⟨w.heap.size + 1 + 1, 8, none⟩ (.int .i64 (Cu.upd r1 kx nr 6))).setCell ⟨w.heap.size + 1 + 1, 9, none⟩ (.int .i64 (Cu.upd r1 kx nr 7))).setCell ⟨w.heap.size + 1 + 1, 10, none⟩ (.int .i64 md1)) := ⟨_, rfl⟩
    obtain ⟨k10, b10⟩ := Pt.put11 RB5.out (.slice A' n c') (.int .i64 pc1) (.int .i64 (Cu.upd r1 kx nr 0)) (.int .i64 (Cu.upd r1 kx nr 1)) (.int .i64 (Cu.upd r1 kx nr 2)) (.int .i64 (Cu.upd r1 kx nr 3)) (.int .i64 (Cu.upd r1 kx nr 4)) (.int .i64 (Cu.upd r1 kx nr 5)) (.int .i64 (Cu.upd r1 kx nr 6)) (.int .i64 (Cu.upd r1 kx nr 7)) (.int .i64 md1) W10 hW10
    have HG10 := Lib.hid (Pt.grow_box G9.out k10 (by omega))
    have HA10 := Lib.hid (HA5.out.farI k10 HRO.out)
    have HR10 := Lib.hid (HROW.out.off (fun i e => (HOWN.out i e).2) k10)
    have n3 : ¬ bs = w.heap.size + 1 + 1 := by have := HZB.out; omega
    have n4 : ¬ w.heap.size + 1 + 1 = bs := by have := HZB.out; omega
    have n5 : ¬ bs + 1 = w.heap.size + 1 + 1 := by have := HZB.out; omega
    have n6 : ¬ w.heap.size + 1 + 1 = bs + 1 := by have := HZB.out; omega
    obtain ⟨fl, hfl⟩ : ∃ fl, (o2 == 4) = fl := ⟨_, rfl⟩
    have HFL := Lib.hid (show ((2 : Int) == 2 && o2 == 4) = fl from by rw [hfl]; rfl)
    obtain ⟨u0, u1, u2, u3, u4, u5, u6, u7, u8, u9, u10⟩ := Pt.cells11 b10
    clear k10 b10
    cases fl
    all_goals
      have h4 := hfl
      simp at h4
      go_wp2
      rw [← hW10]
      refine bodyPost_ret (v := .tuple #[.agg #[.slice A' n c', .int .i64 pc1, .int .i64 (Cu.upd r1 kx nr 0), .int .i64 (Cu.upd r1 kx nr 1), .int .i64 (Cu.upd r1 kx nr 2), .int .i64 (Cu.upd r1 kx nr 3), .int .i64 (Cu.upd r1 kx nr 4), .int .i64 (Cu.upd r1 kx nr 5), .int .i64 (Cu.upd r1 kx nr 6), .int .i64 (Cu.upd r1 kx nr 7), .int .i64 md1], .slice A9 1 c9, .bool _]) (by simp [results, Tryd.results31, go_sem, u0, u1, u2, u3, u4, u5, u6, u7, u8, u9, u10]; rfl) rfl ?_
      exact ⟨A', c', .slice A9 1 c9, by rw [HRG.out, HFL.out], by rw [HV.out]; exact HR10.out, HA10.out, HG10.out, fun i e => (HOWN.out i e).1, fun i hi ho => HOF.out i (by have := HZ0.out; omega) ho⟩
  have f2 : (o1 == 2) = false := by simpa using e2
  have HRG := Lib.hid (show Pt.regs o1 o2 o3 r1 x = r1 by unfold Pt.regs; rw [if_neg e2])
  have HZB := Lib.hid (show w.heap.size + 1 + 1 < bs by have := HZ0.out; have := HZ3.out; omega)
  have HFL := Lib.hid (show (o1 == 2 && o2 == 4) = false from by rw [f2]; rfl)
  have n3 : ¬ bs = w.heap.size + 1 + 1 := by have := HZB.out; omega
  have n4 : ¬ w.heap.size + 1 + 1 = bs := by have := HZB.out; omega
  have n5 : ¬ bs + 1 = w.heap.size + 1 + 1 := by have := HZB.out; omega
  have n6 : ¬ w.heap.size + 1 + 1 = bs + 1 := by have := HZB.out; omega
  have n1 : ¬ bs = bs + 1 := by omega
  have n2 : ¬ bs + 1 = bs := by omega
  have HRO := Lib.hid (HOB.out.2.2)
  by_cases e4 : o1 = 4 ∨ o1 = 5
  · have HV := Lib.hid (show Pt.told o1 o2 o4 x = [⟨x.t, 4, o4, 0, 0, ⟨#[]⟩⟩] by unfold Pt.told; rw [if_neg e2, if_pos e4])
    obtain ⟨v', w9, hk, hrow, hg9, how⟩ := Pt.app_one (W5.alloc (.cells #[.int .i64 x.t, .int .u8 4, .int .i64 o4, .int .i64 0, .int .i64 0, .string ⟨#[]⟩] 73)) bl W5.heap.size ⟨x.t, 4, o4, 0, 0, ⟨#[]⟩⟩ (LB.out.alloc _) (Blk.new W5 _ _)
    have g79 : W5.grownBy (W5.alloc (.cells #[.int .i64 x.t, .int .u8 4, .int .i64 o4, .int .i64 0, .int .i64 0, .string ⟨#[]⟩] 73)) none := only_alloc (only_refl _ none) _
    have HL7 := Lib.hid LB.out.lt
    have HK := Lib.hid hk
    have HROW := Lib.hid hrow
    have HOW := Lib.hid how
    obtain ⟨A9, c9, rfl, _, _⟩ := hrow
    obtain ⟨a0, a1, a2, a3, a4⟩ := Pt.cells5 FB5.out
    obtain ⟨c0, c1, c2, c3⟩ := Cu.cells4 OB.out
    have HS79 := Lib.hid (g79.size)
    have G9 := Lib.hid (Pt.grow_box (only_trans G5.out g79) hg9 (by have := HW4.out; have := HZB.out; omega))
    have SB9 := Lib.hid ((SB.out.only g79 (by simp)).only hg9 (fun e => by injection e with e; have := HW4.out; omega))
    have RB9 := Lib.hid ((RB5.out.only g79 (by simp)).only hg9 (fun e => by injection e with e; have := HW4.out; have := HZB.out; omega))
    have HA9 := Lib.hid ((Cu.ints_gr HA5.out g79).farI hg9 HOB.out.2.1)
    have HOWN := Lib.hid (show ∀ i, (Value.slice A9 1 c9).ownBlock = some i → w.heap.size ≤ i ∧ i ≠ w.heap.size + 1 + 1 from fun i e => by
      have HO : (Value.slice A9 1 c9).ownBlock = some bl ∨ (Value.slice A9 1 c9).ownBlock = some _ := HOW.out
      have h1 := HW4.out
      have h2 := HZB.out
      have h3 := HS79.out
      have h4 := HL7.out
      rcases HO with q | q <;> (rw [e] at q; injection q with q; (try simp at q); omega))
    clear hk hg9 how g79 f2 e2
    obtain ⟨z0, z1, z2, z3, z4, z5, z6, z7, z8, z9, z10⟩ := Pt.cells11 RB9.out
    obtain ⟨y0, y1, y2, y3, y4, y5, y6, y7, y8, y9, y10⟩ := Pt.free11 RB9.out
    obtain ⟨x0, x1, x2, x3, x4, x5, x6, x7, x8, x9⟩ := Cu.cells10 SB9.out
    obtain ⟨W10, hW10⟩ : ∃ W10, W10 = (((((((((((w9.setCell ⟨w.heap.size + 1 + 1, 0, none⟩ (.slice A' n c')).setCell ⟨w.heap.size + 1 + 1, 1, none⟩ (.int .i64 pc1)).setCell ⟨w.heap.size + 1 + 1, 2, none⟩ (.int .i64 (r1 0))).setCell ⟨w.heap.size + 1 + 1, 3, none⟩ (.int .i64 (r1 1))).setCell ⟨w.heap.size + 1 + 1, 4, none⟩ (.int .i64 (r1 2))).setCell ⟨w.heap.size + 1 + 1, 5, none⟩ (.int .i64 (r1 3))).setCell ⟨w.heap.size + 1 + 1, 6, none⟩ (.int .i64 (r1 4))).setCell ⟨w.heap.size + 1 + 1, 7, none⟩ (.int .i64 (r1 5))).setCell ⟨w.heap.size + 1 + 1, 8, none⟩ (.int .i64 (r1 6))).setCell ⟨w.heap.size + 1 + 1, 9, none⟩ (.int .i64 (r1 7))).setCell ⟨w.heap.size + 1 + 1, 10, none⟩ (.int .i64 md1)) := ⟨_, rfl⟩
    obtain ⟨k10, b10⟩ := Pt.put11 RB9.out (.slice A' n c') (.int .i64 pc1) (.int .i64 (r1 0)) (.int .i64 (r1 1)) (.int .i64 (r1 2)) (.int .i64 (r1 3)) (.int .i64 (r1 4)) (.int .i64 (r1 5)) (.int .i64 (r1 6)) (.int .i64 (r1 7)) (.int .i64 md1) W10 hW10
    have HG10 := Lib.hid (Pt.grow_box G9.out k10 (by omega))
    have HA10 := Lib.hid (HA9.out.farI k10 HRO.out)
    have HR10 := Lib.hid (HROW.out.off (fun i e => (HOWN.out i e).2) k10)
    obtain ⟨u0, u1, u2, u3, u4, u5, u6, u7, u8, u9, u10⟩ := Pt.cells11 b10
    clear k10 b10
    rcases e4 with rfl | rfl
    all_goals
      go_upto_region 11 with (at_builtin; refine wpList_append_eq rfl (.tmp 55) (.tmp 61) 50 rfl HK.out rfl rfl ?_)
      go_wp2
      rw [← hW10]
      refine bodyPost_ret (v := .tuple #[.agg #[.slice A' n c', .int .i64 pc1, .int .i64 (r1 0), .int .i64 (r1 1), .int .i64 (r1 2), .int .i64 (r1 3), .int .i64 (r1 4), .int .i64 (r1 5), .int .i64 (r1 6), .int .i64 (r1 7), .int .i64 md1], .slice A9 1 c9, .bool false]) (by simp [results, Tryd.results31, go_sem, u0, u1, u2, u3, u4, u5, u6, u7, u8, u9, u10]) rfl ?_
      exact ⟨A', c', .slice A9 1 c9, by rw [HRG.out, HFL.out], by rw [HV.out]; exact HR10.out, HA10.out, HG10.out, fun i e => (HOWN.out i e).1, fun i hi ho => HOF.out i (by have := HZ0.out; omega) ho⟩
  · have HV := Lib.hid (show Pt.told o1 o2 o4 x = [] by unfold Pt.told; rw [if_neg e2, if_neg e4])
    have f4 : (o1 == 4) = false := by simp; omega
    have f5 : (o1 == 5) = false := by simp; omega
    clear e4 e2
    have HL5 := Lib.hid LB.out.lt
    obtain ⟨c0, c1, c2, c3⟩ := Cu.cells4 OB.out
    obtain ⟨z0, z1, z2, z3, z4, z5, z6, z7, z8, z9, z10⟩ := Pt.cells11 RB5.out
    obtain ⟨y0, y1, y2, y3, y4, y5, y6, y7, y8, y9, y10⟩ := Pt.free11 RB5.out
    obtain ⟨x0, x1, x2, x3, x4, x5, x6, x7, x8, x9⟩ := Cu.cells10 SB.out
    obtain ⟨W10, hW10⟩ : ∃ W10, W10 = (((((((((((W5.setCell ⟨w.heap.size + 1 + 1, 0, none⟩ (.slice A' n c')).setCell ⟨w.heap.size + 1 + 1, 1, none⟩ (.int .i64 pc1)).setCell ⟨w.heap.size + 1 + 1, 2, none⟩ (.int .i64 (r1 0))).setCell ⟨w.heap.size + 1 + 1, 3, none⟩ (.int .i64 (r1 1))).setCell ⟨w.heap.size + 1 + 1, 4, none⟩ (.int .i64 (r1 2))).setCell ⟨w.heap.size + 1 + 1, 5, none⟩ (.int .i64 (r1 3))).setCell ⟨w.heap.size + 1 + 1, 6, none⟩ (.int .i64 (r1 4))).setCell ⟨w.heap.size + 1 + 1, 7, none⟩ (.int .i64 (r1 5))).setCell ⟨w.heap.size + 1 + 1, 8, none⟩ (.int .i64 (r1 6))).setCell ⟨w.heap.size + 1 + 1, 9, none⟩ (.int .i64 (r1 7))).setCell ⟨w.heap.size + 1 + 1, 10, none⟩ (.int .i64 md1)) := ⟨_, rfl⟩
    obtain ⟨k10, b10⟩ := Pt.put11 RB5.out (.slice A' n c') (.int .i64 pc1) (.int .i64 (r1 0)) (.int .i64 (r1 1)) (.int .i64 (r1 2)) (.int .i64 (r1 3)) (.int .i64 (r1 4)) (.int .i64 (r1 5)) (.int .i64 (r1 6)) (.int .i64 (r1 7)) (.int .i64 md1) W10 hW10
    have HG10 := Lib.hid (Pt.grow_box G5.out k10 (by omega))
    have HA10 := Lib.hid (HA5.out.farI k10 HRO.out)
    obtain ⟨u0, u1, u2, u3, u4, u5, u6, u7, u8, u9, u10⟩ := Pt.cells11 b10
    clear k10 b10
    go_wp2
    rw [← hW10]
    refine bodyPost_ret (v := .tuple #[.agg #[.slice A' n c', .int .i64 pc1, .int .i64 (r1 0), .int .i64 (r1 1), .int .i64 (r1 2), .int .i64 (r1 3), .int .i64 (r1 4), .int .i64 (r1 5), .int .i64 (r1 6), .int .i64 (r1 7), .int .i64 md1], .slice (some ⟨bl, 0, none⟩) 0 0, .bool false]) (by simp [results, Tryd.results31, go_sem, u0, u1, u2, u3, u4, u5, u6, u7, u8, u9, u10]) rfl ?_
    exact ⟨A', c', .slice (some ⟨bl, 0, none⟩) 0 0, by rw [HRG.out, HFL.out], by rw [HV.out]; exact ⟨_, 0, rfl, by simp, fun h => absurd h (by decide)⟩, HA10.out, HG10.out, fun i e => by simp [Value.ownBlock] at e; have := HW4.out; have := HZB.out; omega, fun i hi ho => HOF.out i (by have := HZ0.out; omega) ho⟩
theorem Pt.rstep27_any (w : World) (A : Option Addr) (n c : Nat) (s : Pt.Sm) (hn : s.v.length = n) (hl : n ≤ 1000) (hpc : s.pc ≤ 9223372036854775807) (hA : Ints w A c (num s.v)) (x : Pt.F) : Calls Tryd.prog 31 #[.agg #[.slice A n c, .int .i64 s.pc, .int .i64 (s.r 0), .int .i64 (s.r 1), .int .i64 (s.r 2), .int .i64 (s.r 3), .int .i64 (s.r 4), .int .i64 (s.r 5), .int .i64 (s.r 6), .int .i64 (s.r 7), .int .i64 s.md], .agg #[.int .i64 x.t, .int .i64 x.f, .int .i64 x.d, .int .i64 x.p, .int .i64 x.b]] w (Pt.RstV w A n s.v (Pt.stp s x).v (Pt.stp s x).pc (Pt.stp s x).r (Pt.stp s x).md (Pt.stl s x) (Pt.stf s)) := by
  have hs := Pt.rstep_core w A n c s.v (Pt.af s).v s.pc (Pt.af s).pc s.md (Pt.af s).md s.r (Pt.af s).r (Pt.af s).o1 (Pt.af s).o2 (Pt.af s).o3 (Pt.af s).o4 x hA (fun W g => by
    have := Cu.rstep_any s.v A c (by omega) s.pc s.md s.r hpc W (Cu.ints_gr hA g)
    rw [hn] at this
    refine this.mono fun e w' ⟨A', n', c', e1, e2, e3, e4, e5⟩ => ⟨A', c', ?_, e3, e4, e5⟩
    have : n' = n := by rw [e2]; exact (Cu.step_len s.v s.pc s.r s.md).trans hn
    rw [e1, this]
    rfl) (Pt.step_x s)
  exact hs
end Go.Proofs.YthhodadfiipffaaDoor
