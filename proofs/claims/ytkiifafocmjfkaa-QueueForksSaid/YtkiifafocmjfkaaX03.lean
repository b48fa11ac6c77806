import Derived.Test.YtkiifafocmjfkaaRows
import Derived.Test.YtkiifafocmjfkaaX02
import Derived.BigQuiet
import Derived.Deep.RegionLaw
import Derived.Maps.AppendAt
set_option linter.all false
/- Queues of Qu.Cl: each call by its contract. -/
namespace Go.Proofs.Ytkiifafocmjfkaa
open Go.RowKit Go.Lib
set_option linter.unusedVariables false

theorem Fc.info : (Try.prog.info? 51).map (fun i => (i.zero, i.size, i.bytes)) = some (some (.agg #[.int .i64 0, .int .u8 0, .int .u8 0, .int .i64 0, .int .i64 0, .int .i64 0, .bool false, .int .i64 0, .int .i64 0]), 9, 64) := by kernel_rfl
/-- A queue lies in block b: its things, its limit, its drops. -/
def Fc.Que (w : World) (b : Nat) (v : Value) (l : List Qu.Cl) (lim dr : Nat) : Prop :=
  Blk w b 80 #[v, .int .i64 lim, .int .i64 dr] ∧ RowZ 9 w v l.length (Fc.L l) ∧ v.ownBlock ≠ some b
theorem Fc.Que.lt {w : World} {b : Nat} {v : Value} {l : List Qu.Cl} {lim dr : Nat} (h : Fc.Que w b v l lim dr) : ∀ i, OwnQ b v i → i < w.heap.size := by
  rintro i (rfl | hi)
  · exact h.1.lt
  · exact h.2.1.lt i hi
theorem Fc.Que.keeps {w w' : World} {b : Nat} {v : Value} {l : List Qu.Cl} {lim dr : Nat} {S : Nat → Prop} (h : Fc.Que w b v l lim dr) (k : Keeps S w w') (hn : ∀ i, OwnQ b v i → ¬ S i) : Fc.Que w' b v l lim dr :=
  ⟨h.1.keeps k (hn b (.inl rfl)), h.2.1.keeps k fun i hi => hn i (.inr hi), h.2.2⟩
theorem Fc.Que.grown {w w' : World} {b : Nat} {v : Value} {l : List Qu.Cl} {lim dr : Nat} (h : Fc.Que w b v l lim dr) (g : w.grownBy w' none) : Fc.Que w' b v l lim dr := h.keeps (S := fun _ => False) (Keeps.of_only g (by simp)) (fun _ _ h => h)
/-- What a call that writes a queue leaves. -/
def Fc.QueN (w : World) (b : Nat) (v : Value) (lim : Nat) (w' : World) (l' : List Qu.Cl) (dr' : Nat) : Prop :=
  ∃ v', Fc.Que w' b v' l' lim dr' ∧ Keeps (OwnQ b v) w w' ∧ ∀ i, OwnQ b v' i → OwnQ b v i ∨ w.heap.size ≤ i
theorem Fc.QueN.stay {w : World} {b : Nat} {v : Value} {l : List Qu.Cl} {lim dr : Nat} (h : Fc.Que w b v l lim dr) : Fc.QueN w b v lim w l dr := ⟨v, h, Keeps.refl _ _, fun i hi => .inl hi⟩
theorem Fc.QueN.before {w0 w w' : World} {b : Nat} {v : Value} {lim dr' : Nat} {l' : List Qu.Cl} (g : w0.grownBy w none) (h : Fc.QueN w b v lim w' l' dr') : Fc.QueN w0 b v lim w' l' dr' := by
  obtain ⟨v', h1, h2, h3⟩ := h
  exact ⟨v', h1, (Keeps.of_only g (by simp)).trans h2, fun i hi => (h3 i hi).imp id (fun h => Nat.le_trans g.size h)⟩

theorem Fc.new_any (n : Int) (w : World) : Calls Try.prog 21 #[.int .i64 n] w fun e w' => e = .returned (.pointer (some ⟨w.heap.size, 0, none⟩)) ∧ w.alloc (.cells #[.slice none 0 0, .int .i64 (limQ n), .int .i64 0] 80) = w' := by
  by_cases h0 : n < 0
  · have E := Lib.hid (show ((limQ n : Nat) : Int) = 0 by unfold limQ; omega)
    go_enter Try.func21, Try.ntmps21
    go_wp2
    go_ret
    exact ⟨rfl, by rw [E.out]⟩
  · by_cases h1 : 65536 < n
    · have E := Lib.hid (show ((limQ n : Nat) : Int) = 65536 by unfold limQ; omega)
      go_enter Try.func21, Try.ntmps21
      go_wp2
      go_ret
      exact ⟨rfl, by rw [E.out]⟩
    · have E := Lib.hid (show ((limQ n : Nat) : Int) = n by unfold limQ; omega)
      go_enter Try.func21, Try.ntmps21
      go_wp2
      go_ret
      exact ⟨rfl, by rw [E.out]⟩
section
variable {w : World} {b : Nat} {v : Value} {l : List Qu.Cl} {lim dr : Nat}
theorem Fc.len_any (h : Fc.Que w b v l lim dr) : Calls Try.prog 35 #[.pointer (some ⟨b, 0, none⟩)] w fun e w' => e = .returned (.int .i64 l.length) ∧ w = w' := by
  have c0 : w.cell? ⟨b, 0, none⟩ = some v := h.1.cell 0
  obtain ⟨A, c, rfl⟩ := h.2.1.form
  clear h
  go_enter Try.func35, Try.ntmps35
  go_wp2
  go_ret
  exact ⟨rfl, rfl⟩
theorem Fc.push_off (x : Qu.Cl) (h : Fc.Que w b v l lim dr) (hl : lim ≤ l.length) (hd : dr ≤ 1000000) :
    Calls Try.prog 30 #[.pointer (some ⟨b, 0, none⟩), .agg #[.int .i64 x.it.k, .int .u8 x.it.wh, .int .u8 x.it.st, .int .i64 x.it.ad, .int .i64 x.it.ln, .int .i64 x.it.ar, .bool x.it.bad, .int .i64 x.st, .int .i64 x.n]] w fun e w' => e = .returned (.bool false) ∧ Fc.QueN w b v lim w' l (dr + 1) := by
  have hb := h.1.alloc (.cells #[.int .i64 x.it.k, .int .u8 x.it.wh, .int .u8 x.it.st, .int .i64 x.it.ad, .int .i64 x.it.ln, .int .i64 x.it.ar, .bool x.it.bad, .int .i64 x.st, .int .i64 x.n] 51)
  have c0 : w.cell? ⟨b, 0, none⟩ = some v := h.1.cell 0
  have c1 : w.cell? ⟨b, 1, none⟩ = some (.int .i64 lim) := h.1.cell 1
  have c2 : w.cell? ⟨b, 2, none⟩ = some (.int .i64 dr) := h.1.cell 2
  have k0 : (w.alloc (.cells #[.int .i64 x.it.k, .int .u8 x.it.wh, .int .u8 x.it.st, .int .i64 x.it.ad, .int .i64 x.it.ln, .int .i64 x.it.ar, .bool x.it.bad, .int .i64 x.st, .int .i64 x.n] 51)).cell? ⟨b, 0, none⟩ = some v := hb.cell 0
  have k1 : (w.alloc (.cells #[.int .i64 x.it.k, .int .u8 x.it.wh, .int .u8 x.it.st, .int .i64 x.it.ad, .int .i64 x.it.ln, .int .i64 x.it.ar, .bool x.it.bad, .int .i64 x.st, .int .i64 x.n] 51)).cell? ⟨b, 1, none⟩ = some (.int .i64 lim) := hb.cell 1
  have k2 : (w.alloc (.cells #[.int .i64 x.it.k, .int .u8 x.it.wh, .int .u8 x.it.st, .int .i64 x.it.ad, .int .i64 x.it.ln, .int .i64 x.it.ar, .bool x.it.bad, .int .i64 x.st, .int .i64 x.n] 51)).cell? ⟨b, 2, none⟩ = some (.int .i64 dr) := hb.cell 2
  have f2 := hb.free 2
  have H := Lib.hid h
  have HB := Lib.hid hb
  have hl' : (lim : Int) ≤ (l.length : Int) := by omega
  obtain ⟨A, c, rfl⟩ := h.2.1.form
  clear h hb
  go_enter Try.func30, Try.ntmps30
  go_wp2
  go_quiet (fail)
  go_wp2
  go_ret
  refine ⟨rfl, _, ⟨((HB.out.drewN nq).put 2 (.int .i64 ((dr : Int) + 1))), ((H.out.2.1.alloc _).drewN nq).put H.out.2.2 _, H.out.2.2⟩, (((Keeps.refl _ _).alloc _).drew nq).put (.inl (.inl rfl)) _, fun i hi => .inl hi⟩
theorem Fc.news (W : World) (x : Qu.Cl) : ∀ j u, (Fc.C x)[j]? = some u → (W.alloc (.cells #[.int .i64 x.it.k, .int .u8 x.it.wh, .int .u8 x.it.st, .int .i64 x.it.ad, .int .i64 x.it.ln, .int .i64 x.it.ar, .bool x.it.bad, .int .i64 x.st, .int .i64 x.n] 51)).cell? ((⟨W.heap.size, 0, none⟩ : Addr).add j) = some u := by
  intro j u hj
  rw [addr_at, (Blk.new W 51 #[.int .i64 x.it.k, .int .u8 x.it.wh, .int .u8 x.it.st, .int .i64 x.it.ad, .int .i64 x.it.ln, .int .i64 x.it.ar, .bool x.it.bad, .int .i64 x.st, .int .i64 x.n]).cell, Nat.zero_add]
  simpa [Fc.C] using hj
set_option maxRecDepth 20000 in
set_option maxHeartbeats 1600000 in
theorem Fc.push_on (x : Qu.Cl) (h : Fc.Que w b v l lim dr) (hl : l.length < lim) (hn : l.length ≤ 1000000) :
    Calls Try.prog 30 #[.pointer (some ⟨b, 0, none⟩), .agg #[.int .i64 x.it.k, .int .u8 x.it.wh, .int .u8 x.it.st, .int .i64 x.it.ad, .int .i64 x.it.ln, .int .i64 x.it.ar, .bool x.it.bad, .int .i64 x.st, .int .i64 x.n]] w fun e w' => e = .returned (.bool true) ∧ Fc.QueN w b v lim w' (l ++ [x]) dr := by
  obtain ⟨i0, hi0, hz0, hz1, hz2⟩ := info_parts Fc.info
  have hb := h.1.alloc (.cells #[.int .i64 x.it.k, .int .u8 x.it.wh, .int .u8 x.it.st, .int .i64 x.it.ad, .int .i64 x.it.ln, .int .i64 x.it.ar, .bool x.it.bad, .int .i64 x.st, .int .i64 x.n] 51)
  have c0 : w.cell? ⟨b, 0, none⟩ = some v := h.1.cell 0
  have c1 : w.cell? ⟨b, 1, none⟩ = some (.int .i64 lim) := h.1.cell 1
  have k0 : (w.alloc (.cells #[.int .i64 x.it.k, .int .u8 x.it.wh, .int .u8 x.it.st, .int .i64 x.it.ad, .int .i64 x.it.ln, .int .i64 x.it.ar, .bool x.it.bad, .int .i64 x.st, .int .i64 x.n] 51)).cell? ⟨b, 0, none⟩ = some v := hb.cell 0
  have k1 : (w.alloc (.cells #[.int .i64 x.it.k, .int .u8 x.it.wh, .int .u8 x.it.st, .int .i64 x.it.ad, .int .i64 x.it.ln, .int .i64 x.it.ar, .bool x.it.bad, .int .i64 x.st, .int .i64 x.n] 51)).cell? ⟨b, 1, none⟩ = some (.int .i64 lim) := hb.cell 1
  have f0 := hb.free 0
  have H := Lib.hid h
  have HB := Lib.hid hb
  have hl' : (l.length : Int) < (lim : Int) := by omega
  have HNEWB := Lib.hid (Blk.new w 51 #[.int .i64 x.it.k, .int .u8 x.it.wh, .int .u8 x.it.st, .int .i64 x.it.ad, .int .i64 x.it.ln, .int .i64 x.it.ar, .bool x.it.bad, .int .i64 x.st, .int .i64 x.n])
  obtain ⟨A, c, hv⟩ := h.2.1.form
  subst hv
  clear h hb
  go_enter Try.func30, Try.ntmps30
  go_wp2
  go_quiet (fail)
  have hx := HNEWB.out.drewN nq
  obtain ⟨W0, hW0⟩ : ∃ W0, W0 = (w.alloc (.cells #[.int .i64 x.it.k, .int .u8 x.it.wh, .int .u8 x.it.st, .int .i64 x.it.ad, .int .i64 x.it.ln, .int .i64 x.it.ar, .bool x.it.bad, .int .i64 x.st, .int .i64 x.n] 51)).drewN nq := ⟨_, rfl⟩
  have y0 : W0.cell? ⟨w.heap.size, 0, none⟩ = some (.int .i64 x.it.k) := by rw [hW0]; exact hx.cell 0
  have y1 : W0.cell? ⟨w.heap.size, 1, none⟩ = some (.int .u8 x.it.wh) := by rw [hW0]; exact hx.cell 1
  have y2 : W0.cell? ⟨w.heap.size, 2, none⟩ = some (.int .u8 x.it.st) := by rw [hW0]; exact hx.cell 2
  have y3 : W0.cell? ⟨w.heap.size, 3, none⟩ = some (.int .i64 x.it.ad) := by rw [hW0]; exact hx.cell 3
  have y4 : W0.cell? ⟨w.heap.size, 4, none⟩ = some (.int .i64 x.it.ln) := by rw [hW0]; exact hx.cell 4
  have y5 : W0.cell? ⟨w.heap.size, 5, none⟩ = some (.int .i64 x.it.ar) := by rw [hW0]; exact hx.cell 5
  have y6 : W0.cell? ⟨w.heap.size, 6, none⟩ = some (.bool x.it.bad) := by rw [hW0]; exact hx.cell 6
  have y7 : W0.cell? ⟨w.heap.size, 7, none⟩ = some (.int .i64 x.st) := by rw [hW0]; exact hx.cell 7
  have y8 : W0.cell? ⟨w.heap.size, 8, none⟩ = some (.int .i64 x.n) := by rw [hW0]; exact hx.cell 8
  have q0 : W0.cell? ⟨b, 0, none⟩ = some (.slice A l.length c) := by rw [hW0]; exact k0
  have hB0 : Blk W0 b 80 #[.slice A l.length c, .int .i64 lim, .int .i64 dr] := by rw [hW0]; exact HB.out.drewN nq
  have hK0 : Keeps (OwnQ b (.slice A l.length c)) w W0 := by rw [hW0]; exact ((Keeps.refl _ w).alloc _).drew nq
  have hR0 : RowZ 9 W0 (.slice A l.length c) l.length (Fc.L l) := by rw [hW0]; exact (H.out.2.1.alloc _).drewN nq
  have hsz0 : w.heap.size ≤ W0.heap.size := hK0.size
  rw [← hW0]
  clear hW0 hx c0 c1 k0 k1 f0
  have hrow : RowZ 9 (W0.alloc (.cells #[.int .i64 x.it.k, .int .u8 x.it.wh, .int .u8 x.it.st, .int .i64 x.it.ad, .int .i64 x.it.ln, .int .i64 x.it.ar, .bool x.it.bad, .int .i64 x.st, .int .i64 x.n] 51)).drew (.slice A l.length c) l.length (Fc.L l) := (hR0.alloc _).drewN 1
  have hsrc : Src Try.prog 9 48 (.slice (some ⟨W0.heap.size, 0, none⟩) 1 1) 1 (Fc.C x) (W0.alloc (.cells #[.int .i64 x.it.k, .int .u8 x.it.wh, .int .u8 x.it.st, .int .i64 x.it.ad, .int .i64 x.it.ln, .int .i64 x.it.ar, .bool x.it.bad, .int .i64 x.st, .int .i64 x.n] 51)).drew := Src.ofSlice _ Try.underlying48 _ _ _ _ rfl (Fc.news W0 x) (Fc.C_cell x)
  obtain ⟨v', w', hk, hr, hg, ho⟩ := run_pushZ (P := Try.prog) _ 48 51 48 i0 _ 64 Try.underlying48 hi0 hz0 hz1 hz2 (by omega) rfl _ _ _ hrow (Fc.L_cell l) _ _ hsrc hn
  have hb0 := (hB0.alloc (.cells #[.int .i64 x.it.k, .int .u8 x.it.wh, .int .u8 x.it.st, .int .i64 x.it.ad, .int .i64 x.it.ln, .int .i64 x.it.ar, .bool x.it.bad, .int .i64 x.st, .int .i64 x.n] 51)).drewN 1
  have hb1 := hb0.only hg (fun e => H.out.2.2 e.symm)
  have d0 : w'.cell? ⟨b, 0, none⟩ = some (.slice A l.length c) := hb1.cell 0
  have e0 := hb1.free 0
  have hne : v'.ownBlock ≠ some b := by
    rcases ho with ho | ho
    · rw [ho]
      exact H.out.2.2
    · rw [ho]
      intro q
      injection q with q
      exact absurd hb0.lt (by rw [← q]; exact Nat.lt_irrefl _)
  have fin : Fc.QueN w b (.slice A l.length c) lim (w'.setCell ⟨b, 0, none⟩ v') (l ++ [x]) dr := by
    refine ⟨_, ⟨hb1.put 0 _, ?_, hne⟩, Keeps.put (Keeps.trans ((hK0.alloc _).drew 1) (Keeps.of_only hg (fun k hk => .inr hk))) (.inl (.inl rfl)) _, ?_⟩
    · rw [Fc.L_app, Fc.L_one, List.length_append]
      exact hr.put hne _
    · rintro i (rfl | hi)
      · exact .inl (.inl rfl)
      · rcases ho with ho | ho
        · exact .inl (.inr (ho ▸ hi))
        · rw [ho] at hi
          injection hi with hi
          exact .inr (by simp at hi; omega)
  obtain ⟨A', c', rfl⟩ := hr.form
  have FIN := Lib.hid fin
  have HK := Lib.hid hk
  clear fin hne hb0 hb1 ho hg hr hrow hsrc hk hB0 hK0 hR0
  have q1 := Go.Lib.cell?_alloc_some (.cells #[.int .i64 x.it.k, .int .u8 x.it.wh, .int .u8 x.it.st, .int .i64 x.it.ad, .int .i64 x.it.ln, .int .i64 x.it.ar, .bool x.it.bad, .int .i64 x.st, .int .i64 x.n] 51) q0
  go_wp2
  go_region_law (refine Zz.step_app rfl (.tmp 28) (.tmp 30) 48 rfl HK.out rfl rfl ?_)
  all_goals
    go_wp2
    go_ret
    exact ⟨rfl, FIN.out⟩
end
end Go.Proofs.Ytkiifafocmjfkaa

/- Queues of Qu.Cl: let, Clone, Take, Peek, Pop: their contracts. -/
namespace Go.Proofs.Ytkiifafocmjfkaa
open Go.RowKit Go.Lib
set_option linter.unusedVariables false

theorem Fc.zero (w : World) : (zeroValue 51).run Try.prog w = .ok (.agg #[.int .i64 0, .int .u8 0, .int .u8 0, .int .i64 0, .int .i64 0, .int .i64 0, .bool false, .int .i64 0, .int .i64 0]) w := by
  obtain ⟨i0, hi0, hz0, _, _⟩ := info_parts Fc.info
  simp [zeroValue, typeInfo, hi0, hz0]
theorem Fc.zcells (n : Nat) : (Builtin.zeroCells (Value.agg #[.int .i64 0, .int .u8 0, .int .u8 0, .int .i64 0, .int .i64 0, .int .i64 0, .bool false, .int .i64 0, .int .i64 0]).cells n).toList.length = n * 9 := Qu.zc_len _ n 9 rfl
theorem Fc.zone (n : Nat) : ∀ u ∈ (Builtin.zeroCells (Value.agg #[.int .i64 0, .int .u8 0, .int .u8 0, .int .i64 0, .int .i64 0, .int .i64 0, .bool false, .int .i64 0, .int .i64 0]).cells n).toList, u.oneCell' = true := Qu.zc_one _ n (by
  intro i hi
  have hi' : i < 9 := hi
  have : i = 0 ∨ i = 1 ∨ i = 2 ∨ i = 3 ∨ i = 4 ∨ i = 5 ∨ i = 6 ∨ i = 7 ∨ i = 8 := by omega
  rcases this with rfl | rfl | rfl | rfl | rfl | rfl | rfl | rfl | rfl <;> rfl)
section
variable {w : World} {b : Nat} {v : Value} {l : List Qu.Cl} {lim dr : Nat}
set_option maxRecDepth 20000 in
set_option maxHeartbeats 1600000 in
theorem Fc.let_any (n : Nat) (h : Fc.Que w b v l lim dr) (h0 : 0 < n) (hi : n ≤ l.length) (hn : l.length ≤ 1000000) :
    Calls Try.prog 44 #[.pointer (some ⟨b, 0, none⟩), .int .i64 n] w fun e w' => e = .returned (.tuple #[]) ∧ Fc.QueN w b v lim w' (l.drop n) dr := by
  have c0 : w.cell? ⟨b, 0, none⟩ = some v := h.1.cell 0
  have hB := h.1
  have hob := h.2.2
  obtain ⟨hxl, hz | ⟨g, off, cap, rfl, h2, h3, h4, h5, h6⟩⟩ := h.2.1
  · omega
  · have hgb : g ≠ b := by intro e; subst e; exact hob rfl
    have hR := RowZ.cleared (w := w) (Builtin.zeroCells (Value.agg #[.int .i64 0, .int .u8 0, .int .u8 0, .int .i64 0, .int .i64 0, .int .i64 0, .bool false, .int .i64 0, .int .i64 0]).cells n).toList hxl (k := n) (Fc.zcells n) h2 h3 h4 h5 h6 hi
    have hns : n * 9 ≤ cap * 9 := Nat.mul_le_mul_right 9 (by omega)
    have hk := run_clear_sized (P := Try.prog) w 48 51 0 (.agg #[.int .i64 0, .int .u8 0, .int .u8 0, .int .i64 0, .int .i64 0, .int .i64 0, .bool false, .int .i64 0, .int .i64 0]) Try.underlying48 Fc.zero g off n cap h0 (Fc.zone n) (by rw [Fc.zcells]; intro j hj; exact (h5 j (by omega)).1) (by rw [Fc.zcells]; intro j hj; exact (h5 j (by omega)).2)
    have hg := only_cells w g off (Builtin.zeroCells (Value.agg #[.int .i64 0, .int .u8 0, .int .u8 0, .int .i64 0, .int .i64 0, .int .i64 0, .bool false, .int .i64 0, .int .i64 0]).cells n).toList
    generalize w.setCells g off (Builtin.zeroCells (Value.agg #[.int .i64 0, .int .u8 0, .int .u8 0, .int .i64 0, .int .i64 0, .int .i64 0, .bool false, .int .i64 0, .int .i64 0]).cells n).toList = w1 at *
    have hB1 := hB.only hg (by simpa using Ne.symm hgb)
    have d0 : w1.cell? ⟨b, 0, none⟩ = some (.slice (some ⟨g, off, none⟩) l.length cap) := hB1.cell 0
    have e0 := hB1.free 0
    rw [Fc.L_drop l n hi] at hR
    have hld : (l.drop n).length = l.length - n := List.length_drop ..
    have fin : Fc.QueN w b (.slice (some ⟨g, off, none⟩) l.length cap) lim (w1.setCell ⟨b, 0, none⟩ (.slice (some ⟨g, off + n * 9, none⟩) (l.length - n) (cap - n))) (l.drop n) dr :=
      ⟨_, ⟨hB1.put 0 _, by rw [hld]; exact hR.put (by simpa [Value.ownBlock] using hgb) _, by simpa [Value.ownBlock] using hgb⟩, (Keeps.of_only hg (fun k hk => .inr (by simpa [Value.ownBlock] using hk))).put (.inl (.inl rfl)) _, fun i hi => .inl (by simpa [OwnQ, Value.ownBlock] using hi)⟩
    have FIN := Lib.hid fin
    have fin2 : cap = n → Fc.QueN w b (.slice (some ⟨g, off, none⟩) l.length cap) lim (w1.setCell ⟨b, 0, none⟩ (.slice (some ⟨g, off, none⟩) (l.length - n) 0)) (l.drop n) dr := by
      intro e
      have hl : l.drop n = [] := List.drop_eq_nil_of_le (by omega)
      have hz : l.length - n = 0 := by omega
      rw [hl, hz]
      exact ⟨_, ⟨hB1.put 0 _, (RowZ.empty 9 off (Nat.lt_of_lt_of_le h4 hg.size)).put (by simpa [Value.ownBlock] using hgb) _, by simpa [Value.ownBlock] using hgb⟩, (Keeps.of_only hg (fun k hk => .inr (by simpa [Value.ownBlock] using hk))).put (.inl (.inl rfl)) _, fun i hi => .inl (by simpa [OwnQ, Value.ownBlock] using hi)⟩
    have FIN2 := Lib.hid fin2
    have hnc : n ≤ cap := by omega
    have i1 : (n : Int) ≤ (cap : Int) := by omega
    have i2 : (n : Int) ≤ (l.length : Int) := by omega
    have i3 : (l.length : Int) ≤ (cap : Int) := by omega
    clear fin fin2 hR hB hB1 h h5 h6 hg hxl hld hns
    go_enter Try.func44, Try.ntmps44
    go_wp2_with (at_builtin; refine wpList_clear_eq rfl (.tmp 9) 48 rfl hk rfl ?_)
    · subst h
      go_end0
      exact ⟨rfl, FIN2.out rfl⟩
    · go_end0
      exact ⟨rfl, FIN.out⟩
theorem Fc.eq_nil (w : World) : (binOp BinOp.eql 48 (.slice none 0 0) (.slice none 0 0)).run Try.prog w = .ok (.bool true) w := by kernel_rfl
theorem Fc.eq_some (g o n cap : Nat) (w : World) : (binOp BinOp.eql 48 (.slice (some ⟨g, o, none⟩) n cap) (.slice none 0 0)).run Try.prog w = .ok (.bool false) w := by kernel_rfl
/-- What a clone answers. -/
def Fc.Clo (w : World) (l : List Qu.Cl) (v' : Value) (w' : World) : Prop := RowZ 9 w' v' l.length (Fc.L l) ∧ (∀ i, v'.ownBlock = some i → w.heap.size ≤ i) ∧ w.grownBy w' none
set_option maxRecDepth 100000 in
theorem Fc.clone_any (l : List Qu.Cl) (v : Value) (w : World) (h : RowZ 9 w v l.length (Fc.L l)) (hn : l.length ≤ 1000) : Calls Try.prog 43 #[v] w fun r w' => ∃ v', r = .returned v' ∧ Fc.Clo w l v' w' := by
  obtain ⟨i0, hi0, hz0, hz1, hz2⟩ := info_parts Fc.info
  have H := Lib.hid h
  rcases h.2 with ⟨rfl, hz⟩ | ⟨g, off, cap, rfl, hcap, hm, hlt, _⟩
  · have hs := Fc.eq_nil w
    have hl0 : l = [] := List.eq_nil_of_length_eq_zero hz
    subst hl0
    clear h hz
    go_enter Try.func43, Try.ntmps43
    go_wp2
    go_ret
    exact ⟨.slice none 0 0, rfl, RowZ.nil _ _, fun i hi => by simp [Value.ownBlock] at hi, only_refl _ _⟩
  · have hs := Fc.eq_some g off l.length cap w
    have hsrc := (H.out.alloc (.cells #[] 51)).src (P := Try.prog) 48 51 Try.underlying48 (Fc.L_cell l)
    obtain ⟨v', w', hk, hr, hb, ho, A', c', rfl⟩ := run_allZ (P := Try.prog) (w.alloc (.cells #[] 51)) 48 51 48 i0 _ 64 Try.underlying48 hi0 hz0 hz1 hz2 (by omega) rfl w.heap.size l.length (by simp) _ _ hsrc (by omega)
    have HK := Lib.hid hk
    have HR := Lib.hid hr
    have HB := Lib.hid (only_trans (only_alloc (only_refl w none) _) hb)
    have HO := Lib.hid ho
    clear hk hr hb ho hsrc h
    go_enter Try.func43, Try.ntmps43
    go_wp2_with (at_builtin; refine wpList_append_eq rfl (.tmp 5) (.tmp 6) 48 rfl HK.out rfl rfl ?_)
    go_ret
    refine ⟨.slice (some A') l.length c', rfl, HR.out, fun i hi => ?_, HB.out⟩
    rcases HO.out with ho | ho
    · rw [ho] at hi
      injection hi with hi
      omega
    · rw [ho] at hi
      injection hi with hi
      simp at hi
      omega
theorem Fc.first {g off cap n : Nat} (h : RowZ 9 w (.slice (some ⟨g, off, none⟩) l.length cap) l.length (Fc.L l)) (hn : n ≤ l.length) : RowZ 9 w (.slice (some ⟨g, off, none⟩) n cap) (l.take n).length (Fc.L (l.take n)) := by
  have hl : (l.take n).length = n := by rw [List.length_take, Nat.min_eq_left hn]
  have hh : Fc.L l = Fc.L (l.take n) ++ Fc.L (l.drop n) := by rw [← Fc.L_app, List.take_append_drop]
  rcases h.2 with ⟨e, e0⟩ | ⟨g', off', cap', e, h2, h3, h4, h5, h6⟩
  · cases e
  · injection e with e1 e2 e3
    injection e1 with e1
    injection e1 with e4 e5
    subst e4 e5 e3
    rw [hl]
    refine ⟨by rw [Fc.L_len, hl], .inr ⟨g, off, cap, rfl, by omega, h3, h4, h5, fun j u hu => h6 j u ?_⟩⟩
    rw [hh, List.getElem?_append_left (List.getElem?_eq_some_iff.1 hu).1]
    exact hu
theorem Fc.take_0 (n : Int) (h : Fc.Que w b v l lim dr) (hn : n < 1) : Calls Try.prog 34 #[.pointer (some ⟨b, 0, none⟩), .int .i64 n] w fun e w' => e = .returned (.slice none 0 0) ∧ w = w' := by
  have HL := Lib.hid (Fc.len_any h)
  have i1 : ¬ (l.length : Int) < n := by omega
  have i2 : n ≤ (l.length : Int) := by omega
  clear h
  go_enter Try.func34, Try.ntmps34
  go_wp2_with (go_at_call 35; (with_reducible refine HL.out.mono ?_); rintro e w' ⟨rfl, rfl⟩)
  go_ret
  exact ⟨rfl, rfl⟩
set_option maxHeartbeats 1600000 in
theorem Fc.take_n (n : Nat) (h : Fc.Que w b v l lim dr) (h0 : 0 < n) (hn : n ≤ l.length) (hl : l.length ≤ 1000) : Calls Try.prog 34 #[.pointer (some ⟨b, 0, none⟩), .int .i64 n] w fun e w' => ∃ out, e = .returned out ∧ RowZ 9 w' out n (Fc.L (l.take n)) ∧ (∀ i, out.ownBlock = some i → w.heap.size ≤ i) ∧ Fc.QueN w b v lim w' (l.drop n) dr := by
  have HL := Lib.hid (Fc.len_any h)
  have c0 : w.cell? ⟨b, 0, none⟩ = some v := h.1.cell 0
  have H := Lib.hid h
  have hlen : (l.take n).length = n := by rw [List.length_take, Nat.min_eq_left hn]
  rcases h.2.1.2 with ⟨rfl, hz⟩ | ⟨g, off, cap, rfl, hcap, hm, hlt, _⟩
  · omega
  · have HC := Lib.hid (Fc.clone_any (l.take n) (.slice (some ⟨g, off, none⟩) n cap) w (Fc.first h.2.1 hn) (by omega))
    have HLT := Lib.hid (fun (w1 : World) (q : Fc.Que w1 b (.slice (some ⟨g, off, none⟩) l.length cap) l lim dr) => Fc.let_any n q h0 hn (by omega))
    have i1 : ¬ (l.length : Int) < (n : Int) := by omega
    have i2 : (n : Int) ≤ (l.length : Int) := by omega
    have i3 : ¬ (n : Int) < 1 := by omega
    have i4 : (n : Int) ≤ (cap : Int) := by omega
    have i5 : (0 : Int) < (n : Int) := by omega
    have i6 : n ≤ cap := by omega
    have HLN := Lib.hid hlen
    clear h hlen hm hlt hl hn h0
    go_enter Try.func34, Try.ntmps34
    go_wp2_with (first
      | (go_at_call 35; (with_reducible refine HL.out.mono ?_); rintro e w' ⟨rfl, rfl⟩)
      | (go_at_call 43; (with_reducible refine HC.out.mono ?_); rintro e w1 ⟨out, rfl, r1, o1, g1⟩; have R1 := Lib.hid r1; have O1 := Lib.hid o1; have G1 := Lib.hid g1; have Q1 := Lib.hid (H.out.grown g1); clear r1 o1 g1)
      | (go_at_call 44; (with_reducible refine (HLT.out _ Q1.out).mono ?_); rintro e w2 ⟨rfl, q2⟩; have Q2 := Lib.hid q2; clear q2))
    go_ret
    refine ⟨_, rfl, ?_, O1.out, Q2.out.before G1.out⟩
    have hr := R1.out
    rw [HLN.out] at hr
    obtain ⟨v', q1, q2, q3⟩ := Q2.out
    refine hr.keeps q2 fun i hi hn => ?_
    have := O1.out i hi
    have := H.out.lt i hn
    omega
end
end Go.Proofs.Ytkiifafocmjfkaa

/- A queue of requests and of such as1 are done, in memory; Settle. -/
namespace Go.Proofs.Ytkiifafocmjfkaa
open Go.RowKit Go.Lib Go.Shelf
attribute [local go_sem] Oper.semAt_some
set_option linter.unusedVariables false

set_option maxHeartbeats 1000000 in
theorem Qu.all_in (n : Nat) (p : Option Addr) (w : World) :
    CallsIn Fence.wide n Try.prog 29 #[.pointer p] w fun e w' => e = .returned (.func (.func 40) #[] #[.pointer (some ⟨w.heap.size, 0, none⟩)]) ∧ w' = w.alloc (.cells #[.pointer p] 54) := by
  refine callsIn_of_wp Try.func29 rfl trivial ?_ rfl
  simp only [Try.ntmps29, List.size_toArray, List.length_cons, List.length_nil, Nat.reduceAdd, Nat.reduceSub, Array.replicate_succ, Array.replicate_zero, List.push_toArray, List.append_toArray, List.nil_append, List.cons_append]
  gi_wp2
  go_ret
  exact ⟨rfl, rfl⟩
theorem Qu.all_stops (n : Nat) (hn : 1 ≤ n) (Bs b lim dr : Nat) (P : Nat → Prop) (v : Value) (L : List Qu.It) (hL : L.length ≤ 100000) (w : World)
    (hc : w.cell? ⟨Bs, 0, none⟩ = some (.pointer (some ⟨b, 0, none⟩))) (hQ : Fi.Que w b v L lim dr) (hP : ∀ i, P i ↔ OwnQ b v i ∨ i = Bs) :
    SeqStopsK Fence.wide n Try.prog 40 #[.pointer (some ⟨Bs, 0, none⟩)] (fun x : Nat × Qu.It => #[.int .i64 (x.1 : Int), .agg #[.int .i64 x.2.k, .int .u8 x.2.wh, .int .u8 x.2.st, .int .i64 x.2.ad, .int .i64 x.2.ln, .int .i64 x.2.ar, .bool x.2.bad]]) (Qu.Kp P) (fun ys => ys = Qu.placed L L.length)
      (fun pre => ∃ k, k ≤ L.length ∧ pre = Qu.placed L k) L.length w := fun l J Jx W hW hJ _ hY h0 =>
  Qu.all1_in n hn l Bs b lim dr P v L hL J Jx W ((hW.cell (p := ⟨Bs, 0, none⟩) (block_lt_of_cell hc)).trans hc) (hQ.keeps (Keeps.of_below hW (fun _ => False)) (fun _ _ h => h)) hP hJ hY h0

/-- The blocks of a queue. -/
def Qu.Ft (q bw bd : Nat) (vw vd : Value) (i : Nat) : Prop := i = q ∨ OwnQ bw vw i ∨ OwnQ bd vd i
/-- A queue in memory: what waits, what is done, the limit. -/
structure Qu.Qv (w : World) (q bw bd : Nat) (vw vd : Value) (W : List Qu.It) (D : List Qu.Cl) (lim : Nat) : Prop where
  blk : Blk w q 59 #[.pointer (some ⟨bw, 0, none⟩), .pointer (some ⟨bd, 0, none⟩)]
  wq : Fi.Que w bw vw W lim 0
  dq : Fc.Que w bd vd D lim 0
  j1 : ¬ OwnQ bw vw q
  j2 : ¬ OwnQ bd vd q
  j3 : ∀ i, OwnQ bw vw i → ¬ OwnQ bd vd i
  sm : W.length + D.length ≤ lim
  l16 : lim ≤ 16
/-- What a call that writes a queue leaves. -/
def Qu.N (w : World) (q bw bd : Nat) (vw vd : Value) (w' : World) (W : List Qu.It) (D : List Qu.Cl) (lim : Nat) : Prop :=
  ∃ vw' vd', Qu.Qv w' q bw bd vw' vd' W D lim ∧ Keeps (Qu.Ft q bw bd vw vd) w w' ∧ ∀ i, Qu.Ft q bw bd vw' vd' i → Qu.Ft q bw bd vw vd i ∨ w.heap.size ≤ i
section
variable {w w' : World} {q bw bd lim : Nat} {vw vd : Value} {W W' : List Qu.It} {D D' : List Qu.Cl}
theorem Qu.Qv.lt (h : Qu.Qv w q bw bd vw vd W D lim) : ∀ i, Qu.Ft q bw bd vw vd i → i < w.heap.size := by
  rintro i (rfl | hi | hi)
  · exact h.blk.lt
  · exact h.wq.lt i hi
  · exact h.dq.lt i hi
theorem Qu.Qv.keeps {S : Nat → Prop} (h : Qu.Qv w q bw bd vw vd W D lim) (k : Keeps S w w') (hn : ∀ i, Qu.Ft q bw bd vw vd i → ¬ S i) : Qu.Qv w' q bw bd vw vd W D lim :=
  ⟨h.blk.keeps k (hn q (.inl rfl)), h.wq.keeps k (fun i hi => hn i (.inr (.inl hi))), h.dq.keeps k (fun i hi => hn i (.inr (.inr hi))), h.j1, h.j2, h.j3, h.sm, h.l16⟩
theorem Qu.Qv.grown (h : Qu.Qv w q bw bd vw vd W D lim) (g : w.grownBy w' none) : Qu.Qv w' q bw bd vw vd W D lim := h.keeps (S := fun _ => False) (Keeps.of_only g (by simp)) (fun _ _ h => h)
theorem Qu.N.stay (h : Qu.Qv w q bw bd vw vd W D lim) : Qu.N w q bw bd vw vd w W D lim := ⟨vw, vd, h, Keeps.refl _ _, fun i hi => .inl hi⟩
theorem Qu.N.grown (h : Qu.Qv w q bw bd vw vd W D lim) (g : w.grownBy w' none) : Qu.N w q bw bd vw vd w' W D lim := ⟨vw, vd, h.grown g, Keeps.of_only g (by simp), fun i hi => .inl hi⟩
theorem Qu.N.before {w0 : World} (g : w0.grownBy w none) (h : Qu.N w q bw bd vw vd w' W D lim) : Qu.N w0 q bw bd vw vd w' W D lim := by
  obtain ⟨a, b, h1, h2, h3⟩ := h
  exact ⟨a, b, h1, (Keeps.of_only g (by simp)).trans h2, fun i hi => (h3 i hi).imp id (fun h => Nat.le_trans g.size h)⟩
theorem Qu.N.behind {w2 : World} (h : Qu.N w q bw bd vw vd w' W D lim) (g : w'.grownBy w2 none) : Qu.N w q bw bd vw vd w2 W D lim := by
  obtain ⟨a, b, h1, h2, h3⟩ := h
  exact ⟨a, b, h1.grown g, h2.trans (Keeps.of_only g (by simp)), h3⟩
/-- One call behind another. -/
theorem Qu.N.trans {w2 : World} {W2 : List Qu.It} {D2 : List Qu.Cl} {vw1 vd1 : Value} (h1 : Keeps (Qu.Ft q bw bd vw vd) w w') (h2 : ∀ i, Qu.Ft q bw bd vw1 vd1 i → Qu.Ft q bw bd vw vd i ∨ w.heap.size ≤ i) (h : Qu.N w' q bw bd vw1 vd1 w2 W2 D2 lim) : Qu.N w q bw bd vw vd w2 W2 D2 lim := by
  obtain ⟨a, b, k1, k2, k3⟩ := h
  refine ⟨a, b, k1, ?_, fun i hi => (k3 i hi).elim (h2 i) (fun h => .inr (Nat.le_trans h1.size h))⟩
  exact ⟨k2.1.trans h1.1, k2.2.1.trans h1.2.1, k2.2.2.1.trans h1.2.2.1, Nat.le_trans h1.size k2.size, fun i hi hn => (k2.2.2.2.2 i (Nat.lt_of_lt_of_le hi h1.size) (fun hs => (h2 i hs).elim hn (fun h => by omega))).trans (h1.2.2.2.2 i hi hn)⟩
/-- What waits was changed alone. -/
theorem Qu.Qv.putW (h : Qu.Qv w q bw bd vw vd W D lim) (hN : Fi.QueN w bw vw lim w' W' 0) (hs : W'.length + D.length ≤ lim) : Qu.N w q bw bd vw vd w' W' D lim := by
  obtain ⟨v', h1, h2, h3⟩ := hN
  refine ⟨v', vd, ⟨h.blk.keeps h2 h.j1, h1, h.dq.keeps h2 (fun i hi hn => h.j3 i hn hi), fun hq => ?_, h.j2, fun i hi hd => ?_, hs, h.l16⟩, h2.mono (fun i _ hi => .inr (.inl hi)), ?_⟩
  · rcases h3 q hq with e | e
    · exact h.j1 e
    · exact absurd h.blk.lt (by omega)
  · rcases h3 i hi with e | e
    · exact h.j3 i e hd
    · exact absurd (h.dq.lt i hd) (by omega)
  · rintro i (e | hi | hi)
    · exact .inl (.inl e)
    · exact (h3 i hi).imp (fun e => .inr (.inl e)) id
    · exact .inl (.inr (.inr hi))
/-- What is done was changed alone. -/
theorem Qu.Qv.putD (h : Qu.Qv w q bw bd vw vd W D lim) (hN : Fc.QueN w bd vd lim w' D' 0) (hs : W.length + D'.length ≤ lim) : Qu.N w q bw bd vw vd w' W D' lim := by
  obtain ⟨v', h1, h2, h3⟩ := hN
  refine ⟨vw, v', ⟨h.blk.keeps h2 h.j2, h.wq.keeps h2 (fun i hi hn => h.j3 i hi hn), h1, h.j1, fun hq => ?_, fun i hi hd => ?_, hs, h.l16⟩, h2.mono (fun i _ hi => .inr (.inr hi)), ?_⟩
  · rcases h3 q hq with e | e
    · exact h.j2 e
    · exact absurd h.blk.lt (by omega)
  · rcases h3 i hd with e | e
    · exact h.j3 i hi e
    · exact absurd (h.wq.lt i hi) (by omega)
  · rintro i (e | hi | hi)
    · exact .inl (.inl e)
    · exact .inl (.inr (.inl hi))
    · exact (h3 i hi).imp (fun e => .inr (.inr e)) id
end
end Go.Proofs.Ytkiifafocmjfkaa

/- Settle: what is wrong at the front is done. -/
namespace Go.Proofs.Ytkiifafocmjfkaa
open Go.RowKit Go.Lib Go.Shelf
attribute [local go_sem] Oper.semAt_some
set_option linter.unusedVariables false

theorem Qu.isC {w : World} {b lim dr : Nat} {v : Value} {l : List Qu.Cl} (h : Fc.Que w b v l lim dr) (hl : 0 < l.length) {i : Nat} (hi : v.ownBlock = some i) : ∃ o : Obj, w.heap[i]? = some o ∧ o.isCells = true := by
  rcases h.2.1.2 with ⟨e, hz⟩ | ⟨g, off, cap, rfl, h2, h3, h4, h5, h6⟩
  · omega
  · simp [Value.ownBlock] at hi
    subst hi
    have := (h5 0 (by omega)).1
    simp only [World.cell?] at this
    cases ho : w.heap[g]? with
    | none => simp [ho] at this
    | some o =>
      refine ⟨o, rfl, ?_⟩
      rw [ho] at this
      cases o <;> first | rfl | (simp at this)
/-- A bad request as1 it is done. -/
def Qu.wr (x : Qu.It) : Qu.Cl := ⟨x, 2, 0⟩
/-- A request's cells. -/
def Qu.cs (x : Qu.It) : Array Value := #[.int .i64 x.k, .int .u8 x.wh, .int .u8 x.st, .int .i64 x.ad, .int .i64 x.ln, .int .i64 x.ar, .bool x.bad]
/-- What the loop of Settle holds between two rounds; n's cell lies in nb, the receiver's in qb. -/
structure Qu.SI (W3 : World) (q bw bd qb nb lim : Nat) (vw vd : Value) (D : List Qu.Cl) (pre : List (Nat × Qu.It)) (W' : World) : Prop where
  bads : ∀ p ∈ pre, p.2.bad = true
  b1 : Blk W' qb 23 #[.pointer (some ⟨q, 0, none⟩)]
  b2 : Blk W' nb 3 #[.int .i64 (pre.length : Int)]
  bk : Blk W' q 59 #[.pointer (some ⟨bw, 0, none⟩), .pointer (some ⟨bd, 0, none⟩)]
  ks : Keeps (fun i => OwnQ bd vd i ∨ i = nb) W3 W'
  v : ∃ vd', Fc.Que W' bd vd' (D ++ pre.map fun p => Qu.wr p.2) lim 0 ∧ (∀ i, OwnQ bd vd' i → OwnQ bd vd i ∨ W3.heap.size ≤ i) ∧ (pre = [] → vd' = vd)
/-- Where all this lies. -/
structure Qu.SP (W3 : World) (q bw bd qb nb : Nat) (vw vd : Value) : Prop where
  l1 : ∀ i, OwnQ bd vd i → i < W3.heap.size ∧ i ≠ qb ∧ i ≠ nb ∧ i ≠ q
  l2 : ∀ i, OwnQ bw vw i → i < W3.heap.size ∧ i ≠ qb ∧ i ≠ nb ∧ i ≠ q ∧ ¬ OwnQ bd vd i
  l3 : qb < W3.heap.size ∧ nb < W3.heap.size ∧ q < W3.heap.size
  l4 : qb ≠ nb ∧ qb ≠ q ∧ nb ≠ q
section
variable {W3 W W' : World} {q bw bd qb nb lim : Nat} {vw vd : Value} {D : List Qu.Cl} {pre : List (Nat × Qu.It)}
theorem Qu.SI.fresh (h : Qu.SI W3 q bw bd qb nb lim vw vd D pre W) (p : Qu.SP W3 q bw bd qb nb vw vd) {vd' : Value} (hq : Fc.Que W bd vd' (D ++ pre.map fun p => Qu.wr p.2) lim 0) (hf : ∀ i, OwnQ bd vd' i → OwnQ bd vd i ∨ W3.heap.size ≤ i) (he : pre = [] → vd' = vd)
    {i : Nat} (hi : OwnQ bd vd' i) (hB : W3.heap.size ≤ i) : ∃ o : Obj, W.heap[i]? = some o ∧ o.isCells = true := by
  rcases hi with rfl | hi
  · have := (p.l1 _ (.inl rfl)).1
    omega
  · refine Qu.isC hq ?_ hi
    cases pre with
    | nil =>
      rw [he rfl] at hi
      have := (p.l1 i (.inr hi)).1
      omega
    | cons x l => simp; omega
theorem Qu.SI.own (p : Qu.SP W3 q bw bd qb nb vw vd) : OwnFrom W3.heap.size (Qu.SI W3 q bw bd qb nb lim vw vd D) := fun pre W W' row h hg hr => by
  have k : Keeps (fun i => row = some i) W W' := Keeps.of_only hg (fun _ e => e)
  have hn : ∀ i, i < W3.heap.size → ¬ row = some i := fun i hi e => by have := (hr i e).1; omega
  obtain ⟨vd', h1, h2, h3⟩ := h.v
  refine ⟨h.bads, h.b1.keeps k (hn _ p.l3.1), h.b2.keeps k (hn _ p.l3.2.1), h.bk.keeps k (hn _ p.l3.2.2), ?_, vd', h1.keeps k ?_, h2, h3⟩
  · exact ⟨k.1.trans h.ks.1, k.2.1.trans h.ks.2.1, k.2.2.1.trans h.ks.2.2.1, Nat.le_trans h.ks.size k.size, fun i hi hs => (k.2.2.2.2 i (Nat.lt_of_lt_of_le hi h.ks.size) (hn i hi)).trans (h.ks.2.2.2.2 i hi hs)⟩
  · intro i hi e
    obtain ⟨hB, o, ho, hc⟩ := hr i e
    obtain ⟨o', ho', hc'⟩ := h.fresh p h1 h2 h3 hi hB
    rw [ho] at ho'
    injection ho' with ho'
    subst ho'
    rw [hc] at hc'
    cases hc'
/-- One round: a wrong one is pushed, n is one more. -/
theorem Qu.SI.round (h : Qu.SI W3 q bw bd qb nb lim vw vd D pre W) (p : Qu.SP W3 q bw bd qb nb vw vd) {vd' : Value} (h1 : Fc.Que W bd vd' (D ++ pre.map fun p => Qu.wr p.2) lim 0) (h2 : ∀ i, OwnQ bd vd' i → OwnQ bd vd i ∨ W3.heap.size ≤ i) (h3 : pre = [] → vd' = vd)
    (x : Nat × Qu.It) (hx : x.2.bad = true) (hN : Fc.QueN W bd vd' lim W' ((D ++ pre.map fun p => Qu.wr p.2) ++ [Qu.wr x.2]) 0) :
    Blk W' nb 3 #[.int .i64 (pre.length : Int)] ∧ Qu.SI W3 q bw bd qb nb lim vw vd D (pre ++ [x]) (W'.setCell ⟨nb, 0, none⟩ (.int .i64 ((pre.length : Int) + 1))) ∧
      KeepsFrom W3.heap.size W (W'.setCell ⟨nb, 0, none⟩ (.int .i64 ((pre.length : Int) + 1))) ∧ ∀ P : Nat → Prop, (∀ i, P i → OwnQ bw vw i ∨ (i < W3.heap.size ∧ i ≠ nb ∧ ¬ OwnQ bd vd i)) → Qu.Kp P W (W'.setCell ⟨nb, 0, none⟩ (.int .i64 ((pre.length : Int) + 1))) := by
  obtain ⟨v2, q1, q2, q3⟩ := hN
  have hn : ∀ i, i < W3.heap.size → ¬ OwnQ bd vd i → ¬ OwnQ bd vd' i := fun i hi hs hv => (h2 i hv).elim hs (fun e => by omega)
  have n1 : ¬ OwnQ bd vd' nb := hn _ p.l3.2.1 (fun e => (p.l1 _ e).2.2.1 rfl)
  have b2 := h.b2.keeps q2 n1
  have g := grownBy_setCell' W' nb (.int .i64 ((pre.length : Int) + 1))
  have kp := Keeps.of_only g (S := fun i => i = nb) (fun i e => by injection e with e; exact e.symm)
  have e3 : ∀ i, OwnQ bd v2 i → OwnQ bd vd i ∨ W3.heap.size ≤ i := fun i hi => (q3 i hi).elim (h2 i) (fun e => .inr (Nat.le_trans h.ks.size e))
  have n2 : ¬ OwnQ bd v2 nb := fun e => (e3 _ e).elim (fun e => (p.l1 _ e).2.2.1 rfl) (fun e => by have := p.l3.2.1; omega)
  refine ⟨b2, ⟨?_, ?_, ?_, ?_, ?_, v2, ?_, e3, by simp⟩, ?_, ?_⟩
  · intro y hy
    rcases List.mem_append.1 hy with hy | hy
    · exact h.bads y hy
    · obtain rfl := List.mem_singleton.1 hy
      exact hx
  · exact (h.b1.keeps q2 (hn _ p.l3.1 (fun e => (p.l1 _ e).2.1 rfl))).far p.l4.1 _
  · have := b2.put 0 (.int .i64 ((pre.length : Int) + 1))
    simpa using this
  · exact (h.bk.keeps q2 (hn _ p.l3.2.2 (fun e => (p.l1 _ e).2.2.2 rfl))).far (Ne.symm p.l4.2.2) _
  · refine ⟨kp.1.trans (q2.1.trans h.ks.1), kp.2.1.trans (q2.2.1.trans h.ks.2.1), kp.2.2.1.trans (q2.2.2.1.trans h.ks.2.2.1), Nat.le_trans h.ks.size (Nat.le_trans q2.size kp.size), fun i hi hs => ?_⟩
    have hi1 := Nat.lt_of_lt_of_le hi h.ks.size
    exact ((kp.2.2.2.2 i (Nat.lt_of_lt_of_le hi1 q2.size) (fun e => hs (.inr e))).trans (q2.2.2.2.2 i hi1 (hn i hi (fun e => hs (.inl e))))).trans (h.ks.2.2.2.2 i hi hs)
  · have := q1.keeps kp (fun i hi e => n2 (e ▸ hi))
    simpa using this
  · refine ⟨Nat.le_trans q2.size kp.size, fun i o hB ho hc => ?_⟩
    have hi := (Array.getElem?_eq_some_iff.1 ho).1
    refine ((kp.2.2.2.2 i (Nat.lt_of_lt_of_le hi q2.size) (fun e => by have := p.l3.2.1; omega)).trans (q2.2.2.2.2 i hi (fun e => ?_))).trans ho
    obtain ⟨o', ho', hc'⟩ := h.fresh p h1 h2 h3 e hB
    rw [ho] at ho'
    injection ho' with ho'
    subst ho'
    rw [hc] at hc'
    cases hc'
  · intro P hP
    refine ⟨Nat.le_trans q2.size kp.size, fun i hi => ?_⟩
    have hi' : i < W3.heap.size ∧ i ≠ nb ∧ ¬ OwnQ bd vd i := (hP i hi).elim (fun e => ⟨(p.l2 i e).1, (p.l2 i e).2.2.1, (p.l2 i e).2.2.2.2⟩) id
    have hl := Nat.lt_of_lt_of_le hi'.1 h.ks.size
    exact (kp.2.2.2.2 i (Nat.lt_of_lt_of_le hl q2.size) hi'.2.1).trans (q2.2.2.2.2 i hl (hn i hi'.1 hi'.2.2))
/-- The requests by their places, the first of them wrong ones. -/
theorem Qu.placed_wr (L : List Qu.It) (k : Nat) (hk : k ≤ L.length) : ((Qu.placed L k).map fun p => Qu.wr p.2) = (L.take k).map Qu.wr := by
  refine List.ext_getElem (by simp [Qu.placed]; omega) fun i h1 h2 => ?_
  have : i < L.length := by simp [Qu.placed] at h1; omega
  simp [Qu.placed, this]
theorem Qu.placed_bad (L : List Qu.It) (k : Nat) (hk : k ≤ L.length) (h : ∀ p ∈ Qu.placed L k, p.2.bad = true) : ∀ x ∈ L.take k, x.bad = true := by
  intro x hx
  obtain ⟨i, hi, rfl⟩ := List.getElem_of_mem hx
  have hi' : i < k ∧ i < L.length := by simp at hi; omega
  have := h (i, L[i]?.getD Qu.z) (by simp [Qu.placed]; exact ⟨i, hi'.1, rfl, rfl⟩)
  simpa [hi'.2] using this
end
end Go.Proofs.Ytkiifafocmjfkaa
