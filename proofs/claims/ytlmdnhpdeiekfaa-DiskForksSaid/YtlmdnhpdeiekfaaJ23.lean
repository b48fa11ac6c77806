/- The document's disk: End, where a row is written. -/
import Derived.Test.YtlmdnhpdeiekfaaJ22
import Derived.Deep.Cut
namespace Go.Proofs.Ytlmdnhpdeiekfaa
open Go.RowKit Go.Lib
set_option linter.unusedVariables false

theorem RowZ.set1 {w : World} {g off n c : Nat} {xs : List Value} (h : RowZ 1 w (.slice (some ⟨g, off, none⟩) n c) n xs) (i : Nat) (hi : i < n) (u : Value) : RowZ 1 (w.setCell ⟨g, off + i, none⟩ u) (.slice (some ⟨g, off, none⟩) n c) n (xs.set i u) := by
  have hl := h.1
  rcases h.2 with ⟨h0, _⟩ | ⟨g', off', cap', h1, h2, h3, h4, h5, hc⟩
  · cases h0
  · injection h1 with e1 e2 e3
    injection e1 with e1
    injection e1 with e1 e2
    subst e1 e2 e3
    refine ⟨by simpa using hl, .inr ⟨g, off, c, rfl, h2, h3, by simpa using h4, fun j hj => ?_, fun j v hv => ?_⟩⟩
    · rw [World.frozen?_setCell]
      refine ⟨?_, (h5 j hj).2⟩
      by_cases e : i = j
      · subst e
        obtain ⟨y, hy⟩ := Option.isSome_iff_exists.1 (h5 i hj).1
        rw [World.cell?_setCell_same _ _ _ hy]
        rfl
      · rw [World.cell?_setCell_other _ _ _ _ (by intro q; injection q with _ q2; omega)]
        exact (h5 j hj).1
    · by_cases e : i = j
      · subst e
        have hix : i < xs.length := by omega
        obtain ⟨y, hy⟩ := Option.isSome_iff_exists.1 (h5 i (by omega)).1
        rw [World.cell?_setCell_same _ _ _ hy]
        simp [hix] at hv
        rw [hv]
      · rw [World.cell?_setCell_other _ _ _ _ (by intro q; injection q with _ q2; omega)]
        rw [List.getElem?_set_ne e] at hv
        exact hc j v hv
theorem map_set {n i : Nat} (E : Nat → Value) (u : Value) : (List.range n).map (fun q => if q = i then u else E q) = ((List.range n).map E).set i u := by
  apply List.ext_getElem
  · simp
  · intro j h1 h2
    simp only [List.getElem_map, List.getElem_range, List.getElem_set]
    by_cases e : i = j
    · subst e
      simp
    · rw [if_neg (fun h => e h.symm), if_neg e]
/-- append where its run is known. -/
theorem wpList_app_eq {P : Program} {ops : Array Oper} {Q : Exit → Act → World → Prop} {rest : List Oper} {a : Act} {o : Oper} {w : World} (hg : o.guard = none) (s x : Operand) (t : TypeId) (ho : o.op = .call { callee := .builtin .append, args := #[s, x], argTypes := #[t, t] })
    {v xs v' : Value} {w' : World} (hr : (Builtin.append_ #[t, t] o.type #[v, xs]).run P w = .ok v' w') (hs : a.eval s = v) (hx : a.eval x = xs) (h : wpList P ops Q rest (a.put o.dst v') w') : wpList P ops Q (o :: rest) a w :=
  wpList_plain hg fun K hK => by
    unfold Oper.wp execOp
    simp only [ho, resolve, invoke, builtin, Sem.run_bind, Sem.run_pure, Result.andThen_ok, List.map_toArray, List.map_cons, List.map_nil, hs, hx, hr]
    exact hK _ _ h
/-- The bytes of a row in which a text was written. -/
def wrL (l : List UInt8) (q : Nat) (t : ByteArray) : List UInt8 := l.take q ++ t.data.toList ++ l.drop (q + t.size)
theorem wrL_len {l : List UInt8} {q : Nat} {t : ByteArray} (h : q + t.size ≤ l.length) : (wrL l q t).length = l.length := by
  have : t.data.toList.length = t.size := by rw [Array.length_toList]; rfl
  unfold wrL
  rw [List.length_append, List.length_append, List.length_take, List.length_drop, this]
  omega
/-- What End leaves that wrote a text into row i. -/
def WroteD (A : Option Addr) (n c x : Nat) (bv : Value) (j : Jb) (st : Int) (E : Nat → Value) (L : Nat → List UInt8) (i q : Nat) (t : ByteArray) (w : World) (e : Ending) (w' : World) : Prop :=
  e = .returned (.tuple #[.string ⟨#[]⟩, .int .i64 0]) ∧ ∃ v, RDk w' x (.slice A n c) bv false j st ∧ Bys w' bv n (fun k => if k = i then v else E k) (fun k => if k = i then wrL (L i) q t else L k) ∧ (∀ k, v.ownBlock = some k → w.heap.size ≤ k) ∧ Keeps (fun k => k = x ∨ bv.ownBlock = some k) w w'
set_option maxHeartbeats 1600000 in
theorem wrote_of {A : Option Addr} {n c x : Nat} {j : Jb} {st : Int} {E : Nat → Value} {L : Nat → List UInt8} {i q : Nat} {t : ByteArray} {w W4 : World} {g off c1 : Nat} {v4 : Value} (hi : i < n) (hp : RDk (w.setCell ⟨x, 2, none⟩ (.bool false)) x (.slice A n c) (.slice (some ⟨g, off, none⟩) n c1) false j st) (hb : Bys w (.slice (some ⟨g, off, none⟩) n c1) n E L) (hgx : g ≠ x) (hEx : ∀ q, q < n → (E q).ownBlock ≠ some x) (hq : q + t.size ≤ (L i).length)
    (r4 : RowZ 1 W4 v4 (L i).length (u8L (wrL (L i) q t))) (b4 : Below (w.setCell ⟨x, 2, none⟩ (.bool false)).heap.size (w.setCell ⟨x, 2, none⟩ (.bool false)) W4) (o4 : ∀ k, v4.ownBlock = some k → (w.setCell ⟨x, 2, none⟩ (.bool false)).heap.size ≤ k) :
    WroteD A n c x (.slice (some ⟨g, off, none⟩) n c1) j st E L i q t w (.returned (.tuple #[.string ⟨#[]⟩, .int .i64 0])) (W4.setCell ⟨g, off + i, none⟩ v4) := by
  have hsz : (w.setCell ⟨x, 2, none⟩ (.bool false)).heap.size = w.heap.size := by simp
  have hgw : g < w.heap.size := hb.1.lt g rfl
  have hx : Blk W4 x 54 _ := Blk.below hp b4 (Blk.lt hp)
  have hgo : W4.grownBy (W4.setCell ⟨g, off + i, none⟩ v4) (some g) := only_put (only_refl W4 (some g)) (off + i) v4
  have hbv : RowZ 1 W4 (.slice (some ⟨g, off, none⟩) n c1) n ((List.range n).map E) := (hb.1.put (p := ⟨x, 2, none⟩) (by simpa [Value.ownBlock] using hgx) (.bool false)).below b4 (fun k hk => by simp [Value.ownBlock] at hk; rw [hsz]; omega)
  refine ⟨rfl, v4, hx.only hgo (by simpa using fun e : x = g => hgx e.symm), ⟨?_, fun k hk => ?_⟩, fun k hk => by rw [← hsz]; exact o4 k hk, ?_⟩
  · rw [map_set]
    exact hbv.set1 i hi v4
  · by_cases e : k = i
    · subst e
      simp only [if_pos]
      rw [wrL_len hq]
      refine ⟨r4.put (p := ⟨g, off + k, none⟩) (fun h => ?_) v4, fun m hm h => ?_⟩
      · have := o4 _ h
        simp only at this
        omega
      · have := o4 _ hm
        simp [Value.ownBlock] at h
        omega
    · simp only [if_neg e]
      have hr := ((hb.2 k hk).1.put (p := ⟨x, 2, none⟩) (hEx k hk) (.bool false)).below b4 (fun m hm => by rw [hsz]; exact (hb.2 k hk).1.lt m hm)
      exact ⟨hr.put (p := ⟨g, off + i, none⟩) (fun h => (hb.2 k hk).2 _ h rfl) v4, (hb.2 k hk).2⟩
  · refine Keeps.put ((Keeps.of_only (only_put (only_refl w (some x)) 2 (.bool false)) (fun k hk => ?_)).trans ((Keeps.of_below b4 _).mono (fun _ _ h => h))) (.inl ?_) v4
    · injection hk with hk
      exact .inl hk.symm
    · exact .inr rfl
set_option maxRecDepth 40000 in
set_option maxHeartbeats 6400000 in
theorem rend_write (A : Option Addr) (n c : Nat) (d : Nat → Prt) (o m : Int) (a : Nat) (t : ByteArray) (tick : Int) (w : World) (x : Nat) (bv : Value) (st : Int) (E : Nat → Value) (L : Nat → List UInt8) (i : Nat)
    (h : RDk w x (.slice A n c) bv true (o, a, m, true, t) st) (hst : PrtsV w A n d) (hA : A.map (·.block) ≠ some x) (hn : n ≤ 1000) (hb : Bys w bv n E L) (hbx : bv.ownBlock ≠ some x) (hEx : ∀ q, q < n → (E q).ownBlock ≠ some x) (h0 : 0 ≤ st) (h1 : st ≤ 2147483647) (ht : ¬ tick < st + 3)
    (hi : i < n) (ho : ownD d n o = i) (hk : 0 < t.size) (hak : 16 * a + t.size ≤ (L i).length) (hL : (L i).length ≤ 1024) :
    Calls Try.prog 25 #[.pointer (some ⟨x, 0, none⟩), .int .i64 tick] w (WroteD A n c x bv (o, a, m, true, t) st E L i (16 * a) t w) := by
  have d0 : w.cell? ⟨x, 2, none⟩ = some (.bool true) := Blk.cell h 2
  have f2 := Blk.free h 2
  have d3 : w.cell? ⟨x, 3, none⟩ = some (.int .i64 o) := Blk.cell h 3
  have d4 : w.cell? ⟨x, 4, none⟩ = some (.int .i64 a) := Blk.cell h 4
  have d6 : w.cell? ⟨x, 6, none⟩ = some (.bool true) := Blk.cell h 6
  have d8 : w.cell? ⟨x, 8, none⟩ = some (.int .i64 st) := Blk.cell h 8
  have hp : RDk (w.setCell ⟨x, 2, none⟩ (.bool false)) x (.slice A n c) bv false (o, a, m, true, t) st := Blk.put h 2 (.bool false)
  have HO := Lib.hid (rdown_any A n c d o _ x bv false _ st hp (hst.put (p := ⟨x, 2, none⟩) hA _) hn)
  rw [ho] at HO
  obtain ⟨g, off, c1, rfl, hg, hc, hfr⟩ := hb.at hi
  have hgx : g ≠ x := fun e => hbx (by simp [Value.ownBlock, e])
  have hrow := (hb.2 i hi).1
  have hEi := hEx i hi
  rcases hrow.2 with ⟨_, h9⟩ | ⟨g2, off2, c2, hE, hlc, hcm, hg2, hf, hcc⟩
  · omega
  · rw [hE] at hc hrow hEi
    have hgx2 : g2 ≠ x := fun e => hEi (by simp [Value.ownBlock, e])
    obtain ⟨q, hq⟩ : ∃ q, q = 16 * a := ⟨_, rfl⟩
    obtain ⟨r, hr⟩ : ∃ r, r = q + t.size := ⟨_, rfl⟩
    rw [← hq]
    rw [← hq, ← hr] at hak
    have hxlt : x < w.heap.size := Blk.lt h
    have hsz : (w.setCell ⟨x, 2, none⟩ (.bool false)).heap.size = w.heap.size := by simp
    have hrow2 := hrow.put (p := ⟨x, 2, none⟩) (by simpa [Value.ownBlock] using hgx2) (.bool false)
    have hc2 : (w.setCell ⟨x, 2, none⟩ (.bool false)).cell? ⟨g, off + i, none⟩ = some (.slice (some ⟨g2, off2, none⟩) (L i).length c2) := by
      rw [World.cell?_setCell_other _ _ _ _ (by intro q; injection q with q1; exact hgx q1.symm)]
      exact hc
    have hfr2 : (w.setCell ⟨x, 2, none⟩ (.bool false)).frozen? ⟨g, off + i, none⟩ = false := by
      rw [World.frozen?_setCell]
      exact hfr
    have hA3 : ∃ A3 : Addr, (A3 = ⟨g2, off2 + r, none⟩ ∨ (L i).length = r) ∧ (if c2 = r then some (⟨g2, off2, none⟩ : Addr) else some ⟨g2, off2 + r, none⟩) = some A3 := by
      by_cases e : c2 = r
      · exact ⟨_, .inr (by omega), by rw [if_pos e]⟩
      · exact ⟨_, .inl rfl, by rw [if_neg e]⟩
    obtain ⟨A3, hA3, hA4⟩ := hA3
    obtain ⟨v1, W1, s2, W2, v3, W3, v4, W4, k1, k2, k3, k4, r4, b1, b2, b3, b4, o4⟩ := wr_any (w.setCell ⟨x, 2, none⟩ (.bool false)) g2 off2 c2 q (L i) t hrow2 (by omega) hL A3 (c2 - r) (by rw [← hr]; exact hA3)
    rw [← hr] at k4
    rw [hsz] at k1
    obtain ⟨A4, c4, rfl⟩ := r4.form
    have DONE := Lib.hid (wrote_of hi hp hb hgx hEx (by rw [← hr]; exact hak) r4 b4 o4)
    have e1 : IntKind.i64.wrap (st + 3) = st + 3 := by rw [IntKind.wrap_i64]; omega
    have e2 : IntKind.i64.wrap (16 * (a : Int)) = (q : Int) := by rw [IntKind.wrap_i64]; omega
    have e3 : IntKind.i64.wrap ((q : Int) + (t.size : Int)) = (r : Int) := by rw [IntKind.wrap_i64]; omega
    have i1 : (i : Int) < (n : Int) := by omega
    have i2 : (r : Int) ≤ ((L i).length : Int) := by omega
    have i3 : (q : Int) ≤ (c2 : Int) := by omega
    have i6 : ¬ c2 = 0 := by omega
    have n1 : ¬ g = x := hgx
    have n2 : ¬ x = g := fun e => hgx e.symm
    -- what is held, in each world from here on
    have SX := Lib.hid fun (W' : World) (hW : Below (w.setCell ⟨x, 2, none⟩ (.bool false)).heap.size (w.setCell ⟨x, 2, none⟩ (.bool false)) W') => show (W'.cell? ⟨x, 1, none⟩ = some (.slice (some ⟨g, off, none⟩) n c1) ∧ W'.cell? ⟨g, off + i, none⟩ = some (.slice (some ⟨g2, off2, none⟩) (L i).length c2) ∧ W'.cell? ⟨x, 7, none⟩ = some (.string t)) from
      ⟨(hW.cell (p := ⟨x, 1, none⟩) (by rw [hsz]; exact hxlt)).trans (Blk.cell hp 1), (hW.cell (p := ⟨g, off + i, none⟩) (by rw [hsz]; exact hg)).trans hc2, (hW.cell (p := ⟨x, 7, none⟩) (by rw [hsz]; exact hxlt)).trans (Blk.cell hp 7)⟩
    have FZ : W4.frozen? ⟨g, off + i, none⟩ = false := (b4.frozen (p := ⟨g, off + i, none⟩) (by rw [hsz]; exact hg)).trans hfr2
    obtain ⟨x1, x2, x3⟩ := SX.out _ ((Below.refl _ (w.setCell ⟨x, 2, none⟩ (.bool false))).alloc (Nat.le_refl _) (.cells #[] 5))
    obtain ⟨y1, y2, y3⟩ := SX.out _ b1
    obtain ⟨z1, z2, z3⟩ := SX.out _ b4
    have S3 := SX.out _ (below_drewN b3 1)
    have HK := Lib.hid k4
    have HB4 := Lib.hid b4
    have HK1 := Lib.hid k1
    have HK2 := Lib.hid k2
    have HK3 := Lib.hid k3
    clear h hst hb hrow hrow2 hf hcc hE hp ho hEx hEi hbx hL hak hlc hcm hq hr hA3 k1 k2 k3 k4 r4 b1 b2 b3 b4 o4 hc hc2 hfr hfr2 hg hxlt hsz hgx2 hg2 hA hn h0 h1
    generalize (L i).length = len at i2 x2 y2 z2 S3 SX HK DONE
    go_enter Try.func25, Try.ntmps25
    go_upto_region 10 with (go_at_call 37; (with_reducible refine HO.out.mono ?_); rintro e w9 ⟨rfl, rfl⟩)
    refine wp_region_lit ?_
    refine wpList_step fun K hK => ?_
    go_simp
    refine hK _ _ ?_
    clear hK K
    try simp only [Act.put, List.setIfInBounds_toArray, List.set_cons_zero, List.set_cons_succ]
    refine wpList_step fun K hK => ?_
    go_simp
    refine hK _ _ ?_
    clear hK K
    try simp only [Act.put, List.setIfInBounds_toArray, List.set_cons_zero, List.set_cons_succ]
    refine wpList_step fun K hK => ?_
    go_simp
    refine hK _ _ ?_
    clear hK K
    try simp only [Act.put, List.setIfInBounds_toArray, List.set_cons_zero, List.set_cons_succ]
    refine wpList_step fun K hK => ?_
    go_simp
    refine hK _ _ ?_
    clear hK K
    try simp only [Act.put, List.setIfInBounds_toArray, List.set_cons_zero, List.set_cons_succ]
    refine wpList_step fun K hK => ?_
    go_simp
    refine hK _ _ ?_
    clear hK K
    try simp only [Act.put, List.setIfInBounds_toArray, List.set_cons_zero, List.set_cons_succ]
    refine wpList_step fun K hK => ?_
    go_simp
    refine hK _ _ ?_
    clear hK K
    try simp only [Act.put, List.setIfInBounds_toArray, List.set_cons_zero, List.set_cons_succ]
    refine wpList_step fun K hK => ?_
    go_simp
    refine hK _ _ ?_
    clear hK K
    try simp only [Act.put, List.setIfInBounds_toArray, List.set_cons_zero, List.set_cons_succ]
    refine wpList_step fun K hK => ?_
    go_simp
    refine hK _ _ ?_
    clear hK K
    try simp only [Act.put, List.setIfInBounds_toArray, List.set_cons_zero, List.set_cons_succ]
    refine wpList_step fun K hK => ?_
    go_simp
    refine hK _ _ ?_
    clear hK K
    try simp only [Act.put, List.setIfInBounds_toArray, List.set_cons_zero, List.set_cons_succ]
    refine wpList_step fun K hK => ?_
    go_simp
    refine hK _ _ ?_
    clear hK K
    try simp only [Act.put, List.setIfInBounds_toArray, List.set_cons_zero, List.set_cons_succ]
    refine wpList_app_eq rfl (.tmp 60) (.tmp 69) 71 rfl HK1.out rfl rfl ?_
    try simp only [Act.put, List.setIfInBounds_toArray, List.set_cons_zero, List.set_cons_succ]
    go_upto_region 11 with (fail)
    refine wp_region_lit ?_
    refine wpList_step fun K hK => ?_
    go_simp
    refine hK _ _ ?_
    clear hK K
    try simp only [Act.put, List.setIfInBounds_toArray, List.set_cons_zero, List.set_cons_succ]
    refine wpList_step fun K hK => ?_
    go_simp
    refine hK _ _ ?_
    clear hK K
    try simp only [Act.put, List.setIfInBounds_toArray, List.set_cons_zero, List.set_cons_succ]
    refine wpList_step fun K hK => ?_
    go_simp
    refine hK _ _ ?_
    clear hK K
    try simp only [Act.put, List.setIfInBounds_toArray, List.set_cons_zero, List.set_cons_succ]
    refine wpList_step fun K hK => ?_
    go_simp
    refine hK _ _ ?_
    clear hK K
    try simp only [Act.put, List.setIfInBounds_toArray, List.set_cons_zero, List.set_cons_succ]
    refine wpList_step fun K hK => ?_
    go_simp
    refine hK _ _ ?_
    clear hK K
    try simp only [Act.put, List.setIfInBounds_toArray, List.set_cons_zero, List.set_cons_succ]
    refine wpList_step fun K hK => ?_
    go_simp
    refine hK _ _ ?_
    clear hK K
    try simp only [Act.put, List.setIfInBounds_toArray, List.set_cons_zero, List.set_cons_succ]
    have K2 := HK2.out
    refine wpList_step fun K hK => ?_
    go_simp
    refine hK _ _ ?_
    clear hK K
    try simp only [Act.put, List.setIfInBounds_toArray, List.set_cons_zero, List.set_cons_succ]
    refine wpList_app_eq rfl (.tmp 71) (.tmp 77) 71 rfl HK3.out rfl rfl ?_
    try simp only [Act.put, List.setIfInBounds_toArray, List.set_cons_zero, List.set_cons_succ]
    go_upto_region 12 with (fail)
    refine wp_region_ends2 24 (fun w' => w'.cell? ⟨x, 1, none⟩ = some (.slice (some ⟨g, off, none⟩) n c1) ∧ w'.cell? ⟨g, off + i, none⟩ = some (.slice (some ⟨g2, off2, none⟩) len c2) ∧ w'.cell? ⟨x, 7, none⟩ = some (.string t)) (by kernel_rfl) (by kernel_rfl) S3 (fun hHeld => ?_)
    simp only [List.take_succ_cons, List.take_zero]
    refine wpAnyH_take (i := 0) (oi := _) (v := ?_) rfl (by kernel_rfl) (by kernel_rfl) (by kernel_rfl) (fun _ _ _ h => h) (Or.inl ⟨by rfl, ?_⟩) (by assumption) ?_
    case refine_2 => intro w hSw; (try dsimp only at hSw); go_simp; try with_reducible rfl
    try simp only [Act.put, List.setIfInBounds_toArray, List.set_cons_zero, List.set_cons_succ]
    refine wpAnyH_take (i := 1) (oi := _) (v := ?_) rfl (by kernel_rfl) (by kernel_rfl) (by kernel_rfl) (fun _ _ _ h => h) (Or.inl ⟨by rfl, ?_⟩) (by assumption) ?_
    case refine_2 => intro w hSw; (try dsimp only at hSw); go_simp; try with_reducible rfl
    try simp only [Act.put, List.setIfInBounds_toArray, List.set_cons_zero, List.set_cons_succ]
    refine wpAnyH_take (i := 2) (oi := _) (v := ?_) rfl (by kernel_rfl) (by kernel_rfl) (by kernel_rfl) (fun _ _ _ h => h) (Or.inl ⟨by rfl, ?_⟩) (by assumption) ?_
    case refine_2 => intro w hSw; (try dsimp only at hSw); go_simp; try with_reducible rfl
    try simp only [Act.put, List.setIfInBounds_toArray, List.set_cons_zero, List.set_cons_succ]
    refine wpAnyH_take (i := 3) (oi := _) (v := ?_) rfl (by kernel_rfl) (by kernel_rfl) (by kernel_rfl) (fun _ _ _ h => h) (Or.inl ⟨by rfl, ?_⟩) (by assumption) ?_
    case refine_2 => intro w hSw; (try dsimp only at hSw); go_simp; try with_reducible rfl
    try simp only [Act.put, List.setIfInBounds_toArray, List.set_cons_zero, List.set_cons_succ]
    refine wpAnyH_take (i := 4) (oi := _) (v := ?_) rfl (by kernel_rfl) (by kernel_rfl) (by kernel_rfl) (fun _ _ _ h => h) (Or.inl ⟨by rfl, ?_⟩) (by assumption) ?_
    case refine_2 => intro w hSw; (try dsimp only at hSw); go_simp; try with_reducible rfl
    try simp only [Act.put, List.setIfInBounds_toArray, List.set_cons_zero, List.set_cons_succ]
    refine wpAnyH_take (i := 5) (oi := _) (v := ?_) rfl (by kernel_rfl) (by kernel_rfl) (by kernel_rfl) (fun _ _ _ h => h) (Or.inl ⟨by rfl, ?_⟩) (by assumption) ?_
    case refine_2 => intro w hSw; (try dsimp only at hSw); go_simp; try with_reducible rfl
    try simp only [Act.put, List.setIfInBounds_toArray, List.set_cons_zero, List.set_cons_succ]
    refine wpAnyH_take (i := 6) (oi := _) (v := ?_) rfl (by kernel_rfl) (by kernel_rfl) (by kernel_rfl) (fun _ _ _ h => h) (Or.inl ⟨by rfl, ?_⟩) (by assumption) ?_
    case refine_2 => intro w hSw; (try dsimp only at hSw); go_simp; try with_reducible rfl
    try simp only [Act.put, List.setIfInBounds_toArray, List.set_cons_zero, List.set_cons_succ]
    refine wpAnyH_take (i := 7) (oi := _) (v := ?_) rfl (by kernel_rfl) (by kernel_rfl) (by kernel_rfl) (fun _ _ _ h => h) (Or.inl ⟨by rfl, ?_⟩) (by assumption) ?_
    case refine_2 => intro w hSw; (try dsimp only at hSw); go_simp; try with_reducible rfl
    try simp only [Act.put, List.setIfInBounds_toArray, List.set_cons_zero, List.set_cons_succ]
    refine wpAnyH_take (i := 8) (oi := _) (v := ?_) rfl (by kernel_rfl) (by kernel_rfl) (by kernel_rfl) (fun _ _ _ h => h) (Or.inl ⟨by rfl, ?_⟩) (by assumption) ?_
    case refine_2 => intro w hSw; (try dsimp only at hSw); go_simp; try with_reducible rfl
    try simp only [Act.put, List.setIfInBounds_toArray, List.set_cons_zero, List.set_cons_succ]
    refine wpAnyH_take (i := 9) (oi := _) (v := ?_) rfl (by kernel_rfl) (by kernel_rfl) (by kernel_rfl) (fun _ _ _ h => h) (Or.inl ⟨by rfl, ?_⟩) (by assumption) ?_
    case refine_2 => intro w hSw; (try dsimp only at hSw); go_simp; try with_reducible rfl
    try simp only [Act.put, List.setIfInBounds_toArray, List.set_cons_zero, List.set_cons_succ]
    refine wpAnyH_take (i := 10) (oi := _) (v := ?_) rfl (by kernel_rfl) (by kernel_rfl) (by kernel_rfl) (fun _ _ _ h => h) (Or.inl ⟨by rfl, ?_⟩) (by assumption) ?_
    case refine_2 => intro w hSw; (try dsimp only at hSw); go_simp; try with_reducible rfl
    try simp only [Act.put, List.setIfInBounds_toArray, List.set_cons_zero, List.set_cons_succ]
    refine wpAnyH_take (i := 11) (oi := _) (v := ?_) rfl (by kernel_rfl) (by kernel_rfl) (by kernel_rfl) (fun _ _ _ h => h) (Or.inl ⟨by rfl, ?_⟩) (by assumption) ?_
    case refine_2 => intro w hSw; (try dsimp only at hSw); go_simp; try with_reducible rfl
    try simp only [Act.put, List.setIfInBounds_toArray, List.set_cons_zero, List.set_cons_succ]
    refine wpAnyH_take (i := 12) (oi := _) (v := ?_) rfl (by kernel_rfl) (by kernel_rfl) (by kernel_rfl) (fun _ _ _ h => h) (Or.inl ⟨by rfl, ?_⟩) (by assumption) ?_
    case refine_2 => intro w hSw; (try dsimp only at hSw); go_simp; try with_reducible rfl
    try simp only [Act.put, List.setIfInBounds_toArray, List.set_cons_zero, List.set_cons_succ]
    refine wpAnyH_take (i := 13) (oi := _) (v := ?_) rfl (by kernel_rfl) (by kernel_rfl) (by kernel_rfl) (fun _ _ _ h => h) (Or.inl ⟨by rfl, ?_⟩) (by assumption) ?_
    case refine_2 => intro w hSw; (try dsimp only at hSw); go_simp; try with_reducible rfl
    try simp only [Act.put, List.setIfInBounds_toArray, List.set_cons_zero, List.set_cons_succ]
    refine wpAnyH_take (i := 14) (oi := _) (v := ?_) rfl (by kernel_rfl) (by kernel_rfl) (by kernel_rfl) (fun _ _ _ h => h) (Or.inl ⟨by rfl, ?_⟩) (by assumption) ?_
    case refine_2 => intro w hSw; (try dsimp only at hSw); go_simp; try with_reducible rfl
    try simp only [Act.put, List.setIfInBounds_toArray, List.set_cons_zero, List.set_cons_succ]
    refine wpAnyH_take (i := 15) (oi := _) (v := ?_) rfl (by kernel_rfl) (by kernel_rfl) (by kernel_rfl) (fun _ _ _ h => h) (Or.inl ⟨by rfl, ?_⟩) (by assumption) ?_
    case refine_2 => intro w hSw; (try dsimp only at hSw); go_simp; try with_reducible rfl
    try simp only [Act.put, List.setIfInBounds_toArray, List.set_cons_zero, List.set_cons_succ]
    refine wpAnyH_take (i := 16) (oi := _) (v := ?_) rfl (by kernel_rfl) (by kernel_rfl) (by kernel_rfl) (fun _ _ _ h => h) (Or.inl ⟨by rfl, ?_⟩) (by assumption) ?_
    case refine_2 => intro w hSw; (try dsimp only at hSw); go_simp; try with_reducible rfl
    try simp only [Act.put, List.setIfInBounds_toArray, List.set_cons_zero, List.set_cons_succ]
    refine wpAnyH_take (i := 17) (oi := _) (v := ?_) rfl (by kernel_rfl) (by kernel_rfl) (by kernel_rfl) (fun _ _ _ h => h) (Or.inl ⟨by rfl, ?_⟩) (by assumption) ?_
    case refine_2 => intro w hSw; (try dsimp only at hSw); go_simp; try with_reducible rfl
    try simp only [Act.put, List.setIfInBounds_toArray, List.set_cons_zero, List.set_cons_succ]
    refine wpAnyH_take (i := 18) (oi := _) (v := ?_) rfl (by kernel_rfl) (by kernel_rfl) (by kernel_rfl) (fun _ _ _ h => h) (Or.inl ⟨by rfl, ?_⟩) (by assumption) ?_
    case refine_2 => intro w hSw; (try dsimp only at hSw); go_simp; try with_reducible rfl
    try simp only [Act.put, List.setIfInBounds_toArray, List.set_cons_zero, List.set_cons_succ]
    refine wpAnyH_ready (rs := [19]) (by kernel_rfl) (by simp) ?_
    refine AllReadyH.cons (o := _) rfl (fun K hK => ?_) AllReadyH.nil
    go_simp
    refine hK.out _ _ (S3) (fun hHeld => ?_)
    clear hK K
    try simp only [Act.put, List.setIfInBounds_toArray, List.set_cons_zero, List.set_cons_succ]
    refine wpAnyH_ready (rs := [20]) (by kernel_rfl) (by simp) ?_
    refine AllReadyH.cons (o := _) rfl (fun K hK => ?_) AllReadyH.nil
    go_simp
    refine hK.out _ _ (S3) (fun hHeld => ?_)
    clear hK K
    try simp only [Act.put, List.setIfInBounds_toArray, List.set_cons_zero, List.set_cons_succ]
    refine wpAnyH_ready (rs := [21]) (by kernel_rfl) (by simp) ?_
    refine AllReadyH.cons (o := _) rfl (fun K hK => ?_) AllReadyH.nil
    go_simp; (try rw [hA4])
    refine hK.out _ _ (S3) (fun hHeld => ?_)
    clear hK K
    try simp only [Act.put, List.setIfInBounds_toArray, List.set_cons_zero, List.set_cons_succ]
    refine wpAnyH_ready (rs := [22]) (by kernel_rfl) (by simp) ?_
    refine AllReadyH.cons (o := _) rfl (fun K hK => ?_) AllReadyH.nil
    refine step_app_eq rfl (.tmp 84) (.tmp 100) 71 rfl HK.out rfl rfl ?_
    refine hK.out _ _ (SX.out _ HB4.out) (fun hHeld => ?_)
    clear hK K
    try simp only [Act.put, List.setIfInBounds_toArray, List.set_cons_zero, List.set_cons_succ]
    refine wpAnyH_ready (rs := [23]) (by kernel_rfl) (by simp) ?_
    refine AllReadyH.cons (o := _) rfl (fun K hK => ?_) AllReadyH.nil
    go_simp
    refine hK.out _ _ (SX.out _ HB4.out) (fun hHeld => ?_)
    clear hK K
    try simp only [Act.put, List.setIfInBounds_toArray, List.set_cons_zero, List.set_cons_succ]
    refine wpAnyH_done (by kernel_rfl) ?_ _
    refine Ends.last rfl (fun K hK => ?_)
    go_simp
    refine hK.out _ _ ?_
    clear hK K
    go_wp2
    go_ret2
    exact DONE.out
end Go.Proofs.Ytlmdnhpdeiekfaa
