import Derived.Test.YtkiifafocmjfkaaX10
import Derived.LoopTactic
import Derived.BigQuiet
set_option linter.all false
/- The law's step: what is posted. -/
namespace Go.Proofs.Ytkiifafocmjfkaa
open Go.RowKit Go.Lib
set_option linter.unusedVariables false
set_option maxRecDepth 20000

theorem Qu.Mid.both3 {B w W W' W2 : World} {q bw bd lim : Nat} {p1 p2 vw vd u2 : Value} {L L' : List Qu.It} {D D' : List Qu.Cl} {A X : Option Addr} {n c b b' : Nat} (h : Qu.Mid B p1 p2 w W q bw bd vw vd L D lim (.slice A n c) u2 L' D') (hn : n = L'.length) (k : Qu.Nx w W q bw bd vw vd W' L' [] lim) (kp : Keeps (fun i => i = b ∨ i = b') W' W2) (hb : b < W.heap.size) (hb' : b' < W.heap.size) (hf : ¬ Qu.Ft q bw bd vw vd b) (hf' : ¬ Qu.Ft q bw bd vw vd b') (ho : ¬ (Value.slice A n c).ownBlock = some b) (ho' : ¬ (Value.slice A n c).ownBlock = some b') (hw : w.heap.size ≤ b) (hw' : w.heap.size ≤ b') (hx : RowZ 9 W2 (.slice X 0 0) 0 []) (hxo : ∀ i, (Value.slice X 0 0).ownBlock = some i → W'.heap.size ≤ i) (hB : B.heap.size ≤ b) (hB' : B.heap.size ≤ b') : Qu.Twf B vw vd p1 p2 w W2 q bw bd lim A n c X 0 0 := by
  obtain ⟨vw', vd', k1, k2, k3⟩ := k
  have hs := k2.size
  have s1 := h.fr.size
  have kb : Keeps (Qu.Ft q bw bd vw vd) B W2 := by
    have q1 := (Keeps.of_only h.fr (S := Qu.Ft q bw bd vw vd) (by simp)).trans k2
    exact ⟨kp.1.trans q1.1, kp.2.1.trans q1.2.1, kp.2.2.1.trans q1.2.2.1, Nat.le_trans q1.2.2.2.1 kp.2.2.2.1, fun i hi hn => (kp.2.2.2.2 i (by omega) (by omega)).trans (q1.2.2.2.2 i hi hn)⟩
  have n1 : ¬ Qu.Ft q bw bd vw' vd' b := fun e => (k3 b e).elim hf (fun e => by omega)
  have n2 : ¬ Qu.Ft q bw bd vw' vd' b' := fun e => (k3 b' e).elim hf' (fun e => by omega)
  refine ⟨vw', vd', L', [], k1.keeps kp (fun i hi e => e.elim (fun e => n1 (e ▸ hi)) (fun e => n2 (e ▸ hi))) (fun i hi e => by omega), ⟨?_, hx⟩, hn, rfl, ?_, kb, fun i hi => (k3 i hi).elim .inl (fun e => .inr (by omega)), ?_⟩
  · exact (h.dr.r1.keeps k2 (fun i hi => h.ap i (.inl hi))).keeps kp (fun i hi e => e.elim (fun e => ho (e ▸ hi)) (fun e => ho' (e ▸ hi)))
  · rintro i (hi | hi) e
    · exact (k3 i e).elim (h.ap i (.inl hi)) (fun e => by have := h.dr.lt i (.inl hi); omega)
    · have := hxo i hi
      have := k1.lt i e
      omega
  · rintro i (hi | hi)
    · exact h.df i (.inl hi)
    · exact .inr (by have := hxo i hi; omega)
theorem Qu.put2 {W : World} {b : Nat} {x : Qu.It} (h : Blk W b 62 #[.int .i64 x.k, .int .u8 x.wh, .int .u8 x.st, .int .i64 x.ad, .int .i64 x.ln, .int .i64 x.ar, .bool x.bad, .int .i64 0, .int .i64 0]) (s n : Int) : ∀ W1 W2, W1 = W.setCell ⟨b, 7, none⟩ (.int .i64 s) → W2 = W1.setCell ⟨b, 8, none⟩ (.int .i64 n) → W.grownBy W1 (some b) ∧ W.grownBy W2 (some b) ∧ Blk W1 b 62 #[.int .i64 x.k, .int .u8 x.wh, .int .u8 x.st, .int .i64 x.ad, .int .i64 x.ln, .int .i64 x.ar, .bool x.bad, .int .i64 s, .int .i64 0] ∧ Blk W2 b 62 #[.int .i64 x.k, .int .u8 x.wh, .int .u8 x.st, .int .i64 x.ad, .int .i64 x.ln, .int .i64 x.ar, .bool x.bad, .int .i64 s, .int .i64 n] := by
  rintro W1 W2 rfl rfl
  refine ⟨only_put (only_refl _ _) 7 _, only_put (only_put (only_refl _ _) 7 _) 8 _, ?_, ?_⟩
  · have q := h.put 7 (.int .i64 s)
    simp only [List.setIfInBounds_toArray, List.set_cons_zero, List.set_cons_succ] at q
    exact q
  · have q := (h.put 7 (.int .i64 s)).put 8 (.int .i64 n)
    simp only [List.setIfInBounds_toArray, List.set_cons_zero, List.set_cons_succ] at q
    exact q
set_option maxHeartbeats 25600000 in
theorem Qu.step_post (w W : World) (q bw bd lim : Nat) (vw vd : Value) (L : List Qu.It) (D : List Qu.Cl) (A A2 : Option Addr) (n c n2 c2 : Nat) (y : Qu.Dd) (h : Qu.Own w W q bw bd vw vd L D lim) (hd : Qu.Dr W (.slice A n c) (.slice A2 n2 c2) L D) (hn : n = L.length) (hn2 : n2 = D.length) (ha : ∀ i, Qu.Do (.slice A n c) (.slice A2 n2 c2) i → ¬ Qu.Ft q bw bd vw vd i) (e0 : ¬ y.dd = 0) (e1 : ¬ y.dd = 1) (e2 : ¬ y.dd = 2) (e3 : ¬ y.dd = 3) : Calls Try.prog 8 #[.pointer (some ⟨q, 0, none⟩), .agg #[.slice A n c, .slice A2 n2 c2, .int .i64 lim], .agg #[.int .i64 y.dd, .int .i64 y.it.k, .int .u8 y.it.wh, .int .u8 y.it.st, .int .i64 y.it.ad, .int .i64 y.it.ln, .int .i64 y.it.ar, .bool y.it.bad, .int .i64 y.st, .int .i64 y.n]] W (Qu.StepV W vw vd (.slice A n c) (.slice A2 n2 c2) w q bw bd lim) := by
  obtain ⟨W0, hW0, hsb, g0, hlt0⟩ := Qu.sb_new W (.slice A n c) (.slice A2 n2 c2) lim y.dd y
  have SB := Lib.hid hsb
  have H0 := Lib.hid (h.grown g0)
  have HD0 := Lib.hid (hd.grown g0)
  have HA := Lib.hid ha
  have HLT := Lib.hid h.lt
  have GW0 := Lib.hid g0
  have HWS := Lib.hid h.gr.size
  have HOLD := Lib.hid hd.lt
  have HZ0 := Lib.hid hlt0
  have hl100 : L.length + D.length ≤ 100 := by have := h.qv.sm; have := h.qv.l16; omega
  have HL := Lib.hid hl100
  have HN := Lib.hid hn
  have HN2 := Lib.hid hn2
  have HS := Lib.hid (show Calls Try.prog 24 #[.agg #[.slice A n c, .slice A2 n2 c2, .int .i64 lim]] W0 (Qu.DV W0 (.slice A n c) (.slice A2 n2 c2) ((L.dropWhile (·.bad))) ((D ++ (L.takeWhile (·.bad)).map Qu.wr)) lim id) from by
    have := Qu.rsettle_any lim L A A2 c c2 D W0 (by have := HD0.out; rw [hn, hn2] at this; exact this) hl100
    rw [← hn, ← hn2] at this
    exact this)
  have hw1 : L.length = (L.takeWhile (·.bad)).length + (L.dropWhile (·.bad)).length := by
    have := congrArg List.length (List.takeWhile_append_dropWhile (p := fun x : Qu.It => x.bad) (l := L))
    rw [List.length_append] at this
    omega
  have HQ := Lib.hid (fun W1 (ho : Qu.Own w W1 q bw bd vw vd L D lim) => show Calls Try.prog 15 #[.pointer (some ⟨q, 0, none⟩)] W1 fun e W' => ∃ out, e = .returned out ∧ RowZ 9 W' out (D ++ (L.takeWhile (·.bad)).map Qu.wr).length (Fc.L (D ++ (L.takeWhile (·.bad)).map Qu.wr)) ∧ (∀ i, out.ownBlock = some i → W1.heap.size ≤ i) ∧ Qu.Nx w W1 q bw bd vw vd W' (L.dropWhile (·.bad)) [] lim from ho.post)
  obtain ⟨LS, hls⟩ : ∃ LS, L.dropWhile (·.bad) = LS := ⟨_, rfl⟩
  obtain ⟨DS, hds⟩ : ∃ DS, D ++ (L.takeWhile (·.bad)).map Qu.wr = DS := ⟨_, rfl⟩
  rw [hls, hds] at HS
  simp only [hls, hds] at HQ
  have HDL := Lib.hid (show LS.length ≤ 100 ∧ DS.length ≤ 200 from by
    constructor
    · rw [← hls]; omega
    · rw [← hds, List.length_append, List.length_map]; omega)
  clear hls hds hw1
  clear hl100 h hd ha hn hn2 hsb g0
  obtain ⟨⟨a0, a1, a2⟩, f0, f1, f2⟩ := Qu.cells3 SB.out.qb
  obtain ⟨b0, b1, b2, b3, b4, b5', b6, b7, b8, b9⟩ := Qu.cells10 SB.out.db
  go_enter Try.func8, Try.ntmps8
  go_upto_region 1 with (fail)
  rw [← hW0]
  clear hW0
  go_upto_region 19 with (go_at_call 24; (with_reducible refine HS.out.mono ?_); rintro e w2 hdv; obtain ⟨A5, n5, c5, A6, n6, c6, rfl, hmid, hn5, hn6, hg5, ho5⟩ := Qu.Mid.first H0.out HA.out hdv GW0.out; have HMID := Lib.hid (⟨hmid, hn5, hn6⟩ : Qu.Mid W (.slice A n c) (.slice A2 n2 c2) w w2 q bw bd vw vd L D lim (.slice A5 n5 c5) (.slice A6 n6 c6) LS DS ∧ n5 = (LS).length ∧ n6 = (DS).length); have HG5 := Lib.hid hg5; have HO5 := Lib.hid ho5; clear hmid hn5 hn6 hdv hg5 ho5 a0 a1 a2 f0 f1 f2 b0 b1 b2 b3 b4 b5' b6 b7 b8 b9; (try dsimp only [id]))
  obtain ⟨wc, hwc⟩ : ∃ wc, wc = w2.alloc (.cells #[.slice A5 n5 c5, .slice A6 n6 c6, .int .i64 lim] 27) := ⟨_, rfl⟩
  have gwc : w2.grownBy wc none := by rw [hwc]; exact only_alloc (only_refl _ none) _
  have BK : Hid (Blk wc w2.heap.size 27 #[.slice A5 n5 c5, .slice A6 n6 c6, .int .i64 lim]) := Lib.hid (by rw [hwc]; exact Blk.new _ _ _)
  rw [← hwc]
  have GRW := Lib.hid (only_trans HG5.out gwc)
  have SBW := Lib.hid (SB.out.grown GRW.out)
  have HM := Lib.hid (show Qu.Mid W (.slice A n c) (.slice A2 n2 c2) w wc q bw bd vw vd L D lim (.slice A5 n5 c5) (.slice A6 n6 c6) LS DS from HMID.out.1.grown gwc)
  have HN5 := Lib.hid HMID.out.2
  have HB5 := Lib.hid (show W.heap.size + 1 + 1 < w2.heap.size by have := HZ0.out; have := HG5.out.size; omega)
  have HLS := Lib.hid (show W.heap.size + 1 + 1 < wc.heap.size by have := HZ0.out; have := GRW.out.size; omega)
  obtain ⟨b5, hb5⟩ : ∃ b5, b5 = w2.heap.size := ⟨_, rfl⟩
  rw [← hb5] at BK HB5 ⊢
  have HNF := Lib.hid (show ¬ Qu.Ft q bw bd vw vd b5 from fun e => by have := HLT.out _ e; have := HB5.out; omega)
  have HRB := Lib.hid (show ¬ Qu.Do (.slice A5 n5 c5) (.slice A6 n6 c6) (W.heap.size + 1 + 1) from fun e => (HO5.out _ e).elim (fun q => by have := HOLD.out _ q; omega) (fun q => by have := HZ0.out; omega))
  have HRB5 := Lib.hid (show ¬ Qu.Do (.slice A5 n5 c5) (.slice A6 n6 c6) b5 from fun e => by have := HMID.out.1.dr.lt _ e; omega)
  clear hwc gwc hb5 HMID
  have HQC := Lib.hid (HQ.out _ HM.out.ow)
  go_upto_region 20 with (go_at_call 15; (with_reducible refine HQC.out.mono ?_); rintro e w6 ⟨out, rfl, hrow, hown, hnx⟩; have HNX := Lib.hid hnx; rw [← HN5.out.2] at hrow; obtain ⟨B, cB, rfl⟩ := hrow.form; have HRW := Lib.hid hrow; have HOW := Lib.hid hown; clear hrow hown hnx)
  have BK6 := Lib.hid (BK.out.keeps HNX.out.kp HNF.out)
  have SB6 := Lib.hid (SBW.out.keeps HNX.out.kp (fun i hi => .inl (HLT.out i hi)))
  have HL6 := Lib.hid (show wc.heap.size ≤ w6.heap.size ∧ b5 < wc.heap.size from ⟨HNX.out.kp.size, BK.out.lt⟩)
  have HDR6 := Lib.hid (show RowZ 9 w6 (.slice A6 n6 c6) n6 (Fc.L DS) from by have := (HM.out.dr.keeps HNX.out.kp (fun i hi => HM.out.ap i hi)).r2; rw [← HN5.out.2] at this; exact this)
  have hn6 : n6 ≤ 200 := by have := HN5.out.2; have := HDL.out.2; omega
  have HN6 := Lib.hid hn6
  obtain ⟨⟨p0, p1, p2⟩, _, _, _⟩ := Qu.cells3 BK6.out
  go_upto_region 21 with (fail)
  clear p0 p1 p2
  go_wp2
  go_loopw [19, 20] (fun s t wr => ∃ i : Nat, s = .bool true ∧ t = .int .i64 i ∧ i ≤ 200 ∧ Hid (i ≤ n6) ∧ Hid (w6.grownBy wr none)) (fun _ t _ => 200 - (intOf t).toNat)
  case atStart => exact ⟨0, rfl, rfl, by omega, Lib.hid (Nat.zero_le _), Lib.hid (only_refl _ none)⟩
  case round =>
    obtain ⟨i, rfl, rfl, hi9, HI, HGX⟩ := hrel
    have BKR := Lib.hid (BK6.out.only HGX.out (by simp))
    by_cases hin : i < n6
    · obtain ⟨z, hz⟩ : ∃ z, DS[i]? = some z := ⟨_, List.getElem?_eq_getElem (by have := HN5.out.2; omega)⟩
      have HRR := Lib.hid (HRW.out.grown HGX.out)
      obtain ⟨g, off, rfl, hnc, hg, c0, c1, c2', c3, c4, c5', c6', c7, c8⟩ := Qu.cl_cells HRR.out hz
      obtain ⟨g6, off6, rfl, hnc6, hg6, -⟩ := Qu.cl_cells HDR6.out hz
      have HGL0 := Lib.hid (show g ≠ wr.heap.size ∧ g < wr.heap.size from ⟨by omega, hg⟩)
      have HDC := Lib.hid (fun W (h : w6.grownBy W none) => show W.cell? ⟨g6, off6 + i * 9, none⟩ = some (.int .i64 z.it.k) ∧ W.cell? ⟨g6, off6 + i * 9 + 1, none⟩ = some (.int .u8 z.it.wh) ∧ W.cell? ⟨g6, off6 + i * 9 + 2, none⟩ = some (.int .u8 z.it.st) ∧ W.cell? ⟨g6, off6 + i * 9 + 3, none⟩ = some (.int .i64 z.it.ad) ∧ W.cell? ⟨g6, off6 + i * 9 + 4, none⟩ = some (.int .i64 z.it.ln) ∧ W.cell? ⟨g6, off6 + i * 9 + 5, none⟩ = some (.int .i64 z.it.ar) ∧ W.cell? ⟨g6, off6 + i * 9 + 6, none⟩ = some (.bool z.it.bad) ∧ W.cell? ⟨g6, off6 + i * 9 + 7, none⟩ = some (.int .i64 z.st) ∧ W.cell? ⟨g6, off6 + i * 9 + 8, none⟩ = some (.int .i64 z.n) from by
        obtain ⟨g', off', e, _, _, hc⟩ := Qu.cl_cells (HDR6.out.grown h) hz
        injection e with e
        injection e with e1 e2
        subst e1 e2
        exact hc)
      have HIT := Lib.hid (Qu.item_any z.it wr)
      have i1 : (i : Int) < (n6 : Int) := by omega
      have i2 : i < n6 := hin
      have i3 : (0 : Int) ≤ (i : Int) := by omega
      have KK := Lib.hid (show i + 1 ≤ n6 ∧ i + 1 ≤ 200 from ⟨hin, by omega⟩)
      have u5 : IntKind.i64.wrap ((i : Int) + 1) = ((i + 1 : Nat) : Int) := by rw [IntKind.wrap_i64]; omega
      have hq1 : ∀ W, (binOp BinOp.eql 62 (.agg #[.int .i64 z.it.k, .int .u8 z.it.wh, .int .u8 z.it.st, .int .i64 z.it.ad, .int .i64 z.it.ln, .int .i64 z.it.ar, .bool z.it.bad, .int .i64 z.st, .int .i64 z.n]) (.agg #[.int .i64 z.it.k, .int .u8 z.it.wh, .int .u8 z.it.st, .int .i64 z.it.ad, .int .i64 z.it.ln, .int .i64 z.it.ar, .bool z.it.bad, .int .i64 z.st, .int .i64 z.n])).run Try.prog W = .ok (.bool true) W := fun W => Qu.eql_item _ _ _ _ _ _ _ _ _ W
      clear hz hin hnc hnc6 hg hg6
      go_wp2_with (go_at_call 23; (with_reducible refine HIT.out.mono ?_); rintro e w7 ⟨rfl, g7⟩; have HG7 := Lib.hid g7; clear g7 c0 c1 c2' c3 c4 c5' c6')
      obtain ⟨wa, hwa⟩ : ∃ wa, wa = w7.alloc (.cells #[.int .i64 z.it.k, .int .u8 z.it.wh, .int .u8 z.it.st, .int .i64 z.it.ad, .int .i64 z.it.ln, .int .i64 z.it.ar, .bool z.it.bad, .int .i64 0, .int .i64 0] 62) := ⟨_, rfl⟩
      have gwa : w7.grownBy wa none := by rw [hwa]; exact only_alloc (only_refl _ none) _
      have IB := Lib.hid (show Blk wa w7.heap.size 62 #[.int .i64 z.it.k, .int .u8 z.it.wh, .int .u8 z.it.st, .int .i64 z.it.ad, .int .i64 z.it.ln, .int .i64 z.it.ar, .bool z.it.bad, .int .i64 0, .int .i64 0] by rw [hwa]; exact Blk.new _ _ _)
      rw [← hwa]
      have HGA := Lib.hid (only_trans HG7.out gwa)
      have HBR := Lib.hid (show wr.heap.size ≤ w7.heap.size from HG7.out.size)
      have HGLT := Lib.hid (show g ≠ w7.heap.size ∧ g < wa.heap.size from ⟨by have := HGL0.out; have := HG7.out.size; omega, by have := HGL0.out; have := HGA.out.size; omega⟩)
      have HS25 := Lib.hid (fun W (h : wa.grownBy W none) => show W.cell? ⟨g, off + i * 9 + 7, none⟩ = some (.int .i64 z.st) ∧ W.cell? ⟨g, off + i * 9 + 8, none⟩ = some (.int .i64 z.n) from by
        have h' := only_trans HGA.out h
        exact ⟨h'.cell c7 (by simp), h'.cell c8 (by simp)⟩)
      obtain ⟨b21, hb21⟩ : ∃ b21, b21 = w7.heap.size := ⟨_, rfl⟩
      rw [← hb21] at IB HBR HGLT ⊢
      clear hwa gwa hb21 c7 c8
      refine wp_region_held_drew (S := fun w' => w'.cell? ⟨g, off + i * 9 + 7, none⟩ = some (.int .i64 z.st) ∧ w'.cell? ⟨g, off + i * 9 + 8, none⟩ = some (.int .i64 z.n)) (by kernel_rfl) (HS25.out _ (only_drewN (only_refl _ none) 1)) (fun hHeld => ?_)
      have gdr : wa.grownBy wa.drew none := only_drewN (only_refl _ none) 1
      have IBD := Lib.hid (IB.out.only gdr (by simp))
      have HSD := Lib.hid (fun W (g1 : wa.drew.grownBy W none) => HS25.out W (only_trans gdr g1))
      have HGD := Lib.hid (only_trans HGA.out gdr)
      clear gdr
      skip
      generalize wa.drew = wd at *
      refine wpAnyH_take (i := 0) (oi := _) (v := ?_) rfl (by kernel_rfl) (by kernel_rfl) (by kernel_rfl) (fun _ _ _ h => h) (Or.inl ⟨by rfl, ?_⟩) (by assumption) ?_
      case refine_2 => intro w hSw; (try dsimp only at hSw); go_simp; (try rw [if_pos i2]); try with_reducible rfl
      try simp only [Act.put, List.setIfInBounds_toArray, List.set_cons_zero, List.set_cons_succ]
      refine wpAnyH_take (i := 1) (oi := _) (v := ?_) rfl (by kernel_rfl) (by kernel_rfl) (by kernel_rfl) (fun _ _ _ h => h) (Or.inl ⟨by rfl, ?_⟩) (by assumption) ?_
      case refine_2 => intro w hSw; (try dsimp only at hSw); go_simp; (try rw [if_pos i2]); try with_reducible rfl
      try simp only [Act.put, List.setIfInBounds_toArray, List.set_cons_zero, List.set_cons_succ]
      refine wpAnyH_take (i := 2) (oi := _) (v := ?_) rfl (by kernel_rfl) (by kernel_rfl) (by kernel_rfl) (fun _ _ _ h => h) (Or.inl ⟨by rfl, ?_⟩) (by assumption) ?_
      case refine_2 => intro w hSw; (try dsimp only at hSw); go_simp; (try rw [if_pos i2]); try with_reducible rfl
      try simp only [Act.put, List.setIfInBounds_toArray, List.set_cons_zero, List.set_cons_succ]
      refine wpAnyH_take (i := 3) (oi := _) (v := ?_) rfl (by kernel_rfl) (by kernel_rfl) (by kernel_rfl) (fun _ _ _ h => h) (Or.inl ⟨by rfl, ?_⟩) (by assumption) ?_
      case refine_2 => intro w hSw; (try dsimp only at hSw); go_simp; (try rw [if_pos i2]); try with_reducible rfl
      try simp only [Act.put, List.setIfInBounds_toArray, List.set_cons_zero, List.set_cons_succ]
      refine wpAnyH_take (i := 4) (oi := _) (v := ?_) rfl (by kernel_rfl) (by kernel_rfl) (by kernel_rfl) (fun _ _ _ h => h) (Or.inl ⟨by rfl, ?_⟩) (by assumption) ?_
      case refine_2 => intro w hSw; (try dsimp only at hSw); go_simp; (try rw [if_pos i2]); try with_reducible rfl
      try simp only [Act.put, List.setIfInBounds_toArray, List.set_cons_zero, List.set_cons_succ]
      refine wpAnyH_take (i := 5) (oi := _) (v := ?_) rfl (by kernel_rfl) (by kernel_rfl) (by kernel_rfl) (fun _ _ _ h => h) (Or.inl ⟨by rfl, ?_⟩) (by assumption) ?_
      case refine_2 => intro w hSw; (try dsimp only at hSw); go_simp; (try rw [if_pos i2]); try with_reducible rfl
      try simp only [Act.put, List.setIfInBounds_toArray, List.set_cons_zero, List.set_cons_succ]
      refine wpAnyH_take (i := 6) (oi := _) (v := ?_) rfl (by kernel_rfl) (by kernel_rfl) (by kernel_rfl) (fun _ _ _ h => h) (Or.inl ⟨by rfl, ?_⟩) (by assumption) ?_
      case refine_2 => intro w hSw; (try dsimp only at hSw); go_simp; (try rw [if_pos i2]); try with_reducible rfl
      try simp only [Act.put, List.setIfInBounds_toArray, List.set_cons_zero, List.set_cons_succ]
      refine wpAnyH_take (i := 7) (oi := _) (v := ?_) rfl (by kernel_rfl) (by kernel_rfl) (by kernel_rfl) (fun _ _ _ h => h) (Or.inl ⟨by rfl, ?_⟩) (by assumption) ?_
      case refine_2 => intro w hSw; (try dsimp only at hSw); go_simp; (try rw [if_pos i2]); try with_reducible rfl
      try simp only [Act.put, List.setIfInBounds_toArray, List.set_cons_zero, List.set_cons_succ]
      refine wpAnyH_take (i := 8) (oi := _) (v := ?_) rfl (by kernel_rfl) (by kernel_rfl) (by kernel_rfl) (fun _ _ _ h => h) (Or.inl ⟨by rfl, ?_⟩) (by assumption) ?_
      case refine_2 => intro w hSw; (try dsimp only at hSw); go_simp; (try rw [if_pos i2]); try with_reducible rfl
      try simp only [Act.put, List.setIfInBounds_toArray, List.set_cons_zero, List.set_cons_succ]
      refine wpAnyH_take (i := 10) (oi := _) (v := ?_) rfl (by kernel_rfl) (by kernel_rfl) (by kernel_rfl) (fun _ _ _ h => h) (Or.inl ⟨by rfl, ?_⟩) (by assumption) ?_
      case refine_2 => intro w hSw; (try dsimp only at hSw); go_simp; (try rw [if_pos i2]); try with_reducible rfl
      try simp only [Act.put, List.setIfInBounds_toArray, List.set_cons_zero, List.set_cons_succ]
      obtain ⟨W1, hW1⟩ : ∃ W1, W1 = wd.setCell ⟨b21, 7, none⟩ (.int .i64 z.st) := ⟨_, rfl⟩
      obtain ⟨W2, hW2⟩ : ∃ W2, W2 = W1.setCell ⟨b21, 8, none⟩ (.int .i64 z.n) := ⟨_, rfl⟩
      obtain ⟨k1, k2, ib1, ib2⟩ := Qu.put2 IBD.out z.st z.n W1 W2 hW1 hW2
      have v7 := IBD.out.cell 7
      have v8 := ib1.cell 8
      have fz7 := IBD.out.free 7
      have fz8 := ib1.free 8
      have IB2 := Lib.hid ib2
      have HG2 := Lib.hid (Qu.grow_box HGD.out k2 HBR.out)
      have S1 : W1.cell? ⟨g, off + i * 9 + 7, none⟩ = some (.int .i64 z.st) ∧ W1.cell? ⟨g, off + i * 9 + 8, none⟩ = some (.int .i64 z.n) := by obtain ⟨e1, e2⟩ := hHeld; exact ⟨k1.cell e1 (by simpa using HGLT.out.1), k1.cell e2 (by simpa using HGLT.out.1)⟩
      have S2 : W2.cell? ⟨g, off + i * 9 + 7, none⟩ = some (.int .i64 z.st) ∧ W2.cell? ⟨g, off + i * 9 + 8, none⟩ = some (.int .i64 z.n) := by obtain ⟨e1, e2⟩ := hHeld; exact ⟨k2.cell e1 (by simpa using HGLT.out.1), k2.cell e2 (by simpa using HGLT.out.1)⟩
      have S0 : wd.cell? ⟨g, off + i * 9 + 7, none⟩ = some (.int .i64 z.st) ∧ wd.cell? ⟨g, off + i * 9 + 8, none⟩ = some (.int .i64 z.n) := hHeld
      obtain ⟨e1, e2⟩ := hHeld
      clear k1 k2 ib1 ib2
      refine wpAnyH_ready (rs := [9, 11]) (by kernel_rfl) (by simp) ?_
      refine AllReadyH.cons (o := _) rfl (fun K hK => ?_) ?_
      · skip
        go_simp
        refine hK.out _ _ S0 (fun hHeld => ?_)
        clear hK K
        try simp only [Act.put, List.setIfInBounds_toArray, List.set_cons_zero, List.set_cons_succ]
        refine wpAnyH_ready (rs := [11]) (by kernel_rfl) (by simp) ?_
        refine AllReadyH.cons (o := _) rfl (fun K hK => ?_) AllReadyH.nil
        go_simp
        rw [← hW1]
        refine hK.out _ _ (S1) (fun hHeld => ?_)
        clear hK K
        try simp only [Act.put, List.setIfInBounds_toArray, List.set_cons_zero, List.set_cons_succ]
        clear hW1 e1 e2
        refine wpAnyH_take (i := 12) (oi := _) (v := ?_) rfl (by kernel_rfl) (by kernel_rfl) (by kernel_rfl) (fun _ _ _ h => h) (Or.inl ⟨by rfl, ?_⟩) (by assumption) ?_
        case refine_2 => intro w hSw; (try dsimp only at hSw); go_simp; try with_reducible rfl
        try simp only [Act.put, List.setIfInBounds_toArray, List.set_cons_zero, List.set_cons_succ]
        refine wpAnyH_ready (rs := [13]) (by kernel_rfl) (by simp) ?_
        refine AllReadyH.cons (o := _) rfl (fun K hK => ?_) AllReadyH.nil
        go_simp
        rw [← hW2]
        refine hK.out _ _ (S2) (fun hHeld => ?_)
        clear hK K
        try simp only [Act.put, List.setIfInBounds_toArray, List.set_cons_zero, List.set_cons_succ]
        refine wpAnyH_done (by kernel_rfl) ?_ _
        clear v7 v8 fz7 fz8 hW2 S1 S2 S0
        go_wp2
        have gdr : W2.grownBy W2.drew none := only_drewN (only_refl _ none) 1
        have BK2 := Lib.hid (BKR.out.only (only_trans HG2.out gdr) (by simp))
        have IB3 := Lib.hid (IB2.out.only gdr (by simp))
        have RD2 := Lib.hid (HDC.out _ (only_trans HGX.out (only_trans HG2.out gdr)))
        refine wp_region_held_drew (S := fun w' => w'.cell? ⟨b5, 0, none⟩ = some (.slice A5 n5 c5) ∧ w'.cell? ⟨b5, 1, none⟩ = some (.slice (some ⟨g6, off6, none⟩) n6 c6) ∧ w'.cell? ⟨b5, 2, none⟩ = some (.int .i64 lim) ∧ w'.cell? ⟨b21, 0, none⟩ = some (.int .i64 z.it.k) ∧ w'.cell? ⟨b21, 1, none⟩ = some (.int .u8 z.it.wh) ∧ w'.cell? ⟨b21, 2, none⟩ = some (.int .u8 z.it.st) ∧ w'.cell? ⟨b21, 3, none⟩ = some (.int .i64 z.it.ad) ∧ w'.cell? ⟨b21, 4, none⟩ = some (.int .i64 z.it.ln) ∧ w'.cell? ⟨b21, 5, none⟩ = some (.int .i64 z.it.ar) ∧ w'.cell? ⟨b21, 6, none⟩ = some (.bool z.it.bad) ∧ w'.cell? ⟨b21, 7, none⟩ = some (.int .i64 z.st) ∧ w'.cell? ⟨b21, 8, none⟩ = some (.int .i64 z.n) ∧ w'.cell? ⟨g6, off6 + i * 9, none⟩ = some (.int .i64 z.it.k) ∧ w'.cell? ⟨g6, off6 + i * 9 + 1, none⟩ = some (.int .u8 z.it.wh) ∧ w'.cell? ⟨g6, off6 + i * 9 + 2, none⟩ = some (.int .u8 z.it.st) ∧ w'.cell? ⟨g6, off6 + i * 9 + 3, none⟩ = some (.int .i64 z.it.ad) ∧ w'.cell? ⟨g6, off6 + i * 9 + 4, none⟩ = some (.int .i64 z.it.ln) ∧ w'.cell? ⟨g6, off6 + i * 9 + 5, none⟩ = some (.int .i64 z.it.ar) ∧ w'.cell? ⟨g6, off6 + i * 9 + 6, none⟩ = some (.bool z.it.bad) ∧ w'.cell? ⟨g6, off6 + i * 9 + 7, none⟩ = some (.int .i64 z.st) ∧ w'.cell? ⟨g6, off6 + i * 9 + 8, none⟩ = some (.int .i64 z.n)) (by kernel_rfl) ⟨BK2.out.cell 0, BK2.out.cell 1, BK2.out.cell 2, IB3.out.cell 0, IB3.out.cell 1, IB3.out.cell 2, IB3.out.cell 3, IB3.out.cell 4, IB3.out.cell 5, IB3.out.cell 6, IB3.out.cell 7, IB3.out.cell 8, RD2.out⟩ (fun hHeld => ?_)
        have HGE := Lib.hid (only_trans HGX.out (only_trans HG2.out gdr))
        clear gdr
        generalize W2.drew = w9 at *
        refine wpAnyH_take (i := 0) (oi := _) (v := ?_) rfl (by kernel_rfl) (by kernel_rfl) (by kernel_rfl) (fun _ _ _ h => h) (Or.inl ⟨by rfl, ?_⟩) (by assumption) ?_
        case refine_2 => intro w hSw; (try dsimp only at hSw); go_simp; (try rw [if_pos i2]); try with_reducible rfl
        try simp only [Act.put, List.setIfInBounds_toArray, List.set_cons_zero, List.set_cons_succ]
        refine wpAnyH_take (i := 1) (oi := _) (v := ?_) rfl (by kernel_rfl) (by kernel_rfl) (by kernel_rfl) (fun _ _ _ h => h) (Or.inl ⟨by rfl, ?_⟩) (by assumption) ?_
        case refine_2 => intro w hSw; (try dsimp only at hSw); go_simp; (try rw [if_pos i2]); try with_reducible rfl
        try simp only [Act.put, List.setIfInBounds_toArray, List.set_cons_zero, List.set_cons_succ]
        refine wpAnyH_take (i := 2) (oi := _) (v := ?_) rfl (by kernel_rfl) (by kernel_rfl) (by kernel_rfl) (fun _ _ _ h => h) (Or.inl ⟨by rfl, ?_⟩) (by assumption) ?_
        case refine_2 => intro w hSw; (try dsimp only at hSw); go_simp; (try rw [if_pos i2]); try with_reducible rfl
        try simp only [Act.put, List.setIfInBounds_toArray, List.set_cons_zero, List.set_cons_succ]
        refine wpAnyH_take (i := 3) (oi := _) (v := ?_) rfl (by kernel_rfl) (by kernel_rfl) (by kernel_rfl) (fun _ _ _ h => h) (Or.inl ⟨by rfl, ?_⟩) (by assumption) ?_
        case refine_2 => intro w hSw; (try dsimp only at hSw); go_simp; (try rw [if_pos i2]); try with_reducible rfl
        try simp only [Act.put, List.setIfInBounds_toArray, List.set_cons_zero, List.set_cons_succ]
        refine wpAnyH_take (i := 4) (oi := _) (v := ?_) rfl (by kernel_rfl) (by kernel_rfl) (by kernel_rfl) (fun _ _ _ h => h) (Or.inl ⟨by rfl, ?_⟩) (by assumption) ?_
        case refine_2 => intro w hSw; (try dsimp only at hSw); go_simp; (try rw [if_pos i2]); try with_reducible rfl
        try simp only [Act.put, List.setIfInBounds_toArray, List.set_cons_zero, List.set_cons_succ]
        refine wpAnyH_take (i := 5) (oi := _) (v := ?_) rfl (by kernel_rfl) (by kernel_rfl) (by kernel_rfl) (fun _ _ _ h => h) (Or.inl ⟨by rfl, ?_⟩) (by assumption) ?_
        case refine_2 => intro w hSw; (try dsimp only at hSw); go_simp; (try rw [if_pos i2]); try with_reducible rfl
        try simp only [Act.put, List.setIfInBounds_toArray, List.set_cons_zero, List.set_cons_succ]
        refine wpAnyH_take (i := 6) (oi := _) (v := ?_) rfl (by kernel_rfl) (by kernel_rfl) (by kernel_rfl) (fun _ _ _ h => h) (Or.inl ⟨by rfl, ?_⟩) (by assumption) ?_
        case refine_2 => intro w hSw; (try dsimp only at hSw); go_simp; (try rw [if_pos i2]); try with_reducible rfl
        try simp only [Act.put, List.setIfInBounds_toArray, List.set_cons_zero, List.set_cons_succ]
        refine wpAnyH_take (i := 7) (oi := ⟨some 19, _, _, _, _, none⟩) (v := ?_) rfl (by kernel_rfl) (by kernel_rfl) (by kernel_rfl) (fun _ _ _ h => h) (Or.inl ⟨by rfl, ?_⟩) (by assumption) ?_
        case refine_2 => intro w hSw; (try dsimp only at hSw); go_simp; try with_reducible rfl
        try simp only [Act.put, List.setIfInBounds_toArray, List.set_cons_zero, List.set_cons_succ]
        refine wpAnyH_done (by kernel_rfl) ?_ _
        go_wp2
        go_roundw
        case rel => exact ⟨i + 1, rfl, by go_num, KK.out.2, Lib.hid KK.out.1, HGE⟩
        case measure =>
          have := KK.out
          simp [intOf]
          omega
      · skip
        refine AllReadyH.cons (o := _) rfl (fun K hK => ?_) AllReadyH.nil
        go_simp
        rw [← hW1]
        refine hK.out _ _ S1 (fun hHeld => ?_)
        clear hK K
        try simp only [Act.put, List.setIfInBounds_toArray, List.set_cons_zero, List.set_cons_succ]
        clear hW1 e1 e2
        refine wpAnyH_take (i := 9) (oi := _) (v := ?_) rfl (by kernel_rfl) (by kernel_rfl) (by kernel_rfl) (fun _ _ _ h => h) (Or.inl ⟨by rfl, ?_⟩) (by assumption) ?_
        case refine_2 => intro w hSw; (try dsimp only at hSw); go_simp; try with_reducible rfl
        try simp only [Act.put, List.setIfInBounds_toArray, List.set_cons_zero, List.set_cons_succ]
        refine wpAnyH_take (i := 12) (oi := _) (v := ?_) rfl (by kernel_rfl) (by kernel_rfl) (by kernel_rfl) (fun _ _ _ h => h) (Or.inl ⟨by rfl, ?_⟩) (by assumption) ?_
        case refine_2 => intro w hSw; (try dsimp only at hSw); go_simp; try with_reducible rfl
        try simp only [Act.put, List.setIfInBounds_toArray, List.set_cons_zero, List.set_cons_succ]
        refine wpAnyH_ready (rs := [13]) (by kernel_rfl) (by simp) ?_
        refine AllReadyH.cons (o := _) rfl (fun K hK => ?_) AllReadyH.nil
        go_simp
        rw [← hW2]
        refine hK.out _ _ (S2) (fun hHeld => ?_)
        clear hK K
        try simp only [Act.put, List.setIfInBounds_toArray, List.set_cons_zero, List.set_cons_succ]
        refine wpAnyH_done (by kernel_rfl) ?_ _
        clear v7 v8 fz7 fz8 hW2 S1 S2 S0
        go_wp2
        have gdr : W2.grownBy W2.drew none := only_drewN (only_refl _ none) 1
        have BK2 := Lib.hid (BKR.out.only (only_trans HG2.out gdr) (by simp))
        have IB3 := Lib.hid (IB2.out.only gdr (by simp))
        have RD2 := Lib.hid (HDC.out _ (only_trans HGX.out (only_trans HG2.out gdr)))
        refine wp_region_held_drew (S := fun w' => w'.cell? ⟨b5, 0, none⟩ = some (.slice A5 n5 c5) ∧ w'.cell? ⟨b5, 1, none⟩ = some (.slice (some ⟨g6, off6, none⟩) n6 c6) ∧ w'.cell? ⟨b5, 2, none⟩ = some (.int .i64 lim) ∧ w'.cell? ⟨b21, 0, none⟩ = some (.int .i64 z.it.k) ∧ w'.cell? ⟨b21, 1, none⟩ = some (.int .u8 z.it.wh) ∧ w'.cell? ⟨b21, 2, none⟩ = some (.int .u8 z.it.st) ∧ w'.cell? ⟨b21, 3, none⟩ = some (.int .i64 z.it.ad) ∧ w'.cell? ⟨b21, 4, none⟩ = some (.int .i64 z.it.ln) ∧ w'.cell? ⟨b21, 5, none⟩ = some (.int .i64 z.it.ar) ∧ w'.cell? ⟨b21, 6, none⟩ = some (.bool z.it.bad) ∧ w'.cell? ⟨b21, 7, none⟩ = some (.int .i64 z.st) ∧ w'.cell? ⟨b21, 8, none⟩ = some (.int .i64 z.n) ∧ w'.cell? ⟨g6, off6 + i * 9, none⟩ = some (.int .i64 z.it.k) ∧ w'.cell? ⟨g6, off6 + i * 9 + 1, none⟩ = some (.int .u8 z.it.wh) ∧ w'.cell? ⟨g6, off6 + i * 9 + 2, none⟩ = some (.int .u8 z.it.st) ∧ w'.cell? ⟨g6, off6 + i * 9 + 3, none⟩ = some (.int .i64 z.it.ad) ∧ w'.cell? ⟨g6, off6 + i * 9 + 4, none⟩ = some (.int .i64 z.it.ln) ∧ w'.cell? ⟨g6, off6 + i * 9 + 5, none⟩ = some (.int .i64 z.it.ar) ∧ w'.cell? ⟨g6, off6 + i * 9 + 6, none⟩ = some (.bool z.it.bad) ∧ w'.cell? ⟨g6, off6 + i * 9 + 7, none⟩ = some (.int .i64 z.st) ∧ w'.cell? ⟨g6, off6 + i * 9 + 8, none⟩ = some (.int .i64 z.n)) (by kernel_rfl) ⟨BK2.out.cell 0, BK2.out.cell 1, BK2.out.cell 2, IB3.out.cell 0, IB3.out.cell 1, IB3.out.cell 2, IB3.out.cell 3, IB3.out.cell 4, IB3.out.cell 5, IB3.out.cell 6, IB3.out.cell 7, IB3.out.cell 8, RD2.out⟩ (fun hHeld => ?_)
        have HGE := Lib.hid (only_trans HGX.out (only_trans HG2.out gdr))
        clear gdr
        generalize W2.drew = w9 at *
        refine wpAnyH_take (i := 0) (oi := _) (v := ?_) rfl (by kernel_rfl) (by kernel_rfl) (by kernel_rfl) (fun _ _ _ h => h) (Or.inl ⟨by rfl, ?_⟩) (by assumption) ?_
        case refine_2 => intro w hSw; (try dsimp only at hSw); go_simp; (try rw [if_pos i2]); try with_reducible rfl
        try simp only [Act.put, List.setIfInBounds_toArray, List.set_cons_zero, List.set_cons_succ]
        refine wpAnyH_take (i := 1) (oi := _) (v := ?_) rfl (by kernel_rfl) (by kernel_rfl) (by kernel_rfl) (fun _ _ _ h => h) (Or.inl ⟨by rfl, ?_⟩) (by assumption) ?_
        case refine_2 => intro w hSw; (try dsimp only at hSw); go_simp; (try rw [if_pos i2]); try with_reducible rfl
        try simp only [Act.put, List.setIfInBounds_toArray, List.set_cons_zero, List.set_cons_succ]
        refine wpAnyH_take (i := 2) (oi := _) (v := ?_) rfl (by kernel_rfl) (by kernel_rfl) (by kernel_rfl) (fun _ _ _ h => h) (Or.inl ⟨by rfl, ?_⟩) (by assumption) ?_
        case refine_2 => intro w hSw; (try dsimp only at hSw); go_simp; (try rw [if_pos i2]); try with_reducible rfl
        try simp only [Act.put, List.setIfInBounds_toArray, List.set_cons_zero, List.set_cons_succ]
        refine wpAnyH_take (i := 3) (oi := _) (v := ?_) rfl (by kernel_rfl) (by kernel_rfl) (by kernel_rfl) (fun _ _ _ h => h) (Or.inl ⟨by rfl, ?_⟩) (by assumption) ?_
        case refine_2 => intro w hSw; (try dsimp only at hSw); go_simp; (try rw [if_pos i2]); try with_reducible rfl
        try simp only [Act.put, List.setIfInBounds_toArray, List.set_cons_zero, List.set_cons_succ]
        refine wpAnyH_take (i := 4) (oi := _) (v := ?_) rfl (by kernel_rfl) (by kernel_rfl) (by kernel_rfl) (fun _ _ _ h => h) (Or.inl ⟨by rfl, ?_⟩) (by assumption) ?_
        case refine_2 => intro w hSw; (try dsimp only at hSw); go_simp; (try rw [if_pos i2]); try with_reducible rfl
        try simp only [Act.put, List.setIfInBounds_toArray, List.set_cons_zero, List.set_cons_succ]
        refine wpAnyH_take (i := 5) (oi := _) (v := ?_) rfl (by kernel_rfl) (by kernel_rfl) (by kernel_rfl) (fun _ _ _ h => h) (Or.inl ⟨by rfl, ?_⟩) (by assumption) ?_
        case refine_2 => intro w hSw; (try dsimp only at hSw); go_simp; (try rw [if_pos i2]); try with_reducible rfl
        try simp only [Act.put, List.setIfInBounds_toArray, List.set_cons_zero, List.set_cons_succ]
        refine wpAnyH_take (i := 6) (oi := _) (v := ?_) rfl (by kernel_rfl) (by kernel_rfl) (by kernel_rfl) (fun _ _ _ h => h) (Or.inl ⟨by rfl, ?_⟩) (by assumption) ?_
        case refine_2 => intro w hSw; (try dsimp only at hSw); go_simp; (try rw [if_pos i2]); try with_reducible rfl
        try simp only [Act.put, List.setIfInBounds_toArray, List.set_cons_zero, List.set_cons_succ]
        refine wpAnyH_take (i := 7) (oi := ⟨some 19, _, _, _, _, none⟩) (v := ?_) rfl (by kernel_rfl) (by kernel_rfl) (by kernel_rfl) (fun _ _ _ h => h) (Or.inl ⟨by rfl, ?_⟩) (by assumption) ?_
        case refine_2 => intro w hSw; (try dsimp only at hSw); go_simp; try with_reducible rfl
        try simp only [Act.put, List.setIfInBounds_toArray, List.set_cons_zero, List.set_cons_succ]
        refine wpAnyH_done (by kernel_rfl) ?_ _
        go_wp2
        go_roundw
        case rel => exact ⟨i + 1, rfl, by go_num, KK.out.2, Lib.hid KK.out.1, HGE⟩
        case measure =>
          have := KK.out
          simp [intOf]
          omega
    · have i1 : ¬ (i : Int) < (n6 : Int) := by omega
      have hal := BKR.out.alloc (.cells #[] 62)
      obtain ⟨⟨p0, p1, p2⟩, f0, f1, f2⟩ := Qu.cells3 hal
      clear hin
      go_upto_region 28 with (fail)
      obtain ⟨w3, hw3⟩ : ∃ w3, w3 = (wr.alloc (.cells #[] 62)).setCell ⟨b5, 1, none⟩ (.slice (some ⟨wr.heap.size, 0, none⟩) 0 0) := ⟨_, rfl⟩
      have gal : wr.grownBy (wr.alloc (.cells #[] 62)) none := only_alloc (only_refl _ none) _
      have gw3 : (wr.alloc (.cells #[] 62)).grownBy w3 (some b5) := by rw [hw3]; exact only_put (only_refl _ _) 1 _
      have BK3 : Blk w3 b5 27 #[.slice A5 n5 c5, .slice (some ⟨wr.heap.size, 0, none⟩) 0 0, .int .i64 lim] := by
        have := hal.put 1 (.slice (some ⟨wr.heap.size, 0, none⟩) 0 0)
        rw [← hw3] at this
        simpa using this
      have hne : ¬ W.heap.size + 1 + 1 = b5 := by have := HB5.out; omega
      have RB3 : Blk w3 (W.heap.size + 1 + 1) 27 #[.slice none 0 0, .slice none 0 0, .int .i64 0] := ((SB6.out.rb.only (only_trans HGX.out gal) (by simp)).only gw3 (by simpa using hne))
      have hse : w3.heap.size = wr.heap.size + 1 := by rw [hw3]; simp
      have hem : RowZ 9 w3 (.slice (some ⟨wr.heap.size, 0, none⟩) 0 0) 0 [] := RowZ.empty 9 0 (by omega)
      rw [← hw3]
      clear p0 p1 p2 f0 f1 f2
      obtain ⟨⟨x0, x1, x2⟩, y0, y1, y2⟩ := Qu.cells3 RB3
      obtain ⟨⟨p0, p1, p2⟩, _, _, _⟩ := Qu.cells3 BK3
      obtain ⟨W9, hW9⟩ : ∃ W9, W9 = (((w3.setCell ⟨(W.heap.size + 1 + 1), 0, none⟩ (.slice A5 n5 c5)).setCell ⟨(W.heap.size + 1 + 1), 1, none⟩ (.slice (some ⟨wr.heap.size, 0, none⟩) 0 0)).setCell ⟨(W.heap.size + 1 + 1), 2, none⟩ (.int .i64 lim)) := ⟨_, rfl⟩
      obtain ⟨k9, b9⟩ := Qu.put3 RB3 (.slice A5 n5 c5) (.slice (some ⟨wr.heap.size, 0, none⟩) 0 0) (.int .i64 lim) W9 hW9
      have kp : Keeps (fun i => i = b5 ∨ i = W.heap.size + 1 + 1) wr W9 := ((Keeps.of_only gal (by simp)).trans (Keeps.of_only gw3 (fun i e => .inl (by injection e with e; exact e.symm)))).trans (Keeps.of_only k9 (fun i e => .inr (by injection e with e; exact e.symm)))
      have HTW := Lib.hid (Qu.Mid.both3 (lim := lim) HM.out HN5.out.1 (HNX.out.grown HGX.out) kp HL6.out.2 HLS.out HNF.out (fun e => by have := HLT.out _ e; omega) (fun e => HRB5.out (.inl e)) (fun e => HRB.out (.inl e)) (by have := HWS.out; have := HB5.out; omega) (by have := HWS.out; omega) (hem.only k9 (.inr (fun e => by simp [Value.ownBlock] at e; have := HZ0.out; have := HL6.out.1; have := HGX.out.size; have := HLS.out; omega))) (fun i e => by simp [Value.ownBlock] at e; omega) (by have := HB5.out; omega) (by omega))
      obtain ⟨z0, z1, z2⟩ := (Qu.cells3 b9).1
      have n1 : ¬ b5 = W.heap.size + 1 + 1 := fun e => hne e.symm
      clear k9 b9 kp hem hse RB3 BK3 gw3 gal hw3 hal
      go_wp2
      rw [← hW9]
      refine bodyPost_ret (v := .tuple #[.agg #[.slice A5 n5 c5, .slice (some ⟨wr.heap.size, 0, none⟩) 0 0, .int .i64 lim], .bool true]) (by simp [results, Try.results8, go_sem, z0, z1, z2]) rfl ?_
      exact ⟨A5, n5, c5, _, 0, 0, rfl, HTW.out⟩
end Go.Proofs.Ytkiifafocmjfkaa

/- Any deed, on both queues; QueuePlays walked. -/
namespace Go.Proofs.Ytkiifafocmjfkaa
open Go.RowKit Go.Lib Go.Shelf
set_option linter.unusedVariables false
set_option maxRecDepth 20000

theorem Qu.step_any (w W : World) (q bw bd lim : Nat) (vw vd : Value) (L : List Qu.It) (D : List Qu.Cl) (A A2 : Option Addr) (n c n2 c2 : Nat) (y : Qu.Dd) (h : Qu.Own w W q bw bd vw vd L D lim) (hd : Qu.Dr W (.slice A n c) (.slice A2 n2 c2) L D) (hn : n = L.length) (hn2 : n2 = D.length) (ha : ∀ i, Qu.Do (.slice A n c) (.slice A2 n2 c2) i → ¬ Qu.Ft q bw bd vw vd i) : Calls Try.prog 8 #[.pointer (some ⟨q, 0, none⟩), .agg #[.slice A n c, .slice A2 n2 c2, .int .i64 lim], .agg #[.int .i64 y.dd, .int .i64 y.it.k, .int .u8 y.it.wh, .int .u8 y.it.st, .int .i64 y.it.ad, .int .i64 y.it.ln, .int .i64 y.it.ar, .bool y.it.bad, .int .i64 y.st, .int .i64 y.n]] W (Qu.StepV W vw vd (.slice A n c) (.slice A2 n2 c2) w q bw bd lim) := by
  by_cases e0 : y.dd = 0
  · rw [e0]; exact Qu.step_put w W q bw bd lim vw vd L D A A2 n c n2 c2 y h hd hn hn2 ha
  by_cases e1 : y.dd = 1
  · rw [e1]; exact Qu.step_settle w W q bw bd lim vw vd L D A A2 n c n2 c2 y h hd hn hn2 ha
  by_cases e2 : y.dd = 2
  · rw [e2]; exact Qu.step_head w W q bw bd lim vw vd L D A A2 n c n2 c2 y h hd hn hn2 ha
  by_cases e3 : y.dd = 3
  · rw [e3]; exact Qu.step_finish w W q bw bd lim vw vd L D A A2 n c n2 c2 y h hd hn hn2 ha
  exact Qu.step_post w W q bw bd lim vw vd L D A A2 n c n2 c2 y h hd hn hn2 ha e0 e1 e2 e3
/-- Both queues, and the box in which the document's lies. -/
def Qu.Pl (w W : World) (q bw bd lim b : Nat) (A : Option Addr) (n c : Nat) (A2 : Option Addr) (n2 c2 : Nat) : Prop :=
  ∃ vw vd L D, Qu.Own w W q bw bd vw vd L D lim ∧ Qu.Dr W (.slice A n c) (.slice A2 n2 c2) L D ∧ n = L.length ∧ n2 = D.length ∧ (∀ i, Qu.Do (.slice A n c) (.slice A2 n2 c2) i → ¬ Qu.Ft q bw bd vw vd i) ∧ (¬ Qu.Ft q bw bd vw vd b ∧ ¬ Qu.Do (.slice A n c) (.slice A2 n2 c2) b) ∧ Blk W b 27 #[.slice A n c, .slice A2 n2 c2, .int .i64 lim] ∧ w.heap.size ≤ b
section
variable {w W W' : World} {q bw bd lim b n c n2 c2 : Nat} {A A2 : Option Addr}
theorem Qu.Pl.gr (h : Qu.Pl w W q bw bd lim b A n c A2 n2 c2) : w.grownBy W none := by
  obtain ⟨vw, vd, L, D, h1, _⟩ := h
  exact h1.gr
theorem Qu.Pl.bk (h : Qu.Pl w W q bw bd lim b A n c A2 n2 c2) : Blk W b 27 #[.slice A n c, .slice A2 n2 c2, .int .i64 lim] := by
  obtain ⟨vw, vd, L, D, h1, h2, h3, h4, h5, h6, h7, h8⟩ := h
  exact h7
theorem Qu.Pl.grown (h : Qu.Pl w W q bw bd lim b A n c A2 n2 c2) (g : W.grownBy W' none) : Qu.Pl w W' q bw bd lim b A n c A2 n2 c2 := by
  obtain ⟨vw, vd, L, D, h1, h2, h3, h4, h5, h6, h7, h8⟩ := h
  exact ⟨vw, vd, L, D, h1.grown g, h2.grown g, h3, h4, h5, h6, h7.only g (by simp), h8⟩
theorem Qu.Pl.told (h : Qu.Pl w W q bw bd lim b A n c A2 n2 c2) : Calls Try.prog 9 #[.pointer (some ⟨q, 0, none⟩), .agg #[.slice A n c, .slice A2 n2 c2, .int .i64 lim]] W fun e w' => e = .returned (.bool true) ∧ W.grownBy w' none := by
  obtain ⟨vw, vd, L, D, h1, h2, h3, h4, h5, h6, h7, h8⟩ := h
  subst h3 h4
  exact Qu.told_any h1.qv h2
/-- A step, and what it answers put into the box. -/
theorem Qu.Pl.step (h : Qu.Pl w W q bw bd lim b A n c A2 n2 c2) (y : Qu.Dd) : Calls Try.prog 8 #[.pointer (some ⟨q, 0, none⟩), .agg #[.slice A n c, .slice A2 n2 c2, .int .i64 lim], .agg #[.int .i64 y.dd, .int .i64 y.it.k, .int .u8 y.it.wh, .int .u8 y.it.st, .int .i64 y.it.ad, .int .i64 y.it.ln, .int .i64 y.it.ar, .bool y.it.bad, .int .i64 y.st, .int .i64 y.n]] W fun e w2 => ∃ A5 n5 c5 A6 n6 c6, e = .returned (.tuple #[.agg #[.slice A5 n5 c5, .slice A6 n6 c6, .int .i64 lim], .bool true]) ∧ Blk w2 b 27 #[.slice A n c, .slice A2 n2 c2, .int .i64 lim] ∧ w.grownBy w2 none ∧ (∀ W9, W9 = ((w2.setCell ⟨b, 0, none⟩ (.slice A5 n5 c5)).setCell ⟨b, 1, none⟩ (.slice A6 n6 c6)).setCell ⟨b, 2, none⟩ (.int .i64 lim) → Qu.Pl w W9 q bw bd lim b A5 n5 c5 A6 n6 c6) := by
  obtain ⟨vw, vd, L, D, h1, h2, h3, h4, h5, ⟨h6, h6'⟩, h7, h8⟩ := h
  refine (Qu.step_any w W q bw bd lim vw vd L D A A2 n c n2 c2 y h1 h2 h3 h4 h5).mono fun e w2 hh => ?_
  obtain ⟨A5, n5, c5, A6, n6, c6, rfl, vw', vd', L', D', k1, k2, k3, k4, k5, kk, kf, kd⟩ := hh
  have hbl := h7.lt
  have B2 := h7.keeps kk h6
  have nf : ¬ Qu.Ft q bw bd vw' vd' b := fun e => (kf b e).elim h6 (fun e => by omega)
  have nd : ¬ Qu.Do (.slice A5 n5 c5) (.slice A6 n6 c6) b := fun e => (kd b e).elim h6' (fun e => by omega)
  refine ⟨A5, n5, c5, A6, n6, c6, rfl, B2, k1.gr, fun W9 hW9 => ?_⟩
  obtain ⟨k9, b9⟩ := Qu.put3 B2 (.slice A5 n5 c5) (.slice A6 n6 c6) (.int .i64 lim) W9 hW9
  have kp := Keeps.of_only k9 (S := fun i => i = b) (fun i e => by injection e with e; exact e.symm)
  exact ⟨vw', vd', L', D', k1.keeps kp (fun i hi e => nf (e ▸ hi)) (fun i hi e => by omega), k2.keeps kp (fun i hi e => nd (e ▸ hi)), k3, k4, k5, ⟨nf, nd⟩, b9, h8⟩
theorem Qu.Pl.start {w1 w2 : World} (ho : Qu.Own w w1 q bw bd (.slice none 0 0) (.slice none 0 0) [] [] lim) (g : w1.grownBy w2 none) : ∀ W, W = w2.alloc (.cells #[.slice none 0 0, .slice none 0 0, .int .i64 lim] 27) → Qu.Pl w W q bw bd lim w2.heap.size none 0 0 none 0 0 := by
  rintro W rfl
  have g2 := only_trans g (only_alloc (only_refl w2 none) (.cells #[.slice none 0 0, .slice none 0 0, .int .i64 lim] 27))
  exact ⟨_, _, [], [], ho.grown g2, ⟨RowZ.nil _ _, RowZ.nil _ _⟩, rfl, rfl, fun i hi => by rcases hi with hi | hi <;> simp [Value.ownBlock] at hi, ⟨fun e => by have := ho.lt _ e; have := g.size; omega, fun hi => by rcases hi with hi | hi <;> simp [Value.ownBlock] at hi⟩, Blk.new _ _ _, by have := ho.gr.size; have := g.size; omega⟩
end
set_option maxHeartbeats 6400000 in
theorem Qu.plays_walk (limit : Int) (A : Option Addr) (k c : Nat) (d : Nat → Qu.Dd) (w : World) (hd : Qu.DdP w A k d) (hk : k ≤ c) (hc : c ≤ 9223372036854775807) : Calls Try.prog 3 #[.int .i64 limit, .slice A k c] w fun e w' => e = .returned (.bool true) ∧ Below w.heap.size w w' := by
  have HN := Lib.hid (Qu.new_any limit w)
  have HR := Lib.hid (fun W => Qu.rnew_any limit W)
  obtain ⟨lim, hlim⟩ : ∃ lim, limQ (min limit 16) = lim := ⟨_, rfl⟩
  rw [hlim] at HN
  simp only [hlim] at HR
  have HD := Lib.hid hd
  have HKC := Lib.hid hk
  clear hd hlim hk
  go_enter Try.func3, Try.ntmps3
  go_upto_region 3 with (first
    | (go_at_call 6; (with_reducible refine HN.out.mono ?_); rintro e w1 hh; obtain ⟨q, bw, bd, rfl, ho⟩ := hh.own; have O1 := Lib.hid ho; clear hh ho)
    | (go_at_call 7; (with_reducible refine (HR.out _).mono ?_); rintro e w2 ⟨rfl, g2⟩; have G2 := Lib.hid g2; clear g2))
  obtain ⟨w0, hw0⟩ : ∃ w0, w0 = w2.alloc (.cells #[.slice none 0 0, .slice none 0 0, .int .i64 lim] 27) := ⟨_, rfl⟩
  have P0 := Lib.hid (Qu.Pl.start O1.out G2.out w0 hw0)
  rw [← hw0]
  obtain ⟨b6, hb6⟩ : ∃ b6, b6 = w2.heap.size := ⟨_, rfl⟩
  rw [← hb6] at P0 ⊢
  clear hb6 hw0 O1 G2
  go_wp2
  go_loopw [7] (fun t wr => ∃ (j n c n2 c2 : Nat) (A A2 : Option Addr), t = .int .i64 j ∧ j ≤ 80 ∧ Hid (j ≤ k) ∧ Hid (Qu.Pl w wr q bw bd lim b6 A n c A2 n2 c2)) (fun t _ => 80 - (intOf t).toNat)
  case atStart => exact ⟨0, 0, 0, 0, 0, none, none, rfl, by omega, Lib.hid (Nat.zero_le _), P0⟩
  case round =>
    obtain ⟨j, n, c', n2, c2, A', A2, rfl, hj8, HB, HS⟩ := hrel
    clear P0
    by_cases hin : j < k ∧ j < 80
    case neg =>
      have key : (¬ (j : Int) < (k : Int)) ∨ ((j : Int) < (k : Int) ∧ ¬ (j : Int) < 80) := by omega
      clear hin
      rcases key with i1 | ⟨i1, i2⟩
      all_goals
        go_wp2_with (go_at_call 10; (with_reducible refine (Qu.live_any _).mono ?_); rintro e w3 ⟨rfl, g3⟩; have G3 := Lib.hid (only_trans HS.out.gr g3); clear g3)
        go_ret
        exact ⟨rfl, Qu.bel G3.out⟩
    case pos =>
      obtain ⟨h1, h2⟩ := hin
      obtain ⟨g, off, rfl, hg, hcs⟩ := HD.out (by omega)
      have hcj := hcs j h1
      obtain ⟨y, hy⟩ : ∃ y, d j = y := ⟨_, rfl⟩
      rw [hy] at hcj
      have HCS := Lib.hid (fun W (g' : w.grownBy W none) => show W.cell? ⟨g, off + j * 10, none⟩ = some (.int .i64 y.dd) ∧ W.cell? ⟨g, off + j * 10 + 1, none⟩ = some (.int .i64 y.it.k) ∧ W.cell? ⟨g, off + j * 10 + 2, none⟩ = some (.int .u8 y.it.wh) ∧ W.cell? ⟨g, off + j * 10 + 3, none⟩ = some (.int .u8 y.it.st) ∧ W.cell? ⟨g, off + j * 10 + 4, none⟩ = some (.int .i64 y.it.ad) ∧ W.cell? ⟨g, off + j * 10 + 5, none⟩ = some (.int .i64 y.it.ln) ∧ W.cell? ⟨g, off + j * 10 + 6, none⟩ = some (.int .i64 y.it.ar) ∧ W.cell? ⟨g, off + j * 10 + 7, none⟩ = some (.bool y.it.bad) ∧ W.cell? ⟨g, off + j * 10 + 8, none⟩ = some (.int .i64 y.st) ∧ W.cell? ⟨g, off + j * 10 + 9, none⟩ = some (.int .i64 y.n) from hcj.below hg (Qu.bel g'))
      have HJ := Lib.hid (show j + 1 ≤ k ∧ j + 1 ≤ 80 from ⟨h1, h2⟩)
      have i1 : (j : Int) < (k : Int) := by omega
      have i2 : (j : Int) < 80 := by omega
      have i3 : (0 : Int) ≤ (j : Int) := by omega
      have u1 : IntKind.i64.wrap ((j : Int) + 1) = ((j + 1 : Nat) : Int) := by rw [IntKind.wrap_i64]; omega
      clear hcj hcs hg hy
      go_wp2
      have gdr : wr.grownBy wr.drew none := only_drewN (only_refl _ none) 1
      have HSD := Lib.hid (HS.out.grown gdr)
      have SC : wr.drew.cell? ⟨g, off + j * 10, none⟩ = some (.int .i64 y.dd) ∧ wr.drew.cell? ⟨g, off + j * 10 + 1, none⟩ = some (.int .i64 y.it.k) ∧ wr.drew.cell? ⟨g, off + j * 10 + 2, none⟩ = some (.int .u8 y.it.wh) ∧ wr.drew.cell? ⟨g, off + j * 10 + 3, none⟩ = some (.int .u8 y.it.st) ∧ wr.drew.cell? ⟨g, off + j * 10 + 4, none⟩ = some (.int .i64 y.it.ad) ∧ wr.drew.cell? ⟨g, off + j * 10 + 5, none⟩ = some (.int .i64 y.it.ln) ∧ wr.drew.cell? ⟨g, off + j * 10 + 6, none⟩ = some (.int .i64 y.it.ar) ∧ wr.drew.cell? ⟨g, off + j * 10 + 7, none⟩ = some (.bool y.it.bad) ∧ wr.drew.cell? ⟨g, off + j * 10 + 8, none⟩ = some (.int .i64 y.st) ∧ wr.drew.cell? ⟨g, off + j * 10 + 9, none⟩ = some (.int .i64 y.n) := HCS.out _ HSD.out.gr
      refine wp_region_held_drew (S := fun w' => w'.cell? ⟨g, off + j * 10, none⟩ = some (.int .i64 y.dd) ∧ w'.cell? ⟨g, off + j * 10 + 1, none⟩ = some (.int .i64 y.it.k) ∧ w'.cell? ⟨g, off + j * 10 + 2, none⟩ = some (.int .u8 y.it.wh) ∧ w'.cell? ⟨g, off + j * 10 + 3, none⟩ = some (.int .u8 y.it.st) ∧ w'.cell? ⟨g, off + j * 10 + 4, none⟩ = some (.int .i64 y.it.ad) ∧ w'.cell? ⟨g, off + j * 10 + 5, none⟩ = some (.int .i64 y.it.ln) ∧ w'.cell? ⟨g, off + j * 10 + 6, none⟩ = some (.int .i64 y.it.ar) ∧ w'.cell? ⟨g, off + j * 10 + 7, none⟩ = some (.bool y.it.bad) ∧ w'.cell? ⟨g, off + j * 10 + 8, none⟩ = some (.int .i64 y.st) ∧ w'.cell? ⟨g, off + j * 10 + 9, none⟩ = some (.int .i64 y.n)) (by kernel_rfl) SC (fun hHeld => ?_)
      clear gdr
      generalize wr.drew = wd at *
      refine wpAnyH_take (i := 0) (oi := _) (v := ?_) rfl (by kernel_rfl) (by kernel_rfl) (by kernel_rfl) (fun _ _ _ h => h) (Or.inl ⟨by rfl, ?_⟩) (by assumption) ?_
      case refine_2 => intro w hSw; (try dsimp only at hSw); go_simp; (try rw [if_pos h1]); try with_reducible rfl
      try simp only [Act.put, List.setIfInBounds_toArray, List.set_cons_zero, List.set_cons_succ]
      refine wpAnyH_take (i := 2) (oi := _) (v := ?_) rfl (by kernel_rfl) (by kernel_rfl) (by kernel_rfl) (fun _ _ _ h => h) (Or.inl ⟨by rfl, ?_⟩) (by assumption) ?_
      case refine_2 => intro w hSw; (try dsimp only at hSw); go_simp; (try rw [if_pos h1]); try with_reducible rfl
      try simp only [Act.put, List.setIfInBounds_toArray, List.set_cons_zero, List.set_cons_succ]
      refine wpAnyH_take (i := 3) (oi := _) (v := ?_) rfl (by kernel_rfl) (by kernel_rfl) (by kernel_rfl) (fun _ _ _ h => h) (Or.inl ⟨by rfl, ?_⟩) (by assumption) ?_
      case refine_2 => intro w hSw; (try dsimp only at hSw); go_simp; (try rw [if_pos h1]); try with_reducible rfl
      try simp only [Act.put, List.setIfInBounds_toArray, List.set_cons_zero, List.set_cons_succ]
      refine wpAnyH_take (i := 4) (oi := _) (v := ?_) rfl (by kernel_rfl) (by kernel_rfl) (by kernel_rfl) (fun _ _ _ h => h) (Or.inl ⟨by rfl, ?_⟩) (by assumption) ?_
      case refine_2 => intro w hSw; (try dsimp only at hSw); go_simp; (try rw [if_pos h1]); try with_reducible rfl
      try simp only [Act.put, List.setIfInBounds_toArray, List.set_cons_zero, List.set_cons_succ]
      refine wpAnyH_take (i := 5) (oi := _) (v := ?_) rfl (by kernel_rfl) (by kernel_rfl) (by kernel_rfl) (fun _ _ _ h => h) (Or.inl ⟨by rfl, ?_⟩) (by assumption) ?_
      case refine_2 => intro w hSw; (try dsimp only at hSw); go_simp; (try rw [if_pos h1]); try with_reducible rfl
      try simp only [Act.put, List.setIfInBounds_toArray, List.set_cons_zero, List.set_cons_succ]
      obtain ⟨⟨p0, p1, p2⟩, _, _, _⟩ := Qu.cells3 HSD.out.bk
      refine wpAnyH_ready (rs := [1]) (by kernel_rfl) (by simp) ?_
      refine AllReadyH.cons (o := _) rfl (fun K hK => ?_) AllReadyH.nil
      go_simp
      refine hK.out _ _ (hHeld) (fun hHeld => ?_)
      clear hK K
      try simp only [Act.put, List.setIfInBounds_toArray, List.set_cons_zero, List.set_cons_succ]
      refine wpAnyH_ready (rs := [6]) (by kernel_rfl) (by simp) ?_
      refine AllReadyH.cons (o := _) rfl (fun K hK => ?_) AllReadyH.nil
      go_simp
      go_at_call 8
      (with_reducible refine (HSD.out.step y).mono ?_)
      rintro e w2 ⟨A5, n5, c5, A6, n6, c6, rfl, hb2, hg2, hnext⟩
      have HB2 := Lib.hid hb2
      have HG2 := Lib.hid hg2
      have HNEXT := Lib.hid hnext
      clear hb2 hg2 hnext p0 p1 p2
      have S2 : w2.cell? ⟨g, off + j * 10, none⟩ = some (.int .i64 y.dd) ∧ w2.cell? ⟨g, off + j * 10 + 1, none⟩ = some (.int .i64 y.it.k) ∧ w2.cell? ⟨g, off + j * 10 + 2, none⟩ = some (.int .u8 y.it.wh) ∧ w2.cell? ⟨g, off + j * 10 + 3, none⟩ = some (.int .u8 y.it.st) ∧ w2.cell? ⟨g, off + j * 10 + 4, none⟩ = some (.int .i64 y.it.ad) ∧ w2.cell? ⟨g, off + j * 10 + 5, none⟩ = some (.int .i64 y.it.ln) ∧ w2.cell? ⟨g, off + j * 10 + 6, none⟩ = some (.int .i64 y.it.ar) ∧ w2.cell? ⟨g, off + j * 10 + 7, none⟩ = some (.bool y.it.bad) ∧ w2.cell? ⟨g, off + j * 10 + 8, none⟩ = some (.int .i64 y.st) ∧ w2.cell? ⟨g, off + j * 10 + 9, none⟩ = some (.int .i64 y.n) := HCS.out _ HG2.out
      refine hK.out _ _ (S2) (fun hHeld => ?_)
      clear hK K
      try simp only [Act.put, List.setIfInBounds_toArray, List.set_cons_zero, List.set_cons_succ]
      refine wpAnyH_take (i := 7) (oi := _) (v := ?_) rfl (by kernel_rfl) (by kernel_rfl) (by kernel_rfl) (fun _ _ _ h => h) (Or.inl ⟨by rfl, ?_⟩) (by assumption) ?_
      case refine_2 => intro w hSw; (try dsimp only at hSw); go_simp; try with_reducible rfl
      try simp only [Act.put, List.setIfInBounds_toArray, List.set_cons_zero, List.set_cons_succ]
      refine wpAnyH_take (i := 8) (oi := _) (v := ?_) rfl (by kernel_rfl) (by kernel_rfl) (by kernel_rfl) (fun _ _ _ h => h) (Or.inl ⟨by rfl, ?_⟩) (by assumption) ?_
      case refine_2 => intro w hSw; (try dsimp only at hSw); go_simp; try with_reducible rfl
      try simp only [Act.put, List.setIfInBounds_toArray, List.set_cons_zero, List.set_cons_succ]
      refine wpAnyH_take (i := 9) (oi := _) (v := ?_) rfl (by kernel_rfl) (by kernel_rfl) (by kernel_rfl) (fun _ _ _ h => h) (Or.inl ⟨by rfl, ?_⟩) (by assumption) ?_
      case refine_2 => intro w hSw; (try dsimp only at hSw); go_simp; try with_reducible rfl
      try simp only [Act.put, List.setIfInBounds_toArray, List.set_cons_zero, List.set_cons_succ]
      obtain ⟨⟨x0, x1, x2⟩, y0, y1, y2⟩ := Qu.cells3 HB2.out
      obtain ⟨W9, hW9⟩ : ∃ W9, W9 = (((w2.setCell ⟨b6, 0, none⟩ (.slice A5 n5 c5)).setCell ⟨b6, 1, none⟩ (.slice A6 n6 c6)).setCell ⟨b6, 2, none⟩ (.int .i64 lim)) := ⟨_, rfl⟩
      have HP := Lib.hid (HNEXT.out W9 hW9)
      have S9 : W9.cell? ⟨g, off + j * 10, none⟩ = some (.int .i64 y.dd) ∧ W9.cell? ⟨g, off + j * 10 + 1, none⟩ = some (.int .i64 y.it.k) ∧ W9.cell? ⟨g, off + j * 10 + 2, none⟩ = some (.int .u8 y.it.wh) ∧ W9.cell? ⟨g, off + j * 10 + 3, none⟩ = some (.int .u8 y.it.st) ∧ W9.cell? ⟨g, off + j * 10 + 4, none⟩ = some (.int .i64 y.it.ad) ∧ W9.cell? ⟨g, off + j * 10 + 5, none⟩ = some (.int .i64 y.it.ln) ∧ W9.cell? ⟨g, off + j * 10 + 6, none⟩ = some (.int .i64 y.it.ar) ∧ W9.cell? ⟨g, off + j * 10 + 7, none⟩ = some (.bool y.it.bad) ∧ W9.cell? ⟨g, off + j * 10 + 8, none⟩ = some (.int .i64 y.st) ∧ W9.cell? ⟨g, off + j * 10 + 9, none⟩ = some (.int .i64 y.n) := HCS.out _ HP.out.gr
      refine wpAnyH_ready (rs := [10]) (by kernel_rfl) (by simp) ?_
      refine AllReadyH.cons (o := _) rfl (fun K hK => ?_) AllReadyH.nil
      go_simp
      rw [← hW9]
      refine hK.out _ _ (S9) (fun hHeld => ?_)
      clear hK K
      try simp only [Act.put, List.setIfInBounds_toArray, List.set_cons_zero, List.set_cons_succ]
      refine wpAnyH_take (i := 11) (oi := ⟨some 8, _, _, _, _, none⟩) (v := ?_) rfl (by kernel_rfl) (by kernel_rfl) (by kernel_rfl) (fun _ _ _ h => h) (Or.inl ⟨by rfl, ?_⟩) (by assumption) ?_
      case refine_2 => intro w hSw; (try dsimp only at hSw); go_simp; try with_reducible rfl
      try simp only [Act.put, List.setIfInBounds_toArray, List.set_cons_zero, List.set_cons_succ]
      refine wpAnyH_done (by kernel_rfl) ?_ _
      clear x0 x1 x2 y0 y1 y2 hW9 S9 S2 SC
      obtain ⟨⟨z0, z1, z2⟩, _, _, _⟩ := Qu.cells3 HP.out.bk
      go_wp2_with (go_at_call 9; (with_reducible refine HP.out.told.mono ?_); rintro e w3 ⟨rfl, g3⟩; have P3 := Lib.hid (HP.out.grown g3); clear g3)
      go_roundw
      case rel => exact ⟨j + 1, n5, c5, n6, c6, A5, A6, by go_num, HJ.out.2, Lib.hid HJ.out.1, P3⟩
      case measure =>
        have := HJ.out
        simp [intOf]
        omega
end Go.Proofs.Ytkiifafocmjfkaa
