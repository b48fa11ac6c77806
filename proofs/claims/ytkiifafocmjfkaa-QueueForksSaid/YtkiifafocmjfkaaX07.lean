import Derived.Test.YtkiifafocmjfkaaX06
import Derived.LoopTactic
set_option linter.all false
/- The document's first: the first request that waits is done. -/
namespace Go.Proofs.Ytkiifafocmjfkaa
open Go.RowKit Go.Lib
set_option linter.unusedVariables false
set_option maxRecDepth 8000

/-- waits[1:] as1 it is read. -/
theorem Qu.src_rest {W : World} {g off n c : Nat} {x : Qu.It} {l : List Qu.It} (h : RowZ 9 W (.slice (some ⟨g, off, none⟩) n c) n (Fc.L ((x :: l).map Qu.nd))) : n = l.length + 1 ∧ (¬ c = 1 → Src Try.prog 9 25 (.slice (some ⟨g, off + 9, none⟩) (n - 1) (c - 1)) (n - 1) (Fc.L (l.map Qu.nd)) W) ∧ (c = 1 → Src Try.prog 9 25 (.slice (some ⟨g, off, none⟩) (n - 1) 0) (n - 1) (Fc.L (l.map Qu.nd)) W) := by
  have hn : n = l.length + 1 := by have := h.1; rw [Fc.L_len] at this; simp at this; omega
  have e : Fc.L ((x :: l).map Qu.nd) = Fc.C (Qu.nd x) ++ Fc.L (l.map Qu.nd) := by simp [Fc.L]
  have hll : (Fc.L (l.map Qu.nd)).length = l.length * 9 := by rw [Fc.L_len]; simp
  refine ⟨hn, fun hc => ?_, fun hc => ?_⟩
  · refine Src.ofSlice _ Try.underlying25 _ _ _ _ (by rw [hll]; omega) (fun j u hj => ?_) (Fc.L_cell _)
    rcases h.2 with ⟨_, hz⟩ | ⟨g', off', cap, he, _, _, _, _, hce⟩
    · omega
    · injection he with e1 e2 e3
      injection e1 with e1
      injection e1 with e1 e4
      subst e1 e4
      rw [addr_at, Nat.add_assoc]
      refine hce (9 + j) u ?_
      rw [e, List.getElem?_append_right (by rw [Fc.C_len]; omega), Fc.C_len, Nat.add_sub_cancel_left]
      exact hj
  · have hl : l = [] := by
      rcases h.2 with ⟨_, hz⟩ | ⟨g', off', cap, he, hcl, _⟩
      · omega
      · injection he with e1 e2 e3
        exact List.eq_nil_of_length_eq_zero (by omega)
    subst hl
    refine Src.ofSlice _ Try.underlying25 _ _ _ _ (by simp [Fc.L]; simp at hn; omega) (fun j u hj => by simp [Fc.L] at hj) (Fc.L_cell _)
/-- What the last stores leave. -/
theorem Qu.fin_first {w W6 : World} {v1 v2 u0 u1 u2 u3 u4 u5 : Value} {lim : Int} {L : List Qu.It} {D : List Qu.Cl} (g : w.grownBy W6 none) (hp : Blk W6 w.heap.size 27 #[u0, u1, u2]) (hr : Blk W6 (w.heap.size + 1) 27 #[u3, u4, u5]) (h1 : RowZ 9 W6 v1 L.length (Fc.L (L.map Qu.nd))) (h2 : RowZ 9 W6 v2 D.length (Fc.L D)) (o1 : ∀ i, v1.ownBlock = some i → w.heap.size + 1 < i) (o2 : ∀ i, v2.ownBlock = some i → w.heap.size + 1 < i) :
    ((((W6.setCell ⟨w.heap.size, 0, none⟩ v1).setCell ⟨w.heap.size + 1, 0, none⟩ v1).setCell ⟨w.heap.size + 1, 1, none⟩ v2).setCell ⟨w.heap.size + 1, 2, none⟩ (.int .i64 lim)).cell? ⟨w.heap.size + 1, 0, none⟩ = some v1 ∧ ((((W6.setCell ⟨w.heap.size, 0, none⟩ v1).setCell ⟨w.heap.size + 1, 0, none⟩ v1).setCell ⟨w.heap.size + 1, 1, none⟩ v2).setCell ⟨w.heap.size + 1, 2, none⟩ (.int .i64 lim)).cell? ⟨w.heap.size + 1, 1, none⟩ = some v2 ∧ ((((W6.setCell ⟨w.heap.size, 0, none⟩ v1).setCell ⟨w.heap.size + 1, 0, none⟩ v1).setCell ⟨w.heap.size + 1, 1, none⟩ v2).setCell ⟨w.heap.size + 1, 2, none⟩ (.int .i64 lim)).cell? ⟨w.heap.size + 1, 2, none⟩ = some (.int .i64 lim) ∧ Qu.Dr ((((W6.setCell ⟨w.heap.size, 0, none⟩ v1).setCell ⟨w.heap.size + 1, 0, none⟩ v1).setCell ⟨w.heap.size + 1, 1, none⟩ v2).setCell ⟨w.heap.size + 1, 2, none⟩ (.int .i64 lim)) v1 v2 L D ∧ w.grownBy ((((W6.setCell ⟨w.heap.size, 0, none⟩ v1).setCell ⟨w.heap.size + 1, 0, none⟩ v1).setCell ⟨w.heap.size + 1, 1, none⟩ v2).setCell ⟨w.heap.size + 1, 2, none⟩ (.int .i64 lim)) none ∧ ∀ i, Qu.Do v1 v2 i → w.heap.size ≤ i := by
  have n1 : ∀ b, b ≤ w.heap.size + 1 → v1.ownBlock ≠ some b := fun b hb e => by have := o1 _ e; omega
  have n2 : ∀ b, b ≤ w.heap.size + 1 → v2.ownBlock ≠ some b := fun b hb e => by have := o2 _ e; omega
  have z0 : w.heap.size ≤ w.heap.size + 1 := Nat.le_succ _
  have b3 := (((hr.far (p := ⟨w.heap.size, 0, none⟩) (by show w.heap.size + 1 ≠ w.heap.size; omega) v1).put 0 v1).put 1 v2).put 2 (.int .i64 lim)
  refine ⟨b3.cell 0, b3.cell 1, b3.cell 2, ⟨?_, ?_⟩, ?_, fun i hi => hi.elim (fun e => by have := o1 _ e; omega) (fun e => by have := o2 _ e; omega)⟩
  · exact (((h1.put (p := ⟨w.heap.size, 0, none⟩) (n1 _ z0) _).put (p := ⟨w.heap.size + 1, 0, none⟩) (n1 _ (Nat.le_refl _)) _).put (p := ⟨w.heap.size + 1, 1, none⟩) (n1 _ (Nat.le_refl _)) _).put (p := ⟨w.heap.size + 1, 2, none⟩) (n1 _ (Nat.le_refl _)) _
  · exact (((h2.put (p := ⟨w.heap.size, 0, none⟩) (n2 _ z0) _).put (p := ⟨w.heap.size + 1, 0, none⟩) (n2 _ (Nat.le_refl _)) _).put (p := ⟨w.heap.size + 1, 1, none⟩) (n2 _ (Nat.le_refl _)) _).put (p := ⟨w.heap.size + 1, 2, none⟩) (n2 _ (Nat.le_refl _)) _
  · exact Qu.putn (Qu.putn (Qu.putn (Qu.putn g (Nat.le_refl _) _) z0 _) z0 _) z0 _
/-- Behind the first two appends. -/
structure Qu.Aft (w W5 : World) (u0 v2 : Value) (lim : Int) (D : List Qu.Cl) : Prop where
  gr : w.grownBy W5 none
  pb : Blk W5 w.heap.size 27 #[u0, v2, .int .i64 lim]
  rb : Blk W5 (w.heap.size + 1) 27 #[.slice none 0 0, .slice none 0 0, .int .i64 0]
  r2 : RowZ 9 W5 v2 D.length (Fc.L D)
  o2 : ∀ i, v2.ownBlock = some i → w.heap.size + 1 < i
/-- append([]Item{}, waits[1:]...). -/
theorem Qu.run_rest {W : World} {sv : Value} {k : Nat} {xs : List Qu.Cl} (hsrc : Src Try.prog 9 25 sv k (Fc.L xs) (W.alloc (.cells #[] 62))) (hk : k ≤ 1000) : ∃ A5 c5 W6, (Builtin.append_ #[25, 25] 25 #[.slice (some ⟨W.heap.size, 0, none⟩) 0 0, sv]).run Try.prog (W.alloc (.cells #[] 62)) = .ok (.slice (some A5) k c5) W6 ∧ RowZ 9 W6 (.slice (some A5) k c5) k (Fc.L xs) ∧ W.grownBy W6 none ∧ ∀ i, (Value.slice (some A5) k c5).ownBlock = some i → W.heap.size ≤ i := by
  obtain ⟨i0, hi0, hz0, hz1, hz2⟩ := info_parts Qu.r_info
  obtain ⟨v', W6, k1, k2, k3, k4, A5, c5, rfl⟩ := run_allZ (P := Try.prog) (W.alloc (.cells #[] 62)) 25 62 25 i0 _ 64 Try.underlying25 hi0 hz0 hz1 hz2 (by omega) rfl W.heap.size k (by simp) sv _ hsrc (by omega)
  refine ⟨A5, c5, W6, k1, k2, only_trans (only_alloc (only_refl _ none) _) k3, fun i hi => ?_⟩
  rcases k4 with e | e
  · rw [e] at hi; injection hi with hi; omega
  · rw [e] at hi; injection hi with hi; simp at hi; omega
set_option maxRecDepth 20000 in
set_option maxHeartbeats 6400000 in
theorem Qu.rfirst_any (A A2 : Option Addr) (c c2 lim : Nat) (x : Qu.It) (l : List Qu.It) (D : List Qu.Cl) (s m : Int) (w : World) (h : Qu.Dr w (.slice A (x :: l).length c) (.slice A2 D.length c2) (x :: l) D) (hl : l.length + D.length ≤ 100) : Calls Try.prog 39 #[.agg #[.slice A (x :: l).length c, .slice A2 D.length c2, .int .i64 lim], .int .i64 s, .int .i64 m] w (Qu.DV w (.slice A (x :: l).length c) (.slice A2 D.length c2) l (D ++ [⟨x, s, m⟩]) lim id) := by
  obtain ⟨W1, hW1, G1, P1, Z1⟩ := Qu.box1 w 27 #[.slice A (x :: l).length c, .slice A2 D.length c2, .int .i64 lim]
  obtain ⟨W2, hW2, G2, P2, Z2⟩ := Qu.box1 W1 27 #[.slice none 0 0, .slice none 0 0, .int .i64 0]
  obtain ⟨wx, hwx, G3, P3, Z3⟩ := Qu.box1 W2 62 #[.int .i64 x.k, .int .u8 x.wh, .int .u8 x.st, .int .i64 x.ad, .int .i64 x.ln, .int .i64 x.ar, .bool x.bad, .int .i64 s, .int .i64 m]
  rw [Z1] at P2
  rw [Z2, Z1] at P3
  have G12 := only_trans G1 G2
  have G := only_trans G12 G3
  have PB := Lib.hid ((P1.only G2 (by simp)).only G3 (by simp))
  have RB := Lib.hid (P2.only G3 (by simp))
  have IB := Lib.hid P3
  have GX := Lib.hid G
  have hlt0 : ∀ i, Qu.Do (.slice A (x :: l).length c) (.slice A2 D.length c2) i → i < w.heap.size := h.lt
  have HLT := Lib.hid hlt0
  have ROWX := Lib.hid (h.grown G)
  have HZ2 := Lib.hid (show W2.heap.size = w.heap.size + 1 + 1 by rw [Z2, Z1])
  rcases h.r1.2 with ⟨_, hz⟩ | ⟨g, off, cap, he, hcl, hcm, hg, hfz, hce⟩
  · exact absurd hz (by simp)
  injection he with e1 e2 e3
  subst e1 e3
  obtain ⟨n2, hn2⟩ : ∃ n2, D.length = n2 := ⟨_, rfl⟩
  obtain ⟨n, hn⟩ : ∃ n, (x :: l).length = n := ⟨_, rfl⟩
  have HN2 := Lib.hid hn2
  have HN := Lib.hid (show l.length + 1 = n by simpa using hn)
  have HM := Lib.hid (show n2 ≤ 100 by omega)
  have HM2 := Lib.hid (show l.length ≤ 100 by omega)
  have HGL := Lib.hid hg
  have hce2 : ∀ j u, (Fc.C (Qu.nd x))[j]? = some u → W2.cell? ⟨g, off + j, none⟩ = some u := fun j u hu => by
    have hb := G12.block g hg (by simp)
    have hlj := (List.getElem?_eq_some_iff.1 hu).1
    have := hce j u (by
      show (Fc.L (Qu.nd x :: l.map Qu.nd))[j]? = some u
      have e : Fc.L (Qu.nd x :: l.map Qu.nd) = Fc.C (Qu.nd x) ++ Fc.L (l.map Qu.nd) := by simp [Fc.L]
      rw [e, List.getElem?_append_left hlj]
      exact hu)
    rw [← this]
    simp only [World.cell?, hb]
  have a0 : W2.cell? ⟨g, off, none⟩ = some (.int .i64 x.k) := hce2 0 _ rfl
  have a1 : W2.cell? ⟨g, off + 1, none⟩ = some (.int .u8 x.wh) := hce2 1 _ rfl
  have a2 : W2.cell? ⟨g, off + 2, none⟩ = some (.int .u8 x.st) := hce2 2 _ rfl
  have a3 : W2.cell? ⟨g, off + 3, none⟩ = some (.int .i64 x.ad) := hce2 3 _ rfl
  have a4 : W2.cell? ⟨g, off + 4, none⟩ = some (.int .i64 x.ln) := hce2 4 _ rfl
  have a5 : W2.cell? ⟨g, off + 5, none⟩ = some (.int .i64 x.ar) := hce2 5 _ rfl
  have a6 : W2.cell? ⟨g, off + 6, none⟩ = some (.bool x.bad) := hce2 6 _ rfl
  have a7 : W2.cell? ⟨g, off + 7, none⟩ = some (.int .i64 0) := hce2 7 _ rfl
  have a8 : W2.cell? ⟨g, off + 8, none⟩ = some (.int .i64 0) := hce2 8 _ rfl
  obtain ⟨p0, p1, p2⟩ : W2.cell? ⟨w.heap.size, 0, none⟩ = some (.slice (some ⟨g, off, none⟩) n c) ∧ W2.cell? ⟨w.heap.size, 1, none⟩ = some (.slice A2 n2 c2) ∧ W2.cell? ⟨w.heap.size, 2, none⟩ = some (.int .i64 lim) := by
    have q := P1.only G2 (by simp)
    rw [hn, hn2] at q
    exact ⟨q.cell 0, q.cell 1, q.cell 2⟩
  rw [hn, hn2] at PB ROWX hW1 HLT
  rw [hn, hn2]
  have i1 : (0 : Int) < (n : Int) := by have := HN.out; omega
  have HC := Lib.hid (show n ≤ c by rw [← hn]; exact hcl)
  clear G1 G2 G3 P1 P2 P3 Z1 Z2 Z3 G G12 h hl hlt0 hn hn2 hfz hce hce2 hcl hcm hg e2
  go_enter Try.func39, Try.ntmps39
  go_upto_region 1 with (fail)
  rw [← hW1, ← hW2]
  clear hW1 hW2
  go_upto_region 4 with (fail)
  rw [← hwx]
  clear hwx p0 p1 p2 a0 a1 a2 a3 a4 a5 a6 a7 a8 i1
  obtain ⟨bi, hbi⟩ : ∃ bi, bi = W2.heap.size := ⟨_, rfl⟩
  rw [← hbi]
  have IB2 := Lib.hid (show Blk wx bi 62 #[.int .i64 x.k, .int .u8 x.wh, .int .u8 x.st, .int .i64 x.ad, .int .i64 x.ln, .int .i64 x.ar, .bool x.bad, .int .i64 s, .int .i64 m] from by rw [hbi, HZ2.out]; exact IB.out)
  have HBI := Lib.hid (show bi = w.heap.size + 1 + 1 by rw [hbi, HZ2.out])
  clear hbi IB HZ2
  obtain ⟨i0, hi0, hz0, hz1, hz2⟩ := info_parts Qu.r_info
  obtain ⟨⟨aA, cA, WA, dA, eA, XA, kA, yA, mA, zA⟩, ⟨aB, cB, WB, dB, eB, XB, kB, yB, mB, zB⟩, ⟨aC, cC, WC, dC, eC, XC, kC, yC, mC, zC⟩⟩ := Zz.three (P := Try.prog) (ty := 25) Try.underlying25 hi0 hz0 hz1 hz2 (by omega) rfl wx n2 _ (Fc.L D) #[.int .i64 x.k, .int .u8 x.wh, .int .u8 x.st, .int .i64 x.ad, .int .i64 x.ln, .int .i64 x.ar, .bool x.bad, .int .i64 s, .int .i64 m] (by have := ROWX.out.r2; rw [HN2.out] at this; exact this) (Qu.cl_one _) (by have := HM.out; omega) rfl (Fc.C_cell ⟨x, s, m⟩)
  have KA := Lib.hid kA
  have KB := Lib.hid kB
  have KC := Lib.hid kC
  have MA := Lib.hid mA
  have MB := Lib.hid mB
  have MC := Lib.hid mC
  have YA := Lib.hid yA
  have YB := Lib.hid yB
  have YC := Lib.hid yC
  have ZA := Lib.hid zA
  have ZB := Lib.hid zB
  have ZC := Lib.hid zC
  have SX : Hid (∀ W, Below wx.heap.size wx W → W.cell? ⟨w.heap.size, 1, none⟩ = some (.slice A2 n2 c2) ∧ W.cell? ⟨bi, 0, none⟩ = some (.int .i64 x.k) ∧ W.cell? ⟨bi, 1, none⟩ = some (.int .u8 x.wh) ∧ W.cell? ⟨bi, 2, none⟩ = some (.int .u8 x.st) ∧ W.cell? ⟨bi, 3, none⟩ = some (.int .i64 x.ad) ∧ W.cell? ⟨bi, 4, none⟩ = some (.int .i64 x.ln) ∧ W.cell? ⟨bi, 5, none⟩ = some (.int .i64 x.ar) ∧ W.cell? ⟨bi, 6, none⟩ = some (.bool x.bad) ∧ W.cell? ⟨bi, 7, none⟩ = some (.int .i64 s) ∧ W.cell? ⟨bi, 8, none⟩ = some (.int .i64 m)) := Lib.hid fun W hb => by
    have q := PB.out.below hb PB.out.lt
    have q2 := IB2.out.below hb IB2.out.lt
    exact ⟨q.cell 1, q2.cell 0, q2.cell 1, q2.cell 2, q2.cell 3, q2.cell 4, q2.cell 5, q2.cell 6, q2.cell 7, q2.cell 8⟩
  have DONE : Hid (∀ (W : World) (d : Option Addr) (e : Nat), Zz.Fin 9 wx n2 (Fc.L D) #[.int .i64 x.k, .int .u8 x.wh, .int .u8 x.st, .int .i64 x.ad, .int .i64 x.ln, .int .i64 x.ar, .bool x.bad, .int .i64 s, .int .i64 m].toList (.slice d (n2 + 1) e) W → Qu.Aft w (W.setCell ⟨w.heap.size, 1, none⟩ (.slice d (n2 + 1) e)) (.slice (some ⟨g, off, none⟩) n c) (.slice d (n2 + 1) e) lim (D ++ [⟨x, s, m⟩]) ∧ RowZ 9 (W.setCell ⟨w.heap.size, 1, none⟩ (.slice d (n2 + 1) e)) (.slice (some ⟨g, off, none⟩) n c) n (Fc.L ((x :: l).map Qu.nd))) := Lib.hid fun W d e h => by
    obtain ⟨h1, h2, h3, _⟩ := h
    have hb := only_trans GX.out (Qu.grow_of h2)
    have hrl := RB.out.lt
    have hL : Fc.L D ++ #[.int .i64 x.k, .int .u8 x.wh, .int .u8 x.st, .int .i64 x.ad, .int .i64 x.ln, .int .i64 x.ar, .bool x.bad, .int .i64 s, .int .i64 m].toList = Fc.L (D ++ [⟨x, s, m⟩]) := by rw [Fc.L_app]; simp [Fc.L, Fc.C]
    rw [hL] at h1
    have n1 : (Value.slice d (n2 + 1) e).ownBlock ≠ some w.heap.size := fun q => by have := h3 _ q; omega
    refine ⟨⟨?_, ?_, ?_, ?_, fun i hi => by have := h3 _ hi; omega⟩, ?_⟩
    · exact Qu.putn hb (Nat.le_refl _) _
    · have := (PB.out.below h2 PB.out.lt).put 1 (.slice d (n2 + 1) e)
      simpa using this
    · exact (RB.out.below h2 RB.out.lt).far (p := ⟨w.heap.size, 1, none⟩) (by show w.heap.size + 1 ≠ w.heap.size; omega) _
    · rw [show (D ++ [(⟨x, s, m⟩ : Qu.Cl)]).length = n2 + 1 by simp [HN2.out]]
      exact h1.put (p := ⟨w.heap.size, 1, none⟩) n1 _
    · have := ROWX.out.r1.grown (Qu.grow_of h2)
      rw [show (x :: l).length = n by simp [HN.out]] at this
      exact this.put (p := ⟨w.heap.size, 1, none⟩) (fun q => by have := HLT.out _ (.inl q); simp at this) _
  clear kA kB kC mA mB mC yA yB yC zA zB zC hi0 hz0 hz1 hz2
  have b0 : Below wx.heap.size wx wx := Below.refl _ _
  have bE := below_drewN (b0.alloc (by simp) (.cells #[] 62)) 1
  have bF := below_drewN (b0.alloc (by simp) (.cells #[.int .i64 x.k, .int .u8 x.wh, .int .u8 x.st, .int .i64 x.ad, .int .i64 x.ln, .int .i64 x.ar, .bool x.bad, .int .i64 s, .int .i64 m] 62)) 1
  have bEF := below_drewN ((b0.alloc (by simp) (.cells #[] 62)).alloc (by simp) (.cells #[.int .i64 x.k, .int .u8 x.wh, .int .u8 x.st, .int .i64 x.ad, .int .i64 x.ln, .int .i64 x.ar, .bool x.bad, .int .i64 s, .int .i64 m] 62)) 1
  have bFE := below_drewN ((b0.alloc (by simp) (.cells #[.int .i64 x.k, .int .u8 x.wh, .int .u8 x.st, .int .i64 x.ad, .int .i64 x.ln, .int .i64 x.ar, .bool x.bad, .int .i64 s, .int .i64 m] 62)).alloc (by simp) (.cells #[] 62)) 1
  have bWAF := YA.out.alloc YA.out.size (.cells #[.int .i64 x.k, .int .u8 x.wh, .int .u8 x.st, .int .i64 x.ad, .int .i64 x.ln, .int .i64 x.ar, .bool x.bad, .int .i64 s, .int .i64 m] 62)
  refine wp_region_ends 8 (fun w' => w'.cell? ⟨w.heap.size, 1, none⟩ = some (.slice A2 n2 c2) ∧ w'.cell? ⟨bi, 0, none⟩ = some (.int .i64 x.k) ∧ w'.cell? ⟨bi, 1, none⟩ = some (.int .u8 x.wh) ∧ w'.cell? ⟨bi, 2, none⟩ = some (.int .u8 x.st) ∧ w'.cell? ⟨bi, 3, none⟩ = some (.int .i64 x.ad) ∧ w'.cell? ⟨bi, 4, none⟩ = some (.int .i64 x.ln) ∧ w'.cell? ⟨bi, 5, none⟩ = some (.int .i64 x.ar) ∧ w'.cell? ⟨bi, 6, none⟩ = some (.bool x.bad) ∧ w'.cell? ⟨bi, 7, none⟩ = some (.int .i64 s) ∧ w'.cell? ⟨bi, 8, none⟩ = some (.int .i64 m)) (by kernel_rfl) (by kernel_rfl) (SX.out _ (below_drewN b0 1)) (fun hHeld => ?_)
  simp only [List.take_succ_cons, List.take_zero]
  refine wpAnyH_take (i := 1) (oi := _) (v := ?_) rfl (by kernel_rfl) (by kernel_rfl) (by kernel_rfl) (fun _ _ _ h => h) (Or.inl ⟨by rfl, ?_⟩) (by assumption) ?_
  case refine_2 => intro w hSw; (try dsimp only at hSw); go_simp; try with_reducible rfl
  try simp only [Act.put, List.setIfInBounds_toArray, List.set_cons_zero, List.set_cons_succ]
  refine wpAnyH_take (i := 2) (oi := _) (v := ?_) rfl (by kernel_rfl) (by kernel_rfl) (by kernel_rfl) (fun _ _ _ h => h) (Or.inl ⟨by rfl, ?_⟩) (by assumption) ?_
  case refine_2 => intro w hSw; (try dsimp only at hSw); go_simp; try with_reducible rfl
  try simp only [Act.put, List.setIfInBounds_toArray, List.set_cons_zero, List.set_cons_succ]
  refine wpAnyH_take (i := 4) (oi := _) (v := ?_) rfl (by kernel_rfl) (by kernel_rfl) (by kernel_rfl) (fun _ _ _ h => h) (Or.inl ⟨by rfl, ?_⟩) (by assumption) ?_
  case refine_2 => intro w hSw; (try dsimp only at hSw); go_simp; try with_reducible rfl
  try simp only [Act.put, List.setIfInBounds_toArray, List.set_cons_zero, List.set_cons_succ]
  refine wpAnyH_ready (rs := [0, 5]) (by kernel_rfl) (by simp) ?_
  refine AllReadyH.cons (o := _) rfl (fun K hK => ?_) ?_
  · skip
    go_simp
    refine hK.out _ _ (SX.out _ bE) (fun hHeld => ?_)
    clear hK K
    try simp only [Act.put, List.setIfInBounds_toArray, List.set_cons_zero, List.set_cons_succ]
    refine wpAnyH_ready (rs := [3, 5]) (by kernel_rfl) (by simp) ?_
    refine AllReadyH.cons (o := _) rfl (fun K hK => ?_) ?_
    · skip
      refine Zz.step_app rfl (.tmp 16) (.tmp 18) 25 rfl KA.out rfl rfl ?_
      refine hK.out _ _ (SX.out _ YA.out) (fun hHeld => ?_)
      clear hK K
      try simp only [Act.put, List.setIfInBounds_toArray, List.set_cons_zero, List.set_cons_succ]
      refine wpAnyH_ready (rs := [5]) (by kernel_rfl) (by simp) ?_
      refine AllReadyH.cons (o := _) rfl (fun K hK => ?_) AllReadyH.nil
      go_simp
      refine hK.out _ _ (SX.out _ bWAF) (fun hHeld => ?_)
      clear hK K
      try simp only [Act.put, List.setIfInBounds_toArray, List.set_cons_zero, List.set_cons_succ]
      refine wpAnyH_ready (rs := [6]) (by kernel_rfl) (by simp) ?_
      refine AllReadyH.cons (o := _) rfl (fun K hK => ?_) AllReadyH.nil
      refine Zz.step_app rfl (.tmp 19) (.tmp 21) 25 rfl MA.out rfl rfl ?_
      refine hK.out _ _ (SX.out _ ZA.out.2.1) (fun hHeld => ?_)
      clear hK K
      try simp only [Act.put, List.setIfInBounds_toArray, List.set_cons_zero, List.set_cons_succ]
      refine wpAnyH_ready (rs := [7]) (by kernel_rfl) (by simp) ?_
      refine AllReadyH.cons (o := _) rfl (fun K hK => ?_) AllReadyH.nil
      go_simp
      refine hK.out _ _ (SX.out _ ZA.out.2.1) (fun hHeld => ?_)
      clear hK K
      try simp only [Act.put, List.setIfInBounds_toArray, List.set_cons_zero, List.set_cons_succ]
      refine wpAnyH_done (by kernel_rfl) ?_ _
      have q := PB.out.below ZA.out.2.1 PB.out.lt
      have y0 := q.cell 0
      have y1 := q.cell 1
      have y2 := q.cell 2
      have u0 := q.free 0
      have u1 := q.free 1
      clear q
      refine Ends.last rfl (fun K hK => ?_)
      go_simp
      refine hK.out _ _ ?_
      clear hK K
      obtain ⟨hfin, hrow⟩ := DONE.out _ _ _ ZA.out
      clear y0 y1 y2 u0 u1
      obtain ⟨W5, hW5⟩ : ∃ W5, W5 = XA.setCell ⟨w.heap.size, 1, none⟩ (.slice dA (n2 + 1) eA) := ⟨_, rfl⟩
      rw [← hW5] at hfin hrow
      rw [← hW5]
      clear hW5
      have HF := Lib.hid hfin
      have hp5 := hfin.pb.alloc (.cells #[] 62)
      have hr5 := hfin.rb.alloc (.cells #[] 62)
      have y0 := hp5.cell 0
      have y1 := hp5.cell 1
      have y2 := hp5.cell 2
      have u0 := hp5.free 0
      have q0 := hr5.cell 0
      have q1 := hr5.cell 1
      have q2 := hr5.cell 2
      have w0 := hr5.free 0
      have w1 := hr5.free 1
      have w2 := hr5.free 2
      have hsrc := Qu.src_rest (hrow.alloc (.cells #[] 62))
      clear hfin hrow hp5 hr5
      have i1 : (1 : Int) ≤ (n : Int) := by have := HN.out; omega
      have i2 : (n : Int) ≤ (c : Int) := by have := HC.out; omega
      have HSRC := Lib.hid hsrc
      clear hsrc
      by_cases hc1 : c = 1
      · have hs5 := HSRC.out.2.2 hc1
        obtain ⟨A5, c5, W6, k5, r5, g5, o5⟩ := Qu.run_rest (W := W5) hs5 (by have := HN.out; have := HM2.out; omega)
        have HK5 := Lib.hid k5
        have hf6 := Qu.fin_first (w := w) (W6 := W6) (v1 := .slice (some A5) (n - 1) c5) (v2 := .slice dA (n2 + 1) eA) (lim := (lim : Int)) (L := l) (D := D ++ [⟨x, s, m⟩]) (only_trans HF.out.gr g5) (HF.out.pb.only g5 (by simp)) (HF.out.rb.only g5 (by simp)) (by rw [show l.length = n - 1 by have := HN.out; omega]; exact r5) (HF.out.r2.grown g5) (fun i hi => by have := o5 i hi; have := HF.out.rb.lt; omega) HF.out.o2
        have hp6 := HF.out.pb.only g5 (by simp)
        have hr6 := HF.out.rb.only g5 (by simp)
        have b0 := hp6.cell 0
        have b1 := hp6.cell 1
        have b2 := hp6.cell 2
        have v0 := hp6.free 0
        have s0 := hr6.cell 0
        have s1 := hr6.cell 1
        have s2 := hr6.cell 2
        have t0 := hr6.free 0
        have t1 := hr6.free 1
        have t2 := hr6.free 2
        have HF6 := Lib.hid hf6
        clear hf6 hp6 hr6 k5 r5 g5 o5 hs5
        subst hc1
        go_wp2_with (at_builtin; refine wpList_append_eq rfl (.tmp 24) (.tmp 27) 25 rfl HK5.out rfl rfl ?_)
        obtain ⟨z0, z1, z2, hdr, hgr, hof⟩ := HF6.out
        refine bodyPost_ret (v := .agg #[.slice (some A5) (n - 1) c5, .slice dA (n2 + 1) eA, .int .i64 lim]) (by simp [results, Try.results39, go_sem, z0, z1, z2]) rfl ?_
        have e1 : l.length = n - 1 := by have := HN.out; omega
        have e2 : (D ++ [(⟨x, s, m⟩ : Qu.Cl)]).length = n2 + 1 := by simp [HN2.out]
        exact ⟨some A5, c5, dA, eA, by rw [e1, e2]; rfl, by rw [e1, e2]; exact hdr, hgr, fun i hi => .inr (hof i (by rw [e1, e2] at hi; exact hi))⟩
      · have hs5 := HSRC.out.2.1 hc1
        obtain ⟨A5, c5, W6, k5, r5, g5, o5⟩ := Qu.run_rest (W := W5) hs5 (by have := HN.out; have := HM2.out; omega)
        have HK5 := Lib.hid k5
        have hf6 := Qu.fin_first (w := w) (W6 := W6) (v1 := .slice (some A5) (n - 1) c5) (v2 := .slice dA (n2 + 1) eA) (lim := (lim : Int)) (L := l) (D := D ++ [⟨x, s, m⟩]) (only_trans HF.out.gr g5) (HF.out.pb.only g5 (by simp)) (HF.out.rb.only g5 (by simp)) (by rw [show l.length = n - 1 by have := HN.out; omega]; exact r5) (HF.out.r2.grown g5) (fun i hi => by have := o5 i hi; have := HF.out.rb.lt; omega) HF.out.o2
        have hp6 := HF.out.pb.only g5 (by simp)
        have hr6 := HF.out.rb.only g5 (by simp)
        have b0 := hp6.cell 0
        have b1 := hp6.cell 1
        have b2 := hp6.cell 2
        have v0 := hp6.free 0
        have s0 := hr6.cell 0
        have s1 := hr6.cell 1
        have s2 := hr6.cell 2
        have t0 := hr6.free 0
        have t1 := hr6.free 1
        have t2 := hr6.free 2
        have HF6 := Lib.hid hf6
        clear hf6 hp6 hr6 k5 r5 g5 o5 hs5
        go_wp2_with (at_builtin; refine wpList_append_eq rfl (.tmp 24) (.tmp 27) 25 rfl HK5.out rfl rfl ?_)
        obtain ⟨z0, z1, z2, hdr, hgr, hof⟩ := HF6.out
        refine bodyPost_ret (v := .agg #[.slice (some A5) (n - 1) c5, .slice dA (n2 + 1) eA, .int .i64 lim]) (by simp [results, Try.results39, go_sem, z0, z1, z2]) rfl ?_
        have e1 : l.length = n - 1 := by have := HN.out; omega
        have e2 : (D ++ [(⟨x, s, m⟩ : Qu.Cl)]).length = n2 + 1 := by simp [HN2.out]
        exact ⟨some A5, c5, dA, eA, by rw [e1, e2]; rfl, by rw [e1, e2]; exact hdr, hgr, fun i hi => .inr (hof i (by rw [e1, e2] at hi; exact hi))⟩
    · skip
      refine AllReadyH.cons (o := _) rfl (fun K hK => ?_) AllReadyH.nil
      go_simp
      refine hK.out _ _ (SX.out _ bEF) (fun hHeld => ?_)
      clear hK K
      try simp only [Act.put, List.setIfInBounds_toArray, List.set_cons_zero, List.set_cons_succ]
      refine wpAnyH_ready (rs := [3]) (by kernel_rfl) (by simp) ?_
      refine AllReadyH.cons (o := _) rfl (fun K hK => ?_) AllReadyH.nil
      refine Zz.step_app rfl (.tmp 16) (.tmp 18) 25 rfl KB.out rfl rfl ?_
      refine hK.out _ _ (SX.out _ YB.out) (fun hHeld => ?_)
      clear hK K
      try simp only [Act.put, List.setIfInBounds_toArray, List.set_cons_zero, List.set_cons_succ]
      refine wpAnyH_ready (rs := [6]) (by kernel_rfl) (by simp) ?_
      refine AllReadyH.cons (o := _) rfl (fun K hK => ?_) AllReadyH.nil
      refine Zz.step_app rfl (.tmp 19) (.tmp 21) 25 rfl MB.out rfl rfl ?_
      refine hK.out _ _ (SX.out _ ZB.out.2.1) (fun hHeld => ?_)
      clear hK K
      try simp only [Act.put, List.setIfInBounds_toArray, List.set_cons_zero, List.set_cons_succ]
      refine wpAnyH_ready (rs := [7]) (by kernel_rfl) (by simp) ?_
      refine AllReadyH.cons (o := _) rfl (fun K hK => ?_) AllReadyH.nil
      go_simp
      refine hK.out _ _ (SX.out _ ZB.out.2.1) (fun hHeld => ?_)
      clear hK K
      try simp only [Act.put, List.setIfInBounds_toArray, List.set_cons_zero, List.set_cons_succ]
      refine wpAnyH_done (by kernel_rfl) ?_ _
      have q := PB.out.below ZB.out.2.1 PB.out.lt
      have y0 := q.cell 0
      have y1 := q.cell 1
      have y2 := q.cell 2
      have u0 := q.free 0
      have u1 := q.free 1
      clear q
      refine Ends.last rfl (fun K hK => ?_)
      go_simp
      refine hK.out _ _ ?_
      clear hK K
      obtain ⟨hfin, hrow⟩ := DONE.out _ _ _ ZB.out
      clear y0 y1 y2 u0 u1
      obtain ⟨W5, hW5⟩ : ∃ W5, W5 = XB.setCell ⟨w.heap.size, 1, none⟩ (.slice dB (n2 + 1) eB) := ⟨_, rfl⟩
      rw [← hW5] at hfin hrow
      rw [← hW5]
      clear hW5
      have HF := Lib.hid hfin
      have hp5 := hfin.pb.alloc (.cells #[] 62)
      have hr5 := hfin.rb.alloc (.cells #[] 62)
      have y0 := hp5.cell 0
      have y1 := hp5.cell 1
      have y2 := hp5.cell 2
      have u0 := hp5.free 0
      have q0 := hr5.cell 0
      have q1 := hr5.cell 1
      have q2 := hr5.cell 2
      have w0 := hr5.free 0
      have w1 := hr5.free 1
      have w2 := hr5.free 2
      have hsrc := Qu.src_rest (hrow.alloc (.cells #[] 62))
      clear hfin hrow hp5 hr5
      have i1 : (1 : Int) ≤ (n : Int) := by have := HN.out; omega
      have i2 : (n : Int) ≤ (c : Int) := by have := HC.out; omega
      have HSRC := Lib.hid hsrc
      clear hsrc
      by_cases hc1 : c = 1
      · have hs5 := HSRC.out.2.2 hc1
        obtain ⟨A5, c5, W6, k5, r5, g5, o5⟩ := Qu.run_rest (W := W5) hs5 (by have := HN.out; have := HM2.out; omega)
        have HK5 := Lib.hid k5
        have hf6 := Qu.fin_first (w := w) (W6 := W6) (v1 := .slice (some A5) (n - 1) c5) (v2 := .slice dB (n2 + 1) eB) (lim := (lim : Int)) (L := l) (D := D ++ [⟨x, s, m⟩]) (only_trans HF.out.gr g5) (HF.out.pb.only g5 (by simp)) (HF.out.rb.only g5 (by simp)) (by rw [show l.length = n - 1 by have := HN.out; omega]; exact r5) (HF.out.r2.grown g5) (fun i hi => by have := o5 i hi; have := HF.out.rb.lt; omega) HF.out.o2
        have hp6 := HF.out.pb.only g5 (by simp)
        have hr6 := HF.out.rb.only g5 (by simp)
        have b0 := hp6.cell 0
        have b1 := hp6.cell 1
        have b2 := hp6.cell 2
        have v0 := hp6.free 0
        have s0 := hr6.cell 0
        have s1 := hr6.cell 1
        have s2 := hr6.cell 2
        have t0 := hr6.free 0
        have t1 := hr6.free 1
        have t2 := hr6.free 2
        have HF6 := Lib.hid hf6
        clear hf6 hp6 hr6 k5 r5 g5 o5 hs5
        subst hc1
        go_wp2_with (at_builtin; refine wpList_append_eq rfl (.tmp 24) (.tmp 27) 25 rfl HK5.out rfl rfl ?_)
        obtain ⟨z0, z1, z2, hdr, hgr, hof⟩ := HF6.out
        refine bodyPost_ret (v := .agg #[.slice (some A5) (n - 1) c5, .slice dB (n2 + 1) eB, .int .i64 lim]) (by simp [results, Try.results39, go_sem, z0, z1, z2]) rfl ?_
        have e1 : l.length = n - 1 := by have := HN.out; omega
        have e2 : (D ++ [(⟨x, s, m⟩ : Qu.Cl)]).length = n2 + 1 := by simp [HN2.out]
        exact ⟨some A5, c5, dB, eB, by rw [e1, e2]; rfl, by rw [e1, e2]; exact hdr, hgr, fun i hi => .inr (hof i (by rw [e1, e2] at hi; exact hi))⟩
      · have hs5 := HSRC.out.2.1 hc1
        obtain ⟨A5, c5, W6, k5, r5, g5, o5⟩ := Qu.run_rest (W := W5) hs5 (by have := HN.out; have := HM2.out; omega)
        have HK5 := Lib.hid k5
        have hf6 := Qu.fin_first (w := w) (W6 := W6) (v1 := .slice (some A5) (n - 1) c5) (v2 := .slice dB (n2 + 1) eB) (lim := (lim : Int)) (L := l) (D := D ++ [⟨x, s, m⟩]) (only_trans HF.out.gr g5) (HF.out.pb.only g5 (by simp)) (HF.out.rb.only g5 (by simp)) (by rw [show l.length = n - 1 by have := HN.out; omega]; exact r5) (HF.out.r2.grown g5) (fun i hi => by have := o5 i hi; have := HF.out.rb.lt; omega) HF.out.o2
        have hp6 := HF.out.pb.only g5 (by simp)
        have hr6 := HF.out.rb.only g5 (by simp)
        have b0 := hp6.cell 0
        have b1 := hp6.cell 1
        have b2 := hp6.cell 2
        have v0 := hp6.free 0
        have s0 := hr6.cell 0
        have s1 := hr6.cell 1
        have s2 := hr6.cell 2
        have t0 := hr6.free 0
        have t1 := hr6.free 1
        have t2 := hr6.free 2
        have HF6 := Lib.hid hf6
        clear hf6 hp6 hr6 k5 r5 g5 o5 hs5
        go_wp2_with (at_builtin; refine wpList_append_eq rfl (.tmp 24) (.tmp 27) 25 rfl HK5.out rfl rfl ?_)
        obtain ⟨z0, z1, z2, hdr, hgr, hof⟩ := HF6.out
        refine bodyPost_ret (v := .agg #[.slice (some A5) (n - 1) c5, .slice dB (n2 + 1) eB, .int .i64 lim]) (by simp [results, Try.results39, go_sem, z0, z1, z2]) rfl ?_
        have e1 : l.length = n - 1 := by have := HN.out; omega
        have e2 : (D ++ [(⟨x, s, m⟩ : Qu.Cl)]).length = n2 + 1 := by simp [HN2.out]
        exact ⟨some A5, c5, dB, eB, by rw [e1, e2]; rfl, by rw [e1, e2]; exact hdr, hgr, fun i hi => .inr (hof i (by rw [e1, e2] at hi; exact hi))⟩
  · skip
    refine AllReadyH.cons (o := _) rfl (fun K hK => ?_) AllReadyH.nil
    go_simp
    refine hK.out _ _ (SX.out _ bF) (fun hHeld => ?_)
    clear hK K
    try simp only [Act.put, List.setIfInBounds_toArray, List.set_cons_zero, List.set_cons_succ]
    refine wpAnyH_ready (rs := [0]) (by kernel_rfl) (by simp) ?_
    refine AllReadyH.cons (o := _) rfl (fun K hK => ?_) AllReadyH.nil
    go_simp
    refine hK.out _ _ (SX.out _ bFE) (fun hHeld => ?_)
    clear hK K
    try simp only [Act.put, List.setIfInBounds_toArray, List.set_cons_zero, List.set_cons_succ]
    refine wpAnyH_ready (rs := [3]) (by kernel_rfl) (by simp) ?_
    refine AllReadyH.cons (o := _) rfl (fun K hK => ?_) AllReadyH.nil
    refine Zz.step_app rfl (.tmp 16) (.tmp 18) 25 rfl KC.out rfl rfl ?_
    refine hK.out _ _ (SX.out _ YC.out) (fun hHeld => ?_)
    clear hK K
    try simp only [Act.put, List.setIfInBounds_toArray, List.set_cons_zero, List.set_cons_succ]
    refine wpAnyH_ready (rs := [6]) (by kernel_rfl) (by simp) ?_
    refine AllReadyH.cons (o := _) rfl (fun K hK => ?_) AllReadyH.nil
    refine Zz.step_app rfl (.tmp 19) (.tmp 21) 25 rfl MC.out rfl rfl ?_
    refine hK.out _ _ (SX.out _ ZC.out.2.1) (fun hHeld => ?_)
    clear hK K
    try simp only [Act.put, List.setIfInBounds_toArray, List.set_cons_zero, List.set_cons_succ]
    refine wpAnyH_ready (rs := [7]) (by kernel_rfl) (by simp) ?_
    refine AllReadyH.cons (o := _) rfl (fun K hK => ?_) AllReadyH.nil
    go_simp
    refine hK.out _ _ (SX.out _ ZC.out.2.1) (fun hHeld => ?_)
    clear hK K
    try simp only [Act.put, List.setIfInBounds_toArray, List.set_cons_zero, List.set_cons_succ]
    refine wpAnyH_done (by kernel_rfl) ?_ _
    have q := PB.out.below ZC.out.2.1 PB.out.lt
    have y0 := q.cell 0
    have y1 := q.cell 1
    have y2 := q.cell 2
    have u0 := q.free 0
    have u1 := q.free 1
    clear q
    refine Ends.last rfl (fun K hK => ?_)
    go_simp
    refine hK.out _ _ ?_
    clear hK K
    obtain ⟨hfin, hrow⟩ := DONE.out _ _ _ ZC.out
    clear y0 y1 y2 u0 u1
    obtain ⟨W5, hW5⟩ : ∃ W5, W5 = XC.setCell ⟨w.heap.size, 1, none⟩ (.slice dC (n2 + 1) eC) := ⟨_, rfl⟩
    rw [← hW5] at hfin hrow
    rw [← hW5]
    clear hW5
    have HF := Lib.hid hfin
    have hp5 := hfin.pb.alloc (.cells #[] 62)
    have hr5 := hfin.rb.alloc (.cells #[] 62)
    have y0 := hp5.cell 0
    have y1 := hp5.cell 1
    have y2 := hp5.cell 2
    have u0 := hp5.free 0
    have q0 := hr5.cell 0
    have q1 := hr5.cell 1
    have q2 := hr5.cell 2
    have w0 := hr5.free 0
    have w1 := hr5.free 1
    have w2 := hr5.free 2
    have hsrc := Qu.src_rest (hrow.alloc (.cells #[] 62))
    clear hfin hrow hp5 hr5
    have i1 : (1 : Int) ≤ (n : Int) := by have := HN.out; omega
    have i2 : (n : Int) ≤ (c : Int) := by have := HC.out; omega
    have HSRC := Lib.hid hsrc
    clear hsrc
    by_cases hc1 : c = 1
    · have hs5 := HSRC.out.2.2 hc1
      obtain ⟨A5, c5, W6, k5, r5, g5, o5⟩ := Qu.run_rest (W := W5) hs5 (by have := HN.out; have := HM2.out; omega)
      have HK5 := Lib.hid k5
      have hf6 := Qu.fin_first (w := w) (W6 := W6) (v1 := .slice (some A5) (n - 1) c5) (v2 := .slice dC (n2 + 1) eC) (lim := (lim : Int)) (L := l) (D := D ++ [⟨x, s, m⟩]) (only_trans HF.out.gr g5) (HF.out.pb.only g5 (by simp)) (HF.out.rb.only g5 (by simp)) (by rw [show l.length = n - 1 by have := HN.out; omega]; exact r5) (HF.out.r2.grown g5) (fun i hi => by have := o5 i hi; have := HF.out.rb.lt; omega) HF.out.o2
      have hp6 := HF.out.pb.only g5 (by simp)
      have hr6 := HF.out.rb.only g5 (by simp)
      have b0 := hp6.cell 0
      have b1 := hp6.cell 1
      have b2 := hp6.cell 2
      have v0 := hp6.free 0
      have s0 := hr6.cell 0
      have s1 := hr6.cell 1
      have s2 := hr6.cell 2
      have t0 := hr6.free 0
      have t1 := hr6.free 1
      have t2 := hr6.free 2
      have HF6 := Lib.hid hf6
      clear hf6 hp6 hr6 k5 r5 g5 o5 hs5
      subst hc1
      go_wp2_with (at_builtin; refine wpList_append_eq rfl (.tmp 24) (.tmp 27) 25 rfl HK5.out rfl rfl ?_)
      obtain ⟨z0, z1, z2, hdr, hgr, hof⟩ := HF6.out
      refine bodyPost_ret (v := .agg #[.slice (some A5) (n - 1) c5, .slice dC (n2 + 1) eC, .int .i64 lim]) (by simp [results, Try.results39, go_sem, z0, z1, z2]) rfl ?_
      have e1 : l.length = n - 1 := by have := HN.out; omega
      have e2 : (D ++ [(⟨x, s, m⟩ : Qu.Cl)]).length = n2 + 1 := by simp [HN2.out]
      exact ⟨some A5, c5, dC, eC, by rw [e1, e2]; rfl, by rw [e1, e2]; exact hdr, hgr, fun i hi => .inr (hof i (by rw [e1, e2] at hi; exact hi))⟩
    · have hs5 := HSRC.out.2.1 hc1
      obtain ⟨A5, c5, W6, k5, r5, g5, o5⟩ := Qu.run_rest (W := W5) hs5 (by have := HN.out; have := HM2.out; omega)
      have HK5 := Lib.hid k5
      have hf6 := Qu.fin_first (w := w) (W6 := W6) (v1 := .slice (some A5) (n - 1) c5) (v2 := .slice dC (n2 + 1) eC) (lim := (lim : Int)) (L := l) (D := D ++ [⟨x, s, m⟩]) (only_trans HF.out.gr g5) (HF.out.pb.only g5 (by simp)) (HF.out.rb.only g5 (by simp)) (by rw [show l.length = n - 1 by have := HN.out; omega]; exact r5) (HF.out.r2.grown g5) (fun i hi => by have := o5 i hi; have := HF.out.rb.lt; omega) HF.out.o2
      have hp6 := HF.out.pb.only g5 (by simp)
      have hr6 := HF.out.rb.only g5 (by simp)
      have b0 := hp6.cell 0
      have b1 := hp6.cell 1
      have b2 := hp6.cell 2
      have v0 := hp6.free 0
      have s0 := hr6.cell 0
      have s1 := hr6.cell 1
      have s2 := hr6.cell 2
      have t0 := hr6.free 0
      have t1 := hr6.free 1
      have t2 := hr6.free 2
      have HF6 := Lib.hid hf6
      clear hf6 hp6 hr6 k5 r5 g5 o5 hs5
      go_wp2_with (at_builtin; refine wpList_append_eq rfl (.tmp 24) (.tmp 27) 25 rfl HK5.out rfl rfl ?_)
      obtain ⟨z0, z1, z2, hdr, hgr, hof⟩ := HF6.out
      refine bodyPost_ret (v := .agg #[.slice (some A5) (n - 1) c5, .slice dC (n2 + 1) eC, .int .i64 lim]) (by simp [results, Try.results39, go_sem, z0, z1, z2]) rfl ?_
      have e1 : l.length = n - 1 := by have := HN.out; omega
      have e2 : (D ++ [(⟨x, s, m⟩ : Qu.Cl)]).length = n2 + 1 := by simp [HN2.out]
      exact ⟨some A5, c5, dC, eC, by rw [e1, e2]; rfl, by rw [e1, e2]; exact hdr, hgr, fun i hi => .inr (hof i (by rw [e1, e2] at hi; exact hi))⟩
end Go.Proofs.Ytkiifafocmjfkaa

/- The document's queue: New, Settle, Finish, Backlog. -/
namespace Go.Proofs.Ytkiifafocmjfkaa
open Go.RowKit Go.Lib
set_option linter.unusedVariables false
set_option maxRecDepth 8000

theorem Qu.DV.stay {w w' : World} {A A2 : Option Addr} {c c2 lim : Nat} {L : List Qu.It} {D : List Qu.Cl} (h : Qu.Dr w (.slice A L.length c) (.slice A2 D.length c2) L D) (g : w.grownBy w' none) (mk : Value → Value) : Qu.DV w (.slice A L.length c) (.slice A2 D.length c2) L D lim mk (.returned (mk (.agg #[.slice A L.length c, .slice A2 D.length c2, .int .i64 lim]))) w' :=
  ⟨A, c, A2, c2, rfl, h.grown g, g, fun i hi => .inl hi⟩
theorem Qu.DV.trans {w w1 : World} {v1 v2 u1 u2 : Value} {L : List Qu.It} {D : List Qu.Cl} {lim : Nat} {mk : Value → Value} {e : Ending} {w2 : World} (g : w.grownBy w1 none) (ho : ∀ i, Qu.Do u1 u2 i → Qu.Do v1 v2 i ∨ w.heap.size ≤ i) (h : Qu.DV w1 u1 u2 L D lim mk e w2) : Qu.DV w v1 v2 L D lim mk e w2 := by
  obtain ⟨A, c, A2, c2, h1, h2, h3, h4⟩ := h
  exact ⟨A, c, A2, c2, h1, h2, only_trans g h3, fun i hi => (h4 i hi).elim (ho i) (fun e => .inr (Nat.le_trans g.size e))⟩
theorem Qu.DV.put {w W2 w4 W' : World} {v1 v2 : Value} {L : List Qu.It} {D : List Qu.Cl} {lim b : Nat} {mk : Value → Value} {e : Ending} (h : Qu.DV W2 v1 v2 L D lim mk e w4) (g : w.grownBy W2 none) (hlt : ∀ i, Qu.Do v1 v2 i → i < w.heap.size) (hb : w.heap.size ≤ b) (hb2 : b < W2.heap.size) (k : w4.grownBy W' (some b)) : Qu.DV w v1 v2 L D lim mk e W' := by
  obtain ⟨A, c, A2, c2, h1, h2, h3, h4⟩ := h
  have hn : ∀ i, Qu.Do (.slice A L.length c) (.slice A2 D.length c2) i → i ≠ b := fun i hi e => (h4 i hi).elim (fun q => by have := hlt i q; omega) (fun q => by omega)
  have g4 := only_trans g h3
  refine ⟨A, c, A2, c2, h1, h2.keeps (S := fun i => i = b) (Keeps.of_only k (fun i e => by injection e with e; exact e.symm)) hn, ?_, fun i hi => (h4 i hi).imp id (fun q => Nat.le_trans g.size q)⟩
  exact ⟨k.os.trans g4.os, k.tape.trans g4.tape, k.output.trans g4.output, Nat.le_trans g4.size k.size, fun i hi _ => (k.block i (Nat.lt_of_lt_of_le hi g4.size) (fun e => by injection e with e; omega)).trans (g4.block i hi (by simp))⟩
theorem Qu.DV.mk_as {w w' : World} {v1 v2 : Value} {L : List Qu.It} {D : List Qu.Cl} {lim : Nat} {mk' : Value → Value} {v : Value} (h : Qu.DV w v1 v2 L D lim id (.returned v) w') : Qu.DV w v1 v2 L D lim mk' (.returned (mk' v)) w' := by
  obtain ⟨A, c, A2, c2, h1, h2, h3, h4⟩ := h
  injection h1 with h1
  exact ⟨A, c, A2, c2, by rw [h1]; rfl, h2, h3, h4⟩
theorem Qu.rnew_any (n : Int) (w : World) : Calls Try.prog 7 #[.int .i64 n] w fun e w' => e = .returned (.agg #[.slice none 0 0, .slice none 0 0, .int .i64 (limQ (min n 16) : Nat)]) ∧ w.grownBy w' none := by
  have key : n < 0 ∨ (¬ n < 0 ∧ 16 < n) ∨ (¬ n < 0 ∧ ¬ 16 < n) := by omega
  rcases key with h | ⟨h, h2⟩ | ⟨h, h2⟩
  · have E := Lib.hid (show ((limQ (min n 16) : Nat) : Int) = 0 by unfold limQ; omega)
    go_enter Try.func7, Try.ntmps7
    go_wp2
    refine bodyPost_ret (v := .agg #[.slice none 0 0, .slice none 0 0, .int .i64 0]) (by simp [results, Try.results7, go_sem]) rfl ⟨by rw [E.out], ?_⟩
    repeat (first | exact only_refl _ _ | refine only_alloc ?_ _)
  · have E := Lib.hid (show ((limQ (min n 16) : Nat) : Int) = 16 by unfold limQ; omega)
    go_enter Try.func7, Try.ntmps7
    go_wp2
    refine bodyPost_ret (v := .agg #[.slice none 0 0, .slice none 0 0, .int .i64 16]) (by simp [results, Try.results7, go_sem]) rfl ⟨by rw [E.out], ?_⟩
    repeat (first | exact only_refl _ _ | refine only_alloc ?_ _)
  · have E := Lib.hid (show ((limQ (min n 16) : Nat) : Int) = n by unfold limQ; omega)
    go_enter Try.func7, Try.ntmps7
    go_wp2
    refine bodyPost_ret (v := .agg #[.slice none 0 0, .slice none 0 0, .int .i64 n]) (by simp [results, Try.results7, go_sem]) rfl ⟨by rw [E.out], ?_⟩
    repeat (first | exact only_refl _ _ | refine only_alloc ?_ _)
theorem Qu.item_any (x : Qu.It) (w : World) : Calls Try.prog 23 #[.agg #[.int .i64 x.k, .int .u8 x.wh, .int .u8 x.st, .int .i64 x.ad, .int .i64 x.ln, .int .i64 x.ar, .bool x.bad]] w fun e w' => e = .returned (.agg #[.int .i64 x.k, .int .u8 x.wh, .int .u8 x.st, .int .i64 x.ad, .int .i64 x.ln, .int .i64 x.ar, .bool x.bad, .int .i64 0, .int .i64 0]) ∧ w.grownBy w' none := by
  go_enter Try.func23, Try.ntmps23
  go_wp2
  refine bodyPost_ret (v := .agg #[.int .i64 x.k, .int .u8 x.wh, .int .u8 x.st, .int .i64 x.ad, .int .i64 x.ln, .int .i64 x.ar, .bool x.bad, .int .i64 0, .int .i64 0]) (by simp [results, Try.results23, go_sem]) rfl ⟨rfl, ?_⟩
  repeat (first | exact only_refl _ _ | refine only_alloc ?_ _)
theorem Qu.rput_no (A A2 : Option Addr) (c c2 lim : Nat) (L : List Qu.It) (D : List Qu.Cl) (x : Qu.It) (w : World) (h : Qu.Dr w (.slice A L.length c) (.slice A2 D.length c2) L D) (hlt : ¬ L.length + D.length < lim) (hl : L.length + D.length ≤ 100) : Calls Try.prog 22 #[.agg #[.slice A L.length c, .slice A2 D.length c2, .int .i64 lim], .agg #[.int .i64 x.k, .int .u8 x.wh, .int .u8 x.st, .int .i64 x.ad, .int .i64 x.ln, .int .i64 x.ar, .bool x.bad, .int .i64 0, .int .i64 0]] w (Qu.DV w (.slice A L.length c) (.slice A2 D.length c2) L D lim (fun v => .tuple #[v, .bool false])) := by
  have HD := Lib.hid (fun W (g : w.grownBy W none) => Qu.DV.stay (lim := lim) h g (fun v => .tuple #[v, .bool false]))
  clear h
  obtain ⟨n, hn⟩ : ∃ n, L.length = n := ⟨_, rfl⟩
  obtain ⟨n2, hn2⟩ : ∃ n2, D.length = n2 := ⟨_, rfl⟩
  rw [hn, hn2] at HD hlt hl ⊢
  clear hn hn2
  have i1 : (lim : Int) ≤ (n : Int) + (n2 : Int) := by omega
  have u1 : IntKind.i64.wrap ((n : Int) + (n2 : Int)) = (n : Int) + (n2 : Int) := by rw [IntKind.wrap_i64]; omega
  clear hlt hl
  go_enter Try.func22, Try.ntmps22
  go_wp2
  refine bodyPost_ret (v := .tuple #[.agg #[.slice A n c, .slice A2 n2 c2, .int .i64 lim], .bool false]) (by simp [results, Try.results22, go_sem]) rfl (HD.out _ ?_)
  repeat (first | exact only_refl _ _ | refine only_alloc ?_ _)
/-- What waits, cell by cell. -/
theorem Qu.bad_cell {W : World} {A : Option Addr} {c n : Nat} {L : List Qu.It} (h : RowZ 9 W (.slice A n c) n (Fc.L (L.map Qu.nd))) {i : Nat} {x : Qu.It} (hx : L[i]? = some x) : ∃ g off, A = some ⟨g, off, none⟩ ∧ n ≤ c ∧ W.cell? ⟨g, off + i * 9 + 6, none⟩ = some (.bool x.bad) := by
  have hi := (List.getElem?_eq_some_iff.1 hx).1
  have hxe := (List.getElem?_eq_some_iff.1 hx).2
  have hn : n = L.length := by have := h.1; rw [Fc.L_len] at this; simp at this; omega
  rcases h.2 with ⟨e, hz⟩ | ⟨g, off, cap, e, k1, k2, k3, k4, k5⟩
  · omega
  · injection e with e1 e2 e3
    refine ⟨g, off, e1, by omega, ?_⟩
    rw [Nat.add_assoc]
    have hm : i < (L.map Qu.nd).length := by simpa using hi
    have := Fc.L_get (L.map Qu.nd) hm (j := 6) (by omega)
    refine k5 (i * 9 + 6) _ (this.trans ?_)
    simp [Fc.C, Qu.nd, hxe]
set_option maxHeartbeats 3200000 in
theorem Qu.rsettle_any (lim : Nat) : ∀ (L : List Qu.It) (A A2 : Option Addr) (c c2 : Nat) (D : List Qu.Cl) (w : World), Qu.Dr w (.slice A L.length c) (.slice A2 D.length c2) L D → L.length + D.length ≤ 100 → Calls Try.prog 24 #[.agg #[.slice A L.length c, .slice A2 D.length c2, .int .i64 lim]] w (Qu.DV w (.slice A L.length c) (.slice A2 D.length c2) (L.dropWhile (·.bad)) (D ++ (L.takeWhile (·.bad)).map Qu.wr) lim id)
  | [], A, A2, c, c2, D, w, h, hl => by
    have HD := Lib.hid (fun W (g : w.grownBy W none) => show Qu.DV w (.slice A 0 c) (.slice A2 D.length c2) [] D lim id (.returned (.agg #[.slice A 0 c, .slice A2 D.length c2, .int .i64 lim])) W from Qu.DV.stay (lim := lim) h g id)
    clear h hl
    simp only [List.dropWhile_nil, List.takeWhile_nil, List.map_nil, List.append_nil, List.length_nil]
    obtain ⟨n2, hn2⟩ : ∃ n2, D.length = n2 := ⟨_, rfl⟩
    rw [hn2] at HD ⊢
    clear hn2
    go_enter Try.func24, Try.ntmps24
    go_wp2
    refine bodyPost_ret (v := .agg #[.slice A 0 c, .slice A2 n2 c2, .int .i64 lim]) (by simp [results, Try.results24, go_sem]) rfl (HD.out _ ?_)
    repeat (first | exact only_refl _ _ | refine only_alloc ?_ _)
  | x :: l, A, A2, c, c2, D, w, h, hl => by
    obtain ⟨W1, hW1, G1, P1, Z1⟩ := Qu.box1 w 27 #[.slice A (x :: l).length c, .slice A2 D.length c2, .int .i64 lim]
    obtain ⟨W2, hW2, G2, P2, Z2⟩ := Qu.box1 W1 27 #[.slice none 0 0, .slice none 0 0, .int .i64 0]
    rw [Z1] at P2
    have G := only_trans G1 G2
    have h2 := h.grown G
    obtain ⟨g, off, rfl, hnc, c6⟩ := Qu.bad_cell h2.r1 (i := 0) (x := x) rfl
    rw [Nat.zero_mul, Nat.add_zero] at c6
    have HP := Lib.hid (P1.only G2 (by simp))
    have HR := Lib.hid P2
    have HG := Lib.hid G
    have HL := Lib.hid hl
    cases hb : x.bad
    · rw [hb] at c6
      have HD := Lib.hid (fun W (g' : w.grownBy W none) => show Qu.DV w (.slice (some ⟨g, off, none⟩) (x :: l).length c) (.slice A2 D.length c2) ((x :: l).dropWhile (·.bad)) (D ++ ((x :: l).takeWhile (·.bad)).map Qu.wr) lim id (.returned (.agg #[.slice (some ⟨g, off, none⟩) (x :: l).length c, .slice A2 D.length c2, .int .i64 lim])) W from by
        have := Qu.DV.stay (lim := lim) h g' id
        simpa [hb] using this)
      obtain ⟨n, hn⟩ : ∃ n, (x :: l).length = n := ⟨_, rfl⟩
      obtain ⟨n2, hn2⟩ : ∃ n2, D.length = n2 := ⟨_, rfl⟩
      have i1 : (0 : Int) < (n : Int) := by simp at hn; omega
      rw [hn, hn2] at HD HP hW1 ⊢
      clear hn hn2 h h2 hl hnc G1 G2 P1 P2 Z1 Z2 G hb
      have p0 := HP.out.cell 0
      have p1 := HP.out.cell 1
      have p2 := HP.out.cell 2
      have r0 := HR.out.cell 0
      have r1 := HR.out.cell 1
      have r2 := HR.out.cell 2
      have f0 := HR.out.free 0
      have f1 := HR.out.free 1
      have f2 := HR.out.free 2
      simp only [List.getElem?_toArray] at p0 p1 p2 r0 r1 r2
      go_enter Try.func24, Try.ntmps24
      go_upto_region 1 with (fail)
      rw [← hW1, ← hW2]
      clear hW1 hW2
      go_wp2
      refine bodyPost_ret (v := .agg #[.slice (some ⟨g, off, none⟩) n c, .slice A2 n2 c2, .int .i64 lim]) (by simp [results, Try.results24, go_sem, r0, r1, r2]) rfl (HD.out _ ?_)
      exact Qu.putn (Qu.putn (Qu.putn HG.out (Nat.le_succ _) _) (Nat.le_succ _) _) (Nat.le_succ _) _
    · rw [hb] at c6
      have HF := Lib.hid (Qu.rfirst_any (some ⟨g, off, none⟩) A2 c c2 lim x l D 2 0 W2 h2 (by simp at hl; omega))
      have HI := Lib.hid (Qu.rsettle_any lim l)
      have hgoal : ∀ (e : Ending) (w3 w' : World) (u1 u2 : Value), W2.grownBy w3 none → (∀ i, Qu.Do u1 u2 i → Qu.Do (.slice (some ⟨g, off, none⟩) (x :: l).length c) (.slice A2 D.length c2) i ∨ W2.heap.size ≤ i) → Qu.DV w3 u1 u2 (l.dropWhile (·.bad)) ((D ++ [⟨x, 2, 0⟩]) ++ (l.takeWhile (·.bad)).map Qu.wr) lim id e w' → Qu.DV W2 (.slice (some ⟨g, off, none⟩) (x :: l).length c) (.slice A2 D.length c2) ((x :: l).dropWhile (·.bad)) (D ++ ((x :: l).takeWhile (·.bad)).map Qu.wr) lim id e w' := fun e w3 w' u1 u2 hg ho hd => by
        have := Qu.DV.trans hg ho hd
        have e1 : (x :: l).dropWhile (·.bad) = l.dropWhile (·.bad) := by simp [hb]
        have e2 : D ++ ((x :: l).takeWhile (·.bad)).map Qu.wr = (D ++ [⟨x, 2, 0⟩]) ++ (l.takeWhile (·.bad)).map Qu.wr := by simp [hb, Qu.wr]
        rw [e1, e2]
        exact this
      have HGO := Lib.hid hgoal
      have HLT := Lib.hid h.lt
      have HS := Lib.hid (show w.heap.size + 1 < W2.heap.size by rw [Z2, Z1]; omega)
      obtain ⟨n, hn⟩ : ∃ n, (x :: l).length = n := ⟨_, rfl⟩
      obtain ⟨n2, hn2⟩ : ∃ n2, D.length = n2 := ⟨_, rfl⟩
      have i1 : (0 : Int) < (n : Int) := by simp at hn; omega
      have HLL := Lib.hid (show l.length + (D ++ [(⟨x, 2, 0⟩ : Qu.Cl)]).length ≤ 100 by simp at hl ⊢; omega)
      rw [hn, hn2] at HF HP hW1 HGO HLT ⊢
      clear hn hn2 h h2 hl hnc G1 G2 P1 P2 Z1 Z2 G hb hgoal
      have p0 := HP.out.cell 0
      have p1 := HP.out.cell 1
      have p2 := HP.out.cell 2
      simp only [List.getElem?_toArray] at p0 p1 p2
      go_enter Try.func24, Try.ntmps24
      go_upto_region 1 with (fail)
      rw [← hW1, ← hW2]
      clear hW1 hW2
      go_wp2_with (first
        | (go_at_call 39; (with_reducible refine HF.out.mono ?_); rintro e w3 ⟨A5, c5, A6, c6', rfl, hdr, hg3, ho3⟩; have hs2 := HI.out _ _ _ _ _ _ hdr HLL.out; generalize hq : (D ++ [(⟨x, 2, 0⟩ : Qu.Cl)]).length = n5 at hs2 ho3 ⊢; have HS2 := Lib.hid hs2; have HG3 := Lib.hid hg3; have HO3 := Lib.hid ho3; clear hdr hg3 ho3 hs2 hq; dsimp only [id])
        | (go_at_call 24; (with_reducible refine HS2.out.mono ?_); rintro e w4 hdv; have HDV := Lib.hid (HGO.out e w3 w4 _ _ HG3.out HO3.out hdv); obtain ⟨A7, c7, A8, c8, rfl, hdr7, hg7, ho7⟩ := hdv; have q := (HR.out.only HG3.out (by simp)).only hg7 (by simp); have r0 : w4.cell? ⟨w.heap.size + 1, 0, none⟩ = some (.slice none 0 0) := q.cell 0; have r1 : w4.cell? ⟨w.heap.size + 1, 1, none⟩ = some (.slice none 0 0) := q.cell 1; have r2 : w4.cell? ⟨w.heap.size + 1, 2, none⟩ = some (.int .i64 0) := q.cell 2; have f0 := q.free 0; have f1 := q.free 1; have f2 := q.free 2; have HDR7 := Lib.hid hdr7; have HG7 := Lib.hid hg7; have HO7 := Lib.hid ho7; clear q hdr7 hg7 ho7; generalize (l.dropWhile (·.bad)).length = n7 at *; generalize (D ++ [(⟨x, 2, 0⟩ : Qu.Cl)] ++ (l.takeWhile (·.bad)).map Qu.wr).length = n8 at *; dsimp only [id]))
      refine bodyPost_ret (v := .agg #[.slice A7 n7 c7, .slice A8 n8 c8, .int .i64 lim]) (by simp [results, Try.results24, go_sem, r0, r1, r2]) rfl (Qu.DV.put HDV.out HG.out HLT.out (Nat.le_succ _) HS.out ?_)
      exact only_put (only_put (only_put (only_refl _ _) 0 _) 1 _) 2 _
set_option maxHeartbeats 3200000 in
theorem Qu.rfinish_any (A A2 : Option Addr) (c c2 lim : Nat) (L : List Qu.It) (D : List Qu.Cl) (s m : Int) (w : World) (h : Qu.Dr w (.slice A L.length c) (.slice A2 D.length c2) L D) (hl : L.length + D.length ≤ 100) : Calls Try.prog 25 #[.agg #[.slice A L.length c, .slice A2 D.length c2, .int .i64 lim], .int .i64 s, .int .i64 m] w (Qu.DV w (.slice A L.length c) (.slice A2 D.length c2) (L.dropWhile (·.bad)).tail ((D ++ (L.takeWhile (·.bad)).map Qu.wr) ++ Qu.fin (L.dropWhile (·.bad)) s m) lim (fun v => .tuple #[v, .bool (!(L.dropWhile (·.bad)).isEmpty)])) := by
  obtain ⟨W1, hW1, G1, P1, Z1⟩ := Qu.box1 w 27 #[.slice A L.length c, .slice A2 D.length c2, .int .i64 lim]
  obtain ⟨W2, hW2, G2, P2, Z2⟩ := Qu.box1 W1 27 #[.slice none 0 0, .slice none 0 0, .int .i64 0]
  rw [Z1] at P2
  have G := only_trans G1 G2
  have HS := Lib.hid (Qu.rsettle_any lim L A A2 c c2 D W2 (h.grown G) hl)
  have HP := Lib.hid (P1.only G2 (by simp))
  have HR := Lib.hid P2
  have HG := Lib.hid G
  have HLT := Lib.hid h.lt
  have HS2 := Lib.hid (show w.heap.size + 1 < W2.heap.size by rw [Z2, Z1]; omega)
  have hw1 : L.length = (L.takeWhile (·.bad)).length + (L.dropWhile (·.bad)).length := by
    have := congrArg List.length (List.takeWhile_append_dropWhile (p := fun x : Qu.It => x.bad) (l := L))
    rw [List.length_append] at this
    omega
  have HLL := Lib.hid (show (L.dropWhile (·.bad)).length + (D ++ (L.takeWhile (·.bad)).map Qu.wr).length ≤ 100 by simp; omega)
  generalize L.dropWhile (·.bad) = L1 at HS HLL ⊢
  generalize D ++ (L.takeWhile (·.bad)).map Qu.wr = D1 at HS HLL ⊢
  obtain ⟨n, hn⟩ : ∃ n, L.length = n := ⟨_, rfl⟩
  obtain ⟨n2, hn2⟩ : ∃ n2, D.length = n2 := ⟨_, rfl⟩
  rw [hn, hn2] at HS HP hW1 HLT ⊢
  clear hn hn2 h hl G1 G2 P1 P2 Z1 Z2 G hw1
  have p0 : W2.cell? ⟨w.heap.size, 0, none⟩ = some (.slice A n c) := HP.out.cell 0
  have p1 : W2.cell? ⟨w.heap.size, 1, none⟩ = some (.slice A2 n2 c2) := HP.out.cell 1
  have p2 : W2.cell? ⟨w.heap.size, 2, none⟩ = some (.int .i64 lim) := HP.out.cell 2
  go_enter Try.func25, Try.ntmps25
  go_upto_region 1 with (fail)
  rw [← hW1, ← hW2]
  clear hW1 hW2
  cases L1 with
  | nil =>
    go_wp2_with (go_at_call 24; (with_reducible refine HS.out.mono ?_); rintro e w4 hdv; have HDV := Lib.hid hdv; obtain ⟨A7, c7, A8, c8, rfl, hdr7, hg7, ho7⟩ := hdv; have q := (HR.out.only hg7 (by simp)).alloc (.cells #[.slice A7 0 c7, .slice A8 D1.length c8, .int .i64 lim] 27); have r0 := q.cell 0; have r1 := q.cell 1; have r2 := q.cell 2; have f0 := q.free 0; have f1 := q.free 1; have f2 := q.free 2; clear q hdr7 hg7 ho7; generalize D1.length = n8 at *; dsimp only [id])
    refine bodyPost_ret (v := .tuple #[.agg #[.slice A7 0 c7, .slice A8 n8 c8, .int .i64 lim], .bool false]) (by simp [results, Try.results25, go_sem, r0, r1, r2]) rfl ?_
    have e1 : D1 ++ Qu.fin [] s m = D1 := by simp [Qu.fin]
    rw [e1]
    refine Qu.DV.put (Qu.DV.mk_as (mk' := fun v => .tuple #[v, .bool (!([] : List Qu.It).isEmpty)]) HDV.out) HG.out HLT.out (Nat.le_succ _) HS2.out ?_
    exact only_put (only_put (only_put (only_any (only_alloc (only_refl _ none) _) _) 0 _) 1 _) 2 _
  | cons x l =>
    have i1 : ((x :: l).length : Int) ≠ 0 := by simp; omega
    go_wp2_with (first
      | (go_at_call 24; (with_reducible refine HS.out.mono ?_); rintro e w4 ⟨A7, c7, A8, c8, rfl, hdr7, hg7, ho7⟩; have ga : w4.grownBy (w4.alloc (.cells #[.slice A7 (x :: l).length c7, .slice A8 D1.length c8, .int .i64 lim] 27)) none := only_alloc (only_refl _ none) _; have hf := Qu.rfirst_any A7 A8 c7 c8 lim x l D1 s m _ (hdr7.grown ga) (by have := HLL.out; simp at this; omega); have hgo := Lib.hid (fun (e : Ending) (w' : World) (hd : Qu.DV (w4.alloc (.cells #[.slice A7 (x :: l).length c7, .slice A8 D1.length c8, .int .i64 lim] 27)) (.slice A7 (x :: l).length c7) (.slice A8 D1.length c8) l (D1 ++ [⟨x, s, m⟩]) lim id e w') => Qu.DV.trans (only_trans hg7 ga) (fun i hi => (ho7 i hi)) hd); have hrr := (HR.out.only hg7 (by simp)).only ga (by simp); generalize hn7 : (x :: l).length = n7 at *; generalize D1.length = n8 at *; have HF := Lib.hid hf; have HRR := Lib.hid hrr; clear hdr7 hg7 ho7 ga hf hrr; have i2 : ((n7 : Int) == 0) = false := (by simp; omega); dsimp only [id])
      | (go_at_call 39; (with_reducible refine HF.out.mono ?_); rintro e w5 hdv; have HDV := Lib.hid (hgo.out e w5 hdv); obtain ⟨A9, c9, A10, c10, rfl, hdr9, hg9, ho9⟩ := hdv; have q := HRR.out.only hg9 (by simp); have r0 := q.cell 0; have r1 := q.cell 1; have r2 := q.cell 2; have f0 := q.free 0; have f1 := q.free 1; have f2 := q.free 2; clear q hdr9 hg9 ho9; generalize l.length = n9 at *; generalize (D1 ++ [(⟨x, s, m⟩ : Qu.Cl)]).length = n10 at *; dsimp only [id]))
    refine bodyPost_ret (v := .tuple #[.agg #[.slice A9 n9 c9, .slice A10 n10 c10, .int .i64 lim], .bool true]) (by simp [results, Try.results25, go_sem, r0, r1, r2]) rfl ?_
    refine Qu.DV.put (Qu.DV.mk_as (mk' := fun v => .tuple #[v, .bool (!(x :: l).isEmpty)]) HDV.out) HG.out HLT.out (Nat.le_succ _) HS2.out ?_
    exact only_put (only_put (only_put (only_refl _ _) 0 _) 1 _) 2 _
set_option maxHeartbeats 3200000 in
theorem Qu.rbacklog_any (A A2 : Option Addr) (c c2 lim : Nat) (L : List Qu.It) (D : List Qu.Cl) (w : World) (h : Qu.Dr w (.slice A L.length c) (.slice A2 D.length c2) L D) (hl : L.length + D.length ≤ 100) : Calls Try.prog 26 #[.agg #[.slice A L.length c, .slice A2 D.length c2, .int .i64 lim]] w fun e w' => e = .returned (.int .i64 (Qu.cnt L : Nat)) ∧ w.grownBy w' none := by
  obtain ⟨W1, hW1, G1, P1, Z1⟩ := Qu.box1 w 27 #[.slice A L.length c, .slice A2 D.length c2, .int .i64 lim]
  have hr1 := (h.grown G1).r1
  obtain ⟨n, hn⟩ : ∃ n, L.length = n := ⟨_, rfl⟩
  have HN := Lib.hid hn
  rw [hn] at hr1 P1 hW1 ⊢
  have HR := Lib.hid hr1
  have HG := Lib.hid G1
  have hn9 : n ≤ 100 := by omega
  generalize D.length = n2 at *
  have p0 : W1.cell? ⟨w.heap.size, 0, none⟩ = some (.slice A n c) := P1.cell 0
  have HCT := Lib.hid (fun (i : Nat) (x : Qu.It) (hx : L[i]? = some x) => show Qu.cnt (L.take (i + 1)) = Qu.cnt (L.take i) + (if x.bad then 0 else 1) from by
    unfold Qu.cnt
    rw [List.take_add_one, hx, List.filter_append, List.length_append]
    cases hb : x.bad <;> simp [hb])
  have HCL := Lib.hid (fun i => show Qu.cnt (L.take i) ≤ i from by
    unfold Qu.cnt
    refine Nat.le_trans (List.length_filter_le _ _) ?_
    simp
    omega)
  have HEND := Lib.hid (show Qu.cnt (L.take n) = Qu.cnt L by rw [← hn, List.take_length])
  clear h hl hr1 P1 Z1 G1 hn
  go_enter Try.func26, Try.ntmps26
  go_upto_region 1 with (fail)
  rw [← hW1]
  clear hW1
  go_wp2
  go_loopw [3, 4] (fun x y wr => ∃ i : Nat, x = .int .i64 (Qu.cnt (L.take i) : Nat) ∧ y = .int .i64 i ∧ i ≤ 100 ∧ Hid (i ≤ n) ∧ W1 = wr) (fun _ y _ => 100 - (intOf y).toNat)
  case atStart => exact ⟨0, rfl, rfl, by omega, Lib.hid (Nat.zero_le _), rfl⟩
  case round =>
    obtain ⟨i, rfl, rfl, hi9, HI, rfl⟩ := hrel
    by_cases hin : i < n
    · obtain ⟨x, hx⟩ : ∃ x, L[i]? = some x := ⟨_, List.getElem?_eq_getElem (by have := HN.out; omega)⟩
      obtain ⟨g, off, rfl, hnc, c6⟩ := Qu.bad_cell HR.out hx
      have HC := Lib.hid (HCT.out i x hx)
      have HL := Lib.hid (HCL.out i)
      have KK := Lib.hid (show i + 1 ≤ n ∧ i + 1 ≤ 100 from ⟨hin, by omega⟩)
      have i1 : (i : Int) < (n : Int) := by omega
      have i3 : (0 : Int) ≤ (i : Int) := by omega
      have u1 : IntKind.i64.wrap ((i : Int) + 1) = ((i + 1 : Nat) : Int) := by rw [IntKind.wrap_i64]; omega
      obtain ⟨z, hz⟩ : ∃ z, Qu.cnt (L.take i) = z := ⟨_, rfl⟩
      rw [hz] at HC HL ⊢
      have u2 : IntKind.i64.wrap ((z : Int) + 1) = ((z + 1 : Nat) : Int) := by rw [IntKind.wrap_i64]; have := HL.out; omega
      clear hz hx hin hnc
      cases hb : x.bad
      · rw [hb] at c6 HC
        clear hb
        go_wp2
        go_roundw
        case rel => exact ⟨i + 1, by rw [HC.out]; go_num, by go_num, KK.out.2, Lib.hid KK.out.1, trivial⟩
        case measure =>
          have := KK.out
          simp [intOf]
          omega
      · rw [hb] at c6 HC
        clear hb
        go_wp2
        go_roundw
        case rel => exact ⟨i + 1, by rw [HC.out]; rfl, by go_num, KK.out.2, Lib.hid KK.out.1, trivial⟩
        case measure =>
          have := KK.out
          simp [intOf]
          omega
    · have i1 : ¬ (i : Int) < (n : Int) := by omega
      obtain rfl : i = n := by have := HI.out; omega
      clear hin
      go_wp2
      go_ret
      exact ⟨by rw [← HEND.out]; rfl, HG.out⟩
end Go.Proofs.Ytkiifafocmjfkaa
