import Derived.Test.YtjhihccjhnlghaaZG17
import Derived.Test.YtjhihccjhnlghaaZG18
set_option linter.all false
/- A row made anew with one more at its end: what the two appends do; the document's Come. -/
namespace Go.Proofs.Ytjhihccjhnlghaa
open Go.RowKit Go.Lib
set_option linter.unusedVariables false

theorem rframe_info : (Try.prog.info? 73).map (fun i => (i.zero, i.size, i.bytes)) = some (some (.agg #[.int .i64 0, .int .i64 0, .string ⟨#[]⟩]), 3, 32) := by kernel_rfl
/-- What the two appends leave. -/
def Fin2 (W : World) (n : Nat) (xs : List Value) (x : Frm) (v2 : Value) (W4 : World) : Prop :=
  RowZ 3 W4 v2 (n + 1) (xs ++ frC x) ∧ Below W.heap.size W W4 ∧ (∀ i, v2.ownBlock = some i → W.heap.size ≤ i) ∧ ∃ A c, v2 = .slice A (n + 1) c
theorem frm_src (W3 : World) (g : Nat) (x : Frm) (h : Blk W3 g 73 #[.int .i64 x.1, .int .i64 x.2.1, .string x.2.2]) : Src Try.prog 3 50 (.slice (some ⟨g, 0, none⟩) 1 1) 1 (frC x) W3 :=
  Src.ofSlice _ Try.underlying50 _ _ _ _ rfl (by
    intro j u hj
    rw [addr_at, h.cell, Nat.zero_add]
    simpa [frC] using hj) (by simp [frC, Value.oneCell'])
theorem apps_any (W W1 : World) (b n : Nat) (v : Value) (xs : List Value) (x : Frm) (hb : b < W1.heap.size) (hbB : W.heap.size ≤ b) (h01 : W.grownBy W1 none) (hrow : RowZ 3 W v n xs) (h1 : ∀ u ∈ xs, u.oneCell' = true) (hn : n ≤ 1000) :
    ∃ v1 W2, (Builtin.append_ #[50, 50] 50 #[.slice (some ⟨b, 0, none⟩) 0 0, v]).run Try.prog W1 = .ok v1 W2 ∧ (∃ A c, v1 = .slice (some A) n c) ∧ W1.grownBy W2 none ∧
      ∀ W3 g, W2.grownBy W3 none → Blk W3 g 73 #[.int .i64 x.1, .int .i64 x.2.1, .string x.2.2] → ∃ v2 W4, (Builtin.append_ #[50, 50] 50 #[v1, .slice (some ⟨g, 0, none⟩) 1 1]).run Try.prog W3 = .ok v2 W4 ∧ Fin2 W n xs x v2 W4 := by
  obtain ⟨i0, hi0, hz0, hz1, hz2⟩ := info_parts rframe_info
  have hsrc := (hrow.grown h01).src (P := Try.prog) 50 73 Try.underlying50 h1
  obtain ⟨v1, W2, hk, hr, hg, ho, hf⟩ := run_allZ (P := Try.prog) W1 50 73 50 i0 _ 32 Try.underlying50 hi0 hz0 hz1 hz2 (by omega) rfl b n hb v xs hsrc (by omega)
  refine ⟨v1, W2, hk, hf, hg, fun W3 g h23 hx => ?_⟩
  obtain ⟨v2, W4, hk2, hr2, hg2, ho2⟩ := run_pushZ (P := Try.prog) W3 50 73 50 i0 _ 32 Try.underlying50 hi0 hz0 hz1 hz2 (by omega) rfl _ _ _ (hr.grown h23) h1 _ _ (frm_src W3 g x hx) (by omega)
  have s01 := h01.size
  have s12 := hg.size
  have s23 := h23.size
  have hv1 : ∀ i, v1.ownBlock = some i → W.heap.size ≤ i := fun i hi => by
    rcases ho with ho | ho
    · rw [ho] at hi; injection hi with hi; omega
    · rw [ho] at hi; injection hi with hi; omega
  refine ⟨v2, W4, hk2, hr2, ?_, fun i hi => ?_, hr2.form⟩
  · have b3 : Below W.heap.size W W3 := below_of_only (only_trans (only_trans h01 hg) h23) (Nat.le_refl _) (by simp)
    exact b3.trans (below_of_only hg2 (by omega) hv1)
  · rcases ho2 with ho2 | ho2
    · exact hv1 i (ho2 ▸ hi)
    · rw [ho2] at hi; injection hi with hi; omega

/-- A port of the document by value. -/
abbrev rpv (p : Rp) : Value := .agg #[.int .i64 p.1, .int .i64 p.2.1, .int .i64 p.2.2.1, p.2.2.2.1, .int .i64 p.2.2.2.2]
/-- What Come of the document answers where there is no room. -/
theorem rcome_full (o mac lim dr : Int) (v : Value) (l : List Frm) (s : ByteArray) (w : World) (hv : RowZ 3 w v l.length (frL l)) (hl : lim ≤ (l.length : Int)) (hd : 0 ≤ dr ∧ dr ≤ 1000000) :
    Calls Try.prog 41 #[rpv (o, mac, lim, v, dr), .string s] w fun e w' => e = .returned (.tuple #[rpv (o, mac, lim, v, dr + 1), .bool false]) ∧ Below w.heap.size w w' := by
  obtain ⟨A, c, rfl⟩ := hv.form
  have hw : IntKind.i64.wrap (dr + 1) = dr + 1 := by rw [IntKind.wrap_i64]; omega
  clear hv
  go_enter Try.func41, Try.ntmps41
  go_wp2
  refine bodyPost_ret (v := .tuple #[.agg #[.int .i64 o, .int .i64 mac, .int .i64 lim, .slice A l.length c, .int .i64 (dr + 1)], .bool false]) (by simp [results, Try.results41, go_sem]) rfl ⟨rfl, ((Below.refl _ _).alloc (Nat.le_refl _) _).alloc (by simp) _⟩

set_option maxRecDepth 20000 in
set_option maxHeartbeats 6400000 in
theorem rcome_room (o mac lim dr : Int) (v : Value) (l : List Frm) (s : ByteArray) (w : World) (hs : s.size ≤ 1000) (hv : RowZ 3 w v l.length (frL l)) (hvl : ∀ i, v.ownBlock = some i → i < w.heap.size) (hl : ¬ lim ≤ (l.length : Int)) (hn : l.length ≤ 1000) :
    Calls Try.prog 41 #[rpv (o, mac, lim, v, dr), .string s] w fun e w' => ∃ v2, e = .returned (.tuple #[rpv (o, mac, lim, v2, dr), .bool true]) ∧ RowZ 3 w' v2 (l.length + 1) (frL (l ++ [(Fr.paV s).1])) ∧ (∀ i, v2.ownBlock = some i → w.heap.size ≤ i) ∧ Below w.heap.size w w' := by
  have HP := Lib.hid (fun W => rparse_any s W hs)
  have hlen : (frL (l ++ [(Fr.paV s).1])) = frL l ++ frC (Fr.paV s).1 := by rw [frL_app, frL_one]
  rw [hlen]
  generalize Fr.paV s = x at HP ⊢
  obtain ⟨⟨x1, x2, x3⟩, e0⟩ := x
  simp only at HP
  obtain ⟨A, c, rfl⟩ := hv.form
  have HV := Lib.hid hv
  have hone := frL_cell l
  have HONE := Lib.hid hone
  clear hv hlen hone
  go_enter Try.func41, Try.ntmps41
  go_wp2_with (go_at_call 27; with_reducible refine (HP.out _).mono ?_; rintro e w1 ⟨rfl, b1⟩; have B1 := Lib.hid b1; clear b1)
  have HPB := Lib.hid (((Blk.new w 52 #[.int .i64 o, .int .i64 mac, .int .i64 lim, .slice A l.length c, .int .i64 dr]).alloc (.cells #[.int .i64 0, .int .i64 0, .int .i64 0, .slice none 0 0, .int .i64 0] 52)).below B1.out (by first | (simp; done) | (simp; omega)))
  have HZB := Lib.hid ((Blk.new (w.alloc (.cells #[.int .i64 o, .int .i64 mac, .int .i64 lim, .slice A l.length c, .int .i64 dr] 52)) 52 #[.int .i64 0, .int .i64 0, .int .i64 0, .slice none 0 0, .int .i64 0]).below B1.out (by first | (simp; done) | (simp; omega)))
  have BW1 := Lib.hid ((((Below.refl w.heap.size w).alloc (Nat.le_refl _) (.cells #[.int .i64 o, .int .i64 mac, .int .i64 lim, .slice A l.length c, .int .i64 dr] 52)).alloc (by simp) (.cells #[.int .i64 0, .int .i64 0, .int .i64 0, .slice none 0 0, .int .i64 0] 52)).trans (B1.out.mono (by first | (simp; done) | (simp; omega))))
  have HVW := Lib.hid (HV.out.below BW1.out hvl)
  have HF1 := Lib.hid (Blk.new w1 73 #[.int .i64 x1, .int .i64 x2, .string x3])
  generalize hwx : w1.alloc (.cells #[.int .i64 x1, .int .i64 x2, .string x3] 73) = wx at HF1 ⊢
  have SX : wx.heap.size = w1.heap.size + 1 := by rw [← hwx]; simp
  have BX : Hid (Below w.heap.size w wx) := Lib.hid (by rw [← hwx]; exact BW1.out.alloc BW1.out.size _)
  have PB : Hid (Blk wx w.heap.size 52 #[.int .i64 o, .int .i64 mac, .int .i64 lim, .slice A l.length c, .int .i64 dr]) := Lib.hid (by rw [← hwx]; exact HPB.out.alloc _)
  have ZB : Hid (Blk wx (w.heap.size + 1) 52 #[.int .i64 0, .int .i64 0, .int .i64 0, .slice none 0 0, .int .i64 0]) := Lib.hid (by rw [← hwx]; have := HZB.out.alloc (.cells #[.int .i64 x1, .int .i64 x2, .string x3] 73); simpa using this)
  have VX : Hid (RowZ 3 wx (.slice A l.length c) l.length (frL l)) := Lib.hid (by rw [← hwx]; exact HVW.out.alloc _)
  have HX := Lib.hid SX
  clear hwx SX HPB HZB HVW HV B1 BW1 hvl
  obtain ⟨vA, WA, kA, ⟨aA, cA, rfl⟩, gA, nA⟩ := apps_any wx (wx.alloc (.cells #[] 73)).drew wx.heap.size l.length (.slice A l.length c) (frL l) (x1, x2, x3) (by simp) (by simp) (only_drewN (only_alloc (only_refl _ none) _) 1) VX.out HONE.out hn
  obtain ⟨vB, WB, kB, ⟨aB, cB, rfl⟩, gB, nB⟩ := apps_any wx ((wx.alloc (.cells #[] 73)).alloc (.cells #[.int .i64 x1, .int .i64 x2, .string x3] 73)).drew wx.heap.size l.length (.slice A l.length c) (frL l) (x1, x2, x3) (by first | (simp; done) | (simp; omega)) (by simp) (only_drewN (only_alloc (only_alloc (only_refl _ none) _) _) 1) VX.out HONE.out hn
  obtain ⟨vC, WC, kC, ⟨aC, cC, rfl⟩, gC, nC⟩ := apps_any wx ((wx.alloc (.cells #[.int .i64 x1, .int .i64 x2, .string x3] 73)).alloc (.cells #[] 73)).drew (wx.heap.size + 1) l.length (.slice A l.length c) (frL l) (x1, x2, x3) (by simp) (by first | (simp; done) | (simp; omega)) (only_drewN (only_alloc (only_alloc (only_refl _ none) _) _) 1) VX.out HONE.out hn
  obtain ⟨uA, XA, mA, zA, yA, xA, ⟨dA, eA, rfl⟩⟩ := nA (WA.alloc (.cells #[.int .i64 x1, .int .i64 x2, .string x3] 73)) WA.heap.size (only_alloc (only_refl _ none) _) (Blk.new WA _ _)
  obtain ⟨uB, XB, mB, zB, yB, xB, ⟨dB, eB, rfl⟩⟩ := nB WB (wx.heap.size + 1) (only_refl _ none) ((show Blk (((wx.alloc (.cells #[] 73)).alloc (.cells #[.int .i64 x1, .int .i64 x2, .string x3] 73)).drewN 1) (wx.heap.size + 1) 73 #[.int .i64 x1, .int .i64 x2, .string x3] from by simpa using (Blk.new (wx.alloc (.cells #[] 73)) 73 #[.int .i64 x1, .int .i64 x2, .string x3]).drewN 1).only gB (by simp))
  obtain ⟨uC, XC, mC, zC, yC, xC, ⟨dC, eC, rfl⟩⟩ := nC WC wx.heap.size (only_refl _ none) ((((Blk.new wx 73 #[.int .i64 x1, .int .i64 x2, .string x3]).alloc (.cells #[] 73)).drewN 1).only gC (by simp))
  have f2 : ∀ W, Below wx.heap.size wx W → W.cell? ⟨w1.heap.size, 0, none⟩ = some (.int .i64 x1) ∧ W.cell? ⟨w1.heap.size, 1, none⟩ = some (.int .i64 x2) ∧ W.cell? ⟨w1.heap.size, 2, none⟩ = some (.string x3) := fun W hb => by
    have q := HF1.out.below hb HF1.out.lt
    exact ⟨q.cell 0, q.cell 1, q.cell 2⟩
  have p2 : ∀ W, Below wx.heap.size wx W → W.cell? ⟨w.heap.size, 0, none⟩ = some (.int .i64 o) ∧ W.cell? ⟨w.heap.size, 1, none⟩ = some (.int .i64 mac) ∧ W.cell? ⟨w.heap.size, 2, none⟩ = some (.int .i64 lim) ∧ W.cell? ⟨w.heap.size, 3, none⟩ = some (.slice A l.length c) ∧ W.cell? ⟨w.heap.size, 4, none⟩ = some (.int .i64 dr) ∧ W.frozen? ⟨w.heap.size, 3, none⟩ = false := fun W hb => by
    have q := PB.out.below hb PB.out.lt
    exact ⟨q.cell 0, q.cell 1, q.cell 2, q.cell 3, q.cell 4, q.free 3⟩
  have z2 : ∀ W, Below wx.heap.size wx W → (W.cell? ⟨w.heap.size + 1, 0, none⟩ = some (.int .i64 0) ∧ W.cell? ⟨w.heap.size + 1, 1, none⟩ = some (.int .i64 0) ∧ W.cell? ⟨w.heap.size + 1, 2, none⟩ = some (.int .i64 0) ∧ W.cell? ⟨w.heap.size + 1, 3, none⟩ = some (.slice none 0 0) ∧ W.cell? ⟨w.heap.size + 1, 4, none⟩ = some (.int .i64 0)) ∧ W.frozen? ⟨w.heap.size + 1, 0, none⟩ = false ∧ W.frozen? ⟨w.heap.size + 1, 1, none⟩ = false ∧ W.frozen? ⟨w.heap.size + 1, 2, none⟩ = false ∧ W.frozen? ⟨w.heap.size + 1, 3, none⟩ = false ∧ W.frozen? ⟨w.heap.size + 1, 4, none⟩ = false := fun W hb => by
    have q := ZB.out.below hb ZB.out.lt
    exact ⟨⟨q.cell 0, q.cell 1, q.cell 2, q.cell 3, q.cell 4⟩, q.free 0, q.free 1, q.free 2, q.free 3, q.free 4⟩
  have b0 : Below wx.heap.size wx wx := Below.refl _ _
  have bE : Below wx.heap.size wx (wx.alloc (.cells #[] 73)) := b0.alloc (by simp) _
  have bF : Below wx.heap.size wx (wx.alloc (.cells #[.int .i64 x1, .int .i64 x2, .string x3] 73)) := b0.alloc (by simp) _
  have bEF : Below wx.heap.size wx ((wx.alloc (.cells #[] 73)).alloc (.cells #[.int .i64 x1, .int .i64 x2, .string x3] 73)) := bE.alloc bE.size _
  have bFE : Below wx.heap.size wx ((wx.alloc (.cells #[.int .i64 x1, .int .i64 x2, .string x3] 73)).alloc (.cells #[] 73)) := bF.alloc bF.size _
  have bWA : Below wx.heap.size wx WA := (below_drewN bE 1).trans (below_of_only gA bE.size (by simp))
  have bXA : Below wx.heap.size wx XA := b0.trans yA
  have bXB : Below wx.heap.size wx XB := b0.trans yB
  have bXC : Below wx.heap.size wx XC := b0.trans yC
  have bEd : Below wx.heap.size wx (wx.alloc (.cells #[] 73)).drew := below_drewN bE 1
  have bFd : Below wx.heap.size wx (wx.alloc (.cells #[.int .i64 x1, .int .i64 x2, .string x3] 73)).drew := below_drewN bF 1
  have bEFd : Below wx.heap.size wx ((wx.alloc (.cells #[] 73)).alloc (.cells #[.int .i64 x1, .int .i64 x2, .string x3] 73)).drew := below_drewN bEF 1
  have bFEd : Below wx.heap.size wx ((wx.alloc (.cells #[.int .i64 x1, .int .i64 x2, .string x3] 73)).alloc (.cells #[] 73)).drew := below_drewN bFE 1
  have bWAF : Below wx.heap.size wx (WA.alloc (.cells #[.int .i64 x1, .int .i64 x2, .string x3] 73)) := bWA.alloc bWA.size _
  have bWB : Below wx.heap.size wx WB := bEFd.trans (below_of_only gB bEF.size (by simp))
  have bWC : Below wx.heap.size wx WC := bFEd.trans (below_of_only gC bFE.size (by simp))
  have SX : Hid (∀ W, Below wx.heap.size wx W → W.cell? ⟨w.heap.size, 3, none⟩ = some (.slice A l.length c) ∧ W.cell? ⟨w1.heap.size, 0, none⟩ = some (.int .i64 x1) ∧ W.cell? ⟨w1.heap.size, 1, none⟩ = some (.int .i64 x2) ∧ W.cell? ⟨w1.heap.size, 2, none⟩ = some (.string x3)) := Lib.hid fun W hb => ⟨(p2 W hb).2.2.2.1, f2 W hb⟩
  have FINX : Hid (∀ W v2, Fin2 wx l.length (frL l) (x1, x2, x3) v2 W → ((W.cell? ⟨w.heap.size, 0, none⟩ = some (.int .i64 o) ∧ W.cell? ⟨w.heap.size, 1, none⟩ = some (.int .i64 mac) ∧ W.cell? ⟨w.heap.size, 2, none⟩ = some (.int .i64 lim) ∧ W.cell? ⟨w.heap.size, 3, none⟩ = some (.slice A l.length c) ∧ W.cell? ⟨w.heap.size, 4, none⟩ = some (.int .i64 dr) ∧ W.frozen? ⟨w.heap.size, 3, none⟩ = false)) ∧
    (W.cell? ⟨w.heap.size + 1, 0, none⟩ = some (.int .i64 0) ∧ W.cell? ⟨w.heap.size + 1, 1, none⟩ = some (.int .i64 0) ∧ W.cell? ⟨w.heap.size + 1, 2, none⟩ = some (.int .i64 0) ∧ W.cell? ⟨w.heap.size + 1, 3, none⟩ = some (.slice none 0 0) ∧ W.cell? ⟨w.heap.size + 1, 4, none⟩ = some (.int .i64 0)) ∧ W.frozen? ⟨w.heap.size + 1, 0, none⟩ = false ∧ W.frozen? ⟨w.heap.size + 1, 1, none⟩ = false ∧ W.frozen? ⟨w.heap.size + 1, 2, none⟩ = false ∧ W.frozen? ⟨w.heap.size + 1, 3, none⟩ = false ∧ W.frozen? ⟨w.heap.size + 1, 4, none⟩ = false) := Lib.hid fun W v2 h => ⟨p2 W h.2.1, z2 W h.2.1⟩
  have FA : Hid (Fin2 wx l.length (frL l) (x1, x2, x3) (.slice dA (l.length + 1) eA) XA) := Lib.hid ⟨zA, yA, xA, _, _, rfl⟩
  have FB : Hid (Fin2 wx l.length (frL l) (x1, x2, x3) (.slice dB (l.length + 1) eB) XB) := Lib.hid ⟨zB, yB, xB, _, _, rfl⟩
  have FC : Hid (Fin2 wx l.length (frL l) (x1, x2, x3) (.slice dC (l.length + 1) eC) XC) := Lib.hid ⟨zC, yC, xC, _, _, rfl⟩
  have HLT := ZB.out.lt
  have DONE : Hid (∀ W v2, Fin2 wx l.length (frL l) (x1, x2, x3) v2 W → RowZ 3 ((((((W.setCell ⟨w.heap.size, 3, none⟩ v2).setCell ⟨w.heap.size + 1, 0, none⟩ (.int .i64 o)).setCell ⟨w.heap.size + 1, 1, none⟩ (.int .i64 mac)).setCell ⟨w.heap.size + 1, 2, none⟩ (.int .i64 lim)).setCell ⟨w.heap.size + 1, 3, none⟩ v2).setCell ⟨w.heap.size + 1, 4, none⟩ (.int .i64 dr)) v2 (l.length + 1) (frL l ++ frC (x1, x2, x3)) ∧ (∀ i, v2.ownBlock = some i → w.heap.size ≤ i) ∧ Below w.heap.size w ((((((W.setCell ⟨w.heap.size, 3, none⟩ v2).setCell ⟨w.heap.size + 1, 0, none⟩ (.int .i64 o)).setCell ⟨w.heap.size + 1, 1, none⟩ (.int .i64 mac)).setCell ⟨w.heap.size + 1, 2, none⟩ (.int .i64 lim)).setCell ⟨w.heap.size + 1, 3, none⟩ v2).setCell ⟨w.heap.size + 1, 4, none⟩ (.int .i64 dr))) := Lib.hid fun W v2 h => by
    obtain ⟨h1, h2, h3, _⟩ := h
    have n1 : v2.ownBlock ≠ some w.heap.size := fun e => by have := h3 _ e; omega
    have n2 : v2.ownBlock ≠ some (w.heap.size + 1) := fun e => by have := h3 _ e; omega
    have hb := BX.out.trans (h2.mono BX.out.size)
    exact ⟨(((((h1.put (p := ⟨w.heap.size, 3, none⟩) n1 _).put (p := ⟨w.heap.size + 1, 0, none⟩) n2 _).put (p := ⟨w.heap.size + 1, 1, none⟩) n2 _).put (p := ⟨w.heap.size + 1, 2, none⟩) n2 _).put (p := ⟨w.heap.size + 1, 3, none⟩) n2 _).put (p := ⟨w.heap.size + 1, 4, none⟩) n2 _, fun i hi => by have := h3 i hi; omega,
      (((((hb.setCell (p := ⟨w.heap.size, 3, none⟩) (Nat.le_refl _) _).setCell (p := ⟨w.heap.size + 1, 0, none⟩) (Nat.le_succ _) _).setCell (p := ⟨w.heap.size + 1, 1, none⟩) (Nat.le_succ _) _).setCell (p := ⟨w.heap.size + 1, 2, none⟩) (Nat.le_succ _) _).setCell (p := ⟨w.heap.size + 1, 3, none⟩) (Nat.le_succ _) _).setCell (p := ⟨w.heap.size + 1, 4, none⟩) (Nat.le_succ _) _⟩
  clear HLT
  have kA := Lib.hid kA
  have kB := Lib.hid kB
  have kC := Lib.hid kC
  have mA := Lib.hid mA
  have mB := Lib.hid mB
  have mC := Lib.hid mC
  clear f2 p2 z2 bE bF bEF bFE yA yB yC zA zB zC xA xB xC gA gB gC nA nB nC PB ZB VX HF1
  refine wp_region_ends 8 (fun w' => w'.cell? ⟨w.heap.size, 3, none⟩ = some (.slice A l.length c) ∧ w'.cell? ⟨w1.heap.size, 0, none⟩ = some (.int .i64 x1) ∧ w'.cell? ⟨w1.heap.size, 1, none⟩ = some (.int .i64 x2) ∧ w'.cell? ⟨w1.heap.size, 2, none⟩ = some (.string x3)) (by kernel_rfl) (by kernel_rfl) (SX.out _ (below_drewN b0 1)) (fun hHeld => ?_)
  simp only [List.take_succ_cons, List.take_zero]
  refine wpAnyH_take (i := 1) (oi := _) (v := ?_) rfl (by kernel_rfl) (by kernel_rfl) (by kernel_rfl) (fun _ _ _ h => h) (Or.inl ⟨by rfl, ?_⟩) (by assumption) ?_
  case refine_2 => intro w hSw; (try dsimp only at hSw); go_simp; try with_reducible rfl
  try simp only [Act.put, List.setIfInBounds_toArray, List.set_cons_zero, List.set_cons_succ]
  refine wpAnyH_take (i := 2) (oi := _) (v := ?_) rfl (by kernel_rfl) (by kernel_rfl) (by kernel_rfl) (fun _ _ _ h => h) (Or.inl ⟨by rfl, ?_⟩) (by assumption) ?_
  case refine_2 => intro w hSw; (try dsimp only at hSw); go_simp; try with_reducible rfl
  try simp only [Act.put, List.setIfInBounds_toArray, List.set_cons_zero, List.set_cons_succ]
  refine wpAnyH_take (i := 4) (oi := _) (v := ?_) rfl (by kernel_rfl) (by kernel_rfl) (by kernel_rfl) (fun _ _ _ h => h) (Or.inl ⟨by rfl, ?_⟩) (by assumption) ?_
  case refine_2 => intro w hSw; (try dsimp only at hSw); go_simp; try with_reducible rfl
  try simp only [Act.put, List.setIfInBounds_toArray, List.set_cons_zero, List.set_cons_succ]
  refine wpAnyH_ready (rs := [0, 5]) (by kernel_rfl) (by simp) ?_
  refine AllReadyH.cons (o := _) rfl (fun K hK => ?_) ?_
  · go_simp
    refine hK.out _ _ (SX.out _ bEd) (fun hHeld => ?_)
    clear hK K
    try simp only [Act.put, List.setIfInBounds_toArray, List.set_cons_zero, List.set_cons_succ]
    refine wpAnyH_ready (rs := [3, 5]) (by kernel_rfl) (by simp) ?_
    refine AllReadyH.cons (o := _) rfl (fun K hK => ?_) ?_
    · refine step_append_eq rfl (.tmp 24) (.tmp 26) 50 rfl kA.out rfl rfl ?_
      refine hK.out _ _ (SX.out _ bWA) (fun hHeld => ?_)
      clear hK K
      try simp only [Act.put, List.setIfInBounds_toArray, List.set_cons_zero, List.set_cons_succ]
      refine wpAnyH_ready (rs := [5]) (by kernel_rfl) (by simp) ?_
      refine AllReadyH.cons (o := _) rfl (fun K hK => ?_) AllReadyH.nil
      go_simp
      refine hK.out _ _ (SX.out _ bWAF) (fun hHeld => ?_)
      clear hK K
      try simp only [Act.put, List.setIfInBounds_toArray, List.set_cons_zero, List.set_cons_succ]
      refine wpAnyH_ready (rs := [6]) (by kernel_rfl) (by simp) ?_
      refine AllReadyH.cons (o := _) rfl (fun K hK => ?_) AllReadyH.nil
      refine step_append_eq rfl (.tmp 27) (.tmp 29) 50 rfl mA.out rfl rfl ?_
      refine hK.out _ _ (SX.out _ bXA) (fun hHeld => ?_)
      clear hK K
      try simp only [Act.put, List.setIfInBounds_toArray, List.set_cons_zero, List.set_cons_succ]
      refine wpAnyH_ready (rs := [7]) (by kernel_rfl) (by simp) ?_
      refine AllReadyH.cons (o := _) rfl (fun K hK => ?_) AllReadyH.nil
      go_simp
      refine hK.out _ _ (SX.out _ bXA) (fun hHeld => ?_)
      clear hK K
      try simp only [Act.put, List.setIfInBounds_toArray, List.set_cons_zero, List.set_cons_succ]
      refine wpAnyH_done (by kernel_rfl) ?_ _
      obtain ⟨⟨y0, y1, y2, y3, y4, y5⟩, ⟨z0, z1, z2, z3, z4⟩, u0, u1, u2, u3, u4⟩ := FINX.out _ _ FA.out
      refine Ends.last rfl (fun K hK => ?_)
      go_simp
      refine hK.out _ _ ?_
      clear hK K
      go_wp2
      refine bodyPost_ret (v := .tuple #[.agg #[.int .i64 o, .int .i64 mac, .int .i64 lim, .slice dA (l.length + 1) eA, .int .i64 dr], .bool true]) (by simp [results, Try.results41, go_sem, z0, z1, z2, z3, z4]) rfl ⟨_, rfl, DONE.out _ _ FA.out⟩
    · refine AllReadyH.cons (o := _) rfl (fun K hK => ?_) AllReadyH.nil
      go_simp
      refine hK.out _ _ (SX.out _ bEFd) (fun hHeld => ?_)
      clear hK K
      try simp only [Act.put, List.setIfInBounds_toArray, List.set_cons_zero, List.set_cons_succ]
      refine wpAnyH_ready (rs := [3]) (by kernel_rfl) (by simp) ?_
      refine AllReadyH.cons (o := _) rfl (fun K hK => ?_) AllReadyH.nil
      refine step_append_eq rfl (.tmp 24) (.tmp 26) 50 rfl kB.out rfl rfl ?_
      refine hK.out _ _ (SX.out _ bWB) (fun hHeld => ?_)
      clear hK K
      try simp only [Act.put, List.setIfInBounds_toArray, List.set_cons_zero, List.set_cons_succ]
      refine wpAnyH_ready (rs := [6]) (by kernel_rfl) (by simp) ?_
      refine AllReadyH.cons (o := _) rfl (fun K hK => ?_) AllReadyH.nil
      refine step_append_eq rfl (.tmp 27) (.tmp 29) 50 rfl mB.out rfl rfl ?_
      refine hK.out _ _ (SX.out _ bXB) (fun hHeld => ?_)
      clear hK K
      try simp only [Act.put, List.setIfInBounds_toArray, List.set_cons_zero, List.set_cons_succ]
      refine wpAnyH_ready (rs := [7]) (by kernel_rfl) (by simp) ?_
      refine AllReadyH.cons (o := _) rfl (fun K hK => ?_) AllReadyH.nil
      go_simp
      refine hK.out _ _ (SX.out _ bXB) (fun hHeld => ?_)
      clear hK K
      try simp only [Act.put, List.setIfInBounds_toArray, List.set_cons_zero, List.set_cons_succ]
      refine wpAnyH_done (by kernel_rfl) ?_ _
      obtain ⟨⟨y0, y1, y2, y3, y4, y5⟩, ⟨z0, z1, z2, z3, z4⟩, u0, u1, u2, u3, u4⟩ := FINX.out _ _ FB.out
      refine Ends.last rfl (fun K hK => ?_)
      go_simp
      refine hK.out _ _ ?_
      clear hK K
      go_wp2
      refine bodyPost_ret (v := .tuple #[.agg #[.int .i64 o, .int .i64 mac, .int .i64 lim, .slice dB (l.length + 1) eB, .int .i64 dr], .bool true]) (by simp [results, Try.results41, go_sem, z0, z1, z2, z3, z4]) rfl ⟨_, rfl, DONE.out _ _ FB.out⟩
  · refine AllReadyH.cons (o := _) rfl (fun K hK => ?_) AllReadyH.nil
    go_simp
    refine hK.out _ _ (SX.out _ bFd) (fun hHeld => ?_)
    clear hK K
    try simp only [Act.put, List.setIfInBounds_toArray, List.set_cons_zero, List.set_cons_succ]
    refine wpAnyH_ready (rs := [0]) (by kernel_rfl) (by simp) ?_
    refine AllReadyH.cons (o := _) rfl (fun K hK => ?_) AllReadyH.nil
    go_simp
    refine hK.out _ _ (SX.out _ bFEd) (fun hHeld => ?_)
    clear hK K
    try simp only [Act.put, List.setIfInBounds_toArray, List.set_cons_zero, List.set_cons_succ]
    refine wpAnyH_ready (rs := [3]) (by kernel_rfl) (by simp) ?_
    refine AllReadyH.cons (o := _) rfl (fun K hK => ?_) AllReadyH.nil
    refine step_append_eq rfl (.tmp 24) (.tmp 26) 50 rfl kC.out rfl rfl ?_
    refine hK.out _ _ (SX.out _ bWC) (fun hHeld => ?_)
    clear hK K
    try simp only [Act.put, List.setIfInBounds_toArray, List.set_cons_zero, List.set_cons_succ]
    refine wpAnyH_ready (rs := [6]) (by kernel_rfl) (by simp) ?_
    refine AllReadyH.cons (o := _) rfl (fun K hK => ?_) AllReadyH.nil
    refine step_append_eq rfl (.tmp 27) (.tmp 29) 50 rfl mC.out rfl rfl ?_
    refine hK.out _ _ (SX.out _ bXC) (fun hHeld => ?_)
    clear hK K
    try simp only [Act.put, List.setIfInBounds_toArray, List.set_cons_zero, List.set_cons_succ]
    refine wpAnyH_ready (rs := [7]) (by kernel_rfl) (by simp) ?_
    refine AllReadyH.cons (o := _) rfl (fun K hK => ?_) AllReadyH.nil
    go_simp
    refine hK.out _ _ (SX.out _ bXC) (fun hHeld => ?_)
    clear hK K
    try simp only [Act.put, List.setIfInBounds_toArray, List.set_cons_zero, List.set_cons_succ]
    refine wpAnyH_done (by kernel_rfl) ?_ _
    obtain ⟨⟨y0, y1, y2, y3, y4, y5⟩, ⟨z0, z1, z2, z3, z4⟩, u0, u1, u2, u3, u4⟩ := FINX.out _ _ FC.out
    refine Ends.last rfl (fun K hK => ?_)
    go_simp
    refine hK.out _ _ ?_
    clear hK K
    go_wp2
    refine bodyPost_ret (v := .tuple #[.agg #[.int .i64 o, .int .i64 mac, .int .i64 lim, .slice dC (l.length + 1) eC, .int .i64 dr], .bool true]) (by simp [results, Try.results41, go_sem, z0, z1, z2, z3, z4]) rfl ⟨_, rfl, DONE.out _ _ FC.out⟩
end Go.Proofs.Ytjhihccjhnlghaa
