import Derived.Test.YtjhihccjhnlghaaZG13
set_option linter.all false
/- What is sent comes: the law, where something is sent. -/
namespace Go.Proofs.Ytjhihccjhnlghaa
open Go.RowKit Go.Lib
set_option linter.unusedVariables false
attribute [-go_sem] Go.run_eql_struct

section
variable {d : Nat → I3} {n B : Nat} {w w' : World} {dd m : Nat} {G : List Gp}
theorem NewOK.below (h : NewOK d n B w dd m G) (hb : Below w.heap.size w w') : NewOK d n B w' dd m G := ⟨h.1.below hb, h.2⟩
theorem NewOK.keeps {T : Nat → Prop} (h : NewOK d n B w dd m G) (k : Keeps T w w') (hn : ∀ i, nOwn dd m (.slice none 0 0) G i → ¬ T i) : NewOK d n B w' dd m G := ⟨h.1.keeps k hn, h.2⟩
/-- What Take leaves, seen from a bound. -/
theorem take_off {lv : Value} {A' C' : List Gp} {g' : Gp} {f : Frm} (h : NicG w dd m lv 0 [] (A' ++ g' :: C')) (hB : ∀ i, nOwn dd m lv (A' ++ g' :: C') i → B ≤ i) (hs : B ≤ w.heap.size) (hl : g'.l = [f]) :
    Calls Try.prog 19 #[.pointer (some ⟨dd, 0, none⟩), .int .i64 g'.o] w fun e w' => e = .returned (.tuple #[frv f, .int .i64 0]) ∧ Below B w w' := by
  refine (ntake_in f [] h hl (by rw [hl]; simp)).mono fun e w' ⟨h1, h2⟩ => ?_
  obtain ⟨_, _, _, _, h3, _⟩ := h2.off hB hs
  exact ⟨h1, h3⟩
end
set_option maxRecDepth 20000 in
set_option maxHeartbeats 6400000 in
theorem nback_on (A : Option Addr) (len cap n : Nat) (d : Nat → I3) (fr to : Int) (s : ByteArray) (w : World) (hst : RowsN w A len cap d) (hlc : len ≤ cap) (hcm : cap ≤ 9223372036854775807) (hn : n = min len 8)
    (he : newE d n = 0) (i : Nat) (hi : i < n) (hio : ownI (frp d) n fr = i) (hfr : (d i).1 = fr) (k : Nat) (hk : k < n) (hko : ownI (frp d) n to = k) (hto : (d k).1 = to) (hs : ¬ (32 : Int) < (s.size : Int)) (hl : (d k).2.2 ≠ 0) :
    Calls Try.prog 5 #[.slice A len cap, .int .i64 fr, .int .i64 to, .string s] w (BackV w) := by
  have hs' : s.size ≤ 32 := by omega
  have HP := Lib.hid (ports_any A len cap d w hst hlc hcm)
  rw [← hn] at HP
  have hn8 : n ≤ 8 := by omega
  have HST := Lib.hid (fun (W : World) (hb : Below w.heap.size w W) => (hst.cut n (by omega)).below hb)
  have HO1 := Lib.hid (fun (A2 : Option Addr) (c2 : Nat) (W : World) (h : PortsV W A2 n (frp d)) => rowner_any A2 n c2 (frp d) fr W h (by omega))
  have HO2 := Lib.hid (fun (A2 : Option Addr) (c2 : Nat) (W : World) (h : PortsV W A2 n (frp d)) => rowner_any A2 n c2 (frp d) to W h (by omega))
  have HK := Lib.hid (fun (A2 : Option Addr) (c2 : Nat) (W : World) (h : PortsV W A2 n (frp d)) => show Calls Try.prog 9 #[.slice A2 n c2] W (fun e w' => e = .returned (.int .i64 (newE d n)) ∧ Below W.heap.size W w') from rcheck_any A2 n c2 d W h (by omega))
  have HL := Lib.hid (fun W => nlive_any W)
  have HN := Lib.hid (fun (W : World) (h : RowsN W A n cap d) => new_ok h (by omega) he)
  have HS := Lib.hid (fun (B : Nat) (W : World) (dd m : Nat) (G : List Gp) (h : NewOK d n B W dd m G) => h.send hi hk s hs')
  have HC := Lib.hid (fun (B : Nat) (W : World) (dd m : Nat) (G : List Gp) (h : NewOK d n B W dd m G) (hB : B ≤ W.heap.size) => h.come hi hk s hs' hl hB)
  rw [he] at HK
  rw [hko] at HO2
  rw [hio] at HO1
  have HCE := Lib.hid (fun (g2 : Nat) (W : World) (hc : ∀ i, i < n → W.cell? ⟨g2, i * 5, none⟩ = some (.int .i64 (frp d i).1) ∧ W.cell? ⟨g2, i * 5 + 1, none⟩ = some (.int .i64 (frp d i).2.1) ∧ W.cell? ⟨g2, i * 5 + 2, none⟩ = some (.int .i64 (frp d i).2.2.1) ∧ W.cell? ⟨g2, i * 5 + 3, none⟩ = some (frp d i).2.2.2.1 ∧ W.cell? ⟨g2, i * 5 + 4, none⟩ = some (.int .i64 (frp d i).2.2.2.2)) (hg : g2 < W.heap.size) =>
    show ∀ V, Below W.heap.size W V → V.cell? ⟨g2, k * 5 + 2, none⟩ = some (.int .i64 (d k).2.2) ∧ V.cell? ⟨g2, k * 5 + 1, none⟩ = some (.int .i64 (d k).2.1) ∧ V.cell? ⟨g2, i * 5 + 1, none⟩ = some (.int .i64 (d i).2.1) from fun V hV =>
      ⟨(hV.cell (p := ⟨g2, k * 5 + 2, none⟩) hg).trans (hc k hk).2.2.1, (hV.cell (p := ⟨g2, k * 5 + 1, none⟩) hg).trans (hc k hk).2.1, (hV.cell (p := ⟨g2, i * 5 + 1, none⟩) hg).trans (hc i hi).2.1⟩)
  rw [hfr] at HS
  rw [hto] at HC
  generalize hz : wire d i k s = z at HS HC
  generalize (d k).2.2 = lk at HCE hl
  generalize (d k).2.1 = mk at HCE HS HC
  generalize (d i).2.1 = mi at HCE HC
  have hlb : (lk == 0) = false := by simpa using hl
  have hpos : 0 < n := by omega
  have i1 : (i : Int) < (n : Int) := by omega
  have k1 : (k : Int) < (n : Int) := by omega
  have i2 : ¬ (i : Int) < 0 := by omega
  have k2 : ¬ (k : Int) < 0 := by omega
  have hq := eq_frm mk mi s
  clear hst hn hn8 hlc hcm he hko hio hi hk hs' hfr hto hz
  go_enter Try.func5, Try.ntmps5
  go_wp2_with (first
    | (go_at_call 7; have HH := HP.out; unfold PortsR at HH; refine HH.mono ?_; clear HH; rintro e w1 ⟨A2, c2, rfl, o1, b1⟩; have P1 := Lib.hid o1.ports; obtain ⟨g2, rfl, hg2, hc2⟩ := P1.out hpos; have CE := Lib.hid (HCE.out g2 w1 hc2 hg2); have B1 := Lib.hid b1; clear o1 b1 hc2 hg2)
    | (go_at_call 15; (with_reducible refine (HO1.out _ _ _ P1.out).mono ?_); rintro e w2 ⟨rfl, rfl⟩)
    | (go_at_call 15; (with_reducible refine (HO2.out _ _ _ P1.out).mono ?_); rintro e w3 ⟨rfl, rfl⟩)
    | (go_at_call 9; (with_reducible refine (HK.out _ _ _ P1.out).mono ?_); rintro e w4 ⟨rfl, b4⟩; have B4 := Lib.hid (B1.out.trans (b4.mono B1.out.size)); have E4 := Lib.hid b4; obtain ⟨c4, _, _⟩ := CE.out w4 b4; clear b4)
    | (go_at_call 8; have HH := HN.out _ (HST.out _ B5.out); refine HH.mono ?_; clear HH; rintro e w6 ⟨db, mb, Gb, rfl, o6, b6⟩; have OB6 := Lib.hid o6; have OA6 := Lib.hid (OA5.out.below b6); have E6 := Lib.hid (E5.out.trans (b6.mono E5.out.size)); have B6 := Lib.hid (B5.out.trans (b6.mono B5.out.size)); have S6 := Lib.hid b6.size; have c6 := (CE.out w6 E6.out).2.1; clear o6 b6)
    | (go_at_call 8; have HH := HN.out _ (HST.out _ B4.out); refine HH.mono ?_; clear HH; rintro e w5 ⟨da, ma, Ga, rfl, o5, b5⟩; have OA5 := Lib.hid o5; have LT5 := Lib.hid o5.1.lt; have E5 := Lib.hid (E4.out.trans (b5.mono E4.out.size)); have B5 := Lib.hid (B4.out.trans (b5.mono B4.out.size)); have S5 := Lib.hid b5.size; clear o5 b5)
    | (go_at_call 20; have HH := HS.out _ _ _ _ _ OA6.out; refine HH.mono ?_; clear HH; rintro e w7 ⟨rfl, lv7, G7, n7, _, k7, _⟩; have b7 := k7.below (B := w4.heap.size) (Nat.le_trans S5.out S6.out) (fun i hi hi' => absurd (OA6.out.2.2.2 i hi') (by omega)); have OB7 := Lib.hid (OB6.out.keeps k7 (fun i hi hi' => absurd (OB6.out.2.2.2 i hi) (by have := LT5.out i hi'; omega))); have N7 := Lib.hid n7; have E7 := Lib.hid (E6.out.trans (b7.mono E4.out.size)); have B7 := Lib.hid (B6.out.trans (b7.mono B4.out.size)); have S7 := Lib.hid b7.size; clear n7 k7 b7)
    | (go_at_call 21; have HH := log_one N7.out; refine HH.mono ?_; clear HH; rintro e w8 ⟨g8, off8, c8, rfl, l8, b8⟩; have OB8 := Lib.hid (OB7.out.below b8); have E8 := Lib.hid (E7.out.trans (b8.mono E7.out.size)); have B8 := Lib.hid (B7.out.trans (b8.mono B7.out.size)); have S8 := Lib.hid b8.size; clear b8)
    | (go_at_call 16; have HH := HC.out _ _ _ _ _ OB8.out (Nat.le_trans S6.out (Nat.le_trans S7.out S8.out)); refine HH.mono ?_; clear HH; rintro e w9 ⟨rfl, b9, lv9, A9, g9, C9, n9, h9, o9, q9⟩; have HT := Lib.hid (take_off n9 h9 (Nat.le_trans (Nat.le_trans S6.out (Nat.le_trans S7.out S8.out)) b9.size) q9); rw [o9] at HT; have E9 := Lib.hid (E8.out.trans (b9.mono (Nat.le_trans E4.out.size S5.out))); have B9 := Lib.hid (B8.out.trans (b9.mono (Nat.le_trans B4.out.size S5.out))); clear b9 n9 h9 q9 o9)
    | (go_at_call 19; have HH := HT.out; refine HH.mono ?_; clear HH; rintro e w10 ⟨rfl, b10⟩; have E10 := Lib.hid (E9.out.trans (b10.mono (Nat.le_trans E4.out.size S5.out))); have B10 := Lib.hid (B9.out.trans (b10.mono (Nat.le_trans B4.out.size S5.out))); clear b10))
  have RX := Lib.hid (Blk.new w10 46 #[.int .i64 mk, .int .i64 mi, .string s])
  have EX := Lib.hid (E10.out.alloc E10.out.size (.cells #[.int .i64 mk, .int .i64 mi, .string s] 46))
  have BX := Lib.hid (B10.out.alloc B10.out.size (.cells #[.int .i64 mk, .int .i64 mi, .string s] 46))
  generalize hwx : w10.alloc (.cells #[.int .i64 mk, .int .i64 mi, .string s] 46) = wx at RX EX BX ⊢
  have x0 : wx.cell? ⟨w10.heap.size, 0, none⟩ = some (.int .i64 mk) := RX.out.cell 0
  have x1 : wx.cell? ⟨w10.heap.size, 1, none⟩ = some (.int .i64 mi) := RX.out.cell 1
  have x2 : wx.cell? ⟨w10.heap.size, 2, none⟩ = some (.string s) := RX.out.cell 2
  obtain ⟨_, x3, x4⟩ := CE.out wx EX.out
  clear hwx c4 c6 l8
  go_region_held3 (fun w' => w'.cell? ⟨w10.heap.size, 0, none⟩ = some (.int .i64 mk) ∧ w'.cell? ⟨w10.heap.size, 1, none⟩ = some (.int .i64 mi) ∧ w'.cell? ⟨w10.heap.size, 2, none⟩ = some (.string s) ∧ w'.cell? ⟨g2, k * 5 + 1, none⟩ = some (.int .i64 mk) ∧ w'.cell? ⟨g2, i * 5 + 1, none⟩ = some (.int .i64 mi))
    (first | exact ⟨x0, x1, x2, x3, x4⟩ | exact ⟨y0, y1, y2, y3, y4⟩ | go_keep)
    (first | (go_at_call 10; (with_reducible refine (HL.out _).mono ?_); rintro e w12 ⟨rfl, b12⟩; have r12 := (RX.out.drewN 1).below b12 RX.out.lt; have y0 : w12.cell? ⟨w10.heap.size, 0, none⟩ = some (.int .i64 mk) := r12.cell 0; have y1 : w12.cell? ⟨w10.heap.size, 1, none⟩ = some (.int .i64 mi) := r12.cell 1; have y2 : w12.cell? ⟨w10.heap.size, 2, none⟩ = some (.string s) := r12.cell 2; obtain ⟨_, y3, y4⟩ := CE.out w12 ((below_drewN EX.out 1).trans (b12.mono EX.out.size)); have B12 := Lib.hid ((below_drewN BX.out 1).trans (b12.mono BX.out.size)); clear b12 r12))
  all_goals
    go_wp2
    go_ret
    exact ⟨rfl, B12.out⟩
end Go.Proofs.Ytjhihccjhnlghaa

/- A device told by its ports alone: each call by its contract, whatever blocks it has. -/
namespace Go.Proofs.Ytjhihccjhnlghaa
open Go.RowKit Go.Lib
set_option linter.unusedVariables false

/-- A device of n ports, told by P; its blocks are O. -/
def Dv (w : World) (dd : Nat) (O : Nat → Prop) (odd : Int) (S : List Frm) (n : Nat) (P : Nat → Sp) : Prop :=
  ∃ m lv G, NicG w dd m lv odd S G ∧ G.map Gp.sp = (List.range n).map P ∧ O = nOwn dd m lv G
/-- What a call that writes it leaves. -/
def DvN (w : World) (O : Nat → Prop) (dd : Nat) (w' : World) (odd' : Int) (S' : List Frm) (n : Nat) (P' : Nat → Sp) : Prop :=
  ∃ O', Dv w' dd O' odd' S' n P' ∧ Keeps O w w' ∧ ∀ i, O' i → O i ∨ w.heap.size ≤ i

section
variable {w w' : World} {dd : Nat} {O : Nat → Prop} {odd : Int} {S : List Frm} {n : Nat} {P : Nat → Sp}
theorem Dv.lt (h : Dv w dd O odd S n P) : ∀ i, O i → i < w.heap.size := by
  obtain ⟨m, lv, G, h1, h2, rfl⟩ := h
  exact h1.lt
theorem Dv.self (h : Dv w dd O odd S n P) : O dd := by
  obtain ⟨m, lv, G, h1, h2, rfl⟩ := h
  exact .inl rfl
theorem Dv.keeps {T : Nat → Prop} (h : Dv w dd O odd S n P) (k : Keeps T w w') (hn : ∀ i, O i → ¬ T i) : Dv w' dd O odd S n P := by
  obtain ⟨m, lv, G, h1, h2, rfl⟩ := h
  exact ⟨m, lv, G, h1.keeps k hn, h2, rfl⟩
theorem Dv.below (h : Dv w dd O odd S n P) (hb : Below w.heap.size w w') : Dv w' dd O odd S n P := h.keeps (Keeps.of_below hb (fun _ => False)) (fun _ _ h => h)
theorem Dv.grown (h : Dv w dd O odd S n P) (g : w.grownBy w' none) : Dv w' dd O odd S n P := h.keeps (T := fun _ => False) (Keeps.of_only g (by simp)) (fun _ _ h => h)
theorem Dv.drewN (h : Dv w dd O odd S n P) (k : Nat) : Dv (w.drewN k) dd O odd S n P := h.grown (only_drewN (only_refl w none) k)
theorem Dv.apart (h : Dv w dd O odd S n P) : ∀ i j, i < j → j < n → (P i).1 ≠ (P j).1 ∧ (P i).2.1 ≠ (P j).2.1 := by
  obtain ⟨m, lv, G, h1, h2, rfl⟩ := h
  have hp : (G.map Gp.sp).Pairwise fun a b => a.1 ≠ b.1 ∧ a.2.1 ≠ b.2.1 := by
    rw [List.pairwise_map]
    exact h1.2.2.2.2.2.2.2.imp fun {a b} h => ⟨h.1, h.2.1⟩
  rw [h2, List.pairwise_map] at hp
  intro i j hij hj
  have := List.pairwise_iff_getElem.1 hp i j (by simp; omega) (by simpa using hj) hij
  simpa using this
theorem Dv.owner_eq (h : Dv w dd O odd S n P) {i j : Nat} (hi : i < n) (hj : j < n) (he : (P i).1 = (P j).1) : i = j := by
  rcases Nat.lt_trichotomy i j with h1 | h1 | h1
  · exact absurd he (h.apart i j h1 hj).1
  · exact h1
  · exact absurd he.symm (h.apart j i h1 hi).1
theorem Dv.mac_eq (h : Dv w dd O odd S n P) {i j : Nat} (hi : i < n) (hj : j < n) (he : (P i).2.1 = (P j).2.1) : i = j := by
  rcases Nat.lt_trichotomy i j with h1 | h1 | h1
  · exact absurd he (h.apart i j h1 hj).2
  · exact h1
  · exact absurd he.symm (h.apart j i h1 hi).2
/-- The port at a place, opened. -/
theorem Dv.open (h : Dv w dd O odd S n P) {k : Nat} (hk : k < n) : ∃ m lv A g C, NicG w dd m lv odd S (A ++ g :: C) ∧ (A ++ g :: C).map Gp.sp = (List.range n).map P ∧ O = nOwn dd m lv (A ++ g :: C) ∧ g.sp = P k := by
  obtain ⟨m, lv, G, h1, h2, rfl⟩ := h
  have hl : G.length = n := by have := congrArg List.length h2; simpa using this
  have hg : (G.map Gp.sp)[k]? = some (P k) := by rw [h2]; simp [hk]
  rw [List.getElem?_map, List.getElem?_eq_getElem (by omega)] at hg
  have hsp : G[k].sp = P k := by simpa using hg
  have hG : G = G.take k ++ G[k] :: G.drop (k + 1) := by rw [List.getElem_cons_drop, List.take_append_drop]
  exact ⟨m, lv, G.take k, G[k], G.drop (k + 1), hG ▸ h1, hG ▸ h2, by rw [← hG], hsp⟩
theorem Dv.may (h : Dv w dd O odd S n P) {k : Nat} (hk : k < n) : 1 ≤ (P k).1 ∧ (P k).1 ≤ 8 ∧ 0 ≤ (P k).2.1 ∧ (P k).2.1 ≤ 255 ∧ (P k).2.2.1 ≤ 16 := by
  obtain ⟨m, lv, A, g, C, h1, h2, h3, h4⟩ := h.open hk
  have := mayP_iff.1 (h1.2.2.2.1 g (by simp)).2
  simp [Gp.pub] at this
  rw [← h4]
  simp only [Gp.sp]
  omega
/-- An owner's port becomes another. -/
theorem updS_at (h : Dv w dd O odd S n P) {k : Nat} (hk : k < n) (f : Sp → Sp) : updS ((List.range n).map P) (P k).1 f = (List.range n).map fun i => if i = k then f (P k) else P i := by
  unfold updS
  rw [List.map_map]
  refine List.map_congr_left fun i hi => ?_
  have hi' : i < n := by simpa using hi
  by_cases he : i = k
  · subst he
    simp
  · have : (P i).1 ≠ (P k).1 := fun e => he (h.owner_eq hi' hk e)
    simp [this, he]
theorem DvN.of {m : Nat} {lv : Value} {G : List Gp} {odd' : Int} {S' : List Frm} {L' : List Sp} {P' : Nat → Sp} (hO : O = nOwn dd m lv G) (h : NicN w dd m lv G w' odd' S' L') (hL : L' = (List.range n).map P') : DvN w O dd w' odd' S' n P' := by
  subst hO
  obtain ⟨lv', G', h1, h2, h3, h4⟩ := h
  exact ⟨_, ⟨m, lv', G', h1, h2.trans hL, rfl⟩, h3, h4⟩
theorem DvN.from {w0 : World} {odd' : Int} {S' : List Frm} {P' : Nat → Sp} (hb : Below w0.heap.size w0 w) (h : DvN w O dd w' odd' S' n P') : DvN w0 O dd w' odd' S' n P' := by
  obtain ⟨O', h1, h2, h3⟩ := h
  refine ⟨O', h1, (Keeps.of_below hb _).trans h2, fun i hi => (h3 i hi).imp id fun h => ?_⟩
  have := hb.size
  omega
theorem DvN.upto {w2 : World} {odd' : Int} {S' : List Frm} {P' : Nat → Sp} (h : DvN w O dd w' odd' S' n P') (hb : Below w'.heap.size w' w2) : DvN w O dd w2 odd' S' n P' := by
  obtain ⟨O', h1, h2, h3⟩ := h
  exact ⟨O', h1.below hb, h2.trans (Keeps.of_below hb _), h3⟩
theorem Dv.same (h : Dv w dd O odd S n P) (hb : Below w.heap.size w w') : DvN w O dd w' odd S n P := ⟨O, h.below hb, Keeps.of_below hb _, fun i hi => .inl hi⟩
end

/-- A port of a device just made. -/
def sp0 (d : Nat → I3) (i : Nat) : Sp := ((d i).1, (d i).2.1, (d i).2.2.toNat, [], 0)
theorem dv_new {A : Option Addr} {n cap : Nat} {d : Nat → I3} {w : World} (hst : RowsN w A n cap d) (hn : n ≤ 1000000) (he : newE d n = 0) :
    Calls Try.prog 8 #[.slice A n cap] w fun e w' => ∃ dd O, e = .returned (.tuple #[.pointer (some ⟨dd, 0, none⟩), .int .i64 0]) ∧ Dv w' dd O 0 [] n (sp0 d) ∧ (∀ i, O i → w.heap.size ≤ i) ∧ Below w.heap.size w w' := by
  refine (new_ok hst hn he).mono fun e w' ⟨dd, m, G, h1, ⟨h2, h3, h4, h5⟩, h6⟩ => ⟨dd, _, h1, ⟨m, _, G, h2, ?_, rfl⟩, h5, h6⟩
  have hm : G.map Gp.sp = (G.map Gp.pub).map fun r => (r.1, r.2.1, r.2.2.toNat, [], 0) := by
    rw [List.map_map]
    refine List.map_congr_left fun g hg => ?_
    obtain ⟨q1, q2⟩ := h4 g hg
    simp [Gp.sp, Gp.pub, q1, q2]
  rw [hm, h3]
  unfold rwN
  rw [List.map_map]
  rfl

/-- Which port bytes are for. -/
def jfor (mk : Nat → Int) (n : Nat) (s : ByteArray) : Option Nat := if (Fr.paV s).2 = 0 then (List.range n).find? fun i => decide (mk i = (Fr.paV s).1.1) else none
theorem jfor_some {mk : Nat → Int} {n : Nat} {s : ByteArray} {k : Nat} (h : jfor mk n s = some k) : (Fr.paV s).2 = 0 ∧ k < n ∧ mk k = (Fr.paV s).1.1 := by
  unfold jfor at h
  split at h
  · have h1 := List.mem_of_find?_eq_some h
    have h2 := List.find?_some h
    exact ⟨by assumption, by simpa using h1, by simpa using h2⟩
  · cases h
theorem jfor_none {mk : Nat → Int} {n : Nat} {s : ByteArray} (h : jfor mk n s = none) : (Fr.paV s).2 ≠ 0 ∨ ∀ i, i < n → mk i ≠ (Fr.paV s).1.1 := by
  unfold jfor at h
  split at h
  · exact .inr fun i hi => by simpa using List.find?_eq_none.1 h i (by simpa using hi)
  · exact .inl (by assumption)
/-- What a frame that comes makes of a port, and of all. -/
def pshS (x : Sp) (f : Frm) : Sp := (x.1, x.2.1, x.2.2.1, pshL x.2.2.2.1 x.2.2.1 f, pshD x.2.2.2.1 x.2.2.1 x.2.2.2.2)
def comeP (j : Option Nat) (P : Nat → Sp) (f : Frm) : Nat → Sp := match j with | none => P | some k => fun i => if i = k then pshS (P k) f else P i
def comeO (j : Option Nat) (odd : Int) : Int := match j with | none => odd + 1 | some _ => odd
def comeR (j : Option Nat) (P : Nat → Sp) : Value := match j with | none => .tuple #[.int .i64 0, .bool false] | some k => .tuple #[.int .i64 (P k).1, .bool (decide ((P k).2.2.2.1.length < (P k).2.2.1))]
/-- Few enough. -/
def Sm (n : Nat) (P : Nat → Sp) (odd : Int) (c : Nat) : Prop := (∀ i, i < n → (P i).2.2.2.1.length ≤ c ∧ (P i).2.2.2.2 ≤ c) ∧ 0 ≤ odd ∧ odd ≤ c
theorem Sm.come {n : Nat} {P : Nat → Sp} {odd : Int} {c : Nat} (h : Sm n P odd c) (j : Option Nat) (f : Frm) : Sm n (comeP j P f) (comeO j odd) (c + 1) := by
  obtain ⟨h1, h2, h3⟩ := h
  cases j with
  | none => exact ⟨fun i hi => by have := h1 i hi; simp only [comeP]; omega, by simp only [comeO]; omega, by simp only [comeO]; omega⟩
  | some k =>
    refine ⟨fun i hi => ?_, by simp only [comeO]; omega, by simp only [comeO]; omega⟩
    have := h1 i hi
    simp only [comeP]
    by_cases he : i = k
    · subst he
      rw [if_pos rfl]
      unfold pshS pshL pshD
      simp only
      split
      · simp
        omega
      · omega
    · rw [if_neg he]
      omega
theorem Sm.mono {n : Nat} {P : Nat → Sp} {odd : Int} {c c' : Nat} (h : Sm n P odd c) (hc : c ≤ c') : Sm n P odd c' :=
  ⟨fun i hi => by have := h.1 i hi; omega, h.2.1, by have := h.2.2; omega⟩

section
variable {w w' : World} {dd : Nat} {O : Nat → Prop} {odd : Int} {S : List Frm} {n : Nat} {P : Nat → Sp}
theorem dv_come {mk : Nat → Int} {c : Nat} (s : ByteArray) (hs : s.size ≤ 1000) (h : Dv w dd O odd S n P) (hmk : ∀ i, i < n → (P i).2.1 = mk i) (hsm : Sm n P odd c) (hc : c ≤ 1000000) :
    Calls Try.prog 16 #[.pointer (some ⟨dd, 0, none⟩), .string s] w fun e w' => e = .returned (comeR (jfor mk n s) P) ∧ DvN w O dd w' (comeO (jfor mk n s) odd) S n (comeP (jfor mk n s) P (Fr.paV s).1) := by
  obtain ⟨h1, h2, h3⟩ := hsm
  cases hj : jfor mk n s with
  | none =>
    have hn := jfor_none hj
    obtain ⟨m, lv, G, hg, hm, hO⟩ := h
    refine (ncome_odd s hs hg ?_ ⟨h2, by omega⟩).mono fun e w' ⟨e1, e2⟩ => ⟨e1, DvN.of hO e2 hm⟩
    rcases hn with hn | hn
    · exact .inl hn
    · refine .inr (ownL_out fun y hy => ?_)
      obtain ⟨g, hg', rfl⟩ := List.mem_map.1 hy
      have : g.sp ∈ (List.range n).map P := by rw [← hm]; exact List.mem_map.2 ⟨g, hg', rfl⟩
      obtain ⟨i, hi, he⟩ := List.mem_map.1 this
      have hi' : i < n := by simpa using hi
      have := hn i hi'
      rw [← hmk i hi', he] at this
      exact this
  | some k =>
    obtain ⟨j1, j2, j3⟩ := jfor_some hj
    have hup := updS_at h j2 fun x => (x.1, x.2.1, x.2.2.1, pshL (P k).2.2.2.1 (P k).2.2.1 (Fr.paV s).1, pshD (P k).2.2.2.1 (P k).2.2.1 (P k).2.2.2.2)
    obtain ⟨m, lv, A, g, C, hg, hm, hO, hgp⟩ := h.open j2
    have hx := h1 k j2
    rw [← hgp] at hx
    simp only [Gp.sp] at hx
    have hmac : (Fr.paV s).1.1 = g.mac := by rw [← j3, ← hmk k j2, ← hgp]; rfl
    refine (ncome_hit s hs hg j1 hmac (by omega) (by omega)).mono fun e w' ⟨e1, e2⟩ => ⟨by rw [e1, comeR, ← hgp]; rfl, DvN.of hO e2 ?_⟩
    rw [← hgp] at hup
    rw [hm]
    refine Eq.trans ?_ (hup.trans ?_)
    · rfl
    · show _ = (List.range n).map fun i => if i = k then pshS (P k) (Fr.paV s).1 else P i
      rw [← hgp]
      rfl
theorem dv_waits (h : Dv w dd O odd S n P) {k : Nat} (hk : k < n) : Calls Try.prog 17 #[.pointer (some ⟨dd, 0, none⟩), .int .i64 (P k).1] w fun e w' => e = .returned (.int .i64 (P k).2.2.2.1.length) ∧ Below w.heap.size w w' := by
  obtain ⟨m, lv, A, g, C, hg, hm, hO, hgp⟩ := h.open hk
  rw [← hgp]
  exact (nwaits_in hg).mono fun e w' ⟨e1, e2⟩ => ⟨e1, below_of_only e2 (Nat.le_refl _) (by simp)⟩
theorem dv_drops (h : Dv w dd O odd S n P) {k : Nat} (hk : k < n) : Calls Try.prog 18 #[.pointer (some ⟨dd, 0, none⟩), .int .i64 (P k).1] w fun e w' => e = .returned (.int .i64 (P k).2.2.2.2) ∧ Below w.heap.size w w' := by
  obtain ⟨m, lv, A, g, C, hg, hm, hO, hgp⟩ := h.open hk
  rw [← hgp]
  exact (ndrops_in hg).mono fun e w' ⟨e1, e2⟩ => ⟨e1, below_of_only e2 (Nat.le_refl _) (by simp)⟩
theorem dv_odd (h : Dv w dd O odd S n P) : Calls Try.prog 14 #[.pointer (some ⟨dd, 0, none⟩)] w fun e w' => e = .returned (.int .i64 odd) ∧ w = w' := by
  obtain ⟨m, lv, G, hg, hm, hO⟩ := h
  exact nodd_any hg
/-- What taking makes of the ports. -/
def takeP (k : Nat) (P : Nat → Sp) (l : List Frm) : Nat → Sp := fun i => if i = k then ((P k).1, (P k).2.1, (P k).2.2.1, l, (P k).2.2.2.2) else P i
theorem dv_take (f : Frm) (l : List Frm) (h : Dv w dd O odd S n P) {k : Nat} (hk : k < n) (hl : (P k).2.2.2.1 = f :: l) (hn : l.length ≤ 100000) : Calls Try.prog 19 #[.pointer (some ⟨dd, 0, none⟩), .int .i64 (P k).1] w fun e w' => e = .returned (.tuple #[frv f, .int .i64 0]) ∧ DvN w O dd w' odd S n (takeP k P l) := by
  have hup := updS_at h hk fun y => (y.1, y.2.1, y.2.2.1, l, (P k).2.2.2.2)
  obtain ⟨m, lv, A, g, C, hg, hm, hO, hgp⟩ := h.open hk
  have hl' : g.l = f :: l := by rw [← hl, ← hgp]; rfl
  rw [← hgp]
  refine (ntake_in f l hg hl' (by rw [hl']; simp; omega)).mono fun e w' ⟨e1, e2⟩ => ⟨e1, DvN.of hO e2 ?_⟩
  rw [← hgp] at hup
  rw [hm]
  refine Eq.trans ?_ (hup.trans ?_)
  · rfl
  · unfold takeP
    rw [← hgp]
theorem dv_take_empty (h : Dv w dd O odd S n P) {k : Nat} (hk : k < n) (hl : (P k).2.2.2.1 = []) : Calls Try.prog 19 #[.pointer (some ⟨dd, 0, none⟩), .int .i64 (P k).1] w fun e w' => e = .returned (tkE 9) ∧ Below w.heap.size w w' := by
  obtain ⟨m, lv, A, g, C, hg, hm, hO, hgp⟩ := h.open hk
  have hl' : g.l = [] := by rw [← hl, ← hgp]; rfl
  rw [← hgp]
  exact ntake_empty hg hl'
theorem Dv.nobody (h : Dv w dd O odd S n P) {o : Int} (hn : ∀ i, i < n → (P i).1 ≠ o) : ∃ m lv G, NicG w dd m lv odd S G ∧ G.map Gp.sp = (List.range n).map P ∧ O = nOwn dd m lv G ∧ ∀ g ∈ G, g.o ≠ o := by
  obtain ⟨m, lv, G, hg, hm, hO⟩ := h
  refine ⟨m, lv, G, hg, hm, hO, fun g hg' => ?_⟩
  have : g.sp ∈ (List.range n).map P := by rw [← hm]; exact List.mem_map.2 ⟨g, hg', rfl⟩
  obtain ⟨i, hi, he⟩ := List.mem_map.1 this
  have := hn i (by simpa using hi)
  rw [he] at this
  exact this
theorem dv_take_none (h : Dv w dd O odd S n P) {o : Int} (hf : fitI o) (hn : ∀ i, i < n → (P i).1 ≠ o) : Calls Try.prog 19 #[.pointer (some ⟨dd, 0, none⟩), .int .i64 o] w fun e w' => e = .returned (tkE 7) ∧ Below w.heap.size w w' := by
  obtain ⟨m, lv, G, hg, hm, hO, h1⟩ := h.nobody hn
  exact ntake_none hg o hf h1
theorem dv_log (h : Dv w dd O odd S n P) (hn : S.length ≤ 1000) : Calls Try.prog 21 #[.pointer (some ⟨dd, 0, none⟩)] w fun e w' => ∃ v', e = .returned v' ∧ CloZ w S.length (frL S) v' w' := by
  obtain ⟨m, lv, G, hg, hm, hO⟩ := h
  exact nlog_any hg hn
theorem dv_send_none (h : Dv w dd O odd S n P) (t : Int) {o : Int} (to : Int) (s : ByteArray) (hf : fitI o) (hn : ∀ i, i < n → (P i).1 ≠ o) : Calls Try.prog 20 #[.pointer (some ⟨dd, 0, none⟩), .int .i64 t, .int .i64 o, .int .i64 to, .string s] w fun e w' => e = .returned (.int .i64 7) ∧ Below w.heap.size w w' := by
  obtain ⟨m, lv, G, hg, hm, hO, h1⟩ := h.nobody hn
  exact nsend_none hg t o to s hf h1
theorem dv_send_bad (h : Dv w dd O odd S n P) {k : Nat} (hk : k < n) (t to : Int) (s : ByteArray) (hs : s.size ≤ 200) (he : (Fr.prV to (P k).2.1 s).2 ≠ 0) : Calls Try.prog 20 #[.pointer (some ⟨dd, 0, none⟩), .int .i64 t, .int .i64 (P k).1, .int .i64 to, .string s] w fun e w' => e = .returned (.int .i64 (Fr.prV to (P k).2.1 s).2) ∧ Below w.heap.size w w' := by
  obtain ⟨m, lv, A, g, C, hg, hm, hO, hgp⟩ := h.open hk
  rw [← hgp] at he ⊢
  exact nsend_bad hg t to s hs he
theorem dv_send (h : Dv w dd O odd S n P) {k : Nat} (hk : k < n) (t to : Int) (s : ByteArray) (hs : s.size ≤ 200) (hn : S.length ≤ 1000) (he : (Fr.prV to (P k).2.1 s).2 = 0) : Calls Try.prog 20 #[.pointer (some ⟨dd, 0, none⟩), .int .i64 t, .int .i64 (P k).1, .int .i64 to, .string s] w fun e w' => e = .returned (.int .i64 0) ∧ DvN w O dd w' odd (S ++ [(t, (P k).1, (Fr.prV to (P k).2.1 s).1)]) n P := by
  obtain ⟨m, lv, A, g, C, hg, hm, hO, hgp⟩ := h.open hk
  rw [← hgp] at he ⊢
  exact (nsend_ok hg t to s hs hn he).mono fun e w' ⟨e1, e2⟩ => ⟨e1, DvN.of hO e2 hm⟩
end
end Go.Proofs.Ytjhihccjhnlghaa
