/- What is sent comes: the law, where something is sent. -/
import Derived.Test.YtjhihccjhnlghaaNP18
namespace Go.Proofs.Ytjhihccjhnlghaa
open Go.RowKit Go.Lib
set_option linter.unusedVariables false
attribute [-go_sem] Go.run_eql_struct

section
variable {d : Nat → I3} {n B : Nat} {w w' : World} {dd m : Nat} {G : List Gp}
theorem NewOK.below (h : NewOK d n B w dd m G) (hb : Below w.heap.size w w') : NewOK d n B w' dd m G := ⟨h.1.below hb, h.2⟩
theorem NewOK.keeps {T : Nat → Prop} (h : NewOK d n B w dd m G) (k : Keeps T w w') (hn : ∀ i, nOwn dd m (.slice none 0 0) G i → ¬ T i) : NewOK d n B w' dd m G := ⟨h.1.keeps k hn, h.2⟩
/-- What Take leaves, seen from a bound. -/
theorem take_off {lv : Value} {A' C' : List Gp} {g' : Gp} {f : Frm} (h : NicG w dd m lv 0 [] (A' ++ g' :: C')) (hB : ∀ i, nOwn dd m lv (A' ++ g' :: C') i → B ≤ i) (hs : B ≤ w.heap.size) (hl : g'.l = [f]) :
    Calls Try.prog 19 #[.pointer (some ⟨dd, 0, none⟩), .int .i64 g'.o] w fun e w' => e = .returned (.tuple #[frv f, .int .i64 0]) ∧ Below B w w' := by
  refine (ntake_in f [] h hl (by rw [hl]; simp)).mono fun e w' ⟨h1, h2⟩ => ?_
  obtain ⟨_, _, _, _, h3, _⟩ := h2.off hB hs
  exact ⟨h1, h3⟩
end
set_option maxRecDepth 20000 in
set_option maxHeartbeats 6400000 in
theorem nback_on (A : Option Addr) (len cap n : Nat) (d : Nat → I3) (fr to : Int) (s : ByteArray) (w : World) (hst : RowsN w A len cap d) (hlc : len ≤ cap) (hcm : cap ≤ 9223372036854775807) (hn : n = min len 8)
    (he : newE d n = 0) (i : Nat) (hi : i < n) (hio : ownI (frp d) n fr = i) (hfr : (d i).1 = fr) (k : Nat) (hk : k < n) (hko : ownI (frp d) n to = k) (hto : (d k).1 = to) (hs : ¬ (32 : Int) < (s.size : Int)) (hl : (d k).2.2 ≠ 0) :
    Calls Try.prog 5 #[.slice A len cap, .int .i64 fr, .int .i64 to, .string s] w (BackV w) := by
  have hs' : s.size ≤ 32 := by omega
  have HP := Lib.hid (ports_any A len cap d w hst hlc hcm)
  rw [← hn] at HP
  have hn8 : n ≤ 8 := by omega
  have HST := Lib.hid (fun (W : World) (hb : Below w.heap.size w W) => (hst.cut n (by omega)).below hb)
  have HO1 := Lib.hid (fun (A2 : Option Addr) (c2 : Nat) (W : World) (h : PortsV W A2 n (frp d)) => rowner_any A2 n c2 (frp d) fr W h (by omega))
  have HO2 := Lib.hid (fun (A2 : Option Addr) (c2 : Nat) (W : World) (h : PortsV W A2 n (frp d)) => rowner_any A2 n c2 (frp d) to W h (by omega))
  have HK := Lib.hid (fun (A2 : Option Addr) (c2 : Nat) (W : World) (h : PortsV W A2 n (frp d)) => show Calls Try.prog 9 #[.slice A2 n c2] W (fun e w' => e = .returned (.int .i64 (newE d n)) ∧ Below W.heap.size W w') from rcheck_any A2 n c2 d W h (by omega))
  have HL := Lib.hid (fun W => nlive_any W)
  have HN := Lib.hid (fun (W : World) (h : RowsN W A n cap d) => new_ok h (by omega) he)
  have HS := Lib.hid (fun (B : Nat) (W : World) (dd m : Nat) (G : List Gp) (h : NewOK d n B W dd m G) => h.send hi hk s hs')
  have HC := Lib.hid (fun (B : Nat) (W : World) (dd m : Nat) (G : List Gp) (h : NewOK d n B W dd m G) (hB : B ≤ W.heap.size) => h.come hi hk s hs' hl hB)
  rw [he] at HK
  rw [hko] at HO2
  rw [hio] at HO1
  have HCE := Lib.hid (fun (g2 : Nat) (W : World) (hc : ∀ i, i < n → W.cell? ⟨g2, i * 5, none⟩ = some (.int .i64 (frp d i).1) ∧ W.cell? ⟨g2, i * 5 + 1, none⟩ = some (.int .i64 (frp d i).2.1) ∧ W.cell? ⟨g2, i * 5 + 2, none⟩ = some (.int .i64 (frp d i).2.2.1) ∧ W.cell? ⟨g2, i * 5 + 3, none⟩ = some (frp d i).2.2.2.1 ∧ W.cell? ⟨g2, i * 5 + 4, none⟩ = some (.int .i64 (frp d i).2.2.2.2)) (hg : g2 < W.heap.size) =>
    show ∀ V, Below W.heap.size W V → V.cell? ⟨g2, k * 5 + 2, none⟩ = some (.int .i64 (d k).2.2) ∧ V.cell? ⟨g2, k * 5 + 1, none⟩ = some (.int .i64 (d k).2.1) ∧ V.cell? ⟨g2, i * 5 + 1, none⟩ = some (.int .i64 (d i).2.1) from fun V hV =>
      ⟨(hV.cell (p := ⟨g2, k * 5 + 2, none⟩) hg).trans (hc k hk).2.2.1, (hV.cell (p := ⟨g2, k * 5 + 1, none⟩) hg).trans (hc k hk).2.1, (hV.cell (p := ⟨g2, i * 5 + 1, none⟩) hg).trans (hc i hi).2.1⟩)
  rw [hfr] at HS
  rw [hto] at HC
  generalize hz : wire d i k s = z at HS HC
  generalize (d k).2.2 = lk at HCE hl
  generalize (d k).2.1 = mk at HCE HS HC
  generalize (d i).2.1 = mi at HCE HC
  have hlb : (lk == 0) = false := by simpa using hl
  have hpos : 0 < n := by omega
  have i1 : (i : Int) < (n : Int) := by omega
  have k1 : (k : Int) < (n : Int) := by omega
  have i2 : ¬ (i : Int) < 0 := by omega
  have k2 : ¬ (k : Int) < 0 := by omega
  have hq := eq_frm mk mi s
  clear hst hn hn8 hlc hcm he hko hio hi hk hs' hfr hto hz
  go_enter Try.func5, Try.ntmps5
  go_wp2_with (first
    | (go_at_call 7; have HH := HP.out; unfold PortsR at HH; refine HH.mono ?_; clear HH; rintro e w1 ⟨A2, c2, rfl, o1, b1⟩; have P1 := Lib.hid o1.ports; obtain ⟨g2, rfl, hg2, hc2⟩ := P1.out hpos; have CE := Lib.hid (HCE.out g2 w1 hc2 hg2); have B1 := Lib.hid b1; clear o1 b1 hc2 hg2)
    | (go_at_call 15; (with_reducible refine (HO1.out _ _ _ P1.out).mono ?_); rintro e w2 ⟨rfl, rfl⟩)
    | (go_at_call 15; (with_reducible refine (HO2.out _ _ _ P1.out).mono ?_); rintro e w3 ⟨rfl, rfl⟩)
    | (go_at_call 9; (with_reducible refine (HK.out _ _ _ P1.out).mono ?_); rintro e w4 ⟨rfl, b4⟩; have B4 := Lib.hid (B1.out.trans (b4.mono B1.out.size)); have E4 := Lib.hid b4; obtain ⟨c4, _, _⟩ := CE.out w4 b4; clear b4)
    | (go_at_call 8; have HH := HN.out _ (HST.out _ B5.out); refine HH.mono ?_; clear HH; rintro e w6 ⟨db, mb, Gb, rfl, o6, b6⟩; have OB6 := Lib.hid o6; have OA6 := Lib.hid (OA5.out.below b6); have E6 := Lib.hid (E5.out.trans (b6.mono E5.out.size)); have B6 := Lib.hid (B5.out.trans (b6.mono B5.out.size)); have S6 := Lib.hid b6.size; have c6 := (CE.out w6 E6.out).2.1; clear o6 b6)
    | (go_at_call 8; have HH := HN.out _ (HST.out _ B4.out); refine HH.mono ?_; clear HH; rintro e w5 ⟨da, ma, Ga, rfl, o5, b5⟩; have OA5 := Lib.hid o5; have LT5 := Lib.hid o5.1.lt; have E5 := Lib.hid (E4.out.trans (b5.mono E4.out.size)); have B5 := Lib.hid (B4.out.trans (b5.mono B4.out.size)); have S5 := Lib.hid b5.size; clear o5 b5)
    | (go_at_call 20; have HH := HS.out _ _ _ _ _ OA6.out; refine HH.mono ?_; clear HH; rintro e w7 ⟨rfl, lv7, G7, n7, _, k7, _⟩; have b7 := k7.below (B := w4.heap.size) (Nat.le_trans S5.out S6.out) (fun i hi hi' => absurd (OA6.out.2.2.2 i hi') (by omega)); have OB7 := Lib.hid (OB6.out.keeps k7 (fun i hi hi' => absurd (OB6.out.2.2.2 i hi) (by have := LT5.out i hi'; omega))); have N7 := Lib.hid n7; have E7 := Lib.hid (E6.out.trans (b7.mono E4.out.size)); have B7 := Lib.hid (B6.out.trans (b7.mono B4.out.size)); have S7 := Lib.hid b7.size; clear n7 k7 b7)
    | (go_at_call 21; have HH := log_one N7.out; refine HH.mono ?_; clear HH; rintro e w8 ⟨g8, off8, c8, rfl, l8, b8⟩; have OB8 := Lib.hid (OB7.out.below b8); have E8 := Lib.hid (E7.out.trans (b8.mono E7.out.size)); have B8 := Lib.hid (B7.out.trans (b8.mono B7.out.size)); have S8 := Lib.hid b8.size; clear b8)
    | (go_at_call 16; have HH := HC.out _ _ _ _ _ OB8.out (Nat.le_trans S6.out (Nat.le_trans S7.out S8.out)); refine HH.mono ?_; clear HH; rintro e w9 ⟨rfl, b9, lv9, A9, g9, C9, n9, h9, o9, q9⟩; have HT := Lib.hid (take_off n9 h9 (Nat.le_trans (Nat.le_trans S6.out (Nat.le_trans S7.out S8.out)) b9.size) q9); rw [o9] at HT; have E9 := Lib.hid (E8.out.trans (b9.mono (Nat.le_trans E4.out.size S5.out))); have B9 := Lib.hid (B8.out.trans (b9.mono (Nat.le_trans B4.out.size S5.out))); clear b9 n9 h9 q9 o9)
    | (go_at_call 19; have HH := HT.out; refine HH.mono ?_; clear HH; rintro e w10 ⟨rfl, b10⟩; have E10 := Lib.hid (E9.out.trans (b10.mono (Nat.le_trans E4.out.size S5.out))); have B10 := Lib.hid (B9.out.trans (b10.mono (Nat.le_trans B4.out.size S5.out))); clear b10))
  have RX := Lib.hid (Blk.new w10 46 #[.int .i64 mk, .int .i64 mi, .string s])
  have EX := Lib.hid (E10.out.alloc E10.out.size (.cells #[.int .i64 mk, .int .i64 mi, .string s] 46))
  have BX := Lib.hid (B10.out.alloc B10.out.size (.cells #[.int .i64 mk, .int .i64 mi, .string s] 46))
  generalize hwx : w10.alloc (.cells #[.int .i64 mk, .int .i64 mi, .string s] 46) = wx at RX EX BX ⊢
  have x0 : wx.cell? ⟨w10.heap.size, 0, none⟩ = some (.int .i64 mk) := RX.out.cell 0
  have x1 : wx.cell? ⟨w10.heap.size, 1, none⟩ = some (.int .i64 mi) := RX.out.cell 1
  have x2 : wx.cell? ⟨w10.heap.size, 2, none⟩ = some (.string s) := RX.out.cell 2
  obtain ⟨_, x3, x4⟩ := CE.out wx EX.out
  clear hwx c4 c6 l8
  go_region_held3 (fun w' => w'.cell? ⟨w10.heap.size, 0, none⟩ = some (.int .i64 mk) ∧ w'.cell? ⟨w10.heap.size, 1, none⟩ = some (.int .i64 mi) ∧ w'.cell? ⟨w10.heap.size, 2, none⟩ = some (.string s) ∧ w'.cell? ⟨g2, k * 5 + 1, none⟩ = some (.int .i64 mk) ∧ w'.cell? ⟨g2, i * 5 + 1, none⟩ = some (.int .i64 mi))
    (first | exact ⟨x0, x1, x2, x3, x4⟩ | exact ⟨y0, y1, y2, y3, y4⟩ | go_keep)
    (first | (go_at_call 10; (with_reducible refine (HL.out _).mono ?_); rintro e w12 ⟨rfl, b12⟩; have r12 := (RX.out.drewN 1).below b12 RX.out.lt; have y0 : w12.cell? ⟨w10.heap.size, 0, none⟩ = some (.int .i64 mk) := r12.cell 0; have y1 : w12.cell? ⟨w10.heap.size, 1, none⟩ = some (.int .i64 mi) := r12.cell 1; have y2 : w12.cell? ⟨w10.heap.size, 2, none⟩ = some (.string s) := r12.cell 2; obtain ⟨_, y3, y4⟩ := CE.out w12 ((below_drewN EX.out 1).trans (b12.mono EX.out.size)); have B12 := Lib.hid ((below_drewN BX.out 1).trans (b12.mono BX.out.size)); clear b12 r12))
  all_goals
    go_wp2
    go_ret
    exact ⟨rfl, B12.out⟩
end Go.Proofs.Ytjhihccjhnlghaa
