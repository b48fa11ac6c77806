import Derived.Test.YtjhihccjhnlghaaZG25
import Derived.ShutString
import Derived.ChangeOld
import Derived.Lib.SmallJoins
set_option linter.all false
/- What becomes of a fork changes nothing of the other one: the law, walked. -/
namespace Go.Proofs.Ytjhihccjhnlghaa
open Go.RowKit Go.Lib
set_option linter.unusedVariables false

/-- What is joined, behind a world. -/
def JnV (wq : World) (n1 n2 : Nat) (D1 D2 : Nat → Ded) (s : Value) (w : World) : Prop := AllV w s n1 n2 D1 D2 ∧ Below wq.heap.size wq w
set_option maxRecDepth 20000 in
set_option maxHeartbeats 12800000 in
theorem nforks_on (A : Option Addr) (len cap n : Nat) (d : Nat → I3) (At : Option Addr) (lt ct : Nat) (D1 : Nat → Ded) (Au : Option Addr) (lu cu : Nat) (D2 : Nat → Ded) (w : World) (hst : RowsN w A len cap d) (hlc : len ≤ cap) (hcm : cap ≤ 9223372036854775807) (hn : n = min len 8) (he : newE d n = 0)
    (hD1 : DedN w At lt D1) (hf1 : ∀ i, i < lt → FitD (D1 i)) (hlt : lt ≤ ct) (hct : ct ≤ 9223372036854775807) (hD2 : DedN w Au lu D2) (hf2 : ∀ i, i < lu → FitD (D2 i)) (hlu : lu ≤ cu) (hcu : cu ≤ 9223372036854775807) :
    Calls Try.prog 6 #[.slice A len cap, .slice At lt ct, .slice Au lu cu] w (BackV w) := by
  have HP := Lib.hid (ports_any A len cap d w hst hlc hcm)
  rw [← hn] at HP
  have hn8 : n ≤ 8 := by omega
  have HST := Lib.hid (fun (W : World) (hb : Below w.heap.size w W) => (hst.cut n (by omega)).below hb)
  have HD1 := Lib.hid hD1
  have HD2 := Lib.hid hD2
  have HF1 := Lib.hid hf1
  have HF2 := Lib.hid hf2
  have HN := Lib.hid (fun (W : World) (h : RowsN W A n cap d) => dv_new2 h (by omega) he)
  have HK := Lib.hid (fun (A2 : Option Addr) (c2 : Nat) (W : World) (h : PortsV W A2 n (frp d)) => show Calls Try.prog 9 #[.slice A2 n c2] W (fun e w' => e = .returned (.int .i64 (newE d n)) ∧ Below W.heap.size W w') from rcheck_any A2 n c2 d W h (by omega))
  have HL := Lib.hid (fun W => nlive_any W)
  rw [he] at HK
  obtain ⟨n1, hn1, hn1'⟩ : ∃ n1, n1 = min lt 30 ∧ (lt = n1 ∧ lt ≤ 30 ∨ n1 = 30 ∧ 30 < lt) := ⟨_, rfl, by omega⟩
  obtain ⟨n2, hn2, hn2'⟩ : ∃ n2, n2 = min lu 30 ∧ (lu = n2 ∧ lu ≤ 30 ∨ n2 = 30 ∧ 30 < lu) := ⟨_, rfl, by omega⟩
  have hb1 : n1 ≤ lt ∧ n1 ≤ 30 ∧ ∀ i, i < lt → i < 30 → i < n1 := ⟨by omega, by omega, fun i h1 h2 => by omega⟩
  have hb2 : n2 ≤ lu ∧ n2 ≤ 30 ∧ ∀ i, i < lu → i < 30 → i < n2 := ⟨by omega, by omega, fun i h1 h2 => by omega⟩
  have HB1 := Lib.hid hb1
  have HB2 := Lib.hid hb2
  clear hst hn hlc hcm hD1 hD2 hf1 hf2 he hn1 hn2 hb1 hb2
  go_enter Try.func6, Try.ntmps6
  go_upto_region 5 with (first
    | (go_at_call 7; have HH := HP.out; unfold PortsR at HH; refine HH.mono ?_; clear HH; rintro e w1 ⟨A2, c2, rfl, o1, b1⟩; have O1 := Lib.hid o1; have P1 := Lib.hid o1.ports; have B1 := Lib.hid b1; clear o1 b1)
    | (go_at_call 8; have HH := HN.out _ (HST.out _ B1.out); refine HH.mono ?_; clear HH; rintro e w2 ⟨dd, O, rfl, v2, n2', b2, l2⟩; have P2 := Lib.hid (P1.out.below b2); have B2 := Lib.hid (B1.out.trans (b2.mono B1.out.size)); have U2 : Hid (Up w2 w.heap.size d n dd A2 0 0) := Lib.hid (by obtain ⟨F, q1, q2⟩ := Bo.new O1.out v2 n2' b2 l2 B1.out.size; exact ⟨F, [], O, _, _, q1, q2⟩); clear b2 v2 n2' l2)
    | (go_at_call 9; (with_reducible refine (HK.out _ _ _ P2.out).mono ?_); rintro e w4 ⟨rfl, b4⟩; have B4 := Lib.hid (B2.out.trans (b4.mono B2.out.size)); have U4 := Lib.hid (U2.out.below b4); clear b4))
  clear HP HST HN HK P1 P2 B1 B2 O1 U2
  obtain ⟨v1, W1, v2, W2, e1, ⟨Ax, cx, rfl⟩, e2, hall, hbw⟩ := join_any w4 n1 n2 ct cu At Au D1 D2 lt lu (HD1.out.below B4.out) (HD2.out.below B4.out) HB1.out.1 HB2.out.1 (by have := HB1.out.2.1; omega) (by have := HB2.out.2.1; omega)
  have EA := Lib.hid e1
  have EB := Lib.hid e2
  have HJ : Hid (JnV w4 n1 n2 D1 D2 v2 W2) := Lib.hid ⟨hall, hbw⟩
  clear e1 e2 hall hbw
  go_cut [10] from 46 (fun s wx => JnV w4 n1 n2 D1 D2 s wx)
  case first =>
    rcases hn1' with ⟨rfl, q1⟩ | ⟨rfl, q1⟩ <;> rcases hn2' with ⟨rfl, q2⟩ | ⟨rfl, q2⟩
    all_goals
      have j1 : (lt : Int) ≤ (ct : Int) := by omega
      have j2 : (lu : Int) ≤ (cu : Int) := by omega
      first | (have m1 : ¬ (30 : Int) < (lt : Int) := by omega) | (have m1 : (30 : Int) < (lt : Int) := by omega)
      first | (have m2 : ¬ (30 : Int) < (lu : Int) := by omega) | (have m2 : (30 : Int) < (lu : Int) := by omega)
      try have m3 : (30 : Int) ≤ (ct : Int) := by omega
      try have m4 : (30 : Int) ≤ (cu : Int) := by omega
      go_region_law (first
        | (refine step_append_eq rfl (.tmp 46) (.tmp 51) 23 rfl EA.out rfl rfl ?_)
        | (refine step_append_eq rfl (.tmp 52) (.tmp 57) 23 rfl EB.out rfl rfl ?_))
      all_goals
        go_wp2_with (fail)
        go_meet
        case rel => exact HJ.out
  case rest =>
    obtain ⟨⟨A3, c3, rfl, hcells⟩, hb3⟩ := hcut
    have HCE := Lib.hid hcells
    have U3 := Lib.hid (U4.out.below hb3)
    have B3 := Lib.hid (B4.out.trans (hb3.mono B4.out.size))
    have HD1C := Lib.hid (fun (W : World) (hb : Below w.heap.size w W) => HD1.out.below hb)
    have HD2C := Lib.hid (fun (W : World) (hb : Below w.heap.size w W) => HD2.out.below hb)
    clear hcells hb3 U4 B4 EA EB HJ hn1' hn2' HD1 HD2
    go_wp2_with (fail)
    go_loop [11] (fun x => ∃ i : Nat, x = .int .i64 i ∧ i ≤ n1 + n2 ∧ Hid (∀ k, k < i → (txtJ n1 D1 D2 k).size ≤ 200)) (fun x => (n1 + n2) - (intOf x).toNat)
    case atStart => exact ⟨0, rfl, by omega, Lib.hid (by intro k hk; omega)⟩
    case round =>
      obtain ⟨i, rfl, hi, HS⟩ := hrel
      by_cases hin : i < n1 + n2
      · obtain ⟨g3, o3, rfl, hc3⟩ := HCE.out (by omega)
        have t4 := hc3 i hin
        have HSI := Lib.hid (show (txtJ n1 D1 D2 i).size ≤ 200 → ∀ k, k < i + 1 → (txtJ n1 D1 D2 k).size ≤ 200 from fun h k hk => by
          by_cases hki : k < i
          · exact HS.out k hki
          · obtain rfl : k = i := by omega
            exact h)
        generalize txtJ n1 D1 D2 i = s at t4 HSI
        have i1 : (i : Int) < ((n1 + n2 : Nat) : Int) := by omega
        have i60 : i < 60 := by have := HB1.out.2.1; have := HB2.out.2.1; omega
        clear hc3
        by_cases hs : s.size ≤ 200
        · have hs' : (s.size : Int) ≤ 200 := by omega
          have HSS := Lib.hid hs
          clear hs
          go_wp2_with (fail)
          go_round
          case rel => exact ⟨i + 1, by go_num, by omega, Lib.hid (HSI.out HSS.out)⟩
          case measure => simp [intOf] <;> omega
        · have hs' : ¬ (s.size : Int) ≤ 200 := by omega
          go_wp2_with (go_at_call 10; (with_reducible refine (HL.out _).mono ?_); rintro e w7 ⟨rfl, b7⟩; have E7 := Lib.hid (B3.out.trans (b7.mono B3.out.size)); clear b7)
          go_ret
          exact ⟨rfl, E7.out⟩
      · obtain rfl : i = n1 + n2 := by omega
        have i1 : ¬ ((n1 + n2 : Nat) : Int) < ((n1 + n2 : Nat) : Int) := by omega
        have HT1 := Lib.hid (show ∀ i, i < n1 → (D1 i).2.2.2.2.size ≤ 200 from fun i hi => by
          have := HS.out i (by omega)
          rwa [txtJ, if_pos hi] at this)
        have HT2 := Lib.hid (show ∀ i, i < n2 → (D2 i).2.2.2.2.size ≤ 200 from fun i hi => by
          have := HS.out (n1 + i) (by omega)
          rwa [txtJ, if_neg (by omega), Nat.add_sub_cancel_left] at this)
        clear HS hi hin HCE
        go_wp2_with (fail)
        go_loopw [12] (fun x wr => ∃ (i : Nat) (odd : Int), x = .int .i64 i ∧ i ≤ 30 ∧ i ≤ lt ∧ Hid (Up wr w.heap.size d n dd A2 odd i) ∧ Hid (Below w.heap.size w wr)) (fun x _ => 30 - (intOf x).toNat)
        case atStart => exact ⟨0, 0, rfl, by omega, by omega, U3, B3⟩
        case round =>
          obtain ⟨i, odd, rfl, hi3, hil, HU, HB⟩ := hrel
          clear U3 B3
          by_cases hgo : i < lt ∧ i < 30
          · obtain ⟨h1, h2⟩ := hgo
            obtain ⟨tb, toff, rfl, htb, htc⟩ := HD1C.out wr HB.out (by omega)
            obtain ⟨t0, t1, t2, t3, t4⟩ := htc i h1
            have hfit := HF1.out i h1
            have hs := HT1.out i (HB1.out.2.2 i h1 h2)
            clear htc htb
            have HDS := Lib.hid (show Calls Try.prog 12 #[.pointer (some ⟨dd, 0, none⟩), .slice A2 n c2, .agg #[.int .i64 (D1 i).1, .int .i64 (D1 i).2.1, .int .i64 (D1 i).2.2.1, .int .i64 (D1 i).2.2.2.1, .string (D1 i).2.2.2.2]] wr _ from HU.out.deed c2 (D1 i) hfit hs (by omega) (by omega))
            generalize D1 i = x at t0 t1 t2 t3 t4 HDS
            obtain ⟨x1, x2, x3, x4, x5⟩ := x
            simp only at t0 t1 t2 t3 t4 HDS
            have i1 : (i : Int) < (lt : Int) := by omega
            have i2 : (i : Int) < 30 := by omega
            clear hfit hs
            go_wp2_with (go_at_call 12; have HQ := HDS.out; refine HQ.mono ?_; clear HQ; rintro e w6 ⟨rfl, u6, b6⟩; have U6 := Lib.hid u6; have E6 := Lib.hid (HB.out.trans b6); clear u6 b6)
            go_roundw
            case rel => exact ⟨i + 1, _, by go_num, by omega, by omega, U6, E6⟩
            case measure => simp [intOf] <;> omega
          · have hupo := HU.out
            obtain ⟨F, S, O', P, R, hbo, hF⟩ := hupo
            have hsl : S.length ≤ 1000 := by have := hbo.2.2.2.2.2.1; omega
            have HFK := Lib.hid (dv_fork hbo.1 hsl hbo.2.2.2.2.1 (by omega) (by omega))
            have HBO := Lib.hid hbo
            have HFF := Lib.hid hF
            have hu := hil
            clear hbo hF
            rcases (show ¬ ((i : Int) < (lt : Int)) ∨ ((i : Int) < (lt : Int) ∧ ¬ (i : Int) < 30) by omega) with hx | ⟨hx, hx2⟩
            all_goals
              go_upto_region 18 with (go_at_call 22; have HQ := HFK.out; refine HQ.mono ?_; clear HQ; rintro e w7 ⟨df, O2, rfl, v7, n7, b7⟩; have V7 := Lib.hid v7; have N7 := Lib.hid n7; have B7 := Lib.hid b7; clear v7 n7 b7)
              have hb7 := HBO.out.below B7.out
              have hsrc := (hb7.2.1.keeps (Keeps.of_below ((Below.refl w7.heap.size w7).alloc (Nat.le_refl _) (.cells #[] 52)) (fun _ => False)) fun _ _ h => h).src c2 (fun k hk => (hb7.2.2.1 k hk).1.one)
              obtain ⟨i0, hi0, hz0, hz1, hz2⟩ := info_parts rport_info
              obtain ⟨A3, c3', w8, ecp, g8, h8⟩ := run_copyZ (P := Try.prog) (w7.alloc (.cells #[] 52)) 24 52 24 i0 _ 56 Try.underlying24 hi0 hz0 hz1 hz2 (by omega) rfl w7.heap.size n (by simp) _ _ hsrc (by omega)
              have p8 := Bo.fork HBO.out HFF.out HB.out.size V7.out N7.out B7.out (only_trans (only_alloc (only_refl w7 none) _) g8) A3 (fun hp => by
                obtain ⟨g, cs, q1, q2, q3⟩ := h8 hp
                exact ⟨g, cs, q1, by simp at q2; omega, q3⟩)
              have P8 := Lib.hid p8
              have B8 := Lib.hid ((HB.out.trans (B7.out.mono HB.out.size)).trans (below_of_only (only_trans (only_alloc (only_refl w7 none) (.cells #[] 52)) g8) (Nat.le_trans HB.out.size B7.out.size) (by simp)))
              have EC := Lib.hid ecp
              obtain ⟨L, hL⟩ : ∃ L, L = S.length := ⟨_, rfl⟩
              rw [← hL] at P8 hsl
              clear hb7 hsrc h8 p8 ecp g8 hi0 hz0 hz1 hz2 hL
              go_wp2_with (first
                | (at_builtin; refine wpList_append_eq rfl (.tmp 94) (.tmp 95) 24 rfl EC.out rfl rfl ?_)
                | (go_at_call 21; have HQ := P8.out.log hsl; refine HQ.mono ?_; clear HQ; rintro e w9 ⟨A9, c9, rfl, b9⟩; have P9 := Lib.hid (P8.out.below b9); have B9 := Lib.hid (B8.out.trans (b9.mono B8.out.size)); clear b9))
              clear HBO HFF HFK V7 N7 B7 EC P8 B8 HU HB
              go_loopw [16] (fun x wr => ∃ j : Nat, x = .int .i64 j ∧ j ≤ 30 ∧ j ≤ lu ∧ Hid (Pr wr w.heap.size d n dd df A2 (some A3) L i (i + j)) ∧ Hid (Below w.heap.size w wr)) (fun x _ => 30 - (intOf x).toNat)
              case atStart => exact ⟨0, rfl, by omega, by omega, P9, B9⟩
              case round =>
                obtain ⟨j, rfl, hj3, hjl, HU, HB⟩ := hrel
                clear P9 B9
                by_cases hgo : j < lu ∧ j < 30
                · obtain ⟨h1, h2⟩ := hgo
                  obtain ⟨tb, toff, rfl, htb, htc⟩ := HD2C.out wr HB.out (by omega)
                  obtain ⟨t0, t1, t2, t3, t4⟩ := htc j h1
                  have hfit := HF2.out j h1
                  have hs := HT2.out j (HB2.out.2.2 j h1 h2)
                  clear htc htb
                  have HDS := Lib.hid (show Calls Try.prog 12 #[.pointer (some ⟨df, 0, none⟩), .slice (some A3) n c3', .agg #[.int .i64 (D2 j).1, .int .i64 (D2 j).2.1, .int .i64 (D2 j).2.2.1, .int .i64 (D2 j).2.2.2.1, .string (D2 j).2.2.2.2]] wr _ from HU.out.deed c3' (D2 j) hfit hs (by omega) (by omega))
                  generalize D2 j = x at t0 t1 t2 t3 t4 HDS
                  obtain ⟨x1, x2, x3, x4, x5⟩ := x
                  simp only at t0 t1 t2 t3 t4 HDS
                  have i1 : (j : Int) < (lu : Int) := by omega
                  have i2 : (j : Int) < 30 := by omega
                  clear hfit hs
                  go_wp2_with (go_at_call 12; have HQ := HDS.out; refine HQ.mono ?_; clear HQ; rintro e w10 ⟨rfl, u10, b10⟩; have U10 := Lib.hid u10; have E10 := Lib.hid (HB.out.trans b10); clear u10 b10)
                  go_roundw
                  case rel => exact ⟨j + 1, by go_num, by omega, by omega, Lib.hid (by rw [show i + (j + 1) = i + j + 1 by omega]; exact U10.out), E10⟩
                  case measure => simp [intOf] <;> omega
                · rcases (show ¬ ((j : Int) < (lu : Int)) ∨ ((j : Int) < (lu : Int) ∧ ¬ (j : Int) < 30) by omega) with hy | ⟨hy, hy2⟩
                  all_goals
                    go_wp2_with (first
                      | (go_at_call 22; (with_reducible refine (nfork_nil _).mono ?_); rintro e v9 ⟨rfl, rfl⟩)
                      | (go_at_call 21; (with_reducible refine (nlog_nil _).mono ?_); rintro e v8 ⟨rfl, rfl⟩)
                      | (go_at_call 23; (with_reducible refine (nown_nil _ _).mono ?_); rintro e v7 ⟨rfl, rfl⟩)
                      | (go_at_call 14; (with_reducible refine (nodd_nil _).mono ?_); rintro e v6 ⟨rfl, rfl⟩)
                      | (go_at_call 18; (with_reducible refine (ndrops_nil _ _).mono ?_); rintro e v5 ⟨rfl, y5⟩; have Y5 := Lib.hid (Y4.out.trans (below_of_only y5 Y4.out.size (by simp))); clear y5)
                      | (go_at_call 17; (with_reducible refine (nwaits_nil _ _).mono ?_); rintro e v4 ⟨rfl, y4⟩; have Y4 := Lib.hid (Y3.out.trans (below_of_only y4 Y3.out.size (by simp))); clear y4)
                      | (go_at_call 20; (with_reducible refine (nsend_nil _ _ _ _ _).mono ?_); rintro e v3 ⟨rfl, y3⟩; have Y3 := Lib.hid (Y2.out.trans (below_of_only y3 Y2.out.size (by simp))); clear y3)
                      | (go_at_call 21; have HQ := P17.out.log hsl; refine HQ.mono ?_; clear HQ; rintro e v2 ⟨A18, c18, rfl, y2⟩; have Y2 := Lib.hid (Y1.out.trans (y2.mono Y1.out.size)); clear y2)
                      | (go_at_call 13; (with_reducible refine (P16.out.told2 _ (by omega)).mono ?_); rintro e v1 ⟨rfl, y1⟩; have P17 := Lib.hid (P16.out.below y1); have Y1 := Lib.hid (Y0.out.trans (y1.mono Y0.out.size)); clear y1)
                      | (go_at_call 13; (with_reducible refine (P15.out.told1 _ (by omega)).mono ?_); rintro e v0 ⟨rfl, y0⟩; have P16 := Lib.hid (P15.out.below y0); have Y0 := Lib.hid (E14.out.trans (y0.mono E14.out.size)); clear y0)
                      | (go_at_call 10; (with_reducible refine (HL.out _).mono ?_); rintro e w14 ⟨rfl, b14⟩; have P15 := Lib.hid (P13.out.below b14); have E14 := Lib.hid (E13.out.trans (b14.mono E13.out.size)); clear b14)
                      | (go_at_call 16; (with_reducible refine (ncome_nil _ _).mono ?_); rintro e w15 ⟨rfl, rfl⟩)
                      | (go_at_call 19; (with_reducible refine (ntake_nil _ _).mono ?_); rintro e w13 ⟨rfl, b13⟩; have hbx := (b13.trans ((Below.refl w13.heap.size w13).alloc (Nat.le_refl _) (.cells #[.int .i64 0, .int .i64 0, .string ⟨#[]⟩] 46) |>.mono b13.size)); have P13 := Lib.hid (HU.out.below hbx); have E13 := Lib.hid (HB.out.trans (hbx.mono HB.out.size)); clear hbx b13))
                    go_ret
                    exact ⟨rfl, Y5.out⟩

theorem nforks_call (A : Option Addr) (len cap : Nat) (d : Nat → I3) (At : Option Addr) (lt ct : Nat) (D1 : Nat → Ded) (Au : Option Addr) (lu cu : Nat) (D2 : Nat → Ded) (w : World) (hst : RowsN w A len cap d) (hf : ∀ i, i < len → FitN (d i)) (hlc : len ≤ cap) (hcm : cap ≤ 9223372036854775807)
    (hD1 : DedN w At lt D1) (hf1 : ∀ i, i < lt → FitD (D1 i)) (hlt : lt ≤ ct) (hct : ct ≤ 9223372036854775807) (hD2 : DedN w Au lu D2) (hf2 : ∀ i, i < lu → FitD (D2 i)) (hlu : lu ≤ cu) (hcu : cu ≤ 9223372036854775807) :
    Calls Try.prog 6 #[.slice A len cap, .slice At lt ct, .slice Au lu cu] w fun e w' => e = .returned (.bool true) ∧ Below w.heap.size w w' := by
  show Calls Try.prog 6 #[.slice A len cap, .slice At lt ct, .slice Au lu cu] w (BackV w)
  by_cases he : newE d (min len 8) = 0
  · exact nforks_on A len cap _ d At lt ct D1 Au lu cu D2 w hst hlc hcm rfl he hD1 hf1 hlt hct hD2 hf2 hlu hcu
  · exact nforks_off A len cap _ d At lt ct Au lu cu w hst hlc hcm rfl he
end Go.Proofs.Ytjhihccjhnlghaa

/- NicForks: what becomes of a fork of a device for the net changes nothing of the other one; a nil device has no ports: for all ports and both deeds the law returns true, and each argument reads afterwards as1 before. No condition. -/
namespace Go.Proofs.Ytjhihccjhnlghaa
open Go.RowKit Go.Lib Go.ChangeShapes Go.WideShapes Go.ChangeAt Go.Deep Go.Joins
open Go.ChangeMaps (open_string shut_string)
set_option linter.unusedVariables false

theorem nforks_own : ownKnob Try.prog.godebug = none := by kernel_rfl
theorem nforks_laid : laidOutB Try.prog = true := by kernel_rfl
set_option maxRecDepth 100000 in
theorem nforks_lifted (os : Os) (started : os.Started) (H : Type) (enc : TypeId × Value → H) :
    ReturnsInHanded {} Try.checked os 6 .any (Rows.nicForksSpec.pre6 enc Try.prog Try.f6 Rows.nicForksRow.domain false) (Rows.nicForksSpec.post enc Try.prog Try.f6 false true false false) := by
  refine returnsInHanded_of_change (C := Try.checked) nforks_own started (by kernel_rfl) Try.func6
    (ChangeSpec.witness6 (enc := enc) (C := Try.checked) false ⟨#[], #[.slice none 0 0, .slice none 0 0, .slice none 0 0], []⟩ 8 (by kernel_rfl) (by kernel_rfl) (by kernel_rfl) (by kernel_rfl)) ?_
  intro W base args ds gs before hval0 hW hcnd _
  have hval : ∀ (j : Nat) t v, Try.f6.params[j]? = some t → args[j]? = some v → Value.okWide Try.prog W .any base t v := hval0
  have hW' := hW
  obtain ⟨p, q, hA0, hV, rfl, hfz, hnd⟩ := hW
  have hA : DataW.TrodAll enc Try.prog W 0 (fun _ => true) true Try.f6.params.toList args.toList ds p := hA0
  rw [Try.params6] at hA hval
  obtain ⟨v0, vs0, d0, ds0, p0, q0, hargs, rfl, rfl, h0, r0⟩ := trodAll_cons hA
  obtain ⟨v1, vs1, d1, ds1, p1, q1, rfl, rfl, rfl, h1, r1⟩ := trodAll_cons r0
  obtain ⟨v2, vs2, d2, ds2, p2, q2, rfl, rfl, rfl, h2, r2⟩ := trodAll_cons r1
  obtain ⟨rfl, rfl, rfl⟩ := trodAll_nil r2
  obtain rfl : args = #[v0, v1, v2] := by cases args; simp_all
  obtain ⟨rfl, rfl⟩ := trodVars_none hV
  obtain ⟨A0, len0, cap0, rfl⟩ := okWide_slice Try.underlying22 (hval 0 22 v0 rfl rfl)
  have k0 := h0
  have lt0 : ∀ x ∈ p0, x.block < W.heap.size := by obtain ⟨m, hm⟩ := k0; exact DataW.trod_lt m _ _ _ hm
  obtain ⟨fuel0, hf0⟩ := h0
  obtain ⟨hlc0, hcm0, D0, hst0, hfit0⟩ := open_ports (by simpa [Value.cells] using hf0)
  obtain ⟨A1, len1, cap1, rfl⟩ := okWide_slice Try.underlying23 (hval 1 23 v1 rfl rfl)
  have k1 := h1
  have lt1 : ∀ x ∈ p1, x.block < W.heap.size := by obtain ⟨m, hm⟩ := k1; exact DataW.trod_lt m _ _ _ hm
  obtain ⟨fuel1, hf1⟩ := h1
  obtain ⟨hlc1, hcm1, D1, hst1, hfit1⟩ := open_deds (by simpa [Value.cells] using hf1)
  obtain ⟨A2, len2, cap2, rfl⟩ := okWide_slice Try.underlying23 (hval 2 23 v2 rfl rfl)
  have k2 := h2
  have lt2 : ∀ x ∈ p2, x.block < W.heap.size := by obtain ⟨m, hm⟩ := k2; exact DataW.trod_lt m _ _ _ hm
  obtain ⟨fuel2, hf2⟩ := h2
  obtain ⟨hlc2, hcm2, D2, hst2, hfit2⟩ := open_deds (by simpa [Value.cells] using hf2)
  clear hA0 hval0
  refine (nforks_call A0 len0 cap0 D0 A1 len1 cap1 D1 A2 len2 cap2 D2 W hst0 hfit0 hlc0 hcm0 hst1 hfit1 hlc1 hcm1 hst2 hfit2 hlc2 hcm2).mono fun e W' ⟨he, bel⟩ => ?_
  subst he
  exact ⟨_, rfl, _, _, _, [], _, [], hW', trodAll_mk1 (shut_bool Try.underlying4 _), (trodAll_cons_mk (Below.trod nforks_laid (by kernel_rfl) (of_decide_eq_true (by kernel_rfl)) k0 bel lt0) (trodAll_cons_mk (Below.trod nforks_laid (by kernel_rfl) (of_decide_eq_true (by kernel_rfl)) k1 bel lt1) (trodAll_cons_mk (Below.trod nforks_laid (by kernel_rfl) (of_decide_eq_true (by kernel_rfl)) k2 bel lt2) trodAll_mk0))), rfl, bel.frame _, fun h => by cases h⟩

theorem nforks_holds : Rows.NicForksSaid :=
  OpenClaim.holds_of_wide 6 Try.f6 rfl rfl rfl rfl rfl rfl rfl ⟨rfl, rfl, rfl, rfl, rfl⟩ rfl rfl rfl rfl rfl (by kernel_rfl) Try.func6 (by kernel_rfl)
    (of_decide_eq_true (by kernel_rfl)) (by unfold Func.isWrapper; first | (rw [if_pos (by decide +kernel)]; kernel_rfl) | (rw [if_neg (by decide +kernel)]; exact ⟨rfl, rfl⟩))
    (fun os started H enc _ => nforks_lifted os started H enc)
#print axioms nforks_holds
end Go.Proofs.Ytjhihccjhnlghaa
