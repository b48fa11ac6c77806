import Derived.Test.YtldbhcbmcogmfaaDoorZ13
import Derived.Test.YtldbhcbmcogmfaaDoorZ07
import Derived.Test.YtldbhcbmcogmfaaDoorZ08
import Derived.Laws.StructEq
set_option linter.all false
/- The document's Lines, by its contract. -/
namespace Go.Proofs.YtldbhcbmcogmfaaDoor
open Go.RowKit Go.Lib
set_option linter.unusedVariables false
set_option maxRecDepth 8000

/-- What Lines answers. -/
def Am.LiV (w : World) (T : List (List UInt8)) (e : Ending) (w' : World) : Prop :=
  Below w.heap.size w w' ∧ ∃ (A : Option Addr) (i c : Nat), (((Am.go 0 T Am.st0).1 ≠ 0 ∧ e = .returned (.tuple #[.slice A i c, .int .i64 (Am.go 0 T Am.st0).2.1, .int .i64 (Am.go 0 T Am.st0).1])) ∨
    ∃ L : List Am.RL, i = L.length ∧ Am.go 0 T Am.st0 = (0, 0, Am.stL L) ∧ L.length = T.length ∧
      ((Am.chk (Am.lbs L 0) L 1 ≠ 0 ∧ e = .returned (.tuple #[.slice A i c, .int .i64 (Am.chk (Am.lbs L 0) L 1), .int .i64 14])) ∨
       (Am.chk (Am.lbs L 0) L 1 = 0 ∧ e = .returned (.tuple #[.slice A i c, .int .i64 0, .int .i64 0]) ∧ Am.LsV w' w.heap.size (.slice A i c) L ∧ (∀ q ∈ L, Am.Good q) ∧ (Am.fl L).length ≤ 1024)))
theorem Am.LiV.bad {w w' : World} {T : List (List UInt8)} (A : Option Addr) (i c : Nat) (er : Int) (ln : Nat) (st : Am.St) (h : Am.go 0 T Am.st0 = (er, ln, st)) (he : er ≠ 0) (b : Below w.heap.size w w') : Am.LiV w T (.returned (.tuple #[.slice A i c, .int .i64 ln, .int .i64 er])) w' :=
  ⟨b, A, i, c, .inl ⟨by rw [h]; exact he, by rw [h]⟩⟩
set_option maxRecDepth 20000 in
set_option maxHeartbeats 6400000 in
theorem Am.rlines_any (s : ByteArray) (hs : s.size ≤ 2000) (w : World) : Calls Tryd.prog 11 #[.string s] w (Am.LiV w (Am.spl 10 s.data.toList)) := by
  have HT := Lib.hid (show (Am.spl 10 s.data.toList).length ≤ 2001 from by
    rw [Am.spl_len]
    have := List.count_le_length (a := (10 : UInt8)) (l := s.data.toList)
    rw [Am.len] at this
    omega)
  have HX := Lib.hid (show ∀ x ∈ Am.spl 10 s.data.toList, x.length ≤ 100000 from fun x hx => by
    have := Am.spl_sum 10 s.data.toList x hx
    rw [Am.len] at this
    omega)
  have HSP := Lib.hid (show Calls Tryd.prog 18 #[.string s, .int .u8 10] w (Am.RSpV w (Am.spl 10 s.data.toList)) from Am.rsplit_any s (by omega) 10 w)
  have hT1 : 1 ≤ (Am.spl 10 s.data.toList).length := by rw [Am.spl_len]; omega
  generalize Am.spl 10 s.data.toList = T at *
  obtain ⟨n0, hn0⟩ : ∃ n0, n0 = T.length := ⟨_, rfl⟩
  have HN0 := Lib.hid hn0
  have HBAD := Lib.hid (fun (w' : World) (A : Option Addr) (i c : Nat) (er : Int) (ln : Nat) (st : Am.St) (h : Am.go 0 T Am.st0 = (er, ln, st)) (he : er ≠ 0) (b : Below w.heap.size w w') => Am.LiV.bad (w := w) A i c er ln st h he b)
  unfold Am.RSpV at HSP
  rw [← hn0] at HSP
  clear hn0 hs
  have hn01 : 1 ≤ n0 := by rw [HN0.out]; exact hT1
  clear hT1
  go_enter Tryd.func11, Tryd.ntmps11
  go_upto_region 2 with (go_at_call 18; (with_reducible refine HSP.out.mono ?_); rintro e w1 ⟨tA, tc, rfl, hS⟩; have HS := Lib.hid hS; clear hS)
  obtain ⟨g0, off0, rfl, hg0, hwd⟩ := Am.word_at HS.out.1 (by have := HN0.out; omega)
  have HWD := Lib.hid (show w.heap.size ≤ g0 ∧ g0 < w1.heap.size from ⟨HS.out.2.1 g0 (by simp [Value.ownBlock]), hg0⟩)
  clear hwd hg0 HSP
  obtain ⟨W2, hW2, G2, P2⟩ := Am.box1 w1 35 #[]
  have z2 : W2.heap.size = w1.heap.size + 1 := by rw [hW2]; simp
  have LI0 : Hid (Am.LI w W2 T g0 off0 tc (some ⟨w1.heap.size, 0, none⟩) 0 0 0 []) := Lib.hid ⟨rfl, ⟨fun _ => ((none, 0), (none, 0)), by have := RowZ.empty (w := W2) (g := w1.heap.size) 5 0 (by omega); exact this, (fun k hk => by simp [Value.ownBlock] at hk; have := HS.out.2.2.size; omega), (fun i hi => absurd hi (Nat.not_lt_zero _)), (fun i k hi => absurd hi (Nat.not_lt_zero _))⟩, (fun q hq => by cases hq), rfl, Nat.zero_le _, rfl, HS.out.2.2.trans (below_of_only G2 HS.out.2.2.size (by simp)), by have := HS.out.1.grown G2; rw [HN0.out] at this; exact this, by simp [Value.ownBlock]; have := HWD.out; omega⟩
  clear G2 P2 z2
  go_wp2
  rw [← hW2]
  clear hW2
  go_loopw [6, 7, 8] (fun x z y wr => ∃ (A : Option Addr) (c i N : Nat) (L : List Am.RL), x = .slice A i c ∧ z = .int .i64 N ∧ y = .int .i64 i ∧ i ≤ n0 ∧ Hid (Am.LI w wr T g0 off0 tc A c i N L)) (fun _ _ y _ => n0 - (Go.Lib.intOf y).toNat)
  case atStart => exact ⟨_, 0, 0, 0, [], rfl, rfl, rfl, Nat.zero_le _, LI0⟩
  case round =>
    obtain ⟨A, c, i, N, L, rfl, rfl, rfl, hi, HI⟩ := hrel
    clear LI0 HS
    have iT : i ≤ 2001 := by have := HT.out; have := HN0.out; omega
    have i2 : (0 : Int) ≤ (i : Int) := by omega
    have u1 : IntKind.i64.wrap ((i : Int) + 1) = (i : Int) + 1 := Am.wrap_i _ (by omega) (by omega)
    by_cases hin : i < n0
    · have i1 : (i : Int) < (n0 : Int) := by omega
      have hiT : i < T.length := by rw [← HN0.out]; exact hin
      obtain ⟨g', off', hA, hg', hc⟩ := Am.word_at HI.out.row (by omega)
      injection hA with hA
      injection hA with e1 e2
      subst e1 e2
      have ct := hc i hiT
      have hdrop : T.drop i = T.getD i [] :: T.drop (i + 1) := by
        rw [List.drop_eq_getElem_cons hiT]
        simp [List.getD, hiT]
      have hmem : T.getD i [] ∈ T := by
        simp [List.getD, hiT]
      have hsz := HX.out _ hmem
      generalize T.getD i [] = ti at *
      have HRD := Lib.hid (Am.rread_any ⟨ti.toArray⟩ (by show ti.toArray.size ≤ 100000; simpa using hsz) wr)
      rw [show (⟨ti.toArray⟩ : ByteArray).data.toList = ti from by simp] at HRD
      have HDR := Lib.hid hdrop
      have HIN := Lib.hid hin
      obtain ⟨tb, htb⟩ : ∃ tb : ByteArray, tb = ⟨ti.toArray⟩ := ⟨_, rfl⟩
      rw [← htb] at HRD ct
      clear htb hdrop hmem hsz hc hg' hiT hin
      go_upto_region 8 with (go_at_call 19; (with_reducible refine HRD.out.mono ?_); rintro e w3 ⟨bel, R, E, wrr, rfl, HM, HLI⟩; have HM3 := Lib.hid HM; have HL3 := Lib.hid HLI; have BE3 := Lib.hid bel; clear HM HLI bel)
      obtain ⟨lbB, hlb⟩ : ∃ x : ByteArray, x = ⟨R.lb.toArray⟩ := ⟨_, rfl⟩
      obtain ⟨nmB, hnm⟩ : ∃ x : ByteArray, x = ⟨R.nm.toArray⟩ := ⟨_, rfl⟩
      rw [← hlb, ← hnm]
      have HLB := Lib.hid hlb
      have HNM := Lib.hid hnm
      have hlbd : lbB.data.toList = R.lb := by rw [hlb]
      clear hlb hnm
      obtain ⟨W4, hW4, G4, P4⟩ := Am.box1 w3 35 #[.string lbB, .slice E.1.1 R.ns.length E.1.2, .slice E.2.1 R.ss.length E.2.2, .string nmB, .bool wrr]
      rw [← hW4]
      clear hW4
      have B4 := Lib.hid (BE3.out.trans (below_of_only G4 BE3.out.size (by simp)))
      have HM4 := Lib.hid (HM3.out.grown G4)
      obtain ⟨b0, b1, b2, b3, b4, _⟩ := Am.box5c P4
      have HP4 := Lib.hid P4
      have hone := Am.one_step HL3.out (fun q => Am.line_kind q) (by rw [HI.out.tot]; exact HI.out.lim)
      rw [← HI.out.len] at hone
      have hgo0 : Am.go i (T.drop i) (Am.stL L) = if (Am.one (i + 1) (Am.line ti) (Am.stL L)).1 = 0 then Am.go (i + 1) (T.drop (i + 1)) (Am.one (i + 1) (Am.line ti) (Am.stL L)).2 else ((Am.one (i + 1) (Am.line ti) (Am.stL L)).1, i + 1, Am.stL L) := by rw [HDR.out]; rfl
      have HGO := Lib.hid (HI.out.go.trans hgo0)
      have HGI := Lib.hid hgo0
      have HLEN := Lib.hid HI.out.len
      clear P4 G4 ct HRD hgo0
      rcases hone with ⟨rfl, ho⟩ | ⟨rfl, hgd, ho⟩
      · have HE := Lib.hid (show Am.go 0 T Am.st0 = (3, i + 1, Am.stL L) from by rw [HGO.out, ho, if_neg (by decide)])
        clear ho hlbd
        go_wp2
        go_ret3
        exact HBAD.out _ _ _ _ _ _ _ HE.out (by decide) (HI.out.bel.trans (B4.out.mono HI.out.bel.size))
      · have HGD := Lib.hid hgd
        have HO := Lib.hid ho
        have hlen3 : L.length ≤ 3000 := by rw [← HLEN.out]; omega
        have HPL := Lib.hid (fun (W : World) (k : Below W4.heap.size W4 W) => Am.rplace_any w.heap.size A i c L lbB W (((HI.out.kept B4.out).kept k).ls) HLEN.out hlen3)
        have HPK := Lib.hid (show R.lb ≠ [] → Am.plc L lbB.data.toList 0 = Am.optZ (Am.look (Am.lbs L 0) R.lb) from fun h => by rw [hlbd]; exact Am.plc_look h L 0 HI.out.good)
        have HLD := Lib.hid hlbd
        clear hlbd
        clear hgd ho hlen3
        by_cases hdup : R.lb ≠ [] ∧ (Am.look (Am.lbs L 0) R.lb).isSome = true
        · obtain ⟨hd1, hd2⟩ := hdup
          obtain ⟨a, ha⟩ := Option.isSome_iff_exists.1 hd2
          have HE := Lib.hid (show Am.go 0 T Am.st0 = (14, i + 1, Am.stL L) from by
            rcases HO.out with ⟨_, _, ho⟩ | ⟨ho, _⟩
            · rw [HGO.out, ho, if_neg (by decide)]
            · rcases ho with ho | ho
              · exact absurd ho hd1
              · rw [ho] at hd2; cases hd2)
          have hpl := HPL.out W4 (Below.refl _ _)
          rw [HPK.out hd1, ha] at hpl
          have HP := Lib.hid (show Calls Tryd.prog 16 #[.slice A i c, .string lbB] W4 fun e w' => e = .returned (.int .i64 (a : Int)) ∧ W4.grownBy w' none from hpl)
          have hne : lbB ≠ ⟨#[]⟩ := fun e => hd1 (by rw [← HLD.out, e])
          have j3 := Am.str_some hne
          have a0 : (0 : Int) ≤ (a : Int) := by omega
          clear hd1 hd2 ha hpl hne
          go_wp2_with (go_at_call 16; (with_reducible refine HP.out.mono ?_); rintro e w5 ⟨rfl, g5⟩; have G5 := Lib.hid g5; clear g5)
          go_ret3
          exact HBAD.out _ _ _ _ _ _ _ HE.out (by decide) (HI.out.bel.trans ((B4.out.trans (below_of_only G5.out B4.out.size (by simp))).mono HI.out.bel.size))
        · have u0 : (0 : Int) ≤ (N : Int) := by omega
          go_upto_region 10 with (fail)
          go_cut [39] from 30 to 38 (fun b wx => b = .bool false ∧ W4.grownBy wx none)
          case first =>
            by_cases he : R.lb = []
            · have hl0 : lbB = ⟨#[]⟩ := by
                rw [HLB.out, he]
              subst hl0
              clear he
              go_wp2
              go_meet
              exact ⟨rfl, only_refl _ _⟩
            · have hnone : Am.look (Am.lbs L 0) R.lb = none := by
                cases q : Am.look (Am.lbs L 0) R.lb with
                | none => rfl
                | some a => exact absurd ⟨he, by rw [q]; rfl⟩ hdup
              have hpl := HPL.out W4 (Below.refl _ _)
              rw [HPK.out he, hnone] at hpl
              have HP := Lib.hid (show Calls Tryd.prog 16 #[.slice A i c, .string lbB] W4 fun e w' => e = .returned (.int .i64 (-1)) ∧ W4.grownBy w' none from hpl)
              have hne : lbB ≠ ⟨#[]⟩ := fun e => he (by rw [← HLD.out, e])
              have j3 := Am.str_some hne
              clear he hnone hpl hne hdup
              go_wp2_with (go_at_call 16; (with_reducible refine HP.out.mono ?_); rintro e w5 ⟨rfl, g5⟩; have G5 := Lib.hid g5; clear g5)
              go_meet
              exact ⟨rfl, G5.out⟩
          case rest =>
            obtain ⟨rfl, gx⟩ := hcut
            obtain ⟨b0, b1, b2, b3, b4, _⟩ := Am.box5c (HP4.out.only gx (by simp))
            have hbx : Below wr.heap.size wr wc := B4.out.trans (below_of_only gx B4.out.size (by simp))
            have BX := Lib.hid hbx
            have hmx := HM4.out.grown gx
            obtain ⟨K, hK⟩ : ∃ K, K = (Am.bs R).length := ⟨_, rfl⟩
            have hK6 : K ≤ 6 := by have := HGD.out.1.sum; have := HGD.out.len; omega
            have hsz := Am.rsize_any lbB nmB false wr.heap.size E.1.1 E.2.1 R.ns.length E.1.2 E.2.2 R.ns R.ss wc hmx HGD.out.1.1 (by have := HGD.out.1.2.1; omega)
            rw [← HGD.out.len, ← hK] at hsz
            have HSZ := Lib.hid hsz
            have HMX := Lib.hid hmx
            have HKK := Lib.hid hK
            have hN := HI.out.lim
            have u5 : IntKind.i64.wrap ((N : Int) + (K : Int)) = (N : Int) + (K : Int) := Am.wrap_i _ (by omega) (by omega)
            have u6 : wrap64 ((N : Int) + (K : Int)) = (N : Int) + (K : Int) := IntWalk.wrap64_in _ ⟨by omega, by omega⟩
            have hcells : (Am.rlC R E).toArray = #[.string lbB, .slice E.1.1 R.ns.length E.1.2, .slice E.2.1 R.ss.length E.2.2, .string nmB, .bool false] := by rw [HLB.out, HNM.out]; rfl
            have HCL := Lib.hid hcells
            have hO2 : (1024 < N + K ∧ (Am.one (i + 1) (Am.line ti) (Am.stL L)).1 = 4) ∨ (N + K ≤ 1024 ∧ Am.one (i + 1) (Am.line ti) (Am.stL L) = (0, Am.stL (L ++ [R]))) := by
              rcases HO.out with ⟨h1, h2, _⟩ | ⟨_, ho⟩
              · exact absurd ⟨h1, h2⟩ hdup
              · rw [HI.out.tot, ← hK] at ho
                exact ho
            clear hbx hmx hK hsz hdup gx hcells
            rcases hO2 with ⟨hl, ho⟩ | ⟨hl, ho⟩
            · have HE := Lib.hid (show Am.go 0 T Am.st0 = (4, i + 1, Am.stL L) from by rw [HGO.out, ho, if_neg (by decide)])
              have i5 : (1024 : Int) < (N : Int) + (K : Int) := by omega
              clear ho hl hN
              go_wp2_with (go_at_call 20; (with_reducible refine HSZ.out.mono ?_); rintro e w6 ⟨rfl, g6⟩; have G6 := Lib.hid g6; clear g6)
              go_ret3
              exact HBAD.out _ _ _ _ _ _ _ HE.out (by decide) (HI.out.bel.trans ((BX.out.trans (below_of_only G6.out BX.out.size (by simp))).mono HI.out.bel.size))
            · have HGN := Lib.hid (show Am.go i (T.drop i) (Am.stL L) = Am.go (i + 1) (T.drop (i + 1)) (Am.stL (L ++ [R])) from by rw [HGI.out, ho, if_pos rfl])
              have i5 : ¬ (1024 : Int) < (N : Int) + (K : Int) := by omega
              have HNK := Lib.hid (show N + K ≤ 1024 from hl)
              have HI1 := Lib.hid (show i + 1 ≤ n0 from HIN.out)
              have hLl : L.length ≤ 100000 := by rw [← HLEN.out]; omega
              have HLL := Lib.hid hLl
              clear ho hl hN hLl
              go_upto_region 13 with (go_at_call 20; (with_reducible refine HSZ.out.mono ?_); rintro e w6 ⟨rfl, g6⟩; have G6 := Lib.hid g6; clear g6)
              obtain ⟨b0', b1', b2', b3', b4', _⟩ : w6.cell? ⟨w3.heap.size, 0, none⟩ = some (.string lbB) ∧ w6.cell? ⟨w3.heap.size, 1, none⟩ = some (.slice E.1.1 R.ns.length E.1.2) ∧ w6.cell? ⟨w3.heap.size, 2, none⟩ = some (.slice E.2.1 R.ss.length E.2.2) ∧ w6.cell? ⟨w3.heap.size, 3, none⟩ = some (.string nmB) ∧ w6.cell? ⟨w3.heap.size, 4, none⟩ = some (.bool false) ∧ True := by
                have hlt := block_lt_of_cell b0
                have q : ∀ o, w6.cell? ⟨w3.heap.size, o, none⟩ = wc.cell? ⟨w3.heap.size, o, none⟩ := fun o => by
                  simp only [World.cell?, G6.out.block _ hlt (by simp)]
                exact ⟨(q _).trans b0, (q _).trans b1, (q _).trans b2, (q _).trans b3, (q _).trans b4, trivial⟩
              have B6 := Lib.hid (BX.out.trans (below_of_only G6.out BX.out.size (by simp)))
              have M6 := Lib.hid (HMX.out.grown G6.out)
              obtain ⟨W7, hW7, G7, P7⟩ := Am.box1 w6 35 #[.string lbB, .slice E.1.1 R.ns.length E.1.2, .slice E.2.1 R.ss.length E.2.2, .string nmB, .bool false]
              rw [← HCL.out] at P7
              obtain ⟨A', c', W8, hap, hli⟩ := HI.out.push (B6.out.trans (below_of_only G7 B6.out.size (by simp))) HGD.out (M6.out.grown G7) P7 HLL.out (by rw [← HKK.out]; exact HNK.out) HGN.out
              rw [← HKK.out] at hli
              rw [hW7] at hap
              have HAP := Lib.hid hap
              have HLI8 := Lib.hid hli
              clear hW7 G7 P7 hap hli b0 b1 b2 b3 b4
              go_wp2_with (at_builtin; refine wpList_append_eq rfl (.tmp 52) (.tmp 54) 30 rfl HAP.out rfl rfl ?_)
              go_roundw
              case rel => exact ⟨A', c', i + 1, N + K, L ++ [R], rfl, by go_num, by go_num, HI1.out, HLI8⟩
              case measure =>
                have := HI1.out
                simp [Go.Lib.intOf]
                omega
    · obtain rfl : i = n0 := by omega
      have i1 : ¬ (i : Int) < (i : Int) := by omega
      have HG := Lib.hid (show Am.go 0 T Am.st0 = (0, 0, Am.stL L) from by rw [HI.out.go, HN0.out, List.drop_length]; rfl)
      have HLEN := Lib.hid HI.out.len
      have hlen3 : L.length ≤ 3000 := by rw [← HLEN.out]; omega
      have HL3 := Lib.hid hlen3
      have HLT := Lib.hid (show L.length = T.length from by rw [← HLEN.out, HN0.out])
      have HLS := Lib.hid (fun (W : World) (k : Below wr.heap.size wr W) => (HI.out.kept k).ls)
      have HDG := Lib.hid HI.out.good
      have HA := Lib.hid (show ∀ j, j < i → ∃ g off, A = some ⟨g, off, none⟩ from fun j hj => by
        obtain ⟨E, hE⟩ := HI.out.ls
        rcases hE.row with ⟨_, ⟨e, h0⟩ | ⟨g', off', cap, e, _⟩⟩
        · have := HI.out.len; omega
        · injection e with e1 e2 e3
          exact ⟨g', off', e1⟩)
      have HDN := Lib.hid (fun (w' : World) (b : Below wr.heap.size wr w') (hc : Am.chk (Am.lbs L 0) L 1 = 0) => (show Am.LiV w T (.returned (.tuple #[.slice A i c, .int .i64 0, .int .i64 0])) w' from ⟨HI.out.bel.trans (b.mono HI.out.bel.size), A, i, c, .inr ⟨L, HI.out.len, HG.out, HLT.out, .inr ⟨hc, rfl, (HI.out.kept b).ls, HI.out.good, by rw [HI.out.tot]; exact HI.out.lim⟩⟩⟩))
      have HER := Lib.hid (fun (w' : World) (b : Below wr.heap.size wr w') (k : Nat) (hk : k ≠ 0) (hc : Am.chk (Am.lbs L 0) L 1 = k) => (show Am.LiV w T (.returned (.tuple #[.slice A i c, .int .i64 k, .int .i64 14])) w' from ⟨HI.out.bel.trans (b.mono HI.out.bel.size), A, i, c, .inr ⟨L, HI.out.len, HG.out, HLT.out, .inl ⟨by rw [hc]; exact hk, by rw [hc]⟩⟩⟩))
      clear hin hlen3
      go_wp2
      go_loopw [10] (fun y wj => ∃ j : Nat, y = .int .i64 j ∧ j ≤ i ∧ Hid (Am.chk (Am.lbs L 0) L 1 = Am.chk (Am.lbs L 0) (L.drop j) (j + 1)) ∧ Hid (Below wr.heap.size wr wj)) (fun y _ => i - (Go.Lib.intOf y).toNat)
      case atStart => exact ⟨0, rfl, Nat.zero_le _, Lib.hid rfl, Lib.hid (Below.refl _ _)⟩
      case round =>
        obtain ⟨j, rfl, hj, HC, HBJ⟩ := hrel
        have j2 : (0 : Int) ≤ (j : Int) := by omega
        have v1 : IntKind.i64.wrap ((j : Int) + 1) = (j : Int) + 1 := Am.wrap_i _ (by omega) (by omega)
        by_cases hjn : j < i
        · have j1 : (j : Int) < (i : Int) := by omega
          obtain ⟨g, off, rfl⟩ := HA.out j hjn
          have hjL : j < L.length := by rw [← HLEN.out]; exact hjn
          have hls := HLS.out _ HBJ.out
          have HPL := Lib.hid (fun (nb : ByteArray) => Am.rplace_any w.heap.size (some ⟨g, off, none⟩) i c L nb wr hls HLEN.out HL3.out)
          obtain ⟨E, hE⟩ := hls
          have hi' := HLEN.out
          obtain ⟨_, _, _, c3, _⟩ := Am.rl_cells hE j hjL
          have hck : Am.chk (Am.lbs L 0) L 1 = if (L.getD j Am.rl0).nm ≠ [] ∧ Am.look (Am.lbs L 0) (L.getD j Am.rl0).nm = none then j + 1 else Am.chk (Am.lbs L 0) (L.drop (j + 1)) (j + 1 + 1) := by
            rw [HC.out, Am.getD_drop hjL]
            rfl
          have HGA := Lib.hid (fun (nm : List UInt8) (h : nm ≠ []) => (show Am.plc L nm 0 = Am.optZ (Am.look (Am.lbs L 0) nm) from Am.plc_look h L 0 (by have := HDG.out; exact this)))
          generalize (L.getD j Am.rl0).nm = nm at *
          obtain ⟨nb, hnb⟩ : ∃ nb : ByteArray, nb = ⟨nm.toArray⟩ := ⟨_, rfl⟩
          rw [← hnb] at c3
          have hnd : nb.data.toList = nm := by rw [hnb]
          have HJ1 := Lib.hid (show j + 1 ≤ i from hjn)
          clear hE hi' hjL
          by_cases hn : nm = []
          · have hb0 : nb = ⟨#[]⟩ := by rw [hnb, hn]
            rw [if_neg (fun e => e.1 hn)] at hck
            have HCK := Lib.hid hck
            subst hb0
            clear hn hnb hnd hck HC hjn
            go_wp2
            go_roundw
            case rel => exact ⟨j + 1, by go_num, HJ1.out, HCK, HBJ⟩
            case measure =>
              have := HJ1.out
              simp [Go.Lib.intOf]
              omega
          · have hne : nb ≠ ⟨#[]⟩ := fun e => hn (by rw [← hnd, e])
            have j3 := Am.str_some hne
            have hp := HPL.out nb
            rw [hnd, HGA.out nm hn] at hp
            cases hlk : Am.look (Am.lbs L 0) nm with
            | none =>
              rw [if_pos ⟨hn, hlk⟩] at hck
              rw [hlk] at hp
              have HP := Lib.hid (show Calls Tryd.prog 16 #[.slice (some ⟨g, off, none⟩) i c, .string nb] wr fun e w' => e = .returned (.int .i64 (-1)) ∧ wr.grownBy w' none from hp)
              have HCK := Lib.hid hck
              clear hn hnb hnd hck hne hp hlk HC hjn
              go_wp2_with (go_at_call 16; (with_reducible refine HP.out.mono ?_); rintro e w5 ⟨rfl, g5⟩; have G5 := Lib.hid g5; clear g5)
              go_ret3
              exact HER.out _ (HBJ.out.trans (below_of_only G5.out HBJ.out.size (by simp))) (j + 1) (by omega) HCK.out
            | some a =>
              rw [if_neg (fun e => by rw [hlk] at e; cases e.2)] at hck
              rw [hlk] at hp
              have HP := Lib.hid (show Calls Tryd.prog 16 #[.slice (some ⟨g, off, none⟩) i c, .string nb] wr fun e w' => e = .returned (.int .i64 (a : Int)) ∧ wr.grownBy w' none from hp)
              have HCK := Lib.hid hck
              have a0 : (0 : Int) ≤ (a : Int) := by omega
              have a1 : ¬ (a : Int) < 0 := by omega
              clear hn hnb hnd hck hne hp hlk HC hjn
              go_wp2_with (go_at_call 16; (with_reducible refine HP.out.mono ?_); rintro e w5 ⟨rfl, g5⟩; have BJ5 := Lib.hid (HBJ.out.trans (below_of_only g5 HBJ.out.size (by simp))); clear g5)
              go_roundw
              case rel => exact ⟨j + 1, by go_num, HJ1.out, HCK, BJ5⟩
              case measure =>
                have := HJ1.out
                simp [Go.Lib.intOf]
                omega
        · obtain rfl : j = i := by omega
          have hc : Am.chk (Am.lbs L 0) L 1 = 0 := by
            rw [HC.out, HLEN.out, List.drop_length]
            rfl
          have HC0 := Lib.hid hc
          clear hc HC
          go_wp2
          go_ret3
          exact HDN.out _ HBJ.out HC0.out
end Go.Proofs.YtldbhcbmcogmfaaDoor

/- Package asm: Labels, by its contract. -/
namespace Go.Proofs.YtldbhcbmcogmfaaDoor
open Go.RowKit Go.Lib
set_option linter.unusedVariables false
set_option maxRecDepth 8000

def Am.LbV (w : World) (z : Int × Nat × List UInt8 × List (List UInt8 × Nat)) (r : Ending) (w' : World) : Prop :=
  ((z.1 = 0 ∧ ∃ A c, r = .returned (.tuple #[.slice A z.2.2.2.length c, .int .i64 0, .int .i64 0]) ∧ RowZ 2 w' (.slice A z.2.2.2.length c) z.2.2.2.length (Am.lbL z.2.2.2)) ∨ (z.1 ≠ 0 ∧ r = .returned (.tuple #[.slice none 0 0, .int .i64 z.2.1, .int .i64 z.1]))) ∧ Below w.heap.size w w'
set_option maxHeartbeats 1600000 in
theorem Am.labels_any (s : ByteArray) (hs : s.size ≤ 65536) (w : World) (hg : Am.Gl w) : Calls Tryd.prog 10 #[.string s] w (Am.LbV w (Am.read s.data.toList)) := by
  have HR := Lib.hid (Am.read_any s hs w hg)
  generalize Am.read s.data.toList = Z at *
  obtain ⟨ze, zl, zp, zb⟩ := Z
  clear hs hg
  by_cases h0 : ze = 0
  · subst h0
    go_enter Tryd.func10, Tryd.ntmps10
    go_wp2_with (first
      | (go_at_call 15; (with_reducible refine HR.out.mono ?_); rintro r w6 hp; rcases hp with ⟨bel, ⟨_, b, ln, st, F, rfl, ⟨pv, lv, wv, m, hR, hF⟩, hpr, hlb⟩ | ⟨h0, _⟩⟩; have c2 : w6.cell? ⟨b, 2, none⟩ = some lv := hR.blk.cell 2; have BEL := Lib.hid bel; have hrow := hR.lb; rw [show st.lb = zb from hlb] at hrow; obtain ⟨A, c, rfl⟩ := hrow.form; have ROW := Lib.hid hrow; clear bel hR hF hpr hlb hrow; rotate_left; exact absurd rfl h0))
    go_ret3
    exact ⟨.inl ⟨rfl, A, c, rfl, ROW.out⟩, BEL.out⟩
  · have n1 : (ze == 0) = false := by simpa using h0
    go_enter Tryd.func10, Tryd.ntmps10
    go_wp2_with (first
      | (go_at_call 15; (with_reducible refine HR.out.mono ?_); rintro r w6 hp; rcases hp with ⟨bel, ⟨z0, _⟩ | ⟨_, rfl⟩⟩; exact absurd z0 h0))
    go_ret3
    exact ⟨.inr ⟨h0, rfl⟩, bel⟩
end Go.Proofs.YtldbhcbmcogmfaaDoor

/- The document's Lines as1 the program's reader has them; AsmLabels, walked. -/
namespace Go.Proofs.YtldbhcbmcogmfaaDoor
open Go.RowKit Go.Lib
set_option linter.unusedVariables false
set_option maxRecDepth 8000

/-- What Lines answers, by what the program's reader makes of the text. -/
def Am.LiR (w : World) (z : Int × Nat × List UInt8 × List (List UInt8 × Nat)) (e : Ending) (w' : World) : Prop :=
  Below w.heap.size w w' ∧ ∃ (A : Option Addr) (i c : Nat), e = .returned (.tuple #[.slice A i c, .int .i64 z.2.1, .int .i64 z.1]) ∧
    (z.1 = 0 → z.2.1 = 0 ∧ ∃ L : List Am.RL, i = L.length ∧ L.length ≤ 2001 ∧ Am.LsV w' w.heap.size (.slice A i c) L ∧ (∀ q ∈ L, Am.Good q) ∧ (Am.fl L).length ≤ 1024 ∧ z.2.2.1 = Am.asmB (Am.lbs L 0) L ∧ z.2.2.2 = Am.lbs L 0)
theorem Am.rlines_read (s : ByteArray) (hs : s.size ≤ 2000) (w : World) : Calls Tryd.prog 11 #[.string s] w (Am.LiR w (Am.read s.data.toList)) := by
  have hT : (Am.spl 10 s.data.toList).length ≤ 2001 := by
    rw [Am.spl_len]
    have := List.count_le_length (a := (10 : UInt8)) (l := s.data.toList)
    rw [Am.len] at this
    omega
  have hl : ¬ 65536 < s.data.toList.length := by rw [Am.len]; omega
  refine (Am.rlines_any s hs w).mono fun e w' ⟨hb, A, i, c, h⟩ => ⟨hb, A, i, c, ?_⟩
  unfold Am.read
  rw [if_neg hl]
  rcases h with ⟨h1, he⟩ | ⟨L, h1, h2, h3, h4⟩
  · rw [if_neg h1]
    exact ⟨he, fun q => absurd q h1⟩
  · rw [h2]
    have hf := Am.ful_chk (Am.lbs L 0) L 1 0 (Am.fl L) (Nat.le_refl _)
    rw [if_pos rfl]
    rcases h4 with ⟨hc, he⟩ | ⟨hc, he, h5, h6, h7⟩
    · rw [if_neg hc] at hf
      have hne : ¬ (Am.ful (Am.stL L).lb (Am.stL L).ws (Am.stL L).pr).1 = 0 := by
        show ¬ (Am.ful (Am.lbs L 0) (Am.wss L 1 0) (Am.fl L)).1 = 0
        rw [hf.1]; decide
      rw [if_neg hne]
      refine ⟨?_, fun q => absurd q hne⟩
      show e = .returned (.tuple #[.slice A i c, .int .i64 ((Am.ful (Am.lbs L 0) (Am.wss L 1 0) (Am.fl L)).2.1 : Nat), .int .i64 (Am.ful (Am.lbs L 0) (Am.wss L 1 0) (Am.fl L)).1])
      rw [hf.1, hf.2]
      exact he
    · rw [if_pos hc] at hf
      have h0 : (Am.ful (Am.stL L).lb (Am.stL L).ws (Am.stL L).pr).1 = 0 := hf.1
      rw [if_pos h0]
      refine ⟨he, fun _ => ⟨rfl, L, h1, by rw [h3]; exact hT, h5, h6, h7, ?_, rfl⟩⟩
      exact Am.ful_asm (Am.lbs L 0) L 1 [] (Nat.le_refl _) h6 hc
theorem Am.neq_lab (s : ByteArray) (n : Int) (w : World) : (binOp BinOp.neq 37 (.agg #[.string s, .int .i64 n]) (.agg #[.string s, .int .i64 n])).run Tryd.prog w = .ok (.bool false) w := by
  rw [run_neq_struct, run_equalIn_agg w 9999 _ _ _ (by kernel_rfl) (by kernel_rfl)]
  have hf : (Tryd.prog.fieldsOf 37).toList.map (fun f => (f.name, f.type, f.offset)) = [("Name", 9, 0), ("At", 3, 1)] := by kernel_rfl
  generalize (Tryd.prog.fieldsOf 37).toList = fs at hf
  have hlen := congrArg List.length hf
  simp only [List.length_map, List.length_cons, List.length_nil] at hlen
  obtain ⟨f0, f1, rfl⟩ : ∃ f0 f1, fs = [f0, f1] := by
    match fs, hlen with
    | [f0, f1], _ => exact ⟨f0, f1, rfl⟩
  simp only [List.map_cons, List.map_nil, List.cons.injEq, Prod.mk.injEq, and_true] at hf
  obtain ⟨⟨p0, q0, r0⟩, ⟨p1, q1, r1⟩⟩ := hf
  simp [Op.eqFields, p0, q0, r0, p1, q1, r1, part, run_equalIn_int _ _ _ _ _ _ _ Tryd.underlying3, go_sem]
theorem Am.lb_get : ∀ (L : List (List UInt8 × Nat)) (k : Nat) (x : List UInt8 × Nat), L[k]? = some x → (Am.lbL L)[k * 2]? = some (.string ⟨x.1.toArray⟩) ∧ (Am.lbL L)[k * 2 + 1]? = some (.int .i64 x.2)
  | [], k, x, h => by cases h
  | y :: L, 0, x, h => by
    injection h with h
    subst h
    exact ⟨rfl, rfl⟩
  | y :: L, k + 1, x, h => by
    have ih := Am.lb_get L k x (by simpa using h)
    have e : Am.lbL (y :: L) = .string ⟨y.1.toArray⟩ :: .int .i64 y.2 :: Am.lbL L := rfl
    rw [e, show (k + 1) * 2 = k * 2 + 1 + 1 from by omega]
    simpa using ih
theorem Am.lb_cells {w : World} {A : Option Addr} {c n : Nat} {Z : List (List UInt8 × Nat)} (h : RowZ 2 w (.slice A n c) n (Am.lbL Z)) {k : Nat} {x : List UInt8 × Nat} (hk : Z[k]? = some x) : ∃ g off, A = some ⟨g, off, none⟩ ∧ w.cell? ⟨g, off + k * 2, none⟩ = some (.string ⟨x.1.toArray⟩) ∧ w.cell? ⟨g, off + k * 2 + 1, none⟩ = some (.int .i64 x.2) := by
  obtain ⟨h1, h2⟩ := Am.lb_get Z k x hk
  rcases h.2 with ⟨e, h0⟩ | ⟨g', off', cap, e, _, _, _, _, hc⟩
  · have := h.1
    have hj := (List.getElem?_eq_some_iff.1 h1).1
    omega
  · injection e with e1 e2 e3
    exact ⟨g', off', e1, hc _ _ h1, by rw [Nat.add_assoc]; exact hc _ _ h2⟩
/-- A line's row of sizes, cell by cell. -/
theorem Am.sz_cells {w : World} {B : Nat} {na : Value} {A : Option Addr} {c : Nat} {ns ss : List Int} (h : Am.LnM w B na (.slice A ss.length c) ns ss) {j : Nat} (hj : j < ss.length) : ∃ g off, A = some ⟨g, off, none⟩ ∧ w.cell? ⟨g, off + j, none⟩ = some (.int .i64 ss[j]) := by
  rcases h.s.2 with ⟨e, h0⟩ | ⟨g', off', cap, e, _, _, _, _, hc⟩
  · omega
  · injection e with e1 e2 e3
    exact ⟨g', off', e1, hc j _ (by simp [Am.intsC, hj])⟩
theorem Am.nz_cells {w : World} {B : Nat} {sa : Value} {A : Option Addr} {c : Nat} {ns ss : List Int} (h : Am.LnM w B (.slice A ns.length c) sa ns ss) {j : Nat} (hj : j < ns.length) : ∃ g off, A = some ⟨g, off, none⟩ ∧ w.cell? ⟨g, off + j, none⟩ = some (.int .i64 ns[j]) := by
  rcases h.n.2 with ⟨e, h0⟩ | ⟨g', off', cap, e, _, _, _, _, hc⟩
  · omega
  · injection e with e1 e2 e3
    exact ⟨g', off', e1, hc j _ (by simp [Am.intsC, hj])⟩
attribute [-go_sem] Go.run_neq_struct
set_option maxRecDepth 20000 in
set_option maxHeartbeats 6400000 in
theorem asmlabels_walk (s : ByteArray) (w : World) (hg : Am.Gl w) : Calls Tryd.prog 4 #[.string s] w fun r w' => r = .returned (.bool true) ∧ Below w.heap.size w w' := by
  have HL := Lib.hid (fun (W : World) (k : Below w.heap.size w W) => Am.live20_any W (hg.below k hg.sz))
  by_cases h1 : 2000 < s.size
  · have i1 : (2000 : Int) < (s.size : Int) := by omega
    clear hg
    go_enter Tryd.func4, Tryd.ntmps4
    go_wp2_with (first
      | (go_at_call 7; (with_reducible refine (HL.out _ (Below.refl _ _)).mono ?_); rintro r w2 ⟨rfl, bel⟩))
    go_ret
    exact ⟨rfl, bel⟩
  have i1 : ¬ (2000 : Int) < (s.size : Int) := by omega
  have HA := Lib.hid (Am.labels_any s (by omega) w hg)
  have HR := Lib.hid (fun W => Am.rlines_read s (by omega) W)
  have hrl := Am.read_line s.data.toList
  rw [Am.len] at hrl
  generalize Am.read s.data.toList = Z at *
  obtain ⟨ze, zl, zp, zb⟩ := Z
  clear hg
  by_cases h0 : ze = 0
  case neg =>
    have n1 : (ze == 0) = false := by simpa using h0
    have n2 : ¬ ze = 0 := h0
    clear h1 hrl
    go_enter Tryd.func4, Tryd.ntmps4
    go_wp2_with (first
      | (go_at_call 10; (with_reducible refine HA.out.mono ?_); rintro r w2 ⟨h, bel⟩; rcases h with ⟨z0, _⟩ | ⟨_, rfl⟩; exact absurd z0 n2; have B2 := Lib.hid bel; clear bel)
      | (go_at_call 11; (with_reducible refine (HR.out _).mono ?_); rintro r w3 ⟨bel, A, i, c, rfl, _⟩; have B3 := Lib.hid (B2.out.trans (bel.mono B2.out.size)); clear bel)
      | (go_at_call 7; (with_reducible refine (HL.out _ B3.out).mono ?_); rintro r w4 ⟨rfl, bel⟩; have B4 := Lib.hid (B3.out.trans (bel.mono B3.out.size)); clear bel))
    go_ret
    exact ⟨by first | rfl | (simp; done), B4.out⟩
  case pos =>
    subst h0
    clear h1 hrl
    go_enter Tryd.func4, Tryd.ntmps4
    go_upto_region 5 with (first
      | (go_at_call 10; (with_reducible refine HA.out.mono ?_); rintro r w2 ⟨h, bel⟩; rcases h with ⟨_, lA, lc, rfl, hrow⟩ | ⟨z0, _⟩; rotate_left; exact absurd rfl z0; have B2 := Lib.hid bel; have ROW2 := Lib.hid hrow; clear bel hrow)
      | (go_at_call 11; (with_reducible refine (HR.out _).mono ?_); rintro r w3 ⟨bel, A, i, c, rfl, hz⟩; have hz0 := hz rfl; have HZ := Lib.hid hz0; have B23 := Lib.hid bel; have B3 := Lib.hid (B2.out.trans (bel.mono B2.out.size)); clear bel hz hz0))
    obtain ⟨rfl, L, hiL, hL, hls, hgd, hfl, _, hzb⟩ := HZ.out
    obtain ⟨m, hm⟩ : ∃ m, m = zb.length := ⟨_, rfl⟩
    rw [← hm] at ROW2 ⊢
    rw [show ((0 : Nat) : Int) = 0 from rfl]
    have HM := Lib.hid hm
    have HZB := Lib.hid hzb
    have HLS := Lib.hid (fun (W : World) (k : Below w3.heap.size w3 W) => hls.kept k)
    have HROW := Lib.hid (fun (W : World) (k : Below w3.heap.size w3 W) => (ROW2.out.below B23.out ROW2.out.lt).below k (fun i hi => by have := ROW2.out.lt i hi; have := B23.out.size; omega))
    have HGD := Lib.hid hgd
    have HFL := Lib.hid hfl
    have HIL := Lib.hid hiL
    have HL2 := Lib.hid hL
    have HNE := Lib.hid (fun (s : ByteArray) (n : Int) (W : World) => Am.neq_lab s n W)
    clear hm hzb hls hgd hfl hiL hL HZ
    go_wp2
    go_loopw [9, 10, 11] (fun x y z wr => ∃ (k av j : Nat), x = .int .i64 k ∧ y = .int .i64 av ∧ z = .int .i64 j ∧ j ≤ i ∧ Hid (∃ P : List (List UInt8 × Nat), zb = P ++ Am.lbs (L.drop j) av ∧ P.length = k) ∧ Hid (av + (Am.fl (L.drop j)).length ≤ 1024) ∧ Hid (Below w3.heap.size w3 wr)) (fun _ _ z _ => i - (Go.Lib.intOf z).toNat)
    case atStart => exact ⟨0, 0, 0, rfl, rfl, rfl, Nat.zero_le _, Lib.hid ⟨[], by rw [HZB.out]; rfl, rfl⟩, Lib.hid (by rw [List.drop_zero, Nat.zero_add]; exact HFL.out), Lib.hid (Below.refl _ _)⟩
    case round =>
      obtain ⟨k, av, j, rfl, rfl, rfl, hj, HP, HAB, HBR⟩ := hrel
      have i2001 : i ≤ 2001 := by rw [HIL.out]; exact HL2.out
      have j2 : (0 : Int) ≤ (j : Int) := by omega
      have u1 : IntKind.i64.wrap ((j : Int) + 1) = (j : Int) + 1 := Am.wrap_i _ (by omega) (by omega)
      by_cases hjn : j < i
      · have j1 : (j : Int) < (i : Int) := by omega
        have hjL : j < L.length := by rw [← HIL.out]; exact hjn
        have hlv := HLS.out _ HBR.out
        obtain ⟨E, hE⟩ := hlv
        have hA : ∃ g off, A = some ⟨g, off, none⟩ := by
          rcases hE.row with ⟨_, ⟨e, h0⟩ | ⟨g', off', cap, e, _⟩⟩
          · omega
          · injection e with e1 e2 e3
            exact ⟨g', off', e1⟩
        obtain ⟨g, off, rfl⟩ := hA
        have hdr := Am.getD_drop hjL
        have hgr : Am.Good (L.getD j Am.rl0) := HGD.out _ (by simp [List.getD, hjL])
        have HEV := Lib.hid (fun (W : World) (kk : Below wr.heap.size wr W) => (show (W.cell? ⟨g, off + j * 5, none⟩ = some (.string ⟨(L.getD j Am.rl0).lb.toArray⟩) ∧ W.cell? ⟨g, off + j * 5 + 2, none⟩ = some (.slice (E j).2.1 (L.getD j Am.rl0).ss.length (E j).2.2)) ∧ Am.LnM W w2.heap.size (.slice (E j).1.1 (L.getD j Am.rl0).ns.length (E j).1.2) (.slice (E j).2.1 (L.getD j Am.rl0).ss.length (E j).2.2) (L.getD j Am.rl0).ns (L.getD j Am.rl0).ss from by
          have hW := hE.kept kk
          obtain ⟨c0, _, c2, _, _⟩ := Am.rl_cells hW j hjL
          exact ⟨⟨c0, c2⟩, (hW.ln j hjL).1⟩))
        generalize L.getD j Am.rl0 = R at *
        have HGR := Lib.hid hgr
        have hab0 := HAB.out
        rw [hdr] at hab0
        have hab1 : av + ((Am.bs R).length + (Am.fl (L.drop (j + 1))).length) ≤ 1024 := by rw [← List.length_append]; exact hab0
        have HAD := Lib.hid (show av + (Am.bs R).length + (Am.fl (L.drop (j + 1))).length ≤ 1024 from by omega)
        replace HAB := Lib.hid (show av ≤ 1024 from by omega)
        have hp : ∃ P : List (List UInt8 × Nat), zb = P ++ ((if R.lb = [] then [] else [(R.lb, av)]) ++ Am.lbs (L.drop (j + 1)) (av + (Am.bs R).length)) ∧ P.length = k := by
          obtain ⟨P, h1, h2⟩ := HP.out
          rw [hdr] at h1
          exact ⟨P, h1, h2⟩
        have HPP := Lib.hid hp
        have HJ1 := Lib.hid (show j + 1 ≤ i from hjn)
        have HS3 := Lib.hid hgr.1.2.1
        have HSZ := Lib.hid hgr.1.1
        obtain ⟨lbB, hlb⟩ : ∃ x : ByteArray, x = ⟨R.lb.toArray⟩ := ⟨_, rfl⟩
        have hlbd : lbB.data.toList = R.lb := by rw [hlb]
        rw [← hlb] at HEV
        obtain ⟨ss, hss⟩ : ∃ ss, ss = R.ss := ⟨_, rfl⟩
        have HSSR := Lib.hid hss
        rw [← hss] at HEV HS3 HSZ
        obtain ⟨sn, hsn⟩ : ∃ sn, sn = ss.length := ⟨_, rfl⟩
        have HSN := Lib.hid hsn
        rw [← hsn] at HS3
        generalize (E j).2.1 = sA at *
        generalize (E j).2.2 = sc at *
        clear hE hdr hgr hab0 hab1 hp hjL hjn HP hss
        by_cases hn : R.lb = []
        · have hb0 : lbB = ⟨#[]⟩ := by rw [hlb, hn]
          have hpq : ∃ P : List (List UInt8 × Nat), zb = P ++ Am.lbs (L.drop (j + 1)) (av + (Am.bs R).length) ∧ P.length = k := by
            obtain ⟨P, h1, h2⟩ := HPP.out
            rw [if_pos hn, List.nil_append] at h1
            exact ⟨P, h1, h2⟩
          have HPQ := Lib.hid hpq
          obtain ⟨⟨c0, c2⟩, hlm⟩ := HEV.out wr (Below.refl _ _)
          subst hb0
          rw [← hsn] at c2
          have HSC := Lib.hid (fun q hq => Am.sz_cells hlm (j := q) hq)
          have HBV := HBR
          obtain ⟨wv, hwv⟩ : ∃ wv, wv = wr := ⟨_, rfl⟩
          rw [← hwv] at c0 c2 HSC HBV ⊢
          clear hpq hn hlb hlbd HPP hlm hsn HEV hwv HBR
          go_wp2
          go_loopw [10, 12] (fun x y wj => ∃ (b q : Nat), x = .int .i64 b ∧ y = .int .i64 q ∧ q ≤ sn ∧ Hid ((b : Int) = (av : Int) + (ss.take q).sum) ∧ wv = wj) (fun _ y _ => sn - (Go.Lib.intOf y).toNat)
          case atStart => exact ⟨av, 0, rfl, rfl, Nat.zero_le _, Lib.hid (by simp), rfl⟩
          case round =>
            obtain ⟨b, q, rfl, rfl, hq, HBQ, rfl⟩ := hrel
            have q2 : (0 : Int) ≤ (q : Int) := by omega
            have hs3 : sn ≤ 3 := HS3.out
            have v1 : IntKind.i64.wrap ((q : Int) + 1) = (q : Int) + 1 := Am.wrap_i _ (by omega) (by omega)
            by_cases hqn : q < sn
            · have q1 : (q : Int) < (sn : Int) := by omega
              have hqs : q < ss.length := by rw [← HSN.out]; exact hqn
              obtain ⟨g3, o3, hsA, cz⟩ := HSC.out q hqs
              have hz2 := HSZ.out ss[q] (List.getElem_mem hqs)
              have hst := (HSZ.out.take q).sum
              have htl : (ss.take q).length ≤ 3 := by rw [List.length_take]; omega
              have hsum : (ss.take (q + 1)).sum = (ss.take q).sum + ss[q] := by
                rw [← List.take_append_getElem hqs, List.sum_append]
                simp
              obtain ⟨d, hd⟩ : ∃ d : Nat, ss[q] = (d : Int) := ⟨(ss[q]).toNat, by omega⟩
              rw [hd] at cz hsum
              have hb := HBQ.out
              have hab := HAB.out
              have v2 : IntKind.i64.wrap ((b : Int) + (d : Int)) = (b : Int) + (d : Int) := Am.wrap_i _ (by omega) (by omega)
              have v3 : wrap64 ((b : Int) + (d : Int)) = (b : Int) + (d : Int) := IntWalk.wrap64_in _ ⟨by omega, by omega⟩
              have HB1 := Lib.hid (show ((b + d : Nat) : Int) = (av : Int) + (ss.take (q + 1)).sum from by rw [hsum]; omega)
              have HQ1 := Lib.hid (show q + 1 ≤ sn from hqn)
              subst hsA
              clear hz2 hst htl hsum hd hb hab hs3 hqs
              go_wp2
              go_roundw
              case rel => exact ⟨b + d, q + 1, by go_num, by go_num, HQ1.out, HB1, by first | rfl | trivial⟩
              case measure =>
                have := HQ1.out
                simp [Go.Lib.intOf]
                omega
            · obtain rfl : q = sn := by omega
              have hbf : b = av + (Am.bs R).length := by
                have h9 := HBQ.out
                rw [HSN.out, List.take_length] at h9
                have := HGR.out.len
                rw [HSSR.out] at h9
                omega
              subst hbf
              go_wp2
              go_roundw
              case rel => exact ⟨k, av + (Am.bs R).length, j + 1, by first | rfl | go_num, rfl, by go_num, HJ1.out, HPQ, HAD, HBV⟩
              case measure =>
                have := HJ1.out
                simp [Go.Lib.intOf]
                omega
        · have hne : lbB ≠ ⟨#[]⟩ := fun e => hn (by rw [← hlbd, e])
          have j3 := Am.str_some hne
          obtain ⟨P, hP1, hP2⟩ := HPP.out
          rw [if_neg hn] at hP1
          have hget : zb[k]? = some (R.lb, av) := by
            rw [hP1, List.getElem?_append_right (by omega), hP2, Nat.sub_self]
            rfl
          have hkm : k < m := by rw [HM.out]; exact (List.getElem?_eq_some_iff.1 hget).1
          have HPQ := Lib.hid (show ∃ P : List (List UInt8 × Nat), zb = P ++ Am.lbs (L.drop (j + 1)) (av + (Am.bs R).length) ∧ P.length = k + 1 from ⟨P ++ [(R.lb, av)], by rw [hP1]; simp, by rw [List.length_append, hP2]; rfl⟩)
          have HCL := Lib.hid (fun (W : World) (kk : Below w3.heap.size w3 W) => Am.lb_cells (HROW.out W kk) hget)
          obtain ⟨gl, ol, rfl, l0, l1⟩ := HCL.out wr HBR.out
          rw [← hlb] at l0
          have hmx : m ≤ 9223372036854775807 := by
            rcases ROW2.out.2 with ⟨_, h⟩ | ⟨_, _, cap, _, h1, h2, _⟩
            · omega
            · unfold maxLen at h2; omega
          have k1 : (k : Int) < (m : Int) := by omega
          have k2 : (0 : Int) ≤ (k : Int) := by omega
          have k3 : ¬ (m : Int) ≤ (k : Int) := by omega
          have k4 : ¬ m ≤ k := by omega
          have k5 : IntKind.i64.wrap ((k : Int) + 1) = (k : Int) + 1 := by rw [IntKind.wrap_i64]; omega
          obtain ⟨⟨c0, c2⟩, hlm⟩ := HEV.out wr (Below.refl _ _)
          clear hne hP1 hP2 hget hn hlb hlbd HPP
          rw [← hsn] at c2
          clear hsn hmx
          go_upto_region 14 with (fail)
          have hneq := fun W => HNE.out lbB (av : Int) W
          go_quiet (fail)
          have HBV := Lib.hid (show Below w3.heap.size w3 (wr.drewN nq) from below_drewN HBR.out nq)
          obtain ⟨⟨c0', c2'⟩, hlm'⟩ := HEV.out (wr.drewN nq) (below_drewN (Below.refl _ _) nq)
          have HSC := Lib.hid (fun q hq => Am.sz_cells hlm' (j := q) hq)
          obtain ⟨wv, hwv⟩ : ∃ wv, wv = wr.drewN nq := ⟨_, rfl⟩
          rw [← hwv] at c0' c2' HSC HBV ⊢
          clear hwv hlm hlm' HEV c0 c2 hneq HCL l0 l1 HBR
          rw [show ss.length = sn from HSN.out.symm] at c2'
          go_wp2
          go_loopw [10, 12] (fun x y wj => ∃ (b q : Nat), x = .int .i64 b ∧ y = .int .i64 q ∧ q ≤ sn ∧ Hid ((b : Int) = (av : Int) + (ss.take q).sum) ∧ wv = wj) (fun _ y _ => sn - (Go.Lib.intOf y).toNat)
          case atStart => exact ⟨av, 0, rfl, rfl, Nat.zero_le _, Lib.hid (by simp), rfl⟩
          case round =>
            obtain ⟨b, q, rfl, rfl, hq, HBQ, rfl⟩ := hrel
            have q2 : (0 : Int) ≤ (q : Int) := by omega
            have hs3 : sn ≤ 3 := HS3.out
            have v1 : IntKind.i64.wrap ((q : Int) + 1) = (q : Int) + 1 := Am.wrap_i _ (by omega) (by omega)
            by_cases hqn : q < sn
            · have q1 : (q : Int) < (sn : Int) := by omega
              have hqs : q < ss.length := by rw [← HSN.out]; exact hqn
              obtain ⟨g3, o3, hsA, cz⟩ := HSC.out q hqs
              have hz2 := HSZ.out ss[q] (List.getElem_mem hqs)
              have hst := (HSZ.out.take q).sum
              have htl : (ss.take q).length ≤ 3 := by rw [List.length_take]; omega
              have hsum : (ss.take (q + 1)).sum = (ss.take q).sum + ss[q] := by
                rw [← List.take_append_getElem hqs, List.sum_append]
                simp
              obtain ⟨d, hd⟩ : ∃ d : Nat, ss[q] = (d : Int) := ⟨(ss[q]).toNat, by omega⟩
              rw [hd] at cz hsum
              have hb := HBQ.out
              have hab := HAB.out
              have v2 : IntKind.i64.wrap ((b : Int) + (d : Int)) = (b : Int) + (d : Int) := Am.wrap_i _ (by omega) (by omega)
              have v3 : wrap64 ((b : Int) + (d : Int)) = (b : Int) + (d : Int) := IntWalk.wrap64_in _ ⟨by omega, by omega⟩
              have HB1 := Lib.hid (show ((b + d : Nat) : Int) = (av : Int) + (ss.take (q + 1)).sum from by rw [hsum]; omega)
              have HQ1 := Lib.hid (show q + 1 ≤ sn from hqn)
              subst hsA
              clear hz2 hst htl hsum hd hb hab hs3 hqs
              go_wp2
              go_roundw
              case rel => exact ⟨b + d, q + 1, by go_num, by go_num, HQ1.out, HB1, by first | rfl | trivial⟩
              case measure =>
                have := HQ1.out
                simp [Go.Lib.intOf]
                omega
            · obtain rfl : q = sn := by omega
              have hbf : b = av + (Am.bs R).length := by
                have h9 := HBQ.out
                rw [HSN.out, List.take_length] at h9
                have := HGR.out.len
                rw [HSSR.out] at h9
                omega
              subst hbf
              go_wp2
              go_roundw
              case rel => exact ⟨k + 1, av + (Am.bs R).length, j + 1, by first | rfl | go_num, rfl, by go_num, HJ1.out, HPQ, HAD, HBV⟩
              case measure =>
                have := HJ1.out
                simp [Go.Lib.intOf]
                omega
      · obtain rfl : j = i := by omega
        have hkm : k = m := by
          obtain ⟨P, h1, h2⟩ := HP.out
          rw [HIL.out, List.drop_length] at h1
          have h3 : zb = P := by rw [h1]; exact List.append_nil P
          rw [HM.out, h3, h2]
        subst hkm
        have B5 := Lib.hid (B3.out.trans (HBR.out.mono B3.out.size))
        clear HP
        go_wp2_with (first
          | (go_at_call 7; (with_reducible refine (HL.out _ B5.out).mono ?_); rintro r w4 ⟨rfl, bel⟩; have B6 := Lib.hid (B5.out.trans (bel.mono B5.out.size)); clear bel))
        go_ret
        exact ⟨by first | rfl | (simp; done), B6.out⟩
end Go.Proofs.YtldbhcbmcogmfaaDoor

/- The document's Assemble, by its contract; AsmAssembles, walked. -/
namespace Go.Proofs.YtldbhcbmcogmfaaDoor
open Go.RowKit Go.Lib
set_option linter.unusedVariables false
set_option maxRecDepth 8000

theorem Am.nsP_len (lb : List (List UInt8 × Nat)) {r : Am.RL} (h : Am.Good r) : (Am.nsP lb r).length = r.ss.length := by
  unfold Am.nsP
  by_cases hn : r.nm = []
  · rw [if_pos hn]; exact h.1.2.2
  · rw [if_neg hn]
    have h2 := h.2 hn
    have : r.ss ≠ [] := fun e => by rw [e] at h2; cases h2
    have h3 : 0 < r.ss.length := List.length_pos_iff.2 this
    have := h.1.2.2
    simp
    omega
theorem Am.asmB_len (lb : List (List UInt8 × Nat)) : ∀ L : List Am.RL, (∀ q ∈ L, Am.Good q) → (Am.asmB lb L).length = (Am.fl L).length
  | [], _ => rfl
  | r :: t, h => by
    have hr := h r (by simp)
    have ih := Am.asmB_len lb t (fun q hq => h q (List.mem_cons_of_mem _ hq))
    unfold Am.asmB Am.fl
    rw [List.length_append, List.length_append, ih]
    have h1 := Am.flat_len _ _ (Am.nsP_len lb hr) hr.1.1
    have h2 := hr.len
    omega
theorem Am.nsP_at (lb : List (List UInt8 × Nat)) {r : Am.RL} (h : Am.Good r) {k : Nat} (hk : k < r.ns.length) (hk2 : k < (Am.nsP lb r).length) : (Am.nsP lb r)[k] = if r.nm ≠ [] ∧ k + 1 = r.ns.length then Am.optZ (Am.look lb r.nm) else r.ns[k] := by
  have e : (Am.nsP lb r)[k]? = some ((Am.nsP lb r)[k]) := List.getElem?_eq_getElem hk2
  by_cases hn : r.nm = []
  · rw [if_neg (fun q => q.1 hn)]
    have : (Am.nsP lb r)[k]? = r.ns[k]? := by unfold Am.nsP; rw [if_pos hn]
    rw [this, List.getElem?_eq_getElem hk] at e
    injection e with e
    exact e.symm
  · have hd : (Am.nsP lb r)[k]? = (r.ns.dropLast ++ [Am.optZ (Am.look lb r.nm)])[k]? := by unfold Am.nsP; rw [if_neg hn]
    rw [hd] at e
    by_cases hl : k + 1 = r.ns.length
    · rw [if_pos ⟨hn, hl⟩]
      rw [List.getElem?_append_right (by simp; omega)] at e
      simp only [List.length_dropLast] at e
      rw [show k - (r.ns.length - 1) = 0 from by omega] at e
      injection e with e
      exact e.symm
    · rw [if_neg (fun q => hl q.2)]
      rw [List.getElem?_append_left (by simp; omega), List.getElem?_dropLast, if_pos (by omega), List.getElem?_eq_getElem hk] at e
      injection e with e
      exact e.symm
theorem Am.flat_drop {ns ss : List Int} {k : Nat} (h1 : k < ns.length) (h2 : k < ss.length) : Am.flat (ns.drop k) (ss.drop k) = (if ss[k] = 1 then [UInt8.ofNat (ns[k] % 256).toNat] else [UInt8.ofNat (ns[k] % 256).toNat, UInt8.ofNat (ns[k] / 256 % 256).toNat]) ++ Am.flat (ns.drop (k + 1)) (ss.drop (k + 1)) := by
  rw [List.drop_eq_getElem_cons h1, List.drop_eq_getElem_cons h2]
  rfl
theorem Am.put_cut (n : Int) (d : Nat) (hd : d = 1 ∨ d = 2) : ((Bt.put n).extract 0 d).data.toList = if ((d : Int)) = 1 then [UInt8.ofNat (n % 256).toNat] else [UInt8.ofNat (n % 256).toNat, UInt8.ofNat (n / 256 % 256).toNat] := by
  rw [Go.Lib.extract_data]
  rcases hd with rfl | rfl <;> rfl
theorem Am.iz {w : World} {A : Option Addr} {n c : Nat} {xs : List Int} (h : RowZ 1 w (.slice A n c) xs.length (Am.intsC xs)) {q : Nat} (hq : q < xs.length) : ∃ g off, A = some ⟨g, off, none⟩ ∧ w.cell? ⟨g, off + q, none⟩ = some (.int .i64 xs[q]) := by
  rcases h.2 with ⟨e, h0⟩ | ⟨g', off', cap, e, _, _, _, _, hc⟩
  · omega
  · injection e with e1 e2 e3
    exact ⟨g', off', e1, hc q _ (by simp [Am.intsC, hq])⟩
set_option maxRecDepth 20000 in
set_option maxHeartbeats 6400000 in
theorem Am.rassemble_any (s : ByteArray) (hs : s.size ≤ 2000) (w : World) : Calls Tryd.prog 9 #[.string s] w fun r w' => r = .returned (.tuple #[.string ⟨(Am.read s.data.toList).2.2.1.toArray⟩, .int .i64 (Am.read s.data.toList).2.1, .int .i64 (Am.read s.data.toList).1]) ∧ Below w.heap.size w w' := by
  have HR := Lib.hid (Am.rlines_read s hs w)
  have HBD := Lib.hid (Am.read_bad s.data.toList)
  generalize Am.read s.data.toList = Z at *
  obtain ⟨ze, zl, zp, zb⟩ := Z
  by_cases h0 : ze = 0
  case neg =>
    have hb := HBD.out h0
    have n1 : (ze == 0) = false := by simpa using h0
    obtain rfl : zp = [] := by injection hb
    clear hb
    go_enter Tryd.func9, Tryd.ntmps9
    go_wp2_with (go_at_call 11; (with_reducible refine HR.out.mono ?_); rintro r w3 ⟨bel, A, i, c, rfl, _⟩; have B3 := Lib.hid bel; clear bel)
    go_ret3
    exact ⟨rfl, B3.out⟩
  case pos =>
    subst h0
    go_enter Tryd.func9, Tryd.ntmps9
    go_upto_region 2 with (go_at_call 11; (with_reducible refine HR.out.mono ?_); rintro r w3 ⟨bel, A, i, c, rfl, hz⟩; have hz0 := hz rfl; have HZ := Lib.hid hz0; have B3 := Lib.hid bel; clear bel hz hz0)
    obtain ⟨rfl, L, hiL, hL, hls, hgd, hfl, hzp, hzb⟩ := HZ.out
    rw [show ((0 : Nat) : Int) = 0 from rfl]
    have HIL := Lib.hid hiL
    have HL2 := Lib.hid hL
    have HLS := Lib.hid (fun (W : World) (k : Below w3.heap.size w3 W) => hls.kept k)
    have HGD := Lib.hid hgd
    have HFL := Lib.hid (show (Am.asmB (Am.lbs L 0) L).length ≤ 1024 from by rw [Am.asmB_len _ _ hgd]; exact hfl)
    have HZP := Lib.hid hzp
    have HPK := Lib.hid (fun (nm : List UInt8) (h : nm ≠ []) => (show Am.plc L nm 0 = Am.optZ (Am.look (Am.lbs L 0) nm) from Am.plc_look h L 0 hgd))
    obtain ⟨lb, hlb⟩ : ∃ lb, lb = Am.lbs L 0 := ⟨_, rfl⟩
    rw [← hlb] at HFL HZP HPK
    clear hiL hL hls hgd hfl hzp hzb HZ hlb
    go_wp2
    go_loopw [8, 9] (fun x y wr => ∃ (o : ByteArray) (j : Nat), x = .string o ∧ y = .int .i64 j ∧ j ≤ i ∧ Hid (Am.asmB lb L = o.data.toList ++ Am.asmB lb (L.drop j)) ∧ Hid (Below w3.heap.size w3 wr)) (fun _ y _ => i - (Go.Lib.intOf y).toNat)
    case atStart => exact ⟨⟨#[]⟩, 0, rfl, rfl, Nat.zero_le _, Lib.hid rfl, Lib.hid (Below.refl _ _)⟩
    case round =>
      obtain ⟨o, j, rfl, rfl, hj, HO, HBR⟩ := hrel
      have i2001 : i ≤ 2001 := by rw [HIL.out]; exact HL2.out
      have j2 : (0 : Int) ≤ (j : Int) := by omega
      have u1 : IntKind.i64.wrap ((j : Int) + 1) = (j : Int) + 1 := Am.wrap_i _ (by omega) (by omega)
      by_cases hjn : j < i
      · have j1 : (j : Int) < (i : Int) := by omega
        have hjL : j < L.length := by rw [← HIL.out]; exact hjn
        have hlv := HLS.out _ HBR.out
        obtain ⟨E, hE⟩ := hlv
        have hA : ∃ g off, A = some ⟨g, off, none⟩ := by
          rcases hE.row with ⟨_, ⟨e, h0⟩ | ⟨g', off', cap, e, _⟩⟩
          · omega
          · injection e with e1 e2 e3
            exact ⟨g', off', e1⟩
        obtain ⟨g, off, rfl⟩ := hA
        have hdr := Am.getD_drop hjL
        have hgr : Am.Good (L.getD j Am.rl0) := HGD.out _ (by simp [List.getD, hjL])
        have HEV := Lib.hid (fun (W : World) (kk : Below wr.heap.size wr W) => (show (W.cell? ⟨g, off + j * 5 + 1, none⟩ = some (.slice (E j).1.1 (L.getD j Am.rl0).ns.length (E j).1.2) ∧ W.cell? ⟨g, off + j * 5 + 2, none⟩ = some (.slice (E j).2.1 (L.getD j Am.rl0).ss.length (E j).2.2) ∧ W.cell? ⟨g, off + j * 5 + 3, none⟩ = some (.string ⟨(L.getD j Am.rl0).nm.toArray⟩)) ∧ Am.LnM W w.heap.size (.slice (E j).1.1 (L.getD j Am.rl0).ns.length (E j).1.2) (.slice (E j).2.1 (L.getD j Am.rl0).ss.length (E j).2.2) (L.getD j Am.rl0).ns (L.getD j Am.rl0).ss from by
          have hW := hE.kept kk
          obtain ⟨_, c1, c2, c3, _⟩ := Am.rl_cells hW j hjL
          exact ⟨⟨c1, c2, c3⟩, (hW.ln j hjL).1⟩))
        generalize L.getD j Am.rl0 = R at *
        have HGR := Lib.hid hgr
        have ho := HO.out
        rw [hdr] at ho
        have HOO := Lib.hid (show Am.asmB lb L = o.data.toList ++ (Am.flat ((Am.nsP lb R).drop 0) (R.ss.drop 0) ++ Am.asmB lb (L.drop (j + 1))) from ho)
        have HJ1 := Lib.hid (show j + 1 ≤ i from hjn)
        have HPL := Lib.hid (fun (W : World) (kk : Below w3.heap.size w3 W) (nb : ByteArray) => Am.rplace_any w.heap.size (some ⟨g, off, none⟩) i c L nb W (HLS.out W kk) HIL.out (by have := HL2.out; omega))
        obtain ⟨nb, hnb⟩ : ∃ x : ByteArray, x = ⟨R.nm.toArray⟩ := ⟨_, rfl⟩
        have hnbd : nb.data.toList = R.nm := by rw [hnb]
        rw [← hnb] at HEV
        have HNB := Lib.hid hnb
        have HND := Lib.hid hnbd
        obtain ⟨n, hn⟩ : ∃ n, n = R.ns.length := ⟨_, rfl⟩
        have hns : R.ss.length = n := by rw [hn]; exact hgr.1.2.2.symm
        have hn3 : n ≤ 3 := by rw [← hns]; exact hgr.1.2.1
        have HNS := Lib.hid hns
        have HN := Lib.hid hn
        rw [hns, ← hn] at HEV
        obtain ⟨wo, hwo⟩ : ∃ wo, wo = wr := ⟨_, rfl⟩
        rw [← hwo] at HEV HBR ⊢
        clear hwo
        generalize (E j).1.1 = nA at *
        generalize (E j).1.2 = nc at *
        generalize (E j).2.1 = sA at *
        generalize (E j).2.2 = sc at *
        clear hE hdr hgr ho hjL hjn HO hnb hnbd hn hns
        go_wp2
        go_loopw [8, 10, 11, 12] (fun x y n1 b1 wj => ∃ (p : ByteArray) (q : Nat), x = .string p ∧ y = .int .i64 q ∧ q ≤ n ∧ Hid (Am.asmB lb L = p.data.toList ++ (Am.flat ((Am.nsP lb R).drop q) (R.ss.drop q) ++ Am.asmB lb (L.drop (j + 1)))) ∧ Hid (Below wo.heap.size wo wj)) (fun _ y _ _ _ => n - (Go.Lib.intOf y).toNat)
        case atStart => exact ⟨o, 0, rfl, rfl, Nat.zero_le _, HOO, Lib.hid (Below.refl _ _)⟩
        case round =>
          obtain ⟨p, q, rfl, rfl, hq, HPQ, HBJ⟩ := hrel
          have q2 : (0 : Int) ≤ (q : Int) := by omega
          have v1 : IntKind.i64.wrap ((q : Int) + 1) = (q : Int) + 1 := Am.wrap_i _ (by omega) (by omega)
          by_cases hqn : q < n
          · have q1 : (q : Int) < (n : Int) := by omega
            have hqN : q < R.ns.length := by rw [← HN.out]; exact hqn
            have hqS : q < R.ss.length := by rw [HNS.out]; exact hqn
            have hqP : q < (Am.nsP lb R).length := by rw [Am.nsP_len lb HGR.out]; exact hqS
            obtain ⟨⟨c1, c2, c3⟩, hlm⟩ := HEV.out wr HBJ.out
            obtain ⟨g4, o4, hnA, cx⟩ := Am.iz hlm.n hqN
            obtain ⟨g5, o5, hsA, cs⟩ := Am.iz hlm.s hqS
            have hz2 := HGR.out.1.1 R.ss[q] (List.getElem_mem hqS)
            have hfd := Am.flat_drop hqP hqS
            rw [Am.nsP_at lb HGR.out hqN hqP] at hfd
            have HSV := Lib.hid (fun (W : World) (kk : Below wo.heap.size wo W) => (show W.cell? ⟨g, off + j * 5 + 2, none⟩ = some (.slice sA n sc) ∧ W.cell? ⟨g5, o5 + q, none⟩ = some (.int .i64 R.ss[q]) from by
              obtain ⟨⟨_, c2, _⟩, hlm⟩ := HEV.out W kk
              obtain ⟨g6, o6, hsA', cs⟩ := Am.iz hlm.s hqS
              rw [hsA] at hsA'
              injection hsA' with hsA'
              injection hsA' with e1 e2
              subst e1 e2
              exact ⟨c2, cs⟩))
            generalize R.ss[q] = dz at *
            obtain ⟨d, rfl⟩ : ∃ d : Nat, dz = (d : Int) := ⟨dz.toNat, by omega⟩
            have hd12 : d = 1 ∨ d = 2 := by omega
            generalize R.ns[q] = x at *
            have hpq := HPQ.out
            rw [hfd] at hpq
            generalize hY : (if R.nm ≠ [] ∧ q + 1 = R.ns.length then Am.optZ (Am.look lb R.nm) else x) = Y at hpq
            have hps : p.size ≤ 1024 := by
              have h1 := HFL.out
              rw [hpq] at h1
              simp only [List.length_append] at h1
              have := Am.len p
              omega
            have HQ1 := Lib.hid (show q + 1 ≤ n from hqn)
            have HQE := Lib.hid (show (q + 1 = R.ns.length) ↔ (q + 1 = n) from by rw [HN.out])
            subst hnA hsA
            clear hz2 hfd hlm cs hqN hqS hqP
            by_cases hn : R.nm = []
            · have hb0 : nb = ⟨#[]⟩ := by rw [HNB.out, hn]
              rw [if_neg (fun e => e.1 hn)] at hY
              subst hY
              have HPF := Lib.hid hpq
              obtain ⟨y, hy⟩ : ∃ y, y = x := ⟨_, rfl⟩
              rw [← hy] at HPF cx
              subst hb0
              clear hn hpq hy hqn HPQ
              have HPUT := Lib.hid (fun W => rput_any y W)
              have HPS := Lib.hid (show (Bt.put y).size = 2 from rfl)
              have HCUT := Lib.hid (Am.put_cut y d hd12)
              obtain ⟨pb, hpb⟩ : ∃ pb, pb = Bt.put y := ⟨_, rfl⟩
              rw [← hpb] at HPUT HPS HCUT
              have p1 : (d : Int) ≤ (pb.size : Int) := by have := HPS.out; omega
              have p2 : d ≤ pb.size := by have := HPS.out; omega
              have p0 : (0 : Int) ≤ (d : Int) := by omega
              have hxs : (pb.extract 0 d).size = d := by rw [ByteArray.size_extract]; omega
              have g1 : ¬ 9223372036854775807 < p.size + (pb.extract 0 d).size := by rw [hxs]; omega
              have g2 : ¬ 9223372036854775807 < p.size + d := by omega
              have g3 : ¬ 9223372036854775807 < p.size + (d - 0) := by omega
              have HNX := Lib.hid (show Am.asmB lb L = (p ++ pb.extract 0 d).data.toList ++ (Am.flat ((Am.nsP lb R).drop (q + 1)) (R.ss.drop (q + 1)) ++ Am.asmB lb (L.drop (j + 1))) from by
                rw [ByteArray.data_append, Array.toList_append, HCUT.out, HPF.out]
                simp only [List.append_assoc])
              clear hpb hxs hd12 HPF
              go_wp2_with (go_at_call 17; (with_reducible refine (HPUT.out _).mono ?_); rintro e w6 ⟨rfl, hw6⟩; have B6 := Lib.hid (show Below wo.heap.size wo w6 from by rw [← hw6]; exact HBJ.out.alloc HBJ.out.size _); clear hw6; obtain ⟨d2, ds⟩ := HSV.out w6 B6.out)
              go_roundw
              case rel => exact ⟨p ++ pb.extract 0 d, q + 1, by first | rfl | (congr 1; done), by go_num, HQ1.out, HNX, B6⟩
              case measure =>
                have := HQ1.out
                simp [Go.Lib.intOf]
                omega
            · have hne : nb ≠ ⟨#[]⟩ := fun e => hn (by rw [← HND.out, e])
              have j3 := Am.str_some hne
              have w1' : IntKind.i64.wrap ((n : Int) - 1) = (n : Int) - 1 := Am.wrap_i _ (by omega) (by omega)
              by_cases hql : q + 1 = n
              · rw [if_pos ⟨hn, HQE.out.2 hql⟩] at hY
                subst hY
                have HPF := Lib.hid hpq
                have hp := HPL.out _ (HBR.out.trans (HBJ.out.mono HBR.out.size)) nb
                rw [HND.out, HPK.out _ hn] at hp
                obtain ⟨y, hy⟩ : ∃ y, y = Am.optZ (Am.look lb R.nm) := ⟨_, rfl⟩
                rw [← hy] at HPF hp
                have HPLC := Lib.hid hp
                have e1 : (q : Int) = (n : Int) - 1 := by omega
                have e2 : ((q : Int) == (n : Int) - 1) = true := by simpa using e1
                clear hne hn hpq hy hqn HPQ hp e1
                have HPUT := Lib.hid (fun W => rput_any y W)
                have HPS := Lib.hid (show (Bt.put y).size = 2 from rfl)
                have HCUT := Lib.hid (Am.put_cut y d hd12)
                obtain ⟨pb, hpb⟩ : ∃ pb, pb = Bt.put y := ⟨_, rfl⟩
                rw [← hpb] at HPUT HPS HCUT
                have p1 : (d : Int) ≤ (pb.size : Int) := by have := HPS.out; omega
                have p2 : d ≤ pb.size := by have := HPS.out; omega
                have p0 : (0 : Int) ≤ (d : Int) := by omega
                have hxs : (pb.extract 0 d).size = d := by rw [ByteArray.size_extract]; omega
                have g1 : ¬ 9223372036854775807 < p.size + (pb.extract 0 d).size := by rw [hxs]; omega
                have g2 : ¬ 9223372036854775807 < p.size + d := by omega
                have g3 : ¬ 9223372036854775807 < p.size + (d - 0) := by omega
                have HNX := Lib.hid (show Am.asmB lb L = (p ++ pb.extract 0 d).data.toList ++ (Am.flat ((Am.nsP lb R).drop (q + 1)) (R.ss.drop (q + 1)) ++ Am.asmB lb (L.drop (j + 1))) from by
                  rw [ByteArray.data_append, Array.toList_append, HCUT.out, HPF.out]
                  simp only [List.append_assoc])
                clear hpb hxs hd12 HPF
                go_wp2_with (first
                  | (go_at_call 16; (with_reducible refine HPLC.out.mono ?_); rintro e w5 ⟨rfl, g5'⟩; have B5 := Lib.hid (HBJ.out.trans (below_of_only g5' HBJ.out.size (by simp))); clear g5'; obtain ⟨d2, ds⟩ := HSV.out w5 B5.out)
                  | (go_at_call 17; (with_reducible refine (HPUT.out _).mono ?_); rintro e w6 ⟨rfl, hw6⟩; have B6 := Lib.hid (show Below wo.heap.size wo w6 from by rw [← hw6]; exact B5.out.alloc B5.out.size _); clear hw6; obtain ⟨d2', ds'⟩ := HSV.out w6 B6.out))
                go_roundw
                case rel => exact ⟨p ++ pb.extract 0 d, q + 1, by first | rfl | (congr 1; done), by go_num, HQ1.out, HNX, B6⟩
                case measure =>
                  have := HQ1.out
                  simp [Go.Lib.intOf]
                  omega
              · rw [if_neg (fun e => hql (HQE.out.1 e.2))] at hY
                subst hY
                have HPF := Lib.hid hpq
                obtain ⟨y, hy⟩ : ∃ y, y = x := ⟨_, rfl⟩
                rw [← hy] at HPF cx
                have e1 : ¬ (q : Int) = (n : Int) - 1 := by omega
                have e2 : ((q : Int) == (n : Int) - 1) = false := by simpa using e1
                clear hne hn hpq hy hqn HPQ hql
                have HPUT := Lib.hid (fun W => rput_any y W)
                have HPS := Lib.hid (show (Bt.put y).size = 2 from rfl)
                have HCUT := Lib.hid (Am.put_cut y d hd12)
                obtain ⟨pb, hpb⟩ : ∃ pb, pb = Bt.put y := ⟨_, rfl⟩
                rw [← hpb] at HPUT HPS HCUT
                have p1 : (d : Int) ≤ (pb.size : Int) := by have := HPS.out; omega
                have p2 : d ≤ pb.size := by have := HPS.out; omega
                have p0 : (0 : Int) ≤ (d : Int) := by omega
                have hxs : (pb.extract 0 d).size = d := by rw [ByteArray.size_extract]; omega
                have g1 : ¬ 9223372036854775807 < p.size + (pb.extract 0 d).size := by rw [hxs]; omega
                have g2 : ¬ 9223372036854775807 < p.size + d := by omega
                have g3 : ¬ 9223372036854775807 < p.size + (d - 0) := by omega
                have HNX := Lib.hid (show Am.asmB lb L = (p ++ pb.extract 0 d).data.toList ++ (Am.flat ((Am.nsP lb R).drop (q + 1)) (R.ss.drop (q + 1)) ++ Am.asmB lb (L.drop (j + 1))) from by
                  rw [ByteArray.data_append, Array.toList_append, HCUT.out, HPF.out]
                  simp only [List.append_assoc])
                clear hpb hxs hd12 HPF
                go_wp2_with (go_at_call 17; (with_reducible refine (HPUT.out _).mono ?_); rintro e w6 ⟨rfl, hw6⟩; have B6 := Lib.hid (show Below wo.heap.size wo w6 from by rw [← hw6]; exact HBJ.out.alloc HBJ.out.size _); clear hw6; obtain ⟨d2, ds⟩ := HSV.out w6 B6.out)
                go_roundw
                case rel => exact ⟨p ++ pb.extract 0 d, q + 1, by first | rfl | (congr 1; done), by go_num, HQ1.out, HNX, B6⟩
                case measure =>
                  have := HQ1.out
                  simp [Go.Lib.intOf]
                  omega
          · obtain rfl : q = n := by omega
            have HOX := Lib.hid (show Am.asmB lb L = p.data.toList ++ Am.asmB lb (L.drop (j + 1)) from by
              have h := HPQ.out
              rw [show R.ss.drop q = [] from by rw [← HNS.out]; exact List.drop_length, show (Am.nsP lb R).drop q = [] from by rw [← HNS.out, ← Am.nsP_len lb HGR.out]; exact List.drop_length] at h
              exact h)
            have BX := Lib.hid (HBR.out.trans (HBJ.out.mono HBR.out.size))
            obtain ⟨⟨c1, c2, c3⟩, _⟩ := HEV.out wr HBJ.out
            clear HPQ
            go_wp2
            go_roundw
            case rel => exact ⟨p, j + 1, rfl, by go_num, HJ1.out, HOX, BX⟩
            case measure =>
              have := HJ1.out
              simp [Go.Lib.intOf]
              omega
      · obtain rfl : j = i := by omega
        have HFIN := Lib.hid (show o = ⟨zp.toArray⟩ from by
          have h := HO.out
          rw [HIL.out, List.drop_length] at h
          have h2 : zp = o.data.toList := by rw [HZP.out, h]; exact List.append_nil _
          rw [h2])
        have B5 := Lib.hid (B3.out.trans (HBR.out.mono B3.out.size))
        clear HO
        go_wp2
        go_ret3
        exact ⟨by rw [HFIN.out]; rfl, B5.out⟩
end Go.Proofs.YtldbhcbmcogmfaaDoor

/- AsmAssembles, walked. -/
namespace Go.Proofs.YtldbhcbmcogmfaaDoor
open Go.RowKit Go.Lib
set_option linter.unusedVariables false
set_option maxRecDepth 8000

set_option maxRecDepth 20000 in
set_option maxHeartbeats 3200000 in
theorem asmassembles_walk (s : ByteArray) (w : World) (hg : Am.Gl w) : Calls Tryd.prog 3 #[.string s] w fun r w' => r = .returned (.bool true) ∧ Below w.heap.size w w' := by
  have HL := Lib.hid (fun (W : World) (k : Below w.heap.size w W) => Am.live20_any W (hg.below k hg.sz))
  by_cases h1 : 2000 < s.size
  · have i1 : (2000 : Int) < (s.size : Int) := by omega
    clear hg
    go_enter Tryd.func3, Tryd.ntmps3
    go_wp2_with (first
      | (go_at_call 7; (with_reducible refine (HL.out _ (Below.refl _ _)).mono ?_); rintro r w2 ⟨rfl, bel⟩))
    go_ret
    exact ⟨rfl, bel⟩
  have i1 : ¬ (2000 : Int) < (s.size : Int) := by omega
  have HA := Lib.hid (Am.assemble_any s (by omega) w hg)
  have HB := Lib.hid (fun W => Am.rassemble_any s (by omega) W)
  generalize Am.read s.data.toList = Z at *
  obtain ⟨ze, zl, zp, zb⟩ := Z
  obtain ⟨P, hP⟩ : ∃ P : ByteArray, P = ⟨zp.toArray⟩ := ⟨_, rfl⟩
  simp only at HA HB
  rw [← hP] at HA HB
  clear hg h1 hP
  go_enter Tryd.func3, Tryd.ntmps3
  go_wp2_with (first
    | (go_at_call 8; (with_reducible refine HA.out.mono ?_); rintro r w2 ⟨rfl, bel⟩; have B2 := Lib.hid bel; clear bel)
    | (go_at_call 9; (with_reducible refine (HB.out _).mono ?_); rintro r w3 ⟨rfl, bel⟩; have B3 := Lib.hid (B2.out.trans (bel.mono B2.out.size)); clear bel)
    | (go_at_call 7; (with_reducible refine (HL.out _ B3.out).mono ?_); rintro r w4 ⟨rfl, bel⟩; have B4 := Lib.hid (B3.out.trans (bel.mono B3.out.size)); clear bel))
  go_ret
  exact ⟨by first | rfl | (simp; done), B4.out⟩
end Go.Proofs.YtldbhcbmcogmfaaDoor
