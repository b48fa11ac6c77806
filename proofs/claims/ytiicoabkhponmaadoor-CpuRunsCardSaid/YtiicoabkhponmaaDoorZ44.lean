import Derived.Test.YtiicoabkhponmaaDoorZ42
import Derived.LoopTactic
import Derived.Deep.RegionHeld3
import Derived.Deep.RegionHeld
import Derived.OrdersHeld
import Derived.Deep.Cut
import Derived.Deep.CutBlock
set_option linter.all false
/- CpuRuns: Give and Wake, each into a box of its own, in whatever order they come. -/
namespace Go.Proofs.YtiicoabkhponmaaDoor
open Go.RowKit Go.Lib Go.Sort
set_option linter.unusedVariables false
set_option maxRecDepth 20000
attribute [-go_sem] Go.run_neq_struct Go.run_eql_struct

/-- The region of this number. -/
def Cu.reg (n : Nat) : Code → Option Code
  | .region k ops d => cond (Nat.beq k n) (some (.region k ops d)) none
  | .seq a b => match Cu.reg n a with
    | some c => some c
    | none => Cu.reg n b
  | .block _ c => Cu.reg n c
  | .loop c => Cu.reg n c
  | .scope c => Cu.reg n c
  | .cond _ a b => match Cu.reg n a with
    | some c => some c
    | none => Cu.reg n b
  | _ => none
noncomputable def Cu.c16 : Code := ((Tryd.f6.body.bind (Cu.reg 16)).getD .skip)

set_option maxHeartbeats 25600000 in
theorem Cu.r16 {Q : Exit → Act → World → Prop} {W12 : World} (f : Nat → Cu.Af) (J : Nat) (n x : Int) (bz : Nat) (u0 u1 u2 u5 u6 u7 u8 u9 u10 u11 u12 u13 u14 u16 u17 u18 u19 u20 u21 u22 u23 u24 u25 u26 u27 u28 u29 u30 u31 u32 u33 u34 u35 u36 u37 u38 u39 u40 u41 u42 u43 u44 u45 u46 u47 u48 u49 u50 u51 u52 u53 u54 u55 u56 u57 u58 u59 u60 u61 u62 u63 u64 u65 u66 u67 u68 u69 u70 u71 u72 u73 u74 u75 u76 u77 u78 u79 u80 u81 u82 u83 u84 u85 u86 u87 u88 u89 u90 u91 u92 u93 u94 u95 u96 u97 u98 u99 u100 u101 u102 u103 u104 u105 u106 u107 u108 u109 u110 u111 u112 u113 u114 u115 u116 u117 u118 u119 u120 u121 u122 u123 u124 u125 u126 u127 u128 u129 u130 u131 u132 u133 u134 u135 u136 u137 u138 u139 u140 u141 u142 u143 u144 u145 u146 u147 u148 u149 u150 : Value)
    (HGI : Hid (∀ W, Calls Tryd.prog 17 #[.agg #[.int .i64 (f J).pc, .int .i64 ((f J).r 0), .int .i64 ((f J).r 1), .int .i64 ((f J).r 2), .int .i64 ((f J).r 3), .int .i64 ((f J).r 4), .int .i64 ((f J).r 5), .int .i64 ((f J).r 6), .int .i64 ((f J).r 7), .int .i64 (f J).md], .int .i64 x, .int .i64 n] W fun e w' => e = .returned (.agg #[.int .i64 ((Cu.gave (f J) x n)).pc, .int .i64 (((Cu.gave (f J) x n)).r 0), .int .i64 (((Cu.gave (f J) x n)).r 1), .int .i64 (((Cu.gave (f J) x n)).r 2), .int .i64 (((Cu.gave (f J) x n)).r 3), .int .i64 (((Cu.gave (f J) x n)).r 4), .int .i64 (((Cu.gave (f J) x n)).r 5), .int .i64 (((Cu.gave (f J) x n)).r 6), .int .i64 (((Cu.gave (f J) x n)).r 7), .int .i64 ((Cu.gave (f J) x n)).md]) ∧ W.grownBy w' none)) (HWA : Hid (∀ W, Calls Tryd.prog 18 #[.agg #[.int .i64 (f J).pc, .int .i64 ((f J).r 0), .int .i64 ((f J).r 1), .int .i64 ((f J).r 2), .int .i64 ((f J).r 3), .int .i64 ((f J).r 4), .int .i64 ((f J).r 5), .int .i64 ((f J).r 6), .int .i64 ((f J).r 7), .int .i64 (f J).md]] W fun e w' => e = .returned (.agg #[.int .i64 ((Cu.woke (f J))).pc, .int .i64 (((Cu.woke (f J))).r 0), .int .i64 (((Cu.woke (f J))).r 1), .int .i64 (((Cu.woke (f J))).r 2), .int .i64 (((Cu.woke (f J))).r 3), .int .i64 (((Cu.woke (f J))).r 4), .int .i64 (((Cu.woke (f J))).r 5), .int .i64 (((Cu.woke (f J))).r 6), .int .i64 (((Cu.woke (f J))).r 7), .int .i64 ((Cu.woke (f J))).md]) ∧ W.grownBy w' none))
    (hPan : ∀ c (a : Act) (t : Array Value) W, Q (.panic c) { a with tmps := t } W → Q (.panic c) a W)
    (HZ : Hid (Blk W12 bz 24 #[.int .i64 (f J).pc, .int .i64 ((f J).r 0), .int .i64 ((f J).r 1), .int .i64 ((f J).r 2), .int .i64 ((f J).r 3), .int .i64 ((f J).r 4), .int .i64 ((f J).r 5), .int .i64 ((f J).r 6), .int .i64 ((f J).r 7), .int .i64 (f J).md]))
    (hQ : ∀ (ba bb : Nat) (v114 v115 v116 v117 v118 v119 : Value) (W' : World), W12.grownBy W' none → Blk W' ba 24 #[.int .i64 ((Cu.gave (f J) x n)).pc, .int .i64 (((Cu.gave (f J) x n)).r 0), .int .i64 (((Cu.gave (f J) x n)).r 1), .int .i64 (((Cu.gave (f J) x n)).r 2), .int .i64 (((Cu.gave (f J) x n)).r 3), .int .i64 (((Cu.gave (f J) x n)).r 4), .int .i64 (((Cu.gave (f J) x n)).r 5), .int .i64 (((Cu.gave (f J) x n)).r 6), .int .i64 (((Cu.gave (f J) x n)).r 7), .int .i64 ((Cu.gave (f J) x n)).md] → Blk W' bb 24 #[.int .i64 ((Cu.woke (f J))).pc, .int .i64 (((Cu.woke (f J))).r 0), .int .i64 (((Cu.woke (f J))).r 1), .int .i64 (((Cu.woke (f J))).r 2), .int .i64 (((Cu.woke (f J))).r 3), .int .i64 (((Cu.woke (f J))).r 4), .int .i64 (((Cu.woke (f J))).r 5), .int .i64 (((Cu.woke (f J))).r 6), .int .i64 (((Cu.woke (f J))).r 7), .int .i64 ((Cu.woke (f J))).md] → Q .normal { tmps := #[u0, u1, u2, .int .i64 n, .int .i64 x, u5, u6, u7, u8, u9, u10, u11, u12, u13, u14, .pointer (some ⟨bz, 0, none⟩), u16, u17, u18, .pointer (some ⟨ba, 0, none⟩), .pointer (some ⟨bb, 0, none⟩), u21, u22, u23, u24, u25, u26, u27, u28, u29, u30, u31, u32, u33, u34, u35, u36, u37, u38, u39, u40, u41, u42, u43, u44, u45, u46, u47, u48, u49, u50, u51, u52, u53, u54, u55, u56, u57, u58, u59, u60, u61, u62, u63, u64, u65, u66, u67, u68, u69, u70, u71, u72, u73, u74, u75, u76, u77, u78, u79, u80, u81, u82, u83, u84, u85, u86, u87, u88, u89, u90, u91, u92, u93, u94, u95, u96, u97, u98, u99, u100, u101, u102, u103, u104, u105, u106, u107, u108, u109, u110, u111, u112, u113, v114, v115, v116, v117, v118, v119, u120, u121, u122, u123, u124, u125, u126, u127, u128, u129, u130, u131, u132, u133, u134, u135, u136, u137, u138, u139, u140, u141, u142, u143, u144, u145, u146, u147, u148, u149, u150], defers := [] } W') :
    Code.wp Tryd.prog Cu.c16 Q { tmps := #[u0, u1, u2, .int .i64 n, .int .i64 x, u5, u6, u7, u8, u9, u10, u11, u12, u13, u14, .pointer (some ⟨bz, 0, none⟩), u16, u17, u18, u19, u20, u21, u22, u23, u24, u25, u26, u27, u28, u29, u30, u31, u32, u33, u34, u35, u36, u37, u38, u39, u40, u41, u42, u43, u44, u45, u46, u47, u48, u49, u50, u51, u52, u53, u54, u55, u56, u57, u58, u59, u60, u61, u62, u63, u64, u65, u66, u67, u68, u69, u70, u71, u72, u73, u74, u75, u76, u77, u78, u79, u80, u81, u82, u83, u84, u85, u86, u87, u88, u89, u90, u91, u92, u93, u94, u95, u96, u97, u98, u99, u100, u101, u102, u103, u104, u105, u106, u107, u108, u109, u110, u111, u112, u113, u114, u115, u116, u117, u118, u119, u120, u121, u122, u123, u124, u125, u126, u127, u128, u129, u130, u131, u132, u133, u134, u135, u136, u137, u138, u139, u140, u141, u142, u143, u144, u145, u146, u147, u148, u149, u150], defers := [] } W12 := by
  conv => arg 2; whnf
  obtain ⟨V0, hV0⟩ : ∃ V0, V0 = W12.drew := ⟨_, rfl⟩
  have G_V0 := Lib.hid (show W12.grownBy V0 none from by rw [hV0]; exact only_drewN (only_refl _ none) 1)
  refine wp_region_held_drew (S := fun W => W12.grownBy W none ∧ W.cell? ⟨bz, 0, none⟩ = some (.int .i64 (f (J)).pc) ∧ W.cell? ⟨bz, 1, none⟩ = some (.int .i64 ((f (J)).r 0)) ∧ W.cell? ⟨bz, 2, none⟩ = some (.int .i64 ((f (J)).r 1)) ∧ W.cell? ⟨bz, 3, none⟩ = some (.int .i64 ((f (J)).r 2)) ∧ W.cell? ⟨bz, 4, none⟩ = some (.int .i64 ((f (J)).r 3)) ∧ W.cell? ⟨bz, 5, none⟩ = some (.int .i64 ((f (J)).r 4)) ∧ W.cell? ⟨bz, 6, none⟩ = some (.int .i64 ((f (J)).r 5)) ∧ W.cell? ⟨bz, 7, none⟩ = some (.int .i64 ((f (J)).r 6)) ∧ W.cell? ⟨bz, 8, none⟩ = some (.int .i64 ((f (J)).r 7)) ∧ W.cell? ⟨bz, 9, none⟩ = some (.int .i64 (f (J)).md)) (by kernel_rfl) (by rw [← hV0]; exact Cu.s16 HZ.out G_V0.out) (fun hHeld => ?_)
  rw [← hV0] at hHeld ⊢
  clear hV0
  refine wpAnyH_take (i := 0) (oi := _) (v := ?_) rfl (by kernel_rfl) (by kernel_rfl) (by kernel_rfl) (fun c a w h => hPan c a _ w h) (Or.inl ⟨by rfl, ?_⟩) (by assumption) ?_
  case refine_2 => intro w hSw; (try dsimp only at hSw); go_simp; try with_reducible rfl
  try simp only [Act.put, List.setIfInBounds_toArray, List.set_cons_zero, List.set_cons_succ]
  refine wpAnyH_take (i := 1) (oi := _) (v := ?_) rfl (by kernel_rfl) (by kernel_rfl) (by kernel_rfl) (fun c a w h => hPan c a _ w h) (Or.inl ⟨by rfl, ?_⟩) (by assumption) ?_
  case refine_2 => intro w hSw; (try dsimp only at hSw); go_simp; try with_reducible rfl
  try simp only [Act.put, List.setIfInBounds_toArray, List.set_cons_zero, List.set_cons_succ]
  refine wpAnyH_take (i := 2) (oi := _) (v := ?_) rfl (by kernel_rfl) (by kernel_rfl) (by kernel_rfl) (fun c a w h => hPan c a _ w h) (Or.inl ⟨by rfl, ?_⟩) (by assumption) ?_
  case refine_2 => intro w hSw; (try dsimp only at hSw); go_simp; try with_reducible rfl
  try simp only [Act.put, List.setIfInBounds_toArray, List.set_cons_zero, List.set_cons_succ]
  refine wpAnyH_take (i := 4) (oi := _) (v := ?_) rfl (by kernel_rfl) (by kernel_rfl) (by kernel_rfl) (fun c a w h => hPan c a _ w h) (Or.inl ⟨by rfl, ?_⟩) (by assumption) ?_
  case refine_2 => intro w hSw; (try dsimp only at hSw); go_simp; try with_reducible rfl
  try simp only [Act.put, List.setIfInBounds_toArray, List.set_cons_zero, List.set_cons_succ]
  refine wpAnyH_ready (rs := [3, 6, 7]) (by kernel_rfl) (by simp) ?_
  refine AllReadyH.cons (o := _) rfl (fun K hK => ?_) ?_
  · skip
    go_simp
    go_at_call 17
    (with_reducible refine (HGI.out _).mono ?_)
    rintro eV1 V1 ⟨rfl, g_V1⟩
    have G_V1 := Lib.hid (only_trans G_V0.out g_V1)
    clear g_V1
    refine hK.out _ _ (Cu.s16 HZ.out G_V1.out) (fun hHeld => ?_)
    clear hK K
    try simp only [Act.put, List.setIfInBounds_toArray, List.set_cons_zero, List.set_cons_succ]
    refine wpAnyH_ready (rs := [5, 6, 7]) (by kernel_rfl) (by simp) ?_
    refine AllReadyH.cons (o := _) rfl (fun K hK => ?_) ?_
    · skip
      go_simp
      go_at_call 18
      (with_reducible refine (HWA.out _).mono ?_)
      rintro eV2 V2 ⟨rfl, g_V2⟩
      have G_V2 := Lib.hid (only_trans G_V1.out g_V2)
      clear g_V2
      refine hK.out _ _ (Cu.s16 HZ.out G_V2.out) (fun hHeld => ?_)
      clear hK K
      try simp only [Act.put, List.setIfInBounds_toArray, List.set_cons_zero, List.set_cons_succ]
      refine wpAnyH_ready (rs := [6, 7]) (by kernel_rfl) (by simp) ?_
      refine AllReadyH.cons (o := _) rfl (fun K hK => ?_) ?_
      · skip
        obtain ⟨ba, hba⟩ : ∃ b, b = V2.heap.size := ⟨_, rfl⟩
        obtain ⟨V3, hV3⟩ : ∃ Y, Y = V2.alloc (.cells #[.int .i64 0, .int .i64 0, .int .i64 0, .int .i64 0, .int .i64 0, .int .i64 0, .int .i64 0, .int .i64 0, .int .i64 0, .int .i64 0] 24) := ⟨_, rfl⟩
        have G_V3 := Lib.hid (show W12.grownBy V3 none from by rw [hV3]; exact only_alloc G_V2.out _)
        have A_V3 := Lib.hid (show Blk V3 ba 24 #[.int .i64 0, .int .i64 0, .int .i64 0, .int .i64 0, .int .i64 0, .int .i64 0, .int .i64 0, .int .i64 0, .int .i64 0, .int .i64 0] from by rw [hV3, hba]; exact Blk.new _ _ _)
        have AL := Lib.hid (show W12.heap.size ≤ ba from by rw [hba]; exact G_V2.out.size)
        go_simp
        rw [← hV3, ← hba]
        clear hV3 hba
        refine hK.out _ _ (Cu.s16 HZ.out G_V3.out) (fun hHeld => ?_)
        clear hK K
        try simp only [Act.put, List.setIfInBounds_toArray, List.set_cons_zero, List.set_cons_succ]
        refine wpAnyH_ready (rs := [7]) (by kernel_rfl) (by simp) ?_
        refine AllReadyH.cons (o := _) rfl (fun K hK => ?_) AllReadyH.nil
        obtain ⟨bb, hbb⟩ : ∃ b, b = V3.heap.size := ⟨_, rfl⟩
        obtain ⟨V4, hV4⟩ : ∃ Y, Y = V3.alloc (.cells #[.int .i64 0, .int .i64 0, .int .i64 0, .int .i64 0, .int .i64 0, .int .i64 0, .int .i64 0, .int .i64 0, .int .i64 0, .int .i64 0] 24) := ⟨_, rfl⟩
        have G_V4 := Lib.hid (show W12.grownBy V4 none from by rw [hV4]; exact only_alloc G_V3.out _)
        have B_V4 := Lib.hid (show Blk V4 bb 24 #[.int .i64 0, .int .i64 0, .int .i64 0, .int .i64 0, .int .i64 0, .int .i64 0, .int .i64 0, .int .i64 0, .int .i64 0, .int .i64 0] from by rw [hV4, hbb]; exact Blk.new _ _ _)
        have BL := Lib.hid (show W12.heap.size ≤ bb from by rw [hbb]; exact G_V3.out.size)
        have A_V4 := Lib.hid (show Blk V4 ba 24 #[.int .i64 0, .int .i64 0, .int .i64 0, .int .i64 0, .int .i64 0, .int .i64 0, .int .i64 0, .int .i64 0, .int .i64 0, .int .i64 0] from by rw [hV4]; exact A_V3.out.alloc _)
        have NE := Lib.hid (show ba ≠ bb from by have := A_V3.out.lt; omega)
        go_simp
        rw [← hV4, ← hbb]
        clear hV4 hbb
        refine hK.out _ _ (Cu.s16 HZ.out G_V4.out) (fun hHeld => ?_)
        clear hK K
        try simp only [Act.put, List.setIfInBounds_toArray, List.set_cons_zero, List.set_cons_succ]
        focus
          refine wpAnyH_ready (rs := [8]) (by kernel_rfl) (by simp) ?_
          refine AllReadyH.cons (o := _) rfl (fun K hK => ?_) AllReadyH.nil
          obtain ⟨q0, q1, q2, q3, q4, q5, q6, q7, q8, q9⟩ := Cu.cells10 A_V4.out
          obtain ⟨r0, r1, r2, r3, r4, r5, r6, r7, r8, r9⟩ := Cu.free10 A_V4.out
          obtain ⟨V5, hV5⟩ : ∃ Y, Y = ((((((((((V4.setCell ⟨ba, 0, none⟩ (.int .i64 ((Cu.gave (f (J)) x n)).pc)).setCell ⟨ba, 1, none⟩ (.int .i64 (((Cu.gave (f (J)) x n)).r 0))).setCell ⟨ba, 2, none⟩ (.int .i64 (((Cu.gave (f (J)) x n)).r 1))).setCell ⟨ba, 3, none⟩ (.int .i64 (((Cu.gave (f (J)) x n)).r 2))).setCell ⟨ba, 4, none⟩ (.int .i64 (((Cu.gave (f (J)) x n)).r 3))).setCell ⟨ba, 5, none⟩ (.int .i64 (((Cu.gave (f (J)) x n)).r 4))).setCell ⟨ba, 6, none⟩ (.int .i64 (((Cu.gave (f (J)) x n)).r 5))).setCell ⟨ba, 7, none⟩ (.int .i64 (((Cu.gave (f (J)) x n)).r 6))).setCell ⟨ba, 8, none⟩ (.int .i64 (((Cu.gave (f (J)) x n)).r 7))).setCell ⟨ba, 9, none⟩ (.int .i64 ((Cu.gave (f (J)) x n)).md)) := ⟨_, rfl⟩
          have hq := Cu.put10z A_V4.out (.int .i64 ((Cu.gave (f (J)) x n)).pc) (.int .i64 (((Cu.gave (f (J)) x n)).r 0)) (.int .i64 (((Cu.gave (f (J)) x n)).r 1)) (.int .i64 (((Cu.gave (f (J)) x n)).r 2)) (.int .i64 (((Cu.gave (f (J)) x n)).r 3)) (.int .i64 (((Cu.gave (f (J)) x n)).r 4)) (.int .i64 (((Cu.gave (f (J)) x n)).r 5)) (.int .i64 (((Cu.gave (f (J)) x n)).r 6)) (.int .i64 (((Cu.gave (f (J)) x n)).r 7)) (.int .i64 ((Cu.gave (f (J)) x n)).md) _ hV5
          have G_V5 := Lib.hid (Cu.grow_new G_V4.out hq.2 AL.out)
          have A_V5 := Lib.hid hq.1
          have B_V5 := Lib.hid (B_V4.out.only hq.2 (fun e => by injection e with e; exact NE.out e.symm))
          clear hq
          go_simp
          rw [← hV5]
          clear hV5 q0 q1 q2 q3 q4 q5 q6 q7 q8 q9 r0 r1 r2 r3 r4 r5 r6 r7 r8 r9
          refine hK.out _ _ (Cu.s16 HZ.out G_V5.out) (fun hHeld => ?_)
          clear hK K
          try simp only [Act.put, List.setIfInBounds_toArray, List.set_cons_zero, List.set_cons_succ]
          refine wpAnyH_ready (rs := [9]) (by kernel_rfl) (by simp) ?_
          refine AllReadyH.cons (o := _) rfl (fun K hK => ?_) AllReadyH.nil
          obtain ⟨q0, q1, q2, q3, q4, q5, q6, q7, q8, q9⟩ := Cu.cells10 B_V5.out
          obtain ⟨r0, r1, r2, r3, r4, r5, r6, r7, r8, r9⟩ := Cu.free10 B_V5.out
          obtain ⟨V6, hV6⟩ : ∃ Y, Y = ((((((((((V5.setCell ⟨bb, 0, none⟩ (.int .i64 ((Cu.woke (f (J)))).pc)).setCell ⟨bb, 1, none⟩ (.int .i64 (((Cu.woke (f (J)))).r 0))).setCell ⟨bb, 2, none⟩ (.int .i64 (((Cu.woke (f (J)))).r 1))).setCell ⟨bb, 3, none⟩ (.int .i64 (((Cu.woke (f (J)))).r 2))).setCell ⟨bb, 4, none⟩ (.int .i64 (((Cu.woke (f (J)))).r 3))).setCell ⟨bb, 5, none⟩ (.int .i64 (((Cu.woke (f (J)))).r 4))).setCell ⟨bb, 6, none⟩ (.int .i64 (((Cu.woke (f (J)))).r 5))).setCell ⟨bb, 7, none⟩ (.int .i64 (((Cu.woke (f (J)))).r 6))).setCell ⟨bb, 8, none⟩ (.int .i64 (((Cu.woke (f (J)))).r 7))).setCell ⟨bb, 9, none⟩ (.int .i64 ((Cu.woke (f (J)))).md)) := ⟨_, rfl⟩
          have hq := Cu.put10z B_V5.out (.int .i64 ((Cu.woke (f (J)))).pc) (.int .i64 (((Cu.woke (f (J)))).r 0)) (.int .i64 (((Cu.woke (f (J)))).r 1)) (.int .i64 (((Cu.woke (f (J)))).r 2)) (.int .i64 (((Cu.woke (f (J)))).r 3)) (.int .i64 (((Cu.woke (f (J)))).r 4)) (.int .i64 (((Cu.woke (f (J)))).r 5)) (.int .i64 (((Cu.woke (f (J)))).r 6)) (.int .i64 (((Cu.woke (f (J)))).r 7)) (.int .i64 ((Cu.woke (f (J)))).md) _ hV6
          have G_V6 := Lib.hid (Cu.grow_new G_V5.out hq.2 BL.out)
          have B_V6 := Lib.hid hq.1
          have A_V6 := Lib.hid (A_V5.out.only hq.2 (fun e => by injection e with e; exact NE.out e))
          clear hq
          go_simp
          rw [← hV6]
          clear hV6 q0 q1 q2 q3 q4 q5 q6 q7 q8 q9 r0 r1 r2 r3 r4 r5 r6 r7 r8 r9
          refine hK.out _ _ (Cu.s16 HZ.out G_V6.out) (fun hHeld => ?_)
          clear hK K
          try simp only [Act.put, List.setIfInBounds_toArray, List.set_cons_zero, List.set_cons_succ]
          refine wpAnyH_done (by kernel_rfl) ?_ _
          exact hQ ba bb _ _ _ _ _ _ _ G_V6.out A_V6.out B_V6.out
      refine AllReadyH.cons (o := _) rfl (fun K hK => ?_) AllReadyH.nil
      obtain ⟨bb, hbb⟩ : ∃ b, b = V2.heap.size := ⟨_, rfl⟩
      obtain ⟨V7, hV7⟩ : ∃ Y, Y = V2.alloc (.cells #[.int .i64 0, .int .i64 0, .int .i64 0, .int .i64 0, .int .i64 0, .int .i64 0, .int .i64 0, .int .i64 0, .int .i64 0, .int .i64 0] 24) := ⟨_, rfl⟩
      have G_V7 := Lib.hid (show W12.grownBy V7 none from by rw [hV7]; exact only_alloc G_V2.out _)
      have B_V7 := Lib.hid (show Blk V7 bb 24 #[.int .i64 0, .int .i64 0, .int .i64 0, .int .i64 0, .int .i64 0, .int .i64 0, .int .i64 0, .int .i64 0, .int .i64 0, .int .i64 0] from by rw [hV7, hbb]; exact Blk.new _ _ _)
      have BL := Lib.hid (show W12.heap.size ≤ bb from by rw [hbb]; exact G_V2.out.size)
      go_simp
      rw [← hV7, ← hbb]
      clear hV7 hbb
      refine hK.out _ _ (Cu.s16 HZ.out G_V7.out) (fun hHeld => ?_)
      clear hK K
      try simp only [Act.put, List.setIfInBounds_toArray, List.set_cons_zero, List.set_cons_succ]
      refine wpAnyH_ready (rs := [6]) (by kernel_rfl) (by simp) ?_
      refine AllReadyH.cons (o := _) rfl (fun K hK => ?_) AllReadyH.nil
      obtain ⟨ba, hba⟩ : ∃ b, b = V7.heap.size := ⟨_, rfl⟩
      obtain ⟨V8, hV8⟩ : ∃ Y, Y = V7.alloc (.cells #[.int .i64 0, .int .i64 0, .int .i64 0, .int .i64 0, .int .i64 0, .int .i64 0, .int .i64 0, .int .i64 0, .int .i64 0, .int .i64 0] 24) := ⟨_, rfl⟩
      have G_V8 := Lib.hid (show W12.grownBy V8 none from by rw [hV8]; exact only_alloc G_V7.out _)
      have A_V8 := Lib.hid (show Blk V8 ba 24 #[.int .i64 0, .int .i64 0, .int .i64 0, .int .i64 0, .int .i64 0, .int .i64 0, .int .i64 0, .int .i64 0, .int .i64 0, .int .i64 0] from by rw [hV8, hba]; exact Blk.new _ _ _)
      have AL := Lib.hid (show W12.heap.size ≤ ba from by rw [hba]; exact G_V7.out.size)
      have B_V8 := Lib.hid (show Blk V8 bb 24 #[.int .i64 0, .int .i64 0, .int .i64 0, .int .i64 0, .int .i64 0, .int .i64 0, .int .i64 0, .int .i64 0, .int .i64 0, .int .i64 0] from by rw [hV8]; exact B_V7.out.alloc _)
      have NE := Lib.hid (show ba ≠ bb from by have := B_V7.out.lt; omega)
      go_simp
      rw [← hV8, ← hba]
      clear hV8 hba
      refine hK.out _ _ (Cu.s16 HZ.out G_V8.out) (fun hHeld => ?_)
      clear hK K
      try simp only [Act.put, List.setIfInBounds_toArray, List.set_cons_zero, List.set_cons_succ]
      focus
        refine wpAnyH_ready (rs := [8]) (by kernel_rfl) (by simp) ?_
        refine AllReadyH.cons (o := _) rfl (fun K hK => ?_) AllReadyH.nil
        obtain ⟨q0, q1, q2, q3, q4, q5, q6, q7, q8, q9⟩ := Cu.cells10 A_V8.out
        obtain ⟨r0, r1, r2, r3, r4, r5, r6, r7, r8, r9⟩ := Cu.free10 A_V8.out
        obtain ⟨V9, hV9⟩ : ∃ Y, Y = ((((((((((V8.setCell ⟨ba, 0, none⟩ (.int .i64 ((Cu.gave (f (J)) x n)).pc)).setCell ⟨ba, 1, none⟩ (.int .i64 (((Cu.gave (f (J)) x n)).r 0))).setCell ⟨ba, 2, none⟩ (.int .i64 (((Cu.gave (f (J)) x n)).r 1))).setCell ⟨ba, 3, none⟩ (.int .i64 (((Cu.gave (f (J)) x n)).r 2))).setCell ⟨ba, 4, none⟩ (.int .i64 (((Cu.gave (f (J)) x n)).r 3))).setCell ⟨ba, 5, none⟩ (.int .i64 (((Cu.gave (f (J)) x n)).r 4))).setCell ⟨ba, 6, none⟩ (.int .i64 (((Cu.gave (f (J)) x n)).r 5))).setCell ⟨ba, 7, none⟩ (.int .i64 (((Cu.gave (f (J)) x n)).r 6))).setCell ⟨ba, 8, none⟩ (.int .i64 (((Cu.gave (f (J)) x n)).r 7))).setCell ⟨ba, 9, none⟩ (.int .i64 ((Cu.gave (f (J)) x n)).md)) := ⟨_, rfl⟩
        have hq := Cu.put10z A_V8.out (.int .i64 ((Cu.gave (f (J)) x n)).pc) (.int .i64 (((Cu.gave (f (J)) x n)).r 0)) (.int .i64 (((Cu.gave (f (J)) x n)).r 1)) (.int .i64 (((Cu.gave (f (J)) x n)).r 2)) (.int .i64 (((Cu.gave (f (J)) x n)).r 3)) (.int .i64 (((Cu.gave (f (J)) x n)).r 4)) (.int .i64 (((Cu.gave (f (J)) x n)).r 5)) (.int .i64 (((Cu.gave (f (J)) x n)).r 6)) (.int .i64 (((Cu.gave (f (J)) x n)).r 7)) (.int .i64 ((Cu.gave (f (J)) x n)).md) _ hV9
        have G_V9 := Lib.hid (Cu.grow_new G_V8.out hq.2 AL.out)
        have A_V9 := Lib.hid hq.1
        have B_V9 := Lib.hid (B_V8.out.only hq.2 (fun e => by injection e with e; exact NE.out e.symm))
        clear hq
        go_simp
        rw [← hV9]
        clear hV9 q0 q1 q2 q3 q4 q5 q6 q7 q8 q9 r0 r1 r2 r3 r4 r5 r6 r7 r8 r9
        refine hK.out _ _ (Cu.s16 HZ.out G_V9.out) (fun hHeld => ?_)
        clear hK K
        try simp only [Act.put, List.setIfInBounds_toArray, List.set_cons_zero, List.set_cons_succ]
        refine wpAnyH_ready (rs := [9]) (by kernel_rfl) (by simp) ?_
        refine AllReadyH.cons (o := _) rfl (fun K hK => ?_) AllReadyH.nil
        obtain ⟨q0, q1, q2, q3, q4, q5, q6, q7, q8, q9⟩ := Cu.cells10 B_V9.out
        obtain ⟨r0, r1, r2, r3, r4, r5, r6, r7, r8, r9⟩ := Cu.free10 B_V9.out
        obtain ⟨V10, hV10⟩ : ∃ Y, Y = ((((((((((V9.setCell ⟨bb, 0, none⟩ (.int .i64 ((Cu.woke (f (J)))).pc)).setCell ⟨bb, 1, none⟩ (.int .i64 (((Cu.woke (f (J)))).r 0))).setCell ⟨bb, 2, none⟩ (.int .i64 (((Cu.woke (f (J)))).r 1))).setCell ⟨bb, 3, none⟩ (.int .i64 (((Cu.woke (f (J)))).r 2))).setCell ⟨bb, 4, none⟩ (.int .i64 (((Cu.woke (f (J)))).r 3))).setCell ⟨bb, 5, none⟩ (.int .i64 (((Cu.woke (f (J)))).r 4))).setCell ⟨bb, 6, none⟩ (.int .i64 (((Cu.woke (f (J)))).r 5))).setCell ⟨bb, 7, none⟩ (.int .i64 (((Cu.woke (f (J)))).r 6))).setCell ⟨bb, 8, none⟩ (.int .i64 (((Cu.woke (f (J)))).r 7))).setCell ⟨bb, 9, none⟩ (.int .i64 ((Cu.woke (f (J)))).md)) := ⟨_, rfl⟩
        have hq := Cu.put10z B_V9.out (.int .i64 ((Cu.woke (f (J)))).pc) (.int .i64 (((Cu.woke (f (J)))).r 0)) (.int .i64 (((Cu.woke (f (J)))).r 1)) (.int .i64 (((Cu.woke (f (J)))).r 2)) (.int .i64 (((Cu.woke (f (J)))).r 3)) (.int .i64 (((Cu.woke (f (J)))).r 4)) (.int .i64 (((Cu.woke (f (J)))).r 5)) (.int .i64 (((Cu.woke (f (J)))).r 6)) (.int .i64 (((Cu.woke (f (J)))).r 7)) (.int .i64 ((Cu.woke (f (J)))).md) _ hV10
        have G_V10 := Lib.hid (Cu.grow_new G_V9.out hq.2 BL.out)
        have B_V10 := Lib.hid hq.1
        have A_V10 := Lib.hid (A_V9.out.only hq.2 (fun e => by injection e with e; exact NE.out e))
        clear hq
        go_simp
        rw [← hV10]
        clear hV10 q0 q1 q2 q3 q4 q5 q6 q7 q8 q9 r0 r1 r2 r3 r4 r5 r6 r7 r8 r9
        refine hK.out _ _ (Cu.s16 HZ.out G_V10.out) (fun hHeld => ?_)
        clear hK K
        try simp only [Act.put, List.setIfInBounds_toArray, List.set_cons_zero, List.set_cons_succ]
        refine wpAnyH_done (by kernel_rfl) ?_ _
        exact hQ ba bb _ _ _ _ _ _ _ G_V10.out A_V10.out B_V10.out
    refine AllReadyH.cons (o := _) rfl (fun K hK => ?_) ?_
    · skip
      obtain ⟨ba, hba⟩ : ∃ b, b = V1.heap.size := ⟨_, rfl⟩
      obtain ⟨V11, hV11⟩ : ∃ Y, Y = V1.alloc (.cells #[.int .i64 0, .int .i64 0, .int .i64 0, .int .i64 0, .int .i64 0, .int .i64 0, .int .i64 0, .int .i64 0, .int .i64 0, .int .i64 0] 24) := ⟨_, rfl⟩
      have G_V11 := Lib.hid (show W12.grownBy V11 none from by rw [hV11]; exact only_alloc G_V1.out _)
      have A_V11 := Lib.hid (show Blk V11 ba 24 #[.int .i64 0, .int .i64 0, .int .i64 0, .int .i64 0, .int .i64 0, .int .i64 0, .int .i64 0, .int .i64 0, .int .i64 0, .int .i64 0] from by rw [hV11, hba]; exact Blk.new _ _ _)
      have AL := Lib.hid (show W12.heap.size ≤ ba from by rw [hba]; exact G_V1.out.size)
      go_simp
      rw [← hV11, ← hba]
      clear hV11 hba
      refine hK.out _ _ (Cu.s16 HZ.out G_V11.out) (fun hHeld => ?_)
      clear hK K
      try simp only [Act.put, List.setIfInBounds_toArray, List.set_cons_zero, List.set_cons_succ]
      refine wpAnyH_ready (rs := [5, 7]) (by kernel_rfl) (by simp) ?_
      refine AllReadyH.cons (o := _) rfl (fun K hK => ?_) ?_
      · skip
        go_simp
        go_at_call 18
        (with_reducible refine (HWA.out _).mono ?_)
        rintro eV12 V12 ⟨rfl, g_V12⟩
        have G_V12 := Lib.hid (only_trans G_V11.out g_V12)
        have A_V12 := Lib.hid (A_V11.out.only g_V12 (by simp))
        clear g_V12
        refine hK.out _ _ (Cu.s16 HZ.out G_V12.out) (fun hHeld => ?_)
        clear hK K
        try simp only [Act.put, List.setIfInBounds_toArray, List.set_cons_zero, List.set_cons_succ]
        refine wpAnyH_ready (rs := [7]) (by kernel_rfl) (by simp) ?_
        refine AllReadyH.cons (o := _) rfl (fun K hK => ?_) AllReadyH.nil
        obtain ⟨bb, hbb⟩ : ∃ b, b = V12.heap.size := ⟨_, rfl⟩
        obtain ⟨V13, hV13⟩ : ∃ Y, Y = V12.alloc (.cells #[.int .i64 0, .int .i64 0, .int .i64 0, .int .i64 0, .int .i64 0, .int .i64 0, .int .i64 0, .int .i64 0, .int .i64 0, .int .i64 0] 24) := ⟨_, rfl⟩
        have G_V13 := Lib.hid (show W12.grownBy V13 none from by rw [hV13]; exact only_alloc G_V12.out _)
        have B_V13 := Lib.hid (show Blk V13 bb 24 #[.int .i64 0, .int .i64 0, .int .i64 0, .int .i64 0, .int .i64 0, .int .i64 0, .int .i64 0, .int .i64 0, .int .i64 0, .int .i64 0] from by rw [hV13, hbb]; exact Blk.new _ _ _)
        have BL := Lib.hid (show W12.heap.size ≤ bb from by rw [hbb]; exact G_V12.out.size)
        have A_V13 := Lib.hid (show Blk V13 ba 24 #[.int .i64 0, .int .i64 0, .int .i64 0, .int .i64 0, .int .i64 0, .int .i64 0, .int .i64 0, .int .i64 0, .int .i64 0, .int .i64 0] from by rw [hV13]; exact A_V12.out.alloc _)
        have NE := Lib.hid (show ba ≠ bb from by have := A_V12.out.lt; omega)
        go_simp
        rw [← hV13, ← hbb]
        clear hV13 hbb
        refine hK.out _ _ (Cu.s16 HZ.out G_V13.out) (fun hHeld => ?_)
        clear hK K
        try simp only [Act.put, List.setIfInBounds_toArray, List.set_cons_zero, List.set_cons_succ]
        focus
          refine wpAnyH_ready (rs := [8]) (by kernel_rfl) (by simp) ?_
          refine AllReadyH.cons (o := _) rfl (fun K hK => ?_) AllReadyH.nil
          obtain ⟨q0, q1, q2, q3, q4, q5, q6, q7, q8, q9⟩ := Cu.cells10 A_V13.out
          obtain ⟨r0, r1, r2, r3, r4, r5, r6, r7, r8, r9⟩ := Cu.free10 A_V13.out
          obtain ⟨V14, hV14⟩ : ∃ Y, Y = ((((((((((V13.setCell ⟨ba, 0, none⟩ (.int .i64 ((Cu.gave (f (J)) x n)).pc)).setCell ⟨ba, 1, none⟩ (.int .i64 (((Cu.gave (f (J)) x n)).r 0))).setCell ⟨ba, 2, none⟩ (.int .i64 (((Cu.gave (f (J)) x n)).r 1))).setCell ⟨ba, 3, none⟩ (.int .i64 (((Cu.gave (f (J)) x n)).r 2))).setCell ⟨ba, 4, none⟩ (.int .i64 (((Cu.gave (f (J)) x n)).r 3))).setCell ⟨ba, 5, none⟩ (.int .i64 (((Cu.gave (f (J)) x n)).r 4))).setCell ⟨ba, 6, none⟩ (.int .i64 (((Cu.gave (f (J)) x n)).r 5))).setCell ⟨ba, 7, none⟩ (.int .i64 (((Cu.gave (f (J)) x n)).r 6))).setCell ⟨ba, 8, none⟩ (.int .i64 (((Cu.gave (f (J)) x n)).r 7))).setCell ⟨ba, 9, none⟩ (.int .i64 ((Cu.gave (f (J)) x n)).md)) := ⟨_, rfl⟩
          have hq := Cu.put10z A_V13.out (.int .i64 ((Cu.gave (f (J)) x n)).pc) (.int .i64 (((Cu.gave (f (J)) x n)).r 0)) (.int .i64 (((Cu.gave (f (J)) x n)).r 1)) (.int .i64 (((Cu.gave (f (J)) x n)).r 2)) (.int .i64 (((Cu.gave (f (J)) x n)).r 3)) (.int .i64 (((Cu.gave (f (J)) x n)).r 4)) (.int .i64 (((Cu.gave (f (J)) x n)).r 5)) (.int .i64 (((Cu.gave (f (J)) x n)).r 6)) (.int .i64 (((Cu.gave (f (J)) x n)).r 7)) (.int .i64 ((Cu.gave (f (J)) x n)).md) _ hV14
          have G_V14 := Lib.hid (Cu.grow_new G_V13.out hq.2 AL.out)
          have A_V14 := Lib.hid hq.1
          have B_V14 := Lib.hid (B_V13.out.only hq.2 (fun e => by injection e with e; exact NE.out e.symm))
          clear hq
          go_simp
          rw [← hV14]
          clear hV14 q0 q1 q2 q3 q4 q5 q6 q7 q8 q9 r0 r1 r2 r3 r4 r5 r6 r7 r8 r9
          refine hK.out _ _ (Cu.s16 HZ.out G_V14.out) (fun hHeld => ?_)
          clear hK K
          try simp only [Act.put, List.setIfInBounds_toArray, List.set_cons_zero, List.set_cons_succ]
          refine wpAnyH_ready (rs := [9]) (by kernel_rfl) (by simp) ?_
          refine AllReadyH.cons (o := _) rfl (fun K hK => ?_) AllReadyH.nil
          obtain ⟨q0, q1, q2, q3, q4, q5, q6, q7, q8, q9⟩ := Cu.cells10 B_V14.out
          obtain ⟨r0, r1, r2, r3, r4, r5, r6, r7, r8, r9⟩ := Cu.free10 B_V14.out
          obtain ⟨V15, hV15⟩ : ∃ Y, Y = ((((((((((V14.setCell ⟨bb, 0, none⟩ (.int .i64 ((Cu.woke (f (J)))).pc)).setCell ⟨bb, 1, none⟩ (.int .i64 (((Cu.woke (f (J)))).r 0))).setCell ⟨bb, 2, none⟩ (.int .i64 (((Cu.woke (f (J)))).r 1))).setCell ⟨bb, 3, none⟩ (.int .i64 (((Cu.woke (f (J)))).r 2))).setCell ⟨bb, 4, none⟩ (.int .i64 (((Cu.woke (f (J)))).r 3))).setCell ⟨bb, 5, none⟩ (.int .i64 (((Cu.woke (f (J)))).r 4))).setCell ⟨bb, 6, none⟩ (.int .i64 (((Cu.woke (f (J)))).r 5))).setCell ⟨bb, 7, none⟩ (.int .i64 (((Cu.woke (f (J)))).r 6))).setCell ⟨bb, 8, none⟩ (.int .i64 (((Cu.woke (f (J)))).r 7))).setCell ⟨bb, 9, none⟩ (.int .i64 ((Cu.woke (f (J)))).md)) := ⟨_, rfl⟩
          have hq := Cu.put10z B_V14.out (.int .i64 ((Cu.woke (f (J)))).pc) (.int .i64 (((Cu.woke (f (J)))).r 0)) (.int .i64 (((Cu.woke (f (J)))).r 1)) (.int .i64 (((Cu.woke (f (J)))).r 2)) (.int .i64 (((Cu.woke (f (J)))).r 3)) (.int .i64 (((Cu.woke (f (J)))).r 4)) (.int .i64 (((Cu.woke (f (J)))).r 5)) (.int .i64 (((Cu.woke (f (J)))).r 6)) (.int .i64 (((Cu.woke (f (J)))).r 7)) (.int .i64 ((Cu.woke (f (J)))).md) _ hV15
          have G_V15 := Lib.hid (Cu.grow_new G_V14.out hq.2 BL.out)
          have B_V15 := Lib.hid hq.1
          have A_V15 := Lib.hid (A_V14.out.only hq.2 (fun e => by injection e with e; exact NE.out e))
          clear hq
          go_simp
          rw [← hV15]
          clear hV15 q0 q1 q2 q3 q4 q5 q6 q7 q8 q9 r0 r1 r2 r3 r4 r5 r6 r7 r8 r9
          refine hK.out _ _ (Cu.s16 HZ.out G_V15.out) (fun hHeld => ?_)
          clear hK K
          try simp only [Act.put, List.setIfInBounds_toArray, List.set_cons_zero, List.set_cons_succ]
          refine wpAnyH_done (by kernel_rfl) ?_ _
          exact hQ ba bb _ _ _ _ _ _ _ G_V15.out A_V15.out B_V15.out
      refine AllReadyH.cons (o := _) rfl (fun K hK => ?_) AllReadyH.nil
      obtain ⟨bb, hbb⟩ : ∃ b, b = V11.heap.size := ⟨_, rfl⟩
      obtain ⟨V16, hV16⟩ : ∃ Y, Y = V11.alloc (.cells #[.int .i64 0, .int .i64 0, .int .i64 0, .int .i64 0, .int .i64 0, .int .i64 0, .int .i64 0, .int .i64 0, .int .i64 0, .int .i64 0] 24) := ⟨_, rfl⟩
      have G_V16 := Lib.hid (show W12.grownBy V16 none from by rw [hV16]; exact only_alloc G_V11.out _)
      have B_V16 := Lib.hid (show Blk V16 bb 24 #[.int .i64 0, .int .i64 0, .int .i64 0, .int .i64 0, .int .i64 0, .int .i64 0, .int .i64 0, .int .i64 0, .int .i64 0, .int .i64 0] from by rw [hV16, hbb]; exact Blk.new _ _ _)
      have BL := Lib.hid (show W12.heap.size ≤ bb from by rw [hbb]; exact G_V11.out.size)
      have A_V16 := Lib.hid (show Blk V16 ba 24 #[.int .i64 0, .int .i64 0, .int .i64 0, .int .i64 0, .int .i64 0, .int .i64 0, .int .i64 0, .int .i64 0, .int .i64 0, .int .i64 0] from by rw [hV16]; exact A_V11.out.alloc _)
      have NE := Lib.hid (show ba ≠ bb from by have := A_V11.out.lt; omega)
      go_simp
      rw [← hV16, ← hbb]
      clear hV16 hbb
      refine hK.out _ _ (Cu.s16 HZ.out G_V16.out) (fun hHeld => ?_)
      clear hK K
      try simp only [Act.put, List.setIfInBounds_toArray, List.set_cons_zero, List.set_cons_succ]
      refine wpAnyH_ready (rs := [5]) (by kernel_rfl) (by simp) ?_
      refine AllReadyH.cons (o := _) rfl (fun K hK => ?_) AllReadyH.nil
      go_simp
      go_at_call 18
      (with_reducible refine (HWA.out _).mono ?_)
      rintro eV17 V17 ⟨rfl, g_V17⟩
      have G_V17 := Lib.hid (only_trans G_V16.out g_V17)
      have A_V17 := Lib.hid (A_V16.out.only g_V17 (by simp))
      have B_V17 := Lib.hid (B_V16.out.only g_V17 (by simp))
      clear g_V17
      refine hK.out _ _ (Cu.s16 HZ.out G_V17.out) (fun hHeld => ?_)
      clear hK K
      try simp only [Act.put, List.setIfInBounds_toArray, List.set_cons_zero, List.set_cons_succ]
      focus
        refine wpAnyH_ready (rs := [8]) (by kernel_rfl) (by simp) ?_
        refine AllReadyH.cons (o := _) rfl (fun K hK => ?_) AllReadyH.nil
        obtain ⟨q0, q1, q2, q3, q4, q5, q6, q7, q8, q9⟩ := Cu.cells10 A_V17.out
        obtain ⟨r0, r1, r2, r3, r4, r5, r6, r7, r8, r9⟩ := Cu.free10 A_V17.out
        obtain ⟨V18, hV18⟩ : ∃ Y, Y = ((((((((((V17.setCell ⟨ba, 0, none⟩ (.int .i64 ((Cu.gave (f (J)) x n)).pc)).setCell ⟨ba, 1, none⟩ (.int .i64 (((Cu.gave (f (J)) x n)).r 0))).setCell ⟨ba, 2, none⟩ (.int .i64 (((Cu.gave (f (J)) x n)).r 1))).setCell ⟨ba, 3, none⟩ (.int .i64 (((Cu.gave (f (J)) x n)).r 2))).setCell ⟨ba, 4, none⟩ (.int .i64 (((Cu.gave (f (J)) x n)).r 3))).setCell ⟨ba, 5, none⟩ (.int .i64 (((Cu.gave (f (J)) x n)).r 4))).setCell ⟨ba, 6, none⟩ (.int .i64 (((Cu.gave (f (J)) x n)).r 5))).setCell ⟨ba, 7, none⟩ (.int .i64 (((Cu.gave (f (J)) x n)).r 6))).setCell ⟨ba, 8, none⟩ (.int .i64 (((Cu.gave (f (J)) x n)).r 7))).setCell ⟨ba, 9, none⟩ (.int .i64 ((Cu.gave (f (J)) x n)).md)) := ⟨_, rfl⟩
        have hq := Cu.put10z A_V17.out (.int .i64 ((Cu.gave (f (J)) x n)).pc) (.int .i64 (((Cu.gave (f (J)) x n)).r 0)) (.int .i64 (((Cu.gave (f (J)) x n)).r 1)) (.int .i64 (((Cu.gave (f (J)) x n)).r 2)) (.int .i64 (((Cu.gave (f (J)) x n)).r 3)) (.int .i64 (((Cu.gave (f (J)) x n)).r 4)) (.int .i64 (((Cu.gave (f (J)) x n)).r 5)) (.int .i64 (((Cu.gave (f (J)) x n)).r 6)) (.int .i64 (((Cu.gave (f (J)) x n)).r 7)) (.int .i64 ((Cu.gave (f (J)) x n)).md) _ hV18
        have G_V18 := Lib.hid (Cu.grow_new G_V17.out hq.2 AL.out)
        have A_V18 := Lib.hid hq.1
        have B_V18 := Lib.hid (B_V17.out.only hq.2 (fun e => by injection e with e; exact NE.out e.symm))
        clear hq
        go_simp
        rw [← hV18]
        clear hV18 q0 q1 q2 q3 q4 q5 q6 q7 q8 q9 r0 r1 r2 r3 r4 r5 r6 r7 r8 r9
        refine hK.out _ _ (Cu.s16 HZ.out G_V18.out) (fun hHeld => ?_)
        clear hK K
        try simp only [Act.put, List.setIfInBounds_toArray, List.set_cons_zero, List.set_cons_succ]
        refine wpAnyH_ready (rs := [9]) (by kernel_rfl) (by simp) ?_
        refine AllReadyH.cons (o := _) rfl (fun K hK => ?_) AllReadyH.nil
        obtain ⟨q0, q1, q2, q3, q4, q5, q6, q7, q8, q9⟩ := Cu.cells10 B_V18.out
        obtain ⟨r0, r1, r2, r3, r4, r5, r6, r7, r8, r9⟩ := Cu.free10 B_V18.out
        obtain ⟨V19, hV19⟩ : ∃ Y, Y = ((((((((((V18.setCell ⟨bb, 0, none⟩ (.int .i64 ((Cu.woke (f (J)))).pc)).setCell ⟨bb, 1, none⟩ (.int .i64 (((Cu.woke (f (J)))).r 0))).setCell ⟨bb, 2, none⟩ (.int .i64 (((Cu.woke (f (J)))).r 1))).setCell ⟨bb, 3, none⟩ (.int .i64 (((Cu.woke (f (J)))).r 2))).setCell ⟨bb, 4, none⟩ (.int .i64 (((Cu.woke (f (J)))).r 3))).setCell ⟨bb, 5, none⟩ (.int .i64 (((Cu.woke (f (J)))).r 4))).setCell ⟨bb, 6, none⟩ (.int .i64 (((Cu.woke (f (J)))).r 5))).setCell ⟨bb, 7, none⟩ (.int .i64 (((Cu.woke (f (J)))).r 6))).setCell ⟨bb, 8, none⟩ (.int .i64 (((Cu.woke (f (J)))).r 7))).setCell ⟨bb, 9, none⟩ (.int .i64 ((Cu.woke (f (J)))).md)) := ⟨_, rfl⟩
        have hq := Cu.put10z B_V18.out (.int .i64 ((Cu.woke (f (J)))).pc) (.int .i64 (((Cu.woke (f (J)))).r 0)) (.int .i64 (((Cu.woke (f (J)))).r 1)) (.int .i64 (((Cu.woke (f (J)))).r 2)) (.int .i64 (((Cu.woke (f (J)))).r 3)) (.int .i64 (((Cu.woke (f (J)))).r 4)) (.int .i64 (((Cu.woke (f (J)))).r 5)) (.int .i64 (((Cu.woke (f (J)))).r 6)) (.int .i64 (((Cu.woke (f (J)))).r 7)) (.int .i64 ((Cu.woke (f (J)))).md) _ hV19
        have G_V19 := Lib.hid (Cu.grow_new G_V18.out hq.2 BL.out)
        have B_V19 := Lib.hid hq.1
        have A_V19 := Lib.hid (A_V18.out.only hq.2 (fun e => by injection e with e; exact NE.out e))
        clear hq
        go_simp
        rw [← hV19]
        clear hV19 q0 q1 q2 q3 q4 q5 q6 q7 q8 q9 r0 r1 r2 r3 r4 r5 r6 r7 r8 r9
        refine hK.out _ _ (Cu.s16 HZ.out G_V19.out) (fun hHeld => ?_)
        clear hK K
        try simp only [Act.put, List.setIfInBounds_toArray, List.set_cons_zero, List.set_cons_succ]
        refine wpAnyH_done (by kernel_rfl) ?_ _
        exact hQ ba bb _ _ _ _ _ _ _ G_V19.out A_V19.out B_V19.out
    refine AllReadyH.cons (o := _) rfl (fun K hK => ?_) AllReadyH.nil
    obtain ⟨bb, hbb⟩ : ∃ b, b = V1.heap.size := ⟨_, rfl⟩
    obtain ⟨V20, hV20⟩ : ∃ Y, Y = V1.alloc (.cells #[.int .i64 0, .int .i64 0, .int .i64 0, .int .i64 0, .int .i64 0, .int .i64 0, .int .i64 0, .int .i64 0, .int .i64 0, .int .i64 0] 24) := ⟨_, rfl⟩
    have G_V20 := Lib.hid (show W12.grownBy V20 none from by rw [hV20]; exact only_alloc G_V1.out _)
    have B_V20 := Lib.hid (show Blk V20 bb 24 #[.int .i64 0, .int .i64 0, .int .i64 0, .int .i64 0, .int .i64 0, .int .i64 0, .int .i64 0, .int .i64 0, .int .i64 0, .int .i64 0] from by rw [hV20, hbb]; exact Blk.new _ _ _)
    have BL := Lib.hid (show W12.heap.size ≤ bb from by rw [hbb]; exact G_V1.out.size)
    go_simp
    rw [← hV20, ← hbb]
    clear hV20 hbb
    refine hK.out _ _ (Cu.s16 HZ.out G_V20.out) (fun hHeld => ?_)
    clear hK K
    try simp only [Act.put, List.setIfInBounds_toArray, List.set_cons_zero, List.set_cons_succ]
    refine wpAnyH_ready (rs := [5, 6]) (by kernel_rfl) (by simp) ?_
    refine AllReadyH.cons (o := _) rfl (fun K hK => ?_) ?_
    · skip
      go_simp
      go_at_call 18
      (with_reducible refine (HWA.out _).mono ?_)
      rintro eV21 V21 ⟨rfl, g_V21⟩
      have G_V21 := Lib.hid (only_trans G_V20.out g_V21)
      have B_V21 := Lib.hid (B_V20.out.only g_V21 (by simp))
      clear g_V21
      refine hK.out _ _ (Cu.s16 HZ.out G_V21.out) (fun hHeld => ?_)
      clear hK K
      try simp only [Act.put, List.setIfInBounds_toArray, List.set_cons_zero, List.set_cons_succ]
      refine wpAnyH_ready (rs := [6]) (by kernel_rfl) (by simp) ?_
      refine AllReadyH.cons (o := _) rfl (fun K hK => ?_) AllReadyH.nil
      obtain ⟨ba, hba⟩ : ∃ b, b = V21.heap.size := ⟨_, rfl⟩
      obtain ⟨V22, hV22⟩ : ∃ Y, Y = V21.alloc (.cells #[.int .i64 0, .int .i64 0, .int .i64 0, .int .i64 0, .int .i64 0, .int .i64 0, .int .i64 0, .int .i64 0, .int .i64 0, .int .i64 0] 24) := ⟨_, rfl⟩
      have G_V22 := Lib.hid (show W12.grownBy V22 none from by rw [hV22]; exact only_alloc G_V21.out _)
      have A_V22 := Lib.hid (show Blk V22 ba 24 #[.int .i64 0, .int .i64 0, .int .i64 0, .int .i64 0, .int .i64 0, .int .i64 0, .int .i64 0, .int .i64 0, .int .i64 0, .int .i64 0] from by rw [hV22, hba]; exact Blk.new _ _ _)
      have AL := Lib.hid (show W12.heap.size ≤ ba from by rw [hba]; exact G_V21.out.size)
      have B_V22 := Lib.hid (show Blk V22 bb 24 #[.int .i64 0, .int .i64 0, .int .i64 0, .int .i64 0, .int .i64 0, .int .i64 0, .int .i64 0, .int .i64 0, .int .i64 0, .int .i64 0] from by rw [hV22]; exact B_V21.out.alloc _)
      have NE := Lib.hid (show ba ≠ bb from by have := B_V21.out.lt; omega)
      go_simp
      rw [← hV22, ← hba]
      clear hV22 hba
      refine hK.out _ _ (Cu.s16 HZ.out G_V22.out) (fun hHeld => ?_)
      clear hK K
      try simp only [Act.put, List.setIfInBounds_toArray, List.set_cons_zero, List.set_cons_succ]
      focus
        refine wpAnyH_ready (rs := [8]) (by kernel_rfl) (by simp) ?_
        refine AllReadyH.cons (o := _) rfl (fun K hK => ?_) AllReadyH.nil
        obtain ⟨q0, q1, q2, q3, q4, q5, q6, q7, q8, q9⟩ := Cu.cells10 A_V22.out
        obtain ⟨r0, r1, r2, r3, r4, r5, r6, r7, r8, r9⟩ := Cu.free10 A_V22.out
        obtain ⟨V23, hV23⟩ : ∃ Y, Y = ((((((((((V22.setCell ⟨ba, 0, none⟩ (.int .i64 ((Cu.gave (f (J)) x n)).pc)).setCell ⟨ba, 1, none⟩ (.int .i64 (((Cu.gave (f (J)) x n)).r 0))).setCell ⟨ba, 2, none⟩ (.int .i64 (((Cu.gave (f (J)) x n)).r 1))).setCell ⟨ba, 3, none⟩ (.int .i64 (((Cu.gave (f (J)) x n)).r 2))).setCell ⟨ba, 4, none⟩ (.int .i64 (((Cu.gave (f (J)) x n)).r 3))).setCell ⟨ba, 5, none⟩ (.int .i64 (((Cu.gave (f (J)) x n)).r 4))).setCell ⟨ba, 6, none⟩ (.int .i64 (((Cu.gave (f (J)) x n)).r 5))).setCell ⟨ba, 7, none⟩ (.int .i64 (((Cu.gave (f (J)) x n)).r 6))).setCell ⟨ba, 8, none⟩ (.int .i64 (((Cu.gave (f (J)) x n)).r 7))).setCell ⟨ba, 9, none⟩ (.int .i64 ((Cu.gave (f (J)) x n)).md)) := ⟨_, rfl⟩
        have hq := Cu.put10z A_V22.out (.int .i64 ((Cu.gave (f (J)) x n)).pc) (.int .i64 (((Cu.gave (f (J)) x n)).r 0)) (.int .i64 (((Cu.gave (f (J)) x n)).r 1)) (.int .i64 (((Cu.gave (f (J)) x n)).r 2)) (.int .i64 (((Cu.gave (f (J)) x n)).r 3)) (.int .i64 (((Cu.gave (f (J)) x n)).r 4)) (.int .i64 (((Cu.gave (f (J)) x n)).r 5)) (.int .i64 (((Cu.gave (f (J)) x n)).r 6)) (.int .i64 (((Cu.gave (f (J)) x n)).r 7)) (.int .i64 ((Cu.gave (f (J)) x n)).md) _ hV23
        have G_V23 := Lib.hid (Cu.grow_new G_V22.out hq.2 AL.out)
        have A_V23 := Lib.hid hq.1
        have B_V23 := Lib.hid (B_V22.out.only hq.2 (fun e => by injection e with e; exact NE.out e.symm))
        clear hq
        go_simp
        rw [← hV23]
        clear hV23 q0 q1 q2 q3 q4 q5 q6 q7 q8 q9 r0 r1 r2 r3 r4 r5 r6 r7 r8 r9
        refine hK.out _ _ (Cu.s16 HZ.out G_V23.out) (fun hHeld => ?_)
        clear hK K
        try simp only [Act.put, List.setIfInBounds_toArray, List.set_cons_zero, List.set_cons_succ]
        refine wpAnyH_ready (rs := [9]) (by kernel_rfl) (by simp) ?_
        refine AllReadyH.cons (o := _) rfl (fun K hK => ?_) AllReadyH.nil
        obtain ⟨q0, q1, q2, q3, q4, q5, q6, q7, q8, q9⟩ := Cu.cells10 B_V23.out
        obtain ⟨r0, r1, r2, r3, r4, r5, r6, r7, r8, r9⟩ := Cu.free10 B_V23.out
        obtain ⟨V24, hV24⟩ : ∃ Y, Y = ((((((((((V23.setCell ⟨bb, 0, none⟩ (.int .i64 ((Cu.woke (f (J)))).pc)).setCell ⟨bb, 1, none⟩ (.int .i64 (((Cu.woke (f (J)))).r 0))).setCell ⟨bb, 2, none⟩ (.int .i64 (((Cu.woke (f (J)))).r 1))).setCell ⟨bb, 3, none⟩ (.int .i64 (((Cu.woke (f (J)))).r 2))).setCell ⟨bb, 4, none⟩ (.int .i64 (((Cu.woke (f (J)))).r 3))).setCell ⟨bb, 5, none⟩ (.int .i64 (((Cu.woke (f (J)))).r 4))).setCell ⟨bb, 6, none⟩ (.int .i64 (((Cu.woke (f (J)))).r 5))).setCell ⟨bb, 7, none⟩ (.int .i64 (((Cu.woke (f (J)))).r 6))).setCell ⟨bb, 8, none⟩ (.int .i64 (((Cu.woke (f (J)))).r 7))).setCell ⟨bb, 9, none⟩ (.int .i64 ((Cu.woke (f (J)))).md)) := ⟨_, rfl⟩
        have hq := Cu.put10z B_V23.out (.int .i64 ((Cu.woke (f (J)))).pc) (.int .i64 (((Cu.woke (f (J)))).r 0)) (.int .i64 (((Cu.woke (f (J)))).r 1)) (.int .i64 (((Cu.woke (f (J)))).r 2)) (.int .i64 (((Cu.woke (f (J)))).r 3)) (.int .i64 (((Cu.woke (f (J)))).r 4)) (.int .i64 (((Cu.woke (f (J)))).r 5)) (.int .i64 (((Cu.woke (f (J)))).r 6)) (.int .i64 (((Cu.woke (f (J)))).r 7)) (.int .i64 ((Cu.woke (f (J)))).md) _ hV24
        have G_V24 := Lib.hid (Cu.grow_new G_V23.out hq.2 BL.out)
        have B_V24 := Lib.hid hq.1
        have A_V24 := Lib.hid (A_V23.out.only hq.2 (fun e => by injection e with e; exact NE.out e))
        clear hq
        go_simp
        rw [← hV24]
        clear hV24 q0 q1 q2 q3 q4 q5 q6 q7 q8 q9 r0 r1 r2 r3 r4 r5 r6 r7 r8 r9
        refine hK.out _ _ (Cu.s16 HZ.out G_V24.out) (fun hHeld => ?_)
        clear hK K
        try simp only [Act.put, List.setIfInBounds_toArray, List.set_cons_zero, List.set_cons_succ]
        refine wpAnyH_done (by kernel_rfl) ?_ _
        exact hQ ba bb _ _ _ _ _ _ _ G_V24.out A_V24.out B_V24.out
    refine AllReadyH.cons (o := _) rfl (fun K hK => ?_) AllReadyH.nil
    obtain ⟨ba, hba⟩ : ∃ b, b = V20.heap.size := ⟨_, rfl⟩
    obtain ⟨V25, hV25⟩ : ∃ Y, Y = V20.alloc (.cells #[.int .i64 0, .int .i64 0, .int .i64 0, .int .i64 0, .int .i64 0, .int .i64 0, .int .i64 0, .int .i64 0, .int .i64 0, .int .i64 0] 24) := ⟨_, rfl⟩
    have G_V25 := Lib.hid (show W12.grownBy V25 none from by rw [hV25]; exact only_alloc G_V20.out _)
    have A_V25 := Lib.hid (show Blk V25 ba 24 #[.int .i64 0, .int .i64 0, .int .i64 0, .int .i64 0, .int .i64 0, .int .i64 0, .int .i64 0, .int .i64 0, .int .i64 0, .int .i64 0] from by rw [hV25, hba]; exact Blk.new _ _ _)
    have AL := Lib.hid (show W12.heap.size ≤ ba from by rw [hba]; exact G_V20.out.size)
    have B_V25 := Lib.hid (show Blk V25 bb 24 #[.int .i64 0, .int .i64 0, .int .i64 0, .int .i64 0, .int .i64 0, .int .i64 0, .int .i64 0, .int .i64 0, .int .i64 0, .int .i64 0] from by rw [hV25]; exact B_V20.out.alloc _)
    have NE := Lib.hid (show ba ≠ bb from by have := B_V20.out.lt; omega)
    go_simp
    rw [← hV25, ← hba]
    clear hV25 hba
    refine hK.out _ _ (Cu.s16 HZ.out G_V25.out) (fun hHeld => ?_)
    clear hK K
    try simp only [Act.put, List.setIfInBounds_toArray, List.set_cons_zero, List.set_cons_succ]
    refine wpAnyH_ready (rs := [5]) (by kernel_rfl) (by simp) ?_
    refine AllReadyH.cons (o := _) rfl (fun K hK => ?_) AllReadyH.nil
    go_simp
    go_at_call 18
    (with_reducible refine (HWA.out _).mono ?_)
    rintro eV26 V26 ⟨rfl, g_V26⟩
    have G_V26 := Lib.hid (only_trans G_V25.out g_V26)
    have A_V26 := Lib.hid (A_V25.out.only g_V26 (by simp))
    have B_V26 := Lib.hid (B_V25.out.only g_V26 (by simp))
    clear g_V26
    refine hK.out _ _ (Cu.s16 HZ.out G_V26.out) (fun hHeld => ?_)
    clear hK K
    try simp only [Act.put, List.setIfInBounds_toArray, List.set_cons_zero, List.set_cons_succ]
    focus
      refine wpAnyH_ready (rs := [8]) (by kernel_rfl) (by simp) ?_
      refine AllReadyH.cons (o := _) rfl (fun K hK => ?_) AllReadyH.nil
      obtain ⟨q0, q1, q2, q3, q4, q5, q6, q7, q8, q9⟩ := Cu.cells10 A_V26.out
      obtain ⟨r0, r1, r2, r3, r4, r5, r6, r7, r8, r9⟩ := Cu.free10 A_V26.out
      obtain ⟨V27, hV27⟩ : ∃ Y, Y = ((((((((((V26.setCell ⟨ba, 0, none⟩ (.int .i64 ((Cu.gave (f (J)) x n)).pc)).setCell ⟨ba, 1, none⟩ (.int .i64 (((Cu.gave (f (J)) x n)).r 0))).setCell ⟨ba, 2, none⟩ (.int .i64 (((Cu.gave (f (J)) x n)).r 1))).setCell ⟨ba, 3, none⟩ (.int .i64 (((Cu.gave (f (J)) x n)).r 2))).setCell ⟨ba, 4, none⟩ (.int .i64 (((Cu.gave (f (J)) x n)).r 3))).setCell ⟨ba, 5, none⟩ (.int .i64 (((Cu.gave (f (J)) x n)).r 4))).setCell ⟨ba, 6, none⟩ (.int .i64 (((Cu.gave (f (J)) x n)).r 5))).setCell ⟨ba, 7, none⟩ (.int .i64 (((Cu.gave (f (J)) x n)).r 6))).setCell ⟨ba, 8, none⟩ (.int .i64 (((Cu.gave (f (J)) x n)).r 7))).setCell ⟨ba, 9, none⟩ (.int .i64 ((Cu.gave (f (J)) x n)).md)) := ⟨_, rfl⟩
      have hq := Cu.put10z A_V26.out (.int .i64 ((Cu.gave (f (J)) x n)).pc) (.int .i64 (((Cu.gave (f (J)) x n)).r 0)) (.int .i64 (((Cu.gave (f (J)) x n)).r 1)) (.int .i64 (((Cu.gave (f (J)) x n)).r 2)) (.int .i64 (((Cu.gave (f (J)) x n)).r 3)) (.int .i64 (((Cu.gave (f (J)) x n)).r 4)) (.int .i64 (((Cu.gave (f (J)) x n)).r 5)) (.int .i64 (((Cu.gave (f (J)) x n)).r 6)) (.int .i64 (((Cu.gave (f (J)) x n)).r 7)) (.int .i64 ((Cu.gave (f (J)) x n)).md) _ hV27
      have G_V27 := Lib.hid (Cu.grow_new G_V26.out hq.2 AL.out)
      have A_V27 := Lib.hid hq.1
      have B_V27 := Lib.hid (B_V26.out.only hq.2 (fun e => by injection e with e; exact NE.out e.symm))
      clear hq
      go_simp
      rw [← hV27]
      clear hV27 q0 q1 q2 q3 q4 q5 q6 q7 q8 q9 r0 r1 r2 r3 r4 r5 r6 r7 r8 r9
      refine hK.out _ _ (Cu.s16 HZ.out G_V27.out) (fun hHeld => ?_)
      clear hK K
      try simp only [Act.put, List.setIfInBounds_toArray, List.set_cons_zero, List.set_cons_succ]
      refine wpAnyH_ready (rs := [9]) (by kernel_rfl) (by simp) ?_
      refine AllReadyH.cons (o := _) rfl (fun K hK => ?_) AllReadyH.nil
      obtain ⟨q0, q1, q2, q3, q4, q5, q6, q7, q8, q9⟩ := Cu.cells10 B_V27.out
      obtain ⟨r0, r1, r2, r3, r4, r5, r6, r7, r8, r9⟩ := Cu.free10 B_V27.out
      obtain ⟨V28, hV28⟩ : ∃ Y, Y = ((((((((((V27.setCell ⟨bb, 0, none⟩ (.int .i64 ((Cu.woke (f (J)))).pc)).setCell ⟨bb, 1, none⟩ (.int .i64 (((Cu.woke (f (J)))).r 0))).setCell ⟨bb, 2, none⟩ (.int .i64 (((Cu.woke (f (J)))).r 1))).setCell ⟨bb, 3, none⟩ (.int .i64 (((Cu.woke (f (J)))).r 2))).setCell ⟨bb, 4, none⟩ (.int .i64 (((Cu.woke (f (J)))).r 3))).setCell ⟨bb, 5, none⟩ (.int .i64 (((Cu.woke (f (J)))).r 4))).setCell ⟨bb, 6, none⟩ (.int .i64 (((Cu.woke (f (J)))).r 5))).setCell ⟨bb, 7, none⟩ (.int .i64 (((Cu.woke (f (J)))).r 6))).setCell ⟨bb, 8, none⟩ (.int .i64 (((Cu.woke (f (J)))).r 7))).setCell ⟨bb, 9, none⟩ (.int .i64 ((Cu.woke (f (J)))).md)) := ⟨_, rfl⟩
      have hq := Cu.put10z B_V27.out (.int .i64 ((Cu.woke (f (J)))).pc) (.int .i64 (((Cu.woke (f (J)))).r 0)) (.int .i64 (((Cu.woke (f (J)))).r 1)) (.int .i64 (((Cu.woke (f (J)))).r 2)) (.int .i64 (((Cu.woke (f (J)))).r 3)) (.int .i64 (((Cu.woke (f (J)))).r 4)) (.int .i64 (((Cu.woke (f (J)))).r 5)) (.int .i64 (((Cu.woke (f (J)))).r 6)) (.int .i64 (((Cu.woke (f (J)))).r 7)) (.int .i64 ((Cu.woke (f (J)))).md) _ hV28
      have G_V28 := Lib.hid (Cu.grow_new G_V27.out hq.2 BL.out)
      have B_V28 := Lib.hid hq.1
      have A_V28 := Lib.hid (A_V27.out.only hq.2 (fun e => by injection e with e; exact NE.out e))
      clear hq
      go_simp
      rw [← hV28]
      clear hV28 q0 q1 q2 q3 q4 q5 q6 q7 q8 q9 r0 r1 r2 r3 r4 r5 r6 r7 r8 r9
      refine hK.out _ _ (Cu.s16 HZ.out G_V28.out) (fun hHeld => ?_)
      clear hK K
      try simp only [Act.put, List.setIfInBounds_toArray, List.set_cons_zero, List.set_cons_succ]
      refine wpAnyH_done (by kernel_rfl) ?_ _
      exact hQ ba bb _ _ _ _ _ _ _ G_V28.out A_V28.out B_V28.out
  refine AllReadyH.cons (o := _) rfl (fun K hK => ?_) ?_
  · skip
    obtain ⟨ba, hba⟩ : ∃ b, b = V0.heap.size := ⟨_, rfl⟩
    obtain ⟨V29, hV29⟩ : ∃ Y, Y = V0.alloc (.cells #[.int .i64 0, .int .i64 0, .int .i64 0, .int .i64 0, .int .i64 0, .int .i64 0, .int .i64 0, .int .i64 0, .int .i64 0, .int .i64 0] 24) := ⟨_, rfl⟩
    have G_V29 := Lib.hid (show W12.grownBy V29 none from by rw [hV29]; exact only_alloc G_V0.out _)
    have A_V29 := Lib.hid (show Blk V29 ba 24 #[.int .i64 0, .int .i64 0, .int .i64 0, .int .i64 0, .int .i64 0, .int .i64 0, .int .i64 0, .int .i64 0, .int .i64 0, .int .i64 0] from by rw [hV29, hba]; exact Blk.new _ _ _)
    have AL := Lib.hid (show W12.heap.size ≤ ba from by rw [hba]; exact G_V0.out.size)
    go_simp
    rw [← hV29, ← hba]
    clear hV29 hba
    refine hK.out _ _ (Cu.s16 HZ.out G_V29.out) (fun hHeld => ?_)
    clear hK K
    try simp only [Act.put, List.setIfInBounds_toArray, List.set_cons_zero, List.set_cons_succ]
    refine wpAnyH_ready (rs := [3, 7]) (by kernel_rfl) (by simp) ?_
    refine AllReadyH.cons (o := _) rfl (fun K hK => ?_) ?_
    · skip
      go_simp
      go_at_call 17
      (with_reducible refine (HGI.out _).mono ?_)
      rintro eV30 V30 ⟨rfl, g_V30⟩
      have G_V30 := Lib.hid (only_trans G_V29.out g_V30)
      have A_V30 := Lib.hid (A_V29.out.only g_V30 (by simp))
      clear g_V30
      refine hK.out _ _ (Cu.s16 HZ.out G_V30.out) (fun hHeld => ?_)
      clear hK K
      try simp only [Act.put, List.setIfInBounds_toArray, List.set_cons_zero, List.set_cons_succ]
      refine wpAnyH_ready (rs := [5, 7]) (by kernel_rfl) (by simp) ?_
      refine AllReadyH.cons (o := _) rfl (fun K hK => ?_) ?_
      · skip
        go_simp
        go_at_call 18
        (with_reducible refine (HWA.out _).mono ?_)
        rintro eV31 V31 ⟨rfl, g_V31⟩
        have G_V31 := Lib.hid (only_trans G_V30.out g_V31)
        have A_V31 := Lib.hid (A_V30.out.only g_V31 (by simp))
        clear g_V31
        refine hK.out _ _ (Cu.s16 HZ.out G_V31.out) (fun hHeld => ?_)
        clear hK K
        try simp only [Act.put, List.setIfInBounds_toArray, List.set_cons_zero, List.set_cons_succ]
        refine wpAnyH_ready (rs := [7]) (by kernel_rfl) (by simp) ?_
        refine AllReadyH.cons (o := _) rfl (fun K hK => ?_) AllReadyH.nil
        obtain ⟨bb, hbb⟩ : ∃ b, b = V31.heap.size := ⟨_, rfl⟩
        obtain ⟨V32, hV32⟩ : ∃ Y, Y = V31.alloc (.cells #[.int .i64 0, .int .i64 0, .int .i64 0, .int .i64 0, .int .i64 0, .int .i64 0, .int .i64 0, .int .i64 0, .int .i64 0, .int .i64 0] 24) := ⟨_, rfl⟩
        have G_V32 := Lib.hid (show W12.grownBy V32 none from by rw [hV32]; exact only_alloc G_V31.out _)
        have B_V32 := Lib.hid (show Blk V32 bb 24 #[.int .i64 0, .int .i64 0, .int .i64 0, .int .i64 0, .int .i64 0, .int .i64 0, .int .i64 0, .int .i64 0, .int .i64 0, .int .i64 0] from by rw [hV32, hbb]; exact Blk.new _ _ _)
        have BL := Lib.hid (show W12.heap.size ≤ bb from by rw [hbb]; exact G_V31.out.size)
        have A_V32 := Lib.hid (show Blk V32 ba 24 #[.int .i64 0, .int .i64 0, .int .i64 0, .int .i64 0, .int .i64 0, .int .i64 0, .int .i64 0, .int .i64 0, .int .i64 0, .int .i64 0] from by rw [hV32]; exact A_V31.out.alloc _)
        have NE := Lib.hid (show ba ≠ bb from by have := A_V31.out.lt; omega)
        go_simp
        rw [← hV32, ← hbb]
        clear hV32 hbb
        refine hK.out _ _ (Cu.s16 HZ.out G_V32.out) (fun hHeld => ?_)
        clear hK K
        try simp only [Act.put, List.setIfInBounds_toArray, List.set_cons_zero, List.set_cons_succ]
        focus
          refine wpAnyH_ready (rs := [8]) (by kernel_rfl) (by simp) ?_
          refine AllReadyH.cons (o := _) rfl (fun K hK => ?_) AllReadyH.nil
          obtain ⟨q0, q1, q2, q3, q4, q5, q6, q7, q8, q9⟩ := Cu.cells10 A_V32.out
          obtain ⟨r0, r1, r2, r3, r4, r5, r6, r7, r8, r9⟩ := Cu.free10 A_V32.out
          obtain ⟨V33, hV33⟩ : ∃ Y, Y = ((((((((((V32.setCell ⟨ba, 0, none⟩ (.int .i64 ((Cu.gave (f (J)) x n)).pc)).setCell ⟨ba, 1, none⟩ (.int .i64 (((Cu.gave (f (J)) x n)).r 0))).setCell ⟨ba, 2, none⟩ (.int .i64 (((Cu.gave (f (J)) x n)).r 1))).setCell ⟨ba, 3, none⟩ (.int .i64 (((Cu.gave (f (J)) x n)).r 2))).setCell ⟨ba, 4, none⟩ (.int .i64 (((Cu.gave (f (J)) x n)).r 3))).setCell ⟨ba, 5, none⟩ (.int .i64 (((Cu.gave (f (J)) x n)).r 4))).setCell ⟨ba, 6, none⟩ (.int .i64 (((Cu.gave (f (J)) x n)).r 5))).setCell ⟨ba, 7, none⟩ (.int .i64 (((Cu.gave (f (J)) x n)).r 6))).setCell ⟨ba, 8, none⟩ (.int .i64 (((Cu.gave (f (J)) x n)).r 7))).setCell ⟨ba, 9, none⟩ (.int .i64 ((Cu.gave (f (J)) x n)).md)) := ⟨_, rfl⟩
          have hq := Cu.put10z A_V32.out (.int .i64 ((Cu.gave (f (J)) x n)).pc) (.int .i64 (((Cu.gave (f (J)) x n)).r 0)) (.int .i64 (((Cu.gave (f (J)) x n)).r 1)) (.int .i64 (((Cu.gave (f (J)) x n)).r 2)) (.int .i64 (((Cu.gave (f (J)) x n)).r 3)) (.int .i64 (((Cu.gave (f (J)) x n)).r 4)) (.int .i64 (((Cu.gave (f (J)) x n)).r 5)) (.int .i64 (((Cu.gave (f (J)) x n)).r 6)) (.int .i64 (((Cu.gave (f (J)) x n)).r 7)) (.int .i64 ((Cu.gave (f (J)) x n)).md) _ hV33
          have G_V33 := Lib.hid (Cu.grow_new G_V32.out hq.2 AL.out)
          have A_V33 := Lib.hid hq.1
          have B_V33 := Lib.hid (B_V32.out.only hq.2 (fun e => by injection e with e; exact NE.out e.symm))
          clear hq
          go_simp
          rw [← hV33]
          clear hV33 q0 q1 q2 q3 q4 q5 q6 q7 q8 q9 r0 r1 r2 r3 r4 r5 r6 r7 r8 r9
          refine hK.out _ _ (Cu.s16 HZ.out G_V33.out) (fun hHeld => ?_)
          clear hK K
          try simp only [Act.put, List.setIfInBounds_toArray, List.set_cons_zero, List.set_cons_succ]
          refine wpAnyH_ready (rs := [9]) (by kernel_rfl) (by simp) ?_
          refine AllReadyH.cons (o := _) rfl (fun K hK => ?_) AllReadyH.nil
          obtain ⟨q0, q1, q2, q3, q4, q5, q6, q7, q8, q9⟩ := Cu.cells10 B_V33.out
          obtain ⟨r0, r1, r2, r3, r4, r5, r6, r7, r8, r9⟩ := Cu.free10 B_V33.out
          obtain ⟨V34, hV34⟩ : ∃ Y, Y = ((((((((((V33.setCell ⟨bb, 0, none⟩ (.int .i64 ((Cu.woke (f (J)))).pc)).setCell ⟨bb, 1, none⟩ (.int .i64 (((Cu.woke (f (J)))).r 0))).setCell ⟨bb, 2, none⟩ (.int .i64 (((Cu.woke (f (J)))).r 1))).setCell ⟨bb, 3, none⟩ (.int .i64 (((Cu.woke (f (J)))).r 2))).setCell ⟨bb, 4, none⟩ (.int .i64 (((Cu.woke (f (J)))).r 3))).setCell ⟨bb, 5, none⟩ (.int .i64 (((Cu.woke (f (J)))).r 4))).setCell ⟨bb, 6, none⟩ (.int .i64 (((Cu.woke (f (J)))).r 5))).setCell ⟨bb, 7, none⟩ (.int .i64 (((Cu.woke (f (J)))).r 6))).setCell ⟨bb, 8, none⟩ (.int .i64 (((Cu.woke (f (J)))).r 7))).setCell ⟨bb, 9, none⟩ (.int .i64 ((Cu.woke (f (J)))).md)) := ⟨_, rfl⟩
          have hq := Cu.put10z B_V33.out (.int .i64 ((Cu.woke (f (J)))).pc) (.int .i64 (((Cu.woke (f (J)))).r 0)) (.int .i64 (((Cu.woke (f (J)))).r 1)) (.int .i64 (((Cu.woke (f (J)))).r 2)) (.int .i64 (((Cu.woke (f (J)))).r 3)) (.int .i64 (((Cu.woke (f (J)))).r 4)) (.int .i64 (((Cu.woke (f (J)))).r 5)) (.int .i64 (((Cu.woke (f (J)))).r 6)) (.int .i64 (((Cu.woke (f (J)))).r 7)) (.int .i64 ((Cu.woke (f (J)))).md) _ hV34
          have G_V34 := Lib.hid (Cu.grow_new G_V33.out hq.2 BL.out)
          have B_V34 := Lib.hid hq.1
          have A_V34 := Lib.hid (A_V33.out.only hq.2 (fun e => by injection e with e; exact NE.out e))
          clear hq
          go_simp
          rw [← hV34]
          clear hV34 q0 q1 q2 q3 q4 q5 q6 q7 q8 q9 r0 r1 r2 r3 r4 r5 r6 r7 r8 r9
          refine hK.out _ _ (Cu.s16 HZ.out G_V34.out) (fun hHeld => ?_)
          clear hK K
          try simp only [Act.put, List.setIfInBounds_toArray, List.set_cons_zero, List.set_cons_succ]
          refine wpAnyH_done (by kernel_rfl) ?_ _
          exact hQ ba bb _ _ _ _ _ _ _ G_V34.out A_V34.out B_V34.out
      refine AllReadyH.cons (o := _) rfl (fun K hK => ?_) AllReadyH.nil
      obtain ⟨bb, hbb⟩ : ∃ b, b = V30.heap.size := ⟨_, rfl⟩
      obtain ⟨V35, hV35⟩ : ∃ Y, Y = V30.alloc (.cells #[.int .i64 0, .int .i64 0, .int .i64 0, .int .i64 0, .int .i64 0, .int .i64 0, .int .i64 0, .int .i64 0, .int .i64 0, .int .i64 0] 24) := ⟨_, rfl⟩
      have G_V35 := Lib.hid (show W12.grownBy V35 none from by rw [hV35]; exact only_alloc G_V30.out _)
      have B_V35 := Lib.hid (show Blk V35 bb 24 #[.int .i64 0, .int .i64 0, .int .i64 0, .int .i64 0, .int .i64 0, .int .i64 0, .int .i64 0, .int .i64 0, .int .i64 0, .int .i64 0] from by rw [hV35, hbb]; exact Blk.new _ _ _)
      have BL := Lib.hid (show W12.heap.size ≤ bb from by rw [hbb]; exact G_V30.out.size)
      have A_V35 := Lib.hid (show Blk V35 ba 24 #[.int .i64 0, .int .i64 0, .int .i64 0, .int .i64 0, .int .i64 0, .int .i64 0, .int .i64 0, .int .i64 0, .int .i64 0, .int .i64 0] from by rw [hV35]; exact A_V30.out.alloc _)
      have NE := Lib.hid (show ba ≠ bb from by have := A_V30.out.lt; omega)
      go_simp
      rw [← hV35, ← hbb]
      clear hV35 hbb
      refine hK.out _ _ (Cu.s16 HZ.out G_V35.out) (fun hHeld => ?_)
      clear hK K
      try simp only [Act.put, List.setIfInBounds_toArray, List.set_cons_zero, List.set_cons_succ]
      refine wpAnyH_ready (rs := [5]) (by kernel_rfl) (by simp) ?_
      refine AllReadyH.cons (o := _) rfl (fun K hK => ?_) AllReadyH.nil
      go_simp
      go_at_call 18
      (with_reducible refine (HWA.out _).mono ?_)
      rintro eV36 V36 ⟨rfl, g_V36⟩
      have G_V36 := Lib.hid (only_trans G_V35.out g_V36)
      have A_V36 := Lib.hid (A_V35.out.only g_V36 (by simp))
      have B_V36 := Lib.hid (B_V35.out.only g_V36 (by simp))
      clear g_V36
      refine hK.out _ _ (Cu.s16 HZ.out G_V36.out) (fun hHeld => ?_)
      clear hK K
      try simp only [Act.put, List.setIfInBounds_toArray, List.set_cons_zero, List.set_cons_succ]
      focus
        refine wpAnyH_ready (rs := [8]) (by kernel_rfl) (by simp) ?_
        refine AllReadyH.cons (o := _) rfl (fun K hK => ?_) AllReadyH.nil
        obtain ⟨q0, q1, q2, q3, q4, q5, q6, q7, q8, q9⟩ := Cu.cells10 A_V36.out
        obtain ⟨r0, r1, r2, r3, r4, r5, r6, r7, r8, r9⟩ := Cu.free10 A_V36.out
        obtain ⟨V37, hV37⟩ : ∃ Y, Y = ((((((((((V36.setCell ⟨ba, 0, none⟩ (.int .i64 ((Cu.gave (f (J)) x n)).pc)).setCell ⟨ba, 1, none⟩ (.int .i64 (((Cu.gave (f (J)) x n)).r 0))).setCell ⟨ba, 2, none⟩ (.int .i64 (((Cu.gave (f (J)) x n)).r 1))).setCell ⟨ba, 3, none⟩ (.int .i64 (((Cu.gave (f (J)) x n)).r 2))).setCell ⟨ba, 4, none⟩ (.int .i64 (((Cu.gave (f (J)) x n)).r 3))).setCell ⟨ba, 5, none⟩ (.int .i64 (((Cu.gave (f (J)) x n)).r 4))).setCell ⟨ba, 6, none⟩ (.int .i64 (((Cu.gave (f (J)) x n)).r 5))).setCell ⟨ba, 7, none⟩ (.int .i64 (((Cu.gave (f (J)) x n)).r 6))).setCell ⟨ba, 8, none⟩ (.int .i64 (((Cu.gave (f (J)) x n)).r 7))).setCell ⟨ba, 9, none⟩ (.int .i64 ((Cu.gave (f (J)) x n)).md)) := ⟨_, rfl⟩
        have hq := Cu.put10z A_V36.out (.int .i64 ((Cu.gave (f (J)) x n)).pc) (.int .i64 (((Cu.gave (f (J)) x n)).r 0)) (.int .i64 (((Cu.gave (f (J)) x n)).r 1)) (.int .i64 (((Cu.gave (f (J)) x n)).r 2)) (.int .i64 (((Cu.gave (f (J)) x n)).r 3)) (.int .i64 (((Cu.gave (f (J)) x n)).r 4)) (.int .i64 (((Cu.gave (f (J)) x n)).r 5)) (.int .i64 (((Cu.gave (f (J)) x n)).r 6)) (.int .i64 (((Cu.gave (f (J)) x n)).r 7)) (.int .i64 ((Cu.gave (f (J)) x n)).md) _ hV37
        have G_V37 := Lib.hid (Cu.grow_new G_V36.out hq.2 AL.out)
        have A_V37 := Lib.hid hq.1
        have B_V37 := Lib.hid (B_V36.out.only hq.2 (fun e => by injection e with e; exact NE.out e.symm))
        clear hq
        go_simp
        rw [← hV37]
        clear hV37 q0 q1 q2 q3 q4 q5 q6 q7 q8 q9 r0 r1 r2 r3 r4 r5 r6 r7 r8 r9
        refine hK.out _ _ (Cu.s16 HZ.out G_V37.out) (fun hHeld => ?_)
        clear hK K
        try simp only [Act.put, List.setIfInBounds_toArray, List.set_cons_zero, List.set_cons_succ]
        refine wpAnyH_ready (rs := [9]) (by kernel_rfl) (by simp) ?_
        refine AllReadyH.cons (o := _) rfl (fun K hK => ?_) AllReadyH.nil
        obtain ⟨q0, q1, q2, q3, q4, q5, q6, q7, q8, q9⟩ := Cu.cells10 B_V37.out
        obtain ⟨r0, r1, r2, r3, r4, r5, r6, r7, r8, r9⟩ := Cu.free10 B_V37.out
        obtain ⟨V38, hV38⟩ : ∃ Y, Y = ((((((((((V37.setCell ⟨bb, 0, none⟩ (.int .i64 ((Cu.woke (f (J)))).pc)).setCell ⟨bb, 1, none⟩ (.int .i64 (((Cu.woke (f (J)))).r 0))).setCell ⟨bb, 2, none⟩ (.int .i64 (((Cu.woke (f (J)))).r 1))).setCell ⟨bb, 3, none⟩ (.int .i64 (((Cu.woke (f (J)))).r 2))).setCell ⟨bb, 4, none⟩ (.int .i64 (((Cu.woke (f (J)))).r 3))).setCell ⟨bb, 5, none⟩ (.int .i64 (((Cu.woke (f (J)))).r 4))).setCell ⟨bb, 6, none⟩ (.int .i64 (((Cu.woke (f (J)))).r 5))).setCell ⟨bb, 7, none⟩ (.int .i64 (((Cu.woke (f (J)))).r 6))).setCell ⟨bb, 8, none⟩ (.int .i64 (((Cu.woke (f (J)))).r 7))).setCell ⟨bb, 9, none⟩ (.int .i64 ((Cu.woke (f (J)))).md)) := ⟨_, rfl⟩
        have hq := Cu.put10z B_V37.out (.int .i64 ((Cu.woke (f (J)))).pc) (.int .i64 (((Cu.woke (f (J)))).r 0)) (.int .i64 (((Cu.woke (f (J)))).r 1)) (.int .i64 (((Cu.woke (f (J)))).r 2)) (.int .i64 (((Cu.woke (f (J)))).r 3)) (.int .i64 (((Cu.woke (f (J)))).r 4)) (.int .i64 (((Cu.woke (f (J)))).r 5)) (.int .i64 (((Cu.woke (f (J)))).r 6)) (.int .i64 (((Cu.woke (f (J)))).r 7)) (.int .i64 ((Cu.woke (f (J)))).md) _ hV38
        have G_V38 := Lib.hid (Cu.grow_new G_V37.out hq.2 BL.out)
        have B_V38 := Lib.hid hq.1
        have A_V38 := Lib.hid (A_V37.out.only hq.2 (fun e => by injection e with e; exact NE.out e))
        clear hq
        go_simp
        rw [← hV38]
        clear hV38 q0 q1 q2 q3 q4 q5 q6 q7 q8 q9 r0 r1 r2 r3 r4 r5 r6 r7 r8 r9
        refine hK.out _ _ (Cu.s16 HZ.out G_V38.out) (fun hHeld => ?_)
        clear hK K
        try simp only [Act.put, List.setIfInBounds_toArray, List.set_cons_zero, List.set_cons_succ]
        refine wpAnyH_done (by kernel_rfl) ?_ _
        exact hQ ba bb _ _ _ _ _ _ _ G_V38.out A_V38.out B_V38.out
    refine AllReadyH.cons (o := _) rfl (fun K hK => ?_) AllReadyH.nil
    obtain ⟨bb, hbb⟩ : ∃ b, b = V29.heap.size := ⟨_, rfl⟩
    obtain ⟨V39, hV39⟩ : ∃ Y, Y = V29.alloc (.cells #[.int .i64 0, .int .i64 0, .int .i64 0, .int .i64 0, .int .i64 0, .int .i64 0, .int .i64 0, .int .i64 0, .int .i64 0, .int .i64 0] 24) := ⟨_, rfl⟩
    have G_V39 := Lib.hid (show W12.grownBy V39 none from by rw [hV39]; exact only_alloc G_V29.out _)
    have B_V39 := Lib.hid (show Blk V39 bb 24 #[.int .i64 0, .int .i64 0, .int .i64 0, .int .i64 0, .int .i64 0, .int .i64 0, .int .i64 0, .int .i64 0, .int .i64 0, .int .i64 0] from by rw [hV39, hbb]; exact Blk.new _ _ _)
    have BL := Lib.hid (show W12.heap.size ≤ bb from by rw [hbb]; exact G_V29.out.size)
    have A_V39 := Lib.hid (show Blk V39 ba 24 #[.int .i64 0, .int .i64 0, .int .i64 0, .int .i64 0, .int .i64 0, .int .i64 0, .int .i64 0, .int .i64 0, .int .i64 0, .int .i64 0] from by rw [hV39]; exact A_V29.out.alloc _)
    have NE := Lib.hid (show ba ≠ bb from by have := A_V29.out.lt; omega)
    go_simp
    rw [← hV39, ← hbb]
    clear hV39 hbb
    refine hK.out _ _ (Cu.s16 HZ.out G_V39.out) (fun hHeld => ?_)
    clear hK K
    try simp only [Act.put, List.setIfInBounds_toArray, List.set_cons_zero, List.set_cons_succ]
    refine wpAnyH_ready (rs := [3]) (by kernel_rfl) (by simp) ?_
    refine AllReadyH.cons (o := _) rfl (fun K hK => ?_) AllReadyH.nil
    go_simp
    go_at_call 17
    (with_reducible refine (HGI.out _).mono ?_)
    rintro eV40 V40 ⟨rfl, g_V40⟩
    have G_V40 := Lib.hid (only_trans G_V39.out g_V40)
    have A_V40 := Lib.hid (A_V39.out.only g_V40 (by simp))
    have B_V40 := Lib.hid (B_V39.out.only g_V40 (by simp))
    clear g_V40
    refine hK.out _ _ (Cu.s16 HZ.out G_V40.out) (fun hHeld => ?_)
    clear hK K
    try simp only [Act.put, List.setIfInBounds_toArray, List.set_cons_zero, List.set_cons_succ]
    refine wpAnyH_ready (rs := [5]) (by kernel_rfl) (by simp) ?_
    refine AllReadyH.cons (o := _) rfl (fun K hK => ?_) AllReadyH.nil
    go_simp
    go_at_call 18
    (with_reducible refine (HWA.out _).mono ?_)
    rintro eV41 V41 ⟨rfl, g_V41⟩
    have G_V41 := Lib.hid (only_trans G_V40.out g_V41)
    have A_V41 := Lib.hid (A_V40.out.only g_V41 (by simp))
    have B_V41 := Lib.hid (B_V40.out.only g_V41 (by simp))
    clear g_V41
    refine hK.out _ _ (Cu.s16 HZ.out G_V41.out) (fun hHeld => ?_)
    clear hK K
    try simp only [Act.put, List.setIfInBounds_toArray, List.set_cons_zero, List.set_cons_succ]
    focus
      refine wpAnyH_ready (rs := [8]) (by kernel_rfl) (by simp) ?_
      refine AllReadyH.cons (o := _) rfl (fun K hK => ?_) AllReadyH.nil
      obtain ⟨q0, q1, q2, q3, q4, q5, q6, q7, q8, q9⟩ := Cu.cells10 A_V41.out
      obtain ⟨r0, r1, r2, r3, r4, r5, r6, r7, r8, r9⟩ := Cu.free10 A_V41.out
      obtain ⟨V42, hV42⟩ : ∃ Y, Y = ((((((((((V41.setCell ⟨ba, 0, none⟩ (.int .i64 ((Cu.gave (f (J)) x n)).pc)).setCell ⟨ba, 1, none⟩ (.int .i64 (((Cu.gave (f (J)) x n)).r 0))).setCell ⟨ba, 2, none⟩ (.int .i64 (((Cu.gave (f (J)) x n)).r 1))).setCell ⟨ba, 3, none⟩ (.int .i64 (((Cu.gave (f (J)) x n)).r 2))).setCell ⟨ba, 4, none⟩ (.int .i64 (((Cu.gave (f (J)) x n)).r 3))).setCell ⟨ba, 5, none⟩ (.int .i64 (((Cu.gave (f (J)) x n)).r 4))).setCell ⟨ba, 6, none⟩ (.int .i64 (((Cu.gave (f (J)) x n)).r 5))).setCell ⟨ba, 7, none⟩ (.int .i64 (((Cu.gave (f (J)) x n)).r 6))).setCell ⟨ba, 8, none⟩ (.int .i64 (((Cu.gave (f (J)) x n)).r 7))).setCell ⟨ba, 9, none⟩ (.int .i64 ((Cu.gave (f (J)) x n)).md)) := ⟨_, rfl⟩
      have hq := Cu.put10z A_V41.out (.int .i64 ((Cu.gave (f (J)) x n)).pc) (.int .i64 (((Cu.gave (f (J)) x n)).r 0)) (.int .i64 (((Cu.gave (f (J)) x n)).r 1)) (.int .i64 (((Cu.gave (f (J)) x n)).r 2)) (.int .i64 (((Cu.gave (f (J)) x n)).r 3)) (.int .i64 (((Cu.gave (f (J)) x n)).r 4)) (.int .i64 (((Cu.gave (f (J)) x n)).r 5)) (.int .i64 (((Cu.gave (f (J)) x n)).r 6)) (.int .i64 (((Cu.gave (f (J)) x n)).r 7)) (.int .i64 ((Cu.gave (f (J)) x n)).md) _ hV42
      have G_V42 := Lib.hid (Cu.grow_new G_V41.out hq.2 AL.out)
      have A_V42 := Lib.hid hq.1
      have B_V42 := Lib.hid (B_V41.out.only hq.2 (fun e => by injection e with e; exact NE.out e.symm))
      clear hq
      go_simp
      rw [← hV42]
      clear hV42 q0 q1 q2 q3 q4 q5 q6 q7 q8 q9 r0 r1 r2 r3 r4 r5 r6 r7 r8 r9
      refine hK.out _ _ (Cu.s16 HZ.out G_V42.out) (fun hHeld => ?_)
      clear hK K
      try simp only [Act.put, List.setIfInBounds_toArray, List.set_cons_zero, List.set_cons_succ]
      refine wpAnyH_ready (rs := [9]) (by kernel_rfl) (by simp) ?_
      refine AllReadyH.cons (o := _) rfl (fun K hK => ?_) AllReadyH.nil
      obtain ⟨q0, q1, q2, q3, q4, q5, q6, q7, q8, q9⟩ := Cu.cells10 B_V42.out
      obtain ⟨r0, r1, r2, r3, r4, r5, r6, r7, r8, r9⟩ := Cu.free10 B_V42.out
      obtain ⟨V43, hV43⟩ : ∃ Y, Y = ((((((((((V42.setCell ⟨bb, 0, none⟩ (.int .i64 ((Cu.woke (f (J)))).pc)).setCell ⟨bb, 1, none⟩ (.int .i64 (((Cu.woke (f (J)))).r 0))).setCell ⟨bb, 2, none⟩ (.int .i64 (((Cu.woke (f (J)))).r 1))).setCell ⟨bb, 3, none⟩ (.int .i64 (((Cu.woke (f (J)))).r 2))).setCell ⟨bb, 4, none⟩ (.int .i64 (((Cu.woke (f (J)))).r 3))).setCell ⟨bb, 5, none⟩ (.int .i64 (((Cu.woke (f (J)))).r 4))).setCell ⟨bb, 6, none⟩ (.int .i64 (((Cu.woke (f (J)))).r 5))).setCell ⟨bb, 7, none⟩ (.int .i64 (((Cu.woke (f (J)))).r 6))).setCell ⟨bb, 8, none⟩ (.int .i64 (((Cu.woke (f (J)))).r 7))).setCell ⟨bb, 9, none⟩ (.int .i64 ((Cu.woke (f (J)))).md)) := ⟨_, rfl⟩
      have hq := Cu.put10z B_V42.out (.int .i64 ((Cu.woke (f (J)))).pc) (.int .i64 (((Cu.woke (f (J)))).r 0)) (.int .i64 (((Cu.woke (f (J)))).r 1)) (.int .i64 (((Cu.woke (f (J)))).r 2)) (.int .i64 (((Cu.woke (f (J)))).r 3)) (.int .i64 (((Cu.woke (f (J)))).r 4)) (.int .i64 (((Cu.woke (f (J)))).r 5)) (.int .i64 (((Cu.woke (f (J)))).r 6)) (.int .i64 (((Cu.woke (f (J)))).r 7)) (.int .i64 ((Cu.woke (f (J)))).md) _ hV43
      have G_V43 := Lib.hid (Cu.grow_new G_V42.out hq.2 BL.out)
      have B_V43 := Lib.hid hq.1
      have A_V43 := Lib.hid (A_V42.out.only hq.2 (fun e => by injection e with e; exact NE.out e))
      clear hq
      go_simp
      rw [← hV43]
      clear hV43 q0 q1 q2 q3 q4 q5 q6 q7 q8 q9 r0 r1 r2 r3 r4 r5 r6 r7 r8 r9
      refine hK.out _ _ (Cu.s16 HZ.out G_V43.out) (fun hHeld => ?_)
      clear hK K
      try simp only [Act.put, List.setIfInBounds_toArray, List.set_cons_zero, List.set_cons_succ]
      refine wpAnyH_done (by kernel_rfl) ?_ _
      exact hQ ba bb _ _ _ _ _ _ _ G_V43.out A_V43.out B_V43.out
  refine AllReadyH.cons (o := _) rfl (fun K hK => ?_) AllReadyH.nil
  obtain ⟨bb, hbb⟩ : ∃ b, b = V0.heap.size := ⟨_, rfl⟩
  obtain ⟨V44, hV44⟩ : ∃ Y, Y = V0.alloc (.cells #[.int .i64 0, .int .i64 0, .int .i64 0, .int .i64 0, .int .i64 0, .int .i64 0, .int .i64 0, .int .i64 0, .int .i64 0, .int .i64 0] 24) := ⟨_, rfl⟩
  have G_V44 := Lib.hid (show W12.grownBy V44 none from by rw [hV44]; exact only_alloc G_V0.out _)
  have B_V44 := Lib.hid (show Blk V44 bb 24 #[.int .i64 0, .int .i64 0, .int .i64 0, .int .i64 0, .int .i64 0, .int .i64 0, .int .i64 0, .int .i64 0, .int .i64 0, .int .i64 0] from by rw [hV44, hbb]; exact Blk.new _ _ _)
  have BL := Lib.hid (show W12.heap.size ≤ bb from by rw [hbb]; exact G_V0.out.size)
  go_simp
  rw [← hV44, ← hbb]
  clear hV44 hbb
  refine hK.out _ _ (Cu.s16 HZ.out G_V44.out) (fun hHeld => ?_)
  clear hK K
  try simp only [Act.put, List.setIfInBounds_toArray, List.set_cons_zero, List.set_cons_succ]
  refine wpAnyH_ready (rs := [3, 6]) (by kernel_rfl) (by simp) ?_
  refine AllReadyH.cons (o := _) rfl (fun K hK => ?_) ?_
  · skip
    go_simp
    go_at_call 17
    (with_reducible refine (HGI.out _).mono ?_)
    rintro eV45 V45 ⟨rfl, g_V45⟩
    have G_V45 := Lib.hid (only_trans G_V44.out g_V45)
    have B_V45 := Lib.hid (B_V44.out.only g_V45 (by simp))
    clear g_V45
    refine hK.out _ _ (Cu.s16 HZ.out G_V45.out) (fun hHeld => ?_)
    clear hK K
    try simp only [Act.put, List.setIfInBounds_toArray, List.set_cons_zero, List.set_cons_succ]
    refine wpAnyH_ready (rs := [5, 6]) (by kernel_rfl) (by simp) ?_
    refine AllReadyH.cons (o := _) rfl (fun K hK => ?_) ?_
    · skip
      go_simp
      go_at_call 18
      (with_reducible refine (HWA.out _).mono ?_)
      rintro eV46 V46 ⟨rfl, g_V46⟩
      have G_V46 := Lib.hid (only_trans G_V45.out g_V46)
      have B_V46 := Lib.hid (B_V45.out.only g_V46 (by simp))
      clear g_V46
      refine hK.out _ _ (Cu.s16 HZ.out G_V46.out) (fun hHeld => ?_)
      clear hK K
      try simp only [Act.put, List.setIfInBounds_toArray, List.set_cons_zero, List.set_cons_succ]
      refine wpAnyH_ready (rs := [6]) (by kernel_rfl) (by simp) ?_
      refine AllReadyH.cons (o := _) rfl (fun K hK => ?_) AllReadyH.nil
      obtain ⟨ba, hba⟩ : ∃ b, b = V46.heap.size := ⟨_, rfl⟩
      obtain ⟨V47, hV47⟩ : ∃ Y, Y = V46.alloc (.cells #[.int .i64 0, .int .i64 0, .int .i64 0, .int .i64 0, .int .i64 0, .int .i64 0, .int .i64 0, .int .i64 0, .int .i64 0, .int .i64 0] 24) := ⟨_, rfl⟩
      have G_V47 := Lib.hid (show W12.grownBy V47 none from by rw [hV47]; exact only_alloc G_V46.out _)
      have A_V47 := Lib.hid (show Blk V47 ba 24 #[.int .i64 0, .int .i64 0, .int .i64 0, .int .i64 0, .int .i64 0, .int .i64 0, .int .i64 0, .int .i64 0, .int .i64 0, .int .i64 0] from by rw [hV47, hba]; exact Blk.new _ _ _)
      have AL := Lib.hid (show W12.heap.size ≤ ba from by rw [hba]; exact G_V46.out.size)
      have B_V47 := Lib.hid (show Blk V47 bb 24 #[.int .i64 0, .int .i64 0, .int .i64 0, .int .i64 0, .int .i64 0, .int .i64 0, .int .i64 0, .int .i64 0, .int .i64 0, .int .i64 0] from by rw [hV47]; exact B_V46.out.alloc _)
      have NE := Lib.hid (show ba ≠ bb from by have := B_V46.out.lt; omega)
      go_simp
      rw [← hV47, ← hba]
      clear hV47 hba
      refine hK.out _ _ (Cu.s16 HZ.out G_V47.out) (fun hHeld => ?_)
      clear hK K
      try simp only [Act.put, List.setIfInBounds_toArray, List.set_cons_zero, List.set_cons_succ]
      focus
        refine wpAnyH_ready (rs := [8]) (by kernel_rfl) (by simp) ?_
        refine AllReadyH.cons (o := _) rfl (fun K hK => ?_) AllReadyH.nil
        obtain ⟨q0, q1, q2, q3, q4, q5, q6, q7, q8, q9⟩ := Cu.cells10 A_V47.out
        obtain ⟨r0, r1, r2, r3, r4, r5, r6, r7, r8, r9⟩ := Cu.free10 A_V47.out
        obtain ⟨V48, hV48⟩ : ∃ Y, Y = ((((((((((V47.setCell ⟨ba, 0, none⟩ (.int .i64 ((Cu.gave (f (J)) x n)).pc)).setCell ⟨ba, 1, none⟩ (.int .i64 (((Cu.gave (f (J)) x n)).r 0))).setCell ⟨ba, 2, none⟩ (.int .i64 (((Cu.gave (f (J)) x n)).r 1))).setCell ⟨ba, 3, none⟩ (.int .i64 (((Cu.gave (f (J)) x n)).r 2))).setCell ⟨ba, 4, none⟩ (.int .i64 (((Cu.gave (f (J)) x n)).r 3))).setCell ⟨ba, 5, none⟩ (.int .i64 (((Cu.gave (f (J)) x n)).r 4))).setCell ⟨ba, 6, none⟩ (.int .i64 (((Cu.gave (f (J)) x n)).r 5))).setCell ⟨ba, 7, none⟩ (.int .i64 (((Cu.gave (f (J)) x n)).r 6))).setCell ⟨ba, 8, none⟩ (.int .i64 (((Cu.gave (f (J)) x n)).r 7))).setCell ⟨ba, 9, none⟩ (.int .i64 ((Cu.gave (f (J)) x n)).md)) := ⟨_, rfl⟩
        have hq := Cu.put10z A_V47.out (.int .i64 ((Cu.gave (f (J)) x n)).pc) (.int .i64 (((Cu.gave (f (J)) x n)).r 0)) (.int .i64 (((Cu.gave (f (J)) x n)).r 1)) (.int .i64 (((Cu.gave (f (J)) x n)).r 2)) (.int .i64 (((Cu.gave (f (J)) x n)).r 3)) (.int .i64 (((Cu.gave (f (J)) x n)).r 4)) (.int .i64 (((Cu.gave (f (J)) x n)).r 5)) (.int .i64 (((Cu.gave (f (J)) x n)).r 6)) (.int .i64 (((Cu.gave (f (J)) x n)).r 7)) (.int .i64 ((Cu.gave (f (J)) x n)).md) _ hV48
        have G_V48 := Lib.hid (Cu.grow_new G_V47.out hq.2 AL.out)
        have A_V48 := Lib.hid hq.1
        have B_V48 := Lib.hid (B_V47.out.only hq.2 (fun e => by injection e with e; exact NE.out e.symm))
        clear hq
        go_simp
        rw [← hV48]
        clear hV48 q0 q1 q2 q3 q4 q5 q6 q7 q8 q9 r0 r1 r2 r3 r4 r5 r6 r7 r8 r9
        refine hK.out _ _ (Cu.s16 HZ.out G_V48.out) (fun hHeld => ?_)
        clear hK K
        try simp only [Act.put, List.setIfInBounds_toArray, List.set_cons_zero, List.set_cons_succ]
        refine wpAnyH_ready (rs := [9]) (by kernel_rfl) (by simp) ?_
        refine AllReadyH.cons (o := _) rfl (fun K hK => ?_) AllReadyH.nil
        obtain ⟨q0, q1, q2, q3, q4, q5, q6, q7, q8, q9⟩ := Cu.cells10 B_V48.out
        obtain ⟨r0, r1, r2, r3, r4, r5, r6, r7, r8, r9⟩ := Cu.free10 B_V48.out
        obtain ⟨V49, hV49⟩ : ∃ Y, Y = ((((((((((V48.setCell ⟨bb, 0, none⟩ (.int .i64 ((Cu.woke (f (J)))).pc)).setCell ⟨bb, 1, none⟩ (.int .i64 (((Cu.woke (f (J)))).r 0))).setCell ⟨bb, 2, none⟩ (.int .i64 (((Cu.woke (f (J)))).r 1))).setCell ⟨bb, 3, none⟩ (.int .i64 (((Cu.woke (f (J)))).r 2))).setCell ⟨bb, 4, none⟩ (.int .i64 (((Cu.woke (f (J)))).r 3))).setCell ⟨bb, 5, none⟩ (.int .i64 (((Cu.woke (f (J)))).r 4))).setCell ⟨bb, 6, none⟩ (.int .i64 (((Cu.woke (f (J)))).r 5))).setCell ⟨bb, 7, none⟩ (.int .i64 (((Cu.woke (f (J)))).r 6))).setCell ⟨bb, 8, none⟩ (.int .i64 (((Cu.woke (f (J)))).r 7))).setCell ⟨bb, 9, none⟩ (.int .i64 ((Cu.woke (f (J)))).md)) := ⟨_, rfl⟩
        have hq := Cu.put10z B_V48.out (.int .i64 ((Cu.woke (f (J)))).pc) (.int .i64 (((Cu.woke (f (J)))).r 0)) (.int .i64 (((Cu.woke (f (J)))).r 1)) (.int .i64 (((Cu.woke (f (J)))).r 2)) (.int .i64 (((Cu.woke (f (J)))).r 3)) (.int .i64 (((Cu.woke (f (J)))).r 4)) (.int .i64 (((Cu.woke (f (J)))).r 5)) (.int .i64 (((Cu.woke (f (J)))).r 6)) (.int .i64 (((Cu.woke (f (J)))).r 7)) (.int .i64 ((Cu.woke (f (J)))).md) _ hV49
        have G_V49 := Lib.hid (Cu.grow_new G_V48.out hq.2 BL.out)
        have B_V49 := Lib.hid hq.1
        have A_V49 := Lib.hid (A_V48.out.only hq.2 (fun e => by injection e with e; exact NE.out e))
        clear hq
        go_simp
        rw [← hV49]
        clear hV49 q0 q1 q2 q3 q4 q5 q6 q7 q8 q9 r0 r1 r2 r3 r4 r5 r6 r7 r8 r9
        refine hK.out _ _ (Cu.s16 HZ.out G_V49.out) (fun hHeld => ?_)
        clear hK K
        try simp only [Act.put, List.setIfInBounds_toArray, List.set_cons_zero, List.set_cons_succ]
        refine wpAnyH_done (by kernel_rfl) ?_ _
        exact hQ ba bb _ _ _ _ _ _ _ G_V49.out A_V49.out B_V49.out
    refine AllReadyH.cons (o := _) rfl (fun K hK => ?_) AllReadyH.nil
    obtain ⟨ba, hba⟩ : ∃ b, b = V45.heap.size := ⟨_, rfl⟩
    obtain ⟨V50, hV50⟩ : ∃ Y, Y = V45.alloc (.cells #[.int .i64 0, .int .i64 0, .int .i64 0, .int .i64 0, .int .i64 0, .int .i64 0, .int .i64 0, .int .i64 0, .int .i64 0, .int .i64 0] 24) := ⟨_, rfl⟩
    have G_V50 := Lib.hid (show W12.grownBy V50 none from by rw [hV50]; exact only_alloc G_V45.out _)
    have A_V50 := Lib.hid (show Blk V50 ba 24 #[.int .i64 0, .int .i64 0, .int .i64 0, .int .i64 0, .int .i64 0, .int .i64 0, .int .i64 0, .int .i64 0, .int .i64 0, .int .i64 0] from by rw [hV50, hba]; exact Blk.new _ _ _)
    have AL := Lib.hid (show W12.heap.size ≤ ba from by rw [hba]; exact G_V45.out.size)
    have B_V50 := Lib.hid (show Blk V50 bb 24 #[.int .i64 0, .int .i64 0, .int .i64 0, .int .i64 0, .int .i64 0, .int .i64 0, .int .i64 0, .int .i64 0, .int .i64 0, .int .i64 0] from by rw [hV50]; exact B_V45.out.alloc _)
    have NE := Lib.hid (show ba ≠ bb from by have := B_V45.out.lt; omega)
    go_simp
    rw [← hV50, ← hba]
    clear hV50 hba
    refine hK.out _ _ (Cu.s16 HZ.out G_V50.out) (fun hHeld => ?_)
    clear hK K
    try simp only [Act.put, List.setIfInBounds_toArray, List.set_cons_zero, List.set_cons_succ]
    refine wpAnyH_ready (rs := [5]) (by kernel_rfl) (by simp) ?_
    refine AllReadyH.cons (o := _) rfl (fun K hK => ?_) AllReadyH.nil
    go_simp
    go_at_call 18
    (with_reducible refine (HWA.out _).mono ?_)
    rintro eV51 V51 ⟨rfl, g_V51⟩
    have G_V51 := Lib.hid (only_trans G_V50.out g_V51)
    have A_V51 := Lib.hid (A_V50.out.only g_V51 (by simp))
    have B_V51 := Lib.hid (B_V50.out.only g_V51 (by simp))
    clear g_V51
    refine hK.out _ _ (Cu.s16 HZ.out G_V51.out) (fun hHeld => ?_)
    clear hK K
    try simp only [Act.put, List.setIfInBounds_toArray, List.set_cons_zero, List.set_cons_succ]
    focus
      refine wpAnyH_ready (rs := [8]) (by kernel_rfl) (by simp) ?_
      refine AllReadyH.cons (o := _) rfl (fun K hK => ?_) AllReadyH.nil
      obtain ⟨q0, q1, q2, q3, q4, q5, q6, q7, q8, q9⟩ := Cu.cells10 A_V51.out
      obtain ⟨r0, r1, r2, r3, r4, r5, r6, r7, r8, r9⟩ := Cu.free10 A_V51.out
      obtain ⟨V52, hV52⟩ : ∃ Y, Y = ((((((((((V51.setCell ⟨ba, 0, none⟩ (.int .i64 ((Cu.gave (f (J)) x n)).pc)).setCell ⟨ba, 1, none⟩ (.int .i64 (((Cu.gave (f (J)) x n)).r 0))).setCell ⟨ba, 2, none⟩ (.int .i64 (((Cu.gave (f (J)) x n)).r 1))).setCell ⟨ba, 3, none⟩ (.int .i64 (((Cu.gave (f (J)) x n)).r 2))).setCell ⟨ba, 4, none⟩ (.int .i64 (((Cu.gave (f (J)) x n)).r 3))).setCell ⟨ba, 5, none⟩ (.int .i64 (((Cu.gave (f (J)) x n)).r 4))).setCell ⟨ba, 6, none⟩ (.int .i64 (((Cu.gave (f (J)) x n)).r 5))).setCell ⟨ba, 7, none⟩ (.int .i64 (((Cu.gave (f (J)) x n)).r 6))).setCell ⟨ba, 8, none⟩ (.int .i64 (((Cu.gave (f (J)) x n)).r 7))).setCell ⟨ba, 9, none⟩ (.int .i64 ((Cu.gave (f (J)) x n)).md)) := ⟨_, rfl⟩
      have hq := Cu.put10z A_V51.out (.int .i64 ((Cu.gave (f (J)) x n)).pc) (.int .i64 (((Cu.gave (f (J)) x n)).r 0)) (.int .i64 (((Cu.gave (f (J)) x n)).r 1)) (.int .i64 (((Cu.gave (f (J)) x n)).r 2)) (.int .i64 (((Cu.gave (f (J)) x n)).r 3)) (.int .i64 (((Cu.gave (f (J)) x n)).r 4)) (.int .i64 (((Cu.gave (f (J)) x n)).r 5)) (.int .i64 (((Cu.gave (f (J)) x n)).r 6)) (.int .i64 (((Cu.gave (f (J)) x n)).r 7)) (.int .i64 ((Cu.gave (f (J)) x n)).md) _ hV52
      have G_V52 := Lib.hid (Cu.grow_new G_V51.out hq.2 AL.out)
      have A_V52 := Lib.hid hq.1
      have B_V52 := Lib.hid (B_V51.out.only hq.2 (fun e => by injection e with e; exact NE.out e.symm))
      clear hq
      go_simp
      rw [← hV52]
      clear hV52 q0 q1 q2 q3 q4 q5 q6 q7 q8 q9 r0 r1 r2 r3 r4 r5 r6 r7 r8 r9
      refine hK.out _ _ (Cu.s16 HZ.out G_V52.out) (fun hHeld => ?_)
      clear hK K
      try simp only [Act.put, List.setIfInBounds_toArray, List.set_cons_zero, List.set_cons_succ]
      refine wpAnyH_ready (rs := [9]) (by kernel_rfl) (by simp) ?_
      refine AllReadyH.cons (o := _) rfl (fun K hK => ?_) AllReadyH.nil
      obtain ⟨q0, q1, q2, q3, q4, q5, q6, q7, q8, q9⟩ := Cu.cells10 B_V52.out
      obtain ⟨r0, r1, r2, r3, r4, r5, r6, r7, r8, r9⟩ := Cu.free10 B_V52.out
      obtain ⟨V53, hV53⟩ : ∃ Y, Y = ((((((((((V52.setCell ⟨bb, 0, none⟩ (.int .i64 ((Cu.woke (f (J)))).pc)).setCell ⟨bb, 1, none⟩ (.int .i64 (((Cu.woke (f (J)))).r 0))).setCell ⟨bb, 2, none⟩ (.int .i64 (((Cu.woke (f (J)))).r 1))).setCell ⟨bb, 3, none⟩ (.int .i64 (((Cu.woke (f (J)))).r 2))).setCell ⟨bb, 4, none⟩ (.int .i64 (((Cu.woke (f (J)))).r 3))).setCell ⟨bb, 5, none⟩ (.int .i64 (((Cu.woke (f (J)))).r 4))).setCell ⟨bb, 6, none⟩ (.int .i64 (((Cu.woke (f (J)))).r 5))).setCell ⟨bb, 7, none⟩ (.int .i64 (((Cu.woke (f (J)))).r 6))).setCell ⟨bb, 8, none⟩ (.int .i64 (((Cu.woke (f (J)))).r 7))).setCell ⟨bb, 9, none⟩ (.int .i64 ((Cu.woke (f (J)))).md)) := ⟨_, rfl⟩
      have hq := Cu.put10z B_V52.out (.int .i64 ((Cu.woke (f (J)))).pc) (.int .i64 (((Cu.woke (f (J)))).r 0)) (.int .i64 (((Cu.woke (f (J)))).r 1)) (.int .i64 (((Cu.woke (f (J)))).r 2)) (.int .i64 (((Cu.woke (f (J)))).r 3)) (.int .i64 (((Cu.woke (f (J)))).r 4)) (.int .i64 (((Cu.woke (f (J)))).r 5)) (.int .i64 (((Cu.woke (f (J)))).r 6)) (.int .i64 (((Cu.woke (f (J)))).r 7)) (.int .i64 ((Cu.woke (f (J)))).md) _ hV53
      have G_V53 := Lib.hid (Cu.grow_new G_V52.out hq.2 BL.out)
      have B_V53 := Lib.hid hq.1
      have A_V53 := Lib.hid (A_V52.out.only hq.2 (fun e => by injection e with e; exact NE.out e))
      clear hq
      go_simp
      rw [← hV53]
      clear hV53 q0 q1 q2 q3 q4 q5 q6 q7 q8 q9 r0 r1 r2 r3 r4 r5 r6 r7 r8 r9
      refine hK.out _ _ (Cu.s16 HZ.out G_V53.out) (fun hHeld => ?_)
      clear hK K
      try simp only [Act.put, List.setIfInBounds_toArray, List.set_cons_zero, List.set_cons_succ]
      refine wpAnyH_done (by kernel_rfl) ?_ _
      exact hQ ba bb _ _ _ _ _ _ _ G_V53.out A_V53.out B_V53.out
  refine AllReadyH.cons (o := _) rfl (fun K hK => ?_) AllReadyH.nil
  obtain ⟨ba, hba⟩ : ∃ b, b = V44.heap.size := ⟨_, rfl⟩
  obtain ⟨V54, hV54⟩ : ∃ Y, Y = V44.alloc (.cells #[.int .i64 0, .int .i64 0, .int .i64 0, .int .i64 0, .int .i64 0, .int .i64 0, .int .i64 0, .int .i64 0, .int .i64 0, .int .i64 0] 24) := ⟨_, rfl⟩
  have G_V54 := Lib.hid (show W12.grownBy V54 none from by rw [hV54]; exact only_alloc G_V44.out _)
  have A_V54 := Lib.hid (show Blk V54 ba 24 #[.int .i64 0, .int .i64 0, .int .i64 0, .int .i64 0, .int .i64 0, .int .i64 0, .int .i64 0, .int .i64 0, .int .i64 0, .int .i64 0] from by rw [hV54, hba]; exact Blk.new _ _ _)
  have AL := Lib.hid (show W12.heap.size ≤ ba from by rw [hba]; exact G_V44.out.size)
  have B_V54 := Lib.hid (show Blk V54 bb 24 #[.int .i64 0, .int .i64 0, .int .i64 0, .int .i64 0, .int .i64 0, .int .i64 0, .int .i64 0, .int .i64 0, .int .i64 0, .int .i64 0] from by rw [hV54]; exact B_V44.out.alloc _)
  have NE := Lib.hid (show ba ≠ bb from by have := B_V44.out.lt; omega)
  go_simp
  rw [← hV54, ← hba]
  clear hV54 hba
  refine hK.out _ _ (Cu.s16 HZ.out G_V54.out) (fun hHeld => ?_)
  clear hK K
  try simp only [Act.put, List.setIfInBounds_toArray, List.set_cons_zero, List.set_cons_succ]
  refine wpAnyH_ready (rs := [3]) (by kernel_rfl) (by simp) ?_
  refine AllReadyH.cons (o := _) rfl (fun K hK => ?_) AllReadyH.nil
  go_simp
  go_at_call 17
  (with_reducible refine (HGI.out _).mono ?_)
  rintro eV55 V55 ⟨rfl, g_V55⟩
  have G_V55 := Lib.hid (only_trans G_V54.out g_V55)
  have A_V55 := Lib.hid (A_V54.out.only g_V55 (by simp))
  have B_V55 := Lib.hid (B_V54.out.only g_V55 (by simp))
  clear g_V55
  refine hK.out _ _ (Cu.s16 HZ.out G_V55.out) (fun hHeld => ?_)
  clear hK K
  try simp only [Act.put, List.setIfInBounds_toArray, List.set_cons_zero, List.set_cons_succ]
  refine wpAnyH_ready (rs := [5]) (by kernel_rfl) (by simp) ?_
  refine AllReadyH.cons (o := _) rfl (fun K hK => ?_) AllReadyH.nil
  go_simp
  go_at_call 18
  (with_reducible refine (HWA.out _).mono ?_)
  rintro eV56 V56 ⟨rfl, g_V56⟩
  have G_V56 := Lib.hid (only_trans G_V55.out g_V56)
  have A_V56 := Lib.hid (A_V55.out.only g_V56 (by simp))
  have B_V56 := Lib.hid (B_V55.out.only g_V56 (by simp))
  clear g_V56
  refine hK.out _ _ (Cu.s16 HZ.out G_V56.out) (fun hHeld => ?_)
  clear hK K
  try simp only [Act.put, List.setIfInBounds_toArray, List.set_cons_zero, List.set_cons_succ]
  focus
    refine wpAnyH_ready (rs := [8]) (by kernel_rfl) (by simp) ?_
    refine AllReadyH.cons (o := _) rfl (fun K hK => ?_) AllReadyH.nil
    obtain ⟨q0, q1, q2, q3, q4, q5, q6, q7, q8, q9⟩ := Cu.cells10 A_V56.out
    obtain ⟨r0, r1, r2, r3, r4, r5, r6, r7, r8, r9⟩ := Cu.free10 A_V56.out
    obtain ⟨V57, hV57⟩ : ∃ Y, Y = ((((((((((V56.setCell ⟨ba, 0, none⟩ (.int .i64 ((Cu.gave (f (J)) x n)).pc)).setCell ⟨ba, 1, none⟩ (.int .i64 (((Cu.gave (f (J)) x n)).r 0))).setCell ⟨ba, 2, none⟩ (.int .i64 (((Cu.gave (f (J)) x n)).r 1))).setCell ⟨ba, 3, none⟩ (.int .i64 (((Cu.gave (f (J)) x n)).r 2))).setCell ⟨ba, 4, none⟩ (.int .i64 (((Cu.gave (f (J)) x n)).r 3))).setCell ⟨ba, 5, none⟩ (.int .i64 (((Cu.gave (f (J)) x n)).r 4))).setCell ⟨ba, 6, none⟩ (.int .i64 (((Cu.gave (f (J)) x n)).r 5))).setCell ⟨ba, 7, none⟩ (.int .i64 (((Cu.gave (f (J)) x n)).r 6))).setCell ⟨ba, 8, none⟩ (.int .i64 (((Cu.gave (f (J)) x n)).r 7))).setCell ⟨ba, 9, none⟩ (.int .i64 ((Cu.gave (f (J)) x n)).md)) := ⟨_, rfl⟩
    have hq := Cu.put10z A_V56.out (.int .i64 ((Cu.gave (f (J)) x n)).pc) (.int .i64 (((Cu.gave (f (J)) x n)).r 0)) (.int .i64 (((Cu.gave (f (J)) x n)).r 1)) (.int .i64 (((Cu.gave (f (J)) x n)).r 2)) (.int .i64 (((Cu.gave (f (J)) x n)).r 3)) (.int .i64 (((Cu.gave (f (J)) x n)).r 4)) (.int .i64 (((Cu.gave (f (J)) x n)).r 5)) (.int .i64 (((Cu.gave (f (J)) x n)).r 6)) (.int .i64 (((Cu.gave (f (J)) x n)).r 7)) (.int .i64 ((Cu.gave (f (J)) x n)).md) _ hV57
    have G_V57 := Lib.hid (Cu.grow_new G_V56.out hq.2 AL.out)
    have A_V57 := Lib.hid hq.1
    have B_V57 := Lib.hid (B_V56.out.only hq.2 (fun e => by injection e with e; exact NE.out e.symm))
    clear hq
    go_simp
    rw [← hV57]
    clear hV57 q0 q1 q2 q3 q4 q5 q6 q7 q8 q9 r0 r1 r2 r3 r4 r5 r6 r7 r8 r9
    refine hK.out _ _ (Cu.s16 HZ.out G_V57.out) (fun hHeld => ?_)
    clear hK K
    try simp only [Act.put, List.setIfInBounds_toArray, List.set_cons_zero, List.set_cons_succ]
    refine wpAnyH_ready (rs := [9]) (by kernel_rfl) (by simp) ?_
    refine AllReadyH.cons (o := _) rfl (fun K hK => ?_) AllReadyH.nil
    obtain ⟨q0, q1, q2, q3, q4, q5, q6, q7, q8, q9⟩ := Cu.cells10 B_V57.out
    obtain ⟨r0, r1, r2, r3, r4, r5, r6, r7, r8, r9⟩ := Cu.free10 B_V57.out
    obtain ⟨V58, hV58⟩ : ∃ Y, Y = ((((((((((V57.setCell ⟨bb, 0, none⟩ (.int .i64 ((Cu.woke (f (J)))).pc)).setCell ⟨bb, 1, none⟩ (.int .i64 (((Cu.woke (f (J)))).r 0))).setCell ⟨bb, 2, none⟩ (.int .i64 (((Cu.woke (f (J)))).r 1))).setCell ⟨bb, 3, none⟩ (.int .i64 (((Cu.woke (f (J)))).r 2))).setCell ⟨bb, 4, none⟩ (.int .i64 (((Cu.woke (f (J)))).r 3))).setCell ⟨bb, 5, none⟩ (.int .i64 (((Cu.woke (f (J)))).r 4))).setCell ⟨bb, 6, none⟩ (.int .i64 (((Cu.woke (f (J)))).r 5))).setCell ⟨bb, 7, none⟩ (.int .i64 (((Cu.woke (f (J)))).r 6))).setCell ⟨bb, 8, none⟩ (.int .i64 (((Cu.woke (f (J)))).r 7))).setCell ⟨bb, 9, none⟩ (.int .i64 ((Cu.woke (f (J)))).md)) := ⟨_, rfl⟩
    have hq := Cu.put10z B_V57.out (.int .i64 ((Cu.woke (f (J)))).pc) (.int .i64 (((Cu.woke (f (J)))).r 0)) (.int .i64 (((Cu.woke (f (J)))).r 1)) (.int .i64 (((Cu.woke (f (J)))).r 2)) (.int .i64 (((Cu.woke (f (J)))).r 3)) (.int .i64 (((Cu.woke (f (J)))).r 4)) (.int .i64 (((Cu.woke (f (J)))).r 5)) (.int .i64 (((Cu.woke (f (J)))).r 6)) (.int .i64 (((Cu.woke (f (J)))).r 7)) (.int .i64 ((Cu.woke (f (J)))).md) _ hV58
    have G_V58 := Lib.hid (Cu.grow_new G_V57.out hq.2 BL.out)
    have B_V58 := Lib.hid hq.1
    have A_V58 := Lib.hid (A_V57.out.only hq.2 (fun e => by injection e with e; exact NE.out e))
    clear hq
    go_simp
    rw [← hV58]
    clear hV58 q0 q1 q2 q3 q4 q5 q6 q7 q8 q9 r0 r1 r2 r3 r4 r5 r6 r7 r8 r9
    refine hK.out _ _ (Cu.s16 HZ.out G_V58.out) (fun hHeld => ?_)
    clear hK K
    try simp only [Act.put, List.setIfInBounds_toArray, List.set_cons_zero, List.set_cons_succ]
    refine wpAnyH_done (by kernel_rfl) ?_ _
    exact hQ ba bb _ _ _ _ _ _ _ G_V58.out A_V58.out B_V58.out
end Go.Proofs.YtiicoabkhponmaaDoor
