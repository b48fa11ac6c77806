import Derived.Test.YtiicoabkhponmaaDoorZ23
import Derived.Defers
import Derived.Scope
import Derived.WalkMore
import Derived.ScopeJumps
set_option linter.all false
/- Package cpu: Run, by contract, with where what it answers lies. -/
namespace Go.Proofs.YtiicoabkhponmaaDoor
open Go.RowKit Go.Lib
set_option linter.unusedVariables false
set_option maxRecDepth 8000

/-- A row of a call's own. -/
def Cu.RowO (w W : World) (v : Value) (j : Nat) (L : List Value) : Prop := RowZ 4 W v j L ∧ ∀ k, v.ownBlock = some k → w.heap.size ≤ k
section
variable {w W W' : World} {m B g vl j : Nat} {p q : List UInt8} {a : Cu.Af} {v : Value} {L : List Value}
theorem Cu.Ri.fin2 (h : Cu.Ri w W m B g p q vl a v j L) (p0 p1 p2 p3 p4 p5 p6 p7 p8 p9 : Value) : ∀ W', W' = ((((((((((W.setCell ⟨w.heap.size + 1 + 1, 0, none⟩ p0).setCell ⟨w.heap.size + 1 + 1, 1, none⟩ p1).setCell ⟨w.heap.size + 1 + 1, 2, none⟩ p2).setCell ⟨w.heap.size + 1 + 1, 3, none⟩ p3).setCell ⟨w.heap.size + 1 + 1, 4, none⟩ p4).setCell ⟨w.heap.size + 1 + 1, 5, none⟩ p5).setCell ⟨w.heap.size + 1 + 1, 6, none⟩ p6).setCell ⟨w.heap.size + 1 + 1, 7, none⟩ p7).setCell ⟨w.heap.size + 1 + 1, 8, none⟩ p8).setCell ⟨w.heap.size + 1 + 1, 9, none⟩ p9) → (W'.cell? ⟨w.heap.size + 1 + 1, 0, none⟩ = some p0 ∧ W'.cell? ⟨w.heap.size + 1 + 1, 1, none⟩ = some p1 ∧ W'.cell? ⟨w.heap.size + 1 + 1, 2, none⟩ = some p2 ∧ W'.cell? ⟨w.heap.size + 1 + 1, 3, none⟩ = some p3 ∧ W'.cell? ⟨w.heap.size + 1 + 1, 4, none⟩ = some p4 ∧ W'.cell? ⟨w.heap.size + 1 + 1, 5, none⟩ = some p5 ∧ W'.cell? ⟨w.heap.size + 1 + 1, 6, none⟩ = some p6 ∧ W'.cell? ⟨w.heap.size + 1 + 1, 7, none⟩ = some p7 ∧ W'.cell? ⟨w.heap.size + 1 + 1, 8, none⟩ = some p8 ∧ W'.cell? ⟨w.heap.size + 1 + 1, 9, none⟩ = some p9) ∧ Cu.RowO w W' v j L ∧ MemG W' B m g (p ++ a.v ++ q) ∧ w.grownBy W' (some g) := by
  intro W' hW
  obtain ⟨h1, h2, h3, h4⟩ := h.fin p0 p1 p2 p3 p4 p5 p6 p7 p8 p9 W' hW
  exact ⟨h1, ⟨h2, fun k hk => by have := h.own k hk; omega⟩, h3, h4⟩
end
def Cu.RunW (w : World) (B m g : Nat) (p q : List UInt8) (f : Nat → Cu.Af) (n : Int) (e : Ending) (w' : World) : Prop :=
  ∃ j v, Cu.Ends f n j ∧ e = .returned (.tuple #[Cu.stV (f j).pc (f j).r (f j).md, v]) ∧ Cu.RowO w w' v j (Cu.outs f j) ∧ MemG w' B m g (p ++ (f j).v ++ q) ∧ w.grownBy w' (some g)
set_option maxRecDepth 20000 in
set_option maxHeartbeats 12800000 in
theorem Cu.run_own (w : World) (B m g vl : Nat) (p q : List UInt8) (f : Nat → Cu.Af) (pc md n : Int) (r : Nat → Int) (hn : n ≤ 100) (hf0 : f 0 = ⟨(f 0).v, pc, r, md, 0, 0, 0, 0⟩) (h : MemG w B m g (p ++ (f 0).v ++ q)) (hs : ∀ j W, MemG W B m g (p ++ (f j).v ++ q) → w.grownBy W (some g) → Calls Tryd.prog 10 #[.agg #[.pointer (some ⟨m, 0, none⟩), .int .i64 p.length, .int .i64 vl], .agg #[.int .i64 (f j).pc, .int .i64 ((f j).r 0), .int .i64 ((f j).r 1), .int .i64 ((f j).r 2), .int .i64 ((f j).r 3), .int .i64 ((f j).r 4), .int .i64 ((f j).r 5), .int .i64 ((f j).r 6), .int .i64 ((f j).r 7), .int .i64 (f j).md]] W fun e w' => e = .returned (.tuple #[.agg #[.int .i64 (f (j + 1)).pc, .int .i64 ((f (j + 1)).r 0), .int .i64 ((f (j + 1)).r 1), .int .i64 ((f (j + 1)).r 2), .int .i64 ((f (j + 1)).r 3), .int .i64 ((f (j + 1)).r 4), .int .i64 ((f (j + 1)).r 5), .int .i64 ((f (j + 1)).r 6), .int .i64 ((f (j + 1)).r 7), .int .i64 (f (j + 1)).md], .agg #[.int .i64 (f (j + 1)).o1, .int .i64 (f (j + 1)).o2, .int .i64 (f (j + 1)).o3, .int .i64 (f (j + 1)).o4]]) ∧ MemG w' B m g (p ++ (f (j + 1)).v ++ q) ∧ W.grownBy w' (some g)) :
    Calls Tryd.prog 16 #[Cu.vw m p.length vl, Cu.stV pc r md, .int .i64 n] w (Cu.RunW w B m g p q f n) := by
  have HS := Lib.hid hs
  have HV := Lib.hid (show ∀ j v w', Cu.Ends f n j → Cu.RowO w w' v j (Cu.outs f j) → MemG w' B m g (p ++ (f j).v ++ q) → w.grownBy w' (some g) → Cu.RunW w B m g p q f n (.returned (.tuple #[.agg #[.int .i64 (f j).pc, .int .i64 ((f j).r 0), .int .i64 ((f j).r 1), .int .i64 ((f j).r 2), .int .i64 ((f j).r 3), .int .i64 ((f j).r 4), .int .i64 ((f j).r 5), .int .i64 ((f j).r 6), .int .i64 ((f j).r 7), .int .i64 (f j).md], v])) w' from fun j v w' h1 h2 h3 h4 => ⟨j, v, h1, rfl, h2, h3, h4⟩)
  have hr0 : Cu.stC pc r md = Cu.stC (f 0).pc (f 0).r (f 0).md := by rw [hf0]
  obtain ⟨W1, hW1, g1, hB1⟩ := ibox w 28 #[.pointer (some ⟨m, 0, none⟩), .int .i64 p.length, .int .i64 vl]
  obtain ⟨W2, hW2, g2, hB2⟩ := ibox W1 24 (Cu.stC pc r md)
  obtain ⟨W, hW, g3, hB3⟩ := ibox W2 24 #[.int .i64 0, .int .i64 0, .int .i64 0, .int .i64 0, .int .i64 0, .int .i64 0, .int .i64 0, .int .i64 0, .int .i64 0, .int .i64 0]
  have z1 : W1.heap.size = w.heap.size + 1 := by rw [hW1]; simp
  have z2 : W2.heap.size = w.heap.size + 1 + 1 := by rw [hW2]; simp [z1]
  have HR := Lib.hid (show Cu.Ri w W m B g p q vl (f 0) (.slice none 0 0) 0 (Cu.outs f 0) from
    ⟨hB1.only (only_trans g2 g3) (by simp), by rw [← hr0]; rw [z1] at hB2; exact hB2.only g3 (by simp), by rw [z2] at hB3; exact hB3, h.grown (only_trans g1 (only_trans g2 g3)), RowZ.nil 4 W, fun k hk => by simp [Value.ownBlock] at hk, only_any (only_trans g1 (only_trans g2 g3)) _, h.lt.2, h.lt.1⟩)
  have HPR := Lib.hid (show Cu.Pre f n 0 from ⟨fun i hi => absurd hi (by omega), fun i _ hi => absurd hi (by omega)⟩)
  have hn9 : n ≤ 100 := hn
  clear hs hB1 hB2 hB3 g1 g2 g3 h z1 z2 hr0 hf0
  unfold Cu.vw Cu.stV
  unfold Cu.stC at hW2 ⊢
  go_enter Tryd.func16, Tryd.ntmps16
  go_wp2
  have hWW : W = ((w.alloc (.cells #[.pointer (some ⟨m, 0, none⟩), .int .i64 p.length, .int .i64 vl] 28)).alloc (.cells #[.int .i64 pc, .int .i64 (r 0), .int .i64 (r 1), .int .i64 (r 2), .int .i64 (r 3), .int .i64 (r 4), .int .i64 (r 5), .int .i64 (r 6), .int .i64 (r 7), .int .i64 md] 24)).alloc (.cells #[.int .i64 0, .int .i64 0, .int .i64 0, .int .i64 0, .int .i64 0, .int .i64 0, .int .i64 0, .int .i64 0, .int .i64 0, .int .i64 0] 24) := by rw [hW, hW2, hW1]
  rw [← hWW]
  clear hWW hW hW1 hW2
  refine wp_scope_jumps 0 (fun a' w' => ∃ (j : Nat) (A : Option Addr) (c : Nat) (u5 u9 u10 u11 u12 u13 u14 u15 u16 u17 u18 u19 u20 u21 u22 u23 u24 u25 u26 u27 u28 u29 u30 u31 u32 u33 u34 u35 : Value), a' = { tmps := #[.agg #[.pointer (some ⟨m, 0, none⟩), .int .i64 p.length, .int .i64 vl], .agg #[.int .i64 pc, .int .i64 (r 0), .int .i64 (r 1), .int .i64 (r 2), .int .i64 (r 3), .int .i64 (r 4), .int .i64 (r 5), .int .i64 (r 6), .int .i64 (r 7), .int .i64 md], .int .i64 n, .pointer (some ⟨w.heap.size, 0, none⟩), .pointer (some ⟨w.heap.size + 1, 0, none⟩), u5, .pointer (some ⟨w.heap.size + 1 + 1, 0, none⟩), .slice none 0 0, .slice A j c, u9, u10, u11, u12, u13, u14, u15, u16, u17, u18, u19, u20, u21, u22, u23, u24, u25, u26, u27, u28, u29, u30, u31, u32, u33, u34, u35], defers := [] } ∧ Hid (Cu.Ri w w' m B g p q vl (f j) (.slice A j c) j (Cu.outs f j)) ∧ Hid (Cu.Pre f n j) ∧ Hid (0 < j → (f j).o1 ≠ 2)) (fun a' _ => (100 : Nat) - (match a'.tmps.getD 8 undef with | .slice _ k _ => k | _ => 0)) rfl ?_ ?_
  · go_wp2
    go_step3
    obtain ⟨⟨v0, v1, v2⟩, ⟨s0, s1, s2, s3, s4, s5, s6, s7, s8, s9⟩, ⟨z0, z1, z2, z3, z4, z5, z6, z7, z8, z9⟩, ⟨f0, f1, f2, f3, f4, f5, f6, f7, f8, f9⟩⟩ := HR.out.cells
    by_cases c1 : n ≤ 0
    · have HPJ := Lib.hid (show Cu.Ends f n 0 from ⟨HPR.out, .inl c1⟩)
      go_wp2
      obtain ⟨⟨r0, r1, r2, r3, r4, r5, r6, r7, r8, r9⟩, hz, hmz, hgz⟩ := HR.out.fin2 (.int .i64 (f 0).pc) (.int .i64 ((f 0).r 0)) (.int .i64 ((f 0).r 1)) (.int .i64 ((f 0).r 2)) (.int .i64 ((f 0).r 3)) (.int .i64 ((f 0).r 4)) (.int .i64 ((f 0).r 5)) (.int .i64 ((f 0).r 6)) (.int .i64 ((f 0).r 7)) (.int .i64 (f 0).md) _ rfl
      simp only [Exit.jump]
      refine bodyPost_ret (v := .tuple #[.agg #[.int .i64 (f 0).pc, .int .i64 ((f 0).r 0), .int .i64 ((f 0).r 1), .int .i64 ((f 0).r 2), .int .i64 ((f 0).r 3), .int .i64 ((f 0).r 4), .int .i64 ((f 0).r 5), .int .i64 ((f 0).r 6), .int .i64 ((f 0).r 7), .int .i64 (f 0).md], .slice none 0 0]) (by simp [results, Tryd.results16, go_sem, r0, r1, r2, r3, r4, r5, r6, r7, r8, r9]) rfl (HV.out _ _ _ HPJ.out hz hmz hgz)
    · by_cases c2 : (f 0).md ≠ 0
      · have HPJ := Lib.hid (show Cu.Ends f n 0 from ⟨HPR.out, .inr (.inl c2)⟩)
        have c3 : ((f 0).md == 0) = false := by simpa using c2
        go_wp2
        obtain ⟨⟨r0, r1, r2, r3, r4, r5, r6, r7, r8, r9⟩, hz, hmz, hgz⟩ := HR.out.fin2 (.int .i64 (f 0).pc) (.int .i64 ((f 0).r 0)) (.int .i64 ((f 0).r 1)) (.int .i64 ((f 0).r 2)) (.int .i64 ((f 0).r 3)) (.int .i64 ((f 0).r 4)) (.int .i64 ((f 0).r 5)) (.int .i64 ((f 0).r 6)) (.int .i64 ((f 0).r 7)) (.int .i64 (f 0).md) _ rfl
        simp only [Exit.jump]
        refine bodyPost_ret (v := .tuple #[.agg #[.int .i64 (f 0).pc, .int .i64 ((f 0).r 0), .int .i64 ((f 0).r 1), .int .i64 ((f 0).r 2), .int .i64 ((f 0).r 3), .int .i64 ((f 0).r 4), .int .i64 ((f 0).r 5), .int .i64 ((f 0).r 6), .int .i64 ((f 0).r 7), .int .i64 (f 0).md], .slice none 0 0]) (by simp [results, Tryd.results16, go_sem, r0, r1, r2, r3, r4, r5, r6, r7, r8, r9]) rfl (HV.out _ _ _ HPJ.out hz hmz hgz)
      · replace c2 := Classical.not_not.1 c2
        have c3 : ((f 0).md == 0) = true := by simp [c2]
        have HPN := Lib.hid (HPR.out.next (by simpa using c1) c2 (fun h0 => absurd h0 (by omega)))
        have HWA := Lib.hid (HR.out.step (only_alloc (only_refl W none) (.cells #[.int .i64 0, .int .i64 0, .int .i64 0, .int .i64 0] 37)))
        have HBA := Lib.hid (Blk.new W 37 #[.int .i64 0, .int .i64 0, .int .i64 0, .int .i64 0])
        obtain ⟨b, hb⟩ : ∃ b, b = W.heap.size := ⟨_, rfl⟩
        obtain ⟨Wa, hWa⟩ : ∃ Wa, Wa = W.alloc (.cells #[.int .i64 0, .int .i64 0, .int .i64 0, .int .i64 0] 37) := ⟨_, rfl⟩
        rw [← hWa, ← hb] at HBA
        rw [← hWa] at HWA
        have HBN := Lib.hid (show w.heap.size + 3 ≤ b from by have := HR.out.rs.lt; omega)
        have HBV := Lib.hid (show (.slice none 0 0 : Value).ownBlock ≠ some b from fun e => by have := HR.out.row.lt _ e; omega)
        have HST := Lib.hid (HS.out 0 Wa HWA.out.mem HWA.out.grow)
        go_upto_region 5 with (fail)
        rw [← hWa, ← hb]
        clear hWa hb c2 c3 v0 v1 v2 s0 s1 s2 s3 s4 s5 s6 s7 s8 s9 z0 z1 z2 z3 z4 z5 z6 z7 z8 z9 f0 f1 f2 f3 f4 f5 f6 f7 f8 f9
        obtain ⟨⟨v0, v1, v2⟩, ⟨s0, s1, s2, s3, s4, s5, s6, s7, s8, s9⟩, -, -⟩ := HWA.out.cells
        have nb1 : ¬ w.heap.size + 1 = b := by have := HBN.out; omega
        have nb2 : ¬ b = w.heap.size + 1 := by have := HBN.out; omega
        go_upto_region 6 with (go_at_call 10; (with_reducible refine HST.out.mono ?_); rintro e w2 ⟨rfl, hm2, g2⟩; obtain ⟨⟨a0, a1, a2, a3, a4, a5, a6, a7, a8, a9⟩, ⟨b0, b1, b2, b3, b4, b5, b6, b7, b8, b9⟩, ⟨d0, d1, d2, d3⟩, ⟨e0, e1, e2, e3⟩⟩ := HWA.out.aft HBA.out HBN.out g2; have HNX := Lib.hid (HWA.out.next (a2 := f (0 + 1)) HBA.out rfl HBN.out HBV.out g2 hm2); clear v0 v1 v2 s0 s1 s2 s3 s4 s5 s6 s7 s8 s9 hm2 g2)
        clear a0 a1 a2 a3 a4 a5 a6 a7 a8 a9 b0 b1 b2 b3 b4 b5 b6 b7 b8 b9 d0 d1 d2 d3 e0 e1 e2 e3
        obtain ⟨w3, hw3⟩ : ∃ w3, w3 = ((((((((((((((w2.setCell ⟨w.heap.size + 1, 0, none⟩ (.int .i64 (f (0 + 1)).pc)).setCell ⟨w.heap.size + 1, 1, none⟩ (.int .i64 ((f (0 + 1)).r 0))).setCell ⟨w.heap.size + 1, 2, none⟩ (.int .i64 ((f (0 + 1)).r 1))).setCell ⟨w.heap.size + 1, 3, none⟩ (.int .i64 ((f (0 + 1)).r 2))).setCell ⟨w.heap.size + 1, 4, none⟩ (.int .i64 ((f (0 + 1)).r 3))).setCell ⟨w.heap.size + 1, 5, none⟩ (.int .i64 ((f (0 + 1)).r 4))).setCell ⟨w.heap.size + 1, 6, none⟩ (.int .i64 ((f (0 + 1)).r 5))).setCell ⟨w.heap.size + 1, 7, none⟩ (.int .i64 ((f (0 + 1)).r 6))).setCell ⟨w.heap.size + 1, 8, none⟩ (.int .i64 ((f (0 + 1)).r 7))).setCell ⟨w.heap.size + 1, 9, none⟩ (.int .i64 (f (0 + 1)).md)).setCell ⟨b, 0, none⟩ (.int .i64 (f (0 + 1)).o1)).setCell ⟨b, 1, none⟩ (.int .i64 (f (0 + 1)).o2)).setCell ⟨b, 2, none⟩ (.int .i64 (f (0 + 1)).o3)).setCell ⟨b, 3, none⟩ (.int .i64 (f (0 + 1)).o4)) := ⟨_, rfl⟩
        rw [← hw3] at HNX ⊢
        clear hw3
        have HR3 := Lib.hid HNX.out.1
        have HB3 := Lib.hid HNX.out.2
        clear HNX
        have d0 := HB3.out.cell 0
        have d1 := HB3.out.cell 1
        have d2 := HB3.out.cell 2
        have d3 := HB3.out.cell 3
        obtain ⟨A5, c5, w5, hk5, hr5, g5, ho5⟩ := Cu.out_push f HR3.out.row (by omega)
        have HK := Lib.hid hk5
        have HR5 := Lib.hid ((HR3.out.step (only_alloc (only_refl w3 none) _)).more g5 hr5 (by
          rcases ho5 with e | e
          · exact .inl e
          · exact .inr ⟨_, e, by have := HR3.out.rs.lt; omega⟩))
        have HB5 := Lib.hid (((HB3.out.only (only_alloc (only_refl w3 none) _) (by simp))).only g5 (fun e => HBV.out e.symm))
        clear hk5 hr5 g5 ho5
        go_upto_region 7 with (at_builtin; refine wpList_append_eq rfl (.tmp 27) (.tmp 29) 52 rfl HK.out rfl rfl ?_)
        clear d0 d1 d2 d3
        have o0 := HB5.out.cell 0
        have HPJ := Lib.hid (show (f (0 + 1)).o1 = 2 → Cu.Ends f n (0 + 1) from fun e => ⟨HPN.out, .inr (.inr ⟨Nat.succ_pos _, e⟩)⟩)
        obtain ⟨⟨v0, v1, v2⟩, ⟨s0, s1, s2, s3, s4, s5, s6, s7, s8, s9⟩, ⟨z0, z1, z2, z3, z4, z5, z6, z7, z8, z9⟩, ⟨f0, f1, f2, f3, f4, f5, f6, f7, f8, f9⟩⟩ := HR5.out.cells
        by_cases c4 : (f (0 + 1)).o1 = 2
        · have HPK := Lib.hid (HPJ.out c4)
          have c6 : ((f (0 + 1)).o1 == 2) = true := by simp [c4]
          clear HPJ
          go_wp2
          obtain ⟨⟨r0, r1, r2, r3, r4, r5, r6, r7, r8, r9⟩, hz, hmz, hgz⟩ := HR5.out.fin2 (.int .i64 (f (0 + 1)).pc) (.int .i64 ((f (0 + 1)).r 0)) (.int .i64 ((f (0 + 1)).r 1)) (.int .i64 ((f (0 + 1)).r 2)) (.int .i64 ((f (0 + 1)).r 3)) (.int .i64 ((f (0 + 1)).r 4)) (.int .i64 ((f (0 + 1)).r 5)) (.int .i64 ((f (0 + 1)).r 6)) (.int .i64 ((f (0 + 1)).r 7)) (.int .i64 (f (0 + 1)).md) _ rfl
          simp only [Exit.jump]
          refine bodyPost_ret (v := .tuple #[.agg #[.int .i64 (f (0 + 1)).pc, .int .i64 ((f (0 + 1)).r 0), .int .i64 ((f (0 + 1)).r 1), .int .i64 ((f (0 + 1)).r 2), .int .i64 ((f (0 + 1)).r 3), .int .i64 ((f (0 + 1)).r 4), .int .i64 ((f (0 + 1)).r 5), .int .i64 ((f (0 + 1)).r 6), .int .i64 ((f (0 + 1)).r 7), .int .i64 (f (0 + 1)).md], .slice A5 (0 + 1) c5]) (by simp [results, Tryd.results16, go_sem, r0, r1, r2, r3, r4, r5, r6, r7, r8, r9]) rfl (HV.out _ _ _ HPK.out hz hmz hgz)
        · have c6 : ((f 1).o1 == 2) = false := by simpa using c4
          have c7 : ¬ (f 1).o1 = 2 := c4
          have HO2 := Lib.hid (show 0 < 0 + 1 → (f (0 + 1)).o1 ≠ 2 from fun _ => c4)
          go_wp2
          go_step3
          exact ⟨rfl, 0 + 1, A5, c5, _, _, _, _, _, _, _, _, _, _, _, _, _, _, _, _, _, _, _, _, _, _, _, _, _, _, _, _, rfl, HR5, HPN, HO2⟩
  · rintro a' w' ⟨j, A, c, u5, u9, u10, u11, u12, u13, u14, u15, u16, u17, u18, u19, u20, u21, u22, u23, u24, u25, u26, u27, u28, u29, u30, u31, u32, u33, u34, u35, rfl, HR, HPR, HO⟩
    obtain ⟨⟨v0, v1, v2⟩, ⟨s0, s1, s2, s3, s4, s5, s6, s7, s8, s9⟩, ⟨z0, z1, z2, z3, z4, z5, z6, z7, z8, z9⟩, ⟨f0, f1, f2, f3, f4, f5, f6, f7, f8, f9⟩⟩ := HR.out.cells
    by_cases c1 : n ≤ (j : Int)
    · have HPJ := Lib.hid (show Cu.Ends f n j from ⟨HPR.out, .inl c1⟩)
      go_wp2
      obtain ⟨⟨r0, r1, r2, r3, r4, r5, r6, r7, r8, r9⟩, hz, hmz, hgz⟩ := HR.out.fin2 (.int .i64 (f j).pc) (.int .i64 ((f j).r 0)) (.int .i64 ((f j).r 1)) (.int .i64 ((f j).r 2)) (.int .i64 ((f j).r 3)) (.int .i64 ((f j).r 4)) (.int .i64 ((f j).r 5)) (.int .i64 ((f j).r 6)) (.int .i64 ((f j).r 7)) (.int .i64 (f j).md) _ rfl
      simp only [Exit.jump]
      refine bodyPost_ret (v := .tuple #[.agg #[.int .i64 (f j).pc, .int .i64 ((f j).r 0), .int .i64 ((f j).r 1), .int .i64 ((f j).r 2), .int .i64 ((f j).r 3), .int .i64 ((f j).r 4), .int .i64 ((f j).r 5), .int .i64 ((f j).r 6), .int .i64 ((f j).r 7), .int .i64 (f j).md], .slice A j c]) (by simp [results, Tryd.results16, go_sem, r0, r1, r2, r3, r4, r5, r6, r7, r8, r9]) rfl (HV.out _ _ _ HPJ.out hz hmz hgz)
    · by_cases c2 : (f j).md ≠ 0
      · have HPJ := Lib.hid (show Cu.Ends f n j from ⟨HPR.out, .inr (.inl c2)⟩)
        have c3 : ((f j).md == 0) = false := by simpa using c2
        go_wp2
        obtain ⟨⟨r0, r1, r2, r3, r4, r5, r6, r7, r8, r9⟩, hz, hmz, hgz⟩ := HR.out.fin2 (.int .i64 (f j).pc) (.int .i64 ((f j).r 0)) (.int .i64 ((f j).r 1)) (.int .i64 ((f j).r 2)) (.int .i64 ((f j).r 3)) (.int .i64 ((f j).r 4)) (.int .i64 ((f j).r 5)) (.int .i64 ((f j).r 6)) (.int .i64 ((f j).r 7)) (.int .i64 (f j).md) _ rfl
        simp only [Exit.jump]
        refine bodyPost_ret (v := .tuple #[.agg #[.int .i64 (f j).pc, .int .i64 ((f j).r 0), .int .i64 ((f j).r 1), .int .i64 ((f j).r 2), .int .i64 ((f j).r 3), .int .i64 ((f j).r 4), .int .i64 ((f j).r 5), .int .i64 ((f j).r 6), .int .i64 ((f j).r 7), .int .i64 (f j).md], .slice A j c]) (by simp [results, Tryd.results16, go_sem, r0, r1, r2, r3, r4, r5, r6, r7, r8, r9]) rfl (HV.out _ _ _ HPJ.out hz hmz hgz)
      · replace c2 := Classical.not_not.1 c2
        have c3 : ((f j).md == 0) = true := by simp [c2]
        have HLT := Lib.hid (show j < 100 from by omega)
        have HPN := Lib.hid (HPR.out.next (by simpa using c1) c2 HO.out)
        have HWA := Lib.hid (HR.out.step (only_alloc (only_refl w' none) (.cells #[.int .i64 0, .int .i64 0, .int .i64 0, .int .i64 0] 37)))
        have HBA := Lib.hid (Blk.new w' 37 #[.int .i64 0, .int .i64 0, .int .i64 0, .int .i64 0])
        obtain ⟨b, hb⟩ : ∃ b, b = w'.heap.size := ⟨_, rfl⟩
        obtain ⟨Wa, hWa⟩ : ∃ Wa, Wa = w'.alloc (.cells #[.int .i64 0, .int .i64 0, .int .i64 0, .int .i64 0] 37) := ⟨_, rfl⟩
        rw [← hWa, ← hb] at HBA
        rw [← hWa] at HWA
        have HBN := Lib.hid (show w.heap.size + 3 ≤ b from by have := HR.out.rs.lt; omega)
        have HBV := Lib.hid (show (.slice A j c : Value).ownBlock ≠ some b from fun e => by have := HR.out.row.lt _ e; omega)
        have HST := Lib.hid (HS.out j Wa HWA.out.mem HWA.out.grow)
        go_upto_region 5 with (fail)
        rw [← hWa, ← hb]
        clear hWa hb c2 c3 v0 v1 v2 s0 s1 s2 s3 s4 s5 s6 s7 s8 s9 z0 z1 z2 z3 z4 z5 z6 z7 z8 z9 f0 f1 f2 f3 f4 f5 f6 f7 f8 f9
        obtain ⟨⟨v0, v1, v2⟩, ⟨s0, s1, s2, s3, s4, s5, s6, s7, s8, s9⟩, -, -⟩ := HWA.out.cells
        have nb1 : ¬ w.heap.size + 1 = b := by have := HBN.out; omega
        have nb2 : ¬ b = w.heap.size + 1 := by have := HBN.out; omega
        go_upto_region 6 with (go_at_call 10; (with_reducible refine HST.out.mono ?_); rintro e w2 ⟨rfl, hm2, g2⟩; obtain ⟨⟨a0, a1, a2, a3, a4, a5, a6, a7, a8, a9⟩, ⟨b0, b1, b2, b3, b4, b5, b6, b7, b8, b9⟩, ⟨d0, d1, d2, d3⟩, ⟨e0, e1, e2, e3⟩⟩ := HWA.out.aft HBA.out HBN.out g2; have HNX := Lib.hid (HWA.out.next (a2 := f (j + 1)) HBA.out rfl HBN.out HBV.out g2 hm2); clear v0 v1 v2 s0 s1 s2 s3 s4 s5 s6 s7 s8 s9 hm2 g2)
        clear a0 a1 a2 a3 a4 a5 a6 a7 a8 a9 b0 b1 b2 b3 b4 b5 b6 b7 b8 b9 d0 d1 d2 d3 e0 e1 e2 e3
        obtain ⟨w3, hw3⟩ : ∃ w3, w3 = ((((((((((((((w2.setCell ⟨w.heap.size + 1, 0, none⟩ (.int .i64 (f (j + 1)).pc)).setCell ⟨w.heap.size + 1, 1, none⟩ (.int .i64 ((f (j + 1)).r 0))).setCell ⟨w.heap.size + 1, 2, none⟩ (.int .i64 ((f (j + 1)).r 1))).setCell ⟨w.heap.size + 1, 3, none⟩ (.int .i64 ((f (j + 1)).r 2))).setCell ⟨w.heap.size + 1, 4, none⟩ (.int .i64 ((f (j + 1)).r 3))).setCell ⟨w.heap.size + 1, 5, none⟩ (.int .i64 ((f (j + 1)).r 4))).setCell ⟨w.heap.size + 1, 6, none⟩ (.int .i64 ((f (j + 1)).r 5))).setCell ⟨w.heap.size + 1, 7, none⟩ (.int .i64 ((f (j + 1)).r 6))).setCell ⟨w.heap.size + 1, 8, none⟩ (.int .i64 ((f (j + 1)).r 7))).setCell ⟨w.heap.size + 1, 9, none⟩ (.int .i64 (f (j + 1)).md)).setCell ⟨b, 0, none⟩ (.int .i64 (f (j + 1)).o1)).setCell ⟨b, 1, none⟩ (.int .i64 (f (j + 1)).o2)).setCell ⟨b, 2, none⟩ (.int .i64 (f (j + 1)).o3)).setCell ⟨b, 3, none⟩ (.int .i64 (f (j + 1)).o4)) := ⟨_, rfl⟩
        rw [← hw3] at HNX ⊢
        clear hw3
        have HR3 := Lib.hid HNX.out.1
        have HB3 := Lib.hid HNX.out.2
        clear HNX
        have d0 := HB3.out.cell 0
        have d1 := HB3.out.cell 1
        have d2 := HB3.out.cell 2
        have d3 := HB3.out.cell 3
        obtain ⟨A5, c5, w5, hk5, hr5, g5, ho5⟩ := Cu.out_push f HR3.out.row (by omega)
        have HK := Lib.hid hk5
        have HR5 := Lib.hid ((HR3.out.step (only_alloc (only_refl w3 none) _)).more g5 hr5 (by
          rcases ho5 with e | e
          · exact .inl e
          · exact .inr ⟨_, e, by have := HR3.out.rs.lt; omega⟩))
        have HB5 := Lib.hid (((HB3.out.only (only_alloc (only_refl w3 none) _) (by simp))).only g5 (fun e => HBV.out e.symm))
        clear hk5 hr5 g5 ho5
        go_upto_region 7 with (at_builtin; refine wpList_append_eq rfl (.tmp 27) (.tmp 29) 52 rfl HK.out rfl rfl ?_)
        clear d0 d1 d2 d3
        have o0 := HB5.out.cell 0
        have HPJ := Lib.hid (show (f (j + 1)).o1 = 2 → Cu.Ends f n (j + 1) from fun e => ⟨HPN.out, .inr (.inr ⟨Nat.succ_pos _, e⟩)⟩)
        obtain ⟨⟨v0, v1, v2⟩, ⟨s0, s1, s2, s3, s4, s5, s6, s7, s8, s9⟩, ⟨z0, z1, z2, z3, z4, z5, z6, z7, z8, z9⟩, ⟨f0, f1, f2, f3, f4, f5, f6, f7, f8, f9⟩⟩ := HR5.out.cells
        by_cases c4 : (f (j + 1)).o1 = 2
        · have HPK := Lib.hid (HPJ.out c4)
          have c6 : ((f (j + 1)).o1 == 2) = true := by simp [c4]
          clear HPJ
          go_wp2
          obtain ⟨⟨r0, r1, r2, r3, r4, r5, r6, r7, r8, r9⟩, hz, hmz, hgz⟩ := HR5.out.fin2 (.int .i64 (f (j + 1)).pc) (.int .i64 ((f (j + 1)).r 0)) (.int .i64 ((f (j + 1)).r 1)) (.int .i64 ((f (j + 1)).r 2)) (.int .i64 ((f (j + 1)).r 3)) (.int .i64 ((f (j + 1)).r 4)) (.int .i64 ((f (j + 1)).r 5)) (.int .i64 ((f (j + 1)).r 6)) (.int .i64 ((f (j + 1)).r 7)) (.int .i64 (f (j + 1)).md) _ rfl
          simp only [Exit.jump]
          refine bodyPost_ret (v := .tuple #[.agg #[.int .i64 (f (j + 1)).pc, .int .i64 ((f (j + 1)).r 0), .int .i64 ((f (j + 1)).r 1), .int .i64 ((f (j + 1)).r 2), .int .i64 ((f (j + 1)).r 3), .int .i64 ((f (j + 1)).r 4), .int .i64 ((f (j + 1)).r 5), .int .i64 ((f (j + 1)).r 6), .int .i64 ((f (j + 1)).r 7), .int .i64 (f (j + 1)).md], .slice A5 (j + 1) c5]) (by simp [results, Tryd.results16, go_sem, r0, r1, r2, r3, r4, r5, r6, r7, r8, r9]) rfl (HV.out _ _ _ HPK.out hz hmz hgz)
        · have c6 : ((f (j + 1)).o1 == 2) = false := by simpa using c4
          have c7 : ¬ (f (j + 1)).o1 = 2 := c4
          have HO2 := Lib.hid (show 0 < j + 1 → (f (j + 1)).o1 ≠ 2 from fun _ => c4)
          go_wp2
          go_step3
          refine ⟨rfl, ⟨j + 1, A5, c5, _, _, _, _, _, _, _, _, _, _, _, _, _, _, _, _, _, _, _, _, _, _, _, _, _, _, _, _, rfl, HR5, HPN, HO2⟩, ?_⟩
          have := HLT.out
          show 100 - (j + 1) < 100 - j
          omega
end Go.Proofs.YtiicoabkhponmaaDoor
