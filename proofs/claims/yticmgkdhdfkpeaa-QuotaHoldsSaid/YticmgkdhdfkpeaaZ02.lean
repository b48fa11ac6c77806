import Derived.Test.YticmgkdhdfkpeaaZ01
import Derived.Deep.WholeRow
import Derived.Lib.QuietBelow
import Derived.LoopTactic
set_option linter.all false
/- Accounts: what is left, a unit more: by contract. -/
namespace Go.Proofs.Yticmgkdhdfkpeaa
open Go.RowKit Go.Lib
set_option linter.unusedVariables false
set_option maxRecDepth 8000

section
variable {w : World} {b f n m : Nat} {Q : Nat → Nat} {s : Qt.St}
theorem Qt.Acc.putd (h : Qt.Acc w b f n Q s m) {i : Nat} (hi : i < n) : Blk (w.setCell ⟨b, 27 + i, none⟩ (.int .i64 ((s.D i : Int) + 1))) b 52 (Qt.cs f n Q s.fr s.U s.T (Qt.upd s.D i (s.D i + 1))) := by
  have := h.blk.put (27 + i) (.int .i64 ((s.D i + 1 : Nat) : Int))
  rw [Qt.put_d _ _ _ _ _ _ _ (Nat.lt_of_lt_of_le hi h.bd.n8)] at this
  exact this
theorem Qt.blk_putt {Q U T D : Nat → Nat} {fr : Nat} (h : Blk w b 52 (Qt.cs f n Q fr U T D)) {i : Nat} (hi : i < 8) : Blk (w.setCell ⟨b, 19 + i, none⟩ (.int .i64 ((T i : Int) + 1))) b 52 (Qt.cs f n Q fr U (Qt.upd T i (T i + 1)) D) := by
  have := h.put (19 + i) (.int .i64 ((T i + 1 : Nat) : Int))
  rw [Qt.put_t _ _ _ _ _ _ _ hi] at this
  exact this
theorem Qt.blk_putu {Q U T D : Nat → Nat} {fr : Nat} (h : Blk w b 52 (Qt.cs f n Q fr U T D)) {i : Nat} (hi : i < 8) : Blk (w.setCell ⟨b, 11 + i, none⟩ (.int .i64 ((U i : Int) + 1))) b 52 (Qt.cs f n Q fr (Qt.upd U i (U i + 1)) T D) := by
  have := h.put (11 + i) (.int .i64 ((U i + 1 : Nat) : Int))
  rw [Qt.put_u _ _ _ _ _ _ _ hi] at this
  exact this
theorem Qt.u_cells {Q U T D : Nat → Nat} {fr : Nat} (h : Blk w b 52 (Qt.cs f n Q fr U T D)) : w.cell? ⟨b, 11, none⟩ = some (.int .i64 (U 0)) ∧ w.cell? ⟨b, 12, none⟩ = some (.int .i64 (U 1)) ∧ w.cell? ⟨b, 13, none⟩ = some (.int .i64 (U 2)) ∧ w.cell? ⟨b, 14, none⟩ = some (.int .i64 (U 3)) ∧ w.cell? ⟨b, 15, none⟩ = some (.int .i64 (U 4)) ∧ w.cell? ⟨b, 16, none⟩ = some (.int .i64 (U 5)) ∧ w.cell? ⟨b, 17, none⟩ = some (.int .i64 (U 6)) ∧ w.cell? ⟨b, 18, none⟩ = some (.int .i64 (U 7)) :=
  ⟨h.cell 11, h.cell 12, h.cell 13, h.cell 14, h.cell 15, h.cell 16, h.cell 17, h.cell 18⟩
theorem Qt.u_free {cs : Array Value} (h : Blk w b 52 cs) : w.frozen? ⟨b, 11, none⟩ = false ∧ w.frozen? ⟨b, 12, none⟩ = false ∧ w.frozen? ⟨b, 13, none⟩ = false ∧ w.frozen? ⟨b, 14, none⟩ = false ∧ w.frozen? ⟨b, 15, none⟩ = false ∧ w.frozen? ⟨b, 16, none⟩ = false ∧ w.frozen? ⟨b, 17, none⟩ = false ∧ w.frozen? ⟨b, 18, none⟩ = false :=
  ⟨h.free 11, h.free 12, h.free 13, h.free 14, h.free 15, h.free 16, h.free 17, h.free 18⟩
theorem Qt.blk_new {Q U T D : Nat → Nat} {fr : Nat} (h : Blk w b 52 (Qt.cs f n Q fr U T D)) (p : Nat) : ∀ x : Int, x = (p : Int) → Blk ((((((((((w.setCell ⟨b, 1, none⟩ (.int .i64 x)).setCell ⟨b, 11, none⟩ (.int .i64 0)).setCell ⟨b, 12, none⟩ (.int .i64 0)).setCell ⟨b, 13, none⟩ (.int .i64 0)).setCell ⟨b, 14, none⟩ (.int .i64 0)).setCell ⟨b, 15, none⟩ (.int .i64 0)).setCell ⟨b, 16, none⟩ (.int .i64 0)).setCell ⟨b, 17, none⟩ (.int .i64 0)).setCell ⟨b, 18, none⟩ (.int .i64 0))) b 52 (Qt.cs f n Q p Qt.z0 T D) ∧ w.grownBy ((((((((((w.setCell ⟨b, 1, none⟩ (.int .i64 x)).setCell ⟨b, 11, none⟩ (.int .i64 0)).setCell ⟨b, 12, none⟩ (.int .i64 0)).setCell ⟨b, 13, none⟩ (.int .i64 0)).setCell ⟨b, 14, none⟩ (.int .i64 0)).setCell ⟨b, 15, none⟩ (.int .i64 0)).setCell ⟨b, 16, none⟩ (.int .i64 0)).setCell ⟨b, 17, none⟩ (.int .i64 0)).setCell ⟨b, 18, none⟩ (.int .i64 0))) (some b) := by
  intro x hx
  subst hx
  have e : ((((((((((Qt.cs f n Q fr U T D).setIfInBounds 1 (.int .i64 (p : Int))).setIfInBounds 11 (.int .i64 0)).setIfInBounds 12 (.int .i64 0)).setIfInBounds 13 (.int .i64 0)).setIfInBounds 14 (.int .i64 0)).setIfInBounds 15 (.int .i64 0)).setIfInBounds 16 (.int .i64 0)).setIfInBounds 17 (.int .i64 0)).setIfInBounds 18 (.int .i64 0)) = Qt.cs f n Q p Qt.z0 T D := by simp [Qt.cs, Qt.z0]
  refine ⟨?_, only_put (only_put (only_put (only_put (only_put (only_put (only_put (only_put (only_put (only_refl w (some b)) 1 (.int .i64 (p : Int))) 11 (.int .i64 0)) 12 (.int .i64 0)) 13 (.int .i64 0)) 14 (.int .i64 0)) 15 (.int .i64 0)) 16 (.int .i64 0)) 17 (.int .i64 0)) 18 (.int .i64 0)⟩
  rw [← e]
  exact (((((((((h.put 1 (.int .i64 (p : Int))).put 11 (.int .i64 0)).put 12 (.int .i64 0)).put 13 (.int .i64 0)).put 14 (.int .i64 0)).put 15 (.int .i64 0)).put 16 (.int .i64 0)).put 17 (.int .i64 0)).put 18 (.int .i64 0))
theorem Qt.left_same (i p : Nat) (t : Int) (w : World) (h : Qt.Acc w b f n Q s m) (hi : i < n) (t0 : 0 ≤ t) (t1 : t ≤ 2147483647) (hp : t / f = p) (hs : s.fr = p) : Calls Try.prog 10 #[.pointer (some ⟨b, 0, none⟩), .int .i64 t, .int .i64 ((i : Int) + 1)] w fun e w' => e = .returned (.int .i64 ((Q i : Int) - s.U i)) ∧ ∃ q, w.drewN q = w' := by
  have HC := Lib.hid (Qt.asked_yes i p t w h hi t0 t1 hp (by omega))
  have HB := Lib.hid h
  have i8 : i < 8 := Nat.lt_of_lt_of_le hi h.bd.n8
  have i0 : (0 : Int) ≤ (i : Int) := by omega
  have i9 : (i : Int) < 8 := by omega
  have HI := Lib.hid hi
  have q1 := h.bd.q i hi
  have u1 := h.bd.u i hi
  have u2 : (Q i : Int) ≤ 16 := by omega
  have u3 : (s.U i : Int) ≤ 16 := by omega
  subst hs
  clear h hi hp q1 u1
  go_enter Try.func10, Try.ntmps10
  go_wp2_with (go_at_call 21; (with_reducible refine HC.out.mono ?_); rintro e w2 ⟨rfl, q, hq⟩; have b2 := HB.out.drewN q; rw [hq] at b2; have c1 := b2.c1; have cq := b2.cq HI.out; have cu := b2.cu HI.out; have HQ := Lib.hid hq; clear hq b2)
  go_ret
  exact ⟨rfl, q, HQ.out⟩
theorem Qt.left_new (i p : Nat) (t : Int) (w : World) (h : Qt.Acc w b f n Q s m) (hi : i < n) (t0 : 0 ≤ t) (t1 : t ≤ 2147483647) (hp : t / f = p) (hs : s.fr < p) : Calls Try.prog 10 #[.pointer (some ⟨b, 0, none⟩), .int .i64 t, .int .i64 ((i : Int) + 1)] w fun e w' => e = .returned (.int .i64 (Q i)) ∧ ∃ q, w.drewN q = w' := by
  have HC := Lib.hid (Qt.asked_yes i p t w h hi t0 t1 hp (by omega))
  have HB := Lib.hid h
  have i8 : i < 8 := Nat.lt_of_lt_of_le hi h.bd.n8
  have i0 : (0 : Int) ≤ (i : Int) := by omega
  have i9 : (i : Int) < 8 := by omega
  have HI := Lib.hid hi
  have ne : ((p : Int) == (s.fr : Int)) = false := by simp; omega
  clear h hi hp
  go_enter Try.func10, Try.ntmps10
  go_wp2_with (go_at_call 21; (with_reducible refine HC.out.mono ?_); rintro e w2 ⟨rfl, q, hq⟩; have b2 := HB.out.drewN q; rw [hq] at b2; have c1 := b2.c1; have cq := b2.cq HI.out; have cu := b2.cu HI.out; have HQ := Lib.hid hq; clear hq b2)
  go_ret
  exact ⟨rfl, q, HQ.out⟩
theorem Qt.left_any (x t : Int) (w : World) (h : Qt.Acc w b f n Q s m) : Calls Try.prog 10 #[.pointer (some ⟨b, 0, none⟩), .int .i64 t, .int .i64 x] w fun e w' => e = .returned (.int .i64 (Qt.left f n Q s t x)) ∧ ∃ q, w.drewN q = w' := by
  unfold Qt.left
  by_cases hk : Qt.ok f n s.fr t x
  · rw [if_pos hk]
    obtain ⟨k1, k2, k3, k4, k5⟩ := hk
    obtain ⟨i, hi⟩ := Int.eq_ofNat_of_zero_le (show 0 ≤ x - 1 by omega)
    obtain rfl : x = (i : Int) + 1 := by omega
    rw [show ((i : Int) + 1 - 1).toNat = i by omega]
    have hd : 0 ≤ t / (f : Int) := Int.ediv_nonneg k3 (by omega)
    obtain ⟨p, hp⟩ := Int.eq_ofNat_of_zero_le hd
    rw [hp] at k5
    simp only [Int.toNat_natCast] at k5
    rw [hp, Int.toNat_natCast]
    unfold Qt.eff
    by_cases hs : s.fr < p
    · rw [if_pos hs]
      have := Qt.left_new i p t w h (by omega) k3 k4 hp hs
      simpa [Qt.z0] using this
    · rw [if_neg hs]
      exact Qt.left_same i p t w h (by omega) k3 k4 hp (by omega)
  · rw [if_neg hk]
    obtain ⟨z, hz⟩ := Qt.asked_no x t w h hk
    exact Qt.left_asked x t z _ w hz
set_option maxRecDepth 20000 in
set_option maxHeartbeats 3200000 in
theorem Qt.use_full (i p : Nat) (t : Int) (w : World) (h : Qt.Acc w b f n Q s m) (hm : m ≤ 100000) (hi : i < n) (t0 : 0 ≤ t) (t1 : t ≤ 2147483647) (hp : t / f = p) (hs : s.fr = p) (hq : Q i ≤ s.U i) : Calls Try.prog 13 #[.pointer (some ⟨b, 0, none⟩), .int .i64 t, .int .i64 ((i : Int) + 1)] w fun e w' => e = .returned (.bool false) ∧ Blk w' b 52 (Qt.cs f n Q s.fr s.U s.T (Qt.upd s.D i (s.D i + 1))) ∧ w.grownBy w' (some b) := by
  have HC := Lib.hid (Qt.asked_yes i p t w h hi t0 t1 hp (by omega))
  have HB := Lib.hid h
  have i8 : i < 8 := Nat.lt_of_lt_of_le hi h.bd.n8
  have i0 : (0 : Int) ≤ (i : Int) := by omega
  have i9 : (i : Int) < 8 := by omega
  have HI := Lib.hid hi
  have d1 := h.bd.d i
  have d2 : (s.D i : Int) ≤ 100000 := by omega
  have d3 : (0 : Int) ≤ (s.D i : Int) := by omega
  have u2 : (Q i : Int) ≤ (s.U i : Int) := by omega
  subst hs
  clear h hi hp d1 hq hm
  go_enter Try.func13, Try.ntmps13
  go_upto_region 6 with (go_at_call 21; (with_reducible refine HC.out.mono ?_); rintro e w2 ⟨rfl, q, hq⟩; have b2 := HB.out.drewN q; have g2 := only_drewN (only_refl w none) q; rw [hq] at b2 g2; have c1 := b2.c1; have HB2 := Lib.hid b2; have HG2 := Lib.hid g2; clear hq b2 g2)
  have cu := HB2.out.cu HI.out
  have cq := HB2.out.cq HI.out
  go_quiet (fail)
  have HB3 := Lib.hid (HB2.out.drewN nq)
  have HG3 := Lib.hid (only_drewN HG2.out nq)
  clear cu cq c1 HB2 HG2 HB
  generalize w2.drewN nq = w3 at HB3 HG3 ⊢
  have cd := HB3.out.cd HI.out
  have fd := HB3.out.blk.free (27 + i)
  go_upto_region 7 with (fail)
  go_region
  all_goals go_wp2
  all_goals go_ret
  all_goals exact ⟨rfl, (HB3.out.drewN 1).putd HI.out, only_put (only_drewN (only_any HG3.out _) 1) _ _⟩
set_option maxRecDepth 20000 in
set_option maxHeartbeats 3200000 in
theorem Qt.use_same (i p : Nat) (t : Int) (w : World) (h : Qt.Acc w b f n Q s m) (hm : m ≤ 100000) (hi : i < n) (t0 : 0 ≤ t) (t1 : t ≤ 2147483647) (hp : t / f = p) (hs : s.fr = p) (hq : ¬ Q i ≤ s.U i) : Calls Try.prog 13 #[.pointer (some ⟨b, 0, none⟩), .int .i64 t, .int .i64 ((i : Int) + 1)] w fun e w' => e = .returned (.bool true) ∧ Blk w' b 52 (Qt.cs f n Q s.fr (Qt.upd s.U i (s.U i + 1)) (Qt.upd s.T i (s.T i + 1)) s.D) ∧ w.grownBy w' (some b) := by
  have HC := Lib.hid (Qt.asked_yes i p t w h hi t0 t1 hp (by omega))
  have HB := Lib.hid h
  have i8 : i < 8 := Nat.lt_of_lt_of_le hi h.bd.n8
  have i0 : (0 : Int) ≤ (i : Int) := by omega
  have i9 : (i : Int) < 8 := by omega
  have HI := Lib.hid hi
  have HI8 := Lib.hid i8
  have d1 := h.bd.t i
  have d2 : (s.T i : Int) ≤ 100000 := by omega
  have d3 : (0 : Int) ≤ (s.T i : Int) := by omega
  have q1 := h.bd.q i hi
  have u1 := h.bd.u i hi
  have u3 : (s.U i : Int) ≤ 16 := by omega
  have u2 : ¬ (Q i : Int) ≤ (s.U i : Int) := by omega
  subst hs
  clear h hi hp d1 hq hm q1 u1
  go_enter Try.func13, Try.ntmps13
  go_upto_region 6 with (go_at_call 21; (with_reducible refine HC.out.mono ?_); rintro e w2 ⟨rfl, q, hq⟩; have b2 := HB.out.drewN q; have g2 := only_drewN (only_refl w none) q; rw [hq] at b2 g2; have c1 := b2.c1; have HB2 := Lib.hid b2; have HG2 := Lib.hid g2; clear hq b2 g2)
  have cu := HB2.out.cu HI.out
  have cq := HB2.out.cq HI.out
  go_quiet (fail)
  have HB3 := Lib.hid (HB2.out.drewN nq)
  have HG3 := Lib.hid (only_drewN HG2.out nq)
  clear cu cq c1 HB2 HG2 HB
  generalize w2.drewN nq = w3 at HB3 HG3 ⊢
  have cu := HB3.out.cu HI.out
  have fu := HB3.out.blk.free (11 + i)
  go_upto_region 9 with (fail)
  go_region
  clear cu fu
  obtain ⟨w4, hw4⟩ : ∃ w4, w4 = (w3.setCell ⟨b, 11 + i, none⟩ (.int .i64 ((s.U i : Int) + 1))).drew := ⟨_, rfl⟩
  have HB4 := Lib.hid (show Blk w4 b 52 _ from by rw [hw4]; exact (Qt.blk_putu HB3.out.blk HI8.out).drewN 1)
  have HG4 := Lib.hid (show w.grownBy w4 (some b) from by rw [hw4]; exact only_drewN (only_put (only_any HG3.out (some b)) _ _) 1)
  rw [← hw4]
  clear hw4 HB3 HG3
  have ct : w4.cell? ⟨b, 19 + i, none⟩ = some (.int .i64 (s.T i)) := (HB4.out.cell _).trans (Qt.cs_t _ _ _ _ _ _ _ HI8.out)
  have ft := HB4.out.free (19 + i)
  go_upto_region 10 with (fail)
  go_region
  go_wp2
  go_ret
  exact ⟨rfl, (Qt.blk_putt HB4.out HI8.out).drewN 1, only_drewN (only_put HG4.out _ _) 1⟩
set_option maxRecDepth 20000 in
set_option maxHeartbeats 3200000 in
theorem Qt.use_new (i p : Nat) (t : Int) (w : World) (h : Qt.Acc w b f n Q s m) (hm : m ≤ 100000) (hi : i < n) (t0 : 0 ≤ t) (t1 : t ≤ 2147483647) (hp : t / f = p) (hs : s.fr < p) : Calls Try.prog 13 #[.pointer (some ⟨b, 0, none⟩), .int .i64 t, .int .i64 ((i : Int) + 1)] w fun e w' => e = .returned (.bool true) ∧ Blk w' b 52 (Qt.cs f n Q p (Qt.upd Qt.z0 i 1) (Qt.upd s.T i (s.T i + 1)) s.D) ∧ w.grownBy w' (some b) := by
  have HC := Lib.hid (Qt.asked_yes i p t w h hi t0 t1 hp (by omega))
  have HB := Lib.hid h
  have i8 : i < 8 := Nat.lt_of_lt_of_le hi h.bd.n8
  have i0 : (0 : Int) ≤ (i : Int) := by omega
  have i9 : (i : Int) < 8 := by omega
  have HI := Lib.hid hi
  have HI8 := Lib.hid i8
  have d1 := h.bd.t i
  have d2 : (s.T i : Int) ≤ 100000 := by omega
  have d3 : (0 : Int) ≤ (s.T i : Int) := by omega
  have q1 := h.bd.q i hi
  have u2 : ¬ (Q i : Int) ≤ 0 := by omega
  have fr1 : (s.fr : Int) < (p : Int) := by omega
  clear h hi hp d1 hm q1
  go_enter Try.func13, Try.ntmps13
  go_upto_region 4 with (go_at_call 21; (with_reducible refine HC.out.mono ?_); rintro e w2 ⟨rfl, q, hq⟩; have b2 := HB.out.drewN q; have g2 := only_drewN (only_refl w none) q; rw [hq] at b2 g2; have c1 := b2.c1; have HB2 := Lib.hid b2; have HG2 := Lib.hid g2; clear hq b2 g2)
  obtain ⟨a11, a12, a13, a14, a15, a16, a17, a18⟩ := Qt.u_cells HB2.out.blk
  obtain ⟨f11, f12, f13, f14, f15, f16, f17, f18⟩ := Qt.u_free HB2.out.blk
  have f01 := HB2.out.blk.free 1
  go_upto_region 6 with (fail)
  obtain ⟨w5, hw5⟩ : ∃ w5, w5 = (((((((((w2.setCell ⟨b, 1, none⟩ (.int .i64 (p : Int))).setCell ⟨b, 11, none⟩ (.int .i64 0)).setCell ⟨b, 12, none⟩ (.int .i64 0)).setCell ⟨b, 13, none⟩ (.int .i64 0)).setCell ⟨b, 14, none⟩ (.int .i64 0)).setCell ⟨b, 15, none⟩ (.int .i64 0)).setCell ⟨b, 16, none⟩ (.int .i64 0)).setCell ⟨b, 17, none⟩ (.int .i64 0)).setCell ⟨b, 18, none⟩ (.int .i64 0)) := ⟨_, rfl⟩
  have hn := Qt.blk_new HB2.out.blk p p rfl
  rw [← hw5] at hn ⊢
  have HB5 := Lib.hid hn.1
  have HG5 := Lib.hid (only_trans (only_any HG2.out (some b)) hn.2)
  clear hn hw5 HB2 HG2 HB c1 a11 a12 a13 a14 a15 a16 a17 a18 f11 f12 f13 f14 f15 f16 f17 f18 f01
  have cu : w5.cell? ⟨b, 11 + i, none⟩ = some (.int .i64 0) := (HB5.out.cell _).trans (Qt.cs_u _ _ _ _ _ _ _ HI8.out)
  have cq : w5.cell? ⟨b, 3 + i, none⟩ = some (.int .i64 (Q i)) := (HB5.out.cell _).trans (Qt.cs_q _ _ _ _ _ _ _ HI8.out)
  go_quiet (fail)
  have HB3 := Lib.hid (HB5.out.drewN nq)
  have HG3 := Lib.hid (only_drewN HG5.out nq)
  clear cu cq HB5 HG5
  generalize w5.drewN nq = w3 at HB3 HG3 ⊢
  have cu : w3.cell? ⟨b, 11 + i, none⟩ = some (.int .i64 0) := (HB3.out.cell _).trans (Qt.cs_u _ _ _ _ _ _ _ HI8.out)
  have fu := HB3.out.free (11 + i)
  go_upto_region 9 with (fail)
  go_region
  clear cu fu
  obtain ⟨w4, hw4⟩ : ∃ w4, w4 = (w3.setCell ⟨b, 11 + i, none⟩ (.int .i64 1)).drew := ⟨_, rfl⟩
  have HB4 := Lib.hid (show Blk w4 b 52 _ from by rw [hw4]; exact (Qt.blk_putu HB3.out HI8.out).drewN 1)
  have HG4 := Lib.hid (show w.grownBy w4 (some b) from by rw [hw4]; exact only_drewN (only_put (HG3.out) _ _) 1)
  rw [← hw4]
  clear hw4 HB3 HG3
  have ct : w4.cell? ⟨b, 19 + i, none⟩ = some (.int .i64 (s.T i)) := (HB4.out.cell _).trans (Qt.cs_t _ _ _ _ _ _ _ HI8.out)
  have ft := HB4.out.free (19 + i)
  go_upto_region 10 with (fail)
  go_region
  go_wp2
  go_ret
  exact ⟨rfl, (Qt.blk_putt HB4.out HI8.out).drewN 1, only_drewN (only_put HG4.out _ _) 1⟩
end
end Go.Proofs.Yticmgkdhdfkpeaa

/- Accounts: a unit, a new one, a fork, by contract; the document's Check. -/
namespace Go.Proofs.Yticmgkdhdfkpeaa
open Go.RowKit Go.Lib
set_option linter.unusedVariables false
set_option maxRecDepth 8000

theorem Qt.putn {w w' : World} (h : w.grownBy w' none) {b : Nat} (hb : w.heap.size ≤ b) (i : Nat) (u : Value) : w.grownBy (w'.setCell ⟨b, i, none⟩ u) none :=
  ⟨h.os, h.tape, h.output, by simpa using h.size, fun k hk hn => (Below.heap_setCell w' ⟨b, i, none⟩ u k (by show k ≠ b; omega)).trans (h.block k hk hn)⟩
/-- Only new blocks, but for one. -/
theorem Qt.grow_new {w w' w2 : World} {b : Nat} (h : w.grownBy w' none) (g : w'.grownBy w2 (some b)) (hb : w.heap.size ≤ b) : w.grownBy w2 none :=
  ⟨g.os.trans h.os, g.tape.trans h.tape, g.output.trans h.output, Nat.le_trans h.size g.size, fun i hi hn => (g.block i (Nat.lt_of_lt_of_le hi h.size) (fun e => by injection e with e; omega)).trans (h.block i hi hn)⟩
section
variable {w : World} {b f n m : Nat} {Q : Nat → Nat} {s : Qt.St}
theorem Qt.go_use (i p : Nat) (t : Int) (w : World) (h : Qt.Acc w b f n Q s m) (hm : m ≤ 100000) (hi : i < n) (t0 : 0 ≤ t) (t1 : t ≤ 2147483647) (hp : t / f = p) (hs : s.fr ≤ p) : Calls Try.prog 13 #[.pointer (some ⟨b, 0, none⟩), .int .i64 t, .int .i64 ((i : Int) + 1)] w fun e w' => e = .returned (.bool (Qt.go Q s p i).2) ∧ Qt.Acc w' b f n Q (Qt.go Q s p i).1 (m + 1) ∧ w.grownBy w' (some b) := by
  have hp1 : p ≤ 2147483647 := by
    have : t / (f : Int) ≤ t := Int.ediv_le_self _ t0
    omega
  have hb := h.bd.go p i hp1
  have e1 := h.f1
  have e2 := h.f2
  have q1 := h.bd.q i hi
  unfold Qt.go at hb ⊢
  by_cases hlt : s.fr < p
  · have he : Qt.eff s p = Qt.z0 := by unfold Qt.eff; rw [if_pos hlt]
    have hq : ¬ Q i ≤ Qt.eff s p i := by rw [he]; show ¬ Q i ≤ 0; omega
    rw [if_neg hq] at hb ⊢
    rw [he] at hb ⊢
    exact (Qt.use_new i p t w h hm hi t0 t1 hp hlt).mono fun e w' hab => ⟨hab.1, ⟨hab.2.1, e1, e2, hb⟩, hab.2.2⟩
  · have hsp : s.fr = p := by omega
    have he : Qt.eff s p = s.U := by unfold Qt.eff; rw [if_neg hlt]
    rw [he] at hb ⊢
    by_cases hq : Q i ≤ s.U i
    · rw [if_pos hq] at hb ⊢
      exact (Qt.use_full i p t w h hm hi t0 t1 hp hsp hq).mono fun e w' hab => ⟨hab.1, ⟨by have := hab.2.1; rw [hsp] at this; exact this, e1, e2, hb⟩, hab.2.2⟩
    · rw [if_neg hq] at hb ⊢
      exact (Qt.use_same i p t w h hm hi t0 t1 hp hsp hq).mono fun e w' hab => ⟨hab.1, ⟨by have := hab.2.1; rw [hsp] at this; exact this, e1, e2, hb⟩, hab.2.2⟩
theorem Qt.use_any (x t : Int) (w : World) (h : Qt.Acc w b f n Q s m) (hm : m ≤ 100000) : Calls Try.prog 13 #[.pointer (some ⟨b, 0, none⟩), .int .i64 t, .int .i64 x] w fun e w' => e = .returned (.bool (Qt.use f n Q s t x).2) ∧ Qt.Acc w' b f n Q (Qt.use f n Q s t x).1 (m + 1) ∧ w.grownBy w' (some b) := by
  unfold Qt.use
  by_cases hk : Qt.ok f n s.fr t x
  · rw [if_pos hk]
    obtain ⟨k1, k2, k3, k4, k5⟩ := hk
    obtain ⟨i, hi⟩ := Int.eq_ofNat_of_zero_le (show 0 ≤ x - 1 by omega)
    obtain rfl : x = (i : Int) + 1 := by omega
    rw [show ((i : Int) + 1 - 1).toNat = i by omega]
    have hd : 0 ≤ t / (f : Int) := Int.ediv_nonneg k3 (by omega)
    obtain ⟨p, hp⟩ := Int.eq_ofNat_of_zero_le hd
    rw [hp] at k5
    simp only [Int.toNat_natCast] at k5
    rw [hp, Int.toNat_natCast]
    exact Qt.go_use i p t w h hm (by omega) k3 k4 hp k5
  · rw [if_neg hk]
    obtain ⟨z, hz⟩ := Qt.asked_no x t w h hk
    refine (Qt.use_asked x t z _ w hz).mono fun e w' hab => ?_
    obtain ⟨h1, q, h2⟩ := hab
    rw [← h2]
    exact ⟨h1, ⟨h.blk.drewN q, h.f1, h.f2, h.bd.mono (Nat.le_succ m)⟩, only_drewN (only_refl _ _) q⟩
theorem Qt.use_nil (x t : Int) (w : World) : Calls Try.prog 13 #[.pointer none, .int .i64 t, .int .i64 x] w fun e w' => e = .returned (.bool false) ∧ ∃ q, w.drewN q = w' :=
  Qt.use_asked x t 0 _ w ((Qt.asked_has x t _ w (fun W e => by subst e; exact Qt.has_nil x _)).mono fun e w' hab => ⟨hab.1, 0, hab.2⟩)
theorem Qt.left_nil (x t : Int) (w : World) : Calls Try.prog 10 #[.pointer none, .int .i64 t, .int .i64 x] w fun e w' => e = .returned (.int .i64 0) ∧ ∃ q, w.drewN q = w' :=
  Qt.left_asked x t 0 _ w ((Qt.asked_has x t _ w (fun W e => by subst e; exact Qt.has_nil x _)).mono fun e w' hab => ⟨hab.1, 0, hab.2⟩)
end

/-- Numbers that came in. -/
def Qt.NumL (w : World) (A : Option Addr) (n : Nat) (d : Nat → Int) : Prop := 0 < n → ∃ b off, A = some ⟨b, off, none⟩ ∧ b < w.heap.size ∧ ∀ i, i < n → w.cell? ⟨b, off + i, none⟩ = some (.int .i64 (d i))
theorem Qt.NumL.only {w w' : World} {A : Option Addr} {n : Nat} {d : Nat → Int} (h : Qt.NumL w A n d) (k : w.grownBy w' none) : Qt.NumL w' A n d := fun h0 => by
  obtain ⟨b, off, h1, h2, h3⟩ := h h0
  refine ⟨b, off, h1, Nat.lt_of_lt_of_le h2 k.size, fun i hi => ?_⟩
  rw [← h3 i hi]
  simp only [World.cell?, k.block b h2 (by simp)]
theorem Qt.NumL.cut {w : World} {A : Option Addr} {n m : Nat} {d : Nat → Int} (h : Qt.NumL w A n d) (hm : m ≤ n) : Qt.NumL w A m d := fun h0 => by
  obtain ⟨b, off, h1, h2, h3⟩ := h (by omega)
  exact ⟨b, off, h1, h2, fun i hi => h3 i (by omega)⟩
/-- May each of the first n be a quota? -/
def Qt.fine (d : Nat → Int) (n : Nat) : Prop := ∀ i, i < n → 1 ≤ d i ∧ d i ≤ 16
theorem Qt.bad {d : Nat → Int} {n : Nat} (h : ¬ Qt.fine d n) : ∃ k, k < n ∧ Qt.fine d k ∧ (d k < 1 ∨ (1 ≤ d k ∧ 16 < d k)) := by
  induction n with
  | zero => exact absurd (fun i hi => absurd hi (by omega)) h
  | succ n ih =>
    by_cases hn : Qt.fine d n
    · refine ⟨n, by omega, hn, ?_⟩
      by_cases h1 : 1 ≤ d n ∧ d n ≤ 16
      · refine absurd (fun i hi => ?_) h
        by_cases e : i = n
        · subst e; exact h1
        · exact hn i (by omega)
      · omega
    · obtain ⟨k, h1, h2⟩ := ih hn
      exact ⟨k, by omega, h2⟩
def Qt.mix (d : Nat → Int) (k : Nat) : Nat → Nat := fun i => if i < k then (d i).toNat else 0
theorem Qt.mix_0 (d : Nat → Int) : Qt.mix d 0 = Qt.z0 := by funext i; simp [Qt.mix, Qt.z0]
theorem Qt.mix_s (d : Nat → Int) (k : Nat) : Qt.upd (Qt.mix d k) k (d k).toNat = Qt.mix d (k + 1) := by
  funext i
  unfold Qt.upd Qt.mix
  by_cases e : i = k
  · subst e; simp
  · rw [if_neg e]
    by_cases h : i < k
    · rw [if_pos h, if_pos (by omega)]
    · rw [if_neg h, if_neg (by omega)]
theorem Qt.cs0 (f n : Nat) : Qt.cs f n Qt.z0 0 Qt.z0 Qt.z0 Qt.z0 = #[.int .i64 f, .int .i64 0, .int .i64 n, .int .i64 0, .int .i64 0, .int .i64 0, .int .i64 0, .int .i64 0, .int .i64 0, .int .i64 0, .int .i64 0, .int .i64 0, .int .i64 0, .int .i64 0, .int .i64 0, .int .i64 0, .int .i64 0, .int .i64 0, .int .i64 0, .int .i64 0, .int .i64 0, .int .i64 0, .int .i64 0, .int .i64 0, .int .i64 0, .int .i64 0, .int .i64 0, .int .i64 0, .int .i64 0, .int .i64 0, .int .i64 0, .int .i64 0, .int .i64 0, .int .i64 0, .int .i64 0] := rfl
theorem Qt.new_right (f : Int) (A : Option Addr) (n c : Nat) (w : World) (hf : Qt.rt f = false) : Calls Try.prog 7 #[.int .i64 f, .slice A n c] w fun e w' => e = .returned (.tuple #[.pointer none, .int .i64 2]) ∧ w = w' := by
  have hc := Qt.right_any f w
  rw [hf] at hc
  have HC := Lib.hid hc
  clear hc hf
  go_enter Try.func7, Try.ntmps7
  go_wp2_with (go_at_call 19; (with_reducible refine HC.out.mono ?_); rintro e w' ⟨rfl, rfl⟩)
  go_ret2
  exact ⟨rfl, rfl⟩
theorem Qt.new_many (f : Int) (A : Option Addr) (n c : Nat) (w : World) (hf : Qt.rt f = true) (hn : 8 < n) : Calls Try.prog 7 #[.int .i64 f, .slice A n c] w fun e w' => e = .returned (.tuple #[.pointer none, .int .i64 4]) ∧ w = w' := by
  have hc := Qt.right_any f w
  rw [hf] at hc
  have HC := Lib.hid hc
  have i1 : (8 : Int) < (n : Int) := by omega
  clear hc hf hn
  go_enter Try.func7, Try.ntmps7
  go_wp2_with (go_at_call 19; (with_reducible refine HC.out.mono ?_); rintro e w' ⟨rfl, rfl⟩)
  go_ret2
  exact ⟨rfl, rfl⟩
set_option maxRecDepth 20000 in
set_option maxHeartbeats 3200000 in
theorem Qt.new_bad (f : Nat) (A : Option Addr) (n c : Nat) (d : Nat → Int) (w : World) (f1 : 1 ≤ f) (f2 : f ≤ 4096) (hn : n ≤ 8) (hd : Qt.NumL w A n d) (hk : ¬ Qt.fine d n) : Calls Try.prog 7 #[.int .i64 f, .slice A n c] w fun e w' => e = .returned (.tuple #[.pointer none, .int .i64 2]) ∧ w.grownBy w' none := by
  have hc := Qt.right_any f w
  rw [show Qt.rt f = true from by simp [Qt.rt]; omega] at hc
  have HC := Lib.hid hc
  have i1 : ¬ (8 : Int) < (n : Int) := by omega
  have HD := Lib.hid hd
  have HB0 := Lib.hid (Blk.new w 52 (Qt.cs f n (Qt.mix d 0) 0 Qt.z0 Qt.z0 Qt.z0))
  have HN := Lib.hid (show f ≥ 1 ∧ f ≤ 4096 ∧ n ≤ 8 from ⟨f1, f2, hn⟩)
  obtain ⟨b0, hb0⟩ : ∃ b0, b0 = w.heap.size := ⟨_, rfl⟩
  have hge : w.heap.size ≤ b0 := by omega
  obtain ⟨k0, hk0, hfk, hbk⟩ := Qt.bad hk
  have HK0 := Lib.hid hk0
  have HFK := Lib.hid hfk
  have HBK := Lib.hid hbk
  clear hk hk0 hfk hbk
  clear hc hd f1 f2
  go_enter Try.func7, Try.ntmps7
  go_upto_region 6 with (go_at_call 19; (with_reducible refine HC.out.mono ?_); rintro e w' ⟨rfl, rfl⟩)
  obtain ⟨w1, hw1⟩ : ∃ w1, w1 = w.alloc (.cells (Qt.cs f n (Qt.mix d 0) 0 Qt.z0 Qt.z0 Qt.z0) 52) := ⟨_, rfl⟩
  have HG0 := Lib.hid (show w.grownBy w1 none from by rw [hw1]; exact only_alloc (only_refl _ _) _)
  rw [← hw1] at HB0
  rw [Qt.mix_0, Qt.cs0] at hw1
  rw [← hw1]
  rw [← hb0] at HB0 ⊢
  clear hw1 hb0
  go_wp2
  go_loopw [24] (fun y wr => ∃ k : Nat, y = .int .i64 k ∧ k ≤ 8 ∧ Hid (k ≤ k0) ∧ Hid (Blk wr b0 52 (Qt.cs f n (Qt.mix d k) 0 Qt.z0 Qt.z0 Qt.z0)) ∧ Hid (w.grownBy wr none)) (fun y _ => 8 - (intOf y).toNat)
  case atStart => exact ⟨0, rfl, by omega, Lib.hid (Nat.zero_le _), HB0, HG0⟩
  case round =>
    obtain ⟨k, rfl, hk8, HK, HB, HG⟩ := hrel
    clear HB0 HG0
    have hkn : k < n := Nat.lt_of_le_of_lt HK.out HK0.out
    obtain ⟨g, off, rfl, hg, hc⟩ := (HD.out.only HG.out) (by omega)
    have i2 : (k : Int) < (n : Int) := by omega
    have c0 : wr.cell? ⟨g, off + k, none⟩ = some (.int .i64 (d k)) := hc k hkn
    have HDK := Lib.hid (show d k = d k from rfl)
    by_cases hkk : k = k0
    · subst hkk
      rcases HBK.out with h | ⟨h, h2⟩
      · clear hc
        generalize d k = x at *
        go_wp2
        go_ret2
        exact ⟨rfl, HG.out⟩
      · clear hc
        generalize d k = x at *
        go_wp2
        go_ret2
        exact ⟨rfl, HG.out⟩
    · have hlt : k < k0 := Nat.lt_of_le_of_ne HK.out hkk
      obtain ⟨x1, x2⟩ := HFK.out k hlt
      have k8 : (k : Int) < 8 := by have := HN.out.2.2; omega
      have kge : (0 : Int) ≤ (k : Int) := by omega
      have fr := HB.out.free (3 + k)
      have cq := (HB.out.cell (3 + k)).trans (Qt.cs_q _ _ _ _ _ _ _ (show k < 8 by omega))
      have HB2 := Lib.hid (show Blk (wr.setCell ⟨b0, 3 + k, none⟩ (.int .i64 (d k))) b0 52 (Qt.cs f n (Qt.mix d (k + 1)) 0 Qt.z0 Qt.z0 Qt.z0) from by
        have := HB.out.put (3 + k) (.int .i64 (((d k).toNat : Nat) : Int))
        rw [Qt.put_q _ _ _ _ _ _ _ (show k < 8 by omega), Qt.mix_s, Int.toNat_of_nonneg (by omega)] at this
        exact this)
      have x3 : ¬ d k < 1 := by omega
      have x4 : ¬ 16 < d k := by omega
      have HK2 := Lib.hid (show k + 1 ≤ k0 by omega)
      clear HDK x1 x2 hc hkk hlt
      generalize d k = x at *
      go_wp2
      go_roundw
      case rel => exact ⟨k + 1, by go_num, by omega, HK2, HB2, Lib.hid (Qt.putn HG.out hge _ _)⟩
      case measure => simp [intOf]; omega
set_option maxRecDepth 20000 in
set_option maxHeartbeats 3200000 in
theorem Qt.new_ok (f : Nat) (A : Option Addr) (n c : Nat) (d : Nat → Int) (w : World) (f1 : 1 ≤ f) (f2 : f ≤ 4096) (hn : n ≤ 8) (hd : Qt.NumL w A n d) (hk : Qt.fine d n) : Calls Try.prog 7 #[.int .i64 f, .slice A n c] w fun e w' => ∃ b, e = .returned (.tuple #[.pointer (some ⟨b, 0, none⟩), .int .i64 0]) ∧ w.heap.size ≤ b ∧ Qt.Acc w' b f n (Qt.mix d n) Qt.s0 0 ∧ w.grownBy w' none := by
  have hc := Qt.right_any f w
  rw [show Qt.rt f = true from by simp [Qt.rt]; omega] at hc
  have HC := Lib.hid hc
  have i1 : ¬ (8 : Int) < (n : Int) := by omega
  have HD := Lib.hid hd
  have HB0 := Lib.hid (Blk.new w 52 (Qt.cs f n (Qt.mix d 0) 0 Qt.z0 Qt.z0 Qt.z0))
  have HN := Lib.hid (show f ≥ 1 ∧ f ≤ 4096 ∧ n ≤ 8 from ⟨f1, f2, hn⟩)
  obtain ⟨b0, hb0⟩ : ∃ b0, b0 = w.heap.size := ⟨_, rfl⟩
  have hge : w.heap.size ≤ b0 := by omega
  have HFK := Lib.hid hk
  clear hk
  clear hc hd f1 f2
  go_enter Try.func7, Try.ntmps7
  go_upto_region 6 with (go_at_call 19; (with_reducible refine HC.out.mono ?_); rintro e w' ⟨rfl, rfl⟩)
  obtain ⟨w1, hw1⟩ : ∃ w1, w1 = w.alloc (.cells (Qt.cs f n (Qt.mix d 0) 0 Qt.z0 Qt.z0 Qt.z0) 52) := ⟨_, rfl⟩
  have HG0 := Lib.hid (show w.grownBy w1 none from by rw [hw1]; exact only_alloc (only_refl _ _) _)
  rw [← hw1] at HB0
  rw [Qt.mix_0, Qt.cs0] at hw1
  rw [← hw1]
  rw [← hb0] at HB0 ⊢
  clear hw1 hb0
  go_wp2
  go_loopw [24] (fun y wr => ∃ k : Nat, y = .int .i64 k ∧ k ≤ n ∧ Hid (Blk wr b0 52 (Qt.cs f n (Qt.mix d k) 0 Qt.z0 Qt.z0 Qt.z0)) ∧ Hid (w.grownBy wr none)) (fun y _ => 8 - (intOf y).toNat)
  case atStart => exact ⟨0, rfl, by omega, HB0, HG0⟩
  case round =>
    obtain ⟨k, rfl, hkn, HB, HG⟩ := hrel
    clear HB0 HG0
    by_cases hlt : k < n
    · obtain ⟨g, off, rfl, hg, hc⟩ := (HD.out.only HG.out) (by omega)
      have i2 : (k : Int) < (n : Int) := by omega
      have c0 : wr.cell? ⟨g, off + k, none⟩ = some (.int .i64 (d k)) := hc k hlt
      obtain ⟨x1, x2⟩ := HFK.out k hlt
      have k8 : (k : Int) < 8 := by have := HN.out.2.2; omega
      have kge : (0 : Int) ≤ (k : Int) := by omega
      have fr := HB.out.free (3 + k)
      have cq := (HB.out.cell (3 + k)).trans (Qt.cs_q _ _ _ _ _ _ _ (show k < 8 by omega))
      have HB2 := Lib.hid (show Blk (wr.setCell ⟨b0, 3 + k, none⟩ (.int .i64 (d k))) b0 52 (Qt.cs f n (Qt.mix d (k + 1)) 0 Qt.z0 Qt.z0 Qt.z0) from by
        have := HB.out.put (3 + k) (.int .i64 (((d k).toNat : Nat) : Int))
        rw [Qt.put_q _ _ _ _ _ _ _ (show k < 8 by omega), Qt.mix_s, Int.toNat_of_nonneg (by omega)] at this
        exact this)
      have x3 : ¬ d k < 1 := by omega
      have x4 : ¬ 16 < d k := by omega
      clear x1 x2 hc
      generalize d k = x at *
      go_wp2
      go_roundw
      case rel => exact ⟨k + 1, by go_num, by omega, HB2, Lib.hid (Qt.putn HG.out hge _ _)⟩
      case measure => simp [intOf]; omega
    · obtain rfl : k = n := by omega
      have i2 : ¬ (k : Int) < (k : Int) := by omega
      go_wp2
      go_ret2
      refine ⟨b0, rfl, hge, ⟨HB.out, HN.out.1, HN.out.2.1, ⟨HN.out.2.2, fun i hi => ?_, fun i hi => Nat.zero_le _, fun i => Nat.zero_le _, fun i => Nat.zero_le _, by decide⟩⟩, HG.out⟩
      have := HFK.out i hi
      unfold Qt.mix
      rw [if_pos hi]
      omega
end Go.Proofs.Yticmgkdhdfkpeaa

/- Slices of the call's own, of elements of any size, that move along their rows: what they hold, and what an append, a clearing and a cut do. No program is spoken of here. -/
namespace Go.Proofs.Yticmgkdhdfkpeaa
open Go.RowKit Go.Lib
set_option linter.unusedVariables false

/-- A slice of n elements of s cells, xs: nil, or in a row that it may write. -/
def RowZ (s : Nat) (w : World) (v : Value) (n : Nat) (xs : List Value) : Prop :=
  xs.length = n * s ∧ ((v = .slice none 0 0 ∧ n = 0) ∨ ∃ g off cap, v = .slice (some ⟨g, off, none⟩) n cap ∧ n ≤ cap ∧ cap ≤ maxLen ∧ g < w.heap.size ∧
    (∀ j, j < cap * s → (w.cell? ⟨g, off + j, none⟩).isSome = true ∧ w.frozen? ⟨g, off + j, none⟩ = false) ∧ ∀ j u, xs[j]? = some u → w.cell? ⟨g, off + j, none⟩ = some u)
section
variable {s : Nat} {w w' : World} {v : Value} {n : Nat} {xs : List Value}
theorem RowZ.nil (s : Nat) (w : World) : RowZ s w (.slice none 0 0) 0 [] := ⟨by simp, .inl ⟨rfl, rfl⟩⟩
theorem RowZ.form (h : RowZ s w v n xs) : ∃ A c, v = .slice A n c := by
  rcases h with ⟨_, ⟨rfl, rfl⟩ | ⟨g, off, cap, rfl, _⟩⟩
  · exact ⟨_, _, rfl⟩
  · exact ⟨_, _, rfl⟩
theorem RowZ.lt (h : RowZ s w v n xs) : ∀ k, v.ownBlock = some k → k < w.heap.size := by
  intro k hk
  rcases h with ⟨_, ⟨rfl, _⟩ | ⟨g, off, cap, rfl, _, _, hg, _⟩⟩
  · simp [Value.ownBlock] at hk
  · simp [Value.ownBlock] at hk
    omega
theorem RowZ.same (h : RowZ s w v n xs) (hs : w.heap.size ≤ w'.heap.size) (hb : ∀ k, v.ownBlock = some k → w'.heap[k]? = w.heap[k]?) : RowZ s w' v n xs := by
  rcases h with ⟨hl, h | ⟨g, off, cap, rfl, h1, h2, h3, h4, h5⟩⟩
  · exact ⟨hl, .inl h⟩
  · have hg := hb g rfl
    have hc : ∀ o, w'.cell? ⟨g, o, none⟩ = w.cell? ⟨g, o, none⟩ := fun o => by simp [World.cell?, hg]
    have hf : ∀ o, w'.frozen? ⟨g, o, none⟩ = w.frozen? ⟨g, o, none⟩ := fun o => by simp [World.frozen?, hg]
    exact ⟨hl, .inr ⟨g, off, cap, rfl, h1, h2, by omega, fun j hj => by rw [hc, hf]; exact h4 j hj, fun j u hu => by rw [hc]; exact h5 j u hu⟩⟩
theorem RowZ.keeps {S : Nat → Prop} (h : RowZ s w v n xs) (k : Keeps S w w') (hn : ∀ i, v.ownBlock = some i → ¬ S i) : RowZ s w' v n xs :=
  h.same k.size fun i hi => k.2.2.2.2 i (h.lt i hi) (hn i hi)
theorem RowZ.only {row : Option Nat} (h : RowZ s w v n xs) (k : w.grownBy w' row) (hn : v.ownBlock = none ∨ v.ownBlock ≠ row) : RowZ s w' v n xs :=
  h.same k.size fun i hi => k.block i (h.lt i hi) (fun e => by rcases hn with hn | hn; rw [hn] at hi; cases hi; exact hn (hi.trans e))
theorem RowZ.grown (h : RowZ s w v n xs) (k : w.grownBy w' none) : RowZ s w' v n xs := h.only k (by cases hv : v.ownBlock <;> simp)
theorem RowZ.below {B : Nat} (h : RowZ s w v n xs) (k : Below B w w') (hn : ∀ i, v.ownBlock = some i → i < B) : RowZ s w' v n xs :=
  h.same k.size fun i hi => k.block i (hn i hi)
theorem RowZ.drewN (h : RowZ s w v n xs) (q : Nat) : RowZ s (w.drewN q) v n xs := h
theorem RowZ.alloc (h : RowZ s w v n xs) (o : Obj) : RowZ s (w.alloc o) v n xs := h.same (by simp) fun k hk => Below.heap_alloc w o k (h.lt k hk)
theorem RowZ.put (h : RowZ s w v n xs) {p : Addr} (hp : v.ownBlock ≠ some p.block) (u : Value) : RowZ s (w.setCell p u) v n xs :=
  h.same (by simp) fun k hk => Below.heap_setCell w p u k (by rintro rfl; exact hp hk)
theorem RowZ.len (h : RowZ s w v n xs) : xs.length = n * s := h.1

/-- A new row whose first places hold xs. -/
theorem RowZ.new (w : World) (cur : Array Value) (e : TypeId) (cap : Nat) (hl : xs.length = n * s) (hc : cur.size = cap * s) (hn : n ≤ cap) (hm : cap ≤ maxLen) (hp : ∀ (j : Nat) (u : Value), xs[j]? = some u → cur[j]? = some u) :
    RowZ s (w.alloc (.cells cur e)) (.slice (some ⟨w.heap.size, 0, none⟩) n cap) n xs := by
  have hb : Blk (w.alloc (.cells cur e)) w.heap.size e cur := Blk.new w e cur
  refine ⟨hl, .inr ⟨w.heap.size, 0, cap, rfl, hn, hm, by simp, fun j hj => ⟨?_, hb.free _⟩, fun j u hu => ?_⟩⟩
  · rw [hb.cell, Nat.zero_add, Array.getElem?_eq_getElem (by omega)]
    rfl
  · rw [hb.cell, Nat.zero_add]
    exact hp j u hu

/-- What a slice reads as1, for an append of its elements. -/
theorem RowZ.src {P : Program} (h : RowZ s w v n xs) (tx e' : TypeId) (hk : P.underlying tx = some (.slice e')) (h1 : ∀ u ∈ xs, u.oneCell' = true) : Src P s tx v n xs w := by
  rcases h with ⟨hl, ⟨rfl, rfl⟩ | ⟨g, off, cap, rfl, _, _, _, _, h5⟩⟩
  · have : xs = [] := List.eq_nil_of_length_eq_zero (by omega)
    subst this
    exact Src.ofNil w hk 0
  · refine Src.ofSlice w hk _ _ _ _ hl ?_ h1
    intro j u hu
    rw [addr_at]
    exact h5 j u hu

/-- append(v, x), v a slice of the call's own. -/
theorem run_pushZ {P : Program} (w : World) (t e ty : TypeId) (i : TypeInfo) (z : Value) (bytes : Nat) (ht : P.underlying t = some (.slice e)) (hi : P.info? e = some i) (hz : i.zero = some z) (hs : i.size = s) (hby : i.bytes = bytes) (hb16 : bytes ≤ 64) (hzs : z.cells.size = s)
    (v : Value) (n : Nat) (l : List Value) (h : RowZ s w v n l) (h1 : ∀ u ∈ l, u.oneCell' = true) (xs : Value) (x : List Value) (hx : Src P s t xs 1 x w) (hn : n ≤ 1000000) :
    ∃ v' w', (Builtin.append_ #[t, t] ty #[v, xs]).run P w = .ok v' w' ∧ RowZ s w' v' (n + 1) (l ++ x) ∧ w.grownBy w' v.ownBlock ∧ (v'.ownBlock = v.ownBlock ∨ v'.ownBlock = some w.heap.size) := by
  have hxl : x.length = s := by have := hx.newsLen; omega
  have hlx : (l ++ x).length = (n + 1) * s := by rw [List.length_append, h.1, hxl, Nat.add_mul, Nat.one_mul]
  have hbm : (n + 1) * bytes ≤ 140737488355328 := by
    have : (n + 1) * bytes ≤ 1000001 * 64 := Nat.mul_le_mul (by omega) hb16
    omega
  have hsrc : Src P i.size t xs 1 x w := by rw [hs]; exact hx
  have grown : ∀ (base : Option Addr) (cap : Nat), v = .slice base n cap → cap < n + 1 → ∃ v' w', (Builtin.append_ #[t, t] ty #[v, xs]).run P w = .ok v' w' ∧ RowZ s w' v' (n + 1) (l ++ x) ∧ w.grownBy w' v.ownBlock ∧ (v'.ownBlock = v.ownBlock ∨ v'.ownBlock = some w.heap.size) := by
    intro base cap hv hcap
    have hold := ((h.drewN 1).src (P := P) t e ht h1).cells
    have hm : n + 1 ≤ maxLen := by unfold maxLen; omega
    have hge := grownCap_ge w (n + 1) cap e
    have hcm := grownCap_le_maxLen w (n + 1) cap e hm
    rw [hv] at hold
    have hr := run_append_grow_src (P := P) w t t ty e i z ht hi hz base n cap l (by rw [hs]; exact hold) xs 1 x hsrc hcap (by omega) (by rw [hby]; exact growslice_fits hcap hbm)
    rw [hv]
    refine ⟨_, _, hr, ?_, ⟨rfl, rfl, rfl, by simp, fun k hk _ => Below.heap_alloc w.drew _ k hk⟩, .inr rfl⟩
    refine RowZ.new w.drew _ e _ hlx ?_ hge hcm (fun j u hu => ?_)
    · simp only [Array.size_append, List.size_toArray, size_zeroCells, hzs, hlx]
      rw [← Nat.add_mul]
      congr 1
      omega
    · have hj := (List.getElem?_eq_some_iff.1 hu).1
      rw [Array.getElem?_append_left (by simpa using hj)]
      simpa using hu
  rcases h with ⟨hl, ⟨rfl, rfl⟩ | ⟨g, off, cap, rfl, h2, h3, h4, h5, h6⟩⟩
  · exact grown none 0 rfl (by omega)
  · by_cases hroom : n + 1 ≤ cap
    · have hcs : n * s + s ≤ cap * s := by
        have := Nat.mul_le_mul_right s hroom
        rw [Nat.add_mul, Nat.one_mul] at this
        exact this
      have hr := run_append_room_src (P := P) w t t ty e i ht hi g off n cap xs 1 x hsrc hroom (by
        intro j hj
        rw [hs, Nat.add_assoc]
        exact (h5 (n * s + j) (by omega)).1) (by
        intro j hj
        rw [hs, Nat.add_assoc]
        exact (h5 (n * s + j) (by omega)).2)
      rw [hs] at hr
      have hsome : ∀ k, k < x.length → (w.cell? ⟨g, off + n * s + k, none⟩).isSome = true := fun k hk => by
        rw [Nat.add_assoc]
        exact (h5 (n * s + k) (by omega)).1
      refine ⟨_, _, hr, ⟨hlx, .inr ⟨g, off, cap, rfl, hroom, h3, ?_, ?_, ?_⟩⟩, only_cells _ _ _ _, .inl rfl⟩
      · rw [(setCells_at g x (off + n * s) w).2.2.2.1]
        exact h4
      · intro j hj
        rw [World.frozen?_setCells]
        refine ⟨?_, (h5 j hj).2⟩
        by_cases e1 : n * s ≤ j ∧ j < n * s + s
        · have := World.cell?_setCells_in g x (off + n * s) w hsome (j - n * s) (by omega)
          rw [show off + n * s + (j - n * s) = off + j by omega] at this
          rw [this]
          rfl
        · rw [World.cell?_setCells_out g x (off + n * s) w _ (by intro _ _; simp; omega)]
          exact (h5 j hj).1
      · intro j u hu
        by_cases e1 : j < n * s
        · rw [List.getElem?_append_left (by omega)] at hu
          rw [World.cell?_setCells_out g x (off + n * s) w _ (by intro _ _; simp; omega)]
          exact h6 j u hu
        · have hj := (List.getElem?_eq_some_iff.1 hu).1
          rw [List.length_append, hl] at hj
          rw [List.getElem?_append_right (by omega), hl] at hu
          have := World.cell?_setCells_in g x (off + n * s) w hsome (j - n * s) (by omega)
          rw [show off + n * s + (j - n * s) = off + j by omega] at this
          rw [this, ← List.getElem?_eq_getElem]
          exact hu
    · exact grown _ cap rfl (by omega)

/-- clear of the first n > 0 elements of one size. -/
theorem run_clear_sized {P : Program} (w : World) (t e ty : TypeId) (z : Value) (ht : P.underlying t = some (.slice e)) (hv : ∀ w, (zeroValue e).run P w = .ok z w) (b o n c : Nat) (hn : 0 < n) (h1 : ∀ u ∈ (Builtin.zeroCells z.cells n).toList, u.oneCell' = true)
    (hc : ∀ j, j < (Builtin.zeroCells z.cells n).toList.length → (w.cell? ⟨b, o + j, none⟩).isSome = true) (hf : ∀ j, j < (Builtin.zeroCells z.cells n).toList.length → w.frozen? ⟨b, o + j, none⟩ = false) :
    (Builtin.clear_ #[t] ty #[.slice (some ⟨b, o, none⟩) n c]).run P w = .ok (.tuple #[]) (w.setCells b o (Builtin.zeroCells z.cells n).toList) := by
  have hst := run_storeCells_cells (P := P) b o (Builtin.zeroCells z.cells n).toList 0 w (by simpa using hc) (by simpa using hf) h1
  simp only [Nat.add_zero] at hst
  obtain ⟨m, rfl⟩ : ∃ m, n = m + 1 := ⟨n - 1, by omega⟩
  simp [Builtin.clear_, run_underlying ht, hv, hst]

/-- Some first cells were written: what is behind them is as1 it was. -/
theorem RowZ.cleared {g off cap k : Nat} (zs : List Value) (hl : xs.length = n * s) (hz : zs.length = k * s) (h2 : n ≤ cap) (h3 : cap ≤ maxLen) (h4 : g < w.heap.size)
    (h5 : ∀ j, j < cap * s → (w.cell? ⟨g, off + j, none⟩).isSome = true ∧ w.frozen? ⟨g, off + j, none⟩ = false) (h6 : ∀ j u, xs[j]? = some u → w.cell? ⟨g, off + j, none⟩ = some u) (hk : k ≤ n) :
    RowZ s (w.setCells g off zs) (.slice (some ⟨g, off + k * s, none⟩) (n - k) (cap - k)) (n - k) (xs.drop (k * s)) := by
  have hcs : k * s + (cap - k) * s = cap * s := by rw [← Nat.add_mul]; congr 1; omega
  refine ⟨by rw [List.length_drop, hl, Nat.sub_mul], .inr ⟨g, off + k * s, cap - k, rfl, by omega, by omega, by rw [(setCells_at g _ off w).2.2.2.1]; exact h4, fun j hj => ?_, fun j u hu => ?_⟩⟩
  · rw [World.frozen?_setCells, World.cell?_setCells_out g _ off w _ (by intro _ _; simp; omega), Nat.add_assoc]
    exact h5 (k * s + j) (by omega)
  · rw [World.cell?_setCells_out g _ off w _ (by intro _ _; simp; omega), Nat.add_assoc]
    rw [List.getElem?_drop] at hu
    exact h6 _ u hu
theorem RowZ.empty {g : Nat} (s o : Nat) (hg : g < w.heap.size) : RowZ s w (.slice (some ⟨g, o, none⟩) 0 0) 0 [] :=
  ⟨by simp, .inr ⟨g, o, 0, rfl, by omega, by simp [maxLen], hg, fun j hj => absurd hj (by omega), fun j u hu => by simp at hu⟩⟩
end
end Go.Proofs.Yticmgkdhdfkpeaa

/- The document's account: Check, Count, Asked, Left, by contract. -/
namespace Go.Proofs.Yticmgkdhdfkpeaa
open Go.RowKit Go.Lib Go.Sort
set_option linter.unusedVariables false
set_option maxRecDepth 8000

theorem Qt.box1 (w : World) (t : TypeId) (cs : Array Value) : ∃ W, W = w.alloc (.cells cs t) ∧ w.grownBy W none ∧ Blk W w.heap.size t cs ∧ W.heap.size = w.heap.size + 1 := ⟨_, rfl, only_alloc (only_refl _ _) _, Blk.new w t cs, by simp⟩
theorem Qt.box4c {w : World} {b : Nat} {t : TypeId} {x y z u : Value} (h : Blk w b t #[x, y, z, u]) : w.cell? ⟨b, 0, none⟩ = some x ∧ w.cell? ⟨b, 1, none⟩ = some y ∧ w.cell? ⟨b, 2, none⟩ = some z ∧ w.cell? ⟨b, 3, none⟩ = some u := ⟨h.cell 0, h.cell 1, h.cell 2, h.cell 3⟩
theorem Qt.bel {w w' : World} (h : w.grownBy w' none) : Below w.heap.size w w' := below_of_only h (Nat.le_refl _) (by simp)
theorem Qt.grow_of {W W' : World} (b : Below W.heap.size W W') : W.grownBy W' none := ⟨b.os, b.tape, b.output, b.size, fun i hi _ => b.block i hi⟩
/-- What was used: frame, owner, whether. -/
abbrev Qt.En := Int × Int × Bool
def Qt.enC (e : Qt.En) : List Value := [.int .i64 e.1, .int .i64 e.2.1, .bool e.2.2]
def Qt.enL (l : List Qt.En) : List Value := l.flatMap Qt.enC
theorem Qt.enL_app (a b : List Qt.En) : Qt.enL (a ++ b) = Qt.enL a ++ Qt.enL b := by simp [Qt.enL]
theorem Qt.enL_one (f : Qt.En) : Qt.enL [f] = Qt.enC f := by simp [Qt.enL]
theorem Qt.enL_cell (l : List Qt.En) : ∀ u ∈ Qt.enL l, u.oneCell' = true := by
  intro u hu
  simp only [Qt.enL, List.mem_flatMap] at hu
  obtain ⟨f, _, hf⟩ := hu
  simp [Qt.enC] at hf
  rcases hf with rfl | rfl | rfl <;> rfl
theorem Qt.enL_get (l : List Qt.En) : ∀ (i : Nat) (hi : i < l.length) (j : Nat), j < 3 → (Qt.enL l)[i * 3 + j]? = (Qt.enC l[i])[j]? := by
  induction l with
  | nil => intro i hi; simp at hi
  | cons f l ih =>
    intro i hi j hj
    have e : Qt.enL (f :: l) = Qt.enC f ++ Qt.enL l := rfl
    rw [e]
    cases i with
    | zero =>
      rw [List.getElem?_append_left (by simp [Qt.enC]; omega)]
      simp
    | succ i =>
      rw [List.getElem?_append_right (by simp [Qt.enC]; omega)]
      have := ih i (by simpa using hi) j hj
      rw [show (i + 1) * 3 + j - (Qt.enC f).length = i * 3 + j by simp [Qt.enC]; omega, this]
      simp
theorem Qt.row_at {w : World} {A : Option Addr} {c : Nat} {l : List Qt.En} (h : RowZ 3 w (.slice A l.length c) l.length (Qt.enL l)) {i : Nat} (hi : i < l.length) : ∃ g off, A = some ⟨g, off, none⟩ ∧ w.cell? ⟨g, off + i * 3, none⟩ = some (.int .i64 l[i].1) ∧ w.cell? ⟨g, off + i * 3 + 1, none⟩ = some (.int .i64 l[i].2.1) ∧ w.cell? ⟨g, off + i * 3 + 2, none⟩ = some (.bool l[i].2.2) := by
  rcases h.2 with ⟨e, e0⟩ | ⟨b, off, c', e, -, -, -, -, h6⟩
  · omega
  · injection e with e1 e2 e3
    refine ⟨b, off, e1, ?_, ?_, ?_⟩
    · exact h6 (i * 3) _ (by have := Qt.enL_get l i hi 0 (by decide); rw [Nat.add_zero] at this; rw [this]; rfl)
    · rw [Nat.add_assoc]; exact h6 (i * 3 + 1) _ (by rw [Qt.enL_get l i hi 1 (by decide)]; rfl)
    · rw [Nat.add_assoc]; exact h6 (i * 3 + 2) _ (by rw [Qt.enL_get l i hi 2 (by decide)]; rfl)
def Qt.hit (p o : Int) (ok : Bool) (e : Qt.En) : Bool := decide (e.2.1 = o ∧ e.2.2 = ok ∧ (p < 0 ∨ e.1 = p))
def Qt.cnt (l : List Qt.En) (p o : Int) (ok : Bool) : Nat := l.countP (Qt.hit p o ok)
theorem Qt.cnt_step (l : List Qt.En) (p o : Int) (ok : Bool) {i : Nat} (hi : i < l.length) : Qt.cnt (l.take (i + 1)) p o ok = Qt.cnt (l.take i) p o ok + if Qt.hit p o ok l[i] = true then 1 else 0 := by
  unfold Qt.cnt
  rw [List.take_succ_eq_append_getElem hi, List.countP_append]
  simp [List.countP_cons]
theorem Qt.cnt_one (l : List Qt.En) (e : Qt.En) (p o : Int) (ok : Bool) : Qt.cnt (l ++ [e]) p o ok = Qt.cnt l p o ok + if Qt.hit p o ok e = true then 1 else 0 := by
  unfold Qt.cnt
  rw [List.countP_append]
  simp [List.countP_cons]
theorem Qt.cnt_le (l : List Qt.En) (p o : Int) (ok : Bool) : Qt.cnt l p o ok ≤ l.length := List.countP_le_length

theorem Qt.rcheck_right (f : Int) (A : Option Addr) (n c : Nat) (w : World) (hf : Qt.rt f = false) : Calls Try.prog 8 #[.int .i64 f, .slice A n c] w fun e w' => e = .returned (.int .i64 2) ∧ w = w' := by
  have hc := Qt.rright_any f w
  rw [hf] at hc
  have HC := Lib.hid hc
  clear hc hf
  go_enter Try.func8, Try.ntmps8
  go_wp2_with (go_at_call 20; (with_reducible refine HC.out.mono ?_); rintro e w' ⟨rfl, rfl⟩)
  go_ret
  exact ⟨rfl, rfl⟩
theorem Qt.rcheck_many (f : Int) (A : Option Addr) (n c : Nat) (w : World) (hf : Qt.rt f = true) (hn : 8 < n) : Calls Try.prog 8 #[.int .i64 f, .slice A n c] w fun e w' => e = .returned (.int .i64 4) ∧ w = w' := by
  have hc := Qt.rright_any f w
  rw [hf] at hc
  have HC := Lib.hid hc
  have i1 : (8 : Int) < (n : Int) := by omega
  clear hc hf hn
  go_enter Try.func8, Try.ntmps8
  go_wp2_with (go_at_call 20; (with_reducible refine HC.out.mono ?_); rintro e w' ⟨rfl, rfl⟩)
  go_ret
  exact ⟨rfl, rfl⟩
set_option maxHeartbeats 1600000 in
theorem Qt.rcheck_bad (f : Int) (A : Option Addr) (n c : Nat) (d : Nat → Int) (w : World) (hf : Qt.rt f = true) (hn : n ≤ 8) (hd : Qt.NumL w A n d) (hk : ¬ Qt.fine d n) : Calls Try.prog 8 #[.int .i64 f, .slice A n c] w fun e w' => e = .returned (.int .i64 2) ∧ w = w' := by
  have hc := Qt.rright_any f w
  rw [hf] at hc
  have HC := Lib.hid hc
  have i1 : ¬ (8 : Int) < (n : Int) := by omega
  obtain ⟨k0, hk0, hfk, hbk⟩ := Qt.bad hk
  have HK0 := Lib.hid hk0
  have HFK := Lib.hid hfk
  have HBK := Lib.hid hbk
  obtain ⟨g, off, rfl, hg, hcc⟩ := hd (by omega)
  have HCC := Lib.hid hcc
  have HN := Lib.hid hn
  clear hk hk0 hfk hbk hc hf hd hcc
  go_enter Try.func8, Try.ntmps8
  go_wp2_with (go_at_call 20; (with_reducible refine HC.out.mono ?_); rintro e w' ⟨rfl, rfl⟩)
  go_loop [5] (fun y => ∃ k : Nat, y = .int .i64 k ∧ k ≤ 8 ∧ Hid (k ≤ k0)) (fun y => 8 - (intOf y).toNat)
  case atStart => exact ⟨0, rfl, by omega, Lib.hid (Nat.zero_le _)⟩
  case round =>
    obtain ⟨k, rfl, hk8, HK⟩ := hrel
    have hkn : k < n := Nat.lt_of_le_of_lt HK.out HK0.out
    have i2 : (k : Int) < (n : Int) := by omega
    have c0 := HCC.out k hkn
    by_cases hkk : k = k0
    · subst hkk
      rcases HBK.out with h | ⟨h, h2⟩
      · generalize d k = x at *
        go_wp2
        go_ret
        exact ⟨rfl, rfl⟩
      · generalize d k = x at *
        go_wp2
        go_ret
        exact ⟨rfl, rfl⟩
    · have hlt : k < k0 := Nat.lt_of_le_of_ne HK.out hkk
      obtain ⟨x1, x2⟩ := HFK.out k hlt
      have x3 : ¬ d k < 1 := by omega
      have x4 : ¬ 16 < d k := by omega
      have HK2 := Lib.hid (show k + 1 ≤ k0 by omega)
      have hk9 : k + 1 ≤ 8 := by have := HN.out; omega
      clear x1 x2 hkk hlt
      generalize d k = x at *
      go_wp2
      go_round
      case rel => exact ⟨k + 1, by go_num, hk9, HK2⟩
      case measure => simp [intOf]; omega
set_option maxHeartbeats 1600000 in
theorem Qt.rcheck_ok (f : Int) (A : Option Addr) (n c : Nat) (d : Nat → Int) (w : World) (hf : Qt.rt f = true) (hn : n ≤ 8) (hd : Qt.NumL w A n d) (hk : Qt.fine d n) : Calls Try.prog 8 #[.int .i64 f, .slice A n c] w fun e w' => e = .returned (.int .i64 0) ∧ w = w' := by
  have hc := Qt.rright_any f w
  rw [hf] at hc
  have HC := Lib.hid hc
  have i1 : ¬ (8 : Int) < (n : Int) := by omega
  have HFK := Lib.hid hk
  have HD := Lib.hid hd
  have HN := Lib.hid hn
  clear hk hc hf hd
  go_enter Try.func8, Try.ntmps8
  go_wp2_with (go_at_call 20; (with_reducible refine HC.out.mono ?_); rintro e w' ⟨rfl, rfl⟩)
  go_loop [5] (fun y => ∃ k : Nat, y = .int .i64 k ∧ k ≤ n) (fun y => 8 - (intOf y).toNat)
  case atStart => exact ⟨0, rfl, by omega⟩
  case round =>
    obtain ⟨k, rfl, hkn⟩ := hrel
    by_cases hlt : k < n
    · obtain ⟨g, off, rfl, hg, hcc⟩ := HD.out (by omega)
      have i2 : (k : Int) < (n : Int) := by omega
      have c0 := hcc k hlt
      obtain ⟨x1, x2⟩ := HFK.out k hlt
      have x3 : ¬ d k < 1 := by omega
      have x4 : ¬ 16 < d k := by omega
      have hk9 : k + 1 ≤ 8 := by have := HN.out; omega
      clear x1 x2 hcc
      generalize d k = x at *
      go_wp2
      go_round
      case rel => exact ⟨k + 1, by go_num, by omega⟩
      case measure => simp [intOf]; omega
    · obtain rfl : k = n := by omega
      have i2 : ¬ (k : Int) < (k : Int) := by omega
      go_wp2
      go_ret
      exact ⟨rfl, rfl⟩
set_option maxRecDepth 20000 in
set_option maxHeartbeats 3200000 in
theorem Qt.count_any (q v : Value) (f fr p o : Int) (ok : Bool) (l : List Qt.En) (w : World) (hl : l.length ≤ 1000) (h : RowZ 3 w v l.length (Qt.enL l)) : Calls Try.prog 16 #[.agg #[.int .i64 f, q, .int .i64 fr, v], .int .i64 p, .int .i64 o, .bool ok] w fun e w' => e = .returned (.int .i64 (Qt.cnt l p o ok)) ∧ Below w.heap.size w w' := by
  obtain ⟨A, c, rfl⟩ := h.form
  obtain ⟨W, hW, G, P, Z⟩ := Qt.box1 w 32 #[.int .i64 f, q, .int .i64 fr, .slice A l.length c]
  have HB := Lib.hid (Qt.bel G)
  have HR := Lib.hid (h.grown G)
  obtain ⟨b0, b1, b2, b3⟩ := Qt.box4c P
  have HL := Lib.hid hl
  clear h G P Z hl
  go_enter Try.func16, Try.ntmps16
  go_upto_region 1 with (fail)
  rw [← hW]
  clear hW
  go_wp2
  go_loop [9, 10] (fun x y => ∃ k c0 : Nat, x = .int .i64 c0 ∧ y = .int .i64 k ∧ k ≤ l.length ∧ c0 ≤ 1000 ∧ Hid (c0 = Qt.cnt (l.take k) p o ok)) (fun _ y => 1000 - (intOf y).toNat)
  case atStart => exact ⟨0, 0, rfl, rfl, by omega, by omega, Lib.hid rfl⟩
  case round =>
    obtain ⟨k, c0, rfl, rfl, hkn, hc0, HC⟩ := hrel
    by_cases hlt : k < l.length
    · obtain ⟨g, off, rfl, k0, k1, k2⟩ := Qt.row_at HR.out hlt
      have i2 : (k : Int) < (l.length : Int) := by omega
      have i3 : (0 : Int) ≤ (k : Int) := by omega
      have hs := Qt.cnt_step l p o ok hlt
      have HLE := Lib.hid (Nat.le_trans (Qt.cnt_le (l.take (k + 1)) p o ok) (Nat.le_trans (by rw [List.length_take]; omega) HL.out : (l.take (k + 1)).length ≤ 1000))
      have hk9 : k + 1 ≤ 1000 := by have := HL.out; omega
      have HKL := Lib.hid (show k + 1 ≤ l.length from hlt)
      generalize l[k] = e at *
      obtain ⟨x, ow, u⟩ := e
      dsimp only at k0 k1 k2
      rw [← HC.out] at hs
      have HS := Lib.hid hs
      clear hs hlt
      generalize l.length = n at *
      by_cases h1 : ow = o
      · by_cases h2 : u = ok
        · by_cases h3 : p < 0
          · have HT := Lib.hid (show Qt.hit p o ok (x, ow, u) = true from by simp [Qt.hit, h1, h2, h3])
            subst h1 h2
            go_wp2
            go_round
            case rel => exact ⟨k + 1, c0 + 1, by go_num, by go_num, HKL.out, by have := HLE.out; rw [HS.out, HT.out] at this; simpa using this, Lib.hid (by rw [HS.out, HT.out]; rfl)⟩
            case measure => simp [intOf]; omega
          · by_cases h4 : x = p
            · have HT := Lib.hid (show Qt.hit p o ok (x, ow, u) = true from by simp [Qt.hit, h1, h2, h4])
              subst h1 h2 h4
              go_wp2
              go_round
              case rel => exact ⟨k + 1, c0 + 1, by go_num, by go_num, HKL.out, by have := HLE.out; rw [HS.out, HT.out] at this; simpa using this, Lib.hid (by rw [HS.out, HT.out]; rfl)⟩
              case measure => simp [intOf]; omega
            · have HT := Lib.hid (show Qt.hit p o ok (x, ow, u) = false from by simp [Qt.hit, h3, h4])
              have h5 : (x == p) = false := by simpa using h4
              subst h1 h2
              go_wp2
              go_round
              case rel => exact ⟨k + 1, c0, rfl, by go_num, HKL.out, hc0, Lib.hid (by rw [HS.out, HT.out]; rfl)⟩
              case measure => simp [intOf]; omega
        · have HT := Lib.hid (show Qt.hit p o ok (x, ow, u) = false from by simp [Qt.hit, h2])
          have h5 : (u == ok) = false := by simpa using h2
          subst h1
          go_wp2
          go_round
          case rel => exact ⟨k + 1, c0, rfl, by go_num, HKL.out, hc0, Lib.hid (by rw [HS.out, HT.out]; rfl)⟩
          case measure => simp [intOf]; omega
      · have HT := Lib.hid (show Qt.hit p o ok (x, ow, u) = false from by simp [Qt.hit, h1])
        have h5 : (ow == o) = false := by simpa using h1
        go_wp2
        go_round
        case rel => exact ⟨k + 1, c0, rfl, by go_num, HKL.out, hc0, Lib.hid (by rw [HS.out, HT.out]; rfl)⟩
        case measure => simp [intOf]; omega
    · obtain rfl : k = l.length := by omega
      have i2 : ¬ (l.length : Int) < (l.length : Int) := by omega
      have HC2 := Lib.hid (show c0 = Qt.cnt l p o ok from by rw [HC.out, List.take_length])
      clear hlt HC
      go_wp2
      go_ret
      rw [HC2.out]
      exact ⟨rfl, HB.out⟩
end Go.Proofs.Yticmgkdhdfkpeaa
