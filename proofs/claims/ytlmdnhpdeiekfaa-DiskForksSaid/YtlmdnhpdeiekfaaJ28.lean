/- The law's step on both disks, where a job is ended. -/
import Derived.Test.YtlmdnhpdeiekfaaJ27
import Derived.Deep.RegionHeld3
namespace Go.Proofs.Ytlmdnhpdeiekfaa
open Go.RowKit Go.Lib
set_option linter.unusedVariables false

theorem Keeps.cellO {W1 W2 : World} {S : Nat → Prop} (hk : Keeps S W1 W2) {a : Addr} {y : Value} (h : W1.cell? a = some y) (hlt : a.block < W1.heap.size) (hS : ¬ S a.block) : W2.cell? a = some y := by
  have := hk.2.2.2.2 _ hlt hS
  unfold World.cell? at h ⊢
  rw [this]
  exact h
section
variable {w w1 w' : World} {d : Nat → Prt} {n b x : Nat} {A : Option Addr} {c B : Nat} {S : Nat → UInt8} {bz : Bool} {jd jr : Jb} {sd sr : Int} {bv v : Value} {E : Nat → Value} {m : Nat} {rc : Nat → Rec}
def StepT (w : World) (d : Nat → Prt) (n b x : Nat) (A : Option Addr) (c B m : Nat) (bv v : Value) (e : Ending) (w' : World) : Prop := e = .returned (.bool true) ∧ TwN w d n b x A c B m bv v w'
set_option maxRecDepth 20000 in
set_option maxHeartbeats 6400000 in
theorem step14_end (h : Tw w d n b x A c B S bz jd jr sd sr bv v E m rc) (he : newE d n = 0) (hn : n ≤ 8) (kd tick : Int) (j : Jb) (hkd : kd ≠ 0) (ht : fitI tick) (hj : FitJ j) (hm : m ≤ 900) :
    Calls Try.prog 11 #[.pointer (some ⟨b, 0, none⟩), .pointer (some ⟨x, 0, none⟩), .agg #[.int .i64 kd, .int .i64 tick, .int .i64 j.1, .int .i64 j.2.1, .int .i64 j.2.2.1, .bool j.2.2.2.1, .string j.2.2.2.2]] w (StepT w d n b x A c B m bv v) := by
  have hwit : ∀ k, k < 9 → Within (tblN d n k) := tblN_within he
  have h1000 : n ≤ 1000 := by omega
  have hww : ∀ i, i < n → Within (d i) := fun i hi => Within.of (newE_may he i hi)
  have hbl : b < w.heap.size := h.dev.lt
  have hxl : x < w.heap.size := Blk.lt h.doc
  have HA := Lib.hid fun (W : World) (hW : Below w.heap.size w W) => ask_any (h.below hW).dev hwit j hj
  have HR := Lib.hid fun (W : World) (hW : Below w.heap.size w W) => rask_any A n c d j W x bv bz jr sr (h.below hW).doc (h.below hW).row h1000 hww
  rw [ask_eq he] at HR
  have HJ := Lib.hid fun (W : World) => rjob_any j W
  obtain ⟨o, s, nn, wr, t⟩ := j
  generalize askD (tblN d n) (o, s, nn, wr, t) = av at HA HR
  have HT := Lib.hid fun (W : World) (hW : Below (w.heap.size + 1) (w.alloc (.cells #[.int .i64 kd, .int .i64 tick, .int .i64 o, .int .i64 s, .int .i64 nn, .bool wr, .string t] 38)) W) => (show Below w.heap.size w W from ((Below.refl w.heap.size w).alloc (Nat.le_refl _) _).trans (hW.mono (Nat.le_succ _)))
  have HC := Lib.hid fun (W : World) (hW : Below (w.heap.size + 1) (w.alloc (.cells #[.int .i64 kd, .int .i64 tick, .int .i64 o, .int .i64 s, .int .i64 nn, .bool wr, .string t] 38)) W) => (show W.cell? ⟨w.heap.size, 0, none⟩ = some (.int .i64 kd) ∧ W.cell? ⟨w.heap.size, 1, none⟩ = some (.int .i64 tick) ∧ W.cell? ⟨w.heap.size, 2, none⟩ = some (.int .i64 o) ∧ W.cell? ⟨w.heap.size, 3, none⟩ = some (.int .i64 s) ∧ W.cell? ⟨w.heap.size, 4, none⟩ = some (.int .i64 nn) ∧ W.cell? ⟨w.heap.size, 5, none⟩ = some (.bool wr) ∧ W.cell? ⟨w.heap.size, 6, none⟩ = some (.string t) from by
    have q := Blk.below (Blk.new w 38 #[.int .i64 kd, .int .i64 tick, .int .i64 o, .int .i64 s, .int .i64 nn, .bool wr, .string t]) hW (Nat.lt_succ_self _)
    exact ⟨q.cell 0, q.cell 1, q.cell 2, q.cell 3, q.cell 4, q.cell 5, q.cell 6⟩)
  have hk0 : (kd == 0) = false := beq_eq_false_iff_ne.2 hkd
  have HH := Lib.hid h
  have NF : Hid (¬ Foot b x bv v w.heap.size) := Lib.hid fun hf => by
    rcases hf with (hf | hf) | hf | hf
    · omega
    · have := (h.log.blk _ hf).2
      omega
    · omega
    · have := h.bys.1.lt _ hf
      omega
  clear h hwit hww hbl hxl
  show Calls Try.prog 11 #[.pointer (some ⟨b, 0, none⟩), .pointer (some ⟨x, 0, none⟩), .agg #[.int .i64 kd, .int .i64 tick, .int .i64 o, .int .i64 s, .int .i64 nn, .bool wr, .string t]] w (StepT w d n b x A c B m bv v)
  go_enter Try.func11, Try.ntmps11
  go_wp2
  obtain ⟨c0, c1, c2, c3, c4, c5, c6⟩ := HC.out _ (below_drewN (Below.refl _ _) 1)
  go_region_held3 (fun w' => w'.cell? ⟨w.heap.size, 2, none⟩ = some (.int .i64 o) ∧ w'.cell? ⟨w.heap.size, 3, none⟩ = some (.int .i64 s) ∧ w'.cell? ⟨w.heap.size, 4, none⟩ = some (.int .i64 nn) ∧ w'.cell? ⟨w.heap.size, 5, none⟩ = some (.bool wr) ∧ w'.cell? ⟨w.heap.size, 6, none⟩ = some (.string t))
    (first | exact ⟨c2, c3, c4, c5, c6⟩ | exact (HC.out _ E3.out).2.2 | exact (HC.out _ E2.out).2.2 | exact (HC.out _ E1.out).2.2 | go_keep)
    (first
      | (go_at_call 22; have HQ := HR.out _ (HT.out _ E2.out); refine HQ.mono ?_; clear HQ; rintro e w3 ⟨rfl, b3⟩; have E3 := Lib.hid (box_next E2.out b3); clear b3)
      | (go_at_call 23; go_loud (have HQ := HJ.out w1); go_loud (refine HQ.mono ?_); clear HQ; rintro e w2 ⟨rfl, b2⟩; go_loud (have E2 := Lib.hid (box_next E1.out b2)); clear b2)
      | (go_at_call 19; have HQ := HA.out _ (HT.out _ (below_drewN (Below.refl _ _) 1)); refine HQ.mono ?_; clear HQ; rintro e w1 ⟨rfl, g1⟩; have E1 := Lib.hid (box_next (below_drewN (Below.refl _ _) 1) (below_of_only g1 (Nat.le_refl _) (by simp))); clear g1))
  all_goals
    obtain ⟨z0, z1, z2, z3, z4, z5, z6⟩ := HC.out _ E3.out
    obtain ⟨rs, ec, he2⟩ := ends_both (HH.out.below (HT.out _ E3.out)) he hn tick ht hm
    have HE2 := Lib.hid he2
    have L3 : Hid (w.heap.size < w3.heap.size) := Lib.hid (by have := box_size E3.out; omega)
    clear he2
    go_wp2_with (first
      | (go_at_call 14; have HQ := HE2.out; refine HQ.mono ?_; clear HQ; rintro e w4 ⟨rfl, k4, c4⟩; have HC4 := Lib.hid c4; have y1 := k4.cellO z1 L3.out NF.out; clear k4 c4)
      | (go_at_call 25; have HQ := HC4.out; refine HQ.mono ?_; clear HQ; rintro e w5 ⟨rfl, S5, bz5, jd5, jr5, sd5, sr5, v5, E5, m5, rc5, h5, hm5, k5⟩; have x2 : w5.cell? ⟨x, 2, none⟩ = some (.bool bz5) := Blk.cell h5.doc 2; have H5 := Lib.hid h5; have K5 := Lib.hid k5; clear h5 k5))
    have HB5 := Lib.hid (fun (W : World) (hW : Below w5.heap.size w5 W) => busy_any (H5.out.below hW).dev)
    go_region_held3 (fun w' => w'.cell? ⟨x, 2, none⟩ = some (.bool bz5))
      (first | exact x2 | go_keep)
      (first | (go_at_call 16; have HQ := HB5.out (w5.drewN 1) (below_drewN (Below.refl _ _) 1); refine HQ.mono ?_; clear HQ; rintro e w6 ⟨rfl, rfl⟩))
    all_goals
      go_wp2
      go_ret
      exact ⟨by simp, S5, _, _, _, _, _, _, _, _, _, H5.out.below (below_drewN (Below.refl _ _) _), hm5, (Keeps.of_below (HT.out _ E3.out) _).trans (Keeps.drew K5.out _)⟩
end
end Go.Proofs.Ytlmdnhpdeiekfaa
