/- The short trial of the laws on disks. -/
import Derived.Test.YtlmdnhpdeiekfaaJ14
namespace Go.Proofs.Ytlmdnhpdeiekfaa
open Go.RowKit Go.Lib Go.Sort
set_option linter.unusedVariables false

def liveD : Nat → Prt := fun _ => (2, 4, 3)
abbrev liveT : ByteArray := ⟨#[48, 49, 50, 51, 52, 53, 54, 55, 56, 57, 97, 98, 99, 100, 101, 102]⟩
theorem live_new : newE liveD 1 = 0 := by decide +kernel
theorem live_start : startV (tblN liveD 1) false 10 (2, 1, 0, true, liveT) = 0 := by decide +kernel
theorem live_job : JobOK (tblN liveD 1) (2, 1, 0, true, liveT) 2 1 1 4 3 := by
  refine ⟨rfl, by decide, by decide, by decide, rfl, rfl, by decide, by decide, rfl, rfl, by decide, by decide⟩
theorem live_sect (S : Nat → UInt8) : sectV (putS S ((4 + 1) * 16) liveT.data.toList) (tblN liveD 1) 2 1 = (liveT, 0) := by
  have h1 : noT (tblN liveD 1) 2 = false := by decide
  have h2 : hasB (tblN liveD 1 (2 : Int).toNat) 1 1 = true := by decide
  unfold sectV
  rw [h1, h2]
  simp only [if_true, if_false, Bool.false_eq_true]
  have h3 : ((tblN liveD 1 (2 : Int).toNat).2.1 + 1).toNat * 16 = (4 + 1) * 16 := by decide
  rw [h3, secS_eq, secL_put _ _ _ (by decide)]
theorem fitI_small {x : Int} (h0 : -1000000 ≤ x) (h1 : x ≤ 1000000) : fitI x := by unfold fitI; omega
theorem live_wit : ∀ k, k < 9 → Within (tblN liveD 1 k) := tblN_within live_new

theorem keepsD_below {a c : World} {b B : Nat} (k : Keeps (DskB b (.slice none 0 0)) a c) (hB : B ≤ a.heap.size) (hb : B ≤ b) : Below B a c := k.below hB fun i hi h => by
  rcases h with h | h
  · omega
  · simp [Value.ownBlock] at h
theorem live_fit : FitP (2, 4, 3) := ⟨fitI_small (by decide) (by decide), fitI_small (by decide) (by decide), fitI_small (by decide) (by decide)⟩
theorem live_newV {W w' : World} {e : Ending} {b : Nat} (hb : W.heap.size = b) (h : NewV liveD 1 W e w') : e = .returned (.tuple #[.pointer (some ⟨b, 0, none⟩), .int .i64 0]) ∧ Dsk w' b (fun _ => 0) (tblN liveD 1) false noJob 0 (.slice none 0 0) ∧ Below b W w' := by
  subst hb
  obtain ⟨h1, ⟨h2, _⟩ | ⟨_, h2, h3⟩⟩ := h
  · exact absurd live_new h2
  · exact ⟨h2, h3, h1⟩
set_option maxRecDepth 20000 in
set_option maxHeartbeats 1600000 in
theorem live14_any (w : World) : Calls Try.prog 9 #[] w fun e w' => e = .returned (.bool true) ∧ Below w.heap.size w w' := by
  have hp : PrtsV (w.alloc (.cells #[.int .i64 2, .int .i64 4, .int .i64 3] 59)) (some ⟨w.heap.size, 0, none⟩) 1 liveD := by
    refine ⟨(fun e => by cases e), fun _ => ⟨w.heap.size, 0, rfl, by simp, fun i hi => ?_⟩⟩
    obtain rfl : i = 0 := by omega
    have h := Blk.new w 59 #[.int .i64 2, .int .i64 4, .int .i64 3]
    exact ⟨h.cell 0, h.cell 1, h.cell 2⟩
  have hf : ∀ i, i < 1 → FitP (liveD i) := fun i _ => live_fit
  have HN := Lib.hid (dnew_any (some ⟨w.heap.size, 0, none⟩) 1 1 liveD _ hp hf (by omega))
  have HB0 : Hid (Below w.heap.size w (w.alloc (.cells #[.int .i64 2, .int .i64 4, .int .i64 3] 59))) := Lib.hid ((Below.refl _ _).alloc (Nat.le_refl _) _)
  have hfj : FitJ (2, 1, 0, true, liveT) := ⟨fitI_small (by decide) (by decide), fitI_small (by decide) (by decide), fitI_small (by decide) (by decide), by decide⟩
  have hstart := fun (W : World) (b : Nat) (h : Dsk W b (fun _ => 0) (tblN liveD 1) false noJob 0 (.slice none 0 0)) => start_ok h live_wit 10 (2, 1, 0, true, liveT) hfj live_start
  have hend1 := fun (W : World) (b : Nat) (h : Dsk W b (fun _ => 0) (tblN liveD 1) true (2, 1, 0, true, liveT) 10 (.slice none 0 0)) => end_early h 12 (fitI_small (by decide) (by decide)) (by decide) (by decide) (by decide)
  have hend2 := fun (W : World) (b : Nat) (h : Dsk W b (fun _ => 0) (tblN liveD 1) true (2, 1, 0, true, liveT) 10 (.slice none 0 0)) => end_write (B := 0) (n := 0) (rc := fun _ => (0, 0, 0, ⟨#[]⟩)) h (LogV.nil _ _ _) 13 (fitI_small (by decide) (by decide)) (by decide) (by decide) (by decide) rfl live_job (by omega) (by omega)
  have hsec := fun (W : World) (b : Nat) (v : Value) (h : Dsk W b (putS (fun _ => 0) ((4 + 1) * 16) liveT.data.toList) (tblN liveD 1) false noJob 0 v) => sector_any h live_wit 2 1 (fitI_small (by decide) (by decide))
  rw [live_sect] at hsec
  have HSTART := Lib.hid hstart
  have HEND1 := Lib.hid hend1
  have HEND2 := Lib.hid hend2
  have HSEC := Lib.hid hsec
  clear hp hf hfj hstart hend1 hend2 hsec
  go_enter Try.func9, Try.ntmps9
  go_wp2_with (first
    | (go_at_call 7; with_reducible refine HN.out.mono ?_; intro e w2 h2; obtain ⟨rfl, d2, b2⟩ := live_newV (b := w.heap.size + 1) (by simp) h2; have D2 := Lib.hid d2; have B2 := Lib.hid (HB0.out.trans (b2.mono (by omega))); clear h2 d2 b2)
    | (go_at_call 13; with_reducible refine (HSTART.out _ _ D2.out).mono ?_; rintro e w3 ⟨rfl, d3, g3⟩; have D3 := Lib.hid d3; have B3 := Lib.hid (B2.out.trans (below_of_only g3 B2.out.size (fun k hk => by injection hk with hk; subst hk; simp))); clear d3 g3)
    | (go_at_call 14; with_reducible refine (HEND1.out _ _ D3.out).mono ?_; rintro e w4 ⟨rfl, rfl⟩)
    | (go_at_call 14; with_reducible refine (HEND2.out _ _ D3.out).mono ?_; rintro e w5 ⟨rfl, v5, d5, _, _, k5⟩; have D5 := Lib.hid d5; have B5 := Lib.hid (B3.out.trans (keepsD_below k5 B3.out.size (Nat.le_succ _))); clear d5 k5)
    | (go_at_call 18; with_reducible refine (HSEC.out _ _ _ D5.out).mono ?_; rintro e w6 ⟨rfl, b6⟩; have D6 := Lib.hid (D5.out.below b6); have B6 := Lib.hid (B5.out.trans (b6.mono B5.out.size)); clear b6)
    | (go_at_call 16; with_reducible refine (busy_any D6.out).mono ?_; rintro e w7 ⟨rfl, rfl⟩))
  go_ret
  exact ⟨rfl, B6.out⟩
end Go.Proofs.Ytlmdnhpdeiekfaa
