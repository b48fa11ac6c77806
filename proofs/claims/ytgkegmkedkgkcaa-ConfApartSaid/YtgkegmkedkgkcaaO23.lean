/- What must be whatever is asked, of the law of tables. -/
import Derived.Test.YtgkegmkedkgkcaaO22
namespace Go.Proofs.Ytgkegmkedkgkcaa
open Go.RowKit Go.Lib Go.Sort
set_option linter.unusedVariables false

/-- The example's tables. -/
def lvC (h : Nat) (q : Int) : Cf := { fr := 20, wA := some ⟨h + 1, 0, none⟩, wn := 2, wc := 2, wd := fun i => if i = 0 then (0, 0, 4) else (1, 4, 20), sA := some ⟨h + 2, 0, none⟩, sn := 1, sc := 1, sd := fun _ => (1, 4, 12), cA := some ⟨h + 3, 0, none⟩, cn := 1, cc := 1, cd := fun _ => { base := 128, size := 32, ring := 1, at' := 0, quota := q, queue := 0, mac := 0, chan := 0, first := 0, secs := 0 } }
theorem lv_flt3 (h : Nat) : fltL (lvC h 3) = [(1, 10)] := by
  have : fltL (lvC 0 3) = [(1, 10)] := by decide +kernel
  exact this
theorem lv_flt2 (h : Nat) : fltL (lvC h 2) = [] := by
  have : fltL (lvC 0 2) = [] := by decide +kernel
  exact this
theorem lv_units (h : Nat) : unitsV (lvC h 2) 1 = 2 := by
  have : unitsV (lvC 0 2) 1 = 2 := by decide +kernel
  exact this
theorem lv_ring : rgN 16 = 130 := by decide +kernel
abbrev lvX (q : Int) : Array Value := #[.int .i64 128, .int .i64 32, .int .i64 1, .int .i64 0, .int .i64 q, .int .i64 0, .int .i64 0, .int .i64 0, .int .i64 0, .int .i64 0]
theorem lv_fit (h : Nat) {q : Int} (hq : 0 ≤ q ∧ q ≤ 100) : FitCf (lvC h q) := by
  refine ⟨by unfold fitI lvC; simp, ⟨by simp [lvC], by simp [lvC], fun i hi => ?_⟩, ⟨by simp [lvC], by simp [lvC], fun i hi => ?_⟩, ⟨by simp [lvC], by simp [lvC], fun i hi => ?_⟩⟩
  · unfold FitW3 fitI lvC
    by_cases e : i = 0 <;> simp [e]
  · unfold FitW3 fitI lvC
    simp
  · unfold FitCl fitI lvC
    simp
    omega
/-- The rows of the example. -/
def LvW (W : World) (h : Nat) (q : Int) : Prop := Blk W (h + 1) 34 #[.int .i64 0, .int .i64 0, .int .i64 4, .int .i64 1, .int .i64 4, .int .i64 20] ∧ Blk W (h + 2) 37 #[.int .i64 1, .int .i64 4, .int .i64 12] ∧ Blk W (h + 3) 43 (lvX q) ∧ BoxC W (h + 4) (lvC h q)
theorem LvW.cf {W : World} {h : Nat} {q : Int} (k : LvW W h q) : CfV W (lvC h q) := by
  obtain ⟨b1, b2, b3, b4⟩ := k
  refine ⟨⟨fun e => by simp [lvC] at e, fun _ => ⟨h + 1, 0, rfl, b1.lt, fun i hi => ?_⟩⟩, ⟨fun e => by simp [lvC] at e, fun _ => ⟨h + 2, 0, rfl, b2.lt, fun i hi => ?_⟩⟩, ⟨fun e => by simp [lvC] at e, fun _ => ⟨h + 3, 0, rfl, b3.lt, fun i hi => ?_⟩⟩⟩
  · have hi' : i < 2 := hi
    have : i = 0 ∨ i = 1 := by omega
    rcases this with rfl | rfl
    · exact ⟨b1.cell 0, b1.cell 1, b1.cell 2⟩
    · exact ⟨b1.cell 3, b1.cell 4, b1.cell 5⟩
  · have hi' : i < 1 := hi
    obtain rfl : i = 0 := by omega
    exact ⟨b2.cell 0, b2.cell 1, b2.cell 2⟩
  · have hi' : i < 1 := hi
    obtain rfl : i = 0 := by omega
    exact ⟨b3.cell 0, b3.cell 1, b3.cell 2, b3.cell 3, b3.cell 4, b3.cell 5, b3.cell 6, b3.cell 7, b3.cell 8, b3.cell 9⟩
theorem LvW.below {W W' : World} {h : Nat} {q : Int} (k : LvW W h q) {B : Nat} (b : Below B W W') (hB : h + 5 ≤ B) : LvW W' h q :=
  ⟨k.1.below b (by omega), k.2.1.below b (by omega), k.2.2.1.below b (by omega), k.2.2.2.below b (by omega)⟩
theorem LvW.only {W W' : World} {h : Nat} {q : Int} (k : LvW W h q) (g : W.grownBy W' none) : LvW W' h q :=
  ⟨k.1.only g (by simp), k.2.1.only g (by simp), k.2.2.1.only g (by simp), k.2.2.2.only g (by simp)⟩
theorem LvW.set {W : World} {h : Nat} (k : LvW W h 3) : LvW (W.setCell ⟨h + 3, 4, none⟩ (.int .i64 2)) h 2 :=
  ⟨k.1.far (by simp) _, k.2.1.far (by simp) _, k.2.2.1.put 4 _, k.2.2.2.far (by simp) _⟩
theorem lv_world (w : World) : ∃ W, W = (((((w.alloc (.cells (lvX 3) 43)).alloc (.cells #[.int .i64 0, .int .i64 0, .int .i64 4, .int .i64 1, .int .i64 4, .int .i64 20] 34)).alloc (.cells #[.int .i64 1, .int .i64 4, .int .i64 12] 37)).alloc (.cells (lvX 3) 43)).alloc (.cells #[.int .i64 20, .slice (some ⟨w.heap.size + 1, 0, none⟩) 2 2, .slice (some ⟨w.heap.size + 2, 0, none⟩) 1 1, .slice (some ⟨w.heap.size + 3, 0, none⟩) 1 1] 26)) ∧ LvW W w.heap.size 3 ∧ w.grownBy W none ∧ W.heap.size = w.heap.size + 5 := by
  refine ⟨_, rfl, ⟨?_, ?_, ?_, ?_⟩, only_alloc (only_alloc (only_alloc (only_alloc (only_alloc (only_refl _ _) _) _) _) _) _, by simp⟩
  · refine Blk.alloc (Blk.alloc (Blk.alloc ?_ _) _) _
    simpa using Blk.new (w.alloc (.cells (lvX 3) 43)) 34 _
  · refine Blk.alloc (Blk.alloc ?_ _) _
    have := Blk.new ((w.alloc (.cells (lvX 3) 43)).alloc (.cells #[.int .i64 0, .int .i64 0, .int .i64 4, .int .i64 1, .int .i64 4, .int .i64 20] 34)) 37 #[.int .i64 1, .int .i64 4, .int .i64 12]
    rw [show ((w.alloc (.cells (lvX 3) 43)).alloc (.cells #[.int .i64 0, .int .i64 0, .int .i64 4, .int .i64 1, .int .i64 4, .int .i64 20] 34)).heap.size = w.heap.size + 2 by simp] at this
    exact this
  · refine Blk.alloc ?_ _
    have := Blk.new (((w.alloc (.cells (lvX 3) 43)).alloc (.cells #[.int .i64 0, .int .i64 0, .int .i64 4, .int .i64 1, .int .i64 4, .int .i64 20] 34)).alloc (.cells #[.int .i64 1, .int .i64 4, .int .i64 12] 37)) 43 (lvX 3)
    rw [show (((w.alloc (.cells (lvX 3) 43)).alloc (.cells #[.int .i64 0, .int .i64 0, .int .i64 4, .int .i64 1, .int .i64 4, .int .i64 20] 34)).alloc (.cells #[.int .i64 1, .int .i64 4, .int .i64 12] 37)).heap.size = w.heap.size + 3 by simp] at this
    exact this
  · have := Blk.new ((((w.alloc (.cells (lvX 3) 43)).alloc (.cells #[.int .i64 0, .int .i64 0, .int .i64 4, .int .i64 1, .int .i64 4, .int .i64 20] 34)).alloc (.cells #[.int .i64 1, .int .i64 4, .int .i64 12] 37)).alloc (.cells (lvX 3) 43)) 26 (cfA (lvC w.heap.size 3))
    rw [show ((((w.alloc (.cells (lvX 3) 43)).alloc (.cells #[.int .i64 0, .int .i64 0, .int .i64 4, .int .i64 1, .int .i64 4, .int .i64 20] 34)).alloc (.cells #[.int .i64 1, .int .i64 4, .int .i64 12] 37)).alloc (.cells (lvX 3) 43)).heap.size = w.heap.size + 4 by simp] at this
    exact this
theorem row_one {w : World} {v a b : Value} (h : RowZ 2 w v 1 [a, b]) : ∃ g off cap, v = .slice (some ⟨g, off, none⟩) 1 cap ∧ v.ownBlock = some g ∧ w.cell? ⟨g, off, none⟩ = some a ∧ w.cell? ⟨g, off + 1, none⟩ = some b := by
  rcases h with ⟨hl, ⟨rfl, h0⟩ | ⟨g, off, cap, rfl, h1, h2, h3, h4, h5⟩⟩
  · omega
  · exact ⟨g, off, cap, rfl, rfl, h5 0 a rfl, h5 1 b rfl⟩
theorem live15_any (w : World) : Calls Try.prog 6 #[] w fun e w' => e = .returned (.bool true) ∧ w.grownBy w' none := by
  obtain ⟨W, hW, HL, hg, hz⟩ := lv_world w
  have HF := Lib.hid (show Calls Try.prog 11 #[.agg #[.int .i64 20, .slice (some ⟨w.heap.size + 1, 0, none⟩) 2 2, .slice (some ⟨w.heap.size + 2, 0, none⟩) 1 1, .slice (some ⟨w.heap.size + 3, 0, none⟩) 1 1]] W (FaultsV (lvC w.heap.size 3) W) from faults_any (lvC w.heap.size 3) W HL.cf (lv_fit _ (by omega)))
  have HC := Lib.hid (fun (w' : World) (k : LvW w' w.heap.size 2) => (show Calls Try.prog 5 #[.agg #[.int .i64 20, .slice (some ⟨w.heap.size + 1, 0, none⟩) 2 2, .slice (some ⟨w.heap.size + 2, 0, none⟩) 1 1, .slice (some ⟨w.heap.size + 3, 0, none⟩) 1 1]] w' (fun e w'' => e = .returned (.bool true) ∧ w'.grownBy w'' none) from by
    have := check_any (lvC w.heap.size 2) w' k.cf (lv_fit _ (by omega))
    rw [lv_flt2] at this
    exact this))
  have HU := Lib.hid (fun (w' : World) (k : LvW w' w.heap.size 2) => (show Calls Try.prog 9 #[.agg #[.int .i64 20, .slice (some ⟨w.heap.size + 1, 0, none⟩) 2 2, .slice (some ⟨w.heap.size + 2, 0, none⟩) 1 1, .slice (some ⟨w.heap.size + 3, 0, none⟩) 1 1], .int .i64 1] w' (fun e w'' => e = .returned (.int .i64 2) ∧ w'.grownBy w'' none) from by
    have := units_any (lvC w.heap.size 2) 1 w' k.cf (lv_fit _ (by omega))
    rw [lv_units] at this
    exact this))
  have HR := Lib.hid (fun (w' : World) => (show Calls Try.prog 12 #[.int .i64 16] w' (fun e w'' => e = .returned (.int .i64 130) ∧ w' = w'') from by
    have := ring_any 16 w'
    rw [lv_ring] at this
    exact this))
  obtain ⟨k0, k1, k2, k3⟩ := cf_cells HL.2.2.2
  have HL' := Lib.hid HL
  have HG := Lib.hid hg
  have HZ := Lib.hid hz
  simp only [lvC] at k0 k1 k2 k3
  have hW' : W = (((((w.alloc (.cells #[.int .i64 128, .int .i64 32, .int .i64 1, .int .i64 0, .int .i64 3, .int .i64 0, .int .i64 0, .int .i64 0, .int .i64 0, .int .i64 0] 43)).alloc (.cells #[.int .i64 0, .int .i64 0, .int .i64 4, .int .i64 1, .int .i64 4, .int .i64 20] 34)).alloc (.cells #[.int .i64 1, .int .i64 4, .int .i64 12] 37)).alloc (.cells #[.int .i64 128, .int .i64 32, .int .i64 1, .int .i64 0, .int .i64 3, .int .i64 0, .int .i64 0, .int .i64 0, .int .i64 0, .int .i64 0] 43)).alloc (.cells #[.int .i64 20, .slice (some ⟨w.heap.size + 1, 0, none⟩) 2 2, .slice (some ⟨w.heap.size + 2, 0, none⟩) 1 1, .slice (some ⟨w.heap.size + 3, 0, none⟩) 1 1] 26)) := hW
  clear HL hg hz hW
  go_enter Try.func6, Try.ntmps6
  go_upto_region 3 with (fail)
  rw [← hW']
  clear hW'
  have f4 : ∀ w' : World, LvW w' w.heap.size 3 → w'.frozen? ⟨w.heap.size + 3, 4, none⟩ = false := fun w' k => k.2.2.1.free 4
  have x4 : ∀ w' : World, LvW w' w.heap.size 3 → w'.cell? ⟨w.heap.size + 3, 4, none⟩ = some (.int .i64 3) := fun w' k => k.2.2.1.cell 4
  have F4 := Lib.hid f4
  have X4 := Lib.hid x4
  clear f4 x4
  go_wp2_with (first
    | (go_at_call 11
       go_loud (
         (with_reducible refine HF.out.mono ?_)
         rintro e w2 ⟨v, rfl, hr, ho, hb⟩
         rw [lv_flt3] at hr
         have hz := HZ.out
         have hne : v.ownBlock ≠ some (w.heap.size + 3) := fun e => by
           have := ho _ e
           omega
         have hr3 := hr.put (p := ⟨w.heap.size + 3, 4, none⟩) hne (.int .i64 2)
         obtain ⟨g, off, cap, rfl, hog, d0, d1⟩ := row_one hr3
         have L2 := HL'.out.below hb (by omega)
         have c4 := X4.out _ L2
         have e4 := F4.out _ L2
         have L3 := Lib.hid L2.set
         have G3 := Lib.hid (only_of_below (((below_of_only HG.out (Nat.le_refl _) (by simp)).trans (hb.mono (by omega))).setCell (p := ⟨w.heap.size + 3, 4, none⟩) (show w.heap.size ≤ w.heap.size + 3 by omega) (.int .i64 2)))
         clear hr hr3 ho hb hog hz hne k0 k1 k2 k3
         obtain ⟨m0, m1, m2, m3⟩ := cf_cells L2.2.2.2
         obtain ⟨k0, k1, k2, k3⟩ := cf_cells L3.out.2.2.2
         simp only [lvC] at k0 k1 k2 k3 m0 m1 m2 m3))
    | (go_at_call 5; (with_reducible refine (HC.out _ L3.out).mono ?_); rintro e w4 ⟨rfl, g4⟩; have L4 := Lib.hid (L3.out.only g4); have G4 := Lib.hid (only_trans G3.out g4); clear g4 d0 d1 k0 k1 k2 k3; obtain ⟨k0, k1, k2, k3⟩ := cf_cells L4.out.2.2.2; simp only [lvC] at k0 k1 k2 k3)
    | (go_at_call 9; (with_reducible refine (HU.out _ L4.out).mono ?_); rintro e w5 ⟨rfl, g5⟩; have G5 := Lib.hid (only_trans G4.out g5); clear g5 k0 k1 k2 k3)
    | (go_at_call 12; (with_reducible refine (HR.out _).mono ?_); rintro e w6 ⟨rfl, rfl⟩))
  go_ret
  exact ⟨rfl, G5.out⟩
end Go.Proofs.Ytgkegmkedkgkcaa
