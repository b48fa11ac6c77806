import Derived.Test.YtecpplaobbkemaaZ06
import Derived.WalkMore
import Derived.Test.YtecpplaobbkemaaZ05
set_option linter.all false
/- The slots are gone through: what is handed the offsets at which an owner's units begin, by its contract. -/
namespace Go.Proofs.Ytecpplaobbkemaa
open Go.RowKit Go.Lib Go.Sort
set_option linter.unusedVariables false

/-- Where a slot's units begin; those of an owner, slot by slot. -/
def untL (x : W3) : List Int := (List.range ((x.2.2 - x.2.1) / 4).toNat).map fun (u : Nat) => x.2.1 + 4 * (u : Int)
def stL (d : Nat → W3) (n : Nat) (o : Int) : List Int := (List.range n).flatMap fun (i : Nat) => if (d i).1 = o then untL (d i) else []
theorem stL_succ (d : Nat → W3) (n : Nat) (o : Int) : stL d (n + 1) o = stL d n o ++ (if (d n).1 = o then untL (d n) else []) := by
  simp [stL, List.range_succ, List.flatMap_append]
theorem stL_pre (d : Nat → W3) (o : Int) {i n : Nat} (h : i ≤ n) : stL d i o <+: stL d n o := by
  induction n with
  | zero => rw [show i = 0 by omega]; exact List.prefix_refl _
  | succ n ih =>
    by_cases e : i = n + 1
    · rw [e]; exact List.prefix_refl _
    · rw [stL_succ]
      exact (ih (by omega)).trans (List.prefix_append _ _)
theorem stL_get {d : Nat → W3} {n i u : Nat} {o : Int} (hi : i < n) (ho : (d i).1 = o) (hu : (u : Int) < ((d i).2.2 - (d i).2.1) / 4) : (stL d n o)[(stL d i o).length + u]? = some ((d i).2.1 + 4 * (u : Int)) := by
  obtain ⟨m, hm⟩ := stL_pre d o (show i + 1 ≤ n by omega)
  rw [← hm, stL_succ, if_pos ho]
  have hl : (untL (d i)).length = (((d i).2.2 - (d i).2.1) / 4).toNat := by simp [untL]
  rw [List.getElem?_append_left (by rw [List.length_append]; omega), List.getElem?_append_right (by omega), Nat.add_sub_cancel_left]
  unfold untL
  rw [List.getElem?_map, List.getElem?_range (by omega)]
  rfl
theorem stL_len {d : Nat → W3} {i : Nat} {o : Int} (ho : (d i).1 = o) : (stL d (i + 1) o).length = (stL d i o).length + (((d i).2.2 - (d i).2.1) / 4).toNat := by
  rw [stL_succ, if_pos ho, List.length_append]
  simp [untL]
theorem stL_off {d : Nat → W3} {i : Nat} {o : Int} (ho : (d i).1 ≠ o) : (stL d (i + 1) o).length = (stL d i o).length := by
  rw [stL_succ, if_neg ho]
  simp
/-- What one that is handed in does with the j'th offset. -/
def StT (R : Nat → Nat → World → Prop) (E : World → Prop) (j g : Nat) (W : World) (e : Ending) (w' : World) : Prop :=
  ∃ z : Bool, e = .returned (.bool z) ∧ w'.heap[g]? = W.heap[g]? ∧ W.heap.size ≤ w'.heap.size ∧ (z = true → R (j + 1) g w') ∧ (z = false → E w')
/-- What is left when all were gone through, or it asked for no more. -/
def EnT (R : Nat → Nat → World → Prop) (E : World → Prop) (m : Nat) (e : Ending) (w' : World) : Prop := e = .returned (.tuple #[]) ∧ (E w' ∨ ∃ g, R m g w')
theorem blk_heap {w w' : World} {g : Nat} {t : TypeId} {cs : Array Value} (h : Blk w g t cs) (k : w'.heap[g]? = w.heap[g]?) (hs : w.heap.size ≤ w'.heap.size) : Blk w' g t cs := by
  unfold Blk at h ⊢
  first | exact k.trans h | (rw [k]; exact h)
set_option maxRecDepth 20000 in
set_option maxHeartbeats 3200000 in
theorem thr_starts (b : Nat) (f : Int) (A : Option Addr) (n c : Nat) (d : Nat → W3) (o : Int) (p1 : Nat) (R : Nat → Nat → World → Prop) (E : World → Prop) (w : World) (hg : GoodS f n d) (hf : f ≤ 4096) (hn : n ≤ 1000)
    (hT : ∀ j g W, R j g W → TbS W b f A n c d) (hgr : ∀ j g W W', R j g W → W.grownBy W' none → R j g W') (hal : ∀ j g W g', R j g W → W.heap.size ≤ g' → R j g' W)
    (hst : ∀ j g W s, (stL d n o)[j]? = some s → R j g W → g < W.heap.size → Calls Try.prog 36 #[.int .i64 s, .pointer (some ⟨p1, 0, none⟩)] W (StT R E j g W)) (hR0 : R 0 w.heap.size w) :
    Calls Try.prog 35 #[.pointer (some ⟨b, 0, none⟩), .int .i64 o, .func (.func 36) #[] #[.pointer (some ⟨p1, 0, none⟩)]] w (EnT R E (stL d n o).length) := by
  have HGD := Lib.hid hg.1
  have HT := Lib.hid hT
  have HGR := Lib.hid hgr
  have HAL := Lib.hid hal
  have HSTP := Lib.hid hst
  have R0 := Lib.hid hR0
  have HL0 := Lib.hid (show (stL d 0 o).length = 0 from rfl)
  have HEND := Lib.hid (show ∀ e w', e = .returned (.tuple #[]) → (E w' ∨ ∃ g, R (stL d n o).length g w') → EnT R E (stL d n o).length e w' from fun e w' h1 h2 => ⟨h1, h2⟩)
  have t0 : w.cell? ⟨b, 1, none⟩ = some (.slice A n c) := (hT _ _ _ hR0).1.cell 1
  clear hg hT hgr hal hst hR0
  go_enter Try.func35, Try.ntmps35
  go_wp2
  go_step3
  go_wp2
  go_step3
  go_wp2
  go_loopw [16] (fun x wr => ∃ (i g : Nat), x = .int .i64 i ∧ i ≤ n ∧ Hid (R (stL d i o).length g wr)) (fun x _ => n - (intOf x).toNat)
  case atStart => exact ⟨0, _, rfl, by omega, Lib.hid (by rw [HL0.out]; exact R0.out)⟩
  case round =>
    obtain ⟨i, g, rfl, hi, HR⟩ := hrel
    by_cases hin : i < n
    · have i1 : (i : Int) < (n : Int) := by omega
      obtain ⟨bs, off, rfl, hbs, hcs⟩ := (HT.out _ _ _ HR.out).2.2 (by omega)
      obtain ⟨s0, s1, s2⟩ := hcs i hin
      have hgd := HGD.out i hin
      have HG1 := Lib.hid (fun (u : Nat) (ho : (d i).1 = o) (hu : (u : Int) < ((d i).2.2 - (d i).2.1) / 4) => stL_get hin ho hu)
      have HG2 := Lib.hid (fun (ho : (d i).1 = o) => stL_len (d := d) (i := i) ho)
      have HG3 := Lib.hid (fun (ho : (d i).1 ≠ o) => stL_off (d := d) (i := i) ho)
      clear hcs
      obtain ⟨y0, hy0⟩ : ∃ y, y = d i := ⟨_, rfl⟩
      rw [← hy0] at s0 s1 s2 hgd HG1 HG2 HG3
      have HYI := Lib.hid hy0
      clear hy0
      obtain ⟨so, sa, sb⟩ := y0
      simp only at s0 s1 s2 hgd HG1 HG2 HG3
      have HUN := Lib.hid (fun W => suns_any (so, sa, sb) ⟨by simp only; omega, by simp only; omega, by simp only; omega⟩ W)
      simp only at HUN
      obtain ⟨m, hm⟩ : ∃ m : Nat, ((sb - sa) / 4) = (m : Int) := ⟨((sb - sa) / 4).toNat, by omega⟩
      rw [hm] at HUN HG1 HG2
      have hm9 : m ≤ 4096 := by omega
      have hb4 : sa + 4 * (m : Int) ≤ sb := by omega
      have HMM := Lib.hid hm
      clear hm
      obtain ⟨w1, hw1⟩ : ∃ w1, w1 = wr.alloc (.cells #[.int .i64 so, .int .i64 sa, .int .i64 sb] 54) := ⟨_, rfl⟩
      have hB : Blk w1 wr.heap.size 54 #[.int .i64 so, .int .i64 sa, .int .i64 sb] := by rw [hw1]; exact Blk.new _ _ _
      have g1 : wr.grownBy w1 none := by rw [hw1]; exact only_alloc (only_refl _ _) _
      have HR1 := Lib.hid (HGR.out _ _ _ _ (HAL.out _ _ _ wr.heap.size HR.out (Nat.le_refl _)) g1)
      have HB := Lib.hid hB
      have e0 : w1.cell? ⟨wr.heap.size, 0, none⟩ = some (.int .i64 so) := hB.cell 0
      have e1 : w1.cell? ⟨wr.heap.size, 1, none⟩ = some (.int .i64 sa) := hB.cell 1
      have e2 : w1.cell? ⟨wr.heap.size, 2, none⟩ = some (.int .i64 sb) := hB.cell 2
      clear hB g1
      go_upto_region 4 with (fail)
      rw [← hw1]
      clear hw1 s0 s1 s2
      generalize wr.heap.size = gs at HR1 HB e0 e1 e2 ⊢
      by_cases ho : so = o
      · have HL1 := Lib.hid (HG1.out · ho)
        have HL2 := Lib.hid (HG2.out ho)
        clear HG1 HG2 HG3
        subst ho
        go_wp2_with (go_at_call 33; (with_reducible refine (HUN.out _).mono ?_); rintro e w2 ⟨rfl, g2⟩; have HR2 := Lib.hid (HGR.out _ _ _ _ HR1.out g2); have HB2 := Lib.hid (HB.out.only g2 (by simp)); clear g2 e0 e1 e2)
        go_loopw [26] (fun x wq => ∃ (u : Nat), x = .int .i64 u ∧ u ≤ m ∧ Hid (R ((stL d i so).length + u) gs wq) ∧ Hid (Blk wq gs 54 #[.int .i64 so, .int .i64 sa, .int .i64 sb])) (fun x _ => m - (intOf x).toNat)
        case atStart => exact ⟨0, rfl, by omega, HR2, HB2⟩
        case round =>
          obtain ⟨u, rfl, hu, HRU, HBU⟩ := hrel
          by_cases hum : u < m
          · have j1 : (u : Int) < (m : Int) := by omega
            have e1 : wr.cell? ⟨gs, 1, none⟩ = some (.int .i64 sa) := HBU.out.cell 1
            have q1 : IntKind.i64.wrap ((u : Int) * 4) = 4 * (u : Int) := by rw [IntKind.wrap_i64]; omega
            have q2 : IntKind.i64.wrap (sa + 4 * (u : Int)) = sa + 4 * (u : Int) := by rw [IntKind.wrap_i64]; omega
            have HC := Lib.hid (HSTP.out _ _ _ _ (HL1.out u (by omega)) HRU.out HBU.out.lt)
            go_wp2_with (go_at_call 36; (with_reducible refine HC.out.mono ?_); rintro e w3 ⟨z, rfl, hk, hz, ht, hf9⟩; have HB3 := Lib.hid (blk_heap HBU.out hk hz); have HTR := Lib.hid ht; have HFL := Lib.hid hf9; clear hk hz ht hf9 e1; cases z)
            · simp only [Exit.noGoto]
              go_end0
              exact HEND.out _ _ rfl (.inl (by first | exact HFL.out | exact HFL.out rfl | exact HFL.out trivial))
            · go_roundw
              case rel => exact ⟨u + 1, by go_num, by omega, Lib.hid (by rw [← Nat.add_assoc]; first | exact HTR.out | exact HTR.out rfl | exact HTR.out trivial), HB3⟩
              case measure => simp [intOf] <;> omega
          · have j1 : ¬ (u : Int) < (m : Int) := by omega
            go_wp2
            go_roundw
            case rel => exact ⟨i + 1, gs, by go_num, by omega, Lib.hid (by
                rw [show (stL d (i + 1) so).length = (stL d i so).length + u from by have := HL2.out; omega]
                exact HRU.out)⟩
            case measure => simp [intOf] <;> omega
      · have hod : (so == o) = false := by simpa using ho
        have hod2 : (so != o) = true := by simpa using ho
        have HL3 := Lib.hid (HG3.out ho)
        clear HG1 HG2 HG3
        go_wp2
        go_roundw
        case rel => exact ⟨i + 1, gs, by go_num, by omega, Lib.hid (by rw [HL3.out]; exact HR1.out)⟩
        case measure => simp [intOf] <;> omega
    · have i1 : ¬ (i : Int) < (n : Int) := by omega
      obtain rfl : i = n := by omega
      go_wp2
      try simp only [Exit.noGoto]
      go_end0
      exact HEND.out _ _ rfl (.inr ⟨g, HR.out⟩)
set_option maxRecDepth 20000 in
set_option maxHeartbeats 3200000 in
theorem thr_next (b : Nat) (f : Int) (A : Option Addr) (n c : Nat) (d : Nat → W3) (o : Int) (p1 p2 p3 p4 : Nat) (R : Nat → Nat → World → Prop) (E : World → Prop) (w : World) (hg : GoodS f n d) (hf : f ≤ 4096) (hn : n ≤ 1000)
    (hT : ∀ j g W, R j g W → TbS W b f A n c d) (hgr : ∀ j g W W', R j g W → W.grownBy W' none → R j g W') (hal : ∀ j g W g', R j g W → W.heap.size ≤ g' → R j g' W)
    (hst : ∀ j g W s, (stL d n o)[j]? = some s → R j g W → g < W.heap.size → Calls Try.prog 37 #[.int .i64 s, .pointer (some ⟨p1, 0, none⟩), .pointer (some ⟨p2, 0, none⟩), .pointer (some ⟨p3, 0, none⟩), .pointer (some ⟨p4, 0, none⟩)] W (StT R E j g W)) (hR0 : R 0 w.heap.size w) :
    Calls Try.prog 35 #[.pointer (some ⟨b, 0, none⟩), .int .i64 o, .func (.func 37) #[] #[.pointer (some ⟨p1, 0, none⟩), .pointer (some ⟨p2, 0, none⟩), .pointer (some ⟨p3, 0, none⟩), .pointer (some ⟨p4, 0, none⟩)]] w (EnT R E (stL d n o).length) := by
  have HGD := Lib.hid hg.1
  have HT := Lib.hid hT
  have HGR := Lib.hid hgr
  have HAL := Lib.hid hal
  have HSTP := Lib.hid hst
  have R0 := Lib.hid hR0
  have HL0 := Lib.hid (show (stL d 0 o).length = 0 from rfl)
  have HEND := Lib.hid (show ∀ e w', e = .returned (.tuple #[]) → (E w' ∨ ∃ g, R (stL d n o).length g w') → EnT R E (stL d n o).length e w' from fun e w' h1 h2 => ⟨h1, h2⟩)
  have t0 : w.cell? ⟨b, 1, none⟩ = some (.slice A n c) := (hT _ _ _ hR0).1.cell 1
  clear hg hT hgr hal hst hR0
  go_enter Try.func35, Try.ntmps35
  go_wp2
  go_step3
  go_wp2
  go_step3
  go_wp2
  go_loopw [16] (fun x wr => ∃ (i g : Nat), x = .int .i64 i ∧ i ≤ n ∧ Hid (R (stL d i o).length g wr)) (fun x _ => n - (intOf x).toNat)
  case atStart => exact ⟨0, _, rfl, by omega, Lib.hid (by rw [HL0.out]; exact R0.out)⟩
  case round =>
    obtain ⟨i, g, rfl, hi, HR⟩ := hrel
    by_cases hin : i < n
    · have i1 : (i : Int) < (n : Int) := by omega
      obtain ⟨bs, off, rfl, hbs, hcs⟩ := (HT.out _ _ _ HR.out).2.2 (by omega)
      obtain ⟨s0, s1, s2⟩ := hcs i hin
      have hgd := HGD.out i hin
      have HG1 := Lib.hid (fun (u : Nat) (ho : (d i).1 = o) (hu : (u : Int) < ((d i).2.2 - (d i).2.1) / 4) => stL_get hin ho hu)
      have HG2 := Lib.hid (fun (ho : (d i).1 = o) => stL_len (d := d) (i := i) ho)
      have HG3 := Lib.hid (fun (ho : (d i).1 ≠ o) => stL_off (d := d) (i := i) ho)
      clear hcs
      obtain ⟨y0, hy0⟩ : ∃ y, y = d i := ⟨_, rfl⟩
      rw [← hy0] at s0 s1 s2 hgd HG1 HG2 HG3
      have HYI := Lib.hid hy0
      clear hy0
      obtain ⟨so, sa, sb⟩ := y0
      simp only at s0 s1 s2 hgd HG1 HG2 HG3
      have HUN := Lib.hid (fun W => suns_any (so, sa, sb) ⟨by simp only; omega, by simp only; omega, by simp only; omega⟩ W)
      simp only at HUN
      obtain ⟨m, hm⟩ : ∃ m : Nat, ((sb - sa) / 4) = (m : Int) := ⟨((sb - sa) / 4).toNat, by omega⟩
      rw [hm] at HUN HG1 HG2
      have hm9 : m ≤ 4096 := by omega
      have hb4 : sa + 4 * (m : Int) ≤ sb := by omega
      have HMM := Lib.hid hm
      clear hm
      obtain ⟨w1, hw1⟩ : ∃ w1, w1 = wr.alloc (.cells #[.int .i64 so, .int .i64 sa, .int .i64 sb] 54) := ⟨_, rfl⟩
      have hB : Blk w1 wr.heap.size 54 #[.int .i64 so, .int .i64 sa, .int .i64 sb] := by rw [hw1]; exact Blk.new _ _ _
      have g1 : wr.grownBy w1 none := by rw [hw1]; exact only_alloc (only_refl _ _) _
      have HR1 := Lib.hid (HGR.out _ _ _ _ (HAL.out _ _ _ wr.heap.size HR.out (Nat.le_refl _)) g1)
      have HB := Lib.hid hB
      have e0 : w1.cell? ⟨wr.heap.size, 0, none⟩ = some (.int .i64 so) := hB.cell 0
      have e1 : w1.cell? ⟨wr.heap.size, 1, none⟩ = some (.int .i64 sa) := hB.cell 1
      have e2 : w1.cell? ⟨wr.heap.size, 2, none⟩ = some (.int .i64 sb) := hB.cell 2
      clear hB g1
      go_upto_region 4 with (fail)
      rw [← hw1]
      clear hw1 s0 s1 s2
      generalize wr.heap.size = gs at HR1 HB e0 e1 e2 ⊢
      by_cases ho : so = o
      · have HL1 := Lib.hid (HG1.out · ho)
        have HL2 := Lib.hid (HG2.out ho)
        clear HG1 HG2 HG3
        subst ho
        go_wp2_with (go_at_call 33; (with_reducible refine (HUN.out _).mono ?_); rintro e w2 ⟨rfl, g2⟩; have HR2 := Lib.hid (HGR.out _ _ _ _ HR1.out g2); have HB2 := Lib.hid (HB.out.only g2 (by simp)); clear g2 e0 e1 e2)
        go_loopw [26] (fun x wq => ∃ (u : Nat), x = .int .i64 u ∧ u ≤ m ∧ Hid (R ((stL d i so).length + u) gs wq) ∧ Hid (Blk wq gs 54 #[.int .i64 so, .int .i64 sa, .int .i64 sb])) (fun x _ => m - (intOf x).toNat)
        case atStart => exact ⟨0, rfl, by omega, HR2, HB2⟩
        case round =>
          obtain ⟨u, rfl, hu, HRU, HBU⟩ := hrel
          by_cases hum : u < m
          · have j1 : (u : Int) < (m : Int) := by omega
            have e1 : wr.cell? ⟨gs, 1, none⟩ = some (.int .i64 sa) := HBU.out.cell 1
            have q1 : IntKind.i64.wrap ((u : Int) * 4) = 4 * (u : Int) := by rw [IntKind.wrap_i64]; omega
            have q2 : IntKind.i64.wrap (sa + 4 * (u : Int)) = sa + 4 * (u : Int) := by rw [IntKind.wrap_i64]; omega
            have HC := Lib.hid (HSTP.out _ _ _ _ (HL1.out u (by omega)) HRU.out HBU.out.lt)
            go_wp2_with (go_at_call 37; (with_reducible refine HC.out.mono ?_); rintro e w3 ⟨z, rfl, hk, hz, ht, hf9⟩; have HB3 := Lib.hid (blk_heap HBU.out hk hz); have HTR := Lib.hid ht; have HFL := Lib.hid hf9; clear hk hz ht hf9 e1; cases z)
            · simp only [Exit.noGoto]
              go_end0
              exact HEND.out _ _ rfl (.inl (by first | exact HFL.out | exact HFL.out rfl | exact HFL.out trivial))
            · go_roundw
              case rel => exact ⟨u + 1, by go_num, by omega, Lib.hid (by rw [← Nat.add_assoc]; first | exact HTR.out | exact HTR.out rfl | exact HTR.out trivial), HB3⟩
              case measure => simp [intOf] <;> omega
          · have j1 : ¬ (u : Int) < (m : Int) := by omega
            go_wp2
            go_roundw
            case rel => exact ⟨i + 1, gs, by go_num, by omega, Lib.hid (by
                rw [show (stL d (i + 1) so).length = (stL d i so).length + u from by have := HL2.out; omega]
                exact HRU.out)⟩
            case measure => simp [intOf] <;> omega
      · have hod : (so == o) = false := by simpa using ho
        have hod2 : (so != o) = true := by simpa using ho
        have HL3 := Lib.hid (HG3.out ho)
        clear HG1 HG2 HG3
        go_wp2
        go_roundw
        case rel => exact ⟨i + 1, gs, by go_num, by omega, Lib.hid (by rw [HL3.out]; exact HR1.out)⟩
        case measure => simp [intOf] <;> omega
    · have i1 : ¬ (i : Int) < (n : Int) := by omega
      obtain rfl : i = n := by omega
      go_wp2
      try simp only [Exit.noGoto]
      go_end0
      exact HEND.out _ _ rfl (.inr ⟨g, HR.out⟩)
set_option maxRecDepth 20000 in
set_option maxHeartbeats 3200000 in
theorem thr_between (b : Nat) (f : Int) (A : Option Addr) (n c : Nat) (d : Nat → W3) (o : Int) (p1 p2 p3 : Nat) (R : Nat → Nat → World → Prop) (E : World → Prop) (w : World) (hg : GoodS f n d) (hf : f ≤ 4096) (hn : n ≤ 1000)
    (hT : ∀ j g W, R j g W → TbS W b f A n c d) (hgr : ∀ j g W W', R j g W → W.grownBy W' none → R j g W') (hal : ∀ j g W g', R j g W → W.heap.size ≤ g' → R j g' W)
    (hst : ∀ j g W s, (stL d n o)[j]? = some s → R j g W → g < W.heap.size → Calls Try.prog 39 #[.int .i64 s, .pointer (some ⟨p1, 0, none⟩), .pointer (some ⟨p2, 0, none⟩), .pointer (some ⟨p3, 0, none⟩)] W (StT R E j g W)) (hR0 : R 0 w.heap.size w) :
    Calls Try.prog 35 #[.pointer (some ⟨b, 0, none⟩), .int .i64 o, .func (.func 39) #[] #[.pointer (some ⟨p1, 0, none⟩), .pointer (some ⟨p2, 0, none⟩), .pointer (some ⟨p3, 0, none⟩)]] w (EnT R E (stL d n o).length) := by
  have HGD := Lib.hid hg.1
  have HT := Lib.hid hT
  have HGR := Lib.hid hgr
  have HAL := Lib.hid hal
  have HSTP := Lib.hid hst
  have R0 := Lib.hid hR0
  have HL0 := Lib.hid (show (stL d 0 o).length = 0 from rfl)
  have HEND := Lib.hid (show ∀ e w', e = .returned (.tuple #[]) → (E w' ∨ ∃ g, R (stL d n o).length g w') → EnT R E (stL d n o).length e w' from fun e w' h1 h2 => ⟨h1, h2⟩)
  have t0 : w.cell? ⟨b, 1, none⟩ = some (.slice A n c) := (hT _ _ _ hR0).1.cell 1
  clear hg hT hgr hal hst hR0
  go_enter Try.func35, Try.ntmps35
  go_wp2
  go_step3
  go_wp2
  go_step3
  go_wp2
  go_loopw [16] (fun x wr => ∃ (i g : Nat), x = .int .i64 i ∧ i ≤ n ∧ Hid (R (stL d i o).length g wr)) (fun x _ => n - (intOf x).toNat)
  case atStart => exact ⟨0, _, rfl, by omega, Lib.hid (by rw [HL0.out]; exact R0.out)⟩
  case round =>
    obtain ⟨i, g, rfl, hi, HR⟩ := hrel
    by_cases hin : i < n
    · have i1 : (i : Int) < (n : Int) := by omega
      obtain ⟨bs, off, rfl, hbs, hcs⟩ := (HT.out _ _ _ HR.out).2.2 (by omega)
      obtain ⟨s0, s1, s2⟩ := hcs i hin
      have hgd := HGD.out i hin
      have HG1 := Lib.hid (fun (u : Nat) (ho : (d i).1 = o) (hu : (u : Int) < ((d i).2.2 - (d i).2.1) / 4) => stL_get hin ho hu)
      have HG2 := Lib.hid (fun (ho : (d i).1 = o) => stL_len (d := d) (i := i) ho)
      have HG3 := Lib.hid (fun (ho : (d i).1 ≠ o) => stL_off (d := d) (i := i) ho)
      clear hcs
      obtain ⟨y0, hy0⟩ : ∃ y, y = d i := ⟨_, rfl⟩
      rw [← hy0] at s0 s1 s2 hgd HG1 HG2 HG3
      have HYI := Lib.hid hy0
      clear hy0
      obtain ⟨so, sa, sb⟩ := y0
      simp only at s0 s1 s2 hgd HG1 HG2 HG3
      have HUN := Lib.hid (fun W => suns_any (so, sa, sb) ⟨by simp only; omega, by simp only; omega, by simp only; omega⟩ W)
      simp only at HUN
      obtain ⟨m, hm⟩ : ∃ m : Nat, ((sb - sa) / 4) = (m : Int) := ⟨((sb - sa) / 4).toNat, by omega⟩
      rw [hm] at HUN HG1 HG2
      have hm9 : m ≤ 4096 := by omega
      have hb4 : sa + 4 * (m : Int) ≤ sb := by omega
      have HMM := Lib.hid hm
      clear hm
      obtain ⟨w1, hw1⟩ : ∃ w1, w1 = wr.alloc (.cells #[.int .i64 so, .int .i64 sa, .int .i64 sb] 54) := ⟨_, rfl⟩
      have hB : Blk w1 wr.heap.size 54 #[.int .i64 so, .int .i64 sa, .int .i64 sb] := by rw [hw1]; exact Blk.new _ _ _
      have g1 : wr.grownBy w1 none := by rw [hw1]; exact only_alloc (only_refl _ _) _
      have HR1 := Lib.hid (HGR.out _ _ _ _ (HAL.out _ _ _ wr.heap.size HR.out (Nat.le_refl _)) g1)
      have HB := Lib.hid hB
      have e0 : w1.cell? ⟨wr.heap.size, 0, none⟩ = some (.int .i64 so) := hB.cell 0
      have e1 : w1.cell? ⟨wr.heap.size, 1, none⟩ = some (.int .i64 sa) := hB.cell 1
      have e2 : w1.cell? ⟨wr.heap.size, 2, none⟩ = some (.int .i64 sb) := hB.cell 2
      clear hB g1
      go_upto_region 4 with (fail)
      rw [← hw1]
      clear hw1 s0 s1 s2
      generalize wr.heap.size = gs at HR1 HB e0 e1 e2 ⊢
      by_cases ho : so = o
      · have HL1 := Lib.hid (HG1.out · ho)
        have HL2 := Lib.hid (HG2.out ho)
        clear HG1 HG2 HG3
        subst ho
        go_wp2_with (go_at_call 33; (with_reducible refine (HUN.out _).mono ?_); rintro e w2 ⟨rfl, g2⟩; have HR2 := Lib.hid (HGR.out _ _ _ _ HR1.out g2); have HB2 := Lib.hid (HB.out.only g2 (by simp)); clear g2 e0 e1 e2)
        go_loopw [26] (fun x wq => ∃ (u : Nat), x = .int .i64 u ∧ u ≤ m ∧ Hid (R ((stL d i so).length + u) gs wq) ∧ Hid (Blk wq gs 54 #[.int .i64 so, .int .i64 sa, .int .i64 sb])) (fun x _ => m - (intOf x).toNat)
        case atStart => exact ⟨0, rfl, by omega, HR2, HB2⟩
        case round =>
          obtain ⟨u, rfl, hu, HRU, HBU⟩ := hrel
          by_cases hum : u < m
          · have j1 : (u : Int) < (m : Int) := by omega
            have e1 : wr.cell? ⟨gs, 1, none⟩ = some (.int .i64 sa) := HBU.out.cell 1
            have q1 : IntKind.i64.wrap ((u : Int) * 4) = 4 * (u : Int) := by rw [IntKind.wrap_i64]; omega
            have q2 : IntKind.i64.wrap (sa + 4 * (u : Int)) = sa + 4 * (u : Int) := by rw [IntKind.wrap_i64]; omega
            have HC := Lib.hid (HSTP.out _ _ _ _ (HL1.out u (by omega)) HRU.out HBU.out.lt)
            go_wp2_with (go_at_call 39; (with_reducible refine HC.out.mono ?_); rintro e w3 ⟨z, rfl, hk, hz, ht, hf9⟩; have HB3 := Lib.hid (blk_heap HBU.out hk hz); have HTR := Lib.hid ht; have HFL := Lib.hid hf9; clear hk hz ht hf9 e1; cases z)
            · simp only [Exit.noGoto]
              go_end0
              exact HEND.out _ _ rfl (.inl (by first | exact HFL.out | exact HFL.out rfl | exact HFL.out trivial))
            · go_roundw
              case rel => exact ⟨u + 1, by go_num, by omega, Lib.hid (by rw [← Nat.add_assoc]; first | exact HTR.out | exact HTR.out rfl | exact HTR.out trivial), HB3⟩
              case measure => simp [intOf] <;> omega
          · have j1 : ¬ (u : Int) < (m : Int) := by omega
            go_wp2
            go_roundw
            case rel => exact ⟨i + 1, gs, by go_num, by omega, Lib.hid (by
                rw [show (stL d (i + 1) so).length = (stL d i so).length + u from by have := HL2.out; omega]
                exact HRU.out)⟩
            case measure => simp [intOf] <;> omega
      · have hod : (so == o) = false := by simpa using ho
        have hod2 : (so != o) = true := by simpa using ho
        have HL3 := Lib.hid (HG3.out ho)
        clear HG1 HG2 HG3
        go_wp2
        go_roundw
        case rel => exact ⟨i + 1, gs, by go_num, by omega, Lib.hid (by rw [HL3.out]; exact HR1.out)⟩
        case measure => simp [intOf] <;> omega
    · have i1 : ¬ (i : Int) < (n : Int) := by omega
      obtain rfl : i = n := by omega
      go_wp2
      try simp only [Exit.noGoto]
      go_end0
      exact HEND.out _ _ rfl (.inr ⟨g, HR.out⟩)
end Go.Proofs.Ytecpplaobbkemaa

/- Where an owner's units begin, and how many these are: Starts and Units, by their contracts. -/
namespace Go.Proofs.Ytecpplaobbkemaa
open Go.RowKit Go.Lib Go.Sort
set_option linter.unusedVariables false

/-- Numbers as1 cells. -/
def iL (l : List Int) : List Value := l.map fun (x : Int) => .int .i64 x
theorem iL_one (l : List Int) : ∀ u ∈ iL l, u.oneCell' = true := by
  intro u hu
  obtain ⟨x, _, rfl⟩ := List.mem_map.1 hu
  rfl
theorem iL_app (l m : List Int) : iL (l ++ m) = iL l ++ iL m := by simp [iL]
theorem take_snoc {L : List Int} {j : Nat} {s : Int} (h : L[j]? = some s) : L.take (j + 1) = L.take j ++ [s] := by
  obtain ⟨hl, he⟩ := List.getElem?_eq_some_iff.1 h
  rw [List.take_succ_eq_append_getElem hl, he]
theorem int17_info : (Try.prog.info? 3).map (fun i => (i.zero, i.size, i.bytes)) = some (some (.int .i64 0), 1, 8) := by kernel_rfl
theorem ints17_info : (Try.prog.info? 38).map (fun i => (i.zero, i.size, i.bytes)) = some (some (.slice none 0 0), 1, 24) := by kernel_rfl
/-- What is kept while the offsets are put down. -/
def RSt (w0 : World) (p : Nat) (L : List Int) (j g : Nat) (W : World) : Prop :=
  w0.grownBy W none ∧ g ≠ p ∧ ∃ v, Blk W p 38 #[v] ∧ RowZ 1 W v j (iL (L.take j)) ∧ ∀ q, v.ownBlock = some q → p < q ∧ q ≠ g
theorem RSt.push {w0 W : World} {p j g : Nat} {L : List Int} {s : Int} {v : Value} (hp : w0.heap.size ≤ p) (hj : j ≤ 100000) (hs : L[j]? = some s) (h1 : w0.grownBy W none) (h2 : g ≠ p) (h3 : Blk W p 38 #[v]) (h4 : RowZ 1 W v j (iL (L.take j))) (h5 : ∀ q, v.ownBlock = some q → p < q ∧ q ≠ g) (hg : g < W.heap.size) :
    ∃ v' w', (Builtin.append_ #[38, 38] 38 #[v, .slice (some ⟨W.heap.size, 0, none⟩) 1 1]).run Try.prog (W.alloc (.cells #[.int .i64 s] 3)) = .ok v' w' ∧ w'.cell? ⟨p, 0, none⟩ = some v ∧ w'.frozen? ⟨p, 0, none⟩ = false ∧ (∃ A c, v' = .slice A (j + 1) c) ∧ StT (RSt w0 p L) (fun _ => False) j g W (.returned (.bool true)) (w'.setCell ⟨p, 0, none⟩ v') := by
  obtain ⟨i0, hi, hz, hsz, hby⟩ := info_parts int17_info
  have b1 : Blk (W.alloc (.cells #[.int .i64 s] 3)) W.heap.size 3 #[.int .i64 s] := Blk.new _ _ _
  have hsrc : Src Try.prog 1 38 (.slice (some ⟨W.heap.size, 0, none⟩) 1 1) 1 [.int .i64 s] (W.alloc (.cells #[.int .i64 s] 3)) := Src.ofSlice _ Try.underlying38 _ _ _ _ rfl (fun k u hu => by
    rw [addr_at, Nat.zero_add, b1.cell k]
    simpa using hu) (by intro u hu; simp at hu; rw [hu]; rfl)
  have g1 : W.grownBy (W.alloc (.cells #[.int .i64 s] 3)) none := only_alloc (only_refl _ none) _
  obtain ⟨v', w', hk, hr, hg', ho⟩ := run_pushZ (P := Try.prog) (W.alloc (.cells #[.int .i64 s] 3)) 38 3 38 i0 _ 8 Try.underlying38 hi hz hsz hby (by omega) rfl _ _ _ (h4.grown g1) (iL_one _) _ _ hsrc (by omega)
  have hs1 : (W.alloc (.cells #[.int .i64 s] 3)).heap.size = W.heap.size + 1 := by simp
  have hpl := h3.lt
  have hov : ∀ q, v'.ownBlock = some q → p < q ∧ q ≠ g := fun q hq => by
    rcases ho with ho | ho
    · exact h5 q (ho ▸ hq)
    · rw [ho] at hq; injection hq with hq; omega
  have hvp : v.ownBlock ≠ some p := fun e => by have := (h5 p e).1; omega
  have hvg : v.ownBlock ≠ some g := fun e => (h5 g e).2 rfl
  have b2 := (h3.only g1 (by simp)).only hg' (fun e => hvp e.symm)
  have gw : w0.grownBy w' none := by
    have q1 := only_trans h1 g1
    refine ⟨hg'.os.trans q1.os, hg'.tape.trans q1.tape, hg'.output.trans q1.output, Nat.le_trans q1.size hg'.size, fun k hk' _ => ?_⟩
    rw [hg'.block k (by have := h1.size; omega) (fun e => by have := (h5 k e.symm).1; omega), q1.block k hk' (by simp)]
  refine ⟨v', w', hk, b2.cell 0, b2.free 0, hr.form, true, rfl, ?_, ?_, fun _ => ⟨only_putc gw (p := ⟨p, 0, none⟩) hp _, h2, v', b2.put 0 v', ?_, hov⟩, fun e => by cases e⟩
  · rw [Below.heap_setCell w' ⟨p, 0, none⟩ v' g h2]
    rw [hg'.block g (by omega) (fun e => hvg e.symm), g1.block g hg (by simp)]
  · have := hg'.size
    simp
    omega
  · rw [take_snoc hs, iL_app]
    exact hr.put (p := ⟨p, 0, none⟩) (fun e => by have := (hov p e).1; omega) v'
set_option maxHeartbeats 1600000 in
theorem sts_step (w0 : World) (p : Nat) (L : List Int) (hp : w0.heap.size ≤ p) (hL : L.length ≤ 100000) (j g : Nat) (W : World) (s : Int) (hs : L[j]? = some s) (hR : RSt w0 p L j g W) (hg : g < W.heap.size) : Calls Try.prog 36 #[.int .i64 s, .pointer (some ⟨p, 0, none⟩)] W (StT (RSt w0 p L) (fun _ => False) j g W) := by
  obtain ⟨h1, h2, v, h3, h4, h5⟩ := hR
  have hjl := (List.getElem?_eq_some_iff.1 hs).1
  obtain ⟨va, vc, rfl⟩ := h4.form
  obtain ⟨v', w', hk, hc, hf, ⟨A', c', rfl⟩, hst⟩ := RSt.push hp (by omega) hs h1 h2 h3 h4 h5 hg
  have HK := Lib.hid hk
  have HST := Lib.hid hst
  have c0 : W.cell? ⟨p, 0, none⟩ = some (.slice va j vc) := h3.cell 0
  clear hk hst h1 h2 h3 h4 h5 hs hg hp hL hjl
  go_enter Try.func36, Try.ntmps36
  go_wp2_with (at_builtin; refine wpList_append_eq rfl (.tmp 4) (.tmp 6) 38 rfl HK.out rfl rfl ?_)
  go_ret
  exact HST.out
/-- What Starts answers. -/
def StaV (L : List Int) (w : World) (e : Ending) (w' : World) : Prop := ∃ A c, e = .returned (.slice A L.length c) ∧ RowZ 1 w' (.slice A L.length c) L.length (iL L) ∧ (∀ q, (Value.slice A L.length c).ownBlock = some q → w.heap.size ≤ q) ∧ w.grownBy w' none
theorem stL_small (d : Nat → W3) (n : Nat) (o : Int) {f : Int} (hg : GoodS f n d) (hf : f ≤ 4096) : (stL d n o).length ≤ n * 1024 := by
  have : ∀ i, i ≤ n → (stL d i o).length ≤ i * 1024 := by
    intro i
    induction i with
    | zero => intro _; simp [stL]
    | succ i ih =>
      intro hi
      have h1 := ih (by omega)
      have h2 := hg.1 i (by omega)
      by_cases e : (d i).1 = o
      · have := stL_len (d := d) (i := i) e
        omega
      · have := stL_off (d := d) (i := i) e
        omega
  exact this n (Nat.le_refl _)
set_option maxHeartbeats 1600000 in
theorem starts_any (b : Nat) (f : Int) (A : Option Addr) (n c : Nat) (d : Nat → W3) (o : Int) (w : World) (h : TbS w b f A n c d) (hg : GoodS f n d) (hf : f ≤ 4096) (hn : n ≤ 64) :
    Calls Try.prog 14 #[.pointer (some ⟨b, 0, none⟩), .int .i64 o] w (StaV (stL d n o) w) := by
  have hsm := stL_small d n o hg hf
  obtain ⟨w1, hw1⟩ : ∃ w1, w1 = w.alloc (.cells #[.slice none 0 0] 38) := ⟨_, rfl⟩
  have g1 : w.grownBy w1 none := by rw [hw1]; exact only_alloc (only_refl _ _) _
  have HR0 : RSt w w.heap.size (stL d n o) 0 w1.heap.size w1 := ⟨g1, by rw [hw1]; simp, .slice none 0 0, by rw [hw1]; exact Blk.new _ _ _, RowZ.nil _ _, fun q hq => by simp [Value.ownBlock] at hq⟩
  have HTH := Lib.hid (thr_starts b f A n c d o w.heap.size (RSt w w.heap.size (stL d n o)) (fun _ => False) w1 hg hf (by omega)
    (fun j g W hR => h.grown hR.1)
    (fun j g W W' ⟨k1, k2, v, k3, k4, k5⟩ q => ⟨only_trans k1 q, k2, v, k3.only q (by simp), k4.grown q, k5⟩)
    (fun j g W g' ⟨k1, k2, v, k3, k4, k5⟩ q => ⟨k1, by have := k3.lt; omega, v, k3, k4, fun i hi => ⟨(k5 i hi).1, by have := k4.lt i hi; omega⟩⟩)
    (fun j g W s hs hR hgl => sts_step w w.heap.size (stL d n o) (Nat.le_refl _) (by omega) j g W s hs hR hgl) HR0)
  have HV := Lib.hid (show ∀ w2, EnT (RSt w w.heap.size (stL d n o)) (fun _ => False) (stL d n o).length (.returned (.tuple #[])) w2 → ∃ A c, w2.cell? ⟨w.heap.size, 0, none⟩ = some (.slice A (stL d n o).length c) ∧ StaV (stL d n o) w (.returned (.slice A (stL d n o).length c)) w2 from fun w2 ⟨_, k⟩ => by
    rcases k with k | ⟨g, k1, k2, v, k3, k4, k5⟩
    · cases k
    · obtain ⟨A, c, rfl⟩ := k4.form
      rw [List.take_length] at k4
      exact ⟨A, c, k3.cell 0, A, c, rfl, k4, fun q hq => by have := (k5 q hq).1; omega, k1⟩)
  clear h hg g1 HR0
  generalize stL d n o = L at HTH HV ⊢
  go_enter Try.func14, Try.ntmps14
  go_upto_region 2 with (fail)
  rw [← hw1]
  clear hw1
  go_wp2_with (go_at_call 35; (with_reducible refine HTH.out.mono ?_); rintro e w2 hh; have he := hh.1; subst he; obtain ⟨A', c', d0, dv⟩ := HV.out w2 hh; replace dv := Lib.hid dv; clear hh)
  go_ret
  exact dv.out
theorem units_any (b : Nat) (f : Int) (A : Option Addr) (n c : Nat) (d : Nat → W3) (o : Int) (w : World) (h : TbS w b f A n c d) (hg : GoodS f n d) (hf : f ≤ 4096) (hn : n ≤ 64) :
    Calls Try.prog 16 #[.pointer (some ⟨b, 0, none⟩), .int .i64 o] w fun e w' => e = .returned (.int .i64 ((stL d n o).length : Int)) ∧ w.grownBy w' none := by
  have HS := Lib.hid (starts_any b f A n c d o w h hg hf hn)
  clear h hg
  generalize stL d n o = L at HS ⊢
  go_enter Try.func16, Try.ntmps16
  go_wp2_with (go_at_call 14; (with_reducible refine HS.out.mono ?_); rintro e w2 ⟨A', c', rfl, _, _, g2⟩; have G2 := Lib.hid g2; clear g2)
  go_ret
  exact ⟨rfl, G2.out⟩
end Go.Proofs.Ytecpplaobbkemaa

/- Which unit is next: Next, by its contract. -/
namespace Go.Proofs.Ytecpplaobbkemaa
open Go.RowKit Go.Lib Go.Sort
set_option linter.unusedVariables false

/-- What is kept while the next one is looked for; what is left where it was found. -/
def RNx (w0 : World) (b : Nat) (L : List Int) (t f now : Int) (p1 p2 p3 p4 : Nat) (j g : Nat) (W : World) : Prop :=
  w0.grownBy W none ∧ g ≠ p1 ∧ Blk W p1 3 #[.int .i64 (if j = 0 then -1 else nextV t (L.headD 0) f)] ∧ Blk W p2 3 #[.int .i64 now] ∧ Blk W p3 3 #[.int .i64 t] ∧ Blk W p4 23 #[.pointer (some ⟨b, 0, none⟩)] ∧ ∀ (i : Nat) (s : Int), i < j → L[i]? = some s → s < now
def ENx (w0 : World) (L : List Int) (t f now : Int) (p1 : Nat) (W : World) : Prop :=
  w0.grownBy W none ∧ ∃ (j : Nat) (s : Int), L[j]? = some s ∧ now ≤ s ∧ (∀ (i : Nat) (s' : Int), i < j → L[i]? = some s' → s' < now) ∧ Blk W p1 3 #[.int .i64 (nextV t s f)]
theorem nextV_pos {t o f : Int} (h : offB o f = true) (h0 : 0 ≤ t) (ht : t ≤ 2147483647) : 0 ≤ nextV t o f := by
  have := (next_is h ht).1
  omega
set_option maxRecDepth 20000 in
set_option maxHeartbeats 1600000 in
theorem nxt_step (w0 : World) (b : Nat) (f : Int) (A : Option Addr) (n c : Nat) (d : Nat → W3) (L : List Int) (t now : Int) (p1 p2 p3 p4 : Nat) (h : TbS w0 b f A n c d) (hr : rightB f = true) (h0 : 0 ≤ t) (ht : t ≤ 2147483647) (hL : ∀ s ∈ L, offB s f = true) (hp : w0.heap.size ≤ p1) (hd : p2 ≠ p1 ∧ p3 ≠ p1 ∧ p4 ≠ p1)
    (j g : Nat) (W : World) (s : Int) (hs : L[j]? = some s) (hR : RNx w0 b L t f now p1 p2 p3 p4 j g W) (hg : g < W.heap.size) :
    Calls Try.prog 37 #[.int .i64 s, .pointer (some ⟨p1, 0, none⟩), .pointer (some ⟨p2, 0, none⟩), .pointer (some ⟨p3, 0, none⟩), .pointer (some ⟨p4, 0, none⟩)] W (StT (RNx w0 b L t f now p1 p2 p3 p4) (ENx w0 L t f now p1) j g W) := by
  obtain ⟨k1, k2, k3, k4, k5, k6, k7⟩ := hR
  obtain ⟨hd2, hd3, hd4⟩ := hd
  have hsm : s ∈ L := List.mem_of_getElem? hs
  have hoff := hL s hsm
  have hfr : s < 4096 ∧ 0 ≤ s := by
    have := (offB_iff s f).1 hoff
    omega
  have hbW : W.cell? ⟨b, 0, none⟩ = some (.int .i64 f) := (h.1.only k1 (by simp)).cell 0
  have hbl : b < w0.heap.size := h.1.lt
  -- what is left where it is not set
  have HKEEP := Lib.hid (show s < now → j ≠ 0 → ∀ q, StT (RNx w0 b L t f now p1 p2 p3 p4) (ENx w0 L t f now p1) j g W (.returned (.bool true)) (W.drewN q) from fun hlt hj q => by
    refine ⟨true, rfl, rfl, Nat.le_refl _, fun _ => ⟨only_drewN k1 q, k2, ?_, k4.drewN q, k5.drewN q, k6.drewN q, fun i s' hi hs' => ?_⟩, fun e => by cases e⟩
    · rw [if_neg hj] at k3
      rw [if_neg (by omega)]
      exact k3.drewN q
    · by_cases e : i = j
      · rw [e, hs] at hs'
        injection hs' with hs'
        omega
      · exact k7 i s' (by omega) hs')
  have HSET := Lib.hid (show (j = 0 ∨ now ≤ s) → ∀ w2, W.grownBy w2 none → ∀ q, StT (RNx w0 b L t f now p1 p2 p3 p4) (ENx w0 L t f now p1) j g W (.returned (.bool (decide (s < now)))) ((w2.setCell ⟨p1, 0, none⟩ (.int .i64 (nextV t s f))).drewN q) from fun hc w2 g2 q => by
    have m1 := (k3.only g2 (by simp)).put 0 (.int .i64 (nextV t s f))
    have m2 := (k4.only g2 (by simp)).far (p := ⟨p1, 0, none⟩) hd2 (.int .i64 (nextV t s f))
    have m3 := (k5.only g2 (by simp)).far (p := ⟨p1, 0, none⟩) hd3 (.int .i64 (nextV t s f))
    have m4 := (k6.only g2 (by simp)).far (p := ⟨p1, 0, none⟩) hd4 (.int .i64 (nextV t s f))
    have mg := only_putc (only_trans k1 g2) (p := ⟨p1, 0, none⟩) hp (.int .i64 (nextV t s f))
    refine ⟨decide (s < now), rfl, ?_, ?_, fun e => ?_, fun e => ?_⟩
    · exact (Below.heap_setCell w2 ⟨p1, 0, none⟩ _ g k2).trans (g2.block g hg (by simp))
    · have := g2.size
      simpa using this
    · have hlt : s < now := by simpa using e
      have hj : j = 0 := by omega
      subst hj
      refine ⟨only_drewN mg q, k2, ?_, m2.drewN q, m3.drewN q, m4.drewN q, fun i s' hi hs' => ?_⟩
      · have hh : L.headD 0 = s := by
          cases L with
          | nil => cases hs
          | cons a l => simpa using hs
        rw [if_neg (by omega), hh]
        exact m1.drewN q
      · have e2 : i = 0 := by omega
        rw [e2, hs] at hs'
        injection hs' with hs'
        omega
    · have hlt : now ≤ s := by have : ¬ s < now := by simpa using e
                               omega
      exact ⟨only_drewN mg q, j, s, hs, hlt, k7, m1.drewN q⟩)
  have c1 : W.cell? ⟨p1, 0, none⟩ = some (.int .i64 (if j = 0 then -1 else nextV t (L.headD 0) f)) := k3.cell 0
  have c2 : W.cell? ⟨p2, 0, none⟩ = some (.int .i64 now) := k4.cell 0
  have c3 : W.cell? ⟨p3, 0, none⟩ = some (.int .i64 t) := k5.cell 0
  have c4 : W.cell? ⟨p4, 0, none⟩ = some (.pointer (some ⟨b, 0, none⟩)) := k6.cell 0
  have HK1 := Lib.hid (show ∀ w2, W.grownBy w2 none → (∃ u, w2.cell? ⟨p1, 0, none⟩ = some u) ∧ w2.frozen? ⟨p1, 0, none⟩ = false ∧ w2.cell? ⟨p2, 0, none⟩ = some (.int .i64 now) ∧ w2.cell? ⟨p3, 0, none⟩ = some (.int .i64 t) ∧ w2.cell? ⟨p4, 0, none⟩ = some (.pointer (some ⟨b, 0, none⟩)) ∧ w2.cell? ⟨b, 0, none⟩ = some (.int .i64 f) from fun w2 g2 => by
    have m1 := k3.only g2 (by simp)
    exact ⟨⟨_, m1.cell 0⟩, m1.free 0, (k4.only g2 (by simp)).cell 0, (k5.only g2 (by simp)).cell 0, (k6.only g2 (by simp)).cell 0, (cell_heap (g2.block b (by have := k1.size; omega) (by simp)) 0).trans hbW⟩)
  have HN := Lib.hid (fun W' => next_any t s f W')
  have hnn : j ≠ 0 → 0 ≤ nextV t (L.headD 0) f := fun hj => by
    have : L.headD 0 ∈ L := by
      cases L with
      | nil => cases hs
      | cons a l => simp
    exact nextV_pos (hL _ this) h0 ht
  have hnb : ¬ p1 = b := by omega
  have hnb' : ¬ b = p1 := by omega
  have hd2' : ¬ p1 = p2 := fun e => hd2 e.symm
  have hd3' : ¬ p1 = p3 := fun e => hd3 e.symm
  have hd4' : ¬ p1 = p4 := fun e => hd4 e.symm
  have a0 : W.grownBy W none := only_refl _ _
  generalize nextV t s f = nv at HSET HN
  by_cases hset : j = 0 ∨ now ≤ s
  · have HS := Lib.hid (HSET.out hset)
    have key : ∃ pv : Int, (if j = 0 then -1 else nextV t (L.headD 0) f) = pv ∧ (pv < 0 ∨ (¬ pv < 0 ∧ now ≤ s)) := by
      by_cases hj : j = 0
      · exact ⟨-1, by rw [if_pos hj], .inl (by omega)⟩
      · exact ⟨_, rfl, .inr ⟨by rw [if_neg hj]; have := hnn hj; omega, by omega⟩⟩
    obtain ⟨pv, hpv, key⟩ := key
    rw [hpv] at c1
    clear hpv HKEEP HSET hset hnn k1 k2 k3 k4 k5 k6 k7 h hr hL hp hs hsm hoff
    rcases key with key | ⟨key, key2⟩
    all_goals
      go_enter Try.func37, Try.ntmps37
      go_upto_region 2 with (fail)
      clear c1
      go_region_held3 (fun w' => w'.cell? ⟨p3, 0, none⟩ = some (.int .i64 t) ∧ w'.cell? ⟨p4, 0, none⟩ = some (.pointer (some ⟨b, 0, none⟩)) ∧ w'.cell? ⟨b, 0, none⟩ = some (.int .i64 f)) (first | exact ⟨d3, d4, d5⟩ | go_keep) (first
        | (go_at_call 38; (with_reducible refine (HN.out _).mono ?_); rintro e w2 ⟨rfl, g2⟩; have GN : W.grownBy w2 none := only_trans (only_drewN a0 1) g2; obtain ⟨⟨u1, d1⟩, f1, d2, d3, d4, d5⟩ := HK1.out w2 GN; have HGN := Lib.hid GN; clear g2 GN)
        | fail "no arm")
      go_wp2
      go_ret
      exact HS.out w2 HGN.out 0
  · have hs1 : s < now := by omega
    have hj : j ≠ 0 := by omega
    have HS := Lib.hid (HKEEP.out hs1 hj 0)
    have hpp := hnn hj
    rw [if_neg hj] at c1
    generalize nextV t (L.headD 0) f = pv at c1 hpp
    have e1 : ¬ pv < 0 := by omega
    have e2 : ¬ now ≤ s := by omega
    clear HSET hset hnn k1 k2 k3 k4 k5 k6 k7 h hr hL hp hs hsm hoff HKEEP
    go_enter Try.func37, Try.ntmps37
    go_wp2
    go_ret
    first | exact HS.out | (have := HS.out; simpa [hs1] using this)
/-- What Next answers of offsets. -/
def NxV (L : List Int) (t f now r : Int) : Prop := (L = [] ∧ r = -1) ∨ ∃ (j : Nat) (s : Int), L[j]? = some s ∧ r = nextV t s f ∧ ((now ≤ s ∧ ∀ (i : Nat) (s' : Int), i < j → L[i]? = some s' → s' < now) ∨ (j = 0 ∧ ∀ s' ∈ L, s' < now))
def SNV (L : List Int) (t f : Int) (w : World) (e : Ending) (w' : World) : Prop := ∃ r : Int, e = .returned (.int .i64 r) ∧ ((t < 0 ∨ 2147483647 < t) → r = -1) ∧ (0 ≤ t → t ≤ 2147483647 → NxV L t f (t % f) r) ∧ w.grownBy w' none
theorem stL_off_in {d : Nat → W3} {n : Nat} {f o : Int} (hg : GoodS f n d) (hr : rightB f = true) : ∀ s ∈ stL d n o, offB s f = true := by
  intro s hs
  unfold stL at hs
  rw [List.mem_flatMap] at hs
  obtain ⟨i, hi, h⟩ := hs
  have hi' : i < n := by simpa using hi
  have hd := hg.1 i hi'
  have hf := (rightB_iff f).1 hr
  rw [offB_iff]
  split at h
  · unfold untL at h
    rw [List.mem_map] at h
    obtain ⟨u, hu, rfl⟩ := h
    have : u < (((d i).2.2 - (d i).2.1) / 4).toNat := by simpa using hu
    omega
  · cases h
set_option maxRecDepth 20000 in
set_option maxHeartbeats 3200000 in
theorem snext_any (b : Nat) (f : Int) (A : Option Addr) (n c : Nat) (d : Nat → W3) (t o : Int) (w : World) (h : TbS w b f A n c d) (hr : rightB f = true) (hg : GoodS f n d) (hn : n ≤ 64) (hfit : fitI t) :
    Calls Try.prog 17 #[.pointer (some ⟨b, 0, none⟩), .int .i64 t, .int .i64 o] w (SNV (stL d n o) t f w) := by
  have hf := (rightB_iff f).1 hr
  obtain ⟨W1, hW, G1, hP4, hP3⟩ := box2 w 23 #[.pointer (some ⟨b, 0, none⟩)] 3 #[.int .i64 t]
  obtain ⟨W2, hW2⟩ : ∃ W2, W2 = W1.alloc (.cells #[.int .i64 (-1)] 3) := ⟨_, rfl⟩
  have g2 : W1.grownBy W2 none := by rw [hW2]; exact only_alloc (only_refl _ _) _
  have hs1 : W1.heap.size = w.heap.size + 2 := by rw [hW]; simp
  have hP1 : Blk W2 (w.heap.size + 2) 3 #[.int .i64 (-1)] := by rw [hW2, ← hs1]; exact Blk.new _ _ _
  have HS2 := Lib.hid (show W2.heap.size = w.heap.size + 3 from by rw [hW2]; simp; omega)
  have P4 := Lib.hid (hP4.only g2 (by simp))
  have P3 := Lib.hid (hP3.only g2 (by simp))
  have P1 := Lib.hid hP1
  have GG := Lib.hid (only_trans G1 g2)
  have HT := Lib.hid (h.grown (only_trans G1 g2))
  have hbl := h.1.lt
  have c4 : W2.cell? ⟨w.heap.size, 0, none⟩ = some (.pointer (some ⟨b, 0, none⟩)) := P4.out.cell 0
  have c3 : W2.cell? ⟨w.heap.size + 1, 0, none⟩ = some (.int .i64 t) := P3.out.cell 0
  have c1 : W2.cell? ⟨w.heap.size + 2, 0, none⟩ = some (.int .i64 (-1)) := P1.out.cell 0
  by_cases hbad : t < 0 ∨ 2147483647 < t
  · have HF := Lib.hid (show ∀ w', w.grownBy w' none → SNV (stL d n o) t f w (.returned (.int .i64 (-1))) w' from fun w' g => ⟨-1, rfl, fun _ => rfl, fun a b => by omega, g⟩)
    have hc : t < 0 ∨ (¬ t < 0 ∧ 2147483647 < t) := by omega
    clear hP1 hP3 hP4 h hg hr hbad g2 G1 hf
    rcases hc with k1 | ⟨k1, k2⟩
    all_goals
      go_enter Try.func17, Try.ntmps17
      go_upto_region 1 with (fail)
      rw [← hW]
      clear hW
      go_upto_region 2 with (fail)
      rw [← hW2]
      clear hW2
      clear hs1
      go_wp2
      go_ret
      exact HF.out _ GG.out
  have t0 : 0 ≤ t := by omega
  have t1 : t ≤ 2147483647 := by omega
  have k1 : ¬ t < 0 := by omega
  have k2 : ¬ 2147483647 < t := by omega
  have hfrv : frV t f = (t / f, t % f) := by simp [frV, hr]; omega
  have HFC := Lib.hid (fun W => (show Calls Try.prog 28 #[.int .i64 t, .int .i64 f] W (fun r w' => r = .returned (.tuple #[.int .i64 (t / f), .int .i64 (t % f)]) ∧ ∃ q, W.drewN q = w') from by
    have := frame_any t f W (by unfold fitI at hfit; omega)
    rw [hfrv] at this
    exact this))
  have HIN := Lib.hid (stL_off_in (o := o) hg hr)
  have hsm := stL_small d n o hg hf.2
  have HLN := Lib.hid hsm
  have HFIN := Lib.hid (show ∀ r, NxV (stL d n o) t f (t % f) r → ∀ w', w.grownBy w' none → SNV (stL d n o) t f w (.returned (.int .i64 r)) w' from fun r hr' w' g => ⟨r, rfl, fun k => by omega, fun _ _ => hr', g⟩)
  generalize hy : t / f = y at HFC
  generalize hx : t % f = x at HFC HFIN
  have HTHR := Lib.hid (fun (gx : Nat) (W : World) (hgx : w.heap.size + 3 ≤ gx) (gw : W2.grownBy W none) (hB : Blk W gx 3 #[.int .i64 x]) => (show Calls Try.prog 35 #[.pointer (some ⟨b, 0, none⟩), .int .i64 o, .func (.func 37) #[] #[.pointer (some ⟨w.heap.size + 2, 0, none⟩), .pointer (some ⟨gx, 0, none⟩), .pointer (some ⟨w.heap.size + 1, 0, none⟩), .pointer (some ⟨w.heap.size, 0, none⟩)]] W (EnT (RNx w b (stL d n o) t f x (w.heap.size + 2) gx (w.heap.size + 1) w.heap.size) (ENx w (stL d n o) t f x (w.heap.size + 2)) (stL d n o).length) from
    thr_next b f A n c d o (w.heap.size + 2) gx (w.heap.size + 1) w.heap.size _ _ W hg hf.2 (by omega)
      (fun j g W' hR => h.grown hR.1)
      (fun j g W' W'' ⟨a1, a2, a3, a4, a5, a6, a7⟩ q => ⟨only_trans a1 q, a2, a3.only q (by simp), a4.only q (by simp), a5.only q (by simp), a6.only q (by simp), a7⟩)
      (fun j g W' g' ⟨a1, a2, a3, a4, a5, a6, a7⟩ q => ⟨a1, by have := a3.lt; omega, a3, a4, a5, a6, a7⟩)
      (fun j g W' s hs hR hgl => nxt_step w b f A n c d (stL d n o) t x (w.heap.size + 2) gx (w.heap.size + 1) w.heap.size h hr t0 t1 (stL_off_in hg hr) (by omega) ⟨by omega, by omega, by omega⟩ j g W' s hs hR hgl)
      ⟨only_trans GG.out gw, by have := gw.size; have := HS2.out; omega, P1.out.only gw (by simp), hB, P3.out.only gw (by simp), P4.out.only gw (by simp), fun i s hi _ => by omega⟩))
  have HEV := Lib.hid (show ∀ gx W', EnT (RNx w b (stL d n o) t f x (w.heap.size + 2) gx (w.heap.size + 1) w.heap.size) (ENx w (stL d n o) t f x (w.heap.size + 2)) (stL d n o).length (.returned (.tuple #[])) W' → ∃ r : Int, W'.cell? ⟨w.heap.size + 2, 0, none⟩ = some (.int .i64 r) ∧ NxV (stL d n o) t f x r ∧ w.grownBy W' none from fun gx W' ⟨_, k⟩ => by
    rcases k with ⟨a1, j, s, a2, a3, a4, a5⟩ | ⟨g, a1, a2, a3, a4, a5, a6, a7⟩
    · exact ⟨_, a5.cell 0, .inr ⟨j, s, a2, rfl, .inl ⟨a3, a4⟩⟩, a1⟩
    · refine ⟨_, a3.cell 0, ?_, a1⟩
      cases hL : stL d n o with
      | nil => exact .inl ⟨rfl, by simp⟩
      | cons a l =>
        rw [hL] at a7
        refine .inr ⟨0, a, rfl, by simp, .inr ⟨rfl, fun s' hs' => ?_⟩⟩
        obtain ⟨i, hi, he⟩ := List.getElem_of_mem hs'
        exact a7 i s' hi (by rw [List.getElem?_eq_getElem hi, he]))
  have a0 : W2.cell? ⟨b, 0, none⟩ = some (.int .i64 f) := HT.out.1.cell 0
  have n1 : ¬ b = w.heap.size := by omega
  have n2 : ¬ b = w.heap.size + 1 := by omega
  have n3 : ¬ b = w.heap.size + 2 := by omega
  have G0 : W2.grownBy W2 none := only_refl _ _
  have HC := Lib.hid (show ∀ W, W2.grownBy W none → W.cell? ⟨w.heap.size, 0, none⟩ = some (.pointer (some ⟨b, 0, none⟩)) ∧ W.cell? ⟨w.heap.size + 1, 0, none⟩ = some (.int .i64 t) ∧ W.cell? ⟨b, 0, none⟩ = some (.int .i64 f) from fun W g => ⟨(P4.out.only g (by simp)).cell 0, (P3.out.only g (by simp)).cell 0, (HT.out.grown g).1.cell 0⟩)
  clear hP1 hP3 hP4 h hg hr hbad g2 G1 hf hfrv hy hx hfit hsm
  generalize stL d n o = L at *
  go_enter Try.func17, Try.ntmps17
  go_upto_region 1 with (fail)
  rw [← hW]
  clear hW
  go_upto_region 2 with (fail)
  rw [← hW2]
  clear hW2
  clear hs1
  go_upto_region 4 with (fail)
  go_region_held3 (fun w' => w'.cell? ⟨w.heap.size, 0, none⟩ = some (.pointer (some ⟨b, 0, none⟩)) ∧ w'.cell? ⟨w.heap.size + 1, 0, none⟩ = some (.int .i64 t) ∧ w'.cell? ⟨b, 0, none⟩ = some (.int .i64 f)) (first | exact HC.out _ (only_putc GN (Nat.le_refl _) _) | exact HC.out _ GN | exact HC.out _ (only_alloc GN _) | exact HC.out _ (only_drew1 (only_alloc G0 _)) | exact HC.out _ (only_alloc (only_drew1 G0) _) | exact HC.out _ (only_drew1 G0) | go_keep) (first
    | (go_at_call 28; (with_reducible refine (HFC.out _).mono ?_); rintro e w3 ⟨rfl, q, hq⟩; have GN : W2.grownBy w3 none := (by rw [← hq]; first | exact only_drewN (only_drew1 G0) q | exact only_drewN (only_drew1 (only_alloc G0 _)) q | exact only_drewN (only_alloc (only_drew1 G0) _) q); (try have HZ : Blk w3 W2.heap.size 3 #[.int .i64 0] := (by rw [← hq]; first | exact ((Blk.new W2 3 #[.int .i64 0]).drewN 1).drewN q | exact (Blk.new W2.drew 3 #[.int .i64 0]).drewN q)); (try have z0 := HZ.cell 0); (try have y0 := HZ.free 0); (try simp at z0 y0); clear hq q)
    | fail "no arm")
  · have gw : W2.grownBy (w3.alloc (.cells #[.int .i64 x] 3)) none := only_alloc GN _
    have HT5 := Lib.hid (HTHR.out w3.heap.size (w3.alloc (.cells #[.int .i64 x] 3)) (by have := GN.size; have := HS2.out; omega) gw (Blk.new _ _ _))
    have z4 := (HC.out _ gw).1
    have SZ := Lib.hid gw
    clear gw
    obtain ⟨W5, hW5⟩ : ∃ W5, W5 = w3.alloc (.cells #[.int .i64 x] 3) := ⟨_, rfl⟩
    rw [← hW5] at HT5 z4 SZ ⊢
    clear hW5 c1 c3 c4 a0
    go_wp2_with (go_at_call 35; (with_reducible refine HT5.out.mono ?_); rintro e w6 hh; have he := hh.1; subst he; obtain ⟨r, d0, dn, dg⟩ := HEV.out _ w6 hh; have DN := Lib.hid dn; have DG := Lib.hid dg; clear hh dn dg z4)
    go_ret
    exact HFIN.out r DN.out w6 DG.out
  · have gw : W2.grownBy (w3.setCell ⟨W2.heap.size, 0, none⟩ (.int .i64 x)) none := only_putc GN (p := ⟨W2.heap.size, 0, none⟩) (Nat.le_refl _) _
    have HT5 := Lib.hid (HTHR.out W2.heap.size (w3.setCell ⟨W2.heap.size, 0, none⟩ (.int .i64 x)) (by have := HS2.out; omega) gw (HZ.put 0 (.int .i64 x)))
    have z4 := (HC.out _ gw).1
    have SZ := Lib.hid gw
    clear gw
    obtain ⟨W5, hW5⟩ : ∃ W5, W5 = w3.setCell ⟨W2.heap.size, 0, none⟩ (.int .i64 x) := ⟨_, rfl⟩
    rw [← hW5] at HT5 z4 SZ ⊢
    clear hW5 c1 c3 c4 a0
    go_wp2_with (go_at_call 35; (with_reducible refine HT5.out.mono ?_); rintro e w6 hh; have he := hh.1; subst he; obtain ⟨r, d0, dn, dg⟩ := HEV.out _ w6 hh; have DN := Lib.hid dn; have DG := Lib.hid dg; clear hh dn dg z4)
    go_ret
    exact HFIN.out r DN.out w6 DG.out
end Go.Proofs.Ytecpplaobbkemaa
