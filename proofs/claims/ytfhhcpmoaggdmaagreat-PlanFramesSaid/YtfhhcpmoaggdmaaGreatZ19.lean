import Derived.Test.YtfhhcpmoaggdmaaGreatZ18
set_option linter.all false
/- Plans: what a frame's ticks count up to, in plain form. -/
namespace Go.Proofs.YtfhhcpmoaggdmaaGreat
open Go.RowKit Go.Lib Go.Sort
set_option linter.unusedVariables false

/-- A frame's array of nine counters, at a block. -/
def updQ (f : Nat → Int) (i : Nat) (x : Int) : Nat → Int := fun k => if k = i then x else f k
/-- Posts (j = 0) and collects (j = 1) of an owner at offsets below k. -/
def dutF (c : Cf) (j : Int) (k : Nat) : Nat → Int := fun o => if 1 ≤ o ∧ o ≤ c.cn ∧ ioC c + 2 * ((o : Int) - 1) + j < (k : Int) then 1 else 0
/-- Where an owner's window begins. -/
def begC (c : Cf) (o : Int) : Int := (fdW (qWindow o) c.wn c.wd).2.1
/-- How often an owner's window begins at offsets below k. -/
def opnF (c : Cf) (k : Nat) : Nat → Int := fun o => if 1 ≤ o ∧ o ≤ c.cn ∧ begC c o < (k : Int) then 1 else 0
/-- What is due at an offset. -/
def dtC (c : Cf) (k : Nat) : Int × Int := dutyV c.cn ((k : Int) - ioC c)
/-- What was due at the offset ahead of one. -/
def lstC (c : Cf) (k : Nat) : Int × Int := if k = 0 then (0, 0) else dtC c (k - 1)
theorem mod_at {c : Cf} {f : Int} {k : Nat} (hf : 0 ≤ f) (h1 : 1 ≤ c.fr) (hk : (k : Int) < c.fr) : (f * c.fr + (k : Int)) % c.fr = (k : Int) := by
  rw [Int.add_comm, Int.add_mul_emod_self_right]
  exact Int.emod_eq_of_lt (by omega) hk
theorem rd_at {c : Cf} {f : Int} {k : Nat} (hf : 0 ≤ f) (h1 : 1 ≤ c.fr) (hk : (k : Int) < c.fr) : rdV c (f * c.fr + (k : Int)) = dtC c k := by
  have : 0 ≤ f * c.fr := Int.mul_nonneg hf (by omega)
  unfold rdV dtC
  rw [if_neg (by omega), mod_at hf h1 hk]
def opC (c : Cf) (k : Nat) : Int := (fdW (rOp (k : Int)) c.wn c.wd).1
def rnC (c : Cf) (k : Nat) : Int := (fdW (rRn (k : Int)) c.wn c.wd).1
theorem opn_at {c : Cf} {f : Int} {k : Nat} (hf : 0 ≤ f) (h1 : 1 ≤ c.fr) (hk : (k : Int) < c.fr) : opnC c (f * c.fr + (k : Int)) = opC c k := by
  have : 0 ≤ f * c.fr := Int.mul_nonneg hf (by omega)
  unfold opnC opC
  rw [if_neg (by omega), mod_at hf h1 hk]
theorem run_at {c : Cf} {f : Int} {k : Nat} (hf : 0 ≤ f) (h1 : 1 ≤ c.fr) (hk : (k : Int) < c.fr) : runC c (f * c.fr + (k : Int)) = rnC c k := by
  have : 0 ≤ f * c.fr := Int.mul_nonneg hf (by omega)
  unfold runC rnC
  rw [if_neg (by omega), mod_at hf h1 hk]
theorem dt_cases (c : Cf) (k : Nat) : (dtC c k = (0, 0) ∧ ¬ (0 ≤ (k : Int) - ioC c ∧ (k : Int) - ioC c < 2 * (c.cn : Int))) ∨
    (∃ o : Nat, 1 ≤ o ∧ o ≤ c.cn ∧ dtC c k = (1, (o : Int)) ∧ (k : Int) = ioC c + 2 * ((o : Int) - 1)) ∨
    (∃ o : Nat, 1 ≤ o ∧ o ≤ c.cn ∧ dtC c k = (2, (o : Int)) ∧ (k : Int) = ioC c + 2 * ((o : Int) - 1) + 1) := by
  unfold dtC dutyV
  by_cases h : (k : Int) - ioC c < 0 ∨ 2 * (c.cn : Int) ≤ (k : Int) - ioC c
  · exact Or.inl ⟨by rw [if_pos h], by omega⟩
  · rw [if_neg h]
    by_cases h2 : ((k : Int) - ioC c) % 2 = 0
    · refine Or.inr (Or.inl ⟨(1 + ((k : Int) - ioC c) / 2).toNat, by omega, by omega, ?_, by omega⟩)
      congr 1 <;> omega
    · refine Or.inr (Or.inr ⟨(1 + ((k : Int) - ioC c) / 2).toNat, by omega, by omega, ?_, by omega⟩)
      congr 1 <;> omega
theorem dut_same {c : Cf} {k : Nat} {j : Int} (h : ∀ o : Nat, 1 ≤ o → o ≤ c.cn → (k : Int) ≠ ioC c + 2 * ((o : Int) - 1) + j) : dutF c j (k + 1) = dutF c j k := by
  funext o
  unfold dutF
  by_cases ho : 1 ≤ o ∧ o ≤ c.cn
  · have := h o ho.1 ho.2
    by_cases h2 : ioC c + 2 * ((o : Int) - 1) + j < (k : Int)
    · rw [if_pos ⟨ho.1, ho.2, by omega⟩, if_pos ⟨ho.1, ho.2, h2⟩]
    · rw [if_neg (by omega), if_neg (by omega)]
  · rw [if_neg (by omega), if_neg (by omega)]
theorem dut_up {c : Cf} {k o : Nat} {j : Int} (h1 : 1 ≤ o) (h2 : o ≤ c.cn) (h : (k : Int) = ioC c + 2 * ((o : Int) - 1) + j) : dutF c j k o = 0 ∧ updQ (dutF c j k) o 1 = dutF c j (k + 1) := by
  constructor
  · unfold dutF
    rw [if_neg (by omega)]
  · funext q
    unfold updQ dutF
    by_cases e : q = o
    · subst e
      rw [if_pos rfl, if_pos ⟨h1, h2, by omega⟩]
    · rw [if_neg e]
      by_cases hq : 1 ≤ q ∧ q ≤ c.cn ∧ ioC c + 2 * ((q : Int) - 1) + j < (k : Int)
      · rw [if_pos hq, if_pos ⟨hq.1, hq.2.1, by omega⟩]
      · rw [if_neg hq, if_neg (by omega)]
/-- What one tick does to the counters of duties. -/
theorem dut_step {c : Cf} (R : RightF c) (k : Nat) :
    (dtC c k = (0, 0) ∧ dutF c 0 (k + 1) = dutF c 0 k ∧ dutF c 1 (k + 1) = dutF c 1 k) ∨
    (∃ o : Nat, 1 ≤ o ∧ o ≤ c.cn ∧ dtC c k = (1, (o : Int)) ∧ dutF c 0 k o = 0 ∧ updQ (dutF c 0 k) o 1 = dutF c 0 (k + 1) ∧ dutF c 1 (k + 1) = dutF c 1 k ∧ ioC c ≤ k ∧ (k : Int) < (fdW (qWindow 0) c.wn c.wd).2.2) ∨
    (∃ o : Nat, 1 ≤ o ∧ o ≤ c.cn ∧ dtC c k = (2, (o : Int)) ∧ dutF c 1 k o = 0 ∧ updQ (dutF c 1 k) o 1 = dutF c 1 (k + 1) ∧ dutF c 0 (k + 1) = dutF c 0 k ∧ ioC c ≤ k ∧ (k : Int) < (fdW (qWindow 0) c.wn c.wd).2.2 ∧ lstC c k = (1, (o : Int))) := by
  have hio := io_le R
  rcases dt_cases c k with ⟨h1, h2⟩ | ⟨o, h1, h2, h3, h4⟩ | ⟨o, h1, h2, h3, h4⟩
  · exact Or.inl ⟨h1, dut_same fun o a b => by omega, dut_same fun o a b => by omega⟩
  · obtain ⟨p, q⟩ := dut_up (c := c) (k := k) (o := o) (j := 0) h1 h2 (by omega)
    exact Or.inr (Or.inl ⟨o, h1, h2, h3, p, q, dut_same fun o a b => by omega, by omega, by omega⟩)
  · obtain ⟨p, q⟩ := dut_up (c := c) (k := k) (o := o) (j := 1) h1 h2 (by omega)
    refine Or.inr (Or.inr ⟨o, h1, h2, h3, p, q, dut_same fun o a b => by omega, by omega, by omega, ?_⟩)
    unfold lstC
    rw [if_neg (by omega)]
    unfold dtC dutyV
    rw [if_neg (by omega)]
    congr 1 <;> omega
theorem dut_zero (c : Cf) (R : RightF c) (j : Int) (hj : 0 ≤ j) : dutF c j 0 = fun _ => 0 := by
  have hio := io_le R
  funext o
  unfold dutF
  rw [if_neg (by omega)]
theorem dut_end {c : Cf} (R : RightF c) {n o : Nat} {j : Int} (hn : (n : Int) = c.fr) (hj : 0 ≤ j ∧ j ≤ 1) (h1 : 1 ≤ o) (h2 : o ≤ c.cn) : dutF c j n o = 1 := by
  have hio := io_le R
  unfold dutF
  rw [if_pos ⟨h1, h2, by omega⟩]
theorem beg_at {c : Cf} (R : RightF c) {o : Nat} (h : o ≤ c.cn) : ∃ i, i < c.wn ∧ (c.wd i).1 = (o : Int) ∧ begC c o = (c.wd i).2.1 := by
  obtain ⟨i, hi, h0⟩ := R.all o h
  refine ⟨i, hi, h0, ?_⟩
  unfold begC
  rw [fdW_one (p := qWindow (o : Int)) hi (by unfold qWindow; simpa using h0) (fun k hk q => by
    unfold qWindow at q
    simp at q
    by_cases e : k = i
    · exact e
    · exact absurd (q.trans h0.symm) (R.one k i hk hi e))]
theorem opn_zero (c : Cf) (R : RightF c) : opnF c 0 = fun _ => 0 := by
  funext o
  unfold opnF
  by_cases h : 1 ≤ o ∧ o ≤ c.cn
  · obtain ⟨i, hi, _, e⟩ := beg_at R h.2
    have := R.win i hi
    rw [if_neg (by omega)]
  · rw [if_neg (by omega)]
theorem opn_end {c : Cf} (R : RightF c) {n o : Nat} (hn : (n : Int) = c.fr) (h1 : 1 ≤ o) (h2 : o ≤ c.cn) : opnF c n o = 1 := by
  obtain ⟨i, hi, _, e⟩ := beg_at R h2
  have := R.win i hi
  unfold opnF
  rw [if_pos ⟨h1, h2, by omega⟩]
/-- What one tick does to the counters of windows that begin. -/
theorem opn_step {c : Cf} (R : RightF c) (k : Nat) :
    (opC c k = 0 ∧ opnF c (k + 1) = opnF c k) ∨
    (∃ o : Nat, 1 ≤ o ∧ o ≤ c.cn ∧ opC c k = (o : Int) ∧ rnC c k = (o : Int) ∧ opnF c k o = 0 ∧ updQ (opnF c k) o 1 = opnF c (k + 1)) := by
  by_cases hx : ∃ i, i < c.wn ∧ 0 < (c.wd i).1 ∧ (c.wd i).2.1 = (k : Int)
  · obtain ⟨i, hi, h0, hb⟩ := hx
    have hw := R.win i hi
    obtain ⟨o, ho⟩ : ∃ o : Nat, (o : Int) = (c.wd i).1 := ⟨(c.wd i).1.toNat, by omega⟩
    refine Or.inr ⟨o, by omega, by omega, ?_, ?_, ?_, ?_⟩
    · unfold opC
      rw [fdW_one (p := rOp (k : Int)) hi (by unfold rOp; simp [hb, h0]) (fun q hq e => op_one R hi hq hb (by unfold rOp at e; simp at e; omega))]
      exact ho.symm
    · unfold rnC
      rw [fdW_one (p := rRn (k : Int)) hi (by unfold rRn; simp; omega) (fun q hq e => rn_one R (x := (k : Int)) hi hq (by rw [holdsB_iff]; simp only; omega) (by
        unfold rRn at e
        simp at e
        rw [holdsB_iff]
        have := R.win q hq
        simp only
        omega))]
      exact ho.symm
    · obtain ⟨i2, hi2, e1, e2⟩ := beg_at R (o := o) (by omega)
      have : i2 = i := by
        by_cases e : i2 = i
        · exact e
        · exact absurd (by omega) (R.one i2 i hi2 hi e)
      subst this
      unfold opnF
      rw [if_neg (by omega)]
    · funext q
      unfold updQ opnF
      by_cases e : q = o
      · subst e
        obtain ⟨i2, hi2, e1, e2⟩ := beg_at R (o := q) (by omega)
        have : i2 = i := by
          by_cases e : i2 = i
          · exact e
          · exact absurd (by omega) (R.one i2 i hi2 hi e)
        subst this
        rw [if_pos rfl, if_pos ⟨by omega, by omega, by omega⟩]
      · rw [if_neg e]
        by_cases hq : 1 ≤ q ∧ q ≤ c.cn
        · obtain ⟨i2, hi2, e1, e2⟩ := beg_at R hq.2
          have h3 : (c.wd i2).2.1 ≠ (k : Int) := fun h4 => by
            have := op_one R hi hi2 hb h4
            subst this
            omega
          by_cases h5 : begC c q < (k : Int)
          · rw [if_pos ⟨hq.1, hq.2, h5⟩, if_pos ⟨hq.1, hq.2, by omega⟩]
          · rw [if_neg (by omega), if_neg (by omega)]
        · rw [if_neg (by omega), if_neg (by omega)]
  · refine Or.inl ⟨?_, ?_⟩
    · unfold opC
      rw [fdW_none (p := rOp (k : Int)) (fun q hq => by
        cases e : rOp (k : Int) (c.wd q)
        · rfl
        · exfalso
          unfold rOp at e
          simp at e
          exact hx ⟨q, hq, e.1, e.2.symm⟩)]
    · funext q
      unfold opnF
      by_cases hq : 1 ≤ q ∧ q ≤ c.cn
      · obtain ⟨i2, hi2, e1, e2⟩ := beg_at R hq.2
        have h3 : (c.wd i2).2.1 ≠ (k : Int) := fun h4 => hx ⟨i2, hi2, by omega, h4⟩
        by_cases h5 : begC c q < (k : Int)
        · rw [if_pos ⟨hq.1, hq.2, by omega⟩, if_pos ⟨hq.1, hq.2, h5⟩]
        · rw [if_neg (by omega), if_neg (by omega)]
      · rw [if_neg (by omega), if_neg (by omega)]
end Go.Proofs.YtfhhcpmoaggdmaaGreat

/- PlanFrames, walked. -/
namespace Go.Proofs.YtfhhcpmoaggdmaaGreat
open Go.RowKit Go.Lib Go.Sort
attribute [-go_sem] Go.run_neq_struct
attribute [-go_sem] Go.run_eql_struct
set_option linter.unusedVariables false

set_option maxRecDepth 20000 in
set_option maxHeartbeats 3200000 in
theorem planframes_no (c : Cf) (f : Int) (w : World) (hc : CfV w c) (hf : FitCf c) (hn : fltL c ≠ []) (h3 : ¬ 300 < c.fr) :
    Calls Tryz.prog 5 #[cfv c, .int .u8 f] w fun e w' => e = .returned (.bool true) ∧ w.grownBy w' none := by
  obtain ⟨W1, hW, g1, hB⟩ := box1 w 26 (cfA c)
  have HG := Lib.hid g1
  have HL := Lib.hid (fun W => live18_any W)
  have HN := Lib.hid (show Calls Tryz.prog 6 #[.agg #[.int .i64 c.fr, .slice c.wA c.wn c.wc, .slice c.sA c.sn c.sc, .slice c.cA c.cn c.cc]] W1 (fun e w' => e = .returned (.tuple #[.pointer none, .int .i64 11]) ∧ W1.grownBy w' none) from
    (pnew_any c W1 (hc.grown g1) hf).mono fun e w' h => by
      obtain ⟨g, ⟨_, he⟩ | ⟨h0, _⟩⟩ := h
      · exact ⟨he, g⟩
      · exact absurd h0 hn)
  have HFA := Lib.hid (fun (W : World) (q : W1.grownBy W none) => (show Calls Tryz.prog 7 #[.agg #[.int .i64 c.fr, .slice c.wA c.wn c.wc, .slice c.sA c.sn c.sc, .slice c.cA c.cn c.cc]] W (RFaultsV c W) from rfaults_any c W ((hc.grown g1).grown q) hf))
  have HCL := Lib.hid (show ∀ W, W1.grownBy W none → W.cell? ⟨w.heap.size, 0, none⟩ = some (.int .i64 c.fr) ∧ W.cell? ⟨w.heap.size, 1, none⟩ = some (.slice c.wA c.wn c.wc) ∧ W.cell? ⟨w.heap.size, 2, none⟩ = some (.slice c.sA c.sn c.sc) ∧ W.cell? ⟨w.heap.size, 3, none⟩ = some (.slice c.cA c.cn c.cc) from fun W q => cf_cells (show BoxC W w.heap.size c from hB.only q (by simp)))
  have HNE := Lib.hid hn
  obtain ⟨c0, c1, c2, c3⟩ := HCL.out W1 (only_refl _ _)
  clear hc hf g1 hB hn
  show Calls Tryz.prog 5 #[.agg #[.int .i64 c.fr, .slice c.wA c.wn c.wc, .slice c.sA c.sn c.sc, .slice c.cA c.cn c.cc], .int .u8 f] w _
  go_enter Tryz.func5, Tryz.ntmps5
  go_upto_region 1 with (fail)
  rw [← hW]
  clear hW
  go_wp2_with (first
    | (go_at_call 6; (with_reducible refine HN.out.mono ?_); rintro e w2 ⟨rfl, g2⟩; have G2 := Lib.hid g2; clear g2)
    | (go_at_call 8; (with_reducible refine (HL.out _).mono ?_); rintro e w4 ⟨rfl, g4⟩; have G4 := Lib.hid (only_trans G2.out g4); obtain ⟨d0, d1, d2, d3⟩ := HCL.out w4 G4.out; clear g4)
    | (go_at_call 7; (with_reducible refine (HFA.out _ G4.out).mono ?_); rintro e w3 ⟨A, n, k, rfl, hn, hn2, g3⟩; have hn3 := wrong_faults HNE.out hn; have G3 := Lib.hid (only_trans G4.out g3); clear g3 hn))
  go_ret
  exact ⟨by first | rfl | (simp; done) | (simp; omega), only_trans HG.out G3.out⟩
set_option maxRecDepth 20000 in
set_option maxHeartbeats 3200000 in
theorem planframes_big (c : Cf) (f : Int) (w : World) (hc : CfV w c) (hf : FitCf c) (hn : fltL c ≠ []) (h3 : 300 < c.fr) :
    Calls Tryz.prog 5 #[cfv c, .int .u8 f] w fun e w' => e = .returned (.bool true) ∧ w.grownBy w' none := by
  obtain ⟨W1, hW, g1, hB⟩ := box1 w 26 (cfA c)
  have HG := Lib.hid g1
  have HL := Lib.hid (fun W => live18_any W)
  have HN := Lib.hid (show Calls Tryz.prog 6 #[.agg #[.int .i64 c.fr, .slice c.wA c.wn c.wc, .slice c.sA c.sn c.sc, .slice c.cA c.cn c.cc]] W1 (fun e w' => e = .returned (.tuple #[.pointer none, .int .i64 11]) ∧ W1.grownBy w' none) from
    (pnew_any c W1 (hc.grown g1) hf).mono fun e w' h => by
      obtain ⟨g, ⟨_, he⟩ | ⟨h0, _⟩⟩ := h
      · exact ⟨he, g⟩
      · exact absurd h0 hn)
  have HFA := Lib.hid (fun (W : World) (q : W1.grownBy W none) => (show Calls Tryz.prog 7 #[.agg #[.int .i64 c.fr, .slice c.wA c.wn c.wc, .slice c.sA c.sn c.sc, .slice c.cA c.cn c.cc]] W (RFaultsV c W) from rfaults_any c W ((hc.grown g1).grown q) hf))
  have HCL := Lib.hid (show ∀ W, W1.grownBy W none → W.cell? ⟨w.heap.size, 0, none⟩ = some (.int .i64 c.fr) ∧ W.cell? ⟨w.heap.size, 1, none⟩ = some (.slice c.wA c.wn c.wc) ∧ W.cell? ⟨w.heap.size, 2, none⟩ = some (.slice c.sA c.sn c.sc) ∧ W.cell? ⟨w.heap.size, 3, none⟩ = some (.slice c.cA c.cn c.cc) from fun W q => cf_cells (show BoxC W w.heap.size c from hB.only q (by simp)))
  have HNE := Lib.hid hn
  obtain ⟨c0, c1, c2, c3⟩ := HCL.out W1 (only_refl _ _)
  clear hc hf g1 hB hn
  show Calls Tryz.prog 5 #[.agg #[.int .i64 c.fr, .slice c.wA c.wn c.wc, .slice c.sA c.sn c.sc, .slice c.cA c.cn c.cc], .int .u8 f] w _
  go_enter Tryz.func5, Tryz.ntmps5
  go_upto_region 1 with (fail)
  rw [← hW]
  clear hW
  go_wp2_with (first
    | (go_at_call 6; (with_reducible refine HN.out.mono ?_); rintro e w2 ⟨rfl, g2⟩; have G2 := Lib.hid g2; clear g2)
    | (go_at_call 8; (with_reducible refine (HL.out _).mono ?_); rintro e w4 ⟨rfl, g4⟩; have G4 := Lib.hid (only_trans G2.out g4); obtain ⟨d0, d1, d2, d3⟩ := HCL.out w4 G4.out; clear g4)
    | (go_at_call 7; (with_reducible refine (HFA.out _ G4.out).mono ?_); rintro e w3 ⟨A, n, k, rfl, hn, hn2, g3⟩; have hn3 := wrong_faults HNE.out hn; have G3 := Lib.hid (only_trans G4.out g3); clear g3 hn))
  go_ret
  exact ⟨by first | rfl | (simp; done) | (simp; omega), only_trans HG.out G4.out⟩
set_option maxRecDepth 20000 in
set_option maxHeartbeats 3200000 in
theorem planframes_big2 (c : Cf) (f : Int) (w : World) (hc : CfV w c) (hf : FitCf c) (hn : fltL c = []) (h3 : 300 < c.fr) :
    Calls Tryz.prog 5 #[cfv c, .int .u8 f] w fun e w' => e = .returned (.bool true) ∧ w.grownBy w' none := by
  obtain ⟨W1, hW, g1, hB⟩ := box1 w 26 (cfA c)
  have HG := Lib.hid g1
  have HL := Lib.hid (fun W => live18_any W)
  have HN := Lib.hid (show Calls Tryz.prog 6 #[.agg #[.int .i64 c.fr, .slice c.wA c.wn c.wc, .slice c.sA c.sn c.sc, .slice c.cA c.cn c.cc]] W1 (fun e w' => ∃ b P, e = .returned (.tuple #[.pointer (some ⟨b, 0, none⟩), .int .i64 0]) ∧ PX w' b P c ∧ W1.grownBy w' none) from
    (pnew_any c W1 (hc.grown g1) hf).mono fun e w' h => by
      obtain ⟨g, ⟨hne, _⟩ | ⟨_, b, P, he, hp⟩⟩ := h
      · exact absurd hn hne
      · exact ⟨b, P, he, hp, g⟩)
  have HFA := Lib.hid (fun (W : World) (q : W1.grownBy W none) => (show Calls Tryz.prog 7 #[.agg #[.int .i64 c.fr, .slice c.wA c.wn c.wc, .slice c.sA c.sn c.sc, .slice c.cA c.cn c.cc]] W (RFaultsV c W) from rfaults_any c W ((hc.grown g1).grown q) hf))
  have HCL := Lib.hid (show ∀ W, W1.grownBy W none → W.cell? ⟨w.heap.size, 0, none⟩ = some (.int .i64 c.fr) ∧ W.cell? ⟨w.heap.size, 1, none⟩ = some (.slice c.wA c.wn c.wc) ∧ W.cell? ⟨w.heap.size, 2, none⟩ = some (.slice c.sA c.sn c.sc) ∧ W.cell? ⟨w.heap.size, 3, none⟩ = some (.slice c.cA c.cn c.cc) from fun W q => cf_cells (show BoxC W w.heap.size c from hB.only q (by simp)))
  obtain ⟨c0, c1, c2, c3⟩ := HCL.out W1 (only_refl _ _)
  clear hc hf g1 hB hn
  show Calls Tryz.prog 5 #[.agg #[.int .i64 c.fr, .slice c.wA c.wn c.wc, .slice c.sA c.sn c.sc, .slice c.cA c.cn c.cc], .int .u8 f] w _
  go_enter Tryz.func5, Tryz.ntmps5
  go_upto_region 1 with (fail)
  rw [← hW]
  clear hW
  go_wp2_with (first
    | (go_at_call 6; (with_reducible refine HN.out.mono ?_); rintro e w2 ⟨b, P, rfl, hx, g2⟩; obtain ⟨z0, z1, z2, z3⟩ := HCL.out w2 g2; clear hx z1 z2 z3; have G2 := Lib.hid g2; clear g2)
    | (go_at_call 8; (with_reducible refine (HL.out _).mono ?_); rintro e w4 ⟨rfl, g4⟩; have G4 := Lib.hid (only_trans G2.out g4); obtain ⟨d0, d1, d2, d3⟩ := HCL.out w4 G4.out; clear g4 z0)
    | (go_at_call 7; (with_reducible refine (HFA.out _ G4.out).mono ?_); rintro e w3 ⟨A, n, k, rfl, hn, hn2, g3⟩; have G3 := Lib.hid (only_trans G4.out g3); clear g3 hn))
  go_ret
  exact ⟨by first | rfl | (simp; done) | (simp; omega), only_trans HG.out G4.out⟩
end Go.Proofs.YtfhhcpmoaggdmaaGreat

/- PlanFrames, walked where the tables are right. -/
namespace Go.Proofs.YtfhhcpmoaggdmaaGreat
open Go.RowKit Go.Lib Go.Sort
attribute [-go_sem] Go.run_neq_struct
attribute [-go_sem] Go.run_eql_struct
set_option linter.unusedVariables false

/-- A block of nine counters. -/
def ArrQ (w : World) (b : Nat) (f : Nat → Int) : Prop := ∃ cs, Blk w b 66 cs ∧ cs.size = 9 ∧ ∀ k, k < 9 → cs[k]? = some (.int .i64 (f k))
section
variable {w w' : World} {b : Nat} {f : Nat → Int}
theorem ArrQ.lt (h : ArrQ w b f) : b < w.heap.size := by
  obtain ⟨cs, h1, _⟩ := h
  exact h1.lt
theorem ArrQ.only {row : Option Nat} (h : ArrQ w b f) (g : w.grownBy w' row) (hn : some b ≠ row) : ArrQ w' b f := by
  obtain ⟨cs, h1, h2⟩ := h
  exact ⟨cs, h1.only g hn, h2⟩
theorem ArrQ.far (h : ArrQ w b f) {p : Addr} (hn : b ≠ p.block) (v : Value) : ArrQ (w.setCell p v) b f := by
  obtain ⟨cs, h1, h2⟩ := h
  exact ⟨cs, h1.far hn v, h2⟩
theorem ArrQ.cell (h : ArrQ w b f) {k : Nat} (hk : k < 9) : w.cell? ⟨b, k, none⟩ = some (.int .i64 (f k)) := by
  obtain ⟨cs, h1, h2, h3⟩ := h
  exact (h1.cell k).trans (h3 k hk)
theorem ArrQ.free (h : ArrQ w b f) (k : Nat) : w.frozen? ⟨b, k, none⟩ = false := by
  obtain ⟨cs, h1, h2, h3⟩ := h
  exact h1.free k
theorem ArrQ.put (h : ArrQ w b f) {k : Nat} (hk : k < 9) (x : Int) : ArrQ (w.setCell ⟨b, k, none⟩ (.int .i64 x)) b (updQ f k x) := by
  obtain ⟨cs, h1, h2, h3⟩ := h
  refine ⟨_, h1.put k _, by simpa using h2, fun j hj => ?_⟩
  unfold updQ
  by_cases e : j = k
  · subst e
    simp [h2, hj]
  · rw [if_neg e, Array.getElem?_setIfInBounds_ne (fun e' => e e'.symm)]
    exact h3 j hj
end
def zr9 : Array Value := #[.int .i64 0, .int .i64 0, .int .i64 0, .int .i64 0, .int .i64 0, .int .i64 0, .int .i64 0, .int .i64 0, .int .i64 0]
theorem zr9_at : ∀ k, k < 9 → zr9[k]? = some (.int .i64 0) := fun k hk => by
  match k, hk with
  | 0, _ => rfl
  | 1, _ => rfl
  | 2, _ => rfl
  | 3, _ => rfl
  | 4, _ => rfl
  | 5, _ => rfl
  | 6, _ => rfl
  | 7, _ => rfl
  | 8, _ => rfl
/-- What is kept while a frame is gone through: the I/O partition's window, three rows of counters, what was due. -/
structure FrJ (w3 wr : World) (b8 b9 b10 b11 b12 : Nat) (i1 i2 : Int) (p d o : Nat → Int) (l : Int × Int) : Prop where
  gr : w3.grownBy wr none
  lo : w3.heap.size ≤ b8
  a1 : b8 < b9
  a2 : b9 < b10
  a3 : b10 < b11
  a4 : b11 < b12
  io : Blk wr b8 40 #[.int .i64 i1, .int .i64 i2]
  ps : ArrQ wr b9 p
  cs : ArrQ wr b10 d
  os : ArrQ wr b11 o
  ls : Blk wr b12 63 #[.int .i64 l.1, .int .i64 l.2]
section
variable {w3 wr w' : World} {b8 b9 b10 b11 b12 : Nat} {i1 i2 : Int} {p d o : Nat → Int} {l : Int × Int}
theorem FrJ.grown (h : FrJ w3 wr b8 b9 b10 b11 b12 i1 i2 p d o l) (g : wr.grownBy w' none) : FrJ w3 w' b8 b9 b10 b11 b12 i1 i2 p d o l :=
  ⟨only_trans h.gr g, h.lo, h.a1, h.a2, h.a3, h.a4, h.io.only g (by simp), h.ps.only g (by simp), h.cs.only g (by simp), h.os.only g (by simp), h.ls.only g (by simp)⟩
theorem FrJ.putP (h : FrJ w3 wr b8 b9 b10 b11 b12 i1 i2 p d o l) {k : Nat} (hk : k < 9) (x : Int) : FrJ w3 (wr.setCell ⟨b9, k, none⟩ (.int .i64 x)) b8 b9 b10 b11 b12 i1 i2 (updQ p k x) d o l := by
  obtain ⟨h1, h2, h3, h4, h5, h6, h7, h8, h9, h10, h11⟩ := h
  exact ⟨only_putc h1 (by show w3.heap.size ≤ b9; omega) _, h2, h3, h4, h5, h6, h7.far (by show b8 ≠ b9; omega) _, h8.put hk x, h9.far (by show b10 ≠ b9; omega) _, h10.far (by show b11 ≠ b9; omega) _, h11.far (by show b12 ≠ b9; omega) _⟩
theorem FrJ.putD (h : FrJ w3 wr b8 b9 b10 b11 b12 i1 i2 p d o l) {k : Nat} (hk : k < 9) (x : Int) : FrJ w3 (wr.setCell ⟨b10, k, none⟩ (.int .i64 x)) b8 b9 b10 b11 b12 i1 i2 p (updQ d k x) o l := by
  obtain ⟨h1, h2, h3, h4, h5, h6, h7, h8, h9, h10, h11⟩ := h
  exact ⟨only_putc h1 (by show w3.heap.size ≤ b10; omega) _, h2, h3, h4, h5, h6, h7.far (by show b8 ≠ b10; omega) _, h8.far (by show b9 ≠ b10; omega) _, h9.put hk x, h10.far (by show b11 ≠ b10; omega) _, h11.far (by show b12 ≠ b10; omega) _⟩
theorem FrJ.putO (h : FrJ w3 wr b8 b9 b10 b11 b12 i1 i2 p d o l) {k : Nat} (hk : k < 9) (x : Int) : FrJ w3 (wr.setCell ⟨b11, k, none⟩ (.int .i64 x)) b8 b9 b10 b11 b12 i1 i2 p d (updQ o k x) l := by
  obtain ⟨h1, h2, h3, h4, h5, h6, h7, h8, h9, h10, h11⟩ := h
  exact ⟨only_putc h1 (by show w3.heap.size ≤ b11; omega) _, h2, h3, h4, h5, h6, h7.far (by show b8 ≠ b11; omega) _, h8.far (by show b9 ≠ b11; omega) _, h9.far (by show b10 ≠ b11; omega) _, h10.put hk x, h11.far (by show b12 ≠ b11; omega) _⟩
theorem FrJ.putL (h : FrJ w3 wr b8 b9 b10 b11 b12 i1 i2 p d o l) (x y : Int) : FrJ w3 ((wr.setCell ⟨b12, 0, none⟩ (.int .i64 x)).setCell ⟨b12, 1, none⟩ (.int .i64 y)) b8 b9 b10 b11 b12 i1 i2 p d o (x, y) := by
  obtain ⟨h1, h2, h3, h4, h5, h6, h7, h8, h9, h10, h11⟩ := h
  exact ⟨only_putc (only_putc h1 (by show w3.heap.size ≤ b12; omega) _) (by show w3.heap.size ≤ b12; omega) _, h2, h3, h4, h5, h6, (h7.far (by show b8 ≠ b12; omega) _).far (by show b8 ≠ b12; omega) _, (h8.far (by show b9 ≠ b12; omega) _).far (by show b9 ≠ b12; omega) _, (h9.far (by show b10 ≠ b12; omega) _).far (by show b10 ≠ b12; omega) _, (h10.far (by show b11 ≠ b12; omega) _).far (by show b11 ≠ b12; omega) _, (h11.put 0 _).put 1 _⟩
end
theorem FrJ.new (w3 : World) (i1 i2 : Int) : FrJ w3 (((((w3.alloc (.cells #[.int .i64 i1, .int .i64 i2] 40)).alloc (.cells zr9 66)).alloc (.cells zr9 66)).alloc (.cells zr9 66)).alloc (.cells #[.int .i64 0, .int .i64 0] 63)) w3.heap.size (w3.heap.size + 1) (w3.heap.size + 1 + 1) (w3.heap.size + 1 + 1 + 1) (w3.heap.size + 1 + 1 + 1 + 1) i1 i2 (fun _ => 0) (fun _ => 0) (fun _ => 0) (0, 0) := by
  have k1 := Blk.new w3 40 #[.int .i64 i1, .int .i64 i2]
  generalize hA : w3.alloc (.cells #[.int .i64 i1, .int .i64 i2] 40) = A at *
  have sA : A.heap.size = w3.heap.size + 1 := by rw [← hA]; simp
  have k2 := Blk.new A 66 zr9
  generalize hB : A.alloc (.cells zr9 66) = B at *
  have sB : B.heap.size = w3.heap.size + 1 + 1 := by rw [← hB]; simp [sA]
  have k3 := Blk.new B 66 zr9
  generalize hC : B.alloc (.cells zr9 66) = C at *
  have sC : C.heap.size = w3.heap.size + 1 + 1 + 1 := by rw [← hC]; simp [sB]
  have k4 := Blk.new C 66 zr9
  generalize hD : C.alloc (.cells zr9 66) = D at *
  have sD : D.heap.size = w3.heap.size + 1 + 1 + 1 + 1 := by rw [← hD]; simp [sC]
  have k5 := Blk.new D 63 #[.int .i64 0, .int .i64 0]
  rw [sA] at k2
  rw [sB] at k3
  rw [sC] at k4
  rw [sD] at k5
  have gA : w3.grownBy A none := by rw [← hA]; exact only_alloc (only_refl _ _) _
  have gB : A.grownBy B none := by rw [← hB]; exact only_alloc (only_refl _ _) _
  have gC : B.grownBy C none := by rw [← hC]; exact only_alloc (only_refl _ _) _
  have gD : C.grownBy D none := by rw [← hD]; exact only_alloc (only_refl _ _) _
  have gE : D.grownBy (D.alloc (.cells #[.int .i64 0, .int .i64 0] 63)) none := only_alloc (only_refl _ _) _
  have gBE := only_trans (only_trans gC gD) gE
  exact ⟨only_trans (only_trans (only_trans (only_trans gA gB) gC) gD) gE, Nat.le_refl _, by omega, by omega, by omega, by omega, k1.only (only_trans gB gBE) (by simp), ⟨_, k2.only gBE (by simp), rfl, zr9_at⟩, ⟨_, k3.only (only_trans gD gE) (by simp), rfl, zr9_at⟩, ⟨_, k4.only gE (by simp), rfl, zr9_at⟩, k5⟩
set_option maxRecDepth 20000 in
set_option maxHeartbeats 3200000 in
theorem planframes_c (c : Cf) (f : Int) (w : World) (hc : CfV w c) (hf : FitCf c) (h0 : fltL c = []) (h3 : ¬ 300 < c.fr) (hff : 0 ≤ f ∧ f ≤ 255) :
    Calls Tryz.prog 5 #[cfv c, .int .u8 f] w fun e w' => e = .returned (.bool true) ∧ w.grownBy w' none := by
  obtain ⟨W1, hW, g1, hB⟩ := box1 w 26 (cfA c)
  have HG := Lib.hid g1
  have R := Lib.hid (right_of c h0)
  have HL := Lib.hid (fun W => live18_any W)
  have HN := Lib.hid (show Calls Tryz.prog 6 #[.agg #[.int .i64 c.fr, .slice c.wA c.wn c.wc, .slice c.sA c.sn c.sc, .slice c.cA c.cn c.cc]] W1 (fun e w' => ∃ b P, e = .returned (.tuple #[.pointer (some ⟨b, 0, none⟩), .int .i64 0]) ∧ PX w' b P c ∧ W1.grownBy w' none) from
    (pnew_any c W1 (hc.grown g1) hf).mono fun e w' h => by
      obtain ⟨g, ⟨hne, _⟩ | ⟨_, b, P, he, hp⟩⟩ := h
      · exact absurd h0 hne
      · exact ⟨b, P, he, hp, g⟩)
  have HFA := Lib.hid (fun (W : World) (q : W1.grownBy W none) => (show Calls Tryz.prog 7 #[.agg #[.int .i64 c.fr, .slice c.wA c.wn c.wc, .slice c.sA c.sn c.sc, .slice c.cA c.cn c.cc]] W (RFaultsV c W) from rfaults_any c W ((hc.grown g1).grown q) hf))
  have HCL := Lib.hid (show ∀ W, W1.grownBy W none → W.cell? ⟨w.heap.size, 0, none⟩ = some (.int .i64 c.fr) ∧ W.cell? ⟨w.heap.size, 1, none⟩ = some (.slice c.wA c.wn c.wc) ∧ W.cell? ⟨w.heap.size, 2, none⟩ = some (.slice c.sA c.sn c.sc) ∧ W.cell? ⟨w.heap.size, 3, none⟩ = some (.slice c.cA c.cn c.cc) from fun W q => cf_cells (show BoxC W w.heap.size c from hB.only q (by simp)))
  have HCV := Lib.hid (fun (W : World) (q : W1.grownBy W none) => (hc.grown g1).grown q)
  have HFC := Lib.hid hf
  have H0 := Lib.hid h0
  obtain ⟨c0, c1, c2, c3⟩ := HCL.out W1 (only_refl _ _)

  have hfew := R.out.few
  obtain ⟨r1, r2⟩ := (rightB_iff c.fr).1 R.out.fr
  obtain ⟨q, hq⟩ : ∃ q : Nat, (q : Int) = f % 100 := ⟨(f % 100).toNat, by omega⟩
  have q99 : q ≤ 99 := by omega
  have t1 : Int.tmod f 100 = (q : Int) := by rw [hq]; exact Int.tmod_eq_emod_of_nonneg hff.1
  have t2 : f % 100 = (q : Int) := hq.symm
  obtain ⟨F, hF⟩ : ∃ F : Int, F = (q : Int) * c.fr := ⟨_, rfl⟩
  have f0 : 0 ≤ F := by rw [hF]; exact Int.mul_nonneg (by omega) (by omega)
  have f1 : F ≤ 99 * 300 := by
    rw [hF]
    exact Int.mul_le_mul (by omega) (by omega) (by omega) (by omega)
  have t3 : (q : Int) * c.fr = F := hF.symm
  have u1 : IntKind.u8.wrap (q : Int) = (q : Int) := by rw [IntKind.wrap_u8]; omega
  have u2 : IntKind.i64.wrap (q : Int) = (q : Int) := by rw [IntKind.wrap_i64]; omega
  have u3 : IntKind.i64.wrap F = F := by rw [IntKind.wrap_i64]; omega
  have hFQ := Lib.hid hF
  have hFRR := Lib.hid (show 1 ≤ c.fr ∧ c.fr ≤ 300 from ⟨by omega, by omega⟩)
  clear hF hq hc hf g1 hB h0 r1 r2
  go_enter Tryz.func5, Tryz.ntmps5
  go_upto_region 1 with (fail)
  rw [← hW]
  clear hW
  go_upto_region 5 with (first
    | (go_at_call 6; (with_reducible refine HN.out.mono ?_); rintro e w2 ⟨b, P, rfl, hx, g2⟩; have G2 := Lib.hid g2; have X2 := Lib.hid hx; obtain ⟨d0, d1, d2, d3⟩ := HCL.out w2 g2; clear g2 hx))
  have HWI := Lib.hid (fun (W : World) (x : PX W b P c) => (show Calls Tryz.prog 17 #[.pointer (some ⟨b, 0, none⟩), .int .i64 0] W (fun e w' => e = .returned (.agg #[.int .i64 (ioC c), .int .i64 (fdW (qWindow 0) c.wn c.wd).2.2]) ∧ W.grownBy w' none) from pwnd x 0))
  go_upto_region 8 with (first
    | (go_at_call 17; (with_reducible refine (HWI.out _ X2.out).mono ?_); rintro e w3 ⟨rfl, g3⟩; have G3 := Lib.hid (only_trans G2.out g3); have X3 := Lib.hid (X2.out.grown g3); clear g3 d0 d1 d2 d3))
  obtain ⟨i1, hi1⟩ : ∃ x, x = ioC c := ⟨_, rfl⟩
  obtain ⟨i2, hi2⟩ : ∃ x, x = (fdW (qWindow 0) c.wn c.wd).2.2 := ⟨_, rfl⟩
  rw [← hi1, ← hi2]
  obtain ⟨w9, hw9⟩ : ∃ W, W = (((((w3.alloc (.cells #[.int .i64 i1, .int .i64 i2] 40)).alloc (.cells zr9 66)).alloc (.cells zr9 66)).alloc (.cells zr9 66)).alloc (.cells #[.int .i64 0, .int .i64 0] 63)) := ⟨_, rfl⟩
  have J0 := FrJ.new w3 i1 i2
  rw [← hw9] at J0
  unfold zr9 at hw9
  rw [← hw9]
  clear hw9
  generalize hb12 : w3.heap.size + 1 + 1 + 1 + 1 = b12 at J0 ⊢
  generalize hb11 : w3.heap.size + 1 + 1 + 1 = b11 at J0 ⊢
  generalize hb10 : w3.heap.size + 1 + 1 = b10 at J0 ⊢
  generalize hb9 : w3.heap.size + 1 = b9 at J0 ⊢
  generalize hb8 : w3.heap.size = b8 at J0 ⊢
  clear hb12 hb11 hb10 hb9 hb8
  have HIO := Lib.hid (io_le R.out)
  have HI1 := Lib.hid hi1
  have HI2 := Lib.hid hi2
  have J0' := Lib.hid (show FrJ w3 w9 b8 b9 b10 b11 b12 i1 i2 (dutF c 0 0) (dutF c 1 0) (opnF c 0) (lstC c 0) from by
    rw [dut_zero c R.out 0 (by omega), dut_zero c R.out 1 (by omega), opn_zero c R.out]
    exact J0)
  have HFF := Lib.hid (show F = (q : Int) * c.fr from hFQ.out)
  have HFR := Lib.hid (show 1 ≤ c.fr ∧ c.fr ≤ 300 from hFRR.out)
  have HFB := Lib.hid (show 0 ≤ F ∧ F ≤ 99 * 300 from ⟨f0, f1⟩)
  have HPD0 := Lib.hid (fun (k : Nat) (hk : (k : Int) < c.fr) (W : World) (x : PX W b P c) => (show Calls Tryz.prog 26 #[.pointer (some ⟨b, 0, none⟩), .int .i64 (F + (k : Int))] W (fun e w' => e = .returned (.agg #[.int .i64 (dtC c k).1, .int .i64 (dtC c k).2]) ∧ W.grownBy w' none) from by
    have := pdty R.out x (F + (k : Int)) (by have := HFB.out; have := HFR.out; omega)
    rw [HFF.out, rd_at (by omega) HFR.out.1 hk, ← HFF.out] at this
    exact this))
  have HPO := Lib.hid (fun (k : Nat) (hk : (k : Int) < c.fr) (W : World) (x : PX W b P c) => (show Calls Tryz.prog 24 #[.pointer (some ⟨b, 0, none⟩), .int .i64 (F + (k : Int))] W (fun e w' => e = .returned (.int .i64 (opC c k)) ∧ W.grownBy w' none) from by
    have := popn R.out x (F + (k : Int)) (by have := HFB.out; have := HFR.out; omega)
    rw [HFF.out, opn_at (by omega) HFR.out.1 hk, ← HFF.out] at this
    exact this))
  have HPR := Lib.hid (fun (k : Nat) (hk : (k : Int) < c.fr) (W : World) (x : PX W b P c) => (show Calls Tryz.prog 22 #[.pointer (some ⟨b, 0, none⟩), .int .i64 (F + (k : Int))] W (fun e w' => e = .returned (.int .i64 (rnC c k)) ∧ W.grownBy w' none) from by
    have := prns R.out x (F + (k : Int)) (by have := HFB.out; have := HFR.out; omega)
    rw [HFF.out, run_at (by omega) HFR.out.1 hk, ← HFF.out] at this
    exact this))
  clear hi1 hi2 J0 hfew t1 t2 t3 u1 u2 u3 q99 f0 f1 c0 c1 c2 c3 hFQ hFRR h3 hff HWI HN HFC HCV HFA X2
  go_upto_region 9 with (fail)
  go_loopw [13] (fun y wr => ∃ k : Nat, y = .int .i64 k ∧ (k : Int) ≤ c.fr ∧ Hid (FrJ w3 wr b8 b9 b10 b11 b12 i1 i2 (dutF c 0 k) (dutF c 1 k) (opnF c k) (lstC c k))) (fun y _ => c.fr.toNat - (intOf y).toNat)
  case atStart => exact ⟨0, rfl, by have := HFR.out; omega, J0'⟩
  case round =>
    obtain ⟨k, rfl, hk, HJ⟩ := hrel
    obtain ⟨s0, s1, s2, s3⟩ := HCL.out wr (only_trans G3.out HJ.out.gr)
    by_cases hin : (k : Int) < c.fr
    · have KF := Lib.hid hin
      have u0 : IntKind.i64.wrap (F + (k : Int)) = F + (k : Int) := by rw [IntKind.wrap_i64]; have := HFB.out; have := HFR.out; omega
      have ux : IntKind.i64.wrap ((k : Int) + 1) = (k : Int) + 1 := by rw [IntKind.wrap_i64]; have := HFR.out; omega
      have v0 : wrap64 (F + (k : Int)) = F + (k : Int) := by have := HFB.out; have := HFR.out; exact IntWalk.wrap64_in _ ⟨by omega, by omega⟩
      have LSN := Lib.hid (show lstC c (k + 1) = dtC c k from by unfold lstC; rw [if_neg (by omega)]; rfl)
      have ST2 := Lib.hid (opn_step R.out k)
      have k0 : (0 : Int) ≤ (k : Int) := by omega
      clear s1 s2 s3 hk
      rcases dut_step R.out k with ⟨d1, d2, d3⟩ | ⟨od, d1, d2, d3, d4, d5, d6, d7, d8⟩ | ⟨od, d1, d2, d3, d4, d5, d6, d7, d8, d9⟩
      · have DT := Lib.hid d1
        have HPD := Lib.hid (fun (W : World) => (HPD0.out k KF.out W))
        have HPD : Hid (∀ W, W = wr → Calls Tryz.prog 26 #[.pointer (some ⟨b, 0, none⟩), .int .i64 (F + (k : Int))] W (fun e w' => e = .returned (.agg #[.int .i64 0, .int .i64 0]) ∧ W.grownBy w' none)) := Lib.hid (fun W hW => by
          have := HPD0.out k KF.out W (X3.out.grown (by rw [hW]; exact HJ.out.gr))
          rw [d1] at this
          exact this)
        have E2 := Lib.hid d2
        have E3 := Lib.hid d3
        clear d1 d2 d3
        go_upto_region 12 with (first
          | (go_at_call 26; (with_reducible refine (HPD.out wr rfl).mono ?_); rintro e w4 ⟨rfl, g4⟩; have J4 := Lib.hid (HJ.out.grown g4); clear g4))
        obtain ⟨w5, hw5⟩ : ∃ W, W = w4.alloc (.cells #[.int .i64 0, .int .i64 0] 63) := ⟨_, rfl⟩
        have K5 := Lib.hid (show Blk w5 w4.heap.size 63 #[.int .i64 0, .int .i64 0] from by rw [hw5]; exact Blk.new _ _ _)
        have J5 := Lib.hid (J4.out.grown (show w4.grownBy w5 none from by rw [hw5]; exact only_alloc (only_refl _ _) _))
        have NG := Lib.hid (show b12 < w4.heap.size from J4.out.ls.lt)
        rw [← hw5]
        clear hw5
        generalize w4.heap.size = g at K5 NG ⊢
        obtain ⟨e0, e1⟩ : w5.cell? ⟨g, 0, none⟩ = some (.int .i64 0) ∧ w5.cell? ⟨g, 1, none⟩ = some (.int .i64 0) := ⟨K5.out.cell 0, K5.out.cell 1⟩
        obtain ⟨o0, o1⟩ : w5.cell? ⟨b8, 0, none⟩ = some (.int .i64 i1) ∧ w5.cell? ⟨b8, 1, none⟩ = some (.int .i64 i2) := ⟨J5.out.io.cell 0, J5.out.io.cell 1⟩
        have JX := Lib.hid (show FrJ w3 w5 b8 b9 b10 b11 b12 i1 i2 (dutF c 0 (k + 1)) (dutF c 1 (k + 1)) (opnF c k) (lstC c k) from by rw [E2.out, E3.out]; exact J5.out)
        obtain ⟨l0, l1⟩ : w5.cell? ⟨b12, 0, none⟩ = some (.int .i64 (lstC c k).1) ∧ w5.cell? ⟨b12, 1, none⟩ = some (.int .i64 (lstC c k).2) := ⟨JX.out.ls.cell 0, JX.out.ls.cell 1⟩
        have l2 := JX.out.ls.free 0
        have l3 := JX.out.ls.free 1
        go_upto_region 21 with (fail)
        obtain ⟨w6, hw6⟩ : ∃ W, W = (w5.setCell ⟨b12, 0, none⟩ (.int .i64 0)).setCell ⟨b12, 1, none⟩ (.int .i64 0) := ⟨_, rfl⟩
        have J6 := Lib.hid (show FrJ w3 w6 b8 b9 b10 b11 b12 i1 i2 (dutF c 0 (k + 1)) (dutF c 1 (k + 1)) (opnF c k) (lstC c (k + 1)) from by
          rw [hw6, LSN.out, DT.out]
          exact JX.out.putL _ _)
        rw [← hw6]
        clear hw6 e0 e1 l0 l1 l2 l3
        rcases ST2.out with ⟨p1, p2⟩ | ⟨oo, p1, p2, p3, p4, p5, p6⟩
        · have HPOz := Lib.hid (show Calls Tryz.prog 24 #[.pointer (some ⟨b, 0, none⟩), .int .i64 (F + (k : Int))] w6 (fun e w' => e = .returned (.int .i64 0) ∧ w6.grownBy w' none) from by
            rw [← p1]
            exact HPO.out k KF.out _ (X3.out.grown J6.out.gr))
          have P2 := Lib.hid p2
          clear p1 p2
          go_wp2_with (first
            | (go_at_call 24; (with_reducible refine HPOz.out.mono ?_); rintro e w7 ⟨rfl, g7⟩; have J7 := Lib.hid (J6.out.grown g7); clear g7))
          go_roundw
          case rel => exact ⟨k + 1, by go_num, by have := KF.out; omega, Lib.hid (by rw [P2.out]; exact J7.out)⟩
          case measure =>
            have := KF.out
            simp [intOf]
            omega
        · have HPOz := Lib.hid (show Calls Tryz.prog 24 #[.pointer (some ⟨b, 0, none⟩), .int .i64 (F + (k : Int))] w6 (fun e w' => e = .returned (.int .i64 (oo : Int)) ∧ w6.grownBy w' none) from by
            rw [← p3]
            exact HPO.out k KF.out _ (X3.out.grown J6.out.gr))
          have o8 : oo < 9 := by have := R.out.few; omega
          have o9 : (oo : Int) < 9 := by omega
          have oa : (1 : Int) ≤ (oo : Int) := by omega
          have ob : (oo : Int) ≤ 8 := by omega
          have HP3 := Lib.hid p4
          have P5 := Lib.hid p5
          have P6 := Lib.hid p6
          clear p1 p2 p3 p4 p5 p6
          go_upto_region 23 with (first
            | (go_at_call 24; (with_reducible refine HPOz.out.mono ?_); rintro e w7 ⟨rfl, g7⟩; have J7 := Lib.hid (J6.out.grown g7); clear g7))
          have m0 := J7.out.os.cell o8
          rw [P5.out] at m0
          have m1 := J7.out.os.free oo
          go_upto_region 24 with (fail)
          obtain ⟨w8, hw8⟩ : ∃ W, W = w7.setCell ⟨b11, oo, none⟩ (.int .i64 1) := ⟨_, rfl⟩
          have J8 := Lib.hid (show FrJ w3 w8 b8 b9 b10 b11 b12 i1 i2 (dutF c 0 (k + 1)) (dutF c 1 (k + 1)) (opnF c (k + 1)) (lstC c (k + 1)) from by
            rw [hw8, ← P6.out]
            exact J7.out.putO o8 1)
          have HPRz := Lib.hid (show Calls Tryz.prog 22 #[.pointer (some ⟨b, 0, none⟩), .int .i64 (F + (k : Int))] w8 (fun e w' => e = .returned (.int .i64 (oo : Int)) ∧ w8.grownBy w' none) from by
            rw [← HP3.out]
            exact HPR.out k KF.out _ (X3.out.grown J8.out.gr))
          rw [← hw8]
          clear hw8 m0 m1
          go_wp2_with (first
            | (go_at_call 22; (with_reducible refine HPRz.out.mono ?_); rintro e wz ⟨rfl, gz⟩; have JZ := Lib.hid (J8.out.grown gz); clear gz))
          go_roundw
          case rel => exact ⟨k + 1, by go_num, by have := KF.out; omega, JZ⟩
          case measure =>
            have := KF.out
            simp [intOf]
            omega
      · have DT := Lib.hid d3
        have od8 : od < 9 := by have := R.out.few; omega
        have x1 : (od : Int) < 9 := by omega
        have x2 : ¬ (od : Int) < 0 := by omega
        have x3 : ¬ (8 : Int) < (od : Int) := by omega
        have x4 : ¬ (od : Int) < 1 := by omega
        have x5 : i1 ≤ (k : Int) := by rw [HI1.out]; exact d7
        have x6 : (k : Int) < i2 := by rw [HI2.out]; exact d8
        have x7 : ¬ (k : Int) < i1 := by omega
        have x8 : ¬ i2 ≤ (k : Int) := by omega
        have x9 : (0 : Int) ≤ (od : Int) := by omega
        have HPD : Hid (∀ W, W = wr → Calls Tryz.prog 26 #[.pointer (some ⟨b, 0, none⟩), .int .i64 (F + (k : Int))] W (fun e w' => e = .returned (.agg #[.int .i64 1, .int .i64 (od : Int)]) ∧ W.grownBy w' none)) := Lib.hid (fun W hW => by
          have := HPD0.out k KF.out W (X3.out.grown (by rw [hW]; exact HJ.out.gr))
          rw [d3] at this
          exact this)
        have E4 := Lib.hid d4
        have E5 := Lib.hid d5
        have E6 := Lib.hid d6
        clear d1 d2 d3 d4 d5 d6 d7 d8
        go_upto_region 12 with (first
          | (go_at_call 26; (with_reducible refine (HPD.out wr rfl).mono ?_); rintro e w4 ⟨rfl, g4⟩; have J4 := Lib.hid (HJ.out.grown g4); clear g4))
        obtain ⟨w5, hw5⟩ : ∃ W, W = w4.alloc (.cells #[.int .i64 1, .int .i64 (od : Int)] 63) := ⟨_, rfl⟩
        have K5 := Lib.hid (show Blk w5 w4.heap.size 63 #[.int .i64 1, .int .i64 (od : Int)] from by rw [hw5]; exact Blk.new _ _ _)
        have J5 := Lib.hid (J4.out.grown (show w4.grownBy w5 none from by rw [hw5]; exact only_alloc (only_refl _ _) _))
        have NG := Lib.hid (show b12 < w4.heap.size from J4.out.ls.lt)
        rw [← hw5]
        clear hw5
        generalize w4.heap.size = g at K5 NG ⊢
        obtain ⟨e0, e1⟩ : w5.cell? ⟨g, 0, none⟩ = some (.int .i64 1) ∧ w5.cell? ⟨g, 1, none⟩ = some (.int .i64 (od : Int)) := ⟨K5.out.cell 0, K5.out.cell 1⟩
        obtain ⟨o0, o1⟩ : w5.cell? ⟨b8, 0, none⟩ = some (.int .i64 i1) ∧ w5.cell? ⟨b8, 1, none⟩ = some (.int .i64 i2) := ⟨J5.out.io.cell 0, J5.out.io.cell 1⟩
        go_upto_region 15 with (fail)
        have m0 := J5.out.ps.cell od8
        rw [E4.out] at m0
        have m1 := J5.out.ps.free od
        go_upto_region 16 with (fail)
        obtain ⟨w51, hw51⟩ : ∃ W, W = w5.setCell ⟨b9, od, none⟩ (.int .i64 1) := ⟨_, rfl⟩
        have JX := Lib.hid (show FrJ w3 w51 b8 b9 b10 b11 b12 i1 i2 (dutF c 0 (k + 1)) (dutF c 1 (k + 1)) (opnF c k) (lstC c k) from by
          rw [hw51, ← E5.out, E6.out]
          exact J5.out.putP od8 1)
        have K51 := Lib.hid (show Blk w51 g 63 #[.int .i64 1, .int .i64 (od : Int)] from by
          rw [hw51]
          exact K5.out.far (p := ⟨b9, od, none⟩) (by have := NG.out; have := J5.out.a2; have := J5.out.a3; have := J5.out.a4; show g ≠ b9; omega) _)
        rw [← hw51]
        clear hw51 m0 m1 e0 e1 o0 o1
        obtain ⟨e0, e1⟩ : w51.cell? ⟨g, 0, none⟩ = some (.int .i64 1) ∧ w51.cell? ⟨g, 1, none⟩ = some (.int .i64 (od : Int)) := ⟨K51.out.cell 0, K51.out.cell 1⟩
        obtain ⟨l0, l1⟩ : w51.cell? ⟨b12, 0, none⟩ = some (.int .i64 (lstC c k).1) ∧ w51.cell? ⟨b12, 1, none⟩ = some (.int .i64 (lstC c k).2) := ⟨JX.out.ls.cell 0, JX.out.ls.cell 1⟩
        have l2 := JX.out.ls.free 0
        have l3 := JX.out.ls.free 1
        go_upto_region 21 with (fail)
        obtain ⟨w6, hw6⟩ : ∃ W, W = (w51.setCell ⟨b12, 0, none⟩ (.int .i64 1)).setCell ⟨b12, 1, none⟩ (.int .i64 (od : Int)) := ⟨_, rfl⟩
        have J6 := Lib.hid (show FrJ w3 w6 b8 b9 b10 b11 b12 i1 i2 (dutF c 0 (k + 1)) (dutF c 1 (k + 1)) (opnF c k) (lstC c (k + 1)) from by
          rw [hw6, LSN.out, DT.out]
          exact JX.out.putL _ _)
        rw [← hw6]
        clear hw6 e0 e1 l0 l1 l2 l3
        rcases ST2.out with ⟨p1, p2⟩ | ⟨oo, p1, p2, p3, p4, p5, p6⟩
        · have HPOz := Lib.hid (show Calls Tryz.prog 24 #[.pointer (some ⟨b, 0, none⟩), .int .i64 (F + (k : Int))] w6 (fun e w' => e = .returned (.int .i64 0) ∧ w6.grownBy w' none) from by
            rw [← p1]
            exact HPO.out k KF.out _ (X3.out.grown J6.out.gr))
          have P2 := Lib.hid p2
          clear p1 p2
          go_wp2_with (first
            | (go_at_call 24; (with_reducible refine HPOz.out.mono ?_); rintro e w7 ⟨rfl, g7⟩; have J7 := Lib.hid (J6.out.grown g7); clear g7))
          go_roundw
          case rel => exact ⟨k + 1, by go_num, by have := KF.out; omega, Lib.hid (by rw [P2.out]; exact J7.out)⟩
          case measure =>
            have := KF.out
            simp [intOf]
            omega
        · have HPOz := Lib.hid (show Calls Tryz.prog 24 #[.pointer (some ⟨b, 0, none⟩), .int .i64 (F + (k : Int))] w6 (fun e w' => e = .returned (.int .i64 (oo : Int)) ∧ w6.grownBy w' none) from by
            rw [← p3]
            exact HPO.out k KF.out _ (X3.out.grown J6.out.gr))
          have o8 : oo < 9 := by have := R.out.few; omega
          have o9 : (oo : Int) < 9 := by omega
          have oa : (1 : Int) ≤ (oo : Int) := by omega
          have ob : (oo : Int) ≤ 8 := by omega
          have HP3 := Lib.hid p4
          have P5 := Lib.hid p5
          have P6 := Lib.hid p6
          clear p1 p2 p3 p4 p5 p6
          go_upto_region 23 with (first
            | (go_at_call 24; (with_reducible refine HPOz.out.mono ?_); rintro e w7 ⟨rfl, g7⟩; have J7 := Lib.hid (J6.out.grown g7); clear g7))
          have m0 := J7.out.os.cell o8
          rw [P5.out] at m0
          have m1 := J7.out.os.free oo
          go_upto_region 24 with (fail)
          obtain ⟨w8, hw8⟩ : ∃ W, W = w7.setCell ⟨b11, oo, none⟩ (.int .i64 1) := ⟨_, rfl⟩
          have J8 := Lib.hid (show FrJ w3 w8 b8 b9 b10 b11 b12 i1 i2 (dutF c 0 (k + 1)) (dutF c 1 (k + 1)) (opnF c (k + 1)) (lstC c (k + 1)) from by
            rw [hw8, ← P6.out]
            exact J7.out.putO o8 1)
          have HPRz := Lib.hid (show Calls Tryz.prog 22 #[.pointer (some ⟨b, 0, none⟩), .int .i64 (F + (k : Int))] w8 (fun e w' => e = .returned (.int .i64 (oo : Int)) ∧ w8.grownBy w' none) from by
            rw [← HP3.out]
            exact HPR.out k KF.out _ (X3.out.grown J8.out.gr))
          rw [← hw8]
          clear hw8 m0 m1
          go_wp2_with (first
            | (go_at_call 22; (with_reducible refine HPRz.out.mono ?_); rintro e wz ⟨rfl, gz⟩; have JZ := Lib.hid (J8.out.grown gz); clear gz))
          go_roundw
          case rel => exact ⟨k + 1, by go_num, by have := KF.out; omega, JZ⟩
          case measure =>
            have := KF.out
            simp [intOf]
            omega
      · have DT := Lib.hid d3
        have od8 : od < 9 := by have := R.out.few; omega
        have x1 : (od : Int) < 9 := by omega
        have x2 : ¬ (od : Int) < 0 := by omega
        have x3 : ¬ (8 : Int) < (od : Int) := by omega
        have x4 : ¬ (od : Int) < 1 := by omega
        have x5 : i1 ≤ (k : Int) := by rw [HI1.out]; exact d7
        have x6 : (k : Int) < i2 := by rw [HI2.out]; exact d8
        have x7 : ¬ (k : Int) < i1 := by omega
        have x8 : ¬ i2 ≤ (k : Int) := by omega
        have x9 : (0 : Int) ≤ (od : Int) := by omega
        have HPD : Hid (∀ W, W = wr → Calls Tryz.prog 26 #[.pointer (some ⟨b, 0, none⟩), .int .i64 (F + (k : Int))] W (fun e w' => e = .returned (.agg #[.int .i64 2, .int .i64 (od : Int)]) ∧ W.grownBy w' none)) := Lib.hid (fun W hW => by
          have := HPD0.out k KF.out W (X3.out.grown (by rw [hW]; exact HJ.out.gr))
          rw [d3] at this
          exact this)
        have E4 := Lib.hid d4
        have E5 := Lib.hid d5
        have E6 := Lib.hid d6
        have E9 := Lib.hid d9
        have hnd := fun W : World => neq_duty 1 (od : Int) W
        clear d1 d2 d3 d4 d5 d6 d7 d8 d9
        go_upto_region 12 with (first
          | (go_at_call 26; (with_reducible refine (HPD.out wr rfl).mono ?_); rintro e w4 ⟨rfl, g4⟩; have J4 := Lib.hid (HJ.out.grown g4); clear g4))
        obtain ⟨w5, hw5⟩ : ∃ W, W = w4.alloc (.cells #[.int .i64 2, .int .i64 (od : Int)] 63) := ⟨_, rfl⟩
        have K5 := Lib.hid (show Blk w5 w4.heap.size 63 #[.int .i64 2, .int .i64 (od : Int)] from by rw [hw5]; exact Blk.new _ _ _)
        have J5 := Lib.hid (J4.out.grown (show w4.grownBy w5 none from by rw [hw5]; exact only_alloc (only_refl _ _) _))
        have NG := Lib.hid (show b12 < w4.heap.size from J4.out.ls.lt)
        rw [← hw5]
        clear hw5
        generalize w4.heap.size = g at K5 NG ⊢
        obtain ⟨e0, e1⟩ : w5.cell? ⟨g, 0, none⟩ = some (.int .i64 2) ∧ w5.cell? ⟨g, 1, none⟩ = some (.int .i64 (od : Int)) := ⟨K5.out.cell 0, K5.out.cell 1⟩
        obtain ⟨o0, o1⟩ : w5.cell? ⟨b8, 0, none⟩ = some (.int .i64 i1) ∧ w5.cell? ⟨b8, 1, none⟩ = some (.int .i64 i2) := ⟨J5.out.io.cell 0, J5.out.io.cell 1⟩
        go_upto_region 17 with (fail)
        have m0 := J5.out.cs.cell od8
        rw [E4.out] at m0
        have m1 := J5.out.cs.free od
        go_upto_region 18 with (fail)
        obtain ⟨w51, hw51⟩ : ∃ W, W = w5.setCell ⟨b10, od, none⟩ (.int .i64 1) := ⟨_, rfl⟩
        have JX := Lib.hid (show FrJ w3 w51 b8 b9 b10 b11 b12 i1 i2 (dutF c 0 (k + 1)) (dutF c 1 (k + 1)) (opnF c k) (lstC c k) from by
          rw [hw51, ← E5.out, E6.out]
          exact J5.out.putD od8 1)
        have K51 := Lib.hid (show Blk w51 g 63 #[.int .i64 2, .int .i64 (od : Int)] from by
          rw [hw51]
          exact K5.out.far (p := ⟨b10, od, none⟩) (by have := NG.out; have := J5.out.a2; have := J5.out.a3; have := J5.out.a4; show g ≠ b10; omega) _)
        rw [← hw51]
        clear hw51 m0 m1 e0 e1 o0 o1
        obtain ⟨e0, e1⟩ : w51.cell? ⟨g, 0, none⟩ = some (.int .i64 2) ∧ w51.cell? ⟨g, 1, none⟩ = some (.int .i64 (od : Int)) := ⟨K51.out.cell 0, K51.out.cell 1⟩
        have lst1 : (lstC c k).1 = 1 := by rw [E9.out]
        have lst2 : (lstC c k).2 = (od : Int) := by rw [E9.out]
        obtain ⟨l0, l1⟩ : w51.cell? ⟨b12, 0, none⟩ = some (.int .i64 1) ∧ w51.cell? ⟨b12, 1, none⟩ = some (.int .i64 (od : Int)) := ⟨by rw [← lst1]; exact JX.out.ls.cell 0, by rw [← lst2]; exact JX.out.ls.cell 1⟩
        clear lst1 lst2
        have l2 := JX.out.ls.free 0
        have l3 := JX.out.ls.free 1
        go_upto_region 21 with (fail)
        obtain ⟨w6, hw6⟩ : ∃ W, W = (w51.setCell ⟨b12, 0, none⟩ (.int .i64 2)).setCell ⟨b12, 1, none⟩ (.int .i64 (od : Int)) := ⟨_, rfl⟩
        have J6 := Lib.hid (show FrJ w3 w6 b8 b9 b10 b11 b12 i1 i2 (dutF c 0 (k + 1)) (dutF c 1 (k + 1)) (opnF c k) (lstC c (k + 1)) from by
          rw [hw6, LSN.out, DT.out]
          exact JX.out.putL _ _)
        rw [← hw6]
        clear hw6 e0 e1 l0 l1 l2 l3
        rcases ST2.out with ⟨p1, p2⟩ | ⟨oo, p1, p2, p3, p4, p5, p6⟩
        · have HPOz := Lib.hid (show Calls Tryz.prog 24 #[.pointer (some ⟨b, 0, none⟩), .int .i64 (F + (k : Int))] w6 (fun e w' => e = .returned (.int .i64 0) ∧ w6.grownBy w' none) from by
            rw [← p1]
            exact HPO.out k KF.out _ (X3.out.grown J6.out.gr))
          have P2 := Lib.hid p2
          clear p1 p2
          go_wp2_with (first
            | (go_at_call 24; (with_reducible refine HPOz.out.mono ?_); rintro e w7 ⟨rfl, g7⟩; have J7 := Lib.hid (J6.out.grown g7); clear g7))
          go_roundw
          case rel => exact ⟨k + 1, by go_num, by have := KF.out; omega, Lib.hid (by rw [P2.out]; exact J7.out)⟩
          case measure =>
            have := KF.out
            simp [intOf]
            omega
        · have HPOz := Lib.hid (show Calls Tryz.prog 24 #[.pointer (some ⟨b, 0, none⟩), .int .i64 (F + (k : Int))] w6 (fun e w' => e = .returned (.int .i64 (oo : Int)) ∧ w6.grownBy w' none) from by
            rw [← p3]
            exact HPO.out k KF.out _ (X3.out.grown J6.out.gr))
          have o8 : oo < 9 := by have := R.out.few; omega
          have o9 : (oo : Int) < 9 := by omega
          have oa : (1 : Int) ≤ (oo : Int) := by omega
          have ob : (oo : Int) ≤ 8 := by omega
          have HP3 := Lib.hid p4
          have P5 := Lib.hid p5
          have P6 := Lib.hid p6
          clear p1 p2 p3 p4 p5 p6
          go_upto_region 23 with (first
            | (go_at_call 24; (with_reducible refine HPOz.out.mono ?_); rintro e w7 ⟨rfl, g7⟩; have J7 := Lib.hid (J6.out.grown g7); clear g7))
          have m0 := J7.out.os.cell o8
          rw [P5.out] at m0
          have m1 := J7.out.os.free oo
          go_upto_region 24 with (fail)
          obtain ⟨w8, hw8⟩ : ∃ W, W = w7.setCell ⟨b11, oo, none⟩ (.int .i64 1) := ⟨_, rfl⟩
          have J8 := Lib.hid (show FrJ w3 w8 b8 b9 b10 b11 b12 i1 i2 (dutF c 0 (k + 1)) (dutF c 1 (k + 1)) (opnF c (k + 1)) (lstC c (k + 1)) from by
            rw [hw8, ← P6.out]
            exact J7.out.putO o8 1)
          have HPRz := Lib.hid (show Calls Tryz.prog 22 #[.pointer (some ⟨b, 0, none⟩), .int .i64 (F + (k : Int))] w8 (fun e w' => e = .returned (.int .i64 (oo : Int)) ∧ w8.grownBy w' none) from by
            rw [← HP3.out]
            exact HPR.out k KF.out _ (X3.out.grown J8.out.gr))
          rw [← hw8]
          clear hw8 m0 m1
          go_wp2_with (first
            | (go_at_call 22; (with_reducible refine HPRz.out.mono ?_); rintro e wz ⟨rfl, gz⟩; have JZ := Lib.hid (J8.out.grown gz); clear gz))
          go_roundw
          case rel => exact ⟨k + 1, by go_num, by have := KF.out; omega, JZ⟩
          case measure =>
            have := KF.out
            simp [intOf]
            omega
    · have hkn : (k : Int) = c.fr := by omega
      have KN := Lib.hid hkn
      have GX := Lib.hid (only_trans G3.out HJ.out.gr)
      clear hk hkn
      have HCN := Lib.hid (show 1 ≤ c.cn ∧ c.cn ≤ 8 from ⟨R.out.few.1, R.out.few.2.1⟩)
      go_upto_region 27 with (fail)
      go_loopw [16] (fun y wq => ∃ o : Nat, y = .int .i64 ((o : Int) + 1) ∧ o ≤ c.cn ∧ wr = wq) (fun y _ => c.cn + 1 - (intOf y).toNat)
      case atStart => exact ⟨0, rfl, by omega, rfl⟩
      case round =>
        obtain ⟨o, rfl, ho, rfl⟩ := hrel
        by_cases hio : o < c.cn
        · have y1 : (o : Int) + 1 ≤ (c.cn : Int) := by omega
          have y2 : o + 1 < 9 := by have := HCN.out; omega
          have y3 : (o : Int) + 1 < 9 := by omega
          have y4 : (0 : Int) ≤ (o : Int) + 1 := by omega
          have y5 : IntKind.i64.wrap ((o : Int) + 1 + 1) = (o : Int) + 1 + 1 := by rw [IntKind.wrap_i64]; omega
          have z0 : wr.cell? ⟨b9, o + 1, none⟩ = some (.int .i64 1) := by rw [HJ.out.ps.cell y2, dut_end R.out KN.out (by omega) (by omega) (by omega)]
          have z1 : wr.cell? ⟨b10, o + 1, none⟩ = some (.int .i64 1) := by rw [HJ.out.cs.cell y2, dut_end R.out KN.out (by omega) (by omega) (by omega)]
          have z2 : wr.cell? ⟨b11, o + 1, none⟩ = some (.int .i64 1) := by rw [HJ.out.os.cell y2, opn_end R.out KN.out (by omega) (by omega)]
          have y6 : ((o : Int) + 1).toNat = o + 1 := by omega
          clear y2
          go_wp2
          go_roundw
          case rel => exact ⟨o + 1, by go_num, by omega, by first | rfl | trivial⟩
          case measure => simp [intOf] <;> omega
        · have y1 : ¬ (o : Int) + 1 ≤ (c.cn : Int) := by omega
          go_wp2_with (first
            | (go_at_call 8; (with_reducible refine (HL.out _).mono ?_); rintro e w4 ⟨rfl, g4⟩; have G4 := Lib.hid (only_trans GX.out g4); clear g4))
          go_ret
          exact ⟨by first | rfl | (simp; done), only_trans HG.out G4.out⟩
end Go.Proofs.YtfhhcpmoaggdmaaGreat

/- PlanFrames: all its ways. -/
namespace Go.Proofs.YtfhhcpmoaggdmaaGreat
open Go.RowKit Go.Lib Go.Sort
theorem planframes_walk (c : Cf) (f : Int) (w : World) (hh : CfV w c ∧ FitCf c) (h1 : 0 ≤ f ∧ f ≤ 255) :
    Calls Tryz.prog 5 #[cfv c, .int .u8 f] w fun e w' => e = .returned (.bool true) ∧ Below w.heap.size w w' := by
  refine Calls.mono (?_ : Calls Tryz.prog 5 #[cfv c, .int .u8 f] w fun e w' => e = .returned (.bool true) ∧ w.grownBy w' none) fun e w' h => ⟨h.1, below_of_only h.2 (Nat.le_refl _) (by simp)⟩
  obtain ⟨hc, hf⟩ := hh
  by_cases h0 : fltL c = []
  · by_cases h3 : 300 < c.fr
    · exact planframes_big2 c f w hc hf h0 h3
    · exact planframes_c c f w hc hf h0 h3 h1
  · by_cases h3 : 300 < c.fr
    · exact planframes_big c f w hc hf h0 h3
    · exact planframes_no c f w hc hf h0 h3
end Go.Proofs.YtfhhcpmoaggdmaaGreat
