/- The document's word on rows of tables, by its contracts. -/
import Derived.Test.YtgkegmkedkgkcaaO1
namespace Go.Proofs.Ytgkegmkedkgkcaa
open Go.RowKit Go.Lib Go.Sort
set_option linter.unusedVariables false

/-- May the sizes be? -/
def frB (c : Cf) : Bool := decide (1 ≤ c.fr ∧ c.fr ≤ 4096 ∧ 1 ≤ c.cn ∧ c.cn ≤ 8 ∧ c.wn ≤ 9 ∧ c.sn ≤ 32)
theorem frB_iff {c : Cf} : frB c = true ↔ 1 ≤ c.fr ∧ c.fr ≤ 4096 ∧ 1 ≤ c.cn ∧ c.cn ≤ 8 ∧ c.wn ≤ 9 ∧ c.sn ≤ 32 := decide_eq_true_iff
theorem frB_no {c : Cf} : frB c = false ↔ ¬ (1 ≤ c.fr ∧ c.fr ≤ 4096 ∧ 1 ≤ c.cn ∧ c.cn ≤ 8 ∧ c.wn ≤ 9 ∧ c.sn ≤ 32) := decide_eq_false_iff_not
theorem ret_bool {a b : Bool} (h : a = b) : Ending.returned (.bool a) = Ending.returned (.bool b) := by rw [h]
set_option maxHeartbeats 800000 in
theorem rframe_any (c : Cf) (w : World) : Calls Try.prog 13 #[cfv c] w fun e w' => e = .returned (.bool (frB c)) ∧ w.grownBy w' none := by
  have HF := Lib.hid (frB_iff (c := c))
  have HN := Lib.hid (frB_no (c := c))
  obtain ⟨fr, wA, wn, wc, wd, sA, sn, sc, sd, cA, cn, cc, cd⟩ := c
  generalize frB ⟨fr, wA, wn, wc, wd, sA, sn, sc, sd, cA, cn, cc, cd⟩ = r at HF HN ⊢
  simp only at HF HN
  go_enter Try.func13, Try.ntmps13
  go_wp2
  all_goals
    go_ret
    refine ⟨ret_bool ?_, only_alloc (only_refl _ _) _⟩
    have h3 := HF.out
    have h4 := HN.out
    cases r <;> simp at h3 h4 ⊢ <;> omega
set_option maxHeartbeats 800000 in
theorem badf_any (c : Cf) (w : World) : Calls Try.prog 15 #[cfv c] w fun e w' => e = .returned (.bool (!frB c)) ∧ w.grownBy w' none := by
  have HW := Lib.hid (fun (n a b : Int) (W : World) => within_any n a b W)
  have HF := Lib.hid (frB_iff (c := c))
  have HN := Lib.hid (frB_no (c := c))
  obtain ⟨fr, wA, wn, wc, wd, sA, sn, sc, sd, cA, cn, cc, cd⟩ := c
  generalize frB ⟨fr, wA, wn, wc, wd, sA, sn, sc, sd, cA, cn, cc, cd⟩ = r at HF HN ⊢
  simp only at HF HN
  have HW1 := Lib.hid (fun W => HW.out fr 1 4096 W)
  have HW2 := Lib.hid (fun W => HW.out cn 1 8 W)
  have H1 := Lib.hid (show wiB fr 1 4096 = true ↔ 1 ≤ fr ∧ fr ≤ 4096 from wiB_iff)
  have H2 := Lib.hid (show wiB cn 1 8 = true ↔ 1 ≤ (cn : Int) ∧ (cn : Int) ≤ 8 from wiB_iff)
  generalize wiB fr 1 4096 = c1 at *
  generalize wiB cn 1 8 = c2 at *
  go_enter Try.func15, Try.ntmps15
  go_wp2_with (first
    | (go_at_call 40; ((with_reducible refine (HW1.out _).mono ?_)); rintro e w2 ⟨rfl, rfl⟩; cases c1)
    | (go_at_call 40; ((with_reducible refine (HW2.out _).mono ?_)); rintro e w2 ⟨rfl, rfl⟩; cases c2))
  all_goals
    go_ret
    refine ⟨ret_bool ?_, only_alloc (only_refl _ _) _⟩
    have h1 := H1.out
    have h2 := H2.out
    have h3 := HF.out
    have h4 := HN.out
    cases r <;> simp at h1 h2 h3 h4 ⊢ <;> omega
theorem rring_any (n : Int) (w : World) : Calls Try.prog 55 #[.int .i64 n] w fun e w' => e = .returned (.int .i64 (rgN n)) ∧ w = w' := by
  have key : n = 1 ∨ n = 2 ∨ n = 4 ∨ n = 8 ∨ n = 16 ∨ (¬ n = 1 ∧ ¬ n = 2 ∧ ¬ n = 4 ∧ ¬ n = 8 ∧ ¬ n = 16) := by omega
  rcases key with rfl | rfl | rfl | rfl | rfl | ⟨h1, h2, h3, h4, h5⟩
  case inr.inr.inr.inr.inr =>
    have e : rgN n = 0 := by unfold rgN; rw [if_neg]; omega
    have E := Lib.hid e
    clear e
    have e1 : (n == 1) = false := by simpa using h1
    have e2 : (n == 2) = false := by simpa using h2
    have e3 : (n == 4) = false := by simpa using h3
    have e4 : (n == 8) = false := by simpa using h4
    have e5 : (n == 16) = false := by simpa using h5
    go_enter Try.func55, Try.ntmps55
    go_wp2
    go_ret
    rw [E.out]
    exact ⟨rfl, rfl⟩
  all_goals
    go_enter Try.func55, Try.ntmps55
    go_wp2
    go_ret
    exact ⟨rfl, rfl⟩
/-- A client's row that may be. -/
def GoodC (x : Cl) (r : Int) : Prop := 32 ≤ x.size ∧ x.size ≤ 1024 ∧ 128 ≤ x.base ∧ x.base ≤ 16384 - x.size ∧ r ≠ 0 ∧ 0 ≤ x.at' ∧ x.at' ≤ x.size - r ∧ 1 ≤ x.quota ∧ x.quota ≤ 16 ∧ 0 ≤ x.queue ∧ x.queue ≤ 16 ∧ 0 ≤ x.mac ∧ x.mac ≤ 255 ∧ 0 ≤ x.chan ∧ x.chan ≤ 255 ∧ 0 ≤ x.secs ∧ x.secs ≤ 64 ∧ 0 ≤ x.first ∧ x.first ≤ 512 - x.secs
theorem badC_no {x : Cl} : badC x = false ↔ GoodC x (rgN x.ring) := by
  unfold badC GoodC
  simp only [Bool.or_eq_false_iff, Bool.not_eq_false', wiB_iff, decide_eq_false_iff_not, and_assoc, ne_eq]
theorem badC_iff {x : Cl} : badC x = true ↔ ¬ GoodC x (rgN x.ring) := by
  rw [← badC_no]
  simp
set_option maxHeartbeats 3200000 in
set_option maxRecDepth 20000 in
theorem rbad_any (x : Cl) (hx : FitCl x) (w : World) : Calls Try.prog 35 #[clv x] w fun e w' => e = .returned (.bool (badC x)) ∧ w.grownBy w' none := by
  have HF := Lib.hid (badC_iff (x := x))
  have HN := Lib.hid (badC_no (x := x))
  generalize badC x = c at HF HN ⊢
  have HR := Lib.hid (fun W => rring_any x.ring W)
  have hr := rgN_le x.ring
  generalize rgN x.ring = r at HF HN HR hr
  obtain ⟨x1, x2, x3, x4, x5, x6, x7, x8, x9, x10⟩ := x
  obtain ⟨f1, f2, f3, f4, f5, f6, f7, f8, f9, f10⟩ := hx
  simp only at f1 f2 f3 f4 f5 f6 f7 f8 f9 f10 HR
  unfold fitI at f1 f2 f3 f4 f5 f6 f7 f8 f9 f10
  unfold GoodC at HF HN
  simp only at HF HN
  go_enter Try.func35, Try.ntmps35
  go_wp2_with (fail)
  all_goals try (
    go_ret
    refine ⟨ret_bool ?_, only_alloc (only_refl _ _) _⟩
    have h3 := HF.out
    have h4 := HN.out
    cases c <;> simp at h3 h4 ⊢ <;> omega)
  all_goals
    have key : r = 0 ∨ (¬ r = 0 ∧ x4 < 0) ∨ (¬ r = 0 ∧ 0 ≤ x4) := by omega
    have hw : IntKind.i64.wrap (x2 - r) = x2 - r := by rw [IntKind.wrap_i64]; omega
    rcases key with hr0 | ⟨hr0, h4⟩ | ⟨hr0, h4⟩
    all_goals
      first | (have hr' : (r == 0) = true := by simpa using hr0) | (have hr' : (r == 0) = false := by simpa using hr0)
      try first | (have hd : decide (x4 < 0) = true := decide_eq_true h4) | (have hd : decide (x4 < 0) = false := decide_eq_false (by omega))
      have hB := Blk.new w 43 (clA ⟨x1, x2, x3, x4, x5, x6, x7, x8, x9, x10⟩)
      have c0 := blk_re hB
      have G := Lib.hid (only_re (w.alloc (.cells (clA ⟨x1, x2, x3, x4, x5, x6, x7, x8, x9, x10⟩) 43)))
      have HB := Lib.hid hB
      clear hB
      have hg0 : w.grownBy (w.alloc (.cells (clA ⟨x1, x2, x3, x4, x5, x6, x7, x8, x9, x10⟩) 43)) none := only_alloc (only_refl _ _) _
      have G0 := Lib.hid hg0
      clear hg0
      generalize w.alloc (.cells (clA ⟨x1, x2, x3, x4, x5, x6, x7, x8, x9, x10⟩) 43) = w1 at *
      refine wp_region_quiet_below (by kernel_rfl) (by kernel_rfl) ?_
      repeat (go_big_quiet_step ((first | (go_at_call 55; with_reducible exact rg0 (HR.out _)))))
      refine wpQuiet_nil ?_
      intro w3 hw3
      obtain ⟨p, rfl⟩ := hw3
      have hb3 := HB.out.only (G.out p.d p.os) (by simp)
      have G3 := Lib.hid (only_trans G0.out (G.out p.d p.os))
      clear c0
      generalize grow (redrawn w1 p.d) p.os = w3 at hb3 G3 ⊢
      have c0 := fun i => hb3.cell i
      clear hb3
      go_wp2
      all_goals
        go_ret
        refine ⟨ret_bool ?_, G3.out⟩
        have h3 := HF.out
        have h4 := HN.out
        cases c <;> simp at h3 h4 ⊢ <;> omega
end Go.Proofs.Ytgkegmkedkgkcaa
