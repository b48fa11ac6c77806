/- Where two memories are unlike: the contracts of Diff and of the document's. -/
import Derived.Test.YthneljkaieckeaaMM5
import Derived.Test.YthneljkaieckeaaY2
import Derived.Test.YthneljkaieckeaaU4
namespace Go.Proofs.Ythneljkaieckeaa
open Go.RowKit Go.Lib Go.Sort
set_option linter.unusedVariables false

/-- Are two memories unlike at a place? -/
def unl (l m : List UInt8) (x : Int) : Bool := decide (l[x.toNat]? ≠ m[x.toNat]?)
theorem unl_sym (l m : List UInt8) : unl l m = unl m l := by
  funext x
  unfold unl
  rw [decide_eq_decide]
  exact ⟨fun h e => h e.symm, fun h e => h e.symm⟩
theorem unl_in {l m : List UInt8} {k : Nat} (h1 : k < l.length) (h2 : k < m.length) : unl l m k = decide ((l[k].toNat : Int) ≠ (m[k].toNat : Int)) := by
  unfold unl
  rw [show (k : Int).toNat = k by omega, List.getElem?_eq_getElem h1, List.getElem?_eq_getElem h2, decide_eq_decide]
  constructor
  · intro h e
    exact h (by rw [UInt8.toNat_inj.1 (by omega : l[k].toNat = m[k].toNat)])
  · intro h e
    injection e with e
    exact h (by rw [e])
theorem unl_out {l m : List UInt8} {k : Nat} (h : (k < l.length ∧ m.length ≤ k) ∨ (l.length ≤ k ∧ k < m.length)) : unl l m k = true := by
  unfold unl
  rw [show (k : Int).toNat = k by omega, decide_eq_true_eq]
  rcases h with ⟨h1, h2⟩ | ⟨h1, h2⟩
  · rw [List.getElem?_eq_getElem h1, List.getElem?_eq_none h2]; simp
  · rw [List.getElem?_eq_getElem h2, List.getElem?_eq_none h1]; simp

/-- One span put behind rising ones. -/
def eStep (n : Nat) (o : Nat → Int × Int) (s : Int × Int) : Nat × (Nat → Int × Int) :=
  if isS s then (if 0 < n ∧ (o (n - 1)).2 = s.1 then (n, So.upd o (n - 1) ((o (n - 1)).1, s.2)) else (n + 1, So.upd o n s)) else (n, o)
theorem eStep_one (n : Nat) (o : Nat → Int × Int) (k : Nat) : eStep n o ((k : Int), (k : Int) + 1) = rStep n o k true := by
  have h : isS ((k : Int), (k : Int) + 1) := by unfold isS; simp only; omega
  unfold eStep rStep
  rw [if_pos h]
  rfl
theorem upd_upd (o : Nat → Int × Int) (j : Nat) (p q : Int × Int) : So.upd (So.upd o j p) j q = So.upd o j q := by
  funext i
  simp only [So.upd]
  split <;> rfl
/-- Places that are all so, behind others: one span more. -/
theorem rTo_tail (p : Int → Bool) (m k : Nat) (h : ∀ x : Nat, m ≤ x → x < m + k → p x = true) : rTo p (m + k) = eStep (rTo p m).1 (rTo p m).2 ((m : Int), ((m + k : Nat) : Int)) := by
  induction k with
  | zero =>
    unfold eStep
    rw [if_neg (by unfold isS; simp)]
    rfl
  | succ k ih =>
    have hs : isS ((m : Int), ((m + (k + 1) : Nat) : Int)) := by unfold isS; simp only; omega
    show rStep (rTo p (m + k)).1 (rTo p (m + k)).2 ((m + k : Nat) : Int) (p ((m + k : Nat) : Int)) = _
    rw [h (m + k) (by omega) (by omega), ih (fun x h1 h2 => h x h1 (by omega))]
    by_cases hk : k = 0
    · subst hk
      have hn : ¬ isS ((m : Int), ((m + 0 : Nat) : Int)) := by unfold isS; simp
      have e1 : eStep (rTo p m).1 (rTo p m).2 ((m : Int), ((m + 0 : Nat) : Int)) = ((rTo p m).1, (rTo p m).2) := by unfold eStep; rw [if_neg hn]
      rw [e1]
      have := eStep_one (rTo p m).1 (rTo p m).2 m
      simp only [Nat.add_zero] at this ⊢
      rw [← this]
      congr 1
    · have hs0 : isS ((m : Int), ((m + k : Nat) : Int)) := by unfold isS; simp only; omega
      unfold eStep
      rw [if_pos hs0, if_pos hs]
      by_cases c : 0 < (rTo p m).1 ∧ ((rTo p m).2 ((rTo p m).1 - 1)).2 = (m : Int)
      · rw [if_pos c, if_pos c]
        unfold rStep
        rw [if_pos rfl, if_pos ⟨c.1, by simp [So.upd]⟩]
        simp only
        rw [upd_upd]
        simp only [So.upd, if_true]
        congr 2
      · rw [if_neg c, if_neg c]
        unfold rStep
        rw [if_pos rfl, if_pos ⟨by omega, by simp [So.upd]⟩]
        simp only [Nat.add_sub_cancel]
        rw [upd_upd]
        simp only [So.upd, if_true]
        congr 2

def ExtV (B n : Nat) (o : Nat → Int × Int) (s : Int × Int) (w : World) (e : Ending) (w' : World) : Prop :=
  ∃ v, e = .returned v ∧ RowV w' B v (eStep n o s).1 (eStep n o s).2 ∧ Below B w w'
set_option maxRecDepth 100000 in
set_option maxHeartbeats 3200000 in
theorem extend_any (B n : Nat) (v : Value) (o : Nat → Int × Int) (s : Int × Int) (w : World) (hV : RowV w B v n o) (hB : B ≤ w.heap.size) (hn : n ≤ 100000) :
    Calls Try.prog 28 #[v, spv s] w (ExtV B n o s w) := by
  obtain ⟨i0, hi0, hz0, hz1, hz2⟩ := info_parts span_info
  have HV := Lib.hid hV
  obtain ⟨A, c, rfl⟩ := hV.form
  clear hV
  obtain ⟨p, q⟩ := s
  have hb0 := (Below.refl B w).alloc hB (.cells #[.int .i64 p, .int .i64 q] 59)
  have HB0 := Lib.hid hb0
  clear hb0
  by_cases hs : isS (p, q)
  · obtain ⟨s0, s1⟩ := hs
    simp only at s0 s1
    by_cases h0 : 0 < n
    · rcases HV.out with ⟨_, rfl⟩ | ⟨g, co, hv2, hgB, hrow⟩
      · omega
      · obtain ⟨rfl, rfl⟩ : A = some ⟨g, 0, none⟩ ∧ c = co := by injection hv2 with e1 e2 e3; exact ⟨e1, e3⟩
        obtain ⟨m, rfl⟩ : ∃ m, n = m + 1 := ⟨n - 1, by omega⟩
        have HO := Lib.hid hrow
        have hgl := hrow.lt
        clear hrow hv2
        have i1 : (m : Int) < (m : Int) + 1 := by omega
        by_cases hle : (o m).2 = p
        · have he : eStep (m + 1) o (p, q) = (m + 1, So.upd o m ((o m).1, q)) := by unfold eStep; rw [if_pos ⟨s0, s1⟩, if_pos ⟨by omega, hle⟩]; rfl
          have HE := Lib.hid he
          clear he
          go_enter Try.func28, Try.ntmps28
          go_wp2_with (go_at_call 37; refine (is_yes (p, q) _ s0 s1).mono ?_; rintro e w2 ⟨rfl, g2⟩; have hblk := (Blk.new w 59 #[.int .i64 p, .int .i64 q]).only g2 (by simp); have e0 := hblk.cell 0; have e1 := hblk.cell 1; simp at e0 e1; have G3 := Lib.hid (only_trans (only_alloc (only_refl _ _) _) g2 : w.grownBy w2 none); have HO2 := Lib.hid (HO.out.only G3.out (by simp)); have HB2 := Lib.hid (HB0.out.trans (below_of_only g2 (Nat.le_trans hB (by simp)) (by simp))); have l0 := HO2.out.snd (show m < m + 1 by omega); rw [hle] at l0; have l1 := HO2.out.free (m * 2 + 1); have hne : ¬ w.heap.size = g := (by omega); clear hblk g2)
          go_quiet (fail)
          go_wp2
          go_ret
          have R := put_end (HO2.out.drewN nq) hgB (v := q)
          refine ⟨_, rfl, ?_, (below_drewN HB2.out nq).trans (below_of_only R.2 (Nat.le_trans hB (below_drewN HB2.out nq).size) (fun k hk => by injection hk with hk; omega))⟩
          rw [HE.out]
          exact R.1
        · have he : eStep (m + 1) o (p, q) = (m + 2, So.upd o (m + 1) (p, q)) := by unfold eStep; rw [if_pos ⟨s0, s1⟩, if_neg (fun h => hle h.2)]
          have HE := Lib.hid he
          clear he
          go_enter Try.func28, Try.ntmps28
          go_wp2_with (go_at_call 37; refine (is_yes (p, q) _ s0 s1).mono ?_; rintro e w2 ⟨rfl, g2⟩; have hblk := (Blk.new w 59 #[.int .i64 p, .int .i64 q]).only g2 (by simp); have e0 := hblk.cell 0; have e1 := hblk.cell 1; simp at e0 e1; have G3 := Lib.hid (only_trans (only_alloc (only_refl _ _) _) g2 : w.grownBy w2 none); have HO2 := Lib.hid (HO.out.only G3.out (by simp)); have HV2 := Lib.hid (HV.out.only G3.out (own_none_or _)); have HB2 := Lib.hid (HB0.out.trans (below_of_only g2 (Nat.le_trans hB (by simp)) (by simp))); have l0 := HO2.out.snd (show m < m + 1 by omega); clear hblk g2)
          go_quiet (fail)
          go_wp2_with (at_builtin; refine wpList_append_own_at _ rfl (.tmp 9) (.tmp 11) 35 rfl B 59 i0 _ 2 16 Try.underlying35 hi0 hz0 hz1 hz2 rfl (by decide) (.slice (some ⟨g, 0, none⟩) (m + 1) c) (m + 1) (spCells (m + 1) o) rfl (by exact World.ownsRow.alloc (w := w2.drewN nq) (own_of_row HV2.out) _) ⟨w2.heap.size, 0, none⟩ 1 1 [.int .i64 p, .int .i64 q] rfl rfl (one_cells (w2.drewN nq) _ _ _) (one_cell' _ _) (by unfold maxLen; omega) (by omega) (by have := HB2.out.size; simp; omega) ?_; intro v1 wz hown1 hg1 _ hat1; have R1 := Lib.hid (app_own (s := (p, q)) (W := w2.drewN nq) HV2.out (Nat.le_trans hB HB2.out.size) (only_alloc (only_refl (w2.drewN nq) none) _) hown1 hg1); clear hown1 hg1 hat1; obtain ⟨A1, c1, rfl⟩ := R1.out.1.form)
          go_ret
          refine ⟨_, rfl, ?_, (below_drewN HB2.out nq).trans R1.out.2⟩
          rw [HE.out]
          exact R1.out.1
    · obtain rfl : n = 0 := by omega
      have he : eStep 0 o (p, q) = (1, So.upd o 0 (p, q)) := by unfold eStep; rw [if_pos ⟨s0, s1⟩, if_neg (by omega)]
      have HE := Lib.hid he
      clear he
      go_enter Try.func28, Try.ntmps28
      go_wp2_with (go_at_call 37; refine (is_yes (p, q) _ s0 s1).mono ?_; rintro e w2 ⟨rfl, g2⟩; have hblk := (Blk.new w 59 #[.int .i64 p, .int .i64 q]).only g2 (by simp); have e0 := hblk.cell 0; have e1 := hblk.cell 1; simp at e0 e1; have G3 := Lib.hid (only_trans (only_alloc (only_refl _ _) _) g2 : w.grownBy w2 none); have HV2 := Lib.hid (HV.out.only G3.out (own_none_or _)); have HB2 := Lib.hid (HB0.out.trans (below_of_only g2 (Nat.le_trans hB (by simp)) (by simp))); clear hblk g2)
      go_quiet (fail)
      go_wp2_with (at_builtin; refine wpList_append_own_at _ rfl (.tmp 9) (.tmp 11) 35 rfl B 59 i0 _ 2 16 Try.underlying35 hi0 hz0 hz1 hz2 rfl (by decide) (.slice A 0 c) 0 (spCells 0 o) rfl (by exact World.ownsRow.alloc (w := w2.drewN nq) (own_of_row HV2.out) _) ⟨w2.heap.size, 0, none⟩ 1 1 [.int .i64 p, .int .i64 q] rfl rfl (one_cells (w2.drewN nq) _ _ _) (one_cell' _ _) (by unfold maxLen; omega) (by omega) (by have := HB2.out.size; simp; omega) ?_; intro v1 wz hown1 hg1 _ hat1; have R1 := Lib.hid (app_own (s := (p, q)) (W := w2.drewN nq) HV2.out (Nat.le_trans hB HB2.out.size) (only_alloc (only_refl (w2.drewN nq) none) _) hown1 hg1); clear hown1 hg1 hat1; obtain ⟨A1, c1, rfl⟩ := R1.out.1.form)
      go_ret
      refine ⟨_, rfl, ?_, (below_drewN HB2.out nq).trans R1.out.2⟩
      rw [HE.out]
      exact R1.out.1
  · have he : eStep n o (p, q) = (n, o) := by unfold eStep; rw [if_neg hs]
    have HE := Lib.hid he
    clear he
    go_enter Try.func28, Try.ntmps28
    go_wp2_with (go_at_call 37; refine (is_no (p, q) _ hs).mono ?_; rintro e w2 ⟨rfl, g2⟩; have G3 := Lib.hid (only_trans (only_alloc (only_refl _ _) _) g2 : w.grownBy w2 none); have HV2 := Lib.hid (HV.out.only G3.out (own_none_or _)); have HB2 := Lib.hid (HB0.out.trans (below_of_only g2 (Nat.le_trans hB (by simp)) (by simp))); clear g2)
    go_ret
    refine ⟨_, rfl, ?_, HB2.out⟩
    rw [HE.out]
    exact HV2.out
end Go.Proofs.Ythneljkaieckeaa
