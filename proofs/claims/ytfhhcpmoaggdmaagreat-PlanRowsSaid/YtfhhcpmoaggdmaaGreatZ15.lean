import Derived.Test.YtfhhcpmoaggdmaaGreatZ13
import Derived.Test.YtfhhcpmoaggdmaaGreatZ14
import Derived.Test.YtfhhcpmoaggdmaaGreatZ06
import Derived.Shelf.SlSortCmp.WholeK
import Derived.Shelf.Lay
import Derived.Ground.SlsfProg
import Derived.Laws.StructEq
set_option linter.all false
/- Package plan: plain facts of tables that are right. -/
namespace Go.Proofs.YtfhhcpmoaggdmaaGreat
open Go.RowKit Go.Lib Go.Sort
set_option linter.unusedVariables false

/-- The clients' regions. -/
def rd18 (c : Cf) : Nat → Int × Int × Int := fun i => ((i : Int) + 1, (c.cd i).base, (c.cd i).size)
/-- What follows of tables that are right. -/
structure RightF (c : Cf) : Prop where
  fr : rightB c.fr = true
  few : 1 ≤ c.cn ∧ c.cn ≤ 8 ∧ c.wn ≤ 9 ∧ c.sn ≤ 32
  win : ∀ i, i < c.wn → 0 ≤ (c.wd i).1 ∧ (c.wd i).1 ≤ c.cn ∧ 0 ≤ (c.wd i).2.1 ∧ (c.wd i).2.1 < (c.wd i).2.2 ∧ (c.wd i).2.2 ≤ c.fr
  wins : ∀ i j, i < c.wn → j < c.wn → i ≠ j → (c.wd i).2.2 ≤ (c.wd j).2.1 ∨ (c.wd j).2.2 ≤ (c.wd i).2.1
  one : ∀ i j, i < c.wn → j < c.wn → i ≠ j → (c.wd i).1 ≠ (c.wd j).1
  all : ∀ o : Nat, o ≤ c.cn → ∃ i, i < c.wn ∧ (c.wd i).1 = (o : Int)
  io : ∀ i, i < c.wn → (c.wd i).1 = 0 → 2 * (c.cn : Int) ≤ (c.wd i).2.2 - (c.wd i).2.1
  slots : newE c.fr c.sd c.sn = 0
  regs : Rg.chkN (rd18 c) c.cn = 0
theorem newE_of {f : Int} {d : Nat → W3} : ∀ n, (∀ i, i < n → sE f d i (d i) = 0) → newE f d n = 0
  | 0, _ => rfl
  | n + 1, h => by
    rw [newE, if_pos (newE_of n fun i hi => h i (by omega))]
    exact h n (by omega)
theorem chk18 {c : Cf} (hm : ∀ i, i < c.cn → Rg.mayB (rd18 c i) = true) (ha : ∀ i, i < c.cn → ∀ j, j < i → meetsB (Rg.spn (rd18 c j)) (Rg.spn (rd18 c i)) = false) : ∀ k, k ≤ c.cn → Rg.chkN (rd18 c) k = 0
  | 0, _ => rfl
  | k + 1, hk => by
    rw [Rg.chkN_next (chk18 hm ha k (by omega))]
    exact Rg.chkV_ok (hm k (by omega)) (fun j hj => by simp only [rd18]; omega) (fun j hj => ha k (by omega) j hj)
theorem right_of (c : Cf) (h : fltL c = []) : RightF c := by
  obtain ⟨hfr, hgood, hcm, h4, h5, h6, h7, h8, h9, h10⟩ := (right_iff c).1 h
  have hA := apart_of c h
  have hb := frB_iff.1 hfr
  have g4 : ∀ i, i < c.wn → 0 ≤ (c.wd i).1 ∧ (c.wd i).1 ≤ c.cn ∧ 0 ≤ (c.wd i).2.1 ∧ (c.wd i).2.1 < (c.wd i).2.2 ∧ (c.wd i).2.2 ≤ c.fr := fun i hi => by
    have := ask_from1 h4 hi
    rw [succ_back] at this
    exact badW_no.1 this
  have g5 : ∀ i, i < c.wn → ∀ j, j < i → (c.wd i).1 ≠ (c.wd j).1 ∧ ((c.wd i).2.2 ≤ (c.wd j).2.1 ∨ (c.wd j).2.2 ≤ (c.wd i).2.1) := fun i hi j hj => by
    have := ask_from1 h5 hi
    rw [succ_back, anyB_no] at this
    have := this j hj
    unfold wM at this
    rw [Bool.or_eq_false_iff, decide_eq_false_iff_not] at this
    have p := g4 i hi
    have q := g4 j (by omega)
    exact ⟨this.1, apart_of_meets (show 0 ≤ (c.wd i).2.1 ∧ (c.wd i).2.1 < (c.wd i).2.2 from by omega) (show 0 ≤ (c.wd j).2.1 ∧ (c.wd j).2.1 < (c.wd j).2.2 from by omega) this.2⟩
  have g1 : ∀ i j, i < c.wn → j < c.wn → i ≠ j → (c.wd i).1 ≠ (c.wd j).1 := fun i j hi hj hne => by
    rcases Nat.lt_or_ge j i with q | q
    · exact (g5 i hi j q).1
    · exact fun e => (g5 j hj i (by omega)).1 e.symm
  have gall : ∀ o : Nat, o ≤ c.cn → ∃ i, i < c.wn ∧ (c.wd i).1 = (o : Int) := fun o ho => by
    have := (askL_nil.1 h6) o (by omega)
    rw [show (0 : Int) + (o : Int) = o by omega, decide_eq_false_iff_not] at this
    rcases fstI_cases (fun i => decide ((c.wd i).1 = (o : Int))) c.wn with ⟨i, hi, _, hq, _⟩ | ⟨e, _⟩
    · exact ⟨i, hi, of_decide_eq_true hq⟩
    · exfalso
      apply this
      show fstI (fun i => decide ((c.wd i).1 = (o : Int))) c.wn < 0
      omega
  refine ⟨(rightB_iff _).2 (by omega), by omega, g4, fun i j hi hj hne => ?_, g1, gall, fun i hi h0 => ?_, newE_of _ fun i hi => ?_, chk18 (fun i hi => ?_) (fun i hi j hj => hA.mems i hi j hj) _ (Nat.le_refl _)⟩
  · rcases Nat.lt_or_ge j i with q | q
    · exact (g5 i hi j q).2
    · exact (g5 j hj i (by omega)).2.symm
  · have e : fwI c 0 = i := fwI_at hi h0 (fun k hk e => g1 i k hi (by omega) (by omega) (h0.trans e.symm))
    have : shwB c = false := (askL_nil.1 h7) 0 (by omega)
    rw [shwB_at e] at this
    unfold shV at this
    rw [badW_no.2 (g4 i hi)] at this
    simp at this
    omega
  · have hs := ask_from1 h8 hi
    rw [succ_back] at hs
    have p := badS_no.1 hs
    have hs2 : ∀ j, j < i → meetsB (w3s (c.sd i)) (w3s (c.sd j)) = false := fun j hj => by
      rw [meetsB_comm]
      exact hA.slots i hi j hj
    have hsb : sBad c.fr (c.sd i) = false := by
      unfold sBad inB
      simp
      omega
    unfold sE
    rw [hsb, if_neg (by decide), if_neg]
    rw [Bool.not_eq_true, anyB_no]
    exact hs2
  · have := good_size (hgood i hi)
    rw [Rg.mayB_iff]
    simp only [rd18]
    omega
theorem look18 (c : Cf) {o : Int} (h : 1 ≤ o ∧ o ≤ c.cn) : Rg.lookL (Rg.rws (rd18 c) c.cn) o = some (o, (c.cd (o - 1).toNat).base, (c.cd (o - 1).toNat).size) := by
  have := Rg.lookL_first (d := rd18 c) (n := c.cn) (k := (o - 1).toNat) (o := o) (by omega) (fun i hi => by simp only [rd18]; omega) (by simp only [rd18]; omega)
  rw [this]
  have e : (((o - 1).toNat : Nat) : Int) + 1 = o := by omega
  simp only [rd18, e]
theorem look18_no (c : Cf) {o : Int} (h : ¬ (1 ≤ o ∧ o ≤ c.cn)) : Rg.lookL (Rg.rws (rd18 c) c.cn) o = none :=
  Rg.lookL_not (fun k hk => by simp only [rd18]; omega)
theorem fdW_one {p : W3 → Bool} {n i : Nat} {d : Nat → W3} (hi : i < n) (h : p (d i) = true) (hu : ∀ k, k < n → p (d k) = true → k = i) : fdW p n d = d i :=
  fdW_at hi h (fun k hk => by
    cases e : p (d k)
    · rfl
    · have := hu k (by omega) e
      omega)
theorem rn_one {c : Cf} (R : RightF c) {x : Int} {i k : Nat} (hi : i < c.wn) (hk : k < c.wn) (h1 : holdsB (w3s (c.wd i)) x = true) (h2 : holdsB (w3s (c.wd k)) x = true) : k = i := by
  rw [holdsB_iff] at h1 h2
  simp only at h1 h2
  by_cases e : k = i
  · exact e
  · have := R.wins k i hk hi e
    omega
theorem run_same {c : Cf} (R : RightF c) (x : Int) : (fdW (qRuns x) c.wn c.wd).1 = (fdW (rRn x) c.wn c.wd).1 := by
  by_cases hx : ∃ i, i < c.wn ∧ holdsB (w3s (c.wd i)) x = true
  · obtain ⟨i, hi, h⟩ := hx
    rw [fdW_one (p := qRuns x) hi h (fun k hk q => rn_one R hi hk h q)]
    have hw := R.win i hi
    by_cases h0 : 0 < (c.wd i).1
    · rw [fdW_one (p := rRn x) hi (by
        rw [holdsB_iff] at h
        simp only at h
        unfold rRn
        simp
        omega) (fun k hk q => rn_one R hi hk h (by
        unfold rRn at q
        simp at q
        rw [holdsB_iff]
        have := R.win k hk
        simp only
        omega))]
    · rw [fdW_none (p := rRn x) (fun k hk => by
        cases q : rRn x (c.wd k)
        · rfl
        · exfalso
          have hk2 : k = i := rn_one R hi hk h (by
            unfold rRn at q
            simp at q
            rw [holdsB_iff]
            have := R.win k hk
            simp only
            omega)
          subst hk2
          unfold rRn at q
          simp at q
          omega)]
      show (c.wd i).1 = 0
      omega
  · rw [fdW_none (p := qRuns x) (fun k hk => by
      cases q : qRuns x (c.wd k)
      · rfl
      · exact absurd ⟨k, hk, q⟩ hx), fdW_none (p := rRn x) (fun k hk => by
      cases q : rRn x (c.wd k)
      · rfl
      · exfalso
        refine hx ⟨k, hk, ?_⟩
        unfold rRn at q
        simp at q
        rw [holdsB_iff]
        have := R.win k hk
        simp only
        omega)]
theorem op_one {c : Cf} (R : RightF c) {x : Int} {i k : Nat} (hi : i < c.wn) (hk : k < c.wn) (h1 : (c.wd i).2.1 = x) (h2 : (c.wd k).2.1 = x) : k = i := by
  by_cases e : k = i
  · exact e
  · have := R.wins k i hk hi e
    have := R.win k hk
    have := R.win i hi
    omega
theorem open_same {c : Cf} (R : RightF c) (x : Int) : (fdW (qOpens x) c.wn c.wd).1 = (fdW (rOp x) c.wn c.wd).1 := by
  by_cases hx : ∃ i, i < c.wn ∧ (c.wd i).2.1 = x
  · obtain ⟨i, hi, h⟩ := hx
    rw [fdW_one (p := qOpens x) hi (by unfold qOpens; simp [h]) (fun k hk q => op_one R hi hk h (by unfold qOpens at q; simpa using q))]
    have hw := R.win i hi
    by_cases h0 : 0 < (c.wd i).1
    · rw [fdW_one (p := rOp x) hi (by unfold rOp; simp [h, h0]) (fun k hk q => op_one R hi hk h (by unfold rOp at q; simp at q; omega))]
    · rw [fdW_none (p := rOp x) (fun k hk => by
        cases q : rOp x (c.wd k)
        · rfl
        · exfalso
          unfold rOp at q
          simp at q
          have hk2 : k = i := op_one R hi hk h (by omega)
          subst hk2
          omega)]
      show (c.wd i).1 = 0
      omega
  · rw [fdW_none (p := qOpens x) (fun k hk => by
      cases q : qOpens x (c.wd k)
      · rfl
      · exact absurd ⟨k, hk, by unfold qOpens at q; simpa using q⟩ hx), fdW_none (p := rOp x) (fun k hk => by
      cases q : rOp x (c.wd k)
      · rfl
      · exfalso
        unfold rOp at q
        simp at q
        exact hx ⟨k, hk, by omega⟩)]
theorem run_neg {c : Cf} (R : RightF c) : (fdW (qRuns (-1)) c.wn c.wd).1 = 0 := by
  rw [fdW_none (p := qRuns (-1)) (fun k hk => by
    cases q : qRuns (-1) (c.wd k)
    · rfl
    · exfalso
      unfold qRuns at q
      rw [holdsB_iff] at q
      simp only at q
      omega)]
theorem open_neg {c : Cf} (R : RightF c) : (fdW (qOpens (-1)) c.wn c.wd).1 = 0 := by
  rw [fdW_none (p := qOpens (-1)) (fun k hk => by
    cases q : qOpens (-1) (c.wd k)
    · rfl
    · exfalso
      unfold qOpens at q
      simp at q
      have := R.win k hk
      omega)]
theorem win_no {c : Cf} (R : RightF c) {o : Int} (h : ¬ (0 ≤ o ∧ o ≤ c.cn)) : fdW (qWindow o) c.wn c.wd = (0, 0, 0) :=
  fdW_none (p := qWindow o) (fun k hk => by
    cases q : qWindow o (c.wd k)
    · rfl
    · exfalso
      unfold qWindow at q
      simp at q
      have := R.win k hk
      omega)
theorem io_at {c : Cf} (R : RightF c) : ∃ i, i < c.wn ∧ (c.wd i).1 = 0 ∧ fdW (qWindow 0) c.wn c.wd = c.wd i := by
  obtain ⟨i, hi, h⟩ := R.all 0 (by omega)
  refine ⟨i, hi, by simpa using h, fdW_one hi (by unfold qWindow; simpa using h) (fun k hk q => ?_)⟩
  unfold qWindow at q
  simp at q
  by_cases e : k = i
  · exact e
  · exact absurd (q.trans (by simpa using h.symm)) (R.one k i hk hi e)
theorem io_le {c : Cf} (R : RightF c) : 0 ≤ ioC c ∧ ioC c ≤ 4096 ∧ 2 * (c.cn : Int) ≤ (fdW (qWindow 0) c.wn c.wd).2.2 - ioC c ∧ (fdW (qWindow 0) c.wn c.wd).2.2 ≤ c.fr := by
  obtain ⟨i, hi, h0, e⟩ := io_at R
  unfold ioC
  rw [e]
  have := R.win i hi
  have := R.io i hi h0
  have := (rightB_iff _).1 R.fr
  omega
end Go.Proofs.YtfhhcpmoaggdmaaGreat

/- Package slot: the library's sort over no slots. -/
namespace Go.Proofs.YtfhhcpmoaggdmaaGreat
open Go.RowKit Go.Lib Go.Sort
set_option linter.unusedVariables false

theorem sins_none (F : Value) (W : World) : Calls Tryz.prog 110 #[.slice none 0 0, .int .i64 0, .int .i64 0, F] W fun e w' => e = .returned (.tuple #[]) ∧ W = w' := by
  go_enter Tryz.func110, Tryz.ntmps110
  go_wp2
  go_loopw [8] (fun x wr => x = .int .i64 1 ∧ Hid (W = wr)) (fun x _ => 0)
  case atStart => exact ⟨rfl, Lib.hid rfl⟩
  case round =>
    obtain ⟨rfl, HW⟩ := hrel
    go_wp2
    go_end0
    exact ⟨rfl, HW.out⟩
theorem spdq_none (F : Value) (lim : Int) (W : World) : Calls Tryz.prog 90 #[.slice none 0 0, .int .i64 0, .int .i64 0, .int .i64 lim, F] W fun e w' => e = .returned (.tuple #[]) ∧ W = w' := by
  have HI := Lib.hid (fun W => sins_none F W)
  go_enter Tryz.func90, Tryz.ntmps90
  go_wp2
  go_loopw [1, 2] (fun x y wr => x = .int .i64 0 ∧ y = .int .i64 0 ∧ Hid (W = wr)) (fun x y _ => 0)
  case atStart => exact ⟨rfl, rfl, Lib.hid rfl⟩
  case round =>
    obtain ⟨rfl, rfl, HW⟩ := hrel
    go_wp2_with (go_at_call 110; (with_reducible refine (HI.out _).mono ?_); rintro e w1 ⟨rfl, rfl⟩)
    refine bodyPost_ret (results_none rfl _ _ _) rfl ⟨rfl, HW.out⟩
end Go.Proofs.YtfhhcpmoaggdmaaGreat

/- Package slot: the slots in order: the library's sort over them, by its contract. -/
namespace Go.Proofs.YtfhhcpmoaggdmaaGreat
open Go.Shelf Go.RowKit Go.Lib Go.Sort
set_option linter.unusedVariables false
def Tryz.sortSlots_ren : Go.Shelf.Ren := ⟨fun | 6 => 49 | 15 => 91 | 14 => 90 | 28 => 118 | 29 => 119 | 20 => 110 | 21 => 111 | 22 => 112 | 23 => 113 | 24 => 114 | 25 => 115 | 26 => 116 | 27 => 117 | 46 => 122 | 47 => 123 | 48 => 124 | 49 => 125 | 50 => 126 | 57 => 127 | n => n, fun | 22 => 23 | 24 => 84 | 25 => 99 | 3 => 3 | 39 => 122 | 0 => 0 | 53 => 137 | 55 => 139 | 4 => 4 | 46 => 130 | 45 => 129 | 50 => 134 | 5 => 5 | 9 => 9 | 66 => 141 | 70 => 145 | 76 => 147 | 77 => 53 | n => n, fun | n => n⟩
theorem Tryz.sortSlots : Go.Proofs.SlLaysF0.n6 Tryz.prog Tryz.sortSlots_ren := {
  mixed := by kernel_rfl
  f6 := ⟨Tryz.f49.name, by decide, Tryz.func49.trans (congrArg some (by kernel_rfl))⟩
  f14 := ⟨Tryz.f90.name, by decide, Tryz.func90.trans (congrArg some (by kernel_rfl))⟩
  f15 := Tryz.func91.trans (congrArg some (by kernel_rfl))
  f20 := ⟨Tryz.f110.name, by decide, Tryz.func110.trans (congrArg some (by kernel_rfl))⟩
  f21 := ⟨Tryz.f111.name, by decide, Tryz.func111.trans (congrArg some (by kernel_rfl))⟩
  f22 := ⟨Tryz.f112.name, by decide, Tryz.func112.trans (congrArg some (by kernel_rfl))⟩
  f23 := ⟨Tryz.f113.name, by decide, Tryz.func113.trans (congrArg some (by kernel_rfl))⟩
  f24 := ⟨Tryz.f114.name, by decide, Tryz.func114.trans (congrArg some (by kernel_rfl))⟩
  f25 := ⟨Tryz.f115.name, by decide, Tryz.func115.trans (congrArg some (by kernel_rfl))⟩
  f26 := ⟨Tryz.f116.name, by decide, Tryz.func116.trans (congrArg some (by kernel_rfl))⟩
  f27 := ⟨Tryz.f117.name, by decide, Tryz.func117.trans (congrArg some (by kernel_rfl))⟩
  f28 := Tryz.func118.trans (congrArg some (by kernel_rfl))
  f29 := Tryz.func119.trans (congrArg some (by kernel_rfl))
  f46 := ⟨Tryz.f122.name, by decide, Tryz.func122.trans (congrArg some (by kernel_rfl))⟩
  f47 := Tryz.func123.trans (congrArg some (by kernel_rfl))
  f48 := Tryz.func124.trans (congrArg some (by kernel_rfl))
  f49 := ⟨Tryz.f125.name, by decide, Tryz.func125.trans (congrArg some (by kernel_rfl))⟩
  f50 := ⟨Tryz.f126.name, by decide, Tryz.func126.trans (congrArg some (by kernel_rfl))⟩
  f57 := ⟨Tryz.f127.name, by decide, Tryz.func127.trans (congrArg some (by kernel_rfl))⟩
  t0 := Tryz.underlying0
  a0 := Tryz.isAgg0
  z0 := Tryz.sizeOf0
  v0 := Tryz.zeroValue0
  t3 := Tryz.underlying3
  a3 := Tryz.isAgg3
  z3 := Tryz.sizeOf3
  v3 := Tryz.zeroValue3
  t4 := Tryz.underlying4
  a4 := Tryz.isAgg4
  z4 := Tryz.sizeOf4
  v4 := Tryz.zeroValue4
  t5 := Tryz.underlying5
  a5 := Tryz.isAgg5
  z5 := Tryz.sizeOf5
  v5 := Tryz.zeroValue5
  t9 := Tryz.underlying9
  a9 := Tryz.isAgg9
  z9 := Tryz.sizeOf9
  v9 := Tryz.zeroValue9
  t22 := Tryz.underlying23
  a22 := Tryz.isAgg23
  z22 := Tryz.sizeOf23
  v22 := Tryz.zeroValue23
  t25 := Tryz.underlying99
  a25 := Tryz.isAgg99
  z25 := Tryz.sizeOf99
  v25 := Tryz.zeroValue99
  t39 := Tryz.underlying122
  a39 := Tryz.isAgg122
  z39 := Tryz.sizeOf122
  v39 := Tryz.zeroValue122
  t45 := Tryz.underlying129
  a45 := Tryz.isAgg129
  z45 := Tryz.sizeOf129
  v45 := Tryz.zeroValue129
  t46 := Tryz.underlying130
  a46 := Tryz.isAgg130
  z46 := Tryz.sizeOf130
  v46 := Tryz.zeroValue130
  t50 := Tryz.underlying134
  a50 := Tryz.isAgg134
  z50 := Tryz.sizeOf134
  v50 := Tryz.zeroValue134
  t53 := Tryz.underlying137
  a53 := Tryz.isAgg137
  z53 := Tryz.sizeOf137
  v53 := Tryz.zeroValue137
  t55 := Tryz.underlying139
  a55 := Tryz.isAgg139
  z55 := Tryz.sizeOf139
  v55 := Tryz.zeroValue139
  t66 := Tryz.underlying141
  a66 := Tryz.isAgg141
  z66 := Tryz.sizeOf141
  v66 := Tryz.zeroValue141
  t70 := Tryz.underlying145
  a70 := Tryz.isAgg145
  z70 := Tryz.sizeOf145
  v70 := Tryz.zeroValue145
  t76 := Tryz.underlying147
  a76 := Tryz.isAgg147
  z76 := Tryz.sizeOf147
  v76 := Tryz.zeroValue147
  t77 := Tryz.underlying53
  a77 := Tryz.isAgg53
  z77 := Tryz.sizeOf53
  v77 := Tryz.zeroValue53 }

theorem ltS (x y : W3) : ltOf (fun x y : W3 => So.cmpI x.2.1 y.2.1) x y = decide (x.2.1 < y.2.1) := by
  unfold ltOf So.cmpI
  by_cases h1 : x.2.1 < y.2.1
  · simp [h1]
  · by_cases h2 : y.2.1 < x.2.1 <;> simp [h1, h2]
theorem swoS : SWO (ltOf fun x y : W3 => So.cmpI x.2.1 y.2.1) := {
  irrefl := fun x => by rw [ltS]; simp
  trans := fun x y z h1 h2 => by rw [ltS] at *; simp at *; omega
  ntrans := fun x y z h1 h2 => by rw [ltS] at *; simp at *; omega }
theorem scmpLays (blk off size : Nat) (w : World) : CmpLays Tryz.prog 50 #[] encS 3 (fun x y => So.cmpI x.2.1 y.2.1) blk off size w :=
  fun _ _ _ _ x y => scmp_any x y _
/-- What the sort leaves alone. -/
theorem sortW_only (w : World) (blk off m : Nat) (dk : Array W3) (os : Array Obj) (hb : blk < w.heap.size) : w.grownBy (sortWorldK encS 3 w blk off m dk os) (some blk) := by
  refine ⟨rfl, rfl, rfl, by simp [sortWorldK, putRowK], fun k hk hn => ?_⟩
  unfold sortWorldK putRowK
  rw [heap_grow_old _ _ (by simpa using hk)]
  unfold putRow mapBlock
  rw [Array.getElem?_modify, if_neg (fun e => hn (by rw [e]))]
  rfl
theorem arr_get (d : Nat → W3) (n i : Nat) (hi : i < n) : ((Array.range n).map d)[i]! = d i := by
  simp [hi]
theorem holds_of_row {w : World} {g off n cap : Nat} {d : Nat → W3} (h : RowZ 3 w (.slice (some ⟨g, off, none⟩) n cap) n (sL d n)) : HoldsK encS 3 w g off ((Array.range n).map d) := by
  rcases h with ⟨hl, ⟨e, h0⟩ | ⟨g', off', cap', e, h1, h2, h3, h4, h5⟩⟩
  · cases e
  · injection e with e1 e2 e3
    injection e1 with e1
    injection e1 with e1 e4
    subst e1 e4 e3
    intro j hj
    have hj3 : j < n * 3 := by simpa using hj
    have hi : j / 3 < n := by omega
    refine ⟨?_, (h4 j (by have : n * 3 ≤ cap * 3 := Nat.mul_le_mul_right 3 h1; omega)).2⟩
    rw [get_flatK encS 3 _ j (by simpa using hj3), arr_get d n _ hi]
    have hm : j % 3 < 3 := Nat.mod_lt _ (by omega)
    refine h5 j _ ?_
    have := sL_get (d := d) hi hm
    rw [show j / 3 * 3 + j % 3 = j by omega] at this
    rw [this]
    have : j % 3 = 0 ∨ j % 3 = 1 ∨ j % 3 = 2 := by omega
    rcases this with e | e | e <;> rw [e] <;> rfl
theorem row_of_holds {w : World} {g off n cap m : Nat} {d : Nat → W3} {dk : Array W3} {os : Array Obj} (h : RowZ 3 w (.slice (some ⟨g, off, none⟩) n cap) n (sL d n)) (hs : dk.size = n) : RowZ 3 (sortWorldK encS 3 w g off m dk os) (.slice (some ⟨g, off, none⟩) n cap) n (sL (fun i => dk[i]!) n) := by
  have hH := holds_of_row h
  rcases h with ⟨hl, ⟨e, h0⟩ | ⟨g', off', cap', e, h1, h2, h3, h4, h5⟩⟩
  · cases e
  · injection e with e1 e2 e3
    injection e1 with e1
    injection e1 with e1 e4
    subst e1 e4 e3
    have hg3 : g < (putRowK encS 3 (Sort.ahead w m) g off dk).heap.size := by simpa [putRowK] using h3
    have hP := holdsK_putRowK (enc := encS) (k := 3) (Sort.ahead w m) g off ((Array.range n).map d) dk (holdsK_ahead encS 3 w m g off _ hH) (by simp [hs])
    have hcell : ∀ j, (sortWorldK encS 3 w g off m dk os).cell? ⟨g, off + j, none⟩ = (putRowK encS 3 (Sort.ahead w m) g off dk).cell? ⟨g, off + j, none⟩ := fun j => cell?_grow _ _ ⟨g, off + j, none⟩ hg3
    have hfroz : ∀ j, (sortWorldK encS 3 w g off m dk os).frozen? ⟨g, off + j, none⟩ = w.frozen? ⟨g, off + j, none⟩ := fun j => by
      have := frozen?_grow (putRowK encS 3 (Sort.ahead w m) g off dk) os ⟨g, off + j, none⟩ hg3
      refine this.trans ?_
      simp [putRowK]
    have hfl : (flatK encS 3 dk).size = n * 3 := by simp [hs]
    refine ⟨by rw [sL_len], .inr ⟨g, off, cap, rfl, h1, h2, ?_, fun j hj => ⟨?_, by rw [hfroz]; exact (h4 j hj).2⟩, fun j u hu => ?_⟩⟩
    · have := (sortW_only w g off m dk os h3).size
      omega
    · rw [hcell]
      by_cases hjn : j < n * 3
      · rw [(hP j (by rw [hfl]; exact hjn)).1]
        rfl
      · rw [putRowK, cell?_putRow_other id _ g off _ ⟨g, off + j, none⟩ (.inr (.inr (by rw [hfl]; show off + n * 3 ≤ off + j; omega)))]
        exact (h4 j hj).1
    · have hjn : j < n * 3 := by
        have := (List.getElem?_eq_some_iff.1 hu).1
        rwa [sL_len] at this
      have hi : j / 3 < n := by omega
      have hm : j % 3 < 3 := Nat.mod_lt _ (by omega)
      have := sL_get (d := fun i => dk[i]!) hi hm
      rw [show j / 3 * 3 + j % 3 = j by omega, hu] at this
      rw [hcell, (hP j (by rw [hfl]; exact hjn)).1, get_flatK encS 3 dk j (by rw [hs]; exact hjn)]
      have h9 : j % 3 = 0 ∨ j % 3 = 1 ∨ j % 3 = 2 := by omega
      rcases h9 with e | e | e <;> rw [e] at this ⊢ <;> exact this.symm
/-- Sorted slots. -/
def SoV (w W : World) (b : Nat) (f : Int) (A : Option Addr) (n cap : Nat) (d : Nat → W3) (e : Ending) (w' : World) : Prop :=
  e = .returned (.tuple #[]) ∧ ∃ d', PT w w' b f (.slice A n cap) n (sL d' n) ∧ ((List.range n).map d').Perm ((List.range n).map d) ∧ ∀ i j, i < j → j < n → (d' i).2.1 ≤ (d' j).2.1
theorem ssort_some (w W : World) (b g off : Nat) (f : Int) (n cap : Nat) (d : Nat → W3) (h : PT w W b f (.slice (some ⟨g, off, none⟩) n cap) n (sL d n)) (hn : n ≤ 1000) :
    Calls Tryz.prog 49 #[.slice (some ⟨g, off, none⟩) n cap, .func (.func 50) #[] #[]] W (SoV w W b f (some ⟨g, off, none⟩) n cap d) := by
  have eg : ∀ args w, (callFunc 50 args).run Tryz.prog w = .ok (.enter 50 args) w := enters_of Tryz.func50 (by kernel_rfl) rfl
  have hgl : g < W.heap.size := h.row.lt g rfl
  have hsz : ((Array.range n).map d).size = n := by simp
  have hcon := AnyQ.slices_SortFunc Tryz.sortSlots 3 Tryz.isAgg84 Tryz.sizeOf84 encS (fun _ => rfl) (fun x v hv => by simp [encS] at hv; rcases hv with rfl | rfl | rfl <;> rfl) (fun x y => So.cmpI x.2.1 y.2.1) swoS 50 #[] g off cap ((Array.range n).map d) W eg (scmpLays g off _ W) (holds_of_row h.row) hgl (by rw [hsz]; omega)
  rw [hsz] at hcon
  change Calls Tryz.prog 49 _ _ _ at hcon
  refine hcon.mono fun e w' ⟨he, dk, m, os, ⟨p1, p2, p3⟩, hs, hw⟩ => ⟨he, fun i => dk[i]!, ?_, ?_, ?_⟩
  · have hds : dk.size = n := by rw [p1, hsz]
    have ho := sortW_only W g off m dk os hgl
    rw [hw]
    have hbg : b < g := h.own g rfl
    exact ⟨h.bt.only ho (fun e => by injection e with e; omega), h.bl.trans (below_of_only ho h.bl.size (fun q hq => by injection hq with hq; have := h.lo; omega)), h.lo, row_of_holds h.row hds, h.own⟩
  · have hds : dk.size = n := by rw [p1, hsz]
    have e1 : (dk.extract 0 n).toList = (List.range n).map fun i => dk[i]! := by
      apply List.ext_getElem
      · simp [hds]
      · intro i h1 h2
        simp at h1 h2
        simp [h2, hds]
    have e2 : (((Array.range n).map d).extract 0 n).toList = (List.range n).map d := by
      apply List.ext_getElem
      · simp
      · intro i h1 h2
        simp at h1 h2
        simp [h2]
    rw [e1, e2] at p3
    exact p3
  · intro i j hij hj
    have := hs i j (Nat.zero_le _) hij hj
    rw [ltS] at this
    simp at this
    exact this
theorem slen_zero (W : World) : Calls Tryz.prog 91 #[.int .u64 0] W fun e w' => (∃ q : Int, e = .returned (.int .i64 q)) ∧ W = w' := by
  have h := Any.bits_Len (SlLaysF0.n15.bits (P := Tryz.prog) { Tryz.sortSlots with }) (0 : Int) W (by omega) (by omega)
  change Calls Tryz.prog 91 _ _ _ at h
  exact h.mono fun e w' ⟨he, hw⟩ => ⟨⟨_, he⟩, hw.symm⟩
theorem ssort_none (w W : World) (b : Nat) (f : Int) (d : Nat → W3) (h : PT w W b f (.slice none 0 0) 0 (sL d 0)) : Calls Tryz.prog 49 #[.slice none 0 0, .func (.func 50) #[] #[]] W (SoV w W b f none 0 0 d) := by
  have HL := Lib.hid (fun W => slen_zero W)
  have HQ := Lib.hid (fun lim W => spdq_none (.func (.func 50) #[] #[]) lim W)
  have HF := Lib.hid (show SoV w W b f none 0 0 d (.returned (.tuple #[])) W from ⟨rfl, d, h, List.Perm.refl _, fun i j _ hj => by omega⟩)
  clear h
  go_enter Tryz.func49, Tryz.ntmps49
  go_wp2_with (first
    | (go_at_call 91; (with_reducible refine (HL.out _).mono ?_); rintro e w1 ⟨⟨q, rfl⟩, rfl⟩)
    | (go_at_call 90; (with_reducible refine (HQ.out _ _).mono ?_); rintro e w2 ⟨rfl, rfl⟩))
  go_end0
  exact HF.out
end Go.Proofs.YtfhhcpmoaggdmaaGreat

/- The document's word on slots: which ones make a table, by its contract. -/
namespace Go.Proofs.YtfhhcpmoaggdmaaGreat
open Go.RowKit Go.Lib Go.Sort
set_option linter.unusedVariables false

theorem newE_stop {f : Int} {d : Nat → W3} {k : Nat} (h : newE f d k ≠ 0) : ∀ n, k ≤ n → newE f d n = newE f d k := by
  intro n
  induction n with
  | zero => intro hk; rw [show k = 0 by omega]
  | succ n ih =>
    intro hk
    by_cases e : k = n + 1
    · rw [e]
    · have := ih (by omega)
      rw [newE, if_neg (by rw [this]; exact h), this]
theorem sBad_iff (f : Int) (x : W3) : sBad f x = true ↔ x.1 < 1 ∨ 8 < x.1 ∨ x.2.1 < 0 ∨ x.2.2 ≤ x.2.1 ∨ f < x.2.2 := by
  unfold sBad inB w3s
  simp
  omega
end Go.Proofs.YtfhhcpmoaggdmaaGreat

/- Package slot: New, by its contract. -/
namespace Go.Proofs.YtfhhcpmoaggdmaaGreat
open Go.RowKit Go.Lib Go.Sort
set_option linter.unusedVariables false

/-- append where its run is known, as1 a step of a drawn region. -/
theorem step_app_eq {P : Program} {ops : Array Oper} {o : Oper} {a : Act} {W : World} {K : Act → World → Prop} {Q : Exit → Act → World → Prop} {E : Prop} (hgd : o.guard = none) (s x : Operand) (t : TypeId) (ho : o.op = .call { callee := .builtin .append, args := #[s, x], argTypes := #[t, t] })
    {v xs v' : Value} {w' : World} (hr : (Builtin.append_ #[t, t] o.type #[v, xs]).run P W = .ok v' w') (hs : a.eval s = v) (hx : a.eval x = xs) (h : K (a.put o.dst v') w') : if Region.wanted o (yielded ops a.tmps) = true then Oper.wp P o a W K Q else E := by
  have hw : Region.wanted o (yielded ops a.tmps) = true := by simp [Region.wanted, hgd]
  rw [if_pos hw]
  unfold Oper.wp execOp
  simp only [ho, resolve, invoke, builtin, Sem.run_bind, Sem.run_pure, Result.andThen_ok, List.map_toArray, List.map_cons, List.map_nil, hs, hx, hr]
  exact h
/-- What New answers. -/
def NewV (f : Int) (n : Nat) (d : Nat → W3) (w : World) (e : Ending) (w' : World) : Prop :=
  ((rightB f = true ∧ newE f d n = 0) → ∃ (b : Nat) (A : Option Addr) (c : Nat) (d' : Nat → W3), e = .returned (.tuple #[.pointer (some ⟨b, 0, none⟩), .int .i64 0]) ∧ PT w w' b f (.slice A n c) n (sL d' n) ∧ ((List.range n).map d').Perm ((List.range n).map d) ∧ ∀ i j, i < j → j < n → (d' i).2.1 ≤ (d' j).2.1) ∧
  (¬ (rightB f = true ∧ newE f d n = 0) → e = .returned (.tuple #[.pointer none, .int .i64 (if rightB f then newE f d n else 2)]) ∧ Below w.heap.size w w')
theorem ssort_any (w W : World) (b : Nat) (f : Int) (A : Option Addr) (n cap : Nat) (d : Nat → W3) (h : PT w W b f (.slice A n cap) n (sL d n)) (hn : n ≤ 1000) :
    Calls Tryz.prog 49 #[.slice A n cap, .func (.func 50) #[] #[]] W (SoV w W b f A n cap d) := by
  rcases h.row.2 with ⟨e, h0⟩ | ⟨g, off, cap', e, _⟩
  · injection e with e1 e2 e3
    subst e1 e2 e3
    exact ssort_none w W b f d h
  · injection e with e1 e2 e3
    subst e1
    exact ssort_some w W b g off f n cap d h hn
set_option maxRecDepth 20000 in
set_option maxHeartbeats 3200000 in
theorem snew_any (f : Int) (A : Option Addr) (n cap : Nat) (d : Nat → W3) (w : World) (hst : Row3 w A n d) (hm : n ≤ 1000) :
    Calls Tryz.prog 28 #[.int .i64 f, .slice A n cap] w (NewV f n d w) := by
  have HR := Lib.hid (fun W => right_any f W)
  cases hr : rightB f
  case false =>
    rw [hr] at HR
    have HF := Lib.hid (show ∀ w', Below w.heap.size w w' → NewV f n d w (.returned (.tuple #[.pointer none, .int .i64 2])) w' from fun w' b => ⟨fun k => (by rw [hr] at k; cases k.1), fun _ => ⟨(by rw [hr]; rfl), b⟩⟩)
    clear hr
    go_enter Tryz.func28, Tryz.ntmps28
    go_wp2_with (go_at_call 47; (with_reducible refine (HR.out _).mono ?_); rintro e w1 ⟨rfl, rfl⟩)
    go_ret2
    exact HF.out _ (Below.refl _ _)
  rw [hr] at HR
  have HBAD := Lib.hid (show ∀ E, E ≠ 0 → newE f d n = E → ∀ w', Below w.heap.size w w' → NewV f n d w (.returned (.tuple #[.pointer none, .int .i64 E])) w' from fun E h0 hE w' b => ⟨fun k => absurd (hE ▸ k.2) h0, fun _ => ⟨(by rw [hr, hE]; rfl), b⟩⟩)
  have HOK := Lib.hid (show newE f d n = 0 → ∀ (b : Nat) (A : Option Addr) (c : Nat) (W w' : World) (e0 : Ending), SoV w W b f A n c d e0 w' → NewV f n d w (.returned (.tuple #[.pointer (some ⟨b, 0, none⟩), .int .i64 0])) w' from fun hE b A c W w' e0 h => by
    obtain ⟨_, d', q1, q2, q3⟩ := h
    exact ⟨fun _ => ⟨b, A, c, d', rfl, q1, q2, q3⟩, fun k => absurd ⟨hr, hE⟩ k⟩)
  have HST := Lib.hid hst
  have HST0 := Lib.hid (fun (k : Nat) (h : newE f d k ≠ 0) (hk : k ≤ n) => newE_stop h n hk)
  obtain ⟨W1, hW⟩ : ∃ W1, W1 = w.alloc (.cells #[.int .i64 f, .slice none 0 0] 96) := ⟨_, rfl⟩
  have HP0 := Lib.hid (show PT w W1 w.heap.size f (.slice none 0 0) 0 (sL d 0) from by
    rw [hW]
    exact ⟨Blk.new _ _ _, (Below.refl _ _).alloc (Nat.le_refl _) _, Nat.le_refl _, RowZ.nil _ _, fun q hq => by simp [Value.ownBlock] at hq⟩)
  clear hst hr
  go_enter Tryz.func28, Tryz.ntmps28
  go_upto_region 4 with (go_at_call 47; (with_reducible refine (HR.out _).mono ?_); rintro e w1 ⟨rfl, rfl⟩)
  rw [← hW]
  clear hW
  obtain ⟨b, hb⟩ : ∃ b, b = w.heap.size := ⟨_, rfl⟩
  rw [← hb] at HP0 ⊢
  clear hb
  go_wp2
  go_loopw [18] (fun x wr => ∃ (k : Nat) (vA : Option Addr) (vc : Nat), x = .int .i64 k ∧ k ≤ n ∧ Hid (newE f d k = 0) ∧ Hid (PT w wr b f (.slice vA k vc) k (sL d k))) (fun x _ => n - (intOf x).toNat)
  case atStart => exact ⟨0, none, 0, rfl, by omega, Lib.hid rfl, HP0⟩
  case round =>
    obtain ⟨k, vA, vc, rfl, hk, HZ, HP⟩ := hrel
    by_cases hkn : k < n
    · have i1 : (k : Int) < (n : Int) := by omega
      obtain ⟨ba, off, rfl, hba, hc⟩ := HST.out.2 (by omega)
      obtain ⟨c0, c1, c2⟩ := hc k hkn
      replace c0 := (HP.out.bl.cell (p := ⟨ba, off + k * 3, none⟩) hba).trans c0
      replace c1 := (HP.out.bl.cell (p := ⟨ba, off + k * 3 + 1, none⟩) hba).trans c1
      replace c2 := (HP.out.bl.cell (p := ⟨ba, off + k * 3 + 2, none⟩) hba).trans c2
      have HNE := Lib.hid (show newE f d (k + 1) = sE f d k (d k) by rw [newE, if_pos HZ.out])
      have HSL := Lib.hid (sL_succ d k)
      have HSO := Lib.hid (sL_one d k)
      clear hc hba
      obtain ⟨x, hx⟩ : ∃ x, x = d k := ⟨_, rfl⟩
      rw [← hx] at c0 c1 c2 HNE HSL
      have HX := Lib.hid hx
      clear hx
      obtain ⟨x1, x2, x3⟩ := x
      simp only at c0 c1 c2
      obtain ⟨w1, hw1⟩ : ∃ w1, w1 = wr.alloc (.cells #[.int .i64 x1, .int .i64 x2, .int .i64 x3] 84) := ⟨_, rfl⟩
      have hB : Blk w1 wr.heap.size 84 #[.int .i64 x1, .int .i64 x2, .int .i64 x3] := by rw [hw1]; exact Blk.new _ _ _
      have HP1 := Lib.hid (show PT w w1 b f (.slice vA k vc) k (sL d k) from HP.out.only (by rw [hw1]; exact only_alloc (only_refl _ _) _))
      have HNW := Lib.hid (show ∀ q, (Value.slice vA k vc).ownBlock = some q → q ≠ wr.heap.size from fun q hq => by have := HP.out.row.lt q hq; omega)
      have HBN := Lib.hid (show b ≠ wr.heap.size from by have := HP.out.bt.lt; omega)
      have HB := Lib.hid hB
      have HCK := Lib.hid (scheck_any b f vA k vc d (x1, x2, x3) w1 HP1.out.bt HP1.out.row3 (by omega))
      have e0 : w1.cell? ⟨wr.heap.size, 0, none⟩ = some (.int .i64 x1) := hB.cell 0
      have e1 : w1.cell? ⟨wr.heap.size, 1, none⟩ = some (.int .i64 x2) := hB.cell 1
      have e2 : w1.cell? ⟨wr.heap.size, 2, none⟩ = some (.int .i64 x3) := hB.cell 2
      clear hB
      go_upto_region 7 with (fail)
      rw [← hw1]
      clear hw1 c0 c1 c2
      generalize wr.heap.size = gs at HB HNW HBN e0 e1 e2 ⊢
      generalize sE f d k (x1, x2, x3) = E at HCK HNE
      by_cases hE : E = 0
      · subst hE
        go_upto_region 10 with (go_at_call 48; (with_reducible refine HCK.out.mono ?_); rintro e w2 ⟨rfl, g2⟩; have HP2 := Lib.hid (HP1.out.only g2); have HB2 := Lib.hid (HB.out.only g2 (by simp)); clear g2)
        obtain ⟨v', w', hk2, hr, hsx, hgx, hfz, A', c', rfl⟩ := HP2.out.push (ys := encS (x1, x2, x3)) (sL_one d k) (by intro u hu; simp [encS] at hu; rcases hu with rfl | rfl | rfl <;> rfl) rfl (by omega)
        have HK := Lib.hid hk2
        have SX := Lib.hid (show ∀ W, W = w2.drew ∨ W = (w2.alloc (.cells #[.int .i64 x1, .int .i64 x2, .int .i64 x3] 84)).drew ∨ W = w' → W.cell? ⟨b, 1, none⟩ = some (.slice vA k vc) ∧ W.cell? ⟨gs, 0, none⟩ = some (.int .i64 x1) ∧ W.cell? ⟨gs, 1, none⟩ = some (.int .i64 x2) ∧ W.cell? ⟨gs, 2, none⟩ = some (.int .i64 x3) from fun W hW => by
          have q := hgx W hW gs HB2.out.lt (fun e => HNW.out gs e rfl)
          exact ⟨hsx W hW, (q 0).trans (HB2.out.cell 0), (q 1).trans (HB2.out.cell 1), (q 2).trans (HB2.out.cell 2)⟩)
        have REL : Hid (PT w (w'.setCell ⟨b, 1, none⟩ (.slice A' (k + 1) c')) b f (.slice A' (k + 1) c') (k + 1) (sL d (k + 1))) := Lib.hid (by
          rw [HSL.out]
          exact hr)
        have y1 : w'.cell? ⟨b, 1, none⟩ = some (.slice vA k vc) := (SX.out w' (.inr (.inr rfl))).1
        replace HK := Lib.hid (show (Builtin.append_ #[23, 23] 23 #[.slice vA k vc, .slice (some ⟨w2.heap.size, 0, none⟩) 1 1]).run Tryz.prog (w2.alloc (.cells #[.int .i64 x1, .int .i64 x2, .int .i64 x3] 84)).drew = .ok (.slice A' (k + 1) c') w' from hk2)
        clear hk2 hr hsx hgx e0 e1 e2
        refine wp_region_ends2 10 (fun w' => w'.cell? ⟨b, 1, none⟩ = some (.slice vA k vc) ∧ w'.cell? ⟨gs, 0, none⟩ = some (.int .i64 x1) ∧ w'.cell? ⟨gs, 1, none⟩ = some (.int .i64 x2) ∧ w'.cell? ⟨gs, 2, none⟩ = some (.int .i64 x3)) (by kernel_rfl) (by kernel_rfl) (SX.out _ (.inl rfl)) (fun hHeld => ?_)
        simp only [List.take_succ_cons, List.take_zero]
        refine wpAnyH_take (i := 0) (oi := _) (v := ?_) rfl (by kernel_rfl) (by kernel_rfl) (by kernel_rfl) (fun _ _ _ h => h) (Or.inl ⟨by rfl, ?_⟩) (by assumption) ?_
        case refine_2 => intro w hSw; (try dsimp only at hSw); go_simp; try with_reducible rfl
        try simp only [Act.put, List.setIfInBounds_toArray, List.set_cons_zero, List.set_cons_succ]
        refine wpAnyH_take (i := 1) (oi := _) (v := ?_) rfl (by kernel_rfl) (by kernel_rfl) (by kernel_rfl) (fun _ _ _ h => h) (Or.inl ⟨by rfl, ?_⟩) (by assumption) ?_
        case refine_2 => intro w hSw; (try dsimp only at hSw); go_simp; try with_reducible rfl
        try simp only [Act.put, List.setIfInBounds_toArray, List.set_cons_zero, List.set_cons_succ]
        refine wpAnyH_take (i := 2) (oi := _) (v := ?_) rfl (by kernel_rfl) (by kernel_rfl) (by kernel_rfl) (fun _ _ _ h => h) (Or.inl ⟨by rfl, ?_⟩) (by assumption) ?_
        case refine_2 => intro w hSw; (try dsimp only at hSw); go_simp; try with_reducible rfl
        try simp only [Act.put, List.setIfInBounds_toArray, List.set_cons_zero, List.set_cons_succ]
        refine wpAnyH_take (i := 3) (oi := _) (v := ?_) rfl (by kernel_rfl) (by kernel_rfl) (by kernel_rfl) (fun _ _ _ h => h) (Or.inl ⟨by rfl, ?_⟩) (by assumption) ?_
        case refine_2 => intro w hSw; (try dsimp only at hSw); go_simp; try with_reducible rfl
        try simp only [Act.put, List.setIfInBounds_toArray, List.set_cons_zero, List.set_cons_succ]
        refine wpAnyH_take (i := 4) (oi := _) (v := ?_) rfl (by kernel_rfl) (by kernel_rfl) (by kernel_rfl) (fun _ _ _ h => h) (Or.inl ⟨by rfl, ?_⟩) (by assumption) ?_
        case refine_2 => intro w hSw; (try dsimp only at hSw); go_simp; try with_reducible rfl
        try simp only [Act.put, List.setIfInBounds_toArray, List.set_cons_zero, List.set_cons_succ]
        refine wpAnyH_take (i := 5) (oi := _) (v := ?_) rfl (by kernel_rfl) (by kernel_rfl) (by kernel_rfl) (fun _ _ _ h => h) (Or.inl ⟨by rfl, ?_⟩) (by assumption) ?_
        case refine_2 => intro w hSw; (try dsimp only at hSw); go_simp; try with_reducible rfl
        try simp only [Act.put, List.setIfInBounds_toArray, List.set_cons_zero, List.set_cons_succ]
        refine wpAnyH_ready (rs := [6]) (by kernel_rfl) (by simp) ?_
        refine AllReadyH.cons (o := _) rfl (fun K hK => ?_) AllReadyH.nil
        go_simp
        refine hK.out _ _ (SX.out _ (.inr (.inl rfl))) (fun hHeld => ?_)
        clear hK K
        try simp only [Act.put, List.setIfInBounds_toArray, List.set_cons_zero, List.set_cons_succ]
        refine wpAnyH_ready (rs := [7]) (by kernel_rfl) (by simp) ?_
        refine AllReadyH.cons (o := _) rfl (fun K hK => ?_) AllReadyH.nil
        refine step_app_eq rfl (.tmp 32) (.tmp 34) 23 rfl HK.out rfl rfl ?_
        refine hK.out _ _ (SX.out _ (.inr (.inr rfl))) (fun hHeld => ?_)
        clear hK K
        try simp only [Act.put, List.setIfInBounds_toArray, List.set_cons_zero, List.set_cons_succ]
        refine wpAnyH_ready (rs := [8]) (by kernel_rfl) (by simp) ?_
        refine AllReadyH.cons (o := _) rfl (fun K hK => ?_) AllReadyH.nil
        go_simp
        refine hK.out _ _ (SX.out _ (.inr (.inr rfl))) (fun hHeld => ?_)
        clear hK K
        try simp only [Act.put, List.setIfInBounds_toArray, List.set_cons_zero, List.set_cons_succ]
        refine wpAnyH_ready (rs := [9]) (by kernel_rfl) (by simp) ?_
        refine AllReadyH.cons (o := _) rfl (fun K hK => ?_) AllReadyH.nil
        go_simp
        refine hK.out _ _ (SX.out _ (.inr (.inr rfl))) (fun hHeld => ?_)
        clear hK K
        try simp only [Act.put, List.setIfInBounds_toArray, List.set_cons_zero, List.set_cons_succ]
        refine wpAnyH_done (by kernel_rfl) ?_ _
        refine Ends.last rfl (fun K hK => ?_)
        go_simp
        refine hK.out _ _ ?_
        clear hK K
        go_wp2
        go_roundw
        case rel => exact ⟨k + 1, A', c', by go_num, by omega, Lib.hid HNE.out, REL⟩
        case measure => simp [intOf] <;> omega
      · have hne : (E == 0) = false := by simpa using hE
        have hne2 : (E != 0) = true := by simpa using hE
        have HFIN := Lib.hid (show newE f d n = E from by rw [HST0.out (k + 1) (by rw [HNE.out]; exact hE) (by omega), HNE.out])
        have HEN := Lib.hid hE
        clear hE
        go_wp2_with (go_at_call 48; (with_reducible refine HCK.out.mono ?_); rintro e w2 ⟨rfl, g2⟩; have HP2 := Lib.hid (HP1.out.only g2); clear g2)
        go_ret2
        exact HBAD.out _ HEN.out HFIN.out _ HP2.out.bl
    · have i1 : ¬ (k : Int) < (n : Int) := by omega
      obtain rfl : k = n := by omega
      have HSO := Lib.hid (ssort_any w wr b f vA k vc d HP.out hm)
      have z1 : wr.cell? ⟨b, 1, none⟩ = some (.slice vA k vc) := HP.out.bt.cell 1
      go_wp2_with (go_at_call 49; (with_reducible refine HSO.out.mono ?_); rintro e w3 hso; have HSV := Lib.hid hso; obtain ⟨rfl, _⟩ := hso)
      go_ret2
      exact HOK.out HZ.out _ _ _ _ _ _ HSV.out
end Go.Proofs.YtfhhcpmoaggdmaaGreat

/- Package plan: New, by its contract. -/
namespace Go.Proofs.YtfhhcpmoaggdmaaGreat
open Go.RowKit Go.Lib Go.Sort
set_option linter.unusedVariables false

theorem rgC_get {d : Nat → Cl} {n i t : Nat} (hi : i < n) (ht : t < 3) : (rgC d n)[i * 3 + t]? = [Value.int .i64 ((i : Int) + 1), .int .i64 (d i).base, .int .i64 (d i).size][t]? := by
  unfold rgC
  rw [flat_get _ 3 (fun i => rfl) n i t hi ht]
theorem regs18_of {w : World} {A : Option Addr} {k : Nat} {c : Cf} (h : RowZ 3 w (.slice A c.cn k) c.cn (rgC c.cd c.cn)) : Rg.Regs w A c.cn k (rd18 c) := by
  rcases h with ⟨hl, ⟨e, h0⟩ | ⟨g, off, cap', e, h1, h2, h3, h4, h5⟩⟩
  · injection e with e1 e2 e3
    exact ⟨fun _ => ⟨h0, e3⟩, fun hp => by omega⟩
  · injection e with e1 e2 e3
    subst e1
    have g0 : ∀ i t u, i < c.cn → t < 3 → [Value.int .i64 ((i : Int) + 1), .int .i64 (c.cd i).base, .int .i64 (c.cd i).size][t]? = some u → w.cell? ⟨g, off + i * 3 + t, none⟩ = some u := fun i t u hi ht hu => by
      rw [Nat.add_assoc]
      exact h5 _ u (by rw [rgC_get hi ht]; exact hu)
    exact ⟨fun x => (by cases x), fun hp => ⟨g, off, rfl, h3, fun i hi => ⟨g0 i 0 _ hi (by omega) rfl, g0 i 1 _ hi (by omega) rfl, g0 i 2 _ hi (by omega) rfl⟩⟩⟩
/-- A plan of some tables, at a block. -/
structure PX (W : World) (b : Nat) (P : Pln) (c : Cf) : Prop where
  pl : PlnV W b P
  fr : P.fr = c.fr
  wn : P.wn = c.wn
  wd : P.wd = c.wd
  cn : P.cn = c.cn
  cd : P.cd = c.cd
  tb : ∃ A c' d', TbS W P.sb c.fr A c.sn c' d' ∧ GoodS c.fr c.sn d' ∧ ((List.range c.sn).map d').Perm ((List.range c.sn).map c.sd)
  rg : ∃ B, Rg.TabV W B P.rb (Rg.rws (rd18 c) c.cn)
theorem PX.grown {W W' : World} {b : Nat} {P : Pln} {c : Cf} (h : PX W b P c) (g : W.grownBy W' none) : PX W' b P c := by
  refine ⟨h.pl.grown g, h.fr, h.wn, h.wd, h.cn, h.cd, ?_, ?_⟩
  · obtain ⟨A, c', d', h1, h2⟩ := h.tb
    exact ⟨A, c', d', h1.grown g, h2⟩
  · obtain ⟨B, h1⟩ := h.rg
    exact ⟨B, h1.below (below_of_only g (Nat.le_refl _) (by simp))⟩
/-- What New answers. -/
def NewP (c : Cf) (w : World) (e : Ending) (w' : World) : Prop :=
  w.grownBy w' none ∧ ((fltL c ≠ [] ∧ e = .returned (.tuple #[.pointer none, .int .i64 11])) ∨ (fltL c = [] ∧ ∃ b P, e = .returned (.tuple #[.pointer (some ⟨b, 0, none⟩), .int .i64 0]) ∧ PX w' b P c))
theorem sn18 (c : Cf) (R : RightF c) (w : World) (hc : CfV w c) : Calls Tryz.prog 28 #[.int .i64 c.fr, .slice c.sA c.sn c.sc] w fun e w' => ∃ b, e = .returned (.tuple #[.pointer (some ⟨b, 0, none⟩), .int .i64 0]) ∧ (∃ A c' d', TbS w' b c.fr A c.sn c' d' ∧ GoodS c.fr c.sn d' ∧ ((List.range c.sn).map d').Perm ((List.range c.sn).map c.sd)) ∧ w.grownBy w' none := by
  have := R.few
  refine (snew_any c.fr c.sA c.sn c.sc c.sd w hc.2.1 (by omega)).mono fun e w' hv => ?_
  obtain ⟨b, A', c', d', he, hp, hpm, hso⟩ := hv.1 ⟨R.fr, R.slots⟩
  exact ⟨b, he, ⟨A', c', d', hp.tbs, good_perm (good_of R.slots) hpm, hpm⟩, only_far hp.bl⟩
theorem tn18 (c : Cf) (R : RightF c) (hf : FitCf c) (A : Option Addr) (k : Nat) (w : World) (hst : Rg.Regs w A c.cn k (rd18 c)) : Calls Tryz.prog 29 #[.slice A c.cn k] w fun e w' => ∃ b, e = .returned (.tuple #[.pointer (some ⟨b, 0, none⟩), .int .i64 0]) ∧ (∃ B, Rg.TabV w' B b (Rg.rws (rd18 c) c.cn)) ∧ w.grownBy w' none := by
  have := R.few
  refine (Rg.tnew_any A c.cn k (rd18 c) w hst (fun i hi => ?_) (by omega)).mono fun e w' hv => ?_
  · have q := hf.2.2.2.2.2 i hi
    exact ⟨by simp only [rd18, Rg.fitI]; omega, q.1, q.2.1⟩
  · obtain ⟨hb, ⟨_, t, he, ht⟩ | ⟨hne, _⟩⟩ := hv
    · exact ⟨t, he, ⟨_, ht⟩, only_far hb⟩
    · exact absurd R.regs hne
theorem rg18 (c : Cf) (R : RightF c) (w : World) (hc : CfV w c) : Calls Tryz.prog 30 #[cfv c] w fun e w' => ∃ A k, e = .returned (.slice A c.cn k) ∧ Rg.Regs w' A c.cn k (rd18 c) ∧ w.grownBy w' none := by
  have := R.few
  refine (regions_any c w hc (by omega)).mono fun e w' hv => ?_
  obtain ⟨A, k, he, hr, _, hb⟩ := hv
  exact ⟨A, k, he, regs18_of hr, only_far hb⟩
set_option maxRecDepth 20000 in
set_option maxHeartbeats 3200000 in
theorem pnew_any (c : Cf) (w : World) (hc : CfV w c) (hf : FitCf c) : Calls Tryz.prog 6 #[cfv c] w (NewP c w) := by
  obtain ⟨W1, hW, g1, hB⟩ := box1 w 26 (cfA c)
  have HG := Lib.hid g1
  have HCK := Lib.hid (check_any c W1 (hc.grown g1) hf)
  have HCL := Lib.hid (show ∀ W, W1.grownBy W none → W.cell? ⟨w.heap.size, 0, none⟩ = some (.int .i64 c.fr) ∧ W.cell? ⟨w.heap.size, 1, none⟩ = some (.slice c.wA c.wn c.wc) ∧ W.cell? ⟨w.heap.size, 2, none⟩ = some (.slice c.sA c.sn c.sc) ∧ W.cell? ⟨w.heap.size, 3, none⟩ = some (.slice c.cA c.cn c.cc) from fun W q => cf_cells (show BoxC W w.heap.size c from hB.only q (by simp)))
  have HC := Lib.hid (fun (W : World) (q : W1.grownBy W none) => (hc.grown g1).grown q)
  by_cases h : fltL c = []
  case neg =>
    rw [decide_eq_false h] at HCK
    have HN := Lib.hid h
    obtain ⟨c0, c1, c2, c3⟩ := HCL.out W1 (only_refl _ _)
    clear hc hf g1 hB HC HCL h
    show Calls Tryz.prog 6 #[.agg #[.int .i64 c.fr, .slice c.wA c.wn c.wc, .slice c.sA c.sn c.sc, .slice c.cA c.cn c.cc]] w (NewP c w)
    go_enter Tryz.func6, Tryz.ntmps6
    go_upto_region 1 with (fail)
    rw [← hW]
    clear hW
    go_wp2_with (go_at_call 27; (with_reducible refine HCK.out.mono ?_); rintro e w2 ⟨rfl, g2⟩; have G2 := Lib.hid (only_trans HG.out g2); clear g2)
    go_ret2
    exact ⟨G2.out, .inl ⟨HN.out, rfl⟩⟩
  case pos =>
    rw [decide_eq_true h] at HCK
    have R := Lib.hid (right_of c h)
    have HN := Lib.hid h
    have HF := Lib.hid hf
    obtain ⟨c0, c1, c2, c3⟩ := HCL.out W1 (only_refl _ _)
    clear hc hf g1 hB h
    show Calls Tryz.prog 6 #[.agg #[.int .i64 c.fr, .slice c.wA c.wn c.wc, .slice c.sA c.sn c.sc, .slice c.cA c.cn c.cc]] w (NewP c w)
    go_enter Tryz.func6, Tryz.ntmps6
    go_upto_region 1 with (fail)
    rw [← hW]
    clear hW
    go_upto_region 5 with (first
      | (go_at_call 27; (with_reducible refine HCK.out.mono ?_); rintro e w2 ⟨rfl, g2⟩; have G2 := Lib.hid g2; obtain ⟨d0, d1, d2, d3⟩ := HCL.out w2 g2; clear g2)
      | (go_at_call 28; (with_reducible refine (sn18 c R.out w2 (HC.out w2 G2.out)).mono ?_); rintro e w3 ⟨sb, rfl, htb, g3⟩; have G3 := Lib.hid (only_trans G2.out g3); have TB := Lib.hid htb; obtain ⟨d0, d1, d2, d3⟩ := HCL.out w3 G3.out; clear htb g3)
      | (go_at_call 30; (with_reducible refine (rg18 c R.out w3 (HC.out w3 G3.out)).mono ?_); rintro e w4 ⟨ra, rk, rfl, hrr, g4⟩; have HRR := Lib.hid hrr; have G4 := Lib.hid (only_trans G3.out g4); have H34 := Lib.hid g4; clear hrr g4)
      | (go_at_call 29; (with_reducible refine (tn18 c R.out HF.out ra rk w4 HRR.out).mono ?_); rintro e w5 ⟨rb, rfl, hrb, g5⟩; have RB := Lib.hid hrb; have G5 := Lib.hid (only_trans G4.out g5); have H35 := Lib.hid (only_trans H34.out g5); obtain ⟨e0, e1, e2, e3⟩ := HCL.out w5 G5.out; clear hrb g5))
    have HWC := Lib.hid (fun (W : World) (q : W1.grownBy W none) => wclone_any c.wA c.wn c.wc c.wd W (HC.out W q).1 (by have := R.out.few; omega))
    have HCC := Lib.hid (fun (W : World) (q : W1.grownBy W none) => cclone_any c.cA c.cn c.cc c.cd W (HC.out W q).2.2 (by have := R.out.few; omega))
    have HD : Hid (W1.grownBy w5.drew none) := Lib.hid (only_drewN G5.out 1)
    have HS3 := Lib.hid (show ∀ W, W1.grownBy W none → W.cell? ⟨w.heap.size, 0, none⟩ = some (.int .i64 c.fr) ∧ W.cell? ⟨w.heap.size, 1, none⟩ = some (.slice c.wA c.wn c.wc) ∧ W.cell? ⟨w.heap.size, 3, none⟩ = some (.slice c.cA c.cn c.cc) from fun W q => by obtain ⟨q0, q1, q2, q3⟩ := HCL.out W q; exact ⟨q0, q1, q3⟩)
    clear d0 d1 d2 d3
    go_region_held3 (fun W => W.cell? ⟨w.heap.size, 0, none⟩ = some (.int .i64 c.fr) ∧ W.cell? ⟨w.heap.size, 1, none⟩ = some (.slice c.wA c.wn c.wc) ∧ W.cell? ⟨w.heap.size, 3, none⟩ = some (.slice c.cA c.cn c.cc)) (first | exact ⟨e0, e1, e3⟩ | exact HS3.out _ HD.out | exact HS3.out _ GC | exact HS3.out _ GW | exact HS3.out _ (only_alloc GC _) | exact HS3.out _ (only_alloc GW _) | go_keep) (first
      | (go_at_call 31; (with_reducible refine (HWC.out _ (by first | exact HD.out | exact GC)).mono ?_); rintro e w6 ⟨wa, wk, rfl, r6, g6⟩; have GW : W1.grownBy w6 none := (by first | exact only_trans HD.out g6 | exact only_trans GC g6))
      | (go_at_call 32; (with_reducible refine (HCC.out _ (by first | exact HD.out | exact GW)).mono ?_); rintro e w7 ⟨ca, ck, rfl, r7, g7⟩; have GC : W1.grownBy w7 none := (by first | exact only_trans HD.out g7 | exact only_trans GW g7))
      | fail "no arm")
    all_goals
      go_wp2
      go_ret2
      have G59 : w5.grownBy (w7.alloc (.cells (plnA ⟨c.fr, wa, c.wn, wk, c.wd, ca, c.cn, ck, c.cd, sb, rb⟩) 81)) none := only_alloc (only_trans (only_trans (only_drewN (only_refl _ _) 1) g6) g7) _
      have G39 := only_trans H35.out G59
      have hbl := Blk.new w7 81 (plnA ⟨c.fr, wa, c.wn, wk, c.wd, ca, c.cn, ck, c.cd, sb, rb⟩)
      have r6' := r6.grown (only_alloc g7 (.cells (plnA ⟨c.fr, wa, c.wn, wk, c.wd, ca, c.cn, ck, c.cd, sb, rb⟩) 81))
      have r7' := r7.grown (only_alloc (only_refl w7 none) (.cells (plnA ⟨c.fr, wa, c.wn, wk, c.wd, ca, c.cn, ck, c.cd, sb, rb⟩) 81))
      have hfew := R.out.few
      refine ⟨only_alloc (only_trans HG.out GC) _, .inr ⟨HN.out, _, ⟨c.fr, wa, c.wn, wk, c.wd, ca, c.cn, ck, c.cd, sb, rb⟩, rfl, ⟨⟨hbl, r6', r7', by show c.wn ≤ 1000; omega, by show c.cn ≤ 1000; omega⟩, rfl, rfl, rfl, rfl, rfl, ?_, ?_⟩⟩⟩
      · obtain ⟨A, c', d', h1, h2⟩ := TB.out
        exact ⟨A, c', d', h1.grown G39, h2⟩
      · obtain ⟨B, h1⟩ := RB.out
        exact ⟨B, h1.below (below_of_only G59 (Nat.le_refl _) (by simp))⟩
end Go.Proofs.YtfhhcpmoaggdmaaGreat

/- Package plan: equal structs compare equal; what is asked by every law. -/
namespace Go.Proofs.YtfhhcpmoaggdmaaGreat
open Go.RowKit Go.Lib Go.Sort
set_option linter.unusedVariables false

set_option maxRecDepth 20000 in
theorem eq_duty (x0 x1 : Int) (w : World) : (binOp BinOp.eql 63 (.agg #[.int .i64 x0, .int .i64 x1]) (.agg #[.int .i64 x0, .int .i64 x1])).run Tryz.prog w = .ok (.bool true) w := by
  rw [run_eql_struct, run_equalIn_agg w 9999 _ _ _ (by kernel_rfl) (by kernel_rfl)]
  have hf : (Tryz.prog.fieldsOf 63).toList.map (fun f => (f.name, f.type, f.offset)) = [("What", 3, 0), ("Owner", 3, 1)] := by kernel_rfl
  generalize (Tryz.prog.fieldsOf 63).toList = fs at hf
  have hlen := congrArg List.length hf
  simp only [List.length_map, List.length_cons, List.length_nil] at hlen
  obtain ⟨f0, f1, rfl⟩ : ∃ f0 f1, fs = [f0, f1] := by
    match fs, hlen with
    | [f0, f1], _ => exact ⟨f0, f1, rfl⟩
  simp only [List.map_cons, List.map_nil, List.cons.injEq, Prod.mk.injEq, and_true] at hf
  obtain ⟨⟨p0, q0, r0⟩, ⟨p1, q1, r1⟩⟩ := hf
  simp [Op.eqFields, p0, q0, r0, p1, q1, r1, part, run_equalIn_int _ _ _ _ _ _ _ Tryz.underlying3, go_sem]
set_option maxRecDepth 20000 in
theorem neq_duty (x0 x1 : Int) (w : World) : (binOp BinOp.neq 63 (.agg #[.int .i64 x0, .int .i64 x1]) (.agg #[.int .i64 x0, .int .i64 x1])).run Tryz.prog w = .ok (.bool false) w := by
  rw [run_neq_struct, run_equalIn_agg w 9999 _ _ _ (by kernel_rfl) (by kernel_rfl)]
  have hf : (Tryz.prog.fieldsOf 63).toList.map (fun f => (f.name, f.type, f.offset)) = [("What", 3, 0), ("Owner", 3, 1)] := by kernel_rfl
  generalize (Tryz.prog.fieldsOf 63).toList = fs at hf
  have hlen := congrArg List.length hf
  simp only [List.length_map, List.length_cons, List.length_nil] at hlen
  obtain ⟨f0, f1, rfl⟩ : ∃ f0 f1, fs = [f0, f1] := by
    match fs, hlen with
    | [f0, f1], _ => exact ⟨f0, f1, rfl⟩
  simp only [List.map_cons, List.map_nil, List.cons.injEq, Prod.mk.injEq, and_true] at hf
  obtain ⟨⟨p0, q0, r0⟩, ⟨p1, q1, r1⟩⟩ := hf
  simp [Op.eqFields, p0, q0, r0, p1, q1, r1, part, run_equalIn_int _ _ _ _ _ _ _ Tryz.underlying3, go_sem]
set_option maxRecDepth 20000 in
theorem eq_span18 (x0 x1 : Int) (w : World) : (binOp BinOp.eql 40 (.agg #[.int .i64 x0, .int .i64 x1]) (.agg #[.int .i64 x0, .int .i64 x1])).run Tryz.prog w = .ok (.bool true) w := by
  rw [run_eql_struct, run_equalIn_agg w 9999 _ _ _ (by kernel_rfl) (by kernel_rfl)]
  have hf : (Tryz.prog.fieldsOf 40).toList.map (fun f => (f.name, f.type, f.offset)) = [("From", 3, 0), ("To", 3, 1)] := by kernel_rfl
  generalize (Tryz.prog.fieldsOf 40).toList = fs at hf
  have hlen := congrArg List.length hf
  simp only [List.length_map, List.length_cons, List.length_nil] at hlen
  obtain ⟨f0, f1, rfl⟩ : ∃ f0 f1, fs = [f0, f1] := by
    match fs, hlen with
    | [f0, f1], _ => exact ⟨f0, f1, rfl⟩
  simp only [List.map_cons, List.map_nil, List.cons.injEq, Prod.mk.injEq, and_true] at hf
  obtain ⟨⟨p0, q0, r0⟩, ⟨p1, q1, r1⟩⟩ := hf
  simp [Op.eqFields, p0, q0, r0, p1, q1, r1, part, run_equalIn_int _ _ _ _ _ _ _ Tryz.underlying3, go_sem]
set_option maxRecDepth 20000 in
theorem neq_span18 (x0 x1 : Int) (w : World) : (binOp BinOp.neq 40 (.agg #[.int .i64 x0, .int .i64 x1]) (.agg #[.int .i64 x0, .int .i64 x1])).run Tryz.prog w = .ok (.bool false) w := by
  rw [run_neq_struct, run_equalIn_agg w 9999 _ _ _ (by kernel_rfl) (by kernel_rfl)]
  have hf : (Tryz.prog.fieldsOf 40).toList.map (fun f => (f.name, f.type, f.offset)) = [("From", 3, 0), ("To", 3, 1)] := by kernel_rfl
  generalize (Tryz.prog.fieldsOf 40).toList = fs at hf
  have hlen := congrArg List.length hf
  simp only [List.length_map, List.length_cons, List.length_nil] at hlen
  obtain ⟨f0, f1, rfl⟩ : ∃ f0 f1, fs = [f0, f1] := by
    match fs, hlen with
    | [f0, f1], _ => exact ⟨f0, f1, rfl⟩
  simp only [List.map_cons, List.map_nil, List.cons.injEq, Prod.mk.injEq, and_true] at hf
  obtain ⟨⟨p0, q0, r0⟩, ⟨p1, q1, r1⟩⟩ := hf
  simp [Op.eqFields, p0, q0, r0, p1, q1, r1, part, run_equalIn_int _ _ _ _ _ _ _ Tryz.underlying3, go_sem]
set_option maxRecDepth 20000 in
theorem neq_cli18 (x0 x1 x2 x3 x4 x5 x6 x7 x8 x9 : Int) (w : World) : (binOp BinOp.neq 36 (.agg #[.int .i64 x0, .int .i64 x1, .int .i64 x2, .int .i64 x3, .int .i64 x4, .int .i64 x5, .int .i64 x6, .int .i64 x7, .int .i64 x8, .int .i64 x9]) (.agg #[.int .i64 x0, .int .i64 x1, .int .i64 x2, .int .i64 x3, .int .i64 x4, .int .i64 x5, .int .i64 x6, .int .i64 x7, .int .i64 x8, .int .i64 x9])).run Tryz.prog w = .ok (.bool false) w := by
  rw [run_neq_struct, run_equalIn_agg w 9999 _ _ _ (by kernel_rfl) (by kernel_rfl)]
  have hf : (Tryz.prog.fieldsOf 36).toList.map (fun f => (f.name, f.type, f.offset)) = [("Base", 3, 0), ("Size", 3, 1), ("Ring", 3, 2), ("At", 3, 3), ("Quota", 3, 4), ("Queue", 3, 5), ("Mac", 3, 6), ("Channel", 3, 7), ("First", 3, 8), ("Sectors", 3, 9)] := by kernel_rfl
  generalize (Tryz.prog.fieldsOf 36).toList = fs at hf
  have hlen := congrArg List.length hf
  simp only [List.length_map, List.length_cons, List.length_nil] at hlen
  obtain ⟨f0, f1, f2, f3, f4, f5, f6, f7, f8, f9, rfl⟩ : ∃ f0 f1 f2 f3 f4 f5 f6 f7 f8 f9, fs = [f0, f1, f2, f3, f4, f5, f6, f7, f8, f9] := by
    match fs, hlen with
    | [f0, f1, f2, f3, f4, f5, f6, f7, f8, f9], _ => exact ⟨f0, f1, f2, f3, f4, f5, f6, f7, f8, f9, rfl⟩
  simp only [List.map_cons, List.map_nil, List.cons.injEq, Prod.mk.injEq, and_true] at hf
  obtain ⟨⟨p0, q0, r0⟩, ⟨p1, q1, r1⟩, ⟨p2, q2, r2⟩, ⟨p3, q3, r3⟩, ⟨p4, q4, r4⟩, ⟨p5, q5, r5⟩, ⟨p6, q6, r6⟩, ⟨p7, q7, r7⟩, ⟨p8, q8, r8⟩, ⟨p9, q9, r9⟩⟩ := hf
  simp [Op.eqFields, p0, q0, r0, p1, q1, r1, p2, q2, r2, p3, q3, r3, p4, q4, r4, p5, q5, r5, p6, q6, r6, p7, q7, r7, p8, q8, r8, p9, q9, r9, part, run_equalIn_int _ _ _ _ _ _ _ Tryz.underlying3, go_sem]
attribute [-go_sem] Go.run_neq_struct
attribute [-go_sem] Go.run_eql_struct
theorem lv18 {W : World} {b : Nat} {P : Pln} {h : Nat} (x : PX W b P (lvC h 2)) : (fdW (qRuns (offV P.fr 25)) P.wn P.wd).1 = 1 ∧ (fdW (qOpens (offV P.fr 24)) P.wn P.wd).1 = 1 ∧ (dutyV P.cn (offV P.fr 21 - ioV P)) = (2, 1) ∧ whenV P 1 1 = 0 ∧ P.fr = 20 ∧ ioV P = 0 := by
  have e1 : ioV P = 0 := by
    unfold ioV
    rw [x.wn, x.wd]
    show (fdW (qWindow 0) 2 (lvC 0 2).wd).2.1 = 0
    decide +kernel
  refine ⟨?_, ?_, ?_, ?_, x.fr, e1⟩
  · rw [x.fr, x.wn, x.wd]
    show (fdW (qRuns (offV 20 25)) 2 (lvC 0 2).wd).1 = 1
    decide +kernel
  · rw [x.fr, x.wn, x.wd]
    show (fdW (qOpens (offV 20 24)) 2 (lvC 0 2).wd).1 = 1
    decide +kernel
  · rw [x.fr, x.cn, e1]
    show dutyV 1 (offV 20 21 - 0) = (2, 1)
    decide +kernel
  · unfold whenV
    rw [x.cn, e1]
    show (if (1 : Int) < 1 ∨ (2 : Int) < 1 ∨ isC 1 1 = false then (-1 : Int) else 0 + 2 * (1 - 1) + 1 - 1) = 0
    decide +kernel
/-- The rows of the example. -/
def LvR (W : World) (h : Nat) : Prop := Blk W (h + 1) 78 #[.int .i64 0, .int .i64 0, .int .i64 4, .int .i64 1, .int .i64 4, .int .i64 20] ∧ Blk W (h + 2) 84 #[.int .i64 1, .int .i64 4, .int .i64 12] ∧ Blk W (h + 3) 36 (lvX 2)
theorem LvR.cf {W : World} {h : Nat} (k : LvR W h) : CfV W (lvC h 2) := by
  obtain ⟨b1, b2, b3⟩ := k
  refine ⟨⟨fun e => by simp [lvC] at e, fun _ => ⟨h + 1, 0, rfl, b1.lt, fun i hi => ?_⟩⟩, ⟨fun e => by simp [lvC] at e, fun _ => ⟨h + 2, 0, rfl, b2.lt, fun i hi => ?_⟩⟩, ⟨fun e => by simp [lvC] at e, fun _ => ⟨h + 3, 0, rfl, b3.lt, fun i hi => ?_⟩⟩⟩
  · have hi' : i < 2 := hi
    have : i = 0 ∨ i = 1 := by omega
    rcases this with rfl | rfl
    · exact ⟨b1.cell 0, b1.cell 1, b1.cell 2⟩
    · exact ⟨b1.cell 3, b1.cell 4, b1.cell 5⟩
  · have hi' : i < 1 := hi
    obtain rfl : i = 0 := by omega
    exact ⟨b2.cell 0, b2.cell 1, b2.cell 2⟩
  · have hi' : i < 1 := hi
    obtain rfl : i = 0 := by omega
    exact ⟨b3.cell 0, b3.cell 1, b3.cell 2, b3.cell 3, b3.cell 4, b3.cell 5, b3.cell 6, b3.cell 7, b3.cell 8, b3.cell 9⟩
theorem lv18_world (w : World) : ∃ W, W = ((((w.alloc (.cells (lvX 2) 36)).alloc (.cells #[.int .i64 0, .int .i64 0, .int .i64 4, .int .i64 1, .int .i64 4, .int .i64 20] 78)).alloc (.cells #[.int .i64 1, .int .i64 4, .int .i64 12] 84)).alloc (.cells (lvX 2) 36)) ∧ LvR W w.heap.size ∧ w.grownBy W none := by
  refine ⟨_, rfl, ⟨?_, ?_, ?_⟩, only_alloc (only_alloc (only_alloc (only_alloc (only_refl _ _) _) _) _) _⟩
  · refine Blk.alloc (Blk.alloc ?_ _) _
    simpa using Blk.new (w.alloc (.cells (lvX 2) 36)) 78 _
  · refine Blk.alloc ?_ _
    have := Blk.new ((w.alloc (.cells (lvX 2) 36)).alloc (.cells #[.int .i64 0, .int .i64 0, .int .i64 4, .int .i64 1, .int .i64 4, .int .i64 20] 78)) 84 #[.int .i64 1, .int .i64 4, .int .i64 12]
    rw [show ((w.alloc (.cells (lvX 2) 36)).alloc (.cells #[.int .i64 0, .int .i64 0, .int .i64 4, .int .i64 1, .int .i64 4, .int .i64 20] 78)).heap.size = w.heap.size + 2 by simp] at this
    exact this
  · have := Blk.new (((w.alloc (.cells (lvX 2) 36)).alloc (.cells #[.int .i64 0, .int .i64 0, .int .i64 4, .int .i64 1, .int .i64 4, .int .i64 20] 78)).alloc (.cells #[.int .i64 1, .int .i64 4, .int .i64 12] 84)) 36 (lvX 2)
    rw [show (((w.alloc (.cells (lvX 2) 36)).alloc (.cells #[.int .i64 0, .int .i64 0, .int .i64 4, .int .i64 1, .int .i64 4, .int .i64 20] 78)).alloc (.cells #[.int .i64 1, .int .i64 4, .int .i64 12] 84)).heap.size = w.heap.size + 3 by simp] at this
    exact this
set_option maxRecDepth 20000 in
set_option maxHeartbeats 1600000 in
theorem live18_any (w : World) : Calls Tryz.prog 8 #[] w fun e w' => e = .returned (.bool true) ∧ w.grownBy w' none := by
  obtain ⟨W, hW, HL, hg⟩ := lv18_world w
  have HN := Lib.hid (show Calls Tryz.prog 6 #[.agg #[.int .i64 20, .slice (some ⟨w.heap.size + 1, 0, none⟩) 2 2, .slice (some ⟨w.heap.size + 2, 0, none⟩) 1 1, .slice (some ⟨w.heap.size + 3, 0, none⟩) 1 1]] W (fun e w' => ∃ b P, e = .returned (.tuple #[.pointer (some ⟨b, 0, none⟩), .int .i64 0]) ∧ PX w' b P (lvC w.heap.size 2) ∧ W.grownBy w' none) from
    (pnew_any (lvC w.heap.size 2) W HL.cf (lv_fit _ (by omega))).mono fun e w' h => by
      obtain ⟨g, ⟨hne, _⟩ | ⟨_, b, P, he, hp⟩⟩ := h
      · exact absurd (lv_flt2 _) hne
      · exact ⟨b, P, he, hp, g⟩)
  have hr : ∀ {W b} {P : Pln}, PX W b P (lvC w.heap.size 2) → rightB P.fr = true := fun x => by rw [x.fr]; show rightB 20 = true; decide
  have HRU := Lib.hid (fun (W' : World) (b : Nat) (P : Pln) (x : PX W' b P (lvC w.heap.size 2)) => (show Calls Tryz.prog 22 #[.pointer (some ⟨b, 0, none⟩), .int .i64 25] W' (fun e w' => e = .returned (.int .i64 1) ∧ W'.grownBy w' none) from by
    have := pruns_any b P 25 W' x.pl (hr x) (by omega)
    rw [(lv18 x).1] at this
    exact this))
  have HOP := Lib.hid (fun (W' : World) (b : Nat) (P : Pln) (x : PX W' b P (lvC w.heap.size 2)) => (show Calls Tryz.prog 24 #[.pointer (some ⟨b, 0, none⟩), .int .i64 24] W' (fun e w' => e = .returned (.int .i64 1) ∧ W'.grownBy w' none) from by
    have := popens_any b P 24 W' x.pl (hr x) (by omega)
    rw [(lv18 x).2.1] at this
    exact this))
  have HDU := Lib.hid (fun (W' : World) (b : Nat) (P : Pln) (x : PX W' b P (lvC w.heap.size 2)) => (show Calls Tryz.prog 26 #[.pointer (some ⟨b, 0, none⟩), .int .i64 21] W' (fun e w' => e = .returned (.agg #[.int .i64 2, .int .i64 1]) ∧ W'.grownBy w' none) from by
    have := pduty_any b P 21 W' x.pl (hr x) (by omega) (by rw [(lv18 x).2.2.2.2.2]; omega)
    rw [(lv18 x).2.2.1] at this
    exact this))
  have HWH := Lib.hid (fun (W' : World) (b : Nat) (P : Pln) (x : PX W' b P (lvC w.heap.size 2)) => (show Calls Tryz.prog 18 #[.pointer (some ⟨b, 0, none⟩), .int .i64 1, .int .i64 1] W' (fun e w' => e = .returned (.int .i64 0) ∧ W'.grownBy w' none) from by
    have := pwhen_any b P 1 1 W' x.pl (by rw [(lv18 x).2.2.2.2.2]; omega)
    rw [(lv18 x).2.2.2.1] at this
    exact this))
  have HFR := Lib.hid (fun (W' : World) (b : Nat) (P : Pln) (x : PX W' b P (lvC w.heap.size 2)) => (show Calls Tryz.prog 9 #[.pointer (some ⟨b, 0, none⟩)] W' (fun e w' => e = .returned (.int .i64 20) ∧ W' = w') from by
    have := pframe_any b P W' x.pl
    rw [(lv18 x).2.2.2.2.1] at this
    exact this))
  have hed := fun w : World => eq_duty 2 1 w
  have HG := Lib.hid hg
  have hW' : W = ((((w.alloc (.cells #[.int .i64 128, .int .i64 32, .int .i64 1, .int .i64 0, .int .i64 2, .int .i64 0, .int .i64 0, .int .i64 0, .int .i64 0, .int .i64 0] 36)).alloc (.cells #[.int .i64 0, .int .i64 0, .int .i64 4, .int .i64 1, .int .i64 4, .int .i64 20] 78)).alloc (.cells #[.int .i64 1, .int .i64 4, .int .i64 12] 84)).alloc (.cells #[.int .i64 128, .int .i64 32, .int .i64 1, .int .i64 0, .int .i64 2, .int .i64 0, .int .i64 0, .int .i64 0, .int .i64 0, .int .i64 0] 36)) := hW
  replace hW' := Lib.hid hW'
  clear HL hg hW hr
  go_enter Tryz.func8, Tryz.ntmps8
  go_wp2_with (first
    | (go_at_call 6; rw [← hW'.out]; (with_reducible refine HN.out.mono ?_); rintro e w2 ⟨b, P, rfl, hx, g2⟩; have X2 := Lib.hid hx; have G2 := Lib.hid (only_trans HG.out g2); clear hx g2)
    | (go_at_call 22; (with_reducible refine (HRU.out _ _ _ X2.out).mono ?_); rintro e w3 ⟨rfl, g3⟩; have X3 := Lib.hid (X2.out.grown g3); have G3 := Lib.hid (only_trans G2.out g3); clear g3)
    | (go_at_call 24; (with_reducible refine (HOP.out _ _ _ X3.out).mono ?_); rintro e w4 ⟨rfl, g4⟩; have X4 := Lib.hid (X3.out.grown g4); have G4 := Lib.hid (only_trans G3.out g4); clear g4)
    | (go_at_call 26; (with_reducible refine (HDU.out _ _ _ X4.out).mono ?_); rintro e w5 ⟨rfl, g5⟩; have X5 := Lib.hid (X4.out.grown g5); have G5 := Lib.hid (only_trans G4.out g5); clear g5)
    | (go_at_call 18; (with_reducible refine (HWH.out _ _ _ X5.out).mono ?_); rintro e w6 ⟨rfl, g6⟩; have X6 := Lib.hid (X5.out.grown g6); have G6 := Lib.hid (only_trans G5.out g6); clear g6)
    | (go_at_call 9; (with_reducible refine (HFR.out _ _ _ X6.out).mono ?_); rintro e w7 ⟨rfl, rfl⟩))
  go_ret
  exact ⟨by first | rfl | simp, G6.out⟩
end Go.Proofs.YtfhhcpmoaggdmaaGreat
