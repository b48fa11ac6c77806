/- The document's Any and Nth: their contracts; what Nth answers of one offset. -/
import Derived.Test.YthneljkaieckeabCL6
import Derived.Test.YthneljkaieckeabCN
import Derived.Test.YthneljkaieckeabV1
namespace Go.Proofs.Ythneljkaieckeab
open Go.RowKit Go.Lib Go.Sort
set_option linter.unusedVariables false

set_option maxHeartbeats 1600000 in
theorem rany_any (f : Int) (hf : f ≤ 4096) (A : Option Addr) (n cap : Nat) (d : Nat → Int × Int) (w : World) (hsp : Spans w A n cap d) (hn : n ≤ 1000000) :
    Calls Try.prog 19 #[.int .i64 f, .slice A n cap] w fun r w' => r = .returned (.bool (decide (0 < cnt (fun x => inN d x n) f.toNat))) ∧ Below w.heap.size w w' := by
  have HSP := Lib.hid hsp
  clear hsp
  go_enter Try.func19, Try.ntmps19
  go_wp2
  go_loopw [5] (fun x wr => ∃ (k : Nat), x = .int .i64 k ∧ k ≤ f.toNat ∧ Hid (cnt (fun x => inN d x n) k = 0) ∧ Below w.heap.size w wr) (fun x _ => f.toNat - (intOf x).toNat)
  case atStart => exact ⟨0, rfl, by omega, Lib.hid rfl, Below.refl _ _⟩
  case round =>
    obtain ⟨k, rfl, hk, HK, hb⟩ := hrel
    have HBE := Lib.hid hb
    clear hb
    by_cases hkf : (k : Int) < f
    · have hcall := rin_any A n cap d k wr (HSP.out.below HBE.out) hn
      obtain ⟨r, hr⟩ : ∃ r, r = inN d k n := ⟨_, rfl⟩
      rw [← hr] at hcall
      have hst : cnt (fun x => inN d x n) (k + 1) = if r then 1 else 0 := by rw [cnt_step, HK.out, ← hr]; simp
      have HCALL := Lib.hid hcall
      have HST := Lib.hid hst
      clear hcall hst hr
      cases r with
      | true =>
        have hfin : decide (0 < cnt (fun x => inN d x n) f.toNat) = true := decide_eq_true (by
          have := cnt_more (p := fun x => inN d x n) (show k + 1 ≤ f.toNat by omega)
          rw [HST.out] at this
          simp at this
          omega)
        have HFIN := Lib.hid hfin
        clear hfin
        go_wp2_with (go_at_call 20; refine HCALL.out.mono ?_; rintro e w2 ⟨rfl, b2⟩; have HB2 := Lib.hid (HBE.out.trans (b2.mono HBE.out.size)); clear b2)
        go_ret
        exact ⟨by rw [HFIN.out]; rfl, HB2.out⟩
      | false =>
        go_wp2_with (go_at_call 20; refine HCALL.out.mono ?_; rintro e w2 ⟨rfl, b2⟩; have HB2 := Lib.hid (HBE.out.trans (b2.mono HBE.out.size)); clear b2)
        go_roundw
        case rel => exact ⟨k + 1, by go_num, by omega, Lib.hid (by rw [HST.out]; rfl), HB2.out⟩
        case measure => simp [intOf] <;> omega
    · have hfin : decide (0 < cnt (fun x => inN d x n) f.toNat) = false := decide_eq_false (by
        rw [show f.toNat = k by omega, HK.out]; omega)
      have HFIN := Lib.hid hfin
      clear hfin
      go_wp2
      go_ret
      exact ⟨by rw [HFIN.out]; rfl, HBE.out⟩

set_option maxHeartbeats 1600000 in
theorem rnth_any (t n f T : Int) (p : Int → Bool) (E : Int) (A : Option Addr) (len cap : Nat) (d : Nat → Int × Int) (w : World) (hsp : Spans w A len cap d) (hl : len ≤ 1000000)
    (hp : ∀ x, 0 ≤ x → x < f → p x = inN d x len) (hE : E = cnt p f.toNat) (f1 : 1 ≤ f) (f2 : f ≤ 60) (t0 : 0 ≤ t) (t1 : t ≤ 2147483647) (n1 : 1 ≤ n) (n2 : n ≤ 60) (T1 : T ≤ 200000000000) (hP : p (T % f) = true) (hG : gT p f E T = gT p f E t + n - 1) :
    Calls Try.prog 21 #[.int .i64 t, .int .i64 n, .int .i64 f, .slice A len cap] w fun r w' => r = .returned (.int .i64 T) ∧ Below w.heap.size w w' := by
  have hTn : gT p f E (T + 1) = gT p f E t + n := by
    rw [gT_next (by omega) hE, hP, hG]; simp <;> omega
  have hone : ∀ u, p (u % f) = true → gT p f E u = gT p f E T → u = T := fun u h1 h2 => gT_one (by omega) hE h1 hP h2
  have htT : t ≤ T := by
    by_cases q : t ≤ T
    · exact q
    · have := gT_le (p := p) (E := E) (t := T + 1) (u := t) (f := f) (by omega) hE (by omega)
      omega
  have hnext : ∀ u, gT p f E (u + 1) = gT p f E u + (if p (u % f) then 1 else 0) := fun u => gT_next (by omega) hE
  have HSP := Lib.hid hsp
  have HTN := Lib.hid hTn
  have HONE := Lib.hid hone
  have HNEXT := Lib.hid hnext
  have HG := Lib.hid hG
  have HPP := Lib.hid hp
  clear hsp hTn hone hnext hG hp hP hE
  go_enter Try.func21, Try.ntmps21
  go_wp2
  go_loopw [1, 9] (fun m x wr => ∃ u M : Int, x = .int .i64 (u - 1) ∧ m = .int .i64 M ∧ t ≤ u ∧ u ≤ T + 1 ∧ 0 ≤ M ∧ M ≤ n ∧ Hid (gT p f E u + M = gT p f E t + n) ∧ (M ≤ 0 → T + 1 ≤ u) ∧ Below w.heap.size w wr) (fun _ x _ => (T - intOf x).toNat)
  case atStart => exact ⟨t, n, rfl, rfl, by omega, by omega, by omega, by omega, Lib.hid rfl, by omega, Below.refl _ _⟩
  case round =>
    obtain ⟨u, M, rfl, rfl, u0, u1, m0, m1, HM, hz, hb⟩ := hrel
    have HBE := Lib.hid hb
    clear hb
    by_cases hM : 0 < M
    · have huT : u ≤ T := by
        rcases Int.lt_or_eq_of_le u1 with q | q
        · omega
        · have := HM.out
          rw [q, HTN.out] at this
          omega
      obtain ⟨_, o0, o1⟩ := ticks (t := u) (f := f) (by omega)
      have hcall := rin_any A len cap d (u % f) wr (HSP.out.below HBE.out) hl
      obtain ⟨r, hr⟩ : ∃ r, r = inN d (u % f) len := ⟨_, rfl⟩
      have hpu : p (u % f) = r := by rw [hr]; exact HPP.out _ o0 o1
      rw [← hr] at hcall
      have hnx := HNEXT.out u
      rw [hpu] at hnx
      have hlast : r = true → M = 1 → u = T := fun h1 h2 => HONE.out u (hpu.trans h1) (by
        have := HM.out
        have := HG.out
        omega)
      have HLAST := Lib.hid hlast
      have HCALL := Lib.hid hcall
      have HNX := Lib.hid hnx
      clear hcall hr hpu hnx hlast hz
      rename_i tk0
      clear tk0
      cases r with
      | true =>
        go_wp2_with (first | (go_at_call 10; refine (roff_any u f _ (by omega) f1 (by omega)).mono ?_; rintro e w' ⟨rfl, rfl⟩) | (go_at_call 20; refine HCALL.out.mono ?_; rintro e w2 ⟨rfl, b2⟩; have HB2 := Lib.hid (HBE.out.trans (b2.mono HBE.out.size)); clear b2))
        go_roundw
        case rel => exact ⟨u + 1, M - 1, by first | rfl | go_num | (congr 1; omega), by first | rfl | go_num, by omega, by omega, by omega, by omega, Lib.hid (by have := HNX.out; have := HM.out; simp at *; omega), fun h => by have := HLAST.out (by first | rfl | trivial) (by omega); omega, HB2.out⟩
        case measure => simp [intOf] <;> omega
      | false =>
        go_wp2_with (first | (go_at_call 10; refine (roff_any u f _ (by omega) f1 (by omega)).mono ?_; rintro e w' ⟨rfl, rfl⟩) | (go_at_call 20; refine HCALL.out.mono ?_; rintro e w2 ⟨rfl, b2⟩; have HB2 := Lib.hid (HBE.out.trans (b2.mono HBE.out.size)); clear b2))
        go_roundw
        case rel => exact ⟨u + 1, M, by first | rfl | go_num | (congr 1; omega), rfl, by omega, by omega, by omega, by omega, Lib.hid (by have := HNX.out; have := HM.out; simp at *; omega), fun h => by omega, HB2.out⟩
        case measure => simp [intOf] <;> omega
    · have hu : u - 1 = T := by have := hz (by omega); omega
      have HU := Lib.hid hu
      clear hu
      go_wp2
      go_ret
      exact ⟨ret_int HU.out, HBE.out⟩

/-- Nth of the tick's own offset is the tick. -/
theorem nth_own (t f : Int) (w : World) (g cap : Nat) (h : Blk w g 31 #[.int .i64 (t % f), .int .i64 (t % f + 1)]) (f1 : 1 ≤ f) (f2 : f ≤ 60) (t0 : 0 ≤ t) (t1 : t ≤ 2147483647) :
    Calls Try.prog 18 #[.int .i64 t, .int .i64 1, .int .i64 f, .slice (some ⟨g, 0, none⟩) 1 cap] w fun r w' => r = .returned (.int .i64 t) ∧ Below w.heap.size w w' := by
  obtain ⟨_, o0, o1⟩ := ticks (t := t) (f := f) (by omega)
  have hs : Spans w (some ⟨g, 0, none⟩) 1 cap (fun _ => (t % f, t % f + 1)) := ⟨fun e => (by cases e), fun _ => ⟨g, 0, rfl, h.lt, fun i hi => by
    obtain rfl : i = 0 := by omega
    exact ⟨h.cell 0, h.cell 1⟩⟩⟩
  refine (nth_any t 1 f f2 _ 1 cap _ w hs (by omega)).mono ?_
  rintro e w' ⟨r, rfl, hb, p, E, hp, hE, hr⟩
  refine ⟨?_, hb⟩
  have hpt : p (t % f) = true := by
    rw [hp, (rightB_iff f).2 ⟨f1, by omega⟩, decide_eq_true (show 0 ≤ t % f ∧ t % f < f from ⟨o0, o1⟩)]
    have : inN (fun _ => (t % f, t % f + 1)) (t % f) 1 = true := (inN_iff _ _ _).2 ⟨0, by omega, by rw [holdsB_iff]; omega⟩
    rw [this]
    rfl
  have hE1 : 1 ≤ E := by
    have h1 := cnt_step p (t % f).toNat
    have h2 := cnt_more (p := p) (show (t % f).toNat + 1 ≤ f.toNat by omega)
    have h3 := (cnt_le p (t % f).toNat).1
    rw [show ((t % f).toNat : Int) = t % f by omega, hpt] at h1
    simp at h1
    omega
  rcases hr with ⟨_, q⟩ | ⟨_, _, _, _, _, _, _, hP, hG⟩
  · omega
  · have := gT_one (t := r) (u := t) (by omega) hE hP hpt (by rw [hG]; omega)
    rw [this]
theorem next_own (t f : Int) (f1 : 1 ≤ f) (f2 : f ≤ 60) (t0 : 0 ≤ t) (t1 : t ≤ 2147483647) : nextV t (t % f) f = t := by
  obtain ⟨_, o0, o1⟩ := ticks (t := t) (f := f) (by omega)
  have ho : offB (t % f) f = true := (offB_iff _ _).2 ⟨f1, by omega, o0, o1⟩
  obtain ⟨n1, n2, n3⟩ := next_is ho t1
  rw [show max t 0 = t by omega] at n1 n2
  rcases Int.lt_or_eq_of_le n1 with q | q
  · exact absurd n3.symm (off_far (by omega) q n2)
  · exact q.symm
end Go.Proofs.Ythneljkaieckeab
