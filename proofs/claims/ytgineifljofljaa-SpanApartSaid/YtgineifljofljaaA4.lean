/- Apart, both ways; SpanApart: its walk. -/
import Derived.Test.YtgineifljofljaaA3
namespace Go.Proofs.Ytgineifljofljaa
open Go.RowKit Go.Lib Go.Sort
set_option linter.unusedVariables false

/-- Are the first n all spans? -/
def allB (d : Nat → Int × Int) : Nat → Bool
  | 0 => true
  | n + 1 => allB d n && isB (d n)
theorem allB_step (d : Nat → Int × Int) (n : Nat) : allB d (n + 1) = (allB d n && isB (d n)) := rfl
theorem allB_no {d : Nat → Int × Int} {n i : Nat} (hi : i < n) (h : isB (d i) = false) : allB d n = false := by
  induction n with
  | zero => omega
  | succ n ih =>
    rw [allB_step]
    by_cases e : i = n
    · subst e; rw [h, Bool.and_false]
    · rw [ih (by omega), Bool.false_and]
theorem first_neg {d : Nat → Int × Int} {n : Nat} {x y : Int} (h : First d n x y) : decide (x < 0) = !pairB d n := by
  rcases h with ⟨h1, _, h3⟩ | ⟨i, k, h1, _, h3, h4, h5, _, _⟩
  · rw [(pairB_none d n).2 h3, h1]; rfl
  · rw [(pairB_iff d n).2 ⟨k, h4, i, h3, h5⟩, decide_eq_false (by omega)]; rfl

set_option maxHeartbeats 1600000 in
theorem indexa_any (A : Option Addr) (n cap : Nat) (d : Nat → Int × Int) (w : World) (hsp : Spans w A n cap d) (hn : n ≤ 1000000) :
    Calls Try.prog 32 #[.slice A n cap, .func (.func 35) #[] #[]] w fun e w' => ∃ j : Int, e = .returned (.int .i64 j) ∧ ((j = -1 ∧ allB d n = true) ∨ (0 ≤ j ∧ j < 1000001 ∧ allB d n = false)) ∧ Below w.heap.size w w' := by
  have HSP := Lib.hid hsp
  clear hsp
  go_enter Try.func32, Try.ntmps32
  go_wp2
  go_loopw [8] (fun x wr => ∃ (k : Nat), x = .int .i64 k ∧ k ≤ n ∧ Hid (allB d k = true) ∧ Below w.heap.size w wr) (fun x _ => n - (intOf x).toNat)
  case atStart => exact ⟨0, rfl, by omega, Lib.hid rfl, Below.refl _ _⟩
  case round =>
    obtain ⟨k, rfl, hk, HF, hb⟩ := hrel
    have HBE := Lib.hid hb
    clear hb
    by_cases hkn : k < n
    · obtain ⟨b1, o1, rfl, hb1, hc1⟩ := (HSP.out.below HBE.out).2 (by omega)
      have c0 := (hc1 k hkn).1
      have c1 := (hc1 k hkn).2
      clear hc1
      obtain ⟨x, hx⟩ : ∃ x, x = d k := ⟨_, rfl⟩
      rw [← hx] at c0 c1
      have HX := Lib.hid hx
      clear hx
      have i1 : (k : Int) < (n : Int) := by omega
      obtain ⟨r, hr⟩ : ∃ r, r = isB x := ⟨_, rfl⟩
      have hcall := fun W => notIs_any x W
      simp only [← hr] at hcall
      rw [HX.out] at hr
      have HCALL := Lib.hid hcall
      have HRR := Lib.hid hr
      clear hcall hr
      cases r with
      | true =>
        go_wp2_with (go_at_call 35; refine (HCALL.out _).mono ?_; rintro e w2 ⟨rfl, g2⟩; have HB2 := Lib.hid (HBE.out.trans (below_of_only g2 HBE.out.size (by simp))); clear g2)
        go_roundw
        case rel => exact ⟨k + 1, by go_num, by omega, Lib.hid (by rw [allB_step, HF.out, ← HRR.out]; rfl), HB2.out⟩
        case measure => simp [intOf] <;> omega
      | false =>
        have hno := allB_no (d := d) hkn HRR.out.symm
        have HNO := Lib.hid hno
        clear hno
        go_wp2_with (go_at_call 35; refine (HCALL.out _).mono ?_; rintro e w2 ⟨rfl, g2⟩; have HB2 := Lib.hid (HBE.out.trans (below_of_only g2 HBE.out.size (by simp))); clear g2)
        go_ret
        exact ⟨k, rfl, .inr ⟨by omega, by omega, HNO.out⟩, HB2.out⟩
    · obtain rfl : k = n := by omega
      go_wp2
      go_ret
      exact ⟨-1, rfl, .inl ⟨rfl, HF.out⟩, HBE.out⟩
theorem containsa_any (A : Option Addr) (n cap : Nat) (d : Nat → Int × Int) (w : World) (hsp : Spans w A n cap d) (hn : n ≤ 1000000) :
    Calls Try.prog 34 #[.slice A n cap, .func (.func 35) #[] #[]] w fun e w' => e = .returned (.bool (!allB d n)) ∧ Below w.heap.size w w' := by
  have hi := indexa_any A n cap d w hsp hn
  have HI := Lib.hid hi
  clear hi hsp
  obtain ⟨al, hal⟩ : ∃ al, al = allB d n := ⟨_, rfl⟩
  rw [← hal] at HI ⊢
  clear hal
  go_enter Try.func34, Try.ntmps34
  go_wp2_with fail
  refine HI.out.mono ?_
  rintro e w2 ⟨j, rfl, h1, b2⟩
  have B2 := Lib.hid b2
  clear b2 HI
  rcases h1 with ⟨rfl, rfl⟩ | ⟨h1, h2, rfl⟩
  · go_wp2
    go_ret
    exact ⟨by first | rfl | simp, B2.out⟩
  · go_wp2
    go_ret
    exact ⟨by first | rfl | (simp; done) | (simp; omega), B2.out⟩
theorem apart_is (A : Option Addr) (n cap : Nat) (d : Nat → Int × Int) (w : World) (hsp : Spans w A n cap d) (hn : n ≤ 60) :
    Calls Try.prog 19 #[.slice A n cap] w fun e w' => e = .returned (.bool (allB d n && !pairB d n)) ∧ Below w.heap.size w w' := by
  have hi := containsa_any A n cap d w hsp (by omega)
  have hs := fun W (hW : Below w.heap.size w W) => some_any A n cap d W (hsp.below hW) hn
  obtain ⟨al, hal⟩ : ∃ al, al = allB d n := ⟨_, rfl⟩
  obtain ⟨pa, hpa⟩ : ∃ pa, pa = pairB d n := ⟨_, rfl⟩
  rw [← hal] at hi ⊢
  rw [← hpa] at hs ⊢
  have HI := Lib.hid hi
  have HS := Lib.hid hs
  clear hi hs hal hpa hsp
  cases al with
  | true =>
    go_enter Try.func19, Try.ntmps19
    go_wp2_with (first | (go_at_call 34; refine HI.out.mono ?_; rintro e w2 ⟨rfl, b2⟩; have B2 := Lib.hid b2; clear b2) | (go_at_call 31; refine (HS.out _ B2.out).mono ?_; rintro e w3 ⟨rfl, b3⟩; have B3 := Lib.hid (B2.out.trans (b3.mono B2.out.size)); clear b3))
    go_ret
    exact ⟨by first | rfl | simp, B3.out⟩
  | false =>
    go_enter Try.func19, Try.ntmps19
    go_wp2_with (go_at_call 34; refine HI.out.mono ?_; rintro e w2 ⟨rfl, b2⟩; have B2 := Lib.hid b2; clear b2)
    go_ret
    exact ⟨by first | rfl | simp, B2.out⟩

set_option maxRecDepth 100000 in
set_option maxHeartbeats 6400000 in
theorem apart_walk (A : Option Addr) (len cap : Nat) (d : Nat → Int × Int) (w : World) (hsp : Spans w A len cap d) (hl : len ≤ maxLen) (hlc : len ≤ cap) (hcap : cap ≤ maxLen) : Calls Try.prog 4 #[.slice A len cap] w fun e w' => e = .returned (.bool true) ∧ Below w.heap.size w w' := by
  unfold maxLen at hl hcap
  rcases Nat.lt_or_ge 60 len with h60 | h60
  · have HSP := Lib.hid (hsp.cut 60 (by omega))
    clear hsp
    go_enter Try.func4, Try.ntmps4
    go_wp2_with (first | (go_at_call 17; refine (first_any A 60 cap d _ HSP.out (by omega) (by omega) (by omega)).mono ?_; rintro e w1 ⟨i, k, rfl, hf, b1⟩; have HF1 := Lib.hid hf; have B1 := Lib.hid b1; clear hf b1) | (go_at_call 18; refine (rfirst_any A 60 cap d _ (HSP.out.below B1.out) (by omega)).mono ?_; rintro e w2 ⟨x, y, rfl, hf, b2⟩; have HF2 := Lib.hid hf; have B2 := Lib.hid (B1.out.trans (b2.mono B1.out.size)); clear hf b2))
    obtain ⟨rfl, rfl⟩ := first_one HF1.out HF2.out
    have hx : decide (i < 0) = !pairB d 60 := first_neg HF1.out
    have HX := Lib.hid hx
    clear hx HF1 HF2
    go_loopw [7, 8] (fun a j wr => ∃ (q : Nat), j = .int .i64 q ∧ q ≤ 60 ∧ a = .bool (allB d q) ∧ Below w.heap.size w wr) (fun _ j _ => 60 - (intOf j).toNat)
    case atStart => exact ⟨0, rfl, by omega, rfl, B2.out⟩
    case round =>
      obtain ⟨q, rfl, hq, rfl, hb⟩ := hrel
      have HBE := Lib.hid hb
      clear hb
      by_cases hql : q < 60
      · obtain ⟨b1, o1, rfl, hb1, hc1⟩ := (HSP.out.below HBE.out).2 (by omega)
        have c0 := (hc1 q hql).1
        have c1 := (hc1 q hql).2
        clear hc1
        have i1 : (q : Int) < (60 : Int) := by omega
        have hst := allB_step d q
        obtain ⟨s, hs⟩ : ∃ s, s = d q := ⟨_, rfl⟩
        rw [← hs] at c0 c1 hst
        obtain ⟨r, hr⟩ : ∃ r, r = isB s := ⟨_, rfl⟩
        have hcall : ∀ W, Calls Try.prog 14 #[spv s] W fun e w' => e = .returned (.bool r) ∧ W.grownBy w' none := fun W => by rw [hr]; exact ris_any s W
        rw [← hr] at hst
        obtain ⟨p, hp⟩ : ∃ p, p = allB d q := ⟨_, rfl⟩
        rw [← hp] at hst ⊢
        have HST := Lib.hid hst
        have HCALL := Lib.hid hcall
        clear hst hcall hr hs hp
        cases p with
        | true =>
          go_wp2_with (go_at_call 14; refine (HCALL.out _).mono ?_; rintro e w3 ⟨rfl, g3⟩; have HB3 := Lib.hid (HBE.out.trans (below_of_only g3 HBE.out.size (by simp))); clear g3)
          go_roundw
          case rel => exact ⟨q + 1, by go_num, by omega, by rw [HST.out]; first | rfl | simp, HB3.out⟩
          case measure => simp [intOf] <;> omega
        | false =>
          go_wp2
          go_roundw
          case rel => exact ⟨q + 1, by go_num, by omega, by rw [HST.out]; first | rfl | simp, HBE.out⟩
          case measure => simp [intOf] <;> omega
      · obtain ⟨hq1, hq2⟩ : q ≤ 60 ∧ 60 ≤ q := ⟨hq, by omega⟩
        have hall : allB d q = allB d 60 := by rw [show q = 60 by omega]
        obtain ⟨al, hal⟩ : ∃ al, al = allB d 60 := ⟨_, rfl⟩
        obtain ⟨pa, hpa⟩ : ∃ pa, pa = pairB d 60 := ⟨_, rfl⟩
        have hap := fun W (hW : Below w.heap.size w W) => apart_is A 60 cap d W (HSP.out.below hW) (by omega)
        rw [← hal, ← hpa] at hap
        have hxx := HX.out
        rw [← hpa] at hxx
        rw [hall, ← hal]
        have HAP := Lib.hid hap
        clear hap hall HX hal hpa
        cases pa with
        | true =>
          have hi : ¬ i < 0 := by simpa using hxx
          clear hxx
          cases al with
          | true =>
            go_wp2_with (first | (go_at_call 12; refine (live_any _).mono ?_; rintro e w4 ⟨rfl, b4⟩; have B4 := Lib.hid (HBE.out.trans (b4.mono HBE.out.size)); clear b4) | (go_at_call 19; refine (HAP.out _ B4.out).mono ?_; rintro e w5 ⟨rfl, b5⟩; have B5 := Lib.hid (B4.out.trans (b5.mono B4.out.size)); clear b5))
            go_ret
            exact ⟨by first | rfl | (simp; done) | (simp; omega), B5.out⟩
          | false =>
            go_wp2_with (first | (go_at_call 12; refine (live_any _).mono ?_; rintro e w4 ⟨rfl, b4⟩; have B4 := Lib.hid (HBE.out.trans (b4.mono HBE.out.size)); clear b4) | (go_at_call 19; refine (HAP.out _ B4.out).mono ?_; rintro e w5 ⟨rfl, b5⟩; have B5 := Lib.hid (B4.out.trans (b5.mono B4.out.size)); clear b5))
            go_ret
            exact ⟨by first | rfl | (simp; done) | (simp; omega), B5.out⟩
        | false =>
          have hi : i < 0 := by simpa using hxx
          clear hxx
          cases al with
          | true =>
            go_wp2_with (first | (go_at_call 12; refine (live_any _).mono ?_; rintro e w4 ⟨rfl, b4⟩; have B4 := Lib.hid (HBE.out.trans (b4.mono HBE.out.size)); clear b4) | (go_at_call 19; refine (HAP.out _ B4.out).mono ?_; rintro e w5 ⟨rfl, b5⟩; have B5 := Lib.hid (B4.out.trans (b5.mono B4.out.size)); clear b5))
            go_ret
            exact ⟨by first | rfl | (simp; done) | (simp; omega), B5.out⟩
          | false =>
            go_wp2_with (first | (go_at_call 12; refine (live_any _).mono ?_; rintro e w4 ⟨rfl, b4⟩; have B4 := Lib.hid (HBE.out.trans (b4.mono HBE.out.size)); clear b4) | (go_at_call 19; refine (HAP.out _ B4.out).mono ?_; rintro e w5 ⟨rfl, b5⟩; have B5 := Lib.hid (B4.out.trans (b5.mono B4.out.size)); clear b5))
            go_ret
            exact ⟨by first | rfl | (simp; done) | (simp; omega), B5.out⟩
  · have HSP := Lib.hid (hsp.cut len (by omega))
    clear hsp
    go_enter Try.func4, Try.ntmps4
    go_wp2_with (first | (go_at_call 17; refine (first_any A len cap d _ HSP.out (by omega) (by omega) (by omega)).mono ?_; rintro e w1 ⟨i, k, rfl, hf, b1⟩; have HF1 := Lib.hid hf; have B1 := Lib.hid b1; clear hf b1) | (go_at_call 18; refine (rfirst_any A len cap d _ (HSP.out.below B1.out) (by omega)).mono ?_; rintro e w2 ⟨x, y, rfl, hf, b2⟩; have HF2 := Lib.hid hf; have B2 := Lib.hid (B1.out.trans (b2.mono B1.out.size)); clear hf b2))
    obtain ⟨rfl, rfl⟩ := first_one HF1.out HF2.out
    have hx : decide (i < 0) = !pairB d len := first_neg HF1.out
    have HX := Lib.hid hx
    clear hx HF1 HF2
    go_loopw [7, 8] (fun a j wr => ∃ (q : Nat), j = .int .i64 q ∧ q ≤ len ∧ a = .bool (allB d q) ∧ Below w.heap.size w wr) (fun _ j _ => len - (intOf j).toNat)
    case atStart => exact ⟨0, rfl, by omega, rfl, B2.out⟩
    case round =>
      obtain ⟨q, rfl, hq, rfl, hb⟩ := hrel
      have HBE := Lib.hid hb
      clear hb
      by_cases hql : q < len
      · obtain ⟨b1, o1, rfl, hb1, hc1⟩ := (HSP.out.below HBE.out).2 (by omega)
        have c0 := (hc1 q hql).1
        have c1 := (hc1 q hql).2
        clear hc1
        have i1 : (q : Int) < (len : Int) := by omega
        have hst := allB_step d q
        obtain ⟨s, hs⟩ : ∃ s, s = d q := ⟨_, rfl⟩
        rw [← hs] at c0 c1 hst
        obtain ⟨r, hr⟩ : ∃ r, r = isB s := ⟨_, rfl⟩
        have hcall : ∀ W, Calls Try.prog 14 #[spv s] W fun e w' => e = .returned (.bool r) ∧ W.grownBy w' none := fun W => by rw [hr]; exact ris_any s W
        rw [← hr] at hst
        obtain ⟨p, hp⟩ : ∃ p, p = allB d q := ⟨_, rfl⟩
        rw [← hp] at hst ⊢
        have HST := Lib.hid hst
        have HCALL := Lib.hid hcall
        clear hst hcall hr hs hp
        cases p with
        | true =>
          go_wp2_with (go_at_call 14; refine (HCALL.out _).mono ?_; rintro e w3 ⟨rfl, g3⟩; have HB3 := Lib.hid (HBE.out.trans (below_of_only g3 HBE.out.size (by simp))); clear g3)
          go_roundw
          case rel => exact ⟨q + 1, by go_num, by omega, by rw [HST.out]; first | rfl | simp, HB3.out⟩
          case measure => simp [intOf] <;> omega
        | false =>
          go_wp2
          go_roundw
          case rel => exact ⟨q + 1, by go_num, by omega, by rw [HST.out]; first | rfl | simp, HBE.out⟩
          case measure => simp [intOf] <;> omega
      · obtain ⟨hq1, hq2⟩ : q ≤ len ∧ len ≤ q := ⟨hq, by omega⟩
        have hall : allB d q = allB d len := by rw [show q = len by omega]
        obtain ⟨al, hal⟩ : ∃ al, al = allB d len := ⟨_, rfl⟩
        obtain ⟨pa, hpa⟩ : ∃ pa, pa = pairB d len := ⟨_, rfl⟩
        have hap := fun W (hW : Below w.heap.size w W) => apart_is A len cap d W (HSP.out.below hW) (by omega)
        rw [← hal, ← hpa] at hap
        have hxx := HX.out
        rw [← hpa] at hxx
        rw [hall, ← hal]
        have HAP := Lib.hid hap
        clear hap hall HX hal hpa
        cases pa with
        | true =>
          have hi : ¬ i < 0 := by simpa using hxx
          clear hxx
          cases al with
          | true =>
            go_wp2_with (first | (go_at_call 12; refine (live_any _).mono ?_; rintro e w4 ⟨rfl, b4⟩; have B4 := Lib.hid (HBE.out.trans (b4.mono HBE.out.size)); clear b4) | (go_at_call 19; refine (HAP.out _ B4.out).mono ?_; rintro e w5 ⟨rfl, b5⟩; have B5 := Lib.hid (B4.out.trans (b5.mono B4.out.size)); clear b5))
            go_ret
            exact ⟨by first | rfl | (simp; done) | (simp; omega), B5.out⟩
          | false =>
            go_wp2_with (first | (go_at_call 12; refine (live_any _).mono ?_; rintro e w4 ⟨rfl, b4⟩; have B4 := Lib.hid (HBE.out.trans (b4.mono HBE.out.size)); clear b4) | (go_at_call 19; refine (HAP.out _ B4.out).mono ?_; rintro e w5 ⟨rfl, b5⟩; have B5 := Lib.hid (B4.out.trans (b5.mono B4.out.size)); clear b5))
            go_ret
            exact ⟨by first | rfl | (simp; done) | (simp; omega), B5.out⟩
        | false =>
          have hi : i < 0 := by simpa using hxx
          clear hxx
          cases al with
          | true =>
            go_wp2_with (first | (go_at_call 12; refine (live_any _).mono ?_; rintro e w4 ⟨rfl, b4⟩; have B4 := Lib.hid (HBE.out.trans (b4.mono HBE.out.size)); clear b4) | (go_at_call 19; refine (HAP.out _ B4.out).mono ?_; rintro e w5 ⟨rfl, b5⟩; have B5 := Lib.hid (B4.out.trans (b5.mono B4.out.size)); clear b5))
            go_ret
            exact ⟨by first | rfl | (simp; done) | (simp; omega), B5.out⟩
          | false =>
            go_wp2_with (first | (go_at_call 12; refine (live_any _).mono ?_; rintro e w4 ⟨rfl, b4⟩; have B4 := Lib.hid (HBE.out.trans (b4.mono HBE.out.size)); clear b4) | (go_at_call 19; refine (HAP.out _ B4.out).mono ?_; rintro e w5 ⟨rfl, b5⟩; have B5 := Lib.hid (B4.out.trans (b5.mono B4.out.size)); clear b5))
            go_ret
            exact ⟨by first | rfl | (simp; done) | (simp; omega), B5.out⟩
end Go.Proofs.Ytgineifljofljaa
