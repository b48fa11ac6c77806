import Derived.Test.YtecpplaobbkemaaZ08
import Derived.Test.YtecpplaobbkemaaZ02
import Derived.Test.YtecpplaobbkemaaZ01
import Derived.ShutString
import Derived.ChangeOld
import Derived.Lib.SmallJoins
set_option linter.all false
/- The laws of tables and of steps, walked. -/
namespace Go.Proofs.Ytecpplaobbkemaa
open Go.RowKit Go.Lib Go.Sort
set_option linter.unusedVariables false

/-- Why slots make no table; 0: they do. -/
def tabE (f : Int) (n : Nat) (d : Nat → W3) : Int := if rightB f then newE f d n else 2
theorem tabE_zero {f : Int} {n : Nat} {d : Nat → W3} : tabE f n d = 0 ↔ rightB f = true ∧ newE f d n = 0 := by
  unfold tabE
  cases rightB f <;> simp
/-- A table as1 New makes it. -/
def Tb17 (W : World) (b : Nat) (f : Int) (n : Nat) (d : Nat → W3) : Prop := ∃ A c d', TbS W b f A n c d' ∧ GoodS f n d' ∧ ((List.range n).map d').Perm ((List.range n).map d) ∧ ∀ i j, i < j → j < n → (d' i).2.1 ≤ (d' j).2.1
theorem Tb17.grown {w w' : World} {b : Nat} {f : Int} {n : Nat} {d : Nat → W3} (h : Tb17 w b f n d) (g : w.grownBy w' none) : Tb17 w' b f n d := by
  obtain ⟨A, c, d', h1, h2⟩ := h
  exact ⟨A, c, d', h1.grown g, h2⟩
theorem new_yes (f : Int) (A : Option Addr) (n cap : Nat) (d : Nat → W3) (w : World) (hst : Row3 w A n d) (hm : n ≤ 1000) (hE : tabE f n d = 0) : Calls Try.prog 8 #[.int .i64 f, .slice A n cap] w fun e w' => ∃ b, e = .returned (.tuple #[.pointer (some ⟨b, 0, none⟩), .int .i64 0]) ∧ Tb17 w' b f n d ∧ Below w.heap.size w w' := by
  have hz := tabE_zero.1 hE
  refine (snew_any f A n cap d w hst hm).mono fun e w' hv => ?_
  obtain ⟨b, A', c', d', he, hp, hpm, hso⟩ := hv.1 hz
  exact ⟨b, he, ⟨A', c', d', hp.tbs, good_perm (good_of hz.2) hpm, hpm, hso⟩, hp.bl⟩
theorem new_no (f : Int) (A : Option Addr) (n cap : Nat) (d : Nat → W3) (w : World) (hst : Row3 w A n d) (hm : n ≤ 1000) (hE : tabE f n d ≠ 0) : Calls Try.prog 8 #[.int .i64 f, .slice A n cap] w fun e w' => e = .returned (.tuple #[.pointer none, .int .i64 (tabE f n d)]) ∧ Below w.heap.size w w' :=
  (snew_any f A n cap d w hst hm).mono fun e w' hv => hv.2 (fun k => hE (tabE_zero.2 k))
theorem rch17 (f : Int) (A : Option Addr) (n cap : Nat) (d : Nat → W3) (w : World) (hst : Row3 w A n d) (hm : n ≤ 10000) : Calls Try.prog 9 #[.int .i64 f, .slice A n cap] w fun e w' => e = .returned (.int .i64 (tabE f n d)) ∧ w.grownBy w' none := rcheck17_any f A n cap d w hst hm
theorem row_below {w w' : World} {A : Option Addr} {n : Nat} {d : Nat → W3} (h : Row3 w A n d) (b : Below w.heap.size w w') : Row3 w' A n d := h.grown (only_far b)
set_option maxRecDepth 20000 in
set_option maxHeartbeats 1600000 in
theorem slottables_walk (f : Int) (A : Option Addr) (len cap : Nat) (d : Nat → W3) (w : World) (hf : fitI f) (hst : Row3 w A len d) (hfit : ∀ i, i < len → FitW3 (d i)) (hlc : len ≤ cap) (hcm : cap ≤ 9223372036854775807) : Calls Try.prog 3 #[.int .i64 f, .slice A len cap] w fun e w' => e = .returned (.bool true) ∧ Below w.heap.size w w' := by
  have HL := Lib.hid (fun W => live17_any W)
  obtain ⟨n, hn⟩ : ∃ n, n = min len 32 := ⟨_, rfl⟩
  have hn32 : n ≤ 32 := by omega
  have hr : Row3 w A n d := hst.cut n (by omega)
  have HR := Lib.hid hr
  have HC := Lib.hid (fun W (k : Row3 W A n d) => rch17 f A n cap d W k (by omega))
  have HNO := Lib.hid (fun (h : tabE f n d ≠ 0) => new_no f A n cap d w hr (by omega) h)
  have HYES := Lib.hid (fun (h : tabE f n d = 0) => new_yes f A n cap d w hr (by omega) h)
  clear hst hfit hr
  generalize tabE f n d = E at HC HNO HYES
  by_cases hE : E = 0
  · subst hE
    have HY := Lib.hid (HYES.out rfl)
    clear HYES HNO
    rcases Nat.lt_or_ge 32 len with h32 | h32
    · obtain rfl : n = 32 := by omega
      have hmin : min (len : Int) 32 = 32 := by omega
      clear hn hn32
      go_enter Try.func3, Try.ntmps3
      go_wp2_with (first
        | (go_at_call 8; (with_reducible refine HY.out.mono ?_); rintro e w2 ⟨b, rfl, _, b2⟩; have B2 := Lib.hid b2; have R2 := Lib.hid (row_below HR.out b2); clear b2)
        | (go_at_call 9; (with_reducible refine (HC.out _ R2.out).mono ?_); rintro e w3 ⟨rfl, g3⟩; have B3 := Lib.hid (B2.out.trans (below_of_only g3 B2.out.size (by simp))); clear g3)
        | (go_at_call 10; (with_reducible refine (HL.out _).mono ?_); rintro e w4 ⟨rfl, b4⟩; have B4 := Lib.hid (B3.out.trans (b4.mono B3.out.size)); clear b4))
      go_ret
      exact ⟨by first | rfl | simp, B4.out⟩

    · obtain rfl : n = len := by omega
      have hmin : min (n : Int) 32 = (n : Int) := by omega
      clear hn hn32
      go_enter Try.func3, Try.ntmps3
      go_wp2_with (first
        | (go_at_call 8; (with_reducible refine HY.out.mono ?_); rintro e w2 ⟨b, rfl, _, b2⟩; have B2 := Lib.hid b2; have R2 := Lib.hid (row_below HR.out b2); clear b2)
        | (go_at_call 9; (with_reducible refine (HC.out _ R2.out).mono ?_); rintro e w3 ⟨rfl, g3⟩; have B3 := Lib.hid (B2.out.trans (below_of_only g3 B2.out.size (by simp))); clear g3)
        | (go_at_call 10; (with_reducible refine (HL.out _).mono ?_); rintro e w4 ⟨rfl, b4⟩; have B4 := Lib.hid (B3.out.trans (b4.mono B3.out.size)); clear b4))
      go_ret
      exact ⟨by first | rfl | simp, B4.out⟩

  · have hne : (E == 0) = false := by simpa using hE
    have hne2 : (E != 0) = true := by simpa using hE
    have HY := Lib.hid (HNO.out hE)
    clear HYES HNO
    rcases Nat.lt_or_ge 32 len with h32 | h32
    · obtain rfl : n = 32 := by omega
      have hmin : min (len : Int) 32 = 32 := by omega
      clear hn hn32
      go_enter Try.func3, Try.ntmps3
      go_wp2_with (first
        | (go_at_call 8; (with_reducible refine HY.out.mono ?_); rintro e w2 ⟨rfl, b2⟩; have B2 := Lib.hid b2; have R2 := Lib.hid (row_below HR.out b2); clear b2)
        | (go_at_call 9; (with_reducible refine (HC.out _ R2.out).mono ?_); rintro e w3 ⟨rfl, g3⟩; have B3 := Lib.hid (B2.out.trans (below_of_only g3 B2.out.size (by simp))); clear g3)
        | (go_at_call 10; (with_reducible refine (HL.out _).mono ?_); rintro e w4 ⟨rfl, b4⟩; have B4 := Lib.hid (B3.out.trans (b4.mono B3.out.size)); clear b4))
      go_ret
      exact ⟨by first | rfl | simp, B4.out⟩

    · obtain rfl : n = len := by omega
      have hmin : min (n : Int) 32 = (n : Int) := by omega
      clear hn hn32
      go_enter Try.func3, Try.ntmps3
      go_wp2_with (first
        | (go_at_call 8; (with_reducible refine HY.out.mono ?_); rintro e w2 ⟨rfl, b2⟩; have B2 := Lib.hid b2; have R2 := Lib.hid (row_below HR.out b2); clear b2)
        | (go_at_call 9; (with_reducible refine (HC.out _ R2.out).mono ?_); rintro e w3 ⟨rfl, g3⟩; have B3 := Lib.hid (B2.out.trans (below_of_only g3 B2.out.size (by simp))); clear g3)
        | (go_at_call 10; (with_reducible refine (HL.out _).mono ?_); rintro e w4 ⟨rfl, b4⟩; have B4 := Lib.hid (B3.out.trans (b4.mono B3.out.size)); clear b4))
      go_ret
      exact ⟨by first | rfl | simp, B4.out⟩

/-- What 'made' answers. -/
def MdV (f : Int) (A : Option Addr) (n cap : Nat) (d : Nat → W3) (w : World) (e : Ending) (w' : World) : Prop :=
  Below w.heap.size w w' ∧ ((f ≤ 200 ∧ tabE f n d = 0 ∧ ∃ b, e = .returned (.tuple #[.pointer (some ⟨b, 0, none⟩), .slice A n cap]) ∧ Tb17 w' b f n d) ∨ (¬ (f ≤ 200 ∧ tabE f n d = 0) ∧ e = .returned (.tuple #[.pointer none, .slice A n cap])))
set_option maxRecDepth 20000 in
set_option maxHeartbeats 1600000 in
theorem made17_any (f : Int) (A : Option Addr) (len cap : Nat) (d : Nat → W3) (w : World) (hst : Row3 w A len d) (hlc : len ≤ cap) (hcm : cap ≤ 9223372036854775807) (n : Nat) (hn : n = min len 32) : Calls Try.prog 11 #[.int .i64 f, .slice A len cap] w (MdV f A n cap d w) := by
  have hn32 : n ≤ 32 := by omega
  have hr : Row3 w A n d := hst.cut n (by omega)
  have HR := Lib.hid hr
  have HC := Lib.hid (fun W (k : Row3 W A n d) => rch17 f A n cap d W k (by omega))
  have HYES := Lib.hid (fun (h : tabE f n d = 0) W (k : Row3 W A n d) => new_yes f A n cap d W k (by omega) h)
  have HV1 := Lib.hid (fun (h1 : f ≤ 200) (h2 : tabE f n d = 0) (b : Nat) (w' : World) (hb : Below w.heap.size w w') (t : Tb17 w' b f n d) => (show MdV f A n cap d w (.returned (.tuple #[.pointer (some ⟨b, 0, none⟩), .slice A n cap])) w' from ⟨hb, .inl ⟨h1, h2, b, rfl, t⟩⟩))
  have HV2 := Lib.hid (fun (h : ¬ (f ≤ 200 ∧ tabE f n d = 0)) (w' : World) (hb : Below w.heap.size w w') => (show MdV f A n cap d w (.returned (.tuple #[.pointer none, .slice A n cap])) w' from ⟨hb, .inr ⟨h, rfl⟩⟩))
  clear hst hr
  generalize tabE f n d = E at HC HYES HV1 HV2
  by_cases h200 : 200 < f
  · have HV := Lib.hid (HV2.out (by omega))
    clear HV1 HV2 HYES
    rcases Nat.lt_or_ge 32 len with h32 | h32
    · obtain rfl : n = 32 := by omega
      have hmin : min (len : Int) 32 = 32 := by omega
      clear hn hn32
      go_enter Try.func11, Try.ntmps11
      go_wp2
      go_ret2
      exact HV.out _ (Below.refl _ _)

    · obtain rfl : n = len := by omega
      have hmin : min (n : Int) 32 = (n : Int) := by omega
      clear hn hn32
      go_enter Try.func11, Try.ntmps11
      go_wp2
      go_ret2
      exact HV.out _ (Below.refl _ _)

  by_cases hE : E = 0
  · subst hE
    have HY := Lib.hid (HYES.out rfl)
    have HV := Lib.hid (HV1.out (by omega) rfl)
    clear HV1 HV2 HYES
    rcases Nat.lt_or_ge 32 len with h32 | h32
    · obtain rfl : n = 32 := by omega
      have hmin : min (len : Int) 32 = 32 := by omega
      clear hn hn32
      go_enter Try.func11, Try.ntmps11
      go_wp2_with (first
        | (go_at_call 9; (with_reducible refine (HC.out _ HR.out).mono ?_); rintro e w3 ⟨rfl, g3⟩; have B3 := Lib.hid g3; have R3 := Lib.hid (HR.out.grown g3); clear g3)
        | (go_at_call 8; (with_reducible refine (HY.out _ R3.out).mono ?_); rintro e w2 ⟨b, rfl, hb, b2⟩; have TB := Lib.hid hb; have B2 := Lib.hid ((below_of_only B3.out (Nat.le_refl _) (by simp)).trans (b2.mono B3.out.size)); clear b2 hb))
      go_ret2
      exact HV.out b _ B2.out TB.out

    · obtain rfl : n = len := by omega
      have hmin : min (n : Int) 32 = (n : Int) := by omega
      clear hn hn32
      go_enter Try.func11, Try.ntmps11
      go_wp2_with (first
        | (go_at_call 9; (with_reducible refine (HC.out _ HR.out).mono ?_); rintro e w3 ⟨rfl, g3⟩; have B3 := Lib.hid g3; have R3 := Lib.hid (HR.out.grown g3); clear g3)
        | (go_at_call 8; (with_reducible refine (HY.out _ R3.out).mono ?_); rintro e w2 ⟨b, rfl, hb, b2⟩; have TB := Lib.hid hb; have B2 := Lib.hid ((below_of_only B3.out (Nat.le_refl _) (by simp)).trans (b2.mono B3.out.size)); clear b2 hb))
      go_ret2
      exact HV.out b _ B2.out TB.out

  · have hne : (E == 0) = false := by simpa using hE
    have hne2 : (E != 0) = true := by simpa using hE
    have HV := Lib.hid (HV2.out (by omega))
    clear HV1 HV2 HYES
    rcases Nat.lt_or_ge 32 len with h32 | h32
    · obtain rfl : n = 32 := by omega
      have hmin : min (len : Int) 32 = 32 := by omega
      clear hn hn32
      go_enter Try.func11, Try.ntmps11
      go_wp2_with (go_at_call 9; (with_reducible refine (HC.out _ HR.out).mono ?_); rintro e w3 ⟨rfl, g3⟩; have B3 := Lib.hid g3; clear g3)
      go_ret2
      exact HV.out _ (below_of_only B3.out (Nat.le_refl _) (by simp))

    · obtain rfl : n = len := by omega
      have hmin : min (n : Int) 32 = (n : Int) := by omega
      clear hn hn32
      go_enter Try.func11, Try.ntmps11
      go_wp2_with (go_at_call 9; (with_reducible refine (HC.out _ HR.out).mono ?_); rintro e w3 ⟨rfl, g3⟩; have B3 := Lib.hid g3; clear g3)
      go_ret2
      exact HV.out _ (below_of_only B3.out (Nat.le_refl _) (by simp))

end Go.Proofs.Ytecpplaobbkemaa

/- The law of steps, walked. -/
namespace Go.Proofs.Ytecpplaobbkemaa
open Go.RowKit Go.Lib Go.Sort
set_option linter.unusedVariables false

theorem tb_at {W : World} {b : Nat} {f : Int} {n : Nat} {d : Nat → W3} (h : Tb17 W b f n d) (hr : rightB f = true) (hg : GoodS f n d) (hn : n ≤ 1000) (t : Int) (ht : t ≤ 9223372036854775807) (r : W3) (he : stepV f n d t = r) : Calls Try.prog 12 #[.pointer (some ⟨b, 0, none⟩), .int .i64 t] W fun e w' => e = .returned (.agg #[.int .i64 r.1, .int .i64 r.2.1, .int .i64 r.2.2]) ∧ W.grownBy w' none := by
  obtain ⟨A, c, d', h1, h2, h3, _⟩ := h
  have := stat_any b f A n c d' t W h1 hr h2 hn ht
  rw [stepV_perm hg h3, he] at this
  exact this
theorem rat_eq {W : World} {A : Option Addr} {c : Nat} {f : Int} {n : Nat} {d : Nat → W3} (h : Row3 W A n d) (hr : rightB f = true) (hg : GoodS f n d) (hn : n ≤ 1000) (t : Int) (ht : t ≤ 9223372036854775807) (r : W3) (he : stepV f n d t = r) : Calls Try.prog 13 #[.int .i64 f, .slice A n c, .int .i64 t] W fun e w' => e = .returned (.agg #[.int .i64 r.1, .int .i64 r.2.1, .int .i64 r.2.2]) ∧ W.grownBy w' none := by
  have := rat17_any f A n c d t W h hr hg hn ht
  rw [he] at this
  exact this
theorem step_more {f : Int} {n : Nat} {d : Nat → W3} {t : Int} (h : 0 ≤ t) (hf : 0 ≤ f) : stepV f n d (t + f) = stepV f n d t := by
  unfold stepV
  rw [show (t + f) % f = t % f by simp, if_neg (by omega), if_neg (show ¬ t < 0 by omega)]
set_option maxRecDepth 20000 in
set_option maxHeartbeats 3200000 in
attribute [-go_sem] Go.run_neq_struct in
theorem slotsteps_walk (f : Int) (A : Option Addr) (len cap : Nat) (d : Nat → W3) (tick : Int) (w : World) (hf : fitI f) (hst : Row3 w A len d) (hfit : ∀ i, i < len → FitW3 (d i)) (hlc : len ≤ cap) (hcm : cap ≤ 9223372036854775807) (ht : fitI tick) : Calls Try.prog 4 #[.int .i64 f, .slice A len cap, .int .i64 tick] w fun e w' => e = .returned (.bool true) ∧ Below w.heap.size w w' := by
  have HL := Lib.hid (fun W => live17_any W)
  obtain ⟨n, hn⟩ : ∃ n, n = min len 32 := ⟨_, rfl⟩
  have hn32 : n ≤ 32 := by omega
  have hr : Row3 w A n d := hst.cut n (by omega)
  have HM := Lib.hid (made17_any f A len cap d w hst hlc hcm n hn)
  have HR := Lib.hid hr
  have HC := Lib.hid (fun W (k : Row3 W A n d) => (show Calls Try.prog 9 #[.int .i64 f, .slice A n cap] W (fun e w' => e = .returned (.int .i64 (tabE f n d)) ∧ W.grownBy w' none) from rch17 f A n cap d W k (by omega)))
  by_cases hE : f ≤ 200 ∧ tabE f n d = 0
  case neg =>
    have HMN := Lib.hid (HM.out.mono fun e w' hv => (show (e = .returned (.tuple #[.pointer none, .slice A n cap]) ∧ Below w.heap.size w w') from ⟨by
      rcases hv.2 with ⟨a, b, _⟩ | ⟨_, a⟩
      · exact absurd ⟨a, b⟩ hE
      · exact a, hv.1⟩))
    have key : 200 < f ∨ (¬ 200 < f ∧ tabE f n d ≠ 0) := by
      by_cases h : 200 < f
      · exact .inl h
      · exact .inr ⟨h, fun k => hE ⟨by omega, k⟩⟩
    generalize tabE f n d = E at key HC
    clear hst hfit hr hE HM hn
    rcases key with k1 | ⟨k1, k2⟩
    · go_enter Try.func4, Try.ntmps4
      go_wp2_with (first
        | (go_at_call 11; (with_reducible refine HMN.out.mono ?_); rintro e w1 ⟨rfl, b1⟩; have B1 := Lib.hid b1; have R1 := Lib.hid (row_below HR.out b1); clear b1)
        | (go_at_call 10; (with_reducible refine (HL.out _).mono ?_); rintro e w2 ⟨rfl, b2⟩; have B2 := Lib.hid (B1.out.trans (b2.mono B1.out.size)); have R2 := Lib.hid (row_below R1.out b2); clear b2)
        | (go_at_call 9; (with_reducible refine (HC.out _ R2.out).mono ?_); rintro e w3 ⟨rfl, g3⟩; have B3 := Lib.hid (B2.out.trans (below_of_only g3 B2.out.size (by simp))); clear g3))
      go_ret
      exact ⟨rfl, B2.out⟩
    · have hne : (E == 0) = false := by simpa using k2
      have hne2 : (E != 0) = true := by simpa using k2
      go_enter Try.func4, Try.ntmps4
      go_wp2_with (first
        | (go_at_call 11; (with_reducible refine HMN.out.mono ?_); rintro e w1 ⟨rfl, b1⟩; have B1 := Lib.hid b1; have R1 := Lib.hid (row_below HR.out b1); clear b1)
        | (go_at_call 10; (with_reducible refine (HL.out _).mono ?_); rintro e w2 ⟨rfl, b2⟩; have B2 := Lib.hid (B1.out.trans (b2.mono B1.out.size)); have R2 := Lib.hid (row_below R1.out b2); clear b2)
        | (go_at_call 9; (with_reducible refine (HC.out _ R2.out).mono ?_); rintro e w3 ⟨rfl, g3⟩; have B3 := Lib.hid (B2.out.trans (below_of_only g3 B2.out.size (by simp))); clear g3))
      go_ret
      exact ⟨by first | rfl | simp, B3.out⟩
  obtain ⟨h200, hz⟩ := hE
  have HMY := Lib.hid (HM.out.mono fun e w' hv => (show (∃ b, e = .returned (.tuple #[.pointer (some ⟨b, 0, none⟩), .slice A n cap]) ∧ Tb17 w' b f n d ∧ Below w.heap.size w w') from by
    rcases hv.2 with ⟨_, _, b, e1, e2⟩ | ⟨a, _⟩
    · exact ⟨b, e1, e2, hv.1⟩
    · exact absurd ⟨h200, hz⟩ a))
  obtain ⟨hrb, hnz⟩ := tabE_zero.1 hz
  have hg := good_of hnz
  obtain ⟨f1, f2⟩ := (rightB_iff f).1 hrb
  obtain ⟨F, rfl⟩ : ∃ F : Nat, f = (F : Int) := ⟨f.toNat, by omega⟩
  have ht2 := ht.2
  have HAT := Lib.hid (fun (W : World) (b : Nat) (h : Tb17 W b F n d) (t : Int) (h2 : t ≤ 9223372036854775807) (r : W3) (he : stepV F n d t = r) => tb_at h hrb hg (by omega) t h2 r he)
  have HRT := Lib.hid (fun (W : World) (h : Row3 W A n d) (t : Int) (h2 : t ≤ 9223372036854775807) (r : W3) (he : stepV F n d t = r) => rat_eq (c := cap) h hrb hg (by omega) t h2 r he)
  clear hst hfit hr HM HC hn hz hnz hrb hg hf
  go_enter Try.func4, Try.ntmps4
  go_wp2_with (go_at_call 11; (with_reducible refine HMY.out.mono ?_); rintro e w1 ⟨b, rfl, tb1, b1⟩; have B1 := Lib.hid b1; have R1 := Lib.hid (row_below HR.out b1); have T1 := Lib.hid tb1; clear b1 tb1)
  go_loopw [8] (fun x wr => ∃ (k : Nat), x = .int .i64 k ∧ k ≤ F ∧ Hid (w1.grownBy wr none)) (fun x _ => F - (intOf x).toNat)
  case atStart => exact ⟨0, rfl, by omega, Lib.hid (only_refl _ _)⟩
  case round =>
    obtain ⟨k, rfl, hk, HG⟩ := hrel
    by_cases hkF : k < F
    · have i1 : (k : Int) < (F : Int) := by omega
      obtain ⟨r, hr⟩ : ∃ r, stepV F n d k = r := ⟨_, rfl⟩
      have H1 := Lib.hid (HAT.out wr b (T1.out.grown HG.out) k (by omega) r hr)
      have H2 := Lib.hid (fun W (g : wr.grownBy W none) => HRT.out W ((R1.out.grown HG.out).grown g) k (by omega) r hr)
      have H3 := Lib.hid (fun W (g : wr.grownBy W none) => HAT.out W b ((T1.out.grown HG.out).grown g) ((k : Int) + F) (by omega) r (by rw [step_more (by omega) (by omega)]; exact hr))
      clear hr
      obtain ⟨x0, x1, x2⟩ := r
      simp only at H1 H2 H3
      have hq := neq_step x0 x1 x2
      go_upto_region 8 with (first
        | (go_at_call 12; (with_reducible refine H1.out.mono ?_); rintro e w2 ⟨rfl, g2⟩; have G2 := Lib.hid g2; clear g2)
        | (go_at_call 13; (with_reducible refine (H2.out _ G2.out).mono ?_); rintro e w3 ⟨rfl, g3⟩; have G3 := Lib.hid (only_trans G2.out g3); clear g3))
      obtain ⟨w4, hw4, g4, hx, hy⟩ := box2 w3 33 #[.int .i64 x0, .int .i64 x1, .int .i64 x2] 35 #[.int .i64 x0, .int .i64 x1, .int .i64 x2]
      have G4 := Lib.hid (only_trans G3.out g4)
      rw [← hw4]
      clear hw4 g4
      have k1 := blk_re hx
      have k2 := blk_re hy
      have H4 := Lib.hid (fun dd os => (show Calls Try.prog 12 #[.pointer (some ⟨b, 0, none⟩), .int .i64 ((k : Int) + F)] (grow (redrawn w4 dd) os) (fun e w' => e = .returned (.agg #[.int .i64 x0, .int .i64 x1, .int .i64 x2]) ∧ (grow (redrawn w4 dd) os).grownBy w' none) from H3.out _ (only_trans G4.out (only_re w4 dd os))))
      have u1 : IntKind.i64.wrap ((k : Int) + (F : Int)) = (k : Int) + F := by rw [IntKind.wrap_i64]; omega
      clear hx hy
      refine wp_region_quiet_below (by kernel_rfl) (by kernel_rfl) ?_
      repeat (go_big_quiet_step ((first | (go_at_call 12; with_reducible exact rg1 (H4.out _ _)))))
      refine wpQuiet_nil ?_
      intro w5 hw5
      obtain ⟨p, rfl⟩ := hw5
      have G5 := Lib.hid (only_trans G4.out (only_re w4 p.d p.os))
      clear k1 k2 H4
      generalize grow (redrawn w4 p.d) p.os = w5 at G5 ⊢
      go_wp2
      go_roundw
      case rel => exact ⟨k + 1, by go_num, by omega, Lib.hid (only_trans HG.out G5.out)⟩
      case measure => simp [intOf] <;> omega
    · have i1 : ¬ (k : Int) < (F : Int) := by omega
      obtain ⟨r, hr⟩ : ∃ r, stepV F n d tick = r := ⟨_, rfl⟩
      have H1 := Lib.hid (HAT.out wr b (T1.out.grown HG.out) tick ht2 r hr)
      have H2 := Lib.hid (fun W (g : wr.grownBy W none) => HRT.out W ((R1.out.grown HG.out).grown g) tick ht2 r hr)
      clear hr
      obtain ⟨x0, x1, x2⟩ := r
      simp only at H1 H2
      go_wp2_with (first
        | (go_at_call 12; (with_reducible refine H1.out.mono ?_); rintro e w2 ⟨rfl, g2⟩; have G2 := Lib.hid g2; clear g2)
        | (go_at_call 13; (with_reducible refine (H2.out _ G2.out).mono ?_); rintro e w3 ⟨rfl, g3⟩; have G3 := Lib.hid (only_trans G2.out g3); clear g3)
        | (go_at_call 10; (with_reducible refine (HL.out _).mono ?_); rintro e w5 ⟨rfl, b5⟩; obtain ⟨w4, hw4, g4, hx, hy⟩ := box2 w3 33 #[.int .i64 x0, .int .i64 x1, .int .i64 x2] 35 #[.int .i64 x0, .int .i64 x1, .int .i64 x2]; rw [← hw4] at b5; have hx5 := hx.below b5 hx.lt; have hy5 := hy.below b5 hy.lt; have e0 := hx5.cell 0; have e1 := hx5.cell 1; have e2 := hx5.cell 2; have f0 := hy5.cell 0; have f1 := hy5.cell 1; have f2 := hy5.cell 2; simp at e0 e1 e2 f0 f1 f2; have B5 := Lib.hid ((below_of_only (only_trans (only_trans HG.out G3.out) g4) (Nat.le_refl _) (by simp)).trans (b5.mono (by have := HG.out.size; have := G3.out.size; have := g4.size; omega))); clear b5 hw4 g4 hx hy hx5 hy5))
      go_ret
      exact ⟨rfl, B1.out.trans (B5.out.mono B1.out.size)⟩
end Go.Proofs.Ytecpplaobbkemaa

/- How a machine's tables that came in by value are opened. -/
namespace Go.Proofs.Ytecpplaobbkemaa
open Go.RowKit Go.Lib Go.ChangeShapes Go.WideShapes Go.ChangeAt Go.Deep
set_option linter.unusedVariables false

theorem open_slots {H : Type} {enc : TypeId × Value → H} {w : World} {base : Nat} {spare : Nat → Bool} {held : Bool} {A : Option Addr} {len cap fuel : Nat} {x : DataW H × List MemPlace}
    (h : DataW.trod enc Try.prog w base spare held fuel 22 [.slice A len cap] = some x) : len ≤ cap ∧ cap ≤ 9223372036854775807 ∧ ∃ d, Row3 w A len d ∧ ∀ i, i < len → FitW3 (d i) := by
  obtain ⟨h1, h2, h3, h4⟩ := open_structs Try.underlying22 Try.underlying54 (by kernel_rfl) (by kernel_rfl) (by decide) h
  refine ⟨h1, by unfold maxLen at h2; omega, ?_⟩
  by_cases hp : 0 < len
  · obtain ⟨b, off, hA, hb, hc⟩ := h4 hp
    have hx : ∀ i, ∃ r : W3, i < len → (w.cell? ⟨b, off + i * 3, none⟩ = some (.int .i64 r.1) ∧ w.cell? ⟨b, off + i * 3 + 1, none⟩ = some (.int .i64 r.2.1) ∧ w.cell? ⟨b, off + i * 3 + 2, none⟩ = some (.int .i64 r.2.2)) ∧ FitW3 r := by
      intro i
      by_cases hi : i < len
      · obtain ⟨v0, n0, y0, c0, r0⟩ := hc i hi 0 _ rfl
        obtain ⟨v1, n1, y1, c1, r1⟩ := hc i hi 1 _ rfl
        obtain ⟨v2, n2, y2, c2, r2⟩ := hc i hi 2 _ rfl
        obtain ⟨p0, e0, _, w0⟩ := DataW.trod_int Try.underlying3 r0
        obtain ⟨p1, e1, _, w1⟩ := DataW.trod_int Try.underlying3 r1
        obtain ⟨p2, e2, _, w2⟩ := DataW.trod_int Try.underlying3 r2
        injection e0 with e0 _
        injection e1 with e1 _
        injection e2 with e2 _
        subst e0 e1 e2
        exact ⟨(p0, p1, p2), fun _ => ⟨⟨c0, c1, c2⟩, fitI_of w0, fitI_of w1, fitI_of w2⟩⟩
      · exact ⟨(0, 0, 0), fun h => absurd h hi⟩
    exact ⟨fun i => Classical.choose (hx i), ⟨fun h => (h3 h).1, fun _ => ⟨b, off, hA, hb, fun i hi => (Classical.choose_spec (hx i) hi).1⟩⟩, fun i hi => (Classical.choose_spec (hx i) hi).2⟩
  · exact ⟨fun _ => (0, 0, 0), ⟨fun h => (h3 h).1, fun h => absurd h hp⟩, fun i hi => absurd hi (by omega)⟩
/-- One field of a struct by value whose fields are one cell each. -/
theorem open_fieldc {H : Type} {enc : TypeId × Value → H} {P : Program} {w : World} {base : Nat} {spare : Nat → Bool} {held : Bool} {t : TypeId} {fs : Array Field} {fuel : Nat} {cs : List Value} {x : DataW H × List MemPlace}
    (hs : P.underlying t = some (.struct fs)) (hone : oneCellFields P fs = true) (h : DataW.trod enc P w base spare held fuel t cs = some x) {i : Nat} {f : Field} (hf : fs[i]? = some f) {c : Value} (hc : cs[i]? = some c) :
    ∃ n y, DataW.trod enc P w base spare held n f.type [c] = some y := by
  obtain ⟨xs, n, _, _, _, hlen, hfld⟩ := DataW.trod_struct hs h
  obtain ⟨o, k⟩ := hone_of hone i f hf
  have h1 := hfld i f hf
  have hi : i < fs.size := (Array.getElem?_eq_some_iff.1 hf).1
  have hcl : i < cs.length := (List.getElem?_eq_some_iff.1 hc).1
  have hce : cs[i] = c := (List.getElem?_eq_some_iff.1 hc).2
  rw [o, k, List.getElem?_eq_getElem (by omega), List.drop_eq_getElem_cons hcl, hce] at h1
  exact ⟨n, _, by simpa using h1⟩
theorem cutc4 {cs : Array Value} (h : cs.size = 4) : ∃ c0 c1 c2 c3, cs = #[c0, c1, c2, c3] := by
  obtain ⟨l⟩ := cs
  match l, h with
  | [c0, c1, c2, c3], _ => exact ⟨c0, c1, c2, c3, rfl⟩
theorem form_slice {H : Type} {enc : TypeId × Value → H} {P : Program} {w : World} {base : Nat} {spare : Nat → Bool} {held : Bool} {t e : TypeId} {fuel : Nat} {c : Value} {x : DataW H × List MemPlace}
    (ht : P.underlying t = some (.slice e)) (h : DataW.trod enc P w base spare held fuel t [c] = some x) : ∃ A n k, c = .slice A n k := by
  rcases open_slice ht h with ⟨hcs, _⟩ | ⟨a, l, k, m, n, D, Pl, hcs, _⟩
  · injection hcs with hcs _
    exact ⟨_, _, _, hcs⟩
  · injection hcs with hcs _
    exact ⟨_, _, _, hcs⟩
end Go.Proofs.Ytecpplaobbkemaa

/- SlotSteps: at each tick the bus is what the table says, the same in each frame, whatever the number of ticks, the slots and the tick. -/
namespace Go.Proofs.Ytecpplaobbkemaa
open Go.RowKit Go.Lib Go.ChangeShapes Go.WideShapes Go.ChangeAt Go.Deep Go.Joins
open Go.ChangeMaps (open_string shut_string)
set_option linter.unusedVariables false

theorem QSP_own : ownKnob Try.prog.godebug = none := by kernel_rfl
theorem QSP_laid : laidOutB Try.prog = true := by kernel_rfl
set_option maxRecDepth 100000 in
theorem QSP_lifted (os : Os) (started : os.Started) (H : Type) (enc : TypeId × Value → H) :
    ReturnsInHanded {} Try.checked os 4 .any (Rows.slotStepsSpec.pre6 enc Try.prog Try.f4 Rows.slotStepsRow.domain false) (Rows.slotStepsSpec.post enc Try.prog Try.f4 false true false false) := by
  refine returnsInHanded_of_change (C := Try.checked) QSP_own started (by kernel_rfl) Try.func4
    (ChangeSpec.witness6 (enc := enc) (C := Try.checked) false ⟨#[], #[.int .i64 0, .slice none 0 0, .int .i64 0], []⟩ 8 (by kernel_rfl) (by kernel_rfl) (by kernel_rfl) (by kernel_rfl)) ?_
  intro W base args ds gs before hval0 hW hcnd _
  have hval : ∀ (j : Nat) t v, Try.f4.params[j]? = some t → args[j]? = some v → Value.okWide Try.prog W .any base t v := hval0
  have hW' := hW
  obtain ⟨p, q, hA0, hV, rfl, hfz, hnd⟩ := hW
  have hA : DataW.TrodAll enc Try.prog W 0 (fun _ => true) true Try.f4.params.toList args.toList ds p := hA0
  rw [Try.params4] at hA hval
  obtain ⟨v0, vs0, d0, ds0, p0, q0, hargs, rfl, rfl, h0, r0⟩ := trodAll_cons hA
  obtain ⟨v1, vs1, d1, ds1, p1, q1, rfl, rfl, rfl, h1, r1⟩ := trodAll_cons r0
  obtain ⟨v2, vs2, d2, ds2, p2, q2, rfl, rfl, rfl, h2, r2⟩ := trodAll_cons r1
  obtain ⟨rfl, rfl, rfl⟩ := trodAll_nil r2
  obtain rfl : args = #[v0, v1, v2] := by cases args; simp_all
  obtain ⟨rfl, rfl⟩ := trodVars_none hV
  obtain ⟨a0, rfl, rfl, rfl, w0⟩ := open_int Try.underlying3 (hval 0 3 v0 rfl rfl) h0
  obtain ⟨A1, len1, cap1, rfl⟩ := okWide_slice Try.underlying22 (hval 1 22 v1 rfl rfl)
  have k1 := h1
  have lt1 : ∀ x ∈ p1, x.block < W.heap.size := by obtain ⟨m, hm⟩ := k1; exact DataW.trod_lt m _ _ _ hm
  obtain ⟨fuel1, hf1⟩ := h1
  obtain ⟨hlc1, hcm1, D1, hst1, hfit1⟩ := open_slots (by simpa [Value.cells] using hf1)
  obtain ⟨a2, rfl, rfl, rfl, w2⟩ := open_int Try.underlying3 (hval 2 3 v2 rfl rfl) h2
  clear hA0 hval0
  refine (slotsteps_walk a0 A1 len1 cap1 D1 a2 W (fitI_of w0) hst1 hfit1 hlc1 hcm1 (fitI_of w2)).mono fun e W' ⟨he, bel⟩ => ?_
  subst he
  exact ⟨_, rfl, _, _, _, [], _, [], hW', trodAll_mk1 (shut_bool Try.underlying4 _), (trodAll_cons_mk (shut_int Try.underlying3 w0) (trodAll_cons_mk (Below.trod QSP_laid (by kernel_rfl) (of_decide_eq_true (by kernel_rfl)) k1 bel lt1) (trodAll_cons_mk (shut_int Try.underlying3 w2) trodAll_mk0))), rfl, bel.frame _, fun h => by cases h⟩

theorem QSP_holds : Rows.SlotStepsSaid :=
  OpenClaim.holds_of_wide 4 Try.f4 rfl rfl rfl rfl rfl rfl rfl ⟨rfl, rfl, rfl, rfl, rfl⟩ rfl rfl rfl rfl rfl (by kernel_rfl) Try.func4 (by kernel_rfl)
    (of_decide_eq_true (by kernel_rfl)) (by unfold Func.isWrapper; first | (rw [if_pos (by decide +kernel)]; kernel_rfl) | (rw [if_neg (by decide +kernel)]; exact ⟨rfl, rfl⟩))
    (fun os started H enc _ => QSP_lifted os started H enc)
#print axioms QSP_holds
end Go.Proofs.Ytecpplaobbkemaa
