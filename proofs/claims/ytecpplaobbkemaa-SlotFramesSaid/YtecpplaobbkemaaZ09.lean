import Derived.Test.YtecpplaobbkemaaZ08
import Derived.Test.YtecpplaobbkemaaZ02
import Derived.Test.YtecpplaobbkemaaZ01
set_option linter.all false
/- The laws of tables and of steps, walked. -/
namespace Go.Proofs.Ytecpplaobbkemaa
open Go.RowKit Go.Lib Go.Sort
set_option linter.unusedVariables false

/-- Why slots make no table; 0: they do. -/
def tabE (f : Int) (n : Nat) (d : Nat → W3) : Int := if rightB f then newE f d n else 2
theorem tabE_zero {f : Int} {n : Nat} {d : Nat → W3} : tabE f n d = 0 ↔ rightB f = true ∧ newE f d n = 0 := by
  unfold tabE
  cases rightB f <;> simp
/-- A table as1 New makes it. -/
def Tb17 (W : World) (b : Nat) (f : Int) (n : Nat) (d : Nat → W3) : Prop := ∃ A c d', TbS W b f A n c d' ∧ GoodS f n d' ∧ ((List.range n).map d').Perm ((List.range n).map d) ∧ ∀ i j, i < j → j < n → (d' i).2.1 ≤ (d' j).2.1
theorem Tb17.grown {w w' : World} {b : Nat} {f : Int} {n : Nat} {d : Nat → W3} (h : Tb17 w b f n d) (g : w.grownBy w' none) : Tb17 w' b f n d := by
  obtain ⟨A, c, d', h1, h2⟩ := h
  exact ⟨A, c, d', h1.grown g, h2⟩
theorem new_yes (f : Int) (A : Option Addr) (n cap : Nat) (d : Nat → W3) (w : World) (hst : Row3 w A n d) (hm : n ≤ 1000) (hE : tabE f n d = 0) : Calls Try.prog 8 #[.int .i64 f, .slice A n cap] w fun e w' => ∃ b, e = .returned (.tuple #[.pointer (some ⟨b, 0, none⟩), .int .i64 0]) ∧ Tb17 w' b f n d ∧ Below w.heap.size w w' := by
  have hz := tabE_zero.1 hE
  refine (snew_any f A n cap d w hst hm).mono fun e w' hv => ?_
  obtain ⟨b, A', c', d', he, hp, hpm, hso⟩ := hv.1 hz
  exact ⟨b, he, ⟨A', c', d', hp.tbs, good_perm (good_of hz.2) hpm, hpm, hso⟩, hp.bl⟩
theorem new_no (f : Int) (A : Option Addr) (n cap : Nat) (d : Nat → W3) (w : World) (hst : Row3 w A n d) (hm : n ≤ 1000) (hE : tabE f n d ≠ 0) : Calls Try.prog 8 #[.int .i64 f, .slice A n cap] w fun e w' => e = .returned (.tuple #[.pointer none, .int .i64 (tabE f n d)]) ∧ Below w.heap.size w w' :=
  (snew_any f A n cap d w hst hm).mono fun e w' hv => hv.2 (fun k => hE (tabE_zero.2 k))
theorem rch17 (f : Int) (A : Option Addr) (n cap : Nat) (d : Nat → W3) (w : World) (hst : Row3 w A n d) (hm : n ≤ 10000) : Calls Try.prog 9 #[.int .i64 f, .slice A n cap] w fun e w' => e = .returned (.int .i64 (tabE f n d)) ∧ w.grownBy w' none := rcheck17_any f A n cap d w hst hm
theorem row_below {w w' : World} {A : Option Addr} {n : Nat} {d : Nat → W3} (h : Row3 w A n d) (b : Below w.heap.size w w') : Row3 w' A n d := h.grown (only_far b)
set_option maxRecDepth 20000 in
set_option maxHeartbeats 1600000 in
theorem slottables_walk (f : Int) (A : Option Addr) (len cap : Nat) (d : Nat → W3) (w : World) (hf : fitI f) (hst : Row3 w A len d) (hfit : ∀ i, i < len → FitW3 (d i)) (hlc : len ≤ cap) (hcm : cap ≤ 9223372036854775807) : Calls Try.prog 3 #[.int .i64 f, .slice A len cap] w fun e w' => e = .returned (.bool true) ∧ Below w.heap.size w w' := by
  have HL := Lib.hid (fun W => live17_any W)
  obtain ⟨n, hn⟩ : ∃ n, n = min len 32 := ⟨_, rfl⟩
  have hn32 : n ≤ 32 := by omega
  have hr : Row3 w A n d := hst.cut n (by omega)
  have HR := Lib.hid hr
  have HC := Lib.hid (fun W (k : Row3 W A n d) => rch17 f A n cap d W k (by omega))
  have HNO := Lib.hid (fun (h : tabE f n d ≠ 0) => new_no f A n cap d w hr (by omega) h)
  have HYES := Lib.hid (fun (h : tabE f n d = 0) => new_yes f A n cap d w hr (by omega) h)
  clear hst hfit hr
  generalize tabE f n d = E at HC HNO HYES
  by_cases hE : E = 0
  · subst hE
    have HY := Lib.hid (HYES.out rfl)
    clear HYES HNO
    rcases Nat.lt_or_ge 32 len with h32 | h32
    · obtain rfl : n = 32 := by omega
      have hmin : min (len : Int) 32 = 32 := by omega
      clear hn hn32
      go_enter Try.func3, Try.ntmps3
      go_wp2_with (first
        | (go_at_call 8; (with_reducible refine HY.out.mono ?_); rintro e w2 ⟨b, rfl, _, b2⟩; have B2 := Lib.hid b2; have R2 := Lib.hid (row_below HR.out b2); clear b2)
        | (go_at_call 9; (with_reducible refine (HC.out _ R2.out).mono ?_); rintro e w3 ⟨rfl, g3⟩; have B3 := Lib.hid (B2.out.trans (below_of_only g3 B2.out.size (by simp))); clear g3)
        | (go_at_call 10; (with_reducible refine (HL.out _).mono ?_); rintro e w4 ⟨rfl, b4⟩; have B4 := Lib.hid (B3.out.trans (b4.mono B3.out.size)); clear b4))
      go_ret
      exact ⟨by first | rfl | simp, B4.out⟩

    · obtain rfl : n = len := by omega
      have hmin : min (n : Int) 32 = (n : Int) := by omega
      clear hn hn32
      go_enter Try.func3, Try.ntmps3
      go_wp2_with (first
        | (go_at_call 8; (with_reducible refine HY.out.mono ?_); rintro e w2 ⟨b, rfl, _, b2⟩; have B2 := Lib.hid b2; have R2 := Lib.hid (row_below HR.out b2); clear b2)
        | (go_at_call 9; (with_reducible refine (HC.out _ R2.out).mono ?_); rintro e w3 ⟨rfl, g3⟩; have B3 := Lib.hid (B2.out.trans (below_of_only g3 B2.out.size (by simp))); clear g3)
        | (go_at_call 10; (with_reducible refine (HL.out _).mono ?_); rintro e w4 ⟨rfl, b4⟩; have B4 := Lib.hid (B3.out.trans (b4.mono B3.out.size)); clear b4))
      go_ret
      exact ⟨by first | rfl | simp, B4.out⟩

  · have hne : (E == 0) = false := by simpa using hE
    have hne2 : (E != 0) = true := by simpa using hE
    have HY := Lib.hid (HNO.out hE)
    clear HYES HNO
    rcases Nat.lt_or_ge 32 len with h32 | h32
    · obtain rfl : n = 32 := by omega
      have hmin : min (len : Int) 32 = 32 := by omega
      clear hn hn32
      go_enter Try.func3, Try.ntmps3
      go_wp2_with (first
        | (go_at_call 8; (with_reducible refine HY.out.mono ?_); rintro e w2 ⟨rfl, b2⟩; have B2 := Lib.hid b2; have R2 := Lib.hid (row_below HR.out b2); clear b2)
        | (go_at_call 9; (with_reducible refine (HC.out _ R2.out).mono ?_); rintro e w3 ⟨rfl, g3⟩; have B3 := Lib.hid (B2.out.trans (below_of_only g3 B2.out.size (by simp))); clear g3)
        | (go_at_call 10; (with_reducible refine (HL.out _).mono ?_); rintro e w4 ⟨rfl, b4⟩; have B4 := Lib.hid (B3.out.trans (b4.mono B3.out.size)); clear b4))
      go_ret
      exact ⟨by first | rfl | simp, B4.out⟩

    · obtain rfl : n = len := by omega
      have hmin : min (n : Int) 32 = (n : Int) := by omega
      clear hn hn32
      go_enter Try.func3, Try.ntmps3
      go_wp2_with (first
        | (go_at_call 8; (with_reducible refine HY.out.mono ?_); rintro e w2 ⟨rfl, b2⟩; have B2 := Lib.hid b2; have R2 := Lib.hid (row_below HR.out b2); clear b2)
        | (go_at_call 9; (with_reducible refine (HC.out _ R2.out).mono ?_); rintro e w3 ⟨rfl, g3⟩; have B3 := Lib.hid (B2.out.trans (below_of_only g3 B2.out.size (by simp))); clear g3)
        | (go_at_call 10; (with_reducible refine (HL.out _).mono ?_); rintro e w4 ⟨rfl, b4⟩; have B4 := Lib.hid (B3.out.trans (b4.mono B3.out.size)); clear b4))
      go_ret
      exact ⟨by first | rfl | simp, B4.out⟩

/-- What 'made' answers. -/
def MdV (f : Int) (A : Option Addr) (n cap : Nat) (d : Nat → W3) (w : World) (e : Ending) (w' : World) : Prop :=
  Below w.heap.size w w' ∧ ((f ≤ 200 ∧ tabE f n d = 0 ∧ ∃ b, e = .returned (.tuple #[.pointer (some ⟨b, 0, none⟩), .slice A n cap]) ∧ Tb17 w' b f n d) ∨ (¬ (f ≤ 200 ∧ tabE f n d = 0) ∧ e = .returned (.tuple #[.pointer none, .slice A n cap])))
set_option maxRecDepth 20000 in
set_option maxHeartbeats 1600000 in
theorem made17_any (f : Int) (A : Option Addr) (len cap : Nat) (d : Nat → W3) (w : World) (hst : Row3 w A len d) (hlc : len ≤ cap) (hcm : cap ≤ 9223372036854775807) (n : Nat) (hn : n = min len 32) : Calls Try.prog 11 #[.int .i64 f, .slice A len cap] w (MdV f A n cap d w) := by
  have hn32 : n ≤ 32 := by omega
  have hr : Row3 w A n d := hst.cut n (by omega)
  have HR := Lib.hid hr
  have HC := Lib.hid (fun W (k : Row3 W A n d) => rch17 f A n cap d W k (by omega))
  have HYES := Lib.hid (fun (h : tabE f n d = 0) W (k : Row3 W A n d) => new_yes f A n cap d W k (by omega) h)
  have HV1 := Lib.hid (fun (h1 : f ≤ 200) (h2 : tabE f n d = 0) (b : Nat) (w' : World) (hb : Below w.heap.size w w') (t : Tb17 w' b f n d) => (show MdV f A n cap d w (.returned (.tuple #[.pointer (some ⟨b, 0, none⟩), .slice A n cap])) w' from ⟨hb, .inl ⟨h1, h2, b, rfl, t⟩⟩))
  have HV2 := Lib.hid (fun (h : ¬ (f ≤ 200 ∧ tabE f n d = 0)) (w' : World) (hb : Below w.heap.size w w') => (show MdV f A n cap d w (.returned (.tuple #[.pointer none, .slice A n cap])) w' from ⟨hb, .inr ⟨h, rfl⟩⟩))
  clear hst hr
  generalize tabE f n d = E at HC HYES HV1 HV2
  by_cases h200 : 200 < f
  · have HV := Lib.hid (HV2.out (by omega))
    clear HV1 HV2 HYES
    rcases Nat.lt_or_ge 32 len with h32 | h32
    · obtain rfl : n = 32 := by omega
      have hmin : min (len : Int) 32 = 32 := by omega
      clear hn hn32
      go_enter Try.func11, Try.ntmps11
      go_wp2
      go_ret2
      exact HV.out _ (Below.refl _ _)

    · obtain rfl : n = len := by omega
      have hmin : min (n : Int) 32 = (n : Int) := by omega
      clear hn hn32
      go_enter Try.func11, Try.ntmps11
      go_wp2
      go_ret2
      exact HV.out _ (Below.refl _ _)

  by_cases hE : E = 0
  · subst hE
    have HY := Lib.hid (HYES.out rfl)
    have HV := Lib.hid (HV1.out (by omega) rfl)
    clear HV1 HV2 HYES
    rcases Nat.lt_or_ge 32 len with h32 | h32
    · obtain rfl : n = 32 := by omega
      have hmin : min (len : Int) 32 = 32 := by omega
      clear hn hn32
      go_enter Try.func11, Try.ntmps11
      go_wp2_with (first
        | (go_at_call 9; (with_reducible refine (HC.out _ HR.out).mono ?_); rintro e w3 ⟨rfl, g3⟩; have B3 := Lib.hid g3; have R3 := Lib.hid (HR.out.grown g3); clear g3)
        | (go_at_call 8; (with_reducible refine (HY.out _ R3.out).mono ?_); rintro e w2 ⟨b, rfl, hb, b2⟩; have TB := Lib.hid hb; have B2 := Lib.hid ((below_of_only B3.out (Nat.le_refl _) (by simp)).trans (b2.mono B3.out.size)); clear b2 hb))
      go_ret2
      exact HV.out b _ B2.out TB.out

    · obtain rfl : n = len := by omega
      have hmin : min (n : Int) 32 = (n : Int) := by omega
      clear hn hn32
      go_enter Try.func11, Try.ntmps11
      go_wp2_with (first
        | (go_at_call 9; (with_reducible refine (HC.out _ HR.out).mono ?_); rintro e w3 ⟨rfl, g3⟩; have B3 := Lib.hid g3; have R3 := Lib.hid (HR.out.grown g3); clear g3)
        | (go_at_call 8; (with_reducible refine (HY.out _ R3.out).mono ?_); rintro e w2 ⟨b, rfl, hb, b2⟩; have TB := Lib.hid hb; have B2 := Lib.hid ((below_of_only B3.out (Nat.le_refl _) (by simp)).trans (b2.mono B3.out.size)); clear b2 hb))
      go_ret2
      exact HV.out b _ B2.out TB.out

  · have hne : (E == 0) = false := by simpa using hE
    have hne2 : (E != 0) = true := by simpa using hE
    have HV := Lib.hid (HV2.out (by omega))
    clear HV1 HV2 HYES
    rcases Nat.lt_or_ge 32 len with h32 | h32
    · obtain rfl : n = 32 := by omega
      have hmin : min (len : Int) 32 = 32 := by omega
      clear hn hn32
      go_enter Try.func11, Try.ntmps11
      go_wp2_with (go_at_call 9; (with_reducible refine (HC.out _ HR.out).mono ?_); rintro e w3 ⟨rfl, g3⟩; have B3 := Lib.hid g3; clear g3)
      go_ret2
      exact HV.out _ (below_of_only B3.out (Nat.le_refl _) (by simp))

    · obtain rfl : n = len := by omega
      have hmin : min (n : Int) 32 = (n : Int) := by omega
      clear hn hn32
      go_enter Try.func11, Try.ntmps11
      go_wp2_with (go_at_call 9; (with_reducible refine (HC.out _ HR.out).mono ?_); rintro e w3 ⟨rfl, g3⟩; have B3 := Lib.hid g3; clear g3)
      go_ret2
      exact HV.out _ (below_of_only B3.out (Nat.le_refl _) (by simp))

end Go.Proofs.Ytecpplaobbkemaa

/- The law of steps, walked. -/
namespace Go.Proofs.Ytecpplaobbkemaa
open Go.RowKit Go.Lib Go.Sort
set_option linter.unusedVariables false

theorem tb_at {W : World} {b : Nat} {f : Int} {n : Nat} {d : Nat → W3} (h : Tb17 W b f n d) (hr : rightB f = true) (hg : GoodS f n d) (hn : n ≤ 1000) (t : Int) (ht : t ≤ 9223372036854775807) (r : W3) (he : stepV f n d t = r) : Calls Try.prog 12 #[.pointer (some ⟨b, 0, none⟩), .int .i64 t] W fun e w' => e = .returned (.agg #[.int .i64 r.1, .int .i64 r.2.1, .int .i64 r.2.2]) ∧ W.grownBy w' none := by
  obtain ⟨A, c, d', h1, h2, h3, _⟩ := h
  have := stat_any b f A n c d' t W h1 hr h2 hn ht
  rw [stepV_perm hg h3, he] at this
  exact this
theorem rat_eq {W : World} {A : Option Addr} {c : Nat} {f : Int} {n : Nat} {d : Nat → W3} (h : Row3 W A n d) (hr : rightB f = true) (hg : GoodS f n d) (hn : n ≤ 1000) (t : Int) (ht : t ≤ 9223372036854775807) (r : W3) (he : stepV f n d t = r) : Calls Try.prog 13 #[.int .i64 f, .slice A n c, .int .i64 t] W fun e w' => e = .returned (.agg #[.int .i64 r.1, .int .i64 r.2.1, .int .i64 r.2.2]) ∧ W.grownBy w' none := by
  have := rat17_any f A n c d t W h hr hg hn ht
  rw [he] at this
  exact this
theorem step_more {f : Int} {n : Nat} {d : Nat → W3} {t : Int} (h : 0 ≤ t) (hf : 0 ≤ f) : stepV f n d (t + f) = stepV f n d t := by
  unfold stepV
  rw [show (t + f) % f = t % f by simp, if_neg (by omega), if_neg (show ¬ t < 0 by omega)]
set_option maxRecDepth 20000 in
set_option maxHeartbeats 3200000 in
attribute [-go_sem] Go.run_neq_struct in
theorem slotsteps_walk (f : Int) (A : Option Addr) (len cap : Nat) (d : Nat → W3) (tick : Int) (w : World) (hf : fitI f) (hst : Row3 w A len d) (hfit : ∀ i, i < len → FitW3 (d i)) (hlc : len ≤ cap) (hcm : cap ≤ 9223372036854775807) (ht : fitI tick) : Calls Try.prog 4 #[.int .i64 f, .slice A len cap, .int .i64 tick] w fun e w' => e = .returned (.bool true) ∧ Below w.heap.size w w' := by
  have HL := Lib.hid (fun W => live17_any W)
  obtain ⟨n, hn⟩ : ∃ n, n = min len 32 := ⟨_, rfl⟩
  have hn32 : n ≤ 32 := by omega
  have hr : Row3 w A n d := hst.cut n (by omega)
  have HM := Lib.hid (made17_any f A len cap d w hst hlc hcm n hn)
  have HR := Lib.hid hr
  have HC := Lib.hid (fun W (k : Row3 W A n d) => (show Calls Try.prog 9 #[.int .i64 f, .slice A n cap] W (fun e w' => e = .returned (.int .i64 (tabE f n d)) ∧ W.grownBy w' none) from rch17 f A n cap d W k (by omega)))
  by_cases hE : f ≤ 200 ∧ tabE f n d = 0
  case neg =>
    have HMN := Lib.hid (HM.out.mono fun e w' hv => (show (e = .returned (.tuple #[.pointer none, .slice A n cap]) ∧ Below w.heap.size w w') from ⟨by
      rcases hv.2 with ⟨a, b, _⟩ | ⟨_, a⟩
      · exact absurd ⟨a, b⟩ hE
      · exact a, hv.1⟩))
    have key : 200 < f ∨ (¬ 200 < f ∧ tabE f n d ≠ 0) := by
      by_cases h : 200 < f
      · exact .inl h
      · exact .inr ⟨h, fun k => hE ⟨by omega, k⟩⟩
    generalize tabE f n d = E at key HC
    clear hst hfit hr hE HM hn
    rcases key with k1 | ⟨k1, k2⟩
    · go_enter Try.func4, Try.ntmps4
      go_wp2_with (first
        | (go_at_call 11; (with_reducible refine HMN.out.mono ?_); rintro e w1 ⟨rfl, b1⟩; have B1 := Lib.hid b1; have R1 := Lib.hid (row_below HR.out b1); clear b1)
        | (go_at_call 10; (with_reducible refine (HL.out _).mono ?_); rintro e w2 ⟨rfl, b2⟩; have B2 := Lib.hid (B1.out.trans (b2.mono B1.out.size)); have R2 := Lib.hid (row_below R1.out b2); clear b2)
        | (go_at_call 9; (with_reducible refine (HC.out _ R2.out).mono ?_); rintro e w3 ⟨rfl, g3⟩; have B3 := Lib.hid (B2.out.trans (below_of_only g3 B2.out.size (by simp))); clear g3))
      go_ret
      exact ⟨rfl, B2.out⟩
    · have hne : (E == 0) = false := by simpa using k2
      have hne2 : (E != 0) = true := by simpa using k2
      go_enter Try.func4, Try.ntmps4
      go_wp2_with (first
        | (go_at_call 11; (with_reducible refine HMN.out.mono ?_); rintro e w1 ⟨rfl, b1⟩; have B1 := Lib.hid b1; have R1 := Lib.hid (row_below HR.out b1); clear b1)
        | (go_at_call 10; (with_reducible refine (HL.out _).mono ?_); rintro e w2 ⟨rfl, b2⟩; have B2 := Lib.hid (B1.out.trans (b2.mono B1.out.size)); have R2 := Lib.hid (row_below R1.out b2); clear b2)
        | (go_at_call 9; (with_reducible refine (HC.out _ R2.out).mono ?_); rintro e w3 ⟨rfl, g3⟩; have B3 := Lib.hid (B2.out.trans (below_of_only g3 B2.out.size (by simp))); clear g3))
      go_ret
      exact ⟨by first | rfl | simp, B3.out⟩
  obtain ⟨h200, hz⟩ := hE
  have HMY := Lib.hid (HM.out.mono fun e w' hv => (show (∃ b, e = .returned (.tuple #[.pointer (some ⟨b, 0, none⟩), .slice A n cap]) ∧ Tb17 w' b f n d ∧ Below w.heap.size w w') from by
    rcases hv.2 with ⟨_, _, b, e1, e2⟩ | ⟨a, _⟩
    · exact ⟨b, e1, e2, hv.1⟩
    · exact absurd ⟨h200, hz⟩ a))
  obtain ⟨hrb, hnz⟩ := tabE_zero.1 hz
  have hg := good_of hnz
  obtain ⟨f1, f2⟩ := (rightB_iff f).1 hrb
  obtain ⟨F, rfl⟩ : ∃ F : Nat, f = (F : Int) := ⟨f.toNat, by omega⟩
  have ht2 := ht.2
  have HAT := Lib.hid (fun (W : World) (b : Nat) (h : Tb17 W b F n d) (t : Int) (h2 : t ≤ 9223372036854775807) (r : W3) (he : stepV F n d t = r) => tb_at h hrb hg (by omega) t h2 r he)
  have HRT := Lib.hid (fun (W : World) (h : Row3 W A n d) (t : Int) (h2 : t ≤ 9223372036854775807) (r : W3) (he : stepV F n d t = r) => rat_eq (c := cap) h hrb hg (by omega) t h2 r he)
  clear hst hfit hr HM HC hn hz hnz hrb hg hf
  go_enter Try.func4, Try.ntmps4
  go_wp2_with (go_at_call 11; (with_reducible refine HMY.out.mono ?_); rintro e w1 ⟨b, rfl, tb1, b1⟩; have B1 := Lib.hid b1; have R1 := Lib.hid (row_below HR.out b1); have T1 := Lib.hid tb1; clear b1 tb1)
  go_loopw [8] (fun x wr => ∃ (k : Nat), x = .int .i64 k ∧ k ≤ F ∧ Hid (w1.grownBy wr none)) (fun x _ => F - (intOf x).toNat)
  case atStart => exact ⟨0, rfl, by omega, Lib.hid (only_refl _ _)⟩
  case round =>
    obtain ⟨k, rfl, hk, HG⟩ := hrel
    by_cases hkF : k < F
    · have i1 : (k : Int) < (F : Int) := by omega
      obtain ⟨r, hr⟩ : ∃ r, stepV F n d k = r := ⟨_, rfl⟩
      have H1 := Lib.hid (HAT.out wr b (T1.out.grown HG.out) k (by omega) r hr)
      have H2 := Lib.hid (fun W (g : wr.grownBy W none) => HRT.out W ((R1.out.grown HG.out).grown g) k (by omega) r hr)
      have H3 := Lib.hid (fun W (g : wr.grownBy W none) => HAT.out W b ((T1.out.grown HG.out).grown g) ((k : Int) + F) (by omega) r (by rw [step_more (by omega) (by omega)]; exact hr))
      clear hr
      obtain ⟨x0, x1, x2⟩ := r
      simp only at H1 H2 H3
      have hq := neq_step x0 x1 x2
      go_upto_region 8 with (first
        | (go_at_call 12; (with_reducible refine H1.out.mono ?_); rintro e w2 ⟨rfl, g2⟩; have G2 := Lib.hid g2; clear g2)
        | (go_at_call 13; (with_reducible refine (H2.out _ G2.out).mono ?_); rintro e w3 ⟨rfl, g3⟩; have G3 := Lib.hid (only_trans G2.out g3); clear g3))
      obtain ⟨w4, hw4, g4, hx, hy⟩ := box2 w3 33 #[.int .i64 x0, .int .i64 x1, .int .i64 x2] 35 #[.int .i64 x0, .int .i64 x1, .int .i64 x2]
      have G4 := Lib.hid (only_trans G3.out g4)
      rw [← hw4]
      clear hw4 g4
      have k1 := blk_re hx
      have k2 := blk_re hy
      have H4 := Lib.hid (fun dd os => (show Calls Try.prog 12 #[.pointer (some ⟨b, 0, none⟩), .int .i64 ((k : Int) + F)] (grow (redrawn w4 dd) os) (fun e w' => e = .returned (.agg #[.int .i64 x0, .int .i64 x1, .int .i64 x2]) ∧ (grow (redrawn w4 dd) os).grownBy w' none) from H3.out _ (only_trans G4.out (only_re w4 dd os))))
      have u1 : IntKind.i64.wrap ((k : Int) + (F : Int)) = (k : Int) + F := by rw [IntKind.wrap_i64]; omega
      clear hx hy
      refine wp_region_quiet_below (by kernel_rfl) (by kernel_rfl) ?_
      repeat (go_big_quiet_step ((first | (go_at_call 12; with_reducible exact rg1 (H4.out _ _)))))
      refine wpQuiet_nil ?_
      intro w5 hw5
      obtain ⟨p, rfl⟩ := hw5
      have G5 := Lib.hid (only_trans G4.out (only_re w4 p.d p.os))
      clear k1 k2 H4
      generalize grow (redrawn w4 p.d) p.os = w5 at G5 ⊢
      go_wp2
      go_roundw
      case rel => exact ⟨k + 1, by go_num, by omega, Lib.hid (only_trans HG.out G5.out)⟩
      case measure => simp [intOf] <;> omega
    · have i1 : ¬ (k : Int) < (F : Int) := by omega
      obtain ⟨r, hr⟩ : ∃ r, stepV F n d tick = r := ⟨_, rfl⟩
      have H1 := Lib.hid (HAT.out wr b (T1.out.grown HG.out) tick ht2 r hr)
      have H2 := Lib.hid (fun W (g : wr.grownBy W none) => HRT.out W ((R1.out.grown HG.out).grown g) tick ht2 r hr)
      clear hr
      obtain ⟨x0, x1, x2⟩ := r
      simp only at H1 H2
      go_wp2_with (first
        | (go_at_call 12; (with_reducible refine H1.out.mono ?_); rintro e w2 ⟨rfl, g2⟩; have G2 := Lib.hid g2; clear g2)
        | (go_at_call 13; (with_reducible refine (H2.out _ G2.out).mono ?_); rintro e w3 ⟨rfl, g3⟩; have G3 := Lib.hid (only_trans G2.out g3); clear g3)
        | (go_at_call 10; (with_reducible refine (HL.out _).mono ?_); rintro e w5 ⟨rfl, b5⟩; obtain ⟨w4, hw4, g4, hx, hy⟩ := box2 w3 33 #[.int .i64 x0, .int .i64 x1, .int .i64 x2] 35 #[.int .i64 x0, .int .i64 x1, .int .i64 x2]; rw [← hw4] at b5; have hx5 := hx.below b5 hx.lt; have hy5 := hy.below b5 hy.lt; have e0 := hx5.cell 0; have e1 := hx5.cell 1; have e2 := hx5.cell 2; have f0 := hy5.cell 0; have f1 := hy5.cell 1; have f2 := hy5.cell 2; simp at e0 e1 e2 f0 f1 f2; have B5 := Lib.hid ((below_of_only (only_trans (only_trans HG.out G3.out) g4) (Nat.le_refl _) (by simp)).trans (b5.mono (by have := HG.out.size; have := G3.out.size; have := g4.size; omega))); clear b5 hw4 g4 hx hy hx5 hy5))
      go_ret
      exact ⟨rfl, B1.out.trans (B5.out.mono B1.out.size)⟩
end Go.Proofs.Ytecpplaobbkemaa

/- Where units begin: the same offsets in the same order as1 tick by tick; what the next one is. -/
namespace Go.Proofs.Ytecpplaobbkemaa
open Go.RowKit Go.Lib Go.Sort
set_option linter.unusedVariables false

theorem stepV_mod {f : Int} {n : Nat} {d : Nat → W3} {t : Int} (h : 0 ≤ t) (hf : 0 < f) : stepV f n d t = stepV f n d (t % f) := by
  have := Int.emod_nonneg t (show f ≠ 0 by omega)
  unfold stepV
  rw [Int.emod_emod_of_dvd t (Int.dvd_refl f), if_neg (by omega), if_neg (show ¬ t % f < 0 by omega)]
theorem begB_mod {f : Int} {n : Nat} {d : Nat → W3} {t o : Int} (h : 0 ≤ t) (hf : 0 < f) : begB f n d t o = begB f n d (t % f) o := by
  unfold begB
  rw [stepV_mod h hf]
theorem mem_stL {d : Nat → W3} {n : Nat} {o x : Int} : x ∈ stL d n o ↔ ∃ i, i < n ∧ (d i).1 = o ∧ ∃ u : Nat, u < (((d i).2.2 - (d i).2.1) / 4).toNat ∧ x = (d i).2.1 + 4 * (u : Int) := by
  unfold stL
  rw [List.mem_flatMap]
  constructor
  · rintro ⟨i, hi, h⟩
    split at h
    · rename_i ho
      unfold untL at h
      obtain ⟨u, hu, e⟩ := List.mem_map.1 h
      exact ⟨i, by simpa using hi, ho, u, by simpa using hu, e.symm⟩
    · cases h
  · rintro ⟨i, hi, ho, u, hu, e⟩
    refine ⟨i, by simpa using hi, ?_⟩
    rw [if_pos ho]
    unfold untL
    exact List.mem_map.2 ⟨u, by simpa using hu, e.symm⟩
theorem stL_beg {f : Int} {n : Nat} {d : Nat → W3} (g : GoodS f n d) {x o : Int} : x ∈ stL d n o ↔ (0 ≤ x ∧ x < f ∧ begB f n d x o = true) := by
  rw [mem_stL]
  constructor
  · rintro ⟨i, hi, ho, u, hu, rfl⟩
    have hd := g.1 i hi
    have h0 : 0 ≤ (d i).2.1 + 4 * (u : Int) := by omega
    have h1 : (d i).2.1 + 4 * (u : Int) < f := by omega
    refine ⟨h0, h1, ?_⟩
    have hm : ((d i).2.1 + 4 * (u : Int)) % f = (d i).2.1 + 4 * (u : Int) := Int.emod_eq_of_lt h0 h1
    have hh : hasS d (((d i).2.1 + 4 * (u : Int)) % f) i = true := by
      rw [hm]
      unfold hasS holdsB w3s
      simp
      omega
    unfold begB
    rw [stepV_any g h0 hi hh, hm, stp_unit (k := u) (by omega) (by omega) (by omega)]
    simp
    exact ho
  · rintro ⟨h0, h1, hb⟩
    have hm : x % f = x := Int.emod_eq_of_lt h0 h1
    unfold begB at hb
    rcases fstI_cases (hasS d (x % f)) n with ⟨i, hi, _, hh, hlt⟩ | ⟨_, hn⟩
    · rw [stepV_at h0 hi hh hlt, hm] at hb
      rw [hm] at hh
      have hd := g.1 i hi
      have hho : (d i).2.1 ≤ x ∧ x < (d i).2.2 := by
        unfold hasS holdsB w3s at hh
        simp at hh
        omega
      unfold stp at hb
      by_cases hu : (x - (d i).2.1) / 4 < ((d i).2.2 - (d i).2.1) / 4
      · rw [if_pos hu] at hb
        simp at hb
        refine ⟨i, hi, hb.1, ((x - (d i).2.1) / 4).toNat, by omega, ?_⟩
        omega
      · rw [if_neg hu] at hb
        simp at hb
    · rw [stepV_none h0 hn] at hb
      simp at hb
theorem untL_up (x : W3) : (untL x).Pairwise (· < ·) := by
  unfold untL
  rw [List.pairwise_map, List.pairwise_iff_getElem]
  intro i j hi hj hij
  simp at hi hj ⊢
  omega
theorem stL_up {f : Int} {n : Nat} {d : Nat → W3} (g : GoodS f n d) (hs : ∀ i j, i < j → j < n → (d i).2.1 ≤ (d j).2.1) (o : Int) : ∀ m, m ≤ n → (stL d m o).Pairwise (· < ·) := by
  intro m
  induction m with
  | zero => intro _; simp [stL]
  | succ m ih =>
    intro hm
    rw [stL_succ, List.pairwise_append]
    refine ⟨ih (by omega), ?_, fun a ha b hb => ?_⟩
    · split
      · exact untL_up _
      · exact List.Pairwise.nil
    · split at hb
      · unfold untL at hb
        obtain ⟨u, hu, rfl⟩ := List.mem_map.1 hb
        obtain ⟨i, hi, _, v, hv, rfl⟩ := mem_stL.1 ha
        have h1 := g.1 i (by omega)
        have h2 := g.1 m (by omega)
        have h3 := g.2 i m (by omega) (by omega) (by omega)
        have h4 := hs i m hi (by omega)
        omega
      · cases hb
/-- Two rising rows with the same numbers are one. -/
theorem up_unique : ∀ (l m : List Int), l.Pairwise (· < ·) → m.Pairwise (· < ·) → (∀ x, x ∈ l ↔ x ∈ m) → l = m
  | [], [], _, _, _ => rfl
  | [], b :: m, _, _, h => by have := (h b).2 (by simp); simp at this
  | a :: l, [], _, _, h => by have := (h a).1 (by simp); simp at this
  | a :: l, b :: m, h1, h2, h => by
    rw [List.pairwise_cons] at h1 h2
    have e : a = b := by
      have ha := (h a).1 (by simp)
      have hb := (h b).2 (by simp)
      simp only [List.mem_cons] at ha hb
      rcases ha with ha | ha
      · exact ha
      · rcases hb with hb | hb
        · exact hb.symm
        · have := h2.1 a ha
          have := h1.1 b hb
          omega
    subst e
    rw [up_unique l m h1.2 h2.2 (fun x => ?_)]
    constructor
    · intro hx
      have := (h x).1 (by simp [hx])
      simp only [List.mem_cons] at this
      rcases this with e | e
      · have := h1.1 x hx
        omega
      · exact e
    · intro hx
      have := (h x).2 (by simp [hx])
      simp only [List.mem_cons] at this
      rcases this with e | e
      · have := h2.1 x hx
        omega
      · exact e
/-- Tick by tick, where units begin. -/
def rfL (f : Int) (n : Nat) (d : Nat → W3) (o : Int) : Nat → List Int
  | 0 => []
  | k + 1 => rfL f n d o k ++ if begB f n d k o then [(k : Int)] else []
theorem mem_rfL {f : Int} {n : Nat} {d : Nat → W3} {o x : Int} : ∀ {k : Nat}, x ∈ rfL f n d o k ↔ 0 ≤ x ∧ x < k ∧ begB f n d x o = true
  | 0 => by simp [rfL]; omega
  | k + 1 => by
    rw [rfL, List.mem_append, mem_rfL]
    constructor
    · rintro (h | h)
      · exact ⟨h.1, by omega, h.2.2⟩
      · split at h
        · rename_i hb
          simp at h
          subst h
          exact ⟨by omega, by omega, hb⟩
        · cases h
    · rintro ⟨h1, h2, h3⟩
      by_cases e : x = k
      · subst e
        right
        rw [if_pos h3]
        simp
      · left
        exact ⟨h1, by omega, h3⟩
theorem rfL_up (f : Int) (n : Nat) (d : Nat → W3) (o : Int) : ∀ k, (rfL f n d o k).Pairwise (· < ·)
  | 0 => by simp [rfL]
  | k + 1 => by
    rw [rfL, List.pairwise_append]
    refine ⟨rfL_up f n d o k, by split <;> simp, fun a ha b hb => ?_⟩
    have := mem_rfL.1 ha
    split at hb
    · simp at hb
      omega
    · cases hb
theorem rfL_len (f : Int) (n : Nat) (d : Nat → W3) (o : Int) : ∀ k, (rfL f n d o k).length ≤ k
  | 0 => by simp [rfL]
  | k + 1 => by
    have := rfL_len f n d o k
    rw [rfL, List.length_append]
    split <;> simp <;> omega
theorem beg_perm {f : Int} {n : Nat} {d d' : Nat → W3} (g : GoodS f n d) (p : ((List.range n).map d').Perm ((List.range n).map d)) (t o : Int) : begB f n d' t o = begB f n d t o := by
  unfold begB
  rw [stepV_perm g p]
theorem starts_same {F n : Nat} {d d' : Nat → W3} (g : GoodS F n d) (p : ((List.range n).map d').Perm ((List.range n).map d)) (hs : ∀ i j, i < j → j < n → (d' i).2.1 ≤ (d' j).2.1) (o : Int) : stL d' n o = rfL F n d o F :=
  up_unique _ _ (stL_up (good_perm g p) hs o n (Nat.le_refl _)) (rfL_up _ _ _ _ _) (fun x => by rw [stL_beg (good_perm g p), mem_rfL, beg_perm g p])
/-- The next one is one, and none begins before it. -/
theorem next_fact {f : Int} {n : Nat} {d : Nat → W3} {L : List Int} {t o r : Int} (hf : rightB f = true) (h0 : 0 ≤ t) (h1 : t ≤ 2147483647) (hup : L.Pairwise (· < ·)) (hm : ∀ x, x ∈ L ↔ 0 ≤ x ∧ x < f ∧ begB f n d x o = true) (hx : NxV L t f (t % f) r) (hne : L ≠ []) :
    t ≤ r ∧ r - t < f ∧ begB f n d r o = true ∧ ∀ x, t ≤ x → x < r → begB f n d x o = false := by
  obtain ⟨f1, f2⟩ := (rightB_iff f).1 hf
  rcases hx with ⟨k, _⟩ | ⟨j, s, hj, hr, hc⟩
  · exact absurd k hne
  · have hs := (hm s).1 (List.mem_of_getElem? hj)
    have hoff : offB s f = true := (offB_iff s f).2 ⟨f1, f2, hs.1, hs.2.1⟩
    obtain ⟨a1, a2, a3⟩ := next_is hoff h1
    rw [← hr] at a1 a2 a3
    have hmx : max t 0 = t := by omega
    rw [hmx] at a1 a2
    have hr0 : 0 ≤ r := by omega
    refine ⟨a1, a2, by rw [begB_mod hr0 (by omega), a3]; exact hs.2.2, fun x hx1 hx2 => ?_⟩
    cases hq : begB f n d x o
    · rfl
    · exfalso
      have hx0 : 0 ≤ x := by omega
      rw [begB_mod hx0 (by omega)] at hq
      have b0 := Int.emod_nonneg x (show f ≠ 0 by omega)
      have b1 := Int.emod_lt_of_pos x (show 0 < f by omega)
      have hsx : x % f ∈ L := (hm _).2 ⟨b0, b1, hq⟩
      have c0 := Int.emod_nonneg t (show f ≠ 0 by omega)
      have c1 := Int.emod_lt_of_pos t (show 0 < f by omega)
      have hval : r = if s < t % f then t + (s + f) - t % f else t + s - t % f := by
        rw [hr, nextV, if_pos ⟨hoff, h1⟩, hmx]
      -- the offset of x
      have hxo : x % f = t % f + (x - t) ∨ x % f = t % f + (x - t) - f := by
        by_cases hlt : t % f + (x - t) < f
        · left
          have : x % f = (t % f + (x - t)) % f := by
            rw [Int.emod_add_emod]
            congr 1
            omega
          rw [this, Int.emod_eq_of_lt (by omega) hlt]
        · right
          have : x % f = (t % f + (x - t) - f) % f := by
            have e1 : (t % f + (x - t) - f) % f = (t % f + (x - t)) % f := by simp
            rw [e1, Int.emod_add_emod]
            congr 1
            omega
          rw [this, Int.emod_eq_of_lt (by omega) (by omega)]
      have hidx : ∃ i : Nat, L[i]? = some (x % f) := by
        obtain ⟨i, hi, he⟩ := List.getElem_of_mem hsx
        exact ⟨i, by rw [List.getElem?_eq_getElem hi, he]⟩
      obtain ⟨i, hi⟩ := hidx
      have hord : ∀ (a b : Nat) (x y : Int), L[a]? = some x → L[b]? = some y → a < b → x < y := fun a b x y ha hb hab => by
        obtain ⟨ha1, ha2⟩ := List.getElem?_eq_some_iff.1 ha
        obtain ⟨hb1, hb2⟩ := List.getElem?_eq_some_iff.1 hb
        have := List.pairwise_iff_getElem.1 hup a b ha1 hb1 hab
        omega
      rcases hc with ⟨k1, k2⟩ | ⟨k1, k2⟩
      · rw [if_neg (by omega)] at hval
        have hle : s ≤ x % f ∨ x % f < t % f := by
          rcases Nat.lt_trichotomy i j with q | q | q
          · exact .inr (k2 i _ q hi)
          · subst q
            rw [hj] at hi
            injection hi with hi
            omega
          · have := hord j i _ _ hj hi q
            omega
        omega
      · have hxl := k2 _ hsx
        subst k1
        have hsl := k2 s (List.mem_of_getElem? hj)
        rw [if_pos hsl] at hval
        have hle : s ≤ x % f := by
          rcases Nat.eq_zero_or_pos i with q | q
          · subst q
            rw [hj] at hi
            injection hi with hi
            omega
          · have := hord 0 i _ _ hj hi q
            omega
        omega
end Go.Proofs.Ytecpplaobbkemaa

/- The law of starts, walked. -/
namespace Go.Proofs.Ytecpplaobbkemaa
open Go.RowKit Go.Lib Go.Sort
set_option linter.unusedVariables false

theorem ints_src {W : World} {x : Int} : Src Try.prog 1 38 (.slice (some ⟨W.heap.size, 0, none⟩) 1 1) 1 [.int .i64 x] (W.alloc (.cells #[.int .i64 x] 3)) :=
  Src.ofSlice _ Try.underlying38 _ _ _ _ rfl (fun k u hu => by
    rw [addr_at, Nat.zero_add, (Blk.new W 3 #[.int .i64 x]).cell k]
    simpa using hu) (by intro u hu; simp at hu; rw [hu]; rfl)
/-- A row of numbers of the call's own that grows. -/
def GrI (w W : World) (v : Value) (l : List Int) : Prop := RowZ 1 W v l.length (iL l) ∧ (∀ q, v.ownBlock = some q → w.heap.size ≤ q) ∧ w.grownBy W none
theorem GrI.push {w W : World} {v : Value} {l : List Int} (h : GrI w W v l) (x : Int) (hl : l.length ≤ 100000) : ∃ v' w', (Builtin.append_ #[38, 38] 38 #[v, .slice (some ⟨W.heap.size, 0, none⟩) 1 1]).run Try.prog (W.alloc (.cells #[.int .i64 x] 3)) = .ok v' w' ∧ GrI w w' v' (l ++ [x]) := by
  obtain ⟨h1, h2, h3⟩ := h
  obtain ⟨i0, hi, hz, hsz, hby⟩ := info_parts int17_info
  have g1 : W.grownBy (W.alloc (.cells #[.int .i64 x] 3)) none := only_alloc (only_refl _ none) _
  obtain ⟨v', w', hk, hr, hg', ho⟩ := run_pushZ (P := Try.prog) (W.alloc (.cells #[.int .i64 x] 3)) 38 3 38 i0 _ 8 Try.underlying38 hi hz hsz hby (by omega) rfl _ _ _ (h1.grown g1) (iL_one _) _ _ ints_src (by omega)
  have hs := h3.size
  refine ⟨v', w', hk, ⟨?_, fun q hq => ?_, ?_⟩⟩
  · rw [List.length_append, iL_app]
    exact hr
  · rcases ho with ho | ho
    · exact h2 q (ho ▸ hq)
    · rw [ho] at hq
      injection hq with hq
      simp at hq
      omega
  · have q1 := only_trans h3 g1
    refine ⟨hg'.os.trans q1.os, hg'.tape.trans q1.tape, hg'.output.trans q1.output, Nat.le_trans q1.size hg'.size, fun k hk' _ => ?_⟩
    rw [hg'.block k (by simp; omega) (fun e => by have := h2 k e.symm; omega), q1.block k hk' (by simp)]
theorem GrI.grown {w W W' : World} {v : Value} {l : List Int} (h : GrI w W v l) (g : W.grownBy W' none) : GrI w W' v l := ⟨h.1.grown g, h.2.1, only_trans h.2.2 g⟩
def RsV (L : List Int) (w : World) (e : Ending) (w' : World) : Prop := ∃ A c, e = .returned (.slice A L.length c) ∧ GrI w w' (.slice A L.length c) L
set_option maxRecDepth 20000 in
set_option maxHeartbeats 1600000 in
theorem rstarts17_any (F : Nat) (A : Option Addr) (n c : Nat) (d : Nat → W3) (o : Int) (w : World) (h : Row3 w A n d) (hr : rightB F = true) (hg : GoodS F n d) (hn : n ≤ 1000) :
    Calls Try.prog 15 #[.int .i64 F, .slice A n c, .int .i64 o] w (RsV (rfL F n d o F) w) := by
  obtain ⟨f1, f2⟩ := (rightB_iff F).1 hr
  have HB := Lib.hid (fun (k : Nat) (hk : k < F) W (g : w.grownBy W none) => beg17_any F A n c d k o W (h.grown g) hr hg hn (by omega))
  have HSTEP := Lib.hid (fun (k : Nat) => (show rfL F n d o (k + 1) = rfL F n d o k ++ if begB F n d k o then [(k : Int)] else [] from rfl))
  have HLEN := Lib.hid (fun (k : Nat) => rfL_len F n d o k)
  have HFIN := Lib.hid (show ∀ e w' A' c', e = .returned (.slice A' (rfL F n d o F).length c') → GrI w w' (.slice A' (rfL F n d o F).length c') (rfL F n d o F) → RsV (rfL F n d o F) w e w' from fun e w' A' c' h1 h2 => ⟨A', c', h1, h2⟩)
  have HZ0 := Lib.hid (show rfL F n d o 0 = [] from rfl)
  clear h hr hg
  generalize rfL F n d o = L at HSTEP HLEN HFIN HZ0 ⊢
  obtain ⟨W1, hW⟩ : ∃ W1, W1 = w.alloc (.cells #[] 3) := ⟨_, rfl⟩
  have HG0 := Lib.hid (show GrI w W1 (.slice (some ⟨w.heap.size, 0, none⟩) 0 0) [] from ⟨by rw [hW]; exact RowZ.empty 1 0 (by simp), fun q hq => by simp [Value.ownBlock] at hq; omega, by rw [hW]; exact only_alloc (only_refl _ _) _⟩)
  go_enter Try.func15, Try.ntmps15
  go_upto_region 2 with (fail)
  rw [← hW]
  clear hW
  go_wp2
  go_loopw [7, 8] (fun v x wr => ∃ (k : Nat) (vA : Option Addr) (vc : Nat), v = .slice vA (L k).length vc ∧ x = .int .i64 k ∧ k ≤ F ∧ Hid (GrI w wr (.slice vA (L k).length vc) (L k))) (fun v x _ => F - (intOf x).toNat)
  case atStart => exact ⟨0, some ⟨w.heap.size, 0, none⟩, 0, by rw [HZ0.out]; rfl, rfl, by omega, Lib.hid (by rw [HZ0.out]; exact HG0.out)⟩
  case round =>
    obtain ⟨k, vA, vc, rfl, rfl, hk, HG⟩ := hrel
    by_cases hkF : k < F
    · have i1 : (k : Int) < (F : Int) := by omega
      have HC := Lib.hid (HB.out k hkF wr HG.out.2.2)
      have HS := Lib.hid (HSTEP.out k)
      have hl := HLEN.out k
      generalize begB F n d k o = z at HC HS
      cases z
      · have HE := Lib.hid (show L (k + 1) = L k from by rw [HS.out]; simp)
        clear HS
        go_wp2_with (go_at_call 18; (with_reducible refine HC.out.mono ?_); rintro e w2 ⟨rfl, g2⟩; have G2 := Lib.hid (HG.out.grown g2); clear g2)
        go_roundw
        case rel => exact ⟨k + 1, vA, vc, by rw [HE.out], by go_num, by omega, Lib.hid (by rw [HE.out]; exact G2.out)⟩
        case measure => simp [intOf] <;> omega
      · have HE := Lib.hid (show L (k + 1) = L k ++ [(k : Int)] from by rw [HS.out]; simp)
        clear HS
        go_upto_region 6 with (go_at_call 18; (with_reducible refine HC.out.mono ?_); rintro e w2 ⟨rfl, g2⟩; have G2 := Lib.hid (HG.out.grown g2); clear g2)
        obtain ⟨v', w', hk2, hgr⟩ := G2.out.push (k : Int) (by omega)
        obtain ⟨A', c', rfl⟩ := hgr.1.form
        have HK := Lib.hid hk2
        have HGR := Lib.hid (show GrI w w' (.slice A' (L (k + 1)).length c') (L (k + 1)) from by rw [HE.out]; exact hgr)
        have HL1 := Lib.hid (show (L k ++ [(k : Int)]).length = (L (k + 1)).length from by rw [HE.out])
        rw [HL1.out] at HK
        clear hk2 hgr
        go_wp2_with (at_builtin; refine wpList_append_eq rfl (.tmp 20) (.tmp 22) 38 rfl HK.out rfl rfl ?_)
        go_roundw
        case rel => exact ⟨k + 1, A', c', rfl, by go_num, by omega, HGR⟩
        case measure => simp [intOf] <;> omega
    · obtain rfl : k = F := by omega
      have i1 : ¬ (k : Int) < (k : Int) := by omega
      go_wp2
      go_ret
      exact HFIN.out _ _ vA vc rfl HG.out
end Go.Proofs.Ytecpplaobbkemaa

/- The law of starts, walked. -/
namespace Go.Proofs.Ytecpplaobbkemaa
open Go.RowKit Go.Lib Go.Sort
set_option linter.unusedVariables false

theorem row_int {W : World} {A : Option Addr} {L : List Int} {c i : Nat} (h : RowZ 1 W (.slice A L.length c) L.length (iL L)) (hi : i < L.length) : ∃ g off, A = some ⟨g, off, none⟩ ∧ W.cell? ⟨g, off + i, none⟩ = some (.int .i64 L[i]) := by
  rcases h.2 with ⟨_, h0⟩ | ⟨g, off, cap', e, _, _, _, _, h5⟩
  · omega
  · injection e with e
    exact ⟨g, off, e, h5 i _ (by unfold iL; rw [List.getElem?_map, List.getElem?_eq_getElem hi]; rfl)⟩
set_option maxRecDepth 20000 in
set_option maxHeartbeats 3200000 in
theorem slotstarts_walk (f : Int) (A : Option Addr) (len cap : Nat) (d : Nat → W3) (o tick : Int) (w : World) (hf : fitI f) (hst : Row3 w A len d) (hfit : ∀ i, i < len → FitW3 (d i)) (hlc : len ≤ cap) (hcm : cap ≤ 9223372036854775807) (ho : fitI o) (ht : fitI tick) : Calls Try.prog 5 #[.int .i64 f, .slice A len cap, .int .i64 o, .int .i64 tick] w fun e w' => e = .returned (.bool true) ∧ Below w.heap.size w w' := by
  have HL := Lib.hid (fun W => live17_any W)
  obtain ⟨n, hn⟩ : ∃ n, n = min len 32 := ⟨_, rfl⟩
  have hn32 : n ≤ 32 := by omega
  have hr : Row3 w A n d := hst.cut n (by omega)
  have HM := Lib.hid (made17_any f A len cap d w hst hlc hcm n hn)
  have HR := Lib.hid hr
  by_cases hE : f ≤ 200 ∧ tabE f n d = 0
  case neg =>
    have HMN := Lib.hid (HM.out.mono fun e w' hv => (show (e = .returned (.tuple #[.pointer none, .slice A n cap]) ∧ Below w.heap.size w w') from ⟨by
      rcases hv.2 with ⟨a, b, _⟩ | ⟨_, a⟩
      · exact absurd ⟨a, b⟩ hE
      · exact a, hv.1⟩))
    clear hst hfit hr hE HM hn
    go_enter Try.func5, Try.ntmps5
    go_wp2_with (first
      | (go_at_call 11; (with_reducible refine HMN.out.mono ?_); rintro e w1 ⟨rfl, b1⟩; have B1 := Lib.hid b1; clear b1)
      | (go_at_call 10; (with_reducible refine (HL.out _).mono ?_); rintro e w2 ⟨rfl, b2⟩; have B2 := Lib.hid (B1.out.trans (b2.mono B1.out.size)); clear b2))
    go_ret
    exact ⟨rfl, B2.out⟩
  obtain ⟨h200, hz⟩ := hE
  have HMY := Lib.hid (HM.out.mono fun e w' hv => (show (∃ b, e = .returned (.tuple #[.pointer (some ⟨b, 0, none⟩), .slice A n cap]) ∧ Tb17 w' b f n d ∧ Below w.heap.size w w') from by
    rcases hv.2 with ⟨_, _, b, e1, e2⟩ | ⟨a, _⟩
    · exact ⟨b, e1, e2, hv.1⟩
    · exact absurd ⟨h200, hz⟩ a))
  obtain ⟨hrb, hnz⟩ := tabE_zero.1 hz
  have hg := good_of hnz
  obtain ⟨f1, f2⟩ := (rightB_iff f).1 hrb
  obtain ⟨F, rfl⟩ : ∃ F : Nat, f = (F : Int) := ⟨f.toNat, by omega⟩
  have HS1 := Lib.hid (fun (W : World) (b : Nat) (h : Tb17 W b F n d) => (show Calls Try.prog 14 #[.pointer (some ⟨b, 0, none⟩), .int .i64 o] W (StaV (rfL F n d o F) W) from by
    obtain ⟨A', c', d', h1, h2, h3, h4⟩ := h
    rw [← starts_same hg h3 h4 o]
    exact starts_any b F A' n c' d' o W h1 h2 f2 (by omega)))
  have HU1 := Lib.hid (fun (W : World) (b : Nat) (h : Tb17 W b F n d) => (show Calls Try.prog 16 #[.pointer (some ⟨b, 0, none⟩), .int .i64 o] W (fun e w' => e = .returned (.int .i64 ((rfL F n d o F).length : Int)) ∧ W.grownBy w' none) from by
    obtain ⟨A', c', d', h1, h2, h3, h4⟩ := h
    rw [← starts_same hg h3 h4 o]
    exact units_any b F A' n c' d' o W h1 h2 f2 (by omega)))
  have HN1 := Lib.hid (fun (W : World) (b : Nat) (h : Tb17 W b F n d) => (show Calls Try.prog 17 #[.pointer (some ⟨b, 0, none⟩), .int .i64 tick, .int .i64 o] W (SNV (rfL F n d o F) tick F W) from by
    obtain ⟨A', c', d', h1, h2, h3, h4⟩ := h
    rw [← starts_same hg h3 h4 o]
    exact snext_any b F A' n c' d' tick o W h1 hrb h2 (by omega) ht))
  have HRS := Lib.hid (fun (W : World) (h : Row3 W A n d) => rstarts17_any F A n cap d o W h hrb hg (by omega))
  have HBG := Lib.hid (fun (W : World) (h : Row3 W A n d) (t : Int) (h2 : t ≤ 9223372036854775807) => beg17_any F A n cap d t o W h hrb hg (by omega) h2)
  have HNF := Lib.hid (fun (r : Int) (h0 : 0 ≤ tick) (h1 : tick ≤ 2147483647) (hx : NxV (rfL F n d o F) tick F (tick % F) r) (hne : rfL F n d o F ≠ []) => next_fact hrb h0 h1 (rfL_up F n d o F) (fun x => mem_rfL (k := F)) hx hne)
  have hll := rfL_len F n d o F
  clear hst hfit hr HM hn hz hnz hrb hg hf
  generalize rfL F n d o F = L at *
  go_enter Try.func5, Try.ntmps5
  go_wp2_with (first
    | (go_at_call 11; (with_reducible refine HMY.out.mono ?_); rintro e w1 ⟨b, rfl, tb1, b1⟩; have B1 := Lib.hid b1; have R1 := Lib.hid (row_below HR.out b1); have T1 := Lib.hid tb1; clear b1 tb1)
    | (go_at_call 14; (with_reducible refine (HS1.out _ _ T1.out).mono ?_); rintro e w2 ⟨A3, c3, rfl, r3, _, g2⟩; have RA := Lib.hid r3; have G2 := Lib.hid g2; clear r3 g2)
    | (go_at_call 15; (with_reducible refine (HRS.out _ (R1.out.grown G2.out)).mono ?_); rintro e w3 ⟨A4, c4, rfl, r4⟩; have RB := Lib.hid r4.1; have RA3 := Lib.hid (RA.out.grown r4.2.2); have G3 := Lib.hid (only_trans G2.out r4.2.2); clear r4)
    | (go_at_call 16; (with_reducible refine (HU1.out _ _ (T1.out.grown G3.out)).mono ?_); rintro e w4 ⟨rfl, g4⟩; have RB4 := Lib.hid (RB.out.grown g4); have RA4 := Lib.hid (RA3.out.grown g4); have G4 := Lib.hid (only_trans G3.out g4); clear g4))
  go_loopw [12] (fun x wr => ∃ (i : Nat), x = .int .i64 i ∧ i ≤ L.length ∧ Hid (w4.grownBy wr none)) (fun x _ => L.length - (intOf x).toNat)
  case atStart => exact ⟨0, rfl, by omega, Lib.hid (only_refl _ _)⟩
  case round =>
    obtain ⟨i, rfl, hi, HG⟩ := hrel
    by_cases hiL : i < L.length
    · have i1 : (i : Int) < (L.length : Int) := by omega
      have i2 : (0 : Int) ≤ (i : Int) := by omega
      obtain ⟨ga, oa, rfl, ca⟩ := row_int (RA4.out.grown HG.out) hiL
      obtain ⟨gb, ob, rfl, cb⟩ := row_int (RB4.out.grown HG.out) hiL
      have r1 := fun dd os => cell_regrown ca dd os
      have r2 := fun dd os => cell_regrown cb dd os
      generalize L[i] = xv at ca cb r1 r2
      go_upto_region 10 with (fail)
      refine wp_region_quiet_below (by kernel_rfl) (by kernel_rfl) ?_
      repeat (go_big_quiet_step ((fail)))
      refine wpQuiet_nil ?_
      intro w5 hw5
      obtain ⟨p, rfl⟩ := hw5
      have G5 := Lib.hid (only_trans HG.out (only_re wr p.d p.os))
      clear r1 r2 ca cb
      generalize grow (redrawn wr p.d) p.os = w5 at G5 ⊢
      go_wp2
      go_roundw
      case rel => exact ⟨i + 1, by go_num, by omega, G5⟩
      case measure => simp [intOf] <;> omega
    · have i1 : ¬ (i : Int) < (L.length : Int) := by omega
      have T5 := Lib.hid (T1.out.grown (only_trans G4.out HG.out))
      have R5 := Lib.hid (R1.out.grown (only_trans G4.out HG.out))
      have HN5 := Lib.hid (HN1.out wr b T5.out)
      by_cases hbad : L.length = 0 ∨ tick < 0 ∨ 2147483647 < tick
      · have HRM := Lib.hid (show ∀ r, ((tick < 0 ∨ 2147483647 < tick) → r = -1) → (0 ≤ tick → tick ≤ 2147483647 → NxV L tick F (tick % F) r) → r = -1 from fun r h1 h2 => by
          by_cases hb : tick < 0 ∨ 2147483647 < tick
          · exact h1 hb
          · have h3 := h2 (by omega) (by omega)
            have hl0 : L = [] := List.length_eq_zero_iff.1 (by omega)
            rcases h3 with ⟨_, h3⟩ | ⟨j, s, hj, _⟩
            · exact h3
            · rw [hl0] at hj
              cases hj)
        have hc : L.length = 0 ∨ (¬ L.length = 0 ∧ tick < 0) ∨ (¬ L.length = 0 ∧ ¬ tick < 0 ∧ 2147483647 < tick) := by omega
        clear hbad hi hiL hll
        generalize L.length = m at hc i1 ⊢
        rcases hc with rfl | ⟨q1, q2⟩ | ⟨q1, q2, q3⟩
        all_goals
          try have q4 : ((m : Int) == 0) = false := by simp; omega
          try have q5 : ¬ (m : Int) = 0 := by omega
          go_wp2_with (first
            | (go_at_call 17; (with_reducible refine HN5.out.mono ?_); rintro e w6 ⟨r, rfl, h1, h2, g6⟩; obtain rfl := HRM.out r h1 h2; have G6 := Lib.hid g6; clear g6 h1 h2)
            | (go_at_call 10; (with_reducible refine (HL.out _).mono ?_); rintro e w7 ⟨rfl, b7⟩; have B7 := Lib.hid ((B1.out.trans (below_of_only (only_trans (only_trans G4.out HG.out) G6.out) B1.out.size (by simp))).trans (b7.mono (by have := B1.out.size; have := G4.out.size; have := HG.out.size; have := G6.out.size; omega))); clear b7))
          go_ret
          exact ⟨rfl, B7.out⟩
      · have q0 : 0 ≤ tick := by omega
        have q1 : tick ≤ 2147483647 := by omega
        have hLne : L ≠ [] := fun e => hbad (.inl (by rw [e]; rfl))
        have HFA := Lib.hid (fun r hx => HNF.out r q0 q1 hx hLne)
        have q2 : ¬ tick < 0 := by omega
        have q3 : ¬ 2147483647 < tick := by omega
        have hlp : ¬ L.length = 0 := by omega
        clear hbad hi hiL hll hLne
        generalize L.length = m at hlp i1 ⊢
        have q4 : ((m : Int) == 0) = false := by simp; omega
        have q5 : ¬ (m : Int) = 0 := by omega
        go_upto_region 15 with (go_at_call 17; (with_reducible refine HN5.out.mono ?_); rintro e w6 ⟨r, rfl, _, h2, g6⟩; have FA := Lib.hid (HFA.out r (h2 q0 q1)); have G6 := Lib.hid (only_trans HG.out g6); clear g6 h2)
        obtain ⟨p1, p2, p3, p4⟩ := FA.out
        have p5 : r ≤ 2147487743 := by omega
        have p6 : ¬ r < tick := by omega
        have p7 : ¬ (F : Int) ≤ r - tick := by omega
        have p8 : 0 ≤ r := by omega
        have HB1 := Lib.hid (show Calls Try.prog 18 #[.int .i64 F, .slice A n cap, .int .i64 r, .int .i64 o] w6 (fun e w' => e = .returned (.bool true) ∧ w6.grownBy w' none) from by
          have := HBG.out w6 (R1.out.grown (only_trans G4.out G6.out)) r (by omega)
          rw [p3] at this
          exact this)
        have HB2 := Lib.hid (fun (x : Int) (a1 : tick ≤ x) (a2 : x < r) (W : World) (g : w4.grownBy W none) => (show Calls Try.prog 18 #[.int .i64 F, .slice A n cap, .int .i64 x, .int .i64 o] W (fun e w' => e = .returned (.bool false) ∧ W.grownBy w' none) from by
          have := HBG.out W (R1.out.grown (only_trans G4.out g)) x (by omega)
          rw [p4 x a1 a2] at this
          exact this))
        clear p3 p4
        go_wp2_with (go_at_call 18; (with_reducible refine HB1.out.mono ?_); rintro e w7 ⟨rfl, g7⟩; have G7 := Lib.hid (only_trans G6.out g7); clear g7)
        go_loopw [14] (fun x wr => ∃ (x0 : Int), x = .int .i64 x0 ∧ tick ≤ x0 ∧ x0 ≤ r ∧ Hid (w4.grownBy wr none)) (fun x _ => (r - intOf x).toNat)
        case atStart => exact ⟨tick, rfl, by omega, by omega, G7⟩
        case round =>
          obtain ⟨x0, rfl, a1, a2, HGX⟩ := hrel
          by_cases hx : x0 < r
          · have HB3 := Lib.hid (HB2.out x0 a1 hx wr HGX.out)
            have hx1 : IntKind.i64.wrap (x0 + 1) = x0 + 1 := by rw [IntKind.wrap_i64]; omega
            go_wp2_with (go_at_call 18; (with_reducible refine HB3.out.mono ?_); rintro e w8 ⟨rfl, g8⟩; have G8 := Lib.hid (only_trans HGX.out g8); clear g8)
            go_roundw
            case rel => exact ⟨x0 + 1, by go_num, by omega, by omega, G8⟩
            case measure => simp [intOf] <;> omega
          · go_wp2_with (go_at_call 10; (with_reducible refine (HL.out _).mono ?_); rintro e w9 ⟨rfl, b9⟩; have B9 := Lib.hid ((B1.out.trans (below_of_only (only_trans G4.out HGX.out) B1.out.size (by simp))).trans (b9.mono (by have := B1.out.size; have := G4.out.size; have := HGX.out.size; omega))); clear b9)
            go_ret
            exact ⟨rfl, B9.out⟩
end Go.Proofs.Ytecpplaobbkemaa

/- How a machine's tables that came in by value are opened. -/
namespace Go.Proofs.Ytecpplaobbkemaa
open Go.RowKit Go.Lib Go.ChangeShapes Go.WideShapes Go.ChangeAt Go.Deep
set_option linter.unusedVariables false

theorem open_slots {H : Type} {enc : TypeId × Value → H} {w : World} {base : Nat} {spare : Nat → Bool} {held : Bool} {A : Option Addr} {len cap fuel : Nat} {x : DataW H × List MemPlace}
    (h : DataW.trod enc Try.prog w base spare held fuel 22 [.slice A len cap] = some x) : len ≤ cap ∧ cap ≤ 9223372036854775807 ∧ ∃ d, Row3 w A len d ∧ ∀ i, i < len → FitW3 (d i) := by
  obtain ⟨h1, h2, h3, h4⟩ := open_structs Try.underlying22 Try.underlying54 (by kernel_rfl) (by kernel_rfl) (by decide) h
  refine ⟨h1, by unfold maxLen at h2; omega, ?_⟩
  by_cases hp : 0 < len
  · obtain ⟨b, off, hA, hb, hc⟩ := h4 hp
    have hx : ∀ i, ∃ r : W3, i < len → (w.cell? ⟨b, off + i * 3, none⟩ = some (.int .i64 r.1) ∧ w.cell? ⟨b, off + i * 3 + 1, none⟩ = some (.int .i64 r.2.1) ∧ w.cell? ⟨b, off + i * 3 + 2, none⟩ = some (.int .i64 r.2.2)) ∧ FitW3 r := by
      intro i
      by_cases hi : i < len
      · obtain ⟨v0, n0, y0, c0, r0⟩ := hc i hi 0 _ rfl
        obtain ⟨v1, n1, y1, c1, r1⟩ := hc i hi 1 _ rfl
        obtain ⟨v2, n2, y2, c2, r2⟩ := hc i hi 2 _ rfl
        obtain ⟨p0, e0, _, w0⟩ := DataW.trod_int Try.underlying3 r0
        obtain ⟨p1, e1, _, w1⟩ := DataW.trod_int Try.underlying3 r1
        obtain ⟨p2, e2, _, w2⟩ := DataW.trod_int Try.underlying3 r2
        injection e0 with e0 _
        injection e1 with e1 _
        injection e2 with e2 _
        subst e0 e1 e2
        exact ⟨(p0, p1, p2), fun _ => ⟨⟨c0, c1, c2⟩, fitI_of w0, fitI_of w1, fitI_of w2⟩⟩
      · exact ⟨(0, 0, 0), fun h => absurd h hi⟩
    exact ⟨fun i => Classical.choose (hx i), ⟨fun h => (h3 h).1, fun _ => ⟨b, off, hA, hb, fun i hi => (Classical.choose_spec (hx i) hi).1⟩⟩, fun i hi => (Classical.choose_spec (hx i) hi).2⟩
  · exact ⟨fun _ => (0, 0, 0), ⟨fun h => (h3 h).1, fun h => absurd h hp⟩, fun i hi => absurd hi (by omega)⟩
/-- One field of a struct by value whose fields are one cell each. -/
theorem open_fieldc {H : Type} {enc : TypeId × Value → H} {P : Program} {w : World} {base : Nat} {spare : Nat → Bool} {held : Bool} {t : TypeId} {fs : Array Field} {fuel : Nat} {cs : List Value} {x : DataW H × List MemPlace}
    (hs : P.underlying t = some (.struct fs)) (hone : oneCellFields P fs = true) (h : DataW.trod enc P w base spare held fuel t cs = some x) {i : Nat} {f : Field} (hf : fs[i]? = some f) {c : Value} (hc : cs[i]? = some c) :
    ∃ n y, DataW.trod enc P w base spare held n f.type [c] = some y := by
  obtain ⟨xs, n, _, _, _, hlen, hfld⟩ := DataW.trod_struct hs h
  obtain ⟨o, k⟩ := hone_of hone i f hf
  have h1 := hfld i f hf
  have hi : i < fs.size := (Array.getElem?_eq_some_iff.1 hf).1
  have hcl : i < cs.length := (List.getElem?_eq_some_iff.1 hc).1
  have hce : cs[i] = c := (List.getElem?_eq_some_iff.1 hc).2
  rw [o, k, List.getElem?_eq_getElem (by omega), List.drop_eq_getElem_cons hcl, hce] at h1
  exact ⟨n, _, by simpa using h1⟩
theorem cutc4 {cs : Array Value} (h : cs.size = 4) : ∃ c0 c1 c2 c3, cs = #[c0, c1, c2, c3] := by
  obtain ⟨l⟩ := cs
  match l, h with
  | [c0, c1, c2, c3], _ => exact ⟨c0, c1, c2, c3, rfl⟩
theorem form_slice {H : Type} {enc : TypeId × Value → H} {P : Program} {w : World} {base : Nat} {spare : Nat → Bool} {held : Bool} {t e : TypeId} {fuel : Nat} {c : Value} {x : DataW H × List MemPlace}
    (ht : P.underlying t = some (.slice e)) (h : DataW.trod enc P w base spare held fuel t [c] = some x) : ∃ A n k, c = .slice A n k := by
  rcases open_slice ht h with ⟨hcs, _⟩ | ⟨a, l, k, m, n, D, Pl, hcs, _⟩
  · injection hcs with hcs _
    exact ⟨_, _, _, hcs⟩
  · injection hcs with hcs _
    exact ⟨_, _, _, hcs⟩
end Go.Proofs.Ytecpplaobbkemaa
