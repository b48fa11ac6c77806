/- The library's insertion sort at spans: its contract. -/
import Derived.Test.YtgineifljofljaaS1
import Derived.BigRegion
import Derived.Lib.QuietBelow
namespace Go.Proofs.Ytgineifljofljaa
open Go.RowKit Go.Lib Go.Sort
set_option linter.unusedVariables false

/-- The row from a on, up to b, has been put in order. -/
def SortsTo (g n cap a b : Nat) (d : Nat → Int × Int) (w w' : World) : Prop := ∃ d', So.Perm a b d d' ∧ So.Sorted d' a b ∧ RowS w' g n cap d' ∧ w.grownBy w' (some g)

set_option maxHeartbeats 1600000 in
theorem insertion_any (g n cap a b : Nat) (d : Nat → Int × Int) (w : World) (h : RowS w g n cap d) (hab : a ≤ b) (hb : b ≤ n) (hn : n ≤ 4611686018427387904) :
    Calls Try.prog 42 #[.slice (some ⟨g, 0, none⟩) n cap, .int .i64 a, .int .i64 b, .func (.func 37) #[] #[]] w fun r w' => r = .returned (.tuple #[]) ∧ SortsTo g n cap a b d w w' := by
  have H := Lib.hid h
  clear h
  go_enter Try.func42, Try.ntmps42
  go_wp2
  go_loopw [8] (fun i wr => ∃ (k : Nat) (e : Nat → Int × Int), i = .int .i64 k ∧ a + 1 ≤ k ∧ (k ≤ b ∨ k = a + 1) ∧ Hid (So.Perm a b d e) ∧ Hid (So.Sorted e a k) ∧ RowS wr g n cap e ∧ w.grownBy wr (some g)) (fun i _ => b - (intOf i).toNat)
  case atStart => exact ⟨a + 1, d, by go_num, by omega, by omega, So.Perm.refl _ _ _, So.Sorted.one _ _, H.out, only_refl _ _⟩
  case round =>
    obtain ⟨k, e, rfl, hk1, hk2, HP, HS, hR, hg⟩ := hrel
    have HR := Lib.hid hR
    have HG := Lib.hid hg
    clear hR hg
    by_cases hkb : k < b
    · obtain ⟨wo, hwo⟩ : ∃ wo : World, wo = wr := ⟨_, rfl⟩
      subst hwo
      go_wp2
      go_loopw [9] (fun i wr => ∃ (j : Nat) (f : Nat → Int × Int), i = .int .i64 j ∧ a ≤ j ∧ j ≤ k ∧ Hid (So.Perm a b d f) ∧ Hid (So.Ins f a k j) ∧ RowS wr g n cap f ∧ w.grownBy wr (some g)) (fun i _ => (intOf i).toNat)
      case atStart => exact ⟨k, e, rfl, by omega, by omega, HP, So.Ins.start HS.out, HR.out, HG.out⟩
      case round =>
        obtain ⟨j, f, rfl, hj1, hj2, HPf, HI, hR2, hg2⟩ := hrel
        have HR2 := Lib.hid hR2
        have HG2 := Lib.hid hg2
        clear hR2 hg2
        by_cases hja : a < j
        · obtain ⟨jp, rfl⟩ : ∃ jp, j = jp + 1 := ⟨j - 1, by omega⟩
          have c0 := HR2.out.fst (show jp + 1 < n by omega)
          have c1 := HR2.out.snd (show jp + 1 < n by omega)
          have c2 := HR2.out.fst (show jp < n by omega)
          have c3 := HR2.out.snd (show jp < n by omega)
          obtain ⟨x, hx⟩ : ∃ x, x = f (jp + 1) := ⟨_, rfl⟩
          obtain ⟨y, hy⟩ : ∃ y, y = f jp := ⟨_, rfl⟩
          rw [← hx] at c0 c1
          rw [← hy] at c2 c3
          have HX := Lib.hid hx
          have HY := Lib.hid hy
          clear hx hy
          have i1 : (jp : Int) + 1 < (n : Int) := by omega
          have i3 : (jp : Int) < (n : Int) := by omega
          have i4 : (a : Int) < (jp : Int) + 1 := by omega
          have i5 : (0 : Int) ≤ (jp : Int) + 1 := by omega
          have i6 : IntKind.i64.wrap (jp : Int) = (jp : Int) := by rw [IntKind.wrap_i64]; omega
          have i7 : ((jp : Int) + 1).toNat = jp + 1 := by omega
          have hc := So.cmpS_neg x y
          obtain ⟨c, hcc⟩ : ∃ c, c = So.cmpS x y := ⟨_, rfl⟩
          have hcall := fun W => cmp_any x y W
          simp only [← hcc] at hcall
          rw [← hcc] at hc
          have HCALL := Lib.hid hcall
          have HC := Lib.hid hc
          clear hcall hc hcc
          have k0 := fun d os => cell_regrown c0 d os
          have k1 := fun d os => cell_regrown c1 d os
          have k2 := fun d os => cell_regrown c2 d os
          have k3 := fun d os => cell_regrown c3 d os
          clear c0 c1 c2 c3
          go_wp2
          refine wp_region_quiet_below (by kernel_rfl) (by kernel_rfl) ?_
          repeat (quiet_step ((go_at_call 37; exact Calls.regrown_of ((HCALL.out _).mono fun _ _ ⟨h1, h2⟩ => ⟨h1, below_of_only h2 (Nat.le_refl _) (by simp)⟩))))
          refine wpQuiet_nil ?_
          rintro _ ⟨⟨dq, osq⟩, rfl⟩
          have hb2 := below_regrown wr dq osq
          generalize grow (redrawn wr dq) osq = w2 at hb2 ⊢
          have hR3 := HR2.out.below hb2
          by_cases hcn : c < 0
          · have c0 := hR3.fst (show jp + 1 < n by omega)
            have c1 := hR3.snd (show jp + 1 < n by omega)
            have c2 := hR3.fst (show jp < n by omega)
            have c3 := hR3.snd (show jp < n by omega)
            have f0 := hR3.free ((jp + 1) * 2)
            have f1 := hR3.free ((jp + 1) * 2 + 1)
            have f2 := hR3.free (jp * 2)
            have f3 := hR3.free (jp * 2 + 1)
            rw [← HX.out] at c0 c1
            rw [← HY.out] at c2 c3
            have HR3 := Lib.hid hR3
            have HB2 := Lib.hid hb2
            clear hR3 hb2
            go_wp2
            go_region
            all_goals
              go_wp2
              go_roundw
              case rel =>
                refine ⟨jp, So.swp f (jp + 1) jp, by go_num, by omega, by omega, HPf.out.trans (So.Perm.swp f ⟨by omega, by omega⟩ ⟨by omega, by omega⟩), HI.out.step (by omega) hj2 (by show So.lt (f (jp + 1)) (f jp); rw [← HX.out, ← HY.out]; exact HC.out.1 (by assumption)), ?_, ?_⟩
                · have q := ((HR3.out.put (show jp + 1 < n by omega) y).put (show jp < n by omega) x).drewN 1
                  rw [HX.out, HY.out] at q
                  try rw [HX.out, HY.out]
                  exact q
                · exact only_drewN (only_put (only_put (only_put (only_put (only_trans HG2.out (only_any ⟨HB2.out.os, HB2.out.tape, HB2.out.output, HB2.out.size, fun i hi _ => HB2.out.block i hi⟩ _)) _ _) _ _) _ _) _ _) 1
              case measure => simp [intOf] <;> omega
          · have hR4 := Lib.hid hR3
            have HB2 := Lib.hid hb2
            clear hR3 hb2
            go_wp2
            go_roundw
            case rel =>
              refine ⟨k + 1, f, by go_num, by omega, by omega, HPf, HI.out.done hj2 hj1 (.inr (by show ¬ So.lt (f (jp + 1)) (f jp); rw [← HX.out, ← HY.out]; exact fun h => absurd (HC.out.2 h) (by omega))), hR4.out, ?_⟩
              exact only_trans HG2.out (only_any ⟨HB2.out.os, HB2.out.tape, HB2.out.output, HB2.out.size, fun i hi _ => HB2.out.block i hi⟩ _)
            case measure => simp [intOf] <;> omega
        · obtain rfl : j = a := by omega
          go_wp2
          go_quiet (fail)
          go_wp2
          go_roundw
          case rel => exact ⟨k + 1, f, by go_num, by omega, by omega, HPf, HI.out.done hj2 hj1 (.inl rfl), HR2.out, only_drewN HG2.out _⟩
          case measure => simp [intOf] <;> omega
    · go_wp2
      go_end0
      exact ⟨rfl, e, HP.out, fun p q h1 h2 h3 => HS.out p q h1 h2 (by omega), HR.out, HG.out⟩
end Go.Proofs.Ytgineifljofljaa
