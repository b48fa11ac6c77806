/- The exchange of two parts of a row of spans: its contract. -/
import Derived.Test.YtgineifljofljaaT0
import Derived.Test.YtgineifljofljaaS3
namespace Go.Proofs.Ytgineifljofljaa
open Go.RowKit Go.Lib Go.Sort
set_option linter.unusedVariables false

set_option maxHeartbeats 1600000 in
theorem swap_any (g n cap a b c : Nat) (d : Nat → Int × Int) (w : World) (h : RowS w g n cap d) (hab : a + c ≤ b) (hb : b + c ≤ n) (hn : n ≤ 4611686018427387904) :
    Calls Try.prog 45 #[.slice (some ⟨g, 0, none⟩) n cap, .int .i64 a, .int .i64 b, .int .i64 c, .func (.func 37) #[] #[]] w fun r w' => r = .returned (.tuple #[]) ∧ RowS w' g n cap (So.swr d a b c) ∧ w.grownBy w' (some g) := by
  have H := Lib.hid h
  clear h
  go_enter Try.func45, Try.ntmps45
  go_wp2
  go_loopw [10] (fun i wr => ∃ (k : Nat), i = .int .i64 k ∧ k ≤ c ∧ RowS wr g n cap (So.swr d a b k) ∧ w.grownBy wr (some g)) (fun i _ => c - (intOf i).toNat)
  case atStart => exact ⟨0, by go_num, by omega, by rw [So.swr_zero]; exact H.out, only_refl _ _⟩
  case round =>
    obtain ⟨k, rfl, hk, hR, hg⟩ := hrel
    have HG := Lib.hid hg
    clear hg
    by_cases hkc : k < c
    · have hR2 : ∀ (x y : Int × Int), So.swr d a b k (a + k) = x → So.swr d a b k (b + k) = y → RowS ((((wr.setCell ⟨g, (a + k) * 2, none⟩ (.int .i64 y.1)).setCell ⟨g, (a + k) * 2 + 1, none⟩ (.int .i64 y.2)).setCell ⟨g, (b + k) * 2, none⟩ (.int .i64 x.1)).setCell ⟨g, (b + k) * 2 + 1, none⟩ (.int .i64 x.2)) g n cap (So.swr d a b (k + 1)) := fun x y hx hy => by
        rw [← So.swr_succ d (show a + (k + 1) ≤ b by omega), So.swp, hx, hy]
        exact (hR.put (show a + k < n by omega) y).put (show b + k < n by omega) x
      have c0 := hR.fst (show a + k < n by omega)
      have c1 := hR.snd (show a + k < n by omega)
      have c2 := hR.fst (show b + k < n by omega)
      have c3 := hR.snd (show b + k < n by omega)
      have f0 := hR.free ((a + k) * 2)
      have f1 := hR.free ((a + k) * 2 + 1)
      have f2 := hR.free ((b + k) * 2)
      have f3 := hR.free ((b + k) * 2 + 1)
      have HR2 := Lib.hid hR2
      clear hR2 hR
      generalize hx : So.swr d a b k (a + k) = x at c0 c1
      generalize hy : So.swr d a b k (b + k) = y at c2 c3
      have HR3 := Lib.hid (HR2.out x y hx hy)
      clear HR2 hx hy
      have i1 : IntKind.i64.wrap ((a : Int) + (k : Int)) = ((a + k : Nat) : Int) := by rw [IntKind.wrap_i64]; omega
      have i2 : IntKind.i64.wrap ((b : Int) + (k : Int)) = ((b + k : Nat) : Int) := by rw [IntKind.wrap_i64]; omega
      have i3 : a + k < n := by omega
      have i4 : b + k < n := by omega
      go_wp2
      go_region
      all_goals
        go_wp2
        go_roundw
        case rel => exact ⟨k + 1, by go_num, by omega, HR3.out, only_drewN (only_put (only_put (only_put (only_put HG.out _ _) _ _) _ _) _ _) 1⟩
        case measure => simp [intOf] <;> omega
    · obtain rfl : k = c := by omega
      go_wp2
      go_end0
      exact ⟨rfl, hR, HG.out⟩
end Go.Proofs.Ytgineifljofljaa
