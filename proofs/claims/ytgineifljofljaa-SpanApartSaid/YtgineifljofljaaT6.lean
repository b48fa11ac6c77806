/- The merge in place, and the stable sort: their contracts. -/
import Derived.Test.YtgineifljofljaaT5b
namespace Go.Proofs.Ytgineifljofljaa
open Go.RowKit Go.Lib Go.Sort
set_option linter.unusedVariables false

theorem merge_ok (g n cap : Nat) (hn : n ≤ 1000000) (L : Nat) : MergeOK g n cap L := by
  induction L with
  | zero => exact fun a m b d w h => by omega
  | succ L ih =>
    intro a m b d w hL h ham hmb hb h1 h2
    have ih' : MergeOK g n cap (b - a) := fun a' m' b' d' w' hl => ih a' m' b' d' w' (by omega)
    by_cases c1 : m = a + 1
    · exact merge_first g n cap a m b d w h c1 hmb hb (by omega) h2
    · by_cases c2 : b = m + 1
      · exact merge_last g n cap a m b d w h c2 (by omega) hb (by omega) h1
      · by_cases c3 : (a + b) / 2 < m
        · exact merge_more g n cap a m b d w h (by omega) (by omega) hb hn h1 h2 ih' ((a + b) / 2) (by omega) (by omega) c3
        · exact merge_less g n cap a m b d w h (by omega) (by omega) hb hn h1 h2 ih' ((a + b) / 2) (by omega) (by omega) (by omega)
theorem merge_row (g n cap a m b : Nat) (d : Nat → Int × Int) (w : World) (hn : n ≤ 1000000) (h : RowS w g n cap d) (ham : a < m) (hmb : m < b) (hb : b ≤ n) (h1 : So.Sorted d a m) (h2 : So.Sorted d m b) :
    Calls Try.prog 43 #[.slice (some ⟨g, 0, none⟩) n cap, .int .i64 a, .int .i64 m, .int .i64 b, .func (.func 37) #[] #[]] w fun r w' => r = .returned (.tuple #[]) ∧ SortsTo g n cap a b d w w' :=
  merge_ok g n cap hn (b - a + 1) a m b d w (by omega) h ham hmb hb h1 h2

/-- In blocks of s, up to p, the row stands in order; behind p, up to n, in blocks of t. -/
def Blocks (d : Nat → Int × Int) (s p t n : Nat) : Prop := (∀ c, s * c + s ≤ p → So.Sorted d (s * c) (s * c + s)) ∧ (∀ c, p ≤ t * c → t * c < n → So.Sorted d (t * c) (min (t * c + t) n))

end Go.Proofs.Ytgineifljofljaa
