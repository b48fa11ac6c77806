/- SpanSorts: sorted spans are the same ones, in order: for every spans (of which the first 60 count) the law returns true. No condition. -/
import Derived.Test.YthneljkaieckeaaU3
import Derived.ShutString
import Derived.ChangeOld
namespace Go.Proofs.Ythneljkaieckeaa
open Go.RowKit Go.Lib Go.Sort
set_option linter.unusedVariables false

theorem RowV.spans {w : World} {B n : Nat} {v : Value} {d : Nat → Int × Int} (h : RowV w B v n d) : ∃ A c, v = .slice A n c ∧ Spans w A n c d := by
  rcases h with ⟨rfl, rfl⟩ | ⟨g, c, rfl, _, h⟩
  · exact ⟨none, 0, rfl, fun _ => ⟨rfl, rfl⟩, fun h => absurd h (by omega)⟩
  · exact ⟨_, c, rfl, h.spans n (Nat.le_refl _) c⟩
theorem Spans.cut {w : World} {A : Option Addr} {len cap : Nat} {d : Nat → Int × Int} (h : Spans w A len cap d) (m : Nat) (hm : m ≤ len) : Spans w A m cap d := by
  refine ⟨fun hn => ⟨by have := (h.1 hn).1; omega, (h.1 hn).2⟩, fun hp => ?_⟩
  obtain ⟨b, off, h1, h2, h3⟩ := h.2 (by omega)
  exact ⟨b, off, h1, h2, fun i hi => h3 i (by omega)⟩

end Go.Proofs.Ythneljkaieckeaa
