/- How ports that came in are opened; what is sent comes: the law, whole. -/
import Derived.Test.YtjhihccjhnlghaaNP19
import Derived.Test.YtjhihccjhnlghaaF
namespace Go.Proofs.Ytjhihccjhnlghaa
open Go.RowKit Go.Lib Go.ChangeShapes Go.WideShapes Go.ChangeAt Go.Deep
set_option linter.unusedVariables false

def FitN (r : I3) : Prop := fitI r.1 ∧ fitI r.2.1 ∧ fitI r.2.2
/-- Ports that came in: their numbers, which fit. -/
theorem open_ports {H : Type} {enc : TypeId × Value → H} {w : World} {base : Nat} {spare : Nat → Bool} {held : Bool} {A : Option Addr} {len cap fuel : Nat} {x : DataW H × List MemPlace}
    (h : DataW.trod enc Try.prog w base spare held fuel 22 [.slice A len cap] = some x) : len ≤ cap ∧ cap ≤ 9223372036854775807 ∧ ∃ d, RowsN w A len cap d ∧ ∀ i, i < len → FitN (d i) := by
  obtain ⟨h1, h2, h3, h4⟩ := open_structs Try.underlying22 Try.underlying62 (by kernel_rfl) (by kernel_rfl) (by decide) h
  refine ⟨h1, by unfold maxLen at h2; omega, ?_⟩
  by_cases hp : 0 < len
  · obtain ⟨b, off, hA, hb, hc⟩ := h4 hp
    have hx : ∀ i, ∃ r : I3, i < len → (w.cell? ⟨b, off + i * 3, none⟩ = some (.int .i64 r.1) ∧ w.cell? ⟨b, off + i * 3 + 1, none⟩ = some (.int .i64 r.2.1) ∧ w.cell? ⟨b, off + i * 3 + 2, none⟩ = some (.int .i64 r.2.2)) ∧ FitN r := by
      intro i
      by_cases hi : i < len
      · obtain ⟨v0, n0, y0, c0, r0⟩ := hc i hi 0 _ rfl
        obtain ⟨v1, n1, y1, c1, r1⟩ := hc i hi 1 _ rfl
        obtain ⟨v2, n2, y2, c2, r2⟩ := hc i hi 2 _ rfl
        obtain ⟨p, e0, _, w0⟩ := DataW.trod_int Try.underlying3 r0
        obtain ⟨q, e1, _, w1⟩ := DataW.trod_int Try.underlying3 r1
        obtain ⟨s, e2, _, w2⟩ := DataW.trod_int Try.underlying3 r2
        injection e0 with e0 _
        injection e1 with e1 _
        injection e2 with e2 _
        subst e0 e1 e2
        exact ⟨(p, q, s), fun _ => ⟨⟨c0, c1, c2⟩, fitI_of w0, fitI_of w1, fitI_of w2⟩⟩
      · exact ⟨(0, 0, 0), fun h => absurd h hi⟩
    exact ⟨fun i => Classical.choose (hx i), ⟨fun h => h3 h, fun _ => ⟨b, off, hA, hb, fun i hi => (Classical.choose_spec (hx i) hi).1⟩⟩, fun i hi => (Classical.choose_spec (hx i) hi).2⟩
  · exact ⟨fun _ => (0, 0, 0), ⟨fun h => h3 h, fun h => absurd h hp⟩, fun i hi => absurd hi (by omega)⟩

theorem nback_call (A : Option Addr) (len cap : Nat) (d : Nat → I3) (fr to : Int) (s : ByteArray) (w : World) (hst : RowsN w A len cap d) (hf : ∀ i, i < len → FitN (d i)) (hlc : len ≤ cap) (hcm : cap ≤ 9223372036854775807) (hfr : fitI fr) (hto : fitI to) :
    Calls Try.prog 5 #[.slice A len cap, .int .i64 fr, .int .i64 to, .string s] w fun e w' => e = .returned (.bool true) ∧ Below w.heap.size w w' := by
  show Calls Try.prog 5 #[.slice A len cap, .int .i64 fr, .int .i64 to, .string s] w (BackV w)
  obtain ⟨n, hn⟩ : ∃ n, n = min len 8 := ⟨_, rfl⟩
  by_cases he : newE d n = 0
  · rcases ownI_cases (frp d) n fr with ⟨i, hi, hio, hfr⟩ | hio
    · rcases ownI_cases (frp d) n to with ⟨k, hk, hko, hto⟩ | hko
      · by_cases hs : (32 : Int) < (s.size : Int)
        · exact nback_off A len cap n d fr to s w hst hlc hcm hn (.inr (.inr (.inr ⟨he, by omega, by omega, hs⟩)))
        · by_cases hl : (d k).2.2 = 0
          · exact nback_zero A len cap n d fr to s w hst hlc hcm hn he (by omega) k hk hko hs hl
          · exact nback_on A len cap n d fr to s w hst hlc hcm hn he i hi hio hfr k hk hko hto hs hl
      · exact nback_off A len cap n d fr to s w hst hlc hcm hn (.inr (.inr (.inl ⟨he, by omega, by omega⟩)))
    · exact nback_off A len cap n d fr to s w hst hlc hcm hn (.inr (.inl ⟨he, by omega⟩))
  · exact nback_off A len cap n d fr to s w hst hlc hcm hn (.inl he)
end Go.Proofs.Ytjhihccjhnlghaa
