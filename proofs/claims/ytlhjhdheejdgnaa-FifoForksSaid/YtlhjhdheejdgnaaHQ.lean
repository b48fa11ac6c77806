/- A region that draws its order, and begins with a call that writes: what is ahead of the call is taken in the text's order, then the call, and behind it all only reads, so that one walk serves every order. No program is spoken of here. -/
import Derived.OrdersHeld
import Derived.Deep.RegionHeld
import Derived.Deep.QuietTactic
namespace Go.Proofs.Ytlhjhdheejdgnaa
open Go
set_option linter.unusedVariables false

section
variable {P : Program} {ops : Array Oper} {md : Region.Mode} {Q : Exit → Act → World → Prop} {S : World → Prop}

/-- What only reads, behind a world of a class, is held too. -/
theorem held_of_quiet {C : World → Prop} (hCS : ∀ w, C w → S w) {K : Act → Prop} (hK : ∀ a w, C w → K a → Q .normal a w) : ∀ (fuel : Nat) (listed : Array Bool) (a : Act) (w : World), C w →
    wpAnyQ P md ops C K fuel listed a → wpAnyH P md ops Q S fuel listed a w
  | 0, _, _, _, hw, h => ⟨h.1, hK _ _ hw h.2⟩
  | fuel + 1, _, _, _, hw, h => ⟨fun h0 => hK _ _ hw (h.1 h0), fun i hi => wpOp_of_qOp hw (fun a' w' hw' h' => ⟨hCS _ hw', held_of_quiet hCS hK fuel _ a' w' hw' h'⟩) (h.2 i hi)⟩

/-- The operations ahead of the call, one by one. -/
def wpAhead (P : Program) (ops : Array Oper) (S : World → Prop) (K : Act → Prop) : List Oper → Act → Prop
  | [], a => K a
  | o :: rest, a => ∃ v, YieldsIf P ops S o v a ∧ wpAhead P ops S K rest (a.put o.dst v)

/-- The text's order serves ahead of the call; then the call alone may come up; then the text's order serves again. -/
def thenB (md : Region.Mode) (ops : Array Oper) (g : Nat) : Nat → Nat → Array Bool → Bool
  | 0, k, listed => decide (Region.ready md ops listed = [k]) && Region.lexFrom md ops g (k + 1) (listed.setIfInBounds k true)
  | f + 1, k, listed => (Region.ready md ops listed).contains k && Region.free md ops listed k && thenB md ops g f (k + 1) (listed.setIfInBounds k true)

/-- What the call must leave: a class of worlds in which all that follows only reads. -/
def Reads (P : Program) (ops : Array Oper) (Q : Exit → Act → World → Prop) (S : World → Prop) (rest : List Oper) (a : Act) (w : World) : Prop :=
  ∃ C : World → Prop, C w ∧ (∀ w2, C w2 → S w2) ∧ wpQuiet P ops C (fun a2 => ∀ w2, C w2 → Q .normal a2 w2) rest a

theorem ahead_held (hsel : Region.noSelect ops = true) (hQ : ∀ c a d v w, Q (.panic c) (a.put d v) w → Q (.panic c) a w) {o : Oper} {rest : List Oper} {w : World} (hS : S w) (n : Nat) (ho : ops[n]? = some o) (hrest : ∀ j, rest[j]? = ops[n + 1 + j]?) :
    ∀ (l : List Oper) (k : Nat) (listed : Array Bool) (a : Act), k + l.length = n → (∀ j, j < l.length → l[j]? = ops[k + j]?) → thenB md ops rest.length l.length k listed = true →
      wpAhead P ops S (fun a' => ∀ K' : Act → World → Prop, Shut (∀ a1 w1, Reads P ops Q S rest a1 w1 → K' a1 w1) → if Region.wanted o (yielded ops a'.tmps) = true then Oper.wp P o a' w K' Q else K' (a'.put o.dst undef) w) l a →
      wpAnyH P md ops Q S (rest.length + 1 + l.length) listed a w
  | [], k, listed, a, hk, _, hB, h => by
    have hkn : k = n := by simpa using hk
    subst hkn
    simp only [List.length_nil, thenB, Bool.and_eq_true, decide_eq_true_eq] at hB
    refine wpAnyH_all hB.1 (by simp) fun i hi => ?_
    have hik : i = k := by simpa using hi
    subst hik
    refine wpOp_step ho fun K' hK => h K' fun a1 w1 hr => hK a1 w1 ?_
    obtain ⟨C, c1, c2, c3⟩ := hr
    refine ⟨c2 _ c1, held_of_quiet (C := C) (K := fun a2 => ∀ w2, C w2 → Q .normal a2 w2) c2 (fun a2 w2 h1 h2 => h2 w2 h1) _ _ _ _ c1 ?_⟩
    exact wpAnyQ_lex hsel rest (i + 1) _ a1 hrest hB.2 c3
  | x :: l, k, listed, a, hk, hl, hB, h => by
    simp only [List.length_cons, thenB, Bool.and_eq_true] at hB
    obtain ⟨⟨hr, hf⟩, hB'⟩ := hB
    have h0 : ops[k]? = some x := by simpa using (hl 0 (by simp)).symm
    obtain ⟨v, hy, hn⟩ := h
    have ih := ahead_held hsel hQ hS n ho hrest l (k + 1) (listed.setIfInBounds k true) (a.put x.dst v) (by simp only [List.length_cons] at hk; omega) (fun j hj => by
      have := hl (j + 1) (by simp; omega)
      simpa [Nat.add_assoc, Nat.add_comm 1 j] using this) hB' hn
    exact wpAnyH_take h0 hsel hf hr (fun c a w h => hQ c a _ _ w h) hy hS ih

/-- **A region of which number n is a call that writes, with what it needs ahead of it, and only reads behind it.** -/
theorem wp_region_then {id : Nat} {a : Act} {w : World} {l : List Oper} (n : Nat) (S : World → Prop) {o : Oper} (hm : P.follows .mixedOrders = true) (hsel : Region.noSelect l.toArray = true) (ho : l[n]? = some o)
    (hB : thenB .any l.toArray (l.drop (n + 1)).length (l.take n).length 0 (Array.replicate l.toArray.size false) = true) (hQ : ∀ c a d v w, Q (.panic c) (a.put d v) w → Q (.panic c) a w) (hS : S w.drew)
    (h : wpAhead P l.toArray S (fun a' => ∀ K' : Act → World → Prop, Shut (∀ a1 w1, Reads P l.toArray Q S (l.drop (n + 1)) a1 w1 → K' a1 w1) → if Region.wanted o (yielded l.toArray a'.tmps) = true then Oper.wp P o a' w.drew K' Q else K' (a'.put o.dst undef) w.drew) (l.take n) a) :
    (Code.region id l.toArray true).wp P Q a w := by
  refine wp_region_held_drew (S := S) hm hS fun _ => ?_
  have hn : n < l.length := (List.getElem?_eq_some_iff.1 ho).1
  have hlt : (l.take n).length = n := by simp; omega
  have hld : (l.drop (n + 1)).length + 1 + (l.take n).length = l.toArray.size := by rw [hlt]; simp; omega
  have := ahead_held (md := .any) (w := w.drew) hsel hQ hS n (by simpa using ho) (rest := l.drop (n + 1)) (fun j => by simp [List.getElem?_drop]) (l.take n) 0 (Array.replicate l.toArray.size false) a (by rw [hlt]; omega) (fun j hj => by
    rw [hlt] at hj
    simp [hj]) hB h
  rw [hld] at this
  exact this
end
end Go.Proofs.Ytlhjhdheejdgnaa
