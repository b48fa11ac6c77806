import Derived.Test.YticmgkdhdfkpeaaZ03
import Derived.Test.YticmgkdhdfkpeaaZ01
import Derived.ProofKit
import Derived.OpenShut
import Derived.ShutString
import Derived.ChangeOld
import Derived.Deep.Slices
import Derived.Deep.Fields
import Derived.Lib.Hide
import Derived.LoopTactic
set_option linter.all false
/- What the account counts is what the document's counts. -/
namespace Go.Proofs.Yticmgkdhdfkpeaa
open Go.RowKit Go.Lib Go.Sort
set_option linter.unusedVariables false
set_option maxRecDepth 8000

/-- Of each frame from the account's own on: what the list says was used. -/
def Qt.Inv1 (n : Nat) (s : Qt.St) (l : List Qt.En) : Prop := ∀ p i : Nat, s.fr ≤ p → i < n → Qt.cnt l p ((i : Int) + 1) true = Qt.eff s p i
/-- Of all frames together. -/
def Qt.Inv2 (n : Nat) (s : Qt.St) (l : List Qt.En) : Prop := (∀ i : Nat, i < n → s.T i = Qt.cnt l (-1) ((i : Int) + 1) true ∧ s.D i = Qt.cnt l (-1) ((i : Int) + 1) false) ∧ ∀ (o : Int) (b : Bool), ¬ (1 ≤ o ∧ o ≤ n) → Qt.cnt l (-1) o b = 0
theorem Qt.Inv1.nil (n : Nat) : Qt.Inv1 n Qt.s0 [] := fun p i _ _ => by
  unfold Qt.eff
  split <;> rfl
theorem Qt.Inv2.nil (n : Nat) : Qt.Inv2 n Qt.s0 [] := ⟨fun i _ => ⟨rfl, rfl⟩, fun _ _ _ => rfl⟩
theorem Qt.hit_off {p o : Int} {b : Bool} {e : Qt.En} (h : ¬ (e.2.1 = o ∧ e.2.2 = b ∧ (p < 0 ∨ e.1 = p))) : Qt.hit p o b e = false := by
  unfold Qt.hit
  exact decide_eq_false h
theorem Qt.hit_on {p o : Int} {b : Bool} {e : Qt.En} (h : e.2.1 = o ∧ e.2.2 = b ∧ (p < 0 ∨ e.1 = p)) : Qt.hit p o b e = true := by
  unfold Qt.hit
  exact decide_eq_true h
theorem Qt.cnt_off {l : List Qt.En} {p o : Int} {b : Bool} {e : Qt.En} (h : ¬ (e.2.1 = o ∧ e.2.2 = b ∧ (p < 0 ∨ e.1 = p))) : Qt.cnt (l ++ [e]) p o b = Qt.cnt l p o b := by
  rw [Qt.cnt_one, Qt.hit_off h]; rfl
theorem Qt.cnt_on {l : List Qt.En} {p o : Int} {b : Bool} {e : Qt.En} (h : e.2.1 = o ∧ e.2.2 = b ∧ (p < 0 ∨ e.1 = p)) : Qt.cnt (l ++ [e]) p o b = Qt.cnt l p o b + 1 := by
  rw [Qt.cnt_one, Qt.hit_on h]; rfl
theorem Qt.eff_at (s : Qt.St) {p : Nat} (h : s.fr = p) : Qt.eff s p = s.U := by unfold Qt.eff; rw [if_neg (by omega)]
theorem Qt.eff_up (s : Qt.St) {p : Nat} (h : s.fr < p) : Qt.eff s p = Qt.z0 := by unfold Qt.eff; rw [if_pos h]
/-- What a refused one leaves. -/
theorem Qt.Inv1.full {n : Nat} {s : Qt.St} {l : List Qt.En} (h : Qt.Inv1 n s l) {p : Nat} (hp : s.fr ≤ p) (T D : Nat → Nat) : Qt.Inv1 n ⟨p, Qt.eff s p, T, D⟩ l := fun q i hq hi => by
  have hq' : p ≤ q := hq
  rw [h q i (by omega) hi]
  by_cases e : p = q
  · subst e; rw [Qt.eff_at ⟨p, Qt.eff s p, T, D⟩ rfl]
  · rw [Qt.eff_up ⟨p, Qt.eff s p, T, D⟩ (show p < q by omega), Qt.eff_up s (by omega)]
theorem Qt.Inv1.more {n : Nat} {s : Qt.St} {l : List Qt.En} (h : Qt.Inv1 n s l) {p : Nat} (hp : s.fr ≤ p) (i0 : Nat) (T D : Nat → Nat) : Qt.Inv1 n ⟨p, Qt.upd (Qt.eff s p) i0 (Qt.eff s p i0 + 1), T, D⟩ (l ++ [((p : Int), (i0 : Int) + 1, true)]) := fun q i hq hi => by
  have hq' : p ≤ q := hq
  by_cases e : p = q
  · subst e
    rw [Qt.eff_at ⟨p, Qt.upd (Qt.eff s p) i0 (Qt.eff s p i0 + 1), T, D⟩ rfl]
    show _ = Qt.upd (Qt.eff s p) i0 (Qt.eff s p i0 + 1) i
    by_cases ei : i = i0
    · subst ei
      rw [Qt.upd_at, Qt.cnt_on ⟨rfl, rfl, .inr rfl⟩, h p i hp hi]
    · rw [Qt.upd_off _ _ ei, Qt.cnt_off (by rintro ⟨a, _⟩; exact ei (by simp at a; omega)), h p i hp hi]
  · rw [Qt.eff_up ⟨p, Qt.upd (Qt.eff s p) i0 (Qt.eff s p i0 + 1), T, D⟩ (show p < q by omega), Qt.cnt_off (by rintro ⟨_, _, a⟩; simp at a; omega), h q i (by omega) hi, Qt.eff_up s (by omega)]
theorem Qt.Inv1.off {n : Nat} {s : Qt.St} {l : List Qt.En} (h : Qt.Inv1 n s l) (e : Qt.En) (he : e.2.2 = false) : Qt.Inv1 n s (l ++ [e]) := fun q i hq hi => by
  rw [Qt.cnt_off (by rw [he]; simp), h q i hq hi]
theorem Qt.Inv1.go {n : Nat} {s : Qt.St} {l : List Qt.En} (h : Qt.Inv1 n s l) (Q : Nat → Nat) {p : Nat} (hp : s.fr ≤ p) (i0 : Nat) : Qt.Inv1 n (Qt.go Q s p i0).1 (l ++ [((p : Int), (i0 : Int) + 1, (Qt.go Q s p i0).2)]) := by
  unfold Qt.go
  split
  · exact (h.full hp _ _).off _ rfl
  · exact h.more hp i0 _ _
theorem Qt.Inv1.go2 {n : Nat} {s : Qt.St} {l : List Qt.En} (h : Qt.Inv1 n s l) (Q : Nat → Nat) {p : Nat} (hp : s.fr ≤ p) (i0 : Nat) (hr : (Qt.go Q s p i0).2 = false) : Qt.Inv1 n (Qt.go Q s p i0).1 l := by
  unfold Qt.go at hr ⊢
  split
  · exact h.full hp _ _
  · rename_i k
    rw [if_neg k] at hr
    cases hr
theorem Qt.Inv2.go {n : Nat} {s : Qt.St} {l : List Qt.En} (h : Qt.Inv2 n s l) (Q : Nat → Nat) (p i0 : Nat) (hi0 : i0 < n) : Qt.Inv2 n (Qt.go Q s p i0).1 (l ++ [((p : Int), (i0 : Int) + 1, (Qt.go Q s p i0).2)]) := by
  have hoff : ∀ (o : Int) (b r : Bool), ¬ (1 ≤ o ∧ o ≤ n) → Qt.cnt (l ++ [((p : Int), (i0 : Int) + 1, r)]) (-1) o b = 0 := fun o b r ho => by
    rw [Qt.cnt_off (by rintro ⟨a, _⟩; exact ho (by simp at a; omega)), h.2 o b ho]
  unfold Qt.go
  split
  · refine ⟨fun i hi => ⟨?_, ?_⟩, fun o b ho => hoff o b _ ho⟩
    · rw [Qt.cnt_off (by simp)]; exact (h.1 i hi).1
    · show Qt.upd s.D i0 (s.D i0 + 1) i = _
      by_cases e : i = i0
      · subst e; rw [Qt.upd_at, Qt.cnt_on ⟨rfl, rfl, .inl (by decide)⟩, (h.1 i hi).2]
      · rw [Qt.upd_off _ _ e, Qt.cnt_off (by rintro ⟨a, _⟩; exact e (by simp at a; omega))]; exact (h.1 i hi).2
  · refine ⟨fun i hi => ⟨?_, ?_⟩, fun o b ho => hoff o b _ ho⟩
    · show Qt.upd s.T i0 (s.T i0 + 1) i = _
      by_cases e : i = i0
      · subst e; rw [Qt.upd_at, Qt.cnt_on ⟨rfl, rfl, .inl (by decide)⟩, (h.1 i hi).1]
      · rw [Qt.upd_off _ _ e, Qt.cnt_off (by rintro ⟨a, _⟩; exact e (by simp at a; omega))]; exact (h.1 i hi).1
    · rw [Qt.cnt_off (by simp)]; exact (h.1 i hi).2
/-- Totals, by the list. -/
theorem Qt.Inv2.tot {n : Nat} {s : Qt.St} {l : List Qt.En} (h : Qt.Inv2 n s l) (o : Int) : Qt.tot n s o = Qt.cnt l (-1) o true := by
  unfold Qt.tot
  by_cases ho : 1 ≤ o ∧ o ≤ n
  · rw [if_pos ho, (h.1 (o - 1).toNat (by omega)).1, show (((o - 1).toNat : Nat) : Int) + 1 = o by omega]
  · rw [if_neg ho, h.2 o true ho]
theorem Qt.Inv2.ref {n : Nat} {s : Qt.St} {l : List Qt.En} (h : Qt.Inv2 n s l) (o : Int) : Qt.ref n s o = Qt.cnt l (-1) o false := by
  unfold Qt.ref
  by_cases ho : 1 ≤ o ∧ o ≤ n
  · rw [if_pos ho, (h.1 (o - 1).toNat (by omega)).2, show (((o - 1).toNat : Nat) : Int) + 1 = o by omega]
  · rw [if_neg ho, h.2 o false ho]
theorem Qt.split {f n fr : Nat} {t o : Int} (hk : Qt.ok f n fr t o) : ∃ i p : Nat, o = (i : Int) + 1 ∧ i < n ∧ t / f = p ∧ fr ≤ p ∧ (o - 1).toNat = i ∧ (t / f).toNat = p := by
  obtain ⟨k1, k2, k3, k4, k5⟩ := hk
  obtain ⟨i, hi⟩ := Int.eq_ofNat_of_zero_le (show 0 ≤ o - 1 by omega)
  obtain ⟨p, hp⟩ := Int.eq_ofNat_of_zero_le (Int.ediv_nonneg k3 (show 0 ≤ (f : Int) by omega))
  exact ⟨i, p, by omega, by omega, hp, by rw [hp] at k5; simpa using k5, by omega, by rw [hp]; simp⟩
section
variable {f n c : Nat} {A : Option Addr} {v : Value} {d : Nat → Int} {s : Qt.St} {l : List Qt.En}
theorem Qt.rleft_any (t o : Int) (w : World) (f1 : 1 ≤ f) (hn8 : n ≤ 8) (hd : Qt.NumL w A n d) (hf : Qt.fine d n) (hl : l.length ≤ 1000) (hr : RowZ 3 w v l.length (Qt.enL l)) (hI : Qt.Inv1 n s l) : Calls Try.prog 11 #[.agg #[.int .i64 f, .slice A n c, .int .i64 s.fr, v], .int .i64 t, .int .i64 o] w fun e w' => e = .returned (.int .i64 (Qt.left f n (Qt.mix d n) s t o)) ∧ Below w.heap.size w w' := by
  unfold Qt.left
  by_cases hk : Qt.ok f n s.fr t o
  · rw [if_pos hk]
    obtain ⟨i, p, rfl, hi, hp, hfr, e1, e2⟩ := Qt.split hk
    rw [e1, e2]
    have := hf i hi
    have hq : ((Qt.mix d n i : Nat) : Int) = d i := by unfold Qt.mix; rw [if_pos hi]; omega
    rw [hq, ← hI p i hfr hi]
    exact Qt.rleft_yes f n s.fr c i p A v t d l w f1 hk hi hn8 hp hd this hl hr
  · rw [if_neg hk]
    exact Qt.rleft_no f n s.fr c A v t o w f1 hk
/-- What a unit more leaves of the document's account. -/
def Qt.RuseN (f n c : Nat) (A : Option Addr) (s' : Qt.St) (r : Bool) (m : Nat) (v : Value) (e : Ending) (w w' : World) : Prop :=
  ∃ A2 c2 l', e = .returned (.tuple #[.agg #[.int .i64 f, .slice A n c, .int .i64 s'.fr, .slice A2 l'.length c2], .bool r]) ∧ RowZ 3 w' (.slice A2 l'.length c2) l'.length (Qt.enL l') ∧ l'.length ≤ m + 1 ∧ Qt.Inv1 n s' l' ∧ Qt.Inv2 n s' l' ∧ w.grownBy w' none ∧ ∀ j, (Value.slice A2 l'.length c2).ownBlock = some j → v.ownBlock = some j ∨ w.heap.size ≤ j
theorem Qt.ruse_any (t o : Int) (w : World) (m : Nat) (f1 : 1 ≤ f) (hn8 : n ≤ 8) (hd : Qt.NumL w A n d) (hf : Qt.fine d n) (hm : l.length ≤ m) (hl : m ≤ 900) (hr : RowZ 3 w v l.length (Qt.enL l)) (hI : Qt.Inv1 n s l) (hJ : Qt.Inv2 n s l) : Calls Try.prog 12 #[.agg #[.int .i64 f, .slice A n c, .int .i64 s.fr, v], .int .i64 t, .int .i64 o] w fun e w' => Qt.RuseN f n c A (Qt.use f n (Qt.mix d n) s t o).1 (Qt.use f n (Qt.mix d n) s t o).2 m v e w w' := by
  unfold Qt.use
  by_cases hk : Qt.ok f n s.fr t o
  · rw [if_pos hk]
    obtain ⟨i, p, rfl, hi, hp, hfr, e1, e2⟩ := Qt.split hk
    rw [e1, e2]
    have hdi := hf i hi
    have hq : ((Qt.mix d n i : Nat) : Int) = d i := by unfold Qt.mix; rw [if_pos hi]; omega
    have hc := hI p i hfr hi
    have hok : (Qt.go (Qt.mix d n) s p i).2 = decide (0 < d i - (Qt.cnt l p ((i : Int) + 1) true : Int)) := by
      unfold Qt.go
      rw [hc]
      split
      · rename_i k
        exact (decide_eq_false (by omega)).symm
      · rename_i k
        exact (decide_eq_true (by omega)).symm
    have h1 := hI.go (Qt.mix d n) hfr i
    have h2 := hJ.go (Qt.mix d n) p i hi
    have h3 : (Qt.go (Qt.mix d n) s p i).1.fr = p := by unfold Qt.go; split <;> rfl
    refine (Qt.ruse_yes f n s.fr c i p A v t d l w f1 hk hi hn8 hp hd hdi (by omega) hr _ hok).mono fun e w' hab => ?_
    obtain ⟨v2, a1, a2, a3, a4⟩ := hab
    obtain ⟨A2, c2, rfl⟩ := a2.form
    refine ⟨A2, c2, l ++ [((p : Int), (i : Int) + 1, (Qt.go (Qt.mix d n) s p i).2)], ?_, ?_, by simp; omega, h1, h2, a3, ?_⟩
    · rw [a1, h3]; simp
    · simpa using a2
    · intro j hj; exact .inr (a4 j (by simpa using hj))
  · rw [if_neg hk]
    obtain ⟨A2, c2, rfl⟩ := hr.form
    refine (Qt.ruse_no f n s.fr c A A2 l.length c2 t o w f1 hk).mono fun e w' hab => ?_
    exact ⟨A2, c2, l, hab.1, hr.grown hab.2, by omega, hI, hJ, hab.2, fun j hj => .inl hj⟩
end
end Go.Proofs.Yticmgkdhdfkpeaa

/- How a slice of structs that came in is opened: each element's fields as1 cells. -/
namespace Go.Proofs.Yticmgkdhdfkpeaa
open Go.RowKit Go.Lib Go.ChangeShapes Go.WideShapes Go.ChangeAt Go.Deep

theorem addr_plain {w : World} {a : Addr} {i : Nat} {v : Value} (h : w.cell? (a.add i) = some v) : a.add i = ⟨a.block, a.off + i, none⟩ := by
  have hs := World.cell?_spot h
  unfold Addr.add at hs ⊢
  split at hs
  · obtain ⟨b, o, s⟩ := a
    simp_all
  · rename_i h0
    rw [if_neg h0]

theorem add_add_plain {a : Addr} (i j : Nat) : (a.add i).add j = a.add (i + j) := by
  unfold Addr.add
  by_cases hi : i = 0 <;> by_cases hj : j = 0 <;> simp [hi, hj, Nat.add_assoc]

section
variable {H : Type} {enc : TypeId × Value → H} {P : Program} {w : World} {base : Nat} {spare : Nat → Bool} {held : Bool}

/-- The cells of a slice of structs, row by row, and what each reads as1. -/
theorem open_structs {t e : TypeId} {fs : Array Field} {fuel : Nat} {A : Option Addr} {len cap : Nat} {x : DataW H × List MemPlace} (ht : P.underlying t = some (.slice e)) (he : P.underlying e = some (.struct fs))
    (hone : oneCellFields P fs = true) (hC : P.cellsOf e = fs.size) (hpos : 0 < fs.size) (h : DataW.trod enc P w base spare held fuel t [.slice A len cap] = some x) :
    len ≤ cap ∧ cap ≤ maxLen ∧ (A = none → len = 0 ∧ cap = 0) ∧ (0 < len → ∃ b off, A = some ⟨b, off, none⟩ ∧ b < w.heap.size ∧
      ∀ i, i < len → ∀ (j : Nat) (f : Field), fs[j]? = some f → ∃ (v : Value) (n : Nat) (y : DataW H × List MemPlace), w.cell? ⟨b, off + (i * fs.size + j), none⟩ = some v ∧ DataW.trod enc P w base spare held n f.type [v] = some y) := by
  rcases open_slice ht h with ⟨hcs, _⟩ | ⟨a, l, c, m, n, D, Pl, hcs, hb, hl, hm, hmm, hx, hi⟩
  · injection hcs with hcs _
    injection hcs with h1 h2 h3
    subst h1 h2 h3
    exact ⟨Nat.le_refl _, by simp [maxLen], fun _ => ⟨rfl, rfl⟩, fun h0 => absurd h0 (by omega)⟩
  · injection hcs with hcs _
    injection hcs with h1 h2 h3
    subst h1 h2 h3
    refine ⟨hl, hm, fun h0 => (by cases h0), fun hpl => ?_⟩
    have hml : len ≤ m := by rw [hmm]; split <;> omega
    have main : ∀ i, i < len → ∀ (j : Nat) (f : Field), fs[j]? = some f → ∃ (v : Value) (n : Nat) (y : DataW H × List MemPlace), w.cell? (a.add (i * fs.size + j)) = some v ∧ DataW.trod enc P w base spare held n f.type [v] = some y := by
      intro i hil j f hj
      obtain ⟨cs', hc, ht'⟩ := hi i (by omega)
      rw [hC] at hc
      obtain ⟨ys, n', hn', hy, hlen, hyl, hf⟩ := DataW.trod_struct he ht'
      obtain ⟨_, hcl, hat⟩ := World.cells?_some hc
      obtain ⟨ho, hk⟩ := hone_of hone j f hj
      have hjl : j < fs.size := (Array.getElem?_eq_some_iff.1 hj).1
      have hcell := hat j hjl
      have hv : cs'[j]? = some (cs'[j]'(by omega)) := List.getElem?_eq_getElem (by omega)
      have h1 := hf j f hj
      rw [ho, hk] at h1
      have hd : (cs'.drop j).take 1 = [cs'[j]'(by omega)] := by
        rw [List.drop_eq_getElem_cons (by omega)]
        rfl
      rw [hd] at h1
      have hys : ys[j]? = some (ys[j]'(by omega)) := List.getElem?_eq_getElem (by omega)
      refine ⟨_, n', _, ?_, h1.trans hys⟩
      rw [← add_add_plain, hcell, hv]
    obtain ⟨f0, hf0⟩ : ∃ f, fs[0]? = some f := ⟨_, Array.getElem?_eq_getElem hpos⟩
    obtain ⟨v0, _, _, hc0, _⟩ := main 0 hpl 0 f0 hf0
    have hsp : a.spot = none := by
      have := World.cell?_spot hc0
      simpa [Addr.add] using this
    obtain ⟨b, off, sp⟩ := a
    simp only at hsp
    subst hsp
    have hbl : b < w.heap.size := by
      rcases Nat.lt_or_ge b w.heap.size with hlt | hge
      · exact hlt
      · have hp := addr_plain hc0
        rw [hp] at hc0
        simp [World.cell?, Array.getElem?_eq_none hge] at hc0
    refine ⟨b, off, rfl, hbl, fun i hil j f hj => ?_⟩
    obtain ⟨v, n2, y, hc2, hy2⟩ := main i hil j f hj
    have hp := addr_plain hc2
    rw [hp] at hc2
    exact ⟨v, n2, y, hc2, hy2⟩
end
end Go.Proofs.Yticmgkdhdfkpeaa

/- What comes in; a new account, either way; a fork; the example. -/
namespace Go.Proofs.Yticmgkdhdfkpeaa
open Go.RowKit Go.Lib Go.ChangeShapes Go.WideShapes Go.ChangeAt Go.Deep Go.Sort
set_option linter.unusedVariables false
set_option maxRecDepth 8000

def fitI (x : Int) : Prop := -9223372036854775808 ≤ x ∧ x ≤ 9223372036854775807
theorem fitI_of {x : Int} (w : (Lit.int .i64 x).wf = true) : fitI x := by
  simp only [Lit.wf, Bool.and_eq_true, decide_eq_true_eq] at w
  have e1 : IntKind.i64.min = -9223372036854775808 := by kernel_rfl
  have e2 : IntKind.i64.max = 9223372036854775807 := by kernel_rfl
  unfold fitI
  omega
abbrev Qt.Ak := Int × Int
def Qt.AskL (w : World) (A : Option Addr) (n : Nat) (d : Nat → Qt.Ak) : Prop := 0 < n → ∃ b off, A = some ⟨b, off, none⟩ ∧ b < w.heap.size ∧ ∀ i, i < n → w.cell? ⟨b, off + i * 2, none⟩ = some (.int .i64 (d i).1) ∧ w.cell? ⟨b, off + i * 2 + 1, none⟩ = some (.int .i64 (d i).2)
def Qt.Fit (d : Qt.Ak) : Prop := fitI d.1 ∧ fitI d.2
theorem Qt.open_asks {H : Type} {enc : TypeId × Value → H} {w : World} {base : Nat} {spare : Nat → Bool} {held : Bool} {A : Option Addr} {len cap fuel : Nat} {x : DataW H × List MemPlace}
    (h : DataW.trod enc Try.prog w base spare held fuel 23 [.slice A len cap] = some x) : len ≤ cap ∧ cap ≤ 9223372036854775807 ∧ ∃ d, Qt.AskL w A len d ∧ ∀ i, i < len → Qt.Fit (d i) := by
  obtain ⟨h1, h2, h3, h4⟩ := open_structs Try.underlying23 Try.underlying34 (by kernel_rfl) (by kernel_rfl) (by decide) h
  refine ⟨h1, by unfold maxLen at h2; omega, ?_⟩
  by_cases hp : 0 < len
  · obtain ⟨b, off, hA, hb, hc⟩ := h4 hp
    have hx : ∀ i, ∃ r : Qt.Ak, i < len → (w.cell? ⟨b, off + i * 2, none⟩ = some (.int .i64 r.1) ∧ w.cell? ⟨b, off + i * 2 + 1, none⟩ = some (.int .i64 r.2)) ∧ Qt.Fit r := by
      intro i
      by_cases hi : i < len
      · obtain ⟨v0, n0, y0, c0, r0⟩ := hc i hi 0 _ rfl
        obtain ⟨v1, n1, y1, c1, r1⟩ := hc i hi 1 _ rfl
        obtain ⟨p0, e0, _, w0⟩ := DataW.trod_int Try.underlying3 r0
        obtain ⟨p1, e1, _, w1⟩ := DataW.trod_int Try.underlying3 r1
        injection e0 with e0 _
        injection e1 with e1 _
        subst e0 e1
        exact ⟨(p0, p1), fun _ => ⟨⟨c0, c1⟩, fitI_of w0, fitI_of w1⟩⟩
      · exact ⟨(0, 0), fun h => absurd h hi⟩
    exact ⟨fun i => Classical.choose (hx i), fun _ => ⟨b, off, hA, hb, fun i hi => (Classical.choose_spec (hx i) hi).1⟩, fun i hi => (Classical.choose_spec (hx i) hi).2⟩
  · exact ⟨fun _ => (0, 0), fun h => absurd h hp, fun i hi => absurd hi (by omega)⟩
theorem Qt.open_nums {H : Type} {enc : TypeId × Value → H} {w : World} {base : Nat} {spare : Nat → Bool} {held : Bool} {A : Option Addr} {len cap fuel : Nat} {x : DataW H × List MemPlace}
    (h : DataW.trod enc Try.prog w base spare held fuel 22 [.slice A len cap] = some x) : len ≤ cap ∧ cap ≤ 9223372036854775807 ∧ ∃ d, Qt.NumL w A len d ∧ ∀ i, i < len → fitI (d i) := by
  rcases open_slice1 Try.underlying22 (by kernel_rfl) h with ⟨hcs, _⟩ | ⟨a, l, c, m, n, V, D, Pl, hcs, hb, hl, hm, hmm, hx, hi⟩
  · injection hcs with hcs _
    injection hcs with h1 h2 h3
    subst h1 h2 h3
    exact ⟨Nat.le_refl _, by decide, fun _ => 0, fun h0 => absurd h0 (by omega), fun i hi => absurd hi (by omega)⟩
  · injection hcs with hcs _
    injection hcs with h1 h2 h3
    subst h1 h2 h3
    refine ⟨hl, by unfold maxLen at hm; omega, ?_⟩
    have hml : len ≤ m := by rw [hmm]; split <;> omega
    have hv : ∀ i, ∃ r : Int, i < len → V i = .int .i64 r ∧ fitI r := by
      intro i
      by_cases hil : i < len
      · obtain ⟨p0, e0, _, w0⟩ := DataW.trod_int Try.underlying3 (hi i (by omega)).2
        injection e0 with e0 _
        exact ⟨p0, fun _ => ⟨e0, fitI_of w0⟩⟩
      · exact ⟨0, fun h => absurd h hil⟩
    refine ⟨fun i => Classical.choose (hv i), fun h0 => ?_, fun i hil => (Classical.choose_spec (hv i) hil).2⟩
    have c0 := (hi 0 (by omega)).1
    have hsp : a.spot = none := by
      have := World.cell?_spot c0
      simpa [Addr.add] using this
    obtain ⟨b, off, sp⟩ := a
    simp only at hsp
    subst hsp
    have hbl : b < w.heap.size := by
      rcases Nat.lt_or_ge b w.heap.size with hlt | hge
      · exact hlt
      · have hp := addr_plain c0
        rw [hp] at c0
        simp [World.cell?, Array.getElem?_eq_none hge] at c0
    refine ⟨b, off, rfl, hbl, fun i hil => ?_⟩
    have ci := (hi i (by omega)).1
    rw [addr_plain ci, (Classical.choose_spec (hv i) hil).1] at ci
    exact ci

/-- A new account: something is wrong, and both tell it alike; or nothing is. -/
theorem Qt.new_ways (f : Int) (A : Option Addr) (n c : Nat) (d : Nat → Int) (w : World) (hd : Qt.NumL w A n d) :
    (∃ z : Int, z ≠ 0 ∧ (∀ W, w.grownBy W none → Calls Try.prog 7 #[.int .i64 f, .slice A n c] W fun e w' => e = .returned (.tuple #[.pointer none, .int .i64 z]) ∧ W.grownBy w' none) ∧ (∀ W, w.grownBy W none → Calls Try.prog 8 #[.int .i64 f, .slice A n c] W fun e w' => e = .returned (.int .i64 z) ∧ W = w')) ∨
    (∃ k : Nat, f = k ∧ 1 ≤ k ∧ k ≤ 4096 ∧ n ≤ 8 ∧ Qt.fine d n) := by
  by_cases hf : Qt.rt f = true
  · by_cases hn : 8 < n
    · exact .inl ⟨4, by decide, fun W g => (Qt.new_many f A n c W hf hn).mono fun e w' h => ⟨h.1, h.2 ▸ only_refl _ _⟩, fun W g => Qt.rcheck_many f A n c W hf hn⟩
    · have hf2 : 1 ≤ f ∧ f ≤ 4096 := by simpa [Qt.rt] using hf
      obtain ⟨k, hk⟩ := Int.eq_ofNat_of_zero_le (show 0 ≤ f by omega)
      by_cases hb : Qt.fine d n
      · exact .inr ⟨k, hk, by omega, by omega, by omega, hb⟩
      · subst hk
        exact .inl ⟨2, by decide, fun W g => Qt.new_bad k A n c d W (by omega) (by omega) (by omega) (hd.only g) hb, fun W g => Qt.rcheck_bad k A n c d W hf (by omega) (hd.only g) hb⟩
  · have hf0 : Qt.rt f = false := by simpa using hf
    exact .inl ⟨2, by decide, fun W g => (Qt.new_right f A n c W hf0).mono fun e w' h => ⟨h.1, h.2 ▸ only_refl _ _⟩, fun W g => Qt.rcheck_right f A n c W hf0⟩

theorem Qt.acc_info : (Try.prog.info? 52).map (·.size) = some 35 := by kernel_rfl
theorem Qt.wp_la {ops : Array Oper} {Q : Exit → Act → World → Prop} {rest : List Oper} {a : Act} {o : Oper} (hg : o.guard = none) (p : Operand) (hop : o.op = Op.load 52 p) (w : World) (e : Nat) (cs : Array Value) (hsz : cs.size = 35) (hb : Blk w e 52 cs) (hp : a.eval p = .pointer (some ⟨e, 0, none⟩)) (hK : wpList Try.prog ops Q rest (a.put o.dst (.agg cs)) w) :
    wpList Try.prog ops Q (o :: rest) a w := by
  have hrun : (Instr.loadAt 52 (.pointer (some ⟨e, 0, none⟩))).run Try.prog w = .ok (.agg cs) w := by
    simp only [Instr.loadAt, Instr.sureAddr, Sem.run_bind, Sem.run_pure, Result.andThen]
    exact run_loadVar_row w e 52 52 cs (0, 0) _ hb Try.underlying52 rfl (by rw [Qt.acc_info, hsz])
  refine wpList_plain hg fun K' hK' => ?_
  unfold Oper.wp
  simp [execOp, hop, hp, hrun, Result.andThen]
  exact hK' _ _ hK
theorem Qt.wp_sa {ops : Array Oper} {Q : Exit → Act → World → Prop} {rest : List Oper} {a : Act} {o : Oper} (hg : o.guard = none) (p v : Operand) (hop : o.op = Op.store 52 p v) (w : World) (cs : Array Value) (hsz : cs.size = 35) (ho : cs.all (·.oneCell') = true) (hp : a.eval p = .pointer (some ⟨w.heap.size, 0, none⟩)) (hv : a.eval v = .agg cs) (hK : wpList Try.prog ops Q rest (a.put o.dst undef) (w.alloc (.cells cs 52))) :
    wpList Try.prog ops Q (o :: rest) a (w.alloc (.cells (Qt.cs 0 0 Qt.z0 0 Qt.z0 Qt.z0 Qt.z0) 52)) := by
  have hrun := run_storeAt_new (P := Try.prog) w 52 (Qt.cs 0 0 Qt.z0 0 Qt.z0 Qt.z0 Qt.z0) cs (by rw [Qt.acc_info, hsz]) (by rw [hsz]; rfl) ho
  refine wpList_plain hg fun K' hK' => ?_
  unfold Oper.wp
  simp [execOp, hop, hp, hv, hrun, Result.andThen]
  exact hK' _ _ hK
set_option maxRecDepth 20000 in
set_option maxHeartbeats 1600000 in
theorem Qt.fork_blk (w : World) (b : Nat) (cs : Array Value) (h : Blk w b 52 cs) (hs : cs.size = 35) (ho : cs.all (·.oneCell') = true) : Calls Try.prog 18 #[.pointer (some ⟨b, 0, none⟩)] w fun r w' => r = .returned (.pointer (some ⟨w.heap.size, 0, none⟩)) ∧ w' = w.alloc (.cells cs 52) := by
  have HB := Lib.hid h
  have HS := Lib.hid hs
  have HO := Lib.hid ho
  clear h hs ho
  go_enter Try.func18, Try.ntmps18
  go_wp2_with (first
    | (refine Qt.wp_la (o := ⟨some 8, .load 52 (.tmp 7), _, _, _, none⟩) rfl (.tmp 7) rfl w b cs HS.out HB.out rfl ?_)
    | (refine Qt.wp_sa (o := ⟨none, .store 52 (.tmp 3) (.tmp 8), _, _, _, none⟩) rfl (.tmp 3) (.tmp 8) rfl w cs HS.out HO.out rfl rfl ?_))
  go_ret
  exact ⟨rfl, rfl⟩
theorem Qt.fork_any {b f n m : Nat} {Q : Nat → Nat} {s : Qt.St} (w : World) (h : Qt.Acc w b f n Q s m) : Calls Try.prog 18 #[.pointer (some ⟨b, 0, none⟩)] w fun r w' => ∃ g, r = .returned (.pointer (some ⟨g, 0, none⟩)) ∧ w.heap.size ≤ g ∧ Qt.Acc w' g f n Q s m ∧ w.grownBy w' none :=
  (Qt.fork_blk w b _ h.blk (Qt.cs_size _ _ _ _ _ _ _) (Qt.cs_one _ _ _ _ _ _ _)).mono fun e w' hab => ⟨w.heap.size, hab.1, Nat.le_refl _, ⟨by rw [hab.2]; exact Blk.new _ _ _, h.f1, h.f2, h.bd⟩, by rw [hab.2]; exact only_alloc (only_refl _ _) _⟩

/-- The example's account, step by step. -/
def Qt.lq : Nat → Nat := Qt.mix (fun _ => 2) 1
def Qt.l1 : Qt.St := (Qt.use 10 1 Qt.lq Qt.s0 1 1).1
def Qt.l2 : Qt.St := (Qt.use 10 1 Qt.lq Qt.l1 2 1).1
def Qt.l3 : Qt.St := (Qt.use 10 1 Qt.lq Qt.l2 3 1).1
def Qt.l4 : Qt.St := (Qt.use 10 1 Qt.lq Qt.l3 10 1).1
set_option maxHeartbeats 3200000 in
theorem Qt.live_any (w : World) : Calls Try.prog 9 #[] w fun e w' => e = .returned (.bool true) ∧ w.grownBy w' none := by
  obtain ⟨W1, hW1, G1, P1, Z1⟩ := Qt.box1 w 3 #[.int .i64 2]
  have HN := Lib.hid (show Calls Try.prog 7 #[.int .i64 10, .slice (some ⟨w.heap.size, 0, none⟩) 1 1] W1 fun e w' => ∃ b, e = .returned (.tuple #[.pointer (some ⟨b, 0, none⟩), .int .i64 0]) ∧ W1.heap.size ≤ b ∧ Qt.Acc w' b 10 1 Qt.lq Qt.s0 0 ∧ W1.grownBy w' none from Qt.new_ok 10 (some ⟨w.heap.size, 0, none⟩) 1 1 (fun _ => 2) W1 (by decide) (by decide) (by decide) (fun _ => ⟨w.heap.size, 0, rfl, P1.lt, fun i hi => by
    obtain rfl : i = 0 := by omega
    exact P1.cell 0⟩) (fun i hi => ⟨by show (1 : Int) ≤ 2; decide, by show (2 : Int) ≤ 16; decide⟩))
  have LS := Lib.hid (show w.heap.size ≤ W1.heap.size by omega)
  have HG := Lib.hid G1
  clear G1 P1 Z1
  go_enter Try.func9, Try.ntmps9
  go_wp2_with (first
    | ((try rw [← hW1]); go_at_call 7; (with_reducible refine HN.out.mono ?_); rintro e w1 ⟨b, rfl, hb, h0, g1⟩; have H0 := Lib.hid h0; have HB := Lib.hid (Nat.le_trans LS.out hb); have K0 := Lib.hid (only_trans HG.out g1); clear h0 hb g1)
    | (go_at_call 13; first
      | ((with_reducible refine (Qt.use_any _ _ _ H3.out (by decide)).mono ?_); rintro e w5 ⟨he, h4, g4⟩; rw [show (Qt.use 10 1 Qt.lq Qt.l3 10 1).2 = true from by decide] at he; subst he; have H4 := Lib.hid (show Qt.Acc w5 b 10 1 Qt.lq Qt.l4 4 from h4); have K4 := Lib.hid (Qt.grow_new K3.out g4 HB.out); clear h4 g4)
      | ((with_reducible refine (Qt.use_any _ _ _ H2.out (by decide)).mono ?_); rintro e w4 ⟨he, h3, g3⟩; rw [show (Qt.use 10 1 Qt.lq Qt.l2 3 1).2 = false from by decide] at he; subst he; have H3 := Lib.hid (show Qt.Acc w4 b 10 1 Qt.lq Qt.l3 3 from h3); have K3 := Lib.hid (Qt.grow_new K2.out g3 HB.out); clear h3 g3)
      | ((with_reducible refine (Qt.use_any _ _ _ H1.out (by decide)).mono ?_); rintro e w3 ⟨he, h2, g2⟩; rw [show (Qt.use 10 1 Qt.lq Qt.l1 2 1).2 = true from by decide] at he; subst he; have H2 := Lib.hid (show Qt.Acc w3 b 10 1 Qt.lq Qt.l2 2 from h2); have K2 := Lib.hid (Qt.grow_new K1.out g2 HB.out); clear h2 g2)
      | ((with_reducible refine (Qt.use_any _ _ _ H0.out (by decide)).mono ?_); rintro e w2 ⟨he, h1, g1⟩; rw [show (Qt.use 10 1 Qt.lq Qt.s0 1 1).2 = true from by decide] at he; subst he; have H1 := Lib.hid (show Qt.Acc w2 b 10 1 Qt.lq Qt.l1 1 from h1); have K1 := Lib.hid (Qt.grow_new K0.out g1 HB.out); clear h1 g1))
    | (go_at_call 15; (with_reducible refine (Qt.tot_any _ _ H4.out).mono ?_); rintro e w6 ⟨he, rfl⟩; rw [show Qt.tot 1 Qt.l4 1 = 3 from by decide] at he; subst he)
    | (go_at_call 17; (with_reducible refine (Qt.ref_any _ _ H4.out).mono ?_); rintro e w6 ⟨he, rfl⟩; rw [show Qt.ref 1 Qt.l4 1 = 1 from by decide] at he; subst he)
    | (go_at_call 14; (with_reducible refine (Qt.frame_any _ H4.out).mono ?_); rintro e w6 ⟨he, rfl⟩; rw [show Qt.l4.fr = 1 from by decide] at he; subst he))
  go_ret
  exact ⟨by first | rfl | (simp; done), K4.out⟩
end Go.Proofs.Yticmgkdhdfkpeaa

/- QuotaApart walked. -/
namespace Go.Proofs.Yticmgkdhdfkpeaa
open Go.RowKit Go.Lib
set_option linter.unusedVariables false
set_option maxRecDepth 8000

/-- Two accounts have the same of an owner; the second one is not ahead of the first, the first one not ahead of the tick. -/
structure Qt.Agr (f n : Nat) (sa sb : Qt.St) (ow t : Int) : Prop where
  b : sb.fr ≤ sa.fr
  a : sa.fr ≤ (t / f).toNat
  s : 1 ≤ ow → ow ≤ n → sa.T (ow - 1).toNat = sb.T (ow - 1).toNat ∧ sa.D (ow - 1).toNat = sb.D (ow - 1).toNat ∧ ∀ p, sa.fr ≤ p → Qt.eff sa p (ow - 1).toNat = Qt.eff sb p (ow - 1).toNat
theorem Qt.Agr.later {f n : Nat} {sa sb : Qt.St} {ow t t' : Int} (h : Qt.Agr f n sa sb ow t) (h0 : 0 ≤ t) (ht : t ≤ t') : Qt.Agr f n sa sb ow t' := by
  refine ⟨h.b, Nat.le_trans h.a ?_, h.s⟩
  rcases Nat.eq_zero_or_pos f with rfl | hf
  · simp
  · have := Int.ediv_le_ediv (show (0 : Int) < f by omega) ht
    omega
theorem Qt.go_fr (Q : Nat → Nat) (s : Qt.St) (p i : Nat) : (Qt.go Q s p i).1.fr = p := by unfold Qt.go; split <;> rfl
theorem Qt.go_other (Q : Nat → Nat) (s : Qt.St) (p i j : Nat) (h : j ≠ i) : (Qt.go Q s p i).1.T j = s.T j ∧ (Qt.go Q s p i).1.D j = s.D j ∧ (Qt.go Q s p i).1.U j = Qt.eff s p j := by
  unfold Qt.go
  split
  · exact ⟨rfl, Qt.upd_off _ _ h, rfl⟩
  · exact ⟨Qt.upd_off _ _ h, rfl, Qt.upd_off _ _ h⟩
theorem Qt.eff_go {Q : Nat → Nat} {s : Qt.St} {p i q : Nat} (j : Nat) (hq : p ≤ q) : Qt.eff (Qt.go Q s p i).1 q j = if p = q then (Qt.go Q s p i).1.U j else 0 := by
  by_cases e : p = q
  · rw [if_pos e, Qt.eff_at _ (by rw [Qt.go_fr]; exact e)]
  · rw [if_neg e, Qt.eff_up _ (by rw [Qt.go_fr]; omega)]; rfl
theorem Qt.Agr.other {f n : Nat} {Q : Nat → Nat} {sa sb : Qt.St} {ow t x : Int} (h : Qt.Agr f n sa sb ow t) (hx : x ≠ ow) : Qt.Agr f n (Qt.use f n Q sa t x).1 sb ow t := by
  unfold Qt.use
  split
  · rename_i hk
    obtain ⟨i, p, rfl, hi, hp, hfr, e1, e2⟩ := Qt.split hk
    rw [e1, e2]
    refine ⟨by rw [Qt.go_fr]; exact Nat.le_trans h.b hfr, by rw [Qt.go_fr, e2]; exact Nat.le_refl _, fun h1 h2 => ?_⟩
    obtain ⟨a1, a2, a3⟩ := h.s h1 h2
    have hne : (ow - 1).toNat ≠ i := by omega
    obtain ⟨b1, b2, b3⟩ := Qt.go_other Q sa p i _ hne
    refine ⟨b1.trans a1, b2.trans a2, fun q hq => ?_⟩
    rw [Qt.go_fr] at hq
    rw [Qt.eff_go _ hq]
    split
    · rename_i e
      subst e
      rw [b3]; exact a3 p hfr
    · rw [Qt.eff_up sb (by have := h.b; omega)]; rfl
  · exact h
theorem Qt.go_same {Q : Nat → Nat} {sa sb : Qt.St} {p i : Nat} (h : Qt.eff sa p i = Qt.eff sb p i) (hT : sa.T i = sb.T i) (hD : sa.D i = sb.D i) : (Qt.go Q sa p i).2 = (Qt.go Q sb p i).2 ∧ (Qt.go Q sa p i).1.T i = (Qt.go Q sb p i).1.T i ∧ (Qt.go Q sa p i).1.D i = (Qt.go Q sb p i).1.D i ∧ (Qt.go Q sa p i).1.U i = (Qt.go Q sb p i).1.U i := by
  unfold Qt.go
  rw [h]
  by_cases hq : Q i ≤ Qt.eff sb p i
  · rw [if_pos hq, if_pos hq]
    exact ⟨rfl, hT, by simp [Qt.upd_at, hD], h⟩
  · rw [if_neg hq, if_neg hq]
    exact ⟨rfl, by simp [Qt.upd_at, hT], hD, by simp [Qt.upd_at]⟩
theorem Qt.Agr.own {f n : Nat} {Q : Nat → Nat} {sa sb : Qt.St} {ow t : Int} (h : Qt.Agr f n sa sb ow t) : Qt.Agr f n (Qt.use f n Q sa t ow).1 (Qt.use f n Q sb t ow).1 ow t ∧ (Qt.use f n Q sb t ow).2 = (Qt.use f n Q sa t ow).2 := by
  unfold Qt.use
  by_cases hk : Qt.ok f n sa.fr t ow
  · have hk2 : Qt.ok f n sb.fr t ow := ⟨hk.1, hk.2.1, hk.2.2.1, hk.2.2.2.1, Nat.le_trans h.b hk.2.2.2.2⟩
    rw [if_pos hk, if_pos hk2]
    obtain ⟨a1, a2, a3⟩ := h.s hk.1 hk.2.1
    have hfr := hk.2.2.2.2
    have hs := Qt.go_same (Q := Q) (a3 _ hfr) a1 a2
    obtain ⟨p, hp⟩ : ∃ p, p = (t / (f : Int)).toNat := ⟨_, rfl⟩
    rw [← hp] at hs hfr ⊢
    refine ⟨⟨by rw [Qt.go_fr, Qt.go_fr]; exact Nat.le_refl _, ?_, fun _ _ => ⟨hs.2.1, hs.2.2.1, fun q hq => ?_⟩⟩, hs.1.symm⟩
    · rw [Qt.go_fr]; exact Nat.le_of_eq hp
    · rw [Qt.go_fr] at hq
      rw [Qt.eff_go _ hq, Qt.eff_go _ hq, hs.2.2.2]
  · by_cases hk2 : Qt.ok f n sb.fr t ow
    · exfalso
      exact hk ⟨hk2.1, hk2.2.1, hk2.2.2.1, hk2.2.2.2.1, h.a⟩
    · rw [if_neg hk, if_neg hk2]
      exact ⟨h, rfl⟩
theorem Qt.Agr.tots {f n : Nat} {sa sb : Qt.St} {ow t : Int} (h : Qt.Agr f n sa sb ow t) : Qt.tot n sb ow = Qt.tot n sa ow ∧ Qt.ref n sb ow = Qt.ref n sa ow := by
  unfold Qt.tot Qt.ref
  by_cases ho : 1 ≤ ow ∧ ow ≤ n
  · obtain ⟨a1, a2, _⟩ := h.s ho.1 ho.2
    rw [if_pos ho, if_pos ho, if_pos ho, if_pos ho, a1, a2]
    exact ⟨rfl, rfl⟩
  · rw [if_neg ho, if_neg ho, if_neg ho, if_neg ho]
    exact ⟨rfl, rfl⟩
theorem Qt.AskL.only {w w' : World} {A : Option Addr} {n : Nat} {d : Nat → Qt.Ak} (h : Qt.AskL w A n d) (k : w.grownBy w' none) : Qt.AskL w' A n d := fun h0 => by
  obtain ⟨b, off, h1, h2, h3⟩ := h h0
  have hb := k.block b h2 (by simp)
  refine ⟨b, off, h1, Nat.lt_of_lt_of_le h2 k.size, fun i hi => ?_⟩
  rw [← (h3 i hi).1, ← (h3 i hi).2]
  simp only [World.cell?, hb]
  exact ⟨trivial, trivial⟩
set_option maxRecDepth 20000 in
set_option maxHeartbeats 6400000 in
theorem Qt.apart_err (f ow : Int) (A : Option Addr) (n m c : Nat) (B : Option Addr) (k cb : Nat) (d : Nat → Int) (w : World) (hm : (m = 12 ∧ 12 < n) ∨ (m = n ∧ ¬ 12 < n)) (hnc : n ≤ c) (hcm : c ≤ 9223372036854775807) (z : Int) (hz : z ≠ 0) (hN : ∀ W, w.grownBy W none → Calls Try.prog 7 #[.int .i64 f, .slice A m c] W fun e w' => e = .returned (.tuple #[.pointer none, .int .i64 z]) ∧ W.grownBy w' none) (hC : ∀ W, w.grownBy W none → Calls Try.prog 8 #[.int .i64 f, .slice A m c] W fun e w' => e = .returned (.int .i64 z) ∧ W = w') : Calls Try.prog 5 #[.int .i64 f, .slice A n c, .int .i64 ow, .slice B k cb] w fun e w' => e = .returned (.bool true) ∧ Below w.heap.size w w' := by
  have HN := Lib.hid hN
  have HC := Lib.hid hC
  have hz1 : (z != 0) = true := by simpa using hz
  have hz2 : (z == 0) = false := by simpa using hz
  have hz3 : (z == z) = true := by simp
  clear hN hC hz
  rcases hm with ⟨rfl, hm⟩ | ⟨rfl, hm⟩
  · have i1 : (12 : Int) < (n : Int) := by omega
    have i2 : (12 : Int) ≤ (c : Int) := by omega
    have i3 : min (n : Int) 12 = 12 := by omega
    clear hm hnc
    go_enter Try.func5, Try.ntmps5
    go_wp2_with (first
      | (go_at_call 7; first
        | ((with_reducible refine (HN.out _ G1.out).mono ?_); rintro e w2 ⟨rfl, g2⟩; have G2 := Lib.hid (only_trans G1.out g2); clear g2)
        | ((with_reducible refine (HN.out _ (only_refl _ none)).mono ?_); rintro e w1 ⟨rfl, g1⟩; have G1 := Lib.hid g1; clear g1))
      | (go_at_call 8; (with_reducible refine (HC.out _ G3.out).mono ?_); rintro e w4 ⟨rfl, rfl⟩)
      | (go_at_call 9; (with_reducible refine (Qt.live_any _).mono ?_); rintro e w3 ⟨rfl, g3⟩; have G3 := Lib.hid (only_trans G2.out g3); clear g3))
    go_ret
    exact ⟨by first | rfl | (simp; done), Qt.bel G3.out⟩
  · have i1 : ¬ (12 : Int) < (m : Int) := by omega
    have i2 : (m : Int) ≤ (c : Int) := by omega
    have i3 : min (m : Int) 12 = m := by omega
    clear hm hnc
    go_enter Try.func5, Try.ntmps5
    go_wp2_with (first
      | (go_at_call 7; first
        | ((with_reducible refine (HN.out _ G1.out).mono ?_); rintro e w2 ⟨rfl, g2⟩; have G2 := Lib.hid (only_trans G1.out g2); clear g2)
        | ((with_reducible refine (HN.out _ (only_refl _ none)).mono ?_); rintro e w1 ⟨rfl, g1⟩; have G1 := Lib.hid g1; clear g1))
      | (go_at_call 8; (with_reducible refine (HC.out _ G3.out).mono ?_); rintro e w4 ⟨rfl, rfl⟩)
      | (go_at_call 9; (with_reducible refine (Qt.live_any _).mono ?_); rintro e w3 ⟨rfl, g3⟩; have G3 := Lib.hid (only_trans G2.out g3); clear g3))
    go_ret
    exact ⟨by first | rfl | (simp; done), Qt.bel G3.out⟩
set_option maxRecDepth 20000 in
set_option maxHeartbeats 6400000 in
theorem Qt.apart_ok (f n c : Nat) (ow : Int) (A B : Option Addr) (k cb : Nat) (d : Nat → Int) (l : Nat → Qt.Ak) (w : World) (f1 : 1 ≤ f) (f2 : f ≤ 4096) (hn : n ≤ 8) (hnc : n ≤ c) (hcm : c ≤ 9223372036854775807) (hd : Qt.NumL w A n d) (hf : Qt.fine d n) (hl : Qt.AskL w B k l) (hk : k ≤ 9223372036854775807) : Calls Try.prog 5 #[.int .i64 f, .slice A n c, .int .i64 ow, .slice B k cb] w fun e w' => e = .returned (.bool true) ∧ Below w.heap.size w w' := by
  have HN := Lib.hid (fun W (g : w.grownBy W none) => Qt.new_ok f A n c d W f1 f2 hn (hd.only g) hf)
  have HD := Lib.hid hl
  have HF := Lib.hid f1
  have i1 : ¬ (12 : Int) < (n : Int) := by omega
  have i2 : (n : Int) ≤ (c : Int) := by omega
  have i3 : min (n : Int) 12 = n := by omega
  clear f1 f2 hn hnc hd hf hl
  go_enter Try.func5, Try.ntmps5
  go_wp2_with (go_at_call 7; first
        | ((with_reducible refine (HN.out _ G1.out).mono ?_); rintro e w2 ⟨bb, rfl, hb2, ab, g2⟩; have AB := Lib.hid ab; have AA := Lib.hid (A1.out.only g2 (by simp)); have G2 := Lib.hid (only_trans G1.out g2); have LB := Lib.hid (show w.heap.size ≤ bb ∧ ba ≠ bb from ⟨Nat.le_trans G1.out.size hb2, fun e => by have := A1.out.blk.lt; omega⟩); clear g2 ab hb2)
        | ((with_reducible refine (HN.out _ (only_refl _ none)).mono ?_); rintro e w1 ⟨ba, rfl, hb1, aa, g1⟩; have A1 := Lib.hid aa; have G1 := Lib.hid g1; have LA := Lib.hid hb1; clear g1 aa hb1))
  clear HN G1 A1 i1 i2 i3
  have HAG := Lib.hid (show Qt.Agr f n Qt.s0 Qt.s0 ow 0 from ⟨Nat.le_refl _, Nat.zero_le _, fun _ _ => ⟨rfl, rfl, fun _ _ => rfl⟩⟩)
  go_loopw [13, 14] (fun x y wr => ∃ (t j : Nat) (sa sb : Qt.St), x = .int .i64 t ∧ y = .int .i64 j ∧ t ≤ 600000 ∧ j ≤ 60 ∧ Hid (t ≤ j * 10000 ∧ j ≤ k) ∧ Hid (Qt.Acc wr ba f n (Qt.mix d n) sa j) ∧ Hid (Qt.Acc wr bb f n (Qt.mix d n) sb j) ∧ Hid (Qt.Agr f n sa sb ow t) ∧ Hid (w.grownBy wr none)) (fun _ y _ => 60 - (intOf y).toNat)
  case atStart => exact ⟨0, 0, Qt.s0, Qt.s0, rfl, rfl, by omega, by omega, Lib.hid ⟨by omega, Nat.zero_le _⟩, AA, AB, HAG, G2⟩
  case round =>
    obtain ⟨t, j, sa, sb, rfl, rfl, ht6, hj6, HT, RA, RB, RG, RW⟩ := hrel
    clear AA AB HAG G2
    by_cases hin : j < k ∧ j < 60
    case neg =>
      have TO := Lib.hid RG.out.tots
      have key : (¬ (j : Int) < (k : Int)) ∨ ((j : Int) < (k : Int) ∧ ¬ (j : Int) < 60) := by omega
      clear hin
      rcases key with i1 | ⟨i1, i2⟩
      all_goals
        go_wp2_with (first
          | (go_at_call 9; (with_reducible refine (Qt.live_any _).mono ?_); rintro e w3 ⟨rfl, g3⟩; have TA := Lib.hid (RA.out.only g3 (by simp)); have TB := Lib.hid (RB.out.only g3 (by simp)); have G3 := Lib.hid (only_trans RW.out g3); clear g3)
          | (go_at_call 15; first
            | ((with_reducible refine (Qt.tot_any _ _ TA.out).mono ?_); rintro e w4 ⟨rfl, rfl⟩)
            | ((with_reducible refine (Qt.tot_any _ _ TB.out).mono ?_); rintro e w4 ⟨he, rfl⟩; rw [TO.out.1] at he; subst he))
          | (go_at_call 17; first
            | ((with_reducible refine (Qt.ref_any _ _ TA.out).mono ?_); rintro e w4 ⟨rfl, rfl⟩)
            | ((with_reducible refine (Qt.ref_any _ _ TB.out).mono ?_); rintro e w4 ⟨he, rfl⟩; rw [TO.out.2] at he; subst he)))
        go_ret
        exact ⟨by first | rfl | (simp; done), Qt.bel G3.out⟩
    case pos =>
      obtain ⟨h1, h2⟩ := hin
      obtain ⟨g, off, rfl, hg, hc⟩ := HD.out (by omega)
      have HC := Lib.hid (show ∀ W, w.grownBy W none → W.cell? ⟨g, off + j * 2, none⟩ = some (.int .i64 (l j).1) ∧ W.cell? ⟨g, off + j * 2 + 1, none⟩ = some (.int .i64 (l j).2) from fun W gg => by
        have hb := gg.block g hg (by simp)
        rw [← (hc j h1).1, ← (hc j h1).2]
        simp only [World.cell?, hb]
        exact ⟨trivial, trivial⟩)
      have i1 : (j : Int) < (k : Int) := by omega
      have i2 : (j : Int) < 60 := by omega
      have i3 : (0 : Int) ≤ (j : Int) := by omega
      have u1 : IntKind.i64.wrap ((j : Int) + 1) = ((j + 1 : Nat) : Int) := by rw [IntKind.wrap_i64]; omega
      have KK := Lib.hid (show j + 1 ≤ 60 ∧ j + 1 ≤ k from ⟨by omega, by omega⟩)
      have HJ := Lib.hid (show j ≤ 100000 by omega)
      clear hc hg h1 h2 HD
      generalize (l j).1 = dt at *
      generalize (l j).2 = dx at *
      obtain ⟨c0, c1⟩ := HC.out wr RW.out
      by_cases d0 : dt < 0
      · clear c1
        go_wp2
        go_roundw
        case rel => exact ⟨t, j + 1, sa, sb, rfl, by go_num, ht6, KK.out.1, Lib.hid ⟨by have := HT.out; omega, KK.out.2⟩, Lib.hid ⟨RA.out.blk, RA.out.f1, RA.out.f2, RA.out.bd.mono (Nat.le_succ j)⟩, Lib.hid ⟨RB.out.blk, RB.out.f1, RB.out.f2, RB.out.bd.mono (Nat.le_succ j)⟩, RG, RW⟩
        case measure =>
          have := KK.out
          simp [intOf]
          omega
      by_cases d1 : 10000 < dt
      · clear c1
        go_wp2
        go_roundw
        case rel => exact ⟨t, j + 1, sa, sb, rfl, by go_num, ht6, KK.out.1, Lib.hid ⟨by have := HT.out; omega, KK.out.2⟩, Lib.hid ⟨RA.out.blk, RA.out.f1, RA.out.f2, RA.out.bd.mono (Nat.le_succ j)⟩, Lib.hid ⟨RB.out.blk, RB.out.f1, RB.out.f2, RB.out.bd.mono (Nat.le_succ j)⟩, RG, RW⟩
        case measure =>
          have := KK.out
          simp [intOf]
          omega
      obtain ⟨e, rfl⟩ := Int.eq_ofNat_of_zero_le (show 0 ≤ dt by omega)
      have he : e ≤ 10000 := by omega
      have he2 : (e : Int) ≤ 10000 := by omega
      have ht2 : (t : Int) ≤ 600000 := by omega
      have HT2 := Lib.hid (show t + e ≤ (j + 1) * 10000 ∧ t + e ≤ 600000 from by have := HT.out; have := KK.out; omega)
      have RG2 := Lib.hid (RG.out.later (t' := (t : Int) + (e : Int)) (by omega) (by omega))
      clear RG HT ht6
      by_cases hx : dx = ow
      · subst hx
        have OW := Lib.hid (RG2.out.own (Q := Qt.mix d n))
        go_wp2_with (go_at_call 13; first
          | ((with_reducible refine (Qt.use_any _ _ _ B2.out HJ.out).mono ?_); rintro e3 w3 ⟨rfl, hb, gb⟩; have B3 := Lib.hid hb; have A3 := Lib.hid (A2.out.only gb (fun e => by injection e with e; exact LB.out.2 e)); have G3 := Lib.hid (Qt.grow_new G2.out gb LB.out.1); obtain ⟨x0, x1⟩ := HC.out w3 G3.out; clear hb gb)
          | ((with_reducible refine (Qt.use_any _ _ _ RA.out HJ.out).mono ?_); rintro e2 w2 ⟨rfl, ha, ga⟩; rw [← OW.out.2]; have A2 := Lib.hid ha; have B2 := Lib.hid (RB.out.only ga (fun e => by injection e with e; exact LB.out.2 e.symm)); have G2 := Lib.hid (Qt.grow_new RW.out ga LA.out); obtain ⟨y0, y1⟩ := HC.out w2 G2.out; clear ha ga))
        go_roundw
        case rel => exact ⟨t + e, j + 1, _, _, by first | rfl | simp, by go_num, HT2.out.2, KK.out.1, Lib.hid ⟨HT2.out.1, KK.out.2⟩, A3, B3, Lib.hid (by rw [Int.natCast_add]; exact OW.out.1), G3⟩
        case measure =>
          have := KK.out
          simp [intOf]
          omega
      · have hx2 : (dx == ow) = false := by simpa using hx
        have OW := Lib.hid (RG2.out.other (Q := Qt.mix d n) hx)
        clear hx
        go_wp2_with (go_at_call 13; ((with_reducible refine (Qt.use_any _ _ _ RA.out HJ.out).mono ?_); rintro e2 w2 ⟨rfl, ha, ga⟩; have A2 := Lib.hid ha; have B2 := Lib.hid (RB.out.only ga (fun e => by injection e with e; exact LB.out.2 e.symm)); have G2 := Lib.hid (Qt.grow_new RW.out ga LA.out); obtain ⟨y0, y1⟩ := HC.out w2 G2.out; clear ha ga))
        go_roundw
        case rel => exact ⟨t + e, j + 1, _, _, by first | rfl | simp, by go_num, HT2.out.2, KK.out.1, Lib.hid ⟨HT2.out.1, KK.out.2⟩, A2, Lib.hid ⟨B2.out.blk, B2.out.f1, B2.out.f2, B2.out.bd.mono (Nat.le_succ j)⟩, Lib.hid (by rw [Int.natCast_add]; exact OW.out), G2⟩
        case measure =>
          have := KK.out
          simp [intOf]
          omega
theorem Qt.apart_walk (f ow : Int) (A B : Option Addr) (n c k cb : Nat) (d : Nat → Int) (l : Nat → Qt.Ak) (w : World) (hnc : n ≤ c) (hcm : c ≤ 9223372036854775807) (hd : Qt.NumL w A n d) (hl : Qt.AskL w B k l) (hk : k ≤ 9223372036854775807) : Calls Try.prog 5 #[.int .i64 f, .slice A n c, .int .i64 ow, .slice B k cb] w fun e w' => e = .returned (.bool true) ∧ Below w.heap.size w w' := by
  by_cases h12 : 12 < n
  · rcases Qt.new_ways f A 12 c d w (hd.cut (by omega)) with ⟨z, hz, hN, hC⟩ | ⟨_, _, _, _, h, _⟩
    · exact Qt.apart_err f ow A n 12 c B k cb d w (.inl ⟨rfl, h12⟩) hnc hcm z hz hN hC
    · omega
  · rcases Qt.new_ways f A n c d w hd with ⟨z, hz, hN, hC⟩ | ⟨f', rfl, h1, h2, h3, h4⟩
    · exact Qt.apart_err f ow A n n c B k cb d w (.inr ⟨rfl, h12⟩) hnc hcm z hz hN hC
    · exact Qt.apart_ok f' n c ow A B k cb d l w h1 h2 h3 hnc hcm hd h4 hl hk
end Go.Proofs.Yticmgkdhdfkpeaa
