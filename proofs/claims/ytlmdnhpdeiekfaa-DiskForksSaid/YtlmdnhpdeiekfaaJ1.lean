/- The disk of package disk: where it lies; the calls that only read it, by their contracts. -/
import Derived.Test.YtlmdnhpdeiekfaaRows
import Derived.Test.YtlmdnhpdeiekfaaM2
import Derived.Deep.WholeRow
import Derived.Maps.AppendAt
namespace Go.Proofs.Ytlmdnhpdeiekfaa
open Go.RowKit Go.Lib Go.Sort
set_option linter.unusedVariables false

/-- A row: owner, first sector, count. -/
abbrev Prt := Int × Int × Int
abbrev prv (p : Prt) : Value := .agg #[.int .i64 p.1, .int .i64 p.2.1, .int .i64 p.2.2]
/-- A job: owner, sector, number, whether it writes, text. -/
abbrev Jb := Int × Int × Int × Bool × ByteArray
abbrev jbv (j : Jb) : Value := .agg #[.int .i64 j.1, .int .i64 j.2.1, .int .i64 j.2.2.1, .bool j.2.2.2.1, .string j.2.2.2.2]
def fitI (x : Int) : Prop := -9223372036854775808 ≤ x ∧ x ≤ 9223372036854775807
theorem fitI_of {x : Int} (w : (Lit.int .i64 x).wf = true) : fitI x := by
  simp only [Lit.wf, Bool.and_eq_true, decide_eq_true_eq] at w
  have e1 : IntKind.i64.min = -9223372036854775808 := by kernel_rfl
  have e2 : IntKind.i64.max = 9223372036854775807 := by kernel_rfl
  unfold fitI
  omega
def FitP (p : Prt) : Prop := fitI p.1 ∧ fitI p.2.1 ∧ fitI p.2.2
def FitJ (j : Jb) : Prop := fitI j.1 ∧ fitI j.2.1 ∧ fitI j.2.2.1 ∧ (j.2.2.2.2.size : Int) ≤ 9223372036854775807
/-- The places of a row. -/
abbrev spd (p : Prt) : Int × Int := (p.2.1, p.2.1 + p.2.2)
def mayB (p : Prt) : Bool := decide (1 ≤ p.1 ∧ p.1 ≤ 8 ∧ 0 ≤ p.2.2 ∧ p.2.2 ≤ 64 ∧ 0 ≤ p.2.1 ∧ p.2.1 ≤ 512 - p.2.2)
theorem mayB_iff {p : Prt} : mayB p = true ↔ (1 ≤ p.1 ∧ p.1 ≤ 8 ∧ 0 ≤ p.2.2 ∧ p.2.2 ≤ 64 ∧ 0 ≤ p.2.1 ∧ p.2.1 ≤ 512 - p.2.2) := by simp [mayB]
/-- A row that is within the disk, or none. -/
def Within (p : Prt) : Prop := 0 ≤ p.2.2 ∧ p.2.2 ≤ 64 ∧ 0 ≤ p.2.1 ∧ p.2.1 ≤ 512 - p.2.2
theorem Within.of {p : Prt} (h : mayB p = true) : Within p := (mayB_iff.1 h).2.2
theorem Within.none : Within (0, 0, 0) := by unfold Within; simp

theorem may_any (p : Prt) (hf : FitP p) (w : World) : Calls Try.prog 32 #[prv p] w fun e w' => e = .returned (.bool (mayB p)) ∧ w.grownBy w' none := by
  obtain ⟨o, f, c⟩ := p
  obtain ⟨hf1, hf2, hf3⟩ := hf
  unfold fitI at hf1 hf2 hf3
  simp only at hf1 hf2 hf3
  have key : (¬ 1 ≤ o ∧ mayB (o, f, c) = false) ∨ (1 ≤ o ∧ ¬ o ≤ 8 ∧ mayB (o, f, c) = false) ∨ (1 ≤ o ∧ o ≤ 8 ∧ ¬ 0 ≤ c ∧ mayB (o, f, c) = false) ∨ (1 ≤ o ∧ o ≤ 8 ∧ 0 ≤ c ∧ ¬ c ≤ 64 ∧ mayB (o, f, c) = false) ∨ (1 ≤ o ∧ o ≤ 8 ∧ 0 ≤ c ∧ c ≤ 64 ∧ ¬ 0 ≤ f ∧ mayB (o, f, c) = false) ∨ (1 ≤ o ∧ o ≤ 8 ∧ 0 ≤ c ∧ c ≤ 64 ∧ 0 ≤ f ∧ ¬ f ≤ 512 - c ∧ mayB (o, f, c) = false) ∨ (1 ≤ o ∧ o ≤ 8 ∧ 0 ≤ c ∧ c ≤ 64 ∧ 0 ≤ f ∧ f ≤ 512 - c ∧ mayB (o, f, c) = true) := by
    by_cases h1 : 1 ≤ o <;> by_cases h2 : o ≤ 8 <;> by_cases h3 : 0 ≤ c <;> by_cases h4 : c ≤ 64 <;> by_cases h5 : 0 ≤ f <;> by_cases h6 : f ≤ 512 - c <;> simp [mayB, h1, h2, h3, h4, h5, h6] <;> omega
  have hw : 0 ≤ c → c ≤ 64 → IntKind.i64.wrap (512 - c) = 512 - c := fun h k => by rw [IntKind.wrap_i64]; omega
  rcases key with ⟨h1, e⟩ | ⟨h1, h2, e⟩ | ⟨h1, h2, h3, e⟩ | ⟨h1, h2, h3, h4, e⟩ | ⟨h1, h2, h3, h4, h5, e⟩ | ⟨h1, h2, h3, h4, h5, h6, e⟩ | ⟨h1, h2, h3, h4, h5, h6, e⟩
  all_goals
    have E := Lib.hid e
    clear e
    try have hw' := hw h3 h4
    clear hw hf1 hf2 hf3
    go_enter Try.func32, Try.ntmps32
    go_wp2
    go_ret
    rw [E.out]
    exact ⟨by first | rfl | (simp; done) | (simp; omega), only_alloc (only_refl _ _) _⟩

theorem places_any (p : Prt) (h : Within p) (w : World) : Calls Try.prog 34 #[prv p] w fun e w' => e = .returned (spv (spd p)) ∧ w.grownBy w' none := by
  obtain ⟨o, b, s⟩ := p
  obtain ⟨h1, h2, h3, h4⟩ := h
  simp only at h1 h2 h3 h4
  have hw : IntKind.i64.wrap (b + s) = b + s := by rw [IntKind.wrap_i64]; omega
  clear h1 h2 h3 h4
  go_enter Try.func34, Try.ntmps34
  go_wp2
  refine bodyPost_ret (v := .agg #[.int .i64 b, .int .i64 (b + s)]) (by simp [results, Try.results34, go_sem]) rfl ⟨rfl, only_alloc (only_alloc (only_refl _ _) _) _⟩

/-- Has a row n sectors from one on? -/
def hasB (p : Prt) (s n : Int) : Bool := decide (0 ≤ s ∧ n ≤ p.2.2 - s)
theorem has_any (p : Prt) (h : Within p) (s n : Int) (hs : fitI s) (w : World) : Calls Try.prog 30 #[prv p, .int .i64 s, .int .i64 n] w fun e w' => e = .returned (.bool (hasB p s n)) ∧ w.grownBy w' none := by
  obtain ⟨o, f, c⟩ := p
  obtain ⟨h1, h2, _, _⟩ := h
  unfold fitI at hs
  simp only at h1 h2
  have key : (¬ 0 ≤ s ∧ hasB (o, f, c) s n = false) ∨ (0 ≤ s ∧ ¬ n ≤ c - s ∧ hasB (o, f, c) s n = false) ∨ (0 ≤ s ∧ n ≤ c - s ∧ hasB (o, f, c) s n = true) := by
    by_cases h1 : 0 ≤ s <;> by_cases h2 : n ≤ c - s <;> simp [hasB, h1, h2] <;> omega
  have hw : 0 ≤ s → IntKind.i64.wrap (c - s) = c - s := fun h => by rw [IntKind.wrap_i64]; omega
  clear h1 h2 hs
  rcases key with ⟨h1, e⟩ | ⟨h1, h2, e⟩ | ⟨h1, h2, e⟩
  all_goals
    have E := Lib.hid e
    clear e
    try have hw' := hw h1
    clear hw
    go_enter Try.func30, Try.ntmps30
    go_wp2
    go_ret
    rw [E.out]
    exact ⟨by first | rfl | (simp; done) | (simp; omega), only_alloc (only_refl _ _) _⟩

/-- How many bytes a job moves. -/
def sizeJ (j : Jb) : Int := if j.2.2.2.1 then j.2.2.2.2.size else j.2.2.1
theorem jsize_any (j : Jb) (w : World) : Calls Try.prog 31 #[jbv j] w fun e w' => e = .returned (.int .i64 (sizeJ j)) ∧ w.grownBy w' none := by
  obtain ⟨o, s, n, b, t⟩ := j
  cases b with
  | true =>
    go_enter Try.func31, Try.ntmps31
    go_wp2
    go_ret
    exact ⟨rfl, only_alloc (only_refl _ _) _⟩
  | false =>
    go_enter Try.func31, Try.ntmps31
    go_wp2
    go_ret
    exact ⟨rfl, only_alloc (only_refl _ _) _⟩

/-- A disk lies in block b: its sectors' bytes, its rows by owners, its job, when that began, and what it put down. -/
def Dsk (w : World) (b : Nat) (S : Nat → UInt8) (T : Nat → Prt) (bz : Bool) (j : Jb) (st : Int) (v : Value) : Prop :=
  ∃ cs, Blk w b 66 cs ∧ cs.size = 8227 ∧ (∀ k, k < 8192 → cs[k]? = some (.int .u8 (S k).toNat)) ∧ (∀ k, k < 9 → cs[8192 + k * 3]? = some (.int .i64 (T k).1) ∧ cs[8192 + k * 3 + 1]? = some (.int .i64 (T k).2.1) ∧ cs[8192 + k * 3 + 2]? = some (.int .i64 (T k).2.2)) ∧
    cs[8219]? = some (.bool bz) ∧ cs[8220]? = some (.int .i64 j.1) ∧ cs[8221]? = some (.int .i64 j.2.1) ∧ cs[8222]? = some (.int .i64 j.2.2.1) ∧ cs[8223]? = some (.bool j.2.2.2.1) ∧ cs[8224]? = some (.string j.2.2.2.2) ∧ cs[8225]? = some (.int .i64 st) ∧ cs[8226]? = some v
section
variable {w w' : World} {b : Nat} {S : Nat → UInt8} {T : Nat → Prt} {bz : Bool} {j : Jb} {st : Int} {v : Value}
theorem Dsk.lt (h : Dsk w b S T bz j st v) : b < w.heap.size := by obtain ⟨cs, h0, _⟩ := h; exact h0.lt
theorem Dsk.free (h : Dsk w b S T bz j st v) (i : Nat) : w.frozen? ⟨b, i, none⟩ = false := by obtain ⟨cs, h0, _⟩ := h; exact h0.free i
theorem Dsk.byte (h : Dsk w b S T bz j st v) {k : Nat} (hk : k < 8192) : w.cell? ⟨b, k, none⟩ = some (.int .u8 (S k).toNat) := by obtain ⟨cs, h0, _, h1, _⟩ := h; exact (h0.cell k).trans (h1 k hk)
theorem Dsk.row (h : Dsk w b S T bz j st v) {k : Nat} (hk : k < 9) : w.cell? ⟨b, 8192 + k * 3, none⟩ = some (.int .i64 (T k).1) ∧ w.cell? ⟨b, 8192 + k * 3 + 1, none⟩ = some (.int .i64 (T k).2.1) ∧ w.cell? ⟨b, 8192 + k * 3 + 2, none⟩ = some (.int .i64 (T k).2.2) := by
  obtain ⟨cs, h0, _, _, h1, _⟩ := h
  obtain ⟨a1, a2, a3⟩ := h1 k hk
  exact ⟨(h0.cell _).trans a1, (h0.cell _).trans a2, (h0.cell _).trans a3⟩
theorem Dsk.busy (h : Dsk w b S T bz j st v) : w.cell? ⟨b, 8219, none⟩ = some (.bool bz) := by obtain ⟨cs, h0, _, _, _, h1, _⟩ := h; exact (h0.cell _).trans h1
theorem Dsk.job (h : Dsk w b S T bz j st v) : w.cell? ⟨b, 8220, none⟩ = some (.int .i64 j.1) ∧ w.cell? ⟨b, 8221, none⟩ = some (.int .i64 j.2.1) ∧ w.cell? ⟨b, 8222, none⟩ = some (.int .i64 j.2.2.1) ∧ w.cell? ⟨b, 8223, none⟩ = some (.bool j.2.2.2.1) ∧ w.cell? ⟨b, 8224, none⟩ = some (.string j.2.2.2.2) := by
  obtain ⟨cs, h0, _, _, _, _, a1, a2, a3, a4, a5, _⟩ := h
  exact ⟨(h0.cell _).trans a1, (h0.cell _).trans a2, (h0.cell _).trans a3, (h0.cell _).trans a4, (h0.cell _).trans a5⟩
theorem Dsk.start (h : Dsk w b S T bz j st v) : w.cell? ⟨b, 8225, none⟩ = some (.int .i64 st) := by obtain ⟨cs, h0, _, _, _, _, _, _, _, _, _, h1, _⟩ := h; exact (h0.cell _).trans h1
theorem Dsk.log (h : Dsk w b S T bz j st v) : w.cell? ⟨b, 8226, none⟩ = some v := by obtain ⟨cs, h0, _, _, _, _, _, _, _, _, _, _, h1⟩ := h; exact (h0.cell _).trans h1
theorem Dsk.only {row : Option Nat} (h : Dsk w b S T bz j st v) (hb : w.grownBy w' row) (hne : some b ≠ row) : Dsk w' b S T bz j st v := by
  obtain ⟨cs, h0, h1⟩ := h
  exact ⟨cs, h0.only hb hne, h1⟩
theorem Dsk.below (h : Dsk w b S T bz j st v) (hb : Below w.heap.size w w') : Dsk w' b S T bz j st v := h.only (only_far hb) (by simp)
theorem Dsk.grown (h : Dsk w b S T bz j st v) (hb : w.grownBy w' none) : Dsk w' b S T bz j st v := h.only hb (by simp)

/-- The row of an owner, or none; and the error. -/
def noT (T : Nat → Prt) (o : Int) : Bool := decide (o < 1 ∨ 8 < o ∨ (T o.toNat).1 = 0)
def fndT (T : Nat → Prt) (o : Int) : Prt := if noT T o then (0, 0, 0) else T o.toNat
def fndE (T : Nat → Prt) (o : Int) : Int := if noT T o then 7 else 0
theorem dfind_nil (o : Int) (w : World) : Calls Try.prog 29 #[.pointer none, .int .i64 o] w fun e w' => e = .returned (.tuple #[prv (0, 0, 0), .int .i64 1]) ∧ w.grownBy w' none := by
  go_enter Try.func29, Try.ntmps29
  go_wp2
  refine bodyPost_ret (v := .tuple #[.agg #[.int .i64 0, .int .i64 0, .int .i64 0], .int .i64 1]) (by simp [results, Try.results29, go_sem]) rfl ⟨rfl, only_alloc (only_refl _ _) _⟩
theorem dfind_any (h : Dsk w b S T bz j st v) (o : Int) : Calls Try.prog 29 #[.pointer (some ⟨b, 0, none⟩), .int .i64 o] w fun e w' => e = .returned (.tuple #[prv (fndT T o), .int .i64 (fndE T o)]) ∧ w.grownBy w' none := by
  by_cases h1 : o < 1
  · have e1 : fndT T o = (0, 0, 0) := by simp [fndT, noT, h1]
    have e2 : fndE T o = 7 := by simp [fndE, noT, h1]
    rw [e1, e2]
    clear h e1 e2
    go_enter Try.func29, Try.ntmps29
    go_wp2
    refine bodyPost_ret (v := .tuple #[.agg #[.int .i64 0, .int .i64 0, .int .i64 0], .int .i64 7]) (by simp [results, Try.results29, go_sem]) rfl ⟨rfl, only_alloc (only_refl _ _) _⟩
  · by_cases h2 : 8 < o
    · have e1 : fndT T o = (0, 0, 0) := by simp [fndT, noT, h2]
      have e2 : fndE T o = 7 := by simp [fndE, noT, h2]
      rw [e1, e2]
      clear h e1 e2
      go_enter Try.func29, Try.ntmps29
      go_wp2
      refine bodyPost_ret (v := .tuple #[.agg #[.int .i64 0, .int .i64 0, .int .i64 0], .int .i64 7]) (by simp [results, Try.results29, go_sem]) rfl ⟨rfl, only_alloc (only_refl _ _) _⟩
    · obtain ⟨k, rfl⟩ : ∃ k : Nat, o = k := ⟨o.toNat, by omega⟩
      have hk : k < 9 := by omega
      have hk' : (k : Int) < 9 := by omega
      obtain ⟨c0, c1, c2⟩ := h.row hk
      have d0 : (w.alloc (.cells #[.int .i64 0, .int .i64 0, .int .i64 0] 59)).cell? ⟨b, 8192 + k * 3, none⟩ = some (.int .i64 (T k).1) := Go.Lib.cell?_alloc_some _ c0
      have d1 : (w.alloc (.cells #[.int .i64 0, .int .i64 0, .int .i64 0] 59)).cell? ⟨b, 8192 + k * 3 + 1, none⟩ = some (.int .i64 (T k).2.1) := Go.Lib.cell?_alloc_some _ c1
      have d2 : (w.alloc (.cells #[.int .i64 0, .int .i64 0, .int .i64 0] 59)).cell? ⟨b, 8192 + k * 3 + 2, none⟩ = some (.int .i64 (T k).2.2) := Go.Lib.cell?_alloc_some _ c2
      have ht : ∀ x, T k = x → (x.1 = 0 → fndT T (k : Int) = (0, 0, 0) ∧ fndE T (k : Int) = 7) ∧ (¬ x.1 = 0 → fndT T (k : Int) = x ∧ fndE T (k : Int) = 0) := fun x hx => by
        subst hx
        exact ⟨fun h => by simp [fndT, fndE, noT, h], fun h => by have : noT T (k : Int) = false := by { simp [noT, h]; omega }; simp [fndT, fndE, this]⟩
      obtain ⟨x, hx⟩ : ∃ x, T k = x := ⟨_, rfl⟩
      have ht := ht x hx
      rw [hx] at c0 c1 c2 d0 d1 d2
      obtain ⟨x1, x2, x3⟩ := x
      simp only at c0 c1 c2 d0 d1 d2 ht
      clear h hx
      by_cases h0 : x1 = 0
      · rw [(ht.1 h0).1, (ht.1 h0).2]
        subst h0
        clear ht
        go_enter Try.func29, Try.ntmps29
        go_wp2
        refine bodyPost_ret (v := .tuple #[.agg #[.int .i64 0, .int .i64 0, .int .i64 0], .int .i64 7]) (by simp [results, Try.results29, go_sem]) rfl ⟨rfl, only_alloc (only_refl _ _) _⟩
      · rw [(ht.2 h0).1, (ht.2 h0).2]
        have h0' : (x1 == 0) = false := beq_eq_false_iff_ne.2 h0
        clear ht
        go_enter Try.func29, Try.ntmps29
        go_wp2
        refine bodyPost_ret (v := .tuple #[.agg #[.int .i64 x1, .int .i64 x2, .int .i64 x3], .int .i64 0]) (by simp [results, Try.results29, go_sem]) rfl ⟨rfl, only_alloc (only_refl _ _) _⟩
end
end Go.Proofs.Ytlmdnhpdeiekfaa
