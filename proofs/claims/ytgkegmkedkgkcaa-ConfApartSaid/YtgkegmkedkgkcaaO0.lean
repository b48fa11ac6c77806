/- Package conf: its tables, and the small functions, by their contracts. -/
import Derived.Test.YtgkegmkedkgkcaaM2
import Derived.Deep.RegionHeld3
import Derived.Deep.Cut
import Derived.Lib.QuietBelow
import Derived.BigQuiet
namespace Go.Proofs.Ytgkegmkedkgkcaa
open Go.RowKit Go.Lib Go.Sort
set_option linter.unusedVariables false

theorem bel0 {P : Program} {f : FuncId} {args : Array Value} {w : World} {v : Value} (h : Calls P f args w fun e w' => e = .returned v ∧ w = w') : Calls P f args w fun e w' => e = .returned v ∧ Below w.heap.size w w' := h.mono fun e w' ⟨h1, h2⟩ => by subst h2; exact ⟨h1, Below.refl _ _⟩
theorem bel1 {P : Program} {f : FuncId} {args : Array Value} {w : World} {v : Value} (h : Calls P f args w fun e w' => e = .returned v ∧ w.grownBy w' none) : Calls P f args w fun e w' => e = .returned v ∧ Below w.heap.size w w' := h.mono fun e w' ⟨h1, h2⟩ => ⟨h1, below_of_only h2 (Nat.le_refl _) (by simp)⟩
theorem rg0 {P : Program} {f : FuncId} {args : Array Value} {w : World} {d : Nat} {os : Array Obj} {v : Value} (h : Calls P f args (grow (redrawn w d) os) fun e w' => e = .returned v ∧ grow (redrawn w d) os = w') : Calls P f args (grow (redrawn w d) os) fun e w'' => e = .returned v ∧ ∃ p : Regrown, w'' = grow (redrawn w p.d) p.os := Calls.regrown_of (bel0 h)
theorem rg1 {P : Program} {f : FuncId} {args : Array Value} {w : World} {d : Nat} {os : Array Obj} {v : Value} (h : Calls P f args (grow (redrawn w d) os) fun e w' => e = .returned v ∧ (grow (redrawn w d) os).grownBy w' none) : Calls P f args (grow (redrawn w d) os) fun e w'' => e = .returned v ∧ ∃ p : Regrown, w'' = grow (redrawn w p.d) p.os := Calls.regrown_of (bel1 h)
theorem blk_re {w : World} {g : Nat} {t : TypeId} {cs : Array Value} (h : Blk w g t cs) (d : Nat) (os : Array Obj) (i : Nat) : (grow (redrawn w d) os).cell? ⟨g, i, none⟩ = cs[i]? := by
  rw [(below_regrown w d os).cell (p := ⟨g, i, none⟩) h.lt, h.cell]
theorem only_re (w : World) (d : Nat) (os : Array Obj) : w.grownBy (grow (redrawn w d) os) none := only_far (below_regrown w d os)
theorem box1 (w : World) (t : TypeId) (cs : Array Value) : ∃ W, W = w.alloc (.cells cs t) ∧ w.grownBy W none ∧ Blk W w.heap.size t cs := ⟨_, rfl, only_alloc (only_refl _ _) _, Blk.new w t cs⟩
theorem box2 (w : World) (t : TypeId) (cs : Array Value) (t2 : TypeId) (cs2 : Array Value) : ∃ W, W = (w.alloc (.cells cs t)).alloc (.cells cs2 t2) ∧ w.grownBy W none ∧ Blk W w.heap.size t cs ∧ Blk W (w.heap.size + 1) t2 cs2 :=
  ⟨_, rfl, only_alloc (only_alloc (only_refl _ _) _) _, (Blk.new w t cs).alloc _, by simpa using Blk.new (w.alloc (.cells cs t)) t2 cs2⟩
/-- Fits an int. -/
def fitI (x : Int) : Prop := -9223372036854775808 ≤ x ∧ x ≤ 9223372036854775807
theorem fitI_of {x : Int} (w : (Lit.int .i64 x).wf = true) : fitI x := by
  simp only [Lit.wf, Bool.and_eq_true, decide_eq_true_eq] at w
  have e1 : IntKind.i64.min = -9223372036854775808 := by kernel_rfl
  have e2 : IntKind.i64.max = 9223372036854775807 := by kernel_rfl
  unfold fitI
  omega
/-- A window, or a slot: owner, from, to. -/
abbrev W3 := Int × Int × Int
abbrev w3v (x : W3) : Value := .agg #[.int .i64 x.1, .int .i64 x.2.1, .int .i64 x.2.2]
/-- Its ticks. -/
abbrev w3s (x : W3) : Int × Int := (x.2.1, x.2.2)
/-- A client's row. -/
structure Cl where
  base : Int
  size : Int
  ring : Int
  at' : Int
  quota : Int
  queue : Int
  mac : Int
  chan : Int
  first : Int
  secs : Int
abbrev clA (x : Cl) : Array Value := #[.int .i64 x.base, .int .i64 x.size, .int .i64 x.ring, .int .i64 x.at', .int .i64 x.quota, .int .i64 x.queue, .int .i64 x.mac, .int .i64 x.chan, .int .i64 x.first, .int .i64 x.secs]
abbrev clv (x : Cl) : Value := .agg (clA x)
def FitW3 (x : W3) : Prop := fitI x.1 ∧ fitI x.2.1 ∧ fitI x.2.2
def FitCl (x : Cl) : Prop := fitI x.base ∧ fitI x.size ∧ fitI x.ring ∧ fitI x.at' ∧ fitI x.quota ∧ fitI x.queue ∧ fitI x.mac ∧ fitI x.chan ∧ fitI x.first ∧ fitI x.secs
/-- The cells of a window that lies somewhere. -/
def W3C (w : World) (b o : Nat) (x : W3) : Prop := w.cell? ⟨b, o, none⟩ = some (.int .i64 x.1) ∧ w.cell? ⟨b, o + 1, none⟩ = some (.int .i64 x.2.1) ∧ w.cell? ⟨b, o + 2, none⟩ = some (.int .i64 x.2.2)
def ClC (w : World) (b o : Nat) (x : Cl) : Prop := w.cell? ⟨b, o, none⟩ = some (.int .i64 x.base) ∧ w.cell? ⟨b, o + 1, none⟩ = some (.int .i64 x.size) ∧ w.cell? ⟨b, o + 2, none⟩ = some (.int .i64 x.ring) ∧ w.cell? ⟨b, o + 3, none⟩ = some (.int .i64 x.at') ∧ w.cell? ⟨b, o + 4, none⟩ = some (.int .i64 x.quota) ∧ w.cell? ⟨b, o + 5, none⟩ = some (.int .i64 x.queue) ∧ w.cell? ⟨b, o + 6, none⟩ = some (.int .i64 x.mac) ∧ w.cell? ⟨b, o + 7, none⟩ = some (.int .i64 x.chan) ∧ w.cell? ⟨b, o + 8, none⟩ = some (.int .i64 x.first) ∧ w.cell? ⟨b, o + 9, none⟩ = some (.int .i64 x.secs)
section
variable {w w' : World} {b o : Nat}
theorem W3C.grown {x : W3} (h : W3C w b o x) (hb : b < w.heap.size) (g : w.grownBy w' none) : W3C w' b o x := by
  have hk := g.block b hb (by simp)
  have hcell : ∀ q, w'.cell? ⟨b, q, none⟩ = w.cell? ⟨b, q, none⟩ := fun q => by simp only [World.cell?, hk]
  unfold W3C
  simp only [hcell]
  exact h
theorem ClC.grown {x : Cl} (h : ClC w b o x) (hb : b < w.heap.size) (g : w.grownBy w' none) : ClC w' b o x := by
  have hk := g.block b hb (by simp)
  have hcell : ∀ q, w'.cell? ⟨b, q, none⟩ = w.cell? ⟨b, q, none⟩ := fun q => by simp only [World.cell?, hk]
  unfold ClC
  simp only [hcell]
  exact h
end
/-- Rows that came in, or were made. -/
def Row3 (w : World) (A : Option Addr) (n : Nat) (d : Nat → W3) : Prop := (A = none → n = 0) ∧ (0 < n → ∃ b off, A = some ⟨b, off, none⟩ ∧ b < w.heap.size ∧ ∀ i, i < n → W3C w b (off + i * 3) (d i))
def RowC (w : World) (A : Option Addr) (n : Nat) (d : Nat → Cl) : Prop := (A = none → n = 0) ∧ (0 < n → ∃ b off, A = some ⟨b, off, none⟩ ∧ b < w.heap.size ∧ ∀ i, i < n → ClC w b (off + i * 10) (d i))
section
variable {w w' : World} {A : Option Addr} {n : Nat}
theorem Row3.grown {d : Nat → W3} (h : Row3 w A n d) (g : w.grownBy w' none) : Row3 w' A n d := ⟨h.1, fun hp => by
  obtain ⟨b, off, e, hb, hc⟩ := h.2 hp
  exact ⟨b, off, e, Nat.lt_of_lt_of_le hb g.size, fun i hi => (hc i hi).grown hb g⟩⟩
theorem RowC.grown {d : Nat → Cl} (h : RowC w A n d) (g : w.grownBy w' none) : RowC w' A n d := ⟨h.1, fun hp => by
  obtain ⟨b, off, e, hb, hc⟩ := h.2 hp
  exact ⟨b, off, e, Nat.lt_of_lt_of_le hb g.size, fun i hi => (hc i hi).grown hb g⟩⟩
theorem Row3.cut {d : Nat → W3} (h : Row3 w A n d) (m : Nat) (hm : m ≤ n) : Row3 w A m d := ⟨fun e => by have := h.1 e; omega, fun hp => by
  obtain ⟨b, off, e, hb, hc⟩ := h.2 (by omega)
  exact ⟨b, off, e, hb, fun i hi => hc i (by omega)⟩⟩
theorem RowC.cut {d : Nat → Cl} (h : RowC w A n d) (m : Nat) (hm : m ≤ n) : RowC w A m d := ⟨fun e => by have := h.1 e; omega, fun hp => by
  obtain ⟨b, off, e, hb, hc⟩ := h.2 (by omega)
  exact ⟨b, off, e, hb, fun i hi => hc i (by omega)⟩⟩
end
/-- A machine's tables. -/
structure Cf where
  fr : Int
  wA : Option Addr
  wn : Nat
  wc : Nat
  wd : Nat → W3
  sA : Option Addr
  sn : Nat
  sc : Nat
  sd : Nat → W3
  cA : Option Addr
  cn : Nat
  cc : Nat
  cd : Nat → Cl
abbrev cfA (c : Cf) : Array Value := #[.int .i64 c.fr, .slice c.wA c.wn c.wc, .slice c.sA c.sn c.sc, .slice c.cA c.cn c.cc]
abbrev cfv (c : Cf) : Value := .agg (cfA c)
def FitCf (c : Cf) : Prop := fitI c.fr ∧ (c.wn ≤ c.wc ∧ c.wc ≤ 9223372036854775807 ∧ ∀ i, i < c.wn → FitW3 (c.wd i)) ∧ (c.sn ≤ c.sc ∧ c.sc ≤ 9223372036854775807 ∧ ∀ i, i < c.sn → FitW3 (c.sd i)) ∧ (c.cn ≤ c.cc ∧ c.cc ≤ 9223372036854775807 ∧ ∀ i, i < c.cn → FitCl (c.cd i))
def CfV (w : World) (c : Cf) : Prop := Row3 w c.wA c.wn c.wd ∧ Row3 w c.sA c.sn c.sd ∧ RowC w c.cA c.cn c.cd
theorem CfV.grown {w w' : World} {c : Cf} (h : CfV w c) (g : w.grownBy w' none) : CfV w' c := ⟨h.1.grown g, h.2.1.grown g, h.2.2.grown g⟩
/-- A box with tables. -/
abbrev BoxC (w : World) (g : Nat) (c : Cf) : Prop := Blk w g 26 (cfA c)

/-- Is a number within two others? -/
def wiB (n a b : Int) : Bool := decide (a ≤ n ∧ n ≤ b)
theorem within_any (n a b : Int) (w : World) : Calls Try.prog 40 #[.int .i64 n, .int .i64 a, .int .i64 b] w fun e w' => e = .returned (.bool (wiB n a b)) ∧ w = w' := by
  have key : (¬ a ≤ n ∧ wiB n a b = false) ∨ (a ≤ n ∧ ¬ n ≤ b ∧ wiB n a b = false) ∨ (a ≤ n ∧ n ≤ b ∧ wiB n a b = true) := by
    unfold wiB
    by_cases h1 : a ≤ n <;> by_cases h2 : n ≤ b <;> simp [h1, h2]
  rcases key with ⟨h1, e⟩ | ⟨h1, h2, e⟩ | ⟨h1, h2, e⟩
  all_goals
    have E := Lib.hid e
    clear e
    go_enter Try.func40, Try.ntmps40
    go_wp2
    go_ret
    rw [E.out]
    exact ⟨by first | rfl | (simp; done) | (simp; omega), rfl⟩
/-- How many bytes a ring has. -/
def rgN (n : Int) : Int := if n = 1 ∨ n = 2 ∨ n = 4 ∨ n = 8 ∨ n = 16 then 8 * n + 2 else 0
theorem ring_any (n : Int) (w : World) : Calls Try.prog 12 #[.int .i64 n] w fun e w' => e = .returned (.int .i64 (rgN n)) ∧ w = w' := by
  have key : n = 1 ∨ n = 2 ∨ n = 4 ∨ n = 8 ∨ n = 16 ∨ (¬ n = 1 ∧ ¬ n = 2 ∧ ¬ n = 4 ∧ ¬ n = 8 ∧ ¬ n = 16) := by omega
  rcases key with rfl | rfl | rfl | rfl | rfl | ⟨h1, h2, h3, h4, h5⟩
  case inr.inr.inr.inr.inr =>
    have e : rgN n = 0 := by unfold rgN; rw [if_neg]; omega
    have E := Lib.hid e
    clear e
    go_enter Try.func12, Try.ntmps12
    go_wp2
    go_ret
    rw [E.out]
    exact ⟨rfl, rfl⟩
  all_goals
    go_enter Try.func12, Try.ntmps12
    go_wp2
    go_ret
    exact ⟨rfl, rfl⟩
theorem rgN_le (n : Int) : 0 ≤ rgN n ∧ rgN n ≤ 130 := by
  unfold rgN
  split
  · rename_i h
    omega
  · omega
theorem ticks_any (x : W3) (w : World) : Calls Try.prog 42 #[w3v x] w fun e w' => e = .returned (spv (w3s x)) ∧ w.grownBy w' none := by
  obtain ⟨o, a, b⟩ := x
  go_enter Try.func42, Try.ntmps42
  go_wp2
  refine bodyPost_ret (v := .agg #[.int .i64 a, .int .i64 b]) (by simp [results, Try.results42, go_sem]) rfl ⟨rfl, only_alloc (only_alloc (only_refl _ _) _) _⟩
end Go.Proofs.Ytgkegmkedkgkcaa
