import Derived.WalkKit
import Derived.Deep.Draws
import Derived.Deep.QuietTactic
import Derived.Lib.Hide
import Derived.Deep.Upon
import Derived.Lib.SliceRun
import Derived.Maps.AppendAt
import Derived.Test.YticmgkdhdfkpeaaRows
import Derived.ProofKit
import Derived.OpenShut
import Derived.WalkLawsBesides
import Derived.WalkSpells
import Derived.BigQuiet
import Derived.StillTailTactics
import Derived.Deep.Cut
import Derived.Deep.RegionHeld3
import Derived.Deep.RegionLaw
import Derived.BigRegion
import Derived.WalkMore
import Derived.IntWalk
import Derived.RegionTactic
set_option linter.all false
/- Words for memory: a block that is known whole; only one block was written. -/
namespace Go.Proofs.Yticmgkdhdfkpeaa
open Go.RowKit

/-- Block g holds just the cells cs, of element type t, and none of them is frozen. -/
def Blk (w : World) (g : Nat) (t : TypeId) (cs : Array Value) : Prop := w.heap[g]? = some (.cells cs t (0, 0))

section
variable {w w' : World} {g : Nat} {t : TypeId} {cs : Array Value}
theorem Blk.lt (h : Blk w g t cs) : g < w.heap.size := lt_of_block h
theorem Blk.cell (h : Blk w g t cs) (i : Nat) : w.cell? ⟨g, i, none⟩ = cs[i]? := by
  have h' : w.heap[g]? = some (.cells cs t (0, 0)) := h
  simp [World.cell?, h']
theorem Blk.free (h : Blk w g t cs) (i : Nat) : w.frozen? ⟨g, i, none⟩ = false := by
  have h' : w.heap[g]? = some (.cells cs t (0, 0)) := h
  simp [World.frozen?, h']
theorem Blk.new (w : World) (t : TypeId) (cs : Array Value) : Blk (w.alloc (.cells cs t)) w.heap.size t cs := by
  show (w.heap.push _)[w.heap.size]? = _
  simp
theorem Blk.drewN (h : Blk w g t cs) (n : Nat) : Blk (w.drewN n) g t cs := h
theorem Blk.alloc (h : Blk w g t cs) (o : Obj) : Blk (w.alloc o) g t cs := (Below.heap_alloc w o g h.lt).trans h
theorem Blk.put (h : Blk w g t cs) (i : Nat) (u : Value) : Blk (w.setCell ⟨g, i, none⟩ u) g t (cs.setIfInBounds i u) := by
  have h' : w.heap[g]? = some (.cells cs t (0, 0)) := h
  show (World.setCell w ⟨g, i, none⟩ u).heap[g]? = _
  simp [World.setCell, Array.getElem?_modify, h']
theorem Blk.far (h : Blk w g t cs) {p : Addr} (hp : g ≠ p.block) (u : Value) : Blk (w.setCell p u) g t cs := (Below.heap_setCell w p u g hp).trans h
theorem Blk.below {B : Nat} (h : Blk w g t cs) (hb : Below B w w') (hg : g < B) : Blk w' g t cs := (hb.block g hg).trans h
theorem Blk.only {row : Option Nat} (h : Blk w g t cs) (hb : w.grownBy w' row) (hg : some g ≠ row) : Blk w' g t cs := (hb.block g h.lt hg).trans h
theorem Blk.differ {g' : Nat} {t' : TypeId} {cs' : Array Value} (h : Blk w g t cs) (h' : Blk w g' t' cs') (hne : t ≠ t') : g ≠ g' := by
  rintro rfl
  have h1 : w.heap[g]? = some (.cells cs t (0, 0)) := h
  have h2 : w.heap[g]? = some (.cells cs' t' (0, 0)) := h'
  rw [h1] at h2
  injection h2 with h3
  injection h3 with _ h4
  exact hne h4
end

section
variable {a b c w : World} {row : Option Nat}
theorem only_refl (w : World) (row : Option Nat) : w.grownBy w row := ⟨rfl, rfl, rfl, Nat.le_refl _, fun _ _ _ => rfl⟩
theorem only_trans (h : a.grownBy b row) (k : b.grownBy c row) : a.grownBy c row :=
  ⟨k.os.trans h.os, k.tape.trans h.tape, k.output.trans h.output, Nat.le_trans h.size k.size, fun i hi hne => (k.block i (Nat.lt_of_lt_of_le hi h.size) hne).trans (h.block i hi hne)⟩
theorem only_drewN (h : a.grownBy w row) (n : Nat) : a.grownBy (w.drewN n) row := ⟨h.os, h.tape, h.output, h.size, h.block⟩
theorem only_alloc (h : a.grownBy w row) (o : Obj) : a.grownBy (w.alloc o) row :=
  ⟨h.os, h.tape, h.output, Nat.le_trans h.size (by simp), fun i hi hne => (Below.heap_alloc w o i (Nat.lt_of_lt_of_le hi h.size)).trans (h.block i hi hne)⟩
theorem only_put {g : Nat} (h : a.grownBy w (some g)) (i : Nat) (u : Value) : a.grownBy (w.setCell ⟨g, i, none⟩ u) (some g) :=
  ⟨h.os, h.tape, h.output, by simpa [World.setCell] using h.size, fun i hi hne => (Below.heap_setCell w _ u i (by
    rintro rfl
    exact hne rfl)).trans (h.block i hi hne)⟩
theorem only_any (h : a.grownBy w none) (row : Option Nat) : a.grownBy w row := ⟨h.os, h.tape, h.output, h.size, fun i hi hne => h.block i hi (by simp)⟩
theorem below_of_only {B : Nat} (h : a.grownBy w row) (hB : B ≤ a.heap.size) (hr : ∀ k, row = some k → B ≤ k) : Below B a w :=
  ⟨h.os, h.tape, h.output, h.size, fun k hk => h.block k (Nat.lt_of_lt_of_le hk hB) (fun e => by have := hr k e.symm; omega)⟩
theorem below_drewN {B : Nat} (h : Below B a w) (n : Nat) : Below B a (w.drewN n) := ⟨h.os, h.tape, h.output, h.size, h.block⟩
end

/-- A callee that leaves the world as1 it is, met in a region that draws. -/
theorem quiet_same {P : Program} {f : FuncId} {args : Array Value} {w : World} {n : Nat} {v : Value} (h : Calls P f args (w.drewN n) fun e w' => e = .returned v ∧ w.drewN n = w') : Calls P f args (w.drewN n) fun e w'' => e = .returned v ∧ ∃ m, w'' = w.drewN m :=
  h.mono fun _ _ ⟨he, hm⟩ => ⟨he, n, hm.symm⟩
theorem quiet_draws {P : Program} {f : FuncId} {args : Array Value} {w : World} {n : Nat} {v : Value} (h : Calls P f args (w.drewN n) fun e w' => e = .returned v ∧ ∃ q, (w.drewN n).drewN q = w') : Calls P f args (w.drewN n) fun e w'' => e = .returned v ∧ ∃ m, w'' = w.drewN m :=
  h.mono fun _ _ ⟨he, q, hm⟩ => ⟨he, n + q, by rw [← hm, World.drewN_drewN]⟩
theorem quiet_same2 {P : Program} {f : FuncId} {args : Array Value} {w : World} {a n : Nat} {v : Value} (h : Calls P f args (w.drewN (a + n)) fun e w' => e = .returned v ∧ w.drewN (a + n) = w') : Calls P f args (w.drewN (a + n)) fun e w'' => e = .returned v ∧ ∃ m, w'' = w.drewN (a + m) :=
  h.mono fun _ _ ⟨he, hm⟩ => ⟨he, n, hm.symm⟩
theorem quiet_draws2 {P : Program} {f : FuncId} {args : Array Value} {w : World} {a n : Nat} {v : Value} (h : Calls P f args (w.drewN (a + n)) fun e w' => e = .returned v ∧ ∃ q, (w.drewN (a + n)).drewN q = w') : Calls P f args (w.drewN (a + n)) fun e w'' => e = .returned v ∧ ∃ m, w'' = w.drewN (a + m) :=
  h.mono fun _ _ ⟨he, q, hm⟩ => ⟨he, n + q, by rw [← hm, World.drewN_drewN, Nat.add_assoc]⟩
theorem w64_byte (x : UInt8) : wrap64 (x.toNat : Int) = (x.toNat : Int) := by
  have := x.toNat_lt
  exact IntWalk.wrap64_in _ ⟨by omega, by omega⟩

/-- An owned row of other elements lies in another block. -/
theorem own_ne {w : World} {base : Nat} {e t : TypeId} {size n g : Nat} {v : Value} {xs : List Value} {cs : Array Value} (h : w.ownsRow base e size v n xs) (hg : Blk w g t cs) (hne : e ≠ t) : v.ownBlock ≠ some g := by
  rcases h.2 with ⟨rfl, _⟩ | ⟨g', cap, cur, rfl, _, hh, _⟩
  · simp [Value.ownBlock]
  · intro he
    have e1 : g' = g := by simpa [Value.ownBlock] using he
    subst e1
    have h' : Blk w g' e cur := hh
    exact h'.differ hg hne rfl

theorem own_form {w : World} {base : Nat} {e : TypeId} {size n : Nat} {v : Value} {xs : List Value} (h : w.ownsRow base e size v n xs) : ∃ A c, v = .slice A n c := by
  rcases h.2 with ⟨rfl, rfl⟩ | ⟨g', cap, cur, rfl, _⟩
  · exact ⟨_, _, rfl⟩
  · exact ⟨_, _, rfl⟩

theorem ret_int {k : IntKind} {a b : Int} (h : a = b) : Ending.returned (.int k a) = .returned (.int k b) := by rw [h]
end Go.Proofs.Yticmgkdhdfkpeaa

/- Accounts of units in plain form. -/
namespace Go.Proofs.Yticmgkdhdfkpeaa
open Go.RowKit Go.Lib
set_option linter.unusedVariables false
set_option maxRecDepth 8000

/-- The frame in which an account is, units in that frame, in all frames, refused. -/
structure Qt.St where
  fr : Nat
  U : Nat → Nat
  T : Nat → Nat
  D : Nat → Nat
def Qt.z0 : Nat → Nat := fun _ => 0
def Qt.s0 : Qt.St := ⟨0, Qt.z0, Qt.z0, Qt.z0⟩
def Qt.upd (o : Nat → Nat) (i x : Nat) : Nat → Nat := fun j => if j = i then x else o j
theorem Qt.upd_at (o : Nat → Nat) (i x : Nat) : Qt.upd o i x i = x := by simp [Qt.upd]
theorem Qt.upd_off (o : Nat → Nat) {i j : Nat} (x : Nat) (h : j ≠ i) : Qt.upd o i x j = o j := by simp [Qt.upd, h]
/-- Units in the frame p, as1 far as1 the account knows. -/
def Qt.eff (s : Qt.St) (p : Nat) : Nat → Nat := if s.fr < p then Qt.z0 else s.U
/-- The account behind a unit asked for in the frame p, and whether it may be used. -/
def Qt.go (Q : Nat → Nat) (s : Qt.St) (p i : Nat) : Qt.St × Bool :=
  if Q i ≤ Qt.eff s p i then (⟨p, Qt.eff s p, s.T, Qt.upd s.D i (s.D i + 1)⟩, false) else (⟨p, Qt.upd (Qt.eff s p) i (Qt.eff s p i + 1), Qt.upd s.T i (s.T i + 1), s.D⟩, true)
/-- Is it asked, and of whom, and of which frame? -/
def Qt.ok (f n fr : Nat) (t o : Int) : Prop := 1 ≤ o ∧ o ≤ n ∧ 0 ≤ t ∧ t ≤ 2147483647 ∧ fr ≤ (t / f).toNat
instance (f n fr : Nat) (t o : Int) : Decidable (Qt.ok f n fr t o) := by unfold Qt.ok; infer_instance
def Qt.use (f n : Nat) (Q : Nat → Nat) (s : Qt.St) (t o : Int) : Qt.St × Bool := if Qt.ok f n s.fr t o then Qt.go Q s (t / f).toNat (o - 1).toNat else (s, false)
def Qt.left (f n : Nat) (Q : Nat → Nat) (s : Qt.St) (t o : Int) : Int := if Qt.ok f n s.fr t o then (Q (o - 1).toNat : Int) - Qt.eff s (t / f).toNat (o - 1).toNat else 0
def Qt.tot (n : Nat) (s : Qt.St) (o : Int) : Nat := if 1 ≤ o ∧ o ≤ n then s.T (o - 1).toNat else 0
def Qt.ref (n : Nat) (s : Qt.St) (o : Int) : Nat := if 1 ≤ o ∧ o ≤ n then s.D (o - 1).toNat else 0
/-- What is counted stays below a bound. -/
structure Qt.Bd (n : Nat) (Q : Nat → Nat) (s : Qt.St) (m : Nat) : Prop where
  n8 : n ≤ 8
  q : ∀ i, i < n → 1 ≤ Q i ∧ Q i ≤ 16
  u : ∀ i, i < n → s.U i ≤ Q i
  t : ∀ i, s.T i ≤ m
  d : ∀ i, s.D i ≤ m
  f : s.fr ≤ 2147483647
theorem Qt.Bd.eff {n : Nat} {Q : Nat → Nat} {s : Qt.St} {m : Nat} (h : Qt.Bd n Q s m) (p : Nat) : ∀ i, i < n → Qt.eff s p i ≤ Q i := by
  intro i hi
  unfold Qt.eff
  split
  · exact Nat.zero_le _
  · exact h.u i hi
theorem Qt.Bd.go {n : Nat} {Q : Nat → Nat} {s : Qt.St} {m : Nat} (h : Qt.Bd n Q s m) (p i : Nat) (hp : p ≤ 2147483647) : Qt.Bd n Q (Qt.go Q s p i).1 (m + 1) := by
  have he := h.eff p
  unfold Qt.go
  split
  · refine ⟨h.n8, h.q, he, fun j => Nat.le_succ_of_le (h.t j), fun j => ?_, hp⟩
    show Qt.upd s.D i (s.D i + 1) j ≤ m + 1
    by_cases e : j = i
    · subst e; rw [Qt.upd_at]; have := h.d j; omega
    · rw [Qt.upd_off _ _ e]; exact Nat.le_succ_of_le (h.d j)
  · rename_i hq
    refine ⟨h.n8, h.q, fun j hj => ?_, fun j => ?_, fun j => Nat.le_succ_of_le (h.d j), hp⟩
    · show Qt.upd (Qt.eff s p) i (Qt.eff s p i + 1) j ≤ Q j
      by_cases e : j = i
      · subst e; rw [Qt.upd_at]; omega
      · rw [Qt.upd_off _ _ e]; exact he j hj
    · show Qt.upd s.T i (s.T i + 1) j ≤ m + 1
      by_cases e : j = i
      · subst e; rw [Qt.upd_at]; have := h.t j; omega
      · rw [Qt.upd_off _ _ e]; exact Nat.le_succ_of_le (h.t j)
theorem Qt.fr_le {f : Nat} {t : Int} (hf : 1 ≤ f) (h0 : 0 ≤ t) (h1 : t ≤ 2147483647) : (t / f).toNat ≤ 2147483647 := by
  have : t / (f : Int) ≤ t := Int.ediv_le_self _ h0
  have : 0 ≤ t / (f : Int) := Int.ediv_nonneg h0 (by omega)
  omega
theorem Qt.Bd.use {f n : Nat} {Q : Nat → Nat} {s : Qt.St} {m : Nat} (h : Qt.Bd n Q s m) (hf : 1 ≤ f) (t o : Int) : Qt.Bd n Q (Qt.use f n Q s t o).1 (m + 1) := by
  unfold Qt.use
  split
  · rename_i hk
    exact h.go _ _ (Qt.fr_le hf hk.2.2.1 hk.2.2.2.1)
  · exact ⟨h.n8, h.q, h.u, fun j => Nat.le_succ_of_le (h.t j), fun j => Nat.le_succ_of_le (h.d j), h.f⟩
theorem Qt.Bd.mono {n : Nat} {Q : Nat → Nat} {s : Qt.St} {m k : Nat} (h : Qt.Bd n Q s m) (hk : m ≤ k) : Qt.Bd n Q s k :=
  ⟨h.n8, h.q, h.u, fun j => Nat.le_trans (h.t j) hk, fun j => Nat.le_trans (h.d j) hk, h.f⟩
/-- The cells of an account. -/
def Qt.cs (f n : Nat) (Q : Nat → Nat) (fr : Nat) (U T D : Nat → Nat) : Array Value := #[.int .i64 f, .int .i64 fr, .int .i64 n, .int .i64 (Q 0), .int .i64 (Q 1), .int .i64 (Q 2), .int .i64 (Q 3), .int .i64 (Q 4), .int .i64 (Q 5), .int .i64 (Q 6), .int .i64 (Q 7), .int .i64 (U 0), .int .i64 (U 1), .int .i64 (U 2), .int .i64 (U 3), .int .i64 (U 4), .int .i64 (U 5), .int .i64 (U 6), .int .i64 (U 7), .int .i64 (T 0), .int .i64 (T 1), .int .i64 (T 2), .int .i64 (T 3), .int .i64 (T 4), .int .i64 (T 5), .int .i64 (T 6), .int .i64 (T 7), .int .i64 (D 0), .int .i64 (D 1), .int .i64 (D 2), .int .i64 (D 3), .int .i64 (D 4), .int .i64 (D 5), .int .i64 (D 6), .int .i64 (D 7)]
theorem Qt.cs_size (f n : Nat) (Q : Nat → Nat) (fr : Nat) (U T D : Nat → Nat) : (Qt.cs f n Q fr U T D).size = 35 := rfl
theorem Qt.cs_one (f n : Nat) (Q : Nat → Nat) (fr : Nat) (U T D : Nat → Nat) : (Qt.cs f n Q fr U T D).all (·.oneCell') = true := by simp [Qt.cs, Value.oneCell']
theorem Qt.eight {k : Nat} (h : k < 8) : k = 0 ∨ k = 1 ∨ k = 2 ∨ k = 3 ∨ k = 4 ∨ k = 5 ∨ k = 6 ∨ k = 7 := by omega
section
variable (f n : Nat) (Q : Nat → Nat) (fr : Nat) (U T D : Nat → Nat)
theorem Qt.cs_q {k : Nat} (h : k < 8) : (Qt.cs f n Q fr U T D)[3 + k]? = some (.int .i64 (Q k)) := by
  rcases Qt.eight h with rfl | rfl | rfl | rfl | rfl | rfl | rfl | rfl <;> rfl
theorem Qt.cs_u {k : Nat} (h : k < 8) : (Qt.cs f n Q fr U T D)[11 + k]? = some (.int .i64 (U k)) := by
  rcases Qt.eight h with rfl | rfl | rfl | rfl | rfl | rfl | rfl | rfl <;> rfl
theorem Qt.cs_t {k : Nat} (h : k < 8) : (Qt.cs f n Q fr U T D)[19 + k]? = some (.int .i64 (T k)) := by
  rcases Qt.eight h with rfl | rfl | rfl | rfl | rfl | rfl | rfl | rfl <;> rfl
theorem Qt.cs_d {k : Nat} (h : k < 8) : (Qt.cs f n Q fr U T D)[27 + k]? = some (.int .i64 (D k)) := by
  rcases Qt.eight h with rfl | rfl | rfl | rfl | rfl | rfl | rfl | rfl <;> rfl
theorem Qt.put_q {k : Nat} (h : k < 8) (x : Nat) : (Qt.cs f n Q fr U T D).setIfInBounds (3 + k) (.int .i64 x) = Qt.cs f n (Qt.upd Q k x) fr U T D := by
  rcases Qt.eight h with rfl | rfl | rfl | rfl | rfl | rfl | rfl | rfl <;> simp [Qt.cs, Qt.upd]
theorem Qt.put_u {k : Nat} (h : k < 8) (x : Nat) : (Qt.cs f n Q fr U T D).setIfInBounds (11 + k) (.int .i64 x) = Qt.cs f n Q fr (Qt.upd U k x) T D := by
  rcases Qt.eight h with rfl | rfl | rfl | rfl | rfl | rfl | rfl | rfl <;> simp [Qt.cs, Qt.upd]
theorem Qt.put_t {k : Nat} (h : k < 8) (x : Nat) : (Qt.cs f n Q fr U T D).setIfInBounds (19 + k) (.int .i64 x) = Qt.cs f n Q fr U (Qt.upd T k x) D := by
  rcases Qt.eight h with rfl | rfl | rfl | rfl | rfl | rfl | rfl | rfl <;> simp [Qt.cs, Qt.upd]
theorem Qt.put_d {k : Nat} (h : k < 8) (x : Nat) : (Qt.cs f n Q fr U T D).setIfInBounds (27 + k) (.int .i64 x) = Qt.cs f n Q fr U T (Qt.upd D k x) := by
  rcases Qt.eight h with rfl | rfl | rfl | rfl | rfl | rfl | rfl | rfl <;> simp [Qt.cs, Qt.upd]
theorem Qt.put_f (x : Nat) : (Qt.cs f n Q fr U T D).setIfInBounds 1 (.int .i64 x) = Qt.cs f n Q x U T D := rfl
end
end Go.Proofs.Yticmgkdhdfkpeaa

/- Slices of the call's own that move along their rows: what they hold, and what an append, a clearing and a cut do. No program is spoken of here. -/
namespace Go.Proofs.Yticmgkdhdfkpeaa
open Go.RowKit Go.Lib
set_option linter.unusedVariables false

/-- A slice of one-cell elements l: nil, or in a row that it may write. -/
def RowQ (w : World) (v : Value) (l : List Value) : Prop :=
  (v = .slice none 0 0 ∧ l = []) ∨ ∃ g off cap, v = .slice (some ⟨g, off, none⟩) l.length cap ∧ l.length ≤ cap ∧ cap ≤ maxLen ∧ g < w.heap.size ∧
    (∀ j, j < cap → (w.cell? ⟨g, off + j, none⟩).isSome = true ∧ w.frozen? ⟨g, off + j, none⟩ = false) ∧ ∀ j (hj : j < l.length), w.cell? ⟨g, off + j, none⟩ = some l[j]

def Keeps (S : Nat → Prop) (w w' : World) : Prop := w'.os = w.os ∧ w'.tape = w.tape ∧ w'.output = w.output ∧ w.heap.size ≤ w'.heap.size ∧ ∀ i, i < w.heap.size → ¬ S i → w'.heap[i]? = w.heap[i]?
theorem Keeps.refl (S : Nat → Prop) (w : World) : Keeps S w w := ⟨rfl, rfl, rfl, Nat.le_refl _, fun _ _ _ => rfl⟩
theorem Keeps.trans {S : Nat → Prop} {a b c : World} (h : Keeps S a b) (k : Keeps S b c) : Keeps S a c :=
  ⟨k.1.trans h.1, k.2.1.trans h.2.1, k.2.2.1.trans h.2.2.1, Nat.le_trans h.2.2.2.1 k.2.2.2.1, fun i hi hs => (k.2.2.2.2 i (Nat.lt_of_lt_of_le hi h.2.2.2.1) hs).trans (h.2.2.2.2 i hi hs)⟩
theorem Keeps.mono {S T : Nat → Prop} {a b : World} (h : Keeps S a b) (hs : ∀ i, i < a.heap.size → S i → T i) : Keeps T a b := ⟨h.1, h.2.1, h.2.2.1, h.2.2.2.1, fun i hi hn => h.2.2.2.2 i hi (fun x => hn (hs i hi x))⟩
theorem Keeps.of_only {a b : World} {row : Option Nat} (h : a.grownBy b row) {S : Nat → Prop} (hs : ∀ k, row = some k → S k) : Keeps S a b := ⟨h.os, h.tape, h.output, h.size, fun i hi hn => h.block i hi (fun e => hn (hs i e.symm))⟩
theorem Keeps.of_below {a b : World} (h : Below a.heap.size a b) (S : Nat → Prop) : Keeps S a b := ⟨h.os, h.tape, h.output, h.size, fun i hi _ => h.block i hi⟩
theorem Keeps.below {a b : World} {B : Nat} {S : Nat → Prop} (h : Keeps S a b) (hB : B ≤ a.heap.size) (hs : ∀ i, i < B → ¬ S i) : Below B a b := ⟨h.1, h.2.1, h.2.2.1, h.2.2.2.1, fun i hi => h.2.2.2.2 i (Nat.lt_of_lt_of_le hi hB) (hs i hi)⟩
theorem Keeps.size {S : Nat → Prop} {a b : World} (h : Keeps S a b) : a.heap.size ≤ b.heap.size := h.2.2.2.1
theorem Keeps.drew {S : Nat → Prop} {a b : World} (h : Keeps S a b) (n : Nat) : Keeps S a (b.drewN n) := h
theorem Keeps.put {S : Nat → Prop} {a b : World} (h : Keeps S a b) {p : Addr} (hp : S p.block ∨ a.heap.size ≤ p.block) (u : Value) : Keeps S a (b.setCell p u) :=
  ⟨h.1, h.2.1, h.2.2.1, by simpa using h.size, fun i hi hs => (Below.heap_setCell b p u i (by
    rintro rfl
    rcases hp with hp | hp
    · exact hs hp
    · omega)).trans (h.2.2.2.2 i hi hs)⟩
theorem Keeps.alloc {S : Nat → Prop} {a b : World} (h : Keeps S a b) (o : Obj) : Keeps S a (b.alloc o) :=
  ⟨h.1, h.2.1, h.2.2.1, Nat.le_trans h.size (by simp), fun i hi hs => (Below.heap_alloc b o i (Nat.lt_of_lt_of_le hi h.size)).trans (h.2.2.2.2 i hi hs)⟩
theorem Blk.keeps {S : Nat → Prop} {w w' : World} {g : Nat} {t : TypeId} {cs : Array Value} (h : Blk w g t cs) (k : Keeps S w w') (hg : ¬ S g) : Blk w' g t cs := (k.2.2.2.2 g h.lt hg).trans h

theorem setCells_at (b : Nat) : ∀ (vs : List Value) (o : Nat) (w : World), (w.setCells b o vs).os = w.os ∧ (w.setCells b o vs).tape = w.tape ∧ (w.setCells b o vs).output = w.output ∧ (w.setCells b o vs).heap.size = w.heap.size ∧ ∀ k, k ≠ b → (w.setCells b o vs).heap[k]? = w.heap[k]?
  | [], _, _ => ⟨rfl, rfl, rfl, rfl, fun _ _ => rfl⟩
  | v :: r, o, w => by
    obtain ⟨h1, h2, h3, h4, h5⟩ := setCells_at b r (o + 1) (w.setCell ⟨b, o, none⟩ v)
    refine ⟨h1, h2, h3, h4.trans (by simp), fun k hk => (h5 k hk).trans (Below.heap_setCell w _ v k hk)⟩
theorem only_cells (w : World) (b o : Nat) (vs : List Value) : w.grownBy (w.setCells b o vs) (some b) := by
  obtain ⟨h1, h2, h3, h4, h5⟩ := setCells_at b vs o w
  exact ⟨h1, h2, h3, Nat.le_of_eq h4.symm, fun k _ hk => h5 k (fun e => hk (by rw [e]))⟩

section
variable {w w' : World} {v : Value} {l : List Value}
theorem RowQ.nil (w : World) : RowQ w (.slice none 0 0) [] := .inl ⟨rfl, rfl⟩
theorem RowQ.form (h : RowQ w v l) : ∃ A c, v = .slice A l.length c := by
  rcases h with ⟨rfl, rfl⟩ | ⟨g, off, cap, rfl, _⟩
  · exact ⟨_, _, rfl⟩
  · exact ⟨_, _, rfl⟩
theorem RowQ.lt (h : RowQ w v l) : ∀ k, v.ownBlock = some k → k < w.heap.size := by
  intro k hk
  rcases h with ⟨rfl, _⟩ | ⟨g, off, cap, rfl, _, _, hg, _⟩
  · simp [Value.ownBlock] at hk
  · simp [Value.ownBlock] at hk
    omega
theorem RowQ.same (h : RowQ w v l) (hs : w.heap.size ≤ w'.heap.size) (hb : ∀ k, v.ownBlock = some k → w'.heap[k]? = w.heap[k]?) : RowQ w' v l := by
  rcases h with h | ⟨g, off, cap, rfl, h1, h2, h3, h4, h5⟩
  · exact .inl h
  · have hg := hb g rfl
    have hc : ∀ o, w'.cell? ⟨g, o, none⟩ = w.cell? ⟨g, o, none⟩ := fun o => by simp [World.cell?, hg]
    have hf : ∀ o, w'.frozen? ⟨g, o, none⟩ = w.frozen? ⟨g, o, none⟩ := fun o => by simp [World.frozen?, hg]
    exact .inr ⟨g, off, cap, rfl, h1, h2, by omega, fun j hj => by rw [hc, hf]; exact h4 j hj, fun j hj => by rw [hc]; exact h5 j hj⟩
theorem RowQ.keeps {S : Nat → Prop} (h : RowQ w v l) (k : Keeps S w w') (hn : ∀ i, v.ownBlock = some i → ¬ S i) : RowQ w' v l :=
  h.same k.size fun i hi => k.2.2.2.2 i (h.lt i hi) (hn i hi)
theorem RowQ.below {B : Nat} (h : RowQ w v l) (k : Below B w w') (hn : ∀ i, v.ownBlock = some i → i < B) : RowQ w' v l :=
  h.same k.size fun i hi => k.block i (hn i hi)
theorem RowQ.drewN (h : RowQ w v l) (n : Nat) : RowQ (w.drewN n) v l := h
theorem RowQ.alloc (h : RowQ w v l) (o : Obj) : RowQ (w.alloc o) v l := h.same (by simp) fun k hk => Below.heap_alloc w o k (h.lt k hk)
theorem RowQ.put (h : RowQ w v l) {p : Addr} (hp : v.ownBlock ≠ some p.block) (u : Value) : RowQ (w.setCell p u) v l :=
  h.same (by simp) fun k hk => Below.heap_setCell w p u k (by rintro rfl; exact hp hk)

/-- A new row whose first places hold l. -/
theorem RowQ.new (w : World) (cur : Array Value) (e : TypeId) (cap : Nat) (l : List Value) (hc : cur.size = cap) (hl : l.length ≤ cap) (hm : cap ≤ maxLen) (hp : ∀ j (hj : j < l.length), cur[j]? = some l[j]) :
    RowQ (w.alloc (.cells cur e)) (.slice (some ⟨w.heap.size, 0, none⟩) l.length cap) l := by
  have hb : Blk (w.alloc (.cells cur e)) w.heap.size e cur := Blk.new w e cur
  refine .inr ⟨w.heap.size, 0, cap, rfl, hl, hm, by simp, fun j hj => ⟨?_, hb.free _⟩, fun j hj => ?_⟩
  · rw [hb.cell, Nat.zero_add, Array.getElem?_eq_getElem (by omega)]
    rfl
  · rw [hb.cell, Nat.zero_add]
    exact hp j hj

theorem addr_at (g o j : Nat) : (⟨g, o, none⟩ : Addr).add j = ⟨g, o + j, none⟩ := by unfold Addr.add; split <;> simp_all

/-- What a slice reads as1, for an append of its elements. -/
theorem RowQ.src {P : Program} (h : RowQ w v l) (tx e' : TypeId) (hk : P.underlying tx = some (.slice e')) (h1 : ∀ u ∈ l, u.oneCell' = true) : Src P 1 tx v l.length l w := by
  rcases h with ⟨rfl, rfl⟩ | ⟨g, off, cap, rfl, _, _, _, _, h5⟩
  · exact Src.ofNil w hk 0
  · refine Src.ofSlice w hk _ _ _ _ (by simp) ?_ h1
    intro j u hu
    obtain ⟨hj, rfl⟩ := List.getElem?_eq_some_iff.1 hu
    rw [addr_at]
    exact h5 j hj

/-- append(v, x), v a slice of the call's own. -/
theorem run_push {P : Program} (w : World) (t e ty : TypeId) (i : TypeInfo) (z : Value) (bytes : Nat) (ht : P.underlying t = some (.slice e)) (hi : P.info? e = some i) (hz : i.zero = some z) (hs : i.size = 1) (hby : i.bytes = bytes) (hb16 : bytes ≤ 16) (hzs : z.cells.size = 1)
    (v : Value) (l : List Value) (h : RowQ w v l) (h1 : ∀ u ∈ l, u.oneCell' = true) (xs : Value) (x : Value) (hx : Src P 1 t xs 1 [x] w) (hn : l.length ≤ 1000000) :
    ∃ v' w', (Builtin.append_ #[t, t] ty #[v, xs]).run P w = .ok v' w' ∧ RowQ w' v' (l ++ [x]) ∧ w.grownBy w' v.ownBlock ∧ (v'.ownBlock = v.ownBlock ∨ v'.ownBlock = some w.heap.size) ∧ ∃ A c, v' = .slice A (l.length + 1) c := by
  have hbm : (l.length + 1) * bytes ≤ 140737488355328 := by
    have : (l.length + 1) * bytes ≤ 1000001 * 16 := Nat.mul_le_mul (by omega) hb16
    omega
  have hsrc : Src P i.size t xs 1 [x] w := by rw [hs]; exact hx
  have grown : ∀ (base : Option Addr) (cap : Nat), v = .slice base l.length cap → cap < l.length + 1 → ∃ v' w', (Builtin.append_ #[t, t] ty #[v, xs]).run P w = .ok v' w' ∧ RowQ w' v' (l ++ [x]) ∧ w.grownBy w' v.ownBlock ∧ (v'.ownBlock = v.ownBlock ∨ v'.ownBlock = some w.heap.size) ∧ ∃ A c, v' = .slice A (l.length + 1) c := by
    intro base cap hv hcap
    have hold := ((h.drewN 1).src (P := P) t e ht h1).cells
    have hm : l.length + 1 ≤ maxLen := by unfold maxLen; omega
    have hge := grownCap_ge w (l.length + 1) cap e
    have hcm := grownCap_le_maxLen w (l.length + 1) cap e hm
    rw [hv] at hold
    have hr := run_append_grow_src (P := P) w t t ty e i z ht hi hz base l.length cap l (by rw [hs]; exact hold) xs 1 [x] hsrc hcap (by omega) (by rw [hby]; exact growslice_fits hcap hbm)
    have hlen : (l ++ [x]).length = l.length + 1 := by simp
    rw [hv]
    refine ⟨_, _, hr, ?_, ⟨rfl, rfl, rfl, by simp, fun k hk _ => Below.heap_alloc w.drew _ k hk⟩, .inr rfl, _, _, rfl⟩
    have := RowQ.new w.drew ((l ++ [x]).toArray ++ Builtin.zeroCells z.cells (grownCap w (l.length + 1) cap e - (l.length + 1))) e (grownCap w (l.length + 1) cap e) (l ++ [x]) (by
      simp only [Array.size_append, List.size_toArray, size_zeroCells, hzs, hlen]
      omega) (by rw [hlen]; exact hge) hcm (by
      intro j hj
      rw [Array.getElem?_append_left (by simpa using hj)]
      simp only [List.getElem?_toArray]
      exact List.getElem?_eq_getElem hj)
    rw [hlen] at this
    exact this
  rcases h with ⟨rfl, rfl⟩ | ⟨g, off, cap, rfl, h2, h3, h4, h5, h6⟩
  · exact grown none 0 rfl (by simp)
  · by_cases hroom : l.length + 1 ≤ cap
    · have hr := run_append_room_src (P := P) w t t ty e i ht hi g off l.length cap xs 1 [x] hsrc hroom (by
        intro j hj
        simp at hj
        subst hj
        rw [hs, Nat.mul_one]
        exact (h5 l.length (by omega)).1) (by
        intro j hj
        simp at hj
        subst hj
        rw [hs, Nat.mul_one]
        exact (h5 l.length (by omega)).2)
      rw [hs, Nat.mul_one] at hr
      refine ⟨_, _, hr, .inr ⟨g, off, cap, by simp, by simpa using hroom, h3, ?_, ?_, ?_⟩, only_cells _ _ _ _, .inl rfl, _, _, rfl⟩
      · rw [(setCells_at g [x] (off + l.length) w).2.2.2.1]
        exact h4
      · intro j hj
        rw [World.frozen?_setCells]
        refine ⟨?_, (h5 j hj).2⟩
        by_cases e1 : j = l.length
        · subst e1
          have := World.cell?_setCells_in g [x] (off + l.length) w (by intro k hk; simp at hk; subst hk; exact (h5 l.length (by omega)).1) 0 (by simp)
          rw [Nat.add_zero] at this
          rw [this]
          rfl
        · rw [World.cell?_setCells_out g [x] (off + l.length) w _ (by intro _ _; simp; omega)]
          exact (h5 j hj).1
      · intro j hj
        by_cases e1 : j = l.length
        · subst e1
          have := World.cell?_setCells_in g [x] (off + l.length) w (by intro k hk; simp at hk; subst hk; exact (h5 l.length (by omega)).1) 0 (by simp)
          rw [Nat.add_zero] at this
          rw [this]
          simp
        · have hj' : j < l.length := by simp at hj; omega
          rw [World.cell?_setCells_out g [x] (off + l.length) w _ (by intro _ _; simp; omega), h6 j hj', List.getElem_append_left hj']
    · exact grown _ cap rfl (by omega)

/-- append(e, v...), e an empty slice that is not nil and has no room. -/
theorem run_all {P : Program} (w : World) (t e ty : TypeId) (i : TypeInfo) (z : Value) (bytes : Nat) (ht : P.underlying t = some (.slice e)) (hi : P.info? e = some i) (hz : i.zero = some z) (hs : i.size = 1) (hby : i.bytes = bytes) (hb16 : bytes ≤ 16) (hzs : z.cells.size = 1)
    (v : Value) (l : List Value) (h : RowQ w v l) (h1 : ∀ u ∈ l, u.oneCell' = true) (hn : l.length ≤ 1000000) (a : Nat) (ha : a < w.heap.size) :
    ∃ v' w', (Builtin.append_ #[t, t] ty #[.slice (some ⟨a, 0, none⟩) 0 0, v]).run P w = .ok v' w' ∧ RowQ w' v' l ∧ Below w.heap.size w w' ∧ (v'.ownBlock = some a ∨ v'.ownBlock = some w.heap.size) ∧ ∃ A c, v' = .slice (some A) l.length c := by
  have hsrc : Src P i.size t v l.length l w := by rw [hs]; exact h.src t e ht h1
  by_cases h0 : l = []
  · subst h0
    have hr := run_append_nothing (P := P) w t t ty e i ht hi (some ⟨a, 0, none⟩) 0 0 (Nat.le_refl _) v hsrc
    refine ⟨_, _, hr, .inr ⟨a, 0, 0, rfl, by simp, by simp [maxLen], ha, fun j hj => absurd hj (by omega), fun j hj => absurd hj (by simp)⟩, Below.refl _ _, .inl rfl, _, _, rfl⟩
  · have hpos : 0 < l.length := List.length_pos_iff.2 h0
    have hbm : l.length * bytes ≤ 140737488355328 := by
      have : l.length * bytes ≤ 1000000 * 16 := Nat.mul_le_mul hn hb16
      omega
    have hm : l.length ≤ maxLen := by unfold maxLen; omega
    have hge := grownCap_ge w (0 + l.length) 0 e
    have hcm := grownCap_le_maxLen w (0 + l.length) 0 e (by simpa using hm)
    have hold := run_firstCells_some (P := P) w.drew i.size 0 ⟨a, 0, none⟩ 0 0 [] (by simp) (by intro j u hu; cases hu)
    have hr := run_append_grow_src (P := P) w t t ty e i z ht hi hz (some ⟨a, 0, none⟩) 0 0 [] hold v l.length l hsrc (by omega) (by omega) (by rw [hby]; exact growslice_fits (by omega) (by simpa using hbm))
    rw [Nat.zero_add] at hr hge hcm
    refine ⟨_, _, hr, ?_, ⟨rfl, rfl, rfl, by simp, fun k hk => Below.heap_alloc w.drew _ k hk⟩, .inr rfl, _, _, rfl⟩
    exact RowQ.new w.drew _ e _ l (by
      simp only [Array.size_append, List.size_toArray, size_zeroCells, hzs, List.nil_append]
      omega) hge hcm (by
      intro j hj
      rw [Array.getElem?_append_left (by simpa using hj)]
      simp only [List.getElem?_toArray, List.nil_append]
      exact List.getElem?_eq_getElem hj)

/-- The first n elements of a slice are cleared: what is left behind them. -/
theorem RowQ.cleared {g off cap n : Nat} (z : Value) (h2 : l.length ≤ cap) (h3 : cap ≤ maxLen) (h4 : g < w.heap.size)
    (h5 : ∀ j, j < cap → (w.cell? ⟨g, off + j, none⟩).isSome = true ∧ w.frozen? ⟨g, off + j, none⟩ = false) (h6 : ∀ j (hj : j < l.length), w.cell? ⟨g, off + j, none⟩ = some l[j]) (hn : n ≤ l.length) :
    RowQ (w.setCells g off (List.replicate n z)) (.slice (some ⟨g, off + n, none⟩) (l.length - n) (cap - n)) (l.drop n) := by
  refine .inr ⟨g, off + n, cap - n, by simp, by simp; omega, by omega, by rw [(setCells_at g _ off w).2.2.2.1]; exact h4, fun j hj => ?_, fun j hj => ?_⟩
  · rw [World.frozen?_setCells, World.cell?_setCells_out g _ off w _ (by intro _ _; simp), Nat.add_assoc]
    exact h5 (n + j) (by omega)
  · have hj' : n + j < l.length := by simp at hj; omega
    rw [World.cell?_setCells_out g _ off w _ (by intro _ _; simp), Nat.add_assoc, h6 (n + j) hj', List.getElem_drop]
theorem RowQ.empty {g : Nat} (o : Nat) (hg : g < w.heap.size) : RowQ w (.slice (some ⟨g, o, none⟩) 0 0) [] :=
  .inr ⟨g, o, 0, rfl, by simp, by simp [maxLen], hg, fun j hj => absurd hj (by omega), fun j hj => absurd hj (by simp)⟩
/-- The first n elements of a slice, as1 a slice. -/
theorem RowQ.first {g off cap n : Nat} (h2 : l.length ≤ cap) (h3 : cap ≤ maxLen) (h4 : g < w.heap.size)
    (h5 : ∀ j, j < cap → (w.cell? ⟨g, off + j, none⟩).isSome = true ∧ w.frozen? ⟨g, off + j, none⟩ = false) (h6 : ∀ j (hj : j < l.length), w.cell? ⟨g, off + j, none⟩ = some l[j]) (hn : n ≤ l.length) :
    RowQ w (.slice (some ⟨g, off, none⟩) n cap) (l.take n) := by
  have hl : (l.take n).length = n := by simp; omega
  refine .inr ⟨g, off, cap, by rw [hl], by omega, h3, h4, h5, fun j hj => ?_⟩
  rw [h6 j (by omega), List.getElem_take]
/-- What is behind the first n elements of a slice, as1 a slice. -/
theorem RowQ.rest {g off cap n : Nat} (h2 : l.length ≤ cap) (h3 : cap ≤ maxLen) (h4 : g < w.heap.size)
    (h5 : ∀ j, j < cap → (w.cell? ⟨g, off + j, none⟩).isSome = true ∧ w.frozen? ⟨g, off + j, none⟩ = false) (h6 : ∀ j (hj : j < l.length), w.cell? ⟨g, off + j, none⟩ = some l[j]) (hn : n ≤ l.length) :
    RowQ w (.slice (some ⟨g, off + n, none⟩) (l.length - n) (cap - n)) (l.drop n) := by
  refine .inr ⟨g, off + n, cap - n, by simp, by simp; omega, by omega, h4, fun j hj => ?_, fun j hj => ?_⟩
  · rw [Nat.add_assoc]
    exact h5 (n + j) (by omega)
  · have hj' : n + j < l.length := by simp at hj; omega
    rw [Nat.add_assoc, h6 (n + j) hj', List.getElem_drop]
end

section
variable {P : Program} {w : World} {ops : Array Oper} {rest : List Oper} {o : Oper} {a : Act} {Q : Exit → Act → World → Prop}
/-- append, at the operation, where its run is known. -/
theorem wpList_append_eq (hgd : o.guard = none) (s x : Operand) (t : TypeId) (ho : o.op = .call { callee := .builtin .append, args := #[s, x], argTypes := #[t, t] })
    {v xs v' : Value} {w' : World} (hr : (Builtin.append_ #[t, t] o.type #[v, xs]).run P w = .ok v' w') (hs : a.eval s = v) (hx : a.eval x = xs) (h : wpList P ops Q rest (a.put o.dst v') w') : wpList P ops Q (o :: rest) a w := by
  refine wpList_plain hgd fun K hK => ?_
  unfold Oper.wp execOp
  simp only [ho, resolve, invoke, builtin, Sem.run_bind, Sem.run_pure, Result.andThen_ok, List.map_toArray, List.map_cons, List.map_nil, hs, hx, hr]
  exact hK _ _ h
/-- clear, at the operation, where its run is known. -/
theorem wpList_clear_eq (hgd : o.guard = none) (s : Operand) (t : TypeId) (ho : o.op = .call { callee := .builtin .clear, args := #[s], argTypes := #[t] })
    {v v' : Value} {w' : World} (hr : (Builtin.clear_ #[t] o.type #[v]).run P w = .ok v' w') (hs : a.eval s = v) (h : wpList P ops Q rest (a.put o.dst v') w') : wpList P ops Q (o :: rest) a w := by
  refine wpList_plain hgd fun K hK => ?_
  unfold Oper.wp execOp
  simp only [ho, resolve, invoke, builtin, Sem.run_bind, Sem.run_pure, Result.andThen_ok, List.map_toArray, List.map_cons, List.map_nil, hs, hr]
  exact hK _ _ h
end

/-- A queue, or the document's, lies in block b: its things, its limit, its drops. -/
def Que (w : World) (b : Nat) (T : TypeId) (v : Value) (l : List Value) (lim : Nat) (dr : Nat) : Prop :=
  Blk w b T #[v, .int .i64 lim, .int .i64 dr] ∧ RowQ w v l ∧ v.ownBlock ≠ some b
/-- Its blocks. -/
def OwnQ (b : Nat) (v : Value) (i : Nat) : Prop := i = b ∨ v.ownBlock = some i
theorem Que.lt {w : World} {b : Nat} {T : TypeId} {v : Value} {l : List Value} {lim dr : Nat} (h : Que w b T v l lim dr) : ∀ i, OwnQ b v i → i < w.heap.size := by
  rintro i (rfl | hi)
  · exact h.1.lt
  · exact h.2.1.lt i hi
theorem Que.keeps {w w' : World} {b : Nat} {T : TypeId} {v : Value} {l : List Value} {lim dr : Nat} {S : Nat → Prop} (h : Que w b T v l lim dr) (k : Keeps S w w') (hn : ∀ i, OwnQ b v i → ¬ S i) : Que w' b T v l lim dr :=
  ⟨h.1.keeps k (hn b (.inl rfl)), h.2.1.keeps k fun i hi => hn i (.inr hi), h.2.2⟩
/-- What a call that writes a queue leaves. -/
def QueN (w : World) (b : Nat) (T : TypeId) (v : Value) (lim : Nat) (w' : World) (l' : List Value) (dr' : Nat) : Prop :=
  ∃ v', Que w' b T v' l' lim dr' ∧ Keeps (OwnQ b v) w w' ∧ ∀ i, OwnQ b v' i → OwnQ b v i ∨ w.heap.size ≤ i
end Go.Proofs.Yticmgkdhdfkpeaa

/- Accounts in memory; what asks them, by contract. -/
namespace Go.Proofs.Yticmgkdhdfkpeaa
open Go.RowKit Go.Lib
set_option linter.unusedVariables false
set_option maxRecDepth 8000

/-- An account in memory. -/
structure Qt.Acc (w : World) (b f n : Nat) (Q : Nat → Nat) (s : Qt.St) (m : Nat) : Prop where
  blk : Blk w b 52 (Qt.cs f n Q s.fr s.U s.T s.D)
  f1 : 1 ≤ f
  f2 : f ≤ 4096
  bd : Qt.Bd n Q s m
section
variable {w w' : World} {b f n m : Nat} {Q : Nat → Nat} {s : Qt.St}
theorem Qt.Acc.only {row : Option Nat} (h : Qt.Acc w b f n Q s m) (k : w.grownBy w' row) (hr : some b ≠ row) : Qt.Acc w' b f n Q s m := ⟨h.blk.only k hr, h.f1, h.f2, h.bd⟩
theorem Qt.Acc.below {B : Nat} (h : Qt.Acc w b f n Q s m) (k : Below B w w') (hr : b < B) : Qt.Acc w' b f n Q s m := ⟨h.blk.below k hr, h.f1, h.f2, h.bd⟩
theorem Qt.Acc.drewN (h : Qt.Acc w b f n Q s m) (q : Nat) : Qt.Acc (w.drewN q) b f n Q s m := ⟨h.blk.drewN q, h.f1, h.f2, h.bd⟩
theorem Qt.Acc.keeps {S : Nat → Prop} (h : Qt.Acc w b f n Q s m) (k : Keeps S w w') (hr : ¬ S b) : Qt.Acc w' b f n Q s m := ⟨h.blk.keeps k hr, h.f1, h.f2, h.bd⟩
theorem Qt.Acc.c0 (h : Qt.Acc w b f n Q s m) : w.cell? ⟨b, 0, none⟩ = some (.int .i64 f) := h.blk.cell 0
theorem Qt.Acc.c1 (h : Qt.Acc w b f n Q s m) : w.cell? ⟨b, 1, none⟩ = some (.int .i64 s.fr) := h.blk.cell 1
theorem Qt.Acc.c2 (h : Qt.Acc w b f n Q s m) : w.cell? ⟨b, 2, none⟩ = some (.int .i64 n) := h.blk.cell 2
theorem Qt.Acc.cq (h : Qt.Acc w b f n Q s m) {k : Nat} (hk : k < n) : w.cell? ⟨b, 3 + k, none⟩ = some (.int .i64 (Q k)) := (h.blk.cell _).trans (Qt.cs_q _ _ _ _ _ _ _ (Nat.lt_of_lt_of_le hk h.bd.n8))
theorem Qt.Acc.cu (h : Qt.Acc w b f n Q s m) {k : Nat} (hk : k < n) : w.cell? ⟨b, 11 + k, none⟩ = some (.int .i64 (s.U k)) := (h.blk.cell _).trans (Qt.cs_u _ _ _ _ _ _ _ (Nat.lt_of_lt_of_le hk h.bd.n8))
theorem Qt.Acc.ct (h : Qt.Acc w b f n Q s m) {k : Nat} (hk : k < n) : w.cell? ⟨b, 19 + k, none⟩ = some (.int .i64 (s.T k)) := (h.blk.cell _).trans (Qt.cs_t _ _ _ _ _ _ _ (Nat.lt_of_lt_of_le hk h.bd.n8))
theorem Qt.Acc.cd (h : Qt.Acc w b f n Q s m) {k : Nat} (hk : k < n) : w.cell? ⟨b, 27 + k, none⟩ = some (.int .i64 (s.D k)) := (h.blk.cell _).trans (Qt.cs_d _ _ _ _ _ _ _ (Nat.lt_of_lt_of_le hk h.bd.n8))
end
/-- Which frames there can be. -/
def Qt.rt (f : Int) : Bool := decide (1 ≤ f ∧ f ≤ 4096)
theorem Qt.right_any (f : Int) (w : World) : Calls Try.prog 19 #[.int .i64 f] w fun r w' => r = .returned (.bool (Qt.rt f)) ∧ w = w' := by
  have key : (1 ≤ f ∧ f ≤ 4096 ∧ Qt.rt f = true) ∨ (1 ≤ f ∧ ¬ f ≤ 4096 ∧ Qt.rt f = false) ∨ (¬ 1 ≤ f ∧ Qt.rt f = false) := by
    by_cases h1 : 1 ≤ f <;> by_cases h2 : f ≤ 4096 <;> simp [Qt.rt, h1, h2]
  rcases key with ⟨h1, h2, e⟩ | ⟨h1, h2, e⟩ | ⟨h1, e⟩
  all_goals
    have E := Lib.hid e
    clear e
    go_enter Try.func19, Try.ntmps19
    go_wp2
    go_ret
    rw [E.out]
    exact ⟨by first | rfl | simp, rfl⟩
theorem Qt.rright_any (f : Int) (w : World) : Calls Try.prog 20 #[.int .i64 f] w fun r w' => r = .returned (.bool (Qt.rt f)) ∧ w = w' := by
  have key : (1 ≤ f ∧ f ≤ 4096 ∧ Qt.rt f = true) ∨ (1 ≤ f ∧ ¬ f ≤ 4096 ∧ Qt.rt f = false) ∨ (¬ 1 ≤ f ∧ Qt.rt f = false) := by
    by_cases h1 : 1 ≤ f <;> by_cases h2 : f ≤ 4096 <;> simp [Qt.rt, h1, h2]
  rcases key with ⟨h1, h2, e⟩ | ⟨h1, h2, e⟩ | ⟨h1, e⟩
  all_goals
    have E := Lib.hid e
    clear e
    go_enter Try.func20, Try.ntmps20
    go_wp2
    go_ret
    rw [E.out]
    exact ⟨by first | rfl | simp, rfl⟩
theorem Qt.frame_yes (t : Int) (f : Nat) (w : World) (f1 : 1 ≤ f) (f2 : f ≤ 4096) (ht : 0 ≤ t) (ht2 : t ≤ 2147483647) : Calls Try.prog 24 #[.int .i64 t, .int .i64 f] w fun r w' => r = .returned (.tuple #[.int .i64 (t / f), .int .i64 (t % f)]) ∧ ∃ q, w.drewN q = w' := by
  have hc := Qt.right_any f w
  rw [show Qt.rt f = true from by simp [Qt.rt]; omega] at hc
  have HC := Lib.hid hc
  have q0 : 0 ≤ t / (f : Int) := Int.ediv_nonneg ht (by omega)
  have q1 : t / (f : Int) ≤ t := Int.ediv_le_self _ ht
  have q2 : 0 ≤ t % (f : Int) := Int.emod_nonneg _ (by omega)
  have q3 : t % (f : Int) < f := Int.emod_lt_of_pos _ (by omega)
  clear hc
  go_enter Try.func24, Try.ntmps24
  go_wp2_with (go_at_call 19; (with_reducible refine HC.out.mono ?_); rintro e w' ⟨rfl, rfl⟩)
  go_quiet (fail)
  go_wp2
  go_ret2
  exact ⟨rfl, _, rfl⟩

theorem Qt.has_nil (x : Int) (w : World) : Calls Try.prog 23 #[.pointer none, .int .i64 x] w fun e w' => e = .returned (.bool false) ∧ w = w' := by
  go_enter Try.func23, Try.ntmps23
  go_wp2
  go_ret
  exact ⟨rfl, rfl⟩
section
variable {b f n m : Nat} {Q : Nat → Nat} {s : Qt.St}
theorem Qt.has_yes (i : Nat) (w : World) (h : Qt.Acc w b f n Q s m) (hi : i < n) : Calls Try.prog 23 #[.pointer (some ⟨b, 0, none⟩), .int .i64 ((i : Int) + 1)] w fun e w' => e = .returned (.bool true) ∧ w = w' := by
  have c2 := h.c2
  have i1 : (1 : Int) ≤ (i : Int) + 1 := by omega
  have i2 : (i : Int) + 1 ≤ (n : Int) := by omega
  clear h hi
  go_enter Try.func23, Try.ntmps23
  go_wp2
  go_ret
  exact ⟨rfl, rfl⟩
theorem Qt.has_no (x : Int) (w : World) (h : Qt.Acc w b f n Q s m) (hi : ¬ (1 ≤ x ∧ x ≤ n)) : Calls Try.prog 23 #[.pointer (some ⟨b, 0, none⟩), .int .i64 x] w fun e w' => e = .returned (.bool false) ∧ w = w' := by
  have c2 := h.c2
  by_cases i1 : (1 : Int) ≤ x
  · have i2 : ¬ x ≤ (n : Int) := fun e => hi ⟨i1, e⟩
    clear h hi
    go_enter Try.func23, Try.ntmps23
    go_wp2
    go_ret
    exact ⟨rfl, rfl⟩
  · clear h hi
    go_enter Try.func23, Try.ntmps23
    go_wp2
    go_ret
    exact ⟨rfl, rfl⟩
theorem Qt.asked_has (x t : Int) (p : Value) (w : World) (h : ∀ W, W = w → Calls Try.prog 23 #[p, .int .i64 x] W fun e w' => e = .returned (.bool false) ∧ W = w') : Calls Try.prog 21 #[p, .int .i64 t, .int .i64 x] w fun e w' => e = .returned (.tuple #[.int .i64 0, .bool false]) ∧ w = w' := by
  have HC := Lib.hid (h w rfl)
  clear h
  go_enter Try.func21, Try.ntmps21
  go_wp2_with (go_at_call 23; (with_reducible refine HC.out.mono ?_); rintro e w' ⟨rfl, rfl⟩)
  go_ret2
  exact ⟨rfl, rfl⟩
theorem Qt.asked_off (i : Nat) (t : Int) (w : World) (h : Qt.Acc w b f n Q s m) (hi : i < n) (ht : t < 0 ∨ 2147483647 < t) : Calls Try.prog 21 #[.pointer (some ⟨b, 0, none⟩), .int .i64 t, .int .i64 ((i : Int) + 1)] w fun e w' => e = .returned (.tuple #[.int .i64 0, .bool false]) ∧ w = w' := by
  have HC := Lib.hid (Qt.has_yes i w h hi)
  clear h
  by_cases t0 : t < 0
  · clear ht
    go_enter Try.func21, Try.ntmps21
    go_wp2_with (go_at_call 23; (with_reducible refine HC.out.mono ?_); rintro e w' ⟨rfl, rfl⟩)
    go_ret2
    exact ⟨rfl, rfl⟩
  · have t1 : 2147483647 < t := by omega
    have t2 : 0 ≤ t := by omega
    clear ht
    go_enter Try.func21, Try.ntmps21
    go_wp2_with (go_at_call 23; (with_reducible refine HC.out.mono ?_); rintro e w' ⟨rfl, rfl⟩)
    go_ret2
    exact ⟨rfl, rfl⟩
theorem Qt.asked_on (i : Nat) (t : Int) (w : World) (h : Qt.Acc w b f n Q s m) (hi : i < n) (t0 : 0 ≤ t) (t1 : t ≤ 2147483647) : Calls Try.prog 21 #[.pointer (some ⟨b, 0, none⟩), .int .i64 t, .int .i64 ((i : Int) + 1)] w fun e w' => e = .returned (.tuple #[.int .i64 (t / f), .bool (decide ((s.fr : Int) ≤ t / f))]) ∧ ∃ q, w.drewN q = w' := by
  have HC := Lib.hid (Qt.has_yes i w h hi)
  have HF := Lib.hid (Qt.frame_yes t f w h.f1 h.f2 t0 t1)
  have HB := Lib.hid h
  have c0 := h.c0
  clear h
  have t2 : ¬ t < 0 := by omega
  have t3 : ¬ 2147483647 < t := by omega
  generalize t / (f : Int) = p at *
  generalize t % (f : Int) = x at *
  go_enter Try.func21, Try.ntmps21
  go_wp2_with (first
    | (go_at_call 23; (with_reducible refine HC.out.mono ?_); rintro e w' ⟨rfl, rfl⟩)
    | (go_at_call 24; (with_reducible refine HF.out.mono ?_); rintro e w2 ⟨rfl, q, hq⟩; have c1 := (HB.out.drewN q).c1; rw [hq] at c1; have HQ := Lib.hid hq; clear hq))
  go_quiet (fail)
  go_wp2
  go_ret2
  exact ⟨rfl, q + nq, by rw [← World.drewN_drewN, HQ.out]⟩
end
end Go.Proofs.Yticmgkdhdfkpeaa

/- Accounts: what they tell, a unit, a new one: by contract. -/
namespace Go.Proofs.Yticmgkdhdfkpeaa
open Go.RowKit Go.Lib
set_option linter.unusedVariables false
set_option maxRecDepth 8000

section
variable {b f n m : Nat} {Q : Nat → Nat} {s : Qt.St}
theorem Qt.tot_yes (i : Nat) (w : World) (h : Qt.Acc w b f n Q s m) (hi : i < n) : Calls Try.prog 15 #[.pointer (some ⟨b, 0, none⟩), .int .i64 ((i : Int) + 1)] w fun e w' => e = .returned (.int .i64 (s.T i)) ∧ w = w' := by
  have HC := Lib.hid (Qt.has_yes i w h hi)
  have c0 := h.ct hi
  have i8 : i < 8 := Nat.lt_of_lt_of_le hi h.bd.n8
  have i0 : (0 : Int) ≤ (i : Int) := by omega
  have i9 : (i : Int) < 8 := by omega
  clear h hi
  go_enter Try.func15, Try.ntmps15
  go_wp2_with (go_at_call 23; (with_reducible refine HC.out.mono ?_); rintro e w' ⟨rfl, rfl⟩)
  go_ret
  exact ⟨rfl, rfl⟩
theorem Qt.ref_yes (i : Nat) (w : World) (h : Qt.Acc w b f n Q s m) (hi : i < n) : Calls Try.prog 17 #[.pointer (some ⟨b, 0, none⟩), .int .i64 ((i : Int) + 1)] w fun e w' => e = .returned (.int .i64 (s.D i)) ∧ w = w' := by
  have HC := Lib.hid (Qt.has_yes i w h hi)
  have c0 := h.cd hi
  have i8 : i < 8 := Nat.lt_of_lt_of_le hi h.bd.n8
  have i0 : (0 : Int) ≤ (i : Int) := by omega
  have i9 : (i : Int) < 8 := by omega
  clear h hi
  go_enter Try.func17, Try.ntmps17
  go_wp2_with (go_at_call 23; (with_reducible refine HC.out.mono ?_); rintro e w' ⟨rfl, rfl⟩)
  go_ret
  exact ⟨rfl, rfl⟩
theorem Qt.tot_has (x : Int) (p : Value) (w : World) (h : Calls Try.prog 23 #[p, .int .i64 x] w fun e w' => e = .returned (.bool false) ∧ w = w') : Calls Try.prog 15 #[p, .int .i64 x] w fun e w' => e = .returned (.int .i64 0) ∧ w = w' := by
  have HC := Lib.hid h
  clear h
  go_enter Try.func15, Try.ntmps15
  go_wp2_with (go_at_call 23; (with_reducible refine HC.out.mono ?_); rintro e w' ⟨rfl, rfl⟩)
  go_ret
  exact ⟨rfl, rfl⟩
theorem Qt.ref_has (x : Int) (p : Value) (w : World) (h : Calls Try.prog 23 #[p, .int .i64 x] w fun e w' => e = .returned (.bool false) ∧ w = w') : Calls Try.prog 17 #[p, .int .i64 x] w fun e w' => e = .returned (.int .i64 0) ∧ w = w' := by
  have HC := Lib.hid h
  clear h
  go_enter Try.func17, Try.ntmps17
  go_wp2_with (go_at_call 23; (with_reducible refine HC.out.mono ?_); rintro e w' ⟨rfl, rfl⟩)
  go_ret
  exact ⟨rfl, rfl⟩
theorem Qt.tot_any (x : Int) (w : World) (h : Qt.Acc w b f n Q s m) : Calls Try.prog 15 #[.pointer (some ⟨b, 0, none⟩), .int .i64 x] w fun e w' => e = .returned (.int .i64 (Qt.tot n s x)) ∧ w = w' := by
  unfold Qt.tot
  by_cases hx : 1 ≤ x ∧ x ≤ n
  · rw [if_pos hx]
    obtain ⟨i, hi⟩ := Int.eq_ofNat_of_zero_le (show 0 ≤ x - 1 by omega)
    obtain rfl : x = (i : Int) + 1 := by omega
    rw [show ((i : Int) + 1 - 1).toNat = i by omega]
    exact Qt.tot_yes i w h (by omega)
  · rw [if_neg hx]
    exact Qt.tot_has x _ w (Qt.has_no x w h hx)
theorem Qt.tot_nil (x : Int) (w : World) : Calls Try.prog 15 #[.pointer none, .int .i64 x] w fun e w' => e = .returned (.int .i64 0) ∧ w = w' := Qt.tot_has x _ w (Qt.has_nil x w)
theorem Qt.ref_any (x : Int) (w : World) (h : Qt.Acc w b f n Q s m) : Calls Try.prog 17 #[.pointer (some ⟨b, 0, none⟩), .int .i64 x] w fun e w' => e = .returned (.int .i64 (Qt.ref n s x)) ∧ w = w' := by
  unfold Qt.ref
  by_cases hx : 1 ≤ x ∧ x ≤ n
  · rw [if_pos hx]
    obtain ⟨i, hi⟩ := Int.eq_ofNat_of_zero_le (show 0 ≤ x - 1 by omega)
    obtain rfl : x = (i : Int) + 1 := by omega
    rw [show ((i : Int) + 1 - 1).toNat = i by omega]
    exact Qt.ref_yes i w h (by omega)
  · rw [if_neg hx]
    exact Qt.ref_has x _ w (Qt.has_no x w h hx)
theorem Qt.ref_nil (x : Int) (w : World) : Calls Try.prog 17 #[.pointer none, .int .i64 x] w fun e w' => e = .returned (.int .i64 0) ∧ w = w' := Qt.ref_has x _ w (Qt.has_nil x w)
theorem Qt.frame_any (w : World) (h : Qt.Acc w b f n Q s m) : Calls Try.prog 14 #[.pointer (some ⟨b, 0, none⟩)] w fun e w' => e = .returned (.int .i64 s.fr) ∧ w = w' := by
  have c1 := h.c1
  clear h
  go_enter Try.func14, Try.ntmps14
  go_wp2
  go_ret
  exact ⟨rfl, rfl⟩
theorem Qt.frame_nil (w : World) : Calls Try.prog 14 #[.pointer none] w fun e w' => e = .returned (.int .i64 0) ∧ w = w' := by
  go_enter Try.func14, Try.ntmps14
  go_wp2
  go_ret
  exact ⟨rfl, rfl⟩
theorem Qt.fork_nil (w : World) : Calls Try.prog 18 #[.pointer none] w fun e w' => e = .returned (.pointer none) ∧ w = w' := by
  go_enter Try.func18, Try.ntmps18
  go_wp2
  go_ret
  exact ⟨rfl, rfl⟩
theorem Qt.left_asked (x t z : Int) (p : Value) (w : World) (h : Calls Try.prog 21 #[p, .int .i64 t, .int .i64 x] w fun e w' => e = .returned (.tuple #[.int .i64 z, .bool false]) ∧ ∃ q, w.drewN q = w') : Calls Try.prog 10 #[p, .int .i64 t, .int .i64 x] w fun e w' => e = .returned (.int .i64 0) ∧ ∃ q, w.drewN q = w' := by
  have HC := Lib.hid h
  clear h
  go_enter Try.func10, Try.ntmps10
  go_wp2_with (go_at_call 21; (with_reducible refine HC.out.mono ?_); rintro e w2 ⟨rfl, q, hq⟩)
  go_ret
  exact ⟨rfl, q, hq⟩
theorem Qt.use_asked (x t z : Int) (p : Value) (w : World) (h : Calls Try.prog 21 #[p, .int .i64 t, .int .i64 x] w fun e w' => e = .returned (.tuple #[.int .i64 z, .bool false]) ∧ ∃ q, w.drewN q = w') : Calls Try.prog 13 #[p, .int .i64 t, .int .i64 x] w fun e w' => e = .returned (.bool false) ∧ ∃ q, w.drewN q = w' := by
  have HC := Lib.hid h
  clear h
  go_enter Try.func13, Try.ntmps13
  go_wp2_with (go_at_call 21; (with_reducible refine HC.out.mono ?_); rintro e w2 ⟨rfl, q, hq⟩)
  go_ret
  exact ⟨rfl, q, hq⟩
theorem Qt.asked_no (x t : Int) (w : World) (h : Qt.Acc w b f n Q s m) (hk : ¬ Qt.ok f n s.fr t x) : ∃ z, Calls Try.prog 21 #[.pointer (some ⟨b, 0, none⟩), .int .i64 t, .int .i64 x] w fun e w' => e = .returned (.tuple #[.int .i64 z, .bool false]) ∧ ∃ q, w.drewN q = w' := by
  by_cases hx : 1 ≤ x ∧ x ≤ n
  · obtain ⟨i, hi⟩ := Int.eq_ofNat_of_zero_le (show 0 ≤ x - 1 by omega)
    obtain rfl : x = (i : Int) + 1 := by omega
    by_cases ht : t < 0 ∨ 2147483647 < t
    · exact ⟨0, (Qt.asked_off i t w h (by omega) ht).mono fun e w' ⟨a, b⟩ => ⟨a, 0, b⟩⟩
    · have hd : ¬ (s.fr : Int) ≤ t / f := fun e => hk ⟨hx.1, hx.2, by omega, by omega, by omega⟩
      refine ⟨t / f, (Qt.asked_on i t w h (by omega) (by omega) (by omega)).mono fun e w' hab => ⟨?_, hab.2⟩⟩
      rw [hab.1, decide_eq_false hd]
  · exact ⟨0, (Qt.asked_has x t _ w (fun W e => by subst e; exact Qt.has_no x _ h hx)).mono fun e w' ⟨a, b⟩ => ⟨a, 0, b⟩⟩
theorem Qt.asked_yes (i p : Nat) (t : Int) (w : World) (h : Qt.Acc w b f n Q s m) (hi : i < n) (t0 : 0 ≤ t) (t1 : t ≤ 2147483647) (hp : t / f = p) (hs : s.fr ≤ p) : Calls Try.prog 21 #[.pointer (some ⟨b, 0, none⟩), .int .i64 t, .int .i64 ((i : Int) + 1)] w fun e w' => e = .returned (.tuple #[.int .i64 p, .bool true]) ∧ ∃ q, w.drewN q = w' := by
  refine (Qt.asked_on i t w h hi t0 t1).mono fun e w' hab => ⟨?_, hab.2⟩
  have : (s.fr : Int) ≤ t / f := by omega
  rw [hab.1, decide_eq_true this, hp]
end
end Go.Proofs.Yticmgkdhdfkpeaa
