import Derived.WalkKit
import Derived.Deep.Draws
import Derived.Deep.QuietTactic
import Derived.Test.YtkbjphapnbbakaaRows
import Derived.ProofKit
import Derived.OpenShut
import Derived.WalkLawsBesides
import Derived.WalkSpells
import Derived.BigQuiet
import Derived.Lib.BitFns
import Derived.Lib.Hide
import Derived.Scope
import Derived.WalkMore
import Derived.ScopeJumps
import Derived.Defers
import Derived.ShutString
import Derived.ChangeOld
import Derived.Lib.SmallJoins
set_option linter.all false
/- Plain facts on bits and bytes, for the laws of package bits: no program is spoken of here. -/
namespace Go.Proofs.Ytkbjphapnbbakaa.Bt
open Go.RowKit

theorem and255 (n : Int) : bits .and .i64 n 255 = n % 256 := by
  show IntKind.i64.wrap ((BitVec.ofInt 64 n &&& BitVec.ofInt 64 255).toNat : Int) = _
  have h : (BitVec.ofInt 64 (255 : Int)).toNat = 2 ^ 8 - 1 := by decide
  rw [BitVec.toNat_and, h, Nat.and_two_pow_sub_one_eq_mod, BitVec.toNat_ofInt, IntKind.wrap_i64]
  omega

theorem and255u (n : Int) (h0 : 0 ≤ n) (h1 : n < 65536) : bits .and .u16 n 255 = n % 256 := by
  obtain ⟨a, rfl⟩ := Int.eq_ofNat_of_zero_le h0
  have h : (255 : Int) = ((255 : Nat) : Int) := rfl
  rw [h, u16_and_nat a 255 (by omega) (by decide), show (255 : Nat) = 2 ^ 8 - 1 from rfl, Nat.and_two_pow_sub_one_eq_mod]
  omega

theorem or256 (a b : Int) (ha : 0 ≤ a) (ha1 : a < 256) (hb : 0 ≤ b) (hb1 : b < 256) : bits .or .i64 a (b * 256) = a + 256 * b := by
  obtain ⟨x, rfl⟩ := Int.eq_ofNat_of_zero_le ha
  obtain ⟨y, rfl⟩ := Int.eq_ofNat_of_zero_le hb
  have hy : ((y : Int) * 256) = ((2 ^ 8 * y : Nat) : Int) := by omega
  have k1 : (BitVec.ofInt 64 (x : Int)).toNat = x := by rw [BitVec.ofInt_natCast, BitVec.toNat_ofNat]; omega
  have k2 : (BitVec.ofInt 64 ((2 ^ 8 * y : Nat) : Int)).toNat = 2 ^ 8 * y := by rw [BitVec.ofInt_natCast, BitVec.toNat_ofNat]; omega
  show IntKind.i64.wrap ((BitVec.ofInt 64 (x : Int) ||| BitVec.ofInt 64 ((y : Int) * 256)).toNat : Int) = _
  rw [hy, BitVec.toNat_or, k1, k2, Nat.or_comm, ← Nat.two_pow_add_eq_or_of_lt (by omega) y, IntKind.wrap_i64]
  omega

/-- A number's two bytes. -/
def put (n : Int) : ByteArray := ⟨#[UInt8.ofNat (n % 256).toNat, UInt8.ofNat (n / 256 % 256).toNat]⟩

/-- How many bits of a number are 1. -/
def ones : Nat → Nat → Nat
  | 0, _ => 0
  | f + 1, k => if k = 0 then 0 else ones f (k / 2) + k % 2

theorem ones_zero (f : Nat) : ones f 0 = 0 := by cases f <;> simp [ones]

theorem ones_join (g f hi lo : Nat) (hl : lo < 2 ^ g) (hh : hi < 2 ^ f) : ones (f + g) (hi * 2 ^ g + lo) = ones f hi + ones g lo := by
  induction g generalizing lo with
  | zero => obtain rfl : lo = 0 := by omega
            simp [ones]
  | succ g ih =>
    have hp : hi * 2 ^ (g + 1) = 2 * (hi * 2 ^ g) := by rw [Nat.pow_succ, ← Nat.mul_assoc, Nat.mul_comm]
    have e1 : (hi * 2 ^ (g + 1) + lo) / 2 = hi * 2 ^ g + lo / 2 := by omega
    have e2 : (hi * 2 ^ (g + 1) + lo) % 2 = lo % 2 := by omega
    have hl2 : lo / 2 < 2 ^ g := by rw [Nat.pow_succ] at hl; omega
    have k := ih (lo / 2) hl2
    show ones (f + g + 1) (hi * 2 ^ (g + 1) + lo) = _
    rw [ones, e1, e2, k]
    by_cases h0 : hi * 2 ^ (g + 1) + lo = 0
    · rw [if_pos h0]
      have hlo : lo = 0 := by omega
      have hhi : hi = 0 := by
        rcases Nat.eq_zero_or_pos hi with h | h
        · exact h
        · have := Nat.mul_pos h (Nat.two_pow_pos (g + 1)); omega
      subst hlo hhi
      simp [ones_zero]
    · rw [if_neg h0]
      by_cases hlo : lo = 0
      · subst hlo; simp [ones_zero]
      · rw [show ones (g + 1) lo = ones g (lo / 2) + lo % 2 from by rw [ones, if_neg hlo]]
        omega

theorem ones_16 (k : Nat) (h : k < 65536) : ones 16 k = ones 8 (k / 256) + ones 8 (k % 256) := by
  have := ones_join 8 8 (k / 256) (k % 256) (by omega) (by omega)
  rw [← this]
  congr 1
  omega

theorem ones_le (f k : Nat) : ones f k ≤ f := by
  induction f generalizing k with
  | zero => simp [ones]
  | succ f ih =>
    rw [ones]
    split
    · omega
    · have := ih (k / 2); omega

#print axioms ones_16

/-- What a number leaves of another one, from 0 on, as1 the text reckons it. -/
theorem rest_of (n m : Int) (hm : 0 < m) : (if n.tmod m < 0 then n.tmod m + m else n.tmod m) = n % m := by
  have h1 := @Int.tmod_eq_emod n m
  have h2 := Int.emod_nonneg n (Int.ne_of_gt hm)
  have h3 := Int.emod_lt_of_pos n hm
  have h4 : (m.natAbs : Int) = m := Int.natAbs_of_nonneg (Int.le_of_lt hm)
  rw [h1]
  split <;> split <;> omega

end Go.Proofs.Ytkbjphapnbbakaa.Bt

/- Words for memory: a block that is known whole; only one block was written. -/
namespace Go.Proofs.Ytkbjphapnbbakaa
open Go.RowKit

/-- Block g holds just the cells cs, of element type t, and none of them is frozen. -/
def Blk (w : World) (g : Nat) (t : TypeId) (cs : Array Value) : Prop := w.heap[g]? = some (.cells cs t (0, 0))

section
variable {w w' : World} {g : Nat} {t : TypeId} {cs : Array Value}
theorem Blk.lt (h : Blk w g t cs) : g < w.heap.size := lt_of_block h
theorem Blk.cell (h : Blk w g t cs) (i : Nat) : w.cell? ⟨g, i, none⟩ = cs[i]? := by
  have h' : w.heap[g]? = some (.cells cs t (0, 0)) := h
  simp [World.cell?, h']
theorem Blk.free (h : Blk w g t cs) (i : Nat) : w.frozen? ⟨g, i, none⟩ = false := by
  have h' : w.heap[g]? = some (.cells cs t (0, 0)) := h
  simp [World.frozen?, h']
theorem Blk.new (w : World) (t : TypeId) (cs : Array Value) : Blk (w.alloc (.cells cs t)) w.heap.size t cs := by
  show (w.heap.push _)[w.heap.size]? = _
  simp
theorem Blk.drewN (h : Blk w g t cs) (n : Nat) : Blk (w.drewN n) g t cs := h
theorem Blk.alloc (h : Blk w g t cs) (o : Obj) : Blk (w.alloc o) g t cs := (Below.heap_alloc w o g h.lt).trans h
theorem Blk.put (h : Blk w g t cs) (i : Nat) (u : Value) : Blk (w.setCell ⟨g, i, none⟩ u) g t (cs.setIfInBounds i u) := by
  have h' : w.heap[g]? = some (.cells cs t (0, 0)) := h
  show (World.setCell w ⟨g, i, none⟩ u).heap[g]? = _
  simp [World.setCell, Array.getElem?_modify, h']
theorem Blk.far (h : Blk w g t cs) {p : Addr} (hp : g ≠ p.block) (u : Value) : Blk (w.setCell p u) g t cs := (Below.heap_setCell w p u g hp).trans h
theorem Blk.below {B : Nat} (h : Blk w g t cs) (hb : Below B w w') (hg : g < B) : Blk w' g t cs := (hb.block g hg).trans h
theorem Blk.only {row : Option Nat} (h : Blk w g t cs) (hb : w.grownBy w' row) (hg : some g ≠ row) : Blk w' g t cs := (hb.block g h.lt hg).trans h
theorem Blk.differ {g' : Nat} {t' : TypeId} {cs' : Array Value} (h : Blk w g t cs) (h' : Blk w g' t' cs') (hne : t ≠ t') : g ≠ g' := by
  rintro rfl
  have h1 : w.heap[g]? = some (.cells cs t (0, 0)) := h
  have h2 : w.heap[g]? = some (.cells cs' t' (0, 0)) := h'
  rw [h1] at h2
  injection h2 with h3
  injection h3 with _ h4
  exact hne h4
end

section
variable {a b c w : World} {row : Option Nat}
theorem only_refl (w : World) (row : Option Nat) : w.grownBy w row := ⟨rfl, rfl, rfl, Nat.le_refl _, fun _ _ _ => rfl⟩
theorem only_trans (h : a.grownBy b row) (k : b.grownBy c row) : a.grownBy c row :=
  ⟨k.os.trans h.os, k.tape.trans h.tape, k.output.trans h.output, Nat.le_trans h.size k.size, fun i hi hne => (k.block i (Nat.lt_of_lt_of_le hi h.size) hne).trans (h.block i hi hne)⟩
theorem only_drewN (h : a.grownBy w row) (n : Nat) : a.grownBy (w.drewN n) row := ⟨h.os, h.tape, h.output, h.size, h.block⟩
theorem only_alloc (h : a.grownBy w row) (o : Obj) : a.grownBy (w.alloc o) row :=
  ⟨h.os, h.tape, h.output, Nat.le_trans h.size (by simp), fun i hi hne => (Below.heap_alloc w o i (Nat.lt_of_lt_of_le hi h.size)).trans (h.block i hi hne)⟩
theorem only_put {g : Nat} (h : a.grownBy w (some g)) (i : Nat) (u : Value) : a.grownBy (w.setCell ⟨g, i, none⟩ u) (some g) :=
  ⟨h.os, h.tape, h.output, by simpa [World.setCell] using h.size, fun i hi hne => (Below.heap_setCell w _ u i (by
    rintro rfl
    exact hne rfl)).trans (h.block i hi hne)⟩
theorem only_any (h : a.grownBy w none) (row : Option Nat) : a.grownBy w row := ⟨h.os, h.tape, h.output, h.size, fun i hi hne => h.block i hi (by simp)⟩
theorem below_of_only {B : Nat} (h : a.grownBy w row) (hB : B ≤ a.heap.size) (hr : ∀ k, row = some k → B ≤ k) : Below B a w :=
  ⟨h.os, h.tape, h.output, h.size, fun k hk => h.block k (Nat.lt_of_lt_of_le hk hB) (fun e => by have := hr k e.symm; omega)⟩
theorem below_drewN {B : Nat} (h : Below B a w) (n : Nat) : Below B a (w.drewN n) := ⟨h.os, h.tape, h.output, h.size, h.block⟩
end

/-- A callee that leaves the world as1 it is, met in a region that draws. -/
theorem quiet_same {P : Program} {f : FuncId} {args : Array Value} {w : World} {n : Nat} {v : Value} (h : Calls P f args (w.drewN n) fun e w' => e = .returned v ∧ w.drewN n = w') : Calls P f args (w.drewN n) fun e w'' => e = .returned v ∧ ∃ m, w'' = w.drewN m :=
  h.mono fun _ _ ⟨he, hm⟩ => ⟨he, n, hm.symm⟩
theorem quiet_draws {P : Program} {f : FuncId} {args : Array Value} {w : World} {n : Nat} {v : Value} (h : Calls P f args (w.drewN n) fun e w' => e = .returned v ∧ ∃ q, (w.drewN n).drewN q = w') : Calls P f args (w.drewN n) fun e w'' => e = .returned v ∧ ∃ m, w'' = w.drewN m :=
  h.mono fun _ _ ⟨he, q, hm⟩ => ⟨he, n + q, by rw [← hm, World.drewN_drewN]⟩
theorem quiet_same2 {P : Program} {f : FuncId} {args : Array Value} {w : World} {a n : Nat} {v : Value} (h : Calls P f args (w.drewN (a + n)) fun e w' => e = .returned v ∧ w.drewN (a + n) = w') : Calls P f args (w.drewN (a + n)) fun e w'' => e = .returned v ∧ ∃ m, w'' = w.drewN (a + m) :=
  h.mono fun _ _ ⟨he, hm⟩ => ⟨he, n, hm.symm⟩
theorem quiet_draws2 {P : Program} {f : FuncId} {args : Array Value} {w : World} {a n : Nat} {v : Value} (h : Calls P f args (w.drewN (a + n)) fun e w' => e = .returned v ∧ ∃ q, (w.drewN (a + n)).drewN q = w') : Calls P f args (w.drewN (a + n)) fun e w'' => e = .returned v ∧ ∃ m, w'' = w.drewN (a + m) :=
  h.mono fun _ _ ⟨he, q, hm⟩ => ⟨he, n + q, by rw [← hm, World.drewN_drewN, Nat.add_assoc]⟩
theorem w64_byte (x : UInt8) : wrap64 (x.toNat : Int) = (x.toNat : Int) := by
  have := x.toNat_lt
  exact IntWalk.wrap64_in _ ⟨by omega, by omega⟩

/-- An owned row of other elements lies in another block. -/
theorem own_ne {w : World} {base : Nat} {e t : TypeId} {size n g : Nat} {v : Value} {xs : List Value} {cs : Array Value} (h : w.ownsRow base e size v n xs) (hg : Blk w g t cs) (hne : e ≠ t) : v.ownBlock ≠ some g := by
  rcases h.2 with ⟨rfl, _⟩ | ⟨g', cap, cur, rfl, _, hh, _⟩
  · simp [Value.ownBlock]
  · intro he
    have e1 : g' = g := by simpa [Value.ownBlock] using he
    subst e1
    have h' : Blk w g' e cur := hh
    exact h'.differ hg hne rfl

theorem own_form {w : World} {base : Nat} {e : TypeId} {size n : Nat} {v : Value} {xs : List Value} (h : w.ownsRow base e size v n xs) : ∃ A c, v = .slice A n c := by
  rcases h.2 with ⟨rfl, rfl⟩ | ⟨g', cap, cur, rfl, _⟩
  · exact ⟨_, _, rfl⟩
  · exact ⟨_, _, rfl⟩

theorem ret_int {k : IntKind} {a b : Int} (h : a = b) : Ending.returned (.int k a) = .returned (.int k b) := by rw [h]
end Go.Proofs.Ytkbjphapnbbakaa

/- The functions of package bits, and of the document's answers for it, that only reckon: each by its contract. -/
namespace Go.Proofs.Ytkbjphapnbbakaa
open Go.RowKit Go.Lib
set_option linter.unusedVariables false

theorem low_any (n : Int) (w : World) : Calls Try.prog 23 #[.int .i64 n] w fun e w' => e = .returned (.int .i64 (n % 256)) ∧ w = w' := by
  go_enter Try.func23, Try.ntmps23
  go_wp2
  go_ret
  exact ⟨by simp [Bt.and255], rfl⟩

theorem rest_any (n m : Int) (w : World) (h : 0 < m) (h' : m ≤ 65536) : Calls Try.prog 26 #[.int .i64 n, .int .i64 m] w fun e w' => e = .returned (.int .i64 (n % m)) ∧ w = w' := by
  have hr := Bt.rest_of n m h
  have hlo : -65536 < n.tmod m := by have := Int.lt_tmod_of_pos n h; omega
  by_cases hn : n.tmod m < 0
  · rw [if_pos hn] at hr
    go_enter Try.func26, Try.ntmps26
    go_wp2
    go_ret
    exact ⟨by simp, rfl⟩
  · rw [if_neg hn] at hr
    go_enter Try.func26, Try.ntmps26
    go_wp2
    go_ret
    exact ⟨by simp, rfl⟩

theorem rlow_any (n : Int) (w : World) : Calls Try.prog 24 #[.int .i64 n] w fun e w' => e = .returned (.int .i64 (n % 256)) ∧ w = w' := by
  go_enter Try.func24, Try.ntmps24
  go_wp2_with (go_at_call 26; refine (rest_any _ _ _ (by omega) (by omega)).mono ?_; rintro e w' ⟨rfl, rfl⟩)
  go_ret
  exact ⟨rfl, rfl⟩

theorem pop8_ones : ∀ n : Fin 256, pop8 (n.val : Int) = (Bt.ones 8 n.val : Int) := by decide +kernel
theorem pop8_is (b : Int) (h0 : 0 ≤ b) (h1 : b ≤ 255) : pop8 b = (Bt.ones 8 b.toNat : Int) := by
  have e := pop8_ones ⟨b.toNat, by omega⟩
  simp only [Int.toNat_of_nonneg h0] at e
  exact e

end Go.Proofs.Ytkbjphapnbbakaa

/- Package ring, and the document's answers for it: each function by its contract. -/
namespace Go.Proofs.Ytkbjphapnbbakaa
open Go.RowKit Go.Lib
set_option linter.unusedVariables false
set_option maxRecDepth 8000

def fitI (x : Int) : Prop := -9223372036854775808 ≤ x ∧ x ≤ 9223372036854775807
theorem fitI_of {x : Int} (w : (Lit.int .i64 x).wf = true) : fitI x := by
  simp only [Lit.wf, Bool.and_eq_true, decide_eq_true_eq] at w
  have e1 : IntKind.i64.min = -9223372036854775808 := by kernel_rfl
  have e2 : IntKind.i64.max = 9223372036854775807 := by kernel_rfl
  unfold fitI
  omega
/-- Which sizes may be; places, addresses, what may be taken. -/
def Rn.rt (n : Int) : Bool := decide (n = 1 ∨ n = 2 ∨ n = 4 ∨ n = 8 ∨ n = 16)
def Rn.st (a : Int) : Int := if a < 0 then 0 else if 1024 < a then 1024 else a
def Rn.ct (n : Int) : Bool := decide (0 ≤ n ∧ n ≤ 2147483647)
def Rn.pl (k n : Int) : Int := if Rn.rt n = true ∧ 0 ≤ k then k % n else 0
def Rn.sz (n : Int) : Int := if Rn.rt n = true then 2 + 8 * n else 0
def Rn.nw (p t : Int) : Int := (p - t) % 256
def Rn.rm (t d n : Int) : Int := if Rn.rt n = true ∧ (0 ≤ t ∧ t ≤ 2147483647) ∧ (0 ≤ d ∧ d ≤ 2147483647) ∧ 0 ≤ t - d ∧ t - d ≤ n then n - (t - d) else 0
def Rn.tk (p t d n : Int) : Int := if Rn.rm t d n < Rn.nw p t then Rn.rm t d n else Rn.nw p t
theorem Rn.rt_iff (n : Int) : Rn.rt n = true ↔ n = 1 ∨ n = 2 ∨ n = 4 ∨ n = 8 ∨ n = 16 := by simp [Rn.rt]
theorem Rn.st_in (a : Int) : 0 ≤ Rn.st a ∧ Rn.st a ≤ 1024 := by unfold Rn.st; split <;> (try split) <;> omega
theorem Rn.pl_in (k n : Int) : 0 ≤ Rn.pl k n ∧ Rn.pl k n < 16 := by
  unfold Rn.pl
  split
  · rename_i h
    rcases (Rn.rt_iff n).1 h.1 with rfl | rfl | rfl | rfl | rfl <;> omega
  · omega
theorem Rn.nw_in (p t : Int) : 0 ≤ Rn.nw p t ∧ Rn.nw p t < 256 := by unfold Rn.nw; omega
theorem Rn.rm_in (t d n : Int) : 0 ≤ Rn.rm t d n ∧ Rn.rm t d n ≤ 16 := by
  unfold Rn.rm
  split
  · rename_i h
    rcases (Rn.rt_iff n).1 h.1 with rfl | rfl | rfl | rfl | rfl <;> omega
  · omega

theorem Rn.start_any (a : Int) (w : World) : Calls Try.prog 22 #[.int .i64 a] w fun e w' => e = .returned (.int .i64 (Rn.st a)) ∧ w = w' := by
  unfold Rn.st
  by_cases h0 : a < 0
  · rw [if_pos h0]
    go_enter Try.func22, Try.ntmps22
    go_wp2
    go_ret
    exact ⟨rfl, rfl⟩
  · rw [if_neg h0]
    by_cases h1 : 1024 < a
    · rw [if_pos h1]
      have i1 : 0 ≤ a := by omega
      have i2 : ¬ a ≤ 1024 := by omega
      go_enter Try.func22, Try.ntmps22
      go_wp2
      go_ret
      exact ⟨rfl, rfl⟩
    · rw [if_neg h1]
      have i1 : 0 ≤ a := by omega
      have i2 : a ≤ 1024 := by omega
      go_enter Try.func22, Try.ntmps22
      go_wp2
      go_ret
      exact ⟨rfl, rfl⟩
theorem Rn.counts_any (n : Int) (w : World) : Calls Try.prog 25 #[.int .i64 n] w fun e w' => e = .returned (.bool (Rn.ct n)) ∧ w = w' := by
  have key : (0 ≤ n ∧ n ≤ 2147483647 ∧ Rn.ct n = true) ∨ (0 ≤ n ∧ ¬ n ≤ 2147483647 ∧ Rn.ct n = false) ∨ (¬ 0 ≤ n ∧ Rn.ct n = false) := by
    by_cases h1 : 0 ≤ n <;> by_cases h2 : n ≤ 2147483647 <;> simp [Rn.ct, h1, h2]
  rcases key with ⟨h1, h2, e⟩ | ⟨h1, h2, e⟩ | ⟨h1, e⟩
  all_goals
    have E := Lib.hid e
    clear e
    go_enter Try.func25, Try.ntmps25
    go_wp2
    go_ret
    rw [E.out]
    exact ⟨by first | rfl | simp, rfl⟩
theorem Rn.right_any (n : Int) (w : World) : Calls Try.prog 8 #[.int .i64 n] w fun e w' => e = .returned (.bool (Rn.rt n)) ∧ w = w' := by
  have HK := Lib.hid (show ∀ s : Nat, (s = 16 ∨ s = 8 ∨ s = 4 ∨ s = 2 ∨ s = 1) → n = s → Rn.rt n = true from fun s hs hn => (Rn.rt_iff n).2 (by omega))
  go_enter Try.func8, Try.ntmps8
  go_wp2
  refine wp_scope_jumps 0 (fun a' w' => w' = w ∧ ∃ (s : Nat) (u4 u5 u6 u7 u8 u9 u10 : Value), a' = { tmps := #[.int .i64 n, undef, .bool false, .int .i64 s, u4, u5, u6, u7, u8, u9, u10], defers := [] } ∧ ((s = 8 ∧ n ≠ 16) ∨ (s = 4 ∧ n ≠ 16 ∧ n ≠ 8) ∨ (s = 2 ∧ n ≠ 16 ∧ n ≠ 8 ∧ n ≠ 4) ∨ (s = 1 ∧ n ≠ 16 ∧ n ≠ 8 ∧ n ≠ 4 ∧ n ≠ 2))) (fun a' _ => (intOf (a'.tmps.getD 3 undef)).toNat) rfl ?_ ?_
  · go_wp2
    go_step3
    by_cases h : n = 16
    · have e := HK.out 16 (by omega) h
      subst h
      go_wp2
      simp only [Exit.jump]
      go_ret
      exact ⟨by rw [e]; rfl, rfl⟩
    · have e : (n == 16) = false := by simpa using h
      go_wp2
      go_step3
      exact ⟨rfl, rfl, 8, _, _, _, _, _, _, _, rfl, .inl ⟨rfl, h⟩⟩
  · rintro a' w' ⟨rfl, s, u4, u5, u6, u7, u8, u9, u10, rfl, hs⟩
    have key : (n = s ∧ Rn.rt n = true) ∨ (n ≠ s ∧ s = 1 ∧ Rn.rt n = false) ∨ (n ≠ s ∧ ((s = 8 ∧ n ≠ 16) ∨ (s = 4 ∧ n ≠ 16 ∧ n ≠ 8) ∨ (s = 2 ∧ n ≠ 16 ∧ n ≠ 8 ∧ n ≠ 4))) := by
      by_cases h : n = s
      · exact .inl ⟨h, HK.out s (by omega) h⟩
      · by_cases h1 : s = 1
        · refine .inr (.inl ⟨h, h1, ?_⟩)
          cases hh : Rn.rt n
          · rfl
          · have := (Rn.rt_iff n).1 hh
            omega
        · exact .inr (.inr ⟨h, by omega⟩)
    rcases key with ⟨h, e⟩ | ⟨h, h1, e⟩ | ⟨h, h1⟩
    · have c : (n == (s : Int)) = true := by simp [h]
      have E := Lib.hid e
      clear hs e h HK
      go_wp2
      simp only [Exit.jump]
      go_ret
      exact ⟨by rw [E.out]; rfl, rfl⟩
    · subst h1
      have c : (n == ((1 : Nat) : Int)) = false := by simpa using h
      have E := Lib.hid e
      clear hs e h HK
      go_wp2
      simp only [Exit.jump]
      go_ret
      exact ⟨by rw [E.out]; rfl, rfl⟩
    · rcases h1 with ⟨rfl, h1⟩ | ⟨rfl, h1⟩ | ⟨rfl, h1⟩
      · have c : (n == ((8 : Nat) : Int)) = false := by simpa using h
        go_wp2
        go_step3
        refine ⟨rfl, ⟨rfl, 4, _, _, _, _, _, _, _, rfl, by omega⟩, ?_⟩
        simp [intOf]
      · have c : (n == ((4 : Nat) : Int)) = false := by simpa using h
        go_wp2
        go_step3
        refine ⟨rfl, ⟨rfl, 2, _, _, _, _, _, _, _, rfl, by omega⟩, ?_⟩
        simp [intOf]
      · have c : (n == ((2 : Nat) : Int)) = false := by simpa using h
        go_wp2
        go_step3
        refine ⟨rfl, ⟨rfl, 1, _, _, _, _, _, _, _, rfl, by omega⟩, ?_⟩
        simp [intOf]
theorem Rn.rright_any (n : Int) (w : World) : Calls Try.prog 7 #[.int .i64 n] w fun e w' => e = .returned (.bool (Rn.rt n)) ∧ w = w' := by
  by_cases h1 : n = 1 ∨ n = 2 ∨ n = 4 ∨ n = 8 ∨ n = 16
  · rw [(Rn.rt_iff n).2 h1]
    rcases h1 with rfl | rfl | rfl | rfl | rfl
    all_goals
      go_enter Try.func7, Try.ntmps7
      go_wp2
      go_ret
      exact ⟨by first | rfl | simp, rfl⟩
  · have e : Rn.rt n = false := by
      cases hh : Rn.rt n
      · rfl
      · exact absurd ((Rn.rt_iff n).1 hh) h1
    rw [e]
    have c1 : (n == 1) = false := by simp; omega
    have c2 : (n == 2) = false := by simp; omega
    have c4 : (n == 4) = false := by simp; omega
    have c8 : (n == 8) = false := by simp; omega
    have c16 : (n == 16) = false := by simp; omega
    clear h1 e
    go_enter Try.func7, Try.ntmps7
    go_wp2
    go_ret
    exact ⟨by first | rfl | simp, rfl⟩
end Go.Proofs.Ytkbjphapnbbakaa

/- Package ring, its other calls, and the document's answers for them. -/
namespace Go.Proofs.Ytkbjphapnbbakaa
open Go.RowKit Go.Lib
set_option linter.unusedVariables false
set_option maxRecDepth 8000

theorem Rn.pl_yes {k n : Int} (hn : Rn.rt n = true) (hk : 0 ≤ k) : Rn.pl k n = k % n := by unfold Rn.pl; rw [if_pos ⟨hn, hk⟩]
theorem Rn.pl_no {k n : Int} (h : Rn.rt n = false ∨ k < 0) : Rn.pl k n = 0 := by
  unfold Rn.pl
  rw [if_neg]
  rintro ⟨a, b⟩
  rcases h with h | h
  · rw [h] at a; cases a
  · omega
theorem Rn.pos {n : Int} (h : Rn.rt n = true) : 0 < n ∧ n ≤ 16 := by
  rcases (Rn.rt_iff n).1 h with rfl | rfl | rfl | rfl | rfl <;> omega
theorem Rn.place_any (k n : Int) (w : World) (bk : k ≤ 9223372036854775807) : Calls Try.prog 12 #[.int .i64 k, .int .i64 n] w fun e w' => e = .returned (.int .i64 (Rn.pl k n)) ∧ w = w' := by
  have hc := Rn.right_any n
  by_cases hr : Rn.rt n = true
  · rw [hr] at hc
    have HC := Lib.hid hc
    by_cases hk : k < 0
    · have E := Lib.hid (Rn.pl_no (n := n) (.inr hk))
      clear hc hr
      go_enter Try.func12, Try.ntmps12
      go_wp2_with (go_at_call 8; (with_reducible refine (HC.out _).mono ?_); rintro e w' ⟨rfl, rfl⟩)
      go_ret
      exact ⟨ret_int E.out.symm, rfl⟩
    · have k0 : 0 ≤ k := by omega
      have E := Lib.hid (Rn.pl_yes hr k0)
      obtain ⟨n0, n1⟩ := Rn.pos hr
      have hm : k.tmod n = k % n := Int.tmod_eq_emod_of_nonneg k0
      have m0 : 0 ≤ k % n := Int.emod_nonneg _ (by omega)
      have m1 : k % n < n := Int.emod_lt_of_pos _ n0
      have nz : ¬ n = 0 := by omega
      clear hc hr
      go_enter Try.func12, Try.ntmps12
      go_wp2_with (go_at_call 8; (with_reducible refine (HC.out _).mono ?_); rintro e w' ⟨rfl, rfl⟩)
      go_ret
      exact ⟨ret_int E.out.symm, rfl⟩
  · have hf : Rn.rt n = false := by simpa using hr
    rw [hf] at hc
    have HC := Lib.hid hc
    have E := Lib.hid (Rn.pl_no (k := k) (.inl hf))
    clear hc hr hf
    go_enter Try.func12, Try.ntmps12
    go_wp2_with (go_at_call 8; (with_reducible refine (HC.out _).mono ?_); rintro e w' ⟨rfl, rfl⟩)
    go_ret
    exact ⟨ret_int E.out.symm, rfl⟩
theorem Rn.size_any (n : Int) (w : World) : Calls Try.prog 13 #[.int .i64 n] w fun e w' => e = .returned (.int .i64 (Rn.sz n)) ∧ w = w' := by
  have hc := Rn.right_any n
  by_cases hr : Rn.rt n = true
  · rw [hr] at hc
    have HC := Lib.hid hc
    have E := Lib.hid (show Rn.sz n = 2 + 8 * n from by unfold Rn.sz; rw [if_pos hr])
    obtain ⟨n0, n1⟩ := Rn.pos hr
    clear hc hr
    go_enter Try.func13, Try.ntmps13
    go_wp2_with (go_at_call 8; (with_reducible refine (HC.out _).mono ?_); rintro e w' ⟨rfl, rfl⟩)
    go_ret
    exact ⟨ret_int E.out.symm, rfl⟩
  · have hf : Rn.rt n = false := by simpa using hr
    rw [hf] at hc
    have HC := Lib.hid hc
    have E := Lib.hid (show Rn.sz n = 0 from by unfold Rn.sz; rw [hf]; rfl)
    clear hc hr hf
    go_enter Try.func13, Try.ntmps13
    go_wp2_with (go_at_call 8; (with_reducible refine (HC.out _).mono ?_); rintro e w' ⟨rfl, rfl⟩)
    go_ret
    exact ⟨ret_int E.out.symm, rfl⟩
theorem Rn.addr_any (a k n : Int) (w : World) (bk : k ≤ 9223372036854775807) : Calls Try.prog 10 #[.int .i64 a, .int .i64 k, .int .i64 n] w fun e w' => e = .returned (.int .i64 (Rn.st a + 2 + 8 * Rn.pl k n)) ∧ w = w' := by
  have HS := Lib.hid (Rn.start_any a)
  have HP := Lib.hid (fun W => Rn.place_any k n W bk)
  obtain ⟨s0, s1⟩ := Rn.st_in a
  obtain ⟨p0, p1⟩ := Rn.pl_in k n
  generalize Rn.st a = s at *
  generalize Rn.pl k n = p at *
  go_enter Try.func10, Try.ntmps10
  go_wp2_with (first | (go_at_call 22; (with_reducible refine (HS.out _).mono ?_); rintro e w' ⟨rfl, rfl⟩) | (go_at_call 12; (with_reducible refine (HP.out _).mono ?_); rintro e w' ⟨rfl, rfl⟩))
  go_ret
  exact ⟨by first | rfl | exact ret_int (by omega), rfl⟩
theorem Rn.put_any (a : Int) (w : World) : Calls Try.prog 14 #[.int .i64 a] w fun e w' => e = .returned (.int .i64 (Rn.st a)) ∧ w = w' := by
  have HS := Lib.hid (Rn.start_any a)
  obtain ⟨s0, s1⟩ := Rn.st_in a
  generalize Rn.st a = s at *
  go_enter Try.func14, Try.ntmps14
  go_wp2_with (go_at_call 22; (with_reducible refine (HS.out _).mono ?_); rintro e w' ⟨rfl, rfl⟩)
  go_ret
  exact ⟨by first | rfl | exact ret_int (by omega), rfl⟩
theorem Rn.done_any (a : Int) (w : World) : Calls Try.prog 15 #[.int .i64 a] w fun e w' => e = .returned (.int .i64 (Rn.st a + 1)) ∧ w = w' := by
  have HS := Lib.hid (Rn.start_any a)
  obtain ⟨s0, s1⟩ := Rn.st_in a
  generalize Rn.st a = s at *
  go_enter Try.func15, Try.ntmps15
  go_wp2_with (go_at_call 22; (with_reducible refine (HS.out _).mono ?_); rintro e w' ⟨rfl, rfl⟩)
  go_ret
  exact ⟨by first | rfl | exact ret_int (by omega), rfl⟩
theorem Rn.new_any (p t : Int) (w : World) : Calls Try.prog 16 #[.int .i64 p, .int .i64 t] w fun e w' => e = .returned (.int .i64 (Rn.nw p t)) ∧ w = w' := by
  have E := Lib.hid (show (p % 256 - t % 256) % 256 = Rn.nw p t from by unfold Rn.nw; omega)
  have a0 : 0 ≤ p % 256 := by omega
  have a1 : p % 256 < 256 := by omega
  have b0 : 0 ≤ t % 256 := by omega
  have b1 : t % 256 < 256 := by omega
  go_enter Try.func16, Try.ntmps16
  go_wp2_with (go_at_call 23; (with_reducible refine (low_any _ _).mono ?_); rintro e w' ⟨rfl, rfl⟩)
  go_ret
  exact ⟨by first | exact ret_int E.out | (rw [← E.out]; first | rfl | simp), rfl⟩
end Go.Proofs.Ytkbjphapnbbakaa

/- Room and Take of package ring, the document's New, Place, Room and Take. -/
namespace Go.Proofs.Ytkbjphapnbbakaa
open Go.RowKit Go.Lib
set_option linter.unusedVariables false
set_option maxRecDepth 8000

theorem Rn.ct_yes {n : Int} (h0 : 0 ≤ n) (h1 : n ≤ 2147483647) : Rn.ct n = true := by simp [Rn.ct, h0, h1]
theorem Rn.ct_no {n : Int} (h : n < 0 ∨ 2147483647 < n) : Rn.ct n = false := by simp [Rn.ct]; omega
theorem Rn.rm_yes {t d n : Int} (hn : Rn.rt n = true) (t0 : 0 ≤ t) (t1 : t ≤ 2147483647) (d0 : 0 ≤ d) (d1 : d ≤ 2147483647) (h0 : 0 ≤ t - d) (h1 : t - d ≤ n) : Rn.rm t d n = n - (t - d) := by unfold Rn.rm; rw [if_pos ⟨hn, ⟨t0, t1⟩, ⟨d0, d1⟩, h0, h1⟩]
theorem Rn.rm_no {t d n : Int} (h : Rn.rt n = false ∨ t < 0 ∨ 2147483647 < t ∨ d < 0 ∨ 2147483647 < d ∨ t - d < 0 ∨ n < t - d) : Rn.rm t d n = 0 := by
  unfold Rn.rm
  rw [if_neg]
  rintro ⟨a, b, c, d, e⟩
  rcases h with h | h
  · rw [h] at a; cases a
  · omega
/-- Why nothing may be taken, or that something may. -/
theorem Rn.ways (t d n : Int) : (Rn.rt n = false ∧ Rn.rm t d n = 0) ∨ (Rn.rt n = true ∧ Rn.ct t = false ∧ (t < 0 ∨ (0 ≤ t ∧ 2147483647 < t)) ∧ Rn.rm t d n = 0) ∨ (Rn.rt n = true ∧ Rn.ct t = true ∧ (0 ≤ t ∧ t ≤ 2147483647) ∧ Rn.ct d = false ∧ (d < 0 ∨ (0 ≤ d ∧ 2147483647 < d)) ∧ Rn.rm t d n = 0)
    ∨ (Rn.rt n = true ∧ Rn.ct t = true ∧ (0 ≤ t ∧ t ≤ 2147483647) ∧ Rn.ct d = true ∧ (0 ≤ d ∧ d ≤ 2147483647) ∧ t < d ∧ Rn.rm t d n = 0) ∨ (Rn.rt n = true ∧ Rn.ct t = true ∧ (0 ≤ t ∧ t ≤ 2147483647) ∧ Rn.ct d = true ∧ (0 ≤ d ∧ d ≤ 2147483647) ∧ d ≤ t ∧ n < t - d ∧ Rn.rm t d n = 0)
    ∨ (Rn.rt n = true ∧ Rn.ct t = true ∧ (0 ≤ t ∧ t ≤ 2147483647) ∧ Rn.ct d = true ∧ (0 ≤ d ∧ d ≤ 2147483647) ∧ d ≤ t ∧ t - d ≤ n ∧ Rn.rm t d n = n - (t - d)) := by
  cases hr : Rn.rt n
  · exact .inl ⟨rfl, Rn.rm_no (.inl hr)⟩
  by_cases ht : t < 0 ∨ 2147483647 < t
  · exact .inr (.inl ⟨rfl, Rn.ct_no ht, by omega, Rn.rm_no (.inr (by omega))⟩)
  by_cases hd : d < 0 ∨ 2147483647 < d
  · exact .inr (.inr (.inl ⟨rfl, Rn.ct_yes (by omega) (by omega), by omega, Rn.ct_no hd, by omega, Rn.rm_no (.inr (by omega))⟩))
  have et := Rn.ct_yes (n := t) (by omega) (by omega)
  have ed := Rn.ct_yes (n := d) (by omega) (by omega)
  by_cases h0 : t < d
  · exact .inr (.inr (.inr (.inl ⟨rfl, et, by omega, ed, by omega, h0, Rn.rm_no (.inr (by omega))⟩)))
  by_cases h1 : n < t - d
  · exact .inr (.inr (.inr (.inr (.inl ⟨rfl, et, by omega, ed, by omega, by omega, h1, Rn.rm_no (.inr (by omega))⟩))))
  · exact .inr (.inr (.inr (.inr (.inr ⟨rfl, et, by omega, ed, by omega, by omega, by omega, Rn.rm_yes hr (by omega) (by omega) (by omega) (by omega) (by omega) (by omega)⟩))))
theorem Rn.room_any (t d n : Int) (w : World) : Calls Try.prog 18 #[.int .i64 t, .int .i64 d, .int .i64 n] w fun e w' => e = .returned (.int .i64 (Rn.rm t d n)) ∧ w = w' := by
  have hc := Rn.right_any n
  have ht := Rn.counts_any t
  have hd := Rn.counts_any d
  rcases Rn.ways t d n with ⟨e1, e⟩ | ⟨e1, e2, b2, e⟩ | ⟨e1, e2, b2, e3, b3, e⟩ | ⟨e1, e2, b2, e3, b3, b4, e⟩ | ⟨e1, e2, b2, e3, b3, b4, b5, e⟩ | ⟨e1, e2, b2, e3, b3, b4, b5, e⟩
  · rw [e1] at hc
    have HC := Lib.hid hc; have E := Lib.hid e; have HT := Lib.hid ht; have HD := Lib.hid hd
    clear e1 e hc ht hd
    go_enter Try.func18, Try.ntmps18
    go_wp2_with (first | (go_at_call 8; (with_reducible refine (HC.out _).mono ?_); rintro e w' ⟨rfl, rfl⟩))
    go_ret
    exact ⟨ret_int E.out.symm, rfl⟩
  · rw [e1] at hc; rw [e2] at ht
    have HC := Lib.hid hc; have E := Lib.hid e; have HT := Lib.hid ht; have HD := Lib.hid hd
    clear e1 e2 b2 e hc ht hd
    go_enter Try.func18, Try.ntmps18
    go_wp2_with (first | (go_at_call 8; (with_reducible refine (HC.out _).mono ?_); rintro e w' ⟨rfl, rfl⟩) | (go_at_call 25; (with_reducible refine (HT.out _).mono ?_); rintro e w' ⟨rfl, rfl⟩))
    go_ret
    exact ⟨ret_int E.out.symm, rfl⟩
  · rw [e1] at hc; rw [e2] at ht; rw [e3] at hd
    have HC := Lib.hid hc; have E := Lib.hid e; have HT := Lib.hid ht; have HD := Lib.hid hd
    clear e1 e2 e3 b2 b3 e hc ht hd
    go_enter Try.func18, Try.ntmps18
    go_wp2_with (first | (go_at_call 8; (with_reducible refine (HC.out _).mono ?_); rintro e w' ⟨rfl, rfl⟩) | (go_at_call 25; (with_reducible refine (HT.out _).mono ?_); rintro e w' ⟨rfl, rfl⟩) | (go_at_call 25; (with_reducible refine (HD.out _).mono ?_); rintro e w' ⟨rfl, rfl⟩))
    go_ret
    exact ⟨ret_int E.out.symm, rfl⟩
  · rw [e1] at hc; rw [e2] at ht; rw [e3] at hd
    obtain ⟨b20, b21⟩ := b2
    obtain ⟨b30, b31⟩ := b3
    have i1 : t - d < 0 := by omega
    have HC := Lib.hid hc; have E := Lib.hid e; have HT := Lib.hid ht; have HD := Lib.hid hd
    clear e1 e2 e3 e hc ht hd
    go_enter Try.func18, Try.ntmps18
    go_wp2_with (first | (go_at_call 8; (with_reducible refine (HC.out _).mono ?_); rintro e w' ⟨rfl, rfl⟩) | (go_at_call 25; (with_reducible refine (HT.out _).mono ?_); rintro e w' ⟨rfl, rfl⟩) | (go_at_call 25; (with_reducible refine (HD.out _).mono ?_); rintro e w' ⟨rfl, rfl⟩))
    go_ret
    exact ⟨ret_int E.out.symm, rfl⟩
  · rw [e1] at hc; rw [e2] at ht; rw [e3] at hd
    obtain ⟨b20, b21⟩ := b2
    obtain ⟨b30, b31⟩ := b3
    obtain ⟨n0, n1⟩ := Rn.pos e1
    have i1 : ¬ t - d < 0 := by omega
    have HC := Lib.hid hc; have E := Lib.hid e; have HT := Lib.hid ht; have HD := Lib.hid hd
    clear e1 e2 e3 e hc ht hd
    go_enter Try.func18, Try.ntmps18
    go_wp2_with (first | (go_at_call 8; (with_reducible refine (HC.out _).mono ?_); rintro e w' ⟨rfl, rfl⟩) | (go_at_call 25; (with_reducible refine (HT.out _).mono ?_); rintro e w' ⟨rfl, rfl⟩) | (go_at_call 25; (with_reducible refine (HD.out _).mono ?_); rintro e w' ⟨rfl, rfl⟩))
    go_ret
    exact ⟨ret_int E.out.symm, rfl⟩
  · rw [e1] at hc; rw [e2] at ht; rw [e3] at hd
    obtain ⟨b20, b21⟩ := b2
    obtain ⟨b30, b31⟩ := b3
    obtain ⟨n0, n1⟩ := Rn.pos e1
    have i1 : ¬ t - d < 0 := by omega
    have i2 : ¬ n < t - d := by omega
    have HC := Lib.hid hc; have E := Lib.hid e; have HT := Lib.hid ht; have HD := Lib.hid hd
    clear e1 e2 e3 e hc ht hd
    go_enter Try.func18, Try.ntmps18
    go_wp2_with (first | (go_at_call 8; (with_reducible refine (HC.out _).mono ?_); rintro e w' ⟨rfl, rfl⟩) | (go_at_call 25; (with_reducible refine (HT.out _).mono ?_); rintro e w' ⟨rfl, rfl⟩) | (go_at_call 25; (with_reducible refine (HD.out _).mono ?_); rintro e w' ⟨rfl, rfl⟩))
    go_ret
    exact ⟨by first | exact ret_int E.out.symm | exact ret_int (by rw [E.out]; omega), rfl⟩
theorem Rn.rroom_any (t d n : Int) (w : World) : Calls Try.prog 19 #[.int .i64 t, .int .i64 d, .int .i64 n] w fun e w' => e = .returned (.int .i64 (Rn.rm t d n)) ∧ w = w' := by
  have hc := Rn.rright_any n
  have key : (Rn.rt n = false ∧ Rn.rm t d n = 0) ∨ (Rn.rt n = true ∧ Rn.rm t d n = 0 ∧ (t < 0 ∨ (0 ≤ t ∧ d < 0) ∨ (0 ≤ t ∧ 0 ≤ d ∧ 2147483647 < t) ∨ (0 ≤ t ∧ 0 ≤ d ∧ t ≤ 2147483647 ∧ 2147483647 < d) ∨ (0 ≤ t ∧ 0 ≤ d ∧ t ≤ 2147483647 ∧ d ≤ 2147483647 ∧ t < d) ∨ (0 ≤ t ∧ 0 ≤ d ∧ t ≤ 2147483647 ∧ d ≤ 2147483647 ∧ d ≤ t ∧ n < t - d))) ∨ (Rn.rt n = true ∧ Rn.rm t d n = n - (t - d) ∧ 0 ≤ t ∧ 0 ≤ d ∧ t ≤ 2147483647 ∧ d ≤ 2147483647 ∧ d ≤ t ∧ t - d ≤ n) := by
    rcases Rn.ways t d n with ⟨e1, e⟩ | ⟨e1, e2, b2, e⟩ | ⟨e1, e2, b2, e3, b3, e⟩ | ⟨e1, e2, b2, e3, b3, b4, e⟩ | ⟨e1, e2, b2, e3, b3, b4, b5, e⟩ | ⟨e1, e2, b2, e3, b3, b4, b5, e⟩
    · exact .inl ⟨e1, e⟩
    iterate 4
      · exact .inr (.inl ⟨e1, e, by omega⟩)
    · exact .inr (.inr ⟨e1, e, by omega⟩)
  rcases key with ⟨e1, e⟩ | ⟨e1, e, b⟩ | ⟨e1, e, b0, b1, b2, b3, b4, b5⟩
  · rw [e1] at hc
    have HC := Lib.hid hc; have E := Lib.hid e
    clear e1 e hc
    go_enter Try.func19, Try.ntmps19
    go_wp2_with (first | (go_at_call 7; (with_reducible refine (HC.out _).mono ?_); rintro e w' ⟨rfl, rfl⟩))
    go_ret
    exact ⟨ret_int E.out.symm, rfl⟩
  · rw [e1] at hc
    obtain ⟨n0, n1⟩ := Rn.pos e1
    have HC := Lib.hid hc; have E := Lib.hid e
    clear e1 e hc
    rcases b with b0 | ⟨b0, b1⟩ | ⟨b0, b1, b2⟩ | ⟨b0, b1, b2, b3⟩ | ⟨b0, b1, b2, b3, b4⟩ | ⟨b0, b1, b2, b3, b4, b5⟩
    all_goals
      go_enter Try.func19, Try.ntmps19
      go_wp2_with (first | (go_at_call 7; (with_reducible refine (HC.out _).mono ?_); rintro e w' ⟨rfl, rfl⟩))
      go_ret
      exact ⟨ret_int E.out.symm, rfl⟩
  · rw [e1] at hc
    obtain ⟨n0, n1⟩ := Rn.pos e1
    have HC := Lib.hid hc; have E := Lib.hid e
    clear e1 e hc
    go_enter Try.func19, Try.ntmps19
    go_wp2_with (first | (go_at_call 7; (with_reducible refine (HC.out _).mono ?_); rintro e w' ⟨rfl, rfl⟩))
    go_ret
    exact ⟨ret_int (by rw [E.out]; omega), rfl⟩
theorem Rn.take_any (p t d n : Int) (w : World) : Calls Try.prog 20 #[.int .i64 p, .int .i64 t, .int .i64 d, .int .i64 n] w fun e w' => e = .returned (.int .i64 (Rn.tk p t d n)) ∧ w = w' := by
  have HN := Lib.hid (Rn.new_any p t)
  have HR := Lib.hid (Rn.room_any t d n)
  have a := Rn.nw_in p t
  have b := Rn.rm_in t d n
  have key : (Rn.rm t d n < Rn.nw p t ∧ ¬ Rn.nw p t ≤ Rn.rm t d n ∧ Rn.tk p t d n = Rn.rm t d n) ∨ (¬ Rn.rm t d n < Rn.nw p t ∧ Rn.nw p t ≤ Rn.rm t d n ∧ Rn.tk p t d n = Rn.nw p t) := by
    unfold Rn.tk
    by_cases h : Rn.rm t d n < Rn.nw p t
    · rw [if_pos h]; exact .inl ⟨h, by omega, rfl⟩
    · rw [if_neg h]; exact .inr ⟨h, by omega, rfl⟩
  generalize Rn.tk p t d n = z at *
  generalize Rn.nw p t = x at *
  generalize Rn.rm t d n = y at *
  rcases key with ⟨h1, h2, e⟩ | ⟨h1, h2, e⟩
  all_goals
    have E := Lib.hid e
    clear e a b
    go_enter Try.func20, Try.ntmps20
    go_wp2_with (first | (go_at_call 16; (with_reducible refine (HN.out _).mono ?_); rintro e w' ⟨rfl, rfl⟩) | (go_at_call 18; (with_reducible refine (HR.out _).mono ?_); rintro e w' ⟨rfl, rfl⟩))
    go_ret
    exact ⟨ret_int E.out.symm, rfl⟩
end Go.Proofs.Ytkbjphapnbbakaa

/- The document's New, Place and Take of a ring; the law's live. -/
namespace Go.Proofs.Ytkbjphapnbbakaa
open Go.RowKit Go.Lib
set_option linter.unusedVariables false
set_option maxRecDepth 8000

theorem Rn.rnew_any (p t : Int) (w : World) : Calls Try.prog 17 #[.int .i64 p, .int .i64 t] w fun e w' => e = .returned (.int .i64 (Rn.nw p t)) ∧ w = w' := by
  obtain ⟨a, b⟩ := Rn.nw_in p t
  obtain ⟨m, hm⟩ := Int.eq_ofNat_of_zero_le a
  have a0 : 0 ≤ p % 256 := by omega
  have a1 : p % 256 < 256 := by omega
  have b0 : 0 ≤ t % 256 := by omega
  have b1 : t % 256 < 256 := by omega
  rw [hm] at b ⊢
  have HM := Lib.hid (show ∀ i : Nat, i < m → (t % 256 + (i : Int)) % 256 ≠ p % 256 from fun i hi => by
    unfold Rn.nw at hm
    omega)
  have HE := Lib.hid (show (t % 256 + (m : Int)) % 256 = p % 256 from by
    unfold Rn.nw at hm
    omega)
  have m1 : m < 256 := by omega
  have HP := Lib.hid (rlow_any p)
  have HT := Lib.hid (rlow_any t)
  clear hm a b
  generalize t % 256 = x at *
  generalize p % 256 = y at *
  go_enter Try.func17, Try.ntmps17
  go_wp2
  go_loop [5] (fun v => ∃ i : Nat, v = .int .i64 i ∧ i ≤ m) (fun v => m - (intOf v).toNat)
  case atStart => exact ⟨0, rfl, by omega⟩
  case round =>
    obtain ⟨i, rfl, hi⟩ := hrel
    have i1 : i < 256 := by omega
    have z0 : 0 ≤ (x + (i : Int)) % 256 := by omega
    have z1 : (x + (i : Int)).tmod 256 = (x + (i : Int)) % 256 := Int.tmod_eq_emod_of_nonneg (by omega)
    by_cases h : i = m
    · subst h
      have e : ((x + (i : Int)) % 256 == y) = true := by simp [HE.out]
      go_wp2_with (first | (go_at_call 24; (with_reducible refine (HT.out _).mono ?_); rintro e w' ⟨rfl, rfl⟩) | (go_at_call 24; (with_reducible refine (HP.out _).mono ?_); rintro e w' ⟨rfl, rfl⟩))
      go_ret
      exact ⟨rfl, rfl⟩
    · have hlt : i < m := by omega
      have e : ((x + (i : Int)) % 256 == y) = false := by simpa using HM.out i hlt
      go_wp2_with (first | (go_at_call 24; (with_reducible refine (HT.out _).mono ?_); rintro e w' ⟨rfl, rfl⟩) | (go_at_call 24; (with_reducible refine (HP.out _).mono ?_); rintro e w' ⟨rfl, rfl⟩))
      go_round
      case rel => exact ⟨i + 1, by go_num, by omega⟩
      case measure => simp [intOf]; omega
theorem Rn.rplace_any (k n : Int) (w : World) (hr : Rn.rt n = true) (hk : 0 ≤ k) (bk : k ≤ 9223372036854775807) : Calls Try.prog 9 #[.int .i64 k, .int .i64 n] w fun e w' => e = .returned (.int .i64 (Rn.pl k n)) ∧ w = w' := by
  rw [Rn.pl_yes hr hk]
  obtain ⟨n0, n1⟩ := Rn.pos hr
  have q0 : 0 ≤ k / n := Int.ediv_nonneg hk (by omega)
  have q1 : k / n ≤ k := Int.ediv_le_self _ hk
  have m0 : 0 ≤ k % n := Int.emod_nonneg _ (by omega)
  have m1 : k % n < n := Int.emod_lt_of_pos _ n0
  have hq : k.tdiv n = k / n := Int.tdiv_eq_ediv_of_nonneg hk
  have p1 : k / n * n ≤ k := by have := Int.emod_def k n; rw [Int.mul_comm] at this; omega
  have p0 : 0 ≤ k / n * n := Int.mul_nonneg q0 (by omega)
  have HE := Lib.hid (show k - k / n * n = k % n from by have := Int.emod_def k n; rw [Int.mul_comm] at this; omega)
  have nz : ¬ n = 0 := by omega
  clear hr
  go_enter Try.func9, Try.ntmps9
  go_wp2
  go_ret
  exact ⟨ret_int HE.out, rfl⟩
theorem Rn.rtake_any (p t d n : Int) (w : World) : Calls Try.prog 21 #[.int .i64 p, .int .i64 t, .int .i64 d, .int .i64 n] w fun e w' => e = .returned (.int .i64 (Rn.tk p t d n)) ∧ w = w' := by
  have HN := Lib.hid (Rn.rnew_any p t)
  have HR := Lib.hid (Rn.rroom_any t d n)
  have key : (Rn.rm t d n < Rn.nw p t ∧ Rn.tk p t d n = Rn.rm t d n) ∨ (¬ Rn.rm t d n < Rn.nw p t ∧ Rn.tk p t d n = Rn.nw p t) := by
    unfold Rn.tk
    by_cases h : Rn.rm t d n < Rn.nw p t
    · rw [if_pos h]; exact .inl ⟨h, rfl⟩
    · rw [if_neg h]; exact .inr ⟨h, rfl⟩
  generalize Rn.tk p t d n = z at *
  generalize Rn.nw p t = x at *
  generalize Rn.rm t d n = y at *
  rcases key with ⟨h1, e⟩ | ⟨h1, e⟩
  all_goals
    have E := Lib.hid e
    clear e
    go_enter Try.func21, Try.ntmps21
    go_wp2_with (first | (go_at_call 17; (with_reducible refine (HN.out _).mono ?_); rintro e w' ⟨rfl, rfl⟩) | (go_at_call 19; (with_reducible refine (HR.out _).mono ?_); rintro e w' ⟨rfl, rfl⟩))
    go_ret
    exact ⟨ret_int E.out.symm, rfl⟩
theorem Rn.live_any (w : World) : Calls Try.prog 11 #[] w fun e w' => e = .returned (.bool true) ∧ w = w' := by
  have HT := Lib.hid (show ∀ W, Calls Try.prog 20 #[.int .i64 1, .int .i64 254, .int .i64 254, .int .i64 4] W fun e w' => e = .returned (.int .i64 3) ∧ W = w' from fun W => by
    have := Rn.take_any 1 254 254 4 W
    rw [show Rn.tk 1 254 254 4 = 3 from by decide] at this
    exact this)
  have H1 := Lib.hid (show ∀ W, Calls Try.prog 12 #[.int .i64 255, .int .i64 4] W fun e w' => e = .returned (.int .i64 3) ∧ W = w' from fun W => by
    have := Rn.place_any 255 4 W (by decide)
    rw [show Rn.pl 255 4 = 3 from by decide] at this
    exact this)
  have H2 := Lib.hid (show ∀ W, Calls Try.prog 12 #[.int .i64 256, .int .i64 4] W fun e w' => e = .returned (.int .i64 0) ∧ W = w' from fun W => by
    have := Rn.place_any 256 4 W (by decide)
    rw [show Rn.pl 256 4 = 0 from by decide] at this
    exact this)
  have H3 := Lib.hid (show ∀ W, Calls Try.prog 13 #[.int .i64 16] W fun e w' => e = .returned (.int .i64 130) ∧ W = w' from fun W => by
    have := Rn.size_any 16 W
    rw [show Rn.sz 16 = 130 from by decide] at this
    exact this)
  go_enter Try.func11, Try.ntmps11
  go_wp2_with (first
    | (go_at_call 20; (with_reducible refine (HT.out _).mono ?_); rintro e w' ⟨rfl, rfl⟩)
    | (go_at_call 12; (with_reducible refine (H1.out _).mono ?_); rintro e w' ⟨rfl, rfl⟩)
    | (go_at_call 12; (with_reducible refine (H2.out _).mono ?_); rintro e w' ⟨rfl, rfl⟩)
    | (go_at_call 13; (with_reducible refine (H3.out _).mono ?_); rintro e w' ⟨rfl, rfl⟩))
  go_ret
  exact ⟨by first | rfl | simp, rfl⟩
end Go.Proofs.Ytkbjphapnbbakaa

/- The laws of ring: RingPlaces and RingTakes walked. -/
namespace Go.Proofs.Ytkbjphapnbbakaa
open Go.RowKit Go.Lib
set_option linter.unusedVariables false
set_option maxRecDepth 20000

theorem Rn.takes_walk (p t d n : Int) (w : World) (bp : fitI p) (bt : fitI t) (bd : fitI d) (bn : fitI n) : Calls Try.prog 4 #[.int .i64 p, .int .i64 t, .int .i64 d, .int .i64 n] w fun e w' => e = .returned (.bool true) ∧ Below w.heap.size w w' := by
  have HL := Lib.hid Rn.live_any
  have H1 := Lib.hid (Rn.new_any p t)
  have H2 := Lib.hid (Rn.rnew_any p t)
  have H3 := Lib.hid (Rn.room_any t d n)
  have H4 := Lib.hid (Rn.rroom_any t d n)
  have H5 := Lib.hid (Rn.take_any p t d n)
  have H6 := Lib.hid (Rn.rtake_any p t d n)
  clear bp bt bd bn
  generalize Rn.tk p t d n = z at *
  generalize Rn.nw p t = x at *
  generalize Rn.rm t d n = y at *
  go_enter Try.func4, Try.ntmps4
  go_wp2_with (first
    | (go_at_call 11; (with_reducible refine (HL.out _).mono ?_); rintro e w' ⟨rfl, rfl⟩)
    | (go_at_call 16; (with_reducible refine (H1.out _).mono ?_); rintro e w' ⟨rfl, rfl⟩)
    | (go_at_call 17; (with_reducible refine (H2.out _).mono ?_); rintro e w' ⟨rfl, rfl⟩)
    | (go_at_call 18; (with_reducible refine (H3.out _).mono ?_); rintro e w' ⟨rfl, rfl⟩)
    | (go_at_call 19; (with_reducible refine (H4.out _).mono ?_); rintro e w' ⟨rfl, rfl⟩)
    | (go_at_call 20; (with_reducible refine (H5.out _).mono ?_); rintro e w' ⟨rfl, rfl⟩)
    | (go_at_call 21; (with_reducible refine (H6.out _).mono ?_); rintro e w' ⟨rfl, rfl⟩))
  go_ret
  exact ⟨by first | rfl | simp, Below.refl _ _⟩
theorem Rn.places_walk (a k n : Int) (w : World) (ba : fitI a) (bk : fitI k) (bn : fitI n) : Calls Try.prog 3 #[.int .i64 a, .int .i64 k, .int .i64 n] w fun e w' => e = .returned (.bool true) ∧ Below w.heap.size w w' := by
  have HL := Lib.hid Rn.live_any
  have hA := fun W => Rn.addr_any a k n W bk.2
  have hP := fun W => Rn.place_any k n W bk.2
  have hS := Rn.size_any n
  have hU := Rn.put_any a
  have hD := Rn.done_any a
  have hr1 := Rn.right_any n
  have hr2 := Rn.rright_any n
  have hst : (a < 0 ∧ Rn.st a = 0) ∨ (1024 < a ∧ ¬ a ≤ 1024 ∧ 0 ≤ a ∧ Rn.st a = 1024) ∨ (0 ≤ a ∧ a ≤ 1024 ∧ Rn.st a = a) := by
    unfold Rn.st
    by_cases h0 : a < 0
    · rw [if_pos h0]; exact .inl ⟨h0, rfl⟩
    · rw [if_neg h0]
      by_cases h1 : 1024 < a
      · rw [if_pos h1]; exact .inr (.inl ⟨h1, by omega, by omega, rfl⟩)
      · rw [if_neg h1]; exact .inr (.inr ⟨by omega, by omega, rfl⟩)
  by_cases hr : Rn.rt n = true
  · obtain ⟨n0, n1⟩ := Rn.pos hr
    have es : Rn.sz n = 2 + 8 * n := by unfold Rn.sz; rw [if_pos hr]
    rw [es] at hS
    rw [hr] at hr1 hr2
    have HR1 := Lib.hid hr1
    have HR2 := Lib.hid hr2
    have HS := Lib.hid hS
    by_cases hk : 0 ≤ k
    · have hRP := fun W => Rn.rplace_any k n W hr hk bk.2
      obtain ⟨p0, p1⟩ := Rn.pl_in k n
      have p2 : Rn.pl k n < n := by rw [Rn.pl_yes hr hk]; exact Int.emod_lt_of_pos _ n0
      have HRP := Lib.hid hRP
      have HP := Lib.hid hP
      clear hRP hP hr1 hr2 hS es hr
      generalize Rn.pl k n = q at *
      rcases hst with ⟨s0, e⟩ | ⟨s0, s1, s2, e⟩ | ⟨s0, s1, e⟩
      all_goals
        rw [e] at hA hU hD
        have HA := Lib.hid hA
        have HU := Lib.hid hU
        have HD := Lib.hid hD
        clear hA hU hD e ba bk bn
        go_enter Try.func3, Try.ntmps3
        go_wp2_with (first
          | (go_at_call 11; (with_reducible refine (HL.out _).mono ?_); rintro e w' ⟨rfl, rfl⟩)
          | (go_at_call 7; (with_reducible refine (HR2.out _).mono ?_); rintro e w' ⟨rfl, rfl⟩)
          | (go_at_call 8; (with_reducible refine (HR1.out _).mono ?_); rintro e w' ⟨rfl, rfl⟩)
          | (go_at_call 9; (with_reducible refine (HRP.out _).mono ?_); rintro e w' ⟨rfl, rfl⟩)
          | (go_at_call 12; (with_reducible refine (HP.out _).mono ?_); rintro e w' ⟨rfl, rfl⟩)
          | (go_at_call 13; (with_reducible refine (HS.out _).mono ?_); rintro e w' ⟨rfl, rfl⟩)
          | (go_at_call 10; (with_reducible refine (HA.out _).mono ?_); rintro e w' ⟨rfl, rfl⟩)
          | (go_at_call 14; (with_reducible refine (HU.out _).mono ?_); rintro e w' ⟨rfl, rfl⟩)
          | (go_at_call 15; (with_reducible refine (HD.out _).mono ?_); rintro e w' ⟨rfl, rfl⟩))
        go_ret
        exact ⟨by first | rfl | (simp; done) | (simp; omega), Below.refl _ _⟩
    · have e0 : Rn.pl k n = 0 := Rn.pl_no (.inr (by omega))
      have HP := Lib.hid hP
      rw [e0] at hA HP
      clear hP hr1 hr2 hS es hr
      rcases hst with ⟨s0, e⟩ | ⟨s0, s1, s2, e⟩ | ⟨s0, s1, e⟩
      all_goals
        rw [e] at hA hU hD
        have HA := Lib.hid hA
        have HU := Lib.hid hU
        have HD := Lib.hid hD
        clear hA hU hD e ba bk bn e0
        go_enter Try.func3, Try.ntmps3
        go_wp2_with (first
          | (go_at_call 11; (with_reducible refine (HL.out _).mono ?_); rintro e w' ⟨rfl, rfl⟩)
          | (go_at_call 7; (with_reducible refine (HR2.out _).mono ?_); rintro e w' ⟨rfl, rfl⟩)
          | (go_at_call 8; (with_reducible refine (HR1.out _).mono ?_); rintro e w' ⟨rfl, rfl⟩)
          | (go_at_call 12; (with_reducible refine (HP.out _).mono ?_); rintro e w' ⟨rfl, rfl⟩)
          | (go_at_call 13; (with_reducible refine (HS.out _).mono ?_); rintro e w' ⟨rfl, rfl⟩)
          | (go_at_call 10; (with_reducible refine (HA.out _).mono ?_); rintro e w' ⟨rfl, rfl⟩)
          | (go_at_call 14; (with_reducible refine (HU.out _).mono ?_); rintro e w' ⟨rfl, rfl⟩)
          | (go_at_call 15; (with_reducible refine (HD.out _).mono ?_); rintro e w' ⟨rfl, rfl⟩))
        go_ret
        exact ⟨by first | rfl | (simp; done) | (simp; omega), Below.refl _ _⟩
  · have hf : Rn.rt n = false := by simpa using hr
    have es : Rn.sz n = 0 := by unfold Rn.sz; rw [hf]; rfl
    have e0 : Rn.pl k n = 0 := Rn.pl_no (.inl hf)
    rw [es] at hS
    rw [hf] at hr1 hr2
    rw [e0] at hA hP
    have HP := Lib.hid hP
    have HR1 := Lib.hid hr1
    have HR2 := Lib.hid hr2
    have HS := Lib.hid hS
    clear hP hr1 hr2 hS es hr hf
    rcases hst with ⟨s0, e⟩ | ⟨s0, s1, s2, e⟩ | ⟨s0, s1, e⟩
    all_goals
      rw [e] at hA hU hD
      have HA := Lib.hid hA
      have HU := Lib.hid hU
      have HD := Lib.hid hD
      clear hA hU hD e ba bk bn e0
      go_enter Try.func3, Try.ntmps3
      go_wp2_with (first
        | (go_at_call 11; (with_reducible refine (HL.out _).mono ?_); rintro e w' ⟨rfl, rfl⟩)
        | (go_at_call 7; (with_reducible refine (HR2.out _).mono ?_); rintro e w' ⟨rfl, rfl⟩)
        | (go_at_call 8; (with_reducible refine (HR1.out _).mono ?_); rintro e w' ⟨rfl, rfl⟩)
        | (go_at_call 12; (with_reducible refine (HP.out _).mono ?_); rintro e w' ⟨rfl, rfl⟩)
        | (go_at_call 13; (with_reducible refine (HS.out _).mono ?_); rintro e w' ⟨rfl, rfl⟩)
        | (go_at_call 10; (with_reducible refine (HA.out _).mono ?_); rintro e w' ⟨rfl, rfl⟩)
        | (go_at_call 14; (with_reducible refine (HU.out _).mono ?_); rintro e w' ⟨rfl, rfl⟩)
        | (go_at_call 15; (with_reducible refine (HD.out _).mono ?_); rintro e w' ⟨rfl, rfl⟩))
      go_ret
      exact ⟨by first | rfl | (simp; done) | (simp; omega), Below.refl _ _⟩
end Go.Proofs.Ytkbjphapnbbakaa

/- RingTakes: how many are new, how many may be taken, and how many are, is the document's: for every four numbers the law returns true. No condition. -/
namespace Go.Proofs.Ytkbjphapnbbakaa
open Go.RowKit Go.Lib Go.ChangeShapes Go.WideShapes Go.ChangeAt Go.Deep Go.Joins
open Go.ChangeMaps (open_string shut_string)
set_option linter.unusedVariables false

theorem ringTakes_own : ownKnob Try.prog.godebug = none := by kernel_rfl
theorem ringTakes_laid : laidOutB Try.prog = true := by kernel_rfl
set_option maxRecDepth 100000 in
theorem ringTakes_lifted (os : Os) (started : os.Started) (H : Type) (enc : TypeId × Value → H) :
    ReturnsInHanded {} Try.checked os 4 .any (Rows.ringTakesSpec.pre6 enc Try.prog Try.f4 Rows.ringTakesRow.domain false) (Rows.ringTakesSpec.post enc Try.prog Try.f4 false true false false) := by
  refine returnsInHanded_of_change (C := Try.checked) ringTakes_own started (by kernel_rfl) Try.func4
    (ChangeSpec.witness6 (enc := enc) (C := Try.checked) false ⟨#[], #[.int .i64 0, .int .i64 0, .int .i64 0, .int .i64 0], []⟩ 8 (by kernel_rfl) (by kernel_rfl) (by kernel_rfl) (by kernel_rfl)) ?_
  intro W base args ds gs before hval0 hW hcnd _
  have hval : ∀ (j : Nat) t v, Try.f4.params[j]? = some t → args[j]? = some v → Value.okWide Try.prog W .any base t v := hval0
  have hW' := hW
  obtain ⟨p, q, hA0, hV, rfl, hfz, hnd⟩ := hW
  have hA : DataW.TrodAll enc Try.prog W 0 (fun _ => true) true Try.f4.params.toList args.toList ds p := hA0
  rw [Try.params4] at hA hval
  obtain ⟨v0, vs0, d0, ds0, p0, q0, hargs, rfl, rfl, h0, r0⟩ := trodAll_cons hA
  obtain ⟨v1, vs1, d1, ds1, p1, q1, rfl, rfl, rfl, h1, r1⟩ := trodAll_cons r0
  obtain ⟨v2, vs2, d2, ds2, p2, q2, rfl, rfl, rfl, h2, r2⟩ := trodAll_cons r1
  obtain ⟨v3, vs3, d3, ds3, p3, q3, rfl, rfl, rfl, h3, r3⟩ := trodAll_cons r2
  obtain ⟨rfl, rfl, rfl⟩ := trodAll_nil r3
  obtain rfl : args = #[v0, v1, v2, v3] := by cases args; simp_all
  obtain ⟨rfl, rfl⟩ := trodVars_none hV
  obtain ⟨a0, rfl, rfl, rfl, w0⟩ := open_int Try.underlying3 (hval 0 3 v0 rfl rfl) h0
  obtain ⟨a1, rfl, rfl, rfl, w1⟩ := open_int Try.underlying3 (hval 1 3 v1 rfl rfl) h1
  obtain ⟨a2, rfl, rfl, rfl, w2⟩ := open_int Try.underlying3 (hval 2 3 v2 rfl rfl) h2
  obtain ⟨a3, rfl, rfl, rfl, w3⟩ := open_int Try.underlying3 (hval 3 3 v3 rfl rfl) h3
  clear hA0 hval0
  refine (Rn.takes_walk a0 a1 a2 a3 W (fitI_of w0) (fitI_of w1) (fitI_of w2) (fitI_of w3)).mono fun e W' ⟨he, bel⟩ => ?_
  subst he
  exact ⟨_, rfl, _, _, _, [], _, [], hW', trodAll_mk1 (shut_bool Try.underlying4 _), (trodAll_cons_mk (shut_int Try.underlying3 w0) (trodAll_cons_mk (shut_int Try.underlying3 w1) (trodAll_cons_mk (shut_int Try.underlying3 w2) (trodAll_cons_mk (shut_int Try.underlying3 w3) trodAll_mk0)))), rfl, bel.frame _, fun h => by cases h⟩

theorem ringTakes_holds : Rows.RingTakesSaid :=
  OpenClaim.holds_of_wide 4 Try.f4 rfl rfl rfl rfl rfl rfl rfl ⟨rfl, rfl, rfl, rfl, rfl⟩ rfl rfl rfl rfl rfl (by kernel_rfl) Try.func4 (by kernel_rfl)
    (of_decide_eq_true (by kernel_rfl)) (by unfold Func.isWrapper; first | (rw [if_pos (by decide +kernel)]; kernel_rfl) | (rw [if_neg (by decide +kernel)]; exact ⟨rfl, rfl⟩))
    (fun os started H enc _ => ringTakes_lifted os started H enc)
#print axioms ringTakes_holds
end Go.Proofs.Ytkbjphapnbbakaa
