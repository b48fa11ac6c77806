import Derived.WalkKit
import Derived.Deep.Draws
import Derived.Deep.QuietTactic
import Derived.Test.YtldhggaghhjebaaRows
import Derived.ProofKit
import Derived.OpenShut
import Derived.WalkLawsBesides
import Derived.WalkSpells
import Derived.BigQuiet
import Derived.Lib.BitFns
import Derived.Lib.Hide
import Derived.Deep.Cut
set_option linter.all false
/- Plain facts on bits and bytes, for the laws of package bits: no program is spoken of here. -/
namespace Go.Proofs.Ytldhggaghhjebaa.Bt
open Go.RowKit

theorem and255 (n : Int) : bits .and .i64 n 255 = n % 256 := by
  show IntKind.i64.wrap ((BitVec.ofInt 64 n &&& BitVec.ofInt 64 255).toNat : Int) = _
  have h : (BitVec.ofInt 64 (255 : Int)).toNat = 2 ^ 8 - 1 := by decide
  rw [BitVec.toNat_and, h, Nat.and_two_pow_sub_one_eq_mod, BitVec.toNat_ofInt, IntKind.wrap_i64]
  omega

theorem and255u (n : Int) (h0 : 0 ≤ n) (h1 : n < 65536) : bits .and .u16 n 255 = n % 256 := by
  obtain ⟨a, rfl⟩ := Int.eq_ofNat_of_zero_le h0
  have h : (255 : Int) = ((255 : Nat) : Int) := rfl
  rw [h, u16_and_nat a 255 (by omega) (by decide), show (255 : Nat) = 2 ^ 8 - 1 from rfl, Nat.and_two_pow_sub_one_eq_mod]
  omega

theorem or256 (a b : Int) (ha : 0 ≤ a) (ha1 : a < 256) (hb : 0 ≤ b) (hb1 : b < 256) : bits .or .i64 a (b * 256) = a + 256 * b := by
  obtain ⟨x, rfl⟩ := Int.eq_ofNat_of_zero_le ha
  obtain ⟨y, rfl⟩ := Int.eq_ofNat_of_zero_le hb
  have hy : ((y : Int) * 256) = ((2 ^ 8 * y : Nat) : Int) := by omega
  have k1 : (BitVec.ofInt 64 (x : Int)).toNat = x := by rw [BitVec.ofInt_natCast, BitVec.toNat_ofNat]; omega
  have k2 : (BitVec.ofInt 64 ((2 ^ 8 * y : Nat) : Int)).toNat = 2 ^ 8 * y := by rw [BitVec.ofInt_natCast, BitVec.toNat_ofNat]; omega
  show IntKind.i64.wrap ((BitVec.ofInt 64 (x : Int) ||| BitVec.ofInt 64 ((y : Int) * 256)).toNat : Int) = _
  rw [hy, BitVec.toNat_or, k1, k2, Nat.or_comm, ← Nat.two_pow_add_eq_or_of_lt (by omega) y, IntKind.wrap_i64]
  omega

/-- A number's two bytes. -/
def put (n : Int) : ByteArray := ⟨#[UInt8.ofNat (n % 256).toNat, UInt8.ofNat (n / 256 % 256).toNat]⟩

/-- How many bits of a number are 1. -/
def ones : Nat → Nat → Nat
  | 0, _ => 0
  | f + 1, k => if k = 0 then 0 else ones f (k / 2) + k % 2

theorem ones_zero (f : Nat) : ones f 0 = 0 := by cases f <;> simp [ones]

theorem ones_join (g f hi lo : Nat) (hl : lo < 2 ^ g) (hh : hi < 2 ^ f) : ones (f + g) (hi * 2 ^ g + lo) = ones f hi + ones g lo := by
  induction g generalizing lo with
  | zero => obtain rfl : lo = 0 := by omega
            simp [ones]
  | succ g ih =>
    have hp : hi * 2 ^ (g + 1) = 2 * (hi * 2 ^ g) := by rw [Nat.pow_succ, ← Nat.mul_assoc, Nat.mul_comm]
    have e1 : (hi * 2 ^ (g + 1) + lo) / 2 = hi * 2 ^ g + lo / 2 := by omega
    have e2 : (hi * 2 ^ (g + 1) + lo) % 2 = lo % 2 := by omega
    have hl2 : lo / 2 < 2 ^ g := by rw [Nat.pow_succ] at hl; omega
    have k := ih (lo / 2) hl2
    show ones (f + g + 1) (hi * 2 ^ (g + 1) + lo) = _
    rw [ones, e1, e2, k]
    by_cases h0 : hi * 2 ^ (g + 1) + lo = 0
    · rw [if_pos h0]
      have hlo : lo = 0 := by omega
      have hhi : hi = 0 := by
        rcases Nat.eq_zero_or_pos hi with h | h
        · exact h
        · have := Nat.mul_pos h (Nat.two_pow_pos (g + 1)); omega
      subst hlo hhi
      simp [ones_zero]
    · rw [if_neg h0]
      by_cases hlo : lo = 0
      · subst hlo; simp [ones_zero]
      · rw [show ones (g + 1) lo = ones g (lo / 2) + lo % 2 from by rw [ones, if_neg hlo]]
        omega

theorem ones_16 (k : Nat) (h : k < 65536) : ones 16 k = ones 8 (k / 256) + ones 8 (k % 256) := by
  have := ones_join 8 8 (k / 256) (k % 256) (by omega) (by omega)
  rw [← this]
  congr 1
  omega

theorem ones_le (f k : Nat) : ones f k ≤ f := by
  induction f generalizing k with
  | zero => simp [ones]
  | succ f ih =>
    rw [ones]
    split
    · omega
    · have := ih (k / 2); omega

#print axioms ones_16

/-- What a number leaves of another one, from 0 on, as1 the text reckons it. -/
theorem rest_of (n m : Int) (hm : 0 < m) : (if n.tmod m < 0 then n.tmod m + m else n.tmod m) = n % m := by
  have h1 := @Int.tmod_eq_emod n m
  have h2 := Int.emod_nonneg n (Int.ne_of_gt hm)
  have h3 := Int.emod_lt_of_pos n hm
  have h4 : (m.natAbs : Int) = m := Int.natAbs_of_nonneg (Int.le_of_lt hm)
  rw [h1]
  split <;> split <;> omega

end Go.Proofs.Ytldhggaghhjebaa.Bt

/- Words for memory: a block that is known whole; only one block was written. -/
namespace Go.Proofs.Ytldhggaghhjebaa
open Go.RowKit

/-- Block g holds just the cells cs, of element type t, and none of them is frozen. -/
def Blk (w : World) (g : Nat) (t : TypeId) (cs : Array Value) : Prop := w.heap[g]? = some (.cells cs t (0, 0))

section
variable {w w' : World} {g : Nat} {t : TypeId} {cs : Array Value}
theorem Blk.lt (h : Blk w g t cs) : g < w.heap.size := lt_of_block h
theorem Blk.cell (h : Blk w g t cs) (i : Nat) : w.cell? ⟨g, i, none⟩ = cs[i]? := by
  have h' : w.heap[g]? = some (.cells cs t (0, 0)) := h
  simp [World.cell?, h']
theorem Blk.free (h : Blk w g t cs) (i : Nat) : w.frozen? ⟨g, i, none⟩ = false := by
  have h' : w.heap[g]? = some (.cells cs t (0, 0)) := h
  simp [World.frozen?, h']
theorem Blk.new (w : World) (t : TypeId) (cs : Array Value) : Blk (w.alloc (.cells cs t)) w.heap.size t cs := by
  show (w.heap.push _)[w.heap.size]? = _
  simp
theorem Blk.drewN (h : Blk w g t cs) (n : Nat) : Blk (w.drewN n) g t cs := h
theorem Blk.alloc (h : Blk w g t cs) (o : Obj) : Blk (w.alloc o) g t cs := (Below.heap_alloc w o g h.lt).trans h
theorem Blk.put (h : Blk w g t cs) (i : Nat) (u : Value) : Blk (w.setCell ⟨g, i, none⟩ u) g t (cs.setIfInBounds i u) := by
  have h' : w.heap[g]? = some (.cells cs t (0, 0)) := h
  show (World.setCell w ⟨g, i, none⟩ u).heap[g]? = _
  simp [World.setCell, Array.getElem?_modify, h']
theorem Blk.far (h : Blk w g t cs) {p : Addr} (hp : g ≠ p.block) (u : Value) : Blk (w.setCell p u) g t cs := (Below.heap_setCell w p u g hp).trans h
theorem Blk.below {B : Nat} (h : Blk w g t cs) (hb : Below B w w') (hg : g < B) : Blk w' g t cs := (hb.block g hg).trans h
theorem Blk.only {row : Option Nat} (h : Blk w g t cs) (hb : w.grownBy w' row) (hg : some g ≠ row) : Blk w' g t cs := (hb.block g h.lt hg).trans h
theorem Blk.differ {g' : Nat} {t' : TypeId} {cs' : Array Value} (h : Blk w g t cs) (h' : Blk w g' t' cs') (hne : t ≠ t') : g ≠ g' := by
  rintro rfl
  have h1 : w.heap[g]? = some (.cells cs t (0, 0)) := h
  have h2 : w.heap[g]? = some (.cells cs' t' (0, 0)) := h'
  rw [h1] at h2
  injection h2 with h3
  injection h3 with _ h4
  exact hne h4
end

section
variable {a b c w : World} {row : Option Nat}
theorem only_refl (w : World) (row : Option Nat) : w.grownBy w row := ⟨rfl, rfl, rfl, Nat.le_refl _, fun _ _ _ => rfl⟩
theorem only_trans (h : a.grownBy b row) (k : b.grownBy c row) : a.grownBy c row :=
  ⟨k.os.trans h.os, k.tape.trans h.tape, k.output.trans h.output, Nat.le_trans h.size k.size, fun i hi hne => (k.block i (Nat.lt_of_lt_of_le hi h.size) hne).trans (h.block i hi hne)⟩
theorem only_drewN (h : a.grownBy w row) (n : Nat) : a.grownBy (w.drewN n) row := ⟨h.os, h.tape, h.output, h.size, h.block⟩
theorem only_alloc (h : a.grownBy w row) (o : Obj) : a.grownBy (w.alloc o) row :=
  ⟨h.os, h.tape, h.output, Nat.le_trans h.size (by simp), fun i hi hne => (Below.heap_alloc w o i (Nat.lt_of_lt_of_le hi h.size)).trans (h.block i hi hne)⟩
theorem only_put {g : Nat} (h : a.grownBy w (some g)) (i : Nat) (u : Value) : a.grownBy (w.setCell ⟨g, i, none⟩ u) (some g) :=
  ⟨h.os, h.tape, h.output, by simpa [World.setCell] using h.size, fun i hi hne => (Below.heap_setCell w _ u i (by
    rintro rfl
    exact hne rfl)).trans (h.block i hi hne)⟩
theorem only_any (h : a.grownBy w none) (row : Option Nat) : a.grownBy w row := ⟨h.os, h.tape, h.output, h.size, fun i hi hne => h.block i hi (by simp)⟩
theorem below_of_only {B : Nat} (h : a.grownBy w row) (hB : B ≤ a.heap.size) (hr : ∀ k, row = some k → B ≤ k) : Below B a w :=
  ⟨h.os, h.tape, h.output, h.size, fun k hk => h.block k (Nat.lt_of_lt_of_le hk hB) (fun e => by have := hr k e.symm; omega)⟩
theorem below_drewN {B : Nat} (h : Below B a w) (n : Nat) : Below B a (w.drewN n) := ⟨h.os, h.tape, h.output, h.size, h.block⟩
end

/-- A callee that leaves the world as1 it is, met in a region that draws. -/
theorem quiet_same {P : Program} {f : FuncId} {args : Array Value} {w : World} {n : Nat} {v : Value} (h : Calls P f args (w.drewN n) fun e w' => e = .returned v ∧ w.drewN n = w') : Calls P f args (w.drewN n) fun e w'' => e = .returned v ∧ ∃ m, w'' = w.drewN m :=
  h.mono fun _ _ ⟨he, hm⟩ => ⟨he, n, hm.symm⟩
theorem quiet_draws {P : Program} {f : FuncId} {args : Array Value} {w : World} {n : Nat} {v : Value} (h : Calls P f args (w.drewN n) fun e w' => e = .returned v ∧ ∃ q, (w.drewN n).drewN q = w') : Calls P f args (w.drewN n) fun e w'' => e = .returned v ∧ ∃ m, w'' = w.drewN m :=
  h.mono fun _ _ ⟨he, q, hm⟩ => ⟨he, n + q, by rw [← hm, World.drewN_drewN]⟩
theorem quiet_same2 {P : Program} {f : FuncId} {args : Array Value} {w : World} {a n : Nat} {v : Value} (h : Calls P f args (w.drewN (a + n)) fun e w' => e = .returned v ∧ w.drewN (a + n) = w') : Calls P f args (w.drewN (a + n)) fun e w'' => e = .returned v ∧ ∃ m, w'' = w.drewN (a + m) :=
  h.mono fun _ _ ⟨he, hm⟩ => ⟨he, n, hm.symm⟩
theorem quiet_draws2 {P : Program} {f : FuncId} {args : Array Value} {w : World} {a n : Nat} {v : Value} (h : Calls P f args (w.drewN (a + n)) fun e w' => e = .returned v ∧ ∃ q, (w.drewN (a + n)).drewN q = w') : Calls P f args (w.drewN (a + n)) fun e w'' => e = .returned v ∧ ∃ m, w'' = w.drewN (a + m) :=
  h.mono fun _ _ ⟨he, q, hm⟩ => ⟨he, n + q, by rw [← hm, World.drewN_drewN, Nat.add_assoc]⟩
theorem w64_byte (x : UInt8) : wrap64 (x.toNat : Int) = (x.toNat : Int) := by
  have := x.toNat_lt
  exact IntWalk.wrap64_in _ ⟨by omega, by omega⟩

/-- An owned row of other elements lies in another block. -/
theorem own_ne {w : World} {base : Nat} {e t : TypeId} {size n g : Nat} {v : Value} {xs : List Value} {cs : Array Value} (h : w.ownsRow base e size v n xs) (hg : Blk w g t cs) (hne : e ≠ t) : v.ownBlock ≠ some g := by
  rcases h.2 with ⟨rfl, _⟩ | ⟨g', cap, cur, rfl, _, hh, _⟩
  · simp [Value.ownBlock]
  · intro he
    have e1 : g' = g := by simpa [Value.ownBlock] using he
    subst e1
    have h' : Blk w g' e cur := hh
    exact h'.differ hg hne rfl

theorem own_form {w : World} {base : Nat} {e : TypeId} {size n : Nat} {v : Value} {xs : List Value} (h : w.ownsRow base e size v n xs) : ∃ A c, v = .slice A n c := by
  rcases h.2 with ⟨rfl, rfl⟩ | ⟨g', cap, cur, rfl, _⟩
  · exact ⟨_, _, rfl⟩
  · exact ⟨_, _, rfl⟩

theorem ret_int {k : IntKind} {a b : Int} (h : a = b) : Ending.returned (.int k a) = .returned (.int k b) := by rw [h]
end Go.Proofs.Ytldhggaghhjebaa

/- The functions of package bits, and of the document's answers for it, that only reckon: each by its contract. -/
namespace Go.Proofs.Ytldhggaghhjebaa
open Go.RowKit Go.Lib
set_option linter.unusedVariables false

theorem low_any (n : Int) (w : World) : Calls Try.prog 29 #[.int .i64 n] w fun e w' => e = .returned (.int .i64 (n % 256)) ∧ w = w' := by
  go_enter Try.func29, Try.ntmps29
  go_wp2
  go_ret
  exact ⟨by simp [Bt.and255], rfl⟩

theorem high_any (n : Int) (w : World) : Calls Try.prog 31 #[.int .i64 n] w fun e w' => e = .returned (.int .i64 (n / 256 % 256)) ∧ w = w' := by
  go_enter Try.func31, Try.ntmps31
  go_wp2
  go_ret
  exact ⟨by simp [Bt.and255], rfl⟩

theorem rest_any (n m : Int) (w : World) (h : 0 < m) (h' : m ≤ 65536) : Calls Try.prog 32 #[.int .i64 n, .int .i64 m] w fun e w' => e = .returned (.int .i64 (n % m)) ∧ w = w' := by
  have hr := Bt.rest_of n m h
  have hlo : -65536 < n.tmod m := by have := Int.lt_tmod_of_pos n h; omega
  by_cases hn : n.tmod m < 0
  · rw [if_pos hn] at hr
    go_enter Try.func32, Try.ntmps32
    go_wp2
    go_ret
    exact ⟨by simp, rfl⟩
  · rw [if_neg hn] at hr
    go_enter Try.func32, Try.ntmps32
    go_wp2
    go_ret
    exact ⟨by simp, rfl⟩

theorem rlow_any (n : Int) (w : World) : Calls Try.prog 13 #[.int .i64 n] w fun e w' => e = .returned (.int .i64 (n % 256)) ∧ w = w' := by
  go_enter Try.func13, Try.ntmps13
  go_wp2_with (go_at_call 32; refine (rest_any _ _ _ (by omega) (by omega)).mono ?_; rintro e w' ⟨rfl, rfl⟩)
  go_ret
  exact ⟨rfl, rfl⟩

theorem rhigh_any (n : Int) (w : World) : Calls Try.prog 14 #[.int .i64 n] w fun e w' => e = .returned (.int .i64 (n / 256 % 256)) ∧ w = w' := by
  have hb : 0 ≤ n % 65536 := by omega
  have hs : n % 65536 / 256 = n / 256 % 256 := by omega
  have HS := Lib.hid hs
  clear hs
  go_enter Try.func14, Try.ntmps14
  go_wp2_with (go_at_call 32; refine (rest_any _ _ _ (by omega) (by omega)).mono ?_; rintro e w' ⟨rfl, rfl⟩)
  go_ret
  exact ⟨by simp [HS.out], rfl⟩

theorem two_any (n m : Int) (w : World)  : Calls Try.prog 30 #[.int .i64 n, .int .i64 m] w fun e w' => e = .returned (.int .i64 (n % 256 + 256 * (m % 256))) ∧ w = w' := by
  have b1 : 0 ≤ n % 256 := by omega
  have b2 : n % 256 < 256 := by omega
  have b3 : 0 ≤ m % 256 := by omega
  have b4 : m % 256 < 256 := by omega
  go_enter Try.func30, Try.ntmps30
  go_wp2_with (go_at_call 29; refine (low_any _ _).mono ?_; rintro e w' ⟨rfl, rfl⟩)
  go_ret
  exact ⟨by simp [Bt.or256 _ _ b1 b2 b3 b4], rfl⟩

theorem pop8_ones : ∀ n : Fin 256, pop8 (n.val : Int) = (Bt.ones 8 n.val : Int) := by decide +kernel
theorem pop8_is (b : Int) (h0 : 0 ≤ b) (h1 : b ≤ 255) : pop8 b = (Bt.ones 8 b.toNat : Int) := by
  have e := pop8_ones ⟨b.toNat, by omega⟩
  simp only [Int.toNat_of_nonneg h0] at e
  exact e

theorem run_two_bytes (x y : Int) (W : World) : (convert 43 9 (.slice (some ⟨W.heap.size, 0, none⟩) 2 2)).run Try.prog (W.alloc (.cells #[.int .u8 x, .int .u8 y] 5)) =
    .ok (.string ⟨#[UInt8.ofNat x.toNat, UInt8.ofNat y.toNat]⟩) (W.alloc (.cells #[.int .u8 x, .int .u8 y] 5)) := by
  have h := run_convert_bytes_arg (P := Try.prog) (W.alloc (.cells #[.int .u8 x, .int .u8 y] 5)) 43 5 Try.underlying43 Try.underlying5 W.heap.size 0 2 2 [x, y] rfl (by
    intro i hi
    match i, hi with
    | 0, _ => simp
    | 1, _ => simp) 9 Try.underlying9
  rw [h]
  congr 2

theorem put_any (n : Int) (w : World) : Calls Try.prog 37 #[.int .i64 n] w fun e w' => e = .returned (.string (Bt.put n)) ∧ w.alloc (.cells #[.int .u8 (n % 256), .int .u8 (n / 256 % 256)] 5) = w' := by
  have hk := run_two_bytes (n % 256) (n / 256 % 256) w
  go_enter Try.func37, Try.ntmps37
  go_wp2_with (first | (go_at_call 29; refine (low_any _ _).mono ?_; rintro e w' ⟨rfl, rfl⟩) | (go_at_call 31; refine (high_any _ _).mono ?_; rintro e w' ⟨rfl, rfl⟩))
  go_ret
  exact ⟨rfl, rfl⟩

theorem rput_any (n : Int) (w : World) : Calls Try.prog 23 #[.int .i64 n] w fun e w' => e = .returned (.string (Bt.put n)) ∧ w.alloc (.cells #[.int .u8 (n % 256), .int .u8 (n / 256 % 256)] 5) = w' := by
  have hk := run_two_bytes (n % 256) (n / 256 % 256) w
  go_enter Try.func23, Try.ntmps23
  go_wp2_with (first | (go_at_call 13; refine (rlow_any _ _).mono ?_; rintro e w' ⟨rfl, rfl⟩) | (go_at_call 14; refine (rhigh_any _ _).mono ?_; rintro e w' ⟨rfl, rfl⟩))
  go_ret
  exact ⟨rfl, rfl⟩

theorem new_any (s : ByteArray) (w : World) : Calls Try.prog 24 #[.string s] w fun e w' => e = .returned (.pointer (some ⟨w.heap.size, 0, none⟩)) ∧ w.alloc (.cells #[.int .i64 0, .string s, .int .i64 0] 63) = w' := by
  go_enter Try.func24, Try.ntmps24
  go_wp2
  go_ret
  exact ⟨rfl, rfl⟩
end Go.Proofs.Ytldhggaghhjebaa

/- Package desc: what a descriptor needs, and what is wrong with it, by contract; the document's answer for it. -/
namespace Go.Proofs.Ytldhggaghhjebaa
open Go.RowKit Go.Lib
set_option linter.unusedVariables false
set_option maxRecDepth 8000

def De.need (k : Nat) : Int := if k = 1 ∨ k = 2 ∨ k = 4 then 1 else if k = 3 then 2 else if k = 5 ∨ k = 6 then 3 else 0
def De.whole (n : Int) : Bool := decide (n ≠ 0 ∧ n % 16 = 0)
def De.within (f n s : Int) : Bool := decide (0 ≤ f ∧ f ≤ s ∧ n ≤ s - f)
/-- What is wrong with a descriptor. -/
def De.chk (k : Nat) (a l g sz sc : Int) : Int :=
  if De.need k = 0 then 3 else if De.need k = 3 ∧ De.whole l = false then 3 else if l < 0 ∨ 32 < l then 4 else if De.within a l sz = false then 6
  else if De.need k = 3 ∧ De.within g (l / 16) sc = false then 6 else if De.need k = 2 ∧ (g < 0 ∨ 255 < g) then 2 else 0
theorem De.need_in (k : Nat) : De.need k = 0 ∨ De.need k = 1 ∨ De.need k = 2 ∨ De.need k = 3 := by unfold De.need; split <;> (try split) <;> (try split) <;> omega
theorem De.need_0 {k : Nat} : De.need k = 0 ↔ k = 0 ∨ 6 < k := by unfold De.need; split <;> (try split) <;> (try split) <;> omega
theorem De.need_1 {k : Nat} : De.need k = 1 ↔ k = 1 ∨ k = 2 ∨ k = 4 := by unfold De.need; split <;> (try split) <;> (try split) <;> omega
theorem De.need_2 {k : Nat} : De.need k = 2 ↔ k = 3 := by unfold De.need; split <;> (try split) <;> (try split) <;> omega
theorem De.need_3 {k : Nat} : De.need k = 3 ↔ k = 5 ∨ k = 6 := by unfold De.need; split <;> (try split) <;> (try split) <;> omega
theorem De.few {k : Nat} : k = 0 ∨ k = 1 ∨ k = 2 ∨ k = 3 ∨ k = 4 ∨ k = 5 ∨ k = 6 ∨ (7 ≤ k ∧ ((k : Int) == 1) = false ∧ ((k : Int) == 2) = false ∧ ((k : Int) == 3) = false ∧ ((k : Int) == 4) = false ∧ ((k : Int) == 5) = false ∧ ((k : Int) == 6) = false) := by
  by_cases h : 7 ≤ k
  · refine .inr (.inr (.inr (.inr (.inr (.inr (.inr ⟨h, ?_⟩))))))
    refine ⟨?_, ?_, ?_, ?_, ?_, ?_⟩ <;> simp <;> omega
  · omega
theorem De.needs_any (k : Nat) (w : World) (hk : k < 256) : Calls Try.prog 33 #[.int .u8 k] w fun e w' => e = .returned (.int .i64 (De.need k)) ∧ w = w' := by
  rcases De.few (k := k) with rfl | rfl | rfl | rfl | rfl | rfl | rfl | ⟨h, c1, c2, c3, c4, c5, c6⟩
  · go_enter Try.func33, Try.ntmps33
    go_wp2
    go_ret
    exact ⟨rfl, rfl⟩
  · go_enter Try.func33, Try.ntmps33
    go_wp2
    go_ret
    exact ⟨rfl, rfl⟩
  · go_enter Try.func33, Try.ntmps33
    go_wp2
    go_ret
    exact ⟨rfl, rfl⟩
  · go_enter Try.func33, Try.ntmps33
    go_wp2
    go_ret
    exact ⟨rfl, rfl⟩
  · go_enter Try.func33, Try.ntmps33
    go_wp2
    go_ret
    exact ⟨rfl, rfl⟩
  · go_enter Try.func33, Try.ntmps33
    go_wp2
    go_ret
    exact ⟨rfl, rfl⟩
  · go_enter Try.func33, Try.ntmps33
    go_wp2
    go_ret
    exact ⟨rfl, rfl⟩
  · have E := Lib.hid (De.need_0.2 (.inr h))
    go_enter Try.func33, Try.ntmps33
    go_wp2
    go_ret
    exact ⟨ret_int E.out.symm, rfl⟩
theorem De.fills_any (k : Nat) (w : World) (hk : k < 256) : Calls Try.prog 17 #[.int .u8 k] w fun e w' => e = .returned (.bool (decide (k = 2 ∨ k = 4 ∨ k = 5))) ∧ w = w' := by
  rcases De.few (k := k) with rfl | rfl | rfl | rfl | rfl | rfl | rfl | ⟨h, c1, c2, c3, c4, c5, c6⟩
  iterate 7
    · go_enter Try.func17, Try.ntmps17
      go_wp2
      go_ret
      exact ⟨rfl, rfl⟩
  · have E := Lib.hid (show decide (k = 2 ∨ k = 4 ∨ k = 5) = false from by simp; omega)
    rw [E.out]
    go_enter Try.func17, Try.ntmps17
    go_wp2
    go_ret
    exact ⟨rfl, rfl⟩
theorem De.reads_any (k : Nat) (w : World) (hk : k < 256) : Calls Try.prog 18 #[.int .u8 k] w fun e w' => e = .returned (.bool (decide (k = 1 ∨ k = 3 ∨ k = 6))) ∧ w = w' := by
  rcases De.few (k := k) with rfl | rfl | rfl | rfl | rfl | rfl | rfl | ⟨h, c1, c2, c3, c4, c5, c6⟩
  iterate 7
    · go_enter Try.func18, Try.ntmps18
      go_wp2
      go_ret
      exact ⟨rfl, rfl⟩
  · have E := Lib.hid (show decide (k = 1 ∨ k = 3 ∨ k = 6) = false from by simp; omega)
    rw [E.out]
    go_enter Try.func18, Try.ntmps18
    go_wp2
    go_ret
    exact ⟨rfl, rfl⟩
theorem De.tmod16 (n : Int) : (n % 16 = 0 ∧ n.tmod 16 = 0) ∨ (n % 16 ≠ 0 ∧ (n.tmod 16 == 0) = false ∧ n.tmod 16 ≠ 0) := by
  have h1 := Int.emod_emod_of_dvd n (Int.dvd_refl 16)
  by_cases h : n % 16 = 0
  · exact .inl ⟨h, Int.tmod_eq_zero_of_dvd (Int.dvd_of_emod_eq_zero h)⟩
  · have : n.tmod 16 ≠ 0 := fun e => h (Int.emod_eq_zero_of_dvd (Int.dvd_of_tmod_eq_zero e))
    exact .inr ⟨h, by simpa using this, this⟩
theorem De.whole_any (n : Int) (w : World) : Calls Try.prog 34 #[.int .i64 n] w fun e w' => e = .returned (.bool (De.whole n)) ∧ w = w' := by
  by_cases h0 : n = 0
  · subst h0
    go_enter Try.func34, Try.ntmps34
    go_wp2
    go_ret
    exact ⟨rfl, rfl⟩
  · have c0 : (n == 0) = false := by simpa using h0
    have c1 : (n != 0) = true := by simpa using h0
    have c2 : ¬ n = 0 := h0
    rcases De.tmod16 n with ⟨h, ht⟩ | ⟨h, ht, ht2⟩
    · have E := Lib.hid (show De.whole n = true from by unfold De.whole; simp [h0, h])
      rw [E.out]
      clear h h0
      go_enter Try.func34, Try.ntmps34
      go_wp2
      go_ret
      exact ⟨rfl, rfl⟩
    · have E := Lib.hid (show De.whole n = false from by unfold De.whole; simp [h0, h])
      rw [E.out]
      clear h h0 ht2
      go_enter Try.func34, Try.ntmps34
      go_wp2
      go_ret
      exact ⟨rfl, rfl⟩
theorem De.within_any (f n s : Int) (w : World) (bs : s ≤ 9223372036854775807) : Calls Try.prog 35 #[.int .i64 f, .int .i64 n, .int .i64 s] w fun e w' => e = .returned (.bool (De.within f n s)) ∧ w = w' := by
  have key : (f < 0 ∧ De.within f n s = false) ∨ (0 ≤ f ∧ ¬ f ≤ s ∧ De.within f n s = false) ∨ (0 ≤ f ∧ f ≤ s ∧ ¬ n ≤ s - f ∧ De.within f n s = false) ∨ (0 ≤ f ∧ f ≤ s ∧ n ≤ s - f ∧ De.within f n s = true) := by
    unfold De.within
    by_cases h0 : f < 0
    · exact .inl ⟨h0, by simp; omega⟩
    · by_cases h1 : f ≤ s
      · by_cases h2 : n ≤ s - f
        · exact .inr (.inr (.inr ⟨by omega, h1, h2, by simp; omega⟩))
        · exact .inr (.inr (.inl ⟨by omega, h1, h2, by simp; omega⟩))
      · exact .inr (.inl ⟨by omega, h1, by simp; omega⟩)
  rcases key with ⟨h0, e⟩ | ⟨h0, h1, e⟩ | ⟨h0, h1, h2, e⟩ | ⟨h0, h1, h2, e⟩
  all_goals
    rw [e]
    clear e
    go_enter Try.func35, Try.ntmps35
    go_wp2
    go_ret
    exact ⟨by first | rfl | simp, rfl⟩
def De.dc (k s : Nat) (a l g : Int) : Array Value := #[.int .u8 k, .int .u8 s, .int .i64 a, .int .i64 l, .int .i64 g]
def De.cl (c : Nat → Int) : Array Value := #[.int .i64 (c 0), .int .i64 (c 1), .int .i64 (c 2), .int .i64 (c 3), .int .i64 (c 4), .int .i64 (c 5), .int .i64 (c 6), .int .i64 (c 7), .int .i64 (c 8), .int .i64 (c 9)]
theorem De.two_new (w : World) (o p : Obj) : w.grownBy ((w.alloc o).alloc p) none := only_alloc (only_alloc (only_refl w none) _) _
end Go.Proofs.Ytldhggaghhjebaa

/- Check of package desc, and the document's Check, by contract. -/
namespace Go.Proofs.Ytldhggaghhjebaa
open Go.RowKit Go.Lib
set_option linter.unusedVariables false
set_option maxRecDepth 20000

theorem De.way (f n s : Int) : (f < 0 ∧ De.within f n s = false) ∨ (0 ≤ f ∧ s < f ∧ De.within f n s = false) ∨ (0 ≤ f ∧ f ≤ s ∧ s - f < n ∧ De.within f n s = false) ∨ (0 ≤ f ∧ f ≤ s ∧ n ≤ s - f ∧ De.within f n s = true) := by
  unfold De.within
  by_cases h0 : f < 0
  · exact .inl ⟨h0, by simp; omega⟩
  · by_cases h1 : f ≤ s
    · by_cases h2 : n ≤ s - f
      · exact .inr (.inr (.inr ⟨by omega, h1, h2, by simp; omega⟩))
      · exact .inr (.inr (.inl ⟨by omega, h1, by omega, by simp; omega⟩))
    · exact .inr (.inl ⟨by omega, by omega, by simp; omega⟩)
set_option maxHeartbeats 3200000 in
theorem De.check_any (k s : Nat) (a l g : Int) (c : Nat → Int) (w : World) (hk : k < 256) (bs : c 1 ≤ 9223372036854775807) (bc : c 9 ≤ 9223372036854775807) : Calls Try.prog 15 #[.agg (De.dc k s a l g), .agg (De.cl c)] w fun e w' => e = .returned (.int .i64 (De.chk k a l g (c 1) (c 9))) ∧ w.grownBy w' none := by
  have HG := Lib.hid (De.two_new w (.cells (De.dc k s a l g) 24) (.cells (De.cl c) 34))
  have hN := fun W => De.needs_any k W hk
  have hW := De.whole_any l
  have h1 := fun W => De.within_any a l (c 1) W bs
  have h2 := fun W => De.within_any g (l / 16) (c 9) W bc
  unfold De.dc De.cl at HG ⊢
  generalize hz : c 1 = sz at *
  generalize hc : c 9 = sc at *
  have hkk : (k : Int) < 256 := by omega
  rcases De.need_in k with e0 | e0 | e0 | e0
  · rw [e0] at hN
    have E := Lib.hid (show De.chk k a l g sz sc = 3 from by unfold De.chk; simp [e0])
    have HN := Lib.hid hN; have HW := Lib.hid hW; have H1 := Lib.hid h1; have H2 := Lib.hid h2
    clear hN hW h1 h2 bs bc hz hc
    clear e0
    go_enter Try.func15, Try.ntmps15
    go_wp2_with (first
      | (go_at_call 33; (with_reducible refine (HN.out _).mono ?_); rintro e w' ⟨rfl, rfl⟩)
      | (go_at_call 34; (with_reducible refine (HW.out _).mono ?_); rintro e w' ⟨rfl, rfl⟩)
      | (go_at_call 35; (with_reducible refine (H1.out _).mono ?_); rintro e w' ⟨rfl, rfl⟩)
      | (go_at_call 35; (with_reducible refine (H2.out _).mono ?_); rintro e w' ⟨rfl, rfl⟩))
    go_ret
    exact ⟨ret_int E.out.symm, HG.out⟩
  · rw [e0] at hN
    by_cases g0 : l < 0
    · skip
      have E := Lib.hid (show De.chk k a l g sz sc = 4 from by unfold De.chk; simp [e0, g0])
      have HN := Lib.hid hN; have HW := Lib.hid hW; have H1 := Lib.hid h1; have H2 := Lib.hid h2
      clear hN hW h1 h2 bs bc hz hc
      clear e0
      go_enter Try.func15, Try.ntmps15
      go_wp2_with (first
        | (go_at_call 33; (with_reducible refine (HN.out _).mono ?_); rintro e w' ⟨rfl, rfl⟩)
        | (go_at_call 34; (with_reducible refine (HW.out _).mono ?_); rintro e w' ⟨rfl, rfl⟩)
        | (go_at_call 35; (with_reducible refine (H1.out _).mono ?_); rintro e w' ⟨rfl, rfl⟩)
        | (go_at_call 35; (with_reducible refine (H2.out _).mono ?_); rintro e w' ⟨rfl, rfl⟩))
      go_ret
      exact ⟨ret_int E.out.symm, HG.out⟩
    by_cases g1 : 32 < l
    · skip
      have E := Lib.hid (show De.chk k a l g sz sc = 4 from by unfold De.chk; simp [e0, g0, g1])
      have HN := Lib.hid hN; have HW := Lib.hid hW; have H1 := Lib.hid h1; have H2 := Lib.hid h2
      clear hN hW h1 h2 bs bc hz hc
      clear e0
      go_enter Try.func15, Try.ntmps15
      go_wp2_with (first
        | (go_at_call 33; (with_reducible refine (HN.out _).mono ?_); rintro e w' ⟨rfl, rfl⟩)
        | (go_at_call 34; (with_reducible refine (HW.out _).mono ?_); rintro e w' ⟨rfl, rfl⟩)
        | (go_at_call 35; (with_reducible refine (H1.out _).mono ?_); rintro e w' ⟨rfl, rfl⟩)
        | (go_at_call 35; (with_reducible refine (H2.out _).mono ?_); rintro e w' ⟨rfl, rfl⟩))
      go_ret
      exact ⟨ret_int E.out.symm, HG.out⟩
    have w16 : l.tdiv 16 = l / 16 := Int.tdiv_eq_ediv_of_nonneg (by omega)
    have w17 : 0 ≤ l / 16 := by omega
    have w18 : l / 16 ≤ 2 := by omega
    rcases De.way a l sz with ⟨x0, ei⟩ | ⟨x0, x1, ei⟩ | ⟨x0, x1, x2, ei⟩ | ⟨x0, x1, x2, ei⟩
    iterate 3
      · rw [ei] at h1
        have E := Lib.hid (show De.chk k a l g sz sc = 6 from by unfold De.chk; simp [e0, g0, g1, ei])
        have HN := Lib.hid hN; have HW := Lib.hid hW; have H1 := Lib.hid h1; have H2 := Lib.hid h2
        clear hN hW h1 h2 bs bc hz hc
        clear e0 ei
        go_enter Try.func15, Try.ntmps15
        go_wp2_with (first
          | (go_at_call 33; (with_reducible refine (HN.out _).mono ?_); rintro e w' ⟨rfl, rfl⟩)
          | (go_at_call 34; (with_reducible refine (HW.out _).mono ?_); rintro e w' ⟨rfl, rfl⟩)
          | (go_at_call 35; (with_reducible refine (H1.out _).mono ?_); rintro e w' ⟨rfl, rfl⟩)
          | (go_at_call 35; (with_reducible refine (H2.out _).mono ?_); rintro e w' ⟨rfl, rfl⟩))
        go_ret
        exact ⟨ret_int E.out.symm, HG.out⟩
    rw [ei] at h1
    have E := Lib.hid (show De.chk k a l g sz sc = 0 from by unfold De.chk; simp [e0, g0, g1, ei])
    have HN := Lib.hid hN; have HW := Lib.hid hW; have H1 := Lib.hid h1; have H2 := Lib.hid h2
    clear hN hW h1 h2 bs bc hz hc
    clear e0 ei
    go_enter Try.func15, Try.ntmps15
    go_wp2_with (first
      | (go_at_call 33; (with_reducible refine (HN.out _).mono ?_); rintro e w' ⟨rfl, rfl⟩)
      | (go_at_call 34; (with_reducible refine (HW.out _).mono ?_); rintro e w' ⟨rfl, rfl⟩)
      | (go_at_call 35; (with_reducible refine (H1.out _).mono ?_); rintro e w' ⟨rfl, rfl⟩)
      | (go_at_call 35; (with_reducible refine (H2.out _).mono ?_); rintro e w' ⟨rfl, rfl⟩))
    go_ret
    exact ⟨ret_int E.out.symm, HG.out⟩
  · rw [e0] at hN
    by_cases g0 : l < 0
    · skip
      have E := Lib.hid (show De.chk k a l g sz sc = 4 from by unfold De.chk; simp [e0, g0])
      have HN := Lib.hid hN; have HW := Lib.hid hW; have H1 := Lib.hid h1; have H2 := Lib.hid h2
      clear hN hW h1 h2 bs bc hz hc
      clear e0
      go_enter Try.func15, Try.ntmps15
      go_wp2_with (first
        | (go_at_call 33; (with_reducible refine (HN.out _).mono ?_); rintro e w' ⟨rfl, rfl⟩)
        | (go_at_call 34; (with_reducible refine (HW.out _).mono ?_); rintro e w' ⟨rfl, rfl⟩)
        | (go_at_call 35; (with_reducible refine (H1.out _).mono ?_); rintro e w' ⟨rfl, rfl⟩)
        | (go_at_call 35; (with_reducible refine (H2.out _).mono ?_); rintro e w' ⟨rfl, rfl⟩))
      go_ret
      exact ⟨ret_int E.out.symm, HG.out⟩
    by_cases g1 : 32 < l
    · skip
      have E := Lib.hid (show De.chk k a l g sz sc = 4 from by unfold De.chk; simp [e0, g0, g1])
      have HN := Lib.hid hN; have HW := Lib.hid hW; have H1 := Lib.hid h1; have H2 := Lib.hid h2
      clear hN hW h1 h2 bs bc hz hc
      clear e0
      go_enter Try.func15, Try.ntmps15
      go_wp2_with (first
        | (go_at_call 33; (with_reducible refine (HN.out _).mono ?_); rintro e w' ⟨rfl, rfl⟩)
        | (go_at_call 34; (with_reducible refine (HW.out _).mono ?_); rintro e w' ⟨rfl, rfl⟩)
        | (go_at_call 35; (with_reducible refine (H1.out _).mono ?_); rintro e w' ⟨rfl, rfl⟩)
        | (go_at_call 35; (with_reducible refine (H2.out _).mono ?_); rintro e w' ⟨rfl, rfl⟩))
      go_ret
      exact ⟨ret_int E.out.symm, HG.out⟩
    have w16 : l.tdiv 16 = l / 16 := Int.tdiv_eq_ediv_of_nonneg (by omega)
    have w17 : 0 ≤ l / 16 := by omega
    have w18 : l / 16 ≤ 2 := by omega
    rcases De.way a l sz with ⟨x0, ei⟩ | ⟨x0, x1, ei⟩ | ⟨x0, x1, x2, ei⟩ | ⟨x0, x1, x2, ei⟩
    iterate 3
      · rw [ei] at h1
        have E := Lib.hid (show De.chk k a l g sz sc = 6 from by unfold De.chk; simp [e0, g0, g1, ei])
        have HN := Lib.hid hN; have HW := Lib.hid hW; have H1 := Lib.hid h1; have H2 := Lib.hid h2
        clear hN hW h1 h2 bs bc hz hc
        clear e0 ei
        go_enter Try.func15, Try.ntmps15
        go_wp2_with (first
          | (go_at_call 33; (with_reducible refine (HN.out _).mono ?_); rintro e w' ⟨rfl, rfl⟩)
          | (go_at_call 34; (with_reducible refine (HW.out _).mono ?_); rintro e w' ⟨rfl, rfl⟩)
          | (go_at_call 35; (with_reducible refine (H1.out _).mono ?_); rintro e w' ⟨rfl, rfl⟩)
          | (go_at_call 35; (with_reducible refine (H2.out _).mono ?_); rintro e w' ⟨rfl, rfl⟩))
        go_ret
        exact ⟨ret_int E.out.symm, HG.out⟩
    rw [ei] at h1
    by_cases y0 : g < 0
    · skip
      have E := Lib.hid (show De.chk k a l g sz sc = 2 from by unfold De.chk; simp [e0, g0, g1, ei, y0])
      have HN := Lib.hid hN; have HW := Lib.hid hW; have H1 := Lib.hid h1; have H2 := Lib.hid h2
      clear hN hW h1 h2 bs bc hz hc
      clear e0 ei
      go_enter Try.func15, Try.ntmps15
      go_wp2_with (first
        | (go_at_call 33; (with_reducible refine (HN.out _).mono ?_); rintro e w' ⟨rfl, rfl⟩)
        | (go_at_call 34; (with_reducible refine (HW.out _).mono ?_); rintro e w' ⟨rfl, rfl⟩)
        | (go_at_call 35; (with_reducible refine (H1.out _).mono ?_); rintro e w' ⟨rfl, rfl⟩)
        | (go_at_call 35; (with_reducible refine (H2.out _).mono ?_); rintro e w' ⟨rfl, rfl⟩))
      go_ret
      exact ⟨ret_int E.out.symm, HG.out⟩
    by_cases y1 : 255 < g
    · skip
      have E := Lib.hid (show De.chk k a l g sz sc = 2 from by unfold De.chk; simp [e0, g0, g1, ei, y0, y1])
      have HN := Lib.hid hN; have HW := Lib.hid hW; have H1 := Lib.hid h1; have H2 := Lib.hid h2
      clear hN hW h1 h2 bs bc hz hc
      clear e0 ei
      go_enter Try.func15, Try.ntmps15
      go_wp2_with (first
        | (go_at_call 33; (with_reducible refine (HN.out _).mono ?_); rintro e w' ⟨rfl, rfl⟩)
        | (go_at_call 34; (with_reducible refine (HW.out _).mono ?_); rintro e w' ⟨rfl, rfl⟩)
        | (go_at_call 35; (with_reducible refine (H1.out _).mono ?_); rintro e w' ⟨rfl, rfl⟩)
        | (go_at_call 35; (with_reducible refine (H2.out _).mono ?_); rintro e w' ⟨rfl, rfl⟩))
      go_ret
      exact ⟨ret_int E.out.symm, HG.out⟩
    have E := Lib.hid (show De.chk k a l g sz sc = 0 from by unfold De.chk; simp [e0, g0, g1, ei, y0, y1])
    have HN := Lib.hid hN; have HW := Lib.hid hW; have H1 := Lib.hid h1; have H2 := Lib.hid h2
    clear hN hW h1 h2 bs bc hz hc
    clear e0 ei
    go_enter Try.func15, Try.ntmps15
    go_wp2_with (first
      | (go_at_call 33; (with_reducible refine (HN.out _).mono ?_); rintro e w' ⟨rfl, rfl⟩)
      | (go_at_call 34; (with_reducible refine (HW.out _).mono ?_); rintro e w' ⟨rfl, rfl⟩)
      | (go_at_call 35; (with_reducible refine (H1.out _).mono ?_); rintro e w' ⟨rfl, rfl⟩)
      | (go_at_call 35; (with_reducible refine (H2.out _).mono ?_); rintro e w' ⟨rfl, rfl⟩))
    go_ret
    exact ⟨ret_int E.out.symm, HG.out⟩
  · rw [e0] at hN
    rcases De.tmod16 l with ⟨h16, ht⟩ | ⟨h16, ht, ht2⟩
    rotate_left
    · have ew : De.whole l = false := by unfold De.whole; simp [h16]
      rw [ew] at hW
      have E := Lib.hid (show De.chk k a l g sz sc = 3 from by unfold De.chk; simp [e0, ew])
      have HN := Lib.hid hN; have HW := Lib.hid hW; have H1 := Lib.hid h1; have H2 := Lib.hid h2
      clear hN hW h1 h2 bs bc hz hc
      clear e0 ew h16 ht2
      go_enter Try.func15, Try.ntmps15
      go_wp2_with (first
        | (go_at_call 33; (with_reducible refine (HN.out _).mono ?_); rintro e w' ⟨rfl, rfl⟩)
        | (go_at_call 34; (with_reducible refine (HW.out _).mono ?_); rintro e w' ⟨rfl, rfl⟩)
        | (go_at_call 35; (with_reducible refine (H1.out _).mono ?_); rintro e w' ⟨rfl, rfl⟩)
        | (go_at_call 35; (with_reducible refine (H2.out _).mono ?_); rintro e w' ⟨rfl, rfl⟩))
      go_ret
      exact ⟨ret_int E.out.symm, HG.out⟩
    · by_cases hl0 : l = 0
      · have ew : De.whole l = false := by unfold De.whole; simp [hl0]
        rw [ew] at hW
        have E := Lib.hid (show De.chk k a l g sz sc = 3 from by unfold De.chk; simp [e0, ew])
        subst hl0
        have HN := Lib.hid hN; have HW := Lib.hid hW; have H1 := Lib.hid h1; have H2 := Lib.hid h2
        clear hN hW h1 h2 bs bc hz hc
        clear e0 ew h16
        go_enter Try.func15, Try.ntmps15
        go_wp2_with (first
          | (go_at_call 33; (with_reducible refine (HN.out _).mono ?_); rintro e w' ⟨rfl, rfl⟩)
          | (go_at_call 34; (with_reducible refine (HW.out _).mono ?_); rintro e w' ⟨rfl, rfl⟩)
          | (go_at_call 35; (with_reducible refine (H1.out _).mono ?_); rintro e w' ⟨rfl, rfl⟩)
          | (go_at_call 35; (with_reducible refine (H2.out _).mono ?_); rintro e w' ⟨rfl, rfl⟩))
        go_ret
        exact ⟨ret_int E.out.symm, HG.out⟩
      have ew : De.whole l = true := by unfold De.whole; simp [hl0, h16]
      rw [ew] at hW
      by_cases g0 : l < 0
      · skip
        have E := Lib.hid (show De.chk k a l g sz sc = 4 from by unfold De.chk; simp [e0, g0, ew])
        have HN := Lib.hid hN; have HW := Lib.hid hW; have H1 := Lib.hid h1; have H2 := Lib.hid h2
        clear hN hW h1 h2 bs bc hz hc
        clear e0 ew h16
        go_enter Try.func15, Try.ntmps15
        go_wp2_with (first
          | (go_at_call 33; (with_reducible refine (HN.out _).mono ?_); rintro e w' ⟨rfl, rfl⟩)
          | (go_at_call 34; (with_reducible refine (HW.out _).mono ?_); rintro e w' ⟨rfl, rfl⟩)
          | (go_at_call 35; (with_reducible refine (H1.out _).mono ?_); rintro e w' ⟨rfl, rfl⟩)
          | (go_at_call 35; (with_reducible refine (H2.out _).mono ?_); rintro e w' ⟨rfl, rfl⟩))
        go_ret
        exact ⟨ret_int E.out.symm, HG.out⟩
      by_cases g1 : 32 < l
      · skip
        have E := Lib.hid (show De.chk k a l g sz sc = 4 from by unfold De.chk; simp [e0, g0, g1, ew])
        have HN := Lib.hid hN; have HW := Lib.hid hW; have H1 := Lib.hid h1; have H2 := Lib.hid h2
        clear hN hW h1 h2 bs bc hz hc
        clear e0 ew h16
        go_enter Try.func15, Try.ntmps15
        go_wp2_with (first
          | (go_at_call 33; (with_reducible refine (HN.out _).mono ?_); rintro e w' ⟨rfl, rfl⟩)
          | (go_at_call 34; (with_reducible refine (HW.out _).mono ?_); rintro e w' ⟨rfl, rfl⟩)
          | (go_at_call 35; (with_reducible refine (H1.out _).mono ?_); rintro e w' ⟨rfl, rfl⟩)
          | (go_at_call 35; (with_reducible refine (H2.out _).mono ?_); rintro e w' ⟨rfl, rfl⟩))
        go_ret
        exact ⟨ret_int E.out.symm, HG.out⟩
      have w16 : l.tdiv 16 = l / 16 := Int.tdiv_eq_ediv_of_nonneg (by omega)
      have w17 : 0 ≤ l / 16 := by omega
      have w18 : l / 16 ≤ 2 := by omega
      rcases De.way a l sz with ⟨x0, ei⟩ | ⟨x0, x1, ei⟩ | ⟨x0, x1, x2, ei⟩ | ⟨x0, x1, x2, ei⟩
      iterate 3
        · rw [ei] at h1
          have E := Lib.hid (show De.chk k a l g sz sc = 6 from by unfold De.chk; simp [e0, g0, g1, ei, ew])
          have HN := Lib.hid hN; have HW := Lib.hid hW; have H1 := Lib.hid h1; have H2 := Lib.hid h2
          clear hN hW h1 h2 bs bc hz hc
          clear e0 ei ew h16
          go_enter Try.func15, Try.ntmps15
          go_wp2_with (first
            | (go_at_call 33; (with_reducible refine (HN.out _).mono ?_); rintro e w' ⟨rfl, rfl⟩)
            | (go_at_call 34; (with_reducible refine (HW.out _).mono ?_); rintro e w' ⟨rfl, rfl⟩)
            | (go_at_call 35; (with_reducible refine (H1.out _).mono ?_); rintro e w' ⟨rfl, rfl⟩)
            | (go_at_call 35; (with_reducible refine (H2.out _).mono ?_); rintro e w' ⟨rfl, rfl⟩))
          go_ret
          exact ⟨ret_int E.out.symm, HG.out⟩
      rw [ei] at h1
      rcases De.way g (l / 16) sc with ⟨y0, ej⟩ | ⟨y0, y1, ej⟩ | ⟨y0, y1, y2, ej⟩ | ⟨y0, y1, y2, ej⟩
      iterate 3
        · rw [ej] at h2
          have E := Lib.hid (show De.chk k a l g sz sc = 6 from by unfold De.chk; simp [e0, g0, g1, ei, ej, ew])
          have HN := Lib.hid hN; have HW := Lib.hid hW; have H1 := Lib.hid h1; have H2 := Lib.hid h2
          clear hN hW h1 h2 bs bc hz hc
          clear e0 ei ej ew h16
          go_enter Try.func15, Try.ntmps15
          go_wp2_with (first
            | (go_at_call 33; (with_reducible refine (HN.out _).mono ?_); rintro e w' ⟨rfl, rfl⟩)
            | (go_at_call 34; (with_reducible refine (HW.out _).mono ?_); rintro e w' ⟨rfl, rfl⟩)
            | (go_at_call 35; (with_reducible refine (H1.out _).mono ?_); rintro e w' ⟨rfl, rfl⟩)
            | (go_at_call 35; (with_reducible refine (H2.out _).mono ?_); rintro e w' ⟨rfl, rfl⟩))
          go_ret
          exact ⟨ret_int E.out.symm, HG.out⟩
      rw [ej] at h2
      have E := Lib.hid (show De.chk k a l g sz sc = 0 from by unfold De.chk; simp [e0, g0, g1, ei, ej, ew])
      have HN := Lib.hid hN; have HW := Lib.hid hW; have H1 := Lib.hid h1; have H2 := Lib.hid h2
      clear hN hW h1 h2 bs bc hz hc
      clear e0 ei ej ew h16
      go_enter Try.func15, Try.ntmps15
      go_wp2_with (first
        | (go_at_call 33; (with_reducible refine (HN.out _).mono ?_); rintro e w' ⟨rfl, rfl⟩)
        | (go_at_call 34; (with_reducible refine (HW.out _).mono ?_); rintro e w' ⟨rfl, rfl⟩)
        | (go_at_call 35; (with_reducible refine (H1.out _).mono ?_); rintro e w' ⟨rfl, rfl⟩)
        | (go_at_call 35; (with_reducible refine (H2.out _).mono ?_); rintro e w' ⟨rfl, rfl⟩))
      go_ret
      exact ⟨ret_int E.out.symm, HG.out⟩
end Go.Proofs.Ytldhggaghhjebaa

/- The document's Check of a descriptor, by contract. -/
namespace Go.Proofs.Ytldhggaghhjebaa
open Go.RowKit Go.Lib
set_option linter.unusedVariables false
set_option maxRecDepth 20000

set_option maxHeartbeats 3200000 in
theorem De.rcheck_any (k s : Nat) (a l g : Int) (c : Nat → Int) (w : World) (hk : k < 256) (bs : c 1 ≤ 9223372036854775807) (bc : c 9 ≤ 9223372036854775807) : Calls Try.prog 16 #[.agg (De.dc k s a l g), .agg (De.cl c)] w fun e w' => e = .returned (.int .i64 (De.chk k a l g (c 1) (c 9))) ∧ w.grownBy w' none := by
  have HG := Lib.hid (De.two_new w (.cells (De.dc k s a l g) 24) (.cells (De.cl c) 34))
  have hN := fun W => De.needs_any k W hk
  have hW := De.whole_any l
  have h1 := fun W => De.within_any a l (c 1) W bs
  have h2 := fun W => De.within_any g (l / 16) (c 9) W bc
  unfold De.dc De.cl at HG ⊢
  generalize hz : c 1 = sz at *
  generalize hc : c 9 = sc at *
  have hkk : (k : Int) < 256 := by omega
  rcases De.need_in k with e0 | e0 | e0 | e0
  · rw [e0] at hN
    rcases De.need_0.1 e0 with hk0 | hk0
    · have hki : (k : Int) = 0 := by omega
      rw [hki] at HG ⊢
      have E := Lib.hid (show De.chk k a l g sz sc = 3 from by unfold De.chk; simp [e0])
      have HN := Lib.hid hN; have HW := Lib.hid hW; have H1 := Lib.hid h1; have H2 := Lib.hid h2
      clear hN hW h1 h2 hz hc
      clear e0
      go_enter Try.func16, Try.ntmps16
      go_wp2
      go_ret
      exact ⟨ret_int E.out.symm, HG.out⟩
    · have c5 : ((k : Int) == 5) = false := by simp; omega
      have c6 : ((k : Int) == 6) = false := by simp; omega
      have k1 : ¬ (k : Int) < 1 := by omega
      have k6 : (6 : Int) < k := by omega
      have E := Lib.hid (show De.chk k a l g sz sc = 3 from by unfold De.chk; simp [e0])
      have HN := Lib.hid hN; have HW := Lib.hid hW; have H1 := Lib.hid h1; have H2 := Lib.hid h2
      clear hN hW h1 h2 hz hc
      clear e0
      go_enter Try.func16, Try.ntmps16
      go_wp2
      go_ret
      exact ⟨ret_int E.out.symm, HG.out⟩
  · rw [e0] at hN
    have hkc : k = 1 ∨ k = 2 ∨ k = 4 := De.need_1.1 e0
    have hki : (k : Int) = 1 ∨ (k : Int) = 2 ∨ (k : Int) = 4 := by omega
    rcases hki with hki | hki | hki
    all_goals
      rw [hki] at HG ⊢
      by_cases g0 : l < 0
      · skip
        have E := Lib.hid (show De.chk k a l g sz sc = 4 from by unfold De.chk; simp [e0, g0])
        have HN := Lib.hid hN; have HW := Lib.hid hW; have H1 := Lib.hid h1; have H2 := Lib.hid h2
        clear hN hW h1 h2 hz hc
        clear e0
        go_enter Try.func16, Try.ntmps16
        go_wp2
        go_ret
        exact ⟨ret_int E.out.symm, HG.out⟩
      by_cases g1 : 32 < l
      · skip
        have E := Lib.hid (show De.chk k a l g sz sc = 4 from by unfold De.chk; simp [e0, g0, g1])
        have HN := Lib.hid hN; have HW := Lib.hid hW; have H1 := Lib.hid h1; have H2 := Lib.hid h2
        clear hN hW h1 h2 hz hc
        clear e0
        go_enter Try.func16, Try.ntmps16
        go_wp2
        go_ret
        exact ⟨ret_int E.out.symm, HG.out⟩
      have w16 : l.tdiv 16 = l / 16 := Int.tdiv_eq_ediv_of_nonneg (by omega)
      have w17 : 0 ≤ l / 16 := by omega
      have w18 : l / 16 ≤ 2 := by omega
      rcases De.way a l sz with ⟨x0, ei⟩ | ⟨x0, x1, ei⟩ | ⟨x0, x1, x2, ei⟩ | ⟨x0, x1, x2, ei⟩
      iterate 3
        · rw [ei] at h1
          have E := Lib.hid (show De.chk k a l g sz sc = 6 from by unfold De.chk; simp [e0, g0, g1, ei])
          have HN := Lib.hid hN; have HW := Lib.hid hW; have H1 := Lib.hid h1; have H2 := Lib.hid h2
          clear hN hW h1 h2 hz hc
          clear e0 ei
          go_enter Try.func16, Try.ntmps16
          go_wp2
          go_ret
          exact ⟨ret_int E.out.symm, HG.out⟩
      rw [ei] at h1
      have E := Lib.hid (show De.chk k a l g sz sc = 0 from by unfold De.chk; simp [e0, g0, g1, ei])
      have HN := Lib.hid hN; have HW := Lib.hid hW; have H1 := Lib.hid h1; have H2 := Lib.hid h2
      clear hN hW h1 h2 hz hc
      clear e0 ei
      go_enter Try.func16, Try.ntmps16
      go_wp2
      go_ret
      exact ⟨ret_int E.out.symm, HG.out⟩
  · rw [e0] at hN
    have hki : (k : Int) = 3 := by have := De.need_2.1 e0; omega
    rw [hki] at HG ⊢
    by_cases g0 : l < 0
    · skip
      have E := Lib.hid (show De.chk k a l g sz sc = 4 from by unfold De.chk; simp [e0, g0])
      have HN := Lib.hid hN; have HW := Lib.hid hW; have H1 := Lib.hid h1; have H2 := Lib.hid h2
      clear hN hW h1 h2 hz hc
      clear e0
      go_enter Try.func16, Try.ntmps16
      go_wp2
      go_ret
      exact ⟨ret_int E.out.symm, HG.out⟩
    by_cases g1 : 32 < l
    · skip
      have E := Lib.hid (show De.chk k a l g sz sc = 4 from by unfold De.chk; simp [e0, g0, g1])
      have HN := Lib.hid hN; have HW := Lib.hid hW; have H1 := Lib.hid h1; have H2 := Lib.hid h2
      clear hN hW h1 h2 hz hc
      clear e0
      go_enter Try.func16, Try.ntmps16
      go_wp2
      go_ret
      exact ⟨ret_int E.out.symm, HG.out⟩
    have w16 : l.tdiv 16 = l / 16 := Int.tdiv_eq_ediv_of_nonneg (by omega)
    have w17 : 0 ≤ l / 16 := by omega
    have w18 : l / 16 ≤ 2 := by omega
    rcases De.way a l sz with ⟨x0, ei⟩ | ⟨x0, x1, ei⟩ | ⟨x0, x1, x2, ei⟩ | ⟨x0, x1, x2, ei⟩
    iterate 3
      · rw [ei] at h1
        have E := Lib.hid (show De.chk k a l g sz sc = 6 from by unfold De.chk; simp [e0, g0, g1, ei])
        have HN := Lib.hid hN; have HW := Lib.hid hW; have H1 := Lib.hid h1; have H2 := Lib.hid h2
        clear hN hW h1 h2 hz hc
        clear e0 ei
        go_enter Try.func16, Try.ntmps16
        go_wp2
        go_ret
        exact ⟨ret_int E.out.symm, HG.out⟩
    rw [ei] at h1
    by_cases y0 : g < 0
    · skip
      have E := Lib.hid (show De.chk k a l g sz sc = 2 from by unfold De.chk; simp [e0, g0, g1, ei, y0])
      have HN := Lib.hid hN; have HW := Lib.hid hW; have H1 := Lib.hid h1; have H2 := Lib.hid h2
      clear hN hW h1 h2 hz hc
      clear e0 ei
      go_enter Try.func16, Try.ntmps16
      go_wp2
      go_ret
      exact ⟨ret_int E.out.symm, HG.out⟩
    by_cases y1 : 255 < g
    · skip
      have E := Lib.hid (show De.chk k a l g sz sc = 2 from by unfold De.chk; simp [e0, g0, g1, ei, y0, y1])
      have HN := Lib.hid hN; have HW := Lib.hid hW; have H1 := Lib.hid h1; have H2 := Lib.hid h2
      clear hN hW h1 h2 hz hc
      clear e0 ei
      go_enter Try.func16, Try.ntmps16
      go_wp2
      go_ret
      exact ⟨ret_int E.out.symm, HG.out⟩
    have E := Lib.hid (show De.chk k a l g sz sc = 0 from by unfold De.chk; simp [e0, g0, g1, ei, y0, y1])
    have HN := Lib.hid hN; have HW := Lib.hid hW; have H1 := Lib.hid h1; have H2 := Lib.hid h2
    clear hN hW h1 h2 hz hc
    clear e0 ei
    go_enter Try.func16, Try.ntmps16
    go_wp2
    go_ret
    exact ⟨ret_int E.out.symm, HG.out⟩
  · rw [e0] at hN
    have hkc : k = 5 ∨ k = 6 := De.need_3.1 e0
    have hki : (k : Int) = 5 ∨ (k : Int) = 6 := by omega
    rcases hki with hki | hki
    all_goals
      rw [hki] at HG ⊢
      rcases De.tmod16 l with ⟨h16, ht⟩ | ⟨h16, ht, ht2⟩
      rotate_left
      · have ew : De.whole l = false := by unfold De.whole; simp [h16]
        rw [ew] at hW
        have ht3 : (l.tmod 16 != 0) = true := by simpa using ht2
        have ht4 : ¬ l.tmod 16 = 0 := ht2
        have E := Lib.hid (show De.chk k a l g sz sc = 3 from by unfold De.chk; simp [e0, ew])
        have HN := Lib.hid hN; have HW := Lib.hid hW; have H1 := Lib.hid h1; have H2 := Lib.hid h2
        clear hN hW h1 h2 hz hc
        clear e0 ew h16 ht2
        go_enter Try.func16, Try.ntmps16
        go_wp2
        go_ret
        exact ⟨ret_int E.out.symm, HG.out⟩
      · by_cases hl0 : l = 0
        · have ew : De.whole l = false := by unfold De.whole; simp [hl0]
          rw [ew] at hW
          have E := Lib.hid (show De.chk k a l g sz sc = 3 from by unfold De.chk; simp [e0, ew])
          subst hl0
          have HN := Lib.hid hN; have HW := Lib.hid hW; have H1 := Lib.hid h1; have H2 := Lib.hid h2
          clear hN hW h1 h2 hz hc
          clear e0 ew h16
          go_enter Try.func16, Try.ntmps16
          go_wp2
          go_ret
          exact ⟨ret_int E.out.symm, HG.out⟩
        have ew : De.whole l = true := by unfold De.whole; simp [hl0, h16]
        rw [ew] at hW
        have l0 : (l == 0) = false := by simpa using hl0
        have ht3 : (l.tmod 16 != 0) = false := by simp [ht]
        by_cases g0 : l < 0
        · skip
          have E := Lib.hid (show De.chk k a l g sz sc = 4 from by unfold De.chk; simp [e0, g0, ew])
          have HN := Lib.hid hN; have HW := Lib.hid hW; have H1 := Lib.hid h1; have H2 := Lib.hid h2
          clear hN hW h1 h2 hz hc
          clear e0 ew h16
          go_enter Try.func16, Try.ntmps16
          go_wp2
          go_ret
          exact ⟨ret_int E.out.symm, HG.out⟩
        by_cases g1 : 32 < l
        · skip
          have E := Lib.hid (show De.chk k a l g sz sc = 4 from by unfold De.chk; simp [e0, g0, g1, ew])
          have HN := Lib.hid hN; have HW := Lib.hid hW; have H1 := Lib.hid h1; have H2 := Lib.hid h2
          clear hN hW h1 h2 hz hc
          clear e0 ew h16
          go_enter Try.func16, Try.ntmps16
          go_wp2
          go_ret
          exact ⟨ret_int E.out.symm, HG.out⟩
        have w16 : l.tdiv 16 = l / 16 := Int.tdiv_eq_ediv_of_nonneg (by omega)
        have w17 : 0 ≤ l / 16 := by omega
        have w18 : l / 16 ≤ 2 := by omega
        rcases De.way a l sz with ⟨x0, ei⟩ | ⟨x0, x1, ei⟩ | ⟨x0, x1, x2, ei⟩ | ⟨x0, x1, x2, ei⟩
        iterate 3
          · rw [ei] at h1
            have E := Lib.hid (show De.chk k a l g sz sc = 6 from by unfold De.chk; simp [e0, g0, g1, ei, ew])
            have HN := Lib.hid hN; have HW := Lib.hid hW; have H1 := Lib.hid h1; have H2 := Lib.hid h2
            clear hN hW h1 h2 hz hc
            clear e0 ei ew h16
            go_enter Try.func16, Try.ntmps16
            go_wp2
            go_ret
            exact ⟨ret_int E.out.symm, HG.out⟩
        rw [ei] at h1
        rcases De.way g (l / 16) sc with ⟨y0, ej⟩ | ⟨y0, y1, ej⟩ | ⟨y0, y1, y2, ej⟩ | ⟨y0, y1, y2, ej⟩
        iterate 3
          · rw [ej] at h2
            have E := Lib.hid (show De.chk k a l g sz sc = 6 from by unfold De.chk; simp [e0, g0, g1, ei, ej, ew])
            have HN := Lib.hid hN; have HW := Lib.hid hW; have H1 := Lib.hid h1; have H2 := Lib.hid h2
            clear hN hW h1 h2 hz hc
            clear e0 ei ej ew h16
            go_enter Try.func16, Try.ntmps16
            go_wp2
            go_ret
            exact ⟨ret_int E.out.symm, HG.out⟩
        rw [ej] at h2
        have E := Lib.hid (show De.chk k a l g sz sc = 0 from by unfold De.chk; simp [e0, g0, g1, ei, ej, ew])
        have HN := Lib.hid hN; have HW := Lib.hid hW; have H1 := Lib.hid h1; have H2 := Lib.hid h2
        clear hN hW h1 h2 hz hc
        clear e0 ei ej ew h16
        go_enter Try.func16, Try.ntmps16
        go_wp2
        go_ret
        exact ⟨ret_int E.out.symm, HG.out⟩
end Go.Proofs.Ytldhggaghhjebaa
