import Derived.WalkKit
import Derived.Deep.Draws
import Derived.Deep.QuietTactic
import Derived.Test.YthhodadfiipffaaDoorRows
import Derived.ProofKit
import Derived.OpenShut
import Derived.WalkLawsBesides
import Derived.WalkSpells
import Derived.BigQuiet
import Derived.Lib.BitFns
import Derived.Lib.Hide
import Derived.Deep.RegionWith
import Derived.Laws.CopyOwn
import Derived.Laws.IdiomStrings
import Derived.Lib.BufferWrite
import Derived.OwnWalk
set_option linter.all false
/- Plain facts on bits and bytes, for the laws of package bits: no program is spoken of here. -/
namespace Go.Proofs.YthhodadfiipffaaDoor.Bt
open Go.RowKit

theorem and255 (n : Int) : bits .and .i64 n 255 = n % 256 := by
  show IntKind.i64.wrap ((BitVec.ofInt 64 n &&& BitVec.ofInt 64 255).toNat : Int) = _
  have h : (BitVec.ofInt 64 (255 : Int)).toNat = 2 ^ 8 - 1 := by decide
  rw [BitVec.toNat_and, h, Nat.and_two_pow_sub_one_eq_mod, BitVec.toNat_ofInt, IntKind.wrap_i64]
  omega

theorem and255u (n : Int) (h0 : 0 ≤ n) (h1 : n < 65536) : bits .and .u16 n 255 = n % 256 := by
  obtain ⟨a, rfl⟩ := Int.eq_ofNat_of_zero_le h0
  have h : (255 : Int) = ((255 : Nat) : Int) := rfl
  rw [h, u16_and_nat a 255 (by omega) (by decide), show (255 : Nat) = 2 ^ 8 - 1 from rfl, Nat.and_two_pow_sub_one_eq_mod]
  omega

theorem or256 (a b : Int) (ha : 0 ≤ a) (ha1 : a < 256) (hb : 0 ≤ b) (hb1 : b < 256) : bits .or .i64 a (b * 256) = a + 256 * b := by
  obtain ⟨x, rfl⟩ := Int.eq_ofNat_of_zero_le ha
  obtain ⟨y, rfl⟩ := Int.eq_ofNat_of_zero_le hb
  have hy : ((y : Int) * 256) = ((2 ^ 8 * y : Nat) : Int) := by omega
  have k1 : (BitVec.ofInt 64 (x : Int)).toNat = x := by rw [BitVec.ofInt_natCast, BitVec.toNat_ofNat]; omega
  have k2 : (BitVec.ofInt 64 ((2 ^ 8 * y : Nat) : Int)).toNat = 2 ^ 8 * y := by rw [BitVec.ofInt_natCast, BitVec.toNat_ofNat]; omega
  show IntKind.i64.wrap ((BitVec.ofInt 64 (x : Int) ||| BitVec.ofInt 64 ((y : Int) * 256)).toNat : Int) = _
  rw [hy, BitVec.toNat_or, k1, k2, Nat.or_comm, ← Nat.two_pow_add_eq_or_of_lt (by omega) y, IntKind.wrap_i64]
  omega

/-- A number's two bytes. -/
def put (n : Int) : ByteArray := ⟨#[UInt8.ofNat (n % 256).toNat, UInt8.ofNat (n / 256 % 256).toNat]⟩

/-- How many bits of a number are 1. -/
def ones : Nat → Nat → Nat
  | 0, _ => 0
  | f + 1, k => if k = 0 then 0 else ones f (k / 2) + k % 2

theorem ones_zero (f : Nat) : ones f 0 = 0 := by cases f <;> simp [ones]

theorem ones_join (g f hi lo : Nat) (hl : lo < 2 ^ g) (hh : hi < 2 ^ f) : ones (f + g) (hi * 2 ^ g + lo) = ones f hi + ones g lo := by
  induction g generalizing lo with
  | zero => obtain rfl : lo = 0 := by omega
            simp [ones]
  | succ g ih =>
    have hp : hi * 2 ^ (g + 1) = 2 * (hi * 2 ^ g) := by rw [Nat.pow_succ, ← Nat.mul_assoc, Nat.mul_comm]
    have e1 : (hi * 2 ^ (g + 1) + lo) / 2 = hi * 2 ^ g + lo / 2 := by omega
    have e2 : (hi * 2 ^ (g + 1) + lo) % 2 = lo % 2 := by omega
    have hl2 : lo / 2 < 2 ^ g := by rw [Nat.pow_succ] at hl; omega
    have k := ih (lo / 2) hl2
    show ones (f + g + 1) (hi * 2 ^ (g + 1) + lo) = _
    rw [ones, e1, e2, k]
    by_cases h0 : hi * 2 ^ (g + 1) + lo = 0
    · rw [if_pos h0]
      have hlo : lo = 0 := by omega
      have hhi : hi = 0 := by
        rcases Nat.eq_zero_or_pos hi with h | h
        · exact h
        · have := Nat.mul_pos h (Nat.two_pow_pos (g + 1)); omega
      subst hlo hhi
      simp [ones_zero]
    · rw [if_neg h0]
      by_cases hlo : lo = 0
      · subst hlo; simp [ones_zero]
      · rw [show ones (g + 1) lo = ones g (lo / 2) + lo % 2 from by rw [ones, if_neg hlo]]
        omega

theorem ones_16 (k : Nat) (h : k < 65536) : ones 16 k = ones 8 (k / 256) + ones 8 (k % 256) := by
  have := ones_join 8 8 (k / 256) (k % 256) (by omega) (by omega)
  rw [← this]
  congr 1
  omega

theorem ones_le (f k : Nat) : ones f k ≤ f := by
  induction f generalizing k with
  | zero => simp [ones]
  | succ f ih =>
    rw [ones]
    split
    · omega
    · have := ih (k / 2); omega

#print axioms ones_16

/-- What a number leaves of another one, from 0 on, as1 the text reckons it. -/
theorem rest_of (n m : Int) (hm : 0 < m) : (if n.tmod m < 0 then n.tmod m + m else n.tmod m) = n % m := by
  have h1 := @Int.tmod_eq_emod n m
  have h2 := Int.emod_nonneg n (Int.ne_of_gt hm)
  have h3 := Int.emod_lt_of_pos n hm
  have h4 : (m.natAbs : Int) = m := Int.natAbs_of_nonneg (Int.le_of_lt hm)
  rw [h1]
  split <;> split <;> omega

end Go.Proofs.YthhodadfiipffaaDoor.Bt

/- Words for memory: a block that is known whole; only one block was written. -/
namespace Go.Proofs.YthhodadfiipffaaDoor
open Go.RowKit

/-- Block g holds just the cells cs, of element type t, and none of them is frozen. -/
def Blk (w : World) (g : Nat) (t : TypeId) (cs : Array Value) : Prop := w.heap[g]? = some (.cells cs t (0, 0))

section
variable {w w' : World} {g : Nat} {t : TypeId} {cs : Array Value}
theorem Blk.lt (h : Blk w g t cs) : g < w.heap.size := lt_of_block h
theorem Blk.cell (h : Blk w g t cs) (i : Nat) : w.cell? ⟨g, i, none⟩ = cs[i]? := by
  have h' : w.heap[g]? = some (.cells cs t (0, 0)) := h
  simp [World.cell?, h']
theorem Blk.free (h : Blk w g t cs) (i : Nat) : w.frozen? ⟨g, i, none⟩ = false := by
  have h' : w.heap[g]? = some (.cells cs t (0, 0)) := h
  simp [World.frozen?, h']
theorem Blk.new (w : World) (t : TypeId) (cs : Array Value) : Blk (w.alloc (.cells cs t)) w.heap.size t cs := by
  show (w.heap.push _)[w.heap.size]? = _
  simp
theorem Blk.drewN (h : Blk w g t cs) (n : Nat) : Blk (w.drewN n) g t cs := h
theorem Blk.alloc (h : Blk w g t cs) (o : Obj) : Blk (w.alloc o) g t cs := (Below.heap_alloc w o g h.lt).trans h
theorem Blk.put (h : Blk w g t cs) (i : Nat) (u : Value) : Blk (w.setCell ⟨g, i, none⟩ u) g t (cs.setIfInBounds i u) := by
  have h' : w.heap[g]? = some (.cells cs t (0, 0)) := h
  show (World.setCell w ⟨g, i, none⟩ u).heap[g]? = _
  simp [World.setCell, Array.getElem?_modify, h']
theorem Blk.far (h : Blk w g t cs) {p : Addr} (hp : g ≠ p.block) (u : Value) : Blk (w.setCell p u) g t cs := (Below.heap_setCell w p u g hp).trans h
theorem Blk.below {B : Nat} (h : Blk w g t cs) (hb : Below B w w') (hg : g < B) : Blk w' g t cs := (hb.block g hg).trans h
theorem Blk.only {row : Option Nat} (h : Blk w g t cs) (hb : w.grownBy w' row) (hg : some g ≠ row) : Blk w' g t cs := (hb.block g h.lt hg).trans h
theorem Blk.differ {g' : Nat} {t' : TypeId} {cs' : Array Value} (h : Blk w g t cs) (h' : Blk w g' t' cs') (hne : t ≠ t') : g ≠ g' := by
  rintro rfl
  have h1 : w.heap[g]? = some (.cells cs t (0, 0)) := h
  have h2 : w.heap[g]? = some (.cells cs' t' (0, 0)) := h'
  rw [h1] at h2
  injection h2 with h3
  injection h3 with _ h4
  exact hne h4
end

section
variable {a b c w : World} {row : Option Nat}
theorem only_refl (w : World) (row : Option Nat) : w.grownBy w row := ⟨rfl, rfl, rfl, Nat.le_refl _, fun _ _ _ => rfl⟩
theorem only_trans (h : a.grownBy b row) (k : b.grownBy c row) : a.grownBy c row :=
  ⟨k.os.trans h.os, k.tape.trans h.tape, k.output.trans h.output, Nat.le_trans h.size k.size, fun i hi hne => (k.block i (Nat.lt_of_lt_of_le hi h.size) hne).trans (h.block i hi hne)⟩
theorem only_drewN (h : a.grownBy w row) (n : Nat) : a.grownBy (w.drewN n) row := ⟨h.os, h.tape, h.output, h.size, h.block⟩
theorem only_alloc (h : a.grownBy w row) (o : Obj) : a.grownBy (w.alloc o) row :=
  ⟨h.os, h.tape, h.output, Nat.le_trans h.size (by simp), fun i hi hne => (Below.heap_alloc w o i (Nat.lt_of_lt_of_le hi h.size)).trans (h.block i hi hne)⟩
theorem only_put {g : Nat} (h : a.grownBy w (some g)) (i : Nat) (u : Value) : a.grownBy (w.setCell ⟨g, i, none⟩ u) (some g) :=
  ⟨h.os, h.tape, h.output, by simpa [World.setCell] using h.size, fun i hi hne => (Below.heap_setCell w _ u i (by
    rintro rfl
    exact hne rfl)).trans (h.block i hi hne)⟩
theorem only_any (h : a.grownBy w none) (row : Option Nat) : a.grownBy w row := ⟨h.os, h.tape, h.output, h.size, fun i hi hne => h.block i hi (by simp)⟩
theorem below_of_only {B : Nat} (h : a.grownBy w row) (hB : B ≤ a.heap.size) (hr : ∀ k, row = some k → B ≤ k) : Below B a w :=
  ⟨h.os, h.tape, h.output, h.size, fun k hk => h.block k (Nat.lt_of_lt_of_le hk hB) (fun e => by have := hr k e.symm; omega)⟩
theorem below_drewN {B : Nat} (h : Below B a w) (n : Nat) : Below B a (w.drewN n) := ⟨h.os, h.tape, h.output, h.size, h.block⟩
end

/-- A callee that leaves the world as1 it is, met in a region that draws. -/
theorem quiet_same {P : Program} {f : FuncId} {args : Array Value} {w : World} {n : Nat} {v : Value} (h : Calls P f args (w.drewN n) fun e w' => e = .returned v ∧ w.drewN n = w') : Calls P f args (w.drewN n) fun e w'' => e = .returned v ∧ ∃ m, w'' = w.drewN m :=
  h.mono fun _ _ ⟨he, hm⟩ => ⟨he, n, hm.symm⟩
theorem quiet_draws {P : Program} {f : FuncId} {args : Array Value} {w : World} {n : Nat} {v : Value} (h : Calls P f args (w.drewN n) fun e w' => e = .returned v ∧ ∃ q, (w.drewN n).drewN q = w') : Calls P f args (w.drewN n) fun e w'' => e = .returned v ∧ ∃ m, w'' = w.drewN m :=
  h.mono fun _ _ ⟨he, q, hm⟩ => ⟨he, n + q, by rw [← hm, World.drewN_drewN]⟩
theorem quiet_same2 {P : Program} {f : FuncId} {args : Array Value} {w : World} {a n : Nat} {v : Value} (h : Calls P f args (w.drewN (a + n)) fun e w' => e = .returned v ∧ w.drewN (a + n) = w') : Calls P f args (w.drewN (a + n)) fun e w'' => e = .returned v ∧ ∃ m, w'' = w.drewN (a + m) :=
  h.mono fun _ _ ⟨he, hm⟩ => ⟨he, n, hm.symm⟩
theorem quiet_draws2 {P : Program} {f : FuncId} {args : Array Value} {w : World} {a n : Nat} {v : Value} (h : Calls P f args (w.drewN (a + n)) fun e w' => e = .returned v ∧ ∃ q, (w.drewN (a + n)).drewN q = w') : Calls P f args (w.drewN (a + n)) fun e w'' => e = .returned v ∧ ∃ m, w'' = w.drewN (a + m) :=
  h.mono fun _ _ ⟨he, q, hm⟩ => ⟨he, n + q, by rw [← hm, World.drewN_drewN, Nat.add_assoc]⟩
theorem w64_byte (x : UInt8) : wrap64 (x.toNat : Int) = (x.toNat : Int) := by
  have := x.toNat_lt
  exact IntWalk.wrap64_in _ ⟨by omega, by omega⟩

/-- An owned row of other elements lies in another block. -/
theorem own_ne {w : World} {base : Nat} {e t : TypeId} {size n g : Nat} {v : Value} {xs : List Value} {cs : Array Value} (h : w.ownsRow base e size v n xs) (hg : Blk w g t cs) (hne : e ≠ t) : v.ownBlock ≠ some g := by
  rcases h.2 with ⟨rfl, _⟩ | ⟨g', cap, cur, rfl, _, hh, _⟩
  · simp [Value.ownBlock]
  · intro he
    have e1 : g' = g := by simpa [Value.ownBlock] using he
    subst e1
    have h' : Blk w g' e cur := hh
    exact h'.differ hg hne rfl

theorem own_form {w : World} {base : Nat} {e : TypeId} {size n : Nat} {v : Value} {xs : List Value} (h : w.ownsRow base e size v n xs) : ∃ A c, v = .slice A n c := by
  rcases h.2 with ⟨rfl, rfl⟩ | ⟨g', cap, cur, rfl, _⟩
  · exact ⟨_, _, rfl⟩
  · exact ⟨_, _, rfl⟩

theorem ret_int {k : IntKind} {a b : Int} (h : a = b) : Ending.returned (.int k a) = .returned (.int k b) := by rw [h]
end Go.Proofs.YthhodadfiipffaaDoor

/- The functions of package bits, and of the document's answers for it, that only reckon: each by its contract. -/
namespace Go.Proofs.YthhodadfiipffaaDoor
open Go.RowKit Go.Lib
set_option linter.unusedVariables false

theorem low_any (n : Int) (w : World) : Calls Tryd.prog 57 #[.int .i64 n] w fun e w' => e = .returned (.int .i64 (n % 256)) ∧ w = w' := by
  go_enter Tryd.func57, Tryd.ntmps57
  go_wp2
  go_ret
  exact ⟨by simp [Bt.and255], rfl⟩

theorem high_any (n : Int) (w : World) : Calls Tryd.prog 58 #[.int .i64 n] w fun e w' => e = .returned (.int .i64 (n / 256 % 256)) ∧ w = w' := by
  go_enter Tryd.func58, Tryd.ntmps58
  go_wp2
  go_ret
  exact ⟨by simp [Bt.and255], rfl⟩

theorem rest_any (n m : Int) (w : World) (h : 0 < m) (h' : m ≤ 65536) : Calls Tryd.prog 48 #[.int .i64 n, .int .i64 m] w fun e w' => e = .returned (.int .i64 (n % m)) ∧ w = w' := by
  have hr := Bt.rest_of n m h
  have hlo : -65536 < n.tmod m := by have := Int.lt_tmod_of_pos n h; omega
  by_cases hn : n.tmod m < 0
  · rw [if_pos hn] at hr
    go_enter Tryd.func48, Tryd.ntmps48
    go_wp2
    go_ret
    exact ⟨by simp, rfl⟩
  · rw [if_neg hn] at hr
    go_enter Tryd.func48, Tryd.ntmps48
    go_wp2
    go_ret
    exact ⟨by simp, rfl⟩

theorem rlow_any (n : Int) (w : World) : Calls Tryd.prog 39 #[.int .i64 n] w fun e w' => e = .returned (.int .i64 (n % 256)) ∧ w = w' := by
  go_enter Tryd.func39, Tryd.ntmps39
  go_wp2_with (go_at_call 48; refine (rest_any _ _ _ (by omega) (by omega)).mono ?_; rintro e w' ⟨rfl, rfl⟩)
  go_ret
  exact ⟨rfl, rfl⟩

theorem rhigh_any (n : Int) (w : World) : Calls Tryd.prog 40 #[.int .i64 n] w fun e w' => e = .returned (.int .i64 (n / 256 % 256)) ∧ w = w' := by
  have hb : 0 ≤ n % 65536 := by omega
  have hs : n % 65536 / 256 = n / 256 % 256 := by omega
  have HS := Lib.hid hs
  clear hs
  go_enter Tryd.func40, Tryd.ntmps40
  go_wp2_with (go_at_call 48; refine (rest_any _ _ _ (by omega) (by omega)).mono ?_; rintro e w' ⟨rfl, rfl⟩)
  go_ret
  exact ⟨by simp [HS.out], rfl⟩

theorem two_any (n m : Int) (w : World)  : Calls Tryd.prog 56 #[.int .i64 n, .int .i64 m] w fun e w' => e = .returned (.int .i64 (n % 256 + 256 * (m % 256))) ∧ w = w' := by
  have b1 : 0 ≤ n % 256 := by omega
  have b2 : n % 256 < 256 := by omega
  have b3 : 0 ≤ m % 256 := by omega
  have b4 : m % 256 < 256 := by omega
  go_enter Tryd.func56, Tryd.ntmps56
  go_wp2_with (go_at_call 57; refine (low_any _ _).mono ?_; rintro e w' ⟨rfl, rfl⟩)
  go_ret
  exact ⟨by simp [Bt.or256 _ _ b1 b2 b3 b4], rfl⟩

theorem pop8_ones : ∀ n : Fin 256, pop8 (n.val : Int) = (Bt.ones 8 n.val : Int) := by decide +kernel
theorem pop8_is (b : Int) (h0 : 0 ≤ b) (h1 : b ≤ 255) : pop8 b = (Bt.ones 8 b.toNat : Int) := by
  have e := pop8_ones ⟨b.toNat, by omega⟩
  simp only [Int.toNat_of_nonneg h0] at e
  exact e

theorem run_two_bytes (x y : Int) (W : World) : (convert 48 9 (.slice (some ⟨W.heap.size, 0, none⟩) 2 2)).run Tryd.prog (W.alloc (.cells #[.int .u8 x, .int .u8 y] 5)) =
    .ok (.string ⟨#[UInt8.ofNat x.toNat, UInt8.ofNat y.toNat]⟩) (W.alloc (.cells #[.int .u8 x, .int .u8 y] 5)) := by
  have h := run_convert_bytes_arg (P := Tryd.prog) (W.alloc (.cells #[.int .u8 x, .int .u8 y] 5)) 48 5 Tryd.underlying48 Tryd.underlying5 W.heap.size 0 2 2 [x, y] rfl (by
    intro i hi
    match i, hi with
    | 0, _ => simp
    | 1, _ => simp) 9 Tryd.underlying9
  rw [h]
  congr 2

theorem put_any (n : Int) (w : World) : Calls Tryd.prog 82 #[.int .i64 n] w fun e w' => e = .returned (.string (Bt.put n)) ∧ w.alloc (.cells #[.int .u8 (n % 256), .int .u8 (n / 256 % 256)] 5) = w' := by
  have hk := run_two_bytes (n % 256) (n / 256 % 256) w
  go_enter Tryd.func82, Tryd.ntmps82
  go_wp2_with (first | (go_at_call 57; refine (low_any _ _).mono ?_; rintro e w' ⟨rfl, rfl⟩) | (go_at_call 58; refine (high_any _ _).mono ?_; rintro e w' ⟨rfl, rfl⟩))
  go_ret
  exact ⟨rfl, rfl⟩

theorem new_any (s : ByteArray) (w : World) : Calls Tryd.prog 68 #[.string s] w fun e w' => e = .returned (.pointer (some ⟨w.heap.size, 0, none⟩)) ∧ w.alloc (.cells #[.int .i64 0, .string s, .int .i64 0] 136) = w' := by
  go_enter Tryd.func68, Tryd.ntmps68
  go_wp2
  go_ret
  exact ⟨rfl, rfl⟩
end Go.Proofs.YthhodadfiipffaaDoor

/- The memory of package mem: each of its calls by its contract. -/
namespace Go.Proofs.YthhodadfiipffaaDoor
open Go.RowKit Go.Lib
set_option linter.unusedVariables false

/-- The cells of bytes. -/
def u8Cells (l : List UInt8) : List Value := l.map fun b => .int .u8 (b.toNat : Int)
theorem u8Cells_len (l : List UInt8) : (u8Cells l).length = l.length := by simp [u8Cells]
theorem u8Cells_get {l : List UInt8} {i : Nat} (h : i < l.length) : (u8Cells l)[i]? = some (.int .u8 ((l[i]).toNat : Int)) := by simp [u8Cells, h]

/-- A memory lies in block m, its bytes l in another block; both from B on. -/
def MemV (w : World) (B m : Nat) (l : List UInt8) : Prop :=
  ∃ g, B ≤ g ∧ B ≤ m ∧ Blk w m 78 #[.slice (some ⟨g, 0, none⟩) l.length l.length] ∧ Blk w g 5 (u8Cells l).toArray

section
variable {w w' : World} {B m : Nat} {l : List UInt8}
theorem MemV.below (h : MemV w B m l) (hb : Below w.heap.size w w') : MemV w' B m l := by
  obtain ⟨g, h1, h2, h3, h4⟩ := h
  exact ⟨g, h1, h2, h3.below hb h3.lt, h4.below hb h4.lt⟩
theorem MemV.drewN (h : MemV w B m l) (n : Nat) : MemV (w.drewN n) B m l := h
end

/-- The same, the block of its bytes named. -/
def MemG (w : World) (B m g : Nat) (l : List UInt8) : Prop :=
  B ≤ g ∧ B ≤ m ∧ Blk w m 78 #[.slice (some ⟨g, 0, none⟩) l.length l.length] ∧ Blk w g 5 (u8Cells l).toArray
section
variable {w w' : World} {B m g : Nat} {l : List UInt8}
theorem MemG.mem (h : MemG w B m g l) : MemV w B m l := ⟨g, h.1, h.2.1, h.2.2.1, h.2.2.2⟩
theorem MemV.named (h : MemV w B m l) : ∃ g, MemG w B m g l := by
  obtain ⟨g, h1, h2, h3, h4⟩ := h
  exact ⟨g, h1, h2, h3, h4⟩
theorem MemG.below (h : MemG w B m g l) (hb : Below w.heap.size w w') : MemG w' B m g l := ⟨h.1, h.2.1, h.2.2.1.below hb h.2.2.1.lt, h.2.2.2.below hb h.2.2.2.lt⟩
theorem MemG.drewN (h : MemG w B m g l) (n : Nat) : MemG (w.drewN n) B m g l := h
/-- A memory stays behind a write to another block of bytes. -/
theorem MemG.far {k : Nat} (h : MemG w B m g l) (hb : w.grownBy w' (some k)) (h1 : g ≠ k) (h2 : m ≠ k) : MemG w' B m g l :=
  ⟨h.1, h.2.1, h.2.2.1.only hb (fun e => h2 (by injection e)), h.2.2.2.only hb (fun e => h1 (by injection e))⟩
theorem MemG.lt (h : MemG w B m g l) : g < w.heap.size ∧ m < w.heap.size := ⟨h.2.2.2.lt, h.2.2.1.lt⟩
theorem MemG.under (h : MemG w B m g l) (hB : B ≤ w.heap.size) (hb : w.grownBy w' (some g)) : Below B w w' := below_of_only hb hB (fun k hk => by injection hk with hk; have := h.1; omega)
end

theorem mu8_info : (Tryd.prog.info? 5).map (fun i => (i.zero, i.size, i.bytes)) = some (some (.int .u8 0), 1, 1) := by kernel_rfl

/-- How many bytes a new memory has. -/
def sizeOf' (n : Int) : Nat := if n < 0 then 0 else if 16384 < n then 16384 else n.toNat
theorem sizeOf'_le (n : Int) : sizeOf' n ≤ 16384 := by unfold sizeOf'; split <;> (try split) <;> omega

theorem made_u8 (k : Nat) : (madeCells (Value.int .u8 0).cells (k * 1)).toList = u8Cells (List.replicate k 0) := by
  have h : (Value.int .u8 0).cells = #[.int .u8 0] := rfl
  rw [h, toList_madeCells_one]
  simp [u8Cells]

/-- A row that a make laid, whole. -/
theorem whole_of_own {w : World} {B g n : Nat} {t : TypeId} {xs : List Value} (h : w.ownsRow B t 1 (.slice (some ⟨g, 0, none⟩) n n) n xs) : B ≤ g ∧ Blk w g t xs.toArray := by
  rcases h.2 with ⟨h0, _⟩ | ⟨g', cap, cur, h1, hB, h2, h3, h4, h5, h6⟩
  · cases h0
  · injection h1 with e1 e2 e3
    injection e1 with e1
    injection e1 with e1
    subst e1 e3
    refine ⟨hB, ?_⟩
    have hs : cur.toList.length = n * 1 := by simpa using h5
    rw [← hs, List.take_length] at h6
    rw [← h6]
    exact h2

set_option maxHeartbeats 800000 in
theorem mnew_any (n : Int) (w : World) : Calls Tryd.prog 9 #[.int .i64 n] w fun r w' => ∃ m, r = .returned (.pointer (some ⟨m, 0, none⟩)) ∧ MemV w' w.heap.size m (List.replicate (sizeOf' n) 0) ∧ Below w.heap.size w w' := by
  obtain ⟨i0, hi0, hz0, hz1, hz2⟩ := info_parts mu8_info
  have key : ∀ (k : Nat) (w1 : World), sizeOf' n = k → w1.ownsRow w.heap.size 5 1 (.slice (some ⟨w.heap.size, 0, none⟩) k k) k (madeCells (Value.int .u8 0).cells (k * 1)).toList → w.grownBy w1 none →
      MemV (w1.alloc (.cells #[.slice (some ⟨w.heap.size, 0, none⟩) k k] 78)) w.heap.size w1.heap.size (List.replicate (sizeOf' n) 0) ∧ Below w.heap.size w (w1.alloc (.cells #[.slice (some ⟨w.heap.size, 0, none⟩) k k] 78)) := by
    intro k w1 hk hown hg
    rw [made_u8] at hown
    obtain ⟨h1, h2⟩ := whole_of_own hown
    rw [hk]
    have hb := below_of_only hg (Nat.le_refl _) (by simp)
    refine ⟨⟨w.heap.size, Nat.le_refl _, hb.size, ?_, h2.alloc _⟩, hb.alloc hb.size _⟩
    have := Blk.new w1 78 #[.slice (some ⟨w.heap.size, 0, none⟩) k k]
    simpa using this
  have KEY := Lib.hid key
  clear key
  by_cases h0 : n < 0
  · have hs : sizeOf' n = 0 := by simp [sizeOf', h0]
    have HS := Lib.hid hs
    clear hs
    go_enter Tryd.func9, Tryd.ntmps9
    go_wp2_with (refine wpList_make_full _ rfl (.tmp 5) (.tmp 5) 48 rfl w.heap.size 5 i0 (.int .u8 0) 1 Tryd.underlying48 hi0 hz0 hz1 .i64 .i64 0 0 0 rfl rfl rfl rfl (by omega) (by unfold maxLen; omega) (Nat.le_refl _) ?_; intro w1 hown hg; have K := Lib.hid (KEY.out 0 w1 HS.out hown hg); clear hown hg)
    go_ret
    exact ⟨_, rfl, K.out⟩
  · by_cases h1 : 16384 < n
    · have hs : sizeOf' n = 16384 := by simp [sizeOf', h0, h1]
      have HS := Lib.hid hs
      clear hs
      go_enter Tryd.func9, Tryd.ntmps9
      go_wp2_with (refine wpList_make_full _ rfl (.tmp 5) (.tmp 5) 48 rfl w.heap.size 5 i0 (.int .u8 0) 1 Tryd.underlying48 hi0 hz0 hz1 .i64 .i64 16384 16384 16384 rfl rfl rfl rfl (by omega) (by unfold maxLen; omega) (Nat.le_refl _) ?_; intro w1 hown hg; have K := Lib.hid (KEY.out 16384 w1 HS.out hown hg); clear hown hg)
      go_ret
      exact ⟨_, rfl, K.out⟩
    · obtain ⟨k, rfl⟩ : ∃ k : Nat, n = k := ⟨n.toNat, by omega⟩
      have hs : sizeOf' (k : Int) = k := by unfold sizeOf'; rw [if_neg h0, if_neg h1]; omega
      have HS := Lib.hid hs
      clear hs
      go_enter Tryd.func9, Tryd.ntmps9
      go_wp2_with (refine wpList_make_full _ rfl (.tmp 5) (.tmp 5) 48 rfl w.heap.size 5 i0 (.int .u8 0) 1 Tryd.underlying48 hi0 hz0 hz1 .i64 .i64 k k k rfl rfl rfl rfl (by rw [hz2]; omega) (by unfold maxLen; omega) (Nat.le_refl _) ?_; intro w1 hown hg; have K := Lib.hid (KEY.out k w1 HS.out hown hg); clear hown hg)
      go_ret
      exact ⟨_, rfl, K.out⟩

/-- What is wrong with n places from at on, of so many. -/
def chk (len : Nat) (at' n : Int) : Int := if n < 0 then 2 else if at' < 0 then 6 else if (len : Int) < at' then 6 else if (len : Int) - at' < n then 6 else 0

theorem check_any (w : World) (m : Nat) (A : Option Addr) (len cap : Nat) (at' n : Int) (hc : w.cell? ⟨m, 0, none⟩ = some (.slice A len cap)) (hl : len ≤ 16384) :
    Calls Tryd.prog 33 #[.pointer (some ⟨m, 0, none⟩), .int .i64 at', .int .i64 n] w fun r w' => r = .returned (.int .i64 (chk len at' n)) ∧ w = w' := by
  have hcases : (n < 0 ∧ chk len at' n = 2) ∨ (¬ n < 0 ∧ at' < 0 ∧ chk len at' n = 6) ∨ (¬ n < 0 ∧ ¬ at' < 0 ∧ (len : Int) < at' ∧ chk len at' n = 6) ∨ (¬ n < 0 ∧ ¬ at' < 0 ∧ ¬ (len : Int) < at' ∧ (len : Int) - at' < n ∧ chk len at' n = 6) ∨ (¬ n < 0 ∧ ¬ at' < 0 ∧ ¬ (len : Int) < at' ∧ ¬ (len : Int) - at' < n ∧ chk len at' n = 0) := by
    unfold chk
    split <;> (try split) <;> (try split) <;> (try split) <;> simp_all
  rcases hcases with ⟨h1, e⟩ | ⟨h1, h2, e⟩ | ⟨h1, h2, h3, e⟩ | ⟨h1, h2, h3, h4, e⟩ | ⟨h1, h2, h3, h4, e⟩
  all_goals
    have E := Lib.hid e
    clear e
    go_enter Tryd.func33, Tryd.ntmps33
    go_wp2
    go_ret
    exact ⟨ret_int (by rw [E.out]), rfl⟩
end Go.Proofs.YthhodadfiipffaaDoor

/- The memory of package mem: reading and writing bytes. -/
namespace Go.Proofs.YthhodadfiipffaaDoor
open Go.RowKit Go.Lib
set_option linter.unusedVariables false

section
variable {w w' : World} {B m g : Nat} {l : List UInt8}
theorem row_cell (h : Blk w g 5 (u8Cells l).toArray) {i : Nat} (hi : i < l.length) : w.cell? ⟨g, i, none⟩ = some (.int .u8 ((l[i]).toNat : Int)) := by
  rw [h.cell i]
  simpa using u8Cells_get hi
/-- A byte of the row is written. -/
theorem u8_set (l : List UInt8) (i : Nat) (b : UInt8) : (u8Cells l).toArray.setIfInBounds i (.int .u8 (b.toNat : Int)) = (u8Cells (l.set i b)).toArray := by
  unfold u8Cells
  rw [List.map_set]
  simp
theorem u8_num (q : Int) (h0 : 0 ≤ q) (h1 : q < 256) : ((UInt8.ofNat q.toNat).toNat : Int) = q := by
  have : q.toNat < 256 := by omega
  simp [UInt8.toNat_ofNat', Nat.mod_eq_of_lt this]
  omega
theorem u8_put (h : Blk w g 5 (u8Cells l).toArray) (i : Nat) (q : Int) (h0 : 0 ≤ q) (h1 : q < 256) : Blk (w.setCell ⟨g, i, none⟩ (.int .u8 q)) g 5 (u8Cells (l.set i (UInt8.ofNat q.toNat))).toArray := by
  have := h.put i (.int .u8 ((UInt8.ofNat q.toNat).toNat : Int))
  rw [u8_set, u8_num q h0 h1] at this
  exact this
end

theorem size_info : sizeOf' 0 = 0 := rfl

theorem chk_ok {len : Nat} {at' n : Int} (h : chk len at' n = 0) : 0 ≤ n ∧ 0 ≤ at' ∧ at' + n ≤ len := by
  unfold chk at h
  split at h <;> (try split at h) <;> (try split at h) <;> (try split at h) <;> omega

theorem mget_any (w : World) (B m : Nat) (l : List UInt8) (at' : Int) (h : MemV w B m l) (hl : l.length ≤ 16384) :
    Calls Tryd.prog 74 #[.pointer (some ⟨m, 0, none⟩), .int .i64 at'] w fun r w' =>
      r = .returned (.tuple #[.int .i64 (if chk l.length at' 1 = 0 then ((l.getD at'.toNat 0).toNat : Int) else 0), .int .i64 (chk l.length at' 1)]) ∧ w = w' := by
  obtain ⟨g, hg, hm, hb, hr⟩ := h
  have c0 : w.cell? ⟨m, 0, none⟩ = some (.slice (some ⟨g, 0, none⟩) l.length l.length) := hb.cell 0
  have hck := check_any w m _ _ _ at' 1 c0 hl
  by_cases hz : chk l.length at' 1 = 0
  · have hk := chk_ok hz
    obtain ⟨k, rfl⟩ : ∃ k : Nat, at' = k := ⟨at'.toNat, by omega⟩
    have c1 := row_cell hr (show k < l.length by omega)
    have i1 : (k : Int) < (l.length : Int) := by omega
    have hv : (if chk l.length (k : Int) 1 = 0 then ((l.getD (k : Int).toNat 0).toNat : Int) else 0) = ((l[k]'(by omega)).toNat : Int) := by
      rw [if_pos hz]
      simp [List.getD, show k < l.length by omega]
    rw [hv, hz]
    rw [hz] at hck
    have HCK := Lib.hid hck
    generalize (l[k]'(by omega)) = b at *
    clear hv hz hk hck hb hr
    have HW := w64_byte b
    go_enter Tryd.func74, Tryd.ntmps74
    go_wp2_with (go_at_call 33; refine HCK.out.mono ?_; rintro e w' ⟨rfl, rfl⟩)
    go_ret2
    exact ⟨by simp [HW], rfl⟩
  · rw [if_neg hz]
    obtain ⟨x, hx⟩ : ∃ x, chk l.length at' 1 = x := ⟨_, rfl⟩
    rw [hx] at hck hz ⊢
    have HCK := Lib.hid hck
    clear hck hx
    go_enter Tryd.func74, Tryd.ntmps74
    go_wp2_with (go_at_call 33; refine HCK.out.mono ?_; rintro e w' ⟨rfl, rfl⟩)
    go_ret2
    exact ⟨rfl, rfl⟩

set_option maxHeartbeats 800000 in
theorem set_any (w : World) (B m g : Nat) (l : List UInt8) (at' n : Int) (h : MemG w B m g l) (hl : l.length ≤ 16384) :
    Calls Tryd.prog 76 #[.pointer (some ⟨m, 0, none⟩), .int .i64 at', .int .i64 n] w fun r w' =>
      r = .returned (.int .i64 (chk l.length at' 1)) ∧ MemG w' B m g (if chk l.length at' 1 = 0 then l.set at'.toNat (UInt8.ofNat (n % 256).toNat) else l) ∧ w.grownBy w' (some g) := by
  have HM := Lib.hid h
  obtain ⟨hg, hm, hb, hr⟩ := h
  have c0 : w.cell? ⟨m, 0, none⟩ = some (.slice (some ⟨g, 0, none⟩) l.length l.length) := hb.cell 0
  have hck := check_any w m _ _ _ at' 1 c0 hl
  by_cases hz : chk l.length at' 1 = 0
  · have hk := chk_ok hz
    obtain ⟨k, rfl⟩ : ∃ k : Nat, at' = k := ⟨at'.toNat, by omega⟩
    have c1 := row_cell hr (show k < l.length by omega)
    have f1 := hr.free k
    have i1 : (k : Int) < (l.length : Int) := by omega
    have hne : m ≠ g := hb.differ hr (by decide)
    have fin : MemG (w.setCell ⟨g, k, none⟩ (.int .u8 (IntKind.u8.wrap (n % 256)))).drew B m g (l.set k (UInt8.ofNat (n % 256).toNat)) ∧ w.grownBy (w.setCell ⟨g, k, none⟩ (.int .u8 (IntKind.u8.wrap (n % 256)))).drew (some g) := by
      have hw : IntKind.u8.wrap (n % 256) = n % 256 := by simp [IntKind.wrap_u8] <;> omega
      rw [hw]
      refine ⟨⟨hg, hm, ?_, ?_⟩, only_drewN (only_put (only_refl _ _) _ _) 1⟩
      · have := hb.far (p := ⟨g, k, none⟩) hne (.int .u8 (n % 256))
        have t2 : Blk (w.setCell ⟨g, k, none⟩ (.int .u8 (n % 256))) m 78 #[.slice (some ⟨g, 0, none⟩) l.length l.length] := by simpa using this
        simpa using (show Blk (w.setCell ⟨g, k, none⟩ (.int .u8 (n % 256))).drew m 78 #[.slice (some ⟨g, 0, none⟩) l.length l.length] from t2)
      · exact u8_put hr k _ (by omega) (by omega)
    have e2 : (if (0 : Int) = 0 then l.set (k : Int).toNat (UInt8.ofNat (n % 256).toNat) else l) = l.set k (UInt8.ofNat (n % 256).toNat) := by simp
    rw [hz, e2]
    rw [hz] at hck
    have HCK := Lib.hid hck
    have FIN := Lib.hid fin
    clear hck fin hb hr HM e2 hz
    go_enter Tryd.func76, Tryd.ntmps76
    go_wp2_with (go_at_call 33; refine HCK.out.mono ?_; rintro e w' ⟨rfl, rfl⟩)
    go_region_with (go_at_call 57; refine (low_any _ _).mono ?_; rintro e w' ⟨rfl, rfl⟩)
    all_goals
      go_wp2
      go_ret
      exact ⟨rfl, FIN.out⟩
  · rw [if_neg hz]
    obtain ⟨x, hx⟩ : ∃ x, chk l.length at' 1 = x := ⟨_, rfl⟩
    rw [hx] at hck hz ⊢
    have HCK := Lib.hid hck
    clear hck hx hb hr
    go_enter Tryd.func76, Tryd.ntmps76
    go_wp2_with (go_at_call 33; refine HCK.out.mono ?_; rintro e w' ⟨rfl, rfl⟩)
    go_ret
    exact ⟨rfl, HM.out, only_refl _ _⟩


theorem size_any (w : World) (B m : Nat) (l : List UInt8) (h : MemV w B m l) : Calls Tryd.prog 34 #[.pointer (some ⟨m, 0, none⟩)] w fun r w' => r = .returned (.int .i64 l.length) ∧ w = w' := by
  obtain ⟨g, hg, hm, hb, hr⟩ := h
  have c0 : w.cell? ⟨m, 0, none⟩ = some (.slice (some ⟨g, 0, none⟩) l.length l.length) := hb.cell 0
  clear hb hr
  go_enter Tryd.func34, Tryd.ntmps34
  go_wp2
  go_ret
  exact ⟨rfl, rfl⟩

/-- Two bytes of a memory. -/
def two8 (l : List UInt8) (k : Nat) : Int := ((l.getD k 0).toNat : Int) + 256 * ((l.getD (k + 1) 0).toNat : Int)

set_option maxHeartbeats 800000 in
theorem get2_any (w : World) (B m : Nat) (l : List UInt8) (at' : Int) (h : MemV w B m l) (hl : l.length ≤ 16384) :
    Calls Tryd.prog 73 #[.pointer (some ⟨m, 0, none⟩), .int .i64 at'] w fun r w' =>
      r = .returned (.tuple #[.int .i64 (if chk l.length at' 2 = 0 then two8 l at'.toNat else 0), .int .i64 (chk l.length at' 2)]) ∧ ∃ q, w.drewN q = w' := by
  obtain ⟨g, hg, hm, hb, hr⟩ := h
  have c0 : w.cell? ⟨m, 0, none⟩ = some (.slice (some ⟨g, 0, none⟩) l.length l.length) := hb.cell 0
  have hck := check_any w m _ _ _ at' 2 c0 hl
  by_cases hz : chk l.length at' 2 = 0
  · have hk := chk_ok hz
    obtain ⟨k, rfl⟩ : ∃ k : Nat, at' = k := ⟨at'.toNat, by omega⟩
    have c1 := row_cell hr (show k < l.length by omega)
    have c2 := row_cell hr (show k + 1 < l.length by omega)
    have i1 : (k : Int) < (l.length : Int) := by omega
    have i2 : (k : Int) + 1 < (l.length : Int) := by omega
    have hv : (if chk l.length (k : Int) 2 = 0 then two8 l (k : Int).toNat else 0) = ((l[k]'(by omega)).toNat : Int) % 256 + 256 * (((l[k + 1]'(by omega)).toNat : Int) % 256) := by
      rw [if_pos hz]
      have e1 := (l[k]'(by omega)).toNat_lt
      have e2 := (l[k + 1]'(by omega)).toNat_lt
      simp [two8, List.getD, show k < l.length by omega, show k + 1 < l.length by omega]
      omega
    rw [hv, hz]
    rw [hz] at hck
    have HCK := Lib.hid hck
    generalize (l[k]'(by omega)) = b at *
    generalize (l[k + 1]'(by omega)) = c at *
    clear hv hz hk hck hb hr
    have W1 := Lib.hid (w64_byte b)
    have W2 := Lib.hid (w64_byte c)
    go_enter Tryd.func73, Tryd.ntmps73
    go_wp2_with (go_at_call 33; refine HCK.out.mono ?_; rintro e w' ⟨rfl, rfl⟩)
    go_quiet ((go_at_call 56; exact quiet_same (two_any _ _ _)))
    go_wp2
    go_ret2
    exact ⟨by simp [W1.out, W2.out], _, rfl⟩
  · rw [if_neg hz]
    obtain ⟨x, hx⟩ : ∃ x, chk l.length at' 2 = x := ⟨_, rfl⟩
    rw [hx] at hck hz ⊢
    have HCK := Lib.hid hck
    clear hck hx hb hr
    go_enter Tryd.func73, Tryd.ntmps73
    go_wp2_with (go_at_call 33; refine HCK.out.mono ?_; rintro e w' ⟨rfl, rfl⟩)
    go_ret2
    exact ⟨rfl, 0, rfl⟩
end Go.Proofs.YthhodadfiipffaaDoor

/- The memory of package mem: writing and reading texts; a memory by itself. -/
namespace Go.Proofs.YthhodadfiipffaaDoor
open Go.RowKit Go.Lib
set_option linter.unusedVariables false

/-- Bytes laid over others, from place k on. -/
def over (l : List UInt8) (k : Nat) (bs : List UInt8) : List UInt8 := l.take k ++ bs ++ l.drop (k + bs.length)
theorem over_len {l bs : List UInt8} {k : Nat} (h : k + bs.length ≤ l.length) : (over l k bs).length = l.length := by simp [over]; omega
theorem over_nil (l : List UInt8) (k : Nat) : over l k [] = l := by simp [over]

/-- copy of a string's bytes into a row that is known whole. -/
theorem wpList_copy_str {P : Program} {w : World} {ops : Array Oper} {rest : List Oper} {o : Oper} {a : Act} {Q : Exit → Act → World → Prop} (hgd : o.guard = none) (d s : Operand) (dT sT : TypeId)
    (ho : o.op = .call { callee := .builtin .copy, args := #[d, s], argTypes := #[dT, sT] }) (elem : TypeId) (hu : P.underlying dT = some (.slice elem)) (hsz : (P.info? elem).map (·.size) = some 1)
    (g off dLen dCap : Nat) (t : ByteArray) (hd : a.eval d = .slice (some ⟨g, off, none⟩) dLen dCap) (hs : a.eval s = .string t)
    (cur : Array Value) (e : TypeId) (hg : w.heap[g]? = some (.cells cur e (0, 0))) (hle : t.size ≤ dLen) (hfit : off + t.size ≤ cur.size)
    (h : wpList P ops Q rest (a.put o.dst (goInt t.size)) (w.setRow g (cur.toList.take off ++ Go.Lib.byteCells t.data.toList ++ cur.toList.drop (off + t.size)).toArray)) : wpList P ops Q (o :: rest) a w := by
  refine wpList_plain hgd fun K hK => ?_
  have hrun := run_copy_row_string (P := P) w dT sT o.type elem g off dLen dCap t cur e hu hsz hg hle hfit
  unfold Oper.wp
  simp [execOp, ho, resolve, invoke, builtin, hd, hs, hrun, Result.andThen]
  simp at h
  exact hK _ _ h
theorem wpList_copy_empty {P : Program} {w : World} {ops : Array Oper} {rest : List Oper} {o : Oper} {a : Act} {Q : Exit → Act → World → Prop} (hgd : o.guard = none) (d s : Operand) (dT sT : TypeId)
    (ho : o.op = .call { callee := .builtin .copy, args := #[d, s], argTypes := #[dT, sT] }) (elem : TypeId) (hu : P.underlying dT = some (.slice elem)) (hsz : ((P.info? elem).map (·.size)).isSome = true)
    (dp : Option Addr) (dLen dCap : Nat) (t : ByteArray) (hd : a.eval d = .slice dp dLen dCap) (hs : a.eval s = .string t) (h0 : t.size = 0)
    (h : wpList P ops Q rest (a.put o.dst (goInt 0)) w) : wpList P ops Q (o :: rest) a w := by
  refine wpList_plain hgd fun K hK => ?_
  have hrun := run_copy_empty_string (P := P) w dT sT o.type elem dp dLen dCap t hu hsz h0
  unfold Oper.wp
  simp [execOp, ho, resolve, invoke, builtin, hd, hs, hrun, Result.andThen]
  exact hK _ _ h

theorem over_cells (l bs : List UInt8) (k : Nat) : (u8Cells l).take k ++ Go.Lib.byteCells bs ++ (u8Cells l).drop (k + bs.length) = u8Cells (over l k bs) := by
  simp [u8Cells, over, Go.Lib.byteCells, List.map_take, List.map_drop]
theorem blk_over {w : World} {g : Nat} {l : List UInt8} (h : Blk w g 5 (u8Cells l).toArray) (k : Nat) (t : ByteArray) :
    Blk (w.setRow g ((u8Cells l).toArray.toList.take k ++ Go.Lib.byteCells t.data.toList ++ (u8Cells l).toArray.toList.drop (k + t.size)).toArray) g 5 (u8Cells (over l k t.data.toList)).toArray := by
  have e : t.size = t.data.toList.length := by rw [Array.length_toList]; rfl
  show (World.setRow _ _ _).heap[g]? = _
  rw [setRow_heap w g _ _ _ _ h, e]
  simp only [over_cells]
theorem blk_far {w : World} {g m : Nat} {t : TypeId} {cs xs : Array Value} (h : Blk w m t cs) (hne : m ≠ g) : Blk (w.setRow g xs) m t cs := (setRow_other w g m xs (by omega)).trans h

theorem only_setRow (w : World) (g : Nat) (xs : Array Value) : w.grownBy (w.setRow g xs) (some g) :=
  ⟨rfl, rfl, rfl, by simp [World.setRow], fun k _ hk => setRow_other w g k xs (fun e => hk (by rw [e]))⟩
set_option maxRecDepth 100000 in
set_option maxHeartbeats 1600000 in
theorem mput_any (w : World) (B m g : Nat) (l : List UInt8) (at' : Int) (t : ByteArray) (h : MemG w B m g l) (hl : l.length ≤ 16384) (ht : t.size ≤ 1000000) :
    Calls Tryd.prog 13 #[.pointer (some ⟨m, 0, none⟩), .int .i64 at', .string t] w fun r w' =>
      r = .returned (.int .i64 (chk l.length at' t.size)) ∧ MemG w' B m g (if chk l.length at' t.size = 0 then over l at'.toNat t.data.toList else l) ∧ w.grownBy w' (some g) := by
  have HM := Lib.hid h
  obtain ⟨hg, hm, hb, hr⟩ := h
  have c0 : w.cell? ⟨m, 0, none⟩ = some (.slice (some ⟨g, 0, none⟩) l.length l.length) := hb.cell 0
  have hck := check_any w m _ _ _ at' t.size c0 hl
  by_cases hz : chk l.length at' t.size = 0
  · have hk := chk_ok hz
    obtain ⟨k, rfl⟩ : ∃ k : Nat, at' = k := ⟨at'.toNat, by omega⟩
    have hne : m ≠ g := hb.differ hr (by decide)
    have e2 : (if (0 : Int) = 0 then over l (k : Int).toNat t.data.toList else l) = over l k t.data.toList := by simp
    rw [hz, e2]
    rw [hz] at hck
    have HCK := Lib.hid hck
    by_cases h0 : t.size = 0
    · have e3 : over l k t.data.toList = l := by
        have : t.data.toList = [] := by
          apply List.eq_nil_of_length_eq_zero
          rw [Array.length_toList]
          exact h0
        rw [this, over_nil]
      rw [e3]
      have H0 := Lib.hid h0
      clear hck hb hr e2 hz e3 h0
      by_cases hkl : k = l.length
      · subst hkl
        go_enter Tryd.func13, Tryd.ntmps13
        go_wp2_with (first | (go_at_call 33; refine HCK.out.mono ?_; rintro e w' ⟨rfl, rfl⟩) | (refine wpList_copy_empty (o := ⟨some 23, _, _, _, _, _⟩) rfl (.tmp 21) (.tmp 22) 48 9 rfl 5 Tryd.underlying48 (by kernel_rfl) _ _ _ t rfl rfl H0.out ?_))
        go_ret
        exact ⟨rfl, HM.out, only_refl _ _⟩
      · have hlt : k < l.length := by omega
        clear hkl
        go_enter Tryd.func13, Tryd.ntmps13
        go_wp2_with (first | (go_at_call 33; refine HCK.out.mono ?_; rintro e w' ⟨rfl, rfl⟩) | (refine wpList_copy_empty (o := ⟨some 23, _, _, _, _, _⟩) rfl (.tmp 21) (.tmp 22) 48 9 rfl 5 Tryd.underlying48 (by kernel_rfl) _ _ _ t rfl rfl H0.out ?_))
        go_ret
        exact ⟨rfl, HM.out, only_refl _ _⟩
    · have hlt : k < l.length := by omega
      have fin : MemG (w.setRow g ((u8Cells l).toArray.toList.take k ++ Go.Lib.byteCells t.data.toList ++ (u8Cells l).toArray.toList.drop (k + t.size)).toArray) B m g (over l k t.data.toList) ∧ w.grownBy (w.setRow g ((u8Cells l).toArray.toList.take k ++ Go.Lib.byteCells t.data.toList ++ (u8Cells l).toArray.toList.drop (k + t.size)).toArray) (some g) := by
        have e : t.size = t.data.toList.length := by rw [Array.length_toList]; rfl
        have hlen := over_len (l := l) (bs := t.data.toList) (k := k) (by omega)
        refine ⟨⟨hg, hm, ?_, blk_over hr k t⟩, only_setRow _ _ _⟩
        rw [hlen]
        exact blk_far hb hne
      have FIN := Lib.hid fin
      have HR := Lib.hid hr
      have HS : Hid (k + t.size ≤ (u8Cells l).toArray.size) := by unfold Hid; simp [u8Cells_len]; omega
      have HLE : Hid (t.size ≤ l.length - k) := by unfold Hid; omega
      have hkt : (k : Int) + (t.size : Int) ≤ (l.length : Int) := by omega
      clear hck hb hr e2 hz hk HM fin
      go_enter Tryd.func13, Tryd.ntmps13
      go_wp2_with (first | (go_at_call 33; refine HCK.out.mono ?_; rintro e w' ⟨rfl, rfl⟩) | (refine wpList_copy_str (o := ⟨some 23, _, _, _, _, _⟩) rfl (.tmp 21) (.tmp 22) 48 9 rfl 5 Tryd.underlying48 (by kernel_rfl) g k (l.length - k) (l.length - k) t rfl rfl _ _ HR.out HLE.out HS.out ?_; generalize w.setRow g ((u8Cells l).toArray.toList.take k ++ Go.Lib.byteCells t.data.toList ++ (u8Cells l).toArray.toList.drop (k + t.size)).toArray = w2 at *))
      go_ret
      exact ⟨rfl, FIN.out⟩
  · rw [if_neg hz]
    obtain ⟨x, hx⟩ : ∃ x, chk l.length at' t.size = x := ⟨_, rfl⟩
    rw [hx] at hck hz ⊢
    have HCK := Lib.hid hck
    clear hck hx hb hr
    go_enter Tryd.func13, Tryd.ntmps13
    go_wp2_with (go_at_call 33; refine HCK.out.mono ?_; rintro e w' ⟨rfl, rfl⟩)
    go_ret
    exact ⟨rfl, HM.out, only_refl _ _⟩
end Go.Proofs.YthhodadfiipffaaDoor
