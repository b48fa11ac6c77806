/- A deed that reads: the contract of told. (written by gen_MP4.py) -/
import Derived.Test.YthneljkaieckeaaMP2
import Derived.Test.YthneljkaieckeaaB1
namespace Go.Proofs.Ythneljkaieckeaa
open Go.RowKit Go.Lib Go.Sort
set_option linter.unusedVariables false

theorem qleft {P : Program} {f : FuncId} {args : Array Value} {w : World} {n : Nat} {v : Value} (h : Calls P f args (w.drewN n) fun e w' => e = .returned v ∧ w.drewN n = w') : Calls P f args (w.drewN n) fun e w'' => e = .returned v ∧ ∃ m, w'' = w.drewN m := h.mono fun _ _ ⟨he, hm⟩ => ⟨he, n, hm.symm⟩
/-- What told answers. -/
def ToldV (w : World) (e : Ending) (w' : World) : Prop := e = .returned (.bool true) ∧ Below w.heap.size w w'
theorem num_at {w : World} {A : Option Addr} {cap : Nat} {l : List UInt8} (h : Ints w A cap (num l)) (hk : 0 < l.length) : ∃ b off, A = some ⟨b, off, none⟩ ∧ b < w.heap.size ∧ ∀ i, i < l.length → w.cell? ⟨b, off + i, none⟩ = some (.int .i64 ((l.getD i 0).toNat : Int)) := by
  obtain ⟨b, off, h1, h2, h3⟩ := h.2 (by rw [num_len]; omega)
  refine ⟨b, off, h1, h2, fun i hi => ?_⟩
  rw [h3 i (by rw [num_len]; exact hi)]
  simp [num, hi]

set_option maxRecDepth 100000 in
set_option maxHeartbeats 3200000 in
theorem told_An (do' n : Int) (t : ByteArray) (w : World) (m len cap : Nat) (hln : len ≤ 400) (k : Nat) (b off : Nat) (x : Int) (hbl : b < w.heap.size) (c0 : w.cell? ⟨b, off + k, none⟩ = some (.int .i64 x)) (hk1 : k < len) (y z : Int) (c1 : w.cell? ⟨b, off + (k + 1), none⟩ = some (.int .i64 y)) (hk2 : k + 1 < len)
    (htwo : ∀ W, Calls Try.prog 36 #[.int .i64 x, .int .i64 y] W fun e w' => e = .returned (.int .i64 z) ∧ W = w')
    (hget : ∀ W, Below w.heap.size w W → Calls Try.prog 22 #[.pointer (some ⟨m, 0, none⟩), .int .i64 k] W fun r w' => r = .returned (.tuple #[.int .i64 x, .int .i64 0]) ∧ W = w')
    (hget2 : ∀ W, Below w.heap.size w W → Calls Try.prog 23 #[.pointer (some ⟨m, 0, none⟩), .int .i64 k] W fun r w' => r = .returned (.tuple #[.int .i64 z, .int .i64 0]) ∧ ∃ q, W.drewN q = w')
    (htext : ∀ W, Below w.heap.size w W → Calls Try.prog 10 #[.pointer (some ⟨m, 0, none⟩), .int .i64 k, .int .i64 n] W fun r w' => r = .returned (.tuple #[.string .empty, .int .i64 2]) ∧ W = w')
    (hth1 : ∀ W, Calls Try.prog 32 #[.slice (some ⟨b, off, none⟩) len cap, .int .i64 k, .int .i64 1] W fun r w' => r = .returned (.bool true) ∧ W = w')
    (hth2 : ∀ W, Calls Try.prog 32 #[.slice (some ⟨b, off, none⟩) len cap, .int .i64 k, .int .i64 2] W fun r w' => r = .returned (.bool true) ∧ W = w') (hn : n < 0) :
    Calls Try.prog 26 #[.pointer (some ⟨m, 0, none⟩), .slice (some ⟨b, off, none⟩) len cap, .agg #[.int .i64 do', .int .i64 k, .int .i64 n, .string t]] w (ToldV w) := by
  have HG := Lib.hid hget
  have HG2 := Lib.hid hget2
  have HTX := Lib.hid htext
  have HT1 := Lib.hid hth1
  have HT2 := Lib.hid hth2
  have HTW := Lib.hid htwo
  clear hget hget2 htext hth1 hth2 htwo
  have i1 : (k : Int) < (len : Int) := by omega
  have i2 : (k : Int) + 1 < (len : Int) := by omega
  go_enter Try.func26, Try.ntmps26
  go_wp2_with fail
  have HB0 := Lib.hid ((Below.refl w.heap.size w).alloc (Nat.le_refl _) (.cells #[.int .i64 do', .int .i64 k, .int .i64 n, .string t] 38))
  have hS := (show Blk (w.alloc (.cells #[.int .i64 do', .int .i64 k, .int .i64 n, .string t] 38)) w.heap.size 38 #[.int .i64 do', .int .i64 k, .int .i64 n, .string t] from Blk.new w _ _)
  have f1 : (w.alloc (.cells #[.int .i64 do', .int .i64 k, .int .i64 n, .string t] 38)).cell? ⟨w.heap.size, 1, none⟩ = some (.int .i64 k) := hS.cell 1
  have f2 : (w.alloc (.cells #[.int .i64 do', .int .i64 k, .int .i64 n, .string t] 38)).cell? ⟨w.heap.size, 2, none⟩ = some (.int .i64 n) := hS.cell 2
  have c0 := (HB0.out.cell (p := ⟨b, off + k, none⟩) hbl).trans c0
  have c1 := (HB0.out.cell (p := ⟨b, off + (k + 1), none⟩) hbl).trans c1
  clear hS
  generalize (w.alloc (.cells #[.int .i64 do', .int .i64 k, .int .i64 n, .string t] 38)) = w0 at *
  go_wp2_with (first
    | (go_at_call 22; refine (HG.out _ HB0.out).mono ?_; rintro e w1 ⟨rfl, rfl⟩)
    | (go_at_call 23; refine (HG2.out _ HB0.out).mono ?_; rintro e w1 ⟨rfl, q, rfl⟩)
    | (go_at_call 10; refine (HTX.out _ (below_drewN HB0.out q)).mono ?_; rintro e w1 ⟨rfl, rfl⟩))
  have HB1 := Lib.hid (below_drewN HB0.out q)
  have f1 : (w0.drewN q).cell? ⟨w.heap.size, 1, none⟩ = some (.int .i64 k) := f1
  have f2 : (w0.drewN q).cell? ⟨w.heap.size, 2, none⟩ = some (.int .i64 n) := f2
  have c0 : (w0.drewN q).cell? ⟨b, off + k, none⟩ = some (.int .i64 x) := c0
  have c1 : (w0.drewN q).cell? ⟨b, off + (k + 1), none⟩ = some (.int .i64 y) := c1
  generalize w0.drewN q = w1 at *
  go_quiet (first
    | (go_at_call 32; with_reducible exact qleft (HT1.out _))
    | (go_at_call 32; with_reducible exact qleft (HT2.out _)))
  have HB2 := Lib.hid (below_drewN HB1.out nq)
  have f1 : (w1.drewN nq).cell? ⟨w.heap.size, 1, none⟩ = some (.int .i64 k) := f1
  have f2 : (w1.drewN nq).cell? ⟨w.heap.size, 2, none⟩ = some (.int .i64 n) := f2
  have c0 : (w1.drewN nq).cell? ⟨b, off + k, none⟩ = some (.int .i64 x) := c0
  have c1 : (w1.drewN nq).cell? ⟨b, off + (k + 1), none⟩ = some (.int .i64 y) := c1
  generalize w1.drewN nq = w2 at *
  go_wp2_with fail
  go_quiet ((go_at_call 36; with_reducible exact qleft (HTW.out _)))
  have HB3 := Lib.hid (below_drewN HB2.out nq)
  have f1 : (w2.drewN nq).cell? ⟨w.heap.size, 1, none⟩ = some (.int .i64 k) := f1
  have f2 : (w2.drewN nq).cell? ⟨w.heap.size, 2, none⟩ = some (.int .i64 n) := f2
  have c0 : (w2.drewN nq).cell? ⟨b, off + k, none⟩ = some (.int .i64 x) := c0
  have c1 : (w2.drewN nq).cell? ⟨b, off + (k + 1), none⟩ = some (.int .i64 y) := c1
  generalize w2.drewN nq = w3 at *
  go_wp2_with fail
  go_ret
  exact ⟨by first | rfl | simp, HB3.out⟩

set_option maxRecDepth 100000 in
set_option maxHeartbeats 3200000 in
theorem told_At (do' n : Int) (t : ByteArray) (w : World) (m len cap : Nat) (hln : len ≤ 400) (k : Nat) (b off : Nat) (x : Int) (hbl : b < w.heap.size) (c0 : w.cell? ⟨b, off + k, none⟩ = some (.int .i64 x)) (hk1 : k < len) (y z : Int) (c1 : w.cell? ⟨b, off + (k + 1), none⟩ = some (.int .i64 y)) (hk2 : k + 1 < len)
    (htwo : ∀ W, Calls Try.prog 36 #[.int .i64 x, .int .i64 y] W fun e w' => e = .returned (.int .i64 z) ∧ W = w') (s : ByteArray)
    (hget : ∀ W, Below w.heap.size w W → Calls Try.prog 22 #[.pointer (some ⟨m, 0, none⟩), .int .i64 k] W fun r w' => r = .returned (.tuple #[.int .i64 x, .int .i64 0]) ∧ W = w')
    (hget2 : ∀ W, Below w.heap.size w W → Calls Try.prog 23 #[.pointer (some ⟨m, 0, none⟩), .int .i64 k] W fun r w' => r = .returned (.tuple #[.int .i64 z, .int .i64 0]) ∧ ∃ q, W.drewN q = w')
    (htext : ∀ W, Below w.heap.size w W → Calls Try.prog 10 #[.pointer (some ⟨m, 0, none⟩), .int .i64 k, .int .i64 n] W fun r w' => r = .returned (.tuple #[.string s, .int .i64 0]) ∧ W = w')
    (hth1 : ∀ W, Calls Try.prog 32 #[.slice (some ⟨b, off, none⟩) len cap, .int .i64 k, .int .i64 1] W fun r w' => r = .returned (.bool true) ∧ W = w')
    (hth2 : ∀ W, Calls Try.prog 32 #[.slice (some ⟨b, off, none⟩) len cap, .int .i64 k, .int .i64 2] W fun r w' => r = .returned (.bool true) ∧ W = w')
    (hth3 : ∀ W, Calls Try.prog 32 #[.slice (some ⟨b, off, none⟩) len cap, .int .i64 k, .int .i64 n] W fun r w' => r = .returned (.bool true) ∧ W = w')
    (hrt : ∀ W, Below w.heap.size w W → Calls Try.prog 12 #[.slice (some ⟨b, off, none⟩) len cap, .int .i64 k, .int .i64 n] W fun r w' => r = .returned (.string s) ∧ Below W.heap.size W w') (hn : 0 ≤ n) :
    Calls Try.prog 26 #[.pointer (some ⟨m, 0, none⟩), .slice (some ⟨b, off, none⟩) len cap, .agg #[.int .i64 do', .int .i64 k, .int .i64 n, .string t]] w (ToldV w) := by
  have HG := Lib.hid hget
  have HG2 := Lib.hid hget2
  have HTX := Lib.hid htext
  have HT1 := Lib.hid hth1
  have HT2 := Lib.hid hth2
  have HT3 := Lib.hid hth3
  have HRT := Lib.hid hrt
  have HTW := Lib.hid htwo
  clear hget hget2 htext hth1 hth2 hth3 hrt htwo
  have i0 : ¬ n < 0 := by omega
  have i1 : (k : Int) < (len : Int) := by omega
  have i2 : (k : Int) + 1 < (len : Int) := by omega
  go_enter Try.func26, Try.ntmps26
  go_wp2_with fail
  have HB0 := Lib.hid ((Below.refl w.heap.size w).alloc (Nat.le_refl _) (.cells #[.int .i64 do', .int .i64 k, .int .i64 n, .string t] 38))
  have hS := (show Blk (w.alloc (.cells #[.int .i64 do', .int .i64 k, .int .i64 n, .string t] 38)) w.heap.size 38 #[.int .i64 do', .int .i64 k, .int .i64 n, .string t] from Blk.new w _ _)
  have f1 : (w.alloc (.cells #[.int .i64 do', .int .i64 k, .int .i64 n, .string t] 38)).cell? ⟨w.heap.size, 1, none⟩ = some (.int .i64 k) := hS.cell 1
  have f2 : (w.alloc (.cells #[.int .i64 do', .int .i64 k, .int .i64 n, .string t] 38)).cell? ⟨w.heap.size, 2, none⟩ = some (.int .i64 n) := hS.cell 2
  have c0 := (HB0.out.cell (p := ⟨b, off + k, none⟩) hbl).trans c0
  have c1 := (HB0.out.cell (p := ⟨b, off + (k + 1), none⟩) hbl).trans c1
  clear hS
  generalize (w.alloc (.cells #[.int .i64 do', .int .i64 k, .int .i64 n, .string t] 38)) = w0 at *
  go_wp2_with (first
    | (go_at_call 22; refine (HG.out _ HB0.out).mono ?_; rintro e w1 ⟨rfl, rfl⟩)
    | (go_at_call 23; refine (HG2.out _ HB0.out).mono ?_; rintro e w1 ⟨rfl, q, rfl⟩)
    | (go_at_call 10; refine (HTX.out _ (below_drewN HB0.out q)).mono ?_; rintro e w1 ⟨rfl, rfl⟩))
  have HB1 := Lib.hid (below_drewN HB0.out q)
  have f1 : (w0.drewN q).cell? ⟨w.heap.size, 1, none⟩ = some (.int .i64 k) := f1
  have f2 : (w0.drewN q).cell? ⟨w.heap.size, 2, none⟩ = some (.int .i64 n) := f2
  have c0 : (w0.drewN q).cell? ⟨b, off + k, none⟩ = some (.int .i64 x) := c0
  have c1 : (w0.drewN q).cell? ⟨b, off + (k + 1), none⟩ = some (.int .i64 y) := c1
  generalize w0.drewN q = w1 at *
  go_quiet (first
    | (go_at_call 32; with_reducible exact qleft (HT1.out _))
    | (go_at_call 32; with_reducible exact qleft (HT2.out _)))
  have HB2 := Lib.hid (below_drewN HB1.out nq)
  have f1 : (w1.drewN nq).cell? ⟨w.heap.size, 1, none⟩ = some (.int .i64 k) := f1
  have f2 : (w1.drewN nq).cell? ⟨w.heap.size, 2, none⟩ = some (.int .i64 n) := f2
  have c0 : (w1.drewN nq).cell? ⟨b, off + k, none⟩ = some (.int .i64 x) := c0
  have c1 : (w1.drewN nq).cell? ⟨b, off + (k + 1), none⟩ = some (.int .i64 y) := c1
  generalize w1.drewN nq = w2 at *
  go_wp2_with fail
  go_quiet ((go_at_call 36; with_reducible exact qleft (HTW.out _)))
  have HB3 := Lib.hid (below_drewN HB2.out nq)
  have f1 : (w2.drewN nq).cell? ⟨w.heap.size, 1, none⟩ = some (.int .i64 k) := f1
  have f2 : (w2.drewN nq).cell? ⟨w.heap.size, 2, none⟩ = some (.int .i64 n) := f2
  have c0 : (w2.drewN nq).cell? ⟨b, off + k, none⟩ = some (.int .i64 x) := c0
  have c1 : (w2.drewN nq).cell? ⟨b, off + (k + 1), none⟩ = some (.int .i64 y) := c1
  generalize w2.drewN nq = w3 at *
  go_wp2_with (first
    | (go_at_call 32; refine (HT3.out _).mono ?_; rintro e w4 ⟨rfl, rfl⟩)
    | (go_at_call 12; refine (HRT.out _ HB3.out).mono ?_; rintro e w4 ⟨rfl, hb4⟩))
  go_ret
  exact ⟨by first | rfl | simp, HB3.out.trans (hb4.mono HB3.out.size)⟩

set_option maxRecDepth 100000 in
set_option maxHeartbeats 3200000 in
theorem told_Ao (do' n : Int) (t : ByteArray) (w : World) (m len cap : Nat) (hln : len ≤ 400) (k : Nat) (b off : Nat) (x : Int) (hbl : b < w.heap.size) (c0 : w.cell? ⟨b, off + k, none⟩ = some (.int .i64 x)) (hk1 : k < len) (y z : Int) (c1 : w.cell? ⟨b, off + (k + 1), none⟩ = some (.int .i64 y)) (hk2 : k + 1 < len)
    (htwo : ∀ W, Calls Try.prog 36 #[.int .i64 x, .int .i64 y] W fun e w' => e = .returned (.int .i64 z) ∧ W = w')
    (hget : ∀ W, Below w.heap.size w W → Calls Try.prog 22 #[.pointer (some ⟨m, 0, none⟩), .int .i64 k] W fun r w' => r = .returned (.tuple #[.int .i64 x, .int .i64 0]) ∧ W = w')
    (hget2 : ∀ W, Below w.heap.size w W → Calls Try.prog 23 #[.pointer (some ⟨m, 0, none⟩), .int .i64 k] W fun r w' => r = .returned (.tuple #[.int .i64 z, .int .i64 0]) ∧ ∃ q, W.drewN q = w')
    (htext : ∀ W, Below w.heap.size w W → Calls Try.prog 10 #[.pointer (some ⟨m, 0, none⟩), .int .i64 k, .int .i64 n] W fun r w' => r = .returned (.tuple #[.string .empty, .int .i64 6]) ∧ W = w')
    (hth1 : ∀ W, Calls Try.prog 32 #[.slice (some ⟨b, off, none⟩) len cap, .int .i64 k, .int .i64 1] W fun r w' => r = .returned (.bool true) ∧ W = w')
    (hth2 : ∀ W, Calls Try.prog 32 #[.slice (some ⟨b, off, none⟩) len cap, .int .i64 k, .int .i64 2] W fun r w' => r = .returned (.bool true) ∧ W = w')
    (hth3 : ∀ W, Calls Try.prog 32 #[.slice (some ⟨b, off, none⟩) len cap, .int .i64 k, .int .i64 n] W fun r w' => r = .returned (.bool false) ∧ W = w') (hn : 0 ≤ n) :
    Calls Try.prog 26 #[.pointer (some ⟨m, 0, none⟩), .slice (some ⟨b, off, none⟩) len cap, .agg #[.int .i64 do', .int .i64 k, .int .i64 n, .string t]] w (ToldV w) := by
  have HG := Lib.hid hget
  have HG2 := Lib.hid hget2
  have HTX := Lib.hid htext
  have HT1 := Lib.hid hth1
  have HT2 := Lib.hid hth2
  have HT3 := Lib.hid hth3
  have HTW := Lib.hid htwo
  clear hget hget2 htext hth1 hth2 hth3 htwo
  have i0 : ¬ n < 0 := by omega
  have i1 : (k : Int) < (len : Int) := by omega
  have i2 : (k : Int) + 1 < (len : Int) := by omega
  go_enter Try.func26, Try.ntmps26
  go_wp2_with fail
  have HB0 := Lib.hid ((Below.refl w.heap.size w).alloc (Nat.le_refl _) (.cells #[.int .i64 do', .int .i64 k, .int .i64 n, .string t] 38))
  have hS := (show Blk (w.alloc (.cells #[.int .i64 do', .int .i64 k, .int .i64 n, .string t] 38)) w.heap.size 38 #[.int .i64 do', .int .i64 k, .int .i64 n, .string t] from Blk.new w _ _)
  have f1 : (w.alloc (.cells #[.int .i64 do', .int .i64 k, .int .i64 n, .string t] 38)).cell? ⟨w.heap.size, 1, none⟩ = some (.int .i64 k) := hS.cell 1
  have f2 : (w.alloc (.cells #[.int .i64 do', .int .i64 k, .int .i64 n, .string t] 38)).cell? ⟨w.heap.size, 2, none⟩ = some (.int .i64 n) := hS.cell 2
  have c0 := (HB0.out.cell (p := ⟨b, off + k, none⟩) hbl).trans c0
  have c1 := (HB0.out.cell (p := ⟨b, off + (k + 1), none⟩) hbl).trans c1
  clear hS
  generalize (w.alloc (.cells #[.int .i64 do', .int .i64 k, .int .i64 n, .string t] 38)) = w0 at *
  go_wp2_with (first
    | (go_at_call 22; refine (HG.out _ HB0.out).mono ?_; rintro e w1 ⟨rfl, rfl⟩)
    | (go_at_call 23; refine (HG2.out _ HB0.out).mono ?_; rintro e w1 ⟨rfl, q, rfl⟩)
    | (go_at_call 10; refine (HTX.out _ (below_drewN HB0.out q)).mono ?_; rintro e w1 ⟨rfl, rfl⟩))
  have HB1 := Lib.hid (below_drewN HB0.out q)
  have f1 : (w0.drewN q).cell? ⟨w.heap.size, 1, none⟩ = some (.int .i64 k) := f1
  have f2 : (w0.drewN q).cell? ⟨w.heap.size, 2, none⟩ = some (.int .i64 n) := f2
  have c0 : (w0.drewN q).cell? ⟨b, off + k, none⟩ = some (.int .i64 x) := c0
  have c1 : (w0.drewN q).cell? ⟨b, off + (k + 1), none⟩ = some (.int .i64 y) := c1
  generalize w0.drewN q = w1 at *
  go_quiet (first
    | (go_at_call 32; with_reducible exact qleft (HT1.out _))
    | (go_at_call 32; with_reducible exact qleft (HT2.out _)))
  have HB2 := Lib.hid (below_drewN HB1.out nq)
  have f1 : (w1.drewN nq).cell? ⟨w.heap.size, 1, none⟩ = some (.int .i64 k) := f1
  have f2 : (w1.drewN nq).cell? ⟨w.heap.size, 2, none⟩ = some (.int .i64 n) := f2
  have c0 : (w1.drewN nq).cell? ⟨b, off + k, none⟩ = some (.int .i64 x) := c0
  have c1 : (w1.drewN nq).cell? ⟨b, off + (k + 1), none⟩ = some (.int .i64 y) := c1
  generalize w1.drewN nq = w2 at *
  go_wp2_with fail
  go_quiet ((go_at_call 36; with_reducible exact qleft (HTW.out _)))
  have HB3 := Lib.hid (below_drewN HB2.out nq)
  have f1 : (w2.drewN nq).cell? ⟨w.heap.size, 1, none⟩ = some (.int .i64 k) := f1
  have f2 : (w2.drewN nq).cell? ⟨w.heap.size, 2, none⟩ = some (.int .i64 n) := f2
  have c0 : (w2.drewN nq).cell? ⟨b, off + k, none⟩ = some (.int .i64 x) := c0
  have c1 : (w2.drewN nq).cell? ⟨b, off + (k + 1), none⟩ = some (.int .i64 y) := c1
  generalize w2.drewN nq = w3 at *
  go_wp2_with (first
    | (go_at_call 32; refine (HT3.out _).mono ?_; rintro e w4 ⟨rfl, rfl⟩))
  go_ret
  exact ⟨by first | rfl | simp, HB3.out⟩

set_option maxRecDepth 100000 in
set_option maxHeartbeats 3200000 in
theorem told_Bn (do' n : Int) (t : ByteArray) (w : World) (m len cap : Nat) (hln : len ≤ 400) (k : Nat) (b off : Nat) (x : Int) (hbl : b < w.heap.size) (c0 : w.cell? ⟨b, off + k, none⟩ = some (.int .i64 x)) (hk1 : k < len)
    (hget : ∀ W, Below w.heap.size w W → Calls Try.prog 22 #[.pointer (some ⟨m, 0, none⟩), .int .i64 k] W fun r w' => r = .returned (.tuple #[.int .i64 x, .int .i64 0]) ∧ W = w')
    (hget2 : ∀ W, Below w.heap.size w W → Calls Try.prog 23 #[.pointer (some ⟨m, 0, none⟩), .int .i64 k] W fun r w' => r = .returned (.tuple #[.int .i64 0, .int .i64 6]) ∧ ∃ q, W.drewN q = w')
    (htext : ∀ W, Below w.heap.size w W → Calls Try.prog 10 #[.pointer (some ⟨m, 0, none⟩), .int .i64 k, .int .i64 n] W fun r w' => r = .returned (.tuple #[.string .empty, .int .i64 2]) ∧ W = w')
    (hth1 : ∀ W, Calls Try.prog 32 #[.slice (some ⟨b, off, none⟩) len cap, .int .i64 k, .int .i64 1] W fun r w' => r = .returned (.bool true) ∧ W = w')
    (hth2 : ∀ W, Calls Try.prog 32 #[.slice (some ⟨b, off, none⟩) len cap, .int .i64 k, .int .i64 2] W fun r w' => r = .returned (.bool false) ∧ W = w') (hn : n < 0) :
    Calls Try.prog 26 #[.pointer (some ⟨m, 0, none⟩), .slice (some ⟨b, off, none⟩) len cap, .agg #[.int .i64 do', .int .i64 k, .int .i64 n, .string t]] w (ToldV w) := by
  have HG := Lib.hid hget
  have HG2 := Lib.hid hget2
  have HTX := Lib.hid htext
  have HT1 := Lib.hid hth1
  have HT2 := Lib.hid hth2
  clear hget hget2 htext hth1 hth2
  have i1 : (k : Int) < (len : Int) := by omega
  go_enter Try.func26, Try.ntmps26
  go_wp2_with fail
  have HB0 := Lib.hid ((Below.refl w.heap.size w).alloc (Nat.le_refl _) (.cells #[.int .i64 do', .int .i64 k, .int .i64 n, .string t] 38))
  have hS := (show Blk (w.alloc (.cells #[.int .i64 do', .int .i64 k, .int .i64 n, .string t] 38)) w.heap.size 38 #[.int .i64 do', .int .i64 k, .int .i64 n, .string t] from Blk.new w _ _)
  have f1 : (w.alloc (.cells #[.int .i64 do', .int .i64 k, .int .i64 n, .string t] 38)).cell? ⟨w.heap.size, 1, none⟩ = some (.int .i64 k) := hS.cell 1
  have f2 : (w.alloc (.cells #[.int .i64 do', .int .i64 k, .int .i64 n, .string t] 38)).cell? ⟨w.heap.size, 2, none⟩ = some (.int .i64 n) := hS.cell 2
  have c0 := (HB0.out.cell (p := ⟨b, off + k, none⟩) hbl).trans c0
  clear hS
  generalize (w.alloc (.cells #[.int .i64 do', .int .i64 k, .int .i64 n, .string t] 38)) = w0 at *
  go_wp2_with (first
    | (go_at_call 22; refine (HG.out _ HB0.out).mono ?_; rintro e w1 ⟨rfl, rfl⟩)
    | (go_at_call 23; refine (HG2.out _ HB0.out).mono ?_; rintro e w1 ⟨rfl, q, rfl⟩)
    | (go_at_call 10; refine (HTX.out _ (below_drewN HB0.out q)).mono ?_; rintro e w1 ⟨rfl, rfl⟩))
  have HB1 := Lib.hid (below_drewN HB0.out q)
  have f1 : (w0.drewN q).cell? ⟨w.heap.size, 1, none⟩ = some (.int .i64 k) := f1
  have f2 : (w0.drewN q).cell? ⟨w.heap.size, 2, none⟩ = some (.int .i64 n) := f2
  have c0 : (w0.drewN q).cell? ⟨b, off + k, none⟩ = some (.int .i64 x) := c0
  generalize w0.drewN q = w1 at *
  go_quiet (first
    | (go_at_call 32; with_reducible exact qleft (HT1.out _))
    | (go_at_call 32; with_reducible exact qleft (HT2.out _)))
  have HB2 := Lib.hid (below_drewN HB1.out nq)
  have f1 : (w1.drewN nq).cell? ⟨w.heap.size, 1, none⟩ = some (.int .i64 k) := f1
  have f2 : (w1.drewN nq).cell? ⟨w.heap.size, 2, none⟩ = some (.int .i64 n) := f2
  have c0 : (w1.drewN nq).cell? ⟨b, off + k, none⟩ = some (.int .i64 x) := c0
  generalize w1.drewN nq = w2 at *
  go_wp2_with fail
  go_quiet (fail)
  have HB3 := Lib.hid (below_drewN HB2.out nq)
  have f1 : (w2.drewN nq).cell? ⟨w.heap.size, 1, none⟩ = some (.int .i64 k) := f1
  have f2 : (w2.drewN nq).cell? ⟨w.heap.size, 2, none⟩ = some (.int .i64 n) := f2
  have c0 : (w2.drewN nq).cell? ⟨b, off + k, none⟩ = some (.int .i64 x) := c0
  generalize w2.drewN nq = w3 at *
  go_wp2_with fail
  go_ret
  exact ⟨by first | rfl | simp, HB3.out⟩

set_option maxRecDepth 100000 in
set_option maxHeartbeats 3200000 in
theorem told_Bt (do' n : Int) (t : ByteArray) (w : World) (m len cap : Nat) (hln : len ≤ 400) (k : Nat) (b off : Nat) (x : Int) (hbl : b < w.heap.size) (c0 : w.cell? ⟨b, off + k, none⟩ = some (.int .i64 x)) (hk1 : k < len) (s : ByteArray)
    (hget : ∀ W, Below w.heap.size w W → Calls Try.prog 22 #[.pointer (some ⟨m, 0, none⟩), .int .i64 k] W fun r w' => r = .returned (.tuple #[.int .i64 x, .int .i64 0]) ∧ W = w')
    (hget2 : ∀ W, Below w.heap.size w W → Calls Try.prog 23 #[.pointer (some ⟨m, 0, none⟩), .int .i64 k] W fun r w' => r = .returned (.tuple #[.int .i64 0, .int .i64 6]) ∧ ∃ q, W.drewN q = w')
    (htext : ∀ W, Below w.heap.size w W → Calls Try.prog 10 #[.pointer (some ⟨m, 0, none⟩), .int .i64 k, .int .i64 n] W fun r w' => r = .returned (.tuple #[.string s, .int .i64 0]) ∧ W = w')
    (hth1 : ∀ W, Calls Try.prog 32 #[.slice (some ⟨b, off, none⟩) len cap, .int .i64 k, .int .i64 1] W fun r w' => r = .returned (.bool true) ∧ W = w')
    (hth2 : ∀ W, Calls Try.prog 32 #[.slice (some ⟨b, off, none⟩) len cap, .int .i64 k, .int .i64 2] W fun r w' => r = .returned (.bool false) ∧ W = w')
    (hth3 : ∀ W, Calls Try.prog 32 #[.slice (some ⟨b, off, none⟩) len cap, .int .i64 k, .int .i64 n] W fun r w' => r = .returned (.bool true) ∧ W = w')
    (hrt : ∀ W, Below w.heap.size w W → Calls Try.prog 12 #[.slice (some ⟨b, off, none⟩) len cap, .int .i64 k, .int .i64 n] W fun r w' => r = .returned (.string s) ∧ Below W.heap.size W w') (hn : 0 ≤ n) :
    Calls Try.prog 26 #[.pointer (some ⟨m, 0, none⟩), .slice (some ⟨b, off, none⟩) len cap, .agg #[.int .i64 do', .int .i64 k, .int .i64 n, .string t]] w (ToldV w) := by
  have HG := Lib.hid hget
  have HG2 := Lib.hid hget2
  have HTX := Lib.hid htext
  have HT1 := Lib.hid hth1
  have HT2 := Lib.hid hth2
  have HT3 := Lib.hid hth3
  have HRT := Lib.hid hrt
  clear hget hget2 htext hth1 hth2 hth3 hrt
  have i0 : ¬ n < 0 := by omega
  have i1 : (k : Int) < (len : Int) := by omega
  go_enter Try.func26, Try.ntmps26
  go_wp2_with fail
  have HB0 := Lib.hid ((Below.refl w.heap.size w).alloc (Nat.le_refl _) (.cells #[.int .i64 do', .int .i64 k, .int .i64 n, .string t] 38))
  have hS := (show Blk (w.alloc (.cells #[.int .i64 do', .int .i64 k, .int .i64 n, .string t] 38)) w.heap.size 38 #[.int .i64 do', .int .i64 k, .int .i64 n, .string t] from Blk.new w _ _)
  have f1 : (w.alloc (.cells #[.int .i64 do', .int .i64 k, .int .i64 n, .string t] 38)).cell? ⟨w.heap.size, 1, none⟩ = some (.int .i64 k) := hS.cell 1
  have f2 : (w.alloc (.cells #[.int .i64 do', .int .i64 k, .int .i64 n, .string t] 38)).cell? ⟨w.heap.size, 2, none⟩ = some (.int .i64 n) := hS.cell 2
  have c0 := (HB0.out.cell (p := ⟨b, off + k, none⟩) hbl).trans c0
  clear hS
  generalize (w.alloc (.cells #[.int .i64 do', .int .i64 k, .int .i64 n, .string t] 38)) = w0 at *
  go_wp2_with (first
    | (go_at_call 22; refine (HG.out _ HB0.out).mono ?_; rintro e w1 ⟨rfl, rfl⟩)
    | (go_at_call 23; refine (HG2.out _ HB0.out).mono ?_; rintro e w1 ⟨rfl, q, rfl⟩)
    | (go_at_call 10; refine (HTX.out _ (below_drewN HB0.out q)).mono ?_; rintro e w1 ⟨rfl, rfl⟩))
  have HB1 := Lib.hid (below_drewN HB0.out q)
  have f1 : (w0.drewN q).cell? ⟨w.heap.size, 1, none⟩ = some (.int .i64 k) := f1
  have f2 : (w0.drewN q).cell? ⟨w.heap.size, 2, none⟩ = some (.int .i64 n) := f2
  have c0 : (w0.drewN q).cell? ⟨b, off + k, none⟩ = some (.int .i64 x) := c0
  generalize w0.drewN q = w1 at *
  go_quiet (first
    | (go_at_call 32; with_reducible exact qleft (HT1.out _))
    | (go_at_call 32; with_reducible exact qleft (HT2.out _)))
  have HB2 := Lib.hid (below_drewN HB1.out nq)
  have f1 : (w1.drewN nq).cell? ⟨w.heap.size, 1, none⟩ = some (.int .i64 k) := f1
  have f2 : (w1.drewN nq).cell? ⟨w.heap.size, 2, none⟩ = some (.int .i64 n) := f2
  have c0 : (w1.drewN nq).cell? ⟨b, off + k, none⟩ = some (.int .i64 x) := c0
  generalize w1.drewN nq = w2 at *
  go_wp2_with fail
  go_quiet (fail)
  have HB3 := Lib.hid (below_drewN HB2.out nq)
  have f1 : (w2.drewN nq).cell? ⟨w.heap.size, 1, none⟩ = some (.int .i64 k) := f1
  have f2 : (w2.drewN nq).cell? ⟨w.heap.size, 2, none⟩ = some (.int .i64 n) := f2
  have c0 : (w2.drewN nq).cell? ⟨b, off + k, none⟩ = some (.int .i64 x) := c0
  generalize w2.drewN nq = w3 at *
  go_wp2_with (first
    | (go_at_call 32; refine (HT3.out _).mono ?_; rintro e w4 ⟨rfl, rfl⟩)
    | (go_at_call 12; refine (HRT.out _ HB3.out).mono ?_; rintro e w4 ⟨rfl, hb4⟩))
  go_ret
  exact ⟨by first | rfl | simp, HB3.out.trans (hb4.mono HB3.out.size)⟩

set_option maxRecDepth 100000 in
set_option maxHeartbeats 3200000 in
theorem told_Bo (do' n : Int) (t : ByteArray) (w : World) (m len cap : Nat) (hln : len ≤ 400) (k : Nat) (b off : Nat) (x : Int) (hbl : b < w.heap.size) (c0 : w.cell? ⟨b, off + k, none⟩ = some (.int .i64 x)) (hk1 : k < len)
    (hget : ∀ W, Below w.heap.size w W → Calls Try.prog 22 #[.pointer (some ⟨m, 0, none⟩), .int .i64 k] W fun r w' => r = .returned (.tuple #[.int .i64 x, .int .i64 0]) ∧ W = w')
    (hget2 : ∀ W, Below w.heap.size w W → Calls Try.prog 23 #[.pointer (some ⟨m, 0, none⟩), .int .i64 k] W fun r w' => r = .returned (.tuple #[.int .i64 0, .int .i64 6]) ∧ ∃ q, W.drewN q = w')
    (htext : ∀ W, Below w.heap.size w W → Calls Try.prog 10 #[.pointer (some ⟨m, 0, none⟩), .int .i64 k, .int .i64 n] W fun r w' => r = .returned (.tuple #[.string .empty, .int .i64 6]) ∧ W = w')
    (hth1 : ∀ W, Calls Try.prog 32 #[.slice (some ⟨b, off, none⟩) len cap, .int .i64 k, .int .i64 1] W fun r w' => r = .returned (.bool true) ∧ W = w')
    (hth2 : ∀ W, Calls Try.prog 32 #[.slice (some ⟨b, off, none⟩) len cap, .int .i64 k, .int .i64 2] W fun r w' => r = .returned (.bool false) ∧ W = w')
    (hth3 : ∀ W, Calls Try.prog 32 #[.slice (some ⟨b, off, none⟩) len cap, .int .i64 k, .int .i64 n] W fun r w' => r = .returned (.bool false) ∧ W = w') (hn : 0 ≤ n) :
    Calls Try.prog 26 #[.pointer (some ⟨m, 0, none⟩), .slice (some ⟨b, off, none⟩) len cap, .agg #[.int .i64 do', .int .i64 k, .int .i64 n, .string t]] w (ToldV w) := by
  have HG := Lib.hid hget
  have HG2 := Lib.hid hget2
  have HTX := Lib.hid htext
  have HT1 := Lib.hid hth1
  have HT2 := Lib.hid hth2
  have HT3 := Lib.hid hth3
  clear hget hget2 htext hth1 hth2 hth3
  have i0 : ¬ n < 0 := by omega
  have i1 : (k : Int) < (len : Int) := by omega
  go_enter Try.func26, Try.ntmps26
  go_wp2_with fail
  have HB0 := Lib.hid ((Below.refl w.heap.size w).alloc (Nat.le_refl _) (.cells #[.int .i64 do', .int .i64 k, .int .i64 n, .string t] 38))
  have hS := (show Blk (w.alloc (.cells #[.int .i64 do', .int .i64 k, .int .i64 n, .string t] 38)) w.heap.size 38 #[.int .i64 do', .int .i64 k, .int .i64 n, .string t] from Blk.new w _ _)
  have f1 : (w.alloc (.cells #[.int .i64 do', .int .i64 k, .int .i64 n, .string t] 38)).cell? ⟨w.heap.size, 1, none⟩ = some (.int .i64 k) := hS.cell 1
  have f2 : (w.alloc (.cells #[.int .i64 do', .int .i64 k, .int .i64 n, .string t] 38)).cell? ⟨w.heap.size, 2, none⟩ = some (.int .i64 n) := hS.cell 2
  have c0 := (HB0.out.cell (p := ⟨b, off + k, none⟩) hbl).trans c0
  clear hS
  generalize (w.alloc (.cells #[.int .i64 do', .int .i64 k, .int .i64 n, .string t] 38)) = w0 at *
  go_wp2_with (first
    | (go_at_call 22; refine (HG.out _ HB0.out).mono ?_; rintro e w1 ⟨rfl, rfl⟩)
    | (go_at_call 23; refine (HG2.out _ HB0.out).mono ?_; rintro e w1 ⟨rfl, q, rfl⟩)
    | (go_at_call 10; refine (HTX.out _ (below_drewN HB0.out q)).mono ?_; rintro e w1 ⟨rfl, rfl⟩))
  have HB1 := Lib.hid (below_drewN HB0.out q)
  have f1 : (w0.drewN q).cell? ⟨w.heap.size, 1, none⟩ = some (.int .i64 k) := f1
  have f2 : (w0.drewN q).cell? ⟨w.heap.size, 2, none⟩ = some (.int .i64 n) := f2
  have c0 : (w0.drewN q).cell? ⟨b, off + k, none⟩ = some (.int .i64 x) := c0
  generalize w0.drewN q = w1 at *
  go_quiet (first
    | (go_at_call 32; with_reducible exact qleft (HT1.out _))
    | (go_at_call 32; with_reducible exact qleft (HT2.out _)))
  have HB2 := Lib.hid (below_drewN HB1.out nq)
  have f1 : (w1.drewN nq).cell? ⟨w.heap.size, 1, none⟩ = some (.int .i64 k) := f1
  have f2 : (w1.drewN nq).cell? ⟨w.heap.size, 2, none⟩ = some (.int .i64 n) := f2
  have c0 : (w1.drewN nq).cell? ⟨b, off + k, none⟩ = some (.int .i64 x) := c0
  generalize w1.drewN nq = w2 at *
  go_wp2_with fail
  go_quiet (fail)
  have HB3 := Lib.hid (below_drewN HB2.out nq)
  have f1 : (w2.drewN nq).cell? ⟨w.heap.size, 1, none⟩ = some (.int .i64 k) := f1
  have f2 : (w2.drewN nq).cell? ⟨w.heap.size, 2, none⟩ = some (.int .i64 n) := f2
  have c0 : (w2.drewN nq).cell? ⟨b, off + k, none⟩ = some (.int .i64 x) := c0
  generalize w2.drewN nq = w3 at *
  go_wp2_with (first
    | (go_at_call 32; refine (HT3.out _).mono ?_; rintro e w4 ⟨rfl, rfl⟩))
  go_ret
  exact ⟨by first | rfl | simp, HB3.out⟩

set_option maxRecDepth 100000 in
set_option maxHeartbeats 3200000 in
theorem told_Cn (do' n : Int) (t : ByteArray) (w : World) (m len cap : Nat) (hln : len ≤ 400) (p : Int) (Aa : Option Addr)
    (hget : ∀ W, Below w.heap.size w W → Calls Try.prog 22 #[.pointer (some ⟨m, 0, none⟩), .int .i64 p] W fun r w' => r = .returned (.tuple #[.int .i64 0, .int .i64 6]) ∧ W = w')
    (hget2 : ∀ W, Below w.heap.size w W → Calls Try.prog 23 #[.pointer (some ⟨m, 0, none⟩), .int .i64 p] W fun r w' => r = .returned (.tuple #[.int .i64 0, .int .i64 6]) ∧ ∃ q, W.drewN q = w')
    (htext : ∀ W, Below w.heap.size w W → Calls Try.prog 10 #[.pointer (some ⟨m, 0, none⟩), .int .i64 p, .int .i64 n] W fun r w' => r = .returned (.tuple #[.string .empty, .int .i64 2]) ∧ W = w')
    (hth1 : ∀ W, Calls Try.prog 32 #[.slice Aa len cap, .int .i64 p, .int .i64 1] W fun r w' => r = .returned (.bool false) ∧ W = w')
    (hth2 : ∀ W, Calls Try.prog 32 #[.slice Aa len cap, .int .i64 p, .int .i64 2] W fun r w' => r = .returned (.bool false) ∧ W = w') (hn : n < 0) :
    Calls Try.prog 26 #[.pointer (some ⟨m, 0, none⟩), .slice Aa len cap, .agg #[.int .i64 do', .int .i64 p, .int .i64 n, .string t]] w (ToldV w) := by
  have HG := Lib.hid hget
  have HG2 := Lib.hid hget2
  have HTX := Lib.hid htext
  have HT1 := Lib.hid hth1
  have HT2 := Lib.hid hth2
  clear hget hget2 htext hth1 hth2
  go_enter Try.func26, Try.ntmps26
  go_wp2_with fail
  have HB0 := Lib.hid ((Below.refl w.heap.size w).alloc (Nat.le_refl _) (.cells #[.int .i64 do', .int .i64 p, .int .i64 n, .string t] 38))
  have hS := (show Blk (w.alloc (.cells #[.int .i64 do', .int .i64 p, .int .i64 n, .string t] 38)) w.heap.size 38 #[.int .i64 do', .int .i64 p, .int .i64 n, .string t] from Blk.new w _ _)
  have f1 : (w.alloc (.cells #[.int .i64 do', .int .i64 p, .int .i64 n, .string t] 38)).cell? ⟨w.heap.size, 1, none⟩ = some (.int .i64 p) := hS.cell 1
  have f2 : (w.alloc (.cells #[.int .i64 do', .int .i64 p, .int .i64 n, .string t] 38)).cell? ⟨w.heap.size, 2, none⟩ = some (.int .i64 n) := hS.cell 2
  clear hS
  generalize (w.alloc (.cells #[.int .i64 do', .int .i64 p, .int .i64 n, .string t] 38)) = w0 at *
  go_wp2_with (first
    | (go_at_call 22; refine (HG.out _ HB0.out).mono ?_; rintro e w1 ⟨rfl, rfl⟩)
    | (go_at_call 23; refine (HG2.out _ HB0.out).mono ?_; rintro e w1 ⟨rfl, q, rfl⟩)
    | (go_at_call 10; refine (HTX.out _ (below_drewN HB0.out q)).mono ?_; rintro e w1 ⟨rfl, rfl⟩))
  have HB1 := Lib.hid (below_drewN HB0.out q)
  have f1 : (w0.drewN q).cell? ⟨w.heap.size, 1, none⟩ = some (.int .i64 p) := f1
  have f2 : (w0.drewN q).cell? ⟨w.heap.size, 2, none⟩ = some (.int .i64 n) := f2
  generalize w0.drewN q = w1 at *
  go_quiet (first
    | (go_at_call 32; with_reducible exact qleft (HT1.out _))
    | (go_at_call 32; with_reducible exact qleft (HT2.out _)))
  have HB2 := Lib.hid (below_drewN HB1.out nq)
  have f1 : (w1.drewN nq).cell? ⟨w.heap.size, 1, none⟩ = some (.int .i64 p) := f1
  have f2 : (w1.drewN nq).cell? ⟨w.heap.size, 2, none⟩ = some (.int .i64 n) := f2
  generalize w1.drewN nq = w2 at *
  go_wp2_with fail
  go_quiet (fail)
  have HB3 := Lib.hid (below_drewN HB2.out nq)
  have f1 : (w2.drewN nq).cell? ⟨w.heap.size, 1, none⟩ = some (.int .i64 p) := f1
  have f2 : (w2.drewN nq).cell? ⟨w.heap.size, 2, none⟩ = some (.int .i64 n) := f2
  generalize w2.drewN nq = w3 at *
  go_wp2_with fail
  go_ret
  exact ⟨by first | rfl | simp, HB3.out⟩

set_option maxRecDepth 100000 in
set_option maxHeartbeats 3200000 in
theorem told_Ct (do' n : Int) (t : ByteArray) (w : World) (m len cap : Nat) (hln : len ≤ 400) (p : Int) (Aa : Option Addr) (s : ByteArray)
    (hget : ∀ W, Below w.heap.size w W → Calls Try.prog 22 #[.pointer (some ⟨m, 0, none⟩), .int .i64 p] W fun r w' => r = .returned (.tuple #[.int .i64 0, .int .i64 6]) ∧ W = w')
    (hget2 : ∀ W, Below w.heap.size w W → Calls Try.prog 23 #[.pointer (some ⟨m, 0, none⟩), .int .i64 p] W fun r w' => r = .returned (.tuple #[.int .i64 0, .int .i64 6]) ∧ ∃ q, W.drewN q = w')
    (htext : ∀ W, Below w.heap.size w W → Calls Try.prog 10 #[.pointer (some ⟨m, 0, none⟩), .int .i64 p, .int .i64 n] W fun r w' => r = .returned (.tuple #[.string s, .int .i64 0]) ∧ W = w')
    (hth1 : ∀ W, Calls Try.prog 32 #[.slice Aa len cap, .int .i64 p, .int .i64 1] W fun r w' => r = .returned (.bool false) ∧ W = w')
    (hth2 : ∀ W, Calls Try.prog 32 #[.slice Aa len cap, .int .i64 p, .int .i64 2] W fun r w' => r = .returned (.bool false) ∧ W = w')
    (hth3 : ∀ W, Calls Try.prog 32 #[.slice Aa len cap, .int .i64 p, .int .i64 n] W fun r w' => r = .returned (.bool true) ∧ W = w')
    (hrt : ∀ W, Below w.heap.size w W → Calls Try.prog 12 #[.slice Aa len cap, .int .i64 p, .int .i64 n] W fun r w' => r = .returned (.string s) ∧ Below W.heap.size W w') (hn : 0 ≤ n) :
    Calls Try.prog 26 #[.pointer (some ⟨m, 0, none⟩), .slice Aa len cap, .agg #[.int .i64 do', .int .i64 p, .int .i64 n, .string t]] w (ToldV w) := by
  have HG := Lib.hid hget
  have HG2 := Lib.hid hget2
  have HTX := Lib.hid htext
  have HT1 := Lib.hid hth1
  have HT2 := Lib.hid hth2
  have HT3 := Lib.hid hth3
  have HRT := Lib.hid hrt
  clear hget hget2 htext hth1 hth2 hth3 hrt
  have i0 : ¬ n < 0 := by omega
  go_enter Try.func26, Try.ntmps26
  go_wp2_with fail
  have HB0 := Lib.hid ((Below.refl w.heap.size w).alloc (Nat.le_refl _) (.cells #[.int .i64 do', .int .i64 p, .int .i64 n, .string t] 38))
  have hS := (show Blk (w.alloc (.cells #[.int .i64 do', .int .i64 p, .int .i64 n, .string t] 38)) w.heap.size 38 #[.int .i64 do', .int .i64 p, .int .i64 n, .string t] from Blk.new w _ _)
  have f1 : (w.alloc (.cells #[.int .i64 do', .int .i64 p, .int .i64 n, .string t] 38)).cell? ⟨w.heap.size, 1, none⟩ = some (.int .i64 p) := hS.cell 1
  have f2 : (w.alloc (.cells #[.int .i64 do', .int .i64 p, .int .i64 n, .string t] 38)).cell? ⟨w.heap.size, 2, none⟩ = some (.int .i64 n) := hS.cell 2
  clear hS
  generalize (w.alloc (.cells #[.int .i64 do', .int .i64 p, .int .i64 n, .string t] 38)) = w0 at *
  go_wp2_with (first
    | (go_at_call 22; refine (HG.out _ HB0.out).mono ?_; rintro e w1 ⟨rfl, rfl⟩)
    | (go_at_call 23; refine (HG2.out _ HB0.out).mono ?_; rintro e w1 ⟨rfl, q, rfl⟩)
    | (go_at_call 10; refine (HTX.out _ (below_drewN HB0.out q)).mono ?_; rintro e w1 ⟨rfl, rfl⟩))
  have HB1 := Lib.hid (below_drewN HB0.out q)
  have f1 : (w0.drewN q).cell? ⟨w.heap.size, 1, none⟩ = some (.int .i64 p) := f1
  have f2 : (w0.drewN q).cell? ⟨w.heap.size, 2, none⟩ = some (.int .i64 n) := f2
  generalize w0.drewN q = w1 at *
  go_quiet (first
    | (go_at_call 32; with_reducible exact qleft (HT1.out _))
    | (go_at_call 32; with_reducible exact qleft (HT2.out _)))
  have HB2 := Lib.hid (below_drewN HB1.out nq)
  have f1 : (w1.drewN nq).cell? ⟨w.heap.size, 1, none⟩ = some (.int .i64 p) := f1
  have f2 : (w1.drewN nq).cell? ⟨w.heap.size, 2, none⟩ = some (.int .i64 n) := f2
  generalize w1.drewN nq = w2 at *
  go_wp2_with fail
  go_quiet (fail)
  have HB3 := Lib.hid (below_drewN HB2.out nq)
  have f1 : (w2.drewN nq).cell? ⟨w.heap.size, 1, none⟩ = some (.int .i64 p) := f1
  have f2 : (w2.drewN nq).cell? ⟨w.heap.size, 2, none⟩ = some (.int .i64 n) := f2
  generalize w2.drewN nq = w3 at *
  go_wp2_with (first
    | (go_at_call 32; refine (HT3.out _).mono ?_; rintro e w4 ⟨rfl, rfl⟩)
    | (go_at_call 12; refine (HRT.out _ HB3.out).mono ?_; rintro e w4 ⟨rfl, hb4⟩))
  go_ret
  exact ⟨by first | rfl | simp, HB3.out.trans (hb4.mono HB3.out.size)⟩

set_option maxRecDepth 100000 in
set_option maxHeartbeats 3200000 in
theorem told_Co (do' n : Int) (t : ByteArray) (w : World) (m len cap : Nat) (hln : len ≤ 400) (p : Int) (Aa : Option Addr)
    (hget : ∀ W, Below w.heap.size w W → Calls Try.prog 22 #[.pointer (some ⟨m, 0, none⟩), .int .i64 p] W fun r w' => r = .returned (.tuple #[.int .i64 0, .int .i64 6]) ∧ W = w')
    (hget2 : ∀ W, Below w.heap.size w W → Calls Try.prog 23 #[.pointer (some ⟨m, 0, none⟩), .int .i64 p] W fun r w' => r = .returned (.tuple #[.int .i64 0, .int .i64 6]) ∧ ∃ q, W.drewN q = w')
    (htext : ∀ W, Below w.heap.size w W → Calls Try.prog 10 #[.pointer (some ⟨m, 0, none⟩), .int .i64 p, .int .i64 n] W fun r w' => r = .returned (.tuple #[.string .empty, .int .i64 6]) ∧ W = w')
    (hth1 : ∀ W, Calls Try.prog 32 #[.slice Aa len cap, .int .i64 p, .int .i64 1] W fun r w' => r = .returned (.bool false) ∧ W = w')
    (hth2 : ∀ W, Calls Try.prog 32 #[.slice Aa len cap, .int .i64 p, .int .i64 2] W fun r w' => r = .returned (.bool false) ∧ W = w')
    (hth3 : ∀ W, Calls Try.prog 32 #[.slice Aa len cap, .int .i64 p, .int .i64 n] W fun r w' => r = .returned (.bool false) ∧ W = w') (hn : 0 ≤ n) :
    Calls Try.prog 26 #[.pointer (some ⟨m, 0, none⟩), .slice Aa len cap, .agg #[.int .i64 do', .int .i64 p, .int .i64 n, .string t]] w (ToldV w) := by
  have HG := Lib.hid hget
  have HG2 := Lib.hid hget2
  have HTX := Lib.hid htext
  have HT1 := Lib.hid hth1
  have HT2 := Lib.hid hth2
  have HT3 := Lib.hid hth3
  clear hget hget2 htext hth1 hth2 hth3
  have i0 : ¬ n < 0 := by omega
  go_enter Try.func26, Try.ntmps26
  go_wp2_with fail
  have HB0 := Lib.hid ((Below.refl w.heap.size w).alloc (Nat.le_refl _) (.cells #[.int .i64 do', .int .i64 p, .int .i64 n, .string t] 38))
  have hS := (show Blk (w.alloc (.cells #[.int .i64 do', .int .i64 p, .int .i64 n, .string t] 38)) w.heap.size 38 #[.int .i64 do', .int .i64 p, .int .i64 n, .string t] from Blk.new w _ _)
  have f1 : (w.alloc (.cells #[.int .i64 do', .int .i64 p, .int .i64 n, .string t] 38)).cell? ⟨w.heap.size, 1, none⟩ = some (.int .i64 p) := hS.cell 1
  have f2 : (w.alloc (.cells #[.int .i64 do', .int .i64 p, .int .i64 n, .string t] 38)).cell? ⟨w.heap.size, 2, none⟩ = some (.int .i64 n) := hS.cell 2
  clear hS
  generalize (w.alloc (.cells #[.int .i64 do', .int .i64 p, .int .i64 n, .string t] 38)) = w0 at *
  go_wp2_with (first
    | (go_at_call 22; refine (HG.out _ HB0.out).mono ?_; rintro e w1 ⟨rfl, rfl⟩)
    | (go_at_call 23; refine (HG2.out _ HB0.out).mono ?_; rintro e w1 ⟨rfl, q, rfl⟩)
    | (go_at_call 10; refine (HTX.out _ (below_drewN HB0.out q)).mono ?_; rintro e w1 ⟨rfl, rfl⟩))
  have HB1 := Lib.hid (below_drewN HB0.out q)
  have f1 : (w0.drewN q).cell? ⟨w.heap.size, 1, none⟩ = some (.int .i64 p) := f1
  have f2 : (w0.drewN q).cell? ⟨w.heap.size, 2, none⟩ = some (.int .i64 n) := f2
  generalize w0.drewN q = w1 at *
  go_quiet (first
    | (go_at_call 32; with_reducible exact qleft (HT1.out _))
    | (go_at_call 32; with_reducible exact qleft (HT2.out _)))
  have HB2 := Lib.hid (below_drewN HB1.out nq)
  have f1 : (w1.drewN nq).cell? ⟨w.heap.size, 1, none⟩ = some (.int .i64 p) := f1
  have f2 : (w1.drewN nq).cell? ⟨w.heap.size, 2, none⟩ = some (.int .i64 n) := f2
  generalize w1.drewN nq = w2 at *
  go_wp2_with fail
  go_quiet (fail)
  have HB3 := Lib.hid (below_drewN HB2.out nq)
  have f1 : (w2.drewN nq).cell? ⟨w.heap.size, 1, none⟩ = some (.int .i64 p) := f1
  have f2 : (w2.drewN nq).cell? ⟨w.heap.size, 2, none⟩ = some (.int .i64 n) := f2
  generalize w2.drewN nq = w3 at *
  go_wp2_with (first
    | (go_at_call 32; refine (HT3.out _).mono ?_; rintro e w4 ⟨rfl, rfl⟩))
  go_ret
  exact ⟨by first | rfl | simp, HB3.out⟩
end Go.Proofs.Ythneljkaieckeaa
