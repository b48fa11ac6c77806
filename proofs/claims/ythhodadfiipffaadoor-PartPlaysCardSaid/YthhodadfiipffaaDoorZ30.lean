import Derived.Test.YthhodadfiipffaaDoorZ17
import Derived.Deep.RegionHeld3
import Derived.Test.YthhodadfiipffaaDoorZ23
import Derived.Deep.RegionWith
set_option linter.all false
/- The document's words for package cpu: word, breaks, made; a state for the document's. -/
namespace Go.Proofs.YthhodadfiipffaaDoor
open Go.RowKit Go.Lib
set_option linter.unusedVariables false
set_option maxRecDepth 8000

theorem Cu.word_any (n : Int) (w : World) : Calls Tryd.prog 50 #[.int .i64 n] w fun e w' => e = .returned (.int .i64 (n % 65536)) ∧ w = w' := by
  have HE := Lib.hid (show n % 256 + 256 * (n / 256 % 256) = n % 65536 from by omega)
  have b0 : 0 ≤ n / 256 % 256 := by omega
  have b1 : n / 256 % 256 < 256 := by omega
  go_enter Tryd.func50, Tryd.ntmps50
  go_wp2_with (first
    | (go_at_call 39; (with_reducible refine (rlow_any _ _).mono ?_); rintro e w' ⟨rfl, rfl⟩)
    | (go_at_call 40; (with_reducible refine (rhigh_any _ _).mono ?_); rintro e w' ⟨rfl, rfl⟩))
  go_ret
  exact ⟨ret_int HE.out, rfl⟩
theorem Cu.breaks_any (pc md e : Int) (r : Nat → Int) (w : World) : Calls Tryd.prog 52 #[.agg #[.int .i64 pc, .int .i64 (r 0), .int .i64 (r 1), .int .i64 (r 2), .int .i64 (r 3), .int .i64 (r 4), .int .i64 (r 5), .int .i64 (r 6), .int .i64 (r 7), .int .i64 md], .int .i64 e] w fun x w' => x = .returned (.tuple #[.agg #[.int .i64 pc, .int .i64 (r 0), .int .i64 (r 1), .int .i64 (r 2), .int .i64 (r 3), .int .i64 (r 4), .int .i64 (r 5), .int .i64 (r 6), .int .i64 (r 7), .int .i64 3], .agg #[.int .i64 5, .int .i64 0, .int .i64 0, .int .i64 e]]) ∧ w.grownBy w' none := by
  go_enter Tryd.func52, Tryd.ntmps52
  go_wp2
  refine bodyPost_ret (v := .tuple #[.agg #[.int .i64 pc, .int .i64 (r 0), .int .i64 (r 1), .int .i64 (r 2), .int .i64 (r 3), .int .i64 (r 4), .int .i64 (r 5), .int .i64 (r 6), .int .i64 (r 7), .int .i64 3], .agg #[.int .i64 5, .int .i64 0, .int .i64 0, .int .i64 e]]) (by simp [results, Tryd.results52, go_sem]) rfl ⟨rfl, ?_⟩
  repeat (first | exact only_refl _ _ | refine only_alloc ?_ _)
theorem Cu.made21_any (k : Nat) (x y n : Int) (hk : k = 3 ∨ k = 4 ∨ k = 5 ∨ k = 6) (hx : 0 ≤ x ∧ x < 65536) (hy : 0 ≤ y ∧ y < 65536) (w : World) : Calls Tryd.prog 54 #[.int .u8 k, .int .i64 x, .int .i64 y] w fun e w' => e = .returned (.int .i64 (Cu.mkV k n x y)) ∧ w = w' := by
  obtain ⟨x0, x1⟩ := hx
  obtain ⟨y0, y1⟩ := hy
  rcases hk with rfl | rfl | rfl | rfl
  all_goals
    go_enter Tryd.func54, Tryd.ntmps54
    go_wp2_with (go_at_call 50; (with_reducible refine (Cu.word_any _ _).mono ?_); rintro e w' ⟨rfl, rfl⟩)
    go_ret
    exact ⟨rfl, rfl⟩
set_option maxHeartbeats 3200000 in
theorem Cu.rstep_off (b : Value) (pc md : Int) (r : Nat → Int) (hmd : md ≠ 0) (w : World) : Calls Tryd.prog 42 #[b, .agg #[.int .i64 pc, .int .i64 (r 0), .int .i64 (r 1), .int .i64 (r 2), .int .i64 (r 3), .int .i64 (r 4), .int .i64 (r 5), .int .i64 (r 6), .int .i64 (r 7), .int .i64 md]] w fun x w' => x = .returned (.tuple #[b, .agg #[.int .i64 pc, .int .i64 (r 0), .int .i64 (r 1), .int .i64 (r 2), .int .i64 (r 3), .int .i64 (r 4), .int .i64 (r 5), .int .i64 (r 6), .int .i64 (r 7), .int .i64 md], .agg #[.int .i64 0, .int .i64 0, .int .i64 0, .int .i64 0]]) ∧ w.grownBy w' none := by
  have h1 : (md == 0) = false := by simpa using hmd
  have h2 : (md != 0) = true := by simpa using hmd
  go_enter Tryd.func42, Tryd.ntmps42
  go_upto_region 2 with (fail)
  go_region_with (fail)
  go_wp2
  refine bodyPost_ret (v := .tuple #[b, .agg #[.int .i64 pc, .int .i64 (r 0), .int .i64 (r 1), .int .i64 (r 2), .int .i64 (r 3), .int .i64 (r 4), .int .i64 (r 5), .int .i64 (r 6), .int .i64 (r 7), .int .i64 md], .agg #[.int .i64 0, .int .i64 0, .int .i64 0, .int .i64 0]]) (by simp [results, Tryd.results42, go_sem]) rfl ⟨rfl, ?_⟩
  first | exact only_drewN (only_alloc (only_alloc (only_alloc (only_refl _ _) _) _) _) 1 | (repeat (first | exact only_refl _ _ | refine only_alloc ?_ _))
end Go.Proofs.YthhodadfiipffaaDoor

/- The document's reading and writing instructions, by contract. -/
namespace Go.Proofs.YthhodadfiipffaaDoor
open Go.RowKit Go.Lib
set_option linter.unusedVariables false
set_option maxRecDepth 8000

/-- The boxes of access: a state, an instruction, the state that is answered. -/
structure Cu.Ab (w W : World) (S I : Array Value) : Prop where
  sb : Blk W w.heap.size 35 S
  ib : Blk W (w.heap.size + 1) 104 I
  rs : Blk W (w.heap.size + 1 + 1) 35 #[.int .i64 0, .int .i64 0, .int .i64 0, .int .i64 0, .int .i64 0, .int .i64 0, .int .i64 0, .int .i64 0, .int .i64 0, .int .i64 0]
  gr : w.grownBy W none
theorem Cu.ab_new (w : World) (S I : Array Value) : Cu.Ab w (((w.alloc (.cells S 35)).alloc (.cells I 104)).alloc (.cells #[.int .i64 0, .int .i64 0, .int .i64 0, .int .i64 0, .int .i64 0, .int .i64 0, .int .i64 0, .int .i64 0, .int .i64 0, .int .i64 0] 35)) S I := by
  have b1 := Blk.new (w.alloc (.cells S 35)) 104 I
  have b2 := Blk.new ((w.alloc (.cells S 35)).alloc (.cells I 104)) 35 #[.int .i64 0, .int .i64 0, .int .i64 0, .int .i64 0, .int .i64 0, .int .i64 0, .int .i64 0, .int .i64 0, .int .i64 0, .int .i64 0]
  exact ⟨((Blk.new _ _ _).alloc _).alloc _, by simpa using b1.alloc _, by simpa using b2, only_alloc (only_alloc (only_alloc (only_refl _ _) _) _) _⟩
section
variable {w W W' : World} {S I : Array Value}
theorem Cu.Ab.grown (h : Cu.Ab w W S I) (k : W.grownBy W' none) : Cu.Ab w W' S I := ⟨h.sb.only k (by simp), h.ib.only k (by simp), h.rs.only k (by simp), only_trans h.gr k⟩
theorem Cu.Ab.put (h : Cu.Ab w W S I) (i : Nat) (v : Value) : Cu.Ab w (W.setCell ⟨w.heap.size, i, none⟩ v) (S.setIfInBounds i v) I :=
  ⟨h.sb.put i v, h.ib.far (p := ⟨w.heap.size, i, none⟩) (by show w.heap.size + 1 ≠ w.heap.size; omega) v, h.rs.far (p := ⟨w.heap.size, i, none⟩) (by show w.heap.size + 1 + 1 ≠ w.heap.size; omega) v, only_putc h.gr (p := ⟨w.heap.size, i, none⟩) (Nat.le_refl _) v⟩
theorem Cu.Ab.fin (h : Cu.Ab w W S I) (y0 y1 y2 y3 y4 y5 y6 y7 y8 y9 : Value) : ∀ W', W' = (((((((((((W.setCell ⟨w.heap.size + 1 + 1, 0, none⟩ y0).setCell ⟨w.heap.size + 1 + 1, 1, none⟩ y1).setCell ⟨w.heap.size + 1 + 1, 2, none⟩ y2).setCell ⟨w.heap.size + 1 + 1, 3, none⟩ y3).setCell ⟨w.heap.size + 1 + 1, 4, none⟩ y4).setCell ⟨w.heap.size + 1 + 1, 5, none⟩ y5).setCell ⟨w.heap.size + 1 + 1, 6, none⟩ y6).setCell ⟨w.heap.size + 1 + 1, 7, none⟩ y7).setCell ⟨w.heap.size + 1 + 1, 8, none⟩ y8).setCell ⟨w.heap.size + 1 + 1, 9, none⟩ y9)).drew → (W'.cell? ⟨w.heap.size + 1 + 1, 0, none⟩ = some y0 ∧ W'.cell? ⟨w.heap.size + 1 + 1, 1, none⟩ = some y1 ∧ W'.cell? ⟨w.heap.size + 1 + 1, 2, none⟩ = some y2 ∧ W'.cell? ⟨w.heap.size + 1 + 1, 3, none⟩ = some y3 ∧ W'.cell? ⟨w.heap.size + 1 + 1, 4, none⟩ = some y4 ∧ W'.cell? ⟨w.heap.size + 1 + 1, 5, none⟩ = some y5 ∧ W'.cell? ⟨w.heap.size + 1 + 1, 6, none⟩ = some y6 ∧ W'.cell? ⟨w.heap.size + 1 + 1, 7, none⟩ = some y7 ∧ W'.cell? ⟨w.heap.size + 1 + 1, 8, none⟩ = some y8 ∧ W'.cell? ⟨w.heap.size + 1 + 1, 9, none⟩ = some y9) ∧ w.grownBy W' none ∧ W.grownBy W' (some (w.heap.size + 1 + 1)) := by
  rintro W' rfl
  have b := ((((((((((h.rs.put 0 y0).put 1 y1).put 2 y2).put 3 y3).put 4 y4).put 5 y5).put 6 y6).put 7 y7).put 8 y8).put 9 y9)
  simp only [List.setIfInBounds_toArray, List.set_cons_zero, List.set_cons_succ] at b
  exact ⟨Cu.cells10 (b.drewN 1), only_drewN (only_putc (only_putc (only_putc (only_putc (only_putc (only_putc (only_putc (only_putc (only_putc (only_putc (h.gr) (p := ⟨w.heap.size + 1 + 1, 0, none⟩) (by show w.heap.size ≤ w.heap.size + 1 + 1; omega) y0) (p := ⟨w.heap.size + 1 + 1, 1, none⟩) (by show w.heap.size ≤ w.heap.size + 1 + 1; omega) y1) (p := ⟨w.heap.size + 1 + 1, 2, none⟩) (by show w.heap.size ≤ w.heap.size + 1 + 1; omega) y2) (p := ⟨w.heap.size + 1 + 1, 3, none⟩) (by show w.heap.size ≤ w.heap.size + 1 + 1; omega) y3) (p := ⟨w.heap.size + 1 + 1, 4, none⟩) (by show w.heap.size ≤ w.heap.size + 1 + 1; omega) y4) (p := ⟨w.heap.size + 1 + 1, 5, none⟩) (by show w.heap.size ≤ w.heap.size + 1 + 1; omega) y5) (p := ⟨w.heap.size + 1 + 1, 6, none⟩) (by show w.heap.size ≤ w.heap.size + 1 + 1; omega) y6) (p := ⟨w.heap.size + 1 + 1, 7, none⟩) (by show w.heap.size ≤ w.heap.size + 1 + 1; omega) y7) (p := ⟨w.heap.size + 1 + 1, 8, none⟩) (by show w.heap.size ≤ w.heap.size + 1 + 1; omega) y8) (p := ⟨w.heap.size + 1 + 1, 9, none⟩) (by show w.heap.size ≤ w.heap.size + 1 + 1; omega) y9) 1, only_drewN (only_put (only_put (only_put (only_put (only_put (only_put (only_put (only_put (only_put (only_put (only_refl _ _) 0 y0) 1 y1) 2 y2) 3 y3) 4 y4) 5 y5) 6 y6) 7 y7) 8 y8) 9 y9) 1⟩
end
theorem Cu.num_at {V : List UInt8} {k : Nat} (h : k < V.length) : (num V)[k]'(by rw [num_len]; exact h) = ((V.getD k 0).toNat : Int) := by
  simp [num, List.getD_eq_getElem?_getD, h]
/-- What access answers. -/
def Cu.Acc (w : World) (V : List UInt8) (A0 : Option Addr) (V' : List UInt8) (pc md : Int) (r : Nat → Int) (ok : Bool) (e : Ending) (w' : World) : Prop :=
  ∃ (A : Option Addr) (n c : Nat), e = .returned (.tuple #[.slice A n c, .agg #[.int .i64 pc, .int .i64 (r 0), .int .i64 (r 1), .int .i64 (r 2), .int .i64 (r 3), .int .i64 (r 4), .int .i64 (r 5), .int .i64 (r 6), .int .i64 (r 7), .int .i64 md], .bool ok]) ∧ n = V'.length ∧ Ints w' A c (num V') ∧ w.grownBy w' none ∧ ∀ i, i < w.heap.size → OffI V A0 i → OffI V' A i
theorem Cu.acc_mk {w w' : World} {V V' : List UInt8} {A0 : Option Addr} {pc md : Int} {r : Nat → Int} {ok : Bool} {A : Option Addr} {n c : Nat} (hn : n = V'.length) (hA : Ints w' A c (num V')) (hg : w.grownBy w' none) (ho : ∀ i, i < w.heap.size → OffI V A0 i → OffI V' A i) : Cu.Acc w V A0 V' pc md r ok (.returned (.tuple #[.slice A n c, .agg #[.int .i64 pc, .int .i64 (r 0), .int .i64 (r 1), .int .i64 (r 2), .int .i64 (r 3), .int .i64 (r 4), .int .i64 (r 5), .int .i64 (r 6), .int .i64 (r 7), .int .i64 md], .bool ok])) w' := ⟨A, n, c, rfl, hn, hA, hg, ho⟩
theorem Cu.ints_new (W : World) (xs : List Int) (cs : Array Value) (h : cs = (iCells xs).toArray) : Ints (W.alloc (.cells cs 3)) (some ⟨W.heap.size, 0, none⟩) xs.length xs := by
  refine ⟨(fun e => by cases e), fun hp => ⟨W.heap.size, 0, rfl, by simp, fun i hi => ?_⟩⟩
  have hb := (Blk.new W 3 cs).cell (0 + i)
  rw [hb, h]
  simp [iCells, hi]
theorem Cu.ints_gr {w w' : World} {A : Option Addr} {c : Nat} {l : List Int} (h : Ints w A c l) (k : w.grownBy w' none) : Ints w' A c l := h.below (Cu.below k)
end Go.Proofs.YthhodadfiipffaaDoor
