import Derived.Test.YtiicoabkhponmaaDoorZ25
import Derived.Deep.RegionHeld3
import Derived.Test.YtiicoabkhponmaaDoorZ03
import Derived.Test.YtiicoabkhponmaaDoorZ18
import Derived.Deep.RegionWith
set_option linter.all false
/- The document's words for package cpu: word, breaks, made; a state for the document's. -/
namespace Go.Proofs.YtiicoabkhponmaaDoor
open Go.RowKit Go.Lib
set_option linter.unusedVariables false
set_option maxRecDepth 8000

theorem Cu.word_any (n : Int) (w : World) : Calls Tryd.prog 28 #[.int .i64 n] w fun e w' => e = .returned (.int .i64 (n % 65536)) ∧ w = w' := by
  have HE := Lib.hid (show n % 256 + 256 * (n / 256 % 256) = n % 65536 from by omega)
  have b0 : 0 ≤ n / 256 % 256 := by omega
  have b1 : n / 256 % 256 < 256 := by omega
  go_enter Tryd.func28, Tryd.ntmps28
  go_wp2_with (first
    | (go_at_call 38; (with_reducible refine (rlow_any _ _).mono ?_); rintro e w' ⟨rfl, rfl⟩)
    | (go_at_call 49; (with_reducible refine (rhigh_any _ _).mono ?_); rintro e w' ⟨rfl, rfl⟩))
  go_ret
  exact ⟨ret_int HE.out, rfl⟩
theorem Cu.breaks_any (pc md e : Int) (r : Nat → Int) (w : World) : Calls Tryd.prog 30 #[.agg #[.int .i64 pc, .int .i64 (r 0), .int .i64 (r 1), .int .i64 (r 2), .int .i64 (r 3), .int .i64 (r 4), .int .i64 (r 5), .int .i64 (r 6), .int .i64 (r 7), .int .i64 md], .int .i64 e] w fun x w' => x = .returned (.tuple #[.agg #[.int .i64 pc, .int .i64 (r 0), .int .i64 (r 1), .int .i64 (r 2), .int .i64 (r 3), .int .i64 (r 4), .int .i64 (r 5), .int .i64 (r 6), .int .i64 (r 7), .int .i64 3], .agg #[.int .i64 5, .int .i64 0, .int .i64 0, .int .i64 e]]) ∧ w.grownBy w' none := by
  go_enter Tryd.func30, Tryd.ntmps30
  go_wp2
  refine bodyPost_ret (v := .tuple #[.agg #[.int .i64 pc, .int .i64 (r 0), .int .i64 (r 1), .int .i64 (r 2), .int .i64 (r 3), .int .i64 (r 4), .int .i64 (r 5), .int .i64 (r 6), .int .i64 (r 7), .int .i64 3], .agg #[.int .i64 5, .int .i64 0, .int .i64 0, .int .i64 e]]) (by simp [results, Tryd.results30, go_sem]) rfl ⟨rfl, ?_⟩
  repeat (first | exact only_refl _ _ | refine only_alloc ?_ _)
theorem Cu.made21_any (k : Nat) (x y n : Int) (hk : k = 3 ∨ k = 4 ∨ k = 5 ∨ k = 6) (hx : 0 ≤ x ∧ x < 65536) (hy : 0 ≤ y ∧ y < 65536) (w : World) : Calls Tryd.prog 32 #[.int .u8 k, .int .i64 x, .int .i64 y] w fun e w' => e = .returned (.int .i64 (Cu.mkV k n x y)) ∧ w = w' := by
  obtain ⟨x0, x1⟩ := hx
  obtain ⟨y0, y1⟩ := hy
  rcases hk with rfl | rfl | rfl | rfl
  all_goals
    go_enter Tryd.func32, Tryd.ntmps32
    go_wp2_with (go_at_call 28; (with_reducible refine (Cu.word_any _ _).mono ?_); rintro e w' ⟨rfl, rfl⟩)
    go_ret
    exact ⟨rfl, rfl⟩
theorem Cu.ref_any (pc md : Int) (r : Nat → Int) (w : World) : Calls Tryd.prog 9 #[.agg #[.int .i64 pc, .int .i64 (r 0), .int .i64 (r 1), .int .i64 (r 2), .int .i64 (r 3), .int .i64 (r 4), .int .i64 (r 5), .int .i64 (r 6), .int .i64 (r 7), .int .i64 md]] w fun x w' => x = .returned (.agg #[.int .i64 pc, .int .i64 (r 0), .int .i64 (r 1), .int .i64 (r 2), .int .i64 (r 3), .int .i64 (r 4), .int .i64 (r 5), .int .i64 (r 6), .int .i64 (r 7), .int .i64 md]) ∧ w.grownBy w' none := by
  go_enter Tryd.func9, Tryd.ntmps9
  go_wp2
  refine bodyPost_ret (v := .agg #[.int .i64 pc, .int .i64 (r 0), .int .i64 (r 1), .int .i64 (r 2), .int .i64 (r 3), .int .i64 (r 4), .int .i64 (r 5), .int .i64 (r 6), .int .i64 (r 7), .int .i64 md]) (by simp [results, Tryd.results9, go_sem]) rfl ⟨rfl, ?_⟩
  repeat (first | exact only_refl _ _ | refine only_alloc ?_ _)
set_option maxHeartbeats 3200000 in
theorem Cu.rstep_off (b : Value) (pc md : Int) (r : Nat → Int) (hmd : md ≠ 0) (w : World) : Calls Tryd.prog 11 #[b, .agg #[.int .i64 pc, .int .i64 (r 0), .int .i64 (r 1), .int .i64 (r 2), .int .i64 (r 3), .int .i64 (r 4), .int .i64 (r 5), .int .i64 (r 6), .int .i64 (r 7), .int .i64 md]] w fun x w' => x = .returned (.tuple #[b, .agg #[.int .i64 pc, .int .i64 (r 0), .int .i64 (r 1), .int .i64 (r 2), .int .i64 (r 3), .int .i64 (r 4), .int .i64 (r 5), .int .i64 (r 6), .int .i64 (r 7), .int .i64 md], .agg #[.int .i64 0, .int .i64 0, .int .i64 0, .int .i64 0]]) ∧ w.grownBy w' none := by
  have h1 : (md == 0) = false := by simpa using hmd
  have h2 : (md != 0) = true := by simpa using hmd
  go_enter Tryd.func11, Tryd.ntmps11
  go_upto_region 2 with (fail)
  go_region_with (fail)
  go_wp2
  refine bodyPost_ret (v := .tuple #[b, .agg #[.int .i64 pc, .int .i64 (r 0), .int .i64 (r 1), .int .i64 (r 2), .int .i64 (r 3), .int .i64 (r 4), .int .i64 (r 5), .int .i64 (r 6), .int .i64 (r 7), .int .i64 md], .agg #[.int .i64 0, .int .i64 0, .int .i64 0, .int .i64 0]]) (by simp [results, Tryd.results11, go_sem]) rfl ⟨rfl, ?_⟩
  first | exact only_drewN (only_alloc (only_alloc (only_alloc (only_refl _ _) _) _) _) 1 | (repeat (first | exact only_refl _ _ | refine only_alloc ?_ _))
end Go.Proofs.YtiicoabkhponmaaDoor

/- Sorted rows are one and the same; Total; what every law of package span asks first. -/
namespace Go.Proofs.YtiicoabkhponmaaDoor
open Go.RowKit Go.Lib Go.Sort
set_option linter.unusedVariables false

namespace So
def lst (n : Nat) (d : Nat → P2) : List P2 := (List.range n).map d
theorem lst_perm {n : Nat} {d e : Nat → P2} (h : Perm 0 n d e) : (lst n e).Perm (lst n d) := by
  obtain ⟨s, t, h1, h2, h3, h4⟩ := h
  have hs : ∀ k, k < n → s k < n := fun k hk => by
    rcases Nat.lt_or_ge (s k) n with h | h
    · exact h
    · have := h3 (s k) (by omega)
      have e2 := h1 (s k)
      rw [this] at e2
      have e1 := h1 k
      rw [e1] at e2
      omega
  have ht : ∀ k, k < n → t k < n := fun k hk => by
    rcases Nat.lt_or_ge (t k) n with h | h
    · exact h
    · have := h3 (t k) (by omega)
      rw [h2] at this
      omega
  have hp : ((List.range n).map s).Perm (List.range n) := by
    refine (List.perm_ext_iff_of_nodup ?_ List.nodup_range).2 fun a => ?_
    · refine List.Pairwise.map _ ?_ (List.nodup_range (n := n))
      intro a b hab e
      exact hab (by rw [← h1 a, ← h1 b, e])
    · simp only [List.mem_map, List.mem_range]
      exact ⟨fun ⟨k, hk, e⟩ => e ▸ hs k hk, fun hk => ⟨t a, ht a hk, h2 a⟩⟩
  have he : lst n e = ((List.range n).map s).map d := by
    unfold lst
    rw [List.map_map]
    apply List.map_congr_left
    intro k _
    exact h4 k
  rw [he]
  exact hp.map d
theorem lst_sorted {n : Nat} {d : Nat → P2} (h : Sorted d 0 n) : (lst n d).Pairwise le := by
  unfold lst
  rw [List.pairwise_map]
  have := List.pairwise_lt_range (n := n)
  refine this.imp_of_mem ?_
  intro a b ha hb hab
  exact h a b (by omega) hab (List.mem_range.1 hb)
theorem sorted_one {n : Nat} {d e f : Nat → P2} (he : Perm 0 n d e) (hf : Perm 0 n d f) (se : Sorted e 0 n) (sf : Sorted f 0 n) : ∀ k, k < n → e k = f k := by
  have hl : lst n e = lst n f := List.Perm.eq_of_pairwise (fun a b _ _ h k => le_antisymm h k) (lst_sorted se) (lst_sorted sf) ((lst_perm he).trans (lst_perm hf).symm)
  intro k hk
  have h1 : (lst n e)[k]? = some (e k) := by simp [lst, hk]
  have h2 : (lst n f)[k]? = some (f k) := by simp [lst, hk]
  rw [hl, h2] at h1
  injection h1 with h1
  exact h1.symm
end So
theorem mTo_ext {d e : Nat → Int × Int} {n : Nat} (h : ∀ k, k < n → d k = e k) : mTo d n = mTo e n := by
  induction n with
  | zero => rfl
  | succ n ih =>
    show mStep _ _ _ = mStep _ _ _
    rw [ih (fun k hk => h k (by omega)), h n (by omega)]

/-- How many places n spans have, as1 the text adds them up. -/
def tTo (o : Nat → Int × Int) : Nat → Int
  | 0 => 0
  | k + 1 => wrap64 (tTo o k + wrap64 ((o k).2 - (o k).1))

def TotalV (B n : Nat) (d : Nat → Int × Int) (w : World) (e : Ending) (w' : World) : Prop :=
  ∃ d', e = .returned (.int .i64 (tTo (mTo d' n).2 (mTo d' n).1)) ∧ So.Perm 0 n d d' ∧ So.Sorted d' 0 n ∧ Below B w w'

/-- The short trial's spans, and those in order. -/
def L0 : Nat → Int × Int := fun k => if k = 0 then (5, 7) else if k = 1 then (1, 3) else (3, 4)
theorem L0_sorted {d' : Nat → Int × Int} (hp : So.Perm 0 3 L0 d') (hs : So.Sorted d' 0 3) : mTo d' 3 = mTo (fun k => if k = 0 then (1, 3) else if k = 1 then (3, 4) else (5, 7)) 3 := by
  have p2 : So.Perm 0 3 L0 (So.swp (So.swp L0 0 1) 1 2) := (So.Perm.swp L0 ⟨by omega, by omega⟩ ⟨by omega, by omega⟩).trans (So.Perm.swp _ ⟨by omega, by omega⟩ ⟨by omega, by omega⟩)
  have q : ∀ k, k < 3 → So.swp (So.swp L0 0 1) 1 2 k = (fun k => if k = 0 then ((1, 3) : Int × Int) else if k = 1 then (3, 4) else (5, 7)) k := by
    intro k hk
    match k, hk with
    | 0, _ => rfl
    | 1, _ => rfl
    | 2, _ => rfl
  have s2 : So.Sorted (So.swp (So.swp L0 0 1) 1 2) 0 3 := by
    intro a b _ h1 h2
    have : (a = 0 ∧ b = 1) ∨ (a = 0 ∧ b = 2) ∨ (a = 1 ∧ b = 2) := by omega
    rcases this with ⟨rfl, rfl⟩ | ⟨rfl, rfl⟩ | ⟨rfl, rfl⟩
    · unfold So.le So.lt; rw [q 0 (by omega), q 1 (by omega)]; simp
    · unfold So.le So.lt; rw [q 0 (by omega), q 2 (by omega)]; simp
    · unfold So.le So.lt; rw [q 1 (by omega), q 2 (by omega)]; simp
  exact mTo_ext fun k hk => (So.sorted_one hp p2 hs s2 k hk).trans (q k hk)

def L1 : Nat → Int × Int := (mTo (fun k => if k = 0 then (1, 3) else if k = 1 then (3, 4) else (5, 7)) 3).2
theorem L1_n : (mTo (fun k => if k = 0 then ((1, 3) : Int × Int) else if k = 1 then (3, 4) else (5, 7)) 3).1 = 2 := by decide
theorem L1_0 : L1 0 = (1, 4) := by decide
theorem L1_1 : L1 1 = (5, 7) := by decide
theorem L1_total {d' : Nat → Int × Int} (hp : So.Perm 0 2 L1 d') (hs : So.Sorted d' 0 2) : tTo (mTo d' 2).2 (mTo d' 2).1 = 5 := by
  have s2 : So.Sorted L1 0 2 := by
    intro a b _ h1 h2
    obtain ⟨rfl, rfl⟩ : a = 0 ∧ b = 1 := by omega
    unfold So.le So.lt; rw [L1_0, L1_1]; simp
  have h : mTo d' 2 = mTo (fun k => if k = 0 then ((1, 4) : Int × Int) else (5, 7)) 2 := mTo_ext fun k hk => (So.sorted_one hp (So.Perm.refl _ _ _) hs s2 k hk).trans (by
    match k, hk with
    | 0, _ => exact L1_0
    | 1, _ => exact L1_1)
  rw [h]
  decide +kernel

def LiveM (B : Nat) (w : World) (e : Ending) (w' : World) : Prop := ∃ g cap, e = .returned (.slice (some ⟨g, 0, none⟩) 2 cap) ∧ RowS w' g 2 cap L1 ∧ Below B w w'

end Go.Proofs.YtiicoabkhponmaaDoor

/- Meet, Holds, In, and the document's answers for them: their contracts. -/
namespace Go.Proofs.YtiicoabkhponmaaDoor
open Go.RowKit Go.Lib Go.Sort
set_option linter.unusedVariables false

def isB (p : Int × Int) : Bool := decide (0 ≤ p.1 ∧ p.1 < p.2)
def holdsB (p : Int × Int) (k : Int) : Bool := decide (0 ≤ p.1 ∧ p.1 ≤ k ∧ k < p.2)
def inB (p : Int × Int) (n : Int) : Bool := decide (0 ≤ p.1 ∧ p.1 < p.2 ∧ p.2 ≤ n)
def meetsB (a b : Int × Int) : Bool := isB a && isB b && (holdsB a b.1 || holdsB b a.1)
def bothOf (a b : Int × Int) : Int × Int := (if a.1 < b.1 then b.1 else a.1, if b.2 < a.2 then b.2 else a.2)
def meetV (a b : Int × Int) : Int × Int := if meetsB a b then bothOf a b else (0, 0)

theorem is_any (p : Int × Int) (w : World) : Calls Tryd.prog 51 #[spv p] w fun e w' => e = .returned (.bool (isB p)) ∧ w.grownBy w' none := by
  by_cases h : 0 ≤ p.1 ∧ p.1 < p.2
  · have e : isB p = true := by simp [isB, h]
    rw [e]; exact is_yes p w h.1 h.2
  · have e : isB p = false := by simp [isB]; omega
    rw [e]; exact is_no p w h

/-- The two boxed spans of a call, in a world behind calls that lay blocks alone. -/
theorem boxes {w w2 : World} {p q : Int × Int} (g : ((w.alloc (.cells #[.int .i64 p.1, .int .i64 p.2] 49)).alloc (.cells #[.int .i64 q.1, .int .i64 q.2] 49)).grownBy w2 none) :
    w2.cell? ⟨w.heap.size, 0, none⟩ = some (.int .i64 p.1) ∧ w2.cell? ⟨w.heap.size, 1, none⟩ = some (.int .i64 p.2) ∧ w2.cell? ⟨w.heap.size + 1, 0, none⟩ = some (.int .i64 q.1) ∧ w2.cell? ⟨w.heap.size + 1, 1, none⟩ = some (.int .i64 q.2) := by
  have h1 := ((Blk.new w 49 #[.int .i64 p.1, .int .i64 p.2]).alloc (.cells #[.int .i64 q.1, .int .i64 q.2] 49)).only g (by simp)
  have h2 := (Blk.new (w.alloc (.cells #[.int .i64 p.1, .int .i64 p.2] 49)) 49 #[.int .i64 q.1, .int .i64 q.2]).only g (by simp)
  refine ⟨h1.cell 0, h1.cell 1, ?_, ?_⟩
  · simpa using h2.cell 0
  · simpa using h2.cell 1

end Go.Proofs.YtiicoabkhponmaaDoor

/- Meet: its contract; what it has to do with the document's answer. -/
namespace Go.Proofs.YtiicoabkhponmaaDoor
open Go.RowKit Go.Lib Go.Sort
set_option linter.unusedVariables false

theorem meets_iff (a b : Int × Int) : meetsB a b = (isB a && isB b && isB (bothOf a b)) := by
  obtain ⟨a1, a2⟩ := a
  obtain ⟨b1, b2⟩ := b
  rw [Bool.eq_iff_iff]
  by_cases h1 : a1 < b1 <;> by_cases h2 : b2 < a2 <;> simp only [meetsB, isB, holdsB, bothOf, Bool.and_eq_true, Bool.or_eq_true, decide_eq_true_eq, h1, h2, if_true, if_false] <;> omega
theorem holds_meet (a b : Int × Int) (k : Int) : holdsB (meetV a b) k = (holdsB a k && holdsB b k) := by
  obtain ⟨a1, a2⟩ := a
  obtain ⟨b1, b2⟩ := b
  rw [Bool.eq_iff_iff]
  by_cases h : meetsB (a1, a2) (b1, b2) = true
  · have h' := h
    simp only [meetsB, isB, holdsB, Bool.and_eq_true, Bool.or_eq_true, decide_eq_true_eq] at h'
    by_cases h1 : a1 < b1 <;> by_cases h2 : b2 < a2 <;> simp only [meetV, h, holdsB, bothOf, Bool.and_eq_true, decide_eq_true_eq, h1, h2, if_true, if_false] <;> omega
  · have h' := h
    simp only [meetsB, isB, holdsB, Bool.and_eq_true, Bool.or_eq_true, decide_eq_true_eq] at h'
    simp only [meetV, h, holdsB, Bool.and_eq_true, decide_eq_true_eq, if_false, Bool.false_eq_true]
    omega

theorem boxes3 {w w2 : World} {p q : Int × Int} (g : (((w.alloc (.cells #[.int .i64 p.1, .int .i64 p.2] 49)).alloc (.cells #[.int .i64 q.1, .int .i64 q.2] 49)).alloc (.cells #[.int .i64 0, .int .i64 0] 49)).grownBy w2 none) :
    w2.cell? ⟨w.heap.size, 0, none⟩ = some (.int .i64 p.1) ∧ w2.cell? ⟨w.heap.size, 1, none⟩ = some (.int .i64 p.2) ∧ w2.cell? ⟨w.heap.size + 1, 0, none⟩ = some (.int .i64 q.1) ∧ w2.cell? ⟨w.heap.size + 1, 1, none⟩ = some (.int .i64 q.2) ∧
    w2.cell? ⟨w.heap.size + 1 + 1, 0, none⟩ = some (.int .i64 0) ∧ w2.cell? ⟨w.heap.size + 1 + 1, 1, none⟩ = some (.int .i64 0) ∧ w2.frozen? ⟨w.heap.size + 1 + 1, 0, none⟩ = false ∧ w2.frozen? ⟨w.heap.size + 1 + 1, 1, none⟩ = false := by
  have h1 := (((Blk.new w 49 #[.int .i64 p.1, .int .i64 p.2]).alloc (.cells #[.int .i64 q.1, .int .i64 q.2] 49)).alloc (.cells #[.int .i64 0, .int .i64 0] 49)).only g (by simp)
  have h2 := ((Blk.new (w.alloc (.cells #[.int .i64 p.1, .int .i64 p.2] 49)) 49 #[.int .i64 q.1, .int .i64 q.2]).alloc (.cells #[.int .i64 0, .int .i64 0] 49)).only g (by simp)
  have h3 := (Blk.new ((w.alloc (.cells #[.int .i64 p.1, .int .i64 p.2] 49)).alloc (.cells #[.int .i64 q.1, .int .i64 q.2] 49)) 49 #[.int .i64 0, .int .i64 0]).only g (by simp)
  refine ⟨h1.cell 0, h1.cell 1, ?_, ?_, ?_, ?_, ?_, ?_⟩
  · simpa using h2.cell 0
  · simpa using h2.cell 1
  · simpa using h3.cell 0
  · simpa using h3.cell 1
  · simpa using h3.free 0
  · simpa using h3.free 1

/-- Only blocks from B on were written. -/
theorem only_far {a w : World} (h : Below a.heap.size a w) : a.grownBy w none := ⟨h.os, h.tape, h.output, h.size, fun i hi _ => h.block i hi⟩

end Go.Proofs.YtiicoabkhponmaaDoor

/- A deed that writes, done to the memory and to the document's: the contract of the law's own 'wrote'. -/
namespace Go.Proofs.YtiicoabkhponmaaDoor
open Go.RowKit Go.Lib Go.Sort
set_option linter.unusedVariables false

/-- What the numbers lie in is not the memory's row of bytes. -/
def Off (A : Option Addr) (g : Nat) : Prop := ∀ b off, A = some ⟨b, off, none⟩ → b ≠ g
theorem Ints.far {w w' : World} {A : Option Addr} {cap g : Nat} {l : List Int} (h : Ints w A cap l) (hb : w.grownBy w' (some g)) (ho : Off A g) : Ints w' A cap l := by
  refine ⟨h.1, fun hp => ?_⟩
  obtain ⟨b, off, h1, h2, h3⟩ := h.2 hp
  refine ⟨b, off, h1, Nat.lt_of_lt_of_le h2 hb.size, fun i hi => ?_⟩
  have e := hb.block b h2 (fun e => ho b off h1 (by injection e))
  rw [← h3 i hi]
  simp [World.cell?, e]
/-- The same, where there is anything. -/
def OffI (l : List UInt8) (A : Option Addr) (g : Nat) : Prop := 0 < l.length → Off A g
theorem Ints.farI {w w' : World} {A : Option Addr} {cap g : Nat} {l : List UInt8} (h : Ints w A cap (num l)) (hb : w.grownBy w' (some g)) (ho : OffI l A g) : Ints w' A cap (num l) := by
  refine ⟨h.1, fun hp => ?_⟩
  exact (h.far hb (ho (by rw [num_len] at hp; exact hp))).2 hp
theorem OwnN.off {w : World} {B g n c : Nat} {A : Option Addr} {l : List Int} (h : OwnN w B (.slice A n c) l) (hg : g < B) : Off A g := fun b off e => by
  subst e
  have := h.blk b rfl
  omega

theorem off_new {k g : Nat} (h : g < k) : Off (some ⟨k, 0, none⟩) g := fun b off e => by
  injection e with e
  injection e with e1 e2
  omega
theorem two_ints (w : World) (x y : Int) : Ints (w.alloc (.cells #[.int .i64 x, .int .i64 y] 3)) (some ⟨w.heap.size, 0, none⟩) 2 [x, y] :=
  ⟨fun e => (by cases e), fun _ => ⟨w.heap.size, 0, rfl, (Blk.new w _ _).lt, fun i hi => by
    match i, hi with
    | 0, _ => exact (Blk.new w 3 #[.int .i64 x, .int .i64 y]).cell 0
    | 1, _ => exact (Blk.new w 3 #[.int .i64 x, .int .i64 y]).cell 1⟩⟩

/-- The bytes that a deed writes. -/
def bsOf (d n : Int) (t : ByteArray) : List UInt8 := if d = 0 then [low8 n] else if d = 1 then [low8 n, low8 (n / 256)] else t.data.toList
/-- A memory behind such a deed. -/
def wroteL (l : List UInt8) (at' : Int) (bs : List UInt8) : List UInt8 := if thereB l.length at' bs.length = true then over l at'.toNat bs else l
theorem there_fit {len : Nat} {at' n : Int} (h : thereB len at' n = true) : 0 ≤ at' ∧ at' + n ≤ len := by
  simp [thereB] at h
  omega
theorem wroteL_len (l : List UInt8) (at' : Int) (bs : List UInt8) : (wroteL l at' bs).length = l.length := by
  unfold wroteL
  split
  · rename_i h
    have := there_fit h
    exact over_len (by omega)
  · rfl

theorem low8_mod (x : Int) : low8 (x % 256) = low8 x := by
  unfold low8
  rw [Int.emod_emod_of_dvd x (Int.dvd_refl 256)]
theorem low8_of (b : UInt8) : low8 (b.toNat : Int) = b := by
  have h := b.toNat_lt
  apply UInt8.toNat_inj.1
  have := low8_num (b.toNat : Int)
  omega
theorem num_low (l : List UInt8) : (num l).map low8 = l := by
  induction l with
  | nil => rfl
  | cons b l ih =>
    show low8 (b.toNat : Int) :: (num l).map low8 = b :: l
    rw [low8_of, ih]
theorem over_set {l : List UInt8} {k : Nat} {b : UInt8} (h : k < l.length) : over l k [b] = l.set k b := by
  have := over_snoc (l := l) (bs := []) (a := k) (x := b) (by simpa using h)
  simpa [over_nil] using this

/-- What is left behind such a deed. -/
def WroteV (B m g len : Nat) (l2 : List UInt8) (w : World) (e : Ending) (w' : World) : Prop :=
  ∃ A c, e = .returned (.tuple #[.slice A len c, .bool true]) ∧ MemG w' B m g l2 ∧ Ints w' A c (num l2) ∧ OffI l2 A g ∧ w.grownBy w' (some g)

/-- What stands behind the write itself: is it there, and the document's part. -/
theorem with_end (A : Option Addr) (cap : Nat) (l : List UInt8) (at' : Int) (A2 : Option Addr) (cap2 : Nat) (xs : List Int) (bs : List UInt8) (hbs : xs.map low8 = bs) (len : Nat) (hlen : len = l.length) (m : Nat) (hm : m = xs.length) (g : Nat) (w : World) (hg : g < w.heap.size) (hA : Ints w A cap (num l)) (hX : Ints w A2 cap2 xs) (ht : thereB l.length at' bs.length = true) (hl : l.length ≤ 1000) :
    Calls Tryd.prog 22 #[.slice A len cap, .int .i64 at', .slice A2 m cap2] w fun r w' => ∃ A3 c3, r = .returned (.slice A3 len c3) ∧ Ints w' A3 c3 (num (wroteL l at' bs)) ∧ Off A3 g ∧ Below w.heap.size w w' := by
  obtain ⟨h0, h1⟩ := there_fit ht
  obtain ⟨k, rfl⟩ : ∃ k : Nat, at' = k := ⟨at'.toNat, by omega⟩
  have hxl : xs.length = bs.length := by rw [← hbs, List.length_map]
  refine (rwith_any A cap l k A2 cap2 m xs hm len hlen w hA hX (by omega) hl).mono ?_
  rintro e w' ⟨v, rfl, hv, hb⟩
  rw [hbs] at hv
  have e1 : over l k bs = wroteL l (k : Int) bs := by unfold wroteL; rw [if_pos ht]; simp
  rw [e1] at hv
  obtain ⟨A3, c3, rfl, hi, _⟩ := hv.ints
  have e2 : (num (wroteL l (k : Int) bs)).length = len := by rw [num_len, wroteL_len, hlen]
  refine ⟨A3, c3, by rw [e2], hi, ?_, hb⟩
  exact hv.off hg

end Go.Proofs.YtiicoabkhponmaaDoor

/- The document's reading and writing instructions, by contract. -/
namespace Go.Proofs.YtiicoabkhponmaaDoor
open Go.RowKit Go.Lib
set_option linter.unusedVariables false
set_option maxRecDepth 8000

/-- The boxes of access: a state, an instruction, the state that is answered. -/
structure Cu.Ab (w W : World) (S I : Array Value) : Prop where
  sb : Blk W w.heap.size 32 S
  ib : Blk W (w.heap.size + 1) 67 I
  rs : Blk W (w.heap.size + 1 + 1) 32 #[.int .i64 0, .int .i64 0, .int .i64 0, .int .i64 0, .int .i64 0, .int .i64 0, .int .i64 0, .int .i64 0, .int .i64 0, .int .i64 0]
  gr : w.grownBy W none
theorem Cu.ab_new (w : World) (S I : Array Value) : Cu.Ab w (((w.alloc (.cells S 32)).alloc (.cells I 67)).alloc (.cells #[.int .i64 0, .int .i64 0, .int .i64 0, .int .i64 0, .int .i64 0, .int .i64 0, .int .i64 0, .int .i64 0, .int .i64 0, .int .i64 0] 32)) S I := by
  have b1 := Blk.new (w.alloc (.cells S 32)) 67 I
  have b2 := Blk.new ((w.alloc (.cells S 32)).alloc (.cells I 67)) 32 #[.int .i64 0, .int .i64 0, .int .i64 0, .int .i64 0, .int .i64 0, .int .i64 0, .int .i64 0, .int .i64 0, .int .i64 0, .int .i64 0]
  exact ⟨((Blk.new _ _ _).alloc _).alloc _, by simpa using b1.alloc _, by simpa using b2, only_alloc (only_alloc (only_alloc (only_refl _ _) _) _) _⟩
section
variable {w W W' : World} {S I : Array Value}
theorem Cu.Ab.grown (h : Cu.Ab w W S I) (k : W.grownBy W' none) : Cu.Ab w W' S I := ⟨h.sb.only k (by simp), h.ib.only k (by simp), h.rs.only k (by simp), only_trans h.gr k⟩
theorem Cu.Ab.put (h : Cu.Ab w W S I) (i : Nat) (v : Value) : Cu.Ab w (W.setCell ⟨w.heap.size, i, none⟩ v) (S.setIfInBounds i v) I :=
  ⟨h.sb.put i v, h.ib.far (p := ⟨w.heap.size, i, none⟩) (by show w.heap.size + 1 ≠ w.heap.size; omega) v, h.rs.far (p := ⟨w.heap.size, i, none⟩) (by show w.heap.size + 1 + 1 ≠ w.heap.size; omega) v, only_putc h.gr (p := ⟨w.heap.size, i, none⟩) (Nat.le_refl _) v⟩
theorem Cu.Ab.fin (h : Cu.Ab w W S I) (y0 y1 y2 y3 y4 y5 y6 y7 y8 y9 : Value) : ∀ W', W' = (((((((((((W.setCell ⟨w.heap.size + 1 + 1, 0, none⟩ y0).setCell ⟨w.heap.size + 1 + 1, 1, none⟩ y1).setCell ⟨w.heap.size + 1 + 1, 2, none⟩ y2).setCell ⟨w.heap.size + 1 + 1, 3, none⟩ y3).setCell ⟨w.heap.size + 1 + 1, 4, none⟩ y4).setCell ⟨w.heap.size + 1 + 1, 5, none⟩ y5).setCell ⟨w.heap.size + 1 + 1, 6, none⟩ y6).setCell ⟨w.heap.size + 1 + 1, 7, none⟩ y7).setCell ⟨w.heap.size + 1 + 1, 8, none⟩ y8).setCell ⟨w.heap.size + 1 + 1, 9, none⟩ y9)).drew → (W'.cell? ⟨w.heap.size + 1 + 1, 0, none⟩ = some y0 ∧ W'.cell? ⟨w.heap.size + 1 + 1, 1, none⟩ = some y1 ∧ W'.cell? ⟨w.heap.size + 1 + 1, 2, none⟩ = some y2 ∧ W'.cell? ⟨w.heap.size + 1 + 1, 3, none⟩ = some y3 ∧ W'.cell? ⟨w.heap.size + 1 + 1, 4, none⟩ = some y4 ∧ W'.cell? ⟨w.heap.size + 1 + 1, 5, none⟩ = some y5 ∧ W'.cell? ⟨w.heap.size + 1 + 1, 6, none⟩ = some y6 ∧ W'.cell? ⟨w.heap.size + 1 + 1, 7, none⟩ = some y7 ∧ W'.cell? ⟨w.heap.size + 1 + 1, 8, none⟩ = some y8 ∧ W'.cell? ⟨w.heap.size + 1 + 1, 9, none⟩ = some y9) ∧ w.grownBy W' none ∧ W.grownBy W' (some (w.heap.size + 1 + 1)) := by
  rintro W' rfl
  have b := ((((((((((h.rs.put 0 y0).put 1 y1).put 2 y2).put 3 y3).put 4 y4).put 5 y5).put 6 y6).put 7 y7).put 8 y8).put 9 y9)
  simp only [List.setIfInBounds_toArray, List.set_cons_zero, List.set_cons_succ] at b
  exact ⟨Cu.cells10 (b.drewN 1), only_drewN (only_putc (only_putc (only_putc (only_putc (only_putc (only_putc (only_putc (only_putc (only_putc (only_putc (h.gr) (p := ⟨w.heap.size + 1 + 1, 0, none⟩) (by show w.heap.size ≤ w.heap.size + 1 + 1; omega) y0) (p := ⟨w.heap.size + 1 + 1, 1, none⟩) (by show w.heap.size ≤ w.heap.size + 1 + 1; omega) y1) (p := ⟨w.heap.size + 1 + 1, 2, none⟩) (by show w.heap.size ≤ w.heap.size + 1 + 1; omega) y2) (p := ⟨w.heap.size + 1 + 1, 3, none⟩) (by show w.heap.size ≤ w.heap.size + 1 + 1; omega) y3) (p := ⟨w.heap.size + 1 + 1, 4, none⟩) (by show w.heap.size ≤ w.heap.size + 1 + 1; omega) y4) (p := ⟨w.heap.size + 1 + 1, 5, none⟩) (by show w.heap.size ≤ w.heap.size + 1 + 1; omega) y5) (p := ⟨w.heap.size + 1 + 1, 6, none⟩) (by show w.heap.size ≤ w.heap.size + 1 + 1; omega) y6) (p := ⟨w.heap.size + 1 + 1, 7, none⟩) (by show w.heap.size ≤ w.heap.size + 1 + 1; omega) y7) (p := ⟨w.heap.size + 1 + 1, 8, none⟩) (by show w.heap.size ≤ w.heap.size + 1 + 1; omega) y8) (p := ⟨w.heap.size + 1 + 1, 9, none⟩) (by show w.heap.size ≤ w.heap.size + 1 + 1; omega) y9) 1, only_drewN (only_put (only_put (only_put (only_put (only_put (only_put (only_put (only_put (only_put (only_put (only_refl _ _) 0 y0) 1 y1) 2 y2) 3 y3) 4 y4) 5 y5) 6 y6) 7 y7) 8 y8) 9 y9) 1⟩
end
theorem Cu.num_at {V : List UInt8} {k : Nat} (h : k < V.length) : (num V)[k]'(by rw [num_len]; exact h) = ((V.getD k 0).toNat : Int) := by
  simp [num, List.getD_eq_getElem?_getD, h]
/-- What access answers. -/
def Cu.Acc (w : World) (V : List UInt8) (A0 : Option Addr) (V' : List UInt8) (pc md : Int) (r : Nat → Int) (ok : Bool) (e : Ending) (w' : World) : Prop :=
  ∃ (A : Option Addr) (n c : Nat), e = .returned (.tuple #[.slice A n c, .agg #[.int .i64 pc, .int .i64 (r 0), .int .i64 (r 1), .int .i64 (r 2), .int .i64 (r 3), .int .i64 (r 4), .int .i64 (r 5), .int .i64 (r 6), .int .i64 (r 7), .int .i64 md], .bool ok]) ∧ n = V'.length ∧ Ints w' A c (num V') ∧ w.grownBy w' none ∧ ∀ i, i < w.heap.size → OffI V A0 i → OffI V' A i
theorem Cu.acc_mk {w w' : World} {V V' : List UInt8} {A0 : Option Addr} {pc md : Int} {r : Nat → Int} {ok : Bool} {A : Option Addr} {n c : Nat} (hn : n = V'.length) (hA : Ints w' A c (num V')) (hg : w.grownBy w' none) (ho : ∀ i, i < w.heap.size → OffI V A0 i → OffI V' A i) : Cu.Acc w V A0 V' pc md r ok (.returned (.tuple #[.slice A n c, .agg #[.int .i64 pc, .int .i64 (r 0), .int .i64 (r 1), .int .i64 (r 2), .int .i64 (r 3), .int .i64 (r 4), .int .i64 (r 5), .int .i64 (r 6), .int .i64 (r 7), .int .i64 md], .bool ok])) w' := ⟨A, n, c, rfl, hn, hA, hg, ho⟩
theorem Cu.ints_new (W : World) (xs : List Int) (cs : Array Value) (h : cs = (iCells xs).toArray) : Ints (W.alloc (.cells cs 3)) (some ⟨W.heap.size, 0, none⟩) xs.length xs := by
  refine ⟨(fun e => by cases e), fun hp => ⟨W.heap.size, 0, rfl, by simp, fun i hi => ?_⟩⟩
  have hb := (Blk.new W 3 cs).cell (0 + i)
  rw [hb, h]
  simp [iCells, hi]
theorem Cu.ints_gr {w w' : World} {A : Option Addr} {c : Nat} {l : List Int} (h : Ints w A c l) (k : w.grownBy w' none) : Ints w' A c l := h.below (Cu.below k)
end Go.Proofs.YtiicoabkhponmaaDoor
