import Derived.Test.YtpolkioaagahhaaDoorZ08
import Derived.Test.YtpolkioaagahhaaDoorZ02
import Derived.Laws.OwnMore
import Derived.Laws.AppendOwnNone
import Derived.Test.YtpolkioaagahhaaDoorZ01
import Derived.Deep.Upon
import Derived.Lib.SliceRun
import Derived.Maps.AppendAt
import Derived.Lib.Hide
set_option linter.all false
/- Package cpu: a step, by contract. -/
namespace Go.Proofs.YtpolkioaagahhaaDoor
open Go.RowKit Go.Lib
set_option linter.unusedVariables false
set_option maxRecDepth 8000

def Cu.step (V : List UInt8) (pc : Int) (r : Nat → Int) (md : Int) : Cu.Af :=
  if md ≠ 0 then ⟨V, pc, r, md, 0, 0, 0, 0⟩
  else if 0 ≤ pc ∧ pc + 4 ≤ V.length then
    (if mayI (gb (Cu.ins V pc.toNat) 0) (gb (Cu.ins V pc.toNat) 1) (gw (Cu.ins V pc.toNat) 2) = true then Cu.exec V pc (Cu.cut r) (gb (Cu.ins V pc.toNat) 0) (gb (Cu.ins V pc.toNat) 1) (gw (Cu.ins V pc.toNat) 2) else ⟨V, pc, Cu.cut r, 3, 5, 0, 0, 12⟩)
  else ⟨V, pc, Cu.cut r, 3, 5, 0, 0, 6⟩
theorem Cu.bs_len (b : Bool) (x : Int) : (Cu.bs b x).length = if b then 2 else 1 := by cases b <;> rfl
theorem Cu.exec_len (V : List UInt8) (pc : Int) (r : Nat → Int) (c x n : Nat) : (Cu.exec V pc r c x n).v.length = V.length := by
  unfold Cu.exec
  by_cases h0 : c = 0
  · simp only [if_pos h0]
  rw [if_neg h0]
  by_cases h15 : c = 15
  · simp only [if_pos h15]
  rw [if_neg h15]
  by_cases h14 : c = 14
  · simp only [if_pos h14]
  rw [if_neg h14]
  by_cases hj : c = 11 ∨ c = 12 ∨ c = 13
  · simp only [if_pos hj]
  rw [if_neg hj]
  by_cases hrd : c = 7 ∨ c = 9
  · rw [if_pos hrd]
    split <;> rfl
  rw [if_neg hrd]
  by_cases hwr : c = 8 ∨ c = 10
  · rw [if_pos hwr]
    split
    · rename_i hf
      refine over_len ?_
      rw [Cu.bs_len]
      unfold Cu.wd' at hf
      rcases hwr with rfl | rfl <;> simp at hf ⊢ <;> omega
    · rfl
  rw [if_neg hwr]
theorem Cu.exec_pc (V : List UInt8) (pc : Int) (r : Nat → Int) (c x n : Nat) (hpc : pc + 4 ≤ V.length) (hV : V.length ≤ 16384) (hn : n ≤ 65535) : (Cu.exec V pc r c x n).pc ≤ 9223372036854775807 := by
  unfold Cu.exec
  split
  · show pc ≤ _; omega
  split
  · show pc + 4 ≤ _; omega
  split
  · show pc + 4 ≤ _; omega
  split
  · have key : ∀ b : Bool, (if b then (n : Int) else pc + 4) ≤ 9223372036854775807 := by
      intro b
      cases b
      · rw [if_neg (by simp)]; omega
      · rw [if_pos rfl]; omega
    exact key _
  split
  · split
    · show pc + 4 ≤ _; omega
    · show pc ≤ _; omega
  split
  · split
    · show pc + 4 ≤ _; omega
    · show pc ≤ _; omega
  · show pc + 4 ≤ _; omega
theorem Cu.step_len (V : List UInt8) (pc : Int) (r : Nat → Int) (md : Int) : (Cu.step V pc r md).v.length = V.length := by
  unfold Cu.step
  split
  · rfl
  split
  · split
    · exact Cu.exec_len _ _ _ _ _ _
    · rfl
  · rfl
theorem Cu.step_pc (V : List UInt8) (pc : Int) (r : Nat → Int) (md : Int) (hV : V.length ≤ 16384) (hpc : pc ≤ 9223372036854775807) : (Cu.step V pc r md).pc ≤ 9223372036854775807 := by
  unfold Cu.step
  split
  · exact hpc
  split
  · rename_i h
    split
    · exact Cu.exec_pc _ _ _ _ _ _ h.2 hV (by have := gw_lt (Cu.ins V pc.toNat) 2; omega)
    · exact hpc
  · exact hpc
theorem Cu.ins_at {p V q : List UInt8} {k : Nat} (hk : k + 4 ≤ V.length) : Cu.ins (p ++ V ++ q) (p.length + k) = Cu.ins V k := by
  unfold Cu.ins
  congr 2
  rw [List.append_assoc, List.drop_length_add_append, List.drop_append_of_le_length (by omega), List.take_append_of_le_length (by simp; omega)]
theorem Cu.ins_size {V : List UInt8} {k : Nat} (hk : k + 4 ≤ V.length) : (Cu.ins V k).size = 4 := by
  show ((V.drop k).take 4).toArray.size = 4
  simp
  omega
theorem Cu.cut_in (r : Nat → Int) (i : Nat) : 0 ≤ Cu.cut r i ∧ Cu.cut r i < 65536 := by unfold Cu.cut; omega
theorem Cu.step_any (w : World) (B m g : Nat) (p V q : List UInt8) (h : MemG w B m g (p ++ V ++ q)) (hN : Nm w) (hl : (p ++ V ++ q).length ≤ 16384) (pc : Int) (hpc : pc ≤ 9223372036854775807) (r : Nat → Int) (md : Int) :
    Calls Tryd.prog 10 #[Cu.vw m p.length V.length, Cu.stV pc r md] w fun e w' => e = .returned (.tuple #[Cu.stV (Cu.step V pc r md).pc (Cu.step V pc r md).r (Cu.step V pc r md).md, Cu.outV (Cu.step V pc r md).o1 (Cu.step V pc r md).o2 (Cu.step V pc r md).o3 (Cu.step V pc r md).o4]) ∧ MemG w' B m g (p ++ (Cu.step V pc r md).v ++ q) ∧ w.grownBy w' (some g) := by
  have hI : Cu.In (p ++ V ++ q) p.length V.length := Cu.at_in hl
  have quiet : ∀ {e : Ending} {w' : World} {A : Prop}, (A ∧ w.grownBy w' none) → A ∧ MemG w' B m g (p ++ V ++ q) ∧ w.grownBy w' (some g) := fun hh => ⟨hh.1, h.grown hh.2, only_any hh.2 _⟩
  have hV : V.length ≤ 16384 := by simp at hl; omega
  unfold Cu.step
  by_cases hmd : md ≠ 0
  · simp only [if_pos hmd]
    exact (Cu.step_off m p.length V.length pc md r hmd w).mono fun e w' hh => quiet (e := e) hh
  obtain rfl : md = 0 := Classical.not_not.1 hmd
  rw [if_neg hmd]
  by_cases hp : ¬ (0 ≤ pc ∧ pc + 4 ≤ V.length)
  · simp only [if_neg hp]
    refine (Cu.step_err m p.length V.length pc 6 r w (by omega) (fun W gW => ?_)).mono fun e w' hh => quiet (e := e) hh
    exact Cu.fetch_no W B m _ p.length V.length (h.grown gW).mem hI pc hp hpc
  replace hp := Classical.not_not.1 hp
  rw [if_pos hp]
  obtain ⟨k, rfl⟩ := Int.eq_ofNat_of_zero_le hp.1
  rw [Int.toNat_natCast]
  have hk : k + 4 ≤ V.length := by omega
  have hfe := fun W (gW : w.grownBy W none) => Cu.fetch_yes W B m _ p.length V.length (h.grown gW).mem (hN.grown gW (by simp)) hI k hk
  rw [Cu.ins_at hk] at hfe
  have hz := Cu.ins_size hk
  generalize Cu.ins V k = t at *
  unfold getV at hfe
  rw [if_neg (by omega)] at hfe
  by_cases hm : mayI (gb t 0) (gb t 1) (gw t 2) = true
  · rw [if_pos hm] at hfe ⊢
    refine Cu.step_ok m B g p.length V.length k (gb t 0) (gb t 1) (gw t 2) _ _ _ _ _ _ r _ _ w ⟨h.lt.2, h.lt.1⟩ hfe (fun W gW => ?_)
    exact Cu.do_any W B m g p V q (h.grown gW) hl k ⟨by omega, by omega⟩ (Cu.cut r) (Cu.cut_in r) (gb t 0) (gb t 1) (gw t 2) hm
  · simp only [if_neg hm] at hfe ⊢
    exact (Cu.step_err m p.length V.length k 12 r w (by omega) hfe).mono fun e w' hh => quiet (e := e) hh
end Go.Proofs.YtpolkioaagahhaaDoor

/- The document's memory, a list of numbers: New, With, There, Bytes: their contracts. -/
namespace Go.Proofs.YtpolkioaagahhaaDoor
open Go.RowKit Go.Lib Go.Sort
set_option linter.unusedVariables false

/-- Bytes as1 numbers. -/
def num (l : List UInt8) : List Int := l.map fun b => (b.toNat : Int)
def iCells (l : List Int) : List Value := l.map (Value.int .i64)
def low8 (x : Int) : UInt8 := UInt8.ofNat (x % 256).toNat
theorem num_len (l : List UInt8) : (num l).length = l.length := by simp [num]
theorem iCells_len (l : List Int) : (iCells l).length = l.length := by simp [iCells]
theorem iCells_get {l : List Int} {i : Nat} (h : i < l.length) : (iCells l)[i]? = some (.int .i64 l[i]) := by simp [iCells, h]
theorem iCells_one (l : List Int) : ∀ u ∈ iCells l, u.oneCell' = true := by
  intro u hu
  simp only [iCells, List.mem_map] at hu
  obtain ⟨b, _, rfl⟩ := hu
  rfl
theorem low8_num (x : Int) : ((low8 x).toNat : Int) = x % 256 := u8_num _ (by omega) (by omega)

/-- Numbers that lie somewhere. -/
def Ints (w : World) (A : Option Addr) (cap : Nat) (l : List Int) : Prop :=
  (A = none → l.length = 0 ∧ cap = 0) ∧ (0 < l.length → ∃ b off, A = some ⟨b, off, none⟩ ∧ b < w.heap.size ∧ ∀ i (h : i < l.length), w.cell? ⟨b, off + i, none⟩ = some (.int .i64 l[i]))
theorem Ints.below {w w' : World} {A : Option Addr} {cap : Nat} {l : List Int} (h : Ints w A cap l) (hb : Below w.heap.size w w') : Ints w' A cap l := by
  refine ⟨h.1, fun hp => ?_⟩
  obtain ⟨b, off, h1, h2, h3⟩ := h.2 hp
  exact ⟨b, off, h1, Nat.lt_of_lt_of_le h2 hb.size, fun i hi => (hb.cell (p := ⟨b, off + i, none⟩) h2).trans (h3 i hi)⟩
theorem Ints.src {w : World} {ad : Addr} {cap : Nat} {l : List Int} (h : Ints w (some ad) cap l) : ∀ j u, (iCells l)[j]? = some u → w.cell? (ad.add j) = some u := by
  intro j u hj
  have hjl : j < l.length := by
    rcases Nat.lt_or_ge j l.length with q | q
    · exact q
    · rw [List.getElem?_eq_none (by rw [iCells_len]; exact q)] at hj; cases hj
  obtain ⟨b, off, h1, h2, h3⟩ := h.2 (by omega)
  injection h1 with h1
  subst h1
  have ha : (⟨b, off, none⟩ : Addr).add j = ⟨b, off + j, none⟩ := by unfold Addr.add; split <;> simp_all
  rw [ha, h3 j hjl]
  rw [iCells_get hjl] at hj
  exact hj

/-- Numbers of the call's own. -/
def OwnN (w : World) (B : Nat) (v : Value) (l : List Int) : Prop := w.ownsRow B 3 1 v l.length (iCells l)
theorem OwnN.ints {w : World} {B : Nat} {v : Value} {l : List Int} (h : OwnN w B v l) : ∃ A c, v = .slice A l.length c ∧ Ints w A c l ∧ l.length ≤ c := by
  have h' : w.ownsRow B 3 1 v l.length (iCells l) := h
  rcases h'.2 with ⟨rfl, h0⟩ | ⟨g, cap, cur, rfl, h1, h2, h3, h4, h5, h6⟩
  · have hl : l.length = 0 := by simpa [iCells] using h0
    exact ⟨none, 0, by rw [hl], ⟨fun _ => ⟨hl, rfl⟩, fun h => by omega⟩, by omega⟩
  · refine ⟨_, cap, rfl, ⟨fun e => (by cases e), fun hp => ⟨g, 0, rfl, lt_of_block h2, fun i hi => ?_⟩⟩, h3⟩
    rw [Nat.zero_add, h'.cellAt i (by omega), iCells_get hi]
theorem OwnN.form {w : World} {B : Nat} {v : Value} {l : List Int} (h : OwnN w B v l) : ∃ A c, v = .slice A l.length c := by
  obtain ⟨A, c, h1, _⟩ := h.ints
  exact ⟨A, c, h1⟩
theorem OwnN.below {w w' : World} {B : Nat} {v : Value} {l : List Int} (h : OwnN w B v l) (hb : w.grownBy w' none) : OwnN w' B v l :=
  World.ownsRow.kept h hb (by cases hv : v.ownBlock <;> simp)
theorem OwnN.blk {w : World} {B : Nat} {v : Value} {l : List Int} (h : OwnN w B v l) : ∀ k, v.ownBlock = some k → B ≤ k := fun k hk => (World.ownsRow.lt h k hk).1

theorem int_info : (Tryd.prog.info? 3).map (fun i => (i.zero, i.size, i.bytes)) = some (some (.int .i64 0), 1, 8) := by kernel_rfl
theorem OwnN.bare (w : World) (B : Nat) (hB : B ≤ w.heap.size) : OwnN (w.alloc (.cells #[] 3)) B (.slice (some ⟨w.heap.size, 0, none⟩) 0 0) [] :=
  World.ownsRow_made w #[] 0 hB (by unfold maxLen; omega) rfl

/-- append of numbers onto numbers of the call's own; the value is not nil if it was not. -/
theorem wpList_append_ints {w : World} {ops : Array Oper} {rest : List Oper} {o : Oper} {a : Act} {Q : Exit → Act → World → Prop} (hgd : o.guard = none) (s x : Operand)
    (ho : o.op = .call { callee := .builtin .append, args := #[s, x], argTypes := #[29, 29] })
    (B : Nat) (v : Value) (l : List Int) (hs : a.eval s = v) (hV : OwnN w B v l) (A : Option Addr) (m c : Nat) (xs : List Int) (hm : m = xs.length) (hx : a.eval x = .slice A m c) (hsp : Ints w A c xs) (hn : l.length + m ≤ 1000000) (hB : B ≤ w.heap.size)
    (h : ∀ v' w', OwnN w' B v' (l ++ xs) → (v ≠ .slice none 0 0 → v' ≠ .slice none 0 0) → Below B w w' → wpList Tryd.prog ops Q rest (a.put o.dst v') w') : wpList Tryd.prog ops Q (o :: rest) a w := by
  obtain ⟨i0, hi0, hz0, hz1, hz2⟩ := info_parts int_info
  subst hm
  cases A with
  | none =>
    obtain ⟨h0, rfl⟩ := hsp.1 rfl
    have hxs : xs = [] := List.eq_nil_of_length_eq_zero h0
    subst hxs
    refine wpList_append_own_none hgd s x 29 ho B 3 i0 1 Tryd.underlying29 hi0 v l.length (iCells l) hs hV hx ?_
    exact h v w (by rw [List.append_nil]; exact hV) (fun h => h) (Below.refl _ _)
  | some ad =>
    refine wpList_append_own w hgd s x 29 ho B 3 i0 _ 1 8 Tryd.underlying29 hi0 hz0 hz1 hz2 rfl (by decide) v l.length (iCells l) hs hV ad xs.length c (iCells xs) hx (by rw [iCells_len, Nat.mul_one]) hsp.src (iCells_one xs) (by unfold maxLen; omega) (by omega) hB ?_
    intro v' w' hown hg hnil
    refine h v' w' ?_ (fun hv e => hv (hnil.1 e).1) (below_of_only hg hB (fun k hk => hV.blk k hk))
    show w'.ownsRow B 3 1 v' (l ++ xs).length (iCells (l ++ xs))
    rw [List.length_append]
    have e : iCells (l ++ xs) = iCells l ++ iCells xs := by simp [iCells]
    rw [e]
    exact hown

theorem one_int (w : World) (x : Int) : Ints (w.alloc (.cells #[.int .i64 x] 3)) (some ⟨w.heap.size, 0, none⟩) 1 [x] :=
  ⟨fun e => (by cases e), fun _ => ⟨w.heap.size, 0, rfl, (Blk.new w _ _).lt, fun i hi => by
    have : i = 0 := by simpa using hi
    subst this
    exact (Blk.new w 3 #[.int .i64 x]).cell 0⟩⟩

set_option maxRecDepth 100000 in
set_option maxHeartbeats 1600000 in
theorem rmnew_any (n : Int) (w : World) (hn : n ≤ 600) : Calls Tryd.prog 21 #[.int .i64 n] w fun r w' => ∃ v, r = .returned v ∧ OwnN w' w.heap.size v (num (List.replicate (sizeOf' n) 0)) ∧ Below w.heap.size w w' := by
  have hS : sizeOf' n ≤ 600 ∧ ((sizeOf' n : Int) ≤ n ∨ n < 0) ∧ (n ≤ (sizeOf' n : Int)) := by
    unfold sizeOf'
    split <;> (try split) <;> omega
  have hS0 : n < 0 → sizeOf' n = 0 := fun h => by simp [sizeOf', h]
  obtain ⟨S, hSS⟩ : ∃ S, S = sizeOf' n := ⟨_, rfl⟩
  rw [← hSS] at hS hS0 ⊢
  obtain ⟨s1, s2, s3⟩ := hS
  clear hSS
  go_enter Tryd.func21, Tryd.ntmps21
  go_wp2
  go_loopw [3, 4] (fun v x wr => ∃ (k : Nat), x = .int .i64 k ∧ k ≤ S ∧ OwnN wr w.heap.size v (num (List.replicate k 0)) ∧ Below w.heap.size w wr) (fun _ x _ => S - (Go.RowKit.intOf x).toNat)
  case atStart => exact ⟨0, rfl, by omega, OwnN.bare w _ (Nat.le_refl _), (Below.refl _ _).alloc (Nat.le_refl _) _⟩
  case round =>
    obtain ⟨k, rfl, hk, hv, hb⟩ := hrel
    have HV := Lib.hid hv
    have HB := Lib.hid hb
    clear hv hb
    obtain ⟨Ao, co, rfl⟩ := HV.out.form
    by_cases hkS : k < S
    · have i1 : (k : Int) < n := by omega
      have i2 : (k : Int) < 16384 := by omega
      have hl : (num (List.replicate k 0)).length = k := by simp [num]
      have HL := Lib.hid hl
      have hnx : num (List.replicate k 0) ++ [0] = num (List.replicate (k + 1) 0) := by simp [num, List.replicate_succ']
      have HNX := Lib.hid hnx
      clear hl hnx
      go_wp2_with (at_builtin; refine wpList_append_ints (o := ⟨some 17, _, _, _, _, _⟩) rfl (.tmp 15) (.tmp 16) rfl w.heap.size _ (num (List.replicate k 0)) rfl (World.ownsRow.alloc (w := wr) HV.out _) (some ⟨wr.heap.size, 0, none⟩) 1 1 [0] rfl rfl (one_int wr 0) (by rw [HL.out]; omega) (by have := HB.out.size; simp; omega) ?_; intro v1 w1 hv1 _ hb1; rw [HNX.out] at hv1; have HV1 := Lib.hid hv1; have HB1 := Lib.hid ((HB.out.alloc HB.out.size (.cells #[.int .i64 0] 3)).trans hb1); clear hv1 hb1; obtain ⟨A1, c1, rfl⟩ := HV1.out.form)
      go_roundw
      case rel => exact ⟨k + 1, by go_num, by omega, HV1.out, HB1.out⟩
      case measure => simp [Go.RowKit.intOf] <;> omega
    · obtain rfl : k = S := by omega
      have i1 : ¬ (k : Int) < n := by omega
      go_wp2
      go_ret
      exact ⟨_, rfl, HV.out, HB.out⟩

theorem over_snoc {l bs : List UInt8} {a : Nat} {x : UInt8} (h : a + bs.length < l.length) : over l a (bs ++ [x]) = (over l a bs).set (a + bs.length) x := by
  obtain ⟨m, hm⟩ : ∃ m, m = a + bs.length := ⟨_, rfl⟩
  have hl : (l.take a ++ bs).length = m := by simp; omega
  have hd : l.drop m = l[m]'(by omega) :: l.drop (m + 1) := List.drop_eq_getElem_cons (by omega)
  have e : a + (bs ++ [x]).length = m + 1 := by simp; omega
  unfold over
  rw [e, ← hm, hd, List.set_append_right _ _ (by rw [hl]; exact Nat.le_refl _), hl, Nat.sub_self, List.set_cons_zero]
  simp
theorem num_set (l : List UInt8) (i : Nat) (b : UInt8) : (iCells (num l)).set i (.int .i64 (b.toNat : Int)) = iCells (num (l.set i b)) := by
  simp [iCells, num, List.map_set]

set_option maxRecDepth 100000 in
set_option maxHeartbeats 3200000 in
theorem rwith_any (A : Option Addr) (cap : Nat) (lb : List UInt8) (at' : Nat) (A2 : Option Addr) (cap2 m : Nat) (xs : List Int) (hm : m = xs.length) (n : Nat) (hn : n = lb.length) (w : World) (hA : Ints w A cap (num lb)) (hX : Ints w A2 cap2 xs) (hfit : at' + xs.length ≤ lb.length) (hl : lb.length ≤ 1000) :
    Calls Tryd.prog 22 #[.slice A n cap, .int .i64 at', .slice A2 m cap2] w fun r w' => ∃ v, r = .returned v ∧ OwnN w' w.heap.size v (num (over lb at' (xs.map low8))) ∧ Below w.heap.size w w' := by
  have HA := Lib.hid hA
  have HX := Lib.hid hX
  have hn2 : n = (num lb).length := by rw [num_len]; exact hn
  have HN2 := Lib.hid hn2
  have hm1 : m ≤ 1000 := by omega
  have hn1 : n ≤ 1000 := by omega
  have hfit2 : at' + m ≤ n := by omega
  have hma : m ≤ xs.length := by omega
  have hmb : xs.length ≤ m := by omega
  have hna : n ≤ lb.length := by omega
  have hnb : lb.length ≤ n := by omega
  clear hA hX hn2 hm hn
  go_enter Tryd.func22, Tryd.ntmps22
  go_wp2_with (at_builtin; refine wpList_append_ints (o := ⟨some 11, _, _, _, _, _⟩) rfl (.tmp 9) (.tmp 10) rfl w.heap.size (.slice (some ⟨w.heap.size, 0, none⟩) 0 0) [] rfl (OwnN.bare w _ (Nat.le_refl _)) A n cap (num lb) HN2.out rfl (HA.out.below ((Below.refl _ _).alloc (Nat.le_refl _) _)) (by simp; omega) (by simp) ?_; intro v1 w1 hv1 hnn hb1; rw [List.nil_append] at hv1; have HV1 := Lib.hid hv1; have hne := hnn (by simp); have HNE := Lib.hid hne; have HB1 := Lib.hid (((Below.refl w.heap.size w).alloc (Nat.le_refl _) (.cells #[] 3)).trans hb1); clear hv1 hnn hb1 hne; obtain ⟨A1, c1, rfl⟩ := HV1.out.form)
  -- the block of the copy
  have hblock : ∃ g, A1 = some ⟨g, 0, none⟩ ∧ w.heap.size ≤ g := by
    have h' : w1.ownsRow w.heap.size 3 1 (.slice A1 (num lb).length c1) (num lb).length (iCells (num lb)) := HV1.out
    rcases h'.2 with ⟨e, _⟩ | ⟨g, cp, cur, e, hg, _⟩
    · exact absurd e HNE.out
    · injection e with e1 e2 e3
      exact ⟨g, e1, hg⟩
  obtain ⟨g, rfl, hgB⟩ := hblock
  have hstart : num (over lb at' ((xs.take 0).map low8)) = num lb := by simp [over_nil]
  have HV0 := Lib.hid (show OwnN w1 w.heap.size (.slice (some ⟨g, 0, none⟩) (num lb).length c1) (num (over lb at' ((xs.take 0).map low8))) by rw [hstart]; exact HV1.out)
  rw [← HN2.out] at HV0 ⊢
  clear hstart HNE HV1
  go_loopw [8] (fun x wr => ∃ (k : Nat), x = .int .i64 k ∧ k ≤ m ∧ OwnN wr w.heap.size (.slice (some ⟨g, 0, none⟩) n c1) (num (over lb at' ((xs.take k).map low8))) ∧ Below w.heap.size w wr) (fun x _ => m - (Go.RowKit.intOf x).toNat)
  case atStart => exact ⟨0, rfl, by omega, HV0.out, HB1.out⟩
  case round =>
    obtain ⟨k, rfl, hk, hv, hb⟩ := hrel
    have HV := Lib.hid hv
    have HB := Lib.hid hb
    clear hv hb HV0 HB1
    by_cases hkm : k < m
    · have hkx : k < xs.length := by omega
      obtain ⟨b, off, rfl, hbl, hc⟩ := (HX.out.below HB.out).2 (by omega)
      have c0 := hc k hkx
      clear hc
      have hol : (over lb at' ((xs.take k).map low8)).length = n := by rw [over_len (by simp; omega)]; omega
      have hown : wr.ownsRow w.heap.size 3 1 (.slice (some ⟨g, 0, none⟩) n c1) n (iCells (num (over lb at' ((xs.take k).map low8)))) := by
        have h := HV.out
        unfold OwnN at h
        rw [num_len, hol] at h
        exact h
      have hcell : ∃ u, wr.cell? ⟨g, at' + k, none⟩ = some u := by
        rw [hown.cellAt (at' + k) (by omega), iCells_get (by rw [num_len]; omega)]
        exact ⟨_, rfl⟩
      obtain ⟨u, hu⟩ := hcell
      have hfz := hown.frozenAt (at' + k)
      have hst := hown.stored (at' + k) (.int .i64 (xs[k] % 256))
      have hnx : iCells (num (over lb at' ((xs.take (k + 1)).map low8))) = (iCells (num (over lb at' ((xs.take k).map low8)))).set (at' + k) (.int .i64 (xs[k] % 256)) := by
        rw [← low8_num, num_set]
        congr 2
        rw [List.take_add_one, List.getElem?_eq_getElem hkx]
        simp only [Option.toList_some, List.map_append, List.map_cons, List.map_nil]
        have hlt : ((xs.take k).map low8).length = k := by simp; omega
        rw [over_snoc (by rw [hlt]; omega), hlt]
      rw [← hnx] at hst
      have hol2 : (over lb at' ((xs.take (k + 1)).map low8)).length = n := by rw [over_len (by simp; omega)]; omega
      have hfin : OwnN (wr.setCell ⟨g, at' + k, none⟩ (.int .i64 (xs[k] % 256))) w.heap.size (.slice (some ⟨g, 0, none⟩) n c1) (num (over lb at' ((xs.take (k + 1)).map low8))) ∧ Below w.heap.size w (wr.setCell ⟨g, at' + k, none⟩ (.int .i64 (xs[k] % 256))) := by
        refine ⟨?_, HB.out.setCell hgB _⟩
        unfold OwnN
        rw [num_len, hol2]
        exact hst.1
      have HFIN := Lib.hid hfin
      obtain ⟨z, hz⟩ : ∃ z, z = xs[k] := ⟨_, rfl⟩
      rw [← hz] at c0 HFIN
      have i1 : (k : Int) < (m : Int) := by omega
      have i2 : (at' : Int) + (k : Int) < (n : Int) := by omega
      have i3 : (at' : Int) + (k : Int) ≤ 2000 := by omega
      clear hst hnx hol hol2 hown hfin hz
      go_wp2_with (go_at_call 38; refine (rlow_any _ _).mono ?_; rintro e w' ⟨rfl, rfl⟩)
      go_roundw
      case rel => exact ⟨k + 1, by go_num, by omega, HFIN.out⟩
      case measure => simp [Go.RowKit.intOf] <;> omega
    · obtain rfl : k = m := by omega
      go_wp2
      go_ret
      refine ⟨_, rfl, ?_, HB.out⟩
      have h := HV.out
      rw [List.take_of_length_le (by omega)] at h
      exact h
end Go.Proofs.YtpolkioaagahhaaDoor

/- The document's memory: There, Bytes, Text: their contracts. -/
namespace Go.Proofs.YtpolkioaagahhaaDoor
open Go.RowKit Go.Lib Go.Sort
set_option linter.unusedVariables false

/-- Are so many places there? -/
def thereB (len : Nat) (at' n : Int) : Bool := decide (0 ≤ at' ∧ at' ≤ len ∧ n ≤ len - at')
theorem there_any (A : Option Addr) (len cap : Nat) (at' n : Int) (w : World) (hl : len ≤ 1000000) :
    Calls Tryd.prog 29 #[.slice A len cap, .int .i64 at', .int .i64 n] w fun r w' => r = .returned (.bool (thereB len at' n)) ∧ w = w' := by
  have key : (at' < 0 ∧ thereB len at' n = false) ∨ (0 ≤ at' ∧ (len : Int) < at' ∧ thereB len at' n = false) ∨ (0 ≤ at' ∧ at' ≤ len ∧ (len : Int) - at' < n ∧ thereB len at' n = false) ∨ (0 ≤ at' ∧ at' ≤ len ∧ n ≤ (len : Int) - at' ∧ thereB len at' n = true) := by
    by_cases h1 : at' < 0
    · exact .inl ⟨h1, by simp [thereB]; omega⟩
    · by_cases h2 : (len : Int) < at'
      · exact .inr (.inl ⟨by omega, h2, by simp [thereB]; omega⟩)
      · by_cases h3 : (len : Int) - at' < n
        · exact .inr (.inr (.inl ⟨by omega, by omega, h3, by simp [thereB]; omega⟩))
        · exact .inr (.inr (.inr ⟨by omega, by omega, by omega, by simp [thereB]; omega⟩))
  rcases key with ⟨h1, e⟩ | ⟨h1, h2, e⟩ | ⟨h1, h2, h3, e⟩ | ⟨h1, h2, h3, e⟩
  all_goals
    have E := Lib.hid e
    clear e
    go_enter Tryd.func29, Tryd.ntmps29
    go_wp2
    go_ret
    rw [E.out]
    exact ⟨by first | rfl | (simp; done) | (simp; omega), rfl⟩
theorem there_chk {len : Nat} {at' n : Int} (hn : 0 ≤ n) : (thereB len at' n = true ∧ chk len at' n = 0) ∨ (thereB len at' n = false ∧ chk len at' n = 6) := by
  unfold thereB chk
  rw [if_neg (by omega)]
  by_cases h1 : at' < 0
  · exact .inr ⟨by simp; omega, by rw [if_pos h1]⟩
  · by_cases h2 : (len : Int) < at'
    · exact .inr ⟨by simp; omega, by rw [if_neg h1, if_pos h2]⟩
    · by_cases h3 : (len : Int) - at' < n
      · exact .inr ⟨by simp; omega, by rw [if_neg h1, if_neg h2, if_pos h3]⟩
      · exact .inl ⟨by simp; omega, by rw [if_neg h1, if_neg h2, if_neg h3]⟩

theorem OwnN.slice {w : World} {B n : Nat} {v : Value} {l : List Int} (h : OwnN w B v l) (hn : l.length = n) : ∃ A c, v = .slice A n c := by
  obtain ⟨A, c, e⟩ := h.form
  exact ⟨A, c, by rw [e, hn]⟩
set_option maxRecDepth 100000 in
set_option maxHeartbeats 1600000 in
theorem rbytes_any (s : ByteArray) (w : World) (hs : s.size ≤ 1000) : Calls Tryd.prog 23 #[.string s] w fun r w' => ∃ v, r = .returned v ∧ OwnN w' w.heap.size v (num s.data.toList) ∧ Below w.heap.size w w' := by
  have hsz : s.data.toList.length = s.size := by rw [Array.length_toList]; rfl
  go_enter Tryd.func23, Tryd.ntmps23
  go_wp2
  go_loopw [3, 4] (fun v x wr => ∃ (k : Nat) (A : Option Addr) (c : Nat), x = .int .i64 k ∧ v = .slice A k c ∧ k ≤ s.size ∧ OwnN wr w.heap.size (.slice A k c) (num (s.data.toList.take k)) ∧ Below w.heap.size w wr) (fun _ x _ => s.size - (Go.RowKit.intOf x).toNat)
  case atStart => exact ⟨0, _, _, rfl, rfl, by omega, OwnN.bare w _ (Nat.le_refl _), (Below.refl _ _).alloc (Nat.le_refl _) _⟩
  case round =>
    obtain ⟨k, Ao, co, rfl, rfl, hk, hv, hb⟩ := hrel
    have HV := Lib.hid hv
    have HB := Lib.hid hb
    clear hv hb
    by_cases hkS : k < s.size
    · have i1 : (k : Int) < (s.size : Int) := by omega
      have hl : (num (s.data.toList.take k)).length = k := by simp [num]; omega
      have hnx : num (s.data.toList.take k) ++ [((s[k]'hkS).toNat : Int)] = num (s.data.toList.take (k + 1)) := by
        rw [List.take_add_one]
        simp only [num, List.map_append]
        congr 1
        rw [List.getElem?_eq_getElem (by omega)]
        simp
        rfl
      obtain ⟨b, hb⟩ : ∃ b, b = s[k]'hkS := ⟨_, rfl⟩
      have HW := w64_byte b
      have HL := Lib.hid hl
      have HNX := Lib.hid hnx
      have HSZ := Lib.hid hsz
      have HBB := Lib.hid hb
      clear hl hnx hsz hb
      go_wp2_with (at_builtin; refine wpList_append_ints (o := ⟨some 18, _, _, _, _, _⟩) rfl (.tmp 12) (.tmp 17) rfl w.heap.size _ (num (s.data.toList.take k)) rfl (World.ownsRow.alloc (w := wr) HV.out _) (some ⟨wr.heap.size, 0, none⟩) 1 1 [_] rfl rfl (one_int wr _) (by rw [HL.out]; omega) (by have := HB.out.size; simp; omega) ?_; intro v1 w1 hv1 _ hb1; have HV1 := Lib.hid hv1; have HB1 := Lib.hid ((HB.out.alloc HB.out.size (.cells #[_] 3)).trans hb1); clear hv1 hb1; obtain ⟨A1, c1, rfl⟩ := HV1.out.slice (n := k + 1) (by simp [HL.out]))
      go_roundw
      case rel =>
        have h := HV1.out
        try simp only [w64_byte] at h
        rw [HNX.out] at h
        exact ⟨k + 1, _, _, by go_num, rfl, by omega, h, HB1.out⟩
      case measure => simp [Go.RowKit.intOf] <;> omega
    · obtain ⟨k1, k2⟩ : k ≤ s.size ∧ s.size ≤ k := ⟨hk, by omega⟩
      go_wp2
      go_ret
      refine ⟨_, rfl, ?_, HB.out⟩
      have h := HV.out
      rw [List.take_of_length_le (by omega)] at h
      exact h

/-- Bytes of the call's own. -/
def OwnB (w : World) (B : Nat) (v : Value) (l : List UInt8) : Prop := w.ownsRow B 5 1 v l.length (u8Cells l)
set_option maxRecDepth 100000 in
theorem OwnB.form {w : World} {B : Nat} {v : Value} {l : List UInt8} (h : OwnB w B v l) : ∃ A c, v = .slice A l.length c := by
  have h' : w.ownsRow B 5 1 v l.length (u8Cells l) := h
  rcases h'.2 with ⟨rfl, h0⟩ | ⟨g, cap, cur, rfl, _⟩
  · have hl : l.length = 0 := by simpa [u8Cells] using h0
    exact ⟨none, 0, by rw [hl]⟩
  · exact ⟨_, cap, rfl⟩
set_option maxRecDepth 100000 in
theorem OwnB.str {w : World} {B c n : Nat} {A : Option Addr} {l : List UInt8} (h : OwnB w B (.slice A n c) l) (hn : n = l.length) : (convert 81 9 (.slice A n c)).run Tryd.prog w = .ok (.string ⟨l.toArray⟩) w := by
  subst hn
  have h' : w.ownsRow B 5 1 (.slice A l.length c) l.length (u8Cells l) := h
  rcases h'.2 with ⟨e, h0⟩ | ⟨g, cap, cur, e, _⟩
  · injection e with e1 e2 e3
    have hl : l = [] := List.eq_nil_of_length_eq_zero e2
    subst e1 hl
    exact run_convert_bytes_nil w 81 5 Tryd.underlying81 Tryd.underlying5 0 c 9 Tryd.underlying9
  · injection e with e1 e2 e3
    subst e1
    refine run_convert_bytes_back (P := Tryd.prog) w 81 9 5 ⟨g, 0, none⟩ c l Tryd.underlying81 Tryd.underlying5 Tryd.underlying9 (fun i hi => ?_)
    have ha : (⟨g, 0, none⟩ : Addr).add i = ⟨g, i, none⟩ := by unfold Addr.add; split <;> simp_all
    rw [ha, h'.cellAt i (by omega)]
    exact u8Cells_get hi

theorem one_u8 (w : World) (x : Int) : ∀ j u, [Value.int .u8 x][j]? = some u → (w.alloc (.cells #[.int .u8 x] 5)).cell? ((⟨w.heap.size, 0, none⟩ : Addr).add j) = some u := by
  intro j u hj
  match j, hj with
  | 0, hj => simp at hj; subst hj; exact (Blk.new w 5 #[.int .u8 x]).cell 0
theorem one_u8' (x : Int) : ∀ u ∈ [Value.int .u8 x], u.oneCell' = true := by
  intro u hu; simp at hu; subst hu; rfl
set_option maxRecDepth 100000 in
set_option maxHeartbeats 3200000 in
theorem rtext_any (A : Option Addr) (cap len : Nat) (l : List UInt8) (hlen : len = (num l).length) (k n : Nat) (w : World) (hA : Ints w A cap (num l)) (hfit : k + n ≤ l.length) (hl : l.length ≤ 1000) :
    Calls Tryd.prog 13 #[.slice A len cap, .int .i64 k, .int .i64 n] w fun r w' => r = .returned (.string ⟨((l.drop k).take n).toArray⟩) ∧ Below w.heap.size w w' := by
  obtain ⟨i0, hi0, hz0, hz1, hz2⟩ := info_parts mu8_info
  have HA := Lib.hid hA
  have l1 : len ≤ l.length := by rw [hlen, num_len]; exact Nat.le_refl _
  have l2 : l.length ≤ len := by rw [hlen, num_len]; exact Nat.le_refl _
  have hn0 := num_len l
  have HN0 := Lib.hid hn0
  clear hA hlen hn0
  go_enter Tryd.func13, Tryd.ntmps13
  go_wp2
  go_loopw [7, 8] (fun v x wr => ∃ (j : Nat) (X : Int), x = .int .i64 X ∧ X ≤ k + j ∧ k + j ≤ X ∧ j ≤ n ∧ (∃ (A : Option Addr) (c : Nat), v = .slice A j c ∧ OwnB wr w.heap.size (.slice A j c) ((l.drop k).take j)) ∧ Below w.heap.size w wr) (fun _ x _ => (k + n : Int).toNat - (Go.RowKit.intOf x).toNat)
  case atStart => exact ⟨0, k, rfl, by omega, by omega, by omega, ⟨_, _, rfl, World.ownsRow_made w #[] 0 (Nat.le_refl _) (by unfold maxLen; omega) rfl⟩, (Below.refl _ _).alloc (Nat.le_refl _) _⟩
  case round =>
    obtain ⟨j, X, rfl, x1, x2, hj, ⟨Ao, co, rfl, hv⟩, hb⟩ := hrel
    obtain ⟨q, rfl⟩ : ∃ q : Nat, X = q := ⟨X.toNat, by omega⟩
    have HV := Lib.hid hv
    have HB := Lib.hid hb
    clear hv hb
    by_cases hjn : j < n
    · have hql : q < l.length := by omega
      obtain ⟨b, off, rfl, hbl, hc⟩ := (HA.out.below HB.out).2 (by rw [HN0.out]; omega)
      have c0 := hc q (by rw [HN0.out]; omega)
      have e0 : (num l)[q]'(by rw [HN0.out]; omega) = ((l[q]'hql).toNat : Int) := by simp [num]
      rw [e0] at c0
      clear hc e0
      have hll : ((l.drop k).take j).length = j := by simp; omega
      have hnx : u8Cells ((l.drop k).take j) ++ [.int .u8 ((l[q]'hql).toNat : Int)] = u8Cells ((l.drop k).take (j + 1)) := by
        rw [List.take_add_one]
        simp only [u8Cells, List.map_append]
        congr 1
        rw [List.getElem?_drop, show k + j = q by omega, List.getElem?_eq_getElem hql]
        rfl
      obtain ⟨z, hz⟩ : ∃ z, z = l[q]'hql := ⟨_, rfl⟩
      rw [← hz] at c0 hnx
      have hzl := z.toNat_lt
      have hzw : IntKind.u8.wrap (z.toNat : Int) = (z.toNat : Int) := by simp [IntKind.wrap_u8] <;> omega
      have i1 : (q : Int) < (len : Int) := by omega
      have i2 : (q : Int) < (k : Int) + (n : Int) := by omega
      have HNX := Lib.hid hnx
      have HLL := Lib.hid hll
      clear hnx hll hz
      go_wp2_with (at_builtin; refine wpList_append_own _ rfl (.tmp 18) (.tmp 24) 81 rfl w.heap.size 5 i0 _ 1 1 Tryd.underlying81 hi0 hz0 hz1 hz2 rfl (by decide) _ _ _ rfl (World.ownsRow.alloc (w := wr) HV.out _) ⟨wr.heap.size, 0, none⟩ 1 1 [.int .u8 (z.toNat : Int)] rfl rfl (one_u8 wr _) (one_u8' _) (by rw [HLL.out]; unfold maxLen; omega) (by rw [HLL.out]; omega) (by have := HB.out.size; simp; omega) ?_; intro v1 w1 hown1 hg1 _; rw [HNX.out] at hown1; have HV1 := Lib.hid hown1; have HB1 := Lib.hid ((HB.out.alloc HB.out.size (.cells #[.int .u8 (z.toNat : Int)] 5)).trans (below_of_only hg1 (by have := HB.out.size; simp; omega) (fun k hk => (World.ownsRow.lt HV.out k hk).1))); clear hown1 hg1; have hform : ∃ A1 c1, v1 = .slice A1 (j + 1) c1 := (by rcases HV1.out.2 with ⟨e, h0⟩ | ⟨g9, c9, cur9, e, _⟩; exact absurd h0 (by omega); rw [HLL.out] at e; exact ⟨_, c9, e⟩); obtain ⟨A1, c1, rfl⟩ := hform)
      go_roundw
      case rel =>
        refine ⟨j + 1, (q : Int) + 1, by first | rfl | go_num, by omega, by omega, by omega, ⟨_, _, rfl, ?_⟩, HB1.out⟩
        have h := HV1.out
        have e : ((l.drop k).take (j + 1)).length = ((l.drop k).take j).length + 1 := by simp; omega
        unfold OwnB
        rw [e]
        exact h
      case measure => simp [Go.RowKit.intOf] <;> omega
    · obtain rfl : j = n := by omega
      have hs := HV.out.str (by simp; omega)
      have i2 : ¬ (q : Int) < (k : Int) + (j : Int) := by omega
      go_wp2
      go_ret
      exact ⟨rfl, HB.out⟩
end Go.Proofs.YtpolkioaagahhaaDoor

/- The law's views; a view's text. -/
namespace Go.Proofs.YtpolkioaagahhaaDoor
open Go.RowKit Go.Lib
set_option linter.unusedVariables false
set_option maxRecDepth 8000

set_option maxHeartbeats 1600000 in
theorem Cu.text_any (w : World) (B m : Nat) (p V q : List UInt8) (h : MemV w B m (p ++ V ++ q)) (hl : (p ++ V ++ q).length ≤ 16384) : Calls Tryd.prog 12 #[Cu.vw m p.length V.length] w fun e w' => e = .returned (.string ⟨V.toArray⟩) ∧ w.grownBy w' none := by
  have HX := Lib.hid (Cu.Bx.new w m p.length V.length)
  have HT := Lib.hid (show ∀ W, w.grownBy W none → Calls Tryd.prog 34 #[.pointer (some ⟨m, 0, none⟩), .int .i64 p.length, .int .i64 V.length] W fun r w' => r = .returned (.tuple #[.string ⟨V.toArray⟩, .int .i64 0]) ∧ W = w' from fun W g => by
    have := mtext_any W B m _ (p.length : Int) (V.length : Int) (h.grown g) hl
    have ec := Cu.chk_in (base := p.length) (size := V.length) (k := 0) (n := V.length) (Cu.at_in hl) (by omega)
    rw [Nat.add_zero] at ec
    rw [ec, if_pos rfl, Int.toNat_natCast, Int.toNat_natCast] at this
    have e : ((p ++ V ++ q).drop p.length).take V.length = V := by simp [List.append_assoc]
    rw [e] at this
    exact this)
  generalize V.length = vl at *
  generalize p.length = pl at *
  generalize (⟨V.toArray⟩ : ByteArray) = t at *
  clear h hl
  unfold Cu.vw
  obtain ⟨W, hW⟩ : ∃ W, W = (w.alloc (.cells #[.pointer (some ⟨m, 0, none⟩), .int .i64 pl, .int .i64 vl] 28)) := ⟨_, rfl⟩
  rw [← hW] at HX
  obtain ⟨c0, c1, c2⟩ := HX.out.cells
  go_enter Tryd.func12, Tryd.ntmps12
  go_upto_region 1 with (fail)
  rw [← hW]
  clear hW
  go_wp2_with (go_at_call 34; (with_reducible refine (HT.out _ HX.out.grow).mono ?_); rintro e w2 ⟨rfl, rfl⟩)
  go_ret
  exact ⟨rfl, HX.out.grow⟩
/-- The bytes that a view begins with. -/
def Cu.v0 (s : ByteArray) (size : Nat) : List UInt8 := s.data.toList.take size ++ List.replicate (size - s.size) 0
def Cu.z (n : Nat) : List UInt8 := List.replicate n 0
theorem Cu.v0_len (s : ByteArray) (size : Nat) : (Cu.v0 s size).length = size := by
  have : s.data.toList.length = s.size := by rw [Array.length_toList]; rfl
  unfold Cu.v0
  simp
  omega
theorem Cu.z_len (n : Nat) : (Cu.z n).length = n := by simp [Cu.z]
theorem Cu.over_z (n base : Nat) (bs : List UInt8) (size : Nat) (hb : bs.length ≤ size) (hn : base + size ≤ n) : over (Cu.z n) base bs = Cu.z base ++ (bs ++ Cu.z (size - bs.length)) ++ Cu.z (n - base - size) := by
  unfold over Cu.z
  rw [List.take_replicate, List.drop_replicate, Nat.min_eq_left (by omega)]
  have : n - (base + bs.length) = (size - bs.length) + (n - base - size) := by omega
  rw [this, ← List.replicate_append_replicate]
  simp [List.append_assoc]
end Go.Proofs.YtpolkioaagahhaaDoor

/- The law's views: a memory with a text in its midst. -/
namespace Go.Proofs.YtpolkioaagahhaaDoor
open Go.RowKit Go.Lib
set_option linter.unusedVariables false
set_option maxRecDepth 8000

theorem Cu.memg_low {W : World} {B b m g : Nat} {l : List UInt8} (h : MemG W B m g l) (hb : b ≤ B) : MemG W b m g l := ⟨Nat.le_trans hb h.1, Nat.le_trans hb h.2.1, h.2.2.1, h.2.2.2⟩
def Cu.Kb (w W : World) : Prop := Blk W w.heap.size 28 #[.pointer none, .int .i64 0, .int .i64 0] ∧ Below w.heap.size w W
theorem Cu.Kb.step {w W W' : World} (h : Cu.Kb w W) (b : Below W.heap.size W W') : Cu.Kb w W' := ⟨h.1.below b h.1.lt, h.2.trans (b.mono (Nat.le_of_lt h.1.lt))⟩
theorem Cu.Kb.put {w W : World} (h : Cu.Kb w W) {a b c : Value} : ∀ W', W' = ((W.setCell ⟨w.heap.size, 0, none⟩ a).setCell ⟨w.heap.size, 1, none⟩ b).setCell ⟨w.heap.size, 2, none⟩ c → (W'.cell? ⟨w.heap.size, 0, none⟩ = some a ∧ W'.cell? ⟨w.heap.size, 1, none⟩ = some b ∧ W'.cell? ⟨w.heap.size, 2, none⟩ = some c) ∧ Below w.heap.size w W' ∧ W.grownBy W' (some w.heap.size) := by
  rintro W' rfl
  have bf := ((h.1.put 0 a).put 1 b).put 2 c
  exact ⟨⟨bf.cell 0, bf.cell 1, bf.cell 2⟩, Cu.below_put (Cu.below_put (Cu.below_put h.2 (p := ⟨w.heap.size, 0, none⟩) (Nat.le_refl _) a) (p := ⟨w.heap.size, 1, none⟩) (Nat.le_refl _) b) (p := ⟨w.heap.size, 2, none⟩) (Nat.le_refl _) c, only_put (only_put (only_put (only_refl _ _) 0 a) 1 b) 2 c⟩
theorem Cu.num_len' (l : List UInt8) : (num l).length = l.length := num_len l
theorem Cu.low8_all (l : List UInt8) : (num l).map low8 = l := by
  unfold num
  rw [List.map_map]
  have : (low8 ∘ fun b : UInt8 => (b.toNat : Int)) = id := by
    funext b
    have hb := UInt8.toNat_lt b
    simp only [Function.comp, low8, id]
    have : ((b.toNat : Int) % 256).toNat = b.toNat := by omega
    rw [this]
    simp
  rw [this, List.map_id]
theorem Cu.size_z (n : Nat) (h : n ≤ 16384) : sizeOf' (n : Int) = n := by unfold sizeOf'; rw [if_neg (by omega), if_neg (by omega)]; omega
set_option maxRecDepth 20000 in
set_option maxHeartbeats 6400000 in
theorem Cu.view_any (s : ByteArray) (base size : Nat) (hs : s.size ≤ 400) (hb : base ≤ 500) (hz : size ≤ 400) (w : World) : Calls Tryd.prog 8 #[.string s, .int .i64 base, .int .i64 size] w fun e w' => ∃ m g v, e = .returned (.tuple #[.pointer (some ⟨m, 0, none⟩), Cu.vw m base size, v]) ∧ MemG w' w.heap.size m g (Cu.z base ++ Cu.v0 s size ++ Cu.z (1000 - base - size)) ∧ Below w.heap.size w w' := by
  obtain ⟨k, hk⟩ : ∃ k, (k = s.size ∧ s.size ≤ size) ∨ (k = size ∧ size < s.size) := by
    by_cases h : s.size ≤ size
    · exact ⟨_, .inl ⟨rfl, h⟩⟩
    · exact ⟨_, .inr ⟨rfl, by omega⟩⟩
  have hks : k ≤ s.size ∧ k ≤ size := by omega
  have hdl : s.data.toList.length = s.size := by rw [Array.length_toList]; rfl
  obtain ⟨t, ht⟩ : ∃ t, t = s.extract 0 k := ⟨_, rfl⟩
  have htl : t.data.toList = s.data.toList.take k := by
    rw [ht]
    simp [ByteArray.extract, ByteArray.copySlice]
  have hts : t.size = k := by
    have : t.data.toList.length = t.size := by rw [Array.length_toList]; rfl
    rw [← this, htl, List.length_take]
    omega
  have hv0 : t.data.toList ++ Cu.z (size - k) = Cu.v0 s size := by
    unfold Cu.v0 Cu.z
    rw [htl]
    rcases hk with ⟨rfl, h⟩ | ⟨rfl, h⟩
    · rw [List.take_of_length_le (by omega), List.take_of_length_le (by omega)]
    · rw [Nat.sub_self, show k - s.size = 0 from by omega]
  have HN := Lib.hid (show ∀ W, Calls Tryd.prog 21 #[.int .i64 size] W fun r w' => ∃ A c, r = .returned (.slice A size c) ∧ Ints w' A c (num (Cu.z size)) ∧ Below W.heap.size W w' from fun W => (rmnew_any size W (by omega)).mono fun e w' ⟨v, h1, h2, h3⟩ => by
    rw [Cu.size_z size (by omega)] at h2
    obtain ⟨A, c, e1, e2, -⟩ := h2.ints
    refine ⟨A, c, ?_, e2, h3⟩
    rw [h1, e1, num_len, List.length_replicate])
  have HBY := Lib.hid (show ∀ W, Calls Tryd.prog 23 #[.string t] W fun r w' => ∃ A c, r = .returned (.slice A k c) ∧ Ints w' A c (num t.data.toList) ∧ Below W.heap.size W w' from fun W => (rbytes_any t W (by omega)).mono fun e w' ⟨v, h1, h2, h3⟩ => by
    obtain ⟨A, c, e1, e2, -⟩ := h2.ints
    refine ⟨A, c, ?_, e2, h3⟩
    rw [h1, e1, num_len, htl, List.length_take, hdl, Nat.min_eq_left hks.1])
  have HWI := Lib.hid (show ∀ W A c A2 c2, Ints W A c (num (Cu.z size)) → Ints W A2 c2 (num t.data.toList) → Calls Tryd.prog 22 #[.slice A size c, .int .i64 0, .slice A2 k c2] W fun r w' => ∃ v, r = .returned v ∧ OwnN w' W.heap.size v (num (Cu.v0 s size)) ∧ Below W.heap.size W w' from fun W A c A2 c2 hA hX => by
    have hkl : t.data.toList.length = k := by rw [htl, List.length_take, hdl]; omega
    have := rwith_any A c (Cu.z size) 0 A2 c2 k (num t.data.toList) (by rw [num_len, hkl]) size (Cu.z_len size).symm W hA hX (by rw [num_len, hkl, Cu.z_len]; omega) (by rw [Cu.z_len]; omega)
    rw [Cu.low8_all, Cu.over_z size 0 t.data.toList size (by omega) (by omega), hkl] at this
    simp only [Cu.z, List.replicate_zero, List.nil_append, Nat.sub_zero, Nat.sub_self, List.append_nil] at this
    have hv := hv0
    unfold Cu.z at hv
    rw [hv] at this
    exact this)
  have HNE := Lib.hid (show ∀ W, Calls Tryd.prog 19 #[.int .i64 1000] W fun r w' => ∃ m g, r = .returned (.pointer (some ⟨m, 0, none⟩)) ∧ MemG w' W.heap.size m g (Cu.z 1000) ∧ Below W.heap.size W w' from fun W => (mnew_any 1000 W).mono fun e w' ⟨m, h1, h2, h3⟩ => by
    obtain ⟨g, h4⟩ := h2.named
    exact ⟨m, g, h1, h4, h3⟩)
  have HPU := Lib.hid (show ∀ W B m g, MemG W B m g (Cu.z 1000) → Calls Tryd.prog 20 #[.pointer (some ⟨m, 0, none⟩), .int .i64 base, .string t] W fun r w' => r = .returned (.int .i64 0) ∧ MemG w' B m g (Cu.z base ++ Cu.v0 s size ++ Cu.z (1000 - base - size)) ∧ W.grownBy w' (some g) from fun W B m g h => by
    have := mput_any W B m g (Cu.z 1000) base t h (by rw [Cu.z_len]; omega) (by omega)
    have ec : chk (Cu.z 1000).length (base : Int) t.size = 0 := by rw [Cu.z_len]; unfold chk; rw [if_neg (by omega), if_neg (by omega), if_neg (by omega), if_neg (by omega)]
    have hkl : t.data.toList.length = k := by rw [htl, List.length_take, hdl]; omega
    rw [ec, if_pos rfl, Int.toNat_natCast, Cu.over_z 1000 base t.data.toList size (by omega) (by omega), hkl, hv0] at this
    exact this)
  have HB0 := Lib.hid (show Cu.Kb w (w.alloc (.cells #[.pointer none, .int .i64 0, .int .i64 0] 28)) from ⟨Blk.new _ _ _, (Below.refl _ _).alloc (Nat.le_refl _) _⟩)
  generalize Cu.z base ++ Cu.v0 s size ++ Cu.z (1000 - base - size) = L at *
  have k1 : (k : Int) ≤ (s.size : Int) := by omega
  have k2 : ¬ (s.size : Int) < (k : Int) := by omega
  have hs4 : (s.size : Int) ≤ 400 := by omega
  have HT := Lib.hid ht.symm
  clear ht htl hts hv0 hdl hks
  unfold Cu.vw
  rcases hk with ⟨rfl, h⟩ | ⟨rfl, h⟩
  · have i1 : ¬ (size : Int) < (s.size : Int) := by omega
    have i2 : (s.size : Int) ≤ (size : Int) := by omega
    have hts : t = s := by rw [← HT.out]; simp
    subst hts
    clear h
    go_enter Tryd.func8, Tryd.ntmps8
    go_upto_region 1 with (fail)
    obtain ⟨W0, hW0⟩ : ∃ W0, W0 = w.alloc (.cells #[.pointer none, .int .i64 0, .int .i64 0] 28) := ⟨_, rfl⟩
    rw [← hW0] at HB0 ⊢
    clear hW0
    go_upto_region 6 with (first
      | (go_at_call 21; (with_reducible refine (HN.out _).mono ?_); rintro e w1 ⟨A1, c1, rfl, j1, b1⟩; have J1 := Lib.hid j1; have HB1 := Lib.hid (HB0.out.step b1); clear j1 b1)
      | (go_at_call 23; (try rw [HT.out]); (with_reducible refine (HBY.out _).mono ?_); rintro e w2 ⟨A2, c2, rfl, j2, b2⟩; have J2 := Lib.hid j2; have J1b := Lib.hid (J1.out.below b2); have HB2 := Lib.hid (HB1.out.step b2); clear j2 b2)
      | (go_at_call 22; (with_reducible refine (HWI.out _ _ _ _ _ J1b.out J2.out).mono ?_); rintro e w3 ⟨v3, rfl, hv3, b3⟩; have HB3 := Lib.hid (HB2.out.step b3); clear hv3 b3)
      | (go_at_call 19; (with_reducible refine (HNE.out _).mono ?_); rintro e w4 ⟨m, g, rfl, hm4, b4⟩; have HM4 := Lib.hid hm4; have HB4 := Lib.hid (HB3.out.step b4); have HLT := Lib.hid HB3.out.1.lt; clear hm4 b4)
      | (go_at_call 20; (try rw [HT.out]); (with_reducible refine (HPU.out _ _ _ _ HM4.out).mono ?_); rintro e w5 ⟨rfl, hm5, b5⟩; have HM5 := Lib.hid hm5; have HB5 := Lib.hid (show Cu.Kb w w5 from ⟨HB4.out.1.only b5 (fun e => by injection e with e; have := HM4.out.1; have := HLT.out; omega), HB4.out.2.trans (below_of_only b5 (Nat.le_of_lt HB4.out.1.lt) (fun q hq => by injection hq with hq; have := HM4.out.1; have := HLT.out; omega))⟩); clear hm5 b5))
    obtain ⟨x0, x1, x2, f0, f1, f2⟩ := in3f HB5.out.1
    go_wp2
    obtain ⟨⟨r0, r1, r2⟩, G8, G9⟩ := Cu.Kb.put HB5.out (a := .pointer (some ⟨m, 0, none⟩)) (b := .int .i64 base) (c := .int .i64 size) _ rfl
    refine bodyPost_ret (v := .tuple #[.pointer (some ⟨m, 0, none⟩), .agg #[.pointer (some ⟨m, 0, none⟩), .int .i64 base, .int .i64 size], v3]) (by simp [results, Tryd.results8, go_sem, r0, r1, r2]) rfl ⟨m, g, v3, rfl, ?_, G8⟩
    exact Cu.memg_low (HM5.out.far G9 (by have := HM5.out.1; have := HLT.out; omega) (by have := HM5.out.2.1; have := HLT.out; omega)) (Nat.le_of_lt HLT.out)
  · have i1 : (k : Int) < (s.size : Int) := by omega
    clear h
    go_enter Tryd.func8, Tryd.ntmps8
    go_upto_region 1 with (fail)
    obtain ⟨W0, hW0⟩ : ∃ W0, W0 = w.alloc (.cells #[.pointer none, .int .i64 0, .int .i64 0] 28) := ⟨_, rfl⟩
    rw [← hW0] at HB0 ⊢
    clear hW0
    go_upto_region 6 with (first
      | (go_at_call 21; (with_reducible refine (HN.out _).mono ?_); rintro e w1 ⟨A1, c1, rfl, j1, b1⟩; have J1 := Lib.hid j1; have HB1 := Lib.hid (HB0.out.step b1); clear j1 b1)
      | (go_at_call 23; (try rw [HT.out]); (with_reducible refine (HBY.out _).mono ?_); rintro e w2 ⟨A2, c2, rfl, j2, b2⟩; have J2 := Lib.hid j2; have J1b := Lib.hid (J1.out.below b2); have HB2 := Lib.hid (HB1.out.step b2); clear j2 b2)
      | (go_at_call 22; (with_reducible refine (HWI.out _ _ _ _ _ J1b.out J2.out).mono ?_); rintro e w3 ⟨v3, rfl, hv3, b3⟩; have HB3 := Lib.hid (HB2.out.step b3); clear hv3 b3)
      | (go_at_call 19; (with_reducible refine (HNE.out _).mono ?_); rintro e w4 ⟨m, g, rfl, hm4, b4⟩; have HM4 := Lib.hid hm4; have HB4 := Lib.hid (HB3.out.step b4); have HLT := Lib.hid HB3.out.1.lt; clear hm4 b4)
      | (go_at_call 20; (try rw [HT.out]); (with_reducible refine (HPU.out _ _ _ _ HM4.out).mono ?_); rintro e w5 ⟨rfl, hm5, b5⟩; have HM5 := Lib.hid hm5; have HB5 := Lib.hid (show Cu.Kb w w5 from ⟨HB4.out.1.only b5 (fun e => by injection e with e; have := HM4.out.1; have := HLT.out; omega), HB4.out.2.trans (below_of_only b5 (Nat.le_of_lt HB4.out.1.lt) (fun q hq => by injection hq with hq; have := HM4.out.1; have := HLT.out; omega))⟩); clear hm5 b5))
    obtain ⟨x0, x1, x2, f0, f1, f2⟩ := in3f HB5.out.1
    go_wp2
    obtain ⟨⟨r0, r1, r2⟩, G8, G9⟩ := Cu.Kb.put HB5.out (a := .pointer (some ⟨m, 0, none⟩)) (b := .int .i64 base) (c := .int .i64 k) _ rfl
    refine bodyPost_ret (v := .tuple #[.pointer (some ⟨m, 0, none⟩), .agg #[.pointer (some ⟨m, 0, none⟩), .int .i64 base, .int .i64 k], v3]) (by simp [results, Tryd.results8, go_sem, r0, r1, r2]) rfl ⟨m, g, v3, rfl, ?_, G8⟩
    exact Cu.memg_low (HM5.out.far G9 (by have := HM5.out.1; have := HLT.out; omega) (by have := HM5.out.2.1; have := HLT.out; omega)) (Nat.le_of_lt HLT.out)
end Go.Proofs.YtpolkioaagahhaaDoor

/- Slices of the call's own that move along their rows: what they hold, and what an append, a clearing and a cut do. No program is spoken of here. -/
namespace Go.Proofs.YtpolkioaagahhaaDoor
open Go.RowKit Go.Lib
set_option linter.unusedVariables false

/-- A slice of one-cell elements l: nil, or in a row that it may write. -/
def RowQ (w : World) (v : Value) (l : List Value) : Prop :=
  (v = .slice none 0 0 ∧ l = []) ∨ ∃ g off cap, v = .slice (some ⟨g, off, none⟩) l.length cap ∧ l.length ≤ cap ∧ cap ≤ maxLen ∧ g < w.heap.size ∧
    (∀ j, j < cap → (w.cell? ⟨g, off + j, none⟩).isSome = true ∧ w.frozen? ⟨g, off + j, none⟩ = false) ∧ ∀ j (hj : j < l.length), w.cell? ⟨g, off + j, none⟩ = some l[j]

def Keeps (S : Nat → Prop) (w w' : World) : Prop := w'.os = w.os ∧ w'.tape = w.tape ∧ w'.output = w.output ∧ w.heap.size ≤ w'.heap.size ∧ ∀ i, i < w.heap.size → ¬ S i → w'.heap[i]? = w.heap[i]?
theorem Keeps.refl (S : Nat → Prop) (w : World) : Keeps S w w := ⟨rfl, rfl, rfl, Nat.le_refl _, fun _ _ _ => rfl⟩
theorem Keeps.trans {S : Nat → Prop} {a b c : World} (h : Keeps S a b) (k : Keeps S b c) : Keeps S a c :=
  ⟨k.1.trans h.1, k.2.1.trans h.2.1, k.2.2.1.trans h.2.2.1, Nat.le_trans h.2.2.2.1 k.2.2.2.1, fun i hi hs => (k.2.2.2.2 i (Nat.lt_of_lt_of_le hi h.2.2.2.1) hs).trans (h.2.2.2.2 i hi hs)⟩
theorem Keeps.mono {S T : Nat → Prop} {a b : World} (h : Keeps S a b) (hs : ∀ i, i < a.heap.size → S i → T i) : Keeps T a b := ⟨h.1, h.2.1, h.2.2.1, h.2.2.2.1, fun i hi hn => h.2.2.2.2 i hi (fun x => hn (hs i hi x))⟩
theorem Keeps.of_only {a b : World} {row : Option Nat} (h : a.grownBy b row) {S : Nat → Prop} (hs : ∀ k, row = some k → S k) : Keeps S a b := ⟨h.os, h.tape, h.output, h.size, fun i hi hn => h.block i hi (fun e => hn (hs i e.symm))⟩
theorem Keeps.of_below {a b : World} (h : Below a.heap.size a b) (S : Nat → Prop) : Keeps S a b := ⟨h.os, h.tape, h.output, h.size, fun i hi _ => h.block i hi⟩
theorem Keeps.below {a b : World} {B : Nat} {S : Nat → Prop} (h : Keeps S a b) (hB : B ≤ a.heap.size) (hs : ∀ i, i < B → ¬ S i) : Below B a b := ⟨h.1, h.2.1, h.2.2.1, h.2.2.2.1, fun i hi => h.2.2.2.2 i (Nat.lt_of_lt_of_le hi hB) (hs i hi)⟩
theorem Keeps.size {S : Nat → Prop} {a b : World} (h : Keeps S a b) : a.heap.size ≤ b.heap.size := h.2.2.2.1
theorem Keeps.drew {S : Nat → Prop} {a b : World} (h : Keeps S a b) (n : Nat) : Keeps S a (b.drewN n) := h
theorem Keeps.put {S : Nat → Prop} {a b : World} (h : Keeps S a b) {p : Addr} (hp : S p.block ∨ a.heap.size ≤ p.block) (u : Value) : Keeps S a (b.setCell p u) :=
  ⟨h.1, h.2.1, h.2.2.1, by simpa using h.size, fun i hi hs => (Below.heap_setCell b p u i (by
    rintro rfl
    rcases hp with hp | hp
    · exact hs hp
    · omega)).trans (h.2.2.2.2 i hi hs)⟩
theorem Keeps.alloc {S : Nat → Prop} {a b : World} (h : Keeps S a b) (o : Obj) : Keeps S a (b.alloc o) :=
  ⟨h.1, h.2.1, h.2.2.1, Nat.le_trans h.size (by simp), fun i hi hs => (Below.heap_alloc b o i (Nat.lt_of_lt_of_le hi h.size)).trans (h.2.2.2.2 i hi hs)⟩
theorem Blk.keeps {S : Nat → Prop} {w w' : World} {g : Nat} {t : TypeId} {cs : Array Value} (h : Blk w g t cs) (k : Keeps S w w') (hg : ¬ S g) : Blk w' g t cs := (k.2.2.2.2 g h.lt hg).trans h

theorem setCells_at (b : Nat) : ∀ (vs : List Value) (o : Nat) (w : World), (w.setCells b o vs).os = w.os ∧ (w.setCells b o vs).tape = w.tape ∧ (w.setCells b o vs).output = w.output ∧ (w.setCells b o vs).heap.size = w.heap.size ∧ ∀ k, k ≠ b → (w.setCells b o vs).heap[k]? = w.heap[k]?
  | [], _, _ => ⟨rfl, rfl, rfl, rfl, fun _ _ => rfl⟩
  | v :: r, o, w => by
    obtain ⟨h1, h2, h3, h4, h5⟩ := setCells_at b r (o + 1) (w.setCell ⟨b, o, none⟩ v)
    refine ⟨h1, h2, h3, h4.trans (by simp), fun k hk => (h5 k hk).trans (Below.heap_setCell w _ v k hk)⟩
theorem only_cells (w : World) (b o : Nat) (vs : List Value) : w.grownBy (w.setCells b o vs) (some b) := by
  obtain ⟨h1, h2, h3, h4, h5⟩ := setCells_at b vs o w
  exact ⟨h1, h2, h3, Nat.le_of_eq h4.symm, fun k _ hk => h5 k (fun e => hk (by rw [e]))⟩

section
variable {w w' : World} {v : Value} {l : List Value}
theorem RowQ.nil (w : World) : RowQ w (.slice none 0 0) [] := .inl ⟨rfl, rfl⟩
theorem RowQ.form (h : RowQ w v l) : ∃ A c, v = .slice A l.length c := by
  rcases h with ⟨rfl, rfl⟩ | ⟨g, off, cap, rfl, _⟩
  · exact ⟨_, _, rfl⟩
  · exact ⟨_, _, rfl⟩
theorem RowQ.lt (h : RowQ w v l) : ∀ k, v.ownBlock = some k → k < w.heap.size := by
  intro k hk
  rcases h with ⟨rfl, _⟩ | ⟨g, off, cap, rfl, _, _, hg, _⟩
  · simp [Value.ownBlock] at hk
  · simp [Value.ownBlock] at hk
    omega
theorem RowQ.same (h : RowQ w v l) (hs : w.heap.size ≤ w'.heap.size) (hb : ∀ k, v.ownBlock = some k → w'.heap[k]? = w.heap[k]?) : RowQ w' v l := by
  rcases h with h | ⟨g, off, cap, rfl, h1, h2, h3, h4, h5⟩
  · exact .inl h
  · have hg := hb g rfl
    have hc : ∀ o, w'.cell? ⟨g, o, none⟩ = w.cell? ⟨g, o, none⟩ := fun o => by simp [World.cell?, hg]
    have hf : ∀ o, w'.frozen? ⟨g, o, none⟩ = w.frozen? ⟨g, o, none⟩ := fun o => by simp [World.frozen?, hg]
    exact .inr ⟨g, off, cap, rfl, h1, h2, by omega, fun j hj => by rw [hc, hf]; exact h4 j hj, fun j hj => by rw [hc]; exact h5 j hj⟩
theorem RowQ.keeps {S : Nat → Prop} (h : RowQ w v l) (k : Keeps S w w') (hn : ∀ i, v.ownBlock = some i → ¬ S i) : RowQ w' v l :=
  h.same k.size fun i hi => k.2.2.2.2 i (h.lt i hi) (hn i hi)
theorem RowQ.below {B : Nat} (h : RowQ w v l) (k : Below B w w') (hn : ∀ i, v.ownBlock = some i → i < B) : RowQ w' v l :=
  h.same k.size fun i hi => k.block i (hn i hi)
theorem RowQ.drewN (h : RowQ w v l) (n : Nat) : RowQ (w.drewN n) v l := h
theorem RowQ.alloc (h : RowQ w v l) (o : Obj) : RowQ (w.alloc o) v l := h.same (by simp) fun k hk => Below.heap_alloc w o k (h.lt k hk)
theorem RowQ.put (h : RowQ w v l) {p : Addr} (hp : v.ownBlock ≠ some p.block) (u : Value) : RowQ (w.setCell p u) v l :=
  h.same (by simp) fun k hk => Below.heap_setCell w p u k (by rintro rfl; exact hp hk)

/-- A new row whose first places hold l. -/
theorem RowQ.new (w : World) (cur : Array Value) (e : TypeId) (cap : Nat) (l : List Value) (hc : cur.size = cap) (hl : l.length ≤ cap) (hm : cap ≤ maxLen) (hp : ∀ j (hj : j < l.length), cur[j]? = some l[j]) :
    RowQ (w.alloc (.cells cur e)) (.slice (some ⟨w.heap.size, 0, none⟩) l.length cap) l := by
  have hb : Blk (w.alloc (.cells cur e)) w.heap.size e cur := Blk.new w e cur
  refine .inr ⟨w.heap.size, 0, cap, rfl, hl, hm, by simp, fun j hj => ⟨?_, hb.free _⟩, fun j hj => ?_⟩
  · rw [hb.cell, Nat.zero_add, Array.getElem?_eq_getElem (by omega)]
    rfl
  · rw [hb.cell, Nat.zero_add]
    exact hp j hj

theorem addr_at (g o j : Nat) : (⟨g, o, none⟩ : Addr).add j = ⟨g, o + j, none⟩ := by unfold Addr.add; split <;> simp_all

/-- What a slice reads as1, for an append of its elements. -/
theorem RowQ.src {P : Program} (h : RowQ w v l) (tx e' : TypeId) (hk : P.underlying tx = some (.slice e')) (h1 : ∀ u ∈ l, u.oneCell' = true) : Src P 1 tx v l.length l w := by
  rcases h with ⟨rfl, rfl⟩ | ⟨g, off, cap, rfl, _, _, _, _, h5⟩
  · exact Src.ofNil w hk 0
  · refine Src.ofSlice w hk _ _ _ _ (by simp) ?_ h1
    intro j u hu
    obtain ⟨hj, rfl⟩ := List.getElem?_eq_some_iff.1 hu
    rw [addr_at]
    exact h5 j hj

/-- append(v, x), v a slice of the call's own. -/
theorem run_push {P : Program} (w : World) (t e ty : TypeId) (i : TypeInfo) (z : Value) (bytes : Nat) (ht : P.underlying t = some (.slice e)) (hi : P.info? e = some i) (hz : i.zero = some z) (hs : i.size = 1) (hby : i.bytes = bytes) (hb16 : bytes ≤ 16) (hzs : z.cells.size = 1)
    (v : Value) (l : List Value) (h : RowQ w v l) (h1 : ∀ u ∈ l, u.oneCell' = true) (xs : Value) (x : Value) (hx : Src P 1 t xs 1 [x] w) (hn : l.length ≤ 1000000) :
    ∃ v' w', (Builtin.append_ #[t, t] ty #[v, xs]).run P w = .ok v' w' ∧ RowQ w' v' (l ++ [x]) ∧ w.grownBy w' v.ownBlock ∧ (v'.ownBlock = v.ownBlock ∨ v'.ownBlock = some w.heap.size) ∧ ∃ A c, v' = .slice A (l.length + 1) c := by
  have hbm : (l.length + 1) * bytes ≤ 140737488355328 := by
    have : (l.length + 1) * bytes ≤ 1000001 * 16 := Nat.mul_le_mul (by omega) hb16
    omega
  have hsrc : Src P i.size t xs 1 [x] w := by rw [hs]; exact hx
  have grown : ∀ (base : Option Addr) (cap : Nat), v = .slice base l.length cap → cap < l.length + 1 → ∃ v' w', (Builtin.append_ #[t, t] ty #[v, xs]).run P w = .ok v' w' ∧ RowQ w' v' (l ++ [x]) ∧ w.grownBy w' v.ownBlock ∧ (v'.ownBlock = v.ownBlock ∨ v'.ownBlock = some w.heap.size) ∧ ∃ A c, v' = .slice A (l.length + 1) c := by
    intro base cap hv hcap
    have hold := ((h.drewN 1).src (P := P) t e ht h1).cells
    have hm : l.length + 1 ≤ maxLen := by unfold maxLen; omega
    have hge := grownCap_ge w (l.length + 1) cap e
    have hcm := grownCap_le_maxLen w (l.length + 1) cap e hm
    rw [hv] at hold
    have hr := run_append_grow_src (P := P) w t t ty e i z ht hi hz base l.length cap l (by rw [hs]; exact hold) xs 1 [x] hsrc hcap (by omega) (by rw [hby]; exact growslice_fits hcap hbm)
    have hlen : (l ++ [x]).length = l.length + 1 := by simp
    rw [hv]
    refine ⟨_, _, hr, ?_, ⟨rfl, rfl, rfl, by simp, fun k hk _ => Below.heap_alloc w.drew _ k hk⟩, .inr rfl, _, _, rfl⟩
    have := RowQ.new w.drew ((l ++ [x]).toArray ++ Builtin.zeroCells z.cells (grownCap w (l.length + 1) cap e - (l.length + 1))) e (grownCap w (l.length + 1) cap e) (l ++ [x]) (by
      simp only [Array.size_append, List.size_toArray, size_zeroCells, hzs, hlen]
      omega) (by rw [hlen]; exact hge) hcm (by
      intro j hj
      rw [Array.getElem?_append_left (by simpa using hj)]
      simp only [List.getElem?_toArray]
      exact List.getElem?_eq_getElem hj)
    rw [hlen] at this
    exact this
  rcases h with ⟨rfl, rfl⟩ | ⟨g, off, cap, rfl, h2, h3, h4, h5, h6⟩
  · exact grown none 0 rfl (by simp)
  · by_cases hroom : l.length + 1 ≤ cap
    · have hr := run_append_room_src (P := P) w t t ty e i ht hi g off l.length cap xs 1 [x] hsrc hroom (by
        intro j hj
        simp at hj
        subst hj
        rw [hs, Nat.mul_one]
        exact (h5 l.length (by omega)).1) (by
        intro j hj
        simp at hj
        subst hj
        rw [hs, Nat.mul_one]
        exact (h5 l.length (by omega)).2)
      rw [hs, Nat.mul_one] at hr
      refine ⟨_, _, hr, .inr ⟨g, off, cap, by simp, by simpa using hroom, h3, ?_, ?_, ?_⟩, only_cells _ _ _ _, .inl rfl, _, _, rfl⟩
      · rw [(setCells_at g [x] (off + l.length) w).2.2.2.1]
        exact h4
      · intro j hj
        rw [World.frozen?_setCells]
        refine ⟨?_, (h5 j hj).2⟩
        by_cases e1 : j = l.length
        · subst e1
          have := World.cell?_setCells_in g [x] (off + l.length) w (by intro k hk; simp at hk; subst hk; exact (h5 l.length (by omega)).1) 0 (by simp)
          rw [Nat.add_zero] at this
          rw [this]
          rfl
        · rw [World.cell?_setCells_out g [x] (off + l.length) w _ (by intro _ _; simp; omega)]
          exact (h5 j hj).1
      · intro j hj
        by_cases e1 : j = l.length
        · subst e1
          have := World.cell?_setCells_in g [x] (off + l.length) w (by intro k hk; simp at hk; subst hk; exact (h5 l.length (by omega)).1) 0 (by simp)
          rw [Nat.add_zero] at this
          rw [this]
          simp
        · have hj' : j < l.length := by simp at hj; omega
          rw [World.cell?_setCells_out g [x] (off + l.length) w _ (by intro _ _; simp; omega), h6 j hj', List.getElem_append_left hj']
    · exact grown _ cap rfl (by omega)

/-- append(e, v...), e an empty slice that is not nil and has no room. -/
theorem run_all {P : Program} (w : World) (t e ty : TypeId) (i : TypeInfo) (z : Value) (bytes : Nat) (ht : P.underlying t = some (.slice e)) (hi : P.info? e = some i) (hz : i.zero = some z) (hs : i.size = 1) (hby : i.bytes = bytes) (hb16 : bytes ≤ 16) (hzs : z.cells.size = 1)
    (v : Value) (l : List Value) (h : RowQ w v l) (h1 : ∀ u ∈ l, u.oneCell' = true) (hn : l.length ≤ 1000000) (a : Nat) (ha : a < w.heap.size) :
    ∃ v' w', (Builtin.append_ #[t, t] ty #[.slice (some ⟨a, 0, none⟩) 0 0, v]).run P w = .ok v' w' ∧ RowQ w' v' l ∧ Below w.heap.size w w' ∧ (v'.ownBlock = some a ∨ v'.ownBlock = some w.heap.size) ∧ ∃ A c, v' = .slice (some A) l.length c := by
  have hsrc : Src P i.size t v l.length l w := by rw [hs]; exact h.src t e ht h1
  by_cases h0 : l = []
  · subst h0
    have hr := run_append_nothing (P := P) w t t ty e i ht hi (some ⟨a, 0, none⟩) 0 0 (Nat.le_refl _) v hsrc
    refine ⟨_, _, hr, .inr ⟨a, 0, 0, rfl, by simp, by simp [maxLen], ha, fun j hj => absurd hj (by omega), fun j hj => absurd hj (by simp)⟩, Below.refl _ _, .inl rfl, _, _, rfl⟩
  · have hpos : 0 < l.length := List.length_pos_iff.2 h0
    have hbm : l.length * bytes ≤ 140737488355328 := by
      have : l.length * bytes ≤ 1000000 * 16 := Nat.mul_le_mul hn hb16
      omega
    have hm : l.length ≤ maxLen := by unfold maxLen; omega
    have hge := grownCap_ge w (0 + l.length) 0 e
    have hcm := grownCap_le_maxLen w (0 + l.length) 0 e (by simpa using hm)
    have hold := run_firstCells_some (P := P) w.drew i.size 0 ⟨a, 0, none⟩ 0 0 [] (by simp) (by intro j u hu; cases hu)
    have hr := run_append_grow_src (P := P) w t t ty e i z ht hi hz (some ⟨a, 0, none⟩) 0 0 [] hold v l.length l hsrc (by omega) (by omega) (by rw [hby]; exact growslice_fits (by omega) (by simpa using hbm))
    rw [Nat.zero_add] at hr hge hcm
    refine ⟨_, _, hr, ?_, ⟨rfl, rfl, rfl, by simp, fun k hk => Below.heap_alloc w.drew _ k hk⟩, .inr rfl, _, _, rfl⟩
    exact RowQ.new w.drew _ e _ l (by
      simp only [Array.size_append, List.size_toArray, size_zeroCells, hzs, List.nil_append]
      omega) hge hcm (by
      intro j hj
      rw [Array.getElem?_append_left (by simpa using hj)]
      simp only [List.getElem?_toArray, List.nil_append]
      exact List.getElem?_eq_getElem hj)

/-- The first n elements of a slice are cleared: what is left behind them. -/
theorem RowQ.cleared {g off cap n : Nat} (z : Value) (h2 : l.length ≤ cap) (h3 : cap ≤ maxLen) (h4 : g < w.heap.size)
    (h5 : ∀ j, j < cap → (w.cell? ⟨g, off + j, none⟩).isSome = true ∧ w.frozen? ⟨g, off + j, none⟩ = false) (h6 : ∀ j (hj : j < l.length), w.cell? ⟨g, off + j, none⟩ = some l[j]) (hn : n ≤ l.length) :
    RowQ (w.setCells g off (List.replicate n z)) (.slice (some ⟨g, off + n, none⟩) (l.length - n) (cap - n)) (l.drop n) := by
  refine .inr ⟨g, off + n, cap - n, by simp, by simp; omega, by omega, by rw [(setCells_at g _ off w).2.2.2.1]; exact h4, fun j hj => ?_, fun j hj => ?_⟩
  · rw [World.frozen?_setCells, World.cell?_setCells_out g _ off w _ (by intro _ _; simp), Nat.add_assoc]
    exact h5 (n + j) (by omega)
  · have hj' : n + j < l.length := by simp at hj; omega
    rw [World.cell?_setCells_out g _ off w _ (by intro _ _; simp), Nat.add_assoc, h6 (n + j) hj', List.getElem_drop]
theorem RowQ.empty {g : Nat} (o : Nat) (hg : g < w.heap.size) : RowQ w (.slice (some ⟨g, o, none⟩) 0 0) [] :=
  .inr ⟨g, o, 0, rfl, by simp, by simp [maxLen], hg, fun j hj => absurd hj (by omega), fun j hj => absurd hj (by simp)⟩
/-- The first n elements of a slice, as1 a slice. -/
theorem RowQ.first {g off cap n : Nat} (h2 : l.length ≤ cap) (h3 : cap ≤ maxLen) (h4 : g < w.heap.size)
    (h5 : ∀ j, j < cap → (w.cell? ⟨g, off + j, none⟩).isSome = true ∧ w.frozen? ⟨g, off + j, none⟩ = false) (h6 : ∀ j (hj : j < l.length), w.cell? ⟨g, off + j, none⟩ = some l[j]) (hn : n ≤ l.length) :
    RowQ w (.slice (some ⟨g, off, none⟩) n cap) (l.take n) := by
  have hl : (l.take n).length = n := by simp; omega
  refine .inr ⟨g, off, cap, by rw [hl], by omega, h3, h4, h5, fun j hj => ?_⟩
  rw [h6 j (by omega), List.getElem_take]
/-- What is behind the first n elements of a slice, as1 a slice. -/
theorem RowQ.rest {g off cap n : Nat} (h2 : l.length ≤ cap) (h3 : cap ≤ maxLen) (h4 : g < w.heap.size)
    (h5 : ∀ j, j < cap → (w.cell? ⟨g, off + j, none⟩).isSome = true ∧ w.frozen? ⟨g, off + j, none⟩ = false) (h6 : ∀ j (hj : j < l.length), w.cell? ⟨g, off + j, none⟩ = some l[j]) (hn : n ≤ l.length) :
    RowQ w (.slice (some ⟨g, off + n, none⟩) (l.length - n) (cap - n)) (l.drop n) := by
  refine .inr ⟨g, off + n, cap - n, by simp, by simp; omega, by omega, h4, fun j hj => ?_, fun j hj => ?_⟩
  · rw [Nat.add_assoc]
    exact h5 (n + j) (by omega)
  · have hj' : n + j < l.length := by simp at hj; omega
    rw [Nat.add_assoc, h6 (n + j) hj', List.getElem_drop]
end

section
variable {P : Program} {w : World} {ops : Array Oper} {rest : List Oper} {o : Oper} {a : Act} {Q : Exit → Act → World → Prop}
/-- append, at the operation, where its run is known. -/
theorem wpList_append_eq (hgd : o.guard = none) (s x : Operand) (t : TypeId) (ho : o.op = .call { callee := .builtin .append, args := #[s, x], argTypes := #[t, t] })
    {v xs v' : Value} {w' : World} (hr : (Builtin.append_ #[t, t] o.type #[v, xs]).run P w = .ok v' w') (hs : a.eval s = v) (hx : a.eval x = xs) (h : wpList P ops Q rest (a.put o.dst v') w') : wpList P ops Q (o :: rest) a w := by
  refine wpList_plain hgd fun K hK => ?_
  unfold Oper.wp execOp
  simp only [ho, resolve, invoke, builtin, Sem.run_bind, Sem.run_pure, Result.andThen_ok, List.map_toArray, List.map_cons, List.map_nil, hs, hx, hr]
  exact hK _ _ h
/-- clear, at the operation, where its run is known. -/
theorem wpList_clear_eq (hgd : o.guard = none) (s : Operand) (t : TypeId) (ho : o.op = .call { callee := .builtin .clear, args := #[s], argTypes := #[t] })
    {v v' : Value} {w' : World} (hr : (Builtin.clear_ #[t] o.type #[v]).run P w = .ok v' w') (hs : a.eval s = v) (h : wpList P ops Q rest (a.put o.dst v') w') : wpList P ops Q (o :: rest) a w := by
  refine wpList_plain hgd fun K hK => ?_
  unfold Oper.wp execOp
  simp only [ho, resolve, invoke, builtin, Sem.run_bind, Sem.run_pure, Result.andThen_ok, List.map_toArray, List.map_cons, List.map_nil, hs, hr]
  exact hK _ _ h
end

/-- A queue, or the document's, lies in block b: its things, its limit, its drops. -/
def Que (w : World) (b : Nat) (T : TypeId) (v : Value) (l : List Value) (lim : Nat) (dr : Nat) : Prop :=
  Blk w b T #[v, .int .i64 lim, .int .i64 dr] ∧ RowQ w v l ∧ v.ownBlock ≠ some b
/-- Its blocks. -/
def OwnQ (b : Nat) (v : Value) (i : Nat) : Prop := i = b ∨ v.ownBlock = some i
theorem Que.lt {w : World} {b : Nat} {T : TypeId} {v : Value} {l : List Value} {lim dr : Nat} (h : Que w b T v l lim dr) : ∀ i, OwnQ b v i → i < w.heap.size := by
  rintro i (rfl | hi)
  · exact h.1.lt
  · exact h.2.1.lt i hi
theorem Que.keeps {w w' : World} {b : Nat} {T : TypeId} {v : Value} {l : List Value} {lim dr : Nat} {S : Nat → Prop} (h : Que w b T v l lim dr) (k : Keeps S w w') (hn : ∀ i, OwnQ b v i → ¬ S i) : Que w' b T v l lim dr :=
  ⟨h.1.keeps k (hn b (.inl rfl)), h.2.1.keeps k fun i hi => hn i (.inr hi), h.2.2⟩
/-- What a call that writes a queue leaves. -/
def QueN (w : World) (b : Nat) (T : TypeId) (v : Value) (lim : Nat) (w' : World) (l' : List Value) (dr' : Nat) : Prop :=
  ∃ v', Que w' b T v' l' lim dr' ∧ Keeps (OwnQ b v) w w' ∧ ∀ i, OwnQ b v' i → OwnQ b v i ∨ w.heap.size ≤ i
end Go.Proofs.YtpolkioaagahhaaDoor
