import Derived.Test.YthhodadfiipffaaDoorZ02
import Derived.Laws.OwnMore
import Derived.Laws.AppendOwnNone
import Derived.Test.YthhodadfiipffaaDoorZ13
set_option linter.all false
/- The document's memory, a list of numbers: New, With, There, Bytes: their contracts. -/
namespace Go.Proofs.YthhodadfiipffaaDoor
open Go.RowKit Go.Lib Go.Sort
set_option linter.unusedVariables false

/-- Bytes as1 numbers. -/
def num (l : List UInt8) : List Int := l.map fun b => (b.toNat : Int)
def iCells (l : List Int) : List Value := l.map (Value.int .i64)
def low8 (x : Int) : UInt8 := UInt8.ofNat (x % 256).toNat
theorem num_len (l : List UInt8) : (num l).length = l.length := by simp [num]
theorem iCells_len (l : List Int) : (iCells l).length = l.length := by simp [iCells]
theorem iCells_get {l : List Int} {i : Nat} (h : i < l.length) : (iCells l)[i]? = some (.int .i64 l[i]) := by simp [iCells, h]
theorem iCells_one (l : List Int) : ∀ u ∈ iCells l, u.oneCell' = true := by
  intro u hu
  simp only [iCells, List.mem_map] at hu
  obtain ⟨b, _, rfl⟩ := hu
  rfl
theorem low8_num (x : Int) : ((low8 x).toNat : Int) = x % 256 := u8_num _ (by omega) (by omega)

/-- Numbers that lie somewhere. -/
def Ints (w : World) (A : Option Addr) (cap : Nat) (l : List Int) : Prop :=
  (A = none → l.length = 0 ∧ cap = 0) ∧ (0 < l.length → ∃ b off, A = some ⟨b, off, none⟩ ∧ b < w.heap.size ∧ ∀ i (h : i < l.length), w.cell? ⟨b, off + i, none⟩ = some (.int .i64 l[i]))
theorem Ints.below {w w' : World} {A : Option Addr} {cap : Nat} {l : List Int} (h : Ints w A cap l) (hb : Below w.heap.size w w') : Ints w' A cap l := by
  refine ⟨h.1, fun hp => ?_⟩
  obtain ⟨b, off, h1, h2, h3⟩ := h.2 hp
  exact ⟨b, off, h1, Nat.lt_of_lt_of_le h2 hb.size, fun i hi => (hb.cell (p := ⟨b, off + i, none⟩) h2).trans (h3 i hi)⟩
theorem Ints.src {w : World} {ad : Addr} {cap : Nat} {l : List Int} (h : Ints w (some ad) cap l) : ∀ j u, (iCells l)[j]? = some u → w.cell? (ad.add j) = some u := by
  intro j u hj
  have hjl : j < l.length := by
    rcases Nat.lt_or_ge j l.length with q | q
    · exact q
    · rw [List.getElem?_eq_none (by rw [iCells_len]; exact q)] at hj; cases hj
  obtain ⟨b, off, h1, h2, h3⟩ := h.2 (by omega)
  injection h1 with h1
  subst h1
  have ha : (⟨b, off, none⟩ : Addr).add j = ⟨b, off + j, none⟩ := by unfold Addr.add; split <;> simp_all
  rw [ha, h3 j hjl]
  rw [iCells_get hjl] at hj
  exact hj

/-- Numbers of the call's own. -/
def OwnN (w : World) (B : Nat) (v : Value) (l : List Int) : Prop := w.ownsRow B 3 1 v l.length (iCells l)
theorem OwnN.ints {w : World} {B : Nat} {v : Value} {l : List Int} (h : OwnN w B v l) : ∃ A c, v = .slice A l.length c ∧ Ints w A c l ∧ l.length ≤ c := by
  have h' : w.ownsRow B 3 1 v l.length (iCells l) := h
  rcases h'.2 with ⟨rfl, h0⟩ | ⟨g, cap, cur, rfl, h1, h2, h3, h4, h5, h6⟩
  · have hl : l.length = 0 := by simpa [iCells] using h0
    exact ⟨none, 0, by rw [hl], ⟨fun _ => ⟨hl, rfl⟩, fun h => by omega⟩, by omega⟩
  · refine ⟨_, cap, rfl, ⟨fun e => (by cases e), fun hp => ⟨g, 0, rfl, lt_of_block h2, fun i hi => ?_⟩⟩, h3⟩
    rw [Nat.zero_add, h'.cellAt i (by omega), iCells_get hi]
theorem OwnN.form {w : World} {B : Nat} {v : Value} {l : List Int} (h : OwnN w B v l) : ∃ A c, v = .slice A l.length c := by
  obtain ⟨A, c, h1, _⟩ := h.ints
  exact ⟨A, c, h1⟩
theorem OwnN.below {w w' : World} {B : Nat} {v : Value} {l : List Int} (h : OwnN w B v l) (hb : w.grownBy w' none) : OwnN w' B v l :=
  World.ownsRow.kept h hb (by cases hv : v.ownBlock <;> simp)
theorem OwnN.blk {w : World} {B : Nat} {v : Value} {l : List Int} (h : OwnN w B v l) : ∀ k, v.ownBlock = some k → B ≤ k := fun k hk => (World.ownsRow.lt h k hk).1

theorem int_info : (Tryd.prog.info? 3).map (fun i => (i.zero, i.size, i.bytes)) = some (some (.int .i64 0), 1, 8) := by kernel_rfl
theorem OwnN.bare (w : World) (B : Nat) (hB : B ≤ w.heap.size) : OwnN (w.alloc (.cells #[] 3)) B (.slice (some ⟨w.heap.size, 0, none⟩) 0 0) [] :=
  World.ownsRow_made w #[] 0 hB (by unfold maxLen; omega) rfl

/-- append of numbers onto numbers of the call's own; the value is not nil if it was not. -/
theorem wpList_append_ints {w : World} {ops : Array Oper} {rest : List Oper} {o : Oper} {a : Act} {Q : Exit → Act → World → Prop} (hgd : o.guard = none) (s x : Operand)
    (ho : o.op = .call { callee := .builtin .append, args := #[s, x], argTypes := #[32, 32] })
    (B : Nat) (v : Value) (l : List Int) (hs : a.eval s = v) (hV : OwnN w B v l) (A : Option Addr) (m c : Nat) (xs : List Int) (hm : m = xs.length) (hx : a.eval x = .slice A m c) (hsp : Ints w A c xs) (hn : l.length + m ≤ 1000000) (hB : B ≤ w.heap.size)
    (h : ∀ v' w', OwnN w' B v' (l ++ xs) → (v ≠ .slice none 0 0 → v' ≠ .slice none 0 0) → Below B w w' → wpList Tryd.prog ops Q rest (a.put o.dst v') w') : wpList Tryd.prog ops Q (o :: rest) a w := by
  obtain ⟨i0, hi0, hz0, hz1, hz2⟩ := info_parts int_info
  subst hm
  cases A with
  | none =>
    obtain ⟨h0, rfl⟩ := hsp.1 rfl
    have hxs : xs = [] := List.eq_nil_of_length_eq_zero h0
    subst hxs
    refine wpList_append_own_none hgd s x 32 ho B 3 i0 1 Tryd.underlying32 hi0 v l.length (iCells l) hs hV hx ?_
    exact h v w (by rw [List.append_nil]; exact hV) (fun h => h) (Below.refl _ _)
  | some ad =>
    refine wpList_append_own w hgd s x 32 ho B 3 i0 _ 1 8 Tryd.underlying32 hi0 hz0 hz1 hz2 rfl (by decide) v l.length (iCells l) hs hV ad xs.length c (iCells xs) hx (by rw [iCells_len, Nat.mul_one]) hsp.src (iCells_one xs) (by unfold maxLen; omega) (by omega) hB ?_
    intro v' w' hown hg hnil
    refine h v' w' ?_ (fun hv e => hv (hnil.1 e).1) (below_of_only hg hB (fun k hk => hV.blk k hk))
    show w'.ownsRow B 3 1 v' (l ++ xs).length (iCells (l ++ xs))
    rw [List.length_append]
    have e : iCells (l ++ xs) = iCells l ++ iCells xs := by simp [iCells]
    rw [e]
    exact hown

theorem one_int (w : World) (x : Int) : Ints (w.alloc (.cells #[.int .i64 x] 3)) (some ⟨w.heap.size, 0, none⟩) 1 [x] :=
  ⟨fun e => (by cases e), fun _ => ⟨w.heap.size, 0, rfl, (Blk.new w _ _).lt, fun i hi => by
    have : i = 0 := by simpa using hi
    subst this
    exact (Blk.new w 3 #[.int .i64 x]).cell 0⟩⟩

set_option maxRecDepth 100000 in
set_option maxHeartbeats 1600000 in
theorem rmnew_any (n : Int) (w : World) (hn : n ≤ 600) : Calls Tryd.prog 28 #[.int .i64 n] w fun r w' => ∃ v, r = .returned v ∧ OwnN w' w.heap.size v (num (List.replicate (sizeOf' n) 0)) ∧ Below w.heap.size w w' := by
  have hS : sizeOf' n ≤ 600 ∧ ((sizeOf' n : Int) ≤ n ∨ n < 0) ∧ (n ≤ (sizeOf' n : Int)) := by
    unfold sizeOf'
    split <;> (try split) <;> omega
  have hS0 : n < 0 → sizeOf' n = 0 := fun h => by simp [sizeOf', h]
  obtain ⟨S, hSS⟩ : ∃ S, S = sizeOf' n := ⟨_, rfl⟩
  rw [← hSS] at hS hS0 ⊢
  obtain ⟨s1, s2, s3⟩ := hS
  clear hSS
  go_enter Tryd.func28, Tryd.ntmps28
  go_wp2
  go_loopw [3, 4] (fun v x wr => ∃ (k : Nat), x = .int .i64 k ∧ k ≤ S ∧ OwnN wr w.heap.size v (num (List.replicate k 0)) ∧ Below w.heap.size w wr) (fun _ x _ => S - (Go.RowKit.intOf x).toNat)
  case atStart => exact ⟨0, rfl, by omega, OwnN.bare w _ (Nat.le_refl _), (Below.refl _ _).alloc (Nat.le_refl _) _⟩
  case round =>
    obtain ⟨k, rfl, hk, hv, hb⟩ := hrel
    have HV := Lib.hid hv
    have HB := Lib.hid hb
    clear hv hb
    obtain ⟨Ao, co, rfl⟩ := HV.out.form
    by_cases hkS : k < S
    · have i1 : (k : Int) < n := by omega
      have i2 : (k : Int) < 16384 := by omega
      have hl : (num (List.replicate k 0)).length = k := by simp [num]
      have HL := Lib.hid hl
      have hnx : num (List.replicate k 0) ++ [0] = num (List.replicate (k + 1) 0) := by simp [num, List.replicate_succ']
      have HNX := Lib.hid hnx
      clear hl hnx
      go_wp2_with (at_builtin; refine wpList_append_ints (o := ⟨some 17, _, _, _, _, _⟩) rfl (.tmp 15) (.tmp 16) rfl w.heap.size _ (num (List.replicate k 0)) rfl (World.ownsRow.alloc (w := wr) HV.out _) (some ⟨wr.heap.size, 0, none⟩) 1 1 [0] rfl rfl (one_int wr 0) (by rw [HL.out]; omega) (by have := HB.out.size; simp; omega) ?_; intro v1 w1 hv1 _ hb1; rw [HNX.out] at hv1; have HV1 := Lib.hid hv1; have HB1 := Lib.hid ((HB.out.alloc HB.out.size (.cells #[.int .i64 0] 3)).trans hb1); clear hv1 hb1; obtain ⟨A1, c1, rfl⟩ := HV1.out.form)
      go_roundw
      case rel => exact ⟨k + 1, by go_num, by omega, HV1.out, HB1.out⟩
      case measure => simp [Go.RowKit.intOf] <;> omega
    · obtain rfl : k = S := by omega
      have i1 : ¬ (k : Int) < n := by omega
      go_wp2
      go_ret
      exact ⟨_, rfl, HV.out, HB.out⟩

theorem over_snoc {l bs : List UInt8} {a : Nat} {x : UInt8} (h : a + bs.length < l.length) : over l a (bs ++ [x]) = (over l a bs).set (a + bs.length) x := by
  obtain ⟨m, hm⟩ : ∃ m, m = a + bs.length := ⟨_, rfl⟩
  have hl : (l.take a ++ bs).length = m := by simp; omega
  have hd : l.drop m = l[m]'(by omega) :: l.drop (m + 1) := List.drop_eq_getElem_cons (by omega)
  have e : a + (bs ++ [x]).length = m + 1 := by simp; omega
  unfold over
  rw [e, ← hm, hd, List.set_append_right _ _ (by rw [hl]; exact Nat.le_refl _), hl, Nat.sub_self, List.set_cons_zero]
  simp
theorem num_set (l : List UInt8) (i : Nat) (b : UInt8) : (iCells (num l)).set i (.int .i64 (b.toNat : Int)) = iCells (num (l.set i b)) := by
  simp [iCells, num, List.map_set]

set_option maxRecDepth 100000 in
set_option maxHeartbeats 3200000 in
theorem rwith_any (A : Option Addr) (cap : Nat) (lb : List UInt8) (at' : Nat) (A2 : Option Addr) (cap2 m : Nat) (xs : List Int) (hm : m = xs.length) (n : Nat) (hn : n = lb.length) (w : World) (hA : Ints w A cap (num lb)) (hX : Ints w A2 cap2 xs) (hfit : at' + xs.length ≤ lb.length) (hl : lb.length ≤ 1000) :
    Calls Tryd.prog 27 #[.slice A n cap, .int .i64 at', .slice A2 m cap2] w fun r w' => ∃ v, r = .returned v ∧ OwnN w' w.heap.size v (num (over lb at' (xs.map low8))) ∧ Below w.heap.size w w' := by
  have HA := Lib.hid hA
  have HX := Lib.hid hX
  have hn2 : n = (num lb).length := by rw [num_len]; exact hn
  have HN2 := Lib.hid hn2
  have hm1 : m ≤ 1000 := by omega
  have hn1 : n ≤ 1000 := by omega
  have hfit2 : at' + m ≤ n := by omega
  have hma : m ≤ xs.length := by omega
  have hmb : xs.length ≤ m := by omega
  have hna : n ≤ lb.length := by omega
  have hnb : lb.length ≤ n := by omega
  clear hA hX hn2 hm hn
  go_enter Tryd.func27, Tryd.ntmps27
  go_wp2_with (at_builtin; refine wpList_append_ints (o := ⟨some 11, _, _, _, _, _⟩) rfl (.tmp 9) (.tmp 10) rfl w.heap.size (.slice (some ⟨w.heap.size, 0, none⟩) 0 0) [] rfl (OwnN.bare w _ (Nat.le_refl _)) A n cap (num lb) HN2.out rfl (HA.out.below ((Below.refl _ _).alloc (Nat.le_refl _) _)) (by simp; omega) (by simp) ?_; intro v1 w1 hv1 hnn hb1; rw [List.nil_append] at hv1; have HV1 := Lib.hid hv1; have hne := hnn (by simp); have HNE := Lib.hid hne; have HB1 := Lib.hid (((Below.refl w.heap.size w).alloc (Nat.le_refl _) (.cells #[] 3)).trans hb1); clear hv1 hnn hb1 hne; obtain ⟨A1, c1, rfl⟩ := HV1.out.form)
  -- the block of the copy
  have hblock : ∃ g, A1 = some ⟨g, 0, none⟩ ∧ w.heap.size ≤ g := by
    have h' : w1.ownsRow w.heap.size 3 1 (.slice A1 (num lb).length c1) (num lb).length (iCells (num lb)) := HV1.out
    rcases h'.2 with ⟨e, _⟩ | ⟨g, cp, cur, e, hg, _⟩
    · exact absurd e HNE.out
    · injection e with e1 e2 e3
      exact ⟨g, e1, hg⟩
  obtain ⟨g, rfl, hgB⟩ := hblock
  have hstart : num (over lb at' ((xs.take 0).map low8)) = num lb := by simp [over_nil]
  have HV0 := Lib.hid (show OwnN w1 w.heap.size (.slice (some ⟨g, 0, none⟩) (num lb).length c1) (num (over lb at' ((xs.take 0).map low8))) by rw [hstart]; exact HV1.out)
  rw [← HN2.out] at HV0 ⊢
  clear hstart HNE HV1
  go_loopw [8] (fun x wr => ∃ (k : Nat), x = .int .i64 k ∧ k ≤ m ∧ OwnN wr w.heap.size (.slice (some ⟨g, 0, none⟩) n c1) (num (over lb at' ((xs.take k).map low8))) ∧ Below w.heap.size w wr) (fun x _ => m - (Go.RowKit.intOf x).toNat)
  case atStart => exact ⟨0, rfl, by omega, HV0.out, HB1.out⟩
  case round =>
    obtain ⟨k, rfl, hk, hv, hb⟩ := hrel
    have HV := Lib.hid hv
    have HB := Lib.hid hb
    clear hv hb HV0 HB1
    by_cases hkm : k < m
    · have hkx : k < xs.length := by omega
      obtain ⟨b, off, rfl, hbl, hc⟩ := (HX.out.below HB.out).2 (by omega)
      have c0 := hc k hkx
      clear hc
      have hol : (over lb at' ((xs.take k).map low8)).length = n := by rw [over_len (by simp; omega)]; omega
      have hown : wr.ownsRow w.heap.size 3 1 (.slice (some ⟨g, 0, none⟩) n c1) n (iCells (num (over lb at' ((xs.take k).map low8)))) := by
        have h := HV.out
        unfold OwnN at h
        rw [num_len, hol] at h
        exact h
      have hcell : ∃ u, wr.cell? ⟨g, at' + k, none⟩ = some u := by
        rw [hown.cellAt (at' + k) (by omega), iCells_get (by rw [num_len]; omega)]
        exact ⟨_, rfl⟩
      obtain ⟨u, hu⟩ := hcell
      have hfz := hown.frozenAt (at' + k)
      have hst := hown.stored (at' + k) (.int .i64 (xs[k] % 256))
      have hnx : iCells (num (over lb at' ((xs.take (k + 1)).map low8))) = (iCells (num (over lb at' ((xs.take k).map low8)))).set (at' + k) (.int .i64 (xs[k] % 256)) := by
        rw [← low8_num, num_set]
        congr 2
        rw [List.take_add_one, List.getElem?_eq_getElem hkx]
        simp only [Option.toList_some, List.map_append, List.map_cons, List.map_nil]
        have hlt : ((xs.take k).map low8).length = k := by simp; omega
        rw [over_snoc (by rw [hlt]; omega), hlt]
      rw [← hnx] at hst
      have hol2 : (over lb at' ((xs.take (k + 1)).map low8)).length = n := by rw [over_len (by simp; omega)]; omega
      have hfin : OwnN (wr.setCell ⟨g, at' + k, none⟩ (.int .i64 (xs[k] % 256))) w.heap.size (.slice (some ⟨g, 0, none⟩) n c1) (num (over lb at' ((xs.take (k + 1)).map low8))) ∧ Below w.heap.size w (wr.setCell ⟨g, at' + k, none⟩ (.int .i64 (xs[k] % 256))) := by
        refine ⟨?_, HB.out.setCell hgB _⟩
        unfold OwnN
        rw [num_len, hol2]
        exact hst.1
      have HFIN := Lib.hid hfin
      obtain ⟨z, hz⟩ : ∃ z, z = xs[k] := ⟨_, rfl⟩
      rw [← hz] at c0 HFIN
      have i1 : (k : Int) < (m : Int) := by omega
      have i2 : (at' : Int) + (k : Int) < (n : Int) := by omega
      have i3 : (at' : Int) + (k : Int) ≤ 2000 := by omega
      clear hst hnx hol hol2 hown hfin hz
      go_wp2_with (go_at_call 39; refine (rlow_any _ _).mono ?_; rintro e w' ⟨rfl, rfl⟩)
      go_roundw
      case rel => exact ⟨k + 1, by go_num, by omega, HFIN.out⟩
      case measure => simp [Go.RowKit.intOf] <;> omega
    · obtain rfl : k = m := by omega
      go_wp2
      go_ret
      refine ⟨_, rfl, ?_, HB.out⟩
      have h := HV.out
      rw [List.take_of_length_le (by omega)] at h
      exact h
end Go.Proofs.YthhodadfiipffaaDoor

/- The document's memory: There, Bytes, Text: their contracts. -/
namespace Go.Proofs.YthhodadfiipffaaDoor
open Go.RowKit Go.Lib Go.Sort
set_option linter.unusedVariables false

/-- Are so many places there? -/
def thereB (len : Nat) (at' n : Int) : Bool := decide (0 ≤ at' ∧ at' ≤ len ∧ n ≤ len - at')
theorem there_any (A : Option Addr) (len cap : Nat) (at' n : Int) (w : World) (hl : len ≤ 1000000) :
    Calls Tryd.prog 51 #[.slice A len cap, .int .i64 at', .int .i64 n] w fun r w' => r = .returned (.bool (thereB len at' n)) ∧ w = w' := by
  have key : (at' < 0 ∧ thereB len at' n = false) ∨ (0 ≤ at' ∧ (len : Int) < at' ∧ thereB len at' n = false) ∨ (0 ≤ at' ∧ at' ≤ len ∧ (len : Int) - at' < n ∧ thereB len at' n = false) ∨ (0 ≤ at' ∧ at' ≤ len ∧ n ≤ (len : Int) - at' ∧ thereB len at' n = true) := by
    by_cases h1 : at' < 0
    · exact .inl ⟨h1, by simp [thereB]; omega⟩
    · by_cases h2 : (len : Int) < at'
      · exact .inr (.inl ⟨by omega, h2, by simp [thereB]; omega⟩)
      · by_cases h3 : (len : Int) - at' < n
        · exact .inr (.inr (.inl ⟨by omega, by omega, h3, by simp [thereB]; omega⟩))
        · exact .inr (.inr (.inr ⟨by omega, by omega, by omega, by simp [thereB]; omega⟩))
  rcases key with ⟨h1, e⟩ | ⟨h1, h2, e⟩ | ⟨h1, h2, h3, e⟩ | ⟨h1, h2, h3, e⟩
  all_goals
    have E := Lib.hid e
    clear e
    go_enter Tryd.func51, Tryd.ntmps51
    go_wp2
    go_ret
    rw [E.out]
    exact ⟨by first | rfl | (simp; done) | (simp; omega), rfl⟩
theorem there_chk {len : Nat} {at' n : Int} (hn : 0 ≤ n) : (thereB len at' n = true ∧ chk len at' n = 0) ∨ (thereB len at' n = false ∧ chk len at' n = 6) := by
  unfold thereB chk
  rw [if_neg (by omega)]
  by_cases h1 : at' < 0
  · exact .inr ⟨by simp; omega, by rw [if_pos h1]⟩
  · by_cases h2 : (len : Int) < at'
    · exact .inr ⟨by simp; omega, by rw [if_neg h1, if_pos h2]⟩
    · by_cases h3 : (len : Int) - at' < n
      · exact .inr ⟨by simp; omega, by rw [if_neg h1, if_neg h2, if_pos h3]⟩
      · exact .inl ⟨by simp; omega, by rw [if_neg h1, if_neg h2, if_neg h3]⟩

theorem OwnN.slice {w : World} {B n : Nat} {v : Value} {l : List Int} (h : OwnN w B v l) (hn : l.length = n) : ∃ A c, v = .slice A n c := by
  obtain ⟨A, c, e⟩ := h.form
  exact ⟨A, c, by rw [e, hn]⟩
set_option maxRecDepth 100000 in
set_option maxHeartbeats 1600000 in
theorem rbytes_any (s : ByteArray) (w : World) (hs : s.size ≤ 1000) : Calls Tryd.prog 29 #[.string s] w fun r w' => ∃ v, r = .returned v ∧ OwnN w' w.heap.size v (num s.data.toList) ∧ Below w.heap.size w w' := by
  have hsz : s.data.toList.length = s.size := by rw [Array.length_toList]; rfl
  go_enter Tryd.func29, Tryd.ntmps29
  go_wp2
  go_loopw [3, 4] (fun v x wr => ∃ (k : Nat) (A : Option Addr) (c : Nat), x = .int .i64 k ∧ v = .slice A k c ∧ k ≤ s.size ∧ OwnN wr w.heap.size (.slice A k c) (num (s.data.toList.take k)) ∧ Below w.heap.size w wr) (fun _ x _ => s.size - (Go.RowKit.intOf x).toNat)
  case atStart => exact ⟨0, _, _, rfl, rfl, by omega, OwnN.bare w _ (Nat.le_refl _), (Below.refl _ _).alloc (Nat.le_refl _) _⟩
  case round =>
    obtain ⟨k, Ao, co, rfl, rfl, hk, hv, hb⟩ := hrel
    have HV := Lib.hid hv
    have HB := Lib.hid hb
    clear hv hb
    by_cases hkS : k < s.size
    · have i1 : (k : Int) < (s.size : Int) := by omega
      have hl : (num (s.data.toList.take k)).length = k := by simp [num]; omega
      have hnx : num (s.data.toList.take k) ++ [((s[k]'hkS).toNat : Int)] = num (s.data.toList.take (k + 1)) := by
        rw [List.take_add_one]
        simp only [num, List.map_append]
        congr 1
        rw [List.getElem?_eq_getElem (by omega)]
        simp
        rfl
      obtain ⟨b, hb⟩ : ∃ b, b = s[k]'hkS := ⟨_, rfl⟩
      have HW := w64_byte b
      have HL := Lib.hid hl
      have HNX := Lib.hid hnx
      have HSZ := Lib.hid hsz
      have HBB := Lib.hid hb
      clear hl hnx hsz hb
      go_wp2_with (at_builtin; refine wpList_append_ints (o := ⟨some 18, _, _, _, _, _⟩) rfl (.tmp 12) (.tmp 17) rfl w.heap.size _ (num (s.data.toList.take k)) rfl (World.ownsRow.alloc (w := wr) HV.out _) (some ⟨wr.heap.size, 0, none⟩) 1 1 [_] rfl rfl (one_int wr _) (by rw [HL.out]; omega) (by have := HB.out.size; simp; omega) ?_; intro v1 w1 hv1 _ hb1; have HV1 := Lib.hid hv1; have HB1 := Lib.hid ((HB.out.alloc HB.out.size (.cells #[_] 3)).trans hb1); clear hv1 hb1; obtain ⟨A1, c1, rfl⟩ := HV1.out.slice (n := k + 1) (by simp [HL.out]))
      go_roundw
      case rel =>
        have h := HV1.out
        try simp only [w64_byte] at h
        rw [HNX.out] at h
        exact ⟨k + 1, _, _, by go_num, rfl, by omega, h, HB1.out⟩
      case measure => simp [Go.RowKit.intOf] <;> omega
    · obtain ⟨k1, k2⟩ : k ≤ s.size ∧ s.size ≤ k := ⟨hk, by omega⟩
      go_wp2
      go_ret
      refine ⟨_, rfl, ?_, HB.out⟩
      have h := HV.out
      rw [List.take_of_length_le (by omega)] at h
      exact h

/-- Bytes of the call's own. -/
def OwnB (w : World) (B : Nat) (v : Value) (l : List UInt8) : Prop := w.ownsRow B 5 1 v l.length (u8Cells l)
set_option maxRecDepth 100000 in
theorem OwnB.form {w : World} {B : Nat} {v : Value} {l : List UInt8} (h : OwnB w B v l) : ∃ A c, v = .slice A l.length c := by
  have h' : w.ownsRow B 5 1 v l.length (u8Cells l) := h
  rcases h'.2 with ⟨rfl, h0⟩ | ⟨g, cap, cur, rfl, _⟩
  · have hl : l.length = 0 := by simpa [u8Cells] using h0
    exact ⟨none, 0, by rw [hl]⟩
  · exact ⟨_, cap, rfl⟩
set_option maxRecDepth 100000 in
theorem OwnB.str {w : World} {B c n : Nat} {A : Option Addr} {l : List UInt8} (h : OwnB w B (.slice A n c) l) (hn : n = l.length) : (convert 48 9 (.slice A n c)).run Tryd.prog w = .ok (.string ⟨l.toArray⟩) w := by
  subst hn
  have h' : w.ownsRow B 5 1 (.slice A l.length c) l.length (u8Cells l) := h
  rcases h'.2 with ⟨e, h0⟩ | ⟨g, cap, cur, e, _⟩
  · injection e with e1 e2 e3
    have hl : l = [] := List.eq_nil_of_length_eq_zero e2
    subst e1 hl
    exact run_convert_bytes_nil w 48 5 Tryd.underlying48 Tryd.underlying5 0 c 9 Tryd.underlying9
  · injection e with e1 e2 e3
    subst e1
    refine run_convert_bytes_back (P := Tryd.prog) w 48 9 5 ⟨g, 0, none⟩ c l Tryd.underlying48 Tryd.underlying5 Tryd.underlying9 (fun i hi => ?_)
    have ha : (⟨g, 0, none⟩ : Addr).add i = ⟨g, i, none⟩ := by unfold Addr.add; split <;> simp_all
    rw [ha, h'.cellAt i (by omega)]
    exact u8Cells_get hi

theorem one_u8 (w : World) (x : Int) : ∀ j u, [Value.int .u8 x][j]? = some u → (w.alloc (.cells #[.int .u8 x] 5)).cell? ((⟨w.heap.size, 0, none⟩ : Addr).add j) = some u := by
  intro j u hj
  match j, hj with
  | 0, hj => simp at hj; subst hj; exact (Blk.new w 5 #[.int .u8 x]).cell 0
theorem one_u8' (x : Int) : ∀ u ∈ [Value.int .u8 x], u.oneCell' = true := by
  intro u hu; simp at hu; subst hu; rfl
set_option maxRecDepth 100000 in
set_option maxHeartbeats 3200000 in
theorem rtext_any (A : Option Addr) (cap len : Nat) (l : List UInt8) (hlen : len = (num l).length) (k n : Nat) (w : World) (hA : Ints w A cap (num l)) (hfit : k + n ≤ l.length) (hl : l.length ≤ 1000) :
    Calls Tryd.prog 32 #[.slice A len cap, .int .i64 k, .int .i64 n] w fun r w' => r = .returned (.string ⟨((l.drop k).take n).toArray⟩) ∧ Below w.heap.size w w' := by
  obtain ⟨i0, hi0, hz0, hz1, hz2⟩ := info_parts mu8_info
  have HA := Lib.hid hA
  have l1 : len ≤ l.length := by rw [hlen, num_len]; exact Nat.le_refl _
  have l2 : l.length ≤ len := by rw [hlen, num_len]; exact Nat.le_refl _
  have hn0 := num_len l
  have HN0 := Lib.hid hn0
  clear hA hlen hn0
  go_enter Tryd.func32, Tryd.ntmps32
  go_wp2
  go_loopw [7, 8] (fun v x wr => ∃ (j : Nat) (X : Int), x = .int .i64 X ∧ X ≤ k + j ∧ k + j ≤ X ∧ j ≤ n ∧ (∃ (A : Option Addr) (c : Nat), v = .slice A j c ∧ OwnB wr w.heap.size (.slice A j c) ((l.drop k).take j)) ∧ Below w.heap.size w wr) (fun _ x _ => (k + n : Int).toNat - (Go.RowKit.intOf x).toNat)
  case atStart => exact ⟨0, k, rfl, by omega, by omega, by omega, ⟨_, _, rfl, World.ownsRow_made w #[] 0 (Nat.le_refl _) (by unfold maxLen; omega) rfl⟩, (Below.refl _ _).alloc (Nat.le_refl _) _⟩
  case round =>
    obtain ⟨j, X, rfl, x1, x2, hj, ⟨Ao, co, rfl, hv⟩, hb⟩ := hrel
    obtain ⟨q, rfl⟩ : ∃ q : Nat, X = q := ⟨X.toNat, by omega⟩
    have HV := Lib.hid hv
    have HB := Lib.hid hb
    clear hv hb
    by_cases hjn : j < n
    · have hql : q < l.length := by omega
      obtain ⟨b, off, rfl, hbl, hc⟩ := (HA.out.below HB.out).2 (by rw [HN0.out]; omega)
      have c0 := hc q (by rw [HN0.out]; omega)
      have e0 : (num l)[q]'(by rw [HN0.out]; omega) = ((l[q]'hql).toNat : Int) := by simp [num]
      rw [e0] at c0
      clear hc e0
      have hll : ((l.drop k).take j).length = j := by simp; omega
      have hnx : u8Cells ((l.drop k).take j) ++ [.int .u8 ((l[q]'hql).toNat : Int)] = u8Cells ((l.drop k).take (j + 1)) := by
        rw [List.take_add_one]
        simp only [u8Cells, List.map_append]
        congr 1
        rw [List.getElem?_drop, show k + j = q by omega, List.getElem?_eq_getElem hql]
        rfl
      obtain ⟨z, hz⟩ : ∃ z, z = l[q]'hql := ⟨_, rfl⟩
      rw [← hz] at c0 hnx
      have hzl := z.toNat_lt
      have hzw : IntKind.u8.wrap (z.toNat : Int) = (z.toNat : Int) := by simp [IntKind.wrap_u8] <;> omega
      have i1 : (q : Int) < (len : Int) := by omega
      have i2 : (q : Int) < (k : Int) + (n : Int) := by omega
      have HNX := Lib.hid hnx
      have HLL := Lib.hid hll
      clear hnx hll hz
      go_wp2_with (at_builtin; refine wpList_append_own _ rfl (.tmp 18) (.tmp 24) 48 rfl w.heap.size 5 i0 _ 1 1 Tryd.underlying48 hi0 hz0 hz1 hz2 rfl (by decide) _ _ _ rfl (World.ownsRow.alloc (w := wr) HV.out _) ⟨wr.heap.size, 0, none⟩ 1 1 [.int .u8 (z.toNat : Int)] rfl rfl (one_u8 wr _) (one_u8' _) (by rw [HLL.out]; unfold maxLen; omega) (by rw [HLL.out]; omega) (by have := HB.out.size; simp; omega) ?_; intro v1 w1 hown1 hg1 _; rw [HNX.out] at hown1; have HV1 := Lib.hid hown1; have HB1 := Lib.hid ((HB.out.alloc HB.out.size (.cells #[.int .u8 (z.toNat : Int)] 5)).trans (below_of_only hg1 (by have := HB.out.size; simp; omega) (fun k hk => (World.ownsRow.lt HV.out k hk).1))); clear hown1 hg1; have hform : ∃ A1 c1, v1 = .slice A1 (j + 1) c1 := (by rcases HV1.out.2 with ⟨e, h0⟩ | ⟨g9, c9, cur9, e, _⟩; exact absurd h0 (by omega); rw [HLL.out] at e; exact ⟨_, c9, e⟩); obtain ⟨A1, c1, rfl⟩ := hform)
      go_roundw
      case rel =>
        refine ⟨j + 1, (q : Int) + 1, by first | rfl | go_num, by omega, by omega, by omega, ⟨_, _, rfl, ?_⟩, HB1.out⟩
        have h := HV1.out
        have e : ((l.drop k).take (j + 1)).length = ((l.drop k).take j).length + 1 := by simp; omega
        unfold OwnB
        rw [e]
        exact h
      case measure => simp [Go.RowKit.intOf] <;> omega
    · obtain rfl : j = n := by omega
      have hs := HV.out.str (by simp; omega)
      have i2 : ¬ (q : Int) < (k : Int) + (j : Int) := by omega
      go_wp2
      go_ret
      exact ⟨rfl, HB.out⟩
end Go.Proofs.YthhodadfiipffaaDoor

/- The law's views; a view's text. -/
namespace Go.Proofs.YthhodadfiipffaaDoor
open Go.RowKit Go.Lib
set_option linter.unusedVariables false
set_option maxRecDepth 8000

set_option maxHeartbeats 1600000 in
theorem Cu.text_any (w : World) (B m : Nat) (p V q : List UInt8) (h : MemV w B m (p ++ V ++ q)) (hl : (p ++ V ++ q).length ≤ 16384) : Calls Tryd.prog 41 #[Cu.vw m p.length V.length] w fun e w' => e = .returned (.string ⟨V.toArray⟩) ∧ w.grownBy w' none := by
  have HX := Lib.hid (Cu.Bx.new w m p.length V.length)
  have HT := Lib.hid (show ∀ W, w.grownBy W none → Calls Tryd.prog 49 #[.pointer (some ⟨m, 0, none⟩), .int .i64 p.length, .int .i64 V.length] W fun r w' => r = .returned (.tuple #[.string ⟨V.toArray⟩, .int .i64 0]) ∧ W = w' from fun W g => by
    have := mtext_any W B m _ (p.length : Int) (V.length : Int) (h.grown g) hl
    have ec := Cu.chk_in (base := p.length) (size := V.length) (k := 0) (n := V.length) (Cu.at_in hl) (by omega)
    rw [Nat.add_zero] at ec
    rw [ec, if_pos rfl, Int.toNat_natCast, Int.toNat_natCast] at this
    have e : ((p ++ V ++ q).drop p.length).take V.length = V := by simp [List.append_assoc]
    rw [e] at this
    exact this)
  generalize V.length = vl at *
  generalize p.length = pl at *
  generalize (⟨V.toArray⟩ : ByteArray) = t at *
  clear h hl
  unfold Cu.vw
  obtain ⟨W, hW⟩ : ∃ W, W = (w.alloc (.cells #[.pointer (some ⟨m, 0, none⟩), .int .i64 pl, .int .i64 vl] 31)) := ⟨_, rfl⟩
  rw [← hW] at HX
  obtain ⟨c0, c1, c2⟩ := HX.out.cells
  go_enter Tryd.func41, Tryd.ntmps41
  go_upto_region 1 with (fail)
  rw [← hW]
  clear hW
  go_wp2_with (go_at_call 49; (with_reducible refine (HT.out _ HX.out.grow).mono ?_); rintro e w2 ⟨rfl, rfl⟩)
  go_ret
  exact ⟨rfl, HX.out.grow⟩
/-- The bytes that a view begins with. -/
def Cu.v0 (s : ByteArray) (size : Nat) : List UInt8 := s.data.toList.take size ++ List.replicate (size - s.size) 0
def Cu.z (n : Nat) : List UInt8 := List.replicate n 0
theorem Cu.v0_len (s : ByteArray) (size : Nat) : (Cu.v0 s size).length = size := by
  have : s.data.toList.length = s.size := by rw [Array.length_toList]; rfl
  unfold Cu.v0
  simp
  omega
theorem Cu.z_len (n : Nat) : (Cu.z n).length = n := by simp [Cu.z]
theorem Cu.over_z (n base : Nat) (bs : List UInt8) (size : Nat) (hb : bs.length ≤ size) (hn : base + size ≤ n) : over (Cu.z n) base bs = Cu.z base ++ (bs ++ Cu.z (size - bs.length)) ++ Cu.z (n - base - size) := by
  unfold over Cu.z
  rw [List.take_replicate, List.drop_replicate, Nat.min_eq_left (by omega)]
  have : n - (base + bs.length) = (size - bs.length) + (n - base - size) := by omega
  rw [this, ← List.replicate_append_replicate]
  simp [List.append_assoc]
end Go.Proofs.YthhodadfiipffaaDoor

/- The law's views: a memory with a text in its midst. -/
namespace Go.Proofs.YthhodadfiipffaaDoor
open Go.RowKit Go.Lib
set_option linter.unusedVariables false
set_option maxRecDepth 8000

theorem Cu.memg_low {W : World} {B b m g : Nat} {l : List UInt8} (h : MemG W B m g l) (hb : b ≤ B) : MemG W b m g l := ⟨Nat.le_trans hb h.1, Nat.le_trans hb h.2.1, h.2.2.1, h.2.2.2⟩
def Cu.Kb (w W : World) : Prop := Blk W w.heap.size 31 #[.pointer none, .int .i64 0, .int .i64 0] ∧ Below w.heap.size w W
theorem Cu.Kb.step {w W W' : World} (h : Cu.Kb w W) (b : Below W.heap.size W W') : Cu.Kb w W' := ⟨h.1.below b h.1.lt, h.2.trans (b.mono (Nat.le_of_lt h.1.lt))⟩
theorem Cu.Kb.put {w W : World} (h : Cu.Kb w W) {a b c : Value} : ∀ W', W' = ((W.setCell ⟨w.heap.size, 0, none⟩ a).setCell ⟨w.heap.size, 1, none⟩ b).setCell ⟨w.heap.size, 2, none⟩ c → (W'.cell? ⟨w.heap.size, 0, none⟩ = some a ∧ W'.cell? ⟨w.heap.size, 1, none⟩ = some b ∧ W'.cell? ⟨w.heap.size, 2, none⟩ = some c) ∧ Below w.heap.size w W' ∧ W.grownBy W' (some w.heap.size) := by
  rintro W' rfl
  have bf := ((h.1.put 0 a).put 1 b).put 2 c
  exact ⟨⟨bf.cell 0, bf.cell 1, bf.cell 2⟩, Cu.below_put (Cu.below_put (Cu.below_put h.2 (p := ⟨w.heap.size, 0, none⟩) (Nat.le_refl _) a) (p := ⟨w.heap.size, 1, none⟩) (Nat.le_refl _) b) (p := ⟨w.heap.size, 2, none⟩) (Nat.le_refl _) c, only_put (only_put (only_put (only_refl _ _) 0 a) 1 b) 2 c⟩
theorem Cu.num_len' (l : List UInt8) : (num l).length = l.length := num_len l
theorem Cu.low8_all (l : List UInt8) : (num l).map low8 = l := by
  unfold num
  rw [List.map_map]
  have : (low8 ∘ fun b : UInt8 => (b.toNat : Int)) = id := by
    funext b
    have hb := UInt8.toNat_lt b
    simp only [Function.comp, low8, id]
    have : ((b.toNat : Int) % 256).toNat = b.toNat := by omega
    rw [this]
    simp
  rw [this, List.map_id]
theorem Cu.size_z (n : Nat) (h : n ≤ 16384) : sizeOf' (n : Int) = n := by unfold sizeOf'; rw [if_neg (by omega), if_neg (by omega)]; omega
end Go.Proofs.YthhodadfiipffaaDoor
