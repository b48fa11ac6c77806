import Derived.Test.YthlapnljinkekabJF06
import Derived.Test.YthlapnljinkekabJF08
import Derived.Test.YthlapnljinkekabJF07
import Derived.Test.YthlapnljinkekabJF01
import Derived.ShutString
import Derived.ChangeOld
import Derived.Lib.SmallJoins
set_option linter.all false
/- DmaStays: its walk. -/
namespace Go.Proofs.Ythlapnljinkekab
open Go.RowKit Go.Lib Go.Sort
set_option linter.unusedVariables false

/-- Where a burst changed something. -/
theorem over_out {l bs : List UInt8} {k i : Nat} (hk : k + bs.length ≤ l.length) (h : i < k ∨ k + bs.length ≤ i) : (over l k bs)[i]? = l[i]? := by
  unfold over
  rcases h with h | h
  · rw [List.append_assoc, List.getElem?_append_left (by simp; omega), List.getElem?_take_of_lt h]
  · rw [List.getElem?_append_right (by simp; omega), List.getElem?_drop]
    congr 1
    simp
    omega
theorem mapV_reg {L : List Reg} {o a n y : Int} (h : mapV L o a n = (y, 0)) : (spn (fndR L o)).1 ≤ y ∧ y + n ≤ (spn (fndR L o)).2 := by
  unfold mapV at h
  unfold fndR
  cases hl : lookL L o with
  | none => rw [hl] at h; simp at h
  | some r =>
    rw [hl] at h
    show (spn r).1 ≤ y ∧ y + n ≤ (spn r).2
    simp only at h
    by_cases h1 : n < 0
    · rw [if_pos h1] at h; simp at h
    · rw [if_neg h1] at h
      by_cases h2 : a < 0
      · rw [if_pos h2] at h; simp at h
      · rw [if_neg h2] at h
        by_cases h3 : r.2.2 - a < n
        · rw [if_pos h3] at h; simp at h
        · rw [if_neg h3] at h
          injection h with h _
          simp only [spn]
          omega
/-- Spans of places where two memories are unlike lie in the burst's region. -/
theorem stays_in {L : List Reg} {l : List UInt8} {o a : Int} {s : ByteArray} (hm : AllMay L) (hc : (askV L l.length o a s.size).2 = 0) {N i : Nat} (hi : i < (rTo (unl l (wrL L l o a s)) N).1) :
    isB ((rTo (unl l (wrL L l o a s)) N).2 i) = true ∧ (spn (fndR L o)).1 ≤ ((rTo (unl l (wrL L l o a s)) N).2 i).1 ∧ ((rTo (unl l (wrL L l o a s)) N).2 i).2 ≤ (spn (fndR L o)).2 := by
  obtain ⟨q1, q2, q3, q4, q5, q6, q7⟩ := askV_ok hm hc
  obtain ⟨y, hy⟩ : ∃ y, y = (askV L l.length o a s.size).1 := ⟨_, rfl⟩
  have hw : wrL L l o a s = over l y.toNat s.data.toList := by unfold wrL; rw [if_pos hc, ← hy]
  rw [← hy] at q5 q6 q7
  have hr := mapV_reg q5
  have hsz : s.data.toList.length = s.size := by rw [Array.length_toList]; rfl
  have hin : ∀ x : Int, unl l (wrL L l o a s) x = true → 0 ≤ x → y ≤ x ∧ x < y + s.size := by
    intro x hx hx0
    unfold unl at hx
    rw [hw] at hx
    have hne := of_decide_eq_true hx
    by_cases h1 : y ≤ x ∧ x < y + s.size
    · exact h1
    · exfalso
      apply hne
      exact (over_out (by omega) (by omega)).symm
  have R := running (unl l (wrL L l o a s)) N
  have hS := R.up.1 i hi
  obtain ⟨p, hp⟩ : ∃ p, p = (rTo (unl l (wrL L l o a s)) N).2 i := ⟨_, rfl⟩
  rw [← hp] at hS ⊢
  obtain ⟨h1, h2⟩ := hS
  have hold : ∀ x : Int, p.1 ≤ x → x < p.2 → unl l (wrL L l o a s) x = true := fun x hx1 hx2 => by
    have h3 : inN (rTo (unl l (wrL L l o a s)) N).2 x (rTo (unl l (wrL L l o a s)) N).1 = true := (inN_iff _ _ _).2 ⟨i, hi, by rw [← hp]; simp [holdsB]; omega⟩
    rw [R.same x] at h3
    simp at h3
    exact h3.2
  have ha := hin _ (hold p.1 (by omega) h2) h1
  have hb := hin _ (hold (p.2 - 1) (by omega) (by omega)) (by omega)
  exact ⟨by simp [isB]; omega, by omega, by omega⟩
theorem unl_self (l : List UInt8) : unl l l = fun _ => false := by
  funext x
  simp [unl]
theorem rTo_none (N : Nat) : (rTo (fun _ => false) N).1 = 0 := by
  induction N with
  | zero => rfl
  | succ N ih =>
    show (rStep _ _ _ _).1 = 0
    simp [rStep, ih]

theorem rspan_zero (w : World) : Calls Try.prog 22 #[.agg #[.int .i64 0, .int .i64 0, .int .i64 0]] w fun e w' => e = .returned (.agg #[.int .i64 0, .int .i64 0]) ∧ w.grownBy w' none := by
  go_enter Try.func22, Try.ntmps22
  go_wp2
  refine bodyPost_ret (v := .agg #[.int .i64 0, .int .i64 0]) (by simp [results, Try.results22, go_sem]) rfl ⟨rfl, only_alloc (only_alloc (only_refl _ _) _) _⟩
theorem rspan_find {L : List Reg} (hm : AllMay L) (o : Int) (w : World) : Calls Try.prog 22 #[.agg #[.int .i64 (fndR L o).1, .int .i64 (fndR L o).2.1, .int .i64 (fndR L o).2.2]] w fun e w' => e = .returned (.agg #[.int .i64 (spn (fndR L o)).1, .int .i64 (spn (fndR L o)).2]) ∧ w.grownBy w' none := by
  cases hl : lookL L o with
  | none =>
    have : fndR L o = (0, 0, 0) := by unfold fndR; rw [hl]; rfl
    rw [this]
    exact rspan_zero w
  | some r =>
    have : fndR L o = r := by unfold fndR; rw [hl]; rfl
    rw [this]
    exact rspan_any r (hm.look hl) w
/-- What a write leaves of the memory, done or refused. -/
theorem write_mem {B e m g t : Nat} {L : List Reg} {l : List UInt8} {rv : Value} {n : Nat} {rc : Nat → Rec} {rd wr : Nat → Int} {tick o a : Int} {s : ByteArray} {w w' : World} {r : Ending} (h : WriteV B e m g t L l rv n rc rd wr tick o a s w r w') :
    r = .returned (.int .i64 (askV L l.length o a s.size).2) ∧ MemG w' B m g (wrL L l o a s) ∧ Keeps (Burst e g rv) w w' := by
  obtain ⟨h1, ⟨hc, rv', q1, _, q3⟩ | ⟨hc, q1, q3⟩⟩ := h
  · exact ⟨h1, by rw [show wrL L l o a s = l from by unfold wrL; rw [if_neg hc]]; exact q1.2.2.1, q3⟩
  · exact ⟨h1, q1.2.2.1, q3⟩
theorem wrL_len {L : List Reg} {l : List UInt8} {o a : Int} {s : ByteArray} (hm : AllMay L) : (wrL L l o a s).length = l.length := by
  unfold wrL
  by_cases hc : (askV L l.length o a s.size).2 = 0
  · rw [if_pos hc]
    obtain ⟨q1, q2, q3, q4, q5, q6, q7⟩ := askV_ok hm hc
    have hsz : s.data.toList.length = s.size := by rw [Array.length_toList]; rfl
    exact over_len (by omega)
  · rw [if_neg hc]

theorem Blk.kept {w w' : World} {S : Nat → Prop} {i : Nat} {ty : TypeId} {cs : Array Value} (h : Blk w i ty cs) (k : Keeps S w w') (hn : ¬ S i) : Blk w' i ty cs := (k.2.2.2.2 i h.lt hn).trans h
theorem StG.apart {w : World} {B e m g t : Nat} {L : List Reg} {l : List UInt8} {n : Nat} {rc : Nat → Rec} {rd wr : Nat → Int} (S : StG w B e m g t L l (.slice none 0 0) n rc rd wr) {i : Nat} {ty : TypeId} {cs : Array Value} (h : Blk w i ty cs) (h1 : ty ≠ 77) (h2 : i ≠ g) : ¬ Burst e g (.slice none 0 0) i := by
  rintro (h3 | h3 | h3)
  · obtain ⟨cs', h0, _⟩ := S.2.1
    exact h.differ h0 h1 h3
  · exact h2 h3
  · simp [Value.ownBlock] at h3
/-- A fork stays where a burst writes to the memory that it was forked from. -/
theorem fork_kept {w w' : World} {B e m g t : Nat} {L : List Reg} {l : List UInt8} {n : Nat} {rc : Nat → Rec} {rd wr : Nat → Int} (S : StG w B e m g t L l (.slice none 0 0) n rc rd wr) (k : Keeps (Burst e g (.slice none 0 0)) w w') {C m2 g2 : Nat} {z : List UInt8} (h : MemG w C m2 g2 z) (hg : g < C) : MemG w' C m2 g2 z :=
  ⟨h.1, h.2.1, h.2.2.1.kept k (S.apart h.2.2.1 (by decide) (h.2.2.1.differ S.2.2.1.2.2.2 (by decide))), h.2.2.2.kept k (S.apart h.2.2.2 (by decide) (by have := h.1; omega))⟩

set_option maxHeartbeats 3200000 in
set_option maxRecDepth 100000 in
theorem dstays_walk (size : Int) (A : Option Addr) (len cap : Nat) (d : Nat → Reg) (t o a q : Int) (b : Bool) (s : ByteArray) (w : World) (hst0 : Regs w A len cap d) (hf0 : ∀ i, i < len → Fits (d i)) (hlc : len ≤ cap) (hcm : cap ≤ 9223372036854775807) (ho : fitI o) (ha : fitI a) :
    Calls Try.prog 4 #[.int .i64 size, .slice A len cap, .agg #[.int .i64 t, .int .i64 o, .int .i64 a, .int .i64 q, .bool b, .string s]] w fun e w' => e = .returned (.bool true) ∧ Below w.heap.size w w' := by
  obtain ⟨n, hn⟩ : ∃ n, n = min len 8 := ⟨_, rfl⟩
  have hb0 : Below w.heap.size w ((w.alloc (.cells #[.int .i64 t, .int .i64 o, .int .i64 a, .int .i64 q, .bool b, .string s] 39)).alloc (.cells #[.int .i64 t, .int .i64 o, .int .i64 a, .int .i64 q, .bool b, .string s] 39)) := ((Below.refl w.heap.size w).alloc (Nat.le_refl _) _).alloc (by simp) _
  have hD : DeedsD ((w.alloc (.cells #[.int .i64 t, .int .i64 o, .int .i64 a, .int .i64 q, .bool b, .string s] 39)).alloc (.cells #[.int .i64 t, .int .i64 o, .int .i64 a, .int .i64 q, .bool b, .string s] 39)) (some ⟨w.heap.size + 1, 0, none⟩) 1 (fun _ => (t, o, a, q, b, s)) := fun _ => ⟨_, 0, rfl, by simp, fun i hi => by
    obtain rfl : i = 0 := by omega
    have hB : Blk ((w.alloc (.cells #[.int .i64 t, .int .i64 o, .int .i64 a, .int .i64 q, .bool b, .string s] 39)).alloc (.cells #[.int .i64 t, .int .i64 o, .int .i64 a, .int .i64 q, .bool b, .string s] 39)) (w.heap.size + 1) 39 #[.int .i64 t, .int .i64 o, .int .i64 a, .int .i64 q, .bool b, .string s] := by
      have := Blk.new (w.alloc (.cells #[.int .i64 t, .int .i64 o, .int .i64 a, .int .i64 q, .bool b, .string s] 39)) 39 #[.int .i64 t, .int .i64 o, .int .i64 a, .int .i64 q, .bool b, .string s]
      simpa using this
    exact ⟨hB.cell 0, hB.cell 1, hB.cell 2, hB.cell 3, hB.cell 4, hB.cell 5⟩⟩
  have hfew := few_any A len cap (some ⟨w.heap.size + 1, 0, none⟩) 1 1 d (fun _ => (t, o, a, q, b, s)) _ (hst0.below hb0) hf0 hD hlc hcm (Nat.le_refl _) (by omega)
  rw [← hn, show min 1 20 = 1 from rfl] at hfew
  have hX : Blk ((w.alloc (.cells #[.int .i64 t, .int .i64 o, .int .i64 a, .int .i64 q, .bool b, .string s] 39)).alloc (.cells #[.int .i64 t, .int .i64 o, .int .i64 a, .int .i64 q, .bool b, .string s] 39)) w.heap.size 39 #[.int .i64 t, .int .i64 o, .int .i64 a, .int .i64 q, .bool b, .string s] := (Blk.new w _ _).alloc _
  have HX0 := Lib.hid hX
  have HB0 := Lib.hid hb0
  have HFEW := Lib.hid hfew
  have HST := Lib.hid (hst0.cut n (by omega))
  have HF : Hid (∀ i, i < n → Fits (d i)) := fun i hi => hf0 i (by omega)
  have HN : Hid (n ≤ 8) := by unfold Hid; omega
  clear hb0 hD hfew hst0 hf0 hlc hcm hX hn
  by_cases h6 : (600 : Int) < size
  · go_enter Try.func4, Try.ntmps4
    go_wp2_with (go_at_call 6; refine HFEW.out.mono ?_; rintro e w1 ⟨r, rfl, hr, b1⟩; have HR := Lib.hid hr; have B1 := Lib.hid (HB0.out.trans (b1.mono HB0.out.size)); have X1 := Lib.hid (HX0.out.below b1 HX0.out.lt); clear hr b1; cases r)
    all_goals
      go_wp2_with (go_at_call 7; refine (dlive_any _).mono ?_; rintro e w2 ⟨rfl, b2⟩; have B2 := Lib.hid (B1.out.trans (b2.mono B1.out.size)); clear b2)
      go_ret
      exact ⟨rfl, B2.out⟩
  · go_enter Try.func4, Try.ntmps4
    go_wp2_with (go_at_call 6; refine HFEW.out.mono ?_; rintro e w1 ⟨r, rfl, hr, b1⟩; have HR := Lib.hid hr; have B1 := Lib.hid (HB0.out.trans (b1.mono HB0.out.size)); have X1 := Lib.hid (HX0.out.below b1 HX0.out.lt); clear hr b1; cases r)
    · go_wp2_with (go_at_call 7; refine (dlive_any _).mono ?_; rintro e w2 ⟨rfl, b2⟩; have B2 := Lib.hid (B1.out.trans (b2.mono B1.out.size)); clear b2)
      go_ret
      exact ⟨rfl, B2.out⟩
    · obtain ⟨hc0, hs2⟩ := HR.out (by first | rfl | trivial)
      have hs2 : s.size ≤ 200 := hs2 0 (by omega)
      have hmay := chkN_may hc0
      have hz : (List.replicate (sizeOf' size) (0 : UInt8)).length ≤ 600 := by rw [List.length_replicate]; unfold sizeOf'; split <;> (try split) <;> omega
      have hnew : ∀ W, Calls Try.prog 8 #[.int .i64 size] W fun r w' => ∃ m, r = .returned (.pointer (some ⟨m, 0, none⟩)) ∧ MemV w' W.heap.size m (List.replicate (sizeOf' size) 0) ∧ Below W.heap.size W w' := fun W => mnew_any size W
      generalize List.replicate (sizeOf' size) (0 : UInt8) = z at hz hnew
      have htn := fun W (hW : Below w.heap.size w W) => tnew_dok (HST.out.below hW) HF.out (by have := HN.out; omega) hc0
      have hrf := fun W (hW : Below w.heap.size w W) => rfind_any A n cap d o W (HST.out.below hW) (by have := HN.out; omega)
      have hrs := fun W => rspan_find hmay o W
      unfold RFindV at hrf
      generalize rws d n = L at hmay htn hrf hrs
      have hwr := fun W B e m g t' (h : StG W B e m g t' L z (.slice none 0 0) 0 (fun _ => (0, 0, 0, 0, false, 0)) (fun _ => 0) (fun _ => 0)) (hB : B ≤ W.heap.size) => (ewrite_any W B e m g t' L _ 0 _ _ _ z t o a s h hmay ho ha (by omega) (by omega) hB (by omega) (fun k _ => by omega)).mono fun r w' h => write_mem h
      have hlen := wrL_len (l := z) (o := o) (a := a) (s := s) hmay
      have hdf := fun W B B' m1 m2 (h1 : MemV W B m1 z) (h2 : MemV W B' m2 (wrL L z o a s)) => mdiff_any W B B' m1 m2 z (wrL L z o a s) h1 h2 hz (by omega)
      have hdone : (askV L z.length o a s.size).2 = 0 ∨ ((askV L z.length o a s.size).2 ≠ 0 ∧ (rTo (unl z (wrL L z o a s)) (max z.length (wrL L z o a s).length)).1 = 0) := by
        by_cases hc : (askV L z.length o a s.size).2 = 0
        · exact .inl hc
        · refine .inr ⟨hc, ?_⟩
          rw [show wrL L z o a s = z from by unfold wrL; rw [if_neg hc], unl_self, rTo_none]
      have hin := fun (hc : (askV L z.length o a s.size).2 = 0) i (hi : i < (rTo (unl z (wrL L z o a s)) (max z.length (wrL L z o a s).length)).1) => stays_in hmay hc hi
      have hcnt := rTo_le (unl z (wrL L z o a s)) (max z.length (wrL L z o a s).length)
      have hmx : max z.length (wrL L z o a s).length ≤ 600 := by omega
      obtain ⟨c, hc⟩ : ∃ c, c = (askV L z.length o a s.size).2 := ⟨_, rfl⟩
      unfold DiffV at hdf
      rw [← hc] at hdone hin
      simp only [← hc] at hwr
      generalize wrL L z o a s = l' at hwr hdf hdone hin hcnt hmx hlen
      generalize rTo (unl z l') (max z.length l'.length) = R at hdf hdone hin hcnt
      generalize max z.length l'.length = N at hcnt hmx
      obtain ⟨k, D⟩ := R
      generalize fndR L o = fr at hrf hrs hin
      obtain ⟨f1, f2, f3⟩ := fr
      obtain ⟨o1, o2, hoo⟩ : ∃ o1 o2, spn (f1, f2, f3) = (o1, o2) := ⟨_, _, rfl⟩
      rw [hoo] at hrs hin
      simp only at hrs hrf hdf hdone hin hcnt
      have HNEW := Lib.hid hnew
      have HTN := Lib.hid htn
      have HRF := Lib.hid hrf
      have HRS := Lib.hid hrs
      have HWR := Lib.hid hwr
      have HDF := Lib.hid hdf
      have HDONE := Lib.hid hdone
      have HIN := Lib.hid hin
      have HZ := Lib.hid hz
      have hk600 : k ≤ 600 := by omega
      clear hnew htn hrf hrs hwr hdf hdone hin hz hmay hc0 hs2 hcnt hmx hlen hc HR hoo
      go_wp2_with (first
        | (go_at_call 8; refine (HNEW.out _).mono ?_; rintro e w2 ⟨m, rfl, hm, b2⟩; obtain ⟨g, hg⟩ := hm.named; have M2 := Lib.hid (hg.lower' B1.out.size); have B2 := Lib.hid (B1.out.trans (b2.mono B1.out.size)); have X2 := Lib.hid (X1.out.below b2 X1.out.lt); clear hm hg b2)
        | (go_at_call 9; refine (HTN.out _ B2.out).mono ?_; rintro e w3 ⟨t', rfl, ht, b3⟩; have M3 := Lib.hid (M2.out.below b3); have T3 := Lib.hid (ht.lower B2.out.size); have B3 := Lib.hid (B2.out.trans (b3.mono B2.out.size)); have X3 := Lib.hid (X2.out.below b3 X2.out.lt); clear ht b3)
        | (go_at_call 19; refine (fork_any _ _ _ _ _ M3.out HZ.out).mono ?_; rintro e w4 ⟨m2, g2, rfl, hf, hm4, b4⟩; have F4 := Lib.hid hf; have M4 := Lib.hid hm4; have T4 := Lib.hid (T3.out.below b4); have B4 := Lib.hid (B3.out.trans (b4.mono B3.out.size)); have X4 := Lib.hid (X3.out.below b4 X3.out.lt); have LTG := Lib.hid M3.out.lt.1; clear hf hm4 b4)
        | (go_at_call 10; refine (enew_any m t' _).mono ?_; rintro e w5 ⟨rfl, he, b5⟩; have S5 : Hid (StG w5 w.heap.size w4.heap.size m g t' L z (.slice none 0 0) 0 (fun _ => (0, 0, 0, 0, false, 0)) (fun _ => 0) (fun _ => 0)) := ⟨B4.out.size, eng_of he, M4.out.below b5, T4.out.below b5, rec_nil _ _ _⟩; have F5 := Lib.hid (F4.out.below b5); have B5 := Lib.hid (B4.out.trans (b5.mono B4.out.size)); have X5 := Lib.hid (X4.out.below b5 X4.out.lt); have x0 := X5.out.cell 0; have x1 := X5.out.cell 1; have x2 := X5.out.cell 2; have x5 := X5.out.cell 5; simp at x0 x1 x2 x5; clear he b5)
        | (go_at_call 20; refine (HWR.out _ _ _ _ _ _ S5.out B5.out.size).mono ?_; rintro e w6 ⟨rfl, hm6, hk6⟩; have M6 := Lib.hid hm6; have F6 := Lib.hid (fork_kept S5.out hk6 F5.out LTG.out); have X6 := Lib.hid (X5.out.kept hk6 (S5.out.apart X5.out (by decide) (X5.out.differ S5.out.2.2.1.2.2.2 (by decide)))); have B6 := Lib.hid (B5.out.trans (S5.out.burst hk6 B5.out.size)); clear hm6 hk6)
        | (go_at_call 21; refine (HDF.out _ _ _ _ _ F6.out.mem M6.out.mem).mono ?_; rintro e w7 ⟨v, rfl, hv, b7⟩; have V7 := Lib.hid hv; have B7 := Lib.hid (B6.out.trans (b7.mono B6.out.size)); have X7 := Lib.hid (X6.out.below b7 X6.out.lt); have x1 := X7.out.cell 1; simp at x1; clear hv b7)
        | (go_at_call 23; refine (HRF.out _ B7.out).mono ?_; rintro e w8 ⟨rfl, b8⟩; have V8 := Lib.hid (V7.out.far b8); have B8 := Lib.hid (B7.out.trans (b8.mono B7.out.size)); clear b8)
        | (go_at_call 22; refine (HRS.out _).mono ?_; rintro e w9 ⟨rfl, g9⟩; have b9 := below_of_only g9 (Nat.le_refl _) (by simp); have V9 := Lib.hid (V8.out.far b9); have B9 := Lib.hid (B8.out.trans (b9.mono B8.out.size)); clear g9 b9))
      obtain ⟨A9, c9, rfl, hsp⟩ := V9.out.spans
      obtain ⟨w10, hw10⟩ : ∃ w, w = w9.alloc (.cells #[.int .i64 o1, .int .i64 o2] 59) := ⟨_, rfl⟩
      have hXO := Blk.new w9 59 #[.int .i64 o1, .int .i64 o2]
      have hB0 := B9.out.alloc B9.out.size (.cells #[.int .i64 o1, .int .i64 o2] 59)
      have hSP := hsp.below ((Below.refl w9.heap.size w9).alloc (Nat.le_refl _) (.cells #[.int .i64 o1, .int .i64 o2] 59))
      rw [← hw10] at hXO hB0 hSP ⊢
      have XO := Lib.hid hXO
      have B10 := Lib.hid hB0
      have SP := Lib.hid hSP
      clear hXO hB0 hSP hsp hw10
      go_loopw [17] (fun y wr => ∃ i : Nat, y = .int .i64 i ∧ i ≤ k ∧ Below w10.heap.size w10 wr) (fun y _ => k - (intOf y).toNat)
      case atStart => exact ⟨0, rfl, by omega, Below.refl _ _⟩
      case round =>
        obtain ⟨i, rfl, hi, hb⟩ := hrel
        obtain ⟨wz, hwz⟩ : ∃ wz : World, wz = wr := ⟨_, rfl⟩
        subst hwz
        have HB := Lib.hid hb
        clear hb
        by_cases hin : i < k
        · have hc0 : c = 0 := by
            rcases HDONE.out with h | ⟨_, h⟩
            · exact h
            · omega
          obtain ⟨hI1, hI2, hI3⟩ := HIN.out hc0 i hin
          obtain ⟨b9, p9, rfl, hb9, hc9⟩ := (SP.out.below HB.out).2 (by omega)
          obtain ⟨c0, c1⟩ := hc9 i hin
          obtain ⟨x, hx⟩ : ∃ x, x = D i := ⟨_, rfl⟩
          rw [← hx] at c0 c1 hI1 hI2 hI3
          obtain ⟨p1, p2⟩ := x
          simp only at c0 c1 hI2 hI3
          clear hx hc9
          subst hc0
          have his : ∀ W, Calls Try.prog 24 #[.agg #[.int .i64 p1, .int .i64 p2]] W fun e w' => e = .returned (.bool true) ∧ W.grownBy w' none := fun W => by
            have := ris_any (p1, p2) W
            rw [hI1] at this
            exact this
          have HIS := Lib.hid his
          have e0 := (XO.out.below HB.out XO.out.lt).cell 0
          have e1 := (XO.out.below HB.out XO.out.lt).cell 1
          simp at e0 e1
          have i1 : (i : Int) < (k : Int) := by omega
          have n1 : ¬ p1 < o1 := by omega
          have n2 : ¬ o2 < p2 := by omega
          have k0 := fun d os => cell_regrown c0 d os
          have k1 := fun d os => cell_regrown c1 d os
          have k2 := fun d os => cell_regrown e0 d os
          have k3 := fun d os => cell_regrown e1 d os
          clear c0 c1 e0 e1 his hI1 hI2 hI3
          go_wp2
          refine wp_region_quiet_below (by kernel_rfl) (by kernel_rfl) ?_
          repeat (quiet_step ((go_at_call 24; with_reducible exact Calls.regrown_of ((HIS.out _).mono fun _ _ ⟨h1, h2⟩ => ⟨h1, below_of_only h2 (Nat.le_refl _) (by simp)⟩))))
          refine wpQuiet_nil ?_
          rintro _ ⟨⟨dq, osq⟩, rfl⟩
          have hb3 := below_regrown wz dq osq
          generalize grow (redrawn wz dq) osq = w3 at hb3 ⊢
          have B3 := Lib.hid (HB.out.trans (hb3.mono HB.out.size))
          clear hb3 k0 k1 k2 k3
          go_wp2
          go_roundw
          case rel => exact ⟨i + 1, by go_num, by omega, B3.out⟩
          case measure => simp [intOf] <;> omega
        · obtain rfl : i = k := by omega
          have BB := Lib.hid (B10.out.trans (HB.out.mono B10.out.size))
          go_wp2_with (go_at_call 7; refine (dlive_any _).mono ?_; rintro e w2 ⟨rfl, b2⟩; have B2 := Lib.hid (BB.out.trans (b2.mono BB.out.size)); clear b2)
          go_ret
          exact ⟨rfl, B2.out⟩
end Go.Proofs.Ythlapnljinkekab

/- DmaForks: its walk. -/
namespace Go.Proofs.Ythlapnljinkekab
open Go.RowKit Go.Lib Go.Sort
set_option linter.unusedVariables false

theorem moved_new {w : World} {e m t : Nat} (h : Blk w e 77 (engCells m t)) (o : Int) : Calls Try.prog 15 #[.pointer (some ⟨e, 0, none⟩), .int .i64 o] w fun r w' => r = .returned (.tuple #[.int .i64 0, .int .i64 0]) ∧ ∃ q, w.drewN q = w' := by
  by_cases ho : o < 0 ∨ 9 ≤ o
  · exact moved_off ho
  · exact moved_any (eng_of h) (k := o.toNat) (by omega) (by omega)
/-- The engine that was forked, and its deeds so far. -/
def ForkS (w : World) (B f m2 g2 t : Nat) (L : List Reg) (z : List UInt8) (i : Nat) : Prop :=
  ∃ l rv n rc rd wr, StG w B f m2 g2 t L l rv n rc rd wr ∧ l.length = z.length ∧ n ≤ i ∧ ∀ k, k < 9 → 0 ≤ wr k ∧ wr k ≤ 200 * (i : Int)

theorem ForkS.wrote {w w' : World} {B f m g t : Nat} {L : List Reg} {l z : List UInt8} {rv : Value} {n i : Nat} {rc : Nat → Rec} {rd wr : Nat → Int} {tick o a : Int} {s : ByteArray} {r : Ending} (hm : AllMay L) (hl : l.length = z.length) (hn : n ≤ i) (hw : ∀ k, k < 9 → 0 ≤ wr k ∧ wr k ≤ 200 * (i : Int)) (hs : s.size ≤ 200) (h : WriteV B f m g t L l rv n rc rd wr tick o a s w r w') : ForkS w' B f m g t L z (i + 1) := by
  obtain ⟨_, ⟨q, rv', q1, _, _⟩ | ⟨q, q1, _⟩⟩ := h
  · exact ⟨l, rv', n + 1, _, rd, wr, q1, hl, by omega, fun k hk => by have := hw k hk; omega⟩
  · refine ⟨_, rv, n, rc, rd, _, q1, by rw [wrL_len hm]; exact hl, by omega, fun k hk => ?_⟩
    have := hw k hk
    unfold updI
    split
    · rename_i e
      rw [← e]
      omega
    · omega
theorem ForkS.below {w w' : World} {B f m2 g2 t i : Nat} {L : List Reg} {z : List UInt8} (h : ForkS w B f m2 g2 t L z i) (hb : Below w.heap.size w w') : ForkS w' B f m2 g2 t L z i := by
  obtain ⟨l, rv, n, rc, rd, wr, h1, h2⟩ := h
  exact ⟨l, rv, n, rc, rd, wr, h1.below hb, h2⟩
theorem records_new {w : World} {e m t : Nat} (h : Blk w e 77 (engCells m t)) : Calls Try.prog 13 #[.pointer (some ⟨e, 0, none⟩)] w fun r w' => r = .returned (.slice none 0 0) ∧ w = w' := by
  have c0 := (eng_of h).recs
  clear h
  go_enter Try.func13, Try.ntmps13
  go_wp2_with (go_at_call 32; refine (clone_nil _).mono ?_; rintro r w1 ⟨rfl, rfl⟩)
  go_ret
  exact ⟨rfl, rfl⟩
theorem StG.apartE {w : World} {B e m g t : Nat} {L : List Reg} {l : List UInt8} {rv : Value} {n : Nat} {rc : Nat → Rec} {rd wr : Nat → Int} (S : StG w B e m g t L l rv n rc rd wr) {i : Nat} {cs : Array Value} (h : Blk w i 77 cs) (h1 : i ≠ e) : ¬ Burst e g rv i := by
  rintro (h4 | h4 | h4)
  · exact h1 h4
  · exact h.differ S.2.2.1.2.2.2 (by decide) h4
  · exact own_ne S.2.2.2.2 h (by decide) h4

set_option maxHeartbeats 3200000 in
set_option maxRecDepth 100000 in
theorem dforks_walk (size : Int) (A : Option Addr) (len cap : Nat) (d : Nat → Reg) (A2 : Option Addr) (len2 cap2 : Nat) (D : Nat → Int × Int × Int × Int × Bool × ByteArray) (w : World) (hst0 : Regs w A len cap d) (hf0 : ∀ i, i < len → Fits (d i)) (hlc : len ≤ cap) (hcm : cap ≤ 9223372036854775807) (hD : DeedsD w A2 len2 D) (hfD : ∀ i, i < len2 → fitI (D i).1 ∧ fitI (D i).2.1 ∧ fitI (D i).2.2.1 ∧ fitI (D i).2.2.2.1) (hlc2 : len2 ≤ cap2) (hcm2 : cap2 ≤ 9223372036854775807) :
    Calls Try.prog 5 #[.int .i64 size, .slice A len cap, .slice A2 len2 cap2] w fun e w' => e = .returned (.bool true) ∧ Below w.heap.size w w' := by
  obtain ⟨n, hn⟩ : ∃ n, n = min len 8 := ⟨_, rfl⟩
  obtain ⟨mm, hmm⟩ : ∃ mm, mm = min len2 20 := ⟨_, rfl⟩
  have hfew := few_any A len cap A2 len2 cap2 d D _ hst0 hf0 hD hlc hcm hlc2 hcm2
  rw [← hn, ← hmm] at hfew
  have HFEW := Lib.hid hfew
  have HST := Lib.hid (hst0.cut n (by omega))
  have HF : Hid (∀ i, i < n → Fits (d i)) := fun i hi => hf0 i (by omega)
  have HN : Hid (n ≤ 8) := by unfold Hid; omega
  have HM : Hid (mm ≤ 20 ∧ mm ≤ len2) := by unfold Hid; omega
  have HDD := Lib.hid hD
  have HFD : Hid (∀ i, i < mm → fitI (D i).1 ∧ fitI (D i).2.1 ∧ fitI (D i).2.2.1 ∧ fitI (D i).2.2.2.1) := fun i hi => hfD i (by omega)
  clear hfew hst0 hf0 hlc hcm hn hmm hD hfD hlc2 hcm2
  by_cases h6 : (600 : Int) < size
  · go_enter Try.func5, Try.ntmps5
    go_wp2_with (go_at_call 6; refine HFEW.out.mono ?_; rintro e w1 ⟨r, rfl, hr, b1⟩; have HR := Lib.hid hr; have B1 := Lib.hid b1; clear hr b1; cases r)
    all_goals
      go_wp2_with (go_at_call 7; refine (dlive_any _).mono ?_; rintro e w2 ⟨rfl, b2⟩; have B2 := Lib.hid (B1.out.trans (b2.mono B1.out.size)); clear b2)
      go_ret
      exact ⟨rfl, B2.out⟩
  · go_enter Try.func5, Try.ntmps5
    go_wp2_with (go_at_call 6; refine HFEW.out.mono ?_; rintro e w1 ⟨r, rfl, hr, b1⟩; have HR := Lib.hid hr; have B1 := Lib.hid b1; clear hr b1; cases r)
    · go_wp2_with (go_at_call 7; refine (dlive_any _).mono ?_; rintro e w2 ⟨rfl, b2⟩; have B2 := Lib.hid (B1.out.trans (b2.mono B1.out.size)); clear b2)
      go_ret
      exact ⟨rfl, B2.out⟩
    · obtain ⟨hc0, hs2⟩ := HR.out (by first | rfl | trivial)
      have HC0 := Lib.hid hc0
      have HS2 := Lib.hid hs2
      have hz : (List.replicate (sizeOf' size) (0 : UInt8)).length ≤ 600 := by rw [List.length_replicate]; unfold sizeOf'; split <;> (try split) <;> omega
      have hnew : ∀ W, Calls Try.prog 8 #[.int .i64 size] W fun r w' => ∃ m, r = .returned (.pointer (some ⟨m, 0, none⟩)) ∧ MemV w' W.heap.size m (List.replicate (sizeOf' size) 0) ∧ Below W.heap.size W w' := fun W => mnew_any size W
      have hrnew := fun W => rmnew_any size W (by omega)
      generalize List.replicate (sizeOf' size) (0 : UInt8) = z at hz hnew hrnew
      have htn := fun W (hW : Below w.heap.size w W) => tnew_dok (HST.out.below hW) HF.out (by have := HN.out; omega) hc0
      have hdf := fun W B B' m1 m2 (h1 : MemV W B m1 z) (h2 : MemV W B' m2 z) => mdiff_any W B B' m1 m2 z z h1 h2 hz hz
      unfold DiffV at hdf
      rw [unl_self, rTo_none] at hdf
      have HNEW := Lib.hid hnew
      have HRN := Lib.hid hrnew
      have HTN := Lib.hid htn
      have HDF := Lib.hid hdf
      have HZ := Lib.hid hz
      clear hnew hrnew htn hdf hz hc0 hs2 HR
      go_wp2_with (first
        | (go_at_call 8; refine (HNEW.out _).mono ?_; rintro e w2 ⟨m, rfl, hm, b2⟩; obtain ⟨g, hg⟩ := hm.named; have M2 := Lib.hid (hg.lower' B1.out.size); have B2 := Lib.hid (B1.out.trans (b2.mono B1.out.size)); clear hm hg b2)
        | (go_at_call 9; refine (HTN.out _ B2.out).mono ?_; rintro e w3 ⟨t', rfl, ht, b3⟩; have M3 := Lib.hid (M2.out.below b3); have T3 := Lib.hid ht; have B3 := Lib.hid b3; clear ht b3)
        | (go_at_call 10; refine (enew_any m t' _).mono ?_; rintro e w4 ⟨rfl, he, b4⟩; have E4 := Lib.hid he; have M4 := Lib.hid (M3.out.below b4); have T4 := Lib.hid (T3.out.below b4); have B4 := Lib.hid (B3.out.trans (b4.mono B3.out.size)); clear he b4)
        | (go_at_call 19; refine (fork_any _ _ _ _ _ M4.out HZ.out).mono ?_; rintro e w5 ⟨m2, g2, rfl, hf, hm5, b5⟩; have F5 := Lib.hid (hf.lower' B4.out.size); have E5 := Lib.hid (E4.out.below b5 E4.out.lt); have T5 := Lib.hid (T4.out.below b5); have B5 := Lib.hid (B4.out.trans (b5.mono B4.out.size)); clear hf hm5 b5)
        | (go_at_call 25; refine (efork_any _ _ _ _ m2 E5.out).mono ?_; rintro e w6 ⟨f, rfl, hff, hf, b6⟩; have LF := Lib.hid (show w3.heap.size ≠ f by have := E5.out.lt; omega); have S6 : Hid (ForkS w6 w2.heap.size f m2 g2 t' (rws d n) z 0) := ⟨z, _, 0, fun _ => (0, 0, 0, 0, false, 0), _, _, ⟨Nat.le_trans B5.out.size hff, eng_of hf, F5.out.below b6, T5.out.below b6, rec_nil _ _ _⟩, rfl, Nat.le_refl _, fun k _ => ⟨by simp, by simp⟩⟩; have E6 := Lib.hid (E5.out.below b6 E5.out.lt); have B6 := Lib.hid (B5.out.trans (b6.mono B5.out.size)); clear hff hf b6))
      have HMAY := Lib.hid (chkN_may HC0.out)
      go_loopw [14] (fun y wr => ∃ i : Nat, y = .int .i64 i ∧ i ≤ mm ∧ Hid (ForkS wr w2.heap.size f m2 g2 t' (rws d n) z i) ∧ Hid (Blk wr w3.heap.size 77 (engCells m t')) ∧ Below w2.heap.size w2 wr) (fun y _ => mm - (intOf y).toNat)
      case atStart => exact ⟨0, rfl, by omega, S6, E6, B6.out⟩
      case round =>
        obtain ⟨i, rfl, hi, FS, EE, hb⟩ := hrel
        obtain ⟨wz, hwz⟩ : ∃ wz : World, wz = wr := ⟨_, rfl⟩
        subst hwz
        have HB := Lib.hid hb
        have BW := Lib.hid (B2.out.trans (hb.mono B2.out.size))
        clear hb S6 E6
        by_cases hin : i < mm
        · obtain ⟨b9, p9, rfl, hb9, hc9⟩ := ((HDD.out.under BW.out (Nat.le_refl _)).cut mm HM.out.2) (by omega)
          obtain ⟨c0, c1, c2, c3, c4, c5⟩ := hc9 i hin
          have hs9 := HS2.out i hin
          obtain ⟨h01, h02, h03, h04⟩ := HFD.out i hin
          obtain ⟨x, hx⟩ : ∃ x, x = D i := ⟨_, rfl⟩
          rw [← hx] at c0 c1 c2 c3 c4 c5 hs9 h01 h02 h03 h04
          obtain ⟨t, o, a, q, bb, s⟩ := x
          simp only at c0 c1 c2 c3 c4 c5 hs9 h01 h02 h03 h04
          have HO := Lib.hid h02
          have HA := Lib.hid h03
          have HS9 := Lib.hid hs9
          clear hx hc9 h01 h02 h03 h04 hs9
          have i1 : (i : Int) < (mm : Int) := by omega
          have i20 : i < 20 := by have := HM.out.1; omega
          go_wp2_with fail
          obtain ⟨wy, hwy⟩ : ∃ wy, wy = wz.alloc (.cells #[.int .i64 t, .int .i64 o, .int .i64 a, .int .i64 q, .bool bb, .string s] 39) := ⟨_, rfl⟩
          have hXB := Blk.new wz 39 #[.int .i64 t, .int .i64 o, .int .i64 a, .int .i64 q, .bool bb, .string s]
          have hBY := (Below.refl wz.heap.size wz).alloc (Nat.le_refl _) (.cells #[.int .i64 t, .int .i64 o, .int .i64 a, .int .i64 q, .bool bb, .string s] 39)
          rw [← hwy] at hXB hBY ⊢
          have XB := Lib.hid hXB
          have e0 := hXB.cell 0
          have e1 := hXB.cell 1
          have e2 := hXB.cell 2
          have e5 := hXB.cell 5
          simp at e0 e1 e2 e5
          obtain ⟨l, rv, nn, rc, rd, wrn, hS, hl, hn', hw'⟩ := FS.out
          have SY := Lib.hid (hS.below hBY)
          have EY := Lib.hid (EE.out.below hBY EE.out.lt)
          have BY := Lib.hid (HB.out.trans (hBY.mono HB.out.size))
          have HL := Lib.hid hl
          have HNN := Lib.hid hn'
          have HWN := Lib.hid hw'
          have XLT := Lib.hid (rfl : wz.heap.size = wz.heap.size)
          clear hXB hBY hwy hS hl hn' hw' FS EE c0 c1 c2 c3 c4 c5
          go_region_held3 (fun w' => w'.cell? ⟨wz.heap.size, 0, none⟩ = some (.int .i64 t) ∧ w'.cell? ⟨wz.heap.size, 1, none⟩ = some (.int .i64 o) ∧ w'.cell? ⟨wz.heap.size, 2, none⟩ = some (.int .i64 a) ∧ w'.cell? ⟨wz.heap.size, 5, none⟩ = some (.string s)) (first | exact ⟨e0, e1, e2, e5⟩ | go_keep) (first
            | (go_at_call 11; refine (HRN.out _).mono ?_; rintro r7 w7 ⟨v7, rfl, hv7, b7⟩; have b7' : Below wy.heap.size wy w7 := (below_drewN (Below.refl wy.heap.size wy) 1).trans b7; obtain ⟨A7, c7, e7⟩ := hv7.form; subst e7; have V7 := Lib.hid hv7; have LT7 := Lib.hid b7'.size; have S7 := Lib.hid (SY.out.below b7'); have E7 := Lib.hid (EY.out.below b7' EY.out.lt); have B7 := Lib.hid (BY.out.trans (b7'.mono BY.out.size)); have X7 := Lib.hid (XB.out.below b7' XB.out.lt); have e0 := X7.out.cell 0; have e1 := X7.out.cell 1; have e2 := X7.out.cell 2; have e5 := X7.out.cell 5; simp at e0 e1 e2 e5; clear b7 b7' hv7)
            | (go_at_call 12; refine (do_write w7 A n cap d w2.heap.size f m2 g2 t' _ rv nn rc rd wrn l z t o a 0 s A7 _ c7 (HST.out.below (B2.out.trans (B7.out.mono B2.out.size))) (Nat.le_trans HN.out (by omega)) HC0.out S7.out V7.out HL.out.symm (num_len _) HO.out HA.out (by rw [HL.out]; exact HZ.out) HS9.out B7.out.size LT7.out (Nat.le_trans HNN.out (Nat.le_trans hi (Nat.le_trans HM.out.1 (by omega)))) (fun k hk => by have h1 := HWN.out k hk; have h2 := HM.out.1; omega)).mono ?_; rintro r8 w8 ⟨v8, rfl, _, hw8⟩; have k8 := hw8.keeps; have B8 := Lib.hid (B7.out.trans (S7.out.burst k8 B7.out.size)); have E8 := Lib.hid (E7.out.kept2 k8 (S7.out.apartE E7.out LF.out)); have X8 := Lib.hid (X7.out.kept2 k8 (S7.out.apart2 X7.out (by decide) (by decide) (by decide))); have S8 := Lib.hid (ForkS.wrote HMAY.out HL.out HNN.out HWN.out HS9.out hw8); have e0 := X8.out.cell 0; have e1 := X8.out.cell 1; have e2 := X8.out.cell 2; have e5 := X8.out.cell 5; simp at e0 e1 e2 e5; clear hw8 k8)
            | fail "q")
          have e3 := X8.out.cell 3
          simp at e3
          go_wp2_with (first
            | (go_at_call 26; refine (nread_any _ _ _ _ _).mono ?_; rintro r9 w9 ⟨rfl, b9⟩; have X9 := Lib.hid (X8.out.below b9 X8.out.lt); have S9 := Lib.hid (S8.out.below b9); have E9 := Lib.hid (E8.out.below b9 E8.out.lt); have B9 := Lib.hid (B8.out.trans (b9.mono B8.out.size)); have e0 := X9.out.cell 0; have e1 := X9.out.cell 1; have e2 := X9.out.cell 2; have e3 := X9.out.cell 3; have e5 := X9.out.cell 5; simp at e0 e1 e2 e3 e5; clear b9)
            | (go_at_call 15; refine (moved_new E9.out _).mono ?_; rintro r10 wq ⟨rfl, qd, rfl⟩; have b10 := below_drewN (Below.refl w9.heap.size w9) qd; generalize w9.drewN qd = w10 at b10 ⊢; have X10 := Lib.hid (X9.out.below b10 X9.out.lt); have S10 := Lib.hid (S9.out.below b10); have E10 := Lib.hid (E9.out.below b10 E9.out.lt); have B10 := Lib.hid (B9.out.trans (b10.mono B9.out.size)); have e0 := X10.out.cell 0; have e1 := X10.out.cell 1; have e2 := X10.out.cell 2; have e3 := X10.out.cell 3; have e5 := X10.out.cell 5; simp at e0 e1 e2 e3 e5; clear b10)
            | (go_at_call 20; refine (nwrite_any _ _ _ _ _).mono ?_; rintro r11 w11 ⟨rfl, b11⟩; have S11 := Lib.hid (S10.out.below b11); have E11 := Lib.hid (E10.out.below b11 E10.out.lt); have B11 := Lib.hid (B10.out.trans (b11.mono B10.out.size)); clear b11))
          go_roundw
          case rel => exact ⟨i + 1, by go_num, by omega, S11, E11, B11.out⟩
          case measure => simp [intOf] <;> omega
        · obtain rfl : i = mm := by omega
          have MZ := Lib.hid (M2.out.below HB.out)
          go_wp2_with (first
            | (go_at_call 7; refine (dlive_any _).mono ?_; rintro r7 w7 ⟨rfl, b7⟩; have B7 := Lib.hid (HB.out.trans (b7.mono HB.out.size)); have E7 := Lib.hid (EE.out.below b7 EE.out.lt); have M7 := Lib.hid (MZ.out.below b7); clear b7)
            | (go_at_call 13; refine (records_new E7.out).mono ?_; rintro r8 w8 ⟨rfl, rfl⟩)
            | (go_at_call 13; refine (nrecords_any _).mono ?_; rintro r8 w8 ⟨rfl, rfl⟩)
            | (go_at_call 8; refine (HNEW.out _).mono ?_; rintro r8 w8 ⟨m3, rfl, hm3, b8⟩; have N8 := Lib.hid hm3; have M8 := Lib.hid (M7.out.below b8); have B8 := Lib.hid (B7.out.trans (b8.mono B7.out.size)); clear hm3 b8)
            | (go_at_call 21; refine (HDF.out _ _ _ _ _ M8.out.mem N8.out).mono ?_; rintro r9 w9 ⟨v9, rfl, hv9, b9⟩; obtain ⟨A9, c9, rfl, _⟩ := hv9.spans; have B9 := Lib.hid (B8.out.trans (b9.mono B8.out.size)); clear hv9 b9)
            | (go_at_call 25; refine (nfork_any _ _).mono ?_; rintro r10 w10 ⟨rfl, rfl⟩))
          go_ret
          exact ⟨by first | rfl | simp, B2.out.trans (B9.out.mono B2.out.size)⟩
end Go.Proofs.Ythlapnljinkekab

/- DmaForks: what becomes of a fork changes nothing of the other one; a nil engine refuses all. -/
namespace Go.Proofs.Ythlapnljinkekab
open Go.RowKit Go.Lib Go.ChangeShapes Go.WideShapes Go.ChangeAt Go.Deep Go.Joins
set_option linter.unusedVariables false

theorem dforks_own : ownKnob Try.prog.godebug = none := by kernel_rfl
theorem dforks_laid : laidOutB Try.prog = true := by kernel_rfl
/-- Regions that came in: their numbers, which fit. -/
theorem dforks_regs {H : Type} {enc : TypeId × Value → H} {w : World} {base : Nat} {spare : Nat → Bool} {held : Bool} {A : Option Addr} {len cap fuel : Nat} {x : DataW H × List MemPlace}
    (h : DataW.trod enc Try.prog w base spare held fuel 22 [.slice A len cap] = some x) : len ≤ cap ∧ cap ≤ 9223372036854775807 ∧ ∃ d, Regs w A len cap d ∧ ∀ i, i < len → Fits (d i) := by
  obtain ⟨h1, h2, h3, h4⟩ := open_structs Try.underlying22 Try.underlying62 (by kernel_rfl) (by kernel_rfl) (by decide) h
  refine ⟨h1, by unfold maxLen at h2; omega, ?_⟩
  by_cases hp : 0 < len
  · obtain ⟨b, off, hA, hb, hc⟩ := h4 hp
    have hx : ∀ i, ∃ r : Reg, i < len → (w.cell? ⟨b, off + i * 3, none⟩ = some (.int .i64 r.1) ∧ w.cell? ⟨b, off + i * 3 + 1, none⟩ = some (.int .i64 r.2.1) ∧ w.cell? ⟨b, off + i * 3 + 2, none⟩ = some (.int .i64 r.2.2)) ∧ Fits r := by
      intro i
      by_cases hi : i < len
      · obtain ⟨v0, n0, y0, c0, r0⟩ := hc i hi 0 _ rfl
        obtain ⟨v1, n1, y1, c1, r1⟩ := hc i hi 1 _ rfl
        obtain ⟨v2, n2, y2, c2, r2⟩ := hc i hi 2 _ rfl
        obtain ⟨p, e0, _, w0⟩ := DataW.trod_int Try.underlying3 r0
        obtain ⟨q, e1, _, w1⟩ := DataW.trod_int Try.underlying3 r1
        obtain ⟨s, e2, _, w2⟩ := DataW.trod_int Try.underlying3 r2
        injection e0 with e0 _
        injection e1 with e1 _
        injection e2 with e2 _
        subst e0 e1 e2
        exact ⟨(p, q, s), fun _ => ⟨⟨c0, c1, c2⟩, fitI_of w0, fitI_of w1, fitI_of w2⟩⟩
      · exact ⟨(0, 0, 0), fun h => absurd h hi⟩
    exact ⟨fun i => Classical.choose (hx i), ⟨h3, fun _ => ⟨b, off, hA, hb, fun i hi => (Classical.choose_spec (hx i) hi).1⟩⟩, fun i hi => (Classical.choose_spec (hx i) hi).2⟩
  · exact ⟨fun _ => (0, 0, 0), ⟨h3, fun h => absurd h hp⟩, fun i hi => absurd hi (by omega)⟩

/-- Deeds that came in. -/
theorem dforks_deeds {H : Type} {enc : TypeId × Value → H} {w : World} {base : Nat} {spare : Nat → Bool} {held : Bool} {A : Option Addr} {len cap fuel : Nat} {x : DataW H × List MemPlace}
    (h : DataW.trod enc Try.prog w base spare held fuel 23 [.slice A len cap] = some x) : len ≤ cap ∧ cap ≤ 9223372036854775807 ∧ ∃ D, DeedsD w A len D ∧ ∀ i, i < len → fitI (D i).1 ∧ fitI (D i).2.1 ∧ fitI (D i).2.2.1 ∧ fitI (D i).2.2.2.1 := by
  obtain ⟨h1, h2, h3, h4⟩ := open_structs Try.underlying23 Try.underlying39 (by kernel_rfl) (by kernel_rfl) (by decide) h
  refine ⟨h1, by unfold maxLen at h2; omega, ?_⟩
  by_cases hp : 0 < len
  · obtain ⟨b, off, hA, hb, hc⟩ := h4 hp
    have hx : ∀ i, ∃ r : Int × Int × Int × Int × Bool × ByteArray, i < len → (w.cell? ⟨b, off + i * 6, none⟩ = some (.int .i64 r.1) ∧ w.cell? ⟨b, off + i * 6 + 1, none⟩ = some (.int .i64 r.2.1) ∧ w.cell? ⟨b, off + i * 6 + 2, none⟩ = some (.int .i64 r.2.2.1) ∧ w.cell? ⟨b, off + i * 6 + 3, none⟩ = some (.int .i64 r.2.2.2.1) ∧ w.cell? ⟨b, off + i * 6 + 4, none⟩ = some (.bool r.2.2.2.2.1) ∧ w.cell? ⟨b, off + i * 6 + 5, none⟩ = some (.string r.2.2.2.2.2)) ∧ fitI r.1 ∧ fitI r.2.1 ∧ fitI r.2.2.1 ∧ fitI r.2.2.2.1 := by
      intro i
      by_cases hi : i < len
      · obtain ⟨v0, n0, y0, c0, r0⟩ := hc i hi 0 _ rfl
        obtain ⟨v1, n1, y1, c1, r1⟩ := hc i hi 1 _ rfl
        obtain ⟨v2, n2, y2, c2, r2⟩ := hc i hi 2 _ rfl
        obtain ⟨v3, n3, y3, c3, r3⟩ := hc i hi 3 _ rfl
        obtain ⟨v4, n4, y4, c4, r4⟩ := hc i hi 4 _ rfl
        obtain ⟨v5, n5, y5, c5, r5⟩ := hc i hi 5 _ rfl
        obtain ⟨t, e0, _, w0⟩ := DataW.trod_int Try.underlying3 r0
        obtain ⟨o, e1, _, w1⟩ := DataW.trod_int Try.underlying3 r1
        obtain ⟨a, e2, _, w2⟩ := DataW.trod_int Try.underlying3 r2
        obtain ⟨q, e3, _, w3⟩ := DataW.trod_int Try.underlying3 r3
        obtain ⟨b', e4, _⟩ := DataW.trod_bool Try.underlying4 r4
        obtain ⟨s, e5, _, _⟩ := DataW.trod_string Try.underlying9 r5
        injection e0 with e0 _
        injection e1 with e1 _
        injection e2 with e2 _
        injection e3 with e3 _
        injection e4 with e4 _
        injection e5 with e5 _
        subst e0 e1 e2 e3 e4 e5
        exact ⟨(t, o, a, q, b', s), fun _ => ⟨⟨c0, c1, c2, c3, c4, c5⟩, fitI_of w0, fitI_of w1, fitI_of w2, fitI_of w3⟩⟩
      · exact ⟨(0, 0, 0, 0, false, .empty), fun h => absurd h hi⟩
    exact ⟨fun i => Classical.choose (hx i), fun _ => ⟨b, off, hA, hb, fun i hi => (Classical.choose_spec (hx i) hi).1⟩, fun i hi => (Classical.choose_spec (hx i) hi).2⟩
  · exact ⟨fun _ => (0, 0, 0, 0, false, .empty), fun h => absurd h hp, fun i hi => absurd hi (by omega)⟩

set_option maxRecDepth 100000 in
theorem dforks_lifted (os : Os) (started : os.Started) (H : Type) (enc : TypeId × Value → H) :
    ReturnsInHanded {} Try.checked os 5 .any (Rows.dmaForksSpec.pre6 enc Try.prog Try.f5 Rows.dmaForksRow.domain false) (Rows.dmaForksSpec.post enc Try.prog Try.f5 false true false false) := by
  refine returnsInHanded_of_change (C := Try.checked) dforks_own started (by kernel_rfl) Try.func5
    (ChangeSpec.witness6 (enc := enc) (C := Try.checked) false ⟨#[], #[.int .i64 0, .slice none 0 0, .slice none 0 0], []⟩ 8 (by kernel_rfl) (by kernel_rfl) (by kernel_rfl) (by kernel_rfl)) ?_
  intro W base args ds gs before hval0 hW hcnd _
  have hval : ∀ (j : Nat) t v, Try.f5.params[j]? = some t → args[j]? = some v → Value.okWide Try.prog W .any base t v := hval0
  have hW' := hW
  obtain ⟨p, q, hA0, hV, rfl, hfz, hnd⟩ := hW
  have hA : DataW.TrodAll enc Try.prog W 0 (fun _ => true) true Try.f5.params.toList args.toList ds p := hA0
  rw [Try.params5] at hA hval
  obtain ⟨v0, vs0, d0, ds0, p0, q0, hargs, rfl, rfl, h0, r0⟩ := trodAll_cons hA
  obtain ⟨v1, vs1, d1, ds1, p1, q1, rfl, rfl, rfl, h1, r1⟩ := trodAll_cons r0
  obtain ⟨v2, vs2, d2, ds2, p2, q2, rfl, rfl, rfl, h2, r2⟩ := trodAll_cons r1
  obtain ⟨rfl, rfl, rfl⟩ := trodAll_nil r2
  obtain rfl : args = #[v0, v1, v2] := by cases args; simp_all
  obtain ⟨rfl, rfl⟩ := trodVars_none hV
  obtain ⟨a0, rfl, rfl, rfl, w0⟩ := open_int Try.underlying3 (hval 0 3 v0 rfl rfl) h0
  obtain ⟨A1, len1, cap1, rfl⟩ := okWide_slice Try.underlying22 (hval 1 22 v1 rfl rfl)
  have k1 := h1
  have lt1 : ∀ x ∈ p1, x.block < W.heap.size := by obtain ⟨m, hm⟩ := k1; exact DataW.trod_lt m _ _ _ hm
  obtain ⟨fuel1, hf1⟩ := h1
  obtain ⟨hlc1, hcm1, D1, hst1, hfit1⟩ := dforks_regs (by simpa [Value.cells] using hf1)
  obtain ⟨A2, len2, cap2, rfl⟩ := okWide_slice Try.underlying23 (hval 2 23 v2 rfl rfl)
  have k2 := h2
  have lt2 : ∀ x ∈ p2, x.block < W.heap.size := by obtain ⟨m, hm⟩ := k2; exact DataW.trod_lt m _ _ _ hm
  obtain ⟨fuel2, hf2⟩ := h2
  obtain ⟨hlc2, hcm2, D2, hst2, hfit2⟩ := dforks_deeds (by simpa [Value.cells] using hf2)
  clear hA0 hval0
  refine (dforks_walk a0 A1 len1 cap1 D1 A2 len2 cap2 D2 W hst1 hfit1 hlc1 hcm1 hst2 hfit2 hlc2 hcm2).mono fun e W' ⟨he, bel⟩ => ?_
  subst he
  exact ⟨_, rfl, _, _, _, [], _, [], hW', trodAll_mk1 (shut_bool Try.underlying4 _), (trodAll_cons_mk (shut_int Try.underlying3 w0) (trodAll_cons_mk (Below.trod dforks_laid (by kernel_rfl) (of_decide_eq_true (by kernel_rfl)) k1 bel lt1) (trodAll_cons_mk (Below.trod dforks_laid (by kernel_rfl) (of_decide_eq_true (by kernel_rfl)) k2 bel lt2) trodAll_mk0))), rfl, bel.frame _, fun h => by cases h⟩

theorem dforks_holds : Rows.DmaForksSaid :=
  OpenClaim.holds_of_wide 5 Try.f5 rfl rfl rfl rfl rfl rfl rfl ⟨rfl, rfl, rfl, rfl, rfl⟩ rfl rfl rfl rfl rfl (by kernel_rfl) Try.func5 (by kernel_rfl)
    (of_decide_eq_true (by kernel_rfl)) (by unfold Func.isWrapper; first | (rw [if_pos (by decide +kernel)]; kernel_rfl) | (rw [if_neg (by decide +kernel)]; exact ⟨rfl, rfl⟩))
    (fun os started H enc _ => dforks_lifted os started H enc)
#print axioms dforks_holds
end Go.Proofs.Ythlapnljinkekab
