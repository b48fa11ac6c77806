/- Do two of some spans meet: the contract of someMeet, both ways. -/
import Derived.Test.YtgineifljofljaaV4
import Derived.Test.YtgineifljofljaaZ3
namespace Go.Proofs.Ytgineifljofljaa
open Go.RowKit Go.Lib Go.Sort
set_option linter.unusedVariables false

theorem meets_sym (a b : Int × Int) : meetsB a b = meetsB b a := by
  unfold meetsB
  rw [Bool.and_comm (isB a) (isB b), Bool.or_comm]
theorem meets_what (a b : Int × Int) : meetsB a b = true ↔ isS a ∧ isS b ∧ a.1 < b.2 ∧ b.1 < a.2 := by
  unfold meetsB holdsB
  simp only [Bool.and_eq_true, Bool.or_eq_true, isB_iff, decide_eq_true_eq, isS]
  omega
/-- Do two of the first n meet? -/
def pairB (d : Nat → Int × Int) (n : Nat) : Bool := (List.range n).any fun k => (List.range k).any fun i => meetsB (d i) (d k)
theorem pairB_iff (d : Nat → Int × Int) (n : Nat) : pairB d n = true ↔ ∃ k, k < n ∧ ∃ i, i < k ∧ meetsB (d i) (d k) = true := by
  unfold pairB
  simp only [List.any_eq_true, List.mem_range]
theorem pairB_none (d : Nat → Int × Int) (n : Nat) : pairB d n = false ↔ ∀ k, k < n → ∀ i, i < k → meetsB (d i) (d k) = false := by
  constructor
  · intro h k hk i hi
    rcases Bool.eq_false_or_eq_true (meetsB (d i) (d k)) with q | q
    · have := (pairB_iff d n).2 ⟨k, hk, i, hi, q⟩
      rw [h] at this
      cases this
    · exact q
  · intro h
    rcases Bool.eq_false_or_eq_true (pairB d n) with q | q
    · obtain ⟨k, hk, i, hi, m⟩ := (pairB_iff d n).1 q
      rw [h k hk i hi] at m
      cases m
    · exact q
theorem perm_two {n : Nat} {d e : Nat → Int × Int} (h : So.Perm 0 n d e) {i k : Nat} (hik : i ≠ k) (hi : i < n) (hk : k < n) (hm : meetsB (e i) (e k) = true) : pairB d n = true := by
  obtain ⟨s, t, h1, h2, h3, h4⟩ := h
  have hs : ∀ k, k < n → s k < n := fun k hk => by
    rcases Nat.lt_or_ge (s k) n with h | h
    · exact h
    · have e := congrArg t (h3 (s k) (by omega))
      rw [h1, h1] at e
      omega
  rw [h4, h4] at hm
  have hne : s i ≠ s k := fun q => by
    have := congrArg t q
    rw [h1, h1] at this
    exact hik this
  rcases Nat.lt_or_ge (s i) (s k) with q | q
  · exact (pairB_iff d n).2 ⟨s k, hs k hk, s i, q, hm⟩
  · exact (pairB_iff d n).2 ⟨s i, hs i hi, s k, by omega, by rw [meets_sym]; exact hm⟩
theorem perm_back {n : Nat} {d e : Nat → Int × Int} (h : So.Perm 0 n d e) : So.Perm 0 n e d := by
  obtain ⟨s, t, h1, h2, h3, h4⟩ := h
  refine ⟨t, s, h2, h1, fun k hk => ?_, fun k => by rw [h4, h2]⟩
  have := h3 k hk
  have e1 := h1 k
  rw [this] at e1
  exact e1
theorem pair_perm {n : Nat} {d e : Nat → Int × Int} (h : So.Perm 0 n d e) : pairB e n = pairB d n := by
  rw [Bool.eq_iff_iff]
  constructor
  · intro q
    obtain ⟨k, hk, i, hi, m⟩ := (pairB_iff e n).1 q
    exact perm_two h (by omega) (by omega) hk m
  · intro q
    obtain ⟨k, hk, i, hi, m⟩ := (pairB_iff d n).1 q
    exact perm_two (perm_back h) (by omega) (by omega) hk m

/-- What someMeet says: no only if the sorted spans lie one behind the other. -/
def SomeV (n : Nat) (d : Nat → Int × Int) (w : World) (e : Ending) (w' : World) : Prop :=
  ∃ (r : Bool) (d' : Nat → Int × Int), e = .returned (.bool r) ∧ So.Perm 0 n d d' ∧ So.Sorted d' 0 n ∧ (r = false → ∀ i j, i < j → j < n → isS (d' i) → isS (d' j) → (d' i).2 ≤ (d' j).1) ∧ (r = true → ∃ i j, i < j ∧ j < n ∧ isS (d' i) ∧ isS (d' j) ∧ (d' j).1 < (d' i).2) ∧ Below w.heap.size w w'

set_option maxHeartbeats 1600000 in
theorem someMeet_is (A : Option Addr) (len cap : Nat) (d : Nat → Int × Int) (w : World) (hsp : Spans w A len cap d) (hl : len ≤ 60) :
    Calls Try.prog 31 #[.slice A len cap] w (SomeV len d w) := by
  have hso := sorted_any A len cap d w hsp (by omega) (stable_ok len hl)
  have HSO := Lib.hid hso
  clear hso hsp
  go_enter Try.func31, Try.ntmps31
  go_wp2_with fail
  refine HSO.out.mono ?_
  rintro e w1 ⟨v, d', rfl, hv, hp, hs, hb⟩
  have HP := Lib.hid hp
  have HS := Lib.hid hs
  have HB := Lib.hid hb
  clear hp hs hb HSO
  rcases hv with ⟨rfl, rfl⟩ | ⟨g, cap1, rfl, hgB, hrow⟩
  · go_wp2
    refine wp_loop_rounds 1 ?_
    rw [rounds_succ]
    go_wp2
    go_ret
    exact ⟨false, d', rfl, HP.out, HS.out, fun _ i j h1 h2 => (by omega), fun h => (by cases h), HB.out⟩
  · go_wp2
    go_loopw [3, 9] (fun x y wr => ∃ (k : Nat) (t : Int), y = .int .i64 k ∧ x = .int .i64 t ∧ k ≤ len ∧ Hid (t = 0 ∨ ∃ i, i < k ∧ isS (d' i) ∧ (d' i).2 = t) ∧ Hid (∀ i, i < k → isS (d' i) → (d' i).2 ≤ t) ∧ Hid (∀ i j, i < j → j < k → isS (d' i) → isS (d' j) → (d' i).2 ≤ (d' j).1) ∧ RowS wr g len cap1 d' ∧ Below w.heap.size w wr) (fun _ y _ => len - (intOf y).toNat)
    case atStart => exact ⟨0, 0, rfl, rfl, by omega, Lib.hid (.inl rfl), Lib.hid (by omega), Lib.hid (by omega), hrow, HB.out⟩
    case round =>
      obtain ⟨k, t, rfl, rfl, hk, HW, HE, HF, hrow2, hb2⟩ := hrel
      have HROW := Lib.hid hrow2
      have HB2 := Lib.hid hb2
      clear hrow2 hb2 hrow HB
      by_cases hkl : k < len
      · have c0 := HROW.out.fst hkl
        have c1 := HROW.out.snd hkl
        obtain ⟨s, hs⟩ : ∃ s, s = d' k := ⟨_, rfl⟩
        rw [← hs] at c0 c1
        have HSK := Lib.hid hs
        clear hs
        obtain ⟨p, q⟩ := s
        simp only at c0 c1
        by_cases hi : isS (p, q)
        · by_cases hlt : p < t
          · go_wp2_with (go_at_call 13; refine (is_yes (p, q) _ hi.1 hi.2).mono ?_; rintro e w2 ⟨rfl, g2⟩; have hblk := (Blk.new wr 23 #[.int .i64 p, .int .i64 q]).only g2 (by simp); have e0 := hblk.cell 0; have e1 := hblk.cell 1; simp at e0 e1; have G3 := Lib.hid (only_trans (only_alloc (only_refl _ _) _) g2 : wr.grownBy w2 none); have HROW2 := Lib.hid (HROW.out.only G3.out (by simp)); have HB3 := Lib.hid (HB2.out.trans (below_of_only G3.out HB2.out.size (by simp))); clear hblk g2)
            go_ret
            refine ⟨true, d', rfl, HP.out, HS.out, fun h => (by cases h), fun _ => ?_, HB3.out⟩
            have hsk := HSK.out
            rcases HW.out with h | ⟨i, h1, h2, h3⟩
            · have := hi.1; simp only at this; omega
            · exact ⟨i, k, h1, hkl, h2, by rw [← hsk]; exact hi, by rw [h3, ← hsk]; exact hlt⟩
          · go_wp2_with (go_at_call 13; refine (is_yes (p, q) _ hi.1 hi.2).mono ?_; rintro e w2 ⟨rfl, g2⟩; have hblk := (Blk.new wr 23 #[.int .i64 p, .int .i64 q]).only g2 (by simp); have e0 := hblk.cell 0; have e1 := hblk.cell 1; simp at e0 e1; have G3 := Lib.hid (only_trans (only_alloc (only_refl _ _) _) g2 : wr.grownBy w2 none); have HROW2 := Lib.hid (HROW.out.only G3.out (by simp)); have HB3 := Lib.hid (HB2.out.trans (below_of_only G3.out HB2.out.size (by simp))); clear hblk g2)
            go_roundw
            case rel =>
              have hsk := HSK.out
              have h1 : (d' k).1 = p := by rw [← hsk]
              have h2 : (d' k).2 = q := by rw [← hsk]
              unfold isS at hi
              simp only at hi
              refine ⟨k + 1, q, by go_num, rfl, by omega, Lib.hid (.inr ⟨k, by omega, by unfold isS; rw [h1, h2]; exact hi, h2⟩), Lib.hid fun i h3 h4 => ?_, Lib.hid fun i j h3 h4 h5 h6 => ?_, HROW2.out, HB3.out⟩
              · by_cases e : i = k
                · subst e; omega
                · have := HE.out i (by omega) h4; omega
              · by_cases e : j = k
                · subst e; have := HE.out i h3 h5; omega
                · exact HF.out i j h3 (by omega) h5 h6
            case measure => simp [intOf] <;> omega
        · go_wp2_with (go_at_call 13; refine (is_no (p, q) _ hi).mono ?_; rintro e w2 ⟨rfl, g2⟩)
          go_roundw
          case rel =>
            have g3 : wr.grownBy w2 none := only_trans (only_alloc (only_refl _ _) _) g2
            have hno : ¬ isS (d' k) := by rw [← HSK.out]; exact hi
            refine ⟨k + 1, t, by go_num, rfl, by omega, Lib.hid (by rcases HW.out with h | ⟨i, h1, h2, h3⟩; exact .inl h; exact .inr ⟨i, by omega, h2, h3⟩), Lib.hid fun i h3 h4 => ?_, Lib.hid fun i j h3 h4 h5 h6 => ?_, HROW.out.only g3 (by simp), HB2.out.trans (below_of_only g3 HB2.out.size (by simp))⟩
            · by_cases e : i = k
              · subst e; exact absurd h4 hno
              · exact HE.out i (by omega) h4
            · by_cases e : j = k
              · subst e; exact absurd h6 hno
              · exact HF.out i j h3 (by omega) h5 h6
          case measure => simp [intOf] <;> omega
      · obtain rfl : k = len := by omega
        go_wp2
        go_ret
        exact ⟨false, d', rfl, HP.out, HS.out, fun _ => HF.out, fun h => (by cases h), HB2.out⟩

theorem some_any (A : Option Addr) (len cap : Nat) (d : Nat → Int × Int) (w : World) (hsp : Spans w A len cap d) (hl : len ≤ 60) :
    Calls Try.prog 31 #[.slice A len cap] w fun e w' => e = .returned (.bool (pairB d len)) ∧ Below w.heap.size w w' := by
  refine (someMeet_is A len cap d w hsp hl).mono ?_
  rintro e w' ⟨r, d', rfl, hp, hs, h0, h1, hb⟩
  refine ⟨?_, hb⟩
  rw [← pair_perm hp]
  cases r with
  | true =>
    obtain ⟨i, j, hij, hj, si, sj, hm⟩ := h1 rfl
    have : pairB d' len = true := by
      refine (pairB_iff d' len).2 ⟨j, hj, i, hij, (meets_what _ _).2 ⟨si, sj, ?_, hm⟩⟩
      have := hs i j (by omega) hij hj
      unfold So.le So.lt at this
      unfold isS at si sj
      omega
    rw [this]
  | false =>
    have : pairB d' len = false := (pairB_none d' len).2 fun k hk i hi => by
      rcases Bool.eq_false_or_eq_true (meetsB (d' i) (d' k)) with q | q
      · obtain ⟨s1, s2, _, m⟩ := (meets_what _ _).1 q
        have := h0 rfl i k hi hk s1 s2
        omega
      · exact q
    rw [this]
end Go.Proofs.Ytgineifljofljaa
