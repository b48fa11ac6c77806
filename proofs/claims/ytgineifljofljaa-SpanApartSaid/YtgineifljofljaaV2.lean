/- Do two of some spans meet, and are all spans that do not: the contracts of someMeet and Apart. -/
import Derived.Test.YtgineifljofljaaV1
namespace Go.Proofs.Ytgineifljofljaa
open Go.RowKit Go.Lib Go.Sort
set_option linter.unusedVariables false

/-- What someMeet says: no only if the sorted spans lie one behind the other. -/
def FarV (n : Nat) (d : Nat → Int × Int) (w : World) (e : Ending) (w' : World) : Prop :=
  ∃ (r : Bool) (d' : Nat → Int × Int), e = .returned (.bool r) ∧ So.Perm 0 n d d' ∧ So.Sorted d' 0 n ∧ (r = false → ∀ i j, i < j → j < n → isS (d' i) → isS (d' j) → (d' i).2 ≤ (d' j).1) ∧ Below w.heap.size w w'

set_option maxHeartbeats 1600000 in
theorem someMeet_any (A : Option Addr) (len cap : Nat) (d : Nat → Int × Int) (w : World) (hsp : Spans w A len cap d) (hl : len ≤ 60) :
    Calls Try.prog 31 #[.slice A len cap] w (FarV len d w) := by
  have hso := sorted_any A len cap d w hsp (by omega) (stable_ok len hl)
  have HSO := Lib.hid hso
  clear hso hsp
  go_enter Try.func31, Try.ntmps31
  go_wp2_with fail
  refine HSO.out.mono ?_
  rintro e w1 ⟨v, d', rfl, hv, hp, hs, hb⟩
  have HP := Lib.hid hp
  have HS := Lib.hid hs
  have HB := Lib.hid hb
  clear hp hs hb HSO
  rcases hv with ⟨rfl, rfl⟩ | ⟨g, cap1, rfl, hgB, hrow⟩
  · go_wp2
    refine wp_loop_rounds 1 ?_
    rw [rounds_succ]
    go_wp2
    go_ret
    exact ⟨_, d', rfl, HP.out, HS.out, fun _ i j h1 h2 => (by omega), HB.out⟩
  · go_wp2
    go_loopw [3, 9] (fun x y wr => ∃ (k : Nat) (t : Int), y = .int .i64 k ∧ x = .int .i64 t ∧ k ≤ len ∧ Hid (∀ i, i < k → isS (d' i) → (d' i).2 ≤ t) ∧ Hid (∀ i j, i < j → j < k → isS (d' i) → isS (d' j) → (d' i).2 ≤ (d' j).1) ∧ RowS wr g len cap1 d' ∧ Below w.heap.size w wr) (fun _ y _ => len - (intOf y).toNat)
    case atStart => exact ⟨0, 0, rfl, rfl, by omega, Lib.hid (by omega), Lib.hid (by omega), hrow, HB.out⟩
    case round =>
      obtain ⟨k, t, rfl, rfl, hk, HE, HF, hrow2, hb2⟩ := hrel
      have HROW := Lib.hid hrow2
      have HB2 := Lib.hid hb2
      clear hrow2 hb2 hrow HB
      by_cases hkl : k < len
      · have c0 := HROW.out.fst hkl
        have c1 := HROW.out.snd hkl
        obtain ⟨s, hs⟩ : ∃ s, s = d' k := ⟨_, rfl⟩
        rw [← hs] at c0 c1
        have HSK := Lib.hid hs
        clear hs
        obtain ⟨p, q⟩ := s
        simp only at c0 c1
        by_cases hi : isS (p, q)
        · by_cases hlt : p < t
          · go_wp2_with (go_at_call 13; refine (is_yes (p, q) _ hi.1 hi.2).mono ?_; rintro e w2 ⟨rfl, g2⟩; have hblk := (Blk.new wr 23 #[.int .i64 p, .int .i64 q]).only g2 (by simp); have e0 := hblk.cell 0; have e1 := hblk.cell 1; simp at e0 e1; have G3 := Lib.hid (only_trans (only_alloc (only_refl _ _) _) g2 : wr.grownBy w2 none); have HROW2 := Lib.hid (HROW.out.only G3.out (by simp)); have HB3 := Lib.hid (HB2.out.trans (below_of_only G3.out HB2.out.size (by simp))); clear hblk g2)
            go_ret
            exact ⟨true, d', rfl, HP.out, HS.out, fun h => (by cases h), HB3.out⟩
          · go_wp2_with (go_at_call 13; refine (is_yes (p, q) _ hi.1 hi.2).mono ?_; rintro e w2 ⟨rfl, g2⟩; have hblk := (Blk.new wr 23 #[.int .i64 p, .int .i64 q]).only g2 (by simp); have e0 := hblk.cell 0; have e1 := hblk.cell 1; simp at e0 e1; have G3 := Lib.hid (only_trans (only_alloc (only_refl _ _) _) g2 : wr.grownBy w2 none); have HROW2 := Lib.hid (HROW.out.only G3.out (by simp)); have HB3 := Lib.hid (HB2.out.trans (below_of_only G3.out HB2.out.size (by simp))); clear hblk g2)
            go_roundw
            case rel =>
              have hsk := HSK.out
              have h1 : (d' k).1 = p := by rw [← hsk]
              have h2 : (d' k).2 = q := by rw [← hsk]
              unfold isS at hi
              simp only at hi
              refine ⟨k + 1, q, by go_num, rfl, by omega, Lib.hid fun i h3 h4 => ?_, Lib.hid fun i j h3 h4 h5 h6 => ?_, HROW2.out, HB3.out⟩
              · by_cases e : i = k
                · subst e; omega
                · have := HE.out i (by omega) h4; omega
              · by_cases e : j = k
                · subst e; have := HE.out i h3 h5; omega
                · exact HF.out i j h3 (by omega) h5 h6
            case measure => simp [intOf] <;> omega
        · go_wp2_with (go_at_call 13; refine (is_no (p, q) _ hi).mono ?_; rintro e w2 ⟨rfl, g2⟩)
          go_roundw
          case rel =>
            have g3 : wr.grownBy w2 none := only_trans (only_alloc (only_refl _ _) _) g2
            have hno : ¬ isS (d' k) := by rw [← HSK.out]; exact hi
            refine ⟨k + 1, t, by go_num, rfl, by omega, Lib.hid fun i h3 h4 => ?_, Lib.hid fun i j h3 h4 h5 h6 => ?_, HROW.out.only g3 (by simp), HB2.out.trans (below_of_only g3 HB2.out.size (by simp))⟩
            · by_cases e : i = k
              · subst e; exact absurd h4 hno
              · exact HE.out i (by omega) h4
            · by_cases e : j = k
              · subst e; exact absurd h6 hno
              · exact HF.out i j h3 (by omega) h5 h6
          case measure => simp [intOf] <;> omega
      · obtain rfl : k = len := by omega
        go_wp2
        go_ret
        exact ⟨false, d', rfl, HP.out, HS.out, fun _ => HF.out, HB2.out⟩
end Go.Proofs.Ytgineifljofljaa
