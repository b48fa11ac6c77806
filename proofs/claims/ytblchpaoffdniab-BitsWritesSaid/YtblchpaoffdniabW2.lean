/- What steps write, by the document's answer: its contract. -/
import Derived.Test.YtblchpaoffdniabW1
import Derived.Test.YtblchpaoffdniabBR
namespace Go.Proofs.Ytblchpaoffdniab
open Go.RowKit Go.Lib
set_option linter.unusedVariables false

def StepsF (w : World) (A : Option Addr) (len : Nat) (D N : Nat → Int) (T : Nat → ByteArray) : Prop :=
  0 < len → ∃ b off, A = some ⟨b, off, none⟩ ∧ b < w.heap.size ∧ ∀ i, i < len → w.cell? ⟨b, off + i * 3, none⟩ = some (.int .i64 (D i)) ∧ w.cell? ⟨b, off + i * 3 + 1, none⟩ = some (.int .i64 (N i)) ∧ w.cell? ⟨b, off + i * 3 + 2, none⟩ = some (.string (T i))

theorem Steps.fns {w : World} {A : Option Addr} {len : Nat} (h : Steps w A len) : ∃ D N T, StepsF w A len D N T := by
  by_cases h0 : 0 < len
  · obtain ⟨b, off, hA, hb, hc⟩ := h h0
    refine ⟨fun i => if hi : i < len then (hc i hi).choose else 0, fun i => if hi : i < len then (hc i hi).choose_spec.choose else 0, fun i => if hi : i < len then (hc i hi).choose_spec.choose_spec.choose else .empty, fun _ => ⟨b, off, hA, hb, fun i hi => ?_⟩⟩
    simp only [dif_pos hi]
    exact (hc i hi).choose_spec.choose_spec.choose_spec
  · exact ⟨fun _ => 0, fun _ => 0, fun _ => .empty, fun h => absurd h h0⟩

def wrTo (D N : Nat → Int) (T : Nat → ByteArray) : Nat → Option (List UInt8)
  | 0 => some []
  | k + 1 => wrNext (wrTo D N T k) (D k) (N k) (T k)

section
variable {D N : Nat → Int} {T : Nat → ByteArray}
theorem wrTo_none {k n : Nat} (h : wrTo D N T k = none) (hn : k ≤ n) : wrTo D N T n = none := by
  induction n with
  | zero => obtain rfl : k = 0 := by omega
            exact h
  | succ n ih =>
    by_cases hk : k = n + 1
    · subst hk; exact h
    · show wrNext (wrTo D N T n) _ _ _ = none
      rw [ih (by omega)]
      rfl
theorem stepBytes_len {d n : Int} {t : ByteArray} {x : List UInt8} (h : stepBytes d n t = some x) (ht : t.size ≤ 100) : x.length ≤ 100 := by
  unfold stepBytes at h
  split at h
  · split at h
    · injection h with h; subst h; simp
    · cases h
  · split at h
    · split at h
      · injection h with h; subst h; simp [Bt.put]
      · cases h
    · injection h with h; subst h; simpa using ht
theorem wrTo_len {k : Nat} (ht : ∀ i, i < k → (T i).size ≤ 100) : ∀ {l : List UInt8}, wrTo D N T k = some l → l.length ≤ 100 * k := by
  induction k with
  | zero => intro l h; injection h with h; subst h; simp
  | succ k ih =>
    intro l h
    have h' : wrNext (wrTo D N T k) (D k) (N k) (T k) = some l := h
    cases ho : wrTo D N T k with
    | none => rw [ho] at h'; cases h'
    | some a =>
      rw [ho] at h'
      cases hs : stepBytes (D k) (N k) (T k) with
      | none => simp [wrNext, hs] at h'
      | some x =>
        simp [wrNext, hs] at h'
        subst h'
        have h1 := ih (fun i hi => ht i (by omega)) ho
        have h2 := stepBytes_len hs (ht k (by omega))
        rw [List.length_append]
        omega
/-- Of steps that can all be written: what was written ahead of one, and its own bytes, are the beginning of all. -/
theorem wrTo_part {n : Nat} {l : List UInt8} (h : wrTo D N T n = some l) {k : Nat} (hk : k < n) : ∃ a x r, wrTo D N T k = some a ∧ stepBytes (D k) (N k) (T k) = some x ∧ wrTo D N T (k + 1) = some (a ++ x) ∧ l = a ++ x ++ r := by
  induction n generalizing l with
  | zero => omega
  | succ n ih =>
    have h' : wrNext (wrTo D N T n) (D n) (N n) (T n) = some l := h
    cases ho : wrTo D N T n with
    | none => rw [ho] at h'; cases h'
    | some a =>
      cases hs : stepBytes (D n) (N n) (T n) with
      | none => simp [wrNext, ho, hs] at h'
      | some x =>
        simp [wrNext, ho, hs] at h'
        subst h'
        by_cases hkn : k = n
        · subst hkn
          exact ⟨a, x, [], ho, hs, by show wrNext (wrTo D N T k) _ _ _ = _; simp [wrNext, ho, hs], by simp⟩
        · obtain ⟨a', x', r, h1, h2, h3, h4⟩ := ih ho (by omega)
          exact ⟨a', x', r ++ x, h1, h2, h3, by rw [h4]; simp⟩
end

theorem str_app (l : List UInt8) (x : ByteArray) : (ByteArray.mk l.toArray) ++ x = ⟨(l ++ x.data.toList).toArray⟩ := by
  apply ByteArray.ext
  rw [ByteArray.data_append]
  simp

theorem run_one_byte (x : Int) (W : World) : (convert 43 9 (.slice (some ⟨W.heap.size, 0, none⟩) 1 1)).run Try.prog (W.alloc (.cells #[.int .u8 x] 5)) =
    .ok (.string ⟨#[UInt8.ofNat x.toNat]⟩) (W.alloc (.cells #[.int .u8 x] 5)) := by
  have h := run_convert_bytes_arg (P := Try.prog) (W.alloc (.cells #[.int .u8 x] 5)) 43 5 Try.underlying43 Try.underlying5 W.heap.size 0 1 1 [x] rfl (by
    intro i hi
    match i, hi with
    | 0, _ => simp) 9 Try.underlying9
  rw [h]
  congr 2

set_option maxHeartbeats 1600000 in
theorem write_any (A : Option Addr) (len cap : Nat) (D N : Nat → Int) (T : Nat → ByteArray) (w : World) (hl : len ≤ 40) (hst : StepsF w A len D N T) (ht : ∀ i, i < len → (T i).size ≤ 100) :
    Calls Try.prog 29 #[.slice A len cap] w fun e w' => e = .returned (.tuple #[.string (textFor (wrTo D N T len)), .int .i64 (errOf (wrTo D N T len))]) ∧ Below w.heap.size w w' := by
  have hone := run_one_byte
  have HST := Lib.hid hst
  have HT := Lib.hid ht
  clear hst ht
  go_enter Try.func29, Try.ntmps29
  go_wp2
  go_loopw [4, 5] (fun o i wr => ∃ (k : Nat) (l : List UInt8), i = .int .i64 k ∧ k ≤ len ∧ Hid (wrTo D N T k = some l) ∧ o = .string ⟨l.toArray⟩ ∧ Below w.heap.size w wr) (fun _ i _ => len - (intOf i).toNat)
  case atStart => exact ⟨0, [], rfl, by omega, rfl, rfl, Below.refl _ _⟩
  case round =>
    obtain ⟨k, l, rfl, hk, HW, rfl, hBe⟩ := hrel
    by_cases h1 : k < len
    · obtain ⟨b, off, rfl, hbB, hcells⟩ := HST.out (by omega)
      obtain ⟨c0, c1, c2⟩ := hcells k h1
      have hw0 := (hBe.cell (p := ⟨b, off + k * 3, none⟩) hbB).trans c0
      have hw1 := (hBe.cell (p := ⟨b, off + k * 3 + 1, none⟩) hbB).trans c1
      have hw2 := (hBe.cell (p := ⟨b, off + k * 3 + 2, none⟩) hbB).trans c2
      have hlen := wrTo_len (fun i hi => HT.out i (by omega)) HW.out
      have htk := HT.out k h1
      have hnext : wrTo D N T (k + 1) = wrNext (some l) (D k) (N k) (T k) := by show wrNext (wrTo D N T k) _ _ _ = _; rw [HW.out]
      have hbad : wrTo D N T (k + 1) = none → wrTo D N T len = none := fun h => wrTo_none h (by omega)
      have hxs : (ByteArray.mk l.toArray).size = l.length := by simp [ByteArray.size]
      obtain ⟨X, hX⟩ : ∃ X : ByteArray, X = ⟨l.toArray⟩ := ⟨_, rfl⟩
      rw [← hX] at hxs
      have hxz : X.size ≤ 4000 := by omega
      have HX := Lib.hid hX
      have HNX := Lib.hid hnext
      have HBAD := Lib.hid hbad
      have HBE := Lib.hid hBe
      rw [← hX]
      clear hcells c0 c1 c2 hnext hbad hxs hX hBe
      generalize D k = d at *
      generalize N k = n at *
      generalize T k = t at *
      by_cases hd0 : d = 0
      · subst hd0
        by_cases hn0 : n < 0
        · have hr : wrTo D N T len = none := HBAD.out (by rw [HNX.out]; simp [wrNext, stepBytes]; omega)
          have HR := Lib.hid hr
          clear hr
          go_wp2
          go_ret2
          rw [HR.out]
          exact ⟨rfl, HBE.out.alloc HBE.out.size _⟩
        · by_cases hn1 : 255 < n
          · have hr : wrTo D N T len = none := HBAD.out (by rw [HNX.out]; simp [wrNext, stepBytes]; omega)
            have HR := Lib.hid hr
            clear hr
            go_wp2
            go_ret2
            rw [HR.out]
            exact ⟨rfl, HBE.out.alloc HBE.out.size _⟩
          · have hnx : wrTo D N T (k + 1) = some (l ++ [UInt8.ofNat n.toNat]) := by rw [HNX.out]; simp [wrNext, stepBytes]; omega
            have HN1 := Lib.hid hnx
            have hone : (convert 43 9 (.slice (some ⟨wr.heap.size + 1, 0, none⟩) 1 1)).run Try.prog ((wr.alloc (.cells #[.int .i64 0, .int .i64 n, .string t] 35)).alloc (.cells #[.int .u8 n] 5)) = .ok (.string ⟨#[UInt8.ofNat n.toNat]⟩) ((wr.alloc (.cells #[.int .i64 0, .int .i64 n, .string t] 35)).alloc (.cells #[.int .u8 n] 5)) := by
              have := run_one_byte n (wr.alloc (.cells #[.int .i64 0, .int .i64 n, .string t] 35))
              simpa using this
            clear hnx
            go_wp2
            go_roundw
            case rel => exact ⟨k + 1, _, by go_num, by omega, HN1.out, by rw [HX.out, str_app], (HBE.out.alloc HBE.out.size _).alloc (Nat.le_trans HBE.out.size (by simp)) _⟩
            case measure => simp [intOf]; omega
      · by_cases hd1 : d = 1
        · subst hd1
          by_cases hn0 : n < 0
          · have hr : wrTo D N T len = none := HBAD.out (by rw [HNX.out]; simp [wrNext, stepBytes]; omega)
            have HR := Lib.hid hr
            clear hr
            go_wp2
            go_ret2
            rw [HR.out]
            exact ⟨rfl, HBE.out.alloc HBE.out.size _⟩
          · by_cases hn1 : 65535 < n
            · have hr : wrTo D N T len = none := HBAD.out (by rw [HNX.out]; simp [wrNext, stepBytes]; omega)
              have HR := Lib.hid hr
              clear hr
              go_wp2
              go_ret2
              rw [HR.out]
              exact ⟨rfl, HBE.out.alloc HBE.out.size _⟩
            · have hnx : wrTo D N T (k + 1) = some (l ++ (Bt.put n).data.toList) := by rw [HNX.out]; simp [wrNext, stepBytes]; omega
              have HN1 := Lib.hid hnx
              have hps := put_bytes n
              clear hnx
              go_wp2_with (go_at_call 15; refine (rput_any _ _).mono ?_; rintro e w' ⟨rfl, rfl⟩)
              go_roundw
              case rel => exact ⟨k + 1, _, by go_num, by omega, HN1.out, by rw [HX.out, str_app], (HBE.out.alloc HBE.out.size _).alloc (Nat.le_trans HBE.out.size (by simp)) _⟩
              case measure => simp [intOf]; omega
        · have hnx : wrTo D N T (k + 1) = some (l ++ t.data.toList) := by rw [HNX.out]; simp [wrNext, stepBytes, hd0, hd1]
          have HN1 := Lib.hid hnx
          have hk0 : (d == 0) = false := beq_eq_false_iff_ne.2 hd0
          have hk1 : (d == 1) = false := beq_eq_false_iff_ne.2 hd1
          clear hnx
          go_wp2
          go_roundw
          case rel => exact ⟨k + 1, _, by go_num, by omega, HN1.out, by rw [HX.out, str_app], HBE.out.alloc HBE.out.size _⟩
          case measure => simp [intOf]; omega
    · obtain rfl : k = len := by omega
      have HBE := Lib.hid hBe
      clear hBe
      go_wp2
      go_ret2
      rw [HW.out]
      exact ⟨rfl, HBE.out⟩
end Go.Proofs.Ytblchpaoffdniab
