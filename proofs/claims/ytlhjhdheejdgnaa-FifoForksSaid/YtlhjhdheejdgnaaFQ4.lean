/- The walk of the law that counts what came, went and was dropped. -/
import Derived.Test.YtlhjhdheejdgnaaFQ3
namespace Go.Proofs.Ytlhjhdheejdgnaa
open Go.RowKit Go.Lib
set_option linter.unusedVariables false

/-- Deeds that came in: the slice's cells, three a deed. -/
def DeedsQ (w : World) (A : Option Addr) (len : Nat) : Prop :=
  0 < len → ∃ b off, A = some ⟨b, off, none⟩ ∧ b < w.heap.size ∧ ∀ i, i < len → ∃ (d n : Int) (t : ByteArray), w.cell? ⟨b, off + i * 3, none⟩ = some (.int .i64 d) ∧ w.cell? ⟨b, off + i * 3 + 1, none⟩ = some (.int .i64 n) ∧ w.cell? ⟨b, off + i * 3 + 2, none⟩ = some (.string t)
theorem DeedsQ.below {w w' : World} {B : Nat} {A : Option Addr} {len : Nat} (h : DeedsQ w A len) (hb : Below B w w') (hB : w.heap.size ≤ B) : DeedsQ w' A len := fun h0 => by
  obtain ⟨b, off, hA, hlt, hc⟩ := h h0
  refine ⟨b, off, hA, Nat.lt_of_lt_of_le hlt hb.size, fun i hi => ?_⟩
  obtain ⟨d, n, t, c0, c1, c2⟩ := hc i hi
  exact ⟨d, n, t, (hb.cell (p := ⟨b, off + i * 3, none⟩) (Nat.lt_of_lt_of_le hlt hB)).trans c0, (hb.cell (p := ⟨b, off + i * 3 + 1, none⟩) (Nat.lt_of_lt_of_le hlt hB)).trans c1, (hb.cell (p := ⟨b, off + i * 3 + 2, none⟩) (Nat.lt_of_lt_of_le hlt hB)).trans c2⟩

theorem one_push {l : List Value} (h : ∀ u ∈ l, u.oneCell' = true) (x : ByteArray) : ∀ u ∈ l ++ [.string x], u.oneCell' = true := by
  intro u hu
  rcases List.mem_append.1 hu with hu | hu
  · exact h u hu
  · simp at hu
    subst hu
    rfl

/-- A queue of strings as the law on counts holds it. -/
def QueC (w : World) (B b : Nat) (lim : Nat) (n : Nat) (dr : Nat) : Prop := ∃ l, QueB w B b 51 l lim dr ∧ (∀ u ∈ l, u.oneCell' = true) ∧ l.length = n ∧ n ≤ lim

theorem cpush_any (w : World) (B b lim n dr : Nat) (x : ByteArray) (h : QueC w B b lim n dr) (hn : n ≤ 1000) (hd : dr ≤ 1000) :
    Calls Try.prog 16 #[.pointer (some ⟨b, 0, none⟩), .string x] w fun e w' => ∃ r n' dr', e = .returned (.bool r) ∧ QueC w' B b lim n' dr' ∧ Below B w w' ∧ n' + dr' = n + dr + 1 := by
  obtain ⟨l, ⟨v, h2, h3, h4⟩, h5, rfl, h6⟩ := h
  by_cases hl : l.length < lim
  · exact (fpush_on x h2 h5 hl (by omega)).mono fun e w' k => ⟨true, l.length + 1, dr, k.1, ⟨_, (QueN.next h3 h4 k.2).1, one_push h5 x, by simp, by omega⟩, (QueN.next h3 h4 k.2).2, by omega⟩
  · exact (fpush_off (.string x) h2 (by omega) (by omega)).mono fun e w' k => ⟨false, l.length, dr + 1, k.1, ⟨l, (QueN.next h3 h4 k.2).1, h5, rfl, h6⟩, (QueN.next h3 h4 k.2).2, by omega⟩
theorem ctake_any (w : World) (B b lim n dr : Nat) (x : Int) (h : QueC w B b lim n dr) (hn : n ≤ 1000) :
    Calls Try.prog 17 #[.pointer (some ⟨b, 0, none⟩), .int .i64 x] w fun e w' => ∃ A m c n', e = .returned (.slice A m c) ∧ QueC w' B b lim n' dr ∧ Below B w w' ∧ n = m + n' := by
  obtain ⟨l, ⟨v, h2, h3, h4⟩, h5, rfl, h6⟩ := h
  refine (ftake_any x h2 h5 (by omega)).mono fun e w' k => ?_
  obtain ⟨out, k1, k2, k3, k4⟩ := k
  obtain ⟨A, c, rfl⟩ := k2.form
  have hk : takeN x l.length ≤ l.length := by unfold takeN; omega
  exact ⟨A, _, c, (l.drop (takeN x l.length)).length, k1, ⟨_, (QueN.next h3 h4 k4).1, fun u hu => h5 u (List.mem_of_mem_drop hu), rfl, by simp; omega⟩, (QueN.next h3 h4 k4).2, by simp; omega⟩
theorem clen_any (w : World) (B b lim n dr : Nat) (h : QueC w B b lim n dr) : Calls Try.prog 10 #[.pointer (some ⟨b, 0, none⟩)] w fun e w' => e = .returned (.int .i64 n) ∧ w = w' := by
  obtain ⟨l, ⟨v, h2, h3, h4⟩, h5, rfl, h6⟩ := h
  exact flen_any h2
theorem cdrops_any (w : World) (B b lim n dr : Nat) (h : QueC w B b lim n dr) : Calls Try.prog 11 #[.pointer (some ⟨b, 0, none⟩)] w fun e w' => e = .returned (.int .i64 dr) ∧ w = w' := by
  obtain ⟨l, ⟨v, h2, h3, h4⟩, h5, rfl, h6⟩ := h
  exact fdrops_any h2

theorem ret_true {b : Bool} (h : b = true) : Ending.returned (.bool b) = .returned (.bool true) := by rw [h]

theorem counts_walk (n : Int) (A : Option Addr) (len cap : Nat) (w : World) (hl : len ≤ 9223372036854775807) (hst : DeedsQ w A len) :
    Calls Try.prog 4 #[.int .i64 n, .slice A len cap] w fun e w' => e = .returned (.bool true) ∧ Below w.heap.size w w' := by
  have hn := fnew_any n w
  have q0 : QueC (w.alloc (.cells #[.slice none 0 0, .int .i64 (limQ n), .int .i64 0] 51)) w.heap.size w.heap.size (limQ n) 0 0 := ⟨[], QueB.new w _ _, by simp, rfl, by omega⟩
  have b0 : Below w.heap.size w (w.alloc (.cells #[.slice none 0 0, .int .i64 (limQ n), .int .i64 0] 51)) := (Below.refl _ _).alloc (Nat.le_refl _) _
  have hlim : ((limQ n : Nat) : Int) ≤ max n 0 := by unfold limQ; omega
  have hdd : ∀ w', Below w.heap.size w w' → DeedsQ w' A len := fun w' hb => hst.below hb (Nat.le_refl _)
  have hlt : ∀ b off, A = some ⟨b, off, none⟩ → 0 < len → b < w.heap.size := fun b off hA h0 => by
    obtain ⟨b', off', hA', hb', _⟩ := hst h0
    rw [hA] at hA'
    injection hA' with hA'
    injection hA' with e1 _ _
    omega
  have hB0 : w.heap.size ≤ w.heap.size := Nat.le_refl _
  generalize w.alloc (.cells #[.slice none 0 0, .int .i64 (limQ n), .int .i64 0] 51) = w0 at *
  generalize limQ n = lim at *
  obtain ⟨B, hB⟩ : ∃ B, B = w.heap.size := ⟨_, rfl⟩
  rw [← hB] at hn q0 b0 hdd ⊢
  have HBW := Lib.hid hB
  have HN := Lib.hid hn
  have HDD := Lib.hid hdd
  have HLM := Lib.hid hlim
  have Q0 := Lib.hid q0
  have B0 := Lib.hid b0
  clear hst hlim q0 b0 hB0 hB hn hdd hlt
  have HL := Lib.hid (fun w => live7_any w)
  go_enter Try.func4, Try.ntmps4
  go_wp2_with (go_at_call 7; refine HN.out.mono ?_; rintro e w' ⟨rfl, rfl⟩)
  go_loopw [6, 7, 8] (fun c g k wr => ∃ (x y i m dr : Nat), c = .int .i64 x ∧ g = .int .i64 y ∧ k = .int .i64 i ∧ i ≤ len ∧ i ≤ 80 ∧ y + m + dr ≤ i + y ∧ x ≤ i ∧ y ≤ i ∧ x = y + m + dr ∧ Hid (QueC wr B B lim m dr) ∧ Hid (Below B w wr)) (fun _ _ k _ => (80 - intOf k).toNat)
  case atStart => exact ⟨0, 0, 0, 0, 0, rfl, rfl, rfl, by omega, by omega, by omega, by omega, by omega, by omega, Q0, B0⟩
  case round =>
    obtain ⟨x, y, i, m, dr, rfl, rfl, rfl, hi, hi8, hs1, hs2, hs3, hs4, HQ, HB⟩ := hrel
    have fin : i = len ∨ i = 80 → Calls Try.prog 14 #[] wr (fun e w' => e = .returned (.bool true) ∧ (QueC w' B B lim m dr ∧ Below B w w')) := fun _ => by
      refine (HL.out wr).mono fun e w' k => ⟨k.1, ?_, HB.out.trans (k.2.mono (by have := HB.out.size; have := HBW.out; omega))⟩
      obtain ⟨l, hq, hr⟩ := HQ.out
      exact ⟨l, hq.below k.2, hr⟩
    have FIN := Lib.hid fin
    have CL := Lib.hid (fun w q => clen_any w B B lim m dr q)
    have CD := Lib.hid (fun w q => cdrops_any w B B lim m dr q)
    have hmx : (m : Int) ≤ max n 0 := by
      obtain ⟨l, _, _, _, hr⟩ := HQ.out
      have := HLM.out
      omega
    clear fin
    by_cases h8 : i < len
    · by_cases h80 : i < 80
      · obtain ⟨b, off, rfl, hbl, hc⟩ := HDD.out wr HB.out (by omega)
        obtain ⟨d, q, t, c0, c1, c2⟩ := hc i h8
        have h8' : (i : Int) < (len : Int) := by omega
        have h80' : (i : Int) < 80 := by omega
        clear hc
        by_cases hd : d = 0
        · subst hd
          have HP := Lib.hid (cpush_any wr B B lim m dr t HQ.out (by omega) (by omega))
          clear hmx
          go_wp2_with (go_at_call 16; refine HP.out.mono ?_; rintro e w1 ⟨r, n', dr', rfl, q1, b1, s1⟩; have Q1 := Lib.hid q1; have B1 := Lib.hid (HB.out.trans b1); clear q1 b1)
          go_round
          case rel => exact ⟨x + 1, y, i + 1, n', dr', by go_num, by go_num, by go_num, by omega, by omega, by omega, by omega, by omega, by omega, Q1, B1⟩
          case measure => simp [intOf]; omega
        · have hd' : (d == 0) = false := beq_eq_false_iff_ne.2 hd
          have HP := Lib.hid (ctake_any wr B B lim m dr q HQ.out (by omega))
          clear hmx
          go_wp2_with (go_at_call 17; refine HP.out.mono ?_; rintro e w1 ⟨A1, m1, c1', n', rfl, q1, b1, s1⟩; have Q1 := Lib.hid q1; have B1 := Lib.hid (HB.out.trans b1); clear q1 b1)
          go_round
          case rel => exact ⟨x, y + m1, i + 1, n', dr, by go_num, by go_num, by go_num, by omega, by omega, by omega, by omega, by omega, by omega, Q1, B1⟩
          case measure => simp [intOf]; omega
      · obtain rfl : i = 80 := by omega
        have FIN2 := Lib.hid (FIN.out (.inr rfl))
        have h8' : (80 : Int) < (len : Int) := by omega
        have hx : (x : Int) = (y : Int) + (m : Int) + (dr : Int) := by omega
        go_wp2_with (first | (go_at_call 14; refine FIN2.out.mono ?_; rintro e w1 ⟨rfl, q1, b1⟩; have Q1 := Lib.hid q1) | (go_at_call 10; refine (CL.out _ Q1.out).mono ?_; rintro e w' ⟨rfl, rfl⟩) | (go_at_call 11; refine (CD.out _ Q1.out).mono ?_; rintro e w' ⟨rfl, rfl⟩))
        all_goals
          go_ret
          exact ⟨ret_true (decide_eq_true (by omega)), b1⟩
    · obtain rfl : i = len := by omega
      have FIN2 := Lib.hid (FIN.out (.inl rfl))
      have hx : (x : Int) = (y : Int) + (m : Int) + (dr : Int) := by omega
      go_wp2_with (first | (go_at_call 14; refine FIN2.out.mono ?_; rintro e w1 ⟨rfl, q1, b1⟩; have Q1 := Lib.hid q1) | (go_at_call 10; refine (CL.out _ Q1.out).mono ?_; rintro e w' ⟨rfl, rfl⟩) | (go_at_call 11; refine (CD.out _ Q1.out).mono ?_; rintro e w' ⟨rfl, rfl⟩))
      all_goals
        go_ret
        exact ⟨ret_true (decide_eq_true (by omega)), b1⟩
end Go.Proofs.Ytlhjhdheejdgnaa
