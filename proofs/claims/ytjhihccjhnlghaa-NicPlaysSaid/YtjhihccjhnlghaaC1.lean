/- The check of sixteen bits: Step and Sum, and the document's, each by its contract. -/
import Derived.Test.YtjhihccjhnlghaaC0
import Derived.Test.YtjhihccjhnlghaaB1
namespace Go.Proofs.Ytjhihccjhnlghaa
open Go.RowKit Go.Lib
set_option linter.unusedVariables false

theorem push_any (x b : Nat) (w : World) (hx : x < 65536) (hb : b < 2) : Calls Try.prog 68 #[.int .i64 x, .int .i64 b] w fun e w' => e = .returned (.int .i64 (Cr.push x b)) ∧ w = w' := by
  have E1 : Hid (((x : Int) * 2) % 65536 = ((x * 2 % 65536 : Nat) : Int)) := by unfold Hid; omega
  by_cases h : (x : Int) / 32768 = (b : Int)
  · have hp : Cr.push x b = x * 2 % 65536 := by
      rw [Cr.push, if_pos (by omega)]
      simp
    have h' : ((x : Int) / 32768 != (b : Int)) = false := by simp [h]
    have HP := Lib.hid hp
    clear hp h
    go_enter Try.func68, Try.ntmps68
    go_wp2
    go_ret
    exact ⟨ret_int (by rw [HP.out, ← E1.out]), rfl⟩
  · have hp : Cr.push x b = x * 2 % 65536 ^^^ 4129 := by rw [Cr.push, if_neg (by omega)]
    have h' : ((x : Int) / 32768 != (b : Int)) = true := by simp [h]
    have HP := Lib.hid hp
    clear hp h
    go_enter Try.func68, Try.ntmps68
    go_wp2
    go_ret
    exact ⟨ret_int (by rw [HP.out, E1.out]; exact Cr.xorN _ 4129 (by omega) (by omega)), rfl⟩

theorem bit_any (b i : Nat) (w : World) (hb : b < 256) (hi : i < 8) : Calls Try.prog 69 #[.int .u8 b, .int .i64 i] w fun e w' => e = .returned (.int .i64 (Cr.bitOf b i)) ∧ w = w' := by
  have hw : wrap64 (b : Int) = (b : Int) := IntWalk.wrap64_in _ ⟨by omega, by omega⟩
  go_enter Try.func69, Try.ntmps69
  go_wp2
  go_loop [5, 6] (fun n k => ∃ (d m : Nat), n = .int .i64 m ∧ k = .int .i64 ((7 - d : Nat) : Int) ∧ d + i ≤ 7 ∧ m < 256 ∧ Hid (m = b / 2 ^ d)) (fun _ k => (intOf k).toNat)
  case atStart => exact ⟨0, b, by go_num, by go_num, by omega, by omega, by unfold Hid; simp⟩
  case round =>
    obtain ⟨d, m, rfl, rfl, hd, hm, H⟩ := hrel
    by_cases h : d + i = 7
    · have h2 : ((7 - d : Nat) : Int) ≤ (i : Int) := by omega
      have e : ((m : Int) % 2) = ((Cr.bitOf b i : Nat) : Int) := by
        have h3 : d = 7 - i := by omega
        have := H.out
        rw [Cr.bitOf, ← h3, ← this]
        omega
      have E := Lib.hid e
      clear e
      go_wp2
      go_ret
      exact ⟨ret_int E.out, rfl⟩
    · have h2 : (i : Int) < ((7 - d : Nat) : Int) := by omega
      go_wp2
      go_round
      case rel =>
        refine ⟨d + 1, m / 2, by go_num, by go_num, by omega, by omega, ?_⟩
        have := H.out
        unfold Hid
        rw [this, Nat.pow_succ, Nat.div_div_eq_div_mul]
      case measure => simp [intOf]; omega

theorem step_any (n : Int) (b : Nat) (w : World) (hb : b < 256) : Calls Try.prog 67 #[.int .i64 n, .int .i64 b] w fun e w' => e = .returned (.int .i64 (Cr.step (n % 65536).toNat b)) ∧ w = w' := by
  have ha := Cr.and65535 n
  have h0 : 0 ≤ n % 65536 := by omega
  have h1 : n % 65536 < 65536 := by omega
  go_enter Try.func67, Try.ntmps67
  go_wp2
  go_loop [0, 9] (fun s k => ∃ (x i : Nat), s = .int .i64 x ∧ k = .int .i64 i ∧ i ≤ 8 ∧ x < 65536 ∧ Hid (x = Cr.feed (n % 65536).toNat (Cr.bitsTo b i))) (fun _ k => (8 - intOf k).toNat)
  case atStart => exact ⟨(n % 65536).toNat, 0, by rw [Int.toNat_of_nonneg h0], rfl, by omega, by omega, by unfold Hid; simp [Cr.feed, Cr.bitsTo]⟩
  case round =>
    obtain ⟨x, i, rfl, rfl, hi, hx, H⟩ := hrel
    clear ha h0 h1
    by_cases h8 : i < 8
    · have u := Cr.unlike x b (7 - i) hx hb
      have r := Cr.round_is x b (7 - i) hx
      have hn : Cr.push x (b / 2 ^ (7 - i) % 2) = Cr.feed (n % 65536).toNat (Cr.bitsTo b (i + 1)) := by
        rw [Cr.feed_succ, ← H.out]
        rfl
      have hl := Cr.push_lt x (b / 2 ^ (7 - i) % 2)
      have hz : ((7 : Int) - i).toNat = 7 - i := by omega
      generalize hu : (if x / 32768 = b / 2 ^ (7 - i) % 2 then 0 else 1 : Nat) = v at u r
      have hv : v ≤ 1 := by rw [← hu]; split <;> omega
      clear hu
      generalize Cr.push x (b / 2 ^ (7 - i) % 2) = y at hn r hl
      have HN := Lib.hid hn
      clear hn H
      go_wp2
      go_round
      case rel =>
        exact ⟨y, i + 1, by go_num, by go_num, by omega, hl, HN⟩
      case measure => simp [intOf]; omega
    · obtain rfl : i = 8 := by omega
      go_wp2
      go_ret
      exact ⟨ret_int (by rw [H.out]; rfl), rfl⟩

/-- The first bytes of a text. -/
def pre (s : ByteArray) (i : Nat) : List UInt8 := s.data.toList.take i

theorem pre_succ (s : ByteArray) (i : Nat) (h : i < s.size) : pre s (i + 1) = pre s i ++ [s[i]] := by
  have h' : i < s.data.toList.length := by simpa using h
  rw [pre, List.take_succ_eq_append_getElem h']
  rfl
theorem pre_all (s : ByteArray) : pre s s.size = s.data.toList := by
  rw [pre, List.take_of_length_le (by simp)]
/-- A byte at a place, as a number. -/
theorem byte_lt (x : UInt8) : x.toNat < 256 := by have := x.toNat_lt; omega

theorem sum_any (s : ByteArray) (w : World) (hs : s.size ≤ 1000) : Calls Try.prog 58 #[.string s] w fun e w' => e = .returned (.int .i64 (Cr.from' 65535 s.data.toList)) ∧ w = w' := by
  go_enter Try.func58, Try.ntmps58
  go_wp2
  go_loop [3, 7] (fun n k => ∃ (x i : Nat), n = .int .i64 x ∧ k = .int .i64 i ∧ i ≤ s.size ∧ x < 65536 ∧ Hid (x = Cr.from' 65535 (pre s i))) (fun _ k => (s.size - intOf k).toNat)
  case atStart => exact ⟨65535, 0, rfl, rfl, by omega, by omega, by unfold Hid; simp [Cr.from', pre]⟩
  case round =>
    obtain ⟨x, i, rfl, rfl, hi, hx, H⟩ := hrel
    by_cases h8 : i < s.size
    · have hb := byte_lt s[i]
      have hw : wrap64 (s[i].toNat : Int) = (s[i].toNat : Int) := w64_byte _
      have hn : Cr.step ((x : Int) % 65536).toNat s[i].toNat = Cr.from' 65535 (pre s (i + 1)) := by
        have : ((x : Int) % 65536).toNat = x := by omega
        rw [this, pre_succ s i h8, Cr.from_snoc, ← H.out]
      have hl : Cr.step ((x : Int) % 65536).toNat s[i].toNat < 65536 := Cr.step_lt _ _ (by omega)
      have HS := fun w => step_any (x : Int) s[i].toNat w hb
      generalize Cr.step ((x : Int) % 65536).toNat s[i].toNat = y at hn hl HS
      have HS := Lib.hid HS
      have HN := Lib.hid hn
      clear hn H
      go_wp2_with (go_at_call 67; refine (HS.out _).mono ?_; rintro e w' ⟨rfl, rfl⟩)
      go_round
      case rel => exact ⟨y, i + 1, by go_num, by go_num, by omega, hl, HN⟩
      case measure => simp [intOf]; omega
    · obtain rfl : i = s.size := by omega
      go_wp2
      go_ret
      exact ⟨ret_int (by rw [H.out, pre_all]), rfl⟩

theorem from_any (n : Int) (s : ByteArray) (w : World) (hs : s.size ≤ 1000) (hn0 : 0 ≤ n) (hn1 : n < 65536) : Calls Try.prog 62 #[.int .i64 n, .string s] w fun e w' => e = .returned (.int .i64 (Cr.from' n.toNat s.data.toList)) ∧ w = w' := by
  go_enter Try.func62, Try.ntmps62
  go_wp2
  go_loop [0, 5] (fun n1 k => ∃ (x i : Nat), n1 = .int .i64 x ∧ k = .int .i64 i ∧ i ≤ s.size ∧ x < 65536 ∧ Hid (x = Cr.from' n.toNat (pre s i))) (fun _ k => (s.size - intOf k).toNat)
  case atStart => exact ⟨n.toNat, 0, by rw [Int.toNat_of_nonneg hn0], rfl, by omega, by omega, by unfold Hid; simp [Cr.from', pre]⟩
  case round =>
    obtain ⟨x, i, rfl, rfl, hi, hx, H⟩ := hrel
    by_cases h8 : i < s.size
    · have hb := byte_lt s[i]
      have hi' : (i : Int) < (s.size : Int) := by omega
      go_wp2
      go_loop [0, 6] (fun n2 k => ∃ (y j : Nat), n2 = .int .i64 y ∧ k = .int .i64 j ∧ j ≤ 8 ∧ y < 65536 ∧ Hid (y = Cr.feed x (Cr.bitsTo s[i].toNat j))) (fun _ k => (8 - intOf k).toNat)
      case atStart => exact ⟨x, 0, rfl, rfl, by omega, by omega, by unfold Hid; simp [Cr.feed, Cr.bitsTo]⟩
      case round =>
        obtain ⟨y, j, rfl, rfl, hj, hy, HY⟩ := hrel
        by_cases h9 : j < 8
        · have hn : Cr.push y (Cr.bitOf s[i].toNat j) = Cr.feed x (Cr.bitsTo s[i].toNat (j + 1)) := by rw [Cr.feed_succ, ← HY.out]
          have hl := Cr.push_lt y (Cr.bitOf s[i].toNat j)
          have h2 : Cr.bitOf s[i].toNat j < 2 := by unfold Cr.bitOf; omega
          have HB := fun w => bit_any s[i].toNat j w hb h9
          have HP := fun w => push_any y (Cr.bitOf s[i].toNat j) w hy h2
          generalize Cr.bitOf s[i].toNat j = bt at hn hl h2 HB HP
          generalize Cr.push y bt = z at hn hl HP
          have HN := Lib.hid hn
          have HB := Lib.hid HB
          have HP := Lib.hid HP
          clear hn H HY
          go_wp2_with (first | (go_at_call 69; refine (HB.out _).mono ?_; rintro e w' ⟨rfl, rfl⟩) | (go_at_call 68; refine (HP.out _).mono ?_; rintro e w' ⟨rfl, rfl⟩))
          go_round
          case rel => exact ⟨z, j + 1, by go_num, by go_num, by omega, hl, HN⟩
          case measure => simp [intOf]; omega
        · obtain rfl : j = 8 := by omega
          have hn : y = Cr.from' n.toNat (pre s (i + 1)) := by rw [pre_succ s i h8, Cr.from_snoc, ← H.out, HY.out]; rfl
          have HN := Lib.hid hn
          clear hn H HY
          go_wp2
          go_round
          case rel => exact ⟨y, i + 1, by go_num, by go_num, by omega, hy, HN⟩
          case measure => simp [intOf]; omega
    · obtain rfl : i = s.size := by omega
      go_wp2
      go_ret
      exact ⟨ret_int (by rw [H.out, pre_all]), rfl⟩

theorem rsum_any (s : ByteArray) (w : World) (hs : s.size ≤ 1000) : Calls Try.prog 56 #[.string s] w fun e w' => e = .returned (.int .i64 (Cr.from' 65535 s.data.toList)) ∧ w = w' := by
  have HF := Lib.hid (fun w => from_any 65535 s w hs (by omega) (by omega))
  go_enter Try.func56, Try.ntmps56
  go_wp2_with (go_at_call 62; refine (HF.out _).mono ?_; rintro e w' ⟨rfl, rfl⟩)
  go_ret
  exact ⟨rfl, rfl⟩

end Go.Proofs.Ytjhihccjhnlghaa
