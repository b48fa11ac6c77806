import Derived.Test.YtjhihccjhnlghaaZG06
import Derived.Lib.QuietBelow
set_option linter.all false
/- The check of sixteen bits: Step and Sum, and the document's, each by its contract. -/
namespace Go.Proofs.Ytjhihccjhnlghaa
open Go.RowKit Go.Lib
set_option linter.unusedVariables false

theorem push_any (x b : Nat) (w : World) (hx : x < 65536) (hb : b < 2) : Calls Try.prog 68 #[.int .i64 x, .int .i64 b] w fun e w' => e = .returned (.int .i64 (Cr.push x b)) ∧ w = w' := by
  have E1 : Hid (((x : Int) * 2) % 65536 = ((x * 2 % 65536 : Nat) : Int)) := by unfold Hid; omega
  by_cases h : (x : Int) / 32768 = (b : Int)
  · have hp : Cr.push x b = x * 2 % 65536 := by
      rw [Cr.push, if_pos (by omega)]
      simp
    have h' : ((x : Int) / 32768 != (b : Int)) = false := by simp [h]
    have HP := Lib.hid hp
    clear hp h
    go_enter Try.func68, Try.ntmps68
    go_wp2
    go_ret
    exact ⟨ret_int (by rw [HP.out, ← E1.out]), rfl⟩
  · have hp : Cr.push x b = x * 2 % 65536 ^^^ 4129 := by rw [Cr.push, if_neg (by omega)]
    have h' : ((x : Int) / 32768 != (b : Int)) = true := by simp [h]
    have HP := Lib.hid hp
    clear hp h
    go_enter Try.func68, Try.ntmps68
    go_wp2
    go_ret
    exact ⟨ret_int (by rw [HP.out, E1.out]; exact Cr.xorN _ 4129 (by omega) (by omega)), rfl⟩

theorem bit_any (b i : Nat) (w : World) (hb : b < 256) (hi : i < 8) : Calls Try.prog 69 #[.int .u8 b, .int .i64 i] w fun e w' => e = .returned (.int .i64 (Cr.bitOf b i)) ∧ w = w' := by
  have hw : wrap64 (b : Int) = (b : Int) := IntWalk.wrap64_in _ ⟨by omega, by omega⟩
  go_enter Try.func69, Try.ntmps69
  go_wp2
  go_loop [5, 6] (fun n k => ∃ (d m : Nat), n = .int .i64 m ∧ k = .int .i64 ((7 - d : Nat) : Int) ∧ d + i ≤ 7 ∧ m < 256 ∧ Hid (m = b / 2 ^ d)) (fun _ k => (intOf k).toNat)
  case atStart => exact ⟨0, b, by go_num, by go_num, by omega, by omega, by unfold Hid; simp⟩
  case round =>
    obtain ⟨d, m, rfl, rfl, hd, hm, H⟩ := hrel
    by_cases h : d + i = 7
    · have h2 : ((7 - d : Nat) : Int) ≤ (i : Int) := by omega
      have e : ((m : Int) % 2) = ((Cr.bitOf b i : Nat) : Int) := by
        have h3 : d = 7 - i := by omega
        have := H.out
        rw [Cr.bitOf, ← h3, ← this]
        omega
      have E := Lib.hid e
      clear e
      go_wp2
      go_ret
      exact ⟨ret_int E.out, rfl⟩
    · have h2 : (i : Int) < ((7 - d : Nat) : Int) := by omega
      go_wp2
      go_round
      case rel =>
        refine ⟨d + 1, m / 2, by go_num, by go_num, by omega, by omega, ?_⟩
        have := H.out
        unfold Hid
        rw [this, Nat.pow_succ, Nat.div_div_eq_div_mul]
      case measure => simp [intOf]; omega

theorem step_any (n : Int) (b : Nat) (w : World) (hb : b < 256) : Calls Try.prog 67 #[.int .i64 n, .int .i64 b] w fun e w' => e = .returned (.int .i64 (Cr.step (n % 65536).toNat b)) ∧ w = w' := by
  have ha := Cr.and65535 n
  have h0 : 0 ≤ n % 65536 := by omega
  have h1 : n % 65536 < 65536 := by omega
  go_enter Try.func67, Try.ntmps67
  go_wp2
  go_loop [0, 9] (fun s k => ∃ (x i : Nat), s = .int .i64 x ∧ k = .int .i64 i ∧ i ≤ 8 ∧ x < 65536 ∧ Hid (x = Cr.feed (n % 65536).toNat (Cr.bitsTo b i))) (fun _ k => (8 - intOf k).toNat)
  case atStart => exact ⟨(n % 65536).toNat, 0, by rw [Int.toNat_of_nonneg h0], rfl, by omega, by omega, by unfold Hid; simp [Cr.feed, Cr.bitsTo]⟩
  case round =>
    obtain ⟨x, i, rfl, rfl, hi, hx, H⟩ := hrel
    clear ha h0 h1
    by_cases h8 : i < 8
    · have u := Cr.unlike x b (7 - i) hx hb
      have r := Cr.round_is x b (7 - i) hx
      have hn : Cr.push x (b / 2 ^ (7 - i) % 2) = Cr.feed (n % 65536).toNat (Cr.bitsTo b (i + 1)) := by
        rw [Cr.feed_succ, ← H.out]
        rfl
      have hl := Cr.push_lt x (b / 2 ^ (7 - i) % 2)
      have hz : ((7 : Int) - i).toNat = 7 - i := by omega
      generalize hu : (if x / 32768 = b / 2 ^ (7 - i) % 2 then 0 else 1 : Nat) = v at u r
      have hv : v ≤ 1 := by rw [← hu]; split <;> omega
      clear hu
      generalize Cr.push x (b / 2 ^ (7 - i) % 2) = y at hn r hl
      have HN := Lib.hid hn
      clear hn H
      go_wp2
      go_round
      case rel =>
        exact ⟨y, i + 1, by go_num, by go_num, by omega, hl, HN⟩
      case measure => simp [intOf]; omega
    · obtain rfl : i = 8 := by omega
      go_wp2
      go_ret
      exact ⟨ret_int (by rw [H.out]; rfl), rfl⟩

/-- The first bytes of a text. -/
def pre (s : ByteArray) (i : Nat) : List UInt8 := s.data.toList.take i

theorem pre_succ (s : ByteArray) (i : Nat) (h : i < s.size) : pre s (i + 1) = pre s i ++ [s[i]] := by
  have h' : i < s.data.toList.length := by simpa using h
  rw [pre, List.take_succ_eq_append_getElem h']
  rfl
theorem pre_all (s : ByteArray) : pre s s.size = s.data.toList := by
  rw [pre, List.take_of_length_le (by simp)]
/-- A byte at a place, as1 a number. -/
theorem byte_lt (x : UInt8) : x.toNat < 256 := by have := x.toNat_lt; omega

theorem sum_any (s : ByteArray) (w : World) (hs : s.size ≤ 1000) : Calls Try.prog 58 #[.string s] w fun e w' => e = .returned (.int .i64 (Cr.from' 65535 s.data.toList)) ∧ w = w' := by
  go_enter Try.func58, Try.ntmps58
  go_wp2
  go_loop [3, 7] (fun n k => ∃ (x i : Nat), n = .int .i64 x ∧ k = .int .i64 i ∧ i ≤ s.size ∧ x < 65536 ∧ Hid (x = Cr.from' 65535 (pre s i))) (fun _ k => (s.size - intOf k).toNat)
  case atStart => exact ⟨65535, 0, rfl, rfl, by omega, by omega, by unfold Hid; simp [Cr.from', pre]⟩
  case round =>
    obtain ⟨x, i, rfl, rfl, hi, hx, H⟩ := hrel
    by_cases h8 : i < s.size
    · have hb := byte_lt s[i]
      have hw : wrap64 (s[i].toNat : Int) = (s[i].toNat : Int) := w64_byte _
      have hn : Cr.step ((x : Int) % 65536).toNat s[i].toNat = Cr.from' 65535 (pre s (i + 1)) := by
        have : ((x : Int) % 65536).toNat = x := by omega
        rw [this, pre_succ s i h8, Cr.from_snoc, ← H.out]
      have hl : Cr.step ((x : Int) % 65536).toNat s[i].toNat < 65536 := Cr.step_lt _ _ (by omega)
      have HS := fun w => step_any (x : Int) s[i].toNat w hb
      generalize Cr.step ((x : Int) % 65536).toNat s[i].toNat = y at hn hl HS
      have HS := Lib.hid HS
      have HN := Lib.hid hn
      clear hn H
      go_wp2_with (go_at_call 67; refine (HS.out _).mono ?_; rintro e w' ⟨rfl, rfl⟩)
      go_round
      case rel => exact ⟨y, i + 1, by go_num, by go_num, by omega, hl, HN⟩
      case measure => simp [intOf]; omega
    · obtain rfl : i = s.size := by omega
      go_wp2
      go_ret
      exact ⟨ret_int (by rw [H.out, pre_all]), rfl⟩

theorem from_any (n : Int) (s : ByteArray) (w : World) (hs : s.size ≤ 1000) (hn0 : 0 ≤ n) (hn1 : n < 65536) : Calls Try.prog 62 #[.int .i64 n, .string s] w fun e w' => e = .returned (.int .i64 (Cr.from' n.toNat s.data.toList)) ∧ w = w' := by
  go_enter Try.func62, Try.ntmps62
  go_wp2
  go_loop [0, 5] (fun n1 k => ∃ (x i : Nat), n1 = .int .i64 x ∧ k = .int .i64 i ∧ i ≤ s.size ∧ x < 65536 ∧ Hid (x = Cr.from' n.toNat (pre s i))) (fun _ k => (s.size - intOf k).toNat)
  case atStart => exact ⟨n.toNat, 0, by rw [Int.toNat_of_nonneg hn0], rfl, by omega, by omega, by unfold Hid; simp [Cr.from', pre]⟩
  case round =>
    obtain ⟨x, i, rfl, rfl, hi, hx, H⟩ := hrel
    by_cases h8 : i < s.size
    · have hb := byte_lt s[i]
      have hi' : (i : Int) < (s.size : Int) := by omega
      go_wp2
      go_loop [0, 6] (fun n2 k => ∃ (y j : Nat), n2 = .int .i64 y ∧ k = .int .i64 j ∧ j ≤ 8 ∧ y < 65536 ∧ Hid (y = Cr.feed x (Cr.bitsTo s[i].toNat j))) (fun _ k => (8 - intOf k).toNat)
      case atStart => exact ⟨x, 0, rfl, rfl, by omega, by omega, by unfold Hid; simp [Cr.feed, Cr.bitsTo]⟩
      case round =>
        obtain ⟨y, j, rfl, rfl, hj, hy, HY⟩ := hrel
        by_cases h9 : j < 8
        · have hn : Cr.push y (Cr.bitOf s[i].toNat j) = Cr.feed x (Cr.bitsTo s[i].toNat (j + 1)) := by rw [Cr.feed_succ, ← HY.out]
          have hl := Cr.push_lt y (Cr.bitOf s[i].toNat j)
          have h2 : Cr.bitOf s[i].toNat j < 2 := by unfold Cr.bitOf; omega
          have HB := fun w => bit_any s[i].toNat j w hb h9
          have HP := fun w => push_any y (Cr.bitOf s[i].toNat j) w hy h2
          generalize Cr.bitOf s[i].toNat j = bt at hn hl h2 HB HP
          generalize Cr.push y bt = z at hn hl HP
          have HN := Lib.hid hn
          have HB := Lib.hid HB
          have HP := Lib.hid HP
          clear hn H HY
          go_wp2_with (first | (go_at_call 69; refine (HB.out _).mono ?_; rintro e w' ⟨rfl, rfl⟩) | (go_at_call 68; refine (HP.out _).mono ?_; rintro e w' ⟨rfl, rfl⟩))
          go_round
          case rel => exact ⟨z, j + 1, by go_num, by go_num, by omega, hl, HN⟩
          case measure => simp [intOf]; omega
        · obtain rfl : j = 8 := by omega
          have hn : y = Cr.from' n.toNat (pre s (i + 1)) := by rw [pre_succ s i h8, Cr.from_snoc, ← H.out, HY.out]; rfl
          have HN := Lib.hid hn
          clear hn H HY
          go_wp2
          go_round
          case rel => exact ⟨y, i + 1, by go_num, by go_num, by omega, hy, HN⟩
          case measure => simp [intOf]; omega
    · obtain rfl : i = s.size := by omega
      go_wp2
      go_ret
      exact ⟨ret_int (by rw [H.out, pre_all]), rfl⟩

theorem rsum_any (s : ByteArray) (w : World) (hs : s.size ≤ 1000) : Calls Try.prog 56 #[.string s] w fun e w' => e = .returned (.int .i64 (Cr.from' 65535 s.data.toList)) ∧ w = w' := by
  have HF := Lib.hid (fun w => from_any 65535 s w hs (by omega) (by omega))
  go_enter Try.func56, Try.ntmps56
  go_wp2_with (go_at_call 62; refine (HF.out _).mono ?_; rintro e w' ⟨rfl, rfl⟩)
  go_ret
  exact ⟨rfl, rfl⟩

end Go.Proofs.Ytjhihccjhnlghaa

/- Seals: bytes with their check; each call by its contract. -/
namespace Go.Proofs.Ytjhihccjhnlghaa
open Go.RowKit Go.Lib
set_option linter.unusedVariables false

namespace Cr
/-- A check's two bytes, the higher one first. -/
def tl (x : Nat) : ByteArray := ⟨#[UInt8.ofNat (x / 256), UInt8.ofNat (x % 256)]⟩
def chk (s : ByteArray) : Nat := from' 65535 s.data.toList
def sealed (s : ByteArray) : ByteArray := s ++ tl (chk s)

theorem chk_lt (s : ByteArray) : chk s < 65536 := from_lt _ _ (by omega)
theorem tl_size (x : Nat) : (tl x).size = 2 := rfl
theorem sealed_size (s : ByteArray) : (sealed s).size = s.size + 2 := by simp [sealed, tl_size]
theorem chk_sealed (s : ByteArray) : chk (sealed s) = 0 := by
  have h : (sealed s).data.toList = s.data.toList ++ [UInt8.ofNat (chk s / 256), UInt8.ofNat (chk s % 256)] := by simp [sealed, tl]
  have hl := chk_lt s
  rw [chk, h, from_append]
  show from' (chk s) _ = 0
  have h1 : (UInt8.ofNat (chk s / 256)).toNat = chk s / 256 := by simp; omega
  have h2 : (UInt8.ofNat (chk s % 256)).toNat = chk s % 256 := by simp
  simp only [from', List.foldl_cons, List.foldl_nil, h1, h2]
  exact step_own2 _ hl
theorem sealed_head (s : ByteArray) : (sealed s).extract 0 s.size = s := by
  rw [sealed, ByteArray.extract_append_eq_left rfl]
theorem sealed_tail (s : ByteArray) : (sealed s).extract s.size (s.size + 2) = tl (chk s) := by
  rw [sealed, ByteArray.extract_append_eq_right rfl (by rw [tl_size])]
theorem cut (s : ByteArray) (k : Nat) (h : k ≤ s.size) : s.extract 0 k ++ s.extract k s.size = s := by
  rw [ByteArray.extract_append_extract]
  simp [Nat.min_eq_left (Nat.zero_le k), Nat.max_eq_right h]

theorem str_ne {a b : ByteArray} (h : a ≠ b) : (a.toList == b.toList) = false := by
  apply beq_eq_false_iff_ne.2
  intro he
  rw [ByteArray.toList_eq, ByteArray.toList_eq] at he
  apply h
  obtain ⟨x⟩ := a
  obtain ⟨y⟩ := b
  simp at he
  rw [he]
/-- What Open answers. -/
def openV (s : ByteArray) : ByteArray × Int :=
  if s.size < 2 then (⟨#[]⟩, 5) else if s.extract (s.size - 2) s.size = tl (chk (s.extract 0 (s.size - 2))) then (s.extract 0 (s.size - 2), 0) else (⟨#[]⟩, 10)
theorem open_sealed (s : ByteArray) : openV (sealed s) = (s, 0) := by
  have h := sealed_size s
  rw [openV, if_neg (by omega), h, show s.size + 2 - 2 = s.size from rfl, sealed_head, sealed_tail, if_pos rfl]
theorem open_bad (s : ByteArray) (h2 : 2 ≤ s.size) (h : chk s ≠ 0) : openV s = (⟨#[]⟩, 10) := by
  rw [openV, if_neg (by omega), if_neg]
  intro he
  apply h
  have := cut s (s.size - 2) (by omega)
  rw [he] at this
  rw [← this]
  exact chk_sealed _
theorem tail_iff (s : ByteArray) (h2 : 2 ≤ s.size) : s.extract (s.size - 2) s.size = tl (chk (s.extract 0 (s.size - 2))) ↔ sealed (s.extract 0 (s.size - 2)) = s := by
  have hc := cut s (s.size - 2) (by omega)
  constructor
  · intro h
    rw [h] at hc
    exact hc
  · intro h
    have h3 := sealed_tail (s.extract 0 (s.size - 2))
    rw [h] at h3
    have h4 : (s.extract 0 (s.size - 2)).size = s.size - 2 := by simp
    rw [h4, show s.size - 2 + 2 = s.size from by omega] at h3
    exact h3
end Cr

theorem tail_any (x : Nat) (w : World) (hx : x < 65536) : Calls Try.prog 57 #[.int .i64 x] w fun e w' => e = .returned (.string (Cr.tl x)) ∧ Below w.heap.size w w' := by
  obtain ⟨a, ha⟩ : ∃ a, a = x / 256 := ⟨_, rfl⟩
  obtain ⟨b, hb⟩ : ∃ b, b = x % 256 := ⟨_, rfl⟩
  have la : a < 256 := by omega
  have lb : b < 256 := by omega
  have hp : ∀ n w, n = (a : Int) + 256 * (b : Int) → Calls Try.prog 63 #[.int .i64 n] w fun e w' => e = .returned (.string (Cr.tl x)) ∧ Below w.heap.size w w' := fun n w hn => by
    have e1 : n % 256 = (a : Int) := by omega
    have e2 : n / 256 % 256 = (b : Int) := by omega
    have hq : Bt.put n = Cr.tl x := by
      rw [Bt.put, Cr.tl, ← ha, ← hb, e1, e2]
      rfl
    exact (put_any n w).mono fun e w' h => ⟨by rw [h.1, hq], by rw [← h.2]; exact (Below.refl _ _).alloc (Nat.le_refl _) _⟩
  have HP := Lib.hid hp
  obtain rfl : x = 256 * a + b := by omega
  clear hp ha hb
  go_enter Try.func57, Try.ntmps57
  go_wp2_with (first | (go_at_call 65; refine (high_any _ _).mono ?_; rintro e w' ⟨rfl, rfl⟩) | (go_at_call 66; refine (low_any _ _).mono ?_; rintro e w' ⟨rfl, rfl⟩) | (go_at_call 64; refine (two_any _ _ _).mono ?_; rintro e w' ⟨rfl, rfl⟩) | (go_at_call 63; refine (HP.out _ _ (by omega)).mono ?_; rintro e w1 ⟨rfl, b1⟩))
  go_ret
  exact ⟨rfl, b1⟩

theorem seal_any (s : ByteArray) (w : World) (hs : s.size ≤ 1000) : Calls Try.prog 53 #[.string s] w fun e w' => e = .returned (.string (Cr.sealed s)) ∧ Below w.heap.size w w' := by
  have H1 := Lib.hid (show ∀ w, Calls Try.prog 58 #[.string s] w fun e w' => e = .returned (.int .i64 (Cr.chk s)) ∧ w = w' from fun w => sum_any s w hs)
  have H2 := Lib.hid (fun w => tail_any (Cr.chk s) w (Cr.chk_lt s))
  have hcat : ¬ 9223372036854775807 < s.size + (Cr.tl (Cr.chk s)).size := by rw [Cr.tl_size]; omega
  have hse : s ++ Cr.tl (Cr.chk s) = Cr.sealed s := rfl
  go_enter Try.func53, Try.ntmps53
  go_wp2_with (first | (go_at_call 58; refine (H1.out _).mono ?_; rintro e w' ⟨rfl, rfl⟩) | (go_at_call 57; refine (H2.out _).mono ?_; rintro e w1 ⟨rfl, b1⟩))
  go_ret
  exact ⟨rfl, b1⟩

theorem rseal_any (s : ByteArray) (w : World) (hs : s.size ≤ 1000) : Calls Try.prog 40 #[.string s] w fun e w' => e = .returned (.string (Cr.sealed s)) ∧ Below w.heap.size w w' := by
  have H1 := Lib.hid (show ∀ w, Calls Try.prog 56 #[.string s] w fun e w' => e = .returned (.int .i64 (Cr.chk s)) ∧ w = w' from fun w => rsum_any s w hs)
  have hl := Cr.chk_lt s
  obtain ⟨a, ha⟩ : ∃ a, a = Cr.chk s / 256 := ⟨_, rfl⟩
  obtain ⟨b, hb⟩ : ∃ b, b = Cr.chk s % 256 := ⟨_, rfl⟩
  have hk := run_two_bytes (a : Int) (b : Int) w
  have he : (⟨#[UInt8.ofNat (a : Int).toNat, UInt8.ofNat (b : Int).toNat]⟩ : ByteArray) = Cr.tl (Cr.chk s) := by rw [Cr.tl, ← ha, ← hb]; rfl
  rw [he] at hk
  have hse : s ++ Cr.tl (Cr.chk s) = Cr.sealed s := rfl
  have hcat : ¬ 9223372036854775807 < s.size + (Cr.tl (Cr.chk s)).size := by rw [Cr.tl_size]; omega
  have e1 : (Cr.chk s : Int) / 256 = (a : Int) := by omega
  have e2 : (Cr.chk s : Int) % 256 = (b : Int) := by omega
  have e3 : IntKind.u8.wrap (a : Int) = (a : Int) := by rw [IntKind.wrap_u8]; omega
  have e4 : IntKind.u8.wrap (b : Int) = (b : Int) := by rw [IntKind.wrap_u8]; omega
  have HA := Lib.hid ha
  have HB := Lib.hid hb
  clear ha hb he
  go_enter Try.func40, Try.ntmps40
  go_wp2_with (first | (go_at_call 56; refine (H1.out _).mono ?_; rintro e w' ⟨rfl, rfl⟩))
  go_ret
  exact ⟨rfl, (Below.refl _ _).alloc (Nat.le_refl _) _⟩

theorem open_any (s : ByteArray) (w : World) (hs : s.size ≤ 1000) : Calls Try.prog 46 #[.string s] w fun e w' => e = .returned (.tuple #[.string (Cr.openV s).1, .int .i64 (Cr.openV s).2]) ∧ Below w.heap.size w w' := by
  by_cases h2 : s.size < 2
  · have hv : Cr.openV s = (⟨#[]⟩, 5) := by rw [Cr.openV, if_pos h2]
    have HV := Lib.hid hv
    clear hv
    go_enter Try.func46, Try.ntmps46
    go_wp2
    go_ret2
    rw [HV.out]
    exact ⟨rfl, Below.refl _ _⟩
  · obtain ⟨n, hn⟩ : ∃ n, s.size = n + 2 := ⟨s.size - 2, by omega⟩
    have hv : Cr.openV s = if s.extract n s.size = Cr.tl (Cr.chk (s.extract 0 n)) then (s.extract 0 n, 0) else (⟨#[]⟩, 10) := by
      rw [Cr.openV, if_neg h2, show s.size - 2 = n from by omega]
    have hp : (s.extract 0 n).size ≤ 1000 := by simp; omega
    have H1 := Lib.hid (show ∀ w, Calls Try.prog 58 #[.string (s.extract 0 n)] w fun e w' => e = .returned (.int .i64 (Cr.chk (s.extract 0 n))) ∧ Below w.heap.size w w' from fun w => (sum_any (s.extract 0 n) w hp).mono fun e w' h => ⟨h.1, by rw [← h.2]; exact Below.refl _ _⟩)
    have H2 := Lib.hid (fun w => tail_any (Cr.chk (s.extract 0 n)) w (Cr.chk_lt _))
    have hz : (s.size : Int) - 2 = (n : Int) := by omega
    have z1 : (n : Int) ≤ (s.size : Int) := by omega
    have z2 : n ≤ s.size := by omega
    have HN := Lib.hid hn
    clear hp h2 hn
    generalize hc : Cr.chk (s.extract 0 n) = c at *
    have HC := Lib.hid hc
    clear hc
    by_cases he : s.extract n s.size = Cr.tl c
    · rw [if_pos he] at hv
      have HV := Lib.hid hv
      clear hv
      go_enter Try.func46, Try.ntmps46
      go_wp2
      refine wp_region_quiet_below (by kernel_rfl) (by kernel_rfl) ?_
      repeat (quiet_step ((first | (go_at_call 58; with_reducible exact Calls.regrown_of (H1.out _)) | (go_at_call 57; with_reducible exact Calls.regrown_of (H2.out _)))))
      refine wpQuiet_nil ?_
      rintro _ ⟨⟨dq, osq⟩, rfl⟩
      have hbq := below_regrown w dq osq
      generalize «Sort».grow (redrawn w dq) osq = w9 at hbq ⊢
      go_wp2
      go_ret2
      rw [HV.out]
      exact ⟨rfl, hbq⟩
    · have he' := Cr.str_ne he
      rw [if_neg he] at hv
      have HV := Lib.hid hv
      clear hv
      go_enter Try.func46, Try.ntmps46
      go_wp2
      refine wp_region_quiet_below (by kernel_rfl) (by kernel_rfl) ?_
      repeat (quiet_step ((first | (go_at_call 58; with_reducible exact Calls.regrown_of (H1.out _)) | (go_at_call 57; with_reducible exact Calls.regrown_of (H2.out _)))))
      refine wpQuiet_nil ?_
      rintro _ ⟨⟨dq, osq⟩, rfl⟩
      have hbq := below_regrown w dq osq
      generalize «Sort».grow (redrawn w dq) osq = w9 at hbq ⊢
      go_wp2
      go_ret2
      rw [HV.out]
      exact ⟨rfl, hbq⟩

end Go.Proofs.Ytjhihccjhnlghaa

/- The reader of package bits: each call by its contract. -/
namespace Go.Proofs.Ytjhihccjhnlghaa
open Go.RowKit Go.Lib
set_option linter.unusedVariables false

/-- What Text(n) does of a reader that stands at p of s, with the error e: the answer, the place, the error. -/
def rdText (s : ByteArray) (p : Nat) (e n : Int) : ByteArray × Nat × Int :=
  if e ≠ 0 then (.empty, p, e) else if n < 0 then (.empty, p, 2) else if (s.size : Int) - p < n then (.empty, p, 5) else (s.extract p (p + n.toNat), p + n.toNat, 0)

/-- A reader lies in block b. -/
def Rd (w : World) (b : Nat) (s : ByteArray) (p : Nat) (e : Int) : Prop := Blk w b 113 #[.int .i64 e, .string s, .int .i64 p]

theorem failed_any (b o : Nat) (e : Int) (w : World) (h : w.cell? ⟨b, o, none⟩ = some (.int .i64 e)) : Calls Try.prog 59 #[.pointer (some ⟨b, o, none⟩)] w fun r w' => r = .returned (.bool (e != 0)) ∧ w = w' := by
  go_enter Try.func59, Try.ntmps59
  go_wp2
  go_ret
  exact ⟨rfl, rfl⟩

theorem fail_any (b o : Nat) (e v : Int) (w : World) (h : w.cell? ⟨b, o, none⟩ = some (.int .i64 e)) (hf : w.frozen? ⟨b, o, none⟩ = false) : Calls Try.prog 60 #[.pointer (some ⟨b, o, none⟩), .int .i64 v] w fun r w' => r = .returned (.tuple #[]) ∧ w.setCell ⟨b, o, none⟩ (.int .i64 v) = w' := by
  go_enter Try.func60, Try.ntmps60
  go_wp2
  go_end0
  exact ⟨rfl, rfl⟩

theorem text_any (b : Nat) (s : ByteArray) (p : Nat) (e n : Int) (w : World) (h : Rd w b s p e) (hp : p ≤ s.size) (hs : s.size ≤ 9223372036854775807) :
    Calls Try.prog 47 #[.pointer (some ⟨b, 0, none⟩), .int .i64 n] w fun r w' => r = .returned (.string (rdText s p e n).1) ∧ Rd w' b s (rdText s p e n).2.1 (rdText s p e n).2.2 ∧ w.grownBy w' (some b) := by
  have c0 : w.cell? ⟨b, 0, none⟩ = some (.int .i64 e) := h.cell 0
  have c1 : w.cell? ⟨b, 1, none⟩ = some (.string s) := h.cell 1
  have c2 : w.cell? ⟨b, 2, none⟩ = some (.int .i64 p) := h.cell 2
  have f0 := h.free 0
  have f2 := h.free 2
  have H := Lib.hid h
  clear h
  by_cases he : e = 0
  · subst he
    by_cases hn : n < 0
    · go_enter Try.func47, Try.ntmps47
      go_wp2_with (first | (go_at_call 59; refine (failed_any _ _ _ _ c0).mono ?_; rintro e w' ⟨rfl, rfl⟩) | (go_at_call 60; refine (fail_any _ _ 0 _ _ (by simpa using c0) (by simpa using f0)).mono ?_; rintro e w' ⟨rfl, rfl⟩))
      go_ret
      have hx : rdText s p 0 n = (.empty, p, 2) := by simp [rdText, hn]
      rw [hx]
      exact ⟨rfl, H.out.put 0 _, only_put (only_refl _ _) _ _⟩
    · by_cases hm : (s.size : Int) - p < n
      · go_enter Try.func47, Try.ntmps47
        go_wp2_with (first | (go_at_call 59; refine (failed_any _ _ _ _ c0).mono ?_; rintro e w' ⟨rfl, rfl⟩) | (go_at_call 60; refine (fail_any _ _ 0 _ _ (by simpa using c0) (by simpa using f0)).mono ?_; rintro e w' ⟨rfl, rfl⟩))
        go_quiet (fail)
        go_wp2_with (first | (go_at_call 59; refine (failed_any _ _ _ _ c0).mono ?_; rintro e w' ⟨rfl, rfl⟩) | (go_at_call 60; refine (fail_any _ _ 0 _ _ (by simpa using c0) (by simpa using f0)).mono ?_; rintro e w' ⟨rfl, rfl⟩))
        go_ret
        have hx : rdText s p 0 n = (.empty, p, 5) := by simp [rdText, hn, hm]
        rw [hx]
        exact ⟨rfl, (H.out.drewN nq).put 0 _, only_put (only_drewN (only_refl _ _) nq) _ _⟩
      · obtain ⟨k, rfl⟩ := Int.eq_ofNat_of_zero_le (show 0 ≤ n by omega)
        go_enter Try.func47, Try.ntmps47
        go_wp2_with (first | (go_at_call 59; refine (failed_any _ _ _ _ c0).mono ?_; rintro e w' ⟨rfl, rfl⟩) | (go_at_call 60; refine (fail_any _ _ 0 _ _ (by simpa using c0) (by simpa using f0)).mono ?_; rintro e w' ⟨rfl, rfl⟩))
        go_quiet (fail)
        go_wp2_with (first | (go_at_call 59; refine (failed_any _ _ _ _ c0).mono ?_; rintro e w' ⟨rfl, rfl⟩) | (go_at_call 60; refine (fail_any _ _ 0 _ _ (by simpa using c0) (by simpa using f0)).mono ?_; rintro e w' ⟨rfl, rfl⟩))
        go_quiet (fail)
        go_wp2
        go_ret
        have hx : rdText s p 0 (k : Int) = (s.extract p (p + k), p + k, 0) := by
          rw [rdText, if_neg (by omega), if_neg (by omega), if_neg (by omega)]
          simp
        rw [hx]
        refine ⟨rfl, ?_, only_drewN (only_put (only_drewN (only_refl _ _) _) _ _) _⟩
        exact ((H.out.drewN _).put 2 _).drewN _
  · have he' : (e != 0) = true := by simpa using he
    go_enter Try.func47, Try.ntmps47
    go_wp2_with (first | (go_at_call 59; refine (failed_any _ _ _ _ c0).mono ?_; rintro e w' ⟨rfl, rfl⟩) | (go_at_call 60; refine (fail_any _ _ 0 _ _ (by simpa using c0) (by simpa using f0)).mono ?_; rintro e w' ⟨rfl, rfl⟩))
    go_ret
    have hx : rdText s p e n = (.empty, p, e) := by simp [rdText, he]
    rw [hx]
    exact ⟨rfl, H.out, only_refl _ _⟩


/-- What Byte() and Two() tell of the bytes that were read. -/
def byteOf (t : ByteArray) : Int := if h : 0 < t.size then (t[0].toNat : Int) else 0
def twoOf (t : ByteArray) : Int := if h : 1 < t.size then (t[0].toNat : Int) + (256 : Int) * (t[1].toNat : Int) else 0

theorem byte_any (b : Nat) (s : ByteArray) (p : Nat) (e : Int) (w : World) (h : Rd w b s p e) (hp : p ≤ s.size) (hs : s.size ≤ 9223372036854775807) :
    Calls Try.prog 43 #[.pointer (some ⟨b, 0, none⟩)] w fun r w' => r = .returned (.int .i64 (byteOf (rdText s p e 1).1)) ∧ Rd w' b s (rdText s p e 1).2.1 (rdText s p e 1).2.2 ∧ w.grownBy w' (some b) := by
  have ht := text_any b s p e 1 w h hp hs
  generalize rdText s p e 1 = x at ht ⊢
  obtain ⟨t, p', e'⟩ := x
  have HT := Lib.hid ht
  clear ht h
  by_cases hb : 0 < t.size
  · have hb' : (byteOf t) = (t[0].toNat : Int) := by simp [byteOf, hb]
    have HB := Lib.hid hb'
    clear hb'
    go_enter Try.func43, Try.ntmps43
    go_wp2_with (go_at_call 47; refine HT.out.mono ?_; rintro e w1 ⟨rfl, h1, h2⟩)
    go_ret
    exact ⟨ret_int (by rw [HB.out, w64_byte]), h1, h2⟩
  · have hb' : (byteOf t) = 0 := by simp [byteOf, hb]
    have HB := Lib.hid hb'
    have hz : t.size = 0 := by omega
    clear hb'
    go_enter Try.func43, Try.ntmps43
    go_wp2_with (go_at_call 47; refine HT.out.mono ?_; rintro e w1 ⟨rfl, h1, h2⟩)
    go_ret
    exact ⟨ret_int (by rw [HB.out]), h1, h2⟩

theorem rtwo_bytes (t : ByteArray) (h : 1 < t.size) : twoOf t = ((t[0].toNat : Int) % (256 : Int) + (256 : Int) * ((t[1].toNat : Int) % (256 : Int))) := by
  have h0 := t[0].toNat_lt
  have h1 := t[1].toNat_lt
  simp only [twoOf, h, dite_true]
  omega

theorem err_any (b : Nat) (s : ByteArray) (p : Nat) (e : Int) (w : World) (h : Rd w b s p e) :
    Calls Try.prog 44 #[.pointer (some ⟨b, 0, none⟩)] w fun r w' => r = .returned (.int .i64 e) ∧ w = w' := by
  have c0 : w.cell? ⟨b, 0, none⟩ = some (.int .i64 e) := h.cell 0
  clear h
  go_enter Try.func44, Try.ntmps44
  go_wp2
  go_ret
  exact ⟨rfl, rfl⟩

def leftOf (s : ByteArray) (p : Nat) (e : Int) : Int := if e = 0 then (s.size : Int) - p else 0

end Go.Proofs.Ytjhihccjhnlghaa
