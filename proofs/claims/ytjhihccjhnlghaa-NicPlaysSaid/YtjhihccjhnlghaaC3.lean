/- Seals: bytes with their check; each call by its contract. -/
import Derived.Test.YtjhihccjhnlghaaC1
import Derived.Lib.QuietBelow
namespace Go.Proofs.Ytjhihccjhnlghaa
open Go.RowKit Go.Lib
set_option linter.unusedVariables false

namespace Cr
/-- A check's two bytes, the higher one first. -/
def tl (x : Nat) : ByteArray := ⟨#[UInt8.ofNat (x / 256), UInt8.ofNat (x % 256)]⟩
def chk (s : ByteArray) : Nat := from' 65535 s.data.toList
def sealed (s : ByteArray) : ByteArray := s ++ tl (chk s)

theorem chk_lt (s : ByteArray) : chk s < 65536 := from_lt _ _ (by omega)
theorem tl_size (x : Nat) : (tl x).size = 2 := rfl
theorem sealed_size (s : ByteArray) : (sealed s).size = s.size + 2 := by simp [sealed, tl_size]
theorem chk_sealed (s : ByteArray) : chk (sealed s) = 0 := by
  have h : (sealed s).data.toList = s.data.toList ++ [UInt8.ofNat (chk s / 256), UInt8.ofNat (chk s % 256)] := by simp [sealed, tl]
  have hl := chk_lt s
  rw [chk, h, from_append]
  show from' (chk s) _ = 0
  have h1 : (UInt8.ofNat (chk s / 256)).toNat = chk s / 256 := by simp; omega
  have h2 : (UInt8.ofNat (chk s % 256)).toNat = chk s % 256 := by simp
  simp only [from', List.foldl_cons, List.foldl_nil, h1, h2]
  exact step_own2 _ hl
theorem sealed_head (s : ByteArray) : (sealed s).extract 0 s.size = s := by
  rw [sealed, ByteArray.extract_append_eq_left rfl]
theorem sealed_tail (s : ByteArray) : (sealed s).extract s.size (s.size + 2) = tl (chk s) := by
  rw [sealed, ByteArray.extract_append_eq_right rfl (by rw [tl_size])]
theorem cut (s : ByteArray) (k : Nat) (h : k ≤ s.size) : s.extract 0 k ++ s.extract k s.size = s := by
  rw [ByteArray.extract_append_extract]
  simp [Nat.min_eq_left (Nat.zero_le k), Nat.max_eq_right h]

theorem str_ne {a b : ByteArray} (h : a ≠ b) : (a.toList == b.toList) = false := by
  apply beq_eq_false_iff_ne.2
  intro he
  rw [ByteArray.toList_eq, ByteArray.toList_eq] at he
  apply h
  obtain ⟨x⟩ := a
  obtain ⟨y⟩ := b
  simp at he
  rw [he]
/-- What Open answers. -/
def openV (s : ByteArray) : ByteArray × Int :=
  if s.size < 2 then (⟨#[]⟩, 5) else if s.extract (s.size - 2) s.size = tl (chk (s.extract 0 (s.size - 2))) then (s.extract 0 (s.size - 2), 0) else (⟨#[]⟩, 10)
theorem open_sealed (s : ByteArray) : openV (sealed s) = (s, 0) := by
  have h := sealed_size s
  rw [openV, if_neg (by omega), h, show s.size + 2 - 2 = s.size from rfl, sealed_head, sealed_tail, if_pos rfl]
theorem open_bad (s : ByteArray) (h2 : 2 ≤ s.size) (h : chk s ≠ 0) : openV s = (⟨#[]⟩, 10) := by
  rw [openV, if_neg (by omega), if_neg]
  intro he
  apply h
  have := cut s (s.size - 2) (by omega)
  rw [he] at this
  rw [← this]
  exact chk_sealed _
theorem tail_iff (s : ByteArray) (h2 : 2 ≤ s.size) : s.extract (s.size - 2) s.size = tl (chk (s.extract 0 (s.size - 2))) ↔ sealed (s.extract 0 (s.size - 2)) = s := by
  have hc := cut s (s.size - 2) (by omega)
  constructor
  · intro h
    rw [h] at hc
    exact hc
  · intro h
    have h3 := sealed_tail (s.extract 0 (s.size - 2))
    rw [h] at h3
    have h4 : (s.extract 0 (s.size - 2)).size = s.size - 2 := by simp
    rw [h4, show s.size - 2 + 2 = s.size from by omega] at h3
    exact h3
end Cr

theorem tail_any (x : Nat) (w : World) (hx : x < 65536) : Calls Try.prog 57 #[.int .i64 x] w fun e w' => e = .returned (.string (Cr.tl x)) ∧ Below w.heap.size w w' := by
  obtain ⟨a, ha⟩ : ∃ a, a = x / 256 := ⟨_, rfl⟩
  obtain ⟨b, hb⟩ : ∃ b, b = x % 256 := ⟨_, rfl⟩
  have la : a < 256 := by omega
  have lb : b < 256 := by omega
  have hp : ∀ n w, n = (a : Int) + 256 * (b : Int) → Calls Try.prog 63 #[.int .i64 n] w fun e w' => e = .returned (.string (Cr.tl x)) ∧ Below w.heap.size w w' := fun n w hn => by
    have e1 : n % 256 = (a : Int) := by omega
    have e2 : n / 256 % 256 = (b : Int) := by omega
    have hq : Bt.put n = Cr.tl x := by
      rw [Bt.put, Cr.tl, ← ha, ← hb, e1, e2]
      rfl
    exact (put_any n w).mono fun e w' h => ⟨by rw [h.1, hq], by rw [← h.2]; exact (Below.refl _ _).alloc (Nat.le_refl _) _⟩
  have HP := Lib.hid hp
  obtain rfl : x = 256 * a + b := by omega
  clear hp ha hb
  go_enter Try.func57, Try.ntmps57
  go_wp2_with (first | (go_at_call 65; refine (high_any _ _).mono ?_; rintro e w' ⟨rfl, rfl⟩) | (go_at_call 66; refine (low_any _ _).mono ?_; rintro e w' ⟨rfl, rfl⟩) | (go_at_call 64; refine (two_any _ _ _).mono ?_; rintro e w' ⟨rfl, rfl⟩) | (go_at_call 63; refine (HP.out _ _ (by omega)).mono ?_; rintro e w1 ⟨rfl, b1⟩))
  go_ret
  exact ⟨rfl, b1⟩

theorem seal_any (s : ByteArray) (w : World) (hs : s.size ≤ 1000) : Calls Try.prog 53 #[.string s] w fun e w' => e = .returned (.string (Cr.sealed s)) ∧ Below w.heap.size w w' := by
  have H1 := Lib.hid (show ∀ w, Calls Try.prog 58 #[.string s] w fun e w' => e = .returned (.int .i64 (Cr.chk s)) ∧ w = w' from fun w => sum_any s w hs)
  have H2 := Lib.hid (fun w => tail_any (Cr.chk s) w (Cr.chk_lt s))
  have hcat : ¬ 9223372036854775807 < s.size + (Cr.tl (Cr.chk s)).size := by rw [Cr.tl_size]; omega
  have hse : s ++ Cr.tl (Cr.chk s) = Cr.sealed s := rfl
  go_enter Try.func53, Try.ntmps53
  go_wp2_with (first | (go_at_call 58; refine (H1.out _).mono ?_; rintro e w' ⟨rfl, rfl⟩) | (go_at_call 57; refine (H2.out _).mono ?_; rintro e w1 ⟨rfl, b1⟩))
  go_ret
  exact ⟨rfl, b1⟩

theorem rseal_any (s : ByteArray) (w : World) (hs : s.size ≤ 1000) : Calls Try.prog 40 #[.string s] w fun e w' => e = .returned (.string (Cr.sealed s)) ∧ Below w.heap.size w w' := by
  have H1 := Lib.hid (show ∀ w, Calls Try.prog 56 #[.string s] w fun e w' => e = .returned (.int .i64 (Cr.chk s)) ∧ w = w' from fun w => rsum_any s w hs)
  have hl := Cr.chk_lt s
  obtain ⟨a, ha⟩ : ∃ a, a = Cr.chk s / 256 := ⟨_, rfl⟩
  obtain ⟨b, hb⟩ : ∃ b, b = Cr.chk s % 256 := ⟨_, rfl⟩
  have hk := run_two_bytes (a : Int) (b : Int) w
  have he : (⟨#[UInt8.ofNat (a : Int).toNat, UInt8.ofNat (b : Int).toNat]⟩ : ByteArray) = Cr.tl (Cr.chk s) := by rw [Cr.tl, ← ha, ← hb]; rfl
  rw [he] at hk
  have hse : s ++ Cr.tl (Cr.chk s) = Cr.sealed s := rfl
  have hcat : ¬ 9223372036854775807 < s.size + (Cr.tl (Cr.chk s)).size := by rw [Cr.tl_size]; omega
  have e1 : (Cr.chk s : Int) / 256 = (a : Int) := by omega
  have e2 : (Cr.chk s : Int) % 256 = (b : Int) := by omega
  have e3 : IntKind.u8.wrap (a : Int) = (a : Int) := by rw [IntKind.wrap_u8]; omega
  have e4 : IntKind.u8.wrap (b : Int) = (b : Int) := by rw [IntKind.wrap_u8]; omega
  have HA := Lib.hid ha
  have HB := Lib.hid hb
  clear ha hb he
  go_enter Try.func40, Try.ntmps40
  go_wp2_with (first | (go_at_call 56; refine (H1.out _).mono ?_; rintro e w' ⟨rfl, rfl⟩))
  go_ret
  exact ⟨rfl, (Below.refl _ _).alloc (Nat.le_refl _) _⟩

theorem open_any (s : ByteArray) (w : World) (hs : s.size ≤ 1000) : Calls Try.prog 46 #[.string s] w fun e w' => e = .returned (.tuple #[.string (Cr.openV s).1, .int .i64 (Cr.openV s).2]) ∧ Below w.heap.size w w' := by
  by_cases h2 : s.size < 2
  · have hv : Cr.openV s = (⟨#[]⟩, 5) := by rw [Cr.openV, if_pos h2]
    have HV := Lib.hid hv
    clear hv
    go_enter Try.func46, Try.ntmps46
    go_wp2
    go_ret2
    rw [HV.out]
    exact ⟨rfl, Below.refl _ _⟩
  · obtain ⟨n, hn⟩ : ∃ n, s.size = n + 2 := ⟨s.size - 2, by omega⟩
    have hv : Cr.openV s = if s.extract n s.size = Cr.tl (Cr.chk (s.extract 0 n)) then (s.extract 0 n, 0) else (⟨#[]⟩, 10) := by
      rw [Cr.openV, if_neg h2, show s.size - 2 = n from by omega]
    have hp : (s.extract 0 n).size ≤ 1000 := by simp; omega
    have H1 := Lib.hid (show ∀ w, Calls Try.prog 58 #[.string (s.extract 0 n)] w fun e w' => e = .returned (.int .i64 (Cr.chk (s.extract 0 n))) ∧ Below w.heap.size w w' from fun w => (sum_any (s.extract 0 n) w hp).mono fun e w' h => ⟨h.1, by rw [← h.2]; exact Below.refl _ _⟩)
    have H2 := Lib.hid (fun w => tail_any (Cr.chk (s.extract 0 n)) w (Cr.chk_lt _))
    have hz : (s.size : Int) - 2 = (n : Int) := by omega
    have z1 : (n : Int) ≤ (s.size : Int) := by omega
    have z2 : n ≤ s.size := by omega
    have HN := Lib.hid hn
    clear hp h2 hn
    generalize hc : Cr.chk (s.extract 0 n) = c at *
    have HC := Lib.hid hc
    clear hc
    by_cases he : s.extract n s.size = Cr.tl c
    · rw [if_pos he] at hv
      have HV := Lib.hid hv
      clear hv
      go_enter Try.func46, Try.ntmps46
      go_wp2
      refine wp_region_quiet_below (by kernel_rfl) (by kernel_rfl) ?_
      repeat (quiet_step ((first | (go_at_call 58; with_reducible exact Calls.regrown_of (H1.out _)) | (go_at_call 57; with_reducible exact Calls.regrown_of (H2.out _)))))
      refine wpQuiet_nil ?_
      rintro _ ⟨⟨dq, osq⟩, rfl⟩
      have hbq := below_regrown w dq osq
      generalize «Sort».grow (redrawn w dq) osq = w9 at hbq ⊢
      go_wp2
      go_ret2
      rw [HV.out]
      exact ⟨rfl, hbq⟩
    · have he' := Cr.str_ne he
      rw [if_neg he] at hv
      have HV := Lib.hid hv
      clear hv
      go_enter Try.func46, Try.ntmps46
      go_wp2
      refine wp_region_quiet_below (by kernel_rfl) (by kernel_rfl) ?_
      repeat (quiet_step ((first | (go_at_call 58; with_reducible exact Calls.regrown_of (H1.out _)) | (go_at_call 57; with_reducible exact Calls.regrown_of (H2.out _)))))
      refine wpQuiet_nil ?_
      rintro _ ⟨⟨dq, osq⟩, rfl⟩
      have hbq := below_regrown w dq osq
      generalize «Sort».grow (redrawn w dq) osq = w9 at hbq ⊢
      go_wp2
      go_ret2
      rw [HV.out]
      exact ⟨rfl, hbq⟩

end Go.Proofs.Ytjhihccjhnlghaa
