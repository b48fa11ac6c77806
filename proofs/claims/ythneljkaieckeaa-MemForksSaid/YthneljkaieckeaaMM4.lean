/- The memory of package mem: two bytes written, texts read; what every law of it asks first. -/
import Derived.Test.YthneljkaieckeaaMM3
import Derived.Test.YthneljkaieckeaaS4
namespace Go.Proofs.Ythneljkaieckeaa
open Go.RowKit Go.Lib Go.Sort
set_option linter.unusedVariables false

theorem put_bytes (n : Int) : (Bt.put n).data.toList = [UInt8.ofNat (n % 256).toNat, UInt8.ofNat (n / 256 % 256).toNat] := rfl
theorem put_size (n : Int) : (Bt.put n).size = 2 := rfl

theorem set2_any (w : World) (B m g : Nat) (l : List UInt8) (at' n : Int) (h : MemG w B m g l) (hl : l.length ≤ 16384) :
    Calls Try.prog 24 #[.pointer (some ⟨m, 0, none⟩), .int .i64 at', .int .i64 n] w fun r w' =>
      r = .returned (.int .i64 (chk l.length at' 2)) ∧ MemG w' B m g (if chk l.length at' 2 = 0 then over l at'.toNat [UInt8.ofNat (n % 256).toNat, UInt8.ofNat (n / 256 % 256).toNat] else l) ∧ w.grownBy w' (some g) := by
  have h1 : MemG (w.alloc (.cells #[.int .u8 (n % 256), .int .u8 (n / 256 % 256)] 5)) B m g l := h.below ((Below.refl _ _).alloc (Nat.le_refl _) _)
  have hp := mput_any _ B m g l at' (Bt.put n) h1 hl (by rw [put_size]; omega)
  rw [put_size, put_bytes] at hp
  simp only [show ((2 : Nat) : Int) = 2 from rfl] at hp
  obtain ⟨L2, hL2⟩ : ∃ L2, L2 = (if chk l.length at' 2 = 0 then over l at'.toNat [UInt8.ofNat (n % 256).toNat, UInt8.ofNat (n / 256 % 256).toNat] else l) := ⟨_, rfl⟩
  rw [← hL2] at hp ⊢
  obtain ⟨x, hx⟩ : ∃ x, x = chk l.length at' 2 := ⟨_, rfl⟩
  rw [← hx] at hp ⊢
  have HP := Lib.hid hp
  clear hp h1 h hL2 hx
  go_enter Try.func24, Try.ntmps24
  go_wp2_with (first | (go_at_call 35; refine (put_any _ _).mono ?_; rintro e w1 ⟨rfl, rfl⟩) | (go_at_call 25; refine HP.out.mono ?_; rintro e w2 ⟨rfl, hm2, b2⟩))
  go_ret
  exact ⟨rfl, hm2, only_trans (only_alloc (only_refl _ _) _) b2⟩

set_option maxHeartbeats 1600000 in
theorem mtext_any (w : World) (B m : Nat) (l : List UInt8) (at' n : Int) (h : MemV w B m l) (hl : l.length ≤ 16384) :
    Calls Try.prog 10 #[.pointer (some ⟨m, 0, none⟩), .int .i64 at', .int .i64 n] w fun r w' =>
      r = .returned (.tuple #[.string (if chk l.length at' n = 0 then ⟨((l.drop at'.toNat).take n.toNat).toArray⟩ else .empty), .int .i64 (chk l.length at' n)]) ∧ w = w' := by
  obtain ⟨g, hg, hm, hb, hr⟩ := h
  have c0 : w.cell? ⟨m, 0, none⟩ = some (.slice (some ⟨g, 0, none⟩) l.length l.length) := hb.cell 0
  have hck := check_any w m _ _ _ at' n c0 hl
  by_cases hz : chk l.length at' n = 0
  · have hk := chk_ok hz
    obtain ⟨k, rfl⟩ : ∃ k : Nat, at' = k := ⟨at'.toNat, by omega⟩
    obtain ⟨j, rfl⟩ : ∃ j : Nat, n = j := ⟨n.toNat, by omega⟩
    rw [hz, if_pos rfl]
    rw [hz] at hck
    have HCK := Lib.hid hck
    have i1 : (k : Int) + (j : Int) ≤ (l.length : Int) := by omega
    have e1 : (k : Int).toNat = k := by omega
    have e2 : (j : Int).toNat = j := by omega
    rw [e1, e2]
    have hone : k < l.length → (convert 54 9 (.slice (some ⟨g, k, none⟩) j (l.length - k))).run Try.prog w = .ok (.string ⟨((l.drop k).take j).toArray⟩) w := fun hkl => by
      have hlen : ((l.drop k).take j).length = j := by simp; omega
      have := run_convert_bytes_back (P := Try.prog) w 54 9 5 ⟨g, k, none⟩ (l.length - k) ((l.drop k).take j) Try.underlying54 Try.underlying5 Try.underlying9 (fun i hi => by
        have ha : (⟨g, k, none⟩ : Addr).add i = ⟨g, k + i, none⟩ := by unfold Addr.add; split <;> simp_all
        rw [ha, row_cell hr (show k + i < l.length by omega)]
        simp)
      rw [hlen] at this
      exact this
    by_cases hkl : k = l.length
    · obtain rfl : j = 0 := by omega
      subst hkl
      have e3 : (⟨((l.drop l.length).take 0).toArray⟩ : ByteArray) = .empty := by simp; rfl
      rw [e3]
      have h0 : ∀ (ad : Addr) c, (convert 54 9 (.slice (some ad) 0 c)).run Try.prog w = .ok (.string .empty) w := fun ad c => run_convert_bytes_back (P := Try.prog) w 54 9 5 ad c [] Try.underlying54 Try.underlying5 Try.underlying9 (fun i hi => by simp at hi)
      clear hck hb hr hz hone hk e1 e2 e3
      go_enter Try.func10, Try.ntmps10
      go_wp2_with (go_at_call 27; refine HCK.out.mono ?_; rintro e w' ⟨rfl, rfl⟩)
      go_ret2
      exact ⟨rfl, rfl⟩
    · have hlt : k < l.length := by omega
      replace hone := hone hlt
      have i2 : (k : Int) < (l.length : Int) := by omega
      obtain ⟨S, hS⟩ : ∃ S : ByteArray, S = ⟨((l.drop k).take j).toArray⟩ := ⟨_, rfl⟩
      rw [← hS] at hone ⊢
      clear hck hb hr hz hk e1 e2 hkl hS
      go_enter Try.func10, Try.ntmps10
      go_wp2_with (go_at_call 27; refine HCK.out.mono ?_; rintro e w' ⟨rfl, rfl⟩)
      go_ret2
      exact ⟨rfl, rfl⟩
  · rw [if_neg hz]
    obtain ⟨x, hx⟩ : ∃ x, chk l.length at' n = x := ⟨_, rfl⟩
    rw [hx] at hck hz ⊢
    have HCK := Lib.hid hck
    clear hck hx hb hr
    go_enter Try.func10, Try.ntmps10
    go_wp2_with (go_at_call 27; refine HCK.out.mono ?_; rintro e w' ⟨rfl, rfl⟩)
    go_ret2
    exact ⟨rfl, rfl⟩

def zero8 : List UInt8 := [0, 0, 0, 0, 0, 0, 0, 0]
def live8 : List UInt8 := [0, 0, 1, 2, 0, 0, 0, 0]
set_option maxRecDepth 100000 in
theorem mlive_any (w : World) : Calls Try.prog 8 #[] w fun e w' => e = .returned (.bool true) ∧ Below w.heap.size w w' := by
  have hn : Calls Try.prog 18 #[.int .i64 8] w fun r w' => ∃ m, r = .returned (.pointer (some ⟨m, 0, none⟩)) ∧ MemV w' w.heap.size m zero8 ∧ Below w.heap.size w w' := by
    have := mnew_any 8 w
    have e : List.replicate (sizeOf' 8) (0 : UInt8) = zero8 := by decide
    rw [e] at this
    exact this
  have hs : ∀ W B m, MemV W B m zero8 → B ≤ W.heap.size → Calls Try.prog 24 #[.pointer (some ⟨m, 0, none⟩), .int .i64 2, .int .i64 513] W fun r w' => r = .returned (.int .i64 0) ∧ MemV w' B m live8 ∧ Below B W w' := fun W B m h hB => by
    obtain ⟨g, hg⟩ := h.named
    have := set2_any W B m g zero8 2 513 hg (by decide)
    have e1 : chk zero8.length 2 2 = 0 := by decide
    have e2 : over zero8 (2 : Int).toNat [UInt8.ofNat ((513 : Int) % 256).toNat, UInt8.ofNat ((513 : Int) / 256 % 256).toNat] = live8 := by decide
    rw [e1, if_pos rfl, e2] at this
    exact this.mono fun e w' ⟨h1, h2, h3⟩ => ⟨h1, h2.mem, hg.under hB h3⟩
  have hs7 : ∀ W B m, MemV W B m live8 → B ≤ W.heap.size → Calls Try.prog 24 #[.pointer (some ⟨m, 0, none⟩), .int .i64 7, .int .i64 1] W fun r w' => r = .returned (.int .i64 6) ∧ MemV w' B m live8 ∧ Below B W w' := fun W B m h hB => by
    obtain ⟨g, hg⟩ := h.named
    have := set2_any W B m g live8 7 1 hg (by decide)
    have e1 : chk live8.length 7 2 = 6 := by decide
    rw [e1, if_neg (by decide)] at this
    exact this.mono fun e w' ⟨h1, h2, h3⟩ => ⟨h1, h2.mem, hg.under hB h3⟩
  have hg : ∀ W B m, MemV W B m live8 → Calls Try.prog 22 #[.pointer (some ⟨m, 0, none⟩), .int .i64 2] W fun r w' => r = .returned (.tuple #[.int .i64 1, .int .i64 0]) ∧ W = w' := fun W B m h => by
    have := get_any W B m live8 2 h (by decide)
    have e1 : chk live8.length 2 1 = 0 := by decide
    have e2 : ((live8.getD (2 : Int).toNat 0).toNat : Int) = 1 := by decide
    rw [e1, if_pos rfl, e2] at this
    exact this
  have hg2 : ∀ W B m, MemV W B m live8 → Calls Try.prog 23 #[.pointer (some ⟨m, 0, none⟩), .int .i64 2] W fun r w' => r = .returned (.tuple #[.int .i64 513, .int .i64 0]) ∧ ∃ q, W.drewN q = w' := fun W B m h => by
    have := get2_any W B m live8 2 h (by decide)
    have e1 : chk live8.length 2 2 = 0 := by decide
    have e2 : two8 live8 (2 : Int).toNat = 513 := by decide
    rw [e1, if_pos rfl, e2] at this
    exact this
  have hz : ∀ W B m, MemV W B m live8 → Calls Try.prog 11 #[.pointer (some ⟨m, 0, none⟩)] W fun r w' => r = .returned (.int .i64 8) ∧ W = w' := fun W B m h => size_any W B m live8 h
  have HN := Lib.hid hn
  have HS := Lib.hid hs
  have HS7 := Lib.hid hs7
  have HG := Lib.hid hg
  have HG2 := Lib.hid hg2
  have HZ := Lib.hid hz
  clear hn hs hs7 hg hg2 hz
  go_enter Try.func8, Try.ntmps8
  go_wp2_with (first
    | (go_at_call 18; refine HN.out.mono ?_; rintro e w1 ⟨m, rfl, hm, b1⟩; have HM := Lib.hid hm; have B1 := Lib.hid b1; clear hm b1)
    | (go_at_call 24; (with_reducible refine (HS.out _ _ _ HM.out B1.out.size).mono ?_); rintro e w2 ⟨rfl, hm2, b2⟩; have HM2 := Lib.hid hm2; have B2 := Lib.hid (B1.out.trans b2); clear hm2 b2)
    | (go_at_call 22; refine (HG.out _ _ _ HM2.out).mono ?_; rintro e w3 ⟨rfl, rfl⟩)
    | (go_at_call 23; refine (HG2.out _ _ _ HM2.out).mono ?_; rintro e w3 ⟨rfl, dq, rfl⟩; have HM3 := Lib.hid (HM2.out.drewN dq); have B3 := Lib.hid (below_drewN B2.out dq))
    | (go_at_call 24; (with_reducible refine (HS7.out _ _ _ HM3.out B3.out.size).mono ?_); rintro e w4 ⟨rfl, hm4, b4⟩; have HM4 := Lib.hid hm4; have B4 := Lib.hid (B3.out.trans b4); clear hm4 b4)
    | (go_at_call 11; refine (HZ.out _ _ _ HM4.out).mono ?_; rintro e w5 ⟨rfl, rfl⟩))
  go_ret
  exact ⟨rfl, B4.out⟩
end Go.Proofs.Ythneljkaieckeaa
