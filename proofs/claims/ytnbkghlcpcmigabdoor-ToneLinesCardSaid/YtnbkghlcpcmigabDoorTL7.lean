/- Read: a line of the symbols of bytes is read as these bytes. -/
import Derived.Test.YtnbkghlcpcmigabDoorTL6
namespace Go.Proofs.YtnbkghlcpcmigabDoor
open Go.RowKit Go.Lib
set_option linter.unusedVariables false

/-- Symbol by symbol, byte k of a line. -/
theorem sn_at (l : List UInt8) (k : Nat) (hk : k < l.length) : sn l (4 * k) = l[k].toNat / 64 ∧ sn l (4 * k + 1) = l[k].toNat / 16 ∧ sn l (4 * k + 2) = l[k].toNat / 4 ∧ sn l (4 * k + 3) = l[k].toNat := by
  have e0 : (4 * k) / 4 = k := by omega
  have e1 : (4 * k + 1) / 4 = k := by omega
  have e2 : (4 * k + 2) / 4 = k := by omega
  have e3 : (4 * k + 3) / 4 = k := by omega
  have f0 : (4 * k) % 4 = 0 := by omega
  have f1 : (4 * k + 1) % 4 = 1 := by omega
  have f2 : (4 * k + 2) % 4 = 2 := by omega
  have f3 : (4 * k + 3) % 4 = 3 := by omega
  have hg : l.getD k 0 = l[k] := by simp [List.getD, List.getElem?_eq_getElem hk]
  refine ⟨?_, ?_, ?_, ?_⟩
  · simp only [sn, e0, f0, hg]
  · simp only [sn, e1, f1, hg]
  · simp only [sn, e2, f2, hg]
  · simp only [sn, e3, f3, hg, Nat.div_one]

set_option maxRecDepth 100000 in
set_option maxHeartbeats 3200000 in
theorem read_any (g n c : Nat) (l : List UInt8) (hn : n = 4 * l.length) (hb : n ≤ 1200) (hc : n ≤ c) (w : World) (hG : Gr w) (hL : LnR w g l) : Calls Tryd.prog 8 #[.slice (some ⟨g, 0, none⟩) n c] w fun e w' => e = .returned (.tuple #[.string ⟨l.toArray⟩, .int .i64 0, .int .i64 0]) ∧ Below w.heap.size w w' := by
  have HS := Lib.hid (fun w' (h : Below w.heap.size w w') => silent_any g n c l hn hb w' (hG.below h hG.pos) (hL.below h))
  have HG := Lib.hid hG
  have HL := Lib.hid hL
  have i1 : (n : Int) % 4 = 0 := by omega
  have i2 : (n : Int) ≤ 1200 := by omega
  have hN := hn
  have HN := Lib.hid hN
  clear hG hL hn hN
  obtain ⟨i0, hi0, hz0, hz1, hz2⟩ := info_u8
  obtain ⟨w1, hr, hown, hg⟩ := run_makeSlice_owned (P := Tryd.prog) w w.heap.size 39 5 i0 _ 1 Tryd.underlying39 hi0 hz0 hz1 .i64 .i64 (n / 4) (by omega) (by rw [hz2]; omega) (by unfold maxLen; omega) (Nat.le_refl _)
  have e4 : ((n / 4 : Nat) : Int) = (n : Int) / 4 := by omega
  rw [e4] at hr
  clear e4
  have HO := Lib.hid hown
  have HB1 := Lib.hid (below_of_only hg (Nat.le_refl w.heap.size) (fun k hk => by cases hk))
  clear hown hg
  go_enter Tryd.func8, Tryd.ntmps8
  go_wp2_with (first | simp only [hr] | (go_at_call 13; with_reducible refine (HS.out _ (Below.refl _ _)).mono ?_; rintro e w2 ⟨rfl, rfl⟩))
  clear i1
  go_loopw [6, 7] (fun v x wr => ∃ (k q : Nat), x = .int .i64 q ∧ Hid (q = 4 * k) ∧ q ≤ n ∧ OwnB wr w.heap.size v (l.take k) ∧ Below w.heap.size w wr) (fun _ x _ => n - (intOf x).toNat)
  case atStart => exact ⟨0, 0, rfl, by unfold Hid; rfl, by omega, HO.out, HB1.out⟩
  case round =>
    obtain ⟨k, q, rfl, HQ, hq, hv, hb⟩ := hrel
    obtain ⟨Ao, co, rfl⟩ := hv.form
    generalize hvv : Value.slice Ao (l.take k).length co = v at hv ⊢
    have HV := Lib.hid hv
    have HB := Lib.hid hb
    clear hv hb
    by_cases h8 : q < n
    · have hk : k < l.length := by have := HQ.out; have := HN.out; omega
      have hq4 : q + 4 ≤ n := by have := HQ.out; have := HN.out; omega
      have hR := HL.out.below HB.out
      obtain ⟨s0, s1, s2, s3⟩ := sn_at l k hk
      have c0 := hR.at' q (by have := HN.out; omega)
      have c1 := hR.at' (q + 1) (by have := HN.out; omega)
      have c2 := hR.at' (q + 2) (by have := HN.out; omega)
      have c3 := hR.at' (q + 3) (by have := HN.out; omega)
      rw [HQ.out] at c0 c1 c2 c3
      rw [s0] at c0
      rw [s1] at c1
      rw [s2] at c2
      rw [s3] at c3
      rw [← HQ.out] at c0 c1 c2 c3
      have hx : l.take (k + 1) = l.take k ++ [l[k]] := by rw [List.take_add_one, List.getElem?_eq_getElem hk]; rfl
      have HX := Lib.hid hx
      have hT := byte_any l[k].toNat l[k].toNat_lt wr (HG.out.below HB.out HG.out.pos)
      have hbl : (l[k].toNat : Int) < 256 := by have := l[k].toNat_lt; omega
      have hcv : IntKind.u8.wrap (l[k].toNat : Int) = (l[k].toNat : Int) := by simp [IntKind.wrap_u8]; omega
      simp only [tc] at hT
      have HT := Lib.hid hT
      have hlen : (l.take k).length ≤ 1000000 := by have := List.length_take_le k l; have := HN.out; omega
      have harr := fun w => run_arrayAt (P := Tryd.prog) w 31 26 4 (some ⟨g, q, none⟩) 4 (c - q) Tryd.underlying31 (Nat.le_refl _)
      have HLEN := Lib.hid hlen
      have j1 : (q : Int) < (n : Int) := by omega
      have j2 : (q : Int) + 4 ≤ (n : Int) := by omega
      have j3 : (n : Int) ≤ (c : Int) := by omega
      clear hx hT hR s0 s1 s2 s3 hlen hvv
      go_wp2_with (first | (go_at_call 10; with_reducible refine HT.out.mono ?_; rintro e w2 ⟨rfl, b2⟩; have HB2 := Lib.hid b2; clear b2) | (at_builtin; refine wpList_append_u8 (o := ⟨some 46, _, _, _, _, _⟩) rfl (.tmp 42) (.tmp 45) rfl w.heap.size v _ rfl (World.ownsRow.alloc (w := w2) (HV.out.below (grown_of_below HB2.out)) _) w2.heap.size 1 l[k] rfl (one_u8 w2 _) HLEN.out (by have := HB.out.size; have := HB2.out.size; simp; omega) ?_; intro v1 w3 hv1 hb3; rw [← HX.out] at hv1; have HV1 := Lib.hid hv1; have HB3 := Lib.hid (((HB.out.trans (HB2.out.mono HB.out.size)).alloc (Nat.le_trans HB.out.size HB2.out.size) (.cells #[.int .u8 (l[k].toNat : Int)] 5)).trans hb3); clear hv1 hb3))
      go_roundw
      case rel => exact ⟨k + 1, q + 4, by go_num, by unfold Hid; have := HQ.out; omega, by omega, HV1.out, HB3.out⟩
      case measure => simp [intOf] <;> omega
    · obtain rfl : q = n := by omega
      have hkl : k = l.length := by have := HQ.out; have := HN.out; omega
      have e : l.take k = l := List.take_of_length_le (by omega)
      have HV2 := Lib.hid (show OwnB wr w.heap.size v l by rw [← e]; exact HV.out)
      clear e HV hkl
      obtain ⟨A2, c2, rfl⟩ := HV2.out.form
      have hs := HV2.out.str rfl
      go_wp2
      go_ret3
      exact ⟨rfl, HB.out⟩
end Go.Proofs.YtnbkghlcpcmigabDoor
