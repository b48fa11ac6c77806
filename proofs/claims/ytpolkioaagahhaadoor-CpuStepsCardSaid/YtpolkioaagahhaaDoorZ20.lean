import Derived.Test.YtpolkioaagahhaaDoorZ12
import Derived.Test.YtpolkioaagahhaaDoorZ13
import Derived.Test.YtpolkioaagahhaaDoorZ14
import Derived.Test.YtpolkioaagahhaaDoorZ15
import Derived.Test.YtpolkioaagahhaaDoorZ16
import Derived.Test.YtpolkioaagahhaaDoorZ17
import Derived.Test.YtpolkioaagahhaaDoorZ18
import Derived.Test.YtpolkioaagahhaaDoorZ19
import Derived.Lib.QuietBelow
import Derived.LoopTactic
import Derived.Test.YtpolkioaagahhaaDoorZ02
import Derived.ProofKit
import Derived.LaidMore
import Derived.OpenShut
import Derived.ShutString
import Derived.ChangeOld
import Derived.Stop.Joined
import Derived.Lib.SmallJoins
import Derived.Test.YtpolkioaagahhaaDoorZ11
import Derived.Test.YtpolkioaagahhaaDoorCards
import Derived.Test.YtpolkioaagahhaaDoorTie
import Derived.SevenTiedAt
set_option linter.all false
/- The document's Step, by contract, whatever it is asked. -/
namespace Go.Proofs.YtpolkioaagahhaaDoor
open Go.RowKit Go.Lib
set_option linter.unusedVariables false

theorem Cu.rstep_any (V : List UInt8) (A : Option Addr) (cap : Nat) (hV : V.length ≤ 1000) (pc md : Int) (r : Nat → Int) (hpm : pc ≤ 9223372036854775807) (w : World) (hA : Ints w A cap (num V)) :
    Calls Tryd.prog 11 #[.slice A V.length cap, .agg #[.int .i64 pc, .int .i64 (r 0), .int .i64 (r 1), .int .i64 (r 2), .int .i64 (r 3), .int .i64 (r 4), .int .i64 (r 5), .int .i64 (r 6), .int .i64 (r 7), .int .i64 md]] w (Cu.Rst w V A (Cu.step V pc r md)) := by
  unfold Cu.step
  by_cases hmd : md = 0
  · subst hmd
    rw [if_neg (fun h => h rfl)]
    by_cases hp : 0 ≤ pc ∧ pc + 4 ≤ V.length
    · rw [if_pos hp]
      obtain ⟨k, rfl⟩ := Int.eq_ofNat_of_zero_le hp.1
      have hk : k + 4 ≤ V.length := by omega
      rw [Int.toNat_natCast]
      have hs := Cu.ins_size hk
      by_cases hm : mayI (gb (Cu.ins V k) 0) (gb (Cu.ins V k) 1) (gw (Cu.ins V k) 2) = true
      · rw [if_pos hm]
        have hget : getV (Cu.ins V k) = .tuple #[.agg #[.int .u8 (gb (Cu.ins V k) 0), .int .i64 (gb (Cu.ins V k) 1), .int .i64 (gw (Cu.ins V k) 2)], .int .i64 0] := by unfold getV; rw [if_neg (by omega), if_pos hm]
        obtain ⟨hc, hx0, hx, hn0, hn⟩ := mayI_facts hm
        have hreg : 2 ≤ gb (Cu.ins V k) 0 ∧ gb (Cu.ins V k) 0 ≤ 10 → gw (Cu.ins V k) 2 < 8 := fun h2 => by
          obtain ⟨-, -, h3⟩ := mayI_iff.1 hm
          have e2 : mxN (gb (Cu.ins V k) 0) = 7 := by unfold mxN rgB; simp; omega
          omega
        clear hm hs
        generalize gb (Cu.ins V k) 0 = c at *
        generalize gb (Cu.ins V k) 1 = x at *
        generalize gw (Cu.ins V k) 2 = n at *
        have hx8 : x < 8 := by omega
        obtain ⟨j, hj⟩ := Int.eq_ofNat_of_zero_le (Cu.cut_in r n).1
        have h16 : c = 0 ∨ c = 1 ∨ c = 2 ∨ c = 3 ∨ c = 4 ∨ c = 5 ∨ c = 6 ∨ c = 7 ∨ c = 8 ∨ c = 9 ∨ c = 10 ∨ c = 11 ∨ c = 12 ∨ c = 13 ∨ c = 14 ∨ c = 15 := by omega
        rcases h16 with rfl | rfl | rfl | rfl | rfl | rfl | rfl | rfl | rfl | rfl | rfl | rfl | rfl | rfl | rfl | rfl
        · exact Cu.rs_0 V A _ cap rfl hV k r k rfl hk x n hx8 hget w hA
        · exact Cu.rs_1 V A _ cap rfl hV k r k rfl hk x n hx8 hget w hA
        · exact Cu.rs_2 V A _ cap rfl hV k r k rfl hk x n hx8 (hreg (by omega)) hget w hA
        · exact Cu.rs_3 V A _ cap rfl hV k r k rfl hk x n hx8 (hreg (by omega)) hget w hA
        · exact Cu.rs_4 V A _ cap rfl hV k r k rfl hk x n hx8 (hreg (by omega)) hget w hA
        · exact Cu.rs_5 V A _ cap rfl hV k r k rfl hk x n hx8 (hreg (by omega)) hget w hA
        · exact Cu.rs_6 V A _ cap rfl hV k r k rfl hk x n hx8 (hreg (by omega)) hget w hA
        · by_cases hf : j + 1 ≤ V.length
          · exact Cu.rs_7y V A _ cap rfl hV k r k rfl hk x n hx8 (hreg (by omega)) j hj hf hget w hA
          · exact Cu.rs_7n V A _ cap rfl hV k r k rfl hk x n hx8 (hreg (by omega)) j hj hf hget w hA
        · by_cases hf : j + 1 ≤ V.length
          · exact Cu.rs_8y V A _ cap rfl hV k r k rfl hk x n hx8 (hreg (by omega)) j hj hf hget w hA
          · exact Cu.rs_8n V A _ cap rfl hV k r k rfl hk x n hx8 (hreg (by omega)) j hj hf hget w hA
        · by_cases hf : j + 2 ≤ V.length
          · exact Cu.rs_9y V A _ cap rfl hV k r k rfl hk x n hx8 (hreg (by omega)) j hj hf hget w hA
          · exact Cu.rs_9n V A _ cap rfl hV k r k rfl hk x n hx8 (hreg (by omega)) j hj hf hget w hA
        · by_cases hf : j + 2 ≤ V.length
          · exact Cu.rs_10y V A _ cap rfl hV k r k rfl hk x n hx8 (hreg (by omega)) j hj hf hget w hA
          · exact Cu.rs_10n V A _ cap rfl hV k r k rfl hk x n hx8 (hreg (by omega)) j hj hf hget w hA
        · exact Cu.rs_11 V A _ cap rfl hV k r k rfl hk x n hx8 hget w hA
        · by_cases hz : Cu.cut r x = 0
          · exact Cu.rs_12y V A _ cap rfl hV k r k rfl hk x n hx8 hz hget w hA
          · exact Cu.rs_12n V A _ cap rfl hV k r k rfl hk x n hx8 hz hget w hA
        · by_cases hz : Cu.cut r x < Cu.cut r 0
          · exact Cu.rs_13y V A _ cap rfl hV k r k rfl hk x n hx8 hz hget w hA
          · exact Cu.rs_13n V A _ cap rfl hV k r k rfl hk x n hx8 hz hget w hA
        · exact Cu.rs_14 V A _ cap rfl hV k r k rfl hk x n hx8 hget w hA
        · exact Cu.rs_15 V A _ cap rfl hV k r k rfl hk x n hx8 hget w hA
      · rw [if_neg hm]
        have hget : getV (Cu.ins V k) = .tuple #[.agg #[.int .u8 0, .int .i64 0, .int .i64 0], .int .i64 12] := by unfold getV; rw [if_neg (by omega), if_neg hm]
        exact Cu.rs_bad V A _ cap rfl hV k r k rfl hk hget w hA
    · rw [if_neg hp]
      exact Cu.rs_off V A _ cap rfl hV pc r hp hpm w hA
  · rw [if_pos hmd]
    exact (Cu.rstep_off (.slice A V.length cap) pc md r hmd w).mono fun e w' ⟨e1, g⟩ => ⟨A, V.length, cap, e1, rfl, Cu.ints_gr hA g, g, fun _ _ h => h⟩
end Go.Proofs.YtpolkioaagahhaaDoor

/- The law's view, with the document's bytes. -/
namespace Go.Proofs.YtpolkioaagahhaaDoor
open Go.RowKit Go.Lib
set_option linter.unusedVariables false
set_option maxRecDepth 8000

theorem OwnN.ints_of' {w : World} {B n c : Nat} {A : Option Addr} {l : List Int} (h : OwnN w B (.slice A n c) l) : Ints w A c l := by
  obtain ⟨A', c', hv, hi, _⟩ := h.ints
  injection hv with e1 e2 e3
  subst e1 e3
  exact hi
set_option maxRecDepth 20000 in
set_option maxHeartbeats 6400000 in
theorem Cu.view_slice (s : ByteArray) (base size : Nat) (hs : s.size ≤ 400) (hb : base ≤ 500) (hz : size ≤ 400) (w : World) : Calls Tryd.prog 8 #[.string s, .int .i64 base, .int .i64 size] w fun e w' => ∃ m g A c, e = .returned (.tuple #[.pointer (some ⟨m, 0, none⟩), Cu.vw m base size, .slice A size c]) ∧ MemG w' w.heap.size m g (Cu.z base ++ Cu.v0 s size ++ Cu.z (1000 - base - size)) ∧ Below w.heap.size w w' ∧ Ints w' A c (num (Cu.v0 s size)) ∧ ∀ i, i < w.heap.size ∨ i = g → OffI (Cu.v0 s size) A i := by
  obtain ⟨k, hk⟩ : ∃ k, (k = s.size ∧ s.size ≤ size) ∨ (k = size ∧ size < s.size) := by
    by_cases h : s.size ≤ size
    · exact ⟨_, .inl ⟨rfl, h⟩⟩
    · exact ⟨_, .inr ⟨rfl, by omega⟩⟩
  have hks : k ≤ s.size ∧ k ≤ size := by omega
  have hdl : s.data.toList.length = s.size := by rw [Array.length_toList]; rfl
  obtain ⟨t, ht⟩ : ∃ t, t = s.extract 0 k := ⟨_, rfl⟩
  have htl : t.data.toList = s.data.toList.take k := by
    rw [ht]
    simp [ByteArray.extract, ByteArray.copySlice]
  have hts : t.size = k := by
    have : t.data.toList.length = t.size := by rw [Array.length_toList]; rfl
    rw [← this, htl, List.length_take]
    omega
  have hv0 : t.data.toList ++ Cu.z (size - k) = Cu.v0 s size := by
    unfold Cu.v0 Cu.z
    rw [htl]
    rcases hk with ⟨rfl, h⟩ | ⟨rfl, h⟩
    · rw [List.take_of_length_le (by omega), List.take_of_length_le (by omega)]
    · rw [Nat.sub_self, show k - s.size = 0 from by omega]
  have HN := Lib.hid (show ∀ W, Calls Tryd.prog 21 #[.int .i64 size] W fun r w' => ∃ A c, r = .returned (.slice A size c) ∧ Ints w' A c (num (Cu.z size)) ∧ Below W.heap.size W w' from fun W => (rmnew_any size W (by omega)).mono fun e w' ⟨v, h1, h2, h3⟩ => by
    rw [Cu.size_z size (by omega)] at h2
    obtain ⟨A, c, e1, e2, -⟩ := h2.ints
    refine ⟨A, c, ?_, e2, h3⟩
    rw [h1, e1, num_len, List.length_replicate])
  have HBY := Lib.hid (show ∀ W, Calls Tryd.prog 23 #[.string t] W fun r w' => ∃ A c, r = .returned (.slice A k c) ∧ Ints w' A c (num t.data.toList) ∧ Below W.heap.size W w' from fun W => (rbytes_any t W (by omega)).mono fun e w' ⟨v, h1, h2, h3⟩ => by
    obtain ⟨A, c, e1, e2, -⟩ := h2.ints
    refine ⟨A, c, ?_, e2, h3⟩
    rw [h1, e1, num_len, htl, List.length_take, hdl, Nat.min_eq_left hks.1])
  have HWI := Lib.hid (show ∀ W A c A2 c2, Ints W A c (num (Cu.z size)) → Ints W A2 c2 (num t.data.toList) → Calls Tryd.prog 22 #[.slice A size c, .int .i64 0, .slice A2 k c2] W fun r w' => ∃ A3 c3, r = .returned (.slice A3 size c3) ∧ Ints w' A3 c3 (num (Cu.v0 s size)) ∧ (∀ i, i < W.heap.size → OffI (Cu.v0 s size) A3 i) ∧ Below W.heap.size W w' from fun W A c A2 c2 hA hX => by
    have hkl : t.data.toList.length = k := by rw [htl, List.length_take, hdl]; omega
    have := rwith_any A c (Cu.z size) 0 A2 c2 k (num t.data.toList) (by rw [num_len, hkl]) size (Cu.z_len size).symm W hA hX (by rw [num_len, hkl, Cu.z_len]; omega) (by rw [Cu.z_len]; omega)
    rw [Cu.low8_all, Cu.over_z size 0 t.data.toList size (by omega) (by omega), hkl] at this
    simp only [Cu.z, List.replicate_zero, List.nil_append, Nat.sub_zero, Nat.sub_self, List.append_nil] at this
    have hv := hv0
    unfold Cu.z at hv
    rw [hv] at this
    exact this.mono fun e w' ⟨v, e1, e2, e3⟩ => by
      obtain ⟨A3, c3, rfl⟩ := e2.slice (show (num (Cu.v0 s size)).length = size by rw [num_len, Cu.v0_len])
      exact ⟨A3, c3, e1, e2.ints_of', fun i hi _ => e2.off hi, e3⟩)
  have HNE := Lib.hid (show ∀ W, Calls Tryd.prog 19 #[.int .i64 1000] W fun r w' => ∃ m g, r = .returned (.pointer (some ⟨m, 0, none⟩)) ∧ MemG w' W.heap.size m g (Cu.z 1000) ∧ Below W.heap.size W w' from fun W => (mnew_any 1000 W).mono fun e w' ⟨m, h1, h2, h3⟩ => by
    obtain ⟨g, h4⟩ := h2.named
    exact ⟨m, g, h1, h4, h3⟩)
  have HPU := Lib.hid (show ∀ W B m g, MemG W B m g (Cu.z 1000) → Calls Tryd.prog 20 #[.pointer (some ⟨m, 0, none⟩), .int .i64 base, .string t] W fun r w' => r = .returned (.int .i64 0) ∧ MemG w' B m g (Cu.z base ++ Cu.v0 s size ++ Cu.z (1000 - base - size)) ∧ W.grownBy w' (some g) from fun W B m g h => by
    have := mput_any W B m g (Cu.z 1000) base t h (by rw [Cu.z_len]; omega) (by omega)
    have ec : chk (Cu.z 1000).length (base : Int) t.size = 0 := by rw [Cu.z_len]; unfold chk; rw [if_neg (by omega), if_neg (by omega), if_neg (by omega), if_neg (by omega)]
    have hkl : t.data.toList.length = k := by rw [htl, List.length_take, hdl]; omega
    rw [ec, if_pos rfl, Int.toNat_natCast, Cu.over_z 1000 base t.data.toList size (by omega) (by omega), hkl, hv0] at this
    exact this)
  have HB0 := Lib.hid (show Cu.Kb w (w.alloc (.cells #[.pointer none, .int .i64 0, .int .i64 0] 28)) from ⟨Blk.new _ _ _, (Below.refl _ _).alloc (Nat.le_refl _) _⟩)
  generalize Cu.z base ++ Cu.v0 s size ++ Cu.z (1000 - base - size) = L at *
  have k1 : (k : Int) ≤ (s.size : Int) := by omega
  have k2 : ¬ (s.size : Int) < (k : Int) := by omega
  have hs4 : (s.size : Int) ≤ 400 := by omega
  have HT := Lib.hid ht.symm
  clear ht htl hts hv0 hdl hks
  unfold Cu.vw
  rcases hk with ⟨rfl, h⟩ | ⟨rfl, h⟩
  · have i1 : ¬ (size : Int) < (s.size : Int) := by omega
    have i2 : (s.size : Int) ≤ (size : Int) := by omega
    have hts : t = s := by rw [← HT.out]; simp
    subst hts
    clear h
    go_enter Tryd.func8, Tryd.ntmps8
    go_upto_region 1 with (fail)
    obtain ⟨W0, hW0⟩ : ∃ W0, W0 = w.alloc (.cells #[.pointer none, .int .i64 0, .int .i64 0] 28) := ⟨_, rfl⟩
    rw [← hW0] at HB0 ⊢
    clear hW0
    go_upto_region 6 with (first
      | (go_at_call 21; (with_reducible refine (HN.out _).mono ?_); rintro e w1 ⟨A1, c1, rfl, j1, b1⟩; have J1 := Lib.hid j1; have HB1 := Lib.hid (HB0.out.step b1); clear j1 b1)
      | (go_at_call 23; (try rw [HT.out]); (with_reducible refine (HBY.out _).mono ?_); rintro e w2 ⟨A2, c2, rfl, j2, b2⟩; have J2 := Lib.hid j2; have J1b := Lib.hid (J1.out.below b2); have HB2 := Lib.hid (HB1.out.step b2); clear j2 b2)
      | (go_at_call 22; (with_reducible refine (HWI.out _ _ _ _ _ J1b.out J2.out).mono ?_); rintro e w3 ⟨A3, c3, rfl, hv3, ho3, b3⟩; have HB3 := Lib.hid (HB2.out.step b3); have J3 := Lib.hid hv3; have HO3 := Lib.hid ho3; have HL2 := Lib.hid HB2.out.1.lt; clear hv3 ho3 b3)
      | (go_at_call 19; (with_reducible refine (HNE.out _).mono ?_); rintro e w4 ⟨m, g, rfl, hm4, b4⟩; have HM4 := Lib.hid hm4; have HB4 := Lib.hid (HB3.out.step b4); have HLT := Lib.hid HB3.out.1.lt; have J4 := Lib.hid (J3.out.below b4); have HOG := Lib.hid (Cu.offi_new J3.out hm4.1); clear hm4 b4)
      | (go_at_call 20; (try rw [HT.out]); (with_reducible refine (HPU.out _ _ _ _ HM4.out).mono ?_); rintro e w5 ⟨rfl, hm5, b5⟩; have HM5 := Lib.hid hm5; have HB5 := Lib.hid (show Cu.Kb w w5 from ⟨HB4.out.1.only b5 (fun e => by injection e with e; have := HM4.out.1; have := HLT.out; omega), HB4.out.2.trans (below_of_only b5 (Nat.le_of_lt HB4.out.1.lt) (fun q hq => by injection hq with hq; have := HM4.out.1; have := HLT.out; omega))⟩); have J5 := Lib.hid (J4.out.farI b5 HOG.out); clear hm5 b5))
    obtain ⟨x0, x1, x2, f0, f1, f2⟩ := in3f HB5.out.1
    go_wp2
    obtain ⟨⟨r0, r1, r2⟩, G8, G9⟩ := Cu.Kb.put HB5.out (a := .pointer (some ⟨m, 0, none⟩)) (b := .int .i64 base) (c := .int .i64 size) _ rfl
    refine bodyPost_ret (v := .tuple #[.pointer (some ⟨m, 0, none⟩), .agg #[.pointer (some ⟨m, 0, none⟩), .int .i64 base, .int .i64 size], .slice A3 size c3]) (by simp [results, Tryd.results8, go_sem, r0, r1, r2]) rfl ⟨m, g, A3, c3, rfl, ?_, G8, J5.out.farI G9 (HO3.out _ HL2.out), ?_⟩
    · exact Cu.memg_low (HM5.out.far G9 (by have := HM5.out.1; have := HLT.out; omega) (by have := HM5.out.2.1; have := HLT.out; omega)) (Nat.le_of_lt HLT.out)
    rintro i (hi | rfl)
    · exact HO3.out i (by have := HL2.out; omega)
    · exact HOG.out
  · have i1 : (k : Int) < (s.size : Int) := by omega
    clear h
    go_enter Tryd.func8, Tryd.ntmps8
    go_upto_region 1 with (fail)
    obtain ⟨W0, hW0⟩ : ∃ W0, W0 = w.alloc (.cells #[.pointer none, .int .i64 0, .int .i64 0] 28) := ⟨_, rfl⟩
    rw [← hW0] at HB0 ⊢
    clear hW0
    go_upto_region 6 with (first
      | (go_at_call 21; (with_reducible refine (HN.out _).mono ?_); rintro e w1 ⟨A1, c1, rfl, j1, b1⟩; have J1 := Lib.hid j1; have HB1 := Lib.hid (HB0.out.step b1); clear j1 b1)
      | (go_at_call 23; (try rw [HT.out]); (with_reducible refine (HBY.out _).mono ?_); rintro e w2 ⟨A2, c2, rfl, j2, b2⟩; have J2 := Lib.hid j2; have J1b := Lib.hid (J1.out.below b2); have HB2 := Lib.hid (HB1.out.step b2); clear j2 b2)
      | (go_at_call 22; (with_reducible refine (HWI.out _ _ _ _ _ J1b.out J2.out).mono ?_); rintro e w3 ⟨A3, c3, rfl, hv3, ho3, b3⟩; have HB3 := Lib.hid (HB2.out.step b3); have J3 := Lib.hid hv3; have HO3 := Lib.hid ho3; have HL2 := Lib.hid HB2.out.1.lt; clear hv3 ho3 b3)
      | (go_at_call 19; (with_reducible refine (HNE.out _).mono ?_); rintro e w4 ⟨m, g, rfl, hm4, b4⟩; have HM4 := Lib.hid hm4; have HB4 := Lib.hid (HB3.out.step b4); have HLT := Lib.hid HB3.out.1.lt; have J4 := Lib.hid (J3.out.below b4); have HOG := Lib.hid (Cu.offi_new J3.out hm4.1); clear hm4 b4)
      | (go_at_call 20; (try rw [HT.out]); (with_reducible refine (HPU.out _ _ _ _ HM4.out).mono ?_); rintro e w5 ⟨rfl, hm5, b5⟩; have HM5 := Lib.hid hm5; have HB5 := Lib.hid (show Cu.Kb w w5 from ⟨HB4.out.1.only b5 (fun e => by injection e with e; have := HM4.out.1; have := HLT.out; omega), HB4.out.2.trans (below_of_only b5 (Nat.le_of_lt HB4.out.1.lt) (fun q hq => by injection hq with hq; have := HM4.out.1; have := HLT.out; omega))⟩); have J5 := Lib.hid (J4.out.farI b5 HOG.out); clear hm5 b5))
    obtain ⟨x0, x1, x2, f0, f1, f2⟩ := in3f HB5.out.1
    go_wp2
    obtain ⟨⟨r0, r1, r2⟩, G8, G9⟩ := Cu.Kb.put HB5.out (a := .pointer (some ⟨m, 0, none⟩)) (b := .int .i64 base) (c := .int .i64 k) _ rfl
    refine bodyPost_ret (v := .tuple #[.pointer (some ⟨m, 0, none⟩), .agg #[.pointer (some ⟨m, 0, none⟩), .int .i64 base, .int .i64 k], .slice A3 k c3]) (by simp [results, Tryd.results8, go_sem, r0, r1, r2]) rfl ⟨m, g, A3, c3, rfl, ?_, G8, J5.out.farI G9 (HO3.out _ HL2.out), ?_⟩
    · exact Cu.memg_low (HM5.out.far G9 (by have := HM5.out.1; have := HLT.out; omega) (by have := HM5.out.2.1; have := HLT.out; omega)) (Nat.le_of_lt HLT.out)
    rintro i (hi | rfl)
    · exact HO3.out i (by have := HL2.out; omega)
    · exact HOG.out
end Go.Proofs.YtpolkioaagahhaaDoor

/- The boxes of CpuSteps. -/
namespace Go.Proofs.YtpolkioaagahhaaDoor
open Go.RowKit Go.Lib
set_option linter.unusedVariables false
set_option maxRecDepth 8000

/-- The boxes of CpuSteps: V the view's bytes, U the document's. -/
structure Cu.Sv (w W : World) (bs m g bv bx : Nat) (p q : List UInt8) (vl : Int) (V U : List UInt8) (A : Option Addr) (cap : Nat) (sc xc : Array Value) : Prop where
  sb : Blk W bs 24 sc
  xb : Blk W bx 32 xc
  vb : Blk W bv 28 #[.pointer (some ⟨m, 0, none⟩), .int .i64 300, .int .i64 vl]
  me : MemG W w.heap.size m g (p ++ V ++ q)
  ar : Ints W A cap (num U)
  o1 : OffI U A bs
  o2 : OffI U A g
  o3 : OffI U A bx
  gr : w.grownBy W none
  nm : Nm w
  lt : w.heap.size ≤ bs ∧ bs < m ∧ bs < g ∧ m < bv ∧ g < bv ∧ bv < bx
section
variable {w W W1 W' : World} {bs m g bv bx bo : Nat} {p q : List UInt8} {vl : Int} {V U V' U' : List UInt8} {A A' : Option Addr} {cap cap' : Nat} {sc xc sc' : Array Value} {oa ob : Array Value}
theorem Cu.Sv.NM (h : Cu.Sv w W bs m g bv bx p q vl V U A cap sc xc) : Nm W := h.nm.grown h.gr (by simp)
theorem Cu.Sv.grown (h : Cu.Sv w W bs m g bv bx p q vl V U A cap sc xc) (k : W.grownBy W' none) : Cu.Sv w W' bs m g bv bx p q vl V U A cap sc xc :=
  ⟨h.sb.only k (by simp), h.xb.only k (by simp), h.vb.only k (by simp), h.me.grown k, Cu.ints_gr h.ar k, h.o1, h.o2, h.o3, only_trans h.gr k, h.nm, h.lt⟩
theorem Cu.Sv.off (h : Cu.Sv w W bs m g bv bx p q vl V U A cap sc xc) {i : Nat} (hi : bx < i) (ho : OffI U A i) (k : W.grownBy W' (some i)) : Cu.Sv w W' bs m g bv bx p q vl V U A cap sc xc := by
  have l := h.lt
  have ne : ∀ x, x < i → some x ≠ some i := fun x hx e => by injection e with e; omega
  exact ⟨h.sb.only k (ne _ (by omega)), h.xb.only k (ne _ (by omega)), h.vb.only k (ne _ (by omega)), h.me.far k (by omega) (by omega), h.ar.farI k ho, h.o1, h.o2, h.o3, Cu.grow_none h.gr k (by omega), h.nm, h.lt⟩
theorem Cu.Sv.step (h : Cu.Sv w W bs m g bv bx p q vl V U A cap sc xc) (hm : MemG W' w.heap.size m g (p ++ V' ++ q)) (k : W.grownBy W' (some g)) : Cu.Sv w W' bs m g bv bx p q vl V' U A cap sc xc := by
  have l := h.lt
  have ne : ∀ x, x ≠ g → some x ≠ some g := fun x hx e => by injection e with e; omega
  exact ⟨h.sb.only k (ne _ (by omega)), h.xb.only k (ne _ (by omega)), h.vb.only k (ne _ (by omega)), hm, h.ar.farI k h.o2, h.o1, h.o2, h.o3, Cu.grow_none h.gr k (by omega), h.nm, h.lt⟩
theorem Cu.Sv.putS (h : Cu.Sv w W bs m g bv bx p q vl V U A cap sc xc) (hb : Blk W' bs 24 sc') (k : W.grownBy W' (some bs)) : Cu.Sv w W' bs m g bv bx p q vl V U A cap sc' xc := by
  have l := h.lt
  have ne : ∀ x, x ≠ bs → some x ≠ some bs := fun x hx e => by injection e with e; omega
  exact ⟨hb, h.xb.only k (ne _ (by omega)), h.vb.only k (ne _ (by omega)), h.me.far k (by omega) (by omega), h.ar.farI k h.o1, h.o1, h.o2, h.o3, Cu.grow_none h.gr k (by omega), h.nm, h.lt⟩
theorem Cu.Sv.putX (h : Cu.Sv w W bs m g bv bx p q vl V U A cap sc xc) (hb : Blk W' bx 32 sc') (k : W.grownBy W' (some bx)) : Cu.Sv w W' bs m g bv bx p q vl V U A cap sc sc' := by
  have l := h.lt
  have ne : ∀ x, x ≠ bx → some x ≠ some bx := fun x hx e => by injection e with e; omega
  exact ⟨h.sb.only k (ne _ (by omega)), hb, h.vb.only k (ne _ (by omega)), h.me.far k (by omega) (by omega), h.ar.farI k h.o3, h.o1, h.o2, h.o3, Cu.grow_none h.gr k (by omega), h.nm, h.lt⟩
/-- The document's step: new bytes. -/
theorem Cu.Sv.rstep (h : Cu.Sv w W bs m g bv bx p q vl V U A cap sc xc) (k : W.grownBy W' none) (hA : Ints W' A' cap' (num U')) (ho : ∀ i, i < W.heap.size → OffI U A i → OffI U' A' i) : Cu.Sv w W' bs m g bv bx p q vl V U' A' cap' sc xc :=
  ⟨h.sb.only k (by simp), h.xb.only k (by simp), h.vb.only k (by simp), h.me.grown k, hA, ho _ h.sb.lt h.o1, ho _ h.me.lt.1 h.o2, ho _ h.xb.lt h.o3, only_trans h.gr k, h.nm, h.lt⟩
/-- And the two of what a step did. -/
def Cu.So (w W : World) (bs m g bv bx bo : Nat) (p q : List UInt8) (vl : Int) (V U : List UInt8) (A : Option Addr) (cap : Nat) (sc xc oa ob : Array Value) : Prop :=
  Cu.Sv w W bs m g bv bx p q vl V U A cap sc xc ∧ Blk W bo 36 oa ∧ Blk W (bo + 1) 37 ob ∧ bx < bo ∧ OffI U A bo ∧ OffI U A (bo + 1)
theorem Cu.so_new (h : Cu.Sv w W bs m g bv bx p q vl V U A cap sc xc) : Cu.So w ((W.alloc (.cells #[.int .i64 0, .int .i64 0, .int .i64 0, .int .i64 0] 36)).alloc (.cells #[.int .i64 0, .int .i64 0, .int .i64 0, .int .i64 0] 37)) bs m g bv bx W.heap.size p q vl V U A cap sc xc #[.int .i64 0, .int .i64 0, .int .i64 0, .int .i64 0] #[.int .i64 0, .int .i64 0, .int .i64 0, .int .i64 0] := by
  refine ⟨h.grown (only_alloc (only_alloc (only_refl W none) _) _), (Blk.new _ _ _).alloc _, ?_, h.xb.lt, Cu.offi_new h.ar (Nat.le_refl _), Cu.offi_new h.ar (Nat.le_succ _)⟩
  have := Blk.new (W.alloc (.cells #[.int .i64 0, .int .i64 0, .int .i64 0, .int .i64 0] 36)) 37 #[.int .i64 0, .int .i64 0, .int .i64 0, .int .i64 0]
  simpa using this
theorem Cu.So.step (h : Cu.So w W bs m g bv bx bo p q vl V U A cap sc xc oa ob) (hm : MemG W' w.heap.size m g (p ++ V' ++ q)) (k : W.grownBy W' (some g)) : Cu.So w W' bs m g bv bx bo p q vl V' U A cap sc xc oa ob := by
  have l := h.1.lt
  have l2 := h.2.2.2.1
  exact ⟨h.1.step hm k, h.2.1.only k (fun e => by injection e with e; omega), h.2.2.1.only k (fun e => by injection e with e; omega), l2, h.2.2.2.2⟩
theorem Cu.So.rstep (h : Cu.So w W bs m g bv bx bo p q vl V U A cap sc xc oa ob) (k : W.grownBy W' none) (hA : Ints W' A' cap' (num U')) (ho : ∀ i, i < W.heap.size → OffI U A i → OffI U' A' i) : Cu.So w W' bs m g bv bx bo p q vl V U' A' cap' sc xc oa ob :=
  ⟨h.1.rstep k hA ho, h.2.1.only k (by simp), h.2.2.1.only k (by simp), h.2.2.2.1, ho _ h.2.1.lt h.2.2.2.2.1, ho _ h.2.2.1.lt h.2.2.2.2.2⟩
end
section
variable {ty uy : TypeId}
theorem Cu.put14y {W : World} {bs bo : Nat} {s0 s1 s2 s3 s4 s5 s6 s7 s8 s9 z0 z1 z2 z3 : Value} (h : Blk W bs ty #[s0, s1, s2, s3, s4, s5, s6, s7, s8, s9]) (ho : Blk W bo uy #[z0, z1, z2, z3]) (hne : bs ≠ bo) (y0 y1 y2 y3 y4 y5 y6 y7 y8 y9 x0 x1 x2 x3 : Value) :
    ∀ W', W' = (((((((((((((W.setCell ⟨bs, 0, none⟩ y0).setCell ⟨bs, 1, none⟩ y1).setCell ⟨bs, 2, none⟩ y2).setCell ⟨bs, 3, none⟩ y3).setCell ⟨bs, 4, none⟩ y4).setCell ⟨bs, 5, none⟩ y5).setCell ⟨bs, 6, none⟩ y6).setCell ⟨bs, 7, none⟩ y7).setCell ⟨bs, 8, none⟩ y8).setCell ⟨bs, 9, none⟩ y9).setCell ⟨bo, 0, none⟩ x0).setCell ⟨bo, 1, none⟩ x1).setCell ⟨bo, 2, none⟩ x2).setCell ⟨bo, 3, none⟩ x3 → ∃ W1, (W.grownBy W1 (some bs) ∧ Blk W1 bs ty #[y0, y1, y2, y3, y4, y5, y6, y7, y8, y9]) ∧ W1.grownBy W' (some bo) ∧ Blk W' bo uy #[x0, x1, x2, x3] := by
  rintro W' rfl
  refine ⟨(((((((((W.setCell ⟨bs, 0, none⟩ y0).setCell ⟨bs, 1, none⟩ y1).setCell ⟨bs, 2, none⟩ y2).setCell ⟨bs, 3, none⟩ y3).setCell ⟨bs, 4, none⟩ y4).setCell ⟨bs, 5, none⟩ y5).setCell ⟨bs, 6, none⟩ y6).setCell ⟨bs, 7, none⟩ y7).setCell ⟨bs, 8, none⟩ y8).setCell ⟨bs, 9, none⟩ y9, ⟨?_, ?_⟩, ?_, ?_⟩
  · exact only_put (only_put (only_put (only_put (only_put (only_put (only_put (only_put (only_put (only_put (only_refl _ _) 0 y0) 1 y1) 2 y2) 3 y3) 4 y4) 5 y5) 6 y6) 7 y7) 8 y8) 9 y9
  · have b := ((((((((((h.put 0 y0).put 1 y1).put 2 y2).put 3 y3).put 4 y4).put 5 y5).put 6 y6).put 7 y7).put 8 y8).put 9 y9)
    simp only [List.setIfInBounds_toArray, List.set_cons_zero, List.set_cons_succ] at b
    exact b
  · exact only_put (only_put (only_put (only_put (only_refl _ _) 0 x0) 1 x1) 2 x2) 3 x3
  · have b := ((((((((((((((ho.far (p := ⟨bs, 0, none⟩) (Ne.symm hne) y0).far (p := ⟨bs, 1, none⟩) (Ne.symm hne) y1).far (p := ⟨bs, 2, none⟩) (Ne.symm hne) y2).far (p := ⟨bs, 3, none⟩) (Ne.symm hne) y3).far (p := ⟨bs, 4, none⟩) (Ne.symm hne) y4).far (p := ⟨bs, 5, none⟩) (Ne.symm hne) y5).far (p := ⟨bs, 6, none⟩) (Ne.symm hne) y6).far (p := ⟨bs, 7, none⟩) (Ne.symm hne) y7).far (p := ⟨bs, 8, none⟩) (Ne.symm hne) y8).far (p := ⟨bs, 9, none⟩) (Ne.symm hne) y9).put 0 x0).put 1 x1).put 2 x2).put 3 x3)
    simp only [List.setIfInBounds_toArray, List.set_cons_zero, List.set_cons_succ] at b
    exact b
end
section
variable {w W W1 W' : World} {bs m g bv bx bo : Nat} {p q : List UInt8} {vl : Int} {V U V' U' : List UInt8} {A A' : Option Addr} {cap cap' : Nat} {sc xc sc' : Array Value} {oa ob : Array Value}
theorem Cu.So.put1 {s0 s1 s2 s3 s4 s5 s6 s7 s8 s9 z0 z1 z2 z3 : Value} (h : Cu.So w W bs m g bv bx bo p q vl V U A cap #[s0, s1, s2, s3, s4, s5, s6, s7, s8, s9] xc oa #[z0, z1, z2, z3]) (y0 y1 y2 y3 y4 y5 y6 y7 y8 y9 x0 x1 x2 x3 : Value) :
    ∀ W', W' = (((((((((((((W.setCell ⟨bs, 0, none⟩ y0).setCell ⟨bs, 1, none⟩ y1).setCell ⟨bs, 2, none⟩ y2).setCell ⟨bs, 3, none⟩ y3).setCell ⟨bs, 4, none⟩ y4).setCell ⟨bs, 5, none⟩ y5).setCell ⟨bs, 6, none⟩ y6).setCell ⟨bs, 7, none⟩ y7).setCell ⟨bs, 8, none⟩ y8).setCell ⟨bs, 9, none⟩ y9).setCell ⟨bo + 1, 0, none⟩ x0).setCell ⟨bo + 1, 1, none⟩ x1).setCell ⟨bo + 1, 2, none⟩ x2).setCell ⟨bo + 1, 3, none⟩ x3 → Cu.So w W' bs m g bv bx bo p q vl V U A cap #[y0, y1, y2, y3, y4, y5, y6, y7, y8, y9] xc oa #[x0, x1, x2, x3] := by
  intro W' hW
  have l := h.1.lt
  have l2 := h.2.2.2.1
  obtain ⟨W1, ⟨k1, b1⟩, k2, b2⟩ := Cu.put14y h.1.sb h.2.2.1 (by omega) y0 y1 y2 y3 y4 y5 y6 y7 y8 y9 x0 x1 x2 x3 W' hW
  exact ⟨(h.1.putS b1 k1).off (by omega) h.2.2.2.2.2 k2, (h.2.1.only k1 (fun e => by injection e with e; omega)).only k2 (fun e => by injection e with e; omega), b2, l2, h.2.2.2.2⟩
theorem Cu.So.put2 {s0 s1 s2 s3 s4 s5 s6 s7 s8 s9 z0 z1 z2 z3 : Value} (h : Cu.So w W bs m g bv bx bo p q vl V U A cap sc #[s0, s1, s2, s3, s4, s5, s6, s7, s8, s9] #[z0, z1, z2, z3] ob) (y0 y1 y2 y3 y4 y5 y6 y7 y8 y9 x0 x1 x2 x3 : Value) :
    ∀ W', W' = (((((((((((((W.setCell ⟨bx, 0, none⟩ y0).setCell ⟨bx, 1, none⟩ y1).setCell ⟨bx, 2, none⟩ y2).setCell ⟨bx, 3, none⟩ y3).setCell ⟨bx, 4, none⟩ y4).setCell ⟨bx, 5, none⟩ y5).setCell ⟨bx, 6, none⟩ y6).setCell ⟨bx, 7, none⟩ y7).setCell ⟨bx, 8, none⟩ y8).setCell ⟨bx, 9, none⟩ y9).setCell ⟨bo, 0, none⟩ x0).setCell ⟨bo, 1, none⟩ x1).setCell ⟨bo, 2, none⟩ x2).setCell ⟨bo, 3, none⟩ x3 → Cu.So w W' bs m g bv bx bo p q vl V U A cap sc #[y0, y1, y2, y3, y4, y5, y6, y7, y8, y9] #[x0, x1, x2, x3] ob := by
  intro W' hW
  have l := h.1.lt
  have l2 := h.2.2.2.1
  obtain ⟨W1, ⟨k1, b1⟩, k2, b2⟩ := Cu.put14y h.1.xb h.2.1 (by omega) y0 y1 y2 y3 y4 y5 y6 y7 y8 y9 x0 x1 x2 x3 W' hW
  exact ⟨(h.1.putX b1 k1).off (by omega) h.2.2.2.2.1 k2, b2, (h.2.2.1.only k1 (fun e => by injection e with e; omega)).only k2 (fun e => by injection e with e; omega), l2, h.2.2.2.2⟩
/-- Behind the view and the document's state. -/
theorem Cu.sv_new {w W0 w1 w2 : World} {r : Nat → Int} {pc md : Int} {a : Cu.Af} (hs : Blk W0 bs 24 (Cu.stC pc r md)) (hb : bs = w.heap.size) (hz : W0.heap.size = w.heap.size + 1) (g0 : w.grownBy W0 none) (hm : MemG w1 W0.heap.size m g (p ++ V ++ q)) (b1 : Below W0.heap.size W0 w1) (hA : Ints w1 A cap (num V)) (ho : ∀ i, i < W0.heap.size ∨ i = g → OffI V A i)
    (g2 : (w1.alloc (.cells #[.pointer (some ⟨m, 0, none⟩), .int .i64 300, .int .i64 vl] 28)).grownBy w2 none) (hN : Nm w) (ha : a = ⟨V, pc, r, md, 0, 0, 0, 0⟩) :
    Cu.Sv w (w2.alloc (.cells (Cu.stC pc r md) 32)) bs m g w1.heap.size w2.heap.size p q vl a.v a.v A cap (Cu.stC a.pc a.r a.md) (Cu.stC a.pc a.r a.md) := by
  subst ha
  have a1 := Cu.grow_of b1
  have l1 := hm.1
  have l2 := hm.2.1
  have l5 := hm.lt
  have z1 : (w1.alloc (.cells #[.pointer (some ⟨m, 0, none⟩), .int .i64 300, .int .i64 vl] 28)).heap.size = w1.heap.size + 1 := by simp
  have zs := g2.size
  have k2 : w2.grownBy (w2.alloc (.cells (Cu.stC pc r md) 32)) none := only_alloc (only_refl _ none) _
  have k1 : w1.grownBy w2 none := only_trans (only_alloc (only_refl _ none) _) g2
  have k12 := only_trans k1 k2
  exact ⟨(hs.only a1 (by simp)).only k12 (by simp), Blk.new _ _ _, ((Blk.new w1 28 #[.pointer (some ⟨m, 0, none⟩), .int .i64 300, .int .i64 vl]).only g2 (by simp)).only k2 (by simp), Cu.memg_low (hm.grown k12) (by omega), Cu.ints_gr hA k12, ho _ (.inl (by omega)), ho _ (.inr rfl), Cu.offi_new (Cu.ints_gr hA k1) (Nat.le_refl _), only_trans g0 (only_trans a1 k12), hN, by omega⟩
end

end Go.Proofs.YtpolkioaagahhaaDoor

/- CpuSteps walked. -/
namespace Go.Proofs.YtpolkioaagahhaaDoor
open Go.RowKit Go.Lib Go.Sort
set_option linter.unusedVariables false
set_option maxRecDepth 20000
attribute [-go_sem] Go.run_neq_struct

/-- The document's, step by step. -/
theorem Cu.rstep_f (V : List UInt8) (pc md : Int) (r : Nat → Int) (vl : Nat) (hV : V.length = vl) (hl : vl ≤ 1000) (hpc : pc ≤ 9223372036854775807) (j : Nat) (A : Option Addr) (cap : Nat) (W : World) (hA : Ints W A cap (num (Cu.stN V pc r md j).v)) :
    Calls Tryd.prog 11 #[.slice A vl cap, .agg #[.int .i64 (Cu.stN V pc r md j).pc, .int .i64 ((Cu.stN V pc r md j).r 0), .int .i64 ((Cu.stN V pc r md j).r 1), .int .i64 ((Cu.stN V pc r md j).r 2), .int .i64 ((Cu.stN V pc r md j).r 3), .int .i64 ((Cu.stN V pc r md j).r 4), .int .i64 ((Cu.stN V pc r md j).r 5), .int .i64 ((Cu.stN V pc r md j).r 6), .int .i64 ((Cu.stN V pc r md j).r 7), .int .i64 (Cu.stN V pc r md j).md]] W fun e w' => ∃ A' c', e = .returned (.tuple #[.slice A' vl c', .agg #[.int .i64 (Cu.stN V pc r md (j + 1)).pc, .int .i64 ((Cu.stN V pc r md (j + 1)).r 0), .int .i64 ((Cu.stN V pc r md (j + 1)).r 1), .int .i64 ((Cu.stN V pc r md (j + 1)).r 2), .int .i64 ((Cu.stN V pc r md (j + 1)).r 3), .int .i64 ((Cu.stN V pc r md (j + 1)).r 4), .int .i64 ((Cu.stN V pc r md (j + 1)).r 5), .int .i64 ((Cu.stN V pc r md (j + 1)).r 6), .int .i64 ((Cu.stN V pc r md (j + 1)).r 7), .int .i64 (Cu.stN V pc r md (j + 1)).md], .agg #[.int .i64 (Cu.stN V pc r md (j + 1)).o1, .int .i64 (Cu.stN V pc r md (j + 1)).o2, .int .i64 (Cu.stN V pc r md (j + 1)).o3, .int .i64 (Cu.stN V pc r md (j + 1)).o4]]) ∧ Ints w' A' c' (num (Cu.stN V pc r md (j + 1)).v) ∧ W.grownBy w' none ∧ ∀ i, i < W.heap.size → OffI (Cu.stN V pc r md j).v A i → OffI (Cu.stN V pc r md (j + 1)).v A' i := by
  have hlen := Cu.stN_len V pc r md j
  have hlen2 := Cu.stN_len V pc r md (j + 1)
  have hp := Cu.stN_pc V pc r md (by omega) hpc j
  have hs := Cu.rstep_any (Cu.stN V pc r md j).v A cap (by omega) (Cu.stN V pc r md j).pc (Cu.stN V pc r md j).md (Cu.stN V pc r md j).r hp W hA
  rw [hlen, hV] at hs
  refine hs.mono fun e w' ⟨A', n, c', e1, e2, e3, e4, e5⟩ => ⟨A', c', ?_, e3, e4, e5⟩
  have : n = vl := by rw [e2]; exact hlen2.trans hV
  rw [e1, this]
  rfl
theorem Cu.text_doc {W : World} {A : Option Addr} {cap vl : Nat} {V : List UInt8} (hA : Ints W A cap (num V)) (hV : V.length = vl) (hl : vl ≤ 1000) : Calls Tryd.prog 13 #[.slice A vl cap, .int .i64 0, .int .i64 vl] W fun e w' => e = .returned (.string ⟨V.toArray⟩) ∧ Below W.heap.size W w' := by
  have := rtext_any A cap vl V (by rw [num_len, hV]) 0 vl W hA (by omega) (by omega)
  rw [List.drop_zero, ← hV, List.take_length] at this
  rw [← hV]
  exact this
theorem Cu.text_re3 {W : World} {B m g vl : Nat} {p V q : List UInt8} (hx : p.length = 300) (hV : V.length = vl) (hl : p.length + vl + q.length ≤ 16384) (h : MemG W B m g (p ++ V ++ q)) :
    Calls Tryd.prog 12 #[.agg #[.pointer (some ⟨m, 0, none⟩), .int .i64 300, .int .i64 vl]] W fun e w' => e = .returned (.string ⟨V.toArray⟩) ∧ Below W.heap.size W w' := Cu.text_re (x := 300) hx.symm hV hl h
theorem Cu.ref_b (pc md : Int) (r : Nat → Int) (w : World) : Calls Tryd.prog 9 #[.agg #[.int .i64 pc, .int .i64 (r 0), .int .i64 (r 1), .int .i64 (r 2), .int .i64 (r 3), .int .i64 (r 4), .int .i64 (r 5), .int .i64 (r 6), .int .i64 (r 7), .int .i64 md]] w fun x w' => x = .returned (.agg #[.int .i64 pc, .int .i64 (r 0), .int .i64 (r 1), .int .i64 (r 2), .int .i64 (r 3), .int .i64 (r 4), .int .i64 (r 5), .int .i64 (r 6), .int .i64 (r 7), .int .i64 md]) ∧ Below w.heap.size w w' := (Cu.ref_any pc md r w).mono fun e w' ⟨h1, h2⟩ => ⟨h1, Cu.below h2⟩
set_option maxHeartbeats 25600000 in
theorem Cu.steps_ok (s : ByteArray) (vl : Nat) (pc md : Int) (r : Nat → Int) (n : Int) (w : World) (hN : Nm w) (hpc : pc ≤ 9223372036854775807) (bn : 0 ≤ n ∧ n ≤ 255) (h1 : s.size ≤ 400) (h3 : vl ≤ 400) : Calls Tryd.prog 3 #[.string s, .int .i64 vl, Cu.stV pc r md, .int .u8 n] w fun e w' => e = .returned (.bool true) ∧ Below w.heap.size w w' := by
  obtain ⟨N, hNN⟩ := Int.eq_ofNat_of_zero_le (show 0 ≤ n % 60 from by omega)
  have hnt : n.tmod 60 = (N : Int) := by rw [Int.tmod_eq_emod_of_nonneg bn.1]; exact hNN
  have hN60 : N < 60 := by omega
  have HV1 := Lib.hid (show ∀ W, Calls Tryd.prog 8 #[.string s, .int .i64 300, .int .i64 vl] W fun e w' => ∃ m g A c, e = .returned (.tuple #[.pointer (some ⟨m, 0, none⟩), .agg #[.pointer (some ⟨m, 0, none⟩), .int .i64 300, .int .i64 vl], .slice A vl c]) ∧ MemG w' W.heap.size m g (Cu.z 300 ++ Cu.v0 s vl ++ Cu.z (1000 - 300 - vl)) ∧ Below W.heap.size W w' ∧ Ints w' A c (num (Cu.v0 s vl)) ∧ ∀ i, i < W.heap.size ∨ i = g → OffI (Cu.v0 s vl) A i from Cu.view_slice s 300 vl h1 (by omega) (by omega))
  have s4 : (s.size : Int) ≤ 400 := by omega
  have s5 : (vl : Int) ≤ 400 := by omega
  have HS1 := Lib.hid (fun m g B j W => Cu.step_f (Cu.v0 s vl) pc md r (Cu.z 300) (Cu.z (1000 - 300 - vl)) vl (Cu.v0_len _ _) (by rw [Cu.z_len, Cu.z_len]; omega) hpc B m g 300 (by rw [Cu.z_len]; rfl) j W)
  have HR1 := Lib.hid (fun j A c W h => Cu.rstep_f (Cu.v0 s vl) pc md r vl (Cu.v0_len _ _) (by omega) hpc j A c W h)
  have HVL := Lib.hid (fun j => show (Cu.stN (Cu.v0 s vl) pc r md j).v.length = vl from (Cu.stN_len _ _ _ _ j).trans (Cu.v0_len _ _))
  have HF0 := Lib.hid (show Cu.stN (Cu.v0 s vl) pc r md 0 = ⟨Cu.v0 s vl, pc, r, md, 0, 0, 0, 0⟩ from rfl)
  generalize Cu.stN (Cu.v0 s vl) pc r md = f at HS1 HR1 HF0 HVL
  have HP1 := Lib.hid (Cu.z_len 300)
  have HQ1 := Lib.hid (Cu.z_len (1000 - 300 - vl))
  generalize Cu.v0 s vl = V at *
  generalize Cu.z 300 = p1 at *
  generalize Cu.z (1000 - 300 - vl) = q1 at *
  clear hNN
  obtain ⟨W0, hW0, g0, hB0⟩ := ibox w 24 (Cu.stC pc r md)
  have z0 : W0.heap.size = w.heap.size + 1 := by rw [hW0]; simp
  have HB0 := Lib.hid hB0
  have HG0 := Lib.hid g0
  have HZ0 := Lib.hid z0
  have HNw := Lib.hid hN
  clear hB0 g0 z0 hN
  unfold Cu.stV
  unfold Cu.stC at hW0 HB0 ⊢
  go_enter Tryd.func3, Tryd.ntmps3
  go_upto_region 1 with (fail)
  rw [← hW0]
  obtain ⟨bs, hbs⟩ : ∃ bs, bs = w.heap.size := ⟨_, rfl⟩
  rw [← hbs] at HB0 ⊢
  have HBS := Lib.hid hbs
  clear hW0 hbs
  go_upto_region 4 with (go_at_call 8; (with_reducible refine (HV1.out _).mono ?_); rintro e w1 ⟨m, g, A1, c1, rfl, hm1, b1, hA1, ho1⟩; have HM1 := Lib.hid hm1; have HB1 := Lib.hid b1; have HA1 := Lib.hid hA1; have HO1 := Lib.hid ho1; clear hm1 b1 hA1 ho1)
  have HSB := Lib.hid ((HB0.out.only (Cu.grow_of HB1.out) (by simp)).only (only_alloc (only_refl w1 none) (.cells #[.pointer (some ⟨m, 0, none⟩), .int .i64 300, .int .i64 vl] 28)) (by simp))
  obtain ⟨W2, hW2⟩ : ∃ W2, W2 = w1.alloc (.cells #[.pointer (some ⟨m, 0, none⟩), .int .i64 300, .int .i64 vl] 28) := ⟨_, rfl⟩
  rw [← hW2] at HSB ⊢
  have HW2 := Lib.hid hW2
  clear hW2
  obtain ⟨k0, k1, k2, k3, k4, k5, k6, k7, k8, k9⟩ := Cu.cells10 HSB.out
  go_upto_region 5 with (go_at_call 9; (with_reducible refine (Cu.ref_any _ _ _ _).mono ?_); rintro e w2 ⟨rfl, g2⟩; have HG2 := Lib.hid g2; clear g2)
  have HS0 := Lib.hid (Cu.sv_new (bs := bs) (vl := (vl : Int)) HB0.out HBS.out HZ0.out HG0.out HM1.out HB1.out HA1.out HO1.out (by rw [← HW2.out]; exact HG2.out) HNw.out HF0.out)
  obtain ⟨bv, hbv⟩ : ∃ bv, bv = w1.heap.size := ⟨_, rfl⟩
  obtain ⟨bx, hbx⟩ : ∃ bx, bx = w2.heap.size := ⟨_, rfl⟩
  obtain ⟨W3, hW3⟩ : ∃ W3, W3 = w2.alloc (.cells (Cu.stC pc r md) 32) := ⟨_, rfl⟩
  rw [← hW3, ← hbv, ← hbx] at HS0
  rw [show w2.alloc (.cells #[.int .i64 pc, .int .i64 (r 0), .int .i64 (r 1), .int .i64 (r 2), .int .i64 (r 3), .int .i64 (r 4), .int .i64 (r 5), .int .i64 (r 6), .int .i64 (r 7), .int .i64 md] 32) = W3 from hW3.symm, ← hbv, ← hbx]
  clear hW3 HW2 hbv hbx HSB HM1 HB1 HA1 HO1 HB0 HG2 k0 k1 k2 k3 k4 k5 k6 k7 k8 k9
  go_wp2
  go_loopw [11, 13] (fun a y wr => ∃ (j : Nat) (A : Option Addr) (cap : Nat), a = .slice A vl cap ∧ y = .int .i64 j ∧ j ≤ N ∧ Hid (Cu.Sv w wr bs m g bv bx p1 q1 vl (f j).v (f j).v A cap (Cu.stC (f j).pc (f j).r (f j).md) (Cu.stC (f j).pc (f j).r (f j).md))) (fun _ y _ => N - (Go.RowKit.intOf y).toNat)
  case atStart => exact ⟨0, A1, c1, rfl, rfl, by omega, HS0⟩
  case round =>
    obtain ⟨j, A, cap, rfl, rfl, hj, HM⟩ := hrel
    clear HS0
    by_cases hjn : j < N
    · have j1 : (j : Int) < (N : Int) := by omega
      have HC := Lib.hid (Cu.so_new HM.out)
      go_upto_region 10 with (fail)
      obtain ⟨bo, hbo⟩ : ∃ bo, bo = wr.heap.size := ⟨_, rfl⟩
      obtain ⟨W6, hW6⟩ : ∃ W6, W6 = (wr.alloc (.cells #[.int .i64 0, .int .i64 0, .int .i64 0, .int .i64 0] 36)).alloc (.cells #[.int .i64 0, .int .i64 0, .int .i64 0, .int .i64 0] 37) := ⟨_, rfl⟩
      rw [← hW6, ← hbo] at HC ⊢
      clear hW6 hbo
      obtain ⟨k0, k1, k2, k3, k4, k5, k6, k7, k8, k9⟩ := Cu.cells10 HC.out.1.sb
      obtain ⟨v0, v1, v2⟩ := in3 HC.out.1.vb
      have HL := Lib.hid HC.out.1.lt
      have HL2 := Lib.hid HC.out.2.2.2.1
      have e1 : ¬ bs = bo + 1 := by have := HL.out; have := HL2.out; omega
      have e2 : ¬ bo + 1 = bs := by have := HL.out; have := HL2.out; omega
      have HSA := Lib.hid (HS1.out _ _ _ j _ HC.out.1.me HC.out.1.NM)
      go_upto_region 11 with (go_at_call 10; (with_reducible refine HSA.out.mono ?_); rintro e w7 ⟨rfl, hm7, g7⟩; have HD := Lib.hid (Cu.So.step HC.out hm7 g7); clear hm7 g7 k0 k1 k2 k3 k4 k5 k6 k7 k8 k9 v0 v1 v2; obtain ⟨k0, k1, k2, k3, k4, k5, k6, k7, k8, k9⟩ := Cu.cells10 HD.out.1.sb; obtain ⟨f0, f1, f2, f3, f4, f5, f6, f7, f8, f9⟩ := Cu.free10 HD.out.1.sb; obtain ⟨c0, c1, c2, c3⟩ := Cu.cells4 HD.out.2.2.1; obtain ⟨d0, d1, d2, d3⟩ := Cu.free4 HD.out.2.2.1)
      clear k0 k1 k2 k3 k4 k5 k6 k7 k8 k9 f0 f1 f2 f3 f4 f5 f6 f7 f8 f9 c0 c1 c2 c3 d0 d1 d2 d3 HC
      obtain ⟨W8, hW8⟩ : ∃ W8, W8 = (((((((((((((w7.setCell ⟨bs, 0, none⟩ (.int .i64 (f (j + 1)).pc)).setCell ⟨bs, 1, none⟩ (.int .i64 ((f (j + 1)).r 0))).setCell ⟨bs, 2, none⟩ (.int .i64 ((f (j + 1)).r 1))).setCell ⟨bs, 3, none⟩ (.int .i64 ((f (j + 1)).r 2))).setCell ⟨bs, 4, none⟩ (.int .i64 ((f (j + 1)).r 3))).setCell ⟨bs, 5, none⟩ (.int .i64 ((f (j + 1)).r 4))).setCell ⟨bs, 6, none⟩ (.int .i64 ((f (j + 1)).r 5))).setCell ⟨bs, 7, none⟩ (.int .i64 ((f (j + 1)).r 6))).setCell ⟨bs, 8, none⟩ (.int .i64 ((f (j + 1)).r 7))).setCell ⟨bs, 9, none⟩ (.int .i64 (f (j + 1)).md)).setCell ⟨bo + 1, 0, none⟩ (.int .i64 (f (j + 1)).o1)).setCell ⟨bo + 1, 1, none⟩ (.int .i64 (f (j + 1)).o2)).setCell ⟨bo + 1, 2, none⟩ (.int .i64 (f (j + 1)).o3)).setCell ⟨bo + 1, 3, none⟩ (.int .i64 (f (j + 1)).o4) := ⟨_, rfl⟩
      have HE := Lib.hid (Cu.So.put1 HD.out (.int .i64 (f (j + 1)).pc) (.int .i64 ((f (j + 1)).r 0)) (.int .i64 ((f (j + 1)).r 1)) (.int .i64 ((f (j + 1)).r 2)) (.int .i64 ((f (j + 1)).r 3)) (.int .i64 ((f (j + 1)).r 4)) (.int .i64 ((f (j + 1)).r 5)) (.int .i64 ((f (j + 1)).r 6)) (.int .i64 ((f (j + 1)).r 7)) (.int .i64 (f (j + 1)).md) (.int .i64 (f (j + 1)).o1) (.int .i64 (f (j + 1)).o2) (.int .i64 (f (j + 1)).o3) (.int .i64 (f (j + 1)).o4) _ hW8)
      rw [← hW8]
      clear hW8 HD e1 e2
      obtain ⟨k0, k1, k2, k3, k4, k5, k6, k7, k8, k9⟩ := Cu.cells10 HE.out.1.xb
      have e1 : ¬ bx = bo := by have := HL2.out; omega
      have e2 : ¬ bo = bx := by have := HL2.out; omega
      have HSB := Lib.hid (HR1.out j _ _ _ HE.out.1.ar)
      go_upto_region 12 with (go_at_call 11; (with_reducible refine HSB.out.mono ?_); rintro e w9 ⟨A', cap', rfl, hA9, g9, ho9⟩; have HH := Lib.hid (Cu.So.rstep HE.out g9 hA9 ho9); clear hA9 ho9 g9 k0 k1 k2 k3 k4 k5 k6 k7 k8 k9; obtain ⟨k0, k1, k2, k3, k4, k5, k6, k7, k8, k9⟩ := Cu.cells10 HH.out.1.xb; obtain ⟨f0, f1, f2, f3, f4, f5, f6, f7, f8, f9⟩ := Cu.free10 HH.out.1.xb; obtain ⟨c0, c1, c2, c3⟩ := Cu.cells4 HH.out.2.1; obtain ⟨d0, d1, d2, d3⟩ := Cu.free4 HH.out.2.1)
      clear k0 k1 k2 k3 k4 k5 k6 k7 k8 k9 f0 f1 f2 f3 f4 f5 f6 f7 f8 f9 c0 c1 c2 c3 d0 d1 d2 d3 HE
      obtain ⟨W10, hW10⟩ : ∃ W10, W10 = (((((((((((((w9.setCell ⟨bx, 0, none⟩ (.int .i64 (f (j + 1)).pc)).setCell ⟨bx, 1, none⟩ (.int .i64 ((f (j + 1)).r 0))).setCell ⟨bx, 2, none⟩ (.int .i64 ((f (j + 1)).r 1))).setCell ⟨bx, 3, none⟩ (.int .i64 ((f (j + 1)).r 2))).setCell ⟨bx, 4, none⟩ (.int .i64 ((f (j + 1)).r 3))).setCell ⟨bx, 5, none⟩ (.int .i64 ((f (j + 1)).r 4))).setCell ⟨bx, 6, none⟩ (.int .i64 ((f (j + 1)).r 5))).setCell ⟨bx, 7, none⟩ (.int .i64 ((f (j + 1)).r 6))).setCell ⟨bx, 8, none⟩ (.int .i64 ((f (j + 1)).r 7))).setCell ⟨bx, 9, none⟩ (.int .i64 (f (j + 1)).md)).setCell ⟨bo, 0, none⟩ (.int .i64 (f (j + 1)).o1)).setCell ⟨bo, 1, none⟩ (.int .i64 (f (j + 1)).o2)).setCell ⟨bo, 2, none⟩ (.int .i64 (f (j + 1)).o3)).setCell ⟨bo, 3, none⟩ (.int .i64 (f (j + 1)).o4) := ⟨_, rfl⟩
      have HI := Lib.hid (Cu.So.put2 HH.out (.int .i64 (f (j + 1)).pc) (.int .i64 ((f (j + 1)).r 0)) (.int .i64 ((f (j + 1)).r 1)) (.int .i64 ((f (j + 1)).r 2)) (.int .i64 ((f (j + 1)).r 3)) (.int .i64 ((f (j + 1)).r 4)) (.int .i64 ((f (j + 1)).r 5)) (.int .i64 ((f (j + 1)).r 6)) (.int .i64 ((f (j + 1)).r 7)) (.int .i64 (f (j + 1)).md) (.int .i64 (f (j + 1)).o1) (.int .i64 (f (j + 1)).o2) (.int .i64 (f (j + 1)).o3) (.int .i64 (f (j + 1)).o4) _ hW10)
      rw [← hW10]
      clear hW10 HH e1 e2 HSA HSB
      obtain ⟨k0, k1, k2, k3, k4, k5, k6, k7, k8, k9⟩ := Cu.cells10 HI.out.1.sb
      obtain ⟨t0, t1, t2, t3, t4, t5, t6, t7, t8, t9⟩ := Cu.cells10 HI.out.1.xb
      obtain ⟨c0, c1, c2, c3⟩ := Cu.cells4 HI.out.2.1
      obtain ⟨d0, d1, d2, d3⟩ := Cu.cells4 HI.out.2.2.1
      have k0r := fun d os => cell_regrown k0 d os; have k1r := fun d os => cell_regrown k1 d os; have k2r := fun d os => cell_regrown k2 d os; have k3r := fun d os => cell_regrown k3 d os; have k4r := fun d os => cell_regrown k4 d os; have k5r := fun d os => cell_regrown k5 d os; have k6r := fun d os => cell_regrown k6 d os; have k7r := fun d os => cell_regrown k7 d os; have k8r := fun d os => cell_regrown k8 d os; have k9r := fun d os => cell_regrown k9 d os; have t0r := fun d os => cell_regrown t0 d os; have t1r := fun d os => cell_regrown t1 d os; have t2r := fun d os => cell_regrown t2 d os; have t3r := fun d os => cell_regrown t3 d os; have t4r := fun d os => cell_regrown t4 d os; have t5r := fun d os => cell_regrown t5 d os; have t6r := fun d os => cell_regrown t6 d os; have t7r := fun d os => cell_regrown t7 d os; have t8r := fun d os => cell_regrown t8 d os; have t9r := fun d os => cell_regrown t9 d os; have c0r := fun d os => cell_regrown c0 d os; have c1r := fun d os => cell_regrown c1 d os; have c2r := fun d os => cell_regrown c2 d os; have c3r := fun d os => cell_regrown c3 d os; have d0r := fun d os => cell_regrown d0 d os; have d1r := fun d os => cell_regrown d1 d os; have d2r := fun d os => cell_regrown d2 d os; have d3r := fun d os => cell_regrown d3 d os
      clear k0 k1 k2 k3 k4 k5 k6 k7 k8 k9 t0 t1 t2 t3 t4 t5 t6 t7 t8 t9 c0 c1 c2 c3 d0 d1 d2 d3
      have hq1 : ∀ W, (binOp BinOp.neq 32 (.agg #[.int .i64 (f (j + 1)).pc, .int .i64 ((f (j + 1)).r 0), .int .i64 ((f (j + 1)).r 1), .int .i64 ((f (j + 1)).r 2), .int .i64 ((f (j + 1)).r 3), .int .i64 ((f (j + 1)).r 4), .int .i64 ((f (j + 1)).r 5), .int .i64 ((f (j + 1)).r 6), .int .i64 ((f (j + 1)).r 7), .int .i64 (f (j + 1)).md]) (.agg #[.int .i64 (f (j + 1)).pc, .int .i64 ((f (j + 1)).r 0), .int .i64 ((f (j + 1)).r 1), .int .i64 ((f (j + 1)).r 2), .int .i64 ((f (j + 1)).r 3), .int .i64 ((f (j + 1)).r 4), .int .i64 ((f (j + 1)).r 5), .int .i64 ((f (j + 1)).r 6), .int .i64 ((f (j + 1)).r 7), .int .i64 (f (j + 1)).md])).run Tryd.prog W = .ok (.bool false) W := fun W => Cu.neq_rst _ _ _ W
      have hq2 : ∀ W, (binOp BinOp.neq 37 (.agg #[.int .i64 (f (j + 1)).o1, .int .i64 (f (j + 1)).o2, .int .i64 (f (j + 1)).o3, .int .i64 (f (j + 1)).o4]) (.agg #[.int .i64 (f (j + 1)).o1, .int .i64 (f (j + 1)).o2, .int .i64 (f (j + 1)).o3, .int .i64 (f (j + 1)).o4])).run Tryd.prog W = .ok (.bool false) W := fun W => Cu.neq_out _ _ _ _ W
      have HRE := Lib.hid (fun W => Cu.ref_b (f (j + 1)).pc (f (j + 1)).md (f (j + 1)).r W)
      refine wp_region_quiet_below (by kernel_rfl) (by kernel_rfl) ?_
      repeat (quiet_step ((go_at_call 9; with_reducible exact Calls.regrown_of (HRE.out _))))
      refine wpQuiet_nil ?_
      rintro _ ⟨⟨dq, osq⟩, rfl⟩
      have HJ := Lib.hid (HI.out.1.grown (Cu.grow_of (below_regrown W10 dq osq)))
      clear k0r k1r k2r k3r k4r k5r k6r k7r k8r k9r t0r t1r t2r t3r t4r t5r t6r t7r t8r t9r c0r c1r c2r c3r d0r d1r d2r d3r hq1 hq2 HRE HI
      generalize grow (redrawn W10 dq) osq = W11 at HJ ⊢
      by_cases h8 : ((j : Int).tmod 8 = 0)
      · obtain ⟨v0, v1, v2⟩ := in3 HJ.out.vb
        have HT1 := Lib.hid (Cu.text_re3 (p := p1) (q := q1) HP1.out (HVL.out (j + 1)) (show p1.length + vl + q1.length ≤ 16384 by rw [HP1.out, HQ1.out]; omega) HJ.out.me)
        have HT2 := Lib.hid (fun W (b : Below W11.heap.size W11 W) => Cu.text_doc (HJ.out.grown (Cu.grow_of b)).ar (HVL.out (j + 1)) (by omega))
        generalize (⟨(f (j + 1)).v.toArray⟩ : ByteArray) = tx at HT1 HT2
        go_wp2_with (first
          | (go_at_call 12; (with_reducible refine HT1.out.mono ?_); rintro e w12 ⟨rfl, b12⟩; have HB12 := Lib.hid b12; clear b12)
          | (go_at_call 13; (with_reducible refine (HT2.out _ HB12.out).mono ?_); rintro e w13 ⟨rfl, b13⟩; have HK := Lib.hid ((HJ.out.grown (Cu.grow_of HB12.out)).grown (Cu.grow_of b13)); clear b13))
        go_roundw
        case rel => exact ⟨j + 1, A', cap', rfl, by go_num, by omega, HK⟩
        case measure => simp [Go.RowKit.intOf]; omega
      · go_wp2
        go_roundw
        case rel => exact ⟨j + 1, A', cap', rfl, by go_num, by omega, HJ⟩
        case measure => simp [Go.RowKit.intOf]; omega
    · have hje : j = N := by omega
      subst hje
      have j1 : ¬ (j : Int) < (j : Int) := by omega
      obtain ⟨v0, v1, v2⟩ := in3 HM.out.vb
      have HL := Lib.hid (Cu.live_any wr HM.out.NM HM.out.NM.pos)
      have HT1 := Lib.hid (fun W (b : Below wr.heap.size wr W) => Cu.text_re3 (p := p1) (q := q1) HP1.out (HVL.out j) (show p1.length + vl + q1.length ≤ 16384 by rw [HP1.out, HQ1.out]; omega) (HM.out.grown (Cu.grow_of b)).me)
      have HT2 := Lib.hid (fun W (g : wr.grownBy W none) => Cu.text_doc (HM.out.grown g).ar (HVL.out j) (by omega))
      have HGR := Lib.hid HM.out.gr
      generalize (⟨(f j).v.toArray⟩ : ByteArray) = tx at HT1 HT2
      go_wp2_with (first
        | (go_at_call 7; (with_reducible refine HL.out.mono ?_); rintro e w12 ⟨rfl, b12⟩; have HB12 := Lib.hid b12; have u0 := (b12.cell (p := ⟨bv, 0, none⟩) HM.out.vb.lt).trans v0; have u1 := (b12.cell (p := ⟨bv, 1, none⟩) HM.out.vb.lt).trans v1; have u2 := (b12.cell (p := ⟨bv, 2, none⟩) HM.out.vb.lt).trans v2; clear b12)
        | (go_at_call 12; (with_reducible refine (HT1.out _ HB12.out).mono ?_); rintro e w13 ⟨rfl, b13⟩; have HG13 := Lib.hid (only_trans (Cu.grow_of HB12.out) (Cu.grow_of b13)); clear b13)
        | (go_at_call 13; (with_reducible refine (HT2.out _ HG13.out).mono ?_); rintro e w14 ⟨rfl, b14⟩; have HBE := Lib.hid (only_trans HGR.out (only_trans HG13.out (Cu.grow_of b14))); clear b14))
      go_ret
      exact ⟨by first | rfl | simp, Cu.below HBE.out⟩

end Go.Proofs.YtpolkioaagahhaaDoor

/- How a law of package code is opened: the table as1 it was laid; codes, instructions and texts that came in. -/
namespace Go.Proofs.YtpolkioaagahhaaDoor
open Go.RowKit Go.Lib Go.ChangeShapes Go.WideShapes Go.ChangeAt Go.Deep Go.Joins
open Go.ChangeMaps (open_string shut_string)
set_option linter.unusedVariables false
set_option maxRecDepth 8000

theorem kd_own : ownKnob Tryd.prog.godebug = none := by kernel_rfl
theorem kd_laid : laidOutB Tryd.prog = true := by kernel_rfl
theorem names_at : Tryd.prog.globalNamed "campanile/code.names" = some 0 := by kernel_rfl
theorem names_type : (Tryd.prog.globals[0]?).map (·.type) = some 109 := by kernel_rfl
theorem cells_string : Tryd.prog.cellsOf 9 = 1 := by kernel_rfl
def laid1 : List (String × DataW Unit) := [("campanile/code.names", Rows.laid_campanile_code_names)]
/-- The door's own heap meets the condition: three closed facts. -/
theorem kd_door (os : Os) (args : Array Value) : laidMetH Tryd.prog laid1 ((World.doorLaid Tryd.prog 400 os).forCall (fun _ _ => 0) ⟨#[], args, []⟩).memory :=
  laidMetH_of_parts3 (fuel := 8) (laidMet_of_run' 8 (by kernel_rfl) (by kernel_rfl)) (by kernel_rfl) (by kernel_rfl)
theorem laid_names : (Rows.laid_campanile_code_names : DataW Unit) = .agg ((List.range 16).map fun k => .lit (.string (nmX k))) := by rfl
/-- What the condition gives the walks: the table's cells. -/
theorem nm_of_laid {W : World} (h : laidMetH Tryd.prog laid1 W) : Nm W := by
  rw [MakeChecks.laidMetH_plain _ _ _ (by kernel_rfl)] at h
  obtain ⟨ps, ⟨g0, t0, cs0, f0, p0, q0, hg0, ht0, hv0, hd0, _, _⟩, _, _⟩ := h
  obtain rfl := Option.some.inj (names_at.symm.trans hg0)
  obtain rfl := Option.some.inj (names_type.symm.trans ht0)
  obtain ⟨xs, m1, rfl, hx1, hlen, hn4, hel⟩ := DataW.trod_array Tryd.underlying109 hd0
  rw [cells_string] at hel
  have hc : ∀ i, W.cell? ⟨0, i, none⟩ = cs0[i]? := fun i => World.var?_cell hg0 hv0 i
  have hx2 : xs.map Prod.fst = (List.range 16).map fun k => .lit (.string (nmX k)) := by
    have := hx1
    rw [laid_names] at this
    simp only [Prod.mk.injEq, DataW.agg.injEq] at this
    exact this.1.symm
  have one : ∀ k, k < 16 → W.cell? ⟨0, k, none⟩ = some (.string (nmL k)) := by
    intro k hk
    have hkl : k < xs.length := by omega
    have h1 := hel k hk
    rw [List.getElem?_eq_getElem hkl, Nat.mul_one] at h1
    obtain ⟨s, e1, e2, _⟩ := DataW.trod_string Tryd.underlying9 h1
    have e4 : (xs.map Prod.fst)[k]? = some (.lit (.string (nmX k))) := by
      rw [hx2]
      simp [hk]
    rw [List.getElem?_map, List.getElem?_eq_getElem hkl] at e4
    simp only [Option.map_some, Option.some.injEq] at e4
    rw [e2] at e4
    simp only [DataW.lit.injEq, Lit.string.injEq] at e4
    have hs : s = nmL k := by
      unfold nmL
      rw [← e4]
    rw [hc k, ← hs]
    have e3 : cs0.toList[k]? = some (.string s) := by
      have := congrArg (fun l => l[0]?) e1
      simpa [List.getElem?_take, List.getElem?_drop] using this
    simpa using e3
  refine ⟨one, ?_⟩
  have c0 := one 0 (by omega)
  rcases Nat.eq_zero_or_pos W.heap.size with hz | hz
  · have : W.heap = #[] := Array.eq_empty_of_size_eq_zero hz
    simp [World.cell?, this] at c0
  · exact hz
section
variable {H : Type} {enc : TypeId × Value → H} {W : World} {base b0 : Nat} {spare : Nat → Bool} {held : Bool} {r : Reach} {v : Value} {d : DataW H} {p : List MemPlace}
theorem kd_string (hv : Value.okWide Tryd.prog W r b0 9 v) (h : DataW.Trod enc Tryd.prog W base spare held 9 v d p) : ∃ s : ByteArray, v = .string s ∧ s.size ≤ 9223372036854775807 := by
  obtain ⟨s, rfl, _, _, hs⟩ := open_string Tryd.underlying9 hv h
  exact ⟨s, rfl, by unfold maxLen at hs; omega⟩
theorem kd_in_u8 {n : Int} (w : (Lit.int .u8 n).wf = true) : 0 ≤ n ∧ n ≤ 255 := by
  simp only [Lit.wf, Bool.and_eq_true, decide_eq_true_eq] at w
  have e1 : IntKind.u8.min = 0 := by kernel_rfl
  have e2 : IntKind.u8.max = 255 := by kernel_rfl
  omega
theorem kd_code (hv : Value.okWide Tryd.prog W r b0 65 v) (h : DataW.Trod enc Tryd.prog W base spare held 65 v d p) : ∃ k : Nat, v = .int .u8 k ∧ k < 256 := by
  obtain ⟨a, rfl, _, _, w⟩ := open_int Tryd.underlying65 hv h
  have := kd_in_u8 w
  exact ⟨a.toNat, by rw [Int.toNat_of_nonneg this.1], by omega⟩
theorem kd_field {P : Program} {w : World} {t : TypeId} {fs : Array Field} {fuel : Nat} {cs : List Value} {x : DataW H × List MemPlace}
    (hs : P.underlying t = some (.struct fs)) (hone : oneCellFields P fs = true) (h : DataW.trod enc P w base spare held fuel t cs = some x) {i : Nat} {f : Field} (hf : fs[i]? = some f) {c : Value} (hc : cs[i]? = some c) :
    ∃ n y, DataW.trod enc P w base spare held n f.type [c] = some y := by
  obtain ⟨xs, n, _, _, _, hlen, hfld⟩ := DataW.trod_struct hs h
  obtain ⟨o, k⟩ := hone_of hone i f hf
  have h1 := hfld i f hf
  have hi : i < fs.size := (Array.getElem?_eq_some_iff.1 hf).1
  have hcl : i < cs.length := (List.getElem?_eq_some_iff.1 hc).1
  have hce : cs[i] = c := (List.getElem?_eq_some_iff.1 hc).2
  rw [o, k, List.getElem?_eq_getElem (by omega), List.drop_eq_getElem_cons hcl, hce] at h1
  exact ⟨n, _, by simpa using h1⟩
theorem kd_cut {cs : Array Value} (h : cs.size = 3) : ∃ c0 c1 c2, cs = #[c0, c1, c2] := by
  obtain ⟨l⟩ := cs
  match l, h with
  | [c0, c1, c2], _ => exact ⟨c0, c1, c2, rfl⟩
theorem kd_instr (hv : Value.okWide Tryd.prog W r b0 67 v) (h : DataW.Trod enc Tryd.prog W base spare held 67 v d p) : ∃ (k : Nat) (x n : Int), v = .agg #[.int .u8 k, .int .i64 x, .int .i64 n] ∧ k < 256 := by
  obtain ⟨cs, rfl, hsz⟩ := okWide_struct Tryd.underlying67 hv
  obtain ⟨c0, c1, c2, rfl⟩ := kd_cut (hsz.trans (by kernel_rfl))
  obtain ⟨fuel, hf⟩ := h
  obtain ⟨n0, y0, h0⟩ := kd_field Tryd.underlying67 (by kernel_rfl) hf (i := 0) rfl (c := c0) rfl
  obtain ⟨n1, y1, h1⟩ := kd_field Tryd.underlying67 (by kernel_rfl) hf (i := 1) rfl (c := c1) rfl
  obtain ⟨n2, y2, h2⟩ := kd_field Tryd.underlying67 (by kernel_rfl) hf (i := 2) rfl (c := c2) rfl
  obtain ⟨a0, e0, _, w0⟩ := DataW.trod_int Tryd.underlying65 h0
  obtain ⟨a1, e1, _, w1⟩ := DataW.trod_int Tryd.underlying3 h1
  obtain ⟨a2, e2, _, w2⟩ := DataW.trod_int Tryd.underlying3 h2
  injection e0 with e0 _
  injection e1 with e1 _
  injection e2 with e2 _
  subst e0 e1 e2
  have := kd_in_u8 w0
  exact ⟨a0.toNat, a1, a2, by rw [Int.toNat_of_nonneg this.1], by omega⟩
end
end Go.Proofs.YtpolkioaagahhaaDoor

/- How the laws of cpu are opened: a state that came in by value. -/
namespace Go.Proofs.YtpolkioaagahhaaDoor
open Go.RowKit Go.Lib Go.ChangeShapes Go.WideShapes Go.ChangeAt Go.Deep Go.Joins
set_option linter.unusedVariables false
set_option maxRecDepth 8000

def Cu.fitI (x : Int) : Prop := -9223372036854775808 ≤ x ∧ x ≤ 9223372036854775807
theorem Cu.fitI_of {x : Int} (w : (Lit.int .i64 x).wf = true) : Cu.fitI x := by
  simp only [Lit.wf, Bool.and_eq_true, decide_eq_true_eq] at w
  have e1 : IntKind.i64.min = -9223372036854775808 := by kernel_rfl
  have e2 : IntKind.i64.max = 9223372036854775807 := by kernel_rfl
  unfold Cu.fitI
  omega
theorem Cu.in_u8 {n : Int} (w : (Lit.int .u8 n).wf = true) : 0 ≤ n ∧ n ≤ 255 := kd_in_u8 w
theorem Cu.in_u16 {n : Int} (w : (Lit.int .u16 n).wf = true) : 0 ≤ n ∧ n ≤ 65535 := by
  simp only [Lit.wf, Bool.and_eq_true, decide_eq_true_eq] at w
  have e1 : IntKind.u16.min = 0 := by kernel_rfl
  have e2 : IntKind.u16.max = 65535 := by kernel_rfl
  omega
theorem Cu.cut10 {cs : Array Value} (h : cs.size = 10) : ∃ c0 c1 c2 c3 c4 c5 c6 c7 c8 c9, cs = #[c0, c1, c2, c3, c4, c5, c6, c7, c8, c9] := by
  obtain ⟨l⟩ := cs
  match l, h with
  | [c0, c1, c2, c3, c4, c5, c6, c7, c8, c9], _ => exact ⟨c0, c1, c2, c3, c4, c5, c6, c7, c8, c9, rfl⟩
section
variable {H : Type} {enc : TypeId × Value → H} {W : World} {base b0 : Nat} {spare : Nat → Bool} {held : Bool} {r : Reach} {v : Value} {d : DataW H} {p : List MemPlace}
theorem Cu.regs_of {m : Nat} {c1 c2 c3 c4 c5 c6 c7 c8 : Value} {x : DataW H × List MemPlace} (h : DataW.trod enc Tryd.prog W base spare held m 22 [c1, c2, c3, c4, c5, c6, c7, c8] = some x) :
    ∃ q : Nat → Int, c1 = .int .i64 (q 0) ∧ c2 = .int .i64 (q 1) ∧ c3 = .int .i64 (q 2) ∧ c4 = .int .i64 (q 3) ∧ c5 = .int .i64 (q 4) ∧ c6 = .int .i64 (q 5) ∧ c7 = .int .i64 (q 6) ∧ c8 = .int .i64 (q 7) := by
  obtain ⟨xs, n, _, _, _, hlen, hel⟩ := DataW.trod_array Tryd.underlying22 h
  rw [Cu.int_cells] at hel
  have one : ∀ i (hi : i < 8) c, [c1, c2, c3, c4, c5, c6, c7, c8][i]? = some c → ∃ q : Int, c = .int .i64 q := by
    intro i hi c hc
    have h1 := hel i hi
    rw [Nat.mul_one, List.getElem?_eq_getElem (by omega)] at h1
    have hcl := (List.getElem?_eq_some_iff.1 hc)
    obtain ⟨hcl, hce⟩ := hcl
    rw [List.drop_eq_getElem_cons hcl, hce] at h1
    have h2 : DataW.trod enc Tryd.prog W base spare held n 3 [c] = some (xs[i]'(by omega)) := by simpa using h1
    obtain ⟨a, e, _, _⟩ := DataW.trod_int Tryd.underlying3 h2
    injection e with e _
    exact ⟨a, e⟩
  obtain ⟨q1, e1⟩ := one 0 (by omega) c1 rfl
  obtain ⟨q2, e2⟩ := one 1 (by omega) c2 rfl
  obtain ⟨q3, e3⟩ := one 2 (by omega) c3 rfl
  obtain ⟨q4, e4⟩ := one 3 (by omega) c4 rfl
  obtain ⟨q5, e5⟩ := one 4 (by omega) c5 rfl
  obtain ⟨q6, e6⟩ := one 5 (by omega) c6 rfl
  obtain ⟨q7, e7⟩ := one 6 (by omega) c7 rfl
  obtain ⟨q8, e8⟩ := one 7 (by omega) c8 rfl
  exact ⟨fun i => match i with | 0 => q1 | 1 => q2 | 2 => q3 | 3 => q4 | 4 => q5 | 5 => q6 | 6 => q7 | _ => q8, e1, e2, e3, e4, e5, e6, e7, e8⟩
theorem Cu.open_state (hv : Value.okWide Tryd.prog W r b0 24 v) (h : DataW.Trod enc Tryd.prog W base spare held 24 v d p) : ∃ (pc md : Int) (q : Nat → Int), v = Cu.stV pc q md ∧ pc ≤ 9223372036854775807 := by
  obtain ⟨cs, rfl, hsz⟩ := okWide_struct Tryd.underlying24 hv
  obtain ⟨c0, c1, c2, c3, c4, c5, c6, c7, c8, c9, rfl⟩ := Cu.cut10 (hsz.trans (by kernel_rfl))
  obtain ⟨fuel, hf⟩ := h
  obtain ⟨xs, n, _, _, _, hlen, hfld⟩ := DataW.trod_struct Tryd.underlying24 hf
  have h0 : DataW.trod enc Tryd.prog W base spare held n 3 (([c0, c1, c2, c3, c4, c5, c6, c7, c8, c9].drop 0).take (Tryd.prog.cellsOf 3)) = xs[0]? := hfld 0 _ rfl
  have h1 : DataW.trod enc Tryd.prog W base spare held n 22 (([c0, c1, c2, c3, c4, c5, c6, c7, c8, c9].drop 1).take (Tryd.prog.cellsOf 22)) = xs[1]? := hfld 1 _ rfl
  have h2 : DataW.trod enc Tryd.prog W base spare held n 3 (([c0, c1, c2, c3, c4, c5, c6, c7, c8, c9].drop 9).take (Tryd.prog.cellsOf 3)) = xs[2]? := hfld 2 _ rfl
  have e8 : Tryd.prog.cellsOf 22 = 8 := by kernel_rfl
  have l3 : xs.length = 3 := hlen
  rw [Cu.int_cells] at h0 h2
  rw [e8] at h1
  rw [List.getElem?_eq_getElem (by omega)] at h0 h1 h2
  have g0 : DataW.trod enc Tryd.prog W base spare held n 3 [c0] = some (xs[0]'(by omega)) := by simpa [Value.cells] using h0
  have g1 : DataW.trod enc Tryd.prog W base spare held n 22 [c1, c2, c3, c4, c5, c6, c7, c8] = some (xs[1]'(by omega)) := by simpa [Value.cells] using h1
  have g2 : DataW.trod enc Tryd.prog W base spare held n 3 [c9] = some (xs[2]'(by omega)) := by simpa [Value.cells] using h2
  obtain ⟨a, ea, _, wa⟩ := DataW.trod_int Tryd.underlying3 g0
  obtain ⟨m, em, _, _⟩ := DataW.trod_int Tryd.underlying3 g2
  injection ea with ea _
  injection em with em _
  obtain ⟨q, rfl, rfl, rfl, rfl, rfl, rfl, rfl, rfl⟩ := Cu.regs_of g1
  subst ea em
  exact ⟨a, m, q, rfl, (Cu.fitI_of wa).2⟩
end
end Go.Proofs.YtpolkioaagahhaaDoor

/- CpuSteps, whatever its input. -/
namespace Go.Proofs.YtpolkioaagahhaaDoor
open Go.RowKit Go.Lib
set_option linter.unusedVariables false
set_option maxRecDepth 20000

theorem Cu.steps_walk (s : ByteArray) (size : Int) (pc md : Int) (r : Nat → Int) (n : Int) (w : World) (hN : Nm w) (hss : s.size ≤ 9223372036854775807) (hz : Cu.fitI size) (hpc : pc ≤ 9223372036854775807) (bn : 0 ≤ n ∧ n ≤ 255) : Calls Tryd.prog 3 #[.string s, .int .i64 size, Cu.stV pc r md, .int .u8 n] w fun e w' => e = .returned (.bool true) ∧ Below w.heap.size w w' := by
  by_cases hok : s.size ≤ 400 ∧ 0 ≤ size ∧ size ≤ 400
  · obtain ⟨h1, h2, h3⟩ := hok
    obtain ⟨vl, rfl⟩ := Int.eq_ofNat_of_zero_le h2
    exact Cu.steps_ok s vl pc md r n w hN hpc bn h1 (by omega)
  · have key : 400 < (s.size : Int) ∨ ((s.size : Int) ≤ 400 ∧ size < 0) ∨ ((s.size : Int) ≤ 400 ∧ 0 ≤ size ∧ 400 < size) := by omega
    obtain ⟨W0, hW0, g0, hB0⟩ := ibox w 24 (Cu.stC pc r md)
    have HL := Lib.hid (Cu.live3 w W0 (hN.grown g0 (by simp)) g0)
    unfold Cu.stV
    unfold Cu.stC at hW0 ⊢
    clear hok hN g0 hB0
    rcases key with h | ⟨h, h2⟩ | ⟨h, h2, h3⟩
    all_goals
      go_enter Tryd.func3, Tryd.ntmps3
      go_upto_region 1 with (fail)
      rw [← hW0]
      clear hW0
      go_wp2_with (go_at_call 7; (with_reducible refine HL.out.mono ?_); rintro e w1 ⟨rfl, g1⟩)
      go_ret
      exact ⟨rfl, Cu.below g1⟩
end Go.Proofs.YtpolkioaagahhaaDoor

/- The row of CpuSteps: each step of any program is the document's: for every text, size, state and number of steps the law returns true, where the package's table starts as1 the program's text lays it. -/
namespace Go.Proofs.YtpolkioaagahhaaDoor
open Go.RowKit Go.Lib Go.ChangeShapes Go.WideShapes Go.ChangeAt Go.Deep Go.Joins
open Go.ChangeMaps (open_string shut_string)
set_option linter.unusedVariables false

set_option maxRecDepth 100000 in
theorem cpuSteps_lifted (os : Os) (started : os.Started) (H : Type) (enc : TypeId × Value → H) :
    ReturnsInHanded {} Tryd.checked os 3 .any (fun w args => (Rows.cpuStepsSpec.pre enc Tryd.prog Tryd.f3 [] false w args ∧ laidMetH Tryd.prog laid1 w) ∧ sizedMet enc Tryd.prog Tryd.f3 (OpenSpec.ofChange Rows.cpuStepsSpec) false w args)
      (Rows.cpuStepsSpec.post enc Tryd.prog Tryd.f3 false true false false) := by
  refine returnsInHanded_of_change_and (C := Tryd.checked) (X := fun w _ => laidMetH Tryd.prog laid1 w) (fun _ _ _ hh h => h.of_heap hh) kd_own started (by kernel_rfl) Tryd.func3
    (ChangeSpec.witness_shaped (enc := enc) (C := Tryd.checked) (os := os) (X := fun w _ => laidMetH Tryd.prog laid1 w) false (World.doorLaid Tryd.prog 400 os) #[.string .empty, .int .i64 0, .agg #[.int .i64 0, .int .i64 0, .int .i64 0, .int .i64 0, .int .i64 0, .int .i64 0, .int .i64 0, .int .i64 0, .int .i64 0, .int .i64 0], .int .u8 0] 8 rfl (World.shaped_of_RefB (by kernel_rfl) (by kernel_rfl)) (by kernel_rfl) (by kernel_rfl) (by kernel_rfl) (kd_door os _)) ?_
  intro W base args ds gs before hval0 hW _ _ hL _
  have hval : ∀ (j : Nat) t v, Tryd.f3.params[j]? = some t → args[j]? = some v → Value.okWide Tryd.prog W .any base t v := hval0
  have hW' := hW
  obtain ⟨p, q, hA0, hV, rfl, hfz, hnd⟩ := hW
  have hA : DataW.TrodAll enc Tryd.prog W 0 (fun _ => true) true Tryd.f3.params.toList args.toList ds p := hA0
  rw [Tryd.params3] at hA hval
  obtain ⟨v0, vs0, d0, ds0, p0, q0, hargs, rfl, rfl, h0, r0⟩ := trodAll_cons hA
  obtain ⟨v1, vs1, d1, ds1, p1, q1, rfl, rfl, rfl, h1, r1⟩ := trodAll_cons r0
  obtain ⟨v2, vs2, d2, ds2, p2, q2, rfl, rfl, rfl, h2, r2⟩ := trodAll_cons r1
  obtain ⟨v3, vs3, d3, ds3, p3, q3, rfl, rfl, rfl, h3, r3⟩ := trodAll_cons r2
  obtain ⟨rfl, rfl, rfl⟩ := trodAll_nil r3
  obtain rfl : args = #[v0, v1, v2, v3] := by cases args; simp_all
  obtain ⟨rfl, rfl⟩ := trodVars_none hV
  have k0 := h0
  have lt0 : ∀ x ∈ p0, x.block < W.heap.size := by obtain ⟨m, hm⟩ := k0; exact DataW.trod_lt m _ _ _ hm
  obtain ⟨s0, rfl, hs0⟩ := kd_string (hval 0 9 v0 rfl rfl) h0
  obtain ⟨a1, rfl, rfl, rfl, w1⟩ := open_int Tryd.underlying3 (hval 1 3 v1 rfl rfl) h1
  have k2 := h2
  have lt2 : ∀ x ∈ p2, x.block < W.heap.size := by obtain ⟨m, hm⟩ := k2; exact DataW.trod_lt m _ _ _ hm
  obtain ⟨pc2, md2, r2', rfl, hs2⟩ := Cu.open_state (hval 2 24 v2 rfl rfl) h2
  obtain ⟨a3, rfl, rfl, rfl, w3⟩ := open_int Tryd.underlying5 (hval 3 5 v3 rfl rfl) h3
  clear hA0 hval0
  refine (Cu.steps_walk s0 a1 pc2 md2 r2' a3 W (nm_of_laid hL) hs0 (Cu.fitI_of w1) hs2 (Cu.in_u8 w3)).mono fun e W' ⟨he, bel⟩ => ?_
  subst he
  exact ⟨_, rfl, _, _, _, [], _, [], hW', trodAll_mk1 (shut_bool Tryd.underlying4 _), (trodAll_cons_mk (Below.trod kd_laid (by kernel_rfl) (of_decide_eq_true (by kernel_rfl)) k0 bel lt0) (trodAll_cons_mk (shut_int Tryd.underlying3 w1) (trodAll_cons_mk (Below.trod kd_laid (by kernel_rfl) (of_decide_eq_true (by kernel_rfl)) k2 bel lt2) (trodAll_cons_mk (shut_int Tryd.underlying5 w3) trodAll_mk0)))), rfl, bel.frame _, fun h => by cases h⟩
theorem cpuSteps_holds : Rows.CpuStepsSaid :=
  OpenClaim.holds_of_wide 3 Tryd.f3 rfl rfl rfl rfl rfl rfl rfl ⟨rfl, rfl, rfl, rfl, rfl⟩ rfl rfl rfl rfl rfl (by kernel_rfl) Tryd.func3 (by kernel_rfl)
    (of_decide_eq_true (by kernel_rfl)) (by unfold Func.isWrapper; first | (rw [if_pos (by decide +kernel)]; kernel_rfl) | (rw [if_neg (by decide +kernel)]; exact ⟨rfl, rfl⟩))
    (fun os started H enc _ => cpuSteps_lifted os started H enc)
#print axioms cpuSteps_holds
end Go.Proofs.YtpolkioaagahhaaDoor

/- CpuSteps: each step of any program is the document's: for every text, size, state and number of steps the law returns true. No condition but the tied card's: the package's table starts as1 the program's text lays it. -/
namespace Go.Proofs.YtpolkioaagahhaaDoor
open Go

theorem cpuSteps_card : Rows.CpuStepsCardSaid :=
  Claim7.holds_tied_plain_at .later [] [.data] true _ false
    cpuSteps_holds (fun _ h => by cases h) (by kernel_rfl) (fun _ h => by cases h) cpuSteps_row_tie rfl ⟨rfl, rfl⟩ (by kernel_rfl) rfl
    (fun f fn hf hfn => by
      obtain rfl : f = 3 := Option.some.inj ((show Tryd.prog.funcNamed "campanile/campanilelaw21.CpuSteps" = some 3 by kernel_rfl).symm.trans hf) |>.symm
      obtain rfl : fn = Tryd.f3 := (Option.some.inj (Tryd.func3.symm.trans hfn)).symm
      exact ⟨by kernel_rfl, fun j t ht => by
        rw [Tryd.params3] at ht
        have hm : t ∈ [9, 3, 24, 5] := by simpa using Array.mem_of_getElem? ht
        have hall : ([9, 3, 24, 5].all fun u => !Tryd.prog.wantsStandIn u) = true := by kernel_rfl
        exact (show Tryd.prog.wantsStandIn t = false by simpa using List.all_eq_true.1 hall t hm)⟩)
    (by kernel_rfl)
#print axioms cpuSteps_card
end Go.Proofs.YtpolkioaagahhaaDoor
