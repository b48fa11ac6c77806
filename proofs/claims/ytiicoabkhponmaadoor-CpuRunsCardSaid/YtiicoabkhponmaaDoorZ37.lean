import Derived.Test.YtiicoabkhponmaaDoorZ29
import Derived.Test.YtiicoabkhponmaaDoorZ30
import Derived.Test.YtiicoabkhponmaaDoorZ31
import Derived.Test.YtiicoabkhponmaaDoorZ32
import Derived.Test.YtiicoabkhponmaaDoorZ33
import Derived.Test.YtiicoabkhponmaaDoorZ34
import Derived.Test.YtiicoabkhponmaaDoorZ35
import Derived.Test.YtiicoabkhponmaaDoorZ36
import Derived.Test.YtiicoabkhponmaaDoorZ28
set_option linter.all false
/- The document's Step, by contract, whatever it is asked. -/
namespace Go.Proofs.YtiicoabkhponmaaDoor
open Go.RowKit Go.Lib
set_option linter.unusedVariables false

theorem Cu.rstep_any (V : List UInt8) (A : Option Addr) (cap : Nat) (hV : V.length ≤ 1000) (pc md : Int) (r : Nat → Int) (hpm : pc ≤ 9223372036854775807) (w : World) (hA : Ints w A cap (num V)) :
    Calls Tryd.prog 11 #[.slice A V.length cap, .agg #[.int .i64 pc, .int .i64 (r 0), .int .i64 (r 1), .int .i64 (r 2), .int .i64 (r 3), .int .i64 (r 4), .int .i64 (r 5), .int .i64 (r 6), .int .i64 (r 7), .int .i64 md]] w (Cu.Rst w V A (Cu.step V pc r md)) := by
  unfold Cu.step
  by_cases hmd : md = 0
  · subst hmd
    rw [if_neg (fun h => h rfl)]
    by_cases hp : 0 ≤ pc ∧ pc + 4 ≤ V.length
    · rw [if_pos hp]
      obtain ⟨k, rfl⟩ := Int.eq_ofNat_of_zero_le hp.1
      have hk : k + 4 ≤ V.length := by omega
      rw [Int.toNat_natCast]
      have hs := Cu.ins_size hk
      by_cases hm : mayI (gb (Cu.ins V k) 0) (gb (Cu.ins V k) 1) (gw (Cu.ins V k) 2) = true
      · rw [if_pos hm]
        have hget : getV (Cu.ins V k) = .tuple #[.agg #[.int .u8 (gb (Cu.ins V k) 0), .int .i64 (gb (Cu.ins V k) 1), .int .i64 (gw (Cu.ins V k) 2)], .int .i64 0] := by unfold getV; rw [if_neg (by omega), if_pos hm]
        obtain ⟨hc, hx0, hx, hn0, hn⟩ := mayI_facts hm
        have hreg : 2 ≤ gb (Cu.ins V k) 0 ∧ gb (Cu.ins V k) 0 ≤ 10 → gw (Cu.ins V k) 2 < 8 := fun h2 => by
          obtain ⟨-, -, h3⟩ := mayI_iff.1 hm
          have e2 : mxN (gb (Cu.ins V k) 0) = 7 := by unfold mxN rgB; simp; omega
          omega
        clear hm hs
        generalize gb (Cu.ins V k) 0 = c at *
        generalize gb (Cu.ins V k) 1 = x at *
        generalize gw (Cu.ins V k) 2 = n at *
        have hx8 : x < 8 := by omega
        obtain ⟨j, hj⟩ := Int.eq_ofNat_of_zero_le (Cu.cut_in r n).1
        have h16 : c = 0 ∨ c = 1 ∨ c = 2 ∨ c = 3 ∨ c = 4 ∨ c = 5 ∨ c = 6 ∨ c = 7 ∨ c = 8 ∨ c = 9 ∨ c = 10 ∨ c = 11 ∨ c = 12 ∨ c = 13 ∨ c = 14 ∨ c = 15 := by omega
        rcases h16 with rfl | rfl | rfl | rfl | rfl | rfl | rfl | rfl | rfl | rfl | rfl | rfl | rfl | rfl | rfl | rfl
        · exact Cu.rs_0 V A _ cap rfl hV k r k rfl hk x n hx8 hget w hA
        · exact Cu.rs_1 V A _ cap rfl hV k r k rfl hk x n hx8 hget w hA
        · exact Cu.rs_2 V A _ cap rfl hV k r k rfl hk x n hx8 (hreg (by omega)) hget w hA
        · exact Cu.rs_3 V A _ cap rfl hV k r k rfl hk x n hx8 (hreg (by omega)) hget w hA
        · exact Cu.rs_4 V A _ cap rfl hV k r k rfl hk x n hx8 (hreg (by omega)) hget w hA
        · exact Cu.rs_5 V A _ cap rfl hV k r k rfl hk x n hx8 (hreg (by omega)) hget w hA
        · exact Cu.rs_6 V A _ cap rfl hV k r k rfl hk x n hx8 (hreg (by omega)) hget w hA
        · by_cases hf : j + 1 ≤ V.length
          · exact Cu.rs_7y V A _ cap rfl hV k r k rfl hk x n hx8 (hreg (by omega)) j hj hf hget w hA
          · exact Cu.rs_7n V A _ cap rfl hV k r k rfl hk x n hx8 (hreg (by omega)) j hj hf hget w hA
        · by_cases hf : j + 1 ≤ V.length
          · exact Cu.rs_8y V A _ cap rfl hV k r k rfl hk x n hx8 (hreg (by omega)) j hj hf hget w hA
          · exact Cu.rs_8n V A _ cap rfl hV k r k rfl hk x n hx8 (hreg (by omega)) j hj hf hget w hA
        · by_cases hf : j + 2 ≤ V.length
          · exact Cu.rs_9y V A _ cap rfl hV k r k rfl hk x n hx8 (hreg (by omega)) j hj hf hget w hA
          · exact Cu.rs_9n V A _ cap rfl hV k r k rfl hk x n hx8 (hreg (by omega)) j hj hf hget w hA
        · by_cases hf : j + 2 ≤ V.length
          · exact Cu.rs_10y V A _ cap rfl hV k r k rfl hk x n hx8 (hreg (by omega)) j hj hf hget w hA
          · exact Cu.rs_10n V A _ cap rfl hV k r k rfl hk x n hx8 (hreg (by omega)) j hj hf hget w hA
        · exact Cu.rs_11 V A _ cap rfl hV k r k rfl hk x n hx8 hget w hA
        · by_cases hz : Cu.cut r x = 0
          · exact Cu.rs_12y V A _ cap rfl hV k r k rfl hk x n hx8 hz hget w hA
          · exact Cu.rs_12n V A _ cap rfl hV k r k rfl hk x n hx8 hz hget w hA
        · by_cases hz : Cu.cut r x < Cu.cut r 0
          · exact Cu.rs_13y V A _ cap rfl hV k r k rfl hk x n hx8 hz hget w hA
          · exact Cu.rs_13n V A _ cap rfl hV k r k rfl hk x n hx8 hz hget w hA
        · exact Cu.rs_14 V A _ cap rfl hV k r k rfl hk x n hx8 hget w hA
        · exact Cu.rs_15 V A _ cap rfl hV k r k rfl hk x n hx8 hget w hA
      · rw [if_neg hm]
        have hget : getV (Cu.ins V k) = .tuple #[.agg #[.int .u8 0, .int .i64 0, .int .i64 0], .int .i64 12] := by unfold getV; rw [if_neg (by omega), if_neg hm]
        exact Cu.rs_bad V A _ cap rfl hV k r k rfl hk hget w hA
    · rw [if_neg hp]
      exact Cu.rs_off V A _ cap rfl hV pc r hp hpm w hA
  · rw [if_pos hmd]
    exact (Cu.rstep_off (.slice A V.length cap) pc md r hmd w).mono fun e w' ⟨e1, g⟩ => ⟨A, V.length, cap, e1, rfl, Cu.ints_gr hA g, g, fun _ _ h => h⟩
end Go.Proofs.YtiicoabkhponmaaDoor

/- The law's view, with the document's bytes. -/
namespace Go.Proofs.YtiicoabkhponmaaDoor
open Go.RowKit Go.Lib
set_option linter.unusedVariables false
set_option maxRecDepth 8000

theorem OwnN.ints_of' {w : World} {B n c : Nat} {A : Option Addr} {l : List Int} (h : OwnN w B (.slice A n c) l) : Ints w A c l := by
  obtain ⟨A', c', hv, hi, _⟩ := h.ints
  injection hv with e1 e2 e3
  subst e1 e3
  exact hi
set_option maxRecDepth 20000 in
set_option maxHeartbeats 6400000 in
theorem Cu.view_slice (s : ByteArray) (base size : Nat) (hs : s.size ≤ 400) (hb : base ≤ 500) (hz : size ≤ 400) (w : World) : Calls Tryd.prog 8 #[.string s, .int .i64 base, .int .i64 size] w fun e w' => ∃ m g A c, e = .returned (.tuple #[.pointer (some ⟨m, 0, none⟩), Cu.vw m base size, .slice A size c]) ∧ MemG w' w.heap.size m g (Cu.z base ++ Cu.v0 s size ++ Cu.z (1000 - base - size)) ∧ Below w.heap.size w w' ∧ Ints w' A c (num (Cu.v0 s size)) ∧ ∀ i, i < w.heap.size ∨ i = g → OffI (Cu.v0 s size) A i := by
  obtain ⟨k, hk⟩ : ∃ k, (k = s.size ∧ s.size ≤ size) ∨ (k = size ∧ size < s.size) := by
    by_cases h : s.size ≤ size
    · exact ⟨_, .inl ⟨rfl, h⟩⟩
    · exact ⟨_, .inr ⟨rfl, by omega⟩⟩
  have hks : k ≤ s.size ∧ k ≤ size := by omega
  have hdl : s.data.toList.length = s.size := by rw [Array.length_toList]; rfl
  obtain ⟨t, ht⟩ : ∃ t, t = s.extract 0 k := ⟨_, rfl⟩
  have htl : t.data.toList = s.data.toList.take k := by
    rw [ht]
    simp [ByteArray.extract, ByteArray.copySlice]
  have hts : t.size = k := by
    have : t.data.toList.length = t.size := by rw [Array.length_toList]; rfl
    rw [← this, htl, List.length_take]
    omega
  have hv0 : t.data.toList ++ Cu.z (size - k) = Cu.v0 s size := by
    unfold Cu.v0 Cu.z
    rw [htl]
    rcases hk with ⟨rfl, h⟩ | ⟨rfl, h⟩
    · rw [List.take_of_length_le (by omega), List.take_of_length_le (by omega)]
    · rw [Nat.sub_self, show k - s.size = 0 from by omega]
  have HN := Lib.hid (show ∀ W, Calls Tryd.prog 21 #[.int .i64 size] W fun r w' => ∃ A c, r = .returned (.slice A size c) ∧ Ints w' A c (num (Cu.z size)) ∧ Below W.heap.size W w' from fun W => (rmnew_any size W (by omega)).mono fun e w' ⟨v, h1, h2, h3⟩ => by
    rw [Cu.size_z size (by omega)] at h2
    obtain ⟨A, c, e1, e2, -⟩ := h2.ints
    refine ⟨A, c, ?_, e2, h3⟩
    rw [h1, e1, num_len, List.length_replicate])
  have HBY := Lib.hid (show ∀ W, Calls Tryd.prog 23 #[.string t] W fun r w' => ∃ A c, r = .returned (.slice A k c) ∧ Ints w' A c (num t.data.toList) ∧ Below W.heap.size W w' from fun W => (rbytes_any t W (by omega)).mono fun e w' ⟨v, h1, h2, h3⟩ => by
    obtain ⟨A, c, e1, e2, -⟩ := h2.ints
    refine ⟨A, c, ?_, e2, h3⟩
    rw [h1, e1, num_len, htl, List.length_take, hdl, Nat.min_eq_left hks.1])
  have HWI := Lib.hid (show ∀ W A c A2 c2, Ints W A c (num (Cu.z size)) → Ints W A2 c2 (num t.data.toList) → Calls Tryd.prog 22 #[.slice A size c, .int .i64 0, .slice A2 k c2] W fun r w' => ∃ A3 c3, r = .returned (.slice A3 size c3) ∧ Ints w' A3 c3 (num (Cu.v0 s size)) ∧ (∀ i, i < W.heap.size → OffI (Cu.v0 s size) A3 i) ∧ Below W.heap.size W w' from fun W A c A2 c2 hA hX => by
    have hkl : t.data.toList.length = k := by rw [htl, List.length_take, hdl]; omega
    have := rwith_any A c (Cu.z size) 0 A2 c2 k (num t.data.toList) (by rw [num_len, hkl]) size (Cu.z_len size).symm W hA hX (by rw [num_len, hkl, Cu.z_len]; omega) (by rw [Cu.z_len]; omega)
    rw [Cu.low8_all, Cu.over_z size 0 t.data.toList size (by omega) (by omega), hkl] at this
    simp only [Cu.z, List.replicate_zero, List.nil_append, Nat.sub_zero, Nat.sub_self, List.append_nil] at this
    have hv := hv0
    unfold Cu.z at hv
    rw [hv] at this
    exact this.mono fun e w' ⟨v, e1, e2, e3⟩ => by
      obtain ⟨A3, c3, rfl⟩ := e2.slice (show (num (Cu.v0 s size)).length = size by rw [num_len, Cu.v0_len])
      exact ⟨A3, c3, e1, e2.ints_of', fun i hi _ => e2.off hi, e3⟩)
  have HNE := Lib.hid (show ∀ W, Calls Tryd.prog 19 #[.int .i64 1000] W fun r w' => ∃ m g, r = .returned (.pointer (some ⟨m, 0, none⟩)) ∧ MemG w' W.heap.size m g (Cu.z 1000) ∧ Below W.heap.size W w' from fun W => (mnew_any 1000 W).mono fun e w' ⟨m, h1, h2, h3⟩ => by
    obtain ⟨g, h4⟩ := h2.named
    exact ⟨m, g, h1, h4, h3⟩)
  have HPU := Lib.hid (show ∀ W B m g, MemG W B m g (Cu.z 1000) → Calls Tryd.prog 20 #[.pointer (some ⟨m, 0, none⟩), .int .i64 base, .string t] W fun r w' => r = .returned (.int .i64 0) ∧ MemG w' B m g (Cu.z base ++ Cu.v0 s size ++ Cu.z (1000 - base - size)) ∧ W.grownBy w' (some g) from fun W B m g h => by
    have := mput_any W B m g (Cu.z 1000) base t h (by rw [Cu.z_len]; omega) (by omega)
    have ec : chk (Cu.z 1000).length (base : Int) t.size = 0 := by rw [Cu.z_len]; unfold chk; rw [if_neg (by omega), if_neg (by omega), if_neg (by omega), if_neg (by omega)]
    have hkl : t.data.toList.length = k := by rw [htl, List.length_take, hdl]; omega
    rw [ec, if_pos rfl, Int.toNat_natCast, Cu.over_z 1000 base t.data.toList size (by omega) (by omega), hkl, hv0] at this
    exact this)
  have HB0 := Lib.hid (show Cu.Kb w (w.alloc (.cells #[.pointer none, .int .i64 0, .int .i64 0] 28)) from ⟨Blk.new _ _ _, (Below.refl _ _).alloc (Nat.le_refl _) _⟩)
  generalize Cu.z base ++ Cu.v0 s size ++ Cu.z (1000 - base - size) = L at *
  have k1 : (k : Int) ≤ (s.size : Int) := by omega
  have k2 : ¬ (s.size : Int) < (k : Int) := by omega
  have hs4 : (s.size : Int) ≤ 400 := by omega
  have HT := Lib.hid ht.symm
  clear ht htl hts hv0 hdl hks
  unfold Cu.vw
  rcases hk with ⟨rfl, h⟩ | ⟨rfl, h⟩
  · have i1 : ¬ (size : Int) < (s.size : Int) := by omega
    have i2 : (s.size : Int) ≤ (size : Int) := by omega
    have hts : t = s := by rw [← HT.out]; simp
    subst hts
    clear h
    go_enter Tryd.func8, Tryd.ntmps8
    go_upto_region 1 with (fail)
    obtain ⟨W0, hW0⟩ : ∃ W0, W0 = w.alloc (.cells #[.pointer none, .int .i64 0, .int .i64 0] 28) := ⟨_, rfl⟩
    rw [← hW0] at HB0 ⊢
    clear hW0
    go_upto_region 6 with (first
      | (go_at_call 21; (with_reducible refine (HN.out _).mono ?_); rintro e w1 ⟨A1, c1, rfl, j1, b1⟩; have J1 := Lib.hid j1; have HB1 := Lib.hid (HB0.out.step b1); clear j1 b1)
      | (go_at_call 23; (try rw [HT.out]); (with_reducible refine (HBY.out _).mono ?_); rintro e w2 ⟨A2, c2, rfl, j2, b2⟩; have J2 := Lib.hid j2; have J1b := Lib.hid (J1.out.below b2); have HB2 := Lib.hid (HB1.out.step b2); clear j2 b2)
      | (go_at_call 22; (with_reducible refine (HWI.out _ _ _ _ _ J1b.out J2.out).mono ?_); rintro e w3 ⟨A3, c3, rfl, hv3, ho3, b3⟩; have HB3 := Lib.hid (HB2.out.step b3); have J3 := Lib.hid hv3; have HO3 := Lib.hid ho3; have HL2 := Lib.hid HB2.out.1.lt; clear hv3 ho3 b3)
      | (go_at_call 19; (with_reducible refine (HNE.out _).mono ?_); rintro e w4 ⟨m, g, rfl, hm4, b4⟩; have HM4 := Lib.hid hm4; have HB4 := Lib.hid (HB3.out.step b4); have HLT := Lib.hid HB3.out.1.lt; have J4 := Lib.hid (J3.out.below b4); have HOG := Lib.hid (Cu.offi_new J3.out hm4.1); clear hm4 b4)
      | (go_at_call 20; (try rw [HT.out]); (with_reducible refine (HPU.out _ _ _ _ HM4.out).mono ?_); rintro e w5 ⟨rfl, hm5, b5⟩; have HM5 := Lib.hid hm5; have HB5 := Lib.hid (show Cu.Kb w w5 from ⟨HB4.out.1.only b5 (fun e => by injection e with e; have := HM4.out.1; have := HLT.out; omega), HB4.out.2.trans (below_of_only b5 (Nat.le_of_lt HB4.out.1.lt) (fun q hq => by injection hq with hq; have := HM4.out.1; have := HLT.out; omega))⟩); have J5 := Lib.hid (J4.out.farI b5 HOG.out); clear hm5 b5))
    obtain ⟨x0, x1, x2, f0, f1, f2⟩ := in3f HB5.out.1
    go_wp2
    obtain ⟨⟨r0, r1, r2⟩, G8, G9⟩ := Cu.Kb.put HB5.out (a := .pointer (some ⟨m, 0, none⟩)) (b := .int .i64 base) (c := .int .i64 size) _ rfl
    refine bodyPost_ret (v := .tuple #[.pointer (some ⟨m, 0, none⟩), .agg #[.pointer (some ⟨m, 0, none⟩), .int .i64 base, .int .i64 size], .slice A3 size c3]) (by simp [results, Tryd.results8, go_sem, r0, r1, r2]) rfl ⟨m, g, A3, c3, rfl, ?_, G8, J5.out.farI G9 (HO3.out _ HL2.out), ?_⟩
    · exact Cu.memg_low (HM5.out.far G9 (by have := HM5.out.1; have := HLT.out; omega) (by have := HM5.out.2.1; have := HLT.out; omega)) (Nat.le_of_lt HLT.out)
    rintro i (hi | rfl)
    · exact HO3.out i (by have := HL2.out; omega)
    · exact HOG.out
  · have i1 : (k : Int) < (s.size : Int) := by omega
    clear h
    go_enter Tryd.func8, Tryd.ntmps8
    go_upto_region 1 with (fail)
    obtain ⟨W0, hW0⟩ : ∃ W0, W0 = w.alloc (.cells #[.pointer none, .int .i64 0, .int .i64 0] 28) := ⟨_, rfl⟩
    rw [← hW0] at HB0 ⊢
    clear hW0
    go_upto_region 6 with (first
      | (go_at_call 21; (with_reducible refine (HN.out _).mono ?_); rintro e w1 ⟨A1, c1, rfl, j1, b1⟩; have J1 := Lib.hid j1; have HB1 := Lib.hid (HB0.out.step b1); clear j1 b1)
      | (go_at_call 23; (try rw [HT.out]); (with_reducible refine (HBY.out _).mono ?_); rintro e w2 ⟨A2, c2, rfl, j2, b2⟩; have J2 := Lib.hid j2; have J1b := Lib.hid (J1.out.below b2); have HB2 := Lib.hid (HB1.out.step b2); clear j2 b2)
      | (go_at_call 22; (with_reducible refine (HWI.out _ _ _ _ _ J1b.out J2.out).mono ?_); rintro e w3 ⟨A3, c3, rfl, hv3, ho3, b3⟩; have HB3 := Lib.hid (HB2.out.step b3); have J3 := Lib.hid hv3; have HO3 := Lib.hid ho3; have HL2 := Lib.hid HB2.out.1.lt; clear hv3 ho3 b3)
      | (go_at_call 19; (with_reducible refine (HNE.out _).mono ?_); rintro e w4 ⟨m, g, rfl, hm4, b4⟩; have HM4 := Lib.hid hm4; have HB4 := Lib.hid (HB3.out.step b4); have HLT := Lib.hid HB3.out.1.lt; have J4 := Lib.hid (J3.out.below b4); have HOG := Lib.hid (Cu.offi_new J3.out hm4.1); clear hm4 b4)
      | (go_at_call 20; (try rw [HT.out]); (with_reducible refine (HPU.out _ _ _ _ HM4.out).mono ?_); rintro e w5 ⟨rfl, hm5, b5⟩; have HM5 := Lib.hid hm5; have HB5 := Lib.hid (show Cu.Kb w w5 from ⟨HB4.out.1.only b5 (fun e => by injection e with e; have := HM4.out.1; have := HLT.out; omega), HB4.out.2.trans (below_of_only b5 (Nat.le_of_lt HB4.out.1.lt) (fun q hq => by injection hq with hq; have := HM4.out.1; have := HLT.out; omega))⟩); have J5 := Lib.hid (J4.out.farI b5 HOG.out); clear hm5 b5))
    obtain ⟨x0, x1, x2, f0, f1, f2⟩ := in3f HB5.out.1
    go_wp2
    obtain ⟨⟨r0, r1, r2⟩, G8, G9⟩ := Cu.Kb.put HB5.out (a := .pointer (some ⟨m, 0, none⟩)) (b := .int .i64 base) (c := .int .i64 k) _ rfl
    refine bodyPost_ret (v := .tuple #[.pointer (some ⟨m, 0, none⟩), .agg #[.pointer (some ⟨m, 0, none⟩), .int .i64 base, .int .i64 k], .slice A3 k c3]) (by simp [results, Tryd.results8, go_sem, r0, r1, r2]) rfl ⟨m, g, A3, c3, rfl, ?_, G8, J5.out.farI G9 (HO3.out _ HL2.out), ?_⟩
    · exact Cu.memg_low (HM5.out.far G9 (by have := HM5.out.1; have := HLT.out; omega) (by have := HM5.out.2.1; have := HLT.out; omega)) (Nat.le_of_lt HLT.out)
    rintro i (hi | rfl)
    · exact HO3.out i (by have := HL2.out; omega)
    · exact HOG.out
end Go.Proofs.YtiicoabkhponmaaDoor
