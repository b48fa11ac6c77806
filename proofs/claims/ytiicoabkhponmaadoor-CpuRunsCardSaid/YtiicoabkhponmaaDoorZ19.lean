import Derived.Test.YtiicoabkhponmaaDoorZ17
import Derived.Test.YtiicoabkhponmaaDoorZ18
set_option linter.all false
/- The law's views; a view's text. -/
namespace Go.Proofs.YtiicoabkhponmaaDoor
open Go.RowKit Go.Lib
set_option linter.unusedVariables false
set_option maxRecDepth 8000

set_option maxHeartbeats 1600000 in
theorem Cu.text_any (w : World) (B m : Nat) (p V q : List UInt8) (h : MemV w B m (p ++ V ++ q)) (hl : (p ++ V ++ q).length ≤ 16384) : Calls Tryd.prog 12 #[Cu.vw m p.length V.length] w fun e w' => e = .returned (.string ⟨V.toArray⟩) ∧ w.grownBy w' none := by
  have HX := Lib.hid (Cu.Bx.new w m p.length V.length)
  have HT := Lib.hid (show ∀ W, w.grownBy W none → Calls Tryd.prog 34 #[.pointer (some ⟨m, 0, none⟩), .int .i64 p.length, .int .i64 V.length] W fun r w' => r = .returned (.tuple #[.string ⟨V.toArray⟩, .int .i64 0]) ∧ W = w' from fun W g => by
    have := mtext_any W B m _ (p.length : Int) (V.length : Int) (h.grown g) hl
    have ec := Cu.chk_in (base := p.length) (size := V.length) (k := 0) (n := V.length) (Cu.at_in hl) (by omega)
    rw [Nat.add_zero] at ec
    rw [ec, if_pos rfl, Int.toNat_natCast, Int.toNat_natCast] at this
    have e : ((p ++ V ++ q).drop p.length).take V.length = V := by simp [List.append_assoc]
    rw [e] at this
    exact this)
  generalize V.length = vl at *
  generalize p.length = pl at *
  generalize (⟨V.toArray⟩ : ByteArray) = t at *
  clear h hl
  unfold Cu.vw
  obtain ⟨W, hW⟩ : ∃ W, W = (w.alloc (.cells #[.pointer (some ⟨m, 0, none⟩), .int .i64 pl, .int .i64 vl] 28)) := ⟨_, rfl⟩
  rw [← hW] at HX
  obtain ⟨c0, c1, c2⟩ := HX.out.cells
  go_enter Tryd.func12, Tryd.ntmps12
  go_upto_region 1 with (fail)
  rw [← hW]
  clear hW
  go_wp2_with (go_at_call 34; (with_reducible refine (HT.out _ HX.out.grow).mono ?_); rintro e w2 ⟨rfl, rfl⟩)
  go_ret
  exact ⟨rfl, HX.out.grow⟩
/-- The bytes that a view begins with. -/
def Cu.v0 (s : ByteArray) (size : Nat) : List UInt8 := s.data.toList.take size ++ List.replicate (size - s.size) 0
def Cu.z (n : Nat) : List UInt8 := List.replicate n 0
theorem Cu.v0_len (s : ByteArray) (size : Nat) : (Cu.v0 s size).length = size := by
  have : s.data.toList.length = s.size := by rw [Array.length_toList]; rfl
  unfold Cu.v0
  simp
  omega
theorem Cu.z_len (n : Nat) : (Cu.z n).length = n := by simp [Cu.z]
theorem Cu.over_z (n base : Nat) (bs : List UInt8) (size : Nat) (hb : bs.length ≤ size) (hn : base + size ≤ n) : over (Cu.z n) base bs = Cu.z base ++ (bs ++ Cu.z (size - bs.length)) ++ Cu.z (n - base - size) := by
  unfold over Cu.z
  rw [List.take_replicate, List.drop_replicate, Nat.min_eq_left (by omega)]
  have : n - (base + bs.length) = (size - bs.length) + (n - base - size) := by omega
  rw [this, ← List.replicate_append_replicate]
  simp [List.append_assoc]
end Go.Proofs.YtiicoabkhponmaaDoor

/- The law's views: a memory with a text in its midst. -/
namespace Go.Proofs.YtiicoabkhponmaaDoor
open Go.RowKit Go.Lib
set_option linter.unusedVariables false
set_option maxRecDepth 8000

theorem Cu.memg_low {W : World} {B b m g : Nat} {l : List UInt8} (h : MemG W B m g l) (hb : b ≤ B) : MemG W b m g l := ⟨Nat.le_trans hb h.1, Nat.le_trans hb h.2.1, h.2.2.1, h.2.2.2⟩
def Cu.Kb (w W : World) : Prop := Blk W w.heap.size 28 #[.pointer none, .int .i64 0, .int .i64 0] ∧ Below w.heap.size w W
theorem Cu.Kb.step {w W W' : World} (h : Cu.Kb w W) (b : Below W.heap.size W W') : Cu.Kb w W' := ⟨h.1.below b h.1.lt, h.2.trans (b.mono (Nat.le_of_lt h.1.lt))⟩
theorem Cu.Kb.put {w W : World} (h : Cu.Kb w W) {a b c : Value} : ∀ W', W' = ((W.setCell ⟨w.heap.size, 0, none⟩ a).setCell ⟨w.heap.size, 1, none⟩ b).setCell ⟨w.heap.size, 2, none⟩ c → (W'.cell? ⟨w.heap.size, 0, none⟩ = some a ∧ W'.cell? ⟨w.heap.size, 1, none⟩ = some b ∧ W'.cell? ⟨w.heap.size, 2, none⟩ = some c) ∧ Below w.heap.size w W' ∧ W.grownBy W' (some w.heap.size) := by
  rintro W' rfl
  have bf := ((h.1.put 0 a).put 1 b).put 2 c
  exact ⟨⟨bf.cell 0, bf.cell 1, bf.cell 2⟩, Cu.below_put (Cu.below_put (Cu.below_put h.2 (p := ⟨w.heap.size, 0, none⟩) (Nat.le_refl _) a) (p := ⟨w.heap.size, 1, none⟩) (Nat.le_refl _) b) (p := ⟨w.heap.size, 2, none⟩) (Nat.le_refl _) c, only_put (only_put (only_put (only_refl _ _) 0 a) 1 b) 2 c⟩
theorem Cu.num_len' (l : List UInt8) : (num l).length = l.length := num_len l
theorem Cu.low8_all (l : List UInt8) : (num l).map low8 = l := by
  unfold num
  rw [List.map_map]
  have : (low8 ∘ fun b : UInt8 => (b.toNat : Int)) = id := by
    funext b
    have hb := UInt8.toNat_lt b
    simp only [Function.comp, low8, id]
    have : ((b.toNat : Int) % 256).toNat = b.toNat := by omega
    rw [this]
    simp
  rw [this, List.map_id]
theorem Cu.size_z (n : Nat) (h : n ≤ 16384) : sizeOf' (n : Int) = n := by unfold sizeOf'; rw [if_neg (by omega), if_neg (by omega)]; omega
set_option maxRecDepth 20000 in
set_option maxHeartbeats 6400000 in
theorem Cu.view_any (s : ByteArray) (base size : Nat) (hs : s.size ≤ 400) (hb : base ≤ 500) (hz : size ≤ 400) (w : World) : Calls Tryd.prog 8 #[.string s, .int .i64 base, .int .i64 size] w fun e w' => ∃ m g v, e = .returned (.tuple #[.pointer (some ⟨m, 0, none⟩), Cu.vw m base size, v]) ∧ MemG w' w.heap.size m g (Cu.z base ++ Cu.v0 s size ++ Cu.z (1000 - base - size)) ∧ Below w.heap.size w w' := by
  obtain ⟨k, hk⟩ : ∃ k, (k = s.size ∧ s.size ≤ size) ∨ (k = size ∧ size < s.size) := by
    by_cases h : s.size ≤ size
    · exact ⟨_, .inl ⟨rfl, h⟩⟩
    · exact ⟨_, .inr ⟨rfl, by omega⟩⟩
  have hks : k ≤ s.size ∧ k ≤ size := by omega
  have hdl : s.data.toList.length = s.size := by rw [Array.length_toList]; rfl
  obtain ⟨t, ht⟩ : ∃ t, t = s.extract 0 k := ⟨_, rfl⟩
  have htl : t.data.toList = s.data.toList.take k := by
    rw [ht]
    simp [ByteArray.extract, ByteArray.copySlice]
  have hts : t.size = k := by
    have : t.data.toList.length = t.size := by rw [Array.length_toList]; rfl
    rw [← this, htl, List.length_take]
    omega
  have hv0 : t.data.toList ++ Cu.z (size - k) = Cu.v0 s size := by
    unfold Cu.v0 Cu.z
    rw [htl]
    rcases hk with ⟨rfl, h⟩ | ⟨rfl, h⟩
    · rw [List.take_of_length_le (by omega), List.take_of_length_le (by omega)]
    · rw [Nat.sub_self, show k - s.size = 0 from by omega]
  have HN := Lib.hid (show ∀ W, Calls Tryd.prog 21 #[.int .i64 size] W fun r w' => ∃ A c, r = .returned (.slice A size c) ∧ Ints w' A c (num (Cu.z size)) ∧ Below W.heap.size W w' from fun W => (rmnew_any size W (by omega)).mono fun e w' ⟨v, h1, h2, h3⟩ => by
    rw [Cu.size_z size (by omega)] at h2
    obtain ⟨A, c, e1, e2, -⟩ := h2.ints
    refine ⟨A, c, ?_, e2, h3⟩
    rw [h1, e1, num_len, List.length_replicate])
  have HBY := Lib.hid (show ∀ W, Calls Tryd.prog 23 #[.string t] W fun r w' => ∃ A c, r = .returned (.slice A k c) ∧ Ints w' A c (num t.data.toList) ∧ Below W.heap.size W w' from fun W => (rbytes_any t W (by omega)).mono fun e w' ⟨v, h1, h2, h3⟩ => by
    obtain ⟨A, c, e1, e2, -⟩ := h2.ints
    refine ⟨A, c, ?_, e2, h3⟩
    rw [h1, e1, num_len, htl, List.length_take, hdl, Nat.min_eq_left hks.1])
  have HWI := Lib.hid (show ∀ W A c A2 c2, Ints W A c (num (Cu.z size)) → Ints W A2 c2 (num t.data.toList) → Calls Tryd.prog 22 #[.slice A size c, .int .i64 0, .slice A2 k c2] W fun r w' => ∃ v, r = .returned v ∧ OwnN w' W.heap.size v (num (Cu.v0 s size)) ∧ Below W.heap.size W w' from fun W A c A2 c2 hA hX => by
    have hkl : t.data.toList.length = k := by rw [htl, List.length_take, hdl]; omega
    have := rwith_any A c (Cu.z size) 0 A2 c2 k (num t.data.toList) (by rw [num_len, hkl]) size (Cu.z_len size).symm W hA hX (by rw [num_len, hkl, Cu.z_len]; omega) (by rw [Cu.z_len]; omega)
    rw [Cu.low8_all, Cu.over_z size 0 t.data.toList size (by omega) (by omega), hkl] at this
    simp only [Cu.z, List.replicate_zero, List.nil_append, Nat.sub_zero, Nat.sub_self, List.append_nil] at this
    have hv := hv0
    unfold Cu.z at hv
    rw [hv] at this
    exact this)
  have HNE := Lib.hid (show ∀ W, Calls Tryd.prog 19 #[.int .i64 1000] W fun r w' => ∃ m g, r = .returned (.pointer (some ⟨m, 0, none⟩)) ∧ MemG w' W.heap.size m g (Cu.z 1000) ∧ Below W.heap.size W w' from fun W => (mnew_any 1000 W).mono fun e w' ⟨m, h1, h2, h3⟩ => by
    obtain ⟨g, h4⟩ := h2.named
    exact ⟨m, g, h1, h4, h3⟩)
  have HPU := Lib.hid (show ∀ W B m g, MemG W B m g (Cu.z 1000) → Calls Tryd.prog 20 #[.pointer (some ⟨m, 0, none⟩), .int .i64 base, .string t] W fun r w' => r = .returned (.int .i64 0) ∧ MemG w' B m g (Cu.z base ++ Cu.v0 s size ++ Cu.z (1000 - base - size)) ∧ W.grownBy w' (some g) from fun W B m g h => by
    have := mput_any W B m g (Cu.z 1000) base t h (by rw [Cu.z_len]; omega) (by omega)
    have ec : chk (Cu.z 1000).length (base : Int) t.size = 0 := by rw [Cu.z_len]; unfold chk; rw [if_neg (by omega), if_neg (by omega), if_neg (by omega), if_neg (by omega)]
    have hkl : t.data.toList.length = k := by rw [htl, List.length_take, hdl]; omega
    rw [ec, if_pos rfl, Int.toNat_natCast, Cu.over_z 1000 base t.data.toList size (by omega) (by omega), hkl, hv0] at this
    exact this)
  have HB0 := Lib.hid (show Cu.Kb w (w.alloc (.cells #[.pointer none, .int .i64 0, .int .i64 0] 28)) from ⟨Blk.new _ _ _, (Below.refl _ _).alloc (Nat.le_refl _) _⟩)
  generalize Cu.z base ++ Cu.v0 s size ++ Cu.z (1000 - base - size) = L at *
  have k1 : (k : Int) ≤ (s.size : Int) := by omega
  have k2 : ¬ (s.size : Int) < (k : Int) := by omega
  have hs4 : (s.size : Int) ≤ 400 := by omega
  have HT := Lib.hid ht.symm
  clear ht htl hts hv0 hdl hks
  unfold Cu.vw
  rcases hk with ⟨rfl, h⟩ | ⟨rfl, h⟩
  · have i1 : ¬ (size : Int) < (s.size : Int) := by omega
    have i2 : (s.size : Int) ≤ (size : Int) := by omega
    have hts : t = s := by rw [← HT.out]; simp
    subst hts
    clear h
    go_enter Tryd.func8, Tryd.ntmps8
    go_upto_region 1 with (fail)
    obtain ⟨W0, hW0⟩ : ∃ W0, W0 = w.alloc (.cells #[.pointer none, .int .i64 0, .int .i64 0] 28) := ⟨_, rfl⟩
    rw [← hW0] at HB0 ⊢
    clear hW0
    go_upto_region 6 with (first
      | (go_at_call 21; (with_reducible refine (HN.out _).mono ?_); rintro e w1 ⟨A1, c1, rfl, j1, b1⟩; have J1 := Lib.hid j1; have HB1 := Lib.hid (HB0.out.step b1); clear j1 b1)
      | (go_at_call 23; (try rw [HT.out]); (with_reducible refine (HBY.out _).mono ?_); rintro e w2 ⟨A2, c2, rfl, j2, b2⟩; have J2 := Lib.hid j2; have J1b := Lib.hid (J1.out.below b2); have HB2 := Lib.hid (HB1.out.step b2); clear j2 b2)
      | (go_at_call 22; (with_reducible refine (HWI.out _ _ _ _ _ J1b.out J2.out).mono ?_); rintro e w3 ⟨v3, rfl, hv3, b3⟩; have HB3 := Lib.hid (HB2.out.step b3); clear hv3 b3)
      | (go_at_call 19; (with_reducible refine (HNE.out _).mono ?_); rintro e w4 ⟨m, g, rfl, hm4, b4⟩; have HM4 := Lib.hid hm4; have HB4 := Lib.hid (HB3.out.step b4); have HLT := Lib.hid HB3.out.1.lt; clear hm4 b4)
      | (go_at_call 20; (try rw [HT.out]); (with_reducible refine (HPU.out _ _ _ _ HM4.out).mono ?_); rintro e w5 ⟨rfl, hm5, b5⟩; have HM5 := Lib.hid hm5; have HB5 := Lib.hid (show Cu.Kb w w5 from ⟨HB4.out.1.only b5 (fun e => by injection e with e; have := HM4.out.1; have := HLT.out; omega), HB4.out.2.trans (below_of_only b5 (Nat.le_of_lt HB4.out.1.lt) (fun q hq => by injection hq with hq; have := HM4.out.1; have := HLT.out; omega))⟩); clear hm5 b5))
    obtain ⟨x0, x1, x2, f0, f1, f2⟩ := in3f HB5.out.1
    go_wp2
    obtain ⟨⟨r0, r1, r2⟩, G8, G9⟩ := Cu.Kb.put HB5.out (a := .pointer (some ⟨m, 0, none⟩)) (b := .int .i64 base) (c := .int .i64 size) _ rfl
    refine bodyPost_ret (v := .tuple #[.pointer (some ⟨m, 0, none⟩), .agg #[.pointer (some ⟨m, 0, none⟩), .int .i64 base, .int .i64 size], v3]) (by simp [results, Tryd.results8, go_sem, r0, r1, r2]) rfl ⟨m, g, v3, rfl, ?_, G8⟩
    exact Cu.memg_low (HM5.out.far G9 (by have := HM5.out.1; have := HLT.out; omega) (by have := HM5.out.2.1; have := HLT.out; omega)) (Nat.le_of_lt HLT.out)
  · have i1 : (k : Int) < (s.size : Int) := by omega
    clear h
    go_enter Tryd.func8, Tryd.ntmps8
    go_upto_region 1 with (fail)
    obtain ⟨W0, hW0⟩ : ∃ W0, W0 = w.alloc (.cells #[.pointer none, .int .i64 0, .int .i64 0] 28) := ⟨_, rfl⟩
    rw [← hW0] at HB0 ⊢
    clear hW0
    go_upto_region 6 with (first
      | (go_at_call 21; (with_reducible refine (HN.out _).mono ?_); rintro e w1 ⟨A1, c1, rfl, j1, b1⟩; have J1 := Lib.hid j1; have HB1 := Lib.hid (HB0.out.step b1); clear j1 b1)
      | (go_at_call 23; (try rw [HT.out]); (with_reducible refine (HBY.out _).mono ?_); rintro e w2 ⟨A2, c2, rfl, j2, b2⟩; have J2 := Lib.hid j2; have J1b := Lib.hid (J1.out.below b2); have HB2 := Lib.hid (HB1.out.step b2); clear j2 b2)
      | (go_at_call 22; (with_reducible refine (HWI.out _ _ _ _ _ J1b.out J2.out).mono ?_); rintro e w3 ⟨v3, rfl, hv3, b3⟩; have HB3 := Lib.hid (HB2.out.step b3); clear hv3 b3)
      | (go_at_call 19; (with_reducible refine (HNE.out _).mono ?_); rintro e w4 ⟨m, g, rfl, hm4, b4⟩; have HM4 := Lib.hid hm4; have HB4 := Lib.hid (HB3.out.step b4); have HLT := Lib.hid HB3.out.1.lt; clear hm4 b4)
      | (go_at_call 20; (try rw [HT.out]); (with_reducible refine (HPU.out _ _ _ _ HM4.out).mono ?_); rintro e w5 ⟨rfl, hm5, b5⟩; have HM5 := Lib.hid hm5; have HB5 := Lib.hid (show Cu.Kb w w5 from ⟨HB4.out.1.only b5 (fun e => by injection e with e; have := HM4.out.1; have := HLT.out; omega), HB4.out.2.trans (below_of_only b5 (Nat.le_of_lt HB4.out.1.lt) (fun q hq => by injection hq with hq; have := HM4.out.1; have := HLT.out; omega))⟩); clear hm5 b5))
    obtain ⟨x0, x1, x2, f0, f1, f2⟩ := in3f HB5.out.1
    go_wp2
    obtain ⟨⟨r0, r1, r2⟩, G8, G9⟩ := Cu.Kb.put HB5.out (a := .pointer (some ⟨m, 0, none⟩)) (b := .int .i64 base) (c := .int .i64 k) _ rfl
    refine bodyPost_ret (v := .tuple #[.pointer (some ⟨m, 0, none⟩), .agg #[.pointer (some ⟨m, 0, none⟩), .int .i64 base, .int .i64 k], v3]) (by simp [results, Tryd.results8, go_sem, r0, r1, r2]) rfl ⟨m, g, v3, rfl, ?_, G8⟩
    exact Cu.memg_low (HM5.out.far G9 (by have := HM5.out.1; have := HLT.out; omega) (by have := HM5.out.2.1; have := HLT.out; omega)) (Nat.le_of_lt HLT.out)
end Go.Proofs.YtiicoabkhponmaaDoor
