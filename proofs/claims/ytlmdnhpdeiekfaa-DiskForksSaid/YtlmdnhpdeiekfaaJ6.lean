/- A job that writes: write of package disk, by its contract. -/
import Derived.Test.YtlmdnhpdeiekfaaJ5
namespace Go.Proofs.Ytlmdnhpdeiekfaa
open Go.RowKit Go.Lib Go.Sort
set_option linter.unusedVariables false

/-- A disk's blocks. -/
def DskB (b : Nat) (v : Value) (i : Nat) : Prop := i = b ∨ v.ownBlock = some i
theorem Keeps.more {S S2 : Nat → Prop} {a b c : World} (h : Keeps S a b) (k : Keeps S2 b c) (hs : ∀ i, i < a.heap.size → S2 i → S i) : Keeps S a c :=
  ⟨k.1.trans h.1, k.2.1.trans h.2.1, k.2.2.1.trans h.2.2.1, Nat.le_trans h.2.2.2.1 k.2.2.2.1, fun i hi hn => (k.2.2.2.2 i (Nat.lt_of_lt_of_le hi h.2.2.2.1) (fun x => hn (hs i hi x))).trans (h.2.2.2.2 i hi hn)⟩
/-- The records of a job that writes, behind the n that were there. -/
def wrRc (rc : Nat → Rec) (n : Nat) (tick o s : Int) (t : ByteArray) : Nat → Rec := fun k => if k < n then rc k else (tick, o, s + ((k - n : Nat) : Int), ⟨((t.data.toList.drop ((k - n) * 16)).take 16).toArray⟩)
theorem wrRc_old (rc : Nat → Rec) (n : Nat) (tick o s : Int) (t : ByteArray) : rcCells n (wrRc rc n tick o s t) = rcCells n rc := rcCells_congr fun i hi => by rw [wrRc, if_pos hi]
theorem wrRc_new (rc : Nat → Rec) (n : Nat) (tick o s : Int) (t : ByteArray) (i : Nat) : wrRc rc n tick o s t (n + i) = (tick, o, s + (i : Int), ⟨((t.data.toList.drop (i * 16)).take 16).toArray⟩) := by
  rw [wrRc, if_neg (by omega)]
  simp only [Nat.add_sub_cancel_left]

/-- Behind i sectors of a job that writes. -/
def WrS (w0 wr : World) (B b : Nat) (S : Nat → UInt8) (T : Nat → Prt) (bz : Bool) (j : Jb) (st : Int) (v : Value) (n : Nat) (f : Nat → Rec) (base : Nat) (t : ByteArray) (i : Nat) : Prop :=
  ∃ v', Dsk wr b (putS S base (t.data.toList.take (i * 16))) T bz j st v' ∧ LogV wr B v' (n + i) f ∧ (v'.ownBlock = v.ownBlock ∨ ∃ k, v'.ownBlock = some k ∧ w0.heap.size ≤ k) ∧ Keeps (DskB b v) w0 wr
section
variable {w0 wr w1 : World} {B b : Nat} {S : Nat → UInt8} {T : Nat → Prt} {bz : Bool} {j : Jb} {st : Int} {v : Value} {n : Nat} {f : Nat → Rec} {base : Nat} {t : ByteArray} {i : Nat}
theorem WrS.grown (h : WrS w0 wr B b S T bz j st v n f base t i) (g : wr.grownBy w1 none) : WrS w0 w1 B b S T bz j st v n f base t i := by
  obtain ⟨v', h1, h2, h3, h4⟩ := h
  exact ⟨v', h1.grown g, h2.grown g, h3, h4.more (Keeps.of_only g (S := fun _ => False) (by simp)) (fun _ _ h => h.elim)⟩
theorem WrS.box {ty : TypeId} {cs : Array Value} {x : Nat} (h : WrS w0 wr B b S T bz j st v n f base t i) (hx : Blk w0 x ty cs) (h1 : x ≠ b) (h2 : v.ownBlock ≠ some x) : Blk wr x ty cs := by
  obtain ⟨v', _, _, _, h4⟩ := h
  exact hx.keeps h4 (by rintro (e | e); exact h1 e; exact h2 e)
end

theorem cut_size {t : ByteArray} {m i : Nat} (ht : t.size = m * 16) (hi : i < m) : 16 ≤ (t.extract ((i : Int) * 16).toNat t.size).size := by
  rw [ByteArray.size_extract]
  omega
theorem cut_take {t : ByteArray} {i : Nat} : (t.extract ((i : Int) * 16).toNat t.size).data.toList.take 16 = (t.data.toList.drop (i * 16)).take 16 := by
  have e : ((i : Int) * 16).toNat = i * 16 := by omega
  rw [e, ByteArray.data_extract, Array.toList_extract]
  have hz : t.data.toList.length = t.size := by rw [Array.length_toList]; rfl
  simp only [List.extract_eq_take_drop]
  rw [List.take_take]
  by_cases h : i * 16 ≤ t.size
  · by_cases h2 : 16 ≤ t.size - i * 16
    · rw [Nat.min_eq_left h2]
    · rw [Nat.min_eq_right (by omega), List.take_of_length_le (by simp [hz]), List.take_of_length_le (by simp [hz]; omega)]
  · have h3 : t.data.toList.drop (i * 16) = [] := List.drop_eq_nil_of_le (by omega)
    rw [h3]
    simp
/-- Behind the copy. -/
theorem copied {w2 : World} {b : Nat} {S : Nat → UInt8} {T : Nat → Prt} {bz : Bool} {j : Jb} {st : Int} {v : Value} {t : ByteArray} {f s i m : Nat} (ht : t.data.toList.length = m * 16) (hi : i < m)
    (h : Dsk w2 b (putS (putS S ((f + s) * 16) (t.data.toList.take (i * 16))) ((f + s + i) * 16) ((t.extract ((i : Int) * 16).toNat t.size).data.toList.take 16)) T bz j st v) : Dsk w2 b (putS S ((f + s) * 16) (t.data.toList.take ((i + 1) * 16))) T bz j st v := by
  rw [cut_take, show (f + s + i) * 16 = (f + s) * 16 + i * 16 by omega, putS_more _ _ _ _ (by omega), show i * 16 + 16 = (i + 1) * 16 by omega] at h
  exact h
theorem copied_sec (S : Nat → UInt8) {t : ByteArray} {f s i m : Nat} (ht : t.data.toList.length = m * 16) (hi : i < m) : secS (putS S ((f + s) * 16) (t.data.toList.take ((i + 1) * 16))) ((f + s + i) * 16) 16 = ⟨((t.data.toList.drop (i * 16)).take 16).toArray⟩ := by
  have e : putS S ((f + s) * 16) (t.data.toList.take ((i + 1) * 16)) = putS (putS S ((f + s) * 16) (t.data.toList.take (i * 16))) ((f + s + i) * 16) ((t.data.toList.drop (i * 16)).take 16) := by
    rw [show (f + s + i) * 16 = (f + s) * 16 + i * 16 by omega, putS_more _ _ _ _ (by omega), show i * 16 + 16 = (i + 1) * 16 by omega]
  rw [e, secS_eq, secL_put _ _ _ (by simp [ht]; omega)]
/-- One record more. -/
theorem log_fin {w2 w3 : World} {B b nn g' cap' : Nat} {S : Nat → UInt8} {T : Nat → Prt} {bz : Bool} {j : Jb} {st : Int} {v1 : Value} {F : Nat → Rec} (D2 : Dsk w2 b S T bz j st v1) (L2 : LogV w2 B v1 nn F) (G3 : w2.grownBy w3 v1.ownBlock)
    (OWN : w3.ownsRow B 48 4 (.slice (some ⟨g', 0, none⟩) (nn + 1) cap') (nn + 1) (rcCells nn F ++ recCells (F nn))) (AT : v1.ownBlock = some g' ∨ w2.heap.size ≤ g') :
    Dsk (w3.setCell ⟨b, 8226, none⟩ (.slice (some ⟨g', 0, none⟩) (nn + 1) cap')) b S T bz j st (.slice (some ⟨g', 0, none⟩) (nn + 1) cap') ∧ LogV (w3.setCell ⟨b, 8226, none⟩ (.slice (some ⟨g', 0, none⟩) (nn + 1) cap')) B (.slice (some ⟨g', 0, none⟩) (nn + 1) cap') (nn + 1) F ∧
      Keeps (DskB b v1) w2 (w3.setCell ⟨b, 8226, none⟩ (.slice (some ⟨g', 0, none⟩) (nn + 1) cap')) := by
  have D3 : Dsk w3 b S T bz j st v1 := D2.only G3 (fun h => L2.off D2 h.symm)
  have L3 : LogV w3 B (.slice (some ⟨g', 0, none⟩) (nn + 1) cap') (nn + 1) F := by
    show w3.ownsRow _ _ _ _ _ _
    rw [rcCells_succ]
    exact OWN
  have hs : w3.grownBy (w3.setCell ⟨b, 8226, none⟩ (.slice (some ⟨g', 0, none⟩) (nn + 1) cap')) (some b) := only_put (only_refl _ _) _ _
  refine ⟨D3.setLog _, L3.only hs (.inr (L3.off D3)), (Keeps.of_only G3 (S := DskB b v1) (fun k hk => .inr hk)).more (Keeps.of_only hs (S := fun i => i = b) (fun k hk => by injection hk with hk; exact hk.symm)) (fun i _ h => .inl h)⟩
theorem WrS.next {w0 w1 w2 w4 : World} {B b : Nat} {S : Nat → UInt8} {T : Nat → Prt} {bz : Bool} {j : Jb} {st : Int} {v v1 v4 : Value} {n : Nat} {F : Nat → Rec} {base : Nat} {t : ByteArray} {i : Nat} (A1 : v1.ownBlock = v.ownBlock ∨ ∃ k, v1.ownBlock = some k ∧ w0.heap.size ≤ k) (K1 : Keeps (DskB b v) w0 w1) (G2 : w1.grownBy w2 (some b))
    (D4 : Dsk w4 b (putS S base (t.data.toList.take ((i + 1) * 16))) T bz j st v4) (L4 : LogV w4 B v4 (n + i + 1) F) (K4 : Keeps (DskB b v1) w2 w4) (A4 : v4.ownBlock = v1.ownBlock ∨ ∃ k, v4.ownBlock = some k ∧ w2.heap.size ≤ k) : WrS w0 w4 B b S T bz j st v n F base t (i + 1) := by
  have hsz := K1.size
  have hsz2 := G2.size
  refine ⟨v4, D4, L4, ?_, (K1.more (Keeps.of_only G2 (S := fun i => i = b) (fun k hk => by injection hk with hk; exact hk.symm)) (fun i _ h => .inl h)).more K4 (fun i hi h => ?_)⟩
  · rcases A4 with A4 | ⟨k, A4, A5⟩
    · rw [A4]
      exact A1
    · exact .inr ⟨k, A4, by omega⟩
  · rcases h with h | h
    · exact .inl h
    · rcases A1 with A1 | ⟨k, A1, A2⟩
      · exact .inr (A1 ▸ h)
      · rw [A1] at h
        injection h with h
        omega

set_option maxHeartbeats 3200000 in
set_option maxRecDepth 20000 in
theorem write_any {w : World} {B b : Nat} {S : Nat → UInt8} {T : Nat → Prt} {bz : Bool} {j : Jb} {st : Int} {v : Value} {n : Nat} {rc : Nat → Rec} (h : Dsk w b S T bz j st v) (hl : LogV w B v n rc) (k s m : Nat) (N tick : Int) (t : ByteArray) (hk : k < 9) {f : Nat} (hf : (T k).2.1 = f) (hi : f + s + m ≤ 512) (ht : t.size = m * 16) (hm : m ≤ 2) (hn : n ≤ 1000) (hB : B ≤ w.heap.size) :
    Calls Try.prog 26 #[.pointer (some ⟨b, 0, none⟩), .int .i64 tick, jbv (k, s, N, true, t)] w fun e w' => e = .returned (.tuple #[]) ∧ WrS (w.alloc (.cells #[.int .i64 k, .int .i64 s, .int .i64 N, .bool true, .string t] 36)) w' B b S T bz j st v n (wrRc rc n tick k s t) ((f + s) * 16) t m := by
  obtain ⟨i0, hi0, hz0, hz1, hz2⟩ := info_parts log_info
  have hx : w.heap.size ≠ b := by have := h.lt; omega
  have hx2 : v.ownBlock ≠ some w.heap.size := fun e => by have := (hl.blk _ e).2; omega
  have NB := Blk.new w 36 #[.int .i64 k, .int .i64 s, .int .i64 N, .bool true, .string t]
  have hw0 : WrS (w.alloc (.cells #[.int .i64 k, .int .i64 s, .int .i64 N, .bool true, .string t] 36)) (w.alloc (.cells #[.int .i64 k, .int .i64 s, .int .i64 N, .bool true, .string t] 36)) B b S T bz j st v n (wrRc rc n tick k s t) ((f + s) * 16) t 0 := by
    refine ⟨v, ?_, ?_, .inl rfl, Keeps.refl _ _⟩
    · rw [Nat.zero_mul, List.take_zero, putS_nil]
      exact h.grown (only_alloc (only_refl _ _) _)
    · show World.ownsRow _ _ _ _ _ _ _
      rw [Nat.add_zero, wrRc_old]
      exact hl.grown (only_alloc (only_refl _ _) _)
  have hsz : t.data.toList.length = m * 16 := by rw [Array.length_toList]; exact ht
  have c0 := NB.cell 4
  simp at c0
  have W0 := Lib.hid hw0
  have HX := Lib.hid (And.intro hx hx2)
  have HNB := Lib.hid NB
  have HT := Lib.hid ht
  have HSZ := Lib.hid hsz
  have HF := Lib.hid hf
  have HB : Hid (B ≤ (w.alloc (.cells #[.int .i64 k, .int .i64 s, .int .i64 N, .bool true, .string t] 36)).heap.size) := Lib.hid (by simp; omega)
  have hs1 : (t.size : Int) ≤ (m : Int) * 16 := by omega
  have hs2 : (m : Int) * 16 ≤ (t.size : Int) := by omega
  have hq : (t.size : Int) / 16 = m := by omega
  have HQ := Lib.hid hq
  clear h hl hx hx2 NB hw0 ht hsz hf hB hq
  go_enter Try.func26, Try.ntmps26
  go_wp2
  rw [HQ.out]
  generalize hw0 : w.alloc (.cells #[.int .i64 k, .int .i64 s, .int .i64 N, .bool true, .string t] 36) = w0 at *
  have HW0 := Lib.hid hw0
  clear hw0
  clear c0
  go_loopw [12] (fun y wr => ∃ i : Nat, y = .int .i64 i ∧ i ≤ m ∧ Hid (WrS w0 wr B b S T bz j st v n (wrRc rc n tick k s t) ((f + s) * 16) t i)) (fun y _ => m - (intOf y).toNat)
  case atStart => exact ⟨0, rfl, by omega, W0⟩
  case round =>
    obtain ⟨i, rfl, him, HW⟩ := hrel
    by_cases hin : i < m
    · have BX := Lib.hid (HW.out.box HNB.out HX.out.1 HX.out.2)
      have i1 : (i : Int) < (m : Int) := by omega
      have HA := Lib.hid (show Calls Try.prog 38 #[.pointer (some ⟨b, 0, none⟩), jbv (k, s, N, true, t), .int .i64 i] wr fun e w' => e = .returned (.pointer (some ⟨b, (f + s + i) * 16, none⟩)) ∧ wr.grownBy w' none from by
        obtain ⟨v', h1, _⟩ := HW.out
        exact at_any h1 k s i N true t hk HF.out (by omega))
      have c0 := BX.out.cell 0
      have c1 := BX.out.cell 1
      have c2 := BX.out.cell 2
      have c3 := BX.out.cell 3
      have c4 := BX.out.cell 4
      simp at c0 c1 c2 c3 c4
      go_wp2_with (first
        | (go_at_call 38; with_reducible refine HA.out.mono ?_; rintro e w1 ⟨rfl, g1⟩; have W1 := Lib.hid (HW.out.grown g1); have X1 := Lib.hid (BX.out.only g1 (by simp)); clear g1 c0 c1 c2 c3 c4))
      have c0 := X1.out.cell 0
      have c1 := X1.out.cell 1
      have c4 := X1.out.cell 4
      simp at c0 c1 c4
      have e1 : IntKind.i64.wrap ((i : Int) * 16) = (i : Int) * 16 := by rw [IntKind.wrap_i64]; omega
      have i2 : (0 : Int) ≤ (i : Int) * 16 := by omega
      have i3 : (i : Int) * 16 ≤ (t.size : Int) := by omega
      obtain ⟨v1, d1, l1, a1, k1⟩ := W1.out
      have D1 := Lib.hid d1
      have L1 := Lib.hid l1
      have A1 := Lib.hid a1
      have K1 := Lib.hid k1
      have CS := Lib.hid (cut_size HT.out hin)
      have HIN := Lib.hid hin
      clear d1 l1 a1 k1 hin
      go_region_law (refine step_copy_sec rfl (.tmp 21) (.tmp 26) 71 9 rfl 5 Try.underlying71 (by kernel_rfl) (D1.out.grown (only_drewN (only_refl _ none) 1)) ((f + s + i) * 16) 16 (t.extract ((i : Int) * 16).toNat t.size) (by simp [Act.eval, Act.put]) (by simp [Act.eval, Act.put]) CS.out (by have := HIN.out; omega) ?_; intro w2 d2 g2; have D2 := Lib.hid (copied HSZ.out HIN.out d2); have G2 := Lib.hid (only_trans (only_drewN (only_refl w1 (some b)) 1) g2); clear d2 g2)
      have X2 := Lib.hid (X1.out.only G2.out (fun e => HX.out.1 (by injection e)))
      have L2 := Lib.hid (L1.out.only G2.out (.inr (L1.out.off D1.out)))
      have c0 := X2.out.cell 0
      have c1 := X2.out.cell 1
      simp at c0 c1
      have hsec := sec_run D2.out ((f + s + i) * 16) 16 16 (by have := HIN.out; omega)
      rw [copied_sec S HSZ.out HIN.out] at hsec
      obtain ⟨X, hX⟩ : ∃ X, X = (⟨((t.data.toList.drop (i * 16)).take 16).toArray⟩ : ByteArray) := ⟨_, rfl⟩
      rw [← hX] at hsec
      have HXX := Lib.hid hX
      have l0 := D2.out.log
      have f0 := D2.out.free 8226
      have e5 : IntKind.i64.wrap ((s : Int) + (i : Int)) = (s : Int) + (i : Int) := by rw [IntKind.wrap_i64]; have := HIN.out; omega
      obtain ⟨Av, cv, rfl⟩ := L2.out.form
      have l1 := Go.Lib.cell?_alloc_some (.cells #[.int .i64 tick, .int .i64 k, .int .i64 ((s : Int) + (i : Int)), .string X] 48) l0
      have hrs : ∀ nn, (convert 71 9 (.slice (some ⟨b, (f + s + i) * 16, none⟩) 16 16)).run Try.prog (w2.drewN nn) = .ok (.string X) (w2.drewN nn) := fun nn => by
        have := sec_run (D2.out.grown (only_drewN (only_refl w2 none) nn)) ((f + s + i) * 16) 16 16 (by have := HIN.out; omega)
        rw [copied_sec S HSZ.out HIN.out, ← HXX.out] at this
        exact this
      have hr1 : (convert 71 9 (.slice (some ⟨b, (f + s + i) * 16, none⟩) 16 16)).run Try.prog w2.drew = .ok (.string X) w2.drew := hrs 1
      have hnews : ∀ j u, (recCells (tick, (k : Int), (s : Int) + (i : Int), X))[j]? = some u → (w2.alloc (.cells #[.int .i64 tick, .int .i64 k, .int .i64 ((s : Int) + (i : Int)), .string X] 48)).drew.cell? ((⟨w2.heap.size, 0, none⟩ : Addr).add j) = some u :=
        World.news_of_block (cs := #[.int .i64 tick, .int .i64 k, .int .i64 ((s : Int) + (i : Int)), .string X]) (show (w2.alloc (.cells #[.int .i64 tick, .int .i64 k, .int .i64 ((s : Int) + (i : Int)), .string X] 48)).drew.heap[w2.heap.size]? = some (.cells #[.int .i64 tick, .int .i64 k, .int .i64 ((s : Int) + (i : Int)), .string X] 48 (0, 0)) from Blk.new w2 _ _)
      have HNEWS := Lib.hid hnews
      have HBW : Hid (B ≤ w2.heap.size) := Lib.hid (Nat.le_trans HB.out (Nat.le_trans K1.out.size G2.out.size))
      have hap : ∀ w3, (w2.alloc (.cells #[.int .i64 tick, .int .i64 k, .int .i64 ((s : Int) + (i : Int)), .string X] 48)).drew.grownBy w3 (Value.slice Av (n + i) cv).ownBlock → (w3.cell? ⟨b, 8226, none⟩ = some (Value.slice Av (n + i) cv) ∧ w3.frozen? ⟨b, 8226, none⟩ = false) ∧ w2.grownBy w3 (Value.slice Av (n + i) cv).ownBlock := fun w3 h => by
        have h1 : w2.grownBy w3 (Value.slice Av (n + i) cv).ownBlock := only_trans (show w2.grownBy (w2.alloc (.cells #[.int .i64 tick, .int .i64 k, .int .i64 ((s : Int) + (i : Int)), .string X] 48)).drew _ from only_drewN (only_alloc (only_refl _ _) _) 1) h
        have d3 := D2.out.only h1 (fun e1 => L2.out.off D2.out e1.symm)
        exact ⟨⟨d3.log, d3.free 8226⟩, h1⟩
      have HAP := Lib.hid hap
      clear hnews hap hX hrs hsec
      go_wp2
      go_region_law (refine step_append_lies _ rfl (.tmp 32) (.tmp 45) 45 rfl B 48 i0 _ 4 40 Try.underlying45 hi0 hz0 hz1 hz2 rfl (by decide) (.slice Av (n + i) cv) (n + i) (rcCells (n + i) (wrRc rc n tick k s t)) (by simp [Act.eval, Act.put]) (World.ownsRow.alloc (w := w2.drew) L2.out _) ⟨w2.heap.size, 0, none⟩ 1 1 (recCells (tick, (k : Int), (s : Int) + (i : Int), X)) (by simp [Act.eval, Act.put]) rfl HNEWS.out (recCells_cell _) (by omega) (by unfold maxLen; have := HIN.out; omega) (by have := HIN.out; omega) (by have := HBW.out; simp; omega) _ rfl ?_; intro g' cap' w3 hown3 hg3 hat3 hlt3; obtain ⟨⟨s0, s1⟩, g3⟩ := HAP.out _ hg3; have G3 := Lib.hid g3; have OWN3 := Lib.hid hown3; have AT3 := Lib.hid hat3; clear hown3 hg3 hat3 g3)
      all_goals
        have fin : WrS w0 (w3.setCell ⟨b, 8226, none⟩ (.slice (some ⟨g', 0, none⟩) (n + i + 1) cap')) B b S T bz j st v n (wrRc rc n tick k s t) ((f + s) * 16) t (i + 1) := by
          have own := OWN3.out
          have hr := wrRc_new rc n tick k s t i
          rw [← HXX.out] at hr
          rw [← hr] at own
          obtain ⟨f1, f2, f3⟩ := log_fin D2.out L2.out G3.out own (AT3.out.elim (fun h => .inl h) (fun h => .inr (by rw [h]; simp)))
          exact WrS.next A1.out K1.out G2.out f1 f2 f3 (AT3.out.elim (fun h => .inl (by rw [h]; rfl)) (fun h => .inr ⟨g', rfl, by rw [h]; simp⟩))
        have FIN := Lib.hid fin
        clear fin
        generalize w3.setCell ⟨b, 8226, none⟩ (.slice (some ⟨g', 0, none⟩) (n + i + 1) cap') = w4 at FIN ⊢
        clear s0 s1 l0 l1 f0 c0 c1 hr1
        go_wp2
        go_roundw
        case rel => exact ⟨i + 1, by go_num, by have := HIN.out; omega, FIN⟩
        case measure => have := HIN.out; simp [intOf]; omega
    · obtain rfl : i = m := by omega
      go_wp2
      go_end0
      exact ⟨rfl, by rw [HW0.out]; exact HW.out⟩
end Go.Proofs.Ytlmdnhpdeiekfaa
