/- The document's memory: There, Bytes, Text: their contracts. -/
import Derived.Test.YthneljkaieckeaaMM5
namespace Go.Proofs.Ythneljkaieckeaa
open Go.RowKit Go.Lib Go.Sort
set_option linter.unusedVariables false

/-- Are so many places there? -/
def thereB (len : Nat) (at' n : Int) : Bool := decide (0 ≤ at' ∧ at' ≤ len ∧ n ≤ len - at')
theorem there_any (A : Option Addr) (len cap : Nat) (at' n : Int) (w : World) (hl : len ≤ 1000000) :
    Calls Try.prog 32 #[.slice A len cap, .int .i64 at', .int .i64 n] w fun r w' => r = .returned (.bool (thereB len at' n)) ∧ w = w' := by
  have key : (at' < 0 ∧ thereB len at' n = false) ∨ (0 ≤ at' ∧ (len : Int) < at' ∧ thereB len at' n = false) ∨ (0 ≤ at' ∧ at' ≤ len ∧ (len : Int) - at' < n ∧ thereB len at' n = false) ∨ (0 ≤ at' ∧ at' ≤ len ∧ n ≤ (len : Int) - at' ∧ thereB len at' n = true) := by
    by_cases h1 : at' < 0
    · exact .inl ⟨h1, by simp [thereB]; omega⟩
    · by_cases h2 : (len : Int) < at'
      · exact .inr (.inl ⟨by omega, h2, by simp [thereB]; omega⟩)
      · by_cases h3 : (len : Int) - at' < n
        · exact .inr (.inr (.inl ⟨by omega, by omega, h3, by simp [thereB]; omega⟩))
        · exact .inr (.inr (.inr ⟨by omega, by omega, by omega, by simp [thereB]; omega⟩))
  rcases key with ⟨h1, e⟩ | ⟨h1, h2, e⟩ | ⟨h1, h2, h3, e⟩ | ⟨h1, h2, h3, e⟩
  all_goals
    have E := Lib.hid e
    clear e
    go_enter Try.func32, Try.ntmps32
    go_wp2
    go_ret
    rw [E.out]
    exact ⟨by first | rfl | (simp; done) | (simp; omega), rfl⟩
theorem there_chk {len : Nat} {at' n : Int} (hn : 0 ≤ n) : (thereB len at' n = true ∧ chk len at' n = 0) ∨ (thereB len at' n = false ∧ chk len at' n = 6) := by
  unfold thereB chk
  rw [if_neg (by omega)]
  by_cases h1 : at' < 0
  · exact .inr ⟨by simp; omega, by rw [if_pos h1]⟩
  · by_cases h2 : (len : Int) < at'
    · exact .inr ⟨by simp; omega, by rw [if_neg h1, if_pos h2]⟩
    · by_cases h3 : (len : Int) - at' < n
      · exact .inr ⟨by simp; omega, by rw [if_neg h1, if_neg h2, if_pos h3]⟩
      · exact .inl ⟨by simp; omega, by rw [if_neg h1, if_neg h2, if_neg h3]⟩

theorem OwnN.slice {w : World} {B n : Nat} {v : Value} {l : List Int} (h : OwnN w B v l) (hn : l.length = n) : ∃ A c, v = .slice A n c := by
  obtain ⟨A, c, e⟩ := h.form
  exact ⟨A, c, by rw [e, hn]⟩
set_option maxHeartbeats 1600000 in
theorem rbytes_any (s : ByteArray) (w : World) (hs : s.size ≤ 1000) : Calls Try.prog 31 #[.string s] w fun r w' => ∃ v, r = .returned v ∧ OwnN w' w.heap.size v (num s.data.toList) ∧ Below w.heap.size w w' := by
  have hsz : s.data.toList.length = s.size := by rw [Array.length_toList]; rfl
  go_enter Try.func31, Try.ntmps31
  go_wp2
  go_loopw [3, 4] (fun v x wr => ∃ (k : Nat) (A : Option Addr) (c : Nat), x = .int .i64 k ∧ v = .slice A k c ∧ k ≤ s.size ∧ OwnN wr w.heap.size (.slice A k c) (num (s.data.toList.take k)) ∧ Below w.heap.size w wr) (fun _ x _ => s.size - (intOf x).toNat)
  case atStart => exact ⟨0, _, _, rfl, rfl, by omega, OwnN.bare w _ (Nat.le_refl _), (Below.refl _ _).alloc (Nat.le_refl _) _⟩
  case round =>
    obtain ⟨k, Ao, co, rfl, rfl, hk, hv, hb⟩ := hrel
    have HV := Lib.hid hv
    have HB := Lib.hid hb
    clear hv hb
    by_cases hkS : k < s.size
    · have i1 : (k : Int) < (s.size : Int) := by omega
      have hl : (num (s.data.toList.take k)).length = k := by simp [num]; omega
      have hnx : num (s.data.toList.take k) ++ [((s[k]'hkS).toNat : Int)] = num (s.data.toList.take (k + 1)) := by
        rw [List.take_add_one]
        simp only [num, List.map_append]
        congr 1
        rw [List.getElem?_eq_getElem (by omega)]
        simp
        rfl
      obtain ⟨b, hb⟩ : ∃ b, b = s[k]'hkS := ⟨_, rfl⟩
      have HW := w64_byte b
      have HL := Lib.hid hl
      have HNX := Lib.hid hnx
      have HSZ := Lib.hid hsz
      have HBB := Lib.hid hb
      clear hl hnx hsz hb
      go_wp2_with (refine wpList_append_ints (o := ⟨some 18, _, _, _, _, _⟩) rfl (.tmp 12) (.tmp 17) rfl w.heap.size _ (num (s.data.toList.take k)) rfl (World.ownsRow.alloc (w := wr) HV.out _) (some ⟨wr.heap.size, 0, none⟩) 1 1 [_] rfl rfl (one_int wr _) (by rw [HL.out]; omega) (by have := HB.out.size; simp; omega) ?_; intro v1 w1 hv1 _ hb1; have HV1 := Lib.hid hv1; have HB1 := Lib.hid ((HB.out.alloc HB.out.size (.cells #[_] 3)).trans hb1); clear hv1 hb1; obtain ⟨A1, c1, rfl⟩ := HV1.out.slice (n := k + 1) (by simp [HL.out]))
      go_roundw
      case rel =>
        have h := HV1.out
        try simp only [w64_byte] at h
        rw [HNX.out] at h
        exact ⟨k + 1, _, _, by go_num, rfl, by omega, h, HB1.out⟩
      case measure => simp [intOf] <;> omega
    · obtain ⟨k1, k2⟩ : k ≤ s.size ∧ s.size ≤ k := ⟨hk, by omega⟩
      go_wp2
      go_ret
      refine ⟨_, rfl, ?_, HB.out⟩
      have h := HV.out
      rw [List.take_of_length_le (by omega)] at h
      exact h

/-- Bytes of the call's own. -/
def OwnB (w : World) (B : Nat) (v : Value) (l : List UInt8) : Prop := w.ownsRow B 5 1 v l.length (u8Cells l)
theorem OwnB.form {w : World} {B : Nat} {v : Value} {l : List UInt8} (h : OwnB w B v l) : ∃ A c, v = .slice A l.length c := by
  have h' : w.ownsRow B 5 1 v l.length (u8Cells l) := h
  rcases h'.2 with ⟨rfl, h0⟩ | ⟨g, cap, cur, rfl, _⟩
  · have hl : l.length = 0 := by simpa [u8Cells] using h0
    exact ⟨none, 0, by rw [hl]⟩
  · exact ⟨_, cap, rfl⟩
theorem OwnB.str {w : World} {B c n : Nat} {A : Option Addr} {l : List UInt8} (h : OwnB w B (.slice A n c) l) (hn : n = l.length) : (convert 54 9 (.slice A n c)).run Try.prog w = .ok (.string ⟨l.toArray⟩) w := by
  subst hn
  have h' : w.ownsRow B 5 1 (.slice A l.length c) l.length (u8Cells l) := h
  rcases h'.2 with ⟨e, h0⟩ | ⟨g, cap, cur, e, _⟩
  · injection e with e1 e2 e3
    have hl : l = [] := List.eq_nil_of_length_eq_zero e2
    subst e1 hl
    exact run_convert_bytes_nil w 54 5 Try.underlying54 Try.underlying5 0 c 9 Try.underlying9
  · injection e with e1 e2 e3
    subst e1
    refine run_convert_bytes_back (P := Try.prog) w 54 9 5 ⟨g, 0, none⟩ c l Try.underlying54 Try.underlying5 Try.underlying9 (fun i hi => ?_)
    have ha : (⟨g, 0, none⟩ : Addr).add i = ⟨g, i, none⟩ := by unfold Addr.add; split <;> simp_all
    rw [ha, h'.cellAt i (by omega)]
    exact u8Cells_get hi

theorem one_u8 (w : World) (x : Int) : ∀ j u, [Value.int .u8 x][j]? = some u → (w.alloc (.cells #[.int .u8 x] 5)).cell? ((⟨w.heap.size, 0, none⟩ : Addr).add j) = some u := by
  intro j u hj
  match j, hj with
  | 0, hj => simp at hj; subst hj; exact (Blk.new w 5 #[.int .u8 x]).cell 0
theorem one_u8' (x : Int) : ∀ u ∈ [Value.int .u8 x], u.oneCell' = true := by
  intro u hu; simp at hu; subst hu; rfl
set_option maxRecDepth 100000 in
set_option maxHeartbeats 3200000 in
theorem rtext_any (A : Option Addr) (cap len : Nat) (l : List UInt8) (hlen : len = (num l).length) (k n : Nat) (w : World) (hA : Ints w A cap (num l)) (hfit : k + n ≤ l.length) (hl : l.length ≤ 1000) :
    Calls Try.prog 12 #[.slice A len cap, .int .i64 k, .int .i64 n] w fun r w' => r = .returned (.string ⟨((l.drop k).take n).toArray⟩) ∧ Below w.heap.size w w' := by
  obtain ⟨i0, hi0, hz0, hz1, hz2⟩ := info_parts u8_info
  have HA := Lib.hid hA
  have l1 : len ≤ l.length := by rw [hlen, num_len]; exact Nat.le_refl _
  have l2 : l.length ≤ len := by rw [hlen, num_len]; exact Nat.le_refl _
  have hn0 := num_len l
  have HN0 := Lib.hid hn0
  clear hA hlen hn0
  go_enter Try.func12, Try.ntmps12
  go_wp2
  go_loopw [7, 8] (fun v x wr => ∃ (j : Nat) (X : Int), x = .int .i64 X ∧ X ≤ k + j ∧ k + j ≤ X ∧ j ≤ n ∧ (∃ (A : Option Addr) (c : Nat), v = .slice A j c ∧ OwnB wr w.heap.size (.slice A j c) ((l.drop k).take j)) ∧ Below w.heap.size w wr) (fun _ x _ => (k + n : Int).toNat - (intOf x).toNat)
  case atStart => exact ⟨0, k, rfl, by omega, by omega, by omega, ⟨_, _, rfl, World.ownsRow_made w #[] 0 (Nat.le_refl _) (by unfold maxLen; omega) rfl⟩, (Below.refl _ _).alloc (Nat.le_refl _) _⟩
  case round =>
    obtain ⟨j, X, rfl, x1, x2, hj, ⟨Ao, co, rfl, hv⟩, hb⟩ := hrel
    obtain ⟨q, rfl⟩ : ∃ q : Nat, X = q := ⟨X.toNat, by omega⟩
    have HV := Lib.hid hv
    have HB := Lib.hid hb
    clear hv hb
    by_cases hjn : j < n
    · have hql : q < l.length := by omega
      obtain ⟨b, off, rfl, hbl, hc⟩ := (HA.out.below HB.out).2 (by rw [HN0.out]; omega)
      have c0 := hc q (by rw [HN0.out]; omega)
      have e0 : (num l)[q]'(by rw [HN0.out]; omega) = ((l[q]'hql).toNat : Int) := by simp [num]
      rw [e0] at c0
      clear hc e0
      have hll : ((l.drop k).take j).length = j := by simp; omega
      have hnx : u8Cells ((l.drop k).take j) ++ [.int .u8 ((l[q]'hql).toNat : Int)] = u8Cells ((l.drop k).take (j + 1)) := by
        rw [List.take_add_one]
        simp only [u8Cells, List.map_append]
        congr 1
        rw [List.getElem?_drop, show k + j = q by omega, List.getElem?_eq_getElem hql]
        rfl
      obtain ⟨z, hz⟩ : ∃ z, z = l[q]'hql := ⟨_, rfl⟩
      rw [← hz] at c0 hnx
      have hzl := z.toNat_lt
      have hzw : IntKind.u8.wrap (z.toNat : Int) = (z.toNat : Int) := by simp [IntKind.wrap_u8] <;> omega
      have i1 : (q : Int) < (len : Int) := by omega
      have i2 : (q : Int) < (k : Int) + (n : Int) := by omega
      have HNX := Lib.hid hnx
      have HLL := Lib.hid hll
      clear hnx hll hz
      go_wp2_with (at_builtin; refine wpList_append_own _ rfl (.tmp 18) (.tmp 24) 54 rfl w.heap.size 5 i0 _ 1 1 Try.underlying54 hi0 hz0 hz1 hz2 rfl (by decide) _ _ _ rfl (World.ownsRow.alloc (w := wr) HV.out _) ⟨wr.heap.size, 0, none⟩ 1 1 [.int .u8 (z.toNat : Int)] rfl rfl (one_u8 wr _) (one_u8' _) (by rw [HLL.out]; unfold maxLen; omega) (by rw [HLL.out]; omega) (by have := HB.out.size; simp; omega) ?_; intro v1 w1 hown1 hg1 _; rw [HNX.out] at hown1; have HV1 := Lib.hid hown1; have HB1 := Lib.hid ((HB.out.alloc HB.out.size (.cells #[.int .u8 (z.toNat : Int)] 5)).trans (below_of_only hg1 (by have := HB.out.size; simp; omega) (fun k hk => (World.ownsRow.lt HV.out k hk).1))); clear hown1 hg1; have hform : ∃ A1 c1, v1 = .slice A1 (j + 1) c1 := (by rcases HV1.out.2 with ⟨e, h0⟩ | ⟨g9, c9, cur9, e, _⟩; exact absurd h0 (by omega); rw [HLL.out] at e; exact ⟨_, c9, e⟩); obtain ⟨A1, c1, rfl⟩ := hform)
      go_roundw
      case rel =>
        refine ⟨j + 1, (q : Int) + 1, by first | rfl | go_num, by omega, by omega, by omega, ⟨_, _, rfl, ?_⟩, HB1.out⟩
        have h := HV1.out
        have e : ((l.drop k).take (j + 1)).length = ((l.drop k).take j).length + 1 := by simp; omega
        unfold OwnB
        rw [e]
        exact h
      case measure => simp [intOf] <;> omega
    · obtain rfl : j = n := by omega
      have hs := HV.out.str (by simp; omega)
      have i2 : ¬ (q : Int) < (k : Int) + (j : Int) := by omega
      go_wp2
      go_ret
      exact ⟨rfl, HB.out⟩
end Go.Proofs.Ythneljkaieckeaa
