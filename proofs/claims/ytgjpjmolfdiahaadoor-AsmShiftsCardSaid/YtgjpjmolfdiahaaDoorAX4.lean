/- Package asm: decimal numbers, and what a reader gives up by. -/
import Derived.Test.YtgjpjmolfdiahaaDoorAX3
namespace Go.Proofs.YtgjpjmolfdiahaaDoor
open Go.RowKit Go.Lib
set_option linter.unusedVariables false

theorem Am.head_of {s : ByteArray} (h : 0 < s.size) : s.data.toList.head? = some (s[0]'h) := by
  obtain ⟨⟨l⟩⟩ := s
  cases l with
  | nil => simp [ByteArray.size] at h
  | cons a b => rfl
theorem Am.len (s : ByteArray) : s.data.toList.length = s.size := by simp
theorem Am.empty_of {s : ByteArray} (h : ¬ 1 ≤ s.size) : s = ⟨#[]⟩ := by
  obtain ⟨⟨l⟩⟩ := s
  cases l with
  | nil => rfl
  | cons a b => simp [ByteArray.size] at h
theorem Am.ne_of {s : ByteArray} (h : 1 ≤ s.size) : s ≠ ⟨#[]⟩ := by
  rintro rfl
  simp [ByteArray.size] at h
theorem Am.drop_at {l : List UInt8} {i : Nat} (hi : i < l.length) : l.drop i = l[i] :: l.drop (i + 1) := List.drop_eq_getElem_cons hi
theorem Am.wrap8 (d : Nat) (h : d ≤ 255) : IntKind.u8.wrap (d : Int) = (d : Int) := by rw [IntKind.wrap_u8]; omega
theorem Am.wrap_i (x : Int) (h : 0 ≤ x) (h2 : x ≤ 1000000000000) : IntKind.i64.wrap x = x := by rw [IntKind.wrap_i64]; omega
def Am.numN (l : List UInt8) (m : Nat) : Int := ((Am.num l m).getD 0 : Nat)
def Am.numB (l : List UInt8) (m : Nat) : Bool := (Am.num l m).isSome
theorem Am.num_none {l : List UInt8} {m : Nat} (h : Am.num l m = none) : Am.numN l m = 0 ∧ Am.numB l m = false := by simp [Am.numN, Am.numB, h]
theorem Am.num_some {l : List UInt8} {m n : Nat} (h : Am.num l m = some n) : Am.numN l m = n ∧ Am.numB l m = true := by simp [Am.numN, Am.numB, h]
set_option maxRecDepth 20000 in
set_option maxHeartbeats 1600000 in
theorem Am.decimal_any (s : ByteArray) (hsz : s.size ≤ 100000) (m : Nat) (hm : m ≤ 65535) (w : World) : Calls Tryd.prog 70 #[.string s, .int .i64 m] w fun e w' => e = .returned (.tuple #[.int .i64 (Am.numN s.data.toList m), .bool (Am.numB s.data.toList m)]) ∧ w.grownBy w' none := by
  by_cases h1 : ¬ 1 ≤ s.size
  · obtain rfl := Am.empty_of h1
    have e := Am.num_none (l := (⟨#[]⟩ : ByteArray).data.toList) (m := m) (by unfold Am.num; rw [if_pos (Or.inl rfl)])
    rw [e.1, e.2]
    clear e h1
    go_enter Tryd.func70, Tryd.ntmps70
    go_wp2
    go_ret2
    exact ⟨rfl, only_refl _ _⟩
  have h1 : 1 ≤ s.size := by omega
  have hne := Am.str_some (Am.ne_of h1)
  have j0 : 0 < s.size := by omega
  have hhd := Am.head_of j0
  have hl := Am.len s
  have hq : s.data.toList ≠ [] := fun e => by rw [e] at hl; simp at hl; omega
  by_cases hz : 1 < s.size ∧ (s[0]'j0).toNat = 48
  · have i1 : (1 : Int) < (s.size : Int) := by omega
    have i2 : ((s[0]'j0).toNat : Int) = 48 := by omega
    have e := Am.num_none (l := s.data.toList) (m := m) (by unfold Am.num; rw [if_pos (Or.inr ⟨by omega, by rw [hhd]; congr 1; exact UInt8.toNat_inj.1 hz.2⟩)])
    rw [e.1, e.2]
    clear e hhd hl hq hz
    go_enter Tryd.func70, Tryd.ntmps70
    go_wp2
    go_ret2
    exact ⟨rfl, only_refl _ _⟩
  have hnum : Am.num s.data.toList m = Am.dec m s.data.toList 0 := by
    unfold Am.num
    rw [if_neg]
    rintro (h | ⟨h, h2⟩)
    · exact hq h
    · rw [hhd] at h2
      injection h2 with h2
      exact hz ⟨by omega, by rw [h2]; rfl⟩
  have hk := run_bytes_of_string (P := Tryd.prog) w 9 50 5 s rfl rfl rfl
  have R := Am.RowT.new w s (grownCap w s.size 0 5) 5
  have B0 : w.grownBy (w.drew.alloc (.cells (bytesRow s (grownCap w s.size 0 5)) 5 ((bytesRow s (grownCap w s.size 0 5)).size, (bytesRow s (grownCap w s.size 0 5)).size + 1))) none := only_alloc (only_drewN (only_refl _ _) 1) _
  obtain ⟨B, hB⟩ : ∃ B, B = w.heap.size := ⟨_, rfl⟩
  generalize grownCap w s.size 0 5 = cap at *
  generalize w.drew.alloc (.cells (bytesRow s cap) 5 ((bytesRow s cap).size, (bytesRow s cap).size + 1)) = w1 at *
  rw [← hB] at hk R
  clear hB
  replace R := Lib.hid R
  replace B0 := Lib.hid B0
  have HL := Lib.hid hl
  have HEN := Lib.hid (show Am.dec m s.data.toList 0 = none → Am.numN s.data.toList m = 0 ∧ Am.numB s.data.toList m = false from fun h => Am.num_none (hnum.trans h))
  have HES := Lib.hid (show ∀ n, Am.dec m s.data.toList 0 = some n → Am.numN s.data.toList m = n ∧ Am.numB s.data.toList m = true from fun n h => Am.num_some (hnum.trans h))
  generalize Am.numN s.data.toList m = rn at *
  generalize Am.numB s.data.toList m = rb at *
  generalize s.data.toList = l at *
  clear hl hq hnum hhd
  have HM := Lib.hid hm
  by_cases hs1 : s.size = 1
  · have i1 : ¬ (1 : Int) < (s.size : Int) := by omega
    clear hz hs1
    go_enter Tryd.func70, Tryd.ntmps70
    go_wp2
    go_loopw [24, 6] (fun k v wr => ∃ i n : Nat, k = .int .i64 i ∧ v = .int .i64 n ∧ i ≤ s.size ∧ n ≤ m ∧ Hid (Am.dec m l 0 = Am.dec m (l.drop i) n) ∧ w1 = wr) (fun k _ _ => s.size - (intOf k).toNat)
    case atStart => exact ⟨0, 0, rfl, rfl, by omega, by omega, Lib.hid rfl, rfl⟩
    case round =>
      obtain ⟨i, n, rfl, rfl, hi, hn, HI, rfl⟩ := hrel
      by_cases hin : i < s.size
      · have hil : i < l.length := by rw [HL.out]; exact hin
        have c0 := R.out i hil
        have i3 : (i : Int) < (s.size : Int) := by omega
        obtain ⟨c, hc⟩ : ∃ c, c = l[i] := ⟨_, rfl⟩
        rw [← hc] at c0
        have HT := Lib.hid (show Am.dec m l 0 = if c.toNat < 48 ∨ 57 < c.toNat then none else if m < n * 10 + (c.toNat - 48) then none else Am.dec m (l.drop (i + 1)) (n * 10 + (c.toNat - 48)) from by rw [HI.out, Am.drop_at hil, ← hc]; rfl)
        have hc8 := c.toNat_lt
        obtain ⟨q, hq⟩ : ∃ q : Nat, q = c.toNat := ⟨_, rfl⟩
        rw [← hq] at c0 HT hc8
        clear hil hc hq
        by_cases ha : q < 48
        · have ia : (q : Int) < 48 := by omega
          have HE := Lib.hid (HEN.out (by rw [HT.out, if_pos (Or.inl ha)]))
          go_wp2
          go_ret2
          exact ⟨by rw [HE.out.1, HE.out.2]; rfl, B0.out⟩
        · have ia : ¬ (q : Int) < 48 := by omega
          by_cases hb : 57 < q
          · have ib : (57 : Int) < (q : Int) := by omega
            have HE := Lib.hid (HEN.out (by rw [HT.out, if_pos (Or.inr hb)]))
            go_wp2
            go_ret2
            exact ⟨by rw [HE.out.1, HE.out.2]; rfl, B0.out⟩
          · have ib : ¬ (57 : Int) < (q : Int) := by omega
            obtain ⟨d, hd⟩ : ∃ d : Nat, d = q - 48 := ⟨_, rfl⟩
            have d1 : d ≤ 9 := by omega
            have d2 : (q : Int) - 48 = (d : Int) := by omega
            have HT2 := Lib.hid (show Am.dec m l 0 = if m < n * 10 + d then none else Am.dec m (l.drop (i + 1)) (n * 10 + d) from by rw [HT.out, if_neg (by omega), hd])
            obtain ⟨z, hz⟩ : ∃ z : Nat, z = n * 10 + d := ⟨_, rfl⟩
            have hz2 : (n : Int) * 10 + (d : Int) = (z : Int) := by omega
            rw [← hz] at HT2
            have HZ := Lib.hid hz2
            have u1 : IntKind.i64.wrap ((i : Int) + 1) = (i : Int) + 1 := Am.wrap_i _ (by omega) (by omega)
            have u2 : IntKind.u8.wrap ((q : Int) - 48) = (d : Int) := by rw [d2]; exact Am.wrap8 d (by omega)
            have u3 : IntKind.i64.wrap ((n : Int) * 10) = (n : Int) * 10 := Am.wrap_i _ (by omega) (by omega)
            have u4 : IntKind.i64.wrap ((n : Int) * 10 + (d : Int)) = (n : Int) * 10 + (d : Int) := Am.wrap_i _ (by omega) (by omega)
            have u5 : IntKind.i64.wrap (d : Int) = (d : Int) := Am.wrap_i _ (by omega) (by omega)
            have v3 : wrap64 ((n : Int) * 10) = (n : Int) * 10 := IntWalk.wrap64_in _ ⟨by omega, by omega⟩
            have v4 : wrap64 ((n : Int) * 10 + (d : Int)) = (z : Int) := by rw [hz2]; exact IntWalk.wrap64_in _ ⟨by omega, by omega⟩
            clear hd d1 d2 HT hz2 hc8
            by_cases hmx : m < z
            · have im : (m : Int) < (n : Int) * 10 + (d : Int) := by rw [HZ.out]; exact Int.ofNat_lt.2 hmx
              have HE := Lib.hid (HEN.out (by rw [HT2.out, if_pos hmx]))
              go_wp2
              go_ret2
              exact ⟨by rw [HE.out.1, HE.out.2]; rfl, B0.out⟩
            · have im : ¬ (m : Int) < (n : Int) * 10 + (d : Int) := fun e => hmx (Int.ofNat_lt.1 (by rw [← HZ.out]; exact e))
              go_wp2
              go_roundw
              case rel => clear u1 u2 u3 u4 u5 v3 v4; exact ⟨i + 1, z, by go_num, by rw [HZ.out], by omega, by omega, Lib.hid (by rw [HT2.out, if_neg hmx]), by first | rfl | trivial⟩
              case measure => clear u1 u2 u3 u4 u5 v3 v4; simp [intOf] <;> omega
      · obtain rfl : i = s.size := by omega
        have HE := Lib.hid (HES.out n (by rw [HI.out, List.drop_of_length_le (by rw [HL.out]; exact Nat.le_refl _)]; rfl))
        go_wp2
        go_ret2
        exact ⟨by rw [HE.out.1, HE.out.2]; rfl, B0.out⟩
  · have i1 : (1 : Int) < (s.size : Int) := by omega
    have i2 : ¬ ((s[0]'j0).toNat : Int) = 48 := by omega
    clear hz hs1
    go_enter Tryd.func70, Tryd.ntmps70
    go_wp2
    go_loopw [24, 6] (fun k v wr => ∃ i n : Nat, k = .int .i64 i ∧ v = .int .i64 n ∧ i ≤ s.size ∧ n ≤ m ∧ Hid (Am.dec m l 0 = Am.dec m (l.drop i) n) ∧ w1 = wr) (fun k _ _ => s.size - (intOf k).toNat)
    case atStart => exact ⟨0, 0, rfl, rfl, by omega, by omega, Lib.hid rfl, rfl⟩
    case round =>
      obtain ⟨i, n, rfl, rfl, hi, hn, HI, rfl⟩ := hrel
      by_cases hin : i < s.size
      · have hil : i < l.length := by rw [HL.out]; exact hin
        have c0 := R.out i hil
        have i3 : (i : Int) < (s.size : Int) := by omega
        obtain ⟨c, hc⟩ : ∃ c, c = l[i] := ⟨_, rfl⟩
        rw [← hc] at c0
        have HT := Lib.hid (show Am.dec m l 0 = if c.toNat < 48 ∨ 57 < c.toNat then none else if m < n * 10 + (c.toNat - 48) then none else Am.dec m (l.drop (i + 1)) (n * 10 + (c.toNat - 48)) from by rw [HI.out, Am.drop_at hil, ← hc]; rfl)
        have hc8 := c.toNat_lt
        obtain ⟨q, hq⟩ : ∃ q : Nat, q = c.toNat := ⟨_, rfl⟩
        rw [← hq] at c0 HT hc8
        clear hil hc hq
        by_cases ha : q < 48
        · have ia : (q : Int) < 48 := by omega
          have HE := Lib.hid (HEN.out (by rw [HT.out, if_pos (Or.inl ha)]))
          go_wp2
          go_ret2
          exact ⟨by rw [HE.out.1, HE.out.2]; rfl, B0.out⟩
        · have ia : ¬ (q : Int) < 48 := by omega
          by_cases hb : 57 < q
          · have ib : (57 : Int) < (q : Int) := by omega
            have HE := Lib.hid (HEN.out (by rw [HT.out, if_pos (Or.inr hb)]))
            go_wp2
            go_ret2
            exact ⟨by rw [HE.out.1, HE.out.2]; rfl, B0.out⟩
          · have ib : ¬ (57 : Int) < (q : Int) := by omega
            obtain ⟨d, hd⟩ : ∃ d : Nat, d = q - 48 := ⟨_, rfl⟩
            have d1 : d ≤ 9 := by omega
            have d2 : (q : Int) - 48 = (d : Int) := by omega
            have HT2 := Lib.hid (show Am.dec m l 0 = if m < n * 10 + d then none else Am.dec m (l.drop (i + 1)) (n * 10 + d) from by rw [HT.out, if_neg (by omega), hd])
            obtain ⟨z, hz⟩ : ∃ z : Nat, z = n * 10 + d := ⟨_, rfl⟩
            have hz2 : (n : Int) * 10 + (d : Int) = (z : Int) := by omega
            rw [← hz] at HT2
            have HZ := Lib.hid hz2
            have u1 : IntKind.i64.wrap ((i : Int) + 1) = (i : Int) + 1 := Am.wrap_i _ (by omega) (by omega)
            have u2 : IntKind.u8.wrap ((q : Int) - 48) = (d : Int) := by rw [d2]; exact Am.wrap8 d (by omega)
            have u3 : IntKind.i64.wrap ((n : Int) * 10) = (n : Int) * 10 := Am.wrap_i _ (by omega) (by omega)
            have u4 : IntKind.i64.wrap ((n : Int) * 10 + (d : Int)) = (n : Int) * 10 + (d : Int) := Am.wrap_i _ (by omega) (by omega)
            have u5 : IntKind.i64.wrap (d : Int) = (d : Int) := Am.wrap_i _ (by omega) (by omega)
            have v3 : wrap64 ((n : Int) * 10) = (n : Int) * 10 := IntWalk.wrap64_in _ ⟨by omega, by omega⟩
            have v4 : wrap64 ((n : Int) * 10 + (d : Int)) = (z : Int) := by rw [hz2]; exact IntWalk.wrap64_in _ ⟨by omega, by omega⟩
            clear hd d1 d2 HT hz2 hc8
            by_cases hmx : m < z
            · have im : (m : Int) < (n : Int) * 10 + (d : Int) := by rw [HZ.out]; exact Int.ofNat_lt.2 hmx
              have HE := Lib.hid (HEN.out (by rw [HT2.out, if_pos hmx]))
              go_wp2
              go_ret2
              exact ⟨by rw [HE.out.1, HE.out.2]; rfl, B0.out⟩
            · have im : ¬ (m : Int) < (n : Int) * 10 + (d : Int) := fun e => hmx (Int.ofNat_lt.1 (by rw [← HZ.out]; exact e))
              go_wp2
              go_roundw
              case rel => clear u1 u2 u3 u4 u5 v3 v4; exact ⟨i + 1, z, by go_num, by rw [HZ.out], by omega, by omega, Lib.hid (by rw [HT2.out, if_neg hmx]), by first | rfl | trivial⟩
              case measure => clear u1 u2 u3 u4 u5 v3 v4; simp [intOf] <;> omega
      · obtain rfl : i = s.size := by omega
        have HE := Lib.hid (HES.out n (by rw [HI.out, List.drop_of_length_le (by rw [HL.out]; exact Nat.le_refl _)]; rfl))
        go_wp2
        go_ret2
        exact ⟨by rw [HE.out.1, HE.out.2]; rfl, B0.out⟩
end Go.Proofs.YtgjpjmolfdiahaaDoor
