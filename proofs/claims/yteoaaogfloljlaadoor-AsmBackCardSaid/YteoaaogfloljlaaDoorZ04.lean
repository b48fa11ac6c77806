import Derived.Test.YteoaaogfloljlaaDoorZ03
import Derived.Shelf.Small.Wraps
import Derived.Shelf.Lay
import Derived.Ground.NamesProg
import Derived.OrdersHeld
import Derived.Deep.RegionHeld
set_option linter.all false
/- Package asm: decimal numbers, and what a reader gives up by. -/
namespace Go.Proofs.YteoaaogfloljlaaDoor
open Go.RowKit Go.Lib
set_option linter.unusedVariables false

theorem Am.head_of {s : ByteArray} (h : 0 < s.size) : s.data.toList.head? = some (s[0]'h) := by
  obtain ⟨⟨l⟩⟩ := s
  cases l with
  | nil => simp [ByteArray.size] at h
  | cons a b => rfl
theorem Am.len (s : ByteArray) : s.data.toList.length = s.size := by simp
theorem Am.empty_of {s : ByteArray} (h : ¬ 1 ≤ s.size) : s = ⟨#[]⟩ := by
  obtain ⟨⟨l⟩⟩ := s
  cases l with
  | nil => rfl
  | cons a b => simp [ByteArray.size] at h
theorem Am.ne_of {s : ByteArray} (h : 1 ≤ s.size) : s ≠ ⟨#[]⟩ := by
  rintro rfl
  simp [ByteArray.size] at h
theorem Am.drop_at {l : List UInt8} {i : Nat} (hi : i < l.length) : l.drop i = l[i] :: l.drop (i + 1) := List.drop_eq_getElem_cons hi
theorem Am.wrap8 (d : Nat) (h : d ≤ 255) : IntKind.u8.wrap (d : Int) = (d : Int) := by rw [IntKind.wrap_u8]; omega
theorem Am.wrap_i (x : Int) (h : 0 ≤ x) (h2 : x ≤ 1000000000000) : IntKind.i64.wrap x = x := by rw [IntKind.wrap_i64]; omega
def Am.numN (l : List UInt8) (m : Nat) : Int := ((Am.num l m).getD 0 : Nat)
def Am.numB (l : List UInt8) (m : Nat) : Bool := (Am.num l m).isSome
theorem Am.num_none {l : List UInt8} {m : Nat} (h : Am.num l m = none) : Am.numN l m = 0 ∧ Am.numB l m = false := by simp [Am.numN, Am.numB, h]
theorem Am.num_some {l : List UInt8} {m n : Nat} (h : Am.num l m = some n) : Am.numN l m = n ∧ Am.numB l m = true := by simp [Am.numN, Am.numB, h]
set_option maxRecDepth 20000 in
set_option maxHeartbeats 1600000 in
theorem Am.decimal_any (s : ByteArray) (hsz : s.size ≤ 100000) (m : Nat) (hm : m ≤ 65535) (w : World) : Calls Tryd.prog 54 #[.string s, .int .i64 m] w fun e w' => e = .returned (.tuple #[.int .i64 (Am.numN s.data.toList m), .bool (Am.numB s.data.toList m)]) ∧ w.grownBy w' none := by
  by_cases h1 : ¬ 1 ≤ s.size
  · obtain rfl := Am.empty_of h1
    have e := Am.num_none (l := (⟨#[]⟩ : ByteArray).data.toList) (m := m) (by unfold Am.num; rw [if_pos (Or.inl rfl)])
    rw [e.1, e.2]
    clear e h1
    go_enter Tryd.func54, Tryd.ntmps54
    go_wp2
    go_ret2
    exact ⟨rfl, only_refl _ _⟩
  have h1 : 1 ≤ s.size := by omega
  have hne := Am.str_some (Am.ne_of h1)
  have j0 : 0 < s.size := by omega
  have hhd := Am.head_of j0
  have hl := Am.len s
  have hq : s.data.toList ≠ [] := fun e => by rw [e] at hl; simp at hl; omega
  by_cases hz : 1 < s.size ∧ (s[0]'j0).toNat = 48
  · have i1 : (1 : Int) < (s.size : Int) := by omega
    have i2 : ((s[0]'j0).toNat : Int) = 48 := by omega
    have e := Am.num_none (l := s.data.toList) (m := m) (by unfold Am.num; rw [if_pos (Or.inr ⟨by omega, by rw [hhd]; congr 1; exact UInt8.toNat_inj.1 hz.2⟩)])
    rw [e.1, e.2]
    clear e hhd hl hq hz
    go_enter Tryd.func54, Tryd.ntmps54
    go_wp2
    go_ret2
    exact ⟨rfl, only_refl _ _⟩
  have hnum : Am.num s.data.toList m = Am.dec m s.data.toList 0 := by
    unfold Am.num
    rw [if_neg]
    rintro (h | ⟨h, h2⟩)
    · exact hq h
    · rw [hhd] at h2
      injection h2 with h2
      exact hz ⟨by omega, by rw [h2]; rfl⟩
  have hk := run_bytes_of_string (P := Tryd.prog) w 9 34 5 s rfl rfl rfl
  have R := Am.RowT.new w s (grownCap w s.size 0 5) 5
  have B0 : w.grownBy (w.drew.alloc (.cells (bytesRow s (grownCap w s.size 0 5)) 5 ((bytesRow s (grownCap w s.size 0 5)).size, (bytesRow s (grownCap w s.size 0 5)).size + 1))) none := only_alloc (only_drewN (only_refl _ _) 1) _
  obtain ⟨B, hB⟩ : ∃ B, B = w.heap.size := ⟨_, rfl⟩
  generalize grownCap w s.size 0 5 = cap at *
  generalize w.drew.alloc (.cells (bytesRow s cap) 5 ((bytesRow s cap).size, (bytesRow s cap).size + 1)) = w1 at *
  rw [← hB] at hk R
  clear hB
  replace R := Lib.hid R
  replace B0 := Lib.hid B0
  have HL := Lib.hid hl
  have HEN := Lib.hid (show Am.dec m s.data.toList 0 = none → Am.numN s.data.toList m = 0 ∧ Am.numB s.data.toList m = false from fun h => Am.num_none (hnum.trans h))
  have HES := Lib.hid (show ∀ n, Am.dec m s.data.toList 0 = some n → Am.numN s.data.toList m = n ∧ Am.numB s.data.toList m = true from fun n h => Am.num_some (hnum.trans h))
  generalize Am.numN s.data.toList m = rn at *
  generalize Am.numB s.data.toList m = rb at *
  generalize s.data.toList = l at *
  clear hl hq hnum hhd
  have HM := Lib.hid hm
  by_cases hs1 : s.size = 1
  · have i1 : ¬ (1 : Int) < (s.size : Int) := by omega
    clear hz hs1
    go_enter Tryd.func54, Tryd.ntmps54
    go_wp2
    go_loopw [24, 6] (fun k v wr => ∃ i n : Nat, k = .int .i64 i ∧ v = .int .i64 n ∧ i ≤ s.size ∧ n ≤ m ∧ Hid (Am.dec m l 0 = Am.dec m (l.drop i) n) ∧ w1 = wr) (fun k _ _ => s.size - (Go.RowKit.intOf k).toNat)
    case atStart => exact ⟨0, 0, rfl, rfl, by omega, by omega, Lib.hid rfl, rfl⟩
    case round =>
      obtain ⟨i, n, rfl, rfl, hi, hn, HI, rfl⟩ := hrel
      by_cases hin : i < s.size
      · have hil : i < l.length := by rw [HL.out]; exact hin
        have c0 := R.out i hil
        have i3 : (i : Int) < (s.size : Int) := by omega
        obtain ⟨c, hc⟩ : ∃ c, c = l[i] := ⟨_, rfl⟩
        rw [← hc] at c0
        have HT := Lib.hid (show Am.dec m l 0 = if c.toNat < 48 ∨ 57 < c.toNat then none else if m < n * 10 + (c.toNat - 48) then none else Am.dec m (l.drop (i + 1)) (n * 10 + (c.toNat - 48)) from by rw [HI.out, Am.drop_at hil, ← hc]; rfl)
        have hc8 := c.toNat_lt
        obtain ⟨q, hq⟩ : ∃ q : Nat, q = c.toNat := ⟨_, rfl⟩
        rw [← hq] at c0 HT hc8
        clear hil hc hq
        by_cases ha : q < 48
        · have ia : (q : Int) < 48 := by omega
          have HE := Lib.hid (HEN.out (by rw [HT.out, if_pos (Or.inl ha)]))
          go_wp2
          go_ret2
          exact ⟨by rw [HE.out.1, HE.out.2]; rfl, B0.out⟩
        · have ia : ¬ (q : Int) < 48 := by omega
          by_cases hb : 57 < q
          · have ib : (57 : Int) < (q : Int) := by omega
            have HE := Lib.hid (HEN.out (by rw [HT.out, if_pos (Or.inr hb)]))
            go_wp2
            go_ret2
            exact ⟨by rw [HE.out.1, HE.out.2]; rfl, B0.out⟩
          · have ib : ¬ (57 : Int) < (q : Int) := by omega
            obtain ⟨d, hd⟩ : ∃ d : Nat, d = q - 48 := ⟨_, rfl⟩
            have d1 : d ≤ 9 := by omega
            have d2 : (q : Int) - 48 = (d : Int) := by omega
            have HT2 := Lib.hid (show Am.dec m l 0 = if m < n * 10 + d then none else Am.dec m (l.drop (i + 1)) (n * 10 + d) from by rw [HT.out, if_neg (by omega), hd])
            obtain ⟨z, hz⟩ : ∃ z : Nat, z = n * 10 + d := ⟨_, rfl⟩
            have hz2 : (n : Int) * 10 + (d : Int) = (z : Int) := by omega
            rw [← hz] at HT2
            have HZ := Lib.hid hz2
            have u1 : IntKind.i64.wrap ((i : Int) + 1) = (i : Int) + 1 := Am.wrap_i _ (by omega) (by omega)
            have u2 : IntKind.u8.wrap ((q : Int) - 48) = (d : Int) := by rw [d2]; exact Am.wrap8 d (by omega)
            have u3 : IntKind.i64.wrap ((n : Int) * 10) = (n : Int) * 10 := Am.wrap_i _ (by omega) (by omega)
            have u4 : IntKind.i64.wrap ((n : Int) * 10 + (d : Int)) = (n : Int) * 10 + (d : Int) := Am.wrap_i _ (by omega) (by omega)
            have u5 : IntKind.i64.wrap (d : Int) = (d : Int) := Am.wrap_i _ (by omega) (by omega)
            have v3 : wrap64 ((n : Int) * 10) = (n : Int) * 10 := IntWalk.wrap64_in _ ⟨by omega, by omega⟩
            have v4 : wrap64 ((n : Int) * 10 + (d : Int)) = (z : Int) := by rw [hz2]; exact IntWalk.wrap64_in _ ⟨by omega, by omega⟩
            clear hd d1 d2 HT hz2 hc8
            by_cases hmx : m < z
            · have im : (m : Int) < (n : Int) * 10 + (d : Int) := by rw [HZ.out]; exact Int.ofNat_lt.2 hmx
              have HE := Lib.hid (HEN.out (by rw [HT2.out, if_pos hmx]))
              go_wp2
              go_ret2
              exact ⟨by rw [HE.out.1, HE.out.2]; rfl, B0.out⟩
            · have im : ¬ (m : Int) < (n : Int) * 10 + (d : Int) := fun e => hmx (Int.ofNat_lt.1 (by rw [← HZ.out]; exact e))
              go_wp2
              go_roundw
              case rel => clear u1 u2 u3 u4 u5 v3 v4; exact ⟨i + 1, z, by go_num, by rw [HZ.out], by omega, by omega, Lib.hid (by rw [HT2.out, if_neg hmx]), by first | rfl | trivial⟩
              case measure => clear u1 u2 u3 u4 u5 v3 v4; simp [Go.RowKit.intOf] <;> omega
      · obtain rfl : i = s.size := by omega
        have HE := Lib.hid (HES.out n (by rw [HI.out, List.drop_of_length_le (by rw [HL.out]; exact Nat.le_refl _)]; rfl))
        go_wp2
        go_ret2
        exact ⟨by rw [HE.out.1, HE.out.2]; rfl, B0.out⟩
  · have i1 : (1 : Int) < (s.size : Int) := by omega
    have i2 : ¬ ((s[0]'j0).toNat : Int) = 48 := by omega
    clear hz hs1
    go_enter Tryd.func54, Tryd.ntmps54
    go_wp2
    go_loopw [24, 6] (fun k v wr => ∃ i n : Nat, k = .int .i64 i ∧ v = .int .i64 n ∧ i ≤ s.size ∧ n ≤ m ∧ Hid (Am.dec m l 0 = Am.dec m (l.drop i) n) ∧ w1 = wr) (fun k _ _ => s.size - (Go.RowKit.intOf k).toNat)
    case atStart => exact ⟨0, 0, rfl, rfl, by omega, by omega, Lib.hid rfl, rfl⟩
    case round =>
      obtain ⟨i, n, rfl, rfl, hi, hn, HI, rfl⟩ := hrel
      by_cases hin : i < s.size
      · have hil : i < l.length := by rw [HL.out]; exact hin
        have c0 := R.out i hil
        have i3 : (i : Int) < (s.size : Int) := by omega
        obtain ⟨c, hc⟩ : ∃ c, c = l[i] := ⟨_, rfl⟩
        rw [← hc] at c0
        have HT := Lib.hid (show Am.dec m l 0 = if c.toNat < 48 ∨ 57 < c.toNat then none else if m < n * 10 + (c.toNat - 48) then none else Am.dec m (l.drop (i + 1)) (n * 10 + (c.toNat - 48)) from by rw [HI.out, Am.drop_at hil, ← hc]; rfl)
        have hc8 := c.toNat_lt
        obtain ⟨q, hq⟩ : ∃ q : Nat, q = c.toNat := ⟨_, rfl⟩
        rw [← hq] at c0 HT hc8
        clear hil hc hq
        by_cases ha : q < 48
        · have ia : (q : Int) < 48 := by omega
          have HE := Lib.hid (HEN.out (by rw [HT.out, if_pos (Or.inl ha)]))
          go_wp2
          go_ret2
          exact ⟨by rw [HE.out.1, HE.out.2]; rfl, B0.out⟩
        · have ia : ¬ (q : Int) < 48 := by omega
          by_cases hb : 57 < q
          · have ib : (57 : Int) < (q : Int) := by omega
            have HE := Lib.hid (HEN.out (by rw [HT.out, if_pos (Or.inr hb)]))
            go_wp2
            go_ret2
            exact ⟨by rw [HE.out.1, HE.out.2]; rfl, B0.out⟩
          · have ib : ¬ (57 : Int) < (q : Int) := by omega
            obtain ⟨d, hd⟩ : ∃ d : Nat, d = q - 48 := ⟨_, rfl⟩
            have d1 : d ≤ 9 := by omega
            have d2 : (q : Int) - 48 = (d : Int) := by omega
            have HT2 := Lib.hid (show Am.dec m l 0 = if m < n * 10 + d then none else Am.dec m (l.drop (i + 1)) (n * 10 + d) from by rw [HT.out, if_neg (by omega), hd])
            obtain ⟨z, hz⟩ : ∃ z : Nat, z = n * 10 + d := ⟨_, rfl⟩
            have hz2 : (n : Int) * 10 + (d : Int) = (z : Int) := by omega
            rw [← hz] at HT2
            have HZ := Lib.hid hz2
            have u1 : IntKind.i64.wrap ((i : Int) + 1) = (i : Int) + 1 := Am.wrap_i _ (by omega) (by omega)
            have u2 : IntKind.u8.wrap ((q : Int) - 48) = (d : Int) := by rw [d2]; exact Am.wrap8 d (by omega)
            have u3 : IntKind.i64.wrap ((n : Int) * 10) = (n : Int) * 10 := Am.wrap_i _ (by omega) (by omega)
            have u4 : IntKind.i64.wrap ((n : Int) * 10 + (d : Int)) = (n : Int) * 10 + (d : Int) := Am.wrap_i _ (by omega) (by omega)
            have u5 : IntKind.i64.wrap (d : Int) = (d : Int) := Am.wrap_i _ (by omega) (by omega)
            have v3 : wrap64 ((n : Int) * 10) = (n : Int) * 10 := IntWalk.wrap64_in _ ⟨by omega, by omega⟩
            have v4 : wrap64 ((n : Int) * 10 + (d : Int)) = (z : Int) := by rw [hz2]; exact IntWalk.wrap64_in _ ⟨by omega, by omega⟩
            clear hd d1 d2 HT hz2 hc8
            by_cases hmx : m < z
            · have im : (m : Int) < (n : Int) * 10 + (d : Int) := by rw [HZ.out]; exact Int.ofNat_lt.2 hmx
              have HE := Lib.hid (HEN.out (by rw [HT2.out, if_pos hmx]))
              go_wp2
              go_ret2
              exact ⟨by rw [HE.out.1, HE.out.2]; rfl, B0.out⟩
            · have im : ¬ (m : Int) < (n : Int) * 10 + (d : Int) := fun e => hmx (Int.ofNat_lt.1 (by rw [← HZ.out]; exact e))
              go_wp2
              go_roundw
              case rel => clear u1 u2 u3 u4 u5 v3 v4; exact ⟨i + 1, z, by go_num, by rw [HZ.out], by omega, by omega, Lib.hid (by rw [HT2.out, if_neg hmx]), by first | rfl | trivial⟩
              case measure => clear u1 u2 u3 u4 u5 v3 v4; simp [Go.RowKit.intOf] <;> omega
      · obtain rfl : i = s.size := by omega
        have HE := Lib.hid (HES.out n (by rw [HI.out, List.drop_of_length_le (by rw [HL.out]; exact Nat.le_refl _)]; rfl))
        go_wp2
        go_ret2
        exact ⟨by rw [HE.out.1, HE.out.2]; rfl, B0.out⟩
end Go.Proofs.YteoaaogfloljlaaDoor

/- Package asm: what a reader gives up by; registers, numbers, values, counts, operands, by their contracts. -/
namespace Go.Proofs
open Go.Shelf
def Tryd.cutPrefix_ren : Go.Shelf.Ren := ⟨fun | 103 => 65 | 210 => 80 | 206 => 87 | n => n, fun | 9 => 9 | 4 => 4 | 24 => 68 | 3 => 3 | n => n, fun | n => n⟩
theorem Tryd.cutPrefix : Go.Proofs.Lays.n103 Tryd.prog Tryd.cutPrefix_ren := {
  mixed := by kernel_rfl
  f103 := Tryd.func65.trans (congrArg some (by kernel_rfl))
  f206 := Tryd.func87.trans (congrArg some (by kernel_rfl))
  f210 := Tryd.func80.trans (congrArg some (by kernel_rfl))
  t3 := Tryd.underlying3
  a3 := Tryd.isAgg3
  z3 := Tryd.sizeOf3
  v3 := Tryd.zeroValue3
  t4 := Tryd.underlying4
  a4 := Tryd.isAgg4
  z4 := Tryd.sizeOf4
  v4 := Tryd.zeroValue4
  t9 := Tryd.underlying9
  a9 := Tryd.isAgg9
  z9 := Tryd.sizeOf9
  v9 := Tryd.zeroValue9
  t24 := Tryd.underlying68
  a24 := Tryd.isAgg68
  z24 := Tryd.sizeOf68
  v24 := Tryd.zeroValue68 }
def Tryd.cutSuffix_ren : Go.Shelf.Ren := ⟨fun | 104 => 30 | 211 => 39 | 207 => 53 | n => n, fun | 9 => 9 | 4 => 4 | 24 => 68 | 3 => 3 | n => n, fun | n => n⟩
theorem Tryd.cutSuffix : Go.Proofs.Lays.n104 Tryd.prog Tryd.cutSuffix_ren := {
  mixed := by kernel_rfl
  f104 := Tryd.func30.trans (congrArg some (by kernel_rfl))
  f207 := Tryd.func53.trans (congrArg some (by kernel_rfl))
  f211 := Tryd.func39.trans (congrArg some (by kernel_rfl))
  t3 := Tryd.underlying3
  a3 := Tryd.isAgg3
  z3 := Tryd.sizeOf3
  v3 := Tryd.zeroValue3
  t4 := Tryd.underlying4
  a4 := Tryd.isAgg4
  z4 := Tryd.sizeOf4
  v4 := Tryd.zeroValue4
  t9 := Tryd.underlying9
  a9 := Tryd.isAgg9
  z9 := Tryd.sizeOf9
  v9 := Tryd.zeroValue9
  t24 := Tryd.underlying68
  a24 := Tryd.isAgg68
  z24 := Tryd.sizeOf68
  v24 := Tryd.zeroValue68 }
end Go.Proofs
namespace Go.Proofs.YteoaaogfloljlaaDoor
open Go.RowKit Go.Lib
set_option linter.unusedVariables false

/-- What a reader gives up by, at a line. -/
def Am.chn (ln e : Int) : List PanicEntry := [{ v := .iface 55 (.agg #[.int .i64 ln, .int .i64 e]), recovered := false }]
theorem Am.kc {W W' : World} {b : Nat} (g : W.grownBy W' none) (h : b < W.heap.size) (i : Nat) : W'.cell? ⟨b, i, none⟩ = W.cell? ⟨b, i, none⟩ := by
  have := g.block b h (by simp)
  simp [World.cell?, this]
theorem Am.giveup_any (b : Nat) (ln e : Int) (w : World) (h0 : w.cell? ⟨b, 0, none⟩ = some (.int .i64 ln)) : Calls Tryd.prog 33 #[.pointer (some ⟨b, 0, none⟩), .int .i64 e] w fun r w' => r = (.panicked (Am.chn ln e)) ∧ w = w' := by
  go_enter Tryd.func33, Tryd.ntmps33
  go_wp2
  exact ⟨rfl, rfl, rfl⟩
/-- A number, or giving up. -/
def Am.numP (o : Option Nat) (ln : Int) (w : World) (r : Ending) (w' : World) : Prop := (match o with | some n => r = .returned (.int .i64 n) | none => r = (.panicked (Am.chn ln 3))) ∧ w.grownBy w' none
theorem Am.number_any (b : Nat) (ln : Int) (s : ByteArray) (hs : s.size ≤ 100000) (m : Nat) (hm : m ≤ 65535) (w : World) (h0 : w.cell? ⟨b, 0, none⟩ = some (.int .i64 ln)) :
    Calls Tryd.prog 43 #[.pointer (some ⟨b, 0, none⟩), .string s, .int .i64 m] w (Am.numP (Am.num s.data.toList m) ln w) := by
  have hlt : b < w.heap.size := World.block_lt_of_cell? w _ h0
  have HD := Lib.hid (Am.decimal_any s hs m hm w)
  have HG := Lib.hid (fun (W : World) (q : w.grownBy W none) => Am.giveup_any b ln 3 W (by rw [Am.kc q hlt 0]; exact h0))
  cases e : Am.num s.data.toList m with
  | none =>
    have h := Am.num_none e
    rw [h.1, h.2] at HD
    clear e h h0
    unfold Am.numP
    go_enter Tryd.func43, Tryd.ntmps43
    go_wp2_with (first
      | (go_at_call 54; (with_reducible refine HD.out.mono ?_); rintro r w2 ⟨rfl, g2⟩; have G2 := Lib.hid g2; clear g2)
      | (go_at_call 33; (with_reducible refine (HG.out _ G2.out).mono ?_); rintro r w3 ⟨rfl, rfl⟩))
    exact ⟨rfl, rfl, G2.out⟩
  | some n =>
    have h := Am.num_some e
    rw [h.1, h.2] at HD
    clear e h h0
    unfold Am.numP
    go_enter Tryd.func43, Tryd.ntmps43
    go_wp2_with (first
      | (go_at_call 54; (with_reducible refine HD.out.mono ?_); rintro r w2 ⟨rfl, g2⟩; have G2 := Lib.hid g2; clear g2)
      | (go_at_call 33; (with_reducible refine (HG.out _ G2.out).mono ?_); rintro r w3 ⟨rfl, rfl⟩))
    go_ret
    exact ⟨rfl, G2.out⟩
end Go.Proofs.YteoaaogfloljlaaDoor

/- Package asm: registers, values, counts, operands, by their contracts. -/
namespace Go.Proofs.YteoaaogfloljlaaDoor
open Go.RowKit Go.Lib
set_option linter.unusedVariables false

theorem Am.pre_yes {l : List UInt8} (h : l.head? = some 114) : Go.Lib.hasPrefix l [114] = true ∧ Go.Lib.trimPrefix l [114] = l.tail := by
  cases l with
  | nil => cases h
  | cons a b =>
    simp at h
    subst h
    simp [Go.Lib.trimPrefix, Go.Lib.hasPrefix]
theorem Am.pre_no {l : List UInt8} (h : ¬ l.head? = some 114) : Go.Lib.hasPrefix l [114] = false ∧ Go.Lib.trimPrefix l [114] = l := by
  cases l with
  | nil => simp [Go.Lib.trimPrefix, Go.Lib.hasPrefix]
  | cons a b =>
    simp at h
    have : ¬ (114 : UInt8) = a := fun e => h e.symm
    simp [Go.Lib.trimPrefix, Go.Lib.hasPrefix, List.isPrefixOf, this]
theorem Am.tail_size {s : ByteArray} (h : s.size ≤ 100000) : (⟨s.data.toList.tail.toArray⟩ : ByteArray).size ≤ 100000 := by
  have := Am.len s
  show s.data.toList.tail.toArray.size ≤ 100000
  rw [List.size_toArray, List.length_tail]
  omega
theorem Am.register_any (b : Nat) (ln : Int) (s : ByteArray) (hs : s.size ≤ 100000) (w : World) (h0 : w.cell? ⟨b, 0, none⟩ = some (.int .i64 ln)) :
    Calls Tryd.prog 55 #[.pointer (some ⟨b, 0, none⟩), .string s] w (Am.numP (Am.reg s.data.toList) ln w) := by
  have HC := Lib.hid (show Calls Tryd.prog 65 #[.string s, .string ⟨#[114]⟩] w (fun e w' => e = .returned (.tuple #[.string ⟨(Go.Lib.trimPrefix s.data.toList (⟨#[114]⟩ : ByteArray).data.toList).toArray⟩, .bool (Go.Lib.hasPrefix s.data.toList (⟨#[114]⟩ : ByteArray).data.toList)]) ∧ w' = w) from Any.strings_CutPrefix Tryd.cutPrefix s ⟨#[114]⟩ w)
  have HG := Lib.hid (Am.giveup_any b ln 3 w h0)
  by_cases hp : s.data.toList.head? = some 114
  · have h := Am.pre_yes hp
    have hr : Am.reg s.data.toList = Am.num s.data.toList.tail 7 := by unfold Am.reg; rw [if_pos hp]
    have HN := Lib.hid (show Calls Tryd.prog 43 #[.pointer (some ⟨b, 0, none⟩), .string ⟨s.data.toList.tail.toArray⟩, .int .i64 7] w (Am.numP (Am.num (⟨s.data.toList.tail.toArray⟩ : ByteArray).data.toList 7) ln w) from Am.number_any b ln ⟨s.data.toList.tail.toArray⟩ (Am.tail_size hs) 7 (by omega) w h0)
    rw [show (⟨#[114]⟩ : ByteArray).data.toList = [114] from rfl, h.1, h.2] at HC
    rw [show (⟨s.data.toList.tail.toArray⟩ : ByteArray).data.toList = s.data.toList.tail from by simp] at HN
    rw [hr]
    generalize (⟨s.data.toList.tail.toArray⟩ : ByteArray) = s2 at *
    cases e : Am.num s.data.toList.tail 7 with
    | none =>
      rw [e] at HN
      clear e h h0 hp hr
      unfold Am.numP at HN ⊢
      go_enter Tryd.func55, Tryd.ntmps55
      go_wp2_with (first
        | (go_at_call 65; (with_reducible refine HC.out.mono ?_); rintro r w2 ⟨rfl, rfl⟩)
        | (go_at_call 33; (with_reducible refine HG.out.mono ?_); rintro r w3 ⟨rfl, rfl⟩)
        | (go_at_call 43; (with_reducible refine HN.out.mono ?_); rintro r w3 ⟨rfl, g3⟩))
      exact ⟨rfl, rfl, g3⟩
    | some n =>
      rw [e] at HN
      clear e h h0 hp hr
      unfold Am.numP at HN ⊢
      go_enter Tryd.func55, Tryd.ntmps55
      go_wp2_with (first
        | (go_at_call 65; (with_reducible refine HC.out.mono ?_); rintro r w2 ⟨rfl, rfl⟩)
        | (go_at_call 33; (with_reducible refine HG.out.mono ?_); rintro r w3 ⟨rfl, rfl⟩)
        | (go_at_call 43; (with_reducible refine HN.out.mono ?_); rintro r w3 ⟨rfl, g3⟩))
      go_ret
      exact ⟨rfl, g3⟩
  · have h := Am.pre_no hp
    have hr : Am.reg s.data.toList = none := by unfold Am.reg; rw [if_neg hp]
    rw [show (⟨#[114]⟩ : ByteArray).data.toList = [114] from rfl, h.1] at HC
    rw [hr]
    generalize (⟨(Go.Lib.trimPrefix s.data.toList [114]).toArray⟩ : ByteArray) = s2 at *
    clear h h0 hp hr
    unfold Am.numP
    go_enter Tryd.func55, Tryd.ntmps55
    go_wp2_with (first
      | (go_at_call 65; (with_reducible refine HC.out.mono ?_); rintro r w2 ⟨rfl, rfl⟩)
      | (go_at_call 33; (with_reducible refine HG.out.mono ?_); rintro r w3 ⟨rfl, rfl⟩))
    exact ⟨rfl, rfl, only_refl _ _⟩
/-- A number and a name, or giving up. -/
def Am.valP (o : Option (Nat × List UInt8)) (ln : Int) (w : World) (r : Ending) (w' : World) : Prop := (match o with | some v => r = .returned (.tuple #[.int .i64 v.1, .string ⟨v.2.toArray⟩]) | none => r = .panicked (Am.chn ln 3)) ∧ w.grownBy w' none
theorem Am.value_any (b : Nat) (ln : Int) (s : ByteArray) (hs : s.size ≤ 100000) (w : World) (h0 : w.cell? ⟨b, 0, none⟩ = some (.int .i64 ln)) :
    Calls Tryd.prog 44 #[.pointer (some ⟨b, 0, none⟩), .string s] w (Am.valP (Am.val s.data.toList) ln w) := by
  have hlt : b < w.heap.size := World.block_lt_of_cell? w _ h0
  have HI := Lib.hid (Am.isname_any s w)
  have HN := Lib.hid (fun (W : World) (q : w.grownBy W none) => (show Calls Tryd.prog 43 #[.pointer (some ⟨b, 0, none⟩), .string s, .int .i64 65535] W (Am.numP (Am.num s.data.toList 65535) ln W) from Am.number_any b ln s hs 65535 (by omega) W (by rw [Am.kc q hlt 0]; exact h0)))
  by_cases hn : Am.isName s.data.toList = true
  · have hv : Am.val s.data.toList = some (0, s.data.toList) := by unfold Am.val; rw [if_pos hn]
    rw [hn] at HI
    rw [hv]
    clear hv h0 hn
    unfold Am.valP
    go_enter Tryd.func44, Tryd.ntmps44
    go_wp2_with (first
      | (go_at_call 40; (with_reducible refine HI.out.mono ?_); rintro r w2 ⟨rfl, g2⟩))
    go_ret2
    exact ⟨by rw [show s = ⟨s.data.toList.toArray⟩ from by simp]; simp, g2⟩
  · have hn : Am.isName s.data.toList = false := by simpa using hn
    have hv : Am.val s.data.toList = (Am.num s.data.toList 65535).map fun n => (n, []) := by unfold Am.val; rw [hn]; rfl
    rw [hn] at HI
    rw [hv]
    cases e : Am.num s.data.toList 65535 with
    | none =>
      rw [e] at HN
      clear hv h0 hn e
      unfold Am.numP at HN
      unfold Am.valP
      go_enter Tryd.func44, Tryd.ntmps44
      go_wp2_with (first
        | (go_at_call 40; (with_reducible refine HI.out.mono ?_); rintro r w2 ⟨rfl, g2⟩; have G2 := Lib.hid g2; clear g2)
        | (go_at_call 43; (with_reducible refine (HN.out _ G2.out).mono ?_); rintro r w3 ⟨rfl, g3⟩; have G3 := Lib.hid (only_trans G2.out g3); clear g3))
      exact ⟨rfl, rfl, G3.out⟩
    | some n =>
      rw [e] at HN
      rw [Option.map_some]
      clear hv h0 hn e
      unfold Am.numP at HN
      unfold Am.valP
      go_enter Tryd.func44, Tryd.ntmps44
      go_wp2_with (first
        | (go_at_call 40; (with_reducible refine HI.out.mono ?_); rintro r w2 ⟨rfl, g2⟩; have G2 := Lib.hid g2; clear g2)
        | (go_at_call 43; (with_reducible refine (HN.out _ G2.out).mono ?_); rintro r w3 ⟨rfl, g3⟩; have G3 := Lib.hid (only_trans G2.out g3); clear g3))
      go_ret2
      exact ⟨rfl, G3.out⟩
/-- Nothing, or giving up. -/
theorem Am.count_yes (b : Nat) (A : Option Addr) (n c : Nat) (w : World) : Calls Tryd.prog 41 #[.pointer (some ⟨b, 0, none⟩), .slice A n c, .int .i64 n] w fun r w' => r = .returned (.tuple #[]) ∧ w = w' := by
  go_enter Tryd.func41, Tryd.ntmps41
  go_wp2
  go_end0
  exact ⟨rfl, rfl⟩
theorem Am.count_no (b : Nat) (ln : Int) (A : Option Addr) (n c m : Nat) (hne : n ≠ m) (w : World) (h0 : w.cell? ⟨b, 0, none⟩ = some (.int .i64 ln)) : Calls Tryd.prog 41 #[.pointer (some ⟨b, 0, none⟩), .slice A n c, .int .i64 m] w fun r w' => r = .panicked (Am.chn ln 3) ∧ w = w' := by
  have HG := Lib.hid (Am.giveup_any b ln 3 w h0)
  have hi : ¬ ((n : Int) = (m : Int)) := by omega
  have hi2 : ((n : Int) == (m : Int)) = false := by rw [beq_eq_false_iff_ne]; exact hi
  clear h0
  go_enter Tryd.func41, Tryd.ntmps41
  go_wp2_with (first
    | (go_at_call 33; (with_reducible refine HG.out.mono ?_); rintro r w3 ⟨rfl, rfl⟩))
  exact ⟨rfl, rfl, rfl⟩
/-- The kinds of an instruction's words. -/
def Am.ops (k : Nat) : List Int := if k = 0 ∨ k = 15 then [] else if k = 11 then [3] else if k = 14 then [0, 2] else if rgB k then [0, 1] else [0, 3]
end Go.Proofs.YteoaaogfloljlaaDoor

/- Package asm: what an instruction's words are, and two bytes of a number, by their contracts. -/
namespace Go.Proofs.YteoaaogfloljlaaDoor
open Go.RowKit Go.Lib
set_option linter.unusedVariables false

/-- A slice of the kinds of an instruction's words, of the call's own. -/
def Am.opsP (k : Nat) (w : World) (r : Ending) (w' : World) : Prop :=
  w.grownBy w' none ∧ ((Am.ops k = [] ∧ r = .returned (.slice none 0 0)) ∨ ∃ l : List Int, Am.ops k = l ∧ l ≠ [] ∧ r = .returned (.slice (some ⟨w.heap.size, 0, none⟩) l.length l.length) ∧ w.heap.size < w'.heap.size ∧ ∀ j x, l[j]? = some x → w'.cell? ⟨w.heap.size, j, none⟩ = some (.int .i64 x))
theorem Am.ops_row (w : World) (l : List Int) (hl : l = [3] ∨ l = [0, 2] ∨ l = [0, 1] ∨ l = [0, 3]) (t : TypeId) : ∀ j x, l[j]? = some x → (w.alloc (.cells (l.map (Value.int .i64)).toArray t)).cell? ⟨w.heap.size, j, none⟩ = some (.int .i64 x) := by
  intro j x h
  rw [(Blk.new w t (l.map (Value.int .i64)).toArray).cell j]
  simp [h]
set_option maxRecDepth 8000 in
theorem Am.operands_any (k : Nat) (hk : k < 256) (w : World) : Calls Tryd.prog 26 #[.int .u8 k] w (Am.opsP k w) := by
  have HR := Lib.hid (Go.Proofs.YteoaaogfloljlaaDoor.register_any k hk w)
  by_cases h0 : k = 0
  · subst h0
    have he : Am.ops 0 = [] := by decide
    go_enter Tryd.func26, Tryd.ntmps26
    go_wp2
    go_ret
    exact ⟨only_refl _ _, Or.inl ⟨he, rfl⟩⟩
  by_cases h15 : k = 15
  · subst h15
    have he : Am.ops 15 = [] := by decide
    go_enter Tryd.func26, Tryd.ntmps26
    go_wp2
    go_ret
    exact ⟨only_refl _ _, Or.inl ⟨he, rfl⟩⟩
  by_cases h11 : k = 11
  · subst h11
    have he : Am.ops 11 = [3] := by decide
    go_enter Tryd.func26, Tryd.ntmps26
    go_wp2
    go_ret
    exact ⟨only_alloc (only_refl _ _) _, Or.inr ⟨[3], he, by simp, rfl, by simp, Am.ops_row w [3] (by simp) _⟩⟩
  by_cases h14 : k = 14
  · subst h14
    have he : Am.ops 14 = [0, 2] := by decide
    go_enter Tryd.func26, Tryd.ntmps26
    go_wp2
    go_ret
    exact ⟨only_alloc (only_refl _ _) _, Or.inr ⟨[0, 2], he, by simp, rfl, by simp, Am.ops_row w [0, 2] (by simp) _⟩⟩
  have i0 : ¬ ((k : Int) = 0) := by omega
  have i15 : ¬ ((k : Int) = 15) := by omega
  have i11 : ¬ ((k : Int) = 11) := by omega
  have i14 : ¬ ((k : Int) = 14) := by omega
  have j0 : ((k : Int) == 0) = false := by rw [beq_eq_false_iff_ne]; exact i0
  have j15 : ((k : Int) == 15) = false := by rw [beq_eq_false_iff_ne]; exact i15
  have j11 : ((k : Int) == 11) = false := by rw [beq_eq_false_iff_ne]; exact i11
  have j14 : ((k : Int) == 14) = false := by rw [beq_eq_false_iff_ne]; exact i14
  have he : Am.ops k = if rgB k then [0, 1] else [0, 3] := by unfold Am.ops; rw [if_neg (by omega), if_neg h11, if_neg h14]
  have HE := Lib.hid he
  clear he h0 h11 h14 h15 i0 i15 i11 i14
  cases hr : rgB k
  · rw [hr] at HR HE
    clear hr
    go_enter Tryd.func26, Tryd.ntmps26
    go_wp2_with (first
      | (go_at_call 35; (with_reducible refine HR.out.mono ?_); rintro r w3 ⟨rfl, rfl⟩))
    go_ret
    exact ⟨only_alloc (only_refl _ _) _, Or.inr ⟨[0, 3], HE.out, by simp, rfl, by simp, Am.ops_row w [0, 3] (by simp) _⟩⟩
  · rw [hr] at HR HE
    clear hr
    go_enter Tryd.func26, Tryd.ntmps26
    go_wp2_with (first
      | (go_at_call 35; (with_reducible refine HR.out.mono ?_); rintro r w3 ⟨rfl, rfl⟩))
    go_ret
    exact ⟨only_alloc (only_refl _ _) _, Or.inr ⟨[0, 1], HE.out, by simp, rfl, by simp, Am.ops_row w [0, 1] (by simp) _⟩⟩
end Go.Proofs.YteoaaogfloljlaaDoor

/- A row onto which another one is put, or a string's bytes. -/
namespace Go.Proofs.YteoaaogfloljlaaDoor
open Go.RowKit Go.Lib
set_option linter.unusedVariables false
section
variable {s : Nat} {w w' : World} {v : Value} {n : Nat} {xs : List Value}
theorem run_growZ {P : Program} (w : World) (t u e ty : TypeId) (m : Nat) (hm0 : 0 < m) (i : TypeInfo) (z : Value) (bytes : Nat) (ht : P.underlying t = some (.slice e)) (hi : P.info? e = some i) (hz : i.zero = some z) (hs : i.size = s) (hby : i.bytes = bytes) (hb16 : bytes ≤ 128) (hzs : z.cells.size = s)
    (v : Value) (n : Nat) (l : List Value) (h : RowZ s w v n l) (h1 : ∀ u ∈ l, u.oneCell' = true) (xs : Value) (x : List Value) (hx : Src P s u xs m x w) (hn : n + m ≤ 1000000) :
    ∃ v' w', (Builtin.append_ #[t, u] ty #[v, xs]).run P w = .ok v' w' ∧ RowZ s w' v' (n + m) (l ++ x) ∧ w.grownBy w' v.ownBlock ∧ (v'.ownBlock = v.ownBlock ∨ v'.ownBlock = some w.heap.size) := by
  have hxl : x.length = m * s := hx.newsLen
  have hlx : (l ++ x).length = (n + m) * s := by rw [List.length_append, h.1, hxl, Nat.add_mul]
  have hbm : (n + m) * bytes ≤ 140737488355328 := by
    have : (n + m) * bytes ≤ 1000001 * 128 := Nat.mul_le_mul (by omega) hb16
    omega
  have hsrc : Src P i.size u xs m x w := by rw [hs]; exact hx
  have grown : ∀ (base : Option Addr) (cap : Nat), v = .slice base n cap → cap < n + m → ∃ v' w', (Builtin.append_ #[t, u] ty #[v, xs]).run P w = .ok v' w' ∧ RowZ s w' v' (n + m) (l ++ x) ∧ w.grownBy w' v.ownBlock ∧ (v'.ownBlock = v.ownBlock ∨ v'.ownBlock = some w.heap.size) := by
    intro base cap hv hcap
    have hold := ((h.drewN 1).src (P := P) t e ht h1).cells
    have hm : n + m ≤ maxLen := by unfold maxLen; omega
    have hge := grownCap_ge w (n + m) cap e
    have hcm := grownCap_le_maxLen w (n + m) cap e hm
    rw [hv] at hold
    have hr := run_append_grow_src (P := P) w t u ty e i z ht hi hz base n cap l (by rw [hs]; exact hold) xs m x hsrc hcap (by omega) (by rw [hby]; exact growslice_fits hcap hbm)
    rw [hv]
    refine ⟨_, _, hr, ?_, ⟨rfl, rfl, rfl, by simp, fun k hk _ => Below.heap_alloc w.drew _ k hk⟩, .inr rfl⟩
    refine RowZ.new w.drew _ e _ hlx ?_ hge hcm (fun j u hu => ?_)
    · simp only [Array.size_append, List.size_toArray, size_zeroCells, hzs, hlx]
      rw [← Nat.add_mul]
      congr 1
      omega
    · have hj := (List.getElem?_eq_some_iff.1 hu).1
      rw [Array.getElem?_append_left (by simpa using hj)]
      simpa using hu
  rcases h with ⟨hl, ⟨rfl, rfl⟩ | ⟨g, off, cap, rfl, h2, h3, h4, h5, h6⟩⟩
  · exact grown none 0 rfl (by omega)
  · by_cases hroom : n + m ≤ cap
    · have hcs : n * s + m * s ≤ cap * s := by
        have := Nat.mul_le_mul_right s hroom
        rw [Nat.add_mul] at this
        exact this
      have hr := run_append_room_src (P := P) w t u ty e i ht hi g off n cap xs m x hsrc hroom (by
        intro j hj
        rw [hs, Nat.add_assoc]
        exact (h5 (n * s + j) (by omega)).1) (by
        intro j hj
        rw [hs, Nat.add_assoc]
        exact (h5 (n * s + j) (by omega)).2)
      rw [hs] at hr
      have hsome : ∀ k, k < x.length → (w.cell? ⟨g, off + n * s + k, none⟩).isSome = true := fun k hk => by
        rw [Nat.add_assoc]
        exact (h5 (n * s + k) (by omega)).1
      refine ⟨_, _, hr, ⟨hlx, .inr ⟨g, off, cap, rfl, hroom, h3, ?_, ?_, ?_⟩⟩, only_cells _ _ _ _, .inl rfl⟩
      · rw [(setCells_at g x (off + n * s) w).2.2.2.1]
        exact h4
      · intro j hj
        rw [World.frozen?_setCells]
        refine ⟨?_, (h5 j hj).2⟩
        by_cases e1 : n * s ≤ j ∧ j < n * s + m * s
        · have := World.cell?_setCells_in g x (off + n * s) w hsome (j - n * s) (by omega)
          rw [show off + n * s + (j - n * s) = off + j by omega] at this
          rw [this]
          rfl
        · rw [World.cell?_setCells_out g x (off + n * s) w _ (by intro _ _; simp; omega)]
          exact (h5 j hj).1
      · intro j u hu
        by_cases e1 : j < n * s
        · rw [List.getElem?_append_left (by omega)] at hu
          rw [World.cell?_setCells_out g x (off + n * s) w _ (by intro _ _; simp; omega)]
          exact h6 j u hu
        · have hj := (List.getElem?_eq_some_iff.1 hu).1
          rw [List.length_append, hl] at hj
          rw [List.getElem?_append_right (by omega), hl] at hu
          have := World.cell?_setCells_in g x (off + n * s) w hsome (j - n * s) (by omega)
          rw [show off + n * s + (j - n * s) = off + j by omega] at this
          rw [this, ← List.getElem?_eq_getElem]
          exact hu
    · exact grown _ cap rfl (by omega)

end
/-- append of unlike types, at the operation, where its run is known. -/
theorem wpList_append_eq2 {P : Program} {ops : Array Oper} {rest : List Oper} {o : Oper} {a : Act} {Q : Exit → Act → World → Prop} {w : World} (hgd : o.guard = none) (s x : Operand) (t u : TypeId) (ho : o.op = .call { callee := .builtin .append, args := #[s, x], argTypes := #[t, u] })
    {v xs v' : Value} {w' : World} (hr : (Builtin.append_ #[t, u] o.type #[v, xs]).run P w = .ok v' w') (hs : a.eval s = v) (hx : a.eval x = xs) (h : wpList P ops Q rest (a.put o.dst v') w') : wpList P ops Q (o :: rest) a w := by
  refine wpList_plain hgd fun K hK => ?_
  unfold Oper.wp execOp
  simp only [ho, resolve, invoke, builtin, Sem.run_bind, Sem.run_pure, Result.andThen_ok, List.map_toArray, List.map_cons, List.map_nil, hs, hx, hr]
  exact hK _ _ h
end Go.Proofs.YteoaaogfloljlaaDoor

/- A region that draws its order, and whose last operation waits for all others: they in any order, under a condition that need not hold behind the last one; then the last one. No program is spoken of here. -/
namespace Go.Proofs.YteoaaogfloljlaaDoor
open Go
set_option linter.unusedVariables false

section
variable {P : Program} {ops : Array Oper} {md : Region.Mode} {Q : Exit → Act → World → Prop} {S : World → Prop} {n : Nat}

/-- The post behind all but the last one. -/
def Ends (P : Program) (ops : Array Oper) (Q : Exit → Act → World → Prop) (n : Nat) : Exit → Act → World → Prop
  | .normal, a, w => wpOp P ops Q n (fun a' w' => Q .normal a' w') a w
  | .ret, a, w => Q .ret a w
  | .panic c, a, w => Q (.panic c) a w
  | .outgrown, a, w => Q .outgrown a w
  | e, a, w => Q e a w

theorem wpOp_pop (hz : ops.size = n + 1) (hg : ∀ (i : Nat) (o : Oper), ops[i]? = some o → o.guard = none) {i : Nat} (hi : i < n) {K : Act → World → Prop} {a : Act} {w : World} (h : wpOp P ops.pop (Ends P ops Q n) i K a w) : wpOp P ops Q i K a w := by
  unfold wpOp at *
  have he : ops.pop[i]? = ops[i]? := by rw [Array.getElem?_pop, if_pos (by omega)]
  rw [he] at h
  cases ho : ops[i]? with
  | none => rw [ho] at h; exact h
  | some o =>
    rw [ho] at h
    have hw : ∀ y, Region.wanted o y = true := fun y => by simp [Region.wanted, hg i o ho]
    simp only [hw, if_true] at h ⊢
    rcases h with h | ⟨h1, h2⟩
    · refine .inl ?_
      unfold Oper.wp at *
      generalize (execOp a.eval o).run P w = r at *
      cases r with
      | ok x w' =>
        cases x <;> simp only [Oper.upon] at h ⊢
        case value u => exact h
        case skip => exact h
        case defer d => exact h
        case enter f args =>
          refine Calls.mono h fun e w'' he => ?_
          cases e with
          | returned u => exact he
          | panicked c => exact he
          | outgrown => exact he
        case row row args => exact h
      | halt x w' =>
        cases x <;> simp only [Oper.upon] at h ⊢
        case panic u => exact h
    · exact .inr ⟨h1, h2⟩

/-- What the law asks of the region's form. -/
def endsB (md : Region.Mode) (ops : Array Oper) (n : Nat) : Bool :=
  decide (ops.size = n + 1) && (List.range (n + 1)).all fun i => match ops[i]? with
    | none => true
    | some o => o.guard.isNone && (o.after.all fun e => decide (e.on < i)) && (if i = n then (List.range n).all fun j => o.after.any fun e => Region.binds md e && decide (e.on = j) else true)
theorem endsB_spec (h : endsB md ops n = true) : ops.size = n + 1 ∧ (∀ (i : Nat) (o : Oper), ops[i]? = some o → o.guard = none) ∧ (∀ (i : Nat) (o : Oper), ops[i]? = some o → ∀ e ∈ o.after, e.on < i) ∧ ∀ (o : Oper), ops[n]? = some o → ∀ j, j < n → ∃ e ∈ o.after, Region.binds md e = true ∧ e.on = j := by
  unfold endsB at h
  rw [Bool.and_eq_true, List.all_eq_true] at h
  obtain ⟨h1, h2⟩ := h
  have hz : ops.size = n + 1 := by simpa using h1
  have key : ∀ (i : Nat) (o : Oper), ops[i]? = some o → (o.guard.isNone && (o.after.all fun e => decide (e.on < i)) && (if i = n then (List.range n).all fun j => o.after.any fun e => Region.binds md e && decide (e.on = j) else true)) = true := fun i o ho => by
    have hi : i < ops.size := (Array.getElem?_eq_some_iff.1 ho).1
    have := h2 i (by rw [List.mem_range]; omega)
    rwa [ho] at this
  refine ⟨hz, fun i o ho => ?_, fun i o ho e he => ?_, fun o ho j hj => ?_⟩
  · have := key i o ho
    simp only [Bool.and_eq_true] at this
    simpa using this.1.1
  · have := key i o ho
    simp only [Bool.and_eq_true] at this
    have := this.1.2
    rw [Array.all_eq_true_iff_forall_mem] at this
    simpa using this e he
  · have := key n o ho
    simp only [Bool.and_eq_true, if_true] at this
    have := this.2
    rw [List.all_eq_true] at this
    have := this j (by simpa using hj)
    obtain ⟨q, hq, hb⟩ := Array.any_eq_true.1 this
    simp only [Bool.and_eq_true, decide_eq_true_eq] at hb
    exact ⟨_, Array.getElem_mem hq, hb⟩

/-- Something may come up as1 long as1 something has not. -/
theorem some_ready (he : ∀ (i : Nat) (o : Oper), ops[i]? = some o → ∀ e ∈ o.after, e.on < i) {listed : Array Bool} (hl : listed.size = ops.size) : ∀ (i : Nat), i < ops.size → listed.getD i true = false → ∃ j, j ≤ i ∧ j ∈ Region.ready md ops listed := by
  intro i
  induction i using Nat.strongRecOn with
  | ind i ih =>
    intro hi hf
    by_cases hall : ∀ e ∈ (ops[i]'hi).after, Region.binds md e = true → listed.getD e.on false = true
    · exact ⟨i, Nat.le_refl _, mem_ready.2 ⟨hf, _, Array.getElem?_eq_getElem hi, hall⟩⟩
    · simp only [Classical.not_forall] at hall
      obtain ⟨e, hm, hbi, hb⟩ := hall
      have hlt := he i _ (Array.getElem?_eq_getElem hi) e hm
      have h9 : e.on < listed.size := by omega
      have hf' : listed.getD e.on true = false := by
        simp [Array.getD, h9] at hb ⊢
        exact hb
      obtain ⟨j, hj, hr⟩ := ih e.on hlt (by omega) hf'
      exact ⟨j, by omega, hr⟩

/-- All but the last one have come up. -/
def AllBut (n : Nat) (listed : Array Bool) : Prop := listed.size = n + 1 ∧ listed.getD n true = false ∧ ∀ i, i < n → listed.getD i true = true
theorem getD_same {listed : Array Bool} {i : Nat} (h : i < listed.size) : listed.getD i true = listed.getD i false := by simp [Array.getD, h]
theorem getD_pop {listed : Array Bool} {i : Nat} (d : Bool) (h : i + 1 < listed.size) : listed.pop.getD i d = listed.getD i d := by
  have h1 : i < listed.pop.size := by simp; omega
  have h2 : i < listed.size := by omega
  simp only [Array.getD, h1, h2, dif_pos]
  simp
theorem ready_pop (hz : ops.size = n + 1) (he : ∀ (i : Nat) (o : Oper), ops[i]? = some o → ∀ e ∈ o.after, e.on < i) {listed : Array Bool} (hl : listed.size = n + 1) {i : Nat} (hi : i < n) : i ∈ Region.ready md ops listed ↔ i ∈ Region.ready md ops.pop listed.pop := by
  rw [mem_ready, mem_ready, getD_pop _ (by omega), Array.getElem?_pop, if_pos (by omega)]
  refine and_congr Iff.rfl ⟨fun ⟨o, ho, h⟩ => ⟨o, ho, fun e hm hb => ?_⟩, fun ⟨o, ho, h⟩ => ⟨o, ho, fun e hm hb => ?_⟩⟩
  · have := he i o ho e hm
    rw [getD_pop _ (by omega)]
    exact h e hm hb
  · have := he i o ho e hm
    have h9 := h e hm hb
    rwa [getD_pop _ (by omega)] at h9
theorem ends_done (hz : ops.size = n + 1) (he : ∀ (i : Nat) (o : Oper), ops[i]? = some o → ∀ e ∈ o.after, e.on < i) {listed : Array Bool} (h : AllBut n listed) {a : Act} {w : World} (hq : Ends P ops Q n .normal a w) (fuel : Nat) : wpAny P md ops Q (fuel + 1) listed a w := by
  obtain ⟨h1, h2, h3⟩ := h
  have hn : n < ops.size := by omega
  have hr : n ∈ Region.ready md ops listed := mem_ready.2 ⟨h2, _, Array.getElem?_eq_getElem hn, fun e hm hb => by
    have := he n _ (Array.getElem?_eq_getElem hn) e hm
    rw [← getD_same (by omega)]
    exact h3 e.on this⟩
  have hset : Region.ready md ops (listed.setIfInBounds n true) = [] := by
    refine List.eq_nil_iff_forall_not_mem.2 fun i hi => ?_
    obtain ⟨k1, o, ho, _⟩ := mem_ready.1 hi
    have hio : i < ops.size := (Array.getElem?_eq_some_iff.1 ho).1
    by_cases hin : i = n
    · subst hin
      simp [Array.getD, h1] at k1
    · rw [getD_set_ne true (Ne.symm hin), h3 i (by omega)] at k1
      cases k1
  refine ⟨fun h0 => (by rw [h0] at hr; cases hr), fun i hi => ?_⟩
  have hin : i = n := by
    obtain ⟨k1, o, ho, _⟩ := mem_ready.1 hi
    have hio : i < ops.size := (Array.getElem?_eq_some_iff.1 ho).1
    refine Classical.byContradiction fun hne => ?_
    rw [h3 i (by omega)] at k1
    cases k1
  subst hin
  refine wpOp_mono (fun a' w' hq' => ?_) hq
  cases fuel with
  | zero => exact ⟨hset, hq'⟩
  | succ k => exact ⟨fun _ => hq', by rw [hset]; simp⟩
theorem all_but (hz : ops.size = n + 1) (he : ∀ (i : Nat) (o : Oper), ops[i]? = some o → ∀ e ∈ o.after, e.on < i) {listed : Array Bool} (hl : listed.size = n + 1) (hn : listed.getD n true = false) (hr : Region.ready md ops.pop listed.pop = []) : AllBut n listed := by
  refine ⟨hl, hn, fun i hi => ?_⟩
  refine Classical.byContradiction fun hne => ?_
  have hf : listed.getD i true = false := by simpa using hne
  obtain ⟨j, hj, hjr⟩ := some_ready (md := md) he (by omega) i (by omega) hf
  have := (ready_pop hz he hl (by omega)).1 hjr
  rw [hr] at this
  cases this
theorem wpAny_ends (hB : endsB md ops n = true) : ∀ (fuel : Nat) (listed : Array Bool) (a : Act) (w : World), listed.size = n + 1 → listed.getD n true = false → wpAnyH P md ops.pop (Ends P ops Q n) S fuel listed.pop a w → wpAny P md ops Q (fuel + 1) listed a w
  | 0, listed, a, w, hl, hn, h => by
    obtain ⟨hz, hg, he, hlast⟩ := endsB_spec hB
    exact ends_done hz he (all_but hz he hl hn h.1) h.2 0
  | fuel + 1, listed, a, w, hl, hn, h => by
    obtain ⟨hz, hg, he, hlast⟩ := endsB_spec hB
    by_cases h0 : Region.ready md ops.pop listed.pop = []
    · exact ends_done hz he (all_but hz he hl hn h0) (h.1 h0) (fuel + 1)
    · have hlow : ∀ i, i ∈ Region.ready md ops listed → i < n := fun i hi => by
        obtain ⟨k1, o, ho, k2⟩ := mem_ready.1 hi
        have hio : i < ops.size := (Array.getElem?_eq_some_iff.1 ho).1
        refine Classical.byContradiction fun hne => h0 ?_
        have hin : i = n := by omega
        subst hin
        refine List.eq_nil_iff_forall_not_mem.2 fun j hj => ?_
        have hjn : j < i := by
          obtain ⟨_, o', ho', _⟩ := mem_ready.1 hj
          have := (Array.getElem?_eq_some_iff.1 ho').1
          simp at this
          omega
        obtain ⟨e, hm, hb, rfl⟩ := hlast o ho j hjn
        have h9 := k2 e hm hb
        have h8 := (mem_ready.1 ((ready_pop hz he hl hjn).2 hj)).1
        rw [getD_same (by omega)] at h8
        rw [h8] at h9
        cases h9
      refine ⟨fun h1 => ?_, fun i hi => ?_⟩
      · exfalso
        refine h0 (List.eq_nil_iff_forall_not_mem.2 fun j hj => ?_)
        have hjn : j < n := by
          obtain ⟨_, o', ho', _⟩ := mem_ready.1 hj
          have := (Array.getElem?_eq_some_iff.1 ho').1
          simp at this
          omega
        have := (ready_pop hz he hl hjn).2 hj
        rw [h1] at this
        cases this
      · have hin := hlow i hi
        have h2 := h.2 i ((ready_pop hz he hl hin).1 hi)
        refine wpOp_mono (fun a' w' h3 => ?_) (wpOp_pop hz hg hin h2)
        refine wpAny_ends hB fuel _ a' w' (by simpa using hl) (by rw [getD_set_ne true (by omega)]; exact hn) ?_
        have : (listed.setIfInBounds i true).pop = listed.pop.setIfInBounds i true := by
          apply Array.ext_getElem?
          intro k
          simp only [Array.getElem?_pop, Array.getElem?_setIfInBounds, Array.size_pop, Array.size_setIfInBounds]
          by_cases hk : i = k
          · subst hk
            have q1 : i < listed.size := by omega
            have q2 : i < listed.size - 1 := by omega
            simp [q1, q2]
          · simp [hk]
        rw [this]
        exact h3.2

/-- The last one comes up. -/
theorem Ends.last {a : Act} {w : World} {o : Oper} (ho : ops[n]? = some o) (h : ∀ K' : Act → World → Prop, Shut (∀ a w, Q .normal a w → K' a w) → if Region.wanted o (yielded ops a.tmps) = true then Oper.wp P o a w K' Q else K' (a.put o.dst undef) w) : Ends P ops Q n .normal a w :=
  wpOp_step ho h

/-- **A region whose last operation waits for all others.** -/
theorem wp_region_ends {id : Nat} {a : Act} {w : World} {l : List Oper} (n : Nat) (S : World → Prop) (hm : P.follows .mixedOrders = true) (hB : endsB .any l.toArray n = true) (hS : S w.drew)
    (h : S w.drew → wpAnyH P .any (l.take n).toArray (Ends P l.toArray Q n) S n (Array.replicate n false) a w.drew) : (Code.region id l.toArray true).wp P Q a w := by
  obtain ⟨hz, hg, he, hlast⟩ := endsB_spec hB
  refine wp_region_any hm ?_
  rw [hz]
  refine wpAny_ends (S := S) hB n (Array.replicate (n + 1) false) a _ (by simp) (by simp [Array.getD]) ?_
  have h1 : l.toArray.pop = (l.take n).toArray := by
    have hz' : l.length = n + 1 := by simpa using hz
    rw [List.pop_toArray, List.dropLast_eq_take, hz']
    rfl
  have h2 : (Array.replicate (n + 1) false).pop = Array.replicate n false := by simp
  rw [h1, h2]
  exact h hS
end
end Go.Proofs.YteoaaogfloljlaaDoor

/- A region that draws its order, and whose last operation waits for all others, some of them by way of others; see HE. No program is spoken of here. -/
namespace Go.Proofs.YteoaaogfloljlaaDoor
open Go
set_option linter.unusedVariables false

section
variable {P : Program} {ops : Array Oper} {md : Region.Mode} {Q : Exit → Act → World → Prop} {S : World → Prop} {n : Nat}
/-- What the law asks of the region's form: no guards; each operation but the last has one that waits for it. -/
def endsB2 (md : Region.Mode) (ops : Array Oper) (n : Nat) : Bool :=
  decide (ops.size = n + 1) && ((List.range (n + 1)).all fun i => match ops[i]? with
    | none => true
    | some o => o.guard.isNone && (o.after.all fun e => decide (e.on < i))) &&
  (List.range n).all fun j => (List.range (n + 1)).any fun k => decide (j < k) && match ops[k]? with
    | none => false
    | some o => o.after.any fun e => Region.binds md e && decide (e.on = j)
theorem endsB2_spec (h : endsB2 md ops n = true) : ops.size = n + 1 ∧ (∀ (i : Nat) (o : Oper), ops[i]? = some o → o.guard = none) ∧ (∀ (i : Nat) (o : Oper), ops[i]? = some o → ∀ e ∈ o.after, e.on < i) ∧ ∀ j, j < n → ∃ k o, j < k ∧ k ≤ n ∧ ops[k]? = some o ∧ ∃ e ∈ o.after, Region.binds md e = true ∧ e.on = j := by
  unfold endsB2 at h
  rw [Bool.and_eq_true, Bool.and_eq_true, List.all_eq_true, List.all_eq_true] at h
  obtain ⟨⟨h1, h2⟩, h3⟩ := h
  have hz : ops.size = n + 1 := by simpa using h1
  have key : ∀ (i : Nat) (o : Oper), ops[i]? = some o → (o.guard.isNone && (o.after.all fun e => decide (e.on < i))) = true := fun i o ho => by
    have hi : i < ops.size := (Array.getElem?_eq_some_iff.1 ho).1
    have := h2 i (by rw [List.mem_range]; omega)
    rwa [ho] at this
  refine ⟨hz, fun i o ho => ?_, fun i o ho e he => ?_, fun j hj => ?_⟩
  · have := key i o ho
    simp only [Bool.and_eq_true] at this
    simpa using this.1
  · have := key i o ho
    simp only [Bool.and_eq_true] at this
    have := this.2
    rw [Array.all_eq_true_iff_forall_mem] at this
    simpa using this e he
  · have := h3 j (by simpa using hj)
    rw [List.any_eq_true] at this
    obtain ⟨k, hk, hb⟩ := this
    simp only [Bool.and_eq_true, decide_eq_true_eq] at hb
    obtain ⟨hjk, hb⟩ := hb
    cases ho : ops[k]? with
    | none => rw [ho] at hb; cases hb
    | some o =>
      rw [ho] at hb
      obtain ⟨q, hq, hb⟩ := Array.any_eq_true.1 hb
      simp only [Bool.and_eq_true, decide_eq_true_eq] at hb
      exact ⟨k, o, hjk, by have := List.mem_range.1 hk; omega, ho, _, Array.getElem_mem hq, hb⟩
/-- What has come up had all come up that it waits for. -/
def DownC (md : Region.Mode) (ops : Array Oper) (listed : Array Bool) : Prop := ∀ (i : Nat) (o : Oper), ops[i]? = some o → listed.getD i true = true → ∀ e ∈ o.after, Region.binds md e = true → listed.getD e.on false = true
theorem DownC.set {listed : Array Bool} {i : Nat} (h : DownC md ops listed) (hi : i ∈ Region.ready md ops listed) : DownC md ops (listed.setIfInBounds i true) := fun j o ho hj e hm hb => by
  obtain ⟨k1, o', ho', k2⟩ := mem_ready.1 hi
  by_cases he : i = j
  · subst he
    rw [ho] at ho'
    injection ho' with ho'
    subst ho'
    exact getD_set_true (k2 e hm hb)
  · rw [getD_set_ne true he] at hj
    exact getD_set_true (h j o ho hj e hm hb)
theorem last_all (hz : ops.size = n + 1) (hsucc : ∀ j, j < n → ∃ k o, j < k ∧ k ≤ n ∧ ops[k]? = some o ∧ ∃ e ∈ o.after, Region.binds md e = true ∧ e.on = j) {listed : Array Bool} (hl : listed.size = n + 1) (hd : DownC md ops listed) (hr : n ∈ Region.ready md ops listed) : ∀ m j, n - j = m → j < n → listed.getD j false = true := by
  intro m
  induction m using Nat.strongRecOn with
  | ind m ih =>
    intro j hm hj
    obtain ⟨k, o, hjk, hkn, ho, e, he, hb, rfl⟩ := hsucc j hj
    by_cases hk : k = n
    · subst hk
      obtain ⟨_, o', ho', k2⟩ := mem_ready.1 hr
      rw [ho] at ho'
      injection ho' with ho'
      subst ho'
      exact k2 e he hb
    · have hkl := ih (n - k) (by omega) k rfl (by omega)
      exact hd k o ho (by rw [getD_same (by omega)]; exact hkl) e he hb
theorem wpAny_ends2 (hB : endsB2 md ops n = true) : ∀ (fuel : Nat) (listed : Array Bool) (a : Act) (w : World), listed.size = n + 1 → listed.getD n true = false → DownC md ops listed → wpAnyH P md ops.pop (Ends P ops Q n) S fuel listed.pop a w → wpAny P md ops Q (fuel + 1) listed a w
  | 0, listed, a, w, hl, hn, hd, h => by
    obtain ⟨hz, hg, he, hlast⟩ := endsB2_spec hB
    exact ends_done hz he (all_but hz he hl hn h.1) h.2 0
  | fuel + 1, listed, a, w, hl, hn, hd, h => by
    obtain ⟨hz, hg, he, hlast⟩ := endsB2_spec hB
    by_cases h0 : Region.ready md ops.pop listed.pop = []
    · exact ends_done hz he (all_but hz he hl hn h0) (h.1 h0) (fuel + 1)
    · have hlow : ∀ i, i ∈ Region.ready md ops listed → i < n := fun i hi => by
        obtain ⟨k1, o, ho, k2⟩ := mem_ready.1 hi
        have hio : i < ops.size := (Array.getElem?_eq_some_iff.1 ho).1
        refine Classical.byContradiction fun hne => h0 ?_
        have hin : i = n := by omega
        subst hin
        refine List.eq_nil_iff_forall_not_mem.2 fun j hj => ?_
        have hjn : j < i := by
          obtain ⟨_, o', ho', _⟩ := mem_ready.1 hj
          have := (Array.getElem?_eq_some_iff.1 ho').1
          simp at this
          omega
        have h9 := last_all hz hlast hl hd hi _ j rfl hjn
        have h8 := (mem_ready.1 ((ready_pop hz he hl hjn).2 hj)).1
        rw [getD_same (by omega)] at h8
        rw [h8] at h9
        cases h9
      refine ⟨fun h1 => ?_, fun i hi => ?_⟩
      · exfalso
        refine h0 (List.eq_nil_iff_forall_not_mem.2 fun j hj => ?_)
        have hjn : j < n := by
          obtain ⟨_, o', ho', _⟩ := mem_ready.1 hj
          have := (Array.getElem?_eq_some_iff.1 ho').1
          simp at this
          omega
        have := (ready_pop hz he hl hjn).2 hj
        rw [h1] at this
        cases this
      · have hin := hlow i hi
        have h2 := h.2 i ((ready_pop hz he hl hin).1 hi)
        refine wpOp_mono (fun a' w' h3 => ?_) (wpOp_pop hz hg hin h2)
        refine wpAny_ends2 hB fuel _ a' w' (by simpa using hl) (by rw [getD_set_ne true (by omega)]; exact hn) (hd.set hi) ?_
        have : (listed.setIfInBounds i true).pop = listed.pop.setIfInBounds i true := by
          apply Array.ext_getElem?
          intro k
          simp only [Array.getElem?_pop, Array.getElem?_setIfInBounds, Array.size_pop, Array.size_setIfInBounds]
          by_cases hk : i = k
          · subst hk
            have q1 : i < listed.size := by omega
            have q2 : i < listed.size - 1 := by omega
            simp [q1, q2]
          · simp [hk]
        rw [this]
        exact h3.2
theorem wp_region_ends2 {id : Nat} {a : Act} {w : World} {l : List Oper} (n : Nat) (S : World → Prop) (hm : P.follows .mixedOrders = true) (hB : endsB2 .any l.toArray n = true) (hS : S w.drew)
    (h : S w.drew → wpAnyH P .any (l.take n).toArray (Ends P l.toArray Q n) S n (Array.replicate n false) a w.drew) : (Code.region id l.toArray true).wp P Q a w := by
  obtain ⟨hz, hg, he, hlast⟩ := endsB2_spec hB
  refine wp_region_any hm ?_
  rw [hz]
  refine wpAny_ends2 (S := S) hB n (Array.replicate (n + 1) false) a _ (by simp) (by simp [Array.getD]) (fun i o ho hl => ?_) ?_
  · have hio : i < l.toArray.size := (Array.getElem?_eq_some_iff.1 ho).1
    have : i < n + 1 := by omega
    simp [Array.getD, this] at hl
  · have h1 : l.toArray.pop = (l.take n).toArray := by
      have hz' : l.length = n + 1 := by simpa using hz
      rw [List.pop_toArray, List.dropLast_eq_take, hz']
      rfl
    have h2 : (Array.replicate (n + 1) false).pop = Array.replicate n false := by simp
    rw [h1, h2]
    exact h hS
end
end Go.Proofs.YteoaaogfloljlaaDoor
