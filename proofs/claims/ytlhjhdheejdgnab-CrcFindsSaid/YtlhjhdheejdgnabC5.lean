/- A text in which bits are turned, and the law's walk. -/
import Derived.Test.YtlhjhdheejdgnabC3
import Derived.Test.YtlhjhdheejdgnabC4
import Derived.Test.YtlhjhdheejdgnabF
import Derived.Laws.IdiomStrings
import Derived.Laws.BitsAllLaws
namespace Go.Proofs.Ytlhjhdheejdgnab
open Go.RowKit Go.Lib
set_option linter.unusedVariables false

/-- Block g begins with the bytes l, none of them frozen. -/
def RowB (w : World) (g : Nat) (l : List UInt8) : Prop := g < w.heap.size ∧ ∀ j (hj : j < l.length), w.cell? ⟨g, j, none⟩ = some (.int .u8 (l[j].toNat : Int)) ∧ w.frozen? ⟨g, j, none⟩ = false

theorem RowB.set {w : World} {g : Nat} {l : List UInt8} (h : RowB w g l) (i : Nat) (hi : i < l.length) (y : UInt8) (v : Int) (hv : v = (y.toNat : Int)) : RowB (w.setCell ⟨g, i, none⟩ (.int .u8 v)) g (l.set i y) := by
  refine ⟨by simpa using h.1, fun j hj => ⟨?_, ?_⟩⟩
  · have hj' : j < l.length := by simpa using hj
    by_cases e : i = j
    · subst e
      rw [World.cell?_setCell_same _ _ _ (h.2 i hi).1, hv]
      simp
    · rw [World.cell?_setCell_other _ _ _ _ (by intro q; injection q with _ q2; exact e q2), (h.2 j hj').1, List.getElem_set_ne e]
  · rw [World.frozen?_setCell]
    exact (h.2 j (by simpa using hj)).2

theorem u8_of {z : Nat} (h : z < 256) : (UInt8.ofNat z).toNat = z := by simp; omega

theorem RowB.new (w : World) (s : ByteArray) (cap : Nat) (t : TypeId) : RowB (w.drew.alloc (.cells (bytesRow s cap) t ((bytesRow s cap).size, (bytesRow s cap).size + 1))) w.heap.size s.data.toList := by
  refine ⟨by simp, fun j hj => ?_⟩
  have hj' : j < s.data.size := by simpa using hj
  have c := World.cell?_alloc_mark w.drew (bytesRow s cap) t ((bytesRow s cap).size, (bytesRow s cap).size + 1) j
  have f := World.frozen?_alloc_mark w.drew (bytesRow s cap) t (bytesRow s cap).size ((bytesRow s cap).size + 1) j
  have hb := bytesRow_at s cap j hj'
  have hlt := (Array.getElem?_eq_some_iff.1 hb).1
  refine ⟨c.trans (by rw [hb]; simp), f.trans ?_⟩
  simp only [Bool.and_eq_false_iff, decide_eq_false_iff_not]
  exact Or.inl (by omega)

/-- A text in which, of 16 bits from n on, some may have been turned. -/
def TurnedV (s : ByteArray) (n : Nat) (Y : List UInt8) : Prop := Y.length = s.size ∧ ∀ p, (p < n ∨ n + 16 ≤ p) → (Cr.bitsOf Y)[p]? = (Cr.bitsOf s.data.toList)[p]?

theorem turned_any (s : ByteArray) (n b : Nat) (w : World) (hs : s.size ≤ 1000) (hn : n ≤ 10000) (hb : b < 65536) :
    Calls Try.prog 11 #[.string s, .int .i64 n, .int .i64 b] w fun e w' => ∃ Y, e = .returned (.string ⟨Y.toArray⟩) ∧ TurnedV s n Y ∧ Below w.heap.size w w' := by
  have hk := run_bytes_of_string (P := Try.prog) w 9 34 5 s rfl rfl rfl
  have R := RowB.new w s (grownCap w s.size 0 5) 5
  have B0 : Below w.heap.size w (w.drew.alloc (.cells (bytesRow s (grownCap w s.size 0 5)) 5 ((bytesRow s (grownCap w s.size 0 5)).size, (bytesRow s (grownCap w s.size 0 5)).size + 1))) := (Below.refl _ _).drew.alloc (Nat.le_refl _) _
  obtain ⟨B, hB⟩ : ∃ B, B = w.heap.size := ⟨_, rfl⟩
  generalize grownCap w s.size 0 5 = cap at *
  generalize w.drew.alloc (.cells (bytesRow s cap) 5 ((bytesRow s cap).size, (bytesRow s cap).size + 1)) = w1 at *
  rw [← hB] at hk R B0 ⊢
  clear hB
  have R := Lib.hid R
  have B0 := Lib.hid B0
  go_enter Try.func11, Try.ntmps11
  go_wp2
  go_loopw [8] (fun k wr => ∃ (i : Nat) (Y : List UInt8), k = .int .i64 i ∧ i ≤ 16 ∧ Hid (TurnedV s n Y) ∧ Hid (RowB wr B Y) ∧ Hid (Below B w wr)) (fun k _ => (16 - intOf k).toNat)
  case atStart => exact ⟨0, s.data.toList, rfl, by omega, ⟨by simp, fun _ _ => rfl⟩, R, B0⟩
  case round =>
    obtain ⟨i, Y, rfl, hi, HT, HR, HBW⟩ := hrel
    by_cases h16 : i < 16
    · go_wp2
      go_loop [10, 11] (fun c j => ∃ (m d : Nat), c = .int .i64 m ∧ j = .int .i64 ((15 - d : Nat) : Int) ∧ d + i ≤ 15 ∧ m < 65536) (fun _ j => (intOf j).toNat)
      case atStart => exact ⟨b, 0, rfl, by go_num, by omega, by omega⟩
      case round =>
        obtain ⟨m, d, rfl, rfl, hd, hm⟩ := hrel
        by_cases h : d + i = 15
        · have h2 : ((15 - d : Nat) : Int) ≤ (i : Int) := by omega
          obtain ⟨q, hq⟩ : ∃ q, q = (n + i) / 8 := ⟨_, rfl⟩
          obtain ⟨r, hr⟩ : ∃ r, r = (n + i) % 8 := ⟨_, rfl⟩
          have hq' : ((n : Int) + (i : Int)) / 8 = (q : Int) := by omega
          have hr' : ((n : Int) + (i : Int)) % 8 = (r : Int) := by omega
          have hr8 : r < 8 := by omega
          have HQ := Lib.hid hq
          have HRR := Lib.hid hr
          clear hq hr
          by_cases hodd : m % 2 = 1
          · have ho : ((m : Int) % 2 == 1) = true := beq_iff_eq.2 (by omega)
            by_cases hin : q < s.size
            · have hin' : (q : Int) < (s.size : Int) := by omega
              go_wp2
              go_loop [12, 13] (fun c j => ∃ (y e : Nat), c = .int .i64 y ∧ j = .int .i64 ((7 - e : Nat) : Int) ∧ e + r ≤ 7 ∧ y ≤ 128 ∧ Hid (y = 2 ^ e)) (fun _ j => (intOf j).toNat)
              case atStart => exact ⟨1, 0, rfl, by go_num, by omega, by omega, by unfold Hid; simp⟩
              case round =>
                obtain ⟨y, e, rfl, rfl, he, hy, HY⟩ := hrel
                by_cases h7 : e + r = 7
                · have h3 : ((7 - e : Nat) : Int) ≤ (r : Int) := by omega
                  have hql : q < Y.length := by rw [HT.out.1]; exact hin
                  obtain ⟨v, hv⟩ : ∃ v, v = Y[q] := ⟨_, rfl⟩
                  have c0 := (HR.out.2 q hql).1
                  have f0 := (HR.out.2 q hql).2
                  rw [← hv] at c0
                  have hvl := byte_lt v
                  have hx8 := u8_xor_nat v.toNat y hvl (by omega)
                  have hyw : IntKind.u8.wrap (y : Int) = (y : Int) := by rw [IntKind.wrap_u8]; omega
                  have hxl : v.toNat ^^^ y < 2 ^ 8 := Nat.xor_lt_two_pow (by omega) (by omega)
                  have hu : (UInt8.ofNat (v.toNat ^^^ y)).toNat = v.toNat ^^^ y := u8_of (by omega)
                  have RS := Lib.hid (HR.out.set q hql (UInt8.ofNat (v.toNat ^^^ y)) ((v.toNat ^^^ y : Nat) : Int) (by rw [hu]))
                  have hBW2 := Lib.hid (HBW.out.setCell (p := ⟨B, q, none⟩) (Nat.le_refl B) (.int .u8 ((v.toNat ^^^ y : Nat) : Int)))
                  have HT2 : Hid (TurnedV s n (Y.set q (UInt8.ofNat (v.toNat ^^^ y)))) := by
                    refine ⟨by simp [HT.out.1], fun p hp => ?_⟩
                    rw [← HT.out.2 p hp]
                    have hq8 := HQ.out
                    have hr8' := HRR.out
                    rw [hq8]
                    refine Cr.turn_one Y (n + i) p (by omega) v _ ?_ ?_
                    · rw [← hq8, List.getElem?_eq_getElem hql, hv]
                    · rw [hu, HY.out, show e = 7 - (n + i) % 8 from by omega]
                  clear hu hxl hv HR HT HBW HY
                  generalize v.toNat ^^^ y = z at *
                  go_wp2
                  go_round
                  case rel => exact ⟨i + 1, _, by go_num, by omega, HT2, RS, hBW2⟩
                  case measure => simp [intOf]; omega
                · have h3 : (r : Int) < ((7 - e : Nat) : Int) := by omega
                  have hy2 : y ≤ 64 := by
                    have := HY.out
                    have h4 : (2 : Nat) ^ e ≤ 2 ^ 6 := Nat.pow_le_pow_right (by omega) (by omega)
                    omega
                  go_wp2
                  go_round
                  case rel =>
                    refine ⟨y * 2, e + 1, by go_num, by go_num, by omega, by omega, ?_⟩
                    have := HY.out
                    unfold Hid
                    rw [this, Nat.pow_succ]
                  case measure => simp [intOf]; omega
            · have hin' : ¬ (q : Int) < (s.size : Int) := by omega
              go_wp2
              go_round
              case rel => exact ⟨i + 1, Y, by go_num, by omega, HT, HR, HBW⟩
              case measure => simp [intOf]; omega
          · have ho : ((m : Int) % 2 == 1) = false := beq_eq_false_iff_ne.2 (by omega)
            go_wp2
            go_round
            case rel => exact ⟨i + 1, Y, by go_num, by omega, HT, HR, HBW⟩
            case measure => simp [intOf]; omega
        · have h2 : (i : Int) < ((15 - d : Nat) : Int) := by omega
          go_wp2
          go_round
          case rel => exact ⟨m / 2, d + 1, by go_num, by go_num, by omega, by omega⟩
          case measure => simp [intOf]; omega
    · obtain rfl : i = 16 := by omega
      have hk2 := run_convert_bytes_back (P := Try.prog) wr 34 9 5 ⟨B, 0, none⟩ cap Y rfl rfl rfl (fun j hj => by
        have := (HR.out.2 j hj).1
        rw [show (⟨B, 0, none⟩ : Addr).add j = ⟨B, j, none⟩ from by unfold Addr.add; split <;> simp_all]
        exact this)
      rw [HT.out.1] at hk2
      go_wp2
      go_ret
      exact ⟨Y, rfl, HT.out, HBW.out⟩

theorem finds_walk (s : ByteArray) (n b : Int) (w : World) (hn0 : 0 ≤ n) (hn1 : n < 65536) (hb0 : 0 ≤ b) (hb1 : b < 65536) : Calls Try.prog 4 #[.string s, .int .u16 n, .int .u16 b] w fun e w' => e = .returned (.bool true) ∧ Below w.heap.size w w' := by
  have HL := Lib.hid (fun w => live8_any w)
  obtain ⟨n, rfl⟩ := Int.eq_ofNat_of_zero_le hn0
  obtain ⟨b, rfl⟩ := Int.eq_ofNat_of_zero_le hb0
  by_cases hs : (300 : Int) < (s.size : Int)
  · go_enter Try.func4, Try.ntmps4
    go_wp2_with (go_at_call 6; refine (HL.out _).mono ?_; rintro e w' ⟨rfl, rfl⟩)
    go_ret
    exact ⟨rfl, Below.refl _ _⟩
  · have H2 := Lib.hid (fun w => rseal_any s w (by omega))
    have hss := Cr.sealed_size s
    have hz : ((Cr.sealed s).size : Int) = (s.size : Int) + 2 := by omega
    have wn : wrap64 (n : Int) = (n : Int) := IntWalk.wrap64_in _ ⟨by omega, by omega⟩
    have wb : wrap64 (b : Int) = (b : Int) := IntWalk.wrap64_in _ ⟨by omega, by omega⟩
    have hp : 0 ≤ (n : Int) % (8 * ((s.size : Int) + 2)) := Int.emod_nonneg _ (by omega)
    have hp2 : (n : Int) % (8 * ((s.size : Int) + 2)) < 8 * ((s.size : Int) + 2) := Int.emod_lt_of_pos _ (by omega)
    obtain ⟨m, hm⟩ := Int.eq_ofNat_of_zero_le hp
    have hm' : m ≤ 10000 := by omega
    have H3 := Lib.hid (fun w => turned_any (Cr.sealed s) m b w (by omega) hm' (by omega))
    have H4 := Lib.hid (show ∀ w, Calls Try.prog 8 #[.string (Cr.sealed s)] w fun e w' => e = .returned (.tuple #[.string s, .int .i64 0]) ∧ Below w.heap.size w w' from fun w => by
        have := open_any (Cr.sealed s) w (by omega)
        rw [Cr.open_sealed] at this
        exact this)
    have H5 := Lib.hid (show ∀ Y, TurnedV (Cr.sealed s) m Y → (⟨Y.toArray⟩ : ByteArray) ≠ Cr.sealed s → ∀ w, Calls Try.prog 8 #[.string ⟨Y.toArray⟩] w fun e w' => e = .returned (.tuple #[.string ⟨#[]⟩, .int .i64 10]) ∧ Below w.heap.size w w' from fun Y hY hne w => by
        have hzY : (⟨Y.toArray⟩ : ByteArray).size = Y.length := by simp [ByteArray.size]
        have := open_any ⟨Y.toArray⟩ w (by rw [hzY, hY.1]; omega)
        rw [Cr.open_bad ⟨Y.toArray⟩ (by rw [hzY, hY.1]; omega)] at this
        · exact this
        · have h0 := Cr.chk_sealed s
          intro h1
          have := Cr.finds Y (Cr.sealed s).data.toList m 65535 (by omega) (by rw [hY.1]; simp) (fun he => hne (by rw [he])) hY.2
          apply this
          have h1' : Cr.from' 65535 Y = 0 := by simpa [Cr.chk] using h1
          rw [h1']
          exact h0.symm)
    clear hss hp hp2
    generalize Cr.sealed s = x at *
    have HM := Lib.hid hm
    go_enter Try.func4, Try.ntmps4
    go_wp2_with (first | (go_at_call 9; with_reducible refine (H2.out _).mono ?_; rintro e w1 ⟨rfl, b1⟩) | (go_at_call 11; with_reducible refine (H3.out _).mono ?_; rintro e w2 ⟨Y, rfl, hY, b2⟩))
    by_cases he : (⟨Y.toArray⟩ : ByteArray) = x
    · subst he
      go_wp2_with (first | (go_at_call 8; with_reducible refine (H4.out _).mono ?_; rintro e w3 ⟨rfl, b3⟩) | (go_at_call 6; refine (HL.out _).mono ?_; rintro e w' ⟨rfl, rfl⟩))
      go_ret
      exact ⟨rfl, (b1.trans (b2.mono b1.size)).trans (b3.mono (Nat.le_trans b1.size b2.size))⟩
    · have he1 := Cr.str_ne he
      have he2 := Cr.str_ne (fun q => he (q : x = ⟨Y.toArray⟩).symm)
      have H6 := Lib.hid (H5.out Y hY he)
      obtain ⟨y, hy⟩ : ∃ y : ByteArray, y = ⟨Y.toArray⟩ := ⟨_, rfl⟩
      rw [← hy] at H6 he1 he2 ⊢
      clear hy he hY H5
      go_wp2_with (first | (go_at_call 8; with_reducible refine (H6.out _).mono ?_; rintro e w3 ⟨rfl, b3⟩) | (go_at_call 6; refine (HL.out _).mono ?_; rintro e w' ⟨rfl, rfl⟩))
      go_ret
      exact ⟨rfl, (b1.trans (b2.mono b1.size)).trans (b3.mono (Nat.le_trans b1.size b2.size))⟩
end Go.Proofs.Ytlhjhdheejdgnab
