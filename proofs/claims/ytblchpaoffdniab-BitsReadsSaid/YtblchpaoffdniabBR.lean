/- BitsReads: what is read, step by step, what is left, and the error, is the document's: for every text and steps the law returns true. No condition. -/
import Derived.Test.YtblchpaoffdniabR1
import Derived.Deep.DeepFit
namespace Go.Proofs.Ytblchpaoffdniab
open Go.RowKit Go.Lib
set_option linter.unusedVariables false

/-- Steps that came in: the slice's cells, three a step. -/
def Steps (w : World) (A : Option Addr) (len : Nat) : Prop :=
  0 < len → ∃ b off, A = some ⟨b, off, none⟩ ∧ b < w.heap.size ∧ ∀ i, i < len → ∃ (d n : Int) (t : ByteArray), w.cell? ⟨b, off + i * 3, none⟩ = some (.int .i64 d) ∧ w.cell? ⟨b, off + i * 3 + 1, none⟩ = some (.int .i64 n) ∧ w.cell? ⟨b, off + i * 3 + 2, none⟩ = some (.string t)

theorem left_of (s : ByteArray) (p : Nat) (e : Int) : (e = 0 ∧ leftOf s p e = (s.size : Int) - p) ∨ ((e != 0) = true ∧ leftOf s p e = 0) := by
  by_cases he : e = 0
  · exact .inl ⟨he, by simp [leftOf, he]⟩
  · exact .inr ⟨by simpa using he, by simp [leftOf, he]⟩

theorem rdText_le (s : ByteArray) (p : Nat) (e n : Int) (hp : p ≤ s.size) : (rdText s p e n).2.1 ≤ s.size := by
  unfold rdText
  split
  · exact hp
  · split
    · exact hp
    · split
      · exact hp
      · show p + n.toNat ≤ s.size
        omega

theorem read0 (b : Nat) (s : ByteArray) (p : Nat) (e n : Int) (t : ByteArray) (w : World) (h : Rx w b s p e) (hp : p ≤ s.size) (hs : s.size ≤ 300) :
    Calls Try.prog 22 #[.pointer (some ⟨b, 0, none⟩), .agg #[.int .i64 0, .int .i64 n, .string t]] w fun r w' => r = .returned (.tuple #[.int .i64 (byteOf (rdText s p e 1).1), .string ⟨#[]⟩]) ∧ Rx w' b s (rdText s p e 1).2.1 (rdText s p e 1).2.2 ∧ w.grownBy w' (some b) :=
  (read_any b s p e 0 n t w h hp hs).mono fun _ _ h => h
theorem read1 (b : Nat) (s : ByteArray) (p : Nat) (e n : Int) (t : ByteArray) (w : World) (h : Rx w b s p e) (hp : p ≤ s.size) (hs : s.size ≤ 300) :
    Calls Try.prog 22 #[.pointer (some ⟨b, 0, none⟩), .agg #[.int .i64 1, .int .i64 n, .string t]] w fun r w' => r = .returned (.tuple #[.int .i64 (twoOf (rdText s p e 2).1), .string ⟨#[]⟩]) ∧ Rx w' b s (rdText s p e 2).2.1 (rdText s p e 2).2.2 ∧ w.grownBy w' (some b) :=
  (read_any b s p e 1 n t w h hp hs).mono fun _ _ h => h
theorem read2 (b : Nat) (s : ByteArray) (p : Nat) (e d n : Int) (t : ByteArray) (w : World) (hd0 : d ≠ 0) (hd1 : d ≠ 1) (h : Rx w b s p e) (hp : p ≤ s.size) (hs : s.size ≤ 300) :
    Calls Try.prog 22 #[.pointer (some ⟨b, 0, none⟩), .agg #[.int .i64 d, .int .i64 n, .string t]] w fun r w' => r = .returned (.tuple #[.int .i64 0, .string (rdText s p e n).1]) ∧ Rx w' b s (rdText s p e n).2.1 (rdText s p e n).2.2 ∧ w.grownBy w' (some b) := by
  have := read_any b s p e d n t w h hp hs
  simp only [howMany, numOf, textOf, if_neg hd0, if_neg hd1] at this
  exact this

set_option maxRecDepth 100000 in
set_option maxHeartbeats 3200000 in
theorem reads_walk (s : ByteArray) (A : Option Addr) (len cap : Nat) (w : World) (hl : len ≤ 9223372036854775807) (hs : s.size ≤ 9223372036854775807) (hst : Steps w A len) :
    Calls Try.prog 4 #[.string s, .slice A len cap] w fun e w' => e = .returned (.bool true) ∧ Below w.heap.size w w' := by
  by_cases h300 : 300 < s.size
  · go_enter Try.func4, Try.ntmps4
    go_wp2_with (go_at_call 7; refine (live_any _).mono ?_; rintro e w1 ⟨rfl, b1⟩)
    go_ret
    exact ⟨rfl, b1⟩
  · have hb3 : decide ((300 : Int) < (s.size : Int)) = false := by simp; omega
    have hR0 : Rd ((w.alloc (.cells #[.int .i64 0, .string s, .int .i64 0] 58)).alloc (.cells #[.string s, .int .i64 0, .int .i64 0] 33)) w.heap.size s 0 0 := Blk.alloc (Blk.new _ _ _) _
    have hX0 : Rx ((w.alloc (.cells #[.int .i64 0, .string s, .int .i64 0] 58)).alloc (.cells #[.string s, .int .i64 0, .int .i64 0] 33)) (w.heap.size + 1) s 0 0 := by
      have := Blk.new (w.alloc (.cells #[.int .i64 0, .string s, .int .i64 0] 58)) 33 #[.string s, .int .i64 0, .int .i64 0]
      simpa [Rx] using this
    have hB0 : Below w.heap.size w ((w.alloc (.cells #[.int .i64 0, .string s, .int .i64 0] 58)).alloc (.cells #[.string s, .int .i64 0, .int .i64 0] 33)) := ((Below.refl _ _).alloc (Nat.le_refl _) _).alloc (by simp) _
    have HR0 := Lib.hid hR0
    have HX0 := Lib.hid hX0
    have HB0 := Lib.hid hB0
    have HST := Lib.hid hst
    clear hR0 hX0 hB0 hst
    go_enter Try.func4, Try.ntmps4
    go_wp2_with (first | (go_at_call 18; refine (new_any _ _).mono ?_; rintro e w' ⟨rfl, rfl⟩))
    go_loopw [7] (fun i wr => ∃ (k p : Nat) (e : Int), i = .int .i64 k ∧ k ≤ len ∧ k ≤ 40 ∧ p ≤ s.size ∧ Rd wr w.heap.size s p e ∧ Rx wr (w.heap.size + 1) s p e ∧ Below w.heap.size w wr) (fun i _ => len - (intOf i).toNat)
    case atStart => exact ⟨0, 0, 0, rfl, by omega, by omega, by omega, HR0.out, HX0.out, HB0.out⟩
    case round =>
      obtain ⟨k, p, e, rfl, hk, hk40, hp, hRd, hRx, hBe⟩ := hrel
      by_cases hlt : k < len ∧ k < 40
      · obtain ⟨h1, h2⟩ := hlt
        obtain ⟨b, off, rfl, hbB, hcells⟩ := HST.out (by omega)
        obtain ⟨d, n, t, c0, c1, c2⟩ := hcells k h1
        have hw0 := (hBe.cell (p := ⟨b, off + k * 3, none⟩) hbB).trans c0
        have hw1 := (hBe.cell (p := ⟨b, off + k * 3 + 1, none⟩) hbB).trans c1
        have hw2 := (hBe.cell (p := ⟨b, off + k * 3 + 2, none⟩) hbB).trans c2
        clear hcells
        by_cases hd0 : d = 0
        · subst hd0
          have hr := byte_any w.heap.size s p e wr hRd hp hs
          have hx := fun w1 h => read0 (w.heap.size + 1) s p e n t w1 h hp (by omega)
          have hle := rdText_le s p e 1 hp
          generalize rdText s p e 1 = x at hr hx hle
          obtain ⟨t', p', e'⟩ := x
          have hlt' : p' ≤ s.size := hle
          have HR := Lib.hid hr
          have HX := Lib.hid hx
          have HC0 := Lib.hid c0
          have HC1 := Lib.hid c1
          have HC2 := Lib.hid c2
          have HBE := Lib.hid hBe
          have HRX := Lib.hid hRx
          clear hr hx c0 c1 c2 hBe hRx hle
          rcases left_of s p' e' with ⟨rfl, hL⟩ | ⟨he', hL⟩
          all_goals
            go_wp2_with (first | (go_at_call 19; refine HR.out.mono ?_; rintro e w1 ⟨rfl, hr1, g1⟩; have q1 := HBE.out.trans (below_of_only g1 HBE.out.size (by simp)); have HX1 := HRX.out.only g1 (by simp); have d0 := (q1.cell (p := ⟨b, off + k * 3, none⟩) hbB).trans HC0.out; have d1 := (q1.cell (p := ⟨b, off + k * 3 + 1, none⟩) hbB).trans HC1.out; have d2 := (q1.cell (p := ⟨b, off + k * 3 + 2, none⟩) hbB).trans HC2.out) | (go_at_call 22; refine (HX.out _ HX1).mono ?_; rintro e w2 ⟨rfl, hx2, g2⟩; have e0 := hx2.cell 0; have e1 := hx2.cell 1; have e2 := hx2.cell 2; simp at e0 e1 e2; have HR2 := Lib.hid (hr1.only g2 (by simp))))
            go_quiet (fail)
            go_wp2
            go_quiet ((first | (go_at_call 23; exact quiet_same2 (at_any _ _ _ _ _ (Blk.drewN HR2.out _))) | (go_at_call 24; exact quiet_same2 (err_any _ _ _ _ _ (Blk.drewN HR2.out _))) | (go_at_call 25; exact quiet_draws2 (left_any _ _ _ _ _ (Blk.drewN HR2.out _) hlt' hs))))
            go_wp2
            go_roundw
            case rel => exact ⟨k + 1, p', _, by go_num, by omega, by omega, hlt', Blk.drewN HR2.out _, Rx.drewN hx2 _, below_drewN (q1.trans (below_of_only g2 q1.size (by simp))) _⟩
            case measure => simp [intOf]; omega
        · by_cases hd1 : d = 1
          · subst hd1
            have hr := rdtwo_any w.heap.size s p e wr hRd hp hs
            have hx := fun w1 h => read1 (w.heap.size + 1) s p e n t w1 h hp (by omega)
            have hle := rdText_le s p e 2 hp
            generalize rdText s p e 2 = x at hr hx hle
            obtain ⟨t', p', e'⟩ := x
            have hlt' : p' ≤ s.size := hle
            have HR := Lib.hid hr
            have HX := Lib.hid hx
            have HC0 := Lib.hid c0
            have HC1 := Lib.hid c1
            have HC2 := Lib.hid c2
            have HBE := Lib.hid hBe
            have HRX := Lib.hid hRx
            clear hr hx c0 c1 c2 hBe hRx hle
            rcases left_of s p' e' with ⟨rfl, hL⟩ | ⟨he', hL⟩
            all_goals
              go_wp2_with (first | (go_at_call 20; refine HR.out.mono ?_; rintro e w1 ⟨rfl, hr1, g1⟩; have q1 := HBE.out.trans (below_of_only g1 HBE.out.size (by simp)); have HX1 := HRX.out.only g1 (by simp); have d0 := (q1.cell (p := ⟨b, off + k * 3, none⟩) hbB).trans HC0.out; have d1 := (q1.cell (p := ⟨b, off + k * 3 + 1, none⟩) hbB).trans HC1.out; have d2 := (q1.cell (p := ⟨b, off + k * 3 + 2, none⟩) hbB).trans HC2.out) | (go_at_call 22; refine (HX.out _ HX1).mono ?_; rintro e w2 ⟨rfl, hx2, g2⟩; have e0 := hx2.cell 0; have e1 := hx2.cell 1; have e2 := hx2.cell 2; simp at e0 e1 e2; have HR2 := Lib.hid (hr1.only g2 (by simp))))
              go_quiet (fail)
              go_wp2
              go_quiet ((first | (go_at_call 23; exact quiet_same2 (at_any _ _ _ _ _ (Blk.drewN HR2.out _))) | (go_at_call 24; exact quiet_same2 (err_any _ _ _ _ _ (Blk.drewN HR2.out _))) | (go_at_call 25; exact quiet_draws2 (left_any _ _ _ _ _ (Blk.drewN HR2.out _) hlt' hs))))
              go_wp2
              go_roundw
              case rel => exact ⟨k + 1, p', _, by go_num, by omega, by omega, hlt', Blk.drewN HR2.out _, Rx.drewN hx2 _, below_drewN (q1.trans (below_of_only g2 q1.size (by simp))) _⟩
              case measure => simp [intOf]; omega
          · have hk0 : (d == 0) = false := beq_eq_false_iff_ne.2 hd0
            have hk1 : (d == 1) = false := beq_eq_false_iff_ne.2 hd1
            have hr := text_any w.heap.size s p e n wr hRd hp hs
            have hx := fun w1 h => read2 (w.heap.size + 1) s p e d n t w1 hd0 hd1 h hp (by omega)
            have hle := rdText_le s p e n hp
            generalize rdText s p e n = x at hr hx hle
            obtain ⟨t', p', e'⟩ := x
            have hlt' : p' ≤ s.size := hle
            have HR := Lib.hid hr
            have HX := Lib.hid hx
            have HC0 := Lib.hid c0
            have HC1 := Lib.hid c1
            have HC2 := Lib.hid c2
            have HBE := Lib.hid hBe
            have HRX := Lib.hid hRx
            clear hr hx c0 c1 c2 hBe hRx hle
            rcases left_of s p' e' with ⟨rfl, hL⟩ | ⟨he', hL⟩
            all_goals
              go_wp2_with (first | (go_at_call 21; refine HR.out.mono ?_; rintro e w1 ⟨rfl, hr1, g1⟩; have q1 := HBE.out.trans (below_of_only g1 HBE.out.size (by simp)); have HX1 := HRX.out.only g1 (by simp); have d0 := (q1.cell (p := ⟨b, off + k * 3, none⟩) hbB).trans HC0.out; have d1 := (q1.cell (p := ⟨b, off + k * 3 + 1, none⟩) hbB).trans HC1.out; have d2 := (q1.cell (p := ⟨b, off + k * 3 + 2, none⟩) hbB).trans HC2.out) | (go_at_call 22; refine (HX.out _ HX1).mono ?_; rintro e w2 ⟨rfl, hx2, g2⟩; have e0 := hx2.cell 0; have e1 := hx2.cell 1; have e2 := hx2.cell 2; simp at e0 e1 e2; have HR2 := Lib.hid (hr1.only g2 (by simp))))
              go_quiet (fail)
              go_wp2
              go_quiet ((first | (go_at_call 23; exact quiet_same2 (at_any _ _ _ _ _ (Blk.drewN HR2.out _))) | (go_at_call 24; exact quiet_same2 (err_any _ _ _ _ _ (Blk.drewN HR2.out _))) | (go_at_call 25; exact quiet_draws2 (left_any _ _ _ _ _ (Blk.drewN HR2.out _) hlt' hs))))
              go_wp2
              go_roundw
              case rel => exact ⟨k + 1, p', _, by go_num, by omega, by omega, hlt', Blk.drewN HR2.out _, Rx.drewN hx2 _, below_drewN (q1.trans (below_of_only g2 q1.size (by simp))) _⟩
              case measure => simp [intOf]; omega
      · have HBE := Lib.hid hBe
        clear hBe hRx hRd
        by_cases h1 : k < len
        · have h2 : ¬ k < 40 := by omega
          go_wp2_with (go_at_call 7; refine (live_any _).mono ?_; rintro e w1 ⟨rfl, b1⟩)
          go_ret
          exact ⟨rfl, HBE.out.trans (b1.mono HBE.out.size)⟩
        · go_wp2_with (go_at_call 7; refine (live_any _).mono ?_; rintro e w1 ⟨rfl, b1⟩)
          go_ret
          exact ⟨rfl, HBE.out.trans (b1.mono HBE.out.size)⟩
end Go.Proofs.Ytblchpaoffdniab
