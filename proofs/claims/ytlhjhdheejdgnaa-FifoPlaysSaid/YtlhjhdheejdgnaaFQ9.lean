/- The walk of the law that plays deeds on both queues. -/
import Derived.Test.YtlhjhdheejdgnaaFQ8
import Derived.Test.YtlhjhdheejdgnaaFR2
namespace Go.Proofs.Ytlhjhdheejdgnaa
open Go.RowKit Go.Lib
set_option linter.unusedVariables false

/-- Both queues as the law holds them between two deeds. -/
def TwoB (w : World) (B q x lim n : Nat) : Prop := ∃ v u L dr, Two w q x v u L lim dr ∧ (∀ i, OwnQ q v i → B ≤ i) ∧ (∀ i, OwnQ x u i → B ≤ i) ∧ L.length ≤ n ∧ dr ≤ n

section
variable {w : World} {q x : Nat} {v u : Value} {L : List ByteArray} {lim dr : Nat}
theorem two_len (h : Two w q x v u L lim dr) : Calls Try.prog 10 #[.pointer (some ⟨q, 0, none⟩)] w fun e w' => e = .returned (.int .i64 L.length) ∧ w = w' := by
  have := flen_any h.1
  rw [show (sv L).length = L.length from by simp] at this
  exact this
theorem two_drops (h : Two w q x v u L lim dr) : Calls Try.prog 11 #[.pointer (some ⟨q, 0, none⟩)] w fun e w' => e = .returned (.int .i64 dr) ∧ w = w' := fdrops_any h.1
theorem two_limit (h : Two w q x v u L lim dr) : Calls Try.prog 12 #[.pointer (some ⟨q, 0, none⟩)] w fun e w' => e = .returned (.int .i64 lim) ∧ w = w' := flimit_any h.1
theorem two_cells (h : Two w q x v u L lim dr) : ∃ A c, w.cell? ⟨x, 0, none⟩ = some (.slice A L.length c) ∧ w.cell? ⟨x, 1, none⟩ = some (.int .i64 lim) ∧ w.cell? ⟨x, 2, none⟩ = some (.int .i64 dr) := by
  obtain ⟨A, c, hf⟩ := h.2.1.2.1.form
  rw [show (sv L).length = L.length from by simp] at hf
  subst hf
  exact ⟨A, c, h.2.1.1.cell 0, h.2.1.1.cell 1, h.2.1.1.cell 2⟩
end

theorem two_row {w : World} {q x : Nat} {v u : Value} {L : List ByteArray} {lim dr : Nat} (h : Two w q x v u L lim dr) : ∃ A c, w.cell? ⟨x, 0, none⟩ = some (.slice A L.length c) ∧ RowQ w (.slice A L.length c) (sv L) := by
  obtain ⟨A, c, hf⟩ := h.2.1.2.1.form
  rw [show (sv L).length = L.length from by simp] at hf
  have h2 := h.2.1.2.1
  subst hf
  exact ⟨A, c, h.2.1.1.cell 0, h2⟩

/-- What a step leaves, from B on. -/
theorem StepV.next {w w' : World} {B q x lim n dr : Nat} {v u : Value} {L : List ByteArray} {e : Ending} (hB : B ≤ w.heap.size) (hv : ∀ i, OwnQ q v i → B ≤ i) (hu : ∀ i, OwnQ x u i → B ≤ i) (hL : L.length ≤ n) (hd : dr ≤ n) (h : StepV w q x v u L lim dr e w') :
    e = .returned (.bool true) ∧ TwoB w' B q x lim (n + 1) ∧ Below B w w' := by
  obtain ⟨h1, L', dr', ⟨v', u', h2, h3, h4, h5⟩, h6, h7⟩ := h
  refine ⟨h1, ⟨v', u', L', dr', h2, fun i hi => ?_, fun i hi => ?_, by omega, by omega⟩, h3.below hB fun i hi hn => ?_⟩
  · rcases h4 i hi with h | h
    · exact hv i h
    · omega
  · rcases h5 i hi with h | h
    · exact hu i h
    · omega
  · rcases hn with hn | hn
    · have := hv i hn
      omega
    · have := hu i (.inl hn)
      omega

theorem stepB_any (w : World) (B q x lim n : Nat) (h : TwoB w B q x lim n) (hB : B ≤ w.heap.size) (hn : n ≤ 1000) (d m : Int) (t : ByteArray) :
    Calls Try.prog 9 #[.pointer (some ⟨q, 0, none⟩), .pointer (some ⟨x, 0, none⟩), .agg #[.int .i64 d, .int .i64 m, .string t]] w fun e w' => e = .returned (.bool true) ∧ TwoB w' B q x lim (n + 1) ∧ Below B w w' := by
  obtain ⟨v, u, L, dr, h1, h2, h3, h4, h5⟩ := h
  exact (step_any h1 (by omega) (by omega) d m t).mono fun e w' k => StepV.next hB h2 h3 h4 h5 k

set_option maxHeartbeats 3200000 in
theorem plays_walk (n : Int) (A : Option Addr) (len cap : Nat) (w : World) (hl : len ≤ 9223372036854775807) (hst : DeedsQ w A len) :
    Calls Try.prog 3 #[.int .i64 n, .slice A len cap] w fun e w' => e = .returned (.bool true) ∧ Below w.heap.size w w' := by
  have n1 := fnew_any n w
  have n2 := rnew_any n (w.alloc (.cells #[.slice none 0 0, .int .i64 (limQ n), .int .i64 0] 51))
  have b0 : Below w.heap.size w ((w.alloc (.cells #[.slice none 0 0, .int .i64 (limQ n), .int .i64 0] 51)).alloc (.cells #[.slice none 0 0, .int .i64 (limQ n), .int .i64 0] 33)) := ((Below.refl _ _).alloc (Nat.le_refl _) _).alloc (by simp) _
  have t0 : TwoB ((w.alloc (.cells #[.slice none 0 0, .int .i64 (limQ n), .int .i64 0] 51)).alloc (.cells #[.slice none 0 0, .int .i64 (limQ n), .int .i64 0] 33)) w.heap.size w.heap.size (w.heap.size + 1) (limQ n) 0 := by
    have e1 := (Blk.new w 51 #[.slice none 0 0, .int .i64 (limQ n), .int .i64 0]).alloc (.cells #[.slice none 0 0, .int .i64 (limQ n), .int .i64 0] 33)
    have e2 := Blk.new (w.alloc (.cells #[.slice none 0 0, .int .i64 (limQ n), .int .i64 0] 51)) 33 #[.slice none 0 0, .int .i64 (limQ n), .int .i64 0]
    simp only [World.size_alloc] at e2
    refine ⟨.slice none 0 0, .slice none 0 0, [], 0, ⟨⟨e1, RowQ.nil _, by simp [Value.ownBlock]⟩, ⟨e2, RowQ.nil _, by simp [Value.ownBlock]⟩, ?_⟩, ?_, ?_, by simp, by omega⟩
    · rintro i (rfl | hi)
      · rintro (h | h)
        · omega
        · simp [Value.ownBlock] at h
      · simp [Value.ownBlock] at hi
    · rintro i (rfl | hi)
      · omega
      · simp [Value.ownBlock] at hi
    · rintro i (rfl | hi)
      · omega
      · simp [Value.ownBlock] at hi
  have hdd : ∀ w', Below w.heap.size w w' → DeedsQ w' A len := fun w' hb => hst.below hb (Nat.le_refl _)
  have hbl : ∀ b off, A = some ⟨b, off, none⟩ → 0 < len → b < w.heap.size := fun b off hA h0 => by
    obtain ⟨b', off', hA', hb', _⟩ := hst h0
    rw [hA] at hA'
    injection hA' with hA'
    injection hA' with e1 _ _
    omega
  simp only [World.size_alloc] at n2
  obtain ⟨lim, hlm⟩ : ∃ lim, lim = limQ n := ⟨_, rfl⟩
  rw [← hlm] at n1 n2 b0 t0
  generalize (w.alloc (.cells #[.slice none 0 0, .int .i64 lim, .int .i64 0] 51)).alloc (.cells #[.slice none 0 0, .int .i64 lim, .int .i64 0] 33) = w2 at *
  generalize w.alloc (.cells #[.slice none 0 0, .int .i64 lim, .int .i64 0] 51) = w1 at *
  obtain ⟨B, hB⟩ : ∃ B, B = w.heap.size := ⟨_, rfl⟩
  rw [← hB] at n1 n2 b0 t0 hdd hbl ⊢
  have HBW := Lib.hid hB
  have N1 := Lib.hid n1
  have N2 := Lib.hid n2
  have HDD := Lib.hid hdd
  have HBL := Lib.hid hbl
  have T0 := Lib.hid t0
  have B0 := Lib.hid b0
  have HL := Lib.hid (fun w => live7_any w)
  clear n1 n2 b0 t0 hdd hbl hB hlm hst
  go_enter Try.func3, Try.ntmps3
  go_wp2_with (first | (go_at_call 7; refine N1.out.mono ?_; rintro e w' ⟨rfl, rfl⟩) | (go_at_call 8; refine N2.out.mono ?_; rintro e w' ⟨rfl, rfl⟩))
  go_loopw [7] (fun k wr => ∃ (i : Nat), k = .int .i64 i ∧ i ≤ len ∧ i ≤ 80 ∧ Hid (TwoB wr B B (B + 1) lim i) ∧ Hid (Below B w wr)) (fun k _ => (80 - intOf k).toNat)
  case atStart => exact ⟨0, rfl, by omega, by omega, T0, B0⟩
  case round =>
    obtain ⟨i, rfl, hi, hi8, HT, HB⟩ := hrel
    by_cases hin : i < len ∧ i < 80
    · obtain ⟨h8, h80⟩ := hin
      obtain ⟨b, off, rfl, _, hc⟩ := HDD.out wr HB.out (by omega)
      obtain ⟨d, m, t, c0, c1, c2⟩ := hc i h8
      have hbB : b < B := HBL.out b off rfl (by omega)
      have h8' : (i : Int) < (len : Int) := by omega
      have h80' : (i : Int) < 80 := by omega
      have hBs : B ≤ wr.heap.size := by have := HB.out.size; have := HBW.out; omega
      have PS := Lib.hid (stepB_any wr.drew B B (B + 1) lim i HT.out hBs (by omega) d m t)
      have C0 := Lib.hid c0
      have C1 := Lib.hid c1
      have C2 := Lib.hid c2
      clear hc
      go_wp2_with fail
      go_region_held3 (fun w' => w'.cell? ⟨b, off + i * 3, none⟩ = some (.int .i64 d) ∧ w'.cell? ⟨b, off + i * 3 + 1, none⟩ = some (.int .i64 m) ∧ w'.cell? ⟨b, off + i * 3 + 2, none⟩ = some (.string t)) (first | exact ⟨e0, e1, e2⟩ | go_keep) (first
        | (go_at_call 9; refine PS.out.mono ?_; rintro e W1 ⟨rfl, t1, b1⟩; have b1' : Below B wr W1 := (Below.refl B wr).drew.trans b1; have e0 := (b1'.cell (p := ⟨b, off + i * 3, none⟩) hbB).trans C0.out; have e1 := (b1'.cell (p := ⟨b, off + i * 3 + 1, none⟩) hbB).trans C1.out; have e2 := (b1'.cell (p := ⟨b, off + i * 3 + 2, none⟩) hbB).trans C2.out; have T1 := Lib.hid t1; have B1 := Lib.hid (HB.out.trans b1'); obtain ⟨v', u', L', dr', ht, _⟩ := t1; obtain ⟨A', c', x0, x1, x2⟩ := two_cells ht; have H1 := Lib.hid (two_len ht); have H2 := Lib.hid (two_drops ht); have H3 := Lib.hid (two_limit ht); clear b1 b1' ht)
        | (go_at_call 10; refine H1.out.mono ?_; rintro e w' ⟨rfl, rfl⟩)
        | (go_at_call 11; refine H2.out.mono ?_; rintro e w' ⟨rfl, rfl⟩)
        | (go_at_call 12; refine H3.out.mono ?_; rintro e w' ⟨rfl, rfl⟩))
      all_goals
        clear x0 x1 x2 e0 e1 e2 H1 H2 H3
        go_wp2
        go_round
        case rel => exact ⟨i + 1, by go_num, by omega, by omega, T1, B1⟩
        case measure => simp [intOf]; omega
    · obtain ⟨v, u, L, dr, ht, _, _, hL, hd⟩ := HT.out
      have PA := Lib.hid (all_any B lim dr v L wr (by omega) ht.1)
      have HT2 := Lib.hid ht
      have FIN := Lib.hid (fun (W1 W2 : World) (out : Value) (b1 : Below wr.heap.size wr W1) (r1 : RowQ W1 out (sv L)) (b2 : Below W1.heap.size W1 W2) => (show (∃ A c, W2.cell? ⟨B + 1, 0, none⟩ = some (.slice A L.length c) ∧ Calls Try.prog 15 #[out, .slice A L.length c] W2 fun e w' => e = .returned (.bool true) ∧ ∃ q, W2.drewN q = w') ∧ Below B w W2 from by
        have t2 := (ht.below b1).below b2
        obtain ⟨A, c, c0, r2⟩ := two_row t2
        have hBB : B ≤ wr.heap.size := by have := HB.out.size; have := HBW.out; omega
        exact ⟨⟨A, c, c0, same_any L (r1.below b2 fun i hi => r1.lt i hi) r2 (by omega)⟩, (HB.out.trans (b1.mono hBB)).trans (b2.mono (Nat.le_trans hBB b1.size))⟩))
      have hi' : i = len ∨ i = 80 ∧ 80 < len := by omega
      clear hin ht
      rcases hi' with rfl | ⟨rfl, h8⟩
      · go_wp2_with (first | (go_at_call 13; refine PA.out.mono ?_; rintro e W1 ⟨out, rfl, r1, b1⟩; have R1 := Lib.hid r1; clear r1) | (go_at_call 14; refine (HL.out _).mono ?_; rintro e W2 ⟨rfl, b2⟩; obtain ⟨⟨A2, c2, x0, hs⟩, hb⟩ := FIN.out _ _ _ b1 R1.out b2; have HS := Lib.hid hs; clear hs) | (go_at_call 15; refine HS.out.mono ?_; rintro e w' ⟨rfl, qq, rfl⟩))
        go_ret
        exact ⟨rfl, below_drewN hb _⟩
      · have h8' : (80 : Int) < (len : Int) := by omega
        go_wp2_with (first | (go_at_call 13; refine PA.out.mono ?_; rintro e W1 ⟨out, rfl, r1, b1⟩; have R1 := Lib.hid r1; clear r1) | (go_at_call 14; refine (HL.out _).mono ?_; rintro e W2 ⟨rfl, b2⟩; obtain ⟨⟨A2, c2, x0, hs⟩, hb⟩ := FIN.out _ _ _ b1 R1.out b2; have HS := Lib.hid hs; clear hs) | (go_at_call 15; refine HS.out.mono ?_; rintro e w' ⟨rfl, qq, rfl⟩))
        go_ret
        exact ⟨rfl, below_drewN hb _⟩
end Go.Proofs.Ytlhjhdheejdgnaa
