/- The walk of the law that plays deeds on both queues. -/
import Derived.Test.YtlhjhdheejdgnaaFQW
import Derived.Test.YtlhjhdheejdgnaaHQ
namespace Go.Proofs.Ytlhjhdheejdgnaa
open Go.RowKit Go.Lib
set_option linter.unusedVariables false

set_option maxHeartbeats 3200000 in
theorem plays_walk (n : Int) (A : Option Addr) (len cap : Nat) (w : World) (hl : len ≤ 9223372036854775807) (hst : DeedsQ w A len) :
    Calls Try.prog 3 #[.int .i64 n, .slice A len cap] w fun e w' => e = .returned (.bool true) ∧ Below w.heap.size w w' := by
  have n1 := fnew_any n w
  have n2 := rnew_any n (w.alloc (.cells #[.slice none 0 0, .int .i64 (limQ n), .int .i64 0] 51))
  have b0 : Below w.heap.size w ((w.alloc (.cells #[.slice none 0 0, .int .i64 (limQ n), .int .i64 0] 51)).alloc (.cells #[.slice none 0 0, .int .i64 (limQ n), .int .i64 0] 33)) := ((Below.refl _ _).alloc (Nat.le_refl _) _).alloc (by simp) _
  have t0 : TwoB ((w.alloc (.cells #[.slice none 0 0, .int .i64 (limQ n), .int .i64 0] 51)).alloc (.cells #[.slice none 0 0, .int .i64 (limQ n), .int .i64 0] 33)) w.heap.size w.heap.size (w.heap.size + 1) (limQ n) 0 := by
    have e1 := (Blk.new w 51 #[.slice none 0 0, .int .i64 (limQ n), .int .i64 0]).alloc (.cells #[.slice none 0 0, .int .i64 (limQ n), .int .i64 0] 33)
    have e2 := Blk.new (w.alloc (.cells #[.slice none 0 0, .int .i64 (limQ n), .int .i64 0] 51)) 33 #[.slice none 0 0, .int .i64 (limQ n), .int .i64 0]
    simp only [World.size_alloc] at e2
    refine ⟨.slice none 0 0, .slice none 0 0, [], 0, ⟨⟨e1, RowQ.nil _, by simp [Value.ownBlock]⟩, ⟨e2, RowQ.nil _, by simp [Value.ownBlock]⟩, ?_⟩, ?_, ?_, by simp, by omega⟩
    · rintro i (rfl | hi)
      · rintro (h | h)
        · omega
        · simp [Value.ownBlock] at h
      · simp [Value.ownBlock] at hi
    · rintro i (rfl | hi)
      · omega
      · simp [Value.ownBlock] at hi
    · rintro i (rfl | hi)
      · omega
      · simp [Value.ownBlock] at hi
  have hdd : ∀ w', Below w.heap.size w w' → DeedsQ w' A len := fun w' hb => hst.below hb (Nat.le_refl _)
  have hbl : ∀ b off, A = some ⟨b, off, none⟩ → 0 < len → b < w.heap.size := fun b off hA h0 => by
    obtain ⟨b', off', hA', hb', _⟩ := hst h0
    rw [hA] at hA'
    injection hA' with hA'
    injection hA' with e1 _ _
    omega
  simp only [World.size_alloc] at n2
  obtain ⟨lim, hlm⟩ : ∃ lim, lim = limQ n := ⟨_, rfl⟩
  rw [← hlm] at n1 n2 b0 t0
  generalize (w.alloc (.cells #[.slice none 0 0, .int .i64 lim, .int .i64 0] 51)).alloc (.cells #[.slice none 0 0, .int .i64 lim, .int .i64 0] 33) = w2 at *
  generalize w.alloc (.cells #[.slice none 0 0, .int .i64 lim, .int .i64 0] 51) = w1 at *
  obtain ⟨B, hB⟩ : ∃ B, B = w.heap.size := ⟨_, rfl⟩
  rw [← hB] at n1 n2 b0 t0 hdd hbl ⊢
  have HBW := Lib.hid hB
  have N1 := Lib.hid n1
  have N2 := Lib.hid n2
  have HDD := Lib.hid hdd
  have HBL := Lib.hid hbl
  have T0 := Lib.hid t0
  have B0 := Lib.hid b0
  have HL := Lib.hid (fun w => live7_any w)
  clear n1 n2 b0 t0 hdd hbl hB hlm hst
  go_enter Try.func3, Try.ntmps3
  go_wp2_with (first | (go_at_call 7; refine N1.out.mono ?_; rintro e w' ⟨rfl, rfl⟩) | (go_at_call 8; refine N2.out.mono ?_; rintro e w' ⟨rfl, rfl⟩))
  go_loopw [7] (fun k wr => ∃ (i : Nat), k = .int .i64 i ∧ i ≤ len ∧ i ≤ 80 ∧ Hid (TwoB wr B B (B + 1) lim i) ∧ Hid (Below B w wr)) (fun k _ => (80 - intOf k).toNat)
  case atStart => exact ⟨0, rfl, by omega, by omega, T0, B0⟩
  case round =>
    obtain ⟨i, rfl, hi, hi8, HT, HB⟩ := hrel
    by_cases hin : i < len ∧ i < 80
    · obtain ⟨h8, h80⟩ := hin
      obtain ⟨b, off, rfl, _, hc⟩ := HDD.out wr HB.out (by omega)
      obtain ⟨d, m, t, c0, c1, c2⟩ := hc i h8
      have hbB : b < B := HBL.out b off rfl (by omega)
      have h8' : (i : Int) < (len : Int) := by omega
      have h80' : (i : Int) < 80 := by omega
      have hBs : B ≤ wr.heap.size := by have := HB.out.size; have := HBW.out; omega
      have PS := Lib.hid (stepB_any wr.drew B B (B + 1) lim i HT.out hBs (by omega) d m t)
      have C0 := Lib.hid c0
      have C1 := Lib.hid c1
      have C2 := Lib.hid c2
      clear hc
      go_wp2_with fail
      refine wp_region_then 6 (fun w' => w'.cell? ⟨b, off + i * 3, none⟩ = some (.int .i64 d) ∧ w'.cell? ⟨b, off + i * 3 + 1, none⟩ = some (.int .i64 m) ∧ w'.cell? ⟨b, off + i * 3 + 2, none⟩ = some (.string t)) (by kernel_rfl) (by kernel_rfl) rfl (by kernel_rfl) (fun _ _ d _ _ h => by cases d <;> exact h) ⟨c0, c1, c2⟩ ?_
      simp only [List.take_succ_cons, List.take_zero, List.drop_succ_cons, List.drop_zero]
      iterate 6
        refine ⟨?_, Or.inl ⟨by rfl, fun W hS => ?_⟩, ?_⟩
        rotate_left
        · (try dsimp only at hS)
          go_simp
          with_reducible rfl
        try simp only [Act.put, List.setIfInBounds_toArray, List.set_cons_zero, List.set_cons_succ]
      intro K' hK
      go_simp
      go_at_call 9
      refine PS.out.mono ?_
      rintro e W1 ⟨rfl, t1, b1⟩
      have b1' : Below B wr W1 := (Below.refl B wr).drew.trans b1
      have e0 := (b1'.cell (p := ⟨b, off + i * 3, none⟩) hbB).trans C0.out
      have e1 := (b1'.cell (p := ⟨b, off + i * 3 + 1, none⟩) hbB).trans C1.out
      have e2 := (b1'.cell (p := ⟨b, off + i * 3 + 2, none⟩) hbB).trans C2.out
      have T1 := Lib.hid t1
      have B1 := Lib.hid (HB.out.trans b1')
      obtain ⟨v', u', L', dr', ht, _, _, hL', hd'⟩ := t1
      obtain ⟨A', c', x0, x1, x2⟩ := two_cells ht
      have H1 := Lib.hid (fun nn => two_len (w := W1.drewN nn) ht)
      have H2 := Lib.hid (fun nn => two_drops (w := W1.drewN nn) ht)
      have H3 := Lib.hid (fun nn => two_limit (w := W1.drewN nn) ht)
      have T1D : ∀ nn, Hid (TwoB (W1.drewN nn) B B (B + 1) lim (i + 1)) := fun nn => T1
      have B1D : ∀ nn, Hid (Below B w (W1.drewN nn)) := fun nn => below_drewN B1.out nn
      have T1D := Lib.hid T1D
      have B1D := Lib.hid B1D
      clear b1 b1' ht hL' hd' T1 B1
      refine hK.out _ _ ⟨fun w' => ∃ m, w' = W1.drewN m, ⟨0, rfl⟩, ?_, ?_⟩
      · rintro _ ⟨mm, rfl⟩
        exact ⟨e0, e1, e2⟩
      · clear hK e0 e1 e2
        repeat (quiet_step ((first | (go_at_call 10; with_reducible exact quiet_same (H1.out _)) | (go_at_call 11; with_reducible exact quiet_same (H2.out _)) | (go_at_call 12; with_reducible exact quiet_same (H3.out _)))))
        refine wpQuiet_nil ?_
        rintro _ ⟨nq, rfl⟩
        clear x0 x1 x2 H1 H2 H3
        go_wp2
        go_round
        case rel => exact ⟨i + 1, by go_num, by omega, by omega, T1D.out _, B1D.out _⟩
        case measure => simp [intOf]; omega
    · obtain ⟨v, u, L, dr, ht, _, _, hL, hd⟩ := HT.out
      have PA := Lib.hid (all_any B lim dr v L wr (by omega) ht.1)
      have HT2 := Lib.hid ht
      have FIN := Lib.hid (fun (W1 W2 : World) (out : Value) (b1 : Below wr.heap.size wr W1) (r1 : RowQ W1 out (sv L)) (b2 : Below W1.heap.size W1 W2) => (show (∃ A c, W2.cell? ⟨B + 1, 0, none⟩ = some (.slice A L.length c) ∧ Calls Try.prog 15 #[out, .slice A L.length c] W2 fun e w' => e = .returned (.bool true) ∧ ∃ q, W2.drewN q = w') ∧ Below B w W2 from by
        have t2 := (ht.below b1).below b2
        obtain ⟨A, c, c0, r2⟩ := two_row t2
        have hBB : B ≤ wr.heap.size := by have := HB.out.size; have := HBW.out; omega
        exact ⟨⟨A, c, c0, same_any L (r1.below b2 fun i hi => r1.lt i hi) r2 (by omega)⟩, (HB.out.trans (b1.mono hBB)).trans (b2.mono (Nat.le_trans hBB b1.size))⟩))
      have hi' : i = len ∨ i = 80 ∧ 80 < len := by omega
      clear hin ht
      rcases hi' with rfl | ⟨rfl, h8⟩
      · go_wp2_with (first | (go_at_call 13; refine PA.out.mono ?_; rintro e W1 ⟨out, rfl, r1, b1⟩; have R1 := Lib.hid r1; clear r1) | (go_at_call 14; refine (HL.out _).mono ?_; rintro e W2 ⟨rfl, b2⟩; obtain ⟨⟨A2, c2, x0, hs⟩, hb⟩ := FIN.out _ _ _ b1 R1.out b2; have HS := Lib.hid hs; clear hs) | (go_at_call 15; refine HS.out.mono ?_; rintro e w' ⟨rfl, qq, rfl⟩))
        go_ret
        exact ⟨rfl, below_drewN hb _⟩
      · have h8' : (80 : Int) < (len : Int) := by omega
        go_wp2_with (first | (go_at_call 13; refine PA.out.mono ?_; rintro e W1 ⟨out, rfl, r1, b1⟩; have R1 := Lib.hid r1; clear r1) | (go_at_call 14; refine (HL.out _).mono ?_; rintro e W2 ⟨rfl, b2⟩; obtain ⟨⟨A2, c2, x0, hs⟩, hb⟩ := FIN.out _ _ _ b1 R1.out b2; have HS := Lib.hid hs; clear hs) | (go_at_call 15; refine HS.out.mono ?_; rintro e w' ⟨rfl, qq, rfl⟩))
        go_ret
        exact ⟨rfl, below_drewN hb _⟩
end Go.Proofs.Ytlhjhdheejdgnaa
