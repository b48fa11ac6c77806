/- The walk of the law on forks. -/
import Derived.Test.YtlhjhdheejdgnaaFQW
import Derived.Test.YtlhjhdheejdgnaaFQ10
import Derived.Test.YtlhjhdheejdgnaaFR2
import Derived.Test.YtlhjhdheejdgnaaHQ
namespace Go.Proofs.Ytlhjhdheejdgnaa
open Go.RowKit Go.Lib
set_option linter.unusedVariables false

/-- A queue and its fork, each with the document's, as the law holds them between two deeds. -/
def ForkI (W : World) (B q x f y lim n : Nat) : Prop :=
  ∃ v u L dr vf uy Lf drf, Two W q x v u L lim dr ∧ Two W f y vf uy Lf lim drf ∧ (∀ i, (OwnQ q v i ∨ OwnQ x u i) → ¬ OwnQ f vf i ∧ i ≠ y) ∧ (∀ i, (OwnQ q v i ∨ OwnQ x u i ∨ OwnQ f vf i ∨ i = y) → B ≤ i) ∧ L.length ≤ n ∧ dr ≤ n ∧ Lf.length ≤ n ∧ drf ≤ n

theorem ForkI.step (W : World) (B q x f y lim n : Nat) (h : ForkI W B q x f y lim n) (hB : B ≤ W.heap.size) (hn : n ≤ 1000) (d m : Int) (t : ByteArray) :
    Calls Try.prog 9 #[.pointer (some ⟨f, 0, none⟩), .pointer (some ⟨y, 0, none⟩), .agg #[.int .i64 d, .int .i64 m, .string t]] W fun e W' => e = .returned (.bool true) ∧ ForkI W' B q x f y lim (n + 1) ∧ Below B W W' := by
  obtain ⟨v, u, L, dr, vf, uy, Lf, drf, h1, h2, h3, h4, h5, h6, h7, h8⟩ := h
  refine (step_any h2 (by omega) (by omega) d m t).mono fun e W' k => ?_
  obtain ⟨k1, Lf', drf', ⟨vf', uy', k2, k3, k4, k5⟩, k6, k7⟩ := k
  refine ⟨k1, ⟨v, u, L, dr, vf', uy', Lf', drf', ⟨h1.1.keeps k3 fun i hi hn => ?_, h1.2.1.keeps k3 fun i hi hn => ?_, h1.2.2⟩, k2, fun i hi => ⟨fun hn => ?_, (h3 i hi).2⟩, ?_, by omega, by omega, by omega, by omega⟩, k3.below hB fun i hi hn => ?_⟩
  · rcases hn with hn | hn
    · exact (h3 i (.inl hi)).1 hn
    · exact (h3 i (.inl hi)).2 hn
  · rcases hn with hn | hn
    · exact (h3 i (.inr hi)).1 hn
    · exact (h3 i (.inr hi)).2 hn
  · rcases k4 i hn with h | h
    · exact (h3 i hi).1 h
    · rcases hi with hi | hi
      · have := h1.1.lt i hi
        omega
      · have := h1.2.1.lt i hi
        omega
  · rintro i (hi | hi | hi | hi)
    · exact h4 i (.inl hi)
    · exact h4 i (.inr (.inl hi))
    · rcases k4 i hi with h | h
      · exact h4 i (.inr (.inr (.inl h)))
      · omega
    · exact h4 i (.inr (.inr (.inr hi)))
  · rcases hn with hn | hn
    · have := h4 i (.inr (.inr (.inl hn)))
      omega
    · have := h4 i (.inr (.inr (.inr hn)))
      omega

/-- Where the fork begins. -/
theorem ForkI.begin {wr wf : World} {B q x f lim n dr : Nat} {v u vf : Value} {L : List ByteArray} (h : Two wr q x v u L lim dr) (hv : ∀ i, OwnQ q v i → B ≤ i) (hu : ∀ i, OwnQ x u i → B ≤ i) (hL : L.length ≤ n) (hd : dr ≤ n) (hB : B ≤ wr.heap.size)
    (hq : Que wf f 51 vf (sv L) lim dr) (hb : Below wr.heap.size wr wf) (ho : ∀ i, OwnQ f vf i → wr.heap.size ≤ i) (W : World) (hW : W = (wf.drewN 1).alloc (.cells #[u, .int .i64 lim, .int .i64 dr] 33)) : ForkI W B q x f wf.heap.size lim n := by
  have bW : Below wf.heap.size wf W := by rw [hW]; exact (below_drewN (Below.refl _ _) 1).alloc (Nat.le_refl _) _
  have hf := h.below hb
  have hW2 := hf.below bW
  have hqW := hq.keeps (Keeps.of_below bW (fun _ => False)) (fun _ _ h => h)
  have hby : Blk W wf.heap.size 33 #[u, .int .i64 lim, .int .i64 dr] := by rw [hW]; exact Blk.new (wf.drewN 1) _ _
  have hul : ∀ i, u.ownBlock = some i → i < wr.heap.size := fun i hi => h.2.1.lt i (.inr hi)
  refine ⟨v, u, L, dr, vf, u, L, dr, hW2, ⟨hqW, ⟨hby, hW2.2.1.2.1, fun e => ?_⟩, fun i hi hn => ?_⟩, fun i hi => ⟨fun hn => ?_, ?_⟩, ?_, hL, hd, hL, hd⟩
  · have := hul _ e
    have := hb.size
    omega
  · have h1 := ho i hi
    have h2 := hq.lt i hi
    rcases hn with hn | hn
    · omega
    · have := hul i hn
      omega
  · have h1 := ho i hn
    rcases hi with hi | hi
    · have := h.1.lt i hi
      omega
    · have := h.2.1.lt i hi
      omega
  · have := hb.size
    rcases hi with hi | hi
    · have := h.1.lt i hi
      omega
    · have := h.2.1.lt i hi
      omega
  · rintro i (hi | hi | hi | hi)
    · exact hv i hi
    · exact hu i hi
    · have := ho i hi
      omega
    · have := hb.size
      omega

/-- Where both queues begin. -/
theorem two_begin (n : Int) (w : World) : ∃ (lim : Nat) (w1 w2 : World), (Calls Try.prog 7 #[.int .i64 n] w fun e w' => e = .returned (.pointer (some ⟨w.heap.size, 0, none⟩)) ∧ w1 = w') ∧
    (Calls Try.prog 8 #[.int .i64 n] w1 fun e w' => e = .returned (.pointer (some ⟨w.heap.size + 1, 0, none⟩)) ∧ w2 = w') ∧ TwoB w2 w.heap.size w.heap.size (w.heap.size + 1) lim 0 ∧ Below w.heap.size w w2 := by
  have n1 := fnew_any n w
  have n2 := rnew_any n (w.alloc (.cells #[.slice none 0 0, .int .i64 (limQ n), .int .i64 0] 51))
  simp only [World.size_alloc] at n2
  refine ⟨limQ n, _, _, n1, n2, ?_, ((Below.refl _ _).alloc (Nat.le_refl _) _).alloc (by simp) _⟩
  have e1 := (Blk.new w 51 #[.slice none 0 0, .int .i64 (limQ n), .int .i64 0]).alloc (.cells #[.slice none 0 0, .int .i64 (limQ n), .int .i64 0] 33)
  have e2 := Blk.new (w.alloc (.cells #[.slice none 0 0, .int .i64 (limQ n), .int .i64 0] 51)) 33 #[.slice none 0 0, .int .i64 (limQ n), .int .i64 0]
  simp only [World.size_alloc] at e2
  refine ⟨.slice none 0 0, .slice none 0 0, [], 0, ⟨⟨e1, RowQ.nil _, by simp [Value.ownBlock]⟩, ⟨e2, RowQ.nil _, by simp [Value.ownBlock]⟩, ?_⟩, ?_, ?_, by simp, by omega⟩
  · rintro i (rfl | hi)
    · rintro (h | h)
      · omega
      · simp [Value.ownBlock] at h
    · simp [Value.ownBlock] at hi
  · rintro i (rfl | hi)
    · omega
    · simp [Value.ownBlock] at hi
  · rintro i (rfl | hi)
    · omega
    · simp [Value.ownBlock] at hi

/-- A deed of a row that came in. -/
theorem DeedsQ.at {w W : World} {A : Option Addr} {len : Nat} (h : DeedsQ w A len) (hb : Below w.heap.size w W) {i : Nat} (hi : i < len) : ∃ b off, A = some ⟨b, off, none⟩ ∧ b < w.heap.size ∧ ∃ (d n : Int) (t : ByteArray), W.cell? ⟨b, off + i * 3, none⟩ = some (.int .i64 d) ∧ W.cell? ⟨b, off + i * 3 + 1, none⟩ = some (.int .i64 n) ∧ W.cell? ⟨b, off + i * 3 + 2, none⟩ = some (.string t) := by
  obtain ⟨b, off, hA, hlt, hc⟩ := h (by omega)
  obtain ⟨d, n, t, c0, c1, c2⟩ := hc i hi
  exact ⟨b, off, hA, hlt, d, n, t, (hb.cell (p := ⟨b, off + i * 3, none⟩) hlt).trans c0, (hb.cell (p := ⟨b, off + i * 3 + 1, none⟩) hlt).trans c1, (hb.cell (p := ⟨b, off + i * 3 + 2, none⟩) hlt).trans c2⟩

theorem ForkI.more {W : World} {B q x f y lim n m : Nat} (h : ForkI W B q x f y lim n) (hm : n ≤ m) : ForkI W B q x f y lim m := by
  obtain ⟨v, u, L, dr, vf, uy, Lf, drf, h1, h2, h3, h4, h5, h6, h7, h8⟩ := h
  exact ⟨v, u, L, dr, vf, uy, Lf, drf, h1, h2, h3, h4, by omega, by omega, by omega, by omega⟩

/-- What the law asks of both pairs at its end, in a world behind all walks. -/
theorem ForkI.finish {W W1 W2 : World} {q x f y lim : Nat} {o1 o2 : Value} {v u vf uy : Value} {L Lf : List ByteArray} {dr drf : Nat} (h1 : Two W q x v u L lim dr) (h2 : Two W f y vf uy Lf lim drf) (hL : L.length ≤ 1000) (hLf : Lf.length ≤ 1000)
    (b1 : Below W.heap.size W W1) (r1 : RowQ W1 o1 (sv L)) (b2 : Below W1.heap.size W1 W2) (r2 : RowQ W2 o2 (sv Lf)) (W3 : World) (b3 : Below W2.heap.size W2 W3) :
    ∃ A c A' c', W3.cell? ⟨x, 0, none⟩ = some (.slice A L.length c) ∧ W3.cell? ⟨x, 2, none⟩ = some (.int .i64 dr) ∧ W3.cell? ⟨y, 0, none⟩ = some (.slice A' Lf.length c') ∧
      (∀ nn, Calls Try.prog 15 #[o1, .slice A L.length c] (W3.drewN nn) fun e w' => e = .returned (.bool true) ∧ ∃ q, (W3.drewN nn).drewN q = w') ∧
      (∀ nn, Calls Try.prog 15 #[o2, .slice A' Lf.length c'] (W3.drewN nn) fun e w' => e = .returned (.bool true) ∧ ∃ q, (W3.drewN nn).drewN q = w') ∧
      (∀ nn, Calls Try.prog 11 #[.pointer (some ⟨q, 0, none⟩)] (W3.drewN nn) fun e w' => e = .returned (.int .i64 dr) ∧ W3.drewN nn = w') := by
  have b12 : Below W.heap.size W W2 := b1.trans (b2.mono b1.size)
  have bb : Below W.heap.size W W3 := b12.trans (b3.mono b12.size)
  have t1 := h1.below bb
  have t2 := h2.below bb
  obtain ⟨A, c, x0, rx⟩ := two_row t1
  obtain ⟨A', c', y0, ry⟩ := two_row t2
  have r1' : RowQ W2 o1 (sv L) := r1.below b2 fun i hi => r1.lt i hi
  have r1'' : RowQ W3 o1 (sv L) := r1'.below b3 fun i hi => r1'.lt i hi
  have r2' : RowQ W3 o2 (sv Lf) := r2.below b3 fun i hi => r2.lt i hi
  exact ⟨A, c, A', c', x0, t1.2.1.1.cell 2, y0, fun nn => same_any (w := W3.drewN nn) L r1'' rx (by omega), fun nn => same_any (w := W3.drewN nn) Lf r2' ry (by omega), fun nn => two_drops (w := W3.drewN nn) t1⟩

set_option maxRecDepth 20000 in
set_option maxHeartbeats 3200000 in
theorem forks_walk (n : Int) (A1 : Option Addr) (len1 cap1 : Nat) (A2 : Option Addr) (len2 cap2 : Nat) (w : World) (hl1 : len1 ≤ 9223372036854775807) (hst1 : DeedsQ w A1 len1) (hl2 : len2 ≤ 9223372036854775807) (hst2 : DeedsQ w A2 len2) :
    Calls Try.prog 5 #[.int .i64 n, .slice A1 len1 cap1, .slice A2 len2 cap2] w fun e w' => e = .returned (.bool true) ∧ Below w.heap.size w w' := by
  obtain ⟨lim, w1, w2, n1, n2, t0, b0⟩ := two_begin n w
  have d1 : ∀ W, Below w.heap.size w W → ∀ i, i < len1 → _ := fun W hb i hi => hst1.at hb hi
  have d2 : ∀ W, Below w.heap.size w W → ∀ i, i < len2 → _ := fun W hb i hi => hst2.at hb hi
  obtain ⟨B, hB⟩ : ∃ B, B = w.heap.size := ⟨_, rfl⟩
  rw [← hB] at n1 n2 b0 t0 d1 d2 ⊢
  have HBW := Lib.hid hB
  have N1 := Lib.hid n1
  have N2 := Lib.hid n2
  have D1 := Lib.hid d1
  have D2 := Lib.hid d2
  have T0 := Lib.hid t0
  have B0 := Lib.hid b0
  have HL := Lib.hid (fun w => live7_any w)
  have hBs : ∀ W, Below B w W → B ≤ W.heap.size := fun W h => by have := h.size; omega
  have HBS := Lib.hid hBs
  clear n1 n2 b0 t0 d1 d2 hB hst1 hst2 hBs
  go_enter Try.func5, Try.ntmps5
  go_wp2_with (first | (go_at_call 7; refine N1.out.mono ?_; rintro e w' ⟨rfl, rfl⟩) | (go_at_call 8; refine N2.out.mono ?_; rintro e w' ⟨rfl, rfl⟩))
  go_loopw [9] (fun k wr => ∃ (i : Nat), k = .int .i64 i ∧ i ≤ len1 ∧ i ≤ 60 ∧ Hid (TwoB wr B B (B + 1) lim i) ∧ Hid (Below B w wr)) (fun k _ => (60 - intOf k).toNat)
  case atStart => exact ⟨0, rfl, by omega, by omega, T0, B0⟩
  case round =>
    obtain ⟨i, rfl, hi, hi8, HT, HB⟩ := hrel
    by_cases hin : i < len1 ∧ i < 60
    · obtain ⟨h8, h80⟩ := hin
      obtain ⟨b, off, rfl, hbB, d, m, t, c0, c1, c2⟩ := D1.out wr HB.out i h8
      have h8' : (i : Int) < (len1 : Int) := by omega
      have h80' : (i : Int) < 60 := by omega
      have PS := Lib.hid (stepB_any wr B B (B + 1) lim i HT.out (HBS.out _ HB.out) (by omega) d m t)
      go_wp2_with (go_at_call 9; refine PS.out.mono ?_; rintro e W1 ⟨rfl, t1, b1⟩; have T1 := Lib.hid t1; have B1 := Lib.hid (HB.out.trans b1); clear t1 b1)
      go_round
      case rel => exact ⟨i + 1, by go_num, by omega, by omega, T1, B1⟩
      case measure => simp [intOf]; omega
    · obtain ⟨v, u, L, dr, ht, hv, hu, hL, hd⟩ := HT.out
      have hBwr := HBS.out _ HB.out
      obtain ⟨Au, cu, hf⟩ := ht.2.1.2.1.form
      rw [show (sv L).length = L.length from by simp] at hf
      subst hf
      have PF := Lib.hid (ffork_any ht.1 (sv_one L) (by simp; omega))
      have FB := Lib.hid (fun (wf : World) (f : Nat) (vf : Value) (qf : Que wf f 51 vf (sv L) lim dr) (bf : Below wr.heap.size wr wf) (of : ∀ i, OwnQ f vf i → wr.heap.size ≤ i) => (show (wf.cell? ⟨B + 1, 0, none⟩ = some (.slice Au L.length cu) ∧ wf.cell? ⟨B + 1, 1, none⟩ = some (.int .i64 lim) ∧ wf.cell? ⟨B + 1, 2, none⟩ = some (.int .i64 dr)) ∧ ForkI ((wf.drewN 1).alloc (.cells #[.slice Au L.length cu, .int .i64 lim, .int .i64 dr] 33)) B B (B + 1) f wf.heap.size lim 60 ∧ Below B w ((wf.drewN 1).alloc (.cells #[.slice Au L.length cu, .int .i64 lim, .int .i64 dr] 33)) from by
        have h2 := (ht.below bf).2.1.1
        refine ⟨⟨h2.cell 0, h2.cell 1, h2.cell 2⟩, (ForkI.begin ht hv hu hL hd hBwr qf bf of _ rfl).more (by omega), ?_⟩
        exact (below_drewN (HB.out.trans (bf.mono hBwr)) 1).alloc (by have := bf.size; simp; omega) _))
      have hend : i = len1 ∨ i = 60 ∧ 60 < len1 := by omega
      clear hin ht hv hu
      have hi60 : i = len1 ∨ ((60 : Int) < (len1 : Int) ∧ i = 60) := by omega
      clear hend
      rcases hi60 with rfl | ⟨h9, rfl⟩
      all_goals
        go_wp2_with (go_at_call 18; refine PF.out.mono ?_; rintro e wf ⟨f, vf, rfl, qf, bf, of⟩; obtain ⟨⟨x0, x1, x2⟩, fi, fb⟩ := FB.out wf f vf qf bf of; have FI := Lib.hid fi; have FBW := Lib.hid fb; clear qf bf of fi fb)
        have y0 := Go.Lib.cell?_alloc_some (W := wf.drewN 1) (.cells #[.slice Au L.length cu, .int .i64 lim, .int .i64 dr] 33) x0
        have y1 := Go.Lib.cell?_alloc_some (W := wf.drewN 1) (.cells #[.slice Au L.length cu, .int .i64 lim, .int .i64 dr] 33) x1
        have y2 := Go.Lib.cell?_alloc_some (W := wf.drewN 1) (.cells #[.slice Au L.length cu, .int .i64 lim, .int .i64 dr] 33) x2
        go_region_held3 (fun w' => w'.cell? ⟨B + 1, 0, none⟩ = some (.slice Au L.length cu) ∧ w'.cell? ⟨B + 1, 1, none⟩ = some (.int .i64 lim) ∧ w'.cell? ⟨B + 1, 2, none⟩ = some (.int .i64 dr)) (first | exact ⟨x0, x1, x2⟩ | exact ⟨y0, y1, y2⟩) (first | fail)
        have fi2 : ForkI ((wf.alloc (.cells #[.slice Au L.length cu, .int .i64 lim, .int .i64 dr] 33)).drew) B B (B + 1) f wf.heap.size lim 60 := FI.out
        have fb2 : Below B w ((wf.alloc (.cells #[.slice Au L.length cu, .int .i64 lim, .int .i64 dr] 33)).drew) := FBW.out
        clear FI FBW x0 x1 x2 y0 y1 y2 FB PF
        generalize (wf.alloc (.cells #[.slice Au L.length cu, .int .i64 lim, .int .i64 dr] 33)).drew = wg at *
        generalize wf.heap.size = y at *
        have FI := Lib.hid fi2
        have FBW := Lib.hid fb2
        clear fi2 fb2
        go_wp2
        go_loopw [12] (fun k wr => ∃ (j : Nat), k = .int .i64 j ∧ j ≤ len2 ∧ j ≤ 60 ∧ Hid (ForkI wr B B (B + 1) f y lim (60 + j)) ∧ Hid (Below B w wr)) (fun k _ => (60 - intOf k).toNat)
        case atStart => exact ⟨0, rfl, by omega, by omega, FI, FBW⟩
        case round =>
          obtain ⟨j, rfl, hj, hj8, HF, HB2⟩ := hrel
          by_cases hjn : j < len2 ∧ j < 60
          · obtain ⟨h8, h80⟩ := hjn
            obtain ⟨b, off, rfl, hbB, d, m, t, c0, c1, c2⟩ := D2.out wr HB2.out j h8
            have h8' : (j : Int) < (len2 : Int) := by omega
            have h80' : (j : Int) < 60 := by omega
            have PS := Lib.hid (ForkI.step wr B B (B + 1) f y lim (60 + j) HF.out (HBS.out _ HB2.out) (by omega) d m t)
            go_wp2_with (go_at_call 9; refine PS.out.mono ?_; rintro e W1 ⟨rfl, t1, b1⟩; have T1 := Lib.hid t1; have B1 := Lib.hid (HB2.out.trans b1); clear t1 b1)
            go_round
            case rel => exact ⟨j + 1, by go_num, by omega, by omega, T1, B1⟩
            case measure => simp [intOf]; omega
          · obtain ⟨v2, u2, L2, dr2, vf, uy, Lf, drf, g1, g2, g3, g4, g5, g6, g7, g8⟩ := HF.out
            have P1 := Lib.hid (all_any B lim dr2 v2 L2 wr (by omega) g1.1)
            have P2 := Lib.hid (fun (W1 : World) (b1 : Below wr.heap.size wr W1) => all_any f lim drf vf Lf W1 (by omega) (g2.below b1).1)
            have P3 := Lib.hid (fun w => nil_pop w)
            have FN := Lib.hid (fun (W1 W2 : World) (o1 o2 : Value) (b1 : Below wr.heap.size wr W1) (r1 : RowQ W1 o1 (sv L2)) (b2 : Below W1.heap.size W1 W2) (r2 : RowQ W2 o2 (sv Lf)) (W3 : World) (b3 : Below W2.heap.size W2 W3) => And.intro (ForkI.finish g1 g2 (by omega) (by omega) b1 r1 b2 r2 W3 b3) (show Below B w W3 from by
              have hw := HBS.out _ HB2.out
              exact ((HB2.out.trans (b1.mono hw)).trans (b2.mono (Nat.le_trans hw b1.size))).trans (b3.mono (Nat.le_trans (Nat.le_trans hw b1.size) b2.size))))
            have hj60 : j = len2 ∨ ((60 : Int) < (len2 : Int) ∧ j = 60) := by omega
            clear hjn g1 g2 g3 g4
            rcases hj60 with rfl | ⟨h9', rfl⟩
            all_goals
              go_wp2_with (first | (go_at_call 13; with_reducible refine P1.out.mono ?_; rintro e W1 ⟨o1, rfl, r1, b1⟩; have R1 := Lib.hid r1; clear r1) | (go_at_call 13; with_reducible refine (P2.out _ b1).mono ?_; rintro e W2 ⟨o2, rfl, r2, b2⟩; have R2 := Lib.hid r2; clear r2) | (go_at_call 19; refine (P3.out _).mono ?_; rintro e w' ⟨rfl, rfl⟩))
              refine wp_region_then 0 (fun _ => True) (by kernel_rfl) (by kernel_rfl) rfl (by kernel_rfl) (fun _ _ d _ _ h => by cases d <;> exact h) trivial ?_
              simp only [List.take_zero, List.drop_succ_cons, List.drop_zero]
              intro K' hK
              go_simp
              go_at_call 14
              refine (HL.out _).mono ?_
              rintro e W3 ⟨rfl, b3⟩
              obtain ⟨⟨A3, c3, A4, c4, x0, x2, y0, s1, s2, s3⟩, hbw⟩ := FN.out W1 W2 o1 o2 b1 R1.out b2 R2.out W3 ((Below.refl W2.heap.size W2).drew.trans b3)
              have S1 := Lib.hid s1
              have S2 := Lib.hid s2
              have S3 := Lib.hid s3
              have HBW3 := Lib.hid hbw
              have Q1 := Lib.hid (fun w => nil_push ⟨#[]⟩ w)
              have Q2 := Lib.hid (fun w => nil_len w)
              have Q3 := Lib.hid (fun w => nil_limit w)
              have Q4 := Lib.hid (fun w => nil_drops w)
              have Q5 := Lib.hid (fun w => nil_take w)
              have Q6 := Lib.hid (fun w => nil_fork w)
              clear s1 s2 s3 hbw b1 b2 b3
              refine hK.out _ _ ⟨fun w' => ∃ m, w' = W3.drewN m, ⟨0, rfl⟩, fun _ _ => trivial, ?_⟩
              clear hK
              repeat (quiet_step ((first | (go_at_call 15; with_reducible exact quiet_draws (S1.out _)) | (go_at_call 15; with_reducible exact quiet_draws (S2.out _)) | (go_at_call 11; with_reducible exact quiet_same (S3.out _)) | (go_at_call 16; with_reducible exact quiet_same (Q1.out _)) | (go_at_call 10; with_reducible exact quiet_same (Q2.out _)) | (go_at_call 12; with_reducible exact quiet_same (Q3.out _)) | (go_at_call 11; with_reducible exact quiet_same (Q4.out _)) | (go_at_call 17; with_reducible exact quiet_same (Q5.out _)) | (go_at_call 18; with_reducible exact quiet_same (Q6.out _)))))
              refine wpQuiet_nil ?_
              rintro _ ⟨nq, rfl⟩
              go_wp2
              go_ret
              exact ⟨rfl, below_drewN HBW3.out _⟩
end Go.Proofs.Ytlhjhdheejdgnaa
