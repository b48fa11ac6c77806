import Derived.Test.YtkiifafocmjfkaaX03
import Derived.RegionIn
set_option linter.all false
/- Settle, walked. -/
namespace Go.Proofs.Ytkiifafocmjfkaa
open Go.RowKit Go.Lib Go.Shelf
attribute [local go_sem] Oper.semAt_some
set_option linter.unusedVariables false

theorem Qu.take_any {w : World} {b lim : Nat} {v : Value} {L : List Qu.It} (k : Nat) (h : Fi.Que w b v L lim 0) (hk : k ≤ L.length) (hl : L.length ≤ 1000) : Calls Try.prog 31 #[.pointer (some ⟨b, 0, none⟩), .int .i64 k] w fun e w' => ∃ out, e = .returned out ∧ Fi.QueN w b v lim w' (L.drop k) 0 := by
  by_cases h0 : 0 < k
  · exact (Fi.take_n k h h0 hk hl).mono fun e w' ⟨o, h1, _, _, h4⟩ => ⟨o, h1, h4⟩
  · refine (Fi.take_0 k h (by omega)).mono ?_
    rintro e w' ⟨rfl, rfl⟩
    obtain rfl : k = 0 := by omega
    exact ⟨_, rfl, Fi.QueN.stay h⟩
theorem Qu.SI.done {w W3 W W' W2 : World} {q bw bd qb nb lim Db : Nat} {vw vd : Value} {L : List Qu.It} {D : List Qu.Cl} {pre : List (Nat × Qu.It)} {k : Nat} (H : Qu.Qv w q bw bd vw vd L D lim) (g : w.grownBy W3 none) (hnb : w.heap.size ≤ nb) (p : Qu.SP W3 q bw bd qb nb vw vd)
    (h : Qu.SI W3 q bw bd qb nb lim vw vd D pre W) (hk : k ≤ L.length) (hp : pre = Qu.placed L k) (hN : Fi.QueN W bw vw lim W' (L.drop k) 0) (hD : W3.heap.size ≤ Db) (hd : W.heap[Db]? = some (.deferred (some []))) (hg : W'.grownBy W2 (some Db)) :
    Qu.N w q bw bd vw vd W2 (L.drop k) (D ++ (L.take k).map Qu.wr) lim := by
  obtain ⟨v2, q1, q2, q3⟩ := hN
  obtain ⟨vd', h1, h2, h3⟩ := h.v
  have hDl := (Array.getElem?_eq_some_iff.1 hd).1
  have kp := Keeps.of_only hg (S := fun i => i = Db) (fun i e => by injection e with e; exact e.symm)
  have g3 := g.size
  have hws := h.ks.size
  have e1 : (pre.map fun p => Qu.wr p.2) = (L.take k).map Qu.wr := by rw [hp]; exact Qu.placed_wr L k hk
  have f1 : ∀ i, OwnQ bd vd' i → i ≠ Db := fun i hi e => by
    subst e
    obtain ⟨o, ho, hc⟩ := h.fresh p h1 h2 h3 hi hD
    rw [hd] at ho
    injection ho with ho
    subst ho
    cases hc
  have f2 : ∀ i, OwnQ bw v2 i → i ≠ Db := fun i hi e => (q3 i hi).elim (fun e' => by have := (p.l2 i e').1; omega) (fun e' => by omega)
  have f3 : ∀ i, OwnQ bd vd' i → ¬ OwnQ bw vw i := fun i hi hw => (h2 i hi).elim (fun e => H.j3 i hw e) (fun e => by have := (p.l2 i hw).1; omega)
  refine ⟨v2, vd', ⟨(h.bk.keeps q2 H.j1).keeps kp (fun e => by have := p.l3.2.2; omega), q1.keeps kp f2, ?_, ?_, ?_, ?_, ?_, H.l16⟩, ?_, ?_⟩
  · rw [← e1]
    exact (h1.keeps q2 f3).keeps kp f1
  · exact fun e => (q3 q e).elim H.j1 (fun e => by have := p.l3.2.2; omega)
  · exact fun e => (h2 q e).elim H.j2 (fun e => by have := p.l3.2.2; omega)
  · exact fun i hi hd => (q3 i hi).elim (fun e => f3 i hd e) (fun e => by have := h1.lt i hd; omega)
  · have := H.sm
    simp
    omega
  · refine ⟨kp.1.trans (q2.1.trans (h.ks.1.trans g.os)), kp.2.1.trans (q2.2.1.trans (h.ks.2.1.trans g.tape)), kp.2.2.1.trans (q2.2.2.1.trans (h.ks.2.2.1.trans g.output)), Nat.le_trans g3 (Nat.le_trans hws (Nat.le_trans q2.size kp.size)), fun i hi hs => ?_⟩
    have i3 := Nat.lt_of_lt_of_le hi g3
    have i4 := Nat.lt_of_lt_of_le i3 hws
    exact ((kp.2.2.2.2 i (Nat.lt_of_lt_of_le i4 q2.size) (fun e => by omega)).trans (q2.2.2.2.2 i i4 (fun e => hs (.inr (.inl e))))).trans ((h.ks.2.2.2.2 i i3 (fun e => e.elim (fun e => hs (.inr (.inr e))) (fun e => by omega))).trans (g.block i hi (by simp)))
  · rintro i (e | hi | hi)
    · exact .inl (.inl e)
    · exact (q3 i hi).elim (fun e => .inl (.inr (.inl e))) (fun e => .inr (by omega))
    · exact (h2 i hi).elim (fun e => .inl (.inr (.inr e))) (fun e => .inr (by omega))

set_option maxRecDepth 100000 in
set_option maxHeartbeats 16000000 in
theorem Qu.settle_any (w : World) (q bw bd lim : Nat) (vw vd : Value) (L : List Qu.It) (D : List Qu.Cl) (h : Qu.Qv w q bw bd vw vd L D lim) : Calls Try.prog 12 #[.pointer (some ⟨q, 0, none⟩)] w fun e w' =>
    ∃ k, k ≤ L.length ∧ (∀ x ∈ L.take k, x.bad = true) ∧ (k = L.length ∨ ∃ x, L[k]? = some x ∧ x.bad = false) ∧ e = .returned (.int .i64 k) ∧ Qu.N w q bw bd vw vd w' (L.drop k) (D ++ (L.take k).map Qu.wr) lim := by
  have k0 : ∀ W', w.grownBy W' none → W'.cell? ⟨q, 0, none⟩ = some (.pointer (some ⟨bw, 0, none⟩)) := fun W' g => (h.grown g).blk.cell 0
  have K1 := k0 _ (only_alloc (only_alloc (only_refl w none) (.cells #[.pointer (some ⟨q, 0, none⟩)] 23)) (.cells #[.int .i64 0] 3))
  refine (callsIn_wide (n := 10)).1 ?_
  refine callsIn_of_wp_marks Try.func12 rfl trivial ?_ rfl
  simp only [Try.ntmps12, List.size_toArray, List.length_cons, List.length_nil, Nat.reduceAdd, Nat.reduceSub, Array.replicate_succ, Array.replicate_zero, List.push_toArray, List.append_toArray, List.nil_append, List.cons_append]
  gi_wp2_with (refine ⟨trivial, ?_⟩; gi_at_call 29; refine (Qu.all_in _ _ _).mono ?_; rintro e w' ⟨rfl, rfl⟩)
  have g3 := only_alloc (only_alloc (only_alloc (only_refl w none) (.cells #[.pointer (some ⟨q, 0, none⟩)] 23)) (.cells #[.int .i64 0] 3)) (.cells #[.pointer (some ⟨bw, 0, none⟩)] 54)
  have bq := ((Blk.new w 23 #[.pointer (some ⟨q, 0, none⟩)]).alloc (.cells #[.int .i64 0] 3)).alloc (.cells #[.pointer (some ⟨bw, 0, none⟩)] 54)
  have bn := (Blk.new (w.alloc (.cells #[.pointer (some ⟨q, 0, none⟩)] 23)) 3 #[.int .i64 0]).alloc (.cells #[.pointer (some ⟨bw, 0, none⟩)] 54)
  have bs := Blk.new ((w.alloc (.cells #[.pointer (some ⟨q, 0, none⟩)] 23)).alloc (.cells #[.int .i64 0] 3)) 54 #[.pointer (some ⟨bw, 0, none⟩)]
  have hsz : (((w.alloc (.cells #[.pointer (some ⟨q, 0, none⟩)] 23)).alloc (.cells #[.int .i64 0] 3)).alloc (.cells #[.pointer (some ⟨bw, 0, none⟩)] 54)).heap.size = w.heap.size + 3 := by simp
  simp only [World.size_alloc] at bn bs
  generalize ((w.alloc (.cells #[.pointer (some ⟨q, 0, none⟩)] 23)).alloc (.cells #[.int .i64 0] 3)).alloc (.cells #[.pointer (some ⟨bw, 0, none⟩)] 54) = w3 at *
  have hlt := h.lt
  have H3 := h.grown g3
  have p : Qu.SP w3 q bw bd w.heap.size (w.heap.size + 1) vw vd := by
    have hq := hlt q (.inl rfl)
    refine ⟨fun i hi => ?_, fun i hi => ?_, by omega, by omega⟩
    · have := hlt i (.inr (.inr hi))
      exact ⟨by omega, by omega, by omega, fun e => h.j2 (e ▸ hi)⟩
    · have := hlt i (.inr (.inl hi))
      exact ⟨by omega, by omega, by omega, fun e => h.j1 (e ▸ hi), h.j3 i hi⟩
  have I0 : Qu.SI w3 q bw bd w.heap.size (w.heap.size + 1) lim vw vd D [] w3 := ⟨fun p hp => by simp at hp, bq, bn, H3.blk, Keeps.refl _ _, vd, by simpa using H3.dq, fun i hi => .inl hi, fun _ => rfl⟩
  have hL16 : L.length + D.length ≤ 16 := Nat.le_trans h.sm h.l16
  have c3 : w3.cell? ⟨w.heap.size + 1 + 1, 0, none⟩ = some (.pointer (some ⟨bw, 0, none⟩)) := bs.cell 0
  have hB : w.heap.size + 1 + 1 < w3.heap.size := by omega
  have HH := Lib.hid h
  clear K1 k0 bq bn bs
  refine wpIn_rangeFunc_ownH rfl (by omega) (gf := 40) (lb := #[.pointer (some ⟨w.heap.size + 1 + 1, 0, none⟩)]) rfl trivial (enters_of Try.func40 (by kernel_rfl) rfl)
    (Qu.all_stops (10 - 1) (by omega) (w.heap.size + 1 + 1) bw lim 0 (fun i => OwnQ bw vw i ∨ i = w.heap.size + 1 + 1) vw L (by omega) w3 c3 H3.wq (fun i => Iff.rfl)) (fun h k => h.trans k)
    (fun W l o o' hl ho hc hw => Qu.Kp.book (w := w3) (fun i hi => hi.elim (fun e => (p.l2 i e).1) (fun e => by omega)) W l o o' hl ho hc hw) (Below.refl _ _) (fun _ => rfl)
    (Qu.SI w3 q bw bd w.heap.size (w.heap.size + 1) lim vw vd D)
    (fun c pre W => c = .exit 0 ∧ ∃ pre0 x, pre = pre0 ++ [x] ∧ x.2.bad = false ∧ Qu.SI w3 q bw bd w.heap.size (w.heap.size + 1) lim vw vd D pre0 W)
    (Qu.SI.own p) (fun c pre X Y row hs hg hr => by obtain ⟨e, pre0, x, h1, h2, h3⟩ := hs; exact ⟨e, pre0, x, h1, h2, Qu.SI.own p pre0 X Y row h3 hg hr⟩) I0
    (fun x a' W => ∃ Bx, w3.heap.size ≤ Bx ∧ Blk W Bx 35 (Qu.cs x.2) ∧ a' = { tmps := #[.pointer (some ⟨q, 0, none⟩), .pointer (some ⟨w.heap.size, 0, none⟩), .int .i64 0, .pointer (some ⟨w.heap.size + 1, 0, none⟩), undef, .pointer (some ⟨Bx, 0, none⟩), .pointer (some ⟨q, 0, none⟩), .bool false, .pointer (some ⟨q, 0, none⟩), .pointer (some ⟨q, 0, none⟩), .pointer (some ⟨q, 0, none⟩), .pointer (some ⟨bw, 0, none⟩), .func (.func 40) #[] #[.pointer (some ⟨w.heap.size + 1 + 1, 0, none⟩)], .int .i64 (x.1 : Int), .agg (Qu.cs x.2), undef, undef, undef, undef, undef, undef, undef, undef, undef, undef, undef, undef, undef, undef, undef, undef, undef, undef, undef], defers := [] })
    (fun x a' _ X Y row hs hg hr => by
      obtain ⟨Bx, h1, h2, h3⟩ := hs
      refine ⟨Bx, h1, h2.only hg (fun e => ?_), h3⟩
      obtain ⟨_, o, ho, hc⟩ := hr Bx e.symm
      rw [show X.heap[Bx]? = _ from h2] at ho
      injection ho with ho
      subst ho
      cases hc)
    ?assign ?body ?done ?stop
  case assign =>
    intro l pre x W K hI hK
    gi_wp2
    have g := World.grownBy_alloc W (.cells #[.int .i64 x.2.k, .int .u8 x.2.wh, .int .u8 x.2.st, .int .i64 x.2.ad, .int .i64 x.2.ln, .int .i64 x.2.ar, .bool x.2.bad] 35) none
    exact hK _ _ ((KeepsOthers.alloc _ _).from _) (Qu.Kp.of_grown g (fun i hi => ⟨Nat.lt_of_lt_of_le (hi.elim (fun e => (p.l2 i e).1) (fun e => by omega)) hI.ks.size, by simp⟩)) ((Qu.SI.own p).alloc _ hI) ⟨W.heap.size, hI.ks.size, Blk.new W _ _, rfl⟩
  case body =>
    have hlt0 := hlt
    rintro l pre x a' W hl ⟨r, hr⟩ hI ⟨Bx, hBx, bX, rfl⟩ hlt
    unfold Qu.cs at bX ⊢
    have x0 : W.cell? ⟨Bx, 0, none⟩ = some (.int .i64 x.2.k) := bX.cell 0
    have x1 : W.cell? ⟨Bx, 1, none⟩ = some (.int .u8 x.2.wh) := bX.cell 1
    have x2 : W.cell? ⟨Bx, 2, none⟩ = some (.int .u8 x.2.st) := bX.cell 2
    have x3 : W.cell? ⟨Bx, 3, none⟩ = some (.int .i64 x.2.ad) := bX.cell 3
    have x4 : W.cell? ⟨Bx, 4, none⟩ = some (.int .i64 x.2.ln) := bX.cell 4
    have x5 : W.cell? ⟨Bx, 5, none⟩ = some (.int .i64 x.2.ar) := bX.cell 5
    have x6 : W.cell? ⟨Bx, 6, none⟩ = some (.bool x.2.bad) := bX.cell 6
    have y1 : W.cell? ⟨w.heap.size, 0, none⟩ = some (.pointer (some ⟨q, 0, none⟩)) := hI.b1.cell 0
    have y2 : W.cell? ⟨q, 1, none⟩ = some (.pointer (some ⟨bd, 0, none⟩)) := hI.bk.cell 1
    rcases Bool.eq_false_or_eq_true x.2.bad with hb | hb
    · rw [hb] at x6
      obtain ⟨vd', h1, h2, h3⟩ := hI.v
      have hroom : (D ++ pre.map fun p => Qu.wr p.2).length < lim := by
        have := h.sm
        simp
        omega
      have hd : W.grownBy W.drew none := only_drewN (only_refl _ none) 1
      have hp0 := Fc.push_on (Qu.wr x.2) (h1.grown hd) hroom (by have := h.l16; omega)
      rw [show (Qu.wr x.2).it.bad = true from hb] at hp0
      have HP := Lib.hid hp0
      clear hp0
      have i0 : (0 : Int) ≤ (pre.length : Int) := by omega
      have i1 : (pre.length : Int) < 17 := by omega
      have HD := Lib.hid hd
      have HI := Lib.hid hI
      have H1 := Lib.hid h1
      have H2 := Lib.hid h2
      have H3' := Lib.hid h3
      clear hd hI h1 h2 h3
      have hlt3 : ∀ i, OwnQ bd vd i → i < w.heap.size := fun i hi => hlt0 i (.inr (.inr hi))
      gi_wp2
      refine wpIn_region_any (by kernel_rfl) ?_
      change wpAnyIn _ _ _ _ _ _ _ _ _ (World.drew _)
      refine wpAnyIn_ready (rs := [0, 4]) (by kernel_rfl) (by simp) ?_
      refine AllReadyIn.cons rfl (fun K hK => ?_) ?_
      · skip
        go_simp
        refine hK _ _ ?_; clear hK K
        refine wpAnyIn_ready (rs := [1, 4]) (by kernel_rfl) (by simp) ?_
        refine AllReadyIn.cons rfl (fun K hK => ?_) ?_
        · skip
          go_simp
          refine hK _ _ ?_; clear hK K
          refine wpAnyIn_ready (rs := [2, 4]) (by kernel_rfl) (by simp) ?_
          refine AllReadyIn.cons rfl (fun K hK => ?_) ?_
          · skip
            go_simp
            refine hK _ _ ?_; clear hK K
            refine wpAnyIn_ready (rs := [3, 4]) (by kernel_rfl) (by simp) ?_
            refine AllReadyIn.cons rfl (fun K hK => ?_) ?_
            · skip
              go_simp
              refine hK _ _ ?_; clear hK K
              refine wpAnyIn_ready (rs := [4]) (by kernel_rfl) (by simp) ?_
              refine AllReadyIn.cons rfl (fun K hK => ?_) AllReadyIn.nil
              go_simp
              refine hK _ _ ?_; clear hK K
              refine wpAnyIn_ready (rs := [5]) (by kernel_rfl) (by simp) ?_
              refine AllReadyIn.cons rfl (fun K hK => ?_) AllReadyIn.nil
              go_simp
              refine hK _ _ ?_; clear hK K
              refine wpAnyIn_ready (rs := [6]) (by kernel_rfl) (by simp) ?_
              refine AllReadyIn.cons rfl (fun K hK => ?_) AllReadyIn.nil
              go_simp
              refine ⟨trivial, ?_⟩
              gi_at_call 30
              refine (CallsIn.inRound l ((callsIn_wide (n := 10 - 1 - 1 - 1)).2 HP.out)).mono ?_
              rintro e W1 ⟨rfl, hN⟩
              obtain ⟨b2, HS, HKF, HKP⟩ := Qu.SI.round HI.out p H1.out H2.out H3'.out x hb (hN.before HD.out)
              have c8 : W1.cell? ⟨w.heap.size + 1, 0, none⟩ = some (.int .i64 (pre.length : Int)) := b2.cell 0
              have f8 := b2.free 0
              have HS' := Lib.hid HS
              have HKF' := Lib.hid HKF
              have HKP' := Lib.hid (HKP (fun i => OwnQ bw vw i ∨ i = w.heap.size + 1 + 1) (fun i hi => hi.imp id (fun e => ⟨by omega, by omega, fun e2 => by have := (p.l1 i e2).1; have := hlt3 i e2; omega⟩)))
              clear b2 HS HKF HKP hN
              refine hK _ _ ?_; clear hK K
              refine wpAnyIn_done (by kernel_rfl) ?_ _
              gi_wp2
              exact ⟨HKF'.out, HKP'.out, HS'.out⟩
            refine AllReadyIn.cons rfl (fun K hK => ?_) AllReadyIn.nil
            go_simp
            refine hK _ _ ?_; clear hK K
            refine wpAnyIn_ready (rs := [3, 5]) (by kernel_rfl) (by simp) ?_
            refine AllReadyIn.cons rfl (fun K hK => ?_) ?_
            · skip
              go_simp
              refine hK _ _ ?_; clear hK K
              refine wpAnyIn_ready (rs := [5]) (by kernel_rfl) (by simp) ?_
              refine AllReadyIn.cons rfl (fun K hK => ?_) AllReadyIn.nil
              go_simp
              refine hK _ _ ?_; clear hK K
              refine wpAnyIn_ready (rs := [6]) (by kernel_rfl) (by simp) ?_
              refine AllReadyIn.cons rfl (fun K hK => ?_) AllReadyIn.nil
              go_simp
              refine ⟨trivial, ?_⟩
              gi_at_call 30
              refine (CallsIn.inRound l ((callsIn_wide (n := 10 - 1 - 1 - 1)).2 HP.out)).mono ?_
              rintro e W1 ⟨rfl, hN⟩
              obtain ⟨b2, HS, HKF, HKP⟩ := Qu.SI.round HI.out p H1.out H2.out H3'.out x hb (hN.before HD.out)
              have c8 : W1.cell? ⟨w.heap.size + 1, 0, none⟩ = some (.int .i64 (pre.length : Int)) := b2.cell 0
              have f8 := b2.free 0
              have HS' := Lib.hid HS
              have HKF' := Lib.hid HKF
              have HKP' := Lib.hid (HKP (fun i => OwnQ bw vw i ∨ i = w.heap.size + 1 + 1) (fun i hi => hi.imp id (fun e => ⟨by omega, by omega, fun e2 => by have := (p.l1 i e2).1; have := hlt3 i e2; omega⟩)))
              clear b2 HS HKF HKP hN
              refine hK _ _ ?_; clear hK K
              refine wpAnyIn_done (by kernel_rfl) ?_ _
              gi_wp2
              exact ⟨HKF'.out, HKP'.out, HS'.out⟩
            refine AllReadyIn.cons rfl (fun K hK => ?_) AllReadyIn.nil
            go_simp
            refine hK _ _ ?_; clear hK K
            refine wpAnyIn_ready (rs := [3]) (by kernel_rfl) (by simp) ?_
            refine AllReadyIn.cons rfl (fun K hK => ?_) AllReadyIn.nil
            go_simp
            refine hK _ _ ?_; clear hK K
            refine wpAnyIn_ready (rs := [6]) (by kernel_rfl) (by simp) ?_
            refine AllReadyIn.cons rfl (fun K hK => ?_) AllReadyIn.nil
            go_simp
            refine ⟨trivial, ?_⟩
            gi_at_call 30
            refine (CallsIn.inRound l ((callsIn_wide (n := 10 - 1 - 1 - 1)).2 HP.out)).mono ?_
            rintro e W1 ⟨rfl, hN⟩
            obtain ⟨b2, HS, HKF, HKP⟩ := Qu.SI.round HI.out p H1.out H2.out H3'.out x hb (hN.before HD.out)
            have c8 : W1.cell? ⟨w.heap.size + 1, 0, none⟩ = some (.int .i64 (pre.length : Int)) := b2.cell 0
            have f8 := b2.free 0
            have HS' := Lib.hid HS
            have HKF' := Lib.hid HKF
            have HKP' := Lib.hid (HKP (fun i => OwnQ bw vw i ∨ i = w.heap.size + 1 + 1) (fun i hi => hi.imp id (fun e => ⟨by omega, by omega, fun e2 => by have := (p.l1 i e2).1; have := hlt3 i e2; omega⟩)))
            clear b2 HS HKF HKP hN
            refine hK _ _ ?_; clear hK K
            refine wpAnyIn_done (by kernel_rfl) ?_ _
            gi_wp2
            exact ⟨HKF'.out, HKP'.out, HS'.out⟩
          refine AllReadyIn.cons rfl (fun K hK => ?_) AllReadyIn.nil
          go_simp
          refine hK _ _ ?_; clear hK K
          refine wpAnyIn_ready (rs := [2, 5]) (by kernel_rfl) (by simp) ?_
          refine AllReadyIn.cons rfl (fun K hK => ?_) ?_
          · skip
            go_simp
            refine hK _ _ ?_; clear hK K
            refine wpAnyIn_ready (rs := [3, 5]) (by kernel_rfl) (by simp) ?_
            refine AllReadyIn.cons rfl (fun K hK => ?_) ?_
            · skip
              go_simp
              refine hK _ _ ?_; clear hK K
              refine wpAnyIn_ready (rs := [5]) (by kernel_rfl) (by simp) ?_
              refine AllReadyIn.cons rfl (fun K hK => ?_) AllReadyIn.nil
              go_simp
              refine hK _ _ ?_; clear hK K
              refine wpAnyIn_ready (rs := [6]) (by kernel_rfl) (by simp) ?_
              refine AllReadyIn.cons rfl (fun K hK => ?_) AllReadyIn.nil
              go_simp
              refine ⟨trivial, ?_⟩
              gi_at_call 30
              refine (CallsIn.inRound l ((callsIn_wide (n := 10 - 1 - 1 - 1)).2 HP.out)).mono ?_
              rintro e W1 ⟨rfl, hN⟩
              obtain ⟨b2, HS, HKF, HKP⟩ := Qu.SI.round HI.out p H1.out H2.out H3'.out x hb (hN.before HD.out)
              have c8 : W1.cell? ⟨w.heap.size + 1, 0, none⟩ = some (.int .i64 (pre.length : Int)) := b2.cell 0
              have f8 := b2.free 0
              have HS' := Lib.hid HS
              have HKF' := Lib.hid HKF
              have HKP' := Lib.hid (HKP (fun i => OwnQ bw vw i ∨ i = w.heap.size + 1 + 1) (fun i hi => hi.imp id (fun e => ⟨by omega, by omega, fun e2 => by have := (p.l1 i e2).1; have := hlt3 i e2; omega⟩)))
              clear b2 HS HKF HKP hN
              refine hK _ _ ?_; clear hK K
              refine wpAnyIn_done (by kernel_rfl) ?_ _
              gi_wp2
              exact ⟨HKF'.out, HKP'.out, HS'.out⟩
            refine AllReadyIn.cons rfl (fun K hK => ?_) AllReadyIn.nil
            go_simp
            refine hK _ _ ?_; clear hK K
            refine wpAnyIn_ready (rs := [3]) (by kernel_rfl) (by simp) ?_
            refine AllReadyIn.cons rfl (fun K hK => ?_) AllReadyIn.nil
            go_simp
            refine hK _ _ ?_; clear hK K
            refine wpAnyIn_ready (rs := [6]) (by kernel_rfl) (by simp) ?_
            refine AllReadyIn.cons rfl (fun K hK => ?_) AllReadyIn.nil
            go_simp
            refine ⟨trivial, ?_⟩
            gi_at_call 30
            refine (CallsIn.inRound l ((callsIn_wide (n := 10 - 1 - 1 - 1)).2 HP.out)).mono ?_
            rintro e W1 ⟨rfl, hN⟩
            obtain ⟨b2, HS, HKF, HKP⟩ := Qu.SI.round HI.out p H1.out H2.out H3'.out x hb (hN.before HD.out)
            have c8 : W1.cell? ⟨w.heap.size + 1, 0, none⟩ = some (.int .i64 (pre.length : Int)) := b2.cell 0
            have f8 := b2.free 0
            have HS' := Lib.hid HS
            have HKF' := Lib.hid HKF
            have HKP' := Lib.hid (HKP (fun i => OwnQ bw vw i ∨ i = w.heap.size + 1 + 1) (fun i hi => hi.imp id (fun e => ⟨by omega, by omega, fun e2 => by have := (p.l1 i e2).1; have := hlt3 i e2; omega⟩)))
            clear b2 HS HKF HKP hN
            refine hK _ _ ?_; clear hK K
            refine wpAnyIn_done (by kernel_rfl) ?_ _
            gi_wp2
            exact ⟨HKF'.out, HKP'.out, HS'.out⟩
          refine AllReadyIn.cons rfl (fun K hK => ?_) AllReadyIn.nil
          go_simp
          refine hK _ _ ?_; clear hK K
          refine wpAnyIn_ready (rs := [2]) (by kernel_rfl) (by simp) ?_
          refine AllReadyIn.cons rfl (fun K hK => ?_) AllReadyIn.nil
          go_simp
          refine hK _ _ ?_; clear hK K
          refine wpAnyIn_ready (rs := [3]) (by kernel_rfl) (by simp) ?_
          refine AllReadyIn.cons rfl (fun K hK => ?_) AllReadyIn.nil
          go_simp
          refine hK _ _ ?_; clear hK K
          refine wpAnyIn_ready (rs := [6]) (by kernel_rfl) (by simp) ?_
          refine AllReadyIn.cons rfl (fun K hK => ?_) AllReadyIn.nil
          go_simp
          refine ⟨trivial, ?_⟩
          gi_at_call 30
          refine (CallsIn.inRound l ((callsIn_wide (n := 10 - 1 - 1 - 1)).2 HP.out)).mono ?_
          rintro e W1 ⟨rfl, hN⟩
          obtain ⟨b2, HS, HKF, HKP⟩ := Qu.SI.round HI.out p H1.out H2.out H3'.out x hb (hN.before HD.out)
          have c8 : W1.cell? ⟨w.heap.size + 1, 0, none⟩ = some (.int .i64 (pre.length : Int)) := b2.cell 0
          have f8 := b2.free 0
          have HS' := Lib.hid HS
          have HKF' := Lib.hid HKF
          have HKP' := Lib.hid (HKP (fun i => OwnQ bw vw i ∨ i = w.heap.size + 1 + 1) (fun i hi => hi.imp id (fun e => ⟨by omega, by omega, fun e2 => by have := (p.l1 i e2).1; have := hlt3 i e2; omega⟩)))
          clear b2 HS HKF HKP hN
          refine hK _ _ ?_; clear hK K
          refine wpAnyIn_done (by kernel_rfl) ?_ _
          gi_wp2
          exact ⟨HKF'.out, HKP'.out, HS'.out⟩
        refine AllReadyIn.cons rfl (fun K hK => ?_) AllReadyIn.nil
        go_simp
        refine hK _ _ ?_; clear hK K
        refine wpAnyIn_ready (rs := [1, 5]) (by kernel_rfl) (by simp) ?_
        refine AllReadyIn.cons rfl (fun K hK => ?_) ?_
        · skip
          go_simp
          refine hK _ _ ?_; clear hK K
          refine wpAnyIn_ready (rs := [2, 5]) (by kernel_rfl) (by simp) ?_
          refine AllReadyIn.cons rfl (fun K hK => ?_) ?_
          · skip
            go_simp
            refine hK _ _ ?_; clear hK K
            refine wpAnyIn_ready (rs := [3, 5]) (by kernel_rfl) (by simp) ?_
            refine AllReadyIn.cons rfl (fun K hK => ?_) ?_
            · skip
              go_simp
              refine hK _ _ ?_; clear hK K
              refine wpAnyIn_ready (rs := [5]) (by kernel_rfl) (by simp) ?_
              refine AllReadyIn.cons rfl (fun K hK => ?_) AllReadyIn.nil
              go_simp
              refine hK _ _ ?_; clear hK K
              refine wpAnyIn_ready (rs := [6]) (by kernel_rfl) (by simp) ?_
              refine AllReadyIn.cons rfl (fun K hK => ?_) AllReadyIn.nil
              go_simp
              refine ⟨trivial, ?_⟩
              gi_at_call 30
              refine (CallsIn.inRound l ((callsIn_wide (n := 10 - 1 - 1 - 1)).2 HP.out)).mono ?_
              rintro e W1 ⟨rfl, hN⟩
              obtain ⟨b2, HS, HKF, HKP⟩ := Qu.SI.round HI.out p H1.out H2.out H3'.out x hb (hN.before HD.out)
              have c8 : W1.cell? ⟨w.heap.size + 1, 0, none⟩ = some (.int .i64 (pre.length : Int)) := b2.cell 0
              have f8 := b2.free 0
              have HS' := Lib.hid HS
              have HKF' := Lib.hid HKF
              have HKP' := Lib.hid (HKP (fun i => OwnQ bw vw i ∨ i = w.heap.size + 1 + 1) (fun i hi => hi.imp id (fun e => ⟨by omega, by omega, fun e2 => by have := (p.l1 i e2).1; have := hlt3 i e2; omega⟩)))
              clear b2 HS HKF HKP hN
              refine hK _ _ ?_; clear hK K
              refine wpAnyIn_done (by kernel_rfl) ?_ _
              gi_wp2
              exact ⟨HKF'.out, HKP'.out, HS'.out⟩
            refine AllReadyIn.cons rfl (fun K hK => ?_) AllReadyIn.nil
            go_simp
            refine hK _ _ ?_; clear hK K
            refine wpAnyIn_ready (rs := [3]) (by kernel_rfl) (by simp) ?_
            refine AllReadyIn.cons rfl (fun K hK => ?_) AllReadyIn.nil
            go_simp
            refine hK _ _ ?_; clear hK K
            refine wpAnyIn_ready (rs := [6]) (by kernel_rfl) (by simp) ?_
            refine AllReadyIn.cons rfl (fun K hK => ?_) AllReadyIn.nil
            go_simp
            refine ⟨trivial, ?_⟩
            gi_at_call 30
            refine (CallsIn.inRound l ((callsIn_wide (n := 10 - 1 - 1 - 1)).2 HP.out)).mono ?_
            rintro e W1 ⟨rfl, hN⟩
            obtain ⟨b2, HS, HKF, HKP⟩ := Qu.SI.round HI.out p H1.out H2.out H3'.out x hb (hN.before HD.out)
            have c8 : W1.cell? ⟨w.heap.size + 1, 0, none⟩ = some (.int .i64 (pre.length : Int)) := b2.cell 0
            have f8 := b2.free 0
            have HS' := Lib.hid HS
            have HKF' := Lib.hid HKF
            have HKP' := Lib.hid (HKP (fun i => OwnQ bw vw i ∨ i = w.heap.size + 1 + 1) (fun i hi => hi.imp id (fun e => ⟨by omega, by omega, fun e2 => by have := (p.l1 i e2).1; have := hlt3 i e2; omega⟩)))
            clear b2 HS HKF HKP hN
            refine hK _ _ ?_; clear hK K
            refine wpAnyIn_done (by kernel_rfl) ?_ _
            gi_wp2
            exact ⟨HKF'.out, HKP'.out, HS'.out⟩
          refine AllReadyIn.cons rfl (fun K hK => ?_) AllReadyIn.nil
          go_simp
          refine hK _ _ ?_; clear hK K
          refine wpAnyIn_ready (rs := [2]) (by kernel_rfl) (by simp) ?_
          refine AllReadyIn.cons rfl (fun K hK => ?_) AllReadyIn.nil
          go_simp
          refine hK _ _ ?_; clear hK K
          refine wpAnyIn_ready (rs := [3]) (by kernel_rfl) (by simp) ?_
          refine AllReadyIn.cons rfl (fun K hK => ?_) AllReadyIn.nil
          go_simp
          refine hK _ _ ?_; clear hK K
          refine wpAnyIn_ready (rs := [6]) (by kernel_rfl) (by simp) ?_
          refine AllReadyIn.cons rfl (fun K hK => ?_) AllReadyIn.nil
          go_simp
          refine ⟨trivial, ?_⟩
          gi_at_call 30
          refine (CallsIn.inRound l ((callsIn_wide (n := 10 - 1 - 1 - 1)).2 HP.out)).mono ?_
          rintro e W1 ⟨rfl, hN⟩
          obtain ⟨b2, HS, HKF, HKP⟩ := Qu.SI.round HI.out p H1.out H2.out H3'.out x hb (hN.before HD.out)
          have c8 : W1.cell? ⟨w.heap.size + 1, 0, none⟩ = some (.int .i64 (pre.length : Int)) := b2.cell 0
          have f8 := b2.free 0
          have HS' := Lib.hid HS
          have HKF' := Lib.hid HKF
          have HKP' := Lib.hid (HKP (fun i => OwnQ bw vw i ∨ i = w.heap.size + 1 + 1) (fun i hi => hi.imp id (fun e => ⟨by omega, by omega, fun e2 => by have := (p.l1 i e2).1; have := hlt3 i e2; omega⟩)))
          clear b2 HS HKF HKP hN
          refine hK _ _ ?_; clear hK K
          refine wpAnyIn_done (by kernel_rfl) ?_ _
          gi_wp2
          exact ⟨HKF'.out, HKP'.out, HS'.out⟩
        refine AllReadyIn.cons rfl (fun K hK => ?_) AllReadyIn.nil
        go_simp
        refine hK _ _ ?_; clear hK K
        refine wpAnyIn_ready (rs := [1]) (by kernel_rfl) (by simp) ?_
        refine AllReadyIn.cons rfl (fun K hK => ?_) AllReadyIn.nil
        go_simp
        refine hK _ _ ?_; clear hK K
        refine wpAnyIn_ready (rs := [2]) (by kernel_rfl) (by simp) ?_
        refine AllReadyIn.cons rfl (fun K hK => ?_) AllReadyIn.nil
        go_simp
        refine hK _ _ ?_; clear hK K
        refine wpAnyIn_ready (rs := [3]) (by kernel_rfl) (by simp) ?_
        refine AllReadyIn.cons rfl (fun K hK => ?_) AllReadyIn.nil
        go_simp
        refine hK _ _ ?_; clear hK K
        refine wpAnyIn_ready (rs := [6]) (by kernel_rfl) (by simp) ?_
        refine AllReadyIn.cons rfl (fun K hK => ?_) AllReadyIn.nil
        go_simp
        refine ⟨trivial, ?_⟩
        gi_at_call 30
        refine (CallsIn.inRound l ((callsIn_wide (n := 10 - 1 - 1 - 1)).2 HP.out)).mono ?_
        rintro e W1 ⟨rfl, hN⟩
        obtain ⟨b2, HS, HKF, HKP⟩ := Qu.SI.round HI.out p H1.out H2.out H3'.out x hb (hN.before HD.out)
        have c8 : W1.cell? ⟨w.heap.size + 1, 0, none⟩ = some (.int .i64 (pre.length : Int)) := b2.cell 0
        have f8 := b2.free 0
        have HS' := Lib.hid HS
        have HKF' := Lib.hid HKF
        have HKP' := Lib.hid (HKP (fun i => OwnQ bw vw i ∨ i = w.heap.size + 1 + 1) (fun i hi => hi.imp id (fun e => ⟨by omega, by omega, fun e2 => by have := (p.l1 i e2).1; have := hlt3 i e2; omega⟩)))
        clear b2 HS HKF HKP hN
        refine hK _ _ ?_; clear hK K
        refine wpAnyIn_done (by kernel_rfl) ?_ _
        gi_wp2
        exact ⟨HKF'.out, HKP'.out, HS'.out⟩
      refine AllReadyIn.cons rfl (fun K hK => ?_) AllReadyIn.nil
      go_simp
      refine hK _ _ ?_; clear hK K
      refine wpAnyIn_ready (rs := [0, 5]) (by kernel_rfl) (by simp) ?_
      refine AllReadyIn.cons rfl (fun K hK => ?_) ?_
      · skip
        go_simp
        refine hK _ _ ?_; clear hK K
        refine wpAnyIn_ready (rs := [1, 5]) (by kernel_rfl) (by simp) ?_
        refine AllReadyIn.cons rfl (fun K hK => ?_) ?_
        · skip
          go_simp
          refine hK _ _ ?_; clear hK K
          refine wpAnyIn_ready (rs := [2, 5]) (by kernel_rfl) (by simp) ?_
          refine AllReadyIn.cons rfl (fun K hK => ?_) ?_
          · skip
            go_simp
            refine hK _ _ ?_; clear hK K
            refine wpAnyIn_ready (rs := [3, 5]) (by kernel_rfl) (by simp) ?_
            refine AllReadyIn.cons rfl (fun K hK => ?_) ?_
            · skip
              go_simp
              refine hK _ _ ?_; clear hK K
              refine wpAnyIn_ready (rs := [5]) (by kernel_rfl) (by simp) ?_
              refine AllReadyIn.cons rfl (fun K hK => ?_) AllReadyIn.nil
              go_simp
              refine hK _ _ ?_; clear hK K
              refine wpAnyIn_ready (rs := [6]) (by kernel_rfl) (by simp) ?_
              refine AllReadyIn.cons rfl (fun K hK => ?_) AllReadyIn.nil
              go_simp
              refine ⟨trivial, ?_⟩
              gi_at_call 30
              refine (CallsIn.inRound l ((callsIn_wide (n := 10 - 1 - 1 - 1)).2 HP.out)).mono ?_
              rintro e W1 ⟨rfl, hN⟩
              obtain ⟨b2, HS, HKF, HKP⟩ := Qu.SI.round HI.out p H1.out H2.out H3'.out x hb (hN.before HD.out)
              have c8 : W1.cell? ⟨w.heap.size + 1, 0, none⟩ = some (.int .i64 (pre.length : Int)) := b2.cell 0
              have f8 := b2.free 0
              have HS' := Lib.hid HS
              have HKF' := Lib.hid HKF
              have HKP' := Lib.hid (HKP (fun i => OwnQ bw vw i ∨ i = w.heap.size + 1 + 1) (fun i hi => hi.imp id (fun e => ⟨by omega, by omega, fun e2 => by have := (p.l1 i e2).1; have := hlt3 i e2; omega⟩)))
              clear b2 HS HKF HKP hN
              refine hK _ _ ?_; clear hK K
              refine wpAnyIn_done (by kernel_rfl) ?_ _
              gi_wp2
              exact ⟨HKF'.out, HKP'.out, HS'.out⟩
            refine AllReadyIn.cons rfl (fun K hK => ?_) AllReadyIn.nil
            go_simp
            refine hK _ _ ?_; clear hK K
            refine wpAnyIn_ready (rs := [3]) (by kernel_rfl) (by simp) ?_
            refine AllReadyIn.cons rfl (fun K hK => ?_) AllReadyIn.nil
            go_simp
            refine hK _ _ ?_; clear hK K
            refine wpAnyIn_ready (rs := [6]) (by kernel_rfl) (by simp) ?_
            refine AllReadyIn.cons rfl (fun K hK => ?_) AllReadyIn.nil
            go_simp
            refine ⟨trivial, ?_⟩
            gi_at_call 30
            refine (CallsIn.inRound l ((callsIn_wide (n := 10 - 1 - 1 - 1)).2 HP.out)).mono ?_
            rintro e W1 ⟨rfl, hN⟩
            obtain ⟨b2, HS, HKF, HKP⟩ := Qu.SI.round HI.out p H1.out H2.out H3'.out x hb (hN.before HD.out)
            have c8 : W1.cell? ⟨w.heap.size + 1, 0, none⟩ = some (.int .i64 (pre.length : Int)) := b2.cell 0
            have f8 := b2.free 0
            have HS' := Lib.hid HS
            have HKF' := Lib.hid HKF
            have HKP' := Lib.hid (HKP (fun i => OwnQ bw vw i ∨ i = w.heap.size + 1 + 1) (fun i hi => hi.imp id (fun e => ⟨by omega, by omega, fun e2 => by have := (p.l1 i e2).1; have := hlt3 i e2; omega⟩)))
            clear b2 HS HKF HKP hN
            refine hK _ _ ?_; clear hK K
            refine wpAnyIn_done (by kernel_rfl) ?_ _
            gi_wp2
            exact ⟨HKF'.out, HKP'.out, HS'.out⟩
          refine AllReadyIn.cons rfl (fun K hK => ?_) AllReadyIn.nil
          go_simp
          refine hK _ _ ?_; clear hK K
          refine wpAnyIn_ready (rs := [2]) (by kernel_rfl) (by simp) ?_
          refine AllReadyIn.cons rfl (fun K hK => ?_) AllReadyIn.nil
          go_simp
          refine hK _ _ ?_; clear hK K
          refine wpAnyIn_ready (rs := [3]) (by kernel_rfl) (by simp) ?_
          refine AllReadyIn.cons rfl (fun K hK => ?_) AllReadyIn.nil
          go_simp
          refine hK _ _ ?_; clear hK K
          refine wpAnyIn_ready (rs := [6]) (by kernel_rfl) (by simp) ?_
          refine AllReadyIn.cons rfl (fun K hK => ?_) AllReadyIn.nil
          go_simp
          refine ⟨trivial, ?_⟩
          gi_at_call 30
          refine (CallsIn.inRound l ((callsIn_wide (n := 10 - 1 - 1 - 1)).2 HP.out)).mono ?_
          rintro e W1 ⟨rfl, hN⟩
          obtain ⟨b2, HS, HKF, HKP⟩ := Qu.SI.round HI.out p H1.out H2.out H3'.out x hb (hN.before HD.out)
          have c8 : W1.cell? ⟨w.heap.size + 1, 0, none⟩ = some (.int .i64 (pre.length : Int)) := b2.cell 0
          have f8 := b2.free 0
          have HS' := Lib.hid HS
          have HKF' := Lib.hid HKF
          have HKP' := Lib.hid (HKP (fun i => OwnQ bw vw i ∨ i = w.heap.size + 1 + 1) (fun i hi => hi.imp id (fun e => ⟨by omega, by omega, fun e2 => by have := (p.l1 i e2).1; have := hlt3 i e2; omega⟩)))
          clear b2 HS HKF HKP hN
          refine hK _ _ ?_; clear hK K
          refine wpAnyIn_done (by kernel_rfl) ?_ _
          gi_wp2
          exact ⟨HKF'.out, HKP'.out, HS'.out⟩
        refine AllReadyIn.cons rfl (fun K hK => ?_) AllReadyIn.nil
        go_simp
        refine hK _ _ ?_; clear hK K
        refine wpAnyIn_ready (rs := [1]) (by kernel_rfl) (by simp) ?_
        refine AllReadyIn.cons rfl (fun K hK => ?_) AllReadyIn.nil
        go_simp
        refine hK _ _ ?_; clear hK K
        refine wpAnyIn_ready (rs := [2]) (by kernel_rfl) (by simp) ?_
        refine AllReadyIn.cons rfl (fun K hK => ?_) AllReadyIn.nil
        go_simp
        refine hK _ _ ?_; clear hK K
        refine wpAnyIn_ready (rs := [3]) (by kernel_rfl) (by simp) ?_
        refine AllReadyIn.cons rfl (fun K hK => ?_) AllReadyIn.nil
        go_simp
        refine hK _ _ ?_; clear hK K
        refine wpAnyIn_ready (rs := [6]) (by kernel_rfl) (by simp) ?_
        refine AllReadyIn.cons rfl (fun K hK => ?_) AllReadyIn.nil
        go_simp
        refine ⟨trivial, ?_⟩
        gi_at_call 30
        refine (CallsIn.inRound l ((callsIn_wide (n := 10 - 1 - 1 - 1)).2 HP.out)).mono ?_
        rintro e W1 ⟨rfl, hN⟩
        obtain ⟨b2, HS, HKF, HKP⟩ := Qu.SI.round HI.out p H1.out H2.out H3'.out x hb (hN.before HD.out)
        have c8 : W1.cell? ⟨w.heap.size + 1, 0, none⟩ = some (.int .i64 (pre.length : Int)) := b2.cell 0
        have f8 := b2.free 0
        have HS' := Lib.hid HS
        have HKF' := Lib.hid HKF
        have HKP' := Lib.hid (HKP (fun i => OwnQ bw vw i ∨ i = w.heap.size + 1 + 1) (fun i hi => hi.imp id (fun e => ⟨by omega, by omega, fun e2 => by have := (p.l1 i e2).1; have := hlt3 i e2; omega⟩)))
        clear b2 HS HKF HKP hN
        refine hK _ _ ?_; clear hK K
        refine wpAnyIn_done (by kernel_rfl) ?_ _
        gi_wp2
        exact ⟨HKF'.out, HKP'.out, HS'.out⟩
      refine AllReadyIn.cons rfl (fun K hK => ?_) AllReadyIn.nil
      go_simp
      refine hK _ _ ?_; clear hK K
      refine wpAnyIn_ready (rs := [0]) (by kernel_rfl) (by simp) ?_
      refine AllReadyIn.cons rfl (fun K hK => ?_) AllReadyIn.nil
      go_simp
      refine hK _ _ ?_; clear hK K
      refine wpAnyIn_ready (rs := [1]) (by kernel_rfl) (by simp) ?_
      refine AllReadyIn.cons rfl (fun K hK => ?_) AllReadyIn.nil
      go_simp
      refine hK _ _ ?_; clear hK K
      refine wpAnyIn_ready (rs := [2]) (by kernel_rfl) (by simp) ?_
      refine AllReadyIn.cons rfl (fun K hK => ?_) AllReadyIn.nil
      go_simp
      refine hK _ _ ?_; clear hK K
      refine wpAnyIn_ready (rs := [3]) (by kernel_rfl) (by simp) ?_
      refine AllReadyIn.cons rfl (fun K hK => ?_) AllReadyIn.nil
      go_simp
      refine hK _ _ ?_; clear hK K
      refine wpAnyIn_ready (rs := [6]) (by kernel_rfl) (by simp) ?_
      refine AllReadyIn.cons rfl (fun K hK => ?_) AllReadyIn.nil
      go_simp
      refine ⟨trivial, ?_⟩
      gi_at_call 30
      refine (CallsIn.inRound l ((callsIn_wide (n := 10 - 1 - 1 - 1)).2 HP.out)).mono ?_
      rintro e W1 ⟨rfl, hN⟩
      obtain ⟨b2, HS, HKF, HKP⟩ := Qu.SI.round HI.out p H1.out H2.out H3'.out x hb (hN.before HD.out)
      have c8 : W1.cell? ⟨w.heap.size + 1, 0, none⟩ = some (.int .i64 (pre.length : Int)) := b2.cell 0
      have f8 := b2.free 0
      have HS' := Lib.hid HS
      have HKF' := Lib.hid HKF
      have HKP' := Lib.hid (HKP (fun i => OwnQ bw vw i ∨ i = w.heap.size + 1 + 1) (fun i hi => hi.imp id (fun e => ⟨by omega, by omega, fun e2 => by have := (p.l1 i e2).1; have := hlt3 i e2; omega⟩)))
      clear b2 HS HKF HKP hN
      refine hK _ _ ?_; clear hK K
      refine wpAnyIn_done (by kernel_rfl) ?_ _
      gi_wp2
      exact ⟨HKF'.out, HKP'.out, HS'.out⟩
    · rw [hb] at x6
      gi_wp2
      exact ⟨KeepsFrom.refl _ _, rfl, pre, x, rfl, hb, hI⟩
  case done =>
    rintro Db xs W hDb rfl hI hK
    obtain ⟨kk, ek⟩ : ∃ kk, kk = L.length := ⟨_, rfl⟩
    have hkk : kk ≤ L.length := by omega
    have hend : kk = L.length ∨ ∃ x, L[kk]? = some x ∧ x.bad = false := .inl ek
    rw [← ek] at hI
    clear ek
    have hlen : (Qu.placed L kk).length = kk := Qu.placed_length L kk
    have b2 := hI.b2
    rw [hlen] at b2
    have y1 : W.cell? ⟨w.heap.size, 0, none⟩ = some (.pointer (some ⟨q, 0, none⟩)) := hI.b1.cell 0
    have y2 : W.cell? ⟨q, 0, none⟩ = some (.pointer (some ⟨bw, 0, none⟩)) := hI.bk.cell 0
    have y3 : W.cell? ⟨w.heap.size + 1, 0, none⟩ = some (.int .i64 (kk : Int)) := b2.cell 0
    have hd : W.grownBy W.drew none := only_drewN (only_refl _ none) 1
    have hq := (H3.wq.keeps hI.ks (fun i hi e => e.elim (h.j3 i hi) (fun e => by have := (p.l2 i hi).2.2.1; omega))).grown hd
    have HT := Lib.hid (Qu.take_any kk hq hkk (by omega))
    have HI := Lib.hid hI
    have HB2 := Lib.hid b2
    have HD := Lib.hid hd
    have HKD := Lib.hid hK
    clear b2 hd hq hI hK
    gi_wp2
    refine wpIn_region_any (by kernel_rfl) ?_
    change wpAnyIn _ _ _ _ _ _ _ _ _ (World.drew _)
    refine wpAnyIn_ready (rs := [0, 4]) (by kernel_rfl) (by simp) ?_
    refine AllReadyIn.cons rfl (fun K hK => ?_) ?_
    · skip
      go_simp
      refine hK _ _ ?_; clear hK K
      refine wpAnyIn_ready (rs := [1, 4]) (by kernel_rfl) (by simp) ?_
      refine AllReadyIn.cons rfl (fun K hK => ?_) ?_
      · skip
        go_simp
        refine hK _ _ ?_; clear hK K
        refine wpAnyIn_ready (rs := [2, 4]) (by kernel_rfl) (by simp) ?_
        refine AllReadyIn.cons rfl (fun K hK => ?_) ?_
        · skip
          go_simp
          refine hK _ _ ?_; clear hK K
          refine wpAnyIn_ready (rs := [3, 4]) (by kernel_rfl) (by simp) ?_
          refine AllReadyIn.cons rfl (fun K hK => ?_) ?_
          · skip
            go_simp
            refine hK _ _ ?_; clear hK K
            refine wpAnyIn_ready (rs := [4]) (by kernel_rfl) (by simp) ?_
            refine AllReadyIn.cons rfl (fun K hK => ?_) AllReadyIn.nil
            go_simp
            refine hK _ _ ?_; clear hK K
            refine wpAnyIn_ready (rs := [5]) (by kernel_rfl) (by simp) ?_
            refine AllReadyIn.cons rfl (fun K hK => ?_) AllReadyIn.nil
            go_simp
            refine ⟨trivial, ?_⟩
            gi_at_call 31
            refine ((callsIn_wide (n := 10 - 1)).2 HT.out).mono ?_
            rintro e W1 ⟨out, rfl, hN⟩
            have hN' := hN.before HD.out
            have hk2 : Keeps (OwnQ bw vw) W W1 := by obtain ⟨_, _, k, _⟩ := hN'; exact k
            have b9 := HB2.out.keeps hk2 (fun e => (p.l2 _ e).2.2.1 rfl)
            have c9 : W1.cell? ⟨w.heap.size + 1, 0, none⟩ = some (.int .i64 (kk : Int)) := b9.cell 0
            have HD9 := Lib.hid (show W1.heap[Db]? = some (.deferred (some [])) from (hk2.2.2.2.2 Db (Array.getElem?_eq_some_iff.1 HKD.out).1 (fun e => by have := (p.l2 _ e).1; omega)).trans HKD.out)
            have HN9 := Lib.hid hN'
            clear b9 hk2 hN hN'
            refine hK _ _ ?_; clear hK K
            refine wpAnyIn_done (by kernel_rfl) ?_ _
            gi_wp2
            refine ⟨by simp, .inl ⟨_, _, rfl, run_takeDeferred HD9.out, ?_⟩⟩
            refine ⟨_, results_tmp rfl _ _ _, kk, hkk, Qu.placed_bad L kk hkk HI.out.bads, hend, rfl, ?_⟩
            exact Qu.SI.done h g3 (by omega) p HI.out hkk rfl HN9.out hDb HKD.out (grownBy_putObj' _ _ _)
          refine AllReadyIn.cons rfl (fun K hK => ?_) AllReadyIn.nil
          go_simp
          refine hK _ _ ?_; clear hK K
          refine wpAnyIn_ready (rs := [3]) (by kernel_rfl) (by simp) ?_
          refine AllReadyIn.cons rfl (fun K hK => ?_) AllReadyIn.nil
          go_simp
          refine hK _ _ ?_; clear hK K
          refine wpAnyIn_ready (rs := [5]) (by kernel_rfl) (by simp) ?_
          refine AllReadyIn.cons rfl (fun K hK => ?_) AllReadyIn.nil
          go_simp
          refine ⟨trivial, ?_⟩
          gi_at_call 31
          refine ((callsIn_wide (n := 10 - 1)).2 HT.out).mono ?_
          rintro e W1 ⟨out, rfl, hN⟩
          have hN' := hN.before HD.out
          have hk2 : Keeps (OwnQ bw vw) W W1 := by obtain ⟨_, _, k, _⟩ := hN'; exact k
          have b9 := HB2.out.keeps hk2 (fun e => (p.l2 _ e).2.2.1 rfl)
          have c9 : W1.cell? ⟨w.heap.size + 1, 0, none⟩ = some (.int .i64 (kk : Int)) := b9.cell 0
          have HD9 := Lib.hid (show W1.heap[Db]? = some (.deferred (some [])) from (hk2.2.2.2.2 Db (Array.getElem?_eq_some_iff.1 HKD.out).1 (fun e => by have := (p.l2 _ e).1; omega)).trans HKD.out)
          have HN9 := Lib.hid hN'
          clear b9 hk2 hN hN'
          refine hK _ _ ?_; clear hK K
          refine wpAnyIn_done (by kernel_rfl) ?_ _
          gi_wp2
          refine ⟨by simp, .inl ⟨_, _, rfl, run_takeDeferred HD9.out, ?_⟩⟩
          refine ⟨_, results_tmp rfl _ _ _, kk, hkk, Qu.placed_bad L kk hkk HI.out.bads, hend, rfl, ?_⟩
          exact Qu.SI.done h g3 (by omega) p HI.out hkk rfl HN9.out hDb HKD.out (grownBy_putObj' _ _ _)
        refine AllReadyIn.cons rfl (fun K hK => ?_) AllReadyIn.nil
        go_simp
        refine hK _ _ ?_; clear hK K
        refine wpAnyIn_ready (rs := [2]) (by kernel_rfl) (by simp) ?_
        refine AllReadyIn.cons rfl (fun K hK => ?_) AllReadyIn.nil
        go_simp
        refine hK _ _ ?_; clear hK K
        refine wpAnyIn_ready (rs := [3]) (by kernel_rfl) (by simp) ?_
        refine AllReadyIn.cons rfl (fun K hK => ?_) AllReadyIn.nil
        go_simp
        refine hK _ _ ?_; clear hK K
        refine wpAnyIn_ready (rs := [5]) (by kernel_rfl) (by simp) ?_
        refine AllReadyIn.cons rfl (fun K hK => ?_) AllReadyIn.nil
        go_simp
        refine ⟨trivial, ?_⟩
        gi_at_call 31
        refine ((callsIn_wide (n := 10 - 1)).2 HT.out).mono ?_
        rintro e W1 ⟨out, rfl, hN⟩
        have hN' := hN.before HD.out
        have hk2 : Keeps (OwnQ bw vw) W W1 := by obtain ⟨_, _, k, _⟩ := hN'; exact k
        have b9 := HB2.out.keeps hk2 (fun e => (p.l2 _ e).2.2.1 rfl)
        have c9 : W1.cell? ⟨w.heap.size + 1, 0, none⟩ = some (.int .i64 (kk : Int)) := b9.cell 0
        have HD9 := Lib.hid (show W1.heap[Db]? = some (.deferred (some [])) from (hk2.2.2.2.2 Db (Array.getElem?_eq_some_iff.1 HKD.out).1 (fun e => by have := (p.l2 _ e).1; omega)).trans HKD.out)
        have HN9 := Lib.hid hN'
        clear b9 hk2 hN hN'
        refine hK _ _ ?_; clear hK K
        refine wpAnyIn_done (by kernel_rfl) ?_ _
        gi_wp2
        refine ⟨by simp, .inl ⟨_, _, rfl, run_takeDeferred HD9.out, ?_⟩⟩
        refine ⟨_, results_tmp rfl _ _ _, kk, hkk, Qu.placed_bad L kk hkk HI.out.bads, hend, rfl, ?_⟩
        exact Qu.SI.done h g3 (by omega) p HI.out hkk rfl HN9.out hDb HKD.out (grownBy_putObj' _ _ _)
      refine AllReadyIn.cons rfl (fun K hK => ?_) AllReadyIn.nil
      go_simp
      refine hK _ _ ?_; clear hK K
      refine wpAnyIn_ready (rs := [1]) (by kernel_rfl) (by simp) ?_
      refine AllReadyIn.cons rfl (fun K hK => ?_) AllReadyIn.nil
      go_simp
      refine hK _ _ ?_; clear hK K
      refine wpAnyIn_ready (rs := [2]) (by kernel_rfl) (by simp) ?_
      refine AllReadyIn.cons rfl (fun K hK => ?_) AllReadyIn.nil
      go_simp
      refine hK _ _ ?_; clear hK K
      refine wpAnyIn_ready (rs := [3]) (by kernel_rfl) (by simp) ?_
      refine AllReadyIn.cons rfl (fun K hK => ?_) AllReadyIn.nil
      go_simp
      refine hK _ _ ?_; clear hK K
      refine wpAnyIn_ready (rs := [5]) (by kernel_rfl) (by simp) ?_
      refine AllReadyIn.cons rfl (fun K hK => ?_) AllReadyIn.nil
      go_simp
      refine ⟨trivial, ?_⟩
      gi_at_call 31
      refine ((callsIn_wide (n := 10 - 1)).2 HT.out).mono ?_
      rintro e W1 ⟨out, rfl, hN⟩
      have hN' := hN.before HD.out
      have hk2 : Keeps (OwnQ bw vw) W W1 := by obtain ⟨_, _, k, _⟩ := hN'; exact k
      have b9 := HB2.out.keeps hk2 (fun e => (p.l2 _ e).2.2.1 rfl)
      have c9 : W1.cell? ⟨w.heap.size + 1, 0, none⟩ = some (.int .i64 (kk : Int)) := b9.cell 0
      have HD9 := Lib.hid (show W1.heap[Db]? = some (.deferred (some [])) from (hk2.2.2.2.2 Db (Array.getElem?_eq_some_iff.1 HKD.out).1 (fun e => by have := (p.l2 _ e).1; omega)).trans HKD.out)
      have HN9 := Lib.hid hN'
      clear b9 hk2 hN hN'
      refine hK _ _ ?_; clear hK K
      refine wpAnyIn_done (by kernel_rfl) ?_ _
      gi_wp2
      refine ⟨by simp, .inl ⟨_, _, rfl, run_takeDeferred HD9.out, ?_⟩⟩
      refine ⟨_, results_tmp rfl _ _ _, kk, hkk, Qu.placed_bad L kk hkk HI.out.bads, hend, rfl, ?_⟩
      exact Qu.SI.done h g3 (by omega) p HI.out hkk rfl HN9.out hDb HKD.out (grownBy_putObj' _ _ _)
    refine AllReadyIn.cons rfl (fun K hK => ?_) AllReadyIn.nil
    go_simp
    refine hK _ _ ?_; clear hK K
    refine wpAnyIn_ready (rs := [0]) (by kernel_rfl) (by simp) ?_
    refine AllReadyIn.cons rfl (fun K hK => ?_) AllReadyIn.nil
    go_simp
    refine hK _ _ ?_; clear hK K
    refine wpAnyIn_ready (rs := [1]) (by kernel_rfl) (by simp) ?_
    refine AllReadyIn.cons rfl (fun K hK => ?_) AllReadyIn.nil
    go_simp
    refine hK _ _ ?_; clear hK K
    refine wpAnyIn_ready (rs := [2]) (by kernel_rfl) (by simp) ?_
    refine AllReadyIn.cons rfl (fun K hK => ?_) AllReadyIn.nil
    go_simp
    refine hK _ _ ?_; clear hK K
    refine wpAnyIn_ready (rs := [3]) (by kernel_rfl) (by simp) ?_
    refine AllReadyIn.cons rfl (fun K hK => ?_) AllReadyIn.nil
    go_simp
    refine hK _ _ ?_; clear hK K
    refine wpAnyIn_ready (rs := [5]) (by kernel_rfl) (by simp) ?_
    refine AllReadyIn.cons rfl (fun K hK => ?_) AllReadyIn.nil
    go_simp
    refine ⟨trivial, ?_⟩
    gi_at_call 31
    refine ((callsIn_wide (n := 10 - 1)).2 HT.out).mono ?_
    rintro e W1 ⟨out, rfl, hN⟩
    have hN' := hN.before HD.out
    have hk2 : Keeps (OwnQ bw vw) W W1 := by obtain ⟨_, _, k, _⟩ := hN'; exact k
    have b9 := HB2.out.keeps hk2 (fun e => (p.l2 _ e).2.2.1 rfl)
    have c9 : W1.cell? ⟨w.heap.size + 1, 0, none⟩ = some (.int .i64 (kk : Int)) := b9.cell 0
    have HD9 := Lib.hid (show W1.heap[Db]? = some (.deferred (some [])) from (hk2.2.2.2.2 Db (Array.getElem?_eq_some_iff.1 HKD.out).1 (fun e => by have := (p.l2 _ e).1; omega)).trans HKD.out)
    have HN9 := Lib.hid hN'
    clear b9 hk2 hN hN'
    refine hK _ _ ?_; clear hK K
    refine wpAnyIn_done (by kernel_rfl) ?_ _
    gi_wp2
    refine ⟨by simp, .inl ⟨_, _, rfl, run_takeDeferred HD9.out, ?_⟩⟩
    refine ⟨_, results_tmp rfl _ _ _, kk, hkk, Qu.placed_bad L kk hkk HI.out.bads, hend, rfl, ?_⟩
    exact Qu.SI.done h g3 (by omega) p HI.out hkk rfl HN9.out hDb HKD.out (grownBy_putObj' _ _ _)
  case stop =>
    rintro Db c pre W hDb ⟨k1, hk1, rfl⟩ ⟨rfl, pre0, x, hpx, hxb, hI⟩ hK
    obtain ⟨kk, rfl, rfl, hx⟩ : ∃ kk, k1 = kk + 1 ∧ pre0 = Qu.placed L kk ∧ x = (kk, L[kk]?.getD Qu.z) := by
      cases k1 with
      | zero => simp [Qu.placed] at hpx
      | succ kk =>
        rw [Qu.placed_succ] at hpx
        obtain ⟨e1, e2⟩ := List.append_inj' hpx rfl
        exact ⟨kk, rfl, e1.symm, (List.singleton_inj.1 e2).symm⟩
    have hkk : kk ≤ L.length := by omega
    have hend : kk = L.length ∨ ∃ x, L[kk]? = some x ∧ x.bad = false := by
      refine .inr ⟨L[kk], List.getElem?_eq_getElem (by omega), ?_⟩
      rw [hx] at hxb
      simpa [show kk < L.length by omega] using hxb
    clear hpx hxb hx
    have hlen : (Qu.placed L kk).length = kk := Qu.placed_length L kk
    have b2 := hI.b2
    rw [hlen] at b2
    have y1 : W.cell? ⟨w.heap.size, 0, none⟩ = some (.pointer (some ⟨q, 0, none⟩)) := hI.b1.cell 0
    have y2 : W.cell? ⟨q, 0, none⟩ = some (.pointer (some ⟨bw, 0, none⟩)) := hI.bk.cell 0
    have y3 : W.cell? ⟨w.heap.size + 1, 0, none⟩ = some (.int .i64 (kk : Int)) := b2.cell 0
    have hd : W.grownBy W.drew none := only_drewN (only_refl _ none) 1
    have hq := (H3.wq.keeps hI.ks (fun i hi e => e.elim (h.j3 i hi) (fun e => by have := (p.l2 i hi).2.2.1; omega))).grown hd
    have HT := Lib.hid (Qu.take_any kk hq hkk (by omega))
    have HI := Lib.hid hI
    have HB2 := Lib.hid b2
    have HD := Lib.hid hd
    have HKD := Lib.hid hK
    clear b2 hd hq hI hK
    gi_wp2
    refine wpIn_region_any (by kernel_rfl) ?_
    change wpAnyIn _ _ _ _ _ _ _ _ _ (World.drew _)
    refine wpAnyIn_ready (rs := [0, 4]) (by kernel_rfl) (by simp) ?_
    refine AllReadyIn.cons rfl (fun K hK => ?_) ?_
    · skip
      go_simp
      refine hK _ _ ?_; clear hK K
      refine wpAnyIn_ready (rs := [1, 4]) (by kernel_rfl) (by simp) ?_
      refine AllReadyIn.cons rfl (fun K hK => ?_) ?_
      · skip
        go_simp
        refine hK _ _ ?_; clear hK K
        refine wpAnyIn_ready (rs := [2, 4]) (by kernel_rfl) (by simp) ?_
        refine AllReadyIn.cons rfl (fun K hK => ?_) ?_
        · skip
          go_simp
          refine hK _ _ ?_; clear hK K
          refine wpAnyIn_ready (rs := [3, 4]) (by kernel_rfl) (by simp) ?_
          refine AllReadyIn.cons rfl (fun K hK => ?_) ?_
          · skip
            go_simp
            refine hK _ _ ?_; clear hK K
            refine wpAnyIn_ready (rs := [4]) (by kernel_rfl) (by simp) ?_
            refine AllReadyIn.cons rfl (fun K hK => ?_) AllReadyIn.nil
            go_simp
            refine hK _ _ ?_; clear hK K
            refine wpAnyIn_ready (rs := [5]) (by kernel_rfl) (by simp) ?_
            refine AllReadyIn.cons rfl (fun K hK => ?_) AllReadyIn.nil
            go_simp
            refine ⟨trivial, ?_⟩
            gi_at_call 31
            refine ((callsIn_wide (n := 10 - 1)).2 HT.out).mono ?_
            rintro e W1 ⟨out, rfl, hN⟩
            have hN' := hN.before HD.out
            have hk2 : Keeps (OwnQ bw vw) W W1 := by obtain ⟨_, _, k, _⟩ := hN'; exact k
            have b9 := HB2.out.keeps hk2 (fun e => (p.l2 _ e).2.2.1 rfl)
            have c9 : W1.cell? ⟨w.heap.size + 1, 0, none⟩ = some (.int .i64 (kk : Int)) := b9.cell 0
            have HD9 := Lib.hid (show W1.heap[Db]? = some (.deferred (some [])) from (hk2.2.2.2.2 Db (Array.getElem?_eq_some_iff.1 HKD.out).1 (fun e => by have := (p.l2 _ e).1; omega)).trans HKD.out)
            have HN9 := Lib.hid hN'
            clear b9 hk2 hN hN'
            refine hK _ _ ?_; clear hK K
            refine wpAnyIn_done (by kernel_rfl) ?_ _
            gi_wp2
            refine ⟨by simp, .inl ⟨_, _, rfl, run_takeDeferred HD9.out, ?_⟩⟩
            refine ⟨_, results_tmp rfl _ _ _, kk, hkk, Qu.placed_bad L kk hkk HI.out.bads, hend, rfl, ?_⟩
            exact Qu.SI.done h g3 (by omega) p HI.out hkk rfl HN9.out hDb HKD.out (grownBy_putObj' _ _ _)
          refine AllReadyIn.cons rfl (fun K hK => ?_) AllReadyIn.nil
          go_simp
          refine hK _ _ ?_; clear hK K
          refine wpAnyIn_ready (rs := [3]) (by kernel_rfl) (by simp) ?_
          refine AllReadyIn.cons rfl (fun K hK => ?_) AllReadyIn.nil
          go_simp
          refine hK _ _ ?_; clear hK K
          refine wpAnyIn_ready (rs := [5]) (by kernel_rfl) (by simp) ?_
          refine AllReadyIn.cons rfl (fun K hK => ?_) AllReadyIn.nil
          go_simp
          refine ⟨trivial, ?_⟩
          gi_at_call 31
          refine ((callsIn_wide (n := 10 - 1)).2 HT.out).mono ?_
          rintro e W1 ⟨out, rfl, hN⟩
          have hN' := hN.before HD.out
          have hk2 : Keeps (OwnQ bw vw) W W1 := by obtain ⟨_, _, k, _⟩ := hN'; exact k
          have b9 := HB2.out.keeps hk2 (fun e => (p.l2 _ e).2.2.1 rfl)
          have c9 : W1.cell? ⟨w.heap.size + 1, 0, none⟩ = some (.int .i64 (kk : Int)) := b9.cell 0
          have HD9 := Lib.hid (show W1.heap[Db]? = some (.deferred (some [])) from (hk2.2.2.2.2 Db (Array.getElem?_eq_some_iff.1 HKD.out).1 (fun e => by have := (p.l2 _ e).1; omega)).trans HKD.out)
          have HN9 := Lib.hid hN'
          clear b9 hk2 hN hN'
          refine hK _ _ ?_; clear hK K
          refine wpAnyIn_done (by kernel_rfl) ?_ _
          gi_wp2
          refine ⟨by simp, .inl ⟨_, _, rfl, run_takeDeferred HD9.out, ?_⟩⟩
          refine ⟨_, results_tmp rfl _ _ _, kk, hkk, Qu.placed_bad L kk hkk HI.out.bads, hend, rfl, ?_⟩
          exact Qu.SI.done h g3 (by omega) p HI.out hkk rfl HN9.out hDb HKD.out (grownBy_putObj' _ _ _)
        refine AllReadyIn.cons rfl (fun K hK => ?_) AllReadyIn.nil
        go_simp
        refine hK _ _ ?_; clear hK K
        refine wpAnyIn_ready (rs := [2]) (by kernel_rfl) (by simp) ?_
        refine AllReadyIn.cons rfl (fun K hK => ?_) AllReadyIn.nil
        go_simp
        refine hK _ _ ?_; clear hK K
        refine wpAnyIn_ready (rs := [3]) (by kernel_rfl) (by simp) ?_
        refine AllReadyIn.cons rfl (fun K hK => ?_) AllReadyIn.nil
        go_simp
        refine hK _ _ ?_; clear hK K
        refine wpAnyIn_ready (rs := [5]) (by kernel_rfl) (by simp) ?_
        refine AllReadyIn.cons rfl (fun K hK => ?_) AllReadyIn.nil
        go_simp
        refine ⟨trivial, ?_⟩
        gi_at_call 31
        refine ((callsIn_wide (n := 10 - 1)).2 HT.out).mono ?_
        rintro e W1 ⟨out, rfl, hN⟩
        have hN' := hN.before HD.out
        have hk2 : Keeps (OwnQ bw vw) W W1 := by obtain ⟨_, _, k, _⟩ := hN'; exact k
        have b9 := HB2.out.keeps hk2 (fun e => (p.l2 _ e).2.2.1 rfl)
        have c9 : W1.cell? ⟨w.heap.size + 1, 0, none⟩ = some (.int .i64 (kk : Int)) := b9.cell 0
        have HD9 := Lib.hid (show W1.heap[Db]? = some (.deferred (some [])) from (hk2.2.2.2.2 Db (Array.getElem?_eq_some_iff.1 HKD.out).1 (fun e => by have := (p.l2 _ e).1; omega)).trans HKD.out)
        have HN9 := Lib.hid hN'
        clear b9 hk2 hN hN'
        refine hK _ _ ?_; clear hK K
        refine wpAnyIn_done (by kernel_rfl) ?_ _
        gi_wp2
        refine ⟨by simp, .inl ⟨_, _, rfl, run_takeDeferred HD9.out, ?_⟩⟩
        refine ⟨_, results_tmp rfl _ _ _, kk, hkk, Qu.placed_bad L kk hkk HI.out.bads, hend, rfl, ?_⟩
        exact Qu.SI.done h g3 (by omega) p HI.out hkk rfl HN9.out hDb HKD.out (grownBy_putObj' _ _ _)
      refine AllReadyIn.cons rfl (fun K hK => ?_) AllReadyIn.nil
      go_simp
      refine hK _ _ ?_; clear hK K
      refine wpAnyIn_ready (rs := [1]) (by kernel_rfl) (by simp) ?_
      refine AllReadyIn.cons rfl (fun K hK => ?_) AllReadyIn.nil
      go_simp
      refine hK _ _ ?_; clear hK K
      refine wpAnyIn_ready (rs := [2]) (by kernel_rfl) (by simp) ?_
      refine AllReadyIn.cons rfl (fun K hK => ?_) AllReadyIn.nil
      go_simp
      refine hK _ _ ?_; clear hK K
      refine wpAnyIn_ready (rs := [3]) (by kernel_rfl) (by simp) ?_
      refine AllReadyIn.cons rfl (fun K hK => ?_) AllReadyIn.nil
      go_simp
      refine hK _ _ ?_; clear hK K
      refine wpAnyIn_ready (rs := [5]) (by kernel_rfl) (by simp) ?_
      refine AllReadyIn.cons rfl (fun K hK => ?_) AllReadyIn.nil
      go_simp
      refine ⟨trivial, ?_⟩
      gi_at_call 31
      refine ((callsIn_wide (n := 10 - 1)).2 HT.out).mono ?_
      rintro e W1 ⟨out, rfl, hN⟩
      have hN' := hN.before HD.out
      have hk2 : Keeps (OwnQ bw vw) W W1 := by obtain ⟨_, _, k, _⟩ := hN'; exact k
      have b9 := HB2.out.keeps hk2 (fun e => (p.l2 _ e).2.2.1 rfl)
      have c9 : W1.cell? ⟨w.heap.size + 1, 0, none⟩ = some (.int .i64 (kk : Int)) := b9.cell 0
      have HD9 := Lib.hid (show W1.heap[Db]? = some (.deferred (some [])) from (hk2.2.2.2.2 Db (Array.getElem?_eq_some_iff.1 HKD.out).1 (fun e => by have := (p.l2 _ e).1; omega)).trans HKD.out)
      have HN9 := Lib.hid hN'
      clear b9 hk2 hN hN'
      refine hK _ _ ?_; clear hK K
      refine wpAnyIn_done (by kernel_rfl) ?_ _
      gi_wp2
      refine ⟨by simp, .inl ⟨_, _, rfl, run_takeDeferred HD9.out, ?_⟩⟩
      refine ⟨_, results_tmp rfl _ _ _, kk, hkk, Qu.placed_bad L kk hkk HI.out.bads, hend, rfl, ?_⟩
      exact Qu.SI.done h g3 (by omega) p HI.out hkk rfl HN9.out hDb HKD.out (grownBy_putObj' _ _ _)
    refine AllReadyIn.cons rfl (fun K hK => ?_) AllReadyIn.nil
    go_simp
    refine hK _ _ ?_; clear hK K
    refine wpAnyIn_ready (rs := [0]) (by kernel_rfl) (by simp) ?_
    refine AllReadyIn.cons rfl (fun K hK => ?_) AllReadyIn.nil
    go_simp
    refine hK _ _ ?_; clear hK K
    refine wpAnyIn_ready (rs := [1]) (by kernel_rfl) (by simp) ?_
    refine AllReadyIn.cons rfl (fun K hK => ?_) AllReadyIn.nil
    go_simp
    refine hK _ _ ?_; clear hK K
    refine wpAnyIn_ready (rs := [2]) (by kernel_rfl) (by simp) ?_
    refine AllReadyIn.cons rfl (fun K hK => ?_) AllReadyIn.nil
    go_simp
    refine hK _ _ ?_; clear hK K
    refine wpAnyIn_ready (rs := [3]) (by kernel_rfl) (by simp) ?_
    refine AllReadyIn.cons rfl (fun K hK => ?_) AllReadyIn.nil
    go_simp
    refine hK _ _ ?_; clear hK K
    refine wpAnyIn_ready (rs := [5]) (by kernel_rfl) (by simp) ?_
    refine AllReadyIn.cons rfl (fun K hK => ?_) AllReadyIn.nil
    go_simp
    refine ⟨trivial, ?_⟩
    gi_at_call 31
    refine ((callsIn_wide (n := 10 - 1)).2 HT.out).mono ?_
    rintro e W1 ⟨out, rfl, hN⟩
    have hN' := hN.before HD.out
    have hk2 : Keeps (OwnQ bw vw) W W1 := by obtain ⟨_, _, k, _⟩ := hN'; exact k
    have b9 := HB2.out.keeps hk2 (fun e => (p.l2 _ e).2.2.1 rfl)
    have c9 : W1.cell? ⟨w.heap.size + 1, 0, none⟩ = some (.int .i64 (kk : Int)) := b9.cell 0
    have HD9 := Lib.hid (show W1.heap[Db]? = some (.deferred (some [])) from (hk2.2.2.2.2 Db (Array.getElem?_eq_some_iff.1 HKD.out).1 (fun e => by have := (p.l2 _ e).1; omega)).trans HKD.out)
    have HN9 := Lib.hid hN'
    clear b9 hk2 hN hN'
    refine hK _ _ ?_; clear hK K
    refine wpAnyIn_done (by kernel_rfl) ?_ _
    gi_wp2
    refine ⟨by simp, .inl ⟨_, _, rfl, run_takeDeferred HD9.out, ?_⟩⟩
    refine ⟨_, results_tmp rfl _ _ _, kk, hkk, Qu.placed_bad L kk hkk HI.out.bads, hend, rfl, ?_⟩
    exact Qu.SI.done h g3 (by omega) p HI.out hkk rfl HN9.out hDb HKD.out (grownBy_putObj' _ _ _)
end Go.Proofs.Ytkiifafocmjfkaa
