import Derived.Test.YtjhihccjhnlghaaZG23
set_option linter.all false
/- Each answer is the document's: the law. -/
namespace Go.Proofs.Ytjhihccjhnlghaa
open Go.RowKit Go.Lib Go.ChangeShapes Go.WideShapes Go.ChangeAt Go.Deep
set_option linter.unusedVariables false

/-- Deeds that came in. -/
def DedN (w : World) (A : Option Addr) (len : Nat) (D : Nat → Ded) : Prop := 0 < len → ∃ b off, A = some ⟨b, off, none⟩ ∧ b < w.heap.size ∧ ∀ i, i < len → w.cell? ⟨b, off + i * 5, none⟩ = some (.int .i64 (D i).1) ∧ w.cell? ⟨b, off + i * 5 + 1, none⟩ = some (.int .i64 (D i).2.1) ∧ w.cell? ⟨b, off + i * 5 + 2, none⟩ = some (.int .i64 (D i).2.2.1) ∧ w.cell? ⟨b, off + i * 5 + 3, none⟩ = some (.int .i64 (D i).2.2.2.1) ∧ w.cell? ⟨b, off + i * 5 + 4, none⟩ = some (.string (D i).2.2.2.2)
theorem DedN.below {w w' : World} {A : Option Addr} {len : Nat} {D : Nat → Ded} (h : DedN w A len D) (hb : Below w.heap.size w w') : DedN w' A len D := fun hp => by
  obtain ⟨b, off, e, hg, hc⟩ := h hp
  exact ⟨b, off, e, Nat.lt_of_lt_of_le hg hb.size, fun i hi => ⟨(hb.cell (p := ⟨b, _, none⟩) hg).trans (hc i hi).1, (hb.cell (p := ⟨b, _, none⟩) hg).trans (hc i hi).2.1, (hb.cell (p := ⟨b, _, none⟩) hg).trans (hc i hi).2.2.1, (hb.cell (p := ⟨b, _, none⟩) hg).trans (hc i hi).2.2.2.1, (hb.cell (p := ⟨b, _, none⟩) hg).trans (hc i hi).2.2.2.2⟩⟩
def FitD (x : Ded) : Prop := fitI x.2.1
theorem open_deds {H : Type} {enc : TypeId × Value → H} {w : World} {base : Nat} {spare : Nat → Bool} {held : Bool} {A : Option Addr} {len cap fuel : Nat} {x : DataW H × List MemPlace}
    (h : DataW.trod enc Try.prog w base spare held fuel 23 [.slice A len cap] = some x) : len ≤ cap ∧ cap ≤ 9223372036854775807 ∧ ∃ d, DedN w A len d ∧ ∀ i, i < len → FitD (d i) := by
  obtain ⟨h1, h2, h3, h4⟩ := open_structs Try.underlying23 Try.underlying34 (by kernel_rfl) (by kernel_rfl) (by decide) h
  refine ⟨h1, by unfold maxLen at h2; omega, ?_⟩
  by_cases hp : 0 < len
  · obtain ⟨b, off, hA, hb, hc⟩ := h4 hp
    have hx : ∀ i, ∃ r : Ded, i < len → (w.cell? ⟨b, off + i * 5, none⟩ = some (.int .i64 r.1) ∧ w.cell? ⟨b, off + i * 5 + 1, none⟩ = some (.int .i64 r.2.1) ∧ w.cell? ⟨b, off + i * 5 + 2, none⟩ = some (.int .i64 r.2.2.1) ∧ w.cell? ⟨b, off + i * 5 + 3, none⟩ = some (.int .i64 r.2.2.2.1) ∧ w.cell? ⟨b, off + i * 5 + 4, none⟩ = some (.string r.2.2.2.2)) ∧ FitD r := by
      intro i
      by_cases hi : i < len
      · obtain ⟨v0, n0, y0, c0, r0⟩ := hc i hi 0 _ rfl
        obtain ⟨v1, n1, y1, c1, r1⟩ := hc i hi 1 _ rfl
        obtain ⟨v2, n2, y2, c2, r2⟩ := hc i hi 2 _ rfl
        obtain ⟨v3, n3, y3, c3, r3⟩ := hc i hi 3 _ rfl
        obtain ⟨v4, n4, y4, c4, r4⟩ := hc i hi 4 _ rfl
        obtain ⟨p, e0, _, w0⟩ := DataW.trod_int Try.underlying3 r0
        obtain ⟨q, e1, _, w1⟩ := DataW.trod_int Try.underlying3 r1
        obtain ⟨s, e2, _, w2⟩ := DataW.trod_int Try.underlying3 r2
        obtain ⟨u, e3, _, w3⟩ := DataW.trod_int Try.underlying3 r3
        obtain ⟨z, e4, _, w4⟩ := DataW.trod_string Try.underlying9 r4
        injection e0 with e0 _
        injection e1 with e1 _
        injection e2 with e2 _
        injection e3 with e3 _
        injection e4 with e4 _
        subst e0 e1 e2 e3 e4
        exact ⟨(p, q, s, u, z), fun _ => ⟨⟨c0, c1, c2, c3, c4⟩, fitI_of w1⟩⟩
      · exact ⟨(0, 0, 0, 0, .empty), fun h => absurd h hi⟩
    exact ⟨fun i => Classical.choose (hx i), fun _ => ⟨b, off, hA, hb, fun i hi => (Classical.choose_spec (hx i) hi).1⟩, fun i hi => (Classical.choose_spec (hx i) hi).2⟩
  · exact ⟨fun _ => (0, 0, 0, 0, .empty), fun h => absurd h hp, fun i hi => absurd hi (by omega)⟩

theorem dv_new2 {A : Option Addr} {n cap : Nat} {d : Nat → I3} {w : World} (hst : RowsN w A n cap d) (hn : n ≤ 1000000) (he : newE d n = 0) :
    Calls Try.prog 8 #[.slice A n cap] w fun e w' => ∃ dd O, e = .returned (.tuple #[.pointer (some ⟨dd, 0, none⟩), .int .i64 0]) ∧ Dv w' dd O 0 [] n (sp0 d) ∧ (∀ i, O i → w.heap.size ≤ i) ∧ Below w.heap.size w w' ∧ ∀ i, i < n → 0 ≤ (d i).2.2 := by
  refine (new_ok hst hn he).mono fun e w' ⟨dd, m, G, h1, h0, h6⟩ => ⟨dd, _, h1, ⟨m, _, G, h0.1, ?_, rfl⟩, h0.2.2.2, h6, fun i hi => ?_⟩
  · obtain ⟨h2, h3, h4, h5⟩ := h0
    have hm : G.map Gp.sp = (G.map Gp.pub).map fun r => (r.1, r.2.1, r.2.2.toNat, [], 0) := by
      rw [List.map_map]
      refine List.map_congr_left fun g hg => ?_
      obtain ⟨q1, q2⟩ := h4 g hg
      simp [Gp.sp, Gp.pub, q1, q2]
    rw [hm, h3]
    unfold rwN
    rw [List.map_map]
    rfl
  · obtain ⟨_, g, _, _, _, _, q, _⟩ := h0.seat hi
    omega
theorem new_bad {A : Option Addr} {n cap : Nat} {d : Nat → I3} {w : World} (hst : RowsN w A n cap d) (hn : n ≤ 1000000) (he : newE d n ≠ 0) :
    Calls Try.prog 8 #[.slice A n cap] w fun e w' => e = .returned (.tuple #[.pointer none, .int .i64 (newE d n)]) ∧ Below w.heap.size w w' := by
  refine (nnew_any A n cap d w hst hn).mono fun e w' ⟨h1, h2⟩ => ?_
  rcases h2 with ⟨q, _⟩ | ⟨_, q⟩
  · exact absurd q he
  · exact ⟨q, h1⟩
/-- A device just made, and the document's ports just laid. -/
theorem Bo.new {w0 w1 w2 : World} {A : Option Addr} {n c : Nat} {d : Nat → I3} {dd : Nat} {O : Nat → Prop} (h : OwnRP w1 w0.heap.size (.slice A n c) n (frp d)) (hd : Dv w2 dd O 0 [] n (sp0 d)) (ho : ∀ i, O i → w1.heap.size ≤ i) (hb : Below w1.heap.size w1 w2) (hl : ∀ i, i < n → 0 ≤ (d i).2.2) (hs : w0.heap.size ≤ w1.heap.size) :
    ∃ F : FF, Bo w2 F d n dd A 0 [] 0 O (sp0 d) (frp d) ∧ ∀ i, F.1 i → w0.heap.size ≤ i := by
  have hA : ∀ i, A = some ⟨i, 0, none⟩ → w0.heap.size ≤ i ∧ i < w1.heap.size := fun i hi => by
    have := World.ownsRow.lt h i (by rw [hi]; rfl)
    exact this
  have hD : ∀ i, DcO A n (frp d) i → w0.heap.size ≤ i ∧ i < w1.heap.size := by
    rintro i (⟨_, q⟩ | ⟨k, hk, q⟩)
    · exact hA i q
    · simp [frp, Value.ownBlock] at q
  have hDc : Dc w1 A n (frp d) := fun hp => by
    rcases h.2 with ⟨e, h0⟩ | ⟨g, cap, cur, e, hB, hg, hcap, hm, hc, hp'⟩
    · exact absurd hp (by omega)
    · injection e with e1 e2 e3
      subst e1
      have h' : w1.ownsRow w0.heap.size 52 5 (.slice (some ⟨g, 0, none⟩) n c) n (rpCells n (frp d)) := h
      refine ⟨g, cur, rfl, hg, by rw [hc]; exact Nat.mul_le_mul_right 5 hcap, fun j u hu => ?_⟩
      have hj := (List.getElem?_eq_some_iff.1 hu).1
      rw [rpCells_len] at hj
      have := h'.cellAt j hj
      have hb' : Blk w1 g 52 cur := hg
      rw [hb'.cell] at this
      rw [this, hu]
  refine ⟨(fun i => O i ∨ DcO A n (frp d) i, fun i => O i ∨ (0 < n ∧ A = some ⟨i, 0, none⟩)), ⟨hd, fun hp => (hDc.keeps (Keeps.of_below hb (fun _ => False)) fun _ _ h => h) hp, fun k hk => ⟨RowZ.nil 3 _, rfl, rfl, ?_, rfl⟩, Lk.new d n, Sm.new d n, Nat.le_refl _, fun i hi hi' => ?_, fun k g hk hg e => ?_, fun i => Iff.rfl, fun i => Iff.rfl⟩, fun i hi => ?_⟩
  · have := hl k hk
    simp only [frp, sp0]
    omega
  · have := hD i hi
    have := ho i hi'
    omega
  · simp [frp, Value.ownBlock] at e
  · rcases hi with hi | hi
    · exact Nat.le_trans hs (ho i hi)
    · exact (hD i hi).1
end Go.Proofs.Ytjhihccjhnlghaa

/- Each answer is the document's: the law, walked. -/
namespace Go.Proofs.Ytjhihccjhnlghaa
open Go.RowKit Go.Lib
set_option linter.unusedVariables false

set_option maxRecDepth 20000 in
set_option maxHeartbeats 3200000 in
theorem nplays_off (A : Option Addr) (len cap n : Nat) (d : Nat → I3) (At : Option Addr) (lt ct : Nat) (w : World) (hst : RowsN w A len cap d) (hlc : len ≤ cap) (hcm : cap ≤ 9223372036854775807) (hn : n = min len 8) (hoff : newE d n ≠ 0) :
    Calls Try.prog 3 #[.slice A len cap, .slice At lt ct] w (BackV w) := by
  have HP := Lib.hid (ports_any A len cap d w hst hlc hcm)
  rw [← hn] at HP
  have hn8 : n ≤ 8 := by omega
  have HST := Lib.hid (fun (W : World) (hb : Below w.heap.size w W) => (hst.cut n (by omega)).below hb)
  have HN := Lib.hid (fun (W : World) (h : RowsN W A n cap d) => new_bad h (by omega) hoff)
  have HK := Lib.hid (fun (A2 : Option Addr) (c2 : Nat) (W : World) (h : PortsV W A2 n (frp d)) => show Calls Try.prog 9 #[.slice A2 n c2] W (fun e w' => e = .returned (.int .i64 (newE d n)) ∧ Below W.heap.size W w') from rcheck_any A2 n c2 d W h (by omega))
  have HL := Lib.hid (fun W => nlive_any W)
  generalize newE d n = c at HK HN hoff
  have h1' : (c != 0) = true := by simpa using hoff
  clear hst hn hn8 hlc hcm hoff
  go_enter Try.func3, Try.ntmps3
  go_wp2_with (first
    | (go_at_call 7; have HH := HP.out; unfold PortsR at HH; refine HH.mono ?_; clear HH; rintro e w1 ⟨A2, c2, rfl, o1, b1⟩; have P1 := Lib.hid o1.ports; have B1 := Lib.hid b1; clear o1 b1)
    | (go_at_call 8; have HH := HN.out _ (HST.out _ B1.out); refine HH.mono ?_; clear HH; rintro e w2 ⟨rfl, b2⟩; have P2 := Lib.hid (P1.out.below b2); have B2 := Lib.hid (B1.out.trans (b2.mono B1.out.size)); clear b2)
    | (go_at_call 9; (with_reducible refine (HK.out _ _ _ P2.out).mono ?_); rintro e w4 ⟨rfl, b4⟩; have B4 := Lib.hid (B2.out.trans (b4.mono B2.out.size)); clear b4)
    | (go_at_call 10; (with_reducible refine (HL.out _).mono ?_); rintro e w5 ⟨rfl, b5⟩; have B5 := Lib.hid (B4.out.trans (b5.mono B4.out.size)); clear b5))
  go_ret
  exact ⟨by simp, B5.out⟩

/-- The device and the document's ports, above B. -/
def Up (w : World) (B : Nat) (d : Nat → I3) (n dd : Nat) (A : Option Addr) (odd : Int) (c : Nat) : Prop := ∃ (F : FF) (S : List Frm) (O : Nat → Prop) (P : Nat → Sp) (R : Nat → Rp), Bo w F d n dd A odd S c O P R ∧ ∀ i, F.1 i → B ≤ i
section
variable {w w' : World} {B : Nat} {d : Nat → I3} {n dd : Nat} {A : Option Addr} {odd : Int} {c : Nat}
theorem Up.below (h : Up w B d n dd A odd c) (hb : Below w.heap.size w w') : Up w' B d n dd A odd c := by
  obtain ⟨F, S, O, P, R, h1, h2⟩ := h
  exact ⟨F, S, O, P, R, h1.below hb, h2⟩
theorem Up.size (h : Up w B d n dd A odd c) : B ≤ w.heap.size := by
  obtain ⟨F, S, O, P, R, h1, h2⟩ := h
  have := h1.1.self
  have h3 := (h1.2.2.2.2.2.2.2.2.1 dd).2 (.inl this)
  have := h2 _ h3
  have := h1.lt _ h3
  omega
theorem Up.odds (h : Up w B d n dd A odd c) : 0 ≤ odd ∧ odd ≤ c := by
  obtain ⟨F, S, O, P, R, h1, h2⟩ := h
  exact h1.2.2.2.2.1.2
theorem Up.deed (h : Up w B d n dd A odd c) (cl : Nat) (x : Ded) (hfo : fitI x.2.1) (hs : x.2.2.2.2.size ≤ 200) (hc : c ≤ 900) (hn : n ≤ 1000) :
    Calls Try.prog 12 #[.pointer (some ⟨dd, 0, none⟩), .slice A n cl, ddv x] w fun e w' => e = .returned (.bool true) ∧ Up w' B d n dd A (stO d n x odd) (c + 1) ∧ Below B w w' := by
  have hB := h.size
  obtain ⟨F, S, O, P, R, h1, h2⟩ := h
  refine (deed_any h1 cl x hfo hs hc hn).mono fun e w' ⟨e1, S', F', O', P', R', k1, k2, k3, _⟩ => ⟨e1, ⟨F', S', O', P', R', k1, fun i hi => ?_⟩, k2.below hB fun i hi hi' => ?_⟩
  · rcases k3 i hi with q | q
    · exact h2 i q
    · omega
  · have := h2 i (h1.sub i hi')
    omega
theorem Up.told (h : Up w B d n dd A odd c) (cl : Nat) (hn : n ≤ 1000) : Calls Try.prog 13 #[.pointer (some ⟨dd, 0, none⟩), .slice A n cl] w fun e w' => e = .returned (.bool true) ∧ Below w.heap.size w w' := by
  obtain ⟨F, S, O, P, R, h1, h2⟩ := h
  exact told_any h1 cl hn
theorem Up.oddc (h : Up w B d n dd A odd c) : Calls Try.prog 14 #[.pointer (some ⟨dd, 0, none⟩)] w fun e w' => e = .returned (.int .i64 odd) ∧ w = w' := by
  obtain ⟨F, S, O, P, R, h1, h2⟩ := h
  exact dv_odd h1.1
theorem Up.for (h : Up w B d n dd A odd c) (cl : Nat) (s : ByteArray) (hs : s.size ≤ 1000) (hn : n ≤ 1000) : Calls Try.prog 11 #[.slice A n cl, .string s] w fun e w' => e = .returned (.int .i64 (jZ (jfor (fun i => (d i).2.1) n s))) ∧ Below w.heap.size w w' := by
  obtain ⟨F, S, O, P, R, h1, h2⟩ := h
  exact bo_for h1 cl s hs hn
end

set_option maxRecDepth 20000 in
set_option maxHeartbeats 6400000 in
theorem nplays_on (A : Option Addr) (len cap n : Nat) (d : Nat → I3) (At : Option Addr) (lt ct : Nat) (D : Nat → Ded) (w : World) (hst : RowsN w A len cap d) (hlc : len ≤ cap) (hcm : cap ≤ 9223372036854775807) (hn : n = min len 8) (he : newE d n = 0)
    (hD : DedN w At lt D) (hfD : ∀ i, i < lt → FitD (D i)) (hlt : lt ≤ 9223372036854775807) :
    Calls Try.prog 3 #[.slice A len cap, .slice At lt ct] w (BackV w) := by
  have HP := Lib.hid (ports_any A len cap d w hst hlc hcm)
  rw [← hn] at HP
  have hn8 : n ≤ 8 := by omega
  have HST := Lib.hid (fun (W : World) (hb : Below w.heap.size w W) => (hst.cut n (by omega)).below hb)
  have HD := Lib.hid hD
  have HFD := Lib.hid hfD
  have HN := Lib.hid (fun (W : World) (h : RowsN W A n cap d) => dv_new2 h (by omega) he)
  have HK := Lib.hid (fun (A2 : Option Addr) (c2 : Nat) (W : World) (h : PortsV W A2 n (frp d)) => show Calls Try.prog 9 #[.slice A2 n c2] W (fun e w' => e = .returned (.int .i64 (newE d n)) ∧ Below W.heap.size W w') from rcheck_any A2 n c2 d W h (by omega))
  have HL := Lib.hid (fun W => nlive_any W)
  rw [he] at HK
  clear hst hn hlc hcm hD hfD he
  go_enter Try.func3, Try.ntmps3
  go_wp2_with (first
    | (go_at_call 7; have HH := HP.out; unfold PortsR at HH; refine HH.mono ?_; clear HH; rintro e w1 ⟨A2, c2, rfl, o1, b1⟩; have O1 := Lib.hid o1; have P1 := Lib.hid o1.ports; have B1 := Lib.hid b1; clear o1 b1)
    | (go_at_call 8; have HH := HN.out _ (HST.out _ B1.out); refine HH.mono ?_; clear HH; rintro e w2 ⟨dd, O, rfl, v2, n2, b2, l2⟩; have P2 := Lib.hid (P1.out.below b2); have B2 := Lib.hid (B1.out.trans (b2.mono B1.out.size)); have U2 : Hid (Up w2 w.heap.size d n dd A2 0 0) := Lib.hid (by obtain ⟨F, q1, q2⟩ := Bo.new O1.out v2 n2 b2 l2 B1.out.size; exact ⟨F, [], O, _, _, q1, q2⟩); clear b2 v2 n2 l2)
    | (go_at_call 9; (with_reducible refine (HK.out _ _ _ P2.out).mono ?_); rintro e w4 ⟨rfl, b4⟩; have B4 := Lib.hid (B2.out.trans (b4.mono B2.out.size)); have U4 := Lib.hid (U2.out.below b4); clear b4))
  clear HP HST HN HK P1 P2 B1 B2 O1 U2
  go_loopw [9, 10] (fun y x wr => ∃ (i : Nat) (odd : Int), y = .int .i64 odd ∧ x = .int .i64 i ∧ i ≤ 40 ∧ i ≤ lt ∧ Hid (Up wr w.heap.size d n dd A2 odd i) ∧ Hid (Below w.heap.size w wr)) (fun _ x _ => 40 - (intOf x).toNat)
  case atStart => exact ⟨0, 0, rfl, rfl, by omega, by omega, U4, B4⟩
  case round =>
    obtain ⟨i, odd, rfl, rfl, hi4, hil, HU, HB⟩ := hrel
    clear U4 B4
    by_cases hgo : i < lt ∧ i < 40
    · obtain ⟨h1, h2⟩ := hgo
      obtain ⟨tb, toff, rfl, htb, htc⟩ := HD.out (by omega)
      have HT := Lib.hid (fun (W : World) (hb : Below w.heap.size w W) => (show W.cell? ⟨tb, toff + i * 5, none⟩ = some (.int .i64 (D i).1) ∧ W.cell? ⟨tb, toff + i * 5 + 1, none⟩ = some (.int .i64 (D i).2.1) ∧ W.cell? ⟨tb, toff + i * 5 + 2, none⟩ = some (.int .i64 (D i).2.2.1) ∧ W.cell? ⟨tb, toff + i * 5 + 3, none⟩ = some (.int .i64 (D i).2.2.2.1) ∧ W.cell? ⟨tb, toff + i * 5 + 4, none⟩ = some (.string (D i).2.2.2.2) from
        ⟨(hb.cell (p := ⟨tb, _, none⟩) htb).trans (htc i h1).1, (hb.cell (p := ⟨tb, _, none⟩) htb).trans (htc i h1).2.1, (hb.cell (p := ⟨tb, _, none⟩) htb).trans (htc i h1).2.2.1, (hb.cell (p := ⟨tb, _, none⟩) htb).trans (htc i h1).2.2.2.1, (hb.cell (p := ⟨tb, _, none⟩) htb).trans (htc i h1).2.2.2.2⟩))
      have hfit := HFD.out i h1
      clear htb htc
      generalize D i = x at HT hfit
      obtain ⟨x1, x2, x3, x4, x5⟩ := x
      have hfit : fitI x2 := hfit
      simp only at HT
      obtain ⟨t0, t1, t2, t3, t4⟩ := HT.out wr HB.out
      have i1 : (i : Int) < (lt : Int) := by omega
      have i2 : (i : Int) < 40 := by omega
      have hodd := HU.out.odds
      have hwrap : IntKind.i64.wrap (odd + 1) = odd + 1 := by rw [IntKind.wrap_i64]; omega
      by_cases hs : x5.size ≤ 200
      · have hs' : (x5.size : Int) ≤ 200 := by omega
        have HFS := Lib.hid (fun (W : World) (h : Up W w.heap.size d n dd A2 odd i) => h.for c2 x5 (by omega) (by omega))
        have HDS := Lib.hid (fun (W : World) (h : Up W w.heap.size d n dd A2 odd i) => (show Calls Try.prog 12 #[.pointer (some ⟨dd, 0, none⟩), .slice A2 n c2, .agg #[.int .i64 x1, .int .i64 x2, .int .i64 x3, .int .i64 x4, .string x5]] W _ from h.deed c2 (x1, x2, x3, x4, x5) hfit hs (by omega) (by omega)))
        have hst : stO d n (x1, x2, x3, x4, x5) odd = if x1 = 0 then comeO (jfor (fun i => (d i).2.1) n x5) odd else odd := rfl
        rw [hst] at HDS
        clear hst
        by_cases h0 : x1 = 0
        · subst h0
          rw [if_pos rfl] at HDS
          have hjz : ∀ j, jZ j < 0 ∧ j = none ∨ ∃ k : Nat, jZ j = k ∧ j = some k := fun j => by
            cases j with
            | none => exact .inl ⟨by simp [jZ], rfl⟩
            | some k => exact .inr ⟨k, rfl, rfl⟩
          rcases hjz (jfor (fun i => (d i).2.1) n x5) with ⟨hj, hjn⟩ | ⟨k, hj, hjn⟩
          · rw [hjn] at HDS HFS
            have HDS : Hid (∀ (W : World), Up W w.heap.size d n dd A2 odd i → Calls Try.prog 12 #[.pointer (some ⟨dd, 0, none⟩), .slice A2 n c2, .agg #[.int .i64 0, .int .i64 x2, .int .i64 x3, .int .i64 x4, .string x5]] W fun e w' => e = .returned (.bool true) ∧ Up w' w.heap.size d n dd A2 (odd + 1) (i + 1) ∧ Below w.heap.size W w') := HDS
            have HFS : Hid (∀ (W : World), Up W w.heap.size d n dd A2 odd i → Calls Try.prog 11 #[.slice A2 n c2, .string x5] W fun e w' => e = .returned (.int .i64 (-1)) ∧ Below W.heap.size W w') := HFS
            clear hj hjn
            go_wp2_with (first
              | (go_at_call 14; have HQ := U7.out.oddc; refine HQ.mono ?_; clear HQ; rintro e w8 ⟨rfl, rfl⟩)
              | (go_at_call 13; have HQ := U6.out.told c2 (by omega); refine HQ.mono ?_; clear HQ; rintro e w7 ⟨rfl, b7⟩; have U7 := Lib.hid (U6.out.below b7); have E7 := Lib.hid (E6.out.trans (b7.mono E6.out.size)); clear b7)
              | (go_at_call 12; have HQ := HDS.out _ U5.out; refine HQ.mono ?_; clear HQ; rintro e w6 ⟨rfl, u6, b6⟩; have U6 := Lib.hid u6; have E6 := Lib.hid (E5.out.trans b6); clear u6 b6)
              | (go_at_call 11; have HQ := HFS.out _ HU.out; refine HQ.mono ?_; clear HQ; rintro e w5 ⟨rfl, b5⟩; have U5 := Lib.hid (HU.out.below b5); have E5 := Lib.hid (HB.out.trans (b5.mono HB.out.size)); obtain ⟨r0, r1, r2, r3, r4⟩ := HT.out w5 E5.out; clear b5)
              )
            go_roundw
            case rel => exact ⟨i + 1, odd + 1, rfl, by go_num, by omega, by omega, U7, E7⟩
            case measure => simp [intOf] <;> omega
          · rw [hjn] at HDS HFS
            have HDS : Hid (∀ (W : World), Up W w.heap.size d n dd A2 odd i → Calls Try.prog 12 #[.pointer (some ⟨dd, 0, none⟩), .slice A2 n c2, .agg #[.int .i64 0, .int .i64 x2, .int .i64 x3, .int .i64 x4, .string x5]] W fun e w' => e = .returned (.bool true) ∧ Up w' w.heap.size d n dd A2 odd (i + 1) ∧ Below w.heap.size W w') := HDS
            have HFS : Hid (∀ (W : World), Up W w.heap.size d n dd A2 odd i → Calls Try.prog 11 #[.slice A2 n c2, .string x5] W fun e w' => e = .returned (.int .i64 (k : Int)) ∧ Below W.heap.size W w') := HFS
            have hk0 : ¬ (k : Int) < 0 := by omega
            clear hj hjn
            go_wp2_with (first
              | (go_at_call 14; have HQ := U7.out.oddc; refine HQ.mono ?_; clear HQ; rintro e w8 ⟨rfl, rfl⟩)
              | (go_at_call 13; have HQ := U6.out.told c2 (by omega); refine HQ.mono ?_; clear HQ; rintro e w7 ⟨rfl, b7⟩; have U7 := Lib.hid (U6.out.below b7); have E7 := Lib.hid (E6.out.trans (b7.mono E6.out.size)); clear b7)
              | (go_at_call 12; have HQ := HDS.out _ U5.out; refine HQ.mono ?_; clear HQ; rintro e w6 ⟨rfl, u6, b6⟩; have U6 := Lib.hid u6; have E6 := Lib.hid (E5.out.trans b6); clear u6 b6)
              | (go_at_call 11; have HQ := HFS.out _ HU.out; refine HQ.mono ?_; clear HQ; rintro e w5 ⟨rfl, b5⟩; have U5 := Lib.hid (HU.out.below b5); have E5 := Lib.hid (HB.out.trans (b5.mono HB.out.size)); obtain ⟨r0, r1, r2, r3, r4⟩ := HT.out w5 E5.out; clear b5)
              )
            go_roundw
            case rel => exact ⟨i + 1, odd, rfl, by go_num, by omega, by omega, U7, E7⟩
            case measure => simp [intOf] <;> omega
        · rw [if_neg h0] at HDS
          have h0' : (x1 == 0) = false := by simpa using h0
          go_wp2_with (first
            | (go_at_call 14; have HQ := U7.out.oddc; refine HQ.mono ?_; clear HQ; rintro e w8 ⟨rfl, rfl⟩)
            | (go_at_call 13; have HQ := U6.out.told c2 (by omega); refine HQ.mono ?_; clear HQ; rintro e w7 ⟨rfl, b7⟩; have U7 := Lib.hid (U6.out.below b7); have E7 := Lib.hid (E6.out.trans (b7.mono E6.out.size)); clear b7)
            | (go_at_call 12; have HQ := HDS.out _ HU.out; refine HQ.mono ?_; clear HQ; rintro e w6 ⟨rfl, u6, b6⟩; have U6 := Lib.hid u6; have E6 := Lib.hid (HB.out.trans b6); clear u6 b6)
            )
          go_roundw
          case rel => exact ⟨i + 1, odd, rfl, by go_num, by omega, by omega, U7, E7⟩
          case measure => simp [intOf] <;> omega
      · have hs' : ¬ (x5.size : Int) ≤ 200 := by omega
        go_wp2_with (go_at_call 10; (with_reducible refine (HL.out _).mono ?_); rintro e w7 ⟨rfl, b7⟩; have E7 := Lib.hid (HB.out.trans (b7.mono HB.out.size)); clear b7)
        go_ret
        exact ⟨rfl, E7.out⟩
    · rcases (show ¬ ((i : Int) < (lt : Int)) ∨ ((i : Int) < (lt : Int) ∧ ¬ (i : Int) < 40) by omega) with hx | ⟨hx, hx2⟩
      all_goals
        go_wp2_with (go_at_call 10; (with_reducible refine (HL.out _).mono ?_); rintro e w7 ⟨rfl, b7⟩; have E7 := Lib.hid (HB.out.trans (b7.mono HB.out.size)); clear b7)
        go_ret
        exact ⟨rfl, E7.out⟩

theorem nplays_call (A : Option Addr) (len cap : Nat) (d : Nat → I3) (At : Option Addr) (lt ct : Nat) (D : Nat → Ded) (w : World) (hst : RowsN w A len cap d) (hf : ∀ i, i < len → FitN (d i)) (hlc : len ≤ cap) (hcm : cap ≤ 9223372036854775807)
    (hD : DedN w At lt D) (hfD : ∀ i, i < lt → FitD (D i)) (hlt : lt ≤ ct) (hct : ct ≤ 9223372036854775807) :
    Calls Try.prog 3 #[.slice A len cap, .slice At lt ct] w fun e w' => e = .returned (.bool true) ∧ Below w.heap.size w w' := by
  show Calls Try.prog 3 #[.slice A len cap, .slice At lt ct] w (BackV w)
  by_cases he : newE d (min len 8) = 0
  · exact nplays_on A len cap _ d At lt ct D w hst hlc hcm rfl he hD hfD (by omega)
  · exact nplays_off A len cap _ d At lt ct w hst hlc hcm rfl he
end Go.Proofs.Ytjhihccjhnlghaa
