/- A device of package nic: the call that makes one. -/
import Derived.Test.YtjhihccjhnlghaaNP4
namespace Go.Proofs.Ytjhihccjhnlghaa
open Go.RowKit Go.Lib
set_option linter.unusedVariables false

abbrev I3 := Int × Int × Int
/-- Rows of three numbers that came in: nil, or a row of cells. -/
def RowsN (w : World) (A : Option Addr) (len cap : Nat) (d : Nat → I3) : Prop :=
  (A = none → len = 0 ∧ cap = 0) ∧ (0 < len → ∃ b off, A = some ⟨b, off, none⟩ ∧ b < w.heap.size ∧ ∀ i, i < len → w.cell? ⟨b, off + i * 3, none⟩ = some (.int .i64 (d i).1) ∧ w.cell? ⟨b, off + i * 3 + 1, none⟩ = some (.int .i64 (d i).2.1) ∧ w.cell? ⟨b, off + i * 3 + 2, none⟩ = some (.int .i64 (d i).2.2))
theorem RowsN.under {w w' : World} {B : Nat} {A : Option Addr} {len cap : Nat} {d : Nat → I3} (h : RowsN w A len cap d) (hb : Below B w w') (hB : w.heap.size ≤ B) : RowsN w' A len cap d := by
  refine ⟨h.1, fun hp => ?_⟩
  obtain ⟨b, off, h1, h2, h3⟩ := h.2 hp
  have hlB := Nat.lt_of_lt_of_le h2 hB
  refine ⟨b, off, h1, Nat.lt_of_lt_of_le h2 hb.size, fun i hi => ?_⟩
  obtain ⟨c0, c1, c2⟩ := h3 i hi
  exact ⟨(hb.cell (p := ⟨b, off + i * 3, none⟩) hlB).trans c0, (hb.cell (p := ⟨b, off + i * 3 + 1, none⟩) hlB).trans c1, (hb.cell (p := ⟨b, off + i * 3 + 2, none⟩) hlB).trans c2⟩
theorem RowsN.below {w w' : World} {A : Option Addr} {len cap : Nat} {d : Nat → I3} (h : RowsN w A len cap d) (hb : Below w.heap.size w w') : RowsN w' A len cap d := h.under hb (Nat.le_refl _)
theorem RowsN.cut {w : World} {A : Option Addr} {len cap : Nat} {d : Nat → I3} (h : RowsN w A len cap d) (m : Nat) (hm : m ≤ len) : RowsN w A m cap d := by
  refine ⟨fun hn => ⟨by have := (h.1 hn).1; omega, (h.1 hn).2⟩, fun hp => ?_⟩
  obtain ⟨b, off, h1, h2, h3⟩ := h.2 (by omega)
  exact ⟨b, off, h1, h2, fun i hi => h3 i (by omega)⟩

/-- The first k rows as a list. -/
abbrev rwN (d : Nat → I3) (k : Nat) : List I3 := (List.range k).map d
theorem rwN_succ (d : Nat → I3) (k : Nat) : rwN d (k + 1) = rwN d k ++ [d k] := by simp [rwN, List.range_succ]
/-- What is wrong with a row beside those of a list. -/
def chkR (l : List I3) (r : I3) : Int := if mayP r = false then 2 else if l.any (fun x => decide (x.1 = r.1)) then 15 else if l.any (fun x => decide (x.2.1 = r.2.1)) then 15 else 0
/-- What is wrong with the first k rows. -/
def newE (d : Nat → I3) : Nat → Int
  | 0 => 0
  | k + 1 => if newE d k = 0 then chkR (rwN d k) (d k) else newE d k
theorem newE_next {d : Nat → I3} {k : Nat} (h : newE d k = 0) : newE d (k + 1) = chkR (rwN d k) (d k) := by
  show (if newE d k = 0 then _ else _) = _
  rw [if_pos h]
theorem newE_stop {d : Nat → I3} {k : Nat} (h : newE d k ≠ 0) (j : Nat) : newE d (k + j) = newE d k := by
  induction j with
  | zero => rfl
  | succ j ih =>
    have e : newE d (k + (j + 1)) = if newE d (k + j) = 0 then chkR (rwN d (k + j)) (d (k + j)) else newE d (k + j) := rfl
    rw [e, ih, if_neg h]
theorem newE_le {d : Nat → I3} {k n : Nat} (h : newE d n = 0) (hk : k ≤ n) : newE d k = 0 := by
  rcases Decidable.em (newE d k = 0) with e | e
  · exact e
  · obtain ⟨j, rfl⟩ : ∃ j, n = k + j := ⟨n - k, by omega⟩
    rw [newE_stop e j] at h
    exact absurd h e
theorem look_row {G : List Gp} {o : Int} : (lookL (G.map Gp.row) o).isSome = (G.map Gp.pub).any fun x => decide (x.1 = o) := by
  induction G with
  | nil => rfl
  | cons g G ih =>
    unfold lookL at ih ⊢
    rw [List.map_cons, List.map_cons, List.find?_cons, List.any_cons, ← ih]
    by_cases h : g.o = o <;> simp [Gp.row, Gp.pub, h]
theorem own_row {G : List Gp} {mac : Int} (hm : ∀ g ∈ G, mayP g.pub = true) : decide (ownL (G.map Gp.row) mac ≠ 0) = (G.map Gp.pub).any fun x => decide (x.2.1 = mac) := by
  induction G with
  | nil => rfl
  | cons g G ih =>
    have h1 := ih fun x hx => hm x (List.mem_cons_of_mem _ hx)
    have h2 := mayP_iff.1 (hm g (List.mem_cons_self ..))
    unfold ownL at h1 ⊢
    rw [List.map_cons, List.map_cons, List.find?_cons, List.any_cons, ← h1]
    by_cases h : g.mac = mac
    · have : g.o ≠ 0 := by simp [Gp.pub] at h2; omega
      simp [Gp.row, Gp.pub, h, this]
    · simp [Gp.row, Gp.pub, h]
theorem chkN_row {G : List Gp} {r : I3} (hm : ∀ g ∈ G, mayP g.pub = true) : chkN (G.map Gp.row) r = chkR (G.map Gp.pub) r := by
  unfold chkN chkR
  rw [look_row, ← own_row hm]
  simp
theorem chkR_zero {l : List I3} {r : I3} (h : chkR l r = 0) : mayP r = true ∧ ∀ x ∈ l, x.1 ≠ r.1 ∧ x.2.1 ≠ r.2.1 := by
  unfold chkR at h
  cases h0 : mayP r with
  | false => rw [h0] at h; simp at h
  | true =>
    rw [h0] at h
    simp only [Bool.true_eq_false, if_false] at h
    by_cases h1 : l.any (fun x => decide (x.1 = r.1)) = true
    · rw [if_pos h1] at h; simp at h
    · rw [if_neg h1] at h
      by_cases h2 : l.any (fun x => decide (x.2.1 = r.2.1)) = true
      · rw [if_pos h2] at h; simp at h
      · refine ⟨rfl, fun x hx => ?_⟩
        simp only [List.any_eq_true, decide_eq_true_eq, not_exists, not_and] at h1 h2
        exact ⟨h1 x hx, h2 x hx⟩

/-- 'm[r.Owner] = r' as an equation, for regions that draw. -/
theorem run_put_row {w : World} {b : Nat} {L : List Pp} {p : Int} {q : Nat} {s : Int} (hmap : MapP w b L) (hk : fitI p) (hn : ∀ y ∈ L, y.1 ≠ p) (hl : L.length < maxLen) :
    ∃ w', (Instr.mapUpdate 63 (.map (some b)) (.int .i64 p) (.agg #[.pointer (some ⟨q, 0, none⟩), .int .i64 s])).run Try.prog w = .ok () w' ∧ MapP w' b (L ++ [(p, some q, s)]) ∧ w.grownBy w' (some b) := by
  obtain ⟨D, h1, h2⟩ := hmap
  obtain ⟨w', hr, h3, h4⟩ := h1.store int_keys Try.underlying63 hl (int_key hk) (ppElem_mk (some q) s)
  exact ⟨w', hr, ⟨_, by simpa using h3, h2.put (p, some q, s) hk hn⟩, h4.grown⟩

/-- What New answers. -/
def NewN (d : Nat → I3) (n : Nat) (w : World) (e : Ending) (w' : World) : Prop :=
  Below w.heap.size w w' ∧ ((newE d n = 0 ∧ ∃ (dd m : Nat) (G : List Gp), e = .returned (.tuple #[.pointer (some ⟨dd, 0, none⟩), .int .i64 0]) ∧ NicG w' dd m (.slice none 0 0) 0 [] G ∧ G.map Gp.pub = rwN d n ∧ (∀ g ∈ G, g.l = [] ∧ g.dr = 0) ∧ ∀ i, nOwn dd m (.slice none 0 0) G i → w.heap.size ≤ i) ∨ (newE d n ≠ 0 ∧ e = .returned (.tuple #[.pointer none, .int .i64 (newE d n)])))

theorem limQ_of {n : Int} (h0 : 0 ≤ n) (h1 : n ≤ 16) : ((limQ n : Nat) : Int) = n := by unfold limQ; omega
set_option maxRecDepth 20000 in
set_option maxHeartbeats 4000000 in
theorem nnew_any (A : Option Addr) (n cap : Nat) (d : Nat → I3) (w : World) (hst : RowsN w A n cap d) (hn : n ≤ 1000000) :
    Calls Try.prog 8 #[.slice A n cap] w (NewN d n w) := by
  have hmm := @run_makeMap Try.prog
  have HST := Lib.hid hst
  clear hst
  go_enter Try.func8, Try.ntmps8
  go_wp2
  have hT0 : NicG ((w.alloc (.map #[] 0)).alloc (.cells #[.map (some w.heap.size), .int .i64 0, .slice none 0 0] 65)) (w.heap.size + 1) w.heap.size (.slice none 0 0) 0 [] [] :=
    ⟨by simpa using Blk.new (w.alloc (.map #[] 0)) 65 #[.map (some w.heap.size), .int .i64 0, .slice none 0 0], (MapP.new w).alloc _, RowZ.nil 3 _, by simp, by omega, by simp [Value.ownBlock], by simp, by simp⟩
  have hB0 : Below w.heap.size w ((w.alloc (.map #[] 0)).alloc (.cells #[.map (some w.heap.size), .int .i64 0, .slice none 0 0] 65)) := ((Below.refl _ _).alloc (Nat.le_refl _) _).alloc (by simp) _
  have HT0 := Lib.hid hT0
  have HB0 := Lib.hid hB0
  clear hT0 hB0
  go_loopw [13] (fun x wr => ∃ (k : Nat) (G : List Gp), x = .int .i64 k ∧ k ≤ n ∧ Hid (newE d k = 0) ∧ NicG wr (w.heap.size + 1) w.heap.size (.slice none 0 0) 0 [] G ∧ Hid (G.map Gp.pub = rwN d k ∧ (∀ g ∈ G, g.l = [] ∧ g.dr = 0) ∧ ∀ g ∈ G, ∀ i, g.own i → w.heap.size ≤ i) ∧ Below w.heap.size w wr) (fun x _ => n - (intOf x).toNat)
  case atStart => exact ⟨0, [], rfl, by omega, Lib.hid rfl, HT0.out, Lib.hid ⟨rfl, by simp, by simp⟩, HB0.out⟩
  case round =>
    obtain ⟨k, G, rfl, hk, HC, hT, HG, hb⟩ := hrel
    have HT := Lib.hid hT
    have HB := Lib.hid hb
    clear hT hb HT0 HB0
    by_cases hkn : k < n
    · obtain ⟨b, off, rfl, hbB, hcells⟩ := HST.out.2 (by omega)
      obtain ⟨a0, a1, a2⟩ := hcells k hkn
      have d0 := (HB.out.cell (p := ⟨b, off + k * 3, none⟩) hbB).trans a0
      have d1 := (HB.out.cell (p := ⟨b, off + k * 3 + 1, none⟩) hbB).trans a1
      have d2 := (HB.out.cell (p := ⟨b, off + k * 3 + 2, none⟩) hbB).trans a2
      have hnx := newE_next HC.out
      have hrs := rwN_succ d k
      have hcr := chkN_row (G := G) (r := d k) (fun g hg => (HT.out.2.2.2.1 g hg).2)
      rw [HG.out.1] at hcr
      have hck : ∀ W, NicG W (w.heap.size + 1) w.heap.size (.slice none 0 0) 0 [] G → Calls Try.prog 24 #[.pointer (some ⟨w.heap.size + 1, 0, none⟩), .agg #[.int .i64 (d k).1, .int .i64 (d k).2.1, .int .i64 (d k).2.2]] W (CheckN (G.map Gp.row) (d k) W) := fun W h => ncheck_any (d k) h.1 h.2.1 h.owners h.macs
      have HRS := Lib.hid hrs
      have HNX := Lib.hid hnx
      have HCR := Lib.hid hcr
      have HCK := Lib.hid hck
      clear hcells a0 a1 a2 hnx hrs hck hcr
      obtain ⟨r, hr⟩ : ∃ r, r = d k := ⟨_, rfl⟩
      rw [← hr] at d0 d1 d2 HRS HNX HCR HCK
      have HR := Lib.hid hr
      clear hr
      have i1 : (k : Int) < (n : Int) := by omega
      obtain ⟨p, q, s⟩ := r
      simp only at d0 d1 d2
      by_cases hz : chkR (rwN d k) (p, q, s) = 0
      · obtain ⟨hz1, hz2⟩ := chkR_zero hz
        have hmz := mayP_iff.1 hz1
        simp only at hmz
        have hfp : fitI p := by unfold fitI; omega
        have hlq := limQ_of hmz.2.2.2.2.1 hmz.2.2.2.2.2
        have hz3 : ∀ x ∈ G, x.o ≠ p ∧ x.mac ≠ q := fun x hx => hz2 x.pub (by rw [← HG.out.1]; exact List.mem_map.2 ⟨x, hx, rfl⟩)
        have HZ1 := Lib.hid hz1
        have HZ3 := Lib.hid hz3
        have HLQ := Lib.hid hlq
        have HFP := Lib.hid hfp
        have hGl : G.length = k := by have := congrArg List.length HG.out.1; simpa using this
        have HGL := Lib.hid hGl
        have hv : CheckN (G.map Gp.row) (p, q, s) = fun W e W' => e = .returned (.int .i64 0) ∧ Below W.heap.size W W' := by unfold CheckN; rw [HCR.out, hz]
        rw [hv] at HCK
        have HZ := Lib.hid hz
        clear hz hz1 hz2 hz3 hv hlq hmz hfp hGl
        go_wp2_with (go_at_call 24; refine (HCK.out _ (HT.out.below ((Below.refl _ _).alloc (Nat.le_refl _) _))).mono ?_; rintro e w1 ⟨rfl, b1⟩; have hb1 := ((Below.refl wr.heap.size wr).alloc (Nat.le_refl _) (.cells #[.int .i64 p, .int .i64 q, .int .i64 s] 62)).trans (b1.mono (by simp)); have B1 := Lib.hid (HB.out.trans (hb1.mono HB.out.size)); have T1 := Lib.hid (HT.out.below hb1); have hblk := (Blk.new wr 62 #[.int .i64 p, .int .i64 q, .int .i64 s]).below b1 (Blk.new _ _ _).lt; have e0 := hblk.cell 0; have e1 := hblk.cell 1; have e2 := hblk.cell 2; simp at e0 e1 e2; have c0 := T1.out.1.cell 0; simp at c0; have R1 := Lib.hid hblk; clear b1 hb1 hblk)
        have S0 : Hid (∀ W, Below w1.heap.size w1 W → W.cell? ⟨w.heap.size + 1, 0, none⟩ = some (.map (some w.heap.size)) ∧ W.cell? ⟨wr.heap.size, 0, none⟩ = some (.int .i64 p) ∧ W.cell? ⟨wr.heap.size, 1, none⟩ = some (.int .i64 q) ∧ W.cell? ⟨wr.heap.size, 2, none⟩ = some (.int .i64 s)) := Lib.hid fun W hW => ⟨(T1.out.1.below hW T1.out.1.lt).cell 0, (R1.out.below hW R1.out.lt).cell 0, (R1.out.below hW R1.out.lt).cell 1, (R1.out.below hW R1.out.lt).cell 2⟩
        obtain ⟨w5, hw5⟩ : ∃ w5, w5 = w1.drew.alloc (.cells #[.slice none 0 0, .int .i64 (limQ s), .int .i64 0] 92) := ⟨_, rfl⟩
        have hq5 : Blk w5 w1.heap.size 92 #[.slice none 0 0, .int .i64 (limQ s), .int .i64 0] := by rw [hw5]; exact Blk.new w1.drew 92 _
        have hg5 : w1.grownBy w5 none := by rw [hw5]; exact only_alloc (only_drewN (only_refl w1 none) 1) _
        have HW5 := Lib.hid hw5
        obtain ⟨w2, hrun, hm2, hg2⟩ := run_put_row (q := w1.heap.size) (s := q) (T1.out.2.1.only hg5 (by simp)) HFP.out (fun y hy => by obtain ⟨x, hx, rfl⟩ := List.mem_map.1 hy; exact (HZ3.out x hx).1) (by rw [List.length_map, HGL.out]; unfold maxLen; omega)
        have hnew : NicG w2 (w.heap.size + 1) w.heap.size (.slice none 0 0) 0 [] (G ++ [⟨p, q, w1.heap.size, .slice none 0 0, [], limQ s, 0⟩]) :=
          T1.out.more ⟨p, q, w1.heap.size, .slice none 0 0, [], limQ s, 0⟩ hg5 ⟨hq5, RowZ.nil 3 _, by simp [Value.ownBlock]⟩ (by unfold Gp.pub; simp only; rw [HLQ.out]; exact HZ1.out) hg2 hm2 (fun i hi => by rcases hi with rfl | hi <;> simp_all [Value.ownBlock]) (fun x hx => HZ3.out x hx)
        have hbn : Below w.heap.size w w2 := B1.out.trans ((below_of_only hg5 B1.out.size (by simp)).trans (below_of_only hg2 (Nat.le_trans B1.out.size hg5.size) (fun k hk => by injection hk with hk; omega)))
        have hs2 : w2.cell? ⟨w.heap.size + 1, 0, none⟩ = some (.map (some w.heap.size)) ∧ w2.cell? ⟨wr.heap.size, 0, none⟩ = some (.int .i64 p) ∧ w2.cell? ⟨wr.heap.size, 1, none⟩ = some (.int .i64 q) ∧ w2.cell? ⟨wr.heap.size, 2, none⟩ = some (.int .i64 s) := by
          have hd2 := hnew.1
          have hx2 := (R1.out.only hg5 (by simp)).only hg2 (by have := HB.out.size; intro e; injection e with e; have := HT.out.lt _ (.inr (.inl rfl)); omega)
          exact ⟨hd2.cell 0, hx2.cell 0, hx2.cell 1, hx2.cell 2⟩
        have HS2 := Lib.hid hs2
        obtain ⟨s0, s1, s2, s3⟩ := S0.out _ (below_of_only hg5 (Nat.le_refl _) (by simp))
        have HNEW := Lib.hid hnew
        have HBN := Lib.hid hbn
        have HSZ := Lib.hid B1.out.size
        clear hm2 hg2 HCK hnew hbn hq5 hg5 hw5 hs2
        go_region_held3 (fun w' => w'.cell? ⟨w.heap.size + 1, 0, none⟩ = some (.map (some w.heap.size)) ∧ w'.cell? ⟨wr.heap.size, 0, none⟩ = some (.int .i64 p) ∧ w'.cell? ⟨wr.heap.size, 1, none⟩ = some (.int .i64 q) ∧ w'.cell? ⟨wr.heap.size, 2, none⟩ = some (.int .i64 s))
          (first | exact ⟨c0, e0, e1, e2⟩ | exact ⟨s0, s1, s2, s3⟩ | exact HS2.out | go_keep) (first | (go_at_call 25; with_reducible refine (fnew_any s _).mono ?_; rintro e w6 ⟨rfl, h6⟩; obtain rfl : w5 = w6 := HW5.out.trans h6; clear h6))
        all_goals
          go_wp2
          go_roundw
          case rel =>
            refine ⟨k + 1, G ++ [⟨p, q, w1.heap.size, .slice none 0 0, [], limQ s, 0⟩], by go_num, by omega, Lib.hid (by rw [HNX.out, HZ.out]), HNEW.out, Lib.hid ⟨by rw [List.map_append, HG.out.1, HRS.out]; simp [Gp.pub, HLQ.out], fun g hg => ?_, fun g hg => ?_⟩, HBN.out⟩
            · rcases List.mem_append.1 hg with hg | hg
              · exact HG.out.2.1 g hg
              · obtain rfl : g = _ := by simpa using hg
                exact ⟨rfl, rfl⟩
            · rcases List.mem_append.1 hg with hg | hg
              · exact HG.out.2.2 g hg
              · obtain rfl : g = _ := by simpa using hg
                intro i hi
                rcases hi with rfl | hi
                · exact HSZ.out
                · simp [Value.ownBlock] at hi
          case measure => simp [intOf] <;> omega
      · have hne : newE d n ≠ 0 ∧ newE d n = chkR (rwN d k) (p, q, s) := by
          have h1 : newE d (k + 1) ≠ 0 := by rw [HNX.out]; exact hz
          have h2 := newE_stop h1 (n - (k + 1))
          rw [show k + 1 + (n - (k + 1)) = n by omega] at h2
          rw [h2]
          exact ⟨h1, HNX.out⟩
        have HNE := Lib.hid hne
        obtain ⟨c, hc⟩ : ∃ c, c = chkR (rwN d k) (p, q, s) := ⟨_, rfl⟩
        have hv : CheckN (G.map Gp.row) (p, q, s) = fun W e W' => e = .returned (.int .i64 c) ∧ Below W.heap.size W W' := by unfold CheckN; rw [HCR.out, hc]
        rw [hv] at HCK
        rw [← hc] at hz
        have hz' : (c != 0) = true := by simpa using hz
        have HCC := Lib.hid hc
        clear hne hv hc hz
        go_wp2_with (go_at_call 24; refine (HCK.out _ (HT.out.below ((Below.refl _ _).alloc (Nat.le_refl _) _))).mono ?_; rintro e w1 ⟨rfl, b1⟩; have hb1 := ((Below.refl wr.heap.size wr).alloc (Nat.le_refl _) (.cells #[.int .i64 p, .int .i64 q, .int .i64 s] 62)).trans (b1.mono (by simp)); have B1 := Lib.hid (HB.out.trans (hb1.mono HB.out.size)); clear b1 hb1)
        go_ret2
        exact ⟨B1.out, .inr ⟨HNE.out.1, by rw [HNE.out.2, ← HCC.out]; rfl⟩⟩
    · obtain rfl : k = n := by omega
      go_wp2
      go_ret2
      refine ⟨HB.out, .inl ⟨HC.out, _, _, G, rfl, HT.out, HG.out.1, HG.out.2.1, ?_⟩⟩
      rintro i (rfl | rfl | hi | ⟨g, hg, hi⟩)
      · omega
      · exact Nat.le_refl _
      · simp [Value.ownBlock] at hi
      · exact HG.out.2.2 g hg i hi
end Go.Proofs.Ytjhihccjhnlghaa
