import Derived.Test.YtjhihccjhnlghaaZG05
import Derived.WalkKit
import Derived.Test.YtjhihccjhnlghaaRows
import Derived.Test.YtjhihccjhnlghaaZG01
import Derived.ProofKit
import Derived.OpenShut
import Derived.WalkLawsBesides
import Derived.WalkSpells
import Derived.BigQuiet
import Derived.Deep.QuietTactic
import Derived.Lib.BitFns
import Derived.Lib.Hide
set_option linter.all false
/- A device of package nic: the call that makes one. -/
namespace Go.Proofs.Ytjhihccjhnlghaa
open Go.RowKit Go.Lib
set_option linter.unusedVariables false

abbrev I3 := Int × Int × Int
/-- Rows of three numbers that came in: nil, or a row of cells. -/
def RowsN (w : World) (A : Option Addr) (len cap : Nat) (d : Nat → I3) : Prop :=
  (A = none → len = 0 ∧ cap = 0) ∧ (0 < len → ∃ b off, A = some ⟨b, off, none⟩ ∧ b < w.heap.size ∧ ∀ i, i < len → w.cell? ⟨b, off + i * 3, none⟩ = some (.int .i64 (d i).1) ∧ w.cell? ⟨b, off + i * 3 + 1, none⟩ = some (.int .i64 (d i).2.1) ∧ w.cell? ⟨b, off + i * 3 + 2, none⟩ = some (.int .i64 (d i).2.2))
theorem RowsN.under {w w' : World} {B : Nat} {A : Option Addr} {len cap : Nat} {d : Nat → I3} (h : RowsN w A len cap d) (hb : Below B w w') (hB : w.heap.size ≤ B) : RowsN w' A len cap d := by
  refine ⟨h.1, fun hp => ?_⟩
  obtain ⟨b, off, h1, h2, h3⟩ := h.2 hp
  have hlB := Nat.lt_of_lt_of_le h2 hB
  refine ⟨b, off, h1, Nat.lt_of_lt_of_le h2 hb.size, fun i hi => ?_⟩
  obtain ⟨c0, c1, c2⟩ := h3 i hi
  exact ⟨(hb.cell (p := ⟨b, off + i * 3, none⟩) hlB).trans c0, (hb.cell (p := ⟨b, off + i * 3 + 1, none⟩) hlB).trans c1, (hb.cell (p := ⟨b, off + i * 3 + 2, none⟩) hlB).trans c2⟩
theorem RowsN.below {w w' : World} {A : Option Addr} {len cap : Nat} {d : Nat → I3} (h : RowsN w A len cap d) (hb : Below w.heap.size w w') : RowsN w' A len cap d := h.under hb (Nat.le_refl _)
theorem RowsN.cut {w : World} {A : Option Addr} {len cap : Nat} {d : Nat → I3} (h : RowsN w A len cap d) (m : Nat) (hm : m ≤ len) : RowsN w A m cap d := by
  refine ⟨fun hn => ⟨by have := (h.1 hn).1; omega, (h.1 hn).2⟩, fun hp => ?_⟩
  obtain ⟨b, off, h1, h2, h3⟩ := h.2 (by omega)
  exact ⟨b, off, h1, h2, fun i hi => h3 i (by omega)⟩

/-- The first k rows as1 a list. -/
abbrev rwN (d : Nat → I3) (k : Nat) : List I3 := (List.range k).map d
theorem rwN_succ (d : Nat → I3) (k : Nat) : rwN d (k + 1) = rwN d k ++ [d k] := by simp [rwN, List.range_succ]
/-- What is wrong with a row beside those of a list. -/
def chkR (l : List I3) (r : I3) : Int := if mayP r = false then 2 else if l.any (fun x => decide (x.1 = r.1)) then 15 else if l.any (fun x => decide (x.2.1 = r.2.1)) then 15 else 0
/-- What is wrong with the first k rows. -/
def newE (d : Nat → I3) : Nat → Int
  | 0 => 0
  | k + 1 => if newE d k = 0 then chkR (rwN d k) (d k) else newE d k
theorem newE_next {d : Nat → I3} {k : Nat} (h : newE d k = 0) : newE d (k + 1) = chkR (rwN d k) (d k) := by
  show (if newE d k = 0 then _ else _) = _
  rw [if_pos h]
theorem newE_stop {d : Nat → I3} {k : Nat} (h : newE d k ≠ 0) (j : Nat) : newE d (k + j) = newE d k := by
  induction j with
  | zero => rfl
  | succ j ih =>
    have e : newE d (k + (j + 1)) = if newE d (k + j) = 0 then chkR (rwN d (k + j)) (d (k + j)) else newE d (k + j) := rfl
    rw [e, ih, if_neg h]
theorem newE_le {d : Nat → I3} {k n : Nat} (h : newE d n = 0) (hk : k ≤ n) : newE d k = 0 := by
  rcases Decidable.em (newE d k = 0) with e | e
  · exact e
  · obtain ⟨j, rfl⟩ : ∃ j, n = k + j := ⟨n - k, by omega⟩
    rw [newE_stop e j] at h
    exact absurd h e
theorem look_row {G : List Gp} {o : Int} : (lookL (G.map Gp.row) o).isSome = (G.map Gp.pub).any fun x => decide (x.1 = o) := by
  induction G with
  | nil => rfl
  | cons g G ih =>
    unfold lookL at ih ⊢
    rw [List.map_cons, List.map_cons, List.find?_cons, List.any_cons, ← ih]
    by_cases h : g.o = o <;> simp [Gp.row, Gp.pub, h]
theorem own_row {G : List Gp} {mac : Int} (hm : ∀ g ∈ G, mayP g.pub = true) : decide (ownL (G.map Gp.row) mac ≠ 0) = (G.map Gp.pub).any fun x => decide (x.2.1 = mac) := by
  induction G with
  | nil => rfl
  | cons g G ih =>
    have h1 := ih fun x hx => hm x (List.mem_cons_of_mem _ hx)
    have h2 := mayP_iff.1 (hm g (List.mem_cons_self ..))
    unfold ownL at h1 ⊢
    rw [List.map_cons, List.map_cons, List.find?_cons, List.any_cons, ← h1]
    by_cases h : g.mac = mac
    · have : g.o ≠ 0 := by simp [Gp.pub] at h2; omega
      simp [Gp.row, Gp.pub, h, this]
    · simp [Gp.row, Gp.pub, h]
theorem chkN_row {G : List Gp} {r : I3} (hm : ∀ g ∈ G, mayP g.pub = true) : chkN (G.map Gp.row) r = chkR (G.map Gp.pub) r := by
  unfold chkN chkR
  rw [look_row, ← own_row hm]
  simp
theorem chkR_zero {l : List I3} {r : I3} (h : chkR l r = 0) : mayP r = true ∧ ∀ x ∈ l, x.1 ≠ r.1 ∧ x.2.1 ≠ r.2.1 := by
  unfold chkR at h
  cases h0 : mayP r with
  | false => rw [h0] at h; simp at h
  | true =>
    rw [h0] at h
    simp only [Bool.true_eq_false, if_false] at h
    by_cases h1 : l.any (fun x => decide (x.1 = r.1)) = true
    · rw [if_pos h1] at h; simp at h
    · rw [if_neg h1] at h
      by_cases h2 : l.any (fun x => decide (x.2.1 = r.2.1)) = true
      · rw [if_pos h2] at h; simp at h
      · refine ⟨rfl, fun x hx => ?_⟩
        simp only [List.any_eq_true, decide_eq_true_eq, not_exists, not_and] at h1 h2
        exact ⟨h1 x hx, h2 x hx⟩

/-- 'm[r.Owner] = r' as1 an equation, for regions that draw. -/
theorem run_put_row {w : World} {b : Nat} {L : List Pp} {p : Int} {q : Nat} {s : Int} (hmap : MapP w b L) (hk : fitI p) (hn : ∀ y ∈ L, y.1 ≠ p) (hl : L.length < maxLen) :
    ∃ w', (Instr.mapUpdate 63 (.map (some b)) (.int .i64 p) (.agg #[.pointer (some ⟨q, 0, none⟩), .int .i64 s])).run Try.prog w = .ok () w' ∧ MapP w' b (L ++ [(p, some q, s)]) ∧ w.grownBy w' (some b) := by
  obtain ⟨D, h1, h2⟩ := hmap
  obtain ⟨w', hr, h3, h4⟩ := h1.store int_keys Try.underlying63 hl (int_key hk) (ppElem_mk (some q) s)
  exact ⟨w', hr, ⟨_, by simpa using h3, h2.put (p, some q, s) hk hn⟩, h4.grown⟩

/-- What New answers. -/
def NewN (d : Nat → I3) (n : Nat) (w : World) (e : Ending) (w' : World) : Prop :=
  Below w.heap.size w w' ∧ ((newE d n = 0 ∧ ∃ (dd m : Nat) (G : List Gp), e = .returned (.tuple #[.pointer (some ⟨dd, 0, none⟩), .int .i64 0]) ∧ NicG w' dd m (.slice none 0 0) 0 [] G ∧ G.map Gp.pub = rwN d n ∧ (∀ g ∈ G, g.l = [] ∧ g.dr = 0) ∧ ∀ i, nOwn dd m (.slice none 0 0) G i → w.heap.size ≤ i) ∨ (newE d n ≠ 0 ∧ e = .returned (.tuple #[.pointer none, .int .i64 (newE d n)])))

theorem limQ_of {n : Int} (h0 : 0 ≤ n) (h1 : n ≤ 16) : ((limQ n : Nat) : Int) = n := by unfold limQ; omega
set_option maxRecDepth 20000 in
set_option maxHeartbeats 4000000 in
theorem nnew_any (A : Option Addr) (n cap : Nat) (d : Nat → I3) (w : World) (hst : RowsN w A n cap d) (hn : n ≤ 1000000) :
    Calls Try.prog 8 #[.slice A n cap] w (NewN d n w) := by
  have hmm := @run_makeMap Try.prog
  have HST := Lib.hid hst
  clear hst
  go_enter Try.func8, Try.ntmps8
  go_wp2
  have hT0 : NicG ((w.alloc (.map #[] 0)).alloc (.cells #[.map (some w.heap.size), .int .i64 0, .slice none 0 0] 65)) (w.heap.size + 1) w.heap.size (.slice none 0 0) 0 [] [] :=
    ⟨by simpa using Blk.new (w.alloc (.map #[] 0)) 65 #[.map (some w.heap.size), .int .i64 0, .slice none 0 0], (MapP.new w).alloc _, RowZ.nil 3 _, by simp, by omega, by simp [Value.ownBlock], by simp, by simp⟩
  have hB0 : Below w.heap.size w ((w.alloc (.map #[] 0)).alloc (.cells #[.map (some w.heap.size), .int .i64 0, .slice none 0 0] 65)) := ((Below.refl _ _).alloc (Nat.le_refl _) _).alloc (by simp) _
  have HT0 := Lib.hid hT0
  have HB0 := Lib.hid hB0
  clear hT0 hB0
  go_loopw [13] (fun x wr => ∃ (k : Nat) (G : List Gp), x = .int .i64 k ∧ k ≤ n ∧ Hid (newE d k = 0) ∧ NicG wr (w.heap.size + 1) w.heap.size (.slice none 0 0) 0 [] G ∧ Hid (G.map Gp.pub = rwN d k ∧ (∀ g ∈ G, g.l = [] ∧ g.dr = 0) ∧ ∀ g ∈ G, ∀ i, g.own i → w.heap.size ≤ i) ∧ Below w.heap.size w wr) (fun x _ => n - (intOf x).toNat)
  case atStart => exact ⟨0, [], rfl, by omega, Lib.hid rfl, HT0.out, Lib.hid ⟨rfl, by simp, by simp⟩, HB0.out⟩
  case round =>
    obtain ⟨k, G, rfl, hk, HC, hT, HG, hb⟩ := hrel
    have HT := Lib.hid hT
    have HB := Lib.hid hb
    clear hT hb HT0 HB0
    by_cases hkn : k < n
    · obtain ⟨b, off, rfl, hbB, hcells⟩ := HST.out.2 (by omega)
      obtain ⟨a0, a1, a2⟩ := hcells k hkn
      have d0 := (HB.out.cell (p := ⟨b, off + k * 3, none⟩) hbB).trans a0
      have d1 := (HB.out.cell (p := ⟨b, off + k * 3 + 1, none⟩) hbB).trans a1
      have d2 := (HB.out.cell (p := ⟨b, off + k * 3 + 2, none⟩) hbB).trans a2
      have hnx := newE_next HC.out
      have hrs := rwN_succ d k
      have hcr := chkN_row (G := G) (r := d k) (fun g hg => (HT.out.2.2.2.1 g hg).2)
      rw [HG.out.1] at hcr
      have hck : ∀ W, NicG W (w.heap.size + 1) w.heap.size (.slice none 0 0) 0 [] G → Calls Try.prog 24 #[.pointer (some ⟨w.heap.size + 1, 0, none⟩), .agg #[.int .i64 (d k).1, .int .i64 (d k).2.1, .int .i64 (d k).2.2]] W (CheckN (G.map Gp.row) (d k) W) := fun W h => ncheck_any (d k) h.1 h.2.1 h.owners h.macs
      have HRS := Lib.hid hrs
      have HNX := Lib.hid hnx
      have HCR := Lib.hid hcr
      have HCK := Lib.hid hck
      clear hcells a0 a1 a2 hnx hrs hck hcr
      obtain ⟨r, hr⟩ : ∃ r, r = d k := ⟨_, rfl⟩
      rw [← hr] at d0 d1 d2 HRS HNX HCR HCK
      have HR := Lib.hid hr
      clear hr
      have i1 : (k : Int) < (n : Int) := by omega
      obtain ⟨p, q, s⟩ := r
      simp only at d0 d1 d2
      by_cases hz : chkR (rwN d k) (p, q, s) = 0
      · obtain ⟨hz1, hz2⟩ := chkR_zero hz
        have hmz := mayP_iff.1 hz1
        simp only at hmz
        have hfp : fitI p := by unfold fitI; omega
        have hlq := limQ_of hmz.2.2.2.2.1 hmz.2.2.2.2.2
        have hz3 : ∀ x ∈ G, x.o ≠ p ∧ x.mac ≠ q := fun x hx => hz2 x.pub (by rw [← HG.out.1]; exact List.mem_map.2 ⟨x, hx, rfl⟩)
        have HZ1 := Lib.hid hz1
        have HZ3 := Lib.hid hz3
        have HLQ := Lib.hid hlq
        have HFP := Lib.hid hfp
        have hGl : G.length = k := by have := congrArg List.length HG.out.1; simpa using this
        have HGL := Lib.hid hGl
        have hv : CheckN (G.map Gp.row) (p, q, s) = fun W e W' => e = .returned (.int .i64 0) ∧ Below W.heap.size W W' := by unfold CheckN; rw [HCR.out, hz]
        rw [hv] at HCK
        have HZ := Lib.hid hz
        clear hz hz1 hz2 hz3 hv hlq hmz hfp hGl
        go_wp2_with (go_at_call 24; refine (HCK.out _ (HT.out.below ((Below.refl _ _).alloc (Nat.le_refl _) _))).mono ?_; rintro e w1 ⟨rfl, b1⟩; have hb1 := ((Below.refl wr.heap.size wr).alloc (Nat.le_refl _) (.cells #[.int .i64 p, .int .i64 q, .int .i64 s] 62)).trans (b1.mono (by simp)); have B1 := Lib.hid (HB.out.trans (hb1.mono HB.out.size)); have T1 := Lib.hid (HT.out.below hb1); have hblk := (Blk.new wr 62 #[.int .i64 p, .int .i64 q, .int .i64 s]).below b1 (Blk.new _ _ _).lt; have e0 := hblk.cell 0; have e1 := hblk.cell 1; have e2 := hblk.cell 2; simp at e0 e1 e2; have c0 := T1.out.1.cell 0; simp at c0; have R1 := Lib.hid hblk; clear b1 hb1 hblk)
        have S0 : Hid (∀ W, Below w1.heap.size w1 W → W.cell? ⟨w.heap.size + 1, 0, none⟩ = some (.map (some w.heap.size)) ∧ W.cell? ⟨wr.heap.size, 0, none⟩ = some (.int .i64 p) ∧ W.cell? ⟨wr.heap.size, 1, none⟩ = some (.int .i64 q) ∧ W.cell? ⟨wr.heap.size, 2, none⟩ = some (.int .i64 s)) := Lib.hid fun W hW => ⟨(T1.out.1.below hW T1.out.1.lt).cell 0, (R1.out.below hW R1.out.lt).cell 0, (R1.out.below hW R1.out.lt).cell 1, (R1.out.below hW R1.out.lt).cell 2⟩
        obtain ⟨w5, hw5⟩ : ∃ w5, w5 = w1.drew.alloc (.cells #[.slice none 0 0, .int .i64 (limQ s), .int .i64 0] 92) := ⟨_, rfl⟩
        have hq5 : Blk w5 w1.heap.size 92 #[.slice none 0 0, .int .i64 (limQ s), .int .i64 0] := by rw [hw5]; exact Blk.new w1.drew 92 _
        have hg5 : w1.grownBy w5 none := by rw [hw5]; exact only_alloc (only_drewN (only_refl w1 none) 1) _
        have HW5 := Lib.hid hw5
        obtain ⟨w2, hrun, hm2, hg2⟩ := run_put_row (q := w1.heap.size) (s := q) (T1.out.2.1.only hg5 (by simp)) HFP.out (fun y hy => by obtain ⟨x, hx, rfl⟩ := List.mem_map.1 hy; exact (HZ3.out x hx).1) (by rw [List.length_map, HGL.out]; unfold maxLen; omega)
        have hnew : NicG w2 (w.heap.size + 1) w.heap.size (.slice none 0 0) 0 [] (G ++ [⟨p, q, w1.heap.size, .slice none 0 0, [], limQ s, 0⟩]) :=
          T1.out.more ⟨p, q, w1.heap.size, .slice none 0 0, [], limQ s, 0⟩ hg5 ⟨hq5, RowZ.nil 3 _, by simp [Value.ownBlock]⟩ (by unfold Gp.pub; simp only; rw [HLQ.out]; exact HZ1.out) hg2 hm2 (fun i hi => by rcases hi with rfl | hi <;> simp_all [Value.ownBlock]) (fun x hx => HZ3.out x hx)
        have hbn : Below w.heap.size w w2 := B1.out.trans ((below_of_only hg5 B1.out.size (by simp)).trans (below_of_only hg2 (Nat.le_trans B1.out.size hg5.size) (fun k hk => by injection hk with hk; omega)))
        have hs2 : w2.cell? ⟨w.heap.size + 1, 0, none⟩ = some (.map (some w.heap.size)) ∧ w2.cell? ⟨wr.heap.size, 0, none⟩ = some (.int .i64 p) ∧ w2.cell? ⟨wr.heap.size, 1, none⟩ = some (.int .i64 q) ∧ w2.cell? ⟨wr.heap.size, 2, none⟩ = some (.int .i64 s) := by
          have hd2 := hnew.1
          have hx2 := (R1.out.only hg5 (by simp)).only hg2 (by have := HB.out.size; intro e; injection e with e; have := HT.out.lt _ (.inr (.inl rfl)); omega)
          exact ⟨hd2.cell 0, hx2.cell 0, hx2.cell 1, hx2.cell 2⟩
        have HS2 := Lib.hid hs2
        obtain ⟨s0, s1, s2, s3⟩ := S0.out _ (below_of_only hg5 (Nat.le_refl _) (by simp))
        have HNEW := Lib.hid hnew
        have HBN := Lib.hid hbn
        have HSZ := Lib.hid B1.out.size
        clear hm2 hg2 HCK hnew hbn hq5 hg5 hw5 hs2
        go_region_held3 (fun w' => w'.cell? ⟨w.heap.size + 1, 0, none⟩ = some (.map (some w.heap.size)) ∧ w'.cell? ⟨wr.heap.size, 0, none⟩ = some (.int .i64 p) ∧ w'.cell? ⟨wr.heap.size, 1, none⟩ = some (.int .i64 q) ∧ w'.cell? ⟨wr.heap.size, 2, none⟩ = some (.int .i64 s))
          (first | exact ⟨c0, e0, e1, e2⟩ | exact ⟨s0, s1, s2, s3⟩ | exact HS2.out | go_keep) (first | (go_at_call 25; with_reducible refine (fnew_any s _).mono ?_; rintro e w6 ⟨rfl, h6⟩; obtain rfl : w5 = w6 := HW5.out.trans h6; clear h6))
        all_goals
          go_wp2
          go_roundw
          case rel =>
            refine ⟨k + 1, G ++ [⟨p, q, w1.heap.size, .slice none 0 0, [], limQ s, 0⟩], by go_num, by omega, Lib.hid (by rw [HNX.out, HZ.out]), HNEW.out, Lib.hid ⟨by rw [List.map_append, HG.out.1, HRS.out]; simp [Gp.pub, HLQ.out], fun g hg => ?_, fun g hg => ?_⟩, HBN.out⟩
            · rcases List.mem_append.1 hg with hg | hg
              · exact HG.out.2.1 g hg
              · obtain rfl : g = _ := by simpa using hg
                exact ⟨rfl, rfl⟩
            · rcases List.mem_append.1 hg with hg | hg
              · exact HG.out.2.2 g hg
              · obtain rfl : g = _ := by simpa using hg
                intro i hi
                rcases hi with rfl | hi
                · exact HSZ.out
                · simp [Value.ownBlock] at hi
          case measure => simp [intOf] <;> omega
      · have hne : newE d n ≠ 0 ∧ newE d n = chkR (rwN d k) (p, q, s) := by
          have h1 : newE d (k + 1) ≠ 0 := by rw [HNX.out]; exact hz
          have h2 := newE_stop h1 (n - (k + 1))
          rw [show k + 1 + (n - (k + 1)) = n by omega] at h2
          rw [h2]
          exact ⟨h1, HNX.out⟩
        have HNE := Lib.hid hne
        obtain ⟨c, hc⟩ : ∃ c, c = chkR (rwN d k) (p, q, s) := ⟨_, rfl⟩
        have hv : CheckN (G.map Gp.row) (p, q, s) = fun W e W' => e = .returned (.int .i64 c) ∧ Below W.heap.size W W' := by unfold CheckN; rw [HCR.out, hc]
        rw [hv] at HCK
        rw [← hc] at hz
        have hz' : (c != 0) = true := by simpa using hz
        have HCC := Lib.hid hc
        clear hne hv hc hz
        go_wp2_with (go_at_call 24; refine (HCK.out _ (HT.out.below ((Below.refl _ _).alloc (Nat.le_refl _) _))).mono ?_; rintro e w1 ⟨rfl, b1⟩; have hb1 := ((Below.refl wr.heap.size wr).alloc (Nat.le_refl _) (.cells #[.int .i64 p, .int .i64 q, .int .i64 s] 62)).trans (b1.mono (by simp)); have B1 := Lib.hid (HB.out.trans (hb1.mono HB.out.size)); clear b1 hb1)
        go_ret2
        exact ⟨B1.out, .inr ⟨HNE.out.1, by rw [HNE.out.2, ← HCC.out]; rfl⟩⟩
    · obtain rfl : k = n := by omega
      go_wp2
      go_ret2
      refine ⟨HB.out, .inl ⟨HC.out, _, _, G, rfl, HT.out, HG.out.1, HG.out.2.1, ?_⟩⟩
      rintro i (rfl | rfl | hi | ⟨g, hg, hi⟩)
      · omega
      · exact Nat.le_refl _
      · simp [Value.ownBlock] at hi
      · exact HG.out.2.2 g hg i hi
end Go.Proofs.Ytjhihccjhnlghaa

/- Plain facts on bits and bytes, for the laws of package bits: no program is spoken of here. -/
namespace Go.Proofs.Ytjhihccjhnlghaa.Bt
open Go.RowKit

theorem and255 (n : Int) : bits .and .i64 n 255 = n % 256 := by
  show IntKind.i64.wrap ((BitVec.ofInt 64 n &&& BitVec.ofInt 64 255).toNat : Int) = _
  have h : (BitVec.ofInt 64 (255 : Int)).toNat = 2 ^ 8 - 1 := by decide
  rw [BitVec.toNat_and, h, Nat.and_two_pow_sub_one_eq_mod, BitVec.toNat_ofInt, IntKind.wrap_i64]
  omega

theorem and255u (n : Int) (h0 : 0 ≤ n) (h1 : n < 65536) : bits .and .u16 n 255 = n % 256 := by
  obtain ⟨a, rfl⟩ := Int.eq_ofNat_of_zero_le h0
  have h : (255 : Int) = ((255 : Nat) : Int) := rfl
  rw [h, u16_and_nat a 255 (by omega) (by decide), show (255 : Nat) = 2 ^ 8 - 1 from rfl, Nat.and_two_pow_sub_one_eq_mod]
  omega

theorem or256 (a b : Int) (ha : 0 ≤ a) (ha1 : a < 256) (hb : 0 ≤ b) (hb1 : b < 256) : bits .or .i64 a (b * 256) = a + 256 * b := by
  obtain ⟨x, rfl⟩ := Int.eq_ofNat_of_zero_le ha
  obtain ⟨y, rfl⟩ := Int.eq_ofNat_of_zero_le hb
  have hy : ((y : Int) * 256) = ((2 ^ 8 * y : Nat) : Int) := by omega
  have k1 : (BitVec.ofInt 64 (x : Int)).toNat = x := by rw [BitVec.ofInt_natCast, BitVec.toNat_ofNat]; omega
  have k2 : (BitVec.ofInt 64 ((2 ^ 8 * y : Nat) : Int)).toNat = 2 ^ 8 * y := by rw [BitVec.ofInt_natCast, BitVec.toNat_ofNat]; omega
  show IntKind.i64.wrap ((BitVec.ofInt 64 (x : Int) ||| BitVec.ofInt 64 ((y : Int) * 256)).toNat : Int) = _
  rw [hy, BitVec.toNat_or, k1, k2, Nat.or_comm, ← Nat.two_pow_add_eq_or_of_lt (by omega) y, IntKind.wrap_i64]
  omega

/-- A number's two bytes. -/
def put (n : Int) : ByteArray := ⟨#[UInt8.ofNat (n % 256).toNat, UInt8.ofNat (n / 256 % 256).toNat]⟩

/-- How many bits of a number are 1. -/
def ones : Nat → Nat → Nat
  | 0, _ => 0
  | f + 1, k => if k = 0 then 0 else ones f (k / 2) + k % 2

theorem ones_zero (f : Nat) : ones f 0 = 0 := by cases f <;> simp [ones]

theorem ones_join (g f hi lo : Nat) (hl : lo < 2 ^ g) (hh : hi < 2 ^ f) : ones (f + g) (hi * 2 ^ g + lo) = ones f hi + ones g lo := by
  induction g generalizing lo with
  | zero => obtain rfl : lo = 0 := by omega
            simp [ones]
  | succ g ih =>
    have hp : hi * 2 ^ (g + 1) = 2 * (hi * 2 ^ g) := by rw [Nat.pow_succ, ← Nat.mul_assoc, Nat.mul_comm]
    have e1 : (hi * 2 ^ (g + 1) + lo) / 2 = hi * 2 ^ g + lo / 2 := by omega
    have e2 : (hi * 2 ^ (g + 1) + lo) % 2 = lo % 2 := by omega
    have hl2 : lo / 2 < 2 ^ g := by rw [Nat.pow_succ] at hl; omega
    have k := ih (lo / 2) hl2
    show ones (f + g + 1) (hi * 2 ^ (g + 1) + lo) = _
    rw [ones, e1, e2, k]
    by_cases h0 : hi * 2 ^ (g + 1) + lo = 0
    · rw [if_pos h0]
      have hlo : lo = 0 := by omega
      have hhi : hi = 0 := by
        rcases Nat.eq_zero_or_pos hi with h | h
        · exact h
        · have := Nat.mul_pos h (Nat.two_pow_pos (g + 1)); omega
      subst hlo hhi
      simp [ones_zero]
    · rw [if_neg h0]
      by_cases hlo : lo = 0
      · subst hlo; simp [ones_zero]
      · rw [show ones (g + 1) lo = ones g (lo / 2) + lo % 2 from by rw [ones, if_neg hlo]]
        omega

theorem ones_16 (k : Nat) (h : k < 65536) : ones 16 k = ones 8 (k / 256) + ones 8 (k % 256) := by
  have := ones_join 8 8 (k / 256) (k % 256) (by omega) (by omega)
  rw [← this]
  congr 1
  omega

theorem ones_le (f k : Nat) : ones f k ≤ f := by
  induction f generalizing k with
  | zero => simp [ones]
  | succ f ih =>
    rw [ones]
    split
    · omega
    · have := ih (k / 2); omega

#print axioms ones_16

/-- What a number leaves of another one, from 0 on, as1 the text reckons it. -/
theorem rest_of (n m : Int) (hm : 0 < m) : (if n.tmod m < 0 then n.tmod m + m else n.tmod m) = n % m := by
  have h1 := @Int.tmod_eq_emod n m
  have h2 := Int.emod_nonneg n (Int.ne_of_gt hm)
  have h3 := Int.emod_lt_of_pos n hm
  have h4 : (m.natAbs : Int) = m := Int.natAbs_of_nonneg (Int.le_of_lt hm)
  rw [h1]
  split <;> split <;> omega

end Go.Proofs.Ytjhihccjhnlghaa.Bt

/- Plain facts on the check of sixteen bits: no program is spoken of here. -/
namespace Go.Proofs.Ytjhihccjhnlghaa.Cr
open Go.RowKit

/-- The number behind one bit more. -/
def push (x b : Nat) : Nat := (x * 2 % 65536) ^^^ (if x / 32768 = b then 0 else 4129)
/-- A bit of a byte, from the highest one (0) on. -/
def bitOf (b i : Nat) : Nat := b / 2 ^ (7 - i) % 2
def feed (x : Nat) (l : List Nat) : Nat := l.foldl push x
/-- The first k bits of a byte. -/
def bitsTo (b k : Nat) : List Nat := (List.range k).map (bitOf b)
def step (x b : Nat) : Nat := feed x (bitsTo b 8)
def from' (x : Nat) (l : List UInt8) : Nat := l.foldl (fun x b => step x b.toNat) x

theorem push_lt (x b : Nat) : push x b < 65536 := by
  have h : push x b < 2 ^ 16 := by
    apply Nat.xor_lt_two_pow
    · omega
    · split <;> decide
  simpa using h

theorem feed_lt (l : List Nat) (x : Nat) (h : x < 65536) : feed x l < 65536 := by
  induction l generalizing x with
  | nil => simpa [feed] using h
  | cons b l ih => exact ih _ (push_lt x b)

theorem step_lt (x b : Nat) (h : x < 65536) : step x b < 65536 := feed_lt _ _ h

theorem from_lt (l : List UInt8) (x : Nat) (h : x < 65536) : from' x l < 65536 := by
  induction l generalizing x with
  | nil => simpa [from'] using h
  | cons b l ih => exact ih _ (step_lt x _ h)

theorem bitsTo_succ (b k : Nat) : bitsTo b (k + 1) = bitsTo b k ++ [bitOf b k] := by
  simp [bitsTo, List.range_succ]

theorem feed_succ (x b k : Nat) : feed x (bitsTo b (k + 1)) = push (feed x (bitsTo b k)) (bitOf b k) := by
  rw [bitsTo_succ]
  simp [feed]

theorem feed_append (x : Nat) (l m : List Nat) : feed x (l ++ m) = feed (feed x l) m := by simp [feed]

theorem from_append (x : Nat) (l m : List UInt8) : from' x (l ++ m) = from' (from' x l) m := by simp [from']

theorem from_snoc (x : Nat) (l : List UInt8) (b : UInt8) : from' x (l ++ [b]) = step (from' x l) b.toNat := by simp [from']

theorem push_own (x : Nat) : push x (x / 32768) = x * 2 % 65536 := by simp [push]

/-- A number that is fed its own two bytes is 0. -/
theorem feed_own (x k : Nat) (hk : k ≤ 8) (h : x < 65536) : feed x (bitsTo (x / 256) k) = x * 2 ^ k % 65536 := by
  induction k with
  | zero => simp [bitsTo, feed]; omega
  | succ k ih =>
    rw [feed_succ, ih (by omega)]
    have hb : bitOf (x / 256) k = (x * 2 ^ k % 65536) / 32768 := by
      have hk' : k = 0 ∨ k = 1 ∨ k = 2 ∨ k = 3 ∨ k = 4 ∨ k = 5 ∨ k = 6 ∨ k = 7 := by omega
      rcases hk' with rfl | rfl | rfl | rfl | rfl | rfl | rfl | rfl <;> simp [bitOf] <;> omega
    rw [hb, push_own, Nat.pow_succ, ← Nat.mul_assoc]
    omega

theorem step_own (x : Nat) (h : x < 65536) : step x (x / 256) = x % 256 * 256 := by
  rw [step, feed_own x 8 (by omega) h]
  omega

theorem step_own2 (x : Nat) (h : x < 65536) : step (step x (x / 256)) (x % 256) = 0 := by
  rw [step_own x h]
  have h2 : x % 256 = (x % 256 * 256) / 256 := by omega
  have h3 := step_own (x % 256 * 256) (by omega)
  rw [← h2] at h3
  rw [h3]
  omega

theorem and65535 (n : Int) : bits .and .i64 n 65535 = n % 65536 := by
  show IntKind.i64.wrap ((BitVec.ofInt 64 n &&& BitVec.ofInt 64 65535).toNat : Int) = _
  have h : (BitVec.ofInt 64 (65535 : Int)).toNat = 2 ^ 16 - 1 := by decide
  rw [BitVec.toNat_and, h, Nat.and_two_pow_sub_one_eq_mod, BitVec.toNat_ofInt, IntKind.wrap_i64]
  omega

theorem and1 (a : Nat) (h : a < 9223372036854775808) : bits .and .i64 (a : Int) 1 = ((a % 2 : Nat) : Int) := by
  show IntKind.i64.wrap ((BitVec.ofInt 64 (a : Int) &&& BitVec.ofInt 64 1).toNat : Int) = _
  have h1 : (BitVec.ofInt 64 (1 : Int)).toNat = 2 ^ 1 - 1 := by decide
  rw [BitVec.toNat_and, h1, Nat.and_two_pow_sub_one_eq_mod, BitVec.toNat_ofInt, IntKind.wrap_i64]
  omega

theorem xorN (a b : Nat) (ha : a < 65536) (hb : b < 65536) : bits .xor .i64 (a : Int) (b : Int) = ((a ^^^ b : Nat) : Int) := by
  have hx : a ^^^ b < 2 ^ 16 := Nat.xor_lt_two_pow (by omega) (by omega)
  have k1 : (BitVec.ofInt 64 (a : Int)).toNat = a := by rw [BitVec.ofInt_natCast, BitVec.toNat_ofNat]; omega
  have k2 : (BitVec.ofInt 64 (b : Int)).toNat = b := by rw [BitVec.ofInt_natCast, BitVec.toNat_ofNat]; omega
  show IntKind.i64.wrap ((BitVec.ofInt 64 (a : Int) ^^^ BitVec.ofInt 64 (b : Int)).toNat : Int) = _
  rw [BitVec.toNat_xor, k1, k2, IntKind.wrap_i64]
  omega

theorem xor_mod2 (a b : Nat) : (a ^^^ b) % 2 = if a % 2 = b % 2 then 0 else 1 := by
  have h := Nat.xor_mod_two_pow (a := a) (b := b) (n := 1)
  simp only [Nat.pow_one] at h
  rw [h]
  rcases Nat.mod_two_eq_zero_or_one a with ha | ha <;> rcases Nat.mod_two_eq_zero_or_one b with hb | hb <;> simp [ha, hb]

/-- What one round of Step reckons. -/
theorem unlike (x b k : Nat) (hx : x < 65536) (hb : b < 256) : bits .and .i64 (bits .xor .i64 ((x : Int) / 32768) ((b : Int) / 2 ^ k)) 1 = ((if x / 32768 = b / 2 ^ k % 2 then 0 else 1 : Nat) : Int) := by
  have e1 : ((x : Int) / 32768) = ((x / 32768 : Nat) : Int) := by omega
  have e2 : ((b : Int) / 2 ^ k) = ((b / 2 ^ k : Nat) : Int) := by push_cast; rfl
  have h2 : b / 2 ^ k ≤ b := Nat.div_le_self _ _
  rw [e1, e2, xorN _ _ (by omega) (by omega)]
  have hl : x / 32768 ^^^ b / 2 ^ k < 2 ^ 16 := Nat.xor_lt_two_pow (by omega) (by omega)
  rw [and1 _ (by omega), xor_mod2]
  have : x / 32768 % 2 = x / 32768 := by omega
  rw [this]

theorem round_is (x b k : Nat) (hx : x < 65536) : bits .xor .i64 (bits .and .i64 ((x : Int) * 2) 65535) (((if x / 32768 = b / 2 ^ k % 2 then 0 else 1 : Nat) : Int) * 4129) = ((push x (b / 2 ^ k % 2) : Nat) : Int) := by
  have e1 : ((x : Int) * 2) % 65536 = ((x * 2 % 65536 : Nat) : Int) := by omega
  rw [and65535, e1]
  by_cases h : x / 32768 = b / 2 ^ k % 2
  · rw [if_pos h]
    have := xorN (x * 2 % 65536) 0 (by omega) (by omega)
    simp only [push, if_pos h]
    simpa using this
  · rw [if_neg h]
    have := xorN (x * 2 % 65536) 4129 (by omega) (by omega)
    simp only [push, if_neg h]
    simpa using this
end Go.Proofs.Ytjhihccjhnlghaa.Cr

/- The functions of package bits, and of the document's answers for it, that only reckon: each by its contract. -/
namespace Go.Proofs.Ytjhihccjhnlghaa
open Go.RowKit Go.Lib
set_option linter.unusedVariables false

theorem low_any (n : Int) (w : World) : Calls Try.prog 66 #[.int .i64 n] w fun e w' => e = .returned (.int .i64 (n % 256)) ∧ w = w' := by
  go_enter Try.func66, Try.ntmps66
  go_wp2
  go_ret
  exact ⟨by simp [Bt.and255], rfl⟩

theorem high_any (n : Int) (w : World) : Calls Try.prog 65 #[.int .i64 n] w fun e w' => e = .returned (.int .i64 (n / 256 % 256)) ∧ w = w' := by
  go_enter Try.func65, Try.ntmps65
  go_wp2
  go_ret
  exact ⟨by simp [Bt.and255], rfl⟩

theorem two_any (n m : Int) (w : World)  : Calls Try.prog 64 #[.int .i64 n, .int .i64 m] w fun e w' => e = .returned (.int .i64 (n % 256 + 256 * (m % 256))) ∧ w = w' := by
  have b1 : 0 ≤ n % 256 := by omega
  have b2 : n % 256 < 256 := by omega
  have b3 : 0 ≤ m % 256 := by omega
  have b4 : m % 256 < 256 := by omega
  go_enter Try.func64, Try.ntmps64
  go_wp2_with (go_at_call 66; refine (low_any _ _).mono ?_; rintro e w' ⟨rfl, rfl⟩)
  go_ret
  exact ⟨by simp [Bt.or256 _ _ b1 b2 b3 b4], rfl⟩

theorem pop8_ones : ∀ n : Fin 256, pop8 (n.val : Int) = (Bt.ones 8 n.val : Int) := by decide +kernel
theorem pop8_is (b : Int) (h0 : 0 ≤ b) (h1 : b ≤ 255) : pop8 b = (Bt.ones 8 b.toNat : Int) := by
  have e := pop8_ones ⟨b.toNat, by omega⟩
  simp only [Int.toNat_of_nonneg h0] at e
  exact e

theorem run_two_bytes (x y : Int) (W : World) : (convert 94 9 (.slice (some ⟨W.heap.size, 0, none⟩) 2 2)).run Try.prog (W.alloc (.cells #[.int .u8 x, .int .u8 y] 5)) =
    .ok (.string ⟨#[UInt8.ofNat x.toNat, UInt8.ofNat y.toNat]⟩) (W.alloc (.cells #[.int .u8 x, .int .u8 y] 5)) := by
  have h := run_convert_bytes_arg (P := Try.prog) (W.alloc (.cells #[.int .u8 x, .int .u8 y] 5)) 94 5 Try.underlying94 Try.underlying5 W.heap.size 0 2 2 [x, y] rfl (by
    intro i hi
    match i, hi with
    | 0, _ => simp
    | 1, _ => simp) 9 Try.underlying9
  rw [h]
  congr 2

theorem put_any (n : Int) (w : World) : Calls Try.prog 63 #[.int .i64 n] w fun e w' => e = .returned (.string (Bt.put n)) ∧ w.alloc (.cells #[.int .u8 (n % 256), .int .u8 (n / 256 % 256)] 5) = w' := by
  have hk := run_two_bytes (n % 256) (n / 256 % 256) w
  go_enter Try.func63, Try.ntmps63
  go_wp2_with (first | (go_at_call 66; refine (low_any _ _).mono ?_; rintro e w' ⟨rfl, rfl⟩) | (go_at_call 65; refine (high_any _ _).mono ?_; rintro e w' ⟨rfl, rfl⟩))
  go_ret
  exact ⟨rfl, rfl⟩

theorem new_any (s : ByteArray) (w : World) : Calls Try.prog 42 #[.string s] w fun e w' => e = .returned (.pointer (some ⟨w.heap.size, 0, none⟩)) ∧ w.alloc (.cells #[.int .i64 0, .string s, .int .i64 0] 113) = w' := by
  go_enter Try.func42, Try.ntmps42
  go_wp2
  go_ret
  exact ⟨rfl, rfl⟩
end Go.Proofs.Ytjhihccjhnlghaa
