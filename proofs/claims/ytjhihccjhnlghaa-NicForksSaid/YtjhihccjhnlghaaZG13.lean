import Derived.Test.YtjhihccjhnlghaaZG12
import Derived.Lib.QuietBelow
import Derived.Laws.StructEq
set_option linter.all false
/- The document's Check of ports, by its contract. -/
namespace Go.Proofs.Ytjhihccjhnlghaa
open Go.RowKit Go.Lib
set_option linter.unusedVariables false

theorem newE_bad {d : Nat → I3} {n i : Nat} {c : Int} (hi : i < n) (h : newE d i = 0) (hc : chkR (rwN d i) (d i) = c) (hne : c ≠ 0) : newE d n = c := by
  have h1 := newE_next h
  rw [hc] at h1
  have h2 := newE_stop (d := d) (k := i + 1) (by rw [h1]; exact hne) (n - (i + 1))
  rw [show i + 1 + (n - (i + 1)) = n by omega, h1] at h2
  exact h2
theorem chkR_may {l : List I3} {r : I3} (h : mayP r = false) : chkR l r = 2 := by simp [chkR, h]
theorem chkR_same {d : Nat → I3} {i k : Nat} {r : I3} (h : mayP r = true) (hk : k < i) (he : (d k).1 = r.1 ∨ (d k).2.1 = r.2.1) : chkR (rwN d i) r = 15 := by
  have hm : d k ∈ rwN d i := List.mem_map.2 ⟨k, by simpa using hk, rfl⟩
  unfold chkR
  rw [h]
  simp only [Bool.true_eq_false, if_false]
  by_cases h1 : (rwN d i).any (fun x => decide (x.1 = r.1)) = true
  · rw [if_pos h1]
  · rw [if_neg h1]
    rcases he with he | he
    · exact absurd (List.any_eq_true.2 ⟨d k, hm, by simpa using he⟩) h1
    · rw [if_pos (List.any_eq_true.2 ⟨d k, hm, by simpa using he⟩)]
theorem chkR_none {d : Nat → I3} {i : Nat} {r : I3} (h : mayP r = true) (hn : ∀ k, k < i → (d k).1 ≠ r.1 ∧ (d k).2.1 ≠ r.2.1) : chkR (rwN d i) r = 0 := by
  unfold chkR
  rw [h]
  simp only [Bool.true_eq_false, if_false]
  rw [if_neg, if_neg]
  all_goals
    intro he
    obtain ⟨x, hx, hxe⟩ := List.any_eq_true.1 he
    obtain ⟨k, hk, rfl⟩ := List.mem_map.1 hx
    have := hn k (by simpa using hk)
    simp_all

def RCheckN (d : Nat → I3) (n : Nat) (w : World) (e : Ending) (w' : World) : Prop := e = .returned (.int .i64 (newE d n)) ∧ Below w.heap.size w w'
set_option maxRecDepth 20000 in
set_option maxHeartbeats 3200000 in
theorem rcheck_any (A : Option Addr) (n cap : Nat) (d : Nat → I3) (w : World) (hst : PortsV w A n (frp d)) (hn : n ≤ 1000) :
    Calls Try.prog 9 #[.slice A n cap] w (RCheckN d n w) := by
  have HST := Lib.hid hst
  clear hst
  go_enter Try.func9, Try.ntmps9
  go_wp2
  go_loopw [3] (fun x wr => ∃ i : Nat, x = .int .i64 i ∧ i ≤ n ∧ Hid (newE d i = 0) ∧ Below w.heap.size w wr) (fun x _ => n - (intOf x).toNat)
  case atStart => exact ⟨0, rfl, by omega, Lib.hid rfl, Below.refl _ _⟩
  case round =>
    obtain ⟨i, rfl, hi, HC, hb⟩ := hrel
    obtain ⟨wo, hwo⟩ : ∃ wo : World, wo = wr := ⟨_, rfl⟩
    subst hwo
    have HB := Lib.hid hb
    clear hb
    by_cases hin : i < n
    · obtain ⟨b, rfl, hbB, hcells⟩ := HST.out (by omega)
      obtain ⟨a0, a1, a2, a3, a4⟩ := hcells i hin
      have d0 := (HB.out.cell (p := ⟨b, i * 5, none⟩) hbB).trans a0
      have d1 := (HB.out.cell (p := ⟨b, i * 5 + 1, none⟩) hbB).trans a1
      have d2 := (HB.out.cell (p := ⟨b, i * 5 + 2, none⟩) hbB).trans a2
      have d3 := (HB.out.cell (p := ⟨b, i * 5 + 3, none⟩) hbB).trans a3
      have d4 := (HB.out.cell (p := ⟨b, i * 5 + 4, none⟩) hbB).trans a4
      have HCELLS := Lib.hid hcells
      clear a0 a1 a2 a3 a4
      simp only [frp] at d0 d1 d2 d3 d4
      obtain ⟨r, hr⟩ : ∃ r, r = d i := ⟨_, rfl⟩
      rw [← hr] at d0 d1 d2
      have HR := Lib.hid hr
      clear hr hcells
      obtain ⟨p, q, s⟩ := r
      simp only at d0 d1 d2
      have i1 : (i : Int) < (n : Int) := by omega
      by_cases h0 : mayP (p, q, s) = true
      · have hm := mayP_iff.1 h0
        simp only at hm
        obtain ⟨m1, m2, m3, m4, m5, m6⟩ := hm
        have u1 : ¬ p < 1 := by omega
        have u2 : ¬ 8 < p := by omega
        have u3 : ¬ q < 0 := by omega
        have u4 : ¬ 255 < q := by omega
        have u5 : ¬ s < 0 := by omega
        have u6 : ¬ 16 < s := by omega
        clear m1 m2 m3 m4 m5 m6
        go_wp2
        have hold : ∀ W, Below wo.heap.size wo W → ∀ k, k < n → W.cell? ⟨b, k * 5, none⟩ = some (.int .i64 (d k).1) ∧ W.cell? ⟨b, k * 5 + 1, none⟩ = some (.int .i64 (d k).2.1) := fun W h k hk => by
          obtain ⟨a0, a1, _⟩ := HCELLS.out k hk
          have h' := HB.out.trans (h.mono HB.out.size)
          exact ⟨(h'.cell (p := ⟨b, k * 5, none⟩) hbB).trans a0, (h'.cell (p := ⟨b, k * 5 + 1, none⟩) hbB).trans a1⟩
        have HOLD := Lib.hid hold
        clear d0 d1 d2 d3 d4 hold
        go_loopw [5] (fun x wq => ∃ k : Nat, x = .int .i64 k ∧ k ≤ i ∧ Hid (∀ k', k' < k → (d k').1 ≠ p ∧ (d k').2.1 ≠ q) ∧ Blk wq wo.heap.size 52 #[.int .i64 p, .int .i64 q, .int .i64 s, .slice none 0 0, .int .i64 0] ∧ Below wo.heap.size wo wq) (fun x _ => i - (intOf x).toNat)
        case atStart => exact ⟨0, rfl, by omega, Lib.hid (fun k' h => by omega), Blk.new _ _ _, (Below.refl _ _).alloc (Nat.le_refl _) _⟩
        case round =>
          obtain ⟨k, rfl, hk, HS, hblk, hbq⟩ := hrel
          obtain ⟨wq, hwq⟩ : ∃ wq : World, wq = wr := ⟨_, rfl⟩
          subst hwq
          have HBLK := Lib.hid hblk
          have HBQ := Lib.hid hbq
          clear hblk hbq
          by_cases hki : k < i
          · obtain ⟨c0, c1⟩ := HOLD.out wq HBQ.out k (by omega)
            have e0 := HBLK.out.cell 0
            have e1 := HBLK.out.cell 1
            simp at e0 e1
            obtain ⟨o, ho⟩ : ∃ o, o = (d k).1 := ⟨_, rfl⟩
            obtain ⟨z, hz⟩ : ∃ z, z = (d k).2.1 := ⟨_, rfl⟩
            rw [← ho] at c0
            rw [← hz] at c1
            have HO := Lib.hid (And.intro ho hz)
            clear ho hz
            have j1 : (k : Int) < (i : Int) := by omega
            have j2 : (k : Int) < (n : Int) := by omega
            by_cases hop : o = p
            · have hc : newE d n = 15 := newE_bad hin HC.out (by rw [← HR.out]; exact chkR_same h0 hki (.inl (by rw [← HO.out.1, hop]))) (by omega)
              have HCC := Lib.hid hc
              subst hop
              clear hc
              go_wp2
              go_quiet (fail)
              go_wp2
              go_ret
              exact ⟨ret_int (by rw [HCC.out]), below_drewN (HB.out.trans (HBQ.out.mono HB.out.size)) _⟩
            · have hob : (o == p) = false := by simpa using hop
              by_cases hzq : z = q
              · have hc : newE d n = 15 := newE_bad hin HC.out (by rw [← HR.out]; exact chkR_same h0 hki (.inr (by rw [← HO.out.2, hzq]))) (by omega)
                have HCC := Lib.hid hc
                subst hzq
                clear hc
                go_wp2
                go_quiet (fail)
                go_wp2
                go_ret
                exact ⟨ret_int (by rw [HCC.out]), below_drewN (HB.out.trans (HBQ.out.mono HB.out.size)) _⟩
              · have hzb : (z == q) = false := by simpa using hzq
                go_wp2
                go_quiet (fail)
                go_wp2
                go_roundw
                case rel =>
                  refine ⟨k + 1, by go_num, by omega, Lib.hid fun k' hk' => ?_, HBLK.out.drewN _, below_drewN HBQ.out _⟩
                  by_cases e : k' = k
                  · subst e; rw [← HO.out.1, ← HO.out.2]; exact ⟨hop, hzq⟩
                  · exact HS.out k' (by omega)
                case measure => simp [intOf] <;> omega
          · obtain rfl : k = i := by omega
            have hnx : newE d (k + 1) = 0 := by rw [newE_next HC.out, ← HR.out]; exact chkR_none h0 HS.out
            have HNX := Lib.hid hnx
            clear hnx
            go_wp2
            go_roundw
            case rel => exact ⟨k + 1, by go_num, by omega, HNX, HB.out.trans (HBQ.out.mono HB.out.size)⟩
            case measure => simp [intOf] <;> omega
      · have h0' : mayP (p, q, s) = false := by simpa using h0
        have hc : newE d n = 2 := newE_bad hin HC.out (by rw [← HR.out]; exact chkR_may h0') (by omega)
        have HCC := Lib.hid hc
        have key : p < 1 ∨ (¬ p < 1 ∧ 8 < p) ∨ (¬ p < 1 ∧ ¬ 8 < p ∧ q < 0) ∨ (¬ p < 1 ∧ ¬ 8 < p ∧ ¬ q < 0 ∧ 255 < q) ∨ (¬ p < 1 ∧ ¬ 8 < p ∧ ¬ q < 0 ∧ ¬ 255 < q ∧ s < 0) ∨ (¬ p < 1 ∧ ¬ 8 < p ∧ ¬ q < 0 ∧ ¬ 255 < q ∧ ¬ s < 0 ∧ 16 < s) := by
          have : ¬ (1 ≤ p ∧ p ≤ 8 ∧ 0 ≤ q ∧ q ≤ 255 ∧ 0 ≤ s ∧ s ≤ 16) := fun h => h0 (mayP_iff.2 h)
          omega
        clear hc h0 h0'
        rcases key with u1 | ⟨u1, u2⟩ | ⟨u1, u2, u3⟩ | ⟨u1, u2, u3, u4⟩ | ⟨u1, u2, u3, u4, u5⟩ | ⟨u1, u2, u3, u4, u5, u6⟩
        all_goals
          go_wp2
          go_ret
          exact ⟨ret_int (by rw [HCC.out]), HB.out.alloc HB.out.size _⟩
    · obtain rfl : i = n := by omega
      have i1 : ¬ (i : Int) < (i : Int) := by omega
      go_wp2
      go_ret
      exact ⟨ret_int (by rw [HC.out]), HB.out⟩
end Go.Proofs.Ytjhihccjhnlghaa

/- What is sent comes: the law's parts, by their contracts. -/
namespace Go.Proofs.Ytjhihccjhnlghaa
open Go.RowKit Go.Lib
set_option linter.unusedVariables false

theorem ownI_cases (R : Nat → Rp) (n : Nat) (o : Int) : (∃ i : Nat, i < n ∧ ownI R n o = i ∧ (R i).1 = o) ∨ ownI R n o = -1 := by
  unfold ownI
  cases h : ownP R n o with
  | none => exact .inr rfl
  | some i =>
    unfold ownP at h
    have h1 := List.mem_of_find?_eq_some h
    have h2 := List.find?_some h
    exact .inl ⟨i, by simpa using h1, rfl, by simpa using h2⟩
/-- A device just made of the rows. -/
def NewOK (d : Nat → I3) (n : Nat) (B : Nat) (w' : World) (dd m : Nat) (G : List Gp) : Prop := NicG w' dd m (.slice none 0 0) 0 [] G ∧ G.map Gp.pub = rwN d n ∧ (∀ g ∈ G, g.l = [] ∧ g.dr = 0) ∧ ∀ i, nOwn dd m (.slice none 0 0) G i → B ≤ i
theorem new_ok {A : Option Addr} {n cap : Nat} {d : Nat → I3} {w : World} (hst : RowsN w A n cap d) (hn : n ≤ 1000000) (he : newE d n = 0) :
    Calls Try.prog 8 #[.slice A n cap] w fun e w' => ∃ dd m G, e = .returned (.tuple #[.pointer (some ⟨dd, 0, none⟩), .int .i64 0]) ∧ NewOK d n w.heap.size w' dd m G ∧ Below w.heap.size w w' := by
  refine (nnew_any A n cap d w hst hn).mono fun e w' ⟨h1, h2⟩ => ?_
  rcases h2 with ⟨_, dd, m, G, h3, h4, h5, h6, h7⟩ | ⟨h3, _⟩
  · exact ⟨dd, m, G, h3, ⟨h4, h5, h6, h7⟩, h1⟩
  · exact absurd he h3
theorem pub_inv {g : Gp} {r : I3} (h : g.pub = r) : g.o = r.1 ∧ g.mac = r.2.1 ∧ (g.lim : Int) = r.2.2 := by
  subst h
  exact ⟨rfl, rfl, rfl⟩
theorem NewOK.seat {d : Nat → I3} {n B : Nat} {w' : World} {dd m : Nat} {G : List Gp} (h : NewOK d n B w' dd m G) {i : Nat} (hi : i < n) : ∃ A g C, G = A ++ g :: C ∧ g.o = (d i).1 ∧ g.mac = (d i).2.1 ∧ (g.lim : Int) = (d i).2.2 ∧ g.l = [] ∧ g.dr = 0 ∧ mayP (d i) = true := by
  have hm : d i ∈ G.map Gp.pub := by rw [h.2.1]; exact List.mem_map.2 ⟨i, by simpa using hi, rfl⟩
  obtain ⟨g, hg, hp⟩ := List.mem_map.1 hm
  obtain ⟨A, C, hG⟩ := List.append_of_mem hg
  obtain ⟨h1, h2, h3⟩ := pub_inv hp
  exact ⟨A, g, C, hG, h1, h2, h3, (h.2.2.1 g hg).1, (h.2.2.1 g hg).2, by rw [← hp]; exact (h.1.2.2.2.1 g hg).2⟩
/-- Bytes of a frame from one row to another. -/
def wire (d : Nat → I3) (i k : Nat) (s : ByteArray) : ByteArray := Cr.sealed (Fr.hd (d k).2.1 (d i).2.1 s ++ s)
/-- A sends. -/
theorem NewOK.send {d : Nat → I3} {n B : Nat} {w : World} {dd m : Nat} {G : List Gp} (h : NewOK d n B w dd m G) {i k : Nat} (hi : i < n) (hk : k < n) (s : ByteArray) (hs : s.size ≤ 32) :
    Calls Try.prog 20 #[.pointer (some ⟨dd, 0, none⟩), .int .i64 1, .int .i64 (d i).1, .int .i64 (d k).2.1, .string s] w fun e w' => e = .returned (.int .i64 0) ∧ NicN w dd m (.slice none 0 0) G w' 0 [(1, (d i).1, wire d i k s)] (G.map Gp.sp) := by
  obtain ⟨A, g, C, rfl, h1, h2, h3, _, _, h4⟩ := h.seat hi
  obtain ⟨_, _, _, _, _, _, _, _, _, h5⟩ := h.seat hk
  have m1 := mayP_iff.1 h4
  have m2 := mayP_iff.1 h5
  have hp : Fr.prV (d k).2.1 g.mac s = (wire d i k s, 0) := by rw [h2]; exact Fr.ok_of (by omega) (by omega) (by omega) (by omega) hs
  have := nsend_ok h.1 1 (d k).2.1 s (by omega) (by simp) (by rw [hp])
  rw [hp, h1] at this
  exact this
/-- The log of one. -/
theorem log_one {w : World} {dd m : Nat} {lv : Value} {odd : Int} {G : List Gp} {x1 x2 : Int} {x3 : ByteArray} (h : NicG w dd m lv odd [(x1, x2, x3)] G) :
    Calls Try.prog 21 #[.pointer (some ⟨dd, 0, none⟩)] w fun e w' => ∃ g off c, e = .returned (.slice (some ⟨g, off, none⟩) 1 c) ∧ w'.cell? ⟨g, off + 2, none⟩ = some (.string x3) ∧ Below w.heap.size w w' := by
  refine (nlog_any h (by simp)).mono fun e w' ⟨v', h1, h2, h3, h4⟩ => ?_
  obtain ⟨hl, ⟨rfl, hz⟩ | ⟨g, off, cap, rfl, _, _, _, _, hc⟩⟩ := h2
  · simp at hz
  · exact ⟨g, off, cap, h1, hc 2 _ rfl, h4⟩
/-- B takes it. -/
theorem NewOK.come {d : Nat → I3} {n B : Nat} {w : World} {dd m : Nat} {G : List Gp} (h : NewOK d n B w dd m G) {i k : Nat} (hi : i < n) (hk : k < n) (s : ByteArray) (hs : s.size ≤ 32) (hl : (d k).2.2 ≠ 0) (hB : B ≤ w.heap.size) :
    Calls Try.prog 16 #[.pointer (some ⟨dd, 0, none⟩), .string (wire d i k s)] w fun e w' => e = .returned (.tuple #[.int .i64 (d k).1, .bool true]) ∧ Below B w w' ∧
      ∃ lv' A' g' C', NicG w' dd m lv' 0 [] (A' ++ g' :: C') ∧ (∀ i, nOwn dd m lv' (A' ++ g' :: C') i → B ≤ i) ∧ g'.o = (d k).1 ∧ g'.l = [((d k).2.1, (d i).2.1, s)] := by
  obtain ⟨_, _, _, _, _, _, _, _, _, h4⟩ := h.seat hi
  obtain ⟨A, g, C, rfl, h1, h2, h3, h6, h7, h5⟩ := h.seat hk
  have m1 := mayP_iff.1 h4
  have m2 := mayP_iff.1 h5
  have hb : Fr.paV (wire d i k s) = (((d k).2.1, (d i).2.1, s), 0) := Fr.back (by omega) (by omega) (by omega) (by omega) hs
  have hsz : (wire d i k s).size ≤ 1000 := by
    have h9 : (wire d i k s).size = s.size + 5 := Fr.all_size
    omega
  have hc := ncome_hit (wire d i k s) hsz h.1 (by rw [hb]) (by rw [hb]; exact h2.symm) (by rw [h6]; simp) (by rw [h7]; omega)
  refine hc.mono fun e w' ⟨e1, e2⟩ => ?_
  have hlt : 0 < g.lim := by omega
  rw [h6, h1] at e1
  rw [hb, h6, h7] at e2
  obtain ⟨lv', G', n1, n2, n3, n4⟩ := e2.off h.2.2.2 hB
  have hd : decide (([] : List Frm).length < g.lim) = true := by simpa using hlt
  rw [hd] at e1
  refine ⟨e1, n3, ?_⟩
  have hps : pshL [] g.lim (((d k).2.1, (d i).2.1, s) : Frm) = [((d k).2.1, (d i).2.1, s)] := by simp [pshL, hlt]
  rw [hps] at n2
  have hm : (g.o, g.mac, g.lim, [(((d k).2.1, (d i).2.1, s) : Frm)], pshD [] g.lim 0) ∈ G'.map Gp.sp := by
    rw [n2]
    unfold updS
    refine List.mem_map.2 ⟨g.sp, List.mem_map.2 ⟨g, by simp, rfl⟩, ?_⟩
    simp [Gp.sp]
  obtain ⟨g', hg', hgs⟩ := List.mem_map.1 hm
  obtain ⟨A', C', rfl⟩ := List.append_of_mem hg'
  obtain ⟨q1, _, _, q4, _⟩ := sp_inv hgs
  exact ⟨lv', A', g', C', n1, n4, by rw [q1, h1], q4⟩
end Go.Proofs.Ytjhihccjhnlghaa

/- What is sent comes: the law. -/
namespace Go.Proofs.Ytjhihccjhnlghaa
open Go.RowKit Go.Lib
set_option linter.unusedVariables false

def BackV (w : World) (e : Ending) (w' : World) : Prop := e = .returned (.bool true) ∧ Below w.heap.size w w'
set_option maxRecDepth 20000 in
set_option maxHeartbeats 3200000 in
/-- Where nothing is sent. -/
theorem nback_off (A : Option Addr) (len cap n : Nat) (d : Nat → I3) (fr to : Int) (s : ByteArray) (w : World) (hst : RowsN w A len cap d) (hlc : len ≤ cap) (hcm : cap ≤ 9223372036854775807) (hn : n = min len 8)
    (hoff : newE d n ≠ 0 ∨ (newE d n = 0 ∧ ownI (frp d) n fr < 0) ∨ (newE d n = 0 ∧ ¬ ownI (frp d) n fr < 0 ∧ ownI (frp d) n to < 0) ∨ (newE d n = 0 ∧ ¬ ownI (frp d) n fr < 0 ∧ ¬ ownI (frp d) n to < 0 ∧ (32 : Int) < (s.size : Int))) :
    Calls Try.prog 5 #[.slice A len cap, .int .i64 fr, .int .i64 to, .string s] w (BackV w) := by
  have HP := Lib.hid (ports_any A len cap d w hst hlc hcm)
  rw [← hn] at HP
  have hn8 : n ≤ 8 := by omega
  have HO1 := Lib.hid (fun (A2 : Option Addr) (c2 : Nat) (W : World) (h : PortsV W A2 n (frp d)) => rowner_any A2 n c2 (frp d) fr W h (by omega))
  have HO2 := Lib.hid (fun (A2 : Option Addr) (c2 : Nat) (W : World) (h : PortsV W A2 n (frp d)) => rowner_any A2 n c2 (frp d) to W h (by omega))
  have HK := Lib.hid (fun (A2 : Option Addr) (c2 : Nat) (W : World) (h : PortsV W A2 n (frp d)) => show Calls Try.prog 9 #[.slice A2 n c2] W (fun e w' => e = .returned (.int .i64 (newE d n)) ∧ Below W.heap.size W w') from rcheck_any A2 n c2 d W h (by omega))
  have HL := Lib.hid (fun W => nlive_any W)
  generalize newE d n = c at HK hoff
  generalize ownI (frp d) n fr = iv at HO1 hoff
  generalize ownI (frp d) n to = kv at HO2 hoff
  clear hst hn hn8 hlc hcm
  rcases hoff with h1 | ⟨rfl, h2⟩ | ⟨rfl, h2, h3⟩ | ⟨rfl, h2, h3, h4⟩
  all_goals
    try have h1' : (c != 0) = true := by simpa using h1
    go_enter Try.func5, Try.ntmps5
    go_wp2_with (first
      | (go_at_call 7; have HH := HP.out; unfold PortsR at HH; refine HH.mono ?_; clear HH; rintro e w1 ⟨A2, c2, rfl, o1, b1⟩; have P1 := Lib.hid o1.ports; have B1 := Lib.hid b1; clear o1 b1)
      | (go_at_call 15; (with_reducible refine (HO1.out _ _ _ P1.out).mono ?_); rintro e w2 ⟨rfl, rfl⟩)
      | (go_at_call 15; (with_reducible refine (HO2.out _ _ _ P1.out).mono ?_); rintro e w3 ⟨rfl, rfl⟩)
      | (go_at_call 9; (with_reducible refine (HK.out _ _ _ P1.out).mono ?_); rintro e w4 ⟨rfl, b4⟩; have B4 := Lib.hid (B1.out.trans (b4.mono B1.out.size)); clear b4)
      | (go_at_call 10; (with_reducible refine (HL.out _).mono ?_); rintro e w5 ⟨rfl, b5⟩; have B5 := Lib.hid (B4.out.trans (b5.mono B4.out.size)); clear b5))
    go_ret
    exact ⟨rfl, B5.out⟩
set_option maxRecDepth 20000 in
set_option maxHeartbeats 3200000 in
/-- Where the port has no room. -/
theorem nback_zero (A : Option Addr) (len cap n : Nat) (d : Nat → I3) (fr to : Int) (s : ByteArray) (w : World) (hst : RowsN w A len cap d) (hlc : len ≤ cap) (hcm : cap ≤ 9223372036854775807) (hn : n = min len 8)
    (he : newE d n = 0) (hi : ¬ ownI (frp d) n fr < 0) (k : Nat) (hk : k < n) (hko : ownI (frp d) n to = k) (hs : ¬ (32 : Int) < (s.size : Int)) (hl : (d k).2.2 = 0) :
    Calls Try.prog 5 #[.slice A len cap, .int .i64 fr, .int .i64 to, .string s] w (BackV w) := by
  have HP := Lib.hid (ports_any A len cap d w hst hlc hcm)
  rw [← hn] at HP
  have hn8 : n ≤ 8 := by omega
  have HO1 := Lib.hid (fun (A2 : Option Addr) (c2 : Nat) (W : World) (h : PortsV W A2 n (frp d)) => rowner_any A2 n c2 (frp d) fr W h (by omega))
  have HO2 := Lib.hid (fun (A2 : Option Addr) (c2 : Nat) (W : World) (h : PortsV W A2 n (frp d)) => rowner_any A2 n c2 (frp d) to W h (by omega))
  have HK := Lib.hid (fun (A2 : Option Addr) (c2 : Nat) (W : World) (h : PortsV W A2 n (frp d)) => show Calls Try.prog 9 #[.slice A2 n c2] W (fun e w' => e = .returned (.int .i64 (newE d n)) ∧ Below W.heap.size W w') from rcheck_any A2 n c2 d W h (by omega))
  have HL := Lib.hid (fun W => nlive_any W)
  rw [he] at HK
  rw [hko] at HO2
  generalize ownI (frp d) n fr = iv at HO1 hi
  have hlk : (frp d k).2.2.1 = 0 := hl
  have HLK := Lib.hid hlk
  have k1 : (k : Int) < (n : Int) := by omega
  have k2 : ¬ (k : Int) < 0 := by omega
  clear hst hn hn8 hlc hcm he hko hl hlk
  go_enter Try.func5, Try.ntmps5
  go_wp2_with (first
    | (go_at_call 7; have HH := HP.out; unfold PortsR at HH; refine HH.mono ?_; clear HH; rintro e w1 ⟨A2, c2, rfl, o1, b1⟩; have P1 := Lib.hid o1.ports; obtain ⟨g2, rfl, hg2, hc2⟩ := P1.out (by omega); have HC2 := Lib.hid ((hc2 k hk).2.2.1.trans (by rw [HLK.out])); have HG2 := Lib.hid hg2; have B1 := Lib.hid b1; clear o1 b1 hc2 hg2)
    | (go_at_call 15; (with_reducible refine (HO1.out _ _ _ P1.out).mono ?_); rintro e w2 ⟨rfl, rfl⟩)
    | (go_at_call 15; (with_reducible refine (HO2.out _ _ _ P1.out).mono ?_); rintro e w3 ⟨rfl, rfl⟩)
    | (go_at_call 9; (with_reducible refine (HK.out _ _ _ P1.out).mono ?_); rintro e w4 ⟨rfl, b4⟩; have B4 := Lib.hid (B1.out.trans (b4.mono B1.out.size)); have c4 := (b4.cell (p := ⟨g2, k * 5 + 2, none⟩) HG2.out).trans HC2.out; clear b4)
    | (go_at_call 10; (with_reducible refine (HL.out _).mono ?_); rintro e w5 ⟨rfl, b5⟩; have B5 := Lib.hid (B4.out.trans (b5.mono B4.out.size)); clear b5))
  go_ret
  exact ⟨rfl, B5.out⟩
end Go.Proofs.Ytjhihccjhnlghaa

/- Frames that are the same. -/
namespace Go.Proofs.Ytjhihccjhnlghaa
open Go.RowKit Go.Lib
theorem eq_frm (a b : Int) (s : ByteArray) (w : World) : (binOp BinOp.eql 46 (.agg #[.int .i64 a, .int .i64 b, .string s]) (.agg #[.int .i64 a, .int .i64 b, .string s])).run Try.prog w = .ok (.bool true) w := by
  rw [run_eql_struct, run_equalIn_agg w 9999 _ _ _ (by kernel_rfl) (by kernel_rfl)]
  have hf : (Try.prog.fieldsOf 46).toList.map (fun f => (f.name, f.type, f.offset)) = [("To", 3, 0), ("From", 3, 1), ("Data", 9, 2)] := by kernel_rfl
  generalize (Try.prog.fieldsOf 46).toList = fs at hf
  have hlen := congrArg List.length hf
  simp only [List.length_map, List.length_cons, List.length_nil] at hlen
  obtain ⟨f0, f1, f2, rfl⟩ : ∃ f0 f1 f2, fs = [f0, f1, f2] := by
    rcases fs with _ | ⟨f0, _ | ⟨f1, _ | ⟨f2, _ | ⟨f3, r⟩⟩⟩⟩
    · simp at hlen
    · simp at hlen
    · simp at hlen
    · exact ⟨f0, f1, f2, rfl⟩
    · simp at hlen
  simp only [List.map_cons, List.map_nil, List.cons.injEq, Prod.mk.injEq, and_true] at hf
  obtain ⟨⟨a1, a2, a3⟩, ⟨b1, b2, b3⟩, ⟨c1, c2, c3⟩⟩ := hf
  simp [Op.eqFields, a1, a2, a3, b1, b2, b3, c1, c2, c3, part, run_equalIn_int _ _ _ _ _ _ _ Try.underlying3, go_sem]
  done
end Go.Proofs.Ytjhihccjhnlghaa
