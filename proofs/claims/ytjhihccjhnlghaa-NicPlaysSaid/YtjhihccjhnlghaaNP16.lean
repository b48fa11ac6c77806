/- What is sent comes: the law's parts, by their contracts. -/
import Derived.Test.YtjhihccjhnlghaaNP14
import Derived.Test.YtjhihccjhnlghaaNP15
namespace Go.Proofs.Ytjhihccjhnlghaa
open Go.RowKit Go.Lib
set_option linter.unusedVariables false

theorem ownI_cases (R : Nat → Rp) (n : Nat) (o : Int) : (∃ i : Nat, i < n ∧ ownI R n o = i ∧ (R i).1 = o) ∨ ownI R n o = -1 := by
  unfold ownI
  cases h : ownP R n o with
  | none => exact .inr rfl
  | some i =>
    unfold ownP at h
    have h1 := List.mem_of_find?_eq_some h
    have h2 := List.find?_some h
    exact .inl ⟨i, by simpa using h1, rfl, by simpa using h2⟩
/-- A device just made of the rows. -/
def NewOK (d : Nat → I3) (n : Nat) (B : Nat) (w' : World) (dd m : Nat) (G : List Gp) : Prop := NicG w' dd m (.slice none 0 0) 0 [] G ∧ G.map Gp.pub = rwN d n ∧ (∀ g ∈ G, g.l = [] ∧ g.dr = 0) ∧ ∀ i, nOwn dd m (.slice none 0 0) G i → B ≤ i
theorem new_ok {A : Option Addr} {n cap : Nat} {d : Nat → I3} {w : World} (hst : RowsN w A n cap d) (hn : n ≤ 1000000) (he : newE d n = 0) :
    Calls Try.prog 8 #[.slice A n cap] w fun e w' => ∃ dd m G, e = .returned (.tuple #[.pointer (some ⟨dd, 0, none⟩), .int .i64 0]) ∧ NewOK d n w.heap.size w' dd m G ∧ Below w.heap.size w w' := by
  refine (nnew_any A n cap d w hst hn).mono fun e w' ⟨h1, h2⟩ => ?_
  rcases h2 with ⟨_, dd, m, G, h3, h4, h5, h6, h7⟩ | ⟨h3, _⟩
  · exact ⟨dd, m, G, h3, ⟨h4, h5, h6, h7⟩, h1⟩
  · exact absurd he h3
theorem pub_inv {g : Gp} {r : I3} (h : g.pub = r) : g.o = r.1 ∧ g.mac = r.2.1 ∧ (g.lim : Int) = r.2.2 := by
  subst h
  exact ⟨rfl, rfl, rfl⟩
theorem NewOK.seat {d : Nat → I3} {n B : Nat} {w' : World} {dd m : Nat} {G : List Gp} (h : NewOK d n B w' dd m G) {i : Nat} (hi : i < n) : ∃ A g C, G = A ++ g :: C ∧ g.o = (d i).1 ∧ g.mac = (d i).2.1 ∧ (g.lim : Int) = (d i).2.2 ∧ g.l = [] ∧ g.dr = 0 ∧ mayP (d i) = true := by
  have hm : d i ∈ G.map Gp.pub := by rw [h.2.1]; exact List.mem_map.2 ⟨i, by simpa using hi, rfl⟩
  obtain ⟨g, hg, hp⟩ := List.mem_map.1 hm
  obtain ⟨A, C, hG⟩ := List.append_of_mem hg
  obtain ⟨h1, h2, h3⟩ := pub_inv hp
  exact ⟨A, g, C, hG, h1, h2, h3, (h.2.2.1 g hg).1, (h.2.2.1 g hg).2, by rw [← hp]; exact (h.1.2.2.2.1 g hg).2⟩
/-- Bytes of a frame from one row to another. -/
def wire (d : Nat → I3) (i k : Nat) (s : ByteArray) : ByteArray := Cr.sealed (Fr.hd (d k).2.1 (d i).2.1 s ++ s)
/-- A sends. -/
theorem NewOK.send {d : Nat → I3} {n B : Nat} {w : World} {dd m : Nat} {G : List Gp} (h : NewOK d n B w dd m G) {i k : Nat} (hi : i < n) (hk : k < n) (s : ByteArray) (hs : s.size ≤ 32) :
    Calls Try.prog 20 #[.pointer (some ⟨dd, 0, none⟩), .int .i64 1, .int .i64 (d i).1, .int .i64 (d k).2.1, .string s] w fun e w' => e = .returned (.int .i64 0) ∧ NicN w dd m (.slice none 0 0) G w' 0 [(1, (d i).1, wire d i k s)] (G.map Gp.sp) := by
  obtain ⟨A, g, C, rfl, h1, h2, h3, _, _, h4⟩ := h.seat hi
  obtain ⟨_, _, _, _, _, _, _, _, _, h5⟩ := h.seat hk
  have m1 := mayP_iff.1 h4
  have m2 := mayP_iff.1 h5
  have hp : Fr.prV (d k).2.1 g.mac s = (wire d i k s, 0) := by rw [h2]; exact Fr.ok_of (by omega) (by omega) (by omega) (by omega) hs
  have := nsend_ok h.1 1 (d k).2.1 s (by omega) (by simp) (by rw [hp])
  rw [hp, h1] at this
  exact this
/-- The log of one. -/
theorem log_one {w : World} {dd m : Nat} {lv : Value} {odd : Int} {G : List Gp} {x1 x2 : Int} {x3 : ByteArray} (h : NicG w dd m lv odd [(x1, x2, x3)] G) :
    Calls Try.prog 21 #[.pointer (some ⟨dd, 0, none⟩)] w fun e w' => ∃ g off c, e = .returned (.slice (some ⟨g, off, none⟩) 1 c) ∧ w'.cell? ⟨g, off + 2, none⟩ = some (.string x3) ∧ Below w.heap.size w w' := by
  refine (nlog_any h (by simp)).mono fun e w' ⟨v', h1, h2, h3, h4⟩ => ?_
  obtain ⟨hl, ⟨rfl, hz⟩ | ⟨g, off, cap, rfl, _, _, _, _, hc⟩⟩ := h2
  · simp at hz
  · exact ⟨g, off, cap, h1, hc 2 _ rfl, h4⟩
/-- B takes it. -/
theorem NewOK.come {d : Nat → I3} {n B : Nat} {w : World} {dd m : Nat} {G : List Gp} (h : NewOK d n B w dd m G) {i k : Nat} (hi : i < n) (hk : k < n) (s : ByteArray) (hs : s.size ≤ 32) (hl : (d k).2.2 ≠ 0) (hB : B ≤ w.heap.size) :
    Calls Try.prog 16 #[.pointer (some ⟨dd, 0, none⟩), .string (wire d i k s)] w fun e w' => e = .returned (.tuple #[.int .i64 (d k).1, .bool true]) ∧ Below B w w' ∧
      ∃ lv' A' g' C', NicG w' dd m lv' 0 [] (A' ++ g' :: C') ∧ (∀ i, nOwn dd m lv' (A' ++ g' :: C') i → B ≤ i) ∧ g'.o = (d k).1 ∧ g'.l = [((d k).2.1, (d i).2.1, s)] := by
  obtain ⟨_, _, _, _, _, _, _, _, _, h4⟩ := h.seat hi
  obtain ⟨A, g, C, rfl, h1, h2, h3, h6, h7, h5⟩ := h.seat hk
  have m1 := mayP_iff.1 h4
  have m2 := mayP_iff.1 h5
  have hb : Fr.paV (wire d i k s) = (((d k).2.1, (d i).2.1, s), 0) := Fr.back (by omega) (by omega) (by omega) (by omega) hs
  have hsz : (wire d i k s).size ≤ 1000 := by
    have h9 : (wire d i k s).size = s.size + 5 := Fr.all_size
    omega
  have hc := ncome_hit (wire d i k s) hsz h.1 (by rw [hb]) (by rw [hb]; exact h2.symm) (by rw [h6]; simp) (by rw [h7]; omega)
  refine hc.mono fun e w' ⟨e1, e2⟩ => ?_
  have hlt : 0 < g.lim := by omega
  rw [h6, h1] at e1
  rw [hb, h6, h7] at e2
  obtain ⟨lv', G', n1, n2, n3, n4⟩ := e2.off h.2.2.2 hB
  have hd : decide (([] : List Frm).length < g.lim) = true := by simpa using hlt
  rw [hd] at e1
  refine ⟨e1, n3, ?_⟩
  have hps : pshL [] g.lim (((d k).2.1, (d i).2.1, s) : Frm) = [((d k).2.1, (d i).2.1, s)] := by simp [pshL, hlt]
  rw [hps] at n2
  have hm : (g.o, g.mac, g.lim, [(((d k).2.1, (d i).2.1, s) : Frm)], pshD [] g.lim 0) ∈ G'.map Gp.sp := by
    rw [n2]
    unfold updS
    refine List.mem_map.2 ⟨g.sp, List.mem_map.2 ⟨g, by simp, rfl⟩, ?_⟩
    simp [Gp.sp]
  obtain ⟨g', hg', hgs⟩ := List.mem_map.1 hm
  obtain ⟨A', C', rfl⟩ := List.append_of_mem hg'
  obtain ⟨q1, _, _, q4, _⟩ := sp_inv hgs
  exact ⟨lv', A', g', C', n1, n4, by rw [q1, h1], q4⟩
end Go.Proofs.Ytjhihccjhnlghaa
