/- First: which of the first ones meets the one found; the contract of First. -/
import Derived.Test.YtgineifljofljaaA2
import Derived.Deep.RegionHeld3
namespace Go.Proofs.Ytgineifljofljaa
open Go.RowKit Go.Lib Go.Sort
set_option linter.unusedVariables false

set_option maxHeartbeats 3200000 in
theorem meets_at (A : Option Addr) (n cap : Nat) (d : Nat → Int × Int) (g gk k : Nat) (s : Int × Int) (w : World) (hsp : Spans w A n cap d) (hg : Boxed w g A n cap) (hgk : w.cell? ⟨gk, 0, none⟩ = some (.int .i64 k)) (hgl : gk < w.heap.size) (hk : k < n) (hn : n ≤ 60) :
    Calls Try.prog 33 #[spv s, .pointer (some ⟨g, 0, none⟩), .pointer (some ⟨gk, 0, none⟩)] w fun e w' => e = .returned (.bool (meetsB s (d k))) ∧ Below w.heap.size w w' := by
  obtain ⟨b, off, rfl, hbl, hc⟩ := hsp.2 (by omega)
  have c2 := (hc k hk).1
  have c3 := (hc k hk).2
  obtain ⟨y, hy⟩ : ∃ y, y = d k := ⟨_, rfl⟩
  rw [← hy] at c2 c3 ⊢
  obtain ⟨r, hr⟩ : ∃ r, r = meetsB s y := ⟨_, rfl⟩
  obtain ⟨v, hv⟩ : ∃ v, v = meetV s y := ⟨_, rfl⟩
  have hcall : ∀ W, Calls Try.prog 9 #[spv s, spv y] W fun e w' => e = .returned (.tuple #[spv v, .bool r]) ∧ W.grownBy w' none := fun W => by rw [hr, hv]; exact meet_any s y W
  rw [← hr]
  have HCALL := Lib.hid hcall
  have c0 := hg.1
  have hgl2 := hg.2
  have i1 : (k : Int) < (n : Int) := by omega
  have i0 : (0 : Int) ≤ (k : Int) := by omega
  clear hcall hr hv hsp hg hc hy
  obtain ⟨s1, s2⟩ := s
  obtain ⟨y1, y2⟩ := y
  simp only at c2 c3
  have hold : ∀ W, Below w.heap.size w W → W.cell? ⟨g, 0, none⟩ = some (.slice (some ⟨b, off, none⟩) n cap) ∧ W.cell? ⟨gk, 0, none⟩ = some (.int .i64 k) ∧ W.cell? ⟨b, off + k * 2, none⟩ = some (.int .i64 y1) ∧ W.cell? ⟨b, off + k * 2 + 1, none⟩ = some (.int .i64 y2) := fun W h =>
    ⟨(h.cell (p := ⟨g, 0, none⟩) hgl2).trans c0, (h.cell (p := ⟨gk, 0, none⟩) hgl).trans hgk, (h.cell (p := ⟨b, off + k * 2, none⟩) hbl).trans c2, (h.cell (p := ⟨b, off + k * 2 + 1, none⟩) hbl).trans c3⟩
  have HOLD := Lib.hid hold
  have n0 := World.new_ne w _ c0
  have n1 := World.new_ne w _ hgk
  have n2 := World.new_ne w _ c2
  have n3 := World.new_ne w _ c3
  have q0 : ¬ g = w.heap.size + 1 := by omega
  have q1 : ¬ gk = w.heap.size + 1 := by omega
  have q2 : ¬ b = w.heap.size + 1 := by omega
  have q0' : ¬ w.heap.size + 1 = g := by omega
  have q1' : ¬ w.heap.size + 1 = gk := by omega
  have q2' : ¬ w.heap.size + 1 = b := by omega
  clear hold
  go_enter Try.func33, Try.ntmps33
  go_wp2_with fail
  go_region_held3 (fun w' => w'.cell? ⟨w.heap.size, 0, none⟩ = some (.int .i64 s1) ∧ w'.cell? ⟨w.heap.size, 1, none⟩ = some (.int .i64 s2) ∧ w'.cell? ⟨g, 0, none⟩ = some (.slice (some ⟨b, off, none⟩) n cap) ∧ w'.cell? ⟨gk, 0, none⟩ = some (.int .i64 k) ∧ w'.cell? ⟨b, off + k * 2, none⟩ = some (.int .i64 y1) ∧ w'.cell? ⟨b, off + k * 2 + 1, none⟩ = some (.int .i64 y2)) (first | exact ⟨e0, e1, k0, k1, k2, k3⟩ | go_keep) (first
    | (go_at_call 9; refine (HCALL.out ((w.alloc (.cells #[.int .i64 s1, .int .i64 s2] 23)).drew)).mono ?_; rintro e w3 ⟨rfl, g3⟩; have hS := (show Blk (w.alloc (.cells #[.int .i64 s1, .int .i64 s2] 23)).drew w.heap.size 23 #[.int .i64 s1, .int .i64 s2] from Blk.new w _ _).only g3 (by simp); have e0 := hS.cell 0; have e1 := hS.cell 1; simp at e0 e1; have hB3 := ((below_drewN ((Below.refl w.heap.size w).alloc (Nat.le_refl _) (.cells #[.int .i64 s1, .int .i64 s2] 23)) 1).trans (below_of_only g3 (by simp) (by simp)) : Below w.heap.size w w3); obtain ⟨k0, k1, k2, k3⟩ := HOLD.out w3 hB3; have HB3 := Lib.hid hB3; clear hS hB3 g3)
    | (go_at_call 9; refine (HCALL.out ((w.alloc (.cells #[.int .i64 s1, .int .i64 s2] 23)).drew.alloc (.cells #[.int .i64 0, .int .i64 0] 23))).mono ?_; rintro e w3 ⟨rfl, g3⟩; have hS := ((show Blk (w.alloc (.cells #[.int .i64 s1, .int .i64 s2] 23)).drew w.heap.size 23 #[.int .i64 s1, .int .i64 s2] from Blk.new w _ _).alloc (.cells #[.int .i64 0, .int .i64 0] 23)).only g3 (by simp); have e0 := hS.cell 0; have e1 := hS.cell 1; simp at e0 e1; have HZ3 := Lib.hid ((Blk.new (w.alloc (.cells #[.int .i64 s1, .int .i64 s2] 23)).drew 23 #[.int .i64 0, .int .i64 0]).only g3 (by simp)); have z0 := HZ3.out.cell 0; have z1 := HZ3.out.cell 1; have y0 := HZ3.out.free 0; have y1' := HZ3.out.free 1; simp at z0 z1 y0 y1'; have hB3 := (((below_drewN ((Below.refl w.heap.size w).alloc (Nat.le_refl _) (.cells #[.int .i64 s1, .int .i64 s2] 23)) 1).alloc (by simp) (.cells #[.int .i64 0, .int .i64 0] 23)).trans (below_of_only g3 (by simp; omega) (by simp)) : Below w.heap.size w w3); obtain ⟨k0, k1, k2, k3⟩ := HOLD.out w3 hB3; have HB3 := Lib.hid hB3; clear hS hB3 g3))
  · have HF := Lib.hid (HB3.out.alloc HB3.out.size (.cells #[.int .i64 v.1, .int .i64 v.2] 23))
    clear k0 k1 k2 k3 e0 e1
    go_wp2
    go_ret
    exact ⟨rfl, HF.out⟩
  · have HF := Lib.hid ((HB3.out.setCell (p := ⟨w.heap.size + 1, 0, none⟩) (by simp) (.int .i64 v.1)).setCell (p := ⟨w.heap.size + 1, 1, none⟩) (by simp) (.int .i64 v.2))
    clear k0 k1 k2 k3 e0 e1 z0 z1 y0 y1'
    generalize (w3.setCell ⟨w.heap.size + 1, 0, none⟩ (.int .i64 v.1)).setCell ⟨w.heap.size + 1, 1, none⟩ (.int .i64 v.2) = wf at *
    go_wp2
    go_ret
    exact ⟨rfl, HF.out⟩

/-- Which of the first k meets the one at k first. -/
def MeetV' (d : Nat → Int × Int) (k : Nat) (w : World) (e : Ending) (w' : World) : Prop :=
  ∃ j : Int, e = .returned (.int .i64 j) ∧ ((j = -1 ∧ ∀ i, i < k → meetsB (d i) (d k) = false) ∨ ∃ i : Nat, j = i ∧ i < k ∧ meetsB (d i) (d k) = true ∧ ∀ i', i' < i → meetsB (d i') (d k) = false) ∧ Below w.heap.size w w'
set_option maxHeartbeats 1600000 in
theorem indexm_any (A : Option Addr) (n cap : Nat) (d : Nat → Int × Int) (g gk k : Nat) (w : World) (hsp : Spans w A n cap d) (hg : Boxed w g A n cap) (hgk : w.cell? ⟨gk, 0, none⟩ = some (.int .i64 k)) (hgl : gk < w.heap.size) (hk : k < n) (hn : n ≤ 60) :
    Calls Try.prog 32 #[.slice A k cap, .func (.func 33) #[] #[.pointer (some ⟨g, 0, none⟩), .pointer (some ⟨gk, 0, none⟩)]] w (MeetV' d k w) := by
  have HSP := Lib.hid hsp
  have HGB := Lib.hid hg
  have HGK := Lib.hid hgk
  clear hsp hg hgk
  go_enter Try.func32, Try.ntmps32
  go_wp2
  go_loopw [8] (fun x wr => ∃ (i : Nat), x = .int .i64 i ∧ i ≤ k ∧ Hid (∀ i', i' < i → meetsB (d i') (d k) = false) ∧ Below w.heap.size w wr) (fun x _ => k - (intOf x).toNat)
  case atStart => exact ⟨0, rfl, by omega, Lib.hid (fun i h => by omega), Below.refl _ _⟩
  case round =>
    obtain ⟨i, rfl, hi, HF, hb⟩ := hrel
    have HBE := Lib.hid hb
    clear hb
    by_cases hik : i < k
    · obtain ⟨b1, o1, rfl, hb1, hc1⟩ := (HSP.out.below HBE.out).2 (by omega)
      have c0 := (hc1 i (by omega)).1
      have c1 := (hc1 i (by omega)).2
      clear hc1
      have i1 : (i : Int) < (k : Int) := by omega
      obtain ⟨r, hr⟩ : ∃ r, r = meetsB (d i) (d k) := ⟨_, rfl⟩
      have hcall := fun W (hW : Below w.heap.size w W) => meets_at _ n cap d g gk k (d i) W (HSP.out.below hW) (HGB.out.below hW) ((hW.cell (p := ⟨gk, 0, none⟩) hgl).trans HGK.out) (Nat.lt_of_lt_of_le hgl hW.size) hk hn
      obtain ⟨x, hx⟩ : ∃ x, x = d i := ⟨_, rfl⟩
      rw [← hr] at hcall
      rw [← hx] at c0 c1 hcall
      have HCALL := Lib.hid (hcall _ HBE.out)
      have HR := Lib.hid hr
      clear hcall hr hx
      cases r with
      | true =>
        go_wp2_with (go_at_call 33; refine HCALL.out.mono ?_; rintro e w2 ⟨rfl, b2⟩; have HB2 := Lib.hid (HBE.out.trans (b2.mono HBE.out.size)); clear b2)
        go_ret
        exact ⟨i, rfl, .inr ⟨i, rfl, hik, HR.out.symm, HF.out⟩, HB2.out⟩
      | false =>
        go_wp2_with (go_at_call 33; refine HCALL.out.mono ?_; rintro e w2 ⟨rfl, b2⟩; have HB2 := Lib.hid (HBE.out.trans (b2.mono HBE.out.size)); clear b2)
        go_roundw
        case rel =>
          refine ⟨i + 1, by go_num, by omega, Lib.hid fun i' hi' => ?_, HB2.out⟩
          by_cases e : i' = i
          · subst e; exact HR.out.symm
          · exact HF.out i' (by omega)
        case measure => simp [intOf] <;> omega
    · obtain rfl : i = k := by omega
      go_wp2
      go_ret
      exact ⟨-1, rfl, .inl ⟨rfl, HF.out⟩, HBE.out⟩

set_option maxRecDepth 100000 in
set_option maxHeartbeats 1600000 in
theorem first_any (A : Option Addr) (n cap : Nat) (d : Nat → Int × Int) (w : World) (hsp : Spans w A n cap d) (hn : n ≤ 60) (hc : n ≤ cap) (hcap : cap ≤ 9223372036854775807) :
    Calls Try.prog 17 #[.slice A n cap] w (FirstV d n w) := by
  have hbox : Boxed (w.alloc (.cells #[.slice A n cap] 31)) w.heap.size A n cap := ⟨(Blk.new w 31 #[.slice A n cap]).cell 0, (Blk.new w 31 #[.slice A n cap]).lt⟩
  have hb0 := (Below.refl w.heap.size w).alloc (Nat.le_refl _) (.cells #[.slice A n cap] 31)
  have hse := search_any A n cap d w.heap.size _ (hsp.below hb0) hn hc hbox hcap
  have HSE := Lib.hid hse
  have HSP := Lib.hid hsp
  have HBOX := Lib.hid hbox
  have HB0 := Lib.hid hb0
  clear hse hsp hbox hb0
  go_enter Try.func17, Try.ntmps17
  go_wp2_with fail
  refine HSE.out.mono ?_
  rintro e w2 ⟨k, rfl, hk, h0, h1, b2⟩
  have H0 := Lib.hid h0
  have H1 := Lib.hid h1
  have hbox2 := HBOX.out.below b2
  have hb2 := HB0.out.trans (b2.mono (by simp))
  -- the box of k
  have hblk := Blk.new w2 3 #[.int .i64 k]
  have hb3 := hb2.alloc hb2.size (.cells #[.int .i64 k] 3)
  have hbox3 := hbox2.below ((Below.refl w2.heap.size w2).alloc (Nat.le_refl _) (.cells #[.int .i64 k] 3))
  have c0 := hbox3.1
  have HB3 := Lib.hid hb3
  have HBOX3 := Lib.hid hbox3
  have HBLK := Lib.hid hblk
  clear h0 h1 b2 hb2 hb3 hbox2 hbox3 hblk HB0 HBOX HSE
  by_cases hkn : k < n
  · have him := indexm_any A n cap d w.heap.size w2.heap.size k _ (HSP.out.below HB3.out) HBOX3.out (HBLK.out.cell 0) HBLK.out.lt hkn hn
    have HIM := Lib.hid him
    have i1 : (k : Int) < (n : Int) := by omega
    have i2 : (k : Int) ≤ (cap : Int) := by omega
    have hne : ¬ k = n := by omega
    clear him
    go_wp2_with fail
    refine HIM.out.mono ?_
    rintro e w3 ⟨j, rfl, hj, b3⟩
    have hkc : w3.cell? ⟨w2.heap.size, 0, none⟩ = some (.int .i64 k) := (b3.cell (p := ⟨w2.heap.size, 0, none⟩) HBLK.out.lt).trans (HBLK.out.cell 0)
    have HJ := Lib.hid hj
    have HB4 := Lib.hid (HB3.out.trans (b3.mono HB3.out.size))
    clear hj b3 c0
    go_wp2
    go_quiet (fail)
    go_wp2
    go_ret2
    refine ⟨_, _, rfl, ?_, below_drewN HB4.out _⟩
    rcases HJ.out with ⟨_, hno⟩ | ⟨i, rfl, hik, hm, hl⟩
    · exfalso
      obtain ⟨k', hk', i, hi, hm⟩ := (pairB_iff d (k + 1)).1 (H1.out hkn)
      by_cases e : k' = k
      · subst e
        rw [hno i hi] at hm
        cases hm
      · have := (pairB_none d k).1 H0.out k' (by omega) i hi
        rw [this] at hm
        cases hm
    · exact .inr ⟨i, k, rfl, rfl, hik, hkn, hm, hl, (pairB_none d k).1 H0.out⟩
  · obtain rfl : k = n := by omega
    go_wp2
    go_ret2
    exact ⟨_, _, rfl, .inl ⟨rfl, rfl, (pairB_none d k).1 H0.out⟩, HB3.out⟩
theorem first_one {d : Nat → Int × Int} {n : Nat} {x y u v : Int} (h : First d n x y) (k : First d n u v) : x = u ∧ y = v := by
  rcases h with ⟨h1, h2, h3⟩ | ⟨i, a, h1, h2, h3, h4, h5, h6, h7⟩
  · rcases k with ⟨k1, k2, _⟩ | ⟨j, b, _, _, k3, k4, k5, _, _⟩
    · exact ⟨h1.trans k1.symm, h2.trans k2.symm⟩
    · rw [h3 b k4 j k3] at k5
      cases k5
  · rcases k with ⟨_, _, k3⟩ | ⟨j, b, k1, k2, k3, k4, k5, k6, k7⟩
    · rw [k3 a h4 i h3] at h5
      cases h5
    · have e1 : a = b := by
        rcases Nat.lt_trichotomy a b with q | q | q
        · rw [k7 a q i h3] at h5; cases h5
        · exact q
        · rw [h7 b q j k3] at k5; cases k5
      subst e1
      have e2 : i = j := by
        rcases Nat.lt_trichotomy i j with q | q | q
        · rw [k6 i q] at h5; cases h5
        · exact q
        · rw [h6 j q] at k5; cases k5
      subst e2
      exact ⟨h1.trans k1.symm, h2.trans k2.symm⟩
end Go.Proofs.Ytgineifljofljaa
