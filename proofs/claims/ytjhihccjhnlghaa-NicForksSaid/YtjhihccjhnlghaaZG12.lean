import Derived.Test.YtjhihccjhnlghaaZG11
import Derived.Test.YtjhihccjhnlghaaZG09
import Derived.Deep.AppendLies
import Derived.Deep.RegionLaw
set_option linter.all false
/- Frames: For, the short trial, and plain facts for the laws. -/
namespace Go.Proofs.Ytjhihccjhnlghaa
open Go.RowKit Go.Lib
set_option linter.unusedVariables false

namespace Fr
section
variable {t f : Int} {d : ByteArray}
theorem prefix_bt {x y : ByteArray} {i : Nat} (h : i < x.size) : bt (x ++ y) i = bt x i := by
  have h' : i < (x ++ y).size := by rw [ByteArray.size_append]; omega
  rw [bt_of h', bt_of h, ByteArray.getElem_append_left h]
theorem hd0 (h0 : 0 ≤ t) (h1 : t ≤ 255) : (bt (hd t f d) 0 : Int) = t := by
  rw [bt_of (by rw [hd_size]; decide)]
  show ((UInt8.ofNat t.toNat).toNat : Int) = t
  simp
  omega
theorem hd1 (h0 : 0 ≤ f) (h1 : f ≤ 255) : (bt (hd t f d) 1 : Int) = f := by
  rw [bt_of (by rw [hd_size]; decide)]
  show ((UInt8.ofNat f.toNat).toNat : Int) = f
  simp
  omega
theorem hd2 (h : d.size ≤ 32) : bt (hd t f d) 2 = d.size := by
  rw [bt_of (by rw [hd_size]; decide)]
  show (UInt8.ofNat d.size).toNat = d.size
  simp
  omega
theorem all_bt (i : Nat) (hi : i < 3) (z : ByteArray) : bt (Cr.sealed (hd t f d ++ d) ++ z) i = bt (hd t f d) i := by
  rw [Cr.sealed, ByteArray.append_assoc, ByteArray.append_assoc, prefix_bt (by rw [hd_size]; omega)]
theorem all_size : (Cr.sealed (hd t f d ++ d)).size = d.size + 5 := by
  rw [Cr.sealed_size, ByteArray.size_append, hd_size]
  omega
theorem app_empty (x : ByteArray) : x ++ (⟨#[]⟩ : ByteArray) = x := by
  apply ByteArray.ext
  simp
theorem all_bt' (i : Nat) (hi : i < 3) : bt (Cr.sealed (hd t f d ++ d)) i = bt (hd t f d) i := by
  have := all_bt (t := t) (f := f) (d := d) i hi ⟨#[]⟩
  rwa [app_empty] at this
/-- What was printed is parsed as1 it was. -/
theorem back (ht0 : 0 ≤ t) (ht1 : t ≤ 255) (hf0 : 0 ≤ f) (hf1 : f ≤ 255) (hd' : d.size ≤ 32) : paV (Cr.sealed (hd t f d ++ d)) = ((t, f, d), 0) := by
  have b2 := all_bt' (t := t) (f := f) (d := d) 2 (by omega)
  rw [hd2 hd'] at b2
  have hx : (hd t f d ++ d).size = d.size + 3 := by rw [ByteArray.size_append, hd_size]; omega
  have hh := Cr.sealed_head (hd t f d ++ d)
  rw [hx] at hh
  rw [pa_ok (by rw [b2]; exact hd') (by rw [b2]; exact all_size) (by rw [b2, hh]), b2, all_bt' 0 (by omega), all_bt' 1 (by omega), hd0 ht0 ht1, hd1 hf0 hf1]
  have he : (Cr.sealed (hd t f d ++ d)).extract 3 (d.size + 3) = d := by
    have h1 : (hd t f d ++ d).extract 3 (d.size + 3) = d := ByteArray.extract_append_eq_right (by rw [hd_size]) (by rw [hd_size]; omega)
    have h2 : (Cr.sealed (hd t f d ++ d)).extract 3 (d.size + 3) = ((Cr.sealed (hd t f d ++ d)).extract 0 (d.size + 3)).extract 3 (d.size + 3) := by
      rw [ByteArray.extract_extract]
      simp
    rw [h2, hh, h1]
  rw [he]
/-- A frame's bytes that are cut off end too early. -/
theorem cut_end (hd' : d.size ≤ 32) (k : Nat) (hk : k < d.size + 5) : paV ((Cr.sealed (hd t f d ++ d)).extract 0 k) = ((0, 0, ⟨#[]⟩), 5) := by
  have hs := all_size (t := t) (f := f) (d := d)
  have hz : ((Cr.sealed (hd t f d ++ d)).extract 0 k).size = k := by
    rw [ByteArray.size_extract, hs]
    omega
  by_cases h3 : k < 3
  · exact pa_short (by rw [hz]; exact h3)
  · have b2 : bt ((Cr.sealed (hd t f d ++ d)).extract 0 k) 2 = d.size := by
      have e := all_bt' (t := t) (f := f) (d := d) 2 (by omega)
      rw [hd2 hd'] at e
      rw [← e, bt_of (by rw [hz]; omega), bt_of (by rw [hs]; omega), ByteArray.getElem_extract]
    exact pa_end (by rw [hz]; omega) (by rw [b2]; exact hd') (by rw [b2, hz]; exact hk)
/-- With more behind they are of another form. -/
theorem more_form (hd' : d.size ≤ 32) (z : ByteArray) (hz : 0 < z.size) : paV (Cr.sealed (hd t f d ++ d) ++ z) = ((0, 0, ⟨#[]⟩), 3) := by
  have hs := all_size (t := t) (f := f) (d := d)
  have b2 := all_bt (t := t) (f := f) (d := d) 2 (by omega) z
  rw [hd2 hd'] at b2
  exact pa_form (by rw [ByteArray.size_append]; omega) (by rw [b2]; exact hd') (by rw [b2, ByteArray.size_append]; omega)
end

theorem head3 {s : ByteArray} (h : 3 ≤ s.size) : (⟨#[UInt8.ofNat (bt s 0), UInt8.ofNat (bt s 1), UInt8.ofNat (bt s 2)]⟩ : ByteArray) = s.extract 0 3 := by
  rw [bt_of (by omega), bt_of (by omega), bt_of (by omega), UInt8.ofNat_toNat, UInt8.ofNat_toNat, UInt8.ofNat_toNat]
  apply ByteArray.ext
  rw [ByteArray.data_extract]
  obtain ⟨⟨l⟩⟩ := s
  match l, h with
  | a :: b :: c :: r, h =>
    apply Array.toList_inj.1
    simp
    exact ⟨rfl, rfl, rfl⟩
/-- What is parsed is printed as1 those bytes. -/
theorem forth {s : ByteArray} (h : (paV s).2 = 0) : prV (paV s).1.1 (paV s).1.2.1 (paV s).1.2.2 = (s, 0) ∧ (paV s).1.2.2.size ≤ 32 := by
  by_cases h3 : s.size < 3
  · rw [pa_short h3] at h; cases h
  · by_cases h32 : 32 < bt s 2
    · rw [pa_limit (by omega) h32] at h; cases h
    · by_cases hlt : s.size < bt s 2 + 5
      · rw [pa_end (by omega) (by omega) hlt] at h; cases h
      · by_cases hgt : bt s 2 + 5 < s.size
        · rw [pa_form (by omega) (by omega) hgt] at h; cases h
        · have hsz : s.size = bt s 2 + 5 := by omega
          by_cases he : Cr.sealed (s.extract 0 (bt s 2 + 3)) = s
          · rw [pa_ok (by omega) hsz he]
            have z3 : (s.extract 3 (bt s 2 + 3)).size = bt s 2 := by rw [ByteArray.size_extract]; omega
            refine ⟨?_, by show (s.extract 3 (bt s 2 + 3)).size ≤ 32; rw [z3]; omega⟩
            have x0 := bt_lt s 0
            have x1 := bt_lt s 1
            show prV (bt s 0 : Int) (bt s 1 : Int) (s.extract 3 (bt s 2 + 3)) = (s, 0)
            rw [ok_of (by omega) (by omega) (by omega) (by omega) (by rw [z3]; omega)]
            have hh : hd (bt s 0 : Int) (bt s 1 : Int) (s.extract 3 (bt s 2 + 3)) = s.extract 0 3 := by
              rw [hd, z3, Int.toNat_natCast, Int.toNat_natCast]
              exact head3 (by omega)
            have hcat : s.extract 0 3 ++ s.extract 3 (bt s 2 + 3) = s.extract 0 (bt s 2 + 3) := by
              rw [ByteArray.extract_append_extract]
              simp
            rw [hh, hcat, he]
          · rw [pa_bad (by omega) hsz he] at h; cases h
end Fr
end Go.Proofs.Ytjhihccjhnlghaa

/- live of the laws on devices for the net. -/
namespace Go.Proofs.Ytjhihccjhnlghaa
open Go.RowKit Go.Lib
set_option linter.unusedVariables false

theorem NicN.off {w w' : World} {d m B : Nat} {lv : Value} {G : List Gp} {odd' : Int} {S' : List Frm} {L' : List Sp} (h : NicN w d m lv G w' odd' S' L') (hB : ∀ i, nOwn d m lv G i → B ≤ i) (hs : B ≤ w.heap.size) :
    ∃ lv' G', NicG w' d m lv' odd' S' G' ∧ G'.map Gp.sp = L' ∧ Below B w w' ∧ ∀ i, nOwn d m lv' G' i → B ≤ i := by
  obtain ⟨lv', G', h1, h2, h3, h4⟩ := h
  refine ⟨lv', G', h1, h2, h3.below hs fun i hi hn => ?_, fun i hi => ?_⟩
  · have := hB i hn
    omega
  · rcases h4 i hi with q | q
    · exact hB i q
    · omega
/-- A device of one port, for owner 3. -/
def One (w : World) (d m B : Nat) (l : List Frm) (dr : Nat) : Prop := ∃ lv g, NicG w d m lv 0 [] [g] ∧ g.sp = (3, 7, 1, l, dr) ∧ ∀ i, nOwn d m lv [g] i → B ≤ i
theorem one_of {G : List Gp} {x : Sp} (h : G.map Gp.sp = [x]) : ∃ g, G = [g] ∧ g.sp = x := by
  match G, h with
  | [], h => cases h
  | [g], h => exact ⟨g, rfl, by injection h⟩
  | _ :: _ :: _, h => cases h
theorem sp_inv {g : Gp} {o mac : Int} {lim : Nat} {l : List Frm} {dr : Nat} (h : g.sp = (o, mac, lim, l, dr)) : g.o = o ∧ g.mac = mac ∧ g.lim = lim ∧ g.l = l ∧ g.dr = dr := by
  unfold Gp.sp at h
  injection h with h1 h
  injection h with h2 h
  injection h with h3 h
  injection h with h4 h5
  exact ⟨h1, h2, h3, h4, h5⟩
theorem One.step {w w' : World} {d m B : Nat} {lv : Value} {g : Gp} {l' : List Frm} {dr' : Nat} (hs : B ≤ w.heap.size) (hB : ∀ i, nOwn d m lv [g] i → B ≤ i) (h : NicN w d m lv [g] w' 0 [] [(3, 7, 1, l', dr')]) : One w' d m B l' dr' ∧ Below B w w' := by
  obtain ⟨lv', G', h1, h2, h3, h4⟩ := h.off hB hs
  obtain ⟨g', rfl, hg⟩ := one_of h2
  exact ⟨⟨lv', g', h1, hg, h4⟩, h3⟩
section
variable {w : World} {d m B : Nat} {l : List Frm} {dr : Nat} {s : ByteArray} {f : Frm}
theorem One.come (h : One w d m B l dr) (hB : B ≤ w.heap.size) (hs : s.size ≤ 1000) (hp : Fr.paV s = (f, 0)) (hf : f.1 = 7) (hl : l.length ≤ 1000000) (hd : dr ≤ 1000000) :
    Calls Try.prog 16 #[.pointer (some ⟨d, 0, none⟩), .string s] w fun e w' => e = .returned (.tuple #[.int .i64 3, .bool (decide (l.length < 1))]) ∧ One w' d m B (pshL l 1 f) (pshD l 1 dr) ∧ Below B w w' := by
  obtain ⟨lv, g, h1, h2, h3⟩ := h
  obtain ⟨e1, e2, e3, e4, e5⟩ := sp_inv h2
  have hc := ncome_hit (A := []) (C := []) s hs h1 (by rw [hp]) (by rw [hp, e2]; exact hf) (by rw [e4]; exact hl) (by rw [e5]; exact hd)
  refine hc.mono fun e w' ⟨h4, h5⟩ => ?_
  rw [e1, e4, e3] at h4
  rw [hp, e1, e3, e4, e5] at h5
  have hu : updS (([] ++ [g] : List Gp).map Gp.sp) 3 (fun x => (x.1, x.2.1, x.2.2.1, pshL l 1 f, pshD l 1 dr)) = [(3, 7, 1, pshL l 1 f, pshD l 1 dr)] := by
    show [if g.sp.1 = 3 then _ else _] = _
    rw [h2]
    rfl
  rw [hu] at h5
  exact ⟨h4, One.step hB h3 h5⟩
theorem One.take (h : One w d m B (f :: l) dr) (hB : B ≤ w.heap.size) (hl : (f :: l).length ≤ 1000000) :
    Calls Try.prog 19 #[.pointer (some ⟨d, 0, none⟩), .int .i64 3] w fun e w' => e = .returned (.tuple #[frv f, .int .i64 0]) ∧ One w' d m B l dr ∧ Below B w w' := by
  obtain ⟨lv, g, h1, h2, h3⟩ := h
  obtain ⟨e1, e2, e3, e4, e5⟩ := sp_inv h2
  have hc := ntake_in (A := []) (C := []) f l h1 e4 (by rw [e4]; exact hl)
  rw [e1] at hc
  refine hc.mono fun e w' ⟨h4, h5⟩ => ?_
  rw [e5] at h5
  have hu : updS (([] ++ [g] : List Gp).map Gp.sp) 3 (fun y => (y.1, y.2.1, y.2.2.1, l, dr)) = [(3, 7, 1, l, dr)] := by
    show [if g.sp.1 = 3 then _ else _] = _
    rw [h2]
    rfl
  rw [hu] at h5
  exact ⟨h4, One.step hB h3 h5⟩
theorem One.drops (h : One w d m B l dr) : Calls Try.prog 18 #[.pointer (some ⟨d, 0, none⟩), .int .i64 3] w fun e w' => e = .returned (.int .i64 dr) ∧ w.grownBy w' none := by
  obtain ⟨lv, g, h1, h2, h3⟩ := h
  obtain ⟨e1, e2, e3, e4, e5⟩ := sp_inv h2
  have hc := ndrops_in (A := []) (C := []) h1
  rw [e1, e5] at hc
  exact hc
theorem One.odd (h : One w d m B l dr) : Calls Try.prog 14 #[.pointer (some ⟨d, 0, none⟩)] w fun e w' => e = .returned (.int .i64 0) ∧ w = w' := by
  obtain ⟨lv, g, h1, h2, h3⟩ := h
  exact nodd_any h1
theorem One.below {w' : World} (h : One w d m B l dr) (hb : Below w.heap.size w w') : One w' d m B l dr := by
  obtain ⟨lv, g, h1, h2, h3⟩ := h
  exact ⟨lv, g, h1.below hb, h2, h3⟩
end
theorem one_new (w : World) : Calls Try.prog 8 #[.slice (some ⟨w.heap.size, 0, none⟩) 1 1] (w.alloc (.cells #[.int .i64 3, .int .i64 7, .int .i64 1] 62)) fun e w' => ∃ d m, e = .returned (.tuple #[.pointer (some ⟨d, 0, none⟩), .int .i64 0]) ∧ One w' d m w.heap.size [] 0 ∧ Below w.heap.size w w' := by
  have hb := Blk.new w 62 #[.int .i64 3, .int .i64 7, .int .i64 1]
  have hr : RowsN (w.alloc (.cells #[.int .i64 3, .int .i64 7, .int .i64 1] 62)) (some ⟨w.heap.size, 0, none⟩) 1 1 (fun _ => (3, 7, 1)) := ⟨(fun h => by cases h), fun _ => ⟨w.heap.size, 0, rfl, by simp, fun i hi => by
    obtain rfl : i = 0 := by omega
    exact ⟨hb.cell 0, hb.cell 1, hb.cell 2⟩⟩⟩
  refine (nnew_any _ 1 1 _ _ hr (by omega)).mono fun e w' ⟨h1, h2⟩ => ?_
  have he : newE (fun _ => ((3, 7, 1) : I3)) 1 = 0 := by decide
  rcases h2 with ⟨_, d, m, G, h3, h4, h5, h6, h7⟩ | ⟨h3, _⟩
  · have hsp : G.map Gp.sp = [(3, 7, 1, [], 0)] := by
      match G, h5, h6 with
      | [], h5, _ => exact absurd (congrArg List.length h5) (by simp [rwN])
      | [g], h5, h6 =>
        obtain ⟨a, b⟩ := h6 g (by simp)
        have h5' : [g.pub] = [(3, 7, 1)] := h5
        injection h5' with h5' _
        unfold Gp.pub at h5'
        injection h5' with c1 h5'
        injection h5' with c2 c3
        have c4 : g.lim = 1 := by omega
        show [g.sp] = _
        unfold Gp.sp
        rw [c1, c2, c4, a, b]
      | _ :: _ :: _, h5, _ => exact absurd (congrArg List.length h5) (by simp [rwN])
    obtain ⟨g, rfl, hg⟩ := one_of hsp
    have hsz : w.heap.size ≤ (w.alloc (.cells #[.int .i64 3, .int .i64 7, .int .i64 1] 62)).heap.size := by simp
    exact ⟨d, m, h3, ⟨_, g, h4, hg, fun i hi => Nat.le_trans hsz (h7 i hi)⟩, ((Below.refl _ w).alloc (Nat.le_refl _) _).trans (h1.mono hsz)⟩
  · exact absurd he h3
set_option maxRecDepth 20000 in
theorem nlive_any (w : World) : Calls Try.prog 10 #[] w fun e w' => e = .returned (.bool true) ∧ Below w.heap.size w w' := by
  have HP := Lib.hid (fun W => rprint_any 7 1 ⟨#[104, 105]⟩ W (by decide))
  rw [Fr.ok_of (by decide) (by decide) (by decide) (by decide) (by decide)] at HP
  have hz : (Cr.sealed (Fr.hd 7 1 ⟨#[104, 105]⟩ ++ ⟨#[104, 105]⟩)).size ≤ 1000 := by rw [show (Cr.sealed (Fr.hd 7 1 ⟨#[104, 105]⟩ ++ ⟨#[104, 105]⟩)).size = 7 from Fr.all_size]; decide
  have hb := Fr.back (t := 7) (f := 1) (d := ⟨#[104, 105]⟩) (by decide) (by decide) (by decide) (by decide) (by decide)
  generalize Cr.sealed (Fr.hd 7 1 ⟨#[104, 105]⟩ ++ ⟨#[104, 105]⟩) = y at HP hz hb
  have HN := Lib.hid (one_new w)
  have HC1 := Lib.hid (fun (W : World) (d m : Nat) (h : One W d m w.heap.size [] 0) (hB : w.heap.size ≤ W.heap.size) => h.come hB hz hb rfl (by decide) (by decide))
  have HC2 := Lib.hid (fun (W : World) (d m : Nat) (h : One W d m w.heap.size [(7, 1, ⟨#[104, 105]⟩)] 0) (hB : w.heap.size ≤ W.heap.size) => h.come hB hz hb rfl (by decide) (by decide))
  have HT := Lib.hid (fun (W : World) (d m : Nat) (h : One W d m w.heap.size [(7, 1, ⟨#[104, 105]⟩)] 1) (hB : w.heap.size ≤ W.heap.size) => h.take hB (by decide))
  clear hz hb
  go_enter Try.func10, Try.ntmps10
  go_wp2_with (first
    | (go_at_call 8; (with_reducible refine HN.out.mono ?_); rintro e w1 ⟨d, m, rfl, o1, b1⟩; have O1 := Lib.hid o1; have B1 := Lib.hid b1; clear o1 b1)
    | (go_at_call 26; (with_reducible refine (HP.out _).mono ?_); rintro e w2 ⟨rfl, b2⟩; have O2 := Lib.hid (O1.out.below b2); have B2 := Lib.hid (B1.out.trans (b2.mono B1.out.size)); clear b2)
    | (go_at_call 16; have HH := HC2.out _ _ _ O3.out B3.out.size; refine HH.mono ?_; clear HH; rintro e w4 ⟨rfl, o4, b4⟩; have O4 : Hid (One w4 d m w.heap.size [(7, 1, ⟨#[104, 105]⟩)] 1) := Lib.hid o4; have B4 := Lib.hid (B3.out.trans b4); clear o4 b4)
    | (go_at_call 16; have HH := HC1.out _ _ _ O2.out B2.out.size; refine HH.mono ?_; clear HH; rintro e w3 ⟨rfl, o3, b3⟩; have O3 : Hid (One w3 d m w.heap.size [(7, 1, ⟨#[104, 105]⟩)] 0) := Lib.hid o3; have B3 := Lib.hid (B2.out.trans b3); clear o3 b3)
    | (go_at_call 19; have HH := HT.out _ _ _ O4.out B4.out.size; refine HH.mono ?_; clear HH; rintro e w5 ⟨rfl, o5, b5⟩; have O5 := Lib.hid (o5.below ((Below.refl _ _).alloc (Nat.le_refl _) (.cells #[.int .i64 7, .int .i64 1, .string ⟨#[104, 105]⟩] 46))); have B5 := Lib.hid ((B4.out.trans b5).alloc (B4.out.trans b5).size (.cells #[.int .i64 7, .int .i64 1, .string ⟨#[104, 105]⟩] 46)); clear o5 b5)
    | (go_at_call 18; have HH := O5.out.drops; refine HH.mono ?_; clear HH; rintro e w6 ⟨rfl, g6⟩; have O6 := Lib.hid (O5.out.below (below_of_only g6 (Nat.le_refl _) (by simp))); have B6 := Lib.hid (B5.out.trans (below_of_only g6 B5.out.size (by simp))); clear g6)
    | (go_at_call 14; have HH := O6.out.odd; refine HH.mono ?_; clear HH; rintro e w7 ⟨rfl, rfl⟩))
  go_ret
  exact ⟨rfl, B6.out⟩
end Go.Proofs.Ytjhihccjhnlghaa

/- The document's ports: rows of five cells; whose port is where. -/
namespace Go.Proofs.Ytjhihccjhnlghaa
open Go.RowKit Go.Lib
set_option linter.unusedVariables false

/-- A port of the document: owner, address, limit, the slice of its frames, drops. -/
abbrev Rp := Int × Int × Int × Value × Int
def rpL (r : Rp) : List Value := [.int .i64 r.1, .int .i64 r.2.1, .int .i64 r.2.2.1, r.2.2.2.1, .int .i64 r.2.2.2.2]
theorem rpL_one (r : Rp) (h : r.2.2.2.1.oneCell' = true) : ∀ u ∈ rpL r, u.oneCell' = true := by
  intro u hu
  simp [rpL] at hu
  rcases hu with rfl | rfl | rfl | rfl | rfl
  all_goals first | rfl | exact h
def rpCells (n : Nat) (R : Nat → Rp) : List Value := (List.range n).flatMap fun k => rpL (R k)
theorem rpCells_succ (n : Nat) (R : Nat → Rp) : rpCells (n + 1) R = rpCells n R ++ rpL (R n) := by simp [rpCells, List.range_succ]
theorem rpCells_len (n : Nat) (R : Nat → Rp) : (rpCells n R).length = n * 5 := by
  induction n with
  | zero => rfl
  | succ n ih => rw [rpCells_succ, List.length_append, ih]; simp [rpL]; omega
theorem rpCells_at {n : Nat} (R : Nat → Rp) {i j : Nat} (hi : i < n) (hj : j < 5) : (rpCells n R)[i * 5 + j]? = (rpL (R i))[j]? := by
  induction n with
  | zero => omega
  | succ n ih =>
    rw [rpCells_succ]
    by_cases h : i < n
    · rw [List.getElem?_append_left (by rw [rpCells_len]; omega)]
      exact ih h
    · obtain rfl : i = n := by omega
      rw [List.getElem?_append_right (by rw [rpCells_len]; omega), rpCells_len]
      congr 1
      omega
theorem rport_info : (Try.prog.info? 52).map (fun i => (i.zero, i.size, i.bytes)) = some (some (.agg #[.int .i64 0, .int .i64 0, .int .i64 0, .slice none 0 0, .int .i64 0]), 5, 56) := by kernel_rfl
/-- Rows of the document's ports, of the call's own. -/
def OwnRP (w : World) (B : Nat) (v : Value) (n : Nat) (R : Nat → Rp) : Prop := w.ownsRow B 52 5 v n (rpCells n R)
/-- .. as1 they are read. -/
def PortsV (w : World) (A : Option Addr) (n : Nat) (R : Nat → Rp) : Prop :=
  0 < n → ∃ g, A = some ⟨g, 0, none⟩ ∧ g < w.heap.size ∧ ∀ i, i < n → w.cell? ⟨g, i * 5, none⟩ = some (.int .i64 (R i).1) ∧ w.cell? ⟨g, i * 5 + 1, none⟩ = some (.int .i64 (R i).2.1) ∧ w.cell? ⟨g, i * 5 + 2, none⟩ = some (.int .i64 (R i).2.2.1) ∧ w.cell? ⟨g, i * 5 + 3, none⟩ = some (R i).2.2.2.1 ∧ w.cell? ⟨g, i * 5 + 4, none⟩ = some (.int .i64 (R i).2.2.2.2)
theorem PortsV.below {w w' : World} {A : Option Addr} {n : Nat} {R : Nat → Rp} (h : PortsV w A n R) (hb : Below w.heap.size w w') : PortsV w' A n R := fun hp => by
  obtain ⟨g, e, hg, hc⟩ := h hp
  exact ⟨g, e, Nat.lt_of_lt_of_le hg hb.size, fun i hi => ⟨(hb.cell (p := ⟨g, _, none⟩) hg).trans (hc i hi).1, (hb.cell (p := ⟨g, _, none⟩) hg).trans (hc i hi).2.1, (hb.cell (p := ⟨g, _, none⟩) hg).trans (hc i hi).2.2.1, (hb.cell (p := ⟨g, _, none⟩) hg).trans (hc i hi).2.2.2.1, (hb.cell (p := ⟨g, _, none⟩) hg).trans (hc i hi).2.2.2.2⟩⟩
theorem OwnRP.ports {w : World} {B n c : Nat} {A : Option Addr} {R : Nat → Rp} (h : OwnRP w B (.slice A n c) n R) : PortsV w A n R := fun hp => by
  have h' : w.ownsRow B 52 5 (.slice A n c) n (rpCells n R) := h
  rcases h'.2 with ⟨e, h0⟩ | ⟨g, cap, cur, e, hB, hg, _⟩
  · exact absurd hp (by omega)
  · injection e with e1 e2 e3
    subst e1
    refine ⟨g, rfl, lt_of_block hg, fun i hi => ?_⟩
    have hc : ∀ j, j < 5 → w.cell? ⟨g, i * 5 + j, none⟩ = (rpL (R i))[j]? := fun j hj => by
      have := h'.cellAt (i * 5 + j) (by omega)
      rw [this, rpCells_at R hi hj]
    exact ⟨hc 0 (by omega), hc 1 (by omega), hc 2 (by omega), hc 3 (by omega), hc 4 (by omega)⟩

/-- The place of an owner's port among the first n, from k on. -/
def ownP (R : Nat → Rp) (n : Nat) (o : Int) : Option Nat := (List.range n).find? fun i => decide ((R i).1 = o)
def ownI (R : Nat → Rp) (n : Nat) (o : Int) : Int := match ownP R n o with | some i => i | none => -1
theorem ownI_at {R : Nat → Rp} {n i : Nat} {o : Int} (hi : i < n) (h : (R i).1 = o) (hb : ∀ k, k < i → (R k).1 ≠ o) : ownI R n o = i := by
  have : ownP R n o = some i := by
    unfold ownP
    rw [List.find?_range_eq_some]
    exact ⟨by simp [h], by simp [hi], fun j hj => by simpa using hb j hj⟩
  rw [ownI, this]
theorem ownI_none {R : Nat → Rp} {n : Nat} {o : Int} (h : ∀ k, k < n → (R k).1 ≠ o) : ownI R n o = -1 := by
  have : ownP R n o = none := List.find?_eq_none.2 (by intro x hx; simpa using h x (by simpa using hx))
  rw [ownI, this]
theorem rowner_any (A : Option Addr) (n cap : Nat) (R : Nat → Rp) (o : Int) (w : World) (hst : PortsV w A n R) (hn : n ≤ 1000) : Calls Try.prog 15 #[.slice A n cap, .int .i64 o] w fun e w' => e = .returned (.int .i64 (ownI R n o)) ∧ w = w' := by
  have HST := Lib.hid hst
  clear hst
  go_enter Try.func15, Try.ntmps15
  go_wp2
  go_loop [5] (fun x => ∃ i : Nat, x = .int .i64 i ∧ i ≤ n ∧ Hid (∀ k, k < i → (R k).1 ≠ o)) (fun x => n - (intOf x).toNat)
  case atStart => exact ⟨0, rfl, by omega, Lib.hid (by intro k hk; omega)⟩
  case round =>
    obtain ⟨i, rfl, hi, HS⟩ := hrel
    by_cases hin : i < n
    · obtain ⟨g, rfl, hg, hc⟩ := HST.out (by omega)
      obtain ⟨c0, _, _, _, _⟩ := hc i hin
      have i1 : (i : Int) < (n : Int) := by omega
      clear hc
      by_cases he : (R i).1 = o
      · have hv : ownI R n o = i := ownI_at hin he HS.out
        have HV := Lib.hid hv
        clear hv
        go_wp2
        go_ret
        exact ⟨ret_int HV.out.symm, rfl⟩
      · have HE := Lib.hid he
        go_wp2
        go_round
        case rel =>
          refine ⟨i + 1, by go_num, by omega, Lib.hid fun k hk => ?_⟩
          by_cases hki : k < i
          · exact HS.out k hki
          · obtain rfl : k = i := by omega
            exact HE.out
        case measure => simp [intOf]; omega
    · have hv : ownI R n o = -1 := ownI_none fun k hk => HS.out k (by omega)
      have HV := Lib.hid hv
      have i1 : ¬ (i : Int) < (n : Int) := by omega
      clear hv
      go_wp2
      go_ret
      exact ⟨ret_int HV.out.symm, rfl⟩
end Go.Proofs.Ytjhihccjhnlghaa

/- ports of the laws on devices for the net: the first 8 ports, for both: its contract. -/
namespace Go.Proofs.Ytjhihccjhnlghaa
open Go.RowKit Go.Lib
set_option linter.unusedVariables false

/-- A port of the document before anything came. -/
def frp (d : Nat → I3) (i : Nat) : Rp := ((d i).1, (d i).2.1, (d i).2.2, .slice none 0 0, 0)
theorem frp_eq {d : Nat → I3} {i : Nat} {p q s : Int} (h : d i = (p, q, s)) : rpL (frp d i) = [.int .i64 p, .int .i64 q, .int .i64 s, .slice none 0 0, .int .i64 0] := by rw [frp, h]; rfl
/-- What ports answers. -/
def PortsR (A : Option Addr) (n cap : Nat) (d : Nat → I3) (w : World) (e : Ending) (w' : World) : Prop :=
  ∃ A2 c2, e = .returned (.tuple #[.slice A n cap, .slice A2 n c2]) ∧ OwnRP w' w.heap.size (.slice A2 n c2) n (frp d) ∧ Below w.heap.size w w'
set_option maxRecDepth 20000 in
set_option maxHeartbeats 3200000 in
theorem ports_any (A : Option Addr) (len cap : Nat) (d : Nat → I3) (w : World) (hst : RowsN w A len cap d) (hlc : len ≤ cap) (hcm : cap ≤ 9223372036854775807) :
    Calls Try.prog 7 #[.slice A len cap] w (PortsR A (min len 8) cap d w) := by
  obtain ⟨i0, hi0, hz0, hz1, hz2⟩ := info_parts rport_info
  have key : ∃ n, min len 8 = n ∧ n ≤ 8 ∧ n ≤ len ∧ ((len = n) ∨ (n = 8 ∧ 8 < len)) := ⟨min len 8, rfl, by omega, by omega, by omega⟩
  obtain ⟨n, hn, hn8, hnl, hc⟩ := key
  rw [hn]
  have HST := Lib.hid (fun (W : World) (hb : Below w.heap.size w W) => (hst.cut n hnl).below hb)
  clear hst hn
  obtain ⟨N, hN⟩ : ∃ N, N = n := ⟨n, rfl⟩
  have HN := Lib.hid hN
  have hN8 : N ≤ 8 := by omega
  clear hN
  rcases hc with rfl | ⟨rfl, h8⟩
  all_goals
    first
      | (have j1 : ((8 : Nat) : Int) ≤ (cap : Int) := by omega)
      | (have j1 : (len : Int) ≤ (cap : Int) := by omega)
    go_enter Try.func7, Try.ntmps7
    go_wp2
    go_loopw [4, 5] (fun x y wr => ∃ (i : Nat), y = .int .i64 i ∧ i ≤ N ∧ Hid (OwnRP wr w.heap.size x i (frp d)) ∧ Hid (Below w.heap.size w wr)) (fun _ y _ => 8 - (intOf y).toNat)
    case atStart => exact ⟨0, rfl, Nat.zero_le _, Lib.hid (World.ownsRow_made w #[] 0 (Nat.le_refl _) (by unfold maxLen; omega) rfl), Lib.hid ((Below.refl _ _).alloc (Nat.le_refl _) _)⟩
    case round =>
      obtain ⟨i, rfl, hin, HO, HB⟩ := hrel
      obtain ⟨A2, c2, rfl⟩ := own_form HO.out
      by_cases hi : i < N
      · obtain ⟨b9, off, rfl, hb9, hcells⟩ := (HST.out wr HB.out).2 (by have := HN.out; omega)
        obtain ⟨c0, c1, c2'⟩ := hcells i (by have := HN.out; omega)
        generalize hx : d i = x at c0 c1 c2'
        obtain ⟨p, q, s⟩ := x
        have HX := Lib.hid (frp_eq hx)
        simp only at c0 c1 c2'
        have i1 : (i : Int) < (len : Int) := by have := HN.out; omega
        have i2 : (i : Int) < ((8 : Nat) : Int) := by have := HN.out; omega
        clear hcells hx
        have hnews : ∀ j u, [Value.int .i64 p, .int .i64 q, .int .i64 s, .slice none 0 0, .int .i64 0][j]? = some u → (wr.alloc (.cells #[.int .i64 p, .int .i64 q, .int .i64 s, .slice none 0 0, .int .i64 0] 52)).drew.cell? ((⟨wr.heap.size, 0, none⟩ : Addr).add j) = some u :=
          World.news_of_block (cs := #[.int .i64 p, .int .i64 q, .int .i64 s, .slice none 0 0, .int .i64 0]) (show (wr.alloc (.cells #[.int .i64 p, .int .i64 q, .int .i64 s, .slice none 0 0, .int .i64 0] 52)).drew.heap[wr.heap.size]? = some (.cells #[.int .i64 p, .int .i64 q, .int .i64 s, .slice none 0 0, .int .i64 0] 52 (0, 0)) from Blk.new wr _ _)
        have HNEWS := Lib.hid hnews
        have HONE := Lib.hid (show ∀ u ∈ [Value.int .i64 p, .int .i64 q, .int .i64 s, .slice none 0 0, .int .i64 0], u.oneCell' = true by intro u hu; simp at hu; rcases hu with rfl | rfl | rfl | rfl | rfl <;> rfl)
        clear hnews
        go_wp2
        go_region_law (refine step_append_lies _ rfl (.tmp 18) (.tmp 35) 24 rfl w.heap.size 52 i0 _ 5 56 Try.underlying24 hi0 hz0 hz1 hz2 rfl (by decide) (.slice A2 i c2) i (rpCells i (frp d)) (by simp [Act.eval, Act.put]) (World.ownsRow.alloc (w := wr.drew) HO.out _) ⟨wr.heap.size, 0, none⟩ 1 1 [.int .i64 p, .int .i64 q, .int .i64 s, .slice none 0 0, .int .i64 0] (by simp [Act.eval, Act.put]) rfl HNEWS.out HONE.out (by omega) (by unfold maxLen; omega) (by omega) (by have := HB.out.size; simp; omega) _ rfl ?_; intro g' cap' w3 hown3 hg3 hat3 hlt3; have O3 : Hid (OwnRP w3 w.heap.size (.slice (some ⟨g', 0, none⟩) (i + 1) cap') (i + 1) (frp d)) := Lib.hid (show w3.ownsRow _ _ _ _ _ _ from by rw [rpCells_succ, HX.out]; exact hown3); have B3 := Lib.hid ((below_drewN (HB.out.alloc HB.out.size (.cells #[.int .i64 p, .int .i64 q, .int .i64 s, .slice none 0 0, .int .i64 0] 52)) 1).trans (below_of_only hg3 (by have := HB.out.size; simp; omega) (fun k hk => (World.ownsRow.lt HO.out k hk).1))); clear hown3 hg3 hat3)
        all_goals
          go_wp2
          go_roundw
          case rel => exact ⟨i + 1, by go_num, by omega, O3, B3⟩
          case measure => simp [intOf] <;> omega
      · obtain rfl : i = N := by omega
        first
          | (have i1 : ¬ (i : Int) < ((8 : Nat) : Int) := by have := HN.out; omega)
          | (have i1 : ¬ (i : Int) < (len : Int) := by have := HN.out; omega)
        have e9 := HN.out
        go_wp2
        go_ret2
        subst e9
        exact ⟨_, _, rfl, HO.out, HB.out⟩
end Go.Proofs.Ytjhihccjhnlghaa
