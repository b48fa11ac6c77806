/- live of the laws on devices for the net. -/
import Derived.Test.YtjhihccjhnlghaaNP11
import Derived.Test.YtjhihccjhnlghaaFM5
namespace Go.Proofs.Ytjhihccjhnlghaa
open Go.RowKit Go.Lib
set_option linter.unusedVariables false

theorem NicN.off {w w' : World} {d m B : Nat} {lv : Value} {G : List Gp} {odd' : Int} {S' : List Frm} {L' : List Sp} (h : NicN w d m lv G w' odd' S' L') (hB : ∀ i, nOwn d m lv G i → B ≤ i) (hs : B ≤ w.heap.size) :
    ∃ lv' G', NicG w' d m lv' odd' S' G' ∧ G'.map Gp.sp = L' ∧ Below B w w' ∧ ∀ i, nOwn d m lv' G' i → B ≤ i := by
  obtain ⟨lv', G', h1, h2, h3, h4⟩ := h
  refine ⟨lv', G', h1, h2, h3.below hs fun i hi hn => ?_, fun i hi => ?_⟩
  · have := hB i hn
    omega
  · rcases h4 i hi with q | q
    · exact hB i q
    · omega
/-- A device of one port, for owner 3. -/
def One (w : World) (d m B : Nat) (l : List Frm) (dr : Nat) : Prop := ∃ lv g, NicG w d m lv 0 [] [g] ∧ g.sp = (3, 7, 1, l, dr) ∧ ∀ i, nOwn d m lv [g] i → B ≤ i
theorem one_of {G : List Gp} {x : Sp} (h : G.map Gp.sp = [x]) : ∃ g, G = [g] ∧ g.sp = x := by
  match G, h with
  | [], h => cases h
  | [g], h => exact ⟨g, rfl, by injection h⟩
  | _ :: _ :: _, h => cases h
theorem sp_inv {g : Gp} {o mac : Int} {lim : Nat} {l : List Frm} {dr : Nat} (h : g.sp = (o, mac, lim, l, dr)) : g.o = o ∧ g.mac = mac ∧ g.lim = lim ∧ g.l = l ∧ g.dr = dr := by
  unfold Gp.sp at h
  injection h with h1 h
  injection h with h2 h
  injection h with h3 h
  injection h with h4 h5
  exact ⟨h1, h2, h3, h4, h5⟩
theorem One.step {w w' : World} {d m B : Nat} {lv : Value} {g : Gp} {l' : List Frm} {dr' : Nat} (hs : B ≤ w.heap.size) (hB : ∀ i, nOwn d m lv [g] i → B ≤ i) (h : NicN w d m lv [g] w' 0 [] [(3, 7, 1, l', dr')]) : One w' d m B l' dr' ∧ Below B w w' := by
  obtain ⟨lv', G', h1, h2, h3, h4⟩ := h.off hB hs
  obtain ⟨g', rfl, hg⟩ := one_of h2
  exact ⟨⟨lv', g', h1, hg, h4⟩, h3⟩
section
variable {w : World} {d m B : Nat} {l : List Frm} {dr : Nat} {s : ByteArray} {f : Frm}
theorem One.come (h : One w d m B l dr) (hB : B ≤ w.heap.size) (hs : s.size ≤ 1000) (hp : Fr.paV s = (f, 0)) (hf : f.1 = 7) (hl : l.length ≤ 1000000) (hd : dr ≤ 1000000) :
    Calls Try.prog 16 #[.pointer (some ⟨d, 0, none⟩), .string s] w fun e w' => e = .returned (.tuple #[.int .i64 3, .bool (decide (l.length < 1))]) ∧ One w' d m B (pshL l 1 f) (pshD l 1 dr) ∧ Below B w w' := by
  obtain ⟨lv, g, h1, h2, h3⟩ := h
  obtain ⟨e1, e2, e3, e4, e5⟩ := sp_inv h2
  have hc := ncome_hit (A := []) (C := []) s hs h1 (by rw [hp]) (by rw [hp, e2]; exact hf) (by rw [e4]; exact hl) (by rw [e5]; exact hd)
  refine hc.mono fun e w' ⟨h4, h5⟩ => ?_
  rw [e1, e4, e3] at h4
  rw [hp, e1, e3, e4, e5] at h5
  have hu : updS (([] ++ [g] : List Gp).map Gp.sp) 3 (fun x => (x.1, x.2.1, x.2.2.1, pshL l 1 f, pshD l 1 dr)) = [(3, 7, 1, pshL l 1 f, pshD l 1 dr)] := by
    show [if g.sp.1 = 3 then _ else _] = _
    rw [h2]
    rfl
  rw [hu] at h5
  exact ⟨h4, One.step hB h3 h5⟩
theorem One.take (h : One w d m B (f :: l) dr) (hB : B ≤ w.heap.size) (hl : (f :: l).length ≤ 1000000) :
    Calls Try.prog 19 #[.pointer (some ⟨d, 0, none⟩), .int .i64 3] w fun e w' => e = .returned (.tuple #[frv f, .int .i64 0]) ∧ One w' d m B l dr ∧ Below B w w' := by
  obtain ⟨lv, g, h1, h2, h3⟩ := h
  obtain ⟨e1, e2, e3, e4, e5⟩ := sp_inv h2
  have hc := ntake_in (A := []) (C := []) f l h1 e4 (by rw [e4]; exact hl)
  rw [e1] at hc
  refine hc.mono fun e w' ⟨h4, h5⟩ => ?_
  rw [e5] at h5
  have hu : updS (([] ++ [g] : List Gp).map Gp.sp) 3 (fun y => (y.1, y.2.1, y.2.2.1, l, dr)) = [(3, 7, 1, l, dr)] := by
    show [if g.sp.1 = 3 then _ else _] = _
    rw [h2]
    rfl
  rw [hu] at h5
  exact ⟨h4, One.step hB h3 h5⟩
theorem One.drops (h : One w d m B l dr) : Calls Try.prog 18 #[.pointer (some ⟨d, 0, none⟩), .int .i64 3] w fun e w' => e = .returned (.int .i64 dr) ∧ w.grownBy w' none := by
  obtain ⟨lv, g, h1, h2, h3⟩ := h
  obtain ⟨e1, e2, e3, e4, e5⟩ := sp_inv h2
  have hc := ndrops_in (A := []) (C := []) h1
  rw [e1, e5] at hc
  exact hc
theorem One.odd (h : One w d m B l dr) : Calls Try.prog 14 #[.pointer (some ⟨d, 0, none⟩)] w fun e w' => e = .returned (.int .i64 0) ∧ w = w' := by
  obtain ⟨lv, g, h1, h2, h3⟩ := h
  exact nodd_any h1
theorem One.below {w' : World} (h : One w d m B l dr) (hb : Below w.heap.size w w') : One w' d m B l dr := by
  obtain ⟨lv, g, h1, h2, h3⟩ := h
  exact ⟨lv, g, h1.below hb, h2, h3⟩
end
theorem one_new (w : World) : Calls Try.prog 8 #[.slice (some ⟨w.heap.size, 0, none⟩) 1 1] (w.alloc (.cells #[.int .i64 3, .int .i64 7, .int .i64 1] 62)) fun e w' => ∃ d m, e = .returned (.tuple #[.pointer (some ⟨d, 0, none⟩), .int .i64 0]) ∧ One w' d m w.heap.size [] 0 ∧ Below w.heap.size w w' := by
  have hb := Blk.new w 62 #[.int .i64 3, .int .i64 7, .int .i64 1]
  have hr : RowsN (w.alloc (.cells #[.int .i64 3, .int .i64 7, .int .i64 1] 62)) (some ⟨w.heap.size, 0, none⟩) 1 1 (fun _ => (3, 7, 1)) := ⟨(fun h => by cases h), fun _ => ⟨w.heap.size, 0, rfl, by simp, fun i hi => by
    obtain rfl : i = 0 := by omega
    exact ⟨hb.cell 0, hb.cell 1, hb.cell 2⟩⟩⟩
  refine (nnew_any _ 1 1 _ _ hr (by omega)).mono fun e w' ⟨h1, h2⟩ => ?_
  have he : newE (fun _ => ((3, 7, 1) : I3)) 1 = 0 := by decide
  rcases h2 with ⟨_, d, m, G, h3, h4, h5, h6, h7⟩ | ⟨h3, _⟩
  · have hsp : G.map Gp.sp = [(3, 7, 1, [], 0)] := by
      match G, h5, h6 with
      | [], h5, _ => exact absurd (congrArg List.length h5) (by simp [rwN])
      | [g], h5, h6 =>
        obtain ⟨a, b⟩ := h6 g (by simp)
        have h5' : [g.pub] = [(3, 7, 1)] := h5
        injection h5' with h5' _
        unfold Gp.pub at h5'
        injection h5' with c1 h5'
        injection h5' with c2 c3
        have c4 : g.lim = 1 := by omega
        show [g.sp] = _
        unfold Gp.sp
        rw [c1, c2, c4, a, b]
      | _ :: _ :: _, h5, _ => exact absurd (congrArg List.length h5) (by simp [rwN])
    obtain ⟨g, rfl, hg⟩ := one_of hsp
    have hsz : w.heap.size ≤ (w.alloc (.cells #[.int .i64 3, .int .i64 7, .int .i64 1] 62)).heap.size := by simp
    exact ⟨d, m, h3, ⟨_, g, h4, hg, fun i hi => Nat.le_trans hsz (h7 i hi)⟩, ((Below.refl _ w).alloc (Nat.le_refl _) _).trans (h1.mono hsz)⟩
  · exact absurd he h3
set_option maxRecDepth 20000 in
theorem nlive_any (w : World) : Calls Try.prog 10 #[] w fun e w' => e = .returned (.bool true) ∧ Below w.heap.size w w' := by
  have HP := Lib.hid (fun W => rprint_any 7 1 ⟨#[104, 105]⟩ W (by decide))
  rw [Fr.ok_of (by decide) (by decide) (by decide) (by decide) (by decide)] at HP
  have hz : (Cr.sealed (Fr.hd 7 1 ⟨#[104, 105]⟩ ++ ⟨#[104, 105]⟩)).size ≤ 1000 := by rw [show (Cr.sealed (Fr.hd 7 1 ⟨#[104, 105]⟩ ++ ⟨#[104, 105]⟩)).size = 7 from Fr.all_size]; decide
  have hb := Fr.back (t := 7) (f := 1) (d := ⟨#[104, 105]⟩) (by decide) (by decide) (by decide) (by decide) (by decide)
  generalize Cr.sealed (Fr.hd 7 1 ⟨#[104, 105]⟩ ++ ⟨#[104, 105]⟩) = y at HP hz hb
  have HN := Lib.hid (one_new w)
  have HC1 := Lib.hid (fun (W : World) (d m : Nat) (h : One W d m w.heap.size [] 0) (hB : w.heap.size ≤ W.heap.size) => h.come hB hz hb rfl (by decide) (by decide))
  have HC2 := Lib.hid (fun (W : World) (d m : Nat) (h : One W d m w.heap.size [(7, 1, ⟨#[104, 105]⟩)] 0) (hB : w.heap.size ≤ W.heap.size) => h.come hB hz hb rfl (by decide) (by decide))
  have HT := Lib.hid (fun (W : World) (d m : Nat) (h : One W d m w.heap.size [(7, 1, ⟨#[104, 105]⟩)] 1) (hB : w.heap.size ≤ W.heap.size) => h.take hB (by decide))
  clear hz hb
  go_enter Try.func10, Try.ntmps10
  go_wp2_with (first
    | (go_at_call 8; (with_reducible refine HN.out.mono ?_); rintro e w1 ⟨d, m, rfl, o1, b1⟩; have O1 := Lib.hid o1; have B1 := Lib.hid b1; clear o1 b1)
    | (go_at_call 26; (with_reducible refine (HP.out _).mono ?_); rintro e w2 ⟨rfl, b2⟩; have O2 := Lib.hid (O1.out.below b2); have B2 := Lib.hid (B1.out.trans (b2.mono B1.out.size)); clear b2)
    | (go_at_call 16; have HH := HC2.out _ _ _ O3.out B3.out.size; refine HH.mono ?_; clear HH; rintro e w4 ⟨rfl, o4, b4⟩; have O4 : Hid (One w4 d m w.heap.size [(7, 1, ⟨#[104, 105]⟩)] 1) := Lib.hid o4; have B4 := Lib.hid (B3.out.trans b4); clear o4 b4)
    | (go_at_call 16; have HH := HC1.out _ _ _ O2.out B2.out.size; refine HH.mono ?_; clear HH; rintro e w3 ⟨rfl, o3, b3⟩; have O3 : Hid (One w3 d m w.heap.size [(7, 1, ⟨#[104, 105]⟩)] 0) := Lib.hid o3; have B3 := Lib.hid (B2.out.trans b3); clear o3 b3)
    | (go_at_call 19; have HH := HT.out _ _ _ O4.out B4.out.size; refine HH.mono ?_; clear HH; rintro e w5 ⟨rfl, o5, b5⟩; have O5 := Lib.hid (o5.below ((Below.refl _ _).alloc (Nat.le_refl _) (.cells #[.int .i64 7, .int .i64 1, .string ⟨#[104, 105]⟩] 46))); have B5 := Lib.hid ((B4.out.trans b5).alloc (B4.out.trans b5).size (.cells #[.int .i64 7, .int .i64 1, .string ⟨#[104, 105]⟩] 46)); clear o5 b5)
    | (go_at_call 18; have HH := O5.out.drops; refine HH.mono ?_; clear HH; rintro e w6 ⟨rfl, g6⟩; have O6 := Lib.hid (O5.out.below (below_of_only g6 (Nat.le_refl _) (by simp))); have B6 := Lib.hid (B5.out.trans (below_of_only g6 B5.out.size (by simp))); clear g6)
    | (go_at_call 14; have HH := O6.out.odd; refine HH.mono ?_; clear HH; rintro e w7 ⟨rfl, rfl⟩))
  go_ret
  exact ⟨rfl, B6.out⟩
end Go.Proofs.Ytjhihccjhnlghaa
