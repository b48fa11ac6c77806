import Derived.Test.YtjhihccjhnlghaaZG15
set_option linter.all false
/- Fork of a device for the net. -/
namespace Go.Proofs.Ytjhihccjhnlghaa
open Go.RowKit Go.Lib
set_option linter.unusedVariables false

/-- What a fork under way is: Gd is done, Gr is to come. -/
def FkR (w0 wr : World) (m r db mb : Nat) (lv2 : Value) (odd : Int) (S : List Frm) (G Gd Gr : List Gp) (rem : List Pp) (cnt : Nat) : Prop :=
  RngP wr m r (G.map Gp.row) rem cnt ∧ rem.Perm (Gr.map Gp.row) ∧ (∀ g ∈ Gr, g ∈ G) ∧ (Gd.map Gp.sp ++ Gr.map Gp.sp).Perm (G.map Gp.sp) ∧ NicG wr db mb lv2 odd S Gd ∧ (∀ i, nOwn db mb lv2 Gd i → w0.heap.size ≤ i ∧ i ≠ r) ∧ w0.heap.size ≤ r ∧ Below w0.heap.size w0 wr
/-- What Fork answers. -/
def ForkV (w : World) (odd : Int) (S : List Frm) (G : List Gp) (e : Ending) (w' : World) : Prop :=
  ∃ d2 m2 lv2 G2, e = .returned (.pointer (some ⟨d2, 0, none⟩)) ∧ NicG w' d2 m2 lv2 odd S G2 ∧ G2.map Gp.sp = G.map Gp.sp ∧ (∀ i, nOwn d2 m2 lv2 G2 i → w.heap.size ≤ i) ∧ Below w.heap.size w w'
theorem FkR.done {w0 wr : World} {m r db mb : Nat} {lv2 : Value} {odd : Int} {S : List Frm} {G Gd Gr : List Gp} {cnt : Nat} (h : FkR w0 wr m r db mb lv2 odd S G Gd Gr [] cnt) : ForkV w0 odd S G (.returned (.pointer (some ⟨db, 0, none⟩))) wr := by
  obtain ⟨h1, h2, h3, h4, h5, h6, _, h7⟩ := h
  have hn : Gr = [] := by
    have := h2.length_eq
    simp at this
    exact List.eq_nil_of_length_eq_zero this.symm
  subst hn
  rw [List.map_nil, List.append_nil] at h4
  obtain ⟨G2, q1, q2⟩ := perm_lift Gp.sp h4
  refine ⟨db, mb, lv2, G2, rfl, h5.perm q1, q2, fun i hi => (h6 i ?_).1, h7⟩
  rcases hi with hi | hi | hi | ⟨g, hg, hi⟩
  · exact .inl hi
  · exact .inr (.inl hi)
  · exact .inr (.inr (.inl hi))
  · exact .inr (.inr (.inr ⟨g, q1.mem_iff.2 hg, hi⟩))
/-- One more port is forked. -/
theorem FkR.next {w0 wr wn w5 w6 : World} {m r db mb : Nat} {lv2 : Value} {odd : Int} {S : List Frm} {G Gd Gr Gr' : List Gp} {rem rem' : List Pp} {cnt cnt' : Nat} {g : Gp} {b' : Nat} {v' : Value} (h : FkR w0 wr m r db mb lv2 odd S G Gd Gr rem cnt) (hG : (G.map Gp.sp).Pairwise fun a b => a.1 ≠ b.1 ∧ a.2.1 ≠ b.2.1) (hmay : mayP g.pub = true)
    (hg : Gr.Perm (g :: Gr')) (hrem : rem'.Perm (Gr'.map Gp.row)) (hr : RngP wn m r (G.map Gp.row) rem' cnt') (hgn : wr.grownBy wn (some r)) (hs : wn.heap.size = wr.heap.size) (h5 : wn.grownBy w5 none) (hq : QueF w5 b' v' g.l g.lim g.dr) (hown : ∀ i, OwnQ b' v' i → wn.heap.size ≤ i)
    (h6 : w5.grownBy w6 (some mb)) (hm : MapP w6 mb (Gd.map Gp.row ++ [(g.o, some b', g.mac)])) (hmr : m ≠ mb) (hrs : r < wr.heap.size) : FkR w0 w6 m r db mb lv2 odd S G (Gd ++ [⟨g.o, g.mac, b', v', g.l, g.lim, g.dr⟩]) Gr' rem' cnt' := by
  obtain ⟨k1, k2, k3, k4, k5, k6, k8, k7⟩ := h
  have n1 : NicG wn db mb lv2 odd S Gd := k5.keeps (T := fun i => i = r) (Keeps.of_only hgn fun k hk => by injection hk with hk; exact hk.symm) fun i hi e => (k6 i hi).2 e
  have hperm : (Gd.map Gp.sp ++ g.sp :: Gr'.map Gp.sp).Perm (G.map Gp.sp) := ((hg.map Gp.sp).symm.append_left _).trans k4
  have hpw := (hperm.pairwise_iff (R := fun a b : Sp => a.1 ≠ b.1 ∧ a.2.1 ≠ b.2.1) (fun {a b} q => ⟨q.1.symm, q.2.symm⟩)).2 hG
  rw [List.pairwise_append] at hpw
  have ho : ∀ x ∈ Gd, x.o ≠ g.o ∧ x.mac ≠ g.mac := fun x hx => hpw.2.2 x.sp (List.mem_map.2 ⟨x, hx, rfl⟩) g.sp (List.mem_cons_self ..)
  have n2 := n1.more ⟨g.o, g.mac, b', v', g.l, g.lim, g.dr⟩ h5 hq hmay h6 hm hown ho
  have hmrr : r ≠ mb := fun e => (k6 mb (.inr (.inl rfl))).2 e.symm
  refine ⟨(hr.only h5 (by simp) (by simp)).only h6 (fun e => hmr (by injection e)) (fun e => hmrr (by injection e)), hrem, fun x hx => k3 x (hg.mem_iff.2 (List.mem_cons_of_mem _ hx)), ?_, n2, fun i hi => ?_, k8, ?_⟩
  · rw [List.map_append, List.append_assoc]
    exact hperm
  · have hb := k7.size
    rcases hi with hi | hi | hi | ⟨x, hx, hi⟩
    · exact k6 i (.inl hi)
    · exact k6 i (.inr (.inl hi))
    · exact k6 i (.inr (.inr (.inl hi)))
    · rcases List.mem_append.1 hx with hx | hx
      · exact k6 i (.inr (.inr (.inr ⟨x, hx, hi⟩)))
      · obtain rfl : x = _ := by simpa using hx
        have := hown i hi
        omega
  · have hb := k7.size
    refine k7.trans ((below_of_only hgn hb fun k hk => by injection hk with hk; omega).trans ((below_of_only h5 (by omega) (by simp)).trans (below_of_only h6 (by have := h5.size; omega) fun k hk => ?_)))
    injection hk with hk
    subst hk
    exact (k6 mb (.inr (.inl rfl))).1

section
variable {w : World} {d m : Nat} {lv : Value} {odd : Int} {S : List Frm} {G : List Gp}
theorem nfork_nil (w : World) : Calls Try.prog 22 #[.pointer none] w fun e w' => e = .returned (.pointer none) ∧ w = w' := by
  go_enter Try.func22, Try.ntmps22
  go_wp2
  go_ret
  exact ⟨rfl, rfl⟩
set_option maxRecDepth 20000 in
set_option maxHeartbeats 6400000 in
theorem nfork_any (h : NicG w d m lv odd S G) (hs : S.length ≤ 1000) (hl : ∀ g ∈ G, g.l.length ≤ 1000) (hgl : G.length ≤ 1000) : Calls Try.prog 22 #[.pointer (some ⟨d, 0, none⟩)] w (ForkV w odd S G) := by
  have hmm := @run_makeMap Try.prog
  have H := Lib.hid h
  have HLL := Lib.hid hl
  have HGL := Lib.hid hgl
  have hGp : (G.map Gp.sp).Pairwise fun a b => a.1 ≠ b.1 ∧ a.2.1 ≠ b.2.1 := by
    rw [List.pairwise_map]
    exact h.2.2.2.2.2.2.2.imp fun {a b} h => ⟨h.1, h.2.1⟩
  have HGP := Lib.hid hGp
  have HC := Lib.hid (fun (W : World) (hb : Below w.heap.size w W) => sent_clone W lv S (h.2.2.1.below hb fun i hi => h.2.2.1.lt i hi) hs)
  have c0 : w.cell? ⟨d, 0, none⟩ = some (.map (some m)) := h.1.cell 0
  have c1 : w.cell? ⟨d, 1, none⟩ = some (.int .i64 odd) := h.1.cell 1
  have c2 : w.cell? ⟨d, 2, none⟩ = some lv := h.1.cell 2
  have HX := Lib.hid (fun (W : World) (hb : Below w.heap.size w W) => (show W.cell? ⟨d, 1, none⟩ = some (.int .i64 odd) ∧ W.cell? ⟨d, 2, none⟩ = some lv from ⟨(h.1.below hb h.1.lt).cell 1, (h.1.below hb h.1.lt).cell 2⟩))
  obtain ⟨Av, cv, rfl⟩ := h.2.2.1.form
  have HML := Lib.hid h.2.1.lt
  have kM : (w.alloc (.map #[] 0)).cell? ⟨d, 1, none⟩ = some (.int .i64 odd) ∧ (w.alloc (.map #[] 0)).cell? ⟨d, 2, none⟩ = some (.slice Av S.length cv) := HX.out _ ((Below.refl _ _).alloc (Nat.le_refl _) _)
  clear h hl hs hgl hGp
  go_enter Try.func22, Try.ntmps22
  go_wp2
  go_region_held3 (fun w' => w'.cell? ⟨d, 1, none⟩ = some (.int .i64 odd) ∧ w'.cell? ⟨d, 2, none⟩ = some (.slice Av S.length cv))
    (first | exact ⟨c1, c2⟩ | exact HX.out _ (B2.out.alloc B2.out.size _) | exact HX.out _ B2.out | exact HX.out _ ((B2.out.alloc B2.out.size _).alloc (by simp; have := B2.out.size; omega) _) | exact kM | go_keep)
    (first
      | (go_at_call 37; (with_reducible refine (HC.out _ (show Below w.heap.size w (w.alloc (.map #[] 0)).drew from below_drewN ((Below.refl _ _).alloc (Nat.le_refl _) (.map #[] 0)) 1)).mono ?_); rintro e w2 ⟨v2, rfl, r2, o2, b2⟩; obtain ⟨A2, k2, rfl⟩ := r2.form; have R2 := Lib.hid r2; have O2 := Lib.hid o2; have C2 := Lib.hid b2; have B2 : Hid (Below w.heap.size w w2) := Lib.hid ((show Below w.heap.size w (w.alloc (.map #[] 0)).drew from below_drewN ((Below.refl _ _).alloc (Nat.le_refl _) (.map #[] 0)) 1).trans (b2.mono (by simp))); have WAY : Hid (w = w) := Lib.hid rfl; clear r2 o2 b2)
      | (go_at_call 37; (with_reducible refine (HC.out _ (show Below w.heap.size w w.drew from below_drewN (Below.refl _ _) 1)).mono ?_); rintro e w2 ⟨v2, rfl, r2, o2, b2⟩; obtain ⟨A2, k2, rfl⟩ := r2.form; have R2 := Lib.hid r2; have O2 := Lib.hid o2; have B2 : Hid (Below w.heap.size w w2) := Lib.hid ((below_drewN (Below.refl _ _) 1).trans b2); clear r2 o2 b2))
  · clear WAY
    have hlv : ∀ i, (Value.slice A2 S.length k2).ownBlock = some i → w.heap.size < i ∧ i < w2.heap.size := fun i hi => ⟨by have := O2.out i hi; simp at this; omega, R2.out.lt i hi⟩
    have hsz : w.heap.size < w2.heap.size := by have := C2.out.size; simp at this; omega
    have hnw : NicG (w2.alloc (.cells #[.map (some w.heap.size), .int .i64 odd, .slice A2 S.length k2] 65)) w2.heap.size w.heap.size (.slice A2 S.length k2) odd S [] := ⟨Blk.new w2 65 _, (((MapP.new w).drewN 1).below C2.out).below ((Below.refl _ _).alloc (Nat.le_refl _) _), R2.out.alloc _, by simp, by omega, fun i hi => ⟨by have := hlv i hi; omega, by have := hlv i hi; omega, by simp⟩, by simp, by simp⟩
    have hon : ∀ i, nOwn w2.heap.size w.heap.size (.slice A2 S.length k2) [] i → w.heap.size ≤ i := fun i hi => by
      rcases hi with hi | hi | hi | ⟨g, hg, _⟩
      · omega
      · omega
      · have := hlv i hi; omega
      · cases hg
    have hbz : Below w.heap.size w (w2.alloc (.cells #[.map (some w.heap.size), .int .i64 odd, .slice A2 S.length k2] 65)) := B2.out.alloc B2.out.size _
    generalize hwz : (w2.alloc (.cells #[.map (some w.heap.size), .int .i64 odd, .slice A2 S.length k2] 65)) = wz at hnw hbz ⊢
    generalize w2.heap.size = db at hnw hon ⊢
    generalize hmb : w.heap.size = mb at hnw ⊢
    have hon : ∀ i, nOwn db mb (.slice A2 S.length k2) [] i → w.heap.size ≤ i := by rw [← hmb]; exact hon
    have HNW := Lib.hid hnw
    have HON := Lib.hid hon
    have HBZ := Lib.hid hbz
    have HM := Lib.hid (H.out.below hbz).2.1
    have HN1 := Lib.hid H.out.owners
    have c0z : wz.cell? ⟨d, 0, none⟩ = some (.map (some m)) := (H.out.below hbz).1.cell 0
    clear hnw hon hbz hwz hlv hsz R2 O2 B2 c0 c1 c2 kM HX HC
    go_wp2_with (at_range; refine wpList_range_reg rfl _ rfl m (G.map Gp.row) rfl HM.out HN1.out ?_; intro w3 cnt hr hg3 hs3)
    go_frame
    have hst0 : FkR w w3 m wz.heap.size db mb (.slice A2 S.length k2) odd S G [] G (G.map Gp.row) cnt := ⟨hr, .refl _, fun g hg => hg, by simp, HNW.out.grown hg3, fun i hi => ⟨HON.out i hi, fun e => by have := HNW.out.lt i hi; omega⟩, HBZ.out.size, HBZ.out.trans (below_of_only hg3 HBZ.out.size (by simp))⟩
    have HST0 := Lib.hid hst0
    have HMM := Lib.hid (show m ≠ mb from fun e => by have q1 := HON.out mb (.inr (.inl rfl)); have q2 := HML.out; omega)
    have hs3' : wz.heap.size < w3.heap.size := by omega
    clear hst0 hr hg3 hs3 c0z HBZ HM HN1
    generalize wz.heap.size = rr at HST0 hs3' ⊢
    go_loopw [4, 5] (fun x y wr => ∃ rem cnt Gd Gr, Hid (FkR w wr m rr db mb (.slice A2 S.length k2) odd S G Gd Gr rem cnt) ∧ rr < wr.heap.size) (fun x y wr => wr.rangeLeft m rr)
    case atStart => exact ⟨_, _, _, _, HST0, hs3'⟩
    case round =>
      obtain ⟨rem, cnt', Gd, Gr, HR, hrs⟩ := hrel
      clear HST0 hs3'
      go_wp2_with (at_next; refine wpList_next_reg rfl _ rfl m _ (G.map Gp.row) rem cnt' rfl HR.out.1 ?_ ?_)
      · intro hrem
        subst hrem
        go_wp2
        go_ret
        exact HR.out.done
      · intro p1 p2 p3 rem' wn cnt2 hperm hrn2 hlt hgn hsn hen
        obtain ⟨g, hg, hrow⟩ : ∃ g ∈ Gr, Gp.row g = (p1, p2, p3) := by
          have := (hperm.symm.trans HR.out.2.1).mem_iff.1 (List.mem_cons_self ..)
          obtain ⟨g, hg, e⟩ := List.mem_map.1 this
          exact ⟨g, hg, e⟩
        obtain ⟨rfl, rfl, rfl⟩ : g.o = p1 ∧ some g.q = p2 ∧ g.mac = p3 := by
          unfold Gp.row at hrow
          injection hrow with e1 e2
          injection e2 with e2 e3
          exact ⟨e1, e2, e3⟩
        have hgG := HR.out.2.2.1 g hg
        obtain ⟨X, Y, rfl⟩ := List.append_of_mem hg
        have hgr : (X ++ g :: Y).Perm (g :: (X ++ Y)) := List.perm_middle
        have hrem : rem'.Perm ((X ++ Y).map Gp.row) := ((hperm.symm.trans HR.out.2.1).trans (hgr.map Gp.row)).cons_inv
        have hbn : Below w.heap.size w wn := HR.out.2.2.2.2.2.2.2.trans (below_of_only hgn HR.out.2.2.2.2.2.2.2.size fun k hk => by injection hk with hk; have := HR.out.2.2.2.2.2.2.1; omega)
        have HQF := Lib.hid (fun (W : World) (hW : Below wn.heap.size wn W) => ffork_any (((H.out.below hbn).below hW).2.2.2.1 g hgG).1 (HLL.out g hgG))
        have hmay := (H.out.2.2.2.1 g hgG).2
        have hgo := H.out.fit hgG
        have hfo : fitI g.o := by unfold fitI; omega
        have n1 : NicG wn db mb (.slice A2 S.length k2) odd S Gd := HR.out.2.2.2.2.1.keeps (T := fun i => i = rr) (Keeps.of_only hgn fun k hk => by injection hk with hk; exact hk.symm) fun i hi e => (HR.out.2.2.2.2.2.1 i hi).2 e
        have hlen : (Gd.map Gp.row).length < maxLen := by
          have := HR.out.2.2.2.1.length_eq
          have := HGL.out
          simp at *
          unfold maxLen
          omega
        have hdis : ∀ y ∈ Gd.map Gp.row, y.1 ≠ g.o := by
          intro y hy
          obtain ⟨x, hx, rfl⟩ := List.mem_map.1 hy
          have hpw := (HR.out.2.2.2.1.pairwise_iff (R := fun a b : Sp => a.1 ≠ b.1 ∧ a.2.1 ≠ b.2.1) (fun {a b} q => ⟨q.1.symm, q.2.symm⟩)).2 HGP.out
          rw [List.pairwise_append] at hpw
          exact (hpw.2.2 x.sp (List.mem_map.2 ⟨x, hx, rfl⟩) g.sp (List.mem_map.2 ⟨g, hg, rfl⟩)).1
        have N1 := Lib.hid n1
        have HNX := Lib.hid (fun (w5 w6 : World) (b' : Nat) (v' : Value) (h5 : wn.grownBy w5 none) (hq : QueF w5 b' v' g.l g.lim g.dr) (hown : ∀ i, OwnQ b' v' i → wn.heap.size ≤ i) (h6 : w5.grownBy w6 (some mb)) (hm : MapP w6 mb (Gd.map Gp.row ++ [(g.o, some b', g.mac)])) => HR.out.next HGP.out hmay hgr hrem hrn2 hgn hsn h5 hq hown h6 hm HMM.out hrs)
        have HLT := Lib.hid (show ∀ (w6 : World) (b' : Nat) (v' : Value), FkR w w6 m rr db mb (.slice A2 S.length k2) odd S G (Gd ++ [⟨g.o, g.mac, b', v', g.l, g.lim, g.dr⟩]) (X ++ Y) rem' cnt2 → w6.rangeLeft m rr < wr.rangeLeft m rr from fun w6 b' v' h => by
          rw [h.1.left_eq, HR.out.1.left_eq]
          exact hlt)
        have HDL := Lib.hid (And.intro hdis hlen)
        have hmbd : mb < wn.heap.size ∧ db < wn.heap.size ∧ db ≠ mb := ⟨n1.lt mb (.inr (.inl rfl)), n1.lt db (.inl rfl), n1.2.2.2.2.1⟩
        have hsz2 : rr < wn.heap.size := by omega
        clear hperm hrn2 hlt hgn hsn hgr hrem hbn hmay hgo n1 hlen hdis hg hgG hrow
        have hen' : (Instr.entry (.pointer (some ⟨rr, 0, none⟩))).run Try.prog wn = .ok (.tuple #[.int .i64 g.o, .agg #[.pointer (some ⟨g.q, 0, none⟩), .int .i64 g.mac]]) wn := hen
        clear hen
        simp only [ptr]
        go_wp2_with (go_at_call 38; (with_reducible refine (HQF.out _ ((Below.refl _ _).alloc (Nat.le_refl _) (.cells #[.pointer (some ⟨g.q, 0, none⟩), .int .i64 g.mac] 70))).mono ?_); rintro e w4 ⟨b', v', rfl, q4, o4, b4⟩; have x4 := (Blk.new wn 70 #[.pointer (some ⟨g.q, 0, none⟩), .int .i64 g.mac]).below b4 (by simp); have x40 := x4.cell 0; have f40 := x4.free 0; simp at x40; have X4 := Lib.hid x4; have Q4 := Lib.hid q4; have O4 := Lib.hid o4; have B4 := Lib.hid (((Below.refl wn.heap.size wn).alloc (Nat.le_refl _) (.cells #[.pointer (some ⟨g.q, 0, none⟩), .int .i64 g.mac] 70)).trans (b4.mono (by simp))); clear x4 q4 o4 b4)
        obtain ⟨hmb1, hdb1, hdm⟩ := hmbd
        have b5 : Below wn.heap.size wn (w4.setCell ⟨wn.heap.size, 0, none⟩ (.pointer (some ⟨b', 0, none⟩))) := B4.out.setCell (Nat.le_refl _) _
        have x5 := X4.out.put 0 (.pointer (some ⟨b', 0, none⟩))
        have hqb : ∀ i, OwnQ b' v' i → i ≠ wn.heap.size := fun i hi e => by have := O4.out i hi; simp at this; omega
        have q5 : QueF (w4.setCell ⟨wn.heap.size, 0, none⟩ (.pointer (some ⟨b', 0, none⟩))) b' v' g.l g.lim g.dr := Q4.out.keeps (S := fun i => i = wn.heap.size) ((Keeps.refl (fun i => i = wn.heap.size) w4).put (p := ⟨wn.heap.size, 0, none⟩) (.inl rfl) _) hqb
        generalize hw5 : w4.setCell ⟨wn.heap.size, 0, none⟩ (.pointer (some ⟨b', 0, none⟩)) = w5 at b5 x5 q5 ⊢
        have n5 := N1.out.below b5
        have c50 : w5.cell? ⟨db, 0, none⟩ = some (.map (some mb)) := n5.1.cell 0
        have x50 : w5.cell? ⟨wn.heap.size, 0, none⟩ = some (.pointer (some ⟨b', 0, none⟩)) := x5.cell 0
        have x51 : w5.cell? ⟨wn.heap.size, 1, none⟩ = some (.int .i64 g.mac) := x5.cell 1
        obtain ⟨w6, hrun, hm6, hg6⟩ := run_put_row (w := w5.drew) (q := b') (s := g.mac) (n5.2.1.drewN 1) hfo HDL.out.1 HDL.out.2
        have fin := HNX.out w5.drew w6 b' v' (only_drewN (only_far b5) 1) (q5.keeps (S := fun _ => False) ((Keeps.refl _ _).drew 1) fun _ _ h => h) (fun i hi => by have := O4.out i hi; simp at this; omega) hg6 hm6
        have hs6 : w6.cell? ⟨db, 0, none⟩ = some (.map (some mb)) ∧ w6.cell? ⟨wn.heap.size, 0, none⟩ = some (.pointer (some ⟨b', 0, none⟩)) ∧ w6.cell? ⟨wn.heap.size, 1, none⟩ = some (.int .i64 g.mac) := by
          have d6 := (n5.1.drewN 1).only hg6 (fun e => hdm (by injection e))
          have y6 := (x5.drewN 1).only hg6 (fun e => by injection e with e; omega)
          exact ⟨d6.cell 0, y6.cell 0, y6.cell 1⟩
        have HS6 := Lib.hid hs6
        have FIN := Lib.hid fin
        have hrr6 : rr < w6.heap.size := by have q1 := b5.size; have q2 := hg6.size; simp at q2; omega
        clear hm6 hg6 b5 x5 q5 n5 hqb hs6 fin hw5 hdm hmb1 hdb1
        go_region_held3 (fun w' => w'.cell? ⟨db, 0, none⟩ = some (.map (some mb)) ∧ w'.cell? ⟨wn.heap.size, 0, none⟩ = some (.pointer (some ⟨b', 0, none⟩)) ∧ w'.cell? ⟨wn.heap.size, 1, none⟩ = some (.int .i64 g.mac))
          (first | exact ⟨c50, x50, x51⟩ | exact HS6.out | go_keep) (fail)
        all_goals
          go_wp2
          go_roundw
          case rel => exact ⟨rem', cnt2, _, _, FIN, hrr6⟩
          case measure => exact HLT.out _ _ _ FIN.out
  · skip
    have hlv : ∀ i, (Value.slice A2 S.length k2).ownBlock = some i → w.heap.size ≤ i ∧ i < w2.heap.size := fun i hi => ⟨by have := O2.out i hi; simp at this; omega, R2.out.lt i hi⟩
    have hsz : w.heap.size ≤ w2.heap.size := B2.out.size
    have hnw : NicG ((w2.alloc (.map #[] 0)).alloc (.cells #[.map (some w2.heap.size), .int .i64 odd, .slice A2 S.length k2] 65)) (w2.heap.size + 1) w2.heap.size (.slice A2 S.length k2) odd S [] := ⟨by simpa using Blk.new (w2.alloc (.map #[] 0)) 65 #[.map (some w2.heap.size), .int .i64 odd, .slice A2 S.length k2], (MapP.new w2).below ((Below.refl _ _).alloc (Nat.le_refl _) _), (R2.out.alloc _).alloc _, by simp, by omega, fun i hi => ⟨by have := hlv i hi; omega, by have := hlv i hi; omega, by simp⟩, by simp, by simp⟩
    have hon : ∀ i, nOwn (w2.heap.size + 1) w2.heap.size (.slice A2 S.length k2) [] i → w.heap.size ≤ i := fun i hi => by
      rcases hi with hi | hi | hi | ⟨g, hg, _⟩
      · omega
      · omega
      · have := hlv i hi; omega
      · cases hg
    have hbz : Below w.heap.size w ((w2.alloc (.map #[] 0)).alloc (.cells #[.map (some w2.heap.size), .int .i64 odd, .slice A2 S.length k2] 65)) := (B2.out.alloc B2.out.size _).alloc (by simp; omega) _
    generalize hwz : ((w2.alloc (.map #[] 0)).alloc (.cells #[.map (some w2.heap.size), .int .i64 odd, .slice A2 S.length k2] 65)) = wz at hnw hbz ⊢
    generalize w2.heap.size + 1 = db at hnw hon ⊢
    generalize w2.heap.size = mb at hnw hon ⊢
    have HNW := Lib.hid hnw
    have HON := Lib.hid hon
    have HBZ := Lib.hid hbz
    have HM := Lib.hid (H.out.below hbz).2.1
    have HN1 := Lib.hid H.out.owners
    have c0z : wz.cell? ⟨d, 0, none⟩ = some (.map (some m)) := (H.out.below hbz).1.cell 0
    clear hnw hon hbz hwz hlv hsz R2 O2 B2 c0 c1 c2 kM HX HC
    go_wp2_with (at_range; refine wpList_range_reg rfl _ rfl m (G.map Gp.row) rfl HM.out HN1.out ?_; intro w3 cnt hr hg3 hs3)
    go_frame
    have hst0 : FkR w w3 m wz.heap.size db mb (.slice A2 S.length k2) odd S G [] G (G.map Gp.row) cnt := ⟨hr, .refl _, fun g hg => hg, by simp, HNW.out.grown hg3, fun i hi => ⟨HON.out i hi, fun e => by have := HNW.out.lt i hi; omega⟩, HBZ.out.size, HBZ.out.trans (below_of_only hg3 HBZ.out.size (by simp))⟩
    have HST0 := Lib.hid hst0
    have HMM := Lib.hid (show m ≠ mb from fun e => by have q1 := HON.out mb (.inr (.inl rfl)); have q2 := HML.out; omega)
    have hs3' : wz.heap.size < w3.heap.size := by omega
    clear hst0 hr hg3 hs3 c0z HBZ HM HN1
    generalize wz.heap.size = rr at HST0 hs3' ⊢
    go_loopw [4, 5] (fun x y wr => ∃ rem cnt Gd Gr, Hid (FkR w wr m rr db mb (.slice A2 S.length k2) odd S G Gd Gr rem cnt) ∧ rr < wr.heap.size) (fun x y wr => wr.rangeLeft m rr)
    case atStart => exact ⟨_, _, _, _, HST0, hs3'⟩
    case round =>
      obtain ⟨rem, cnt', Gd, Gr, HR, hrs⟩ := hrel
      clear HST0 hs3'
      go_wp2_with (at_next; refine wpList_next_reg rfl _ rfl m _ (G.map Gp.row) rem cnt' rfl HR.out.1 ?_ ?_)
      · intro hrem
        subst hrem
        go_wp2
        go_ret
        exact HR.out.done
      · intro p1 p2 p3 rem' wn cnt2 hperm hrn2 hlt hgn hsn hen
        obtain ⟨g, hg, hrow⟩ : ∃ g ∈ Gr, Gp.row g = (p1, p2, p3) := by
          have := (hperm.symm.trans HR.out.2.1).mem_iff.1 (List.mem_cons_self ..)
          obtain ⟨g, hg, e⟩ := List.mem_map.1 this
          exact ⟨g, hg, e⟩
        obtain ⟨rfl, rfl, rfl⟩ : g.o = p1 ∧ some g.q = p2 ∧ g.mac = p3 := by
          unfold Gp.row at hrow
          injection hrow with e1 e2
          injection e2 with e2 e3
          exact ⟨e1, e2, e3⟩
        have hgG := HR.out.2.2.1 g hg
        obtain ⟨X, Y, rfl⟩ := List.append_of_mem hg
        have hgr : (X ++ g :: Y).Perm (g :: (X ++ Y)) := List.perm_middle
        have hrem : rem'.Perm ((X ++ Y).map Gp.row) := ((hperm.symm.trans HR.out.2.1).trans (hgr.map Gp.row)).cons_inv
        have hbn : Below w.heap.size w wn := HR.out.2.2.2.2.2.2.2.trans (below_of_only hgn HR.out.2.2.2.2.2.2.2.size fun k hk => by injection hk with hk; have := HR.out.2.2.2.2.2.2.1; omega)
        have HQF := Lib.hid (fun (W : World) (hW : Below wn.heap.size wn W) => ffork_any (((H.out.below hbn).below hW).2.2.2.1 g hgG).1 (HLL.out g hgG))
        have hmay := (H.out.2.2.2.1 g hgG).2
        have hgo := H.out.fit hgG
        have hfo : fitI g.o := by unfold fitI; omega
        have n1 : NicG wn db mb (.slice A2 S.length k2) odd S Gd := HR.out.2.2.2.2.1.keeps (T := fun i => i = rr) (Keeps.of_only hgn fun k hk => by injection hk with hk; exact hk.symm) fun i hi e => (HR.out.2.2.2.2.2.1 i hi).2 e
        have hlen : (Gd.map Gp.row).length < maxLen := by
          have := HR.out.2.2.2.1.length_eq
          have := HGL.out
          simp at *
          unfold maxLen
          omega
        have hdis : ∀ y ∈ Gd.map Gp.row, y.1 ≠ g.o := by
          intro y hy
          obtain ⟨x, hx, rfl⟩ := List.mem_map.1 hy
          have hpw := (HR.out.2.2.2.1.pairwise_iff (R := fun a b : Sp => a.1 ≠ b.1 ∧ a.2.1 ≠ b.2.1) (fun {a b} q => ⟨q.1.symm, q.2.symm⟩)).2 HGP.out
          rw [List.pairwise_append] at hpw
          exact (hpw.2.2 x.sp (List.mem_map.2 ⟨x, hx, rfl⟩) g.sp (List.mem_map.2 ⟨g, hg, rfl⟩)).1
        have N1 := Lib.hid n1
        have HNX := Lib.hid (fun (w5 w6 : World) (b' : Nat) (v' : Value) (h5 : wn.grownBy w5 none) (hq : QueF w5 b' v' g.l g.lim g.dr) (hown : ∀ i, OwnQ b' v' i → wn.heap.size ≤ i) (h6 : w5.grownBy w6 (some mb)) (hm : MapP w6 mb (Gd.map Gp.row ++ [(g.o, some b', g.mac)])) => HR.out.next HGP.out hmay hgr hrem hrn2 hgn hsn h5 hq hown h6 hm HMM.out hrs)
        have HLT := Lib.hid (show ∀ (w6 : World) (b' : Nat) (v' : Value), FkR w w6 m rr db mb (.slice A2 S.length k2) odd S G (Gd ++ [⟨g.o, g.mac, b', v', g.l, g.lim, g.dr⟩]) (X ++ Y) rem' cnt2 → w6.rangeLeft m rr < wr.rangeLeft m rr from fun w6 b' v' h => by
          rw [h.1.left_eq, HR.out.1.left_eq]
          exact hlt)
        have HDL := Lib.hid (And.intro hdis hlen)
        have hmbd : mb < wn.heap.size ∧ db < wn.heap.size ∧ db ≠ mb := ⟨n1.lt mb (.inr (.inl rfl)), n1.lt db (.inl rfl), n1.2.2.2.2.1⟩
        have hsz2 : rr < wn.heap.size := by omega
        clear hperm hrn2 hlt hgn hsn hgr hrem hbn hmay hgo n1 hlen hdis hg hgG hrow
        have hen' : (Instr.entry (.pointer (some ⟨rr, 0, none⟩))).run Try.prog wn = .ok (.tuple #[.int .i64 g.o, .agg #[.pointer (some ⟨g.q, 0, none⟩), .int .i64 g.mac]]) wn := hen
        clear hen
        simp only [ptr]
        go_wp2_with (go_at_call 38; (with_reducible refine (HQF.out _ ((Below.refl _ _).alloc (Nat.le_refl _) (.cells #[.pointer (some ⟨g.q, 0, none⟩), .int .i64 g.mac] 70))).mono ?_); rintro e w4 ⟨b', v', rfl, q4, o4, b4⟩; have x4 := (Blk.new wn 70 #[.pointer (some ⟨g.q, 0, none⟩), .int .i64 g.mac]).below b4 (by simp); have x40 := x4.cell 0; have f40 := x4.free 0; simp at x40; have X4 := Lib.hid x4; have Q4 := Lib.hid q4; have O4 := Lib.hid o4; have B4 := Lib.hid (((Below.refl wn.heap.size wn).alloc (Nat.le_refl _) (.cells #[.pointer (some ⟨g.q, 0, none⟩), .int .i64 g.mac] 70)).trans (b4.mono (by simp))); clear x4 q4 o4 b4)
        obtain ⟨hmb1, hdb1, hdm⟩ := hmbd
        have b5 : Below wn.heap.size wn (w4.setCell ⟨wn.heap.size, 0, none⟩ (.pointer (some ⟨b', 0, none⟩))) := B4.out.setCell (Nat.le_refl _) _
        have x5 := X4.out.put 0 (.pointer (some ⟨b', 0, none⟩))
        have hqb : ∀ i, OwnQ b' v' i → i ≠ wn.heap.size := fun i hi e => by have := O4.out i hi; simp at this; omega
        have q5 : QueF (w4.setCell ⟨wn.heap.size, 0, none⟩ (.pointer (some ⟨b', 0, none⟩))) b' v' g.l g.lim g.dr := Q4.out.keeps (S := fun i => i = wn.heap.size) ((Keeps.refl (fun i => i = wn.heap.size) w4).put (p := ⟨wn.heap.size, 0, none⟩) (.inl rfl) _) hqb
        generalize hw5 : w4.setCell ⟨wn.heap.size, 0, none⟩ (.pointer (some ⟨b', 0, none⟩)) = w5 at b5 x5 q5 ⊢
        have n5 := N1.out.below b5
        have c50 : w5.cell? ⟨db, 0, none⟩ = some (.map (some mb)) := n5.1.cell 0
        have x50 : w5.cell? ⟨wn.heap.size, 0, none⟩ = some (.pointer (some ⟨b', 0, none⟩)) := x5.cell 0
        have x51 : w5.cell? ⟨wn.heap.size, 1, none⟩ = some (.int .i64 g.mac) := x5.cell 1
        obtain ⟨w6, hrun, hm6, hg6⟩ := run_put_row (w := w5.drew) (q := b') (s := g.mac) (n5.2.1.drewN 1) hfo HDL.out.1 HDL.out.2
        have fin := HNX.out w5.drew w6 b' v' (only_drewN (only_far b5) 1) (q5.keeps (S := fun _ => False) ((Keeps.refl _ _).drew 1) fun _ _ h => h) (fun i hi => by have := O4.out i hi; simp at this; omega) hg6 hm6
        have hs6 : w6.cell? ⟨db, 0, none⟩ = some (.map (some mb)) ∧ w6.cell? ⟨wn.heap.size, 0, none⟩ = some (.pointer (some ⟨b', 0, none⟩)) ∧ w6.cell? ⟨wn.heap.size, 1, none⟩ = some (.int .i64 g.mac) := by
          have d6 := (n5.1.drewN 1).only hg6 (fun e => hdm (by injection e))
          have y6 := (x5.drewN 1).only hg6 (fun e => by injection e with e; omega)
          exact ⟨d6.cell 0, y6.cell 0, y6.cell 1⟩
        have HS6 := Lib.hid hs6
        have FIN := Lib.hid fin
        have hrr6 : rr < w6.heap.size := by have q1 := b5.size; have q2 := hg6.size; simp at q2; omega
        clear hm6 hg6 b5 x5 q5 n5 hqb hs6 fin hw5 hdm hmb1 hdb1
        go_region_held3 (fun w' => w'.cell? ⟨db, 0, none⟩ = some (.map (some mb)) ∧ w'.cell? ⟨wn.heap.size, 0, none⟩ = some (.pointer (some ⟨b', 0, none⟩)) ∧ w'.cell? ⟨wn.heap.size, 1, none⟩ = some (.int .i64 g.mac))
          (first | exact ⟨c50, x50, x51⟩ | exact HS6.out | go_keep) (fail)
        all_goals
          go_wp2
          go_roundw
          case rel => exact ⟨rem', cnt2, _, _, FIN, hrr6⟩
          case measure => exact HLT.out _ _ _ FIN.out
end
end Go.Proofs.Ytjhihccjhnlghaa
