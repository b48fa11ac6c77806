import Derived.Test.YtjhihccjhnlghaaZG06
import Derived.Test.YtjhihccjhnlghaaZG09
set_option linter.all false
/- A device of package nic: what a call that writes one leaves; Come. -/
namespace Go.Proofs.Ytjhihccjhnlghaa
open Go.RowKit Go.Lib
set_option linter.unusedVariables false

/-- A port as1 it counts: owner, address, limit, frames, drops. -/
abbrev Sp := Int × Int × Nat × List Frm × Nat
def Gp.sp (g : Gp) : Sp := (g.o, g.mac, g.lim, g.l, g.dr)
/-- The port of an owner becomes another. -/
def updS (L : List Sp) (o : Int) (f : Sp → Sp) : List Sp := L.map fun x => if x.1 = o then f x else x
/-- What a call that writes a device leaves. -/
def NicN (w : World) (d m : Nat) (lv : Value) (G : List Gp) (w' : World) (odd' : Int) (S' : List Frm) (L' : List Sp) : Prop :=
  ∃ lv' G', NicG w' d m lv' odd' S' G' ∧ G'.map Gp.sp = L' ∧ Keeps (nOwn d m lv G) w w' ∧ ∀ i, nOwn d m lv' G' i → nOwn d m lv G i ∨ w.heap.size ≤ i
section
variable {w w' : World} {d m : Nat} {lv : Value} {odd : Int} {S : List Frm} {G : List Gp}
theorem NicN.from {w0 : World} {odd' : Int} {S' : List Frm} {L' : List Sp} (hb : Below w0.heap.size w0 w) (h : NicN w d m lv G w' odd' S' L') : NicN w0 d m lv G w' odd' S' L' := by
  obtain ⟨lv', G', h1, h2, h3, h4⟩ := h
  refine ⟨lv', G', h1, h2, (Keeps.of_below hb _).trans h3, fun i hi => (h4 i hi).imp id fun h => ?_⟩
  have := hb.size
  omega
theorem NicN.upto {w2 : World} {odd' : Int} {S' : List Frm} {L' : List Sp} (h : NicN w d m lv G w' odd' S' L') (hb : Below w'.heap.size w' w2) : NicN w d m lv G w2 odd' S' L' := by
  obtain ⟨lv', G', h1, h2, h3, h4⟩ := h
  exact ⟨lv', G', h1.below hb, h2, h3.trans (Keeps.of_below hb _), h4⟩
theorem upd_mid {A C : List Gp} {g : Gp} (f : Sp → Sp) (h : (A ++ g :: C).Pairwise fun a b => a.o ≠ b.o) : updS ((A ++ g :: C).map Gp.sp) g.o f = A.map Gp.sp ++ f g.sp :: C.map Gp.sp := by
  rw [List.pairwise_append] at h
  obtain ⟨_, h2, h3⟩ := h
  rw [List.pairwise_cons] at h2
  unfold updS
  rw [List.map_append, List.map_cons, List.map_append, List.map_cons, List.map_map, List.map_map]
  congr 1
  · refine List.map_congr_left fun x hx => ?_
    have : x.o ≠ g.o := h3 x hx g (List.mem_cons_self ..)
    simp [Gp.sp, this]
  · congr 1
    · simp [Gp.sp]
    · refine List.map_congr_left fun x hx => ?_
      have : x.o ≠ g.o := (h2.1 x hx).symm
      simp [Gp.sp, this]
/-- A port's queue was written. -/
theorem NicG.seat {A C : List Gp} {g : Gp} {l' : List Frm} {dr' : Nat} (h : NicG w d m lv odd S (A ++ g :: C)) (hq : QueFN w g.q g.v g.lim w' l' dr') :
    NicN w d m lv (A ++ g :: C) w' odd S (updS ((A ++ g :: C).map Gp.sp) g.o fun x => (x.1, x.2.1, x.2.2.1, l', dr')) := by
  obtain ⟨v', hQ, hK, hnew⟩ := hq
  have hlt := h.lt
  obtain ⟨h1, h2, h3, h4, h5, h6, h7, h8⟩ := h
  have hg : g ∈ A ++ g :: C := by simp
  have hown : ∀ i, (⟨g.o, g.mac, g.q, v', l', g.lim, dr'⟩ : Gp).own i → g.own i ∨ w.heap.size ≤ i := fun i hi => hnew i hi
  have h8' := h8
  rw [List.pairwise_append] at h8
  obtain ⟨p1, p2, p3⟩ := h8
  rw [List.pairwise_cons] at p2
  have hmem : ∀ x ∈ A ++ ⟨g.o, g.mac, g.q, v', l', g.lim, dr'⟩ :: C, x = ⟨g.o, g.mac, g.q, v', l', g.lim, dr'⟩ ∨ (x ∈ A ++ g :: C ∧ (∀ i, x.own i → ¬ g.own i)) := fun x hx => by
    rcases List.mem_append.1 hx with hx | hx
    · exact .inr ⟨by simp [hx], (p3 x hx g (List.mem_cons_self ..)).2.2⟩
    · rcases List.mem_cons.1 hx with hx | hx
      · exact .inl hx
      · exact .inr ⟨by simp [hx], fun i hi hi' => (p2.1 x hx).2.2 i hi' hi⟩
  refine ⟨lv, A ++ ⟨g.o, g.mac, g.q, v', l', g.lim, dr'⟩ :: C, ⟨h1.keeps hK fun e => (h7 g hg d e).1 rfl, ?_, h3.keeps hK fun i hi => (h6 i hi).2.2 g hg, fun x hx => ?_, h5, fun i hi => ⟨(h6 i hi).1, (h6 i hi).2.1, fun x hx hxi => ?_⟩, fun x hx i hi => ?_, ?_⟩, ?_, hK.mono fun i _ hi => .inr (.inr (.inr ⟨g, hg, hi⟩)), ?_⟩
  · have := h2.keeps hK fun e => (h7 g hg m e).2 rfl
    simpa [Gp.row] using this
  · rcases hmem x hx with rfl | ⟨hx, hn⟩
    · exact ⟨hQ, (h4 g hg).2⟩
    · exact ⟨(h4 x hx).1.keeps hK hn, (h4 x hx).2⟩
  · rcases hmem x hx with rfl | ⟨hx, hn⟩
    · rcases hown i hxi with e | e
      · exact (h6 i hi).2.2 g hg e
      · have := hlt i (.inr (.inr (.inl hi)))
        omega
    · exact (h6 i hi).2.2 x hx hxi
  · rcases hmem x hx with rfl | ⟨hx, hn⟩
    · rcases hown i hi with e | e
      · exact h7 g hg i e
      · have := hlt d (.inl rfl)
        have := hlt m (.inr (.inl rfl))
        omega
    · exact h7 x hx i hi
  · rw [List.pairwise_append, List.pairwise_cons]
    refine ⟨p1, ⟨fun y hy => ⟨(p2.1 y hy).1, (p2.1 y hy).2.1, fun i hi hi' => ?_⟩, p2.2⟩, fun x hx y hy => ?_⟩
    · rcases hown i hi with e | e
      · exact (p2.1 y hy).2.2 i e hi'
      · have := hlt i (.inr (.inr (.inr ⟨y, by simp [hy], hi'⟩)))
        omega
    · rcases List.mem_cons.1 hy with rfl | hy
      · have hp := p3 x hx g (List.mem_cons_self ..)
        refine ⟨hp.1, hp.2.1, fun i hi hi' => ?_⟩
        rcases hown i hi' with e | e
        · exact hp.2.2 i hi e
        · have := hlt i (.inr (.inr (.inr ⟨x, by simp [hx], hi⟩)))
          omega
      · exact p3 x hx y (List.mem_cons_of_mem _ hy)
  · rw [upd_mid _ (h8'.imp fun {a b} h => h.1)]
    simp [Gp.sp]
  · rintro i (rfl | rfl | hi | ⟨x, hx, hi⟩)
    · exact .inl (.inl rfl)
    · exact .inl (.inr (.inl rfl))
    · exact .inl (.inr (.inr (.inl hi)))
    · rcases hmem x hx with rfl | ⟨hx, hn⟩
      · rcases hown i hi with e | e
        · exact .inl (.inr (.inr (.inr ⟨g, hg, e⟩)))
        · exact .inr e
      · exact .inl (.inr (.inr (.inr ⟨x, hx, hi⟩)))
/-- The number of odd ones was written. -/
theorem NicG.odds (h : NicG w d m lv odd S G) (x : Int) : NicN w d m lv G (w.setCell ⟨d, 1, none⟩ (.int .i64 x)) x S (G.map Gp.sp) := by
  have hk : Keeps (fun i => i = d) w (w.setCell ⟨d, 1, none⟩ (.int .i64 x)) := (Keeps.refl (fun i => i = d) w).put (p := ⟨d, 1, none⟩) (.inl rfl) _
  have hb := h.1.put 1 (.int .i64 x)
  have h2 := h
  obtain ⟨h1, h2, h3, h4, h5, h6, h7, h8⟩ := h
  exact ⟨lv, G, ⟨by simpa using hb, h2.keeps hk fun e => h5 e.symm, h3.keeps hk fun i hi => (h6 i hi).1, fun g hg => ⟨(h4 g hg).1.keeps hk fun i hi => (h7 g hg i hi).1, (h4 g hg).2⟩, h5, h6, h7, h8⟩, rfl, hk.mono fun i _ hi => .inl hi, fun i hi => .inl hi⟩
end
end Go.Proofs.Ytjhihccjhnlghaa

/- A device of package nic: Come. -/
namespace Go.Proofs.Ytjhihccjhnlghaa
open Go.RowKit Go.Lib
set_option linter.unusedVariables false

/-- 'm[k]' as1 an equation, for regions that draw. -/
theorem run_look_at {w : World} {b : Nat} {L : List Pp} {k p : Int} {q : Nat} {s : Int} (hmap : MapP w b L) (hk : fitI k) (hl : lookL L k = some (p, some q, s)) :
    (Instr.lookup 63 (.map (some b)) (.int .i64 k) false).run Try.prog w = .ok (.agg #[.pointer (some ⟨q, 0, none⟩), .int .i64 s]) w := by
  obtain ⟨D, h1, h2⟩ := hmap
  obtain ⟨e1, e2⟩ := h2.has_some hl
  obtain ⟨v, ps, hr, hv⟩ := h1.lookup int_keys Try.underlying63 (pp_zero w) (ppElem_mk none 0) (int_key hk)
  rw [e2] at hv
  obtain ⟨q', m', rfl, hz⟩ := ppElem_inv hv
  obtain ⟨rfl, rfl⟩ := ppDat_inj (show ppDat _ _ = ppDat _ _ from congrArg Prod.fst hz)
  exact hr
section
variable {w : World} {d m : Nat} {lv : Value} {odd : Int} {S : List Frm} {G : List Gp}
theorem NicG.look {A C : List Gp} {g : Gp} (h : NicG w d m lv odd S (A ++ g :: C)) : lookL ((A ++ g :: C).map Gp.row) g.o = some g.row := by
  have h8 := h.2.2.2.2.2.2.2
  rw [List.pairwise_append] at h8
  unfold lookL
  rw [List.map_append, List.find?_append, List.map_cons, List.find?_cons]
  have : (A.map Gp.row).find? (fun r => decide (r.1 = g.o)) = none := List.find?_eq_none.2 (by
    intro r hr
    obtain ⟨x, hx, rfl⟩ := List.mem_map.1 hr
    have := (h8.2.2 x hx g (List.mem_cons_self ..)).1
    simp [Gp.row, this])
  rw [this]
  simp [Gp.row]
theorem NicG.fit (h : NicG w d m lv odd S G) {g : Gp} (hg : g ∈ G) : 1 ≤ g.o ∧ g.o ≤ 8 := by
  have := mayP_iff.1 (h.2.2.2.1 g hg).2
  simp [Gp.pub] at this
  omega

theorem ncome_nil (s : ByteArray) (w : World) : Calls Try.prog 16 #[.pointer none, .string s] w fun e w' => e = .returned (.tuple #[.int .i64 0, .bool false]) ∧ w = w' := by
  go_enter Try.func16, Try.ntmps16
  go_wp2
  go_ret2
  exact ⟨rfl, rfl⟩
set_option maxHeartbeats 1600000 in
theorem ncome_odd (s : ByteArray) (hs : s.size ≤ 1000) (h : NicG w d m lv odd S G) (hbad : (Fr.paV s).2 ≠ 0 ∨ ownL (G.map Gp.row) (Fr.paV s).1.1 = 0) (ho : 0 ≤ odd ∧ odd ≤ 1000000) :
    Calls Try.prog 16 #[.pointer (some ⟨d, 0, none⟩), .string s] w fun e w' => e = .returned (.tuple #[.int .i64 0, .bool false]) ∧ NicN w d m lv G w' (odd + 1) S (G.map Gp.sp) := by
  have hpa := fun W => parse_any s W hs
  have how := fun W (hW : NicG W d m lv odd S G) => nown_any (Fr.paV s).1.1 hW.1 hW.2.1 hW.owners hW.macs
  obtain ⟨z, hz⟩ : ∃ z, z = ownL (G.map Gp.row) (Fr.paV s).1.1 := ⟨_, rfl⟩
  rw [← hz] at hbad how
  obtain ⟨⟨⟨t, f, x⟩, e0⟩, hv⟩ : ∃ v, v = Fr.paV s := ⟨_, rfl⟩
  rw [← hv] at hpa hbad how
  simp only at hpa hbad how
  have HP := Lib.hid hpa
  have HO := Lib.hid how
  have H := Lib.hid h
  have hw : IntKind.i64.wrap (odd + 1) = odd + 1 := by rw [IntKind.wrap_i64]; omega
  clear hpa how h hv hz ho
  rcases (show (e0 ≠ 0) ∨ (e0 = 0 ∧ z = 0) by omega) with he | ⟨he, hz⟩
  all_goals
    go_enter Try.func16, Try.ntmps16
    try subst he
    try subst hz
    clear hbad
    go_wp2_with (first
      | (go_at_call 30; with_reducible refine (HP.out _).mono ?_; rintro e w1 ⟨rfl, b1⟩; have B1 := Lib.hid b1; have H1 := Lib.hid (H.out.below b1); have R1 := Lib.hid (Blk.new w1 46 #[.int .i64 t, .int .i64 f, .string x]); have c1 := R1.out.cell 0; clear b1)
      | (go_at_call 23; have HH := HO.out _ (H1.out.below ((Below.refl _ _).alloc (Nat.le_refl _) (.cells #[.int .i64 t, .int .i64 f, .string x] 46))); refine HH.mono ?_; clear HH; rintro e w2 ⟨rfl, g2⟩; have H2 := Lib.hid ((H1.out.below ((Below.refl _ _).alloc (Nat.le_refl _) (.cells #[.int .i64 t, .int .i64 f, .string x] 46))).grown g2); have B2 := Lib.hid (B1.out.trans (below_of_only (only_trans (only_alloc (only_refl w1 none) (.cells #[.int .i64 t, .int .i64 f, .string x] 46)) g2) B1.out.size (by simp))); have d1 := H2.out.1.cell 1; have f1 := H2.out.1.free 1; simp at d1; clear g2))
    go_ret2
    exact ⟨rfl, (H2.out.odds (odd + 1)).from B2.out⟩
end
end Go.Proofs.Ytjhihccjhnlghaa

/- A device of package nic: Come, where a port has the address. -/
namespace Go.Proofs.Ytjhihccjhnlghaa
open Go.RowKit Go.Lib
set_option linter.unusedVariables false

/-- What a push makes of the frames and of the drops. -/
def pshL (l : List Frm) (lim : Nat) (x : Frm) : List Frm := if l.length < lim then l ++ [x] else l
def pshD (l : List Frm) (lim dr : Nat) : Nat := if l.length < lim then dr else dr + 1
theorem fpush_any {w : World} {b : Nat} {v : Value} {l : List Frm} {lim dr : Nat} (x : Frm) (h : QueF w b v l lim dr) (hn : l.length ≤ 1000000) (hd : dr ≤ 1000000) :
    Calls Try.prog 31 #[.pointer (some ⟨b, 0, none⟩), frv x] w fun e w' => e = .returned (.bool (decide (l.length < lim))) ∧ QueFN w b v lim w' (pshL l lim x) (pshD l lim dr) := by
  unfold pshL pshD
  by_cases hl : l.length < lim
  · rw [if_pos hl, if_pos hl, decide_eq_true hl]
    exact fpush_on x h hl hn
  · rw [if_neg hl, if_neg hl, decide_eq_false hl]
    exact fpush_off x h (by omega) hd
/-- The queue of a port. -/
theorem run_fld (q : Nat) (t : Int) (w : World) : (Instr.field 70 (.agg #[.pointer (some ⟨q, 0, none⟩), .int .i64 t]) 0).run Try.prog w = .ok (.pointer (some ⟨q, 0, none⟩)) w := by kernel_rfl
section
variable {w : World} {d m : Nat} {lv : Value} {odd : Int} {S : List Frm} {G : List Gp}
set_option maxRecDepth 20000 in
set_option maxHeartbeats 1600000 in
theorem ncome_hit {A C : List Gp} {g : Gp} (s : ByteArray) (hs : s.size ≤ 1000) (h : NicG w d m lv odd S (A ++ g :: C)) (he : (Fr.paV s).2 = 0) (hm : (Fr.paV s).1.1 = g.mac) (hl : g.l.length ≤ 1000000) (hd : g.dr ≤ 1000000) :
    Calls Try.prog 16 #[.pointer (some ⟨d, 0, none⟩), .string s] w fun e w' => e = .returned (.tuple #[.int .i64 g.o, .bool (decide (g.l.length < g.lim))]) ∧
      NicN w d m lv (A ++ g :: C) w' odd S (updS ((A ++ g :: C).map Gp.sp) g.o fun x => (x.1, x.2.1, x.2.2.1, pshL g.l g.lim (Fr.paV s).1, pshD g.l g.lim g.dr)) := by
  have hpa := fun W => parse_any s W hs
  have hg : g ∈ A ++ g :: C := by simp
  have how := fun W (hW : NicG W d m lv odd S (A ++ g :: C)) => nown_any g.mac hW.1 hW.2.1 hW.owners hW.macs
  rw [show ownL ((A ++ g :: C).map Gp.row) g.mac = g.row.1 from ownL_in (x := g.row) (List.mem_map.2 ⟨g, hg, rfl⟩) rfl h.macs] at how
  have hpu := fun W (hW : NicG W d m lv odd S (A ++ g :: C)) => fpush_any (Fr.paV s).1 (hW.2.2.2.1 g hg).1 hl hd
  have hgo := h.fit hg
  have hlk := h.look
  obtain ⟨⟨⟨t, f, x⟩, e0⟩, hv⟩ : ∃ v, v = Fr.paV s := ⟨_, rfl⟩
  rw [← hv] at hpa he hm hpu ⊢
  simp only at hpa he hm hpu ⊢
  subst he
  rw [← hm] at how
  obtain ⟨yes, hyes⟩ : ∃ y, y = decide (g.l.length < g.lim) := ⟨_, rfl⟩
  rw [← hyes] at hpu ⊢
  have hz : g.row.1 = g.o := rfl
  obtain ⟨o, ho⟩ : ∃ o, o = g.o := ⟨_, rfl⟩
  rw [hz, ← ho] at how
  have hlk' : lookL ((A ++ g :: C).map Gp.row) o = some (g.o, some g.q, t) := by rw [ho, hm]; exact hlk
  have hfo : fitI o := by unfold fitI; omega
  rw [← ho] at hgo ⊢
  have HOE := Lib.hid ho
  have HP := Lib.hid hpa
  have HO := Lib.hid how
  have HU := Lib.hid hpu
  have H := Lib.hid h
  have HLK := Lib.hid hlk'
  have hne : o ≠ 0 := by omega
  clear hpa how hpu h hyes hz hlk hlk' hv hgo ho hl hd hm
  go_enter Try.func16, Try.ntmps16
  go_wp2_with (first
    | (go_at_call 30; with_reducible refine (HP.out _).mono ?_; rintro e w1 ⟨rfl, b1⟩; have B1 := Lib.hid b1; have H1 := Lib.hid (H.out.below b1); have R1 := Lib.hid (Blk.new w1 46 #[.int .i64 t, .int .i64 f, .string x]); have c1 := R1.out.cell 0; clear b1)
    | (go_at_call 23; have HH := HO.out _ (H1.out.below ((Below.refl _ _).alloc (Nat.le_refl _) (.cells #[.int .i64 t, .int .i64 f, .string x] 46))); refine HH.mono ?_; clear HH; rintro e w2 ⟨rfl, g2⟩; have H2 := Lib.hid ((H1.out.below ((Below.refl _ _).alloc (Nat.le_refl _) (.cells #[.int .i64 t, .int .i64 f, .string x] 46))).grown g2); have B2 := Lib.hid (B1.out.trans (below_of_only (only_trans (only_alloc (only_refl w1 none) (.cells #[.int .i64 t, .int .i64 f, .string x] 46)) g2) B1.out.size (by simp))); have R2 := Lib.hid (R1.out.only g2 (by simp)); clear g2))
  have H3 : Hid (NicG w2.drew d m lv odd S (A ++ g :: C)) := Lib.hid (H2.out.grown (only_drewN (only_refl w2 none) 1))
  have hfld := run_fld g.q t
  have hrun := run_look_at H3.out.2.1 hfo HLK.out
  have c0 : w2.cell? ⟨d, 0, none⟩ = some (.map (some m)) := H2.out.1.cell 0
  have e0 : w2.cell? ⟨w1.heap.size, 0, none⟩ = some (.int .i64 t) := R2.out.cell 0
  have e1 : w2.cell? ⟨w1.heap.size, 1, none⟩ = some (.int .i64 f) := R2.out.cell 1
  have e2 : w2.cell? ⟨w1.heap.size, 2, none⟩ = some (.string x) := R2.out.cell 2
  have S5 : Hid (∀ w5 l' dr', QueFN w2.drew g.q g.v g.lim w5 l' dr' → w5.cell? ⟨d, 0, none⟩ = some (.map (some m)) ∧ w5.cell? ⟨w1.heap.size, 0, none⟩ = some (.int .i64 t) ∧ w5.cell? ⟨w1.heap.size, 1, none⟩ = some (.int .i64 f) ∧ w5.cell? ⟨w1.heap.size, 2, none⟩ = some (.string x)) := Lib.hid fun w5 l' dr' hQ => by
    have hd5 := hQ.box H3.out.1 (fun e => (H3.out.2.2.2.2.2.2.1 g hg d e).1 rfl)
    have hx5 := hQ.box (R2.out.drewN 1) (fun e => by have := (H1.out.2.2.2.1 g hg).1.lt _ e; omega)
    exact ⟨hd5.cell 0, hx5.cell 0, hx5.cell 1, hx5.cell 2⟩
  clear R1 R2 c1
  go_region_held3 (fun w' => w'.cell? ⟨d, 0, none⟩ = some (.map (some m)) ∧ w'.cell? ⟨w1.heap.size, 0, none⟩ = some (.int .i64 t) ∧ w'.cell? ⟨w1.heap.size, 1, none⟩ = some (.int .i64 f) ∧ w'.cell? ⟨w1.heap.size, 2, none⟩ = some (.string x))
    (first | exact ⟨c0, e0, e1, e2⟩ | exact S5.out _ _ _ HQ.out | go_keep) (first | (go_at_call 31; with_reducible refine (HU.out _ H3.out).mono ?_; rintro e w5 ⟨rfl, hQ⟩; have HQ := Lib.hid hQ; clear hQ))
  all_goals
    go_wp2
    go_ret2
    have fin := (NicG.seat H3.out HQ.out).from (show Below w.heap.size w w2.drew from below_drewN B2.out 1)
    rw [← HOE.out] at fin
    exact ⟨rfl, fin⟩
end
end Go.Proofs.Ytjhihccjhnlghaa

/- A device of package nic: Take, Waits, Drops, Odd. -/
namespace Go.Proofs.Ytjhihccjhnlghaa
open Go.RowKit Go.Lib
set_option linter.unusedVariables false

section
variable {w : World} {d m : Nat} {lv : Value} {odd : Int} {S : List Frm} {G : List Gp}
/-- The port of an owner that has one; of one that has none. -/
theorem NicG.find {A C : List Gp} {g : Gp} (h : NicG w d m lv odd S (A ++ g :: C)) : Calls Try.prog 32 #[.pointer (some ⟨d, 0, none⟩), .int .i64 g.o] w fun e w' => e = .returned (.tuple #[.agg #[.pointer (some ⟨g.q, 0, none⟩), .int .i64 g.mac], .int .i64 0]) ∧ w.grownBy w' none :=
  nfind_some h.1 h.2.1 (by have := h.fit (show g ∈ A ++ g :: C by simp); unfold fitI; omega) h.look
theorem NicG.finds (h : NicG w d m lv odd S G) (o : Int) (hf : fitI o) (hn : ∀ g ∈ G, g.o ≠ o) : Calls Try.prog 32 #[.pointer (some ⟨d, 0, none⟩), .int .i64 o] w fun e w' => e = .returned (.tuple #[.agg #[.pointer none, .int .i64 0], .int .i64 7]) ∧ w.grownBy w' none :=
  nfind_none h.1 h.2.1 hf (List.find?_eq_none.2 (by
    intro r hr
    obtain ⟨x, hx, rfl⟩ := List.mem_map.1 hr
    have := hn x hx
    simp [Gp.row, this]))

theorem nodd_nil (w : World) : Calls Try.prog 14 #[.pointer none] w fun e w' => e = .returned (.int .i64 0) ∧ w = w' := by
  go_enter Try.func14, Try.ntmps14
  go_wp2
  go_ret
  exact ⟨rfl, rfl⟩
theorem nodd_any (h : NicG w d m lv odd S G) : Calls Try.prog 14 #[.pointer (some ⟨d, 0, none⟩)] w fun e w' => e = .returned (.int .i64 odd) ∧ w = w' := by
  have c1 : w.cell? ⟨d, 1, none⟩ = some (.int .i64 odd) := h.1.cell 1
  clear h
  go_enter Try.func14, Try.ntmps14
  go_wp2
  go_ret
  exact ⟨rfl, rfl⟩

theorem nwaits_nil (o : Int) (w : World) : Calls Try.prog 17 #[.pointer none, .int .i64 o] w fun e w' => e = .returned (.int .i64 0) ∧ w.grownBy w' none := by
  go_enter Try.func17, Try.ntmps17
  go_wp2_with (first
    | (go_at_call 32; with_reducible refine (nfind_nil o _).mono ?_; rintro e w1 ⟨rfl, g1⟩; have G1 := Lib.hid (only_alloc g1 (.cells #[.pointer none, .int .i64 0] 70)); clear g1)
    | (go_at_call 33; with_reducible refine (flen_nil _).mono ?_; rintro e w2 ⟨rfl, rfl⟩))
  go_ret
  exact ⟨rfl, G1.out⟩
theorem ndrops_nil (o : Int) (w : World) : Calls Try.prog 18 #[.pointer none, .int .i64 o] w fun e w' => e = .returned (.int .i64 0) ∧ w.grownBy w' none := by
  go_enter Try.func18, Try.ntmps18
  go_wp2_with (first
    | (go_at_call 32; with_reducible refine (nfind_nil o _).mono ?_; rintro e w1 ⟨rfl, g1⟩; have G1 := Lib.hid (only_alloc g1 (.cells #[.pointer none, .int .i64 0] 70)); clear g1)
    | (go_at_call 34; with_reducible refine (fdrops_nil _).mono ?_; rintro e w2 ⟨rfl, rfl⟩))
  go_ret
  exact ⟨rfl, G1.out⟩
theorem nwaits_in {A C : List Gp} {g : Gp} (h : NicG w d m lv odd S (A ++ g :: C)) : Calls Try.prog 17 #[.pointer (some ⟨d, 0, none⟩), .int .i64 g.o] w fun e w' => e = .returned (.int .i64 g.l.length) ∧ w.grownBy w' none := by
  have H := Lib.hid h
  have HF := Lib.hid h.find
  clear h
  go_enter Try.func17, Try.ntmps17
  go_wp2_with (first
    | (go_at_call 32; with_reducible refine HF.out.mono ?_; rintro e w1 ⟨rfl, g1⟩; have G1 := Lib.hid (only_alloc g1 (.cells #[.pointer (some ⟨g.q, 0, none⟩), .int .i64 g.mac] 70)); have H1 := Lib.hid (H.out.grown G1.out); clear g1)
    | (go_at_call 33; have HH := flen_any (H1.out.2.2.2.1 g (by simp)).1; with_reducible refine HH.mono ?_; rintro e w2 ⟨rfl, rfl⟩; clear HH))
  go_ret
  exact ⟨rfl, G1.out⟩
theorem ndrops_in {A C : List Gp} {g : Gp} (h : NicG w d m lv odd S (A ++ g :: C)) : Calls Try.prog 18 #[.pointer (some ⟨d, 0, none⟩), .int .i64 g.o] w fun e w' => e = .returned (.int .i64 g.dr) ∧ w.grownBy w' none := by
  have H := Lib.hid h
  have HF := Lib.hid h.find
  clear h
  go_enter Try.func18, Try.ntmps18
  go_wp2_with (first
    | (go_at_call 32; with_reducible refine HF.out.mono ?_; rintro e w1 ⟨rfl, g1⟩; have G1 := Lib.hid (only_alloc g1 (.cells #[.pointer (some ⟨g.q, 0, none⟩), .int .i64 g.mac] 70)); have H1 := Lib.hid (H.out.grown G1.out); clear g1)
    | (go_at_call 34; have HH := fdrops_any (H1.out.2.2.2.1 g (by simp)).1; with_reducible refine HH.mono ?_; rintro e w2 ⟨rfl, rfl⟩; clear HH))
  go_ret
  exact ⟨rfl, G1.out⟩

/-- What Take answers where nothing is taken. -/
abbrev tkE (x : Int) : Value := .tuple #[frv (0, 0, ⟨#[]⟩), .int .i64 x]
theorem ntake_nil (o : Int) (w : World) : Calls Try.prog 19 #[.pointer none, .int .i64 o] w fun e w' => e = .returned (tkE 1) ∧ Below w.heap.size w w' := by
  go_enter Try.func19, Try.ntmps19
  go_wp2_with (go_at_call 32; with_reducible refine (nfind_nil o _).mono ?_; rintro e w1 ⟨rfl, g1⟩; have b3 := ((Blk.new w 46 #[.int .i64 0, .int .i64 0, .string ⟨#[]⟩]).only g1 (by simp)).alloc (.cells #[.pointer none, .int .i64 0] 70); have d0 := b3.cell 0; have d1 := b3.cell 1; have d2 := b3.cell 2; have f0 := b3.free 0; have f1 := b3.free 1; have f2 := b3.free 2; simp at d0 d1 d2; have B1 := Lib.hid (((Below.refl w.heap.size w).alloc (Nat.le_refl _) (.cells #[.int .i64 0, .int .i64 0, .string ⟨#[]⟩] 46)).trans (below_of_only g1 (by simp) (by simp))); clear g1 b3)
  refine bodyPost_ret (v := tkE 1) (by simp [results, Try.results19, go_sem, d0, d1, d2]) rfl ⟨rfl, ?_⟩
  first
    | exact (((B1.out.alloc B1.out.size _).setCell (Nat.le_refl _) _).setCell (Nat.le_refl _) _).setCell (Nat.le_refl _) _
    | exact B1.out.alloc B1.out.size _
theorem ntake_none (h : NicG w d m lv odd S G) (o : Int) (hf : fitI o) (hn : ∀ g ∈ G, g.o ≠ o) : Calls Try.prog 19 #[.pointer (some ⟨d, 0, none⟩), .int .i64 o] w fun e w' => e = .returned (tkE 7) ∧ Below w.heap.size w w' := by
  have HF := Lib.hid ((h.below ((Below.refl _ _).alloc (Nat.le_refl _) (.cells #[.int .i64 0, .int .i64 0, .string ⟨#[]⟩] 46))).finds o hf hn)
  clear h
  go_enter Try.func19, Try.ntmps19
  go_wp2_with (go_at_call 32; with_reducible refine HF.out.mono ?_; rintro e w1 ⟨rfl, g1⟩; have b3 := ((Blk.new w 46 #[.int .i64 0, .int .i64 0, .string ⟨#[]⟩]).only g1 (by simp)).alloc (.cells #[.pointer none, .int .i64 0] 70); have d0 := b3.cell 0; have d1 := b3.cell 1; have d2 := b3.cell 2; have f0 := b3.free 0; have f1 := b3.free 1; have f2 := b3.free 2; simp at d0 d1 d2; have B1 := Lib.hid (((Below.refl w.heap.size w).alloc (Nat.le_refl _) (.cells #[.int .i64 0, .int .i64 0, .string ⟨#[]⟩] 46)).trans (below_of_only g1 (by simp) (by simp))); clear g1 b3)
  refine bodyPost_ret (v := tkE 7) (by simp [results, Try.results19, go_sem, d0, d1, d2]) rfl ⟨rfl, ?_⟩
  first
    | exact (((B1.out.alloc B1.out.size _).setCell (Nat.le_refl _) _).setCell (Nat.le_refl _) _).setCell (Nat.le_refl _) _
    | exact B1.out.alloc B1.out.size _
set_option maxRecDepth 20000 in
theorem ntake_empty {A C : List Gp} {g : Gp} (h : NicG w d m lv odd S (A ++ g :: C)) (hl : g.l = []) : Calls Try.prog 19 #[.pointer (some ⟨d, 0, none⟩), .int .i64 g.o] w fun e w' => e = .returned (tkE 9) ∧ Below w.heap.size w w' := by
  have HF := Lib.hid (h.below ((Below.refl _ _).alloc (Nat.le_refl _) (.cells #[.int .i64 0, .int .i64 0, .string ⟨#[]⟩] 46))).find
  have hq := (h.2.2.2.1 g (by simp)).1
  rw [hl] at hq
  have HQ := Lib.hid hq
  clear h hl hq
  go_enter Try.func19, Try.ntmps19
  go_wp2_with (first
    | (go_at_call 32; with_reducible refine HF.out.mono ?_; rintro e w1 ⟨rfl, g1⟩; have b3 := ((Blk.new w 46 #[.int .i64 0, .int .i64 0, .string ⟨#[]⟩]).only g1 (by simp)).alloc (.cells #[.pointer (some ⟨g.q, 0, none⟩), .int .i64 g.mac] 70); have R1 := Lib.hid b3; have G1 := Lib.hid (only_alloc (only_trans (only_alloc (only_refl w none) (.cells #[.int .i64 0, .int .i64 0, .string ⟨#[]⟩] 46)) g1) (.cells #[.pointer (some ⟨g.q, 0, none⟩), .int .i64 g.mac] 70)); have Q1 := Lib.hid (HQ.out.grown G1.out); clear g1 b3)
    | (go_at_call 35; have HH := fpop_off Q1.out; with_reducible refine HH.mono ?_; rintro e w3 ⟨rfl, b3⟩; have hr := (R1.out.below b3 R1.out.lt).alloc (.cells #[.int .i64 0, .int .i64 0, .string ⟨#[]⟩] 46); have d0 := hr.cell 0; have d1 := hr.cell 1; have d2 := hr.cell 2; have f0 := hr.free 0; have f1 := hr.free 1; have f2 := hr.free 2; simp at d0 d1 d2; have B1 := Lib.hid ((below_of_only G1.out (Nat.le_refl _) (by simp)).trans (b3.mono G1.out.size)); clear HH b3 hr))
  refine bodyPost_ret (v := tkE 9) (by simp [results, Try.results19, go_sem, d0, d1, d2]) rfl ⟨rfl, ?_⟩
  first
    | exact (((B1.out.alloc B1.out.size _).setCell (Nat.le_refl _) _).setCell (Nat.le_refl _) _).setCell (Nat.le_refl _) _
    | exact B1.out.alloc B1.out.size _
set_option maxRecDepth 20000 in
theorem ntake_in {A C : List Gp} {g : Gp} (x : Frm) (l' : List Frm) (h : NicG w d m lv odd S (A ++ g :: C)) (hl : g.l = x :: l') (hn : g.l.length ≤ 1000000) : Calls Try.prog 19 #[.pointer (some ⟨d, 0, none⟩), .int .i64 g.o] w fun e w' => e = .returned (.tuple #[frv x, .int .i64 0]) ∧ NicN w d m lv (A ++ g :: C) w' odd S (updS ((A ++ g :: C).map Gp.sp) g.o fun y => (y.1, y.2.1, y.2.2.1, l', g.dr)) := by
  have HF := Lib.hid (h.below ((Below.refl _ _).alloc (Nat.le_refl _) (.cells #[.int .i64 0, .int .i64 0, .string ⟨#[]⟩] 46))).find
  have hq := (h.2.2.2.1 g (by simp)).1
  have hlt := hq.lt
  rw [hl] at hq hn
  have HQ := Lib.hid hq
  have HN := Lib.hid hn
  have fs := fun w' (q : QueFN w g.q g.v g.lim w' l' g.dr) => h.seat q
  have FS := Lib.hid fs
  obtain ⟨x1, x2, x3⟩ := x
  have fin : ∀ w1 w3, (w.alloc (.cells #[.int .i64 0, .int .i64 0, .string ⟨#[]⟩] 46)).grownBy w1 none → QueFN (w1.alloc (.cells #[.pointer (some ⟨g.q, 0, none⟩), .int .i64 g.mac] 70)) g.q g.v g.lim w3 l' g.dr →
      Blk w3 w.heap.size 46 #[.int .i64 0, .int .i64 0, .string ⟨#[]⟩] ∧
      QueFN w g.q g.v g.lim ((((w3.alloc (.cells #[.int .i64 x1, .int .i64 x2, .string x3] 46)).setCell ⟨w.heap.size, 0, none⟩ (.int .i64 x1)).setCell ⟨w.heap.size, 1, none⟩ (.int .i64 x2)).setCell ⟨w.heap.size, 2, none⟩ (.string x3)) l' g.dr := fun w1 w3 g1 q3 => by
    have hs1 : w.heap.size + 1 ≤ w1.heap.size := by simpa using g1.size
    have hx0 := q3.box (((Blk.new w 46 #[.int .i64 0, .int .i64 0, .string ⟨#[]⟩]).only g1 (by simp)).alloc (.cells #[.pointer (some ⟨g.q, 0, none⟩), .int .i64 g.mac] 70)) (fun e => by have := hlt _ e; omega)
    have hT := own_late (W := w1.alloc (.cells #[.pointer (some ⟨g.q, 0, none⟩), .int .i64 g.mac] 70)) (x := w.heap.size) hlt (Nat.le_refl _) (by simp; omega)
    refine ⟨hx0, q3.seen hlt ?_ ((((((Keeps.refl _ _).alloc _).put (p := ⟨w.heap.size, 0, none⟩) (.inl hT) _).put (p := ⟨w.heap.size, 1, none⟩) (.inl hT) _).put (p := ⟨w.heap.size, 2, none⟩) (.inl hT) _))⟩
    exact (Keeps.of_only (only_trans (only_alloc (only_refl w none) _) g1) (by simp)).alloc _
  have FIN := Lib.hid fin
  clear h hl hq hlt fin fs hn
  go_enter Try.func19, Try.ntmps19
  go_wp2_with (first
    | (go_at_call 32; with_reducible refine HF.out.mono ?_; rintro e w1 ⟨rfl, g1⟩; have G1 := Lib.hid g1; have Q1 := Lib.hid (HQ.out.grown (only_alloc (only_trans (only_alloc (only_refl w none) (.cells #[.int .i64 0, .int .i64 0, .string ⟨#[]⟩] 46)) g1) (.cells #[.pointer (some ⟨g.q, 0, none⟩), .int .i64 g.mac] 70))); clear g1)
    | (go_at_call 35; have HH := fpop_in (x1, x2, x3) Q1.out HN.out; with_reducible refine HH.mono ?_; rintro e w3 ⟨rfl, q3⟩; obtain ⟨hr, q4⟩ := FIN.out _ _ G1.out q3; have hr := hr.alloc (.cells #[.int .i64 x1, .int .i64 x2, .string x3] 46); have d0 := hr.cell 0; have d1 := hr.cell 1; have d2 := hr.cell 2; have f0 := hr.free 0; have f1 := hr.free 1; have f2 := hr.free 2; simp at d0 d1 d2; have Q4 := Lib.hid q4; clear HH q3 hr q4))
  refine bodyPost_ret (v := .tuple #[.agg #[.int .i64 x1, .int .i64 x2, .string x3], .int .i64 0]) (by simp [results, Try.results19, go_sem, d0, d1, d2]) rfl ⟨rfl, FS.out _ Q4.out⟩
end
end Go.Proofs.Ytjhihccjhnlghaa
