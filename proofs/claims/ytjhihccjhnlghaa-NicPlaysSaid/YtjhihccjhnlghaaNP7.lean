/- A device of package nic: Come. -/
import Derived.Test.YtjhihccjhnlghaaNP6
namespace Go.Proofs.Ytjhihccjhnlghaa
open Go.RowKit Go.Lib
set_option linter.unusedVariables false

/-- 'm[k]' as an equation, for regions that draw. -/
theorem run_look_at {w : World} {b : Nat} {L : List Pp} {k p : Int} {q : Nat} {s : Int} (hmap : MapP w b L) (hk : fitI k) (hl : lookL L k = some (p, some q, s)) :
    (Instr.lookup 63 (.map (some b)) (.int .i64 k) false).run Try.prog w = .ok (.agg #[.pointer (some ⟨q, 0, none⟩), .int .i64 s]) w := by
  obtain ⟨D, h1, h2⟩ := hmap
  obtain ⟨e1, e2⟩ := h2.has_some hl
  obtain ⟨v, ps, hr, hv⟩ := h1.lookup int_keys Try.underlying63 (pp_zero w) (ppElem_mk none 0) (int_key hk)
  rw [e2] at hv
  obtain ⟨q', m', rfl, hz⟩ := ppElem_inv hv
  obtain ⟨rfl, rfl⟩ := ppDat_inj (show ppDat _ _ = ppDat _ _ from congrArg Prod.fst hz)
  exact hr
section
variable {w : World} {d m : Nat} {lv : Value} {odd : Int} {S : List Frm} {G : List Gp}
theorem NicG.look {A C : List Gp} {g : Gp} (h : NicG w d m lv odd S (A ++ g :: C)) : lookL ((A ++ g :: C).map Gp.row) g.o = some g.row := by
  have h8 := h.2.2.2.2.2.2.2
  rw [List.pairwise_append] at h8
  unfold lookL
  rw [List.map_append, List.find?_append, List.map_cons, List.find?_cons]
  have : (A.map Gp.row).find? (fun r => decide (r.1 = g.o)) = none := List.find?_eq_none.2 (by
    intro r hr
    obtain ⟨x, hx, rfl⟩ := List.mem_map.1 hr
    have := (h8.2.2 x hx g (List.mem_cons_self ..)).1
    simp [Gp.row, this])
  rw [this]
  simp [Gp.row]
theorem NicG.fit (h : NicG w d m lv odd S G) {g : Gp} (hg : g ∈ G) : 1 ≤ g.o ∧ g.o ≤ 8 := by
  have := mayP_iff.1 (h.2.2.2.1 g hg).2
  simp [Gp.pub] at this
  omega

theorem ncome_nil (s : ByteArray) (w : World) : Calls Try.prog 16 #[.pointer none, .string s] w fun e w' => e = .returned (.tuple #[.int .i64 0, .bool false]) ∧ w = w' := by
  go_enter Try.func16, Try.ntmps16
  go_wp2
  go_ret2
  exact ⟨rfl, rfl⟩
set_option maxHeartbeats 1600000 in
theorem ncome_odd (s : ByteArray) (hs : s.size ≤ 1000) (h : NicG w d m lv odd S G) (hbad : (Fr.paV s).2 ≠ 0 ∨ ownL (G.map Gp.row) (Fr.paV s).1.1 = 0) (ho : 0 ≤ odd ∧ odd ≤ 1000000) :
    Calls Try.prog 16 #[.pointer (some ⟨d, 0, none⟩), .string s] w fun e w' => e = .returned (.tuple #[.int .i64 0, .bool false]) ∧ NicN w d m lv G w' (odd + 1) S (G.map Gp.sp) := by
  have hpa := fun W => parse_any s W hs
  have how := fun W (hW : NicG W d m lv odd S G) => nown_any (Fr.paV s).1.1 hW.1 hW.2.1 hW.owners hW.macs
  obtain ⟨z, hz⟩ : ∃ z, z = ownL (G.map Gp.row) (Fr.paV s).1.1 := ⟨_, rfl⟩
  rw [← hz] at hbad how
  obtain ⟨⟨⟨t, f, x⟩, e0⟩, hv⟩ : ∃ v, v = Fr.paV s := ⟨_, rfl⟩
  rw [← hv] at hpa hbad how
  simp only at hpa hbad how
  have HP := Lib.hid hpa
  have HO := Lib.hid how
  have H := Lib.hid h
  have hw : IntKind.i64.wrap (odd + 1) = odd + 1 := by rw [IntKind.wrap_i64]; omega
  clear hpa how h hv hz ho
  rcases (show (e0 ≠ 0) ∨ (e0 = 0 ∧ z = 0) by omega) with he | ⟨he, hz⟩
  all_goals
    go_enter Try.func16, Try.ntmps16
    try subst he
    try subst hz
    clear hbad
    go_wp2_with (first
      | (go_at_call 30; with_reducible refine (HP.out _).mono ?_; rintro e w1 ⟨rfl, b1⟩; have B1 := Lib.hid b1; have H1 := Lib.hid (H.out.below b1); have R1 := Lib.hid (Blk.new w1 46 #[.int .i64 t, .int .i64 f, .string x]); have c1 := R1.out.cell 0; clear b1)
      | (go_at_call 23; have HH := HO.out _ (H1.out.below ((Below.refl _ _).alloc (Nat.le_refl _) (.cells #[.int .i64 t, .int .i64 f, .string x] 46))); refine HH.mono ?_; clear HH; rintro e w2 ⟨rfl, g2⟩; have H2 := Lib.hid ((H1.out.below ((Below.refl _ _).alloc (Nat.le_refl _) (.cells #[.int .i64 t, .int .i64 f, .string x] 46))).grown g2); have B2 := Lib.hid (B1.out.trans (below_of_only (only_trans (only_alloc (only_refl w1 none) (.cells #[.int .i64 t, .int .i64 f, .string x] 46)) g2) B1.out.size (by simp))); have d1 := H2.out.1.cell 1; have f1 := H2.out.1.free 1; simp at d1; clear g2))
    go_ret2
    exact ⟨rfl, (H2.out.odds (odd + 1)).from B2.out⟩
end
end Go.Proofs.Ytjhihccjhnlghaa
