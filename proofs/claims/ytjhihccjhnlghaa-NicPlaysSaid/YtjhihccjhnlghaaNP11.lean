/- A device of package nic: Send. -/
import Derived.Test.YtjhihccjhnlghaaNP10
namespace Go.Proofs.Ytjhihccjhnlghaa
open Go.RowKit Go.Lib
set_option linter.unusedVariables false

theorem snt_news (W : World) (x1 x2 : Int) (x3 : ByteArray) : ∀ j u, (frC (x1, x2, x3))[j]? = some u → (W.alloc (.cells #[.int .i64 x1, .int .i64 x2, .string x3] 57)).cell? ((⟨W.heap.size, 0, none⟩ : Addr).add j) = some u := by
  intro j u hj
  rw [addr_at, (Blk.new W 57 #[.int .i64 x1, .int .i64 x2, .string x3]).cell, Nat.zero_add]
  simpa [frC] using hj
section
variable {w : World} {d m : Nat} {lv : Value} {odd : Int} {S : List Frm} {G : List Gp}
/-- One more row in the log. -/
theorem NicG.logs (h : NicG w d m lv odd S G) (x1 x2 : Int) (x3 : ByteArray) (hn : S.length ≤ 1000) :
    ∃ v' w', (Builtin.append_ #[54, 54] 54 #[lv, .slice (some ⟨w.heap.size, 0, none⟩) 1 1]).run Try.prog (w.alloc (.cells #[.int .i64 x1, .int .i64 x2, .string x3] 57)) = .ok v' w' ∧ (∃ A c, v' = .slice A (S.length + 1) c) ∧
      w'.cell? ⟨d, 2, none⟩ = some lv ∧ w'.frozen? ⟨d, 2, none⟩ = false ∧ NicN w d m lv G (w'.setCell ⟨d, 2, none⟩ v') odd (S ++ [(x1, x2, x3)]) (G.map Gp.sp) := by
  obtain ⟨i0, hi0, hz0, hz1, hz2⟩ := info_parts sent_info
  have hlt := h.lt
  obtain ⟨h1, h2, h3, h4, h5, h6, h7, h8⟩ := h
  have hsrc : Src Try.prog 3 54 (.slice (some ⟨w.heap.size, 0, none⟩) 1 1) 1 (frC (x1, x2, x3)) (w.alloc (.cells #[.int .i64 x1, .int .i64 x2, .string x3] 57)) := Src.ofSlice _ Try.underlying54 _ _ _ _ rfl (snt_news w x1 x2 x3) (by simp [frC, Value.oneCell'])
  obtain ⟨v', w', hk, hr, hg, ho⟩ := run_pushZ (P := Try.prog) _ 54 57 54 i0 _ 32 Try.underlying54 hi0 hz0 hz1 hz2 (by omega) rfl _ _ _ (h3.alloc (.cells #[.int .i64 x1, .int .i64 x2, .string x3] 57)) (frL_cell S) _ _ hsrc (by omega)
  have hnd : some d ≠ lv.ownBlock := fun e => (h6 d e.symm).1 rfl
  have hd := (h1.alloc (.cells #[.int .i64 x1, .int .i64 x2, .string x3] 57)).only hg hnd
  have hv : ∀ i, v'.ownBlock = some i → lv.ownBlock = some i ∨ w.heap.size < i := fun i hi => by
    rcases ho with ho | ho
    · exact .inl (ho ▸ hi)
    · rw [ho] at hi
      injection hi with hi
      simp at hi
      exact .inr (by omega)
  have hvd : v'.ownBlock ≠ some d := fun e => by
    rcases hv d e with q | q
    · exact hnd q.symm
    · have := hlt d (.inl rfl)
      omega
  have k1 : Keeps (fun i => lv.ownBlock = some i) w w' := ((Keeps.refl _ w).alloc _).trans (Keeps.of_only hg fun k hk => hk)
  have k2 : Keeps (fun i => i = d ∨ lv.ownBlock = some i) w (w'.setCell ⟨d, 2, none⟩ v') := (k1.mono fun i _ hi => .inr hi).put (p := ⟨d, 2, none⟩) (.inl (.inl rfl)) _
  refine ⟨v', w', hk, hr.form, hd.cell 2, hd.free 2, v', G, ⟨by simpa using hd.put 2 v', h2.keeps k2 ?_, ?_, fun g hg' => ⟨(h4 g hg').1.keeps k2 ?_, (h4 g hg').2⟩, h5, ?_, h7, h8⟩, rfl, k2.mono ?_, ?_⟩
  · rintro (e | e)
    · exact h5 e.symm
    · exact (h6 m e).2.1 rfl
  · have := hr.put (p := ⟨d, 2, none⟩) hvd v'
    rw [frL_app, frL_one, List.length_append]
    exact this
  · rintro i hi (e | e)
    · exact (h7 g hg' i hi).1 e
    · exact (h6 i e).2.2 g hg' hi
  · intro i hi
    rcases hv i hi with q | q
    · exact h6 i q
    · refine ⟨fun e => ?_, fun e => ?_, fun g hg' e => ?_⟩
      · have := hlt d (.inl rfl)
        omega
      · have := hlt m (.inr (.inl rfl))
        omega
      · have := hlt i (.inr (.inr (.inr ⟨g, hg', e⟩)))
        omega
  · rintro i _ (e | e)
    · exact .inl e
    · exact .inr (.inr (.inl e))
  · rintro i (e | e | e | e)
    · exact .inl (.inl e)
    · exact .inl (.inr (.inl e))
    · rcases hv i e with q | q
      · exact .inl (.inr (.inr (.inl q)))
      · exact .inr (by omega)
    · exact .inl (.inr (.inr (.inr e)))

theorem nsend_nil (t o to : Int) (s : ByteArray) (w : World) : Calls Try.prog 20 #[.pointer none, .int .i64 t, .int .i64 o, .int .i64 to, .string s] w fun e w' => e = .returned (.int .i64 1) ∧ w.grownBy w' none := by
  go_enter Try.func20, Try.ntmps20
  go_wp2_with (go_at_call 32; with_reducible refine (nfind_nil o _).mono ?_; rintro e w1 ⟨rfl, g1⟩; have G1 := Lib.hid (only_alloc g1 (.cells #[.pointer none, .int .i64 0] 70)); clear g1)
  go_ret
  exact ⟨rfl, G1.out⟩
theorem nsend_none (h : NicG w d m lv odd S G) (t o to : Int) (s : ByteArray) (hf : fitI o) (hn : ∀ g ∈ G, g.o ≠ o) : Calls Try.prog 20 #[.pointer (some ⟨d, 0, none⟩), .int .i64 t, .int .i64 o, .int .i64 to, .string s] w fun e w' => e = .returned (.int .i64 7) ∧ Below w.heap.size w w' := by
  have HF := Lib.hid (h.finds o hf hn)
  clear h
  go_enter Try.func20, Try.ntmps20
  go_wp2_with (go_at_call 32; with_reducible refine HF.out.mono ?_; rintro e w1 ⟨rfl, g1⟩; have G1 := Lib.hid (only_alloc g1 (.cells #[.pointer none, .int .i64 0] 70)); clear g1)
  go_ret
  exact ⟨rfl, below_of_only G1.out (Nat.le_refl _) (by simp)⟩
theorem nsend_bad {A C : List Gp} {g : Gp} (h : NicG w d m lv odd S (A ++ g :: C)) (t to : Int) (s : ByteArray) (hs : s.size ≤ 200) (he : (Fr.prV to g.mac s).2 ≠ 0) : Calls Try.prog 20 #[.pointer (some ⟨d, 0, none⟩), .int .i64 t, .int .i64 g.o, .int .i64 to, .string s] w fun e w' => e = .returned (.int .i64 (Fr.prV to g.mac s).2) ∧ Below w.heap.size w w' := by
  have HF := Lib.hid h.find
  have hp := fun W => print_any to g.mac s W hs
  obtain ⟨⟨p, z⟩, hv⟩ : ∃ v, v = Fr.prV to g.mac s := ⟨_, rfl⟩
  rw [← hv] at hp he ⊢
  simp only at hp he ⊢
  have HP := Lib.hid hp
  clear h hp hv
  go_enter Try.func20, Try.ntmps20
  go_wp2_with (first
    | (go_at_call 32; with_reducible refine HF.out.mono ?_; rintro e w1 ⟨rfl, g1⟩; have G1 := Lib.hid (only_alloc g1 (.cells #[.pointer (some ⟨g.q, 0, none⟩), .int .i64 g.mac] 70)); clear g1)
    | (go_at_call 36; (with_reducible refine (HP.out _).mono ?_); rintro e w3 ⟨rfl, b3⟩; have B3 := Lib.hid ((below_of_only G1.out (Nat.le_refl _) (by simp)).trans (b3.mono G1.out.size)); clear b3))
  go_ret
  exact ⟨rfl, B3.out⟩
set_option maxRecDepth 20000 in
theorem nsend_ok {A C : List Gp} {g : Gp} (h : NicG w d m lv odd S (A ++ g :: C)) (t to : Int) (s : ByteArray) (hs : s.size ≤ 200) (hn : S.length ≤ 1000) (he : (Fr.prV to g.mac s).2 = 0) : Calls Try.prog 20 #[.pointer (some ⟨d, 0, none⟩), .int .i64 t, .int .i64 g.o, .int .i64 to, .string s] w fun e w' => e = .returned (.int .i64 0) ∧ NicN w d m lv (A ++ g :: C) w' odd (S ++ [(t, g.o, (Fr.prV to g.mac s).1)]) ((A ++ g :: C).map Gp.sp) := by
  have HF := Lib.hid h.find
  have H := Lib.hid h
  have hp := fun W => print_any to g.mac s W hs
  obtain ⟨⟨p, z⟩, hv⟩ : ∃ v, v = Fr.prV to g.mac s := ⟨_, rfl⟩
  rw [← hv] at hp he ⊢
  simp only at hp he ⊢
  subst he
  have HP := Lib.hid hp
  have hlg := fun W (hW : NicG W d m lv odd S (A ++ g :: C)) => hW.logs t g.o p hn
  obtain ⟨Al, cl, rfl⟩ := h.2.2.1.form
  have HLG := Lib.hid hlg
  clear h hp hv hlg
  go_enter Try.func20, Try.ntmps20
  go_wp2_with (first
    | (go_at_call 32; with_reducible refine HF.out.mono ?_; rintro e w1 ⟨rfl, g1⟩; have G1 := Lib.hid (only_alloc g1 (.cells #[.pointer (some ⟨g.q, 0, none⟩), .int .i64 g.mac] 70)); clear g1)
    | (go_at_call 36; (with_reducible refine (HP.out _).mono ?_); rintro e w3 ⟨rfl, b3⟩; have B3 := Lib.hid ((below_of_only G1.out (Nat.le_refl _) (by simp)).trans (b3.mono G1.out.size)); clear b3; have h3 := H.out.below B3.out; have c2 : w3.cell? ⟨d, 2, none⟩ = some (.slice Al S.length cl) := h3.1.cell 2; obtain ⟨v', w4, hk, ⟨A', c', rfl⟩, d2, f2, fin⟩ := HLG.out w3 h3; have HK := Lib.hid hk; have FIN := Lib.hid (fin.from B3.out); clear h3 hk fin)
    | (at_builtin; refine wpList_append_eq rfl (.tmp 38) (.tmp 43) 54 rfl HK.out rfl rfl ?_))
  go_ret
  exact ⟨rfl, FIN.out⟩
end
end Go.Proofs.Ytjhihccjhnlghaa
