/- A device of package nic: Take, Waits, Drops, Odd. -/
import Derived.Test.YtjhihccjhnlghaaNP8
namespace Go.Proofs.Ytjhihccjhnlghaa
open Go.RowKit Go.Lib
set_option linter.unusedVariables false

section
variable {w : World} {d m : Nat} {lv : Value} {odd : Int} {S : List Frm} {G : List Gp}
/-- The port of an owner that has one; of one that has none. -/
theorem NicG.find {A C : List Gp} {g : Gp} (h : NicG w d m lv odd S (A ++ g :: C)) : Calls Try.prog 32 #[.pointer (some ⟨d, 0, none⟩), .int .i64 g.o] w fun e w' => e = .returned (.tuple #[.agg #[.pointer (some ⟨g.q, 0, none⟩), .int .i64 g.mac], .int .i64 0]) ∧ w.grownBy w' none :=
  nfind_some h.1 h.2.1 (by have := h.fit (show g ∈ A ++ g :: C by simp); unfold fitI; omega) h.look
theorem NicG.finds (h : NicG w d m lv odd S G) (o : Int) (hf : fitI o) (hn : ∀ g ∈ G, g.o ≠ o) : Calls Try.prog 32 #[.pointer (some ⟨d, 0, none⟩), .int .i64 o] w fun e w' => e = .returned (.tuple #[.agg #[.pointer none, .int .i64 0], .int .i64 7]) ∧ w.grownBy w' none :=
  nfind_none h.1 h.2.1 hf (List.find?_eq_none.2 (by
    intro r hr
    obtain ⟨x, hx, rfl⟩ := List.mem_map.1 hr
    have := hn x hx
    simp [Gp.row, this]))

theorem nodd_nil (w : World) : Calls Try.prog 14 #[.pointer none] w fun e w' => e = .returned (.int .i64 0) ∧ w = w' := by
  go_enter Try.func14, Try.ntmps14
  go_wp2
  go_ret
  exact ⟨rfl, rfl⟩
theorem nodd_any (h : NicG w d m lv odd S G) : Calls Try.prog 14 #[.pointer (some ⟨d, 0, none⟩)] w fun e w' => e = .returned (.int .i64 odd) ∧ w = w' := by
  have c1 : w.cell? ⟨d, 1, none⟩ = some (.int .i64 odd) := h.1.cell 1
  clear h
  go_enter Try.func14, Try.ntmps14
  go_wp2
  go_ret
  exact ⟨rfl, rfl⟩

theorem nwaits_nil (o : Int) (w : World) : Calls Try.prog 17 #[.pointer none, .int .i64 o] w fun e w' => e = .returned (.int .i64 0) ∧ w.grownBy w' none := by
  go_enter Try.func17, Try.ntmps17
  go_wp2_with (first
    | (go_at_call 32; with_reducible refine (nfind_nil o _).mono ?_; rintro e w1 ⟨rfl, g1⟩; have G1 := Lib.hid (only_alloc g1 (.cells #[.pointer none, .int .i64 0] 70)); clear g1)
    | (go_at_call 33; with_reducible refine (flen_nil _).mono ?_; rintro e w2 ⟨rfl, rfl⟩))
  go_ret
  exact ⟨rfl, G1.out⟩
theorem ndrops_nil (o : Int) (w : World) : Calls Try.prog 18 #[.pointer none, .int .i64 o] w fun e w' => e = .returned (.int .i64 0) ∧ w.grownBy w' none := by
  go_enter Try.func18, Try.ntmps18
  go_wp2_with (first
    | (go_at_call 32; with_reducible refine (nfind_nil o _).mono ?_; rintro e w1 ⟨rfl, g1⟩; have G1 := Lib.hid (only_alloc g1 (.cells #[.pointer none, .int .i64 0] 70)); clear g1)
    | (go_at_call 34; with_reducible refine (fdrops_nil _).mono ?_; rintro e w2 ⟨rfl, rfl⟩))
  go_ret
  exact ⟨rfl, G1.out⟩
theorem nwaits_in {A C : List Gp} {g : Gp} (h : NicG w d m lv odd S (A ++ g :: C)) : Calls Try.prog 17 #[.pointer (some ⟨d, 0, none⟩), .int .i64 g.o] w fun e w' => e = .returned (.int .i64 g.l.length) ∧ w.grownBy w' none := by
  have H := Lib.hid h
  have HF := Lib.hid h.find
  clear h
  go_enter Try.func17, Try.ntmps17
  go_wp2_with (first
    | (go_at_call 32; with_reducible refine HF.out.mono ?_; rintro e w1 ⟨rfl, g1⟩; have G1 := Lib.hid (only_alloc g1 (.cells #[.pointer (some ⟨g.q, 0, none⟩), .int .i64 g.mac] 70)); have H1 := Lib.hid (H.out.grown G1.out); clear g1)
    | (go_at_call 33; have HH := flen_any (H1.out.2.2.2.1 g (by simp)).1; with_reducible refine HH.mono ?_; rintro e w2 ⟨rfl, rfl⟩; clear HH))
  go_ret
  exact ⟨rfl, G1.out⟩
theorem ndrops_in {A C : List Gp} {g : Gp} (h : NicG w d m lv odd S (A ++ g :: C)) : Calls Try.prog 18 #[.pointer (some ⟨d, 0, none⟩), .int .i64 g.o] w fun e w' => e = .returned (.int .i64 g.dr) ∧ w.grownBy w' none := by
  have H := Lib.hid h
  have HF := Lib.hid h.find
  clear h
  go_enter Try.func18, Try.ntmps18
  go_wp2_with (first
    | (go_at_call 32; with_reducible refine HF.out.mono ?_; rintro e w1 ⟨rfl, g1⟩; have G1 := Lib.hid (only_alloc g1 (.cells #[.pointer (some ⟨g.q, 0, none⟩), .int .i64 g.mac] 70)); have H1 := Lib.hid (H.out.grown G1.out); clear g1)
    | (go_at_call 34; have HH := fdrops_any (H1.out.2.2.2.1 g (by simp)).1; with_reducible refine HH.mono ?_; rintro e w2 ⟨rfl, rfl⟩; clear HH))
  go_ret
  exact ⟨rfl, G1.out⟩

/-- What Take answers where nothing is taken. -/
abbrev tkE (x : Int) : Value := .tuple #[frv (0, 0, ⟨#[]⟩), .int .i64 x]
theorem ntake_nil (o : Int) (w : World) : Calls Try.prog 19 #[.pointer none, .int .i64 o] w fun e w' => e = .returned (tkE 1) ∧ Below w.heap.size w w' := by
  go_enter Try.func19, Try.ntmps19
  go_wp2_with (go_at_call 32; with_reducible refine (nfind_nil o _).mono ?_; rintro e w1 ⟨rfl, g1⟩; have b3 := ((Blk.new w 46 #[.int .i64 0, .int .i64 0, .string ⟨#[]⟩]).only g1 (by simp)).alloc (.cells #[.pointer none, .int .i64 0] 70); have d0 := b3.cell 0; have d1 := b3.cell 1; have d2 := b3.cell 2; have f0 := b3.free 0; have f1 := b3.free 1; have f2 := b3.free 2; simp at d0 d1 d2; have B1 := Lib.hid (((Below.refl w.heap.size w).alloc (Nat.le_refl _) (.cells #[.int .i64 0, .int .i64 0, .string ⟨#[]⟩] 46)).trans (below_of_only g1 (by simp) (by simp))); clear g1 b3)
  refine bodyPost_ret (v := tkE 1) (by simp [results, Try.results19, go_sem, d0, d1, d2]) rfl ⟨rfl, ?_⟩
  first
    | exact (((B1.out.alloc B1.out.size _).setCell (Nat.le_refl _) _).setCell (Nat.le_refl _) _).setCell (Nat.le_refl _) _
    | exact B1.out.alloc B1.out.size _
theorem ntake_none (h : NicG w d m lv odd S G) (o : Int) (hf : fitI o) (hn : ∀ g ∈ G, g.o ≠ o) : Calls Try.prog 19 #[.pointer (some ⟨d, 0, none⟩), .int .i64 o] w fun e w' => e = .returned (tkE 7) ∧ Below w.heap.size w w' := by
  have HF := Lib.hid ((h.below ((Below.refl _ _).alloc (Nat.le_refl _) (.cells #[.int .i64 0, .int .i64 0, .string ⟨#[]⟩] 46))).finds o hf hn)
  clear h
  go_enter Try.func19, Try.ntmps19
  go_wp2_with (go_at_call 32; with_reducible refine HF.out.mono ?_; rintro e w1 ⟨rfl, g1⟩; have b3 := ((Blk.new w 46 #[.int .i64 0, .int .i64 0, .string ⟨#[]⟩]).only g1 (by simp)).alloc (.cells #[.pointer none, .int .i64 0] 70); have d0 := b3.cell 0; have d1 := b3.cell 1; have d2 := b3.cell 2; have f0 := b3.free 0; have f1 := b3.free 1; have f2 := b3.free 2; simp at d0 d1 d2; have B1 := Lib.hid (((Below.refl w.heap.size w).alloc (Nat.le_refl _) (.cells #[.int .i64 0, .int .i64 0, .string ⟨#[]⟩] 46)).trans (below_of_only g1 (by simp) (by simp))); clear g1 b3)
  refine bodyPost_ret (v := tkE 7) (by simp [results, Try.results19, go_sem, d0, d1, d2]) rfl ⟨rfl, ?_⟩
  first
    | exact (((B1.out.alloc B1.out.size _).setCell (Nat.le_refl _) _).setCell (Nat.le_refl _) _).setCell (Nat.le_refl _) _
    | exact B1.out.alloc B1.out.size _
set_option maxRecDepth 20000 in
theorem ntake_empty {A C : List Gp} {g : Gp} (h : NicG w d m lv odd S (A ++ g :: C)) (hl : g.l = []) : Calls Try.prog 19 #[.pointer (some ⟨d, 0, none⟩), .int .i64 g.o] w fun e w' => e = .returned (tkE 9) ∧ Below w.heap.size w w' := by
  have HF := Lib.hid (h.below ((Below.refl _ _).alloc (Nat.le_refl _) (.cells #[.int .i64 0, .int .i64 0, .string ⟨#[]⟩] 46))).find
  have hq := (h.2.2.2.1 g (by simp)).1
  rw [hl] at hq
  have HQ := Lib.hid hq
  clear h hl hq
  go_enter Try.func19, Try.ntmps19
  go_wp2_with (first
    | (go_at_call 32; with_reducible refine HF.out.mono ?_; rintro e w1 ⟨rfl, g1⟩; have b3 := ((Blk.new w 46 #[.int .i64 0, .int .i64 0, .string ⟨#[]⟩]).only g1 (by simp)).alloc (.cells #[.pointer (some ⟨g.q, 0, none⟩), .int .i64 g.mac] 70); have R1 := Lib.hid b3; have G1 := Lib.hid (only_alloc (only_trans (only_alloc (only_refl w none) (.cells #[.int .i64 0, .int .i64 0, .string ⟨#[]⟩] 46)) g1) (.cells #[.pointer (some ⟨g.q, 0, none⟩), .int .i64 g.mac] 70)); have Q1 := Lib.hid (HQ.out.grown G1.out); clear g1 b3)
    | (go_at_call 35; have HH := fpop_off Q1.out; with_reducible refine HH.mono ?_; rintro e w3 ⟨rfl, b3⟩; have hr := (R1.out.below b3 R1.out.lt).alloc (.cells #[.int .i64 0, .int .i64 0, .string ⟨#[]⟩] 46); have d0 := hr.cell 0; have d1 := hr.cell 1; have d2 := hr.cell 2; have f0 := hr.free 0; have f1 := hr.free 1; have f2 := hr.free 2; simp at d0 d1 d2; have B1 := Lib.hid ((below_of_only G1.out (Nat.le_refl _) (by simp)).trans (b3.mono G1.out.size)); clear HH b3 hr))
  refine bodyPost_ret (v := tkE 9) (by simp [results, Try.results19, go_sem, d0, d1, d2]) rfl ⟨rfl, ?_⟩
  first
    | exact (((B1.out.alloc B1.out.size _).setCell (Nat.le_refl _) _).setCell (Nat.le_refl _) _).setCell (Nat.le_refl _) _
    | exact B1.out.alloc B1.out.size _
set_option maxRecDepth 20000 in
theorem ntake_in {A C : List Gp} {g : Gp} (x : Frm) (l' : List Frm) (h : NicG w d m lv odd S (A ++ g :: C)) (hl : g.l = x :: l') (hn : g.l.length ≤ 1000000) : Calls Try.prog 19 #[.pointer (some ⟨d, 0, none⟩), .int .i64 g.o] w fun e w' => e = .returned (.tuple #[frv x, .int .i64 0]) ∧ NicN w d m lv (A ++ g :: C) w' odd S (updS ((A ++ g :: C).map Gp.sp) g.o fun y => (y.1, y.2.1, y.2.2.1, l', g.dr)) := by
  have HF := Lib.hid (h.below ((Below.refl _ _).alloc (Nat.le_refl _) (.cells #[.int .i64 0, .int .i64 0, .string ⟨#[]⟩] 46))).find
  have hq := (h.2.2.2.1 g (by simp)).1
  have hlt := hq.lt
  rw [hl] at hq hn
  have HQ := Lib.hid hq
  have HN := Lib.hid hn
  have fs := fun w' (q : QueFN w g.q g.v g.lim w' l' g.dr) => h.seat q
  have FS := Lib.hid fs
  obtain ⟨x1, x2, x3⟩ := x
  have fin : ∀ w1 w3, (w.alloc (.cells #[.int .i64 0, .int .i64 0, .string ⟨#[]⟩] 46)).grownBy w1 none → QueFN (w1.alloc (.cells #[.pointer (some ⟨g.q, 0, none⟩), .int .i64 g.mac] 70)) g.q g.v g.lim w3 l' g.dr →
      Blk w3 w.heap.size 46 #[.int .i64 0, .int .i64 0, .string ⟨#[]⟩] ∧
      QueFN w g.q g.v g.lim ((((w3.alloc (.cells #[.int .i64 x1, .int .i64 x2, .string x3] 46)).setCell ⟨w.heap.size, 0, none⟩ (.int .i64 x1)).setCell ⟨w.heap.size, 1, none⟩ (.int .i64 x2)).setCell ⟨w.heap.size, 2, none⟩ (.string x3)) l' g.dr := fun w1 w3 g1 q3 => by
    have hs1 : w.heap.size + 1 ≤ w1.heap.size := by simpa using g1.size
    have hx0 := q3.box (((Blk.new w 46 #[.int .i64 0, .int .i64 0, .string ⟨#[]⟩]).only g1 (by simp)).alloc (.cells #[.pointer (some ⟨g.q, 0, none⟩), .int .i64 g.mac] 70)) (fun e => by have := hlt _ e; omega)
    have hT := own_late (W := w1.alloc (.cells #[.pointer (some ⟨g.q, 0, none⟩), .int .i64 g.mac] 70)) (x := w.heap.size) hlt (Nat.le_refl _) (by simp; omega)
    refine ⟨hx0, q3.seen hlt ?_ ((((((Keeps.refl _ _).alloc _).put (p := ⟨w.heap.size, 0, none⟩) (.inl hT) _).put (p := ⟨w.heap.size, 1, none⟩) (.inl hT) _).put (p := ⟨w.heap.size, 2, none⟩) (.inl hT) _))⟩
    exact (Keeps.of_only (only_trans (only_alloc (only_refl w none) _) g1) (by simp)).alloc _
  have FIN := Lib.hid fin
  clear h hl hq hlt fin fs hn
  go_enter Try.func19, Try.ntmps19
  go_wp2_with (first
    | (go_at_call 32; with_reducible refine HF.out.mono ?_; rintro e w1 ⟨rfl, g1⟩; have G1 := Lib.hid g1; have Q1 := Lib.hid (HQ.out.grown (only_alloc (only_trans (only_alloc (only_refl w none) (.cells #[.int .i64 0, .int .i64 0, .string ⟨#[]⟩] 46)) g1) (.cells #[.pointer (some ⟨g.q, 0, none⟩), .int .i64 g.mac] 70))); clear g1)
    | (go_at_call 35; have HH := fpop_in (x1, x2, x3) Q1.out HN.out; with_reducible refine HH.mono ?_; rintro e w3 ⟨rfl, q3⟩; obtain ⟨hr, q4⟩ := FIN.out _ _ G1.out q3; have hr := hr.alloc (.cells #[.int .i64 x1, .int .i64 x2, .string x3] 46); have d0 := hr.cell 0; have d1 := hr.cell 1; have d2 := hr.cell 2; have f0 := hr.free 0; have f1 := hr.free 1; have f2 := hr.free 2; simp at d0 d1 d2; have Q4 := Lib.hid q4; clear HH q3 hr q4))
  refine bodyPost_ret (v := .tuple #[.agg #[.int .i64 x1, .int .i64 x2, .string x3], .int .i64 0]) (by simp [results, Try.results19, go_sem, d0, d1, d2]) rfl ⟨rfl, FS.out _ Q4.out⟩
end
end Go.Proofs.Ytjhihccjhnlghaa
