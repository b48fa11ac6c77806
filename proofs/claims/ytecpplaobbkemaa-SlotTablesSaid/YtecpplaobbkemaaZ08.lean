import Derived.Test.YtecpplaobbkemaaZ07
import Derived.Test.YtecpplaobbkemaaZ05
import Derived.Shelf.SlSortCmp.WholeK
import Derived.Shelf.Lay
import Derived.Ground.SlsfProg
import Derived.Laws.StructEq
set_option linter.all false
/- How many units begin at ticks of a span: Between, by its contract. -/
namespace Go.Proofs.Ytecpplaobbkemaa
open Go.RowKit Go.Lib Go.Sort
set_option linter.unusedVariables false

/-- How many of an offset's ticks are in a span, for all of some offsets. -/
def smC (s : Int × Int) (f : Int) : List Int → Int
  | [] => 0
  | x :: l => countV s (x, x + 1) f + smC s f l
theorem smC_app (s : Int × Int) (f : Int) (l m : List Int) : smC s f (l ++ m) = smC s f l + smC s f m := by
  induction l with
  | nil => simp [smC]
  | cons a l ih => simp only [List.cons_append, smC, ih]; omega
theorem countV_bound (s p : Int × Int) (f : Int) : -8796093022208 ≤ countV s p f ∧ countV s p f ≤ 8796093022208 := by
  unfold countV
  split
  · rename_i h
    obtain ⟨h1, h2, h3, h4⟩ := h
    obtain ⟨f1, f2⟩ := (rightB_iff f).1 h1
    obtain ⟨m1, m2, m3⟩ := meet_in h4
    have hs : 0 ≤ s.1 ∧ s.1 < s.2 := by simpa [isB] using h2
    have a1 := ahead_bounds (t := s.2) (f := f) (p := meetV p (0, f)) (by omega) h3 f1 f2 m1 m2 m3
    have a2 := ahead_bounds (t := s.1) (f := f) (p := meetV p (0, f)) (by omega) (by omega) f1 f2 m1 m2 m3
    omega
  · omega
theorem smC_bound (s : Int × Int) (f : Int) (l : List Int) : -(8796093022208 * (l.length : Int)) ≤ smC s f l ∧ smC s f l ≤ 8796093022208 * (l.length : Int) := by
  induction l with
  | nil => simp [smC]
  | cons a l ih =>
    have := countV_bound s (a, a + 1) f
    simp only [smC, List.length_cons]
    omega
/-- What is kept while they are counted. -/
def RBt (w0 : World) (b : Nat) (L : List Int) (s : Int × Int) (f : Int) (p1 p2 p3 : Nat) (j g : Nat) (W : World) : Prop :=
  w0.grownBy W none ∧ g ≠ p1 ∧ Blk W p1 3 #[.int .i64 (smC s f (L.take j))] ∧ Blk W p2 45 #[.int .i64 s.1, .int .i64 s.2] ∧ Blk W p3 23 #[.pointer (some ⟨b, 0, none⟩)]
set_option maxRecDepth 20000 in
set_option maxHeartbeats 1600000 in
theorem btw_step (w0 : World) (b : Nat) (f : Int) (A : Option Addr) (n c : Nat) (d : Nat → W3) (L : List Int) (sp : Int × Int) (p1 p2 p3 : Nat) (h : TbS w0 b f A n c d) (hL : ∀ s ∈ L, offB s f = true) (hl : L.length ≤ 65536) (hp : w0.heap.size ≤ p1) (hd : p2 ≠ p1 ∧ p3 ≠ p1)
    (j g : Nat) (W : World) (s : Int) (hs : L[j]? = some s) (hR : RBt w0 b L sp f p1 p2 p3 j g W) (hg : g < W.heap.size) :
    Calls Try.prog 39 #[.int .i64 s, .pointer (some ⟨p1, 0, none⟩), .pointer (some ⟨p2, 0, none⟩), .pointer (some ⟨p3, 0, none⟩)] W (StT (RBt w0 b L sp f p1 p2 p3) (fun _ => False) j g W) := by
  obtain ⟨k1, k2, k3, k4, k5⟩ := hR
  obtain ⟨hd2, hd3⟩ := hd
  have hsm : s ∈ L := List.mem_of_getElem? hs
  have hfr : s < 4096 ∧ 0 ≤ s := by
    have := (offB_iff s f).1 (hL s hsm)
    omega
  have hbW : W.cell? ⟨b, 0, none⟩ = some (.int .i64 f) := (h.1.only k1 (by simp)).cell 0
  have hbl : b < w0.heap.size := h.1.lt
  have hjl := (List.getElem?_eq_some_iff.1 hs).1
  have hb1 := smC_bound sp f (L.take j)
  have hb2 := countV_bound sp (s, s + 1) f
  have htl : (L.take j).length ≤ 65536 := by rw [List.length_take]; omega
  have HSET := Lib.hid (show ∀ w2, W.grownBy w2 none → StT (RBt w0 b L sp f p1 p2 p3) (fun _ => False) j g W (.returned (.bool true)) (w2.setCell ⟨p1, 0, none⟩ (.int .i64 (smC sp f (L.take j) + countV sp (s, s + 1) f))) from fun w2 g2 => by
    have m1 := (k3.only g2 (by simp)).put 0 (.int .i64 (smC sp f (L.take j) + countV sp (s, s + 1) f))
    have m2 := (k4.only g2 (by simp)).far (p := ⟨p1, 0, none⟩) hd2 (.int .i64 (smC sp f (L.take j) + countV sp (s, s + 1) f))
    have m3 := (k5.only g2 (by simp)).far (p := ⟨p1, 0, none⟩) hd3 (.int .i64 (smC sp f (L.take j) + countV sp (s, s + 1) f))
    have mg := only_putc (only_trans k1 g2) (p := ⟨p1, 0, none⟩) hp (.int .i64 (smC sp f (L.take j) + countV sp (s, s + 1) f))
    refine ⟨true, rfl, (Below.heap_setCell w2 ⟨p1, 0, none⟩ _ g k2).trans (g2.block g hg (by simp)), by have := g2.size; simpa using this, fun _ => ⟨mg, k2, ?_, m2, m3⟩, fun e => by cases e⟩
    rw [take_snoc hs, smC_app]
    simpa [smC] using m1)
  have HC := Lib.hid (show ∀ w2, W.grownBy w2 none → w2.cell? ⟨p1, 0, none⟩ = some (.int .i64 (smC sp f (L.take j))) ∧ w2.cell? ⟨p2, 0, none⟩ = some (.int .i64 sp.1) ∧ w2.cell? ⟨p2, 1, none⟩ = some (.int .i64 sp.2) ∧ w2.cell? ⟨p3, 0, none⟩ = some (.pointer (some ⟨b, 0, none⟩)) ∧ w2.cell? ⟨b, 0, none⟩ = some (.int .i64 f) from fun w2 g2 => by
    exact ⟨(k3.only g2 (by simp)).cell 0, (k4.only g2 (by simp)).cell 0, (k4.only g2 (by simp)).cell 1, (k5.only g2 (by simp)).cell 0, (cell_heap (g2.block b (by have := k1.size; omega) (by simp)) 0).trans hbW⟩)
  have HFZ := Lib.hid (show ∀ w2, W.grownBy w2 none → w2.frozen? ⟨p1, 0, none⟩ = false from fun w2 g2 => (k3.only g2 (by simp)).free 0)
  have HN := Lib.hid (fun W' => count_any sp (s, s + 1) f W')
  have a0 : W.grownBy W none := only_refl _ _
  obtain ⟨s1, s2⟩ := sp
  generalize countV (s1, s2) (s, s + 1) f = cv at HSET HN hb2
  generalize smC (s1, s2) f (L.take j) = sm at HSET HC hb1
  have u1 : IntKind.i64.wrap (sm + cv) = sm + cv := by rw [IntKind.wrap_i64]; omega
  have u2 : IntKind.i64.wrap (s + 1) = s + 1 := by rw [IntKind.wrap_i64]; omega
  simp only at HC HN
  clear k1 k2 k3 k4 k5 h hL hl hp hs hsm hjl hb1 hb2 htl hbW
  go_enter Try.func39, Try.ntmps39
  go_upto_region 1 with (fail)
  refine wp_region_ends2 12 (fun w' => w'.cell? ⟨p1, 0, none⟩ = some (.int .i64 sm) ∧ w'.cell? ⟨p2, 0, none⟩ = some (.int .i64 s1) ∧ w'.cell? ⟨p2, 1, none⟩ = some (.int .i64 s2) ∧ w'.cell? ⟨p3, 0, none⟩ = some (.pointer (some ⟨b, 0, none⟩)) ∧ w'.cell? ⟨b, 0, none⟩ = some (.int .i64 f)) (by kernel_rfl) (by kernel_rfl) (HC.out _ (only_drew1 a0)) (fun hHeld => ?_)
  simp only [List.take_succ_cons, List.take_zero]
  refine wpAnyH_take (i := 0) (oi := _) (v := ?_) rfl (by kernel_rfl) (by kernel_rfl) (by kernel_rfl) (fun _ _ _ h => h) (Or.inl ⟨by rfl, ?_⟩) (by assumption) ?_
  case refine_2 => intro w hSw; (try dsimp only at hSw); go_simp; try with_reducible rfl
  try simp only [Act.put, List.setIfInBounds_toArray, List.set_cons_zero, List.set_cons_succ]
  refine wpAnyH_take (i := 1) (oi := _) (v := ?_) rfl (by kernel_rfl) (by kernel_rfl) (by kernel_rfl) (fun _ _ _ h => h) (Or.inl ⟨by rfl, ?_⟩) (by assumption) ?_
  case refine_2 => intro w hSw; (try dsimp only at hSw); go_simp; try with_reducible rfl
  try simp only [Act.put, List.setIfInBounds_toArray, List.set_cons_zero, List.set_cons_succ]
  refine wpAnyH_take (i := 2) (oi := _) (v := ?_) rfl (by kernel_rfl) (by kernel_rfl) (by kernel_rfl) (fun _ _ _ h => h) (Or.inl ⟨by rfl, ?_⟩) (by assumption) ?_
  case refine_2 => intro w hSw; (try dsimp only at hSw); go_simp; try with_reducible rfl
  try simp only [Act.put, List.setIfInBounds_toArray, List.set_cons_zero, List.set_cons_succ]
  refine wpAnyH_take (i := 3) (oi := _) (v := ?_) rfl (by kernel_rfl) (by kernel_rfl) (by kernel_rfl) (fun _ _ _ h => h) (Or.inl ⟨by rfl, ?_⟩) (by assumption) ?_
  case refine_2 => intro w hSw; (try dsimp only at hSw); go_simp; try with_reducible rfl
  try simp only [Act.put, List.setIfInBounds_toArray, List.set_cons_zero, List.set_cons_succ]
  refine wpAnyH_take (i := 4) (oi := _) (v := ?_) rfl (by kernel_rfl) (by kernel_rfl) (by kernel_rfl) (fun _ _ _ h => h) (Or.inl ⟨by rfl, ?_⟩) (by assumption) ?_
  case refine_2 => intro w hSw; (try dsimp only at hSw); go_simp; try with_reducible rfl
  try simp only [Act.put, List.setIfInBounds_toArray, List.set_cons_zero, List.set_cons_succ]
  refine wpAnyH_take (i := 5) (oi := _) (v := ?_) rfl (by kernel_rfl) (by kernel_rfl) (by kernel_rfl) (fun _ _ _ h => h) (Or.inl ⟨by rfl, ?_⟩) (by assumption) ?_
  case refine_2 => intro w hSw; (try dsimp only at hSw); go_simp; try with_reducible rfl
  try simp only [Act.put, List.setIfInBounds_toArray, List.set_cons_zero, List.set_cons_succ]
  refine wpAnyH_take (i := 6) (oi := _) (v := ?_) rfl (by kernel_rfl) (by kernel_rfl) (by kernel_rfl) (fun _ _ _ h => h) (Or.inl ⟨by rfl, ?_⟩) (by assumption) ?_
  case refine_2 => intro w hSw; (try dsimp only at hSw); go_simp; try with_reducible rfl
  try simp only [Act.put, List.setIfInBounds_toArray, List.set_cons_zero, List.set_cons_succ]
  refine wpAnyH_take (i := 7) (oi := _) (v := ?_) rfl (by kernel_rfl) (by kernel_rfl) (by kernel_rfl) (fun _ _ _ h => h) (Or.inl ⟨by rfl, ?_⟩) (by assumption) ?_
  case refine_2 => intro w hSw; (try dsimp only at hSw); go_simp; try with_reducible rfl
  try simp only [Act.put, List.setIfInBounds_toArray, List.set_cons_zero, List.set_cons_succ]
  refine wpAnyH_take (i := 8) (oi := _) (v := ?_) rfl (by kernel_rfl) (by kernel_rfl) (by kernel_rfl) (fun _ _ _ h => h) (Or.inl ⟨by rfl, ?_⟩) (by assumption) ?_
  case refine_2 => intro w hSw; (try dsimp only at hSw); go_simp; try with_reducible rfl
  try simp only [Act.put, List.setIfInBounds_toArray, List.set_cons_zero, List.set_cons_succ]
  refine wpAnyH_take (i := 9) (oi := _) (v := ?_) rfl (by kernel_rfl) (by kernel_rfl) (by kernel_rfl) (fun _ _ _ h => h) (Or.inl ⟨by rfl, ?_⟩) (by assumption) ?_
  case refine_2 => intro w hSw; (try dsimp only at hSw); go_simp; try with_reducible rfl
  try simp only [Act.put, List.setIfInBounds_toArray, List.set_cons_zero, List.set_cons_succ]
  refine wpAnyH_ready (rs := [10]) (by kernel_rfl) (by simp) ?_
  refine AllReadyH.cons (o := _) rfl (fun K hK => ?_) AllReadyH.nil
  go_simp
  go_at_call 40
  (with_reducible refine (HN.out _).mono ?_)
  rintro e w2 ⟨rfl, g2⟩
  have GN : W.grownBy w2 none := only_trans (only_drew1 a0) g2
  refine hK.out _ _ (HC.out _ GN) (fun hHeld => ?_)
  clear hK K
  try simp only [Act.put, List.setIfInBounds_toArray, List.set_cons_zero, List.set_cons_succ]
  refine wpAnyH_ready (rs := [11]) (by kernel_rfl) (by simp) ?_
  refine AllReadyH.cons (o := _) rfl (fun K hK => ?_) AllReadyH.nil
  go_simp
  refine hK.out _ _ (HC.out _ GN) (fun hHeld => ?_)
  clear hK K
  try simp only [Act.put, List.setIfInBounds_toArray, List.set_cons_zero, List.set_cons_succ]
  refine wpAnyH_done (by kernel_rfl) ?_ _
  have d1 := (HC.out _ GN).1
  have f1 := HFZ.out _ GN
  refine Ends.last rfl (fun K hK => ?_)
  go_simp
  refine hK.out _ _ ?_
  clear hK K
  go_wp2
  go_ret
  exact HSET.out w2 GN
set_option maxRecDepth 20000 in
set_option maxHeartbeats 3200000 in
theorem sbetween_any (b : Nat) (f : Int) (A : Option Addr) (n c : Nat) (d : Nat → W3) (s : Int × Int) (o : Int) (w : World) (h : TbS w b f A n c d) (hr : rightB f = true) (hg : GoodS f n d) (hn : n ≤ 64) :
    Calls Try.prog 19 #[.pointer (some ⟨b, 0, none⟩), spv s, .int .i64 o] w fun e w' => e = .returned (.int .i64 (smC s f (stL d n o))) ∧ w.grownBy w' none := by
  have hf := (rightB_iff f).1 hr
  obtain ⟨W1, hW, G1, hP3, hP2⟩ := box2 w 23 #[.pointer (some ⟨b, 0, none⟩)] 45 #[.int .i64 s.1, .int .i64 s.2]
  obtain ⟨W2, hW2⟩ : ∃ W2, W2 = W1.alloc (.cells #[.int .i64 0] 3) := ⟨_, rfl⟩
  have g2 : W1.grownBy W2 none := by rw [hW2]; exact only_alloc (only_refl _ _) _
  have hs1 : W1.heap.size = w.heap.size + 2 := by rw [hW]; simp
  have hP1 : Blk W2 (w.heap.size + 2) 3 #[.int .i64 0] := by rw [hW2, ← hs1]; exact Blk.new _ _ _
  have hs2 : W2.heap.size = w.heap.size + 3 := by rw [hW2]; simp; omega
  have hsm := stL_small d n o hg hf.2
  have P3 := Lib.hid (hP3.only g2 (by simp))
  have c3 : W2.cell? ⟨w.heap.size, 0, none⟩ = some (.pointer (some ⟨b, 0, none⟩)) := P3.out.cell 0
  have HTHR := Lib.hid (show Calls Try.prog 35 #[.pointer (some ⟨b, 0, none⟩), .int .i64 o, .func (.func 39) #[] #[.pointer (some ⟨w.heap.size + 2, 0, none⟩), .pointer (some ⟨w.heap.size + 1, 0, none⟩), .pointer (some ⟨w.heap.size, 0, none⟩)]] W2 (EnT (RBt w b (stL d n o) s f (w.heap.size + 2) (w.heap.size + 1) w.heap.size) (fun _ => False) (stL d n o).length) from
    thr_between b f A n c d o (w.heap.size + 2) (w.heap.size + 1) w.heap.size _ _ W2 hg hf.2 (by omega)
      (fun j g W' hR => h.grown hR.1)
      (fun j g W' W'' ⟨a1, a2, a3, a4, a5⟩ q => ⟨only_trans a1 q, a2, a3.only q (by simp), a4.only q (by simp), a5.only q (by simp)⟩)
      (fun j g W' g' ⟨a1, a2, a3, a4, a5⟩ q => ⟨a1, by have := a3.lt; omega, a3, a4, a5⟩)
      (fun j g W' x hs hR hgl => btw_step w b f A n c d (stL d n o) s (w.heap.size + 2) (w.heap.size + 1) w.heap.size h (stL_off_in hg hr) (by omega) (by omega) ⟨by omega, by omega⟩ j g W' x hs hR hgl)
      ⟨only_trans G1 g2, by omega, hP1, hP2.only g2 (by simp), hP3.only g2 (by simp)⟩)
  have HEV := Lib.hid (show ∀ W', EnT (RBt w b (stL d n o) s f (w.heap.size + 2) (w.heap.size + 1) w.heap.size) (fun _ => False) (stL d n o).length (.returned (.tuple #[])) W' → W'.cell? ⟨w.heap.size + 2, 0, none⟩ = some (.int .i64 (smC s f (stL d n o))) ∧ w.grownBy W' none from fun W' ⟨_, k⟩ => by
    rcases k with k | ⟨g, a1, a2, a3, a4, a5⟩
    · cases k
    · rw [List.take_length] at a3
      exact ⟨a3.cell 0, a1⟩)
  clear hP1 hP2 hP3 h hg hr g2 G1 hf hs2 hsm
  generalize smC s f (stL d n o) = r at HEV ⊢
  generalize stL d n o = L at *
  obtain ⟨sa, sb⟩ := s
  go_enter Try.func19, Try.ntmps19
  go_upto_region 1 with (fail)
  rw [← hW]
  clear hW
  go_upto_region 2 with (fail)
  rw [← hW2]
  clear hW2
  go_wp2_with (go_at_call 35; (with_reducible refine HTHR.out.mono ?_); rintro e w6 hh; have he := hh.1; subst he; obtain ⟨d0, dg⟩ := HEV.out w6 hh; have DG := Lib.hid dg; clear hh dg c3)
  go_ret
  exact ⟨rfl, DG.out⟩
end Go.Proofs.Ytecpplaobbkemaa

/- Package slot: the library's sort over no slots. -/
namespace Go.Proofs.Ytecpplaobbkemaa
open Go.RowKit Go.Lib Go.Sort
set_option linter.unusedVariables false

theorem sins_none (F : Value) (W : World) : Calls Try.prog 53 #[.slice none 0 0, .int .i64 0, .int .i64 0, F] W fun e w' => e = .returned (.tuple #[]) ∧ W = w' := by
  go_enter Try.func53, Try.ntmps53
  go_wp2
  go_loopw [8] (fun x wr => x = .int .i64 1 ∧ Hid (W = wr)) (fun x _ => 0)
  case atStart => exact ⟨rfl, Lib.hid rfl⟩
  case round =>
    obtain ⟨rfl, HW⟩ := hrel
    go_wp2
    go_end0
    exact ⟨rfl, HW.out⟩
theorem spdq_none (F : Value) (lim : Int) (W : World) : Calls Try.prog 46 #[.slice none 0 0, .int .i64 0, .int .i64 0, .int .i64 lim, F] W fun e w' => e = .returned (.tuple #[]) ∧ W = w' := by
  have HI := Lib.hid (fun W => sins_none F W)
  go_enter Try.func46, Try.ntmps46
  go_wp2
  go_loopw [1, 2] (fun x y wr => x = .int .i64 0 ∧ y = .int .i64 0 ∧ Hid (W = wr)) (fun x y _ => 0)
  case atStart => exact ⟨rfl, rfl, Lib.hid rfl⟩
  case round =>
    obtain ⟨rfl, rfl, HW⟩ := hrel
    go_wp2_with (go_at_call 53; (with_reducible refine (HI.out _).mono ?_); rintro e w1 ⟨rfl, rfl⟩)
    refine bodyPost_ret (results_none rfl _ _ _) rfl ⟨rfl, HW.out⟩
end Go.Proofs.Ytecpplaobbkemaa

/- Package slot: the slots in order: the library's sort over them, by its contract. -/
namespace Go.Proofs.Ytecpplaobbkemaa
open Go.Shelf Go.RowKit Go.Lib Go.Sort
set_option linter.unusedVariables false
def Try.sortSlots_ren : Go.Shelf.Ren := ⟨fun | 6 => 23 | 15 => 47 | 14 => 46 | 28 => 61 | 29 => 62 | 20 => 53 | 21 => 54 | 22 => 55 | 23 => 56 | 24 => 57 | 25 => 58 | 26 => 59 | 27 => 60 | 46 => 63 | 47 => 64 | 48 => 65 | 49 => 66 | 50 => 67 | 57 => 68 | n => n, fun | 22 => 22 | 24 => 54 | 25 => 57 | 3 => 3 | 39 => 74 | 0 => 0 | 53 => 86 | 55 => 88 | 4 => 4 | 46 => 79 | 45 => 78 | 50 => 83 | 5 => 5 | 9 => 9 | 66 => 89 | 70 => 93 | 76 => 95 | 77 => 59 | n => n, fun | n => n⟩
theorem Try.sortSlots : Go.Proofs.SlLaysF0.n6 Try.prog Try.sortSlots_ren := {
  mixed := by kernel_rfl
  f6 := ⟨Try.f23.name, by decide, Try.func23.trans (congrArg some (by kernel_rfl))⟩
  f14 := ⟨Try.f46.name, by decide, Try.func46.trans (congrArg some (by kernel_rfl))⟩
  f15 := Try.func47.trans (congrArg some (by kernel_rfl))
  f20 := ⟨Try.f53.name, by decide, Try.func53.trans (congrArg some (by kernel_rfl))⟩
  f21 := ⟨Try.f54.name, by decide, Try.func54.trans (congrArg some (by kernel_rfl))⟩
  f22 := ⟨Try.f55.name, by decide, Try.func55.trans (congrArg some (by kernel_rfl))⟩
  f23 := ⟨Try.f56.name, by decide, Try.func56.trans (congrArg some (by kernel_rfl))⟩
  f24 := ⟨Try.f57.name, by decide, Try.func57.trans (congrArg some (by kernel_rfl))⟩
  f25 := ⟨Try.f58.name, by decide, Try.func58.trans (congrArg some (by kernel_rfl))⟩
  f26 := ⟨Try.f59.name, by decide, Try.func59.trans (congrArg some (by kernel_rfl))⟩
  f27 := ⟨Try.f60.name, by decide, Try.func60.trans (congrArg some (by kernel_rfl))⟩
  f28 := Try.func61.trans (congrArg some (by kernel_rfl))
  f29 := Try.func62.trans (congrArg some (by kernel_rfl))
  f46 := ⟨Try.f63.name, by decide, Try.func63.trans (congrArg some (by kernel_rfl))⟩
  f47 := Try.func64.trans (congrArg some (by kernel_rfl))
  f48 := Try.func65.trans (congrArg some (by kernel_rfl))
  f49 := ⟨Try.f66.name, by decide, Try.func66.trans (congrArg some (by kernel_rfl))⟩
  f50 := ⟨Try.f67.name, by decide, Try.func67.trans (congrArg some (by kernel_rfl))⟩
  f57 := ⟨Try.f68.name, by decide, Try.func68.trans (congrArg some (by kernel_rfl))⟩
  t0 := Try.underlying0
  a0 := Try.isAgg0
  z0 := Try.sizeOf0
  v0 := Try.zeroValue0
  t3 := Try.underlying3
  a3 := Try.isAgg3
  z3 := Try.sizeOf3
  v3 := Try.zeroValue3
  t4 := Try.underlying4
  a4 := Try.isAgg4
  z4 := Try.sizeOf4
  v4 := Try.zeroValue4
  t5 := Try.underlying5
  a5 := Try.isAgg5
  z5 := Try.sizeOf5
  v5 := Try.zeroValue5
  t9 := Try.underlying9
  a9 := Try.isAgg9
  z9 := Try.sizeOf9
  v9 := Try.zeroValue9
  t22 := Try.underlying22
  a22 := Try.isAgg22
  z22 := Try.sizeOf22
  v22 := Try.zeroValue22
  t25 := Try.underlying57
  a25 := Try.isAgg57
  z25 := Try.sizeOf57
  v25 := Try.zeroValue57
  t39 := Try.underlying74
  a39 := Try.isAgg74
  z39 := Try.sizeOf74
  v39 := Try.zeroValue74
  t45 := Try.underlying78
  a45 := Try.isAgg78
  z45 := Try.sizeOf78
  v45 := Try.zeroValue78
  t46 := Try.underlying79
  a46 := Try.isAgg79
  z46 := Try.sizeOf79
  v46 := Try.zeroValue79
  t50 := Try.underlying83
  a50 := Try.isAgg83
  z50 := Try.sizeOf83
  v50 := Try.zeroValue83
  t53 := Try.underlying86
  a53 := Try.isAgg86
  z53 := Try.sizeOf86
  v53 := Try.zeroValue86
  t55 := Try.underlying88
  a55 := Try.isAgg88
  z55 := Try.sizeOf88
  v55 := Try.zeroValue88
  t66 := Try.underlying89
  a66 := Try.isAgg89
  z66 := Try.sizeOf89
  v66 := Try.zeroValue89
  t70 := Try.underlying93
  a70 := Try.isAgg93
  z70 := Try.sizeOf93
  v70 := Try.zeroValue93
  t76 := Try.underlying95
  a76 := Try.isAgg95
  z76 := Try.sizeOf95
  v76 := Try.zeroValue95
  t77 := Try.underlying59
  a77 := Try.isAgg59
  z77 := Try.sizeOf59
  v77 := Try.zeroValue59 }

theorem ltS (x y : W3) : ltOf (fun x y : W3 => So.cmpI x.2.1 y.2.1) x y = decide (x.2.1 < y.2.1) := by
  unfold ltOf So.cmpI
  by_cases h1 : x.2.1 < y.2.1
  · simp [h1]
  · by_cases h2 : y.2.1 < x.2.1 <;> simp [h1, h2]
theorem swoS : SWO (ltOf fun x y : W3 => So.cmpI x.2.1 y.2.1) := {
  irrefl := fun x => by rw [ltS]; simp
  trans := fun x y z h1 h2 => by rw [ltS] at *; simp at *; omega
  ntrans := fun x y z h1 h2 => by rw [ltS] at *; simp at *; omega }
theorem scmpLays (blk off size : Nat) (w : World) : CmpLays Try.prog 24 #[] encS 3 (fun x y => So.cmpI x.2.1 y.2.1) blk off size w :=
  fun _ _ _ _ x y => scmp_any x y _
/-- What the sort leaves alone. -/
theorem sortW_only (w : World) (blk off m : Nat) (dk : Array W3) (os : Array Obj) (hb : blk < w.heap.size) : w.grownBy (sortWorldK encS 3 w blk off m dk os) (some blk) := by
  refine ⟨rfl, rfl, rfl, by simp [sortWorldK, putRowK], fun k hk hn => ?_⟩
  unfold sortWorldK putRowK
  rw [heap_grow_old _ _ (by simpa using hk)]
  unfold putRow mapBlock
  rw [Array.getElem?_modify, if_neg (fun e => hn (by rw [e]))]
  rfl
theorem arr_get (d : Nat → W3) (n i : Nat) (hi : i < n) : ((Array.range n).map d)[i]! = d i := by
  simp [hi]
theorem holds_of_row {w : World} {g off n cap : Nat} {d : Nat → W3} (h : RowZ 3 w (.slice (some ⟨g, off, none⟩) n cap) n (sL d n)) : HoldsK encS 3 w g off ((Array.range n).map d) := by
  rcases h with ⟨hl, ⟨e, h0⟩ | ⟨g', off', cap', e, h1, h2, h3, h4, h5⟩⟩
  · cases e
  · injection e with e1 e2 e3
    injection e1 with e1
    injection e1 with e1 e4
    subst e1 e4 e3
    intro j hj
    have hj3 : j < n * 3 := by simpa using hj
    have hi : j / 3 < n := by omega
    refine ⟨?_, (h4 j (by have : n * 3 ≤ cap * 3 := Nat.mul_le_mul_right 3 h1; omega)).2⟩
    rw [get_flatK encS 3 _ j (by simpa using hj3), arr_get d n _ hi]
    have hm : j % 3 < 3 := Nat.mod_lt _ (by omega)
    refine h5 j _ ?_
    have := sL_get (d := d) hi hm
    rw [show j / 3 * 3 + j % 3 = j by omega] at this
    rw [this]
    have : j % 3 = 0 ∨ j % 3 = 1 ∨ j % 3 = 2 := by omega
    rcases this with e | e | e <;> rw [e] <;> rfl
theorem row_of_holds {w : World} {g off n cap m : Nat} {d : Nat → W3} {dk : Array W3} {os : Array Obj} (h : RowZ 3 w (.slice (some ⟨g, off, none⟩) n cap) n (sL d n)) (hs : dk.size = n) : RowZ 3 (sortWorldK encS 3 w g off m dk os) (.slice (some ⟨g, off, none⟩) n cap) n (sL (fun i => dk[i]!) n) := by
  have hH := holds_of_row h
  rcases h with ⟨hl, ⟨e, h0⟩ | ⟨g', off', cap', e, h1, h2, h3, h4, h5⟩⟩
  · cases e
  · injection e with e1 e2 e3
    injection e1 with e1
    injection e1 with e1 e4
    subst e1 e4 e3
    have hg3 : g < (putRowK encS 3 (Sort.ahead w m) g off dk).heap.size := by simpa [putRowK] using h3
    have hP := holdsK_putRowK (enc := encS) (k := 3) (Sort.ahead w m) g off ((Array.range n).map d) dk (holdsK_ahead encS 3 w m g off _ hH) (by simp [hs])
    have hcell : ∀ j, (sortWorldK encS 3 w g off m dk os).cell? ⟨g, off + j, none⟩ = (putRowK encS 3 (Sort.ahead w m) g off dk).cell? ⟨g, off + j, none⟩ := fun j => cell?_grow _ _ ⟨g, off + j, none⟩ hg3
    have hfroz : ∀ j, (sortWorldK encS 3 w g off m dk os).frozen? ⟨g, off + j, none⟩ = w.frozen? ⟨g, off + j, none⟩ := fun j => by
      have := frozen?_grow (putRowK encS 3 (Sort.ahead w m) g off dk) os ⟨g, off + j, none⟩ hg3
      refine this.trans ?_
      simp [putRowK]
    have hfl : (flatK encS 3 dk).size = n * 3 := by simp [hs]
    refine ⟨by rw [sL_len], .inr ⟨g, off, cap, rfl, h1, h2, ?_, fun j hj => ⟨?_, by rw [hfroz]; exact (h4 j hj).2⟩, fun j u hu => ?_⟩⟩
    · have := (sortW_only w g off m dk os h3).size
      omega
    · rw [hcell]
      by_cases hjn : j < n * 3
      · rw [(hP j (by rw [hfl]; exact hjn)).1]
        rfl
      · rw [putRowK, cell?_putRow_other id _ g off _ ⟨g, off + j, none⟩ (.inr (.inr (by rw [hfl]; show off + n * 3 ≤ off + j; omega)))]
        exact (h4 j hj).1
    · have hjn : j < n * 3 := by
        have := (List.getElem?_eq_some_iff.1 hu).1
        rwa [sL_len] at this
      have hi : j / 3 < n := by omega
      have hm : j % 3 < 3 := Nat.mod_lt _ (by omega)
      have := sL_get (d := fun i => dk[i]!) hi hm
      rw [show j / 3 * 3 + j % 3 = j by omega, hu] at this
      rw [hcell, (hP j (by rw [hfl]; exact hjn)).1, get_flatK encS 3 dk j (by rw [hs]; exact hjn)]
      have h9 : j % 3 = 0 ∨ j % 3 = 1 ∨ j % 3 = 2 := by omega
      rcases h9 with e | e | e <;> rw [e] at this ⊢ <;> exact this.symm
/-- Sorted slots. -/
def SoV (w W : World) (b : Nat) (f : Int) (A : Option Addr) (n cap : Nat) (d : Nat → W3) (e : Ending) (w' : World) : Prop :=
  e = .returned (.tuple #[]) ∧ ∃ d', PT w w' b f (.slice A n cap) n (sL d' n) ∧ ((List.range n).map d').Perm ((List.range n).map d) ∧ ∀ i j, i < j → j < n → (d' i).2.1 ≤ (d' j).2.1
theorem ssort_some (w W : World) (b g off : Nat) (f : Int) (n cap : Nat) (d : Nat → W3) (h : PT w W b f (.slice (some ⟨g, off, none⟩) n cap) n (sL d n)) (hn : n ≤ 1000) :
    Calls Try.prog 23 #[.slice (some ⟨g, off, none⟩) n cap, .func (.func 24) #[] #[]] W (SoV w W b f (some ⟨g, off, none⟩) n cap d) := by
  have eg : ∀ args w, (callFunc 24 args).run Try.prog w = .ok (.enter 24 args) w := enters_of Try.func24 (by kernel_rfl) rfl
  have hgl : g < W.heap.size := h.row.lt g rfl
  have hsz : ((Array.range n).map d).size = n := by simp
  have hcon := AnyQ.slices_SortFunc Try.sortSlots 3 Try.isAgg54 Try.sizeOf54 encS (fun _ => rfl) (fun x v hv => by simp [encS] at hv; rcases hv with rfl | rfl | rfl <;> rfl) (fun x y => So.cmpI x.2.1 y.2.1) swoS 24 #[] g off cap ((Array.range n).map d) W eg (scmpLays g off _ W) (holds_of_row h.row) hgl (by rw [hsz]; omega)
  rw [hsz] at hcon
  change Calls Try.prog 23 _ _ _ at hcon
  refine hcon.mono fun e w' ⟨he, dk, m, os, ⟨p1, p2, p3⟩, hs, hw⟩ => ⟨he, fun i => dk[i]!, ?_, ?_, ?_⟩
  · have hds : dk.size = n := by rw [p1, hsz]
    have ho := sortW_only W g off m dk os hgl
    rw [hw]
    have hbg : b < g := h.own g rfl
    exact ⟨h.bt.only ho (fun e => by injection e with e; omega), h.bl.trans (below_of_only ho h.bl.size (fun q hq => by injection hq with hq; have := h.lo; omega)), h.lo, row_of_holds h.row hds, h.own⟩
  · have hds : dk.size = n := by rw [p1, hsz]
    have e1 : (dk.extract 0 n).toList = (List.range n).map fun i => dk[i]! := by
      apply List.ext_getElem
      · simp [hds]
      · intro i h1 h2
        simp at h1 h2
        simp [h2, hds]
    have e2 : (((Array.range n).map d).extract 0 n).toList = (List.range n).map d := by
      apply List.ext_getElem
      · simp
      · intro i h1 h2
        simp at h1 h2
        simp [h2]
    rw [e1, e2] at p3
    exact p3
  · intro i j hij hj
    have := hs i j (Nat.zero_le _) hij hj
    rw [ltS] at this
    simp at this
    exact this
theorem slen_zero (W : World) : Calls Try.prog 47 #[.int .u64 0] W fun e w' => (∃ q : Int, e = .returned (.int .i64 q)) ∧ W = w' := by
  have h := Any.bits_Len (SlLaysF0.n15.bits (P := Try.prog) { Try.sortSlots with }) (0 : Int) W (by omega) (by omega)
  change Calls Try.prog 47 _ _ _ at h
  exact h.mono fun e w' ⟨he, hw⟩ => ⟨⟨_, he⟩, hw.symm⟩
theorem ssort_none (w W : World) (b : Nat) (f : Int) (d : Nat → W3) (h : PT w W b f (.slice none 0 0) 0 (sL d 0)) : Calls Try.prog 23 #[.slice none 0 0, .func (.func 24) #[] #[]] W (SoV w W b f none 0 0 d) := by
  have HL := Lib.hid (fun W => slen_zero W)
  have HQ := Lib.hid (fun lim W => spdq_none (.func (.func 24) #[] #[]) lim W)
  have HF := Lib.hid (show SoV w W b f none 0 0 d (.returned (.tuple #[])) W from ⟨rfl, d, h, List.Perm.refl _, fun i j _ hj => by omega⟩)
  clear h
  go_enter Try.func23, Try.ntmps23
  go_wp2_with (first
    | (go_at_call 47; (with_reducible refine (HL.out _).mono ?_); rintro e w1 ⟨⟨q, rfl⟩, rfl⟩)
    | (go_at_call 46; (with_reducible refine (HQ.out _ _).mono ?_); rintro e w2 ⟨rfl, rfl⟩))
  go_end0
  exact HF.out
end Go.Proofs.Ytecpplaobbkemaa

/- The document's word on slots: which ones make a table, by its contract. -/
namespace Go.Proofs.Ytecpplaobbkemaa
open Go.RowKit Go.Lib Go.Sort
set_option linter.unusedVariables false

theorem newE_stop {f : Int} {d : Nat → W3} {k : Nat} (h : newE f d k ≠ 0) : ∀ n, k ≤ n → newE f d n = newE f d k := by
  intro n
  induction n with
  | zero => intro hk; rw [show k = 0 by omega]
  | succ n ih =>
    intro hk
    by_cases e : k = n + 1
    · rw [e]
    · have := ih (by omega)
      rw [newE, if_neg (by rw [this]; exact h), this]
theorem sBad_iff (f : Int) (x : W3) : sBad f x = true ↔ x.1 < 1 ∨ 8 < x.1 ∨ x.2.1 < 0 ∨ x.2.2 ≤ x.2.1 ∨ f < x.2.2 := by
  unfold sBad inB w3s
  simp
  omega
set_option maxRecDepth 20000 in
set_option maxHeartbeats 3200000 in
theorem rcheck17_any (f : Int) (A : Option Addr) (n cap : Nat) (d : Nat → W3) (w : World) (hst : Row3 w A n d) (hm : n ≤ 10000) :
    Calls Try.prog 9 #[.int .i64 f, .slice A n cap] w fun e w' => e = .returned (.int .i64 (if rightB f then newE f d n else 2)) ∧ w.grownBy w' none := by
  have HR := Lib.hid (fun W => rright_any f W)
  cases hr : rightB f
  case false =>
    rw [hr] at HR
    simp only [Bool.false_eq_true, if_false]
    clear hr
    go_enter Try.func9, Try.ntmps9
    go_wp2_with (go_at_call 26; (with_reducible refine (HR.out _).mono ?_); rintro e w1 ⟨rfl, rfl⟩)
    go_ret
    exact ⟨rfl, only_refl _ _⟩
  rw [hr] at HR
  simp only [if_true]
  have HST := Lib.hid hst
  have HST0 := Lib.hid (fun (k : Nat) (h : newE f d k ≠ 0) (hk : k ≤ n) => newE_stop h n hk)
  clear hst hr
  go_enter Try.func9, Try.ntmps9
  go_wp2_with (go_at_call 26; (with_reducible refine (HR.out _).mono ?_); rintro e w1 ⟨rfl, rfl⟩)
  go_loopw [5] (fun x wr => ∃ (i : Nat), x = .int .i64 i ∧ i ≤ n ∧ Hid (newE f d i = 0) ∧ Hid (w.grownBy wr none)) (fun x _ => n - (intOf x).toNat)
  case atStart => exact ⟨0, rfl, by omega, Lib.hid rfl, Lib.hid (only_refl _ _)⟩
  case round =>
    obtain ⟨i, rfl, hi, HZ, HG⟩ := hrel
    by_cases hin : i < n
    · have i1 : (i : Int) < (n : Int) := by omega
      obtain ⟨b, off, rfl, hb, hc⟩ := (HST.out.grown HG.out).2 (by omega)
      obtain ⟨c0, c1, c2⟩ := hc i hin
      have HNE := Lib.hid (show newE f d (i + 1) = sE f d i (d i) by rw [newE, if_pos HZ.out])
      have HBD := Lib.hid (sBad_iff f (d i))
      have HSE := Lib.hid (show sE f d i (d i) = if sBad f (d i) = true then 2 else if anyB (fun k => meetsB (w3s (d i)) (w3s (d k))) i = true then 11 else 0 from rfl)
      have HC2 := Lib.hid hc
      clear hc
      obtain ⟨x, hx⟩ : ∃ x, x = d i := ⟨_, rfl⟩
      rw [← hx] at c0 c1 c2 HNE HBD HSE
      obtain ⟨x1, x2, x3⟩ := x
      simp only at c0 c1 c2 HBD
      have HX := Lib.hid hx
      clear hx
      have hbad : (sBad f (x1, x2, x3) = true ∧ (x1 < 1 ∨ (¬ x1 < 1 ∧ 8 < x1) ∨ (¬ x1 < 1 ∧ ¬ 8 < x1 ∧ x2 < 0) ∨ (¬ x1 < 1 ∧ ¬ 8 < x1 ∧ ¬ x2 < 0 ∧ x3 ≤ x2) ∨ (¬ x1 < 1 ∧ ¬ 8 < x1 ∧ ¬ x2 < 0 ∧ ¬ x3 ≤ x2 ∧ f < x3))) ∨ (sBad f (x1, x2, x3) = false ∧ ¬ x1 < 1 ∧ ¬ 8 < x1 ∧ ¬ x2 < 0 ∧ ¬ x3 ≤ x2 ∧ ¬ f < x3) := by
        have := HBD.out
        by_cases e : sBad f (x1, x2, x3) = true
        · have h2 : x1 < 1 ∨ 8 < x1 ∨ x2 < 0 ∨ x3 ≤ x2 ∨ f < x3 := this.1 e
          exact .inl ⟨e, by omega⟩
        · have h2 : ¬ (x1 < 1 ∨ 8 < x1 ∨ x2 < 0 ∨ x3 ≤ x2 ∨ f < x3) := fun k => e (this.2 k)
          exact .inr ⟨by simpa using e, by omega⟩
      rcases hbad with ⟨hbt, hbad⟩ | ⟨hbt, g1, g2, g3, g4, g5⟩
      · have HFIN := Lib.hid (show newE f d n = 2 by
          have h1 : newE f d (i + 1) = 2 := by rw [HNE.out, HSE.out, if_pos hbt]
          rw [HST0.out (i + 1) (by rw [h1]; decide) (by omega), h1])
        clear hbt HBD HSE HNE
        rcases hbad with g1 | ⟨g1, g2⟩ | ⟨g1, g2, g3⟩ | ⟨g1, g2, g3, g4⟩ | ⟨g1, g2, g3, g4, g5⟩
        all_goals
          go_wp2
          go_ret
          exact ⟨ret_int HFIN.out.symm, only_trans HG.out (by first | exact only_alloc (only_refl _ _) _ | exact only_alloc (only_drewN (only_refl _ _) 1) _ | exact only_drewN (only_alloc (only_refl _ _) _) 1)⟩
      · have HE2 := Lib.hid (show newE f d (i + 1) = if anyB (fun k => meetsB (x2, x3) (w3s (d k))) i = true then 11 else 0 by rw [HNE.out, HSE.out, if_neg (by rw [hbt]; decide)])
        clear hbt HBD HSE HNE
        obtain ⟨w1, hw1⟩ : ∃ w1, w1 = wr.alloc (.cells #[.int .i64 x1, .int .i64 x2, .int .i64 x3] 54) := ⟨_, rfl⟩
        have hB : Blk w1 wr.heap.size 54 #[.int .i64 x1, .int .i64 x2, .int .i64 x3] := by rw [hw1]; exact Blk.new _ _ _
        have HB := Lib.hid hB
        have G1 := Lib.hid (show w.grownBy w1 none from only_trans HG.out (by rw [hw1]; exact only_alloc (only_refl _ _) _))
        have e0 : w1.cell? ⟨wr.heap.size, 0, none⟩ = some (.int .i64 x1) := hB.cell 0
        have e1 : w1.cell? ⟨wr.heap.size, 1, none⟩ = some (.int .i64 x2) := hB.cell 1
        have e2 : w1.cell? ⟨wr.heap.size, 2, none⟩ = some (.int .i64 x3) := hB.cell 2
        clear hB
        go_upto_region 7 with (fail)
        rw [← hw1]
        clear hw1
        generalize wr.heap.size = gs at HB e0 e1 e2 ⊢
        go_wp2
        go_loopw [7] (fun x wq => ∃ (k : Nat), x = .int .i64 k ∧ k ≤ i ∧ Hid (∀ q, q < k → meetsB (x2, x3) (w3s (d q)) = false) ∧ Hid (w.grownBy wq none ∧ Blk wq gs 54 #[.int .i64 x1, .int .i64 x2, .int .i64 x3])) (fun x _ => i - (intOf x).toNat)
        case atStart => exact ⟨0, rfl, by omega, Lib.hid (fun q hq => by omega), Lib.hid ⟨G1.out, HB.out⟩⟩
        case round =>
          obtain ⟨k, rfl, hk, HN, HQ⟩ := hrel
          by_cases hki : k < i
          · have j1 : (k : Int) < (i : Int) := by omega
            have j2 : (k : Int) < (n : Int) := by omega
            obtain ⟨b', off', hA', hb', hc'⟩ := (HST.out.grown HQ.out.1).2 (by omega)
            injection hA' with hA'
            injection hA' with q1 q2
            subst q1 q2
            obtain ⟨y0, y1, y2⟩ := hc' k (by omega)
            have r1 := fun dd os => cell_regrown y1 dd os
            have r2 := fun dd os => cell_regrown y2 dd os
            have r3 := blk_re HQ.out.2
            have HM := Lib.hid (fun W => meets_any (w3s (d k)) (x2, x3) W)
            have HAT := Lib.hid (show meetsB (w3s (d k)) (x2, x3) = meetsB (x2, x3) (w3s (d k)) from meetsB_comm _ _)
            rw [HAT.out] at HM
            obtain ⟨z, hz⟩ : ∃ z, z = meetsB (x2, x3) (w3s (d k)) := ⟨_, rfl⟩
            rw [← hz] at HM
            have HZ2 := Lib.hid hz
            clear hz hc' y0 HAT
            generalize d k = y at r1 r2 HM
            obtain ⟨ya, yb, yc⟩ := y
            simp only at r1 r2 HM y1 y2
            cases z
            all_goals
              go_upto_region 12 with (fail)
              refine wp_region_quiet_below (by kernel_rfl) (by kernel_rfl) ?_
              repeat (go_big_quiet_step ((first | (go_at_call 27; with_reducible exact rg1 (HM.out _)))))
              refine wpQuiet_nil ?_
              intro w3 hw3
              obtain ⟨p, rfl⟩ := hw3
              have GQ := Lib.hid (only_re wr p.d p.os)
              clear r1 r2 r3 y1 y2
              generalize grow (redrawn wr p.d) p.os = w3 at GQ ⊢
              go_wp2
            · go_roundw
              case rel => exact ⟨k + 1, by go_num, by omega, Lib.hid (fun q hq => by
                  by_cases e : q = k
                  · rw [e]; exact HZ2.out.symm
                  · exact HN.out q (by omega)), Lib.hid ⟨only_trans HQ.out.1 GQ.out, HQ.out.2.only GQ.out (by simp)⟩⟩
              case measure => simp [intOf] <;> omega
            · go_ret
              refine ⟨ret_int ?_, only_trans HQ.out.1 GQ.out⟩
              have h1 : newE f d (i + 1) = 11 := by
                rw [HE2.out, if_pos (anyB_iff.2 ⟨k, hki, HZ2.out.symm⟩)]
              rw [HST0.out (i + 1) (by rw [h1]; decide) (by omega), h1]
          · have j1 : ¬ (k : Int) < (i : Int) := by omega
            go_wp2
            go_roundw
            case rel => exact ⟨i + 1, by go_num, by omega, Lib.hid (by
                rw [HE2.out, if_neg]
                rw [Bool.not_eq_true]
                exact anyB_no.2 (fun q hq => HN.out q (by omega))), Lib.hid HQ.out.1⟩
            case measure => simp [intOf] <;> omega
    · have i1 : ¬ (i : Int) < (n : Int) := by omega
      go_wp2
      go_ret
      refine ⟨ret_int ?_, HG.out⟩
      rw [show n = i by omega, HZ.out]
end Go.Proofs.Ytecpplaobbkemaa

/- Package slot: New, by its contract. -/
namespace Go.Proofs.Ytecpplaobbkemaa
open Go.RowKit Go.Lib Go.Sort
set_option linter.unusedVariables false

/-- append where its run is known, as1 a step of a drawn region. -/
theorem step_app_eq {P : Program} {ops : Array Oper} {o : Oper} {a : Act} {W : World} {K : Act → World → Prop} {Q : Exit → Act → World → Prop} {E : Prop} (hgd : o.guard = none) (s x : Operand) (t : TypeId) (ho : o.op = .call { callee := .builtin .append, args := #[s, x], argTypes := #[t, t] })
    {v xs v' : Value} {w' : World} (hr : (Builtin.append_ #[t, t] o.type #[v, xs]).run P W = .ok v' w') (hs : a.eval s = v) (hx : a.eval x = xs) (h : K (a.put o.dst v') w') : if Region.wanted o (yielded ops a.tmps) = true then Oper.wp P o a W K Q else E := by
  have hw : Region.wanted o (yielded ops a.tmps) = true := by simp [Region.wanted, hgd]
  rw [if_pos hw]
  unfold Oper.wp execOp
  simp only [ho, resolve, invoke, builtin, Sem.run_bind, Sem.run_pure, Result.andThen_ok, List.map_toArray, List.map_cons, List.map_nil, hs, hx, hr]
  exact h
/-- What New answers. -/
def NewV (f : Int) (n : Nat) (d : Nat → W3) (w : World) (e : Ending) (w' : World) : Prop :=
  ((rightB f = true ∧ newE f d n = 0) → ∃ (b : Nat) (A : Option Addr) (c : Nat) (d' : Nat → W3), e = .returned (.tuple #[.pointer (some ⟨b, 0, none⟩), .int .i64 0]) ∧ PT w w' b f (.slice A n c) n (sL d' n) ∧ ((List.range n).map d').Perm ((List.range n).map d) ∧ ∀ i j, i < j → j < n → (d' i).2.1 ≤ (d' j).2.1) ∧
  (¬ (rightB f = true ∧ newE f d n = 0) → e = .returned (.tuple #[.pointer none, .int .i64 (if rightB f then newE f d n else 2)]) ∧ Below w.heap.size w w')
theorem ssort_any (w W : World) (b : Nat) (f : Int) (A : Option Addr) (n cap : Nat) (d : Nat → W3) (h : PT w W b f (.slice A n cap) n (sL d n)) (hn : n ≤ 1000) :
    Calls Try.prog 23 #[.slice A n cap, .func (.func 24) #[] #[]] W (SoV w W b f A n cap d) := by
  rcases h.row.2 with ⟨e, h0⟩ | ⟨g, off, cap', e, _⟩
  · injection e with e1 e2 e3
    subst e1 e2 e3
    exact ssort_none w W b f d h
  · injection e with e1 e2 e3
    subst e1
    exact ssort_some w W b g off f n cap d h hn
set_option maxRecDepth 20000 in
set_option maxHeartbeats 3200000 in
theorem snew_any (f : Int) (A : Option Addr) (n cap : Nat) (d : Nat → W3) (w : World) (hst : Row3 w A n d) (hm : n ≤ 1000) :
    Calls Try.prog 8 #[.int .i64 f, .slice A n cap] w (NewV f n d w) := by
  have HR := Lib.hid (fun W => right_any f W)
  cases hr : rightB f
  case false =>
    rw [hr] at HR
    have HF := Lib.hid (show ∀ w', Below w.heap.size w w' → NewV f n d w (.returned (.tuple #[.pointer none, .int .i64 2])) w' from fun w' b => ⟨fun k => (by rw [hr] at k; cases k.1), fun _ => ⟨(by rw [hr]; rfl), b⟩⟩)
    clear hr
    go_enter Try.func8, Try.ntmps8
    go_wp2_with (go_at_call 21; (with_reducible refine (HR.out _).mono ?_); rintro e w1 ⟨rfl, rfl⟩)
    go_ret2
    exact HF.out _ (Below.refl _ _)
  rw [hr] at HR
  have HBAD := Lib.hid (show ∀ E, E ≠ 0 → newE f d n = E → ∀ w', Below w.heap.size w w' → NewV f n d w (.returned (.tuple #[.pointer none, .int .i64 E])) w' from fun E h0 hE w' b => ⟨fun k => absurd (hE ▸ k.2) h0, fun _ => ⟨(by rw [hr, hE]; rfl), b⟩⟩)
  have HOK := Lib.hid (show newE f d n = 0 → ∀ (b : Nat) (A : Option Addr) (c : Nat) (W w' : World) (e0 : Ending), SoV w W b f A n c d e0 w' → NewV f n d w (.returned (.tuple #[.pointer (some ⟨b, 0, none⟩), .int .i64 0])) w' from fun hE b A c W w' e0 h => by
    obtain ⟨_, d', q1, q2, q3⟩ := h
    exact ⟨fun _ => ⟨b, A, c, d', rfl, q1, q2, q3⟩, fun k => absurd ⟨hr, hE⟩ k⟩)
  have HST := Lib.hid hst
  have HST0 := Lib.hid (fun (k : Nat) (h : newE f d k ≠ 0) (hk : k ≤ n) => newE_stop h n hk)
  obtain ⟨W1, hW⟩ : ∃ W1, W1 = w.alloc (.cells #[.int .i64 f, .slice none 0 0] 52) := ⟨_, rfl⟩
  have HP0 := Lib.hid (show PT w W1 w.heap.size f (.slice none 0 0) 0 (sL d 0) from by
    rw [hW]
    exact ⟨Blk.new _ _ _, (Below.refl _ _).alloc (Nat.le_refl _) _, Nat.le_refl _, RowZ.nil _ _, fun q hq => by simp [Value.ownBlock] at hq⟩)
  clear hst hr
  go_enter Try.func8, Try.ntmps8
  go_upto_region 4 with (go_at_call 21; (with_reducible refine (HR.out _).mono ?_); rintro e w1 ⟨rfl, rfl⟩)
  rw [← hW]
  clear hW
  obtain ⟨b, hb⟩ : ∃ b, b = w.heap.size := ⟨_, rfl⟩
  rw [← hb] at HP0 ⊢
  clear hb
  go_wp2
  go_loopw [18] (fun x wr => ∃ (k : Nat) (vA : Option Addr) (vc : Nat), x = .int .i64 k ∧ k ≤ n ∧ Hid (newE f d k = 0) ∧ Hid (PT w wr b f (.slice vA k vc) k (sL d k))) (fun x _ => n - (intOf x).toNat)
  case atStart => exact ⟨0, none, 0, rfl, by omega, Lib.hid rfl, HP0⟩
  case round =>
    obtain ⟨k, vA, vc, rfl, hk, HZ, HP⟩ := hrel
    by_cases hkn : k < n
    · have i1 : (k : Int) < (n : Int) := by omega
      obtain ⟨ba, off, rfl, hba, hc⟩ := HST.out.2 (by omega)
      obtain ⟨c0, c1, c2⟩ := hc k hkn
      replace c0 := (HP.out.bl.cell (p := ⟨ba, off + k * 3, none⟩) hba).trans c0
      replace c1 := (HP.out.bl.cell (p := ⟨ba, off + k * 3 + 1, none⟩) hba).trans c1
      replace c2 := (HP.out.bl.cell (p := ⟨ba, off + k * 3 + 2, none⟩) hba).trans c2
      have HNE := Lib.hid (show newE f d (k + 1) = sE f d k (d k) by rw [newE, if_pos HZ.out])
      have HSL := Lib.hid (sL_succ d k)
      have HSO := Lib.hid (sL_one d k)
      clear hc hba
      obtain ⟨x, hx⟩ : ∃ x, x = d k := ⟨_, rfl⟩
      rw [← hx] at c0 c1 c2 HNE HSL
      have HX := Lib.hid hx
      clear hx
      obtain ⟨x1, x2, x3⟩ := x
      simp only at c0 c1 c2
      obtain ⟨w1, hw1⟩ : ∃ w1, w1 = wr.alloc (.cells #[.int .i64 x1, .int .i64 x2, .int .i64 x3] 54) := ⟨_, rfl⟩
      have hB : Blk w1 wr.heap.size 54 #[.int .i64 x1, .int .i64 x2, .int .i64 x3] := by rw [hw1]; exact Blk.new _ _ _
      have HP1 := Lib.hid (show PT w w1 b f (.slice vA k vc) k (sL d k) from HP.out.only (by rw [hw1]; exact only_alloc (only_refl _ _) _))
      have HNW := Lib.hid (show ∀ q, (Value.slice vA k vc).ownBlock = some q → q ≠ wr.heap.size from fun q hq => by have := HP.out.row.lt q hq; omega)
      have HBN := Lib.hid (show b ≠ wr.heap.size from by have := HP.out.bt.lt; omega)
      have HB := Lib.hid hB
      have HCK := Lib.hid (scheck_any b f vA k vc d (x1, x2, x3) w1 HP1.out.bt HP1.out.row3 (by omega))
      have e0 : w1.cell? ⟨wr.heap.size, 0, none⟩ = some (.int .i64 x1) := hB.cell 0
      have e1 : w1.cell? ⟨wr.heap.size, 1, none⟩ = some (.int .i64 x2) := hB.cell 1
      have e2 : w1.cell? ⟨wr.heap.size, 2, none⟩ = some (.int .i64 x3) := hB.cell 2
      clear hB
      go_upto_region 7 with (fail)
      rw [← hw1]
      clear hw1 c0 c1 c2
      generalize wr.heap.size = gs at HB HNW HBN e0 e1 e2 ⊢
      generalize sE f d k (x1, x2, x3) = E at HCK HNE
      by_cases hE : E = 0
      · subst hE
        go_upto_region 10 with (go_at_call 22; (with_reducible refine HCK.out.mono ?_); rintro e w2 ⟨rfl, g2⟩; have HP2 := Lib.hid (HP1.out.only g2); have HB2 := Lib.hid (HB.out.only g2 (by simp)); clear g2)
        obtain ⟨v', w', hk2, hr, hsx, hgx, hfz, A', c', rfl⟩ := HP2.out.push (ys := encS (x1, x2, x3)) (sL_one d k) (by intro u hu; simp [encS] at hu; rcases hu with rfl | rfl | rfl <;> rfl) rfl (by omega)
        have HK := Lib.hid hk2
        have SX := Lib.hid (show ∀ W, W = w2.drew ∨ W = (w2.alloc (.cells #[.int .i64 x1, .int .i64 x2, .int .i64 x3] 54)).drew ∨ W = w' → W.cell? ⟨b, 1, none⟩ = some (.slice vA k vc) ∧ W.cell? ⟨gs, 0, none⟩ = some (.int .i64 x1) ∧ W.cell? ⟨gs, 1, none⟩ = some (.int .i64 x2) ∧ W.cell? ⟨gs, 2, none⟩ = some (.int .i64 x3) from fun W hW => by
          have q := hgx W hW gs HB2.out.lt (fun e => HNW.out gs e rfl)
          exact ⟨hsx W hW, (q 0).trans (HB2.out.cell 0), (q 1).trans (HB2.out.cell 1), (q 2).trans (HB2.out.cell 2)⟩)
        have REL : Hid (PT w (w'.setCell ⟨b, 1, none⟩ (.slice A' (k + 1) c')) b f (.slice A' (k + 1) c') (k + 1) (sL d (k + 1))) := Lib.hid (by
          rw [HSL.out]
          exact hr)
        have y1 : w'.cell? ⟨b, 1, none⟩ = some (.slice vA k vc) := (SX.out w' (.inr (.inr rfl))).1
        replace HK := Lib.hid (show (Builtin.append_ #[22, 22] 22 #[.slice vA k vc, .slice (some ⟨w2.heap.size, 0, none⟩) 1 1]).run Try.prog (w2.alloc (.cells #[.int .i64 x1, .int .i64 x2, .int .i64 x3] 54)).drew = .ok (.slice A' (k + 1) c') w' from hk2)
        clear hk2 hr hsx hgx e0 e1 e2
        refine wp_region_ends2 10 (fun w' => w'.cell? ⟨b, 1, none⟩ = some (.slice vA k vc) ∧ w'.cell? ⟨gs, 0, none⟩ = some (.int .i64 x1) ∧ w'.cell? ⟨gs, 1, none⟩ = some (.int .i64 x2) ∧ w'.cell? ⟨gs, 2, none⟩ = some (.int .i64 x3)) (by kernel_rfl) (by kernel_rfl) (SX.out _ (.inl rfl)) (fun hHeld => ?_)
        simp only [List.take_succ_cons, List.take_zero]
        refine wpAnyH_take (i := 0) (oi := _) (v := ?_) rfl (by kernel_rfl) (by kernel_rfl) (by kernel_rfl) (fun _ _ _ h => h) (Or.inl ⟨by rfl, ?_⟩) (by assumption) ?_
        case refine_2 => intro w hSw; (try dsimp only at hSw); go_simp; try with_reducible rfl
        try simp only [Act.put, List.setIfInBounds_toArray, List.set_cons_zero, List.set_cons_succ]
        refine wpAnyH_take (i := 1) (oi := _) (v := ?_) rfl (by kernel_rfl) (by kernel_rfl) (by kernel_rfl) (fun _ _ _ h => h) (Or.inl ⟨by rfl, ?_⟩) (by assumption) ?_
        case refine_2 => intro w hSw; (try dsimp only at hSw); go_simp; try with_reducible rfl
        try simp only [Act.put, List.setIfInBounds_toArray, List.set_cons_zero, List.set_cons_succ]
        refine wpAnyH_take (i := 2) (oi := _) (v := ?_) rfl (by kernel_rfl) (by kernel_rfl) (by kernel_rfl) (fun _ _ _ h => h) (Or.inl ⟨by rfl, ?_⟩) (by assumption) ?_
        case refine_2 => intro w hSw; (try dsimp only at hSw); go_simp; try with_reducible rfl
        try simp only [Act.put, List.setIfInBounds_toArray, List.set_cons_zero, List.set_cons_succ]
        refine wpAnyH_take (i := 3) (oi := _) (v := ?_) rfl (by kernel_rfl) (by kernel_rfl) (by kernel_rfl) (fun _ _ _ h => h) (Or.inl ⟨by rfl, ?_⟩) (by assumption) ?_
        case refine_2 => intro w hSw; (try dsimp only at hSw); go_simp; try with_reducible rfl
        try simp only [Act.put, List.setIfInBounds_toArray, List.set_cons_zero, List.set_cons_succ]
        refine wpAnyH_take (i := 4) (oi := _) (v := ?_) rfl (by kernel_rfl) (by kernel_rfl) (by kernel_rfl) (fun _ _ _ h => h) (Or.inl ⟨by rfl, ?_⟩) (by assumption) ?_
        case refine_2 => intro w hSw; (try dsimp only at hSw); go_simp; try with_reducible rfl
        try simp only [Act.put, List.setIfInBounds_toArray, List.set_cons_zero, List.set_cons_succ]
        refine wpAnyH_take (i := 5) (oi := _) (v := ?_) rfl (by kernel_rfl) (by kernel_rfl) (by kernel_rfl) (fun _ _ _ h => h) (Or.inl ⟨by rfl, ?_⟩) (by assumption) ?_
        case refine_2 => intro w hSw; (try dsimp only at hSw); go_simp; try with_reducible rfl
        try simp only [Act.put, List.setIfInBounds_toArray, List.set_cons_zero, List.set_cons_succ]
        refine wpAnyH_ready (rs := [6]) (by kernel_rfl) (by simp) ?_
        refine AllReadyH.cons (o := _) rfl (fun K hK => ?_) AllReadyH.nil
        go_simp
        refine hK.out _ _ (SX.out _ (.inr (.inl rfl))) (fun hHeld => ?_)
        clear hK K
        try simp only [Act.put, List.setIfInBounds_toArray, List.set_cons_zero, List.set_cons_succ]
        refine wpAnyH_ready (rs := [7]) (by kernel_rfl) (by simp) ?_
        refine AllReadyH.cons (o := _) rfl (fun K hK => ?_) AllReadyH.nil
        refine step_app_eq rfl (.tmp 32) (.tmp 34) 22 rfl HK.out rfl rfl ?_
        refine hK.out _ _ (SX.out _ (.inr (.inr rfl))) (fun hHeld => ?_)
        clear hK K
        try simp only [Act.put, List.setIfInBounds_toArray, List.set_cons_zero, List.set_cons_succ]
        refine wpAnyH_ready (rs := [8]) (by kernel_rfl) (by simp) ?_
        refine AllReadyH.cons (o := _) rfl (fun K hK => ?_) AllReadyH.nil
        go_simp
        refine hK.out _ _ (SX.out _ (.inr (.inr rfl))) (fun hHeld => ?_)
        clear hK K
        try simp only [Act.put, List.setIfInBounds_toArray, List.set_cons_zero, List.set_cons_succ]
        refine wpAnyH_ready (rs := [9]) (by kernel_rfl) (by simp) ?_
        refine AllReadyH.cons (o := _) rfl (fun K hK => ?_) AllReadyH.nil
        go_simp
        refine hK.out _ _ (SX.out _ (.inr (.inr rfl))) (fun hHeld => ?_)
        clear hK K
        try simp only [Act.put, List.setIfInBounds_toArray, List.set_cons_zero, List.set_cons_succ]
        refine wpAnyH_done (by kernel_rfl) ?_ _
        refine Ends.last rfl (fun K hK => ?_)
        go_simp
        refine hK.out _ _ ?_
        clear hK K
        go_wp2
        go_roundw
        case rel => exact ⟨k + 1, A', c', by go_num, by omega, Lib.hid HNE.out, REL⟩
        case measure => simp [intOf] <;> omega
      · have hne : (E == 0) = false := by simpa using hE
        have hne2 : (E != 0) = true := by simpa using hE
        have HFIN := Lib.hid (show newE f d n = E from by rw [HST0.out (k + 1) (by rw [HNE.out]; exact hE) (by omega), HNE.out])
        have HEN := Lib.hid hE
        clear hE
        go_wp2_with (go_at_call 22; (with_reducible refine HCK.out.mono ?_); rintro e w2 ⟨rfl, g2⟩; have HP2 := Lib.hid (HP1.out.only g2); clear g2)
        go_ret2
        exact HBAD.out _ HEN.out HFIN.out _ HP2.out.bl
    · have i1 : ¬ (k : Int) < (n : Int) := by omega
      obtain rfl : k = n := by omega
      have HSO := Lib.hid (ssort_any w wr b f vA k vc d HP.out hm)
      have z1 : wr.cell? ⟨b, 1, none⟩ = some (.slice vA k vc) := HP.out.bt.cell 1
      go_wp2_with (go_at_call 23; (with_reducible refine HSO.out.mono ?_); rintro e w3 hso; have HSV := Lib.hid hso; obtain ⟨rfl, _⟩ := hso)
      go_ret2
      exact HOK.out HZ.out _ _ _ _ _ _ HSV.out
end Go.Proofs.Ytecpplaobbkemaa

/- Package slot: what a nil table answers; what must be whatever is asked. -/
namespace Go.Proofs.Ytecpplaobbkemaa
open Go.RowKit Go.Lib Go.Sort
set_option linter.unusedVariables false

theorem eq_step (a0 a1 a2 : Int) (w : World) : (binOp BinOp.eql 33 (.agg #[.int .i64 a0, .int .i64 a1, .int .i64 a2]) (.agg #[.int .i64 a0, .int .i64 a1, .int .i64 a2])).run Try.prog w = .ok (.bool true) w := by
  rw [run_eql_struct, run_equalIn_agg w 9999 _ _ _ (by kernel_rfl) (by kernel_rfl)]
  have hf : (Try.prog.fieldsOf 33).toList.map (fun f => (f.name, f.type, f.offset)) = [("Owner", 3, 0), ("Unit", 3, 1), ("Phase", 3, 2)] := by kernel_rfl
  generalize (Try.prog.fieldsOf 33).toList = fs at hf
  have hlen := congrArg List.length hf
  simp only [List.length_map, List.length_cons, List.length_nil] at hlen
  obtain ⟨f0, f1, f2, rfl⟩ : ∃ f0 f1 f2, fs = [f0, f1, f2] := by
    match fs, hlen with
    | [f0, f1, f2], _ => exact ⟨f0, f1, f2, rfl⟩
  simp only [List.map_cons, List.map_nil, List.cons.injEq, Prod.mk.injEq, and_true] at hf
  obtain ⟨⟨p0, q0, r0⟩, ⟨p1, q1, r1⟩, ⟨p2, q2, r2⟩⟩ := hf
  simp [Op.eqFields, p0, q0, r0, p1, q1, r1, p2, q2, r2, part, run_equalIn_int _ _ _ _ _ _ _ Try.underlying3, go_sem]
theorem neq_step (a0 a1 a2 : Int) (w : World) : (binOp BinOp.neq 33 (.agg #[.int .i64 a0, .int .i64 a1, .int .i64 a2]) (.agg #[.int .i64 a0, .int .i64 a1, .int .i64 a2])).run Try.prog w = .ok (.bool false) w := by
  rw [run_neq_struct, run_equalIn_agg w 9999 _ _ _ (by kernel_rfl) (by kernel_rfl)]
  have hf : (Try.prog.fieldsOf 33).toList.map (fun f => (f.name, f.type, f.offset)) = [("Owner", 3, 0), ("Unit", 3, 1), ("Phase", 3, 2)] := by kernel_rfl
  generalize (Try.prog.fieldsOf 33).toList = fs at hf
  have hlen := congrArg List.length hf
  simp only [List.length_map, List.length_cons, List.length_nil] at hlen
  obtain ⟨f0, f1, f2, rfl⟩ : ∃ f0 f1 f2, fs = [f0, f1, f2] := by
    match fs, hlen with
    | [f0, f1, f2], _ => exact ⟨f0, f1, f2, rfl⟩
  simp only [List.map_cons, List.map_nil, List.cons.injEq, Prod.mk.injEq, and_true] at hf
  obtain ⟨⟨p0, q0, r0⟩, ⟨p1, q1, r1⟩, ⟨p2, q2, r2⟩⟩ := hf
  simp [Op.eqFields, p0, q0, r0, p1, q1, r1, p2, q2, r2, part, run_equalIn_int _ _ _ _ _ _ _ Try.underlying3, go_sem]

theorem thr_nil (o : Int) (F : Value) (w : World) : Calls Try.prog 35 #[.pointer none, .int .i64 o, F] w fun e w' => e = .returned (.tuple #[]) ∧ w = w' := by
  go_enter Try.func35, Try.ntmps35
  go_wp2
  go_step3
  go_wp2
  try simp only [Exit.noGoto_ret]
  first | go_end0 | refine bodyPost_ret (results_none rfl _ _ _) rfl ?_
  exact ⟨rfl, rfl⟩
theorem starts_nil (o : Int) (w : World) : Calls Try.prog 14 #[.pointer none, .int .i64 o] w fun e w' => e = .returned (.slice none 0 0) ∧ w.grownBy w' none := by
  have HN := Lib.hid (fun F W => thr_nil o F W)
  go_enter Try.func14, Try.ntmps14
  go_wp2_with (go_at_call 35; (with_reducible refine (HN.out _ _).mono ?_); rintro e w2 ⟨rfl, rfl⟩)
  go_ret
  exact ⟨rfl, only_alloc (only_refl _ _) _⟩
theorem units_nil (o : Int) (w : World) : Calls Try.prog 16 #[.pointer none, .int .i64 o] w fun e w' => e = .returned (.int .i64 0) ∧ w.grownBy w' none := by
  have HN := Lib.hid (fun W => starts_nil o W)
  go_enter Try.func16, Try.ntmps16
  go_wp2_with (go_at_call 14; (with_reducible refine (HN.out _).mono ?_); rintro e w2 ⟨rfl, g2⟩; have G2 := Lib.hid g2; clear g2)
  go_ret
  exact ⟨rfl, G2.out⟩
theorem next_nil (t o : Int) (w : World) : Calls Try.prog 17 #[.pointer none, .int .i64 t, .int .i64 o] w fun e w' => e = .returned (.int .i64 (-1)) ∧ w.grownBy w' none := by
  go_enter Try.func17, Try.ntmps17
  go_wp2
  go_ret
  exact ⟨rfl, only_alloc (only_alloc (only_alloc (only_refl _ _) _) _) _⟩
theorem between_nil (s : Int × Int) (o : Int) (w : World) : Calls Try.prog 19 #[.pointer none, spv s, .int .i64 o] w fun e w' => e = .returned (.int .i64 0) ∧ w.grownBy w' none := by
  have HN := Lib.hid (fun F W => thr_nil o F W)
  obtain ⟨a, b⟩ := s
  go_enter Try.func19, Try.ntmps19
  go_wp2_with (go_at_call 35; (with_reducible refine (HN.out _ _).mono ?_); rintro e w2 ⟨rfl, rfl⟩)
  go_ret
  exact ⟨rfl, only_alloc (only_alloc (only_alloc (only_refl _ _) _) _) _⟩
/-- The example's slot. -/
def d17 : Nat → W3 := fun _ => (1, 4, 14)
theorem new17 (A : Option Addr) (c : Nat) (w : World) (h : Row3 w A 1 d17) : Calls Try.prog 8 #[.int .i64 20, .slice A 1 c] w fun e w' => ∃ b, e = .returned (.tuple #[.pointer (some ⟨b, 0, none⟩), .int .i64 0]) ∧ (∃ A' c' d', TbS w' b 20 A' 1 c' d' ∧ GoodS 20 1 d' ∧ d' 0 = (1, 4, 14)) ∧ Below w.heap.size w w' := by
  refine (snew_any 20 A 1 c d17 w h (by omega)).mono fun e w' hv => ?_
  obtain ⟨b, A', c', d', he, hp, hpm, _⟩ := hv.1 ⟨by decide, by decide +kernel⟩
  obtain ⟨k, hk, e0⟩ := perm_at hpm (show 0 < 1 by omega)
  exact ⟨b, he, ⟨A', c', d', hp.tbs, good_perm (good_of (by decide +kernel)) hpm, e0.symm⟩, hp.bl⟩
theorem st17 {d' : Nat → W3} (h : d' 0 = (1, 4, 14)) (o : Int) : stL d' 1 o = if (1 : Int) = o then [4, 8] else [] := by
  unfold stL
  simp [h]
  split
  · rfl
  · rfl
theorem step17 {d' : Nat → W3} (h : d' 0 = (1, 4, 14)) (t : Int) : stepV 20 1 d' t = stepV 20 1 d17 t := by
  have hh : ∀ x i, i < 1 → hasS d' x i = hasS d17 x i := fun x i hi => by
    have : i = 0 := by omega
    subst this
    unfold hasS
    rw [h]
    rfl
  by_cases ht : t < 0
  · rw [stepV_neg ht, stepV_neg ht]
  · by_cases hq : hasS d17 (t % 20) 0 = true
    · rw [stepV_at (by omega) (show 0 < 1 by omega) (by rw [hh _ _ (by omega)]; exact hq) (fun j hj => by omega), stepV_at (by omega) (show 0 < 1 by omega) hq (fun j hj => by omega), h]
      rfl
    · have hq' : ∀ i, i < 1 → hasS d17 (t % 20) i = false := fun i hi => by
        have : i = 0 := by omega
        subst this
        simpa using hq
      rw [stepV_none (by omega) (fun i hi => by rw [hh _ _ hi]; exact hq' i hi), stepV_none (by omega) hq']
theorem ex17 {w : World} {b : Nat} {A : Option Addr} {c : Nat} {d : Nat → W3} (h : TbS w b 20 A 1 c d) (g : GoodS 20 1 d) (hd : d 0 = (1, 4, 14)) :
    (∀ W, w.grownBy W none → Calls Try.prog 12 #[.pointer (some ⟨b, 0, none⟩), .int .i64 29] W fun e w' => e = .returned (.agg #[.int .i64 1, .int .i64 1, .int .i64 1]) ∧ W.grownBy w' none) ∧
    (∀ W, w.grownBy W none → Calls Try.prog 12 #[.pointer (some ⟨b, 0, none⟩), .int .i64 12] W fun e w' => e = .returned (.agg #[.int .i64 1, .int .i64 (-1), .int .i64 0]) ∧ W.grownBy w' none) ∧
    (∀ W, w.grownBy W none → Calls Try.prog 16 #[.pointer (some ⟨b, 0, none⟩), .int .i64 1] W fun e w' => e = .returned (.int .i64 2) ∧ W.grownBy w' none) ∧
    (∀ W, w.grownBy W none → Calls Try.prog 17 #[.pointer (some ⟨b, 0, none⟩), .int .i64 9, .int .i64 1] W fun e w' => e = .returned (.int .i64 24) ∧ W.grownBy w' none) := by
  refine ⟨fun W q => ?_, fun W q => ?_, fun W q => ?_, fun W q => ?_⟩
  · have := stat_any b 20 A 1 c d 29 W (h.grown q) (by decide) g (by omega) (by omega)
    rw [step17 hd, show stepV 20 1 d17 29 = (1, 1, 1) from by decide +kernel] at this
    exact this
  · have := stat_any b 20 A 1 c d 12 W (h.grown q) (by decide) g (by omega) (by omega)
    rw [step17 hd, show stepV 20 1 d17 12 = (1, -1, 0) from by decide +kernel] at this
    exact this
  · have := units_any b 20 A 1 c d 1 W (h.grown q) g (by omega) (by omega)
    rw [st17 hd, if_pos rfl] at this
    exact this
  · refine (snext_any b 20 A 1 c d 9 1 W (h.grown q) (by decide) g (by omega) (by unfold fitI; omega)).mono fun e w' ⟨r, he, _, hx, hgw⟩ => ⟨?_, hgw⟩
    rw [st17 hd, if_pos rfl] at hx
    have n1 : nextV 9 4 20 = 24 := by decide +kernel
    rcases hx (by omega) (by omega) with ⟨k, _⟩ | ⟨j, s, hj, hr, k⟩
    · cases k
    · have hj2 : j = 0 ∨ j = 1 := by
        have := (List.getElem?_eq_some_iff.1 hj).1
        simp at this
        omega
      rcases hj2 with rfl | rfl
      · simp at hj
        rw [he, hr, ← hj, n1]
      · simp at hj
        rcases k with ⟨k, _⟩ | ⟨k, _⟩
        · exfalso
          rw [← hj] at k
          revert k
          decide
        · cases k
set_option maxRecDepth 20000 in
set_option maxHeartbeats 1600000 in
attribute [-go_sem] Go.run_eql_struct in
theorem live17_any (w : World) : Calls Try.prog 10 #[] w fun e w' => e = .returned (.bool true) ∧ Below w.heap.size w w' := by
  have hB : Blk (w.alloc (.cells #[.int .i64 1, .int .i64 4, .int .i64 14] 54)) w.heap.size 54 #[.int .i64 1, .int .i64 4, .int .i64 14] := Blk.new _ _ _
  have hst : Row3 (w.alloc (.cells #[.int .i64 1, .int .i64 4, .int .i64 14] 54)) (some ⟨w.heap.size, 0, none⟩) 1 d17 := ⟨fun e => (by cases e), fun _ => ⟨w.heap.size, 0, rfl, hB.lt, fun i hi => by
    have : i = 0 := by omega
    subst this
    exact ⟨hB.cell 0, hB.cell 1, hB.cell 2⟩⟩⟩
  have B1 := Lib.hid (show Below w.heap.size w (w.alloc (.cells #[.int .i64 1, .int .i64 4, .int .i64 14] 54)) from (Below.refl _ _).alloc (Nat.le_refl _) _)
  have HN := Lib.hid (new17 (some ⟨w.heap.size, 0, none⟩) 1 _ hst)
  have hq1 := eq_step 1 1 1
  have hq2 := eq_step 1 (-1) 0
  clear hst hB
  go_enter Try.func10, Try.ntmps10
  go_wp2_with (first
    | (go_at_call 8; (with_reducible refine HN.out.mono ?_); rintro e w2 ⟨b, rfl, ⟨A', c', d', hT, hg, hd⟩, b2⟩; obtain ⟨x1, x2, x3, x4⟩ := ex17 hT hg hd; have X1 := Lib.hid x1; have X2 := Lib.hid x2; have X3 := Lib.hid x3; have X4 := Lib.hid x4; have B2 := Lib.hid (B1.out.trans (b2.mono B1.out.size)); have G2 := Lib.hid (only_refl w2 none); clear hT hg hd b2 x1 x2 x3 x4)
    | (go_at_call 12; (with_reducible refine (X1.out _ G2.out).mono ?_); rintro e w3 ⟨rfl, g3⟩; have G3 := Lib.hid (only_trans G2.out g3); clear g3)
    | (go_at_call 12; (with_reducible refine (X2.out _ G3.out).mono ?_); rintro e w4 ⟨rfl, g4⟩; have G4 := Lib.hid (only_trans G3.out g4); clear g4)
    | (go_at_call 16; (with_reducible refine (X3.out _ G4.out).mono ?_); rintro e w5 ⟨rfl, g5⟩; have G5 := Lib.hid (only_trans G4.out g5); clear g5)
    | (go_at_call 17; (with_reducible refine (X4.out _ G5.out).mono ?_); rintro e w6 ⟨rfl, g6⟩; have G6 := Lib.hid (only_trans G5.out g6); clear g6))
  go_ret
  exact ⟨rfl, B2.out.trans (below_of_only G6.out B2.out.size (by simp))⟩
set_option maxRecDepth 20000 in
set_option maxHeartbeats 1600000 in
attribute [-go_sem] Go.run_eql_struct in
theorem slotnil_walk (t o : Int) (w : World) (h1 : fitI t) (h2 : fitI o) : Calls Try.prog 7 #[.int .i64 t, .int .i64 o] w fun e w' => e = .returned (.bool true) ∧ Below w.heap.size w w' := by
  have HL := Lib.hid (fun W => live17_any W)
  have X1 := Lib.hid (fun W => (show Calls Try.prog 12 #[.pointer none, .int .i64 t] W (fun e w' => e = .returned (.agg #[.int .i64 0, .int .i64 (-1), .int .i64 0]) ∧ W.grownBy w' none) from sat_nil t W))
  have X2 := Lib.hid (fun W => starts_nil o W)
  have X3 := Lib.hid (fun W => units_nil o W)
  have X4 := Lib.hid (fun W => next_nil t o W)
  have X5 := Lib.hid (fun W => (show Calls Try.prog 19 #[.pointer none, .agg #[.int .i64 0, .int .i64 9], .int .i64 o] W (fun e w' => e = .returned (.int .i64 0) ∧ W.grownBy w' none) from between_nil (0, 9) o W))
  have hq2 := eq_step 0 (-1) 0
  go_enter Try.func7, Try.ntmps7
  go_wp2_with (first
    | (go_at_call 10; (with_reducible refine (HL.out _).mono ?_); rintro e w2 ⟨rfl, b2⟩; have B2 := Lib.hid b2; clear b2)
    | (go_at_call 12; (with_reducible refine (X1.out _).mono ?_); rintro e w3 ⟨rfl, g3⟩; have G3 := Lib.hid g3; clear g3)
    | (go_at_call 14; (with_reducible refine (X2.out _).mono ?_); rintro e w4 ⟨rfl, g4⟩; have G4 := Lib.hid (only_trans G3.out g4); clear g4)
    | (go_at_call 16; (with_reducible refine (X3.out _).mono ?_); rintro e w5 ⟨rfl, g5⟩; have G5 := Lib.hid (only_trans G4.out g5); clear g5)
    | (go_at_call 17; (with_reducible refine (X4.out _).mono ?_); rintro e w6 ⟨rfl, g6⟩; have G6 := Lib.hid (only_trans G5.out g6); clear g6)
    | (go_at_call 19; (with_reducible refine (X5.out _).mono ?_); rintro e w7 ⟨rfl, g7⟩; have G7 := Lib.hid (only_trans G6.out g7); clear g7))
  go_ret
  exact ⟨rfl, B2.out.trans (below_of_only G7.out B2.out.size (by simp))⟩
end Go.Proofs.Ytecpplaobbkemaa
