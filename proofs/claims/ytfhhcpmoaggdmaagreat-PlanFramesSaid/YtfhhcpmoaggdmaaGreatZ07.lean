import Derived.Test.YtfhhcpmoaggdmaaGreatZ05
import Derived.Test.YtfhhcpmoaggdmaaGreatZ06
import Derived.Test.YtfhhcpmoaggdmaaGreatZ03
set_option linter.all false
/- Package plan: the window of which a function says that it is it; offsets; the questions, by their contracts. -/
namespace Go.Proofs.YtfhhcpmoaggdmaaGreat
open Go.RowKit Go.Lib Go.Sort
set_option linter.unusedVariables false

/-- The first window of which it is so, or a zero one. -/
def fdW (p : W3 → Bool) (n : Nat) (d : Nat → W3) : W3 := if fstI (fun i => p (d i)) n < 0 then (0, 0, 0) else d (fstI (fun i => p (d i)) n).toNat
theorem box3c {W : World} {g : Nat} {t : TypeId} {a b c : Value} (h : Blk W g t #[a, b, c]) : W.cell? ⟨g, 0, none⟩ = some a ∧ W.cell? ⟨g, 1, none⟩ = some b ∧ W.cell? ⟨g, 2, none⟩ = some c ∧ W.frozen? ⟨g, 0, none⟩ = false ∧ W.frozen? ⟨g, 1, none⟩ = false ∧ W.frozen? ⟨g, 2, none⟩ = false := ⟨h.cell 0, h.cell 1, h.cell 2, h.free 0, h.free 1, h.free 2⟩
def qWindow (o : Int) (x : W3) : Bool := x.1 == o
def qOpens (o : Int) (x : W3) : Bool := x.2.1 == o
def qRuns (o : Int) (x : W3) : Bool := holdsB (w3s x) o
set_option maxRecDepth 20000 in
set_option maxHeartbeats 1600000 in
theorem pfindWindow_any (b : Nat) (P : Pln) (o : Int) (g : Nat) (w : World) (h : PlnV w b P) (hg : w.cell? ⟨g, 0, none⟩ = some (.int .i64 o)) :
    Calls Tryz.prog 37 #[.pointer (some ⟨b, 0, none⟩), .func (.func 38) #[] #[.pointer (some ⟨g, 0, none⟩)]] w fun e w' => e = .returned (w3v (fdW (qWindow o) P.wn P.wd)) ∧ w.grownBy w' none := by
  have hgl : g < w.heap.size := World.block_lt_of_cell? w _ hg
  obtain ⟨W1, hW, g1, hR⟩ := box1 w 78 #[.int .i64 0, .int .i64 0, .int .i64 0]
  have hne : ¬ b = w.heap.size := by have := h.blk.lt; omega
  have HP := Lib.hid (h.grown g1)
  have HG := Lib.hid g1
  have HR := Lib.hid hR
  have hw := h.wle
  have HW0 := Lib.hid h.wins.2
  have hg1 : W1.cell? ⟨g, 0, none⟩ = some (.int .i64 o) := by rw [cell_heap (g1.block g hgl (by simp)) 0]; exact hg
  have HIX := Lib.hid (show Calls Tryz.prog 59 #[.slice P.wA P.wn P.wc, .func (.func 38) #[] #[.pointer (some ⟨g, 0, none⟩)]] W1 (fun e w' => e = .returned (.int .i64 (fstI (fun i => qWindow o (P.wd i)) P.wn)) ∧ W1.grownBy w' none) from
    pidxWindow_any g (fun i => qWindow o (P.wd i)) P.wA P.wn P.wc P.wd W1 HP.out.wins (by omega) (fun i hi W' hw' => pwindow1_any (P.wd i) o g W' (by
      rw [cell_heap (hw'.block g (World.block_lt_of_cell? W1 _ hg1) (by simp)) 0]
      exact hg1)))
  have HC := Lib.hid (fun (W : World) (q : W1.grownBy W none) => (HP.out.grown q).cells)
  have HFI := Lib.hid (fstI_cases (fun i => qWindow o (P.wd i)) P.wn)
  have HWI := Lib.hid (fun (W : World) (q : W1.grownBy W none) => HP.out.wins.grown q)
  have HD := Lib.hid (show ∀ k, fstI (fun i => qWindow o (P.wd i)) P.wn = k → fdW (qWindow o) P.wn P.wd = if k < 0 then (0, 0, 0) else P.wd k.toNat from fun k e => by unfold fdW; rw [e])
  obtain ⟨c0, c1, c2, c3, c4⟩ := HC.out W1 (only_refl _ _)
  clear h hg hgl g1 hR hg1 HP
  generalize fdW (qWindow o) P.wn P.wd = r at HD ⊢
  generalize fstI (fun i => qWindow o (P.wd i)) P.wn = fi at HIX HFI HD
  rcases HFI.out with ⟨i, hi, rfl, _, _⟩ | ⟨rfl, _⟩
  case inr =>
    have HRZ := Lib.hid (HD.out _ rfl)
    clear HFI HD
    go_enter Tryz.func37, Tryz.ntmps37
    go_upto_region 1 with (fail)
    rw [← hW]
    clear hW
    go_wp2_with (go_at_call 59; (with_reducible refine HIX.out.mono ?_); rintro e w4 ⟨rfl, g4⟩; have R4 := Lib.hid (HR.out.only g4 (by simp)); have G4 := Lib.hid (only_trans HG.out g4); obtain ⟨z0, z1, z2, f0, f1, f2⟩ := box3c R4.out; clear g4)
    have bf := (((R4.out.put 0 (.int .i64 0)).put 1 (.int .i64 0)).put 2 (.int .i64 0))
    have r0 := bf.cell 0
    have r1 := bf.cell 1
    have r2 := bf.cell 2
    simp at r0 r1 r2
    refine bodyPost_ret (v := .agg #[.int .i64 0, .int .i64 0, .int .i64 0]) (by simp [results, Tryz.results37, go_sem, r0, r1, r2]) rfl ⟨by rw [HRZ.out]; rfl, only_putc (only_putc (only_putc G4.out (p := ⟨w.heap.size, 0, none⟩) (Nat.le_refl _) _) (p := ⟨w.heap.size, 1, none⟩) (Nat.le_refl _) _) (p := ⟨w.heap.size, 2, none⟩) (Nat.le_refl _) _⟩
  have HRV := Lib.hid (show r = P.wd i from by rw [HD.out _ rfl, if_neg (by omega)]; rfl)
  obtain ⟨bs, off, hA, hbs, hcs⟩ := (HWI.out W1 (only_refl _ _)).2 (by omega)
  obtain ⟨s0, s1, s2⟩ := hcs i hi
  have hne2 : ¬ bs = w.heap.size := fun e => by
    have := HR.out.cell 0
    obtain ⟨bs', off', hA', hbs', _⟩ := HW0.out (by omega)
    rw [hA] at hA'
    injection hA' with hA'
    injection hA' with hA'
    omega
  clear hcs HFI HD HWI
  obtain ⟨y0, hy0⟩ : ∃ y, y = P.wd i := ⟨_, rfl⟩
  rw [← hy0] at s0 s1 s2 HRV
  clear hy0
  obtain ⟨so, sa, sb⟩ := y0
  simp only at s0 s1 s2
  have i1 : (i : Int) < (P.wn : Int) := by omega
  have i0 : ¬ (i : Int) < 0 := by omega
  have i2 : (0 : Int) ≤ (i : Int) := by omega
  have HS := Lib.hid (show ∀ W, W1.grownBy W none → W.cell? ⟨bs, off + i * 3, none⟩ = some (.int .i64 so) ∧ W.cell? ⟨bs, off + i * 3 + 1, none⟩ = some (.int .i64 sa) ∧ W.cell? ⟨bs, off + i * 3 + 2, none⟩ = some (.int .i64 sb) from fun W q => by
    have q2 : ∀ k, W.cell? ⟨bs, k, none⟩ = W1.cell? ⟨bs, k, none⟩ := fun k => cell_heap (q.block bs hbs (by simp)) k
    exact ⟨(q2 _).trans s0, (q2 _).trans s1, (q2 _).trans s2⟩)
  rw [hA] at HIX HC c1
  generalize P.wn = n at *
  generalize P.wc = cap at *
  clear s0 s1 s2 hA hbs
  go_enter Tryz.func37, Tryz.ntmps37
  go_upto_region 1 with (fail)
  rw [← hW]
  clear hW
  go_wp2_with (go_at_call 59; (with_reducible refine HIX.out.mono ?_); rintro e w4 ⟨rfl, g4⟩; have R4 := Lib.hid (HR.out.only g4 (by simp)); have G4 := Lib.hid (only_trans HG.out g4); obtain ⟨e0, e1, e2, e3, e4⟩ := HC.out w4 g4; obtain ⟨s0, s1, s2⟩ := HS.out w4 g4; obtain ⟨z0, z1, z2, f0, f1, f2⟩ := box3c R4.out; clear g4)
  have bf := (((R4.out.put 0 (.int .i64 so)).put 1 (.int .i64 sa)).put 2 (.int .i64 sb))
  have r0 := bf.cell 0
  have r1 := bf.cell 1
  have r2 := bf.cell 2
  simp at r0 r1 r2
  refine bodyPost_ret (v := .agg #[.int .i64 so, .int .i64 sa, .int .i64 sb]) (by simp [results, Tryz.results37, go_sem, r0, r1, r2]) rfl ⟨by rw [HRV.out], only_putc (only_putc (only_putc G4.out (p := ⟨w.heap.size, 0, none⟩) (Nat.le_refl _) _) (p := ⟨w.heap.size, 1, none⟩) (Nat.le_refl _) _) (p := ⟨w.heap.size, 2, none⟩) (Nat.le_refl _) _⟩
set_option maxRecDepth 20000 in
set_option maxHeartbeats 1600000 in
theorem pfindOpens_any (b : Nat) (P : Pln) (o : Int) (g : Nat) (w : World) (h : PlnV w b P) (hg : w.cell? ⟨g, 0, none⟩ = some (.int .i64 o)) :
    Calls Tryz.prog 37 #[.pointer (some ⟨b, 0, none⟩), .func (.func 45) #[] #[.pointer (some ⟨g, 0, none⟩)]] w fun e w' => e = .returned (w3v (fdW (qOpens o) P.wn P.wd)) ∧ w.grownBy w' none := by
  have hgl : g < w.heap.size := World.block_lt_of_cell? w _ hg
  obtain ⟨W1, hW, g1, hR⟩ := box1 w 78 #[.int .i64 0, .int .i64 0, .int .i64 0]
  have hne : ¬ b = w.heap.size := by have := h.blk.lt; omega
  have HP := Lib.hid (h.grown g1)
  have HG := Lib.hid g1
  have HR := Lib.hid hR
  have hw := h.wle
  have HW0 := Lib.hid h.wins.2
  have hg1 : W1.cell? ⟨g, 0, none⟩ = some (.int .i64 o) := by rw [cell_heap (g1.block g hgl (by simp)) 0]; exact hg
  have HIX := Lib.hid (show Calls Tryz.prog 59 #[.slice P.wA P.wn P.wc, .func (.func 45) #[] #[.pointer (some ⟨g, 0, none⟩)]] W1 (fun e w' => e = .returned (.int .i64 (fstI (fun i => qOpens o (P.wd i)) P.wn)) ∧ W1.grownBy w' none) from
    pidxOpens_any g (fun i => qOpens o (P.wd i)) P.wA P.wn P.wc P.wd W1 HP.out.wins (by omega) (fun i hi W' hw' => popens1_any (P.wd i) o g W' (by
      rw [cell_heap (hw'.block g (World.block_lt_of_cell? W1 _ hg1) (by simp)) 0]
      exact hg1)))
  have HC := Lib.hid (fun (W : World) (q : W1.grownBy W none) => (HP.out.grown q).cells)
  have HFI := Lib.hid (fstI_cases (fun i => qOpens o (P.wd i)) P.wn)
  have HWI := Lib.hid (fun (W : World) (q : W1.grownBy W none) => HP.out.wins.grown q)
  have HD := Lib.hid (show ∀ k, fstI (fun i => qOpens o (P.wd i)) P.wn = k → fdW (qOpens o) P.wn P.wd = if k < 0 then (0, 0, 0) else P.wd k.toNat from fun k e => by unfold fdW; rw [e])
  obtain ⟨c0, c1, c2, c3, c4⟩ := HC.out W1 (only_refl _ _)
  clear h hg hgl g1 hR hg1 HP
  generalize fdW (qOpens o) P.wn P.wd = r at HD ⊢
  generalize fstI (fun i => qOpens o (P.wd i)) P.wn = fi at HIX HFI HD
  rcases HFI.out with ⟨i, hi, rfl, _, _⟩ | ⟨rfl, _⟩
  case inr =>
    have HRZ := Lib.hid (HD.out _ rfl)
    clear HFI HD
    go_enter Tryz.func37, Tryz.ntmps37
    go_upto_region 1 with (fail)
    rw [← hW]
    clear hW
    go_wp2_with (go_at_call 59; (with_reducible refine HIX.out.mono ?_); rintro e w4 ⟨rfl, g4⟩; have R4 := Lib.hid (HR.out.only g4 (by simp)); have G4 := Lib.hid (only_trans HG.out g4); obtain ⟨z0, z1, z2, f0, f1, f2⟩ := box3c R4.out; clear g4)
    have bf := (((R4.out.put 0 (.int .i64 0)).put 1 (.int .i64 0)).put 2 (.int .i64 0))
    have r0 := bf.cell 0
    have r1 := bf.cell 1
    have r2 := bf.cell 2
    simp at r0 r1 r2
    refine bodyPost_ret (v := .agg #[.int .i64 0, .int .i64 0, .int .i64 0]) (by simp [results, Tryz.results37, go_sem, r0, r1, r2]) rfl ⟨by rw [HRZ.out]; rfl, only_putc (only_putc (only_putc G4.out (p := ⟨w.heap.size, 0, none⟩) (Nat.le_refl _) _) (p := ⟨w.heap.size, 1, none⟩) (Nat.le_refl _) _) (p := ⟨w.heap.size, 2, none⟩) (Nat.le_refl _) _⟩
  have HRV := Lib.hid (show r = P.wd i from by rw [HD.out _ rfl, if_neg (by omega)]; rfl)
  obtain ⟨bs, off, hA, hbs, hcs⟩ := (HWI.out W1 (only_refl _ _)).2 (by omega)
  obtain ⟨s0, s1, s2⟩ := hcs i hi
  have hne2 : ¬ bs = w.heap.size := fun e => by
    have := HR.out.cell 0
    obtain ⟨bs', off', hA', hbs', _⟩ := HW0.out (by omega)
    rw [hA] at hA'
    injection hA' with hA'
    injection hA' with hA'
    omega
  clear hcs HFI HD HWI
  obtain ⟨y0, hy0⟩ : ∃ y, y = P.wd i := ⟨_, rfl⟩
  rw [← hy0] at s0 s1 s2 HRV
  clear hy0
  obtain ⟨so, sa, sb⟩ := y0
  simp only at s0 s1 s2
  have i1 : (i : Int) < (P.wn : Int) := by omega
  have i0 : ¬ (i : Int) < 0 := by omega
  have i2 : (0 : Int) ≤ (i : Int) := by omega
  have HS := Lib.hid (show ∀ W, W1.grownBy W none → W.cell? ⟨bs, off + i * 3, none⟩ = some (.int .i64 so) ∧ W.cell? ⟨bs, off + i * 3 + 1, none⟩ = some (.int .i64 sa) ∧ W.cell? ⟨bs, off + i * 3 + 2, none⟩ = some (.int .i64 sb) from fun W q => by
    have q2 : ∀ k, W.cell? ⟨bs, k, none⟩ = W1.cell? ⟨bs, k, none⟩ := fun k => cell_heap (q.block bs hbs (by simp)) k
    exact ⟨(q2 _).trans s0, (q2 _).trans s1, (q2 _).trans s2⟩)
  rw [hA] at HIX HC c1
  generalize P.wn = n at *
  generalize P.wc = cap at *
  clear s0 s1 s2 hA hbs
  go_enter Tryz.func37, Tryz.ntmps37
  go_upto_region 1 with (fail)
  rw [← hW]
  clear hW
  go_wp2_with (go_at_call 59; (with_reducible refine HIX.out.mono ?_); rintro e w4 ⟨rfl, g4⟩; have R4 := Lib.hid (HR.out.only g4 (by simp)); have G4 := Lib.hid (only_trans HG.out g4); obtain ⟨e0, e1, e2, e3, e4⟩ := HC.out w4 g4; obtain ⟨s0, s1, s2⟩ := HS.out w4 g4; obtain ⟨z0, z1, z2, f0, f1, f2⟩ := box3c R4.out; clear g4)
  have bf := (((R4.out.put 0 (.int .i64 so)).put 1 (.int .i64 sa)).put 2 (.int .i64 sb))
  have r0 := bf.cell 0
  have r1 := bf.cell 1
  have r2 := bf.cell 2
  simp at r0 r1 r2
  refine bodyPost_ret (v := .agg #[.int .i64 so, .int .i64 sa, .int .i64 sb]) (by simp [results, Tryz.results37, go_sem, r0, r1, r2]) rfl ⟨by rw [HRV.out], only_putc (only_putc (only_putc G4.out (p := ⟨w.heap.size, 0, none⟩) (Nat.le_refl _) _) (p := ⟨w.heap.size, 1, none⟩) (Nat.le_refl _) _) (p := ⟨w.heap.size, 2, none⟩) (Nat.le_refl _) _⟩
set_option maxRecDepth 20000 in
set_option maxHeartbeats 1600000 in
theorem pfindRuns_any (b : Nat) (P : Pln) (o : Int) (g : Nat) (w : World) (h : PlnV w b P) (hg : w.cell? ⟨g, 0, none⟩ = some (.int .i64 o)) :
    Calls Tryz.prog 37 #[.pointer (some ⟨b, 0, none⟩), .func (.func 43) #[] #[.pointer (some ⟨g, 0, none⟩)]] w fun e w' => e = .returned (w3v (fdW (qRuns o) P.wn P.wd)) ∧ w.grownBy w' none := by
  have hgl : g < w.heap.size := World.block_lt_of_cell? w _ hg
  obtain ⟨W1, hW, g1, hR⟩ := box1 w 78 #[.int .i64 0, .int .i64 0, .int .i64 0]
  have hne : ¬ b = w.heap.size := by have := h.blk.lt; omega
  have HP := Lib.hid (h.grown g1)
  have HG := Lib.hid g1
  have HR := Lib.hid hR
  have hw := h.wle
  have HW0 := Lib.hid h.wins.2
  have hg1 : W1.cell? ⟨g, 0, none⟩ = some (.int .i64 o) := by rw [cell_heap (g1.block g hgl (by simp)) 0]; exact hg
  have HIX := Lib.hid (show Calls Tryz.prog 59 #[.slice P.wA P.wn P.wc, .func (.func 43) #[] #[.pointer (some ⟨g, 0, none⟩)]] W1 (fun e w' => e = .returned (.int .i64 (fstI (fun i => qRuns o (P.wd i)) P.wn)) ∧ W1.grownBy w' none) from
    pidxRuns_any g (fun i => qRuns o (P.wd i)) P.wA P.wn P.wc P.wd W1 HP.out.wins (by omega) (fun i hi W' hw' => pruns1_any (P.wd i) o g W' (by
      rw [cell_heap (hw'.block g (World.block_lt_of_cell? W1 _ hg1) (by simp)) 0]
      exact hg1)))
  have HC := Lib.hid (fun (W : World) (q : W1.grownBy W none) => (HP.out.grown q).cells)
  have HFI := Lib.hid (fstI_cases (fun i => qRuns o (P.wd i)) P.wn)
  have HWI := Lib.hid (fun (W : World) (q : W1.grownBy W none) => HP.out.wins.grown q)
  have HD := Lib.hid (show ∀ k, fstI (fun i => qRuns o (P.wd i)) P.wn = k → fdW (qRuns o) P.wn P.wd = if k < 0 then (0, 0, 0) else P.wd k.toNat from fun k e => by unfold fdW; rw [e])
  obtain ⟨c0, c1, c2, c3, c4⟩ := HC.out W1 (only_refl _ _)
  clear h hg hgl g1 hR hg1 HP
  generalize fdW (qRuns o) P.wn P.wd = r at HD ⊢
  generalize fstI (fun i => qRuns o (P.wd i)) P.wn = fi at HIX HFI HD
  rcases HFI.out with ⟨i, hi, rfl, _, _⟩ | ⟨rfl, _⟩
  case inr =>
    have HRZ := Lib.hid (HD.out _ rfl)
    clear HFI HD
    go_enter Tryz.func37, Tryz.ntmps37
    go_upto_region 1 with (fail)
    rw [← hW]
    clear hW
    go_wp2_with (go_at_call 59; (with_reducible refine HIX.out.mono ?_); rintro e w4 ⟨rfl, g4⟩; have R4 := Lib.hid (HR.out.only g4 (by simp)); have G4 := Lib.hid (only_trans HG.out g4); obtain ⟨z0, z1, z2, f0, f1, f2⟩ := box3c R4.out; clear g4)
    have bf := (((R4.out.put 0 (.int .i64 0)).put 1 (.int .i64 0)).put 2 (.int .i64 0))
    have r0 := bf.cell 0
    have r1 := bf.cell 1
    have r2 := bf.cell 2
    simp at r0 r1 r2
    refine bodyPost_ret (v := .agg #[.int .i64 0, .int .i64 0, .int .i64 0]) (by simp [results, Tryz.results37, go_sem, r0, r1, r2]) rfl ⟨by rw [HRZ.out]; rfl, only_putc (only_putc (only_putc G4.out (p := ⟨w.heap.size, 0, none⟩) (Nat.le_refl _) _) (p := ⟨w.heap.size, 1, none⟩) (Nat.le_refl _) _) (p := ⟨w.heap.size, 2, none⟩) (Nat.le_refl _) _⟩
  have HRV := Lib.hid (show r = P.wd i from by rw [HD.out _ rfl, if_neg (by omega)]; rfl)
  obtain ⟨bs, off, hA, hbs, hcs⟩ := (HWI.out W1 (only_refl _ _)).2 (by omega)
  obtain ⟨s0, s1, s2⟩ := hcs i hi
  have hne2 : ¬ bs = w.heap.size := fun e => by
    have := HR.out.cell 0
    obtain ⟨bs', off', hA', hbs', _⟩ := HW0.out (by omega)
    rw [hA] at hA'
    injection hA' with hA'
    injection hA' with hA'
    omega
  clear hcs HFI HD HWI
  obtain ⟨y0, hy0⟩ : ∃ y, y = P.wd i := ⟨_, rfl⟩
  rw [← hy0] at s0 s1 s2 HRV
  clear hy0
  obtain ⟨so, sa, sb⟩ := y0
  simp only at s0 s1 s2
  have i1 : (i : Int) < (P.wn : Int) := by omega
  have i0 : ¬ (i : Int) < 0 := by omega
  have i2 : (0 : Int) ≤ (i : Int) := by omega
  have HS := Lib.hid (show ∀ W, W1.grownBy W none → W.cell? ⟨bs, off + i * 3, none⟩ = some (.int .i64 so) ∧ W.cell? ⟨bs, off + i * 3 + 1, none⟩ = some (.int .i64 sa) ∧ W.cell? ⟨bs, off + i * 3 + 2, none⟩ = some (.int .i64 sb) from fun W q => by
    have q2 : ∀ k, W.cell? ⟨bs, k, none⟩ = W1.cell? ⟨bs, k, none⟩ := fun k => cell_heap (q.block bs hbs (by simp)) k
    exact ⟨(q2 _).trans s0, (q2 _).trans s1, (q2 _).trans s2⟩)
  rw [hA] at HIX HC c1
  generalize P.wn = n at *
  generalize P.wc = cap at *
  clear s0 s1 s2 hA hbs
  go_enter Tryz.func37, Tryz.ntmps37
  go_upto_region 1 with (fail)
  rw [← hW]
  clear hW
  go_wp2_with (go_at_call 59; (with_reducible refine HIX.out.mono ?_); rintro e w4 ⟨rfl, g4⟩; have R4 := Lib.hid (HR.out.only g4 (by simp)); have G4 := Lib.hid (only_trans HG.out g4); obtain ⟨e0, e1, e2, e3, e4⟩ := HC.out w4 g4; obtain ⟨s0, s1, s2⟩ := HS.out w4 g4; obtain ⟨z0, z1, z2, f0, f1, f2⟩ := box3c R4.out; clear g4)
  have bf := (((R4.out.put 0 (.int .i64 so)).put 1 (.int .i64 sa)).put 2 (.int .i64 sb))
  have r0 := bf.cell 0
  have r1 := bf.cell 1
  have r2 := bf.cell 2
  simp at r0 r1 r2
  refine bodyPost_ret (v := .agg #[.int .i64 so, .int .i64 sa, .int .i64 sb]) (by simp [results, Tryz.results37, go_sem, r0, r1, r2]) rfl ⟨by rw [HRV.out], only_putc (only_putc (only_putc G4.out (p := ⟨w.heap.size, 0, none⟩) (Nat.le_refl _) _) (p := ⟨w.heap.size, 1, none⟩) (Nat.le_refl _) _) (p := ⟨w.heap.size, 2, none⟩) (Nat.le_refl _) _⟩
end Go.Proofs.YtfhhcpmoaggdmaaGreat

/- Package plan: offsets, windows, who runs and whose window begins, by their contracts. -/
namespace Go.Proofs.YtfhhcpmoaggdmaaGreat
open Go.RowKit Go.Lib Go.Sort
set_option linter.unusedVariables false

theorem box2c {W : World} {g : Nat} {t : TypeId} {a b : Value} (h : Blk W g t #[a, b]) : W.cell? ⟨g, 0, none⟩ = some a ∧ W.cell? ⟨g, 1, none⟩ = some b ∧ W.frozen? ⟨g, 0, none⟩ = false ∧ W.frozen? ⟨g, 1, none⟩ = false := ⟨h.cell 0, h.cell 1, h.free 0, h.free 1⟩
theorem run_fw (x y z : Int) (w : World) : (Instr.field 78 (.agg #[.int .i64 x, .int .i64 y, .int .i64 z]) 0).run Tryz.prog w = .ok (.int .i64 x) w := by kernel_rfl
theorem run_fs (x y : Int) (w : World) : (Instr.field 40 (.agg #[.int .i64 x, .int .i64 y]) 0).run Tryz.prog w = .ok (.int .i64 x) w := by kernel_rfl
/-- A tick's place in its frame; below 0 of one below 0. -/
def offV (f t : Int) : Int := if t < 0 then -1 else t % f
theorem poffset_any (b : Nat) (P : Pln) (t : Int) (w : World) (h : PlnV w b P) (hr : rightB P.fr = true) (ht : t ≤ 9223372036854775807) : Calls Tryz.prog 42 #[.pointer (some ⟨b, 0, none⟩), .int .i64 t] w fun e w' => e = .returned (.int .i64 (offV P.fr t)) ∧ w.grownBy w' none := by
  obtain ⟨f1, f2⟩ := (rightB_iff P.fr).1 hr
  have HF := Lib.hid (pframe_any b P w h)
  by_cases h0 : t < 0
  · have hv : offV P.fr t = -1 := by unfold offV; rw [if_pos h0]
    rw [hv]
    clear h hr HF
    go_enter Tryz.func42, Tryz.ntmps42
    go_wp2
    go_ret
    exact ⟨rfl, only_refl _ _⟩
  · have hv : offV P.fr t = t % P.fr := by unfold offV; rw [if_neg h0]
    have hfrv : frV t P.fr = (t / P.fr, t % P.fr) := by simp [frV, hr]; omega
    have HFC := Lib.hid (fun W => (show Calls Tryz.prog 60 #[.int .i64 t, .int .i64 P.fr] W (fun r w' => r = .returned (.tuple #[.int .i64 (t / P.fr), .int .i64 (t % P.fr)]) ∧ ∃ q, W.drewN q = w') from by
      have := frame_any t P.fr W ht
      rw [hfrv] at this
      exact this))
    rw [hv]
    clear h hr hfrv hv
    generalize t % P.fr = x at *
    generalize t / P.fr = y at *
    generalize P.fr = f at *
    go_enter Tryz.func42, Tryz.ntmps42
    go_wp2_with (first
      | (go_at_call 9; (with_reducible refine HF.out.mono ?_); rintro e w1 ⟨rfl, rfl⟩)
      | (go_at_call 60; (with_reducible refine (HFC.out _).mono ?_); rintro e w2 ⟨rfl, q, hq⟩; have G2 := Lib.hid (show w.grownBy w2 none from by rw [← hq]; exact only_drewN (only_refl _ _) q); clear hq))
    go_ret
    exact ⟨rfl, G2.out⟩
set_option maxHeartbeats 1600000 in
theorem pwin_any (b : Nat) (P : Pln) (o : Int) (w : World) (h : PlnV w b P) : Calls Tryz.prog 17 #[.pointer (some ⟨b, 0, none⟩), .int .i64 o] w fun e w' => e = .returned (spv (w3s (fdW (qWindow o) P.wn P.wd))) ∧ w.grownBy w' none := by
  obtain ⟨W1, hW, g1, hO, hS⟩ := box2 w 3 #[.int .i64 o] 40 #[.int .i64 0, .int .i64 0]
  have HF := Lib.hid (pfindWindow_any b P o w.heap.size W1 (h.grown g1) (hO.cell 0))
  have HT := Lib.hid (fun x W => pticks_any x W)
  have HG := Lib.hid g1
  have HS := Lib.hid hS
  clear h hO g1 hS
  generalize fdW (qWindow o) P.wn P.wd = r at *
  obtain ⟨r0, r1, r2⟩ := r
  go_enter Tryz.func17, Tryz.ntmps17
  go_upto_region 1 with (fail)
  rw [← hW]
  clear hW
  go_wp2_with (first
    | (go_at_call 37; (with_reducible refine HF.out.mono ?_); rintro e w2 ⟨rfl, g2⟩; have S2 := Lib.hid (HS.out.only g2 (by simp)); have G2 := Lib.hid (only_trans HG.out g2); clear g2)
    | (go_at_call 36; (with_reducible refine (HT.out (r0, r1, r2) _).mono ?_); rintro e w3 ⟨rfl, g3⟩; have S3 := Lib.hid (S2.out.only g3 (by simp)); have G3 := Lib.hid (only_trans G2.out g3); obtain ⟨z0, z1, f0, f1⟩ := box2c S3.out; clear g3))
  have bf := ((S3.out.put 0 (.int .i64 r1)).put 1 (.int .i64 r2))
  have q0 := bf.cell 0
  have q1 := bf.cell 1
  simp at q0 q1
  refine bodyPost_ret (v := .agg #[.int .i64 r1, .int .i64 r2]) (by simp [results, Tryz.results17, go_sem, q0, q1]) rfl ⟨rfl, only_putc (only_putc G3.out (p := ⟨w.heap.size + 1, 0, none⟩) (Nat.le_succ _) _) (p := ⟨w.heap.size + 1, 1, none⟩) (Nat.le_succ _) _⟩
set_option maxRecDepth 20000 in
set_option maxHeartbeats 1600000 in
theorem pruns_any (b : Nat) (P : Pln) (t : Int) (w : World) (h : PlnV w b P) (hr : rightB P.fr = true) (ht : t ≤ 9223372036854775807) : Calls Tryz.prog 22 #[.pointer (some ⟨b, 0, none⟩), .int .i64 t] w fun e w' => e = .returned (.int .i64 (fdW (qRuns (offV P.fr t)) P.wn P.wd).1) ∧ w.grownBy w' none := by
  have HO := Lib.hid (poffset_any b P t w h hr ht)
  have HP := Lib.hid h
  clear h hr
  generalize offV P.fr t = x at *
  have HF := Lib.hid (fun (g : Nat) (W : World) (k : PlnV W b P) (q : W.cell? ⟨g, 0, none⟩ = some (.int .i64 x)) => pfindRuns_any b P x g W k q)
  generalize fdW (qRuns x) P.wn P.wd = r at *
  obtain ⟨r0, r1, r2⟩ := r
  go_enter Tryz.func22, Tryz.ntmps22
  go_upto_region 2 with (go_at_call 42; (with_reducible refine HO.out.mono ?_); rintro e w2 ⟨rfl, g2⟩; have P2 := Lib.hid (HP.out.grown g2); have G2 := Lib.hid g2; clear g2)
  obtain ⟨w3, hw3⟩ : ∃ w3, w3 = w2.alloc (.cells #[.int .i64 x] 3) := ⟨_, rfl⟩
  have g3 : w2.grownBy w3 none := by rw [hw3]; exact only_alloc (only_refl _ _) _
  have HX : Hid (Blk w3 w2.heap.size 3 #[.int .i64 x]) := Lib.hid (by rw [hw3]; exact Blk.new _ _ _)
  have HF3 := Lib.hid (show Calls Tryz.prog 37 #[.pointer (some ⟨b, 0, none⟩), .func (.func 43) #[] #[.pointer (some ⟨w2.heap.size, 0, none⟩)]] w3 (fun e w' => e = .returned (.agg #[.int .i64 r0, .int .i64 r1, .int .i64 r2]) ∧ w3.grownBy w' none) from HF.out w2.heap.size w3 (P2.out.grown g3) (HX.out.cell 0))
  have G3 := Lib.hid (only_trans G2.out g3)
  rw [← hw3]
  clear hw3 g3 HF
  have hfd := fun w : World => run_fw r0 r1 r2 w
  go_wp2_with (go_at_call 37; (with_reducible refine HF3.out.mono ?_); rintro e w4 ⟨rfl, g4⟩; have G4 := Lib.hid (only_trans G3.out g4); clear g4)
  go_ret
  exact ⟨rfl, G4.out⟩
set_option maxRecDepth 20000 in
set_option maxHeartbeats 1600000 in
theorem popens_any (b : Nat) (P : Pln) (t : Int) (w : World) (h : PlnV w b P) (hr : rightB P.fr = true) (ht : t ≤ 9223372036854775807) : Calls Tryz.prog 24 #[.pointer (some ⟨b, 0, none⟩), .int .i64 t] w fun e w' => e = .returned (.int .i64 (fdW (qOpens (offV P.fr t)) P.wn P.wd).1) ∧ w.grownBy w' none := by
  have HO := Lib.hid (poffset_any b P t w h hr ht)
  have HP := Lib.hid h
  clear h hr
  generalize offV P.fr t = x at *
  have HF := Lib.hid (fun (g : Nat) (W : World) (k : PlnV W b P) (q : W.cell? ⟨g, 0, none⟩ = some (.int .i64 x)) => pfindOpens_any b P x g W k q)
  generalize fdW (qOpens x) P.wn P.wd = r at *
  obtain ⟨r0, r1, r2⟩ := r
  go_enter Tryz.func24, Tryz.ntmps24
  go_upto_region 2 with (go_at_call 42; (with_reducible refine HO.out.mono ?_); rintro e w2 ⟨rfl, g2⟩; have P2 := Lib.hid (HP.out.grown g2); have G2 := Lib.hid g2; clear g2)
  obtain ⟨w3, hw3⟩ : ∃ w3, w3 = w2.alloc (.cells #[.int .i64 x] 3) := ⟨_, rfl⟩
  have g3 : w2.grownBy w3 none := by rw [hw3]; exact only_alloc (only_refl _ _) _
  have HX : Hid (Blk w3 w2.heap.size 3 #[.int .i64 x]) := Lib.hid (by rw [hw3]; exact Blk.new _ _ _)
  have HF3 := Lib.hid (show Calls Tryz.prog 37 #[.pointer (some ⟨b, 0, none⟩), .func (.func 45) #[] #[.pointer (some ⟨w2.heap.size, 0, none⟩)]] w3 (fun e w' => e = .returned (.agg #[.int .i64 r0, .int .i64 r1, .int .i64 r2]) ∧ w3.grownBy w' none) from HF.out w2.heap.size w3 (P2.out.grown g3) (HX.out.cell 0))
  have G3 := Lib.hid (only_trans G2.out g3)
  rw [← hw3]
  clear hw3 g3 HF
  have hfd := fun w : World => run_fw r0 r1 r2 w
  go_wp2_with (go_at_call 37; (with_reducible refine HF3.out.mono ?_); rintro e w4 ⟨rfl, g4⟩; have G4 := Lib.hid (only_trans G3.out g4); clear g4)
  go_ret
  exact ⟨rfl, G4.out⟩
theorem pslots_any (b : Nat) (P : Pln) (w : World) (h : PlnV w b P) : Calls Tryz.prog 40 #[.pointer (some ⟨b, 0, none⟩)] w fun e w' => e = .returned (.pointer (some ⟨P.sb, 0, none⟩)) ∧ w = w' := by
  obtain ⟨c0, c1, c2, c3, c4⟩ := h.cells
  clear h
  go_enter Tryz.func40, Tryz.ntmps40
  go_wp2
  go_ret
  exact ⟨rfl, rfl⟩
theorem pregions_any (b : Nat) (P : Pln) (w : World) (h : PlnV w b P) : Calls Tryz.prog 14 #[.pointer (some ⟨b, 0, none⟩)] w fun e w' => e = .returned (.pointer (some ⟨P.rb, 0, none⟩)) ∧ w = w' := by
  obtain ⟨c0, c1, c2, c3, c4⟩ := h.cells
  clear h
  go_enter Tryz.func14, Tryz.ntmps14
  go_wp2
  go_ret
  exact ⟨rfl, rfl⟩
/-- Is there such a client. -/
def isC (n : Nat) (o : Int) : Bool := decide (1 ≤ o) && decide (o ≤ n)
theorem pisclient_any (b : Nat) (P : Pln) (o : Int) (w : World) (h : PlnV w b P) : Calls Tryz.prog 35 #[.pointer (some ⟨b, 0, none⟩), .int .i64 o] w fun e w' => e = .returned (.bool (isC P.cn o)) ∧ w = w' := by
  have HO := Lib.hid (powners_any b P w h)
  clear h
  unfold isC
  by_cases h1 : 1 ≤ o
  · go_enter Tryz.func35, Tryz.ntmps35
    go_wp2_with (go_at_call 10; (with_reducible refine HO.out.mono ?_); rintro e w1 ⟨rfl, rfl⟩)
    go_ret
    exact ⟨by first | (simp [h1]; done) | (simp; omega), rfl⟩
  · go_enter Tryz.func35, Tryz.ntmps35
    go_wp2_with (go_at_call 10; (with_reducible refine HO.out.mono ?_); rintro e w1 ⟨rfl, rfl⟩)
    go_ret
    exact ⟨by first | (simp [h1]; done) | (simp; omega), rfl⟩
end Go.Proofs.YtfhhcpmoaggdmaaGreat

/- Package plan: what is due, and when, by their contracts. -/
namespace Go.Proofs.YtfhhcpmoaggdmaaGreat
open Go.RowKit Go.Lib Go.Sort
set_option linter.unusedVariables false

/-- Where the I/O partition's window begins. -/
def ioV (P : Pln) : Int := (fdW (qWindow 0) P.wn P.wd).2.1
/-- What is due so many ticks behind there, of so many clients. -/
def dutyV (n : Nat) (u : Int) : Int × Int := if u < 0 ∨ 2 * (n : Int) ≤ u then (0, 0) else (1 + u % 2, 1 + u / 2)
theorem offV_in {f t : Int} (hr : rightB f = true) : -1 ≤ offV f t ∧ offV f t ≤ 4095 := by
  obtain ⟨f1, f2⟩ := (rightB_iff f).1 hr
  unfold offV
  split
  · omega
  · have := Int.emod_nonneg t (show f ≠ 0 by omega)
    have := Int.emod_lt_of_pos t (show 0 < f by omega)
    omega
theorem pwin_io (b : Nat) (P : Pln) (w : World) (h : PlnV w b P) : Calls Tryz.prog 17 #[.pointer (some ⟨b, 0, none⟩), .int .i64 0] w fun e w' => e = .returned (.agg #[.int .i64 (ioV P), .int .i64 (fdW (qWindow 0) P.wn P.wd).2.2]) ∧ w.grownBy w' none := pwin_any b P 0 w h
set_option maxRecDepth 20000 in
set_option maxHeartbeats 1600000 in
theorem pduty_any (b : Nat) (P : Pln) (t : Int) (w : World) (h : PlnV w b P) (hr : rightB P.fr = true) (ht : t ≤ 9223372036854775807) (ha : 0 ≤ ioV P ∧ ioV P ≤ 4096) :
    Calls Tryz.prog 26 #[.pointer (some ⟨b, 0, none⟩), .int .i64 t] w fun e w' => e = .returned (.agg #[.int .i64 (dutyV P.cn (offV P.fr t - ioV P)).1, .int .i64 (dutyV P.cn (offV P.fr t - ioV P)).2]) ∧ w.grownBy w' none := by
  obtain ⟨W1, hW, g1, hS⟩ := box1 w 63 #[.int .i64 0, .int .i64 0]
  have hx := offV_in (t := t) hr
  have hcn := h.cle
  have HO := Lib.hid (poffset_any b P t W1 (h.grown g1) hr ht)
  have HWN := Lib.hid (fun W (q : W1.grownBy W none) => pwin_io b P W ((h.grown g1).grown q))
  have HOW := Lib.hid (fun W (q : W1.grownBy W none) => powners_any b P W ((h.grown g1).grown q))
  have HG := Lib.hid g1
  have HS := Lib.hid hS
  clear h hr g1 hS
  generalize offV P.fr t = x at *
  generalize ioV P = a at *
  generalize (fdW (qWindow 0) P.wn P.wd).2.2 = z at *
  generalize P.cn = n at *
  obtain ⟨u, hu⟩ : ∃ u, u = x - a := ⟨_, rfl⟩
  rw [← hu]
  have u1 : IntKind.i64.wrap (x - a) = u := by rw [IntKind.wrap_i64]; omega
  have u2 : IntKind.i64.wrap (2 * (n : Int)) = 2 * (n : Int) := by rw [IntKind.wrap_i64]; omega
  have hfd := fun w : World => run_fs a z w
  have hu1 : -4097 ≤ u := by omega
  have hu2 : u ≤ 4095 := by omega
  clear hu hx ha
  have key : u < 0 ∨ (¬ u < 0 ∧ 2 * (n : Int) ≤ u) ∨ (¬ u < 0 ∧ ¬ 2 * (n : Int) ≤ u) := by omega
  rcases key with k1 | ⟨k1, k2⟩ | ⟨k1, k2⟩
  · have HV := Lib.hid (show dutyV n u = (0, 0) from by unfold dutyV; rw [if_pos (by omega)])
    go_enter Tryz.func26, Tryz.ntmps26
    go_upto_region 1 with (fail)
    rw [← hW]
    clear hW
    go_wp2_with (first
      | (go_at_call 42; (with_reducible refine HO.out.mono ?_); rintro e w2 ⟨rfl, g2⟩; have G2 := Lib.hid g2; have S2 := Lib.hid (HS.out.only g2 (by simp)); clear g2)
      | (go_at_call 17; (with_reducible refine (HWN.out _ G2.out).mono ?_); rintro e w3 ⟨rfl, g3⟩; have G3 := Lib.hid (only_trans G2.out g3); have S3 := Lib.hid (S2.out.only g3 (by simp)); obtain ⟨z0, z1, f0, f1⟩ := box2c S3.out; clear g3)
      | (go_at_call 10; (with_reducible refine (HOW.out _ G3.out).mono ?_); rintro e w4 ⟨rfl, rfl⟩))
    have bf := ((S3.out.put 0 (.int .i64 0)).put 1 (.int .i64 0))
    have q0 := bf.cell 0
    have q1 := bf.cell 1
    simp at q0 q1
    refine bodyPost_ret (v := .agg #[.int .i64 0, .int .i64 0]) (by simp [results, Tryz.results26, go_sem, q0, q1]) rfl ⟨by rw [HV.out], only_putc (only_putc (only_trans HG.out G3.out) (p := ⟨w.heap.size, 0, none⟩) (Nat.le_refl _) _) (p := ⟨w.heap.size, 1, none⟩) (Nat.le_refl _) _⟩
  · have HV := Lib.hid (show dutyV n u = (0, 0) from by unfold dutyV; rw [if_pos (by omega)])
    go_enter Tryz.func26, Tryz.ntmps26
    go_upto_region 1 with (fail)
    rw [← hW]
    clear hW
    go_wp2_with (first
      | (go_at_call 42; (with_reducible refine HO.out.mono ?_); rintro e w2 ⟨rfl, g2⟩; have G2 := Lib.hid g2; have S2 := Lib.hid (HS.out.only g2 (by simp)); clear g2)
      | (go_at_call 17; (with_reducible refine (HWN.out _ G2.out).mono ?_); rintro e w3 ⟨rfl, g3⟩; have G3 := Lib.hid (only_trans G2.out g3); have S3 := Lib.hid (S2.out.only g3 (by simp)); obtain ⟨z0, z1, f0, f1⟩ := box2c S3.out; clear g3)
      | (go_at_call 10; (with_reducible refine (HOW.out _ G3.out).mono ?_); rintro e w4 ⟨rfl, rfl⟩))
    have bf := ((S3.out.put 0 (.int .i64 0)).put 1 (.int .i64 0))
    have q0 := bf.cell 0
    have q1 := bf.cell 1
    simp at q0 q1
    refine bodyPost_ret (v := .agg #[.int .i64 0, .int .i64 0]) (by simp [results, Tryz.results26, go_sem, q0, q1]) rfl ⟨by rw [HV.out], only_putc (only_putc (only_trans HG.out G3.out) (p := ⟨w.heap.size, 0, none⟩) (Nat.le_refl _) _) (p := ⟨w.heap.size, 1, none⟩) (Nat.le_refl _) _⟩
  · have HV := Lib.hid (show dutyV n u = (1 + u % 2, 1 + u / 2) from by unfold dutyV; rw [if_neg (by omega)])
    have u3 : Int.tmod u 2 = u % 2 := Int.tmod_eq_emod_of_nonneg (by omega)
    have u4 : Int.tdiv u 2 = u / 2 := Int.tdiv_eq_ediv_of_nonneg (by omega)
    have u5 : IntKind.i64.wrap (u % 2) = u % 2 := by rw [IntKind.wrap_i64]; omega
    have u6 : IntKind.i64.wrap (u / 2) = u / 2 := by rw [IntKind.wrap_i64]; omega
    have u7 : IntKind.i64.wrap (1 + u % 2) = 1 + u % 2 := by rw [IntKind.wrap_i64]; omega
    have u8 : IntKind.i64.wrap (1 + u / 2) = 1 + u / 2 := by rw [IntKind.wrap_i64]; omega
    go_enter Tryz.func26, Tryz.ntmps26
    go_upto_region 1 with (fail)
    rw [← hW]
    clear hW
    go_wp2_with (first
      | (go_at_call 42; (with_reducible refine HO.out.mono ?_); rintro e w2 ⟨rfl, g2⟩; have G2 := Lib.hid g2; have S2 := Lib.hid (HS.out.only g2 (by simp)); clear g2)
      | (go_at_call 17; (with_reducible refine (HWN.out _ G2.out).mono ?_); rintro e w3 ⟨rfl, g3⟩; have G3 := Lib.hid (only_trans G2.out g3); have S3 := Lib.hid (S2.out.only g3 (by simp)); obtain ⟨z0, z1, f0, f1⟩ := box2c S3.out; clear g3)
      | (go_at_call 10; (with_reducible refine (HOW.out _ G3.out).mono ?_); rintro e w4 ⟨rfl, rfl⟩))
    have bf := ((S3.out.put 0 (.int .i64 (1 + u % 2))).put 1 (.int .i64 (1 + u / 2)))
    have q0 := bf.cell 0
    have q1 := bf.cell 1
    simp at q0 q1
    refine bodyPost_ret (v := .agg #[.int .i64 (1 + u % 2), .int .i64 (1 + u / 2)]) (by simp [results, Tryz.results26, go_sem, q0, q1]) rfl ⟨by rw [HV.out], only_putc (only_putc (only_trans HG.out G3.out) (p := ⟨w.heap.size, 0, none⟩) (Nat.le_refl _) _) (p := ⟨w.heap.size, 1, none⟩) (Nat.le_refl _) _⟩
/-- The offset of a duty; -1 where there is no such one. -/
def whenV (P : Pln) (k o : Int) : Int := if k < 1 ∨ 2 < k ∨ isC P.cn o = false then -1 else ioV P + 2 * (o - 1) + k - 1
set_option maxRecDepth 20000 in
set_option maxHeartbeats 1600000 in
theorem pwhen_any (b : Nat) (P : Pln) (k o : Int) (w : World) (h : PlnV w b P) (ha : 0 ≤ ioV P ∧ ioV P ≤ 4096) :
    Calls Tryz.prog 18 #[.pointer (some ⟨b, 0, none⟩), .int .i64 k, .int .i64 o] w fun e w' => e = .returned (.int .i64 (whenV P k o)) ∧ w.grownBy w' none := by
  have hcn := h.cle
  have HWN := Lib.hid (pwin_io b P w h)
  have HIC := Lib.hid (pisclient_any b P o w h)
  clear h
  have hv : whenV P k o = if k < 1 ∨ 2 < k ∨ isC P.cn o = false then -1 else ioV P + 2 * (o - 1) + k - 1 := rfl
  have hc : isC P.cn o = true → 1 ≤ o ∧ o ≤ 1000 := fun q => by
    unfold isC at q
    simp at q
    omega
  generalize isC P.cn o = c at *
  generalize ioV P = a at *
  generalize (fdW (qWindow 0) P.wn P.wd).2.2 = z at *
  have hfd := fun w : World => run_fs a z w
  by_cases k1 : k < 1
  · rw [hv, if_pos (.inl k1)]
    clear hv hc
    go_enter Tryz.func18, Tryz.ntmps18
    go_wp2
    go_ret
    exact ⟨rfl, only_refl _ _⟩
  by_cases k2 : 2 < k
  · rw [hv, if_pos (.inr (.inl k2))]
    clear hv hc
    go_enter Tryz.func18, Tryz.ntmps18
    go_wp2
    go_ret
    exact ⟨rfl, only_refl _ _⟩
  cases c with
  | false =>
    rw [hv, if_pos (.inr (.inr rfl))]
    clear hv hc
    go_enter Tryz.func18, Tryz.ntmps18
    go_wp2_with (go_at_call 35; (with_reducible refine HIC.out.mono ?_); rintro e w1 ⟨rfl, rfl⟩)
    go_ret
    exact ⟨rfl, only_refl _ _⟩
  | true =>
    rw [hv, if_neg (by simp; omega)]
    obtain ⟨o1, o2⟩ := hc rfl
    clear hv hc
    have u1 : IntKind.i64.wrap (o - 1) = o - 1 := by rw [IntKind.wrap_i64]; omega
    have u2 : IntKind.i64.wrap (2 * (o - 1)) = 2 * (o - 1) := by rw [IntKind.wrap_i64]; omega
    have u3 : IntKind.i64.wrap (a + 2 * (o - 1)) = a + 2 * (o - 1) := by rw [IntKind.wrap_i64]; omega
    have u4 : IntKind.i64.wrap (a + 2 * (o - 1) + k) = a + 2 * (o - 1) + k := by rw [IntKind.wrap_i64]; omega
    have u5 : IntKind.i64.wrap (a + 2 * (o - 1) + k - 1) = a + 2 * (o - 1) + k - 1 := by rw [IntKind.wrap_i64]; omega
    go_enter Tryz.func18, Tryz.ntmps18
    go_wp2_with (first
      | (go_at_call 35; (with_reducible refine HIC.out.mono ?_); rintro e w1 ⟨rfl, rfl⟩)
      | (go_at_call 17; (with_reducible refine HWN.out.mono ?_); rintro e w3 ⟨rfl, g3⟩; have G3 := Lib.hid g3; clear g3))
    go_ret
    exact ⟨rfl, G3.out⟩
end Go.Proofs.YtfhhcpmoaggdmaaGreat

/- Rows against those ahead; an owner's first window: by their contracts. -/
namespace Go.Proofs.YtfhhcpmoaggdmaaGreat
open Go.RowKit Go.Lib Go.Sort
set_option linter.unusedVariables false

theorem wms_any (x : W3) (A : Option Addr) (n cap : Nat) (d : Nat → W3) (w : World) (hst : Row3 w A n d) (hm : n ≤ 9223372036854775807) : Calls Tryz.prog 75 #[w3v x, .slice A n cap] w fun e w' => e = .returned (.bool (anyB (fun i => wM x (d i)) n)) ∧ w.grownBy w' none := by
  obtain ⟨x1, x2, x3⟩ := x
  show Calls Tryz.prog 75 #[.agg #[.int .i64 x1, .int .i64 x2, .int .i64 x3], .slice A n cap] w _
  obtain ⟨W1, hW, G0, hB⟩ := box1 w 78 #[.int .i64 x1, .int .i64 x2, .int .i64 x3]
  have HC := Lib.hid (hasw_any w.heap.size (fun i => wM (x1, x2, x3) (d i)) A n cap d W1 (hst.grown G0) hm (fun i hi W hg => wm_any (x1, x2, x3) (d i) w.heap.size W (hB.only hg (by simp))))
  generalize anyB (fun i => wM (x1, x2, x3) (d i)) n = r at HC ⊢
  have G0 := Lib.hid G0
  clear hB hst
  go_enter Tryz.func75, Tryz.ntmps75
  go_upto_region 1 with (fail)
  rw [← hW]
  clear hW
  go_wp2_with (go_at_call 106; (with_reducible refine HC.out.mono ?_); rintro e w2 ⟨rfl, g2⟩; have G2 := Lib.hid (only_trans G0.out g2); clear g2)
  go_ret
  exact ⟨rfl, G2.out⟩
theorem sms_any (x : W3) (A : Option Addr) (n cap : Nat) (d : Nat → W3) (w : World) (hst : Row3 w A n d) (hm : n ≤ 9223372036854775807) : Calls Tryz.prog 83 #[w3v x, .slice A n cap] w fun e w' => e = .returned (.bool (anyB (fun i => sM x (d i)) n)) ∧ w.grownBy w' none := by
  obtain ⟨x1, x2, x3⟩ := x
  show Calls Tryz.prog 83 #[.agg #[.int .i64 x1, .int .i64 x2, .int .i64 x3], .slice A n cap] w _
  obtain ⟨W1, hW, G0, hB⟩ := box1 w 84 #[.int .i64 x1, .int .i64 x2, .int .i64 x3]
  have HC := Lib.hid (hass_any w.heap.size (fun i => sM (x1, x2, x3) (d i)) A n cap d W1 (hst.grown G0) hm (fun i hi W hg => sm_any (x1, x2, x3) (d i) w.heap.size W (hB.only hg (by simp))))
  generalize anyB (fun i => sM (x1, x2, x3) (d i)) n = r at HC ⊢
  have G0 := Lib.hid G0
  clear hB hst
  go_enter Tryz.func83, Tryz.ntmps83
  go_upto_region 1 with (fail)
  rw [← hW]
  clear hW
  go_wp2_with (go_at_call 87; (with_reducible refine HC.out.mono ?_); rintro e w2 ⟨rfl, g2⟩; have G2 := Lib.hid (only_trans G0.out g2); clear g2)
  go_ret
  exact ⟨rfl, G2.out⟩
/-- A client that has something that one ahead of it has too. -/
def shB (x : Cl) (d : Nat → Cl) (n : Nat) : Bool := !badC x && anyB (fun i => !badC (d i) && cM x (d i)) n
set_option maxHeartbeats 800000 in
theorem shared_any (x : Cl) (hx : FitCl x) (A : Option Addr) (n cap : Nat) (d : Nat → Cl) (w : World) (hst : RowC w A n d) (hm : n ≤ 9223372036854775807) (hf : ∀ i, i < n → FitCl (d i)) : Calls Tryz.prog 71 #[clv x, .slice A n cap] w fun e w' => e = .returned (.bool (shB x d n)) ∧ w.grownBy w' none := by
  have HB := Lib.hid (fun W => badc_any x hx W)
  unfold shB
  cases hb : badC x
  · rw [hb] at HB
    simp only [Bool.not_false, Bool.true_and]
    obtain ⟨x1, x2, x3, x4, x5, x6, x7, x8, x9, x10⟩ := x
    show Calls Tryz.prog 71 #[.agg #[.int .i64 x1, .int .i64 x2, .int .i64 x3, .int .i64 x4, .int .i64 x5, .int .i64 x6, .int .i64 x7, .int .i64 x8, .int .i64 x9, .int .i64 x10], .slice A n cap] w _
    obtain ⟨W1, hW, G0, hB⟩ := box1 w 36 #[.int .i64 x1, .int .i64 x2, .int .i64 x3, .int .i64 x4, .int .i64 x5, .int .i64 x6, .int .i64 x7, .int .i64 x8, .int .i64 x9, .int .i64 x10]
    have HC := Lib.hid (fun (W : World) (hg : W1.grownBy W none) => hasc_any w.heap.size (fun i => !badC (d i) && cM ⟨x1, x2, x3, x4, x5, x6, x7, x8, x9, x10⟩ (d i)) A n cap d W ((hst.grown G0).grown hg) hm (fun i hi W' hg' => cm_any ⟨x1, x2, x3, x4, x5, x6, x7, x8, x9, x10⟩ (d i) hb (hf i hi) w.heap.size W' ((hB.only hg (by simp)).only hg' (by simp))))
    generalize anyB (fun i => !badC (d i) && cM ⟨x1, x2, x3, x4, x5, x6, x7, x8, x9, x10⟩ (d i)) n = r at HC ⊢
    have G0 := Lib.hid G0
    have k1 := fun i => hB.cell i
    clear hB hst hx hb hf
    go_enter Tryz.func71, Tryz.ntmps71
    go_upto_region 1 with (fail)
    rw [← hW]
    clear hW
    go_wp2_with (first
      | (go_at_call 69; (with_reducible refine (HB.out _).mono ?_); rintro e w1 ⟨rfl, g1⟩; have G1 := Lib.hid g1; clear g1 k1)
      | (go_at_call 100; (with_reducible refine (HC.out _ G1.out).mono ?_); rintro e w2 ⟨rfl, g2⟩; have G2 := Lib.hid (only_trans (only_trans G0.out G1.out) g2); clear g2))
    go_ret
    exact ⟨rfl, G2.out⟩
  · rw [hb] at HB
    simp only [Bool.not_true, Bool.false_and]
    obtain ⟨x1, x2, x3, x4, x5, x6, x7, x8, x9, x10⟩ := x
    show Calls Tryz.prog 71 #[.agg #[.int .i64 x1, .int .i64 x2, .int .i64 x3, .int .i64 x4, .int .i64 x5, .int .i64 x6, .int .i64 x7, .int .i64 x8, .int .i64 x9, .int .i64 x10], .slice A n cap] w _
    obtain ⟨W1, hW, G0, hB⟩ := box1 w 36 #[.int .i64 x1, .int .i64 x2, .int .i64 x3, .int .i64 x4, .int .i64 x5, .int .i64 x6, .int .i64 x7, .int .i64 x8, .int .i64 x9, .int .i64 x10]
    have G0 := Lib.hid G0
    have k1 := fun i => hB.cell i
    clear hB hst hx hb hf
    go_enter Tryz.func71, Tryz.ntmps71
    go_upto_region 1 with (fail)
    rw [← hW]
    clear hW
    go_wp2_with (go_at_call 69; (with_reducible refine (HB.out _).mono ?_); rintro e w1 ⟨rfl, g1⟩; have G1 := Lib.hid g1; clear g1 k1)
    go_ret
    exact ⟨rfl, only_trans G0.out G1.out⟩
theorem fw1_any (o : Int) (y : W3) (g : Nat) (w : World) (hg : Blk w g 3 #[.int .i64 o]) : Calls Tryz.prog 121 #[w3v y, .pointer (some ⟨g, 0, none⟩)] w fun e w' => e = .returned (.bool (decide (y.1 = o))) ∧ w.grownBy w' none := by
  obtain ⟨y1, y2, y3⟩ := y
  show Calls Tryz.prog 121 #[.agg #[.int .i64 y1, .int .i64 y2, .int .i64 y3], .pointer (some ⟨g, 0, none⟩)] w _
  obtain ⟨W1, hW, G0, hB⟩ := box1 w 78 #[.int .i64 y1, .int .i64 y2, .int .i64 y3]
  have k1 := fun i => (hg.only G0 (by simp)).cell i
  have k2 := fun i => hB.cell i
  have G0 := Lib.hid G0
  clear hB hg
  go_enter Tryz.func121, Tryz.ntmps121
  go_upto_region 1 with (fail)
  rw [← hW]
  clear hW
  go_wp2
  go_ret
  exact ⟨ret_bool (by simp [Bool.beq_eq_decide_eq]), G0.out⟩
/-- The place of an owner's first window; -1: none. -/
def fwI (c : Cf) (o : Int) : Int := fstI (fun i => decide ((c.wd i).1 = o)) c.wn
theorem fw_any (c : Cf) (o : Int) (w : World) (hc : CfV w c) (hf : FitCf c) : Calls Tryz.prog 108 #[cfv c, .int .i64 o] w fun e w' => e = .returned (.int .i64 (fwI c o)) ∧ w.grownBy w' none := by
  unfold fwI
  have hw := hc.1
  have hm : c.wn ≤ 9223372036854775807 := by have := hf.2.1; omega
  obtain ⟨fr, wA, wn, wc, wd, sA, sn, sc, sd, cA, cn, cc, cd⟩ := c
  simp only at hw hm ⊢
  show Calls Tryz.prog 108 #[.agg #[.int .i64 fr, .slice wA wn wc, .slice sA sn sc, .slice cA cn cc], .int .i64 o] w _
  obtain ⟨W1, hW, G0, hA, hB⟩ := box2 w 26 #[.int .i64 fr, .slice wA wn wc, .slice sA sn sc, .slice cA cn cc] 3 #[.int .i64 o]
  have HC := Lib.hid (idxf_any (w.heap.size + 1) (fun i => decide ((wd i).1 = o)) wA wn wc wd W1 (hw.grown G0) hm (fun i hi W hg => fw1_any o (wd i) (w.heap.size + 1) W (hB.only hg (by simp))))
  generalize fstI (fun i => decide ((wd i).1 = o)) wn = r at HC ⊢
  have G0 := Lib.hid G0
  have k1 := fun i => hA.cell i
  clear hA hB hw hc hf
  go_enter Tryz.func108, Tryz.ntmps108
  go_upto_region 1 with (fail)
  rw [← hW]
  clear hW
  go_wp2_with (go_at_call 59; (with_reducible refine HC.out.mono ?_); rintro e w2 ⟨rfl, g2⟩; have G2 := Lib.hid (only_trans G0.out g2); clear g2)
  go_ret
  exact ⟨rfl, G2.out⟩
theorem now_any (c : Cf) (o : Int) (w : World) (hc : CfV w c) (hf : FitCf c) : Calls Tryz.prog 77 #[cfv c, .int .i64 o] w fun e w' => e = .returned (.bool (decide (fwI c o < 0))) ∧ w.grownBy w' none := by
  have HF := Lib.hid (fun W (hg : w.grownBy W none) => fw_any c o W (hc.grown hg) hf)
  generalize fwI c o = r at HF ⊢
  obtain ⟨fr, wA, wn, wc, wd, sA, sn, sc, sd, cA, cn, cc, cd⟩ := c
  have HF : Hid (∀ W, w.grownBy W none → Calls Tryz.prog 108 #[.agg #[.int .i64 fr, .slice wA wn wc, .slice sA sn sc, .slice cA cn cc], .int .i64 o] W fun e w' => e = .returned (.int .i64 r) ∧ W.grownBy w' none) := HF
  show Calls Tryz.prog 77 #[.agg #[.int .i64 fr, .slice wA wn wc, .slice sA sn sc, .slice cA cn cc], .int .i64 o] w _
  obtain ⟨W1, hW, G0, hA⟩ := box1 w 26 #[.int .i64 fr, .slice wA wn wc, .slice sA sn sc, .slice cA cn cc]
  have G0 := Lib.hid G0
  have k1 := fun i => hA.cell i
  clear hA hc hf
  go_enter Tryz.func77, Tryz.ntmps77
  go_upto_region 1 with (fail)
  rw [← hW]
  clear hW
  go_wp2_with (go_at_call 108; (with_reducible refine (HF.out _ G0.out).mono ?_); rintro e w2 ⟨rfl, g2⟩; have G2 := Lib.hid (only_trans G0.out g2); clear g2)
  go_ret
  exact ⟨rfl, G2.out⟩
end Go.Proofs.YtfhhcpmoaggdmaaGreat

/- The I/O partition's window; units; regions: by their contracts. -/
namespace Go.Proofs.YtfhhcpmoaggdmaaGreat
open Go.RowKit Go.Lib Go.Sort
set_option linter.unusedVariables false

theorem CfV.box {w : World} {c : Cf} (h : CfV w c) (W : World) (g : w.grownBy W none) : CfV W c := h.grown g
/-- Is the first window of the owner 0 too short? -/
def shwB (c : Cf) : Bool := if fwI c 0 < 0 then false else if badW c (c.wd (fwI c 0).toNat) then false else decide ((c.wd (fwI c 0).toNat).2.2 - (c.wd (fwI c 0).toNat).2.1 < 2 * c.cn)
def shV (c : Cf) (x : W3) : Bool := !badW c x && decide (x.2.2 - x.2.1 < 2 * c.cn)
set_option maxHeartbeats 1600000 in
theorem shw_any (c : Cf) (w : World) (hc : CfV w c) (hf : FitCf c) (hn : c.cn ≤ 1000) : Calls Tryz.prog 79 #[cfv c] w fun e w' => e = .returned (.bool (shwB c)) ∧ w.grownBy w' none := by
  have HF := Lib.hid (fun W (hg : w.grownBy W none) => fw_any c 0 W (hc.grown hg) hf)
  have hcase : (fwI c 0 < 0 ∧ shwB c = false) ∨ ∃ i : Nat, fwI c 0 = i ∧ i < c.wn ∧ shwB c = shV c (c.wd i) := by
    rcases fstI_cases (fun i => decide ((c.wd i).1 = 0)) c.wn with ⟨i, hi, e, _⟩ | ⟨e, _⟩
    · refine .inr ⟨i, e, hi, ?_⟩
      have e' : fwI c 0 = i := e
      unfold shwB
      rw [e', if_neg (by omega), Int.toNat_natCast]
      unfold shV
      cases badW c (c.wd i) <;> simp
    · have e' : fwI c 0 = -1 := e
      refine .inl ⟨by omega, ?_⟩
      unfold shwB
      rw [e', if_pos (by omega)]
  have hw := hc.1
  have hfr := hf.1
  have HBW := Lib.hid (fun (x : W3) (W : World) => badw_any c x W)
  have HCN := Lib.hid (fun (x : W3) => badW_no (c := c) (x := x))
  generalize shwB c = r at hcase ⊢
  generalize fwI c 0 = q at HF hcase
  have hl := hf.2.1.1
  obtain ⟨fr, wA, wn, wc, wd, sA, sn, sc, sd, cA, cn, cc, cd⟩ := c
  simp only at hw hcase hfr hn HCN hl
  have HF : Hid (∀ W, w.grownBy W none → Calls Tryz.prog 108 #[.agg #[.int .i64 fr, .slice wA wn wc, .slice sA sn sc, .slice cA cn cc], .int .i64 0] W fun e w' => e = .returned (.int .i64 q) ∧ W.grownBy w' none) := HF
  show Calls Tryz.prog 79 #[.agg #[.int .i64 fr, .slice wA wn wc, .slice sA sn sc, .slice cA cn cc]] w _
  obtain ⟨W1, hW, G0, hA⟩ := box1 w 26 #[.int .i64 fr, .slice wA wn wc, .slice sA sn sc, .slice cA cn cc]
  have G0 := Lib.hid G0
  have HA := Lib.hid hA
  have k1 := fun i => hA.cell i
  rcases hcase with ⟨h0, rfl⟩ | ⟨i, rfl, hi, hr⟩
  · have hd : decide (q < 0) = true := decide_eq_true h0
    clear hA hc hf hw
    go_enter Tryz.func79, Tryz.ntmps79
    go_upto_region 1 with (fail)
    rw [← hW]
    clear hW
    go_upto_region 2 with (go_at_call 108; (with_reducible refine (HF.out _ G0.out).mono ?_); rintro e w2 ⟨rfl, g2⟩; have A2 := Lib.hid (HA.out.only g2 (by simp)); have G2 := Lib.hid (only_trans G0.out g2); clear g2 k1)
    have k2 := blk_re A2.out
    refine wp_region_quiet_below (by kernel_rfl) (by kernel_rfl) ?_
    repeat (go_big_quiet_step ((fail)))
    refine wpQuiet_nil ?_
    intro w3 hw3
    obtain ⟨p, rfl⟩ := hw3
    have G3 := Lib.hid (only_trans G2.out (only_re w2 p.d p.os))
    clear k2
    generalize grow (redrawn w2 p.d) p.os = w3 at G3 ⊢
    go_wp2
    go_ret
    exact ⟨rfl, G3.out⟩
  · have hd : decide ((i : Int) < 0) = false := decide_eq_false (by omega)
    obtain ⟨b, off, rfl, hb, hcl⟩ := hw.2 (by omega)
    have HCL := Lib.hid (fun W (hg : w.grownBy W none) => (hcl i hi).grown hb hg)
    have HBWi := Lib.hid (fun W => HBW.out (wd i) W)
    have HNi := Lib.hid (HCN.out (wd i))
    rw [hr]
    have i1 : (i : Int) < (wn : Int) := by omega
    clear hA hc hf hw hcl HCN hr hb
    obtain ⟨x, hx⟩ : ∃ x, x = wd i := ⟨_, rfl⟩
    rw [← hx] at HCL HBWi HNi ⊢
    clear hx
    obtain ⟨x1, x2, x3⟩ := x
    show Calls Tryz.prog 79 #[.agg #[.int .i64 fr, .slice (some ⟨b, off, none⟩) wn wc, .slice sA sn sc, .slice cA cn cc]] w fun e w' => e = .returned (.bool (!badW ⟨fr, some ⟨b, off, none⟩, wn, wc, wd, sA, sn, sc, sd, cA, cn, cc, cd⟩ (x1, x2, x3) && decide (x3 - x2 < 2 * (cn : Int)))) ∧ w.grownBy w' none
    have HBWi : Hid (∀ W, Calls Tryz.prog 73 #[.agg #[.int .i64 fr, .slice (some ⟨b, off, none⟩) wn wc, .slice sA sn sc, .slice cA cn cc], .agg #[.int .i64 x1, .int .i64 x2, .int .i64 x3]] W fun e w' => e = .returned (.bool (badW ⟨fr, some ⟨b, off, none⟩, wn, wc, wd, sA, sn, sc, sd, cA, cn, cc, cd⟩ (x1, x2, x3))) ∧ W.grownBy w' none) := HBWi
    simp only at HNi
    generalize badW ⟨fr, some ⟨b, off, none⟩, wn, wc, wd, sA, sn, sc, sd, cA, cn, cc, cd⟩ (x1, x2, x3) = r2 at HBWi HNi ⊢
    have hwr : r2 = false → IntKind.i64.wrap (x3 - x2) = x3 - x2 := fun h => by
      have := HNi.out.1 h
      unfold fitI at hfr
      rw [IntKind.wrap_i64]
      omega
    have hw2 : IntKind.i64.wrap (2 * (cn : Int)) = 2 * (cn : Int) := by rw [IntKind.wrap_i64]; omega
    clear hfr hn HNi
    cases r2
    · have hwr := hwr rfl
      go_enter Tryz.func79, Tryz.ntmps79
      go_upto_region 1 with (fail)
      rw [← hW]
      clear hW
      go_upto_region 2 with (go_at_call 108; (with_reducible refine (HF.out _ G0.out).mono ?_); rintro e w2 ⟨rfl, g2⟩; have A2 := Lib.hid (HA.out.only g2 (by simp)); have G2 := Lib.hid (only_trans G0.out g2); clear g2 k1)
      have k2 := blk_re A2.out
      obtain ⟨l0, l1, l2⟩ := HCL.out _ G2.out
      have m0 := fun dd os => cell_regrown l0 dd os
      have m1 := fun dd os => cell_regrown l1 dd os
      have m2 := fun dd os => cell_regrown l2 dd os
      simp only at m0 m1 m2
      clear l0 l1 l2
      refine wp_region_quiet_below (by kernel_rfl) (by kernel_rfl) ?_
      repeat (go_big_quiet_step ((first | (go_at_call 73; with_reducible exact rg1 (HBWi.out _)))))
      refine wpQuiet_nil ?_
      intro w3 hw3
      obtain ⟨p, rfl⟩ := hw3
      have A3 := Lib.hid (A2.out.only (only_re w2 p.d p.os) (by simp))
      have G3 := Lib.hid (only_trans G2.out (only_re w2 p.d p.os))
      clear k2 m0 m1 m2
      generalize grow (redrawn w2 p.d) p.os = w3 at A3 G3 ⊢
      go_upto_region 4 with (fail)
      have k3 := blk_re A3.out
      obtain ⟨l0, l1, l2⟩ := HCL.out _ G3.out
      have m1 := fun dd os => cell_regrown l1 dd os
      have m2 := fun dd os => cell_regrown l2 dd os
      simp only at m1 m2
      clear l0 l1 l2
      refine wp_region_quiet_below (by kernel_rfl) (by kernel_rfl) ?_
      repeat (go_big_quiet_step ((fail)))
      refine wpQuiet_nil ?_
      intro w4 hw4
      obtain ⟨p4, rfl⟩ := hw4
      have G4 := Lib.hid (only_trans G3.out (only_re w3 p4.d p4.os))
      clear k3 m1 m2
      generalize grow (redrawn w3 p4.d) p4.os = w4 at G4 ⊢
      go_wp2
      go_ret
      exact ⟨by simp, G4.out⟩
    · clear hwr
      go_enter Tryz.func79, Tryz.ntmps79
      go_upto_region 1 with (fail)
      rw [← hW]
      clear hW
      go_upto_region 2 with (go_at_call 108; (with_reducible refine (HF.out _ G0.out).mono ?_); rintro e w2 ⟨rfl, g2⟩; have A2 := Lib.hid (HA.out.only g2 (by simp)); have G2 := Lib.hid (only_trans G0.out g2); clear g2 k1)
      have k2 := blk_re A2.out
      obtain ⟨l0, l1, l2⟩ := HCL.out _ G2.out
      have m0 := fun dd os => cell_regrown l0 dd os
      have m1 := fun dd os => cell_regrown l1 dd os
      have m2 := fun dd os => cell_regrown l2 dd os
      simp only at m0 m1 m2
      clear l0 l1 l2
      refine wp_region_quiet_below (by kernel_rfl) (by kernel_rfl) ?_
      repeat (go_big_quiet_step ((first | (go_at_call 73; with_reducible exact rg1 (HBWi.out _)))))
      refine wpQuiet_nil ?_
      intro w3 hw3
      obtain ⟨p, rfl⟩ := hw3
      have G3 := Lib.hid (only_trans G2.out (only_re w2 p.d p.os))
      clear k2 m0 m1 m2
      generalize grow (redrawn w2 p.d) p.os = w3 at G3 ⊢
      go_wp2
      go_ret
      exact ⟨by simp, G3.out⟩
end Go.Proofs.YtfhhcpmoaggdmaaGreat
