/- The law's step for any deed; its told. -/
import Derived.Test.YtbbgijjeimjgoaaLB4
import Derived.Lib.QuietBelow
namespace Go.Proofs.Ytbbgijjeimjgoaa
open Go.RowKit Go.Lib Go.Sort
set_option linter.unusedVariables false
set_option maxRecDepth 8000

theorem Lt.Two.grow {w w' : World} {b : Nat} {A : Option Addr} {n c J : Nat} {o : Nat → Nat × Nat} (h : Lt.Two w b A n c J o) (k : w.grownBy w' none) : Lt.Two w' b A n c (J + 1) o := by
  obtain ⟨X, h⟩ := h
  have h := h.grown k
  exact ⟨X, h.brd, h.row, fun i hi => (h.rel i hi).mono (Nat.le_succ _), h.ne⟩
set_option maxRecDepth 20000 in
set_option maxHeartbeats 3200000 in
theorem Lt.step_raise_no {w : World} {b : Nat} {A : Option Addr} {n c J : Nat} {o : Nat → Nat × Nat} (h : Lt.Two w b A n c J o) (x z : Int) (hx : ¬ (1 ≤ x ∧ x ≤ n)) : Calls Try.prog 7 #[.pointer (some ⟨b, 0, none⟩), .slice A n c, .agg #[.int .i64 0, .int .i64 x, .int .i64 z]] w fun e w' => e = .returned (.bool true) ∧ Lt.Two w' b A n c (J + 1) o ∧ Keeps (Lt.Ft b A n c) w w' := by
  obtain ⟨W, hW, G, P, Z⟩ := Lt.box1 w 28 #[.int .i64 0, .int .i64 x, .int .i64 z]
  have HT := Lib.hid (h.grow G)
  have HK := Lib.hid (Keeps.of_only G (fun k hk => by cases hk) : Keeps (Lt.Ft b A n c) w W)
  obtain ⟨X, h⟩ := h
  have h1 := h.grown G
  have HC := Lib.hid (Lt.raise_no b n x z o W h1.brd hx)
  obtain ⟨x0, x1, x2⟩ := Lt.box3c P
  clear h h1 G P
  by_cases i1 : 1 ≤ x
  · have i2 : ¬ x ≤ (n : Int) := fun e => hx ⟨i1, e⟩
    clear hx
    go_enter Try.func7, Try.ntmps7
    go_upto_region 1 with (fail)
    rw [← hW]
    clear hW
    go_wp2_with (go_at_call 10; (with_reducible refine HC.out.mono ?_); rintro e w2 ⟨rfl, rfl⟩)
    go_ret
    exact ⟨by first | rfl | (simp; done), HT.out, HK.out⟩
  · clear hx
    go_enter Try.func7, Try.ntmps7
    go_upto_region 1 with (fail)
    rw [← hW]
    clear hW
    go_wp2_with (go_at_call 10; (with_reducible refine HC.out.mono ?_); rintro e w2 ⟨rfl, rfl⟩)
    go_ret
    exact ⟨by first | rfl | (simp; done), HT.out, HK.out⟩
set_option maxRecDepth 20000 in
set_option maxHeartbeats 3200000 in
theorem Lt.step_open_no {w : World} {b : Nat} {A : Option Addr} {n c J : Nat} {o : Nat → Nat × Nat} (h : Lt.Two w b A n c J o) (x z : Int) (hx : ¬ (1 ≤ x ∧ x ≤ n)) : Calls Try.prog 7 #[.pointer (some ⟨b, 0, none⟩), .slice A n c, .agg #[.int .i64 1, .int .i64 x, .int .i64 z]] w fun e w' => e = .returned (.bool true) ∧ Lt.Two w' b A n c (J + 1) o ∧ Keeps (Lt.Ft b A n c) w w' := by
  obtain ⟨W, hW, G, P, Z⟩ := Lt.box1 w 28 #[.int .i64 1, .int .i64 x, .int .i64 z]
  have HT := Lib.hid (h.grow G)
  have HK := Lib.hid (Keeps.of_only G (fun k hk => by cases hk) : Keeps (Lt.Ft b A n c) w W)
  obtain ⟨X, h⟩ := h
  have h1 := h.grown G
  have HC := Lib.hid (Lt.open_no b n x o W h1.brd hx)
  obtain ⟨x0, x1, x2⟩ := Lt.box3c P
  clear h h1 G P
  by_cases i1 : 1 ≤ x
  · have i2 : ¬ x ≤ (n : Int) := fun e => hx ⟨i1, e⟩
    clear hx
    go_enter Try.func7, Try.ntmps7
    go_upto_region 1 with (fail)
    rw [← hW]
    clear hW
    go_wp2_with (go_at_call 11; (with_reducible refine HC.out.mono ?_); rintro e w2 ⟨rfl, rfl⟩)
    go_ret
    exact ⟨by first | rfl | (simp; done), HT.out, HK.out⟩
  · clear hx
    go_enter Try.func7, Try.ntmps7
    go_upto_region 1 with (fail)
    rw [← hW]
    clear hW
    go_wp2_with (go_at_call 11; (with_reducible refine HC.out.mono ?_); rintro e w2 ⟨rfl, rfl⟩)
    go_ret
    exact ⟨by first | rfl | (simp; done), HT.out, HK.out⟩
set_option maxRecDepth 20000 in
set_option maxHeartbeats 3200000 in
theorem Lt.step_take_no {w : World} {b : Nat} {A : Option Addr} {n c J : Nat} {o : Nat → Nat × Nat} (h : Lt.Two w b A n c J o) (x z : Int) (hx : ¬ (1 ≤ x ∧ x ≤ n)) (kd : Int) (hk0 : kd ≠ 0) (hk1 : kd ≠ 1) : Calls Try.prog 7 #[.pointer (some ⟨b, 0, none⟩), .slice A n c, .agg #[.int .i64 kd, .int .i64 x, .int .i64 z]] w fun e w' => e = .returned (.bool true) ∧ Lt.Two w' b A n c (J + 1) o ∧ Keeps (Lt.Ft b A n c) w w' := by
  obtain ⟨W, hW, G, P, Z⟩ := Lt.box1 w 28 #[.int .i64 kd, .int .i64 x, .int .i64 z]
  have HT := Lib.hid (h.grow G)
  have HK := Lib.hid (Keeps.of_only G (fun k hk => by cases hk) : Keeps (Lt.Ft b A n c) w W)
  obtain ⟨X, h⟩ := h
  have h1 := h.grown G
  have HC := Lib.hid (Lt.take_no b n x o W h1.brd hx)
  obtain ⟨x0, x1, x2⟩ := Lt.box3c P
  have n0 : (kd == 0) = false := by simpa using hk0
  have n1 : (kd == 1) = false := by simpa using hk1
  clear hk0 hk1
  clear h h1 G P
  by_cases i1 : 1 ≤ x
  · have i2 : ¬ x ≤ (n : Int) := fun e => hx ⟨i1, e⟩
    clear hx
    go_enter Try.func7, Try.ntmps7
    go_upto_region 1 with (fail)
    rw [← hW]
    clear hW
    go_wp2_with (go_at_call 12; (with_reducible refine HC.out.mono ?_); rintro e w2 ⟨rfl, rfl⟩)
    go_ret
    exact ⟨by first | rfl | (simp; done), HT.out, HK.out⟩
  · clear hx
    go_enter Try.func7, Try.ntmps7
    go_upto_region 1 with (fail)
    rw [← hW]
    clear hW
    go_wp2_with (go_at_call 12; (with_reducible refine HC.out.mono ?_); rintro e w2 ⟨rfl, rfl⟩)
    go_ret
    exact ⟨by first | rfl | (simp; done), HT.out, HK.out⟩
set_option maxRecDepth 20000 in
set_option maxHeartbeats 3200000 in
theorem Lt.step_arg {w : World} {b : Nat} {A : Option Addr} {n c J : Nat} {o : Nat → Nat × Nat} (h : Lt.Two w b A n c J o) (i : Nat) (hi : i < n) (z : Int) (hz : ¬ (0 ≤ z ∧ z ≤ 255)) : Calls Try.prog 7 #[.pointer (some ⟨b, 0, none⟩), .slice A n c, .agg #[.int .i64 0, .int .i64 ((i : Int) + 1), .int .i64 z]] w fun e w' => e = .returned (.bool true) ∧ Lt.Two w' b A n c (J + 1) o ∧ Keeps (Lt.Ft b A n c) w w' := by
  obtain ⟨W, hW, G, P, Z⟩ := Lt.box1 w 28 #[.int .i64 0, .int .i64 ((i : Int) + 1), .int .i64 z]
  have HT := Lib.hid (h.grow G)
  have HK := Lib.hid (Keeps.of_only G (fun k hk => by cases hk) : Keeps (Lt.Ft b A n c) w W)
  obtain ⟨X, h⟩ := h
  have h1 := h.grown G
  have HC := Lib.hid (Lt.raise_arg b n i z o W h1.brd hi hz)
  obtain ⟨x0, x1, x2⟩ := Lt.box3c P
  have i1 : (1 : Int) ≤ (i : Int) + 1 := by omega
  have i2 : (i : Int) + 1 ≤ (n : Int) := by omega
  clear h h1 G P hi
  by_cases y0 : z < 0
  · clear hz
    go_enter Try.func7, Try.ntmps7
    go_upto_region 1 with (fail)
    rw [← hW]
    clear hW
    go_wp2_with (go_at_call 10; (with_reducible refine HC.out.mono ?_); rintro e w2 ⟨rfl, rfl⟩)
    go_ret
    exact ⟨by first | rfl | (simp; done), HT.out, HK.out⟩
  · have y1 : 255 < z := by omega
    clear hz
    go_enter Try.func7, Try.ntmps7
    go_upto_region 1 with (fail)
    rw [← hW]
    clear hW
    go_wp2_with (go_at_call 10; (with_reducible refine HC.out.mono ?_); rintro e w2 ⟨rfl, rfl⟩)
    go_ret
    exact ⟨by first | rfl | (simp; done), HT.out, HK.out⟩
theorem Lt.step_any {w : World} {b : Nat} {A : Option Addr} {n c J : Nat} {o : Nat → Nat × Nat} (h : Lt.Two w b A n c J o) (hJ : J ≤ 900) (d : Lt.Ded) : Calls Try.prog 7 #[.pointer (some ⟨b, 0, none⟩), .slice A n c, .agg #[.int .i64 d.1, .int .i64 d.2.1, .int .i64 d.2.2]] w fun e w' => e = .returned (.bool true) ∧ Lt.Two w' b A n c (J + 1) (Lt.deedO n o d) ∧ Keeps (Lt.Ft b A n c) w w' := by
  obtain ⟨kd, x, z⟩ := d
  show Calls Try.prog 7 #[.pointer (some ⟨b, 0, none⟩), .slice A n c, .agg #[.int .i64 kd, .int .i64 x, .int .i64 z]] w _
  by_cases h0 : kd = 0
  · subst h0
    have e : Lt.deedO n o (0, x, z) = Lt.raiseO n o x z := by unfold Lt.deedO; rw [if_pos rfl]
    rw [e]
    by_cases hx : Lt.isO n x
    · by_cases hz : 0 ≤ z ∧ z ≤ 255
      · have e2 : Lt.raiseO n o x z = Lt.upd o (Lt.idx x) ((o (Lt.idx x)).1 ||| z.toNat, (o (Lt.idx x)).2) := by unfold Lt.raiseO; rw [if_pos ⟨hx, hz⟩]
        rw [e2]
        obtain ⟨i, hi, rfl, he⟩ := Lt.is_at hx
        rw [he]
        obtain ⟨y, rfl⟩ : ∃ y : Nat, z = y := ⟨z.toNat, by omega⟩
        exact Lt.step_raise h hJ i hi y (by omega)
      · have e2 : Lt.raiseO n o x z = o := by unfold Lt.raiseO; rw [if_neg (fun q => hz q.2)]
        rw [e2]
        obtain ⟨i, hi, rfl, he⟩ := Lt.is_at hx
        exact Lt.step_arg h i hi z hz
    · have e2 : Lt.raiseO n o x z = o := by unfold Lt.raiseO; rw [if_neg (fun q => hx q.1)]
      rw [e2]
      exact Lt.step_raise_no h x z hx
  · by_cases h1 : kd = 1
    · subst h1
      have e : Lt.deedO n o (1, x, z) = Lt.openO n o x := by unfold Lt.deedO; rw [if_neg (by simp), if_pos rfl]
      rw [e]
      unfold Lt.openO
      by_cases hx : Lt.isO n x
      · rw [if_pos hx]
        obtain ⟨i, hi, rfl, he⟩ := Lt.is_at hx
        rw [he]
        exact Lt.step_open h hJ i hi z
      · rw [if_neg hx]
        exact Lt.step_open_no h x z hx
    · have e : Lt.deedO n o (kd, x, z) = Lt.takeO n o x := by unfold Lt.deedO; rw [if_neg h0, if_neg h1]
      rw [e]
      unfold Lt.takeO
      by_cases hx : Lt.isO n x
      · rw [if_pos hx]
        obtain ⟨i, hi, rfl, he⟩ := Lt.is_at hx
        rw [he]
        exact Lt.step_take h hJ i hi kd z h0 h1
      · rw [if_neg hx]
        exact Lt.step_take_no h x z hx kd h0 h1
theorem Lt.quiet_ld {ops : Array Oper} {C : World → Prop} {Q : Act → Prop} {a : Act} {o : Oper} {rest : List Oper} (p : Operand) (ho : o.op = Op.load 46 p) {b f : Nat} {cs : Array Value} (hw : Region.wanted o (yielded ops a.tmps) = true) (hp : a.eval p = .pointer (some ⟨b, f, none⟩)) (hr : ∀ w, C w → (Instr.loadAt 46 (.pointer (some ⟨b, f, none⟩))).run Try.prog w = .ok (.agg cs) w) (h : wpQuiet Try.prog ops C Q rest (a.put o.dst (.agg cs))) : wpQuiet Try.prog ops C Q (o :: rest) a := by
  refine wpQuiet_step (fun K hK => ?_)
  rw [if_pos hw]
  refine ⟨.agg cs, fun w hC => ?_, hK _ h⟩
  unfold Oper.quietAt
  simp [execOp, ho, hp, hr w hC, Result.andThen, Oper.quietUpon]
set_option maxRecDepth 20000 in
set_option maxHeartbeats 3200000 in
theorem Lt.told_any {w : World} {b : Nat} {A : Option Addr} {n c J : Nat} {o : Nat → Nat × Nat} (h : Lt.Two w b A n c J o) : Calls Try.prog 8 #[.pointer (some ⟨b, 0, none⟩), .slice A n c] w fun e w' => e = .returned (.bool true) ∧ Below w.heap.size w w' := by
  obtain ⟨X, h⟩ := h
  have HA := Lib.hid (show ∀ i, i < n → ∃ g off, A = some ⟨g, off, none⟩ ∧ g < w.heap.size from fun i hi => Lt.len_form h.row hi)
  have HH := Lib.hid (fun (W : World) (k : Below w.heap.size w W) => h.keeps (Keeps.of_below k (fun _ => False)) (fun x => x) (fun _ _ x => x))
  have HC := Lib.hid h.brd.cnt
  clear h
  go_enter Try.func8, Try.ntmps8
  go_wp2
  go_loopw [5] (fun y wr => ∃ k : Nat, y = .int .i64 k ∧ k ≤ n ∧ Hid (Below w.heap.size w wr)) (fun y _ => n - (intOf y).toNat)
  case atStart => exact ⟨0, rfl, Nat.zero_le _, Lib.hid (Below.refl _ _)⟩
  case round =>
    obtain ⟨k, rfl, hk, HB⟩ := hrel
    have i0 : (0 : Int) ≤ (k : Int) := by omega
    have u1 : IntKind.i64.wrap ((k : Int) + 1) = (k : Int) + 1 := by rw [IntKind.wrap_i64]; have := HC.out; omega
    by_cases hin : k < n
    · have i1 : (k : Int) < (n : Int) := by omega
      obtain ⟨g, off, rfl, hg⟩ := HA.out k hin
      have HT := Lib.hid (fun d os => HH.out _ (HB.out.trans ((below_regrown wr d os).mono HB.out.size)))
      have HL := Lib.hid (fun d os => Lt.run_ld (grow (redrawn wr d) os) g (off + k * 16) (Lt.rowC (X k).1 (X k).2) (Lt.rowC_size _ _) (Lt.row_cells (HT.out d os).row hin).1)
      have H1 := Lib.hid (fun d os => Lt.latched_yes b n k o _ (HT.out d os).brd hin)
      have H2 := Lib.hid (fun d os => Lt.rlatched_any J (o k).1 (o k).2 (X k).1 (X k).2 (grow (redrawn wr d) os) ((HT.out d os).rel k hin))
      have H3 := Lib.hid (fun d os => Lt.delivered_yes b n k o _ (HT.out d os).brd hin)
      have H4 := Lib.hid (fun d os => Lt.rdelivered_any J (o k).1 (o k).2 (X k).1 (X k).2 (grow (redrawn wr d) os) ((HT.out d os).rel k hin))
      obtain ⟨cs, hcs⟩ : ∃ cs, cs = Lt.rowC (X k).1 (X k).2 := ⟨_, rfl⟩
      rw [← hcs] at HL H2 H4
      have KI := Lib.hid (show k + 1 ≤ n from hin)
      clear hcs hg
      generalize (o k).1 = p at *
      generalize (o k).2 = q at *
      go_wp2
      refine wp_region_quiet_below (by kernel_rfl) (by kernel_rfl) ?_
      repeat (first
        | (refine Lt.quiet_ld (o := ⟨some 19, .load 46 (.tmp 18), _, _, _, _⟩) (.tmp 18) rfl (b := g) (f := off + k * 16) (cs := cs) (by rfl) (by rfl) (by rintro _ ⟨⟨d, os⟩, rfl⟩; exact HL.out d os) ?_)
        | (refine Lt.quiet_ld (o := ⟨some 30, .load 46 (.tmp 29), _, _, _, _⟩) (.tmp 29) rfl (b := g) (f := off + k * 16) (cs := cs) (by first | rfl | simp [Region.wanted, yielded]) (by rfl) (by rintro _ ⟨⟨d, os⟩, rfl⟩; exact HL.out d os) ?_)
        | (quiet_step ((first
          | (go_at_call 13; with_reducible exact Calls.regrown_of ((H1.out _ _).mono fun _ _ ⟨h1, h2⟩ => ⟨h1, h2 ▸ Below.refl _ _⟩))
          | (go_at_call 19; with_reducible exact Calls.regrown_of ((H2.out _ _).mono fun _ _ ⟨h1, h2⟩ => ⟨h1, below_of_only h2 (Nat.le_refl _) (by simp)⟩))
          | (go_at_call 14; with_reducible exact Calls.regrown_of ((H3.out _ _).mono fun _ _ ⟨h1, h2⟩ => ⟨h1, h2 ▸ Below.refl _ _⟩))
          | (go_at_call 20; with_reducible exact Calls.regrown_of ((H4.out _ _).mono fun _ _ ⟨h1, h2⟩ => ⟨h1, below_of_only h2 (Nat.le_refl _) (by simp)⟩))))))
      refine wpQuiet_nil ?_
      rintro _ ⟨⟨dq, osq⟩, rfl⟩
      have hb2 := HB.out.trans ((below_regrown wr dq osq).mono HB.out.size)
      generalize grow (redrawn wr dq) osq = w2 at hb2 ⊢
      have HB2 := Lib.hid hb2
      clear hb2
      go_wp2
      go_roundw
      case rel => exact ⟨k + 1, by go_num, KI.out, HB2⟩
      case measure =>
        have := KI.out
        simp [intOf]
        omega
    · obtain rfl : k = n := by omega
      have HB0 := Lib.hid (HH.out wr HB.out)
      have HZ := Lib.hid (Lt.latched_no b k 0 o wr HB0.out.brd (by omega))
      have HD := Lib.hid (Lt.delivered_no b k ((k : Int) + 1) o wr HB0.out.brd (by omega))
      go_wp2_with (first
        | (go_at_call 13; (with_reducible refine HZ.out.mono ?_); rintro e w3 ⟨rfl, rfl⟩)
        | (go_at_call 14; (with_reducible refine HD.out.mono ?_); rintro e w3 ⟨rfl, rfl⟩))
      go_ret
      exact ⟨by first | rfl | (simp; done), HB.out⟩
end Go.Proofs.Ytbbgijjeimjgoaa
