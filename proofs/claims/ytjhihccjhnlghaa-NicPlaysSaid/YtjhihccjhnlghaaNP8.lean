/- A device of package nic: Come, where a port has the address. -/
import Derived.Test.YtjhihccjhnlghaaNP7
namespace Go.Proofs.Ytjhihccjhnlghaa
open Go.RowKit Go.Lib
set_option linter.unusedVariables false

/-- What a push makes of the frames and of the drops. -/
def pshL (l : List Frm) (lim : Nat) (x : Frm) : List Frm := if l.length < lim then l ++ [x] else l
def pshD (l : List Frm) (lim dr : Nat) : Nat := if l.length < lim then dr else dr + 1
theorem fpush_any {w : World} {b : Nat} {v : Value} {l : List Frm} {lim dr : Nat} (x : Frm) (h : QueF w b v l lim dr) (hn : l.length ≤ 1000000) (hd : dr ≤ 1000000) :
    Calls Try.prog 31 #[.pointer (some ⟨b, 0, none⟩), frv x] w fun e w' => e = .returned (.bool (decide (l.length < lim))) ∧ QueFN w b v lim w' (pshL l lim x) (pshD l lim dr) := by
  unfold pshL pshD
  by_cases hl : l.length < lim
  · rw [if_pos hl, if_pos hl, decide_eq_true hl]
    exact fpush_on x h hl hn
  · rw [if_neg hl, if_neg hl, decide_eq_false hl]
    exact fpush_off x h (by omega) hd
/-- The queue of a port. -/
theorem run_fld (q : Nat) (t : Int) (w : World) : (Instr.field 70 (.agg #[.pointer (some ⟨q, 0, none⟩), .int .i64 t]) 0).run Try.prog w = .ok (.pointer (some ⟨q, 0, none⟩)) w := by kernel_rfl
section
variable {w : World} {d m : Nat} {lv : Value} {odd : Int} {S : List Frm} {G : List Gp}
set_option maxRecDepth 20000 in
set_option maxHeartbeats 1600000 in
theorem ncome_hit {A C : List Gp} {g : Gp} (s : ByteArray) (hs : s.size ≤ 1000) (h : NicG w d m lv odd S (A ++ g :: C)) (he : (Fr.paV s).2 = 0) (hm : (Fr.paV s).1.1 = g.mac) (hl : g.l.length ≤ 1000000) (hd : g.dr ≤ 1000000) :
    Calls Try.prog 16 #[.pointer (some ⟨d, 0, none⟩), .string s] w fun e w' => e = .returned (.tuple #[.int .i64 g.o, .bool (decide (g.l.length < g.lim))]) ∧
      NicN w d m lv (A ++ g :: C) w' odd S (updS ((A ++ g :: C).map Gp.sp) g.o fun x => (x.1, x.2.1, x.2.2.1, pshL g.l g.lim (Fr.paV s).1, pshD g.l g.lim g.dr)) := by
  have hpa := fun W => parse_any s W hs
  have hg : g ∈ A ++ g :: C := by simp
  have how := fun W (hW : NicG W d m lv odd S (A ++ g :: C)) => nown_any g.mac hW.1 hW.2.1 hW.owners hW.macs
  rw [show ownL ((A ++ g :: C).map Gp.row) g.mac = g.row.1 from ownL_in (x := g.row) (List.mem_map.2 ⟨g, hg, rfl⟩) rfl h.macs] at how
  have hpu := fun W (hW : NicG W d m lv odd S (A ++ g :: C)) => fpush_any (Fr.paV s).1 (hW.2.2.2.1 g hg).1 hl hd
  have hgo := h.fit hg
  have hlk := h.look
  obtain ⟨⟨⟨t, f, x⟩, e0⟩, hv⟩ : ∃ v, v = Fr.paV s := ⟨_, rfl⟩
  rw [← hv] at hpa he hm hpu ⊢
  simp only at hpa he hm hpu ⊢
  subst he
  rw [← hm] at how
  obtain ⟨yes, hyes⟩ : ∃ y, y = decide (g.l.length < g.lim) := ⟨_, rfl⟩
  rw [← hyes] at hpu ⊢
  have hz : g.row.1 = g.o := rfl
  obtain ⟨o, ho⟩ : ∃ o, o = g.o := ⟨_, rfl⟩
  rw [hz, ← ho] at how
  have hlk' : lookL ((A ++ g :: C).map Gp.row) o = some (g.o, some g.q, t) := by rw [ho, hm]; exact hlk
  have hfo : fitI o := by unfold fitI; omega
  rw [← ho] at hgo ⊢
  have HOE := Lib.hid ho
  have HP := Lib.hid hpa
  have HO := Lib.hid how
  have HU := Lib.hid hpu
  have H := Lib.hid h
  have HLK := Lib.hid hlk'
  have hne : o ≠ 0 := by omega
  clear hpa how hpu h hyes hz hlk hlk' hv hgo ho hl hd hm
  go_enter Try.func16, Try.ntmps16
  go_wp2_with (first
    | (go_at_call 30; with_reducible refine (HP.out _).mono ?_; rintro e w1 ⟨rfl, b1⟩; have B1 := Lib.hid b1; have H1 := Lib.hid (H.out.below b1); have R1 := Lib.hid (Blk.new w1 46 #[.int .i64 t, .int .i64 f, .string x]); have c1 := R1.out.cell 0; clear b1)
    | (go_at_call 23; have HH := HO.out _ (H1.out.below ((Below.refl _ _).alloc (Nat.le_refl _) (.cells #[.int .i64 t, .int .i64 f, .string x] 46))); refine HH.mono ?_; clear HH; rintro e w2 ⟨rfl, g2⟩; have H2 := Lib.hid ((H1.out.below ((Below.refl _ _).alloc (Nat.le_refl _) (.cells #[.int .i64 t, .int .i64 f, .string x] 46))).grown g2); have B2 := Lib.hid (B1.out.trans (below_of_only (only_trans (only_alloc (only_refl w1 none) (.cells #[.int .i64 t, .int .i64 f, .string x] 46)) g2) B1.out.size (by simp))); have R2 := Lib.hid (R1.out.only g2 (by simp)); clear g2))
  have H3 : Hid (NicG w2.drew d m lv odd S (A ++ g :: C)) := Lib.hid (H2.out.grown (only_drewN (only_refl w2 none) 1))
  have hfld := run_fld g.q t
  have hrun := run_look_at H3.out.2.1 hfo HLK.out
  have c0 : w2.cell? ⟨d, 0, none⟩ = some (.map (some m)) := H2.out.1.cell 0
  have e0 : w2.cell? ⟨w1.heap.size, 0, none⟩ = some (.int .i64 t) := R2.out.cell 0
  have e1 : w2.cell? ⟨w1.heap.size, 1, none⟩ = some (.int .i64 f) := R2.out.cell 1
  have e2 : w2.cell? ⟨w1.heap.size, 2, none⟩ = some (.string x) := R2.out.cell 2
  have S5 : Hid (∀ w5 l' dr', QueFN w2.drew g.q g.v g.lim w5 l' dr' → w5.cell? ⟨d, 0, none⟩ = some (.map (some m)) ∧ w5.cell? ⟨w1.heap.size, 0, none⟩ = some (.int .i64 t) ∧ w5.cell? ⟨w1.heap.size, 1, none⟩ = some (.int .i64 f) ∧ w5.cell? ⟨w1.heap.size, 2, none⟩ = some (.string x)) := Lib.hid fun w5 l' dr' hQ => by
    have hd5 := hQ.box H3.out.1 (fun e => (H3.out.2.2.2.2.2.2.1 g hg d e).1 rfl)
    have hx5 := hQ.box (R2.out.drewN 1) (fun e => by have := (H1.out.2.2.2.1 g hg).1.lt _ e; omega)
    exact ⟨hd5.cell 0, hx5.cell 0, hx5.cell 1, hx5.cell 2⟩
  clear R1 R2 c1
  go_region_held3 (fun w' => w'.cell? ⟨d, 0, none⟩ = some (.map (some m)) ∧ w'.cell? ⟨w1.heap.size, 0, none⟩ = some (.int .i64 t) ∧ w'.cell? ⟨w1.heap.size, 1, none⟩ = some (.int .i64 f) ∧ w'.cell? ⟨w1.heap.size, 2, none⟩ = some (.string x))
    (first | exact ⟨c0, e0, e1, e2⟩ | exact S5.out _ _ _ HQ.out | go_keep) (first | (go_at_call 31; with_reducible refine (HU.out _ H3.out).mono ?_; rintro e w5 ⟨rfl, hQ⟩; have HQ := Lib.hid hQ; clear hQ))
  all_goals
    go_wp2
    go_ret2
    have fin := (NicG.seat H3.out HQ.out).from (show Below w.heap.size w w2.drew from below_drewN B2.out 1)
    rw [← HOE.out] at fin
    exact ⟨rfl, fin⟩
end
end Go.Proofs.Ytjhihccjhnlghaa
