import Derived.Test.YthhodadfiipffaaDoorZ19
import Derived.LoopTactic
import Derived.BigQuiet
import Derived.Deep.RegionWith
import Derived.Test.YthhodadfiipffaaDoorZ15
import Derived.Test.YthhodadfiipffaaDoorZ03
import Derived.ProofKit
import Derived.LaidMore
import Derived.OpenShut
import Derived.ShutString
import Derived.ChangeOld
import Derived.Stop.Joined
import Derived.Lib.SmallJoins
import Derived.Test.YthhodadfiipffaaDoorZ02
set_option linter.all false
/- Package part: rows of marks held against each other. -/
namespace Go.Proofs.YthhodadfiipffaaDoor
open Go.RowKit Go.Lib
set_option linter.unusedVariables false
set_option maxRecDepth 20000

theorem Pt.neq_mk (t s a b n : Int) (d : ByteArray) (w : World) : (binOp BinOp.neq 73 (.agg #[.int .i64 t, .int .u8 s, .int .i64 a, .int .i64 b, .int .i64 n, .string d]) (.agg #[.int .i64 t, .int .u8 s, .int .i64 a, .int .i64 b, .int .i64 n, .string d])).run Tryd.prog w = .ok (.bool false) w := by
  rw [run_neq_struct, run_equalIn_agg w 9999 _ _ _ (by kernel_rfl) (by kernel_rfl)]
  have hf : (Tryd.prog.fieldsOf 73).toList.map (fun f => (f.name, f.type, f.offset)) = [("Tick", 3, 0), ("Sort", 71, 1), ("A", 3, 2), ("B", 3, 3), ("N", 3, 4), ("Data", 9, 5)] := by kernel_rfl
  generalize (Tryd.prog.fieldsOf 73).toList = fs at hf
  have hlen := congrArg List.length hf
  simp only [List.length_map, List.length_cons, List.length_nil] at hlen
  obtain ⟨f0, f1, f2, f3, f4, f5, rfl⟩ : ∃ f0 f1 f2 f3 f4 f5, fs = [f0, f1, f2, f3, f4, f5] := by
    match fs, hlen with
    | [f0, f1, f2, f3, f4, f5], _ => exact ⟨f0, f1, f2, f3, f4, f5, rfl⟩
  simp only [List.map_cons, List.map_nil, List.cons.injEq, Prod.mk.injEq, and_true] at hf
  obtain ⟨⟨p0, q0, r0⟩, ⟨p1, q1, r1⟩, ⟨p2, q2, r2⟩, ⟨p3, q3, r3⟩, ⟨p4, q4, r4⟩, ⟨p5, q5, r5⟩⟩ := hf
  simp [Op.eqFields, p0, q0, r0, p1, q1, r1, p2, q2, r2, p3, q3, r3, p4, q4, r4, p5, q5, r5, part, run_equalIn_int _ _ _ _ _ _ _ Tryd.underlying3, run_equalIn_int _ _ _ _ _ _ _ Tryd.underlying71, run_equalIn_string _ _ _ _ _ Tryd.underlying9, go_sem]
/-- Marks in a slice. -/
def Pt.MkR (w : World) (v : Value) (l : List Pt.Mk) : Prop := ∃ A c, v = .slice A l.length c ∧ l.length ≤ 1000 ∧ (0 < l.length → ∃ b off, A = some ⟨b, off, none⟩ ∧ b < w.heap.size ∧ ∀ (i : Nat) (x : Pt.Mk), l[i]? = some x → ∀ (j : Nat) u, (Pt.mc x)[j]? = some u → w.cell? ⟨b, off + i * 6 + j, none⟩ = some u)
theorem Pt.Mks.row {B : Nat} {w : World} {v : Value} {l : List Pt.Mk} (h : Pt.Mks B w v l) : Pt.MkR w v l := by
  obtain ⟨A, c, h1, h2, h3, h4⟩ := h
  refine ⟨A, c, h1, by omega, fun hp => ?_⟩
  obtain ⟨b, off, e1, e2, e3, e4⟩ := h4 hp
  exact ⟨b, off, e1, e3, e4⟩
theorem Pt.mk_cells {w : World} {A : Option Addr} {n c : Nat} {l : List Pt.Mk} (h : Pt.MkR w (.slice A n c) l) {i : Nat} {x : Pt.Mk} (hx : l[i]? = some x) : ∃ g o, A = some ⟨g, o, none⟩ ∧ g < w.heap.size ∧ ∀ j u, (Pt.mc x)[j]? = some u → w.cell? ⟨g, o + i * 6 + j, none⟩ = some u := by
  obtain ⟨A', c', e, h2, h4⟩ := h
  injection e with e1 e2 e3
  obtain ⟨b, o, k1, k3, k4⟩ := h4 (by have := (List.getElem?_eq_some_iff.1 hx).1; omega)
  exact ⟨b, o, by rw [e1, k1], k3, k4 i x hx⟩
set_option maxHeartbeats 12800000 in
theorem Pt.rsame_any (w : World) (v1 v2 : Value) (l : List Pt.Mk) (h1 : Pt.MkR w v1 l) (h2 : Pt.MkR w v2 l) : Calls Tryd.prog 17 #[v1, v2] w fun e w' => e = .returned (.bool true) ∧ w.grownBy w' none := by
  obtain ⟨A1, c1, rfl, hl1, _⟩ := id h1
  obtain ⟨A2, c2, rfl, hl2, _⟩ := id h2
  obtain ⟨n, hn⟩ : ∃ n, l.length = n := ⟨_, rfl⟩
  have HN := Lib.hid (show l.length = n ∧ n ≤ 1000 from ⟨hn, by omega⟩)
  rw [hn] at h1 h2 ⊢
  have H1 := Lib.hid h1
  have H2 := Lib.hid h2
  clear h1 h2 hn hl1 hl2
  go_enter Tryd.func17, Tryd.ntmps17
  go_wp2
  go_loopw [5] (fun t wr => ∃ i : Nat, t = .int .i64 i ∧ i ≤ 1000 ∧ Hid (i ≤ n) ∧ Hid (w.grownBy wr none)) (fun t _ => 1000 - (Go.RowKit.intOf t).toNat)
  case atStart => exact ⟨0, rfl, by omega, Lib.hid (Nat.zero_le _), Lib.hid (only_refl _ none)⟩
  case round =>
    obtain ⟨i, rfl, hi9, HI, HG⟩ := hrel
    by_cases hin : i < n
    · obtain ⟨x, hx⟩ : ∃ x, l[i]? = some x := ⟨_, List.getElem?_eq_getElem (by have := HN.out.1; omega)⟩
      obtain ⟨g1, o1, rfl, hg1, k1⟩ := Pt.mk_cells H1.out hx
      obtain ⟨g2, o2, rfl, hg2, k2⟩ := Pt.mk_cells H2.out hx
      have HCS := Lib.hid (fun W (g : w.grownBy W none) => show W.cell? ⟨g1, o1 + i * 6, none⟩ = some (.int .i64 x.t) ∧ W.cell? ⟨g1, o1 + i * 6 + 1, none⟩ = some (.int .u8 x.s) ∧ W.cell? ⟨g1, o1 + i * 6 + 2, none⟩ = some (.int .i64 x.a) ∧ W.cell? ⟨g1, o1 + i * 6 + 3, none⟩ = some (.int .i64 x.b) ∧ W.cell? ⟨g1, o1 + i * 6 + 4, none⟩ = some (.int .i64 x.n) ∧ W.cell? ⟨g1, o1 + i * 6 + 5, none⟩ = some (.string x.d) ∧ W.cell? ⟨g2, o2 + i * 6, none⟩ = some (.int .i64 x.t) ∧ W.cell? ⟨g2, o2 + i * 6 + 1, none⟩ = some (.int .u8 x.s) ∧ W.cell? ⟨g2, o2 + i * 6 + 2, none⟩ = some (.int .i64 x.a) ∧ W.cell? ⟨g2, o2 + i * 6 + 3, none⟩ = some (.int .i64 x.b) ∧ W.cell? ⟨g2, o2 + i * 6 + 4, none⟩ = some (.int .i64 x.n) ∧ W.cell? ⟨g2, o2 + i * 6 + 5, none⟩ = some (.string x.d) from ⟨g.cell (k1 0 _ rfl) (by simp), g.cell (k1 1 _ rfl) (by simp), g.cell (k1 2 _ rfl) (by simp), g.cell (k1 3 _ rfl) (by simp), g.cell (k1 4 _ rfl) (by simp), g.cell (k1 5 _ rfl) (by simp), g.cell (k2 0 _ rfl) (by simp), g.cell (k2 1 _ rfl) (by simp), g.cell (k2 2 _ rfl) (by simp), g.cell (k2 3 _ rfl) (by simp), g.cell (k2 4 _ rfl) (by simp), g.cell (k2 5 _ rfl) (by simp)⟩)
      have i1 : (i : Int) < (n : Int) := by omega
      have i2 : i < n := hin
      have i3 : (0 : Int) ≤ (i : Int) := by omega
      have KK := Lib.hid (show i + 1 ≤ n ∧ i + 1 ≤ 1000 from ⟨hin, by have := HN.out.2; omega⟩)
      have u1 : IntKind.i64.wrap ((i : Int) + 1) = ((i + 1 : Nat) : Int) := by rw [IntKind.wrap_i64]; omega
      have hq1 : ∀ W, (binOp BinOp.neq 73 (.agg #[.int .i64 x.t, .int .u8 x.s, .int .i64 x.a, .int .i64 x.b, .int .i64 x.n, .string x.d]) (.agg #[.int .i64 x.t, .int .u8 x.s, .int .i64 x.a, .int .i64 x.b, .int .i64 x.n, .string x.d])).run Tryd.prog W = .ok (.bool false) W := fun W => Pt.neq_mk _ _ _ _ _ _ W
      obtain ⟨a0, a1, a2, a3, a4, a5, a6, a7, a8, a9, a10, a11⟩ := HCS.out _ HG.out
      clear k1 k2 hx hin hg1 hg2 HCS
      go_wp2
      go_quiet (fail)
      go_wp2
      go_roundw
      case rel => exact ⟨i + 1, by go_num, KK.out.2, Lib.hid KK.out.1, Lib.hid (only_drewN HG.out _)⟩
      case measure =>
        have := KK.out
        simp [Go.RowKit.intOf]
        omega
    · have i1 : ¬ (i : Int) < (n : Int) := by omega
      clear hin
      go_wp2
      go_ret
      exact ⟨rfl, HG.out⟩
end Go.Proofs.YthhodadfiipffaaDoor

/- Package part: two marks in a row. -/
namespace Go.Proofs.YthhodadfiipffaaDoor
open Go.RowKit Go.Lib
set_option linter.unusedVariables false
set_option maxRecDepth 8000

theorem Pt.m_info : (Tryd.prog.info? 73).map (fun i => (i.zero, i.size, i.bytes)) = some (some (.agg #[.int .i64 0, .int .u8 0, .int .i64 0, .int .i64 0, .int .i64 0, .string ⟨#[]⟩]), 6, 56) := by kernel_rfl
theorem Pt.mc_one (x : Pt.Mk) : ∀ u ∈ Pt.mc x, u.oneCell' = true := by
  intro u hu
  simp [Pt.mc] at hu
  rcases hu with rfl | rfl | rfl | rfl | rfl | rfl <;> rfl
theorem Pt.mk_row {w : World} {g : Nat} {x : Pt.Mk} (h : Blk w g 73 (Pt.mc x).toArray) : RowZ 6 w (.slice (some ⟨g, 0, none⟩) 1 1) 1 (Pt.mc x) :=
  ⟨rfl, .inr ⟨g, 0, 1, rfl, Nat.le_refl _, by unfold maxLen; omega, h.lt, fun j hj => ⟨by
    rw [Nat.zero_add, h.cell j]
    have : j < (Pt.mc x).length := by simpa [Pt.mc] using hj
    simp [this], by rw [Nat.zero_add]; exact h.free j⟩, fun j u hu => by
    rw [Nat.zero_add, h.cell j]
    simpa using hu⟩⟩
theorem Pt.two_row {w : World} {v : Value} {x y : Pt.Mk} (h : RowZ 6 w v 2 (Pt.mc x ++ Pt.mc y)) : Pt.MkR w v [x, y] := by
  rcases h.2 with ⟨_, hz⟩ | ⟨g, off, cap, rfl, k1, k2, k3, k4, k5⟩
  · omega
  · refine ⟨_, _, rfl, by simp, fun _ => ⟨g, off, rfl, k3, fun i z hz j u hu => ?_⟩⟩
    have hj : j < 6 := (List.getElem?_eq_some_iff.1 hu).1
    have hi : i < 2 := by simpa using (List.getElem?_eq_some_iff.1 hz).1
    rw [Nat.add_assoc]
    refine k5 (i * 6 + j) u ?_
    rcases (by omega : i = 0 ∨ i = 1) with rfl | rfl
    · injection hz with hz
      subst hz
      rw [show 0 * 6 + j = j by omega, List.getElem?_append_left (by simpa [Pt.mc] using hj)]
      exact hu
    · injection hz with hz
      subst hz
      rw [List.getElem?_append_right (by simp [Pt.mc]), show 1 * 6 + j - (Pt.mc x).length = j by simp [Pt.mc]]
      exact hu
theorem Pt.app_mk (w : World) (g1 g2 : Nat) (x y : Pt.Mk) (b1 : Blk w g1 73 (Pt.mc x).toArray) (b2 : Blk w g2 73 (Pt.mc y).toArray) : ∃ v' w', (Builtin.append_ #[50, 50] 50 #[.slice (some ⟨g1, 0, none⟩) 1 1, .slice (some ⟨g2, 0, none⟩) 1 1]).run Tryd.prog w = .ok v' w' ∧ Pt.MkR w' v' [x, y] ∧ w.grownBy w' (some g1) ∧ (v'.ownBlock = some g1 ∨ v'.ownBlock = some w.heap.size) := by
  obtain ⟨i0, hi, hz, hsz, hby⟩ : ∃ i, Tryd.prog.info? 73 = some i ∧ i.zero = some (.agg #[.int .i64 0, .int .u8 0, .int .i64 0, .int .i64 0, .int .i64 0, .string ⟨#[]⟩]) ∧ i.size = 6 ∧ i.bytes = 56 := by
    have h := Pt.m_info
    cases hq : Tryd.prog.info? 73 with
    | none => rw [hq] at h; cases h
    | some i =>
      rw [hq] at h
      injection h with h
      injection h with h1 h
      injection h with h2 h3
      exact ⟨i, rfl, h1, h2, h3⟩
  have hsrc : Src Tryd.prog 6 50 (.slice (some ⟨g2, 0, none⟩) 1 1) 1 (Pt.mc y) w := Src.ofSlice _ Tryd.underlying50 _ _ _ _ (by simp [Pt.mc]) (fun k u hu => by
    rw [addr_at, Nat.zero_add, b2.cell k]
    simpa using hu) (Pt.mc_one y)
  obtain ⟨v', w2, hk, hr, hg, ho⟩ := run_pushZ (P := Tryd.prog) w 50 73 50 i0 _ 56 Tryd.underlying50 hi hz hsz hby (by omega) rfl _ _ _ (Pt.mk_row b1) (Pt.mc_one x) _ _ hsrc (by omega)
  exact ⟨v', w2, hk, Pt.two_row hr, hg, ho⟩
end Go.Proofs.YthhodadfiipffaaDoor

/- Package part: Open of a partition, walked. -/
namespace Go.Proofs.YthhodadfiipffaaDoor
open Go.RowKit Go.Lib
set_option linter.unusedVariables false
set_option maxRecDepth 20000

/-- What Open leaves. -/
def Pt.OpenV (w : World) (B b m g : Nat) (p V q : List UInt8) (ow pc : Int) (r : Nat → Int) (md : Int) (l : List Pt.Mk) (e : Ending) (w' : World) : Prop :=
  ∃ v, e = .returned v ∧ Pt.MkR w' v l ∧ Pt.Q w' B b m g p V q ow pc r md ∧ Pt.Kp b g w w' ∧ ∀ i, v.ownBlock = some i → w.heap.size ≤ i
theorem Pt.kp_put {w w1 w2 w3 : World} {b g : Nat} (g1 : w.grownBy w1 none) (g2 : w1.grownBy w2 (some b)) (g3 : w2.grownBy w3 none) : Pt.Kp b g w w3 := by
  have s1 := g1.size
  have s2 := g2.size
  have s3 := g3.size
  exact ⟨g3.os.trans (g2.os.trans g1.os), g3.tape.trans (g2.tape.trans g1.tape), g3.output.trans (g2.output.trans g1.output), by omega, fun i hi h1 h2 => (g3.block i (by omega) (by simp)).trans ((g2.block i (by omega) (fun e => by injection e with e; exact h1 e)).trans (g1.block i hi (by simp)))⟩
theorem Pt.grow_box {w w' w2 : World} {b : Nat} (h : w.grownBy w' none) (g : w'.grownBy w2 (some b)) (hb : w.heap.size ≤ b) : w.grownBy w2 none :=
  ⟨g.os.trans h.os, g.tape.trans h.tape, g.output.trans h.output, Nat.le_trans h.size g.size, fun i hi hn => (g.block i (Nat.lt_of_lt_of_le hi h.size) (fun e => by injection e with e; omega)).trans (h.block i hi hn)⟩
theorem Pt.one_row {w : World} {g : Nat} {x : Pt.Mk} (h : Blk w g 73 (Pt.mc x).toArray) : Pt.MkR w (.slice (some ⟨g, 0, none⟩) 1 1) [x] :=
  ⟨_, 1, rfl, by simp, fun _ => ⟨_, _, rfl, h.lt, fun i y hy j u hu => by
    have hi : i = 0 := by have := (List.getElem?_eq_some_iff.1 hy).1; simp at this; omega
    subst hi
    injection hy with hy
    subst hy
    rw [show 0 + 0 * 6 + j = j by omega, h.cell j]
    simpa using hu⟩⟩
section
variable {w : World} {B b m g : Nat} {p q : List UInt8} {s : Pt.Sm} {ow : Int}
set_option maxHeartbeats 3200000 in
theorem Pt.open_any (h : Pt.Q w B b m g p s.v q ow s.pc s.r s.md) (t bits : Int) : Calls Tryd.prog 15 #[.pointer (some ⟨b, 0, none⟩), .int .i64 t, .int .i64 bits] w (Pt.OpenV w B b m g p s.v q ow s.pc s.r (if s.md = 1 then 0 else s.md) (Pt.opl s t bits)) := by
  have HQ := Lib.hid h
  have HW := Lib.hid (fun W => Cu.wake_any s.pc s.md s.r W)
  obtain ⟨md9, hmd⟩ : ∃ md9, (if s.md = 1 then 0 else s.md) = md9 := ⟨_, rfl⟩
  simp only [hmd] at HW
  rw [hmd]
  have HT := Lib.hid (fun W (h : Pt.Q W B b m g p s.v q ow s.pc s.r md9) => show Calls Tryd.prog 25 #[.pointer (some ⟨b, 0, none⟩)] W fun e w' => e = .returned (.string ⟨s.v.toArray⟩) ∧ W.grownBy w' none from Pt.text_any (s := ⟨s.v, s.pc, s.r, md9⟩) h)
  obtain ⟨k0, k1, k2, k3, k4, k5, k6, k7, k8, k9, k10, k11, k12, k13⟩ := Pt.cells14 h.blk
  clear h hmd
  go_enter Tryd.func15, Tryd.ntmps15
  go_upto_region 4 with (go_at_call 35; (with_reducible refine (HW.out _).mono ?_); rintro e w1 ⟨rfl, g1⟩; have G1 := Lib.hid g1; have B1 := Lib.hid (HQ.out.grown g1); clear g1 k0 k1 k2 k3 k4 k5 k6 k7 k8 k9 k10 k11 k12 k13; obtain ⟨k0, k1, k2, k3, k4, k5, k6, k7, k8, k9, k10, k11, k12, k13⟩ := Pt.cells14 B1.out.blk; obtain ⟨f4, f5, f6, f7, f8, f9, f10, f11, f12, f13⟩ := Pt.free14 B1.out.blk)
  obtain ⟨W2, hW2⟩ : ∃ W2, W2 = ((((((((((w1.setCell ⟨b, 4, none⟩ (.int .i64 s.pc)).setCell ⟨b, 5, none⟩ (.int .i64 (s.r 0))).setCell ⟨b, 6, none⟩ (.int .i64 (s.r 1))).setCell ⟨b, 7, none⟩ (.int .i64 (s.r 2))).setCell ⟨b, 8, none⟩ (.int .i64 (s.r 3))).setCell ⟨b, 9, none⟩ (.int .i64 (s.r 4))).setCell ⟨b, 10, none⟩ (.int .i64 (s.r 5))).setCell ⟨b, 11, none⟩ (.int .i64 (s.r 6))).setCell ⟨b, 12, none⟩ (.int .i64 (s.r 7))).setCell ⟨b, 13, none⟩ (.int .i64 md9)) := ⟨_, rfl⟩
  obtain ⟨k2', b2'⟩ := Pt.put10 B1.out.blk (.int .i64 s.pc) (.int .i64 (s.r 0)) (.int .i64 (s.r 1)) (.int .i64 (s.r 2)) (.int .i64 (s.r 3)) (.int .i64 (s.r 4)) (.int .i64 (s.r 5)) (.int .i64 (s.r 6)) (.int .i64 (s.r 7)) (.int .i64 md9) W2 hW2
  have K2 := Lib.hid k2'
  have Q2 := Lib.hid (show Pt.Q W2 B b m g p s.v q ow s.pc s.r md9 from ⟨b2', B1.out.mem.far k2' (Ne.symm B1.out.ne.1) (Ne.symm B1.out.ne.2), B1.out.ne, B1.out.pcb, B1.out.lim⟩)
  rw [← hW2]
  clear hW2 k2' b2' k0 k1 k2 k3 k4 k5 k6 k7 k8 k9 k10 k11 k12 k13 f4 f5 f6 f7 f8 f9 f10 f11 f12 f13
  have HT2 := Lib.hid (HT.out _ Q2.out)
  generalize hd : (⟨s.v.toArray⟩ : ByteArray) = d at *
  go_upto_region 5 with (go_at_call 25; (with_reducible refine HT2.out.mono ?_); rintro e w3 ⟨rfl, g3⟩; have G3 := Lib.hid g3; clear g3)
  obtain ⟨w4, hw4⟩ : ∃ w4, w4 = w3.alloc (.cells #[.int .i64 t, .int .u8 1, .int .i64 0, .int .i64 0, .int .i64 0, .string d] 73) := ⟨_, rfl⟩
  have g34 : w3.grownBy w4 none := by rw [hw4]; exact only_alloc (only_refl _ none) _
  have M1 := Lib.hid (show Blk w4 w3.heap.size 73 (Pt.mc ⟨t, 1, 0, 0, 0, d⟩).toArray by rw [hw4]; exact Blk.new _ _ _)
  have G4 := Lib.hid (only_trans G3.out g34)
  have HGA := Lib.hid G3.out.size
  rw [← hw4]
  obtain ⟨ga, hga⟩ : ∃ ga, ga = w3.heap.size := ⟨_, rfl⟩
  rw [← hga] at M1 HGA ⊢
  have HGW := Lib.hid (show w.heap.size ≤ ga by have := HGA.out; have := K2.out.size; have := G1.out.size; omega)
  clear hw4 g34 hga
  by_cases hb : bits = 0
  · have HV := Lib.hid (show Pt.opl s t bits = [⟨t, 1, 0, 0, 0, d⟩] by unfold Pt.opl; rw [if_pos hb, hd])
    clear hd
    subst hb
    go_wp2
    go_ret
    exact ⟨_, rfl, by rw [HV.out]; exact Pt.one_row M1.out, Q2.out.grown G4.out, Pt.kp_put G1.out K2.out G4.out, fun i e => by simp [Value.ownBlock] at e; have := HGW.out; omega⟩
  · have HV := Lib.hid (show Pt.opl s t bits = [⟨t, 1, 0, 0, 0, d⟩, ⟨t, 2, bits, 0, 0, ⟨#[]⟩⟩] by unfold Pt.opl; rw [if_neg hb, hd])
    clear hd
    obtain ⟨v', w6, hk, hrow, hg6, how⟩ := Pt.app_mk (w4.alloc (.cells #[.int .i64 t, .int .u8 2, .int .i64 bits, .int .i64 0, .int .i64 0, .string ⟨#[]⟩] 73)) ga w4.heap.size ⟨t, 1, 0, 0, 0, d⟩ ⟨t, 2, bits, 0, 0, ⟨#[]⟩⟩ (M1.out.alloc _) (Blk.new w4 _ _)
    have HK := Lib.hid hk
    have HROW := Lib.hid hrow
    have HOW := Lib.hid how
    have G6 := Lib.hid (Pt.grow_box (only_trans G4.out (only_alloc (only_refl w4 none) _)) hg6 HGA.out)
    obtain ⟨A, c, rfl, _, _⟩ := hrow
    clear hk hg6 how
    go_wp2_with (at_builtin; refine wpList_append_eq rfl (.tmp 25) (.tmp 29) 50 rfl HK.out rfl rfl ?_)
    go_ret
    exact ⟨.slice A 2 c, rfl, by rw [HV.out]; exact HROW.out, Q2.out.grown G6.out, Pt.kp_put G1.out K2.out G6.out, fun i (e : (Value.slice A 2 c).ownBlock = some i) => by have HO : (Value.slice A 2 c).ownBlock = some ga ∨ (Value.slice A 2 c).ownBlock = some _ := HOW.out; have h1 := HGW.out; have h2 := G4.out.size; have h3 := K2.out.size; have h4 := G1.out.size; rcases HO with q | q <;> (rw [e] at q; injection q with q; (try simp at q); omega)⟩
end
end Go.Proofs.YthhodadfiipffaaDoor

/- How a law of package code is opened: the table as1 it was laid; codes, instructions and texts that came in. -/
namespace Go.Proofs.YthhodadfiipffaaDoor
open Go.RowKit Go.Lib Go.ChangeShapes Go.WideShapes Go.ChangeAt Go.Deep Go.Joins
open Go.ChangeMaps (open_string shut_string)
set_option linter.unusedVariables false
set_option maxRecDepth 8000

theorem kd_own : ownKnob Tryd.prog.godebug = none := by kernel_rfl
theorem kd_laid : laidOutB Tryd.prog = true := by kernel_rfl
theorem names_at : Tryd.prog.globalNamed "campanile/code.names" = some 0 := by kernel_rfl
theorem names_type : (Tryd.prog.globals[0]?).map (·.type) = some 141 := by kernel_rfl
theorem cells_string : Tryd.prog.cellsOf 9 = 1 := by kernel_rfl
def laid1 : List (String × DataW Unit) := [("campanile/code.names", Rows.laid_campanile_code_names)]
/-- The door's own heap meets the condition: three closed facts. -/
theorem kd_door (os : Os) (args : Array Value) : laidMetH Tryd.prog laid1 ((World.doorLaid Tryd.prog 400 os).forCall (fun _ _ => 0) ⟨#[], args, []⟩).memory :=
  laidMetH_of_parts3 (fuel := 8) (laidMet_of_run' 8 (by kernel_rfl) (by kernel_rfl)) (by kernel_rfl) (by kernel_rfl)
theorem laid_names : (Rows.laid_campanile_code_names : DataW Unit) = .agg ((List.range 16).map fun k => .lit (.string (nmX k))) := by rfl
/-- What the condition gives the walks: the table's cells. -/
theorem nm_of_laid {W : World} (h : laidMetH Tryd.prog laid1 W) : Nm W := by
  rw [MakeChecks.laidMetH_plain _ _ _ (by kernel_rfl)] at h
  obtain ⟨ps, ⟨g0, t0, cs0, f0, p0, q0, hg0, ht0, hv0, hd0, _, _⟩, _, _⟩ := h
  obtain rfl := Option.some.inj (names_at.symm.trans hg0)
  obtain rfl := Option.some.inj (names_type.symm.trans ht0)
  obtain ⟨xs, m1, rfl, hx1, hlen, hn4, hel⟩ := DataW.trod_array Tryd.underlying141 hd0
  rw [cells_string] at hel
  have hc : ∀ i, W.cell? ⟨0, i, none⟩ = cs0[i]? := fun i => World.var?_cell hg0 hv0 i
  have hx2 : xs.map Prod.fst = (List.range 16).map fun k => .lit (.string (nmX k)) := by
    have := hx1
    rw [laid_names] at this
    simp only [Prod.mk.injEq, DataW.agg.injEq] at this
    exact this.1.symm
  have one : ∀ k, k < 16 → W.cell? ⟨0, k, none⟩ = some (.string (nmL k)) := by
    intro k hk
    have hkl : k < xs.length := by omega
    have h1 := hel k hk
    rw [List.getElem?_eq_getElem hkl, Nat.mul_one] at h1
    obtain ⟨s, e1, e2, _⟩ := DataW.trod_string Tryd.underlying9 h1
    have e4 : (xs.map Prod.fst)[k]? = some (.lit (.string (nmX k))) := by
      rw [hx2]
      simp [hk]
    rw [List.getElem?_map, List.getElem?_eq_getElem hkl] at e4
    simp only [Option.map_some, Option.some.injEq] at e4
    rw [e2] at e4
    simp only [DataW.lit.injEq, Lit.string.injEq] at e4
    have hs : s = nmL k := by
      unfold nmL
      rw [← e4]
    rw [hc k, ← hs]
    have e3 : cs0.toList[k]? = some (.string s) := by
      have := congrArg (fun l => l[0]?) e1
      simpa [List.getElem?_take, List.getElem?_drop] using this
    simpa using e3
  refine ⟨one, ?_⟩
  have c0 := one 0 (by omega)
  rcases Nat.eq_zero_or_pos W.heap.size with hz | hz
  · have : W.heap = #[] := Array.eq_empty_of_size_eq_zero hz
    simp [World.cell?, this] at c0
  · exact hz
section
variable {H : Type} {enc : TypeId × Value → H} {W : World} {base b0 : Nat} {spare : Nat → Bool} {held : Bool} {r : Reach} {v : Value} {d : DataW H} {p : List MemPlace}
theorem kd_string (hv : Value.okWide Tryd.prog W r b0 9 v) (h : DataW.Trod enc Tryd.prog W base spare held 9 v d p) : ∃ s : ByteArray, v = .string s ∧ s.size ≤ 9223372036854775807 := by
  obtain ⟨s, rfl, _, _, hs⟩ := open_string Tryd.underlying9 hv h
  exact ⟨s, rfl, by unfold maxLen at hs; omega⟩
theorem kd_in_u8 {n : Int} (w : (Lit.int .u8 n).wf = true) : 0 ≤ n ∧ n ≤ 255 := by
  simp only [Lit.wf, Bool.and_eq_true, decide_eq_true_eq] at w
  have e1 : IntKind.u8.min = 0 := by kernel_rfl
  have e2 : IntKind.u8.max = 255 := by kernel_rfl
  omega
theorem kd_code (hv : Value.okWide Tryd.prog W r b0 102 v) (h : DataW.Trod enc Tryd.prog W base spare held 102 v d p) : ∃ k : Nat, v = .int .u8 k ∧ k < 256 := by
  obtain ⟨a, rfl, _, _, w⟩ := open_int Tryd.underlying102 hv h
  have := kd_in_u8 w
  exact ⟨a.toNat, by rw [Int.toNat_of_nonneg this.1], by omega⟩
theorem kd_field {P : Program} {w : World} {t : TypeId} {fs : Array Field} {fuel : Nat} {cs : List Value} {x : DataW H × List MemPlace}
    (hs : P.underlying t = some (.struct fs)) (hone : oneCellFields P fs = true) (h : DataW.trod enc P w base spare held fuel t cs = some x) {i : Nat} {f : Field} (hf : fs[i]? = some f) {c : Value} (hc : cs[i]? = some c) :
    ∃ n y, DataW.trod enc P w base spare held n f.type [c] = some y := by
  obtain ⟨xs, n, _, _, _, hlen, hfld⟩ := DataW.trod_struct hs h
  obtain ⟨o, k⟩ := hone_of hone i f hf
  have h1 := hfld i f hf
  have hi : i < fs.size := (Array.getElem?_eq_some_iff.1 hf).1
  have hcl : i < cs.length := (List.getElem?_eq_some_iff.1 hc).1
  have hce : cs[i] = c := (List.getElem?_eq_some_iff.1 hc).2
  rw [o, k, List.getElem?_eq_getElem (by omega), List.drop_eq_getElem_cons hcl, hce] at h1
  exact ⟨n, _, by simpa using h1⟩
theorem kd_cut {cs : Array Value} (h : cs.size = 3) : ∃ c0 c1 c2, cs = #[c0, c1, c2] := by
  obtain ⟨l⟩ := cs
  match l, h with
  | [c0, c1, c2], _ => exact ⟨c0, c1, c2, rfl⟩
theorem kd_instr (hv : Value.okWide Tryd.prog W r b0 104 v) (h : DataW.Trod enc Tryd.prog W base spare held 104 v d p) : ∃ (k : Nat) (x n : Int), v = .agg #[.int .u8 k, .int .i64 x, .int .i64 n] ∧ k < 256 := by
  obtain ⟨cs, rfl, hsz⟩ := okWide_struct Tryd.underlying104 hv
  obtain ⟨c0, c1, c2, rfl⟩ := kd_cut (hsz.trans (by kernel_rfl))
  obtain ⟨fuel, hf⟩ := h
  obtain ⟨n0, y0, h0⟩ := kd_field Tryd.underlying104 (by kernel_rfl) hf (i := 0) rfl (c := c0) rfl
  obtain ⟨n1, y1, h1⟩ := kd_field Tryd.underlying104 (by kernel_rfl) hf (i := 1) rfl (c := c1) rfl
  obtain ⟨n2, y2, h2⟩ := kd_field Tryd.underlying104 (by kernel_rfl) hf (i := 2) rfl (c := c2) rfl
  obtain ⟨a0, e0, _, w0⟩ := DataW.trod_int Tryd.underlying102 h0
  obtain ⟨a1, e1, _, w1⟩ := DataW.trod_int Tryd.underlying3 h1
  obtain ⟨a2, e2, _, w2⟩ := DataW.trod_int Tryd.underlying3 h2
  injection e0 with e0 _
  injection e1 with e1 _
  injection e2 with e2 _
  subst e0 e1 e2
  have := kd_in_u8 w0
  exact ⟨a0.toNat, a1, a2, by rw [Int.toNat_of_nonneg this.1], by omega⟩
end
end Go.Proofs.YthhodadfiipffaaDoor

/- How a slice of elements of several cells that came in is opened. -/
namespace Go.Proofs.YthhodadfiipffaaDoor
open Go.RowKit Go.Lib Go.ChangeShapes Go.WideShapes Go.ChangeAt Go.Deep
set_option linter.unusedVariables false

section
variable {H : Type} {enc : TypeId × Value → H} {P : Program} {w : World} {base : Nat} {spare : Nat → Bool} {held : Bool}
/-- The cells of a slice of elements of k cells each, element by element, and what each reads as1. -/
theorem open_wide {t e : TypeId} {fuel k : Nat} {A : Option Addr} {len cap : Nat} {x : DataW H × List MemPlace} (ht : P.underlying t = some (.slice e)) (hC : P.cellsOf e = k) (hpos : 0 < k) (h : DataW.trod enc P w base spare held fuel t [.slice A len cap] = some x) :
    len ≤ cap ∧ cap ≤ maxLen ∧ (A = none → len = 0 ∧ cap = 0) ∧ (0 < len → ∃ b off, A = some ⟨b, off, none⟩ ∧ b < w.heap.size ∧
      ∀ i, i < len → ∃ (cs : List Value) (n : Nat) (y : DataW H × List MemPlace), cs.length = k ∧ DataW.trod enc P w base spare held n e cs = some y ∧ ∀ j, j < k → w.cell? ⟨b, off + (i * k + j), none⟩ = cs[j]?) := by
  rcases open_slice ht h with ⟨hcs, _⟩ | ⟨a, l, c, m, n, D, Pl, hcs, hb, hl, hm, hmm, hx, hi⟩
  · injection hcs with hcs _
    injection hcs with h1 h2 h3
    subst h1 h2 h3
    exact ⟨Nat.le_refl _, by simp [maxLen], fun _ => ⟨rfl, rfl⟩, fun h0 => absurd h0 (by omega)⟩
  · injection hcs with hcs _
    injection hcs with h1 h2 h3
    subst h1 h2 h3
    refine ⟨hl, hm, fun h0 => (by cases h0), fun hpl => ?_⟩
    have hml : len ≤ m := by rw [hmm]; split <;> omega
    have main : ∀ i, i < len → ∃ (cs : List Value) (n : Nat) (y : DataW H × List MemPlace), cs.length = k ∧ DataW.trod enc P w base spare held n e cs = some y ∧ ∀ j, j < k → w.cell? (a.add (i * k + j)) = cs[j]? := by
      intro i hil
      obtain ⟨cs', hc, ht'⟩ := hi i (by omega)
      rw [hC] at hc
      obtain ⟨_, hcl, hat⟩ := World.cells?_some hc
      refine ⟨cs', n, _, hcl, ht', fun j hj => ?_⟩
      rw [← add_add_plain]
      exact hat j hj
    obtain ⟨cs0, _, _, hl0, _, hc0⟩ := main 0 hpl
    obtain ⟨v0, hv0⟩ : ∃ v, cs0[0]? = some v := ⟨_, List.getElem?_eq_getElem (by omega)⟩
    have hc00 := (hc0 0 hpos).trans hv0
    have hsp : a.spot = none := by
      have := World.cell?_spot hc00
      simpa [Addr.add] using this
    obtain ⟨b, off, sp⟩ := a
    simp only at hsp
    subst hsp
    have hbl : b < w.heap.size := by
      rcases Nat.lt_or_ge b w.heap.size with hlt | hge
      · exact hlt
      · have hp := addr_plain hc00
        rw [hp] at hc00
        simp [World.cell?, Array.getElem?_eq_none hge] at hc00
    refine ⟨b, off, rfl, hbl, fun i hil => ?_⟩
    obtain ⟨cs, n2, y, h1, h2, h3⟩ := main i hil
    refine ⟨cs, n2, y, h1, h2, fun j hj => ?_⟩
    have h4 := h3 j hj
    obtain ⟨v, hv⟩ : ∃ v, cs[j]? = some v := ⟨_, List.getElem?_eq_getElem (by omega)⟩
    rw [hv] at h4
    have hp := addr_plain h4
    rw [hp] at h4
    rw [h4, hv]
end
end Go.Proofs.YthhodadfiipffaaDoor

/- How the laws of package part are opened: what may be told, and deeds, that came in. -/
namespace Go.Proofs.YthhodadfiipffaaDoor
open Go.RowKit Go.Lib Go.ChangeShapes Go.WideShapes Go.ChangeAt Go.Deep Go.Joins
set_option linter.unusedVariables false
set_option maxRecDepth 8000

def Pt.fitI (x : Int) : Prop := -9223372036854775808 ≤ x ∧ x ≤ 9223372036854775807
theorem Pt.fitI_of {x : Int} (w : (Lit.int .i64 x).wf = true) : Pt.fitI x := by
  simp only [Lit.wf, Bool.and_eq_true, decide_eq_true_eq] at w
  have e1 : IntKind.i64.min = -9223372036854775808 := by kernel_rfl
  have e2 : IntKind.i64.max = 9223372036854775807 := by kernel_rfl
  unfold Pt.fitI
  omega
theorem Pt.cut5a {cs : Array Value} (h : cs.size = 5) : ∃ c0 c1 c2 c3 c4, cs = #[c0, c1, c2, c3, c4] := by
  obtain ⟨l⟩ := cs
  match l, h with
  | [c0, c1, c2, c3, c4], _ => exact ⟨c0, c1, c2, c3, c4, rfl⟩
theorem Pt.cut6 {cs : List Value} (h : cs.length = 6) : ∃ c0 c1 c2 c3 c4 c5, cs = [c0, c1, c2, c3, c4, c5] := by
  match cs, h with
  | [c0, c1, c2, c3, c4, c5], _ => exact ⟨c0, c1, c2, c3, c4, c5, rfl⟩
/-- A deed. -/
structure Pt.Dd where
  o : Bool
  x : Pt.F
def Pt.DdC (w : World) (b o : Nat) (y : Pt.Dd) : Prop := w.cell? ⟨b, o, none⟩ = some (.bool y.o) ∧ w.cell? ⟨b, o + 1, none⟩ = some (.int .i64 y.x.t) ∧ w.cell? ⟨b, o + 2, none⟩ = some (.int .i64 y.x.f) ∧ w.cell? ⟨b, o + 3, none⟩ = some (.int .i64 y.x.d) ∧ w.cell? ⟨b, o + 4, none⟩ = some (.int .i64 y.x.p) ∧ w.cell? ⟨b, o + 5, none⟩ = some (.int .i64 y.x.b)
/-- Deeds that came in. -/
def Pt.DdP (w : World) (A : Option Addr) (len : Nat) (d : Nat → Pt.Dd) : Prop := 0 < len → ∃ b off, A = some ⟨b, off, none⟩ ∧ b < w.heap.size ∧ ∀ i, i < len → Pt.DdC w b (off + i * 6) (d i)
theorem Pt.DdC.below {w w' : World} {b o : Nat} {y : Pt.Dd} (h : Pt.DdC w b o y) (hg : b < w.heap.size) (hb : Below w.heap.size w w') : Pt.DdC w' b o y := by
  obtain ⟨h0, h1, h2, h3, h4, h5⟩ := h
  exact ⟨(hb.cell (p := ⟨b, _, none⟩) hg).trans h0, (hb.cell (p := ⟨b, _, none⟩) hg).trans h1, (hb.cell (p := ⟨b, _, none⟩) hg).trans h2, (hb.cell (p := ⟨b, _, none⟩) hg).trans h3, (hb.cell (p := ⟨b, _, none⟩) hg).trans h4, (hb.cell (p := ⟨b, _, none⟩) hg).trans h5⟩
theorem Pt.DdP.grown {w w' : World} {A : Option Addr} {len : Nat} {d : Nat → Pt.Dd} (h : Pt.DdP w A len d) (g : w.grownBy w' none) : Pt.DdP w' A len d := fun hp => by
  obtain ⟨b, off, e, hg, hc⟩ := h hp
  exact ⟨b, off, e, Nat.lt_of_lt_of_le hg g.size, fun i hi => (hc i hi).below hg (below_of_only g (Nat.le_refl _) (fun k hk => by cases hk))⟩
section
variable {H : Type} {enc : TypeId × Value → H} {W : World} {base b0 : Nat} {spare : Nat → Bool} {held : Bool} {r : Reach} {v : Value} {d : DataW H} {p : List MemPlace}
theorem Pt.facts5 {fuel : Nat} {c0 c1 c2 c3 c4 : Value} {x : DataW H × List MemPlace} (hf : DataW.trod enc Tryd.prog W base spare held fuel 42 [c0, c1, c2, c3, c4] = some x) : ∃ x : Pt.F, c0 = .int .i64 x.t ∧ c1 = .int .i64 x.f ∧ c2 = .int .i64 x.d ∧ c3 = .int .i64 x.p ∧ c4 = .int .i64 x.b := by
  obtain ⟨n0, y0, h0⟩ := kd_field Tryd.underlying42 (by kernel_rfl) hf (i := 0) rfl (c := c0) rfl
  obtain ⟨n1, y1, h1⟩ := kd_field Tryd.underlying42 (by kernel_rfl) hf (i := 1) rfl (c := c1) rfl
  obtain ⟨n2, y2, h2⟩ := kd_field Tryd.underlying42 (by kernel_rfl) hf (i := 2) rfl (c := c2) rfl
  obtain ⟨n3, y3, h3⟩ := kd_field Tryd.underlying42 (by kernel_rfl) hf (i := 3) rfl (c := c3) rfl
  obtain ⟨n4, y4, h4⟩ := kd_field Tryd.underlying42 (by kernel_rfl) hf (i := 4) rfl (c := c4) rfl
  obtain ⟨a0, e0, _, _⟩ := DataW.trod_int Tryd.underlying3 h0
  obtain ⟨a1, e1, _, _⟩ := DataW.trod_int Tryd.underlying3 h1
  obtain ⟨a2, e2, _, _⟩ := DataW.trod_int Tryd.underlying3 h2
  obtain ⟨a3, e3, _, _⟩ := DataW.trod_int Tryd.underlying3 h3
  obtain ⟨a4, e4, _, _⟩ := DataW.trod_int Tryd.underlying3 h4
  injection e0 with e0 _
  injection e1 with e1 _
  injection e2 with e2 _
  injection e3 with e3 _
  injection e4 with e4 _
  exact ⟨⟨a0, a1, a2, a3, a4⟩, e0, e1, e2, e3, e4⟩
theorem Pt.open_facts (hv : Value.okWide Tryd.prog W r b0 42 v) (h : DataW.Trod enc Tryd.prog W base spare held 42 v d p) : ∃ x : Pt.F, v = .agg #[.int .i64 x.t, .int .i64 x.f, .int .i64 x.d, .int .i64 x.p, .int .i64 x.b] := by
  obtain ⟨cs, rfl, hsz⟩ := okWide_struct Tryd.underlying42 hv
  obtain ⟨c0, c1, c2, c3, c4, rfl⟩ := Pt.cut5a (hsz.trans (by kernel_rfl))
  obtain ⟨fuel, hf⟩ := h
  obtain ⟨x, e0, e1, e2, e3, e4⟩ := Pt.facts5 (x := (d, p)) hf
  exact ⟨x, by rw [e0, e1, e2, e3, e4]⟩
theorem Pt.open_dds {A : Option Addr} {len cap fuel : Nat} {x : DataW H × List MemPlace}
    (h : DataW.trod enc Tryd.prog W base spare held fuel 22 [.slice A len cap] = some x) : len ≤ cap ∧ cap ≤ 9223372036854775807 ∧ ∃ d, Pt.DdP W A len d := by
  obtain ⟨h1, h2, h3, h4⟩ := open_wide (k := 6) Tryd.underlying22 (by kernel_rfl) (by decide) h
  refine ⟨h1, by unfold maxLen at h2; omega, ?_⟩
  by_cases hp : 0 < len
  · obtain ⟨b, off, hA, hb, hc⟩ := h4 hp
    have hx : ∀ i, ∃ r : Pt.Dd, i < len → Pt.DdC W b (off + i * 6) r := by
      intro i
      by_cases hi : i < len
      · obtain ⟨cs, n, y, hcl, ht, hcell⟩ := hc i hi
        obtain ⟨c0, c1, c2, c3, c4, c5, rfl⟩ := Pt.cut6 hcl
        obtain ⟨xs, n', _, _, _, hlen, hfld⟩ := DataW.trod_struct Tryd.underlying44 ht
        have hxl : xs.length = 2 := hlen
        have q0 := hfld 0 _ rfl
        have q1 := hfld 1 _ rfl
        rw [List.getElem?_eq_getElem (show 0 < xs.length by omega)] at q0
        rw [List.getElem?_eq_getElem (show 1 < xs.length by omega)] at q1
        have g0 : DataW.trod enc Tryd.prog W base spare held n' 4 [c0] = some xs[0] := q0
        have g1 : DataW.trod enc Tryd.prog W base spare held n' 42 [c1, c2, c3, c4, c5] = some xs[1] := q1
        obtain ⟨a0, e0, _⟩ := DataW.trod_bool Tryd.underlying4 g0
        obtain ⟨x, e1, e2, e3, e4, e5⟩ := Pt.facts5 g1
        injection e0 with e0 _
        subst e0 e1 e2 e3 e4 e5
        exact ⟨⟨a0, x⟩, fun _ => ⟨hcell 0 (by omega), hcell 1 (by omega), hcell 2 (by omega), hcell 3 (by omega), hcell 4 (by omega), hcell 5 (by omega)⟩⟩
      · exact ⟨⟨false, ⟨0, 0, 0, 0, 0⟩⟩, fun h => absurd h hi⟩
    exact ⟨fun i => Classical.choose (hx i), fun _ => ⟨b, off, hA, hb, fun i hi => Classical.choose_spec (hx i) hi⟩⟩
  · exact ⟨fun _ => ⟨false, ⟨0, 0, 0, 0, 0⟩⟩, fun h => absurd h hp⟩
end
end Go.Proofs.YthhodadfiipffaaDoor
