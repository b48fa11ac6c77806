import Derived.Test.YthhodadfiipffaaDoorZ18
import Derived.StillTailTactics
import Derived.Deep.Cut
import Derived.Deep.CutRange
import Derived.Lib.QuietBelow
set_option linter.all false
/- Package part: Step of a partition, walked. -/
namespace Go.Proofs.YthhodadfiipffaaDoor
open Go.RowKit Go.Lib
set_option linter.unusedVariables false
set_option maxRecDepth 8000

/-- A mark. -/
structure Pt.Mk where
  t : Int
  s : Int
  a : Int
  b : Int
  n : Int
  d : ByteArray
def Pt.mc (x : Pt.Mk) : List Value := [.int .i64 x.t, .int .u8 x.s, .int .i64 x.a, .int .i64 x.b, .int .i64 x.n, .string x.d]
/-- Marks in a slice whose block is not below B. -/
def Pt.Mks (B : Nat) (w : World) (v : Value) (l : List Pt.Mk) : Prop := ∃ A c, v = .slice A l.length c ∧ l.length ≤ c ∧ c ≤ 1000 ∧ (0 < l.length → ∃ b off, A = some ⟨b, off, none⟩ ∧ B ≤ b ∧ b < w.heap.size ∧ ∀ (i : Nat) (x : Pt.Mk), l[i]? = some x → ∀ (j : Nat) u, (Pt.mc x)[j]? = some u → w.cell? ⟨b, off + i * 6 + j, none⟩ = some u)
/-- Nothing but b and g was changed. -/
def Pt.Kp (b g : Nat) (w w' : World) : Prop := w'.os = w.os ∧ w'.tape = w.tape ∧ w'.output = w.output ∧ w.heap.size ≤ w'.heap.size ∧ ∀ i, i < w.heap.size → i ≠ b → i ≠ g → w'.heap[i]? = w.heap[i]?
theorem Pt.Mks.nil (B : Nat) (w : World) : Pt.Mks B w (.slice none 0 0) [] := ⟨none, 0, rfl, Nat.le_refl _, by omega, fun h => absurd h (by decide)⟩
theorem Pt.Mks.one (B : Nat) (w : World) (hB : B ≤ w.heap.size) (ty : TypeId) (x : Pt.Mk) : Pt.Mks B (w.alloc (.cells (Pt.mc x).toArray ty)) (.slice (some ⟨w.heap.size, 0, none⟩) 1 1) [x] :=
  ⟨_, 1, rfl, Nat.le_refl _, by omega, fun _ => ⟨_, _, rfl, hB, by simp, fun i y hy j u hu => by
    have hi : i = 0 := by have := (List.getElem?_eq_some_iff.1 hy).1; simp at this; omega
    subst hi
    injection hy with hy
    subst hy
    have := (Blk.new w ty (Pt.mc x).toArray).cell j
    rw [show 0 + 0 * 6 + j = j by omega, this]
    simpa using hu⟩⟩
theorem Pt.Bx.kp {w W : World} {B b m g : Nat} {p V q : List UInt8} {ow pc md : Int} {r : Nat → Int} {x : Pt.F} {o1 o2 o3 o4 : Int} (h : Pt.Bx w W B b m g p V q ow pc r md x o1 o2 o3 o4) : Pt.Kp b g w W := ⟨h.gs.1, h.gs.2.1, h.gs.2.2.1, h.gs.2.2.2, h.gr⟩
/-- What Step leaves. -/
def Pt.StepV (w : World) (B b m g : Nat) (p V q : List UInt8) (ow pc : Int) (r : Nat → Int) (md : Int) (l : List Pt.Mk) (fl : Bool) (e : Ending) (w' : World) : Prop :=
  ∃ v, e = .returned (.tuple #[v, .bool fl]) ∧ Pt.Mks w.heap.size w' v l ∧ Pt.Q w' B b m g p V q ow pc r md ∧ Pt.Kp b g w w'
theorem Pt.Mks.grown {B : Nat} {w w' : World} {v : Value} {l : List Pt.Mk} (h : Pt.Mks B w v l) (k : w.grownBy w' none) : Pt.Mks B w' v l := by
  obtain ⟨A, c, h1, h2, h3, h4⟩ := h
  refine ⟨A, c, h1, h2, h3, fun hp => ?_⟩
  obtain ⟨b, off, e1, e2, e3, e4⟩ := h4 hp
  refine ⟨b, off, e1, e2, Nat.lt_of_lt_of_le e3 k.size, fun i x hi j u hu => ?_⟩
  rw [← e4 i x hi j u hu]
  simp only [World.cell?, k.block b e3 (by simp)]
theorem Pt.Bx.fin {w W W' : World} {B b m g : Nat} {p V q : List UInt8} {ow pc md : Int} {r r' : Nat → Int} {x : Pt.F} {o1 o2 o3 o4 : Int} (X : Pt.Bx w W B b m g p V q ow pc r md x o1 o2 o3 o4) (k : W.grownBy W' none) {v : Value} {l l' : List Pt.Mk} {fl fl' : Bool} (hm : Pt.Mks w.heap.size W' v l) (e1 : r = r') (e2 : l = l') (e3 : fl = fl') : Pt.StepV w B b m g p V q ow pc r' md l' fl' (.returned (.tuple #[v, .bool fl])) W' := by
  subst e1 e2 e3
  exact ⟨v, rfl, hm, (X.grown k).q, (X.grown k).kp⟩
/-- The registers, and the marks, behind a step. -/
def Pt.regs (o1 o2 o3 : Int) (r : Nat → Int) (x : Pt.F) : Nat → Int := if o1 = 2 then Cu.upd r o3.toNat (Pt.res o2 x) else r
def Pt.told (o1 o2 o4 : Int) (x : Pt.F) : List Pt.Mk := if o1 = 2 then [⟨x.t, 3, o2, Pt.res o2 x, 0, ⟨#[]⟩⟩] else if o1 = 4 ∨ o1 = 5 then [⟨x.t, 4, o4, 0, 0, ⟨#[]⟩⟩] else []
section
variable {w : World} {B b m g : Nat} {p V q V1 : List UInt8} {ow pc md pc1 md1 : Int} {r r1 : Nat → Int} {o1 o2 o3 o4 : Int}
set_option maxRecDepth 20000 in
set_option maxHeartbeats 6400000 in
theorem Pt.step_core (h : Pt.Q w B b m g p V q ow pc r md) (x : Pt.F) (hl : V1.length = V.length) (hp : pc1 ≤ 9223372036854775807) (hS : ∀ W, MemG W B m g (p ++ V ++ q) → w.grownBy W none → Calls Tryd.prog 36 #[.agg #[.pointer (some ⟨m, 0, none⟩), .int .i64 p.length, .int .i64 V.length], .agg #[.int .i64 pc, .int .i64 (r 0), .int .i64 (r 1), .int .i64 (r 2), .int .i64 (r 3), .int .i64 (r 4), .int .i64 (r 5), .int .i64 (r 6), .int .i64 (r 7), .int .i64 md]] W fun e w' => e = .returned (.tuple #[.agg #[.int .i64 pc1, .int .i64 (r1 0), .int .i64 (r1 1), .int .i64 (r1 2), .int .i64 (r1 3), .int .i64 (r1 4), .int .i64 (r1 5), .int .i64 (r1 6), .int .i64 (r1 7), .int .i64 md1], .agg #[.int .i64 o1, .int .i64 o2, .int .i64 o3, .int .i64 o4]]) ∧ MemG w' B m g (p ++ V1 ++ q) ∧ W.grownBy w' (some g)) (hO3 : o1 = 2 → ∃ k : Nat, k < 8 ∧ o3 = k) : Calls Tryd.prog 16 #[.pointer (some ⟨b, 0, none⟩), .agg #[.int .i64 x.t, .int .i64 x.f, .int .i64 x.d, .int .i64 x.p, .int .i64 x.b]] w (Pt.StepV w B b m g p V1 q ow pc1 (Pt.regs o1 o2 o3 r1 x) md1 (Pt.told o1 o2 o4 x) (o1 == 2 && o2 == 4)) := by
  have HX := Lib.hid (Pt.bx_new (x := x) h)
  obtain ⟨W, hW⟩ : ∃ W, W = (w.alloc (.cells #[.int .i64 x.t, .int .i64 x.f, .int .i64 x.d, .int .i64 x.p, .int .i64 x.b] 42)).alloc (.cells #[.int .i64 0, .int .i64 0, .int .i64 0, .int .i64 0] 90) := ⟨_, rfl⟩
  have gW : w.grownBy W none := by rw [hW]; exact only_alloc (only_alloc (only_refl _ none) _) _
  rw [← hW] at HX
  have gd : W.grownBy W.drew none := only_drewN (only_refl _ none) 1
  have HS := Lib.hid (hS W.drew (HX.out.grown gd).q.mem (only_trans gW gd))
  have HL := Lib.hid hl
  have HO3 := Lib.hid hO3
  clear hO3
  have HPC := Lib.hid hp
  have HN := Lib.hid h.ne
  have HLT := Lib.hid h.lt
  clear hS h hl hp gW gd
  obtain ⟨pl, hpl⟩ : ∃ pl, p.length = pl := ⟨_, rfl⟩
  obtain ⟨vl, hvl⟩ : ∃ vl, V.length = vl := ⟨_, rfl⟩
  rw [hpl, hvl] at HS
  have n1 : ¬ b = w.heap.size := by have := HLT.out; omega
  have n2 : ¬ w.heap.size = b := by have := HLT.out; omega
  have n3 : ¬ b = w.heap.size + 1 := by have := HLT.out; omega
  have n4 : ¬ w.heap.size + 1 = b := by have := HLT.out; omega
  have hb0 := HX.out.q.blk
  rw [hpl, hvl] at hb0
  obtain ⟨k0, k1, k2, k3, k4, k5, k6, k7, k8, k9, k10, k11, k12, k13⟩ := Pt.cells14 hb0
  clear hb0
  have HPL := Lib.hid hpl
  have HVL := Lib.hid hvl
  clear hpl hvl
  go_enter Tryd.func16, Tryd.ntmps16
  go_upto_region 4 with (fail)
  rw [← hW]
  clear hW
  go_cut [6] from 7 to 62 (fun s wx => s = .pointer (some ⟨w.heap.size + 1, 0, none⟩) ∧ Hid (Pt.Bx w wx B b m g p V1 q ow pc1 r1 md1 x o1 o2 o3 o4))
  case first =>
    go_region_with (go_at_call 36; (with_reducible refine HS.out.mono ?_); rintro e w7 ⟨rfl, hm7, g7⟩; have M7 := Lib.hid (((HX.out.grown (only_drewN (only_refl _ none) 1)).mem HL.out hm7 g7)); clear hm7 g7; clear k0 k1 k2 k3 k4 k5 k6 k7 k8 k9 k10 k11 k12 k13; have hb7 := M7.out.q.blk; rw [HL.out, HPL.out, HVL.out] at hb7; obtain ⟨k0, k1, k2, k3, k4, k5, k6, k7, k8, k9, k10, k11, k12, k13⟩ := Pt.cells14 hb7; obtain ⟨f0, f1, f2, f3, f4, f5, f6, f7, f8, f9⟩ := Pt.free14 hb7; clear hb7; obtain ⟨c0, c1, c2, c3⟩ := Cu.cells4 M7.out.ob; obtain ⟨d0, d1, d2, d3⟩ := Cu.free4 M7.out.ob)
    all_goals
      obtain ⟨W8, hW8⟩ : ∃ W8, W8 = ((((((((((((((w7.setCell ⟨b, 4, none⟩ (.int .i64 pc1)).setCell ⟨b, 5, none⟩ (.int .i64 (r1 0))).setCell ⟨b, 6, none⟩ (.int .i64 (r1 1))).setCell ⟨b, 7, none⟩ (.int .i64 (r1 2))).setCell ⟨b, 8, none⟩ (.int .i64 (r1 3))).setCell ⟨b, 9, none⟩ (.int .i64 (r1 4))).setCell ⟨b, 10, none⟩ (.int .i64 (r1 5))).setCell ⟨b, 11, none⟩ (.int .i64 (r1 6))).setCell ⟨b, 12, none⟩ (.int .i64 (r1 7))).setCell ⟨b, 13, none⟩ (.int .i64 md1)).setCell ⟨(w.heap.size + 1), 0, none⟩ (.int .i64 o1)).setCell ⟨(w.heap.size + 1), 1, none⟩ (.int .i64 o2)).setCell ⟨(w.heap.size + 1), 2, none⟩ (.int .i64 o3)).setCell ⟨(w.heap.size + 1), 3, none⟩ (.int .i64 o4)) := ⟨_, rfl⟩
      have hb7 := M7.out.q.blk
      rw [HL.out, HPL.out, HVL.out] at hb7
      obtain ⟨W9, ⟨g8, g9⟩, b8, b9⟩ := Pt.put14 hb7 M7.out.ob n3 (.int .i64 pc1) (.int .i64 (r1 0)) (.int .i64 (r1 1)) (.int .i64 (r1 2)) (.int .i64 (r1 3)) (.int .i64 (r1 4)) (.int .i64 (r1 5)) (.int .i64 (r1 6)) (.int .i64 (r1 7)) (.int .i64 md1) (.int .i64 o1) (.int .i64 o2) (.int .i64 o3) (.int .i64 o4) W8 hW8
      have X8 := Lib.hid ((M7.out.state HPC.out (show Blk W9 b 76 (Pt.cs m p.length V1.length ow pc1 r1 md1) from by rw [HL.out, HPL.out, HVL.out]; exact b8) g8).out b9 g9)
      rw [← hW8]
      clear hW8 hb7 g8 g9 b8 b9 k0 k1 k2 k3 k4 k5 k6 k7 k8 k9 k10 k11 k12 k13 f0 f1 f2 f3 f4 f5 f6 f7 f8 f9 c0 c1 c2 c3 d0 d1 d2 d3 M7 HX
      go_wp2_with (fail)
      go_meet
      case rel => exact ⟨rfl, X8⟩
  case rest =>
    obtain ⟨rfl, X8⟩ := hcut
    clear HX HS k0 k1 k2 k3 k4 k5 k6 k7 k8 k9 k10 k11 k12 k13
    obtain ⟨c0, c1, c2, c3⟩ := Cu.cells4 X8.out.ob
    obtain ⟨a0, a1, a2, a3, a4⟩ := Pt.cells5 X8.out.fb
    by_cases e2 : o1 = 2
    · subst e2
      obtain ⟨kx, hkx, rfl⟩ := HO3.out rfl
      obtain ⟨nr, hnr⟩ : ∃ nr, Pt.res o2 x = nr := ⟨_, rfl⟩
      have HNR := Lib.hid hnr
      have HR := Lib.hid (show Calls Tryd.prog 20 #[.int .i64 o2, .agg #[.int .i64 x.t, .int .i64 x.f, .int .i64 x.d, .int .i64 x.p, .int .i64 x.b]] wc fun e w' => e = .returned (.int .i64 nr) ∧ wc.grownBy w' none from by rw [← hnr]; exact Pt.result_any o2 x wc)
      have HG := Lib.hid (fun W' => Cu.give_in pc1 md1 nr r1 kx hkx W')
      clear hnr
      go_upto_region 8 with (go_at_call 20; (with_reducible refine HR.out.mono ?_); rintro e w9 ⟨rfl, g9⟩; have X9 := Lib.hid (X8.out.grown g9); clear g9)
      clear c0 c1 c2 c3 a0 a1 a2 a3 a4 HR X8
      have hb9 := X9.out.q.blk
      rw [HL.out, HPL.out, HVL.out] at hb9
      obtain ⟨k0, k1, k2, k3, k4, k5, k6, k7, k8, k9, k10, k11, k12, k13⟩ := Pt.cells14 hb9
      obtain ⟨c0, c1, c2, c3⟩ := Cu.cells4 X9.out.ob
      clear hb9
      have HS9 := Lib.hid (show w9.drew.cell? ⟨b, 4, none⟩ = some (.int .i64 pc1) ∧ w9.drew.cell? ⟨b, 5, none⟩ = some (.int .i64 (r1 0)) ∧ w9.drew.cell? ⟨b, 6, none⟩ = some (.int .i64 (r1 1)) ∧ w9.drew.cell? ⟨b, 7, none⟩ = some (.int .i64 (r1 2)) ∧ w9.drew.cell? ⟨b, 8, none⟩ = some (.int .i64 (r1 3)) ∧ w9.drew.cell? ⟨b, 9, none⟩ = some (.int .i64 (r1 4)) ∧ w9.drew.cell? ⟨b, 10, none⟩ = some (.int .i64 (r1 5)) ∧ w9.drew.cell? ⟨b, 11, none⟩ = some (.int .i64 (r1 6)) ∧ w9.drew.cell? ⟨b, 12, none⟩ = some (.int .i64 (r1 7)) ∧ w9.drew.cell? ⟨b, 13, none⟩ = some (.int .i64 md1) ∧ w9.drew.cell? ⟨w.heap.size + 1, 2, none⟩ = some (.int .i64 (kx : Int)) from ⟨k4, k5, k6, k7, k8, k9, k10, k11, k12, k13, c2⟩)
      refine wp_region_ends2 11 (fun w' => w'.cell? ⟨b, 4, none⟩ = some (.int .i64 pc1) ∧ w'.cell? ⟨b, 5, none⟩ = some (.int .i64 (r1 0)) ∧ w'.cell? ⟨b, 6, none⟩ = some (.int .i64 (r1 1)) ∧ w'.cell? ⟨b, 7, none⟩ = some (.int .i64 (r1 2)) ∧ w'.cell? ⟨b, 8, none⟩ = some (.int .i64 (r1 3)) ∧ w'.cell? ⟨b, 9, none⟩ = some (.int .i64 (r1 4)) ∧ w'.cell? ⟨b, 10, none⟩ = some (.int .i64 (r1 5)) ∧ w'.cell? ⟨b, 11, none⟩ = some (.int .i64 (r1 6)) ∧ w'.cell? ⟨b, 12, none⟩ = some (.int .i64 (r1 7)) ∧ w'.cell? ⟨b, 13, none⟩ = some (.int .i64 md1) ∧ w'.cell? ⟨w.heap.size + 1, 2, none⟩ = some (.int .i64 (kx : Int))) (by kernel_rfl) (by kernel_rfl) HS9.out (fun hHeld => ?_)
      simp only [List.take_succ_cons, List.take_zero]
      refine wpAnyH_take (i := 0) (oi := _) (v := ?_) rfl (by kernel_rfl) (by kernel_rfl) (by kernel_rfl) (fun _ _ _ h => h) (Or.inl ⟨by rfl, ?_⟩) (by assumption) ?_
      case refine_2 => intro w hSw; (try dsimp only at hSw); go_simp; try with_reducible rfl
      try simp only [Act.put, List.setIfInBounds_toArray, List.set_cons_zero, List.set_cons_succ]
      refine wpAnyH_take (i := 1) (oi := _) (v := ?_) rfl (by kernel_rfl) (by kernel_rfl) (by kernel_rfl) (fun _ _ _ h => h) (Or.inl ⟨by rfl, ?_⟩) (by assumption) ?_
      case refine_2 => intro w hSw; (try dsimp only at hSw); go_simp; try with_reducible rfl
      try simp only [Act.put, List.setIfInBounds_toArray, List.set_cons_zero, List.set_cons_succ]
      refine wpAnyH_take (i := 2) (oi := _) (v := ?_) rfl (by kernel_rfl) (by kernel_rfl) (by kernel_rfl) (fun _ _ _ h => h) (Or.inl ⟨by rfl, ?_⟩) (by assumption) ?_
      case refine_2 => intro w hSw; (try dsimp only at hSw); go_simp; try with_reducible rfl
      try simp only [Act.put, List.setIfInBounds_toArray, List.set_cons_zero, List.set_cons_succ]
      refine wpAnyH_take (i := 3) (oi := _) (v := ?_) rfl (by kernel_rfl) (by kernel_rfl) (by kernel_rfl) (fun _ _ _ h => h) (Or.inl ⟨by rfl, ?_⟩) (by assumption) ?_
      case refine_2 => intro w hSw; (try dsimp only at hSw); go_simp; try with_reducible rfl
      try simp only [Act.put, List.setIfInBounds_toArray, List.set_cons_zero, List.set_cons_succ]
      refine wpAnyH_take (i := 4) (oi := _) (v := ?_) rfl (by kernel_rfl) (by kernel_rfl) (by kernel_rfl) (fun _ _ _ h => h) (Or.inl ⟨by rfl, ?_⟩) (by assumption) ?_
      case refine_2 => intro w hSw; (try dsimp only at hSw); go_simp; try with_reducible rfl
      try simp only [Act.put, List.setIfInBounds_toArray, List.set_cons_zero, List.set_cons_succ]
      refine wpAnyH_take (i := 5) (oi := _) (v := ?_) rfl (by kernel_rfl) (by kernel_rfl) (by kernel_rfl) (fun _ _ _ h => h) (Or.inl ⟨by rfl, ?_⟩) (by assumption) ?_
      case refine_2 => intro w hSw; (try dsimp only at hSw); go_simp; try with_reducible rfl
      try simp only [Act.put, List.setIfInBounds_toArray, List.set_cons_zero, List.set_cons_succ]
      refine wpAnyH_take (i := 6) (oi := _) (v := ?_) rfl (by kernel_rfl) (by kernel_rfl) (by kernel_rfl) (fun _ _ _ h => h) (Or.inl ⟨by rfl, ?_⟩) (by assumption) ?_
      case refine_2 => intro w hSw; (try dsimp only at hSw); go_simp; try with_reducible rfl
      try simp only [Act.put, List.setIfInBounds_toArray, List.set_cons_zero, List.set_cons_succ]
      refine wpAnyH_take (i := 7) (oi := _) (v := ?_) rfl (by kernel_rfl) (by kernel_rfl) (by kernel_rfl) (fun _ _ _ h => h) (Or.inl ⟨by rfl, ?_⟩) (by assumption) ?_
      case refine_2 => intro w hSw; (try dsimp only at hSw); go_simp; try with_reducible rfl
      try simp only [Act.put, List.setIfInBounds_toArray, List.set_cons_zero, List.set_cons_succ]
      refine wpAnyH_ready (rs := [8]) (by kernel_rfl) (by simp) ?_
      refine AllReadyH.cons (o := _) rfl (fun K hK => ?_) AllReadyH.nil
      go_simp
      go_at_call 37
      (with_reducible refine (HG.out _).mono ?_)
      rintro e w10 ⟨rfl, g10⟩
      have X10 := Lib.hid (X9.out.grown (only_trans (only_drewN (only_refl _ none) 1) g10))
      clear g10 k0 k1 k2 k3 k4 k5 k6 k7 k8 k9 k10 k11 k12 k13 c0 c1 c2 c3
      have hb10 := X10.out.q.blk
      rw [HL.out, HPL.out, HVL.out] at hb10
      obtain ⟨k0, k1, k2, k3, k4, k5, k6, k7, k8, k9, k10, k11, k12, k13⟩ := Pt.cells14 hb10
      obtain ⟨f0, f1, f2, f3, f4, f5, f6, f7, f8, f9⟩ := Pt.free14 hb10
      obtain ⟨c0, c1, c2, c3⟩ := Cu.cells4 X10.out.ob
      clear hb10
      have HS10 := Lib.hid (show w10.cell? ⟨b, 4, none⟩ = some (.int .i64 pc1) ∧ w10.cell? ⟨b, 5, none⟩ = some (.int .i64 (r1 0)) ∧ w10.cell? ⟨b, 6, none⟩ = some (.int .i64 (r1 1)) ∧ w10.cell? ⟨b, 7, none⟩ = some (.int .i64 (r1 2)) ∧ w10.cell? ⟨b, 8, none⟩ = some (.int .i64 (r1 3)) ∧ w10.cell? ⟨b, 9, none⟩ = some (.int .i64 (r1 4)) ∧ w10.cell? ⟨b, 10, none⟩ = some (.int .i64 (r1 5)) ∧ w10.cell? ⟨b, 11, none⟩ = some (.int .i64 (r1 6)) ∧ w10.cell? ⟨b, 12, none⟩ = some (.int .i64 (r1 7)) ∧ w10.cell? ⟨b, 13, none⟩ = some (.int .i64 md1) ∧ w10.cell? ⟨w.heap.size + 1, 2, none⟩ = some (.int .i64 (kx : Int)) from ⟨k4, k5, k6, k7, k8, k9, k10, k11, k12, k13, c2⟩)
      refine hK.out _ _ (HS10.out) (fun hHeld => ?_)
      clear hK K
      try simp only [Act.put, List.setIfInBounds_toArray, List.set_cons_zero, List.set_cons_succ]
      refine wpAnyH_ready (rs := [9]) (by kernel_rfl) (by simp) ?_
      refine AllReadyH.cons (o := _) rfl (fun K hK => ?_) AllReadyH.nil
      go_simp
      refine hK.out _ _ (HS10.out) (fun hHeld => ?_)
      clear hK K
      try simp only [Act.put, List.setIfInBounds_toArray, List.set_cons_zero, List.set_cons_succ]
      refine wpAnyH_ready (rs := [10]) (by kernel_rfl) (by simp) ?_
      refine AllReadyH.cons (o := _) rfl (fun K hK => ?_) AllReadyH.nil
      go_simp
      refine hK.out _ _ (HS10.out) (fun hHeld => ?_)
      clear hK K
      try simp only [Act.put, List.setIfInBounds_toArray, List.set_cons_zero, List.set_cons_succ]
      refine wpAnyH_done (by kernel_rfl) ?_ _
      refine Ends.last rfl (fun K hK => ?_)
      go_simp
      refine hK.out _ _ ?_
      clear hK K HS10 HS9
      · skip
        obtain ⟨W11, hW11⟩ : ∃ W11, W11 = ((((((((((w10.setCell ⟨b, 4, none⟩ (.int .i64 pc1)).setCell ⟨b, 5, none⟩ (.int .i64 (Cu.upd r1 kx (nr % 65536) 0))).setCell ⟨b, 6, none⟩ (.int .i64 (Cu.upd r1 kx (nr % 65536) 1))).setCell ⟨b, 7, none⟩ (.int .i64 (Cu.upd r1 kx (nr % 65536) 2))).setCell ⟨b, 8, none⟩ (.int .i64 (Cu.upd r1 kx (nr % 65536) 3))).setCell ⟨b, 9, none⟩ (.int .i64 (Cu.upd r1 kx (nr % 65536) 4))).setCell ⟨b, 10, none⟩ (.int .i64 (Cu.upd r1 kx (nr % 65536) 5))).setCell ⟨b, 11, none⟩ (.int .i64 (Cu.upd r1 kx (nr % 65536) 6))).setCell ⟨b, 12, none⟩ (.int .i64 (Cu.upd r1 kx (nr % 65536) 7))).setCell ⟨b, 13, none⟩ (.int .i64 md1)) := ⟨_, rfl⟩
        have hb10 := X10.out.q.blk
        rw [HL.out, HPL.out, HVL.out] at hb10
        obtain ⟨g11, b11⟩ := Pt.put10 hb10 (.int .i64 pc1) (.int .i64 (Cu.upd r1 kx (nr % 65536) 0)) (.int .i64 (Cu.upd r1 kx (nr % 65536) 1)) (.int .i64 (Cu.upd r1 kx (nr % 65536) 2)) (.int .i64 (Cu.upd r1 kx (nr % 65536) 3)) (.int .i64 (Cu.upd r1 kx (nr % 65536) 4)) (.int .i64 (Cu.upd r1 kx (nr % 65536) 5)) (.int .i64 (Cu.upd r1 kx (nr % 65536) 6)) (.int .i64 (Cu.upd r1 kx (nr % 65536) 7)) (.int .i64 md1) W11 hW11
        have X11 := Lib.hid (X10.out.state HPC.out (show Blk W11 b 76 (Pt.cs m p.length V1.length ow pc1 (Cu.upd r1 kx (nr % 65536)) md1) from by rw [HL.out, HPL.out, HVL.out]; exact b11) g11)
        rw [← hW11]
        clear hW11 hb10 g11 b11 k0 k1 k2 k3 k4 k5 k6 k7 k8 k9 k10 k11 k12 k13 f0 f1 f2 f3 f4 f5 f6 f7 f8 f9 c0 c1 c2 c3 X10
        obtain ⟨c0, c1, c2, c3⟩ := Cu.cells4 X11.out.ob
        obtain ⟨a0, a1, a2, a3, a4⟩ := Pt.cells5 X11.out.fb
        have q1 := Go.Lib.cell?_alloc_some (.cells #[.int .i64 x.t, .int .u8 3, .int .i64 o2, .int .i64 nr, .int .i64 0, .string ⟨#[]⟩] 73) c1
        go_upto_region 9 with (fail)
        go_region
        go_wp2
        go_ret2
        have hm := Pt.Mks.one w.heap.size W11 X11.out.gs.2.2.2 73 ⟨x.t, 3, o2, nr, 0, ⟨#[]⟩⟩
        refine X11.out.fin (only_drewN (only_alloc (only_refl _ none) _) 1) (hm.grown (only_drewN (only_refl _ none) 1)) ?_ ?_ ?_
        · have := Pt.res_lt o2 x
          have e := HNR.out
          unfold Pt.regs
          rw [if_pos rfl, Int.toNat_natCast, e]
          congr 1
          omega
        · unfold Pt.told
          rw [if_pos rfl, HNR.out]
        · simp
    have f2 : (o1 == 2) = false := by simpa using e2
    by_cases e4 : o1 = 4 ∨ o1 = 5
    · have hm := Pt.Mks.one w.heap.size wc X8.out.gs.2.2.2 73 ⟨x.t, 4, o4, 0, 0, ⟨#[]⟩⟩
      have HM := Lib.hid hm
      clear hm
      rcases e4 with rfl | rfl
      all_goals
        go_wp2
        go_ret2
        refine X8.out.fin (only_alloc (only_refl _ none) _) HM.out ?_ ?_ ?_
        · rfl
        · unfold Pt.told
          simp
        · rfl
    have f4 : (o1 == 4) = false := by simp; omega
    have f5 : (o1 == 5) = false := by simp; omega
    have HE4 := Lib.hid e4
    have HE2 := Lib.hid e2
    clear e4
    go_wp2
    go_ret2
    refine X8.out.fin (only_refl _ none) (Pt.Mks.nil _ _) ?_ ?_ ?_
    · unfold Pt.regs
      rw [if_neg HE2.out]
    · unfold Pt.told
      rw [if_neg HE2.out, if_neg HE4.out]
    · simp [f2]
end
end Go.Proofs.YthhodadfiipffaaDoor

/- Package part: the calls of a partition by contract. -/
namespace Go.Proofs.YthhodadfiipffaaDoor
open Go.RowKit Go.Lib
set_option linter.unusedVariables false
set_option maxRecDepth 8000

/-- A partition's bytes and state. -/
structure Pt.Sm where
  v : List UInt8
  pc : Int
  r : Nat → Int
  md : Int
def Pt.af (s : Pt.Sm) : Cu.Af := Cu.step s.v s.pc s.r s.md
def Pt.stp (s : Pt.Sm) (x : Pt.F) : Pt.Sm := ⟨(Pt.af s).v, (Pt.af s).pc, Pt.regs (Pt.af s).o1 (Pt.af s).o2 (Pt.af s).o3 (Pt.af s).r x, (Pt.af s).md⟩
def Pt.stl (s : Pt.Sm) (x : Pt.F) : List Pt.Mk := Pt.told (Pt.af s).o1 (Pt.af s).o2 (Pt.af s).o4 x
def Pt.stf (s : Pt.Sm) : Bool := (Pt.af s).o1 == 2 && (Pt.af s).o2 == 4
def Pt.opn (s : Pt.Sm) : Pt.Sm := ⟨s.v, s.pc, s.r, if s.md = 1 then 0 else s.md⟩
def Pt.opl (s : Pt.Sm) (t b : Int) : List Pt.Mk := if b = 0 then [⟨t, 1, 0, 0, 0, ⟨s.v.toArray⟩⟩] else [⟨t, 1, 0, 0, 0, ⟨s.v.toArray⟩⟩, ⟨t, 2, b, 0, 0, ⟨#[]⟩⟩]
/-- The names' table stays where block 0 does. -/
theorem Pt.nm_kp {w w' : World} {b g : Nat} (h : Nm w) (k : Pt.Kp b g w w') (hb : b ≠ 0) (hg : g ≠ 0) : Nm w' := by
  refine ⟨fun i hi => ?_, Nat.lt_of_lt_of_le h.2 k.2.2.2.1⟩
  rw [← h.1 i hi]
  simp only [World.cell?, k.2.2.2.2 0 h.2 (Ne.symm hb) (Ne.symm hg)]
theorem Pt.exec_x (V : List UInt8) (pc : Int) (r : Nat → Int) (c x n : Nat) (hx : x < 8) (h : (Cu.exec V pc r c x n).o1 = 2) : ∃ k : Nat, k < 8 ∧ (Cu.exec V pc r c x n).o3 = k := by
  unfold Cu.exec at h ⊢
  split at h
  · simp at h
  split at h
  · simp at h
  split at h
  · rename_i h0 h15 h14
    rw [if_neg h0, if_neg h15, if_pos h14]
    exact ⟨x, hx, rfl⟩
  split at h
  · simp at h
  split at h
  · split at h <;> simp at h
  split at h
  · split at h <;> simp at h
  · simp at h
theorem Pt.step_x (s : Pt.Sm) (h : (Pt.af s).o1 = 2) : ∃ k : Nat, k < 8 ∧ (Pt.af s).o3 = k := by
  unfold Pt.af Cu.step at h ⊢
  split at h
  · simp at h
  · rename_i h0
    rw [if_neg h0]
    split at h
    · rename_i h1
      rw [if_pos h1]
      split at h
      · rename_i h2
        rw [if_pos h2]
        obtain ⟨_, _, hx, _, _⟩ := mayI_facts h2
        exact Pt.exec_x _ _ _ _ _ _ (by omega) h
      · simp at h
    · simp at h
section
variable {w : World} {B b m g : Nat} {p q : List UInt8} {s : Pt.Sm} {ow : Int}
theorem Pt.step_any (h : Pt.Q w B b m g p s.v q ow s.pc s.r s.md) (hN : Nm w) (x : Pt.F) : Calls Tryd.prog 16 #[.pointer (some ⟨b, 0, none⟩), .agg #[.int .i64 x.t, .int .i64 x.f, .int .i64 x.d, .int .i64 x.p, .int .i64 x.b]] w (Pt.StepV w B b m g p (Pt.stp s x).v q ow (Pt.stp s x).pc (Pt.stp s x).r (Pt.stp s x).md (Pt.stl s x) (Pt.stf s)) := by
  have hlim := h.lim
  rw [Pt.len3] at hlim
  exact Pt.step_core h x (Cu.step_len s.v s.pc s.r s.md) (Cu.step_pc s.v s.pc s.r s.md (by omega) h.pcb) (fun W hm hg => Cu.step_any W B m g p s.v q hm (hN.grown hg (by simp)) (by rw [Pt.len3]; omega) s.pc h.pcb s.r s.md) (Pt.step_x s)
theorem Pt.owner_any (h : Pt.Q w B b m g p s.v q ow s.pc s.r s.md) : Calls Tryd.prog 24 #[.pointer (some ⟨b, 0, none⟩)] w fun e w' => e = .returned (.int .i64 ow) ∧ w = w' := by
  have c3 : w.cell? ⟨b, 3, none⟩ = some (.int .i64 ow) := h.blk.cell 3
  clear h
  go_enter Tryd.func24, Tryd.ntmps24
  go_wp2
  go_ret
  exact ⟨rfl, rfl⟩
theorem Pt.state_any (h : Pt.Q w B b m g p s.v q ow s.pc s.r s.md) : Calls Tryd.prog 18 #[.pointer (some ⟨b, 0, none⟩)] w fun e w' => e = .returned (.agg #[.int .i64 s.pc, .int .i64 (s.r 0), .int .i64 (s.r 1), .int .i64 (s.r 2), .int .i64 (s.r 3), .int .i64 (s.r 4), .int .i64 (s.r 5), .int .i64 (s.r 6), .int .i64 (s.r 7), .int .i64 s.md]) ∧ w.grownBy w' none := by
  have hb := h.blk
  have hlt := h.lt.1
  clear h
  obtain ⟨k0, k1, k2, k3, k4, k5, k6, k7, k8, k9, k10, k11, k12, k13⟩ := Pt.cells14 hb
  have n1 : ¬ b = w.heap.size := by omega
  have n2 : ¬ w.heap.size = b := by omega
  clear hb hlt
  have z4 := Go.Lib.cell?_alloc_some (.cells #[.int .i64 0, .int .i64 0, .int .i64 0, .int .i64 0, .int .i64 0, .int .i64 0, .int .i64 0, .int .i64 0, .int .i64 0, .int .i64 0] 55) k4
  have z5 := Go.Lib.cell?_alloc_some (.cells #[.int .i64 0, .int .i64 0, .int .i64 0, .int .i64 0, .int .i64 0, .int .i64 0, .int .i64 0, .int .i64 0, .int .i64 0, .int .i64 0] 55) k5
  have z6 := Go.Lib.cell?_alloc_some (.cells #[.int .i64 0, .int .i64 0, .int .i64 0, .int .i64 0, .int .i64 0, .int .i64 0, .int .i64 0, .int .i64 0, .int .i64 0, .int .i64 0] 55) k6
  have z7 := Go.Lib.cell?_alloc_some (.cells #[.int .i64 0, .int .i64 0, .int .i64 0, .int .i64 0, .int .i64 0, .int .i64 0, .int .i64 0, .int .i64 0, .int .i64 0, .int .i64 0] 55) k7
  have z8 := Go.Lib.cell?_alloc_some (.cells #[.int .i64 0, .int .i64 0, .int .i64 0, .int .i64 0, .int .i64 0, .int .i64 0, .int .i64 0, .int .i64 0, .int .i64 0, .int .i64 0] 55) k8
  have z9 := Go.Lib.cell?_alloc_some (.cells #[.int .i64 0, .int .i64 0, .int .i64 0, .int .i64 0, .int .i64 0, .int .i64 0, .int .i64 0, .int .i64 0, .int .i64 0, .int .i64 0] 55) k9
  have z10 := Go.Lib.cell?_alloc_some (.cells #[.int .i64 0, .int .i64 0, .int .i64 0, .int .i64 0, .int .i64 0, .int .i64 0, .int .i64 0, .int .i64 0, .int .i64 0, .int .i64 0] 55) k10
  have z11 := Go.Lib.cell?_alloc_some (.cells #[.int .i64 0, .int .i64 0, .int .i64 0, .int .i64 0, .int .i64 0, .int .i64 0, .int .i64 0, .int .i64 0, .int .i64 0, .int .i64 0] 55) k11
  have z12 := Go.Lib.cell?_alloc_some (.cells #[.int .i64 0, .int .i64 0, .int .i64 0, .int .i64 0, .int .i64 0, .int .i64 0, .int .i64 0, .int .i64 0, .int .i64 0, .int .i64 0] 55) k12
  have z13 := Go.Lib.cell?_alloc_some (.cells #[.int .i64 0, .int .i64 0, .int .i64 0, .int .i64 0, .int .i64 0, .int .i64 0, .int .i64 0, .int .i64 0, .int .i64 0, .int .i64 0] 55) k13
  go_enter Tryd.func18, Tryd.ntmps18
  go_wp2
  refine bodyPost_ret (v := .agg #[.int .i64 s.pc, .int .i64 (s.r 0), .int .i64 (s.r 1), .int .i64 (s.r 2), .int .i64 (s.r 3), .int .i64 (s.r 4), .int .i64 (s.r 5), .int .i64 (s.r 6), .int .i64 (s.r 7), .int .i64 s.md]) (by simp [results, Tryd.results18, go_sem]) rfl ⟨rfl, ?_⟩
  repeat (first | exact only_refl _ _ | refine only_alloc ?_ _)
theorem Pt.text_any (h : Pt.Q w B b m g p s.v q ow s.pc s.r s.md) : Calls Tryd.prog 25 #[.pointer (some ⟨b, 0, none⟩)] w fun e w' => e = .returned (.string ⟨s.v.toArray⟩) ∧ w.grownBy w' none := by
  have HT := Lib.hid (show Calls Tryd.prog 41 #[.agg #[.pointer (some ⟨m, 0, none⟩), .int .i64 p.length, .int .i64 s.v.length]] w fun e w' => e = .returned (.string ⟨s.v.toArray⟩) ∧ w.grownBy w' none from Cu.text_any w B m p s.v q h.mem.mem (by have := h.lim; omega))
  have hb := h.blk
  clear h
  obtain ⟨k0, k1, k2, k3, k4, k5, k6, k7, k8, k9, k10, k11, k12, k13⟩ := Pt.cells14 hb
  clear hb
  generalize s.v.length = vl at *
  generalize p.length = pl at *
  generalize (⟨s.v.toArray⟩ : ByteArray) = t at *
  go_enter Tryd.func25, Tryd.ntmps25
  go_wp2_with (go_at_call 41; (with_reducible refine HT.out.mono ?_); rintro e w1 ⟨rfl, g1⟩; have G1 := Lib.hid g1; clear g1)
  go_ret
  exact ⟨rfl, G1.out⟩
end
end Go.Proofs.YthhodadfiipffaaDoor

/- The law's live: a program that calls 1; what a hypercall tells, walked. -/
namespace Go.Proofs.YthhodadfiipffaaDoor
open Go.RowKit Go.Lib
set_option linter.unusedVariables false
set_option maxRecDepth 20000

def Pt.lv : List UInt8 := [14, 2, 1, 0] ++ Cu.z 36
def Pt.ls : Pt.Sm := ⟨Pt.lv, 0, fun _ => 0, 0⟩
def Pt.lx : Pt.F := ⟨70000, 0, 0, 0, 0⟩
theorem Pt.ls_af : (Pt.af Pt.ls).o1 = 2 ∧ (Pt.af Pt.ls).o2 = 1 ∧ (Pt.af Pt.ls).o3 = 2 := ⟨by kernel_rfl, by kernel_rfl, by kernel_rfl⟩
theorem Pt.ls_r : (Pt.stp Pt.ls Pt.lx).r 2 = 4464 := by
  unfold Pt.stp
  rw [Pt.ls_af.1, Pt.ls_af.2.1, Pt.ls_af.2.2]
  rfl
theorem Pt.ls_l : Pt.stl Pt.ls Pt.lx = [⟨70000, 3, 1, 4464, 0, ⟨#[]⟩⟩] := by
  unfold Pt.stl
  rw [Pt.ls_af.1, Pt.ls_af.2.1]
  rfl
theorem Pt.ls_f : Pt.stf Pt.ls = false := by
  unfold Pt.stf
  rw [Pt.ls_af.1, Pt.ls_af.2.1]
  rfl
theorem Pt.kp_fresh {w W W' : World} {b g : Nat} (k : w.grownBy W none) (h : Pt.Kp b g W W') (hb : w.heap.size ≤ b) (hg : w.heap.size ≤ g) : w.grownBy W' none :=
  ⟨h.1.trans k.os, h.2.1.trans k.tape, h.2.2.1.trans k.output, Nat.le_trans k.size h.2.2.2.1, fun i hi _ => (h.2.2.2.2 i (Nat.lt_of_lt_of_le hi k.size) (by omega) (by omega)).trans (k.block i hi (by simp))⟩
set_option maxHeartbeats 3200000 in
theorem Pt.live_any (w : World) (hN : Nm w) : Calls Tryd.prog 7 #[] w fun e w' => e = .returned (.bool true) ∧ w.grownBy w' none := by
  have HNM := Lib.hid hN
  have HNE := Lib.hid ((mnew_any 300 w).mono (R' := fun r w' => ∃ m g, r = .returned (.pointer (some ⟨m, 0, none⟩)) ∧ MemG w' w.heap.size m g (Cu.z 200 ++ Cu.z 40 ++ Cu.z 60) ∧ w.grownBy w' none) fun e w' ⟨m, h1, h2, h3⟩ => by
    obtain ⟨g, h4⟩ := h2.named
    exact ⟨m, g, h1, h4, Cu.grow_of h3⟩)
  have HPN := Lib.hid (fun (W : World) (m g : Nat) (hm : MemG W w.heap.size m g (Cu.z 200 ++ Cu.z 40 ++ Cu.z 60)) (hg : w.grownBy W none) => show Calls Tryd.prog 8 #[.int .i64 3, .agg #[.pointer (some ⟨m, 0, none⟩), .int .i64 200, .int .i64 40], .string ⟨#[14, 2, 1, 0]⟩] W fun e w' => ∃ b, e = .returned (.tuple #[.pointer (some ⟨b, 0, none⟩), .int .i64 0]) ∧ Pt.Q w' w.heap.size b m g (Cu.z 200) Pt.ls.v (Cu.z 60) 3 Pt.ls.pc Pt.ls.r Pt.ls.md ∧ w.grownBy w' none ∧ w.heap.size ≤ b ∧ w.heap.size ≤ g from
    (Pt.new_ok W w.heap.size m g (Cu.z 200) (Cu.z 40) (Cu.z 60) hm (by decide) 3 (by omega) ⟨#[14, 2, 1, 0]⟩ (by decide)).mono fun e w' ⟨b, h1, h2, h3, h4⟩ => ⟨b, h1, h2, ⟨h3.os.trans hg.os, h3.tape.trans hg.tape, h3.output.trans hg.output, Nat.le_trans hg.size h3.size, fun i hi _ => (h3.block i (Nat.lt_of_lt_of_le hi hg.size) (fun e => by injection e with e; have := hm.1; omega)).trans (hg.block i hi (by simp))⟩, Nat.le_trans hg.size h4, hm.1⟩)
  have HST := Lib.hid (fun (W : World) (b m g : Nat) (h : Pt.Q W w.heap.size b m g (Cu.z 200) Pt.ls.v (Cu.z 60) 3 Pt.ls.pc Pt.ls.r Pt.ls.md) (hg : w.grownBy W none) (hb : w.heap.size ≤ b) (hgg : w.heap.size ≤ g) => show Calls Tryd.prog 16 #[.pointer (some ⟨b, 0, none⟩), .agg #[.int .i64 70000, .int .i64 0, .int .i64 0, .int .i64 0, .int .i64 0]] W fun e w' => ∃ rb off c, e = .returned (.tuple #[.slice (some ⟨rb, off, none⟩) 1 c, .bool false]) ∧ 1 ≤ c ∧ rb < w'.heap.size ∧ (w'.cell? ⟨rb, off, none⟩ = some (.int .i64 70000) ∧ w'.cell? ⟨rb, off + 1, none⟩ = some (.int .u8 3) ∧ w'.cell? ⟨rb, off + 2, none⟩ = some (.int .i64 1) ∧ w'.cell? ⟨rb, off + 3, none⟩ = some (.int .i64 4464) ∧ w'.cell? ⟨rb, off + 4, none⟩ = some (.int .i64 0) ∧ w'.cell? ⟨rb, off + 5, none⟩ = some (.string ⟨#[]⟩)) ∧ Pt.Q w' w.heap.size b m g (Cu.z 200) (Pt.stp Pt.ls Pt.lx).v (Cu.z 60) 3 (Pt.stp Pt.ls Pt.lx).pc (Pt.stp Pt.ls Pt.lx).r (Pt.stp Pt.ls Pt.lx).md ∧ w.grownBy w' none from
    (Pt.step_any h (HNM.out.grown hg (by simp)) Pt.lx).mono fun e w' hh => by
      obtain ⟨v, h1, ⟨A, c, rfl, h3, h4, h5⟩, h6, h7⟩ := hh
      rw [Pt.ls_f] at h1
      rw [Pt.ls_l] at h1 h3 h5
      obtain ⟨rb, off, rfl, k1, k2, k3⟩ := h5 (by simp)
      have kk := k3 0 _ rfl
      rw [Nat.zero_mul, Nat.add_zero] at kk
      exact ⟨rb, off, c, h1, h3, k2, ⟨kk 0 _ rfl, kk 1 _ rfl, kk 2 _ rfl, kk 3 _ rfl, kk 4 _ rfl, kk 5 _ rfl⟩, h6, Pt.kp_fresh hg h7 hb hgg⟩)
  have HSA := Lib.hid (fun (W : World) (b m g : Nat) (h : Pt.Q W w.heap.size b m g (Cu.z 200) (Pt.stp Pt.ls Pt.lx).v (Cu.z 60) 3 (Pt.stp Pt.ls Pt.lx).pc (Pt.stp Pt.ls Pt.lx).r (Pt.stp Pt.ls Pt.lx).md) => show Calls Tryd.prog 18 #[.pointer (some ⟨b, 0, none⟩)] W fun e w' => ∃ y0 y1 y2 y4 y5 y6 y7 y8 y9, e = .returned (.agg #[.int .i64 y0, .int .i64 y1, .int .i64 y2, .int .i64 4464, .int .i64 y4, .int .i64 y5, .int .i64 y6, .int .i64 y7, .int .i64 y8, .int .i64 y9]) ∧ W.grownBy w' none from
    (Pt.state_any h).mono fun e w' hh => by
      obtain ⟨h1, h2⟩ := hh
      rw [Pt.ls_r] at h1
      exact ⟨_, _, _, _, _, _, _, _, _, h1, h2⟩)
  have HOW := Lib.hid (fun (W : World) (b m g : Nat) (h : Pt.Q W w.heap.size b m g (Cu.z 200) (Pt.stp Pt.ls Pt.lx).v (Cu.z 60) 3 (Pt.stp Pt.ls Pt.lx).pc (Pt.stp Pt.ls Pt.lx).r (Pt.stp Pt.ls Pt.lx).md) => Pt.owner_any h)
  have he : ∀ W, (binOp BinOp.eql 73 (.agg #[.int .i64 70000, .int .u8 3, .int .i64 1, .int .i64 4464, .int .i64 0, .string ⟨#[]⟩]) (.agg #[.int .i64 70000, .int .u8 3, .int .i64 1, .int .i64 4464, .int .i64 0, .string ⟨#[]⟩])).run Tryd.prog W = .ok (.bool true) W := fun W => by kernel_rfl
  clear hN
  go_enter Tryd.func7, Tryd.ntmps7
  go_upto_region 4 with (first
    | (go_at_call 9; (with_reducible refine HNE.out.mono ?_); rintro e w1 ⟨m, g, rfl, hm, g1⟩; have HM := Lib.hid hm; have G1 := Lib.hid g1; clear hm g1)
    | (go_at_call 8; (with_reducible refine (HPN.out _ _ _ HM.out G1.out).mono ?_); rintro e w2 ⟨b, rfl, hq, g2, hb, hgg⟩; have HQ := Lib.hid hq; have G2 := Lib.hid g2; have HB := Lib.hid hb; have HGG := Lib.hid hgg; clear hq g2 hb hgg)
    | (go_at_call 16; (with_reducible refine (HST.out _ _ _ _ HQ.out G2.out HB.out HGG.out).mono ?_); rintro e w3 ⟨rb, off, c, rfl, hc, hrb, hcs, hq3, g3⟩; have Q3 := Lib.hid hq3; have G3 := Lib.hid g3; have HC := Lib.hid hc; have HRB := Lib.hid hrb; have HCS := Lib.hid hcs; clear hq3 g3 hc hrb hcs)
    | (go_at_call 18; (with_reducible refine (HSA.out _ _ _ _ Q3.out).mono ?_); rintro e w4 ⟨y0, y1, y2, y4, y5, y6, y7, y8, y9, rfl, g4⟩; have G4 := Lib.hid g4; clear g4))
  have g5 : w4.grownBy (w4.alloc (.cells #[.int .i64 y0, .int .i64 y1, .int .i64 y2, .int .i64 4464, .int .i64 y4, .int .i64 y5, .int .i64 y6, .int .i64 y7, .int .i64 y8, .int .i64 y9] 55)) none := only_alloc (only_refl _ none) _
  have hb5 := Blk.new w4 55 #[.int .i64 y0, .int .i64 y1, .int .i64 y2, .int .i64 4464, .int .i64 y4, .int .i64 y5, .int .i64 y6, .int .i64 y7, .int .i64 y8, .int .i64 y9]
  obtain ⟨w5, hw5⟩ : ∃ w5, w5 = w4.alloc (.cells #[.int .i64 y0, .int .i64 y1, .int .i64 y2, .int .i64 4464, .int .i64 y4, .int .i64 y5, .int .i64 y6, .int .i64 y7, .int .i64 y8, .int .i64 y9] 55) := ⟨_, rfl⟩
  rw [← hw5] at g5 hb5
  rw [← hw5]
  have c3 : w5.cell? ⟨w4.heap.size, 3, none⟩ = some (.int .i64 4464) := hb5.cell 3
  have g35 := only_trans G4.out g5
  have hbk := g35.block rb HRB.out (by simp)
  obtain ⟨k0, k1, k2, k3, k4, k5⟩ : w5.cell? ⟨rb, off, none⟩ = some (.int .i64 70000) ∧ w5.cell? ⟨rb, off + 1, none⟩ = some (.int .u8 3) ∧ w5.cell? ⟨rb, off + 2, none⟩ = some (.int .i64 1) ∧ w5.cell? ⟨rb, off + 3, none⟩ = some (.int .i64 4464) ∧ w5.cell? ⟨rb, off + 4, none⟩ = some (.int .i64 0) ∧ w5.cell? ⟨rb, off + 5, none⟩ = some (.string ⟨#[]⟩) := by
    simp only [World.cell?, hbk]
    exact HCS.out
  have Q5 := Lib.hid (Q3.out.grown g35)
  have G5 := Lib.hid (only_trans G3.out g35)
  have hc1 : 1 ≤ c := HC.out
  have HOQ := Lib.hid (HOW.out _ _ _ _ Q5.out)
  clear hw5 g5 hb5 g35 hbk HNM HNE HPN HST HSA HOW
  go_wp2_with (go_at_call 24; (with_reducible refine HOQ.out.mono ?_); rintro e w6 ⟨rfl, rfl⟩)
  go_ret
  exact ⟨by first | rfl | (simp; done), G5.out⟩
end Go.Proofs.YthhodadfiipffaaDoor

/- What a hypercall tells, walked. -/
namespace Go.Proofs.YthhodadfiipffaaDoor
open Go.RowKit Go.Lib Go.Sort
set_option linter.unusedVariables false
set_option maxRecDepth 20000

theorem Pt.bel {w W : World} (g : w.grownBy W none) : Below w.heap.size w W := below_of_only g (Nat.le_refl _) (fun k hk => by cases hk)
theorem Pt.calls_bel {f : FuncId} {a : Array Value} {w : World} {v : Value} (h : Calls Tryd.prog f a w fun e w' => e = .returned v ∧ w.grownBy w' none) : Calls Tryd.prog f a w fun e w' => e = .returned v ∧ Below w.heap.size w w' := h.mono fun _ _ hh => ⟨hh.1, Pt.bel hh.2⟩
theorem Pt.results_walk (n : Int) (x : Pt.F) (w : World) (hN : Nm w) : Calls Tryd.prog 5 #[.int .i64 n, .agg #[.int .i64 x.t, .int .i64 x.f, .int .i64 x.d, .int .i64 x.p, .int .i64 x.b]] w fun e w' => e = .returned (.bool true) ∧ Below w.heap.size w w' := by
  have g1 : w.grownBy (w.alloc (.cells #[.int .i64 x.t, .int .i64 x.f, .int .i64 x.d, .int .i64 x.p, .int .i64 x.b] 42)) none := only_alloc (only_refl _ none) _
  have hb := Blk.new w 42 #[.int .i64 x.t, .int .i64 x.f, .int .i64 x.d, .int .i64 x.p, .int .i64 x.b]
  obtain ⟨W, hW⟩ : ∃ W, W = w.alloc (.cells #[.int .i64 x.t, .int .i64 x.f, .int .i64 x.d, .int .i64 x.p, .int .i64 x.b] 42) := ⟨_, rfl⟩
  rw [← hW] at g1 hb
  obtain ⟨c0, c1, c2, c3, c4⟩ := Pt.cells5 hb
  have HL := Lib.hid (fun (d : Nat) (os : Array Obj) => Pt.calls_bel (Pt.live_any (grow (redrawn W d) os) ((hN.grown g1 (by simp)).grown (Cu.grow_of (below_regrown W d os)) (by simp))))
  have HF := Lib.hid (fun (d : Nat) (os : Array Obj) => Pt.calls_bel (Pt.facts_any x (grow (redrawn W d) os)))
  obtain ⟨rz, hrz⟩ : ∃ rz, Pt.res n x = rz := ⟨_, rfl⟩
  have HR := Lib.hid (fun (d : Nat) (os : Array Obj) => show Calls Tryd.prog 20 #[.int .i64 n, .agg #[.int .i64 x.t, .int .i64 x.f, .int .i64 x.d, .int .i64 x.p, .int .i64 x.b]] (grow (redrawn W d) os) fun e w' => e = .returned (.int .i64 rz) ∧ Below (grow (redrawn W d) os).heap.size (grow (redrawn W d) os) w' from by rw [← hrz]; exact Pt.calls_bel (Pt.result_any n x _))
  have HRR := Lib.hid (fun (d : Nat) (os : Array Obj) => show Calls Tryd.prog 21 #[.int .i64 n, .agg #[.int .i64 x.t, .int .i64 x.f, .int .i64 x.d, .int .i64 x.p, .int .i64 x.b]] (grow (redrawn W d) os) fun e w' => e = .returned (.int .i64 rz) ∧ Below (grow (redrawn W d) os).heap.size (grow (redrawn W d) os) w' from by rw [← hrz]; exact Pt.calls_bel (Pt.rresult_any n x _))
  have G1 := Lib.hid g1
  have r0 := fun d os => cell_regrown c0 d os
  have r1 := fun d os => cell_regrown c1 d os
  have r2 := fun d os => cell_regrown c2 d os
  have r3 := fun d os => cell_regrown c3 d os
  have r4 := fun d os => cell_regrown c4 d os
  clear hb hrz c0 c1 c2 c3 c4 g1
  go_enter Tryd.func5, Tryd.ntmps5
  go_upto_region 1 with (fail)
  rw [← hW]
  clear hW
  refine wp_region_quiet_below (by kernel_rfl) (by kernel_rfl) ?_
  repeat (quiet_step ((first
    | (go_at_call 7; with_reducible exact Calls.regrown_of (HL.out _ _))
    | (go_at_call 22; with_reducible exact Calls.regrown_of (HF.out _ _))
    | (go_at_call 20; with_reducible exact Calls.regrown_of (HR.out _ _))
    | (go_at_call 21; with_reducible exact Calls.regrown_of (HRR.out _ _)))))
  refine wpQuiet_nil ?_
  rintro _ ⟨⟨dq, osq⟩, rfl⟩
  go_wp2
  go_ret
  exact ⟨by first | rfl | (simp; done), Pt.bel (only_trans G1.out (Cu.grow_of (below_regrown W dq osq)))⟩
end Go.Proofs.YthhodadfiipffaaDoor
