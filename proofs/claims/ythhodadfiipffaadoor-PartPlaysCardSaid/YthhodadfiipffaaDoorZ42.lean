import Derived.Test.YthhodadfiipffaaDoorZ41
import Derived.Test.YthhodadfiipffaaDoorZ24
set_option linter.all false
/- Package part: the law's do. -/
namespace Go.Proofs.YthhodadfiipffaaDoor
open Go.RowKit Go.Lib
set_option linter.unusedVariables false
set_option maxRecDepth 20000

theorem Pt.ints_kp {w w' : World} {A : Option Addr} {c b g : Nat} {V : List UInt8} (h : Ints w A c (num V)) (k : Pt.Kp b g w w') (o : OffI V A b ∧ OffI V A g) : Ints w' A c (num V) := by
  refine ⟨h.1, fun hp => ?_⟩
  obtain ⟨i, off, rfl, h2, h3⟩ := h.2 hp
  have hp' : 0 < V.length := by rw [num_len] at hp; exact hp
  have n1 : i ≠ b := o.1 hp' i off rfl
  have n2 : i ≠ g := o.2 hp' i off rfl
  refine ⟨i, off, rfl, Nat.lt_of_lt_of_le h2 k.2.2.2.1, fun x hx => ?_⟩
  rw [← h3 x hx]
  simp only [World.cell?, k.2.2.2.2 i h2 n1 n2]
theorem Pt.Kp.pre {w w1 w2 : World} {b g : Nat} (k : w.grownBy w1 none) (h : Pt.Kp b g w1 w2) : Pt.Kp b g w w2 := ⟨h.1.trans k.os, h.2.1.trans k.tape, h.2.2.1.trans k.output, Nat.le_trans k.size h.2.2.2.1, fun i hi h1 h2 => (h.2.2.2.2 i (Nat.lt_of_lt_of_le hi k.size) h1 h2).trans (k.block i hi (by simp))⟩
theorem Pt.Kp.post {w w1 w2 : World} {b g : Nat} (h : Pt.Kp b g w w1) (k : w1.grownBy w2 none) : Pt.Kp b g w w2 := ⟨k.os.trans h.1, k.tape.trans h.2.1, k.output.trans h.2.2.1, Nat.le_trans h.2.2.2.1 k.size, fun i hi h1 h2 => (k.block i (Nat.lt_of_lt_of_le hi h.2.2.2.1) (by simp)).trans (h.2.2.2.2 i hi h1 h2)⟩
theorem Pt.Kp.box {w w1 w2 : World} {b g x : Nat} (h : Pt.Kp b g w w1) (k : w1.grownBy w2 (some x)) (hx : w.heap.size ≤ x) : Pt.Kp b g w w2 := ⟨k.os.trans h.1, k.tape.trans h.2.1, k.output.trans h.2.2.1, Nat.le_trans h.2.2.2.1 k.size, fun i hi h1 h2 => (k.block i (Nat.lt_of_lt_of_le hi h.2.2.2.1) (fun e => by injection e with e; omega)).trans (h.2.2.2.2 i hi h1 h2)⟩
theorem Pt.MkR.grown {w w' : World} {v : Value} {l : List Pt.Mk} (h : Pt.MkR w v l) (k : w.grownBy w' none) : Pt.MkR w' v l := by
  obtain ⟨A, c, rfl, h2, h4⟩ := h
  refine ⟨A, c, rfl, h2, fun hp => ?_⟩
  obtain ⟨i, off, rfl, k3, k4⟩ := h4 hp
  exact ⟨i, off, rfl, Nat.lt_of_lt_of_le k3 k.size, fun a x hx j u hu => k.cell (k4 a x hx j u hu) (by simp)⟩
/-- A partition, and the document's. -/
structure Pt.Bo (W : World) (B b m g : Nat) (p q : List UInt8) (ow : Int) (A : Option Addr) (n c : Nat) (s : Pt.Sm) : Prop where
  a : Pt.Q W B b m g p s.v q ow s.pc s.r s.md
  i : Ints W A c (num s.v)
  ln : s.v.length = n
  l1 : n ≤ 1000
  o : OffI s.v A b ∧ OffI s.v A g
theorem Pt.Bo.grown {W W' : World} {B b m g : Nat} {p q : List UInt8} {ow : Int} {A : Option Addr} {n c : Nat} {s : Pt.Sm} (h : Pt.Bo W B b m g p q ow A n c s) (k : W.grownBy W' none) : Pt.Bo W' B b m g p q ow A n c s := ⟨h.a.grown k, Cu.ints_gr h.i k, h.ln, h.l1, h.o⟩
def Pt.aft (s : Pt.Sm) (y : Pt.Dd) : Pt.Sm := if y.o = true then Pt.opn s else Pt.stp s y.x
/-- What do leaves. -/
def Pt.DoV (w : World) (B b m g : Nat) (p q : List UInt8) (ow : Int) (A : Option Addr) (n : Nat) (s s' : Pt.Sm) (e : Ending) (w' : World) : Prop :=
  ∃ A' c', e = .returned (.tuple #[.agg #[.slice A' n c', .int .i64 s'.pc, .int .i64 (s'.r 0), .int .i64 (s'.r 1), .int .i64 (s'.r 2), .int .i64 (s'.r 3), .int .i64 (s'.r 4), .int .i64 (s'.r 5), .int .i64 (s'.r 6), .int .i64 (s'.r 7), .int .i64 s'.md], .bool true]) ∧ Pt.Bo w' B b m g p q ow A' n c' s' ∧ Pt.Kp b g w w' ∧ ∀ i, i < w.heap.size → OffI s.v A i → OffI s'.v A' i
theorem Pt.cells6 {W : World} {b : Nat} {t : TypeId} {x0 x1 x2 x3 x4 x5 : Value} (h : Blk W b t #[x0, x1, x2, x3, x4, x5]) : W.cell? ⟨b, 0, none⟩ = some x0 ∧ W.cell? ⟨b, 1, none⟩ = some x1 ∧ W.cell? ⟨b, 2, none⟩ = some x2 ∧ W.cell? ⟨b, 3, none⟩ = some x3 ∧ W.cell? ⟨b, 4, none⟩ = some x4 ∧ W.cell? ⟨b, 5, none⟩ = some x5 := ⟨h.cell 0, h.cell 1, h.cell 2, h.cell 3, h.cell 4, h.cell 5⟩
set_option maxHeartbeats 12800000 in
theorem Pt.do_open (w : World) (B b m g : Nat) (p q : List UInt8) (ow : Int) (A : Option Addr) (n c : Nat) (s : Pt.Sm) (y : Pt.Dd) (h : Pt.Bo w B b m g p q ow A n c s) (hy : y.o = true) : Calls Tryd.prog 11 #[.pointer (some ⟨b, 0, none⟩), .agg #[.slice A n c, .int .i64 s.pc, .int .i64 (s.r 0), .int .i64 (s.r 1), .int .i64 (s.r 2), .int .i64 (s.r 3), .int .i64 (s.r 4), .int .i64 (s.r 5), .int .i64 (s.r 6), .int .i64 (s.r 7), .int .i64 s.md], .agg #[.bool true, .int .i64 y.x.t, .int .i64 y.x.f, .int .i64 y.x.d, .int .i64 y.x.p, .int .i64 y.x.b]] w (Pt.DoV w B b m g p q ow A n s (Pt.opn s)) := by
  obtain ⟨W0, hW0⟩ : ∃ W0, W0 = ((w.alloc (.cells #[.slice A n c, .int .i64 s.pc, .int .i64 (s.r 0), .int .i64 (s.r 1), .int .i64 (s.r 2), .int .i64 (s.r 3), .int .i64 (s.r 4), .int .i64 (s.r 5), .int .i64 (s.r 6), .int .i64 (s.r 7), .int .i64 s.md] 37)).alloc (.cells #[.bool true, .int .i64 y.x.t, .int .i64 y.x.f, .int .i64 y.x.d, .int .i64 y.x.p, .int .i64 y.x.b] 44)).alloc (.cells #[.slice none 0 0, .int .i64 0, .int .i64 0, .int .i64 0, .int .i64 0, .int .i64 0, .int .i64 0, .int .i64 0, .int .i64 0, .int .i64 0, .int .i64 0] 37) := ⟨_, rfl⟩
  have G0 := Lib.hid (show w.grownBy W0 none by rw [hW0]; exact only_alloc (only_alloc (only_alloc (only_refl _ none) _) _) _)
  have PB := Lib.hid (show Blk W0 w.heap.size 37 #[.slice A n c, .int .i64 s.pc, .int .i64 (s.r 0), .int .i64 (s.r 1), .int .i64 (s.r 2), .int .i64 (s.r 3), .int .i64 (s.r 4), .int .i64 (s.r 5), .int .i64 (s.r 6), .int .i64 (s.r 7), .int .i64 s.md] by rw [hW0]; exact ((Blk.new _ _ _).alloc _).alloc _)
  have FB := Lib.hid (show Blk W0 (w.heap.size + 1) 44 #[.bool true, .int .i64 y.x.t, .int .i64 y.x.f, .int .i64 y.x.d, .int .i64 y.x.p, .int .i64 y.x.b] by rw [hW0]; have := Blk.new (w.alloc (.cells #[.slice A n c, .int .i64 s.pc, .int .i64 (s.r 0), .int .i64 (s.r 1), .int .i64 (s.r 2), .int .i64 (s.r 3), .int .i64 (s.r 4), .int .i64 (s.r 5), .int .i64 (s.r 6), .int .i64 (s.r 7), .int .i64 s.md] 37)) 44 #[.bool true, .int .i64 y.x.t, .int .i64 y.x.f, .int .i64 y.x.d, .int .i64 y.x.p, .int .i64 y.x.b]; exact Blk.alloc (by simpa using this) _)
  have RB := Lib.hid (show Blk W0 (w.heap.size + 1 + 1) 37 #[.slice none 0 0, .int .i64 0, .int .i64 0, .int .i64 0, .int .i64 0, .int .i64 0, .int .i64 0, .int .i64 0, .int .i64 0, .int .i64 0, .int .i64 0] by rw [hW0]; have := Blk.new ((w.alloc (.cells #[.slice A n c, .int .i64 s.pc, .int .i64 (s.r 0), .int .i64 (s.r 1), .int .i64 (s.r 2), .int .i64 (s.r 3), .int .i64 (s.r 4), .int .i64 (s.r 5), .int .i64 (s.r 6), .int .i64 (s.r 7), .int .i64 s.md] 37)).alloc (.cells #[.bool true, .int .i64 y.x.t, .int .i64 y.x.f, .int .i64 y.x.d, .int .i64 y.x.p, .int .i64 y.x.b] 44)) 37 #[.slice none 0 0, .int .i64 0, .int .i64 0, .int .i64 0, .int .i64 0, .int .i64 0, .int .i64 0, .int .i64 0, .int .i64 0, .int .i64 0, .int .i64 0]; simpa using this)
  have HZ0 := Lib.hid (show W0.heap.size = w.heap.size + 1 + 1 + 1 by rw [hW0]; simp)
  have HB := Lib.hid h
  have HLT := Lib.hid h.a.lt
  have HI6 := Lib.hid (Cu.offi_new (i := w.heap.size + 1 + 1) h.i (by omega))
  obtain ⟨md9, hmd⟩ : ∃ md9, (if s.md = 1 then 0 else s.md) = md9 := ⟨_, rfl⟩
  have HMD := Lib.hid hmd
  have HT := Lib.hid (show Calls Tryd.prog 30 #[.agg #[.slice A n c, .int .i64 s.pc, .int .i64 (s.r 0), .int .i64 (s.r 1), .int .i64 (s.r 2), .int .i64 (s.r 3), .int .i64 (s.r 4), .int .i64 (s.r 5), .int .i64 (s.r 6), .int .i64 (s.r 7), .int .i64 s.md], .int .i64 y.x.t, .int .i64 y.x.b] W0 fun e w' => ∃ v, e = .returned (.tuple #[.agg #[.slice A n c, .int .i64 s.pc, .int .i64 (s.r 0), .int .i64 (s.r 1), .int .i64 (s.r 2), .int .i64 (s.r 3), .int .i64 (s.r 4), .int .i64 (s.r 5), .int .i64 (s.r 6), .int .i64 (s.r 7), .int .i64 md9], v]) ∧ Pt.MkR w' v (Pt.opl s y.x.t y.x.b) ∧ W0.grownBy w' none ∧ ∀ i, v.ownBlock = some i → W0.heap.size ≤ i from by
    have := Pt.ropen_any W0 s A n c (Cu.ints_gr h.i G0.out) h.ln h.l1 y.x.t y.x.b
    rw [hmd] at this
    exact this)
  clear h hmd
  obtain ⟨p0, p1, p2, p3, p4, p5, p6, p7, p8, p9, p10⟩ := Pt.cells11 PB.out
  obtain ⟨d0, d1, d2, d3, d4, d5⟩ := Pt.cells6 FB.out
  go_enter Tryd.func11, Tryd.ntmps11
  go_upto_region 1 with (fail)
  rw [← hW0]
  clear hW0
  go_upto_region 3 with (go_at_call 30; (with_reducible refine HT.out.mono ?_); rintro e w2 ⟨v2, rfl, hr2, g2, ho2⟩; have R2 := Lib.hid hr2; have G2 := Lib.hid g2; have HOW := Lib.hid ho2; clear hr2 g2 ho2)
  clear p0 p1 p2 p3 p4 p5 p6 p7 p8 p9 p10 d0 d1 d2 d3 d4 d5 HT
  obtain ⟨W3, hW3⟩ : ∃ W3, W3 = w2.alloc (.cells #[.slice A n c, .int .i64 s.pc, .int .i64 (s.r 0), .int .i64 (s.r 1), .int .i64 (s.r 2), .int .i64 (s.r 3), .int .i64 (s.r 4), .int .i64 (s.r 5), .int .i64 (s.r 6), .int .i64 (s.r 7), .int .i64 md9] 37) := ⟨_, rfl⟩
  have g23 : w2.grownBy W3 none := by rw [hW3]; exact only_alloc (only_refl _ none) _
  have B8 := Lib.hid (show Blk W3 w2.heap.size 37 #[.slice A n c, .int .i64 s.pc, .int .i64 (s.r 0), .int .i64 (s.r 1), .int .i64 (s.r 2), .int .i64 (s.r 3), .int .i64 (s.r 4), .int .i64 (s.r 5), .int .i64 (s.r 6), .int .i64 (s.r 7), .int .i64 md9] by rw [hW3]; exact Blk.new _ _ _)
  have G3 := Lib.hid (only_trans G2.out g23)
  have F3 := Lib.hid (FB.out.only G3.out (by simp))
  have M3 := Lib.hid (R2.out.grown g23)
  have HQ3 := Lib.hid ((HB.out.a.grown G0.out).grown G3.out)
  have HB8 := Lib.hid (show W0.heap.size ≤ w2.heap.size from G2.out.size)
  rw [← hW3]
  obtain ⟨b8, hb8⟩ : ∃ b8, b8 = w2.heap.size := ⟨_, rfl⟩
  rw [← hb8] at B8 HB8 ⊢
  clear hb8 hW3 g23 R2 FB
  have gdr : W3.grownBy W3.drew none := only_drewN (only_refl _ none) 1
  have HQD := Lib.hid (HQ3.out.grown gdr)
  have GD := Lib.hid (only_trans G3.out gdr)
  have BD := Lib.hid (B8.out.only gdr (by simp))
  have FD := Lib.hid (F3.out.only gdr (by simp))
  have HM := Lib.hid (M3.out.grown gdr)
  have SC : (W3.drew.cell? ⟨b8, 0, none⟩ = some (.slice A n c)) ∧ (W3.drew.cell? ⟨b8, 1, none⟩ = some (.int .i64 s.pc)) ∧ (W3.drew.cell? ⟨b8, 2, none⟩ = some (.int .i64 (s.r 0))) ∧ (W3.drew.cell? ⟨b8, 3, none⟩ = some (.int .i64 (s.r 1))) ∧ (W3.drew.cell? ⟨b8, 4, none⟩ = some (.int .i64 (s.r 2))) ∧ (W3.drew.cell? ⟨b8, 5, none⟩ = some (.int .i64 (s.r 3))) ∧ (W3.drew.cell? ⟨b8, 6, none⟩ = some (.int .i64 (s.r 4))) ∧ (W3.drew.cell? ⟨b8, 7, none⟩ = some (.int .i64 (s.r 5))) ∧ (W3.drew.cell? ⟨b8, 8, none⟩ = some (.int .i64 (s.r 6))) ∧ (W3.drew.cell? ⟨b8, 9, none⟩ = some (.int .i64 (s.r 7))) ∧ (W3.drew.cell? ⟨b8, 10, none⟩ = some (.int .i64 md9)) ∧ (W3.drew.cell? ⟨(w.heap.size + 1), 0, none⟩ = some (.bool true)) ∧ (W3.drew.cell? ⟨(w.heap.size + 1), 1, none⟩ = some (.int .i64 y.x.t)) ∧ (W3.drew.cell? ⟨(w.heap.size + 1), 2, none⟩ = some (.int .i64 y.x.f)) ∧ (W3.drew.cell? ⟨(w.heap.size + 1), 3, none⟩ = some (.int .i64 y.x.d)) ∧ (W3.drew.cell? ⟨(w.heap.size + 1), 4, none⟩ = some (.int .i64 y.x.p)) ∧ (W3.drew.cell? ⟨(w.heap.size + 1), 5, none⟩ = some (.int .i64 y.x.b)) := ⟨BD.out.cell 0, BD.out.cell 1, BD.out.cell 2, BD.out.cell 3, BD.out.cell 4, BD.out.cell 5, BD.out.cell 6, BD.out.cell 7, BD.out.cell 8, BD.out.cell 9, BD.out.cell 10, FD.out.cell 0, FD.out.cell 1, FD.out.cell 2, FD.out.cell 3, FD.out.cell 4, FD.out.cell 5⟩
  refine wp_region_held_drew (S := fun w' => (w'.cell? ⟨b8, 0, none⟩ = some (.slice A n c)) ∧ (w'.cell? ⟨b8, 1, none⟩ = some (.int .i64 s.pc)) ∧ (w'.cell? ⟨b8, 2, none⟩ = some (.int .i64 (s.r 0))) ∧ (w'.cell? ⟨b8, 3, none⟩ = some (.int .i64 (s.r 1))) ∧ (w'.cell? ⟨b8, 4, none⟩ = some (.int .i64 (s.r 2))) ∧ (w'.cell? ⟨b8, 5, none⟩ = some (.int .i64 (s.r 3))) ∧ (w'.cell? ⟨b8, 6, none⟩ = some (.int .i64 (s.r 4))) ∧ (w'.cell? ⟨b8, 7, none⟩ = some (.int .i64 (s.r 5))) ∧ (w'.cell? ⟨b8, 8, none⟩ = some (.int .i64 (s.r 6))) ∧ (w'.cell? ⟨b8, 9, none⟩ = some (.int .i64 (s.r 7))) ∧ (w'.cell? ⟨b8, 10, none⟩ = some (.int .i64 md9)) ∧ (w'.cell? ⟨(w.heap.size + 1), 0, none⟩ = some (.bool true)) ∧ (w'.cell? ⟨(w.heap.size + 1), 1, none⟩ = some (.int .i64 y.x.t)) ∧ (w'.cell? ⟨(w.heap.size + 1), 2, none⟩ = some (.int .i64 y.x.f)) ∧ (w'.cell? ⟨(w.heap.size + 1), 3, none⟩ = some (.int .i64 y.x.d)) ∧ (w'.cell? ⟨(w.heap.size + 1), 4, none⟩ = some (.int .i64 y.x.p)) ∧ (w'.cell? ⟨(w.heap.size + 1), 5, none⟩ = some (.int .i64 y.x.b))) (by kernel_rfl) SC (fun hHeld => ?_)
  clear gdr
  generalize W3.drew = wd at *
  refine wpAnyH_take (i := 0) (oi := _) (v := ?_) rfl (by kernel_rfl) (by kernel_rfl) (by kernel_rfl) (fun _ _ _ h => h) (Or.inl ⟨by rfl, ?_⟩) (by assumption) ?_
  case refine_2 => intro w hSw; (try dsimp only at hSw); go_simp; try with_reducible rfl
  try simp only [Act.put, List.setIfInBounds_toArray, List.set_cons_zero, List.set_cons_succ]
  refine wpAnyH_take (i := 1) (oi := _) (v := ?_) rfl (by kernel_rfl) (by kernel_rfl) (by kernel_rfl) (fun _ _ _ h => h) (Or.inl ⟨by rfl, ?_⟩) (by assumption) ?_
  case refine_2 => intro w hSw; (try dsimp only at hSw); go_simp; try with_reducible rfl
  try simp only [Act.put, List.setIfInBounds_toArray, List.set_cons_zero, List.set_cons_succ]
  refine wpAnyH_take (i := 2) (oi := _) (v := ?_) rfl (by kernel_rfl) (by kernel_rfl) (by kernel_rfl) (fun _ _ _ h => h) (Or.inl ⟨by rfl, ?_⟩) (by assumption) ?_
  case refine_2 => intro w hSw; (try dsimp only at hSw); go_simp; try with_reducible rfl
  try simp only [Act.put, List.setIfInBounds_toArray, List.set_cons_zero, List.set_cons_succ]
  refine wpAnyH_take (i := 3) (oi := _) (v := ?_) rfl (by kernel_rfl) (by kernel_rfl) (by kernel_rfl) (fun _ _ _ h => h) (Or.inl ⟨by rfl, ?_⟩) (by assumption) ?_
  case refine_2 => intro w hSw; (try dsimp only at hSw); go_simp; try with_reducible rfl
  try simp only [Act.put, List.setIfInBounds_toArray, List.set_cons_zero, List.set_cons_succ]
  refine wpAnyH_take (i := 4) (oi := _) (v := ?_) rfl (by kernel_rfl) (by kernel_rfl) (by kernel_rfl) (fun _ _ _ h => h) (Or.inl ⟨by rfl, ?_⟩) (by assumption) ?_
  case refine_2 => intro w hSw; (try dsimp only at hSw); go_simp; try with_reducible rfl
  try simp only [Act.put, List.setIfInBounds_toArray, List.set_cons_zero, List.set_cons_succ]
  refine wpAnyH_take (i := 5) (oi := _) (v := ?_) rfl (by kernel_rfl) (by kernel_rfl) (by kernel_rfl) (fun _ _ _ h => h) (Or.inl ⟨by rfl, ?_⟩) (by assumption) ?_
  case refine_2 => intro w hSw; (try dsimp only at hSw); go_simp; try with_reducible rfl
  try simp only [Act.put, List.setIfInBounds_toArray, List.set_cons_zero, List.set_cons_succ]
  refine wpAnyH_take (i := 6) (oi := _) (v := ?_) rfl (by kernel_rfl) (by kernel_rfl) (by kernel_rfl) (fun _ _ _ h => h) (Or.inl ⟨by rfl, ?_⟩) (by assumption) ?_
  case refine_2 => intro w hSw; (try dsimp only at hSw); go_simp; try with_reducible rfl
  try simp only [Act.put, List.setIfInBounds_toArray, List.set_cons_zero, List.set_cons_succ]
  refine wpAnyH_take (i := 7) (oi := _) (v := ?_) rfl (by kernel_rfl) (by kernel_rfl) (by kernel_rfl) (fun _ _ _ h => h) (Or.inl ⟨by rfl, ?_⟩) (by assumption) ?_
  case refine_2 => intro w hSw; (try dsimp only at hSw); go_simp; try with_reducible rfl
  try simp only [Act.put, List.setIfInBounds_toArray, List.set_cons_zero, List.set_cons_succ]
  refine wpAnyH_take (i := 9) (oi := _) (v := ?_) rfl (by kernel_rfl) (by kernel_rfl) (by kernel_rfl) (fun _ _ _ h => h) (Or.inl ⟨by rfl, ?_⟩) (by assumption) ?_
  case refine_2 => intro w hSw; (try dsimp only at hSw); go_simp; try with_reducible rfl
  try simp only [Act.put, List.setIfInBounds_toArray, List.set_cons_zero, List.set_cons_succ]
  refine wpAnyH_ready (rs := [8]) (by kernel_rfl) (by simp) ?_
  refine AllReadyH.cons (o := _) rfl (fun K hK => ?_) AllReadyH.nil
  go_simp
  go_at_call 15
  (with_reducible refine (Pt.open_any HQD.out y.x.t y.x.b).mono ?_)
  rintro e w5 ⟨v1, rfl, hr1, hq5, hk5, ho5⟩
  have R1 := Lib.hid hr1
  have Q5 := Lib.hid (show Pt.Q w5 B b m g p s.v q ow s.pc s.r md9 from by rw [← HMD.out]; exact hq5)
  have K5 := Lib.hid hk5
  have BB5 := Lib.hid (Pt.blk_kp BD.out hk5 (by have := HB8.out; have := HLT.out; have := HZ0.out; omega) (by have := HB8.out; have := HLT.out; have := HZ0.out; omega))
  have F5 := Lib.hid (Pt.blk_kp FD.out hk5 (by have := HLT.out; omega) (by have := HLT.out; omega))
  have M5 := Lib.hid (HM.out.kp hk5 (fun i e => by have := HOW.out i e; have := HLT.out; have := HZ0.out; omega))
  clear hr1 hq5 hk5 ho5
  have S5 : (w5.cell? ⟨b8, 0, none⟩ = some (.slice A n c)) ∧ (w5.cell? ⟨b8, 1, none⟩ = some (.int .i64 s.pc)) ∧ (w5.cell? ⟨b8, 2, none⟩ = some (.int .i64 (s.r 0))) ∧ (w5.cell? ⟨b8, 3, none⟩ = some (.int .i64 (s.r 1))) ∧ (w5.cell? ⟨b8, 4, none⟩ = some (.int .i64 (s.r 2))) ∧ (w5.cell? ⟨b8, 5, none⟩ = some (.int .i64 (s.r 3))) ∧ (w5.cell? ⟨b8, 6, none⟩ = some (.int .i64 (s.r 4))) ∧ (w5.cell? ⟨b8, 7, none⟩ = some (.int .i64 (s.r 5))) ∧ (w5.cell? ⟨b8, 8, none⟩ = some (.int .i64 (s.r 6))) ∧ (w5.cell? ⟨b8, 9, none⟩ = some (.int .i64 (s.r 7))) ∧ (w5.cell? ⟨b8, 10, none⟩ = some (.int .i64 md9)) ∧ (w5.cell? ⟨(w.heap.size + 1), 0, none⟩ = some (.bool true)) ∧ (w5.cell? ⟨(w.heap.size + 1), 1, none⟩ = some (.int .i64 y.x.t)) ∧ (w5.cell? ⟨(w.heap.size + 1), 2, none⟩ = some (.int .i64 y.x.f)) ∧ (w5.cell? ⟨(w.heap.size + 1), 3, none⟩ = some (.int .i64 y.x.d)) ∧ (w5.cell? ⟨(w.heap.size + 1), 4, none⟩ = some (.int .i64 y.x.p)) ∧ (w5.cell? ⟨(w.heap.size + 1), 5, none⟩ = some (.int .i64 y.x.b)) := ⟨BB5.out.cell 0, BB5.out.cell 1, BB5.out.cell 2, BB5.out.cell 3, BB5.out.cell 4, BB5.out.cell 5, BB5.out.cell 6, BB5.out.cell 7, BB5.out.cell 8, BB5.out.cell 9, BB5.out.cell 10, F5.out.cell 0, F5.out.cell 1, F5.out.cell 2, F5.out.cell 3, F5.out.cell 4, F5.out.cell 5⟩
  refine hK.out _ _ (S5) (fun hHeld => ?_)
  clear hK K
  try simp only [Act.put, List.setIfInBounds_toArray, List.set_cons_zero, List.set_cons_succ]
  refine wpAnyH_ready (rs := [10]) (by kernel_rfl) (by simp) ?_
  refine AllReadyH.cons (o := _) rfl (fun K hK => ?_) AllReadyH.nil
  go_simp
  go_at_call 17
  (with_reducible refine (Pt.rsame_any _ _ _ _ R1.out M5.out).mono ?_)
  rintro e w6 ⟨rfl, g6⟩
  have G6 := Lib.hid g6
  have B6 := Lib.hid (BB5.out.only g6 (by simp))
  have F6 := Lib.hid (F5.out.only g6 (by simp))
  clear g6
  have S6 : (w6.cell? ⟨b8, 0, none⟩ = some (.slice A n c)) ∧ (w6.cell? ⟨b8, 1, none⟩ = some (.int .i64 s.pc)) ∧ (w6.cell? ⟨b8, 2, none⟩ = some (.int .i64 (s.r 0))) ∧ (w6.cell? ⟨b8, 3, none⟩ = some (.int .i64 (s.r 1))) ∧ (w6.cell? ⟨b8, 4, none⟩ = some (.int .i64 (s.r 2))) ∧ (w6.cell? ⟨b8, 5, none⟩ = some (.int .i64 (s.r 3))) ∧ (w6.cell? ⟨b8, 6, none⟩ = some (.int .i64 (s.r 4))) ∧ (w6.cell? ⟨b8, 7, none⟩ = some (.int .i64 (s.r 5))) ∧ (w6.cell? ⟨b8, 8, none⟩ = some (.int .i64 (s.r 6))) ∧ (w6.cell? ⟨b8, 9, none⟩ = some (.int .i64 (s.r 7))) ∧ (w6.cell? ⟨b8, 10, none⟩ = some (.int .i64 md9)) ∧ (w6.cell? ⟨(w.heap.size + 1), 0, none⟩ = some (.bool true)) ∧ (w6.cell? ⟨(w.heap.size + 1), 1, none⟩ = some (.int .i64 y.x.t)) ∧ (w6.cell? ⟨(w.heap.size + 1), 2, none⟩ = some (.int .i64 y.x.f)) ∧ (w6.cell? ⟨(w.heap.size + 1), 3, none⟩ = some (.int .i64 y.x.d)) ∧ (w6.cell? ⟨(w.heap.size + 1), 4, none⟩ = some (.int .i64 y.x.p)) ∧ (w6.cell? ⟨(w.heap.size + 1), 5, none⟩ = some (.int .i64 y.x.b)) := ⟨B6.out.cell 0, B6.out.cell 1, B6.out.cell 2, B6.out.cell 3, B6.out.cell 4, B6.out.cell 5, B6.out.cell 6, B6.out.cell 7, B6.out.cell 8, B6.out.cell 9, B6.out.cell 10, F6.out.cell 0, F6.out.cell 1, F6.out.cell 2, F6.out.cell 3, F6.out.cell 4, F6.out.cell 5⟩
  refine hK.out _ _ (S6) (fun hHeld => ?_)
  clear hK K
  try simp only [Act.put, List.setIfInBounds_toArray, List.set_cons_zero, List.set_cons_succ]
  have RB6 := Lib.hid ((Pt.blk_kp (RB.out.only GD.out (by simp)) K5.out (by have := HLT.out; omega) (by have := HLT.out; omega)).only G6.out (by simp))
  obtain ⟨z0, z1, z2, z3, z4, z5, z6, z7, z8, z9, z10⟩ := Pt.cells11 RB6.out
  obtain ⟨y0, y1, y2, y3, y4, y5, y6, y7, y8, y9, y10⟩ := Pt.free11 RB6.out
  obtain ⟨W9, hW9⟩ : ∃ W9, W9 = (((((((((((w6.setCell ⟨(w.heap.size + 1 + 1), 0, none⟩ (.slice A n c)).setCell ⟨(w.heap.size + 1 + 1), 1, none⟩ (.int .i64 s.pc)).setCell ⟨(w.heap.size + 1 + 1), 2, none⟩ (.int .i64 (s.r 0))).setCell ⟨(w.heap.size + 1 + 1), 3, none⟩ (.int .i64 (s.r 1))).setCell ⟨(w.heap.size + 1 + 1), 4, none⟩ (.int .i64 (s.r 2))).setCell ⟨(w.heap.size + 1 + 1), 5, none⟩ (.int .i64 (s.r 3))).setCell ⟨(w.heap.size + 1 + 1), 6, none⟩ (.int .i64 (s.r 4))).setCell ⟨(w.heap.size + 1 + 1), 7, none⟩ (.int .i64 (s.r 5))).setCell ⟨(w.heap.size + 1 + 1), 8, none⟩ (.int .i64 (s.r 6))).setCell ⟨(w.heap.size + 1 + 1), 9, none⟩ (.int .i64 (s.r 7))).setCell ⟨(w.heap.size + 1 + 1), 10, none⟩ (.int .i64 md9)) := ⟨_, rfl⟩
  obtain ⟨k9, b9⟩ := Pt.put11 RB6.out (.slice A n c) (.int .i64 s.pc) (.int .i64 (s.r 0)) (.int .i64 (s.r 1)) (.int .i64 (s.r 2)) (.int .i64 (s.r 3)) (.int .i64 (s.r 4)) (.int .i64 (s.r 5)) (.int .i64 (s.r 6)) (.int .i64 (s.r 7)) (.int .i64 md9) W9 hW9
  have HB9 := Lib.hid b9
  have HK9 := Lib.hid (((Pt.Kp.pre (only_trans G0.out GD.out) K5.out).post G6.out).box k9 (by omega))
  have HQ9 := Lib.hid ((Q5.out.grown G6.out).off k9 (by have := HLT.out; omega) (by have := HLT.out; omega) (by have := HLT.out; omega))
  have HA9 := Lib.hid ((Cu.ints_gr (Pt.ints_kp (Cu.ints_gr HB.out.i (only_trans G0.out GD.out)) K5.out HB.out.o) G6.out).farI k9 HI6.out)
  have S9 : (W9.cell? ⟨b8, 0, none⟩ = some (.slice A n c)) ∧ (W9.cell? ⟨b8, 1, none⟩ = some (.int .i64 s.pc)) ∧ (W9.cell? ⟨b8, 2, none⟩ = some (.int .i64 (s.r 0))) ∧ (W9.cell? ⟨b8, 3, none⟩ = some (.int .i64 (s.r 1))) ∧ (W9.cell? ⟨b8, 4, none⟩ = some (.int .i64 (s.r 2))) ∧ (W9.cell? ⟨b8, 5, none⟩ = some (.int .i64 (s.r 3))) ∧ (W9.cell? ⟨b8, 6, none⟩ = some (.int .i64 (s.r 4))) ∧ (W9.cell? ⟨b8, 7, none⟩ = some (.int .i64 (s.r 5))) ∧ (W9.cell? ⟨b8, 8, none⟩ = some (.int .i64 (s.r 6))) ∧ (W9.cell? ⟨b8, 9, none⟩ = some (.int .i64 (s.r 7))) ∧ (W9.cell? ⟨b8, 10, none⟩ = some (.int .i64 md9)) ∧ (W9.cell? ⟨(w.heap.size + 1), 0, none⟩ = some (.bool true)) ∧ (W9.cell? ⟨(w.heap.size + 1), 1, none⟩ = some (.int .i64 y.x.t)) ∧ (W9.cell? ⟨(w.heap.size + 1), 2, none⟩ = some (.int .i64 y.x.f)) ∧ (W9.cell? ⟨(w.heap.size + 1), 3, none⟩ = some (.int .i64 y.x.d)) ∧ (W9.cell? ⟨(w.heap.size + 1), 4, none⟩ = some (.int .i64 y.x.p)) ∧ (W9.cell? ⟨(w.heap.size + 1), 5, none⟩ = some (.int .i64 y.x.b)) := by have q1 := B6.out.only k9 (fun e => by injection e with e; have := HB8.out; have := HZ0.out; omega); have q2 := F6.out.only k9 (fun e => by injection e with e; omega); exact ⟨q1.cell 0, q1.cell 1, q1.cell 2, q1.cell 3, q1.cell 4, q1.cell 5, q1.cell 6, q1.cell 7, q1.cell 8, q1.cell 9, q1.cell 10, q2.cell 0, q2.cell 1, q2.cell 2, q2.cell 3, q2.cell 4, q2.cell 5⟩
  refine wpAnyH_ready (rs := [11]) (by kernel_rfl) (by simp) ?_
  refine AllReadyH.cons (o := _) rfl (fun K hK => ?_) AllReadyH.nil
  go_simp
  rw [← hW9]
  refine hK.out _ _ (S9) (fun hHeld => ?_)
  clear hK K
  try simp only [Act.put, List.setIfInBounds_toArray, List.set_cons_zero, List.set_cons_succ]
  refine wpAnyH_take (i := 12) (oi := ⟨some 7, _, _, _, _, none⟩) (v := ?_) rfl (by kernel_rfl) (by kernel_rfl) (by kernel_rfl) (fun _ _ _ h => h) (Or.inl ⟨by rfl, ?_⟩) (by assumption) ?_
  case refine_2 => intro w hSw; (try dsimp only at hSw); go_simp; try with_reducible rfl
  try simp only [Act.put, List.setIfInBounds_toArray, List.set_cons_zero, List.set_cons_succ]
  refine wpAnyH_done (by kernel_rfl) ?_ _
  obtain ⟨u0, u1, u2, u3, u4, u5, u6, u7, u8, u9, u10⟩ := Pt.cells11 HB9.out
  clear z0 z1 z2 z3 z4 z5 z6 z7 z8 z9 z10 y0 y1 y2 y3 y4 y5 y6 y7 y8 y9 y10 hW9 k9 b9 S9 S6 S5 SC
  go_wp2_with (fail)
  refine bodyPost_ret (v := .tuple #[.agg #[.slice A n c, .int .i64 s.pc, .int .i64 (s.r 0), .int .i64 (s.r 1), .int .i64 (s.r 2), .int .i64 (s.r 3), .int .i64 (s.r 4), .int .i64 (s.r 5), .int .i64 (s.r 6), .int .i64 (s.r 7), .int .i64 md9], .bool true]) (by simp [results, Tryd.results11, go_sem, u0, u1, u2, u3, u4, u5, u6, u7, u8, u9, u10]) rfl ?_
  exact ⟨A, c, by rw [← HMD.out]; rfl, ⟨by have := HQ9.out; rw [← HMD.out] at this; exact this, HA9.out, HB.out.ln, HB.out.l1, HB.out.o⟩, HK9.out, fun i hi ho => ho⟩
end Go.Proofs.YthhodadfiipffaaDoor
