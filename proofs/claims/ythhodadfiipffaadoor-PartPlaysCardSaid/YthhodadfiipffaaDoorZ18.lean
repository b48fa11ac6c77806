import Derived.Test.YthhodadfiipffaaDoorZ17
import Derived.Lib.QuietBelow
import Derived.RegionTactic
import Derived.RegionCalls
import Derived.Deep.Cut
import Derived.OrdersHeld
import Derived.Deep.RegionHeld
set_option linter.all false
/- Package part: a partition in memory; New. -/
namespace Go.Proofs.YthhodadfiipffaaDoor
open Go.RowKit Go.Lib
set_option linter.unusedVariables false
set_option maxRecDepth 8000

/-- A partition's cells. -/
def Pt.cs (m : Nat) (base size ow pc : Int) (r : Nat → Int) (md : Int) : Array Value := #[.pointer (some ⟨m, 0, none⟩), .int .i64 base, .int .i64 size, .int .i64 ow, .int .i64 pc, .int .i64 (r 0), .int .i64 (r 1), .int .i64 (r 2), .int .i64 (r 3), .int .i64 (r 4), .int .i64 (r 5), .int .i64 (r 6), .int .i64 (r 7), .int .i64 md]
/-- A partition in block b, its memory in m with the bytes in g. -/
structure Pt.Q (W : World) (B b m g : Nat) (p V q : List UInt8) (ow pc : Int) (r : Nat → Int) (md : Int) : Prop where
  blk : Blk W b 76 (Pt.cs m p.length V.length ow pc r md)
  mem : MemG W B m g (p ++ V ++ q)
  ne : b ≠ g ∧ b ≠ m
  pcb : pc ≤ 9223372036854775807
  lim : (p ++ V ++ q).length ≤ 1000
section
variable {W W' : World} {B b m g : Nat} {p V q V' : List UInt8} {ow pc md pc' md' : Int} {r r' : Nat → Int}
theorem Pt.Q.lt (h : Pt.Q W B b m g p V q ow pc r md) : b < W.heap.size ∧ g < W.heap.size ∧ m < W.heap.size := ⟨h.blk.lt, h.mem.lt.1, h.mem.lt.2⟩
theorem Pt.Q.grown (h : Pt.Q W B b m g p V q ow pc r md) (k : W.grownBy W' none) : Pt.Q W' B b m g p V q ow pc r md := ⟨h.blk.only k (by simp), h.mem.grown k, h.ne, h.pcb, h.lim⟩
theorem Pt.Q.off (h : Pt.Q W B b m g p V q ow pc r md) {i : Nat} (k : W.grownBy W' (some i)) (h1 : b ≠ i) (h2 : m ≠ i) (h3 : g ≠ i) : Pt.Q W' B b m g p V q ow pc r md :=
  ⟨h.blk.only k (fun e => by injection e with e; exact h1 e), h.mem.far k h3 h2, h.ne, h.pcb, h.lim⟩
theorem Pt.len3 (p V q : List UInt8) : (p ++ V ++ q).length = p.length + V.length + q.length := by simp; omega
end
theorem Pt.there_ok (w : World) (B m base size n : Nat) (l : List UInt8) (h : MemV w B m l) (hl : l.length = n) (hb : base + size ≤ n) (hn : n ≤ 16384) : Calls Tryd.prog 26 #[.agg #[.pointer (some ⟨m, 0, none⟩), .int .i64 base, .int .i64 size]] w fun e w' => e = .returned (.bool true) ∧ w.grownBy w' none := by
  have g1 : w.grownBy (w.alloc (.cells #[.pointer (some ⟨m, 0, none⟩), .int .i64 base, .int .i64 size] 31)) none := only_alloc (only_refl _ none) _
  have hx := Blk.new w 31 #[.pointer (some ⟨m, 0, none⟩), .int .i64 base, .int .i64 size]
  obtain ⟨W, hW⟩ : ∃ W, W = w.alloc (.cells #[.pointer (some ⟨m, 0, none⟩), .int .i64 base, .int .i64 size] 31) := ⟨_, rfl⟩
  rw [← hW] at g1 hx
  have HS := Lib.hid (fun k => show Calls Tryd.prog 34 #[.pointer (some ⟨m, 0, none⟩)] (W.drewN k) fun e w' => e = .returned (.int .i64 n) ∧ W.drewN k = w' from by
    have := size_any (W.drewN k) B m l ((h.grown g1).drewN k)
    rw [hl] at this
    exact this)
  have c0 : W.cell? ⟨w.heap.size, 0, none⟩ = some (.pointer (some ⟨m, 0, none⟩)) := hx.cell 0
  have c1 : W.cell? ⟨w.heap.size, 1, none⟩ = some (.int .i64 base) := hx.cell 1
  have c2 : W.cell? ⟨w.heap.size, 2, none⟩ = some (.int .i64 size) := hx.cell 2
  have i1 : (0 : Int) ≤ (size : Int) := by omega
  have i2 : (0 : Int) ≤ (base : Int) := by omega
  have i3 : (size : Int) ≤ (n : Int) - (base : Int) := by omega
  have d1 : decide ((0 : Int) ≤ (size : Int)) = true := by simp
  have d2 : decide ((0 : Int) ≤ (base : Int)) = true := by simp
  have d3 : decide ((size : Int) ≤ (n : Int) - (base : Int)) = true := by simp; omega
  have u1 : IntKind.i64.wrap ((n : Int) - (base : Int)) = (n : Int) - (base : Int) := by rw [IntKind.wrap_i64]; omega
  have G1 := Lib.hid g1
  clear g1 hx h hl
  go_enter Tryd.func26, Tryd.ntmps26
  go_upto_region 1 with (fail)
  rw [← hW]
  clear hW
  go_quiet ((go_at_call 34; with_reducible exact Pt.qleft (HS.out _)))
  go_wp2
  go_ret
  exact ⟨by first | rfl | (simp; done), only_drewN G1.out _⟩
set_option maxHeartbeats 1600000 in
/-- New, of what may be. -/
theorem Pt.new_ok (w : World) (B m g : Nat) (p V q : List UInt8) (h : MemG w B m g (p ++ V ++ q)) (hl : (p ++ V ++ q).length ≤ 1000) (ow : Int) (ho : 1 ≤ ow ∧ ow ≤ 8) (s : ByteArray) (hs : s.size ≤ V.length) :
    Calls Tryd.prog 8 #[.int .i64 ow, .agg #[.pointer (some ⟨m, 0, none⟩), .int .i64 p.length, .int .i64 V.length], .string s] w fun e w' => ∃ b, e = .returned (.tuple #[.pointer (some ⟨b, 0, none⟩), .int .i64 0]) ∧ Pt.Q w' B b m g p (over V 0 s.data.toList) q ow 0 (fun _ => 0) 0 ∧ w.grownBy w' (some g) ∧ w.heap.size ≤ b := by
  have hlen := Pt.len3 p V q
  have hsl : s.data.toList.length = s.size := by rw [Array.length_toList]; rfl
  have g1 : w.grownBy (w.alloc (.cells #[.pointer (some ⟨m, 0, none⟩), .int .i64 p.length, .int .i64 V.length] 31)) none := only_alloc (only_refl _ none) _
  have hx := Blk.new w 31 #[.pointer (some ⟨m, 0, none⟩), .int .i64 p.length, .int .i64 V.length]
  obtain ⟨W, hW⟩ : ∃ W, W = w.alloc (.cells #[.pointer (some ⟨m, 0, none⟩), .int .i64 p.length, .int .i64 V.length] 31) := ⟨_, rfl⟩
  rw [← hW] at g1 hx
  have HT := Lib.hid (Pt.there_ok W B m p.length V.length _ _ (h.grown g1).mem rfl (by omega) (by omega))
  have HP := Lib.hid (fun W' (kk : W.grownBy W' none) => show Calls Tryd.prog 13 #[.pointer (some ⟨m, 0, none⟩), .int .i64 p.length, .string s] W' fun r w' => (∃ v, r = .returned v) ∧ MemG w' B m g (p ++ over V 0 s.data.toList ++ q) ∧ W'.grownBy w' (some g) from by
    refine (mput_any W' B m g _ (p.length : Int) s ((h.grown g1).grown kk) (by omega) (by omega)).mono fun e w' hh => ?_
    have ec : chk (p ++ V ++ q).length (p.length : Int) (s.size : Nat) = 0 := by
      have := Cu.chk_in (base := p.length) (size := V.length) (k := 0) (n := s.size) (Cu.at_in (p := p) (V := V) (q := q) (by omega)) (by omega)
      rw [Nat.add_zero] at this
      exact this
    rw [ec, if_pos rfl, Int.toNat_natCast] at hh
    have e2 := Cu.at_over (p := p) (V := V) (q := q) (k := 0) (bs := s.data.toList) (by omega)
    rw [Nat.add_zero] at e2
    rw [e2] at hh
    exact ⟨⟨_, hh.1⟩, hh.2⟩)
  have hol : (over V 0 s.data.toList).length = V.length := over_len (by omega)
  have HOL := Lib.hid hol
  have HLIM := Lib.hid (show (p ++ over V 0 s.data.toList ++ q).length ≤ 1000 by rw [Pt.len3, hol]; omega)
  have HLT := Lib.hid h.lt
  have HX := Lib.hid hx
  have G1 := Lib.hid g1
  obtain ⟨i1, i2⟩ := ho
  have i3 : ¬ ow < 1 := by omega
  have i4 : ¬ 8 < ow := by omega
  have i5 : ¬ (V.length : Int) < (s.size : Int) := by omega
  obtain ⟨vl, hvl⟩ : ∃ vl, V.length = vl := ⟨_, rfl⟩
  obtain ⟨pl, hpl⟩ : ∃ pl, p.length = pl := ⟨_, rfl⟩
  have HV := Lib.hid hvl
  have HPL := Lib.hid hpl
  rw [hvl] at HT HX HOL i5 hW
  rw [hpl] at HT HX HP hW
  rw [hvl, hpl]
  clear g1 hx h hl hlen hsl hs hol i1 i2 hvl hpl
  obtain ⟨c0, c1, c2⟩ : W.cell? ⟨w.heap.size, 0, none⟩ = some (.pointer (some ⟨m, 0, none⟩)) ∧ W.cell? ⟨w.heap.size, 1, none⟩ = some (.int .i64 pl) ∧ W.cell? ⟨w.heap.size, 2, none⟩ = some (.int .i64 vl) := ⟨HX.out.cell 0, HX.out.cell 1, HX.out.cell 2⟩
  go_enter Tryd.func8, Tryd.ntmps8
  go_upto_region 1 with (fail)
  rw [← hW]
  clear hW
  go_wp2_with (first
    | (go_at_call 26; (with_reducible refine HT.out.mono ?_); rintro e w2 ⟨rfl, g2⟩; have G2 := Lib.hid g2; clear g2; clear c0 c1 c2; obtain ⟨c0, c1, c2⟩ : w2.cell? ⟨w.heap.size, 0, none⟩ = some (.pointer (some ⟨m, 0, none⟩)) ∧ w2.cell? ⟨w.heap.size, 1, none⟩ = some (.int .i64 pl) ∧ w2.cell? ⟨w.heap.size, 2, none⟩ = some (.int .i64 vl) := (by have hh := HX.out.only G2.out (by simp); exact ⟨hh.cell 0, hh.cell 1, hh.cell 2⟩))
    | (go_at_call 13; (with_reducible refine (HP.out _ G2.out).mono ?_); rintro e w3 ⟨⟨z, rfl⟩, hm, g3⟩; have M3 := Lib.hid hm; have G3 := Lib.hid g3; clear hm g3; clear c0 c1 c2; obtain ⟨c0, c1, c2⟩ : w3.cell? ⟨w.heap.size, 0, none⟩ = some (.pointer (some ⟨m, 0, none⟩)) ∧ w3.cell? ⟨w.heap.size, 1, none⟩ = some (.int .i64 pl) ∧ w3.cell? ⟨w.heap.size, 2, none⟩ = some (.int .i64 vl) := (by have hh := (HX.out.only G2.out (by simp)).only G3.out (fun e => by injection e with e; have := HLT.out; omega); exact ⟨hh.cell 0, hh.cell 1, hh.cell 2⟩)))
  have hb := Blk.new w3 76 (Pt.cs m pl vl ow 0 (fun _ => 0) 0)
  have g4 : w3.grownBy (w3.alloc (.cells (Pt.cs m pl vl ow 0 (fun _ => 0) 0) 76)) none := only_alloc (only_refl _ none) _
  have hs1 := G1.out.size
  have hs2 := G2.out.size
  have hs3 := G3.out.size
  have hm3 := M3.out.lt
  have e1 := HOL.out
  have e2 := HPL.out
  go_ret2
  refine ⟨w3.heap.size, rfl, ⟨?_, M3.out.grown g4, by omega, by omega, HLIM.out⟩, ?_, by omega⟩
  · rw [e1, e2]
    exact hb
  · exact only_trans (only_trans (only_any (only_trans G1.out G2.out) _) G3.out) (only_any g4 _)
end Go.Proofs.YthhodadfiipffaaDoor

/- Package part: Step of a partition. -/
namespace Go.Proofs.YthhodadfiipffaaDoor
open Go.RowKit Go.Lib
set_option linter.unusedVariables false
set_option maxRecDepth 8000

section
variable {ty uy : TypeId} {W : World} {b bo : Nat} {c0 c1 c2 c3 s0 s1 s2 s3 s4 s5 s6 s7 s8 s9 z0 z1 z2 z3 : Value}
theorem Pt.put10 (h : Blk W b ty #[c0, c1, c2, c3, s0, s1, s2, s3, s4, s5, s6, s7, s8, s9]) (y0 y1 y2 y3 y4 y5 y6 y7 y8 y9 : Value) :
    ∀ W', W' = ((((((((((W.setCell ⟨b, 4, none⟩ y0).setCell ⟨b, 5, none⟩ y1).setCell ⟨b, 6, none⟩ y2).setCell ⟨b, 7, none⟩ y3).setCell ⟨b, 8, none⟩ y4).setCell ⟨b, 9, none⟩ y5).setCell ⟨b, 10, none⟩ y6).setCell ⟨b, 11, none⟩ y7).setCell ⟨b, 12, none⟩ y8).setCell ⟨b, 13, none⟩ y9) → W.grownBy W' (some b) ∧ Blk W' b ty #[c0, c1, c2, c3, y0, y1, y2, y3, y4, y5, y6, y7, y8, y9] := by
  rintro W' rfl
  refine ⟨only_put (only_put (only_put (only_put (only_put (only_put (only_put (only_put (only_put (only_put (only_refl _ _) 4 y0) 5 y1) 6 y2) 7 y3) 8 y4) 9 y5) 10 y6) 11 y7) 12 y8) 13 y9, ?_⟩
  have q := ((((((((((h.put 4 y0).put 5 y1).put 6 y2).put 7 y3).put 8 y4).put 9 y5).put 10 y6).put 11 y7).put 12 y8).put 13 y9)
  simp only [List.setIfInBounds_toArray, List.set_cons_zero, List.set_cons_succ] at q
  exact q
theorem Pt.put14 (h : Blk W b ty #[c0, c1, c2, c3, s0, s1, s2, s3, s4, s5, s6, s7, s8, s9]) (ho : Blk W bo uy #[z0, z1, z2, z3]) (hne : b ≠ bo) (y0 y1 y2 y3 y4 y5 y6 y7 y8 y9 x0 x1 x2 x3 : Value) :
    ∀ W', W' = ((((((((((((((W.setCell ⟨b, 4, none⟩ y0).setCell ⟨b, 5, none⟩ y1).setCell ⟨b, 6, none⟩ y2).setCell ⟨b, 7, none⟩ y3).setCell ⟨b, 8, none⟩ y4).setCell ⟨b, 9, none⟩ y5).setCell ⟨b, 10, none⟩ y6).setCell ⟨b, 11, none⟩ y7).setCell ⟨b, 12, none⟩ y8).setCell ⟨b, 13, none⟩ y9).setCell ⟨bo, 0, none⟩ x0).setCell ⟨bo, 1, none⟩ x1).setCell ⟨bo, 2, none⟩ x2).setCell ⟨bo, 3, none⟩ x3) → ∃ W1, (W.grownBy W1 (some b) ∧ W1.grownBy W' (some bo)) ∧ Blk W1 b ty #[c0, c1, c2, c3, y0, y1, y2, y3, y4, y5, y6, y7, y8, y9] ∧ Blk W' bo uy #[x0, x1, x2, x3] := by
  rintro W' rfl
  obtain ⟨g1, b1⟩ := Pt.put10 h y0 y1 y2 y3 y4 y5 y6 y7 y8 y9 _ rfl
  have g2 : World.grownBy ((((((((((W.setCell ⟨b, 4, none⟩ y0).setCell ⟨b, 5, none⟩ y1).setCell ⟨b, 6, none⟩ y2).setCell ⟨b, 7, none⟩ y3).setCell ⟨b, 8, none⟩ y4).setCell ⟨b, 9, none⟩ y5).setCell ⟨b, 10, none⟩ y6).setCell ⟨b, 11, none⟩ y7).setCell ⟨b, 12, none⟩ y8).setCell ⟨b, 13, none⟩ y9) ((((((((((((((W.setCell ⟨b, 4, none⟩ y0).setCell ⟨b, 5, none⟩ y1).setCell ⟨b, 6, none⟩ y2).setCell ⟨b, 7, none⟩ y3).setCell ⟨b, 8, none⟩ y4).setCell ⟨b, 9, none⟩ y5).setCell ⟨b, 10, none⟩ y6).setCell ⟨b, 11, none⟩ y7).setCell ⟨b, 12, none⟩ y8).setCell ⟨b, 13, none⟩ y9).setCell ⟨bo, 0, none⟩ x0).setCell ⟨bo, 1, none⟩ x1).setCell ⟨bo, 2, none⟩ x2).setCell ⟨bo, 3, none⟩ x3) (some bo) := only_put (only_put (only_put (only_put (only_refl _ _) 0 x0) 1 x1) 2 x2) 3 x3
  refine ⟨_, ⟨g1, g2⟩, b1, ?_⟩
  have q := ((((((((((((((ho.far (p := ⟨b, 4, none⟩) (Ne.symm hne) y0).far (p := ⟨b, 5, none⟩) (Ne.symm hne) y1).far (p := ⟨b, 6, none⟩) (Ne.symm hne) y2).far (p := ⟨b, 7, none⟩) (Ne.symm hne) y3).far (p := ⟨b, 8, none⟩) (Ne.symm hne) y4).far (p := ⟨b, 9, none⟩) (Ne.symm hne) y5).far (p := ⟨b, 10, none⟩) (Ne.symm hne) y6).far (p := ⟨b, 11, none⟩) (Ne.symm hne) y7).far (p := ⟨b, 12, none⟩) (Ne.symm hne) y8).far (p := ⟨b, 13, none⟩) (Ne.symm hne) y9).put 0 x0).put 1 x1).put 2 x2).put 3 x3)
  simp only [List.setIfInBounds_toArray, List.set_cons_zero, List.set_cons_succ] at q
  exact q
theorem Pt.cells14 {ty : TypeId} (h : Blk W b ty #[c0, c1, c2, c3, s0, s1, s2, s3, s4, s5, s6, s7, s8, s9]) : W.cell? ⟨b, 0, none⟩ = some c0 ∧ W.cell? ⟨b, 1, none⟩ = some c1 ∧ W.cell? ⟨b, 2, none⟩ = some c2 ∧ W.cell? ⟨b, 3, none⟩ = some c3 ∧ W.cell? ⟨b, 4, none⟩ = some s0 ∧ W.cell? ⟨b, 5, none⟩ = some s1 ∧ W.cell? ⟨b, 6, none⟩ = some s2 ∧ W.cell? ⟨b, 7, none⟩ = some s3 ∧ W.cell? ⟨b, 8, none⟩ = some s4 ∧ W.cell? ⟨b, 9, none⟩ = some s5 ∧ W.cell? ⟨b, 10, none⟩ = some s6 ∧ W.cell? ⟨b, 11, none⟩ = some s7 ∧ W.cell? ⟨b, 12, none⟩ = some s8 ∧ W.cell? ⟨b, 13, none⟩ = some s9 := ⟨h.cell 0, h.cell 1, h.cell 2, h.cell 3, h.cell 4, h.cell 5, h.cell 6, h.cell 7, h.cell 8, h.cell 9, h.cell 10, h.cell 11, h.cell 12, h.cell 13⟩
theorem Pt.free14 {ty : TypeId} {cs : Array Value} (h : Blk W b ty cs) : W.frozen? ⟨b, 4, none⟩ = false ∧ W.frozen? ⟨b, 5, none⟩ = false ∧ W.frozen? ⟨b, 6, none⟩ = false ∧ W.frozen? ⟨b, 7, none⟩ = false ∧ W.frozen? ⟨b, 8, none⟩ = false ∧ W.frozen? ⟨b, 9, none⟩ = false ∧ W.frozen? ⟨b, 10, none⟩ = false ∧ W.frozen? ⟨b, 11, none⟩ = false ∧ W.frozen? ⟨b, 12, none⟩ = false ∧ W.frozen? ⟨b, 13, none⟩ = false := ⟨h.free 4, h.free 5, h.free 6, h.free 7, h.free 8, h.free 9, h.free 10, h.free 11, h.free 12, h.free 13⟩
theorem Pt.cells5 {ty : TypeId} {x0 x1 x2 x3 x4 : Value} (h : Blk W b ty #[x0, x1, x2, x3, x4]) : W.cell? ⟨b, 0, none⟩ = some x0 ∧ W.cell? ⟨b, 1, none⟩ = some x1 ∧ W.cell? ⟨b, 2, none⟩ = some x2 ∧ W.cell? ⟨b, 3, none⟩ = some x3 ∧ W.cell? ⟨b, 4, none⟩ = some x4 := ⟨h.cell 0, h.cell 1, h.cell 2, h.cell 3, h.cell 4⟩
end
/-- The boxes of Step. -/
structure Pt.Bx (w W : World) (B b m g : Nat) (p V q : List UInt8) (ow pc : Int) (r : Nat → Int) (md : Int) (x : Pt.F) (o1 o2 o3 o4 : Int) : Prop where
  q : Pt.Q W B b m g p V q ow pc r md
  fb : Blk W w.heap.size 42 #[.int .i64 x.t, .int .i64 x.f, .int .i64 x.d, .int .i64 x.p, .int .i64 x.b]
  ob : Blk W (w.heap.size + 1) 90 #[.int .i64 o1, .int .i64 o2, .int .i64 o3, .int .i64 o4]
  lt : b < w.heap.size ∧ g < w.heap.size ∧ m < w.heap.size
  gr : ∀ i, i < w.heap.size → i ≠ b → i ≠ g → W.heap[i]? = w.heap[i]?
  gs : W.os = w.os ∧ W.tape = w.tape ∧ W.output = w.output ∧ w.heap.size ≤ W.heap.size
section
variable {w W W' : World} {B b m g : Nat} {p V q V' : List UInt8} {ow pc md pc' md' : Int} {r r' : Nat → Int} {x : Pt.F} {o1 o2 o3 o4 n1 n2 n3 n4 : Int}
theorem Pt.Bx.grown (h : Pt.Bx w W B b m g p V q ow pc r md x o1 o2 o3 o4) (k : W.grownBy W' none) : Pt.Bx w W' B b m g p V q ow pc r md x o1 o2 o3 o4 :=
  ⟨h.q.grown k, h.fb.only k (by simp), h.ob.only k (by simp), h.lt, fun i h1 h2 h3 => (k.block i (Nat.lt_of_lt_of_le h1 h.gs.2.2.2) (by simp)).trans (h.gr i h1 h2 h3), k.os.trans h.gs.1, k.tape.trans h.gs.2.1, k.output.trans h.gs.2.2.1, Nat.le_trans h.gs.2.2.2 k.size⟩
theorem Pt.bx_new (h : Pt.Q w B b m g p V q ow pc r md) : Pt.Bx w ((w.alloc (.cells #[.int .i64 x.t, .int .i64 x.f, .int .i64 x.d, .int .i64 x.p, .int .i64 x.b] 42)).alloc (.cells #[.int .i64 0, .int .i64 0, .int .i64 0, .int .i64 0] 90)) B b m g p V q ow pc r md x 0 0 0 0 := by
  have k : w.grownBy ((w.alloc (.cells #[.int .i64 x.t, .int .i64 x.f, .int .i64 x.d, .int .i64 x.p, .int .i64 x.b] 42)).alloc (.cells #[.int .i64 0, .int .i64 0, .int .i64 0, .int .i64 0] 90)) none := only_alloc (only_alloc (only_refl _ none) _) _
  have b2 := Blk.new (w.alloc (.cells #[.int .i64 x.t, .int .i64 x.f, .int .i64 x.d, .int .i64 x.p, .int .i64 x.b] 42)) 90 #[.int .i64 0, .int .i64 0, .int .i64 0, .int .i64 0]
  exact ⟨h.grown k, (Blk.new w 42 #[.int .i64 x.t, .int .i64 x.f, .int .i64 x.d, .int .i64 x.p, .int .i64 x.b]).alloc _, by simpa using b2, h.lt, fun i hi _ _ => k.block i hi (by simp), k.os, k.tape, k.output, k.size⟩
/-- The memory was written, the state and the out are as1 they were. -/
theorem Pt.Bx.mem (h : Pt.Bx w W B b m g p V q ow pc r md x o1 o2 o3 o4) (hl : V'.length = V.length) (hm : MemG W' B m g (p ++ V' ++ q)) (k : W.grownBy W' (some g)) : Pt.Bx w W' B b m g p V' q ow pc r md x o1 o2 o3 o4 := by
  have l := h.lt
  have ne : ∀ i, i ≠ g → some i ≠ some g := fun i hi e => by injection e with e; exact hi e
  refine ⟨⟨?_, hm, h.q.ne, h.q.pcb, by have := h.q.lim; rw [Pt.len3] at this ⊢; omega⟩, h.fb.only k (ne _ (by omega)), h.ob.only k (ne _ (by omega)), l, fun i h1 h2 h3 => (k.block i (Nat.lt_of_lt_of_le h1 h.gs.2.2.2) (ne _ h3)).trans (h.gr i h1 h2 h3), k.os.trans h.gs.1, k.tape.trans h.gs.2.1, k.output.trans h.gs.2.2.1, Nat.le_trans h.gs.2.2.2 k.size⟩
  rw [hl]
  exact h.q.blk.only k (ne _ h.q.ne.1)
theorem Pt.Bx.state (h : Pt.Bx w W B b m g p V q ow pc r md x o1 o2 o3 o4) (hp : pc' ≤ 9223372036854775807) (hb : Blk W' b 76 (Pt.cs m p.length V.length ow pc' r' md')) (k : W.grownBy W' (some b)) : Pt.Bx w W' B b m g p V q ow pc' r' md' x o1 o2 o3 o4 := by
  have l := h.lt
  have ne : ∀ i, i ≠ b → some i ≠ some b := fun i hi e => by injection e with e; exact hi e
  exact ⟨⟨hb, h.q.mem.far k (Ne.symm h.q.ne.1) (Ne.symm h.q.ne.2), h.q.ne, hp, h.q.lim⟩, h.fb.only k (ne _ (by omega)), h.ob.only k (ne _ (by omega)), l, fun i h1 h2 h3 => (k.block i (Nat.lt_of_lt_of_le h1 h.gs.2.2.2) (ne _ h2)).trans (h.gr i h1 h2 h3), k.os.trans h.gs.1, k.tape.trans h.gs.2.1, k.output.trans h.gs.2.2.1, Nat.le_trans h.gs.2.2.2 k.size⟩
theorem Pt.Bx.out (h : Pt.Bx w W B b m g p V q ow pc r md x o1 o2 o3 o4) (hb : Blk W' (w.heap.size + 1) 90 #[.int .i64 n1, .int .i64 n2, .int .i64 n3, .int .i64 n4]) (k : W.grownBy W' (some (w.heap.size + 1))) : Pt.Bx w W' B b m g p V q ow pc r md x n1 n2 n3 n4 := by
  have l := h.lt
  have ne : ∀ i, i < w.heap.size + 1 → some i ≠ some (w.heap.size + 1) := fun i hi e => by injection e with e; omega
  exact ⟨h.q.off k (by omega) (by omega) (by omega), h.fb.only k (ne _ (by omega)), hb, l, fun i h1 h2 h3 => (k.block i (Nat.lt_of_lt_of_le h1 h.gs.2.2.2) (ne _ (by omega))).trans (h.gr i h1 h2 h3), k.os.trans h.gs.1, k.tape.trans h.gs.2.1, k.output.trans h.gs.2.2.1, Nat.le_trans h.gs.2.2.2 k.size⟩
end
end Go.Proofs.YthhodadfiipffaaDoor

/- A region that draws its order, and whose last operation waits for all others: they in any order, under a condition that need not hold behind the last one; then the last one. No program is spoken of here. -/
namespace Go.Proofs.YthhodadfiipffaaDoor
open Go
set_option linter.unusedVariables false

section
variable {P : Program} {ops : Array Oper} {md : Region.Mode} {Q : Exit → Act → World → Prop} {S : World → Prop} {n : Nat}

/-- The post behind all but the last one. -/
def Ends (P : Program) (ops : Array Oper) (Q : Exit → Act → World → Prop) (n : Nat) : Exit → Act → World → Prop
  | .normal, a, w => wpOp P ops Q n (fun a' w' => Q .normal a' w') a w
  | .ret, a, w => Q .ret a w
  | .panic c, a, w => Q (.panic c) a w
  | .outgrown, a, w => Q .outgrown a w
  | e, a, w => Q e a w

theorem wpOp_pop (hz : ops.size = n + 1) (hg : ∀ (i : Nat) (o : Oper), ops[i]? = some o → o.guard = none) {i : Nat} (hi : i < n) {K : Act → World → Prop} {a : Act} {w : World} (h : wpOp P ops.pop (Ends P ops Q n) i K a w) : wpOp P ops Q i K a w := by
  unfold wpOp at *
  have he : ops.pop[i]? = ops[i]? := by rw [Array.getElem?_pop, if_pos (by omega)]
  rw [he] at h
  cases ho : ops[i]? with
  | none => rw [ho] at h; exact h
  | some o =>
    rw [ho] at h
    have hw : ∀ y, Region.wanted o y = true := fun y => by simp [Region.wanted, hg i o ho]
    simp only [hw, if_true] at h ⊢
    rcases h with h | ⟨h1, h2⟩
    · refine .inl ?_
      unfold Oper.wp at *
      generalize (execOp a.eval o).run P w = r at *
      cases r with
      | ok x w' =>
        cases x <;> simp only [Oper.upon] at h ⊢
        case value u => exact h
        case skip => exact h
        case defer d => exact h
        case enter f args =>
          refine Calls.mono h fun e w'' he => ?_
          cases e with
          | returned u => exact he
          | panicked c => exact he
          | outgrown => exact he
        case row row args => exact h
      | halt x w' =>
        cases x <;> simp only [Oper.upon] at h ⊢
        case panic u => exact h
    · exact .inr ⟨h1, h2⟩

/-- What the law asks of the region's form. -/
def endsB (md : Region.Mode) (ops : Array Oper) (n : Nat) : Bool :=
  decide (ops.size = n + 1) && (List.range (n + 1)).all fun i => match ops[i]? with
    | none => true
    | some o => o.guard.isNone && (o.after.all fun e => decide (e.on < i)) && (if i = n then (List.range n).all fun j => o.after.any fun e => Region.binds md e && decide (e.on = j) else true)
theorem endsB_spec (h : endsB md ops n = true) : ops.size = n + 1 ∧ (∀ (i : Nat) (o : Oper), ops[i]? = some o → o.guard = none) ∧ (∀ (i : Nat) (o : Oper), ops[i]? = some o → ∀ e ∈ o.after, e.on < i) ∧ ∀ (o : Oper), ops[n]? = some o → ∀ j, j < n → ∃ e ∈ o.after, Region.binds md e = true ∧ e.on = j := by
  unfold endsB at h
  rw [Bool.and_eq_true, List.all_eq_true] at h
  obtain ⟨h1, h2⟩ := h
  have hz : ops.size = n + 1 := by simpa using h1
  have key : ∀ (i : Nat) (o : Oper), ops[i]? = some o → (o.guard.isNone && (o.after.all fun e => decide (e.on < i)) && (if i = n then (List.range n).all fun j => o.after.any fun e => Region.binds md e && decide (e.on = j) else true)) = true := fun i o ho => by
    have hi : i < ops.size := (Array.getElem?_eq_some_iff.1 ho).1
    have := h2 i (by rw [List.mem_range]; omega)
    rwa [ho] at this
  refine ⟨hz, fun i o ho => ?_, fun i o ho e he => ?_, fun o ho j hj => ?_⟩
  · have := key i o ho
    simp only [Bool.and_eq_true] at this
    simpa using this.1.1
  · have := key i o ho
    simp only [Bool.and_eq_true] at this
    have := this.1.2
    rw [Array.all_eq_true_iff_forall_mem] at this
    simpa using this e he
  · have := key n o ho
    simp only [Bool.and_eq_true, if_true] at this
    have := this.2
    rw [List.all_eq_true] at this
    have := this j (by simpa using hj)
    obtain ⟨q, hq, hb⟩ := Array.any_eq_true.1 this
    simp only [Bool.and_eq_true, decide_eq_true_eq] at hb
    exact ⟨_, Array.getElem_mem hq, hb⟩

/-- Something may come up as1 long as1 something has not. -/
theorem some_ready (he : ∀ (i : Nat) (o : Oper), ops[i]? = some o → ∀ e ∈ o.after, e.on < i) {listed : Array Bool} (hl : listed.size = ops.size) : ∀ (i : Nat), i < ops.size → listed.getD i true = false → ∃ j, j ≤ i ∧ j ∈ Region.ready md ops listed := by
  intro i
  induction i using Nat.strongRecOn with
  | ind i ih =>
    intro hi hf
    by_cases hall : ∀ e ∈ (ops[i]'hi).after, Region.binds md e = true → listed.getD e.on false = true
    · exact ⟨i, Nat.le_refl _, mem_ready.2 ⟨hf, _, Array.getElem?_eq_getElem hi, hall⟩⟩
    · simp only [Classical.not_forall] at hall
      obtain ⟨e, hm, hbi, hb⟩ := hall
      have hlt := he i _ (Array.getElem?_eq_getElem hi) e hm
      have h9 : e.on < listed.size := by omega
      have hf' : listed.getD e.on true = false := by
        simp [Array.getD, h9] at hb ⊢
        exact hb
      obtain ⟨j, hj, hr⟩ := ih e.on hlt (by omega) hf'
      exact ⟨j, by omega, hr⟩

/-- All but the last one have come up. -/
def AllBut (n : Nat) (listed : Array Bool) : Prop := listed.size = n + 1 ∧ listed.getD n true = false ∧ ∀ i, i < n → listed.getD i true = true
theorem getD_same {listed : Array Bool} {i : Nat} (h : i < listed.size) : listed.getD i true = listed.getD i false := by simp [Array.getD, h]
theorem getD_pop {listed : Array Bool} {i : Nat} (d : Bool) (h : i + 1 < listed.size) : listed.pop.getD i d = listed.getD i d := by
  have h1 : i < listed.pop.size := by simp; omega
  have h2 : i < listed.size := by omega
  simp only [Array.getD, h1, h2, dif_pos]
  simp
theorem ready_pop (hz : ops.size = n + 1) (he : ∀ (i : Nat) (o : Oper), ops[i]? = some o → ∀ e ∈ o.after, e.on < i) {listed : Array Bool} (hl : listed.size = n + 1) {i : Nat} (hi : i < n) : i ∈ Region.ready md ops listed ↔ i ∈ Region.ready md ops.pop listed.pop := by
  rw [mem_ready, mem_ready, getD_pop _ (by omega), Array.getElem?_pop, if_pos (by omega)]
  refine and_congr Iff.rfl ⟨fun ⟨o, ho, h⟩ => ⟨o, ho, fun e hm hb => ?_⟩, fun ⟨o, ho, h⟩ => ⟨o, ho, fun e hm hb => ?_⟩⟩
  · have := he i o ho e hm
    rw [getD_pop _ (by omega)]
    exact h e hm hb
  · have := he i o ho e hm
    have h9 := h e hm hb
    rwa [getD_pop _ (by omega)] at h9
theorem ends_done (hz : ops.size = n + 1) (he : ∀ (i : Nat) (o : Oper), ops[i]? = some o → ∀ e ∈ o.after, e.on < i) {listed : Array Bool} (h : AllBut n listed) {a : Act} {w : World} (hq : Ends P ops Q n .normal a w) (fuel : Nat) : wpAny P md ops Q (fuel + 1) listed a w := by
  obtain ⟨h1, h2, h3⟩ := h
  have hn : n < ops.size := by omega
  have hr : n ∈ Region.ready md ops listed := mem_ready.2 ⟨h2, _, Array.getElem?_eq_getElem hn, fun e hm hb => by
    have := he n _ (Array.getElem?_eq_getElem hn) e hm
    rw [← getD_same (by omega)]
    exact h3 e.on this⟩
  have hset : Region.ready md ops (listed.setIfInBounds n true) = [] := by
    refine List.eq_nil_iff_forall_not_mem.2 fun i hi => ?_
    obtain ⟨k1, o, ho, _⟩ := mem_ready.1 hi
    have hio : i < ops.size := (Array.getElem?_eq_some_iff.1 ho).1
    by_cases hin : i = n
    · subst hin
      simp [Array.getD, h1] at k1
    · rw [getD_set_ne true (Ne.symm hin), h3 i (by omega)] at k1
      cases k1
  refine ⟨fun h0 => (by rw [h0] at hr; cases hr), fun i hi => ?_⟩
  have hin : i = n := by
    obtain ⟨k1, o, ho, _⟩ := mem_ready.1 hi
    have hio : i < ops.size := (Array.getElem?_eq_some_iff.1 ho).1
    refine Classical.byContradiction fun hne => ?_
    rw [h3 i (by omega)] at k1
    cases k1
  subst hin
  refine wpOp_mono (fun a' w' hq' => ?_) hq
  cases fuel with
  | zero => exact ⟨hset, hq'⟩
  | succ k => exact ⟨fun _ => hq', by rw [hset]; simp⟩
theorem all_but (hz : ops.size = n + 1) (he : ∀ (i : Nat) (o : Oper), ops[i]? = some o → ∀ e ∈ o.after, e.on < i) {listed : Array Bool} (hl : listed.size = n + 1) (hn : listed.getD n true = false) (hr : Region.ready md ops.pop listed.pop = []) : AllBut n listed := by
  refine ⟨hl, hn, fun i hi => ?_⟩
  refine Classical.byContradiction fun hne => ?_
  have hf : listed.getD i true = false := by simpa using hne
  obtain ⟨j, hj, hjr⟩ := some_ready (md := md) he (by omega) i (by omega) hf
  have := (ready_pop hz he hl (by omega)).1 hjr
  rw [hr] at this
  cases this
theorem wpAny_ends (hB : endsB md ops n = true) : ∀ (fuel : Nat) (listed : Array Bool) (a : Act) (w : World), listed.size = n + 1 → listed.getD n true = false → wpAnyH P md ops.pop (Ends P ops Q n) S fuel listed.pop a w → wpAny P md ops Q (fuel + 1) listed a w
  | 0, listed, a, w, hl, hn, h => by
    obtain ⟨hz, hg, he, hlast⟩ := endsB_spec hB
    exact ends_done hz he (all_but hz he hl hn h.1) h.2 0
  | fuel + 1, listed, a, w, hl, hn, h => by
    obtain ⟨hz, hg, he, hlast⟩ := endsB_spec hB
    by_cases h0 : Region.ready md ops.pop listed.pop = []
    · exact ends_done hz he (all_but hz he hl hn h0) (h.1 h0) (fuel + 1)
    · have hlow : ∀ i, i ∈ Region.ready md ops listed → i < n := fun i hi => by
        obtain ⟨k1, o, ho, k2⟩ := mem_ready.1 hi
        have hio : i < ops.size := (Array.getElem?_eq_some_iff.1 ho).1
        refine Classical.byContradiction fun hne => h0 ?_
        have hin : i = n := by omega
        subst hin
        refine List.eq_nil_iff_forall_not_mem.2 fun j hj => ?_
        have hjn : j < i := by
          obtain ⟨_, o', ho', _⟩ := mem_ready.1 hj
          have := (Array.getElem?_eq_some_iff.1 ho').1
          simp at this
          omega
        obtain ⟨e, hm, hb, rfl⟩ := hlast o ho j hjn
        have h9 := k2 e hm hb
        have h8 := (mem_ready.1 ((ready_pop hz he hl hjn).2 hj)).1
        rw [getD_same (by omega)] at h8
        rw [h8] at h9
        cases h9
      refine ⟨fun h1 => ?_, fun i hi => ?_⟩
      · exfalso
        refine h0 (List.eq_nil_iff_forall_not_mem.2 fun j hj => ?_)
        have hjn : j < n := by
          obtain ⟨_, o', ho', _⟩ := mem_ready.1 hj
          have := (Array.getElem?_eq_some_iff.1 ho').1
          simp at this
          omega
        have := (ready_pop hz he hl hjn).2 hj
        rw [h1] at this
        cases this
      · have hin := hlow i hi
        have h2 := h.2 i ((ready_pop hz he hl hin).1 hi)
        refine wpOp_mono (fun a' w' h3 => ?_) (wpOp_pop hz hg hin h2)
        refine wpAny_ends hB fuel _ a' w' (by simpa using hl) (by rw [getD_set_ne true (by omega)]; exact hn) ?_
        have : (listed.setIfInBounds i true).pop = listed.pop.setIfInBounds i true := by
          apply Array.ext_getElem?
          intro k
          simp only [Array.getElem?_pop, Array.getElem?_setIfInBounds, Array.size_pop, Array.size_setIfInBounds]
          by_cases hk : i = k
          · subst hk
            have q1 : i < listed.size := by omega
            have q2 : i < listed.size - 1 := by omega
            simp [q1, q2]
          · simp [hk]
        rw [this]
        exact h3.2

/-- The last one comes up. -/
theorem Ends.last {a : Act} {w : World} {o : Oper} (ho : ops[n]? = some o) (h : ∀ K' : Act → World → Prop, Shut (∀ a w, Q .normal a w → K' a w) → if Region.wanted o (yielded ops a.tmps) = true then Oper.wp P o a w K' Q else K' (a.put o.dst undef) w) : Ends P ops Q n .normal a w :=
  wpOp_step ho h

/-- **A region whose last operation waits for all others.** -/
theorem wp_region_ends {id : Nat} {a : Act} {w : World} {l : List Oper} (n : Nat) (S : World → Prop) (hm : P.follows .mixedOrders = true) (hB : endsB .any l.toArray n = true) (hS : S w.drew)
    (h : S w.drew → wpAnyH P .any (l.take n).toArray (Ends P l.toArray Q n) S n (Array.replicate n false) a w.drew) : (Code.region id l.toArray true).wp P Q a w := by
  obtain ⟨hz, hg, he, hlast⟩ := endsB_spec hB
  refine wp_region_any hm ?_
  rw [hz]
  refine wpAny_ends (S := S) hB n (Array.replicate (n + 1) false) a _ (by simp) (by simp [Array.getD]) ?_
  have h1 : l.toArray.pop = (l.take n).toArray := by
    have hz' : l.length = n + 1 := by simpa using hz
    rw [List.pop_toArray, List.dropLast_eq_take, hz']
    rfl
  have h2 : (Array.replicate (n + 1) false).pop = Array.replicate n false := by simp
  rw [h1, h2]
  exact h hS
end
end Go.Proofs.YthhodadfiipffaaDoor

/- A region that draws its order, and whose last operation waits for all others, some of them by way of others; see HE. No program is spoken of here. -/
namespace Go.Proofs.YthhodadfiipffaaDoor
open Go
set_option linter.unusedVariables false

section
variable {P : Program} {ops : Array Oper} {md : Region.Mode} {Q : Exit → Act → World → Prop} {S : World → Prop} {n : Nat}
/-- What the law asks of the region's form: no guards; each operation but the last has one that waits for it. -/
def endsB2 (md : Region.Mode) (ops : Array Oper) (n : Nat) : Bool :=
  decide (ops.size = n + 1) && ((List.range (n + 1)).all fun i => match ops[i]? with
    | none => true
    | some o => o.guard.isNone && (o.after.all fun e => decide (e.on < i))) &&
  (List.range n).all fun j => (List.range (n + 1)).any fun k => decide (j < k) && match ops[k]? with
    | none => false
    | some o => o.after.any fun e => Region.binds md e && decide (e.on = j)
theorem endsB2_spec (h : endsB2 md ops n = true) : ops.size = n + 1 ∧ (∀ (i : Nat) (o : Oper), ops[i]? = some o → o.guard = none) ∧ (∀ (i : Nat) (o : Oper), ops[i]? = some o → ∀ e ∈ o.after, e.on < i) ∧ ∀ j, j < n → ∃ k o, j < k ∧ k ≤ n ∧ ops[k]? = some o ∧ ∃ e ∈ o.after, Region.binds md e = true ∧ e.on = j := by
  unfold endsB2 at h
  rw [Bool.and_eq_true, Bool.and_eq_true, List.all_eq_true, List.all_eq_true] at h
  obtain ⟨⟨h1, h2⟩, h3⟩ := h
  have hz : ops.size = n + 1 := by simpa using h1
  have key : ∀ (i : Nat) (o : Oper), ops[i]? = some o → (o.guard.isNone && (o.after.all fun e => decide (e.on < i))) = true := fun i o ho => by
    have hi : i < ops.size := (Array.getElem?_eq_some_iff.1 ho).1
    have := h2 i (by rw [List.mem_range]; omega)
    rwa [ho] at this
  refine ⟨hz, fun i o ho => ?_, fun i o ho e he => ?_, fun j hj => ?_⟩
  · have := key i o ho
    simp only [Bool.and_eq_true] at this
    simpa using this.1
  · have := key i o ho
    simp only [Bool.and_eq_true] at this
    have := this.2
    rw [Array.all_eq_true_iff_forall_mem] at this
    simpa using this e he
  · have := h3 j (by simpa using hj)
    rw [List.any_eq_true] at this
    obtain ⟨k, hk, hb⟩ := this
    simp only [Bool.and_eq_true, decide_eq_true_eq] at hb
    obtain ⟨hjk, hb⟩ := hb
    cases ho : ops[k]? with
    | none => rw [ho] at hb; cases hb
    | some o =>
      rw [ho] at hb
      obtain ⟨q, hq, hb⟩ := Array.any_eq_true.1 hb
      simp only [Bool.and_eq_true, decide_eq_true_eq] at hb
      exact ⟨k, o, hjk, by have := List.mem_range.1 hk; omega, ho, _, Array.getElem_mem hq, hb⟩
/-- What has come up had all come up that it waits for. -/
def DownC (md : Region.Mode) (ops : Array Oper) (listed : Array Bool) : Prop := ∀ (i : Nat) (o : Oper), ops[i]? = some o → listed.getD i true = true → ∀ e ∈ o.after, Region.binds md e = true → listed.getD e.on false = true
theorem DownC.set {listed : Array Bool} {i : Nat} (h : DownC md ops listed) (hi : i ∈ Region.ready md ops listed) : DownC md ops (listed.setIfInBounds i true) := fun j o ho hj e hm hb => by
  obtain ⟨k1, o', ho', k2⟩ := mem_ready.1 hi
  by_cases he : i = j
  · subst he
    rw [ho] at ho'
    injection ho' with ho'
    subst ho'
    exact getD_set_true (k2 e hm hb)
  · rw [getD_set_ne true he] at hj
    exact getD_set_true (h j o ho hj e hm hb)
theorem last_all (hz : ops.size = n + 1) (hsucc : ∀ j, j < n → ∃ k o, j < k ∧ k ≤ n ∧ ops[k]? = some o ∧ ∃ e ∈ o.after, Region.binds md e = true ∧ e.on = j) {listed : Array Bool} (hl : listed.size = n + 1) (hd : DownC md ops listed) (hr : n ∈ Region.ready md ops listed) : ∀ m j, n - j = m → j < n → listed.getD j false = true := by
  intro m
  induction m using Nat.strongRecOn with
  | ind m ih =>
    intro j hm hj
    obtain ⟨k, o, hjk, hkn, ho, e, he, hb, rfl⟩ := hsucc j hj
    by_cases hk : k = n
    · subst hk
      obtain ⟨_, o', ho', k2⟩ := mem_ready.1 hr
      rw [ho] at ho'
      injection ho' with ho'
      subst ho'
      exact k2 e he hb
    · have hkl := ih (n - k) (by omega) k rfl (by omega)
      exact hd k o ho (by rw [getD_same (by omega)]; exact hkl) e he hb
theorem wpAny_ends2 (hB : endsB2 md ops n = true) : ∀ (fuel : Nat) (listed : Array Bool) (a : Act) (w : World), listed.size = n + 1 → listed.getD n true = false → DownC md ops listed → wpAnyH P md ops.pop (Ends P ops Q n) S fuel listed.pop a w → wpAny P md ops Q (fuel + 1) listed a w
  | 0, listed, a, w, hl, hn, hd, h => by
    obtain ⟨hz, hg, he, hlast⟩ := endsB2_spec hB
    exact ends_done hz he (all_but hz he hl hn h.1) h.2 0
  | fuel + 1, listed, a, w, hl, hn, hd, h => by
    obtain ⟨hz, hg, he, hlast⟩ := endsB2_spec hB
    by_cases h0 : Region.ready md ops.pop listed.pop = []
    · exact ends_done hz he (all_but hz he hl hn h0) (h.1 h0) (fuel + 1)
    · have hlow : ∀ i, i ∈ Region.ready md ops listed → i < n := fun i hi => by
        obtain ⟨k1, o, ho, k2⟩ := mem_ready.1 hi
        have hio : i < ops.size := (Array.getElem?_eq_some_iff.1 ho).1
        refine Classical.byContradiction fun hne => h0 ?_
        have hin : i = n := by omega
        subst hin
        refine List.eq_nil_iff_forall_not_mem.2 fun j hj => ?_
        have hjn : j < i := by
          obtain ⟨_, o', ho', _⟩ := mem_ready.1 hj
          have := (Array.getElem?_eq_some_iff.1 ho').1
          simp at this
          omega
        have h9 := last_all hz hlast hl hd hi _ j rfl hjn
        have h8 := (mem_ready.1 ((ready_pop hz he hl hjn).2 hj)).1
        rw [getD_same (by omega)] at h8
        rw [h8] at h9
        cases h9
      refine ⟨fun h1 => ?_, fun i hi => ?_⟩
      · exfalso
        refine h0 (List.eq_nil_iff_forall_not_mem.2 fun j hj => ?_)
        have hjn : j < n := by
          obtain ⟨_, o', ho', _⟩ := mem_ready.1 hj
          have := (Array.getElem?_eq_some_iff.1 ho').1
          simp at this
          omega
        have := (ready_pop hz he hl hjn).2 hj
        rw [h1] at this
        cases this
      · have hin := hlow i hi
        have h2 := h.2 i ((ready_pop hz he hl hin).1 hi)
        refine wpOp_mono (fun a' w' h3 => ?_) (wpOp_pop hz hg hin h2)
        refine wpAny_ends2 hB fuel _ a' w' (by simpa using hl) (by rw [getD_set_ne true (by omega)]; exact hn) (hd.set hi) ?_
        have : (listed.setIfInBounds i true).pop = listed.pop.setIfInBounds i true := by
          apply Array.ext_getElem?
          intro k
          simp only [Array.getElem?_pop, Array.getElem?_setIfInBounds, Array.size_pop, Array.size_setIfInBounds]
          by_cases hk : i = k
          · subst hk
            have q1 : i < listed.size := by omega
            have q2 : i < listed.size - 1 := by omega
            simp [q1, q2]
          · simp [hk]
        rw [this]
        exact h3.2
theorem wp_region_ends2 {id : Nat} {a : Act} {w : World} {l : List Oper} (n : Nat) (S : World → Prop) (hm : P.follows .mixedOrders = true) (hB : endsB2 .any l.toArray n = true) (hS : S w.drew)
    (h : S w.drew → wpAnyH P .any (l.take n).toArray (Ends P l.toArray Q n) S n (Array.replicate n false) a w.drew) : (Code.region id l.toArray true).wp P Q a w := by
  obtain ⟨hz, hg, he, hlast⟩ := endsB2_spec hB
  refine wp_region_any hm ?_
  rw [hz]
  refine wpAny_ends2 (S := S) hB n (Array.replicate (n + 1) false) a _ (by simp) (by simp [Array.getD]) (fun i o ho hl => ?_) ?_
  · have hio : i < l.toArray.size := (Array.getElem?_eq_some_iff.1 ho).1
    have : i < n + 1 := by omega
    simp [Array.getD, this] at hl
  · have h1 : l.toArray.pop = (l.take n).toArray := by
      have hz' : l.length = n + 1 := by simpa using hz
      rw [List.pop_toArray, List.dropLast_eq_take, hz']
      rfl
    have h2 : (Array.replicate (n + 1) false).pop = Array.replicate n false := by simp
    rw [h1, h2]
    exact h hS
end
end Go.Proofs.YthhodadfiipffaaDoor
