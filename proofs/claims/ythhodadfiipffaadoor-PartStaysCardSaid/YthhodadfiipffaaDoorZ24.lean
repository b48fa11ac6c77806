import Derived.Test.YthhodadfiipffaaDoorZ20
import Derived.Test.YthhodadfiipffaaDoorZ23
import Derived.Laws.OwnMore
set_option linter.all false
/- Package part: two partitions side by side. -/
namespace Go.Proofs.YthhodadfiipffaaDoor
open Go.RowKit Go.Lib
set_option linter.unusedVariables false
set_option maxRecDepth 8000

theorem Pt.blk_kp {w w' : World} {b g i : Nat} {t : TypeId} {cs : Array Value} (h : Blk w i t cs) (k : Pt.Kp b g w w') (h1 : i ≠ b) (h2 : i ≠ g) : Blk w' i t cs := (k.2.2.2.2 i h.lt h1 h2).trans h
theorem Pt.memg_kp {w w' : World} {b g B m' g' : Nat} {l : List UInt8} (h : MemG w B m' g' l) (k : Pt.Kp b g w w') (h1 : m' ≠ b ∧ m' ≠ g) (h2 : g' ≠ b ∧ g' ≠ g) : MemG w' B m' g' l := ⟨h.1, h.2.1, Pt.blk_kp h.2.2.1 k h1.1 h1.2, Pt.blk_kp h.2.2.2 k h2.1 h2.2⟩
theorem Pt.MkR.kp {w w' : World} {b g : Nat} {v : Value} {l : List Pt.Mk} (h : Pt.MkR w v l) (k : Pt.Kp b g w w') (hn : ∀ i, v.ownBlock = some i → i ≠ b ∧ i ≠ g) : Pt.MkR w' v l := by
  obtain ⟨A, c, rfl, h2, h4⟩ := h
  refine ⟨A, c, rfl, h2, fun hp => ?_⟩
  obtain ⟨i, off, rfl, k3, k4⟩ := h4 hp
  have hi := hn i rfl
  refine ⟨i, off, rfl, Nat.lt_of_lt_of_le k3 k.2.2.2.1, fun a x hx j u hu => ?_⟩
  rw [← k4 a x hx j u hu]
  simp only [World.cell?, k.2.2.2.2 i k3 hi.1 hi.2]
theorem Pt.Mks.own {B : Nat} {w : World} {v : Value} {l : List Pt.Mk} (h : Pt.Mks B w v l) (hl : 0 < l.length) : ∀ i, v.ownBlock = some i → B ≤ i := by
  obtain ⟨A, c, rfl, h2, h3, h4⟩ := h
  obtain ⟨i, off, rfl, k2, k3, k4⟩ := h4 hl
  intro j e
  simp [Value.ownBlock] at e
  omega
/-- A row of marks behind what is done elsewhere. -/
theorem Pt.Mks.kp {w0 w w' : World} {b g : Nat} {v : Value} {l : List Pt.Mk} (h : Pt.Mks w0.heap.size w v l) (k : Pt.Kp b g w w') (hb : b < w0.heap.size ∧ g < w0.heap.size) : Pt.MkR w' v l := by
  by_cases hl : 0 < l.length
  · exact h.row.kp k (fun i e => by have := h.own hl i e; omega)
  · obtain ⟨A, c, rfl, h2, h3, h4⟩ := h
    exact ⟨A, c, rfl, by omega, fun hp => absurd hp hl⟩
structure Pt.St (w W : World) (bp mp gp bq mq gq mf gf : Nat) (p q q2 U : List UInt8) (s t : Pt.Sm) : Prop where
  a : Pt.Q W w.heap.size bp mp gp p s.v q 1 s.pc s.r s.md
  c : Pt.Q W w.heap.size bq mq gq [] t.v q2 2 t.pc t.r t.md
  f : MemG W w.heap.size mf gf (p ++ U ++ q)
  gr : w.grownBy W none
  nm : Nm w
  lo : mp < bp ∧ gp < bp ∧ bp < mq ∧ bp < gq ∧ mq < bq ∧ gq < bq ∧ bq < mf ∧ bq < gf
section
variable {w W W' : World} {bp mp gp bq mq gq mf gf : Nat} {p q q2 U : List UInt8} {s t s' : Pt.Sm}
theorem Pt.St.NM (h : Pt.St w W bp mp gp bq mq gq mf gf p q q2 U s t) : Nm W := h.nm.grown h.gr (by simp)
theorem Pt.St.low (h : Pt.St w W bp mp gp bq mq gq mf gf p q q2 U s t) : w.heap.size ≤ mp ∧ w.heap.size ≤ gp ∧ bq < W.heap.size ∧ gq < W.heap.size := ⟨h.a.mem.2.1, h.a.mem.1, h.c.lt.1, h.c.lt.2.1⟩
theorem Pt.St.grown (h : Pt.St w W bp mp gp bq mq gq mf gf p q q2 U s t) (k : W.grownBy W' none) : Pt.St w W' bp mp gp bq mq gq mf gf p q q2 U s t := ⟨h.a.grown k, h.c.grown k, h.f.grown k, only_trans h.gr k, h.nm, h.lo⟩
theorem Pt.St.stepA (h : Pt.St w W bp mp gp bq mq gq mf gf p q q2 U s t) (hq : Pt.Q W' w.heap.size bp mp gp p s'.v q 1 s'.pc s'.r s'.md) (k : Pt.Kp bp gp W W') : Pt.St w W' bp mp gp bq mq gq mf gf p q q2 U s' t := by
  have l := h.lo
  have l2 := h.low
  exact ⟨hq, ⟨Pt.blk_kp h.c.blk k (by omega) (by omega), Pt.memg_kp h.c.mem k (by omega) (by omega), h.c.ne, h.c.pcb, h.c.lim⟩, Pt.memg_kp h.f k (by omega) (by omega), Pt.kp_fresh h.gr k (by omega) (by omega), h.nm, h.lo⟩
theorem Pt.St.stepC (h : Pt.St w W bp mp gp bq mq gq mf gf p q q2 U s t) (hq : Pt.Q W' w.heap.size bq mq gq [] s'.v q2 2 s'.pc s'.r s'.md) (k : Pt.Kp bq gq W W') : Pt.St w W' bp mp gp bq mq gq mf gf p q q2 U s s' := by
  have l := h.lo
  have l2 := h.low
  exact ⟨⟨Pt.blk_kp h.a.blk k (by omega) (by omega), Pt.memg_kp h.a.mem k (by omega) (by omega), h.a.ne, h.a.pcb, h.a.lim⟩, hq, Pt.memg_kp h.f k (by omega) (by omega), Pt.kp_fresh h.gr k (by omega) (by omega), h.nm, h.lo⟩
theorem Pt.St.openA (h : Pt.St w W bp mp gp bq mq gq mf gf p q q2 U s t) (x y : Int) : Calls Tryd.prog 15 #[.pointer (some ⟨bp, 0, none⟩), .int .i64 x, .int .i64 y] W fun e w' => ∃ v, e = .returned v ∧ Pt.MkR w' v (Pt.opl s x y) ∧ Pt.St w w' bp mp gp bq mq gq mf gf p q q2 U (Pt.opn s) t ∧ ∀ i, v.ownBlock = some i → W.heap.size ≤ i :=
  (Pt.open_any h.a x y).mono fun e w' hh => by
    obtain ⟨v, e1, e2, e3, e4, e5⟩ := hh
    exact ⟨v, e1, e2, h.stepA (s' := Pt.opn s) e3 e4, e5⟩
theorem Pt.St.openC (h : Pt.St w W bp mp gp bq mq gq mf gf p q q2 U s t) (x y : Int) {v1 : Value} {l : List Pt.Mk} (hv : Pt.MkR W v1 l) (hn : ∀ i, v1.ownBlock = some i → i ≠ bq ∧ i ≠ gq) : Calls Tryd.prog 15 #[.pointer (some ⟨bq, 0, none⟩), .int .i64 x, .int .i64 y] W fun e w' => ∃ v, e = .returned v ∧ Pt.MkR w' v (Pt.opl t x y) ∧ Pt.St w w' bp mp gp bq mq gq mf gf p q q2 U s (Pt.opn t) ∧ Pt.MkR w' v1 l :=
  (Pt.open_any h.c x y).mono fun e w' hh => by
    obtain ⟨v, e1, e2, e3, e4, e5⟩ := hh
    exact ⟨v, e1, e2, h.stepC (s' := Pt.opn t) e3 e4, hv.kp e4 hn⟩
theorem Pt.St.stpA (h : Pt.St w W bp mp gp bq mq gq mf gf p q q2 U s t) (x : Pt.F) : Calls Tryd.prog 16 #[.pointer (some ⟨bp, 0, none⟩), .agg #[.int .i64 x.t, .int .i64 x.f, .int .i64 x.d, .int .i64 x.p, .int .i64 x.b]] W fun e w' => ∃ v, e = .returned (.tuple #[v, .bool (Pt.stf s)]) ∧ Pt.Mks W.heap.size w' v (Pt.stl s x) ∧ Pt.St w w' bp mp gp bq mq gq mf gf p q q2 U (Pt.stp s x) t :=
  (Pt.step_any h.a h.NM x).mono fun e w' hh => by
    obtain ⟨v, e1, e2, e3, e4⟩ := hh
    exact ⟨v, e1, e2, h.stepA (s' := Pt.stp s x) e3 e4⟩
theorem Pt.St.stpC (h : Pt.St w W bp mp gp bq mq gq mf gf p q q2 U s t) (x : Pt.F) {W0 : World} {v1 : Value} {l : List Pt.Mk} (hv : Pt.Mks W0.heap.size W v1 l) (hn : bq < W0.heap.size ∧ gq < W0.heap.size) : Calls Tryd.prog 16 #[.pointer (some ⟨bq, 0, none⟩), .agg #[.int .i64 x.t, .int .i64 x.f, .int .i64 x.d, .int .i64 x.p, .int .i64 x.b]] W fun e w' => ∃ v, e = .returned (.tuple #[v, .bool (Pt.stf t)]) ∧ Pt.MkR w' v (Pt.stl t x) ∧ Pt.St w w' bp mp gp bq mq gq mf gf p q q2 U s (Pt.stp t x) ∧ Pt.MkR w' v1 l :=
  (Pt.step_any h.c h.NM x).mono fun e w' hh => by
    obtain ⟨v, e1, e2, e3, e4⟩ := hh
    exact ⟨v, e1, e2.row, h.stepC (s' := Pt.stp t x) e3 e4, hv.kp e4 hn⟩
theorem Pt.stp_len (s : Pt.Sm) (x : Pt.F) : (Pt.stp s x).v.length = s.v.length := Cu.step_len s.v s.pc s.r s.md
end
/-- A state, as1 a value. -/
def Pt.sv (s : Pt.Sm) : Value := .agg #[.int .i64 s.pc, .int .i64 (s.r 0), .int .i64 (s.r 1), .int .i64 (s.r 2), .int .i64 (s.r 3), .int .i64 (s.r 4), .int .i64 (s.r 5), .int .i64 (s.r 6), .int .i64 (s.r 7), .int .i64 s.md]
theorem Pt.neq_sv (s : Pt.Sm) (w : World) : (binOp BinOp.neq 55 (Pt.sv s) (Pt.sv s)).run Tryd.prog w = .ok (.bool false) w := Cu.neq_st s.pc s.r s.md w
section
variable {w W W' : World} {bp mp gp bq mq gq mf gf : Nat} {p q q2 U : List UInt8} {s t s' : Pt.Sm}
theorem Pt.St.svA (h : Pt.St w W bp mp gp bq mq gq mf gf p q q2 U s t) : Calls Tryd.prog 18 #[.pointer (some ⟨bp, 0, none⟩)] W fun e w' => e = .returned (Pt.sv s) ∧ Pt.St w w' bp mp gp bq mq gq mf gf p q q2 U s t := (Pt.state_any h.a).mono fun e w' hh => ⟨hh.1, h.grown hh.2⟩
theorem Pt.St.svC (h : Pt.St w W bp mp gp bq mq gq mf gf p q q2 U s t) : Calls Tryd.prog 18 #[.pointer (some ⟨bq, 0, none⟩)] W fun e w' => e = .returned (Pt.sv t) ∧ Pt.St w w' bp mp gp bq mq gq mf gf p q q2 U s t := (Pt.state_any h.c).mono fun e w' hh => ⟨hh.1, h.grown hh.2⟩
end
theorem Pt.lowB {W : World} {B B' b m g : Nat} {p V q : List UInt8} {ow pc md : Int} {r : Nat → Int} (h : Pt.Q W B b m g p V q ow pc r md) (hb : B' ≤ B) : Pt.Q W B' b m g p V q ow pc r md := ⟨h.blk, Cu.memg_low h.mem hb, h.ne, h.pcb, h.lim⟩
def Pt.v0 (s : ByteArray) (vl : Nat) : List UInt8 := over (Cu.z vl) 0 s.data.toList
theorem Pt.v0_len (s : ByteArray) (vl : Nat) (h : s.size ≤ vl) : (Pt.v0 s vl).length = vl := by
  have hsl : s.data.toList.length = s.size := by rw [Array.length_toList]; rfl
  unfold Pt.v0
  rw [over_len (by rw [Cu.z_len]; omega), Cu.z_len]
def Pt.s0 (s : ByteArray) (vl : Nat) : Pt.Sm := ⟨Pt.v0 s vl, 0, fun _ => 0, 0⟩
theorem Pt.newA (W : World) (B m g : Nat) (p q : List UInt8) (vl : Nat) (s : ByteArray) (hs : s.size ≤ vl) (hv : vl ≤ 300) (hp : p.length = 500) (hq : q.length = 500 - vl) (hm : MemG W B m g (p ++ Cu.z vl ++ q)) : Calls Tryd.prog 8 #[.int .i64 1, .agg #[.pointer (some ⟨m, 0, none⟩), .int .i64 500, .int .i64 vl], .string s] W fun e w' => ∃ b, e = .returned (.tuple #[.pointer (some ⟨b, 0, none⟩), .int .i64 0]) ∧ Pt.Q w' B b m g p (Pt.s0 s vl).v q 1 (Pt.s0 s vl).pc (Pt.s0 s vl).r (Pt.s0 s vl).md ∧ W.grownBy w' (some g) ∧ W.heap.size ≤ b := by
  have h := Pt.new_ok W B m g p (Cu.z vl) q hm (by rw [Pt.len3, Cu.z_len]; omega) 1 (by omega) s (by rw [Cu.z_len]; omega)
  rw [Cu.z_len, hp] at h
  exact h
theorem Pt.newC (W : World) (B m g : Nat) (vl : Nat) (s : ByteArray) (hs : s.size ≤ vl) (hv : vl ≤ 300) (hm : MemG W B m g (Cu.z 300)) : Calls Tryd.prog 8 #[.int .i64 2, .agg #[.pointer (some ⟨m, 0, none⟩), .int .i64 0, .int .i64 vl], .string s] W fun e w' => ∃ b, e = .returned (.tuple #[.pointer (some ⟨b, 0, none⟩), .int .i64 0]) ∧ Pt.Q w' B b m g [] (Pt.s0 s vl).v (Cu.z (300 - vl)) 2 (Pt.s0 s vl).pc (Pt.s0 s vl).r (Pt.s0 s vl).md ∧ W.grownBy w' (some g) ∧ W.heap.size ≤ b := by
  have e : Cu.z 300 = [] ++ Cu.z vl ++ Cu.z (300 - vl) := by
    unfold Cu.z
    rw [List.nil_append, List.replicate_append_replicate, show vl + (300 - vl) = 300 by omega]
  rw [e] at hm
  have h := Pt.new_ok W B m g [] (Cu.z vl) (Cu.z (300 - vl)) hm (by rw [Pt.len3, Cu.z_len, Cu.z_len, List.length_nil]; omega) 2 (by omega) s (by rw [Cu.z_len]; omega)
  rw [Cu.z_len] at h
  exact h
theorem Pt.start {w w3 w4 w5 w6 w7 : World} {bp mp gp bq mq gq mf gf : Nat} {p q q2 : List UInt8} {s : Pt.Sm} (hN : Nm w) (g3 : w.grownBy w3 none) (ha : Pt.Q w4 w.heap.size bp mp gp p s.v q 1 s.pc s.r s.md) (k4 : w3.grownBy w4 (some gp)) (hb : w3.heap.size ≤ bp) (hgp : mp < w3.heap.size ∧ gp < w3.heap.size)
    (hm5 : w4.heap.size ≤ mq ∧ w4.heap.size ≤ gq) (g5 : w4.grownBy w5 none) (hc : Pt.Q w6 w4.heap.size bq mq gq [] s.v q2 2 s.pc s.r s.md) (hq5 : mq < w5.heap.size ∧ gq < w5.heap.size) (k6 : w5.grownBy w6 (some gq)) (hb6 : w5.heap.size ≤ bq)
    (hf : MemG w7 w6.heap.size mf gf (p ++ s.v ++ q)) (g7 : w6.grownBy w7 none) : Pt.St w w7 bp mp gp bq mq gq mf gf p q q2 s.v s s := by
  have l1 := ha.lt
  have l2 := hc.lt
  have z3 := g3.size
  have z4 := k4.size
  have z5 := g5.size
  have z6 := k6.size
  have l3 := hf.1
  have l4 := hf.2.1
  have l5 := ha.mem.1
  have a6 := ((ha.grown g5).off k6 (by omega) (by omega) (by omega)).grown g7
  exact ⟨a6, (Pt.lowB hc (by omega)).grown g7, Cu.memg_low hf (by omega), only_trans (Cu.grow_none (only_trans (Cu.grow_none g3 k4 (by omega)) g5) k6 (by omega)) g7, hN, by omega⟩
/-- So many bytes 0, as1 a text. -/
theorem Pt.zeros (w : World) (k : Nat) (hk : k ≤ 300) : ∃ w1 A c, (Instr.makeSlice 48 (.int .i64 k) (.int .i64 k)).run Tryd.prog w = .ok (.slice A k c) w1 ∧ (convert 48 9 (.slice A k c)).run Tryd.prog w1 = .ok (.string ⟨(Cu.z k).toArray⟩) w1 ∧ w.grownBy w1 none := by
  obtain ⟨i0, hi0, hz0, hz1, hz2⟩ := info_parts mu8_info
  obtain ⟨w1, hr, hown, hg⟩ := run_make_full (P := Tryd.prog) w w.heap.size 48 5 i0 (.int .u8 0) 1 Tryd.underlying48 hi0 hz0 hz1 .i64 .i64 k (by rw [hz2]; omega) (by unfold maxLen; omega) (Nat.le_refl _)
  rw [made_u8] at hown
  have ho : OwnB w1 w.heap.size (.slice (some ⟨w.heap.size, 0, none⟩) k k) (Cu.z k) := by unfold OwnB; rw [Cu.z_len]; exact hown
  exact ⟨w1, _, _, hr, ho.str (Cu.z_len k).symm, hg⟩
/-- A row with so many bytes 0 in its midst. -/
theorem Pt.zero_mid (l : List UInt8) (hl : l.length = 1000) (vl : Nat) (hv : vl ≤ 300) : ∃ p q, over l 500 (Cu.z vl) = p ++ Cu.z vl ++ q ∧ p.length = 500 ∧ q.length = 500 - vl := by
  refine ⟨l.take 500, l.drop (500 + vl), ?_, by rw [List.length_take]; omega, by rw [List.length_drop]; omega⟩
  unfold over
  rw [Cu.z_len]
theorem Pt.mnew (k : Nat) (hk : k ≤ 16384) (w : World) : Calls Tryd.prog 9 #[.int .i64 k] w fun r w' => ∃ m g, r = .returned (.pointer (some ⟨m, 0, none⟩)) ∧ MemG w' w.heap.size m g (Cu.z k) ∧ w.grownBy w' none :=
  (mnew_any k w).mono fun e w' ⟨m, h1, h2, h3⟩ => by
    rw [Cu.size_z k hk] at h2
    obtain ⟨g, h4⟩ := h2.named
    exact ⟨m, g, h1, h4, Cu.grow_of h3⟩
theorem Pt.mnew1 (w : World) : Calls Tryd.prog 9 #[.int .i64 1000] w fun r w' => ∃ m g, r = .returned (.pointer (some ⟨m, 0, none⟩)) ∧ MemG w' w.heap.size m g (Cu.z 1000) ∧ w.grownBy w' none := Pt.mnew 1000 (by omega) w
theorem Pt.mnew3 (w : World) : Calls Tryd.prog 9 #[.int .i64 300] w fun r w' => ∃ m g, r = .returned (.pointer (some ⟨m, 0, none⟩)) ∧ MemG w' w.heap.size m g (Cu.z 300) ∧ w.grownBy w' none := Pt.mnew 300 (by omega) w
theorem Pt.put_any (W : World) (B m g : Nat) (L : List UInt8) (x : Nat) (ar : ByteArray) (h : MemG W B m g L) (hL : L.length = 1000) (ha : ar.size ≤ 300) : Calls Tryd.prog 13 #[.pointer (some ⟨m, 0, none⟩), .int .i64 x, .string ar] W fun e w' => (∃ v, e = .returned v) ∧ (∃ L', L'.length = 1000 ∧ MemG w' B m g L') ∧ W.grownBy w' (some g) := by
  have hsl : ar.data.toList.length = ar.size := by rw [Array.length_toList]; rfl
  refine (mput_any W B m g L x ar h (by omega) (by omega)).mono fun e w' hh => ⟨⟨_, hh.1⟩, ?_, hh.2.2⟩
  refine ⟨_, ?_, hh.2.1⟩
  split
  · rename_i hc
    rw [over_len, hL]
    unfold chk at hc
    rw [Int.toNat_natCast]
    split at hc <;> (try split at hc) <;> (try split at hc) <;> (try split at hc) <;> omega
  · exact hL
theorem Pt.put_mid (W : World) (B m g : Nat) (L : List UInt8) (vl : Nat) (hv : vl ≤ 300) (hL : L.length = 1000) (h : MemG W B m g L) : Calls Tryd.prog 13 #[.pointer (some ⟨m, 0, none⟩), .int .i64 500, .string ⟨(Cu.z vl).toArray⟩] W fun e w' => (∃ v, e = .returned v) ∧ (∃ p q, p.length = 500 ∧ q.length = 500 - vl ∧ MemG w' B m g (p ++ Cu.z vl ++ q)) ∧ W.grownBy w' (some g) := by
  have hz : (⟨(Cu.z vl).toArray⟩ : ByteArray).size = vl := by show (Cu.z vl).toArray.size = vl; rw [List.size_toArray, Cu.z_len]
  refine (mput_any W B m g L 500 ⟨(Cu.z vl).toArray⟩ h (by omega) (by omega)).mono fun e w' hh => ⟨⟨_, hh.1⟩, ?_, hh.2.2⟩
  have hc : chk L.length 500 (⟨(Cu.z vl).toArray⟩ : ByteArray).size = 0 := by
    rw [hz, hL]
    unfold chk
    split
    · omega
    · split
      · omega
      · split
        · omega
        · split <;> omega
  obtain ⟨p, q, e1, e2, e3⟩ := Pt.zero_mid L hL vl hv
  have h2 := hh.2.1
  rw [if_pos hc] at h2
  refine ⟨p, q, e2, e3, ?_⟩
  rw [← e1]
  exact h2
theorem Pt.diff_mid (W : World) (B mp mf vl : Nat) (p q U V : List UInt8) (hU : U.length = vl) (hV : V.length = vl) (hp : p.length = 500) (hq : q.length = 500 - vl) (hv : vl ≤ 300) (h : MemV W B mf (p ++ U ++ q)) (k : MemV W B mp (p ++ V ++ q)) : Calls Tryd.prog 19 #[.pointer (some ⟨mf, 0, none⟩), .pointer (some ⟨mp, 0, none⟩)] W fun e w' => ∃ (v : Value) (k : Nat) (o : Nat → Int × Int), e = .returned v ∧ RowV w' W.heap.size v k o ∧ Below W.heap.size W w' ∧ k ≤ 1000 ∧ ∀ i, i < k → 500 ≤ (o i).1 ∧ (o i).2 ≤ 500 + (vl : Int) := by
  have l1 := Pt.len3 p U q
  have l2 := Pt.len3 p V q
  refine (mdiff_any W B B mf mp _ _ h k (by omega) (by omega)).mono fun e w' ⟨v, e1, e2, e3⟩ => ⟨v, _, _, e1, e2, e3, ?_, ?_⟩
  · refine Nat.le_trans (rTo_le _ _) ?_
    rw [l1, l2]
    omega
  · refine Cu.rto_nn _ 500 (500 + (vl : Int)) (fun x h0 hx => ?_) _
    have := Cu.unl_mid p U V q (by omega) x hx h0
    omega
end Go.Proofs.YthhodadfiipffaaDoor
