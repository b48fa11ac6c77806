import Derived.Test.YthhodadfiipffaaDoorZ31
import Derived.LoopTactic
set_option linter.all false
/- The boxes of the document's Step. -/
namespace Go.Proofs.YthhodadfiipffaaDoor
open Go.RowKit Go.Lib
set_option linter.unusedVariables false
set_option maxRecDepth 8000

structure Cu.Rw (w W : World) (S : Array Value) : Prop where
  sb : Blk W w.heap.size 35 S
  rs : Blk W (w.heap.size + 1) 35 #[.int .i64 0, .int .i64 0, .int .i64 0, .int .i64 0, .int .i64 0, .int .i64 0, .int .i64 0, .int .i64 0, .int .i64 0, .int .i64 0]
  ro : Blk W (w.heap.size + 1 + 1) 99 #[.int .i64 0, .int .i64 0, .int .i64 0, .int .i64 0]
  gr : w.grownBy W none
theorem Cu.rw_new (w : World) (S : Array Value) : Cu.Rw w (((w.alloc (.cells S 35)).alloc (.cells #[.int .i64 0, .int .i64 0, .int .i64 0, .int .i64 0, .int .i64 0, .int .i64 0, .int .i64 0, .int .i64 0, .int .i64 0, .int .i64 0] 35)).alloc (.cells #[.int .i64 0, .int .i64 0, .int .i64 0, .int .i64 0] 99)) S := by
  have b1 := Blk.new (w.alloc (.cells S 35)) 35 #[.int .i64 0, .int .i64 0, .int .i64 0, .int .i64 0, .int .i64 0, .int .i64 0, .int .i64 0, .int .i64 0, .int .i64 0, .int .i64 0]
  have b2 := Blk.new ((w.alloc (.cells S 35)).alloc (.cells #[.int .i64 0, .int .i64 0, .int .i64 0, .int .i64 0, .int .i64 0, .int .i64 0, .int .i64 0, .int .i64 0, .int .i64 0, .int .i64 0] 35)) 99 #[.int .i64 0, .int .i64 0, .int .i64 0, .int .i64 0]
  exact ⟨((Blk.new _ _ _).alloc _).alloc _, by simpa using b1.alloc _, by simpa using b2, only_alloc (only_alloc (only_alloc (only_refl _ _) _) _) _⟩
section
variable {w W W' : World} {S : Array Value}
theorem Cu.Rw.grown (h : Cu.Rw w W S) (k : W.grownBy W' none) : Cu.Rw w W' S := ⟨h.sb.only k (by simp), h.rs.only k (by simp), h.ro.only k (by simp), only_trans h.gr k⟩
theorem Cu.Rw.put (h : Cu.Rw w W S) (i : Nat) (v : Value) : Cu.Rw w (W.setCell ⟨w.heap.size, i, none⟩ v) (S.setIfInBounds i v) :=
  ⟨h.sb.put i v, h.rs.far (p := ⟨w.heap.size, i, none⟩) (by show w.heap.size + 1 ≠ w.heap.size; omega) v, h.ro.far (p := ⟨w.heap.size, i, none⟩) (by show w.heap.size + 1 + 1 ≠ w.heap.size; omega) v, only_putc h.gr (p := ⟨w.heap.size, i, none⟩) (Nat.le_refl _) v⟩
theorem Cu.Rw.off (h : Cu.Rw w W S) {i : Nat} (hi : w.heap.size + 1 + 1 < i) (k : W.grownBy W' (some i)) : Cu.Rw w W' S := by
  have ne : ∀ x, x ≤ w.heap.size + 1 + 1 → some x ≠ some i := fun x hx e => by injection e with e; omega
  exact ⟨h.sb.only k (ne _ (by omega)), h.rs.only k (ne _ (by omega)), h.ro.only k (ne _ (by omega)), Cu.grow_none h.gr k (by omega)⟩
theorem Cu.Rw.fin (h : Cu.Rw w W S) (y0 y1 y2 y3 y4 y5 y6 y7 y8 y9 x0 x1 x2 x3 : Value) : ∀ W', W' = ((((((((((((((W.setCell ⟨w.heap.size + 1, 0, none⟩ y0).setCell ⟨w.heap.size + 1, 1, none⟩ y1).setCell ⟨w.heap.size + 1, 2, none⟩ y2).setCell ⟨w.heap.size + 1, 3, none⟩ y3).setCell ⟨w.heap.size + 1, 4, none⟩ y4).setCell ⟨w.heap.size + 1, 5, none⟩ y5).setCell ⟨w.heap.size + 1, 6, none⟩ y6).setCell ⟨w.heap.size + 1, 7, none⟩ y7).setCell ⟨w.heap.size + 1, 8, none⟩ y8).setCell ⟨w.heap.size + 1, 9, none⟩ y9).setCell ⟨w.heap.size + 1 + 1, 0, none⟩ x0).setCell ⟨w.heap.size + 1 + 1, 1, none⟩ x1).setCell ⟨w.heap.size + 1 + 1, 2, none⟩ x2).setCell ⟨w.heap.size + 1 + 1, 3, none⟩ x3).drew → (W'.cell? ⟨w.heap.size + 1, 0, none⟩ = some y0 ∧ W'.cell? ⟨w.heap.size + 1, 1, none⟩ = some y1 ∧ W'.cell? ⟨w.heap.size + 1, 2, none⟩ = some y2 ∧ W'.cell? ⟨w.heap.size + 1, 3, none⟩ = some y3 ∧ W'.cell? ⟨w.heap.size + 1, 4, none⟩ = some y4 ∧ W'.cell? ⟨w.heap.size + 1, 5, none⟩ = some y5 ∧ W'.cell? ⟨w.heap.size + 1, 6, none⟩ = some y6 ∧ W'.cell? ⟨w.heap.size + 1, 7, none⟩ = some y7 ∧ W'.cell? ⟨w.heap.size + 1, 8, none⟩ = some y8 ∧ W'.cell? ⟨w.heap.size + 1, 9, none⟩ = some y9) ∧ (W'.cell? ⟨w.heap.size + 1 + 1, 0, none⟩ = some x0 ∧ W'.cell? ⟨w.heap.size + 1 + 1, 1, none⟩ = some x1 ∧ W'.cell? ⟨w.heap.size + 1 + 1, 2, none⟩ = some x2 ∧ W'.cell? ⟨w.heap.size + 1 + 1, 3, none⟩ = some x3) ∧ w.grownBy W' none ∧ ∃ Wm, W.grownBy Wm (some (w.heap.size + 1)) ∧ Wm.grownBy W' (some (w.heap.size + 1 + 1)) := by
  rintro W' rfl
  have k1 : W.grownBy ((((((((((W.setCell ⟨w.heap.size + 1, 0, none⟩ y0).setCell ⟨w.heap.size + 1, 1, none⟩ y1).setCell ⟨w.heap.size + 1, 2, none⟩ y2).setCell ⟨w.heap.size + 1, 3, none⟩ y3).setCell ⟨w.heap.size + 1, 4, none⟩ y4).setCell ⟨w.heap.size + 1, 5, none⟩ y5).setCell ⟨w.heap.size + 1, 6, none⟩ y6).setCell ⟨w.heap.size + 1, 7, none⟩ y7).setCell ⟨w.heap.size + 1, 8, none⟩ y8).setCell ⟨w.heap.size + 1, 9, none⟩ y9) (some (w.heap.size + 1)) := only_put (only_put (only_put (only_put (only_put (only_put (only_put (only_put (only_put (only_put (only_refl _ _) 0 y0) 1 y1) 2 y2) 3 y3) 4 y4) 5 y5) 6 y6) 7 y7) 8 y8) 9 y9
  have k2 : World.grownBy ((((((((((W.setCell ⟨w.heap.size + 1, 0, none⟩ y0).setCell ⟨w.heap.size + 1, 1, none⟩ y1).setCell ⟨w.heap.size + 1, 2, none⟩ y2).setCell ⟨w.heap.size + 1, 3, none⟩ y3).setCell ⟨w.heap.size + 1, 4, none⟩ y4).setCell ⟨w.heap.size + 1, 5, none⟩ y5).setCell ⟨w.heap.size + 1, 6, none⟩ y6).setCell ⟨w.heap.size + 1, 7, none⟩ y7).setCell ⟨w.heap.size + 1, 8, none⟩ y8).setCell ⟨w.heap.size + 1, 9, none⟩ y9) ((((((((((((((W.setCell ⟨w.heap.size + 1, 0, none⟩ y0).setCell ⟨w.heap.size + 1, 1, none⟩ y1).setCell ⟨w.heap.size + 1, 2, none⟩ y2).setCell ⟨w.heap.size + 1, 3, none⟩ y3).setCell ⟨w.heap.size + 1, 4, none⟩ y4).setCell ⟨w.heap.size + 1, 5, none⟩ y5).setCell ⟨w.heap.size + 1, 6, none⟩ y6).setCell ⟨w.heap.size + 1, 7, none⟩ y7).setCell ⟨w.heap.size + 1, 8, none⟩ y8).setCell ⟨w.heap.size + 1, 9, none⟩ y9).setCell ⟨w.heap.size + 1 + 1, 0, none⟩ x0).setCell ⟨w.heap.size + 1 + 1, 1, none⟩ x1).setCell ⟨w.heap.size + 1 + 1, 2, none⟩ x2).setCell ⟨w.heap.size + 1 + 1, 3, none⟩ x3).drew (some (w.heap.size + 1 + 1)) := only_drewN (only_put (only_put (only_put (only_put (only_refl _ _) 0 x0) 1 x1) 2 x2) 3 x3) 1
  have b1 := ((((((((((h.rs.put 0 y0).put 1 y1).put 2 y2).put 3 y3).put 4 y4).put 5 y5).put 6 y6).put 7 y7).put 8 y8).put 9 y9)
  have b2 := ((((((((((((((h.ro.far (p := ⟨w.heap.size + 1, 0, none⟩) (by show w.heap.size + 1 + 1 ≠ w.heap.size + 1; omega) y0).far (p := ⟨w.heap.size + 1, 1, none⟩) (by show w.heap.size + 1 + 1 ≠ w.heap.size + 1; omega) y1).far (p := ⟨w.heap.size + 1, 2, none⟩) (by show w.heap.size + 1 + 1 ≠ w.heap.size + 1; omega) y2).far (p := ⟨w.heap.size + 1, 3, none⟩) (by show w.heap.size + 1 + 1 ≠ w.heap.size + 1; omega) y3).far (p := ⟨w.heap.size + 1, 4, none⟩) (by show w.heap.size + 1 + 1 ≠ w.heap.size + 1; omega) y4).far (p := ⟨w.heap.size + 1, 5, none⟩) (by show w.heap.size + 1 + 1 ≠ w.heap.size + 1; omega) y5).far (p := ⟨w.heap.size + 1, 6, none⟩) (by show w.heap.size + 1 + 1 ≠ w.heap.size + 1; omega) y6).far (p := ⟨w.heap.size + 1, 7, none⟩) (by show w.heap.size + 1 + 1 ≠ w.heap.size + 1; omega) y7).far (p := ⟨w.heap.size + 1, 8, none⟩) (by show w.heap.size + 1 + 1 ≠ w.heap.size + 1; omega) y8).far (p := ⟨w.heap.size + 1, 9, none⟩) (by show w.heap.size + 1 + 1 ≠ w.heap.size + 1; omega) y9).put 0 x0).put 1 x1).put 2 x2).put 3 x3)
  simp only [List.setIfInBounds_toArray, List.set_cons_zero, List.set_cons_succ] at b1 b2
  have c1 := b1.only k2 (fun e => by injection e with e; omega)
  exact ⟨Cu.cells10 c1, Cu.cells4 (b2.drewN 1), Cu.grow_none (Cu.grow_none h.gr k1 (by omega)) k2 (by omega), _, k1, k2⟩
end
/-- What a step of the document's answers. -/
def Cu.Rst (w : World) (V : List UInt8) (A0 : Option Addr) (a : Cu.Af) (e : Ending) (w' : World) : Prop :=
  ∃ (A : Option Addr) (n c : Nat), e = .returned (.tuple #[.slice A n c, .agg #[.int .i64 (a).pc, .int .i64 ((a).r 0), .int .i64 ((a).r 1), .int .i64 ((a).r 2), .int .i64 ((a).r 3), .int .i64 ((a).r 4), .int .i64 ((a).r 5), .int .i64 ((a).r 6), .int .i64 ((a).r 7), .int .i64 (a).md], .agg #[.int .i64 (a).o1, .int .i64 (a).o2, .int .i64 (a).o3, .int .i64 (a).o4]]) ∧ n = a.v.length ∧ Ints w' A c (num a.v) ∧ w.grownBy w' none ∧ ∀ i, i < w.heap.size → OffI V A0 i → OffI a.v A i
theorem Cu.offi_new {W : World} {A : Option Addr} {c i : Nat} {l : List UInt8} (h : Ints W A c (num l)) (hi : W.heap.size ≤ i) : OffI l A i := fun hp b off e => by
  obtain ⟨b', off', h1, h2, _⟩ := h.2 (by rw [num_len]; exact hp)
  rw [h1] at e
  injection e with e
  injection e with e1 _
  omega
structure Cu.Rx (w W : World) (bi bo : Nat) (S I O : Array Value) : Prop where
  rw' : Cu.Rw w W S
  ib : Blk W bi 104 I
  ob : Blk W bo 99 O
  lt : w.heap.size + 1 + 1 < bi ∧ bi < bo
section
variable {w W W' : World} {bi bo : Nat} {S I O : Array Value}
theorem Cu.Rx.grown (h : Cu.Rx w W bi bo S I O) (k : W.grownBy W' none) : Cu.Rx w W' bi bo S I O := ⟨h.rw'.grown k, h.ib.only k (by simp), h.ob.only k (by simp), h.lt⟩
theorem Cu.Rx.put (h : Cu.Rx w W bi bo S I O) (i : Nat) (v : Value) : Cu.Rx w (W.setCell ⟨w.heap.size, i, none⟩ v) bi bo (S.setIfInBounds i v) I O := by
  have l := h.lt
  exact ⟨h.rw'.put i v, h.ib.far (p := ⟨w.heap.size, i, none⟩) (by show bi ≠ w.heap.size; omega) v, h.ob.far (p := ⟨w.heap.size, i, none⟩) (by show bo ≠ w.heap.size; omega) v, h.lt⟩
theorem Cu.Rx.putO {z0 z1 z2 z3 : Value} (h : Cu.Rx w W bi bo S I #[z0, z1, z2, z3]) (x0 x1 x2 x3 : Value) : ∀ W', W' = ((((W.setCell ⟨bo, 0, none⟩ x0).setCell ⟨bo, 1, none⟩ x1).setCell ⟨bo, 2, none⟩ x2).setCell ⟨bo, 3, none⟩ x3) → Cu.Rx w W' bi bo S I #[x0, x1, x2, x3] := by
  rintro W' rfl
  have l := h.lt
  have k : W.grownBy ((((W.setCell ⟨bo, 0, none⟩ x0).setCell ⟨bo, 1, none⟩ x1).setCell ⟨bo, 2, none⟩ x2).setCell ⟨bo, 3, none⟩ x3) (some bo) := only_put (only_put (only_put (only_put (only_refl _ _) 0 x0) 1 x1) 2 x2) 3 x3
  have b := ((((h.ob.put 0 x0).put 1 x1).put 2 x2).put 3 x3)
  simp only [List.setIfInBounds_toArray, List.set_cons_zero, List.set_cons_succ] at b
  exact ⟨h.rw'.off (by omega) k, h.ib.only k (fun e => by injection e with e; omega), b, h.lt⟩
theorem Cu.Rx.putS {s0 s1 s2 s3 s4 s5 s6 s7 s8 s9 : Value} (h : Cu.Rx w W bi bo #[s0, s1, s2, s3, s4, s5, s6, s7, s8, s9] I O) (y0 y1 y2 y3 y4 y5 y6 y7 y8 y9 : Value) : ∀ W', W' = ((((((((((W.setCell ⟨w.heap.size, 0, none⟩ y0).setCell ⟨w.heap.size, 1, none⟩ y1).setCell ⟨w.heap.size, 2, none⟩ y2).setCell ⟨w.heap.size, 3, none⟩ y3).setCell ⟨w.heap.size, 4, none⟩ y4).setCell ⟨w.heap.size, 5, none⟩ y5).setCell ⟨w.heap.size, 6, none⟩ y6).setCell ⟨w.heap.size, 7, none⟩ y7).setCell ⟨w.heap.size, 8, none⟩ y8).setCell ⟨w.heap.size, 9, none⟩ y9) → Cu.Rx w W' bi bo #[y0, y1, y2, y3, y4, y5, y6, y7, y8, y9] I O ∧ W.grownBy W' (some w.heap.size) := by
  rintro W' rfl
  have k : W.grownBy ((((((((((W.setCell ⟨w.heap.size, 0, none⟩ y0).setCell ⟨w.heap.size, 1, none⟩ y1).setCell ⟨w.heap.size, 2, none⟩ y2).setCell ⟨w.heap.size, 3, none⟩ y3).setCell ⟨w.heap.size, 4, none⟩ y4).setCell ⟨w.heap.size, 5, none⟩ y5).setCell ⟨w.heap.size, 6, none⟩ y6).setCell ⟨w.heap.size, 7, none⟩ y7).setCell ⟨w.heap.size, 8, none⟩ y8).setCell ⟨w.heap.size, 9, none⟩ y9) (some w.heap.size) := only_put (only_put (only_put (only_put (only_put (only_put (only_put (only_put (only_put (only_put (only_refl _ _) 0 y0) 1 y1) 2 y2) 3 y3) 4 y4) 5 y5) 6 y6) 7 y7) 8 y8) 9 y9
  have b := ((((((((((h.put 0 y0).put 1 y1).put 2 y2).put 3 y3).put 4 y4).put 5 y5).put 6 y6).put 7 y7).put 8 y8).put 9 y9)
  simp only [List.setIfInBounds_toArray, List.set_cons_zero, List.set_cons_succ] at b
  exact ⟨b, k⟩
end
end Go.Proofs.YthhodadfiipffaaDoor

/- The document's Step, by contract: cases off. -/
namespace Go.Proofs.YthhodadfiipffaaDoor
open Go.RowKit Go.Lib
set_option linter.unusedVariables false
set_option maxRecDepth 20000

set_option maxHeartbeats 12800000 in
theorem Cu.rs_off (V : List UInt8) (A : Option Addr) (len cap : Nat) (hlen : len = V.length) (hV : V.length ≤ 1000) (pc : Int) (r : Nat → Int) (hp : ¬ (0 ≤ pc ∧ pc + 4 ≤ V.length)) (hpm : pc ≤ 9223372036854775807) (w : World) (hA : Ints w A cap (num V)) : Calls Tryd.prog 42 #[.slice A len cap, .agg #[.int .i64 pc, .int .i64 (r 0), .int .i64 (r 1), .int .i64 (r 2), .int .i64 (r 3), .int .i64 (r 4), .int .i64 (r 5), .int .i64 (r 6), .int .i64 (r 7), .int .i64 0]] w (Cu.Rst w V A ⟨V, pc, Cu.cut r, 3, 5, 0, 0, 6⟩) := by
  subst hlen
  have HIN := Lib.hid hA
  have hth : thereB V.length pc 4 = false := by unfold thereB; simp; omega
  have hTH := Go.Proofs.YthhodadfiipffaaDoor.there_any A V.length cap pc 4
  rw [hth] at hTH
  have HTH := Lib.hid hTH
  clear hTH hth hp
  have HE := Lib.hid (show ∀ R : Nat → Int, (⟨V, pc, R, 3, 5, 0, 0, 6⟩ : Cu.Af) = ⟨V, pc, R, 3, 5, 0, 0, 6⟩ from fun _ => rfl)
  obtain ⟨W1, hW1⟩ : ∃ W1, W1 = ((w.alloc (.cells (Cu.stC pc r 0) 35)).alloc (.cells #[.int .i64 0, .int .i64 0, .int .i64 0, .int .i64 0, .int .i64 0, .int .i64 0, .int .i64 0, .int .i64 0, .int .i64 0, .int .i64 0] 35)).alloc (.cells #[.int .i64 0, .int .i64 0, .int .i64 0, .int .i64 0] 99) := ⟨_, rfl⟩
  have H1 := Lib.hid (show Cu.Rw w W1 (Cu.stC pc (Cu.mix r 0) 0) from by rw [hW1, Cu.mix_0]; exact Cu.rw_new _ _)
  unfold Cu.stC at hW1
  clear hA
  have k9 := (Cu.st_cells H1.out.sb).2.1
  go_enter Tryd.func42, Tryd.ntmps42
  go_upto_region 1 with (fail)
  rw [← hW1]
  clear hW1
  go_wp2
  clear k9
  go_loopw [7] (fun y wr => ∃ kk : Nat, y = .int .i64 kk ∧ kk ≤ 8 ∧ Hid (Cu.Rw w wr (Cu.stC pc (Cu.mix r kk) 0))) (fun y _ => 8 - (Go.RowKit.intOf y).toNat)
  case atStart => exact ⟨0, rfl, Nat.zero_le _, H1⟩
  case round =>
    obtain ⟨kk, rfl, hkk, HS⟩ := hrel
    clear H1
    by_cases hin : kk < 8
    · have c0 := HS.out.sb.cell (1 + kk)
      have f0 := HS.out.sb.free (1 + kk)
      have c1 := (Cu.st_cells HS.out.sb).2.2 kk hin
      rw [show Cu.mix r kk kk = r kk from by unfold Cu.mix; rw [if_neg (Nat.lt_irrefl kk)]] at c1
      have HS2 := Lib.hid (HS.out.put (1 + kk) (.int .i64 (r kk % 65536)))
      rw [Cu.mix_put _ _ _ kk hin] at HS2
      have HKI := Lib.hid (show kk + 1 ≤ 8 from hin)
      have i1 : (kk : Int) < 8 := by omega
      have i2 : (0 : Int) ≤ (kk : Int) := by omega
      have i3 : ¬ (kk : Int) < 0 := by omega
      have i4 : ¬ (7 : Int) < (kk : Int) := by omega
      clear HS hkk hin c0
      go_wp2_with (go_at_call 50; (with_reducible refine (Cu.word_any _ _).mono ?_); rintro e w' ⟨rfl, rfl⟩)
      go_roundw
      case rel => exact ⟨kk + 1, by go_num, HKI.out, HS2⟩
      case measure =>
        have := HKI.out
        simp [Go.RowKit.intOf]
        omega
    · obtain rfl : kk = 8 := by omega
      have HS1 := Lib.hid (show Cu.Rw w wr (Cu.stC pc (Cu.cut r) 0) from HS.out)
      have p0 := (Cu.st_cells HS1.out.sb).1
      clear HS hkk hin
      generalize Cu.cut r = R at *

      have HBR := Lib.hid (fun W => Cu.breaks_any pc 0 6 R W)
      obtain ⟨k0, k1, k2, k3, k4', k5, k6, k7, k8, k9⟩ := Cu.cells10 HS1.out.sb
      go_upto_region 9 with (first
        | (go_at_call 51; (with_reducible refine (HTH.out _ (by omega)).mono ?_); rintro e w' ⟨rfl, rfl⟩)
        | (go_at_call 52; (with_reducible refine (HBR.out _).mono ?_); rintro e w9 ⟨rfl, g9⟩; have H9 := Lib.hid (HS1.out.grown g9); clear g9))
      have c8 := (Blk.new w9 35 #[.int .i64 pc, .int .i64 (R 0), .int .i64 (R 1), .int .i64 (R 2), .int .i64 (R 3), .int .i64 (R 4), .int .i64 (R 5), .int .i64 (R 6), .int .i64 (R 7), .int .i64 3]).alloc (.cells #[.int .i64 5, .int .i64 0, .int .i64 0, .int .i64 6] 99)
      have c9 := Blk.new (w9.alloc (.cells #[.int .i64 pc, .int .i64 (R 0), .int .i64 (R 1), .int .i64 (R 2), .int .i64 (R 3), .int .i64 (R 4), .int .i64 (R 5), .int .i64 (R 6), .int .i64 (R 7), .int .i64 3] 35)) 99 #[.int .i64 5, .int .i64 0, .int .i64 0, .int .i64 6]
      have HB := Lib.hid (H9.out.grown (only_alloc (only_alloc (only_refl _ none) (.cells #[.int .i64 pc, .int .i64 (R 0), .int .i64 (R 1), .int .i64 (R 2), .int .i64 (R 3), .int .i64 (R 4), .int .i64 (R 5), .int .i64 (R 6), .int .i64 (R 7), .int .i64 3] 35)) (.cells #[.int .i64 5, .int .i64 0, .int .i64 0, .int .i64 6] 99)))
      have zz : (w9.alloc (.cells #[.int .i64 pc, .int .i64 (R 0), .int .i64 (R 1), .int .i64 (R 2), .int .i64 (R 3), .int .i64 (R 4), .int .i64 (R 5), .int .i64 (R 6), .int .i64 (R 7), .int .i64 3] 35)).heap.size = w9.heap.size + 1 := by simp
      rw [zz] at c9
      obtain ⟨WB, hWB⟩ : ∃ WB, WB = (w9.alloc (.cells #[.int .i64 pc, .int .i64 (R 0), .int .i64 (R 1), .int .i64 (R 2), .int .i64 (R 3), .int .i64 (R 4), .int .i64 (R 5), .int .i64 (R 6), .int .i64 (R 7), .int .i64 3] 35)).alloc (.cells #[.int .i64 5, .int .i64 0, .int .i64 0, .int .i64 6] 99) := ⟨_, rfl⟩
      rw [← hWB] at c8 c9 HB ⊢
      clear hWB zz k0 k1 k2 k3 k4' k5 k6 k7 k8 k9
      obtain ⟨k0, k1, k2, k3, k4', k5, k6, k7, k8, k9⟩ := Cu.cells10 c8
      obtain ⟨t0, t1, t2, t3⟩ := Cu.cells4 c9
      have hlt9 : w.heap.size + 1 + 1 < w9.heap.size := by have := H9.out.ro.lt; omega
      obtain ⟨ba, hba⟩ : ∃ ba, ba = w9.heap.size := ⟨_, rfl⟩
      rw [← hba] at k0 k1 k2 k3 k4' k5 k6 k7 k8 k9 t0 t1 t2 t3 hlt9 ⊢
      have u0 : ¬ ba = w.heap.size := by omega
      have u1 : ¬ w.heap.size = ba := by omega
      have u2 : ¬ ba = w.heap.size + 1 := by omega
      have u3 : ¬ w.heap.size + 1 = ba := by omega
      have u4 : ¬ ba = w.heap.size + 1 + 1 := by omega
      have u5 : ¬ w.heap.size + 1 + 1 = ba := by omega
      clear hba c8 c9 H9 HBR
      obtain ⟨z0, z1, z2, z3, z4, z5, z6, z7, z8, z9⟩ := Cu.cells10 HB.out.rs
      obtain ⟨f0, f1, f2, f3, f4, f5, f6, f7, f8, f9⟩ := Cu.free10 HB.out.rs
      obtain ⟨o0, o1, o2, o3⟩ := Cu.cells4 HB.out.ro
      obtain ⟨q0, q1, q2, q3⟩ := Cu.free4 HB.out.ro
      go_region_with (fail)
      all_goals
        obtain ⟨⟨ra0, ra1, ra2, ra3, ra4, ra5, ra6, ra7, ra8, ra9⟩, ⟨rb0, rb1, rb2, rb3⟩, G9, -⟩ := HB.out.fin (.int .i64 pc) (.int .i64 (R 0)) (.int .i64 (R 1)) (.int .i64 (R 2)) (.int .i64 (R 3)) (.int .i64 (R 4)) (.int .i64 (R 5)) (.int .i64 (R 6)) (.int .i64 (R 7)) (.int .i64 3) (.int .i64 5) (.int .i64 0) (.int .i64 0) (.int .i64 6) _ rfl
        go_wp2
        refine bodyPost_ret (v := .tuple #[.slice A V.length cap, .agg #[.int .i64 pc, .int .i64 (R 0), .int .i64 (R 1), .int .i64 (R 2), .int .i64 (R 3), .int .i64 (R 4), .int .i64 (R 5), .int .i64 (R 6), .int .i64 (R 7), .int .i64 3], .agg #[.int .i64 5, .int .i64 0, .int .i64 0, .int .i64 6]]) (by simp [results, Tryd.results42, go_sem, ra0, ra1, ra2, ra3, ra4, ra5, ra6, ra7, ra8, ra9, rb0, rb1, rb2, rb3]) rfl ?_
        skip
        exact ⟨A, _, cap, rfl, rfl, Cu.ints_gr HIN.out G9, G9, fun _ _ h => h⟩

end Go.Proofs.YthhodadfiipffaaDoor
