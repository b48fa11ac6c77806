import Derived.Test.YtiicoabkhponmaaDoorZ06
import Derived.Test.YtiicoabkhponmaaDoorZ27
set_option linter.all false
/- The document's word on instructions: names, bytes, by their contracts. -/
namespace Go.Proofs.YtiicoabkhponmaaDoor
open Go.RowKit Go.Lib
set_option linter.unusedVariables false

def nmV : Array Value := #[.string (nmL 0), .string (nmL 1), .string (nmL 2), .string (nmL 3), .string (nmL 4), .string (nmL 5), .string (nmL 6), .string (nmL 7), .string (nmL 8), .string (nmL 9), .string (nmL 10), .string (nmL 11), .string (nmL 12), .string (nmL 13), .string (nmL 14), .string (nmL 15)]
theorem nmV_at {k : Nat} (hk : k < 16) : nmV[k]? = some (.string (nmL k)) := by
  have key : k = 0 ∨ k = 1 ∨ k = 2 ∨ k = 3 ∨ k = 4 ∨ k = 5 ∨ k = 6 ∨ k = 7 ∨ k = 8 ∨ k = 9 ∨ k = 10 ∨ k = 11 ∨ k = 12 ∨ k = 13 ∨ k = 14 ∨ k = 15 := by omega
  rcases key with rfl | rfl | rfl | rfl | rfl | rfl | rfl | rfl | rfl | rfl | rfl | rfl | rfl | rfl | rfl | rfl
  all_goals rfl
/-- Two bytes as1 a string, behind another block. -/
theorem conv_two (x y : Int) (W : World) (o : Obj) : (convert 81 9 (.slice (some ⟨W.heap.size, 0, none⟩) 2 2)).run Tryd.prog ((W.alloc (.cells #[.int .u8 x, .int .u8 y] 5)).alloc o) =
    .ok (.string ⟨#[UInt8.ofNat x.toNat, UInt8.ofNat y.toNat]⟩) ((W.alloc (.cells #[.int .u8 x, .int .u8 y] 5)).alloc o) := by
  have hb := (Blk.new W 5 #[.int .u8 x, .int .u8 y]).alloc o
  have h := run_convert_bytes_arg (P := Tryd.prog) ((W.alloc (.cells #[.int .u8 x, .int .u8 y] 5)).alloc o) 81 5 Tryd.underlying81 Tryd.underlying5 W.heap.size 0 2 2 [x, y] rfl (by
    intro i hi
    rw [hb.cell]
    match i, hi with
    | 0, _ => simp
    | 1, _ => simp) 9 Tryd.underlying9
  rw [h]
  congr 2
end Go.Proofs.YtiicoabkhponmaaDoor

/- The document's word on instructions: the instruction of bytes, by its contract. -/
namespace Go.Proofs.YtiicoabkhponmaaDoor
open Go.RowKit Go.Lib
set_option linter.unusedVariables false

set_option maxRecDepth 20000 in
set_option maxHeartbeats 1600000 in
theorem rget_any (t : ByteArray) (hs : t.size ≤ 9223372036854775807) (w : World) : Calls Tryd.prog 31 #[.string t] w fun e w' => e = .returned (getV t) ∧ w.grownBy w' none := by
  obtain ⟨W1, hW, g1, hB⟩ := ibox w 67 #[.int .u8 0, .int .i64 0, .int .i64 0]
  have HG := Lib.hid g1
  have HB := Lib.hid hB
  by_cases h4 : t.size < 4
  · have HV := Lib.hid (show getV t = .tuple #[.agg #[.int .u8 0, .int .i64 0, .int .i64 0], .int .i64 5] from by unfold getV; rw [if_pos h4])
    have i4 : (t.size : Int) < 4 := by omega
    obtain ⟨z0, z1, z2, f0, f1, f2⟩ := in3f hB
    rw [HV.out]
    clear hB g1 h4
    go_enter Tryd.func31, Tryd.ntmps31
    go_upto_region 1 with (fail)
    rw [← hW]
    clear hW
    go_wp2
    obtain ⟨⟨r0, r1, r2⟩, G9⟩ := put3 (a' := .int .u8 0) (b' := .int .i64 0) (c' := .int .i64 0) HB.out HG.out _ rfl
    refine bodyPost_ret (v := .tuple #[.agg #[.int .u8 0, .int .i64 0, .int .i64 0], .int .i64 5]) (by simp [results, Tryd.results31, go_sem, r0, r1, r2]) rfl ⟨rfl, G9⟩
  · have j0 : 0 < t.size := by omega
    have j1 : 1 < t.size := by omega
    have j2 : 2 < t.size := by omega
    have j3 : 3 < t.size := by omega
    have i4 : ¬ (t.size : Int) < 4 := by omega
    have i0 : (0 : Int) < (t.size : Int) := by omega
    have i1 : (1 : Int) < (t.size : Int) := by omega
    have i2 : (2 : Int) < (t.size : Int) := by omega
    have i3 : (3 : Int) < (t.size : Int) := by omega
    have l0 := (t[0]'j0).toNat_lt
    have l1 := (t[1]'j1).toNat_lt
    have l2 := (t[2]'j2).toNat_lt
    have l3 := (t[3]'j3).toNat_lt
    have hgw : (gw t 2 : Int) = ((t[2]'j2).toNat : Int) + (256 : Int) * ((t[3]'j3).toNat : Int) := by rw [gw, if_pos (by omega), gb_of j2, gb_of j3]; omega
    have w1 : IntKind.i64.wrap ((t[1]'j1).toNat : Int) = ((t[1]'j1).toNat : Int) := by rw [IntKind.wrap_i64]; omega
    have w2 : IntKind.i64.wrap ((t[2]'j2).toNat : Int) = ((t[2]'j2).toNat : Int) := by rw [IntKind.wrap_i64]; omega
    have w3 : IntKind.i64.wrap ((t[3]'j3).toNat : Int) = ((t[3]'j3).toNat : Int) := by rw [IntKind.wrap_i64]; omega
    have w4 : IntKind.i64.wrap ((256 : Int) * ((t[3]'j3).toNat : Int)) = (256 : Int) * ((t[3]'j3).toNat : Int) := by rw [IntKind.wrap_i64]; omega
    have w5 : IntKind.i64.wrap (((t[2]'j2).toNat : Int) + (256 : Int) * ((t[3]'j3).toNat : Int)) = ((t[2]'j2).toNat : Int) + (256 : Int) * ((t[3]'j3).toNat : Int) := by rw [IntKind.wrap_i64]; omega
    have w6 : wrap64 ((256 : Int) * ((t[3]'j3).toNat : Int)) = (256 : Int) * ((t[3]'j3).toNat : Int) := IntWalk.wrap64_in _ ⟨by omega, by omega⟩
    have w7 : wrap64 (((t[2]'j2).toNat : Int) + (256 : Int) * ((t[3]'j3).toNat : Int)) = ((t[2]'j2).toNat : Int) + (256 : Int) * ((t[3]'j3).toNat : Int) := IntWalk.wrap64_in _ ⟨by omega, by omega⟩
    have HM := Lib.hid (fun W => rmay_any (gb t 0) (gb t 1) (gw t 2) (gb_lt t 0) W)
    have HVE := Lib.hid (show getV t = if mayI (gb t 0) (gb t 1) (gw t 2) = true then .tuple #[.agg #[.int .u8 (gb t 0), .int .i64 (gb t 1), .int .i64 (gw t 2)], .int .i64 0] else .tuple #[.agg #[.int .u8 0, .int .i64 0, .int .i64 0], .int .i64 12] from by unfold getV; rw [if_neg h4])
    rw [HVE.out]
    rw [gb_of j0, gb_of j1, hgw] at HM ⊢
    obtain ⟨m, hm⟩ : ∃ m, m = mayI (t[0]'j0).toNat ((t[1]'j1).toNat : Int) (((t[2]'j2).toNat : Int) + (256 : Int) * ((t[3]'j3).toNat : Int)) := ⟨_, rfl⟩
    rw [← hm] at HM ⊢
    cases m
    · rw [if_neg (by decide)]
      clear hB g1 h4 hgw hm HVE l0 l1 l2 l3
      go_enter Tryd.func31, Tryd.ntmps31
      go_upto_region 1 with (fail)
      rw [← hW]
      clear hW
      go_upto_region 3 with (fail)
      go_region
      obtain ⟨w8, hw8⟩ : ∃ w8, w8 = (W1.alloc (.cells #[.int .u8 ((t[0]'j0).toNat : Int), .int .i64 ((t[1]'j1).toNat : Int), .int .i64 (((t[2]'j2).toNat : Int) + (256 : Int) * ((t[3]'j3).toNat : Int))] 67)).drew := ⟨_, rfl⟩
      have g8 : W1.grownBy w8 none := by rw [hw8]; exact only_drewN (only_alloc (only_refl _ _) _) 1
      have BI := Lib.hid (show Blk w8 W1.heap.size 67 #[.int .u8 ((t[0]'j0).toNat : Int), .int .i64 ((t[1]'j1).toNat : Int), .int .i64 (((t[2]'j2).toNat : Int) + (256 : Int) * ((t[3]'j3).toNat : Int))] from by rw [hw8]; exact Blk.new _ _ _)
      have B8 := Lib.hid (HB.out.only g8 (by simp))
      have G8 := Lib.hid (only_trans HG.out g8)
      have hlt := HB.out.lt
      have n1 : ¬ w.heap.size = W1.heap.size := by omega
      have n2 : ¬ W1.heap.size = w.heap.size := by omega
      rw [← hw8]
      clear hw8 g8 hlt w1 w2 w3 w4 w5 w6 w7
      obtain ⟨y0, y1, y2⟩ := in3 BI.out
      go_wp2_with (go_at_call 50; (with_reducible refine (HM.out _).mono ?_); rintro e w9 ⟨rfl, g9⟩; have B9 := Lib.hid (B8.out.only g9 (by simp)); have G9 := Lib.hid (only_trans G8.out g9); clear y0 y1 y2 g9; obtain ⟨z0, z1, z2, f0, f1, f2⟩ := in3f B9.out)
      obtain ⟨⟨r0, r1, r2⟩, Gf⟩ := put3 (a' := .int .u8 0) (b' := .int .i64 0) (c' := .int .i64 0) B9.out G9.out _ rfl
      refine bodyPost_ret (v := .tuple #[.agg #[.int .u8 0, .int .i64 0, .int .i64 0], .int .i64 12]) (by simp [results, Tryd.results31, go_sem, r0, r1, r2]) rfl ⟨rfl, Gf⟩
    · rw [if_pos rfl]
      clear hB g1 h4 hgw hm HVE l0 l1 l2 l3
      go_enter Tryd.func31, Tryd.ntmps31
      go_upto_region 1 with (fail)
      rw [← hW]
      clear hW
      go_upto_region 3 with (fail)
      go_region
      obtain ⟨w8, hw8⟩ : ∃ w8, w8 = (W1.alloc (.cells #[.int .u8 ((t[0]'j0).toNat : Int), .int .i64 ((t[1]'j1).toNat : Int), .int .i64 (((t[2]'j2).toNat : Int) + (256 : Int) * ((t[3]'j3).toNat : Int))] 67)).drew := ⟨_, rfl⟩
      have g8 : W1.grownBy w8 none := by rw [hw8]; exact only_drewN (only_alloc (only_refl _ _) _) 1
      have BI := Lib.hid (show Blk w8 W1.heap.size 67 #[.int .u8 ((t[0]'j0).toNat : Int), .int .i64 ((t[1]'j1).toNat : Int), .int .i64 (((t[2]'j2).toNat : Int) + (256 : Int) * ((t[3]'j3).toNat : Int))] from by rw [hw8]; exact Blk.new _ _ _)
      have B8 := Lib.hid (HB.out.only g8 (by simp))
      have G8 := Lib.hid (only_trans HG.out g8)
      have hlt := HB.out.lt
      have n1 : ¬ w.heap.size = W1.heap.size := by omega
      have n2 : ¬ W1.heap.size = w.heap.size := by omega
      rw [← hw8]
      clear hw8 g8 hlt w1 w2 w3 w4 w5 w6 w7
      obtain ⟨y0, y1, y2⟩ := in3 BI.out
      go_wp2_with (go_at_call 50; (with_reducible refine (HM.out _).mono ?_); rintro e w9 ⟨rfl, g9⟩; have B9 := Lib.hid (B8.out.only g9 (by simp)); have BJ := Lib.hid (BI.out.only g9 (by simp)); have G9 := Lib.hid (only_trans G8.out g9); clear y0 y1 y2 g9; obtain ⟨z0, z1, z2, f0, f1, f2⟩ := in3f B9.out; obtain ⟨y0, y1, y2⟩ := in3 BJ.out)
      obtain ⟨⟨r0, r1, r2⟩, Gf⟩ := put3 (a' := .int .u8 ((t[0]'j0).toNat : Int)) (b' := .int .i64 ((t[1]'j1).toNat : Int)) (c' := .int .i64 (((t[2]'j2).toNat : Int) + (256 : Int) * ((t[3]'j3).toNat : Int))) B9.out G9.out _ rfl
      refine bodyPost_ret (v := .tuple #[.agg #[.int .u8 ((t[0]'j0).toNat : Int), .int .i64 ((t[1]'j1).toNat : Int), .int .i64 (((t[2]'j2).toNat : Int) + (256 : Int) * ((t[3]'j3).toNat : Int))], .int .i64 0]) (by simp [results, Tryd.results31, go_sem, r0, r1, r2]) rfl ⟨rfl, Gf⟩
end Go.Proofs.YtiicoabkhponmaaDoor

/- The boxes of the document's Step. -/
namespace Go.Proofs.YtiicoabkhponmaaDoor
open Go.RowKit Go.Lib
set_option linter.unusedVariables false
set_option maxRecDepth 8000

structure Cu.Rw (w W : World) (S : Array Value) : Prop where
  sb : Blk W w.heap.size 32 S
  rs : Blk W (w.heap.size + 1) 32 #[.int .i64 0, .int .i64 0, .int .i64 0, .int .i64 0, .int .i64 0, .int .i64 0, .int .i64 0, .int .i64 0, .int .i64 0, .int .i64 0]
  ro : Blk W (w.heap.size + 1 + 1) 36 #[.int .i64 0, .int .i64 0, .int .i64 0, .int .i64 0]
  gr : w.grownBy W none
theorem Cu.rw_new (w : World) (S : Array Value) : Cu.Rw w (((w.alloc (.cells S 32)).alloc (.cells #[.int .i64 0, .int .i64 0, .int .i64 0, .int .i64 0, .int .i64 0, .int .i64 0, .int .i64 0, .int .i64 0, .int .i64 0, .int .i64 0] 32)).alloc (.cells #[.int .i64 0, .int .i64 0, .int .i64 0, .int .i64 0] 36)) S := by
  have b1 := Blk.new (w.alloc (.cells S 32)) 32 #[.int .i64 0, .int .i64 0, .int .i64 0, .int .i64 0, .int .i64 0, .int .i64 0, .int .i64 0, .int .i64 0, .int .i64 0, .int .i64 0]
  have b2 := Blk.new ((w.alloc (.cells S 32)).alloc (.cells #[.int .i64 0, .int .i64 0, .int .i64 0, .int .i64 0, .int .i64 0, .int .i64 0, .int .i64 0, .int .i64 0, .int .i64 0, .int .i64 0] 32)) 36 #[.int .i64 0, .int .i64 0, .int .i64 0, .int .i64 0]
  exact ⟨((Blk.new _ _ _).alloc _).alloc _, by simpa using b1.alloc _, by simpa using b2, only_alloc (only_alloc (only_alloc (only_refl _ _) _) _) _⟩
section
variable {w W W' : World} {S : Array Value}
theorem Cu.Rw.grown (h : Cu.Rw w W S) (k : W.grownBy W' none) : Cu.Rw w W' S := ⟨h.sb.only k (by simp), h.rs.only k (by simp), h.ro.only k (by simp), only_trans h.gr k⟩
theorem Cu.Rw.put (h : Cu.Rw w W S) (i : Nat) (v : Value) : Cu.Rw w (W.setCell ⟨w.heap.size, i, none⟩ v) (S.setIfInBounds i v) :=
  ⟨h.sb.put i v, h.rs.far (p := ⟨w.heap.size, i, none⟩) (by show w.heap.size + 1 ≠ w.heap.size; omega) v, h.ro.far (p := ⟨w.heap.size, i, none⟩) (by show w.heap.size + 1 + 1 ≠ w.heap.size; omega) v, only_putc h.gr (p := ⟨w.heap.size, i, none⟩) (Nat.le_refl _) v⟩
theorem Cu.Rw.off (h : Cu.Rw w W S) {i : Nat} (hi : w.heap.size + 1 + 1 < i) (k : W.grownBy W' (some i)) : Cu.Rw w W' S := by
  have ne : ∀ x, x ≤ w.heap.size + 1 + 1 → some x ≠ some i := fun x hx e => by injection e with e; omega
  exact ⟨h.sb.only k (ne _ (by omega)), h.rs.only k (ne _ (by omega)), h.ro.only k (ne _ (by omega)), Cu.grow_none h.gr k (by omega)⟩
theorem Cu.Rw.fin (h : Cu.Rw w W S) (y0 y1 y2 y3 y4 y5 y6 y7 y8 y9 x0 x1 x2 x3 : Value) : ∀ W', W' = ((((((((((((((W.setCell ⟨w.heap.size + 1, 0, none⟩ y0).setCell ⟨w.heap.size + 1, 1, none⟩ y1).setCell ⟨w.heap.size + 1, 2, none⟩ y2).setCell ⟨w.heap.size + 1, 3, none⟩ y3).setCell ⟨w.heap.size + 1, 4, none⟩ y4).setCell ⟨w.heap.size + 1, 5, none⟩ y5).setCell ⟨w.heap.size + 1, 6, none⟩ y6).setCell ⟨w.heap.size + 1, 7, none⟩ y7).setCell ⟨w.heap.size + 1, 8, none⟩ y8).setCell ⟨w.heap.size + 1, 9, none⟩ y9).setCell ⟨w.heap.size + 1 + 1, 0, none⟩ x0).setCell ⟨w.heap.size + 1 + 1, 1, none⟩ x1).setCell ⟨w.heap.size + 1 + 1, 2, none⟩ x2).setCell ⟨w.heap.size + 1 + 1, 3, none⟩ x3).drew → (W'.cell? ⟨w.heap.size + 1, 0, none⟩ = some y0 ∧ W'.cell? ⟨w.heap.size + 1, 1, none⟩ = some y1 ∧ W'.cell? ⟨w.heap.size + 1, 2, none⟩ = some y2 ∧ W'.cell? ⟨w.heap.size + 1, 3, none⟩ = some y3 ∧ W'.cell? ⟨w.heap.size + 1, 4, none⟩ = some y4 ∧ W'.cell? ⟨w.heap.size + 1, 5, none⟩ = some y5 ∧ W'.cell? ⟨w.heap.size + 1, 6, none⟩ = some y6 ∧ W'.cell? ⟨w.heap.size + 1, 7, none⟩ = some y7 ∧ W'.cell? ⟨w.heap.size + 1, 8, none⟩ = some y8 ∧ W'.cell? ⟨w.heap.size + 1, 9, none⟩ = some y9) ∧ (W'.cell? ⟨w.heap.size + 1 + 1, 0, none⟩ = some x0 ∧ W'.cell? ⟨w.heap.size + 1 + 1, 1, none⟩ = some x1 ∧ W'.cell? ⟨w.heap.size + 1 + 1, 2, none⟩ = some x2 ∧ W'.cell? ⟨w.heap.size + 1 + 1, 3, none⟩ = some x3) ∧ w.grownBy W' none ∧ ∃ Wm, W.grownBy Wm (some (w.heap.size + 1)) ∧ Wm.grownBy W' (some (w.heap.size + 1 + 1)) := by
  rintro W' rfl
  have k1 : W.grownBy ((((((((((W.setCell ⟨w.heap.size + 1, 0, none⟩ y0).setCell ⟨w.heap.size + 1, 1, none⟩ y1).setCell ⟨w.heap.size + 1, 2, none⟩ y2).setCell ⟨w.heap.size + 1, 3, none⟩ y3).setCell ⟨w.heap.size + 1, 4, none⟩ y4).setCell ⟨w.heap.size + 1, 5, none⟩ y5).setCell ⟨w.heap.size + 1, 6, none⟩ y6).setCell ⟨w.heap.size + 1, 7, none⟩ y7).setCell ⟨w.heap.size + 1, 8, none⟩ y8).setCell ⟨w.heap.size + 1, 9, none⟩ y9) (some (w.heap.size + 1)) := only_put (only_put (only_put (only_put (only_put (only_put (only_put (only_put (only_put (only_put (only_refl _ _) 0 y0) 1 y1) 2 y2) 3 y3) 4 y4) 5 y5) 6 y6) 7 y7) 8 y8) 9 y9
  have k2 : World.grownBy ((((((((((W.setCell ⟨w.heap.size + 1, 0, none⟩ y0).setCell ⟨w.heap.size + 1, 1, none⟩ y1).setCell ⟨w.heap.size + 1, 2, none⟩ y2).setCell ⟨w.heap.size + 1, 3, none⟩ y3).setCell ⟨w.heap.size + 1, 4, none⟩ y4).setCell ⟨w.heap.size + 1, 5, none⟩ y5).setCell ⟨w.heap.size + 1, 6, none⟩ y6).setCell ⟨w.heap.size + 1, 7, none⟩ y7).setCell ⟨w.heap.size + 1, 8, none⟩ y8).setCell ⟨w.heap.size + 1, 9, none⟩ y9) ((((((((((((((W.setCell ⟨w.heap.size + 1, 0, none⟩ y0).setCell ⟨w.heap.size + 1, 1, none⟩ y1).setCell ⟨w.heap.size + 1, 2, none⟩ y2).setCell ⟨w.heap.size + 1, 3, none⟩ y3).setCell ⟨w.heap.size + 1, 4, none⟩ y4).setCell ⟨w.heap.size + 1, 5, none⟩ y5).setCell ⟨w.heap.size + 1, 6, none⟩ y6).setCell ⟨w.heap.size + 1, 7, none⟩ y7).setCell ⟨w.heap.size + 1, 8, none⟩ y8).setCell ⟨w.heap.size + 1, 9, none⟩ y9).setCell ⟨w.heap.size + 1 + 1, 0, none⟩ x0).setCell ⟨w.heap.size + 1 + 1, 1, none⟩ x1).setCell ⟨w.heap.size + 1 + 1, 2, none⟩ x2).setCell ⟨w.heap.size + 1 + 1, 3, none⟩ x3).drew (some (w.heap.size + 1 + 1)) := only_drewN (only_put (only_put (only_put (only_put (only_refl _ _) 0 x0) 1 x1) 2 x2) 3 x3) 1
  have b1 := ((((((((((h.rs.put 0 y0).put 1 y1).put 2 y2).put 3 y3).put 4 y4).put 5 y5).put 6 y6).put 7 y7).put 8 y8).put 9 y9)
  have b2 := ((((((((((((((h.ro.far (p := ⟨w.heap.size + 1, 0, none⟩) (by show w.heap.size + 1 + 1 ≠ w.heap.size + 1; omega) y0).far (p := ⟨w.heap.size + 1, 1, none⟩) (by show w.heap.size + 1 + 1 ≠ w.heap.size + 1; omega) y1).far (p := ⟨w.heap.size + 1, 2, none⟩) (by show w.heap.size + 1 + 1 ≠ w.heap.size + 1; omega) y2).far (p := ⟨w.heap.size + 1, 3, none⟩) (by show w.heap.size + 1 + 1 ≠ w.heap.size + 1; omega) y3).far (p := ⟨w.heap.size + 1, 4, none⟩) (by show w.heap.size + 1 + 1 ≠ w.heap.size + 1; omega) y4).far (p := ⟨w.heap.size + 1, 5, none⟩) (by show w.heap.size + 1 + 1 ≠ w.heap.size + 1; omega) y5).far (p := ⟨w.heap.size + 1, 6, none⟩) (by show w.heap.size + 1 + 1 ≠ w.heap.size + 1; omega) y6).far (p := ⟨w.heap.size + 1, 7, none⟩) (by show w.heap.size + 1 + 1 ≠ w.heap.size + 1; omega) y7).far (p := ⟨w.heap.size + 1, 8, none⟩) (by show w.heap.size + 1 + 1 ≠ w.heap.size + 1; omega) y8).far (p := ⟨w.heap.size + 1, 9, none⟩) (by show w.heap.size + 1 + 1 ≠ w.heap.size + 1; omega) y9).put 0 x0).put 1 x1).put 2 x2).put 3 x3)
  simp only [List.setIfInBounds_toArray, List.set_cons_zero, List.set_cons_succ] at b1 b2
  have c1 := b1.only k2 (fun e => by injection e with e; omega)
  exact ⟨Cu.cells10 c1, Cu.cells4 (b2.drewN 1), Cu.grow_none (Cu.grow_none h.gr k1 (by omega)) k2 (by omega), _, k1, k2⟩
end
/-- What a step of the document's answers. -/
def Cu.Rst (w : World) (V : List UInt8) (A0 : Option Addr) (a : Cu.Af) (e : Ending) (w' : World) : Prop :=
  ∃ (A : Option Addr) (n c : Nat), e = .returned (.tuple #[.slice A n c, .agg #[.int .i64 (a).pc, .int .i64 ((a).r 0), .int .i64 ((a).r 1), .int .i64 ((a).r 2), .int .i64 ((a).r 3), .int .i64 ((a).r 4), .int .i64 ((a).r 5), .int .i64 ((a).r 6), .int .i64 ((a).r 7), .int .i64 (a).md], .agg #[.int .i64 (a).o1, .int .i64 (a).o2, .int .i64 (a).o3, .int .i64 (a).o4]]) ∧ n = a.v.length ∧ Ints w' A c (num a.v) ∧ w.grownBy w' none ∧ ∀ i, i < w.heap.size → OffI V A0 i → OffI a.v A i
theorem Cu.offi_new {W : World} {A : Option Addr} {c i : Nat} {l : List UInt8} (h : Ints W A c (num l)) (hi : W.heap.size ≤ i) : OffI l A i := fun hp b off e => by
  obtain ⟨b', off', h1, h2, _⟩ := h.2 (by rw [num_len]; exact hp)
  rw [h1] at e
  injection e with e
  injection e with e1 _
  omega
structure Cu.Rx (w W : World) (bi bo : Nat) (S I O : Array Value) : Prop where
  rw' : Cu.Rw w W S
  ib : Blk W bi 67 I
  ob : Blk W bo 36 O
  lt : w.heap.size + 1 + 1 < bi ∧ bi < bo
section
variable {w W W' : World} {bi bo : Nat} {S I O : Array Value}
theorem Cu.Rx.grown (h : Cu.Rx w W bi bo S I O) (k : W.grownBy W' none) : Cu.Rx w W' bi bo S I O := ⟨h.rw'.grown k, h.ib.only k (by simp), h.ob.only k (by simp), h.lt⟩
theorem Cu.Rx.put (h : Cu.Rx w W bi bo S I O) (i : Nat) (v : Value) : Cu.Rx w (W.setCell ⟨w.heap.size, i, none⟩ v) bi bo (S.setIfInBounds i v) I O := by
  have l := h.lt
  exact ⟨h.rw'.put i v, h.ib.far (p := ⟨w.heap.size, i, none⟩) (by show bi ≠ w.heap.size; omega) v, h.ob.far (p := ⟨w.heap.size, i, none⟩) (by show bo ≠ w.heap.size; omega) v, h.lt⟩
theorem Cu.Rx.putO {z0 z1 z2 z3 : Value} (h : Cu.Rx w W bi bo S I #[z0, z1, z2, z3]) (x0 x1 x2 x3 : Value) : ∀ W', W' = ((((W.setCell ⟨bo, 0, none⟩ x0).setCell ⟨bo, 1, none⟩ x1).setCell ⟨bo, 2, none⟩ x2).setCell ⟨bo, 3, none⟩ x3) → Cu.Rx w W' bi bo S I #[x0, x1, x2, x3] := by
  rintro W' rfl
  have l := h.lt
  have k : W.grownBy ((((W.setCell ⟨bo, 0, none⟩ x0).setCell ⟨bo, 1, none⟩ x1).setCell ⟨bo, 2, none⟩ x2).setCell ⟨bo, 3, none⟩ x3) (some bo) := only_put (only_put (only_put (only_put (only_refl _ _) 0 x0) 1 x1) 2 x2) 3 x3
  have b := ((((h.ob.put 0 x0).put 1 x1).put 2 x2).put 3 x3)
  simp only [List.setIfInBounds_toArray, List.set_cons_zero, List.set_cons_succ] at b
  exact ⟨h.rw'.off (by omega) k, h.ib.only k (fun e => by injection e with e; omega), b, h.lt⟩
theorem Cu.Rx.putS {s0 s1 s2 s3 s4 s5 s6 s7 s8 s9 : Value} (h : Cu.Rx w W bi bo #[s0, s1, s2, s3, s4, s5, s6, s7, s8, s9] I O) (y0 y1 y2 y3 y4 y5 y6 y7 y8 y9 : Value) : ∀ W', W' = ((((((((((W.setCell ⟨w.heap.size, 0, none⟩ y0).setCell ⟨w.heap.size, 1, none⟩ y1).setCell ⟨w.heap.size, 2, none⟩ y2).setCell ⟨w.heap.size, 3, none⟩ y3).setCell ⟨w.heap.size, 4, none⟩ y4).setCell ⟨w.heap.size, 5, none⟩ y5).setCell ⟨w.heap.size, 6, none⟩ y6).setCell ⟨w.heap.size, 7, none⟩ y7).setCell ⟨w.heap.size, 8, none⟩ y8).setCell ⟨w.heap.size, 9, none⟩ y9) → Cu.Rx w W' bi bo #[y0, y1, y2, y3, y4, y5, y6, y7, y8, y9] I O ∧ W.grownBy W' (some w.heap.size) := by
  rintro W' rfl
  have k : W.grownBy ((((((((((W.setCell ⟨w.heap.size, 0, none⟩ y0).setCell ⟨w.heap.size, 1, none⟩ y1).setCell ⟨w.heap.size, 2, none⟩ y2).setCell ⟨w.heap.size, 3, none⟩ y3).setCell ⟨w.heap.size, 4, none⟩ y4).setCell ⟨w.heap.size, 5, none⟩ y5).setCell ⟨w.heap.size, 6, none⟩ y6).setCell ⟨w.heap.size, 7, none⟩ y7).setCell ⟨w.heap.size, 8, none⟩ y8).setCell ⟨w.heap.size, 9, none⟩ y9) (some w.heap.size) := only_put (only_put (only_put (only_put (only_put (only_put (only_put (only_put (only_put (only_put (only_refl _ _) 0 y0) 1 y1) 2 y2) 3 y3) 4 y4) 5 y5) 6 y6) 7 y7) 8 y8) 9 y9
  have b := ((((((((((h.put 0 y0).put 1 y1).put 2 y2).put 3 y3).put 4 y4).put 5 y5).put 6 y6).put 7 y7).put 8 y8).put 9 y9)
  simp only [List.setIfInBounds_toArray, List.set_cons_zero, List.set_cons_succ] at b
  exact ⟨b, k⟩
end
end Go.Proofs.YtiicoabkhponmaaDoor
