import Derived.Test.YtldhggaghhjebaaZ02
import Derived.LoopTactic
import Derived.Lib.QuietBelow
set_option linter.all false
/- Print of package desc, and the document's, by contract. -/
namespace Go.Proofs.Ytldhggaghhjebaa
open Go.RowKit Go.Lib
set_option linter.unusedVariables false
set_option maxRecDepth 8000

/-- What was written of a descriptor, step by step. -/
def De.o (k s : Nat) (a l g : Int) : Nat → Option (List UInt8)
  | 0 => some []
  | 1 => wrNext (some []) 0 k .empty
  | 2 => wrNext (wrNext (some []) 0 k .empty) 0 s .empty
  | 3 => wrNext (wrNext (wrNext (some []) 0 k .empty) 0 s .empty) 1 a .empty
  | 4 => wrNext (wrNext (wrNext (wrNext (some []) 0 k .empty) 0 s .empty) 1 a .empty) 1 l .empty
  | _ => wrNext (wrNext (wrNext (wrNext (wrNext (some []) 0 k .empty) 0 s .empty) 1 a .empty) 1 l .empty) 1 g .empty
def De.okA (n : Int) : Prop := 0 ≤ n ∧ n ≤ 65535
/-- A descriptor's bytes. -/
def De.bys (k s : Nat) (a l g : Int) : List UInt8 := [UInt8.ofNat k, UInt8.ofNat s] ++ (Bt.put a).data.toList ++ (Bt.put l).data.toList ++ (Bt.put g).data.toList
section
variable {k s : Nat} {a l g : Int}
theorem De.o2 (hk : k < 256) (hs : s < 256) : De.o k s a l g 2 = some [UInt8.ofNat k, UInt8.ofNat s] := by
  have e1 : De.o k s a l g 1 = some [UInt8.ofNat k] := by
    show wrNext (some []) 0 (k : Int) .empty = _
    simp [wrNext, stepBytes]
    omega
  show wrNext (De.o k s a l g 1) 0 (s : Int) .empty = _
  rw [e1]
  simp [wrNext, stepBytes]
  omega
theorem De.two_ok {x : List UInt8} {n : Int} (h : De.okA n) : wrNext (some x) 1 n .empty = some (x ++ (Bt.put n).data.toList) := by
  simp [wrNext, stepBytes, h.1, h.2]
theorem De.two_no {x : List UInt8} {n : Int} (h : ¬ De.okA n) : wrNext (some x) 1 n .empty = none := by
  unfold De.okA at h
  simp [wrNext, stepBytes, h]
theorem De.none_next (d n : Int) : wrNext none d n .empty = none := rfl
theorem De.o_len (hk : k < 256) (hs : s < 256) (i : Nat) : ∀ x, De.o k s a l g i = some x → x.length ≤ 1000 := by
  have e2 := De.o2 (a := a) (l := l) (g := g) hk hs
  have put2 : ∀ n, (Bt.put n).data.toList.length = 2 := fun n => rfl
  have step : ∀ (o : Option (List UInt8)) (n : Int) (c : Nat), (∀ x, o = some x → x.length ≤ c) → ∀ x, wrNext o 1 n .empty = some x → x.length ≤ c + 2 := by
    intro o n c h x hx
    cases o with
    | none => cases hx
    | some y =>
      by_cases hn : De.okA n
      · rw [De.two_ok hn] at hx
        injection hx with hx
        have := h y rfl
        rw [← hx, List.length_append, put2]
        omega
      · rw [De.two_no hn] at hx; cases hx
  have l2 : ∀ x, De.o k s a l g 2 = some x → x.length ≤ 2 := fun x hx => by rw [e2] at hx; injection hx with hx; rw [← hx]; simp
  have l3 := step _ a 2 l2
  have l4 := step _ l 4 l3
  have l5 := step _ g 6 l4
  match i with
  | 0 => intro x hx; injection hx with hx; rw [← hx]; simp
  | 1 =>
    intro x hx
    have e1 : De.o k s a l g 1 = some [UInt8.ofNat k] := by
      show wrNext (some []) 0 (k : Int) .empty = _
      simp [wrNext, stepBytes]
      omega
    rw [e1] at hx; injection hx with hx; rw [← hx]; simp
  | 2 => intro x hx; have := l2 x hx; omega
  | 3 => intro x hx; have := l3 x hx; omega
  | 4 => intro x hx; have := l4 x hx; omega
  | n + 5 => intro x hx; have := l5 x hx; omega
theorem De.o5_ok (hk : k < 256) (hs : s < 256) (ha : De.okA a) (hl : De.okA l) (hg : De.okA g) : De.o k s a l g 5 = some (De.bys k s a l g) := by
  show wrNext (wrNext (wrNext (De.o k s a l g 2) 1 a .empty) 1 l .empty) 1 g .empty = _
  rw [De.o2 hk hs, De.two_ok ha, De.two_ok hl, De.two_ok hg]
  rfl
theorem De.o5_no (hk : k < 256) (hs : s < 256) (h : ¬ (De.okA a ∧ De.okA l ∧ De.okA g)) : De.o k s a l g 5 = none := by
  show wrNext (wrNext (wrNext (De.o k s a l g 2) 1 a .empty) 1 l .empty) 1 g .empty = _
  rw [De.o2 hk hs]
  by_cases ha : De.okA a
  · rw [De.two_ok ha]
    by_cases hl : De.okA l
    · rw [De.two_ok hl]
      by_cases hg : De.okA g
      · exact absurd ⟨ha, hl, hg⟩ h
      · rw [De.two_no hg]
    · rw [De.two_no hl]; rfl
  · rw [De.two_no ha]; rfl
end
/-- What is kept between two calls on the writer. -/
def De.Pk (w0 W : World) (b : Nat) (k s : Nat) (a l g : Int) (o : Option (List UInt8)) : Prop :=
  Blk W w0.heap.size 24 #[.int .u8 k, .int .u8 s, .int .i64 a, .int .i64 l, .int .i64 g] ∧ Wr W b b o ∧ Below w0.heap.size w0 W ∧ w0.heap.size < b ∧ b < W.heap.size
section
variable {w0 W W' : World} {b k s : Nat} {a l g : Int} {o o' : Option (List UInt8)}
theorem De.Pk.step (h : De.Pk w0 W b k s a l g o) (h' : Wr W' b b o') (hb : Below b W W') : De.Pk w0 W' b k s a l g o' :=
  ⟨h.1.below hb h.2.2.2.1, h', h.2.2.1.trans (hb.mono (Nat.le_of_lt h.2.2.2.1)), h.2.2.2.1, Nat.lt_of_lt_of_le h.2.2.2.2 hb.size⟩
theorem De.pk_byte (m : Int) (h : De.Pk w0 W b k s a l g o) (hl : ∀ x, o = some x → x.length ≤ 1000) :
    Calls Try.prog 19 #[.pointer (some ⟨b, 0, none⟩), .int .i64 m] W fun r w' => r = .returned (.tuple #[]) ∧ De.Pk w0 w' b k s a l g (wrNext o 0 m .empty) :=
  (wbyte_any b b m .empty o W h.2.1 (Nat.le_refl _) (Nat.le_of_lt h.2.2.2.2) (fun x e => Nat.le_trans (hl x e) (by decide))).mono fun _ _ ⟨e, q, c⟩ => ⟨e, h.step q c⟩
theorem De.pk_two (m : Int) (h : De.Pk w0 W b k s a l g o) (hl : ∀ x, o = some x → x.length ≤ 1000) :
    Calls Try.prog 20 #[.pointer (some ⟨b, 0, none⟩), .int .i64 m] W fun r w' => r = .returned (.tuple #[]) ∧ De.Pk w0 w' b k s a l g (wrNext o 1 m .empty) :=
  (wtwo_any b b m .empty o W h.2.1 (Nat.le_refl _) (Nat.le_of_lt h.2.2.2.2) (fun x e => Nat.le_trans (hl x e) (by decide))).mono fun _ _ ⟨e, q, c⟩ => ⟨e, h.step q c⟩
theorem De.pk_err (h : De.Pk w0 W b k s a l g o) : Calls Try.prog 22 #[.pointer (some ⟨b, 0, none⟩)] W fun r w' => r = .returned (.int .i64 (errOf o)) ∧ W = w' := werr_any b b _ W h.2.1
theorem De.pk_all (h : De.Pk w0 W b k s a l g o) : Calls Try.prog 21 #[.pointer (some ⟨b, 0, none⟩)] W fun r w' => r = .returned (.string (textFor o)) ∧ W = w' := wbytes_any b b _ W h.2.1
theorem De.pk_new (w : World) : De.Pk w ((w.alloc (.cells #[.int .u8 k, .int .u8 s, .int .i64 a, .int .i64 l, .int .i64 g] 24)).alloc (.cells #[.int .i64 0, .slice none 0 0] 45)) (w.heap.size + 1) k s a l g (some []) :=
  ⟨(Blk.new _ _ _).alloc _, ⟨.slice none 0 0, by have := Blk.new (w.alloc (.cells #[.int .u8 k, .int .u8 s, .int .i64 a, .int .i64 l, .int .i64 g] 24)) 45 #[.int .i64 0, .slice none 0 0]; simpa using this, World.ownsRow_nil _ _ _ _⟩, ((Below.refl _ _).alloc (Nat.le_refl _) _).alloc (by simp) _, Nat.lt_succ_self _, by simp⟩
theorem De.Pk.cells (h : De.Pk w0 W b k s a l g o) : W.cell? ⟨w0.heap.size, 0, none⟩ = some (.int .u8 k) ∧ W.cell? ⟨w0.heap.size, 1, none⟩ = some (.int .u8 s) ∧ W.cell? ⟨w0.heap.size, 2, none⟩ = some (.int .i64 a) ∧ W.cell? ⟨w0.heap.size, 3, none⟩ = some (.int .i64 l) ∧ W.cell? ⟨w0.heap.size, 4, none⟩ = some (.int .i64 g) := ⟨h.1.cell 0, h.1.cell 1, h.1.cell 2, h.1.cell 3, h.1.cell 4⟩
end
set_option maxHeartbeats 1600000 in
theorem De.print_any (k s : Nat) (a l g : Int) (hk : k < 256) (hs : s < 256) (w : World) : Calls Try.prog 7 #[.agg (De.dc k s a l g)] w fun e w' => e = .returned (.tuple #[.string (textFor (De.o k s a l g 5)), .int .i64 (errOf (De.o k s a l g 5))]) ∧ Below w.heap.size w w' := by
  have P0 := Lib.hid (De.pk_new (k := k) (s := s) (a := a) (l := l) (g := g) w)
  have HL := Lib.hid (De.o_len (a := a) (l := l) (g := g) hk hs)
  have hw1 : IntKind.i64.wrap (k : Int) = (k : Int) := by rw [IntKind.wrap_i64]; omega
  have hw2 : IntKind.i64.wrap (s : Int) = (s : Int) := by rw [IntKind.wrap_i64]; omega
  have T0 := Lib.hid (fun W (h : De.Pk w W (w.heap.size + 1) k s a l g (some [])) => show Calls _ _ _ W (fun r w' => r = .returned (.tuple #[]) ∧ De.Pk w w' (w.heap.size + 1) k s a l g (De.o k s a l g 1)) from De.pk_byte (k : Int) h (HL.out 0))
  have T1 := Lib.hid (fun W (h : De.Pk w W (w.heap.size + 1) k s a l g (De.o k s a l g 1)) => show Calls _ _ _ W (fun r w' => r = .returned (.tuple #[]) ∧ De.Pk w w' (w.heap.size + 1) k s a l g (De.o k s a l g 2)) from De.pk_byte (s : Int) h (HL.out 1))
  have T2 := Lib.hid (fun W (h : De.Pk w W (w.heap.size + 1) k s a l g (De.o k s a l g 2)) => show Calls _ _ _ W (fun r w' => r = .returned (.tuple #[]) ∧ De.Pk w w' (w.heap.size + 1) k s a l g (De.o k s a l g 3)) from De.pk_two a h (HL.out 2))
  have T3 := Lib.hid (fun W (h : De.Pk w W (w.heap.size + 1) k s a l g (De.o k s a l g 3)) => show Calls _ _ _ W (fun r w' => r = .returned (.tuple #[]) ∧ De.Pk w w' (w.heap.size + 1) k s a l g (De.o k s a l g 4)) from De.pk_two l h (HL.out 3))
  have T4 := Lib.hid (fun W (h : De.Pk w W (w.heap.size + 1) k s a l g (De.o k s a l g 4)) => show Calls _ _ _ W (fun r w' => r = .returned (.tuple #[]) ∧ De.Pk w w' (w.heap.size + 1) k s a l g (De.o k s a l g 5)) from De.pk_two g h (HL.out 4))
  unfold De.dc
  clear HL
  generalize hf : De.o k s a l g = f at *
  clear hf
  obtain ⟨W0, hW0⟩ : ∃ W0, W0 = (w.alloc (.cells #[.int .u8 k, .int .u8 s, .int .i64 a, .int .i64 l, .int .i64 g] 24)).alloc (.cells #[.int .i64 0, .slice none 0 0] 45) := ⟨_, rfl⟩
  go_enter Try.func7, Try.ntmps7
  go_upto_region 2 with (fail)
  rw [← hW0] at P0 ⊢
  clear hW0
  obtain ⟨c0, c1, c2, c3, c4⟩ := P0.out.cells
  go_wp2_with (first
    | (go_at_call 19; (with_reducible refine (T0.out _ P0.out).mono ?_); rintro e w1 ⟨rfl, p1⟩; have P1 := Lib.hid p1; clear P0 c0 c1 c2 c3 c4; obtain ⟨c0, c1, c2, c3, c4⟩ := p1.cells; clear p1)
    | (go_at_call 19; (with_reducible refine (T1.out _ P1.out).mono ?_); rintro e w2 ⟨rfl, p2⟩; have P2 := Lib.hid p2; clear P1 c0 c1 c2 c3 c4; obtain ⟨c0, c1, c2, c3, c4⟩ := p2.cells; clear p2)
    | (go_at_call 20; (with_reducible refine (T2.out _ P2.out).mono ?_); rintro e w3 ⟨rfl, p3⟩; have P3 := Lib.hid p3; clear P2 c0 c1 c2 c3 c4; obtain ⟨c0, c1, c2, c3, c4⟩ := p3.cells; clear p3)
    | (go_at_call 20; (with_reducible refine (T3.out _ P3.out).mono ?_); rintro e w4 ⟨rfl, p4⟩; have P4 := Lib.hid p4; clear P3 c0 c1 c2 c3 c4; obtain ⟨c0, c1, c2, c3, c4⟩ := p4.cells; clear p4)
    | (go_at_call 20; (with_reducible refine (T4.out _ P4.out).mono ?_); rintro e w5 ⟨rfl, p5⟩; have P5 := Lib.hid p5; clear P4 p5 c0 c1 c2 c3 c4)
    | (go_at_call 21; (with_reducible refine (De.pk_all P5.out).mono ?_); rintro e w6 ⟨rfl, rfl⟩)
    | (go_at_call 22; (with_reducible refine (De.pk_err P5.out).mono ?_); rintro e w7 ⟨rfl, rfl⟩))
  go_ret2
  exact ⟨rfl, P5.out.2.2.1⟩
end Go.Proofs.Ytldhggaghhjebaa

/- The document's Print of a descriptor, by contract. -/
namespace Go.Proofs.Ytldhggaghhjebaa
open Go.RowKit Go.Lib
set_option linter.unusedVariables false
set_option maxRecDepth 8000

def De.pl (k s : Nat) (a l g : Int) : Nat → List UInt8
  | 0 => [UInt8.ofNat k, UInt8.ofNat s]
  | 1 => [UInt8.ofNat k, UInt8.ofNat s] ++ (Bt.put a).data.toList
  | 2 => [UInt8.ofNat k, UInt8.ofNat s] ++ (Bt.put a).data.toList ++ (Bt.put l).data.toList
  | _ => [UInt8.ofNat k, UInt8.ofNat s] ++ (Bt.put a).data.toList ++ (Bt.put l).data.toList ++ (Bt.put g).data.toList
def De.vl (a l g : Int) : Nat → Int
  | 0 => a
  | 1 => l
  | _ => g
theorem De.cat (x : List UInt8) (n : Int) : (⟨x.toArray⟩ : ByteArray) ++ Bt.put n = ⟨(x ++ (Bt.put n).data.toList).toArray⟩ := by
  apply ByteArray.ext
  rw [ByteArray.data_append]
  simp
theorem De.rp_ok {k s : Nat} {a l g : Int} (hk : k < 256) (hs : s < 256) (ha : De.okA a) (hl : De.okA l) (hg : De.okA g) : textFor (De.o k s a l g 5) = ⟨(De.pl k s a l g 3).toArray⟩ ∧ errOf (De.o k s a l g 5) = 0 := by
  rw [De.o5_ok hk hs ha hl hg]
  exact ⟨rfl, rfl⟩
theorem De.rp_no {k s : Nat} {a l g : Int} (hk : k < 256) (hs : s < 256) (h : ¬ (De.okA a ∧ De.okA l ∧ De.okA g)) : textFor (De.o k s a l g 5) = ⟨#[]⟩ ∧ errOf (De.o k s a l g 5) = 2 := by
  rw [De.o5_no hk hs h]
  exact ⟨rfl, rfl⟩
set_option maxHeartbeats 3200000 in
theorem De.rprint_any (k s : Nat) (a l g : Int) (hk : k < 256) (hs : s < 256) (w : World) : Calls Try.prog 8 #[.agg (De.dc k s a l g)] w fun e w' => e = .returned (.tuple #[.string (textFor (De.o k s a l g 5)), .int .i64 (errOf (De.o k s a l g 5))]) ∧ w.grownBy w' none := by
  have HOK := Lib.hid (fun ha hl hg => De.rp_ok (a := a) (l := l) (g := g) hk hs ha hl hg)
  have HNO := Lib.hid (fun h => De.rp_no (a := a) (l := l) (g := g) hk hs h)
  generalize textFor (De.o k s a l g 5) = tx at *
  generalize errOf (De.o k s a l g 5) = er at *
  obtain ⟨P, hP⟩ : ∃ P : Nat → ByteArray, P = fun i => ⟨(De.pl k s a l g i).toArray⟩ := ⟨_, rfl⟩
  have HP0 := Lib.hid (show (⟨#[UInt8.ofNat (k : Int).toNat, UInt8.ofNat (s : Int).toNat]⟩ : ByteArray) = P 0 from by rw [hP]; simp [De.pl])
  have HP1 := Lib.hid (show P 0 ++ Bt.put a = P 1 from by rw [hP]; exact De.cat _ _)
  have HP2 := Lib.hid (show P 1 ++ Bt.put l = P 2 from by rw [hP]; exact De.cat _ _)
  have HP3 := Lib.hid (show P 2 ++ Bt.put g = P 3 from by rw [hP]; exact De.cat _ _)
  have HPZ := Lib.hid (show (P 0).size = 2 ∧ (P 1).size = 4 ∧ (P 2).size = 6 from by rw [hP]; exact ⟨rfl, rfl, rfl⟩)
  have HPE := Lib.hid (show P 3 = ⟨(De.pl k s a l g 3).toArray⟩ from by rw [hP])
  have hcv := run_two_bytes (k : Int) (s : Int) ((w.alloc (.cells #[.int .u8 k, .int .u8 s, .int .i64 a, .int .i64 l, .int .i64 g] 24)).alloc (.cells #[.int .i64 a, .int .i64 l, .int .i64 g] 3))
  rw [HP0.out] at hcv
  have hz2 : ((w.alloc (.cells #[.int .u8 k, .int .u8 s, .int .i64 a, .int .i64 l, .int .i64 g] 24)).alloc (.cells #[.int .i64 a, .int .i64 l, .int .i64 g] 3)).heap.size = w.heap.size + 1 + 1 := by simp
  rw [hz2] at hcv
  obtain ⟨W3, hW3⟩ : ∃ W3, W3 = ((w.alloc (.cells #[.int .u8 k, .int .u8 s, .int .i64 a, .int .i64 l, .int .i64 g] 24)).alloc (.cells #[.int .i64 a, .int .i64 l, .int .i64 g] 3)).alloc (.cells #[.int .u8 k, .int .u8 s] 5) := ⟨_, rfl⟩
  have HJ := Lib.hid (show Blk W3 (w.heap.size + 1) 3 #[.int .i64 a, .int .i64 l, .int .i64 g] from by
    rw [hW3]
    refine Blk.alloc ?_ _
    have := Blk.new (w.alloc (.cells #[.int .u8 k, .int .u8 s, .int .i64 a, .int .i64 l, .int .i64 g] 24)) 3 #[.int .i64 a, .int .i64 l, .int .i64 g]
    simpa using this)
  have HG3 := Lib.hid (show w.grownBy W3 none from by rw [hW3]; exact only_alloc (only_alloc (only_alloc (only_refl w none) _) _) _)
  unfold De.dc
  clear hP hz2
  go_enter Try.func8, Try.ntmps8
  go_upto_region 3 with (fail)
  rw [← hW3]
  clear hW3 hcv
  go_wp2
  go_loopw [5, 6] (fun x y wr => ∃ i : Nat, x = .string (P i) ∧ y = .int .i64 i ∧ i ≤ 3 ∧ Hid (w.grownBy wr none) ∧ Hid (Blk wr (w.heap.size + 1) 3 #[.int .i64 a, .int .i64 l, .int .i64 g]) ∧ Hid ((1 ≤ i → De.okA a) ∧ (2 ≤ i → De.okA l) ∧ (3 ≤ i → De.okA g))) (fun _ y _ => 3 - (intOf y).toNat)
  case atStart => exact ⟨0, rfl, rfl, by omega, HG3, HJ, Lib.hid ⟨fun h => absurd h (by omega), fun h => absurd h (by omega), fun h => absurd h (by omega)⟩⟩
  case round =>
    obtain ⟨i, rfl, rfl, hi, HG, HB, HO⟩ := hrel
    clear HJ HG3
    have c0 := HB.out.cell 0
    have c1 := HB.out.cell 1
    have c2 := HB.out.cell 2
    simp at c0 c1 c2
    have hi4 : i = 0 ∨ i = 1 ∨ i = 2 ∨ i = 3 := by omega
    clear hi
    rcases hi4 with rfl | rfl | rfl | rfl
    · by_cases x0 : a < 0
      · have e := HNO.out (fun h => by have := h.1.1; omega)
        have e1 := Lib.hid e.1
        have e2 := Lib.hid e.2
        clear e
        go_wp2
        go_ret2
        exact ⟨by rw [e1.out, e2.out]; rfl, HG.out⟩
      · by_cases x1 : 65535 < a
        · have e := HNO.out (fun h => by have := h.1.2; omega)
          have e1 := Lib.hid e.1
          have e2 := Lib.hid e.2
          clear e
          go_wp2
          go_ret2
          exact ⟨by rw [e1.out, e2.out]; rfl, HG.out⟩
        · have hz : ¬ 9223372036854775807 < (P 0).size + 2 := by have := HPZ.out; omega
          have hz3 : (Bt.put a).size = 2 := rfl
          have HPP := Lib.hid (rput_any a)
          go_wp2_with (go_at_call 23; (with_reducible refine (HPP.out _).mono ?_); rintro e w9 ⟨rfl, k9⟩; have g9 := Lib.hid (show wr.grownBy w9 none from by rw [← k9]; exact only_alloc (only_refl wr none) _); clear k9)
          rw [HP1.out]
          go_roundw
          case rel => exact ⟨0 + 1, rfl, by go_num, by omega, Lib.hid (only_trans HG.out g9.out), Lib.hid (HB.out.only g9.out (by simp)), Lib.hid ⟨fun _ => ⟨by omega, by omega⟩, fun h => absurd h (by omega), fun h => absurd h (by omega)⟩⟩
          case measure => simp [intOf]
    · by_cases x0 : l < 0
      · have e := HNO.out (fun h => by have := h.2.1.1; omega)
        have e1 := Lib.hid e.1
        have e2 := Lib.hid e.2
        clear e
        go_wp2
        go_ret2
        exact ⟨by rw [e1.out, e2.out]; rfl, HG.out⟩
      · by_cases x1 : 65535 < l
        · have e := HNO.out (fun h => by have := h.2.1.2; omega)
          have e1 := Lib.hid e.1
          have e2 := Lib.hid e.2
          clear e
          go_wp2
          go_ret2
          exact ⟨by rw [e1.out, e2.out]; rfl, HG.out⟩
        · have hz : ¬ 9223372036854775807 < (P 1).size + 2 := by have := HPZ.out; omega
          have hz3 : (Bt.put l).size = 2 := rfl
          have HPP := Lib.hid (rput_any l)
          go_wp2_with (go_at_call 23; (with_reducible refine (HPP.out _).mono ?_); rintro e w9 ⟨rfl, k9⟩; have g9 := Lib.hid (show wr.grownBy w9 none from by rw [← k9]; exact only_alloc (only_refl wr none) _); clear k9)
          rw [HP2.out]
          go_roundw
          case rel => exact ⟨1 + 1, rfl, by go_num, by omega, Lib.hid (only_trans HG.out g9.out), Lib.hid (HB.out.only g9.out (by simp)), Lib.hid ⟨fun _ => HO.out.1 (by omega), fun _ => ⟨by omega, by omega⟩, fun h => absurd h (by omega)⟩⟩
          case measure => simp [intOf]
    · by_cases x0 : g < 0
      · have e := HNO.out (fun h => by have := h.2.2.1; omega)
        have e1 := Lib.hid e.1
        have e2 := Lib.hid e.2
        clear e
        go_wp2
        go_ret2
        exact ⟨by rw [e1.out, e2.out]; rfl, HG.out⟩
      · by_cases x1 : 65535 < g
        · have e := HNO.out (fun h => by have := h.2.2.2; omega)
          have e1 := Lib.hid e.1
          have e2 := Lib.hid e.2
          clear e
          go_wp2
          go_ret2
          exact ⟨by rw [e1.out, e2.out]; rfl, HG.out⟩
        · have hz : ¬ 9223372036854775807 < (P 2).size + 2 := by have := HPZ.out; omega
          have hz3 : (Bt.put g).size = 2 := rfl
          have HPP := Lib.hid (rput_any g)
          go_wp2_with (go_at_call 23; (with_reducible refine (HPP.out _).mono ?_); rintro e w9 ⟨rfl, k9⟩; have g9 := Lib.hid (show wr.grownBy w9 none from by rw [← k9]; exact only_alloc (only_refl wr none) _); clear k9)
          rw [HP3.out]
          go_roundw
          case rel => exact ⟨2 + 1, rfl, by go_num, by omega, Lib.hid (only_trans HG.out g9.out), Lib.hid (HB.out.only g9.out (by simp)), Lib.hid ⟨fun _ => HO.out.1 (by omega), fun _ => HO.out.2.1 (by omega), fun _ => ⟨by omega, by omega⟩⟩⟩
          case measure => simp [intOf]
    · have e := HOK.out (HO.out.1 (by omega)) (HO.out.2.1 (by omega)) (HO.out.2.2 (by omega))
      have e1 := Lib.hid e.1
      have e2 := Lib.hid e.2
      clear e
      go_wp2
      go_ret2
      exact ⟨by rw [e1.out, e2.out, ← HPE.out]; rfl, HG.out⟩
end Go.Proofs.Ytldhggaghhjebaa

/- What was printed is parsed as1 it was, and the other way; live of the laws of desc. -/
namespace Go.Proofs.Ytldhggaghhjebaa
open Go.RowKit Go.Lib Go.Sort
set_option linter.unusedVariables false
set_option maxRecDepth 8000

theorem De.eql_desc (k s a l g : Int) (w : World) : (binOp BinOp.eql 24 (.agg #[.int .u8 k, .int .u8 s, .int .i64 a, .int .i64 l, .int .i64 g]) (.agg #[.int .u8 k, .int .u8 s, .int .i64 a, .int .i64 l, .int .i64 g])).run Try.prog w = .ok (.bool true) w := by
  rw [run_eql_struct, run_equalIn_agg w 9999 _ _ _ (by kernel_rfl) (by kernel_rfl)]
  have hf : (Try.prog.fieldsOf 24).toList.map (fun f => (f.name, f.type, f.offset)) = [("What", 22, 0), ("Status", 5, 1), ("Addr", 3, 2), ("Len", 3, 3), ("Arg", 3, 4)] := by kernel_rfl
  generalize (Try.prog.fieldsOf 24).toList = fs at hf
  have hlen := congrArg List.length hf
  simp only [List.length_map, List.length_cons, List.length_nil] at hlen
  obtain ⟨f0, f1, f2, f3, f4, rfl⟩ : ∃ f0 f1 f2 f3 f4, fs = [f0, f1, f2, f3, f4] := by
    match fs, hlen with
    | [f0, f1, f2, f3, f4], _ => exact ⟨f0, f1, f2, f3, f4, rfl⟩
  simp only [List.map_cons, List.map_nil, List.cons.injEq, Prod.mk.injEq, and_true] at hf
  obtain ⟨⟨p0, q0, r0⟩, ⟨p1, q1, r1⟩, ⟨p2, q2, r2⟩, ⟨p3, q3, r3⟩, ⟨p4, q4, r4⟩⟩ := hf
  simp [Op.eqFields, p0, q0, r0, p1, q1, r1, p2, q2, r2, p3, q3, r3, p4, q4, r4, part, run_equalIn_int _ _ _ _ _ _ _ Try.underlying3, run_equalIn_int _ _ _ _ _ _ _ Try.underlying5, run_equalIn_int _ _ _ _ _ _ _ Try.underlying22, go_sem]
theorem De.neq_desc (k s a l g : Int) (w : World) : (binOp BinOp.neq 24 (.agg #[.int .u8 k, .int .u8 s, .int .i64 a, .int .i64 l, .int .i64 g]) (.agg #[.int .u8 k, .int .u8 s, .int .i64 a, .int .i64 l, .int .i64 g])).run Try.prog w = .ok (.bool false) w := by
  rw [run_neq_struct]
  have h := De.eql_desc k s a l g w
  rw [run_eql_struct] at h
  generalize (Op.equalIn 10000 24 (.agg #[.int .u8 k, .int .u8 s, .int .i64 a, .int .i64 l, .int .i64 g]) (.agg #[.int .u8 k, .int .u8 s, .int .i64 a, .int .i64 l, .int .i64 g])).run Try.prog w = r at h ⊢
  cases r with
  | ok b w' =>
    simp only [Result.andThen_ok, Result.ok.injEq, Value.bool.injEq] at h ⊢
    obtain ⟨rfl, rfl⟩ := h
    exact ⟨rfl, rfl⟩
  | halt x w' => simp [Result.andThen] at h
/-- Eight bytes. -/
theorem De.bysA (k s : Nat) (a l g : Int) : (⟨(De.bys k s a l g).toArray⟩ : ByteArray) = ⟨#[UInt8.ofNat k, UInt8.ofNat s, UInt8.ofNat (a % 256).toNat, UInt8.ofNat (a / 256 % 256).toNat, UInt8.ofNat (l % 256).toNat, UInt8.ofNat (l / 256 % 256).toNat, UInt8.ofNat (g % 256).toNat, UInt8.ofNat (g / 256 % 256).toNat]⟩ := rfl
theorem De.gb8 (x0 x1 x2 x3 x4 x5 x6 x7 : UInt8) : gb ⟨#[x0, x1, x2, x3, x4, x5, x6, x7]⟩ 0 = x0.toNat ∧ gb ⟨#[x0, x1, x2, x3, x4, x5, x6, x7]⟩ 1 = x1.toNat ∧ gw ⟨#[x0, x1, x2, x3, x4, x5, x6, x7]⟩ 2 = x2.toNat + 256 * x3.toNat ∧ gw ⟨#[x0, x1, x2, x3, x4, x5, x6, x7]⟩ 4 = x4.toNat + 256 * x5.toNat ∧ gw ⟨#[x0, x1, x2, x3, x4, x5, x6, x7]⟩ 6 = x6.toNat + 256 * x7.toNat := ⟨rfl, rfl, rfl, rfl, rfl⟩
theorem De.u8 {n : Nat} (h : n < 256) : (UInt8.ofNat n).toNat = n := by simp [UInt8.toNat_ofNat']; omega
theorem De.forth {k s : Nat} {a l g : Int} (hk : k < 256) (hs : s < 256) (ha : De.okA a) (hl : De.okA l) (hg : De.okA g) : De.pv ⟨(De.bys k s a l g).toArray⟩ = .tuple #[.agg (De.dc k s a l g), .int .i64 0] := by
  unfold De.okA at ha hl hg
  rw [De.bysA]
  unfold De.pv
  rw [if_neg (by show ¬ (8 < 8); omega)]
  obtain ⟨e0, e1, e2, e3, e4⟩ := De.gb8 (UInt8.ofNat k) (UInt8.ofNat s) (UInt8.ofNat (a % 256).toNat) (UInt8.ofNat (a / 256 % 256).toNat) (UInt8.ofNat (l % 256).toNat) (UInt8.ofNat (l / 256 % 256).toNat) (UInt8.ofNat (g % 256).toNat) (UInt8.ofNat (g / 256 % 256).toNat)
  rw [e0, e1, e2, e3, e4, De.u8 hk, De.u8 hs, De.u8 (show (a % 256).toNat < 256 by omega), De.u8 (show (a / 256 % 256).toNat < 256 by omega), De.u8 (show (l % 256).toNat < 256 by omega), De.u8 (show (l / 256 % 256).toNat < 256 by omega), De.u8 (show (g % 256).toNat < 256 by omega), De.u8 (show (g / 256 % 256).toNat < 256 by omega)]
  have q1 : (((a % 256).toNat + 256 * (a / 256 % 256).toNat : Nat) : Int) = a := by omega
  have q2 : (((l % 256).toNat + 256 * (l / 256 % 256).toNat : Nat) : Int) = l := by omega
  have q3 : (((g % 256).toNat + 256 * (g / 256 % 256).toNat : Nat) : Int) = g := by omega
  rw [q1, q2, q3]
theorem De.byte_eq {s : ByteArray} {j : Nat} (h : j < s.size) : UInt8.ofNat (gb s j) = s[j] := by rw [gb_of h]; simp
theorem De.back {s : ByteArray} (h8 : 8 ≤ s.size) : (⟨(De.bys (gb s 0) (gb s 1) (gw s 2) (gw s 4) (gw s 6)).toArray⟩ : ByteArray) = s.extract 0 8 := by
  rw [De.bysA]
  have lo : ∀ j, j + 2 ≤ s.size → (((gw s j : Nat) : Int) % 256).toNat = gb s j ∧ (((gw s j : Nat) : Int) / 256 % 256).toNat = gb s (j + 1) := fun j hj => by
    have := gb_lt s j
    have := gb_lt s (j + 1)
    rw [gw, if_pos hj]
    omega
  rw [(lo 2 (by omega)).1, (lo 2 (by omega)).2, (lo 4 (by omega)).1, (lo 4 (by omega)).2, (lo 6 (by omega)).1, (lo 6 (by omega)).2]
  rw [De.byte_eq (show 0 < s.size by omega), De.byte_eq (show 1 < s.size by omega), De.byte_eq (show 2 < s.size by omega), De.byte_eq (show 2 + 1 < s.size by omega), De.byte_eq (show 4 < s.size by omega), De.byte_eq (show 4 + 1 < s.size by omega), De.byte_eq (show 6 < s.size by omega), De.byte_eq (show 6 + 1 < s.size by omega)]
  apply ByteArray.ext
  apply Array.ext
  · show 8 = (s.extract 0 8).size
    simp
    omega
  · intro i h1 h2
    have hi : i < 8 := h1
    have e : (s.extract 0 8).data[i] = s[i]'(by omega) := by
      have h3 : i < (s.extract 0 8).size := h2
      show (s.extract 0 8)[i]'h3 = _
      rw [ByteArray.getElem_extract]
      simp
    rw [e]
    have hi8 : i = 0 ∨ i = 1 ∨ i = 2 ∨ i = 3 ∨ i = 4 ∨ i = 5 ∨ i = 6 ∨ i = 7 := by omega
    rcases hi8 with rfl | rfl | rfl | rfl | rfl | rfl | rfl | rfl <;> rfl
attribute [-go_sem] Go.run_neq_struct Go.run_eql_struct
set_option maxHeartbeats 1600000 in
theorem De.live_any (w : World) : Calls Try.prog 9 #[] w fun e w' => e = .returned (.bool true) ∧ w.grownBy w' none := by
  have HP := Lib.hid (show ∀ W, Calls Try.prog 10 #[.string ⟨#[1, 0, 60, 0, 4, 0, 0, 0]⟩] W (fun e w' => e = .returned (.tuple #[.agg #[.int .u8 1, .int .u8 0, .int .i64 60, .int .i64 4, .int .i64 0], .int .i64 0]) ∧ W.grownBy w' none) from fun W => by
    have := De.parse_any ⟨#[1, 0, 60, 0, 4, 0, 0, 0]⟩ (by decide) W
    rw [show De.pv ⟨#[1, 0, 60, 0, 4, 0, 0, 0]⟩ = .tuple #[.agg #[.int .u8 1, .int .u8 0, .int .i64 60, .int .i64 4, .int .i64 0], .int .i64 0] from by unfold De.pv; rw [if_neg (by decide)]; rfl] at this
    exact this)
  have HC1 := Lib.hid (show ∀ W, Calls Try.prog 15 #[.agg #[.int .u8 1, .int .u8 0, .int .i64 60, .int .i64 4, .int .i64 0], .agg #[.int .i64 0, .int .i64 62, .int .i64 0, .int .i64 0, .int .i64 0, .int .i64 0, .int .i64 0, .int .i64 0, .int .i64 0, .int .i64 0]] W (fun e w' => e = .returned (.int .i64 6) ∧ W.grownBy w' none) from fun W => by
    have := De.check_any 1 0 60 4 0 (fun i => if i = 1 then 62 else 0) W (by decide) (by decide) (by decide)
    exact this)
  have HC2 := Lib.hid (show ∀ W, Calls Try.prog 15 #[.agg #[.int .u8 1, .int .u8 0, .int .i64 60, .int .i64 4, .int .i64 0], .agg #[.int .i64 0, .int .i64 64, .int .i64 0, .int .i64 0, .int .i64 0, .int .i64 0, .int .i64 0, .int .i64 0, .int .i64 0, .int .i64 0]] W (fun e w' => e = .returned (.int .i64 0) ∧ W.grownBy w' none) from fun W => by
    have := De.check_any 1 0 60 4 0 (fun i => if i = 1 then 64 else 0) W (by decide) (by decide) (by decide)
    exact this)
  have hq := fun W => De.eql_desc 1 0 60 4 0 W
  go_enter Try.func9, Try.ntmps9
  go_upto_region 2 with (first
    | (go_at_call 10; (with_reducible refine (HP.out _).mono ?_); rintro e w1 ⟨rfl, g1⟩; have G1 := Lib.hid g1; clear g1))
  obtain ⟨w2, hw2⟩ : ∃ w2, w2 = w1.alloc (.cells #[.int .u8 1, .int .u8 0, .int .i64 60, .int .i64 4, .int .i64 0] 24) := ⟨_, rfl⟩
  have G2 := Lib.hid (show w.grownBy w2 none from by rw [hw2]; exact only_alloc G1.out _)
  have B2 := Lib.hid (show Blk w2 w1.heap.size 24 #[.int .u8 1, .int .u8 0, .int .i64 60, .int .i64 4, .int .i64 0] from by rw [hw2]; exact Blk.new _ _ _)
  rw [← hw2]
  clear hw2
  obtain ⟨c0, c1, c2, c3, c4⟩ := (De.in5f B2.out).1
  go_wp2_with (first
    | (go_at_call 15; (with_reducible refine (HC1.out _).mono ?_); rintro e w3 ⟨rfl, g3⟩; have G3 := Lib.hid (only_trans G2.out g3); have B3 := Lib.hid (B2.out.only g3 (by simp)); clear g3 c0 c1 c2 c3 c4; obtain ⟨c0, c1, c2, c3, c4⟩ := (De.in5f B3.out).1)
    | (go_at_call 15; (with_reducible refine (HC2.out _).mono ?_); rintro e w4 ⟨rfl, g4⟩; have G4 := Lib.hid (only_trans G3.out g4); clear g4 c0 c1 c2 c3 c4))
  go_ret
  exact ⟨by first | rfl | simp, G4.out⟩
end Go.Proofs.Ytldhggaghhjebaa

/- The laws of desc: DescBytes and DescParses walked. -/
namespace Go.Proofs.Ytldhggaghhjebaa
open Go.RowKit Go.Lib Go.Sort
set_option linter.unusedVariables false
set_option maxRecDepth 8000
attribute [-go_sem] Go.run_neq_struct Go.run_eql_struct

theorem De.bel {w w' : World} (g : w.grownBy w' none) : Below w.heap.size w w' := below_of_only g (Nat.le_refl _) (fun k hk => by cases hk)
theorem De.gro {w w' : World} (b : Below w.heap.size w w') : w.grownBy w' none := ⟨b.os, b.tape, b.output, b.size, fun i hi _ => b.block i hi⟩
theorem De.two_box {w w1 w2 : World} {cs ds : Array Value} (g1 : w.grownBy w1 none) (g2 : (w1.alloc (.cells cs 24)).grownBy w2 none) : Blk (w2.alloc (.cells ds 24)) w1.heap.size 24 cs ∧ Blk (w2.alloc (.cells ds 24)) w2.heap.size 24 ds ∧ w.grownBy (w2.alloc (.cells ds 24)) none :=
  ⟨((Blk.new w1 24 cs).only g2 (by simp)).alloc _, Blk.new _ _ _, only_alloc (only_trans (only_alloc g1 _) g2) _⟩
set_option maxHeartbeats 1600000 in
theorem De.bytes_walk (k s : Nat) (a l g : Int) (w : World) (hk : k < 256) (hs : s < 256) : Calls Try.prog 3 #[.agg (De.dc k s a l g)] w fun e w' => e = .returned (.bool true) ∧ Below w.heap.size w w' := by
  have HL := Lib.hid De.live_any
  have hP := fun W => (De.print_any k s a l g hk hs W).mono (R' := fun e w' => e = .returned (.tuple #[.string (textFor (De.o k s a l g 5)), .int .i64 (errOf (De.o k s a l g 5))]) ∧ W.grownBy w' none) fun e w' ⟨h, b⟩ => ⟨h, De.gro b⟩
  have hR := De.rprint_any k s a l g hk hs
  obtain ⟨W1, hW, g1, hB⟩ := ibox w 24 (De.dc k s a l g)
  have G1 := Lib.hid g1
  have B1 := Lib.hid hB
  clear g1 hB
  by_cases hok : De.okA a ∧ De.okA l ∧ De.okA g
  · have ht := De.rp_ok hk hs hok.1 hok.2.1 hok.2.2
    have hp := fun W => De.parse_any ⟨(De.bys k s a l g).toArray⟩ (by show 8 ≤ 9223372036854775807; decide) W
    rw [De.forth hk hs hok.1 hok.2.1 hok.2.2] at hp
    rw [ht.1, ht.2] at hP hR
    have hP' := Lib.hid hP
    have hR' := Lib.hid hR
    have hp' := Lib.hid (show ∀ W, Calls Try.prog 10 #[.string ⟨(De.pl k s a l g 3).toArray⟩] W fun e w' => e = .returned (.tuple #[.agg (De.dc k s a l g), .int .i64 0]) ∧ W.grownBy w' none from hp)
    have hq := fun W => De.eql_desc k s a l g W
    clear hP hR hp ht hok
    generalize (⟨(De.pl k s a l g 3).toArray⟩ : ByteArray) = t at *
    unfold De.dc at hW B1 hP' hR' hp' ⊢
    obtain ⟨c0, c1, c2, c3, c4⟩ := (De.in5f B1.out).1
    go_enter Try.func3, Try.ntmps3
    go_upto_region 1 with (fail)
    rw [← hW]
    clear hW
    go_upto_region 8 with (first
      | (go_at_call 7; (with_reducible refine (hP'.out _).mono ?_); rintro e w2 ⟨rfl, g2⟩; have G2 := Lib.hid (only_trans G1.out g2); have B2 := Lib.hid (B1.out.only g2 (by simp)); clear g2 c0 c1 c2 c3 c4; obtain ⟨c0, c1, c2, c3, c4⟩ := (De.in5f B2.out).1)
      | (go_at_call 8; (with_reducible refine (hR'.out _).mono ?_); rintro e w3 ⟨rfl, g3⟩; have G3 := Lib.hid (only_trans G2.out g3); have B3 := Lib.hid (B2.out.only g3 (by simp)); clear g3 c0 c1 c2 c3 c4)
      | (go_at_call 10; (with_reducible refine (hp'.out _).mono ?_); rintro e w4 ⟨rfl, g4⟩; have G4 := Lib.hid (only_trans G3.out g4); have B4 := Lib.hid (B3.out.only g4 (by simp)); clear g4))
    obtain ⟨w5, hw5⟩ : ∃ w5, w5 = w4.alloc (.cells #[.int .u8 k, .int .u8 s, .int .i64 a, .int .i64 l, .int .i64 g] 24) := ⟨_, rfl⟩
    have G5 := Lib.hid (show w.grownBy w5 none from by rw [hw5]; exact only_alloc G4.out _)
    have B5 := Lib.hid (show Blk w5 w.heap.size 24 #[.int .u8 k, .int .u8 s, .int .i64 a, .int .i64 l, .int .i64 g] from by rw [hw5]; exact B4.out.alloc _)
    have C5 := Lib.hid (show Blk w5 w4.heap.size 24 #[.int .u8 k, .int .u8 s, .int .i64 a, .int .i64 l, .int .i64 g] from by rw [hw5]; exact Blk.new _ _ _)
    rw [← hw5]
    clear hw5
    go_wp2_with (first
      | (go_at_call 9; (with_reducible refine (HL.out _).mono ?_); rintro e w6 ⟨rfl, g6⟩; have G6 := Lib.hid (only_trans G5.out g6); have B6 := Lib.hid (B5.out.only g6 (by simp)); have C6 := Lib.hid (C5.out.only g6 (by simp)); clear g6; obtain ⟨c0, c1, c2, c3, c4⟩ := (De.in5f B6.out).1; obtain ⟨d0, d1, d2, d3, d4⟩ := (De.in5f C6.out).1))
    go_ret
    exact ⟨by first | rfl | simp, De.bel G6.out⟩
  · have ht := De.rp_no hk hs hok
    rw [ht.1, ht.2] at hP hR
    have hP' := Lib.hid hP
    have hR' := Lib.hid hR
    clear hP hR ht hok
    unfold De.dc at hW B1 hP' hR' ⊢
    obtain ⟨c0, c1, c2, c3, c4⟩ := (De.in5f B1.out).1
    go_enter Try.func3, Try.ntmps3
    go_upto_region 1 with (fail)
    rw [← hW]
    clear hW
    go_wp2_with (first
      | (go_at_call 7; (with_reducible refine (hP'.out _).mono ?_); rintro e w2 ⟨rfl, g2⟩; have G2 := Lib.hid (only_trans G1.out g2); have B2 := Lib.hid (B1.out.only g2 (by simp)); clear g2 c0 c1 c2 c3 c4; obtain ⟨c0, c1, c2, c3, c4⟩ := (De.in5f B2.out).1)
      | (go_at_call 8; (with_reducible refine (hR'.out _).mono ?_); rintro e w3 ⟨rfl, g3⟩; have G3 := Lib.hid (only_trans G2.out g3); clear g3 c0 c1 c2 c3 c4)
      | (go_at_call 9; (with_reducible refine (HL.out _).mono ?_); rintro e w6 ⟨rfl, g6⟩; have G6 := Lib.hid (only_trans G3.out g6); clear g6))
    go_ret
    exact ⟨by first | rfl | simp, De.bel G6.out⟩
set_option maxHeartbeats 1600000 in
theorem De.parses_walk (t : ByteArray) (w : World) (hs : t.size ≤ 9223372036854775807) : Calls Try.prog 4 #[.string t] w fun e w' => e = .returned (.bool true) ∧ Below w.heap.size w w' := by
  have HL := Lib.hid De.live_any
  have hP := fun W => De.parse_any t hs W
  have hR := fun W => De.rparse_any t hs W
  by_cases h8 : t.size < 8
  · have e8 : De.pv t = .tuple #[.agg #[.int .u8 0, .int .u8 0, .int .i64 0, .int .i64 0, .int .i64 0], .int .i64 5] := by unfold De.pv De.dc; rw [if_pos h8]; rfl
    rw [e8] at hP hR
    have hP' := Lib.hid hP
    have hR' := Lib.hid hR
    have hq := fun W => De.neq_desc 0 0 0 0 0 W
    clear hP hR e8 h8
    go_enter Try.func4, Try.ntmps4
    go_upto_region 3 with (first
      | (go_at_call 10; (with_reducible refine (hP'.out _).mono ?_); rintro e w1 ⟨rfl, g1⟩; have G1 := Lib.hid g1; clear g1)
      | (go_at_call 11; (with_reducible refine (hR'.out _).mono ?_); rintro e w2 ⟨rfl, g2⟩; have G2 := Lib.hid g2; clear g2))
    have BX := Lib.hid (De.two_box (ds := #[.int .u8 0, .int .u8 0, .int .i64 0, .int .i64 0, .int .i64 0]) G1.out G2.out)
    obtain ⟨w3, hw3⟩ : ∃ w3, w3 = w2.alloc (.cells #[.int .u8 0, .int .u8 0, .int .i64 0, .int .i64 0, .int .i64 0] 24) := ⟨_, rfl⟩
    rw [← hw3] at BX ⊢
    clear hw3
    obtain ⟨c0, c1, c2, c3, c4⟩ := (De.in5f BX.out.1).1
    obtain ⟨d0, d1, d2, d3, d4⟩ := (De.in5f BX.out.2.1).1
    go_wp2_with (first
      | (go_at_call 9; (with_reducible refine (HL.out _).mono ?_); rintro e w6 ⟨rfl, g6⟩; have G6 := Lib.hid (only_trans BX.out.2.2 g6); clear g6))
    go_ret
    exact ⟨by first | rfl | simp, De.bel G6.out⟩
  · have h8' : 8 ≤ t.size := by omega
    have e8 : De.pv t = .tuple #[.agg #[.int .u8 (gb t 0), .int .u8 (gb t 1), .int .i64 (gw t 2), .int .i64 (gw t 4), .int .i64 (gw t 6)], .int .i64 0] := by unfold De.pv De.dc; rw [if_neg h8]
    rw [e8] at hP hR
    have b0 := gb_lt t 0
    have b1 := gb_lt t 1
    have b2 := gw_lt t 2
    have b4 := gw_lt t 4
    have b6 := gw_lt t 6
    have ok : ∀ n : Nat, n < 65536 → De.okA n := fun n h => ⟨by omega, by omega⟩
    have hpr := fun W => (De.print_any (gb t 0) (gb t 1) (gw t 2) (gw t 4) (gw t 6) b0 b1 W).mono (R' := fun e w' => e = .returned (.tuple #[.string (textFor (De.o (gb t 0) (gb t 1) (gw t 2) (gw t 4) (gw t 6) 5)), .int .i64 (errOf (De.o (gb t 0) (gb t 1) (gw t 2) (gw t 4) (gw t 6) 5))]) ∧ W.grownBy w' none) fun e w' ⟨h, b⟩ => ⟨h, De.gro b⟩
    have ho : textFor (De.o (gb t 0) (gb t 1) (gw t 2) (gw t 4) (gw t 6) 5) = t.extract 0 8 ∧ errOf (De.o (gb t 0) (gb t 1) (gw t 2) (gw t 4) (gw t 6) 5) = 0 := by
      rw [De.o5_ok b0 b1 (ok _ b2) (ok _ b4) (ok _ b6), ← De.back h8']
      exact ⟨rfl, rfl⟩
    rw [ho.1, ho.2] at hpr
    have hP' := Lib.hid hP
    have hR' := Lib.hid hR
    have hpr' := Lib.hid (show ∀ W, Calls Try.prog 7 #[.agg #[.int .u8 (gb t 0), .int .u8 (gb t 1), .int .i64 (gw t 2), .int .i64 (gw t 4), .int .i64 (gw t 6)]] W (fun e w' => e = .returned (.tuple #[.string (t.extract 0 8), .int .i64 0]) ∧ W.grownBy w' none) from hpr)
    have hq := fun W => De.neq_desc (gb t 0) (gb t 1) (gw t 2) (gw t 4) (gw t 6) W
    have l8 : (8 : Int) ≤ (t.size : Int) := by omega
    clear hP hR e8 h8 hpr ho ok b0 b1 b2 b4 b6
    generalize gb t 0 = x0 at *
    generalize gb t 1 = x1 at *
    generalize gw t 2 = x2 at *
    generalize gw t 4 = x4 at *
    generalize gw t 6 = x6 at *
    go_enter Try.func4, Try.ntmps4
    go_upto_region 3 with (first
      | (go_at_call 10; (with_reducible refine (hP'.out _).mono ?_); rintro e w1 ⟨rfl, g1⟩; have G1 := Lib.hid g1; clear g1)
      | (go_at_call 11; (with_reducible refine (hR'.out _).mono ?_); rintro e w2 ⟨rfl, g2⟩; have G2 := Lib.hid g2; clear g2))
    have BX := Lib.hid (De.two_box (ds := #[.int .u8 x0, .int .u8 x1, .int .i64 x2, .int .i64 x4, .int .i64 x6]) G1.out G2.out)
    obtain ⟨w3, hw3⟩ : ∃ w3, w3 = w2.alloc (.cells #[.int .u8 x0, .int .u8 x1, .int .i64 x2, .int .i64 x4, .int .i64 x6] 24) := ⟨_, rfl⟩
    rw [← hw3] at BX ⊢
    clear hw3
    obtain ⟨c0, c1, c2, c3, c4⟩ := (De.in5f BX.out.1).1
    obtain ⟨d0, d1, d2, d3, d4⟩ := (De.in5f BX.out.2.1).1
    go_wp2_with (first
      | (go_at_call 7; (with_reducible refine (hpr'.out _).mono ?_); rintro e w5 ⟨rfl, g5⟩; have G5 := Lib.hid (only_trans BX.out.2.2 g5); clear g5)
      | (go_at_call 9; (with_reducible refine (HL.out _).mono ?_); rintro e w6 ⟨rfl, g6⟩; have G6 := Lib.hid (only_trans G5.out g6); clear g6))
    go_ret
    exact ⟨by first | rfl | simp, De.bel G6.out⟩
end Go.Proofs.Ytldhggaghhjebaa
