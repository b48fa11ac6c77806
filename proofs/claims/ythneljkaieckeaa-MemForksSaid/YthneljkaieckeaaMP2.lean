/- A deed that writes, done to the memory and to the document's: the contract of the law's own 'wrote'. -/
import Derived.Test.YthneljkaieckeaaMP1
import Derived.Test.YthneljkaieckeaaM2
import Derived.Deep.RegionHeld3
namespace Go.Proofs.Ythneljkaieckeaa
open Go.RowKit Go.Lib Go.Sort
set_option linter.unusedVariables false

/-- What the numbers lie in is not the memory's row of bytes. -/
def Off (A : Option Addr) (g : Nat) : Prop := ∀ b off, A = some ⟨b, off, none⟩ → b ≠ g
theorem Ints.far {w w' : World} {A : Option Addr} {cap g : Nat} {l : List Int} (h : Ints w A cap l) (hb : w.grownBy w' (some g)) (ho : Off A g) : Ints w' A cap l := by
  refine ⟨h.1, fun hp => ?_⟩
  obtain ⟨b, off, h1, h2, h3⟩ := h.2 hp
  refine ⟨b, off, h1, Nat.lt_of_lt_of_le h2 hb.size, fun i hi => ?_⟩
  have e := hb.block b h2 (fun e => ho b off h1 (by injection e))
  rw [← h3 i hi]
  simp [World.cell?, e]
/-- The same, where there is anything. -/
def OffI (l : List UInt8) (A : Option Addr) (g : Nat) : Prop := 0 < l.length → Off A g
theorem Ints.farI {w w' : World} {A : Option Addr} {cap g : Nat} {l : List UInt8} (h : Ints w A cap (num l)) (hb : w.grownBy w' (some g)) (ho : OffI l A g) : Ints w' A cap (num l) := by
  refine ⟨h.1, fun hp => ?_⟩
  exact (h.far hb (ho (by rw [num_len] at hp; exact hp))).2 hp
theorem OwnN.off {w : World} {B g n c : Nat} {A : Option Addr} {l : List Int} (h : OwnN w B (.slice A n c) l) (hg : g < B) : Off A g := fun b off e => by
  subst e
  have := h.blk b rfl
  omega

theorem off_new {k g : Nat} (h : g < k) : Off (some ⟨k, 0, none⟩) g := fun b off e => by
  injection e with e
  injection e with e1 e2
  omega
theorem two_ints (w : World) (x y : Int) : Ints (w.alloc (.cells #[.int .i64 x, .int .i64 y] 3)) (some ⟨w.heap.size, 0, none⟩) 2 [x, y] :=
  ⟨fun e => (by cases e), fun _ => ⟨w.heap.size, 0, rfl, (Blk.new w _ _).lt, fun i hi => by
    match i, hi with
    | 0, _ => exact (Blk.new w 3 #[.int .i64 x, .int .i64 y]).cell 0
    | 1, _ => exact (Blk.new w 3 #[.int .i64 x, .int .i64 y]).cell 1⟩⟩

/-- The bytes that a deed writes. -/
def bsOf (d n : Int) (t : ByteArray) : List UInt8 := if d = 0 then [low8 n] else if d = 1 then [low8 n, low8 (n / 256)] else t.data.toList
/-- A memory behind such a deed. -/
def wroteL (l : List UInt8) (at' : Int) (bs : List UInt8) : List UInt8 := if thereB l.length at' bs.length = true then over l at'.toNat bs else l
theorem there_fit {len : Nat} {at' n : Int} (h : thereB len at' n = true) : 0 ≤ at' ∧ at' + n ≤ len := by
  simp [thereB] at h
  omega
theorem wroteL_len (l : List UInt8) (at' : Int) (bs : List UInt8) : (wroteL l at' bs).length = l.length := by
  unfold wroteL
  split
  · rename_i h
    have := there_fit h
    exact over_len (by omega)
  · rfl

theorem low8_mod (x : Int) : low8 (x % 256) = low8 x := by
  unfold low8
  rw [Int.emod_emod_of_dvd x (Int.dvd_refl 256)]
theorem low8_of (b : UInt8) : low8 (b.toNat : Int) = b := by
  have h := b.toNat_lt
  apply UInt8.toNat_inj.1
  have := low8_num (b.toNat : Int)
  omega
theorem num_low (l : List UInt8) : (num l).map low8 = l := by
  induction l with
  | nil => rfl
  | cons b l ih =>
    show low8 (b.toNat : Int) :: (num l).map low8 = b :: l
    rw [low8_of, ih]
theorem over_set {l : List UInt8} {k : Nat} {b : UInt8} (h : k < l.length) : over l k [b] = l.set k b := by
  have := over_snoc (l := l) (bs := []) (a := k) (x := b) (by simpa using h)
  simpa [over_nil] using this

/-- What is left behind such a deed. -/
def WroteV (B m g len : Nat) (l2 : List UInt8) (w : World) (e : Ending) (w' : World) : Prop :=
  ∃ A c, e = .returned (.tuple #[.slice A len c, .bool true]) ∧ MemG w' B m g l2 ∧ Ints w' A c (num l2) ∧ OffI l2 A g ∧ w.grownBy w' (some g)

/-- What stands behind the write itself: is it there, and the document's part. -/
theorem with_end (A : Option Addr) (cap : Nat) (l : List UInt8) (at' : Int) (A2 : Option Addr) (cap2 : Nat) (xs : List Int) (bs : List UInt8) (hbs : xs.map low8 = bs) (len : Nat) (hlen : len = l.length) (m : Nat) (hm : m = xs.length) (g : Nat) (w : World) (hg : g < w.heap.size) (hA : Ints w A cap (num l)) (hX : Ints w A2 cap2 xs) (ht : thereB l.length at' bs.length = true) (hl : l.length ≤ 1000) :
    Calls Try.prog 21 #[.slice A len cap, .int .i64 at', .slice A2 m cap2] w fun r w' => ∃ A3 c3, r = .returned (.slice A3 len c3) ∧ Ints w' A3 c3 (num (wroteL l at' bs)) ∧ Off A3 g ∧ Below w.heap.size w w' := by
  obtain ⟨h0, h1⟩ := there_fit ht
  obtain ⟨k, rfl⟩ : ∃ k : Nat, at' = k := ⟨at'.toNat, by omega⟩
  have hxl : xs.length = bs.length := by rw [← hbs, List.length_map]
  refine (rwith_any A cap l k A2 cap2 m xs hm len hlen w hA hX (by omega) hl).mono ?_
  rintro e w' ⟨v, rfl, hv, hb⟩
  rw [hbs] at hv
  have e1 : over l k bs = wroteL l (k : Int) bs := by unfold wroteL; rw [if_pos ht]; simp
  rw [e1] at hv
  obtain ⟨A3, c3, rfl, hi, _⟩ := hv.ints
  have e2 : (num (wroteL l (k : Int) bs)).length = len := by rw [num_len, wroteL_len, hlen]
  refine ⟨A3, c3, by rw [e2], hi, ?_, hb⟩
  exact hv.off hg

set_option maxRecDepth 100000 in
set_option maxHeartbeats 3200000 in
theorem wrote0 (at' n : Int) (t : ByteArray) (w : World) (B m g len cap : Nat) (A : Option Addr) (l : List UInt8) (hm : MemG w B m g l) (hA : Ints w A cap (num l)) (ho : OffI l A g) (hlen : len = l.length) (hl : l.length ≤ 400) :
    Calls Try.prog 15 #[.pointer (some ⟨m, 0, none⟩), .slice A len cap, .agg #[.int .i64 0, .int .i64 at', .int .i64 n, .string t]] w (WroteV B m g len (wroteL l at' (bsOf 0 n t)) w) := by
  have hbs : bsOf 0 n t = [low8 n] := by simp [bsOf]
  rw [hbs]
  have hgl := hm.lt
  have hset : ∀ W, MemG W B m g l → Calls Try.prog 20 #[.pointer (some ⟨m, 0, none⟩), .int .i64 at', .int .i64 n] W fun r w' => r = .returned (.int .i64 (chk l.length at' 1)) ∧ MemG w' B m g (wroteL l at' [low8 n]) ∧ W.grownBy w' (some g) := fun W h => by
    have := set_any W B m g l at' n h (by omega)
    refine this.mono fun e w' ⟨h1, h2, h3⟩ => ⟨h1, ?_, h3⟩
    rcases there_chk (len := l.length) (at' := at') (n := 1) (by omega) with ⟨q1, q2⟩ | ⟨q1, q2⟩
    · rw [q2, if_pos rfl] at h2
      unfold wroteL
      rw [if_pos (by exact q1)]
      have e : l.set at'.toNat (low8 n) = over l at'.toNat [low8 n] := by
        have := there_fit q1
        exact (over_set (by omega)).symm
      rw [← e]
      exact h2
    · rw [q2, if_neg (by omega)] at h2
      unfold wroteL
      rw [if_neg (by intro h; rw [show (([low8 n]).length : Int) = 1 from rfl, q1] at h; cases h)]
      exact h2
  have hth : ∀ W, Calls Try.prog 32 #[.slice A len cap, .int .i64 at', .int .i64 1] W fun r w' => r = .returned (.bool (thereB l.length at' 1)) ∧ W = w' := fun W => by
    rw [← hlen]
    exact there_any A len cap at' 1 W (by omega)
  have hwith : thereB l.length at' 1 = true → ∀ W A2, g < W.heap.size → Ints W A cap (num l) → Ints W A2 1 [n] → Calls Try.prog 21 #[.slice A len cap, .int .i64 at', .slice A2 1 1] W fun r w' => ∃ A3 c3, r = .returned (.slice A3 len c3) ∧ Ints w' A3 c3 (num (wroteL l at' [low8 n])) ∧ Off A3 g ∧ Below W.heap.size W w' := fun ht W A2 h1 h2 h3 => with_end A cap l at' A2 1 [n] [low8 n] rfl len hlen 1 rfl g W h1 h2 h3 ht (by omega)
  have hno : thereB l.length at' 1 = false → wroteL l at' [low8 n] = l := fun h => by
    unfold wroteL
    rw [if_neg (by intro h2; rw [show (([low8 n]).length : Int) = 1 from rfl, h] at h2; cases h2)]
  have hcase := there_chk (len := l.length) (at' := at') (n := 1) (by omega)
  obtain ⟨L2, hL2⟩ : ∃ L2, L2 = wroteL l at' [low8 n] := ⟨_, rfl⟩
  obtain ⟨th, hthv⟩ : ∃ th, th = thereB l.length at' 1 := ⟨_, rfl⟩
  obtain ⟨ck, hckv⟩ : ∃ ck, ck = chk l.length at' 1 := ⟨_, rfl⟩
  rw [← hL2] at hset hwith hno ⊢
  rw [← hthv] at hth hwith hno hcase
  rw [← hckv] at hset hcase
  have HM := Lib.hid hm
  have HA := Lib.hid hA
  have HSET := Lib.hid hset
  have HTH := Lib.hid hth
  have HWITH := Lib.hid hwith
  have HNO := Lib.hid hno
  have g1 : g < w.heap.size := hgl.1
  have g2 : ¬ w.heap.size = g := by omega
  have hln : len ≤ 400 := by omega
  clear hm hA hset hth hwith hno hL2 hthv hckv hbs hlen hgl
  rcases hcase with ⟨rfl, rfl⟩ | ⟨rfl, rfl⟩
  · go_enter Try.func15, Try.ntmps15
    go_wp2_with fail
    go_region_held3 (fun w' => w'.cell? ⟨w.heap.size, 0, none⟩ = some (.int .i64 0) ∧ w'.cell? ⟨w.heap.size, 1, none⟩ = some (.int .i64 at') ∧ w'.cell? ⟨w.heap.size, 2, none⟩ = some (.int .i64 n) ∧ w'.cell? ⟨w.heap.size, 3, none⟩ = some (.string t)) (first | exact ⟨e0, e1, e2, e3⟩ | go_keep) (first
      | (go_at_call 20; refine (HSET.out ((w.alloc (.cells #[.int .i64 0, .int .i64 at', .int .i64 n, .string t] 38)).drew) (HM.out.below (below_drewN ((Below.refl w.heap.size w).alloc (Nat.le_refl _) (.cells #[.int .i64 0, .int .i64 at', .int .i64 n, .string t] 38)) 1))).mono ?_; rintro e w3 ⟨rfl, hm3, hb3⟩; have hS := (show Blk (w.alloc (.cells #[.int .i64 0, .int .i64 at', .int .i64 n, .string t] 38)).drew w.heap.size 38 #[.int .i64 0, .int .i64 at', .int .i64 n, .string t] from Blk.new w _ _).only hb3 (by simpa using g2); have e0 := hS.cell 0; have e1 := hS.cell 1; have e2 := hS.cell 2; have e3 := hS.cell 3; simp at e0 e1 e2 e3; have M3 := Lib.hid hm3; have HB3 := Lib.hid (only_trans (only_drewN (only_alloc (only_refl w (some g)) (.cells #[.int .i64 0, .int .i64 at', .int .i64 n, .string t] 38)) 1) hb3 : w.grownBy w3 (some g)); have I3 := Lib.hid ((HA.out.below (below_drewN ((Below.refl w.heap.size w).alloc (Nat.le_refl _) (.cells #[.int .i64 0, .int .i64 at', .int .i64 n, .string t] 38)) 1)).farI hb3 ho); clear hS hm3 hb3)
      | (go_at_call 20; refine (HSET.out (((w.alloc (.cells #[.int .i64 0, .int .i64 at', .int .i64 n, .string t] 38)).alloc (.cells #[.int .i64 n] 3)).drew) (HM.out.below (below_drewN (((Below.refl w.heap.size w).alloc (Nat.le_refl _) (.cells #[.int .i64 0, .int .i64 at', .int .i64 n, .string t] 38)).alloc (by simp) (.cells #[.int .i64 n] 3)) 1))).mono ?_; rintro e w3 ⟨rfl, hm3, hb3⟩; have hS := (show Blk ((w.alloc (.cells #[.int .i64 0, .int .i64 at', .int .i64 n, .string t] 38)).alloc (.cells #[.int .i64 n] 3)).drew w.heap.size 38 #[.int .i64 0, .int .i64 at', .int .i64 n, .string t] from (Blk.new w _ _).alloc _).only hb3 (by simpa using g2); have e0 := hS.cell 0; have e1 := hS.cell 1; have e2 := hS.cell 2; have e3 := hS.cell 3; simp at e0 e1 e2 e3; have M3 := Lib.hid hm3; have HB3 := Lib.hid (only_trans (only_drewN (only_alloc (only_alloc (only_refl w (some g)) (.cells #[.int .i64 0, .int .i64 at', .int .i64 n, .string t] 38)) (.cells #[.int .i64 n] 3)) 1) hb3 : w.grownBy w3 (some g)); have I3 := Lib.hid ((HA.out.below (below_drewN (((Below.refl w.heap.size w).alloc (Nat.le_refl _) (.cells #[.int .i64 0, .int .i64 at', .int .i64 n, .string t] 38)).alloc (by simp) (.cells #[.int .i64 n] 3)) 1)).farI hb3 ho); have N3 := Lib.hid ((show Ints ((w.alloc (.cells #[.int .i64 0, .int .i64 at', .int .i64 n, .string t] 38)).alloc (.cells #[.int .i64 n] 3)).drew (some ⟨(w.alloc (.cells #[.int .i64 0, .int .i64 at', .int .i64 n, .string t] 38)).heap.size, 0, none⟩) 1 [n] from one_int (w.alloc (.cells #[.int .i64 0, .int .i64 at', .int .i64 n, .string t] 38)) n).far hb3 (off_new (by simp; omega))); clear hS hm3 hb3))
    · have J3 := Lib.hid (show Ints w3 (some ⟨w.heap.size + 1, 0, none⟩) 1 [n] by simpa using N3.out)
      have IF := Lib.hid I3.out
      have MF := Lib.hid M3.out
      have GF := Lib.hid HB3.out
      have hsz := MF.out.lt.1
      have f1 := e1
      clear e0 e1 e2 e3 N3
      go_wp2_with (first | (go_at_call 32; refine (HTH.out _).mono ?_; rintro e w4 ⟨rfl, rfl⟩) | (go_at_call 21; refine (HWITH.out (by first | rfl | trivial) w3 (some ⟨w.heap.size + 1, 0, none⟩) hsz IF.out J3.out).mono ?_; rintro e w5 ⟨A5, c5, rfl, i5, o5, b5⟩; have I5 := Lib.hid i5; have O5 := Lib.hid o5; have M5 := Lib.hid (MF.out.below b5); have G5 := Lib.hid (only_trans GF.out (only_any (only_far b5) _)); clear i5 o5 b5))
      go_ret2
      exact ⟨A5, c5, by first | rfl | simp, M5.out, I5.out, fun _ => O5.out, G5.out⟩
    · have J3 := Lib.hid (one_int w3 n)
      have b9 := (Below.refl w3.heap.size w3).alloc (Nat.le_refl _) (.cells #[.int .i64 n] 3)
      have IF := Lib.hid (I3.out.below b9)
      have MF := Lib.hid (M3.out.below b9)
      have GF := Lib.hid (only_alloc HB3.out (.cells #[.int .i64 n] 3))
      have f1 := (b9.cell (p := ⟨w.heap.size, 1, none⟩) (block_lt_of_cell e1)).trans e1
      have hsz := MF.out.lt.1
      clear e0 e1 e2 e3 b9
      generalize w3.alloc (.cells #[.int .i64 n] 3) = wf at *
      go_wp2_with (first | (go_at_call 32; refine (HTH.out _).mono ?_; rintro e w4 ⟨rfl, rfl⟩) | (go_at_call 21; refine (HWITH.out (by first | rfl | trivial) wf (some ⟨w3.heap.size, 0, none⟩) hsz IF.out J3.out).mono ?_; rintro e w5 ⟨A5, c5, rfl, i5, o5, b5⟩; have I5 := Lib.hid i5; have O5 := Lib.hid o5; have M5 := Lib.hid (MF.out.below b5); have G5 := Lib.hid (only_trans GF.out (only_any (only_far b5) _)); clear i5 o5 b5))
      go_ret2
      exact ⟨A5, c5, by first | rfl | simp, M5.out, I5.out, fun _ => O5.out, G5.out⟩
  · go_enter Try.func15, Try.ntmps15
    go_wp2_with fail
    go_region_held3 (fun w' => w'.cell? ⟨w.heap.size, 0, none⟩ = some (.int .i64 0) ∧ w'.cell? ⟨w.heap.size, 1, none⟩ = some (.int .i64 at') ∧ w'.cell? ⟨w.heap.size, 2, none⟩ = some (.int .i64 n) ∧ w'.cell? ⟨w.heap.size, 3, none⟩ = some (.string t)) (first | exact ⟨e0, e1, e2, e3⟩ | go_keep) (first
      | (go_at_call 20; refine (HSET.out ((w.alloc (.cells #[.int .i64 0, .int .i64 at', .int .i64 n, .string t] 38)).drew) (HM.out.below (below_drewN ((Below.refl w.heap.size w).alloc (Nat.le_refl _) (.cells #[.int .i64 0, .int .i64 at', .int .i64 n, .string t] 38)) 1))).mono ?_; rintro e w3 ⟨rfl, hm3, hb3⟩; have hS := (show Blk (w.alloc (.cells #[.int .i64 0, .int .i64 at', .int .i64 n, .string t] 38)).drew w.heap.size 38 #[.int .i64 0, .int .i64 at', .int .i64 n, .string t] from Blk.new w _ _).only hb3 (by simpa using g2); have e0 := hS.cell 0; have e1 := hS.cell 1; have e2 := hS.cell 2; have e3 := hS.cell 3; simp at e0 e1 e2 e3; have M3 := Lib.hid hm3; have HB3 := Lib.hid (only_trans (only_drewN (only_alloc (only_refl w (some g)) (.cells #[.int .i64 0, .int .i64 at', .int .i64 n, .string t] 38)) 1) hb3 : w.grownBy w3 (some g)); have I3 := Lib.hid ((HA.out.below (below_drewN ((Below.refl w.heap.size w).alloc (Nat.le_refl _) (.cells #[.int .i64 0, .int .i64 at', .int .i64 n, .string t] 38)) 1)).farI hb3 ho); clear hS hm3 hb3)
      | (go_at_call 20; refine (HSET.out (((w.alloc (.cells #[.int .i64 0, .int .i64 at', .int .i64 n, .string t] 38)).alloc (.cells #[.int .i64 n] 3)).drew) (HM.out.below (below_drewN (((Below.refl w.heap.size w).alloc (Nat.le_refl _) (.cells #[.int .i64 0, .int .i64 at', .int .i64 n, .string t] 38)).alloc (by simp) (.cells #[.int .i64 n] 3)) 1))).mono ?_; rintro e w3 ⟨rfl, hm3, hb3⟩; have hS := (show Blk ((w.alloc (.cells #[.int .i64 0, .int .i64 at', .int .i64 n, .string t] 38)).alloc (.cells #[.int .i64 n] 3)).drew w.heap.size 38 #[.int .i64 0, .int .i64 at', .int .i64 n, .string t] from (Blk.new w _ _).alloc _).only hb3 (by simpa using g2); have e0 := hS.cell 0; have e1 := hS.cell 1; have e2 := hS.cell 2; have e3 := hS.cell 3; simp at e0 e1 e2 e3; have M3 := Lib.hid hm3; have HB3 := Lib.hid (only_trans (only_drewN (only_alloc (only_alloc (only_refl w (some g)) (.cells #[.int .i64 0, .int .i64 at', .int .i64 n, .string t] 38)) (.cells #[.int .i64 n] 3)) 1) hb3 : w.grownBy w3 (some g)); have I3 := Lib.hid ((HA.out.below (below_drewN (((Below.refl w.heap.size w).alloc (Nat.le_refl _) (.cells #[.int .i64 0, .int .i64 at', .int .i64 n, .string t] 38)).alloc (by simp) (.cells #[.int .i64 n] 3)) 1)).farI hb3 ho); have N3 := Lib.hid ((show Ints ((w.alloc (.cells #[.int .i64 0, .int .i64 at', .int .i64 n, .string t] 38)).alloc (.cells #[.int .i64 n] 3)).drew (some ⟨(w.alloc (.cells #[.int .i64 0, .int .i64 at', .int .i64 n, .string t] 38)).heap.size, 0, none⟩) 1 [n] from one_int (w.alloc (.cells #[.int .i64 0, .int .i64 at', .int .i64 n, .string t] 38)) n).far hb3 (off_new (by simp; omega))); clear hS hm3 hb3))
    · have J3 := Lib.hid (show Ints w3 (some ⟨w.heap.size + 1, 0, none⟩) 1 [n] by simpa using N3.out)
      have IF := Lib.hid I3.out
      have MF := Lib.hid M3.out
      have GF := Lib.hid HB3.out
      have hsz := MF.out.lt.1
      have f1 := e1
      clear e0 e1 e2 e3 N3
      go_wp2_with (go_at_call 32; refine (HTH.out _).mono ?_; rintro e w4 ⟨rfl, rfl⟩)
      go_ret2
      have hno := HNO.out (by first | rfl | trivial)
      refine ⟨A, cap, by first | rfl | simp, MF.out, ?_, (by rw [hno]; exact ho), GF.out⟩
      rw [hno]
      exact IF.out
    · have J3 := Lib.hid (one_int w3 n)
      have b9 := (Below.refl w3.heap.size w3).alloc (Nat.le_refl _) (.cells #[.int .i64 n] 3)
      have IF := Lib.hid (I3.out.below b9)
      have MF := Lib.hid (M3.out.below b9)
      have GF := Lib.hid (only_alloc HB3.out (.cells #[.int .i64 n] 3))
      have f1 := (b9.cell (p := ⟨w.heap.size, 1, none⟩) (block_lt_of_cell e1)).trans e1
      have hsz := MF.out.lt.1
      clear e0 e1 e2 e3 b9
      generalize w3.alloc (.cells #[.int .i64 n] 3) = wf at *
      go_wp2_with (go_at_call 32; refine (HTH.out _).mono ?_; rintro e w4 ⟨rfl, rfl⟩)
      go_ret2
      have hno := HNO.out (by first | rfl | trivial)
      refine ⟨A, cap, by first | rfl | simp, MF.out, ?_, (by rw [hno]; exact ho), GF.out⟩
      rw [hno]
      exact IF.out

end Go.Proofs.Ythneljkaieckeaa
