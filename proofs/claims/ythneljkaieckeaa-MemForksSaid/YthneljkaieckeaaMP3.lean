/- A deed that writes two bytes, or a text: the contract of wrote, whole. -/
import Derived.Test.YthneljkaieckeaaMP2
namespace Go.Proofs.Ythneljkaieckeaa
open Go.RowKit Go.Lib Go.Sort
set_option linter.unusedVariables false

theorem OwnN.ints3 {w : World} {B n c : Nat} {A : Option Addr} {l : List Int} (h : OwnN w B (.slice A n c) l) : Ints w A c l := by
  obtain ⟨A', c', hv, hi, _⟩ := h.ints
  injection hv with e1 e2 e3
  subst e1 e3
  exact hi

set_option maxRecDepth 100000 in
set_option maxHeartbeats 3200000 in
theorem wrote1 (at' n : Int) (t : ByteArray) (w : World) (B m g len cap : Nat) (A : Option Addr) (l : List UInt8) (hm : MemG w B m g l) (hA : Ints w A cap (num l)) (ho : OffI l A g) (hlen : len = l.length) (hl : l.length ≤ 400) :
    Calls Try.prog 15 #[.pointer (some ⟨m, 0, none⟩), .slice A len cap, .agg #[.int .i64 1, .int .i64 at', .int .i64 n, .string t]] w (WroteV B m g len (wroteL l at' (bsOf 1 n t)) w) := by
  have hbs : bsOf 1 n t = [low8 n, low8 (n / 256)] := by simp [bsOf]
  rw [hbs]
  have hgl := hm.lt
  have hset : ∀ W, MemG W B m g l → Calls Try.prog 24 #[.pointer (some ⟨m, 0, none⟩), .int .i64 at', .int .i64 n] W fun r w' => r = .returned (.int .i64 (chk l.length at' 2)) ∧ MemG w' B m g (wroteL l at' [low8 n, low8 (n / 256)]) ∧ W.grownBy w' (some g) := fun W h => by
    have := set2_any W B m g l at' n h (by omega)
    refine this.mono fun e w' ⟨h1, h2, h3⟩ => ⟨h1, ?_, h3⟩
    rcases there_chk (len := l.length) (at' := at') (n := 2) (by omega) with ⟨q1, q2⟩ | ⟨q1, q2⟩
    · rw [q2, if_pos rfl] at h2
      unfold wroteL
      rw [if_pos (by exact q1)]
      exact h2
    · rw [q2, if_neg (by omega)] at h2
      unfold wroteL
      rw [if_neg (by intro h; rw [show (([low8 n, low8 (n / 256)]).length : Int) = 2 from rfl, q1] at h; cases h)]
      exact h2
  have hth : ∀ W, Calls Try.prog 32 #[.slice A len cap, .int .i64 at', .int .i64 2] W fun r w' => r = .returned (.bool (thereB l.length at' 2)) ∧ W = w' := fun W => by
    rw [← hlen]
    exact there_any A len cap at' 2 W (by omega)
  have hwith : thereB l.length at' 2 = true → ∀ W A2, g < W.heap.size → Ints W A cap (num l) → Ints W A2 2 [n % 256, n / 256 % 256] → Calls Try.prog 21 #[.slice A len cap, .int .i64 at', .slice A2 2 2] W fun r w' => ∃ A3 c3, r = .returned (.slice A3 len c3) ∧ Ints w' A3 c3 (num (wroteL l at' [low8 n, low8 (n / 256)])) ∧ Off A3 g ∧ Below W.heap.size W w' := fun ht W A2 h1 h2 h3 => with_end A cap l at' A2 2 [n % 256, n / 256 % 256] [low8 n, low8 (n / 256)] (by simp [low8_mod]) len hlen 2 rfl g W h1 h2 h3 ht (by omega)
  have hno : thereB l.length at' 2 = false → wroteL l at' [low8 n, low8 (n / 256)] = l := fun h => by
    unfold wroteL
    rw [if_neg (by intro h2; rw [show (([low8 n, low8 (n / 256)]).length : Int) = 2 from rfl, h] at h2; cases h2)]
  have hcase := there_chk (len := l.length) (at' := at') (n := 2) (by omega)
  obtain ⟨L2, hL2⟩ : ∃ L2, L2 = wroteL l at' [low8 n, low8 (n / 256)] := ⟨_, rfl⟩
  obtain ⟨th, hthv⟩ : ∃ th, th = thereB l.length at' 2 := ⟨_, rfl⟩
  obtain ⟨ck, hckv⟩ : ∃ ck, ck = chk l.length at' 2 := ⟨_, rfl⟩
  rw [← hL2] at hset hwith hno ⊢
  rw [← hthv] at hth hwith hno hcase
  rw [← hckv] at hset hcase
  have HM := Lib.hid hm
  have HA := Lib.hid hA
  have HSET := Lib.hid hset
  have HTH := Lib.hid hth
  have HWITH := Lib.hid hwith
  have HNO := Lib.hid hno
  have g1 : g < w.heap.size := hgl.1
  have g2 : ¬ w.heap.size = g := by omega
  have hln : len ≤ 400 := by omega
  clear hm hA hset hth hwith hno hL2 hthv hckv hbs hlen hgl
  rcases hcase with ⟨rfl, rfl⟩ | ⟨rfl, rfl⟩
  · go_enter Try.func15, Try.ntmps15
    go_wp2_with fail
    go_region_held3 (fun w' => w'.cell? ⟨w.heap.size, 0, none⟩ = some (.int .i64 1) ∧ w'.cell? ⟨w.heap.size, 1, none⟩ = some (.int .i64 at') ∧ w'.cell? ⟨w.heap.size, 2, none⟩ = some (.int .i64 n) ∧ w'.cell? ⟨w.heap.size, 3, none⟩ = some (.string t)) (first | exact ⟨e0, e1, e2, e3⟩ | go_keep) (first
      | (go_at_call 29; refine (rlow_any _ _).mono ?_; rintro e w' ⟨rfl, rfl⟩) | (go_at_call 30; refine (rhigh_any _ _).mono ?_; rintro e w' ⟨rfl, rfl⟩)
      | (go_at_call 24; refine (HSET.out ((w.alloc (.cells #[.int .i64 1, .int .i64 at', .int .i64 n, .string t] 38)).drew) (HM.out.below (below_drewN ((Below.refl w.heap.size w).alloc (Nat.le_refl _) (.cells #[.int .i64 1, .int .i64 at', .int .i64 n, .string t] 38)) 1))).mono ?_; rintro e w3 ⟨rfl, hm3, hb3⟩; have hS := (show Blk (w.alloc (.cells #[.int .i64 1, .int .i64 at', .int .i64 n, .string t] 38)).drew w.heap.size 38 #[.int .i64 1, .int .i64 at', .int .i64 n, .string t] from Blk.new w _ _).only hb3 (by simpa using g2); have e0 := hS.cell 0; have e1 := hS.cell 1; have e2 := hS.cell 2; have e3 := hS.cell 3; simp at e0 e1 e2 e3; have M3 := Lib.hid hm3; have HB3 := Lib.hid (only_trans (only_drewN (only_alloc (only_refl w (some g)) (.cells #[.int .i64 1, .int .i64 at', .int .i64 n, .string t] 38)) 1) hb3 : w.grownBy w3 (some g)); have I3 := Lib.hid ((HA.out.below (below_drewN ((Below.refl w.heap.size w).alloc (Nat.le_refl _) (.cells #[.int .i64 1, .int .i64 at', .int .i64 n, .string t] 38)) 1)).farI hb3 ho); clear hS hm3 hb3)
      | (go_at_call 24; refine (HSET.out (((w.alloc (.cells #[.int .i64 1, .int .i64 at', .int .i64 n, .string t] 38)).alloc (.cells #[.int .i64 (n % 256), .int .i64 (n / 256 % 256)] 3)).drew) (HM.out.below (below_drewN (((Below.refl w.heap.size w).alloc (Nat.le_refl _) (.cells #[.int .i64 1, .int .i64 at', .int .i64 n, .string t] 38)).alloc (by simp) (.cells #[.int .i64 (n % 256), .int .i64 (n / 256 % 256)] 3)) 1))).mono ?_; rintro e w3 ⟨rfl, hm3, hb3⟩; have hS := (show Blk ((w.alloc (.cells #[.int .i64 1, .int .i64 at', .int .i64 n, .string t] 38)).alloc (.cells #[.int .i64 (n % 256), .int .i64 (n / 256 % 256)] 3)).drew w.heap.size 38 #[.int .i64 1, .int .i64 at', .int .i64 n, .string t] from (Blk.new w _ _).alloc _).only hb3 (by simpa using g2); have e0 := hS.cell 0; have e1 := hS.cell 1; have e2 := hS.cell 2; have e3 := hS.cell 3; simp at e0 e1 e2 e3; have M3 := Lib.hid hm3; have HB3 := Lib.hid (only_trans (only_drewN (only_alloc (only_alloc (only_refl w (some g)) (.cells #[.int .i64 1, .int .i64 at', .int .i64 n, .string t] 38)) (.cells #[.int .i64 (n % 256), .int .i64 (n / 256 % 256)] 3)) 1) hb3 : w.grownBy w3 (some g)); have I3 := Lib.hid ((HA.out.below (below_drewN (((Below.refl w.heap.size w).alloc (Nat.le_refl _) (.cells #[.int .i64 1, .int .i64 at', .int .i64 n, .string t] 38)).alloc (by simp) (.cells #[.int .i64 (n % 256), .int .i64 (n / 256 % 256)] 3)) 1)).farI hb3 ho); have N3 := Lib.hid ((show Ints ((w.alloc (.cells #[.int .i64 1, .int .i64 at', .int .i64 n, .string t] 38)).alloc (.cells #[.int .i64 (n % 256), .int .i64 (n / 256 % 256)] 3)).drew (some ⟨(w.alloc (.cells #[.int .i64 1, .int .i64 at', .int .i64 n, .string t] 38)).heap.size, 0, none⟩) 2 [n % 256, n / 256 % 256] from two_ints (w.alloc (.cells #[.int .i64 1, .int .i64 at', .int .i64 n, .string t] 38)) (n % 256) (n / 256 % 256)).far hb3 (off_new (by simp; omega))); clear hS hm3 hb3))
    · have J3 := Lib.hid (show Ints w3 (some ⟨w.heap.size + 1, 0, none⟩) 2 [n % 256, n / 256 % 256] by simpa using N3.out)
      have IF := Lib.hid I3.out
      have MF := Lib.hid M3.out
      have GF := Lib.hid HB3.out
      have hsz := MF.out.lt.1
      have f1 := e1
      clear e0 e1 e2 e3 N3
      go_wp2_with (first | (go_at_call 32; refine (HTH.out _).mono ?_; rintro e w4 ⟨rfl, rfl⟩) | (go_at_call 21; refine (HWITH.out (by first | rfl | trivial) w3 (some ⟨w.heap.size + 1, 0, none⟩) hsz IF.out J3.out).mono ?_; rintro e w5 ⟨A5, c5, rfl, i5, o5, b5⟩; have I5 := Lib.hid i5; have O5 := Lib.hid o5; have M5 := Lib.hid (MF.out.below b5); have G5 := Lib.hid (only_trans GF.out (only_any (only_far b5) _)); clear i5 o5 b5))
      go_ret2
      exact ⟨A5, c5, by first | rfl | simp, M5.out, I5.out, fun _ => O5.out, G5.out⟩
    · have J3 := Lib.hid (two_ints w3 (n % 256) (n / 256 % 256))
      have b9 := (Below.refl w3.heap.size w3).alloc (Nat.le_refl _) (.cells #[.int .i64 (n % 256), .int .i64 (n / 256 % 256)] 3)
      have IF := Lib.hid (I3.out.below b9)
      have MF := Lib.hid (M3.out.below b9)
      have GF := Lib.hid (only_alloc HB3.out (.cells #[.int .i64 (n % 256), .int .i64 (n / 256 % 256)] 3))
      have f1 := (b9.cell (p := ⟨w.heap.size, 1, none⟩) (block_lt_of_cell e1)).trans e1
      have hsz := MF.out.lt.1
      clear e0 e1 e2 e3 b9
      generalize w3.alloc (.cells #[.int .i64 (n % 256), .int .i64 (n / 256 % 256)] 3) = wf at *
      go_wp2_with (first | (go_at_call 32; refine (HTH.out _).mono ?_; rintro e w4 ⟨rfl, rfl⟩) | (go_at_call 21; refine (HWITH.out (by first | rfl | trivial) wf (some ⟨w3.heap.size, 0, none⟩) hsz IF.out J3.out).mono ?_; rintro e w5 ⟨A5, c5, rfl, i5, o5, b5⟩; have I5 := Lib.hid i5; have O5 := Lib.hid o5; have M5 := Lib.hid (MF.out.below b5); have G5 := Lib.hid (only_trans GF.out (only_any (only_far b5) _)); clear i5 o5 b5))
      go_ret2
      exact ⟨A5, c5, by first | rfl | simp, M5.out, I5.out, fun _ => O5.out, G5.out⟩
  · go_enter Try.func15, Try.ntmps15
    go_wp2_with fail
    go_region_held3 (fun w' => w'.cell? ⟨w.heap.size, 0, none⟩ = some (.int .i64 1) ∧ w'.cell? ⟨w.heap.size, 1, none⟩ = some (.int .i64 at') ∧ w'.cell? ⟨w.heap.size, 2, none⟩ = some (.int .i64 n) ∧ w'.cell? ⟨w.heap.size, 3, none⟩ = some (.string t)) (first | exact ⟨e0, e1, e2, e3⟩ | go_keep) (first
      | (go_at_call 29; refine (rlow_any _ _).mono ?_; rintro e w' ⟨rfl, rfl⟩) | (go_at_call 30; refine (rhigh_any _ _).mono ?_; rintro e w' ⟨rfl, rfl⟩)
      | (go_at_call 24; refine (HSET.out ((w.alloc (.cells #[.int .i64 1, .int .i64 at', .int .i64 n, .string t] 38)).drew) (HM.out.below (below_drewN ((Below.refl w.heap.size w).alloc (Nat.le_refl _) (.cells #[.int .i64 1, .int .i64 at', .int .i64 n, .string t] 38)) 1))).mono ?_; rintro e w3 ⟨rfl, hm3, hb3⟩; have hS := (show Blk (w.alloc (.cells #[.int .i64 1, .int .i64 at', .int .i64 n, .string t] 38)).drew w.heap.size 38 #[.int .i64 1, .int .i64 at', .int .i64 n, .string t] from Blk.new w _ _).only hb3 (by simpa using g2); have e0 := hS.cell 0; have e1 := hS.cell 1; have e2 := hS.cell 2; have e3 := hS.cell 3; simp at e0 e1 e2 e3; have M3 := Lib.hid hm3; have HB3 := Lib.hid (only_trans (only_drewN (only_alloc (only_refl w (some g)) (.cells #[.int .i64 1, .int .i64 at', .int .i64 n, .string t] 38)) 1) hb3 : w.grownBy w3 (some g)); have I3 := Lib.hid ((HA.out.below (below_drewN ((Below.refl w.heap.size w).alloc (Nat.le_refl _) (.cells #[.int .i64 1, .int .i64 at', .int .i64 n, .string t] 38)) 1)).farI hb3 ho); clear hS hm3 hb3)
      | (go_at_call 24; refine (HSET.out (((w.alloc (.cells #[.int .i64 1, .int .i64 at', .int .i64 n, .string t] 38)).alloc (.cells #[.int .i64 (n % 256), .int .i64 (n / 256 % 256)] 3)).drew) (HM.out.below (below_drewN (((Below.refl w.heap.size w).alloc (Nat.le_refl _) (.cells #[.int .i64 1, .int .i64 at', .int .i64 n, .string t] 38)).alloc (by simp) (.cells #[.int .i64 (n % 256), .int .i64 (n / 256 % 256)] 3)) 1))).mono ?_; rintro e w3 ⟨rfl, hm3, hb3⟩; have hS := (show Blk ((w.alloc (.cells #[.int .i64 1, .int .i64 at', .int .i64 n, .string t] 38)).alloc (.cells #[.int .i64 (n % 256), .int .i64 (n / 256 % 256)] 3)).drew w.heap.size 38 #[.int .i64 1, .int .i64 at', .int .i64 n, .string t] from (Blk.new w _ _).alloc _).only hb3 (by simpa using g2); have e0 := hS.cell 0; have e1 := hS.cell 1; have e2 := hS.cell 2; have e3 := hS.cell 3; simp at e0 e1 e2 e3; have M3 := Lib.hid hm3; have HB3 := Lib.hid (only_trans (only_drewN (only_alloc (only_alloc (only_refl w (some g)) (.cells #[.int .i64 1, .int .i64 at', .int .i64 n, .string t] 38)) (.cells #[.int .i64 (n % 256), .int .i64 (n / 256 % 256)] 3)) 1) hb3 : w.grownBy w3 (some g)); have I3 := Lib.hid ((HA.out.below (below_drewN (((Below.refl w.heap.size w).alloc (Nat.le_refl _) (.cells #[.int .i64 1, .int .i64 at', .int .i64 n, .string t] 38)).alloc (by simp) (.cells #[.int .i64 (n % 256), .int .i64 (n / 256 % 256)] 3)) 1)).farI hb3 ho); have N3 := Lib.hid ((show Ints ((w.alloc (.cells #[.int .i64 1, .int .i64 at', .int .i64 n, .string t] 38)).alloc (.cells #[.int .i64 (n % 256), .int .i64 (n / 256 % 256)] 3)).drew (some ⟨(w.alloc (.cells #[.int .i64 1, .int .i64 at', .int .i64 n, .string t] 38)).heap.size, 0, none⟩) 2 [n % 256, n / 256 % 256] from two_ints (w.alloc (.cells #[.int .i64 1, .int .i64 at', .int .i64 n, .string t] 38)) (n % 256) (n / 256 % 256)).far hb3 (off_new (by simp; omega))); clear hS hm3 hb3))
    · have J3 := Lib.hid (show Ints w3 (some ⟨w.heap.size + 1, 0, none⟩) 2 [n % 256, n / 256 % 256] by simpa using N3.out)
      have IF := Lib.hid I3.out
      have MF := Lib.hid M3.out
      have GF := Lib.hid HB3.out
      have hsz := MF.out.lt.1
      have f1 := e1
      clear e0 e1 e2 e3 N3
      go_wp2_with (go_at_call 32; refine (HTH.out _).mono ?_; rintro e w4 ⟨rfl, rfl⟩)
      go_ret2
      have hno := HNO.out (by first | rfl | trivial)
      refine ⟨A, cap, by first | rfl | simp, MF.out, ?_, (by rw [hno]; exact ho), GF.out⟩
      rw [hno]
      exact IF.out
    · have J3 := Lib.hid (two_ints w3 (n % 256) (n / 256 % 256))
      have b9 := (Below.refl w3.heap.size w3).alloc (Nat.le_refl _) (.cells #[.int .i64 (n % 256), .int .i64 (n / 256 % 256)] 3)
      have IF := Lib.hid (I3.out.below b9)
      have MF := Lib.hid (M3.out.below b9)
      have GF := Lib.hid (only_alloc HB3.out (.cells #[.int .i64 (n % 256), .int .i64 (n / 256 % 256)] 3))
      have f1 := (b9.cell (p := ⟨w.heap.size, 1, none⟩) (block_lt_of_cell e1)).trans e1
      have hsz := MF.out.lt.1
      clear e0 e1 e2 e3 b9
      generalize w3.alloc (.cells #[.int .i64 (n % 256), .int .i64 (n / 256 % 256)] 3) = wf at *
      go_wp2_with (go_at_call 32; refine (HTH.out _).mono ?_; rintro e w4 ⟨rfl, rfl⟩)
      go_ret2
      have hno := HNO.out (by first | rfl | trivial)
      refine ⟨A, cap, by first | rfl | simp, MF.out, ?_, (by rw [hno]; exact ho), GF.out⟩
      rw [hno]
      exact IF.out

set_option maxRecDepth 100000 in
set_option maxHeartbeats 3200000 in
theorem wrote2 (at' n : Int) (t : ByteArray) (w : World) (B m g len cap : Nat) (A : Option Addr) (l : List UInt8) (hm : MemG w B m g l) (hA : Ints w A cap (num l)) (ho : OffI l A g) (hlen : len = l.length) (hl : l.length ≤ 400) (ht : t.size ≤ 300) :
    Calls Try.prog 15 #[.pointer (some ⟨m, 0, none⟩), .slice A len cap, .agg #[.int .i64 2, .int .i64 at', .int .i64 n, .string t]] w (WroteV B m g len (wroteL l at' (bsOf 2 n t)) w) := by
  have hbs : bsOf 2 n t = t.data.toList := by simp [bsOf]
  rw [hbs]
  have hgl := hm.lt
  have htl : t.data.toList.length = t.size := by rw [Array.length_toList]; rfl
  have hset : ∀ W, MemG W B m g l → Calls Try.prog 25 #[.pointer (some ⟨m, 0, none⟩), .int .i64 at', .string t] W fun r w' => r = .returned (.int .i64 (chk l.length at' t.size)) ∧ MemG w' B m g (wroteL l at' t.data.toList) ∧ W.grownBy w' (some g) := fun W h => by
    have := mput_any W B m g l at' t h (by omega) (by omega)
    refine this.mono fun e w' ⟨h1, h2, h3⟩ => ⟨h1, ?_, h3⟩
    rcases there_chk (len := l.length) (at' := at') (n := (t.size : Int)) (by omega) with ⟨q1, q2⟩ | ⟨q1, q2⟩
    · rw [q2, if_pos rfl] at h2
      unfold wroteL
      rw [htl, if_pos q1]
      exact h2
    · rw [q2, if_neg (by omega)] at h2
      unfold wroteL
      rw [htl, if_neg (by rw [q1]; simp)]
      exact h2
  have hth : ∀ W, Calls Try.prog 32 #[.slice A len cap, .int .i64 at', .int .i64 (t.size : Int)] W fun r w' => r = .returned (.bool (thereB l.length at' t.size)) ∧ W = w' := fun W => by
    rw [← hlen]
    exact there_any A len cap at' t.size W (by omega)
  have hwith : thereB l.length at' t.size = true → ∀ W A2 c2, g < W.heap.size → Ints W A cap (num l) → Ints W A2 c2 (num t.data.toList) → Calls Try.prog 21 #[.slice A len cap, .int .i64 at', .slice A2 t.size c2] W fun r w' => ∃ A3 c3, r = .returned (.slice A3 len c3) ∧ Ints w' A3 c3 (num (wroteL l at' t.data.toList)) ∧ Off A3 g ∧ Below W.heap.size W w' := fun ht W A2 c2 h1 h2 h3 => with_end A cap l at' A2 c2 (num t.data.toList) t.data.toList (num_low _) len hlen t.size (by rw [num_len, htl]) g W h1 h2 h3 (by rw [htl]; exact ht) (by omega)
  have hno : thereB l.length at' t.size = false → wroteL l at' t.data.toList = l := fun h => by
    unfold wroteL
    rw [htl, if_neg (by rw [h]; simp)]
  have hby := fun W => rbytes_any t W (by omega)
  have hcase := there_chk (len := l.length) (at' := at') (n := (t.size : Int)) (by omega)
  obtain ⟨L2, hL2⟩ : ∃ L2, L2 = wroteL l at' t.data.toList := ⟨_, rfl⟩
  obtain ⟨th, hthv⟩ : ∃ th, th = thereB l.length at' t.size := ⟨_, rfl⟩
  obtain ⟨ck, hckv⟩ : ∃ ck, ck = chk l.length at' t.size := ⟨_, rfl⟩
  rw [← hL2] at hset hwith hno ⊢
  rw [← hthv] at hth hwith hno hcase
  rw [← hckv] at hset hcase
  have HM := Lib.hid hm
  have HA := Lib.hid hA
  have HSET := Lib.hid hset
  have HTH := Lib.hid hth
  have HWITH := Lib.hid hwith
  have HNO := Lib.hid hno
  have HBY := Lib.hid hby
  have g1 : g < w.heap.size := hgl.1
  have g2 : ¬ w.heap.size = g := by omega
  have hln : len ≤ 400 := by omega
  have htn : (num t.data.toList).length = t.size := by rw [num_len, htl]
  have HTN := Lib.hid htn
  clear hm hA hset hth hwith hno hL2 hthv hckv hbs hlen hgl hby htl htn
  rcases hcase with ⟨rfl, rfl⟩ | ⟨rfl, rfl⟩
  · go_enter Try.func15, Try.ntmps15
    go_wp2_with fail
    go_region_held3 (fun w' => w'.cell? ⟨w.heap.size, 0, none⟩ = some (.int .i64 2) ∧ w'.cell? ⟨w.heap.size, 1, none⟩ = some (.int .i64 at') ∧ w'.cell? ⟨w.heap.size, 2, none⟩ = some (.int .i64 n) ∧ w'.cell? ⟨w.heap.size, 3, none⟩ = some (.string t)) (first | exact ⟨e0, e1, e2, e3⟩ | exact ⟨d0, d1, d2, d3⟩ | go_keep) (first
      | (go_at_call 31; refine (HBY.out ((w.alloc (.cells #[.int .i64 2, .int .i64 at', .int .i64 n, .string t] 38)).drew)).mono ?_; rintro e w2 ⟨v2, rfl, hv2, b2⟩; obtain ⟨A9, c9, rfl⟩ := hv2.slice (n := t.size) HTN.out; have hS := (show Blk (w.alloc (.cells #[.int .i64 2, .int .i64 at', .int .i64 n, .string t] 38)).drew w.heap.size 38 #[.int .i64 2, .int .i64 at', .int .i64 n, .string t] from Blk.new w _ _).below b2 (by simp); have d0 := hS.cell 0; have d1 := hS.cell 1; have d2 := hS.cell 2; have d3 := hS.cell 3; simp at d0 d1 d2 d3; have HS := Lib.hid hS; have N2 := Lib.hid hv2.ints3; have O2 := Lib.hid (hv2.off (g := g) (by simp; omega)); have M2 := Lib.hid ((HM.out.below (below_drewN ((Below.refl w.heap.size w).alloc (Nat.le_refl _) (.cells #[.int .i64 2, .int .i64 at', .int .i64 n, .string t] 38)) 1)).below b2); have I2 := Lib.hid ((HA.out.below (below_drewN ((Below.refl w.heap.size w).alloc (Nat.le_refl _) (.cells #[.int .i64 2, .int .i64 at', .int .i64 n, .string t] 38)) 1)).below b2); have G2 := Lib.hid (only_trans (only_drewN (only_alloc (only_refl w (some g)) (.cells #[.int .i64 2, .int .i64 at', .int .i64 n, .string t] 38)) 1) (only_any (only_far b2) _) : w.grownBy w2 (some g)); clear hS hv2 b2)
      | (go_at_call 25; refine (HSET.out w2 M2.out).mono ?_; rintro e w3 ⟨rfl, hm3, hb3⟩; have hS3 := HS.out.only hb3 (by simpa using g2); have e0 := hS3.cell 0; have e1 := hS3.cell 1; have e2 := hS3.cell 2; have e3 := hS3.cell 3; simp at e0 e1 e2 e3; have M3 := Lib.hid hm3; have HB3 := Lib.hid (only_trans G2.out hb3); have I3 := Lib.hid (I2.out.farI hb3 ho); have J3 := Lib.hid (N2.out.far hb3 O2.out); clear hS3 hm3 hb3 d0 d1 d2 d3))
    have f1 := e1
    clear e0 e1 e2 e3
    have hsz := M3.out.lt.1
    go_wp2_with (first | (go_at_call 32; refine (HTH.out _).mono ?_; rintro e w4 ⟨rfl, rfl⟩) | (go_at_call 21; refine (HWITH.out (by first | rfl | trivial) w3 A9 c9 hsz I3.out J3.out).mono ?_; rintro e w5 ⟨A5, c5, rfl, i5, o5, b5⟩; have I5 := Lib.hid i5; have O5 := Lib.hid o5; have M5 := Lib.hid (M3.out.below b5); have G5 := Lib.hid (only_trans HB3.out (only_any (only_far b5) _)); clear i5 o5 b5))
    go_ret2
    exact ⟨A5, c5, by first | rfl | simp, M5.out, I5.out, fun _ => O5.out, G5.out⟩
  · go_enter Try.func15, Try.ntmps15
    go_wp2_with fail
    go_region_held3 (fun w' => w'.cell? ⟨w.heap.size, 0, none⟩ = some (.int .i64 2) ∧ w'.cell? ⟨w.heap.size, 1, none⟩ = some (.int .i64 at') ∧ w'.cell? ⟨w.heap.size, 2, none⟩ = some (.int .i64 n) ∧ w'.cell? ⟨w.heap.size, 3, none⟩ = some (.string t)) (first | exact ⟨e0, e1, e2, e3⟩ | exact ⟨d0, d1, d2, d3⟩ | go_keep) (first
      | (go_at_call 31; refine (HBY.out ((w.alloc (.cells #[.int .i64 2, .int .i64 at', .int .i64 n, .string t] 38)).drew)).mono ?_; rintro e w2 ⟨v2, rfl, hv2, b2⟩; obtain ⟨A9, c9, rfl⟩ := hv2.slice (n := t.size) HTN.out; have hS := (show Blk (w.alloc (.cells #[.int .i64 2, .int .i64 at', .int .i64 n, .string t] 38)).drew w.heap.size 38 #[.int .i64 2, .int .i64 at', .int .i64 n, .string t] from Blk.new w _ _).below b2 (by simp); have d0 := hS.cell 0; have d1 := hS.cell 1; have d2 := hS.cell 2; have d3 := hS.cell 3; simp at d0 d1 d2 d3; have HS := Lib.hid hS; have N2 := Lib.hid hv2.ints3; have O2 := Lib.hid (hv2.off (g := g) (by simp; omega)); have M2 := Lib.hid ((HM.out.below (below_drewN ((Below.refl w.heap.size w).alloc (Nat.le_refl _) (.cells #[.int .i64 2, .int .i64 at', .int .i64 n, .string t] 38)) 1)).below b2); have I2 := Lib.hid ((HA.out.below (below_drewN ((Below.refl w.heap.size w).alloc (Nat.le_refl _) (.cells #[.int .i64 2, .int .i64 at', .int .i64 n, .string t] 38)) 1)).below b2); have G2 := Lib.hid (only_trans (only_drewN (only_alloc (only_refl w (some g)) (.cells #[.int .i64 2, .int .i64 at', .int .i64 n, .string t] 38)) 1) (only_any (only_far b2) _) : w.grownBy w2 (some g)); clear hS hv2 b2)
      | (go_at_call 25; refine (HSET.out w2 M2.out).mono ?_; rintro e w3 ⟨rfl, hm3, hb3⟩; have hS3 := HS.out.only hb3 (by simpa using g2); have e0 := hS3.cell 0; have e1 := hS3.cell 1; have e2 := hS3.cell 2; have e3 := hS3.cell 3; simp at e0 e1 e2 e3; have M3 := Lib.hid hm3; have HB3 := Lib.hid (only_trans G2.out hb3); have I3 := Lib.hid (I2.out.farI hb3 ho); have J3 := Lib.hid (N2.out.far hb3 O2.out); clear hS3 hm3 hb3 d0 d1 d2 d3))
    have f1 := e1
    clear e0 e1 e2 e3
    go_wp2_with (go_at_call 32; refine (HTH.out _).mono ?_; rintro e w4 ⟨rfl, rfl⟩)
    go_ret2
    have hno := HNO.out (by first | rfl | trivial)
    refine ⟨A, cap, by first | rfl | simp, M3.out, ?_, (by rw [hno]; exact ho), HB3.out⟩
    rw [hno]
    exact I3.out

/-- A deed that writes. -/
theorem wrote_any (do' at' n : Int) (t : ByteArray) (hdo : 0 ≤ do') (hdo2 : do' < 3) (w : World) (B m g len cap : Nat) (A : Option Addr) (l : List UInt8) (hm : MemG w B m g l) (hA : Ints w A cap (num l)) (ho : OffI l A g) (hlen : len = l.length) (hl : l.length ≤ 400) (ht : t.size ≤ 300) :
    Calls Try.prog 15 #[.pointer (some ⟨m, 0, none⟩), .slice A len cap, .agg #[.int .i64 do', .int .i64 at', .int .i64 n, .string t]] w (WroteV B m g len (wroteL l at' (bsOf do' n t)) w) := by
  have hc : do' = 0 ∨ do' = 1 ∨ do' = 2 := by omega
  rcases hc with rfl | rfl | rfl
  · exact wrote0 at' n t w B m g len cap A l hm hA ho hlen hl
  · exact wrote1 at' n t w B m g len cap A l hm hA ho hlen hl
  · exact wrote2 at' n t w B m g len cap A l hm hA ho hlen hl ht
end Go.Proofs.Ythneljkaieckeaa
