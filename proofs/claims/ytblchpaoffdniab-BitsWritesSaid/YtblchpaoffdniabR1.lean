/- The document's answer for a step of a reader, by its contract. -/
import Derived.Test.YtblchpaoffdniabB3
import Derived.Test.YtblchpaoffdniabF
namespace Go.Proofs.Ytblchpaoffdniab
open Go.RowKit Go.Lib
set_option linter.unusedVariables false

/-- The document's reader lies in block b. -/
def Rx (w : World) (b : Nat) (s : ByteArray) (p : Nat) (e : Int) : Prop := Blk w b 33 #[.string s, .int .i64 p, .int .i64 e]

section
variable {w : World} {b p q : Nat} {s : ByteArray} {e f : Int}
theorem Rx.alloc (h : Rx w b s p e) (o : Obj) : Rx (w.alloc o) b s p e := Blk.alloc h o
theorem Rx.drewN (h : Rx w b s p e) (n : Nat) : Rx (w.drewN n) b s p e := Blk.drewN h n
theorem Rx.putp (h : Rx w b s p e) : Rx (w.setCell ⟨b, 1, none⟩ (.int .i64 q)) b s q e := Blk.put h 1 _
theorem Rx.pute (h : Rx w b s p e) : Rx (w.setCell ⟨b, 2, none⟩ (.int .i64 f)) b s p f := Blk.put h 2 _
end

def howMany (d n : Int) : Int := if d = 0 then 1 else if d = 1 then 2 else n
def numOf (d : Int) (t : ByteArray) : Int := if d = 0 then byteOf t else if d = 1 then twoOf t else 0
def textOf (d : Int) (t : ByteArray) : ByteArray := if d = 0 then .empty else if d = 1 then .empty else t

theorem rdText_err (s : ByteArray) (p : Nat) (e n : Int) (he : e ≠ 0) : rdText s p e n = (.empty, p, e) := by simp [rdText, he]
theorem rdText_neg (s : ByteArray) (p : Nat) (n : Int) (hn : n < 0) : rdText s p 0 n = (.empty, p, 2) := by simp [rdText, hn]
theorem rdText_end (s : ByteArray) (p : Nat) (n : Int) (hn : ¬ n < 0) (hm : (s.size : Int) - p < n) : rdText s p 0 n = (.empty, p, 5) := by simp [rdText, hn, hm]
theorem rdText_ok (s : ByteArray) (p k : Nat) (hm : p + k ≤ s.size) : rdText s p 0 (k : Int) = (s.extract p (p + k), p + k, 0) := by
  rw [rdText, if_neg (by omega), if_neg (by omega), if_neg (by omega)]
  simp
theorem num_empty (d : Int) : numOf d .empty = 0 := by unfold numOf byteOf twoOf; simp
theorem text_empty (d : Int) : textOf d .empty = .empty := by unfold textOf; simp

set_option maxRecDepth 4000 in
set_option maxHeartbeats 1600000 in
theorem read_any (b : Nat) (s : ByteArray) (p : Nat) (e d n : Int) (t : ByteArray) (w : World) (h : Rx w b s p e) (hp : p ≤ s.size) (hs : s.size ≤ 300) :
    Calls Try.prog 22 #[.pointer (some ⟨b, 0, none⟩), .agg #[.int .i64 d, .int .i64 n, .string t]] w fun r w' => r = .returned (.tuple #[.int .i64 (numOf d (rdText s p e (howMany d n)).1), .string (textOf d (rdText s p e (howMany d n)).1)]) ∧ Rx w' b s (rdText s p e (howMany d n)).2.1 (rdText s p e (howMany d n)).2.2 ∧ w.grownBy w' (some b) := by
  have c0 : w.cell? ⟨b, 0, none⟩ = some (.string s) := h.cell 0
  have c1 : w.cell? ⟨b, 1, none⟩ = some (.int .i64 p) := h.cell 1
  have c2 : w.cell? ⟨b, 2, none⟩ = some (.int .i64 e) := h.cell 2
  have f1 := h.free 1
  have f2 := h.free 2
  have hb : b < w.heap.size := h.lt
  have H := Lib.hid h
  clear h
  have key : ∀ (x : ByteArray × Nat × Int) (r : Ending) (w' : World), rdText s p e (howMany d n) = x → r = .returned (.tuple #[.int .i64 (numOf d x.1), .string (textOf d x.1)]) → Rx w' b s x.2.1 x.2.2 → w.grownBy w' (some b) →
      (r = .returned (.tuple #[.int .i64 (numOf d (rdText s p e (howMany d n)).1), .string (textOf d (rdText s p e (howMany d n)).1)]) ∧ Rx w' b s (rdText s p e (howMany d n)).2.1 (rdText s p e (howMany d n)).2.2 ∧ w.grownBy w' (some b)) := by
    intro x r w' hx h1 h2 h3
    rw [hx]
    exact ⟨h1, h2, h3⟩
  have KEY := Lib.hid key
  clear key
  by_cases he : e = 0
  · subst he
    by_cases hd0 : d = 0
    · subst hd0
      by_cases hm : (s.size : Int) - p < 1
      · go_enter Try.func22, Try.ntmps22
        go_wp2
        go_quiet (fail)
        go_wp2
        go_ret2
        refine KEY.out (.empty, p, 5) _ _ (rdText_end s p 1 (by omega) hm) rfl ?_ ?_
        · repeat (first | with_reducible exact H.out | with_reducible refine Rx.alloc ?_ _ | with_reducible refine Rx.drewN ?_ _ | with_reducible refine Rx.pute (f := _) (e := 0) ?_ | refine Rx.putp (p := p) ?_)
        · repeat (first | with_reducible exact only_refl _ _ | with_reducible refine only_drewN ?_ _ | with_reducible refine only_alloc ?_ _ | with_reducible refine only_put ?_ _ _)
      · have hz := rdText_ok s p 1 (by omega)
        have i0 : (0 : Int) < (s.extract p (p + 1)).size := by simp; omega
        have hn : byteOf (s.extract p (p + 1)) = ((s.extract p (p + 1))[0]'(by simp; omega)).toNat := by unfold byteOf; rw [dif_pos]
        have HZ := Lib.hid hz
        have HN := Lib.hid hn
        clear hz hn
        go_enter Try.func22, Try.ntmps22
        go_wp2
        go_quiet (fail)
        go_wp2
        go_quiet (fail)
        go_wp2
        go_ret2
        refine KEY.out _ _ _ HZ.out ?_ (by repeat (first | with_reducible exact H.out | with_reducible refine Rx.alloc ?_ _ | with_reducible refine Rx.drewN ?_ _ | with_reducible refine Rx.pute (f := _) (e := 0) ?_ | refine Rx.putp (p := p) ?_)) (by repeat (first | with_reducible exact only_refl _ _ | with_reducible refine only_drewN ?_ _ | with_reducible refine only_alloc ?_ _ | with_reducible refine only_put ?_ _ _))
        show Ending.returned (.tuple #[.int .i64 (wrap64 _), .string _]) = Ending.returned (.tuple #[.int .i64 (byteOf _), .string .empty])
        rw [w64_byte, HN.out]
        rfl
    · by_cases hd1 : d = 1
      · subst hd1
        by_cases hm : (s.size : Int) - p < 2
        · go_enter Try.func22, Try.ntmps22
          go_wp2
          go_quiet (fail)
          go_wp2
          go_ret2
          refine KEY.out (.empty, p, 5) _ _ (rdText_end s p 2 (by omega) hm) rfl ?_ ?_
          · repeat (first | with_reducible exact H.out | with_reducible refine Rx.alloc ?_ _ | with_reducible refine Rx.drewN ?_ _ | with_reducible refine Rx.pute (f := _) (e := 0) ?_ | refine Rx.putp (p := p) ?_)
          · repeat (first | with_reducible exact only_refl _ _ | with_reducible refine only_drewN ?_ _ | with_reducible refine only_alloc ?_ _ | with_reducible refine only_put ?_ _ _)
        · have hz := rdText_ok s p 2 (by omega)
          have hl : (s.extract p (p + 2)).size = 2 := by simp; omega
          obtain ⟨x, hx⟩ : ∃ x, x = s.extract p (p + 2) := ⟨_, rfl⟩
          rw [← hx] at hz hl
          have j0 : 0 < x.size := by omega
          have j1 : 1 < x.size := by omega
          have i0 : (0 : Int) < x.size := by omega
          have i1 : (1 : Int) < x.size := by omega
          have hn : twoOf x = (x[0].toNat : Int) + (256 : Int) * (x[1].toNat : Int) := by unfold twoOf; rw [dif_pos j1]
          have k0 := x[0].toNat_lt
          have k1 := x[1].toNat_lt
          have hx0 : (x[0].toNat : Int) < 256 := by omega
          have hx1 : (x[1].toNat : Int) < 256 := by omega
          have wb := w64_byte
          have HZ := Lib.hid hz
          have HN := Lib.hid hn
          have hcut : s.extract p (p + 2) = x := hx.symm
          clear hz hn hl k0 k1 hx
          go_enter Try.func22, Try.ntmps22
          go_wp2
          go_quiet (fail)
          go_wp2
          go_quiet (fail)
          go_wp2
          go_quiet (fail)
          go_wp2
          go_ret2
          refine KEY.out _ _ _ HZ.out ?_ (by repeat (first | with_reducible exact H.out | with_reducible refine Rx.alloc ?_ _ | with_reducible refine Rx.drewN ?_ _ | with_reducible refine Rx.pute (f := _) (e := 0) ?_ | refine Rx.putp (p := p) ?_)) (by repeat (first | with_reducible exact only_refl _ _ | with_reducible refine only_drewN ?_ _ | with_reducible refine only_alloc ?_ _ | with_reducible refine only_put ?_ _ _))
          show Ending.returned (.tuple #[.int .i64 _, .string _]) = Ending.returned (.tuple #[.int .i64 (twoOf _), .string .empty])
          rw [HN.out]
          rfl
      · have hk : howMany d n = n := by simp [howMany, hd0, hd1]
        have hq : ∀ x, numOf d x = 0 := fun x => by simp [numOf, hd0, hd1]
        have hr : ∀ x, textOf d x = x := fun x => by simp [textOf, hd0, hd1]
        have HK := Lib.hid hk
        have HQ := Lib.hid hq
        have HR := Lib.hid hr
        clear hk hq hr
        by_cases hn : n < 0
        · go_enter Try.func22, Try.ntmps22
          go_wp2
          go_ret2
          refine KEY.out (.empty, p, 2) _ _ (by rw [HK.out]; exact rdText_neg s p n hn) (by rw [num_empty, text_empty]; rfl) ?_ ?_
          · repeat (first | with_reducible exact H.out | with_reducible refine Rx.alloc ?_ _ | with_reducible refine Rx.drewN ?_ _ | with_reducible refine Rx.pute (f := _) (e := 0) ?_ | refine Rx.putp (p := p) ?_)
          · repeat (first | with_reducible exact only_refl _ _ | with_reducible refine only_drewN ?_ _ | with_reducible refine only_alloc ?_ _ | with_reducible refine only_put ?_ _ _)
        · by_cases hm : (s.size : Int) - p < n
          · go_enter Try.func22, Try.ntmps22
            go_wp2
            go_quiet (fail)
            go_wp2
            go_ret2
            refine KEY.out (.empty, p, 5) _ _ (by rw [HK.out]; exact rdText_end s p n (by omega) hm) (by rw [num_empty, text_empty]; rfl) ?_ ?_
            · repeat (first | with_reducible exact H.out | with_reducible refine Rx.alloc ?_ _ | with_reducible refine Rx.drewN ?_ _ | with_reducible refine Rx.pute (f := _) (e := 0) ?_ | refine Rx.putp (p := p) ?_)
            · repeat (first | with_reducible exact only_refl _ _ | with_reducible refine only_drewN ?_ _ | with_reducible refine only_alloc ?_ _ | with_reducible refine only_put ?_ _ _)
          · obtain ⟨k, rfl⟩ := Int.eq_ofNat_of_zero_le (show 0 ≤ n by omega)
            have hz := rdText_ok s p k (by omega)
            have HZ := Lib.hid hz
            clear hz
            go_enter Try.func22, Try.ntmps22
            go_wp2
            go_quiet (fail)
            go_wp2
            go_quiet (fail)
            go_wp2
            go_ret2
            refine KEY.out (s.extract p (p + k), p + k, 0) _ _ ((congrArg (rdText s p 0) HK.out).trans HZ.out) ?_ (by repeat (first | with_reducible exact H.out | with_reducible refine Rx.alloc ?_ _ | with_reducible refine Rx.drewN ?_ _ | with_reducible refine Rx.pute (f := _) (e := 0) ?_ | refine Rx.putp (p := p) ?_)) (by repeat (first | with_reducible exact only_refl _ _ | with_reducible refine only_drewN ?_ _ | with_reducible refine only_alloc ?_ _ | with_reducible refine only_put ?_ _ _))
            rw [HQ.out, HR.out]
            rfl
  · have he' : (e != 0) = true := by simpa using he
    by_cases hd0 : d = 0
    · subst hd0
      go_enter Try.func22, Try.ntmps22
      go_wp2
      go_ret2
      exact KEY.out (.empty, p, e) _ _ (rdText_err _ _ _ _ he) rfl (H.out.alloc _) (only_alloc (only_refl _ _) _)
    · by_cases hd1 : d = 1
      · subst hd1
        go_enter Try.func22, Try.ntmps22
        go_wp2
        go_ret2
        exact KEY.out (.empty, p, e) _ _ (rdText_err _ _ _ _ he) rfl (H.out.alloc _) (only_alloc (only_refl _ _) _)
      · go_enter Try.func22, Try.ntmps22
        go_wp2
        go_ret2
        exact KEY.out (.empty, p, e) _ _ (rdText_err _ _ _ _ he) (by rw [num_empty, text_empty]; rfl) (H.out.alloc _) (only_alloc (only_refl _ _) _)
end Go.Proofs.Ytblchpaoffdniab
