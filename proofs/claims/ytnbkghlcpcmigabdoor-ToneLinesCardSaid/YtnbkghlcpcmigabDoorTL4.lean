/- Line: the symbols of a text, byte by byte. -/
import Derived.Test.YtnbkghlcpcmigabDoorTL3
import Derived.Laws.OwnMore
import Derived.Laws.AppendOwnNone
namespace Go.Proofs.YtnbkghlcpcmigabDoor
open Go.RowKit Go.Lib
set_option linter.unusedVariables false

/-- The four symbols of a byte; those of bytes. -/
def four (n : Nat) : List Value := [Sy (n / 64), Sy (n / 16), Sy (n / 4), Sy n]
def lnC (l : List UInt8) : List Value := l.flatMap fun x => four x.toNat
theorem lnC_len (l : List UInt8) : (lnC l).length = 4 * l.length := by
  induction l with
  | nil => rfl
  | cons x l ih => simp [lnC, four] at ih ⊢; omega
theorem lnC_snoc (l : List UInt8) (x : UInt8) : lnC (l ++ [x]) = lnC l ++ four x.toNat := by simp [lnC]
theorem four_one (n : Nat) : ∀ u ∈ four n, u.oneCell' = true := by
  intro u hu
  simp only [four, List.mem_cons, List.not_mem_nil, or_false] at hu
  rcases hu with rfl | rfl | rfl | rfl <;> rfl

theorem cx_info : (Tryd.prog.info? 26).map (fun i => (i.zero, i.size, i.bytes)) = some (some (Cx 0 0), 1, 16) := by kernel_rfl
theorem info_cx : ∃ i, Tryd.prog.info? 26 = some i ∧ i.zero = some (Cx 0 0) ∧ i.size = 1 ∧ i.bytes = 16 := by
  have h := cx_info
  cases hi : Tryd.prog.info? 26 with
  | none => rw [hi] at h; cases h
  | some i =>
    rw [hi] at h
    simp only [Option.map_some, Option.some.injEq, Prod.mk.injEq] at h
    exact ⟨i, rfl, h.1, h.2.1, h.2.2⟩

/-- Symbols of the call's own. -/
def OwnC (w : World) (B : Nat) (v : Value) (l : List UInt8) : Prop := w.ownsRow B 26 1 v (4 * l.length) (lnC l)
theorem OwnC.form {w : World} {B : Nat} {v : Value} {l : List UInt8} (h : OwnC w B v l) : ∃ A c, v = .slice A (4 * l.length) c := by
  have h' : w.ownsRow B 26 1 v (4 * l.length) (lnC l) := h
  rcases h'.2 with ⟨rfl, h0⟩ | ⟨g, cap, cur, rfl, _⟩
  · have hl : l.length = 0 := by
      have := lnC_len l
      rw [h0] at this
      simp at this
      omega
    exact ⟨none, 0, by rw [hl]⟩
  · exact ⟨_, cap, rfl⟩
theorem OwnC.below {w w' : World} {B : Nat} {v : Value} {l : List UInt8} (h : OwnC w B v l) (hb : w.grownBy w' none) : OwnC w' B v l :=
  World.ownsRow.kept h hb (by cases hv : v.ownBlock <;> simp)
theorem OwnC.blk {w : World} {B : Nat} {v : Value} {l : List UInt8} (h : OwnC w B v l) : ∀ k, v.ownBlock = some k → B ≤ k := fun k hk => (World.ownsRow.lt h k hk).1

/-- append of a byte's symbols. -/
theorem wpList_append_four {w : World} {ops : Array Oper} {rest : List Oper} {o : Oper} {a : Act} {Q : Exit → Act → World → Prop} (hgd : o.guard = none) (s x : Operand)
    (ho : o.op = .call { callee := .builtin .append, args := #[s, x], argTypes := #[23, 23] })
    (B : Nat) (v : Value) (l : List UInt8) (hs : a.eval s = v) (hV : OwnC w B v l) (ad : Addr) (c : Nat) (y : UInt8) (hx : a.eval x = .slice (some ad) 4 c) (hsp : ∀ j u, (four y.toNat)[j]? = some u → w.cell? (ad.add j) = some u) (hn : l.length ≤ 1000000) (hB : B ≤ w.heap.size)
    (h : ∀ v' w', OwnC w' B v' (l ++ [y]) → Below B w w' → wpList Tryd.prog ops Q rest (a.put o.dst v') w') : wpList Tryd.prog ops Q (o :: rest) a w := by
  obtain ⟨i0, hi0, hz0, hz1, hz2⟩ := info_cx
  refine wpList_append_own w hgd s x 23 ho B 26 i0 _ 1 16 Tryd.underlying23 hi0 hz0 hz1 hz2 rfl (by decide) v (4 * l.length) (lnC l) hs hV ad 4 c (four y.toNat) hx rfl hsp (four_one _) (by unfold maxLen; omega) (by omega) hB ?_
  intro v' w' hown hg hnil
  refine h v' w' ?_ (below_of_only hg hB (fun k hk => hV.blk k hk))
  show w'.ownsRow B 26 1 v' (4 * (l ++ [y]).length) (lnC (l ++ [y]))
  rw [List.length_append, lnC_snoc, Nat.mul_add]
  exact hown

theorem four_src {w : World} {g n : Nat} {t : TypeId} (h : Blk w g t (tc n 4)) : ∀ j u, (four n)[j]? = some u → w.cell? ((⟨g, 0, none⟩ : Addr).add j) = some u := by
  intro j u hj
  have ha : (⟨g, 0, none⟩ : Addr).add j = ⟨g, j, none⟩ := by unfold Addr.add; split <;> simp_all
  rw [ha, h.cell j]
  have e : (tc n 4)[j]? = (four n)[j]? := by simp [tc, four]
  rw [e, hj]

attribute [local go_sem] store_cx

theorem grown_of_below {w w' : World} (h : Below w.heap.size w w') : w.grownBy w' none := ⟨h.os, h.tape, h.output, h.size, fun i hi _ => h.block i hi⟩
theorem take_succ_byte (s : ByteArray) (i : Nat) (h : i < s.size) : s.data.toList.take (i + 1) = s.data.toList.take i ++ [s[i]] := by
  have hl : i < s.data.toList.length := by simpa using h
  rw [List.take_add_one, List.getElem?_eq_getElem hl]
  rfl

set_option maxRecDepth 100000 in
set_option maxHeartbeats 1600000 in
theorem line_any (s : ByteArray) (w : World) (hG : Gr w) (hs : s.size ≤ 300) : Calls Tryd.prog 5 #[.string s] w fun e w' => ∃ v, e = .returned v ∧ OwnC w' w.heap.size v s.data.toList ∧ Below w.heap.size w w' := by
  obtain ⟨i0, hi0, hz0, hz1, hz2⟩ := info_cx
  obtain ⟨w1, hr, hown, hg⟩ := run_makeSlice_owned (P := Tryd.prog) w w.heap.size 23 26 i0 _ 1 Tryd.underlying23 hi0 hz0 hz1 .i64 .i64 (4 * s.size) (by omega) (by rw [hz2]; omega) (by unfold maxLen; omega) (Nat.le_refl _)
  have e4 : ((4 * s.size : Nat) : Int) = 4 * (s.size : Int) := by omega
  rw [e4] at hr
  clear e4
  have HG := Lib.hid hG
  have HO := Lib.hid hown
  have HB1 := Lib.hid (below_of_only hg (Nat.le_refl w.heap.size) (fun k hk => by cases hk))
  clear hG hown hg
  go_enter Tryd.func5, Tryd.ntmps5
  go_wp2_with (simp only [hr])
  go_loopw [3, 12] (fun v x wr => ∃ i : Nat, x = .int .i64 i ∧ i ≤ s.size ∧ OwnC wr w.heap.size v (s.data.toList.take i) ∧ Below w.heap.size w wr) (fun _ x _ => s.size - (intOf x).toNat)
  case atStart => exact ⟨0, rfl, by omega, HO.out, HB1.out⟩
  case round =>
    obtain ⟨i, rfl, hi, hv, hb⟩ := hrel
    obtain ⟨Ao, co, rfl⟩ := hv.form
    generalize hvv : Value.slice Ao (4 * (s.data.toList.take i).length) co = v at hv ⊢
    have HV := Lib.hid hv
    have HB := Lib.hid hb
    clear hv hb
    by_cases h8 : i < s.size
    · have hw : wrap64 (s[i].toNat : Int) = (s[i].toNat : Int) := w64_byte _
      have hx : s.data.toList.take (i + 1) = s.data.toList.take i ++ [s[i]] := take_succ_byte s i h8
      have HX := Lib.hid hx
      have hbl := s[i].toNat_lt
      have hT := tones_any s[i].toNat (by omega) wr (HG.out.below HB.out HG.out.pos)
      simp only [tc] at hT
      have HT := Lib.hid hT
      clear hx hT hbl
      have hi' : (i : Int) < (s.size : Int) := by omega
      have hlen : (s.data.toList.take i).length ≤ 1000000 := by simp; omega
      have HLEN := Lib.hid hlen
      clear hlen hvv
      go_wp2_with (first | (go_at_call 9; with_reducible refine HT.out.mono ?_; rintro e w2 ⟨rfl, b2⟩; have HB2 := Lib.hid b2; clear b2) | (at_builtin; refine wpList_append_four (o := ⟨some 22, _, _, _, _, _⟩) rfl (.tmp 20) (.tmp 21) rfl w.heap.size v _ rfl (World.ownsRow.alloc (w := w2) (HV.out.below (grown_of_below HB2.out)) _) ⟨w2.heap.size, 0, none⟩ 4 s[i] rfl (four_src (Blk.new w2 31 (tc s[i].toNat 4))) HLEN.out (by have := HB.out.size; have := HB2.out.size; simp; omega) ?_; intro v1 w3 hv1 hb3; rw [← HX.out] at hv1; have HV1 := Lib.hid hv1; have HB3 := Lib.hid (((HB.out.trans (HB2.out.mono HB.out.size)).alloc (Nat.le_trans HB.out.size HB2.out.size) (.cells (tc s[i].toNat 4) 31)).trans hb3); clear hv1 hb3))
      exact ⟨⟨i + 1, by go_num, by omega, HV1.out, HB3.out⟩, by simp [intOf]; omega⟩
    · obtain rfl : i = s.size := by omega
      have e : s.data.toList.take s.size = s.data.toList := List.take_of_length_le (by simp)
      have HV2 := Lib.hid (show OwnC wr w.heap.size _ s.data.toList by rw [← e]; exact HV.out)
      clear e HV
      go_wp2
      go_ret
      exact ⟨_, rfl, HV2.out, HB.out⟩
end Go.Proofs.YtnbkghlcpcmigabDoor
