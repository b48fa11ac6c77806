/- The memory of package mem: writing and reading texts; a memory by itself. -/
import Derived.Test.YthneljkaieckeaaMM2
namespace Go.Proofs.Ythneljkaieckeaa
open Go.RowKit Go.Lib
set_option linter.unusedVariables false

/-- Bytes laid over others, from place k on. -/
def over (l : List UInt8) (k : Nat) (bs : List UInt8) : List UInt8 := l.take k ++ bs ++ l.drop (k + bs.length)
theorem over_len {l bs : List UInt8} {k : Nat} (h : k + bs.length ≤ l.length) : (over l k bs).length = l.length := by simp [over]; omega
theorem over_nil (l : List UInt8) (k : Nat) : over l k [] = l := by simp [over]

/-- copy of a string's bytes into a row that is known whole. -/
theorem wpList_copy_str {P : Program} {w : World} {ops : Array Oper} {rest : List Oper} {o : Oper} {a : Act} {Q : Exit → Act → World → Prop} (hgd : o.guard = none) (d s : Operand) (dT sT : TypeId)
    (ho : o.op = .call { callee := .builtin .copy, args := #[d, s], argTypes := #[dT, sT] }) (elem : TypeId) (hu : P.underlying dT = some (.slice elem)) (hsz : (P.info? elem).map (·.size) = some 1)
    (g off dLen dCap : Nat) (t : ByteArray) (hd : a.eval d = .slice (some ⟨g, off, none⟩) dLen dCap) (hs : a.eval s = .string t)
    (cur : Array Value) (e : TypeId) (hg : w.heap[g]? = some (.cells cur e (0, 0))) (hle : t.size ≤ dLen) (hfit : off + t.size ≤ cur.size)
    (h : wpList P ops Q rest (a.put o.dst (goInt t.size)) (w.setRow g (cur.toList.take off ++ Go.Lib.byteCells t.data.toList ++ cur.toList.drop (off + t.size)).toArray)) : wpList P ops Q (o :: rest) a w := by
  refine wpList_plain hgd fun K hK => ?_
  have hrun := run_copy_row_string (P := P) w dT sT o.type elem g off dLen dCap t cur e hu hsz hg hle hfit
  unfold Oper.wp
  simp [execOp, ho, resolve, invoke, builtin, hd, hs, hrun, Result.andThen]
  simp at h
  exact hK _ _ h
theorem wpList_copy_empty {P : Program} {w : World} {ops : Array Oper} {rest : List Oper} {o : Oper} {a : Act} {Q : Exit → Act → World → Prop} (hgd : o.guard = none) (d s : Operand) (dT sT : TypeId)
    (ho : o.op = .call { callee := .builtin .copy, args := #[d, s], argTypes := #[dT, sT] }) (elem : TypeId) (hu : P.underlying dT = some (.slice elem)) (hsz : ((P.info? elem).map (·.size)).isSome = true)
    (dp : Option Addr) (dLen dCap : Nat) (t : ByteArray) (hd : a.eval d = .slice dp dLen dCap) (hs : a.eval s = .string t) (h0 : t.size = 0)
    (h : wpList P ops Q rest (a.put o.dst (goInt 0)) w) : wpList P ops Q (o :: rest) a w := by
  refine wpList_plain hgd fun K hK => ?_
  have hrun := run_copy_empty_string (P := P) w dT sT o.type elem dp dLen dCap t hu hsz h0
  unfold Oper.wp
  simp [execOp, ho, resolve, invoke, builtin, hd, hs, hrun, Result.andThen]
  exact hK _ _ h

theorem over_cells (l bs : List UInt8) (k : Nat) : (u8Cells l).take k ++ Go.Lib.byteCells bs ++ (u8Cells l).drop (k + bs.length) = u8Cells (over l k bs) := by
  simp [u8Cells, over, Go.Lib.byteCells, List.map_take, List.map_drop]
theorem blk_over {w : World} {g : Nat} {l : List UInt8} (h : Blk w g 5 (u8Cells l).toArray) (k : Nat) (t : ByteArray) :
    Blk (w.setRow g ((u8Cells l).toArray.toList.take k ++ Go.Lib.byteCells t.data.toList ++ (u8Cells l).toArray.toList.drop (k + t.size)).toArray) g 5 (u8Cells (over l k t.data.toList)).toArray := by
  have e : t.size = t.data.toList.length := by rw [Array.length_toList]; rfl
  show (World.setRow _ _ _).heap[g]? = _
  rw [setRow_heap w g _ _ _ _ h, e]
  simp only [over_cells]
theorem blk_far {w : World} {g m : Nat} {t : TypeId} {cs xs : Array Value} (h : Blk w m t cs) (hne : m ≠ g) : Blk (w.setRow g xs) m t cs := (setRow_other w g m xs (by omega)).trans h

theorem only_setRow (w : World) (g : Nat) (xs : Array Value) : w.grownBy (w.setRow g xs) (some g) :=
  ⟨rfl, rfl, rfl, by simp [World.setRow], fun k _ hk => setRow_other w g k xs (fun e => hk (by rw [e]))⟩
set_option maxHeartbeats 1600000 in
theorem mput_any (w : World) (B m g : Nat) (l : List UInt8) (at' : Int) (t : ByteArray) (h : MemG w B m g l) (hl : l.length ≤ 16384) (ht : t.size ≤ 1000000) :
    Calls Try.prog 25 #[.pointer (some ⟨m, 0, none⟩), .int .i64 at', .string t] w fun r w' =>
      r = .returned (.int .i64 (chk l.length at' t.size)) ∧ MemG w' B m g (if chk l.length at' t.size = 0 then over l at'.toNat t.data.toList else l) ∧ w.grownBy w' (some g) := by
  have HM := Lib.hid h
  obtain ⟨hg, hm, hb, hr⟩ := h
  have c0 : w.cell? ⟨m, 0, none⟩ = some (.slice (some ⟨g, 0, none⟩) l.length l.length) := hb.cell 0
  have hck := check_any w m _ _ _ at' t.size c0 hl
  by_cases hz : chk l.length at' t.size = 0
  · have hk := chk_ok hz
    obtain ⟨k, rfl⟩ : ∃ k : Nat, at' = k := ⟨at'.toNat, by omega⟩
    have hne : m ≠ g := hb.differ hr (by decide)
    have e2 : (if (0 : Int) = 0 then over l (k : Int).toNat t.data.toList else l) = over l k t.data.toList := by simp
    rw [hz, e2]
    rw [hz] at hck
    have HCK := Lib.hid hck
    by_cases h0 : t.size = 0
    · have e3 : over l k t.data.toList = l := by
        have : t.data.toList = [] := by
          apply List.eq_nil_of_length_eq_zero
          rw [Array.length_toList]
          exact h0
        rw [this, over_nil]
      rw [e3]
      have H0 := Lib.hid h0
      clear hck hb hr e2 hz e3 h0
      by_cases hkl : k = l.length
      · subst hkl
        go_enter Try.func25, Try.ntmps25
        go_wp2_with (first | (go_at_call 27; refine HCK.out.mono ?_; rintro e w' ⟨rfl, rfl⟩) | (refine wpList_copy_empty (o := ⟨some 23, _, _, _, _, _⟩) rfl (.tmp 21) (.tmp 22) 54 9 rfl 5 Try.underlying54 (by kernel_rfl) _ _ _ t rfl rfl H0.out ?_))
        go_ret
        exact ⟨rfl, HM.out, only_refl _ _⟩
      · have hlt : k < l.length := by omega
        clear hkl
        go_enter Try.func25, Try.ntmps25
        go_wp2_with (first | (go_at_call 27; refine HCK.out.mono ?_; rintro e w' ⟨rfl, rfl⟩) | (refine wpList_copy_empty (o := ⟨some 23, _, _, _, _, _⟩) rfl (.tmp 21) (.tmp 22) 54 9 rfl 5 Try.underlying54 (by kernel_rfl) _ _ _ t rfl rfl H0.out ?_))
        go_ret
        exact ⟨rfl, HM.out, only_refl _ _⟩
    · have hlt : k < l.length := by omega
      have fin : MemG (w.setRow g ((u8Cells l).toArray.toList.take k ++ Go.Lib.byteCells t.data.toList ++ (u8Cells l).toArray.toList.drop (k + t.size)).toArray) B m g (over l k t.data.toList) ∧ w.grownBy (w.setRow g ((u8Cells l).toArray.toList.take k ++ Go.Lib.byteCells t.data.toList ++ (u8Cells l).toArray.toList.drop (k + t.size)).toArray) (some g) := by
        have e : t.size = t.data.toList.length := by rw [Array.length_toList]; rfl
        have hlen := over_len (l := l) (bs := t.data.toList) (k := k) (by omega)
        refine ⟨⟨hg, hm, ?_, blk_over hr k t⟩, only_setRow _ _ _⟩
        rw [hlen]
        exact blk_far hb hne
      have FIN := Lib.hid fin
      have HR := Lib.hid hr
      have HS : Hid (k + t.size ≤ (u8Cells l).toArray.size) := by unfold Hid; simp [u8Cells_len]; omega
      have HLE : Hid (t.size ≤ l.length - k) := by unfold Hid; omega
      have hkt : (k : Int) + (t.size : Int) ≤ (l.length : Int) := by omega
      clear hck hb hr e2 hz hk HM fin
      go_enter Try.func25, Try.ntmps25
      go_wp2_with (first | (go_at_call 27; refine HCK.out.mono ?_; rintro e w' ⟨rfl, rfl⟩) | (refine wpList_copy_str (o := ⟨some 23, _, _, _, _, _⟩) rfl (.tmp 21) (.tmp 22) 54 9 rfl 5 Try.underlying54 (by kernel_rfl) g k (l.length - k) (l.length - k) t rfl rfl _ _ HR.out HLE.out HS.out ?_; generalize w.setRow g ((u8Cells l).toArray.toList.take k ++ Go.Lib.byteCells t.data.toList ++ (u8Cells l).toArray.toList.drop (k + t.size)).toArray = w2 at *))
      go_ret
      exact ⟨rfl, FIN.out⟩
  · rw [if_neg hz]
    obtain ⟨x, hx⟩ : ∃ x, chk l.length at' t.size = x := ⟨_, rfl⟩
    rw [hx] at hck hz ⊢
    have HCK := Lib.hid hck
    clear hck hx hb hr
    go_enter Try.func25, Try.ntmps25
    go_wp2_with (go_at_call 27; refine HCK.out.mono ?_; rintro e w' ⟨rfl, rfl⟩)
    go_ret
    exact ⟨rfl, HM.out, only_refl _ _⟩
end Go.Proofs.Ythneljkaieckeaa
