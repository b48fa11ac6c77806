import Derived.Test.YtiicoabkhponmaaDoorZ01
import Derived.WalkKit
import Derived.Test.YtiicoabkhponmaaDoorRows
import Derived.ProofKit
import Derived.OpenShut
import Derived.WalkLawsBesides
import Derived.WalkSpells
import Derived.BigQuiet
import Derived.Deep.QuietTactic
import Derived.Deep.RegionWith
import Derived.Lib.Hide
import Derived.BigRegion
import Derived.Lib.QuietBelow
set_option linter.all false
/- The memory of package mem: reading and writing bytes. -/
namespace Go.Proofs.YtiicoabkhponmaaDoor
open Go.RowKit Go.Lib
set_option linter.unusedVariables false

section
variable {w w' : World} {B m g : Nat} {l : List UInt8}
theorem row_cell (h : Blk w g 5 (u8Cells l).toArray) {i : Nat} (hi : i < l.length) : w.cell? ⟨g, i, none⟩ = some (.int .u8 ((l[i]).toNat : Int)) := by
  rw [h.cell i]
  simpa using u8Cells_get hi
/-- A byte of the row is written. -/
theorem u8_set (l : List UInt8) (i : Nat) (b : UInt8) : (u8Cells l).toArray.setIfInBounds i (.int .u8 (b.toNat : Int)) = (u8Cells (l.set i b)).toArray := by
  unfold u8Cells
  rw [List.map_set]
  simp
theorem u8_num (q : Int) (h0 : 0 ≤ q) (h1 : q < 256) : ((UInt8.ofNat q.toNat).toNat : Int) = q := by
  have : q.toNat < 256 := by omega
  simp [UInt8.toNat_ofNat', Nat.mod_eq_of_lt this]
  omega
theorem u8_put (h : Blk w g 5 (u8Cells l).toArray) (i : Nat) (q : Int) (h0 : 0 ≤ q) (h1 : q < 256) : Blk (w.setCell ⟨g, i, none⟩ (.int .u8 q)) g 5 (u8Cells (l.set i (UInt8.ofNat q.toNat))).toArray := by
  have := h.put i (.int .u8 ((UInt8.ofNat q.toNat).toNat : Int))
  rw [u8_set, u8_num q h0 h1] at this
  exact this
end

theorem size_info : sizeOf' 0 = 0 := rfl

theorem chk_ok {len : Nat} {at' n : Int} (h : chk len at' n = 0) : 0 ≤ n ∧ 0 ≤ at' ∧ at' + n ≤ len := by
  unfold chk at h
  split at h <;> (try split at h) <;> (try split at h) <;> (try split at h) <;> omega

theorem mget_any (w : World) (B m : Nat) (l : List UInt8) (at' : Int) (h : MemV w B m l) (hl : l.length ≤ 16384) :
    Calls Tryd.prog 60 #[.pointer (some ⟨m, 0, none⟩), .int .i64 at'] w fun r w' =>
      r = .returned (.tuple #[.int .i64 (if chk l.length at' 1 = 0 then ((l.getD at'.toNat 0).toNat : Int) else 0), .int .i64 (chk l.length at' 1)]) ∧ w = w' := by
  obtain ⟨g, hg, hm, hb, hr⟩ := h
  have c0 : w.cell? ⟨m, 0, none⟩ = some (.slice (some ⟨g, 0, none⟩) l.length l.length) := hb.cell 0
  have hck := check_any w m _ _ _ at' 1 c0 hl
  by_cases hz : chk l.length at' 1 = 0
  · have hk := chk_ok hz
    obtain ⟨k, rfl⟩ : ∃ k : Nat, at' = k := ⟨at'.toNat, by omega⟩
    have c1 := row_cell hr (show k < l.length by omega)
    have i1 : (k : Int) < (l.length : Int) := by omega
    have hv : (if chk l.length (k : Int) 1 = 0 then ((l.getD (k : Int).toNat 0).toNat : Int) else 0) = ((l[k]'(by omega)).toNat : Int) := by
      rw [if_pos hz]
      simp [List.getD, show k < l.length by omega]
    rw [hv, hz]
    rw [hz] at hck
    have HCK := Lib.hid hck
    generalize (l[k]'(by omega)) = b at *
    clear hv hz hk hck hb hr
    have HW := w64_byte b
    go_enter Tryd.func60, Tryd.ntmps60
    go_wp2_with (go_at_call 37; refine HCK.out.mono ?_; rintro e w' ⟨rfl, rfl⟩)
    go_ret2
    exact ⟨by simp [HW], rfl⟩
  · rw [if_neg hz]
    obtain ⟨x, hx⟩ : ∃ x, chk l.length at' 1 = x := ⟨_, rfl⟩
    rw [hx] at hck hz ⊢
    have HCK := Lib.hid hck
    clear hck hx
    go_enter Tryd.func60, Tryd.ntmps60
    go_wp2_with (go_at_call 37; refine HCK.out.mono ?_; rintro e w' ⟨rfl, rfl⟩)
    go_ret2
    exact ⟨rfl, rfl⟩

set_option maxHeartbeats 800000 in
theorem set_any (w : World) (B m g : Nat) (l : List UInt8) (at' n : Int) (h : MemG w B m g l) (hl : l.length ≤ 16384) :
    Calls Tryd.prog 62 #[.pointer (some ⟨m, 0, none⟩), .int .i64 at', .int .i64 n] w fun r w' =>
      r = .returned (.int .i64 (chk l.length at' 1)) ∧ MemG w' B m g (if chk l.length at' 1 = 0 then l.set at'.toNat (UInt8.ofNat (n % 256).toNat) else l) ∧ w.grownBy w' (some g) := by
  have HM := Lib.hid h
  obtain ⟨hg, hm, hb, hr⟩ := h
  have c0 : w.cell? ⟨m, 0, none⟩ = some (.slice (some ⟨g, 0, none⟩) l.length l.length) := hb.cell 0
  have hck := check_any w m _ _ _ at' 1 c0 hl
  by_cases hz : chk l.length at' 1 = 0
  · have hk := chk_ok hz
    obtain ⟨k, rfl⟩ : ∃ k : Nat, at' = k := ⟨at'.toNat, by omega⟩
    have c1 := row_cell hr (show k < l.length by omega)
    have f1 := hr.free k
    have i1 : (k : Int) < (l.length : Int) := by omega
    have hne : m ≠ g := hb.differ hr (by decide)
    have fin : MemG (w.setCell ⟨g, k, none⟩ (.int .u8 (IntKind.u8.wrap (n % 256)))).drew B m g (l.set k (UInt8.ofNat (n % 256).toNat)) ∧ w.grownBy (w.setCell ⟨g, k, none⟩ (.int .u8 (IntKind.u8.wrap (n % 256)))).drew (some g) := by
      have hw : IntKind.u8.wrap (n % 256) = n % 256 := by simp [IntKind.wrap_u8] <;> omega
      rw [hw]
      refine ⟨⟨hg, hm, ?_, ?_⟩, only_drewN (only_put (only_refl _ _) _ _) 1⟩
      · have := hb.far (p := ⟨g, k, none⟩) hne (.int .u8 (n % 256))
        have t2 : Blk (w.setCell ⟨g, k, none⟩ (.int .u8 (n % 256))) m 84 #[.slice (some ⟨g, 0, none⟩) l.length l.length] := by simpa using this
        simpa using (show Blk (w.setCell ⟨g, k, none⟩ (.int .u8 (n % 256))).drew m 84 #[.slice (some ⟨g, 0, none⟩) l.length l.length] from t2)
      · exact u8_put hr k _ (by omega) (by omega)
    have e2 : (if (0 : Int) = 0 then l.set (k : Int).toNat (UInt8.ofNat (n % 256).toNat) else l) = l.set k (UInt8.ofNat (n % 256).toNat) := by simp
    rw [hz, e2]
    rw [hz] at hck
    have HCK := Lib.hid hck
    have FIN := Lib.hid fin
    clear hck fin hb hr HM e2 hz
    go_enter Tryd.func62, Tryd.ntmps62
    go_wp2_with (go_at_call 37; refine HCK.out.mono ?_; rintro e w' ⟨rfl, rfl⟩)
    go_region_with (go_at_call 40; refine (low_any _ _).mono ?_; rintro e w' ⟨rfl, rfl⟩)
    all_goals
      go_wp2
      go_ret
      exact ⟨rfl, FIN.out⟩
  · rw [if_neg hz]
    obtain ⟨x, hx⟩ : ∃ x, chk l.length at' 1 = x := ⟨_, rfl⟩
    rw [hx] at hck hz ⊢
    have HCK := Lib.hid hck
    clear hck hx hb hr
    go_enter Tryd.func62, Tryd.ntmps62
    go_wp2_with (go_at_call 37; refine HCK.out.mono ?_; rintro e w' ⟨rfl, rfl⟩)
    go_ret
    exact ⟨rfl, HM.out, only_refl _ _⟩


theorem size_any (w : World) (B m : Nat) (l : List UInt8) (h : MemV w B m l) : Calls Tryd.prog 35 #[.pointer (some ⟨m, 0, none⟩)] w fun r w' => r = .returned (.int .i64 l.length) ∧ w = w' := by
  obtain ⟨g, hg, hm, hb, hr⟩ := h
  have c0 : w.cell? ⟨m, 0, none⟩ = some (.slice (some ⟨g, 0, none⟩) l.length l.length) := hb.cell 0
  clear hb hr
  go_enter Tryd.func35, Tryd.ntmps35
  go_wp2
  go_ret
  exact ⟨rfl, rfl⟩

/-- Two bytes of a memory. -/
def two8 (l : List UInt8) (k : Nat) : Int := ((l.getD k 0).toNat : Int) + 256 * ((l.getD (k + 1) 0).toNat : Int)

set_option maxHeartbeats 800000 in
theorem get2_any (w : World) (B m : Nat) (l : List UInt8) (at' : Int) (h : MemV w B m l) (hl : l.length ≤ 16384) :
    Calls Tryd.prog 59 #[.pointer (some ⟨m, 0, none⟩), .int .i64 at'] w fun r w' =>
      r = .returned (.tuple #[.int .i64 (if chk l.length at' 2 = 0 then two8 l at'.toNat else 0), .int .i64 (chk l.length at' 2)]) ∧ ∃ q, w.drewN q = w' := by
  obtain ⟨g, hg, hm, hb, hr⟩ := h
  have c0 : w.cell? ⟨m, 0, none⟩ = some (.slice (some ⟨g, 0, none⟩) l.length l.length) := hb.cell 0
  have hck := check_any w m _ _ _ at' 2 c0 hl
  by_cases hz : chk l.length at' 2 = 0
  · have hk := chk_ok hz
    obtain ⟨k, rfl⟩ : ∃ k : Nat, at' = k := ⟨at'.toNat, by omega⟩
    have c1 := row_cell hr (show k < l.length by omega)
    have c2 := row_cell hr (show k + 1 < l.length by omega)
    have i1 : (k : Int) < (l.length : Int) := by omega
    have i2 : (k : Int) + 1 < (l.length : Int) := by omega
    have hv : (if chk l.length (k : Int) 2 = 0 then two8 l (k : Int).toNat else 0) = ((l[k]'(by omega)).toNat : Int) % 256 + 256 * (((l[k + 1]'(by omega)).toNat : Int) % 256) := by
      rw [if_pos hz]
      have e1 := (l[k]'(by omega)).toNat_lt
      have e2 := (l[k + 1]'(by omega)).toNat_lt
      simp [two8, List.getD, show k < l.length by omega, show k + 1 < l.length by omega]
      omega
    rw [hv, hz]
    rw [hz] at hck
    have HCK := Lib.hid hck
    generalize (l[k]'(by omega)) = b at *
    generalize (l[k + 1]'(by omega)) = c at *
    clear hv hz hk hck hb hr
    have W1 := Lib.hid (w64_byte b)
    have W2 := Lib.hid (w64_byte c)
    go_enter Tryd.func59, Tryd.ntmps59
    go_wp2_with (go_at_call 37; refine HCK.out.mono ?_; rintro e w' ⟨rfl, rfl⟩)
    go_quiet ((go_at_call 39; exact quiet_same (two_any _ _ _)))
    go_wp2
    go_ret2
    exact ⟨by simp [W1.out, W2.out], _, rfl⟩
  · rw [if_neg hz]
    obtain ⟨x, hx⟩ : ∃ x, chk l.length at' 2 = x := ⟨_, rfl⟩
    rw [hx] at hck hz ⊢
    have HCK := Lib.hid hck
    clear hck hx hb hr
    go_enter Tryd.func59, Tryd.ntmps59
    go_wp2_with (go_at_call 37; refine HCK.out.mono ?_; rintro e w' ⟨rfl, rfl⟩)
    go_ret2
    exact ⟨rfl, 0, rfl⟩
end Go.Proofs.YtiicoabkhponmaaDoor

/- The memory of package mem: writing and reading texts; a memory by itself. -/
namespace Go.Proofs.YtiicoabkhponmaaDoor
open Go.RowKit Go.Lib
set_option linter.unusedVariables false

/-- Bytes laid over others, from place k on. -/
def over (l : List UInt8) (k : Nat) (bs : List UInt8) : List UInt8 := l.take k ++ bs ++ l.drop (k + bs.length)
theorem over_len {l bs : List UInt8} {k : Nat} (h : k + bs.length ≤ l.length) : (over l k bs).length = l.length := by simp [over]; omega
theorem over_nil (l : List UInt8) (k : Nat) : over l k [] = l := by simp [over]

/-- copy of a string's bytes into a row that is known whole. -/
theorem wpList_copy_str {P : Program} {w : World} {ops : Array Oper} {rest : List Oper} {o : Oper} {a : Act} {Q : Exit → Act → World → Prop} (hgd : o.guard = none) (d s : Operand) (dT sT : TypeId)
    (ho : o.op = .call { callee := .builtin .copy, args := #[d, s], argTypes := #[dT, sT] }) (elem : TypeId) (hu : P.underlying dT = some (.slice elem)) (hsz : (P.info? elem).map (·.size) = some 1)
    (g off dLen dCap : Nat) (t : ByteArray) (hd : a.eval d = .slice (some ⟨g, off, none⟩) dLen dCap) (hs : a.eval s = .string t)
    (cur : Array Value) (e : TypeId) (hg : w.heap[g]? = some (.cells cur e (0, 0))) (hle : t.size ≤ dLen) (hfit : off + t.size ≤ cur.size)
    (h : wpList P ops Q rest (a.put o.dst (goInt t.size)) (w.setRow g (cur.toList.take off ++ Go.Lib.byteCells t.data.toList ++ cur.toList.drop (off + t.size)).toArray)) : wpList P ops Q (o :: rest) a w := by
  refine wpList_plain hgd fun K hK => ?_
  have hrun := run_copy_row_string (P := P) w dT sT o.type elem g off dLen dCap t cur e hu hsz hg hle hfit
  unfold Oper.wp
  simp [execOp, ho, resolve, invoke, builtin, hd, hs, hrun, Result.andThen]
  simp at h
  exact hK _ _ h
theorem wpList_copy_empty {P : Program} {w : World} {ops : Array Oper} {rest : List Oper} {o : Oper} {a : Act} {Q : Exit → Act → World → Prop} (hgd : o.guard = none) (d s : Operand) (dT sT : TypeId)
    (ho : o.op = .call { callee := .builtin .copy, args := #[d, s], argTypes := #[dT, sT] }) (elem : TypeId) (hu : P.underlying dT = some (.slice elem)) (hsz : ((P.info? elem).map (·.size)).isSome = true)
    (dp : Option Addr) (dLen dCap : Nat) (t : ByteArray) (hd : a.eval d = .slice dp dLen dCap) (hs : a.eval s = .string t) (h0 : t.size = 0)
    (h : wpList P ops Q rest (a.put o.dst (goInt 0)) w) : wpList P ops Q (o :: rest) a w := by
  refine wpList_plain hgd fun K hK => ?_
  have hrun := run_copy_empty_string (P := P) w dT sT o.type elem dp dLen dCap t hu hsz h0
  unfold Oper.wp
  simp [execOp, ho, resolve, invoke, builtin, hd, hs, hrun, Result.andThen]
  exact hK _ _ h

theorem over_cells (l bs : List UInt8) (k : Nat) : (u8Cells l).take k ++ Go.Lib.byteCells bs ++ (u8Cells l).drop (k + bs.length) = u8Cells (over l k bs) := by
  simp [u8Cells, over, Go.Lib.byteCells, List.map_take, List.map_drop]
theorem blk_over {w : World} {g : Nat} {l : List UInt8} (h : Blk w g 5 (u8Cells l).toArray) (k : Nat) (t : ByteArray) :
    Blk (w.setRow g ((u8Cells l).toArray.toList.take k ++ Go.Lib.byteCells t.data.toList ++ (u8Cells l).toArray.toList.drop (k + t.size)).toArray) g 5 (u8Cells (over l k t.data.toList)).toArray := by
  have e : t.size = t.data.toList.length := by rw [Array.length_toList]; rfl
  show (World.setRow _ _ _).heap[g]? = _
  rw [setRow_heap w g _ _ _ _ h, e]
  simp only [over_cells]
theorem blk_far {w : World} {g m : Nat} {t : TypeId} {cs xs : Array Value} (h : Blk w m t cs) (hne : m ≠ g) : Blk (w.setRow g xs) m t cs := (setRow_other w g m xs (by omega)).trans h

theorem only_setRow (w : World) (g : Nat) (xs : Array Value) : w.grownBy (w.setRow g xs) (some g) :=
  ⟨rfl, rfl, rfl, by simp [World.setRow], fun k _ hk => setRow_other w g k xs (fun e => hk (by rw [e]))⟩
set_option maxRecDepth 100000 in
set_option maxHeartbeats 1600000 in
theorem mput_any (w : World) (B m g : Nat) (l : List UInt8) (at' : Int) (t : ByteArray) (h : MemG w B m g l) (hl : l.length ≤ 16384) (ht : t.size ≤ 1000000) :
    Calls Tryd.prog 20 #[.pointer (some ⟨m, 0, none⟩), .int .i64 at', .string t] w fun r w' =>
      r = .returned (.int .i64 (chk l.length at' t.size)) ∧ MemG w' B m g (if chk l.length at' t.size = 0 then over l at'.toNat t.data.toList else l) ∧ w.grownBy w' (some g) := by
  have HM := Lib.hid h
  obtain ⟨hg, hm, hb, hr⟩ := h
  have c0 : w.cell? ⟨m, 0, none⟩ = some (.slice (some ⟨g, 0, none⟩) l.length l.length) := hb.cell 0
  have hck := check_any w m _ _ _ at' t.size c0 hl
  by_cases hz : chk l.length at' t.size = 0
  · have hk := chk_ok hz
    obtain ⟨k, rfl⟩ : ∃ k : Nat, at' = k := ⟨at'.toNat, by omega⟩
    have hne : m ≠ g := hb.differ hr (by decide)
    have e2 : (if (0 : Int) = 0 then over l (k : Int).toNat t.data.toList else l) = over l k t.data.toList := by simp
    rw [hz, e2]
    rw [hz] at hck
    have HCK := Lib.hid hck
    by_cases h0 : t.size = 0
    · have e3 : over l k t.data.toList = l := by
        have : t.data.toList = [] := by
          apply List.eq_nil_of_length_eq_zero
          rw [Array.length_toList]
          exact h0
        rw [this, over_nil]
      rw [e3]
      have H0 := Lib.hid h0
      clear hck hb hr e2 hz e3 h0
      by_cases hkl : k = l.length
      · subst hkl
        go_enter Tryd.func20, Tryd.ntmps20
        go_wp2_with (first | (go_at_call 37; refine HCK.out.mono ?_; rintro e w' ⟨rfl, rfl⟩) | (refine wpList_copy_empty (o := ⟨some 23, _, _, _, _, _⟩) rfl (.tmp 21) (.tmp 22) 81 9 rfl 5 Tryd.underlying81 (by kernel_rfl) _ _ _ t rfl rfl H0.out ?_))
        go_ret
        exact ⟨rfl, HM.out, only_refl _ _⟩
      · have hlt : k < l.length := by omega
        clear hkl
        go_enter Tryd.func20, Tryd.ntmps20
        go_wp2_with (first | (go_at_call 37; refine HCK.out.mono ?_; rintro e w' ⟨rfl, rfl⟩) | (refine wpList_copy_empty (o := ⟨some 23, _, _, _, _, _⟩) rfl (.tmp 21) (.tmp 22) 81 9 rfl 5 Tryd.underlying81 (by kernel_rfl) _ _ _ t rfl rfl H0.out ?_))
        go_ret
        exact ⟨rfl, HM.out, only_refl _ _⟩
    · have hlt : k < l.length := by omega
      have fin : MemG (w.setRow g ((u8Cells l).toArray.toList.take k ++ Go.Lib.byteCells t.data.toList ++ (u8Cells l).toArray.toList.drop (k + t.size)).toArray) B m g (over l k t.data.toList) ∧ w.grownBy (w.setRow g ((u8Cells l).toArray.toList.take k ++ Go.Lib.byteCells t.data.toList ++ (u8Cells l).toArray.toList.drop (k + t.size)).toArray) (some g) := by
        have e : t.size = t.data.toList.length := by rw [Array.length_toList]; rfl
        have hlen := over_len (l := l) (bs := t.data.toList) (k := k) (by omega)
        refine ⟨⟨hg, hm, ?_, blk_over hr k t⟩, only_setRow _ _ _⟩
        rw [hlen]
        exact blk_far hb hne
      have FIN := Lib.hid fin
      have HR := Lib.hid hr
      have HS : Hid (k + t.size ≤ (u8Cells l).toArray.size) := by unfold Hid; simp [u8Cells_len]; omega
      have HLE : Hid (t.size ≤ l.length - k) := by unfold Hid; omega
      have hkt : (k : Int) + (t.size : Int) ≤ (l.length : Int) := by omega
      clear hck hb hr e2 hz hk HM fin
      go_enter Tryd.func20, Tryd.ntmps20
      go_wp2_with (first | (go_at_call 37; refine HCK.out.mono ?_; rintro e w' ⟨rfl, rfl⟩) | (refine wpList_copy_str (o := ⟨some 23, _, _, _, _, _⟩) rfl (.tmp 21) (.tmp 22) 81 9 rfl 5 Tryd.underlying81 (by kernel_rfl) g k (l.length - k) (l.length - k) t rfl rfl _ _ HR.out HLE.out HS.out ?_; generalize w.setRow g ((u8Cells l).toArray.toList.take k ++ Go.Lib.byteCells t.data.toList ++ (u8Cells l).toArray.toList.drop (k + t.size)).toArray = w2 at *))
      go_ret
      exact ⟨rfl, FIN.out⟩
  · rw [if_neg hz]
    obtain ⟨x, hx⟩ : ∃ x, chk l.length at' t.size = x := ⟨_, rfl⟩
    rw [hx] at hck hz ⊢
    have HCK := Lib.hid hck
    clear hck hx hb hr
    go_enter Tryd.func20, Tryd.ntmps20
    go_wp2_with (go_at_call 37; refine HCK.out.mono ?_; rintro e w' ⟨rfl, rfl⟩)
    go_ret
    exact ⟨rfl, HM.out, only_refl _ _⟩
end Go.Proofs.YtiicoabkhponmaaDoor

/- Plain facts on sorting pairs by exchanges within a range: no program is spoken of here. -/
namespace Go.Proofs.YtiicoabkhponmaaDoor.So

abbrev P2 := Int × Int
def cmpI (x y : Int) : Int := if x < y then -1 else if y < x then 1 else 0
def cmpS (a b : P2) : Int := if a.1 = b.1 then cmpI a.2 b.2 else cmpI a.1 b.1
def lt (a b : P2) : Prop := a.1 < b.1 ∨ a.1 = b.1 ∧ a.2 < b.2
theorem cmpS_neg (a b : P2) : cmpS a b < 0 ↔ lt a b := by
  unfold cmpS cmpI lt
  split <;> split <;> (try split) <;> omega
theorem lt_irrefl (a : P2) : ¬ lt a a := by unfold lt; omega
theorem lt_trans {a b c : P2} (h : lt a b) (k : lt b c) : lt a c := by unfold lt at *; omega
/-- Not above: the order that the sort leaves. -/
def le (a b : P2) : Prop := ¬ lt b a
theorem le_refl (a : P2) : le a a := lt_irrefl a
theorem le_trans {a b c : P2} (h : le a b) (k : le b c) : le a c := by unfold le lt at *; omega
theorem le_of_lt {a b : P2} (h : lt a b) : le a b := by unfold le lt at *; omega
theorem le_antisymm {a b : P2} (h : le a b) (k : le b a) : a = b := by
  unfold le lt at *
  apply Prod.ext <;> omega

/-- The row d with a and b in the places i. -/
def upd (d : Nat → P2) (i : Nat) (p : P2) : Nat → P2 := fun k => if k = i then p else d k
def swp (d : Nat → P2) (i j : Nat) : Nat → P2 := upd (upd d i (d j)) j (d i)
theorem swp_at (d : Nat → P2) (i j k : Nat) : swp d i j k = if k = j then d i else if k = i then d j else d k := by simp [swp, upd]

def Sorted (d : Nat → P2) (a b : Nat) : Prop := ∀ p q, a ≤ p → p < q → q < b → le (d p) (d q)
/-- d' is d with what stands from a on, up to b, in another order. -/
def Perm (a b : Nat) (d d' : Nat → P2) : Prop := ∃ s t : Nat → Nat, (∀ k, t (s k) = k) ∧ (∀ k, s (t k) = k) ∧ (∀ k, ¬ (a ≤ k ∧ k < b) → s k = k) ∧ (∀ k, d' k = d (s k))

theorem Perm.refl (a b : Nat) (d : Nat → P2) : Perm a b d d := ⟨id, id, fun _ => rfl, fun _ => rfl, fun _ _ => rfl, fun _ => rfl⟩
theorem Perm.trans {a b : Nat} {d e f : Nat → P2} (h : Perm a b d e) (k : Perm a b e f) : Perm a b d f := by
  obtain ⟨s, t, h1, h2, h3, h4⟩ := h
  obtain ⟨u, v, k1, k2, k3, k4⟩ := k
  refine ⟨fun x => s (u x), fun x => v (t x), fun x => by simp [h1, k1], fun x => by simp [k2, h2], fun x hx => by simp [k3 x hx, h3 x hx], fun x => by rw [k4, h4]⟩
theorem Perm.mono {a b a' b' : Nat} {d e : Nat → P2} (h : Perm a b d e) (ha : a' ≤ a) (hb : b ≤ b') : Perm a' b' d e := by
  obtain ⟨s, t, h1, h2, h3, h4⟩ := h
  exact ⟨s, t, h1, h2, fun k hk => h3 k (by omega), h4⟩
theorem Perm.swp {a b i j : Nat} (d : Nat → P2) (hi : a ≤ i ∧ i < b) (hj : a ≤ j ∧ j < b) : Perm a b d (swp d i j) := by
  refine ⟨fun k => if k = j then i else if k = i then j else k, fun k => if k = j then i else if k = i then j else k, ?_, ?_, ?_, ?_⟩
  · intro k; dsimp only; split <;> (try split) <;> (try split) <;> (try split) <;> omega
  · intro k; dsimp only; split <;> (try split) <;> (try split) <;> (try split) <;> omega
  · intro k hk; dsimp only; rw [if_neg (by omega), if_neg (by omega)]
  · intro k
    rw [swp_at]
    dsimp only
    split
    · rfl
    · split <;> rfl
theorem Perm.out {a b : Nat} {d e : Nat → P2} (h : Perm a b d e) {k : Nat} (hk : ¬ (a ≤ k ∧ k < b)) : e k = d k := by
  obtain ⟨s, t, h1, h2, h3, h4⟩ := h
  rw [h4, h3 k hk]
theorem Perm.into {a b : Nat} {d e : Nat → P2} (h : Perm a b d e) {k : Nat} (hk : a ≤ k ∧ k < b) : ∃ j, a ≤ j ∧ j < b ∧ e k = d j := by
  obtain ⟨s, t, h1, h2, h3, h4⟩ := h
  refine ⟨s k, ?_⟩
  by_cases hs : a ≤ s k ∧ s k < b
  · exact ⟨hs.1, hs.2, h4 k⟩
  · have := h3 (s k) hs
    have e1 := h1 k
    have e2 := h1 (s k)
    rw [this] at e2
    rw [e1] at e2
    omega

/-- Within an insertion: all but the one at j stand in order, and those behind it are not below it. -/
def Ins (d : Nat → P2) (a i j : Nat) : Prop := (∀ p q, a ≤ p → p < q → q ≤ i → p ≠ j → q ≠ j → le (d p) (d q)) ∧ (∀ q, j < q → q ≤ i → le (d j) (d q))
theorem Ins.start {d : Nat → P2} {a i : Nat} (h : Sorted d a i) : Ins d a i i := ⟨fun p q h1 h2 h3 _ h5 => h p q h1 h2 (by omega), fun q h1 h2 => by omega⟩
theorem Ins.step {d : Nat → P2} {a i j : Nat} (h : Ins d a i j) (ha : a < j) (hj : j ≤ i) (hl : lt (d j) (d (j - 1))) : Ins (swp d j (j - 1)) a i (j - 1) := by
  refine ⟨fun p q h1 h2 h3 h4 h5 => ?_, fun q h1 h2 => ?_⟩
  · rw [swp_at, swp_at, if_neg h4, if_neg h5]
    by_cases hp : p = j
    · rw [if_pos hp, if_neg (by omega)]
      subst hp
      exact h.1 (p - 1) q (by omega) (by omega) h3 (by omega) (by omega)
    · rw [if_neg hp]
      by_cases hq : q = j
      · rw [if_pos hq]
        exact h.1 p (j - 1) h1 (by omega) (by omega) hp (by omega)
      · rw [if_neg hq]
        exact h.1 p q h1 h2 h3 hp hq
  · rw [swp_at, swp_at, if_pos rfl, if_neg (by omega)]
    by_cases hq : q = j
    · rw [if_pos hq]
      exact le_of_lt hl
    · rw [if_neg hq]
      exact h.2 q (by omega) h2
theorem Ins.done {d : Nat → P2} {a i j : Nat} (h : Ins d a i j) (hj : j ≤ i) (haj : a ≤ j) (hl : j = a ∨ ¬ lt (d j) (d (j - 1))) : Sorted d a (i + 1) := by
  intro p q h1 h2 h3
  by_cases hp : p = j
  · subst hp
    exact h.2 q h2 (by omega)
  · by_cases hq : q = j
    · subst hq
      rcases hl with hl | hl
      · omega
      · by_cases hp1 : p = q - 1
        · subst hp1; exact hl
        · exact le_trans (h.1 p (q - 1) h1 (by omega) (by omega) hp (by omega)) hl
    · exact h.1 p q h1 h2 (by omega) hp hq
theorem Sorted.one (d : Nat → P2) (a : Nat) : Sorted d a (a + 1) := fun p q h1 h2 h3 => by omega
theorem Sorted.out {d e : Nat → P2} {a b : Nat} (h : Sorted d a b) (he : ∀ k, a ≤ k → k < b → e k = d k) : Sorted e a b := fun p q h1 h2 h3 => by
  rw [he p h1 (by omega), he q (by omega) h3]
  exact h p q h1 h2 h3
end Go.Proofs.YtiicoabkhponmaaDoor.So

/- A row of spans in memory; the comparison that spans are sorted by. -/
namespace Go.Proofs.YtiicoabkhponmaaDoor
open Go.RowKit Go.Lib
set_option linter.unusedVariables false

/-- A span as1 a value. -/
abbrev spv (p : Int × Int) : Value := .agg #[.int .i64 p.1, .int .i64 p.2]

/-- Block g holds, as1 its first n elements, the spans d. -/
def RowS (w : World) (g n cap : Nat) (d : Nat → Int × Int) : Prop :=
  ∃ cur : Array Value, w.heap[g]? = some (.cells cur 49 (0, 0)) ∧ (n ≤ cap ∧ cap ≤ maxLen) ∧ cur.size = cap * 2 ∧ ∀ i, i < n → cur[i * 2]? = some (.int .i64 (d i).1) ∧ cur[i * 2 + 1]? = some (.int .i64 (d i).2)

section
variable {w w' : World} {g n cap : Nat} {d : Nat → Int × Int}
theorem RowS.fst (h : RowS w g n cap d) {i : Nat} (hi : i < n) : w.cell? ⟨g, i * 2, none⟩ = some (.int .i64 (d i).1) := by
  obtain ⟨cur, h1, _, _, h4⟩ := h
  simp [World.cell?, h1, (h4 i hi).1]
theorem RowS.snd (h : RowS w g n cap d) {i : Nat} (hi : i < n) : w.cell? ⟨g, i * 2 + 1, none⟩ = some (.int .i64 (d i).2) := by
  obtain ⟨cur, h1, _, _, h4⟩ := h
  simp [World.cell?, h1, (h4 i hi).2]
theorem RowS.free (h : RowS w g n cap d) (i : Nat) : w.frozen? ⟨g, i, none⟩ = false := by
  obtain ⟨cur, h1, _⟩ := h
  simp [World.frozen?, h1]
theorem RowS.lt (h : RowS w g n cap d) : g < w.heap.size := by
  obtain ⟨cur, h1, _⟩ := h
  exact lt_of_block h1
theorem RowS.only {row : Option Nat} (h : RowS w g n cap d) (hb : w.grownBy w' row) (hg : some g ≠ row) : RowS w' g n cap d := by
  have hl := h.lt
  obtain ⟨cur, h1, h2⟩ := h
  exact ⟨cur, (hb.block g hl hg).trans h1, h2⟩
theorem RowS.below (h : RowS w g n cap d) (hb : Below w.heap.size w w') : RowS w' g n cap d := by
  have hl := h.lt
  obtain ⟨cur, h1, h2⟩ := h
  exact ⟨cur, (hb.block g hl).trans h1, h2⟩
theorem RowS.drewN (h : RowS w g n cap d) (k : Nat) : RowS (w.drewN k) g n cap d := h
theorem RowS.put (h : RowS w g n cap d) {i : Nat} (hi : i < n) (p : Int × Int) : RowS ((w.setCell ⟨g, i * 2, none⟩ (.int .i64 p.1)).setCell ⟨g, i * 2 + 1, none⟩ (.int .i64 p.2)) g n cap (So.upd d i p) := by
  obtain ⟨cur, h1, h2, h3, h4⟩ := h
  refine ⟨(cur.setIfInBounds (i * 2) (.int .i64 p.1)).setIfInBounds (i * 2 + 1) (.int .i64 p.2), ?_, h2, by simpa using h3, fun k hk => ?_⟩
  · simp [World.setCell, Array.getElem?_modify, h1]
  · obtain ⟨e1, e2⟩ := h4 k hk
    have s1 : k * 2 + 1 < cur.size := (Array.getElem?_eq_some_iff.1 e2).1
    by_cases hki : k = i
    · subst hki
      simp [Array.getElem?_setIfInBounds, So.upd, s1, show k * 2 < cur.size from by omega]
    · have n1 : ¬ i * 2 + 1 = k * 2 := by omega
      have n2 : ¬ i * 2 = k * 2 := by omega
      have n3 : ¬ i * 2 + 1 = k * 2 + 1 := by omega
      have n4 : ¬ i * 2 = k * 2 + 1 := by omega
      simp [Array.getElem?_setIfInBounds, So.upd, hki, n1, n2, n3, n4, e1, e2]
end

end Go.Proofs.YtiicoabkhponmaaDoor

/- The library's insertion sort at spans: its contract. -/
namespace Go.Proofs.YtiicoabkhponmaaDoor
open Go.RowKit Go.Lib Go.Sort
set_option linter.unusedVariables false

/-- The row from a on, up to b, has been put in order. -/
def SortsTo (g n cap a b : Nat) (d : Nat → Int × Int) (w w' : World) : Prop := ∃ d', So.Perm a b d d' ∧ So.Sorted d' a b ∧ RowS w' g n cap d' ∧ w.grownBy w' (some g)

end Go.Proofs.YtiicoabkhponmaaDoor
