/- The memory of package mem: reading and writing bytes. -/
import Derived.Test.YthneljkaieckeaaMM1
namespace Go.Proofs.Ythneljkaieckeaa
open Go.RowKit Go.Lib
set_option linter.unusedVariables false

section
variable {w w' : World} {B m g : Nat} {l : List UInt8}
theorem row_cell (h : Blk w g 5 (u8Cells l).toArray) {i : Nat} (hi : i < l.length) : w.cell? ⟨g, i, none⟩ = some (.int .u8 ((l[i]).toNat : Int)) := by
  rw [h.cell i]
  simpa using u8Cells_get hi
/-- A byte of the row is written. -/
theorem u8_set (l : List UInt8) (i : Nat) (b : UInt8) : (u8Cells l).toArray.setIfInBounds i (.int .u8 (b.toNat : Int)) = (u8Cells (l.set i b)).toArray := by
  unfold u8Cells
  rw [List.map_set]
  simp
theorem u8_num (q : Int) (h0 : 0 ≤ q) (h1 : q < 256) : ((UInt8.ofNat q.toNat).toNat : Int) = q := by
  have : q.toNat < 256 := by omega
  simp [UInt8.toNat_ofNat', Nat.mod_eq_of_lt this]
  omega
theorem u8_put (h : Blk w g 5 (u8Cells l).toArray) (i : Nat) (q : Int) (h0 : 0 ≤ q) (h1 : q < 256) : Blk (w.setCell ⟨g, i, none⟩ (.int .u8 q)) g 5 (u8Cells (l.set i (UInt8.ofNat q.toNat))).toArray := by
  have := h.put i (.int .u8 ((UInt8.ofNat q.toNat).toNat : Int))
  rw [u8_set, u8_num q h0 h1] at this
  exact this
end

theorem size_info : sizeOf' 0 = 0 := rfl

theorem chk_ok {len : Nat} {at' n : Int} (h : chk len at' n = 0) : 0 ≤ n ∧ 0 ≤ at' ∧ at' + n ≤ len := by
  unfold chk at h
  split at h <;> (try split at h) <;> (try split at h) <;> (try split at h) <;> omega

theorem get_any (w : World) (B m : Nat) (l : List UInt8) (at' : Int) (h : MemV w B m l) (hl : l.length ≤ 16384) :
    Calls Try.prog 22 #[.pointer (some ⟨m, 0, none⟩), .int .i64 at'] w fun r w' =>
      r = .returned (.tuple #[.int .i64 (if chk l.length at' 1 = 0 then ((l.getD at'.toNat 0).toNat : Int) else 0), .int .i64 (chk l.length at' 1)]) ∧ w = w' := by
  obtain ⟨g, hg, hm, hb, hr⟩ := h
  have c0 : w.cell? ⟨m, 0, none⟩ = some (.slice (some ⟨g, 0, none⟩) l.length l.length) := hb.cell 0
  have hck := check_any w m _ _ _ at' 1 c0 hl
  by_cases hz : chk l.length at' 1 = 0
  · have hk := chk_ok hz
    obtain ⟨k, rfl⟩ : ∃ k : Nat, at' = k := ⟨at'.toNat, by omega⟩
    have c1 := row_cell hr (show k < l.length by omega)
    have i1 : (k : Int) < (l.length : Int) := by omega
    have hv : (if chk l.length (k : Int) 1 = 0 then ((l.getD (k : Int).toNat 0).toNat : Int) else 0) = ((l[k]'(by omega)).toNat : Int) := by
      rw [if_pos hz]
      simp [List.getD, show k < l.length by omega]
    rw [hv, hz]
    rw [hz] at hck
    have HCK := Lib.hid hck
    generalize (l[k]'(by omega)) = b at *
    clear hv hz hk hck hb hr
    have HW := w64_byte b
    go_enter Try.func22, Try.ntmps22
    go_wp2_with (go_at_call 27; refine HCK.out.mono ?_; rintro e w' ⟨rfl, rfl⟩)
    go_ret2
    exact ⟨by simp [HW], rfl⟩
  · rw [if_neg hz]
    obtain ⟨x, hx⟩ : ∃ x, chk l.length at' 1 = x := ⟨_, rfl⟩
    rw [hx] at hck hz ⊢
    have HCK := Lib.hid hck
    clear hck hx
    go_enter Try.func22, Try.ntmps22
    go_wp2_with (go_at_call 27; refine HCK.out.mono ?_; rintro e w' ⟨rfl, rfl⟩)
    go_ret2
    exact ⟨rfl, rfl⟩

set_option maxHeartbeats 800000 in
theorem set_any (w : World) (B m g : Nat) (l : List UInt8) (at' n : Int) (h : MemG w B m g l) (hl : l.length ≤ 16384) :
    Calls Try.prog 20 #[.pointer (some ⟨m, 0, none⟩), .int .i64 at', .int .i64 n] w fun r w' =>
      r = .returned (.int .i64 (chk l.length at' 1)) ∧ MemG w' B m g (if chk l.length at' 1 = 0 then l.set at'.toNat (UInt8.ofNat (n % 256).toNat) else l) ∧ w.grownBy w' (some g) := by
  have HM := Lib.hid h
  obtain ⟨hg, hm, hb, hr⟩ := h
  have c0 : w.cell? ⟨m, 0, none⟩ = some (.slice (some ⟨g, 0, none⟩) l.length l.length) := hb.cell 0
  have hck := check_any w m _ _ _ at' 1 c0 hl
  by_cases hz : chk l.length at' 1 = 0
  · have hk := chk_ok hz
    obtain ⟨k, rfl⟩ : ∃ k : Nat, at' = k := ⟨at'.toNat, by omega⟩
    have c1 := row_cell hr (show k < l.length by omega)
    have f1 := hr.free k
    have i1 : (k : Int) < (l.length : Int) := by omega
    have hne : m ≠ g := hb.differ hr (by decide)
    have fin : MemG (w.setCell ⟨g, k, none⟩ (.int .u8 (IntKind.u8.wrap (n % 256)))).drew B m g (l.set k (UInt8.ofNat (n % 256).toNat)) ∧ w.grownBy (w.setCell ⟨g, k, none⟩ (.int .u8 (IntKind.u8.wrap (n % 256)))).drew (some g) := by
      have hw : IntKind.u8.wrap (n % 256) = n % 256 := by simp [IntKind.wrap_u8] <;> omega
      rw [hw]
      refine ⟨⟨hg, hm, ?_, ?_⟩, only_drewN (only_put (only_refl _ _) _ _) 1⟩
      · have := hb.far (p := ⟨g, k, none⟩) hne (.int .u8 (n % 256))
        have t2 : Blk (w.setCell ⟨g, k, none⟩ (.int .u8 (n % 256))) m 56 #[.slice (some ⟨g, 0, none⟩) l.length l.length] := by simpa using this
        simpa using (show Blk (w.setCell ⟨g, k, none⟩ (.int .u8 (n % 256))).drew m 56 #[.slice (some ⟨g, 0, none⟩) l.length l.length] from t2)
      · exact u8_put hr k _ (by omega) (by omega)
    have e2 : (if (0 : Int) = 0 then l.set (k : Int).toNat (UInt8.ofNat (n % 256).toNat) else l) = l.set k (UInt8.ofNat (n % 256).toNat) := by simp
    rw [hz, e2]
    rw [hz] at hck
    have HCK := Lib.hid hck
    have FIN := Lib.hid fin
    clear hck fin hb hr HM e2 hz
    go_enter Try.func20, Try.ntmps20
    go_wp2_with (go_at_call 27; refine HCK.out.mono ?_; rintro e w' ⟨rfl, rfl⟩)
    go_region_with (go_at_call 33; refine (low_any _ _).mono ?_; rintro e w' ⟨rfl, rfl⟩)
    all_goals
      go_wp2
      go_ret
      exact ⟨rfl, FIN.out⟩
  · rw [if_neg hz]
    obtain ⟨x, hx⟩ : ∃ x, chk l.length at' 1 = x := ⟨_, rfl⟩
    rw [hx] at hck hz ⊢
    have HCK := Lib.hid hck
    clear hck hx hb hr
    go_enter Try.func20, Try.ntmps20
    go_wp2_with (go_at_call 27; refine HCK.out.mono ?_; rintro e w' ⟨rfl, rfl⟩)
    go_ret
    exact ⟨rfl, HM.out, only_refl _ _⟩


theorem size_any (w : World) (B m : Nat) (l : List UInt8) (h : MemV w B m l) : Calls Try.prog 11 #[.pointer (some ⟨m, 0, none⟩)] w fun r w' => r = .returned (.int .i64 l.length) ∧ w = w' := by
  obtain ⟨g, hg, hm, hb, hr⟩ := h
  have c0 : w.cell? ⟨m, 0, none⟩ = some (.slice (some ⟨g, 0, none⟩) l.length l.length) := hb.cell 0
  clear hb hr
  go_enter Try.func11, Try.ntmps11
  go_wp2
  go_ret
  exact ⟨rfl, rfl⟩

/-- Two bytes of a memory. -/
def two8 (l : List UInt8) (k : Nat) : Int := ((l.getD k 0).toNat : Int) + 256 * ((l.getD (k + 1) 0).toNat : Int)

set_option maxHeartbeats 800000 in
theorem get2_any (w : World) (B m : Nat) (l : List UInt8) (at' : Int) (h : MemV w B m l) (hl : l.length ≤ 16384) :
    Calls Try.prog 23 #[.pointer (some ⟨m, 0, none⟩), .int .i64 at'] w fun r w' =>
      r = .returned (.tuple #[.int .i64 (if chk l.length at' 2 = 0 then two8 l at'.toNat else 0), .int .i64 (chk l.length at' 2)]) ∧ ∃ q, w.drewN q = w' := by
  obtain ⟨g, hg, hm, hb, hr⟩ := h
  have c0 : w.cell? ⟨m, 0, none⟩ = some (.slice (some ⟨g, 0, none⟩) l.length l.length) := hb.cell 0
  have hck := check_any w m _ _ _ at' 2 c0 hl
  by_cases hz : chk l.length at' 2 = 0
  · have hk := chk_ok hz
    obtain ⟨k, rfl⟩ : ∃ k : Nat, at' = k := ⟨at'.toNat, by omega⟩
    have c1 := row_cell hr (show k < l.length by omega)
    have c2 := row_cell hr (show k + 1 < l.length by omega)
    have i1 : (k : Int) < (l.length : Int) := by omega
    have i2 : (k : Int) + 1 < (l.length : Int) := by omega
    have hv : (if chk l.length (k : Int) 2 = 0 then two8 l (k : Int).toNat else 0) = ((l[k]'(by omega)).toNat : Int) % 256 + 256 * (((l[k + 1]'(by omega)).toNat : Int) % 256) := by
      rw [if_pos hz]
      have e1 := (l[k]'(by omega)).toNat_lt
      have e2 := (l[k + 1]'(by omega)).toNat_lt
      simp [two8, List.getD, show k < l.length by omega, show k + 1 < l.length by omega]
      omega
    rw [hv, hz]
    rw [hz] at hck
    have HCK := Lib.hid hck
    generalize (l[k]'(by omega)) = b at *
    generalize (l[k + 1]'(by omega)) = c at *
    clear hv hz hk hck hb hr
    have W1 := Lib.hid (w64_byte b)
    have W2 := Lib.hid (w64_byte c)
    go_enter Try.func23, Try.ntmps23
    go_wp2_with (go_at_call 27; refine HCK.out.mono ?_; rintro e w' ⟨rfl, rfl⟩)
    go_quiet ((go_at_call 34; exact quiet_same (two_any _ _ _)))
    go_wp2
    go_ret2
    exact ⟨by simp [W1.out, W2.out], _, rfl⟩
  · rw [if_neg hz]
    obtain ⟨x, hx⟩ : ∃ x, chk l.length at' 2 = x := ⟨_, rfl⟩
    rw [hx] at hck hz ⊢
    have HCK := Lib.hid hck
    clear hck hx hb hr
    go_enter Try.func23, Try.ntmps23
    go_wp2_with (go_at_call 27; refine HCK.out.mono ?_; rintro e w' ⟨rfl, rfl⟩)
    go_ret2
    exact ⟨rfl, 0, rfl⟩
end Go.Proofs.Ythneljkaieckeaa
