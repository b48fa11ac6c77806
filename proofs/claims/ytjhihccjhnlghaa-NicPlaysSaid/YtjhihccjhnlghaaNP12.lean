/- The document's ports: rows of five cells; whose port is where. -/
import Derived.Test.YtjhihccjhnlghaaNP11
namespace Go.Proofs.Ytjhihccjhnlghaa
open Go.RowKit Go.Lib
set_option linter.unusedVariables false

/-- A port of the document: owner, address, limit, the slice of its frames, drops. -/
abbrev Rp := Int × Int × Int × Value × Int
def rpL (r : Rp) : List Value := [.int .i64 r.1, .int .i64 r.2.1, .int .i64 r.2.2.1, r.2.2.2.1, .int .i64 r.2.2.2.2]
theorem rpL_one (r : Rp) (h : r.2.2.2.1.oneCell' = true) : ∀ u ∈ rpL r, u.oneCell' = true := by
  intro u hu
  simp [rpL] at hu
  rcases hu with rfl | rfl | rfl | rfl | rfl
  all_goals first | rfl | exact h
def rpCells (n : Nat) (R : Nat → Rp) : List Value := (List.range n).flatMap fun k => rpL (R k)
theorem rpCells_succ (n : Nat) (R : Nat → Rp) : rpCells (n + 1) R = rpCells n R ++ rpL (R n) := by simp [rpCells, List.range_succ]
theorem rpCells_len (n : Nat) (R : Nat → Rp) : (rpCells n R).length = n * 5 := by
  induction n with
  | zero => rfl
  | succ n ih => rw [rpCells_succ, List.length_append, ih]; simp [rpL]; omega
theorem rpCells_at {n : Nat} (R : Nat → Rp) {i j : Nat} (hi : i < n) (hj : j < 5) : (rpCells n R)[i * 5 + j]? = (rpL (R i))[j]? := by
  induction n with
  | zero => omega
  | succ n ih =>
    rw [rpCells_succ]
    by_cases h : i < n
    · rw [List.getElem?_append_left (by rw [rpCells_len]; omega)]
      exact ih h
    · obtain rfl : i = n := by omega
      rw [List.getElem?_append_right (by rw [rpCells_len]; omega), rpCells_len]
      congr 1
      omega
theorem rport_info : (Try.prog.info? 52).map (fun i => (i.zero, i.size, i.bytes)) = some (some (.agg #[.int .i64 0, .int .i64 0, .int .i64 0, .slice none 0 0, .int .i64 0]), 5, 56) := by kernel_rfl
/-- Rows of the document's ports, of the call's own. -/
def OwnRP (w : World) (B : Nat) (v : Value) (n : Nat) (R : Nat → Rp) : Prop := w.ownsRow B 52 5 v n (rpCells n R)
/-- .. as they are read. -/
def PortsV (w : World) (A : Option Addr) (n : Nat) (R : Nat → Rp) : Prop :=
  0 < n → ∃ g, A = some ⟨g, 0, none⟩ ∧ g < w.heap.size ∧ ∀ i, i < n → w.cell? ⟨g, i * 5, none⟩ = some (.int .i64 (R i).1) ∧ w.cell? ⟨g, i * 5 + 1, none⟩ = some (.int .i64 (R i).2.1) ∧ w.cell? ⟨g, i * 5 + 2, none⟩ = some (.int .i64 (R i).2.2.1) ∧ w.cell? ⟨g, i * 5 + 3, none⟩ = some (R i).2.2.2.1 ∧ w.cell? ⟨g, i * 5 + 4, none⟩ = some (.int .i64 (R i).2.2.2.2)
theorem PortsV.below {w w' : World} {A : Option Addr} {n : Nat} {R : Nat → Rp} (h : PortsV w A n R) (hb : Below w.heap.size w w') : PortsV w' A n R := fun hp => by
  obtain ⟨g, e, hg, hc⟩ := h hp
  exact ⟨g, e, Nat.lt_of_lt_of_le hg hb.size, fun i hi => ⟨(hb.cell (p := ⟨g, _, none⟩) hg).trans (hc i hi).1, (hb.cell (p := ⟨g, _, none⟩) hg).trans (hc i hi).2.1, (hb.cell (p := ⟨g, _, none⟩) hg).trans (hc i hi).2.2.1, (hb.cell (p := ⟨g, _, none⟩) hg).trans (hc i hi).2.2.2.1, (hb.cell (p := ⟨g, _, none⟩) hg).trans (hc i hi).2.2.2.2⟩⟩
theorem OwnRP.ports {w : World} {B n c : Nat} {A : Option Addr} {R : Nat → Rp} (h : OwnRP w B (.slice A n c) n R) : PortsV w A n R := fun hp => by
  have h' : w.ownsRow B 52 5 (.slice A n c) n (rpCells n R) := h
  rcases h'.2 with ⟨e, h0⟩ | ⟨g, cap, cur, e, hB, hg, _⟩
  · exact absurd hp (by omega)
  · injection e with e1 e2 e3
    subst e1
    refine ⟨g, rfl, lt_of_block hg, fun i hi => ?_⟩
    have hc : ∀ j, j < 5 → w.cell? ⟨g, i * 5 + j, none⟩ = (rpL (R i))[j]? := fun j hj => by
      have := h'.cellAt (i * 5 + j) (by omega)
      rw [this, rpCells_at R hi hj]
    exact ⟨hc 0 (by omega), hc 1 (by omega), hc 2 (by omega), hc 3 (by omega), hc 4 (by omega)⟩

/-- The place of an owner's port among the first n, from k on. -/
def ownP (R : Nat → Rp) (n : Nat) (o : Int) : Option Nat := (List.range n).find? fun i => decide ((R i).1 = o)
def ownI (R : Nat → Rp) (n : Nat) (o : Int) : Int := match ownP R n o with | some i => i | none => -1
theorem ownI_at {R : Nat → Rp} {n i : Nat} {o : Int} (hi : i < n) (h : (R i).1 = o) (hb : ∀ k, k < i → (R k).1 ≠ o) : ownI R n o = i := by
  have : ownP R n o = some i := by
    unfold ownP
    rw [List.find?_range_eq_some]
    exact ⟨by simp [h], by simp [hi], fun j hj => by simpa using hb j hj⟩
  rw [ownI, this]
theorem ownI_none {R : Nat → Rp} {n : Nat} {o : Int} (h : ∀ k, k < n → (R k).1 ≠ o) : ownI R n o = -1 := by
  have : ownP R n o = none := List.find?_eq_none.2 (by intro x hx; simpa using h x (by simpa using hx))
  rw [ownI, this]
theorem rowner_any (A : Option Addr) (n cap : Nat) (R : Nat → Rp) (o : Int) (w : World) (hst : PortsV w A n R) (hn : n ≤ 1000) : Calls Try.prog 15 #[.slice A n cap, .int .i64 o] w fun e w' => e = .returned (.int .i64 (ownI R n o)) ∧ w = w' := by
  have HST := Lib.hid hst
  clear hst
  go_enter Try.func15, Try.ntmps15
  go_wp2
  go_loop [5] (fun x => ∃ i : Nat, x = .int .i64 i ∧ i ≤ n ∧ Hid (∀ k, k < i → (R k).1 ≠ o)) (fun x => n - (intOf x).toNat)
  case atStart => exact ⟨0, rfl, by omega, Lib.hid (by intro k hk; omega)⟩
  case round =>
    obtain ⟨i, rfl, hi, HS⟩ := hrel
    by_cases hin : i < n
    · obtain ⟨g, rfl, hg, hc⟩ := HST.out (by omega)
      obtain ⟨c0, _, _, _, _⟩ := hc i hin
      have i1 : (i : Int) < (n : Int) := by omega
      clear hc
      by_cases he : (R i).1 = o
      · have hv : ownI R n o = i := ownI_at hin he HS.out
        have HV := Lib.hid hv
        clear hv
        go_wp2
        go_ret
        exact ⟨ret_int HV.out.symm, rfl⟩
      · have HE := Lib.hid he
        go_wp2
        go_round
        case rel =>
          refine ⟨i + 1, by go_num, by omega, Lib.hid fun k hk => ?_⟩
          by_cases hki : k < i
          · exact HS.out k hki
          · obtain rfl : k = i := by omega
            exact HE.out
        case measure => simp [intOf]; omega
    · have hv : ownI R n o = -1 := ownI_none fun k hk => HS.out k (by omega)
      have HV := Lib.hid hv
      have i1 : ¬ (i : Int) < (n : Int) := by omega
      clear hv
      go_wp2
      go_ret
      exact ⟨ret_int HV.out.symm, rfl⟩
end Go.Proofs.Ytjhihccjhnlghaa
