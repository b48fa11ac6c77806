/- Package asm: names that wait for their places; two bytes put into the program. -/
import Derived.Test.YtgjpjmolfdiahaaDoorAX21
import Derived.Laws.IdiomCopy
namespace Go.Proofs.YtgjpjmolfdiahaaDoor
open Go.RowKit Go.Lib
set_option linter.unusedVariables false
set_option maxRecDepth 8000

theorem Am.row_set1 {w : World} {g off n c : Nat} {xs : List Value} (h : RowZ 1 w (.slice (some ⟨g, off, none⟩) n c) n xs) (i : Nat) (hi : i < n) (u : Value) : RowZ 1 (w.setCell ⟨g, off + i, none⟩ u) (.slice (some ⟨g, off, none⟩) n c) n (xs.set i u) := by
  have hl := h.1
  rcases h.2 with ⟨h0, _⟩ | ⟨g', off', cap', h1, h2, h3, h4, h5, hc⟩
  · cases h0
  · injection h1 with e1 e2 e3
    injection e1 with e1
    injection e1 with e1 e2
    subst e1 e2 e3
    refine ⟨by simpa using hl, .inr ⟨g, off, c, rfl, h2, h3, by simpa using h4, fun j hj => ?_, fun j v hv => ?_⟩⟩
    · rw [World.frozen?_setCell]
      refine ⟨?_, (h5 j hj).2⟩
      by_cases e : i = j
      · subst e
        obtain ⟨y, hy⟩ := Option.isSome_iff_exists.1 (h5 i hj).1
        rw [World.cell?_setCell_same _ _ _ hy]
        rfl
      · rw [World.cell?_setCell_other _ _ _ _ (by intro q; injection q with _ q2; omega)]
        exact (h5 j hj).1
    · by_cases e : i = j
      · subst e
        have hix : i < xs.length := by omega
        obtain ⟨y, hy⟩ := Option.isSome_iff_exists.1 (h5 i (by omega)).1
        rw [World.cell?_setCell_same _ _ _ hy]
        simp [hix] at hv
        rw [hv]
      · rw [World.cell?_setCell_other _ _ _ _ (by intro q; injection q with _ q2; omega)]
        rw [List.getElem?_set_ne e] at hv
        exact hc j v hv
theorem Am.byteCells_eq (l : List UInt8) : Go.Lib.byteCells l = byteCells l := rfl
theorem Am.run_copy_str {P : Program} (w : World) (dT sT ty elem : TypeId) (g o dLen dCap : Nat) (s : ByteArray) (hu : P.underlying dT = some (.slice elem)) (hs : (P.info? elem).map (·.size) = some 1) (hle : s.size ≤ dLen)
    (hc : ∀ j, j < s.size → (w.cell? ⟨g, o + j, none⟩).isSome = true) (hf : ∀ j, j < s.size → w.frozen? ⟨g, o + j, none⟩ = false) :
    (Builtin.copy_ #[dT, sT] ty #[.slice (some ⟨g, o, none⟩) dLen dCap, .string s]).run P w = .ok (goInt s.size) (w.setCells g o (Go.Lib.byteCells s.data.toList)) := by
  have hlen : (Go.Lib.byteCells s.data.toList).length = s.size := by rw [Go.Lib.byteCells_length, ← Go.Lib.size_eq]
  have hst := run_storeCells_cells (P := P) g o (Go.Lib.byteCells s.data.toList) 0 w (fun j hj => by rw [Nat.add_zero]; exact hc j (by omega)) (fun j hj => by rw [Nat.add_zero]; exact hf j (by omega)) (by rw [Am.byteCells_eq]; exact Am.bytes_one _)
  have hmin : Nat.min s.size dLen = s.size := Nat.min_eq_left hle
  have htk : List.take s.size (List.map (fun b : UInt8 => Value.int IntKind.u8 (b.toNat : Int)) s.data.toList) = Go.Lib.byteCells s.data.toList := by
    rw [List.take_of_length_le (by rw [List.length_map, ← Go.Lib.size_eq]; exact Nat.le_refl _)]
    rfl
  simp only [Nat.add_zero] at hst
  cases hq : P.info? elem with
  | none => simp [hq] at hs
  | some i =>
    simp [Builtin.copy_, run_underlying hu, Builtin.lenOf, Builtin.firstCells, sizeOf, typeInfo, hq, hmin]
    rw [htk, hst]
    simp [Result.andThen]
/-- Two bytes put into the program, in its own row. -/
theorem Am.Rr.copy2 {w : World} {b ln : Nat} {st : Am.St} {pA : Option Addr} {pc : Nat} {lv wv : Value} {m : Nat} (h : Am.Rr w b ln st (.slice pA st.pr.length pc) lv wv m) (q a : Nat) (hq : q + 2 ≤ st.pr.length) :
    ∃ g off, pA = some ⟨g, off, none⟩ ∧ st.pr.length ≤ pc ∧
      (Builtin.copy_ #[50, 9] 3 #[.slice (some ⟨g, off + q, none⟩) (st.pr.length - q) (pc - q), .string (Bt.put a)]).run Tryd.prog w = .ok (.int .i64 2) (w.setCells g (off + q) (byteCells (Bt.put a).data.toList)) ∧
      Am.Rr (w.setCells g (off + q) (byteCells (Bt.put a).data.toList)) b ln ⟨Am.put2 st.pr q a, st.lb, st.ws⟩ (.slice pA st.pr.length pc) lv wv m ∧ Am.Nx w (w.setCells g (off + q) (byteCells (Bt.put a).data.toList)) (Am.ft b m (.slice pA st.pr.length pc) lv wv) (Am.ft b m (.slice pA st.pr.length pc) lv wv) := by
  have hp := h.pr
  obtain ⟨g, off, rfl, hcap, hcs⟩ : ∃ g off, pA = some ⟨g, off, none⟩ ∧ st.pr.length ≤ pc ∧ ∀ j, j < pc * 1 → (w.cell? ⟨g, off + j, none⟩).isSome = true ∧ w.frozen? ⟨g, off + j, none⟩ = false := by
    rcases hp.2 with ⟨_, h0⟩ | ⟨g, off, cap, h1, h2, h3, h4, h5, _⟩
    · omega
    · injection h1 with h1 h1' h1''
      subst h1''
      exact ⟨g, off, h1, h2, h5⟩
  have hsz : (Bt.put (a : Int)).size = 2 := rfl
  have hrun := Am.run_copy_str (P := Tryd.prog) w 50 9 3 5 g (off + q) (st.pr.length - q) (pc - q) (Bt.put a) Tryd.underlying50 (by kernel_rfl) (by rw [hsz]; omega) (fun j hj => by rw [Nat.add_assoc]; exact (hcs (q + j) (by rw [hsz] at hj; omega)).1) (fun j hj => by rw [Nat.add_assoc]; exact (hcs (q + j) (by rw [hsz] at hj; omega)).2)
  rw [Am.byteCells_eq] at hrun
  have hw2 : w.setCells g (off + q) (byteCells (Bt.put a).data.toList) = (w.setCell ⟨g, off + q, none⟩ (.int .u8 ((UInt8.ofNat (a % 256)).toNat : Int))).setCell ⟨g, off + (q + 1), none⟩ (.int .u8 ((UInt8.ofNat (a / 256 % 256)).toNat : Int)) := by
    rw [Am.put_of]
    rfl
  have hg := only_cells w g (off + q) (byteCells (Bt.put a).data.toList)
  refine ⟨g, off, rfl, hcap, hrun, ?_, Keeps.of_only hg (fun k hk => by injection hk with hk; subst hk; exact .inr (.inr (.inl rfl))), fun i hi => .inl hi⟩
  obtain ⟨a1, a2, a3, a4⟩ := h.n2 g rfl
  have hrow : RowZ 1 (w.setCells g (off + q) (byteCells (Bt.put a).data.toList)) (.slice (some ⟨g, off, none⟩) st.pr.length pc) (Am.put2 st.pr q a).length (byteCells (Am.put2 st.pr q a)) := by
    rw [hw2]
    have hl : (Am.put2 st.pr q a).length = st.pr.length := by simp [Am.put2]
    have he : byteCells (Am.put2 st.pr q a) = ((byteCells st.pr).set q (.int .u8 ((UInt8.ofNat (a % 256)).toNat : Int))).set (q + 1) (.int .u8 ((UInt8.ofNat (a / 256 % 256)).toNat : Int)) := by simp [Am.put2, byteCells, List.map_set]
    rw [hl, he]
    exact Am.row_set1 (Am.row_set1 hp q (by omega) _) (q + 1) (by omega) _
  exact ⟨h.blk.only hg (fun e => by injection e with e; exact a1 e.symm), hrow, h.lb.only hg (Am.dis fun i hi e => by injection e with e; subst e; exact a3 hi), h.ws.only hg (Am.dis fun i hi e => by injection e with e; subst e; exact a4 hi), h.mp.only hg (fun e => by injection e with e; exact a2 e.symm), h.n1, fun i hi => h.n2 i hi, h.n3, h.n4⟩
/-- Names that wait for places that are there. -/
def Am.WsOk (st : Am.St) : Prop := ∀ x ∈ st.ws, x.2.2 + 2 ≤ st.pr.length ∧ x.2.1.length ≤ 16
theorem Am.name_len {l : List UInt8} (h : Am.isName l = true) : l.length ≤ 16 := by
  unfold Am.isName at h
  simp at h
  exact h.2.1
def Am.OkN (o : Option (List UInt8 × List UInt8)) : Prop := ∀ v, o = some v → v.2 = [] ∨ (v.2.length ≤ 16 ∧ 2 ≤ v.1.length)
theorem Am.OkN.val {w : List UInt8} {f : Nat → List UInt8} (hf : ∀ n, 2 ≤ (f n).length) : Am.OkN ((Am.val w).map fun v => (f v.1, v.2)) := by
  intro v hv
  cases e : Am.val w with
  | none => rw [e] at hv; cases hv
  | some q =>
    rw [e] at hv
    simp at hv
    subst hv
    obtain ⟨n, m⟩ := q
    obtain ⟨_, h | ⟨h1, _, h2⟩⟩ := Am.val_le e
    · exact .inl h
    · subst h1
      exact .inr ⟨Am.name_len h2, hf n⟩
theorem Am.OkN.nil {α : Type} {o : Option α} {f : α → List UInt8} : Am.OkN (o.map fun n => (f n, [])) := by
  intro v hv
  cases o with
  | none => cases hv
  | some q => simp at hv; subst hv; exact .inl rfl
theorem Am.OkN.none : Am.OkN none := fun v hv => by cases hv
theorem Am.ok_ins (k : Nat) (r : List (List UInt8)) : Am.OkN (Am.ins k r) := by
  unfold Am.ins
  split
  · split
    · intro v hv; injection hv with hv; subst hv; exact .inl rfl
    · exact Am.OkN.none
  · split
    · split
      · exact Am.OkN.val (fun n => by simp [Am.pt])
      · exact Am.OkN.none
    · split
      · cases Am.reg (r.getD 0 []) with
        | none => exact Am.OkN.none
        | some x =>
          simp only [Option.bind_some]
          split
          · exact Am.OkN.nil
          · split
            · exact Am.OkN.nil
            · exact Am.OkN.val (fun n => by simp [Am.pt])
      · exact Am.OkN.none
theorem Am.ok_lnO {o : Option (List UInt8 × List UInt8)} (h : Am.OkN o) : (Am.lnO o).nm = [] ∨ ((Am.lnO o).nm.length ≤ 16 ∧ 2 ≤ (Am.lnO o).bs.length) := by
  cases o with
  | none => exact .inl rfl
  | some v => exact h v rfl
theorem Am.ok_sen (v : List UInt8) (r : List (List UInt8)) : (Am.sen v r).nm = [] ∨ ((Am.sen v r).nm.length ≤ 16 ∧ 2 ≤ (Am.sen v r).bs.length) := by
  unfold Am.sen
  split
  · refine Am.ok_lnO ?_
    split
    · exact Am.OkN.nil
    · exact Am.OkN.none
  · split
    · refine Am.ok_lnO ?_
      split
      · exact Am.OkN.val (f := fun n => [UInt8.ofNat (n % 256), UInt8.ofNat (n / 256 % 256)]) (fun n => by simp)
      · exact Am.OkN.none
    · split
      · exact Am.ok_lnO (Am.ok_ins _ _)
      · exact .inl rfl
theorem Am.ok_line (s : List UInt8) (h : (Am.line s).kind = 2) : (Am.line s).nm = [] ∨ ((Am.line s).nm.length ≤ 16 ∧ 2 ≤ (Am.line s).bs.length) := by
  unfold Am.line at h ⊢
  split
  · exact .inl rfl
  · split
    · rename_i h1 h2
      rw [if_neg h1, if_pos h2] at h
      split at h <;> simp at h
    · exact Am.ok_sen _ _
theorem Am.WsOk.one {i : Nat} {x : List UInt8} {st : Am.St} (h : Am.WsOk st) : Am.WsOk (Am.one i (Am.line x) st).2 := by
  unfold Am.one
  by_cases h0 : (Am.line x).kind = 0
  · rw [if_pos h0]; exact h
  · rw [if_neg h0]
    by_cases h1 : (Am.line x).kind = 1
    · rw [if_pos h1]
      split
      · exact h
      · exact h
    · rw [if_neg h1]
      by_cases h2 : (Am.line x).kind = 2
      · rw [if_pos h2]
        have hn := Am.ok_line x h2
        split
        · exact h
        · intro y hy
          simp only at hy ⊢
          have old : ∀ y ∈ st.ws, y.2.2 + 2 ≤ (st.pr ++ (Am.line x).bs).length ∧ y.2.1.length ≤ 16 := fun y hy => by
            have := h y hy
            rw [List.length_append]
            omega
          by_cases hm : (Am.line x).nm = []
          · rw [if_pos hm] at hy
            exact old y hy
          · rw [if_neg hm, List.mem_append] at hy
            rcases hy with hy | hy
            · exact old y hy
            · simp at hy
              subst hy
              rcases hn with e | ⟨e1, e2⟩
              · exact absurd e hm
              · simp only [List.length_append]
                omega
      · rw [if_neg h2]; exact h
theorem Am.WsOk.go : ∀ (l : List (List UInt8)) (i : Nat) (st : Am.St), Am.WsOk st → Am.WsOk (Am.go i l st).2.2
  | [], i, st, h => h
  | x :: r, i, st, h => by
    unfold Am.go
    split
    · exact Am.WsOk.go r (i + 1) _ h.one
    · exact h
end Go.Proofs.YtgjpjmolfdiahaaDoor
