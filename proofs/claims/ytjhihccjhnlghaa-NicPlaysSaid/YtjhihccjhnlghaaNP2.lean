/- A device of package nic: which ports may be, whose a port is, what a nil device answers. -/
import Derived.Test.YtjhihccjhnlghaaNP1
import Derived.Deep.RegionHeld3
namespace Go.Proofs.Ytjhihccjhnlghaa
open Go.RowKit Go.Lib
set_option linter.unusedVariables false

/-- Which ports may be: owner, address, limit. -/
def mayP (r : Int × Int × Int) : Bool := decide (1 ≤ r.1 ∧ r.1 ≤ 8 ∧ 0 ≤ r.2.1 ∧ r.2.1 ≤ 255 ∧ 0 ≤ r.2.2 ∧ r.2.2 ≤ 16)
theorem mayP_iff {r : Int × Int × Int} : mayP r = true ↔ (1 ≤ r.1 ∧ r.1 ≤ 8 ∧ 0 ≤ r.2.1 ∧ r.2.1 ≤ 255 ∧ 0 ≤ r.2.2 ∧ r.2.2 ≤ 16) := by simp [mayP]
/-- A port as a value. -/
abbrev i3v (r : Int × Int × Int) : Value := .agg #[.int .i64 r.1, .int .i64 r.2.1, .int .i64 r.2.2]

theorem pmay_any (r : Int × Int × Int) (w : World) : Calls Try.prog 39 #[i3v r] w fun e w' => e = .returned (.bool (mayP r)) ∧ w.grownBy w' none := by
  obtain ⟨o, b, s⟩ := r
  have key : (¬ 1 ≤ o ∧ mayP (o, b, s) = false) ∨ (1 ≤ o ∧ ¬ o ≤ 8 ∧ mayP (o, b, s) = false) ∨ (1 ≤ o ∧ o ≤ 8 ∧ ¬ 0 ≤ b ∧ mayP (o, b, s) = false) ∨ (1 ≤ o ∧ o ≤ 8 ∧ 0 ≤ b ∧ ¬ b ≤ 255 ∧ mayP (o, b, s) = false) ∨ (1 ≤ o ∧ o ≤ 8 ∧ 0 ≤ b ∧ b ≤ 255 ∧ ¬ 0 ≤ s ∧ mayP (o, b, s) = false) ∨ (1 ≤ o ∧ o ≤ 8 ∧ 0 ≤ b ∧ b ≤ 255 ∧ 0 ≤ s ∧ ¬ s ≤ 16 ∧ mayP (o, b, s) = false) ∨ (1 ≤ o ∧ o ≤ 8 ∧ 0 ≤ b ∧ b ≤ 255 ∧ 0 ≤ s ∧ s ≤ 16 ∧ mayP (o, b, s) = true) := by
    by_cases h1 : 1 ≤ o <;> by_cases h2 : o ≤ 8 <;> by_cases h3 : 0 ≤ b <;> by_cases h4 : b ≤ 255 <;> by_cases h5 : 0 ≤ s <;> by_cases h6 : s ≤ 16 <;> simp [mayP, h1, h2, h3, h4, h5, h6]
  rcases key with ⟨h1, e⟩ | ⟨h1, h2, e⟩ | ⟨h1, h2, h3, e⟩ | ⟨h1, h2, h3, h4, e⟩ | ⟨h1, h2, h3, h4, h5, e⟩ | ⟨h1, h2, h3, h4, h5, h6, e⟩ | ⟨h1, h2, h3, h4, h5, h6, e⟩
  all_goals
    have E := Lib.hid e
    clear e
    go_enter Try.func39, Try.ntmps39
    go_wp2
    go_ret
    rw [E.out]
    exact ⟨by first | rfl | (simp; done) | (simp; omega), only_alloc (only_refl _ _) _⟩

theorem nfind_nil (o : Int) (w : World) : Calls Try.prog 32 #[.pointer none, .int .i64 o] w fun e w' => e = .returned (.tuple #[.agg #[ptr none, .int .i64 0], .int .i64 1]) ∧ w.grownBy w' none := by
  go_enter Try.func32, Try.ntmps32
  go_wp2
  refine bodyPost_ret (v := .tuple #[.agg #[ptr none, .int .i64 0], .int .i64 1]) (by simp [results, Try.results32, go_sem]) rfl ⟨rfl, only_alloc (only_refl _ _) _⟩
section
variable {w : World} {d m : Nat} {L : List Pp} {odd : Int} {lv : Value}
theorem nfind_some {o p : Int} {q : Option Nat} {s : Int} (hd : Blk w d 65 #[.map (some m), .int .i64 odd, lv]) (hm : MapP w m L) (ho : fitI o) (hl : lookL L o = some (p, q, s)) : Calls Try.prog 32 #[.pointer (some ⟨d, 0, none⟩), .int .i64 o] w fun e w' => e = .returned (.tuple #[.agg #[ptr q, .int .i64 s], .int .i64 0]) ∧ w.grownBy w' none := by
  have c0 := hd.cell 0
  simp at c0
  have k0 : (w.alloc (.cells #[.pointer none, .int .i64 0] 70)).cell? ⟨d, 0, none⟩ = some (.map (some m)) := (hd.alloc _).cell 0
  have HM := Lib.hid hm
  have HL := Lib.hid hl
  clear hd hm hl
  go_enter Try.func32, Try.ntmps32
  go_wp2_with (at_lookup; refine wpList_look_some rfl _ _ rfl m L o p q s rfl (HM.out.only (only_alloc (only_refl _ none) _) (by simp)) rfl ho HL.out ?_)
  refine bodyPost_ret (v := .tuple #[.agg #[ptr q, .int .i64 s], .int .i64 0]) (by simp [results, Try.results32, go_sem]) rfl ⟨rfl, only_alloc (only_alloc (only_refl _ _) _) _⟩
theorem nfind_none {o : Int} (hd : Blk w d 65 #[.map (some m), .int .i64 odd, lv]) (hm : MapP w m L) (ho : fitI o) (hl : lookL L o = none) : Calls Try.prog 32 #[.pointer (some ⟨d, 0, none⟩), .int .i64 o] w fun e w' => e = .returned (.tuple #[.agg #[ptr none, .int .i64 0], .int .i64 7]) ∧ w.grownBy w' none := by
  have c0 := hd.cell 0
  simp at c0
  have k0 : (w.alloc (.cells #[.pointer none, .int .i64 0] 70)).cell? ⟨d, 0, none⟩ = some (.map (some m)) := (hd.alloc _).cell 0
  have HM := Lib.hid hm
  have HL := Lib.hid hl
  clear hd hm hl
  go_enter Try.func32, Try.ntmps32
  go_wp2_with (at_lookup; refine wpList_look_none rfl _ _ rfl m L o rfl (HM.out.only (only_alloc (only_refl _ none) _) (by simp)) rfl ho HL.out ?_)
  refine bodyPost_ret (v := .tuple #[.agg #[ptr none, .int .i64 0], .int .i64 7]) (by simp [results, Try.results32, go_sem]) rfl ⟨rfl, only_alloc (only_alloc (only_refl _ _) _) _⟩

/-- Whose an address is; nobody's: 0. -/
def ownL (L : List Pp) (mac : Int) : Int := ((L.find? fun x => decide (x.2.2 = mac)).map (·.1)).getD 0
theorem ownL_in {mac : Int} {x : Pp} (hx : x ∈ L) (hm : x.2.2 = mac) (hn : (L.map (·.2.2)).Nodup) : ownL L mac = x.1 := by
  unfold ownL
  induction L with
  | nil => cases hx
  | cons y L ih =>
    rw [List.map_cons, List.nodup_cons] at hn
    rw [List.find?_cons]
    by_cases hy : y.2.2 = mac
    · rcases List.mem_cons.1 hx with rfl | h
      · simp [hy]
      · exact absurd (List.mem_map.2 ⟨x, h, by rw [hm, hy]⟩) hn.1
    · rcases List.mem_cons.1 hx with rfl | h
      · exact absurd hm hy
      · simp only [hy, decide_false]
        exact ih h hn.2
theorem ownL_out {mac : Int} (h : ∀ y ∈ L, y.2.2 ≠ mac) : ownL L mac = 0 := by
  unfold ownL
  have : L.find? (fun x => decide (x.2.2 = mac)) = none := List.find?_eq_none.2 (by intro x hx; simpa using h x hx)
  rw [this]
  rfl

theorem nown_nil (mac : Int) (w : World) : Calls Try.prog 23 #[.pointer none, .int .i64 mac] w fun e w' => e = .returned (.int .i64 0) ∧ w = w' := by
  go_enter Try.func23, Try.ntmps23
  go_wp2
  go_ret
  exact ⟨rfl, rfl⟩
set_option maxHeartbeats 1600000 in
theorem nown_any (mac : Int) (hd : Blk w d 65 #[.map (some m), .int .i64 odd, lv]) (hm : MapP w m L) (hn1 : (L.map (·.1)).Nodup) (hn2 : (L.map (·.2.2)).Nodup) : Calls Try.prog 23 #[.pointer (some ⟨d, 0, none⟩), .int .i64 mac] w fun e w' => e = .returned (.int .i64 (ownL L mac)) ∧ w.grownBy w' none := by
  have c0 := hd.cell 0
  simp at c0
  have HM := Lib.hid hm
  have HN1 := Lib.hid hn1
  have HN2 := Lib.hid hn2
  clear hd hm hn1 hn2
  go_enter Try.func23, Try.ntmps23
  go_wp2_with (at_range; refine wpList_range_reg rfl _ rfl m L rfl HM.out HN1.out ?_; intro w3 cnt hr hg3 hs3)
  go_frame
  have RN := Lib.hid hr
  have B3 : Hid (Below w.heap.size w w3) := Lib.hid (below_of_only hg3 (Nat.le_refl _) (by simp))
  have MLT := Lib.hid HM.out.lt
  clear hr hg3 hs3 c0
  go_loopw [5] (fun x wr => ∃ rem cnt, RngP wr m w.heap.size L rem cnt ∧ Hid (∀ y ∈ L, y ∈ rem ∨ y.2.2 ≠ mac) ∧ (∀ y ∈ rem, y ∈ L) ∧ Below w.heap.size w wr) (fun x wr => wr.rangeLeft m w.heap.size)
  case atStart => exact ⟨L, _, RN.out, Lib.hid (fun y hy => .inl hy), fun y hy => hy, B3.out⟩
  case round =>
    obtain ⟨rem, cnt', hrn, HS, hrl, hb⟩ := hrel
    have HRN := Lib.hid hrn
    have HRL := Lib.hid hrl
    have HB := Lib.hid hb
    clear hrn hrl hb
    go_wp2_with (at_next; refine wpList_next_reg rfl _ rfl m _ L rem cnt' rfl HRN.out ?_ ?_)
    · intro hrem
      subst hrem
      have hc : ownL L mac = 0 := ownL_out (fun y hy => by rcases HS.out y hy with h | h <;> first | (cases h; done) | exact h)
      have HC := Lib.hid hc
      clear hc
      go_wp2
      go_ret
      exact ⟨ret_int (by rw [HC.out]), only_far HB.out⟩
    · intro x1 x2 x3 rem' wn cnt2 hperm hrn2 hlt hgn hsn hen
      have hyL : (x1, x2, x3) ∈ L := HRL.out _ (hperm.mem_iff.2 (List.mem_cons_self ..))
      have HYL := Lib.hid hyL
      have HRNN := Lib.hid hrn2
      have HPERM := Lib.hid hperm
      have HLT := Lib.hid hlt
      have BQ := Lib.hid (HB.out.trans (below_of_only hgn HB.out.size (fun k hk => by injection hk with hk; omega)))
      clear hperm hrn2 hlt hgn hsn hyL
      by_cases hmx : x3 = mac
      · have hc : ownL L mac = x1 := ownL_in (x := (x1, x2, x3)) HYL.out hmx HN2.out
        have HC := Lib.hid hc
        clear hc
        go_wp2
        go_ret
        exact ⟨ret_int (by rw [HC.out]), only_far (BQ.out.alloc BQ.out.size _)⟩
      · have HMX := Lib.hid hmx
        go_wp2
        go_roundw
        case rel =>
          refine ⟨rem', cnt2, HRNN.out.only (only_alloc (only_refl _ none) _) (by simp) (by simp), Lib.hid fun y hy => ?_, fun y hy => HRL.out y (HPERM.out.mem_iff.2 (List.mem_cons_of_mem _ hy)), BQ.out.alloc BQ.out.size _⟩
          rcases HS.out y hy with h | h
          · rcases List.mem_cons.1 (HPERM.out.mem_iff.1 h) with e | e
            · subst e
              exact .inr HMX.out
            · exact .inl e
          · exact .inr h
        case measure =>
          rw [(HRNN.out.only (only_alloc (only_refl _ none) _) (by simp) (by simp)).left_eq, HRN.out.left_eq]
          exact HLT.out
end
end Go.Proofs.Ytjhihccjhnlghaa
