import Derived.Test.YtldbhcbmcogmfaaDoorZ07
import Derived.Test.YtldbhcbmcogmfaaDoorZ01
import Derived.Deep.DeepHandedRow
import Derived.LaidSub
import Derived.PinnedBridge
import Derived.Test.YtldbhcbmcogmfaaDoorZ03
import Derived.Laws.StructEq
set_option linter.all false
/- AsmShifts, walked. -/
namespace Go.Proofs.YtldbhcbmcogmfaaDoor
open Go.RowKit Go.Lib
set_option linter.unusedVariables false

theorem Am.one_ws {i : Nat} {l : Am.Ln} {st : Am.St} (h : ∀ x ∈ st.ws, x.1 ≤ i) : ∀ x ∈ (Am.one i l st).2.ws, x.1 ≤ i := by
  unfold Am.one
  by_cases h0 : l.kind = 0
  · rw [if_pos h0]; exact h
  · rw [if_neg h0]
    by_cases h1 : l.kind = 1
    · rw [if_pos h1]
      split
      · exact h
      · exact h
    · rw [if_neg h1]
      by_cases h2 : l.kind = 2
      · rw [if_pos h2]
        split
        · exact h
        · intro x hx
          simp only at hx
          split at hx
          · exact h x hx
          · rcases List.mem_append.1 hx with hx | hx
            · exact h x hx
            · simp at hx
              subst hx
              exact Nat.le_refl _
      · rw [if_neg h2]; exact h
theorem Am.go_lines : ∀ (l : List (List UInt8)) (i : Nat) (st : Am.St), (∀ x ∈ st.ws, x.1 ≤ i) → (Am.go i l st).2.1 ≤ i + l.length ∧ ∀ x ∈ (Am.go i l st).2.2.ws, x.1 ≤ i + l.length
  | [], i, st, h => ⟨Nat.zero_le _, fun x hx => by have := h x hx; simp; omega⟩
  | y :: r, i, st, h => by
    unfold Am.go
    by_cases q : (Am.one (i + 1) (Am.line y) st).1 = 0
    · rw [if_pos q]
      obtain ⟨a, b⟩ := Am.go_lines r (i + 1) (Am.one (i + 1) (Am.line y) st).2 (Am.one_ws (fun x hx => by have := h x hx; omega))
      exact ⟨by rw [List.length_cons]; omega, fun x hx => by have := b x hx; rw [List.length_cons]; omega⟩
    · rw [if_neg q]
      exact ⟨by rw [List.length_cons]; simp, fun x hx => by have := h x hx; rw [List.length_cons]; omega⟩
theorem Am.ful_lines (lb : List (List UInt8 × Nat)) (n : Nat) : ∀ (ws : List (Nat × List UInt8 × Nat)) (p : List UInt8), (∀ x ∈ ws, x.1 ≤ n) → (Am.ful lb ws p).2.1 ≤ n
  | [], p, h => Nat.zero_le _
  | x :: r, p, h => by
    unfold Am.ful
    cases Am.look lb x.2.1 with
    | none => exact h x (by simp)
    | some a => exact Am.ful_lines lb n r _ (fun y hy => h y (List.mem_cons_of_mem _ hy))
theorem Am.read_line (s : List UInt8) : (Am.read s).2.1 ≤ s.length + 1 := by
  obtain ⟨a, b⟩ := Am.go_lines (Am.spl 10 s) 0 Am.st0 (fun x hx => by cases hx)
  have hl : (Am.spl 10 s).length ≤ s.length + 1 := by
    rw [Am.spl_len]
    have := List.count_le_length (a := (10 : UInt8)) (l := s)
    omega
  unfold Am.read
  split
  · exact Nat.zero_le _
  · split
    · split
      · exact Nat.zero_le _
      · have := Am.ful_lines (Am.go 0 (Am.spl 10 s) Am.st0).2.2.lb (0 + (Am.spl 10 s).length) _ (Am.go 0 (Am.spl 10 s) Am.st0).2.2.pr b
        simp only
        omega
    · simp only
      omega
def Am.ex : ByteArray := ⟨#[115, 101, 116, 32, 114, 49, 32, 101, 110, 100, 10, 106, 117, 109, 112, 32, 101, 110, 100, 10, 101, 110, 100, 58, 10, 115, 116, 111, 112]⟩
theorem Am.ex_read : (Am.read Am.ex.data.toList).1 = 0 ∧ (Am.read Am.ex.data.toList).2.1 = 0 ∧ (Am.read Am.ex.data.toList).2.2.1 = [1, 1, 8, 0, 11, 0, 8, 0, 0, 0, 0, 0] := by decide +kernel
set_option maxRecDepth 20000 in
theorem Am.live20_any (w : World) (hg : Am.Gl w) : Calls Tryd.prog 7 #[] w fun r w' => r = .returned (.bool true) ∧ Below w.heap.size w w' := by
  have h := Am.assemble_any Am.ex (by decide) w hg
  obtain ⟨e1, e2, e3⟩ := Am.ex_read
  rw [e1, e2, e3] at h
  unfold Am.ex at h
  have HA := Lib.hid h
  clear h e1 e2 e3 hg
  go_enter Tryd.func7, Tryd.ntmps7
  go_wp2_with (first
    | (go_at_call 8; (with_reducible refine HA.out.mono ?_); rintro r w2 ⟨rfl, bel⟩))
  go_ret
  exact ⟨by first | rfl | (simp; done), bel⟩
theorem Am.rem_next {rem ln : ByteArray} {k : Nat} (hk : k < rem.size) (h : ln.data.toList = 35 :: rem.data.toList.take k) (hn : (10 : UInt8) ∉ rem.data.toList.take k) (h10 : rem[k]'hk ≠ 10) : (ln ++ rem.extract k (k + 1)).data.toList = 35 :: rem.data.toList.take (k + 1) ∧ (10 : UInt8) ∉ rem.data.toList.take (k + 1) := by
  have hl : k < rem.data.toList.length := by rw [Am.len]; exact hk
  have he : rem.data.toList[k] = rem[k]'hk := by simp; rfl
  have ht : rem.data.toList.take (k + 1) = rem.data.toList.take k ++ [rem[k]'hk] := by rw [Am.take_next hl, he]
  refine ⟨?_, ?_⟩
  · rw [ByteArray.data_append, Array.toList_append, h, ht, Go.Lib.extract_data]
    simp only [List.cons_append]
    congr 2
    rw [show k + 1 - k = 1 from by omega, List.drop_eq_getElem_cons hl, he]
    rfl
  · rw [ht, List.mem_append]
    rintro (e | e)
    · exact hn e
    · simp at e
      exact h10 e.symm
set_option maxRecDepth 20000 in
set_option maxHeartbeats 3200000 in
theorem asmshifts_walk (s rem : ByteArray) (w : World) (hg : Am.Gl w) : Calls Tryd.prog 6 #[.string s, .string rem] w fun r w' => r = .returned (.bool true) ∧ Below w.heap.size w w' := by
  have HL := Lib.hid (fun (W : World) (k : Below w.heap.size w W) => Am.live20_any W (hg.below k hg.sz))
  by_cases h1 : 2000 < s.size
  · have i1 : (2000 : Int) < (s.size : Int) := by omega
    clear hg
    go_enter Tryd.func6, Tryd.ntmps6
    go_wp2_with (first
      | (go_at_call 7; (with_reducible refine (HL.out _ (Below.refl _ _)).mono ?_); rintro r w2 ⟨rfl, bel⟩))
    go_ret
    exact ⟨rfl, bel⟩
  have i1 : ¬ (2000 : Int) < (s.size : Int) := by omega
  by_cases h2 : 100 < rem.size
  · have i2 : (100 : Int) < (rem.size : Int) := by omega
    clear hg
    go_enter Tryd.func6, Tryd.ntmps6
    go_wp2_with (first
      | (go_at_call 7; (with_reducible refine (HL.out _ (Below.refl _ _)).mono ?_); rintro r w2 ⟨rfl, bel⟩))
    go_ret
    exact ⟨rfl, bel⟩
  have i2 : ¬ (100 : Int) < (rem.size : Int) := by omega
  have HS := Lib.hid (show s.size ≤ 2000 ∧ rem.size ≤ 100 from ⟨by omega, by omega⟩)
  have HA1 := Lib.hid (Am.assemble_any s (by omega) w hg)
  have HG := Lib.hid hg
  have HRL := Lib.hid (Am.len rem)
  clear hg h1 h2
  go_enter Tryd.func6, Tryd.ntmps6
  go_upto_region 5 with (fail)
  go_loopw [5, 6] (fun l y wr => ∃ (k : Nat) (ln : ByteArray), l = .string ln ∧ y = .int .i64 k ∧ k ≤ rem.size ∧ Hid (ln.data.toList = 35 :: rem.data.toList.take k) ∧ Hid ((10 : UInt8) ∉ rem.data.toList.take k) ∧ w = wr) (fun _ y _ => rem.size - (Go.Lib.intOf y).toNat)
  case atStart => exact ⟨0, ⟨#[35]⟩, rfl, rfl, by omega, Lib.hid (by simp), Lib.hid (by simp), rfl⟩
  case round =>
    obtain ⟨k, ln, rfl, rfl, hk, HK, HN, rfl⟩ := hrel
    have k0 : (0 : Int) ≤ (k : Int) := by omega
    have TAIL : ∀ (x : ByteArray), x = ln ++ ⟨#[10, 10]⟩ ++ s → (Am.read x.data.toList).1 = (Am.read s.data.toList).1 ∧ (Am.read x.data.toList).2.2.1 = (Am.read s.data.toList).2.2.1 ∧ ((Am.read s.data.toList).1 = 0 → (Am.read x.data.toList).2.1 = 0 ∧ (Am.read s.data.toList).2.1 = 0) ∧ ((Am.read s.data.toList).1 ≠ 0 → (Am.read x.data.toList).2.1 = (Am.read s.data.toList).2.1 + 2) := by
      intro x hx
      have e : x.data.toList = (35 :: rem.data.toList.take k) ++ 10 :: 10 :: s.data.toList := by
        rw [hx]
        simp [HK.out]
      rw [e]
      refine Am.read_sh _ _ rfl ?_ ?_
      · intro h
        rcases List.mem_cons.1 h with h | h
        · cases h
        · exact HN.out h
      · have := HS.out
        have := HRL.out
        have := Am.len s
        simp
        omega
    have TX := TAIL _ rfl
    have LS := Lib.hid (show ln.size ≤ 101 from by
      have := congrArg List.length HK.out
      rw [Am.len] at this
      have := HS.out
      have := HRL.out
      simp at *
      omega)
    have g1 : ¬ 9223372036854775807 < ln.size + 2 := by have := LS.out; omega
    have g2 : ¬ 9223372036854775807 < ln.size + 2 + s.size := by have := LS.out; have := HS.out; omega
    have g3 : ¬ 9223372036854775807 < ln.size + 1 := by have := LS.out; omega
    have g4 : ¬ 9223372036854775807 < ln.size + (k + 1 - k) := by have := LS.out; omega
    have g5 : ¬ 9223372036854775807 < ln.size + (rem.extract k (k + 1)).size := by
      have h9 : (rem.extract k (k + 1)).size ≤ rem.size := by
        rw [ByteArray.size_extract]
        omega
      have := LS.out
      have := HS.out
      omega
    have HA2 := Lib.hid (fun (W : World) (k : Below w.heap.size w W) => Am.assemble_any (ln ++ ⟨#[10, 10]⟩ ++ s) (by have := HS.out; have := HRL.out; have := congrArg List.length HK.out; rw [Am.len] at this; simp at this; rw [ByteArray.size_append, ByteArray.size_append, show (⟨#[10, 10]⟩ : ByteArray).size = 2 from rfl]; omega) W (HG.out.below k HG.out.sz))
    obtain ⟨t1, t2, t3, t4⟩ := TX
    rw [t1, t2] at HA2
    have LB := Lib.hid (show (Am.read s.data.toList).2.1 ≤ 2001 from by have := Am.read_line s.data.toList; have := Am.len s; have := HS.out; omega)
    clear TAIL t1 t2
    generalize (Am.read (ln ++ ⟨#[10, 10]⟩ ++ s).data.toList).2.1 = n2 at *
    have T3 := Lib.hid t3
    have T4 := Lib.hid t4
    clear t3 t4
    have HX : Hid (∃ (E : Int) (n1 : Nat) (P : ByteArray), n1 ≤ 2001 ∧ (E = 0 → n2 = 0 ∧ n1 = 0) ∧ (E ≠ 0 → n2 = n1 + 2) ∧
        (Calls Tryd.prog 8 #[.string s] w fun r w' => r = .returned (.tuple #[.string P, .int .i64 n1, .int .i64 E]) ∧ Below w.heap.size w w') ∧
        (∀ W, Below w.heap.size w W → Calls Tryd.prog 8 #[.string (ln ++ ⟨#[10, 10]⟩ ++ s)] W fun r w' => r = .returned (.tuple #[.string P, .int .i64 n2, .int .i64 E]) ∧ Below W.heap.size W w')) := Lib.hid ⟨_, _, _, LB.out, T3.out, T4.out, HA1.out, HA2.out⟩
    clear HA1 HA2 T3 T4 LB
    obtain ⟨E, n1, P, lb, t3, t4, a1, a2⟩ := HX.out
    have HA1 := Lib.hid a1
    have HA2 := Lib.hid a2
    have HB1 := Lib.hid lb
    clear HX a1 a2 lb
    by_cases hE : E = 0
    · obtain ⟨z1, z2⟩ := t3 hE
      subst hE z1 z2
      clear t3 t4
      by_cases hin : k < rem.size
      case neg =>
        obtain rfl : k = rem.size := by omega
        clear hk
        go_wp2_with (first
          | (go_at_call 8; first
              | ((with_reducible refine HA1.out.mono ?_); rintro r w2 ⟨rfl, bel⟩; have B2 := Lib.hid bel; clear bel)
              | ((with_reducible refine (HA2.out _ B2.out).mono ?_); rintro r w3 ⟨rfl, bel⟩; have B3 := Lib.hid (B2.out.trans (bel.mono B2.out.size)); clear bel))
          | (go_at_call 7; (with_reducible refine (HL.out _ B3.out).mono ?_); rintro r w4 ⟨rfl, bel⟩; have B4 := Lib.hid (B3.out.trans (bel.mono B3.out.size)); clear bel))
        go_ret
        exact ⟨by first | rfl | (simp; done), B4.out⟩
      have i3 : (k : Int) < (rem.size : Int) := by omega
      by_cases hnl : ((rem[k]'hin).toNat : Int) = 10
      · have q5 : (((rem[k]'hin).toNat : Int) == 10) = true := by simpa using hnl
        have q9 : (((rem[k]'hin).toNat : Int) != 10) = false := by simp [hnl]
        clear hk
        go_wp2_with (first
          | (go_at_call 8; first
              | ((with_reducible refine HA1.out.mono ?_); rintro r w2 ⟨rfl, bel⟩; have B2 := Lib.hid bel; clear bel)
              | ((with_reducible refine (HA2.out _ B2.out).mono ?_); rintro r w3 ⟨rfl, bel⟩; have B3 := Lib.hid (B2.out.trans (bel.mono B2.out.size)); clear bel))
          | (go_at_call 7; (with_reducible refine (HL.out _ B3.out).mono ?_); rintro r w4 ⟨rfl, bel⟩; have B4 := Lib.hid (B3.out.trans (bel.mono B3.out.size)); clear bel))
        go_ret
        exact ⟨by first | rfl | (simp; done), B4.out⟩
      have KL := Lib.hid hin
      have q5 : (((rem[k]'hin).toNat : Int) == 10) = false := by simpa using hnl
      have q9 : (((rem[k]'hin).toNat : Int) != 10) = true := by simpa using hnl
      have q6 : (k : Int) ≤ (k : Int) + 1 := by omega
      have q7 : (k : Int) + 1 ≤ (rem.size : Int) := by omega
      have q8 : (0 : Int) ≤ (k : Int) + 1 := by omega
      have u9 : IntKind.i64.wrap ((k : Int) + 1) = (k : Int) + 1 := by rw [IntKind.wrap_i64]; have := HS.out; omega
      have NXT := Lib.hid (show (ln ++ rem.extract k (k + 1)).data.toList = 35 :: rem.data.toList.take (k + 1) ∧ (10 : UInt8) ∉ rem.data.toList.take (k + 1) from Am.rem_next hin HK.out HN.out (fun e => hnl (by rw [e]; rfl)))
      clear hk
      go_wp2
      go_roundw
      case rel => exact ⟨k + 1, ln ++ rem.extract k (k + 1), by first | rfl | (congr 1; done) | trace_state, by go_num, KL.out, Lib.hid NXT.out.1, Lib.hid NXT.out.2, by first | rfl | trivial⟩
      case measure =>
        have := KL.out
        simp [Go.Lib.intOf]
        omega
    · have z := t4 hE
      subst z
      have q1 : (E == 0) = false := by simpa using hE
      have q2 : (E != 0) = true := by simpa using hE
      have u1 : IntKind.i64.wrap ((n1 : Int) + 2) = (n1 : Int) + 2 := by rw [IntKind.wrap_i64]; have := HB1.out; omega
      have u2 : ((n1 + 2 : Nat) : Int) = (n1 : Int) + 2 := by omega
      rw [u2] at HA2
      clear t3 t4 u2
      by_cases hin : k < rem.size
      case neg =>
        obtain rfl : k = rem.size := by omega
        clear hk
        go_wp2_with (first
          | (go_at_call 8; first
              | ((with_reducible refine HA1.out.mono ?_); rintro r w2 ⟨rfl, bel⟩; have B2 := Lib.hid bel; clear bel)
              | ((with_reducible refine (HA2.out _ B2.out).mono ?_); rintro r w3 ⟨rfl, bel⟩; have B3 := Lib.hid (B2.out.trans (bel.mono B2.out.size)); clear bel))
          | (go_at_call 7; (with_reducible refine (HL.out _ B3.out).mono ?_); rintro r w4 ⟨rfl, bel⟩; have B4 := Lib.hid (B3.out.trans (bel.mono B3.out.size)); clear bel))
        go_ret
        exact ⟨by first | rfl | (simp; done), B4.out⟩
      have i3 : (k : Int) < (rem.size : Int) := by omega
      by_cases hnl : ((rem[k]'hin).toNat : Int) = 10
      · have q5 : (((rem[k]'hin).toNat : Int) == 10) = true := by simpa using hnl
        have q9 : (((rem[k]'hin).toNat : Int) != 10) = false := by simp [hnl]
        clear hk
        go_wp2_with (first
          | (go_at_call 8; first
              | ((with_reducible refine HA1.out.mono ?_); rintro r w2 ⟨rfl, bel⟩; have B2 := Lib.hid bel; clear bel)
              | ((with_reducible refine (HA2.out _ B2.out).mono ?_); rintro r w3 ⟨rfl, bel⟩; have B3 := Lib.hid (B2.out.trans (bel.mono B2.out.size)); clear bel))
          | (go_at_call 7; (with_reducible refine (HL.out _ B3.out).mono ?_); rintro r w4 ⟨rfl, bel⟩; have B4 := Lib.hid (B3.out.trans (bel.mono B3.out.size)); clear bel))
        go_ret
        exact ⟨by first | rfl | (simp; done), B4.out⟩
      have KL := Lib.hid hin
      have q5 : (((rem[k]'hin).toNat : Int) == 10) = false := by simpa using hnl
      have q9 : (((rem[k]'hin).toNat : Int) != 10) = true := by simpa using hnl
      have q6 : (k : Int) ≤ (k : Int) + 1 := by omega
      have q7 : (k : Int) + 1 ≤ (rem.size : Int) := by omega
      have q8 : (0 : Int) ≤ (k : Int) + 1 := by omega
      have u9 : IntKind.i64.wrap ((k : Int) + 1) = (k : Int) + 1 := by rw [IntKind.wrap_i64]; have := HS.out; omega
      have NXT := Lib.hid (show (ln ++ rem.extract k (k + 1)).data.toList = 35 :: rem.data.toList.take (k + 1) ∧ (10 : UInt8) ∉ rem.data.toList.take (k + 1) from Am.rem_next hin HK.out HN.out (fun e => hnl (by rw [e]; rfl)))
      clear hk
      go_wp2
      go_roundw
      case rel => exact ⟨k + 1, ln ++ rem.extract k (k + 1), by first | rfl | (congr 1; done) | trace_state, by go_num, KL.out, Lib.hid NXT.out.1, Lib.hid NXT.out.2, by first | rfl | trivial⟩
      case measure =>
        have := KL.out
        simp [Go.Lib.intOf]
        omega
end Go.Proofs.YtldbhcbmcogmfaaDoor

/- How a law of package asm is opened: the tables as1 they were laid; texts that came in. -/
namespace Go.Proofs.YtldbhcbmcogmfaaDoor
open Go.RowKit Go.Lib Go.ChangeShapes Go.WideShapes Go.ChangeAt Go.Deep Go.Joins
open Go.ChangeMaps (open_string shut_string)
set_option linter.unusedVariables false

/-- The door's world, Go's own table of first bytes laid besides. -/
noncomputable def Am.lw (os : Os) : World :=
  let w0 := World.doorLaid Tryd.prog 400 os
  { w0 with heap := w0.heap.modify 3 fun
    | .cells _ t frozen => .cells (Go.Lib.firstTab.map fun z => Value.int .u8 z).toArray t frozen
    | o => o }
set_option maxRecDepth 100000 in
theorem Am.door (os : Os) (args : Array Value) : laidMetH Tryd.prog Rows.asmShiftsRow.laid ((Am.lw os).forCall (fun _ _ => 0) ⟨#[], args, []⟩).memory :=
  laidMetH_of_parts3 (fuel := 8) (laidMet_of_run' 8 (by kernel_rfl) (by kernel_rfl)) (by kernel_rfl) (by kernel_rfl)
/-- What the row's conditions give the walks. -/
theorem Am.gl_of {W : World} {l : List (String × DataW Unit)} (h : laidMetH Tryd.prog (("campanile/code.names", Rows.laid_campanile_code_names) :: l) W) (hs : W.ShapedOpen Tryd.prog) (hn : l.filter (fun x => x.1 == "campanile/code.names") = [] := by rfl) : Am.Gl W := by
  have h1 := h.filter (fun x => x.1 == "campanile/code.names")
  rw [show ((("campanile/code.names", Rows.laid_campanile_code_names) :: l : List (String × DataW Unit)).filter fun x => x.1 == "campanile/code.names") = laid1 from by rw [List.filter_cons_of_pos (by rfl), hn]; rfl] at h1
  obtain ⟨k, hk⟩ := Tryd.splitM.s1_3 W hs
  have hk2 : W.cell? ⟨2, 0, none⟩ = some (.int .i64 k) := hk
  exact ⟨nm_of_laid h1, ⟨k, hk2⟩, World.block_lt_of_cell? W _ hk2⟩
end Go.Proofs.YtldbhcbmcogmfaaDoor

/- The document's asm: letters, numbers, registers, by their contracts. -/
namespace Go.Proofs.YtldbhcbmcogmfaaDoor
open Go.RowKit Go.Lib
set_option linter.unusedVariables false

theorem Am.at_eq (s : ByteArray) (i : Nat) (h : i < s.size) (hl : i < s.data.toList.length) : s.data.toList[i] = s[i]'h := by simp; rfl
theorem Am.drop_s (s : ByteArray) (i : Nat) (h : i < s.size) : s.data.toList.drop i = s[i]'h :: s.data.toList.drop (i + 1) := by
  have hl : i < s.data.toList.length := by rw [Am.len]; exact h
  rw [List.drop_eq_getElem_cons hl, Am.at_eq s i h hl]
theorem Am.take_s (s : ByteArray) (i : Nat) (h : i < s.size) : s.data.toList.take (i + 1) = s.data.toList.take i ++ [s[i]'h] := by
  have hl : i < s.data.toList.length := by rw [Am.len]; exact h
  rw [Am.take_next hl, Am.at_eq s i h hl]
/-- What decimal digits make, however large. -/
def Am.dgs : List UInt8 → Nat → Option Nat
  | [], n => some n
  | c :: l, n => if c.toNat < 48 ∨ 57 < c.toNat then none else Am.dgs l (n * 10 + (c.toNat - 48))
theorem Am.dgs_ge : ∀ (l : List UInt8) (n k : Nat), Am.dgs l n = some k → n * 10 ^ l.length ≤ k
  | [], n, k, h => by simp [Am.dgs] at h; simp [h]
  | c :: l, n, k, h => by
    unfold Am.dgs at h
    split at h
    · cases h
    · have ih := Am.dgs_ge l _ k h
      rw [List.length_cons, Nat.pow_succ, Nat.mul_comm (10 ^ l.length) 10, ← Nat.mul_assoc]
      exact Nat.le_trans (Nat.mul_le_mul_right _ (Nat.le_add_right _ _)) ih
def Am.upTo (m : Nat) (o : Option Nat) : Option Nat := match o with | none => none | some k => if m < k then none else some k
theorem Am.dec_dgs (m : Nat) : ∀ (l : List UInt8) (n : Nat), n ≤ m → Am.dec m l n = Am.upTo m (Am.dgs l n)
  | [], n, h => by simp [Am.dec, Am.dgs, Am.upTo]; omega
  | c :: l, n, h => by
    unfold Am.dec Am.dgs
    by_cases hc : c.toNat < 48 ∨ 57 < c.toNat
    · rw [if_pos hc, if_pos hc]; rfl
    · rw [if_neg hc, if_neg hc]
      by_cases hm : m < n * 10 + (c.toNat - 48)
      · rw [if_pos hm]
        cases e : Am.dgs l (n * 10 + (c.toNat - 48)) with
        | none => rfl
        | some k =>
          have h1 := Am.dgs_ge l _ k e
          have h2 : n * 10 + (c.toNat - 48) ≤ (n * 10 + (c.toNat - 48)) * 10 ^ l.length := Nat.le_mul_of_pos_right _ (Nat.pow_pos (by decide))
          unfold Am.upTo
          simp only
          rw [if_pos (by omega)]
      · rw [if_neg hm]
        exact Am.dec_dgs m l _ (by omega)
theorem Am.num_long {l : List UInt8} {m k : Nat} (h1 : 1 ≤ k) (hl : k < l.length) (hm : m < 10 ^ k) : Am.num l m = none := by
  unfold Am.num
  split
  · rfl
  · rename_i hc
    rw [Am.dec_dgs m l 0 (Nat.zero_le _)]
    cases l with
    | nil => simp at hl
    | cons c r =>
      unfold Am.dgs
      split
      · rfl
      · rename_i hd
        cases e : Am.dgs r (0 * 10 + (c.toNat - 48)) with
        | none => rfl
        | some q =>
          have h2 := Am.dgs_ge r _ q e
          have h3 : 1 ≤ c.toNat - 48 := by
            have : c.toNat ≠ 48 := fun z => hc (Or.inr ⟨by omega, by simp; exact UInt8.toNat_inj.1 z⟩)
            omega
          have h4 : 10 ^ k ≤ 10 ^ r.length := Nat.pow_le_pow_right (by decide) (by simp at hl; omega)
          have h5 : 1 * 10 ^ r.length ≤ (0 * 10 + (c.toNat - 48)) * 10 ^ r.length := Nat.mul_le_mul_right _ (by omega)
          unfold Am.upTo
          simp only
          rw [if_pos (by omega)]
theorem Am.nstep (n q p : Nat) (h : n < p) (h5 : n < 100000) (h1 : ¬ q < 48) (h2 : ¬ 57 < q) : ∃ z : Nat, z = n * 10 + (q - 48) ∧ z < p * 10 ∧ (10 : Int) * (n : Int) + (q : Int) - 48 = (z : Int) ∧
    IntKind.i64.wrap ((10 : Int) * (n : Int)) = (10 : Int) * (n : Int) ∧ IntKind.i64.wrap ((10 : Int) * (n : Int) + (q : Int)) = (10 : Int) * (n : Int) + (q : Int) ∧ IntKind.i64.wrap (q : Int) = (q : Int) ∧ IntKind.i64.wrap ((10 : Int) * (n : Int) + (q : Int) - 48) = (z : Int) ∧
    wrap64 ((10 : Int) * (n : Int)) = (10 : Int) * (n : Int) ∧ wrap64 ((10 : Int) * (n : Int) + (q : Int)) = (10 : Int) * (n : Int) + (q : Int) ∧ wrap64 ((10 : Int) * (n : Int) + (q : Int) - 48) = (z : Int) := by
  have e : (10 : Int) * (n : Int) + (q : Int) - 48 = ((n * 10 + (q - 48) : Nat) : Int) := by omega
  refine ⟨_, rfl, by omega, e, Am.wrap_i _ (by omega) (by omega), Am.wrap_i _ (by omega) (by omega), Am.wrap_i _ (by omega) (by omega), ?_, IntWalk.wrap64_in _ ⟨by omega, by omega⟩, IntWalk.wrap64_in _ ⟨by omega, by omega⟩, ?_⟩
  · rw [← e]; exact Am.wrap_i _ (by omega) (by omega)
  · rw [← e]; exact IntWalk.wrap64_in _ ⟨by omega, by omega⟩
def Am.optZ (o : Option Nat) : Int := match o with | none => -1 | some n => n
def Am.numZ (l : List UInt8) (m : Nat) : Int := Am.optZ (Am.num l m)
def Am.regZ (l : List UInt8) : Int := Am.optZ (Am.reg l)

set_option maxRecDepth 20000 in
theorem Am.rletters_any (s : ByteArray) (hsz : s.size ≤ 100000) (w : World) : Calls Tryd.prog 31 #[.string s] w fun e w' => e = .returned (.bool (Am.isName s.data.toList)) ∧ w' = w := by
  have hlen := Am.len s
  have HRN := Lib.hid (show s.data.toList.all Am.isL = false → Am.isName s.data.toList = false from fun h => by
    rw [Am.isName_eq, h]
    simp)
  have HRE := Lib.hid (show s.data.toList.all Am.isL = true → Am.isName s.data.toList = (decide (1 ≤ s.size) && decide (s.size ≤ 16)) from fun h => by
    rw [Am.isName_eq, h, hlen]
    simp)
  have HT := Lib.hid (show ∀ i (h : i < s.size), (s.data.toList.take (i + 1)).all Am.isL = ((s.data.toList.take i).all Am.isL && Am.isL (s[i]'h)) from fun i h => by
    rw [Am.take_s s i h, List.all_append]
    simp)
  have HA := Lib.hid (show ∀ i (h : i < s.size), Am.isL (s[i]'h) = false → s.data.toList.all Am.isL = false from fun i h e => by
    have hl : i < s.data.toList.length := by rw [Am.len]; exact h
    rw [List.all_eq_false]
    exact ⟨_, List.getElem_mem hl, by rw [Am.at_eq s i h hl, e]; simp⟩)
  have HF := Lib.hid (show s.data.toList.take s.size = s.data.toList from List.take_of_length_le (by rw [hlen]; exact Nat.le_refl _))
  generalize Am.isName s.data.toList = r at *
  generalize s.data.toList = l at *
  clear hlen
  have HS := Lib.hid hsz
  clear hsz
  go_enter Tryd.func31, Tryd.ntmps31
  go_wp2
  go_loopw [3] (fun k wr => ∃ i : Nat, k = .int .i64 i ∧ i ≤ s.size ∧ Hid ((l.take i).all Am.isL = true) ∧ w = wr) (fun k _ => s.size - (Go.RowKit.intOf k).toNat)
  case atStart => exact ⟨0, rfl, by omega, Lib.hid (by simp), rfl⟩
  case round =>
    obtain ⟨i, rfl, hi, HI, rfl⟩ := hrel
    by_cases hin : i < s.size
    · have i1 : (i : Int) < (s.size : Int) := by omega
      by_cases ha : (s[i]'hin).toNat < 97
      · have ia : ((s[i]'hin).toNat : Int) < 97 := by omega
        go_wp2
        go_ret
        exact ⟨by rw [HRN.out (HA.out i hin (by unfold Am.isL; simp; omega))]; rfl, rfl⟩
      · have ia : ¬ ((s[i]'hin).toNat : Int) < 97 := by omega
        by_cases hb : 122 < (s[i]'hin).toNat
        · have ib : (122 : Int) < ((s[i]'hin).toNat : Int) := by omega
          go_wp2
          go_ret
          exact ⟨by rw [HRN.out (HA.out i hin (by unfold Am.isL; simp; omega))]; rfl, rfl⟩
        · have ib : ¬ (122 : Int) < ((s[i]'hin).toNat : Int) := by omega
          have u1 : IntKind.i64.wrap ((i : Int) + 1) = (i : Int) + 1 := Am.wrap_i _ (by omega) (by have := HS.out; omega)
          go_wp2
          go_roundw
          case rel => exact ⟨i + 1, by go_num, by omega, Lib.hid (by rw [HT.out i hin, HI.out]; unfold Am.isL; simp; omega), by first | rfl | trivial⟩
          case measure => simp [Go.RowKit.intOf] <;> omega
    · obtain rfl : i = s.size := by omega
      have HE := Lib.hid (HRE.out (by have := HI.out; rw [HF.out] at this; exact this))
      by_cases h1 : 1 ≤ s.size
      · have j1 : (1 : Int) ≤ (s.size : Int) := by omega
        by_cases h2 : s.size ≤ 16
        · have j2 : (s.size : Int) ≤ 16 := by omega
          go_wp2
          go_ret
          exact ⟨by rw [HE.out]; simp [h1, h2]; try rfl, rfl⟩
        · have j2 : ¬ (s.size : Int) ≤ 16 := by omega
          go_wp2
          go_ret
          exact ⟨by rw [HE.out]; simp [h1, h2]; try rfl, rfl⟩
      · have j1 : ¬ (1 : Int) ≤ (s.size : Int) := by omega
        go_wp2
        go_ret
        exact ⟨by rw [HE.out]; simp [h1]; try rfl, rfl⟩

end Go.Proofs.YtldbhcbmcogmfaaDoor

/- The document's asm: numbers, by their contract. -/
namespace Go.Proofs.YtldbhcbmcogmfaaDoor
open Go.RowKit Go.Lib
set_option linter.unusedVariables false

set_option maxRecDepth 20000 in
set_option maxHeartbeats 1600000 in
theorem Am.rnumber_any (s : ByteArray) (hsz : s.size ≤ 100000) (m : Nat) (hm : m ≤ 65535) (w : World) : Calls Tryd.prog 32 #[.string s, .int .i64 m] w fun e w' => e = .returned (.int .i64 (Am.numZ s.data.toList m)) ∧ w' = w := by
  by_cases h1 : ¬ 1 ≤ s.size
  · have e : Am.numZ s.data.toList m = -1 := by
      obtain rfl := Am.empty_of h1
      unfold Am.numZ Am.num
      rw [if_pos (Or.inl rfl)]
      rfl
    rw [e]
    have i0 : (s.size : Int) < 1 := by omega
    clear e hm
    go_enter Tryd.func32, Tryd.ntmps32
    go_wp2
    go_ret
    exact ⟨rfl, rfl⟩
  have h1 : 1 ≤ s.size := by omega
  have i0 : ¬ (s.size : Int) < 1 := by omega
  by_cases h5 : 5 < s.size
  · have e : Am.numZ s.data.toList m = -1 := by
      unfold Am.numZ
      rw [Am.num_long (k := 5) (by decide) (by rw [Am.len]; exact h5) (by omega)]
      rfl
    rw [e]
    have i5 : (5 : Int) < (s.size : Int) := by omega
    clear e hm h1
    go_enter Tryd.func32, Tryd.ntmps32
    go_wp2
    go_ret
    exact ⟨rfl, rfl⟩
  have i5 : ¬ (5 : Int) < (s.size : Int) := by omega
  have j0 : 0 < s.size := by omega
  have hhd := Am.head_of j0
  have hl := Am.len s
  have hq : s.data.toList ≠ [] := fun e => by rw [e] at hl; simp at hl; omega
  by_cases hz : 1 < s.size ∧ (s[0]'j0).toNat = 48
  · have i1 : (1 : Int) < (s.size : Int) := by omega
    have i2 : ((s[0]'j0).toNat : Int) = 48 := by omega
    have e : Am.numZ s.data.toList m = -1 := by
      unfold Am.numZ Am.num
      rw [if_pos (Or.inr ⟨by omega, by rw [hhd]; congr 1; exact UInt8.toNat_inj.1 hz.2⟩)]
      rfl
    rw [e]
    clear e hhd hl hq hz hm
    go_enter Tryd.func32, Tryd.ntmps32
    go_wp2
    go_ret
    exact ⟨rfl, rfl⟩
  have hnum : Am.num s.data.toList m = Am.upTo m (Am.dgs s.data.toList 0) := by
    rw [← Am.dec_dgs m _ 0 (Nat.zero_le _)]
    unfold Am.num
    rw [if_neg]
    rintro (h | ⟨h, h2⟩)
    · exact hq h
    · rw [hhd] at h2
      injection h2 with h2
      exact hz ⟨by omega, by rw [h2]; rfl⟩
  have HEN := Lib.hid (show Am.dgs s.data.toList 0 = none → Am.numZ s.data.toList m = -1 from fun h => by unfold Am.numZ; rw [hnum, h]; rfl)
  have HES := Lib.hid (show ∀ n, Am.dgs s.data.toList 0 = some n → Am.numZ s.data.toList m = if m < n then -1 else (n : Int) from fun n h => by
    unfold Am.numZ
    rw [hnum, h]
    unfold Am.upTo
    simp only
    split <;> rfl)
  have HL := Lib.hid (Am.drop_s s)
  have HN := Lib.hid hl
  have H5 := Lib.hid (show s.size ≤ 5 by omega)
  generalize Am.numZ s.data.toList m = rz at *
  generalize s.data.toList = l at *
  clear hl hq hnum hhd hm h5 hsz
  by_cases hs1 : s.size = 1
  · have i1 : ¬ (1 : Int) < (s.size : Int) := by omega
    clear hz hs1
    go_enter Tryd.func32, Tryd.ntmps32
    go_wp2
    go_loopw [6, 5] (fun k v wr => ∃ i n : Nat, k = .int .i64 i ∧ v = .int .i64 n ∧ i ≤ s.size ∧ Hid (n < 10 ^ i) ∧ Hid (Am.dgs l 0 = Am.dgs (l.drop i) n) ∧ w = wr) (fun k _ _ => s.size - (Go.RowKit.intOf k).toNat)
    case atStart => exact ⟨0, 0, rfl, rfl, by omega, Lib.hid (by decide), Lib.hid rfl, rfl⟩
    case round =>
      obtain ⟨i, n, rfl, rfl, hi, HB, HI, rfl⟩ := hrel
      have hp5 : n < 100000 := Nat.lt_of_lt_of_le HB.out (Nat.pow_le_pow_right (by decide) (show i ≤ 5 by have := H5.out; omega))
      by_cases hin : i < s.size
      · have i3 : (i : Int) < (s.size : Int) := by omega
        have HT := Lib.hid (show Am.dgs l 0 = if (s[i]'hin).toNat < 48 ∨ 57 < (s[i]'hin).toNat then none else Am.dgs (l.drop (i + 1)) (n * 10 + ((s[i]'hin).toNat - 48)) from by rw [HI.out, HL.out i hin]; rfl)
        have hc8 := (s[i]'hin).toNat_lt
        by_cases ha : (s[i]'hin).toNat < 48
        · have ia : ((s[i]'hin).toNat : Int) < 48 := by omega
          have HE := Lib.hid (HEN.out (by rw [HT.out, if_pos (Or.inl ha)]))
          clear hp5 hc8
          go_wp2
          go_ret
          exact ⟨by rw [HE.out]; rfl, rfl⟩
        · have ia : ¬ ((s[i]'hin).toNat : Int) < 48 := by omega
          by_cases hb : 57 < (s[i]'hin).toNat
          · have ib : (57 : Int) < ((s[i]'hin).toNat : Int) := by omega
            have HE := Lib.hid (HEN.out (by rw [HT.out, if_pos (Or.inr hb)]))
            clear hp5 hc8
            go_wp2
            go_ret
            exact ⟨by rw [HE.out]; rfl, rfl⟩
          · have ib : ¬ (57 : Int) < ((s[i]'hin).toNat : Int) := by omega
            obtain ⟨z, hz, hzb, hz2, u3, u4, u5, u6, v3, v4, v6⟩ := Am.nstep n (s[i]'hin).toNat (10 ^ i) HB.out hp5 ha hb
            have HT2 := Lib.hid (show Am.dgs l 0 = Am.dgs (l.drop (i + 1)) z from by rw [HT.out, if_neg (fun e => e.elim ha hb), hz])
            have HB2 := Lib.hid (show z < 10 ^ (i + 1) from by rw [Nat.pow_succ]; exact hzb)
            have HZ := Lib.hid hz2
            have i5 : i ≤ 100 := by have := H5.out; clear hz hzb hz2 u3 u4 u5 u6 v3 v4 v6 hc8 HB2 HT2 HB HT ha hb; omega
            have u1 : IntKind.i64.wrap ((i : Int) + 1) = (i : Int) + 1 := Am.wrap_i _ (by clear hz hzb hz2 u3 u4 u5 u6 v3 v4 v6 hc8 ha hb; omega) (by clear hz hzb hz2 u3 u4 u5 u6 v3 v4 v6 hc8 ha hb; omega)
            clear hz hzb hz2 HT hp5 hc8 ha hb i5
            go_wp2
            go_roundw
            case rel => clear u1 u3 u4 u5 u6 v3 v4 v6; exact ⟨i + 1, z, by go_num, by first | rfl | rw [HZ.out], by omega, HB2, HT2, by first | rfl | trivial⟩
            case measure => clear u1 u3 u4 u5 u6 v3 v4 v6; simp [Go.RowKit.intOf] <;> omega
      · obtain rfl : i = s.size := by omega
        have HD := Lib.hid (show Am.dgs l 0 = some n from by rw [HI.out, List.drop_of_length_le (by rw [HN.out]; exact Nat.le_refl _)]; rfl)
        clear hp5
        by_cases hmx : m < n
        · have im : (m : Int) < (n : Int) := by omega
          have HE := Lib.hid (HES.out n HD.out)
          go_wp2
          go_ret
          exact ⟨by rw [HE.out, if_pos hmx]; rfl, rfl⟩
        · have im : ¬ (m : Int) < (n : Int) := by omega
          have HE := Lib.hid (HES.out n HD.out)
          go_wp2
          go_ret
          exact ⟨by rw [HE.out, if_neg hmx]; rfl, rfl⟩
  · have i1 : (1 : Int) < (s.size : Int) := by omega
    have i2 : ¬ ((s[0]'j0).toNat : Int) = 48 := by omega
    clear hz hs1
    go_enter Tryd.func32, Tryd.ntmps32
    go_wp2
    go_loopw [6, 5] (fun k v wr => ∃ i n : Nat, k = .int .i64 i ∧ v = .int .i64 n ∧ i ≤ s.size ∧ Hid (n < 10 ^ i) ∧ Hid (Am.dgs l 0 = Am.dgs (l.drop i) n) ∧ w = wr) (fun k _ _ => s.size - (Go.RowKit.intOf k).toNat)
    case atStart => exact ⟨0, 0, rfl, rfl, by omega, Lib.hid (by decide), Lib.hid rfl, rfl⟩
    case round =>
      obtain ⟨i, n, rfl, rfl, hi, HB, HI, rfl⟩ := hrel
      have hp5 : n < 100000 := Nat.lt_of_lt_of_le HB.out (Nat.pow_le_pow_right (by decide) (show i ≤ 5 by have := H5.out; omega))
      by_cases hin : i < s.size
      · have i3 : (i : Int) < (s.size : Int) := by omega
        have HT := Lib.hid (show Am.dgs l 0 = if (s[i]'hin).toNat < 48 ∨ 57 < (s[i]'hin).toNat then none else Am.dgs (l.drop (i + 1)) (n * 10 + ((s[i]'hin).toNat - 48)) from by rw [HI.out, HL.out i hin]; rfl)
        have hc8 := (s[i]'hin).toNat_lt
        by_cases ha : (s[i]'hin).toNat < 48
        · have ia : ((s[i]'hin).toNat : Int) < 48 := by omega
          have HE := Lib.hid (HEN.out (by rw [HT.out, if_pos (Or.inl ha)]))
          clear hp5 hc8
          go_wp2
          go_ret
          exact ⟨by rw [HE.out]; rfl, rfl⟩
        · have ia : ¬ ((s[i]'hin).toNat : Int) < 48 := by omega
          by_cases hb : 57 < (s[i]'hin).toNat
          · have ib : (57 : Int) < ((s[i]'hin).toNat : Int) := by omega
            have HE := Lib.hid (HEN.out (by rw [HT.out, if_pos (Or.inr hb)]))
            clear hp5 hc8
            go_wp2
            go_ret
            exact ⟨by rw [HE.out]; rfl, rfl⟩
          · have ib : ¬ (57 : Int) < ((s[i]'hin).toNat : Int) := by omega
            obtain ⟨z, hz, hzb, hz2, u3, u4, u5, u6, v3, v4, v6⟩ := Am.nstep n (s[i]'hin).toNat (10 ^ i) HB.out hp5 ha hb
            have HT2 := Lib.hid (show Am.dgs l 0 = Am.dgs (l.drop (i + 1)) z from by rw [HT.out, if_neg (fun e => e.elim ha hb), hz])
            have HB2 := Lib.hid (show z < 10 ^ (i + 1) from by rw [Nat.pow_succ]; exact hzb)
            have HZ := Lib.hid hz2
            have i5 : i ≤ 100 := by have := H5.out; clear hz hzb hz2 u3 u4 u5 u6 v3 v4 v6 hc8 HB2 HT2 HB HT ha hb; omega
            have u1 : IntKind.i64.wrap ((i : Int) + 1) = (i : Int) + 1 := Am.wrap_i _ (by clear hz hzb hz2 u3 u4 u5 u6 v3 v4 v6 hc8 ha hb; omega) (by clear hz hzb hz2 u3 u4 u5 u6 v3 v4 v6 hc8 ha hb; omega)
            clear hz hzb hz2 HT hp5 hc8 ha hb i5
            go_wp2
            go_roundw
            case rel => clear u1 u3 u4 u5 u6 v3 v4 v6; exact ⟨i + 1, z, by go_num, by first | rfl | rw [HZ.out], by omega, HB2, HT2, by first | rfl | trivial⟩
            case measure => clear u1 u3 u4 u5 u6 v3 v4 v6; simp [Go.RowKit.intOf] <;> omega
      · obtain rfl : i = s.size := by omega
        have HD := Lib.hid (show Am.dgs l 0 = some n from by rw [HI.out, List.drop_of_length_le (by rw [HN.out]; exact Nat.le_refl _)]; rfl)
        clear hp5
        by_cases hmx : m < n
        · have im : (m : Int) < (n : Int) := by omega
          have HE := Lib.hid (HES.out n HD.out)
          go_wp2
          go_ret
          exact ⟨by rw [HE.out, if_pos hmx]; rfl, rfl⟩
        · have im : ¬ (m : Int) < (n : Int) := by omega
          have HE := Lib.hid (HES.out n HD.out)
          go_wp2
          go_ret
          exact ⟨by rw [HE.out, if_neg hmx]; rfl, rfl⟩

end Go.Proofs.YtldbhcbmcogmfaaDoor

/- The document's asm: registers, by their contract. -/
namespace Go.Proofs.YtldbhcbmcogmfaaDoor
open Go.RowKit Go.Lib
set_option linter.unusedVariables false

theorem Am.cut_tail (s : ByteArray) : (s.extract 1 s.size).data.toList = s.data.toList.tail := by
  rw [Go.Lib.extract_data, ← List.drop_one, List.take_of_length_le (by rw [List.length_drop, Am.len]; exact Nat.le_refl _)]
set_option maxRecDepth 20000 in
theorem Am.rregister_any (s : ByteArray) (hsz : s.size ≤ 100000) (w : World) : Calls Tryd.prog 50 #[.string s] w fun e w' => e = .returned (.int .i64 (Am.regZ s.data.toList)) ∧ w' = w := by
  by_cases h2 : ¬ s.size = 2
  · have e : Am.regZ s.data.toList = -1 := by
      unfold Am.regZ Am.reg
      split
      · rename_i hh
        have hl := Am.len s
        cases hs : s.data.toList with
        | nil => rw [hs] at hh; cases hh
        | cons c r =>
          rw [hs] at hl
          simp at hl
          simp only [List.tail_cons]
          cases r with
          | nil => rfl
          | cons d q => rw [Am.num_long (k := 1) (by decide) (by simp at hl ⊢; omega) (by decide)]; rfl
      · rfl
    rw [e]
    have i0 : ¬ (s.size : Int) = 2 := by omega
    clear e
    go_enter Tryd.func50, Tryd.ntmps50
    go_wp2
    go_ret
    exact ⟨rfl, rfl⟩
  have h2 : s.size = 2 := by omega
  have j0 : 0 < s.size := by omega
  have i0 : (s.size : Int) = 2 := by omega
  have i1 : (1 : Int) ≤ (s.size : Int) := by omega
  have hhd := Am.head_of j0
  by_cases hc : (s[0]'j0).toNat = 114
  · have i2 : ((s[0]'j0).toNat : Int) = 114 := by omega
    have e : Am.regZ s.data.toList = Am.numZ (s.extract 1 s.size).data.toList 7 := by
      unfold Am.regZ Am.reg Am.numZ
      rw [Am.cut_tail, if_pos (by rw [hhd]; congr 1; exact UInt8.toNat_inj.1 hc)]
    have HC := Lib.hid (show Calls Tryd.prog 32 #[.string (s.extract 1 s.size), .int .i64 7] w fun e w' => e = .returned (.int .i64 (Am.regZ s.data.toList)) ∧ w' = w from by rw [e]; exact Am.rnumber_any _ (by simp; omega) 7 (by decide) w)
    generalize Am.regZ s.data.toList = zz at *
    clear e hhd hc h2
    go_enter Tryd.func50, Tryd.ntmps50
    go_wp2_with (first
      | (go_at_call 32; (with_reducible refine HC.out.mono ?_); rintro e w2 ⟨rfl, rfl⟩))
    go_ret
    exact ⟨rfl, rfl⟩
  · have i2 : ¬ ((s[0]'j0).toNat : Int) = 114 := by omega
    have e : Am.regZ s.data.toList = -1 := by
      unfold Am.regZ Am.reg
      rw [if_neg (by rw [hhd]; intro z; injection z with z; exact hc (by rw [z]; rfl))]
      rfl
    rw [e]
    clear e hhd hc h2
    go_enter Tryd.func50, Tryd.ntmps50
    go_wp2
    go_ret
    exact ⟨rfl, rfl⟩
end Go.Proofs.YtldbhcbmcogmfaaDoor

/- Package code: Get, by its contract. -/
namespace Go.Proofs.YtldbhcbmcogmfaaDoor
open Go.RowKit Go.Lib
set_option linter.unusedVariables false

end Go.Proofs.YtldbhcbmcogmfaaDoor

/- The document's word on instructions: names, bytes, by their contracts. -/
namespace Go.Proofs.YtldbhcbmcogmfaaDoor
open Go.RowKit Go.Lib
set_option linter.unusedVariables false

def nmV : Array Value := #[.string (nmL 0), .string (nmL 1), .string (nmL 2), .string (nmL 3), .string (nmL 4), .string (nmL 5), .string (nmL 6), .string (nmL 7), .string (nmL 8), .string (nmL 9), .string (nmL 10), .string (nmL 11), .string (nmL 12), .string (nmL 13), .string (nmL 14), .string (nmL 15)]
theorem nmV_at {k : Nat} (hk : k < 16) : nmV[k]? = some (.string (nmL k)) := by
  have key : k = 0 ∨ k = 1 ∨ k = 2 ∨ k = 3 ∨ k = 4 ∨ k = 5 ∨ k = 6 ∨ k = 7 ∨ k = 8 ∨ k = 9 ∨ k = 10 ∨ k = 11 ∨ k = 12 ∨ k = 13 ∨ k = 14 ∨ k = 15 := by omega
  rcases key with rfl | rfl | rfl | rfl | rfl | rfl | rfl | rfl | rfl | rfl | rfl | rfl | rfl | rfl | rfl | rfl
  all_goals rfl
set_option maxRecDepth 20000 in
theorem rname_any (k : Int) (hk : 0 ≤ k) (w : World) : Calls Tryd.prog 34 #[.int .i64 k] w fun e w' => e = .returned (.string (nmL k.toNat)) ∧ w.grownBy w' none := by
  obtain ⟨W1, hW, g1, hB⟩ := ibox w 94 nmV
  have HG := Lib.hid g1
  have b0 : ¬ k < 0 := by omega
  obtain ⟨k, rfl⟩ := Int.eq_ofNat_of_zero_le hk
  rw [Int.toNat_natCast]
  by_cases h : k < 16
  · have c := (hB.cell k).trans (nmV_at h)
    have i0 : ¬ (15 : Int) < (k : Int) := by omega
    have i1 : (k : Int) < 16 := by omega
    clear hB g1
    have hW' : W1 = w.alloc (.cells #[.string ⟨#[115, 116, 111, 112]⟩, .string ⟨#[115, 101, 116]⟩, .string ⟨#[109, 111, 118, 101]⟩, .string ⟨#[97, 100, 100]⟩, .string ⟨#[115, 117, 98]⟩, .string ⟨#[97, 110, 100]⟩, .string ⟨#[120, 111, 114]⟩, .string ⟨#[114, 101, 97, 100]⟩, .string ⟨#[119, 114, 105, 116, 101]⟩, .string ⟨#[114, 101, 97, 100, 50]⟩, .string ⟨#[119, 114, 105, 116, 101, 50]⟩, .string ⟨#[106, 117, 109, 112]⟩, .string ⟨#[122, 101, 114, 111]⟩, .string ⟨#[108, 101, 115, 115]⟩, .string ⟨#[99, 97, 108, 108]⟩, .string ⟨#[114, 101, 115, 116]⟩] 94) := hW
    clear hW
    go_enter Tryd.func34, Tryd.ntmps34
    go_upto_region 2 with (fail)
    rw [← hW']
    clear hW'
    go_wp2
    go_ret
    exact ⟨rfl, HG.out⟩
  · have i0 : (15 : Int) < (k : Int) := by omega
    rw [nmL_none (by omega)]
    clear hB g1
    have hW' : W1 = w.alloc (.cells #[.string ⟨#[115, 116, 111, 112]⟩, .string ⟨#[115, 101, 116]⟩, .string ⟨#[109, 111, 118, 101]⟩, .string ⟨#[97, 100, 100]⟩, .string ⟨#[115, 117, 98]⟩, .string ⟨#[97, 110, 100]⟩, .string ⟨#[120, 111, 114]⟩, .string ⟨#[114, 101, 97, 100]⟩, .string ⟨#[119, 114, 105, 116, 101]⟩, .string ⟨#[114, 101, 97, 100, 50]⟩, .string ⟨#[119, 114, 105, 116, 101, 50]⟩, .string ⟨#[106, 117, 109, 112]⟩, .string ⟨#[122, 101, 114, 111]⟩, .string ⟨#[108, 101, 115, 115]⟩, .string ⟨#[99, 97, 108, 108]⟩, .string ⟨#[114, 101, 115, 116]⟩] 94) := hW
    clear hW
    go_enter Tryd.func34, Tryd.ntmps34
    go_upto_region 2 with (fail)
    rw [← hW']
    clear hW'
    go_wp2
    go_ret
    exact ⟨rfl, HG.out⟩
/-- Two bytes as1 a string, behind another block. -/
theorem conv_two (x y : Int) (W : World) (o : Obj) : (convert 50 9 (.slice (some ⟨W.heap.size, 0, none⟩) 2 2)).run Tryd.prog ((W.alloc (.cells #[.int .u8 x, .int .u8 y] 5)).alloc o) =
    .ok (.string ⟨#[UInt8.ofNat x.toNat, UInt8.ofNat y.toNat]⟩) ((W.alloc (.cells #[.int .u8 x, .int .u8 y] 5)).alloc o) := by
  have hb := (Blk.new W 5 #[.int .u8 x, .int .u8 y]).alloc o
  have h := run_convert_bytes_arg (P := Tryd.prog) ((W.alloc (.cells #[.int .u8 x, .int .u8 y] 5)).alloc o) 50 5 Tryd.underlying50 Tryd.underlying5 W.heap.size 0 2 2 [x, y] rfl (by
    intro i hi
    rw [hb.cell]
    match i, hi with
    | 0, _ => simp
    | 1, _ => simp) 9 Tryd.underlying9
  rw [h]
  congr 2
set_option maxRecDepth 20000 in
set_option maxHeartbeats 1600000 in
theorem rput19_any (k : Nat) (x n : Int) (hm : mayI k x n = true) (w : World) : Calls Tryd.prog 13 #[.agg #[.int .u8 k, .int .i64 x, .int .i64 n]] w fun e w' => e = .returned (.string (ptI k x n)) ∧ w.grownBy w' none := by
  obtain ⟨k1, x1, x2, n1, n2⟩ := mayI_facts hm
  obtain ⟨W1, hW, g1, hB⟩ := ibox w 42 #[.int .u8 k, .int .i64 x, .int .i64 n]
  have HS := Lib.hid (show ∀ W, W1.grownBy W none → W.cell? ⟨w.heap.size, 0, none⟩ = some (.int .u8 k) ∧ W.cell? ⟨w.heap.size, 1, none⟩ = some (.int .i64 x) ∧ W.cell? ⟨w.heap.size, 2, none⟩ = some (.int .i64 n) from fun W q => in3 (hB.only q (by simp)))
  have HG := Lib.hid g1
  have hx : IntKind.u8.wrap x = x := by rw [IntKind.wrap_u8]; omega
  have HP := Lib.hid (rput_any n)
  have hk1 : (convert 50 9 (.slice (some ⟨W1.heap.size, 0, none⟩) 2 2)).run Tryd.prog (W1.alloc (.cells #[.int .u8 k, .int .u8 x] 5)).drew = .ok (.string ⟨#[UInt8.ofNat (k : Int).toNat, UInt8.ofNat x.toNat]⟩) (W1.alloc (.cells #[.int .u8 k, .int .u8 x] 5)).drew := run_two_bytes (k : Int) x W1.drew
  have hk2 : (convert 50 9 (.slice (some ⟨W1.heap.size, 0, none⟩) 2 2)).run Tryd.prog ((W1.alloc (.cells #[.int .u8 k, .int .u8 x] 5)).alloc (.cells #[.int .u8 (n % 256), .int .u8 (n / 256 % 256)] 5)).drew = .ok (.string ⟨#[UInt8.ofNat (k : Int).toNat, UInt8.ofNat x.toNat]⟩) ((W1.alloc (.cells #[.int .u8 k, .int .u8 x] 5)).alloc (.cells #[.int .u8 (n % 256), .int .u8 (n / 256 % 256)] 5)).drew := conv_two (k : Int) x W1.drew _
  have hk3 : (convert 50 9 (.slice (some ⟨W1.heap.size + 1, 0, none⟩) 2 2)).run Tryd.prog ((W1.alloc (.cells #[.int .u8 (n % 256), .int .u8 (n / 256 % 256)] 5)).alloc (.cells #[.int .u8 k, .int .u8 x] 5)).drew = .ok (.string ⟨#[UInt8.ofNat (k : Int).toNat, UInt8.ofNat x.toNat]⟩) ((W1.alloc (.cells #[.int .u8 (n % 256), .int .u8 (n / 256 % 256)] 5)).alloc (.cells #[.int .u8 k, .int .u8 x] 5)).drew := by
    have := run_two_bytes (k : Int) x (W1.drew.alloc (.cells #[.int .u8 (n % 256), .int .u8 (n / 256 % 256)] 5))
    rw [show (W1.drew.alloc (.cells #[.int .u8 (n % 256), .int .u8 (n / 256 % 256)] 5)).heap.size = W1.heap.size + 1 by simp] at this
    exact this
  have HV := Lib.hid (show (⟨#[UInt8.ofNat (k : Int).toNat, UInt8.ofNat x.toNat]⟩ : ByteArray) ++ Bt.put n = ptI k x n from by
    apply ByteArray.ext
    rw [ByteArray.data_append]
    simp [Bt.put, ptI])
  have HD := Lib.hid (show W1.grownBy W1.drew none from only_drewN (only_refl W1 none) 1)
  have HDA := Lib.hid (fun o : Obj => (show W1.grownBy (W1.alloc o).drew none from only_drewN (only_alloc (only_refl W1 none) o) 1))
  have HDB := Lib.hid (fun o o' : Obj => (show W1.grownBy ((W1.alloc o).alloc o').drew none from only_drewN (only_alloc (only_alloc (only_refl W1 none) o) o') 1))
  obtain ⟨c0, c1, c2⟩ := HS.out W1 (only_refl _ _)
  have hs1 : (⟨#[UInt8.ofNat (k : Int).toNat, UInt8.ofNat x.toNat]⟩ : ByteArray).size = 2 := rfl
  have hs2 : (Bt.put n).size = 2 := rfl
  obtain ⟨u, hu⟩ : ∃ u : ByteArray, u = ⟨#[UInt8.ofNat (k : Int).toNat, UInt8.ofNat x.toNat]⟩ := ⟨_, rfl⟩
  rw [← hu] at hk1 hk2 hk3 HV hs1
  generalize Bt.put n = v at HP HV hs2
  have hcat : ¬ 9223372036854775807 < u.size + v.size := by omega
  clear hB g1 hm k1 x1 x2 n1 n2 hs1 hs2 hu
  go_enter Tryd.func13, Tryd.ntmps13
  go_upto_region 1 with (fail)
  rw [← hW]
  clear hW
  refine wp_region_held_drew (S := fun W => W.cell? ⟨w.heap.size, 0, none⟩ = some (.int .u8 k) ∧ W.cell? ⟨w.heap.size, 1, none⟩ = some (.int .i64 x) ∧ W.cell? ⟨w.heap.size, 2, none⟩ = some (.int .i64 n)) (by kernel_rfl) (HS.out _ HD.out) (fun hHeld => ?_)
  refine wpAnyH_take (i := 0) (oi := _) (v := ?_) rfl (by kernel_rfl) (by kernel_rfl) (by kernel_rfl) (fun _ _ _ h => h) (Or.inl ⟨by rfl, ?_⟩) (by assumption) ?_
  case refine_2 => intro w hSw; (try dsimp only at hSw); go_simp; try with_reducible rfl
  try simp only [Act.put, List.setIfInBounds_toArray, List.set_cons_zero, List.set_cons_succ]
  refine wpAnyH_take (i := 1) (oi := _) (v := ?_) rfl (by kernel_rfl) (by kernel_rfl) (by kernel_rfl) (fun _ _ _ h => h) (Or.inl ⟨by rfl, ?_⟩) (by assumption) ?_
  case refine_2 => intro w hSw; (try dsimp only at hSw); go_simp; try with_reducible rfl
  try simp only [Act.put, List.setIfInBounds_toArray, List.set_cons_zero, List.set_cons_succ]
  refine wpAnyH_take (i := 2) (oi := _) (v := ?_) rfl (by kernel_rfl) (by kernel_rfl) (by kernel_rfl) (fun _ _ _ h => h) (Or.inl ⟨by rfl, ?_⟩) (by assumption) ?_
  case refine_2 => intro w hSw; (try dsimp only at hSw); go_simp; try with_reducible rfl
  try simp only [Act.put, List.setIfInBounds_toArray, List.set_cons_zero, List.set_cons_succ]
  refine wpAnyH_take (i := 3) (oi := _) (v := ?_) rfl (by kernel_rfl) (by kernel_rfl) (by kernel_rfl) (fun _ _ _ h => h) (Or.inl ⟨by rfl, ?_⟩) (by assumption) ?_
  case refine_2 => intro w hSw; (try dsimp only at hSw); go_simp; try with_reducible rfl
  try simp only [Act.put, List.setIfInBounds_toArray, List.set_cons_zero, List.set_cons_succ]
  refine wpAnyH_take (i := 4) (oi := _) (v := ?_) rfl (by kernel_rfl) (by kernel_rfl) (by kernel_rfl) (fun _ _ _ h => h) (Or.inl ⟨by rfl, ?_⟩) (by assumption) ?_
  case refine_2 => intro w hSw; (try dsimp only at hSw); go_simp; try with_reducible rfl
  try simp only [Act.put, List.setIfInBounds_toArray, List.set_cons_zero, List.set_cons_succ]
  refine wpAnyH_take (i := 7) (oi := _) (v := ?_) rfl (by kernel_rfl) (by kernel_rfl) (by kernel_rfl) (fun _ _ _ h => h) (Or.inl ⟨by rfl, ?_⟩) (by assumption) ?_
  case refine_2 => intro w hSw; (try dsimp only at hSw); go_simp; try with_reducible rfl
  try simp only [Act.put, List.setIfInBounds_toArray, List.set_cons_zero, List.set_cons_succ]
  refine wpAnyH_take (i := 8) (oi := _) (v := ?_) rfl (by kernel_rfl) (by kernel_rfl) (by kernel_rfl) (fun _ _ _ h => h) (Or.inl ⟨by rfl, ?_⟩) (by assumption) ?_
  case refine_2 => intro w hSw; (try dsimp only at hSw); go_simp; try with_reducible rfl
  try simp only [Act.put, List.setIfInBounds_toArray, List.set_cons_zero, List.set_cons_succ]
  refine wpAnyH_ready (rs := [5, 9]) (by kernel_rfl) (by simp) ?_
  refine AllReadyH.cons (o := _) rfl (fun K hK => ?_) (AllReadyH.cons (o := _) rfl (fun K hK => ?_) AllReadyH.nil)
  · skip
    go_simp
    refine hK.out _ _ (HS.out _ (HDA.out _)) (fun hHeld => ?_)
    clear hK K
    try simp only [Act.put, List.setIfInBounds_toArray, List.set_cons_zero, List.set_cons_succ]
    refine wpAnyH_ready (rs := [6, 9]) (by kernel_rfl) (by simp) ?_
    refine AllReadyH.cons (o := _) rfl (fun K hK => ?_) (AllReadyH.cons (o := _) rfl (fun K hK => ?_) AllReadyH.nil)
    · skip
      go_simp
      refine hK.out _ _ (HS.out _ (HDA.out _)) (fun hHeld => ?_)
      clear hK K
      try simp only [Act.put, List.setIfInBounds_toArray, List.set_cons_zero, List.set_cons_succ]
      refine wpAnyH_ready (rs := [9]) (by kernel_rfl) (by simp) ?_
      refine AllReadyH.cons (o := _) rfl (fun K hK => ?_) AllReadyH.nil
      go_simp
      refine (HP.out _).mono ?_
      rintro e w2 ⟨rfl, rfl⟩
      try simp only []
      refine hK.out _ _ (HS.out _ (HDB.out _ _)) (fun hHeld => ?_)
      clear hK K
      try simp only [Act.put, List.setIfInBounds_toArray, List.set_cons_zero, List.set_cons_succ]
      refine wpAnyH_take (i := 10) (oi := _) (v := ?_) rfl (by kernel_rfl) (by kernel_rfl) (by kernel_rfl) (fun _ _ _ h => h) (Or.inl ⟨by rfl, ?_⟩) (by assumption) ?_
      case refine_2 => intro w hSw; (try dsimp only at hSw); go_simp; try with_reducible rfl
      try simp only [Act.put, List.setIfInBounds_toArray, List.set_cons_zero, List.set_cons_succ]
      refine wpAnyH_ready (rs := [11]) (by kernel_rfl) (by simp) ?_
      refine AllReadyH.cons (o := _) rfl (fun K hK => ?_) AllReadyH.nil
      go_simp
      refine hK.out _ _ (HS.out _ (HDB.out _ _)) (fun hHeld => ?_)
      clear hK K
      try simp only [Act.put, List.setIfInBounds_toArray, List.set_cons_zero, List.set_cons_succ]
      refine wpAnyH_done (by kernel_rfl) ?_ _
      go_wp2
      go_ret
      exact ⟨by first | (rw [HV.out]; done) | (rw [HV.out]; rfl), only_trans HG.out (HDB.out _ _)⟩
    · skip
      go_simp
      refine (HP.out _).mono ?_
      rintro e w2 ⟨rfl, rfl⟩
      try simp only []
      refine hK.out _ _ (HS.out _ (HDB.out _ _)) (fun hHeld => ?_)
      clear hK K
      try simp only [Act.put, List.setIfInBounds_toArray, List.set_cons_zero, List.set_cons_succ]
      refine wpAnyH_ready (rs := [6]) (by kernel_rfl) (by simp) ?_
      refine AllReadyH.cons (o := _) rfl (fun K hK => ?_) AllReadyH.nil
      go_simp
      refine hK.out _ _ (HS.out _ (HDB.out _ _)) (fun hHeld => ?_)
      clear hK K
      try simp only [Act.put, List.setIfInBounds_toArray, List.set_cons_zero, List.set_cons_succ]
      refine wpAnyH_take (i := 10) (oi := _) (v := ?_) rfl (by kernel_rfl) (by kernel_rfl) (by kernel_rfl) (fun _ _ _ h => h) (Or.inl ⟨by rfl, ?_⟩) (by assumption) ?_
      case refine_2 => intro w hSw; (try dsimp only at hSw); go_simp; try with_reducible rfl
      try simp only [Act.put, List.setIfInBounds_toArray, List.set_cons_zero, List.set_cons_succ]
      refine wpAnyH_ready (rs := [11]) (by kernel_rfl) (by simp) ?_
      refine AllReadyH.cons (o := _) rfl (fun K hK => ?_) AllReadyH.nil
      go_simp
      refine hK.out _ _ (HS.out _ (HDB.out _ _)) (fun hHeld => ?_)
      clear hK K
      try simp only [Act.put, List.setIfInBounds_toArray, List.set_cons_zero, List.set_cons_succ]
      refine wpAnyH_done (by kernel_rfl) ?_ _
      go_wp2
      go_ret
      exact ⟨by first | (rw [HV.out]; done) | (rw [HV.out]; rfl), only_trans HG.out (HDB.out _ _)⟩
  · skip
    go_simp
    refine (HP.out _).mono ?_
    rintro e w2 ⟨rfl, rfl⟩
    try simp only []
    refine hK.out _ _ (HS.out _ (HDA.out _)) (fun hHeld => ?_)
    clear hK K
    try simp only [Act.put, List.setIfInBounds_toArray, List.set_cons_zero, List.set_cons_succ]
    refine wpAnyH_ready (rs := [5]) (by kernel_rfl) (by simp) ?_
    refine AllReadyH.cons (o := _) rfl (fun K hK => ?_) AllReadyH.nil
    go_simp
    refine hK.out _ _ (HS.out _ (HDB.out _ _)) (fun hHeld => ?_)
    clear hK K
    try simp only [Act.put, List.setIfInBounds_toArray, List.set_cons_zero, List.set_cons_succ]
    refine wpAnyH_ready (rs := [6]) (by kernel_rfl) (by simp) ?_
    refine AllReadyH.cons (o := _) rfl (fun K hK => ?_) AllReadyH.nil
    go_simp
    refine hK.out _ _ (HS.out _ (HDB.out _ _)) (fun hHeld => ?_)
    clear hK K
    try simp only [Act.put, List.setIfInBounds_toArray, List.set_cons_zero, List.set_cons_succ]
    refine wpAnyH_take (i := 10) (oi := _) (v := ?_) rfl (by kernel_rfl) (by kernel_rfl) (by kernel_rfl) (fun _ _ _ h => h) (Or.inl ⟨by rfl, ?_⟩) (by assumption) ?_
    case refine_2 => intro w hSw; (try dsimp only at hSw); go_simp; try with_reducible rfl
    try simp only [Act.put, List.setIfInBounds_toArray, List.set_cons_zero, List.set_cons_succ]
    refine wpAnyH_ready (rs := [11]) (by kernel_rfl) (by simp) ?_
    refine AllReadyH.cons (o := _) rfl (fun K hK => ?_) AllReadyH.nil
    go_simp
    refine hK.out _ _ (HS.out _ (HDB.out _ _)) (fun hHeld => ?_)
    clear hK K
    try simp only [Act.put, List.setIfInBounds_toArray, List.set_cons_zero, List.set_cons_succ]
    refine wpAnyH_done (by kernel_rfl) ?_ _
    go_wp2
    go_ret
    exact ⟨by first | (rw [HV.out]; done) | (rw [HV.out]; rfl), only_trans HG.out (HDB.out _ _)⟩
end Go.Proofs.YtldbhcbmcogmfaaDoor

/- The document's word on instructions: the instruction of bytes, by its contract. -/
namespace Go.Proofs.YtldbhcbmcogmfaaDoor
open Go.RowKit Go.Lib
set_option linter.unusedVariables false

end Go.Proofs.YtldbhcbmcogmfaaDoor

/- CodePuts and CodeGets, walked. -/
namespace Go.Proofs.YtldbhcbmcogmfaaDoor
open Go.RowKit Go.Lib
set_option linter.unusedVariables false

theorem eq_ins (a : Int) (x n : Int) (w : World) : (binOp BinOp.eql 42 (.agg #[.int .u8 a, .int .i64 x, .int .i64 n]) (.agg #[.int .u8 a, .int .i64 x, .int .i64 n])).run Tryd.prog w = .ok (.bool true) w := by
  rw [run_eql_struct, run_equalIn_agg w 9999 _ _ _ (by kernel_rfl) (by kernel_rfl)]
  have hf : (Tryd.prog.fieldsOf 42).toList.map (fun f => (f.name, f.type, f.offset)) = [("Code", 40, 0), ("X", 3, 1), ("N", 3, 2)] := by kernel_rfl
  generalize (Tryd.prog.fieldsOf 42).toList = fs at hf
  have hlen := congrArg List.length hf
  simp only [List.length_map, List.length_cons, List.length_nil] at hlen
  obtain ⟨f0, f1, f2, rfl⟩ : ∃ f0 f1 f2, fs = [f0, f1, f2] := by
    match fs, hlen with
    | [f0, f1, f2], _ => exact ⟨f0, f1, f2, rfl⟩
  simp only [List.map_cons, List.map_nil, List.cons.injEq, Prod.mk.injEq, and_true] at hf
  obtain ⟨⟨p0, q0, r0⟩, ⟨p1, q1, r1⟩, ⟨p2, q2, r2⟩⟩ := hf
  simp [Op.eqFields, p0, q0, r0, p1, q1, r1, p2, q2, r2, part, run_equalIn_int _ _ _ _ _ _ _ Tryd.underlying3, run_equalIn_int _ _ _ _ _ _ _ Tryd.underlying40, go_sem]
theorem neq_ins (a : Int) (x n : Int) (w : World) : (binOp BinOp.neq 42 (.agg #[.int .u8 a, .int .i64 x, .int .i64 n]) (.agg #[.int .u8 a, .int .i64 x, .int .i64 n])).run Tryd.prog w = .ok (.bool false) w := by
  rw [run_neq_struct, run_equalIn_agg w 9999 _ _ _ (by kernel_rfl) (by kernel_rfl)]
  have hf : (Tryd.prog.fieldsOf 42).toList.map (fun f => (f.name, f.type, f.offset)) = [("Code", 40, 0), ("X", 3, 1), ("N", 3, 2)] := by kernel_rfl
  generalize (Tryd.prog.fieldsOf 42).toList = fs at hf
  have hlen := congrArg List.length hf
  simp only [List.length_map, List.length_cons, List.length_nil] at hlen
  obtain ⟨f0, f1, f2, rfl⟩ : ∃ f0 f1 f2, fs = [f0, f1, f2] := by
    match fs, hlen with
    | [f0, f1, f2], _ => exact ⟨f0, f1, f2, rfl⟩
  simp only [List.map_cons, List.map_nil, List.cons.injEq, Prod.mk.injEq, and_true] at hf
  obtain ⟨⟨p0, q0, r0⟩, ⟨p1, q1, r1⟩, ⟨p2, q2, r2⟩⟩ := hf
  simp [Op.eqFields, p0, q0, r0, p1, q1, r1, p2, q2, r2, part, run_equalIn_int _ _ _ _ _ _ _ Tryd.underlying3, run_equalIn_int _ _ _ _ _ _ _ Tryd.underlying40, go_sem]
attribute [-go_sem] Go.run_neq_struct
attribute [-go_sem] Go.run_eql_struct
theorem ptI_size (k : Nat) (x n : Int) : (ptI k x n).size = 4 := rfl
theorem gb_pt {k : Nat} {x n : Int} (hm : mayI k x n = true) : gb (ptI k x n) 0 = k ∧ (gb (ptI k x n) 1 : Int) = x ∧ (gw (ptI k x n) 2 : Int) = n := by
  obtain ⟨k1, x1, x2, n1, n2⟩ := mayI_facts hm
  have e0 : gb (ptI k x n) 0 = (UInt8.ofNat k).toNat := rfl
  have e1 : gb (ptI k x n) 1 = (UInt8.ofNat x.toNat).toNat := rfl
  have e2 : gb (ptI k x n) 2 = (UInt8.ofNat (n % 256).toNat).toNat := rfl
  have e3 : gb (ptI k x n) 3 = (UInt8.ofNat (n / 256 % 256).toNat).toNat := rfl
  have e4 : gw (ptI k x n) 2 = gb (ptI k x n) 2 + 256 * gb (ptI k x n) 3 := by unfold gw; rw [if_pos (by rw [ptI_size]; omega)]
  refine ⟨?_, ?_, ?_⟩
  · rw [e0]; simp; omega
  · rw [e1]; simp; omega
  · rw [e4, e2, e3]; simp; omega
theorem getV_pt {k : Nat} {x n : Int} (hm : mayI k x n = true) : getV (ptI k x n) = .tuple #[.agg #[.int .u8 k, .int .i64 x, .int .i64 n], .int .i64 0] := by
  obtain ⟨h1, h2, h3⟩ := gb_pt hm
  unfold getV
  rw [if_neg (by rw [ptI_size]; omega), h1, h2, h3, if_pos hm]
end Go.Proofs.YtldbhcbmcogmfaaDoor

/- CodeGets, walked. -/
namespace Go.Proofs.YtldbhcbmcogmfaaDoor
open Go.RowKit Go.Lib
attribute [-go_sem] Go.run_neq_struct
attribute [-go_sem] Go.run_eql_struct
set_option linter.unusedVariables false

theorem pt_cut {t : ByteArray} (h : 4 ≤ t.size) : ptI (gb t 0) (gb t 1) (gw t 2) = t.extract 0 4 := by
  have e4 : gw t 2 = gb t 2 + 256 * gb t 3 := by unfold gw; rw [if_pos (by omega)]
  have l2 := gb_lt t 2
  have l3 := gb_lt t 3
  apply ByteArray.ext
  apply Array.ext
  · show 4 = _
    simp
    omega
  · intro i h1 h2
    have h1' : i < 4 := h1
    have key : i = 0 ∨ i = 1 ∨ i = 2 ∨ i = 3 := by omega
    have he : ∀ j (hj : j < t.size) (hk : j < (t.extract 0 4).data.size), (t.extract 0 4).data[j] = t[j] := fun j hj hk => by
      have hk' : j < (t.extract 0 4).size := hk
      show (t.extract 0 4)[j] = t[j]
      simp [ByteArray.getElem_extract]
    rcases key with rfl | rfl | rfl | rfl
    · rw [he 0 (by omega)]
      show UInt8.ofNat (gb t 0) = _
      rw [gb_of (by omega)]
      simp
    · rw [he 1 (by omega)]
      show UInt8.ofNat ((gb t 1 : Int)).toNat = _
      rw [gb_of (by omega)]
      simp
    · rw [he 2 (by omega)]
      show UInt8.ofNat (((gw t 2 : Nat) : Int) % 256).toNat = _
      rw [e4, show ((((gb t 2 + 256 * gb t 3 : Nat) : Int) % 256).toNat) = gb t 2 by omega, gb_of (by omega)]
      simp
    · rw [he 3 (by omega)]
      show UInt8.ofNat (((gw t 2 : Nat) : Int) / 256 % 256).toNat = _
      rw [e4, show ((((gb t 2 + 256 * gb t 3 : Nat) : Int) / 256 % 256).toNat) = gb t 3 by omega, gb_of (by omega)]
      simp
end Go.Proofs.YtldbhcbmcogmfaaDoor

/- Package code: All, by its contract. -/
namespace Go.Proofs.YtldbhcbmcogmfaaDoor
open Go.RowKit Go.Lib
set_option linter.unusedVariables false

theorem kflat_len {α : Type} (f : Nat → List α) (s : Nat) (hf : ∀ i, (f i).length = s) (n : Nat) : ((List.range n).flatMap f).length = n * s := by
  induction n with
  | zero => simp
  | succ n ih =>
    rw [List.range_succ, List.flatMap_append, List.length_append, ih, Nat.add_mul, Nat.one_mul]
    simp [hf]
theorem kflat_get {α : Type} (f : Nat → List α) (s : Nat) (hf : ∀ i, (f i).length = s) (n i t : Nat) (hi : i < n) (ht : t < s) : ((List.range n).flatMap f)[i * s + t]? = (f i)[t]? := by
  induction n with
  | zero => omega
  | succ n ih =>
    have hl := kflat_len f s hf n
    rw [List.range_succ, List.flatMap_append]
    by_cases h : i < n
    · have : (i + 1) * s ≤ n * s := Nat.mul_le_mul_right s h
      rw [Nat.add_mul, Nat.one_mul] at this
      rw [List.getElem?_append_left (by omega), ih h]
    · obtain rfl : i = n := by omega
      rw [List.getElem?_append_right (by omega), hl, Nat.add_sub_cancel_left]
      simp
/-- The instruction that lies at a text's place 4 i, as1 cells. -/
def cI (t : ByteArray) (i : Nat) : List Value := [.int .u8 (gb t (4 * i)), .int .i64 (gb t (4 * i + 1)), .int .i64 (gw t (4 * i + 2))]
def cIL (t : ByteArray) (n : Nat) : List Value := (List.range n).flatMap (cI t)
theorem cIL_succ (t : ByteArray) (n : Nat) : cIL t (n + 1) = cIL t n ++ cI t n := by
  simp [cIL, List.range_succ, List.flatMap_append]
theorem cIL_one (t : ByteArray) (n : Nat) : ∀ u ∈ cIL t n, u.oneCell' = true := by
  intro u hu
  simp only [cIL, cI, List.mem_flatMap] at hu
  obtain ⟨i, _, h⟩ := hu
  simp at h
  rcases h with rfl | rfl | rfl <;> rfl
theorem cIL_get {t : ByteArray} {n i k : Nat} (hi : i < n) (hk : k < 3) : (cIL t n)[i * 3 + k]? = (cI t i)[k]? := kflat_get _ 3 (fun i => rfl) n i k hi hk
/-- Why no instruction lies there; 0: one does. -/
def eA (t : ByteArray) (j : Nat) : Int := if t.size < 4 * j + 4 then 5 else if mayI (gb t (4 * j)) (gb t (4 * j + 1)) (gw t (4 * j + 2)) = true then 0 else 12
theorem gb_cut {t : ByteArray} {p : Nat} (h : p ≤ t.size) (i : Nat) : gb (t.extract p t.size) i = gb t (p + i) := by
  have hs : (t.extract p t.size).size = t.size - p := by simp
  by_cases hi : p + i < t.size
  · rw [gb_of (show i < (t.extract p t.size).size by omega), gb_of hi]
    simp [ByteArray.getElem_extract]
  · rw [gb_off (by omega), gb_off (by omega)]
theorem gw_cut {t : ByteArray} {p : Nat} (h : p ≤ t.size) (i : Nat) : gw (t.extract p t.size) i = gw t (p + i) := by
  have hs : (t.extract p t.size).size = t.size - p := by simp
  unfold gw
  rw [gb_cut h, gb_cut h, hs]
  by_cases hi : p + i + 2 ≤ t.size
  · rw [if_pos (by omega), if_pos hi, Nat.add_assoc]
  · rw [if_neg (by omega), if_neg hi]
theorem getV_cut {t : ByteArray} {j : Nat} (h : 4 * j ≤ t.size) : getV (t.extract (4 * j) t.size) = if eA t j = 0 then .tuple #[.agg #[.int .u8 (gb t (4 * j)), .int .i64 (gb t (4 * j + 1)), .int .i64 (gw t (4 * j + 2))], .int .i64 0] else .tuple #[.agg #[.int .u8 0, .int .i64 0, .int .i64 0], .int .i64 (eA t j)] := by
  have hs : (t.extract (4 * j) t.size).size = t.size - 4 * j := by simp
  unfold getV eA
  rw [gb_cut h, gb_cut h, gw_cut h, hs, Nat.add_zero]
  by_cases h4 : t.size < 4 * j + 4
  · rw [if_pos (by omega), if_pos h4, if_neg (by decide)]
  · rw [if_neg (by omega), if_neg h4]
    by_cases hm : mayI (gb t (4 * j)) (gb t (4 * j + 1)) (gw t (4 * j + 2)) = true
    · rw [if_pos hm, if_pos hm, if_pos rfl]
    · rw [if_neg hm, if_neg hm, if_neg (by decide)]
theorem eA_size {t : ByteArray} {j : Nat} (h : eA t j = 0) : 4 * j + 4 ≤ t.size := by
  unfold eA at h
  by_cases h4 : t.size < 4 * j + 4
  · rw [if_pos h4] at h
    cases h
  · omega
theorem instr_info : (Tryd.prog.info? 42).map (fun i => (i.zero, i.size, i.bytes)) = some (some (.agg #[.int .u8 0, .int .i64 0, .int .i64 0]), 3, 24) := by kernel_rfl
/-- The instructions so far. -/
def AiS (w : World) (t : ByteArray) (s : Value) (wr : World) (i : Nat) : Prop := RowZ 3 wr s i (cIL t i) ∧ (∀ k, s.ownBlock = some k → w.heap.size ≤ k) ∧ Below w.heap.size w wr
theorem ai_push {w wr w2 : World} {t : ByteArray} {va : Option Addr} {vc g i : Nat} (h : AiS w t (.slice va i vc) wr i) (hi : i ≤ 100000) (g2 : wr.grownBy w2 none) (hb : Blk w2 g 42 #[.int .u8 (gb t (4 * i)), .int .i64 (gb t (4 * i + 1)), .int .i64 (gw t (4 * i + 2))]) :
    ∃ A c w', (Builtin.append_ #[38, 38] 38 #[.slice va i vc, .slice (some ⟨g, 0, none⟩) 1 1]).run Tryd.prog w2 = .ok (.slice A (i + 1) c) w' ∧ AiS w t (.slice A (i + 1) c) w' (i + 1) := by
  obtain ⟨hrow, hown, hbel⟩ := h
  obtain ⟨i0, hi0, hz0, hz1, hz2⟩ := info_parts instr_info
  have hsrc : Src Tryd.prog 3 38 (.slice (some ⟨g, 0, none⟩) 1 1) 1 (cI t i) w2 := Src.ofSlice _ Tryd.underlying38 _ _ _ _ rfl (fun j u hu => by
    rw [addr_at, Nat.zero_add, hb.cell j]
    simpa [cI] using hu) (by simp [cI, Value.oneCell'])
  obtain ⟨v', w', hk, hr3, hg', ho⟩ := run_pushZ (P := Tryd.prog) w2 38 42 38 i0 _ 24 Tryd.underlying38 hi0 hz0 hz1 hz2 (by omega) rfl _ _ _ (hrow.grown g2) (cIL_one _ _) _ _ hsrc (by omega)
  have hs2 := g2.size
  have hs1 := hbel.size
  have hbel2 := hbel.trans (below_of_only g2 hs1 (by simp))
  have hrow' : RowZ 3 w' v' (i + 1) (cIL t (i + 1)) := by rw [cIL_succ]; exact hr3
  have hown' : ∀ k, v'.ownBlock = some k → w.heap.size ≤ k := fun k hk => by
    rcases ho with ho | ho
    · exact hown k (ho ▸ hk)
    · rw [ho] at hk
      injection hk with hk
      omega
  have hbel' := hbel2.trans (below_of_only hg' hbel2.size (fun k hk => by have := hown k hk; omega))
  have hform : ∃ A c, v' = .slice A (i + 1) c := by
    rcases hrow'.2 with ⟨_, h0⟩ | ⟨g', off, cap, e, _⟩
    · omega
    · exact ⟨_, _, e⟩
  obtain ⟨A, c, rfl⟩ := hform
  exact ⟨A, c, w', hk, hrow', hown', hbel'⟩
/-- What All answers. -/
def AllV (t : ByteArray) (w : World) (e : Ending) (w' : World) : Prop :=
  (∃ j : Nat, 4 * j < t.size ∧ (∀ i, i < j → eA t i = 0) ∧ eA t j ≠ 0 ∧ e = .returned (.tuple #[.slice none 0 0, .int .i64 ((4 * j : Nat) : Int), .int .i64 (eA t j)]) ∧ Below w.heap.size w w') ∨
  (∃ (n : Nat) (A : Option Addr) (c : Nat), t.size = 4 * n ∧ (∀ i, i < n → eA t i = 0) ∧ e = .returned (.tuple #[.slice A n c, .int .i64 (t.size : Int), .int .i64 0]) ∧ AiS w t (.slice A n c) w' n)
end Go.Proofs.YtldbhcbmcogmfaaDoor
