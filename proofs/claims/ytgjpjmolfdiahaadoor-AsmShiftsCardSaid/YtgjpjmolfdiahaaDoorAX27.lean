/- AsmShifts, walked. -/
import Derived.Test.YtgjpjmolfdiahaaDoorAX26
namespace Go.Proofs.YtgjpjmolfdiahaaDoor
open Go.RowKit Go.Lib
set_option linter.unusedVariables false

theorem Am.one_ws {i : Nat} {l : Am.Ln} {st : Am.St} (h : ∀ x ∈ st.ws, x.1 ≤ i) : ∀ x ∈ (Am.one i l st).2.ws, x.1 ≤ i := by
  unfold Am.one
  by_cases h0 : l.kind = 0
  · rw [if_pos h0]; exact h
  · rw [if_neg h0]
    by_cases h1 : l.kind = 1
    · rw [if_pos h1]
      split
      · exact h
      · exact h
    · rw [if_neg h1]
      by_cases h2 : l.kind = 2
      · rw [if_pos h2]
        split
        · exact h
        · intro x hx
          simp only at hx
          split at hx
          · exact h x hx
          · rcases List.mem_append.1 hx with hx | hx
            · exact h x hx
            · simp at hx
              subst hx
              exact Nat.le_refl _
      · rw [if_neg h2]; exact h
theorem Am.go_lines : ∀ (l : List (List UInt8)) (i : Nat) (st : Am.St), (∀ x ∈ st.ws, x.1 ≤ i) → (Am.go i l st).2.1 ≤ i + l.length ∧ ∀ x ∈ (Am.go i l st).2.2.ws, x.1 ≤ i + l.length
  | [], i, st, h => ⟨Nat.zero_le _, fun x hx => by have := h x hx; simp; omega⟩
  | y :: r, i, st, h => by
    unfold Am.go
    by_cases q : (Am.one (i + 1) (Am.line y) st).1 = 0
    · rw [if_pos q]
      obtain ⟨a, b⟩ := Am.go_lines r (i + 1) (Am.one (i + 1) (Am.line y) st).2 (Am.one_ws (fun x hx => by have := h x hx; omega))
      exact ⟨by rw [List.length_cons]; omega, fun x hx => by have := b x hx; rw [List.length_cons]; omega⟩
    · rw [if_neg q]
      exact ⟨by rw [List.length_cons]; simp, fun x hx => by have := h x hx; rw [List.length_cons]; omega⟩
theorem Am.ful_lines (lb : List (List UInt8 × Nat)) (n : Nat) : ∀ (ws : List (Nat × List UInt8 × Nat)) (p : List UInt8), (∀ x ∈ ws, x.1 ≤ n) → (Am.ful lb ws p).2.1 ≤ n
  | [], p, h => Nat.zero_le _
  | x :: r, p, h => by
    unfold Am.ful
    cases Am.look lb x.2.1 with
    | none => exact h x (by simp)
    | some a => exact Am.ful_lines lb n r _ (fun y hy => h y (List.mem_cons_of_mem _ hy))
theorem Am.read_line (s : List UInt8) : (Am.read s).2.1 ≤ s.length + 1 := by
  obtain ⟨a, b⟩ := Am.go_lines (Am.spl 10 s) 0 Am.st0 (fun x hx => by cases hx)
  have hl : (Am.spl 10 s).length ≤ s.length + 1 := by
    rw [Am.spl_len]
    have := List.count_le_length (a := (10 : UInt8)) (l := s)
    omega
  unfold Am.read
  split
  · exact Nat.zero_le _
  · split
    · split
      · exact Nat.zero_le _
      · have := Am.ful_lines (Am.go 0 (Am.spl 10 s) Am.st0).2.2.lb (0 + (Am.spl 10 s).length) _ (Am.go 0 (Am.spl 10 s) Am.st0).2.2.pr b
        simp only
        omega
    · simp only
      omega
def Am.ex : ByteArray := ⟨#[115, 101, 116, 32, 114, 49, 32, 101, 110, 100, 10, 106, 117, 109, 112, 32, 101, 110, 100, 10, 101, 110, 100, 58, 10, 115, 116, 111, 112]⟩
theorem Am.ex_read : (Am.read Am.ex.data.toList).1 = 0 ∧ (Am.read Am.ex.data.toList).2.1 = 0 ∧ (Am.read Am.ex.data.toList).2.2.1 = [1, 1, 8, 0, 11, 0, 8, 0, 0, 0, 0, 0] := by decide +kernel
set_option maxRecDepth 20000 in
theorem Am.live20_any (w : World) (hg : Am.Gl w) : Calls Tryd.prog 7 #[] w fun r w' => r = .returned (.bool true) ∧ Below w.heap.size w w' := by
  have h := Am.assemble_any Am.ex (by decide) w hg
  obtain ⟨e1, e2, e3⟩ := Am.ex_read
  rw [e1, e2, e3] at h
  unfold Am.ex at h
  have HA := Lib.hid h
  clear h e1 e2 e3 hg
  go_enter Tryd.func7, Tryd.ntmps7
  go_wp2_with (first
    | (go_at_call 8; (with_reducible refine HA.out.mono ?_); rintro r w2 ⟨rfl, bel⟩))
  go_ret
  exact ⟨by first | rfl | (simp; done), bel⟩
theorem Am.rem_next {rem ln : ByteArray} {k : Nat} (hk : k < rem.size) (h : ln.data.toList = 35 :: rem.data.toList.take k) (hn : (10 : UInt8) ∉ rem.data.toList.take k) (h10 : rem[k]'hk ≠ 10) : (ln ++ rem.extract k (k + 1)).data.toList = 35 :: rem.data.toList.take (k + 1) ∧ (10 : UInt8) ∉ rem.data.toList.take (k + 1) := by
  have hl : k < rem.data.toList.length := by rw [Am.len]; exact hk
  have he : rem.data.toList[k] = rem[k]'hk := by simp; rfl
  have ht : rem.data.toList.take (k + 1) = rem.data.toList.take k ++ [rem[k]'hk] := by rw [Am.take_next hl, he]
  refine ⟨?_, ?_⟩
  · rw [ByteArray.data_append, Array.toList_append, h, ht, Go.Lib.extract_data]
    simp only [List.cons_append]
    congr 2
    rw [show k + 1 - k = 1 from by omega, List.drop_eq_getElem_cons hl, he]
    rfl
  · rw [ht, List.mem_append]
    rintro (e | e)
    · exact hn e
    · simp at e
      exact h10 e.symm
set_option maxRecDepth 20000 in
set_option maxHeartbeats 3200000 in
theorem asmshifts_walk (s rem : ByteArray) (w : World) (hg : Am.Gl w) : Calls Tryd.prog 6 #[.string s, .string rem] w fun r w' => r = .returned (.bool true) ∧ Below w.heap.size w w' := by
  have HL := Lib.hid (fun (W : World) (k : Below w.heap.size w W) => Am.live20_any W (hg.below k hg.sz))
  by_cases h1 : 2000 < s.size
  · have i1 : (2000 : Int) < (s.size : Int) := by omega
    clear hg
    go_enter Tryd.func6, Tryd.ntmps6
    go_wp2_with (first
      | (go_at_call 7; (with_reducible refine (HL.out _ (Below.refl _ _)).mono ?_); rintro r w2 ⟨rfl, bel⟩))
    go_ret
    exact ⟨rfl, bel⟩
  have i1 : ¬ (2000 : Int) < (s.size : Int) := by omega
  by_cases h2 : 100 < rem.size
  · have i2 : (100 : Int) < (rem.size : Int) := by omega
    clear hg
    go_enter Tryd.func6, Tryd.ntmps6
    go_wp2_with (first
      | (go_at_call 7; (with_reducible refine (HL.out _ (Below.refl _ _)).mono ?_); rintro r w2 ⟨rfl, bel⟩))
    go_ret
    exact ⟨rfl, bel⟩
  have i2 : ¬ (100 : Int) < (rem.size : Int) := by omega
  have HS := Lib.hid (show s.size ≤ 2000 ∧ rem.size ≤ 100 from ⟨by omega, by omega⟩)
  have HA1 := Lib.hid (Am.assemble_any s (by omega) w hg)
  have HG := Lib.hid hg
  have HRL := Lib.hid (Am.len rem)
  clear hg h1 h2
  go_enter Tryd.func6, Tryd.ntmps6
  go_upto_region 5 with (fail)
  go_loopw [5, 6] (fun l y wr => ∃ (k : Nat) (ln : ByteArray), l = .string ln ∧ y = .int .i64 k ∧ k ≤ rem.size ∧ Hid (ln.data.toList = 35 :: rem.data.toList.take k) ∧ Hid ((10 : UInt8) ∉ rem.data.toList.take k) ∧ w = wr) (fun _ y _ => rem.size - (Go.Lib.intOf y).toNat)
  case atStart => exact ⟨0, ⟨#[35]⟩, rfl, rfl, by omega, Lib.hid (by simp), Lib.hid (by simp), rfl⟩
  case round =>
    obtain ⟨k, ln, rfl, rfl, hk, HK, HN, rfl⟩ := hrel
    have k0 : (0 : Int) ≤ (k : Int) := by omega
    have TAIL : ∀ (x : ByteArray), x = ln ++ ⟨#[10, 10]⟩ ++ s → (Am.read x.data.toList).1 = (Am.read s.data.toList).1 ∧ (Am.read x.data.toList).2.2.1 = (Am.read s.data.toList).2.2.1 ∧ ((Am.read s.data.toList).1 = 0 → (Am.read x.data.toList).2.1 = 0 ∧ (Am.read s.data.toList).2.1 = 0) ∧ ((Am.read s.data.toList).1 ≠ 0 → (Am.read x.data.toList).2.1 = (Am.read s.data.toList).2.1 + 2) := by
      intro x hx
      have e : x.data.toList = (35 :: rem.data.toList.take k) ++ 10 :: 10 :: s.data.toList := by
        rw [hx]
        simp [HK.out]
      rw [e]
      refine Am.read_sh _ _ rfl ?_ ?_
      · intro h
        rcases List.mem_cons.1 h with h | h
        · cases h
        · exact HN.out h
      · have := HS.out
        have := HRL.out
        have := Am.len s
        simp
        omega
    have TX := TAIL _ rfl
    have LS := Lib.hid (show ln.size ≤ 101 from by
      have := congrArg List.length HK.out
      rw [Am.len] at this
      have := HS.out
      have := HRL.out
      simp at *
      omega)
    have g1 : ¬ 9223372036854775807 < ln.size + 2 := by have := LS.out; omega
    have g2 : ¬ 9223372036854775807 < ln.size + 2 + s.size := by have := LS.out; have := HS.out; omega
    have g3 : ¬ 9223372036854775807 < ln.size + 1 := by have := LS.out; omega
    have g4 : ¬ 9223372036854775807 < ln.size + (k + 1 - k) := by have := LS.out; omega
    have g5 : ¬ 9223372036854775807 < ln.size + (rem.extract k (k + 1)).size := by
      have h9 : (rem.extract k (k + 1)).size ≤ rem.size := by
        rw [ByteArray.size_extract]
        omega
      have := LS.out
      have := HS.out
      omega
    have HA2 := Lib.hid (fun (W : World) (k : Below w.heap.size w W) => Am.assemble_any (ln ++ ⟨#[10, 10]⟩ ++ s) (by have := HS.out; have := HRL.out; have := congrArg List.length HK.out; rw [Am.len] at this; simp at this; rw [ByteArray.size_append, ByteArray.size_append, show (⟨#[10, 10]⟩ : ByteArray).size = 2 from rfl]; omega) W (HG.out.below k HG.out.sz))
    obtain ⟨t1, t2, t3, t4⟩ := TX
    rw [t1, t2] at HA2
    have LB := Lib.hid (show (Am.read s.data.toList).2.1 ≤ 2001 from by have := Am.read_line s.data.toList; have := Am.len s; have := HS.out; omega)
    clear TAIL t1 t2
    generalize (Am.read (ln ++ ⟨#[10, 10]⟩ ++ s).data.toList).2.1 = n2 at *
    have T3 := Lib.hid t3
    have T4 := Lib.hid t4
    clear t3 t4
    have HX : Hid (∃ (E : Int) (n1 : Nat) (P : ByteArray), n1 ≤ 2001 ∧ (E = 0 → n2 = 0 ∧ n1 = 0) ∧ (E ≠ 0 → n2 = n1 + 2) ∧
        (Calls Tryd.prog 8 #[.string s] w fun r w' => r = .returned (.tuple #[.string P, .int .i64 n1, .int .i64 E]) ∧ Below w.heap.size w w') ∧
        (∀ W, Below w.heap.size w W → Calls Tryd.prog 8 #[.string (ln ++ ⟨#[10, 10]⟩ ++ s)] W fun r w' => r = .returned (.tuple #[.string P, .int .i64 n2, .int .i64 E]) ∧ Below W.heap.size W w')) := Lib.hid ⟨_, _, _, LB.out, T3.out, T4.out, HA1.out, HA2.out⟩
    clear HA1 HA2 T3 T4 LB
    obtain ⟨E, n1, P, lb, t3, t4, a1, a2⟩ := HX.out
    have HA1 := Lib.hid a1
    have HA2 := Lib.hid a2
    have HB1 := Lib.hid lb
    clear HX a1 a2 lb
    by_cases hE : E = 0
    · obtain ⟨z1, z2⟩ := t3 hE
      subst hE z1 z2
      clear t3 t4
      by_cases hin : k < rem.size
      case neg =>
        obtain rfl : k = rem.size := by omega
        clear hk
        go_wp2_with (first
          | (go_at_call 8; first
              | ((with_reducible refine HA1.out.mono ?_); rintro r w2 ⟨rfl, bel⟩; have B2 := Lib.hid bel; clear bel)
              | ((with_reducible refine (HA2.out _ B2.out).mono ?_); rintro r w3 ⟨rfl, bel⟩; have B3 := Lib.hid (B2.out.trans (bel.mono B2.out.size)); clear bel))
          | (go_at_call 7; (with_reducible refine (HL.out _ B3.out).mono ?_); rintro r w4 ⟨rfl, bel⟩; have B4 := Lib.hid (B3.out.trans (bel.mono B3.out.size)); clear bel))
        go_ret
        exact ⟨by first | rfl | (simp; done), B4.out⟩
      have i3 : (k : Int) < (rem.size : Int) := by omega
      by_cases hnl : ((rem[k]'hin).toNat : Int) = 10
      · have q5 : (((rem[k]'hin).toNat : Int) == 10) = true := by simpa using hnl
        have q9 : (((rem[k]'hin).toNat : Int) != 10) = false := by simp [hnl]
        clear hk
        go_wp2_with (first
          | (go_at_call 8; first
              | ((with_reducible refine HA1.out.mono ?_); rintro r w2 ⟨rfl, bel⟩; have B2 := Lib.hid bel; clear bel)
              | ((with_reducible refine (HA2.out _ B2.out).mono ?_); rintro r w3 ⟨rfl, bel⟩; have B3 := Lib.hid (B2.out.trans (bel.mono B2.out.size)); clear bel))
          | (go_at_call 7; (with_reducible refine (HL.out _ B3.out).mono ?_); rintro r w4 ⟨rfl, bel⟩; have B4 := Lib.hid (B3.out.trans (bel.mono B3.out.size)); clear bel))
        go_ret
        exact ⟨by first | rfl | (simp; done), B4.out⟩
      have KL := Lib.hid hin
      have q5 : (((rem[k]'hin).toNat : Int) == 10) = false := by simpa using hnl
      have q9 : (((rem[k]'hin).toNat : Int) != 10) = true := by simpa using hnl
      have q6 : (k : Int) ≤ (k : Int) + 1 := by omega
      have q7 : (k : Int) + 1 ≤ (rem.size : Int) := by omega
      have q8 : (0 : Int) ≤ (k : Int) + 1 := by omega
      have u9 : IntKind.i64.wrap ((k : Int) + 1) = (k : Int) + 1 := by rw [IntKind.wrap_i64]; have := HS.out; omega
      have NXT := Lib.hid (show (ln ++ rem.extract k (k + 1)).data.toList = 35 :: rem.data.toList.take (k + 1) ∧ (10 : UInt8) ∉ rem.data.toList.take (k + 1) from Am.rem_next hin HK.out HN.out (fun e => hnl (by rw [e]; rfl)))
      clear hk
      go_wp2
      go_roundw
      case rel => exact ⟨k + 1, ln ++ rem.extract k (k + 1), by first | rfl | (congr 1; done) | trace_state, by go_num, KL.out, Lib.hid NXT.out.1, Lib.hid NXT.out.2, by first | rfl | trivial⟩
      case measure =>
        have := KL.out
        simp [Go.Lib.intOf]
        omega
    · have z := t4 hE
      subst z
      have q1 : (E == 0) = false := by simpa using hE
      have q2 : (E != 0) = true := by simpa using hE
      have u1 : IntKind.i64.wrap ((n1 : Int) + 2) = (n1 : Int) + 2 := by rw [IntKind.wrap_i64]; have := HB1.out; omega
      have u2 : ((n1 + 2 : Nat) : Int) = (n1 : Int) + 2 := by omega
      rw [u2] at HA2
      clear t3 t4 u2
      by_cases hin : k < rem.size
      case neg =>
        obtain rfl : k = rem.size := by omega
        clear hk
        go_wp2_with (first
          | (go_at_call 8; first
              | ((with_reducible refine HA1.out.mono ?_); rintro r w2 ⟨rfl, bel⟩; have B2 := Lib.hid bel; clear bel)
              | ((with_reducible refine (HA2.out _ B2.out).mono ?_); rintro r w3 ⟨rfl, bel⟩; have B3 := Lib.hid (B2.out.trans (bel.mono B2.out.size)); clear bel))
          | (go_at_call 7; (with_reducible refine (HL.out _ B3.out).mono ?_); rintro r w4 ⟨rfl, bel⟩; have B4 := Lib.hid (B3.out.trans (bel.mono B3.out.size)); clear bel))
        go_ret
        exact ⟨by first | rfl | (simp; done), B4.out⟩
      have i3 : (k : Int) < (rem.size : Int) := by omega
      by_cases hnl : ((rem[k]'hin).toNat : Int) = 10
      · have q5 : (((rem[k]'hin).toNat : Int) == 10) = true := by simpa using hnl
        have q9 : (((rem[k]'hin).toNat : Int) != 10) = false := by simp [hnl]
        clear hk
        go_wp2_with (first
          | (go_at_call 8; first
              | ((with_reducible refine HA1.out.mono ?_); rintro r w2 ⟨rfl, bel⟩; have B2 := Lib.hid bel; clear bel)
              | ((with_reducible refine (HA2.out _ B2.out).mono ?_); rintro r w3 ⟨rfl, bel⟩; have B3 := Lib.hid (B2.out.trans (bel.mono B2.out.size)); clear bel))
          | (go_at_call 7; (with_reducible refine (HL.out _ B3.out).mono ?_); rintro r w4 ⟨rfl, bel⟩; have B4 := Lib.hid (B3.out.trans (bel.mono B3.out.size)); clear bel))
        go_ret
        exact ⟨by first | rfl | (simp; done), B4.out⟩
      have KL := Lib.hid hin
      have q5 : (((rem[k]'hin).toNat : Int) == 10) = false := by simpa using hnl
      have q9 : (((rem[k]'hin).toNat : Int) != 10) = true := by simpa using hnl
      have q6 : (k : Int) ≤ (k : Int) + 1 := by omega
      have q7 : (k : Int) + 1 ≤ (rem.size : Int) := by omega
      have q8 : (0 : Int) ≤ (k : Int) + 1 := by omega
      have u9 : IntKind.i64.wrap ((k : Int) + 1) = (k : Int) + 1 := by rw [IntKind.wrap_i64]; have := HS.out; omega
      have NXT := Lib.hid (show (ln ++ rem.extract k (k + 1)).data.toList = 35 :: rem.data.toList.take (k + 1) ∧ (10 : UInt8) ∉ rem.data.toList.take (k + 1) from Am.rem_next hin HK.out HN.out (fun e => hnl (by rw [e]; rfl)))
      clear hk
      go_wp2
      go_roundw
      case rel => exact ⟨k + 1, ln ++ rem.extract k (k + 1), by first | rfl | (congr 1; done) | trace_state, by go_num, KL.out, Lib.hid NXT.out.1, Lib.hid NXT.out.2, by first | rfl | trivial⟩
      case measure =>
        have := KL.out
        simp [Go.Lib.intOf]
        omega
end Go.Proofs.YtgjpjmolfdiahaaDoor
