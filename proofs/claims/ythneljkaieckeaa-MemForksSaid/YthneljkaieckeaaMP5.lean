/- A deed that reads, whole. (written by gen_MP5.py) -/
import Derived.Test.YthneljkaieckeaaMP4
import Derived.Test.YthneljkaieckeaaMM4
namespace Go.Proofs.Ythneljkaieckeaa
open Go.RowKit Go.Lib Go.Sort
set_option linter.unusedVariables false

set_option maxHeartbeats 1600000 in
theorem told_any (do' at' n : Int) (t : ByteArray) (w : World) (B m len cap : Nat) (A : Option Addr) (l : List UInt8) (hm : MemV w B m l) (hA : Ints w A cap (num l)) (hlen : len = l.length) (hl : l.length ≤ 400) :
    Calls Try.prog 26 #[.pointer (some ⟨m, 0, none⟩), .slice A len cap, .agg #[.int .i64 do', .int .i64 at', .int .i64 n, .string t]] w (ToldV w) := by
  have hV : ∀ W, Below w.heap.size w W → MemV W B m l := fun W h => hm.below h
  have hI : ∀ W, Below w.heap.size w W → Ints W A cap (num l) := fun W h => hA.below h
  have hget := fun W (h : Below w.heap.size w W) => get_any W B m l at' (hV W h) (by omega)
  have hget2 := fun W (h : Below w.heap.size w W) => get2_any W B m l at' (hV W h) (by omega)
  have htext := fun W (h : Below w.heap.size w W) => mtext_any W B m l at' n (hV W h) (by omega)
  have hth : ∀ (j : Int) (W : World), Calls Try.prog 32 #[.slice A len cap, .int .i64 at', .int .i64 j] W fun r w' => r = .returned (.bool (thereB l.length at' j)) ∧ W = w' := fun j W => by
    rw [← hlen]
    exact there_any A len cap at' j W (by omega)
  have hth1 := hth 1
  have hth2 := hth 2
  have hth3 := hth n
  have hln : len ≤ 400 := by omega
  have hnl : len = (num l).length := by rw [num_len]; exact hlen
  have hc1 := there_chk (len := l.length) (at' := at') (n := 1) (by omega)
  have hc2 := there_chk (len := l.length) (at' := at') (n := 2) (by omega)
  rcases hc1 with ⟨o1, e1⟩ | ⟨o1, e1⟩
  · have hf1 := there_fit o1
    obtain ⟨k, rfl⟩ : ∃ k : Nat, at' = k := ⟨at'.toNat, by omega⟩
    obtain ⟨b, off, rfl, hbl, hc⟩ := num_at hA (by omega)
    have c0 := hc k (by omega)
    rw [o1] at hth1
    rw [e1, if_pos rfl] at hget
    rw [Int.toNat_natCast] at hget hget2
    rcases hc2 with ⟨o2, e2⟩ | ⟨o2, e2⟩
    · have hf2 := there_fit o2
      have c1 := hc (k + 1) (by omega)
      rw [o2] at hth2
      rw [e2, if_pos rfl] at hget2
      have htwo : ∀ W, Calls Try.prog 36 #[.int .i64 ((l.getD k 0).toNat : Int), .int .i64 ((l.getD (k + 1) 0).toNat : Int)] W fun e w' => e = .returned (.int .i64 (two8 l k)) ∧ W = w' := fun W => by
        have h := rtwo_any ((l.getD k 0).toNat : Int) ((l.getD (k + 1) 0).toNat : Int) W
        have h1 := (l.getD k 0).toNat_lt
        have h2 := (l.getD (k + 1) 0).toNat_lt
        rw [show ((l.getD k 0).toNat : Int) % 256 + 256 * (((l.getD (k + 1) 0).toNat : Int) % 256) = two8 l k by unfold two8; omega] at h
        exact h
      by_cases hn : n < 0
      · have hc : chk l.length (k : Int) n = 2 := by unfold chk; rw [if_pos hn]
        rw [hc, if_neg (by decide)] at htext
        exact told_An do' n t w m len cap hln k b off _ hbl c0 (by omega) _ _ c1 (by omega) htwo hget hget2 htext hth1 hth2 hn
      · rcases there_chk (len := l.length) (at' := (k : Int)) (n := n) (by omega) with ⟨o3, e3⟩ | ⟨o3, e3⟩
        · rw [e3, if_pos rfl] at htext
          rw [o3] at hth3
          have hf3 := there_fit o3
          obtain ⟨j, rfl⟩ : ∃ j : Nat, n = j := ⟨n.toNat, by omega⟩
          rw [Int.toNat_natCast, Int.toNat_natCast] at htext
          exact told_At do' _ t w m len cap hln k b off _ hbl c0 (by omega) _ _ c1 (by omega) htwo _ hget hget2 htext hth1 hth2 hth3 (fun W h => rtext_any _ cap len l hnl k j W (hI W h) (by omega) (by omega)) (by omega)
        · rw [e3, if_neg (by decide)] at htext
          rw [o3] at hth3
          exact told_Ao do' n t w m len cap hln k b off _ hbl c0 (by omega) _ _ c1 (by omega) htwo hget hget2 htext hth1 hth2 hth3 (by omega)
    · rw [o2] at hth2
      rw [e2, if_neg (by decide)] at hget2
      by_cases hn : n < 0
      · have hc : chk l.length (k : Int) n = 2 := by unfold chk; rw [if_pos hn]
        rw [hc, if_neg (by decide)] at htext
        exact told_Bn do' n t w m len cap hln k b off _ hbl c0 (by omega) hget hget2 htext hth1 hth2 hn
      · rcases there_chk (len := l.length) (at' := (k : Int)) (n := n) (by omega) with ⟨o3, e3⟩ | ⟨o3, e3⟩
        · rw [e3, if_pos rfl] at htext
          rw [o3] at hth3
          have hf3 := there_fit o3
          obtain ⟨j, rfl⟩ : ∃ j : Nat, n = j := ⟨n.toNat, by omega⟩
          rw [Int.toNat_natCast, Int.toNat_natCast] at htext
          exact told_Bt do' _ t w m len cap hln k b off _ hbl c0 (by omega) _ hget hget2 htext hth1 hth2 hth3 (fun W h => rtext_any _ cap len l hnl k j W (hI W h) (by omega) (by omega)) (by omega)
        · rw [e3, if_neg (by decide)] at htext
          rw [o3] at hth3
          exact told_Bo do' n t w m len cap hln k b off _ hbl c0 (by omega) hget hget2 htext hth1 hth2 hth3 (by omega)
  · have o2 : thereB l.length at' 2 = false ∧ chk l.length at' 2 = 6 := by
      rcases hc2 with ⟨o2, e2⟩ | h
      · have h := there_fit o2
        have : thereB l.length at' 1 = true := by unfold thereB; rw [decide_eq_true_eq]; omega
        rw [o1] at this
        cases this
      · exact h
    rw [o1] at hth1
    rw [o2.1] at hth2
    rw [e1, if_neg (by decide)] at hget
    rw [o2.2, if_neg (by decide)] at hget2
    by_cases hn : n < 0
    · have hc : chk l.length at' n = 2 := by unfold chk; rw [if_pos hn]
      rw [hc, if_neg (by decide)] at htext
      exact told_Cn do' n t w m len cap hln at' A hget hget2 htext hth1 hth2 hn
    · rcases there_chk (len := l.length) (at' := at') (n := n) (by omega) with ⟨o3, e3⟩ | ⟨o3, e3⟩
      · rw [e3, if_pos rfl] at htext
        rw [o3] at hth3
        have hf3 := there_fit o3
        obtain ⟨j, rfl⟩ : ∃ j : Nat, n = j := ⟨n.toNat, by omega⟩
        obtain ⟨k, rfl⟩ : ∃ k : Nat, at' = k := ⟨at'.toNat, by omega⟩
        rw [Int.toNat_natCast, Int.toNat_natCast] at htext
        exact told_Ct do' _ t w m len cap hln _ A _ hget hget2 htext hth1 hth2 hth3 (fun W h => rtext_any _ cap len l hnl k j W (hI W h) (by omega) (by omega)) (by omega)
      · rw [e3, if_neg (by decide)] at htext
        rw [o3] at hth3
        exact told_Co do' n t w m len cap hln at' A hget hget2 htext hth1 hth2 hth3 (by omega)
end Go.Proofs.Ythneljkaieckeaa
