/- Package asm: Assemble, by its contract; the law's own example. -/
import Derived.Test.YtgjpjmolfdiahaaDoorAX25
namespace Go.Proofs.YtgjpjmolfdiahaaDoor
open Go.RowKit Go.Lib
set_option linter.unusedVariables false
set_option maxRecDepth 8000

theorem Am.conv_nil (w : World) : (convert 50 9 (.slice none 0 0)).run Tryd.prog w = .ok (.string ⟨#[]⟩) w := by kernel_rfl
theorem Am.run_str {w : World} {v : Value} {l : List UInt8} (h : RowZ 1 w v l.length (byteCells l)) : (convert 50 9 v).run Tryd.prog w = .ok (.string ⟨l.toArray⟩) w := by
  rcases h with ⟨hl, ⟨rfl, h0⟩ | ⟨g, off, cap, rfl, _, _, _, _, hc⟩⟩
  · have : l = [] := List.eq_nil_of_length_eq_zero h0
    subst this
    exact Am.conv_nil w
  · have hr := run_convert_bytes_arg (P := Tryd.prog) w 50 5 Tryd.underlying50 Tryd.underlying5 g off l.length cap (l.map fun b => (b.toNat : Int)) (by simp) (fun i hi => hc i _ (by simp [byteCells, hi])) 9 Tryd.underlying9
    rw [hr, strOfNums_bytes]
theorem Am.read_bad (s : List UInt8) (h : (Am.read s).1 ≠ 0) : (Am.read s).2.2 = ([], []) := by
  unfold Am.read at h ⊢
  split
  · rfl
  · rename_i h1
    rw [if_neg h1] at h
    split
    · rename_i h2
      rw [if_pos h2] at h
      split
      · rename_i h3
        rw [if_pos h3] at h
        exact absurd rfl h
      · rfl
    · rfl
theorem Am.read_ok (s : List UInt8) (h : (Am.read s).1 = 0) : (Am.read s).2.1 = 0 := by
  unfold Am.read at h ⊢
  split
  · rfl
  · rename_i h1
    rw [if_neg h1] at h
    split
    · rename_i h2
      rw [if_pos h2] at h
      split
      · rfl
      · rename_i h3
        rw [if_neg h3] at h
        exact absurd h h3
    · rename_i h2
      rw [if_neg h2] at h
      exact absurd h h2
theorem Am.Gl.below {B : Nat} {w w' : World} (h : Am.Gl w) (k : Below B w w') (hB : 3 ≤ B) : Am.Gl w' := by
  have hs := h.sz
  refine ⟨h.nm.below k (by omega), ?_, by have := k.size; omega⟩
  obtain ⟨q, hq⟩ := h.mx
  exact ⟨q, (k.cell (p := ⟨2, 0, none⟩) (by show 2 < B; omega)).trans hq⟩
set_option maxHeartbeats 1600000 in
theorem Am.assemble_any (s : ByteArray) (hs : s.size ≤ 65536) (w : World) (hg : Am.Gl w) : Calls Tryd.prog 8 #[.string s] w fun r w' => r = .returned (.tuple #[.string ⟨(Am.read s.data.toList).2.2.1.toArray⟩, .int .i64 (Am.read s.data.toList).2.1, .int .i64 (Am.read s.data.toList).1]) ∧ Below w.heap.size w w' := by
  have HR := Lib.hid (Am.read_any s hs w hg)
  have HB := Lib.hid (Am.read_bad s.data.toList)
  have HO := Lib.hid (Am.read_ok s.data.toList)
  generalize Am.read s.data.toList = Z at *
  obtain ⟨ze, zl, zp, zb⟩ := Z
  clear hs hg
  by_cases h0 : ze = 0
  · subst h0
    obtain rfl : zl = 0 := HO.out rfl
    go_enter Tryd.func8, Tryd.ntmps8
    go_wp2_with (first
      | (go_at_call 15; (with_reducible refine HR.out.mono ?_); rintro r w6 hp; rcases hp with ⟨bel, ⟨_, b, ln, st, F, rfl, ⟨pv, lv, wv, m, hR, hF⟩, hpr, hlb⟩ | ⟨h0, _⟩⟩; have c1 : w6.cell? ⟨b, 1, none⟩ = some pv := hR.blk.cell 1; have hcv := Am.run_str hR.pr; have BEL := Lib.hid bel; rw [show st.pr = zp from hpr] at hcv; clear bel hR hF hpr hlb; rotate_left; exact absurd rfl h0))
    go_ret3
    exact ⟨rfl, BEL.out⟩
  · have hb := HB.out h0
    have n1 : (ze == 0) = false := by simpa using h0
    obtain rfl : zp = [] := by injection hb
    go_enter Tryd.func8, Tryd.ntmps8
    go_wp2_with (first
      | (go_at_call 15; (with_reducible refine HR.out.mono ?_); rintro r w6 hp; rcases hp with ⟨bel, ⟨z0, _⟩ | ⟨_, rfl⟩⟩; exact absurd z0 h0))
    go_ret3
    exact ⟨rfl, bel⟩
end Go.Proofs.YtgjpjmolfdiahaaDoor
