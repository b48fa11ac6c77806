/- Log and Fork of package disk, by their contracts. -/
import Derived.Test.YtlmdnhpdeiekfaaJ11
namespace Go.Proofs.Ytlmdnhpdeiekfaa
open Go.RowKit Go.Lib Go.Sort
set_option linter.unusedVariables false

theorem slice_nil (w : World) : (binOp BinOp.eql 45 (.slice none 0 0) (.slice none 0 0)).run Try.prog w = .ok (.bool true) w := by kernel_rfl
theorem slice_some (g n cap : Nat) (w : World) : (binOp BinOp.eql 45 (.slice (some ⟨g, 0, none⟩) n cap) (.slice none 0 0)).run Try.prog w = .ok (.bool false) w := by kernel_rfl
set_option maxRecDepth 100000 in
theorem clone_nil (w : World) : Calls Try.prog 28 #[.slice none 0 0] w fun r w' => r = .returned (.slice none 0 0) ∧ w = w' := by
  have hs := slice_nil w
  go_enter Try.func28, Try.ntmps28
  go_wp2
  go_ret
  exact ⟨rfl, rfl⟩
theorem log_cells {w : World} {B g n cap : Nat} {rc : Nat → Rec} (h : LogV w B (.slice (some ⟨g, 0, none⟩) n cap) n rc) : ∀ j u, (rcCells n rc)[j]? = some u → w.cell? ((⟨g, 0, none⟩ : Addr).add j) = some u := fun j u hj => by
  have hjl : j < n * 4 := by
    rcases Nat.lt_or_ge j (n * 4) with q | q
    · exact q
    · rw [List.getElem?_eq_none (by rw [rcCells_len]; exact q)] at hj; cases hj
  have ha : (⟨g, 0, none⟩ : Addr).add j = ⟨g, j, none⟩ := by unfold Addr.add; split <;> simp_all
  rw [ha, World.ownsRow.cellAt h j hjl, hj]
set_option maxRecDepth 100000 in
theorem clone_any (w : World) (B : Nat) (v : Value) (n : Nat) (rc : Nat → Rec) (h : LogV w B v n rc) (hn : n ≤ 1000) : Calls Try.prog 28 #[v] w fun r w' => ∃ v', r = .returned v' ∧ LogV w' w.heap.size v' n rc ∧ Below w.heap.size w w' := by
  have h' : w.ownsRow B 48 4 v n (rcCells n rc) := h
  rcases h'.2 with ⟨rfl, hz⟩ | ⟨g, cap, cur, rfl, hB, hh, hcap, _⟩
  · obtain rfl : n = 0 := by
      have := rcCells_len n rc
      rw [hz] at this
      simp at this
      omega
    exact (clone_nil w).mono fun r w' ⟨h1, h2⟩ => by subst h2; exact ⟨_, h1, LogV.nil _ _ _, Below.refl _ _⟩
  · obtain ⟨i0, hi0, hz0, hz1, hz2⟩ := info_parts log_info
    have hcs := log_cells h
    have hlt : g < w.heap.size := lt_of_block hh
    have hown : (w.alloc (.cells #[] 48)).ownsRow w.heap.size 48 4 (.slice (some ⟨w.heap.size, 0, none⟩) 0 0) 0 [] := ⟨rfl, .inr ⟨w.heap.size, 0, #[], rfl, Nat.le_refl _, Blk.new w _ _, by omega, by unfold maxLen; omega, rfl, rfl⟩⟩
    have hcs2 : ∀ j u, (rcCells n rc)[j]? = some u → (w.alloc (.cells #[] 48)).cell? ((⟨g, 0, none⟩ : Addr).add j) = some u := fun j u hj => by
      have e1 := hcs j u hj
      have ha : (⟨g, 0, none⟩ : Addr).add j = ⟨g, j, none⟩ := by unfold Addr.add; split <;> simp_all
      rw [ha] at e1 ⊢
      exact (((Below.refl w.heap.size w).alloc (Nat.le_refl _) _).cell (p := ⟨g, j, none⟩) hlt).trans e1
    have HCS := Lib.hid hcs2
    have HOWN := Lib.hid hown
    have HLEN := Lib.hid (rcCells_len n rc)
    have HONE := Lib.hid (rcCells_cell n rc)
    have hs := slice_some g n cap w
    clear h h' hh hcs hown hcs2
    go_enter Try.func28, Try.ntmps28
    go_wp2_with (at_builtin; refine wpList_append_own_at _ rfl (.tmp 5) (.tmp 6) 45 rfl w.heap.size 48 i0 _ 4 40 Try.underlying45 hi0 hz0 hz1 hz2 rfl (by decide) (.slice (some ⟨w.heap.size, 0, none⟩) 0 0) 0 [] rfl HOWN.out ⟨g, 0, none⟩ n _ (rcCells n rc) rfl HLEN.out HCS.out HONE.out (by unfold maxLen; omega) (by omega) (by simp) ?_; intro v1 w1 hown1 hg1 _ hat1; have O1 := Lib.hid hown1; have G1 := Lib.hid hg1; clear hown1 hg1 hat1)
    go_ret
    refine ⟨_, rfl, ?_, ?_⟩
    · have := O1.out
      simp only [Nat.zero_add, List.nil_append] at this
      exact this
    · exact ((Below.refl w.heap.size w).alloc (Nat.le_refl _) _).trans (below_of_only G1.out (by simp) (fun k hk => by simp [Value.ownBlock] at hk; omega))


section
variable {w w' : World} {B b n : Nat} {S : Nat → UInt8} {T : Nat → Prt} {bz : Bool} {j : Jb} {st : Int} {v : Value} {rc : Nat → Rec}
theorem log_nil (w : World) : Calls Try.prog 15 #[.pointer none] w fun e w' => e = .returned (.slice none 0 0) ∧ w = w' := by
  go_enter Try.func15, Try.ntmps15
  go_wp2
  go_ret
  exact ⟨rfl, rfl⟩
theorem log_any (h : Dsk w b S T bz j st v) (hl : LogV w B v n rc) (hn : n ≤ 1000) : Calls Try.prog 15 #[.pointer (some ⟨b, 0, none⟩)] w fun e w' => ∃ v', e = .returned v' ∧ LogV w' w.heap.size v' n rc ∧ Below w.heap.size w w' := by
  have c0 := h.log
  have HC := Lib.hid (clone_any w B v n rc hl hn)
  obtain ⟨Av, cv, rfl⟩ := hl.form
  clear h hl
  go_enter Try.func15, Try.ntmps15
  go_wp2_with (go_at_call 28; with_reducible refine HC.out.mono ?_; rintro e w1 ⟨v', rfl, h1, h2⟩; have H1 := Lib.hid h1; have H2 := Lib.hid h2; clear h1 h2)
  go_ret
  exact ⟨_, rfl, H1.out, H2.out⟩
theorem fork_nil (w : World) : Calls Try.prog 17 #[.pointer none] w fun e w' => e = .returned (.pointer none) ∧ w = w' := by
  go_enter Try.func17, Try.ntmps17
  go_wp2
  go_ret
  exact ⟨rfl, rfl⟩
end
end Go.Proofs.Ytlmdnhpdeiekfaa
