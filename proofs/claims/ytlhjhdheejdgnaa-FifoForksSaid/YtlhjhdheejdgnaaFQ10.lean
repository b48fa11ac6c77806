/- A fork of a queue; and a nil queue. -/
import Derived.Test.YtlhjhdheejdgnaaFQ8
namespace Go.Proofs.Ytlhjhdheejdgnaa
open Go.RowKit Go.Lib
set_option linter.unusedVariables false

section
variable {w : World} {b : Nat} {v : Value} {l : List Value} {lim dr : Nat}
theorem ffork_any (h : Que w b 51 v l lim dr) (h1 : ∀ u ∈ l, u.oneCell' = true) (hn : l.length ≤ 1000000) :
    Calls Try.prog 18 #[.pointer (some ⟨b, 0, none⟩)] w fun e w' => ∃ f v', e = .returned (.pointer (some ⟨f, 0, none⟩)) ∧ Que w' f 51 v' l lim dr ∧ Below w.heap.size w w' ∧ ∀ i, OwnQ f v' i → w.heap.size ≤ i := by
  have c0 : w.cell? ⟨b, 0, none⟩ = some v := h.1.cell 0
  have c1 : w.cell? ⟨b, 1, none⟩ = some (.int .i64 lim) := h.1.cell 1
  have c2 : w.cell? ⟨b, 2, none⟩ = some (.int .i64 dr) := h.1.cell 2
  have hlt := h.1.lt
  have hB : Below w.heap.size w (w.alloc (.cells #[v, .int .i64 lim, .int .i64 dr] 51)) := (Below.refl _ _).alloc (Nat.le_refl _) _
  have hR : RowQ (w.alloc (.cells #[v, .int .i64 lim, .int .i64 dr] 51)) v l := h.2.1.alloc _
  have HC := Lib.hid (clone_any hR h1 hn)
  have HB := Lib.hid hB
  have NB := Lib.hid (Blk.new w 51 #[v, .int .i64 lim, .int .i64 dr])
  obtain ⟨A, c, hv⟩ := h.2.1.form
  subst hv
  clear h hR hB
  go_enter Try.func18, Try.ntmps18
  go_wp2_with (go_at_call 36; refine HC.out.mono ?_; rintro e w2 ⟨v2, rfl, r2, b2, o2⟩; obtain ⟨A2, n2, hf⟩ := r2.form; subst hf; have B2 := NB.out.below b2 NB.out.lt; have d0 := B2.cell 0; have e0 := B2.free 0; simp at d0; have R2 := Lib.hid r2; have O2 := Lib.hid o2; have BB2 := Lib.hid (HB.out.trans (b2.mono HB.out.size)); have BK2 := Lib.hid B2; clear r2 o2 B2 b2)
  go_ret
  refine ⟨w.heap.size, _, rfl, ⟨BK2.out.put 0 _, R2.out.put (fun e => ?_) _, fun e => ?_⟩, BB2.out.setCell (p := ⟨w.heap.size, 0, none⟩) (Nat.le_refl _) _, ?_⟩
  · have h9 : w.heap.size + 1 ≤ w.heap.size := by simpa using O2.out _ e
    omega
  · have h9 : w.heap.size + 1 ≤ w.heap.size := by simpa using O2.out _ e
    omega
  · rintro i (rfl | hi)
    · exact Nat.le_refl _
    · have := O2.out _ hi
      simp at this
      omega
end

theorem nil_len (w : World) : Calls Try.prog 10 #[.pointer none] w fun e w' => e = .returned (.int .i64 0) ∧ w = w' := by
  go_enter Try.func10, Try.ntmps10
  go_wp2
  go_ret
  exact ⟨rfl, rfl⟩
theorem nil_limit (w : World) : Calls Try.prog 12 #[.pointer none] w fun e w' => e = .returned (.int .i64 0) ∧ w = w' := by
  go_enter Try.func12, Try.ntmps12
  go_wp2
  go_ret
  exact ⟨rfl, rfl⟩
theorem nil_drops (w : World) : Calls Try.prog 11 #[.pointer none] w fun e w' => e = .returned (.int .i64 0) ∧ w = w' := by
  go_enter Try.func11, Try.ntmps11
  go_wp2
  go_ret
  exact ⟨rfl, rfl⟩
theorem nil_push (s : ByteArray) (w : World) : Calls Try.prog 16 #[.pointer none, .string s] w fun e w' => e = .returned (.bool false) ∧ w = w' := by
  go_enter Try.func16, Try.ntmps16
  go_wp2
  go_ret
  exact ⟨rfl, rfl⟩
theorem nil_fork (w : World) : Calls Try.prog 18 #[.pointer none] w fun e w' => e = .returned (.pointer none) ∧ w = w' := by
  go_enter Try.func18, Try.ntmps18
  go_wp2
  go_ret
  exact ⟨rfl, rfl⟩
theorem nil_take (w : World) : Calls Try.prog 17 #[.pointer none, .int .i64 3] w fun e w' => e = .returned (.slice none 0 0) ∧ w = w' := by
  have H := Lib.hid (fun w => nil_len w)
  go_enter Try.func17, Try.ntmps17
  go_wp2_with (go_at_call 10; refine (H.out _).mono ?_; rintro e w' ⟨rfl, rfl⟩)
  go_ret
  exact ⟨rfl, rfl⟩
theorem nil_peek (w : World) : Calls Try.prog 29 #[.pointer none, .int .i64 0] w fun e w' => e = .returned (.tuple #[.string ⟨#[]⟩, .bool false]) ∧ w = w' := by
  have H := Lib.hid (fun w => nil_len w)
  go_enter Try.func29, Try.ntmps29
  go_wp2_with (go_at_call 10; refine (H.out _).mono ?_; rintro e w' ⟨rfl, rfl⟩)
  go_ret2
  exact ⟨rfl, rfl⟩
theorem nil_pop (w : World) : Calls Try.prog 19 #[.pointer none] w fun e w' => e = .returned (.tuple #[.string ⟨#[]⟩, .bool false]) ∧ w = w' := by
  have H := Lib.hid (fun w => nil_peek w)
  go_enter Try.func19, Try.ntmps19
  go_wp2_with (go_at_call 29; refine (H.out _).mono ?_; rintro e w' ⟨rfl, rfl⟩)
  go_ret2
  exact ⟨rfl, rfl⟩
end Go.Proofs.Ytlhjhdheejdgnaa
