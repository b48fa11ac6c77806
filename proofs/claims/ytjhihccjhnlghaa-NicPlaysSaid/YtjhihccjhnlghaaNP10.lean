/- A device of package nic: clones of rows; Log and Send. -/
import Derived.Test.YtjhihccjhnlghaaNP9
import Derived.Test.YtjhihccjhnlghaaFM2
namespace Go.Proofs.Ytjhihccjhnlghaa
open Go.RowKit Go.Lib
set_option linter.unusedVariables false

theorem RowZ.of_own {w : World} {B : Nat} {e : TypeId} {s : Nat} {v : Value} {n : Nat} {xs : List Value} (h : w.ownsRow B e s v n xs) : RowZ s w v n xs := by
  have h' := h
  obtain ⟨hl, ⟨rfl, rfl⟩ | ⟨g, cap, cur, rfl, hB, hh, hcap, hm, hc, hp⟩⟩ := h'
  · exact ⟨hl, .inl ⟨rfl, rfl⟩⟩
  · have hb : Blk w g e cur := hh
    refine ⟨hl, .inr ⟨g, 0, cap, rfl, hcap, hm, hb.lt, fun j hj => ⟨?_, hb.free _⟩, fun j u hu => ?_⟩⟩
    · rw [hb.cell, Nat.zero_add, Array.getElem?_eq_getElem (by omega)]
      rfl
    · have hj := (List.getElem?_eq_some_iff.1 hu).1
      rw [Nat.zero_add, World.ownsRow.cellAt h j (by omega), hu]
theorem own_base {w : World} {B : Nat} {e : TypeId} {s : Nat} {v : Value} {n : Nat} {xs : List Value} (h : w.ownsRow B e s v n xs) : ∀ i, v.ownBlock = some i → B ≤ i := by
  obtain ⟨hl, ⟨rfl, rfl⟩ | ⟨g, cap, cur, rfl, hB, hh, hcap, hm, hc, hp⟩⟩ := h
  · intro i hi
    simp [Value.ownBlock] at hi
  · intro i hi
    simp [Value.ownBlock] at hi
    omega
theorem sent_info : (Try.prog.info? 57).map (fun i => (i.zero, i.size, i.bytes)) = some (some (.agg #[.int .i64 0, .int .i64 0, .string ⟨#[]⟩]), 3, 32) := by kernel_rfl
/-- What a clone of rows of three cells answers. -/
def CloZ (w : World) (n : Nat) (xs : List Value) (v' : Value) (w' : World) : Prop := RowZ 3 w' v' n xs ∧ (∀ i, v'.ownBlock = some i → w.heap.size ≤ i) ∧ Below w.heap.size w w'

theorem sent_nil (w : World) : (binOp BinOp.eql 54 (.slice none 0 0) (.slice none 0 0)).run Try.prog w = .ok (.bool true) w := by kernel_rfl
theorem sent_some (g o n cap : Nat) (w : World) : (binOp BinOp.eql 54 (.slice (some ⟨g, o, none⟩) n cap) (.slice none 0 0)).run Try.prog w = .ok (.bool false) w := by kernel_rfl
set_option maxRecDepth 100000 in
theorem sent_clone_nil (w : World) : Calls Try.prog 37 #[.slice none 0 0] w fun r w' => r = .returned (.slice none 0 0) ∧ w = w' := by
  have hs := sent_nil w
  go_enter Try.func37, Try.ntmps37
  go_wp2
  go_ret
  exact ⟨rfl, rfl⟩
set_option maxRecDepth 100000 in
theorem sent_clone (w : World) (v : Value) (S : List Frm) (h : RowZ 3 w v S.length (frL S)) (hn : S.length ≤ 1000) : Calls Try.prog 37 #[v] w fun r w' => ∃ v', r = .returned v' ∧ CloZ w S.length (frL S) v' w' := by
  have hlen := frL_len S
  have hone := frL_cell S
  obtain ⟨n, hn'⟩ : ∃ n, n = S.length := ⟨_, rfl⟩
  rw [← hn'] at h hn hlen ⊢
  obtain ⟨hl, ⟨rfl, hz⟩ | ⟨g, off, cap, rfl, hcap, hm, hlt, hfree, hcs⟩⟩ := h
  · subst hz

    exact (sent_clone_nil w).mono fun r w' ⟨h1, h2⟩ => by subst h2; exact ⟨_, h1, ⟨hl, .inl ⟨rfl, rfl⟩⟩, by simp [Value.ownBlock], Below.refl _ _⟩
  · obtain ⟨i0, hi0, hz0, hz1, hz2⟩ := info_parts sent_info
    have hown : (w.alloc (.cells #[] 57)).ownsRow w.heap.size 57 3 (.slice (some ⟨w.heap.size, 0, none⟩) 0 0) 0 [] := ⟨rfl, .inr ⟨w.heap.size, 0, #[], rfl, Nat.le_refl _, Blk.new w _ _, by omega, by unfold maxLen; omega, rfl, rfl⟩⟩
    have hcs2 : ∀ j u, (frL S)[j]? = some u → (w.alloc (.cells #[] 57)).cell? ((⟨g, off, none⟩ : Addr).add j) = some u := fun j u hj => by
      rw [addr_at]
      exact (((Below.refl w.heap.size w).alloc (Nat.le_refl _) _).cell (p := ⟨g, off + j, none⟩) hlt).trans (hcs j u hj)
    have HCS := Lib.hid hcs2
    have HOWN := Lib.hid hown
    have HLEN := Lib.hid hl
    have HONE := Lib.hid hone
    have hs := sent_some g off n cap w
    clear hlt hcs hown hcs2 hfree hl hlen hone hn'
    go_enter Try.func37, Try.ntmps37
    go_wp2_with (at_builtin; refine wpList_append_own_at _ rfl (.tmp 5) (.tmp 6) 54 rfl w.heap.size 57 i0 _ 3 32 Try.underlying54 hi0 hz0 hz1 hz2 rfl (by decide) (.slice (some ⟨w.heap.size, 0, none⟩) 0 0) 0 [] rfl HOWN.out ⟨g, off, none⟩ n _ (frL S) rfl HLEN.out HCS.out HONE.out (by unfold maxLen; omega) (by omega) (by simp) ?_; intro v1 w1 hown1 hg1 _ hat1; have O1 := Lib.hid hown1; have G1 := Lib.hid hg1; clear hown1 hg1 hat1)
    go_ret
    have hO := O1.out
    simp only [Nat.zero_add, List.nil_append] at hO
    exact ⟨_, rfl, RowZ.of_own hO, own_base hO, ((Below.refl w.heap.size w).alloc (Nat.le_refl _) _).trans (below_of_only G1.out (by simp) (fun k hk => by simp [Value.ownBlock] at hk; omega))⟩

theorem frm_nil (w : World) : (binOp BinOp.eql 90 (.slice none 0 0) (.slice none 0 0)).run Try.prog w = .ok (.bool true) w := by kernel_rfl
theorem frm_some (g o n cap : Nat) (w : World) : (binOp BinOp.eql 90 (.slice (some ⟨g, o, none⟩) n cap) (.slice none 0 0)).run Try.prog w = .ok (.bool false) w := by kernel_rfl
set_option maxRecDepth 100000 in
theorem frm_clone_nil (w : World) : Calls Try.prog 55 #[.slice none 0 0] w fun r w' => r = .returned (.slice none 0 0) ∧ w = w' := by
  have hs := frm_nil w
  go_enter Try.func55, Try.ntmps55
  go_wp2
  go_ret
  exact ⟨rfl, rfl⟩
set_option maxRecDepth 100000 in
theorem frm_clone (w : World) (v : Value) (S : List Frm) (h : RowZ 3 w v S.length (frL S)) (hn : S.length ≤ 1000) : Calls Try.prog 55 #[v] w fun r w' => ∃ v', r = .returned v' ∧ CloZ w S.length (frL S) v' w' := by
  have hlen := frL_len S
  have hone := frL_cell S
  obtain ⟨n, hn'⟩ : ∃ n, n = S.length := ⟨_, rfl⟩
  rw [← hn'] at h hn hlen ⊢
  obtain ⟨hl, ⟨rfl, hz⟩ | ⟨g, off, cap, rfl, hcap, hm, hlt, hfree, hcs⟩⟩ := h
  · subst hz

    exact (frm_clone_nil w).mono fun r w' ⟨h1, h2⟩ => by subst h2; exact ⟨_, h1, ⟨hl, .inl ⟨rfl, rfl⟩⟩, by simp [Value.ownBlock], Below.refl _ _⟩
  · obtain ⟨i0, hi0, hz0, hz1, hz2⟩ := info_parts frame_info
    have hown : (w.alloc (.cells #[] 46)).ownsRow w.heap.size 46 3 (.slice (some ⟨w.heap.size, 0, none⟩) 0 0) 0 [] := ⟨rfl, .inr ⟨w.heap.size, 0, #[], rfl, Nat.le_refl _, Blk.new w _ _, by omega, by unfold maxLen; omega, rfl, rfl⟩⟩
    have hcs2 : ∀ j u, (frL S)[j]? = some u → (w.alloc (.cells #[] 46)).cell? ((⟨g, off, none⟩ : Addr).add j) = some u := fun j u hj => by
      rw [addr_at]
      exact (((Below.refl w.heap.size w).alloc (Nat.le_refl _) _).cell (p := ⟨g, off + j, none⟩) hlt).trans (hcs j u hj)
    have HCS := Lib.hid hcs2
    have HOWN := Lib.hid hown
    have HLEN := Lib.hid hl
    have HONE := Lib.hid hone
    have hs := frm_some g off n cap w
    clear hlt hcs hown hcs2 hfree hl hlen hone hn'
    go_enter Try.func55, Try.ntmps55
    go_wp2_with (at_builtin; refine wpList_append_own_at _ rfl (.tmp 5) (.tmp 6) 90 rfl w.heap.size 46 i0 _ 3 32 Try.underlying90 hi0 hz0 hz1 hz2 rfl (by decide) (.slice (some ⟨w.heap.size, 0, none⟩) 0 0) 0 [] rfl HOWN.out ⟨g, off, none⟩ n _ (frL S) rfl HLEN.out HCS.out HONE.out (by unfold maxLen; omega) (by omega) (by simp) ?_; intro v1 w1 hown1 hg1 _ hat1; have O1 := Lib.hid hown1; have G1 := Lib.hid hg1; clear hown1 hg1 hat1)
    go_ret
    have hO := O1.out
    simp only [Nat.zero_add, List.nil_append] at hO
    exact ⟨_, rfl, RowZ.of_own hO, own_base hO, ((Below.refl w.heap.size w).alloc (Nat.le_refl _) _).trans (below_of_only G1.out (by simp) (fun k hk => by simp [Value.ownBlock] at hk; omega))⟩

section
variable {w : World} {d m : Nat} {lv : Value} {odd : Int} {S : List Frm} {G : List Gp}
theorem nlog_nil (w : World) : Calls Try.prog 21 #[.pointer none] w fun e w' => e = .returned (.slice none 0 0) ∧ w = w' := by
  go_enter Try.func21, Try.ntmps21
  go_wp2
  go_ret
  exact ⟨rfl, rfl⟩
theorem nlog_any (h : NicG w d m lv odd S G) (hn : S.length ≤ 1000) : Calls Try.prog 21 #[.pointer (some ⟨d, 0, none⟩)] w fun e w' => ∃ v', e = .returned v' ∧ CloZ w S.length (frL S) v' w' := by
  have c2 : w.cell? ⟨d, 2, none⟩ = some lv := h.1.cell 2
  have HC := Lib.hid (sent_clone w lv S h.2.2.1 hn)
  obtain ⟨Av, cv, rfl⟩ := h.2.2.1.form
  clear h
  go_enter Try.func21, Try.ntmps21
  go_wp2_with (go_at_call 37; with_reducible refine HC.out.mono ?_; rintro e w1 ⟨v', rfl, h1⟩; have H1 := Lib.hid h1; clear h1)
  go_ret
  exact ⟨_, rfl, H1.out⟩
end
end Go.Proofs.Ytjhihccjhnlghaa
