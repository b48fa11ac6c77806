/- The document's line: the symbols of a text, byte by byte. -/
import Derived.Test.YtnbkghlcpcmigabDoorTL4
namespace Go.Proofs.YtnbkghlcpcmigabDoor
open Go.RowKit Go.Lib
set_option linter.unusedVariables false

theorem OwnC.bare (w : World) (B : Nat) (hB : B ≤ w.heap.size) : OwnC (w.alloc (.cells #[] 26)) B (.slice (some ⟨w.heap.size, 0, none⟩) 0 0) [] :=
  World.ownsRow_made w #[] 0 hB (by unfold maxLen; omega) rfl
theorem four_new (w : World) (n : Nat) : ∀ j u, (four n)[j]? = some u → (w.alloc (.cells #[Sy (n / 64), Sy (n / 16), Sy (n / 4), Sy n] 26)).cell? ((⟨w.heap.size, 0, none⟩ : Addr).add j) = some u :=
  four_src (Blk.new w 26 (tc n 4))

set_option maxRecDepth 100000 in
set_option maxHeartbeats 1600000 in
theorem rline_any (s : ByteArray) (w : World) (hs : s.size ≤ 300) : Calls Tryd.prog 6 #[.string s] w fun e w' => ∃ v, e = .returned v ∧ OwnC w' w.heap.size v s.data.toList ∧ Below w.heap.size w w' := by
  go_enter Tryd.func6, Tryd.ntmps6
  go_wp2_with fail
  go_loopw [3, 4] (fun v x wr => ∃ i : Nat, x = .int .i64 i ∧ i ≤ s.size ∧ OwnC wr w.heap.size v (s.data.toList.take i) ∧ Below w.heap.size w wr) (fun _ x _ => s.size - (intOf x).toNat)
  case atStart => exact ⟨0, rfl, by omega, OwnC.bare w _ (Nat.le_refl _), (Below.refl _ _).alloc (Nat.le_refl _) _⟩
  case round =>
    obtain ⟨i, rfl, hi, hv, hb⟩ := hrel
    obtain ⟨Ao, co, rfl⟩ := hv.form
    generalize hvv : Value.slice Ao (4 * (s.data.toList.take i).length) co = v at hv ⊢
    have HV := Lib.hid hv
    have HB := Lib.hid hb
    clear hv hb
    by_cases h8 : i < s.size
    · have hw : wrap64 (s[i].toNat : Int) = (s[i].toNat : Int) := w64_byte _
      have hx : s.data.toList.take (i + 1) = s.data.toList.take i ++ [s[i]] := take_succ_byte s i h8
      have HX := Lib.hid hx
      have H0 := Lib.hid (show ∀ w, Calls Tryd.prog 11 #[.int .i64 ((s[i].toNat : Int) / 64)] w fun e w' => e = .returned (Sy (s[i].toNat / 64)) ∧ w = w' from fun w => rsymbol_any _ w)
      have H1 := Lib.hid (show ∀ w, Calls Tryd.prog 11 #[.int .i64 ((s[i].toNat : Int) / 16)] w fun e w' => e = .returned (Sy (s[i].toNat / 16)) ∧ w = w' from fun w => rsymbol_any _ w)
      have H2 := Lib.hid (show ∀ w, Calls Tryd.prog 11 #[.int .i64 ((s[i].toNat : Int) / 4)] w fun e w' => e = .returned (Sy (s[i].toNat / 4)) ∧ w = w' from fun w => rsymbol_any _ w)
      have H3 := Lib.hid (show ∀ w, Calls Tryd.prog 11 #[.int .i64 (s[i].toNat : Int)] w fun e w' => e = .returned (Sy s[i].toNat) ∧ w = w' from fun w => rsymbol_any _ w)
      have hbl : (s[i].toNat : Int) < 256 := by have := s[i].toNat_lt; omega
      have hlen : (s.data.toList.take i).length ≤ 1000000 := by simp; omega
      have HLEN := Lib.hid hlen
      clear hlen hvv hx
      have hi' : (i : Int) < (s.size : Int) := by omega
      go_wp2_with (first | (go_at_call 11; with_reducible refine (H0.out _).mono ?_; rintro e w2 ⟨rfl, rfl⟩) | (go_at_call 11; with_reducible refine (H1.out _).mono ?_; rintro e w2 ⟨rfl, rfl⟩) | (go_at_call 11; with_reducible refine (H2.out _).mono ?_; rintro e w2 ⟨rfl, rfl⟩) | (go_at_call 11; with_reducible refine (H3.out _).mono ?_; rintro e w2 ⟨rfl, rfl⟩) | (at_builtin; refine wpList_append_four (o := ⟨some 30, _, _, _, _, _⟩) rfl (.tmp 17) (.tmp 29) rfl w.heap.size v _ rfl (World.ownsRow.alloc (w := wr) HV.out _) ⟨wr.heap.size, 0, none⟩ 4 s[i] rfl (four_new wr s[i].toNat) HLEN.out (by have := HB.out.size; simp; omega) ?_; intro v1 w3 hv1 hb3; rw [← HX.out] at hv1; have HV1 := Lib.hid hv1; have HB3 := Lib.hid ((HB.out.alloc HB.out.size (.cells (tc s[i].toNat 4) 26)).trans hb3); clear hv1 hb3))
      exact ⟨⟨i + 1, by go_num, by omega, HV1.out, HB3.out⟩, by simp [intOf]; omega⟩
    · obtain rfl : i = s.size := by omega
      have e : s.data.toList.take s.size = s.data.toList := List.take_of_length_le (by simp)
      have HV2 := Lib.hid (show OwnC wr w.heap.size _ s.data.toList by rw [← e]; exact HV.out)
      clear e HV
      go_wp2
      go_ret
      exact ⟨_, rfl, HV2.out, HB.out⟩
end Go.Proofs.YtnbkghlcpcmigabDoor
