/- Queues of frames: each call by its contract. -/
import Derived.Test.YtjhihccjhnlghaaRows
import Derived.Test.YtjhihccjhnlghaaNQ0
import Derived.Test.YtjhihccjhnlghaaF
import Derived.BigQuiet
namespace Go.Proofs.Ytjhihccjhnlghaa
open Go.RowKit Go.Lib
set_option linter.unusedVariables false

/-- A frame: to, from, data. -/
abbrev Frm := Int × Int × ByteArray
abbrev frv (f : Frm) : Value := .agg #[.int .i64 f.1, .int .i64 f.2.1, .string f.2.2]
def frC (f : Frm) : List Value := [.int .i64 f.1, .int .i64 f.2.1, .string f.2.2]
def frL (l : List Frm) : List Value := l.flatMap frC
theorem frL_app (a b : List Frm) : frL (a ++ b) = frL a ++ frL b := by simp [frL]
theorem frL_one (f : Frm) : frL [f] = frC f := by simp [frL]
theorem frL_len (l : List Frm) : (frL l).length = l.length * 3 := by
  induction l with
  | nil => rfl
  | cons f l ih =>
    have : frL (f :: l) = frC f ++ frL l := rfl
    rw [this, List.length_append, ih]
    simp [frC]
    omega
theorem frL_cell (l : List Frm) : ∀ u ∈ frL l, u.oneCell' = true := by
  intro u hu
  simp only [frL, List.mem_flatMap] at hu
  obtain ⟨f, _, hf⟩ := hu
  simp [frC] at hf
  rcases hf with rfl | rfl | rfl <;> rfl
theorem frL_drop (l : List Frm) (f : Frm) : (frL (f :: l)).drop 3 = frL l := rfl
/-- A limit as it counts. -/
def limQ (n : Int) : Nat := (min (max n 0) 65536).toNat
theorem frame_info : (Try.prog.info? 46).map (fun i => (i.zero, i.size, i.bytes)) = some (some (.agg #[.int .i64 0, .int .i64 0, .string ⟨#[]⟩]), 3, 32) := by kernel_rfl

/-- A queue of frames lies in block b: its frames, its limit, its drops. -/
def QueF (w : World) (b : Nat) (v : Value) (l : List Frm) (lim dr : Nat) : Prop :=
  Blk w b 92 #[v, .int .i64 lim, .int .i64 dr] ∧ RowZ 3 w v l.length (frL l) ∧ v.ownBlock ≠ some b
theorem QueF.lt {w : World} {b : Nat} {v : Value} {l : List Frm} {lim dr : Nat} (h : QueF w b v l lim dr) : ∀ i, OwnQ b v i → i < w.heap.size := by
  rintro i (rfl | hi)
  · exact h.1.lt
  · exact h.2.1.lt i hi
theorem QueF.keeps {w w' : World} {b : Nat} {v : Value} {l : List Frm} {lim dr : Nat} {S : Nat → Prop} (h : QueF w b v l lim dr) (k : Keeps S w w') (hn : ∀ i, OwnQ b v i → ¬ S i) : QueF w' b v l lim dr :=
  ⟨h.1.keeps k (hn b (.inl rfl)), h.2.1.keeps k fun i hi => hn i (.inr hi), h.2.2⟩
/-- What a call that writes a queue leaves. -/
def QueFN (w : World) (b : Nat) (v : Value) (lim : Nat) (w' : World) (l' : List Frm) (dr' : Nat) : Prop :=
  ∃ v', QueF w' b v' l' lim dr' ∧ Keeps (OwnQ b v) w w' ∧ ∀ i, OwnQ b v' i → OwnQ b v i ∨ w.heap.size ≤ i

theorem fnew_any (n : Int) (w : World) : Calls Try.prog 25 #[.int .i64 n] w fun e w' => e = .returned (.pointer (some ⟨w.heap.size, 0, none⟩)) ∧ w.alloc (.cells #[.slice none 0 0, .int .i64 (limQ n), .int .i64 0] 92) = w' := by
  by_cases h0 : n < 0
  · have E := Lib.hid (show ((limQ n : Nat) : Int) = 0 by unfold limQ; omega)
    go_enter Try.func25, Try.ntmps25
    go_wp2
    go_ret
    exact ⟨rfl, by rw [E.out]⟩
  · by_cases h1 : 65536 < n
    · have E := Lib.hid (show ((limQ n : Nat) : Int) = 65536 by unfold limQ; omega)
      go_enter Try.func25, Try.ntmps25
      go_wp2
      go_ret
      exact ⟨rfl, by rw [E.out]⟩
    · have E := Lib.hid (show ((limQ n : Nat) : Int) = n by unfold limQ; omega)
      go_enter Try.func25, Try.ntmps25
      go_wp2
      go_ret
      exact ⟨rfl, by rw [E.out]⟩

section
variable {w : World} {b : Nat} {v : Value} {l : List Frm} {lim dr : Nat}
theorem flen_any (h : QueF w b v l lim dr) : Calls Try.prog 33 #[.pointer (some ⟨b, 0, none⟩)] w fun e w' => e = .returned (.int .i64 l.length) ∧ w = w' := by
  have c0 : w.cell? ⟨b, 0, none⟩ = some v := h.1.cell 0
  obtain ⟨A, c, rfl⟩ := h.2.1.form
  clear h
  go_enter Try.func33, Try.ntmps33
  go_wp2
  go_ret
  exact ⟨rfl, rfl⟩
theorem fdrops_any (h : QueF w b v l lim dr) : Calls Try.prog 34 #[.pointer (some ⟨b, 0, none⟩)] w fun e w' => e = .returned (.int .i64 dr) ∧ w = w' := by
  have c0 : w.cell? ⟨b, 2, none⟩ = some (.int .i64 dr) := h.1.cell 2
  clear h
  go_enter Try.func34, Try.ntmps34
  go_wp2
  go_ret
  exact ⟨rfl, rfl⟩
theorem flen_nil (w : World) : Calls Try.prog 33 #[.pointer none] w fun e w' => e = .returned (.int .i64 0) ∧ w = w' := by
  go_enter Try.func33, Try.ntmps33
  go_wp2
  go_ret
  exact ⟨rfl, rfl⟩
theorem fdrops_nil (w : World) : Calls Try.prog 34 #[.pointer none] w fun e w' => e = .returned (.int .i64 0) ∧ w = w' := by
  go_enter Try.func34, Try.ntmps34
  go_wp2
  go_ret
  exact ⟨rfl, rfl⟩

theorem fpush_off (x : Frm) (h : QueF w b v l lim dr) (hl : lim ≤ l.length) (hd : dr ≤ 1000000) :
    Calls Try.prog 31 #[.pointer (some ⟨b, 0, none⟩), frv x] w fun e w' => e = .returned (.bool false) ∧ QueFN w b v lim w' l (dr + 1) := by
  obtain ⟨x1, x2, x3⟩ := x
  have hb := h.1.alloc (.cells #[.int .i64 x1, .int .i64 x2, .string x3] 46)
  have c0 : w.cell? ⟨b, 0, none⟩ = some v := h.1.cell 0
  have c1 : w.cell? ⟨b, 1, none⟩ = some (.int .i64 lim) := h.1.cell 1
  have c2 : w.cell? ⟨b, 2, none⟩ = some (.int .i64 dr) := h.1.cell 2
  have k0 : (w.alloc (.cells #[.int .i64 x1, .int .i64 x2, .string x3] 46)).cell? ⟨b, 0, none⟩ = some v := hb.cell 0
  have k1 : (w.alloc (.cells #[.int .i64 x1, .int .i64 x2, .string x3] 46)).cell? ⟨b, 1, none⟩ = some (.int .i64 lim) := hb.cell 1
  have k2 : (w.alloc (.cells #[.int .i64 x1, .int .i64 x2, .string x3] 46)).cell? ⟨b, 2, none⟩ = some (.int .i64 dr) := hb.cell 2
  have f2 := hb.free 2
  have H := Lib.hid h
  have HB := Lib.hid hb
  have hl' : (lim : Int) ≤ (l.length : Int) := by omega
  obtain ⟨A, c, rfl⟩ := h.2.1.form
  clear h hb
  go_enter Try.func31, Try.ntmps31
  go_wp2
  go_quiet (fail)
  go_wp2
  go_ret
  refine ⟨rfl, _, ⟨((HB.out.drewN nq).put 2 (.int .i64 ((dr : Int) + 1))), ((H.out.2.1.alloc _).drewN nq).put H.out.2.2 _, H.out.2.2⟩, (((Keeps.refl _ _).alloc _).drew nq).put (.inl (.inl rfl)) _, fun i hi => .inl hi⟩
end
end Go.Proofs.Ytjhihccjhnlghaa
