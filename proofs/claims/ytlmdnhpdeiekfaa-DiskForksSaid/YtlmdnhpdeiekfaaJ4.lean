/- A job's sectors, and what is read of them: by their contracts. -/
import Derived.Test.YtlmdnhpdeiekfaaJ3
import Derived.Test.YtlmdnhpdeiekfaaFQ0
import Derived.Test.YtlmdnhpdeiekfaaF
namespace Go.Proofs.Ytlmdnhpdeiekfaa
open Go.RowKit Go.Lib Go.Sort
set_option linter.unusedVariables false

def secL (S : Nat → UInt8) (a n : Nat) : List UInt8 := (List.range n).map fun i => S (a + i)
theorem secS_eq (S : Nat → UInt8) (a n : Nat) : secS S a n = ⟨(secL S a n).toArray⟩ := rfl
theorem secL_len (S : Nat → UInt8) (a n : Nat) : (secL S a n).length = n := by simp [secL]
theorem secL_add (S : Nat → UInt8) (a n m : Nat) : secL S a n ++ secL S (a + n) m = secL S a (n + m) := by
  apply List.ext_getElem?
  intro i
  by_cases h : i < n
  · rw [List.getElem?_append_left (by simp [secL]; omega)]
    simp [secL, h, show i < n + m by omega]
  · rw [List.getElem?_append_right (by simp [secL]; omega)]
    by_cases h2 : i < n + m
    · simp [secL, h2, show i - n < m by omega, show a + n + (i - n) = a + i by omega]
    · simp [secL, h2, show ¬ i - n < m by omega]
def u8L (l : List UInt8) : List Value := l.map fun b => .int .u8 b.toNat
theorem u8L_len (l : List UInt8) : (u8L l).length = l.length := by simp [u8L]
theorem u8L_one (l : List UInt8) : ∀ u ∈ u8L l, u.oneCell' = true := by
  intro u hu
  obtain ⟨b, _, rfl⟩ := List.mem_map.1 hu
  rfl
theorem u8L_app (a b : List UInt8) : u8L (a ++ b) = u8L a ++ u8L b := by simp [u8L]
theorem by_info : (Try.prog.info? 5).map (fun i => (i.zero, i.size, i.bytes)) = some (some (.int .u8 0), 1, 1) := by kernel_rfl
/-- Bytes of the call's own. -/
def OwnY (w : World) (B : Nat) (v : Value) (l : List UInt8) : Prop := w.ownsRow B 5 1 v l.length (u8L l)
theorem OwnY.form {w : World} {B : Nat} {v : Value} {l : List UInt8} (h : OwnY w B v l) : ∃ A c, v = .slice A l.length c := own_form h
theorem OwnY.grown {w w' : World} {B : Nat} {v : Value} {l : List UInt8} (h : OwnY w B v l) (hb : w.grownBy w' none) : OwnY w' B v l := World.ownsRow.kept h hb (by cases hv : v.ownBlock <;> simp)
theorem OwnY.row {w : World} {B n : Nat} {v : Value} {l : List UInt8} (h : OwnY w B v l) (hn : l.length = n) : w.ownsRow B 5 1 v n (u8L l) := by subst hn; exact h
theorem OwnY.next {w : World} {B i f s : Nat} {v : Value} {S : Nat → UInt8} (h : w.ownsRow B 5 1 v (i * 16 + 16) (u8L (secL S ((f + s) * 16) (i * 16)) ++ u8L (secL S ((f + s + i) * 16) 16))) : OwnY w B v (secL S ((f + s) * 16) ((i + 1) * 16)) := by
  have e1 : (f + s + i) * 16 = (f + s) * 16 + i * 16 := by omega
  have e2 : i * 16 + 16 = (i + 1) * 16 := by omega
  rw [e1, ← u8L_app, secL_add, e2] at h
  unfold OwnY
  rw [secL_len]
  exact h
theorem OwnY.str {w : World} {B : Nat} {v : Value} {l : List UInt8} (h : OwnY w B v l) : (convert 71 9 v).run Try.prog w = .ok (.string ⟨l.toArray⟩) w := by
  have h' : w.ownsRow B 5 1 v l.length (u8L l) := h
  rcases h'.2 with ⟨rfl, h0⟩ | ⟨g, cap, cur, rfl, _⟩
  · have hl : l = [] := List.eq_nil_of_length_eq_zero h0
    subst hl
    exact run_convert_bytes_nil w 71 5 Try.underlying71 Try.underlying5 0 0 9 Try.underlying9
  · refine run_convert_bytes_back (P := Try.prog) w 71 9 5 ⟨g, 0, none⟩ cap l Try.underlying71 Try.underlying5 Try.underlying9 (fun i hi => ?_)
    have ha : (⟨g, 0, none⟩ : Addr).add i = ⟨g, i, none⟩ := by unfold Addr.add; split <;> simp_all
    rw [ha, h'.cellAt i (by omega)]
    simp [u8L, hi]
section
variable {w w' : World} {b : Nat} {S : Nat → UInt8} {T : Nat → Prt} {bz : Bool} {j : Jb} {st : Int} {v : Value}
theorem at_any (h : Dsk w b S T bz j st v) (k s i : Nat) (n : Int) (wr : Bool) (t : ByteArray) (hk : k < 9) {f : Nat} (hf : (T k).2.1 = f) (hi : f + s + i < 512) :
    Calls Try.prog 38 #[.pointer (some ⟨b, 0, none⟩), jbv (k, s, n, wr, t), .int .i64 i] w fun e w' => e = .returned (.pointer (some ⟨b, (f + s + i) * 16, none⟩)) ∧ w.grownBy w' none := by
  obtain ⟨_, c1, _⟩ := h.row hk
  rw [hf] at c1
  have d1 : (w.alloc (.cells #[.int .i64 k, .int .i64 s, .int .i64 n, .bool wr, .string t] 36)).cell? ⟨b, 8192 + k * 3 + 1, none⟩ = some (.int .i64 f) := Go.Lib.cell?_alloc_some _ c1
  have e1 : IntKind.i64.wrap ((f : Int) + (s : Int)) = (f : Int) + (s : Int) := by rw [IntKind.wrap_i64]; omega
  have e2 : IntKind.i64.wrap ((f : Int) + (s : Int) + (i : Int)) = (f : Int) + (s : Int) + (i : Int) := by rw [IntKind.wrap_i64]; omega
  have e3 : ((f : Int) + (s : Int) + (i : Int)).toNat = f + s + i := by omega
  have i2 : (0 : Int) ≤ (f : Int) + (s : Int) + (i : Int) := by omega
  have i3 : (f : Int) + (s : Int) + (i : Int) < 512 := by omega
  have i4 : (k : Int) < 9 := by omega
  clear h hf c1
  go_enter Try.func38, Try.ntmps38
  go_wp2
  go_quiet (fail)
  go_wp2
  go_ret
  exact ⟨rfl, only_drewN (only_alloc (only_refl _ _) _) _⟩

/-- The cells of a disk's bytes, as the source of an append. -/
theorem dsk_src (h : Dsk w b S T bz j st v) (a n : Nat) (ha : a + n ≤ 8192) : ∀ i u, (u8L (secL S a n))[i]? = some u → w.cell? ((⟨b, a, none⟩ : Addr).add i) = some u := fun i u hu => by
  have hi : i < n := by
    have := (List.getElem?_eq_some_iff.1 hu).1
    rw [u8L_len, secL_len] at this
    exact this
  have e : (⟨b, a, none⟩ : Addr).add i = ⟨b, a + i, none⟩ := by unfold Addr.add; split <;> simp_all
  rw [e, h.byte (by omega)]
  simp [u8L, secL, hi] at hu
  rw [hu]

set_option maxHeartbeats 1600000 in
theorem read_any (h : Dsk w b S T bz j st v) (k s m : Nat) (t : ByteArray) (hk : k < 9) {f : Nat} (hf : (T k).2.1 = f) (hi : f + s + m ≤ 512) (hm : m ≤ 2) :
    Calls Try.prog 27 #[.pointer (some ⟨b, 0, none⟩), jbv (k, s, (m : Int) * 16, false, t)] w fun e w' => e = .returned (.string (secS S ((f + s) * 16) (m * 16))) ∧ Below w.heap.size w w' := by
  obtain ⟨i0, hi0, hz0, hz1, hz2⟩ := info_parts by_info
  have HD := Lib.hid h
  have HF := Lib.hid hf
  have HJ := Lib.hid (fun (W : World) (hb : Below (w.heap.size + 1) (w.alloc (.cells #[.int .i64 k, .int .i64 s, .int .i64 ((m : Int) * 16), .bool false, .string t] 36)) W) => job_cells (j := ((k : Int), (s : Int), (m : Int) * 16, false, t)) hb)
  have HL := Lib.hid (h.lt)
  clear h hf
  go_enter Try.func27, Try.ntmps27
  go_wp2
  go_loopw [5, 10] (fun x y wr => ∃ (i : Nat) (A : Option Addr) (c : Nat), y = .int .i64 i ∧ i ≤ m ∧ x = .slice A (i * 16) c ∧ Hid (OwnY wr (w.heap.size + 1) (.slice A (i * 16) c) (secL S ((f + s) * 16) (i * 16))) ∧ Hid (Below (w.heap.size + 1) (w.alloc (.cells #[.int .i64 k, .int .i64 s, .int .i64 ((m : Int) * 16), .bool false, .string t] 36)) wr)) (fun _ y _ => m - (intOf y).toNat)
  case atStart => exact ⟨0, none, 0, rfl, by omega, rfl, Lib.hid (World.ownsRow_nil _ _ _ _), Lib.hid (Below.refl _ _)⟩
  case round =>
    obtain ⟨i, A, c, rfl, him, rfl, OW, HB⟩ := hrel
    have hdw := HD.out.only (only_far ((((Below.refl w.heap.size w).alloc (Nat.le_refl _) (.cells #[.int .i64 k, .int .i64 s, .int .i64 ((m : Int) * 16), .bool false, .string t] 36))).trans (HB.out.mono (by omega)))) (by simp)
    obtain ⟨q0, q1, q2, q3, q4⟩ := HJ.out _ HB.out
    try simp only at q0 q1 q2 q3 q4
    by_cases hin : i < m
    · have HA := Lib.hid (at_any hdw k s i ((m : Int) * 16) false t hk HF.out (by omega))
      have HDW := Lib.hid hdw
      have i1 : (i : Int) < (m : Int) := by omega
      have hlen : (secL S ((f + s) * 16) (i * 16)).length = i * 16 := secL_len _ _ _
      have HX := Lib.hid hlen
      have HIM := Lib.hid hin
      clear hdw hlen hin
      go_wp2_with (first
        | (go_at_call 38; with_reducible refine HA.out.mono ?_; rintro e w1 ⟨rfl, g1⟩; have D1 := Lib.hid (HDW.out.grown g1); have O1 := Lib.hid (OW.out.grown g1); have B1 := Lib.hid (HB.out.trans (below_of_only g1 (by have := HB.out.size; simp at this; omega) (by simp))); clear g1)
        | (at_builtin; go_loud (refine wpList_append_own _ rfl (.tmp 13) (.tmp 19) 71 rfl (w.heap.size + 1) 5 i0 _ 1 1 Try.underlying71 hi0 hz0 hz1 hz2 rfl (by decide) _ (i * 16) _ rfl (O1.out.row HX.out) ⟨b, (f + s + i) * 16, none⟩ 16 16 (u8L (secL S ((f + s + i) * 16) 16)) rfl (by rw [u8L_len, secL_len]) (dsk_src D1.out _ _ (by have := HIM.out; omega)) (u8L_one _) (by unfold maxLen; omega) (by omega) (by have := B1.out.size; simp at this; omega) ?_; intro v2 w2 ow2 g2 _; have hv : ∃ A2 c2, v2 = .slice A2 ((i + 1) * 16) c2 := (by obtain ⟨A2, c2, e⟩ := own_form ow2; exact ⟨A2, c2, by rw [e]; congr 1; omega⟩); obtain ⟨A2, c2, rfl⟩ := hv; have O2 : Hid (OwnY w2 (w.heap.size + 1) (.slice A2 ((i + 1) * 16) c2) (secL S ((f + s) * 16) ((i + 1) * 16))) := Lib.hid (OwnY.next ow2); have B2 := Lib.hid (B1.out.trans (below_of_only g2 (by have := B1.out.size; simp at this; omega) (fun k' hk' => (World.ownsRow.lt O1.out k' hk').1))); clear ow2 g2)))
      go_roundw
      case rel => exact ⟨i + 1, A2, c2, by go_num, by have := HIM.out; omega, rfl, O2, B2⟩
      case measure => have := HIM.out; simp [intOf]; omega
    · obtain rfl : i = m := by omega
      have hs := OW.out.str
      clear hdw
      go_wp2
      go_ret
      exact ⟨rfl, ((Below.refl w.heap.size w).alloc (Nat.le_refl _) _).trans (HB.out.mono (by omega))⟩
end
end Go.Proofs.Ytlmdnhpdeiekfaa
