/- Sorted: its contract, for rows of fewer than 20 spans. -/
import Derived.Test.YtgineifljofljaaS2
import Derived.Test.YtgineifljofljaaF
import Derived.Laws.AppendOwnNone
namespace Go.Proofs.Ytgineifljofljaa
open Go.RowKit Go.Lib Go.Sort
set_option linter.unusedVariables false

/-- Spans that came in, or were made: nil, or a row of cells. -/
def Spans (w : World) (A : Option Addr) (len cap : Nat) (d : Nat → Int × Int) : Prop :=
  (A = none → len = 0 ∧ cap = 0) ∧ (0 < len → ∃ b off, A = some ⟨b, off, none⟩ ∧ b < w.heap.size ∧ ∀ i, i < len → w.cell? ⟨b, off + i * 2, none⟩ = some (.int .i64 (d i).1) ∧ w.cell? ⟨b, off + i * 2 + 1, none⟩ = some (.int .i64 (d i).2))

/-- The cells of n spans. -/
def spCells (n : Nat) (d : Nat → Int × Int) : List Value := (List.range n).flatMap fun i => [.int .i64 (d i).1, .int .i64 (d i).2]
theorem spCells_succ (n : Nat) (d : Nat → Int × Int) : spCells (n + 1) d = spCells n d ++ [.int .i64 (d n).1, .int .i64 (d n).2] := by
  simp [spCells, List.range_succ]
theorem spCells_len (n : Nat) (d : Nat → Int × Int) : (spCells n d).length = n * 2 := by
  induction n with
  | zero => rfl
  | succ n ih => rw [spCells_succ, List.length_append, ih]; simp; omega
theorem spCells_get {n : Nat} {d : Nat → Int × Int} {i : Nat} (hi : i < n) : (spCells n d)[i * 2]? = some (.int .i64 (d i).1) ∧ (spCells n d)[i * 2 + 1]? = some (.int .i64 (d i).2) := by
  induction n with
  | zero => omega
  | succ n ih =>
    rw [spCells_succ]
    by_cases h : i < n
    · obtain ⟨h1, h2⟩ := ih h
      rw [List.getElem?_append_left (by rw [spCells_len]; omega), List.getElem?_append_left (by rw [spCells_len]; omega)]
      exact ⟨h1, h2⟩
    · obtain rfl : i = n := by omega
      rw [List.getElem?_append_right (by rw [spCells_len]; omega), List.getElem?_append_right (by rw [spCells_len]; omega), spCells_len]
      have e1 : i * 2 - i * 2 = 0 := by omega
      have e2 : i * 2 + 1 - i * 2 = 1 := by omega
      rw [e1, e2]
      exact ⟨rfl, rfl⟩
theorem spCells_cell (n : Nat) (d : Nat → Int × Int) : ∀ u ∈ spCells n d, u.oneCell' = true := by
  intro u hu
  simp only [spCells, List.mem_flatMap] at hu
  obtain ⟨i, _, hi⟩ := hu
  simp at hi
  rcases hi with rfl | rfl <;> rfl

/-- A value is a row of spans in a block from B on, or nil. -/
def RowV (w : World) (B : Nat) (v : Value) (n : Nat) (d : Nat → Int × Int) : Prop :=
  (v = .slice none 0 0 ∧ n = 0) ∨ ∃ g cap, v = .slice (some ⟨g, 0, none⟩) n cap ∧ B ≤ g ∧ RowS w g n cap d

theorem own_of_row {w : World} {B : Nat} {v : Value} {n : Nat} {d : Nat → Int × Int} (h : RowV w B v n d) : w.ownsRow B 23 2 v n (spCells n d) := by
  refine ⟨spCells_len n d, ?_⟩
  rcases h with ⟨rfl, rfl⟩ | ⟨g, cap, rfl, hB, cur, h1, ⟨h2, h3⟩, h4, h5⟩
  · exact .inl ⟨rfl, rfl⟩
  · refine .inr ⟨g, cap, cur, rfl, hB, h1, h2, h3, h4, ?_⟩
    apply List.ext_getElem?
    intro k
    by_cases hk : k < n * 2
    · rw [List.getElem?_take_of_lt hk]
      obtain ⟨i, hi⟩ : ∃ i, k = i * 2 ∨ k = i * 2 + 1 := ⟨k / 2, by omega⟩
      have hin : i < n := by omega
      obtain ⟨e1, e2⟩ := h5 i hin
      obtain ⟨s1, s2⟩ := spCells_get (d := d) hin
      rcases hi with rfl | rfl
      · rw [s1, ← e1]; simp
      · rw [s2, ← e2]; simp
    · rw [List.getElem?_eq_none (by simp; omega), List.getElem?_eq_none (by rw [spCells_len]; omega)]
theorem row_of_own {w : World} {B : Nat} {v : Value} {n : Nat} {d : Nat → Int × Int} (h : w.ownsRow B 23 2 v n (spCells n d)) : RowV w B v n d := by
  rcases h.2 with ⟨rfl, rfl⟩ | ⟨g, cap, cur, rfl, hB, h1, h2, h3, h4, h5⟩
  · exact .inl ⟨rfl, rfl⟩
  · refine .inr ⟨g, cap, rfl, hB, cur, h1, ⟨h2, h3⟩, h4, fun i hi => ?_⟩
    obtain ⟨s1, s2⟩ := spCells_get (d := d) hi
    rw [← h5] at s1 s2
    rw [List.getElem?_take_of_lt (by omega)] at s1 s2
    exact ⟨by simpa using s1, by simpa using s2⟩

theorem span_info : (Try.prog.info? 23).map (fun i => (i.zero, i.size, i.bytes)) = some (some (.agg #[.int .i64 0, .int .i64 0]), 2, 16) := by kernel_rfl

theorem stable_small (g n cap : Nat) (d : Nat → Int × Int) (w : World) (h : RowS w g n cap d) (hn : n < 20) :
    Calls Try.prog 40 #[.slice (some ⟨g, 0, none⟩) n cap, .int .i64 n, .func (.func 37) #[] #[]] w fun r w' => r = .returned (.tuple #[]) ∧ SortsTo g n cap 0 n d w w' := by
  have hi := insertion_any g n cap 0 n d w h (by omega) (by omega) (by omega)
  have HI := Lib.hid hi
  clear hi h
  go_enter Try.func40, Try.ntmps40
  go_wp2
  refine wp_loop_rounds 1 ?_
  rw [rounds_succ]
  go_wp2_with (go_at_call 42; refine HI.out.mono ?_; rintro e w1 ⟨rfl, h1⟩)
  refine wp_loop_rounds 1 ?_
  rw [rounds_succ]
  go_wp2
  go_end0
  exact ⟨rfl, h1⟩

/-- What the stable sort does of a row of n spans. -/
def StableOK (n : Nat) : Prop := ∀ (g cap : Nat) (d : Nat → Int × Int) (w : World), RowS w g n cap d →
    Calls Try.prog 40 #[.slice (some ⟨g, 0, none⟩) n cap, .int .i64 n, .func (.func 37) #[] #[]] w fun r w' => r = .returned (.tuple #[]) ∧ SortsTo g n cap 0 n d w w'

theorem insertion_nil (w : World) : Calls Try.prog 42 #[.slice none 0 0, .int .i64 0, .int .i64 0, .func (.func 37) #[] #[]] w fun r w' => r = .returned (.tuple #[]) ∧ w = w' := by
  go_enter Try.func42, Try.ntmps42
  go_wp2
  refine wp_loop_rounds 1 ?_
  rw [rounds_succ]
  go_wp2
  go_end0
  exact ⟨rfl, rfl⟩
theorem stable_nil (w : World) : Calls Try.prog 40 #[.slice none 0 0, .int .i64 0, .func (.func 37) #[] #[]] w fun r w' => r = .returned (.tuple #[]) ∧ w = w' := by
  go_enter Try.func40, Try.ntmps40
  go_wp2
  refine wp_loop_rounds 1 ?_
  rw [rounds_succ]
  go_wp2_with (go_at_call 42; refine (insertion_nil _).mono ?_; rintro e w1 ⟨rfl, rfl⟩)
  refine wp_loop_rounds 1 ?_
  rw [rounds_succ]
  go_wp2
  go_end0
  exact ⟨rfl, rfl⟩
theorem sortf_nil (w : World) : Calls Try.prog 36 #[.slice none 0 0, .func (.func 37) #[] #[]] w fun r w' => r = .returned (.tuple #[]) ∧ w = w' := by
  go_enter Try.func36, Try.ntmps36
  go_wp2_with (go_at_call 40; refine (stable_nil _).mono ?_; rintro e w1 ⟨rfl, rfl⟩)
  go_end0
  exact ⟨rfl, rfl⟩
theorem sortf_any (g n cap : Nat) (d : Nat → Int × Int) (w : World) (h : RowS w g n cap d) (hok : StableOK n) :
    Calls Try.prog 36 #[.slice (some ⟨g, 0, none⟩) n cap, .func (.func 37) #[] #[]] w fun r w' => r = .returned (.tuple #[]) ∧ SortsTo g n cap 0 n d w w' := by
  have hs := hok g cap d w h
  have HS := Lib.hid hs
  clear hs h hok
  go_enter Try.func36, Try.ntmps36
  go_wp2_with (go_at_call 40; refine HS.out.mono ?_; rintro e w1 ⟨rfl, h1⟩)
  go_end0
  exact ⟨rfl, h1⟩

/-- Spans in order: a row of the call's own, in which the spans d stand sorted. -/
def SortedV (B n : Nat) (d : Nat → Int × Int) (w : World) (e : Ending) (w' : World) : Prop :=
  ∃ v d', e = .returned v ∧ RowV w' B v n d' ∧ So.Perm 0 n d d' ∧ So.Sorted d' 0 n ∧ Below B w w'

theorem spans_cells {w : World} {b off len : Nat} {d : Nat → Int × Int} (h : ∀ i, i < len → w.cell? ⟨b, off + i * 2, none⟩ = some (.int .i64 (d i).1) ∧ w.cell? ⟨b, off + i * 2 + 1, none⟩ = some (.int .i64 (d i).2)) :
    ∀ j u, (spCells len d)[j]? = some u → w.cell? ((⟨b, off, none⟩ : Addr).add j) = some u := by
  intro j u hj
  have hl : j < len * 2 := by
    rcases Nat.lt_or_ge j (len * 2) with h' | h'
    · exact h'
    · rw [List.getElem?_eq_none (by rw [spCells_len]; exact h')] at hj; cases hj
  obtain ⟨i, hi⟩ : ∃ i, j = i * 2 ∨ j = i * 2 + 1 := ⟨j / 2, by omega⟩
  have hin : i < len := by omega
  obtain ⟨e1, e2⟩ := h i hin
  obtain ⟨s1, s2⟩ := spCells_get (d := d) hin
  have ha : (⟨b, off, none⟩ : Addr).add j = ⟨b, off + j, none⟩ := by unfold Addr.add; split <;> simp_all
  rw [ha]
  rcases hi with rfl | rfl
  · rw [s1] at hj; rw [e1]; exact hj
  · rw [s2] at hj; rw [← Nat.add_assoc, e2]; exact hj

theorem sorted_any (A : Option Addr) (len cap : Nat) (d : Nat → Int × Int) (w : World) (hsp : Spans w A len cap d) (hl : len ≤ 1000000) (hok : StableOK len) :
    Calls Try.prog 21 #[.slice A len cap] w (SortedV w.heap.size len d w) := by
  obtain ⟨i0, hi0, hz0, hz1, hz2⟩ := info_parts span_info
  by_cases h0 : len = 0
  · subst h0
    have fin : ∀ w1, w.grownBy w1 none → SortedV w.heap.size 0 d w (.returned (.slice none 0 0)) w1 := fun w1 hg => ⟨_, d, rfl, .inl ⟨rfl, rfl⟩, So.Perm.refl _ _ _, fun p q _ _ h => by omega, below_of_only hg (Nat.le_refl _) (by simp)⟩
    have FIN := Lib.hid fin
    clear fin
    cases A with
    | none =>
      obtain ⟨_, rfl⟩ := hsp.1 rfl
      clear hsp hok
      go_enter Try.func21, Try.ntmps21
      go_wp2_with (first | (at_builtin; refine wpList_append_own_none rfl _ _ 31 rfl w.heap.size 23 i0 2 Try.underlying31 hi0 _ _ [] rfl (World.ownsRow_nil _ _ _ _) rfl ?_) | (go_at_call 36; refine (sortf_nil _).mono ?_; rintro e w1 ⟨rfl, rfl⟩))
      go_ret
      exact FIN.out _ (only_refl _ _)
    | some ad =>
      clear hsp hok
      go_enter Try.func21, Try.ntmps21
      go_wp2_with (first | (at_builtin; refine wpList_append_own _ rfl (.const (.slice none 0 0)) (.tmp 4) 31 rfl w.heap.size 23 i0 _ 2 16 Try.underlying31 hi0 hz0 hz1 hz2 rfl (by decide) (.slice none 0 0) 0 [] rfl (World.ownsRow_nil _ _ _ _) ad 0 cap [] rfl rfl (by intro j u hj; simp at hj) (by intro u hu; simp at hu) (by simp [maxLen]) (by omega) (Nat.le_refl _) ?_; intro v1 w1 hown1 hg1 hv1; obtain rfl : v1 = .slice none 0 0 := hv1.2 ⟨rfl, rfl⟩; clear hown1 hv1) | (go_at_call 36; refine (sortf_nil _).mono ?_; rintro e w1 ⟨rfl, rfl⟩))
      go_ret
      exact FIN.out _ hg1
  · obtain ⟨b, off, rfl, hb, hc⟩ := hsp.2 (by omega)
    have hcs := spans_cells hc
    have HCS := Lib.hid hcs
    have HOK := Lib.hid hok
    have h1c := spCells_cell len d
    have H1C := Lib.hid h1c
    have hlen := spCells_len len d
    have HLEN := Lib.hid hlen
    clear hsp hc hcs hok h1c hlen
    go_enter Try.func21, Try.ntmps21
    go_wp2_with (first | (at_builtin; refine wpList_append_own _ rfl (.const (.slice none 0 0)) (.tmp 4) 31 rfl w.heap.size 23 i0 _ 2 16 Try.underlying31 hi0 hz0 hz1 hz2 rfl (by decide) (.slice none 0 0) 0 [] rfl (World.ownsRow_nil _ _ _ _) ⟨b, off, none⟩ len cap (spCells len d) rfl HLEN.out HCS.out H1C.out (by unfold maxLen; omega) (by omega) (Nat.le_refl _) ?_; intro v1 w1 hown1 hg1 hv1))
    have hown2 : w1.ownsRow w.heap.size 23 2 v1 len (spCells len d) := by simpa using hown1
    rcases row_of_own hown2 with ⟨_, hz⟩ | ⟨g, cap1, rfl, hgB, hrow⟩
    · exact absurd hz h0
    · have hbw : Below w.heap.size w w1 := below_of_only hg1 (Nat.le_refl _) (by simp [Value.ownBlock])
      have HBW := Lib.hid hbw
      have HSO := Lib.hid (sortf_any g len cap1 d w1 hrow HOK.out)
      clear hown1 hown2 hg1 hv1 hrow hbw
      refine HSO.out.mono ?_
      rintro e w2 ⟨rfl, hs⟩
      go_wp2
      go_ret
      obtain ⟨d', p1, p2, p3, p4⟩ := hs
      exact ⟨_, d', rfl, .inr ⟨g, cap1, rfl, hgB, p3⟩, p1, p2, HBW.out.trans (below_of_only p4 HBW.out.size (fun k hk => by injection hk with hk; omega))⟩
end Go.Proofs.Ytgineifljofljaa
