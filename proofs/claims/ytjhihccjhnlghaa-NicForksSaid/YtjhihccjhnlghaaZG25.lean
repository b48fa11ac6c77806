import Derived.Test.YtjhihccjhnlghaaZG16
import Derived.Test.YtjhihccjhnlghaaZG24
import Derived.Deep.Cut
set_option linter.all false
/- A fork of a device and of the document's ports: what both have. -/
namespace Go.Proofs.Ytjhihccjhnlghaa
open Go.RowKit Go.Lib
set_option linter.unusedVariables false

theorem dv_fork {w : World} {dd : Nat} {O : Nat → Prop} {odd : Int} {S : List Frm} {n : Nat} {P : Nat → Sp} {c : Nat} (h : Dv w dd O odd S n P) (hs : S.length ≤ 1000) (hsm : Sm n P odd c) (hc : c ≤ 1000) (hn : n ≤ 1000) :
    Calls Try.prog 22 #[.pointer (some ⟨dd, 0, none⟩)] w fun e w' => ∃ df O2, e = .returned (.pointer (some ⟨df, 0, none⟩)) ∧ Dv w' df O2 odd S n P ∧ (∀ i, O2 i → w.heap.size ≤ i) ∧ Below w.heap.size w w' := by
  obtain ⟨m, lv, G, hg, hm, hO⟩ := h
  have hlen : G.length = n := by have := congrArg List.length hm; simpa using this
  refine (nfork_any hg hs (fun g hg' => ?_) (by omega)).mono fun e w' ⟨d2, m2, lv2, G2, h1, h2, h3, h4, h5⟩ => ⟨d2, _, h1, ⟨m2, lv2, G2, h2, h3.trans hm, rfl⟩, h4, h5⟩
  have : g.sp ∈ (List.range n).map P := by rw [← hm]; exact List.mem_map.2 ⟨g, hg', rfl⟩
  obtain ⟨i, hi, he⟩ := List.mem_map.1 this
  have := (hsm.1 i (by simpa using hi)).1
  rw [he] at this
  have h9 : g.l.length ≤ c := this
  omega

/-- append of a whole row onto an empty one: where the new row lies. -/
theorem run_copyZ {P : Program} {s : Nat} (w : World) (t e ty : TypeId) (i : TypeInfo) (z : Value) (bytes : Nat) (ht : P.underlying t = some (.slice e)) (hi : P.info? e = some i) (hz : i.zero = some z) (hs : i.size = s) (hby : i.bytes = bytes) (hb16 : bytes ≤ 64) (hzs : z.cells.size = s)
    (b m : Nat) (hb : b < w.heap.size) (xs : Value) (x : List Value) (hx : Src P s t xs m x w) (hn : m ≤ 1000000) :
    ∃ A c w', (Builtin.append_ #[t, t] ty #[.slice (some ⟨b, 0, none⟩) 0 0, xs]).run P w = .ok (.slice (some A) m c) w' ∧ w.grownBy w' none ∧
      (0 < m → ∃ (g : Nat) (cs : Array Value), A = ⟨g, 0, none⟩ ∧ w.heap.size ≤ g ∧ Blk w' g e cs ∧ m * s ≤ cs.size ∧ ∀ (j : Nat) (u : Value), x[j]? = some u → cs[j]? = some u) := by
  have hxl : x.length = m * s := hx.newsLen
  have hsrc : Src P i.size t xs m x w := by rw [hs]; exact hx
  rcases Nat.eq_zero_or_pos m with rfl | hm
  · have hx0 : x = [] := List.eq_nil_of_length_eq_zero (by omega)
    subst hx0
    have hr := run_append_room_src (P := P) w t t ty e i ht hi b 0 0 0 xs 0 [] hsrc (by omega) (by simp) (by simp)
    exact ⟨_, _, _, hr, only_refl w none, fun h => absurd h (by omega)⟩
  · have hbm : (0 + m) * bytes ≤ 140737488355328 := by
      have : (0 + m) * bytes ≤ 1000001 * 64 := Nat.mul_le_mul (by omega) hb16
      omega
    have hold := ((RowZ.empty (w := w) s 0 hb).drewN 1).src (P := P) t e ht (by simp) |>.cells
    have hr := run_append_grow_src (P := P) w t t ty e i z ht hi hz (some ⟨b, 0, none⟩) 0 0 [] (by rw [hs]; exact hold) xs m x hsrc (by omega) (by omega) (by rw [hby]; exact growslice_fits (by omega) hbm)
    rw [Nat.zero_add, List.nil_append] at hr
    refine ⟨_, _, _, hr, ⟨rfl, rfl, rfl, by simp, fun k hk _ => Below.heap_alloc w.drew _ k hk⟩, fun _ => ⟨w.heap.size, _, rfl, Nat.le_refl _, Blk.new w.drew _ _, ?_, fun j u hu => ?_⟩⟩
    · simp only [Array.size_append, List.size_toArray, hxl]
      omega
    · have hj := (List.getElem?_eq_some_iff.1 hu).1
      rw [Array.getElem?_append_left (by simpa using hj)]
      simpa using hu

/-- The document's ports as1 they are read, for an append of them. -/
theorem Dc.src {w : World} {A : Option Addr} {n : Nat} {R : Nat → Rp} (h : Dc w A n R) (c : Nat) (ho : ∀ k, k < n → (R k).2.2.2.1.oneCell' = true) : Src Try.prog 5 24 (.slice A n c) n (rpCells n R) w := by
  rcases Nat.eq_zero_or_pos n with rfl | hp
  · cases A with
    | none => exact Src.ofNil w Try.underlying24 c
    | some a => exact Src.ofSlice w Try.underlying24 _ _ _ _ (by simp [rpCells]) (by simp [rpCells]) (by simp [rpCells])
  · obtain ⟨g, cs, rfl, hg, hz, hc⟩ := h hp
    refine Src.ofSlice w Try.underlying24 _ _ _ _ (rpCells_len n R) (fun j u hu => ?_) (fun u hu => ?_)
    · rw [addr_at, Nat.zero_add, hg.cell]
      exact hc j u hu
    · simp only [rpCells, List.mem_flatMap, List.mem_range] at hu
      obtain ⟨k, hk, hu⟩ := hu
      exact rpL_one (R k) (ho k hk) u hu
theorem RowZ.one {s : Nat} {w : World} {v : Value} {n : Nat} {xs : List Value} (h : RowZ s w v n xs) : v.oneCell' = true := by
  obtain ⟨A, c, rfl⟩ := h.form
  rfl

/-- Two devices and two of the document's ports: the second ones are written apart from the first. -/
def Pr (w : World) (B : Nat) (d : Nat → I3) (n dd df : Nat) (A1 A2 : Option Addr) (L : Nat) (c1 c2 : Nat) : Prop :=
  ∃ (F1 : FF) (o1 : Int) (S1 : List Frm) (O1 : Nat → Prop) (P1 : Nat → Sp) (R1 : Nat → Rp) (F2 : FF) (o2 : Int) (S2 : List Frm) (O2 : Nat → Prop) (P2 : Nat → Sp) (R2 : Nat → Rp),
    Bo w F1 d n dd A1 o1 S1 c1 O1 P1 R1 ∧ Bo w F2 d n df A2 o2 S2 c2 O2 P2 R2 ∧ (∀ i, F1.1 i → ¬ F2.2 i) ∧ (∀ i, F1.1 i → B ≤ i) ∧ (∀ i, F2.1 i → B ≤ i) ∧ S1.length = L
section
variable {w w' : World} {B : Nat} {d : Nat → I3} {n dd df : Nat} {A1 A2 : Option Addr} {L c1 c2 : Nat}
theorem Pr.below (h : Pr w B d n dd df A1 A2 L c1 c2) (hb : Below w.heap.size w w') : Pr w' B d n dd df A1 A2 L c1 c2 := by
  obtain ⟨F1, o1, S1, O1, P1, R1, F2, o2, S2, O2, P2, R2, h1, h2, h3⟩ := h
  exact ⟨F1, o1, S1, O1, P1, R1, F2, o2, S2, O2, P2, R2, h1.below hb, h2.below hb, h3⟩
theorem Pr.size (h : Pr w B d n dd df A1 A2 L c1 c2) : B ≤ w.heap.size := by
  obtain ⟨F1, o1, S1, O1, P1, R1, F2, o2, S2, O2, P2, R2, h1, h2, h3, h4, _⟩ := h
  have := h1.1.self
  have h9 := (h1.2.2.2.2.2.2.2.2.1 dd).2 (.inl this)
  have := h4 _ h9
  have := h1.lt _ h9
  omega
theorem Pr.deed (h : Pr w B d n dd df A1 A2 L c1 c2) (cl : Nat) (x : Ded) (hfo : fitI x.2.1) (hs : x.2.2.2.2.size ≤ 200) (hc : c2 ≤ 900) (hn : n ≤ 1000) :
    Calls Try.prog 12 #[.pointer (some ⟨df, 0, none⟩), .slice A2 n cl, ddv x] w fun e w' => e = .returned (.bool true) ∧ Pr w' B d n dd df A1 A2 L c1 (c2 + 1) ∧ Below B w w' := by
  have hB := h.size
  obtain ⟨F1, o1, S1, O1, P1, R1, F2, o2, S2, O2, P2, R2, h1, h2, h3, h4, h5, h6⟩ := h
  refine (deed_any h2 cl x hfo hs hc hn).mono fun e w' ⟨e1, S', F', O', P', R', k1, k2, k3, k4⟩ => ⟨e1, ⟨F1, o1, S1, O1, P1, R1, F', _, S', O', P', R', h1.keeps k2 h3, k1, fun i hi hi' => ?_, h4, fun i hi => ?_, h6⟩, k2.below hB fun i hi hi' => ?_⟩
  · rcases k4 i hi' with q | q
    · exact h3 i hi q
    · have := h1.lt i hi
      omega
  · rcases k3 i hi with q | q
    · exact h5 i q
    · omega
  · have := h5 i (h2.sub i hi')
    omega
theorem Pr.told1 (h : Pr w B d n dd df A1 A2 L c1 c2) (cl : Nat) (hn : n ≤ 1000) : Calls Try.prog 13 #[.pointer (some ⟨dd, 0, none⟩), .slice A1 n cl] w fun e w' => e = .returned (.bool true) ∧ Below w.heap.size w w' := by
  obtain ⟨F1, o1, S1, O1, P1, R1, F2, o2, S2, O2, P2, R2, h1, h2, h3⟩ := h
  exact told_any h1 cl hn
theorem Pr.told2 (h : Pr w B d n dd df A1 A2 L c1 c2) (cl : Nat) (hn : n ≤ 1000) : Calls Try.prog 13 #[.pointer (some ⟨df, 0, none⟩), .slice A2 n cl] w fun e w' => e = .returned (.bool true) ∧ Below w.heap.size w w' := by
  obtain ⟨F1, o1, S1, O1, P1, R1, F2, o2, S2, O2, P2, R2, h1, h2, h3⟩ := h
  exact told_any h2 cl hn
theorem Pr.log (h : Pr w B d n dd df A1 A2 L c1 c2) (hL : L ≤ 1000) : Calls Try.prog 21 #[.pointer (some ⟨dd, 0, none⟩)] w fun e w' => ∃ A c, e = .returned (.slice A L c) ∧ Below w.heap.size w w' := by
  obtain ⟨F1, o1, S1, O1, P1, R1, F2, o2, S2, O2, P2, R2, h1, h2, h3, _, _, h6⟩ := h
  subst h6
  exact (log_form h1.1 hL).mono fun e w' ⟨A, c, e1, _, e3⟩ => ⟨A, c, e1, e3⟩
/-- What a fork leaves, once the document's ports were copied. -/
theorem Bo.fork {w1 w2 : World} {F : FF} {A : Option Addr} {odd : Int} {S : List Frm} {c : Nat} {O O2 : Nat → Prop} {P : Nat → Sp} {R : Nat → Rp} (h : Bo w F d n dd A odd S c O P R) (hB : ∀ i, F.1 i → B ≤ i) (hBw : B ≤ w.heap.size) (h2 : Dv w1 df O2 odd S n P) (h3 : ∀ i, O2 i → w.heap.size ≤ i) (h4 : Below w.heap.size w w1) (h5 : w1.grownBy w2 none)
    (A2 : Addr) (h6 : 0 < n → ∃ (g : Nat) (cs : Array Value), A2 = ⟨g, 0, none⟩ ∧ w1.heap.size ≤ g ∧ Blk w2 g 52 cs ∧ n * 5 ≤ cs.size ∧ ∀ (j : Nat) (u : Value), (rpCells n R)[j]? = some u → cs[j]? = some u) : Pr w2 B d n dd df A (some A2) S.length c c := by
  have hb2 : Below w.heap.size w w2 := h4.trans (below_of_only h5 h4.size (by simp))
  have hlt := h.lt
  have h0 := h.below hb2
  have h9 := h
  obtain ⟨k1, k2, k3, k4, k5, k6, k7, k8, k9, k10⟩ := h9
  have hg2 : ∀ i, 0 < n → some A2 = some (⟨i, 0, none⟩ : Addr) → w1.heap.size ≤ i := fun i hp e => by
    obtain ⟨g, cs, e2, q, _⟩ := h6 hp
    injection e with e
    rw [e2] at e
    injection e with e
    omega
  have hO1 : ∀ i, O2 i → i < w1.heap.size := h2.lt
  have hw1 := h4.size
  have hD : ∀ i, DcO (some A2) n R i → (0 < n ∧ some A2 = some (⟨i, 0, none⟩ : Addr)) ∨ F.1 i := by
    rintro i (q | ⟨k, hk, q⟩)
    · exact .inl q
    · exact .inr ((k9 i).2 (.inr (.inr ⟨k, hk, q⟩)))
  refine ⟨F, odd, S, O, P, R, (fun i => O2 i ∨ DcO (some A2) n R i, fun i => O2 i ∨ (0 < n ∧ some A2 = some (⟨i, 0, none⟩ : Addr))), odd, S, O2, P, R, h0, ⟨h2.grown h5, fun hp => ?_, h0.2.2.1, k4, k5, k6, fun i hi hi' => ?_, fun k g hk hg e => ?_, fun i => Iff.rfl, fun i => Iff.rfl⟩, fun i hi hi' => ?_, hB, fun i hi => ?_, rfl⟩
  · obtain ⟨g, cs, e2, _, q1, q2, q3⟩ := h6 hp
    exact ⟨g, cs, by rw [e2], q1, q2, q3⟩
  · rcases hD i hi with ⟨hp, q⟩ | q
    · have := hg2 i hp q
      have := hO1 i hi'
      omega
    · have := hlt i q
      have := h3 i hi'
      omega
  · have q1 := hg2 g (by omega) hg
    have q2 := hlt g ((k9 g).2 (.inr (.inr ⟨k, hk, e⟩)))
    omega
  · have q1 := hlt i hi
    rcases hi' with q | ⟨hp, q⟩
    · have := h3 i q
      omega
    · have := hg2 i hp q
      omega
  · rcases hi with q | q
    · have := h3 i q
      omega
    · rcases hD i q with ⟨hp, q⟩ | q
      · have := hg2 i hp q
        omega
      · exact hB i q
end
end Go.Proofs.Ytjhihccjhnlghaa

/- What becomes of a fork changes nothing of the other one: the law. -/
namespace Go.Proofs.Ytjhihccjhnlghaa
open Go.RowKit Go.Lib
set_option linter.unusedVariables false

def ddL (x : Ded) : List Value := [.int .i64 x.1, .int .i64 x.2.1, .int .i64 x.2.2.1, .int .i64 x.2.2.2.1, .string x.2.2.2.2]
def dedL (n : Nat) (D : Nat → Ded) : List Value := (List.range n).flatMap fun k => ddL (D k)
theorem dedL_succ (n : Nat) (D : Nat → Ded) : dedL (n + 1) D = dedL n D ++ ddL (D n) := by simp [dedL, List.range_succ]
theorem dedL_len (n : Nat) (D : Nat → Ded) : (dedL n D).length = n * 5 := by
  induction n with
  | zero => rfl
  | succ n ih => rw [dedL_succ, List.length_append, ih]; simp [ddL]; omega
theorem dedL_at {n : Nat} (D : Nat → Ded) {i j : Nat} (hi : i < n) (hj : j < 5) : (dedL n D)[i * 5 + j]? = (ddL (D i))[j]? := by
  induction n with
  | zero => omega
  | succ n ih =>
    rw [dedL_succ]
    by_cases h : i < n
    · rw [List.getElem?_append_left (by rw [dedL_len]; omega)]
      exact ih h
    · obtain rfl : i = n := by omega
      rw [List.getElem?_append_right (by rw [dedL_len]; omega), dedL_len]
      congr 1
      omega
theorem dedL_one (n : Nat) (D : Nat → Ded) : ∀ u ∈ dedL n D, u.oneCell' = true := by
  intro u hu
  simp only [dedL, List.mem_flatMap] at hu
  obtain ⟨k, _, hu⟩ := hu
  simp [ddL] at hu
  rcases hu with rfl | rfl | rfl | rfl | rfl <;> rfl
theorem ded_info : (Try.prog.info? 34).map (fun i => (i.zero, i.size, i.bytes)) = some (some (.agg #[.int .i64 0, .int .i64 0, .int .i64 0, .int .i64 0, .string ⟨#[]⟩]), 5, 48) := by kernel_rfl
theorem DedN.src {w : World} {A : Option Addr} {len : Nat} {D : Nat → Ded} (h : DedN w A len D) {n : Nat} (hn : n ≤ len) (c : Nat) : Src Try.prog 5 23 (.slice A n c) n (dedL n D) w := by
  rcases Nat.eq_zero_or_pos n with rfl | hp
  · cases A with
    | none => exact Src.ofNil w Try.underlying23 c
    | some a => exact Src.ofSlice w Try.underlying23 _ _ _ _ (by simp [dedL]) (by simp [dedL]) (by simp [dedL])
  · obtain ⟨b, off, rfl, hb, hc⟩ := h (by omega)
    refine Src.ofSlice w Try.underlying23 _ _ _ _ (dedL_len n D) (fun j u hu => ?_) (dedL_one n D)
    rw [addr_at]
    have hj := (List.getElem?_eq_some_iff.1 hu).1
    rw [dedL_len] at hj
    obtain ⟨q, r, rfl, hr⟩ : ∃ q r, j = q * 5 + r ∧ r < 5 := ⟨j / 5, j % 5, by omega, by omega⟩
    rw [dedL_at D (by omega) hr] at hu
    obtain ⟨c0, c1, c2, c3, c4⟩ := hc q (by omega)
    rcases (show r = 0 ∨ r = 1 ∨ r = 2 ∨ r = 3 ∨ r = 4 by omega) with rfl | rfl | rfl | rfl | rfl
    all_goals
      simp [ddL] at hu
      subst hu
      first | exact c0 | exact c1 | exact c2 | exact c3 | exact c4
/-- The texts of both deeds, one behind the other. -/
def txtJ (n1 : Nat) (D1 D2 : Nat → Ded) (i : Nat) : ByteArray := if i < n1 then (D1 i).2.2.2.2 else (D2 (i - n1)).2.2.2.2
/-- The joined deeds' row. -/
def AllV (w : World) (v : Value) (n1 n2 : Nat) (D1 D2 : Nat → Ded) : Prop := ∃ A c, v = .slice A (n1 + n2) c ∧ (0 < n1 + n2 → ∃ g off, A = some ⟨g, off, none⟩ ∧ ∀ i, i < n1 + n2 → w.cell? ⟨g, off + i * 5 + 4, none⟩ = some (.string (txtJ n1 D1 D2 i)))
theorem all_of {w : World} {v : Value} {n1 n2 : Nat} {D1 D2 : Nat → Ded} (h : RowZ 5 w v (n1 + n2) (dedL n1 D1 ++ dedL n2 D2)) : AllV w v n1 n2 D1 D2 := by
  obtain ⟨A, c, hv⟩ := h.form
  refine ⟨A, c, hv, fun hp => ?_⟩
  obtain ⟨hl, ⟨e, h0⟩ | ⟨g, off, cap, e, _, _, _, _, h6⟩⟩ := h
  · omega
  · rw [hv] at e
    injection e with e1 e2 e3
    refine ⟨g, off, e1, fun i hi => ?_⟩
    rw [Nat.add_assoc]
    refine h6 (i * 5 + 4) _ ?_
    unfold txtJ
    by_cases hi1 : i < n1
    · rw [if_pos hi1, List.getElem?_append_left (by rw [dedL_len]; omega), dedL_at D1 hi1 (by omega)]
      rfl
    · rw [if_neg hi1, List.getElem?_append_right (by rw [dedL_len]; omega), dedL_len, show i * 5 + 4 - n1 * 5 = (i - n1) * 5 + 4 by omega, dedL_at D2 (by omega) (by omega)]
      rfl
/-- Both appends. -/
theorem join_any (w : World) (n1 n2 c1 c2 : Nat) (A1 A2 : Option Addr) (D1 D2 : Nat → Ded) (l1 l2 : Nat) (h1 : DedN w A1 l1 D1) (h2 : DedN w A2 l2 D2) (k1 : n1 ≤ l1) (k2 : n2 ≤ l2) (hn1 : n1 ≤ 1000) (hn2 : n2 ≤ 1000) :
    ∃ v1 W1 v2 W2, (Builtin.append_ #[23, 23] 23 #[.slice (some ⟨w.heap.size, 0, none⟩) 0 0, .slice A1 n1 c1]).run Try.prog (w.alloc (.cells #[] 34)).drew = .ok v1 W1 ∧ (∃ A c, v1 = .slice (some A) n1 c) ∧
      (Builtin.append_ #[23, 23] 23 #[v1, .slice A2 n2 c2]).run Try.prog W1 = .ok v2 W2 ∧ AllV W2 v2 n1 n2 D1 D2 ∧ Below w.heap.size w W2 := by
  obtain ⟨i0, hi0, hz0, hz1, hz2⟩ := info_parts ded_info
  have b0 : Below w.heap.size w (w.alloc (.cells #[] 34)).drew := below_drewN ((Below.refl _ _).alloc (Nat.le_refl _) _) 1
  obtain ⟨v1, W1, e1, r1, g1, o1, ⟨Ax, cx, rfl⟩⟩ := run_allZ (P := Try.prog) (w.alloc (.cells #[] 34)).drew 23 34 23 i0 _ 48 Try.underlying23 hi0 hz0 hz1 hz2 (by omega) rfl w.heap.size n1 (by simp) _ _ ((h1.below b0).src k1 c1) (by omega)
  have b1 : Below w.heap.size w W1 := b0.trans (below_of_only g1 b0.size (by simp))
  obtain ⟨hl, ⟨e, _⟩ | ⟨g, off, cap, e, q2, q3, q4, q5, q6⟩⟩ := id r1
  · cases e
  · injection e with e2 e3 e4
    injection e2 with e2
    subst e2 e4
    obtain ⟨v2, W2, e2, r2, g2, o2, _⟩ := run_joinZ (P := Try.prog) W1 23 34 23 i0 _ 48 Try.underlying23 hi0 hz0 hz1 hz2 (by omega) rfl g off cx n1 n2 _ r1 (dedL_one n1 D1) _ _ ((h2.below b1).src k2 c2) (by omega)
    refine ⟨_, W1, v2, W2, e1, ⟨_, _, rfl⟩, e2, all_of r2, b1.trans (below_of_only g2 b1.size fun k hk => ?_)⟩
    injection hk with hk
    subst hk
    rcases o1 with o1 | o1
    · simp [Value.ownBlock] at o1
      omega
    · simp [Value.ownBlock] at o1
      omega

set_option maxRecDepth 20000 in
set_option maxHeartbeats 3200000 in
theorem nforks_off (A : Option Addr) (len cap n : Nat) (d : Nat → I3) (At : Option Addr) (lt ct : Nat) (Au : Option Addr) (lu cu : Nat) (w : World) (hst : RowsN w A len cap d) (hlc : len ≤ cap) (hcm : cap ≤ 9223372036854775807) (hn : n = min len 8) (hoff : newE d n ≠ 0) :
    Calls Try.prog 6 #[.slice A len cap, .slice At lt ct, .slice Au lu cu] w (BackV w) := by
  have HP := Lib.hid (ports_any A len cap d w hst hlc hcm)
  rw [← hn] at HP
  have hn8 : n ≤ 8 := by omega
  have HST := Lib.hid (fun (W : World) (hb : Below w.heap.size w W) => (hst.cut n (by omega)).below hb)
  have HN := Lib.hid (fun (W : World) (h : RowsN W A n cap d) => new_bad h (by omega) hoff)
  have HK := Lib.hid (fun (A2 : Option Addr) (c2 : Nat) (W : World) (h : PortsV W A2 n (frp d)) => show Calls Try.prog 9 #[.slice A2 n c2] W (fun e w' => e = .returned (.int .i64 (newE d n)) ∧ Below W.heap.size W w') from rcheck_any A2 n c2 d W h (by omega))
  have HL := Lib.hid (fun W => nlive_any W)
  generalize newE d n = c at HK HN hoff
  have h1' : (c != 0) = true := by simpa using hoff
  clear hst hn hn8 hlc hcm hoff
  go_enter Try.func6, Try.ntmps6
  go_wp2_with (first
    | (go_at_call 7; have HH := HP.out; unfold PortsR at HH; refine HH.mono ?_; clear HH; rintro e w1 ⟨A2, c2, rfl, o1, b1⟩; have P1 := Lib.hid o1.ports; have B1 := Lib.hid b1; clear o1 b1)
    | (go_at_call 8; have HH := HN.out _ (HST.out _ B1.out); refine HH.mono ?_; clear HH; rintro e w2 ⟨rfl, b2⟩; have P2 := Lib.hid (P1.out.below b2); have B2 := Lib.hid (B1.out.trans (b2.mono B1.out.size)); clear b2)
    | (go_at_call 9; (with_reducible refine (HK.out _ _ _ P5.out).mono ?_); rintro e w6 ⟨rfl, b6⟩; have B6 := Lib.hid (B5.out.trans (b6.mono B5.out.size)); clear b6)
    | (go_at_call 9; (with_reducible refine (HK.out _ _ _ P2.out).mono ?_); rintro e w4 ⟨rfl, b4⟩; have P4 := Lib.hid (P2.out.below b4); have B4 := Lib.hid (B2.out.trans (b4.mono B2.out.size)); clear b4)
    | (go_at_call 10; (with_reducible refine (HL.out _).mono ?_); rintro e w5 ⟨rfl, b5⟩; have P5 := Lib.hid (P4.out.below b5); have B5 := Lib.hid (B4.out.trans (b5.mono B4.out.size)); clear b5))
  go_ret
  exact ⟨by simp, B6.out⟩
end Go.Proofs.Ytjhihccjhnlghaa
