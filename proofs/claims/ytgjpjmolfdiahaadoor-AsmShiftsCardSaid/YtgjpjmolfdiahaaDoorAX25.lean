/- Package asm: a text read, by its contract. -/
import Derived.Test.YtgjpjmolfdiahaaDoorAX24
namespace Go.Proofs.YtgjpjmolfdiahaaDoor
open Go.RowKit Go.Lib
set_option linter.unusedVariables false

/-- What a text makes: a reader, or why it is wrong, and at which line. -/
def Am.rdP (w : World) (z : Int × Nat × List UInt8 × List (List UInt8 × Nat)) (r : Ending) (w' : World) : Prop :=
  Below w.heap.size w w' ∧ ((z.1 = 0 ∧ ∃ b ln st F, r = .returned (.tuple #[.pointer (some ⟨b, 0, none⟩), .int .i64 0, .int .i64 0]) ∧ Am.Rd w' b ln st F ∧ st.pr = z.2.2.1 ∧ st.lb = z.2.2.2) ∨
    (z.1 ≠ 0 ∧ r = .returned (.tuple #[.pointer none, .int .i64 z.2.1, .int .i64 z.1])))
theorem Am.txP_cases {w w' : World} {b : Nat} {F : Nat → Prop} {z : Int × Nat × Am.St} {r : Ending} (h : Am.txP w b F z r w') : (z.1 = 0 ∧ r = .returned (.tuple #[]) ∧ ∃ ln' F', Am.Rd w' b ln' z.2.2 F' ∧ Am.Nx w w' F F') ∨ (z.1 ≠ 0 ∧ r = .panicked (Am.chn z.2.1 z.1) ∧ Keeps F w w') := by
  unfold Am.txP at h
  by_cases hz : z.1 = 0
  · rw [if_pos hz] at h; exact .inl ⟨hz, h.1, h.2⟩
  · rw [if_neg hz] at h; exact .inr ⟨hz, h.1, h.2⟩
theorem Am.fuP_cases {w w' : World} {b : Nat} {F : Nat → Prop} {st : Am.St} {z : Int × Nat × List UInt8} {r : Ending} (h : Am.fuP w b F st z r w') : (z.1 = 0 ∧ r = .returned (.tuple #[]) ∧ ∃ F' ln', Am.Rd w' b ln' ⟨z.2.2, st.lb, st.ws⟩ F' ∧ Am.Nx w w' F F') ∨ (z.1 ≠ 0 ∧ r = .panicked (Am.chn z.2.1 z.1) ∧ Keeps F w w') := by
  unfold Am.fuP at h
  by_cases hz : z.1 = 0
  · rw [if_pos hz] at h; exact .inl ⟨hz, h.1, h.2⟩
  · rw [if_neg hz] at h; exact .inr ⟨hz, h.1, h.2⟩
theorem Am.go_le : ∀ (l : List (List UInt8)) (i : Nat) (st : Am.St), st.pr.length ≤ 1024 → (Am.go i l st).1 = 0 → (Am.go i l st).2.2.pr.length ≤ 1024 ∧ (Am.go i l st).2.2.ws.length ≤ st.ws.length + l.length
  | [], i, st, h, _ => ⟨h, Nat.le_refl _⟩
  | x :: r, i, st, h, h0 => by
    unfold Am.go at h0 ⊢
    by_cases q : (Am.one (i + 1) (Am.line x) st).1 = 0
    · rw [if_pos q] at h0 ⊢
      obtain ⟨p1, _, p3⟩ := Am.one_le q h
      obtain ⟨a, b⟩ := Am.go_le r (i + 1) _ p1 h0
      exact ⟨a, by rw [List.length_cons]; omega⟩
    · rw [if_neg q] at h0
      exact absurd h0 q
/-- A reader as it was made. -/
theorem Am.rd_new {w : World} {b m : Nat} (hb : Blk w b 54 #[.int .i64 0, .slice none 0 0, .slice none 0 0, .map (some m), .slice none 0 0]) (hm : Am.MapL w m []) (hne : m ≠ b) : Am.Rd w b 0 Am.st0 (fun i => i = b ∨ i = m) :=
  ⟨.slice none 0 0, .slice none 0 0, .slice none 0 0, m, ⟨hb, RowZ.nil 1 w, RowZ.nil 2 w, RowZ.nil 3 w, hm, hne, fun i hi => (by cases hi), fun i hi => (by cases hi), fun i hi => (by cases hi)⟩, fun i hi => by
    rcases hi with e | e | e | e | e
    · exact .inl e
    · exact .inr e
    · cases e
    · cases e
    · cases e⟩
theorem Am.Rd.far {w w1 : World} {b ln q : Nat} {st : Am.St} {F : Nat → Prop} (h : Am.Rd w b ln st F) (g : w.grownBy w1 (some q)) (hq : ¬ F q) : Am.Rd w1 b ln st F := by
  obtain ⟨pv, lv, wv, m, k, hF⟩ := h
  have hn : ∀ i, Am.ft b m pv lv wv i → i ≠ q := fun i hi e => hq (hF q (e ▸ hi))
  exact ⟨pv, lv, wv, m, ⟨k.blk.only g (fun e => by injection e with e; exact hn b (.inl rfl) e), k.pr.only g (Am.dis fun i hi e => (by injection e with e; exact hn i (.inr (.inr (.inl hi))) e.symm)), k.lb.only g (Am.dis fun i hi e => (by injection e with e; exact hn i (.inr (.inr (.inr (.inl hi)))) e.symm)), k.ws.only g (Am.dis fun i hi e => (by injection e with e; exact hn i (.inr (.inr (.inr (.inr hi)))) e.symm)), k.mp.only g (fun e => by injection e with e; exact hn m (.inr (.inl rfl)) e), k.n1, k.n2, k.n3, k.n4⟩, hF⟩
/-- The three results' variables, the map and the reader, as they were made. -/
structure Am.Rw (w w5 : World) (q0 q1 q2 m b : Nat) : Prop where
  g : w.grownBy w5 none
  c0 : Blk w5 q0 47 #[.pointer (some ⟨b, 0, none⟩)]
  c1 : Blk w5 q1 3 #[.int .i64 0]
  c2 : Blk w5 q2 23 #[.int .i64 0]
  rd : Am.Rd w5 b 0 Am.st0 (fun i => i = b ∨ i = m)
  lo : w.heap.size ≤ q0
  n1 : q0 < q1
  n2 : q1 < q2
  n3 : q2 < m
  n4 : m < b
  n5 : b < w5.heap.size
theorem Am.rw_new (w : World) : Am.Rw w (((((w.alloc (.cells #[.pointer (some ⟨w.heap.size + 1 + 1 + 1 + 1, 0, none⟩)] 47)).alloc (.cells #[.int .i64 0] 3)).alloc (.cells #[.int .i64 0] 23)).alloc (.map #[] 0)).alloc (.cells #[.int .i64 0, .slice none 0 0, .slice none 0 0, .map (some (w.heap.size + 1 + 1 + 1)), .slice none 0 0] 54)) w.heap.size (w.heap.size + 1) (w.heap.size + 1 + 1) (w.heap.size + 1 + 1 + 1) (w.heap.size + 1 + 1 + 1 + 1) := by
  have k0 := Blk.new w 47 #[.pointer (some ⟨w.heap.size + 1 + 1 + 1 + 1, 0, none⟩)]
  generalize hA : w.alloc (.cells #[.pointer (some ⟨w.heap.size + 1 + 1 + 1 + 1, 0, none⟩)] 47) = A at *
  have sA : A.heap.size = w.heap.size + 1 := by rw [← hA]; simp
  have k1 := Blk.new A 3 #[.int .i64 0]
  generalize hB : A.alloc (.cells #[.int .i64 0] 3) = B at *
  have sB : B.heap.size = w.heap.size + 1 + 1 := by rw [← hB]; simp [sA]
  have k2 := Blk.new B 23 #[.int .i64 0]
  generalize hC : B.alloc (.cells #[.int .i64 0] 23) = C at *
  have sC : C.heap.size = w.heap.size + 1 + 1 + 1 := by rw [← hC]; simp [sB]
  have k3 := Am.MapL.new C
  generalize hD : C.alloc (.map #[] 0) = D at *
  have sD : D.heap.size = w.heap.size + 1 + 1 + 1 + 1 := by rw [← hD]; simp [sC]
  have k4 := Blk.new D 54 #[.int .i64 0, .slice none 0 0, .slice none 0 0, .map (some (w.heap.size + 1 + 1 + 1)), .slice none 0 0]
  rw [sA] at k1
  rw [sB] at k2
  rw [sC] at k3
  rw [sD] at k4
  have gA : w.grownBy A none := by rw [← hA]; exact only_alloc (only_refl _ _) _
  have gB : A.grownBy B none := by rw [← hB]; exact only_alloc (only_refl _ _) _
  have gC : B.grownBy C none := by rw [← hC]; exact only_alloc (only_refl _ _) _
  have gD : C.grownBy D none := by rw [← hD]; exact only_alloc (only_refl _ _) _
  have gE : D.grownBy (D.alloc (.cells #[.int .i64 0, .slice none 0 0, .slice none 0 0, .map (some (w.heap.size + 1 + 1 + 1)), .slice none 0 0] 54)) none := only_alloc (only_refl _ _) _
  have gCE := only_trans gD gE
  have gBE := only_trans gC gCE
  exact ⟨only_trans gA (only_trans gB gBE), k0.only (only_trans gB gBE) (by simp), k1.only gBE (by simp), k2.only gCE (by simp), Am.rd_new k4 (k3.only gE (by simp)) (by omega), Nat.le_refl _, by omega, by omega, by omega, by omega, by simp [sD]⟩
/-- What is kept of the results' variables. -/
theorem Am.Rw.box {w w5 W : World} {q0 q1 q2 m b : Nat} (h : Am.Rw w w5 q0 q1 q2 m b) (k : Keeps (fun i => i = b ∨ i = m) w5 W) : Blk W q0 47 #[.pointer (some ⟨b, 0, none⟩)] ∧ Blk W q1 3 #[.int .i64 0] ∧ Blk W q2 23 #[.int .i64 0] := by
  have := h.n1
  have := h.n2
  have := h.n3
  have := h.n4
  exact ⟨h.c0.keeps k (by omega), h.c1.keeps k (by omega), h.c2.keeps k (by omega)⟩
theorem Am.Rw.below {w w5 W : World} {q0 q1 q2 m b : Nat} (h : Am.Rw w w5 q0 q1 q2 m b) (k : Keeps (fun i => i = b ∨ i = m) w5 W) : Below w.heap.size w W := by
  have := h.n1
  have := h.n2
  have := h.n3
  have := h.n4
  have := h.lo
  exact (below_of_only h.g (Nat.le_refl _) (by simp)).trans (k.below h.g.size (fun i hi e => by omega))
theorem Am.Rw.dead {w w5 W V : World} {q0 q1 q2 m b : Nat} (h : Am.Rw w w5 q0 q1 q2 m b) (k : Keeps (fun i => i = b ∨ i = m) w5 W) (k2 : Keeps (fun i => i = q0 ∨ i = q1 ∨ i = q2) W V) : Below w.heap.size w V := by
  have := h.n1
  have := h.n2
  have := h.lo
  have h1 := h.below k
  exact h1.trans (k2.below h1.size (fun i hi e => by omega))
set_option maxRecDepth 20000 in
set_option maxHeartbeats 3200000 in
theorem Am.read_any (s : ByteArray) (hs : s.size ≤ 65536) (w : World) (hg : Am.Gl w) : Calls Tryd.prog 15 #[.string s] w (Am.rdP w (Am.read s.data.toList)) := by
  have hmf : ∀ (fn : Fn) (first cap : Array Value) (w : World), (Instr.makeFunc fn first cap).run Tryd.prog w = .ok (.func fn first cap) w := fun _ _ _ _ => rfl
  have i1 : ¬ (65536 : Int) < (s.size : Int) := by omega
  go_enter_defers Tryd.func15, Tryd.ntmps15
  have hmm : ∀ W : World, (Instr.makeMap 51 none).run Tryd.prog W = .ok (.map (some W.heap.size)) (W.alloc (.map #[] 0)) := fun W => by rfl
  obtain ⟨w5, hw5⟩ : ∃ W, W = (((((w.alloc (.cells #[.pointer (some ⟨w.heap.size + 1 + 1 + 1 + 1, 0, none⟩)] 47)).alloc (.cells #[.int .i64 0] 3)).alloc (.cells #[.int .i64 0] 23)).alloc (.map #[] 0)).alloc (.cells #[.int .i64 0, .slice none 0 0, .slice none 0 0, .map (some (w.heap.size + 1 + 1 + 1)), .slice none 0 0] 54)) := ⟨_, rfl⟩
  have RW := Lib.hid (Am.rw_new w)
  rw [← hw5] at RW
  have GL5 := Lib.hid (hg.grown RW.out.g)
  have HG8 := Lib.hid hg.sz
  have HS := Lib.hid hs
  clear hg hs
  go_upto_region 5 with (fail)
  rw [← hw5]
  clear hw5 hmm
  generalize hq4 : w.heap.size + 1 + 1 + 1 + 1 = b at RW ⊢
  generalize hq3 : w.heap.size + 1 + 1 + 1 = m at RW ⊢
  generalize hq2 : w.heap.size + 1 + 1 = q2 at RW ⊢
  generalize hq1 : w.heap.size + 1 = q1 at RW ⊢
  generalize hq0 : w.heap.size = q0 at RW ⊢
  clear hq4 hq3 hq2 hq1 hq0
  have HT := Lib.hid (Am.text_any b 0 Am.st0 (fun i => i = b ∨ i = m) s w5 RW.out.rd GL5.out (fun i hi => by have := HG8.out; have := RW.out.lo; have := RW.out.n1; have := RW.out.n2; have := RW.out.n3; have := RW.out.n4; omega) (fun i hi => by have := RW.out.n4; have := RW.out.n5; omega) HS.out (by show 0 ≤ 1024; omega) ⟨rfl, rfl⟩)
  have HRE := Lib.hid (show ¬ 65536 < s.data.toList.length from by rw [Am.len]; have := HS.out; omega)
  have HWS := Lib.hid (show Am.WsOk (Am.go 0 (Am.spl 10 s.data.toList) Am.st0).2.2 from Am.WsOk.go _ _ _ (fun x hx => by cases hx))
  have HLE := Lib.hid (show (Am.go 0 (Am.spl 10 s.data.toList) Am.st0).1 = 0 → (Am.go 0 (Am.spl 10 s.data.toList) Am.st0).2.2.pr.length ≤ 1024 ∧ (Am.go 0 (Am.spl 10 s.data.toList) Am.st0).2.2.ws.length ≤ 100000 from fun h0 => by
    obtain ⟨x, y⟩ := Am.go_le (Am.spl 10 s.data.toList) 0 Am.st0 (by show 0 ≤ 1024; omega) h0
    refine ⟨x, ?_⟩
    rw [Am.spl_len] at y
    have := List.count_le_length (a := (10 : UInt8)) (l := s.data.toList)
    have := HRE.out
    have e0 : Am.st0.ws.length = 0 := rfl
    rw [e0] at y
    omega)
  have hrd0 : Am.read s.data.toList = if (Am.go 0 (Am.spl 10 s.data.toList) Am.st0).1 = 0 then
    (if (Am.ful (Am.go 0 (Am.spl 10 s.data.toList) Am.st0).2.2.lb (Am.go 0 (Am.spl 10 s.data.toList) Am.st0).2.2.ws (Am.go 0 (Am.spl 10 s.data.toList) Am.st0).2.2.pr).1 = 0 then
      (0, 0, (Am.ful (Am.go 0 (Am.spl 10 s.data.toList) Am.st0).2.2.lb (Am.go 0 (Am.spl 10 s.data.toList) Am.st0).2.2.ws (Am.go 0 (Am.spl 10 s.data.toList) Am.st0).2.2.pr).2.2, (Am.go 0 (Am.spl 10 s.data.toList) Am.st0).2.2.lb)
     else ((Am.ful (Am.go 0 (Am.spl 10 s.data.toList) Am.st0).2.2.lb (Am.go 0 (Am.spl 10 s.data.toList) Am.st0).2.2.ws (Am.go 0 (Am.spl 10 s.data.toList) Am.st0).2.2.pr).1, (Am.ful (Am.go 0 (Am.spl 10 s.data.toList) Am.st0).2.2.lb (Am.go 0 (Am.spl 10 s.data.toList) Am.st0).2.2.ws (Am.go 0 (Am.spl 10 s.data.toList) Am.st0).2.2.pr).2.1, [], []))
  else ((Am.go 0 (Am.spl 10 s.data.toList) Am.st0).1, (Am.go 0 (Am.spl 10 s.data.toList) Am.st0).2.1, [], []) := by
    unfold Am.read
    rw [if_neg HRE.out]
  have HRD := Lib.hid hrd0
  clear hrd0 HRE
  generalize Am.read s.data.toList = Z at *
  generalize Am.go 0 (Am.spl 10 s.data.toList) Am.st0 = G at *
  obtain ⟨ge, gl, gs⟩ := G
  have c0 : w5.cell? ⟨q0, 0, none⟩ = some (.pointer (some ⟨b, 0, none⟩)) := RW.out.c0.cell 0
  have DEAD := Lib.hid (fun (W : World) (ln e : Int) (k : Keeps (fun i => i = b ∨ i = m) w5 W) => (show CallsD Tryd.prog 26 #[.pointer (some ⟨q0, 0, none⟩), .pointer (some ⟨q1, 0, none⟩), .pointer (some ⟨q2, 0, none⟩)] (.panicking (Am.chn ln e)) W fun r u' w' => r = .returned (.tuple #[]) ∧ u' = .panicking [{ v := .iface 71 (.agg #[.int .i64 ln, .int .i64 e]), recovered := true }] ∧ w'.cell? ⟨q0, 0, none⟩ = some (.pointer none) ∧ w'.cell? ⟨q1, 0, none⟩ = some (.int .i64 ln) ∧ w'.cell? ⟨q2, 0, none⟩ = some (.int .i64 e) ∧ Keeps (fun i => i = q0 ∨ i = q1 ∨ i = q2) W w' from by
    obtain ⟨k0, k1, k2⟩ := RW.out.box k
    have := RW.out.n1
    have := RW.out.n2
    exact Am.catch_dies q0 q1 q2 ln e W _ _ _ (k0.cell 0) (k1.cell 0) (k2.cell 0) (k0.free 0) (k1.free 0) (k2.free 0) (by omega) (by omega) (by omega)))
  go_upto_region 6 with (first
    | (go_at_call 27; (with_reducible refine HT.out.mono ?_); rintro r w6 hp; rcases Am.txP_cases hp with ⟨z0, rfl, ln', F', r1, r2⟩ | ⟨z0, rfl, r1⟩ <;> clear hp))
  · have hb6 := RW.out.box r2.1
    have c6 : w6.cell? ⟨q0, 0, none⟩ = some (.pointer (some ⟨b, 0, none⟩)) := hb6.1.cell 0
    have HFU := Lib.hid (Am.fulfil_any b ln' gs F' w6 r1 HWS.out (HLE.out z0).1 (HLE.out z0).2)
    have N6 := Lib.hid r2
    have Z0 := Lib.hid (show ge = 0 from z0)
    clear c0 r1 r2 hb6 z0
    go_upto_region 7 with (first
      | (go_at_call 28; (with_reducible refine HFU.out.mono ?_); rintro r w7 hp; rcases Am.fuP_cases hp with ⟨t0, rfl, F7, ln7, r1, r2⟩ | ⟨t0, rfl, r1⟩ <;> clear hp))
    · have N7 := Lib.hid (N6.out.trans r2)
      have R7 := Lib.hid r1
      have Y0 := Lib.hid t0
      obtain ⟨k0, k1, k2⟩ := RW.out.box N7.out.1
      have p0 := k0.cell 0
      have p1 := k1.cell 0
      have p2 := k2.cell 0
      have f0 := k0.free 0
      have f1 := k1.free 0
      have f2 := k2.free 0
      have NN := Lib.hid (show q0 < q1 ∧ q1 < q2 ∧ q2 < m ∧ m < b ∧ b < w5.heap.size ∧ w.heap.size ≤ q0 from ⟨RW.out.n1, RW.out.n2, RW.out.n3, RW.out.n4, RW.out.n5, RW.out.lo⟩)
      have e1 : ¬ q1 = q0 := by have := NN.out; omega
      have e2 : ¬ q2 = q0 := by have := NN.out; omega
      have e3 : ¬ q2 = q1 := by have := NN.out; omega
      have e4 : ¬ q0 = q1 := by have := NN.out; omega
      have e5 : ¬ q0 = q2 := by have := NN.out; omega
      have e6 : ¬ q1 = q2 := by have := NN.out; omega
      have HK := Lib.hid (And.intro k0 (And.intro k1 k2))
      have NF := Lib.hid (show ¬ F7 q0 ∧ ¬ F7 q1 ∧ ¬ F7 q2 from by
        have hh : ∀ i, i < m → ¬ F7 i := fun i hi e => by
          have := NN.out
          rcases N7.out.2 i e with (h | h) | h <;> omega
        have := NN.out
        exact ⟨hh q0 (by omega), hh q1 (by omega), hh q2 (by omega)⟩)
      clear k0 k1 k2 c6 r1 r2 t0
      go_wp2
      obtain ⟨w8, hw8⟩ : ∃ W, W = ((w7.setCell ⟨q0, 0, none⟩ (.pointer (some ⟨b, 0, none⟩))).setCell ⟨q1, 0, none⟩ (.int .i64 0)).setCell ⟨q2, 0, none⟩ (.int .i64 0) := ⟨_, rfl⟩
      obtain ⟨k0, k1, k2⟩ := HK.out
      have x0 : w8.cell? ⟨q0, 0, none⟩ = some (.pointer (some ⟨b, 0, none⟩)) := by rw [hw8]; exact (((k0.put 0 _).far (p := ⟨q1, 0, none⟩) e4 _).far (p := ⟨q2, 0, none⟩) e5 _).cell 0
      have x1 : w8.cell? ⟨q1, 0, none⟩ = some (.int .i64 0) := by rw [hw8]; exact (((k1.far (p := ⟨q0, 0, none⟩) e1 _).put 0 _).far (p := ⟨q2, 0, none⟩) e6 _).cell 0
      have x2 : w8.cell? ⟨q2, 0, none⟩ = some (.int .i64 0) := by rw [hw8]; exact (((k2.far (p := ⟨q0, 0, none⟩) e2 _).far (p := ⟨q1, 0, none⟩) e3 _).put 0 _).cell 0
      have R8 := Lib.hid (show Am.Rd w8 b ln7 ⟨(Am.ful gs.lb gs.ws gs.pr).2.2, gs.lb, gs.ws⟩ F7 from by
        rw [hw8]
        exact ((R7.out.far (only_put (only_refl w7 (some q0)) 0 _) NF.out.1).far (only_put (only_refl _ (some q1)) 0 _) NF.out.2.1).far (only_put (only_refl _ (some q2)) 0 _) NF.out.2.2)
      have KK := Lib.hid (show Keeps (fun i => i = q0 ∨ i = q1 ∨ i = q2) w7 w8 from by
        rw [hw8]
        exact Keeps.put (p := ⟨q2, 0, none⟩) (Keeps.put (p := ⟨q1, 0, none⟩) (Keeps.put (p := ⟨q0, 0, none⟩) (Keeps.refl _ _) (.inl (.inl rfl)) _) (.inl (.inr (.inl rfl))) _) (.inl (.inr (.inr rfl))) _)
      rw [← hw8]
      clear hw8 k0 k1 k2 p0 p1 p2 f0 f1 f2 e1 e2 e3 e4 e5 e6
      refine leaves_cons (f := 26) (args := #[.pointer (some ⟨q0, 0, none⟩), .pointer (some ⟨q1, 0, none⟩), .pointer (some ⟨q2, 0, none⟩)]) (by simp) (by simp [go_sem]) ?_
      refine (Am.catch_idle q0 q1 q2 w8).mono ?_
      rintro e u' w9 ⟨rfl, rfl, rfl⟩
      have FIN := Lib.hid (show Am.rdP w Z (.returned (.tuple #[.pointer (some ⟨b, 0, none⟩), .int .i64 0, .int .i64 0])) w9 from ⟨RW.out.dead N7.out.1 KK.out, .inl (by rw [HRD.out, if_pos Z0.out, if_pos Y0.out]; exact ⟨rfl, b, ln7, _, F7, rfl, R8.out, rfl, rfl⟩)⟩)
      simp [Leaves, settle, results, Tryd.results15, go_sem, x0, x1, x2]
      exact FIN.out
    · refine leaves_cons (f := 26) (args := #[.pointer (some ⟨q0, 0, none⟩), .pointer (some ⟨q1, 0, none⟩), .pointer (some ⟨q2, 0, none⟩)]) (by simp) (by simp [go_sem]) ?_
      refine (DEAD.out w7 (Am.ful gs.lb gs.ws gs.pr).2.1 (Am.ful gs.lb gs.ws gs.pr).1 (N6.out.trans (⟨r1, fun i hi => .inl hi⟩ : Am.Nx w6 w7 F' F')).1).mono ?_
      rintro e u' w9 ⟨rfl, rfl, y0, y1, y2, kk⟩
      have FIN := Lib.hid (show Am.rdP w Z (.returned (.tuple #[.pointer none, .int .i64 ((Am.ful gs.lb gs.ws gs.pr).2.1 : Int), .int .i64 (Am.ful gs.lb gs.ws gs.pr).1])) w9 from ⟨RW.out.dead (N6.out.trans (⟨r1, fun i hi => .inl hi⟩ : Am.Nx w6 w7 F' F')).1 kk, .inr (by rw [HRD.out, if_pos Z0.out, if_neg t0]; exact ⟨t0, rfl⟩)⟩)
      simp [Leaves, settle, results, Tryd.results15, go_sem, y0, y1, y2]
      exact FIN.out
  · refine leaves_cons (f := 26) (args := #[.pointer (some ⟨q0, 0, none⟩), .pointer (some ⟨q1, 0, none⟩), .pointer (some ⟨q2, 0, none⟩)]) (by simp) (by simp [go_sem]) ?_
    refine (DEAD.out w6 gl ge r1).mono ?_
    rintro e u' w9 ⟨rfl, rfl, y0, y1, y2, kk⟩
    have FIN := Lib.hid (show Am.rdP w Z (.returned (.tuple #[.pointer none, .int .i64 (gl : Int), .int .i64 ge])) w9 from ⟨RW.out.dead r1 kk, .inr (by rw [HRD.out, if_neg z0]; exact ⟨z0, rfl⟩)⟩)
    simp [Leaves, settle, results, Tryd.results15, go_sem, y0, y1, y2]
    exact FIN.out
end Go.Proofs.YtgjpjmolfdiahaaDoor
