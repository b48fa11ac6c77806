import Derived.Test.YteoaaogfloljlaaDoorZ05
set_option linter.all false
/- Package asm: an instruction of two words, by its contract. -/
namespace Go.Proofs.YteoaaogfloljlaaDoor
open Go.RowKit Go.Lib
set_option linter.unusedVariables false
set_option maxRecDepth 20000 in
set_option maxHeartbeats 1600000 in
theorem Am.ins_n (b ln k : Nat) (st : Am.St) (F : Nat → Prop) (A : Option Addr) (cap : Nat) (l : List (List UInt8)) (w : World) (h : Am.Rd w b ln st F) (hW : Am.Wd w A l) (hN : Nm w) (hsz : ∀ x ∈ l, x.length ≤ 100000) (hp : st.pr.length ≤ 100000) (hw : st.ws.length ≤ 100000)
    (hk : k < 16) (hops : Am.ops k = [0, 2]) (hmay : ∀ x n : Nat, x ≤ 7 → n ≤ 65535 → mayI k x n = true) (hins : ∀ a b2 x, Am.reg a = some x → Am.ins k [a, b2] = (Am.num b2 65535).map fun n => (Am.pt k x n, [])) (hin0 : ∀ a b2, Am.reg a = none → Am.ins k [a, b2] = none) (hin1 : l.length ≠ 2 → Am.ins k l = none) :
    Calls Tryd.prog 46 #[.pointer (some ⟨b, 0, none⟩), .int .u8 k, .slice A l.length cap] w (Am.stP w b ln F (Am.insV ln k l st)) := by
  have HO := Lib.hid (Am.operands2 (by omega) hops w)
  have HRD := Lib.hid h
  have hc0 : w.cell? ⟨b, 0, none⟩ = some (.int .i64 ln) := by obtain ⟨pv, lv, wv, m, hR, hF⟩ := h; exact hR.blk.cell 0
  have hbl : b < w.heap.size := by obtain ⟨pv, lv, wv, m, hR, hF⟩ := h; exact hR.blk.lt
  have HC0 := Lib.hid (fun (W : World) (q : w.grownBy W none) => (show W.cell? ⟨b, 0, none⟩ = some (.int .i64 ln) from by rw [Am.kc q hbl 0]; exact hc0))
  have HNM := Lib.hid (fun (W : World) (q : w.grownBy W none) => hN.grown q (by simp))
  by_cases hl : l.length = 2
  case neg =>
    have hv : Am.insV ln k l st = (3, st) := by unfold Am.insV; rw [hin1 hl]
    rw [hv, Am.stP_bad (by decide)]
    have HCN := Lib.hid (fun (W : World) (q : w.grownBy W none) => (show Calls Tryd.prog 41 #[.pointer (some ⟨b, 0, none⟩), .slice A l.length cap, .int .i64 2] W (fun r w' => r = .panicked (Am.chn ln 3) ∧ W = w') from Am.count_no b ln A l.length cap 2 hl W (HC0.out W q)))
    clear hv hl hin1 hin0 hins hmay hops hk hw hp hsz hN hW h hc0 hbl
    go_enter Tryd.func46, Tryd.ntmps46
    go_wp2_with (first
      | (go_at_call 26; (with_reducible refine HO.out.mono ?_); rintro r w2 ⟨rfl, g2, s2, o0, o1⟩; have G2 := Lib.hid g2; clear g2)
      | (go_at_call 41; (with_reducible refine (HCN.out _ G2.out).mono ?_); rintro r w3 ⟨rfl, rfl⟩))
    exact ⟨rfl, rfl, Keeps.of_only G2.out (fun k hk => by cases hk)⟩
  obtain ⟨a, b2, rfl⟩ : ∃ a b2, l = [a, b2] := by
    match l, hl with
    | [a, b2], _ => exact ⟨a, b2, rfl⟩
  obtain ⟨g, off, rfl, hg, hcs⟩ : ∃ g off, A = some ⟨g, off, none⟩ ∧ g < w.heap.size ∧ ∀ j (h : j < [a, b2].length), w.cell? ⟨g, off + j, none⟩ = some (.string ⟨([a, b2][j]).toArray⟩) := by
    rcases hW with e | e
    · cases e
    · exact e
  have hx0 : w.cell? ⟨g, off, none⟩ = some (.string ⟨a.toArray⟩) := hcs 0 (by simp)
  have hx1 : w.cell? ⟨g, off + 1, none⟩ = some (.string ⟨b2.toArray⟩) := hcs 1 (by simp)
  have HX := Lib.hid (fun (W : World) (q : w.grownBy W none) => (show W.cell? ⟨g, off, none⟩ = some (.string ⟨a.toArray⟩) ∧ W.cell? ⟨g, off + 1, none⟩ = some (.string ⟨b2.toArray⟩) from ⟨by rw [Am.kc q hg]; exact hx0, by rw [Am.kc q hg]; exact hx1⟩))
  have HCN := Lib.hid (fun (W : World) => (show Calls Tryd.prog 41 #[.pointer (some ⟨b, 0, none⟩), .slice (some ⟨g, off, none⟩) 2 cap, .int .i64 2] W (fun r w' => r = .returned (.tuple #[]) ∧ W = w') from Am.count_yes b (some ⟨g, off, none⟩) 2 cap W))
  have hsa : (⟨a.toArray⟩ : ByteArray).size ≤ 100000 := by have := hsz a (by simp); show a.toArray.size ≤ 100000; simpa using this
  have hsb : (⟨b2.toArray⟩ : ByteArray).size ≤ 100000 := by have := hsz b2 (by simp); show b2.toArray.size ≤ 100000; simpa using this
  have HR := Lib.hid (fun (W : World) (q : w.grownBy W none) => (show Calls Tryd.prog 55 #[.pointer (some ⟨b, 0, none⟩), .string ⟨a.toArray⟩] W (Am.numP (Am.reg a) ln W) from by have := Am.register_any b ln ⟨a.toArray⟩ hsa W (HC0.out W q); simpa using this))
  have HS := Lib.hid (fun (W : World) (q : w.grownBy W none) => (show Calls Tryd.prog 43 #[.pointer (some ⟨b, 0, none⟩), .string ⟨b2.toArray⟩, .int .i64 65535] W (Am.numP (Am.num b2 65535) ln W) from by have := Am.number_any b ln ⟨b2.toArray⟩ hsb 65535 (by omega) W (HC0.out W q); simpa using this))
  have HPU := Lib.hid (fun (x n : Nat) (nm : List UInt8) (W : World) (q : w.grownBy W none) => (show Calls Tryd.prog 42 #[.pointer (some ⟨b, 0, none⟩), .string (ptI k x n), .string ⟨nm.toArray⟩] W (Am.stP W b ln F (Am.putV ln (Am.pt k x n) nm st)) from by
    have := Am.put_any b ln st F (ptI k x n) ⟨nm.toArray⟩ W (HRD.out.grown q) (by show 0 < 4; omega) (by show 4 ≤ 4; omega) (fun _ => by show 2 ≤ 4; omega) hp hw
    rw [Am.pt_of] at this
    simpa using this))
  have HCP := Lib.hid (fun (x n : Nat) (hx : x ≤ 7) (hn : n ≤ 65535) (W : World) (q : w.grownBy W none) => (show Calls Tryd.prog 56 #[.agg #[.int .u8 k, .int .i64 x, .int .i64 n]] W (fun e w' => e = .returned (.tuple #[.string (ptI k x n), .int .i64 0]) ∧ W.grownBy w' none) from put_yes k x n (by omega) W (HNM.out W q) (hmay x n hx hn)))
  have HINS := Lib.hid hins
  have HIN0 := Lib.hid hin0
  clear hin1 hin0 hins hmay hops hk hw hp hsz hN hW h hc0 hbl hsa hsb hx0 hx1 hcs hl
  show Calls Tryd.prog 46 #[.pointer (some ⟨b, 0, none⟩), .int .u8 k, .slice (some ⟨g, off, none⟩) 2 cap] w _
  go_enter Tryd.func46, Tryd.ntmps46
  go_upto_region 2 with (first
    | (go_at_call 26; (with_reducible refine HO.out.mono ?_); rintro r w2 ⟨rfl, g2, s2, o0, o1⟩; have G2 := Lib.hid g2; have S2 := Lib.hid s2; have O2 := Lib.hid (And.intro o0 o1); clear g2 s2 o0 o1)
    | (go_at_call 41; (with_reducible refine (HCN.out _).mono ?_); rintro r w3 ⟨rfl, rfl⟩))
  go_upto_region 3 with (fail)
  obtain ⟨w3, hw3⟩ : ∃ W, W = w2.alloc (.cells #[.int .u8 k, .int .i64 0, .int .i64 0] 26) := ⟨_, rfl⟩
  have B3 := Lib.hid (show Blk w3 w2.heap.size 26 #[.int .u8 k, .int .i64 0, .int .i64 0] from by rw [hw3]; exact Blk.new _ _ _)
  have hg3 : w2.grownBy w3 none := by rw [hw3]; exact only_alloc (only_refl _ _) _
  have G3 := Lib.hid (only_trans G2.out hg3)
  have HLO := Lib.hid (show w.heap.size ≤ w2.heap.size from G2.out.size)
  have HNE := Lib.hid (show w.heap.size ≠ w2.heap.size from by have := S2.out; omega)
  have O3 := Lib.hid (show w3.cell? ⟨w.heap.size, 0, none⟩ = some (.int .i64 0) ∧ w3.cell? ⟨w.heap.size, 1, none⟩ = some (.int .i64 2) from ⟨by rw [Am.kc hg3 S2.out]; exact O2.out.1, by rw [Am.kc hg3 S2.out]; exact O2.out.2⟩)
  have S3 := Lib.hid (show w.heap.size < w3.heap.size from Nat.lt_of_lt_of_le S2.out hg3.size)
  rw [← hw3]
  clear hw3 hg3
  generalize w2.heap.size = gi at *
  generalize hgo : w.heap.size = go at *
  have HGO := Lib.hid hgo
  obtain ⟨p0, p1⟩ := O3.out
  obtain ⟨x0, x1⟩ := HX.out _ G3.out
  obtain ⟨f0, f1, f2, f3, f4, f5⟩ := in3f B3.out
  clear hgo
  go_upto_region 4 with (fail)
  refine wp_loop_rounds 3 ?_
  rw [rounds_succ]
  go_wp2_with (first
    | (go_at_call 55; (with_reducible refine (HR.out _ G3.out).mono ?_); rintro r w4 hp; rcases Am.numP_cases hp with ⟨x, hx, rfl, g4⟩ | ⟨hx, rfl, g4⟩ <;> (have HXX := Lib.hid hx; have G34 := Lib.hid g4; have G4 := Lib.hid (only_trans G3.out g4); have B4 := Lib.hid (B3.out.only g4 (by simp)); obtain ⟨q0, q1, q2, q3, q4, q5⟩ := in3f B4.out; clear hp hx g4)))
  rotate_left
  · have hv : Am.insV ln k [a, b2] st = (3, st) := by unfold Am.insV; rw [HIN0.out a b2 HXX.out]
    rw [hv]
    exact ⟨rfl, Am.stP_no (show ((3 : Int), st).1 ≠ 0 from by show (3 : Int) ≠ 0; decide) (Keeps.of_only G4.out (fun k hk => by cases hk))⟩
  obtain ⟨w5, hw5⟩ : ∃ W, W = w4.setCell ⟨gi, 1, none⟩ (.int .i64 x) := ⟨_, rfl⟩
  have B5 := Lib.hid (show Blk w5 gi 26 #[.int .u8 k, .int .i64 x, .int .i64 0] from by rw [hw5]; exact B4.out.put 1 _)
  have G5 := Lib.hid (show w.grownBy w5 none from by rw [hw5]; exact only_putc G4.out (p := ⟨gi, 1, none⟩) (by rw [HGO.out]; exact HLO.out) _)
  have O5 := Lib.hid (show w5.cell? ⟨go, 0, none⟩ = some (.int .i64 0) ∧ w5.cell? ⟨go, 1, none⟩ = some (.int .i64 2) from by
    have hf : ∀ i, w5.cell? ⟨go, i, none⟩ = w4.cell? ⟨go, i, none⟩ := fun i => by rw [hw5]; exact World.cell?_setCell_other _ _ _ _ (by intro e; injection e with e; exact HNE.out e.symm)
    exact ⟨by rw [hf, Am.kc G34.out S3.out]; exact O3.out.1, by rw [hf, Am.kc G34.out S3.out]; exact O3.out.2⟩)
  rw [← hw5]
  clear hw5 p0 p1 x0 x1 f0 f1 f2 f3 f4 f5 q0 q1 q2 q3 q4 q5
  obtain ⟨p0, p1⟩ := O5.out
  obtain ⟨x0, x1⟩ := HX.out _ G5.out
  obtain ⟨f0, f1, f2, f3, f4, f5⟩ := in3f B5.out
  rw [rounds_succ]
  go_wp2_with (first
    | (go_at_call 43; (with_reducible refine (HS.out _ G5.out).mono ?_); rintro r w6 hp; rcases Am.numP_cases hp with ⟨n, hx, rfl, g6⟩ | ⟨hx, rfl, g6⟩ <;> (have HYY := Lib.hid hx; have G6 := Lib.hid (only_trans G5.out g6); have B6 := Lib.hid (B5.out.only g6 (by simp)); obtain ⟨q0, q1, q2, q3, q4, q5⟩ := in3f B6.out; clear hp hx g6)))
  rotate_left
  · have hv : Am.insV ln k [a, b2] st = (3, st) := by unfold Am.insV; rw [HINS.out a b2 x HXX.out, HYY.out]; rfl
    rw [hv]
    exact ⟨rfl, Am.stP_no (show ((3 : Int), st).1 ≠ 0 from by show (3 : Int) ≠ 0; decide) (Keeps.of_only G6.out (fun k hk => by cases hk))⟩
  obtain ⟨w7, hw7⟩ : ∃ W, W = w6.setCell ⟨gi, 2, none⟩ (.int .i64 n) := ⟨_, rfl⟩
  have B7 := Lib.hid (show Blk w7 gi 26 #[.int .u8 k, .int .i64 x, .int .i64 n] from by rw [hw7]; exact B6.out.put 2 _)
  have G7 := Lib.hid (show w.grownBy w7 none from by rw [hw7]; exact only_putc G6.out (p := ⟨gi, 2, none⟩) (by rw [HGO.out]; exact HLO.out) _)
  rw [← hw7]
  clear hw7 p0 p1 x0 x1 f0 f1 f2 f3 f4 f5 q0 q1 q2 q3 q4 q5
  obtain ⟨f0, f1, f2, f3, f4, f5⟩ := in3f B7.out
  have hv : Am.insV ln k [a, b2] st = Am.putV ln (Am.pt k x n) [] st := by unfold Am.insV; rw [HINS.out a b2 x HXX.out, HYY.out]; rfl
  have HV := Lib.hid hv
  have HCPz := Lib.hid (HCP.out x n (Am.reg_le HXX.out) (Am.num_le HYY.out))
  have HPUz := Lib.hid (HPU.out x n [])
  clear hv
  rw [rounds_succ]
  go_wp2_with (first
    | (go_at_call 56; (with_reducible refine (HCPz.out _ G7.out).mono ?_); rintro r w8 ⟨rfl, g8⟩; have G8 := Lib.hid (only_trans G7.out g8); clear g8)
    | (go_at_call 42; (with_reducible refine (HPUz.out _ G8.out).mono ?_); rintro r w9 hp; rcases Am.stP_cases hp with ⟨z0, rfl, F', r1, r2⟩ | ⟨z0, rfl, r1⟩ <;> clear hp))
  · go_end0
    rw [HV.out]
    exact Am.stP_yes z0 ⟨F', r1, (Am.Nx.of_grown G8.out F).trans r2⟩
  · rw [HV.out]
    exact ⟨rfl, Am.stP_no z0 ((Keeps.of_only G8.out (fun k hk => by cases hk)).trans r1)⟩
end Go.Proofs.YteoaaogfloljlaaDoor

/- Package asm: an instruction of two words, by its contract. -/
namespace Go.Proofs.YteoaaogfloljlaaDoor
open Go.RowKit Go.Lib
set_option linter.unusedVariables false
set_option maxRecDepth 20000 in
set_option maxHeartbeats 1600000 in
theorem Am.ins_r (b ln k : Nat) (st : Am.St) (F : Nat → Prop) (A : Option Addr) (cap : Nat) (l : List (List UInt8)) (w : World) (h : Am.Rd w b ln st F) (hW : Am.Wd w A l) (hN : Nm w) (hsz : ∀ x ∈ l, x.length ≤ 100000) (hp : st.pr.length ≤ 100000) (hw : st.ws.length ≤ 100000)
    (hk : k < 16) (hops : Am.ops k = [0, 1]) (hmay : ∀ x n : Nat, x ≤ 7 → n ≤ 7 → mayI k x n = true) (hins : ∀ a b2 x, Am.reg a = some x → Am.ins k [a, b2] = (Am.reg b2).map fun n => (Am.pt k x n, [])) (hin0 : ∀ a b2, Am.reg a = none → Am.ins k [a, b2] = none) (hin1 : l.length ≠ 2 → Am.ins k l = none) :
    Calls Tryd.prog 46 #[.pointer (some ⟨b, 0, none⟩), .int .u8 k, .slice A l.length cap] w (Am.stP w b ln F (Am.insV ln k l st)) := by
  have HO := Lib.hid (Am.operands2 (by omega) hops w)
  have HRD := Lib.hid h
  have hc0 : w.cell? ⟨b, 0, none⟩ = some (.int .i64 ln) := by obtain ⟨pv, lv, wv, m, hR, hF⟩ := h; exact hR.blk.cell 0
  have hbl : b < w.heap.size := by obtain ⟨pv, lv, wv, m, hR, hF⟩ := h; exact hR.blk.lt
  have HC0 := Lib.hid (fun (W : World) (q : w.grownBy W none) => (show W.cell? ⟨b, 0, none⟩ = some (.int .i64 ln) from by rw [Am.kc q hbl 0]; exact hc0))
  have HNM := Lib.hid (fun (W : World) (q : w.grownBy W none) => hN.grown q (by simp))
  by_cases hl : l.length = 2
  case neg =>
    have hv : Am.insV ln k l st = (3, st) := by unfold Am.insV; rw [hin1 hl]
    rw [hv, Am.stP_bad (by decide)]
    have HCN := Lib.hid (fun (W : World) (q : w.grownBy W none) => (show Calls Tryd.prog 41 #[.pointer (some ⟨b, 0, none⟩), .slice A l.length cap, .int .i64 2] W (fun r w' => r = .panicked (Am.chn ln 3) ∧ W = w') from Am.count_no b ln A l.length cap 2 hl W (HC0.out W q)))
    clear hv hl hin1 hin0 hins hmay hops hk hw hp hsz hN hW h hc0 hbl
    go_enter Tryd.func46, Tryd.ntmps46
    go_wp2_with (first
      | (go_at_call 26; (with_reducible refine HO.out.mono ?_); rintro r w2 ⟨rfl, g2, s2, o0, o1⟩; have G2 := Lib.hid g2; clear g2)
      | (go_at_call 41; (with_reducible refine (HCN.out _ G2.out).mono ?_); rintro r w3 ⟨rfl, rfl⟩))
    exact ⟨rfl, rfl, Keeps.of_only G2.out (fun k hk => by cases hk)⟩
  obtain ⟨a, b2, rfl⟩ : ∃ a b2, l = [a, b2] := by
    match l, hl with
    | [a, b2], _ => exact ⟨a, b2, rfl⟩
  obtain ⟨g, off, rfl, hg, hcs⟩ : ∃ g off, A = some ⟨g, off, none⟩ ∧ g < w.heap.size ∧ ∀ j (h : j < [a, b2].length), w.cell? ⟨g, off + j, none⟩ = some (.string ⟨([a, b2][j]).toArray⟩) := by
    rcases hW with e | e
    · cases e
    · exact e
  have hx0 : w.cell? ⟨g, off, none⟩ = some (.string ⟨a.toArray⟩) := hcs 0 (by simp)
  have hx1 : w.cell? ⟨g, off + 1, none⟩ = some (.string ⟨b2.toArray⟩) := hcs 1 (by simp)
  have HX := Lib.hid (fun (W : World) (q : w.grownBy W none) => (show W.cell? ⟨g, off, none⟩ = some (.string ⟨a.toArray⟩) ∧ W.cell? ⟨g, off + 1, none⟩ = some (.string ⟨b2.toArray⟩) from ⟨by rw [Am.kc q hg]; exact hx0, by rw [Am.kc q hg]; exact hx1⟩))
  have HCN := Lib.hid (fun (W : World) => (show Calls Tryd.prog 41 #[.pointer (some ⟨b, 0, none⟩), .slice (some ⟨g, off, none⟩) 2 cap, .int .i64 2] W (fun r w' => r = .returned (.tuple #[]) ∧ W = w') from Am.count_yes b (some ⟨g, off, none⟩) 2 cap W))
  have hsa : (⟨a.toArray⟩ : ByteArray).size ≤ 100000 := by have := hsz a (by simp); show a.toArray.size ≤ 100000; simpa using this
  have hsb : (⟨b2.toArray⟩ : ByteArray).size ≤ 100000 := by have := hsz b2 (by simp); show b2.toArray.size ≤ 100000; simpa using this
  have HR := Lib.hid (fun (W : World) (q : w.grownBy W none) => (show Calls Tryd.prog 55 #[.pointer (some ⟨b, 0, none⟩), .string ⟨a.toArray⟩] W (Am.numP (Am.reg a) ln W) from by have := Am.register_any b ln ⟨a.toArray⟩ hsa W (HC0.out W q); simpa using this))
  have HS := Lib.hid (fun (W : World) (q : w.grownBy W none) => (show Calls Tryd.prog 55 #[.pointer (some ⟨b, 0, none⟩), .string ⟨b2.toArray⟩] W (Am.numP (Am.reg b2) ln W) from by have := Am.register_any b ln ⟨b2.toArray⟩ hsb W (HC0.out W q); simpa using this))
  have HPU := Lib.hid (fun (x n : Nat) (nm : List UInt8) (W : World) (q : w.grownBy W none) => (show Calls Tryd.prog 42 #[.pointer (some ⟨b, 0, none⟩), .string (ptI k x n), .string ⟨nm.toArray⟩] W (Am.stP W b ln F (Am.putV ln (Am.pt k x n) nm st)) from by
    have := Am.put_any b ln st F (ptI k x n) ⟨nm.toArray⟩ W (HRD.out.grown q) (by show 0 < 4; omega) (by show 4 ≤ 4; omega) (fun _ => by show 2 ≤ 4; omega) hp hw
    rw [Am.pt_of] at this
    simpa using this))
  have HCP := Lib.hid (fun (x n : Nat) (hx : x ≤ 7) (hn : n ≤ 7) (W : World) (q : w.grownBy W none) => (show Calls Tryd.prog 56 #[.agg #[.int .u8 k, .int .i64 x, .int .i64 n]] W (fun e w' => e = .returned (.tuple #[.string (ptI k x n), .int .i64 0]) ∧ W.grownBy w' none) from put_yes k x n (by omega) W (HNM.out W q) (hmay x n hx hn)))
  have HINS := Lib.hid hins
  have HIN0 := Lib.hid hin0
  clear hin1 hin0 hins hmay hops hk hw hp hsz hN hW h hc0 hbl hsa hsb hx0 hx1 hcs hl
  show Calls Tryd.prog 46 #[.pointer (some ⟨b, 0, none⟩), .int .u8 k, .slice (some ⟨g, off, none⟩) 2 cap] w _
  go_enter Tryd.func46, Tryd.ntmps46
  go_upto_region 2 with (first
    | (go_at_call 26; (with_reducible refine HO.out.mono ?_); rintro r w2 ⟨rfl, g2, s2, o0, o1⟩; have G2 := Lib.hid g2; have S2 := Lib.hid s2; have O2 := Lib.hid (And.intro o0 o1); clear g2 s2 o0 o1)
    | (go_at_call 41; (with_reducible refine (HCN.out _).mono ?_); rintro r w3 ⟨rfl, rfl⟩))
  go_upto_region 3 with (fail)
  obtain ⟨w3, hw3⟩ : ∃ W, W = w2.alloc (.cells #[.int .u8 k, .int .i64 0, .int .i64 0] 26) := ⟨_, rfl⟩
  have B3 := Lib.hid (show Blk w3 w2.heap.size 26 #[.int .u8 k, .int .i64 0, .int .i64 0] from by rw [hw3]; exact Blk.new _ _ _)
  have hg3 : w2.grownBy w3 none := by rw [hw3]; exact only_alloc (only_refl _ _) _
  have G3 := Lib.hid (only_trans G2.out hg3)
  have HLO := Lib.hid (show w.heap.size ≤ w2.heap.size from G2.out.size)
  have HNE := Lib.hid (show w.heap.size ≠ w2.heap.size from by have := S2.out; omega)
  have O3 := Lib.hid (show w3.cell? ⟨w.heap.size, 0, none⟩ = some (.int .i64 0) ∧ w3.cell? ⟨w.heap.size, 1, none⟩ = some (.int .i64 1) from ⟨by rw [Am.kc hg3 S2.out]; exact O2.out.1, by rw [Am.kc hg3 S2.out]; exact O2.out.2⟩)
  have S3 := Lib.hid (show w.heap.size < w3.heap.size from Nat.lt_of_lt_of_le S2.out hg3.size)
  rw [← hw3]
  clear hw3 hg3
  generalize w2.heap.size = gi at *
  generalize hgo : w.heap.size = go at *
  have HGO := Lib.hid hgo
  obtain ⟨p0, p1⟩ := O3.out
  obtain ⟨x0, x1⟩ := HX.out _ G3.out
  obtain ⟨f0, f1, f2, f3, f4, f5⟩ := in3f B3.out
  clear hgo
  go_upto_region 4 with (fail)
  refine wp_loop_rounds 3 ?_
  rw [rounds_succ]
  go_wp2_with (first
    | (go_at_call 55; (with_reducible refine (HR.out _ G3.out).mono ?_); rintro r w4 hp; rcases Am.numP_cases hp with ⟨x, hx, rfl, g4⟩ | ⟨hx, rfl, g4⟩ <;> (have HXX := Lib.hid hx; have G34 := Lib.hid g4; have G4 := Lib.hid (only_trans G3.out g4); have B4 := Lib.hid (B3.out.only g4 (by simp)); obtain ⟨q0, q1, q2, q3, q4, q5⟩ := in3f B4.out; clear hp hx g4)))
  rotate_left
  · have hv : Am.insV ln k [a, b2] st = (3, st) := by unfold Am.insV; rw [HIN0.out a b2 HXX.out]
    rw [hv]
    exact ⟨rfl, Am.stP_no (show ((3 : Int), st).1 ≠ 0 from by show (3 : Int) ≠ 0; decide) (Keeps.of_only G4.out (fun k hk => by cases hk))⟩
  obtain ⟨w5, hw5⟩ : ∃ W, W = w4.setCell ⟨gi, 1, none⟩ (.int .i64 x) := ⟨_, rfl⟩
  have B5 := Lib.hid (show Blk w5 gi 26 #[.int .u8 k, .int .i64 x, .int .i64 0] from by rw [hw5]; exact B4.out.put 1 _)
  have G5 := Lib.hid (show w.grownBy w5 none from by rw [hw5]; exact only_putc G4.out (p := ⟨gi, 1, none⟩) (by rw [HGO.out]; exact HLO.out) _)
  have O5 := Lib.hid (show w5.cell? ⟨go, 0, none⟩ = some (.int .i64 0) ∧ w5.cell? ⟨go, 1, none⟩ = some (.int .i64 1) from by
    have hf : ∀ i, w5.cell? ⟨go, i, none⟩ = w4.cell? ⟨go, i, none⟩ := fun i => by rw [hw5]; exact World.cell?_setCell_other _ _ _ _ (by intro e; injection e with e; exact HNE.out e.symm)
    exact ⟨by rw [hf, Am.kc G34.out S3.out]; exact O3.out.1, by rw [hf, Am.kc G34.out S3.out]; exact O3.out.2⟩)
  rw [← hw5]
  clear hw5 p0 p1 x0 x1 f0 f1 f2 f3 f4 f5 q0 q1 q2 q3 q4 q5
  obtain ⟨p0, p1⟩ := O5.out
  obtain ⟨x0, x1⟩ := HX.out _ G5.out
  obtain ⟨f0, f1, f2, f3, f4, f5⟩ := in3f B5.out
  rw [rounds_succ]
  go_wp2_with (first
    | (go_at_call 55; (with_reducible refine (HS.out _ G5.out).mono ?_); rintro r w6 hp; rcases Am.numP_cases hp with ⟨n, hx, rfl, g6⟩ | ⟨hx, rfl, g6⟩ <;> (have HYY := Lib.hid hx; have G6 := Lib.hid (only_trans G5.out g6); have B6 := Lib.hid (B5.out.only g6 (by simp)); obtain ⟨q0, q1, q2, q3, q4, q5⟩ := in3f B6.out; clear hp hx g6)))
  rotate_left
  · have hv : Am.insV ln k [a, b2] st = (3, st) := by unfold Am.insV; rw [HINS.out a b2 x HXX.out, HYY.out]; rfl
    rw [hv]
    exact ⟨rfl, Am.stP_no (show ((3 : Int), st).1 ≠ 0 from by show (3 : Int) ≠ 0; decide) (Keeps.of_only G6.out (fun k hk => by cases hk))⟩
  obtain ⟨w7, hw7⟩ : ∃ W, W = w6.setCell ⟨gi, 2, none⟩ (.int .i64 n) := ⟨_, rfl⟩
  have B7 := Lib.hid (show Blk w7 gi 26 #[.int .u8 k, .int .i64 x, .int .i64 n] from by rw [hw7]; exact B6.out.put 2 _)
  have G7 := Lib.hid (show w.grownBy w7 none from by rw [hw7]; exact only_putc G6.out (p := ⟨gi, 2, none⟩) (by rw [HGO.out]; exact HLO.out) _)
  rw [← hw7]
  clear hw7 p0 p1 x0 x1 f0 f1 f2 f3 f4 f5 q0 q1 q2 q3 q4 q5
  obtain ⟨f0, f1, f2, f3, f4, f5⟩ := in3f B7.out
  have hv : Am.insV ln k [a, b2] st = Am.putV ln (Am.pt k x n) [] st := by unfold Am.insV; rw [HINS.out a b2 x HXX.out, HYY.out]; rfl
  have HV := Lib.hid hv
  have HCPz := Lib.hid (HCP.out x n (Am.reg_le HXX.out) (Am.reg_le HYY.out))
  have HPUz := Lib.hid (HPU.out x n [])
  clear hv
  rw [rounds_succ]
  go_wp2_with (first
    | (go_at_call 56; (with_reducible refine (HCPz.out _ G7.out).mono ?_); rintro r w8 ⟨rfl, g8⟩; have G8 := Lib.hid (only_trans G7.out g8); clear g8)
    | (go_at_call 42; (with_reducible refine (HPUz.out _ G8.out).mono ?_); rintro r w9 hp; rcases Am.stP_cases hp with ⟨z0, rfl, F', r1, r2⟩ | ⟨z0, rfl, r1⟩ <;> clear hp))
  · go_end0
    rw [HV.out]
    exact Am.stP_yes z0 ⟨F', r1, (Am.Nx.of_grown G8.out F).trans r2⟩
  · rw [HV.out]
    exact ⟨rfl, Am.stP_no z0 ((Keeps.of_only G8.out (fun k hk => by cases hk)).trans r1)⟩
end Go.Proofs.YteoaaogfloljlaaDoor

/- Package asm: instructions, by their contract. -/
namespace Go.Proofs.YteoaaogfloljlaaDoor
open Go.RowKit Go.Lib
set_option linter.unusedVariables false
set_option maxRecDepth 20000 in
set_option maxHeartbeats 1600000 in
theorem Am.ins_j (b ln k : Nat) (st : Am.St) (F : Nat → Prop) (A : Option Addr) (cap : Nat) (l : List (List UInt8)) (w : World) (h : Am.Rd w b ln st F) (hW : Am.Wd w A l) (hN : Nm w) (hsz : ∀ x ∈ l, x.length ≤ 100000) (hp : st.pr.length ≤ 100000) (hw : st.ws.length ≤ 100000)
    (hk : k < 16) (hops : Am.ops k = [3]) (hmay : ∀ n : Nat, n ≤ 65535 → mayI k 0 n = true) (hins : ∀ b2, Am.ins k [b2] = (Am.val b2).map fun v => (Am.pt k 0 v.1, v.2)) (hin1 : l.length ≠ 1 → Am.ins k l = none) :
    Calls Tryd.prog 46 #[.pointer (some ⟨b, 0, none⟩), .int .u8 k, .slice A l.length cap] w (Am.stP w b ln F (Am.insV ln k l st)) := by
  have HO := Lib.hid (Am.operands1 (by omega) hops w)
  have HRD := Lib.hid h
  have hc0 : w.cell? ⟨b, 0, none⟩ = some (.int .i64 ln) := by obtain ⟨pv, lv, wv, m, hR, hF⟩ := h; exact hR.blk.cell 0
  have hbl : b < w.heap.size := by obtain ⟨pv, lv, wv, m, hR, hF⟩ := h; exact hR.blk.lt
  have HC0 := Lib.hid (fun (W : World) (q : w.grownBy W none) => (show W.cell? ⟨b, 0, none⟩ = some (.int .i64 ln) from by rw [Am.kc q hbl 0]; exact hc0))
  have HNM := Lib.hid (fun (W : World) (q : w.grownBy W none) => hN.grown q (by simp))
  by_cases hl : l.length = 1
  case neg =>
    have hv : Am.insV ln k l st = (3, st) := by unfold Am.insV; rw [hin1 hl]
    rw [hv, Am.stP_bad (by decide)]
    have HCN := Lib.hid (fun (W : World) (q : w.grownBy W none) => (show Calls Tryd.prog 41 #[.pointer (some ⟨b, 0, none⟩), .slice A l.length cap, .int .i64 1] W (fun r w' => r = .panicked (Am.chn ln 3) ∧ W = w') from Am.count_no b ln A l.length cap 1 hl W (HC0.out W q)))
    clear hv hl hin1 hins hmay hops hk hw hp hsz hN hW h hc0 hbl
    go_enter Tryd.func46, Tryd.ntmps46
    go_wp2_with (first
      | (go_at_call 26; (with_reducible refine HO.out.mono ?_); rintro r w2 ⟨rfl, g2, s2, o0⟩; have G2 := Lib.hid g2; clear g2)
      | (go_at_call 41; (with_reducible refine (HCN.out _ G2.out).mono ?_); rintro r w3 ⟨rfl, rfl⟩))
    exact ⟨rfl, rfl, Keeps.of_only G2.out (fun k hk => by cases hk)⟩
  obtain ⟨b2, rfl⟩ : ∃ b2, l = [b2] := by
    match l, hl with
    | [b2], _ => exact ⟨b2, rfl⟩
  obtain ⟨g, off, rfl, hg, hcs⟩ : ∃ g off, A = some ⟨g, off, none⟩ ∧ g < w.heap.size ∧ ∀ j (h : j < [b2].length), w.cell? ⟨g, off + j, none⟩ = some (.string ⟨([b2][j]).toArray⟩) := by
    rcases hW with e | e
    · cases e
    · exact e
  have hx0 : w.cell? ⟨g, off, none⟩ = some (.string ⟨b2.toArray⟩) := hcs 0 (by simp)
  have HX := Lib.hid (fun (W : World) (q : w.grownBy W none) => (show W.cell? ⟨g, off, none⟩ = some (.string ⟨b2.toArray⟩) from by rw [Am.kc q hg]; exact hx0))
  have HCN := Lib.hid (fun (W : World) => (show Calls Tryd.prog 41 #[.pointer (some ⟨b, 0, none⟩), .slice (some ⟨g, off, none⟩) 1 cap, .int .i64 1] W (fun r w' => r = .returned (.tuple #[]) ∧ W = w') from Am.count_yes b (some ⟨g, off, none⟩) 1 cap W))
  have hsb : (⟨b2.toArray⟩ : ByteArray).size ≤ 100000 := by have := hsz b2 (by simp); show b2.toArray.size ≤ 100000; simpa using this
  have HS := Lib.hid (fun (W : World) (q : w.grownBy W none) => (show Calls Tryd.prog 44 #[.pointer (some ⟨b, 0, none⟩), .string ⟨b2.toArray⟩] W (Am.valP (Am.val b2) ln W) from by have := Am.value_any b ln ⟨b2.toArray⟩ hsb W (HC0.out W q); simpa using this))
  have HPU := Lib.hid (fun (n : Nat) (nm : List UInt8) (W : World) (q : w.grownBy W none) => (show Calls Tryd.prog 42 #[.pointer (some ⟨b, 0, none⟩), .string (ptI k 0 n), .string ⟨nm.toArray⟩] W (Am.stP W b ln F (Am.putV ln (Am.pt k 0 n) nm st)) from by
    have := Am.put_any b ln st F (ptI k 0 n) ⟨nm.toArray⟩ W (HRD.out.grown q) (by show 0 < 4; omega) (by show 4 ≤ 4; omega) (fun _ => by show 2 ≤ 4; omega) hp hw
    rw [show (ptI k 0 n).data.toList = Am.pt k 0 n from Am.pt_of k 0 n] at this
    simpa using this))
  have HCP := Lib.hid (fun (n : Nat) (hn : n ≤ 65535) (W : World) (q : w.grownBy W none) => (show Calls Tryd.prog 56 #[.agg #[.int .u8 k, .int .i64 0, .int .i64 n]] W (fun e w' => e = .returned (.tuple #[.string (ptI k 0 n), .int .i64 0]) ∧ W.grownBy w' none) from put_yes k 0 n (by omega) W (HNM.out W q) (hmay n hn)))
  have HINS := Lib.hid hins
  clear hin1 hins hmay hops hk hw hp hsz hN hW h hc0 hbl hsb hx0 hcs hl
  show Calls Tryd.prog 46 #[.pointer (some ⟨b, 0, none⟩), .int .u8 k, .slice (some ⟨g, off, none⟩) 1 cap] w _
  go_enter Tryd.func46, Tryd.ntmps46
  go_upto_region 2 with (first
    | (go_at_call 26; (with_reducible refine HO.out.mono ?_); rintro r w2 ⟨rfl, g2, s2, o0⟩; have G2 := Lib.hid g2; have S2 := Lib.hid s2; have O2 := Lib.hid o0; clear g2 s2 o0)
    | (go_at_call 41; (with_reducible refine (HCN.out _).mono ?_); rintro r w3 ⟨rfl, rfl⟩))
  go_upto_region 3 with (fail)
  obtain ⟨w3, hw3⟩ : ∃ W, W = w2.alloc (.cells #[.int .u8 k, .int .i64 0, .int .i64 0] 26) := ⟨_, rfl⟩
  have B3 := Lib.hid (show Blk w3 w2.heap.size 26 #[.int .u8 k, .int .i64 0, .int .i64 0] from by rw [hw3]; exact Blk.new _ _ _)
  have hg3 : w2.grownBy w3 none := by rw [hw3]; exact only_alloc (only_refl _ _) _
  have G3 := Lib.hid (only_trans G2.out hg3)
  have HLO := Lib.hid (show w.heap.size ≤ w2.heap.size from G2.out.size)
  have HNE := Lib.hid (show w.heap.size ≠ w2.heap.size from by have := S2.out; omega)
  have O3 := Lib.hid (show w3.cell? ⟨w.heap.size, 0, none⟩ = some (.int .i64 3) from by rw [Am.kc hg3 S2.out]; exact O2.out)
  have S3 := Lib.hid (show w.heap.size < w3.heap.size from Nat.lt_of_lt_of_le S2.out hg3.size)
  rw [← hw3]
  clear hw3 hg3
  generalize w2.heap.size = gi at *
  generalize hgo : w.heap.size = go at *
  have HGO := Lib.hid hgo
  have p0 := O3.out
  have x0 := HX.out _ G3.out
  obtain ⟨f0, f1, f2, f3, f4, f5⟩ := in3f B3.out
  clear hgo
  go_upto_region 4 with (fail)
  refine wp_loop_rounds 2 ?_
  rw [rounds_succ]
  go_wp2_with (first
    | (go_at_call 44; (with_reducible refine (HS.out _ G3.out).mono ?_); rintro r w6 hp; rcases Am.valP_cases hp with ⟨n, nm, hx, rfl, g6⟩ | ⟨hx, rfl, g6⟩ <;> (have HYY := Lib.hid hx; have G6 := Lib.hid (only_trans G3.out g6); have B6 := Lib.hid (B3.out.only g6 (by simp)); obtain ⟨q0, q1, q2, q3, q4, q5⟩ := in3f B6.out; clear hp hx g6)))
  rotate_left
  · have hv : Am.insV ln k [b2] st = (3, st) := by unfold Am.insV; rw [HINS.out b2, HYY.out]; rfl
    rw [hv]
    exact ⟨rfl, Am.stP_no (show ((3 : Int), st).1 ≠ 0 from by show (3 : Int) ≠ 0; decide) (Keeps.of_only G6.out (fun k hk => by cases hk))⟩
  obtain ⟨w7, hw7⟩ : ∃ W, W = w6.setCell ⟨gi, 2, none⟩ (.int .i64 n) := ⟨_, rfl⟩
  have B7 := Lib.hid (show Blk w7 gi 26 #[.int .u8 k, .int .i64 0, .int .i64 n] from by rw [hw7]; exact B6.out.put 2 _)
  have G7 := Lib.hid (show w.grownBy w7 none from by rw [hw7]; exact only_putc G6.out (p := ⟨gi, 2, none⟩) (by rw [HGO.out]; exact HLO.out) _)
  rw [← hw7]
  clear hw7 p0 x0 f0 f1 f2 f3 f4 f5 q0 q1 q2 q3 q4 q5
  obtain ⟨f0, f1, f2, f3, f4, f5⟩ := in3f B7.out
  have hv : Am.insV ln k [b2] st = Am.putV ln (Am.pt k 0 n) nm st := by unfold Am.insV; rw [HINS.out b2, HYY.out]; rfl
  have HV := Lib.hid hv
  have HCPz := Lib.hid (HCP.out n (Am.val_le HYY.out).1)
  have HPUz := Lib.hid (HPU.out n nm)
  clear hv
  rw [rounds_succ]
  go_wp2_with (first
    | (go_at_call 56; (with_reducible refine (HCPz.out _ G7.out).mono ?_); rintro r w8 ⟨rfl, g8⟩; have G8 := Lib.hid (only_trans G7.out g8); clear g8)
    | (go_at_call 42; (with_reducible refine (HPUz.out _ G8.out).mono ?_); rintro r w9 hp; rcases Am.stP_cases hp with ⟨z0, rfl, F', r1, r2⟩ | ⟨z0, rfl, r1⟩ <;> clear hp))
  · go_end0
    rw [HV.out]
    exact Am.stP_yes z0 ⟨F', r1, (Am.Nx.of_grown G8.out F).trans r2⟩
  · rw [HV.out]
    exact ⟨rfl, Am.stP_no z0 ((Keeps.of_only G8.out (fun k hk => by cases hk)).trans r1)⟩
set_option maxRecDepth 20000 in
set_option maxHeartbeats 1600000 in
theorem Am.ins_s (b ln k : Nat) (st : Am.St) (F : Nat → Prop) (A : Option Addr) (cap : Nat) (l : List (List UInt8)) (w : World) (h : Am.Rd w b ln st F) (hW : Am.Wd w A l) (hN : Nm w) (hsz : ∀ x ∈ l, x.length ≤ 100000) (hp : st.pr.length ≤ 100000) (hw : st.ws.length ≤ 100000)
    (hk : k < 16) (hops : Am.ops k = []) (hmay : mayI k 0 0 = true) (hins : Am.ins k [] = some (Am.pt k 0 0, [])) (hin1 : l.length ≠ 0 → Am.ins k l = none) :
    Calls Tryd.prog 46 #[.pointer (some ⟨b, 0, none⟩), .int .u8 k, .slice A l.length cap] w (Am.stP w b ln F (Am.insV ln k l st)) := by
  have HO := Lib.hid (Am.operands0 (by omega) hops w)
  have HRD := Lib.hid h
  have hc0 : w.cell? ⟨b, 0, none⟩ = some (.int .i64 ln) := by obtain ⟨pv, lv, wv, m, hR, hF⟩ := h; exact hR.blk.cell 0
  have hbl : b < w.heap.size := by obtain ⟨pv, lv, wv, m, hR, hF⟩ := h; exact hR.blk.lt
  have HC0 := Lib.hid (fun (W : World) (q : w.grownBy W none) => (show W.cell? ⟨b, 0, none⟩ = some (.int .i64 ln) from by rw [Am.kc q hbl 0]; exact hc0))
  have HNM := Lib.hid (fun (W : World) (q : w.grownBy W none) => hN.grown q (by simp))
  by_cases hl : l.length = 0
  case neg =>
    have hv : Am.insV ln k l st = (3, st) := by unfold Am.insV; rw [hin1 hl]
    rw [hv, Am.stP_bad (by decide)]
    have HCN := Lib.hid (fun (W : World) (q : w.grownBy W none) => (show Calls Tryd.prog 41 #[.pointer (some ⟨b, 0, none⟩), .slice A l.length cap, .int .i64 0] W (fun r w' => r = .panicked (Am.chn ln 3) ∧ W = w') from Am.count_no b ln A l.length cap 0 hl W (HC0.out W q)))
    clear hv hl hin1 hins hmay hops hk hw hp hsz hN hW h hc0 hbl
    go_enter Tryd.func46, Tryd.ntmps46
    go_wp2_with (first
      | (go_at_call 26; (with_reducible refine HO.out.mono ?_); rintro r w2 ⟨rfl, g2⟩; have G2 := Lib.hid g2; clear g2)
      | (go_at_call 41; (with_reducible refine (HCN.out _ G2.out).mono ?_); rintro r w3 ⟨rfl, rfl⟩))
    exact ⟨rfl, rfl, Keeps.of_only G2.out (fun k hk => by cases hk)⟩
  obtain rfl : l = [] := List.eq_nil_of_length_eq_zero hl
  have HCN := Lib.hid (fun (W : World) => (show Calls Tryd.prog 41 #[.pointer (some ⟨b, 0, none⟩), .slice A 0 cap, .int .i64 0] W (fun r w' => r = .returned (.tuple #[]) ∧ W = w') from Am.count_yes b A 0 cap W))
  have HPU := Lib.hid (fun (W : World) (q : w.grownBy W none) => (show Calls Tryd.prog 42 #[.pointer (some ⟨b, 0, none⟩), .string (ptI k 0 0), .string ⟨#[]⟩] W (Am.stP W b ln F (Am.putV ln (Am.pt k 0 0) [] st)) from by
    have := Am.put_any b ln st F (ptI k 0 0) ⟨#[]⟩ W (HRD.out.grown q) (by show 0 < 4; omega) (by show 4 ≤ 4; omega) (fun _ => by show 2 ≤ 4; omega) hp hw
    rw [show (ptI k 0 0).data.toList = Am.pt k 0 0 from Am.pt_of k 0 0] at this
    exact this))
  have HCP := Lib.hid (fun (W : World) (q : w.grownBy W none) => (show Calls Tryd.prog 56 #[.agg #[.int .u8 k, .int .i64 0, .int .i64 0]] W (fun e w' => e = .returned (.tuple #[.string (ptI k 0 0), .int .i64 0]) ∧ W.grownBy w' none) from put_yes k 0 0 (by omega) W (HNM.out W q) hmay))
  have HV := Lib.hid (show Am.insV ln k [] st = Am.putV ln (Am.pt k 0 0) [] st from by unfold Am.insV; rw [hins])
  clear hin1 hins hmay hops hk hw hp hsz hN hW h hc0 hbl hl
  show Calls Tryd.prog 46 #[.pointer (some ⟨b, 0, none⟩), .int .u8 k, .slice A 0 cap] w _
  go_enter Tryd.func46, Tryd.ntmps46
  go_upto_region 2 with (first
    | (go_at_call 26; (with_reducible refine HO.out.mono ?_); rintro r w2 ⟨rfl, g2⟩; have G2 := Lib.hid g2; clear g2)
    | (go_at_call 41; (with_reducible refine (HCN.out _).mono ?_); rintro r w3 ⟨rfl, rfl⟩))
  go_upto_region 3 with (fail)
  obtain ⟨w3, hw3⟩ : ∃ W, W = w2.alloc (.cells #[.int .u8 k, .int .i64 0, .int .i64 0] 26) := ⟨_, rfl⟩
  have B3 := Lib.hid (show Blk w3 w2.heap.size 26 #[.int .u8 k, .int .i64 0, .int .i64 0] from by rw [hw3]; exact Blk.new _ _ _)
  have G3 := Lib.hid (only_trans G2.out (show w2.grownBy w3 none from by rw [hw3]; exact only_alloc (only_refl _ _) _))
  rw [← hw3]
  clear hw3
  generalize w2.heap.size = gi at *
  obtain ⟨f0, f1, f2, f3, f4, f5⟩ := in3f B3.out
  go_upto_region 4 with (fail)
  refine wp_loop_rounds 1 ?_
  rw [rounds_succ]
  go_wp2_with (first
    | (go_at_call 56; (with_reducible refine (HCP.out _ G3.out).mono ?_); rintro r w8 ⟨rfl, g8⟩; have G8 := Lib.hid (only_trans G3.out g8); clear g8)
    | (go_at_call 42; (with_reducible refine (HPU.out _ G8.out).mono ?_); rintro r w9 hp; rcases Am.stP_cases hp with ⟨z0, rfl, F', r1, r2⟩ | ⟨z0, rfl, r1⟩ <;> clear hp))
  · go_end0
    rw [HV.out]
    exact Am.stP_yes z0 ⟨F', r1, (Am.Nx.of_grown G8.out F).trans r2⟩
  · rw [HV.out]
    exact ⟨rfl, Am.stP_no z0 ((Keeps.of_only G8.out (fun k hk => by cases hk)).trans r1)⟩
theorem Am.may_all : ∀ k : Nat, k < 16 → (k = 0 ∨ k = 15) ∨ k = 11 ∨ k = 14 ∨ (rgB k = true ∧ k ≠ 0 ∧ k ≠ 15 ∧ k ≠ 11 ∧ k ≠ 14) ∨ (rgB k = false ∧ k ≠ 0 ∧ k ≠ 15 ∧ k ≠ 11 ∧ k ≠ 14) := by
  intro k hk
  cases h : rgB k <;> simp <;> omega
/-- An instruction's words, whatever they are. -/
theorem Am.instr_any (b ln k : Nat) (st : Am.St) (F : Nat → Prop) (A : Option Addr) (cap : Nat) (l : List (List UInt8)) (w : World) (h : Am.Rd w b ln st F) (hW : Am.Wd w A l) (hN : Nm w) (hsz : ∀ x ∈ l, x.length ≤ 100000) (hp : st.pr.length ≤ 100000) (hw : st.ws.length ≤ 100000) (hk : k < 16) :
    Calls Tryd.prog 46 #[.pointer (some ⟨b, 0, none⟩), .int .u8 k, .slice A l.length cap] w (Am.stP w b ln F (Am.insV ln k l st)) := by
  rcases Am.may_all k hk with h0 | h0 | h0 | ⟨h0, h1⟩ | ⟨h0, h1⟩
  · refine Am.ins_s b ln k st F A cap l w h hW hN hsz hp hw hk (by unfold Am.ops; rw [if_pos h0]) ?_ (by unfold Am.ins; rw [if_pos h0, if_pos rfl]) (fun hl => by unfold Am.ins; rw [if_pos h0, if_neg (fun e => hl (by rw [e]; rfl))])
    rw [mayI_iff]
    unfold mxX mxN
    rcases h0 with rfl | rfl <;> decide
  · subst h0
    refine Am.ins_j b ln 11 st F A cap l w h hW hN hsz hp hw hk (by decide) (fun n hn => ?_) (fun b2 => by unfold Am.ins; simp) (fun hl => by unfold Am.ins; simp [hl])
    rw [mayI_iff]
    unfold mxX mxN
    simp [rgB]
    omega
  · subst h0
    refine Am.ins_n b ln 14 st F A cap l w h hW hN hsz hp hw hk (by decide) (fun x n hx hn => ?_) (fun a b2 x e => by unfold Am.ins; simp [e]) (fun a b2 e => by unfold Am.ins; simp [e]) (fun hl => by unfold Am.ins; simp [hl])
    rw [mayI_iff]
    unfold mxX mxN
    simp [rgB]
    omega
  · refine Am.ins_r b ln k st F A cap l w h hW hN hsz hp hw hk (by unfold Am.ops; rw [if_neg (by omega), if_neg h1.2.2.1, if_neg h1.2.2.2, if_pos h0]) (fun x n hx hn => ?_) (fun a b2 x e => by unfold Am.ins; simp [e, h0, h1]) (fun a b2 e => by unfold Am.ins; simp [e, h1]) (fun hl => by unfold Am.ins; simp [hl, h1])
    rw [mayI_iff]
    unfold mxX mxN
    simp [h0, h1]
    omega
  · refine Am.ins_v b ln k st F A cap l w h hW hN hsz hp hw hk (by unfold Am.ops; rw [if_neg (by omega), if_neg h1.2.2.1, if_neg h1.2.2.2, if_neg (by rw [h0]; decide)]) (fun x n hx hn => ?_) (fun a b2 x e => by unfold Am.ins; simp [e, h0, h1]) (fun a b2 e => by unfold Am.ins; simp [e, h1]) (fun hl => by unfold Am.ins; simp [hl, h1])
    rw [mayI_iff]
    unfold mxX mxN
    simp [h0, h1]
    omega
end Go.Proofs.YteoaaogfloljlaaDoor

/- Package asm: a line's words, by their contract. -/
namespace Go.Proofs.YteoaaogfloljlaaDoor
open Go.RowKit Go.Lib
set_option linter.unusedVariables false

theorem Am.one_some (ln : Nat) (bs nm : List UInt8) (st : Am.St) : Am.one ln (Am.lnO (some (bs, nm))) st = Am.putV ln bs nm st := by
  unfold Am.one Am.lnO Am.putV
  simp
theorem Am.one_none (ln : Nat) (st : Am.St) : Am.one ln (Am.lnO none) st = (3, st) := by
  unfold Am.one Am.lnO
  simp
theorem Am.one_ins (ln k : Nat) (l : List (List UInt8)) (st : Am.St) : Am.one ln (Am.lnO (Am.ins k l)) st = Am.insV ln k l st := by
  unfold Am.insV
  cases Am.ins k l with
  | none => exact Am.one_none ln st
  | some v => exact Am.one_some ln v.1 v.2 st
/-- What a line's words make of what was read. -/
def Am.senV (ln : Nat) (v : List UInt8) (l : List (List UInt8)) (st : Am.St) : Int × Am.St := Am.one ln (Am.sen v l) st
theorem Am.ba_eq {s t : ByteArray} : s = t ↔ s.data.toList = t.data.toList := by
  constructor
  · rintro rfl; rfl
  · intro h
    obtain ⟨⟨a⟩⟩ := s
    obtain ⟨⟨b⟩⟩ := t
    simp at h
    rw [h]
theorem Am.run_one (n : Nat) (W : World) : (convert 34 9 (.slice (some ⟨W.heap.size, 0, none⟩) 1 1)).run Tryd.prog (W.alloc (.cells #[.int .u8 n] 5)) = .ok (.string ⟨#[UInt8.ofNat n]⟩) (W.alloc (.cells #[.int .u8 n] 5)) := by
  have h := run_convert_bytes_arg (P := Tryd.prog) (W.alloc (.cells #[.int .u8 (n : Int)] 5)) 34 5 Tryd.underlying34 Tryd.underlying5 W.heap.size 0 1 1 [(n : Int)] rfl (by
    intro i hi
    match i, hi with
    | 0, _ => simp) 9 Tryd.underlying9
  rw [h]
  congr 2
set_option maxRecDepth 20000 in
set_option maxHeartbeats 1600000 in
theorem Am.sentence_byte (b ln : Nat) (st : Am.St) (F : Nat → Prop) (A : Option Addr) (cap : Nat) (l : List (List UInt8)) (w : World) (h : Am.Rd w b ln st F) (hW : Am.Wd w A l) (hsz : ∀ x ∈ l, x.length ≤ 100000) (hp : st.pr.length ≤ 100000) (hw : st.ws.length ≤ 100000) :
    Calls Tryd.prog 32 #[.pointer (some ⟨b, 0, none⟩), .string ⟨#[98, 121, 116, 101]⟩, .slice A l.length cap] w (Am.stP w b ln F (Am.senV ln [98, 121, 116, 101] l st)) := by
  have hc0 : w.cell? ⟨b, 0, none⟩ = some (.int .i64 ln) := by obtain ⟨pv, lv, wv, m, hR, hF⟩ := h; exact hR.blk.cell 0
  have hv0 : Am.senV ln [98, 121, 116, 101] l st = Am.one ln (Am.lnO (if l.length = 1 then (Am.num (l.getD 0 []) 255).map fun n => ([UInt8.ofNat n], []) else none)) st := by unfold Am.senV Am.sen; rw [if_pos rfl]
  by_cases hl : l.length = 1
  case neg =>
    have hv : Am.senV ln [98, 121, 116, 101] l st = (3, st) := by rw [hv0, if_neg hl]; exact Am.one_none ln st
    rw [hv, Am.stP_bad (by decide)]
    have HCN := Lib.hid (show Calls Tryd.prog 41 #[.pointer (some ⟨b, 0, none⟩), .slice A l.length cap, .int .i64 1] w (fun r w' => r = .panicked (Am.chn ln 3) ∧ w = w') from Am.count_no b ln A l.length cap 1 hl w hc0)
    clear hv hv0 hl hw hp hsz hW h hc0
    go_enter Tryd.func32, Tryd.ntmps32
    go_wp2_with (first
      | (go_at_call 41; (with_reducible refine HCN.out.mono ?_); rintro r w3 ⟨rfl, rfl⟩))
    exact ⟨rfl, rfl, Keeps.refl _ _⟩
  obtain ⟨a, rfl⟩ : ∃ a, l = [a] := by
    match l, hl with
    | [a], _ => exact ⟨a, rfl⟩
  obtain ⟨g, off, rfl, hg, hcs⟩ : ∃ g off, A = some ⟨g, off, none⟩ ∧ g < w.heap.size ∧ ∀ j (h : j < [a].length), w.cell? ⟨g, off + j, none⟩ = some (.string ⟨([a][j]).toArray⟩) := by
    rcases hW with e | e
    · cases e
    · exact e
  have x0 : w.cell? ⟨g, off, none⟩ = some (.string ⟨a.toArray⟩) := hcs 0 (by simp)
  have HCN := Lib.hid (show Calls Tryd.prog 41 #[.pointer (some ⟨b, 0, none⟩), .slice (some ⟨g, off, none⟩) 1 cap, .int .i64 1] w (fun r w' => r = .returned (.tuple #[]) ∧ w = w') from Am.count_yes b (some ⟨g, off, none⟩) 1 cap w)
  have hsa : (⟨a.toArray⟩ : ByteArray).size ≤ 100000 := by have := hsz a (by simp); show a.toArray.size ≤ 100000; simpa using this
  have HN := Lib.hid (show Calls Tryd.prog 43 #[.pointer (some ⟨b, 0, none⟩), .string ⟨a.toArray⟩, .int .i64 255] w (Am.numP (Am.num a 255) ln w) from by have := Am.number_any b ln ⟨a.toArray⟩ hsa 255 (by omega) w hc0; simpa using this)
  have HPU := Lib.hid (fun (n : Nat) (W : World) (q : w.grownBy W none) => (show Calls Tryd.prog 42 #[.pointer (some ⟨b, 0, none⟩), .string ⟨#[UInt8.ofNat n]⟩, .string ⟨#[]⟩] W (Am.stP W b ln F (Am.putV ln [UInt8.ofNat n] [] st)) from by
    have := Am.put_any b ln st F ⟨#[UInt8.ofNat n]⟩ ⟨#[]⟩ W (h.grown q) (by show 0 < 1; omega) (by show 1 ≤ 4; omega) (fun e => absurd rfl e) hp hw
    exact this))
  have HV0 := Lib.hid (show Am.num a 255 = none → Am.senV ln [98, 121, 116, 101] [a] st = (3, st) from fun e => by rw [hv0, if_pos (show [a].length = 1 from rfl)]; show Am.one ln (Am.lnO ((Am.num a 255).map _)) st = _; rw [e]; exact Am.one_none ln st)
  have HV1 := Lib.hid (show ∀ n, Am.num a 255 = some n → Am.senV ln [98, 121, 116, 101] [a] st = Am.putV ln [UInt8.ofNat n] [] st from fun n e => by rw [hv0, if_pos (show [a].length = 1 from rfl)]; show Am.one ln (Am.lnO ((Am.num a 255).map _)) st = _; rw [e]; exact Am.one_some ln _ _ st)
  clear hv0 hl hw hp hsz hW h hc0 hsa hcs
  show Calls Tryd.prog 32 #[.pointer (some ⟨b, 0, none⟩), .string ⟨#[98, 121, 116, 101]⟩, .slice (some ⟨g, off, none⟩) 1 cap] w _
  cases e : Am.num a 255 with
  | none =>
    rw [e] at HN
    rw [HV0.out e]
    clear e HV0 HV1
    unfold Am.numP at HN
    rw [Am.stP_bad (by decide)]
    go_enter Tryd.func32, Tryd.ntmps32
    go_wp2_with (first
      | (go_at_call 41; (with_reducible refine HCN.out.mono ?_); rintro r w3 ⟨rfl, rfl⟩)
      | (go_at_call 43; (with_reducible refine HN.out.mono ?_); rintro r w4 ⟨rfl, g4⟩))
    exact ⟨rfl, rfl, Keeps.of_only g4 (fun k hk => by cases hk)⟩
  | some n =>
    have hn := Am.num_le e
    have u1 : IntKind.u8.wrap (n : Int) = (n : Int) := by rw [IntKind.wrap_u8]; omega
    have hone := fun W : World => Am.run_one n W
    rw [e] at HN
    have HV := Lib.hid (HV1.out n e)
    have HPUz := Lib.hid (HPU.out n)
    clear e HV0 HV1 HPU
    unfold Am.numP at HN
    go_enter Tryd.func32, Tryd.ntmps32
    go_wp2_with (first
      | (go_at_call 41; (with_reducible refine HCN.out.mono ?_); rintro r w3 ⟨rfl, rfl⟩)
      | (go_at_call 43; (with_reducible refine HN.out.mono ?_); rintro r w4 ⟨rfl, g4⟩; have G4 := Lib.hid g4; clear g4)
      | (go_at_call 42; (with_reducible refine (HPUz.out _ (only_alloc G4.out _)).mono ?_); rintro r w9 hp; rcases Am.stP_cases hp with ⟨z0, rfl, F', r1, r2⟩ | ⟨z0, rfl, r1⟩ <;> clear hp))
    · go_end0
      rw [HV.out]
      exact Am.stP_yes z0 ⟨F', r1, (Am.Nx.of_grown (only_alloc G4.out _) F).trans r2⟩
    · rw [HV.out]
      exact ⟨rfl, Am.stP_no z0 ((Keeps.of_only (only_alloc G4.out _) (fun k hk => by cases hk)).trans r1)⟩
end Go.Proofs.YteoaaogfloljlaaDoor

/- Package asm: a line's words, whatever they are, by their contract. -/
namespace Go.Proofs.YteoaaogfloljlaaDoor
open Go.RowKit Go.Lib
set_option linter.unusedVariables false
theorem Am.put_of (n : Nat) : (Bt.put (n : Int)).data.toList = [UInt8.ofNat (n % 256), UInt8.ofNat (n / 256 % 256)] := by
  unfold Bt.put
  rw [show ((n : Int) % 256).toNat = n % 256 from by omega, show ((n : Int) / 256 % 256).toNat = n / 256 % 256 from by omega]
set_option maxRecDepth 20000 in
set_option maxHeartbeats 1600000 in
theorem Am.sentence_two (b ln : Nat) (st : Am.St) (F : Nat → Prop) (A : Option Addr) (cap : Nat) (l : List (List UInt8)) (w : World) (h : Am.Rd w b ln st F) (hW : Am.Wd w A l) (hsz : ∀ x ∈ l, x.length ≤ 100000) (hp : st.pr.length ≤ 100000) (hw : st.ws.length ≤ 100000) :
    Calls Tryd.prog 32 #[.pointer (some ⟨b, 0, none⟩), .string ⟨#[116, 119, 111]⟩, .slice A l.length cap] w (Am.stP w b ln F (Am.senV ln [116, 119, 111] l st)) := by
  have hc0 : w.cell? ⟨b, 0, none⟩ = some (.int .i64 ln) := by obtain ⟨pv, lv, wv, m, hR, hF⟩ := h; exact hR.blk.cell 0
  have hv0 : Am.senV ln [116, 119, 111] l st = Am.one ln (Am.lnO (if l.length = 1 then (Am.val (l.getD 0 [])).map fun q => ([UInt8.ofNat (q.1 % 256), UInt8.ofNat (q.1 / 256 % 256)], q.2) else none)) st := by unfold Am.senV Am.sen; rw [if_neg (by decide), if_pos rfl]
  by_cases hl : l.length = 1
  case neg =>
    have hv : Am.senV ln [116, 119, 111] l st = (3, st) := by rw [hv0, if_neg hl]; exact Am.one_none ln st
    rw [hv, Am.stP_bad (by decide)]
    have HCN := Lib.hid (show Calls Tryd.prog 41 #[.pointer (some ⟨b, 0, none⟩), .slice A l.length cap, .int .i64 1] w (fun r w' => r = .panicked (Am.chn ln 3) ∧ w = w') from Am.count_no b ln A l.length cap 1 hl w hc0)
    clear hv hv0 hl hw hp hsz hW h hc0
    go_enter Tryd.func32, Tryd.ntmps32
    go_wp2_with (first
      | (go_at_call 41; (with_reducible refine HCN.out.mono ?_); rintro r w3 ⟨rfl, rfl⟩))
    exact ⟨rfl, rfl, Keeps.refl _ _⟩
  obtain ⟨a, rfl⟩ : ∃ a, l = [a] := by
    match l, hl with
    | [a], _ => exact ⟨a, rfl⟩
  obtain ⟨g, off, rfl, hg, hcs⟩ : ∃ g off, A = some ⟨g, off, none⟩ ∧ g < w.heap.size ∧ ∀ j (h : j < [a].length), w.cell? ⟨g, off + j, none⟩ = some (.string ⟨([a][j]).toArray⟩) := by
    rcases hW with e | e
    · cases e
    · exact e
  have x0 : w.cell? ⟨g, off, none⟩ = some (.string ⟨a.toArray⟩) := hcs 0 (by simp)
  have HCN := Lib.hid (show Calls Tryd.prog 41 #[.pointer (some ⟨b, 0, none⟩), .slice (some ⟨g, off, none⟩) 1 cap, .int .i64 1] w (fun r w' => r = .returned (.tuple #[]) ∧ w = w') from Am.count_yes b (some ⟨g, off, none⟩) 1 cap w)
  have hsa : (⟨a.toArray⟩ : ByteArray).size ≤ 100000 := by have := hsz a (by simp); show a.toArray.size ≤ 100000; simpa using this
  have HN := Lib.hid (show Calls Tryd.prog 44 #[.pointer (some ⟨b, 0, none⟩), .string ⟨a.toArray⟩] w (Am.valP (Am.val a) ln w) from by have := Am.value_any b ln ⟨a.toArray⟩ hsa w hc0; simpa using this)
  have HPU := Lib.hid (fun (n : Nat) (nm : List UInt8) (W : World) (q : w.grownBy W none) => (show Calls Tryd.prog 42 #[.pointer (some ⟨b, 0, none⟩), .string (Bt.put n), .string ⟨nm.toArray⟩] W (Am.stP W b ln F (Am.putV ln [UInt8.ofNat (n % 256), UInt8.ofNat (n / 256 % 256)] nm st)) from by
    have := Am.put_any b ln st F (Bt.put n) ⟨nm.toArray⟩ W (h.grown q) (by show 0 < 2; omega) (by show 2 ≤ 4; omega) (fun _ => by show 2 ≤ 2; omega) hp hw
    rw [Am.put_of] at this
    simpa using this))
  have HV0 := Lib.hid (show Am.val a = none → Am.senV ln [116, 119, 111] [a] st = (3, st) from fun e => by rw [hv0, if_pos (show [a].length = 1 from rfl)]; show Am.one ln (Am.lnO ((Am.val a).map _)) st = _; rw [e]; exact Am.one_none ln st)
  have HV1 := Lib.hid (show ∀ n nm, Am.val a = some (n, nm) → Am.senV ln [116, 119, 111] [a] st = Am.putV ln [UInt8.ofNat (n % 256), UInt8.ofNat (n / 256 % 256)] nm st from fun n nm e => by rw [hv0, if_pos (show [a].length = 1 from rfl)]; show Am.one ln (Am.lnO ((Am.val a).map _)) st = _; rw [e]; exact Am.one_some ln _ _ st)
  clear hv0 hl hw hp hsz hW h hc0 hsa hcs
  show Calls Tryd.prog 32 #[.pointer (some ⟨b, 0, none⟩), .string ⟨#[116, 119, 111]⟩, .slice (some ⟨g, off, none⟩) 1 cap] w _
  cases e : Am.val a with
  | none =>
    rw [e] at HN
    rw [HV0.out e]
    clear e HV0 HV1
    unfold Am.valP at HN
    rw [Am.stP_bad (by decide)]
    go_enter Tryd.func32, Tryd.ntmps32
    go_wp2_with (first
      | (go_at_call 41; (with_reducible refine HCN.out.mono ?_); rintro r w3 ⟨rfl, rfl⟩)
      | (go_at_call 44; (with_reducible refine HN.out.mono ?_); rintro r w4 ⟨rfl, g4⟩))
    exact ⟨rfl, rfl, Keeps.of_only g4 (fun k hk => by cases hk)⟩
  | some q =>
    obtain ⟨n, nm⟩ := q
    have HBP := Lib.hid (fun W : World => Go.Proofs.YteoaaogfloljlaaDoor.put_any (n : Int) W)
    rw [e] at HN
    have HV := Lib.hid (HV1.out n nm e)
    have HPUz := Lib.hid (HPU.out n nm)
    clear e HV0 HV1 HPU
    unfold Am.valP at HN
    go_enter Tryd.func32, Tryd.ntmps32
    go_wp2_with (first
      | (go_at_call 41; (with_reducible refine HCN.out.mono ?_); rintro r w3 ⟨rfl, rfl⟩)
      | (go_at_call 44; (with_reducible refine HN.out.mono ?_); rintro r w4 ⟨rfl, g4⟩; have G4 := Lib.hid g4; clear g4)
      | (go_at_call 34; (with_reducible refine (HBP.out _).mono ?_); rintro r w5 ⟨rfl, rfl⟩)
      | (go_at_call 42; (with_reducible refine (HPUz.out _ (only_alloc G4.out _)).mono ?_); rintro r w9 hp; rcases Am.stP_cases hp with ⟨z0, rfl, F', r1, r2⟩ | ⟨z0, rfl, r1⟩ <;> clear hp))
    · go_end0
      rw [HV.out]
      exact Am.stP_yes z0 ⟨F', r1, (Am.Nx.of_grown (only_alloc G4.out _) F).trans r2⟩
    · rw [HV.out]
      exact ⟨rfl, Am.stP_no z0 ((Keeps.of_only (only_alloc G4.out _) (fun k hk => by cases hk)).trans r1)⟩
set_option maxRecDepth 20000 in
set_option maxHeartbeats 1600000 in
theorem Am.sentence_other (b ln : Nat) (st : Am.St) (F : Nat → Prop) (A : Option Addr) (cap : Nat) (v : List UInt8) (l : List (List UInt8)) (w : World) (h : Am.Rd w b ln st F) (hW : Am.Wd w A l) (hN : Nm w) (hsz : ∀ x ∈ l, x.length ≤ 100000) (hp : st.pr.length ≤ 100000) (hw : st.ws.length ≤ 100000) (h1 : v ≠ [98, 121, 116, 101]) (h2 : v ≠ [116, 119, 111]) :
    Calls Tryd.prog 32 #[.pointer (some ⟨b, 0, none⟩), .string ⟨v.toArray⟩, .slice A l.length cap] w (Am.stP w b ln F (Am.senV ln v l st)) := by
  have hc0 : w.cell? ⟨b, 0, none⟩ = some (.int .i64 ln) := by obtain ⟨pv, lv, wv, m, hR, hF⟩ := h; exact hR.blk.cell 0
  have n1 : ((⟨v.toArray⟩ : ByteArray).toList == [98, 121, 116, 101]) = false := by
    have := str_ne19 (a := ⟨v.toArray⟩) (b := ⟨#[98, 121, 116, 101]⟩) (fun e => h1 (by have := Am.ba_eq.1 e; simpa using this))
    rwa [show (⟨#[98, 121, 116, 101]⟩ : ByteArray).toList = [98, 121, 116, 101] from by rw [ByteArray.toList_eq]] at this
  have n2 : ((⟨v.toArray⟩ : ByteArray).toList == [116, 119, 111]) = false := by
    have := str_ne19 (a := ⟨v.toArray⟩) (b := ⟨#[116, 119, 111]⟩) (fun e => h2 (by have := Am.ba_eq.1 e; simpa using this))
    rwa [show (⟨#[116, 119, 111]⟩ : ByteArray).toList = [116, 119, 111] from by rw [ByteArray.toList_eq]] at this
  have HND := Lib.hid (named_any ⟨v.toArray⟩ w hN)
  have HG := Lib.hid (Am.giveup_any b ln 3 w hc0)
  have hv0 : Am.senV ln v l st = Am.one ln (if (ndV ⟨v.toArray⟩).2 = true then Am.lnO (Am.ins (ndV ⟨v.toArray⟩).1.toNat l) else ⟨3, [], []⟩) st := by unfold Am.senV Am.sen; rw [if_neg h1, if_neg h2]
  by_cases hx : ∃ k, k < 16 ∧ nmL k = ⟨v.toArray⟩
  · obtain ⟨k, hk, hn⟩ := hx
    have hnd := ndV_at hk hn
    have HI := Lib.hid (show Calls Tryd.prog 46 #[.pointer (some ⟨b, 0, none⟩), .int .u8 (k : Int), .slice A l.length cap] w (Am.stP w b ln F (Am.insV ln k l st)) from Am.instr_any b ln k st F A cap l w h hW hN hsz hp hw hk)
    have HV := Lib.hid (show Am.senV ln v l st = Am.insV ln k l st from by rw [hv0, hnd, if_pos rfl, Int.toNat_natCast]; exact Am.one_ins ln k l st)
    rw [hnd] at HND
    clear hv0 h1 h2 hw hp hsz hW h hc0 hnd hn hk hN
    generalize (⟨v.toArray⟩ : ByteArray) = s at *
    go_enter Tryd.func32, Tryd.ntmps32
    go_wp2_with (first
      | (go_at_call 45; (with_reducible refine HND.out.mono ?_); rintro r w3 ⟨rfl, rfl⟩)
      | (go_at_call 46; (with_reducible refine HI.out.mono ?_); rintro r w9 hp; rcases Am.stP_cases hp with ⟨z0, rfl, hh⟩ | ⟨z0, rfl, r1⟩ <;> clear hp))
    · go_end0
      rw [HV.out]
      exact Am.stP_yes z0 hh
    · rw [HV.out]
      exact ⟨rfl, Am.stP_no z0 r1⟩
  · have hnd := ndV_none (t := ⟨v.toArray⟩) (fun k hk e => hx ⟨k, hk, e⟩)
    have HV := Lib.hid (show Am.senV ln v l st = (3, st) from by rw [hv0, hnd, if_neg (by decide)]; exact Am.one_none ln st)
    rw [hnd] at HND
    rw [HV.out, Am.stP_bad (by decide)]
    clear hv0 h1 h2 hw hp hsz hW h hc0 hnd hx hN HV
    generalize (⟨v.toArray⟩ : ByteArray) = s at *
    go_enter Tryd.func32, Tryd.ntmps32
    go_wp2_with (first
      | (go_at_call 45; (with_reducible refine HND.out.mono ?_); rintro r w3 ⟨rfl, rfl⟩)
      | (go_at_call 33; (with_reducible refine HG.out.mono ?_); rintro r w3 ⟨rfl, rfl⟩))
    exact ⟨rfl, rfl, Keeps.refl _ _⟩
/-- A line's words. -/
theorem Am.sentence_any (b ln : Nat) (st : Am.St) (F : Nat → Prop) (A : Option Addr) (cap : Nat) (v : List UInt8) (l : List (List UInt8)) (w : World) (h : Am.Rd w b ln st F) (hW : Am.Wd w A l) (hN : Nm w) (hsz : ∀ x ∈ l, x.length ≤ 100000) (hp : st.pr.length ≤ 100000) (hw : st.ws.length ≤ 100000) :
    Calls Tryd.prog 32 #[.pointer (some ⟨b, 0, none⟩), .string ⟨v.toArray⟩, .slice A l.length cap] w (Am.stP w b ln F (Am.senV ln v l st)) := by
  by_cases h1 : v = [98, 121, 116, 101]
  · subst h1
    exact Am.sentence_byte b ln st F A cap l w h hW hsz hp hw
  · by_cases h2 : v = [116, 119, 111]
    · subst h2
      exact Am.sentence_two b ln st F A cap l w h hW hsz hp hw
    · exact Am.sentence_other b ln st F A cap v l w h hW hN hsz hp hw h1 h2
end Go.Proofs.YteoaaogfloljlaaDoor
