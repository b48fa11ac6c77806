/- Package asm: an instruction of two words, by its contract. -/
import Derived.Test.YtgjpjmolfdiahaaDoorAX11
namespace Go.Proofs.YtgjpjmolfdiahaaDoor
open Go.RowKit Go.Lib
set_option linter.unusedVariables false
set_option maxRecDepth 20000 in
set_option maxHeartbeats 1600000 in
theorem Am.ins_v (b ln k : Nat) (st : Am.St) (F : Nat → Prop) (A : Option Addr) (cap : Nat) (l : List (List UInt8)) (w : World) (h : Am.Rd w b ln st F) (hW : Am.Wd w A l) (hN : Nm w) (hsz : ∀ x ∈ l, x.length ≤ 100000) (hp : st.pr.length ≤ 100000) (hw : st.ws.length ≤ 100000)
    (hk : k < 16) (hops : Am.ops k = [0, 3]) (hmay : ∀ x n : Nat, x ≤ 7 → n ≤ 65535 → mayI k x n = true) (hins : ∀ a b2 x, Am.reg a = some x → Am.ins k [a, b2] = (Am.val b2).map fun v => (Am.pt k x v.1, v.2)) (hin0 : ∀ a b2, Am.reg a = none → Am.ins k [a, b2] = none) (hin1 : l.length ≠ 2 → Am.ins k l = none) :
    Calls Tryd.prog 62 #[.pointer (some ⟨b, 0, none⟩), .int .u8 k, .slice A l.length cap] w (Am.stP w b ln F (Am.insV ln k l st)) := by
  have HO := Lib.hid (Am.operands2 (by omega) hops w)
  have HRD := Lib.hid h
  have hc0 : w.cell? ⟨b, 0, none⟩ = some (.int .i64 ln) := by obtain ⟨pv, lv, wv, m, hR, hF⟩ := h; exact hR.blk.cell 0
  have hbl : b < w.heap.size := by obtain ⟨pv, lv, wv, m, hR, hF⟩ := h; exact hR.blk.lt
  have HC0 := Lib.hid (fun (W : World) (q : w.grownBy W none) => (show W.cell? ⟨b, 0, none⟩ = some (.int .i64 ln) from by rw [Am.kc q hbl 0]; exact hc0))
  have HNM := Lib.hid (fun (W : World) (q : w.grownBy W none) => hN.grown q (by simp))
  by_cases hl : l.length = 2
  case neg =>
    have hv : Am.insV ln k l st = (3, st) := by unfold Am.insV; rw [hin1 hl]
    rw [hv, Am.stP_bad (by decide)]
    have HCN := Lib.hid (fun (W : World) (q : w.grownBy W none) => (show Calls Tryd.prog 57 #[.pointer (some ⟨b, 0, none⟩), .slice A l.length cap, .int .i64 2] W (fun r w' => r = .panicked (Am.chn ln 3) ∧ W = w') from Am.count_no b ln A l.length cap 2 hl W (HC0.out W q)))
    clear hv hl hin1 hin0 hins hmay hops hk hw hp hsz hN hW h hc0 hbl
    go_enter Tryd.func62, Tryd.ntmps62
    go_wp2_with (first
      | (go_at_call 41; (with_reducible refine HO.out.mono ?_); rintro r w2 ⟨rfl, g2, s2, o0, o1⟩; have G2 := Lib.hid g2; clear g2)
      | (go_at_call 57; (with_reducible refine (HCN.out _ G2.out).mono ?_); rintro r w3 ⟨rfl, rfl⟩))
    exact ⟨rfl, rfl, Keeps.of_only G2.out (fun k hk => by cases hk)⟩
  obtain ⟨a, b2, rfl⟩ : ∃ a b2, l = [a, b2] := by
    match l, hl with
    | [a, b2], _ => exact ⟨a, b2, rfl⟩
  obtain ⟨g, off, rfl, hg, hcs⟩ : ∃ g off, A = some ⟨g, off, none⟩ ∧ g < w.heap.size ∧ ∀ j (h : j < [a, b2].length), w.cell? ⟨g, off + j, none⟩ = some (.string ⟨([a, b2][j]).toArray⟩) := by
    rcases hW with e | e
    · cases e
    · exact e
  have hx0 : w.cell? ⟨g, off, none⟩ = some (.string ⟨a.toArray⟩) := hcs 0 (by simp)
  have hx1 : w.cell? ⟨g, off + 1, none⟩ = some (.string ⟨b2.toArray⟩) := hcs 1 (by simp)
  have HX := Lib.hid (fun (W : World) (q : w.grownBy W none) => (show W.cell? ⟨g, off, none⟩ = some (.string ⟨a.toArray⟩) ∧ W.cell? ⟨g, off + 1, none⟩ = some (.string ⟨b2.toArray⟩) from ⟨by rw [Am.kc q hg]; exact hx0, by rw [Am.kc q hg]; exact hx1⟩))
  have HCN := Lib.hid (fun (W : World) => (show Calls Tryd.prog 57 #[.pointer (some ⟨b, 0, none⟩), .slice (some ⟨g, off, none⟩) 2 cap, .int .i64 2] W (fun r w' => r = .returned (.tuple #[]) ∧ W = w') from Am.count_yes b (some ⟨g, off, none⟩) 2 cap W))
  have hsa : (⟨a.toArray⟩ : ByteArray).size ≤ 100000 := by have := hsz a (by simp); show a.toArray.size ≤ 100000; simpa using this
  have hsb : (⟨b2.toArray⟩ : ByteArray).size ≤ 100000 := by have := hsz b2 (by simp); show b2.toArray.size ≤ 100000; simpa using this
  have HR := Lib.hid (fun (W : World) (q : w.grownBy W none) => (show Calls Tryd.prog 71 #[.pointer (some ⟨b, 0, none⟩), .string ⟨a.toArray⟩] W (Am.numP (Am.reg a) ln W) from by have := Am.register_any b ln ⟨a.toArray⟩ hsa W (HC0.out W q); simpa using this))
  have HS := Lib.hid (fun (W : World) (q : w.grownBy W none) => (show Calls Tryd.prog 60 #[.pointer (some ⟨b, 0, none⟩), .string ⟨b2.toArray⟩] W (Am.valP (Am.val b2) ln W) from by have := Am.value_any b ln ⟨b2.toArray⟩ hsb W (HC0.out W q); simpa using this))
  have HPU := Lib.hid (fun (x n : Nat) (nm : List UInt8) (W : World) (q : w.grownBy W none) => (show Calls Tryd.prog 58 #[.pointer (some ⟨b, 0, none⟩), .string (ptI k x n), .string ⟨nm.toArray⟩] W (Am.stP W b ln F (Am.putV ln (Am.pt k x n) nm st)) from by
    have := Am.put_any b ln st F (ptI k x n) ⟨nm.toArray⟩ W (HRD.out.grown q) (by show 0 < 4; omega) (by show 4 ≤ 4; omega) (fun _ => by show 2 ≤ 4; omega) hp hw
    rw [Am.pt_of] at this
    simpa using this))
  have HCP := Lib.hid (fun (x n : Nat) (hx : x ≤ 7) (hn : n ≤ 65535) (W : World) (q : w.grownBy W none) => (show Calls Tryd.prog 72 #[.agg #[.int .u8 k, .int .i64 x, .int .i64 n]] W (fun e w' => e = .returned (.tuple #[.string (ptI k x n), .int .i64 0]) ∧ W.grownBy w' none) from put_yes k x n (by omega) W (HNM.out W q) (hmay x n hx hn)))
  have HINS := Lib.hid hins
  have HIN0 := Lib.hid hin0
  clear hin1 hin0 hins hmay hops hk hw hp hsz hN hW h hc0 hbl hsa hsb hx0 hx1 hcs hl
  show Calls Tryd.prog 62 #[.pointer (some ⟨b, 0, none⟩), .int .u8 k, .slice (some ⟨g, off, none⟩) 2 cap] w _
  go_enter Tryd.func62, Tryd.ntmps62
  go_upto_region 2 with (first
    | (go_at_call 41; (with_reducible refine HO.out.mono ?_); rintro r w2 ⟨rfl, g2, s2, o0, o1⟩; have G2 := Lib.hid g2; have S2 := Lib.hid s2; have O2 := Lib.hid (And.intro o0 o1); clear g2 s2 o0 o1)
    | (go_at_call 57; (with_reducible refine (HCN.out _).mono ?_); rintro r w3 ⟨rfl, rfl⟩))
  go_upto_region 3 with (fail)
  obtain ⟨w3, hw3⟩ : ∃ W, W = w2.alloc (.cells #[.int .u8 k, .int .i64 0, .int .i64 0] 42) := ⟨_, rfl⟩
  have B3 := Lib.hid (show Blk w3 w2.heap.size 42 #[.int .u8 k, .int .i64 0, .int .i64 0] from by rw [hw3]; exact Blk.new _ _ _)
  have hg3 : w2.grownBy w3 none := by rw [hw3]; exact only_alloc (only_refl _ _) _
  have G3 := Lib.hid (only_trans G2.out hg3)
  have HLO := Lib.hid (show w.heap.size ≤ w2.heap.size from G2.out.size)
  have HNE := Lib.hid (show w.heap.size ≠ w2.heap.size from by have := S2.out; omega)
  have O3 := Lib.hid (show w3.cell? ⟨w.heap.size, 0, none⟩ = some (.int .i64 0) ∧ w3.cell? ⟨w.heap.size, 1, none⟩ = some (.int .i64 3) from ⟨by rw [Am.kc hg3 S2.out]; exact O2.out.1, by rw [Am.kc hg3 S2.out]; exact O2.out.2⟩)
  have S3 := Lib.hid (show w.heap.size < w3.heap.size from Nat.lt_of_lt_of_le S2.out hg3.size)
  rw [← hw3]
  clear hw3 hg3
  generalize w2.heap.size = gi at *
  generalize hgo : w.heap.size = go at *
  have HGO := Lib.hid hgo
  obtain ⟨p0, p1⟩ := O3.out
  obtain ⟨x0, x1⟩ := HX.out _ G3.out
  obtain ⟨f0, f1, f2, f3, f4, f5⟩ := in3f B3.out
  clear hgo
  go_upto_region 4 with (fail)
  refine wp_loop_rounds 3 ?_
  rw [rounds_succ]
  go_wp2_with (first
    | (go_at_call 71; (with_reducible refine (HR.out _ G3.out).mono ?_); rintro r w4 hp; rcases Am.numP_cases hp with ⟨x, hx, rfl, g4⟩ | ⟨hx, rfl, g4⟩ <;> (have HXX := Lib.hid hx; have G34 := Lib.hid g4; have G4 := Lib.hid (only_trans G3.out g4); have B4 := Lib.hid (B3.out.only g4 (by simp)); obtain ⟨q0, q1, q2, q3, q4, q5⟩ := in3f B4.out; clear hp hx g4)))
  rotate_left
  · have hv : Am.insV ln k [a, b2] st = (3, st) := by unfold Am.insV; rw [HIN0.out a b2 HXX.out]
    rw [hv]
    exact ⟨rfl, Am.stP_no (show ((3 : Int), st).1 ≠ 0 from by show (3 : Int) ≠ 0; decide) (Keeps.of_only G4.out (fun k hk => by cases hk))⟩
  obtain ⟨w5, hw5⟩ : ∃ W, W = w4.setCell ⟨gi, 1, none⟩ (.int .i64 x) := ⟨_, rfl⟩
  have B5 := Lib.hid (show Blk w5 gi 42 #[.int .u8 k, .int .i64 x, .int .i64 0] from by rw [hw5]; exact B4.out.put 1 _)
  have G5 := Lib.hid (show w.grownBy w5 none from by rw [hw5]; exact only_putc G4.out (p := ⟨gi, 1, none⟩) (by rw [HGO.out]; exact HLO.out) _)
  have O5 := Lib.hid (show w5.cell? ⟨go, 0, none⟩ = some (.int .i64 0) ∧ w5.cell? ⟨go, 1, none⟩ = some (.int .i64 3) from by
    have hf : ∀ i, w5.cell? ⟨go, i, none⟩ = w4.cell? ⟨go, i, none⟩ := fun i => by rw [hw5]; exact World.cell?_setCell_other _ _ _ _ (by intro e; injection e with e; exact HNE.out e.symm)
    exact ⟨by rw [hf, Am.kc G34.out S3.out]; exact O3.out.1, by rw [hf, Am.kc G34.out S3.out]; exact O3.out.2⟩)
  rw [← hw5]
  clear hw5 p0 p1 x0 x1 f0 f1 f2 f3 f4 f5 q0 q1 q2 q3 q4 q5
  obtain ⟨p0, p1⟩ := O5.out
  obtain ⟨x0, x1⟩ := HX.out _ G5.out
  obtain ⟨f0, f1, f2, f3, f4, f5⟩ := in3f B5.out
  rw [rounds_succ]
  go_wp2_with (first
    | (go_at_call 60; (with_reducible refine (HS.out _ G5.out).mono ?_); rintro r w6 hp; rcases Am.valP_cases hp with ⟨n, nm, hx, rfl, g6⟩ | ⟨hx, rfl, g6⟩ <;> (have HYY := Lib.hid hx; have G6 := Lib.hid (only_trans G5.out g6); have B6 := Lib.hid (B5.out.only g6 (by simp)); obtain ⟨q0, q1, q2, q3, q4, q5⟩ := in3f B6.out; clear hp hx g6)))
  rotate_left
  · have hv : Am.insV ln k [a, b2] st = (3, st) := by unfold Am.insV; rw [HINS.out a b2 x HXX.out, HYY.out]; rfl
    rw [hv]
    exact ⟨rfl, Am.stP_no (show ((3 : Int), st).1 ≠ 0 from by show (3 : Int) ≠ 0; decide) (Keeps.of_only G6.out (fun k hk => by cases hk))⟩
  obtain ⟨w7, hw7⟩ : ∃ W, W = w6.setCell ⟨gi, 2, none⟩ (.int .i64 n) := ⟨_, rfl⟩
  have B7 := Lib.hid (show Blk w7 gi 42 #[.int .u8 k, .int .i64 x, .int .i64 n] from by rw [hw7]; exact B6.out.put 2 _)
  have G7 := Lib.hid (show w.grownBy w7 none from by rw [hw7]; exact only_putc G6.out (p := ⟨gi, 2, none⟩) (by rw [HGO.out]; exact HLO.out) _)
  rw [← hw7]
  clear hw7 p0 p1 x0 x1 f0 f1 f2 f3 f4 f5 q0 q1 q2 q3 q4 q5
  obtain ⟨f0, f1, f2, f3, f4, f5⟩ := in3f B7.out
  have hv : Am.insV ln k [a, b2] st = Am.putV ln (Am.pt k x n) nm st := by unfold Am.insV; rw [HINS.out a b2 x HXX.out, HYY.out]; rfl
  have HV := Lib.hid hv
  have HCPz := Lib.hid (HCP.out x n (Am.reg_le HXX.out) (Am.val_le HYY.out).1)
  have HPUz := Lib.hid (HPU.out x n nm)
  clear hv
  rw [rounds_succ]
  go_wp2_with (first
    | (go_at_call 72; (with_reducible refine (HCPz.out _ G7.out).mono ?_); rintro r w8 ⟨rfl, g8⟩; have G8 := Lib.hid (only_trans G7.out g8); clear g8)
    | (go_at_call 58; (with_reducible refine (HPUz.out _ G8.out).mono ?_); rintro r w9 hp; rcases Am.stP_cases hp with ⟨z0, rfl, F', r1, r2⟩ | ⟨z0, rfl, r1⟩ <;> clear hp))
  · go_end0
    rw [HV.out]
    exact Am.stP_yes z0 ⟨F', r1, (Am.Nx.of_grown G8.out F).trans r2⟩
  · rw [HV.out]
    exact ⟨rfl, Am.stP_no z0 ((Keeps.of_only G8.out (fun k hk => by cases hk)).trans r1)⟩
end Go.Proofs.YtgjpjmolfdiahaaDoor
