/- Package asm: instructions, by their contract. -/
import Derived.Test.YtgjpjmolfdiahaaDoorAX12
import Derived.Test.YtgjpjmolfdiahaaDoorAX13
import Derived.Test.YtgjpjmolfdiahaaDoorAX14
namespace Go.Proofs.YtgjpjmolfdiahaaDoor
open Go.RowKit Go.Lib
set_option linter.unusedVariables false
set_option maxRecDepth 20000 in
set_option maxHeartbeats 1600000 in
theorem Am.ins_j (b ln k : Nat) (st : Am.St) (F : Nat → Prop) (A : Option Addr) (cap : Nat) (l : List (List UInt8)) (w : World) (h : Am.Rd w b ln st F) (hW : Am.Wd w A l) (hN : Nm w) (hsz : ∀ x ∈ l, x.length ≤ 100000) (hp : st.pr.length ≤ 100000) (hw : st.ws.length ≤ 100000)
    (hk : k < 16) (hops : Am.ops k = [3]) (hmay : ∀ n : Nat, n ≤ 65535 → mayI k 0 n = true) (hins : ∀ b2, Am.ins k [b2] = (Am.val b2).map fun v => (Am.pt k 0 v.1, v.2)) (hin1 : l.length ≠ 1 → Am.ins k l = none) :
    Calls Tryd.prog 62 #[.pointer (some ⟨b, 0, none⟩), .int .u8 k, .slice A l.length cap] w (Am.stP w b ln F (Am.insV ln k l st)) := by
  have HO := Lib.hid (Am.operands1 (by omega) hops w)
  have HRD := Lib.hid h
  have hc0 : w.cell? ⟨b, 0, none⟩ = some (.int .i64 ln) := by obtain ⟨pv, lv, wv, m, hR, hF⟩ := h; exact hR.blk.cell 0
  have hbl : b < w.heap.size := by obtain ⟨pv, lv, wv, m, hR, hF⟩ := h; exact hR.blk.lt
  have HC0 := Lib.hid (fun (W : World) (q : w.grownBy W none) => (show W.cell? ⟨b, 0, none⟩ = some (.int .i64 ln) from by rw [Am.kc q hbl 0]; exact hc0))
  have HNM := Lib.hid (fun (W : World) (q : w.grownBy W none) => hN.grown q (by simp))
  by_cases hl : l.length = 1
  case neg =>
    have hv : Am.insV ln k l st = (3, st) := by unfold Am.insV; rw [hin1 hl]
    rw [hv, Am.stP_bad (by decide)]
    have HCN := Lib.hid (fun (W : World) (q : w.grownBy W none) => (show Calls Tryd.prog 57 #[.pointer (some ⟨b, 0, none⟩), .slice A l.length cap, .int .i64 1] W (fun r w' => r = .panicked (Am.chn ln 3) ∧ W = w') from Am.count_no b ln A l.length cap 1 hl W (HC0.out W q)))
    clear hv hl hin1 hins hmay hops hk hw hp hsz hN hW h hc0 hbl
    go_enter Tryd.func62, Tryd.ntmps62
    go_wp2_with (first
      | (go_at_call 41; (with_reducible refine HO.out.mono ?_); rintro r w2 ⟨rfl, g2, s2, o0⟩; have G2 := Lib.hid g2; clear g2)
      | (go_at_call 57; (with_reducible refine (HCN.out _ G2.out).mono ?_); rintro r w3 ⟨rfl, rfl⟩))
    exact ⟨rfl, rfl, Keeps.of_only G2.out (fun k hk => by cases hk)⟩
  obtain ⟨b2, rfl⟩ : ∃ b2, l = [b2] := by
    match l, hl with
    | [b2], _ => exact ⟨b2, rfl⟩
  obtain ⟨g, off, rfl, hg, hcs⟩ : ∃ g off, A = some ⟨g, off, none⟩ ∧ g < w.heap.size ∧ ∀ j (h : j < [b2].length), w.cell? ⟨g, off + j, none⟩ = some (.string ⟨([b2][j]).toArray⟩) := by
    rcases hW with e | e
    · cases e
    · exact e
  have hx0 : w.cell? ⟨g, off, none⟩ = some (.string ⟨b2.toArray⟩) := hcs 0 (by simp)
  have HX := Lib.hid (fun (W : World) (q : w.grownBy W none) => (show W.cell? ⟨g, off, none⟩ = some (.string ⟨b2.toArray⟩) from by rw [Am.kc q hg]; exact hx0))
  have HCN := Lib.hid (fun (W : World) => (show Calls Tryd.prog 57 #[.pointer (some ⟨b, 0, none⟩), .slice (some ⟨g, off, none⟩) 1 cap, .int .i64 1] W (fun r w' => r = .returned (.tuple #[]) ∧ W = w') from Am.count_yes b (some ⟨g, off, none⟩) 1 cap W))
  have hsb : (⟨b2.toArray⟩ : ByteArray).size ≤ 100000 := by have := hsz b2 (by simp); show b2.toArray.size ≤ 100000; simpa using this
  have HS := Lib.hid (fun (W : World) (q : w.grownBy W none) => (show Calls Tryd.prog 60 #[.pointer (some ⟨b, 0, none⟩), .string ⟨b2.toArray⟩] W (Am.valP (Am.val b2) ln W) from by have := Am.value_any b ln ⟨b2.toArray⟩ hsb W (HC0.out W q); simpa using this))
  have HPU := Lib.hid (fun (n : Nat) (nm : List UInt8) (W : World) (q : w.grownBy W none) => (show Calls Tryd.prog 58 #[.pointer (some ⟨b, 0, none⟩), .string (ptI k 0 n), .string ⟨nm.toArray⟩] W (Am.stP W b ln F (Am.putV ln (Am.pt k 0 n) nm st)) from by
    have := Am.put_any b ln st F (ptI k 0 n) ⟨nm.toArray⟩ W (HRD.out.grown q) (by show 0 < 4; omega) (by show 4 ≤ 4; omega) (fun _ => by show 2 ≤ 4; omega) hp hw
    rw [show (ptI k 0 n).data.toList = Am.pt k 0 n from Am.pt_of k 0 n] at this
    simpa using this))
  have HCP := Lib.hid (fun (n : Nat) (hn : n ≤ 65535) (W : World) (q : w.grownBy W none) => (show Calls Tryd.prog 72 #[.agg #[.int .u8 k, .int .i64 0, .int .i64 n]] W (fun e w' => e = .returned (.tuple #[.string (ptI k 0 n), .int .i64 0]) ∧ W.grownBy w' none) from put_yes k 0 n (by omega) W (HNM.out W q) (hmay n hn)))
  have HINS := Lib.hid hins
  clear hin1 hins hmay hops hk hw hp hsz hN hW h hc0 hbl hsb hx0 hcs hl
  show Calls Tryd.prog 62 #[.pointer (some ⟨b, 0, none⟩), .int .u8 k, .slice (some ⟨g, off, none⟩) 1 cap] w _
  go_enter Tryd.func62, Tryd.ntmps62
  go_upto_region 2 with (first
    | (go_at_call 41; (with_reducible refine HO.out.mono ?_); rintro r w2 ⟨rfl, g2, s2, o0⟩; have G2 := Lib.hid g2; have S2 := Lib.hid s2; have O2 := Lib.hid o0; clear g2 s2 o0)
    | (go_at_call 57; (with_reducible refine (HCN.out _).mono ?_); rintro r w3 ⟨rfl, rfl⟩))
  go_upto_region 3 with (fail)
  obtain ⟨w3, hw3⟩ : ∃ W, W = w2.alloc (.cells #[.int .u8 k, .int .i64 0, .int .i64 0] 42) := ⟨_, rfl⟩
  have B3 := Lib.hid (show Blk w3 w2.heap.size 42 #[.int .u8 k, .int .i64 0, .int .i64 0] from by rw [hw3]; exact Blk.new _ _ _)
  have hg3 : w2.grownBy w3 none := by rw [hw3]; exact only_alloc (only_refl _ _) _
  have G3 := Lib.hid (only_trans G2.out hg3)
  have HLO := Lib.hid (show w.heap.size ≤ w2.heap.size from G2.out.size)
  have HNE := Lib.hid (show w.heap.size ≠ w2.heap.size from by have := S2.out; omega)
  have O3 := Lib.hid (show w3.cell? ⟨w.heap.size, 0, none⟩ = some (.int .i64 3) from by rw [Am.kc hg3 S2.out]; exact O2.out)
  have S3 := Lib.hid (show w.heap.size < w3.heap.size from Nat.lt_of_lt_of_le S2.out hg3.size)
  rw [← hw3]
  clear hw3 hg3
  generalize w2.heap.size = gi at *
  generalize hgo : w.heap.size = go at *
  have HGO := Lib.hid hgo
  have p0 := O3.out
  have x0 := HX.out _ G3.out
  obtain ⟨f0, f1, f2, f3, f4, f5⟩ := in3f B3.out
  clear hgo
  go_upto_region 4 with (fail)
  refine wp_loop_rounds 2 ?_
  rw [rounds_succ]
  go_wp2_with (first
    | (go_at_call 60; (with_reducible refine (HS.out _ G3.out).mono ?_); rintro r w6 hp; rcases Am.valP_cases hp with ⟨n, nm, hx, rfl, g6⟩ | ⟨hx, rfl, g6⟩ <;> (have HYY := Lib.hid hx; have G6 := Lib.hid (only_trans G3.out g6); have B6 := Lib.hid (B3.out.only g6 (by simp)); obtain ⟨q0, q1, q2, q3, q4, q5⟩ := in3f B6.out; clear hp hx g6)))
  rotate_left
  · have hv : Am.insV ln k [b2] st = (3, st) := by unfold Am.insV; rw [HINS.out b2, HYY.out]; rfl
    rw [hv]
    exact ⟨rfl, Am.stP_no (show ((3 : Int), st).1 ≠ 0 from by show (3 : Int) ≠ 0; decide) (Keeps.of_only G6.out (fun k hk => by cases hk))⟩
  obtain ⟨w7, hw7⟩ : ∃ W, W = w6.setCell ⟨gi, 2, none⟩ (.int .i64 n) := ⟨_, rfl⟩
  have B7 := Lib.hid (show Blk w7 gi 42 #[.int .u8 k, .int .i64 0, .int .i64 n] from by rw [hw7]; exact B6.out.put 2 _)
  have G7 := Lib.hid (show w.grownBy w7 none from by rw [hw7]; exact only_putc G6.out (p := ⟨gi, 2, none⟩) (by rw [HGO.out]; exact HLO.out) _)
  rw [← hw7]
  clear hw7 p0 x0 f0 f1 f2 f3 f4 f5 q0 q1 q2 q3 q4 q5
  obtain ⟨f0, f1, f2, f3, f4, f5⟩ := in3f B7.out
  have hv : Am.insV ln k [b2] st = Am.putV ln (Am.pt k 0 n) nm st := by unfold Am.insV; rw [HINS.out b2, HYY.out]; rfl
  have HV := Lib.hid hv
  have HCPz := Lib.hid (HCP.out n (Am.val_le HYY.out).1)
  have HPUz := Lib.hid (HPU.out n nm)
  clear hv
  rw [rounds_succ]
  go_wp2_with (first
    | (go_at_call 72; (with_reducible refine (HCPz.out _ G7.out).mono ?_); rintro r w8 ⟨rfl, g8⟩; have G8 := Lib.hid (only_trans G7.out g8); clear g8)
    | (go_at_call 58; (with_reducible refine (HPUz.out _ G8.out).mono ?_); rintro r w9 hp; rcases Am.stP_cases hp with ⟨z0, rfl, F', r1, r2⟩ | ⟨z0, rfl, r1⟩ <;> clear hp))
  · go_end0
    rw [HV.out]
    exact Am.stP_yes z0 ⟨F', r1, (Am.Nx.of_grown G8.out F).trans r2⟩
  · rw [HV.out]
    exact ⟨rfl, Am.stP_no z0 ((Keeps.of_only G8.out (fun k hk => by cases hk)).trans r1)⟩
set_option maxRecDepth 20000 in
set_option maxHeartbeats 1600000 in
theorem Am.ins_s (b ln k : Nat) (st : Am.St) (F : Nat → Prop) (A : Option Addr) (cap : Nat) (l : List (List UInt8)) (w : World) (h : Am.Rd w b ln st F) (hW : Am.Wd w A l) (hN : Nm w) (hsz : ∀ x ∈ l, x.length ≤ 100000) (hp : st.pr.length ≤ 100000) (hw : st.ws.length ≤ 100000)
    (hk : k < 16) (hops : Am.ops k = []) (hmay : mayI k 0 0 = true) (hins : Am.ins k [] = some (Am.pt k 0 0, [])) (hin1 : l.length ≠ 0 → Am.ins k l = none) :
    Calls Tryd.prog 62 #[.pointer (some ⟨b, 0, none⟩), .int .u8 k, .slice A l.length cap] w (Am.stP w b ln F (Am.insV ln k l st)) := by
  have HO := Lib.hid (Am.operands0 (by omega) hops w)
  have HRD := Lib.hid h
  have hc0 : w.cell? ⟨b, 0, none⟩ = some (.int .i64 ln) := by obtain ⟨pv, lv, wv, m, hR, hF⟩ := h; exact hR.blk.cell 0
  have hbl : b < w.heap.size := by obtain ⟨pv, lv, wv, m, hR, hF⟩ := h; exact hR.blk.lt
  have HC0 := Lib.hid (fun (W : World) (q : w.grownBy W none) => (show W.cell? ⟨b, 0, none⟩ = some (.int .i64 ln) from by rw [Am.kc q hbl 0]; exact hc0))
  have HNM := Lib.hid (fun (W : World) (q : w.grownBy W none) => hN.grown q (by simp))
  by_cases hl : l.length = 0
  case neg =>
    have hv : Am.insV ln k l st = (3, st) := by unfold Am.insV; rw [hin1 hl]
    rw [hv, Am.stP_bad (by decide)]
    have HCN := Lib.hid (fun (W : World) (q : w.grownBy W none) => (show Calls Tryd.prog 57 #[.pointer (some ⟨b, 0, none⟩), .slice A l.length cap, .int .i64 0] W (fun r w' => r = .panicked (Am.chn ln 3) ∧ W = w') from Am.count_no b ln A l.length cap 0 hl W (HC0.out W q)))
    clear hv hl hin1 hins hmay hops hk hw hp hsz hN hW h hc0 hbl
    go_enter Tryd.func62, Tryd.ntmps62
    go_wp2_with (first
      | (go_at_call 41; (with_reducible refine HO.out.mono ?_); rintro r w2 ⟨rfl, g2⟩; have G2 := Lib.hid g2; clear g2)
      | (go_at_call 57; (with_reducible refine (HCN.out _ G2.out).mono ?_); rintro r w3 ⟨rfl, rfl⟩))
    exact ⟨rfl, rfl, Keeps.of_only G2.out (fun k hk => by cases hk)⟩
  obtain rfl : l = [] := List.eq_nil_of_length_eq_zero hl
  have HCN := Lib.hid (fun (W : World) => (show Calls Tryd.prog 57 #[.pointer (some ⟨b, 0, none⟩), .slice A 0 cap, .int .i64 0] W (fun r w' => r = .returned (.tuple #[]) ∧ W = w') from Am.count_yes b A 0 cap W))
  have HPU := Lib.hid (fun (W : World) (q : w.grownBy W none) => (show Calls Tryd.prog 58 #[.pointer (some ⟨b, 0, none⟩), .string (ptI k 0 0), .string ⟨#[]⟩] W (Am.stP W b ln F (Am.putV ln (Am.pt k 0 0) [] st)) from by
    have := Am.put_any b ln st F (ptI k 0 0) ⟨#[]⟩ W (HRD.out.grown q) (by show 0 < 4; omega) (by show 4 ≤ 4; omega) (fun _ => by show 2 ≤ 4; omega) hp hw
    rw [show (ptI k 0 0).data.toList = Am.pt k 0 0 from Am.pt_of k 0 0] at this
    exact this))
  have HCP := Lib.hid (fun (W : World) (q : w.grownBy W none) => (show Calls Tryd.prog 72 #[.agg #[.int .u8 k, .int .i64 0, .int .i64 0]] W (fun e w' => e = .returned (.tuple #[.string (ptI k 0 0), .int .i64 0]) ∧ W.grownBy w' none) from put_yes k 0 0 (by omega) W (HNM.out W q) hmay))
  have HV := Lib.hid (show Am.insV ln k [] st = Am.putV ln (Am.pt k 0 0) [] st from by unfold Am.insV; rw [hins])
  clear hin1 hins hmay hops hk hw hp hsz hN hW h hc0 hbl hl
  show Calls Tryd.prog 62 #[.pointer (some ⟨b, 0, none⟩), .int .u8 k, .slice A 0 cap] w _
  go_enter Tryd.func62, Tryd.ntmps62
  go_upto_region 2 with (first
    | (go_at_call 41; (with_reducible refine HO.out.mono ?_); rintro r w2 ⟨rfl, g2⟩; have G2 := Lib.hid g2; clear g2)
    | (go_at_call 57; (with_reducible refine (HCN.out _).mono ?_); rintro r w3 ⟨rfl, rfl⟩))
  go_upto_region 3 with (fail)
  obtain ⟨w3, hw3⟩ : ∃ W, W = w2.alloc (.cells #[.int .u8 k, .int .i64 0, .int .i64 0] 42) := ⟨_, rfl⟩
  have B3 := Lib.hid (show Blk w3 w2.heap.size 42 #[.int .u8 k, .int .i64 0, .int .i64 0] from by rw [hw3]; exact Blk.new _ _ _)
  have G3 := Lib.hid (only_trans G2.out (show w2.grownBy w3 none from by rw [hw3]; exact only_alloc (only_refl _ _) _))
  rw [← hw3]
  clear hw3
  generalize w2.heap.size = gi at *
  obtain ⟨f0, f1, f2, f3, f4, f5⟩ := in3f B3.out
  go_upto_region 4 with (fail)
  refine wp_loop_rounds 1 ?_
  rw [rounds_succ]
  go_wp2_with (first
    | (go_at_call 72; (with_reducible refine (HCP.out _ G3.out).mono ?_); rintro r w8 ⟨rfl, g8⟩; have G8 := Lib.hid (only_trans G3.out g8); clear g8)
    | (go_at_call 58; (with_reducible refine (HPU.out _ G8.out).mono ?_); rintro r w9 hp; rcases Am.stP_cases hp with ⟨z0, rfl, F', r1, r2⟩ | ⟨z0, rfl, r1⟩ <;> clear hp))
  · go_end0
    rw [HV.out]
    exact Am.stP_yes z0 ⟨F', r1, (Am.Nx.of_grown G8.out F).trans r2⟩
  · rw [HV.out]
    exact ⟨rfl, Am.stP_no z0 ((Keeps.of_only G8.out (fun k hk => by cases hk)).trans r1)⟩
theorem Am.may_all : ∀ k : Nat, k < 16 → (k = 0 ∨ k = 15) ∨ k = 11 ∨ k = 14 ∨ (rgB k = true ∧ k ≠ 0 ∧ k ≠ 15 ∧ k ≠ 11 ∧ k ≠ 14) ∨ (rgB k = false ∧ k ≠ 0 ∧ k ≠ 15 ∧ k ≠ 11 ∧ k ≠ 14) := by
  intro k hk
  cases h : rgB k <;> simp <;> omega
/-- An instruction's words, whatever they are. -/
theorem Am.instr_any (b ln k : Nat) (st : Am.St) (F : Nat → Prop) (A : Option Addr) (cap : Nat) (l : List (List UInt8)) (w : World) (h : Am.Rd w b ln st F) (hW : Am.Wd w A l) (hN : Nm w) (hsz : ∀ x ∈ l, x.length ≤ 100000) (hp : st.pr.length ≤ 100000) (hw : st.ws.length ≤ 100000) (hk : k < 16) :
    Calls Tryd.prog 62 #[.pointer (some ⟨b, 0, none⟩), .int .u8 k, .slice A l.length cap] w (Am.stP w b ln F (Am.insV ln k l st)) := by
  rcases Am.may_all k hk with h0 | h0 | h0 | ⟨h0, h1⟩ | ⟨h0, h1⟩
  · refine Am.ins_s b ln k st F A cap l w h hW hN hsz hp hw hk (by unfold Am.ops; rw [if_pos h0]) ?_ (by unfold Am.ins; rw [if_pos h0, if_pos rfl]) (fun hl => by unfold Am.ins; rw [if_pos h0, if_neg (fun e => hl (by rw [e]; rfl))])
    rw [mayI_iff]
    unfold mxX mxN
    rcases h0 with rfl | rfl <;> decide
  · subst h0
    refine Am.ins_j b ln 11 st F A cap l w h hW hN hsz hp hw hk (by decide) (fun n hn => ?_) (fun b2 => by unfold Am.ins; simp) (fun hl => by unfold Am.ins; simp [hl])
    rw [mayI_iff]
    unfold mxX mxN
    simp [rgB]
    omega
  · subst h0
    refine Am.ins_n b ln 14 st F A cap l w h hW hN hsz hp hw hk (by decide) (fun x n hx hn => ?_) (fun a b2 x e => by unfold Am.ins; simp [e]) (fun a b2 e => by unfold Am.ins; simp [e]) (fun hl => by unfold Am.ins; simp [hl])
    rw [mayI_iff]
    unfold mxX mxN
    simp [rgB]
    omega
  · refine Am.ins_r b ln k st F A cap l w h hW hN hsz hp hw hk (by unfold Am.ops; rw [if_neg (by omega), if_neg h1.2.2.1, if_neg h1.2.2.2, if_pos h0]) (fun x n hx hn => ?_) (fun a b2 x e => by unfold Am.ins; simp [e, h0, h1]) (fun a b2 e => by unfold Am.ins; simp [e, h1]) (fun hl => by unfold Am.ins; simp [hl, h1])
    rw [mayI_iff]
    unfold mxX mxN
    simp [h0, h1]
    omega
  · refine Am.ins_v b ln k st F A cap l w h hW hN hsz hp hw hk (by unfold Am.ops; rw [if_neg (by omega), if_neg h1.2.2.1, if_neg h1.2.2.2, if_neg (by rw [h0]; decide)]) (fun x n hx hn => ?_) (fun a b2 x e => by unfold Am.ins; simp [e, h0, h1]) (fun a b2 e => by unfold Am.ins; simp [e, h1]) (fun hl => by unfold Am.ins; simp [hl, h1])
    rw [mayI_iff]
    unfold mxX mxN
    simp [h0, h1]
    omega
end Go.Proofs.YtgjpjmolfdiahaaDoor
