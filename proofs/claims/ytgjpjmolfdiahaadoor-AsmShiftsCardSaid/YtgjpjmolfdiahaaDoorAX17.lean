/- Package asm: a line's words, whatever they are, by their contract. -/
import Derived.Test.YtgjpjmolfdiahaaDoorAX16
namespace Go.Proofs.YtgjpjmolfdiahaaDoor
open Go.RowKit Go.Lib
set_option linter.unusedVariables false
theorem Am.put_of (n : Nat) : (Bt.put (n : Int)).data.toList = [UInt8.ofNat (n % 256), UInt8.ofNat (n / 256 % 256)] := by
  unfold Bt.put
  rw [show ((n : Int) % 256).toNat = n % 256 from by omega, show ((n : Int) / 256 % 256).toNat = n / 256 % 256 from by omega]
set_option maxRecDepth 20000 in
set_option maxHeartbeats 1600000 in
theorem Am.sentence_two (b ln : Nat) (st : Am.St) (F : Nat → Prop) (A : Option Addr) (cap : Nat) (l : List (List UInt8)) (w : World) (h : Am.Rd w b ln st F) (hW : Am.Wd w A l) (hsz : ∀ x ∈ l, x.length ≤ 100000) (hp : st.pr.length ≤ 100000) (hw : st.ws.length ≤ 100000) :
    Calls Tryd.prog 46 #[.pointer (some ⟨b, 0, none⟩), .string ⟨#[116, 119, 111]⟩, .slice A l.length cap] w (Am.stP w b ln F (Am.senV ln [116, 119, 111] l st)) := by
  have hc0 : w.cell? ⟨b, 0, none⟩ = some (.int .i64 ln) := by obtain ⟨pv, lv, wv, m, hR, hF⟩ := h; exact hR.blk.cell 0
  have hv0 : Am.senV ln [116, 119, 111] l st = Am.one ln (Am.lnO (if l.length = 1 then (Am.val (l.getD 0 [])).map fun q => ([UInt8.ofNat (q.1 % 256), UInt8.ofNat (q.1 / 256 % 256)], q.2) else none)) st := by unfold Am.senV Am.sen; rw [if_neg (by decide), if_pos rfl]
  by_cases hl : l.length = 1
  case neg =>
    have hv : Am.senV ln [116, 119, 111] l st = (3, st) := by rw [hv0, if_neg hl]; exact Am.one_none ln st
    rw [hv, Am.stP_bad (by decide)]
    have HCN := Lib.hid (show Calls Tryd.prog 57 #[.pointer (some ⟨b, 0, none⟩), .slice A l.length cap, .int .i64 1] w (fun r w' => r = .panicked (Am.chn ln 3) ∧ w = w') from Am.count_no b ln A l.length cap 1 hl w hc0)
    clear hv hv0 hl hw hp hsz hW h hc0
    go_enter Tryd.func46, Tryd.ntmps46
    go_wp2_with (first
      | (go_at_call 57; (with_reducible refine HCN.out.mono ?_); rintro r w3 ⟨rfl, rfl⟩))
    exact ⟨rfl, rfl, Keeps.refl _ _⟩
  obtain ⟨a, rfl⟩ : ∃ a, l = [a] := by
    match l, hl with
    | [a], _ => exact ⟨a, rfl⟩
  obtain ⟨g, off, rfl, hg, hcs⟩ : ∃ g off, A = some ⟨g, off, none⟩ ∧ g < w.heap.size ∧ ∀ j (h : j < [a].length), w.cell? ⟨g, off + j, none⟩ = some (.string ⟨([a][j]).toArray⟩) := by
    rcases hW with e | e
    · cases e
    · exact e
  have x0 : w.cell? ⟨g, off, none⟩ = some (.string ⟨a.toArray⟩) := hcs 0 (by simp)
  have HCN := Lib.hid (show Calls Tryd.prog 57 #[.pointer (some ⟨b, 0, none⟩), .slice (some ⟨g, off, none⟩) 1 cap, .int .i64 1] w (fun r w' => r = .returned (.tuple #[]) ∧ w = w') from Am.count_yes b (some ⟨g, off, none⟩) 1 cap w)
  have hsa : (⟨a.toArray⟩ : ByteArray).size ≤ 100000 := by have := hsz a (by simp); show a.toArray.size ≤ 100000; simpa using this
  have HN := Lib.hid (show Calls Tryd.prog 60 #[.pointer (some ⟨b, 0, none⟩), .string ⟨a.toArray⟩] w (Am.valP (Am.val a) ln w) from by have := Am.value_any b ln ⟨a.toArray⟩ hsa w hc0; simpa using this)
  have HPU := Lib.hid (fun (n : Nat) (nm : List UInt8) (W : World) (q : w.grownBy W none) => (show Calls Tryd.prog 58 #[.pointer (some ⟨b, 0, none⟩), .string (Bt.put n), .string ⟨nm.toArray⟩] W (Am.stP W b ln F (Am.putV ln [UInt8.ofNat (n % 256), UInt8.ofNat (n / 256 % 256)] nm st)) from by
    have := Am.put_any b ln st F (Bt.put n) ⟨nm.toArray⟩ W (h.grown q) (by show 0 < 2; omega) (by show 2 ≤ 4; omega) (fun _ => by show 2 ≤ 2; omega) hp hw
    rw [Am.put_of] at this
    simpa using this))
  have HV0 := Lib.hid (show Am.val a = none → Am.senV ln [116, 119, 111] [a] st = (3, st) from fun e => by rw [hv0, if_pos (show [a].length = 1 from rfl)]; show Am.one ln (Am.lnO ((Am.val a).map _)) st = _; rw [e]; exact Am.one_none ln st)
  have HV1 := Lib.hid (show ∀ n nm, Am.val a = some (n, nm) → Am.senV ln [116, 119, 111] [a] st = Am.putV ln [UInt8.ofNat (n % 256), UInt8.ofNat (n / 256 % 256)] nm st from fun n nm e => by rw [hv0, if_pos (show [a].length = 1 from rfl)]; show Am.one ln (Am.lnO ((Am.val a).map _)) st = _; rw [e]; exact Am.one_some ln _ _ st)
  clear hv0 hl hw hp hsz hW h hc0 hsa hcs
  show Calls Tryd.prog 46 #[.pointer (some ⟨b, 0, none⟩), .string ⟨#[116, 119, 111]⟩, .slice (some ⟨g, off, none⟩) 1 cap] w _
  cases e : Am.val a with
  | none =>
    rw [e] at HN
    rw [HV0.out e]
    clear e HV0 HV1
    unfold Am.valP at HN
    rw [Am.stP_bad (by decide)]
    go_enter Tryd.func46, Tryd.ntmps46
    go_wp2_with (first
      | (go_at_call 57; (with_reducible refine HCN.out.mono ?_); rintro r w3 ⟨rfl, rfl⟩)
      | (go_at_call 60; (with_reducible refine HN.out.mono ?_); rintro r w4 ⟨rfl, g4⟩))
    exact ⟨rfl, rfl, Keeps.of_only g4 (fun k hk => by cases hk)⟩
  | some q =>
    obtain ⟨n, nm⟩ := q
    have HBP := Lib.hid (fun W : World => Go.Proofs.YtgjpjmolfdiahaaDoor.put_any (n : Int) W)
    rw [e] at HN
    have HV := Lib.hid (HV1.out n nm e)
    have HPUz := Lib.hid (HPU.out n nm)
    clear e HV0 HV1 HPU
    unfold Am.valP at HN
    go_enter Tryd.func46, Tryd.ntmps46
    go_wp2_with (first
      | (go_at_call 57; (with_reducible refine HCN.out.mono ?_); rintro r w3 ⟨rfl, rfl⟩)
      | (go_at_call 60; (with_reducible refine HN.out.mono ?_); rintro r w4 ⟨rfl, g4⟩; have G4 := Lib.hid g4; clear g4)
      | (go_at_call 48; (with_reducible refine (HBP.out _).mono ?_); rintro r w5 ⟨rfl, rfl⟩)
      | (go_at_call 58; (with_reducible refine (HPUz.out _ (only_alloc G4.out _)).mono ?_); rintro r w9 hp; rcases Am.stP_cases hp with ⟨z0, rfl, F', r1, r2⟩ | ⟨z0, rfl, r1⟩ <;> clear hp))
    · go_end0
      rw [HV.out]
      exact Am.stP_yes z0 ⟨F', r1, (Am.Nx.of_grown (only_alloc G4.out _) F).trans r2⟩
    · rw [HV.out]
      exact ⟨rfl, Am.stP_no z0 ((Keeps.of_only (only_alloc G4.out _) (fun k hk => by cases hk)).trans r1)⟩
set_option maxRecDepth 20000 in
set_option maxHeartbeats 1600000 in
theorem Am.sentence_other (b ln : Nat) (st : Am.St) (F : Nat → Prop) (A : Option Addr) (cap : Nat) (v : List UInt8) (l : List (List UInt8)) (w : World) (h : Am.Rd w b ln st F) (hW : Am.Wd w A l) (hN : Nm w) (hsz : ∀ x ∈ l, x.length ≤ 100000) (hp : st.pr.length ≤ 100000) (hw : st.ws.length ≤ 100000) (h1 : v ≠ [98, 121, 116, 101]) (h2 : v ≠ [116, 119, 111]) :
    Calls Tryd.prog 46 #[.pointer (some ⟨b, 0, none⟩), .string ⟨v.toArray⟩, .slice A l.length cap] w (Am.stP w b ln F (Am.senV ln v l st)) := by
  have hc0 : w.cell? ⟨b, 0, none⟩ = some (.int .i64 ln) := by obtain ⟨pv, lv, wv, m, hR, hF⟩ := h; exact hR.blk.cell 0
  have n1 : ((⟨v.toArray⟩ : ByteArray).toList == [98, 121, 116, 101]) = false := by
    have := str_ne19 (a := ⟨v.toArray⟩) (b := ⟨#[98, 121, 116, 101]⟩) (fun e => h1 (by have := Am.ba_eq.1 e; simpa using this))
    rwa [show (⟨#[98, 121, 116, 101]⟩ : ByteArray).toList = [98, 121, 116, 101] from by rw [ByteArray.toList_eq]] at this
  have n2 : ((⟨v.toArray⟩ : ByteArray).toList == [116, 119, 111]) = false := by
    have := str_ne19 (a := ⟨v.toArray⟩) (b := ⟨#[116, 119, 111]⟩) (fun e => h2 (by have := Am.ba_eq.1 e; simpa using this))
    rwa [show (⟨#[116, 119, 111]⟩ : ByteArray).toList = [116, 119, 111] from by rw [ByteArray.toList_eq]] at this
  have HND := Lib.hid (named_any ⟨v.toArray⟩ w hN)
  have HG := Lib.hid (Am.giveup_any b ln 3 w hc0)
  have hv0 : Am.senV ln v l st = Am.one ln (if (ndV ⟨v.toArray⟩).2 = true then Am.lnO (Am.ins (ndV ⟨v.toArray⟩).1.toNat l) else ⟨3, [], []⟩) st := by unfold Am.senV Am.sen; rw [if_neg h1, if_neg h2]
  by_cases hx : ∃ k, k < 16 ∧ nmL k = ⟨v.toArray⟩
  · obtain ⟨k, hk, hn⟩ := hx
    have hnd := ndV_at hk hn
    have HI := Lib.hid (show Calls Tryd.prog 62 #[.pointer (some ⟨b, 0, none⟩), .int .u8 (k : Int), .slice A l.length cap] w (Am.stP w b ln F (Am.insV ln k l st)) from Am.instr_any b ln k st F A cap l w h hW hN hsz hp hw hk)
    have HV := Lib.hid (show Am.senV ln v l st = Am.insV ln k l st from by rw [hv0, hnd, if_pos rfl, Int.toNat_natCast]; exact Am.one_ins ln k l st)
    rw [hnd] at HND
    clear hv0 h1 h2 hw hp hsz hW h hc0 hnd hn hk hN
    generalize (⟨v.toArray⟩ : ByteArray) = s at *
    go_enter Tryd.func46, Tryd.ntmps46
    go_wp2_with (first
      | (go_at_call 61; (with_reducible refine HND.out.mono ?_); rintro r w3 ⟨rfl, rfl⟩)
      | (go_at_call 62; (with_reducible refine HI.out.mono ?_); rintro r w9 hp; rcases Am.stP_cases hp with ⟨z0, rfl, hh⟩ | ⟨z0, rfl, r1⟩ <;> clear hp))
    · go_end0
      rw [HV.out]
      exact Am.stP_yes z0 hh
    · rw [HV.out]
      exact ⟨rfl, Am.stP_no z0 r1⟩
  · have hnd := ndV_none (t := ⟨v.toArray⟩) (fun k hk e => hx ⟨k, hk, e⟩)
    have HV := Lib.hid (show Am.senV ln v l st = (3, st) from by rw [hv0, hnd, if_neg (by decide)]; exact Am.one_none ln st)
    rw [hnd] at HND
    rw [HV.out, Am.stP_bad (by decide)]
    clear hv0 h1 h2 hw hp hsz hW h hc0 hnd hx hN HV
    generalize (⟨v.toArray⟩ : ByteArray) = s at *
    go_enter Tryd.func46, Tryd.ntmps46
    go_wp2_with (first
      | (go_at_call 61; (with_reducible refine HND.out.mono ?_); rintro r w3 ⟨rfl, rfl⟩)
      | (go_at_call 47; (with_reducible refine HG.out.mono ?_); rintro r w3 ⟨rfl, rfl⟩))
    exact ⟨rfl, rfl, Keeps.refl _ _⟩
/-- A line's words. -/
theorem Am.sentence_any (b ln : Nat) (st : Am.St) (F : Nat → Prop) (A : Option Addr) (cap : Nat) (v : List UInt8) (l : List (List UInt8)) (w : World) (h : Am.Rd w b ln st F) (hW : Am.Wd w A l) (hN : Nm w) (hsz : ∀ x ∈ l, x.length ≤ 100000) (hp : st.pr.length ≤ 100000) (hw : st.ws.length ≤ 100000) :
    Calls Tryd.prog 46 #[.pointer (some ⟨b, 0, none⟩), .string ⟨v.toArray⟩, .slice A l.length cap] w (Am.stP w b ln F (Am.senV ln v l st)) := by
  by_cases h1 : v = [98, 121, 116, 101]
  · subst h1
    exact Am.sentence_byte b ln st F A cap l w h hW hsz hp hw
  · by_cases h2 : v = [116, 119, 111]
    · subst h2
      exact Am.sentence_two b ln st F A cap l w h hW hsz hp hw
    · exact Am.sentence_other b ln st F A cap v l w h hW hN hsz hp hw h1 h2
end Go.Proofs.YtgjpjmolfdiahaaDoor
