/- Package asm: a line's words, by their contract. -/
import Derived.Test.YtgjpjmolfdiahaaDoorAX15
namespace Go.Proofs.YtgjpjmolfdiahaaDoor
open Go.RowKit Go.Lib
set_option linter.unusedVariables false

theorem Am.one_some (ln : Nat) (bs nm : List UInt8) (st : Am.St) : Am.one ln (Am.lnO (some (bs, nm))) st = Am.putV ln bs nm st := by
  unfold Am.one Am.lnO Am.putV
  simp
theorem Am.one_none (ln : Nat) (st : Am.St) : Am.one ln (Am.lnO none) st = (3, st) := by
  unfold Am.one Am.lnO
  simp
theorem Am.one_ins (ln k : Nat) (l : List (List UInt8)) (st : Am.St) : Am.one ln (Am.lnO (Am.ins k l)) st = Am.insV ln k l st := by
  unfold Am.insV
  cases Am.ins k l with
  | none => exact Am.one_none ln st
  | some v => exact Am.one_some ln v.1 v.2 st
/-- What a line's words make of what was read. -/
def Am.senV (ln : Nat) (v : List UInt8) (l : List (List UInt8)) (st : Am.St) : Int × Am.St := Am.one ln (Am.sen v l) st
theorem Am.ba_eq {s t : ByteArray} : s = t ↔ s.data.toList = t.data.toList := by
  constructor
  · rintro rfl; rfl
  · intro h
    obtain ⟨⟨a⟩⟩ := s
    obtain ⟨⟨b⟩⟩ := t
    simp at h
    rw [h]
theorem Am.run_one (n : Nat) (W : World) : (convert 50 9 (.slice (some ⟨W.heap.size, 0, none⟩) 1 1)).run Tryd.prog (W.alloc (.cells #[.int .u8 n] 5)) = .ok (.string ⟨#[UInt8.ofNat n]⟩) (W.alloc (.cells #[.int .u8 n] 5)) := by
  have h := run_convert_bytes_arg (P := Tryd.prog) (W.alloc (.cells #[.int .u8 (n : Int)] 5)) 50 5 Tryd.underlying50 Tryd.underlying5 W.heap.size 0 1 1 [(n : Int)] rfl (by
    intro i hi
    match i, hi with
    | 0, _ => simp) 9 Tryd.underlying9
  rw [h]
  congr 2
set_option maxRecDepth 20000 in
set_option maxHeartbeats 1600000 in
theorem Am.sentence_byte (b ln : Nat) (st : Am.St) (F : Nat → Prop) (A : Option Addr) (cap : Nat) (l : List (List UInt8)) (w : World) (h : Am.Rd w b ln st F) (hW : Am.Wd w A l) (hsz : ∀ x ∈ l, x.length ≤ 100000) (hp : st.pr.length ≤ 100000) (hw : st.ws.length ≤ 100000) :
    Calls Tryd.prog 46 #[.pointer (some ⟨b, 0, none⟩), .string ⟨#[98, 121, 116, 101]⟩, .slice A l.length cap] w (Am.stP w b ln F (Am.senV ln [98, 121, 116, 101] l st)) := by
  have hc0 : w.cell? ⟨b, 0, none⟩ = some (.int .i64 ln) := by obtain ⟨pv, lv, wv, m, hR, hF⟩ := h; exact hR.blk.cell 0
  have hv0 : Am.senV ln [98, 121, 116, 101] l st = Am.one ln (Am.lnO (if l.length = 1 then (Am.num (l.getD 0 []) 255).map fun n => ([UInt8.ofNat n], []) else none)) st := by unfold Am.senV Am.sen; rw [if_pos rfl]
  by_cases hl : l.length = 1
  case neg =>
    have hv : Am.senV ln [98, 121, 116, 101] l st = (3, st) := by rw [hv0, if_neg hl]; exact Am.one_none ln st
    rw [hv, Am.stP_bad (by decide)]
    have HCN := Lib.hid (show Calls Tryd.prog 57 #[.pointer (some ⟨b, 0, none⟩), .slice A l.length cap, .int .i64 1] w (fun r w' => r = .panicked (Am.chn ln 3) ∧ w = w') from Am.count_no b ln A l.length cap 1 hl w hc0)
    clear hv hv0 hl hw hp hsz hW h hc0
    go_enter Tryd.func46, Tryd.ntmps46
    go_wp2_with (first
      | (go_at_call 57; (with_reducible refine HCN.out.mono ?_); rintro r w3 ⟨rfl, rfl⟩))
    exact ⟨rfl, rfl, Keeps.refl _ _⟩
  obtain ⟨a, rfl⟩ : ∃ a, l = [a] := by
    match l, hl with
    | [a], _ => exact ⟨a, rfl⟩
  obtain ⟨g, off, rfl, hg, hcs⟩ : ∃ g off, A = some ⟨g, off, none⟩ ∧ g < w.heap.size ∧ ∀ j (h : j < [a].length), w.cell? ⟨g, off + j, none⟩ = some (.string ⟨([a][j]).toArray⟩) := by
    rcases hW with e | e
    · cases e
    · exact e
  have x0 : w.cell? ⟨g, off, none⟩ = some (.string ⟨a.toArray⟩) := hcs 0 (by simp)
  have HCN := Lib.hid (show Calls Tryd.prog 57 #[.pointer (some ⟨b, 0, none⟩), .slice (some ⟨g, off, none⟩) 1 cap, .int .i64 1] w (fun r w' => r = .returned (.tuple #[]) ∧ w = w') from Am.count_yes b (some ⟨g, off, none⟩) 1 cap w)
  have hsa : (⟨a.toArray⟩ : ByteArray).size ≤ 100000 := by have := hsz a (by simp); show a.toArray.size ≤ 100000; simpa using this
  have HN := Lib.hid (show Calls Tryd.prog 59 #[.pointer (some ⟨b, 0, none⟩), .string ⟨a.toArray⟩, .int .i64 255] w (Am.numP (Am.num a 255) ln w) from by have := Am.number_any b ln ⟨a.toArray⟩ hsa 255 (by omega) w hc0; simpa using this)
  have HPU := Lib.hid (fun (n : Nat) (W : World) (q : w.grownBy W none) => (show Calls Tryd.prog 58 #[.pointer (some ⟨b, 0, none⟩), .string ⟨#[UInt8.ofNat n]⟩, .string ⟨#[]⟩] W (Am.stP W b ln F (Am.putV ln [UInt8.ofNat n] [] st)) from by
    have := Am.put_any b ln st F ⟨#[UInt8.ofNat n]⟩ ⟨#[]⟩ W (h.grown q) (by show 0 < 1; omega) (by show 1 ≤ 4; omega) (fun e => absurd rfl e) hp hw
    exact this))
  have HV0 := Lib.hid (show Am.num a 255 = none → Am.senV ln [98, 121, 116, 101] [a] st = (3, st) from fun e => by rw [hv0, if_pos (show [a].length = 1 from rfl)]; show Am.one ln (Am.lnO ((Am.num a 255).map _)) st = _; rw [e]; exact Am.one_none ln st)
  have HV1 := Lib.hid (show ∀ n, Am.num a 255 = some n → Am.senV ln [98, 121, 116, 101] [a] st = Am.putV ln [UInt8.ofNat n] [] st from fun n e => by rw [hv0, if_pos (show [a].length = 1 from rfl)]; show Am.one ln (Am.lnO ((Am.num a 255).map _)) st = _; rw [e]; exact Am.one_some ln _ _ st)
  clear hv0 hl hw hp hsz hW h hc0 hsa hcs
  show Calls Tryd.prog 46 #[.pointer (some ⟨b, 0, none⟩), .string ⟨#[98, 121, 116, 101]⟩, .slice (some ⟨g, off, none⟩) 1 cap] w _
  cases e : Am.num a 255 with
  | none =>
    rw [e] at HN
    rw [HV0.out e]
    clear e HV0 HV1
    unfold Am.numP at HN
    rw [Am.stP_bad (by decide)]
    go_enter Tryd.func46, Tryd.ntmps46
    go_wp2_with (first
      | (go_at_call 57; (with_reducible refine HCN.out.mono ?_); rintro r w3 ⟨rfl, rfl⟩)
      | (go_at_call 59; (with_reducible refine HN.out.mono ?_); rintro r w4 ⟨rfl, g4⟩))
    exact ⟨rfl, rfl, Keeps.of_only g4 (fun k hk => by cases hk)⟩
  | some n =>
    have hn := Am.num_le e
    have u1 : IntKind.u8.wrap (n : Int) = (n : Int) := by rw [IntKind.wrap_u8]; omega
    have hone := fun W : World => Am.run_one n W
    rw [e] at HN
    have HV := Lib.hid (HV1.out n e)
    have HPUz := Lib.hid (HPU.out n)
    clear e HV0 HV1 HPU
    unfold Am.numP at HN
    go_enter Tryd.func46, Tryd.ntmps46
    go_wp2_with (first
      | (go_at_call 57; (with_reducible refine HCN.out.mono ?_); rintro r w3 ⟨rfl, rfl⟩)
      | (go_at_call 59; (with_reducible refine HN.out.mono ?_); rintro r w4 ⟨rfl, g4⟩; have G4 := Lib.hid g4; clear g4)
      | (go_at_call 58; (with_reducible refine (HPUz.out _ (only_alloc G4.out _)).mono ?_); rintro r w9 hp; rcases Am.stP_cases hp with ⟨z0, rfl, F', r1, r2⟩ | ⟨z0, rfl, r1⟩ <;> clear hp))
    · go_end0
      rw [HV.out]
      exact Am.stP_yes z0 ⟨F', r1, (Am.Nx.of_grown (only_alloc G4.out _) F).trans r2⟩
    · rw [HV.out]
      exact ⟨rfl, Am.stP_no z0 ((Keeps.of_only (only_alloc G4.out _) (fun k hk => by cases hk)).trans r1)⟩
end Go.Proofs.YtgjpjmolfdiahaaDoor
