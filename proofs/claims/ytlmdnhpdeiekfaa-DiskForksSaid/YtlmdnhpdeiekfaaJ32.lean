/- The law's told: all sectors tell what the document's bytes do. -/
import Derived.Test.YtlmdnhpdeiekfaaJ31
namespace Go.Proofs.Ytlmdnhpdeiekfaa
open Go.RowKit Go.Lib
set_option linter.unusedVariables false

section
variable {w w1 w' : World} {d : Nat → Prt} {n b x : Nat} {A : Option Addr} {c B : Nat} {S : Nat → UInt8} {bz : Bool} {jd jr : Jb} {sd sr : Int} {bv v : Value} {E : Nat → Value} {m : Nat} {rc : Nat → Rec}
set_option maxRecDepth 20000 in
set_option maxHeartbeats 6400000 in
theorem told14_any (h : Tw w d n b x A c B S bz jd jr sd sr bv v E m rc) (he : newE d n = 0) (hn : n ≤ 8) : Calls Try.prog 12 #[.pointer (some ⟨b, 0, none⟩), .pointer (some ⟨x, 0, none⟩)] w fun e w' => e = .returned (.bool true) ∧ Below w.heap.size w w' := by
  have hwit : ∀ k, k < 9 → Within (tblN d n k) := tblN_within he
  have hxl : x < w.heap.size := Blk.lt h.doc
  have HS := Lib.hid fun (o s : Int) (hs : fitI s) (W : World) (hW : Below w.heap.size w W) => sector_any (h.below hW).dev hwit o s hs
  obtain ⟨Ab, cb, hbv⟩ := h.bys.1.form
  have x0 : w.cell? ⟨x, 0, none⟩ = some (.slice A n c) := Blk.cell h.doc 0
  have x1 : w.cell? ⟨x, 1, none⟩ = some (.slice Ab n cb) := by rw [← hbv]; exact Blk.cell h.doc 1
  have HX := Lib.hid fun (W : World) (hW : Below w.heap.size w W) => (show W.cell? ⟨x, 0, none⟩ = some (.slice A n c) ∧ W.cell? ⟨x, 1, none⟩ = some (.slice Ab n cb) from ⟨(hW.cell (p := ⟨x, 0, none⟩) hxl).trans x0, (hW.cell (p := ⟨x, 1, none⟩) hxl).trans x1⟩)
  have HROW := Lib.hid h.row
  have HBY := Lib.hid h.bys
  rw [hbv] at HBY
  have HE := Lib.hid he
  have HZ := sect_none S (tblN d n)
  have HZ0 := Lib.hid (HS.out 0 0 (by unfold fitI; omega))
  rw [HZ] at HZ0
  clear h hwit x0 x1 hbv he HZ
  go_enter Try.func12, Try.ntmps12
  go_wp2
  go_loopw [5] (fun y wr => ∃ i : Nat, y = .int .i64 i ∧ i ≤ n ∧ Hid (Below w.heap.size w wr)) (fun y _ => n - (intOf y).toNat)
  case atStart => exact ⟨0, rfl, by omega, Lib.hid (Below.refl _ _)⟩
  case round =>
    obtain ⟨i, rfl, hi, HB⟩ := hrel
    obtain ⟨x0, x1⟩ := HX.out _ HB.out
    by_cases hin : i < n
    · have i1 : (i : Int) < (n : Int) := by omega
      obtain ⟨g, off, rfl, hg, hc⟩ := HROW.out.2 (by omega)
      obtain ⟨a0, _, a2⟩ := hc i hin
      obtain ⟨gb, ob, cb', hAb, hgb, hcb, _⟩ := HBY.out.at hin
      injection hAb with hAb hAb2 hAb3
      subst hAb hAb3
      have hmi := mayB_iff.1 (newE_may HE.out i hin)
      obtain ⟨cnt, hcnt⟩ : ∃ cnt : Nat, (d i).2.2 = (cnt : Int) := ⟨(d i).2.2.toNat, by omega⟩
      have hc64 : cnt ≤ 64 := by omega
      have hrow := (HBY.out.2 i hin).1
      have hlen : (rowsL S d i).length = 16 * cnt := by
        unfold rowsL
        rw [secL_len]
        omega
      have HI := Lib.hid fun (k : Nat) (hk : k < cnt) => sect_in S HE.out hin (k := k) (by omega)
      have HEN := sect_end S HE.out hin
      have HSE := Lib.hid (HS.out (d i).1 (d i).2.2 (by unfold fitI; omega))
      rw [HEN] at HSE
      have HSK := Lib.hid fun (k : Nat) (hk : k < cnt) => HS.out (d i).1 k (by unfold fitI; omega)
      obtain ⟨Ai, ci, hEi⟩ := hrow.form
      rw [hEi] at hrow hcb
      have HRW := Lib.hid hrow
      rw [hcnt] at a2 HSE
      have HC := Lib.hid fun (W : World) (hW : Below w.heap.size w W) => (show W.cell? ⟨x, 0, none⟩ = some (.slice (some ⟨g, off, none⟩) n c) ∧ W.cell? ⟨x, 1, none⟩ = some (.slice (some ⟨gb, ob, none⟩) n cb) ∧ W.cell? ⟨g, off + i * 3, none⟩ = some (.int .i64 (d i).1) ∧ W.cell? ⟨g, off + i * 3 + 2, none⟩ = some (.int .i64 cnt) ∧ W.cell? ⟨gb, ob + i, none⟩ = some (.slice Ai (rowsL S d i).length ci) from
        ⟨(HX.out W hW).1, (HX.out W hW).2, (hW.cell (p := ⟨g, off + i * 3, none⟩) hg).trans a0, (hW.cell (p := ⟨g, off + i * 3 + 2, none⟩) hg).trans a2, (hW.cell (p := ⟨gb, ob + i, none⟩) hgb).trans hcb⟩)
      have HLEN := Lib.hid hlen
      clear hc a0 a2 hcb hmi hrow hEi HEN hlen hAb2 hg hgb hcnt
      go_wp2
      go_loopw [6] (fun y wq => ∃ k : Nat, y = .int .i64 k ∧ k ≤ cnt ∧ Hid (Below w.heap.size w wq)) (fun y _ => cnt - (intOf y).toNat)
      case atStart => exact ⟨0, rfl, by omega, HB⟩
      case round =>
        obtain ⟨k, rfl, hk, HB2⟩ := hrel
        obtain ⟨y0, y1, y2, y3, y4⟩ := HC.out _ HB2.out
        by_cases hkc : k < cnt
        · have j1 : (k : Int) < (cnt : Int) := by omega
          have HQS := Lib.hid (HSK.out k hkc)
          rw [HI.out k hkc] at HQS
          have hl := HLEN.out
          rcases HRW.out.2 with ⟨h0, h1⟩ | ⟨g2, o2, c2, h0, h1, _⟩
          · omega
          · injection h0 with h3 h4 h5
            subst h3 h5
            obtain ⟨q, hq⟩ : ∃ q, q = 16 * k := ⟨_, rfl⟩
            obtain ⟨r, hr⟩ : ∃ r, r = q + 16 := ⟨_, rfl⟩
            have HCS := Lib.hid fun (W : World) (hW : Below w.heap.size w W) => RowZ.cut_str (HRW.out.below hW (fun z hz => HRW.out.lt z hz)) (q := q) (k := 16) (by omega)
            rw [← hq] at HQS
            generalize (⟨(((rowsL S d i).drop q).take 16).toArray⟩ : ByteArray) = str at HQS HCS
            have HC2 := HC
            generalize (rowsL S d i).length = len at HC2 y4 h1 hl
            generalize (d i).1 = ow at HQS HC2 y2
            have e1 : IntKind.i64.wrap (16 * (k : Int)) = (q : Int) := by rw [IntKind.wrap_i64]; omega
            have e2 : IntKind.i64.wrap ((q : Int) + 16) = (r : Int) := by rw [IntKind.wrap_i64]; omega
            have j2 : (r : Int) ≤ (ci : Int) := by omega
            have j3 : (q : Int) ≤ (r : Int) := by omega
            have j4 : r - q = 16 := by omega
            have j5 : ¬ ci = q := by omega
            have j6 : k + 1 ≤ cnt := hkc
            clear hq hr hl h1
            go_wp2_with (go_at_call 18; go_loud (have HQ := HQS.out wr HB2.out; refine HQ.mono ?_; clear HQ); rintro e w3 ⟨rfl, b3⟩; go_loud (have B3 := Lib.hid (HB2.out.trans (b3.mono HB2.out.size)); clear b3); go_loud (obtain ⟨z0, z1, z2, z3, z4⟩ := HC2.out _ B3.out); go_loud (have KS := HCS.out _ B3.out))
            go_roundw
            case rel => exact ⟨k + 1, by go_num, j6, B3⟩
            case measure => simp [intOf] <;> omega
        · have j1 : ¬ (k : Int) < (cnt : Int) := by omega
          obtain rfl : k = cnt := by omega
          have HCO := Lib.hid fun (W : World) (hW : Below w.heap.size w W) => (show W.cell? ⟨x, 0, none⟩ = some (.slice (some ⟨g, off, none⟩) n c) ∧ W.cell? ⟨g, off + i * 3, none⟩ = some (.int .i64 (d i).1) ∧ W.cell? ⟨g, off + i * 3 + 2, none⟩ = some (.int .i64 k) from ⟨(HC.out W hW).1, (HC.out W hW).2.2.1, (HC.out W hW).2.2.2.1⟩)
          generalize (d i).1 = ow at HSE y2 HCO
          go_wp2
          go_region_held3 (fun w' => w'.cell? ⟨x, 0, none⟩ = some (.slice (some ⟨g, off, none⟩) n c) ∧ w'.cell? ⟨g, off + i * 3, none⟩ = some (.int .i64 ow) ∧ w'.cell? ⟨g, off + i * 3 + 2, none⟩ = some (.int .i64 k))
            (first | exact ⟨y0, y2, y3⟩ | exact KK.out | go_keep)
            (first | (go_at_call 18; have HQ := HSE.out (wr.drewN 1) (below_drewN HB2.out 1); refine HQ.mono ?_; clear HQ; rintro e w3 ⟨rfl, b3⟩; have B3 := Lib.hid ((below_drewN HB2.out 1).trans (b3.mono (below_drewN HB2.out 1).size)); have KK : Hid (w3.cell? ⟨x, 0, none⟩ = some (.slice (some ⟨g, off, none⟩) n c) ∧ w3.cell? ⟨g, off + i * 3, none⟩ = some (.int .i64 ow) ∧ w3.cell? ⟨g, off + i * 3 + 2, none⟩ = some (.int .i64 k)) := Lib.hid (by have q := HCO.out _ B3.out; exact q); clear b3))
          all_goals
            go_wp2
            go_roundw
            case rel => exact ⟨i + 1, by go_num, by omega, B3⟩
            case measure => simp [intOf] <;> omega
    · have i1 : ¬ (i : Int) < (n : Int) := by omega
      obtain rfl : i = n := by omega
      go_wp2_with (go_at_call 18; have HQ := HZ0.out wr HB.out; refine HQ.mono ?_; clear HQ; rintro e w3 ⟨rfl, b3⟩; have B3 := Lib.hid (HB.out.trans (b3.mono HB.out.size)); clear b3)
      go_ret
      exact ⟨by simp, B3.out⟩
end
end Go.Proofs.Ytlmdnhpdeiekfaa
