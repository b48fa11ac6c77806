import Derived.Test.YthlapnljinkekabJF09
import Derived.Test.YthlapnljinkekabJF01
import Derived.ShutString
import Derived.ChangeOld
import Derived.Lib.SmallJoins
set_option linter.all false
/- DmaPlays: its walk. -/
namespace Go.Proofs.Ythlapnljinkekab
open Go.RowKit Go.Lib Go.Sort
set_option linter.unusedVariables false

/-- An array of nine numbers, in a block of its own. -/
def ArrI (w : World) (b : Nat) (f : Nat → Int) : Prop := ∃ cs, Blk w b 37 cs ∧ cs.size = 9 ∧ ∀ k, k < 9 → cs[k]? = some (.int .i64 (f k))
section
variable {w w' : World} {b : Nat} {f : Nat → Int}
theorem ArrI.below (h : ArrI w b f) (hb : Below w.heap.size w w') : ArrI w' b f := by
  obtain ⟨cs, h1, h2⟩ := h
  exact ⟨cs, h1.below hb h1.lt, h2⟩
theorem ArrI.cell (h : ArrI w b f) {k : Nat} (hk : k < 9) : w.cell? ⟨b, k, none⟩ = some (.int .i64 (f k)) := by
  obtain ⟨cs, h1, h2, h3⟩ := h
  exact (h1.cell k).trans (h3 k hk)
theorem ArrI.free (h : ArrI w b f) (k : Nat) : w.frozen? ⟨b, k, none⟩ = false := by
  obtain ⟨cs, h1, h2, h3⟩ := h
  exact h1.free k
theorem ArrI.put (h : ArrI w b f) {k : Nat} (hk : k < 9) (x : Int) : ArrI (w.setCell ⟨b, k, none⟩ (.int .i64 x)) b (updI f k x) := by
  obtain ⟨cs, h1, h2, h3⟩ := h
  refine ⟨_, h1.put k _, by simpa using h2, fun j hj => ?_⟩
  unfold updI
  by_cases e : j = k
  · subst e
    simp [h2, hj]
  · rw [if_neg e, Array.getElem?_setIfInBounds_ne (fun e' => e e'.symm)]
    exact h3 j hj
theorem ArrI.far (h : ArrI w b f) {b' : Nat} (hb : w.grownBy w' (some b')) (hne : b ≠ b') : ArrI w' b f := by
  obtain ⟨cs, h1, h2⟩ := h
  exact ⟨cs, h1.only hb (fun e => hne (by injection e)), h2⟩
end
theorem ArrI.kept {w w' : World} {b : Nat} {f : Nat → Int} {B e m g t : Nat} {L : List Reg} {l : List UInt8} {rv : Value} {n : Nat} {rc : Nat → Rec} {rd wr : Nat → Int} (S : StG w B e m g t L l rv n rc rd wr) (k : Keeps (Burst e g rv) w w') (h : ArrI w b f) : ArrI w' b f := by
  obtain ⟨cs, h1, h2⟩ := h
  exact ⟨cs, h1.kept2 k (S.apart2 h1 (by decide) (by decide) (by decide)), h2⟩
/-- Engine, memory, table, records stay where an array of numbers is written. -/
theorem StG.arr {w w' : World} {b : Nat} {f : Nat → Int} {B e m g t : Nat} {L : List Reg} {l : List UInt8} {rv : Value} {n : Nat} {rc : Nat → Rec} {rd wr : Nat → Int} (S : StG w B e m g t L l rv n rc rd wr) (h : ArrI w b f) (hb : w.grownBy w' (some b)) : StG w' B e m g t L l rv n rc rd wr := by
  obtain ⟨cs, h1, _⟩ := h
  obtain ⟨q1, q2, q3, q4, q5⟩ := S
  refine ⟨q1, q2.only hb (fun e => ?_), q3.far hb (q3.2.2.2.differ h1 (by decide)) (q3.2.2.1.differ h1 (by decide)), q4.stays hb (fun k hk => by injection hk with hk; subst hk; exact ⟨_, _, h1, by decide⟩), q5.only hb (.inr (own_ne q5 h1 (by decide)))⟩
  obtain ⟨cs', h0, _⟩ := q2
  exact h0.differ h1 (by decide) (by injection e)
theorem OwnN.arr {w w' : World} {b C : Nat} {f : Nat → Int} {v : Value} {x : List Int} (h : OwnN w C v x) (ha : ArrI w b f) (hb : w.grownBy w' (some b)) : OwnN w' C v x := by
  obtain ⟨cs, h1, _⟩ := ha
  exact World.ownsRow.kept h hb (.inr (own_ne h h1 (by decide)))
/-- The state of the law, i deeds gone. -/
def PlayS (w : World) (B e m g t br bw : Nat) (L : List Reg) (z : List UInt8) (i nn : Nat) (vb : Value) : Prop :=
  ∃ l rv rc rd wr, StG w B e m g t L l rv nn rc rd wr ∧ OwnN w B vb (num l) ∧ l.length = z.length ∧ nn ≤ i ∧ (∀ k, k < 9 → 0 ≤ rd k ∧ rd k ≤ 200 * (i : Int)) ∧ (∀ k, k < 9 → 0 ≤ wr k ∧ wr k ≤ 200 * (i : Int)) ∧ ArrI w br rd ∧ ArrI w bw wr

set_option maxHeartbeats 3200000 in
set_option maxRecDepth 100000 in
theorem dplays_walk (size : Int) (A : Option Addr) (len cap : Nat) (d : Nat → Reg) (A2 : Option Addr) (len2 cap2 : Nat) (D : Nat → Int × Int × Int × Int × Bool × ByteArray) (w : World) (hst0 : Regs w A len cap d) (hf0 : ∀ i, i < len → Fits (d i)) (hlc : len ≤ cap) (hcm : cap ≤ 9223372036854775807) (hD : DeedsD w A2 len2 D) (hfD : ∀ i, i < len2 → fitI (D i).1 ∧ fitI (D i).2.1 ∧ fitI (D i).2.2.1 ∧ fitI (D i).2.2.2.1) (hlc2 : len2 ≤ cap2) (hcm2 : cap2 ≤ 9223372036854775807) :
    Calls Try.prog 3 #[.int .i64 size, .slice A len cap, .slice A2 len2 cap2] w fun e w' => e = .returned (.bool true) ∧ Below w.heap.size w w' := by
  obtain ⟨n, hn⟩ : ∃ n, n = min len 8 := ⟨_, rfl⟩
  obtain ⟨mm, hmm⟩ : ∃ mm, mm = min len2 20 := ⟨_, rfl⟩
  have hfew := few_any A len cap A2 len2 cap2 d D _ hst0 hf0 hD hlc hcm hlc2 hcm2
  rw [← hn, ← hmm] at hfew
  have HFEW := Lib.hid hfew
  have HST := Lib.hid (hst0.cut n (by omega))
  have HF : Hid (∀ i, i < n → Fits (d i)) := fun i hi => hf0 i (by omega)
  have HN : Hid (n ≤ 8) := by unfold Hid; omega
  have HM : Hid (mm ≤ 20 ∧ mm ≤ len2) := by unfold Hid; omega
  have HDD := Lib.hid hD
  have HFD : Hid (∀ i, i < mm → fitI (D i).1 ∧ fitI (D i).2.1 ∧ fitI (D i).2.2.1 ∧ fitI (D i).2.2.2.1) := fun i hi => hfD i (by omega)
  clear hfew hst0 hf0 hlc hcm hn hmm hD hfD hlc2 hcm2
  by_cases h6 : (600 : Int) < size
  · go_enter Try.func3, Try.ntmps3
    go_wp2_with (go_at_call 6; refine HFEW.out.mono ?_; rintro e w1 ⟨r, rfl, hr, b1⟩; have HR := Lib.hid hr; have B1 := Lib.hid b1; clear hr b1; cases r)
    all_goals
      go_wp2_with (go_at_call 7; refine (dlive_any _).mono ?_; rintro e w2 ⟨rfl, b2⟩; have B2 := Lib.hid (B1.out.trans (b2.mono B1.out.size)); clear b2)
      go_ret
      exact ⟨rfl, B2.out⟩
  · go_enter Try.func3, Try.ntmps3
    go_wp2_with (go_at_call 6; refine HFEW.out.mono ?_; rintro e w1 ⟨r, rfl, hr, b1⟩; have HR := Lib.hid hr; have B1 := Lib.hid b1; clear hr b1; cases r)
    · go_wp2_with (go_at_call 7; refine (dlive_any _).mono ?_; rintro e w2 ⟨rfl, b2⟩; have B2 := Lib.hid (B1.out.trans (b2.mono B1.out.size)); clear b2)
      go_ret
      exact ⟨rfl, B2.out⟩
    · obtain ⟨hc0, hs2⟩ := HR.out (by first | rfl | trivial)
      have HC0 := Lib.hid hc0
      have HS2 := Lib.hid hs2
      have hz : (List.replicate (sizeOf' size) (0 : UInt8)).length ≤ 600 := by rw [List.length_replicate]; unfold sizeOf'; split <;> (try split) <;> omega
      have hnew : ∀ W, Calls Try.prog 8 #[.int .i64 size] W fun r w' => ∃ m, r = .returned (.pointer (some ⟨m, 0, none⟩)) ∧ MemV w' W.heap.size m (List.replicate (sizeOf' size) 0) ∧ Below W.heap.size W w' := fun W => mnew_any size W
      have hrnew := fun W => rmnew_any size W (by omega)
      generalize List.replicate (sizeOf' size) (0 : UInt8) = z at hz hnew hrnew
      have htn := fun W (hW : Below w.heap.size w W) => tnew_dok (HST.out.below hW) HF.out (by have := HN.out; omega) hc0
      have HNEW := Lib.hid hnew
      have HRN := Lib.hid hrnew
      have HTN := Lib.hid htn
      have HZ := Lib.hid hz
      clear hnew hrnew htn hz hc0 hs2 HR
      go_wp2_with (first
        | (go_at_call 8; refine (HNEW.out _).mono ?_; rintro e w2 ⟨m, rfl, hm, b2⟩; obtain ⟨g, hg⟩ := hm.named; have M2 := Lib.hid (hg.lower' B1.out.size); have B2 := Lib.hid (B1.out.trans (b2.mono B1.out.size)); clear hm hg b2)
        | (go_at_call 9; refine (HTN.out _ B2.out).mono ?_; rintro e w3 ⟨t', rfl, ht, b3⟩; have M3 := Lib.hid (M2.out.below b3); have T3 := Lib.hid (ht.lower B2.out.size); have B3 := Lib.hid (B2.out.trans (b3.mono B2.out.size)); clear ht b3)
        | (go_at_call 10; refine (enew_any m t' _).mono ?_; rintro e w4 ⟨rfl, he, b4⟩; have S4 : Hid (StG w4 w.heap.size w3.heap.size m g t' (rws d n) z (.slice none 0 0) 0 (fun _ => (0, 0, 0, 0, false, 0)) (fun _ => 0) (fun _ => 0)) := ⟨B3.out.size, eng_of he, M3.out.below b4, T3.out.below b4, rec_nil _ _ _⟩; have B4 := Lib.hid (B3.out.trans (b4.mono B3.out.size)); clear he b4)
        | (go_at_call 11; refine (HRN.out _).mono ?_; rintro r5 w5 ⟨v5, rfl, hv5, b5⟩; have V5 := Lib.hid (hv5.lower B4.out.size); have S5 := Lib.hid (S4.out.below b5); have B5 := Lib.hid (B4.out.trans (b5.mono B4.out.size)); clear hv5 b5))
      have HMAY := Lib.hid (chkN_may HC0.out)
      have hz9 : ∀ k, k < 9 → (#[Value.int .i64 0, .int .i64 0, .int .i64 0, .int .i64 0, .int .i64 0, .int .i64 0, .int .i64 0, .int .i64 0, .int .i64 0] : Array Value)[k]? = some (.int .i64 0) := fun k hk => by
        match k, hk with
        | 0, _ => rfl
        | 1, _ => rfl
        | 2, _ => rfl
        | 3, _ => rfl
        | 4, _ => rfl
        | 5, _ => rfl
        | 6, _ => rfl
        | 7, _ => rfl
        | 8, _ => rfl
      obtain ⟨w6, hw6⟩ : ∃ w6, w6 = (w5.alloc (.cells #[.int .i64 0, .int .i64 0, .int .i64 0, .int .i64 0, .int .i64 0, .int .i64 0, .int .i64 0, .int .i64 0, .int .i64 0] 37)).alloc (.cells #[.int .i64 0, .int .i64 0, .int .i64 0, .int .i64 0, .int .i64 0, .int .i64 0, .int .i64 0, .int .i64 0, .int .i64 0] 37) := ⟨_, rfl⟩
      have hb6 : Below w5.heap.size w5 w6 := by rw [hw6]; exact ((Below.refl w5.heap.size w5).alloc (Nat.le_refl _) _).alloc (by simp) _
      have ha1 : ArrI w6 w5.heap.size (fun _ => 0) := ⟨_, by rw [hw6]; exact (Blk.new w5 _ _).alloc _, rfl, hz9⟩
      have ha2 : ArrI w6 (w5.heap.size + 1) (fun _ => 0) := ⟨_, by
        rw [hw6]
        have := Blk.new (w5.alloc (.cells #[.int .i64 0, .int .i64 0, .int .i64 0, .int .i64 0, .int .i64 0, .int .i64 0, .int .i64 0, .int .i64 0, .int .i64 0] 37)) 37 #[.int .i64 0, .int .i64 0, .int .i64 0, .int .i64 0, .int .i64 0, .int .i64 0, .int .i64 0, .int .i64 0, .int .i64 0]
        simpa using this, rfl, hz9⟩
      have hps : PlayS w6 w.heap.size w3.heap.size m g t' w5.heap.size (w5.heap.size + 1) (rws d n) z 0 0 v5 := ⟨z, _, _, _, _, S5.out.below hb6, V5.out.below (only_far hb6), rfl, Nat.le_refl _, fun k _ => ⟨by simp, by simp⟩, fun k _ => ⟨by simp, by simp⟩, ha1, ha2⟩
      have B6 := Lib.hid (B5.out.trans (hb6.mono B5.out.size))
      have PS := Lib.hid hps
      rw [← hw6]
      generalize hbw : w5.heap.size + 1 = bw at PS ⊢
      generalize hbr : w5.heap.size = br at PS ⊢
      have hbb : ¬ br = bw := by omega
      have HBB := Lib.hid hbb
      have HLB := Lib.hid (show w.heap.size ≤ br ∧ w.heap.size ≤ bw by have := B5.out.size; omega)
      clear hw6 hb6 ha1 ha2 hps hz9 V5 S5 hbw hbr hbb
      go_loopw [12, 13, 16] (fun vb vn y wr => ∃ i nn : Nat, y = .int .i64 i ∧ vn = .int .i64 nn ∧ i ≤ mm ∧ Hid (PlayS wr w.heap.size w3.heap.size m g t' br bw (rws d n) z i nn vb) ∧ Below w.heap.size w wr) (fun _ _ y _ => mm - (intOf y).toNat)
      case atStart => exact ⟨0, 0, rfl, rfl, by omega, PS, B6.out⟩
      case round =>
        obtain ⟨i, nn, rfl, rfl, hi, FS, hb⟩ := hrel
        obtain ⟨wz, hwz⟩ : ∃ wz : World, wz = wr := ⟨_, rfl⟩
        subst hwz
        have HB := Lib.hid hb
        obtain ⟨l, rv, rc, rd, wrn, hS, hV, hl, hn', hrd, hwr, ha1, ha2⟩ := FS.out
        obtain ⟨Ab, capb, hvb⟩ := hV.form
        rw [num_len] at hvb
        subst hvb
        have m20 : mm ≤ 20 := HM.out.1
        have nn20 : nn ≤ 20 := by omega
        have SZ := Lib.hid hS
        have VZ := Lib.hid hV
        have PZ := Lib.hid ha1
        have QZ := Lib.hid ha2
        have HL := Lib.hid hl
        have HRD := Lib.hid hrd
        have HWR := Lib.hid hwr
        have HNI := Lib.hid hn'
        clear hb PS FS hS hV ha1 ha2 hl hrd hwr hn'
        by_cases hin : i < mm
        · obtain ⟨b9, p9, rfl, hb9, hc9⟩ := ((HDD.out.under HB.out (Nat.le_refl _)).cut mm HM.out.2) (by omega)
          obtain ⟨c0, c1, c2, c3, c4, c5⟩ := hc9 i hin
          have hs9 := HS2.out i hin
          obtain ⟨h01, h02, h03, h04⟩ := HFD.out i hin
          obtain ⟨x, hx⟩ : ∃ x, x = D i := ⟨_, rfl⟩
          rw [← hx] at c0 c1 c2 c3 c4 c5 hs9 h01 h02 h03 h04
          obtain ⟨t, o, a, q, bb, s⟩ := x
          simp only at c0 c1 c2 c3 c4 c5 hs9 h01 h02 h03 h04
          have HO := Lib.hid h02
          have HA := Lib.hid h03
          have HS9 := Lib.hid hs9
          clear hx hc9 h01 h02 h03 h04 hs9
          have i1 : (i : Int) < (mm : Int) := by omega
          have i20 : i < 20 := by omega
          obtain ⟨c, hc⟩ : ∃ c, (askV (rws d n) l.length o a (deedN q bb s)).2 = c := ⟨_, rfl⟩
          by_cases hc0 : c = 0
          · subst hc0
            obtain ⟨q1, q2, q3, q4, _⟩ := askV_ok HMAY.out hc
            obtain ⟨k, hk⟩ : ∃ k : Nat, o = k := ⟨o.toNat, by omega⟩
            subst hk
            cases bb with
            | true =>
              simp only [deedN, if_true] at hc q1 q2
              have hk9 : k < 9 := by omega
              have hdo := fun W (hW : Below wz.heap.size wz W) => do_okw W A n cap d w.heap.size w3.heap.size m g t' w.heap.size rv nn rc rd wrn l t (k : Int) a q s Ab capb (HST.out.below (HB.out.trans (hW.mono HB.out.size))) (by have := HN.out; omega) HC0.out (SZ.out.below hW) (VZ.out.below (only_far hW)) HO.out HA.out (by rw [HL.out]; exact HZ.out) HS9.out (Nat.le_trans HB.out.size hW.size) (Nat.le_trans HB.out.size hW.size) (by omega) (fun k hk => by have h1 := HWR.out k hk; omega) hc
              rw [Int.toNat_natCast] at hdo
              obtain ⟨l', hl'⟩ : ∃ l', l' = wrL (rws d n) l (k : Int) a s := ⟨_, rfl⟩
              have hll : l'.length = l.length := by rw [hl', wrL_len HMAY.out]
              have HLL := Lib.hid hll
              rw [← hl'] at hdo
              clear hl' hll
              have HDO := Lib.hid hdo
              have y1 : (k : Int) < 9 := by omega
              have y2 : (0 : Int) ≤ (k : Int) := by omega
              have hbd1 := HRD.out k hk9
              have hbd2 := HWR.out k hk9
              have y3 : IntKind.i64.wrap (wrn k + (s.size : Int)) = wrn k + (s.size : Int) := by rw [IntKind.wrap_i64]; omega
              clear hdo hc hbd1 hbd2
              go_wp2_with (first
                | (go_at_call 12; refine (HDO.out _ ((Below.refl wz.heap.size wz).alloc (Nat.le_refl _) (.cells #[.int .i64 t, .int .i64 (k : Int), .int .i64 a, .int .i64 q, .bool true, .string s] 39))).mono ?_; rintro r7 w7 ⟨v7, rfl, hv7, hs7, hk7⟩; have sy := SZ.out.below ((Below.refl wz.heap.size wz).alloc (Nat.le_refl _) (.cells #[.int .i64 t, .int .i64 (k : Int), .int .i64 a, .int .i64 q, .bool true, .string s] 39)); have X7 := Lib.hid ((Blk.new wz 39 #[.int .i64 t, .int .i64 (k : Int), .int .i64 a, .int .i64 q, .bool true, .string s]).kept2 hk7 (sy.apart2 (Blk.new wz 39 #[.int .i64 t, .int .i64 (k : Int), .int .i64 a, .int .i64 q, .bool true, .string s]) (by decide) (by decide) (by decide))); have V7 := Lib.hid hv7; have S7 := Lib.hid hs7; have P7 := Lib.hid (ArrI.kept sy hk7 (PZ.out.below ((Below.refl wz.heap.size wz).alloc (Nat.le_refl _) (.cells #[.int .i64 t, .int .i64 (k : Int), .int .i64 a, .int .i64 q, .bool true, .string s] 39)))); have Q7 := Lib.hid (ArrI.kept sy hk7 (QZ.out.below ((Below.refl wz.heap.size wz).alloc (Nat.le_refl _) (.cells #[.int .i64 t, .int .i64 (k : Int), .int .i64 a, .int .i64 q, .bool true, .string s] 39)))); have B7 := Lib.hid ((HB.out.trans (((Below.refl wz.heap.size wz).alloc (Nat.le_refl _) (.cells #[.int .i64 t, .int .i64 (k : Int), .int .i64 a, .int .i64 q, .bool true, .string s] 39)).mono HB.out.size)).trans (sy.burst hk7 (Nat.le_trans HB.out.size ((Below.refl wz.heap.size wz).alloc (Nat.le_refl _) (.cells #[.int .i64 t, .int .i64 (k : Int), .int .i64 a, .int .i64 q, .bool true, .string s] 39)).size))); have x0 := X7.out.cell 0; have x1 := X7.out.cell 1; have x2 := X7.out.cell 2; have x3 := X7.out.cell 3; have x4 := X7.out.cell 4; have x5 := X7.out.cell 5; simp at x0 x1 x2 x3 x4 x5; clear sy hv7 hs7 hk7)
                | (go_at_call 13; refine (records_any S7.out.2.1 S7.out.2.2.2.2 (by omega)).mono ?_; rintro r8 w8 ⟨v8, rfl, hr8, b8⟩; obtain ⟨Ar, cr, rfl⟩ := hr8.form; have X8 := Lib.hid (X7.out.below b8 X7.out.lt); have V8 := Lib.hid (V7.out.below (only_far b8)); have S8 := Lib.hid (S7.out.below b8); have P8 := Lib.hid (P7.out.below b8); have Q8 := Lib.hid (Q7.out.below b8); have B8 := Lib.hid (B7.out.trans (b8.mono B7.out.size)); have x0 := X8.out.cell 0; have x1 := X8.out.cell 1; have x2 := X8.out.cell 2; have x3 := X8.out.cell 3; have x4 := X8.out.cell 4; have x5 := X8.out.cell 5; simp at x0 x1 x2 x3 x4 x5; clear hr8 b8))
              have z0 := Q8.out.cell hk9
              have f0 := Q8.out.free k
              obtain ⟨w9, hw9⟩ : ∃ w9, w9 = w8.setCell ⟨bw, k, none⟩ (.int .i64 (wrn k + (s.size : Int))) := ⟨_, rfl⟩
              have hg9 : w8.grownBy w9 (some bw) := by rw [hw9]; exact only_put (only_refl _ _) _ _
              have hA9 : ArrI w9 bw (updI wrn k (wrn k + (s.size : Int))) := by rw [hw9]; exact Q8.out.put hk9 _
              have hO9 := P8.out.far hg9 (HBB.out)
              have hS9 := S8.out.arr Q8.out hg9
              have hV9 := V8.out.arr Q8.out hg9
              have hX9 : Blk w9 wz.heap.size 39 #[.int .i64 t, .int .i64 (k : Int), .int .i64 a, .int .i64 q, .bool true, .string s] := by
                obtain ⟨cs, h1, _⟩ := Q8.out
                exact X8.out.only hg9 (fun e => X8.out.differ h1 (by decide) (by injection e))
              have hB9 : Below w.heap.size w w9 := B8.out.trans (below_of_only hg9 B8.out.size (fun k hk => by injection hk with hk; subst hk; exact HLB.out.2))
              go_region
              all_goals
                have b10 := below_drewN (Below.refl w9.heap.size w9) 1
                rw [← hw9]
                change _ = _ at hw9
                obtain ⟨w10, hw10⟩ : ∃ w10, w10 = w9.drew := ⟨_, rfl⟩
                rw [← hw10]
                replace b10 : Below w9.heap.size w9 w10 := by rw [hw10]; exact b10
                have X10 := Lib.hid (hX9.below b10 hX9.lt)
                have V10 := Lib.hid (hV9.below (only_far b10))
                have S10 := Lib.hid (hS9.below b10)
                have A10 := Lib.hid (hA9.below b10)
                have O10 := Lib.hid (hO9.below b10)
                have B10 := Lib.hid (hB9.trans (b10.mono hB9.size))
                have x1 := X10.out.cell 1
                simp at x1
                clear hw10 hw9 b10 hX9 hV9 hS9 hA9 hO9 hB9 hg9 z0 f0
                go_wp2_with (go_at_call 15; refine (moved_any S10.out.2.1 (k := k) rfl hk9).mono ?_; rintro r11 wq ⟨rfl, qd, rfl⟩; have b11 := below_drewN (Below.refl w10.heap.size w10) qd; generalize w10.drewN qd = w11 at b11 ⊢; have X11 := Lib.hid (X10.out.below b11 X10.out.lt); have V11 := Lib.hid (V10.out.below (only_far b11)); have S11 := Lib.hid (S10.out.below b11); have A11 := Lib.hid (A10.out.below b11); have O11 := Lib.hid (O10.out.below b11); have B11 := Lib.hid (B10.out.trans (b11.mono B10.out.size)); have x1 := X11.out.cell 1; simp at x1; have z0 := A11.out.cell hk9; have z1 := O11.out.cell hk9; clear b11)
                refine ⟨⟨i + 1, nn, by go_num, rfl, by omega, Lib.hid ⟨l', rv, rc, rd, _, S11.out, V11.out, HLL.out.trans HL.out, by have := HNI.out; omega, fun j hj => by have := HRD.out j hj; omega, fun j hj => ?_, O11.out, A11.out⟩, B11.out⟩, by simp [intOf] <;> omega⟩
                have h1 := HWR.out j hj
                have h2 := HS9.out
                have h3 := HWR.out k hk9
                unfold updI
                split <;> omega
            | false =>
              simp only [deedN, Bool.false_eq_true, if_false] at hc q1 q2
              have hk9 : k < 9 := by omega
              have hdo := fun W (hW : Below wz.heap.size wz W) => do_okr W A n cap d w.heap.size w3.heap.size m g t' w.heap.size rv nn rc rd wrn l t (k : Int) a q s Ab capb (HST.out.below (HB.out.trans (hW.mono HB.out.size))) (by have := HN.out; omega) HC0.out (SZ.out.below hW) (VZ.out.below (only_far hW)) HO.out HA.out (by rw [HL.out]; exact HZ.out) (Nat.le_trans HB.out.size hW.size) (Nat.le_trans HB.out.size hW.size) (by omega) (fun k hk => by have h1 := HRD.out k hk; omega) hc
              rw [Int.toNat_natCast] at hdo
              have HDO := Lib.hid hdo
              have y1 : (k : Int) < 9 := by omega
              have y2 : (0 : Int) ≤ (k : Int) := by omega
              have hbd1 := HRD.out k hk9
              have hbd2 := HWR.out k hk9
              have y3 : IntKind.i64.wrap (rd k + q) = rd k + q := by rw [IntKind.wrap_i64]; omega
              clear hdo hc hbd1 hbd2
              go_wp2_with (first
                | (go_at_call 12; refine (HDO.out _ ((Below.refl wz.heap.size wz).alloc (Nat.le_refl _) (.cells #[.int .i64 t, .int .i64 (k : Int), .int .i64 a, .int .i64 q, .bool false, .string s] 39))).mono ?_; rintro r7 w7 ⟨rfl, hv7, hs7, hk7⟩; have sy := SZ.out.below ((Below.refl wz.heap.size wz).alloc (Nat.le_refl _) (.cells #[.int .i64 t, .int .i64 (k : Int), .int .i64 a, .int .i64 q, .bool false, .string s] 39)); have X7 := Lib.hid ((Blk.new wz 39 #[.int .i64 t, .int .i64 (k : Int), .int .i64 a, .int .i64 q, .bool false, .string s]).kept2 hk7 (sy.apart2 (Blk.new wz 39 #[.int .i64 t, .int .i64 (k : Int), .int .i64 a, .int .i64 q, .bool false, .string s]) (by decide) (by decide) (by decide))); have V7 := Lib.hid hv7; have S7 := Lib.hid hs7; have P7 := Lib.hid (ArrI.kept sy hk7 (PZ.out.below ((Below.refl wz.heap.size wz).alloc (Nat.le_refl _) (.cells #[.int .i64 t, .int .i64 (k : Int), .int .i64 a, .int .i64 q, .bool false, .string s] 39)))); have Q7 := Lib.hid (ArrI.kept sy hk7 (QZ.out.below ((Below.refl wz.heap.size wz).alloc (Nat.le_refl _) (.cells #[.int .i64 t, .int .i64 (k : Int), .int .i64 a, .int .i64 q, .bool false, .string s] 39)))); have B7 := Lib.hid ((HB.out.trans (((Below.refl wz.heap.size wz).alloc (Nat.le_refl _) (.cells #[.int .i64 t, .int .i64 (k : Int), .int .i64 a, .int .i64 q, .bool false, .string s] 39)).mono HB.out.size)).trans (sy.burst hk7 (Nat.le_trans HB.out.size ((Below.refl wz.heap.size wz).alloc (Nat.le_refl _) (.cells #[.int .i64 t, .int .i64 (k : Int), .int .i64 a, .int .i64 q, .bool false, .string s] 39)).size))); have x0 := X7.out.cell 0; have x1 := X7.out.cell 1; have x2 := X7.out.cell 2; have x3 := X7.out.cell 3; have x4 := X7.out.cell 4; have x5 := X7.out.cell 5; simp at x0 x1 x2 x3 x4 x5; clear sy hv7 hs7 hk7)
                | (go_at_call 13; refine (records_any S7.out.2.1 S7.out.2.2.2.2 (by omega)).mono ?_; rintro r8 w8 ⟨v8, rfl, hr8, b8⟩; obtain ⟨Ar, cr, rfl⟩ := hr8.form; have X8 := Lib.hid (X7.out.below b8 X7.out.lt); have V8 := Lib.hid (V7.out.below (only_far b8)); have S8 := Lib.hid (S7.out.below b8); have P8 := Lib.hid (P7.out.below b8); have Q8 := Lib.hid (Q7.out.below b8); have B8 := Lib.hid (B7.out.trans (b8.mono B7.out.size)); have x0 := X8.out.cell 0; have x1 := X8.out.cell 1; have x2 := X8.out.cell 2; have x3 := X8.out.cell 3; have x4 := X8.out.cell 4; have x5 := X8.out.cell 5; simp at x0 x1 x2 x3 x4 x5; clear hr8 b8))
              have z0 := P8.out.cell hk9
              have f0 := P8.out.free k
              obtain ⟨w9, hw9⟩ : ∃ w9, w9 = w8.setCell ⟨br, k, none⟩ (.int .i64 (rd k + q)) := ⟨_, rfl⟩
              have hg9 : w8.grownBy w9 (some br) := by rw [hw9]; exact only_put (only_refl _ _) _ _
              have hA9 : ArrI w9 br (updI rd k (rd k + q)) := by rw [hw9]; exact P8.out.put hk9 _
              have hO9 := Q8.out.far hg9 (fun e => HBB.out e.symm)
              have hS9 := S8.out.arr P8.out hg9
              have hV9 := V8.out.arr P8.out hg9
              have hX9 : Blk w9 wz.heap.size 39 #[.int .i64 t, .int .i64 (k : Int), .int .i64 a, .int .i64 q, .bool false, .string s] := by
                obtain ⟨cs, h1, _⟩ := P8.out
                exact X8.out.only hg9 (fun e => X8.out.differ h1 (by decide) (by injection e))
              have hB9 : Below w.heap.size w w9 := B8.out.trans (below_of_only hg9 B8.out.size (fun k hk => by injection hk with hk; subst hk; exact HLB.out.1))
              go_region
              all_goals
                have b10 := below_drewN (Below.refl w9.heap.size w9) 1
                rw [← hw9]
                change _ = _ at hw9
                obtain ⟨w10, hw10⟩ : ∃ w10, w10 = w9.drew := ⟨_, rfl⟩
                rw [← hw10]
                replace b10 : Below w9.heap.size w9 w10 := by rw [hw10]; exact b10
                have X10 := Lib.hid (hX9.below b10 hX9.lt)
                have V10 := Lib.hid (hV9.below (only_far b10))
                have S10 := Lib.hid (hS9.below b10)
                have A10 := Lib.hid (hA9.below b10)
                have O10 := Lib.hid (hO9.below b10)
                have B10 := Lib.hid (hB9.trans (b10.mono hB9.size))
                have x1 := X10.out.cell 1
                simp at x1
                clear hw10 hw9 b10 hX9 hV9 hS9 hA9 hO9 hB9 hg9 z0 f0
                go_wp2_with (go_at_call 15; refine (moved_any S10.out.2.1 (k := k) rfl hk9).mono ?_; rintro r11 wq ⟨rfl, qd, rfl⟩; have b11 := below_drewN (Below.refl w10.heap.size w10) qd; generalize w10.drewN qd = w11 at b11 ⊢; have X11 := Lib.hid (X10.out.below b11 X10.out.lt); have V11 := Lib.hid (V10.out.below (only_far b11)); have S11 := Lib.hid (S10.out.below b11); have A11 := Lib.hid (A10.out.below b11); have O11 := Lib.hid (O10.out.below b11); have B11 := Lib.hid (B10.out.trans (b11.mono B10.out.size)); have x1 := X11.out.cell 1; simp at x1; have z0 := A11.out.cell hk9; have z1 := O11.out.cell hk9; clear b11)
                refine ⟨⟨i + 1, nn, by go_num, rfl, by omega, Lib.hid ⟨l, rv, rc, _, wrn, S11.out, V11.out, HL.out, by have := HNI.out; omega, fun j hj => ?_, fun j hj => by have := HWR.out j hj; omega, A11.out, O11.out⟩, B11.out⟩, by simp [intOf] <;> omega⟩
                have h1 := HRD.out j hj
                have h3 := HRD.out k hk9
                unfold updI
                split <;> omega
          · have hdo := fun W (hW : Below wz.heap.size wz W) => do_bad W A n cap d w.heap.size w3.heap.size m g t' w.heap.size rv nn rc rd wrn l t o a q bb s Ab capb (HST.out.below (HB.out.trans (hW.mono HB.out.size))) (by have := HN.out; omega) HC0.out (SZ.out.below hW) (VZ.out.below (only_far hW)) HO.out HA.out (by rw [HL.out]; exact HZ.out) HS9.out (Nat.le_trans HB.out.size hW.size) (Nat.le_trans HB.out.size hW.size) (by omega) (fun k hk => by have h1 := HRD.out k hk; omega) (fun k hk => by have h1 := HWR.out k hk; omega) c _ rfl hc hc0
            have hszc := fun W => dsize_any t o a q bb s W
            generalize deedN q bb s = N at hdo hszc hc
            have HDO := Lib.hid hdo
            have HSZC := Lib.hid hszc
            have hcb : (c == 0) = false := by simpa using hc0
            have u2 : IntKind.i64.wrap (nn : Int) = (nn : Int) := by rw [IntKind.wrap_i64]; omega
            have u3 : ¬ (nn : Int) < 0 := by omega
            have u4 : (nn : Int) < (nn : Int) + 1 := by omega
            have u5 : (nn : Int) < ((nn + 1 : Nat) : Int) := by omega
            have u6 : (0 : Int) ≤ (nn : Int) := by omega
            have u1 : IntKind.i64.wrap ((nn : Int) + 1) = (nn : Int) + 1 := by rw [IntKind.wrap_i64]; omega
            clear hdo hszc hc
            go_wp2_with (first
              | (go_at_call 12; refine (HDO.out _ ((Below.refl wz.heap.size wz).alloc (Nat.le_refl _) (.cells #[.int .i64 t, .int .i64 o, .int .i64 a, .int .i64 q, .bool bb, .string s] 39))).mono ?_; rintro r7 w7 ⟨v7, rv7, rfl, hv7, hs7, hk7⟩; have sy := SZ.out.below ((Below.refl wz.heap.size wz).alloc (Nat.le_refl _) (.cells #[.int .i64 t, .int .i64 o, .int .i64 a, .int .i64 q, .bool bb, .string s] 39)); have X7 := Lib.hid ((Blk.new wz 39 #[.int .i64 t, .int .i64 o, .int .i64 a, .int .i64 q, .bool bb, .string s]).kept2 hk7 (sy.apart2 (Blk.new wz 39 #[.int .i64 t, .int .i64 o, .int .i64 a, .int .i64 q, .bool bb, .string s]) (by decide) (by decide) (by decide))); have V7 := Lib.hid hv7; have S7 := Lib.hid hs7; have P7 := Lib.hid (ArrI.kept sy hk7 (PZ.out.below ((Below.refl wz.heap.size wz).alloc (Nat.le_refl _) (.cells #[.int .i64 t, .int .i64 o, .int .i64 a, .int .i64 q, .bool bb, .string s] 39)))); have Q7 := Lib.hid (ArrI.kept sy hk7 (QZ.out.below ((Below.refl wz.heap.size wz).alloc (Nat.le_refl _) (.cells #[.int .i64 t, .int .i64 o, .int .i64 a, .int .i64 q, .bool bb, .string s] 39)))); have B7 := Lib.hid ((HB.out.trans (((Below.refl wz.heap.size wz).alloc (Nat.le_refl _) (.cells #[.int .i64 t, .int .i64 o, .int .i64 a, .int .i64 q, .bool bb, .string s] 39)).mono HB.out.size)).trans (sy.burst hk7 (Nat.le_trans HB.out.size ((Below.refl wz.heap.size wz).alloc (Nat.le_refl _) (.cells #[.int .i64 t, .int .i64 o, .int .i64 a, .int .i64 q, .bool bb, .string s] 39)).size))); have x0 := X7.out.cell 0; have x1 := X7.out.cell 1; have x2 := X7.out.cell 2; have x3 := X7.out.cell 3; have x4 := X7.out.cell 4; have x5 := X7.out.cell 5; simp at x0 x1 x2 x3 x4 x5; clear sy hv7 hs7 hk7)
              | (go_at_call 13; refine (records_any S7.out.2.1 S7.out.2.2.2.2 (by omega)).mono ?_; rintro r8 w8 ⟨v8, rfl, hr8, b8⟩; obtain ⟨g8, c8, rfl, _, _, z0, z1, z2, z3, z4, z5⟩ := rec_last (n := nn) (a := t) (b := o) (c := a) (d := N) (x := bb) (f := c) hr8 (by unfold updC; rw [if_pos rfl]); have X8 := Lib.hid (X7.out.below b8 X7.out.lt); have V8 := Lib.hid (V7.out.below (only_far b8)); have S8 := Lib.hid (S7.out.below b8); have P8 := Lib.hid (P7.out.below b8); have Q8 := Lib.hid (Q7.out.below b8); have B8 := Lib.hid (B7.out.trans (b8.mono B7.out.size)); have x0 := X8.out.cell 0; have x1 := X8.out.cell 1; have x2 := X8.out.cell 2; have x3 := X8.out.cell 3; have x4 := X8.out.cell 4; have x5 := X8.out.cell 5; simp at x0 x1 x2 x3 x4 x5; clear hr8 b8))
            have k0 := fun d os => cell_regrown z0 d os
            have k1 := fun d os => cell_regrown z1 d os
            have k2 := fun d os => cell_regrown z2 d os
            have k3 := fun d os => cell_regrown z3 d os
            have k4 := fun d os => cell_regrown z4 d os
            have k5 := fun d os => cell_regrown z5 d os
            have l0 := fun d os => cell_regrown x0 d os
            have l1 := fun d os => cell_regrown x1 d os
            have l2 := fun d os => cell_regrown x2 d os
            have l3 := fun d os => cell_regrown x3 d os
            have l4 := fun d os => cell_regrown x4 d os
            have l5 := fun d os => cell_regrown x5 d os
            clear x0 x1 x2 x3 x4 x5 z0 z1 z2 z3 z4 z5
            refine wp_region_quiet_below (by kernel_rfl) (by kernel_rfl) ?_
            repeat (quiet_step ((go_at_call 14; with_reducible exact Calls.regrown_of (HSZC.out _))))
            refine wpQuiet_nil ?_
            rintro _ ⟨⟨dq, osq⟩, rfl⟩
            have b9 := below_regrown w8 dq osq
            generalize grow (redrawn w8 dq) osq = w9 at b9 ⊢
            have X9 := Lib.hid (X8.out.below b9 X8.out.lt)
            have V9 := Lib.hid (V8.out.below (only_far b9))
            have S9 := Lib.hid (S8.out.below b9)
            have P9 := Lib.hid (P8.out.below b9)
            have Q9 := Lib.hid (Q8.out.below b9)
            have B9 := Lib.hid (B8.out.trans (b9.mono B8.out.size))
            clear b9 k0 k1 k2 k3 k4 k5 l0 l1 l2 l3 l4 l5
            go_wp2
            go_roundw
            case rel => exact ⟨i + 1, nn + 1, by go_num, by go_num, by omega, Lib.hid ⟨l, rv7, _, rd, wrn, S9.out, V9.out, HL.out, by have := HNI.out; omega, fun k hk => by have := HRD.out k hk; omega, fun k hk => by have := HWR.out k hk; omega, P9.out, Q9.out⟩, B9.out⟩
            case measure => simp [intOf] <;> omega
        · obtain rfl : i = mm := by omega
          obtain ⟨x, hx⟩ : ∃ x : ByteArray, x = ⟨((l.drop 0).take l.length).toArray⟩ := ⟨_, rfl⟩
          have hmt : Calls Try.prog 16 #[.pointer (some ⟨m, 0, none⟩), .int .i64 0, .int .i64 l.length] wz fun r w' => r = .returned (.tuple #[.string x, .int .i64 0]) ∧ wz = w' := by
            have h := mtext_any wz w.heap.size m l 0 l.length SZ.out.2.2.1.mem (by rw [HL.out]; exact Nat.le_trans HZ.out (by omega))
            have hk : chk l.length 0 (l.length : Int) = 0 := by
              unfold chk
              rw [if_neg (by omega), if_neg (by omega), if_neg (by omega), if_neg (by omega)]
            rw [hk, if_pos rfl] at h
            rw [hx]
            exact h
          have hrt := fun W (hW : Below wz.heap.size wz W) => rtext_any Ab capb l.length l (num_len l).symm 0 l.length W (VZ.out.below (only_far hW)).ints_at (by omega) (by rw [HL.out]; exact Nat.le_trans HZ.out (by omega))
          rw [← hx] at hrt
          have hsz := size_any wz w.heap.size m l SZ.out.2.2.1.mem
          have HMT := Lib.hid hmt
          have HRT := Lib.hid hrt
          have HSI := Lib.hid hsz
          clear hmt hrt hsz hx
          go_wp2_with (first
            | (go_at_call 17; refine HSI.out.mono ?_; rintro r7 w7 ⟨rfl, rfl⟩)
            | (go_at_call 16; refine HMT.out.mono ?_; rintro r7 w7 ⟨rfl, rfl⟩)
            | (go_at_call 7; refine (dlive_any _).mono ?_; rintro r7 w7 ⟨rfl, b7⟩; have B7 := Lib.hid b7; clear b7)
            | (go_at_call 18; refine (HRT.out _ B7.out).mono ?_; rintro r8 w8 ⟨rfl, b8⟩; have B8 := Lib.hid (B7.out.trans (b8.mono B7.out.size)); clear b8))
          go_ret
          exact ⟨by first | rfl | simp, HB.out.trans (B8.out.mono HB.out.size)⟩
end Go.Proofs.Ythlapnljinkekab

/- DmaPlays: each burst is done, or refused, as1 the document says, and what was refused is put down. -/
namespace Go.Proofs.Ythlapnljinkekab
open Go.RowKit Go.Lib Go.ChangeShapes Go.WideShapes Go.ChangeAt Go.Deep Go.Joins
set_option linter.unusedVariables false

theorem dplays_own : ownKnob Try.prog.godebug = none := by kernel_rfl
theorem dplays_laid : laidOutB Try.prog = true := by kernel_rfl
/-- Regions that came in: their numbers, which fit. -/
theorem dplays_regs {H : Type} {enc : TypeId × Value → H} {w : World} {base : Nat} {spare : Nat → Bool} {held : Bool} {A : Option Addr} {len cap fuel : Nat} {x : DataW H × List MemPlace}
    (h : DataW.trod enc Try.prog w base spare held fuel 22 [.slice A len cap] = some x) : len ≤ cap ∧ cap ≤ 9223372036854775807 ∧ ∃ d, Regs w A len cap d ∧ ∀ i, i < len → Fits (d i) := by
  obtain ⟨h1, h2, h3, h4⟩ := open_structs Try.underlying22 Try.underlying62 (by kernel_rfl) (by kernel_rfl) (by decide) h
  refine ⟨h1, by unfold maxLen at h2; omega, ?_⟩
  by_cases hp : 0 < len
  · obtain ⟨b, off, hA, hb, hc⟩ := h4 hp
    have hx : ∀ i, ∃ r : Reg, i < len → (w.cell? ⟨b, off + i * 3, none⟩ = some (.int .i64 r.1) ∧ w.cell? ⟨b, off + i * 3 + 1, none⟩ = some (.int .i64 r.2.1) ∧ w.cell? ⟨b, off + i * 3 + 2, none⟩ = some (.int .i64 r.2.2)) ∧ Fits r := by
      intro i
      by_cases hi : i < len
      · obtain ⟨v0, n0, y0, c0, r0⟩ := hc i hi 0 _ rfl
        obtain ⟨v1, n1, y1, c1, r1⟩ := hc i hi 1 _ rfl
        obtain ⟨v2, n2, y2, c2, r2⟩ := hc i hi 2 _ rfl
        obtain ⟨p, e0, _, w0⟩ := DataW.trod_int Try.underlying3 r0
        obtain ⟨q, e1, _, w1⟩ := DataW.trod_int Try.underlying3 r1
        obtain ⟨s, e2, _, w2⟩ := DataW.trod_int Try.underlying3 r2
        injection e0 with e0 _
        injection e1 with e1 _
        injection e2 with e2 _
        subst e0 e1 e2
        exact ⟨(p, q, s), fun _ => ⟨⟨c0, c1, c2⟩, fitI_of w0, fitI_of w1, fitI_of w2⟩⟩
      · exact ⟨(0, 0, 0), fun h => absurd h hi⟩
    exact ⟨fun i => Classical.choose (hx i), ⟨h3, fun _ => ⟨b, off, hA, hb, fun i hi => (Classical.choose_spec (hx i) hi).1⟩⟩, fun i hi => (Classical.choose_spec (hx i) hi).2⟩
  · exact ⟨fun _ => (0, 0, 0), ⟨h3, fun h => absurd h hp⟩, fun i hi => absurd hi (by omega)⟩

/-- Deeds that came in. -/
theorem dplays_deeds {H : Type} {enc : TypeId × Value → H} {w : World} {base : Nat} {spare : Nat → Bool} {held : Bool} {A : Option Addr} {len cap fuel : Nat} {x : DataW H × List MemPlace}
    (h : DataW.trod enc Try.prog w base spare held fuel 23 [.slice A len cap] = some x) : len ≤ cap ∧ cap ≤ 9223372036854775807 ∧ ∃ D, DeedsD w A len D ∧ ∀ i, i < len → fitI (D i).1 ∧ fitI (D i).2.1 ∧ fitI (D i).2.2.1 ∧ fitI (D i).2.2.2.1 := by
  obtain ⟨h1, h2, h3, h4⟩ := open_structs Try.underlying23 Try.underlying39 (by kernel_rfl) (by kernel_rfl) (by decide) h
  refine ⟨h1, by unfold maxLen at h2; omega, ?_⟩
  by_cases hp : 0 < len
  · obtain ⟨b, off, hA, hb, hc⟩ := h4 hp
    have hx : ∀ i, ∃ r : Int × Int × Int × Int × Bool × ByteArray, i < len → (w.cell? ⟨b, off + i * 6, none⟩ = some (.int .i64 r.1) ∧ w.cell? ⟨b, off + i * 6 + 1, none⟩ = some (.int .i64 r.2.1) ∧ w.cell? ⟨b, off + i * 6 + 2, none⟩ = some (.int .i64 r.2.2.1) ∧ w.cell? ⟨b, off + i * 6 + 3, none⟩ = some (.int .i64 r.2.2.2.1) ∧ w.cell? ⟨b, off + i * 6 + 4, none⟩ = some (.bool r.2.2.2.2.1) ∧ w.cell? ⟨b, off + i * 6 + 5, none⟩ = some (.string r.2.2.2.2.2)) ∧ fitI r.1 ∧ fitI r.2.1 ∧ fitI r.2.2.1 ∧ fitI r.2.2.2.1 := by
      intro i
      by_cases hi : i < len
      · obtain ⟨v0, n0, y0, c0, r0⟩ := hc i hi 0 _ rfl
        obtain ⟨v1, n1, y1, c1, r1⟩ := hc i hi 1 _ rfl
        obtain ⟨v2, n2, y2, c2, r2⟩ := hc i hi 2 _ rfl
        obtain ⟨v3, n3, y3, c3, r3⟩ := hc i hi 3 _ rfl
        obtain ⟨v4, n4, y4, c4, r4⟩ := hc i hi 4 _ rfl
        obtain ⟨v5, n5, y5, c5, r5⟩ := hc i hi 5 _ rfl
        obtain ⟨t, e0, _, w0⟩ := DataW.trod_int Try.underlying3 r0
        obtain ⟨o, e1, _, w1⟩ := DataW.trod_int Try.underlying3 r1
        obtain ⟨a, e2, _, w2⟩ := DataW.trod_int Try.underlying3 r2
        obtain ⟨q, e3, _, w3⟩ := DataW.trod_int Try.underlying3 r3
        obtain ⟨b', e4, _⟩ := DataW.trod_bool Try.underlying4 r4
        obtain ⟨s, e5, _, _⟩ := DataW.trod_string Try.underlying9 r5
        injection e0 with e0 _
        injection e1 with e1 _
        injection e2 with e2 _
        injection e3 with e3 _
        injection e4 with e4 _
        injection e5 with e5 _
        subst e0 e1 e2 e3 e4 e5
        exact ⟨(t, o, a, q, b', s), fun _ => ⟨⟨c0, c1, c2, c3, c4, c5⟩, fitI_of w0, fitI_of w1, fitI_of w2, fitI_of w3⟩⟩
      · exact ⟨(0, 0, 0, 0, false, .empty), fun h => absurd h hi⟩
    exact ⟨fun i => Classical.choose (hx i), fun _ => ⟨b, off, hA, hb, fun i hi => (Classical.choose_spec (hx i) hi).1⟩, fun i hi => (Classical.choose_spec (hx i) hi).2⟩
  · exact ⟨fun _ => (0, 0, 0, 0, false, .empty), fun h => absurd h hp, fun i hi => absurd hi (by omega)⟩

set_option maxRecDepth 100000 in
theorem dplays_lifted (os : Os) (started : os.Started) (H : Type) (enc : TypeId × Value → H) :
    ReturnsInHanded {} Try.checked os 3 .any (Rows.dmaPlaysSpec.pre6 enc Try.prog Try.f3 Rows.dmaPlaysRow.domain false) (Rows.dmaPlaysSpec.post enc Try.prog Try.f3 false true false false) := by
  refine returnsInHanded_of_change (C := Try.checked) dplays_own started (by kernel_rfl) Try.func3
    (ChangeSpec.witness6 (enc := enc) (C := Try.checked) false ⟨#[], #[.int .i64 0, .slice none 0 0, .slice none 0 0], []⟩ 8 (by kernel_rfl) (by kernel_rfl) (by kernel_rfl) (by kernel_rfl)) ?_
  intro W base args ds gs before hval0 hW hcnd _
  have hval : ∀ (j : Nat) t v, Try.f3.params[j]? = some t → args[j]? = some v → Value.okWide Try.prog W .any base t v := hval0
  have hW' := hW
  obtain ⟨p, q, hA0, hV, rfl, hfz, hnd⟩ := hW
  have hA : DataW.TrodAll enc Try.prog W 0 (fun _ => true) true Try.f3.params.toList args.toList ds p := hA0
  rw [Try.params3] at hA hval
  obtain ⟨v0, vs0, d0, ds0, p0, q0, hargs, rfl, rfl, h0, r0⟩ := trodAll_cons hA
  obtain ⟨v1, vs1, d1, ds1, p1, q1, rfl, rfl, rfl, h1, r1⟩ := trodAll_cons r0
  obtain ⟨v2, vs2, d2, ds2, p2, q2, rfl, rfl, rfl, h2, r2⟩ := trodAll_cons r1
  obtain ⟨rfl, rfl, rfl⟩ := trodAll_nil r2
  obtain rfl : args = #[v0, v1, v2] := by cases args; simp_all
  obtain ⟨rfl, rfl⟩ := trodVars_none hV
  obtain ⟨a0, rfl, rfl, rfl, w0⟩ := open_int Try.underlying3 (hval 0 3 v0 rfl rfl) h0
  obtain ⟨A1, len1, cap1, rfl⟩ := okWide_slice Try.underlying22 (hval 1 22 v1 rfl rfl)
  have k1 := h1
  have lt1 : ∀ x ∈ p1, x.block < W.heap.size := by obtain ⟨m, hm⟩ := k1; exact DataW.trod_lt m _ _ _ hm
  obtain ⟨fuel1, hf1⟩ := h1
  obtain ⟨hlc1, hcm1, D1, hst1, hfit1⟩ := dplays_regs (by simpa [Value.cells] using hf1)
  obtain ⟨A2, len2, cap2, rfl⟩ := okWide_slice Try.underlying23 (hval 2 23 v2 rfl rfl)
  have k2 := h2
  have lt2 : ∀ x ∈ p2, x.block < W.heap.size := by obtain ⟨m, hm⟩ := k2; exact DataW.trod_lt m _ _ _ hm
  obtain ⟨fuel2, hf2⟩ := h2
  obtain ⟨hlc2, hcm2, D2, hst2, hfit2⟩ := dplays_deeds (by simpa [Value.cells] using hf2)
  clear hA0 hval0
  refine (dplays_walk a0 A1 len1 cap1 D1 A2 len2 cap2 D2 W hst1 hfit1 hlc1 hcm1 hst2 hfit2 hlc2 hcm2).mono fun e W' ⟨he, bel⟩ => ?_
  subst he
  exact ⟨_, rfl, _, _, _, [], _, [], hW', trodAll_mk1 (shut_bool Try.underlying4 _), (trodAll_cons_mk (shut_int Try.underlying3 w0) (trodAll_cons_mk (Below.trod dplays_laid (by kernel_rfl) (of_decide_eq_true (by kernel_rfl)) k1 bel lt1) (trodAll_cons_mk (Below.trod dplays_laid (by kernel_rfl) (of_decide_eq_true (by kernel_rfl)) k2 bel lt2) trodAll_mk0))), rfl, bel.frame _, fun h => by cases h⟩

theorem dplays_holds : Rows.DmaPlaysSaid :=
  OpenClaim.holds_of_wide 3 Try.f3 rfl rfl rfl rfl rfl rfl rfl ⟨rfl, rfl, rfl, rfl, rfl⟩ rfl rfl rfl rfl rfl (by kernel_rfl) Try.func3 (by kernel_rfl)
    (of_decide_eq_true (by kernel_rfl)) (by unfold Func.isWrapper; first | (rw [if_pos (by decide +kernel)]; kernel_rfl) | (rw [if_neg (by decide +kernel)]; exact ⟨rfl, rfl⟩))
    (fun os started H enc _ => dplays_lifted os started H enc)
#print axioms dplays_holds
end Go.Proofs.Ythlapnljinkekab
