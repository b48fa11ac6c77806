import Derived.Test.YthlapnljinkekabJF05
set_option linter.all false
/- A burst that reads: move, Read: their contracts. -/
namespace Go.Proofs.Ythlapnljinkekab
open Go.RowKit Go.Lib Go.Sort
set_option linter.unusedVariables false

/-- What a burst that reads may change: that, and the block of its string. -/
def BurstR (e g : Nat) (rv : Value) (bs i : Nat) : Prop := Burst e g rv i ∨ i = bs
def RefR (B e m g t : Nat) (L : List Reg) (l : List UInt8) (rv : Value) (n : Nat) (rc : Nat → Rec) (rd wr : Nat → Int) (bs : Nat) (x : ByteArray) (w w' : World) : Prop :=
  ∃ rv', StG w' B e m g t L l rv' n rc rd wr ∧ (rv'.ownBlock = rv.ownBlock ∨ ∃ k, rv'.ownBlock = some k ∧ w.heap.size ≤ k) ∧ Keeps (BurstR e g rv bs) w w' ∧ Blk w' bs 9 #[.string x]
def DoneR (B e m g t : Nat) (L : List Reg) (l : List UInt8) (rv : Value) (n : Nat) (rc : Nat → Rec) (rd wr : Nat → Int) (bs : Nat) (x : ByteArray) (w w' : World) : Prop := StG w' B e m g t L l rv n rc rd wr ∧ Keeps (BurstR e g rv bs) w w' ∧ Blk w' bs 9 #[.string x]
/-- The end of a refused burst. -/
theorem ref_finr {w w2 w3 : World} {B e m g t : Nat} {L : List Reg} {l : List UInt8} {rv : Value} {n : Nat} {rc : Nat → Rec} {rd wr : Nat → Int} {r : Rec} {g' cap' bs : Nat} {x : ByteArray} (hBe : B ≤ e) (E2 : EngG w2 e m t rv rd wr) (M2 : MemG w2 B m g l) (T2 : TabV w2 B t L) (R2 : RecV w2 B rv n rc) (K2 : Keeps (BurstR e g rv bs) w w2) (S2 : Blk w2 bs 9 #[.string x])
    (G3 : w2.grownBy w3 rv.ownBlock) (E3 : EngG w3 e m t rv rd wr) (OWN : w3.ownsRow B 45 6 (.slice (some ⟨g', 0, none⟩) (n + 1) cap') (n + 1) (rcCells n rc ++ recCells r)) (AT : rv.ownBlock = some g' ∨ w.heap.size ≤ g') :
    RefR B e m g t L l rv (n + 1) (updC rc n r) rd wr bs x w (w3.setCell ⟨e, 2, none⟩ (.slice (some ⟨g', 0, none⟩) (n + 1) cap')) := by
  have hs : w3.grownBy (w3.setCell ⟨e, 2, none⟩ (.slice (some ⟨g', 0, none⟩) (n + 1) cap')) (some e) := only_put (only_refl _ _) _ _
  have R3 : RecV w3 B (.slice (some ⟨g', 0, none⟩) (n + 1) cap') (n + 1) (updC rc n r) := by
    show w3.ownsRow _ _ _ _ _ _
    rw [← rcCells_upd]
    exact OWN
  have hmg := MemG.eng E2 M2
  have M3 : MemG w3 B m g l := ⟨M2.1, M2.2.1, M2.2.2.1.only G3 (fun h => (M2.apart R2).2 h.symm), M2.2.2.2.only G3 (fun h => (M2.apart R2).1 h.symm)⟩
  have T3 : TabV w3 B t L := T2.stays G3 (fun k hk => by obtain ⟨cur, hc⟩ := R2.has hk; exact ⟨_, _, hc, by decide⟩)
  refine ⟨_, ⟨hBe, E3.setRecs _, M3.far hs (fun h => hmg.1 h.symm) (fun h => hmg.2 h.symm), T3.stays hs (fun k hk => by injection hk with hk; subst hk; obtain ⟨cs, h0, _⟩ := E3; exact ⟨_, _, h0, by decide⟩), R3.only hs (.inr (E3.apart R3))⟩, ?_, ?_, ?_⟩
  · rcases AT with h | h
    · exact .inl (by rw [h]; rfl)
    · exact .inr ⟨g', rfl, h⟩
  · refine K2.trans ⟨hs.os.trans G3.os, hs.tape.trans G3.tape, hs.output.trans G3.output, Nat.le_trans G3.size hs.size, fun i hi hn => ?_⟩
    rw [hs.block i (Nat.lt_of_lt_of_le hi G3.size) (fun h => hn (.inl (.inl (by injection h))))]
    exact G3.block i hi (fun h => hn (.inl (.inr (.inr h.symm))))
  · have h1 : Blk w3 bs 9 #[.string x] := S2.only G3 (fun h => own_ne R2 S2 (by decide) h.symm)
    obtain ⟨cs, h0, _⟩ := E3
    exact h1.far (fun h => h1.differ h0 (by decide) h) _

theorem mover_bad (w : World) (B e m g t be bn bs : Nat) (L : List Reg) (rv : Value) (n : Nat) (rc : Nat → Rec) (rd wr : Nat → Int) (l : List UInt8) (tick o a q x : Int) (hst : StG w B e m g t L l rv n rc rd wr) (hbe : w.cell? ⟨be, 0, none⟩ = some (.pointer (some ⟨e, 0, none⟩))) (hbn : w.cell? ⟨bn, 0, none⟩ = some (.int .i64 q)) (hbs : Blk w bs 9 #[.string .empty]) (hm : AllMay L) (ho : fitI o) (ha : fitI a) (hl : l.length ≤ 16384) (hB : B ≤ w.heap.size) (hn : n ≤ 1000) {c : Int} (hc : (askV L l.length o a q).2 = c) (hc0 : c ≠ 0) :
    Calls Try.prog 34 #[.pointer (some ⟨e, 0, none⟩), .agg #[.int .i64 tick, .int .i64 o, .int .i64 a, .int .i64 q, .bool false, .int .i64 x], .func (.func 39) #[] #[.pointer (some ⟨be, 0, none⟩), .pointer (some ⟨bn, 0, none⟩), .pointer (some ⟨bs, 0, none⟩)]] w fun r w' => r = .returned (.int .i64 c) ∧ RefR B e m g t L l rv (n + 1) (updC rc n (tick, o, a, q, false, c)) rd wr bs .empty w w' := by
  have htry := fun W (hW : Below w.heap.size w W) => tryr_any W B e m g t be bn bs L rv n rc rd wr l tick o a q x ⟨hst.1, hst.2.1.below hW, hst.2.2.1.below hW, hst.2.2.2.1.below hW, hst.2.2.2.2.grown (only_far hW)⟩ ((hW.cell (p := ⟨be, 0, none⟩) (World.block_lt_of_cell? _ _ hbe)).trans hbe) ((hW.cell (p := ⟨bn, 0, none⟩) (World.block_lt_of_cell? _ _ hbn)).trans hbn) (hbs.below hW hbs.lt) hm ho ha hl
  have hw : rdS L l o a q = .empty := by unfold rdS; rw [hc, if_neg hc0]
  simp only [hc, hw] at htry
  have HTRY := Lib.hid htry
  have HST := Lib.hid hst
  have HBS := Lib.hid hbs
  have hcb : (c != 0) = true := by simpa using hc0
  have HB0 := Lib.hid ((Below.refl w.heap.size w).alloc (Nat.le_refl _) (.cells #[.int .i64 tick, .int .i64 o, .int .i64 a, .int .i64 q, .bool false, .int .i64 x] 45))
  clear htry hst hbe hbn hbs hw hc
  go_enter Try.func34, Try.ntmps34
  go_wp2_with (go_at_call 47; refine (HTRY.out _ HB0.out).mono ?_; rintro r w1 ⟨rfl, hS1, hg1⟩; have S1 := Lib.hid hS1; have G1 := Lib.hid (only_trans (only_alloc (only_refl w (some bs)) _) hg1); have X1 := Lib.hid ((Blk.new w 45 #[.int .i64 tick, .int .i64 o, .int .i64 a, .int .i64 q, .bool false, .int .i64 x]).only hg1 (by have := HBS.out.lt; intro h; injection h with h; omega)); have x0 := X1.out.cell 0; have x1 := X1.out.cell 1; have x2 := X1.out.cell 2; have x3 := X1.out.cell 3; have x4 := X1.out.cell 4; have x5 := X1.out.cell 5; have y5 := X1.out.free 5; simp at x0 x1 x2 x3 x4 x5; clear hS1 hg1)
  obtain ⟨hBe, hE0, hM0, hT0, hR0⟩ := HST.out
  have hg0 := hM0.lt.1
  -- the world behind the error's store
  have hebs : e ≠ bs := by obtain ⟨cs, h0, _⟩ := hE0; exact h0.differ HBS.out (by decide)
  have hE1 := hE0.only G1.out (fun h => hebs (by injection h))
  have hR1 := hR0.only G1.out (.inr (own_ne hR0 HBS.out (by decide)))
  have hM1 := hM0.far G1.out (hM0.2.2.2.differ HBS.out (by decide)) (hM0.2.2.1.differ HBS.out (by decide))
  obtain ⟨w2, hw2⟩ : ∃ w2, w2 = w1.setCell ⟨w.heap.size, 5, none⟩ (.int .i64 c) := ⟨_, rfl⟩
  have hg2 : w1.grownBy w2 (some w.heap.size) := by rw [hw2]; exact only_put (only_refl _ _) _ _
  have hX2 : Blk w2 w.heap.size 45 #[.int .i64 tick, .int .i64 o, .int .i64 a, .int .i64 q, .bool false, .int .i64 c] := by rw [hw2]; exact X1.out.put 5 _
  have hlt1 : ∀ {k : Nat}, k < w.heap.size → (some k : Option Nat) ≠ some w.heap.size := fun hk h => by injection h with h; omega
  have hE2 : EngG w2 e m t rv rd wr := hE1.only hg2 (hlt1 hE0.lt)
  have hR2 : RecV w2 B rv n rc := hR1.only hg2 (.inr (fun h => by have := (hR0.blk _ h).2; omega))
  have hM2 : MemG w2 B m g l := hM1.far hg2 (Nat.ne_of_lt hg0) (Nat.ne_of_lt hM0.lt.2)
  have hT2 : TabV w2 B t L := by
    obtain ⟨b, hTb⟩ := hT0
    have htb : t < w.heap.size := hTb.2.2.1.lt
    have hbb : b < w.heap.size := hTb.2.2.2.lt
    have h1 : TabG w1 B t b L := hTb.only G1.out (fun h => hTb.2.2.1.differ HBS.out (by decide) (by injection h)) (fun h => hTb.2.2.2.apart HBS.out (by injection h))
    exact ⟨b, h1.only hg2 (hlt1 htb) (hlt1 hbb)⟩
  rw [← hw2]
  have hk2 : Keeps (BurstR e g rv bs) w w2 := (Keeps.of_only G1.out (fun k hk => by injection hk with hk; subst hk; exact .inr rfl)).trans2 hg2
  have hS2 := S1.out.only hg2 (hlt1 HBS.out.lt)
  have HS2 := Lib.hid hS2
  have c2 := hE2.recs
  have f2 := hE2.free 2
  have HE2 := Lib.hid hE2
  have HR2 := Lib.hid hR2
  have HM2 := Lib.hid hM2
  have HT2 := Lib.hid hT2
  have HX2 := Lib.hid hX2
  have HK2 := Lib.hid hk2
  have HBW : Hid (B ≤ w2.heap.size) := Nat.le_trans hB (hk2.2.2.2.1)
  have z0 : w2.cell? ⟨w.heap.size, 0, none⟩ = some (.int .i64 tick) := hX2.cell 0
  have z1 : w2.cell? ⟨w.heap.size, 1, none⟩ = some (.int .i64 o) := hX2.cell 1
  have z2 : w2.cell? ⟨w.heap.size, 2, none⟩ = some (.int .i64 a) := hX2.cell 2
  have z3 : w2.cell? ⟨w.heap.size, 3, none⟩ = some (.int .i64 q) := hX2.cell 3
  have z4 : w2.cell? ⟨w.heap.size, 4, none⟩ = some (.bool false) := hX2.cell 4
  have z5 : w2.cell? ⟨w.heap.size, 5, none⟩ = some (.int .i64 c) := hX2.cell 5
  have c2' : (w2.alloc (.cells #[.int .i64 tick, .int .i64 o, .int .i64 a, .int .i64 q, .bool false, .int .i64 c] 45)).cell? ⟨e, 2, none⟩ = some rv := (hE2.only (only_alloc (only_refl _ none) _) (by simp)).recs
  have HOB := Lib.hid (fun k (h : rv.ownBlock = some k) => (hR0.blk k h).2)
  have HBE := Lib.hid hBe
  have HLW := Lib.hid hk2.2.2.2.1
  clear hE2 hR2 hM2 hT2 hX2 hk2 hg2 hlt1 hw2 hE1 hR1 hM1 hS2 hebs hE0 hM0 hT0 hR0 hBe hg0 x0 x1 x2 x3 x4 x5 y5 S1 G1 X1 HTRY HB0
  obtain ⟨i0, hi0, hz0, hz1, hz2⟩ := info_parts rec_info
  obtain ⟨Av, cv, rfl⟩ := HR2.out.form
  have hnews : ∀ j u, (recCells (tick, o, a, q, false, c))[j]? = some u → (w2.alloc (.cells #[.int .i64 tick, .int .i64 o, .int .i64 a, .int .i64 q, .bool false, .int .i64 c] 45)).drew.cell? ((⟨w2.heap.size, 0, none⟩ : Addr).add j) = some u :=
    World.news_of_block (cs := #[.int .i64 tick, .int .i64 o, .int .i64 a, .int .i64 q, .bool false, .int .i64 c]) (show (w2.alloc (.cells #[.int .i64 tick, .int .i64 o, .int .i64 a, .int .i64 q, .bool false, .int .i64 c] 45)).drew.heap[w2.heap.size]? = some (.cells #[.int .i64 tick, .int .i64 o, .int .i64 a, .int .i64 q, .bool false, .int .i64 c] 45 (0, 0)) from Blk.new w2 _ _)
  have HNEWS := Lib.hid hnews
  have hap : ∀ w3, (w2.alloc (.cells #[.int .i64 tick, .int .i64 o, .int .i64 a, .int .i64 q, .bool false, .int .i64 c] 45)).drew.grownBy w3 (Value.slice Av n cv).ownBlock → EngG w3 e m t (.slice Av n cv) rd wr ∧ w2.grownBy w3 (Value.slice Av n cv).ownBlock := fun w3 h => by
    have h1 : w2.grownBy w3 (Value.slice Av n cv).ownBlock := only_trans (show w2.grownBy (w2.alloc (.cells #[.int .i64 tick, .int .i64 o, .int .i64 a, .int .i64 q, .bool false, .int .i64 c] 45)).drew _ from only_drewN (only_alloc (only_refl _ _) _) 1) h
    exact ⟨HE2.out.only h1 (fun e1 => HE2.out.apart HR2.out e1.symm), h1⟩
  have HAP := Lib.hid hap
  clear hnews hap
  go_region_law (refine step_append_lies _ rfl (.tmp 21) (.tmp 23) 42 rfl B 45 i0 _ 6 48 Try.underlying42 hi0 hz0 hz1 hz2 rfl (by decide) (.slice Av n cv) n (rcCells n rc) (by simp [Act.eval, Act.put]) (World.ownsRow.alloc (w := w2.drew) HR2.out _) ⟨w2.heap.size, 0, none⟩ 1 1 (recCells (tick, o, a, q, false, c)) (by simp [Act.eval, Act.put]) rfl HNEWS.out (recCells_cell _) (by omega) (by unfold maxLen; omega) (by omega) (by have := HBW.out; simp; omega) _ rfl ?_; intro g' cap' w3 hown3 hg3 hat3 hlt3; have E3 := Lib.hid (HAP.out _ hg3).1; have G3 := Lib.hid (HAP.out _ hg3).2; have s0 := E3.out.recs; have s1 := E3.out.free 2; have OWN3 := Lib.hid hown3; have AT3 := Lib.hid hat3; clear hown3 hg3 hat3)
  all_goals
    have FIN := Lib.hid (ref_finr (r := (tick, o, a, q, false, c)) HBE.out HE2.out HM2.out HT2.out HR2.out HK2.out HS2.out G3.out E3.out OWN3.out (AT3.out.elim (fun h => .inl h) (fun h => .inr (by rw [h]; have := HLW.out; simp; omega))))
    have X4 := Lib.hid ((HX2.out.only G3.out (fun h => by have := HOB.out _ h.symm; omega)).far (p := ⟨e, 2, none⟩) (fun h => by have := HE2.out; obtain ⟨cs, h0, _⟩ := this; exact HX2.out.differ h0 (by decide) h) (.slice (some ⟨g', 0, none⟩) (n + 1) cap'))
    have z6 := X4.out.cell 5
    simp at z6
    generalize w3.setCell ⟨e, 2, none⟩ (.slice (some ⟨g', 0, none⟩) (n + 1) cap') = w4 at FIN X4 z6 ⊢
    clear z0 z1 z2 z3 z4 z5 c2 c2' f2 s0 s1
    go_wp2
    go_ret
    exact ⟨rfl, FIN.out⟩

theorem done_finr {w w2 : World} {B e m g t : Nat} {L : List Reg} {l : List UInt8} {rv : Value} {n : Nat} {rc : Nat → Rec} {rd wr rd' wr' : Nat → Int} {i bs : Nat} {x : ByteArray} {u : Value} (hBe : B ≤ e) (E2 : EngG w2 e m t rv rd wr) (M2 : MemG w2 B m g l) (T2 : TabV w2 B t L) (R2 : RecV w2 B rv n rc) (K2 : Keeps (BurstR e g rv bs) w w2) (S2 : Blk w2 bs 9 #[.string x])
    (E3 : EngG (w2.setCell ⟨e, i, none⟩ u) e m t rv rd' wr') : DoneR B e m g t L l rv n rc rd' wr' bs x w (w2.setCell ⟨e, i, none⟩ u) := by
  have hs : w2.grownBy (w2.setCell ⟨e, i, none⟩ u) (some e) := only_put (only_refl _ _) _ _
  have hmg := MemG.eng E2 M2
  refine ⟨⟨hBe, E3, M2.far hs (fun h => hmg.1 h.symm) (fun h => hmg.2 h.symm), T2.stays hs (fun k hk => by injection hk with hk; subst hk; obtain ⟨cs, h0, _⟩ := E2; exact ⟨_, _, h0, by decide⟩), R2.only hs (.inr (E2.apart R2))⟩, ?_, ?_⟩
  · exact K2.trans (Keeps.of_only hs (fun k hk => by injection hk with hk; exact .inl (.inl hk.symm)))
  · obtain ⟨cs, h0, _⟩ := E2
    exact S2.far (fun h => S2.differ h0 (by decide) h) _
theorem DoneR.drew {w w' : World} {B e m g t : Nat} {L : List Reg} {l : List UInt8} {rv : Value} {n : Nat} {rc : Nat → Rec} {rd wr : Nat → Int} {bs : Nat} {x : ByteArray} (h : DoneR B e m g t L l rv n rc rd wr bs x w w') (q : Nat) : DoneR B e m g t L l rv n rc rd wr bs x w (w'.drewN q) := by
  obtain ⟨⟨h1, h2, h3, h4, h5⟩, h6, h7⟩ := h
  exact ⟨⟨h1, h2.only (only_drewN (only_refl _ none) q) (by simp), h3.drewN q, h4.stays (only_drewN (only_refl _ none) q) (by simp), h5.grown (only_drewN (only_refl _ none) q)⟩, h6.trans (Keeps.of_only (only_drewN (only_refl _ none) q) (by simp)), h7.drewN q⟩

theorem mover_ok (w : World) (B e m g t be bn bs : Nat) (L : List Reg) (rv : Value) (n : Nat) (rc : Nat → Rec) (rd wr : Nat → Int) (l : List UInt8) (tick o a q x : Int) (hst : StG w B e m g t L l rv n rc rd wr) (hbe : w.cell? ⟨be, 0, none⟩ = some (.pointer (some ⟨e, 0, none⟩))) (hbn : w.cell? ⟨bn, 0, none⟩ = some (.int .i64 q)) (hbs : Blk w bs 9 #[.string .empty]) (hm : AllMay L) (ho : fitI o) (ha : fitI a) (hl : l.length ≤ 16384) (hB : B ≤ w.heap.size) (hn : n ≤ 1000) (hc : (askV L l.length o a q).2 = 0) (hrd : ∀ k, k < 9 → 0 ≤ rd k ∧ rd k ≤ 1000000) :
    Calls Try.prog 34 #[.pointer (some ⟨e, 0, none⟩), .agg #[.int .i64 tick, .int .i64 o, .int .i64 a, .int .i64 q, .bool false, .int .i64 x], .func (.func 39) #[] #[.pointer (some ⟨be, 0, none⟩), .pointer (some ⟨bn, 0, none⟩), .pointer (some ⟨bs, 0, none⟩)]] w fun r w' => r = .returned (.int .i64 0) ∧ DoneR B e m g t L l rv n rc (updI rd o.toNat (rd o.toNat + q)) wr bs (rdS L l o a q) w w' := by
  have htry := fun W (hW : Below w.heap.size w W) => tryr_any W B e m g t be bn bs L rv n rc rd wr l tick o a q x ⟨hst.1, hst.2.1.below hW, hst.2.2.1.below hW, hst.2.2.2.1.below hW, hst.2.2.2.2.grown (only_far hW)⟩ ((hW.cell (p := ⟨be, 0, none⟩) (World.block_lt_of_cell? _ _ hbe)).trans hbe) ((hW.cell (p := ⟨bn, 0, none⟩) (World.block_lt_of_cell? _ _ hbn)).trans hbn) (hbs.below hW hbs.lt) hm ho ha hl
  simp only [hc] at htry
  obtain ⟨u1, u2, u3, u4, _⟩ := askV_ok hm hc
  obtain ⟨k, hk⟩ : ∃ k : Nat, o = k := ⟨o.toNat, by omega⟩
  subst hk
  have hk9 : k < 9 := by omega
  have hwk := hrd k hk9
  rw [Int.toNat_natCast]
  obtain ⟨xs, hl'⟩ : ∃ xs, xs = rdS L l (k : Int) a q := ⟨_, rfl⟩
  rw [← hl'] at htry ⊢
  have HTRY := Lib.hid htry
  have HST := Lib.hid hst
  have HBS := Lib.hid hbs
  have HB0 := Lib.hid ((Below.refl w.heap.size w).alloc (Nat.le_refl _) (.cells #[.int .i64 tick, .int .i64 (k : Int), .int .i64 a, .int .i64 q, .bool false, .int .i64 x] 45))
  clear htry hst hbe hbn hbs hc hrd hl' ho
  go_enter Try.func34, Try.ntmps34
  go_wp2_with (go_at_call 47; refine (HTRY.out _ HB0.out).mono ?_; rintro r w1 ⟨rfl, hS1, hg1⟩; have S1 := Lib.hid hS1; have G1 := Lib.hid (only_trans (only_alloc (only_refl w (some bs)) _) hg1); have X1 := Lib.hid ((Blk.new w 45 #[.int .i64 tick, .int .i64 (k : Int), .int .i64 a, .int .i64 q, .bool false, .int .i64 x]).only hg1 (by have := HBS.out.lt; intro h; injection h with h; omega)); have x0 := X1.out.cell 0; have x1 := X1.out.cell 1; have x2 := X1.out.cell 2; have x3 := X1.out.cell 3; have x4 := X1.out.cell 4; have x5 := X1.out.cell 5; have y5 := X1.out.free 5; simp at x0 x1 x2 x3 x4 x5; clear hS1 hg1)
  obtain ⟨hBe, hE0, hM0, hT0, hR0⟩ := HST.out
  have hg0 := hM0.lt.1
  -- the world behind the error's store
  have hebs : e ≠ bs := by obtain ⟨cs, h0, _⟩ := hE0; exact h0.differ HBS.out (by decide)
  have hE1 := hE0.only G1.out (fun h => hebs (by injection h))
  have hR1 := hR0.only G1.out (.inr (own_ne hR0 HBS.out (by decide)))
  have hM1 := hM0.far G1.out (hM0.2.2.2.differ HBS.out (by decide)) (hM0.2.2.1.differ HBS.out (by decide))
  obtain ⟨w2, hw2⟩ : ∃ w2, w2 = w1.setCell ⟨w.heap.size, 5, none⟩ (.int .i64 0) := ⟨_, rfl⟩
  have hg2 : w1.grownBy w2 (some w.heap.size) := by rw [hw2]; exact only_put (only_refl _ _) _ _
  have hX2 : Blk w2 w.heap.size 45 #[.int .i64 tick, .int .i64 (k : Int), .int .i64 a, .int .i64 q, .bool false, .int .i64 0] := by rw [hw2]; exact X1.out.put 5 _
  have hlt1 : ∀ {k : Nat}, k < w.heap.size → (some k : Option Nat) ≠ some w.heap.size := fun hk h => by injection h with h; omega
  have hE2 : EngG w2 e m t rv rd wr := hE1.only hg2 (hlt1 hE0.lt)
  have hR2 : RecV w2 B rv n rc := hR1.only hg2 (.inr (fun h => by have := (hR0.blk _ h).2; omega))
  have hM2 : MemG w2 B m g l := hM1.far hg2 (Nat.ne_of_lt hg0) (Nat.ne_of_lt hM0.lt.2)
  have hT2 : TabV w2 B t L := by
    obtain ⟨b, hTb⟩ := hT0
    have htb : t < w.heap.size := hTb.2.2.1.lt
    have hbb : b < w.heap.size := hTb.2.2.2.lt
    have h1 : TabG w1 B t b L := hTb.only G1.out (fun h => hTb.2.2.1.differ HBS.out (by decide) (by injection h)) (fun h => hTb.2.2.2.apart HBS.out (by injection h))
    exact ⟨b, h1.only hg2 (hlt1 htb) (hlt1 hbb)⟩
  rw [← hw2]
  have hk2 : Keeps (BurstR e g rv bs) w w2 := (Keeps.of_only G1.out (fun k hk => by injection hk with hk; subst hk; exact .inr rfl)).trans2 hg2
  have hS2 := S1.out.only hg2 (hlt1 HBS.out.lt)
  have c2 := hE2.rds hk9
  have f2 := hE2.free (3 + k)
  have hE3 := hE2.setRd hk9 (rd k + q)
  have hfin := done_finr hBe hE2 hM2 hT2 hR2 hk2 hS2 hE3
  have HFIN := Lib.hid hfin
  have z1 : w2.cell? ⟨w.heap.size, 1, none⟩ = some (.int .i64 (k : Int)) := hX2.cell 1
  have z3 : w2.cell? ⟨w.heap.size, 3, none⟩ = some (.int .i64 q) := hX2.cell 3
  clear hE2 hR2 hM2 hT2 hX2 hk2 hg2 hlt1 hw2 hE1 hR1 hM1 hS2 hebs hE0 hM0 hT0 hR0 hBe hg0 x0 x1 x2 x3 x4 x5 y5 S1 G1 X1 HTRY HB0 hE3 hfin HST
  have i1 : (k : Int) < 9 := by omega
  have i2 : (0 : Int) ≤ (k : Int) := by omega
  have i3 : IntKind.i64.wrap (rd k + q) = rd k + q := by rw [IntKind.wrap_i64]; omega
  go_region
  all_goals
    have FIN := Lib.hid (HFIN.out.drew 1)
    go_wp2
    go_ret
    exact ⟨rfl, FIN.out⟩

end Go.Proofs.Ythlapnljinkekab

/- Read of an engine; New, Moved, Records, Fork, and what a nil engine answers: their contracts. -/
namespace Go.Proofs.Ythlapnljinkekab
open Go.RowKit Go.Lib Go.Sort
set_option linter.unusedVariables false

/-- What Read leaves and answers. -/
def ReadV (B e m g t : Nat) (L : List Reg) (l : List UInt8) (rv : Value) (n : Nat) (rc : Nat → Rec) (rd wr : Nat → Int) (tick o a q : Int) (w : World) (r : Ending) (w' : World) : Prop :=
  r = .returned (.tuple #[.string (rdS L l o a q), .int .i64 (askV L l.length o a q).2]) ∧ (((askV L l.length o a q).2 ≠ 0 ∧ RefV B e m g t L l rv (n + 1) (updC rc n (tick, o, a, q, false, (askV L l.length o a q).2)) rd wr w w') ∨ ((askV L l.length o a q).2 = 0 ∧ DoneV B e m g t L l rv n rc (updI rd o.toNat (rd o.toNat + q)) wr w w'))
theorem Keeps.drop {w0 w w' : World} {e g : Nat} {rv : Value} {bs : Nat} (h : Keeps (BurstR e g rv bs) w w') (hb : Below w0.heap.size w0 w) (hbs : w0.heap.size ≤ bs) : Keeps (Burst e g rv) w0 w' :=
  ⟨h.1.trans hb.os, h.2.1.trans hb.tape, h.2.2.1.trans hb.output, Nat.le_trans hb.size h.2.2.2.1, fun i hi hn => (h.2.2.2.2 i (Nat.lt_of_lt_of_le hi hb.size) (fun x => x.elim hn (fun e => by omega))).trans (hb.block i hi)⟩
/-- What move leaves for Read. -/
def MoveR (B e m g t : Nat) (L : List Reg) (l : List UInt8) (rv : Value) (n : Nat) (rc : Nat → Rec) (rd wr : Nat → Int) (tick o a q : Int) (bs : Nat) (w : World) (r : Ending) (w' : World) : Prop :=
  r = .returned (.int .i64 (askV L l.length o a q).2) ∧ Blk w' bs 9 #[.string (rdS L l o a q)] ∧ (((askV L l.length o a q).2 ≠ 0 ∧ RefV B e m g t L l rv (n + 1) (updC rc n (tick, o, a, q, false, (askV L l.length o a q).2)) rd wr w w') ∨ ((askV L l.length o a q).2 = 0 ∧ DoneV B e m g t L l rv n rc (updI rd o.toNat (rd o.toNat + q)) wr w w'))
theorem mover_any (w0 w : World) (B e m g t be bn bs : Nat) (L : List Reg) (rv : Value) (n : Nat) (rc : Nat → Rec) (rd wr : Nat → Int) (l : List UInt8) (tick o a q x : Int) (hst : StG w B e m g t L l rv n rc rd wr) (hbe : w.cell? ⟨be, 0, none⟩ = some (.pointer (some ⟨e, 0, none⟩))) (hbn : w.cell? ⟨bn, 0, none⟩ = some (.int .i64 q)) (hbs : Blk w bs 9 #[.string .empty]) (hm : AllMay L) (ho : fitI o) (ha : fitI a) (hl : l.length ≤ 16384) (hB : B ≤ w.heap.size) (hn : n ≤ 1000) (hrd : ∀ k, k < 9 → 0 ≤ rd k ∧ rd k ≤ 1000000) (hb : Below w0.heap.size w0 w) (hb2 : w0.heap.size ≤ bs) :
    Calls Try.prog 34 #[.pointer (some ⟨e, 0, none⟩), .agg #[.int .i64 tick, .int .i64 o, .int .i64 a, .int .i64 q, .bool false, .int .i64 x], .func (.func 39) #[] #[.pointer (some ⟨be, 0, none⟩), .pointer (some ⟨bn, 0, none⟩), .pointer (some ⟨bs, 0, none⟩)]] w (MoveR B e m g t L l rv n rc rd wr tick o a q bs w0) := by
  by_cases hc : (askV L l.length o a q).2 = 0
  · exact (mover_ok w B e m g t be bn bs L rv n rc rd wr l tick o a q x hst hbe hbn hbs hm ho ha hl hB hn hc hrd).mono fun r w' ⟨h1, h2, h3, h4⟩ => ⟨by rw [h1, hc], h4, .inr ⟨hc, h2, h3.drop hb hb2⟩⟩
  · have hx : rdS L l o a q = .empty := by unfold rdS; rw [if_neg hc]
    exact (mover_bad w B e m g t be bn bs L rv n rc rd wr l tick o a q x hst hbe hbn hbs hm ho ha hl hB hn rfl hc).mono fun r w' ⟨h1, rv', h2, h3, h4, h5⟩ => ⟨h1, by rw [hx]; exact h5, .inl ⟨hc, rv', h2, h3.imp id (fun ⟨k, hk, hk2⟩ => ⟨k, hk, Nat.le_trans hb.size hk2⟩), h4.drop hb hb2⟩⟩

theorem eread_any (w : World) (B e m g t : Nat) (L : List Reg) (rv : Value) (n : Nat) (rc : Nat → Rec) (rd wr : Nat → Int) (l : List UInt8) (tick o a q : Int) (hst : StG w B e m g t L l rv n rc rd wr) (hm : AllMay L) (ho : fitI o) (ha : fitI a) (hl : l.length ≤ 16384) (hB : B ≤ w.heap.size) (hn : n ≤ 1000) (hrd : ∀ k, k < 9 → 0 ≤ rd k ∧ rd k ≤ 1000000) :
    Calls Try.prog 26 #[.pointer (some ⟨e, 0, none⟩), .int .i64 tick, .int .i64 o, .int .i64 a, .int .i64 q] w (ReadV B e m g t L l rv n rc rd wr tick o a q w) := by
  have hW : Below w.heap.size w (((w.alloc (.cells #[.pointer (some ⟨e, 0, none⟩)] 33)).alloc (.cells #[.int .i64 q] 3)).alloc (.cells #[.string .empty] 9)) := (((Below.refl _ _).alloc (Nat.le_refl _) _).alloc (by simp) _).alloc (by simp; omega) _
  have hc1 : (((w.alloc (.cells #[.pointer (some ⟨e, 0, none⟩)] 33)).alloc (.cells #[.int .i64 q] 3)).alloc (.cells #[.string .empty] 9)).cell? ⟨w.heap.size, 0, none⟩ = some (.pointer (some ⟨e, 0, none⟩)) := (((Blk.new w 33 #[.pointer (some ⟨e, 0, none⟩)]).alloc _).alloc _).cell 0
  have hc2 : (((w.alloc (.cells #[.pointer (some ⟨e, 0, none⟩)] 33)).alloc (.cells #[.int .i64 q] 3)).alloc (.cells #[.string .empty] 9)).cell? ⟨w.heap.size + 1, 0, none⟩ = some (.int .i64 q) := by
    have := ((Blk.new (w.alloc (.cells #[.pointer (some ⟨e, 0, none⟩)] 33)) 3 #[.int .i64 q]).alloc (.cells #[.string .empty] 9)).cell 0
    simpa using this
  have hc3 : Blk (((w.alloc (.cells #[.pointer (some ⟨e, 0, none⟩)] 33)).alloc (.cells #[.int .i64 q] 3)).alloc (.cells #[.string .empty] 9)) (w.heap.size + 1 + 1) 9 #[.string .empty] := by
    have := Blk.new ((w.alloc (.cells #[.pointer (some ⟨e, 0, none⟩)] 33)).alloc (.cells #[.int .i64 q] 3)) 9 #[.string .empty]
    simpa using this
  have HM2 := Lib.hid (mover_any w _ B e m g t w.heap.size (w.heap.size + 1) (w.heap.size + 1 + 1) L rv n rc rd wr l tick o a q 0 (hst.below hW) hc1 hc2 hc3 hm ho ha hl (Nat.le_trans hB hW.size) hn hrd hW (by omega))
  clear hst hrd hc1 hc2 hc3 hW
  go_enter Try.func26, Try.ntmps26
  go_wp2_with (go_at_call 34; refine HM2.out.mono ?_; rintro r w1 hV; obtain ⟨rfl, hS, hV2⟩ := hV; have HV := Lib.hid hV2; have s0 := hS.cell 0; simp at s0; clear hV2 hS)
  go_ret2
  exact ⟨rfl, HV.out⟩
end Go.Proofs.Ythlapnljinkekab

/- New, Moved, Records of an engine; what a nil engine answers: their contracts. -/
namespace Go.Proofs.Ythlapnljinkekab
open Go.RowKit Go.Lib Go.Sort
set_option linter.unusedVariables false

/-- The cells of a new engine. -/
def engCells (m t : Nat) : Array Value := #[.pointer (some ⟨m, 0, none⟩), .pointer (some ⟨t, 0, none⟩), .slice none 0 0, .int .i64 0, .int .i64 0, .int .i64 0, .int .i64 0, .int .i64 0, .int .i64 0, .int .i64 0, .int .i64 0, .int .i64 0, .int .i64 0, .int .i64 0, .int .i64 0, .int .i64 0, .int .i64 0, .int .i64 0, .int .i64 0, .int .i64 0, .int .i64 0]
theorem eng_of {w : World} {e m t : Nat} (h : Blk w e 77 (engCells m t)) : EngG w e m t (.slice none 0 0) (fun _ => 0) (fun _ => 0) := by
  refine ⟨_, h, rfl, rfl, rfl, rfl, fun k hk => ?_, fun k hk => ?_⟩
  · match k, hk with
    | 0, _ => rfl
    | 1, _ => rfl
    | 2, _ => rfl
    | 3, _ => rfl
    | 4, _ => rfl
    | 5, _ => rfl
    | 6, _ => rfl
    | 7, _ => rfl
    | 8, _ => rfl
  · match k, hk with
    | 0, _ => rfl
    | 1, _ => rfl
    | 2, _ => rfl
    | 3, _ => rfl
    | 4, _ => rfl
    | 5, _ => rfl
    | 6, _ => rfl
    | 7, _ => rfl
    | 8, _ => rfl
theorem rec_nil (w : World) (B : Nat) (rc : Nat → Rec) : RecV w B (.slice none 0 0) 0 rc := World.ownsRow_nil _ _ _ _
theorem enew_any (m t : Nat) (w : World) : Calls Try.prog 10 #[.pointer (some ⟨m, 0, none⟩), .pointer (some ⟨t, 0, none⟩)] w fun r w' => r = .returned (.pointer (some ⟨w.heap.size, 0, none⟩)) ∧ Blk w' w.heap.size 77 (engCells m t) ∧ Below w.heap.size w w' := by
  go_enter Try.func10, Try.ntmps10
  go_wp2
  go_ret
  exact ⟨rfl, Blk.new w _ _, (Below.refl _ _).alloc (Nat.le_refl _) _⟩
theorem moved_any {w : World} {e m t : Nat} {rv : Value} {rd wr : Nat → Int} (h : EngG w e m t rv rd wr) {o : Int} {k : Nat} (ho : o = k) (hk : k < 9) : Calls Try.prog 15 #[.pointer (some ⟨e, 0, none⟩), .int .i64 o] w fun r w' => r = .returned (.tuple #[.int .i64 (rd k), .int .i64 (wr k)]) ∧ ∃ q, w.drewN q = w' := by
  subst ho
  have c0 := h.rds hk
  have c1 := h.wrs hk
  have i1 : (k : Int) < 9 := by omega
  have i2 : (0 : Int) ≤ (k : Int) := by omega
  have i3 : ¬ (9 : Int) ≤ (k : Int) := by omega
  clear h
  go_enter Try.func15, Try.ntmps15
  go_wp2
  go_quiet (fail)
  go_wp2
  go_ret2
  exact ⟨rfl, nq, rfl⟩
theorem moved_off {w : World} {e : Nat} {o : Int} (ho : o < 0 ∨ 9 ≤ o) : Calls Try.prog 15 #[.pointer (some ⟨e, 0, none⟩), .int .i64 o] w fun r w' => r = .returned (.tuple #[.int .i64 0, .int .i64 0]) ∧ ∃ q, w.drewN q = w' := by
  rcases ho with ho | ho
  · go_enter Try.func15, Try.ntmps15
    go_wp2
    go_ret2
    exact ⟨rfl, 0, rfl⟩
  · have h1 : ¬ o < 0 := by omega
    go_enter Try.func15, Try.ntmps15
    go_wp2
    go_ret2
    exact ⟨rfl, 0, rfl⟩

theorem slice_nil (w : World) : (binOp BinOp.eql 42 (.slice none 0 0) (.slice none 0 0)).run Try.prog w = .ok (.bool true) w := by kernel_rfl
theorem slice_some (g n cap : Nat) (w : World) : (binOp BinOp.eql 42 (.slice (some ⟨g, 0, none⟩) n cap) (.slice none 0 0)).run Try.prog w = .ok (.bool false) w := by kernel_rfl
set_option maxRecDepth 100000 in
theorem clone_nil (w : World) : Calls Try.prog 32 #[.slice none 0 0] w fun r w' => r = .returned (.slice none 0 0) ∧ w = w' := by
  have hs := slice_nil w
  go_enter Try.func32, Try.ntmps32
  go_wp2
  go_ret
  exact ⟨rfl, rfl⟩
theorem rec_cells {w : World} {B g n cap : Nat} {rc : Nat → Rec} (h : RecV w B (.slice (some ⟨g, 0, none⟩) n cap) n rc) : ∀ j u, (rcCells n rc)[j]? = some u → w.cell? ((⟨g, 0, none⟩ : Addr).add j) = some u := fun j u hj => by
  have hjl : j < n * 6 := by
    rcases Nat.lt_or_ge j (n * 6) with q | q
    · exact q
    · rw [List.getElem?_eq_none (by rw [rcCells_len]; exact q)] at hj; cases hj
  have ha : (⟨g, 0, none⟩ : Addr).add j = ⟨g, j, none⟩ := by unfold Addr.add; split <;> simp_all
  rw [ha, World.ownsRow.cellAt h j hjl, hj]
set_option maxRecDepth 100000 in
theorem clone_any (w : World) (B : Nat) (v : Value) (n : Nat) (rc : Nat → Rec) (h : RecV w B v n rc) (hn : n ≤ 1000) : Calls Try.prog 32 #[v] w fun r w' => ∃ v', r = .returned v' ∧ RecV w' w.heap.size v' n rc ∧ Below w.heap.size w w' := by
  have h' : w.ownsRow B 45 6 v n (rcCells n rc) := h
  rcases h'.2 with ⟨rfl, hz⟩ | ⟨g, cap, cur, rfl, hB, hh, hcap, _⟩
  · obtain rfl : n = 0 := by
      have := rcCells_len n rc
      rw [hz] at this
      simp at this
      omega
    exact (clone_nil w).mono fun r w' ⟨h1, h2⟩ => by subst h2; exact ⟨_, h1, rec_nil _ _ _, Below.refl _ _⟩
  · obtain ⟨i0, hi0, hz0, hz1, hz2⟩ := info_parts rec_info
    have hcs := rec_cells h
    have hlt : g < w.heap.size := lt_of_block hh
    have hown : (w.alloc (.cells #[] 45)).ownsRow w.heap.size 45 6 (.slice (some ⟨w.heap.size, 0, none⟩) 0 0) 0 [] := ⟨rfl, .inr ⟨w.heap.size, 0, #[], rfl, Nat.le_refl _, Blk.new w _ _, by omega, by unfold maxLen; omega, rfl, rfl⟩⟩
    have hcs2 : ∀ j u, (rcCells n rc)[j]? = some u → (w.alloc (.cells #[] 45)).cell? ((⟨g, 0, none⟩ : Addr).add j) = some u := fun j u hj => by
      have e1 := hcs j u hj
      have ha : (⟨g, 0, none⟩ : Addr).add j = ⟨g, j, none⟩ := by unfold Addr.add; split <;> simp_all
      rw [ha] at e1 ⊢
      exact (((Below.refl w.heap.size w).alloc (Nat.le_refl _) _).cell (p := ⟨g, j, none⟩) hlt).trans e1
    have HCS := Lib.hid hcs2
    have HOWN := Lib.hid hown
    have HLEN := Lib.hid (rcCells_len n rc)
    have HONE := Lib.hid (rcCells_cell n rc)
    have hs := slice_some g n cap w
    clear h h' hh hcs hown hcs2
    go_enter Try.func32, Try.ntmps32
    go_wp2_with (at_builtin; refine wpList_append_own_at _ rfl (.tmp 5) (.tmp 6) 42 rfl w.heap.size 45 i0 _ 6 48 Try.underlying42 hi0 hz0 hz1 hz2 rfl (by decide) (.slice (some ⟨w.heap.size, 0, none⟩) 0 0) 0 [] rfl HOWN.out ⟨g, 0, none⟩ n _ (rcCells n rc) rfl HLEN.out HCS.out HONE.out (by unfold maxLen; omega) (by omega) (by simp) ?_; intro v1 w1 hown1 hg1 _ hat1; have O1 := Lib.hid hown1; have G1 := Lib.hid hg1; clear hown1 hg1 hat1)
    go_ret
    refine ⟨_, rfl, ?_, ?_⟩
    · have := O1.out
      simp only [Nat.zero_add, List.nil_append] at this
      exact this
    · exact ((Below.refl w.heap.size w).alloc (Nat.le_refl _) _).trans (below_of_only G1.out (by simp) (fun k hk => by simp [Value.ownBlock] at hk; omega))

/-- What Records answers. -/
def RecsV (n : Nat) (rc : Nat → Rec) (w : World) (r : Ending) (w' : World) : Prop := ∃ v', r = .returned v' ∧ RecV w' w.heap.size v' n rc ∧ Below w.heap.size w w'
theorem records_any {w : World} {B e m t n : Nat} {rv : Value} {rc : Nat → Rec} {rd wr : Nat → Int} (h : EngG w e m t rv rd wr) (hr : RecV w B rv n rc) (hn : n ≤ 1000) : Calls Try.prog 13 #[.pointer (some ⟨e, 0, none⟩)] w (RecsV n rc w) := by
  have c0 := h.recs
  have hc := fun q => clone_any (w.drewN q) B rv n rc (hr.grown (only_drewN (only_refl _ none) q)) hn
  have hc0 := clone_any w B rv n rc hr hn
  have HC := Lib.hid hc
  have HC0 := Lib.hid hc0
  obtain ⟨Av, cv, rfl⟩ := hr.form
  clear h hr hc hc0
  go_enter Try.func13, Try.ntmps13
  go_wp2_with (go_at_call 32; refine HC0.out.mono ?_; rintro r w1 ⟨v', rfl, h1, h2⟩; have H1 := Lib.hid h1; have H2 := Lib.hid h2; clear h1 h2)
  go_ret
  exact ⟨_, rfl, H1.out, H2.out⟩

/-! ### a nil engine -/
theorem nmove_w (be bs : Value) (b : Value) (w : World) (t o a n x : Int) : Calls Try.prog 34 #[.pointer none, .agg #[.int .i64 t, .int .i64 o, .int .i64 a, .int .i64 n, b, .int .i64 x], be] w fun r w' => r = .returned (.int .i64 1) ∧ Below w.heap.size w w' := by
  go_enter Try.func34, Try.ntmps34
  go_wp2
  go_ret
  exact ⟨rfl, (Below.refl _ _).alloc (Nat.le_refl _) _⟩
theorem nwrite_any (w : World) (t o a : Int) (s : ByteArray) : Calls Try.prog 20 #[.pointer none, .int .i64 t, .int .i64 o, .int .i64 a, .string s] w fun r w' => r = .returned (.int .i64 1) ∧ Below w.heap.size w w' := by
  have hb := ((Below.refl w.heap.size w).alloc (Nat.le_refl _) (.cells #[.pointer none] 33)).alloc (by simp) (.cells #[.string s] 9)
  have HB := Lib.hid hb
  clear hb
  go_enter Try.func20, Try.ntmps20
  go_wp2_with (go_at_call 34; refine (nmove_w _ (.int .i64 0) _ _ _ _ _ _ _).mono ?_; rintro r w1 ⟨rfl, b1⟩; have B1 := Lib.hid (HB.out.trans (b1.mono (by simp; omega))); clear b1)
  go_ret
  exact ⟨rfl, B1.out⟩
theorem nread_any (w : World) (t o a n : Int) : Calls Try.prog 26 #[.pointer none, .int .i64 t, .int .i64 o, .int .i64 a, .int .i64 n] w fun r w' => r = .returned (.tuple #[.string .empty, .int .i64 1]) ∧ Below w.heap.size w w' := by
  have hb := (((Below.refl w.heap.size w).alloc (Nat.le_refl _) (.cells #[.pointer none] 33)).alloc (by simp) (.cells #[.int .i64 n] 3)).alloc (by simp; omega) (.cells #[.string .empty] 9)
  have hc3 : Blk (((w.alloc (.cells #[.pointer none] 33)).alloc (.cells #[.int .i64 n] 3)).alloc (.cells #[.string .empty] 9)) (w.heap.size + 1 + 1) 9 #[.string .empty] := by
    have := Blk.new ((w.alloc (.cells #[.pointer none] 33)).alloc (.cells #[.int .i64 n] 3)) 9 #[.string .empty]
    simpa using this
  have HB := Lib.hid hb
  have HC := Lib.hid hc3
  clear hb hc3
  go_enter Try.func26, Try.ntmps26
  go_wp2_with (go_at_call 34; refine (nmove_w _ (.int .i64 0) _ _ _ _ _ _ _).mono ?_; rintro r w1 ⟨rfl, b1⟩; have B1 := Lib.hid (HB.out.trans (b1.mono (by simp; omega))); have s0 := (HC.out.below b1 HC.out.lt).cell 0; simp at s0; clear b1)
  go_ret2
  exact ⟨rfl, B1.out⟩
theorem nfork_any (w : World) (m : Nat) : Calls Try.prog 25 #[.pointer none, .pointer (some ⟨m, 0, none⟩)] w fun r w' => r = .returned (.pointer none) ∧ w = w' := by
  go_enter Try.func25, Try.ntmps25
  go_wp2
  go_ret
  exact ⟨rfl, rfl⟩
theorem nrecords_any (w : World) : Calls Try.prog 13 #[.pointer none] w fun r w' => r = .returned (.slice none 0 0) ∧ w = w' := by
  go_enter Try.func13, Try.ntmps13
  go_wp2
  go_ret
  exact ⟨rfl, rfl⟩
end Go.Proofs.Ythlapnljinkekab

/- What every law of package dma asks first. -/
namespace Go.Proofs.Ythlapnljinkekab
open Go.RowKit Go.Lib Go.Sort
set_option linter.unusedVariables false

theorem TabV.lower {w : World} {B B' t : Nat} {L : List Reg} (h : TabV w B t L) (hB : B' ≤ B) : TabV w B' t L := by
  obtain ⟨b, h1, h2, h3, h4⟩ := h
  exact ⟨b, Nat.le_trans hB h1, Nat.le_trans hB h2, h3, h4⟩
theorem MemG.lower' {w : World} {B B' m g : Nat} {l : List UInt8} (h : MemG w B m g l) (hB : B' ≤ B) : MemG w B' m g l := ⟨Nat.le_trans hB h.1, Nat.le_trans hB h.2.1, h.2.2.1, h.2.2.2⟩
/-- A burst stays in what the engine has. -/
theorem StG.burst {w w' : World} {B e m g t : Nat} {L : List Reg} {l : List UInt8} {rv : Value} {n : Nat} {rc : Nat → Rec} {rd wr : Nat → Int} (h : StG w B e m g t L l rv n rc rd wr) (k : Keeps (Burst e g rv) w w') (hB : B ≤ w.heap.size) : Below B w w' :=
  k.below hB fun i hi hs => by
    rcases hs with hs | hs | hs
    · have := h.1; omega
    · have := h.2.2.1.1; omega
    · have := (h.2.2.2.2.blk _ hs).1; omega
theorem tnew_dok {A : Option Addr} {n cap : Nat} {d : Nat → Reg} {w : World} (hst : Regs w A n cap d) (hf : ∀ i, i < n → Fits (d i)) (hn : n ≤ 20) (h0 : chkN d n = 0) :
    Calls Try.prog 9 #[.slice A n cap] w fun e w' => ∃ t, e = .returned (.tuple #[.pointer (some ⟨t, 0, none⟩), .int .i64 0]) ∧ TabV w' w.heap.size t (rws d n) ∧ Below w.heap.size w w' :=
  (tnew_any A n cap d w hst hf (by omega)).mono fun e w' ⟨hb, h⟩ => by
    rcases h with ⟨_, t, he, ht⟩ | ⟨hne, _⟩
    · exact ⟨t, he, ht, hb⟩
    · exact absurd h0 hne

/-- The last of some records, cell by cell. -/
theorem rec_last {w : World} {B n : Nat} {v : Value} {rc : Nat → Rec} {a b c d f : Int} {x : Bool} (h : RecV w B v (n + 1) rc) (hr : rc n = (a, b, c, d, x, f)) : ∃ g cap, v = .slice (some ⟨g, 0, none⟩) (n + 1) cap ∧ B ≤ g ∧ g < w.heap.size ∧
    w.cell? ⟨g, n * 6, none⟩ = some (.int .i64 a) ∧ w.cell? ⟨g, n * 6 + 1, none⟩ = some (.int .i64 b) ∧ w.cell? ⟨g, n * 6 + 2, none⟩ = some (.int .i64 c) ∧ w.cell? ⟨g, n * 6 + 3, none⟩ = some (.int .i64 d) ∧ w.cell? ⟨g, n * 6 + 4, none⟩ = some (.bool x) ∧ w.cell? ⟨g, n * 6 + 5, none⟩ = some (.int .i64 f) := by
  obtain ⟨g, cap, rfl, h1, h2⟩ := World.ownsRow.form h (by omega)
  have hc : ∀ j, j < 6 → w.cell? ⟨g, n * 6 + j, none⟩ = (recCells (rc n))[j]? := fun j hj => by
    rw [World.ownsRow.cellAt h _ (by omega), rcCells_last n rc hj]
  rw [hr] at hc
  exact ⟨g, cap, rfl, h1, h2, hc 0 (by omega), hc 1 (by omega), hc 2 (by omega), hc 3 (by omega), hc 4 (by omega), hc 5 (by omega)⟩

abbrev dlL : List Reg := [(1, 200, 64)]
abbrev abcd : ByteArray := ⟨#[97, 98, 99, 100]⟩
def zero400 : List UInt8 := List.replicate 400 0
def live400 : List UInt8 := over zero400 260 [97, 98, 99, 100]
theorem dl_may : AllMay dlL := fun r hr => by
  obtain rfl : r = (1, 200, 64) := by simpa using hr
  decide
theorem dl_new (W : World) (g c : Nat) (h : Blk W g 62 #[.int .i64 1, .int .i64 200, .int .i64 64]) : Calls Try.prog 9 #[.slice (some ⟨g, 0, none⟩) 1 c] W fun e w' => ∃ t, e = .returned (.tuple #[.pointer (some ⟨t, 0, none⟩), .int .i64 0]) ∧ TabV w' W.heap.size t dlL ∧ Below W.heap.size W w' := by
  have hr : Regs W (some ⟨g, 0, none⟩) 1 c (fun _ => (1, 200, 64)) := ⟨fun e => (by cases e), fun _ => ⟨g, 0, rfl, h.lt, fun i hi => by
    obtain rfl : i = 0 := by omega
    exact ⟨h.cell 0, h.cell 1, h.cell 2⟩⟩⟩
  exact tnew_dok hr (fun i _ => by unfold Fits fitI; simp) (by omega) (by decide)
def rcD : Nat → Rec := updC (fun _ => (0, 0, 0, 0, false, 0)) 0 (5, 1, 62, 4, true, 6)
theorem dl_len : zero400.length = 400 := by decide +kernel
theorem dl_len2 : live400.length = 400 := by decide +kernel
theorem dl_w1 {w : World} {B e m g t : Nat} (h : StG w B e m g t dlL zero400 (.slice none 0 0) 0 (fun _ => (0, 0, 0, 0, false, 0)) (fun _ => 0) (fun _ => 0)) (hB : B ≤ w.heap.size) :
    Calls Try.prog 20 #[.pointer (some ⟨e, 0, none⟩), .int .i64 5, .int .i64 1, .int .i64 62, .string abcd] w fun r w' => r = .returned (.int .i64 6) ∧ ∃ rv, StG w' B e m g t dlL zero400 rv 1 rcD (fun _ => 0) (fun _ => 0) ∧ Below B w w' := by
  have ha : askV dlL zero400.length 1 62 abcd.size = (0, 6) := by decide +kernel
  refine (ewrite_any w B e m g t dlL _ 0 _ _ _ zero400 5 1 62 abcd h dl_may (by decide) (by decide) (by rw [dl_len]; omega) (by decide +kernel) hB (by omega) (fun k _ => by omega)).mono ?_
  rintro r w' ⟨h1, h2⟩
  rw [ha] at h1 h2
  refine ⟨h1, ?_⟩
  rcases h2 with ⟨_, rv, q1, _, q3⟩ | ⟨q, _⟩
  · exact ⟨rv, q1, h.burst q3 hB⟩
  · simp at q
theorem dl_w2 {w : World} {B e m g t : Nat} {rv : Value} (h : StG w B e m g t dlL zero400 rv 1 rcD (fun _ => 0) (fun _ => 0)) (hB : B ≤ w.heap.size) :
    Calls Try.prog 20 #[.pointer (some ⟨e, 0, none⟩), .int .i64 6, .int .i64 1, .int .i64 60, .string abcd] w fun r w' => r = .returned (.int .i64 0) ∧ StG w' B e m g t dlL live400 rv 1 rcD (fun _ => 0) (updI (fun _ => 0) 1 4) ∧ Below B w w' := by
  have ha : askV dlL zero400.length 1 60 abcd.size = (260, 0) := by decide +kernel
  have hw : wrL dlL zero400 1 60 abcd = live400 := by unfold wrL; rw [ha]; rfl
  refine (ewrite_any w B e m g t dlL _ 1 _ _ _ zero400 6 1 60 abcd h dl_may (by decide) (by decide) (by rw [dl_len]; omega) (by decide +kernel) hB (by omega) (fun k _ => by omega)).mono ?_
  rintro r w' ⟨h1, h2⟩
  rw [ha] at h1 h2
  rw [hw] at h2
  refine ⟨h1, ?_⟩
  rcases h2 with ⟨q, _⟩ | ⟨_, q1, q3⟩
  · simp at q
  · exact ⟨q1, h.burst q3 hB⟩
theorem dl_r {w : World} {B e m g t : Nat} {rv : Value} (h : StG w B e m g t dlL live400 rv 1 rcD (fun _ => 0) (updI (fun _ => 0) 1 4)) (hB : B ≤ w.heap.size) :
    Calls Try.prog 26 #[.pointer (some ⟨e, 0, none⟩), .int .i64 7, .int .i64 1, .int .i64 61, .int .i64 2] w fun r w' => r = .returned (.tuple #[.string ⟨#[98, 99]⟩, .int .i64 0]) ∧ StG w' B e m g t dlL live400 rv 1 rcD (updI (fun _ => 0) 1 2) (updI (fun _ => 0) 1 4) ∧ Below B w w' := by
  have ha : askV dlL live400.length 1 61 2 = (261, 0) := by decide +kernel
  have hw : rdS dlL live400 1 61 2 = ⟨#[98, 99]⟩ := by unfold rdS; rw [ha]; decide +kernel
  refine (eread_any w B e m g t dlL _ 1 _ _ _ live400 7 1 61 2 h dl_may (by decide) (by decide) (by rw [dl_len2]; omega) hB (by omega) (fun k _ => by omega)).mono ?_
  rintro r w' ⟨h1, h2⟩
  rw [ha, hw] at h1
  rw [ha] at h2
  refine ⟨h1, ?_⟩
  rcases h2 with ⟨q, _⟩ | ⟨_, q1, q3⟩
  · simp at q
  · exact ⟨q1, h.burst q3 hB⟩

set_option maxRecDepth 100000 in
theorem dlive_any (w : World) : Calls Try.prog 7 #[] w fun e w' => e = .returned (.bool true) ∧ Below w.heap.size w w' := by
  have hn : Calls Try.prog 8 #[.int .i64 400] w fun r w' => ∃ m, r = .returned (.pointer (some ⟨m, 0, none⟩)) ∧ MemV w' w.heap.size m zero400 ∧ Below w.heap.size w w' := mnew_any 400 w
  have HN := Lib.hid hn
  clear hn
  go_enter Try.func7, Try.ntmps7
  go_wp2_with (first
    | (go_at_call 8; refine HN.out.mono ?_; rintro r w1 ⟨m, rfl, hm, b1⟩; obtain ⟨g, hg⟩ := hm.named; have M1 := Lib.hid hg; have B1 := Lib.hid b1; clear hm hg b1)
    | (go_at_call 9; refine (dl_new _ _ _ (Blk.new w1 _ _)).mono ?_; rintro r w2 ⟨t, rfl, ht, b2⟩; have hb2 := ((Below.refl w1.heap.size w1).alloc (Nat.le_refl _) (.cells #[.int .i64 1, .int .i64 200, .int .i64 64] 62)).trans (b2.mono (by simp)); have M2 := Lib.hid (M1.out.below hb2); have T2 := Lib.hid (ht.lower (show w.heap.size ≤ _ by have := B1.out.size; simp; omega)); have B2 := Lib.hid (B1.out.trans (hb2.mono B1.out.size)); clear ht b2 hb2)
    | (go_at_call 10; refine (enew_any m t _).mono ?_; rintro r w3 ⟨rfl, he, b3⟩; have S3 : Hid (StG w3 w.heap.size w2.heap.size m g t dlL zero400 (.slice none 0 0) 0 (fun _ => (0, 0, 0, 0, false, 0)) (fun _ => 0) (fun _ => 0)) := ⟨B2.out.size, eng_of he, M2.out.below b3, T2.out.below b3, rec_nil _ _ _⟩; have B3 := Lib.hid (B2.out.trans (b3.mono B2.out.size)); clear he b3)
    | (go_at_call 20; ((with_reducible refine (dl_w1 S3.out B3.out.size).mono ?_)); rintro r w4 ⟨rfl, rv, hs4, b4⟩; have S4 := Lib.hid hs4; have B4 := Lib.hid (B3.out.trans b4); clear hs4 b4)
    | (go_at_call 20; ((with_reducible refine (dl_w2 S4.out B4.out.size).mono ?_)); rintro r w5 ⟨rfl, hs5, b5⟩; have S5 := Lib.hid hs5; have B5 := Lib.hid (B4.out.trans b5); clear hs5 b5)
    | (go_at_call 26; refine (dl_r S5.out B5.out.size).mono ?_; rintro r w6 ⟨rfl, hs6, b6⟩; have S6 := Lib.hid hs6; have B6 := Lib.hid (B5.out.trans b6); clear hs6 b6)
    | (go_at_call 13; refine (records_any S6.out.2.1 S6.out.2.2.2.2 (by omega)).mono ?_; rintro r w7 ⟨v', rfl, hr7, b7⟩; have B7 := Lib.hid (B6.out.trans (b7.mono B6.out.size)); obtain ⟨g7, c7, rfl, _, _, z0, z1, z2, z3, z4, z5⟩ := rec_last (n := 0) (a := 5) (b := 1) (c := 62) (d := 4) (x := true) (f := 6) hr7 rfl; simp only [Nat.zero_mul, Nat.zero_add] at z0 z1 z2 z3 z4 z5; clear hr7 b7))
  trace_state
  go_ret
  exact ⟨by first | rfl | simp, B7.out⟩
end Go.Proofs.Ythlapnljinkekab

/- Deeds of bursts; what few answers. -/
namespace Go.Proofs.Ythlapnljinkekab
open Go.RowKit Go.Lib Go.Sort
set_option linter.unusedVariables false

/-- A deed: tick, owner, addr, n, write, text. -/
abbrev Dd := Int × Int × Int × Int × Bool × ByteArray
abbrev ddv (d : Dd) : Value := .agg #[.int .i64 d.1, .int .i64 d.2.1, .int .i64 d.2.2.1, .int .i64 d.2.2.2.1, .bool d.2.2.2.2.1, .string d.2.2.2.2.2]
def DeedsD (w : World) (A : Option Addr) (len : Nat) (D : Nat → Dd) : Prop :=
  0 < len → ∃ b off, A = some ⟨b, off, none⟩ ∧ b < w.heap.size ∧ ∀ i, i < len → w.cell? ⟨b, off + i * 6, none⟩ = some (.int .i64 (D i).1) ∧ w.cell? ⟨b, off + i * 6 + 1, none⟩ = some (.int .i64 (D i).2.1) ∧ w.cell? ⟨b, off + i * 6 + 2, none⟩ = some (.int .i64 (D i).2.2.1) ∧ w.cell? ⟨b, off + i * 6 + 3, none⟩ = some (.int .i64 (D i).2.2.2.1) ∧ w.cell? ⟨b, off + i * 6 + 4, none⟩ = some (.bool (D i).2.2.2.2.1) ∧ w.cell? ⟨b, off + i * 6 + 5, none⟩ = some (.string (D i).2.2.2.2.2)
theorem DeedsD.under {w w' : World} {B : Nat} {A : Option Addr} {len : Nat} {D : Nat → Dd} (h : DeedsD w A len D) (hb : Below B w w') (hB : w.heap.size ≤ B) : DeedsD w' A len D := fun h0 => by
  obtain ⟨b, off, hA, hlt, hc⟩ := h h0
  have hlB := Nat.lt_of_lt_of_le hlt hB
  refine ⟨b, off, hA, Nat.lt_of_lt_of_le hlt hb.size, fun i hi => ?_⟩
  obtain ⟨c0, c1, c2, c3, c4, c5⟩ := hc i hi
  exact ⟨(hb.cell (p := ⟨b, off + i * 6, none⟩) hlB).trans c0, (hb.cell (p := ⟨b, off + i * 6 + 1, none⟩) hlB).trans c1, (hb.cell (p := ⟨b, off + i * 6 + 2, none⟩) hlB).trans c2, (hb.cell (p := ⟨b, off + i * 6 + 3, none⟩) hlB).trans c3, (hb.cell (p := ⟨b, off + i * 6 + 4, none⟩) hlB).trans c4, (hb.cell (p := ⟨b, off + i * 6 + 5, none⟩) hlB).trans c5⟩
theorem DeedsD.cut {w : World} {A : Option Addr} {len : Nat} {D : Nat → Dd} (h : DeedsD w A len D) (m : Nat) (hm : m ≤ len) : DeedsD w A m D := fun h0 => by
  obtain ⟨b, off, h1, h2, h3⟩ := h (by omega)
  exact ⟨b, off, h1, h2, fun i hi => h3 i (by omega)⟩

/-- What few answers. -/
def FewD (A : Option Addr) (n cap : Nat) (A2 : Option Addr) (m cap2 : Nat) (d : Nat → Reg) (D : Nat → Dd) (w : World) (e : Ending) (w' : World) : Prop :=
  ∃ r : Bool, e = .returned (.tuple #[.slice A n cap, .slice A2 m cap2, .bool r]) ∧ (r = true → chkN d n = 0 ∧ ∀ i, i < m → (D i).2.2.2.2.2.size ≤ 200) ∧ Below w.heap.size w w'

set_option maxHeartbeats 3200000 in
set_option maxRecDepth 100000 in
theorem few_any (A : Option Addr) (len cap : Nat) (A2 : Option Addr) (len2 cap2 : Nat) (d : Nat → Reg) (D : Nat → Dd) (w : World) (hst0 : Regs w A len cap d) (hf0 : ∀ i, i < len → Fits (d i)) (hD0 : DeedsD w A2 len2 D) (hlc : len ≤ cap) (hcm : cap ≤ 9223372036854775807) (hlc2 : len2 ≤ cap2) (hcm2 : cap2 ≤ 9223372036854775807) :
    Calls Try.prog 6 #[.slice A len cap, .slice A2 len2 cap2] w (FewD A (min len 8) cap A2 (min len2 20) cap2 d D w) := by
  obtain ⟨n, hn⟩ : ∃ n, n = min len 8 := ⟨_, rfl⟩
  obtain ⟨m, hm⟩ : ∃ m, m = min len2 20 := ⟨_, rfl⟩
  rw [← hn, ← hm]
  have hst := hst0.cut n (by omega)
  have hf : ∀ i, i < n → Fits (d i) := fun i hi => hf0 i (by omega)
  have hD := hD0.cut m (by omega)
  have hn8 : n ≤ 8 := by omega
  have hm20 : m ≤ 20 := by omega
  have hchk := fun W (hb : Below w.heap.size w W) => rcheck_any A n cap d W (hst.below hb) hf (by omega)
  have HCHK := Lib.hid hchk
  have HD := Lib.hid hD
  clear hst0 hf0 hD0 hst hf hD hchk
  rcases Nat.lt_or_ge 8 len with h8 | h8
  · obtain rfl : n = 8 := by omega
    rcases Nat.lt_or_ge 20 len2 with h20 | h20
    · obtain rfl : m = 20 := by omega
      clear hn hm hn8 hm20
      have j1 : ((8 : Nat) : Int) ≤ (cap : Int) := by omega
      have j2 : ((20 : Nat) : Int) ≤ (cap2 : Int) := by omega
      go_enter Try.func6, Try.ntmps6
      go_wp2
      go_quiet (fail)
      have HB0 := Lib.hid (below_drewN (Below.refl w.heap.size w) nq)
      generalize w.drewN nq = w1 at HB0 ⊢
      clear j1 j2
      go_wp2
      go_loopw [7] (fun y wr => ∃ i : Nat, y = .int .i64 i ∧ i ≤ 20 ∧ Hid (∀ k, k < i → (D k).2.2.2.2.2.size ≤ 200) ∧ Below w.heap.size w wr) (fun y _ => 20 - (intOf y).toNat)
      case atStart => exact ⟨0, rfl, by omega, Lib.hid (fun k h => by omega), HB0.out⟩
      case round =>
        obtain ⟨i, rfl, hi, HS, hb⟩ := hrel
        have HB := Lib.hid hb
        clear hb HB0
        by_cases hin : i < 20
        · obtain ⟨b, off, rfl, hbB, hcells⟩ := HD.out (by omega)
          obtain ⟨_, _, _, _, _, a5⟩ := hcells i hin
          have d5 := (HB.out.cell (p := ⟨b, off + i * 6 + 5, none⟩) hbB).trans a5
          clear a5 hcells
          obtain ⟨t, ht⟩ : ∃ t, t = (D i).2.2.2.2.2 := ⟨_, rfl⟩
          rw [← ht] at d5
          have HT := Lib.hid ht
          clear ht
          have i1 : (i : Int) < ((20 : Nat) : Int) := by omega
          by_cases h3 : 200 < t.size
          · have i2 : (200 : Int) < (t.size : Int) := by omega
            go_wp2
            go_ret3
            exact ⟨false, rfl, (fun h => (by cases h)), HB.out⟩
          · have i2 : ¬ (200 : Int) < (t.size : Int) := by omega
            go_wp2
            go_roundw
            case rel =>
              refine ⟨i + 1, by go_num, by omega, Lib.hid fun k hk => ?_, HB.out⟩
              by_cases e : k = i
              · subst e; rw [← HT.out]; omega
              · exact HS.out k (by omega)
            case measure => simp [intOf] <;> omega
        · have i1 : ¬ (i : Int) < ((20 : Nat) : Int) := by omega
          obtain ⟨c, hc⟩ : ∃ c, chkN d 8 = c := ⟨_, rfl⟩
          have hcc := HCHK.out wr HB.out
          unfold RCheckV at hcc
          rw [hc] at hcc
          have HCC := Lib.hid hcc
          have HC := Lib.hid hc
          have HS2 : Hid (∀ k, k < 20 → (D k).2.2.2.2.2.size ≤ 200) := fun k hk => HS.out k (by omega)
          clear hcc hc
          go_wp2_with (go_at_call 27; refine HCC.out.mono ?_; rintro e w2 ⟨rfl, b2⟩; have B2 := Lib.hid (HB.out.trans (b2.mono HB.out.size)); clear b2)
          go_ret3
          exact ⟨_, rfl, fun h => ⟨by rw [HC.out]; simpa using h, HS2.out⟩, B2.out⟩
    · obtain rfl : m = len2 := by omega
      clear hn hm hn8 hm20
      have j1 : ((8 : Nat) : Int) ≤ (cap : Int) := by omega
      have j2 : ((m : Nat) : Int) ≤ (cap2 : Int) := by omega
      go_enter Try.func6, Try.ntmps6
      go_wp2
      go_quiet (fail)
      have HB0 := Lib.hid (below_drewN (Below.refl w.heap.size w) nq)
      generalize w.drewN nq = w1 at HB0 ⊢
      clear j1 j2
      go_wp2
      go_loopw [7] (fun y wr => ∃ i : Nat, y = .int .i64 i ∧ i ≤ m ∧ Hid (∀ k, k < i → (D k).2.2.2.2.2.size ≤ 200) ∧ Below w.heap.size w wr) (fun y _ => m - (intOf y).toNat)
      case atStart => exact ⟨0, rfl, by omega, Lib.hid (fun k h => by omega), HB0.out⟩
      case round =>
        obtain ⟨i, rfl, hi, HS, hb⟩ := hrel
        have HB := Lib.hid hb
        clear hb HB0
        by_cases hin : i < m
        · obtain ⟨b, off, rfl, hbB, hcells⟩ := HD.out (by omega)
          obtain ⟨_, _, _, _, _, a5⟩ := hcells i hin
          have d5 := (HB.out.cell (p := ⟨b, off + i * 6 + 5, none⟩) hbB).trans a5
          clear a5 hcells
          obtain ⟨t, ht⟩ : ∃ t, t = (D i).2.2.2.2.2 := ⟨_, rfl⟩
          rw [← ht] at d5
          have HT := Lib.hid ht
          clear ht
          have i1 : (i : Int) < ((m : Nat) : Int) := by omega
          by_cases h3 : 200 < t.size
          · have i2 : (200 : Int) < (t.size : Int) := by omega
            go_wp2
            go_ret3
            exact ⟨false, rfl, (fun h => (by cases h)), HB.out⟩
          · have i2 : ¬ (200 : Int) < (t.size : Int) := by omega
            go_wp2
            go_roundw
            case rel =>
              refine ⟨i + 1, by go_num, by omega, Lib.hid fun k hk => ?_, HB.out⟩
              by_cases e : k = i
              · subst e; rw [← HT.out]; omega
              · exact HS.out k (by omega)
            case measure => simp [intOf] <;> omega
        · have i1 : ¬ (i : Int) < ((m : Nat) : Int) := by omega
          obtain ⟨c, hc⟩ : ∃ c, chkN d 8 = c := ⟨_, rfl⟩
          have hcc := HCHK.out wr HB.out
          unfold RCheckV at hcc
          rw [hc] at hcc
          have HCC := Lib.hid hcc
          have HC := Lib.hid hc
          have HS2 : Hid (∀ k, k < m → (D k).2.2.2.2.2.size ≤ 200) := fun k hk => HS.out k (by omega)
          clear hcc hc
          go_wp2_with (go_at_call 27; refine HCC.out.mono ?_; rintro e w2 ⟨rfl, b2⟩; have B2 := Lib.hid (HB.out.trans (b2.mono HB.out.size)); clear b2)
          go_ret3
          exact ⟨_, rfl, fun h => ⟨by rw [HC.out]; simpa using h, HS2.out⟩, B2.out⟩
  · obtain rfl : n = len := by omega
    rcases Nat.lt_or_ge 20 len2 with h20 | h20
    · obtain rfl : m = 20 := by omega
      clear hn hm hn8 hm20
      have j1 : ((n : Nat) : Int) ≤ (cap : Int) := by omega
      have j2 : ((20 : Nat) : Int) ≤ (cap2 : Int) := by omega
      go_enter Try.func6, Try.ntmps6
      go_wp2
      go_quiet (fail)
      have HB0 := Lib.hid (below_drewN (Below.refl w.heap.size w) nq)
      generalize w.drewN nq = w1 at HB0 ⊢
      clear j1 j2
      go_wp2
      go_loopw [7] (fun y wr => ∃ i : Nat, y = .int .i64 i ∧ i ≤ 20 ∧ Hid (∀ k, k < i → (D k).2.2.2.2.2.size ≤ 200) ∧ Below w.heap.size w wr) (fun y _ => 20 - (intOf y).toNat)
      case atStart => exact ⟨0, rfl, by omega, Lib.hid (fun k h => by omega), HB0.out⟩
      case round =>
        obtain ⟨i, rfl, hi, HS, hb⟩ := hrel
        have HB := Lib.hid hb
        clear hb HB0
        by_cases hin : i < 20
        · obtain ⟨b, off, rfl, hbB, hcells⟩ := HD.out (by omega)
          obtain ⟨_, _, _, _, _, a5⟩ := hcells i hin
          have d5 := (HB.out.cell (p := ⟨b, off + i * 6 + 5, none⟩) hbB).trans a5
          clear a5 hcells
          obtain ⟨t, ht⟩ : ∃ t, t = (D i).2.2.2.2.2 := ⟨_, rfl⟩
          rw [← ht] at d5
          have HT := Lib.hid ht
          clear ht
          have i1 : (i : Int) < ((20 : Nat) : Int) := by omega
          by_cases h3 : 200 < t.size
          · have i2 : (200 : Int) < (t.size : Int) := by omega
            go_wp2
            go_ret3
            exact ⟨false, rfl, (fun h => (by cases h)), HB.out⟩
          · have i2 : ¬ (200 : Int) < (t.size : Int) := by omega
            go_wp2
            go_roundw
            case rel =>
              refine ⟨i + 1, by go_num, by omega, Lib.hid fun k hk => ?_, HB.out⟩
              by_cases e : k = i
              · subst e; rw [← HT.out]; omega
              · exact HS.out k (by omega)
            case measure => simp [intOf] <;> omega
        · have i1 : ¬ (i : Int) < ((20 : Nat) : Int) := by omega
          obtain ⟨c, hc⟩ : ∃ c, chkN d n = c := ⟨_, rfl⟩
          have hcc := HCHK.out wr HB.out
          unfold RCheckV at hcc
          rw [hc] at hcc
          have HCC := Lib.hid hcc
          have HC := Lib.hid hc
          have HS2 : Hid (∀ k, k < 20 → (D k).2.2.2.2.2.size ≤ 200) := fun k hk => HS.out k (by omega)
          clear hcc hc
          go_wp2_with (go_at_call 27; refine HCC.out.mono ?_; rintro e w2 ⟨rfl, b2⟩; have B2 := Lib.hid (HB.out.trans (b2.mono HB.out.size)); clear b2)
          go_ret3
          exact ⟨_, rfl, fun h => ⟨by rw [HC.out]; simpa using h, HS2.out⟩, B2.out⟩
    · obtain rfl : m = len2 := by omega
      clear hn hm hn8 hm20
      have j1 : ((n : Nat) : Int) ≤ (cap : Int) := by omega
      have j2 : ((m : Nat) : Int) ≤ (cap2 : Int) := by omega
      go_enter Try.func6, Try.ntmps6
      go_wp2
      go_quiet (fail)
      have HB0 := Lib.hid (below_drewN (Below.refl w.heap.size w) nq)
      generalize w.drewN nq = w1 at HB0 ⊢
      clear j1 j2
      go_wp2
      go_loopw [7] (fun y wr => ∃ i : Nat, y = .int .i64 i ∧ i ≤ m ∧ Hid (∀ k, k < i → (D k).2.2.2.2.2.size ≤ 200) ∧ Below w.heap.size w wr) (fun y _ => m - (intOf y).toNat)
      case atStart => exact ⟨0, rfl, by omega, Lib.hid (fun k h => by omega), HB0.out⟩
      case round =>
        obtain ⟨i, rfl, hi, HS, hb⟩ := hrel
        have HB := Lib.hid hb
        clear hb HB0
        by_cases hin : i < m
        · obtain ⟨b, off, rfl, hbB, hcells⟩ := HD.out (by omega)
          obtain ⟨_, _, _, _, _, a5⟩ := hcells i hin
          have d5 := (HB.out.cell (p := ⟨b, off + i * 6 + 5, none⟩) hbB).trans a5
          clear a5 hcells
          obtain ⟨t, ht⟩ : ∃ t, t = (D i).2.2.2.2.2 := ⟨_, rfl⟩
          rw [← ht] at d5
          have HT := Lib.hid ht
          clear ht
          have i1 : (i : Int) < ((m : Nat) : Int) := by omega
          by_cases h3 : 200 < t.size
          · have i2 : (200 : Int) < (t.size : Int) := by omega
            go_wp2
            go_ret3
            exact ⟨false, rfl, (fun h => (by cases h)), HB.out⟩
          · have i2 : ¬ (200 : Int) < (t.size : Int) := by omega
            go_wp2
            go_roundw
            case rel =>
              refine ⟨i + 1, by go_num, by omega, Lib.hid fun k hk => ?_, HB.out⟩
              by_cases e : k = i
              · subst e; rw [← HT.out]; omega
              · exact HS.out k (by omega)
            case measure => simp [intOf] <;> omega
        · have i1 : ¬ (i : Int) < ((m : Nat) : Int) := by omega
          obtain ⟨c, hc⟩ : ∃ c, chkN d n = c := ⟨_, rfl⟩
          have hcc := HCHK.out wr HB.out
          unfold RCheckV at hcc
          rw [hc] at hcc
          have HCC := Lib.hid hcc
          have HC := Lib.hid hc
          have HS2 : Hid (∀ k, k < m → (D k).2.2.2.2.2.size ≤ 200) := fun k hk => HS.out k (by omega)
          clear hcc hc
          go_wp2_with (go_at_call 27; refine HCC.out.mono ?_; rintro e w2 ⟨rfl, b2⟩; have B2 := Lib.hid (HB.out.trans (b2.mono HB.out.size)); clear b2)
          go_ret3
          exact ⟨_, rfl, fun h => ⟨by rw [HC.out]; simpa using h, HS2.out⟩, B2.out⟩
end Go.Proofs.Ythlapnljinkekab
