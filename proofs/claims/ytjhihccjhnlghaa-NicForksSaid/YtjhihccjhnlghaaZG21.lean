import Derived.Test.YtjhihccjhnlghaaZG20
set_option linter.all false
/- The document's Take of a port. -/
namespace Go.Proofs.Ytjhihccjhnlghaa
open Go.RowKit Go.Lib
set_option linter.unusedVariables false

/-- What is left of a row behind its first element. -/
theorem rest_src {w : World} {g off cap n : Nat} {x : Frm} {l : List Frm} (h : RowZ 3 w (.slice (some ⟨g, off, none⟩) n cap) n (frL (x :: l))) (e : l.length = n - 1) :
    Src Try.prog 3 50 (.slice (some ⟨g, off + 3, none⟩) l.length (cap - 1)) l.length (frL l) w := by
  obtain ⟨hl, ⟨he, _⟩ | ⟨g', off', cap', he, h2, h3, h4, h5, h6⟩⟩ := h
  · cases he
  · injection he with e1 e2 e3
    injection e1 with e1
    injection e1 with e4 e5
    subst e4 e5 e3
    refine Src.ofSlice w Try.underlying50 _ _ _ _ (frL_len l) (fun j u hu => ?_) (frL_cell l)
    rw [addr_at, Nat.add_assoc]
    refine h6 (3 + j) u ?_
    rw [show frL (x :: l) = frC x ++ frL l from rfl, List.getElem?_append_right (by simp [frC])]
    simpa [frC] using hu
theorem RowZ.first {w : World} {v : Value} {x : Frm} {l : List Frm} (h : RowZ 3 w v (x :: l).length (frL (x :: l))) : ∃ g off cap, v = .slice (some ⟨g, off, none⟩) (l.length + 1) cap ∧ l.length + 1 ≤ cap ∧ cap ≤ maxLen ∧ g < w.heap.size ∧ w.cell? ⟨g, off, none⟩ = some (.int .i64 x.1) ∧ w.cell? ⟨g, off + 1, none⟩ = some (.int .i64 x.2.1) ∧ w.cell? ⟨g, off + 2, none⟩ = some (.string x.2.2) := by
  obtain ⟨hl, ⟨he, hz⟩ | ⟨g, off, cap, he, h2, h3, h4, h5, h6⟩⟩ := h
  · simp at hz
  · exact ⟨g, off, cap, he, h2, h3, h4, h6 0 _ rfl, h6 1 _ rfl, h6 2 _ rfl⟩

set_option maxRecDepth 20000 in
set_option maxHeartbeats 3200000 in
theorem rtake_any (o mac lim dr : Int) (v : Value) (x : Frm) (l : List Frm) (w : World) (hv : RowZ 3 w v (x :: l).length (frL (x :: l))) (hn : l.length ≤ 1000) :
    Calls Try.prog 29 #[rpv (o, mac, lim, v, dr)] w fun e w' => ∃ v2, e = .returned (.tuple #[rpv (o, mac, lim, v2, dr), frv x]) ∧ RowZ 3 w' v2 l.length (frL l) ∧ (∀ i, v2.ownBlock = some i → w.heap.size ≤ i) ∧ Below w.heap.size w w' := by
  obtain ⟨i0, hi0, hz0, hz1, hz2⟩ := info_parts rframe_info
  obtain ⟨g, off, cap, rfl, hlc, hcm, hg, c0, c1, c2⟩ := hv.first
  obtain ⟨x1, x2, x3⟩ := x
  have b3 : Below w.heap.size w (((w.alloc (.cells #[.int .i64 o, .int .i64 mac, .int .i64 lim, .slice (some ⟨g, off, none⟩) (l.length + 1) cap, .int .i64 dr] 52)).alloc (.cells #[.int .i64 0, .int .i64 0, .int .i64 0, .slice none 0 0, .int .i64 0] 52)).alloc (.cells #[.int .i64 0, .int .i64 0, .string ⟨#[]⟩] 73)) := (((Below.refl _ _).alloc (Nat.le_refl _) _).alloc (by simp) _).alloc (by first | (simp; done) | (simp; omega)) _
  have b5 : Below w.heap.size w (((((w.alloc (.cells #[.int .i64 o, .int .i64 mac, .int .i64 lim, .slice (some ⟨g, off, none⟩) (l.length + 1) cap, .int .i64 dr] 52)).alloc (.cells #[.int .i64 0, .int .i64 0, .int .i64 0, .slice none 0 0, .int .i64 0] 52)).alloc (.cells #[.int .i64 0, .int .i64 0, .string ⟨#[]⟩] 73)).alloc (.cells #[.int .i64 x1, .int .i64 x2, .string x3] 73)).alloc (.cells #[] 73)) := (b3.alloc b3.size _).alloc (by first | (simp; done) | (simp; omega)) _
  have d0 : (((w.alloc (.cells #[.int .i64 o, .int .i64 mac, .int .i64 lim, .slice (some ⟨g, off, none⟩) (l.length + 1) cap, .int .i64 dr] 52)).alloc (.cells #[.int .i64 0, .int .i64 0, .int .i64 0, .slice none 0 0, .int .i64 0] 52)).alloc (.cells #[.int .i64 0, .int .i64 0, .string ⟨#[]⟩] 73)).cell? ⟨g, off, none⟩ = some (.int .i64 x1) := (b3.cell (p := ⟨g, off, none⟩) hg).trans c0
  have d1 : (((w.alloc (.cells #[.int .i64 o, .int .i64 mac, .int .i64 lim, .slice (some ⟨g, off, none⟩) (l.length + 1) cap, .int .i64 dr] 52)).alloc (.cells #[.int .i64 0, .int .i64 0, .int .i64 0, .slice none 0 0, .int .i64 0] 52)).alloc (.cells #[.int .i64 0, .int .i64 0, .string ⟨#[]⟩] 73)).cell? ⟨g, off + 1, none⟩ = some (.int .i64 x2) := (b3.cell (p := ⟨g, off + 1, none⟩) hg).trans c1
  have d2 : (((w.alloc (.cells #[.int .i64 o, .int .i64 mac, .int .i64 lim, .slice (some ⟨g, off, none⟩) (l.length + 1) cap, .int .i64 dr] 52)).alloc (.cells #[.int .i64 0, .int .i64 0, .int .i64 0, .slice none 0 0, .int .i64 0] 52)).alloc (.cells #[.int .i64 0, .int .i64 0, .string ⟨#[]⟩] 73)).cell? ⟨g, off + 2, none⟩ = some (.string x3) := (b3.cell (p := ⟨g, off + 2, none⟩) hg).trans c2
  have hv5 := hv.below b5 (by intro i hi; simp [Value.ownBlock] at hi; omega)
  have hb5 : w.heap.size + 1 + 1 + 1 + 1 < (((((w.alloc (.cells #[.int .i64 o, .int .i64 mac, .int .i64 lim, .slice (some ⟨g, off, none⟩) (l.length + 1) cap, .int .i64 dr] 52)).alloc (.cells #[.int .i64 0, .int .i64 0, .int .i64 0, .slice none 0 0, .int .i64 0] 52)).alloc (.cells #[.int .i64 0, .int .i64 0, .string ⟨#[]⟩] 73)).alloc (.cells #[.int .i64 x1, .int .i64 x2, .string x3] 73)).alloc (.cells #[] 73)).heap.size := by first | (simp; done) | (simp; omega)
  have hs5 : (((((w.alloc (.cells #[.int .i64 o, .int .i64 mac, .int .i64 lim, .slice (some ⟨g, off, none⟩) (l.length + 1) cap, .int .i64 dr] 52)).alloc (.cells #[.int .i64 0, .int .i64 0, .int .i64 0, .slice none 0 0, .int .i64 0] 52)).alloc (.cells #[.int .i64 0, .int .i64 0, .string ⟨#[]⟩] 73)).alloc (.cells #[.int .i64 x1, .int .i64 x2, .string x3] 73)).alloc (.cells #[] 73)).heap.size = w.heap.size + 5 := by simp
  have key : ∀ rs, Src Try.prog 3 50 rs l.length (frL l) (((((w.alloc (.cells #[.int .i64 o, .int .i64 mac, .int .i64 lim, .slice (some ⟨g, off, none⟩) (l.length + 1) cap, .int .i64 dr] 52)).alloc (.cells #[.int .i64 0, .int .i64 0, .int .i64 0, .slice none 0 0, .int .i64 0] 52)).alloc (.cells #[.int .i64 0, .int .i64 0, .string ⟨#[]⟩] 73)).alloc (.cells #[.int .i64 x1, .int .i64 x2, .string x3] 73)).alloc (.cells #[] 73)) → ∃ v2 w6, (Builtin.append_ #[50, 50] 50 #[.slice (some ⟨w.heap.size + 1 + 1 + 1 + 1, 0, none⟩) 0 0, rs]).run Try.prog (((((w.alloc (.cells #[.int .i64 o, .int .i64 mac, .int .i64 lim, .slice (some ⟨g, off, none⟩) (l.length + 1) cap, .int .i64 dr] 52)).alloc (.cells #[.int .i64 0, .int .i64 0, .int .i64 0, .slice none 0 0, .int .i64 0] 52)).alloc (.cells #[.int .i64 0, .int .i64 0, .string ⟨#[]⟩] 73)).alloc (.cells #[.int .i64 x1, .int .i64 x2, .string x3] 73)).alloc (.cells #[] 73)) = .ok v2 w6 ∧ RowZ 3 w6 v2 l.length (frL l) ∧ (∀ i, v2.ownBlock = some i → w.heap.size + 4 ≤ i) ∧ Below (w.heap.size + 5) (((((w.alloc (.cells #[.int .i64 o, .int .i64 mac, .int .i64 lim, .slice (some ⟨g, off, none⟩) (l.length + 1) cap, .int .i64 dr] 52)).alloc (.cells #[.int .i64 0, .int .i64 0, .int .i64 0, .slice none 0 0, .int .i64 0] 52)).alloc (.cells #[.int .i64 0, .int .i64 0, .string ⟨#[]⟩] 73)).alloc (.cells #[.int .i64 x1, .int .i64 x2, .string x3] 73)).alloc (.cells #[] 73)) w6 ∧ ∃ A c, v2 = .slice (some A) l.length c := fun rs hs => by
    obtain ⟨v', w', hk, hr, hg', ho, hf⟩ := run_allZ (P := Try.prog) (((((w.alloc (.cells #[.int .i64 o, .int .i64 mac, .int .i64 lim, .slice (some ⟨g, off, none⟩) (l.length + 1) cap, .int .i64 dr] 52)).alloc (.cells #[.int .i64 0, .int .i64 0, .int .i64 0, .slice none 0 0, .int .i64 0] 52)).alloc (.cells #[.int .i64 0, .int .i64 0, .string ⟨#[]⟩] 73)).alloc (.cells #[.int .i64 x1, .int .i64 x2, .string x3] 73)).alloc (.cells #[] 73)) 50 73 50 i0 _ 32 Try.underlying50 hi0 hz0 hz1 hz2 (by omega) rfl (w.heap.size + 1 + 1 + 1 + 1) l.length hb5 rs (frL l) hs (by omega)
    refine ⟨v', w', hk, hr, fun i hi => ?_, below_of_only hg' (by rw [hs5]; exact Nat.le_refl _) (by simp), hf⟩
    rcases ho with ho | ho
    · rw [ho] at hi; injection hi with hi; omega
    · rw [ho] at hi; injection hi with hi; omega
  by_cases hc1 : cap = 1
  · subst hc1
    obtain rfl : l = [] := List.eq_nil_of_length_eq_zero (by omega)
    simp only [List.length_nil, Nat.zero_add] at key hv5 b3 b5 d0 d1 d2 hb5 hs5
    have hsrc := Src.ofSlice (P := Try.prog) (size := 3) ((((((w.alloc (.cells #[.int .i64 o, .int .i64 mac, .int .i64 lim, .slice (some ⟨g, off, none⟩) 1 1, .int .i64 dr] 52)).alloc (.cells #[.int .i64 0, .int .i64 0, .int .i64 0, .slice none 0 0, .int .i64 0] 52)).alloc (.cells #[.int .i64 0, .int .i64 0, .string ⟨#[]⟩] 73)).alloc (.cells #[.int .i64 x1, .int .i64 x2, .string x3] 73)).alloc (.cells #[] 73))) Try.underlying50 ⟨g, off, none⟩ 0 0 (frL []) (by simp [frL]) (by simp [frL]) (by simp [frL])
    obtain ⟨v2, w6, hk, hr, ho, hb6, ⟨A2, c2', rfl⟩⟩ := key _ hsrc
    have BP := (((((Blk.new w 52 #[.int .i64 o, .int .i64 mac, .int .i64 lim, .slice (some ⟨g, off, none⟩) 1 1, .int .i64 dr]).alloc (.cells #[.int .i64 0, .int .i64 0, .int .i64 0, .slice none 0 0, .int .i64 0] 52)).alloc (.cells #[.int .i64 0, .int .i64 0, .string ⟨#[]⟩] 73)).alloc (.cells #[.int .i64 x1, .int .i64 x2, .string x3] 73)).alloc (.cells #[] 73)).below hb6 (by omega)
    have BZ := ((((Blk.new (w.alloc (.cells #[.int .i64 o, .int .i64 mac, .int .i64 lim, .slice (some ⟨g, off, none⟩) 1 1, .int .i64 dr] 52)) 52 #[.int .i64 0, .int .i64 0, .int .i64 0, .slice none 0 0, .int .i64 0]).alloc (.cells #[.int .i64 0, .int .i64 0, .string ⟨#[]⟩] 73)).alloc (.cells #[.int .i64 x1, .int .i64 x2, .string x3] 73)).alloc (.cells #[] 73)).below hb6 (by first | (simp; done) | (simp; omega))
    have BY := (((Blk.new ((w.alloc (.cells #[.int .i64 o, .int .i64 mac, .int .i64 lim, .slice (some ⟨g, off, none⟩) 1 1, .int .i64 dr] 52)).alloc (.cells #[.int .i64 0, .int .i64 0, .int .i64 0, .slice none 0 0, .int .i64 0] 52)) 73 #[.int .i64 0, .int .i64 0, .string ⟨#[]⟩]).alloc (.cells #[.int .i64 x1, .int .i64 x2, .string x3] 73)).alloc (.cells #[] 73)).below hb6 (by first | (simp; done) | (simp; omega))
    have BF := ((Blk.new (((w.alloc (.cells #[.int .i64 o, .int .i64 mac, .int .i64 lim, .slice (some ⟨g, off, none⟩) 1 1, .int .i64 dr] 52)).alloc (.cells #[.int .i64 0, .int .i64 0, .int .i64 0, .slice none 0 0, .int .i64 0] 52)).alloc (.cells #[.int .i64 0, .int .i64 0, .string ⟨#[]⟩] 73)) 73 #[.int .i64 x1, .int .i64 x2, .string x3]).alloc (.cells #[] 73)).below hb6 (by first | (simp; done) | (simp; omega))
    simp only [World.size_alloc] at BZ BY BF
    have y0 := BP.cell 0
    have y1 := BP.cell 1
    have y2 := BP.cell 2
    have y3 := BP.cell 3
    have y4 := BP.cell 4
    have u3 := BP.free 3
    have z0 := BZ.cell 0
    have z1 := BZ.cell 1
    have z2 := BZ.cell 2
    have z3 := BZ.cell 3
    have z4 := BZ.cell 4
    have v0 := BZ.free 0
    have v1 := BZ.free 1
    have v2' := BZ.free 2
    have v3 := BZ.free 3
    have v4 := BZ.free 4
    have s0 := BY.cell 0
    have s1 := BY.cell 1
    have s2 := BY.cell 2
    have t0 := BY.free 0
    have t1 := BY.free 1
    have t2 := BY.free 2
    have f0 := BF.cell 0
    have f1 := BF.cell 1
    have f2 := BF.cell 2
    simp at y0 y1 y2 y3 y4 z0 z1 z2 z3 z4 s0 s1 s2 f0 f1 f2
    clear BP BZ BY BF
    have HK := Lib.hid hk
    have HR := Lib.hid hr
    have HO := Lib.hid ho
    have HB := Lib.hid (b5.trans (hb6.mono (by omega)))
    clear hk hr ho hb6 key hv5 hsrc hv b3 b5 hb5 hs5
    go_enter Try.func29, Try.ntmps29
    go_wp2_with (at_builtin; refine wpList_append_eq rfl (.tmp 9) (.tmp 12) 50 rfl HK.out rfl rfl ?_)
    go_region
    all_goals
      go_wp2
      have n0 : ∀ i : Nat, i < w.heap.size + 4 → (Value.slice (some A2) 0 c2').ownBlock ≠ some i := fun i hi e => by have := HO.out i e; omega
      refine bodyPost_ret (v := .tuple #[.agg #[.int .i64 o, .int .i64 mac, .int .i64 lim, .slice (some A2) 0 c2', .int .i64 dr], .agg #[.int .i64 x1, .int .i64 x2, .string x3]]) (by simp [results, Try.results29, go_sem, z0, z1, z2, z3, z4, s0, s1, s2]) rfl ⟨_, rfl, ?_, fun i hi => by have := HO.out i hi; omega, ?_⟩
      · exact (((((((((HR.out.put (p := ⟨w.heap.size, 3, none⟩) (n0 _ (by simp)) _).put (p := ⟨w.heap.size + 1, 0, none⟩) (n0 _ (by simp)) _).put (p := ⟨w.heap.size + 1, 1, none⟩) (n0 _ (by simp)) _).put (p := ⟨w.heap.size + 1, 2, none⟩) (n0 _ (by simp)) _).put (p := ⟨w.heap.size + 1, 3, none⟩) (n0 _ (by simp)) _).put (p := ⟨w.heap.size + 1, 4, none⟩) (n0 _ (by simp)) _).put (p := ⟨w.heap.size + 1 + 1, 0, none⟩) (n0 _ (by simp)) _).put (p := ⟨w.heap.size + 1 + 1, 1, none⟩) (n0 _ (by simp)) _).put (p := ⟨w.heap.size + 1 + 1, 2, none⟩) (n0 _ (by simp)) _).drewN 1
      · exact below_drewN (((((((((HB.out.setCell (p := ⟨w.heap.size, 3, none⟩) (by simp) _).setCell (p := ⟨w.heap.size + 1, 0, none⟩) (by simp) _).setCell (p := ⟨w.heap.size + 1, 1, none⟩) (by simp) _).setCell (p := ⟨w.heap.size + 1, 2, none⟩) (by simp) _).setCell (p := ⟨w.heap.size + 1, 3, none⟩) (by simp) _).setCell (p := ⟨w.heap.size + 1, 4, none⟩) (by simp) _).setCell (p := ⟨w.heap.size + 1 + 1, 0, none⟩) (by simp; omega) _).setCell (p := ⟨w.heap.size + 1 + 1, 1, none⟩) (by simp; omega) _).setCell (p := ⟨w.heap.size + 1 + 1, 2, none⟩) (by simp; omega) _) 1
  · have hsrc := rest_src (n := l.length + 1) (x := (x1, x2, x3)) hv5 (by omega)
    obtain ⟨v2, w6, hk, hr, ho, hb6, ⟨A2, c2', rfl⟩⟩ := key _ hsrc
    have BP := (((((Blk.new w 52 #[.int .i64 o, .int .i64 mac, .int .i64 lim, .slice (some ⟨g, off, none⟩) (l.length + 1) cap, .int .i64 dr]).alloc (.cells #[.int .i64 0, .int .i64 0, .int .i64 0, .slice none 0 0, .int .i64 0] 52)).alloc (.cells #[.int .i64 0, .int .i64 0, .string ⟨#[]⟩] 73)).alloc (.cells #[.int .i64 x1, .int .i64 x2, .string x3] 73)).alloc (.cells #[] 73)).below hb6 (by omega)
    have BZ := ((((Blk.new (w.alloc (.cells #[.int .i64 o, .int .i64 mac, .int .i64 lim, .slice (some ⟨g, off, none⟩) (l.length + 1) cap, .int .i64 dr] 52)) 52 #[.int .i64 0, .int .i64 0, .int .i64 0, .slice none 0 0, .int .i64 0]).alloc (.cells #[.int .i64 0, .int .i64 0, .string ⟨#[]⟩] 73)).alloc (.cells #[.int .i64 x1, .int .i64 x2, .string x3] 73)).alloc (.cells #[] 73)).below hb6 (by first | (simp; done) | (simp; omega))
    have BY := (((Blk.new ((w.alloc (.cells #[.int .i64 o, .int .i64 mac, .int .i64 lim, .slice (some ⟨g, off, none⟩) (l.length + 1) cap, .int .i64 dr] 52)).alloc (.cells #[.int .i64 0, .int .i64 0, .int .i64 0, .slice none 0 0, .int .i64 0] 52)) 73 #[.int .i64 0, .int .i64 0, .string ⟨#[]⟩]).alloc (.cells #[.int .i64 x1, .int .i64 x2, .string x3] 73)).alloc (.cells #[] 73)).below hb6 (by first | (simp; done) | (simp; omega))
    have BF := ((Blk.new (((w.alloc (.cells #[.int .i64 o, .int .i64 mac, .int .i64 lim, .slice (some ⟨g, off, none⟩) (l.length + 1) cap, .int .i64 dr] 52)).alloc (.cells #[.int .i64 0, .int .i64 0, .int .i64 0, .slice none 0 0, .int .i64 0] 52)).alloc (.cells #[.int .i64 0, .int .i64 0, .string ⟨#[]⟩] 73)) 73 #[.int .i64 x1, .int .i64 x2, .string x3]).alloc (.cells #[] 73)).below hb6 (by first | (simp; done) | (simp; omega))
    simp only [World.size_alloc] at BZ BY BF
    have y0 := BP.cell 0
    have y1 := BP.cell 1
    have y2 := BP.cell 2
    have y3 := BP.cell 3
    have y4 := BP.cell 4
    have u3 := BP.free 3
    have z0 := BZ.cell 0
    have z1 := BZ.cell 1
    have z2 := BZ.cell 2
    have z3 := BZ.cell 3
    have z4 := BZ.cell 4
    have v0 := BZ.free 0
    have v1 := BZ.free 1
    have v2' := BZ.free 2
    have v3 := BZ.free 3
    have v4 := BZ.free 4
    have s0 := BY.cell 0
    have s1 := BY.cell 1
    have s2 := BY.cell 2
    have t0 := BY.free 0
    have t1 := BY.free 1
    have t2 := BY.free 2
    have f0 := BF.cell 0
    have f1 := BF.cell 1
    have f2 := BF.cell 2
    simp at y0 y1 y2 y3 y4 z0 z1 z2 z3 z4 s0 s1 s2 f0 f1 f2
    clear BP BZ BY BF
    have HK := Lib.hid hk
    have HR := Lib.hid hr
    have HO := Lib.hid ho
    have HB := Lib.hid (b5.trans (hb6.mono (by omega)))
    clear hk hr ho hb6 key hv5 hsrc hv b3 b5 hb5 hs5
    go_enter Try.func29, Try.ntmps29
    go_wp2_with (at_builtin; refine wpList_append_eq rfl (.tmp 9) (.tmp 12) 50 rfl HK.out rfl rfl ?_)
    go_region
    all_goals
      go_wp2
      have n0 : ∀ i : Nat, i < w.heap.size + 4 → (Value.slice (some A2) l.length c2').ownBlock ≠ some i := fun i hi e => by have := HO.out i e; omega
      refine bodyPost_ret (v := .tuple #[.agg #[.int .i64 o, .int .i64 mac, .int .i64 lim, .slice (some A2) l.length c2', .int .i64 dr], .agg #[.int .i64 x1, .int .i64 x2, .string x3]]) (by simp [results, Try.results29, go_sem, z0, z1, z2, z3, z4, s0, s1, s2]) rfl ⟨_, rfl, ?_, fun i hi => by have := HO.out i hi; omega, ?_⟩
      · exact (((((((((HR.out.put (p := ⟨w.heap.size, 3, none⟩) (n0 _ (by simp)) _).put (p := ⟨w.heap.size + 1, 0, none⟩) (n0 _ (by simp)) _).put (p := ⟨w.heap.size + 1, 1, none⟩) (n0 _ (by simp)) _).put (p := ⟨w.heap.size + 1, 2, none⟩) (n0 _ (by simp)) _).put (p := ⟨w.heap.size + 1, 3, none⟩) (n0 _ (by simp)) _).put (p := ⟨w.heap.size + 1, 4, none⟩) (n0 _ (by simp)) _).put (p := ⟨w.heap.size + 1 + 1, 0, none⟩) (n0 _ (by simp)) _).put (p := ⟨w.heap.size + 1 + 1, 1, none⟩) (n0 _ (by simp)) _).put (p := ⟨w.heap.size + 1 + 1, 2, none⟩) (n0 _ (by simp)) _).drewN 1
      · exact below_drewN (((((((((HB.out.setCell (p := ⟨w.heap.size, 3, none⟩) (by simp) _).setCell (p := ⟨w.heap.size + 1, 0, none⟩) (by simp) _).setCell (p := ⟨w.heap.size + 1, 1, none⟩) (by simp) _).setCell (p := ⟨w.heap.size + 1, 2, none⟩) (by simp) _).setCell (p := ⟨w.heap.size + 1, 3, none⟩) (by simp) _).setCell (p := ⟨w.heap.size + 1, 4, none⟩) (by simp) _).setCell (p := ⟨w.heap.size + 1 + 1, 0, none⟩) (by simp; omega) _).setCell (p := ⟨w.heap.size + 1 + 1, 1, none⟩) (by simp; omega) _).setCell (p := ⟨w.heap.size + 1 + 1, 2, none⟩) (by simp; omega) _) 1
end Go.Proofs.Ytjhihccjhnlghaa
