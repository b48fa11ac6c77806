/- The document's disk: End, where nothing is written. -/
import Derived.Test.YtlmdnhpdeiekfaaJ20
namespace Go.Proofs.Ytlmdnhpdeiekfaa
open Go.RowKit Go.Lib
set_option linter.unusedVariables false

theorem Bys.at {w : World} {bv : Value} {n i : Nat} {E : Nat → Value} {L : Nat → List UInt8} (h : Bys w bv n E L) (hi : i < n) : ∃ g off c, bv = .slice (some ⟨g, off, none⟩) n c ∧ g < w.heap.size ∧ w.cell? ⟨g, off + i, none⟩ = some (E i) ∧ w.frozen? ⟨g, off + i, none⟩ = false := by
  obtain ⟨⟨hl, h0⟩, _⟩ := h
  rcases h0 with ⟨_, h0⟩ | ⟨g, off, c, rfl, hn, _, hg, hf, hc⟩
  · omega
  · exact ⟨g, off, c, rfl, hg, hc i _ (by simp [hi]), (hf i (by omega)).2⟩
theorem PrtsV.put {w : World} {A : Option Addr} {n : Nat} {d : Nat → Prt} (h : PrtsV w A n d) {p : Addr} (hA : A.map (·.block) ≠ some p.block) (v : Value) : PrtsV (w.setCell p v) A n d := by
  refine ⟨h.1, fun hn => ?_⟩
  obtain ⟨b, off, rfl, hb, hc⟩ := h.2 hn
  have hne : b ≠ p.block := fun e => hA (by simp [e])
  have hcell : ∀ q, (w.setCell p v).cell? ⟨b, q, none⟩ = w.cell? ⟨b, q, none⟩ := fun q => by
    have := Below.heap_setCell w p v b hne
    simp only [World.cell?, this]
  exact ⟨b, off, rfl, by simpa using hb, fun i hi => by rw [hcell, hcell, hcell]; exact hc i hi⟩
theorem RowZ.cut_str {w : World} {g off c q k : Nat} {l : List UInt8} (h : RowZ 1 w (.slice (some ⟨g, off, none⟩) l.length c) l.length (u8L l)) (hq : q + k ≤ l.length) (c' : Nat) : (convert 71 9 (.slice (some ⟨g, off + q, none⟩) k c')).run Try.prog w = .ok (.string ⟨((l.drop q).take k).toArray⟩) w := by
  have hl : ((l.drop q).take k).length = k := by simp; omega
  rcases h.2 with ⟨h0, _⟩ | ⟨g', off', cap', h1, _, _, _, _, hc⟩
  · cases h0
  · injection h1 with e1 e2 e3
    injection e1 with e1
    injection e1 with e1 e2
    subst e1 e2
    have := run_convert_bytes_back (P := Try.prog) w 71 9 5 ⟨g, off + q, none⟩ c' ((l.drop q).take k) Try.underlying71 Try.underlying5 Try.underlying9 (fun i hi => by
      have e : (⟨g, off + q, none⟩ : Addr).add i = ⟨g, off + (q + i), none⟩ := by rw [addr_at, Nat.add_assoc]
      rw [hl] at hi
      rw [e]
      refine hc (q + i) _ ?_
      have hql : q + i < l.length := by omega
      simp [u8L, hql])
    rw [hl] at this
    exact this
set_option maxRecDepth 20000 in
set_option maxHeartbeats 3200000 in
theorem rend_empty (A : Option Addr) (n c : Nat) (tick : Int) (w : World) (x : Nat) (bv : Value) (j : Jb) (st : Int) (h : RDk w x (.slice A n c) bv false j st) :
    Calls Try.prog 25 #[.pointer (some ⟨x, 0, none⟩), .int .i64 tick] w fun e w' => e = .returned (.tuple #[.string ⟨#[]⟩, .int .i64 9]) ∧ w = w' := by
  have d0 : w.cell? ⟨x, 2, none⟩ = some (.bool false) := Blk.cell h 2
  clear h
  go_enter Try.func25, Try.ntmps25
  go_wp2
  go_ret2
  exact ⟨rfl, rfl⟩
set_option maxRecDepth 20000 in
set_option maxHeartbeats 3200000 in
theorem rend_early (A : Option Addr) (n c : Nat) (tick : Int) (w : World) (x : Nat) (bv : Value) (j : Jb) (st : Int) (h : RDk w x (.slice A n c) bv true j st) (h0 : 0 ≤ st) (h1 : st ≤ 2147483647) (ht : tick < st + 3) :
    Calls Try.prog 25 #[.pointer (some ⟨x, 0, none⟩), .int .i64 tick] w fun e w' => e = .returned (.tuple #[.string ⟨#[]⟩, .int .i64 13]) ∧ w = w' := by
  have d0 : w.cell? ⟨x, 2, none⟩ = some (.bool true) := Blk.cell h 2
  have d8 : w.cell? ⟨x, 8, none⟩ = some (.int .i64 st) := Blk.cell h 8
  have e1 : IntKind.i64.wrap (st + 3) = st + 3 := by rw [IntKind.wrap_i64]; omega
  clear h
  go_enter Try.func25, Try.ntmps25
  go_wp2
  go_ret2
  exact ⟨rfl, rfl⟩
set_option maxRecDepth 20000 in
set_option maxHeartbeats 3200000 in
theorem rend_read (A : Option Addr) (n c : Nat) (d : Nat → Prt) (o : Int) (a k : Nat) (t : ByteArray) (tick : Int) (w : World) (x : Nat) (bv : Value) (st : Int) (E : Nat → Value) (L : Nat → List UInt8) (i : Nat)
    (h : RDk w x (.slice A n c) bv true (o, a, k, false, t) st) (hst : PrtsV w A n d) (hA : A.map (·.block) ≠ some x) (hn : n ≤ 1000) (hb : Bys w bv n E L) (hbx : bv.ownBlock ≠ some x) (hEx : ∀ q, q < n → (E q).ownBlock ≠ some x) (h0 : 0 ≤ st) (h1 : st ≤ 2147483647) (ht : ¬ tick < st + 3)
    (hi : i < n) (ho : ownD d n o = i) (hk : 0 < k) (hak : 16 * a + k ≤ (L i).length) (hL : (L i).length ≤ 1024) :
    Calls Try.prog 25 #[.pointer (some ⟨x, 0, none⟩), .int .i64 tick] w fun e w' => e = .returned (.tuple #[.string ⟨(((L i).drop (16 * a)).take k).toArray⟩, .int .i64 0]) ∧ RDk w' x (.slice A n c) bv false (o, a, k, false, t) st ∧ w.grownBy w' (some x) := by
  have d0 : w.cell? ⟨x, 2, none⟩ = some (.bool true) := Blk.cell h 2
  have f2 := Blk.free h 2
  have d3 : w.cell? ⟨x, 3, none⟩ = some (.int .i64 o) := Blk.cell h 3
  have d4 : w.cell? ⟨x, 4, none⟩ = some (.int .i64 a) := Blk.cell h 4
  have d5 : w.cell? ⟨x, 5, none⟩ = some (.int .i64 k) := Blk.cell h 5
  have d6 : w.cell? ⟨x, 6, none⟩ = some (.bool false) := Blk.cell h 6
  have d8 : w.cell? ⟨x, 8, none⟩ = some (.int .i64 st) := Blk.cell h 8
  have d1 : w.cell? ⟨x, 1, none⟩ = some bv := Blk.cell h 1
  have hp : RDk (w.setCell ⟨x, 2, none⟩ (.bool false)) x (.slice A n c) bv false (o, a, k, false, t) st := Blk.put h 2 (.bool false)
  have HO := Lib.hid (rdown_any A n c d o _ x bv false _ st hp (hst.put (p := ⟨x, 2, none⟩) hA _) hn)
  rw [ho] at HO
  obtain ⟨g, off, c1, rfl, hg, hc, _⟩ := hb.at hi
  have hgx : g ≠ x := fun e => hbx (by simp [Value.ownBlock, e])
  have hrow := (hb.2 i hi).1
  have hEi := hEx i hi
  rcases hrow.2 with ⟨_, h9⟩ | ⟨g2, off2, c2, hE, hlc, hcm, hg2, hf, hcc⟩
  · omega
  · rw [hE] at hc hrow hEi
    have hgx2 : g2 ≠ x := fun e => hEi (by simp [Value.ownBlock, e])
    obtain ⟨q, hq⟩ : ∃ q, q = 16 * a := ⟨_, rfl⟩
    obtain ⟨r, hr⟩ : ∃ r, r = q + k := ⟨_, rfl⟩
    have HS := Lib.hid fun m => RowZ.cut_str ((hrow.put (p := ⟨x, 2, none⟩) (by simpa [Value.ownBlock] using hgx2) (.bool false)).drewN m) (q := q) (k := k) (by omega)
    have e1 : IntKind.i64.wrap (st + 3) = st + 3 := by rw [IntKind.wrap_i64]; omega
    have e2 : IntKind.i64.wrap (16 * (a : Int)) = (q : Int) := by rw [IntKind.wrap_i64]; omega
    have e3 : IntKind.i64.wrap ((q : Int) + (k : Int)) = (r : Int) := by rw [IntKind.wrap_i64]; omega
    have i1 : (i : Int) < (n : Int) := by omega
    have i2 : (r : Int) ≤ (c2 : Int) := by omega
    have i3 : (q : Int) ≤ (r : Int) := by omega
    have i4 : r - q = k := by omega
    have i5 : ¬ c2 = q := by omega
    rw [← hq]
    have HP := Lib.hid hp
    have n1 : ¬ g = x := hgx
    have n2 : ¬ x = g := fun e => hgx e.symm
    clear h hst hb hrow hf hcc hE hp ho hEx hEi hbx hL hak hlc hcm hq hr
    generalize (((L i).drop q).take k) = R at HS ⊢
    generalize (L i).length = len at HS hc ⊢
    go_enter Try.func25, Try.ntmps25
    go_wp2_with (go_at_call 37; (with_reducible refine HO.out.mono ?_); rintro e w9 ⟨rfl, rfl⟩)
    have hr := HS.out
    go_quiet (fail)
    go_wp2
    go_ret2
    exact ⟨rfl, HP.out, only_drewN (only_put (only_refl _ _) _ _) _⟩
end Go.Proofs.Ytlmdnhpdeiekfaa
