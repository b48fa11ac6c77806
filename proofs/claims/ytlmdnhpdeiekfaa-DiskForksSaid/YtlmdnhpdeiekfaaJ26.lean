/- Both disks, when a row was written on both. -/
import Derived.Test.YtlmdnhpdeiekfaaJ25
namespace Go.Proofs.Ytlmdnhpdeiekfaa
open Go.RowKit Go.Lib
set_option linter.unusedVariables false

theorem Bys.congr {w : World} {bv : Value} {n : Nat} {E : Nat → Value} {L L' : Nat → List UInt8} (h : Bys w bv n E L) (he : ∀ i, i < n → L i = L' i) : Bys w bv n E L' := ⟨h.1, fun i hi => by rw [← he i hi]; exact h.2 i hi⟩
theorem LogV.keeps {w w' : World} {B n : Nat} {v : Value} {rc : Nat → Rec} {S : Nat → Prop} (h : LogV w B v n rc) (k : Keeps S w w') (hn : ∀ i, v.ownBlock = some i → ¬ S i) : LogV w' B v n rc := by
  refine ⟨h.1, ?_⟩
  rcases h.2 with h0 | ⟨g, cap, cur, rfl, hb, hgg, rest⟩
  · exact .inl h0
  · exact .inr ⟨g, cap, cur, rfl, hb, (k.2.2.2.2 g (Array.getElem?_eq_some_iff.1 hgg).1 (hn g rfl)).trans hgg, rest⟩
/-- Rows that make a disk lie apart. -/
theorem newE_off {d : Nat → Prt} {n i k : Nat} (h : newE d n = 0) (hi : i < n) (hk : k < n) (hne : k ≠ i) : meetsB (spd (d k)) (spd (d i)) = false := by
  have key : ∀ a b, a < b → b < n → meetsB (spd (d a)) (spd (d b)) = false := fun a b hab hb => by
    cases hm : meetsB (spd (d a)) (spd (d b)) with
    | false => rfl
    | true =>
      obtain ⟨h1, h2⟩ := newE_part h hb
      have := chk_fit h1 (newE_may h b hb) (fun q hq => newE_apart h hq hb) hab hm
      rw [h2] at this
      cases this
  rcases Nat.lt_or_gt_of_ne hne with h1 | h1
  · exact key k i h1 hi
  · rw [meetsB_symm]
    exact key i k h1 hk
theorem off_num {a b : Int × Int} (h : meetsB a b = false) (ha : 0 ≤ a.1) (hb : 0 ≤ b.1) : a.2 ≤ a.1 ∨ b.2 ≤ b.1 ∨ a.2 ≤ b.1 ∨ b.2 ≤ a.1 := by
  unfold meetsB isB holdsB at h
  simp at h
  omega
/-- A text is written into row i: the bytes of all rows. -/
theorem rowsL_put {d : Nat → Prt} {n i a : Nat} (S : Nat → UInt8) (t : ByteArray) (h : newE d n = 0) (hi : i < n) (ha : (16 * a + t.size : Nat) ≤ 16 * (d i).2.2) (ht : 0 < t.size) {k : Nat} (hk : k < n) :
    (if k = i then wrL (rowsL S d i) (16 * a) t else rowsL S d k) = rowsL (putS S (((d i).2.1.toNat + a) * 16) t.data.toList) d k := by
  have hlt : t.data.toList.length = t.size := by rw [Array.length_toList]; rfl
  have hmi := mayB_iff.1 (newE_may h i hi)
  have hmk := mayB_iff.1 (newE_may h k hk)
  unfold rowsL
  by_cases e : k = i
  · subst e
    rw [if_pos rfl, show ((d k).2.1.toNat + a) * 16 = 16 * (d k).2.1.toNat + 16 * a by omega]
    exact (secL_put_in S _ _ _ t (by omega)).symm
  · rw [if_neg e]
    by_cases h0 : (d k).2.2 = 0
    · rw [h0]
      rfl
    · refine (secL_put_off S _ _ _ _ ?_).symm
      rw [hlt]
      have := off_num (newE_off h hi hk e) hmk.2.2.2.2.1 hmi.2.2.2.2.1
      simp only at this
      omega
section
variable {w w1 w' : World} {d : Nat → Prt} {n b x : Nat} {A : Option Addr} {c B : Nat} {S : Nat → UInt8} {bz : Bool} {jd jr : Jb} {sd sr : Int} {bv v : Value} {E : Nat → Value} {m : Nat} {rc : Nat → Rec}
set_option maxHeartbeats 1600000 in
/-- Both have written a text into row i. -/
theorem Tw.wrote (h : Tw w d n b x A c B S bz jd jr sd sr bv v E m rc) (he : newE d n = 0) {i a m' : Nat} {t : ByteArray} {v' : Value} {rc' : Nat → Rec} {jr' : Jb} {st' : Int} {e : Ending} (hi : i < n) (ha : (16 * a + t.size : Nat) ≤ 16 * (d i).2.2) (ht : 0 < t.size)
    (hd : Dsk w1 b (putS S (((d i).2.1.toNat + a) * 16) t.data.toList) (tblN d n) false noJob 0 v') (hl : LogV w1 B v' m' rc') (ho : v'.ownBlock = v.ownBlock ∨ ∃ k, v'.ownBlock = some k ∧ w.heap.size ≤ k) (hk1 : Keeps (DskB b v) w w1)
    (hr : WroteD A n c x bv jr' st' E (rowsL S d) i (16 * a) t w1 e w') :
    ∃ E', Tw w' d n b x A c B (putS S (((d i).2.1.toNat + a) * 16) t.data.toList) false noJob jr' 0 st' bv v' E' m' rc' := by
  obtain ⟨_, u, hx, hb, hu, hk2⟩ := hr
  have hsz := hk1.size
  have hxw : x < w.heap.size := Blk.lt h.doc
  have hbw : b < w.heap.size := h.dev.lt
  have hbvw : ∀ k, bv.ownBlock = some k → k < w.heap.size := fun k hk => h.bys.1.lt k hk
  have hlb := fun k (hk : v'.ownBlock = some k) => hl.blk k hk
  -- the log's block is no other's
  have nv' : ∀ k, k < w.heap.size → v.ownBlock ≠ some k → v'.ownBlock ≠ some k := fun k hk hv e' => by
    rcases ho with ho | ⟨q, ho, hq⟩
    · exact hv (ho ▸ e')
    · rw [ho] at e'
      injection e' with e'
      omega
  have hAw : ∀ k, A.map (·.block) = some k → k < w.heap.size := fun k hk => by
    obtain ⟨g, off, hA, hg, _⟩ := h.row.2 (by omega)
    rw [hA] at hk
    simp at hk
    omega
  have hEw : ∀ q, q < n → ∀ k, (E q).ownBlock = some k → k < w.heap.size := fun q hq k hk => (h.bys.2 q hq).1.lt k hk
  refine ⟨_, ⟨?_, ?_, hx, ?_, hb.congr (fun k hk => rowsL_put S t he hi ha ht hk), (fun hf => by cases hf), h.nx, fun k hk => ?_, fun k hk => ?_, fun q hq k hk => ?_, ⟨nv' x hxw h.nv.1, nv' b hbw h.nv.2⟩, h.lo⟩⟩
  · obtain ⟨cs, h0, hrest⟩ := hd
    exact ⟨cs, (hk2.2.2.2.2 b h0.lt (fun hh => by
      rcases hh with hh | hh
      · exact h.nx hh.symm
      · exact (h.nbv b hh).1 rfl)).trans h0, hrest⟩
  · have hne : ∀ k, v'.ownBlock = some k → ¬ (k = x ∨ bv.ownBlock = some k) := fun k hk hh => by
      rcases hh with rfl | hh
      · exact nv' k hxw h.nv.1 hk
      · exact nv' k (hbvw k hh) (h.nbv k hh).2.2 hk
    exact hl.keeps hk2 hne
  · refine ⟨h.row.1, fun hn => ?_⟩
    obtain ⟨g, off, hA, hg, hc⟩ := h.row.2 hn
    have hng := h.nA g (by rw [hA]; rfl)
    have hcell : ∀ q, w'.cell? ⟨g, q, none⟩ = w.cell? ⟨g, q, none⟩ := fun q => by
      have e1 := hk1.2.2.2.2 g hg (fun hh => by
        rcases hh with hh | hh
        · exact hng.1 hh
        · exact hng.2.2.2 hh)
      have e2 := hk2.2.2.2.2 g (by omega) (fun hh => by
        rcases hh with hh | hh
        · exact hng.2.1 hh
        · exact hng.2.2.1 hh)
      simp only [World.cell?, e2, e1]
    exact ⟨g, off, hA, by have := hk2.size; omega, fun i hi => by rw [hcell, hcell, hcell]; exact hc i hi⟩
  · have := h.nA k hk
    exact ⟨this.1, this.2.1, this.2.2.1, nv' k (hAw k hk) this.2.2.2⟩
  · have := h.nbv k hk
    exact ⟨this.1, this.2.1, nv' k (hbvw k hk) this.2.2⟩
  · by_cases e' : q = i
    · subst e'
      simp only [if_pos] at hk
      have h1 := hu k hk
      refine ⟨by omega, by omega, fun e' => ?_⟩
      have := (hlb k e').2
      omega
    · simp only [if_neg e'] at hk
      have := h.nE q hq k hk
      exact ⟨this.1, this.2.1, nv' k (hEw q hq k hk) this.2.2⟩
end
end Go.Proofs.Ytlmdnhpdeiekfaa
