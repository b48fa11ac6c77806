/- A fork of both disks. -/
import Derived.Test.YtlmdnhpdeiekfaaJ35
import Derived.Test.YtlmdnhpdeiekfaaJ36
import Derived.Test.YtlmdnhpdeiekfaaHZ
namespace Go.Proofs.Ytlmdnhpdeiekfaa
open Go.RowKit Go.Lib
set_option linter.unusedVariables false

section
variable {w w7 w8 w9 : World} {d : Nat → Prt} {n b x f y : Nat} {A : Option Addr} {c B : Nat} {S : Nat → UInt8} {bz : Bool} {jd jr : Jb} {sd sr : Int} {bv v bv' v' : Value} {E : Nat → Value} {m : Nat} {rc : Nat → Rec}
/-- Both forks tell the same. -/
theorem Tw.fork (h : Tw w d n b x A c B S bz jd jr sd sr bv v E m rc) (hA : ∀ k, A.map (·.block) = some k → k < w.heap.size) (hf : w.heap.size ≤ f) (hd : Dsk w7 f S (tblN d n) bz jd sd v') (hl : LogV w7 w.heap.size v' m rc) (hvf : v'.ownBlock ≠ some f) (b7 : Below w.heap.size w w7)
    (hr : RowZ 1 w8 bv' n ((List.range n).map E)) (hbv : ∀ k, bv'.ownBlock = some k → w7.heap.size ≤ k) (b8 : Below w7.heap.size w7 w8) (hy : RDk w9 y (.slice A n c) bv' bz jr sr) (hy8 : w8.heap.size ≤ y) (b9 : Below w8.heap.size w8 w9) :
    Tw w9 d n f y A c w.heap.size S bz jd jr sd sr bv' v' E m rc := by
  have hfl := hd.lt
  have s7 := b7.size
  have s8 := b8.size
  have b79 : Below w7.heap.size w7 w9 := b8.trans (b9.mono s8)
  have b09 : Below w.heap.size w w9 := b7.trans (b79.mono s7)
  have hE : ∀ i, i < n → ∀ k, (E i).ownBlock = some k → k < w.heap.size := fun i hi k hk => (h.bys.2 i hi).1.lt k hk
  have hrb : ∀ k, bv'.ownBlock = some k → k < w8.heap.size := fun k hk => hr.lt k hk
  refine ⟨hd.below b79, hl.below b79, hy, h.row.below b09, ⟨hr.below b9 (fun k hk => hrb k hk), fun i hi => ⟨(h.bys.2 i hi).1.below b09 (fun k hk => hE i hi k hk), fun k hk e => ?_⟩⟩, h.run, by omega, fun k hk => ?_, fun k hk => ?_, fun i hi k hk => ?_, ⟨fun e => ?_, hvf⟩, by omega, by omega, fun k hk => ?_⟩
  · have := hE i hi k hk
    have := hbv k e
    omega
  · have := hA k hk
    refine ⟨by omega, by omega, fun e => ?_, fun e => ?_⟩
    · have := hbv k e
      omega
    · have := (hl.blk k e).1
      omega
  · have := hbv k hk
    have := hrb k hk
    refine ⟨by omega, by omega, fun e => ?_⟩
    have := (hl.blk k e).2
    omega
  · have := hE i hi k hk
    refine ⟨by omega, by omega, fun e => ?_⟩
    have := (hl.blk k e).1
    omega
  · have := (hl.blk y e).2
    omega
  · have := hbv k hk
    omega
/-- The rows of the document's disk, copied. -/
theorem bys_copy (h : Tw w d n b x A c B S bz jd jr sd sr bv v E m rc) (hn : n ≤ 8) (b7 : Below w.heap.size w w7) (W : World) (hW : Below w7.heap.size w7 W) (g : Nat) (hg : g < W.heap.size) (hg7 : w7.heap.size ≤ g) :
    ∃ A' c' w8, (Builtin.append_ #[51, 51] 51 #[.slice (some ⟨g, 0, none⟩) 0 0, bv]).run Try.prog W = .ok (.slice A' n c') w8 ∧ RowZ 1 w8 (.slice A' n c') n ((List.range n).map E) ∧ (∀ k, (Value.slice A' n c').ownBlock = some k → w7.heap.size ≤ k) ∧ Below w7.heap.size w7 w8 := by
  obtain ⟨i0, hi0, hz0, hz1, hz2⟩ := info_parts bys_info
  have s7 := b7.size
  have b0 : Below w.heap.size w W := b7.trans (hW.mono s7)
  have hrow : RowZ 1 W bv n ((List.range n).map E) := h.bys.1.below b0 (fun k hk => h.bys.1.lt k hk)
  have h1 : ∀ u ∈ (List.range n).map E, u.oneCell' = true := by
    intro u hu
    obtain ⟨q, hq, rfl⟩ := List.mem_map.1 hu
    exact (h.bys.2 q (by simpa using hq)).1.one1
  have hsrc := hrow.src (P := Try.prog) 51 71 Try.underlying51 h1
  obtain ⟨v', w8, q1, q2, q3, q4, A', c', rfl⟩ := run_allZ (P := Try.prog) W 51 71 51 i0 _ 24 Try.underlying51 hi0 hz0 hz1 hz2 (by omega) rfl g n hg bv _ hsrc (by omega)
  have hWs := hW.size
  refine ⟨_, c', w8, q1, q2, fun k hk => ?_, hW.trans (below_of_only q3 hWs (by simp))⟩
  rcases q4 with q4 | q4
  · rw [hk] at q4
    injection q4 with q4
    omega
  · rw [hk] at q4
    injection q4 with q4
    omega
end
end Go.Proofs.Ytlmdnhpdeiekfaa
