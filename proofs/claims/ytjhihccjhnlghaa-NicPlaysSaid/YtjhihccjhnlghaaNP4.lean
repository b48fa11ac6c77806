/- A device of package nic: how it lies in memory; the call that makes one. -/
import Derived.Test.YtjhihccjhnlghaaNP3
namespace Go.Proofs.Ytjhihccjhnlghaa
open Go.RowKit Go.Lib
set_option linter.unusedVariables false

/-- A port of a device: owner, address, its queue's block, the queue's slice, the frames that wait, limit, drops. -/
structure Gp where
  o : Int
  mac : Int
  q : Nat
  v : Value
  l : List Frm
  lim : Nat
  dr : Nat
def Gp.row (g : Gp) : Pp := (g.o, some g.q, g.mac)
def Gp.pub (g : Gp) : Int × Int × Int := (g.o, g.mac, g.lim)
def Gp.own (g : Gp) (i : Nat) : Prop := OwnQ g.q g.v i
/-- The blocks of a device. -/
def nOwn (d m : Nat) (lv : Value) (G : List Gp) (i : Nat) : Prop := i = d ∨ i = m ∨ lv.ownBlock = some i ∨ ∃ g ∈ G, g.own i
/-- Its blocks lie apart; no two ports have one owner or one address. -/
def NApart (d m : Nat) (lv : Value) (G : List Gp) : Prop :=
  d ≠ m ∧ (∀ i, lv.ownBlock = some i → i ≠ d ∧ i ≠ m ∧ ∀ g ∈ G, ¬ g.own i) ∧ (∀ g ∈ G, ∀ i, g.own i → i ≠ d ∧ i ≠ m) ∧ G.Pairwise fun a b => a.o ≠ b.o ∧ a.mac ≠ b.mac ∧ ∀ i, a.own i → ¬ b.own i
/-- A device lies in block d. -/
def NicG (w : World) (d m : Nat) (lv : Value) (odd : Int) (S : List Frm) (G : List Gp) : Prop :=
  Blk w d 65 #[.map (some m), .int .i64 odd, lv] ∧ MapP w m (G.map Gp.row) ∧ RowZ 3 w lv S.length (frL S) ∧ (∀ g ∈ G, QueF w g.q g.v g.l g.lim g.dr ∧ mayP g.pub = true) ∧ NApart d m lv G

section
variable {w w' : World} {d m : Nat} {lv : Value} {odd : Int} {S : List Frm} {G : List Gp}
theorem NicG.lt (h : NicG w d m lv odd S G) : ∀ i, nOwn d m lv G i → i < w.heap.size := by
  rintro i (rfl | rfl | hi | ⟨g, hg, hi⟩)
  · exact h.1.lt
  · exact h.2.1.lt
  · exact h.2.2.1.lt i hi
  · exact (h.2.2.2.1 g hg).1.lt i hi
theorem MapP.keeps {b : Nat} {L : List Pp} {T : Nat → Prop} (h : MapP w b L) (k : Keeps T w w') (hn : ¬ T b) : MapP w' b L := by
  have hs : w.grownBy w' none ∨ True := .inr trivial
  obtain ⟨D, h1, h2⟩ := h
  refine ⟨D, ?_, h2⟩
  have hb : w'.heap[b]? = w.heap[b]? := k.2.2.2.2 b h1.lt hn
  obtain ⟨es, clock, e1, F, e2, e3⟩ := h1
  exact ⟨es, clock, hb.trans e1, F, e2, e3⟩
theorem NicG.keeps {T : Nat → Prop} (h : NicG w d m lv odd S G) (k : Keeps T w w') (hn : ∀ i, nOwn d m lv G i → ¬ T i) : NicG w' d m lv odd S G :=
  ⟨h.1.keeps k (hn d (.inl rfl)), h.2.1.keeps k (hn m (.inr (.inl rfl))), h.2.2.1.keeps k fun i hi => hn i (.inr (.inr (.inl hi))), fun g hg => ⟨(h.2.2.2.1 g hg).1.keeps k fun i hi => hn i (.inr (.inr (.inr ⟨g, hg, hi⟩))), (h.2.2.2.1 g hg).2⟩, h.2.2.2.2⟩
theorem NicG.grown (h : NicG w d m lv odd S G) (g : w.grownBy w' none) : NicG w' d m lv odd S G := h.keeps (T := fun _ => False) (Keeps.of_only g (by simp)) (fun _ _ h => h)
theorem NicG.below (h : NicG w d m lv odd S G) (g : Below w.heap.size w w') : NicG w' d m lv odd S G := h.grown (only_far g)
theorem pw_map {α β : Type} {R : α → α → Prop} {f : α → β} {l : List α} (h : l.Pairwise R) (hr : ∀ a b, R a b → f a ≠ f b) : (l.map f).Nodup := by
  unfold List.Nodup
  rw [List.pairwise_map]
  exact h.imp (fun {a b} h => hr a b h)
theorem NicG.owners (h : NicG w d m lv odd S G) : ((G.map Gp.row).map (·.1)).Nodup := by
  rw [List.map_map]
  exact pw_map h.2.2.2.2.2.2.2 (fun a b h => h.1)
theorem NicG.macs (h : NicG w d m lv odd S G) : ((G.map Gp.row).map (·.2.2)).Nodup := by
  rw [List.map_map]
  exact pw_map h.2.2.2.2.2.2.2 (fun a b h => h.2.1)
/-- One more port. -/
theorem NicG.more {w5 w6 : World} (h : NicG w d m lv odd S G) (g : Gp) (h5 : w.grownBy w5 none) (hq : QueF w5 g.q g.v g.l g.lim g.dr) (hy : mayP g.pub = true) (h6 : w5.grownBy w6 (some m)) (hm : MapP w6 m (G.map Gp.row ++ [g.row])) (hf : ∀ i, g.own i → w.heap.size ≤ i) (ho : ∀ x ∈ G, x.o ≠ g.o ∧ x.mac ≠ g.mac) : NicG w6 d m lv odd S (G ++ [g]) := by
  have k6 : Keeps (fun i => i = m) w5 w6 := Keeps.of_only h6 (fun k hk => by injection hk with hk; exact hk.symm)
  have k5 := h.grown h5
  have hap := h.2.2.2.2
  have hlt := h.lt
  refine ⟨k5.1.keeps k6 hap.1, by simpa using hm, k5.2.2.1.keeps k6 fun i hi => (hap.2.1 i hi).2.1, fun x hx => ?_, hap.1, fun i hi => ⟨(hap.2.1 i hi).1, (hap.2.1 i hi).2.1, fun x hx hxi => ?_⟩, fun x hx i hi => ?_, ?_⟩
  · rcases List.mem_append.1 hx with hx | hx
    · exact ⟨(k5.2.2.2.1 x hx).1.keeps k6 fun i hi => (hap.2.2.1 x hx i hi).2, (k5.2.2.2.1 x hx).2⟩
    · obtain rfl : x = g := by simpa using hx
      exact ⟨hq.keeps k6 fun i hi e => by have := hf i hi; have := hlt m (.inr (.inl rfl)); omega, hy⟩
  · rcases List.mem_append.1 hx with hx | hx
    · exact (hap.2.1 i hi).2.2 x hx hxi
    · obtain rfl : x = g := by simpa using hx
      have := hf i hxi
      have := hlt i (.inr (.inr (.inl hi)))
      omega
  · rcases List.mem_append.1 hx with hx | hx
    · exact hap.2.2.1 x hx i hi
    · obtain rfl : x = g := by simpa using hx
      have := hf i hi
      have := hlt d (.inl rfl)
      have := hlt m (.inr (.inl rfl))
      omega
  · rw [List.pairwise_append]
    refine ⟨hap.2.2.2, by simp, fun x hx y hy => ?_⟩
    obtain rfl : y = g := by simpa using hy
    refine ⟨(ho x hx).1, (ho x hx).2, fun i hi hi' => ?_⟩
    have := hf i hi'
    have := hlt i (.inr (.inr (.inr ⟨x, hx, hi⟩)))
    omega
end
end Go.Proofs.Ytjhihccjhnlghaa
