/- Sorted rows are one and the same; Total; what every law of package span asks first. -/
import Derived.Test.YtgkegmkedkgkcaaS4
namespace Go.Proofs.Ytgkegmkedkgkcaa
open Go.RowKit Go.Lib Go.Sort
set_option linter.unusedVariables false

namespace So
def lst (n : Nat) (d : Nat → P2) : List P2 := (List.range n).map d
theorem lst_perm {n : Nat} {d e : Nat → P2} (h : Perm 0 n d e) : (lst n e).Perm (lst n d) := by
  obtain ⟨s, t, h1, h2, h3, h4⟩ := h
  have hs : ∀ k, k < n → s k < n := fun k hk => by
    rcases Nat.lt_or_ge (s k) n with h | h
    · exact h
    · have := h3 (s k) (by omega)
      have e2 := h1 (s k)
      rw [this] at e2
      have e1 := h1 k
      rw [e1] at e2
      omega
  have ht : ∀ k, k < n → t k < n := fun k hk => by
    rcases Nat.lt_or_ge (t k) n with h | h
    · exact h
    · have := h3 (t k) (by omega)
      rw [h2] at this
      omega
  have hp : ((List.range n).map s).Perm (List.range n) := by
    refine (List.perm_ext_iff_of_nodup ?_ List.nodup_range).2 fun a => ?_
    · refine List.Pairwise.map _ ?_ (List.nodup_range (n := n))
      intro a b hab e
      exact hab (by rw [← h1 a, ← h1 b, e])
    · simp only [List.mem_map, List.mem_range]
      exact ⟨fun ⟨k, hk, e⟩ => e ▸ hs k hk, fun hk => ⟨t a, ht a hk, h2 a⟩⟩
  have he : lst n e = ((List.range n).map s).map d := by
    unfold lst
    rw [List.map_map]
    apply List.map_congr_left
    intro k _
    exact h4 k
  rw [he]
  exact hp.map d
theorem lst_sorted {n : Nat} {d : Nat → P2} (h : Sorted d 0 n) : (lst n d).Pairwise le := by
  unfold lst
  rw [List.pairwise_map]
  have := List.pairwise_lt_range (n := n)
  refine this.imp_of_mem ?_
  intro a b ha hb hab
  exact h a b (by omega) hab (List.mem_range.1 hb)
theorem sorted_one {n : Nat} {d e f : Nat → P2} (he : Perm 0 n d e) (hf : Perm 0 n d f) (se : Sorted e 0 n) (sf : Sorted f 0 n) : ∀ k, k < n → e k = f k := by
  have hl : lst n e = lst n f := List.Perm.eq_of_pairwise (fun a b _ _ h k => le_antisymm h k) (lst_sorted se) (lst_sorted sf) ((lst_perm he).trans (lst_perm hf).symm)
  intro k hk
  have h1 : (lst n e)[k]? = some (e k) := by simp [lst, hk]
  have h2 : (lst n f)[k]? = some (f k) := by simp [lst, hk]
  rw [hl, h2] at h1
  injection h1 with h1
  exact h1.symm
end So
theorem mTo_ext {d e : Nat → Int × Int} {n : Nat} (h : ∀ k, k < n → d k = e k) : mTo d n = mTo e n := by
  induction n with
  | zero => rfl
  | succ n ih =>
    show mStep _ _ _ = mStep _ _ _
    rw [ih (fun k hk => h k (by omega)), h n (by omega)]

/-- How many places n spans have, as the text adds them up. -/
def tTo (o : Nat → Int × Int) : Nat → Int
  | 0 => 0
  | k + 1 => wrap64 (tTo o k + wrap64 ((o k).2 - (o k).1))

def TotalV (B n : Nat) (d : Nat → Int × Int) (w : World) (e : Ending) (w' : World) : Prop :=
  ∃ d', e = .returned (.int .i64 (tTo (mTo d' n).2 (mTo d' n).1)) ∧ So.Perm 0 n d d' ∧ So.Sorted d' 0 n ∧ Below B w w'

/-- The short trial's spans, and those in order. -/
def L0 : Nat → Int × Int := fun k => if k = 0 then (5, 7) else if k = 1 then (1, 3) else (3, 4)
theorem L0_sorted {d' : Nat → Int × Int} (hp : So.Perm 0 3 L0 d') (hs : So.Sorted d' 0 3) : mTo d' 3 = mTo (fun k => if k = 0 then (1, 3) else if k = 1 then (3, 4) else (5, 7)) 3 := by
  have p2 : So.Perm 0 3 L0 (So.swp (So.swp L0 0 1) 1 2) := (So.Perm.swp L0 ⟨by omega, by omega⟩ ⟨by omega, by omega⟩).trans (So.Perm.swp _ ⟨by omega, by omega⟩ ⟨by omega, by omega⟩)
  have q : ∀ k, k < 3 → So.swp (So.swp L0 0 1) 1 2 k = (fun k => if k = 0 then ((1, 3) : Int × Int) else if k = 1 then (3, 4) else (5, 7)) k := by
    intro k hk
    match k, hk with
    | 0, _ => rfl
    | 1, _ => rfl
    | 2, _ => rfl
  have s2 : So.Sorted (So.swp (So.swp L0 0 1) 1 2) 0 3 := by
    intro a b _ h1 h2
    have : (a = 0 ∧ b = 1) ∨ (a = 0 ∧ b = 2) ∨ (a = 1 ∧ b = 2) := by omega
    rcases this with ⟨rfl, rfl⟩ | ⟨rfl, rfl⟩ | ⟨rfl, rfl⟩
    · unfold So.le So.lt; rw [q 0 (by omega), q 1 (by omega)]; simp
    · unfold So.le So.lt; rw [q 0 (by omega), q 2 (by omega)]; simp
    · unfold So.le So.lt; rw [q 1 (by omega), q 2 (by omega)]; simp
  exact mTo_ext fun k hk => (So.sorted_one hp p2 hs s2 k hk).trans (q k hk)

def L1 : Nat → Int × Int := (mTo (fun k => if k = 0 then (1, 3) else if k = 1 then (3, 4) else (5, 7)) 3).2
theorem L1_n : (mTo (fun k => if k = 0 then ((1, 3) : Int × Int) else if k = 1 then (3, 4) else (5, 7)) 3).1 = 2 := by decide
theorem L1_0 : L1 0 = (1, 4) := by decide
theorem L1_1 : L1 1 = (5, 7) := by decide
theorem L1_total {d' : Nat → Int × Int} (hp : So.Perm 0 2 L1 d') (hs : So.Sorted d' 0 2) : tTo (mTo d' 2).2 (mTo d' 2).1 = 5 := by
  have s2 : So.Sorted L1 0 2 := by
    intro a b _ h1 h2
    obtain ⟨rfl, rfl⟩ : a = 0 ∧ b = 1 := by omega
    unfold So.le So.lt; rw [L1_0, L1_1]; simp
  have h : mTo d' 2 = mTo (fun k => if k = 0 then ((1, 4) : Int × Int) else (5, 7)) 2 := mTo_ext fun k hk => (So.sorted_one hp (So.Perm.refl _ _ _) hs s2 k hk).trans (by
    match k, hk with
    | 0, _ => exact L1_0
    | 1, _ => exact L1_1)
  rw [h]
  decide +kernel

def LiveM (B : Nat) (w : World) (e : Ending) (w' : World) : Prop := ∃ g cap, e = .returned (.slice (some ⟨g, 0, none⟩) 2 cap) ∧ RowS w' g 2 cap L1 ∧ Below B w w'

end Go.Proofs.Ytgkegmkedkgkcaa
