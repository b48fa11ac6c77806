import Derived.Test.YthlapnljinkekabJF02
import Derived.Deep.RegionHeld3
import Derived.Laws.CopyOwn
import Derived.Deep.RegionLaw
import Derived.WalkKit
import Derived.Maps.RangeWalk
import Derived.Maps.OwnSet
import Derived.Maps.OwnOps
import Derived.Maps.Views
import Derived.Carry
set_option linter.all false
/- A deed that writes, done to the memory and to the document's: the contract of the law's own 'wrote'. -/
namespace Go.Proofs.Ythlapnljinkekab
open Go.RowKit Go.Lib Go.Sort
set_option linter.unusedVariables false

/-- What the numbers lie in is not the memory's row of bytes. -/
def Off (A : Option Addr) (g : Nat) : Prop := ∀ b off, A = some ⟨b, off, none⟩ → b ≠ g
theorem Ints.far {w w' : World} {A : Option Addr} {cap g : Nat} {l : List Int} (h : Ints w A cap l) (hb : w.grownBy w' (some g)) (ho : Off A g) : Ints w' A cap l := by
  refine ⟨h.1, fun hp => ?_⟩
  obtain ⟨b, off, h1, h2, h3⟩ := h.2 hp
  refine ⟨b, off, h1, Nat.lt_of_lt_of_le h2 hb.size, fun i hi => ?_⟩
  have e := hb.block b h2 (fun e => ho b off h1 (by injection e))
  rw [← h3 i hi]
  simp [World.cell?, e]
/-- The same, where there is anything. -/
def OffI (l : List UInt8) (A : Option Addr) (g : Nat) : Prop := 0 < l.length → Off A g
theorem Ints.farI {w w' : World} {A : Option Addr} {cap g : Nat} {l : List UInt8} (h : Ints w A cap (num l)) (hb : w.grownBy w' (some g)) (ho : OffI l A g) : Ints w' A cap (num l) := by
  refine ⟨h.1, fun hp => ?_⟩
  exact (h.far hb (ho (by rw [num_len] at hp; exact hp))).2 hp
theorem OwnN.off {w : World} {B g n c : Nat} {A : Option Addr} {l : List Int} (h : OwnN w B (.slice A n c) l) (hg : g < B) : Off A g := fun b off e => by
  subst e
  have := h.blk b rfl
  omega

theorem off_new {k g : Nat} (h : g < k) : Off (some ⟨k, 0, none⟩) g := fun b off e => by
  injection e with e
  injection e with e1 e2
  omega
theorem two_ints (w : World) (x y : Int) : Ints (w.alloc (.cells #[.int .i64 x, .int .i64 y] 3)) (some ⟨w.heap.size, 0, none⟩) 2 [x, y] :=
  ⟨fun e => (by cases e), fun _ => ⟨w.heap.size, 0, rfl, (Blk.new w _ _).lt, fun i hi => by
    match i, hi with
    | 0, _ => exact (Blk.new w 3 #[.int .i64 x, .int .i64 y]).cell 0
    | 1, _ => exact (Blk.new w 3 #[.int .i64 x, .int .i64 y]).cell 1⟩⟩

/-- The bytes that a deed writes. -/
def bsOf (d n : Int) (t : ByteArray) : List UInt8 := if d = 0 then [low8 n] else if d = 1 then [low8 n, low8 (n / 256)] else t.data.toList
/-- A memory behind such a deed. -/
def wroteL (l : List UInt8) (at' : Int) (bs : List UInt8) : List UInt8 := if thereB l.length at' bs.length = true then over l at'.toNat bs else l
theorem there_fit {len : Nat} {at' n : Int} (h : thereB len at' n = true) : 0 ≤ at' ∧ at' + n ≤ len := by
  simp [thereB] at h
  omega
theorem wroteL_len (l : List UInt8) (at' : Int) (bs : List UInt8) : (wroteL l at' bs).length = l.length := by
  unfold wroteL
  split
  · rename_i h
    have := there_fit h
    exact over_len (by omega)
  · rfl

theorem low8_mod (x : Int) : low8 (x % 256) = low8 x := by
  unfold low8
  rw [Int.emod_emod_of_dvd x (Int.dvd_refl 256)]
theorem low8_of (b : UInt8) : low8 (b.toNat : Int) = b := by
  have h := b.toNat_lt
  apply UInt8.toNat_inj.1
  have := low8_num (b.toNat : Int)
  omega
theorem num_low (l : List UInt8) : (num l).map low8 = l := by
  induction l with
  | nil => rfl
  | cons b l ih =>
    show low8 (b.toNat : Int) :: (num l).map low8 = b :: l
    rw [low8_of, ih]
theorem over_set {l : List UInt8} {k : Nat} {b : UInt8} (h : k < l.length) : over l k [b] = l.set k b := by
  have := over_snoc (l := l) (bs := []) (a := k) (x := b) (by simpa using h)
  simpa [over_nil] using this

/-- What is left behind such a deed. -/
def WroteV (B m g len : Nat) (l2 : List UInt8) (w : World) (e : Ending) (w' : World) : Prop :=
  ∃ A c, e = .returned (.tuple #[.slice A len c, .bool true]) ∧ MemG w' B m g l2 ∧ Ints w' A c (num l2) ∧ OffI l2 A g ∧ w.grownBy w' (some g)

/-- What stands behind the write itself: is it there, and the document's part. -/
theorem with_end (A : Option Addr) (cap : Nat) (l : List UInt8) (at' : Int) (A2 : Option Addr) (cap2 : Nat) (xs : List Int) (bs : List UInt8) (hbs : xs.map low8 = bs) (len : Nat) (hlen : len = l.length) (m : Nat) (hm : m = xs.length) (g : Nat) (w : World) (hg : g < w.heap.size) (hA : Ints w A cap (num l)) (hX : Ints w A2 cap2 xs) (ht : thereB l.length at' bs.length = true) (hl : l.length ≤ 1000) :
    Calls Try.prog 30 #[.slice A len cap, .int .i64 at', .slice A2 m cap2] w fun r w' => ∃ A3 c3, r = .returned (.slice A3 len c3) ∧ Ints w' A3 c3 (num (wroteL l at' bs)) ∧ Off A3 g ∧ Below w.heap.size w w' := by
  obtain ⟨h0, h1⟩ := there_fit ht
  obtain ⟨k, rfl⟩ : ∃ k : Nat, at' = k := ⟨at'.toNat, by omega⟩
  have hxl : xs.length = bs.length := by rw [← hbs, List.length_map]
  refine (rwith_any A cap l k A2 cap2 m xs hm len hlen w hA hX (by omega) hl).mono ?_
  rintro e w' ⟨v, rfl, hv, hb⟩
  rw [hbs] at hv
  have e1 : over l k bs = wroteL l (k : Int) bs := by unfold wroteL; rw [if_pos ht]; simp
  rw [e1] at hv
  obtain ⟨A3, c3, rfl, hi, _⟩ := hv.ints
  have e2 : (num (wroteL l (k : Int) bs)).length = len := by rw [num_len, wroteL_len, hlen]
  refine ⟨A3, c3, by rw [e2], hi, ?_, hb⟩
  exact hv.off hg

end Go.Proofs.Ythlapnljinkekab

/- A memory by itself: the contract of Fork. -/
namespace Go.Proofs.Ythlapnljinkekab
open Go.RowKit Go.Lib Go.Sort
set_option linter.unusedVariables false

/-- copy into a row that is known whole, as1 a step of a drawn region: the world that it leaves is told. -/
theorem step_copy_row {P : Program} {ops : Array Oper} {o : Oper} {a : Act} {w : World} {K : Act → World → Prop} {Q : Exit → Act → World → Prop} {E : Prop} (hgd : o.guard = none) (d s : Operand) (dT sT : TypeId)
    (ho : o.op = .call { callee := .builtin .copy, args := #[d, s], argTypes := #[dT, sT] }) (elem : TypeId) (hu : P.underlying dT = some (.slice elem)) (hsz : (P.info? elem).map (·.size) = some 1)
    (g off dLen dCap : Nat) (ad : Addr) (sLen sCap : Nat) (hd : a.eval d = .slice (some ⟨g, off, none⟩) dLen dCap) (hs : a.eval s = .slice (some ad) sLen sCap)
    (cur : Array Value) (t : TypeId) (hg : w.heap[g]? = some (.cells cur t (0, 0))) (cs : List Value) (hn : cs.length = Nat.min sLen dLen)
    (hsrc : ∀ j v, cs[j]? = some v → w.cell? (ad.add j) = some v) (hfit : off + cs.length ≤ cur.size) (h1 : ∀ v ∈ cs, v.oneCell' = true)
    (h : ∀ w', w' = w.setRow g (cur.toList.take off ++ (cs ++ cur.toList.drop (off + cs.length))).toArray → K (a.put o.dst (goInt cs.length)) w') :
    if Region.wanted o (yielded ops a.tmps) = true then Oper.wp P o a w K Q else E := by
  have hw : Region.wanted o (yielded ops a.tmps) = true := by simp [Region.wanted, hgd]
  rw [if_pos hw]
  have hrun := run_copy_row (P := P) w dT sT o.type elem g off dLen dCap ad sLen sCap cur t cs hu hsz hg hn hsrc hfit h1
  unfold Oper.wp
  simp [execOp, ho, resolve, invoke, builtin, hd, hs, hrun, Result.andThen]
  exact h _ (by simp)

/-- What Fork answers. -/
def ForkV (B m g : Nat) (l : List UInt8) (w : World) (e : Ending) (w' : World) : Prop :=
  ∃ m2 g2, e = .returned (.pointer (some ⟨m2, 0, none⟩)) ∧ MemG w' w.heap.size m2 g2 l ∧ MemG w' B m g l ∧ Below w.heap.size w w'
def forkRow (z l : List UInt8) : Array Value := ((u8Cells z).toArray.toList.take 0 ++ (u8Cells l ++ (u8Cells z).toArray.toList.drop (0 + (u8Cells l).length))).toArray
theorem forkRow_eq {z l : List UInt8} (h : z.length = l.length) : forkRow z l = (u8Cells l).toArray := by
  unfold forkRow
  have e : (u8Cells z).drop (0 + (u8Cells l).length) = [] := List.drop_eq_nil_of_le (by rw [u8Cells_len, u8Cells_len]; omega)
  simp only [List.take_zero, List.nil_append]
  rw [e, List.append_nil]
theorem fork_fin {w w1 w2 : World} {B m g m2 g2 : Nat} {z l : List UInt8} (hw : g < w.heap.size ∧ m < w.heap.size) (G1 : MemG w1 B m g l) (G2 : MemG w1 w.heap.size m2 g2 z) (hz : z.length = l.length) (hb : Below w.heap.size w w1) (e : w2 = w1.setRow g2 (forkRow z l)) :
    MemG w2 w.heap.size m2 g2 l ∧ MemG w2 B m g l ∧ Below w.heap.size w w2 := by
  subst e
  obtain ⟨h1, h2, h3, h4⟩ := G2
  have hne : m2 ≠ g2 := h3.differ h4 (by decide)
  refine ⟨⟨h1, h2, ?_, ?_⟩, G1.far (only_setRow _ _ _) (by omega) (by omega), hb.trans (below_of_only (only_setRow w1 g2 _) hb.size (fun k hk => by injection hk with hk; omega))⟩
  · rw [← hz]
    exact blk_far h3 hne
  · show (World.setRow _ _ _).heap[g2]? = _
    rw [setRow_heap w1 g2 _ _ _ _ h4, forkRow_eq hz]
theorem row_src {w : World} {g : Nat} {l : List UInt8} (h : Blk w g 5 (u8Cells l).toArray) : ∀ j v, (u8Cells l)[j]? = some v → w.cell? ((⟨g, 0, none⟩ : Addr).add j) = some v := fun j v hj => by
  have hjl : j < l.length := by
    rcases Nat.lt_or_ge j l.length with q | q
    · exact q
    · rw [List.getElem?_eq_none (by rw [u8Cells_len]; exact q)] at hj; cases hj
  have ha : (⟨g, 0, none⟩ : Addr).add j = ⟨g, j, none⟩ := by unfold Addr.add; split <;> simp_all
  rw [ha, row_cell h hjl]
  rw [u8Cells_get hjl] at hj
  exact hj
theorem u8_one (l : List UInt8) : ∀ v ∈ u8Cells l, v.oneCell' = true := by
  intro v hv
  obtain ⟨b, _, rfl⟩ := List.mem_map.mp hv
  rfl

set_option maxHeartbeats 1600000 in
theorem fork_any (w : World) (B m g : Nat) (l : List UInt8) (h : MemG w B m g l) (hl : l.length ≤ 600) :
    Calls Try.prog 19 #[.pointer (some ⟨m, 0, none⟩)] w (ForkV B m g l w) := by
  have hsz := size_any w B m l h.mem
  have hs : sizeOf' (l.length : Int) = l.length := by unfold sizeOf'; rw [if_neg (by omega), if_neg (by omega)]; omega
  obtain ⟨z, hz⟩ : ∃ z, z = List.replicate l.length (0 : UInt8) := ⟨_, rfl⟩
  have hzl : z.length = l.length := by rw [hz, List.length_replicate]
  have hn : ∀ W, Calls Try.prog 8 #[.int .i64 l.length] W fun r w' => ∃ m, r = .returned (.pointer (some ⟨m, 0, none⟩)) ∧ MemV w' W.heap.size m z ∧ Below W.heap.size W w' := fun W => by
    have := mnew_any l.length W
    rw [hs, ← hz] at this
    exact this
  have HSZ := Lib.hid hsz
  have HN := Lib.hid hn
  have HM := Lib.hid h
  have hw := h.lt
  have HZL := Lib.hid hzl
  have HCL : Hid ((u8Cells l).length = Nat.min l.length z.length) := by unfold Hid; rw [u8Cells_len, hzl]; exact (Nat.min_self _).symm
  have HFIT : Hid (0 + (u8Cells l).length ≤ (u8Cells z).toArray.size) := by unfold Hid; simp [u8Cells_len, hzl]
  clear hsz hn hs hz h hzl
  go_enter Try.func19, Try.ntmps19
  go_wp2_with (first
    | (go_at_call 17; refine HSZ.out.mono ?_; rintro e w0 ⟨rfl, rfl⟩)
    | (go_at_call 8; refine (HN.out _).mono ?_; rintro e w1 ⟨m2, rfl, hm, b1⟩; obtain ⟨g2, hg2⟩ := hm.named; have G1 := Lib.hid (HM.out.below b1); have G2 := Lib.hid hg2; have B1 := Lib.hid b1; have d0 := hg2.2.2.1.cell 0; have d1 := G1.out.2.2.1.cell 0; simp at d0 d1; clear hm b1 hg2))
  go_region_law (refine step_copy_row rfl (.tmp 12) (.tmp 16) 69 69 rfl 5 Try.underlying69 (by kernel_rfl) g2 0 z.length z.length ⟨g, 0, none⟩ l.length l.length (by simp [Act.eval, Act.put]) (by simp [Act.eval, Act.put]) (u8Cells z).toArray 5 G2.out.2.2.2 (u8Cells l) HCL.out (row_src (w := w1.drew) G1.out.2.2.2) HFIT.out (u8_one l) ?_; intro w2 e2; have FIN := Lib.hid (fork_fin (w1 := w1.drew) hw (G1.out.drewN 1) (G2.out.drewN 1) HZL.out (below_drewN B1.out 1) e2); clear e2)
  all_goals
    go_wp2
    go_ret
    exact ⟨m2, g2, rfl, FIN.out⟩
end Go.Proofs.Ythlapnljinkekab

/- Plain facts on sorting rows of regions by their bases: no program is spoken of here. -/
namespace Go.Proofs.Ythlapnljinkekab.Sr

abbrev P2 := Int × Int × Int
def cmpI (x y : Int) : Int := if x < y then -1 else if y < x then 1 else 0
def cmpS (a b : P2) : Int := cmpI a.2.1 b.2.1
def lt (a b : P2) : Prop := a.2.1 < b.2.1
theorem cmpS_neg (a b : P2) : cmpS a b < 0 ↔ lt a b := by
  unfold cmpS cmpI lt
  split <;> (try split) <;> omega
theorem lt_irrefl (a : P2) : ¬ lt a a := by unfold lt; omega
theorem lt_trans {a b c : P2} (h : lt a b) (k : lt b c) : lt a c := by unfold lt at *; omega
/-- Not above: the order that the sort leaves. -/
def le (a b : P2) : Prop := ¬ lt b a
theorem le_refl (a : P2) : le a a := lt_irrefl a
theorem le_trans {a b c : P2} (h : le a b) (k : le b c) : le a c := by unfold le lt at *; omega
theorem le_of_lt {a b : P2} (h : lt a b) : le a b := by unfold le lt at *; omega
/-- The row d with a and b in the places i. -/
def upd (d : Nat → P2) (i : Nat) (p : P2) : Nat → P2 := fun k => if k = i then p else d k
def swp (d : Nat → P2) (i j : Nat) : Nat → P2 := upd (upd d i (d j)) j (d i)
theorem swp_at (d : Nat → P2) (i j k : Nat) : swp d i j k = if k = j then d i else if k = i then d j else d k := by simp [swp, upd]

def Sorted (d : Nat → P2) (a b : Nat) : Prop := ∀ p q, a ≤ p → p < q → q < b → le (d p) (d q)
/-- d' is d with what stands from a on, up to b, in another order. -/
def Perm (a b : Nat) (d d' : Nat → P2) : Prop := ∃ s t : Nat → Nat, (∀ k, t (s k) = k) ∧ (∀ k, s (t k) = k) ∧ (∀ k, ¬ (a ≤ k ∧ k < b) → s k = k) ∧ (∀ k, d' k = d (s k))

theorem Perm.refl (a b : Nat) (d : Nat → P2) : Perm a b d d := ⟨id, id, fun _ => rfl, fun _ => rfl, fun _ _ => rfl, fun _ => rfl⟩
theorem Perm.trans {a b : Nat} {d e f : Nat → P2} (h : Perm a b d e) (k : Perm a b e f) : Perm a b d f := by
  obtain ⟨s, t, h1, h2, h3, h4⟩ := h
  obtain ⟨u, v, k1, k2, k3, k4⟩ := k
  refine ⟨fun x => s (u x), fun x => v (t x), fun x => by simp [h1, k1], fun x => by simp [k2, h2], fun x hx => by simp [k3 x hx, h3 x hx], fun x => by rw [k4, h4]⟩
theorem Perm.mono {a b a' b' : Nat} {d e : Nat → P2} (h : Perm a b d e) (ha : a' ≤ a) (hb : b ≤ b') : Perm a' b' d e := by
  obtain ⟨s, t, h1, h2, h3, h4⟩ := h
  exact ⟨s, t, h1, h2, fun k hk => h3 k (by omega), h4⟩
theorem Perm.swp {a b i j : Nat} (d : Nat → P2) (hi : a ≤ i ∧ i < b) (hj : a ≤ j ∧ j < b) : Perm a b d (swp d i j) := by
  refine ⟨fun k => if k = j then i else if k = i then j else k, fun k => if k = j then i else if k = i then j else k, ?_, ?_, ?_, ?_⟩
  · intro k; dsimp only; split <;> (try split) <;> (try split) <;> (try split) <;> omega
  · intro k; dsimp only; split <;> (try split) <;> (try split) <;> (try split) <;> omega
  · intro k hk; dsimp only; rw [if_neg (by omega), if_neg (by omega)]
  · intro k
    rw [swp_at]
    dsimp only
    split
    · rfl
    · split <;> rfl
theorem Perm.out {a b : Nat} {d e : Nat → P2} (h : Perm a b d e) {k : Nat} (hk : ¬ (a ≤ k ∧ k < b)) : e k = d k := by
  obtain ⟨s, t, h1, h2, h3, h4⟩ := h
  rw [h4, h3 k hk]
theorem Perm.into {a b : Nat} {d e : Nat → P2} (h : Perm a b d e) {k : Nat} (hk : a ≤ k ∧ k < b) : ∃ j, a ≤ j ∧ j < b ∧ e k = d j := by
  obtain ⟨s, t, h1, h2, h3, h4⟩ := h
  refine ⟨s k, ?_⟩
  by_cases hs : a ≤ s k ∧ s k < b
  · exact ⟨hs.1, hs.2, h4 k⟩
  · have := h3 (s k) hs
    have e1 := h1 k
    have e2 := h1 (s k)
    rw [this] at e2
    rw [e1] at e2
    omega

/-- Within an insertion: all but the one at j stand in order, and those behind it are not below it. -/
def Ins (d : Nat → P2) (a i j : Nat) : Prop := (∀ p q, a ≤ p → p < q → q ≤ i → p ≠ j → q ≠ j → le (d p) (d q)) ∧ (∀ q, j < q → q ≤ i → le (d j) (d q))
theorem Ins.start {d : Nat → P2} {a i : Nat} (h : Sorted d a i) : Ins d a i i := ⟨fun p q h1 h2 h3 _ h5 => h p q h1 h2 (by omega), fun q h1 h2 => by omega⟩
theorem Ins.step {d : Nat → P2} {a i j : Nat} (h : Ins d a i j) (ha : a < j) (hj : j ≤ i) (hl : lt (d j) (d (j - 1))) : Ins (swp d j (j - 1)) a i (j - 1) := by
  refine ⟨fun p q h1 h2 h3 h4 h5 => ?_, fun q h1 h2 => ?_⟩
  · rw [swp_at, swp_at, if_neg h4, if_neg h5]
    by_cases hp : p = j
    · rw [if_pos hp, if_neg (by omega)]
      subst hp
      exact h.1 (p - 1) q (by omega) (by omega) h3 (by omega) (by omega)
    · rw [if_neg hp]
      by_cases hq : q = j
      · rw [if_pos hq]
        exact h.1 p (j - 1) h1 (by omega) (by omega) hp (by omega)
      · rw [if_neg hq]
        exact h.1 p q h1 h2 h3 hp hq
  · rw [swp_at, swp_at, if_pos rfl, if_neg (by omega)]
    by_cases hq : q = j
    · rw [if_pos hq]
      exact le_of_lt hl
    · rw [if_neg hq]
      exact h.2 q (by omega) h2
theorem Ins.done {d : Nat → P2} {a i j : Nat} (h : Ins d a i j) (hj : j ≤ i) (haj : a ≤ j) (hl : j = a ∨ ¬ lt (d j) (d (j - 1))) : Sorted d a (i + 1) := by
  intro p q h1 h2 h3
  by_cases hp : p = j
  · subst hp
    exact h.2 q h2 (by omega)
  · by_cases hq : q = j
    · subst hq
      rcases hl with hl | hl
      · omega
      · by_cases hp1 : p = q - 1
        · subst hp1; exact hl
        · exact le_trans (h.1 p (q - 1) h1 (by omega) (by omega) hp (by omega)) hl
    · exact h.1 p q h1 h2 (by omega) hp hq
theorem Sorted.one (d : Nat → P2) (a : Nat) : Sorted d a (a + 1) := fun p q h1 h2 h3 => by omega
theorem Sorted.out {d e : Nat → P2} {a b : Nat} (h : Sorted d a b) (he : ∀ k, a ≤ k → k < b → e k = d k) : Sorted e a b := fun p q h1 h2 h3 => by
  rw [he p h1 (by omega), he q (by omega) h3]
  exact h p q h1 h2 h3
def rot (d : Nat → P2) (a m b : Nat) : Nat → P2 := fun k => if a ≤ k ∧ k < a + (b - m) then d (k - a + m) else if a + (b - m) ≤ k ∧ k < b then d (k - (b - m)) else d k
theorem rot_down (d : Nat → P2) {m k : Nat} (h : k < m) : swp (rot d (k + 1) m (m + 1)) (k + 1) k = rot d k m (m + 1) := by
  funext q; rw [swp_at]; simp only [rot]
  repeat' split
  all_goals first | (exfalso; omega) | (congr 1 <;> omega)
theorem rot_right (d : Nat → P2) (m b : Nat) : rot d m m b = d := by
  funext k; simp only [rot]
  repeat' split
  all_goals first | (exfalso; omega) | (congr 1 <;> omega)
theorem Perm.rotDown {d : Nat → P2} {m k lo hi : Nat} (i : Nat) (hki : k + i = m) (h1 : lo ≤ k) (h3 : m < hi) : Perm lo hi d (rot d k m (m + 1)) := by
  induction i generalizing k with
  | zero => obtain rfl : k = m := by omega
            rw [rot_right]; exact Perm.refl _ _ _
  | succ i ih =>
    rw [← rot_down d (show k < m by omega)]
    exact (ih (by omega) (by omega)).trans (Perm.swp _ ⟨by omega, by omega⟩ ⟨by omega, by omega⟩)
theorem one_last {d : Nat → P2} {a m i : Nat} (hs : Sorted d a m) (h1 : a ≤ i) (h2 : i ≤ m) (hl : ∀ q, a ≤ q → q < i → ¬ lt (d m) (d q)) (hr : ∀ q, i ≤ q → q < m → lt (d m) (d q)) : Sorted (rot d i m (m + 1)) a (m + 1) := by
  intro p q hp hpq hq
  simp only [rot]
  by_cases c1 : p < i
  · rw [if_neg (by omega), if_neg (by omega)]
    by_cases c2 : q < i
    · rw [if_neg (by omega), if_neg (by omega)]; exact hs _ _ (by omega) (by omega) (by omega)
    · by_cases c3 : q = i
      · rw [if_pos (by omega), show q - i + m = m by omega]; exact hl p (by omega) (by omega)
      · rw [if_neg (by omega), if_pos (by omega)]; exact hs _ _ (by omega) (by omega) (by omega)
  · by_cases c3 : p = i
    · rw [if_pos (by omega), if_neg (by omega), if_pos (by omega), show p - i + m = m by omega]
      exact le_of_lt (hr _ (by omega) (by omega))
    · rw [if_neg (by omega), if_pos (by omega), if_neg (by omega), if_pos (by omega)]; exact hs _ _ (by omega) (by omega) (by omega)
def lst (n : Nat) (d : Nat → P2) : List P2 := (List.range n).map d
theorem lst_perm {n : Nat} {d e : Nat → P2} (h : Perm 0 n d e) : (lst n e).Perm (lst n d) := by
  obtain ⟨s, t, h1, h2, h3, h4⟩ := h
  have hs : ∀ k, k < n → s k < n := fun k hk => by
    rcases Nat.lt_or_ge (s k) n with h | h
    · exact h
    · have := h3 (s k) (by omega)
      have e2 := h1 (s k)
      rw [this] at e2
      have e1 := h1 k
      rw [e1] at e2
      omega
  have ht : ∀ k, k < n → t k < n := fun k hk => by
    rcases Nat.lt_or_ge (t k) n with h | h
    · exact h
    · have := h3 (t k) (by omega)
      rw [h2] at this
      omega
  have hp : ((List.range n).map s).Perm (List.range n) := by
    refine (List.perm_ext_iff_of_nodup ?_ List.nodup_range).2 fun a => ?_
    · refine List.Pairwise.map _ ?_ (List.nodup_range (n := n))
      intro a b hab e
      exact hab (by rw [← h1 a, ← h1 b, e])
    · simp only [List.mem_map, List.mem_range]
      exact ⟨fun ⟨k, hk, e⟩ => e ▸ hs k hk, fun hk => ⟨t a, ht a hk, h2 a⟩⟩
  have he : lst n e = ((List.range n).map s).map d := by
    unfold lst
    rw [List.map_map]
    apply List.map_congr_left
    intro k _
    exact h4 k
  rw [he]
  exact hp.map d
theorem lst_sorted {n : Nat} {d : Nat → P2} (h : Sorted d 0 n) : (lst n d).Pairwise le := by
  unfold lst
  rw [List.pairwise_map]
  have := List.pairwise_lt_range (n := n)
  refine this.imp_of_mem ?_
  intro a b ha hb hab
  exact h a b (by omega) hab (List.mem_range.1 hb)
theorem lst_len (n : Nat) (d : Nat → P2) : (lst n d).length = n := by simp [lst]
theorem lst_get {n : Nat} {d : Nat → P2} {k : Nat} (h : k < n) : (lst n d)[k]? = some (d k) := by simp [lst, h]
theorem lst_mem {n : Nat} {d : Nat → P2} {x : P2} : x ∈ lst n d ↔ ∃ k, k < n ∧ d k = x := by simp [lst]
theorem lst_succ (n : Nat) (d : Nat → P2) : lst (n + 1) d = lst n d ++ [d n] := by simp [lst, List.range_succ]
theorem lst_congr {n : Nat} {d e : Nat → P2} (h : ∀ k, k < n → d k = e k) : lst n d = lst n e := by
  unfold lst
  apply List.map_congr_left
  intro k hk
  exact h k (List.mem_range.1 hk)
theorem sorted_one {n : Nat} {d e f : Nat → P2} (he : (lst n e).Perm (lst n d)) (hf : (lst n f).Perm (lst n d)) (se : Sorted e 0 n) (sf : Sorted f 0 n) (hd : ∀ i k, i < n → k < n → (d i).2.1 = (d k).2.1 → d i = d k) : ∀ k, k < n → e k = f k := by
  have hl : lst n e = lst n f := List.Perm.eq_of_pairwise (fun a b ha hb h k => by
    obtain ⟨i, hi, rfl⟩ := lst_mem.1 ((he.mem_iff).1 ha)
    obtain ⟨j, hj, rfl⟩ := lst_mem.1 ((hf.mem_iff).1 hb)
    unfold le lt at h k
    exact hd i j hi hj (by omega)) (lst_sorted se) (lst_sorted sf) (he.trans hf.symm)
  intro k hk
  have h1 : (lst n e)[k]? = some (e k) := lst_get hk
  have h2 : (lst n f)[k]? = some (f k) := lst_get hk
  rw [hl, h2] at h1
  injection h1 with h1
  exact h1.symm
end Go.Proofs.Ythlapnljinkekab.Sr

/- Regions: rows of three numbers in memory; what the map of a table holds. -/
namespace Go.Proofs.Ythlapnljinkekab
open Go.RowKit Go.Lib Go.Sort
set_option linter.unusedVariables false

abbrev Reg := Int × Int × Int
/-- A region as1 a value. -/
abbrev rgv (r : Reg) : Value := .agg #[.int .i64 r.1, .int .i64 r.2.1, .int .i64 r.2.2]
def fitI (x : Int) : Prop := -9223372036854775808 ≤ x ∧ x ≤ 9223372036854775807
instance (x : Int) : Decidable (fitI x) := inferInstanceAs (Decidable (_ ∧ _))
def Fits (r : Reg) : Prop := fitI r.1 ∧ fitI r.2.1 ∧ fitI r.2.2
theorem fitI_wf {x : Int} (h : fitI x) : (Lit.int .i64 x).wf = true := by
  simp only [Lit.wf, Bool.and_eq_true, decide_eq_true_eq]
  have e1 : IntKind.i64.min = -9223372036854775808 := by kernel_rfl
  have e2 : IntKind.i64.max = 9223372036854775807 := by kernel_rfl
  unfold fitI at h
  omega
theorem fitI_of {x : Int} (w : (Lit.int .i64 x).wf = true) : fitI x := by
  simp only [Lit.wf, Bool.and_eq_true, decide_eq_true_eq] at w
  have e1 : IntKind.i64.min = -9223372036854775808 := by kernel_rfl
  have e2 : IntKind.i64.max = 9223372036854775807 := by kernel_rfl
  unfold fitI
  omega

/-- Regions that came in, or were made: nil, or a row of cells. -/
def Regs (w : World) (A : Option Addr) (len cap : Nat) (d : Nat → Reg) : Prop :=
  (A = none → len = 0 ∧ cap = 0) ∧ (0 < len → ∃ b off, A = some ⟨b, off, none⟩ ∧ b < w.heap.size ∧ ∀ i, i < len → w.cell? ⟨b, off + i * 3, none⟩ = some (.int .i64 (d i).1) ∧ w.cell? ⟨b, off + i * 3 + 1, none⟩ = some (.int .i64 (d i).2.1) ∧ w.cell? ⟨b, off + i * 3 + 2, none⟩ = some (.int .i64 (d i).2.2))
theorem Regs.under {w w' : World} {B : Nat} {A : Option Addr} {len cap : Nat} {d : Nat → Reg} (h : Regs w A len cap d) (hb : Below B w w') (hB : w.heap.size ≤ B) : Regs w' A len cap d := by
  refine ⟨h.1, fun hp => ?_⟩
  obtain ⟨b, off, h1, h2, h3⟩ := h.2 hp
  have hlB := Nat.lt_of_lt_of_le h2 hB
  refine ⟨b, off, h1, Nat.lt_of_lt_of_le h2 hb.size, fun i hi => ?_⟩
  obtain ⟨c0, c1, c2⟩ := h3 i hi
  exact ⟨(hb.cell (p := ⟨b, off + i * 3, none⟩) hlB).trans c0, (hb.cell (p := ⟨b, off + i * 3 + 1, none⟩) hlB).trans c1, (hb.cell (p := ⟨b, off + i * 3 + 2, none⟩) hlB).trans c2⟩
theorem Regs.below {w w' : World} {A : Option Addr} {len cap : Nat} {d : Nat → Reg} (h : Regs w A len cap d) (hb : Below w.heap.size w w') : Regs w' A len cap d := h.under hb (Nat.le_refl _)
theorem Regs.cut {w : World} {A : Option Addr} {len cap : Nat} {d : Nat → Reg} (h : Regs w A len cap d) (m : Nat) (hm : m ≤ len) : Regs w A m cap d := by
  refine ⟨fun hn => ⟨by have := (h.1 hn).1; omega, (h.1 hn).2⟩, fun hp => ?_⟩
  obtain ⟨b, off, h1, h2, h3⟩ := h.2 (by omega)
  exact ⟨b, off, h1, h2, fun i hi => h3 i (by omega)⟩

/-- How a region reads as1 a map's element. -/
def regDat (r : Reg) : DataW Unit := .agg [.lit (.int .i64 r.1), .lit (.int .i64 r.2.1), .lit (.int .i64 r.2.2)]
def regElem (v : Value) : Option (DataW Unit × List MemPlace) :=
  match v with
  | .agg cs => (match cs.toList with
    | [.int .i64 a, .int .i64 b, .int .i64 c] => some (regDat (a, b, c), [])
    | _ => none)
  | _ => none
theorem regElem_mk (r : Reg) : regElem (rgv r) = some (regDat r, []) := rfl
theorem regElem_inv {v : Value} {z : DataW Unit × List MemPlace} (h : regElem v = some z) : ∃ r : Reg, v = rgv r ∧ z = (regDat r, []) := by
  unfold regElem at h
  split at h
  · rename_i cs
    split at h
    · rename_i a b c e
      injection h with h
      refine ⟨(a, b, c), ?_, h.symm⟩
      have : cs = #[.int .i64 a, .int .i64 b, .int .i64 c] := by
        apply Array.toList_inj.1
        rw [e]
      rw [this]
    · cases h
  · cases h
theorem regDat_inj {r s : Reg} (h : regDat r = regDat s) : r = s := by
  obtain ⟨a, b, c⟩ := r
  obtain ⟨a', b', c'⟩ := s
  simp only [regDat] at h
  injection h with h
  injection h with h1 h
  injection h with h2 h
  injection h with h3 h
  injection h1 with h1
  injection h2 with h2
  injection h3 with h3
  injection h1 with _ h1
  injection h2 with _ h2
  injection h3 with _ h3
  rw [h1, h2, h3]

theorem int_keys : Maps.Keyed Try.prog 3 := Maps.int_keyed Try.underlying3
theorem int_key {x : Int} (h : fitI x) : keyOf Try.prog 3 (.int .i64 x) = some (.int .i64 x) := Maps.keyOf_int_mk Try.underlying3 (fitI_wf h)
theorem int_key_lit {x : Int} (h : fitI x) : WideAt.IsKeyLit (.int .i64 x) := int_keys.key (int_key h)
theorem reg_zero (w : World) : (zeroValue 62).run Try.prog w = .ok (.agg #[.int .i64 0, .int .i64 0, .int .i64 0]) w := by kernel_rfl

/-- The region of an owner among some. -/
def lookL (L : List Reg) (o : Int) : Option Reg := L.find? fun r => decide (r.1 = o)
theorem lookL_some {L : List Reg} {o : Int} {r : Reg} (h : lookL L o = some r) : r ∈ L ∧ r.1 = o := by
  have h1 := List.mem_of_find?_eq_some h
  have h2 := List.find?_some h
  exact ⟨h1, by simpa using h2⟩
theorem lookL_none {L : List Reg} {o : Int} (h : lookL L o = none) : ∀ r ∈ L, r.1 ≠ o := by
  intro r hr
  have := List.find?_eq_none.1 h r hr
  simpa using this

/-- What the datum of a map says of the regions L. -/
def Says (D : DataW Unit) (L : List Reg) : Prop :=
  Maps.IsMap D ∧ (∀ o : Int, fitI o → Maps.has D (.int .i64 o) = L.any (fun r => decide (r.1 = o))) ∧ (∀ r ∈ L, fitI r.1 ∧ ∀ z, D.atKey (.int .i64 r.1) z = regDat r)
theorem Says.nil : Says (.map []) [] := ⟨Maps.isMap_empty, fun o _ => rfl, fun r hr => by cases hr⟩
theorem Says.put {D : DataW Unit} {L : List Reg} (h : Says D L) (r : Reg) (hf : fitI r.1) (hn : ∀ x ∈ L, x.1 ≠ r.1) : Says (D.put (.int .i64 r.1) (regDat r)) (L ++ [r]) := by
  obtain ⟨h1, h2, h3⟩ := h
  refine ⟨h1.put _ _, fun o ho => ?_, fun x hx => ?_⟩
  · by_cases e : o = r.1
    · subst e
      rw [Maps.has_put_same h1 (int_key_lit hf)]
      simp
    · have hne : (Lit.int .i64 o) ≠ .int .i64 r.1 := fun h => e (by injection h)
      rw [Maps.has_put_other hne, h2 o ho]
      have : ¬ r.1 = o := fun h => e h.symm
      simp [this]
  · rcases List.mem_append.1 hx with hx | hx
    · obtain ⟨f, g⟩ := h3 x hx
      refine ⟨f, fun z => ?_⟩
      have hne : (Lit.int .i64 x.1) ≠ .int .i64 r.1 := fun h => hn x hx (by injection h)
      rw [Maps.atKey_put_other hne, g]
    · obtain rfl : x = r := by simpa using hx
      exact ⟨hf, fun z => Maps.atKey_put_same h1 (int_key_lit hf) _ _⟩
theorem Says.has_some {D : DataW Unit} {L : List Reg} (h : Says D L) {o : Int} {r : Reg} (hr : lookL L o = some r) : Maps.has D (.int .i64 o) = true ∧ ∀ z, D.atKey (.int .i64 o) z = regDat r := by
  obtain ⟨h1, rfl⟩ := lookL_some hr
  refine ⟨?_, (h.2.2 r h1).2⟩
  rw [h.2.1 r.1 (h.2.2 r h1).1, List.any_eq_true]
  exact ⟨r, h1, by simp⟩
theorem Says.has_none {D : DataW Unit} {L : List Reg} (h : Says D L) {o : Int} (ho : fitI o) (hr : lookL L o = none) : Maps.has D (.int .i64 o) = false := by
  rw [h.2.1 o ho]
  have := lookL_none hr
  simpa using fun a b c hm => this (a, b, c) hm

/-- Block b is a map of the regions L. -/
def MapR (w : World) (b : Nat) (L : List Reg) : Prop := ∃ D : DataW Unit, w.ownsMap Try.prog 3 regElem b L.length D ∧ Says D L
theorem MapR.lt {w : World} {b : Nat} {L : List Reg} (h : MapR w b L) : b < w.heap.size := by
  obtain ⟨D, h1, _⟩ := h
  exact h1.lt
theorem MapR.only {w w' : World} {b : Nat} {L : List Reg} {row : Option Nat} (h : MapR w b L) (hb : w.grownBy w' row) (hne : some b ≠ row) : MapR w' b L := by
  obtain ⟨D, h1, h2⟩ := h
  exact ⟨D, h1.kept hb hne, h2⟩
theorem MapR.below {w w' : World} {b : Nat} {L : List Reg} (h : MapR w b L) (hb : Below w.heap.size w w') : MapR w' b L := h.only (only_far hb) (by simp)
theorem MapR.new (w : World) : MapR (w.alloc (.map #[] 0)) w.heap.size [] := ⟨_, World.ownsMap_made w _ _ _, Says.nil⟩
theorem MapR.drewN {w : World} {b : Nat} {L : List Reg} (h : MapR w b L) (n : Nat) : MapR (w.drewN n) b L := h.only (only_drewN (only_refl _ none) n) (by simp)

/-- A table lies in block t, its map in block b, both from B on. -/
def TabG (w : World) (B t b : Nat) (L : List Reg) : Prop := B ≤ t ∧ B ≤ b ∧ Blk w t 74 #[.map (some b)] ∧ MapR w b L
def TabV (w : World) (B t : Nat) (L : List Reg) : Prop := ∃ b, TabG w B t b L
theorem TabG.only {w w' : World} {B t b : Nat} {L : List Reg} {row : Option Nat} (h : TabG w B t b L) (hb : w.grownBy w' row) (h1 : some t ≠ row) (h2 : some b ≠ row) : TabG w' B t b L := ⟨h.1, h.2.1, h.2.2.1.only hb h1, h.2.2.2.only hb h2⟩
theorem TabG.below {w w' : World} {B t b : Nat} {L : List Reg} (h : TabG w B t b L) (hb : Below w.heap.size w w') : TabG w' B t b L := h.only (only_far hb) (by simp) (by simp)
theorem TabV.below {w w' : World} {B t : Nat} {L : List Reg} (h : TabV w B t L) (hb : Below w.heap.size w w') : TabV w' B t L := by
  obtain ⟨b, h⟩ := h
  exact ⟨b, h.below hb⟩
theorem TabG.tab {w : World} {B t b : Nat} {L : List Reg} (h : TabG w B t b L) : TabV w B t L := ⟨b, h⟩

/-! ### at the operation -/
section
variable {w : World} {ops : Array Oper} {rest : List Oper} {o : Oper} {a : Act} {Q : Exit → Act → World → Prop}

/-- 'r, ok := m[k]', there. -/
theorem wpList_look_some (hg : o.guard = none) (m x : Operand) (hop : o.op = Op.lookup 72 m x true) (b : Nat) (L : List Reg) (k p q s : Int) (hm : a.eval m = .map (some b)) (hmap : MapR w b L) (hx : a.eval x = .int .i64 k) (hk : fitI k) (hl : lookL L k = some (p, q, s))
    (hK : wpList Try.prog ops Q rest (a.put o.dst (.tuple #[.agg #[.int .i64 p, .int .i64 q, .int .i64 s], .bool true])) w) : wpList Try.prog ops Q (o :: rest) a w := by
  obtain ⟨D, h1, h2⟩ := hmap
  obtain ⟨e1, e2⟩ := h2.has_some hl
  refine wpList_lookup_own_ok w hg m x _ hop 3 62 int_keys Try.underlying72 regElem (reg_zero w) (regDat (0, 0, 0)) [] rfl b L.length D hm h1 (.int .i64 k) (.int .i64 k) hx (int_key hk) ?_
  intro v ps hv
  rw [e2] at hv
  obtain ⟨r, rfl, hz⟩ := regElem_inv hv
  injection hz with hz _
  obtain rfl := regDat_inj hz
  rw [e1]
  exact hK
/-- .. not there. -/
theorem wpList_look_none (hg : o.guard = none) (m x : Operand) (hop : o.op = Op.lookup 72 m x true) (b : Nat) (L : List Reg) (k : Int) (hm : a.eval m = .map (some b)) (hmap : MapR w b L) (hx : a.eval x = .int .i64 k) (hk : fitI k) (hl : lookL L k = none)
    (hK : wpList Try.prog ops Q rest (a.put o.dst (.tuple #[.agg #[.int .i64 0, .int .i64 0, .int .i64 0], .bool false])) w) : wpList Try.prog ops Q (o :: rest) a w := by
  obtain ⟨D, h1, h2⟩ := hmap
  have e1 := h2.has_none hk hl
  refine wpList_lookup_own_ok w hg m x _ hop 3 62 int_keys Try.underlying72 regElem (reg_zero w) (regDat (0, 0, 0)) [] rfl b L.length D hm h1 (.int .i64 k) (.int .i64 k) hx (int_key hk) ?_
  intro v ps hv
  rw [Maps.atKey_of_not_has e1] at hv
  obtain ⟨r, rfl, hz⟩ := regElem_inv hv
  injection hz with hz _
  obtain rfl := regDat_inj hz
  rw [e1]
  exact hK
/-- 'm[r.Owner] = r', where it is not there yet. -/
theorem wpList_put_reg (hg : o.guard = none) (m x v : Operand) (hop : o.op = Op.mapUpdate 72 m x v) (b : Nat) (L : List Reg) (p q s : Int) (hm : a.eval m = .map (some b)) (hmap : MapR w b L) (hx : a.eval x = .int .i64 p) (hv : a.eval v = .agg #[.int .i64 p, .int .i64 q, .int .i64 s]) (hk : fitI p) (hn : ∀ y ∈ L, y.1 ≠ p) (hl : L.length < maxLen)
    (hK : ∀ w', MapR w' b (L ++ [(p, q, s)]) → w.grownBy w' (some b) → wpList Try.prog ops Q rest (a.put o.dst undef) w') : wpList Try.prog ops Q (o :: rest) a w := by
  obtain ⟨D, h1, h2⟩ := hmap
  refine wpList_mapUpdate_in w hg m x v _ hop 3 62 int_keys Try.underlying72 regElem b L.length D hm h1 hl _ _ (.int .i64 p) hx hv (int_key hk) (regDat (p, q, s)) [] rfl ?_
  intro w' h3 h4
  exact hK w' ⟨_, by simpa using h3, h2.put (p, q, s) hk hn⟩ h4.grown

/-- A range over a map of regions under way: rem is still to come. -/
def Rng (w : World) (b r : Nat) (L rem : List Reg) (cnt : Nat) : Prop :=
  ∃ D left, w.ranges Try.prog 3 regElem b r L.length D left cnt ∧ Says D L ∧ (∀ kl, left kl = true → ∃ x ∈ rem, kl = .int .i64 x.1) ∧ (∀ x ∈ rem, left (.int .i64 x.1) = true) ∧ (∀ x ∈ rem, x ∈ L) ∧ (rem.map (·.1)).Nodup
theorem Rng.map {w : World} {b r : Nat} {L rem : List Reg} {cnt : Nat} (h : Rng w b r L rem cnt) : MapR w b L := by
  obtain ⟨D, left, h1, h2, _⟩ := h
  exact ⟨D, h1.owns, h2⟩
theorem Rng.only {w w' : World} {b r : Nat} {L rem : List Reg} {cnt : Nat} {row : Option Nat} (h : Rng w b r L rem cnt) (hb : w.grownBy w' row) (h1 : some b ≠ row) (h2 : some r ≠ row) : Rng w' b r L rem cnt := by
  obtain ⟨D, left, h3, h4⟩ := h
  exact ⟨D, left, h3.kept hb h1 h2, h4⟩
theorem Rng.left_eq {w : World} {b r : Nat} {L rem : List Reg} {cnt : Nat} (h : Rng w b r L rem cnt) : w.rangeLeft b r = cnt := by
  obtain ⟨D, left, h3, h4⟩ := h
  exact h3.left_eq

theorem wpList_range_reg (hg : o.guard = none) (m : Operand) (hop : o.op = Op.range 72 m) (b : Nat) (L : List Reg) (hm : a.eval m = .map (some b)) (hmap : MapR w b L) (hnd : (L.map (·.1)).Nodup)
    (hK : ∀ w' cnt, Rng w' b w.heap.size L L cnt → w.grownBy w' none → w'.heap.size = w.heap.size + 1 → wpList Try.prog ops Q rest (a.put o.dst (.pointer (some ⟨w.heap.size, 0, none⟩))) w') : wpList Try.prog ops Q (o :: rest) a w := by
  obtain ⟨D, h1, h2⟩ := hmap
  refine wpList_range_own w hg m _ hop 3 62 int_keys Try.underlying72 regElem b L.length D hm h1 ?_
  intro w' h3 h4 h5
  refine hK w' _ ⟨D, Maps.has D, h3, h2, fun kl hkl => ?_, fun x hx => ?_, fun x hx => hx, hnd⟩ h4 h5
  · obtain ⟨es, clock, _, F, _, hD⟩ := h1
    rw [hD] at hkl
    obtain ⟨p, hp, hpk⟩ := List.any_eq_true.1 hkl
    obtain ⟨y, hy, rfl⟩ := List.mem_map.1 (mem_sorted.1 hp)
    obtain ⟨z, hz⟩ := F.reads y hy
    rw [WideElems.rg_of hz] at hpk
    have hk := WideElems.rd_key hz
    obtain ⟨x, hx1, hx2, hx3⟩ := Maps.keyOf_int_inv Try.underlying3 hk
    have hkx := WideAt.sameKey_eq hpk
    have hf := fitI_of hx3
    have hh : Maps.has D (.int .i64 x) = true := by
      rw [hD]
      rw [← hx2, hkx]
      exact hkl
    rw [h2.2.1 x hf] at hh
    obtain ⟨r, hr, hrx⟩ := List.any_eq_true.1 hh
    have hrx' : r.1 = x := by simpa using hrx
    exact ⟨r, hr, by rw [hrx', ← hkx, hx2]⟩
  · rw [h2.2.1 x.1 (h2.2.2 x hx).1, List.any_eq_true]
    exact ⟨x, hx, by simp⟩

theorem wpList_next_reg (hg : o.guard = none) (it : Operand) (hop : o.op = Op.next it false) (b r : Nat) (L rem : List Reg) (cnt : Nat) (hit : a.eval it = .pointer (some ⟨r, 0, none⟩)) (h : Rng w b r L rem cnt)
    (hDone : rem = [] → wpList Try.prog ops Q rest (a.put o.dst (.tuple #[.bool false])) w)
    (hMore : ∀ (p q s : Int) (rem' : List Reg) (w' : World) (cnt' : Nat), rem.Perm ((p, q, s) :: rem') → Rng w' b r L rem' cnt' → cnt' < cnt → w.grownBy w' (some r) → w'.heap.size = w.heap.size →
      (Instr.entry (.pointer (some ⟨r, 0, none⟩))).run Try.prog w' = .ok (.tuple #[.int .i64 p, .agg #[.int .i64 p, .int .i64 q, .int .i64 s]]) w' → wpList Try.prog ops Q rest (a.put o.dst (.tuple #[.bool true, .int .i64 p, .agg #[.int .i64 p, .int .i64 q, .int .i64 s]])) w') : wpList Try.prog ops Q (o :: rest) a w := by
  obtain ⟨D, left, h1, h2, h3, h4, h5, h6⟩ := h
  refine wpList_next_ranges (β := Reg) w hg it hop 3 int_keys regElem (Value.int .i64) rgv (fun key kl hkey => by obtain ⟨x, rfl, _⟩ := Maps.keyOf_int_inv Try.underlying3 hkey; exact ⟨x, rfl⟩) (fun v y hv => by obtain ⟨c, rfl, _⟩ := regElem_inv hv; exact ⟨c, rfl⟩) b r L.length D left cnt hit h1 ?_ ?_
  · intro _ hl
    refine hDone ?_
    cases rem with
    | nil => rfl
    | cons x rem =>
      have := h4 x (List.mem_cons_self ..)
      rw [hl] at this
      cases this
  · intro x c kl y w' cnt' hkey hlk hv hat hrg hlt hgr hsz hen
    obtain ⟨x', ex, rfl, hwx⟩ := Maps.keyOf_int_inv Try.underlying3 hkey
    injection ex with _ ex
    subst ex
    obtain ⟨z, hz, hzk⟩ := h3 _ hlk
    have hzx : x = z.1 := by injection hzk
    subst hzx
    rw [regElem_mk] at hv
    injection hv with hv
    subst hv
    have hzc := (h2.2.2 z (h5 z hz)).2 (regDat z)
    rw [hat] at hzc
    obtain rfl := regDat_inj hzc
    have hp := List.perm_cons_erase hz
    refine hMore c.1 c.2.1 c.2.2 (rem.erase c) w' cnt' hp ⟨D, _, hrg, h2, fun kl hkl => ?_, fun x hx => ?_, fun x hx => h5 x (List.mem_of_mem_erase hx), ?_⟩ hlt hgr hsz hen
    · simp only [Bool.and_eq_true] at hkl
      obtain ⟨u, hu, rfl⟩ := h3 kl hkl.1
      rcases List.mem_cons.1 ((hp.mem_iff).1 hu) with e | e
      · subst e
        have := hkl.2
        rw [WideAt.sameKey_self (int_key_lit (h2.2.2 u (h5 u hu)).1)] at this
        cases this
      · exact ⟨u, e, rfl⟩
    · have hx' := List.mem_of_mem_erase hx
      simp only [Bool.and_eq_true]
      refine ⟨h4 x hx', ?_⟩
      have hnd := (hp.map (·.1)).nodup_iff.1 h6
      have hne : (Lit.int .i64 x.1) ≠ .int .i64 c.1 := fun e => by
        injection e with _ e
        rw [List.map_cons, List.nodup_cons] at hnd
        exact hnd.1 (List.mem_map.2 ⟨x, hx, e⟩)
      rw [Maps.sameKey_ne hne]
      rfl
    · have hnd := (hp.map (·.1)).nodup_iff.1 h6
      rw [List.map_cons, List.nodup_cons] at hnd
      exact hnd.2
end
end Go.Proofs.Ythlapnljinkekab

/- What a table's calls answer: which rows may be, where they lie, whose region is whose. -/
namespace Go.Proofs.Ythlapnljinkekab
open Go.RowKit Go.Lib Go.Sort
set_option linter.unusedVariables false

/-- The places of a region. -/
abbrev spn (r : Reg) : Int × Int := (r.2.1, r.2.1 + r.2.2)
def mayB (r : Reg) : Bool := decide (1 ≤ r.1 ∧ r.1 ≤ 8 ∧ 128 ≤ r.2.1 ∧ r.2.1 ≤ 16383 ∧ 1 ≤ r.2.2 ∧ r.2.2 ≤ 16384 - r.2.1)
theorem mayB_iff {r : Reg} : mayB r = true ↔ (1 ≤ r.1 ∧ r.1 ≤ 8 ∧ 128 ≤ r.2.1 ∧ r.2.1 ≤ 16383 ∧ 1 ≤ r.2.2 ∧ r.2.2 ≤ 16384 - r.2.1) := by simp [mayB]

theorem may_any (r : Reg) (hf : Fits r) (w : World) : Calls Try.prog 41 #[rgv r] w fun e w' => e = .returned (.bool (mayB r)) ∧ w.grownBy w' none := by
  obtain ⟨o, b, s⟩ := r
  obtain ⟨hf1, hf2, hf3⟩ := hf
  unfold fitI at hf1 hf2 hf3
  simp only at hf1 hf2 hf3
  have key : (¬ 1 ≤ o ∧ mayB (o, b, s) = false) ∨ (1 ≤ o ∧ ¬ o ≤ 8 ∧ mayB (o, b, s) = false) ∨ (1 ≤ o ∧ o ≤ 8 ∧ ¬ 128 ≤ b ∧ mayB (o, b, s) = false) ∨ (1 ≤ o ∧ o ≤ 8 ∧ 128 ≤ b ∧ ¬ 1 ≤ s ∧ mayB (o, b, s) = false) ∨ (1 ≤ o ∧ o ≤ 8 ∧ 128 ≤ b ∧ 1 ≤ s ∧ ¬ s ≤ 16384 - b ∧ mayB (o, b, s) = false) ∨ (1 ≤ o ∧ o ≤ 8 ∧ 128 ≤ b ∧ 1 ≤ s ∧ s ≤ 16384 - b ∧ mayB (o, b, s) = true) := by
    by_cases h1 : 1 ≤ o <;> by_cases h2 : o ≤ 8 <;> by_cases h3 : 128 ≤ b <;> by_cases h4 : 1 ≤ s <;> by_cases h5 : s ≤ 16384 - b <;> simp [mayB, h1, h2, h3, h4, h5] <;> omega
  have hw : 128 ≤ b → IntKind.i64.wrap (16384 - b) = 16384 - b := fun h => by rw [IntKind.wrap_i64]; omega
  rcases key with ⟨h1, e⟩ | ⟨h1, h2, e⟩ | ⟨h1, h2, h3, e⟩ | ⟨h1, h2, h3, h4, e⟩ | ⟨h1, h2, h3, h4, h5, e⟩ | ⟨h1, h2, h3, h4, h5, e⟩
  all_goals
    have E := Lib.hid e
    clear e
    try have hw' := hw h3
    clear hw hf1 hf2 hf3
    go_enter Try.func41, Try.ntmps41
    go_wp2
    go_ret
    rw [E.out]
    exact ⟨by first | rfl | (simp; done) | (simp; omega), only_alloc (only_refl _ _) _⟩

theorem places_any (r : Reg) (h : mayB r = true) (w : World) : Calls Try.prog 43 #[rgv r] w fun e w' => e = .returned (spv (spn r)) ∧ w.grownBy w' none := by
  obtain ⟨o, b, s⟩ := r
  have h' := mayB_iff.1 h
  simp only at h'
  have hw : IntKind.i64.wrap (b + s) = b + s := by rw [IntKind.wrap_i64]; omega
  clear h h'
  go_enter Try.func43, Try.ntmps43
  go_wp2
  refine bodyPost_ret (v := .agg #[.int .i64 b, .int .i64 (b + s)]) (by simp [results, Try.results43, go_sem]) rfl ⟨rfl, only_alloc (only_alloc (only_refl _ _) _) _⟩

theorem rspan_any (r : Reg) (h : mayB r = true) (w : World) : Calls Try.prog 22 #[rgv r] w fun e w' => e = .returned (spv (spn r)) ∧ w.grownBy w' none := by
  obtain ⟨o, b, s⟩ := r
  have h' := mayB_iff.1 h
  simp only at h'
  have hw : IntKind.i64.wrap (b + s) = b + s := by rw [IntKind.wrap_i64]; omega
  clear h h'
  go_enter Try.func22, Try.ntmps22
  go_wp2
  refine bodyPost_ret (v := .agg #[.int .i64 b, .int .i64 (b + s)]) (by simp [results, Try.results22, go_sem]) rfl ⟨rfl, only_alloc (only_alloc (only_refl _ _) _) _⟩

theorem find_nil (o : Int) (w : World) : Calls Try.prog 51 #[.pointer none, .int .i64 o] w fun e w' => e = .returned (.tuple #[.agg #[.int .i64 0, .int .i64 0, .int .i64 0], .int .i64 7]) ∧ w.grownBy w' none := by
  go_enter Try.func51, Try.ntmps51
  go_wp2
  refine bodyPost_ret (v := .tuple #[.agg #[.int .i64 0, .int .i64 0, .int .i64 0], .int .i64 7]) (by simp [results, Try.results51, go_sem]) rfl ⟨rfl, only_alloc (only_refl _ _) _⟩
theorem find_some {w : World} {B t : Nat} {L : List Reg} {o p q s : Int} (h : TabV w B t L) (ho : fitI o) (hl : lookL L o = some (p, q, s)) : Calls Try.prog 51 #[.pointer (some ⟨t, 0, none⟩), .int .i64 o] w fun e w' => e = .returned (.tuple #[.agg #[.int .i64 p, .int .i64 q, .int .i64 s], .int .i64 0]) ∧ w.grownBy w' none := by
  obtain ⟨b, h1, h2, h3, h4⟩ := h
  have c0 := h3.cell 0
  simp at c0
  have k0 : (w.alloc (.cells #[.int .i64 0, .int .i64 0, .int .i64 0] 62)).cell? ⟨t, 0, none⟩ = some (.map (some b)) := (h3.alloc _).cell 0
  have HM := Lib.hid h4
  have HL := Lib.hid hl
  clear h1 h2 h3 h4 hl
  go_enter Try.func51, Try.ntmps51
  go_wp2_with (at_lookup; refine wpList_look_some rfl _ _ rfl b L o p q s rfl (HM.out.only (only_alloc (only_refl _ none) _) (by simp)) rfl ho HL.out ?_)
  refine bodyPost_ret (v := .tuple #[.agg #[.int .i64 p, .int .i64 q, .int .i64 s], .int .i64 0]) (by simp [results, Try.results51, go_sem]) rfl ⟨rfl, only_alloc (only_alloc (only_refl _ _) _) _⟩
theorem find_none {w : World} {B t : Nat} {L : List Reg} {o : Int} (h : TabV w B t L) (ho : fitI o) (hl : lookL L o = none) : Calls Try.prog 51 #[.pointer (some ⟨t, 0, none⟩), .int .i64 o] w fun e w' => e = .returned (.tuple #[.agg #[.int .i64 0, .int .i64 0, .int .i64 0], .int .i64 7]) ∧ w.grownBy w' none := by
  obtain ⟨b, h1, h2, h3, h4⟩ := h
  have c0 := h3.cell 0
  simp at c0
  have k0 : (w.alloc (.cells #[.int .i64 0, .int .i64 0, .int .i64 0] 62)).cell? ⟨t, 0, none⟩ = some (.map (some b)) := (h3.alloc _).cell 0
  have HM := Lib.hid h4
  have HL := Lib.hid hl
  clear h1 h2 h3 h4 hl
  go_enter Try.func51, Try.ntmps51
  go_wp2_with (at_lookup; refine wpList_look_none rfl _ _ rfl b L o rfl (HM.out.only (only_alloc (only_refl _ none) _) (by simp)) rfl ho HL.out ?_)
  refine bodyPost_ret (v := .tuple #[.agg #[.int .i64 0, .int .i64 0, .int .i64 0], .int .i64 7]) (by simp [results, Try.results51, go_sem]) rfl ⟨rfl, only_alloc (only_alloc (only_refl _ _) _) _⟩
/-- The region of an owner, or none; and the error. -/
def fndR (L : List Reg) (o : Int) : Reg := (lookL L o).getD (0, 0, 0)
def fndE (L : List Reg) (o : Int) : Int := if (lookL L o).isSome then 0 else 7
theorem find_any {w : World} {B t : Nat} {L : List Reg} {o : Int} (h : TabV w B t L) (ho : fitI o) : Calls Try.prog 51 #[.pointer (some ⟨t, 0, none⟩), .int .i64 o] w fun e w' => e = .returned (.tuple #[.agg #[.int .i64 (fndR L o).1, .int .i64 (fndR L o).2.1, .int .i64 (fndR L o).2.2], .int .i64 (fndE L o)]) ∧ w.grownBy w' none := by
  unfold fndR fndE
  cases hl : lookL L o with
  | none => exact find_none h ho hl
  | some r => exact find_some h ho hl
/-- A table of rows that may be. -/
def AllMay (L : List Reg) : Prop := ∀ r ∈ L, mayB r = true
theorem AllMay.look {L : List Reg} (h : AllMay L) {o : Int} {r : Reg} (hl : lookL L o = some r) : mayB r = true := h r (lookL_some hl).1

/-- Where an address is; or why it is not. -/
def mapV (L : List Reg) (o a n : Int) : Int × Int :=
  match lookL L o with
  | none => (0, 7)
  | some r => if n < 0 then (0, 2) else if a < 0 then (0, 6) else if r.2.2 - a < n then (0, 6) else (r.2.1 + a, 0)
theorem map_nil (o a n : Int) (w : World) : Calls Try.prog 50 #[.pointer none, .int .i64 o, .int .i64 a, .int .i64 n] w fun e w' => e = .returned (.tuple #[.int .i64 0, .int .i64 7]) ∧ w.grownBy w' none := by
  go_enter Try.func50, Try.ntmps50
  go_wp2_with (go_at_call 51; refine (find_nil _ _).mono ?_; rintro e w1 ⟨rfl, g1⟩; have G1 := Lib.hid g1; clear g1)
  go_ret2
  exact ⟨rfl, by first | exact G1.out | exact only_alloc G1.out _⟩
theorem map_any {w : World} {B t : Nat} {L : List Reg} {o : Int} (a n : Int) (h : TabV w B t L) (hm : AllMay L) (ho : fitI o) (ha : fitI a) : Calls Try.prog 50 #[.pointer (some ⟨t, 0, none⟩), .int .i64 o, .int .i64 a, .int .i64 n] w fun e w' => e = .returned (.tuple #[.int .i64 (mapV L o a n).1, .int .i64 (mapV L o a n).2]) ∧ w.grownBy w' none := by
  unfold mapV
  cases hl : lookL L o with
  | none =>
    have HC := Lib.hid (find_none h ho hl)
    clear h hl
    go_enter Try.func50, Try.ntmps50
    go_wp2_with (go_at_call 51; refine HC.out.mono ?_; rintro e w1 ⟨rfl, g1⟩; have G1 := Lib.hid g1; clear g1)
    go_ret2
    exact ⟨rfl, by first | exact G1.out | exact only_alloc G1.out _⟩
  | some r =>
    obtain ⟨p, q, s⟩ := r
    have HC := Lib.hid (find_some h ho hl)
    have hmay := mayB_iff.1 (hm.look hl)
    simp only at hmay ⊢
    unfold fitI at ha
    have key : (n < 0 ∧ (if n < 0 then ((0, 2) : Int × Int) else if a < 0 then (0, 6) else if s - a < n then (0, 6) else (q + a, 0)) = (0, 2)) ∨ (¬ n < 0 ∧ a < 0 ∧ (if n < 0 then ((0, 2) : Int × Int) else if a < 0 then (0, 6) else if s - a < n then (0, 6) else (q + a, 0)) = (0, 6)) ∨ (¬ n < 0 ∧ ¬ a < 0 ∧ s - a < n ∧ (if n < 0 then ((0, 2) : Int × Int) else if a < 0 then (0, 6) else if s - a < n then (0, 6) else (q + a, 0)) = (0, 6)) ∨ (¬ n < 0 ∧ ¬ a < 0 ∧ ¬ s - a < n ∧ (if n < 0 then ((0, 2) : Int × Int) else if a < 0 then (0, 6) else if s - a < n then (0, 6) else (q + a, 0)) = (q + a, 0)) := by
      by_cases h1 : n < 0 <;> by_cases h2 : a < 0 <;> by_cases h3 : s - a < n <;> simp [h1, h2, h3]
    have hw1 : ¬ a < 0 → IntKind.i64.wrap (s - a) = s - a := fun h => by rw [IntKind.wrap_i64]; omega
    have hw2 : ¬ n < 0 → ¬ a < 0 → ¬ s - a < n → IntKind.i64.wrap (q + a) = q + a := fun _ h1 h2 => by rw [IntKind.wrap_i64]; omega
    clear h hl ha hmay hm
    rcases key with ⟨h1, e⟩ | ⟨h1, h2, e⟩ | ⟨h1, h2, h3, e⟩ | ⟨h1, h2, h3, e⟩
    all_goals
      rw [e]
      clear e
      try have hw3 := hw1 h2
      try have hw4 := hw2 h1 h2 h3
      clear hw1 hw2
      go_enter Try.func50, Try.ntmps50
      go_wp2_with (go_at_call 51; refine HC.out.mono ?_; rintro e w1 ⟨rfl, g1⟩; have G1 := Lib.hid g1; clear g1)
      go_ret2
      exact ⟨rfl, by first | exact G1.out | exact only_alloc G1.out _⟩

/-- An owner's places; none: (0, 0). -/
def spanV (L : List Reg) (o : Int) : Int × Int :=
  match lookL L o with
  | none => (0, 0)
  | some r => spn r
end Go.Proofs.Ythlapnljinkekab
