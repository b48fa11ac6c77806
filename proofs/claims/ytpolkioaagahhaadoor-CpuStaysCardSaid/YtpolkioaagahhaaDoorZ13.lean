import Derived.Test.YtpolkioaagahhaaDoorZ09
import Derived.Test.YtpolkioaagahhaaDoorZ12
import Derived.Deep.RegionHeld3
import Derived.Test.YtpolkioaagahhaaDoorZ02
import Derived.Laws.CopyOwn
import Derived.Deep.RegionLaw
import Derived.Test.YtpolkioaagahhaaDoorZ11
import Derived.ProofKit
import Derived.LaidMore
import Derived.OpenShut
import Derived.ShutString
import Derived.ChangeOld
import Derived.Stop.Joined
import Derived.Lib.SmallJoins
import Derived.Test.YtpolkioaagahhaaDoorCards
import Derived.Test.YtpolkioaagahhaaDoorTie
import Derived.SevenTiedAt
set_option linter.all false
/- A deed that writes, done to the memory and to the document's: the contract of the law's own 'wrote'. -/
namespace Go.Proofs.YtpolkioaagahhaaDoor
open Go.RowKit Go.Lib Go.Sort
set_option linter.unusedVariables false

/-- What the numbers lie in is not the memory's row of bytes. -/
def Off (A : Option Addr) (g : Nat) : Prop := ∀ b off, A = some ⟨b, off, none⟩ → b ≠ g
theorem Ints.far {w w' : World} {A : Option Addr} {cap g : Nat} {l : List Int} (h : Ints w A cap l) (hb : w.grownBy w' (some g)) (ho : Off A g) : Ints w' A cap l := by
  refine ⟨h.1, fun hp => ?_⟩
  obtain ⟨b, off, h1, h2, h3⟩ := h.2 hp
  refine ⟨b, off, h1, Nat.lt_of_lt_of_le h2 hb.size, fun i hi => ?_⟩
  have e := hb.block b h2 (fun e => ho b off h1 (by injection e))
  rw [← h3 i hi]
  simp [World.cell?, e]
/-- The same, where there is anything. -/
def OffI (l : List UInt8) (A : Option Addr) (g : Nat) : Prop := 0 < l.length → Off A g
theorem Ints.farI {w w' : World} {A : Option Addr} {cap g : Nat} {l : List UInt8} (h : Ints w A cap (num l)) (hb : w.grownBy w' (some g)) (ho : OffI l A g) : Ints w' A cap (num l) := by
  refine ⟨h.1, fun hp => ?_⟩
  exact (h.far hb (ho (by rw [num_len] at hp; exact hp))).2 hp
theorem OwnN.off {w : World} {B g n c : Nat} {A : Option Addr} {l : List Int} (h : OwnN w B (.slice A n c) l) (hg : g < B) : Off A g := fun b off e => by
  subst e
  have := h.blk b rfl
  omega

theorem off_new {k g : Nat} (h : g < k) : Off (some ⟨k, 0, none⟩) g := fun b off e => by
  injection e with e
  injection e with e1 e2
  omega
theorem two_ints (w : World) (x y : Int) : Ints (w.alloc (.cells #[.int .i64 x, .int .i64 y] 3)) (some ⟨w.heap.size, 0, none⟩) 2 [x, y] :=
  ⟨fun e => (by cases e), fun _ => ⟨w.heap.size, 0, rfl, (Blk.new w _ _).lt, fun i hi => by
    match i, hi with
    | 0, _ => exact (Blk.new w 3 #[.int .i64 x, .int .i64 y]).cell 0
    | 1, _ => exact (Blk.new w 3 #[.int .i64 x, .int .i64 y]).cell 1⟩⟩

/-- The bytes that a deed writes. -/
def bsOf (d n : Int) (t : ByteArray) : List UInt8 := if d = 0 then [low8 n] else if d = 1 then [low8 n, low8 (n / 256)] else t.data.toList
/-- A memory behind such a deed. -/
def wroteL (l : List UInt8) (at' : Int) (bs : List UInt8) : List UInt8 := if thereB l.length at' bs.length = true then over l at'.toNat bs else l
theorem there_fit {len : Nat} {at' n : Int} (h : thereB len at' n = true) : 0 ≤ at' ∧ at' + n ≤ len := by
  simp [thereB] at h
  omega
theorem wroteL_len (l : List UInt8) (at' : Int) (bs : List UInt8) : (wroteL l at' bs).length = l.length := by
  unfold wroteL
  split
  · rename_i h
    have := there_fit h
    exact over_len (by omega)
  · rfl

theorem low8_mod (x : Int) : low8 (x % 256) = low8 x := by
  unfold low8
  rw [Int.emod_emod_of_dvd x (Int.dvd_refl 256)]
theorem low8_of (b : UInt8) : low8 (b.toNat : Int) = b := by
  have h := b.toNat_lt
  apply UInt8.toNat_inj.1
  have := low8_num (b.toNat : Int)
  omega
theorem num_low (l : List UInt8) : (num l).map low8 = l := by
  induction l with
  | nil => rfl
  | cons b l ih =>
    show low8 (b.toNat : Int) :: (num l).map low8 = b :: l
    rw [low8_of, ih]
theorem over_set {l : List UInt8} {k : Nat} {b : UInt8} (h : k < l.length) : over l k [b] = l.set k b := by
  have := over_snoc (l := l) (bs := []) (a := k) (x := b) (by simpa using h)
  simpa [over_nil] using this

/-- What is left behind such a deed. -/
def WroteV (B m g len : Nat) (l2 : List UInt8) (w : World) (e : Ending) (w' : World) : Prop :=
  ∃ A c, e = .returned (.tuple #[.slice A len c, .bool true]) ∧ MemG w' B m g l2 ∧ Ints w' A c (num l2) ∧ OffI l2 A g ∧ w.grownBy w' (some g)

/-- What stands behind the write itself: is it there, and the document's part. -/
theorem with_end (A : Option Addr) (cap : Nat) (l : List UInt8) (at' : Int) (A2 : Option Addr) (cap2 : Nat) (xs : List Int) (bs : List UInt8) (hbs : xs.map low8 = bs) (len : Nat) (hlen : len = l.length) (m : Nat) (hm : m = xs.length) (g : Nat) (w : World) (hg : g < w.heap.size) (hA : Ints w A cap (num l)) (hX : Ints w A2 cap2 xs) (ht : thereB l.length at' bs.length = true) (hl : l.length ≤ 1000) :
    Calls Tryd.prog 22 #[.slice A len cap, .int .i64 at', .slice A2 m cap2] w fun r w' => ∃ A3 c3, r = .returned (.slice A3 len c3) ∧ Ints w' A3 c3 (num (wroteL l at' bs)) ∧ Off A3 g ∧ Below w.heap.size w w' := by
  obtain ⟨h0, h1⟩ := there_fit ht
  obtain ⟨k, rfl⟩ : ∃ k : Nat, at' = k := ⟨at'.toNat, by omega⟩
  have hxl : xs.length = bs.length := by rw [← hbs, List.length_map]
  refine (rwith_any A cap l k A2 cap2 m xs hm len hlen w hA hX (by omega) hl).mono ?_
  rintro e w' ⟨v, rfl, hv, hb⟩
  rw [hbs] at hv
  have e1 : over l k bs = wroteL l (k : Int) bs := by unfold wroteL; rw [if_pos ht]; simp
  rw [e1] at hv
  obtain ⟨A3, c3, rfl, hi, _⟩ := hv.ints
  have e2 : (num (wroteL l (k : Int) bs)).length = len := by rw [num_len, wroteL_len, hlen]
  refine ⟨A3, c3, by rw [e2], hi, ?_, hb⟩
  exact hv.off hg

end Go.Proofs.YtpolkioaagahhaaDoor

/- A memory by itself: the contract of Fork. -/
namespace Go.Proofs.YtpolkioaagahhaaDoor
open Go.RowKit Go.Lib Go.Sort
set_option linter.unusedVariables false

/-- copy into a row that is known whole, as1 a step of a drawn region: the world that it leaves is told. -/
theorem step_copy_row {P : Program} {ops : Array Oper} {o : Oper} {a : Act} {w : World} {K : Act → World → Prop} {Q : Exit → Act → World → Prop} {E : Prop} (hgd : o.guard = none) (d s : Operand) (dT sT : TypeId)
    (ho : o.op = .call { callee := .builtin .copy, args := #[d, s], argTypes := #[dT, sT] }) (elem : TypeId) (hu : P.underlying dT = some (.slice elem)) (hsz : (P.info? elem).map (·.size) = some 1)
    (g off dLen dCap : Nat) (ad : Addr) (sLen sCap : Nat) (hd : a.eval d = .slice (some ⟨g, off, none⟩) dLen dCap) (hs : a.eval s = .slice (some ad) sLen sCap)
    (cur : Array Value) (t : TypeId) (hg : w.heap[g]? = some (.cells cur t (0, 0))) (cs : List Value) (hn : cs.length = Nat.min sLen dLen)
    (hsrc : ∀ j v, cs[j]? = some v → w.cell? (ad.add j) = some v) (hfit : off + cs.length ≤ cur.size) (h1 : ∀ v ∈ cs, v.oneCell' = true)
    (h : ∀ w', w' = w.setRow g (cur.toList.take off ++ (cs ++ cur.toList.drop (off + cs.length))).toArray → K (a.put o.dst (goInt cs.length)) w') :
    if Region.wanted o (yielded ops a.tmps) = true then Oper.wp P o a w K Q else E := by
  have hw : Region.wanted o (yielded ops a.tmps) = true := by simp [Region.wanted, hgd]
  rw [if_pos hw]
  have hrun := run_copy_row (P := P) w dT sT o.type elem g off dLen dCap ad sLen sCap cur t cs hu hsz hg hn hsrc hfit h1
  unfold Oper.wp
  simp [execOp, ho, resolve, invoke, builtin, hd, hs, hrun, Result.andThen]
  exact h _ (by simp)

/-- What Fork answers. -/
def ForkV (B m g : Nat) (l : List UInt8) (w : World) (e : Ending) (w' : World) : Prop :=
  ∃ m2 g2, e = .returned (.pointer (some ⟨m2, 0, none⟩)) ∧ MemG w' w.heap.size m2 g2 l ∧ MemG w' B m g l ∧ Below w.heap.size w w'
def forkRow (z l : List UInt8) : Array Value := ((u8Cells z).toArray.toList.take 0 ++ (u8Cells l ++ (u8Cells z).toArray.toList.drop (0 + (u8Cells l).length))).toArray
theorem forkRow_eq {z l : List UInt8} (h : z.length = l.length) : forkRow z l = (u8Cells l).toArray := by
  unfold forkRow
  have e : (u8Cells z).drop (0 + (u8Cells l).length) = [] := List.drop_eq_nil_of_le (by rw [u8Cells_len, u8Cells_len]; omega)
  simp only [List.take_zero, List.nil_append]
  rw [e, List.append_nil]
theorem fork_fin {w w1 w2 : World} {B m g m2 g2 : Nat} {z l : List UInt8} (hw : g < w.heap.size ∧ m < w.heap.size) (G1 : MemG w1 B m g l) (G2 : MemG w1 w.heap.size m2 g2 z) (hz : z.length = l.length) (hb : Below w.heap.size w w1) (e : w2 = w1.setRow g2 (forkRow z l)) :
    MemG w2 w.heap.size m2 g2 l ∧ MemG w2 B m g l ∧ Below w.heap.size w w2 := by
  subst e
  obtain ⟨h1, h2, h3, h4⟩ := G2
  have hne : m2 ≠ g2 := h3.differ h4 (by decide)
  refine ⟨⟨h1, h2, ?_, ?_⟩, G1.far (only_setRow _ _ _) (by omega) (by omega), hb.trans (below_of_only (only_setRow w1 g2 _) hb.size (fun k hk => by injection hk with hk; omega))⟩
  · rw [← hz]
    exact blk_far h3 hne
  · show (World.setRow _ _ _).heap[g2]? = _
    rw [setRow_heap w1 g2 _ _ _ _ h4, forkRow_eq hz]
theorem row_src {w : World} {g : Nat} {l : List UInt8} (h : Blk w g 5 (u8Cells l).toArray) : ∀ j v, (u8Cells l)[j]? = some v → w.cell? ((⟨g, 0, none⟩ : Addr).add j) = some v := fun j v hj => by
  have hjl : j < l.length := by
    rcases Nat.lt_or_ge j l.length with q | q
    · exact q
    · rw [List.getElem?_eq_none (by rw [u8Cells_len]; exact q)] at hj; cases hj
  have ha : (⟨g, 0, none⟩ : Addr).add j = ⟨g, j, none⟩ := by unfold Addr.add; split <;> simp_all
  rw [ha, row_cell h hjl]
  rw [u8Cells_get hjl] at hj
  exact hj
theorem u8_one (l : List UInt8) : ∀ v ∈ u8Cells l, v.oneCell' = true := by
  intro v hv
  obtain ⟨b, _, rfl⟩ := List.mem_map.mp hv
  rfl

set_option maxHeartbeats 1600000 in
theorem fork_any (w : World) (B m g : Nat) (l : List UInt8) (h : MemG w B m g l) (hl : l.length ≤ 1000) :
    Calls Tryd.prog 14 #[.pointer (some ⟨m, 0, none⟩)] w (ForkV B m g l w) := by
  have hsz := size_any w B m l h.mem
  have hs : sizeOf' (l.length : Int) = l.length := by unfold sizeOf'; rw [if_neg (by omega), if_neg (by omega)]; omega
  obtain ⟨z, hz⟩ : ∃ z, z = List.replicate l.length (0 : UInt8) := ⟨_, rfl⟩
  have hzl : z.length = l.length := by rw [hz, List.length_replicate]
  have hn : ∀ W, Calls Tryd.prog 19 #[.int .i64 l.length] W fun r w' => ∃ m, r = .returned (.pointer (some ⟨m, 0, none⟩)) ∧ MemV w' W.heap.size m z ∧ Below W.heap.size W w' := fun W => by
    have := mnew_any l.length W
    rw [hs, ← hz] at this
    exact this
  have HSZ := Lib.hid hsz
  have HN := Lib.hid hn
  have HM := Lib.hid h
  have hw := h.lt
  have HZL := Lib.hid hzl
  have HCL : Hid ((u8Cells l).length = Nat.min l.length z.length) := by unfold Hid; rw [u8Cells_len, hzl]; exact (Nat.min_self _).symm
  have HFIT : Hid (0 + (u8Cells l).length ≤ (u8Cells z).toArray.size) := by unfold Hid; simp [u8Cells_len, hzl]
  clear hsz hn hs hz h hzl
  go_enter Tryd.func14, Tryd.ntmps14
  go_wp2_with (first
    | (go_at_call 35; refine HSZ.out.mono ?_; rintro e w0 ⟨rfl, rfl⟩)
    | (go_at_call 19; refine (HN.out _).mono ?_; rintro e w1 ⟨m2, rfl, hm, b1⟩; obtain ⟨g2, hg2⟩ := hm.named; have G1 := Lib.hid (HM.out.below b1); have G2 := Lib.hid hg2; have B1 := Lib.hid b1; have d0 := hg2.2.2.1.cell 0; have d1 := G1.out.2.2.1.cell 0; simp at d0 d1; clear hm b1 hg2))
  go_region_law (refine step_copy_row rfl (.tmp 12) (.tmp 16) 81 81 rfl 5 Tryd.underlying81 (by kernel_rfl) g2 0 z.length z.length ⟨g, 0, none⟩ l.length l.length (by simp [Act.eval, Act.put]) (by simp [Act.eval, Act.put]) (u8Cells z).toArray 5 G2.out.2.2.2 (u8Cells l) HCL.out (row_src (w := w1.drew) G1.out.2.2.2) HFIT.out (u8_one l) ?_; intro w2 e2; have FIN := Lib.hid (fork_fin (w1 := w1.drew) hw (G1.out.drewN 1) (G2.out.drewN 1) HZL.out (below_drewN B1.out 1) e2); clear e2)
  all_goals
    go_wp2
    go_ret
    exact ⟨m2, g2, rfl, FIN.out⟩
end Go.Proofs.YtpolkioaagahhaaDoor

/- CpuStays walked. -/
namespace Go.Proofs.YtpolkioaagahhaaDoor
open Go.RowKit Go.Lib Go.Sort
set_option linter.unusedVariables false
set_option maxRecDepth 20000

/-- Runs of places that p holds lie where p holds. -/
theorem Cu.rto_in (p : Int → Bool) (lo hi : Int) (h : ∀ x, p x = true → lo ≤ x ∧ x < hi) (n : Nat) : ∀ i, i < (rTo p n).1 → lo ≤ ((rTo p n).2 i).1 ∧ ((rTo p n).2 i).2 ≤ hi := by
  induction n with
  | zero => intro i hi'; exact absurd hi' (by simp [rTo])
  | succ n ih =>
    intro i hi'
    have e : rTo p (n + 1) = rStep (rTo p n).1 (rTo p n).2 n (p n) := rfl
    rw [e] at hi' ⊢
    generalize (rTo p n).1 = k at *
    generalize (rTo p n).2 = o at *
    unfold rStep at hi' ⊢
    cases hp : p n
    · rw [hp] at hi'
      simp only [Bool.false_eq_true, if_false] at hi' ⊢
      exact ih i hi'
    · have hx := h n hp
      rw [hp] at hi'
      simp only [if_true] at hi' ⊢
      by_cases hc : 0 < k ∧ (o (k - 1)).2 = (n : Int)
      · rw [if_pos hc] at hi' ⊢
        simp only at hi' ⊢
        unfold So.upd
        by_cases hj : i = k - 1
        · rw [if_pos hj]
          have := ih (k - 1) (by omega)
          exact ⟨this.1, by show (n : Int) + 1 ≤ hi; omega⟩
        · rw [if_neg hj]
          exact ih i hi'
      · rw [if_neg hc] at hi' ⊢
        simp only at hi' ⊢
        unfold So.upd
        by_cases hj : i = k
        · rw [if_pos hj]
          exact ⟨hx.1, by show (n : Int) + 1 ≤ hi; omega⟩
        · rw [if_neg hj]
          exact ih i (by omega)
theorem Cu.rto_nn (p : Int → Bool) (lo hi : Int) (h : ∀ x, 0 ≤ x → p x = true → lo ≤ x ∧ x < hi) (n : Nat) : ∀ i, i < (rTo p n).1 → lo ≤ ((rTo p n).2 i).1 ∧ ((rTo p n).2 i).2 ≤ hi := by
  have e : ∀ n, rTo p n = rTo (fun x => decide (0 ≤ x) && p x) n := by
    intro n
    induction n with
    | zero => rfl
    | succ n ih =>
      show rStep (rTo p n).1 (rTo p n).2 n (p n) = rStep _ _ n (decide (0 ≤ (n : Int)) && p n)
      rw [ih]
      simp
  rw [e n]
  exact Cu.rto_in _ lo hi (fun x hx => by simp at hx; exact h x hx.1 hx.2) n
/-- Memories that differ in their midst alone. -/
theorem Cu.unl_mid (p V U q : List UInt8) (hV : V.length = U.length) (x : Int) (h : unl (p ++ V ++ q) (p ++ U ++ q) x = true) (hx : 0 ≤ x) : (p.length : Int) ≤ x ∧ x < p.length + V.length := by
  unfold unl at h
  have h' := of_decide_eq_true h
  obtain ⟨k, rfl⟩ := Int.eq_ofNat_of_zero_le hx
  rw [Int.toNat_natCast] at h'
  rcases Nat.lt_or_ge k p.length with c | c
  · exact absurd (by rw [List.append_assoc, List.append_assoc, List.getElem?_append_left c, List.getElem?_append_left c]) h'
  · rcases Nat.lt_or_ge k (p.length + V.length) with d | d
    · omega
    · refine absurd ?_ h'
      rw [List.getElem?_append_right (by simp; omega), List.getElem?_append_right (by simp; omega)]
      simp [hV]
structure Cu.Ms (w W : World) (bs m g bv m2 g2 : Nat) (p q : List UInt8) (vl : Int) (V U : List UInt8) (sc : Array Value) : Prop where
  sb : Blk W bs 24 sc
  vb : Blk W bv 28 #[.pointer (some ⟨m, 0, none⟩), .int .i64 300, .int .i64 vl]
  me : MemG W w.heap.size m g (p ++ V ++ q)
  fo : MemG W w.heap.size m2 g2 (p ++ U ++ q)
  gr : w.grownBy W none
  nm : Nm w
  lt : w.heap.size ≤ bs ∧ bs < m ∧ bs < g ∧ m < bv ∧ g < bv ∧ bv < m2 ∧ bv < g2
section
variable {w W W' : World} {bs m g bv m2 g2 : Nat} {p q : List UInt8} {vl : Int} {V U V' : List UInt8} {sc sc' : Array Value}
theorem Cu.Ms.NM (h : Cu.Ms w W bs m g bv m2 g2 p q vl V U sc) : Nm W := h.nm.grown h.gr (by simp)
theorem Cu.Ms.step (h : Cu.Ms w W bs m g bv m2 g2 p q vl V U sc) (hm : MemG W' w.heap.size m g (p ++ V' ++ q)) (k : W.grownBy W' (some g)) : Cu.Ms w W' bs m g bv m2 g2 p q vl V' U sc := by
  have l := h.lt
  have ne : ∀ x, x ≠ g → some x ≠ some g := fun x hx e => by injection e with e; omega
  exact ⟨h.sb.only k (ne _ (by omega)), h.vb.only k (ne _ (by omega)), hm, h.fo.far k (by omega) (by omega), Cu.grow_none h.gr k (by omega), h.nm, h.lt⟩
theorem Cu.ms_put {s0 s1 s2 s3 s4 s5 s6 s7 s8 s9 : Value} (h : Cu.Ms w W bs m g bv m2 g2 p q vl V U #[s0, s1, s2, s3, s4, s5, s6, s7, s8, s9]) (y0 y1 y2 y3 y4 y5 y6 y7 y8 y9 : Value) : ∀ W', W' = ((((((((((W.setCell ⟨bs, 0, none⟩ y0).setCell ⟨bs, 1, none⟩ y1).setCell ⟨bs, 2, none⟩ y2).setCell ⟨bs, 3, none⟩ y3).setCell ⟨bs, 4, none⟩ y4).setCell ⟨bs, 5, none⟩ y5).setCell ⟨bs, 6, none⟩ y6).setCell ⟨bs, 7, none⟩ y7).setCell ⟨bs, 8, none⟩ y8).setCell ⟨bs, 9, none⟩ y9) → Cu.Ms w W' bs m g bv m2 g2 p q vl V U #[y0, y1, y2, y3, y4, y5, y6, y7, y8, y9] := by
  rintro W' rfl
  have l := h.lt
  have ne : ∀ x, x ≠ bs → some x ≠ some bs := fun x hx e => by injection e with e; omega
  have k : W.grownBy ((((((((((W.setCell ⟨bs, 0, none⟩ y0).setCell ⟨bs, 1, none⟩ y1).setCell ⟨bs, 2, none⟩ y2).setCell ⟨bs, 3, none⟩ y3).setCell ⟨bs, 4, none⟩ y4).setCell ⟨bs, 5, none⟩ y5).setCell ⟨bs, 6, none⟩ y6).setCell ⟨bs, 7, none⟩ y7).setCell ⟨bs, 8, none⟩ y8).setCell ⟨bs, 9, none⟩ y9) (some bs) := only_put (only_put (only_put (only_put (only_put (only_put (only_put (only_put (only_put (only_put (only_refl _ _) 0 y0) 1 y1) 2 y2) 3 y3) 4 y4) 5 y5) 6 y6) 7 y7) 8 y8) 9 y9
  have b := ((((((((((h.sb.put 0 y0).put 1 y1).put 2 y2).put 3 y3).put 4 y4).put 5 y5).put 6 y6).put 7 y7).put 8 y8).put 9 y9)
  simp only [List.setIfInBounds_toArray, List.set_cons_zero, List.set_cons_succ] at b
  exact ⟨b, h.vb.only k (ne _ (by omega)), h.me.far k (by omega) (by omega), h.fo.far k (by omega) (by omega), Cu.grow_none h.gr k (by omega), h.nm, h.lt⟩
theorem Cu.ms_start {W0 w1 w4 : World} (hs : Blk W0 bs 24 sc) (hb : bs = w.heap.size) (hz : W0.heap.size = w.heap.size + 1) (g0 : w.grownBy W0 none) (hm1 : MemG w1 W0.heap.size m g (p ++ V ++ q)) (b1 : Below W0.heap.size W0 w1)
    (hf : MemG w4 (w1.alloc (.cells #[.pointer (some ⟨m, 0, none⟩), .int .i64 300, .int .i64 vl] 28)).heap.size m2 g2 (p ++ V ++ q)) (hk : MemG w4 W0.heap.size m g (p ++ V ++ q)) (b4 : Below (w1.alloc (.cells #[.pointer (some ⟨m, 0, none⟩), .int .i64 300, .int .i64 vl] 28)).heap.size (w1.alloc (.cells #[.pointer (some ⟨m, 0, none⟩), .int .i64 300, .int .i64 vl] 28)) w4) (hN : Nm w) :
    Cu.Ms w w4 bs m g w1.heap.size m2 g2 p q vl V V sc := by
  have a1 := Cu.grow_of b1
  have a4 := Cu.grow_of b4
  have l1 := hm1.1
  have l2 := hm1.2.1
  have l3 := hf.1
  have l4 := hf.2.1
  have l5 := hm1.lt
  have z1 : (w1.alloc (.cells #[.pointer (some ⟨m, 0, none⟩), .int .i64 300, .int .i64 vl] 28)).heap.size = w1.heap.size + 1 := by simp
  have hv := Blk.new w1 28 #[.pointer (some ⟨m, 0, none⟩), .int .i64 300, .int .i64 vl]
  have a12 : w1.grownBy (w1.alloc (.cells #[.pointer (some ⟨m, 0, none⟩), .int .i64 300, .int .i64 vl] 28)) none := only_alloc (only_refl _ _) _
  generalize w1.alloc (.cells #[.pointer (some ⟨m, 0, none⟩), .int .i64 300, .int .i64 vl] 28) = w1' at *
  have a := only_trans a1 (only_trans a12 a4)
  exact ⟨hs.only a (by simp), hv.only a4 (by simp), Cu.memg_low hk (by omega), Cu.memg_low hf (by omega), only_trans g0 a, hN, by omega⟩
end
set_option maxHeartbeats 12800000 in
theorem Cu.stays_ok (s : ByteArray) (vl : Nat) (pc md : Int) (r : Nat → Int) (n : Int) (w : World) (hN : Nm w) (hpc : pc ≤ 9223372036854775807) (bn : 0 ≤ n ∧ n ≤ 255) (h1 : s.size ≤ 400) (h3 : vl ≤ 400) : Calls Tryd.prog 4 #[.string s, .int .i64 vl, Cu.stV pc r md, .int .u8 n] w fun e w' => e = .returned (.bool true) ∧ Below w.heap.size w w' := by
  obtain ⟨N, hNN⟩ := Int.eq_ofNat_of_zero_le (show 0 ≤ n % 60 from by omega)
  have hnt : n.tmod 60 = (N : Int) := by rw [Int.tmod_eq_emod_of_nonneg bn.1]; exact hNN
  have hN60 : N < 60 := by omega
  have HV1 := Lib.hid (show ∀ W, Calls Tryd.prog 8 #[.string s, .int .i64 300, .int .i64 vl] W fun e w' => ∃ m g v, e = .returned (.tuple #[.pointer (some ⟨m, 0, none⟩), .agg #[.pointer (some ⟨m, 0, none⟩), .int .i64 300, .int .i64 vl], v]) ∧ MemG w' W.heap.size m g (Cu.z 300 ++ Cu.v0 s vl ++ Cu.z (1000 - 300 - vl)) ∧ Below W.heap.size W w' from Cu.view_any s 300 vl h1 (by omega) (by omega))
  have s4 : (s.size : Int) ≤ 400 := by omega
  have s5 : (vl : Int) ≤ 400 := by omega
  have HS1 := Lib.hid (fun m g B j W => Cu.step_f (Cu.v0 s vl) pc md r (Cu.z 300) (Cu.z (1000 - 300 - vl)) vl (Cu.v0_len _ _) (by rw [Cu.z_len, Cu.z_len]; omega) hpc B m g 300 (by rw [Cu.z_len]; rfl) j W)
  have HVL := Lib.hid (fun j => show (Cu.stN (Cu.v0 s vl) pc r md j).v.length = vl from (Cu.stN_len _ _ _ _ j).trans (Cu.v0_len _ _))
  have HF0 := Lib.hid (show Cu.stN (Cu.v0 s vl) pc r md 0 = ⟨Cu.v0 s vl, pc, r, md, 0, 0, 0, 0⟩ from rfl)
  have HV0 := Lib.hid (Cu.v0_len s vl)
  generalize Cu.stN (Cu.v0 s vl) pc r md = f at HS1 HF0 HVL
  have HP1 := Lib.hid (Cu.z_len 300)
  have HQ1 := Lib.hid (Cu.z_len (1000 - 300 - vl))
  generalize Cu.v0 s vl = V at *
  generalize Cu.z 300 = p1 at *
  generalize Cu.z (1000 - 300 - vl) = q1 at *
  clear hNN
  have HLEN := Lib.hid (show ∀ U : List UInt8, U.length = vl → (p1 ++ U ++ q1).length = 1000 from fun U hU => by simp only [List.length_append, hU, HP1.out, HQ1.out]; omega)
  have HFK := Lib.hid (fun W B m g (h : MemG W B m g (p1 ++ V ++ q1)) => fork_any W B m g _ h (by rw [HLEN.out V HV0.out]; omega))
  have HDI := Lib.hid (fun W B B' m m2 (j : Nat) (h : MemV W B m2 (p1 ++ V ++ q1)) (k : MemV W B' m (p1 ++ (f j).v ++ q1)) => (mdiff_any W B B' m2 m _ _ h k (by rw [HLEN.out V HV0.out]; omega) (by rw [HLEN.out _ (HVL.out j)]; omega)).mono (R' := fun e w' => ∃ (v : Value) (k : Nat) (o : Nat → Int × Int), e = .returned v ∧ RowV w' W.heap.size v k o ∧ Below W.heap.size W w' ∧ k ≤ 1000 ∧ ∀ i, i < k → 300 ≤ (o i).1 ∧ (o i).2 ≤ 300 + (vl : Int)) fun e w' ⟨v, e1, e2, e3⟩ => ⟨v, _, _, e1, e2, e3, by
      refine Nat.le_trans (rTo_le _ _) ?_
      rw [HLEN.out V HV0.out, HLEN.out _ (HVL.out j)]
      exact Nat.le_refl _, Cu.rto_nn _ 300 (300 + (vl : Int)) (fun x h0 hx => by
      have := Cu.unl_mid p1 V (f j).v q1 (by rw [HV0.out, HVL.out j]) x hx h0
      rw [HP1.out, HV0.out] at this
      omega) _⟩)
  obtain ⟨W0, hW0, g0, hB0⟩ := ibox w 24 (Cu.stC pc r md)
  have z0 : W0.heap.size = w.heap.size + 1 := by rw [hW0]; simp
  have HB0 := Lib.hid hB0
  have HG0 := Lib.hid g0
  have HZ0 := Lib.hid z0
  have HNw := Lib.hid hN
  clear hB0 g0 z0 hN
  unfold Cu.stV
  unfold Cu.stC at hW0 HB0 ⊢
  go_enter Tryd.func4, Tryd.ntmps4
  go_upto_region 1 with (fail)
  rw [← hW0]
  obtain ⟨bs, hbs⟩ : ∃ bs, bs = w.heap.size := ⟨_, rfl⟩
  rw [← hbs] at HB0 ⊢
  have HBS := Lib.hid hbs
  clear hW0 hbs
  go_upto_region 4 with (first
    | (go_at_call 8; (with_reducible refine (HV1.out _).mono ?_); rintro e w1 ⟨m1, g1, v1, rfl, hm1, b1⟩; have HM1 := Lib.hid hm1; have HB1 := Lib.hid b1; clear hm1 b1))
  have HFK1 := Lib.hid (HFK.out (w1.alloc (.cells #[.pointer (some ⟨m1, 0, none⟩), .int .i64 300, .int .i64 vl] 28)) W0.heap.size m1 g1 (HM1.out.grown (only_alloc (only_refl _ none) _)))
  go_upto_region 5 with (first
    | (go_at_call 14; (with_reducible refine HFK1.out.mono ?_); rintro e w4 ⟨m2, g2, rfl, hf, hk, b4⟩; have HMS := Lib.hid (Cu.ms_start (bs := bs) HB0.out HBS.out HZ0.out HG0.out HM1.out HB1.out hf hk b4 HNw.out); clear hf hk b4))
  obtain ⟨bv, hbv⟩ : ∃ bv, bv = w1.heap.size := ⟨_, rfl⟩
  rw [← hbv] at HMS ⊢
  clear hbv HM1 HB1 HB0 HFK1
  have HMT := Lib.hid (show Cu.Ms w w4 bs m1 g1 bv m2 g2 p1 q1 vl (f 0).v V (Cu.stC (f 0).pc (f 0).r (f 0).md) from by rw [HF0.out]; exact HMS.out)
  clear HMS
  go_wp2
  go_loopw [13] (fun y wr => ∃ j : Nat, y = .int .i64 j ∧ j ≤ N ∧ Hid (Cu.Ms w wr bs m1 g1 bv m2 g2 p1 q1 vl (f j).v V (Cu.stC (f j).pc (f j).r (f j).md))) (fun y _ => N - (Go.RowKit.intOf y).toNat)
  case atStart => exact ⟨0, rfl, by omega, HMT⟩
  case round =>
    obtain ⟨j, rfl, hj, HM⟩ := hrel
    clear HMT
    by_cases hjn : j < N
    · have j1 : (j : Int) < (N : Int) := by omega
      obtain ⟨k0, k1, k2, k3, k4, k5, k6, k7, k8, k9⟩ := Cu.cells10 HM.out.sb
      obtain ⟨v0, v1, v2⟩ := in3 HM.out.vb
      have HSA := Lib.hid (HS1.out _ _ _ j _ HM.out.me HM.out.NM)
      go_upto_region 7 with (go_at_call 10; (with_reducible refine HSA.out.mono ?_); rintro e w7 ⟨rfl, hm7, g7⟩; have HD := Lib.hid (HM.out.step hm7 g7); clear hm7 g7 k0 k1 k2 k3 k4 k5 k6 k7 k8 k9 v0 v1 v2; obtain ⟨k0, k1, k2, k3, k4, k5, k6, k7, k8, k9⟩ := Cu.cells10 HD.out.sb; obtain ⟨f0, f1, f2, f3, f4, f5, f6, f7, f8, f9⟩ := Cu.free10 HD.out.sb)
      clear k0 k1 k2 k3 k4 k5 k6 k7 k8 k9 f0 f1 f2 f3 f4 f5 f6 f7 f8 f9
      obtain ⟨W8, hW8⟩ : ∃ W8, W8 = ((((((((((w7.setCell ⟨bs, 0, none⟩ (.int .i64 (f (j + 1)).pc)).setCell ⟨bs, 1, none⟩ (.int .i64 ((f (j + 1)).r 0))).setCell ⟨bs, 2, none⟩ (.int .i64 ((f (j + 1)).r 1))).setCell ⟨bs, 3, none⟩ (.int .i64 ((f (j + 1)).r 2))).setCell ⟨bs, 4, none⟩ (.int .i64 ((f (j + 1)).r 3))).setCell ⟨bs, 5, none⟩ (.int .i64 ((f (j + 1)).r 4))).setCell ⟨bs, 6, none⟩ (.int .i64 ((f (j + 1)).r 5))).setCell ⟨bs, 7, none⟩ (.int .i64 ((f (j + 1)).r 6))).setCell ⟨bs, 8, none⟩ (.int .i64 ((f (j + 1)).r 7))).setCell ⟨bs, 9, none⟩ (.int .i64 (f (j + 1)).md)) := ⟨_, rfl⟩
      have HE := Lib.hid (Cu.ms_put HD.out (.int .i64 (f (j + 1)).pc) (.int .i64 ((f (j + 1)).r 0)) (.int .i64 ((f (j + 1)).r 1)) (.int .i64 ((f (j + 1)).r 2)) (.int .i64 ((f (j + 1)).r 3)) (.int .i64 ((f (j + 1)).r 4)) (.int .i64 ((f (j + 1)).r 5)) (.int .i64 ((f (j + 1)).r 6)) (.int .i64 ((f (j + 1)).r 7)) (.int .i64 (f (j + 1)).md) _ hW8)
      rw [← hW8]
      clear hW8 HD
      go_wp2
      go_roundw
      case rel => exact ⟨j + 1, by go_num, by omega, HE⟩
      case measure => simp [Go.RowKit.intOf]; omega
    · have j1 : ¬ (j : Int) < (N : Int) := by omega
      have HDJ := Lib.hid (HDI.out wr w.heap.size w.heap.size m1 m2 j HM.out.fo.mem HM.out.me.mem)
      have HNW := Lib.hid HM.out.NM
      have HGW := Lib.hid HM.out.gr
      clear HS1 HVL HFK HDI HF0 HM hj hjn
      go_upto_region 10 with (go_at_call 15; (with_reducible refine HDJ.out.mono ?_); rintro e w9 ⟨v9, k9, o9, rfl, hr9, b9, hk9, hi9⟩; have HR9 := Lib.hid hr9; have HI9 := Lib.hid hi9; have HG9 := Lib.hid (only_trans HGW.out (Cu.grow_of b9)); have HL := Lib.hid (Cu.live3 w w9 (HNW.out.grown (Cu.grow_of b9) (by simp)) HG9.out); clear hr9 hi9 b9)
      rcases HR9.out with ⟨rfl, rfl⟩ | ⟨gd, cap, rfl, hBd, hrow⟩
      · go_wp2
        go_loop [15] (fun y => y = .int .i64 0) (fun _ => 0)
        case atStart => rfl
        case round =>
          subst hrel
          go_wp2_with (go_at_call 7; (with_reducible refine HL.out.mono ?_); rintro e w10 ⟨rfl, g10⟩)
          go_ret
          exact ⟨rfl, Cu.below g10⟩
      · have HW := Lib.hid hrow
        clear hrow hBd HR9
        go_wp2
        go_loop [15] (fun y => ∃ i : Nat, y = .int .i64 i ∧ i ≤ k9) (fun y => k9 - (Go.RowKit.intOf y).toNat)
        case atStart => exact ⟨0, rfl, by omega⟩
        case round =>
          obtain ⟨i, rfl, hik⟩ := hrel
          by_cases hlt : i < k9
          · have i1 : (i : Int) < (k9 : Int) := by omega
            have c0 := HW.out.fst hlt
            have c1 := HW.out.snd hlt
            obtain ⟨t0, t1⟩ := HI9.out i hlt
            have t2 : ¬ (o9 i).1 < 300 := by omega
            have t3 : ¬ 300 + (vl : Int) < (o9 i).2 := by omega
            generalize (o9 i).1 = xa at *
            generalize (o9 i).2 = xb at *
            go_wp2
            go_round
            case rel => exact ⟨i + 1, by go_num, by omega⟩
            case measure => simp [Go.RowKit.intOf]; omega
          · have i1 : ¬ (i : Int) < (k9 : Int) := by omega
            clear hlt hik
            go_wp2_with (go_at_call 7; (with_reducible refine HL.out.mono ?_); rintro e w10 ⟨rfl, g10⟩)
            go_ret
            exact ⟨rfl, Cu.below g10⟩
end Go.Proofs.YtpolkioaagahhaaDoor

/- How a law of package code is opened: the table as1 it was laid; codes, instructions and texts that came in. -/
namespace Go.Proofs.YtpolkioaagahhaaDoor
open Go.RowKit Go.Lib Go.ChangeShapes Go.WideShapes Go.ChangeAt Go.Deep Go.Joins
open Go.ChangeMaps (open_string shut_string)
set_option linter.unusedVariables false
set_option maxRecDepth 8000

theorem kd_own : ownKnob Tryd.prog.godebug = none := by kernel_rfl
theorem kd_laid : laidOutB Tryd.prog = true := by kernel_rfl
theorem names_at : Tryd.prog.globalNamed "campanile/code.names" = some 0 := by kernel_rfl
theorem names_type : (Tryd.prog.globals[0]?).map (·.type) = some 109 := by kernel_rfl
theorem cells_string : Tryd.prog.cellsOf 9 = 1 := by kernel_rfl
def laid1 : List (String × DataW Unit) := [("campanile/code.names", Rows.laid_campanile_code_names)]
/-- The door's own heap meets the condition: three closed facts. -/
theorem kd_door (os : Os) (args : Array Value) : laidMetH Tryd.prog laid1 ((World.doorLaid Tryd.prog 400 os).forCall (fun _ _ => 0) ⟨#[], args, []⟩).memory :=
  laidMetH_of_parts3 (fuel := 8) (laidMet_of_run' 8 (by kernel_rfl) (by kernel_rfl)) (by kernel_rfl) (by kernel_rfl)
theorem laid_names : (Rows.laid_campanile_code_names : DataW Unit) = .agg ((List.range 16).map fun k => .lit (.string (nmX k))) := by rfl
/-- What the condition gives the walks: the table's cells. -/
theorem nm_of_laid {W : World} (h : laidMetH Tryd.prog laid1 W) : Nm W := by
  rw [MakeChecks.laidMetH_plain _ _ _ (by kernel_rfl)] at h
  obtain ⟨ps, ⟨g0, t0, cs0, f0, p0, q0, hg0, ht0, hv0, hd0, _, _⟩, _, _⟩ := h
  obtain rfl := Option.some.inj (names_at.symm.trans hg0)
  obtain rfl := Option.some.inj (names_type.symm.trans ht0)
  obtain ⟨xs, m1, rfl, hx1, hlen, hn4, hel⟩ := DataW.trod_array Tryd.underlying109 hd0
  rw [cells_string] at hel
  have hc : ∀ i, W.cell? ⟨0, i, none⟩ = cs0[i]? := fun i => World.var?_cell hg0 hv0 i
  have hx2 : xs.map Prod.fst = (List.range 16).map fun k => .lit (.string (nmX k)) := by
    have := hx1
    rw [laid_names] at this
    simp only [Prod.mk.injEq, DataW.agg.injEq] at this
    exact this.1.symm
  have one : ∀ k, k < 16 → W.cell? ⟨0, k, none⟩ = some (.string (nmL k)) := by
    intro k hk
    have hkl : k < xs.length := by omega
    have h1 := hel k hk
    rw [List.getElem?_eq_getElem hkl, Nat.mul_one] at h1
    obtain ⟨s, e1, e2, _⟩ := DataW.trod_string Tryd.underlying9 h1
    have e4 : (xs.map Prod.fst)[k]? = some (.lit (.string (nmX k))) := by
      rw [hx2]
      simp [hk]
    rw [List.getElem?_map, List.getElem?_eq_getElem hkl] at e4
    simp only [Option.map_some, Option.some.injEq] at e4
    rw [e2] at e4
    simp only [DataW.lit.injEq, Lit.string.injEq] at e4
    have hs : s = nmL k := by
      unfold nmL
      rw [← e4]
    rw [hc k, ← hs]
    have e3 : cs0.toList[k]? = some (.string s) := by
      have := congrArg (fun l => l[0]?) e1
      simpa [List.getElem?_take, List.getElem?_drop] using this
    simpa using e3
  refine ⟨one, ?_⟩
  have c0 := one 0 (by omega)
  rcases Nat.eq_zero_or_pos W.heap.size with hz | hz
  · have : W.heap = #[] := Array.eq_empty_of_size_eq_zero hz
    simp [World.cell?, this] at c0
  · exact hz
section
variable {H : Type} {enc : TypeId × Value → H} {W : World} {base b0 : Nat} {spare : Nat → Bool} {held : Bool} {r : Reach} {v : Value} {d : DataW H} {p : List MemPlace}
theorem kd_string (hv : Value.okWide Tryd.prog W r b0 9 v) (h : DataW.Trod enc Tryd.prog W base spare held 9 v d p) : ∃ s : ByteArray, v = .string s ∧ s.size ≤ 9223372036854775807 := by
  obtain ⟨s, rfl, _, _, hs⟩ := open_string Tryd.underlying9 hv h
  exact ⟨s, rfl, by unfold maxLen at hs; omega⟩
theorem kd_in_u8 {n : Int} (w : (Lit.int .u8 n).wf = true) : 0 ≤ n ∧ n ≤ 255 := by
  simp only [Lit.wf, Bool.and_eq_true, decide_eq_true_eq] at w
  have e1 : IntKind.u8.min = 0 := by kernel_rfl
  have e2 : IntKind.u8.max = 255 := by kernel_rfl
  omega
theorem kd_code (hv : Value.okWide Tryd.prog W r b0 65 v) (h : DataW.Trod enc Tryd.prog W base spare held 65 v d p) : ∃ k : Nat, v = .int .u8 k ∧ k < 256 := by
  obtain ⟨a, rfl, _, _, w⟩ := open_int Tryd.underlying65 hv h
  have := kd_in_u8 w
  exact ⟨a.toNat, by rw [Int.toNat_of_nonneg this.1], by omega⟩
theorem kd_field {P : Program} {w : World} {t : TypeId} {fs : Array Field} {fuel : Nat} {cs : List Value} {x : DataW H × List MemPlace}
    (hs : P.underlying t = some (.struct fs)) (hone : oneCellFields P fs = true) (h : DataW.trod enc P w base spare held fuel t cs = some x) {i : Nat} {f : Field} (hf : fs[i]? = some f) {c : Value} (hc : cs[i]? = some c) :
    ∃ n y, DataW.trod enc P w base spare held n f.type [c] = some y := by
  obtain ⟨xs, n, _, _, _, hlen, hfld⟩ := DataW.trod_struct hs h
  obtain ⟨o, k⟩ := hone_of hone i f hf
  have h1 := hfld i f hf
  have hi : i < fs.size := (Array.getElem?_eq_some_iff.1 hf).1
  have hcl : i < cs.length := (List.getElem?_eq_some_iff.1 hc).1
  have hce : cs[i] = c := (List.getElem?_eq_some_iff.1 hc).2
  rw [o, k, List.getElem?_eq_getElem (by omega), List.drop_eq_getElem_cons hcl, hce] at h1
  exact ⟨n, _, by simpa using h1⟩
theorem kd_cut {cs : Array Value} (h : cs.size = 3) : ∃ c0 c1 c2, cs = #[c0, c1, c2] := by
  obtain ⟨l⟩ := cs
  match l, h with
  | [c0, c1, c2], _ => exact ⟨c0, c1, c2, rfl⟩
theorem kd_instr (hv : Value.okWide Tryd.prog W r b0 67 v) (h : DataW.Trod enc Tryd.prog W base spare held 67 v d p) : ∃ (k : Nat) (x n : Int), v = .agg #[.int .u8 k, .int .i64 x, .int .i64 n] ∧ k < 256 := by
  obtain ⟨cs, rfl, hsz⟩ := okWide_struct Tryd.underlying67 hv
  obtain ⟨c0, c1, c2, rfl⟩ := kd_cut (hsz.trans (by kernel_rfl))
  obtain ⟨fuel, hf⟩ := h
  obtain ⟨n0, y0, h0⟩ := kd_field Tryd.underlying67 (by kernel_rfl) hf (i := 0) rfl (c := c0) rfl
  obtain ⟨n1, y1, h1⟩ := kd_field Tryd.underlying67 (by kernel_rfl) hf (i := 1) rfl (c := c1) rfl
  obtain ⟨n2, y2, h2⟩ := kd_field Tryd.underlying67 (by kernel_rfl) hf (i := 2) rfl (c := c2) rfl
  obtain ⟨a0, e0, _, w0⟩ := DataW.trod_int Tryd.underlying65 h0
  obtain ⟨a1, e1, _, w1⟩ := DataW.trod_int Tryd.underlying3 h1
  obtain ⟨a2, e2, _, w2⟩ := DataW.trod_int Tryd.underlying3 h2
  injection e0 with e0 _
  injection e1 with e1 _
  injection e2 with e2 _
  subst e0 e1 e2
  have := kd_in_u8 w0
  exact ⟨a0.toNat, a1, a2, by rw [Int.toNat_of_nonneg this.1], by omega⟩
end
end Go.Proofs.YtpolkioaagahhaaDoor

/- How the laws of cpu are opened: a state that came in by value. -/
namespace Go.Proofs.YtpolkioaagahhaaDoor
open Go.RowKit Go.Lib Go.ChangeShapes Go.WideShapes Go.ChangeAt Go.Deep Go.Joins
set_option linter.unusedVariables false
set_option maxRecDepth 8000

def Cu.fitI (x : Int) : Prop := -9223372036854775808 ≤ x ∧ x ≤ 9223372036854775807
theorem Cu.fitI_of {x : Int} (w : (Lit.int .i64 x).wf = true) : Cu.fitI x := by
  simp only [Lit.wf, Bool.and_eq_true, decide_eq_true_eq] at w
  have e1 : IntKind.i64.min = -9223372036854775808 := by kernel_rfl
  have e2 : IntKind.i64.max = 9223372036854775807 := by kernel_rfl
  unfold Cu.fitI
  omega
theorem Cu.in_u8 {n : Int} (w : (Lit.int .u8 n).wf = true) : 0 ≤ n ∧ n ≤ 255 := kd_in_u8 w
theorem Cu.in_u16 {n : Int} (w : (Lit.int .u16 n).wf = true) : 0 ≤ n ∧ n ≤ 65535 := by
  simp only [Lit.wf, Bool.and_eq_true, decide_eq_true_eq] at w
  have e1 : IntKind.u16.min = 0 := by kernel_rfl
  have e2 : IntKind.u16.max = 65535 := by kernel_rfl
  omega
theorem Cu.cut10 {cs : Array Value} (h : cs.size = 10) : ∃ c0 c1 c2 c3 c4 c5 c6 c7 c8 c9, cs = #[c0, c1, c2, c3, c4, c5, c6, c7, c8, c9] := by
  obtain ⟨l⟩ := cs
  match l, h with
  | [c0, c1, c2, c3, c4, c5, c6, c7, c8, c9], _ => exact ⟨c0, c1, c2, c3, c4, c5, c6, c7, c8, c9, rfl⟩
section
variable {H : Type} {enc : TypeId × Value → H} {W : World} {base b0 : Nat} {spare : Nat → Bool} {held : Bool} {r : Reach} {v : Value} {d : DataW H} {p : List MemPlace}
theorem Cu.regs_of {m : Nat} {c1 c2 c3 c4 c5 c6 c7 c8 : Value} {x : DataW H × List MemPlace} (h : DataW.trod enc Tryd.prog W base spare held m 22 [c1, c2, c3, c4, c5, c6, c7, c8] = some x) :
    ∃ q : Nat → Int, c1 = .int .i64 (q 0) ∧ c2 = .int .i64 (q 1) ∧ c3 = .int .i64 (q 2) ∧ c4 = .int .i64 (q 3) ∧ c5 = .int .i64 (q 4) ∧ c6 = .int .i64 (q 5) ∧ c7 = .int .i64 (q 6) ∧ c8 = .int .i64 (q 7) := by
  obtain ⟨xs, n, _, _, _, hlen, hel⟩ := DataW.trod_array Tryd.underlying22 h
  rw [Cu.int_cells] at hel
  have one : ∀ i (hi : i < 8) c, [c1, c2, c3, c4, c5, c6, c7, c8][i]? = some c → ∃ q : Int, c = .int .i64 q := by
    intro i hi c hc
    have h1 := hel i hi
    rw [Nat.mul_one, List.getElem?_eq_getElem (by omega)] at h1
    have hcl := (List.getElem?_eq_some_iff.1 hc)
    obtain ⟨hcl, hce⟩ := hcl
    rw [List.drop_eq_getElem_cons hcl, hce] at h1
    have h2 : DataW.trod enc Tryd.prog W base spare held n 3 [c] = some (xs[i]'(by omega)) := by simpa using h1
    obtain ⟨a, e, _, _⟩ := DataW.trod_int Tryd.underlying3 h2
    injection e with e _
    exact ⟨a, e⟩
  obtain ⟨q1, e1⟩ := one 0 (by omega) c1 rfl
  obtain ⟨q2, e2⟩ := one 1 (by omega) c2 rfl
  obtain ⟨q3, e3⟩ := one 2 (by omega) c3 rfl
  obtain ⟨q4, e4⟩ := one 3 (by omega) c4 rfl
  obtain ⟨q5, e5⟩ := one 4 (by omega) c5 rfl
  obtain ⟨q6, e6⟩ := one 5 (by omega) c6 rfl
  obtain ⟨q7, e7⟩ := one 6 (by omega) c7 rfl
  obtain ⟨q8, e8⟩ := one 7 (by omega) c8 rfl
  exact ⟨fun i => match i with | 0 => q1 | 1 => q2 | 2 => q3 | 3 => q4 | 4 => q5 | 5 => q6 | 6 => q7 | _ => q8, e1, e2, e3, e4, e5, e6, e7, e8⟩
theorem Cu.open_state (hv : Value.okWide Tryd.prog W r b0 24 v) (h : DataW.Trod enc Tryd.prog W base spare held 24 v d p) : ∃ (pc md : Int) (q : Nat → Int), v = Cu.stV pc q md ∧ pc ≤ 9223372036854775807 := by
  obtain ⟨cs, rfl, hsz⟩ := okWide_struct Tryd.underlying24 hv
  obtain ⟨c0, c1, c2, c3, c4, c5, c6, c7, c8, c9, rfl⟩ := Cu.cut10 (hsz.trans (by kernel_rfl))
  obtain ⟨fuel, hf⟩ := h
  obtain ⟨xs, n, _, _, _, hlen, hfld⟩ := DataW.trod_struct Tryd.underlying24 hf
  have h0 : DataW.trod enc Tryd.prog W base spare held n 3 (([c0, c1, c2, c3, c4, c5, c6, c7, c8, c9].drop 0).take (Tryd.prog.cellsOf 3)) = xs[0]? := hfld 0 _ rfl
  have h1 : DataW.trod enc Tryd.prog W base spare held n 22 (([c0, c1, c2, c3, c4, c5, c6, c7, c8, c9].drop 1).take (Tryd.prog.cellsOf 22)) = xs[1]? := hfld 1 _ rfl
  have h2 : DataW.trod enc Tryd.prog W base spare held n 3 (([c0, c1, c2, c3, c4, c5, c6, c7, c8, c9].drop 9).take (Tryd.prog.cellsOf 3)) = xs[2]? := hfld 2 _ rfl
  have e8 : Tryd.prog.cellsOf 22 = 8 := by kernel_rfl
  have l3 : xs.length = 3 := hlen
  rw [Cu.int_cells] at h0 h2
  rw [e8] at h1
  rw [List.getElem?_eq_getElem (by omega)] at h0 h1 h2
  have g0 : DataW.trod enc Tryd.prog W base spare held n 3 [c0] = some (xs[0]'(by omega)) := by simpa [Value.cells] using h0
  have g1 : DataW.trod enc Tryd.prog W base spare held n 22 [c1, c2, c3, c4, c5, c6, c7, c8] = some (xs[1]'(by omega)) := by simpa [Value.cells] using h1
  have g2 : DataW.trod enc Tryd.prog W base spare held n 3 [c9] = some (xs[2]'(by omega)) := by simpa [Value.cells] using h2
  obtain ⟨a, ea, _, wa⟩ := DataW.trod_int Tryd.underlying3 g0
  obtain ⟨m, em, _, _⟩ := DataW.trod_int Tryd.underlying3 g2
  injection ea with ea _
  injection em with em _
  obtain ⟨q, rfl, rfl, rfl, rfl, rfl, rfl, rfl, rfl⟩ := Cu.regs_of g1
  subst ea em
  exact ⟨a, m, q, rfl, (Cu.fitI_of wa).2⟩
end
end Go.Proofs.YtpolkioaagahhaaDoor

/- CpuStays, whatever its input. -/
namespace Go.Proofs.YtpolkioaagahhaaDoor
open Go.RowKit Go.Lib
set_option linter.unusedVariables false
set_option maxRecDepth 20000

theorem Cu.stays_walk (s : ByteArray) (size : Int) (pc md : Int) (r : Nat → Int) (n : Int) (w : World) (hN : Nm w) (hss : s.size ≤ 9223372036854775807) (hz : Cu.fitI size) (hpc : pc ≤ 9223372036854775807) (bn : 0 ≤ n ∧ n ≤ 255) : Calls Tryd.prog 4 #[.string s, .int .i64 size, Cu.stV pc r md, .int .u8 n] w fun e w' => e = .returned (.bool true) ∧ Below w.heap.size w w' := by
  by_cases hok : s.size ≤ 400 ∧ 0 ≤ size ∧ size ≤ 400
  · obtain ⟨h1, h2, h3⟩ := hok
    obtain ⟨vl, rfl⟩ := Int.eq_ofNat_of_zero_le h2
    exact Cu.stays_ok s vl pc md r n w hN hpc bn h1 (by omega)
  · have key : 400 < (s.size : Int) ∨ ((s.size : Int) ≤ 400 ∧ size < 0) ∨ ((s.size : Int) ≤ 400 ∧ 0 ≤ size ∧ 400 < size) := by omega
    obtain ⟨W0, hW0, g0, hB0⟩ := ibox w 24 (Cu.stC pc r md)
    have HL := Lib.hid (Cu.live3 w W0 (hN.grown g0 (by simp)) g0)
    unfold Cu.stV
    unfold Cu.stC at hW0 ⊢
    clear hok hN g0 hB0
    rcases key with h | ⟨h, h2⟩ | ⟨h, h2, h3⟩
    all_goals
      go_enter Tryd.func4, Tryd.ntmps4
      go_upto_region 1 with (fail)
      rw [← hW0]
      clear hW0
      go_wp2_with (go_at_call 7; (with_reducible refine HL.out.mono ?_); rintro e w1 ⟨rfl, g1⟩)
      go_ret
      exact ⟨rfl, Cu.below g1⟩
end Go.Proofs.YtpolkioaagahhaaDoor

/- The row of CpuStays: a step changes no byte outside the view, whatever the program: for every text, size, state and number of steps the law returns true, where the package's table starts as1 the program's text lays it. -/
namespace Go.Proofs.YtpolkioaagahhaaDoor
open Go.RowKit Go.Lib Go.ChangeShapes Go.WideShapes Go.ChangeAt Go.Deep Go.Joins
open Go.ChangeMaps (open_string shut_string)
set_option linter.unusedVariables false

set_option maxRecDepth 100000 in
theorem cpuStays_lifted (os : Os) (started : os.Started) (H : Type) (enc : TypeId × Value → H) :
    ReturnsInHanded {} Tryd.checked os 4 .any (fun w args => (Rows.cpuStaysSpec.pre enc Tryd.prog Tryd.f4 [] false w args ∧ laidMetH Tryd.prog laid1 w) ∧ sizedMet enc Tryd.prog Tryd.f4 (OpenSpec.ofChange Rows.cpuStaysSpec) false w args)
      (Rows.cpuStaysSpec.post enc Tryd.prog Tryd.f4 false true false false) := by
  refine returnsInHanded_of_change_and (C := Tryd.checked) (X := fun w _ => laidMetH Tryd.prog laid1 w) (fun _ _ _ hh h => h.of_heap hh) kd_own started (by kernel_rfl) Tryd.func4
    (ChangeSpec.witness_shaped (enc := enc) (C := Tryd.checked) (os := os) (X := fun w _ => laidMetH Tryd.prog laid1 w) false (World.doorLaid Tryd.prog 400 os) #[.string .empty, .int .i64 0, .agg #[.int .i64 0, .int .i64 0, .int .i64 0, .int .i64 0, .int .i64 0, .int .i64 0, .int .i64 0, .int .i64 0, .int .i64 0, .int .i64 0], .int .u8 0] 8 rfl (World.shaped_of_RefB (by kernel_rfl) (by kernel_rfl)) (by kernel_rfl) (by kernel_rfl) (by kernel_rfl) (kd_door os _)) ?_
  intro W base args ds gs before hval0 hW _ _ hL _
  have hval : ∀ (j : Nat) t v, Tryd.f4.params[j]? = some t → args[j]? = some v → Value.okWide Tryd.prog W .any base t v := hval0
  have hW' := hW
  obtain ⟨p, q, hA0, hV, rfl, hfz, hnd⟩ := hW
  have hA : DataW.TrodAll enc Tryd.prog W 0 (fun _ => true) true Tryd.f4.params.toList args.toList ds p := hA0
  rw [Tryd.params4] at hA hval
  obtain ⟨v0, vs0, d0, ds0, p0, q0, hargs, rfl, rfl, h0, r0⟩ := trodAll_cons hA
  obtain ⟨v1, vs1, d1, ds1, p1, q1, rfl, rfl, rfl, h1, r1⟩ := trodAll_cons r0
  obtain ⟨v2, vs2, d2, ds2, p2, q2, rfl, rfl, rfl, h2, r2⟩ := trodAll_cons r1
  obtain ⟨v3, vs3, d3, ds3, p3, q3, rfl, rfl, rfl, h3, r3⟩ := trodAll_cons r2
  obtain ⟨rfl, rfl, rfl⟩ := trodAll_nil r3
  obtain rfl : args = #[v0, v1, v2, v3] := by cases args; simp_all
  obtain ⟨rfl, rfl⟩ := trodVars_none hV
  have k0 := h0
  have lt0 : ∀ x ∈ p0, x.block < W.heap.size := by obtain ⟨m, hm⟩ := k0; exact DataW.trod_lt m _ _ _ hm
  obtain ⟨s0, rfl, hs0⟩ := kd_string (hval 0 9 v0 rfl rfl) h0
  obtain ⟨a1, rfl, rfl, rfl, w1⟩ := open_int Tryd.underlying3 (hval 1 3 v1 rfl rfl) h1
  have k2 := h2
  have lt2 : ∀ x ∈ p2, x.block < W.heap.size := by obtain ⟨m, hm⟩ := k2; exact DataW.trod_lt m _ _ _ hm
  obtain ⟨pc2, md2, r2', rfl, hs2⟩ := Cu.open_state (hval 2 24 v2 rfl rfl) h2
  obtain ⟨a3, rfl, rfl, rfl, w3⟩ := open_int Tryd.underlying5 (hval 3 5 v3 rfl rfl) h3
  clear hA0 hval0
  refine (Cu.stays_walk s0 a1 pc2 md2 r2' a3 W (nm_of_laid hL) hs0 (Cu.fitI_of w1) hs2 (Cu.in_u8 w3)).mono fun e W' ⟨he, bel⟩ => ?_
  subst he
  exact ⟨_, rfl, _, _, _, [], _, [], hW', trodAll_mk1 (shut_bool Tryd.underlying4 _), (trodAll_cons_mk (Below.trod kd_laid (by kernel_rfl) (of_decide_eq_true (by kernel_rfl)) k0 bel lt0) (trodAll_cons_mk (shut_int Tryd.underlying3 w1) (trodAll_cons_mk (Below.trod kd_laid (by kernel_rfl) (of_decide_eq_true (by kernel_rfl)) k2 bel lt2) (trodAll_cons_mk (shut_int Tryd.underlying5 w3) trodAll_mk0)))), rfl, bel.frame _, fun h => by cases h⟩
theorem cpuStays_holds : Rows.CpuStaysSaid :=
  OpenClaim.holds_of_wide 4 Tryd.f4 rfl rfl rfl rfl rfl rfl rfl ⟨rfl, rfl, rfl, rfl, rfl⟩ rfl rfl rfl rfl rfl (by kernel_rfl) Tryd.func4 (by kernel_rfl)
    (of_decide_eq_true (by kernel_rfl)) (by unfold Func.isWrapper; first | (rw [if_pos (by decide +kernel)]; kernel_rfl) | (rw [if_neg (by decide +kernel)]; exact ⟨rfl, rfl⟩))
    (fun os started H enc _ => cpuStays_lifted os started H enc)
#print axioms cpuStays_holds
end Go.Proofs.YtpolkioaagahhaaDoor

/- CpuStays: a step changes no byte outside the view, whatever the program: for every text, size, state and number of steps the law returns true. No condition but the tied card's: the package's table starts as1 the program's text lays it. -/
namespace Go.Proofs.YtpolkioaagahhaaDoor
open Go

theorem cpuStays_card : Rows.CpuStaysCardSaid :=
  Claim7.holds_tied_plain_at .later [] [.data] true _ false
    cpuStays_holds (fun _ h => by cases h) (by kernel_rfl) (fun _ h => by cases h) cpuStays_row_tie rfl ⟨rfl, rfl⟩ (by kernel_rfl) rfl
    (fun f fn hf hfn => by
      obtain rfl : f = 4 := Option.some.inj ((show Tryd.prog.funcNamed "campanile/campanilelaw21.CpuStays" = some 4 by kernel_rfl).symm.trans hf) |>.symm
      obtain rfl : fn = Tryd.f4 := (Option.some.inj (Tryd.func4.symm.trans hfn)).symm
      exact ⟨by kernel_rfl, fun j t ht => by
        rw [Tryd.params4] at ht
        have hm : t ∈ [9, 3, 24, 5] := by simpa using Array.mem_of_getElem? ht
        have hall : ([9, 3, 24, 5].all fun u => !Tryd.prog.wantsStandIn u) = true := by kernel_rfl
        exact (show Tryd.prog.wantsStandIn t = false by simpa using List.all_eq_true.1 hall t hm)⟩)
    (by kernel_rfl)
#print axioms cpuStays_card
end Go.Proofs.YtpolkioaagahhaaDoor
