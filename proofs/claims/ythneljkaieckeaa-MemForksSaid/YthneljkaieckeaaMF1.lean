/- A memory by itself: the contract of Fork. -/
import Derived.Test.YthneljkaieckeaaMP2
import Derived.Test.YthneljkaieckeaaMM4
import Derived.Laws.CopyOwn
import Derived.Deep.RegionLaw
namespace Go.Proofs.Ythneljkaieckeaa
open Go.RowKit Go.Lib Go.Sort
set_option linter.unusedVariables false

/-- copy into a row that is known whole, as a step of a drawn region: the world that it leaves is told. -/
theorem step_copy_row {P : Program} {ops : Array Oper} {o : Oper} {a : Act} {w : World} {K : Act → World → Prop} {Q : Exit → Act → World → Prop} {E : Prop} (hgd : o.guard = none) (d s : Operand) (dT sT : TypeId)
    (ho : o.op = .call { callee := .builtin .copy, args := #[d, s], argTypes := #[dT, sT] }) (elem : TypeId) (hu : P.underlying dT = some (.slice elem)) (hsz : (P.info? elem).map (·.size) = some 1)
    (g off dLen dCap : Nat) (ad : Addr) (sLen sCap : Nat) (hd : a.eval d = .slice (some ⟨g, off, none⟩) dLen dCap) (hs : a.eval s = .slice (some ad) sLen sCap)
    (cur : Array Value) (t : TypeId) (hg : w.heap[g]? = some (.cells cur t (0, 0))) (cs : List Value) (hn : cs.length = Nat.min sLen dLen)
    (hsrc : ∀ j v, cs[j]? = some v → w.cell? (ad.add j) = some v) (hfit : off + cs.length ≤ cur.size) (h1 : ∀ v ∈ cs, v.oneCell' = true)
    (h : ∀ w', w' = w.setRow g (cur.toList.take off ++ (cs ++ cur.toList.drop (off + cs.length))).toArray → K (a.put o.dst (goInt cs.length)) w') :
    if Region.wanted o (yielded ops a.tmps) = true then Oper.wp P o a w K Q else E := by
  have hw : Region.wanted o (yielded ops a.tmps) = true := by simp [Region.wanted, hgd]
  rw [if_pos hw]
  have hrun := run_copy_row (P := P) w dT sT o.type elem g off dLen dCap ad sLen sCap cur t cs hu hsz hg hn hsrc hfit h1
  unfold Oper.wp
  simp [execOp, ho, resolve, invoke, builtin, hd, hs, hrun, Result.andThen]
  exact h _ (by simp)

/-- What Fork answers. -/
def ForkV (B m g : Nat) (l : List UInt8) (w : World) (e : Ending) (w' : World) : Prop :=
  ∃ m2 g2, e = .returned (.pointer (some ⟨m2, 0, none⟩)) ∧ MemG w' w.heap.size m2 g2 l ∧ MemG w' B m g l ∧ Below w.heap.size w w'
def forkRow (z l : List UInt8) : Array Value := ((u8Cells z).toArray.toList.take 0 ++ (u8Cells l ++ (u8Cells z).toArray.toList.drop (0 + (u8Cells l).length))).toArray
theorem forkRow_eq {z l : List UInt8} (h : z.length = l.length) : forkRow z l = (u8Cells l).toArray := by
  unfold forkRow
  have e : (u8Cells z).drop (0 + (u8Cells l).length) = [] := List.drop_eq_nil_of_le (by rw [u8Cells_len, u8Cells_len]; omega)
  simp only [List.take_zero, List.nil_append]
  rw [e, List.append_nil]
theorem fork_fin {w w1 w2 : World} {B m g m2 g2 : Nat} {z l : List UInt8} (hw : g < w.heap.size ∧ m < w.heap.size) (G1 : MemG w1 B m g l) (G2 : MemG w1 w.heap.size m2 g2 z) (hz : z.length = l.length) (hb : Below w.heap.size w w1) (e : w2 = w1.setRow g2 (forkRow z l)) :
    MemG w2 w.heap.size m2 g2 l ∧ MemG w2 B m g l ∧ Below w.heap.size w w2 := by
  subst e
  obtain ⟨h1, h2, h3, h4⟩ := G2
  have hne : m2 ≠ g2 := h3.differ h4 (by decide)
  refine ⟨⟨h1, h2, ?_, ?_⟩, G1.far (only_setRow _ _ _) (by omega) (by omega), hb.trans (below_of_only (only_setRow w1 g2 _) hb.size (fun k hk => by injection hk with hk; omega))⟩
  · rw [← hz]
    exact blk_far h3 hne
  · show (World.setRow _ _ _).heap[g2]? = _
    rw [setRow_heap w1 g2 _ _ _ _ h4, forkRow_eq hz]
theorem row_src {w : World} {g : Nat} {l : List UInt8} (h : Blk w g 5 (u8Cells l).toArray) : ∀ j v, (u8Cells l)[j]? = some v → w.cell? ((⟨g, 0, none⟩ : Addr).add j) = some v := fun j v hj => by
  have hjl : j < l.length := by
    rcases Nat.lt_or_ge j l.length with q | q
    · exact q
    · rw [List.getElem?_eq_none (by rw [u8Cells_len]; exact q)] at hj; cases hj
  have ha : (⟨g, 0, none⟩ : Addr).add j = ⟨g, j, none⟩ := by unfold Addr.add; split <;> simp_all
  rw [ha, row_cell h hjl]
  rw [u8Cells_get hjl] at hj
  exact hj
theorem u8_one (l : List UInt8) : ∀ v ∈ u8Cells l, v.oneCell' = true := by
  intro v hv
  obtain ⟨b, _, rfl⟩ := List.mem_map.mp hv
  rfl

set_option maxHeartbeats 1600000 in
theorem fork_any (w : World) (B m g : Nat) (l : List UInt8) (h : MemG w B m g l) (hl : l.length ≤ 400) :
    Calls Try.prog 13 #[.pointer (some ⟨m, 0, none⟩)] w (ForkV B m g l w) := by
  have hsz := size_any w B m l h.mem
  have hs : sizeOf' (l.length : Int) = l.length := by unfold sizeOf'; rw [if_neg (by omega), if_neg (by omega)]; omega
  obtain ⟨z, hz⟩ : ∃ z, z = List.replicate l.length (0 : UInt8) := ⟨_, rfl⟩
  have hzl : z.length = l.length := by rw [hz, List.length_replicate]
  have hn : ∀ W, Calls Try.prog 18 #[.int .i64 l.length] W fun r w' => ∃ m, r = .returned (.pointer (some ⟨m, 0, none⟩)) ∧ MemV w' W.heap.size m z ∧ Below W.heap.size W w' := fun W => by
    have := mnew_any l.length W
    rw [hs, ← hz] at this
    exact this
  have HSZ := Lib.hid hsz
  have HN := Lib.hid hn
  have HM := Lib.hid h
  have hw := h.lt
  have HZL := Lib.hid hzl
  have HCL : Hid ((u8Cells l).length = Nat.min l.length z.length) := by unfold Hid; rw [u8Cells_len, hzl]; exact (Nat.min_self _).symm
  have HFIT : Hid (0 + (u8Cells l).length ≤ (u8Cells z).toArray.size) := by unfold Hid; simp [u8Cells_len, hzl]
  clear hsz hn hs hz h hzl
  go_enter Try.func13, Try.ntmps13
  go_wp2_with (first
    | (go_at_call 11; refine HSZ.out.mono ?_; rintro e w0 ⟨rfl, rfl⟩)
    | (go_at_call 18; refine (HN.out _).mono ?_; rintro e w1 ⟨m2, rfl, hm, b1⟩; obtain ⟨g2, hg2⟩ := hm.named; have G1 := Lib.hid (HM.out.below b1); have G2 := Lib.hid hg2; have B1 := Lib.hid b1; have d0 := hg2.2.2.1.cell 0; have d1 := G1.out.2.2.1.cell 0; simp at d0 d1; clear hm b1 hg2))
  go_region_law (refine step_copy_row rfl (.tmp 12) (.tmp 16) 54 54 rfl 5 Try.underlying54 (by kernel_rfl) g2 0 z.length z.length ⟨g, 0, none⟩ l.length l.length (by simp [Act.eval, Act.put]) (by simp [Act.eval, Act.put]) (u8Cells z).toArray 5 G2.out.2.2.2 (u8Cells l) HCL.out (row_src (w := w1.drew) G1.out.2.2.2) HFIT.out (u8_one l) ?_; intro w2 e2; have FIN := Lib.hid (fork_fin (w1 := w1.drew) hw (G1.out.drewN 1) (G2.out.drewN 1) HZL.out (below_drewN B1.out 1) e2); clear e2)
  all_goals
    go_wp2
    go_ret
    exact ⟨m2, g2, rfl, FIN.out⟩
end Go.Proofs.Ythneljkaieckeaa
