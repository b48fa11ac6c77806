/- The memory of package mem: each of its calls by its contract. -/
import Derived.Test.YthneljkaieckeaaB1
import Derived.Deep.RegionWith
import Derived.Laws.CopyOwn
import Derived.Laws.IdiomStrings
import Derived.Lib.BufferWrite
import Derived.OwnWalk
namespace Go.Proofs.Ythneljkaieckeaa
open Go.RowKit Go.Lib
set_option linter.unusedVariables false

/-- The cells of bytes. -/
def u8Cells (l : List UInt8) : List Value := l.map fun b => .int .u8 (b.toNat : Int)
theorem u8Cells_len (l : List UInt8) : (u8Cells l).length = l.length := by simp [u8Cells]
theorem u8Cells_get {l : List UInt8} {i : Nat} (h : i < l.length) : (u8Cells l)[i]? = some (.int .u8 ((l[i]).toNat : Int)) := by simp [u8Cells, h]

/-- A memory lies in block m, its bytes l in another block; both from B on. -/
def MemV (w : World) (B m : Nat) (l : List UInt8) : Prop :=
  ∃ g, B ≤ g ∧ B ≤ m ∧ Blk w m 56 #[.slice (some ⟨g, 0, none⟩) l.length l.length] ∧ Blk w g 5 (u8Cells l).toArray

section
variable {w w' : World} {B m : Nat} {l : List UInt8}
theorem MemV.below (h : MemV w B m l) (hb : Below w.heap.size w w') : MemV w' B m l := by
  obtain ⟨g, h1, h2, h3, h4⟩ := h
  exact ⟨g, h1, h2, h3.below hb h3.lt, h4.below hb h4.lt⟩
theorem MemV.drewN (h : MemV w B m l) (n : Nat) : MemV (w.drewN n) B m l := h
end

/-- The same, the block of its bytes named. -/
def MemG (w : World) (B m g : Nat) (l : List UInt8) : Prop :=
  B ≤ g ∧ B ≤ m ∧ Blk w m 56 #[.slice (some ⟨g, 0, none⟩) l.length l.length] ∧ Blk w g 5 (u8Cells l).toArray
section
variable {w w' : World} {B m g : Nat} {l : List UInt8}
theorem MemG.mem (h : MemG w B m g l) : MemV w B m l := ⟨g, h.1, h.2.1, h.2.2.1, h.2.2.2⟩
theorem MemV.named (h : MemV w B m l) : ∃ g, MemG w B m g l := by
  obtain ⟨g, h1, h2, h3, h4⟩ := h
  exact ⟨g, h1, h2, h3, h4⟩
theorem MemG.below (h : MemG w B m g l) (hb : Below w.heap.size w w') : MemG w' B m g l := ⟨h.1, h.2.1, h.2.2.1.below hb h.2.2.1.lt, h.2.2.2.below hb h.2.2.2.lt⟩
theorem MemG.drewN (h : MemG w B m g l) (n : Nat) : MemG (w.drewN n) B m g l := h
/-- A memory stays behind a write to another block of bytes. -/
theorem MemG.far {k : Nat} (h : MemG w B m g l) (hb : w.grownBy w' (some k)) (h1 : g ≠ k) (h2 : m ≠ k) : MemG w' B m g l :=
  ⟨h.1, h.2.1, h.2.2.1.only hb (fun e => h2 (by injection e)), h.2.2.2.only hb (fun e => h1 (by injection e))⟩
theorem MemG.lt (h : MemG w B m g l) : g < w.heap.size ∧ m < w.heap.size := ⟨h.2.2.2.lt, h.2.2.1.lt⟩
theorem MemG.under (h : MemG w B m g l) (hB : B ≤ w.heap.size) (hb : w.grownBy w' (some g)) : Below B w w' := below_of_only hb hB (fun k hk => by injection hk with hk; have := h.1; omega)
end

theorem u8_info : (Try.prog.info? 5).map (fun i => (i.zero, i.size, i.bytes)) = some (some (.int .u8 0), 1, 1) := by kernel_rfl

/-- How many bytes a new memory has. -/
def sizeOf' (n : Int) : Nat := if n < 0 then 0 else if 16384 < n then 16384 else n.toNat
theorem sizeOf'_le (n : Int) : sizeOf' n ≤ 16384 := by unfold sizeOf'; split <;> (try split) <;> omega

theorem made_u8 (k : Nat) : (madeCells (Value.int .u8 0).cells (k * 1)).toList = u8Cells (List.replicate k 0) := by
  have h : (Value.int .u8 0).cells = #[.int .u8 0] := rfl
  rw [h, toList_madeCells_one]
  simp [u8Cells]

/-- A row that a make laid, whole. -/
theorem whole_of_own {w : World} {B g n : Nat} {t : TypeId} {xs : List Value} (h : w.ownsRow B t 1 (.slice (some ⟨g, 0, none⟩) n n) n xs) : B ≤ g ∧ Blk w g t xs.toArray := by
  rcases h.2 with ⟨h0, _⟩ | ⟨g', cap, cur, h1, hB, h2, h3, h4, h5, h6⟩
  · cases h0
  · injection h1 with e1 e2 e3
    injection e1 with e1
    injection e1 with e1
    subst e1 e3
    refine ⟨hB, ?_⟩
    have hs : cur.toList.length = n * 1 := by simpa using h5
    rw [← hs, List.take_length] at h6
    rw [← h6]
    exact h2

set_option maxHeartbeats 800000 in
theorem mnew_any (n : Int) (w : World) : Calls Try.prog 18 #[.int .i64 n] w fun r w' => ∃ m, r = .returned (.pointer (some ⟨m, 0, none⟩)) ∧ MemV w' w.heap.size m (List.replicate (sizeOf' n) 0) ∧ Below w.heap.size w w' := by
  obtain ⟨i0, hi0, hz0, hz1, hz2⟩ := info_parts u8_info
  have key : ∀ (k : Nat) (w1 : World), sizeOf' n = k → w1.ownsRow w.heap.size 5 1 (.slice (some ⟨w.heap.size, 0, none⟩) k k) k (madeCells (Value.int .u8 0).cells (k * 1)).toList → w.grownBy w1 none →
      MemV (w1.alloc (.cells #[.slice (some ⟨w.heap.size, 0, none⟩) k k] 56)) w.heap.size w1.heap.size (List.replicate (sizeOf' n) 0) ∧ Below w.heap.size w (w1.alloc (.cells #[.slice (some ⟨w.heap.size, 0, none⟩) k k] 56)) := by
    intro k w1 hk hown hg
    rw [made_u8] at hown
    obtain ⟨h1, h2⟩ := whole_of_own hown
    rw [hk]
    have hb := below_of_only hg (Nat.le_refl _) (by simp)
    refine ⟨⟨w.heap.size, Nat.le_refl _, hb.size, ?_, h2.alloc _⟩, hb.alloc hb.size _⟩
    have := Blk.new w1 56 #[.slice (some ⟨w.heap.size, 0, none⟩) k k]
    simpa using this
  have KEY := Lib.hid key
  clear key
  by_cases h0 : n < 0
  · have hs : sizeOf' n = 0 := by simp [sizeOf', h0]
    have HS := Lib.hid hs
    clear hs
    go_enter Try.func18, Try.ntmps18
    go_wp2_with (refine wpList_make_full _ rfl (.tmp 5) (.tmp 5) 54 rfl w.heap.size 5 i0 (.int .u8 0) 1 Try.underlying54 hi0 hz0 hz1 .i64 .i64 0 0 0 rfl rfl rfl rfl (by omega) (by unfold maxLen; omega) (Nat.le_refl _) ?_; intro w1 hown hg; have K := Lib.hid (KEY.out 0 w1 HS.out hown hg); clear hown hg)
    go_ret
    exact ⟨_, rfl, K.out⟩
  · by_cases h1 : 16384 < n
    · have hs : sizeOf' n = 16384 := by simp [sizeOf', h0, h1]
      have HS := Lib.hid hs
      clear hs
      go_enter Try.func18, Try.ntmps18
      go_wp2_with (refine wpList_make_full _ rfl (.tmp 5) (.tmp 5) 54 rfl w.heap.size 5 i0 (.int .u8 0) 1 Try.underlying54 hi0 hz0 hz1 .i64 .i64 16384 16384 16384 rfl rfl rfl rfl (by omega) (by unfold maxLen; omega) (Nat.le_refl _) ?_; intro w1 hown hg; have K := Lib.hid (KEY.out 16384 w1 HS.out hown hg); clear hown hg)
      go_ret
      exact ⟨_, rfl, K.out⟩
    · obtain ⟨k, rfl⟩ : ∃ k : Nat, n = k := ⟨n.toNat, by omega⟩
      have hs : sizeOf' (k : Int) = k := by unfold sizeOf'; rw [if_neg h0, if_neg h1]; omega
      have HS := Lib.hid hs
      clear hs
      go_enter Try.func18, Try.ntmps18
      go_wp2_with (refine wpList_make_full _ rfl (.tmp 5) (.tmp 5) 54 rfl w.heap.size 5 i0 (.int .u8 0) 1 Try.underlying54 hi0 hz0 hz1 .i64 .i64 k k k rfl rfl rfl rfl (by rw [hz2]; omega) (by unfold maxLen; omega) (Nat.le_refl _) ?_; intro w1 hown hg; have K := Lib.hid (KEY.out k w1 HS.out hown hg); clear hown hg)
      go_ret
      exact ⟨_, rfl, K.out⟩

/-- What is wrong with n places from at on, of so many. -/
def chk (len : Nat) (at' n : Int) : Int := if n < 0 then 2 else if at' < 0 then 6 else if (len : Int) < at' then 6 else if (len : Int) - at' < n then 6 else 0

theorem check_any (w : World) (m : Nat) (A : Option Addr) (len cap : Nat) (at' n : Int) (hc : w.cell? ⟨m, 0, none⟩ = some (.slice A len cap)) (hl : len ≤ 16384) :
    Calls Try.prog 27 #[.pointer (some ⟨m, 0, none⟩), .int .i64 at', .int .i64 n] w fun r w' => r = .returned (.int .i64 (chk len at' n)) ∧ w = w' := by
  have hcases : (n < 0 ∧ chk len at' n = 2) ∨ (¬ n < 0 ∧ at' < 0 ∧ chk len at' n = 6) ∨ (¬ n < 0 ∧ ¬ at' < 0 ∧ (len : Int) < at' ∧ chk len at' n = 6) ∨ (¬ n < 0 ∧ ¬ at' < 0 ∧ ¬ (len : Int) < at' ∧ (len : Int) - at' < n ∧ chk len at' n = 6) ∨ (¬ n < 0 ∧ ¬ at' < 0 ∧ ¬ (len : Int) < at' ∧ ¬ (len : Int) - at' < n ∧ chk len at' n = 0) := by
    unfold chk
    split <;> (try split) <;> (try split) <;> (try split) <;> simp_all
  rcases hcases with ⟨h1, e⟩ | ⟨h1, h2, e⟩ | ⟨h1, h2, h3, e⟩ | ⟨h1, h2, h3, h4, e⟩ | ⟨h1, h2, h3, h4, e⟩
  all_goals
    have E := Lib.hid e
    clear e
    go_enter Try.func27, Try.ntmps27
    go_wp2
    go_ret
    exact ⟨ret_int (by rw [E.out]), rfl⟩
end Go.Proofs.Ythneljkaieckeaa
