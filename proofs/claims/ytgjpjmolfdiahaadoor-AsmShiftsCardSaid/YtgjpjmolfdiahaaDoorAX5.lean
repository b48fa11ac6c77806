/- Package asm: what a reader gives up by; registers, numbers, values, counts, operands, by their contracts. -/
import Derived.Test.YtgjpjmolfdiahaaDoorAX4
import Derived.Shelf.Small.Wraps
import Derived.Shelf.Lay
import Derived.Ground.NamesProg
namespace Go.Proofs
open Go.Shelf
def Tryd.cutPrefix_ren : Go.Shelf.Ren := ⟨fun | 103 => 81 | 210 => 96 | 206 => 103 | n => n, fun | 9 => 9 | 4 => 4 | 24 => 86 | 3 => 3 | n => n, fun | n => n⟩
theorem Tryd.cutPrefix : Go.Proofs.Lays.n103 Tryd.prog Tryd.cutPrefix_ren := {
  mixed := by kernel_rfl
  f103 := Tryd.func81.trans (congrArg some (by kernel_rfl))
  f206 := Tryd.func103.trans (congrArg some (by kernel_rfl))
  f210 := Tryd.func96.trans (congrArg some (by kernel_rfl))
  t3 := Tryd.underlying3
  a3 := Tryd.isAgg3
  z3 := Tryd.sizeOf3
  v3 := Tryd.zeroValue3
  t4 := Tryd.underlying4
  a4 := Tryd.isAgg4
  z4 := Tryd.sizeOf4
  v4 := Tryd.zeroValue4
  t9 := Tryd.underlying9
  a9 := Tryd.isAgg9
  z9 := Tryd.sizeOf9
  v9 := Tryd.zeroValue9
  t24 := Tryd.underlying86
  a24 := Tryd.isAgg86
  z24 := Tryd.sizeOf86
  v24 := Tryd.zeroValue86 }
def Tryd.cutSuffix_ren : Go.Shelf.Ren := ⟨fun | 104 => 44 | 211 => 55 | 207 => 69 | n => n, fun | 9 => 9 | 4 => 4 | 24 => 86 | 3 => 3 | n => n, fun | n => n⟩
theorem Tryd.cutSuffix : Go.Proofs.Lays.n104 Tryd.prog Tryd.cutSuffix_ren := {
  mixed := by kernel_rfl
  f104 := Tryd.func44.trans (congrArg some (by kernel_rfl))
  f207 := Tryd.func69.trans (congrArg some (by kernel_rfl))
  f211 := Tryd.func55.trans (congrArg some (by kernel_rfl))
  t3 := Tryd.underlying3
  a3 := Tryd.isAgg3
  z3 := Tryd.sizeOf3
  v3 := Tryd.zeroValue3
  t4 := Tryd.underlying4
  a4 := Tryd.isAgg4
  z4 := Tryd.sizeOf4
  v4 := Tryd.zeroValue4
  t9 := Tryd.underlying9
  a9 := Tryd.isAgg9
  z9 := Tryd.sizeOf9
  v9 := Tryd.zeroValue9
  t24 := Tryd.underlying86
  a24 := Tryd.isAgg86
  z24 := Tryd.sizeOf86
  v24 := Tryd.zeroValue86 }
end Go.Proofs
namespace Go.Proofs.YtgjpjmolfdiahaaDoor
open Go.RowKit Go.Lib
set_option linter.unusedVariables false

/-- What a reader gives up by, at a line. -/
def Am.chn (ln e : Int) : List PanicEntry := [{ v := .iface 71 (.agg #[.int .i64 ln, .int .i64 e]), recovered := false }]
theorem Am.kc {W W' : World} {b : Nat} (g : W.grownBy W' none) (h : b < W.heap.size) (i : Nat) : W'.cell? ⟨b, i, none⟩ = W.cell? ⟨b, i, none⟩ := by
  have := g.block b h (by simp)
  simp [World.cell?, this]
theorem Am.giveup_any (b : Nat) (ln e : Int) (w : World) (h0 : w.cell? ⟨b, 0, none⟩ = some (.int .i64 ln)) : Calls Tryd.prog 47 #[.pointer (some ⟨b, 0, none⟩), .int .i64 e] w fun r w' => r = (.panicked (Am.chn ln e)) ∧ w = w' := by
  go_enter Tryd.func47, Tryd.ntmps47
  go_wp2
  exact ⟨rfl, rfl, rfl⟩
/-- A number, or giving up. -/
def Am.numP (o : Option Nat) (ln : Int) (w : World) (r : Ending) (w' : World) : Prop := (match o with | some n => r = .returned (.int .i64 n) | none => r = (.panicked (Am.chn ln 3))) ∧ w.grownBy w' none
theorem Am.number_any (b : Nat) (ln : Int) (s : ByteArray) (hs : s.size ≤ 100000) (m : Nat) (hm : m ≤ 65535) (w : World) (h0 : w.cell? ⟨b, 0, none⟩ = some (.int .i64 ln)) :
    Calls Tryd.prog 59 #[.pointer (some ⟨b, 0, none⟩), .string s, .int .i64 m] w (Am.numP (Am.num s.data.toList m) ln w) := by
  have hlt : b < w.heap.size := World.block_lt_of_cell? w _ h0
  have HD := Lib.hid (Am.decimal_any s hs m hm w)
  have HG := Lib.hid (fun (W : World) (q : w.grownBy W none) => Am.giveup_any b ln 3 W (by rw [Am.kc q hlt 0]; exact h0))
  cases e : Am.num s.data.toList m with
  | none =>
    have h := Am.num_none e
    rw [h.1, h.2] at HD
    clear e h h0
    unfold Am.numP
    go_enter Tryd.func59, Tryd.ntmps59
    go_wp2_with (first
      | (go_at_call 70; (with_reducible refine HD.out.mono ?_); rintro r w2 ⟨rfl, g2⟩; have G2 := Lib.hid g2; clear g2)
      | (go_at_call 47; (with_reducible refine (HG.out _ G2.out).mono ?_); rintro r w3 ⟨rfl, rfl⟩))
    exact ⟨rfl, rfl, G2.out⟩
  | some n =>
    have h := Am.num_some e
    rw [h.1, h.2] at HD
    clear e h h0
    unfold Am.numP
    go_enter Tryd.func59, Tryd.ntmps59
    go_wp2_with (first
      | (go_at_call 70; (with_reducible refine HD.out.mono ?_); rintro r w2 ⟨rfl, g2⟩; have G2 := Lib.hid g2; clear g2)
      | (go_at_call 47; (with_reducible refine (HG.out _ G2.out).mono ?_); rintro r w3 ⟨rfl, rfl⟩))
    go_ret
    exact ⟨rfl, G2.out⟩
end Go.Proofs.YtgjpjmolfdiahaaDoor
