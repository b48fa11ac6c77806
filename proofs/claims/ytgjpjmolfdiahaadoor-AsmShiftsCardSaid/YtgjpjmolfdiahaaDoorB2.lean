/- The reader of package bits: each call by its contract. -/
import Derived.Test.YtgjpjmolfdiahaaDoorB1
namespace Go.Proofs.YtgjpjmolfdiahaaDoor
open Go.RowKit Go.Lib
set_option linter.unusedVariables false

/-- What Text(n) does of a reader that stands at p of s, with the error e: the answer, the place, the error. -/
def rdText (s : ByteArray) (p : Nat) (e n : Int) : ByteArray × Nat × Int :=
  if e ≠ 0 then (.empty, p, e) else if n < 0 then (.empty, p, 2) else if (s.size : Int) - p < n then (.empty, p, 5) else (s.extract p (p + n.toNat), p + n.toNat, 0)

theorem failed_any (b o : Nat) (e : Int) (w : World) (h : w.cell? ⟨b, o, none⟩ = some (.int .i64 e)) : Calls Tryd.prog 98 #[.pointer (some ⟨b, o, none⟩)] w fun r w' => r = .returned (.bool (e != 0)) ∧ w = w' := by
  go_enter Tryd.func98, Tryd.ntmps98
  go_wp2
  go_ret
  exact ⟨rfl, rfl⟩

theorem fail_any (b o : Nat) (e v : Int) (w : World) (h : w.cell? ⟨b, o, none⟩ = some (.int .i64 e)) (hf : w.frozen? ⟨b, o, none⟩ = false) : Calls Tryd.prog 104 #[.pointer (some ⟨b, o, none⟩), .int .i64 v] w fun r w' => r = .returned (.tuple #[]) ∧ w.setCell ⟨b, o, none⟩ (.int .i64 v) = w' := by
  go_enter Tryd.func104, Tryd.ntmps104
  go_wp2
  go_end0
  exact ⟨rfl, rfl⟩

/-- What Byte() and Two() tell of the bytes that were read. -/
def byteOf (t : ByteArray) : Int := if h : 0 < t.size then (t[0].toNat : Int) else 0
def twoOf (t : ByteArray) : Int := if h : 1 < t.size then (t[0].toNat : Int) + (256 : Int) * (t[1].toNat : Int) else 0

theorem rtwo_bytes (t : ByteArray) (h : 1 < t.size) : twoOf t = ((t[0].toNat : Int) % (256 : Int) + (256 : Int) * ((t[1].toNat : Int) % (256 : Int))) := by
  have h0 := t[0].toNat_lt
  have h1 := t[1].toNat_lt
  simp only [twoOf, h, dite_true]
  omega

def leftOf (s : ByteArray) (p : Nat) (e : Int) : Int := if e = 0 then (s.size : Int) - p else 0

end Go.Proofs.YtgjpjmolfdiahaaDoor
