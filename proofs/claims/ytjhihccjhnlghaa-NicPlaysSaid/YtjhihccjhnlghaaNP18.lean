/- Frames that are the same. -/
import Derived.Test.YtjhihccjhnlghaaNP17
import Derived.Laws.StructEq
namespace Go.Proofs.Ytjhihccjhnlghaa
open Go.RowKit Go.Lib
theorem eq_frm (a b : Int) (s : ByteArray) (w : World) : (binOp BinOp.eql 46 (.agg #[.int .i64 a, .int .i64 b, .string s]) (.agg #[.int .i64 a, .int .i64 b, .string s])).run Try.prog w = .ok (.bool true) w := by
  rw [run_eql_struct, run_equalIn_agg w 9999 _ _ _ (by kernel_rfl) (by kernel_rfl)]
  have hf : (Try.prog.fieldsOf 46).toList.map (fun f => (f.name, f.type, f.offset)) = [("To", 3, 0), ("From", 3, 1), ("Data", 9, 2)] := by kernel_rfl
  generalize (Try.prog.fieldsOf 46).toList = fs at hf
  have hlen := congrArg List.length hf
  simp only [List.length_map, List.length_cons, List.length_nil] at hlen
  obtain ⟨f0, f1, f2, rfl⟩ : ∃ f0 f1 f2, fs = [f0, f1, f2] := by
    rcases fs with _ | ⟨f0, _ | ⟨f1, _ | ⟨f2, _ | ⟨f3, r⟩⟩⟩⟩
    · simp at hlen
    · simp at hlen
    · simp at hlen
    · exact ⟨f0, f1, f2, rfl⟩
    · simp at hlen
  simp only [List.map_cons, List.map_nil, List.cons.injEq, Prod.mk.injEq, and_true] at hf
  obtain ⟨⟨a1, a2, a3⟩, ⟨b1, b2, b3⟩, ⟨c1, c2, c3⟩⟩ := hf
  simp [Op.eqFields, a1, a2, a3, b1, b2, b3, c1, c2, c3, part, run_equalIn_int _ _ _ _ _ _ _ Try.underlying3, go_sem]
  done
end Go.Proofs.Ytjhihccjhnlghaa
