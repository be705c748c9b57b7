/-
  '==' of two arrays of four ints that are one.
-/
import Derived.Test.YtegmhdopkehgeaaWLeaf
import Derived.Laws.StructEq
namespace Go.Proofs.Ytegmhdopkehgeaa
open Go.RowKit

theorem info_cells : (Try.prog.info? 3).map (·.size) = some 1 := by kernel_rfl
theorem eq_four_in (dp : Nat) (a b c d : Int) (w : World) (h9 : ∀ x : Int, (Op.equalIn dp 3 (.int .i64 x) (.int .i64 x)).run Try.prog w = .ok true w) :
    (Op.equalIn (dp + 1) 24 (.agg #[.int .i64 a, .int .i64 b, .int .i64 c, .int .i64 d]) (.agg #[.int .i64 a, .int .i64 b, .int .i64 c, .int .i64 d])).run Try.prog w = .ok true w := by
  obtain ⟨i, hi, hs⟩ := Option.map_eq_some_iff.1 info_cells
  simp only [Op.equalIn, Sem.run_bind, run_underlying Try.underlying24, Result.andThen_ok]
  simp [go_sem, sizeOf, typeInfo, hi, hs, Std.Legacy.Range.forIn_eq_forIn_range', Std.Legacy.Range.size, List.range', h9]
theorem eq_four (a b c d : Int) (w : World) : (Op.equalIn 10000 24 (.agg #[.int .i64 a, .int .i64 b, .int .i64 c, .int .i64 d]) (.agg #[.int .i64 a, .int .i64 b, .int .i64 c, .int .i64 d])).run Try.prog w = .ok true w :=
  eq_four_in 9999 a b c d w fun x => by
    have := run_equalIn_int (P := Try.prog) (w := w) 9998 3 .i64 .i64 x x Try.underlying3
    simpa using this
end Go.Proofs.Ytegmhdopkehgeaa
