/- Two runs, compared. -/
import Derived.Test.YthmlafoceacliabRBase
import Derived.Laws.StructEq
namespace Go.Proofs.Ythmlafoceacliab
open Go.RowKit
set_option linter.unusedVariables false

theorem run_neq_run (w : World) (x y x' y' : Int) : (binOp .neq 42 (.agg #[.int .u64 x, .int .i64 y]) (.agg #[.int .u64 x', .int .i64 y'])).run Try.prog w = .ok (.bool (!(x == x' && y == y'))) w := by
  have hs : Try.prog.stoodInHeld 42 = false := by kernel_rfl
  rw [run_neq_struct, run_equalIn_agg w 9999 42 _ _ (by kernel_rfl) hs]
  simp [Program.fieldsOf, Try.underlying42, Op.eqFields, go_sem]
  by_cases h1 : x = x' <;> by_cases h2 : y = y' <;> simp [h1, h2]
theorem run_neq_yes (w : World) (x y x' y' : Int) (h : ¬ (x = x' ∧ y = y')) : (binOp .neq 42 (.agg #[.int .u64 x, .int .i64 y]) (.agg #[.int .u64 x', .int .i64 y'])).run Try.prog w = .ok (.bool true) w := by
  rw [run_neq_run]
  have : (x == x' && y == y') = false := by rw [Bool.eq_false_iff]; simpa using h
  rw [this]; rfl
theorem run_neq_no (w : World) (x y : Int) : (binOp .neq 42 (.agg #[.int .u64 x, .int .i64 y]) (.agg #[.int .u64 x, .int .i64 y])).run Try.prog w = .ok (.bool false) w := by
  rw [run_neq_run]; simp
theorem guard_run : Try.prog.eqGuardType Try.prog.depth 42 = false := by kernel_rfl
end Go.Proofs.Ythmlafoceacliab
