/- Two levels, compared. -/
import Derived.Laws.StructEq
import Derived.Test.YtjfkoledbegpfaaBaseC
import Derived.Test.YtjfkoledbegpfaaShAl
namespace Go.Proofs.Ytjfkoledbegpfaa
open Go.RowKit
set_option linter.unusedVariables false

theorem level_neq (w : World) (a0 a1 a2 b0 b1 b2 : Int) : (binOp .neq 43 (.agg #[.int .i64 a0, .int .i64 a1, .int .u64 a2]) (.agg #[.int .i64 b0, .int .i64 b1, .int .u64 b2])).run Try.prog w = .ok (.bool (decide (¬ (a0 = b0 ∧ a1 = b1 ∧ a2 = b2)))) w := by
  have hs : Try.prog.stoodInHeld 43 = false := by kernel_rfl
  rw [run_neq_struct, run_equalIn_agg w 9999 43 _ _ (by kernel_rfl) hs]
  simp [Program.fieldsOf, Try.underlying43, Op.eqFields, go_sem]
  by_cases h1 : a0 = b0
  · by_cases h2 : a1 = b1
    · by_cases h3 : a2 = b2
      · simp [h1, h2, h3]
      · simp [h1, h2, h3]
    · simp [h1, h2]
  · simp [h1]
theorem guard_level : Try.prog.eqGuardType Try.prog.depth 43 = false := by kernel_rfl
theorem guards_level (op : BinOp) : ∀ w o o' xs ys, (eqGuard op 43 o o' (.agg xs) (.agg ys)).run Try.prog w = .ok () w := fun w o o' xs ys => run_eqGuard_agg (P := Try.prog) w op 43 o o' xs ys guard_level
end Go.Proofs.Ytjfkoledbegpfaa
