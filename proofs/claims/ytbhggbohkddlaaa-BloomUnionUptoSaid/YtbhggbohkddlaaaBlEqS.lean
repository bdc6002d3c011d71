/- A filter is itself. -/
import Derived.Test.YtbhggbohkddlaaaBlEq
namespace Go.Proofs.Ytbhggbohkddlaaa
open Go.RowKit
set_option linter.unusedVariables false

theorem two_iter {X Y : Bl.F} (h : ∀ j, j < 4 → X j = Y j) : (X 0 = Y 0 ∧ X 1 = Y 1 ∧ X 2 = Y 2 ∧ X 3 = Y 3) := (four_iff X Y).2 h
theorem eql_self (X : Bl.F) (w : World) : (binOp .eql 23 (.agg #[.int .u64 (X 0 : Nat), .int .u64 (X 1 : Nat), .int .u64 (X 2 : Nat), .int .u64 (X 3 : Nat)]) (.agg #[.int .u64 (X 0 : Nat), .int .u64 (X 1 : Nat), .int .u64 (X 2 : Nat), .int .u64 (X 3 : Nat)])).run Try.prog w = .ok (.bool true) w := by
  rw [fil_eql, decide_eq_true (two_iter (fun _ _ => rfl))]
end Go.Proofs.Ytbhggbohkddlaaa
