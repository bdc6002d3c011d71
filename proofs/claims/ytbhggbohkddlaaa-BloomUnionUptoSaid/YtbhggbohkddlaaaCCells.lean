/- The walk of cells. -/
import Derived.Test.YtbhggbohkddlaaaCBase
namespace Go.Proofs.Ytbhggbohkddlaaa
open Go.RowKit
set_option linter.unusedVariables false

theorem ccells_any (v : Value) (w : World) : Calls Try.prog 11 #[v] w (ValPost v w) := by
  go_enter Try.func11, Try.ntmps11
  go_wp2_with fail
  go_ret
  exact ⟨rfl, rfl⟩
def CellPost (v : Value) (w : World) (e : Ending) (w' : World) : Prop := e = .returned v ∧ Below w.heap.size w w'
end Go.Proofs.Ytbhggbohkddlaaa
