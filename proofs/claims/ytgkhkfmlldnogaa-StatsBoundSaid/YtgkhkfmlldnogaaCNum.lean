/- The walks of cNum, cells. -/
import Derived.Test.YtgkhkfmlldnogaaCBase
namespace Go.Proofs.Ytgkhkfmlldnogaa
open Go.RowKit
set_option linter.unusedVariables false

theorem ccells_any (v : Value) (w : World) : Calls Try.prog 23 #[v] w (ValPost v w) := by
  go_enter Try.func23, Try.ntmps23
  go_wp2_with fail
  go_ret
  exact ⟨rfl, rfl⟩
def CellPost (v : Value) (w : World) (e : Ending) (w' : World) : Prop := e = .returned v ∧ Below w.heap.size w w'
set_option maxHeartbeats 1000000 in
set_option maxRecDepth 100000 in
theorem cnum_any (n : Int) (w : World) : Calls Try.prog 24 #[.int .u64 n] w (CellPost (.agg #[.int .i64 1, .int .u64 n, .string ⟨#[]⟩]) w) := by
  have q0 := tri_new w (.int .i64 0) (.int .u64 0) (.string ByteArray.empty)
  have hal : Below w.heap.size w (w.alloc (.cells #[.int .i64 0, .int .u64 0, .string ByteArray.empty] 25)) := (Below.refl _ _).alloc (Nat.le_refl _) _
  go_enter Try.func24, Try.ntmps24
  go_wp2_with fail
  refine bodyPost_ret (v := .agg #[.int .i64 1, .int .u64 n, .string ⟨#[]⟩]) (by simp [results, Try.results24, go_sem]) rfl ⟨rfl, ?_⟩
  exact (Below.refl _ _).alloc (Nat.le_refl _) _

end Go.Proofs.Ytgkhkfmlldnogaa
