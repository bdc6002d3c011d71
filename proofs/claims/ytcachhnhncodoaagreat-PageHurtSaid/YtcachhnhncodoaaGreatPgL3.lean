/- A byte that came in (for PageHurt's step). -/
import Derived.Test.YtcachhnhncodoaaGreatPgL2
namespace Go.Proofs.YtcachhnhncodoaaGreat
open Go.RowKit
set_option linter.unusedVariables false

theorem nat_u8 {a : Int} (h : (Lit.int .u8 a).wf = true) : ∃ n : Nat, a = n ∧ n < 256 := by
  have hb : 0 ≤ a ∧ a ≤ 255 := by simpa [Lit.wf, IntKind.min, IntKind.max, IntKind.signed, IntKind.bits] using h
  exact ⟨a.toNat, by omega, by omega⟩
end Go.Proofs.YtcachhnhncodoaaGreat
