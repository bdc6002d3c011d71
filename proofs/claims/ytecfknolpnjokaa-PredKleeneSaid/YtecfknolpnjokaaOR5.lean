/- The walks of hypostyleref.maySet, HasMay, leafSet. -/
import Derived.Test.YtecfknolpnjokaaOW8
import Derived.Test.YtecfknolpnjokaaQ3
namespace Go.Proofs.Ytecfknolpnjokaa
open Go.RowKit
set_option linter.unusedVariables false

set_option maxHeartbeats 1000000 in
theorem maySet_any (a b c : Bool) (w : World) : Calls Try.prog 64 #[.bool a, .bool b, .bool c] w (ValPost (.int .i64 (O.ms a b c : Nat)) w) := by
  cases a <;> cases b <;> cases c
  all_goals
    go_enter Try.func64, Try.ntmps64
    go_wp2_with fail
    go_ret
    exact ⟨rfl, rfl⟩
theorem has8 : ∀ s : Fin 8, ∀ t : Fin 3, (((s.val : Int) / 2 ^ t.val % 2 == 1) = O.has s.val t.val) ∧ ((Int.tmod ((s.val : Int) / 2 ^ t.val) 2 == 1) = O.has s.val t.val) := by decide +kernel
set_option maxHeartbeats 1000000 in
theorem hasMay_any (s t : Nat) (w : World) (hs : s < 8) (ht : t ≤ 2) : Calls Try.prog 17 #[.int .i64 s, .int .i64 t] w (ValPost (.bool (O.has s t)) w) := by
  obtain ⟨h1, h2⟩ := has8 ⟨s, hs⟩ ⟨t, by omega⟩
  simp only at h1 h2
  generalize O.has s t = b at *
  rcases O.three t ht with rfl | rfl | rfl
  all_goals
    go_enter Try.func17, Try.ntmps17
    go_wp2_with fail
    go_ret
    refine ⟨?_, rfl⟩
    first
      | rfl
      | (simp at h1 h2 ⊢; first | exact h2 | exact h1 | (rw [h2]) | (rw [h1]))
end Go.Proofs.Ytecfknolpnjokaa
