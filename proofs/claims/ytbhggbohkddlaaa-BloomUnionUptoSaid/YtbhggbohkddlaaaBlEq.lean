/- Two filters, compared. -/
import Derived.Test.YtbhggbohkddlaaaBlBase
import Derived.Laws.StructEq
namespace Go.Proofs.Ytbhggbohkddlaaa
open Go.RowKit
set_option linter.unusedVariables false

theorem fil_eql (w : World) (a b c d a' b' c' d' : Nat) : (binOp .eql 23 (.agg #[.int .u64 (a : Int), .int .u64 (b : Int), .int .u64 (c : Int), .int .u64 (d : Int)]) (.agg #[.int .u64 (a' : Int), .int .u64 (b' : Int), .int .u64 (c' : Int), .int .u64 (d' : Int)])).run Try.prog w = .ok (.bool (decide (a = a' ∧ b = b' ∧ c = c' ∧ d = d'))) w := by
  rw [run_eql_struct]
  unfold Op.equalIn
  simp [go_sem]
  rw [show List.range' 0 4 = [0, 1, 2, 3] from rfl]
  have hi : ∀ w, (isAgg 22).run Try.prog w = .ok false w := fun w => by kernel_rfl
  by_cases h1 : a = a'
  · by_cases h2 : b = b'
    · by_cases h3 : c = c'
      · by_cases h4 : d = d'
        · simp [go_sem, hi, List.forIn_cons, List.forIn_nil, h1, h2, h3, h4]
        · simp [go_sem, hi, List.forIn_cons, List.forIn_nil, h1, h2, h3, h4]
          omega
      · simp [go_sem, hi, List.forIn_cons, List.forIn_nil, h1, h2, h3]
        omega
    · simp [go_sem, hi, List.forIn_cons, List.forIn_nil, h1, h2]
      omega
  · simp [go_sem, hi, List.forIn_cons, List.forIn_nil, h1]
    omega
theorem four_iff (f g : Bl.F) : (f 0 = g 0 ∧ f 1 = g 1 ∧ f 2 = g 2 ∧ f 3 = g 3) ↔ ∀ j, j < 4 → f j = g j := by
  constructor
  · rintro ⟨h0, h1, h2, h3⟩ j hj
    have : j = 0 ∨ j = 1 ∨ j = 2 ∨ j = 3 := by omega
    rcases this with rfl | rfl | rfl | rfl <;> assumption
  · intro h
    exact ⟨h 0 (by omega), h 1 (by omega), h 2 (by omega), h 3 (by omega)⟩
theorem guard_fil : Try.prog.eqGuardType Try.prog.depth 23 = false := by kernel_rfl
theorem guards_fil (op : BinOp) : ∀ w o o' xs ys, (eqGuard op 23 o o' (.agg xs) (.agg ys)).run Try.prog w = .ok () w := fun w o o' xs ys => run_eqGuard_agg (P := Try.prog) w op 23 o o' xs ys guard_fil
end Go.Proofs.Ytbhggbohkddlaaa
