/- Two cells, compared. -/
import Derived.Test.YtgkhkfmlldnogaaCBase
import Derived.Test.YtgkhkfmlldnogaaTStr
import Derived.Laws.StructEq
namespace Go.Proofs.Ytgkhkfmlldnogaa
open Go.RowKit
set_option linter.unusedVariables false

theorem cell_neq_cell (w : World) (c d : C.Cl) : (binOp .neq 25 (cag c) (cag d)).run Try.prog w = .ok (.bool (decide (c ≠ d))) w := by
  have hs : Try.prog.stoodInHeld 25 = false := by kernel_rfl
  unfold cag
  rw [run_neq_struct, run_equalIn_agg w 9999 25 _ _ (by kernel_rfl) hs]
  obtain ⟨a1, a2, a3⟩ := c
  obtain ⟨b1, b2, b3⟩ := d
  simp only
  simp [Program.fieldsOf, Try.underlying25, Op.eqFields, go_sem]
  rw [str_toList, str_toList]
  by_cases h1 : a1 = b1
  · by_cases h2 : a2 = b2
    · by_cases h3 : a3 = b3
      · simp [h1, h2, h3]
      · simp [h1, h2, h3]
    · have h2' : ¬ (a2 : Int) = (b2 : Int) := by omega
      simp [h1, h2, h2']
  · simp [h1]
theorem cell_eql_cell (w : World) (c d : C.Cl) : (binOp .eql 25 (cag c) (cag d)).run Try.prog w = .ok (.bool (decide (c = d))) w := by
  have hs : Try.prog.stoodInHeld 25 = false := by kernel_rfl
  unfold cag
  rw [run_eql_struct, run_equalIn_agg w 9999 25 _ _ (by kernel_rfl) hs]
  obtain ⟨a1, a2, a3⟩ := c
  obtain ⟨b1, b2, b3⟩ := d
  simp only
  simp [Program.fieldsOf, Try.underlying25, Op.eqFields, go_sem]
  rw [str_toList, str_toList]
  by_cases h1 : a1 = b1
  · by_cases h2 : a2 = b2
    · by_cases h3 : a3 = b3
      · simp [h1, h2, h3]
      · simp [h1, h2, h3]
    · have h2' : ¬ (a2 : Int) = (b2 : Int) := by omega
      simp [h1, h2, h2']
  · simp [h1]
theorem guard_cell : Try.prog.eqGuardType Try.prog.depth 25 = false := by kernel_rfl
theorem guards_cell (op : BinOp) : ∀ w o o' xs ys, (eqGuard op 25 o o' (.agg xs) (.agg ys)).run Try.prog w = .ok () w := fun w o o' xs ys => run_eqGuard_agg (P := Try.prog) w op 25 o o' xs ys guard_cell
end Go.Proofs.Ytgkhkfmlldnogaa
