/- What is known of two columns, compared. -/
import Derived.Test.YtgkhkfmlldnogaaSBase
import Derived.Test.YtgkhkfmlldnogaaTStr
import Derived.Laws.StructEq
namespace Go.Proofs.Ytgkhkfmlldnogaa
open Go.RowKit
set_option linter.unusedVariables false

set_option maxHeartbeats 4000000 in
theorem stats_eql_stats (w : World) (s t : S.St) : (binOp .eql 27 (sag s) (sag t)).run Try.prog w = .ok (.bool (decide (s = t))) w := by
  have hs : Try.prog.stoodInHeld 27 = false := by kernel_rfl
  unfold sag
  rw [run_eql_struct, run_equalIn_agg w 9999 27 _ _ (by kernel_rfl) hs]
  obtain ⟨a1, a2, ⟨a3, a4, a5⟩, ⟨a6, a7, a8⟩⟩ := s
  obtain ⟨b1, b2, ⟨b3, b4, b5⟩, ⟨b6, b7, b8⟩⟩ := t
  simp only
  simp [Program.fieldsOf, Try.underlying27, Try.underlying25, Op.eqFields, go_sem]
  rw [str_toList, str_toList, str_toList, str_toList]
  by_cases h1 : a1 = b1
  · by_cases h2 : a2 = b2
    · by_cases h3 : a3 = b3
      · by_cases h4 : a4 = b4
        · by_cases h5 : a5 = b5
          · by_cases h6 : a6 = b6
            · by_cases h7 : a7 = b7
              · by_cases h8 : a8 = b8
                · simp [h1, h2, h3, h4, h5, h6, h7, h8]
                · simp [h1, h2, h3, h4, h5, h6, h7, h8]
              · have h7' : ¬ (a7 : Int) = (b7 : Int) := by omega
                simp [h1, h2, h3, h4, h5, h6, h7, h7']
            · simp [h1, h2, h3, h4, h5, h6]
          · simp [h1, h2, h3, h4, h5]
        · have h4' : ¬ (a4 : Int) = (b4 : Int) := by omega
          simp [h1, h2, h3, h4, h4']
      · simp [h1, h2, h3]
    · simp [h1, h2]
  · simp [h1]
set_option maxHeartbeats 4000000 in
theorem stats_neq_stats (w : World) (s t : S.St) : (binOp .neq 27 (sag s) (sag t)).run Try.prog w = .ok (.bool (decide (s ≠ t))) w := by
  have hs : Try.prog.stoodInHeld 27 = false := by kernel_rfl
  unfold sag
  rw [run_neq_struct, run_equalIn_agg w 9999 27 _ _ (by kernel_rfl) hs]
  obtain ⟨a1, a2, ⟨a3, a4, a5⟩, ⟨a6, a7, a8⟩⟩ := s
  obtain ⟨b1, b2, ⟨b3, b4, b5⟩, ⟨b6, b7, b8⟩⟩ := t
  simp only
  simp [Program.fieldsOf, Try.underlying27, Try.underlying25, Op.eqFields, go_sem]
  rw [str_toList, str_toList, str_toList, str_toList]
  by_cases h1 : a1 = b1
  · by_cases h2 : a2 = b2
    · by_cases h3 : a3 = b3
      · by_cases h4 : a4 = b4
        · by_cases h5 : a5 = b5
          · by_cases h6 : a6 = b6
            · by_cases h7 : a7 = b7
              · by_cases h8 : a8 = b8
                · simp [h1, h2, h3, h4, h5, h6, h7, h8]
                · simp [h1, h2, h3, h4, h5, h6, h7, h8]
              · have h7' : ¬ (a7 : Int) = (b7 : Int) := by omega
                simp [h1, h2, h3, h4, h5, h6, h7, h7']
            · simp [h1, h2, h3, h4, h5, h6]
          · simp [h1, h2, h3, h4, h5]
        · have h4' : ¬ (a4 : Int) = (b4 : Int) := by omega
          simp [h1, h2, h3, h4, h4']
      · simp [h1, h2, h3]
    · simp [h1, h2]
  · simp [h1]
theorem guard_stats : Try.prog.eqGuardType Try.prog.depth 27 = false := by kernel_rfl
theorem guards_stats (op : BinOp) : ∀ w o o' xs ys, (eqGuard op 27 o o' (.agg xs) (.agg ys)).run Try.prog w = .ok () w := fun w o o' xs ys => run_eqGuard_agg (P := Try.prog) w op 27 o o' xs ys guard_stats
end Go.Proofs.Ytgkhkfmlldnogaa
