/- The walk of hypostyleref.pow2, for seats that have no package bits. -/
import Derived.Test.YtmjcdjekakaigaaBaseC
namespace Go.Proofs.Ytmjcdjekakaigaa
open Go.RowKit
set_option linter.unusedVariables false

set_option maxHeartbeats 400000 in
theorem pow2_any (k : Nat) (w : World) (hk : k < 64) :
    Calls Try.prog 32 #[.int .i64 k] w fun e w' => e = .returned (.int .u64 ((2 ^ k : Nat) : Int)) ∧ w = w' := by
  go_enter Try.func32, Try.ntmps32
  go_wp2_with fail
  go_loop [3, 4] (fun n i => ∃ j : Nat, j ≤ k ∧ i = .int .i64 j ∧ n = .int .u64 ((2 ^ j : Nat) : Int)) (fun _ i => k - (intOf i).toNat)
  case atStart => exact ⟨0, by omega, rfl, rfl⟩
  case round =>
    obtain ⟨j, hj, rfl, rfl⟩ := hrel
    by_cases hlt : j < k
    · have hp : 2 ^ j * 2 < 18446744073709551616 := by
        have : 2 ^ (j + 1) ≤ 2 ^ 63 := Nat.pow_le_pow_right (by omega) (by omega)
        rw [Nat.pow_succ] at this; omega
      have HP := Lib.hid (Nat.pow_succ 2 j)
      generalize 2 ^ j = P at *
      go_wp2_with fail
      exact ⟨⟨j + 1, by omega, by go_num, by rw [HP.out]; simp⟩, by simp [intOf]; omega⟩
    · obtain rfl : j = k := by omega
      go_wp2_with fail
      go_ret
      exact ⟨rfl, rfl⟩

end Go.Proofs.Ytmjcdjekakaigaa
