/- The walks of pred.parts, whether, only, empty, joined. -/
import Derived.Test.YtecfknolpnjokaaOBase
namespace Go.Proofs.Ytecfknolpnjokaa
open Go.RowKit
set_option linter.unusedVariables false

set_option maxHeartbeats 1000000 in
theorem parts_any (op : Int) (w : World) : Calls Try.prog 34 #[.int .i64 op] w (ValPost (.int .i64 (O.parts op : Nat)) w) := by
  rcases O.parts_cases op with ⟨hp, h5, h6, h7⟩ | ⟨hp, rfl⟩ | ⟨hp, rfl | rfl⟩
  · rw [hp]
    go_enter Try.func34, Try.ntmps34
    go_wp2_with fail
    go_ret
    exact ⟨rfl, rfl⟩
  all_goals
    go_enter Try.func34, Try.ntmps34
    go_wp2_with fail
    go_ret
    exact ⟨rfl, rfl⟩

theorem whether_any (b : Bool) (w : World) : Calls Try.prog 52 #[.bool b] w (ValPost (.int .i64 ((if b = true then 2 else 0 : Nat) : Int)) w) := by
  cases b
  all_goals
    go_enter Try.func52, Try.ntmps52
    go_wp2_with fail
    go_ret
    exact ⟨rfl, rfl⟩

theorem only_any (t : Nat) (w : World) (h : t ≤ 2) : Calls Try.prog 61 #[.int .i64 t] w (ValPost (.int .i64 (2 ^ t : Nat)) w) := by
  rcases O.three t h with rfl | rfl | rfl
  all_goals
    go_enter Try.func61, Try.ntmps61
    go_wp2_with fail
    go_ret
    exact ⟨rfl, rfl⟩

set_option maxHeartbeats 1000000 in
theorem joined_any (op : Int) (a b : Nat) (w : World) (ha : a ≤ 2) (hb : b ≤ 2) : Calls Try.prog 26 #[.int .i64 op, .int .i64 a, .int .i64 b] w (ValPost (.int .i64 (O.jo op a b : Nat)) w) := by
  by_cases h5 : op = 5
  · subst h5
    rcases O.three a ha with rfl | rfl | rfl <;> rcases O.three b hb with rfl | rfl | rfl
    all_goals
      go_enter Try.func26, Try.ntmps26
      go_wp2_with fail
      go_ret
      exact ⟨rfl, rfl⟩
  by_cases h6 : op = 6
  · subst h6
    rcases O.three a ha with rfl | rfl | rfl <;> rcases O.three b hb with rfl | rfl | rfl
    all_goals
      go_enter Try.func26, Try.ntmps26
      go_wp2_with fail
      go_ret
      exact ⟨rfl, rfl⟩
  · have hj : O.jo op a b = 2 - a := by unfold O.jo; rw [if_neg h5, if_neg h6]
    rw [hj]
    rcases O.three a ha with rfl | rfl | rfl
    all_goals
      go_enter Try.func26, Try.ntmps26
      go_wp2_with fail
      go_ret
      exact ⟨rfl, rfl⟩

set_option maxHeartbeats 1000000 in
set_option maxRecDepth 100000 in
theorem empty_any (c : C.Cl) (w : World) : Calls Try.prog 58 #[cag c] w (CErrPost (if c ≠ C.null then 1 else 0) w) := by
  obtain ⟨k, n, t⟩ := c
  have hgd := guards_cell .neq
  have hne : ∀ W, (binOp .neq 38 (.agg #[.int .i64 k, .int .u64 (n : Int), .string (str t)]) (.agg #[.int .i64 0, .int .u64 0, .string ⟨#[]⟩])).run Try.prog W = .ok (.bool (decide ((⟨k, n, t⟩ : C.Cl) ≠ C.null))) W := fun W => cneq k n t 0 0 [] W
  have hal : Below w.heap.size w (w.alloc (.cells #[.int .i64 k, .int .u64 (n : Int), .string (str t)] 38)) := (Below.refl _ _).alloc (Nat.le_refl _) _
  unfold cag
  simp only
  by_cases h : (⟨k, n, t⟩ : C.Cl) ≠ C.null
  · rw [if_pos h]
    rw [decide_eq_true h] at hne
    generalize str t = X at *
    clear h
    go_enter Try.func58, Try.ntmps58
    go_wp2_with fail
    go_ret
    exact ⟨rfl, hal⟩
  · rw [if_neg h]
    rw [decide_eq_false h] at hne
    generalize str t = X at *
    clear h
    go_enter Try.func58, Try.ntmps58
    go_wp2_with fail
    go_ret
    exact ⟨rfl, hal⟩
end Go.Proofs.Ytecfknolpnjokaa
