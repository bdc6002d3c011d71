/- The walks of rank.fit and of what is made of marks. -/
import Derived.Test.YthmlafoceacliaaMW1
namespace Go.Proofs.Ythmlafoceacliaa
open Go.RowKit
set_option linter.unusedVariables false

set_option maxHeartbeats 400000 in
theorem mkAnd (a : Option Addr) (c : Nat) (l : List Bool) (w : World) (B' : Nat) (hl : l.length ≤ 64) (hu : Bools w B' a l) :
    Calls Try.prog 30 #[.slice a l.length c] w fun e w' => e = .returned (.bool (M.mAnd l)) ∧ w = w' := by
  have HC := Lib.hid (count_any a c l w B' (by unfold maxLen; omega) hu)
  have HM := Lib.hid (show M.mAnd l = ((M.cnt l : Int) == (l.length : Int)) by
    rw [Bool.eq_iff_iff]; simp [M.mAnd]; omega)
  rw [HM.out]
  generalize M.cnt l = n at *
  go_enter Try.func30, Try.ntmps30
  go_wp2_with fail
  refine (HC.out).mono ?_
  rintro e w1 ⟨rfl, rfl⟩
  go_wp2_with fail
  go_ret
  exact ⟨rfl, rfl⟩
set_option maxHeartbeats 400000 in
theorem mkOr (a : Option Addr) (c : Nat) (l : List Bool) (w : World) (B' : Nat) (hl : l.length ≤ 64) (hu : Bools w B' a l) :
    Calls Try.prog 31 #[.slice a l.length c] w fun e w' => e = .returned (.bool (M.mOr l)) ∧ w = w' := by
  have HC := Lib.hid (count_any a c l w B' (by unfold maxLen; omega) hu)
  unfold M.mOr
  generalize M.cnt l = n at *
  go_enter Try.func31, Try.ntmps31
  go_wp2_with fail
  refine (HC.out).mono ?_
  rintro e w1 ⟨rfl, rfl⟩
  go_wp2_with fail
  go_ret
  exact ⟨rfl, rfl⟩
set_option maxHeartbeats 400000 in
theorem mkNot (a : Option Addr) (c : Nat) (l : List Bool) (w : World) (B' : Nat) (hl : l.length ≤ 64) (hu : Bools w B' a l) :
    Calls Try.prog 32 #[.slice a l.length c] w fun e w' => e = .returned (.bool (M.mNot l)) ∧ w = w' := by
  have HC := Lib.hid (count_any a c l w B' (by unfold maxLen; omega) hu)
  have HM := Lib.hid (show M.mNot l = ((M.cnt l : Int) == 0) by
    rw [Bool.eq_iff_iff]; simp [M.mNot])
  rw [HM.out]
  generalize M.cnt l = n at *
  go_enter Try.func32, Try.ntmps32
  go_wp2_with fail
  refine (HC.out).mono ?_
  rintro e w1 ⟨rfl, rfl⟩
  go_wp2_with fail
  go_ret
  exact ⟨rfl, rfl⟩

def fit2 (n m : Nat) : Nat := if 64 < n ∨ 64 < m then 2 else if n ≠ m then 1 else 0

set_option maxHeartbeats 1000000 in
theorem fit_two (g n m c d cp : Nat) (a b : Option Addr) (w : World)
    (h0 : w.cell? ⟨g, 0, none⟩ = some (.slice a n c)) (h1 : w.cell? ⟨g, 1, none⟩ = some (.slice b m d)) :
    Calls Try.prog 38 #[.slice (some ⟨g, 0, none⟩) 2 cp] w (IntPost (fit2 n m) w) := by
  by_cases hn : 64 < n
  · have HR := Lib.hid (show fit2 n m = 2 by rw [fit2, if_pos (Or.inl hn)])
    go_enter Try.func38, Try.ntmps38
    go_wp2_with fail
    refine wp_loop_rounds 1 ?_
    rw [rounds_succ]
    go_wp2_with fail
    go_ret
    rw [HR.out]; exact ⟨rfl, rfl⟩
  by_cases hm : 64 < m
  · have HR := Lib.hid (show fit2 n m = 2 by rw [fit2, if_pos (Or.inr hm)])
    have hn' : n ≤ 64 := by omega
    clear hn
    go_enter Try.func38, Try.ntmps38
    go_wp2_with fail
    refine wp_loop_rounds 2 ?_
    rw [rounds_succ]
    go_wp2_with fail
    rw [rounds_succ]
    go_wp2_with fail
    go_ret
    rw [HR.out]; exact ⟨rfl, rfl⟩
  have hn' : n ≤ 64 := by omega
  have hm' : m ≤ 64 := by omega
  have g0 : ((n : Int) != (n : Int)) = false := by simp
  by_cases hq : n = m
  · have HR := Lib.hid (show fit2 n m = 0 by rw [fit2, if_neg (by omega), if_neg (by omega)])
    have g2 : ((m : Int) != (n : Int)) = false := by rw [hq]; simp
    clear hn hm hq
    go_enter Try.func38, Try.ntmps38
    go_wp2_with fail
    refine wp_loop_rounds 3 ?_
    rw [rounds_succ]
    go_wp2_with fail
    rw [rounds_succ]
    go_wp2_with fail
    rw [rounds_succ]
    go_wp2_with fail
    refine wp_loop_rounds 3 ?_
    rw [rounds_succ]
    go_wp2_with fail
    rw [rounds_succ]
    go_wp2_with fail
    rw [rounds_succ]
    go_wp2_with fail
    go_ret
    rw [HR.out]; exact ⟨rfl, rfl⟩
  · have HR := Lib.hid (show fit2 n m = 1 by rw [fit2, if_neg (by omega), if_pos hq])
    have g2 : ((m : Int) != (n : Int)) = true := by rw [bne_iff_ne]; omega
    clear hn hm hq
    go_enter Try.func38, Try.ntmps38
    go_wp2_with fail
    refine wp_loop_rounds 3 ?_
    rw [rounds_succ]
    go_wp2_with fail
    rw [rounds_succ]
    go_wp2_with fail
    rw [rounds_succ]
    go_wp2_with fail
    refine wp_loop_rounds 2 ?_
    rw [rounds_succ]
    go_wp2_with fail
    rw [rounds_succ]
    go_wp2_with fail
    go_ret
    rw [HR.out]; exact ⟨rfl, rfl⟩

def fit1 (n : Nat) : Nat := if 64 < n then 2 else 0
set_option maxHeartbeats 1000000 in
theorem fit_one (g n c cp : Nat) (a : Option Addr) (w : World)
    (h0 : w.cell? ⟨g, 0, none⟩ = some (.slice a n c)) :
    Calls Try.prog 38 #[.slice (some ⟨g, 0, none⟩) 1 cp] w (IntPost (fit1 n) w) := by
  by_cases hn : 64 < n
  · have HR := Lib.hid (show fit1 n = 2 by rw [fit1, if_pos hn])
    go_enter Try.func38, Try.ntmps38
    go_wp2_with fail
    refine wp_loop_rounds 1 ?_
    rw [rounds_succ]
    go_wp2_with fail
    go_ret
    rw [HR.out]; exact ⟨rfl, rfl⟩
  have hn' : n ≤ 64 := by omega
  have g0 : ((n : Int) != (n : Int)) = false := by simp
  have HR := Lib.hid (show fit1 n = 0 by rw [fit1, if_neg (by omega)])
  clear hn
  go_enter Try.func38, Try.ntmps38
  go_wp2_with fail
  refine wp_loop_rounds 2 ?_
  rw [rounds_succ]
  go_wp2_with fail
  rw [rounds_succ]
  go_wp2_with fail
  refine wp_loop_rounds 2 ?_
  rw [rounds_succ]
  go_wp2_with fail
  rw [rounds_succ]
  go_wp2_with fail
  go_ret
  rw [HR.out]; exact ⟨rfl, rfl⟩
end Go.Proofs.Ythmlafoceacliaa
