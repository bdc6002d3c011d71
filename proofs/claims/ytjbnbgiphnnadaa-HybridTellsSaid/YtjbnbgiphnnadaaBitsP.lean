/- The walk of hypostyleref.PackOf. -/
import Derived.Test.YtjbnbgiphnnadaaBitsW6
namespace Go.Proofs.Ytjbnbgiphnnadaa
open Go.RowKit
set_option linter.unusedVariables false

set_option maxHeartbeats 400000 in
theorem packed_zero (a : Option Addr) (c k n : Nat) (w : World) (hk : k ≤ 64) (hn : n ≤ 64) (h : k * n = 0) :
    Calls Try.prog 23 #[.slice a k c, .int .i64 n] w (TextPost [] w) := by
  have hmulI : ((k : Int) * (n : Int)) = ((k * n : Nat) : Int) := by simp
  rw [h] at hmulI
  clear h
  go_enter Try.func23, Try.ntmps23
  go_wp2_with fail
  refine wp_loop_rounds 1 ?_
  rw [rounds_succ]
  go_wp2_with fail
  go_ret
  exact ⟨rfl, Below.refl _ _⟩

theorem packed_any (a : Option Addr) (c : Nat) (l : List Nat) (n : Nat) (w : World) (hl : l.length ≤ 64) (hn2 : n ≤ 64) (hf : ∀ x ∈ l, x < 2 ^ n) (hx : ∀ x ∈ l, x < 18446744073709551616) (hu : Nums w w.heap.size a l) :
    Calls Try.prog 23 #[.slice a l.length c, .int .i64 n] w (TextPost (B.le (B.sz (l.length * n)) (B.pk n l)) w) := by
  by_cases h : l.length * n = 0
  · rw [h]; exact packed_zero a c _ n w hl hn2 h
  · have hn : 1 ≤ n := by
      rcases Nat.eq_zero_or_pos n with h0 | h0
      · rw [h0] at h; simp at h
      · exact h0
    have hne : l ≠ [] := by intro e; rw [e] at h; simp at h
    obtain ⟨b, off, rfl, hb, hc⟩ := hu hne
    exact packed_some b off c l n w hl hn hn2 hf hx hb hc

set_option maxHeartbeats 400000 in
theorem packOf_range (a : Option Addr) (c n : Nat) (wide : Int) (w : World) (h : wide < 0 ∨ 64 < wide) :
    Calls Try.prog 10 #[.slice a n c, .int .i64 wide] w (PackPost ([], 3) w) := by
  by_cases h0 : wide < 0
  · have g1 : decide (wide < 0) = true := by simp; omega
    go_enter Try.func10, Try.ntmps10
    go_wp2_with fail
    go_ret2
    exact ⟨rfl, Below.refl _ _⟩
  · have g1 : decide (wide < 0) = false := by simp; omega
    have g2 : decide (64 < wide) = true := by simp; omega
    go_enter Try.func10, Try.ntmps10
    go_wp2_with fail
    go_ret2
    exact ⟨rfl, Below.refl _ _⟩

set_option maxHeartbeats 400000 in
theorem packOf_many (a : Option Addr) (c n : Nat) (wide : Nat) (w : World) (h : wide ≤ 64) (hn : 64 < n) :
    Calls Try.prog 10 #[.slice a n c, .int .i64 wide] w (PackPost ([], 2) w) := by
  have g1 : decide ((wide : Int) < 0) = false := by simp
  have g2 : decide ((64 : Int) < (wide : Int)) = false := by simp; omega
  go_enter Try.func10, Try.ntmps10
  go_wp2_with fail
  go_ret2
  exact ⟨rfl, Below.refl _ _⟩

set_option maxHeartbeats 400000 in
theorem packOf_over (a : Option Addr) (c : Nat) (l : List Nat) (wide : Nat) (w : World) (B' : Nat) (h : wide ≤ 64) (hn : l.length ≤ 64) (hx : ∀ x ∈ l, x < 18446744073709551616) (hu : Nums w B' a l) (ho : wide < B.wd l) :
    Calls Try.prog 10 #[.slice a l.length c, .int .i64 wide] w (PackPost ([], 8) w) := by
  have g1 : decide ((wide : Int) < 0) = false := by simp
  have g2 : decide ((64 : Int) < (wide : Int)) = false := by simp; omega
  have HW := Lib.hid (rwidth_any a c l w B' (by unfold maxLen; omega) hx hu)
  have h64 := B.wd_64 l hx
  clear hx
  go_enter Try.func10, Try.ntmps10
  go_wp2_with fail
  refine (HW.out).mono ?_
  rintro e w1 ⟨rfl, rfl⟩
  go_wp2_with fail
  go_ret2
  exact ⟨rfl, Below.refl _ _⟩

set_option maxHeartbeats 400000 in
theorem packOf_ok (a : Option Addr) (c : Nat) (l : List Nat) (wide : Nat) (w : World) (h : wide ≤ 64) (hn : l.length ≤ 64) (hx : ∀ x ∈ l, x < 18446744073709551616) (hu : Nums w w.heap.size a l) (ho : B.wd l ≤ wide) :
    Calls Try.prog 10 #[.slice a l.length c, .int .i64 wide] w (PackPost (B.le (B.sz (l.length * wide)) (B.pk wide l), 0) w) := by
  have g1 : decide ((wide : Int) < 0) = false := by simp
  have g2 : decide ((64 : Int) < (wide : Int)) = false := by simp; omega
  have HW := Lib.hid (rwidth_any a c l w _ (by unfold maxLen; omega) hx hu)
  have HP := Lib.hid (packed_any a c l wide w hn h ((B.wd_le l wide).1 ho) hx hu)
  have h64 := B.wd_64 l hx
  clear hx
  generalize B.le (B.sz (l.length * wide)) (B.pk wide l) = t at *
  go_enter Try.func10, Try.ntmps10
  go_wp2_with fail
  refine (HW.out).mono ?_
  rintro e w1 ⟨rfl, rfl⟩
  go_wp2_with fail
  refine (HP.out).mono ?_
  rintro e w1 ⟨rfl, hb⟩
  go_wp2_with fail
  go_ret2
  exact ⟨rfl, hb⟩

theorem packOf_any (a : Option Addr) (c : Nat) (l : List Nat) (wide : Int) (w : World) (hx : ∀ x ∈ l, x < 18446744073709551616) (hu : Nums w w.heap.size a l) :
    Calls Try.prog 10 #[.slice a l.length c, .int .i64 wide] w (PackPost (packR l wide) w) := by
  by_cases h0 : wide < 0 ∨ 64 < wide
  · rw [packR, if_pos h0]; exact packOf_range a c _ wide w h0
  obtain ⟨n, rfl⟩ : ∃ n : Nat, wide = n := ⟨wide.toNat, by omega⟩
  rw [packR, if_neg h0]
  by_cases h1 : 64 < l.length
  · rw [if_pos h1]; exact packOf_many a c _ n w (by omega) h1
  rw [if_neg h1, Int.toNat_natCast]
  by_cases h2 : n < B.wd l
  · rw [if_pos h2]; exact packOf_over a c l n w _ (by omega) (by omega) hx hu h2
  rw [if_neg h2]
  exact packOf_ok a c l n w (by omega) (by omega) hx hu (by omega)
end Go.Proofs.Ytjbnbgiphnnadaa
