/- hybridBegun returns true. -/
import Derived.Test.YtjbnbgiphnnadaaHW11
import Derived.Test.YtjbnbgiphnnadaaSame
namespace Go.Proofs.Ytjbnbgiphnnadaa
open Go.RowKit
set_option linter.unusedVariables false

abbrev nines : List Nat := [1, 2, 3, 4, 5, 6, 7, 0, 3, 3, 3, 3, 3, 3, 3, 3, 3, 1]
abbrev ninesV : Array Value := #[.int .u64 1, .int .u64 2, .int .u64 3, .int .u64 4, .int .u64 5, .int .u64 6, .int .u64 7, .int .u64 0, .int .u64 3, .int .u64 3, .int .u64 3, .int .u64 3, .int .u64 3, .int .u64 3, .int .u64 3, .int .u64 3, .int .u64 3, .int .u64 1]

theorem hbw1 (w : World) : Calls Try.prog 9 #[.slice (some ⟨w.heap.size, 0, none⟩) 18 18, .int .i64 3] (w.alloc (.cells ninesV 33)) fun e w' => e = .returned (.tuple #[.string ⟨#[3, 209, 88, 31, 18, 3, 3, 1, 0, 0]⟩, .int .i64 0]) ∧ Nums w' w'.heap.size (some ⟨w.heap.size, 0, none⟩) nines ∧ Below w.heap.size w w' := by
  have hl := nums_lit w nines
  have h := hwrite_any (some ⟨w.heap.size, 0, none⟩) 18 nines 3 (w.alloc (.cells (nv nines).toArray 33)) (by decide) (by decide) (by decide) hl
  have e : hwriteR nines 3 = ([3, 209, 88, 31, 18, 3, 3, 1, 0, 0], 0) := by decide +kernel
  rw [e] at h
  exact h.mono fun e w' ⟨he, hb⟩ => ⟨he, hl.next hb, ((Below.refl _ _).alloc (Nat.le_refl _) _).trans (hb.mono (by simp))⟩
theorem hbr1 (w : World) : Calls Try.prog 13 #[.string ⟨#[3, 209, 88, 31, 18, 3, 3, 1, 0, 0]⟩, .int .i64 18, .int .i64 3] w fun e w' => ∃ a c, e = .returned (.tuple #[.slice a 18 c, .int .i64 0]) ∧ Nums w' w'.heap.size a nines ∧ Below w.heap.size w w' := by
  have h := hread_any ⟨#[3, 209, 88, 31, 18, 3, 3, 1, 0, 0]⟩ 18 3 w (by decide)
  have e : hreadR (ByteArray.mk #[3, 209, 88, 31, 18, 3, 3, 1, 0, 0]).data.toList 18 3 = (nines, 0) := by decide +kernel
  rw [e] at h
  exact h.mono fun e w' ⟨a, c, he, hn, _, _, hb⟩ => ⟨a, c, he, hn, hb⟩
theorem hbr2 (w : World) : Calls Try.prog 13 #[.string ⟨#[0]⟩, .int .i64 1, .int .i64 3] w fun e w' => ∃ a c, e = .returned (.tuple #[.slice a 0 c, .int .i64 1]) ∧ Below w.heap.size w w' := by
  have h := hread_any ⟨#[0]⟩ 1 3 w (by decide)
  have e : hreadR (ByteArray.mk #[0]).data.toList 1 3 = ([], 1) := by decide +kernel
  rw [e] at h
  exact h.mono fun e w' ⟨a, c, he, hn, _, _, hb⟩ => ⟨a, c, he, hb⟩
theorem hbr3 (w : World) : Calls Try.prog 13 #[.string ⟨#[20, 3]⟩, .int .i64 9, .int .i64 3] w fun e w' => ∃ a c, e = .returned (.tuple #[.slice a 0 c, .int .i64 2]) ∧ Below w.heap.size w w' := by
  have h := hread_any ⟨#[20, 3]⟩ 9 3 w (by decide)
  have e : hreadR (ByteArray.mk #[20, 3]).data.toList 9 3 = ([], 2) := by decide +kernel
  rw [e] at h
  exact h.mono fun e w' ⟨a, c, he, hn, _, _, hb⟩ => ⟨a, c, he, hb⟩
theorem hbr4 (w : World) : Calls Try.prog 13 #[.string ⟨#[18, 11]⟩, .int .i64 9, .int .i64 3] w fun e w' => ∃ a c, e = .returned (.tuple #[.slice a 0 c, .int .i64 1]) ∧ Below w.heap.size w w' := by
  have h := hread_any ⟨#[18, 11]⟩ 9 3 w (by decide)
  have e : hreadR (ByteArray.mk #[18, 11]).data.toList 9 3 = ([], 1) := by decide +kernel
  rw [e] at h
  exact h.mono fun e w' ⟨a, c, he, hn, _, _, hb⟩ => ⟨a, c, he, hb⟩
theorem hbs1 (a a' : Option Addr) (c c' : Nat) (w : World) (h : Nums w w.heap.size a nines) (h' : Nums w w.heap.size a' nines) :
    Calls Try.prog 15 #[.slice a 18 c, .slice a' 18 c'] w fun e w' => e = .returned (.bool true) ∧ Below w.heap.size w w' := by
  have h2 := same_any a a' c c' nines nines w _ h h' (by decide)
  rw [decide_eq_true rfl] at h2
  exact h2

set_option maxHeartbeats 1000000 in
set_option maxRecDepth 100000 in
theorem hbegun_any (w : World) : Calls Try.prog 12 #[] w (BoolPost true w) := by
  go_enter Try.func12, Try.ntmps12
  go_wp2_with fail
  refine (hbw1 w).mono ?_
  rintro e w1 ⟨rfl, hn1, hb1⟩
  go_wp2_with fail
  refine (hbr1 _).mono ?_
  rintro e w2 ⟨a, c, rfl, hn2, hb2⟩
  go_wp2_with fail
  refine (hbr2 _).mono ?_
  rintro e w3 ⟨a3, c3, rfl, hb3⟩
  go_wp2_with fail
  refine (hbr3 _).mono ?_
  rintro e w4 ⟨a4, c4, rfl, hb4⟩
  go_wp2_with fail
  refine (hbr4 _).mono ?_
  rintro e w5 ⟨a5, c5, rfl, hb5⟩
  have h25 : Below w2.heap.size w2 w5 := below_then (below_then hb3 hb4) hb5
  have h15 := below_then hb2 h25
  have h05 : Below w.heap.size w w5 := below_then hb1 h15
  go_wp2_with fail
  refine (hbs1 a _ c _ _ (hn2.next h25) (hn1.next h15)).mono ?_
  rintro e w6 ⟨rfl, hb6⟩
  go_wp2_with fail
  go_ret
  exact ⟨rfl, below_then h05 hb6⟩
end Go.Proofs.Ytjbnbgiphnnadaa
