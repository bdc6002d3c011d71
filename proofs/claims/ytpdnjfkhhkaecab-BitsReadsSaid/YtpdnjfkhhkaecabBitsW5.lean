/- bitsBegun returns true. -/
import Derived.Test.YtpdnjfkhhkaecabBitsW4
import Derived.Test.YtpdnjfkhhkaecabSame
namespace Go.Proofs.Ytpdnjfkhhkaecab
open Go.RowKit
set_option linter.unusedVariables false

theorem nums_lit (w : World) (l : List Nat) : Nums (w.alloc (.cells (nv l).toArray 31)) (w.alloc (.cells (nv l).toArray 31)).heap.size (some ⟨w.heap.size, 0, none⟩) l := by
  intro _
  refine ⟨w.heap.size, 0, rfl, by simp, fun i hi => ?_⟩
  rw [Nat.zero_add, World.cell?_alloc_new]
  simp [nv, List.getElem?_eq_getElem hi]

theorem bp1 (w : World) : Calls Try.prog 9 #[.slice (some ⟨w.heap.size, 0, none⟩) 3 3, .int .i64 3] (w.alloc (.cells #[.int .u64 5, .int .u64 1, .int .u64 6] 31)) fun e w' => e = .returned (.tuple #[.string ⟨#[141, 1]⟩, .int .i64 0]) ∧ Below w.heap.size w w' := by
  have h := pack_any (some ⟨w.heap.size, 0, none⟩) 3 [5, 1, 6] 3 (w.alloc (.cells (nv [5, 1, 6]).toArray 31)) (by decide) (nums_lit w _)
  have e : packR [5, 1, 6] 3 = ([141, 1], 0) := by decide +kernel
  rw [e] at h
  exact h.mono fun e w' ⟨he, hb⟩ => ⟨he, ((Below.refl _ _).alloc (Nat.le_refl _) _).trans (hb.mono (by simp))⟩
theorem bp2 (w : World) : Calls Try.prog 9 #[.slice (some ⟨w.heap.size, 0, none⟩) 1 1, .int .i64 3] (w.alloc (.cells #[.int .u64 8] 31)) fun e w' => e = .returned (.tuple #[.string ⟨#[]⟩, .int .i64 8]) ∧ Below w.heap.size w w' := by
  have h := pack_any (some ⟨w.heap.size, 0, none⟩) 1 [8] 3 (w.alloc (.cells (nv [8]).toArray 31)) (by decide) (nums_lit w _)
  have e : packR [8] 3 = ([], 8) := by decide +kernel
  rw [e] at h
  exact h.mono fun e w' ⟨he, hb⟩ => ⟨he, ((Below.refl _ _).alloc (Nat.le_refl _) _).trans (hb.mono (by simp))⟩
theorem bu1 (w : World) : Calls Try.prog 14 #[.string ⟨#[141, 1]⟩, .int .i64 3, .int .i64 3] w fun e w' => ∃ a c, e = .returned (.tuple #[.slice a 3 c, .int .i64 0]) ∧ Nums w' w'.heap.size a [5, 1, 6] ∧ Below w.heap.size w w' := by
  have h := unpack_any ⟨#[141, 1]⟩ 3 3 w (by decide)
  have e : unpR (ByteArray.mk #[141, 1]).data.toList 3 3 = ([5, 1, 6], 0) := by decide +kernel
  rw [e] at h; exact h
theorem bu2 (w : World) : Calls Try.prog 14 #[.string ⟨#[141, 3]⟩, .int .i64 3, .int .i64 3] w fun e w' => ∃ a c, e = .returned (.tuple #[.slice a 0 c, .int .i64 1]) ∧ Nums w' w'.heap.size a [] ∧ Below w.heap.size w w' := by
  have h := unpack_any ⟨#[141, 3]⟩ 3 3 w (by decide)
  have e : unpR (ByteArray.mk #[141, 3]).data.toList 3 3 = ([], 1) := by decide +kernel
  rw [e] at h; exact h
theorem bg1 (w : World) : Calls Try.prog 15 #[.string ⟨#[141, 1]⟩, .int .i64 3, .int .i64 3, .int .i64 2] w fun e w' => e = .returned (.tuple #[.int .u64 6, .int .i64 0]) ∧ Below w.heap.size w w' := by
  have h := get_any ⟨#[141, 1]⟩ 3 3 2 w (by decide)
  have e : getR (ByteArray.mk #[141, 1]).data.toList 3 3 2 = (6, 0) := by decide +kernel
  rw [e] at h; exact h
theorem bw1 (w : World) : Calls Try.prog 12 #[.slice (some ⟨w.heap.size, 0, none⟩) 2 2] (w.alloc (.cells #[.int .u64 0, .int .u64 4] 31)) fun e w' => e = .returned (.int .i64 3) ∧ Below w.heap.size w w' := by
  have h := width_any (some ⟨w.heap.size, 0, none⟩) 2 [0, 4] (w.alloc (.cells (nv [0, 4]).toArray 31)) _ (by decide) (by decide) (nums_lit w _)
  have e : B.wd [0, 4] = 3 := by decide +kernel
  rw [e] at h
  exact h.mono fun e w' ⟨he, hb⟩ => ⟨he, by subst hb; exact (Below.refl _ _).alloc (Nat.le_refl _) _⟩
theorem bs1 (a : Option Addr) (c : Nat) (w : World) (h : Nums w w.heap.size a [5, 1, 6]) :
    Calls Try.prog 17 #[.slice a 3 c, .slice (some ⟨w.heap.size, 0, none⟩) 3 3] (w.alloc (.cells #[.int .u64 5, .int .u64 1, .int .u64 6] 31)) fun e w' => e = .returned (.bool true) ∧ Below w.heap.size w w' := by
  have h' := same_any a (some ⟨w.heap.size, 0, none⟩) c 3 [5, 1, 6] [5, 1, 6] (w.alloc (.cells (nv [5, 1, 6]).toArray 31)) _
    ((h.below ((Below.refl _ _).alloc (Nat.le_refl _) _)).mono (by simp)) (nums_lit w _) (by decide)
  rw [decide_eq_true rfl] at h'
  exact h'.mono fun e w' ⟨he, hb⟩ => ⟨he, ((Below.refl _ _).alloc (Nat.le_refl _) _).trans (hb.mono (by simp))⟩

set_option maxHeartbeats 400000 in
set_option maxRecDepth 100000 in
theorem begun_any (w : World) : Calls Try.prog 11 #[] w (BoolPost true w) := by
  go_enter Try.func11, Try.ntmps11
  go_wp2_with fail
  refine (bp1 w).mono ?_
  rintro e w1 ⟨rfl, hb1⟩
  go_wp2_with fail
  refine (bu1 _).mono ?_
  rintro e w2 ⟨a, c, rfl, hn2, hb2⟩
  go_wp2_with fail
  refine (bg1 _).mono ?_
  rintro e w3 ⟨rfl, hb3⟩
  go_wp2_with fail
  refine (bu2 _).mono ?_
  rintro e w4 ⟨a4, c4, rfl, _, hb4⟩
  go_wp2_with fail
  refine (bp2 _).mono ?_
  rintro e w5 ⟨rfl, hb5⟩
  have h25 : Below w2.heap.size w2 w5 := below_then (below_then hb3 hb4) hb5
  have h05 : Below w.heap.size w w5 := below_then (below_then hb1 hb2) h25
  go_wp2_with fail
  refine (bs1 a c _ (hn2.next h25)).mono ?_
  rintro e w6 ⟨rfl, hb6⟩
  go_wp2_with fail
  refine (bw1 _).mono ?_
  rintro e w7 ⟨rfl, hb7⟩
  go_wp2_with fail
  go_ret
  exact ⟨rfl, below_then (below_then h05 hb6) hb7⟩
end Go.Proofs.Ytpdnjfkhhkaecab
