/- runsBegun returns true. -/
import Derived.Test.YthmlafoceacliabRF7
import Derived.Test.YthmlafoceacliabRW4
import Derived.Test.YthmlafoceacliabRF6
import Derived.Test.YthmlafoceacliabRSame
import Derived.Test.YthmlafoceacliabSame
namespace Go.Proofs.Ythmlafoceacliab
open Go.RowKit
set_option linter.unusedVariables false

theorem nums_lit (w : World) (l : List Nat) : Nums (w.alloc (.cells (nv l).toArray 34)) (w.alloc (.cells (nv l).toArray 34)).heap.size (some ⟨w.heap.size, 0, none⟩) l := by
  intro _
  refine ⟨w.heap.size, 0, rfl, by simp, fun i hi => ?_⟩
  rw [Nat.zero_add, World.cell?_alloc_new]
  simp [nv, List.getElem?_eq_getElem hi]

set_option maxHeartbeats 400000 in
theorem runList_any (v : Value) (w : World) : Calls Try.prog 20 #[v] w fun e w' => e = .returned v ∧ w = w' := by
  go_enter Try.func20, Try.ntmps20
  go_wp2_with fail
  go_ret
  exact ⟨rfl, rfl⟩
set_option maxHeartbeats 400000 in
theorem run_any (n m : Int) (w : World) : Calls Try.prog 21 #[.int .u64 n, .int .i64 m] w fun e w' => e = .returned (.agg #[.int .u64 n, .int .i64 m]) ∧ Below w.heap.size w w' := by
  go_enter Try.func21, Try.ntmps21
  go_wp2
  exact bodyPost_ret (v := .agg #[.int .u64 n, .int .i64 m]) (by simp [results, Try.f21, go_sem]) rfl ⟨rfl, (Below.refl _ _).alloc (Nat.le_refl _) _⟩

theorem bg_of (a : Option Addr) (w : World) (h : Nums w w.heap.size a [7, 7, 3, 7]) :
    Calls Try.prog 8 #[.slice a 4 4] w fun e w' => ∃ a c, e = .returned (.tuple #[.slice a 3 c, .int .i64 0]) ∧ Runs w' w'.heap.size a [(7, 2), (3, 1), (7, 1)] ∧ Below w.heap.size w w' := by
  have h := of_any a 4 [7, 7, 3, 7] w h
  have e : ofR [7, 7, 3, 7] = ([(7, 2), (3, 1), (7, 1)], 0) := by decide +kernel
  rw [e] at h; exact h
theorem bg_expand (a : Option Addr) (w : World) (h : Runs w w.heap.size a [(5, 2), (1, 1)]) :
    Calls Try.prog 14 #[.slice a 2 2] w fun e w' => ∃ a c, e = .returned (.tuple #[.slice a 3 c, .int .i64 0]) ∧ Nums w' w'.heap.size a [5, 5, 1] ∧ Below w.heap.size w w' := by
  have h := expand_any a 2 [(5, 2), (1, 1)] w (by decide) h
  have e : expR [(5, 2), (1, 1)] = ([5, 5, 1], 0) := by decide +kernel
  rw [e] at h; exact h
theorem bg_at (a : Option Addr) (w : World) (h : Runs w w.heap.size a [(5, 2), (1, 1)]) :
    Calls Try.prog 15 #[.slice a 2 2, .int .i64 2] w fun e w' => e = .returned (.tuple #[.int .u64 1, .int .i64 0]) ∧ Below w.heap.size w w' := by
  have h := at_any a 2 [(5, 2), (1, 1)] 2 w (by decide) h (by decide)
  have e : atR [(5, 2), (1, 1)] 2 = (1, 0) := by decide +kernel
  rw [e] at h; exact h
theorem bg_joined (a b : Option Addr) (w : World) (h : Runs w w.heap.size a [(5, 2)]) (h2 : Runs w w.heap.size b [(5, 1), (6, 1)]) :
    Calls Try.prog 16 #[.slice a 1 1, .slice b 2 2] w fun e w' => ∃ a c, e = .returned (.tuple #[.slice a 2 c, .int .i64 0]) ∧ Runs w' w'.heap.size a [(5, 3), (6, 1)] ∧ Below w.heap.size w w' := by
  have h := joined_any a b 1 2 [(5, 2)] [(5, 1), (6, 1)] w (by decide) (by decide) h h2
  have e : joinedR [(5, 2)] [(5, 1), (6, 1)] = ([(5, 3), (6, 1)], 0) := by decide +kernel
  rw [e] at h; exact h
theorem bg_check (a : Option Addr) (w : World) (h : Runs w w.heap.size a [(1, 1), (1, 1)]) :
    Calls Try.prog 12 #[.slice a 2 2] w fun e w' => e = .returned (.int .i64 6) ∧ Below w.heap.size w w' := by
  have h := check_any a 2 [(1, 1), (1, 1)] w (by decide) h
  have e : R.chk [(1, 1), (1, 1)] = 6 := by decide +kernel
  rw [e] at h; exact h
theorem bg_same (a b : Option Addr) (c d n : Nat) (l : List R.Run) (w : World) (h : Runs w w.heap.size a l) (h2 : Runs w w.heap.size b l) (hl : l.length = n) (hn : n < 10) :
    Calls Try.prog 11 #[.slice a n c, .slice b n d] w fun e w' => e = .returned (.bool true) ∧ Below w.heap.size w w' := by
  have h := rsame_any a b c d l l w _ h h2 (by omega)
  rw [decide_eq_true rfl, hl] at h; exact h
theorem bg_nums (a b : Option Addr) (c d n : Nat) (l : List Nat) (w : World) (h : Nums w w.heap.size a l) (h2 : Nums w w.heap.size b l) (hl : l.length = n) (hn : n < 10) :
    Calls Try.prog 18 #[.slice a n c, .slice b n d] w fun e w' => e = .returned (.bool true) ∧ Below w.heap.size w w' := by
  have h := same_any a b c d l l w _ h h2 (by omega)
  rw [decide_eq_true rfl, hl] at h; exact h

set_option maxHeartbeats 2000000 in
set_option maxRecDepth 100000 in
theorem rubegun_any (w : World) : Calls Try.prog 10 #[] w (BoolPost true w) := by
  have hB : Below w.heap.size w w := Below.refl _ _
  go_enter Try.func10, Try.ntmps10
  have h0 : Nums (w.alloc (.cells #[.int .u64 7, .int .u64 7, .int .u64 3, .int .u64 7] 34)) (w.alloc (.cells #[.int .u64 7, .int .u64 7, .int .u64 3, .int .u64 7] 34)).heap.size (some ⟨w.heap.size, 0, none⟩) [7, 7, 3, 7] := nums_lit w [7, 7, 3, 7]
  have hb : Below w.heap.size w (w.alloc (.cells #[.int .u64 7, .int .u64 7, .int .u64 3, .int .u64 7] 34)) := (Below.refl _ _).alloc (Nat.le_refl _) _
  go_wp2_with fail
  generalize w.alloc (.cells #[.int .u64 7, .int .u64 7, .int .u64 3, .int .u64 7] 34) = w1 at *
  generalize (some ⟨w.heap.size, 0, none⟩ : Option Addr) = A1 at *
  replace hB := below_then hB hb
  clear hb
  refine (bg_of A1 _ h0).mono ?_
  rintro e w2 ⟨aL, cL, rfl, hL, hb⟩
  replace h0 := h0.next hb
  replace hB := below_then hB hb
  clear hb
  clear h0
  go_wp2_with fail
  refine (run_any 5 2 _).mono ?_
  rintro e w3 ⟨rfl, hb⟩
  replace hL := hL.next hb
  replace hB := below_then hB hb
  clear hb
  go_wp2_with fail
  refine (run_any 1 1 _).mono ?_
  rintro e w4 ⟨rfl, hb⟩
  replace hL := hL.next hb
  replace hB := below_then hB hb
  clear hb
  have h1 : Runs (w4.alloc (.cells #[.int .u64 5, .int .i64 2, .int .u64 1, .int .i64 1] 42)) (w4.alloc (.cells #[.int .u64 5, .int .i64 2, .int .u64 1, .int .i64 1] 42)).heap.size (some ⟨w4.heap.size, 0, none⟩) [(5, 2), (1, 1)] := runs_lit w4 [(5, 2), (1, 1)]
  have hb : Below w4.heap.size w4 (w4.alloc (.cells #[.int .u64 5, .int .i64 2, .int .u64 1, .int .i64 1] 42)) := (Below.refl _ _).alloc (Nat.le_refl _) _
  go_wp2_with fail
  refine (runList_any _ _).mono ?_
  rintro e wx ⟨rfl, rfl⟩
  generalize w4.alloc (.cells #[.int .u64 5, .int .i64 2, .int .u64 1, .int .i64 1] 42) = w5 at *
  generalize (some ⟨w4.heap.size, 0, none⟩ : Option Addr) = A5 at *
  replace hL := hL.next hb
  replace hB := below_then hB hb
  clear hb
  go_wp2_with fail
  refine (bg_expand A5 _ h1).mono ?_
  rintro e w6 ⟨aM, cM, rfl, hM, hb⟩
  replace hL := hL.next hb
  replace h1 := h1.next hb
  replace hB := below_then hB hb
  clear hb
  clear h1
  go_wp2_with fail
  refine (run_any 5 2 _).mono ?_
  rintro e w7 ⟨rfl, hb⟩
  replace hL := hL.next hb
  replace hM := hM.next hb
  replace hB := below_then hB hb
  clear hb
  go_wp2_with fail
  refine (run_any 1 1 _).mono ?_
  rintro e w8 ⟨rfl, hb⟩
  replace hL := hL.next hb
  replace hM := hM.next hb
  replace hB := below_then hB hb
  clear hb
  have h2 : Runs (w8.alloc (.cells #[.int .u64 5, .int .i64 2, .int .u64 1, .int .i64 1] 42)) (w8.alloc (.cells #[.int .u64 5, .int .i64 2, .int .u64 1, .int .i64 1] 42)).heap.size (some ⟨w8.heap.size, 0, none⟩) [(5, 2), (1, 1)] := runs_lit w8 [(5, 2), (1, 1)]
  have hb : Below w8.heap.size w8 (w8.alloc (.cells #[.int .u64 5, .int .i64 2, .int .u64 1, .int .i64 1] 42)) := (Below.refl _ _).alloc (Nat.le_refl _) _
  go_wp2_with fail
  refine (runList_any _ _).mono ?_
  rintro e wx ⟨rfl, rfl⟩
  generalize w8.alloc (.cells #[.int .u64 5, .int .i64 2, .int .u64 1, .int .i64 1] 42) = w9 at *
  generalize (some ⟨w8.heap.size, 0, none⟩ : Option Addr) = A9 at *
  replace hL := hL.next hb
  replace hM := hM.next hb
  replace hB := below_then hB hb
  clear hb
  go_wp2_with fail
  refine (bg_at A9 _ h2).mono ?_
  rintro e w10 ⟨rfl, hb⟩
  replace hL := hL.next hb
  replace hM := hM.next hb
  replace h2 := h2.next hb
  replace hB := below_then hB hb
  clear hb
  clear h2
  go_wp2_with fail
  refine (run_any 5 2 _).mono ?_
  rintro e w11 ⟨rfl, hb⟩
  replace hL := hL.next hb
  replace hM := hM.next hb
  replace hB := below_then hB hb
  clear hb
  have h3 : Runs (w11.alloc (.cells #[.int .u64 5, .int .i64 2] 42)) (w11.alloc (.cells #[.int .u64 5, .int .i64 2] 42)).heap.size (some ⟨w11.heap.size, 0, none⟩) [(5, 2)] := runs_lit w11 [(5, 2)]
  have hb : Below w11.heap.size w11 (w11.alloc (.cells #[.int .u64 5, .int .i64 2] 42)) := (Below.refl _ _).alloc (Nat.le_refl _) _
  go_wp2_with fail
  refine (runList_any _ _).mono ?_
  rintro e wx ⟨rfl, rfl⟩
  generalize w11.alloc (.cells #[.int .u64 5, .int .i64 2] 42) = w12 at *
  generalize (some ⟨w11.heap.size, 0, none⟩ : Option Addr) = A12 at *
  replace hL := hL.next hb
  replace hM := hM.next hb
  replace hB := below_then hB hb
  clear hb
  go_wp2_with fail
  refine (run_any 5 1 _).mono ?_
  rintro e w13 ⟨rfl, hb⟩
  replace hL := hL.next hb
  replace hM := hM.next hb
  replace h3 := h3.next hb
  replace hB := below_then hB hb
  clear hb
  go_wp2_with fail
  refine (run_any 6 1 _).mono ?_
  rintro e w14 ⟨rfl, hb⟩
  replace hL := hL.next hb
  replace hM := hM.next hb
  replace h3 := h3.next hb
  replace hB := below_then hB hb
  clear hb
  have h4 : Runs (w14.alloc (.cells #[.int .u64 5, .int .i64 1, .int .u64 6, .int .i64 1] 42)) (w14.alloc (.cells #[.int .u64 5, .int .i64 1, .int .u64 6, .int .i64 1] 42)).heap.size (some ⟨w14.heap.size, 0, none⟩) [(5, 1), (6, 1)] := runs_lit w14 [(5, 1), (6, 1)]
  have hb : Below w14.heap.size w14 (w14.alloc (.cells #[.int .u64 5, .int .i64 1, .int .u64 6, .int .i64 1] 42)) := (Below.refl _ _).alloc (Nat.le_refl _) _
  go_wp2_with fail
  refine (runList_any _ _).mono ?_
  rintro e wx ⟨rfl, rfl⟩
  generalize w14.alloc (.cells #[.int .u64 5, .int .i64 1, .int .u64 6, .int .i64 1] 42) = w15 at *
  generalize (some ⟨w14.heap.size, 0, none⟩ : Option Addr) = A15 at *
  replace hL := hL.next hb
  replace hM := hM.next hb
  replace h3 := h3.next hb
  replace hB := below_then hB hb
  clear hb
  go_wp2_with fail
  refine (bg_joined A12 A15 _ h3 h4).mono ?_
  rintro e w16 ⟨aJ, cJ, rfl, hJ, hb⟩
  replace hL := hL.next hb
  replace hM := hM.next hb
  replace h3 := h3.next hb
  replace h4 := h4.next hb
  replace hB := below_then hB hb
  clear hb
  clear h3 h4
  go_wp2_with fail
  refine (run_any 7 2 _).mono ?_
  rintro e w17 ⟨rfl, hb⟩
  replace hL := hL.next hb
  replace hM := hM.next hb
  replace hJ := hJ.next hb
  replace hB := below_then hB hb
  clear hb
  go_wp2_with fail
  refine (run_any 3 1 _).mono ?_
  rintro e w18 ⟨rfl, hb⟩
  replace hL := hL.next hb
  replace hM := hM.next hb
  replace hJ := hJ.next hb
  replace hB := below_then hB hb
  clear hb
  go_wp2_with fail
  refine (run_any 7 1 _).mono ?_
  rintro e w19 ⟨rfl, hb⟩
  replace hL := hL.next hb
  replace hM := hM.next hb
  replace hJ := hJ.next hb
  replace hB := below_then hB hb
  clear hb
  have h5 : Runs (w19.alloc (.cells #[.int .u64 7, .int .i64 2, .int .u64 3, .int .i64 1, .int .u64 7, .int .i64 1] 42)) (w19.alloc (.cells #[.int .u64 7, .int .i64 2, .int .u64 3, .int .i64 1, .int .u64 7, .int .i64 1] 42)).heap.size (some ⟨w19.heap.size, 0, none⟩) [(7, 2), (3, 1), (7, 1)] := runs_lit w19 [(7, 2), (3, 1), (7, 1)]
  have hb : Below w19.heap.size w19 (w19.alloc (.cells #[.int .u64 7, .int .i64 2, .int .u64 3, .int .i64 1, .int .u64 7, .int .i64 1] 42)) := (Below.refl _ _).alloc (Nat.le_refl _) _
  go_wp2_with fail
  refine (runList_any _ _).mono ?_
  rintro e wx ⟨rfl, rfl⟩
  generalize w19.alloc (.cells #[.int .u64 7, .int .i64 2, .int .u64 3, .int .i64 1, .int .u64 7, .int .i64 1] 42) = w20 at *
  generalize (some ⟨w19.heap.size, 0, none⟩ : Option Addr) = A20 at *
  replace hL := hL.next hb
  replace hM := hM.next hb
  replace hJ := hJ.next hb
  replace hB := below_then hB hb
  clear hb
  go_wp2_with fail
  refine (bg_same aL A20 cL 3 3 _ _ hL h5 rfl (by decide)).mono ?_
  rintro e w21 ⟨rfl, hb⟩
  replace hL := hL.next hb
  replace hM := hM.next hb
  replace hJ := hJ.next hb
  replace h5 := h5.next hb
  replace hB := below_then hB hb
  clear hb
  clear h5 hL
  have h6 : Nums (w21.alloc (.cells #[.int .u64 5, .int .u64 5, .int .u64 1] 34)) (w21.alloc (.cells #[.int .u64 5, .int .u64 5, .int .u64 1] 34)).heap.size (some ⟨w21.heap.size, 0, none⟩) [5, 5, 1] := nums_lit w21 [5, 5, 1]
  have hb : Below w21.heap.size w21 (w21.alloc (.cells #[.int .u64 5, .int .u64 5, .int .u64 1] 34)) := (Below.refl _ _).alloc (Nat.le_refl _) _
  go_wp2_with fail
  generalize w21.alloc (.cells #[.int .u64 5, .int .u64 5, .int .u64 1] 34) = w22 at *
  generalize (some ⟨w21.heap.size, 0, none⟩ : Option Addr) = A22 at *
  replace hM := hM.next hb
  replace hJ := hJ.next hb
  replace hB := below_then hB hb
  clear hb
  refine (bg_nums aM A22 cM 3 3 _ _ hM h6 rfl (by decide)).mono ?_
  rintro e w23 ⟨rfl, hb⟩
  replace hM := hM.next hb
  replace hJ := hJ.next hb
  replace h6 := h6.next hb
  replace hB := below_then hB hb
  clear hb
  clear h6 hM
  go_wp2_with fail
  refine (run_any 5 3 _).mono ?_
  rintro e w24 ⟨rfl, hb⟩
  replace hJ := hJ.next hb
  replace hB := below_then hB hb
  clear hb
  go_wp2_with fail
  refine (run_any 6 1 _).mono ?_
  rintro e w25 ⟨rfl, hb⟩
  replace hJ := hJ.next hb
  replace hB := below_then hB hb
  clear hb
  have h7 : Runs (w25.alloc (.cells #[.int .u64 5, .int .i64 3, .int .u64 6, .int .i64 1] 42)) (w25.alloc (.cells #[.int .u64 5, .int .i64 3, .int .u64 6, .int .i64 1] 42)).heap.size (some ⟨w25.heap.size, 0, none⟩) [(5, 3), (6, 1)] := runs_lit w25 [(5, 3), (6, 1)]
  have hb : Below w25.heap.size w25 (w25.alloc (.cells #[.int .u64 5, .int .i64 3, .int .u64 6, .int .i64 1] 42)) := (Below.refl _ _).alloc (Nat.le_refl _) _
  go_wp2_with fail
  refine (runList_any _ _).mono ?_
  rintro e wx ⟨rfl, rfl⟩
  generalize w25.alloc (.cells #[.int .u64 5, .int .i64 3, .int .u64 6, .int .i64 1] 42) = w26 at *
  generalize (some ⟨w25.heap.size, 0, none⟩ : Option Addr) = A26 at *
  replace hJ := hJ.next hb
  replace hB := below_then hB hb
  clear hb
  go_wp2_with fail
  refine (bg_same aJ A26 cJ 2 2 _ _ hJ h7 rfl (by decide)).mono ?_
  rintro e w27 ⟨rfl, hb⟩
  replace hJ := hJ.next hb
  replace h7 := h7.next hb
  replace hB := below_then hB hb
  clear hb
  clear h7 hJ
  go_wp2_with fail
  refine (run_any 1 1 _).mono ?_
  rintro e w28 ⟨rfl, hb⟩
  replace hB := below_then hB hb
  clear hb
  go_wp2_with fail
  refine (run_any 1 1 _).mono ?_
  rintro e w29 ⟨rfl, hb⟩
  replace hB := below_then hB hb
  clear hb
  have h8 : Runs (w29.alloc (.cells #[.int .u64 1, .int .i64 1, .int .u64 1, .int .i64 1] 42)) (w29.alloc (.cells #[.int .u64 1, .int .i64 1, .int .u64 1, .int .i64 1] 42)).heap.size (some ⟨w29.heap.size, 0, none⟩) [(1, 1), (1, 1)] := runs_lit w29 [(1, 1), (1, 1)]
  have hb : Below w29.heap.size w29 (w29.alloc (.cells #[.int .u64 1, .int .i64 1, .int .u64 1, .int .i64 1] 42)) := (Below.refl _ _).alloc (Nat.le_refl _) _
  go_wp2_with fail
  refine (runList_any _ _).mono ?_
  rintro e wx ⟨rfl, rfl⟩
  generalize w29.alloc (.cells #[.int .u64 1, .int .i64 1, .int .u64 1, .int .i64 1] 42) = w30 at *
  generalize (some ⟨w29.heap.size, 0, none⟩ : Option Addr) = A30 at *
  replace hB := below_then hB hb
  clear hb
  go_wp2_with fail
  refine (bg_check A30 _ h8).mono ?_
  rintro e w31 ⟨rfl, hb⟩
  replace h8 := h8.next hb
  replace hB := below_then hB hb
  clear hb
  go_wp2_with fail
  go_ret
  exact ⟨rfl, hB⟩
end Go.Proofs.Ythmlafoceacliab
