/- rankBegun returns true. -/
import Derived.Test.YthmlafoceacliaaMW6
import Derived.Test.YthmlafoceacliaaMW2
import Derived.Test.YthmlafoceacliaaMSame
namespace Go.Proofs.Ythmlafoceacliaa
open Go.RowKit
set_option linter.unusedVariables false

set_option maxHeartbeats 400000 in
theorem marks_any (v : Value) (w : World) : Calls Try.prog 28 #[v] w fun e w' => e = .returned v ∧ w = w' := by
  go_enter Try.func28, Try.ntmps28
  go_wp2_with fail
  go_ret
  exact ⟨rfl, rfl⟩

abbrev mL : List Bool := [true, false, true, true]
theorem mr1 (a : Option Addr) (w : World) (h : Bools w w.heap.size a mL) (ha : a ≠ none) : Calls Try.prog 9 #[.slice a 4 4, .int .i64 3] w fun e w' => e = .returned (.tuple #[.int .i64 2, .int .i64 0]) ∧ w = w' := by
  have h := rank_any a 4 mL 3 w _ ⟨by decide, by decide, fun e => absurd e ha⟩ h
  have e : M.rankR mL 3 = (2, 0) := by decide +kernel
  rw [e] at h; exact h
theorem ms1 (a : Option Addr) (w : World) (h : Bools w w.heap.size a mL) : Calls Try.prog 10 #[.slice a 4 4, .int .i64 2] w fun e w' => e = .returned (.tuple #[.int .i64 3, .int .i64 0]) ∧ w = w' := by
  have h := sel_any a 4 mL 2 w _ (by decide) (by decide) h
  have e : M.selR mL 2 = (3, 0) := by decide +kernel
  rw [e] at h; exact h
theorem ms2 (a : Option Addr) (w : World) (h : Bools w w.heap.size a mL) : Calls Try.prog 10 #[.slice a 4 4, .int .i64 3] w fun e w' => e = .returned (.tuple #[.int .i64 0, .int .i64 5]) ∧ w = w' := by
  have h := sel_any a 4 mL 3 w _ (by decide) (by decide) h
  have e : M.selR mL 3 = (0, 5) := by decide +kernel
  rw [e] at h; exact h
theorem ma1 (a b : Option Addr) (w : World) (h : Bools w w.heap.size a mL) (h2 : Bools w w.heap.size b [true, true, false, true]) :
    Calls Try.prog 16 #[.slice a 4 4, .slice b 4 4] w fun e w' => ∃ a c, e = .returned (.tuple #[.slice a 4 c, .int .i64 0]) ∧ Bools w' w'.heap.size a [true, false, false, true] ∧ Below w.heap.size w w' := by
  have h := and_any a b 4 4 mL [true, true, false, true] w h h2
  have e : M.pairR and mL [true, true, false, true] = ([true, false, false, true], 0) := by decide +kernel
  rw [e] at h; exact h
theorem mb1 (a : Option Addr) (w : World) (h : Bools w w.heap.size a mL) :
    Calls Try.prog 19 #[.slice a 4 4] w fun e w' => e = .returned (.tuple #[.string ⟨#[13]⟩, .int .i64 0]) ∧ Below w.heap.size w w' := by
  have h := bytes_any a 4 mL w h
  have e : bytesR mL = ([13], 0) := by decide +kernel
  rw [e] at h; exact h
theorem mo1 (w : World) : Calls Try.prog 20 #[.string ⟨#[13]⟩, .int .i64 4] w fun e w' => ∃ a c, e = .returned (.tuple #[.slice a 4 c, .int .i64 0]) ∧ Bools w' w'.heap.size a mL ∧ Below w.heap.size w w' := by
  have h := of_any ⟨#[13]⟩ 4 w (by decide)
  have e : ofR (ByteArray.mk #[13]).data.toList 4 = (mL, 0) := by decide +kernel
  rw [e] at h; exact h
theorem mss1 (a b : Option Addr) (c d : Nat) (l : List Bool) (w : World) (h : Bools w w.heap.size a l) (h2 : Bools w w.heap.size b l) (hl : l.length = 4) :
    Calls Try.prog 26 #[.slice a 4 c, .slice b 4 d] w fun e w' => e = .returned (.bool true) ∧ Below w.heap.size w w' := by
  have h := msame_any a b c d l l w _ h h2 (by omega)
  rw [decide_eq_true rfl, hl] at h; exact h
theorem mc1 (a : Option Addr) (w : World) (h : Bools w w.heap.size a mL) :
    Calls Try.prog 14 #[.slice a 4 4] w fun e w' => e = .returned (.int .i64 3) ∧ w = w' := count_any a 4 mL w _ (by decide) h

set_option maxHeartbeats 1000000 in
set_option maxRecDepth 100000 in
theorem rbegun_any (w : World) : Calls Try.prog 13 #[] w (BoolPost true w) := by
  have hl1 : Bools (w.alloc (.cells #[.bool true, .bool false, .bool true, .bool true] 4)) (w.alloc (.cells #[.bool true, .bool false, .bool true, .bool true] 4)).heap.size (some ⟨w.heap.size, 0, none⟩) mL := bools_lit w mL
  have hb1 : Below w.heap.size w (w.alloc (.cells #[.bool true, .bool false, .bool true, .bool true] 4)) := (Below.refl _ _).alloc (Nat.le_refl _) _
  go_enter Try.func13, Try.ntmps13
  go_wp2_with fail
  refine (marks_any _ _).mono ?_
  rintro e wx ⟨rfl, rfl⟩
  generalize w.alloc (.cells #[.bool true, .bool false, .bool true, .bool true] 4) = w1 at *
  generalize hA : (some ⟨w.heap.size, 0, none⟩ : Option Addr) = A1 at *
  have HA := Lib.hid (show A1 ≠ none by rw [← hA]; simp)
  clear hA
  go_wp2_with fail
  refine (mr1 A1 w1 hl1 HA.out).mono ?_
  rintro e wx ⟨rfl, rfl⟩
  go_wp2_with fail
  refine (ms1 A1 w1 hl1).mono ?_
  rintro e wx ⟨rfl, rfl⟩
  go_wp2_with fail
  refine (ms2 A1 w1 hl1).mono ?_
  rintro e wx ⟨rfl, rfl⟩
  have hl2 : Bools (w1.alloc (.cells #[.bool true, .bool true, .bool false, .bool true] 4)) (w1.alloc (.cells #[.bool true, .bool true, .bool false, .bool true] 4)).heap.size (some ⟨w1.heap.size, 0, none⟩) [true, true, false, true] := bools_lit w1 [true, true, false, true]
  have hb2 : Below w1.heap.size w1 (w1.alloc (.cells #[.bool true, .bool true, .bool false, .bool true] 4)) := (Below.refl _ _).alloc (Nat.le_refl _) _
  go_wp2_with fail
  refine (marks_any _ _).mono ?_
  rintro e wx ⟨rfl, rfl⟩
  generalize w1.alloc (.cells #[.bool true, .bool true, .bool false, .bool true] 4) = w2 at *
  generalize (some ⟨w1.heap.size, 0, none⟩ : Option Addr) = A2 at *
  go_wp2_with fail
  refine (ma1 A1 A2 w2 (hl1.next hb2) hl2).mono ?_
  rintro e w3 ⟨a3, c3, rfl, hl3, hb3⟩
  have hb13 := below_then hb2 hb3
  go_wp2_with fail
  refine (mb1 A1 w3 (hl1.next hb13)).mono ?_
  rintro e w4 ⟨rfl, hb4⟩
  go_wp2_with fail
  refine (mo1 w4).mono ?_
  rintro e w5 ⟨a5, c5, rfl, hl5, hb5⟩
  have hb35 := below_then hb4 hb5
  have hl6 : Bools (w5.alloc (.cells #[.bool true, .bool false, .bool false, .bool true] 4)) (w5.alloc (.cells #[.bool true, .bool false, .bool false, .bool true] 4)).heap.size (some ⟨w5.heap.size, 0, none⟩) [true, false, false, true] := bools_lit w5 [true, false, false, true]
  have hb6 : Below w5.heap.size w5 (w5.alloc (.cells #[.bool true, .bool false, .bool false, .bool true] 4)) := (Below.refl _ _).alloc (Nat.le_refl _) _
  go_wp2_with fail
  refine (marks_any _ _).mono ?_
  rintro e wx ⟨rfl, rfl⟩
  generalize w5.alloc (.cells #[.bool true, .bool false, .bool false, .bool true] 4) = w6 at *
  generalize (some ⟨w5.heap.size, 0, none⟩ : Option Addr) = A6 at *
  go_wp2_with fail
  refine (mss1 a3 A6 c3 4 [true, false, false, true] w6 (hl3.next (below_then hb35 hb6)) hl6 rfl).mono ?_
  rintro e w7 ⟨rfl, hb7⟩
  have hb57 := below_then hb6 hb7
  have hb17 := below_then hb13 (below_then hb35 hb57)
  go_wp2_with fail
  refine (mss1 a5 A1 c5 4 mL w7 (hl5.next hb57) (hl1.next hb17) rfl).mono ?_
  rintro e w8 ⟨rfl, hb8⟩
  go_wp2_with fail
  refine (mc1 A1 w8 (hl1.next (below_then hb17 hb8))).mono ?_
  rintro e wx ⟨rfl, rfl⟩
  go_wp2_with fail
  go_ret
  exact ⟨rfl, below_then hb1 (below_then hb17 hb8)⟩
end Go.Proofs.Ythmlafoceacliaa
