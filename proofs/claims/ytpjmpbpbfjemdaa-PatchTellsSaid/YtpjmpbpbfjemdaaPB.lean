/- patchBegun returns true. -/
import Derived.Test.YtpjmpbpbfjemdaaPW3
import Derived.Test.YtpjmpbpbfjemdaaPW6
import Derived.Test.YtpjmpbpbfjemdaaSame
namespace Go.Proofs.Ytpjmpbpbfjemdaa
open Go.RowKit
set_option linter.unusedVariables false

abbrev pl6 : List Nat := [100, 101, 103, 100, 9999, 102]
abbrev pl6V : Array Value := #[.int .u64 100, .int .u64 101, .int .u64 103, .int .u64 100, .int .u64 9999, .int .u64 102]
theorem pl6_lt : ∀ x ∈ pl6, x < 18446744073709551616 := by decide

theorem pbw (a : Option Addr) (c : Nat) (w : World) (h : Nums w w.heap.size a pl6) : Calls Try.prog 29 #[.slice a 6 c] w fun e w' => e = .returned (.tuple #[.string ⟨#[100, 2, 1, 52, 8, 4, 166, 171]⟩, .int .i64 0]) ∧ Below w.heap.size w w' := by
  have h := pwrite_any a c pl6 w pl6_lt h
  have e : pwriteR pl6 = ([100, 2, 1, 52, 8, 4, 166, 171], 0) := by decide +kernel
  rw [e] at h
  exact h
theorem pbr (w : World) : Calls Try.prog 33 #[.string ⟨#[100, 2, 1, 52, 8, 4, 166, 171]⟩, .int .i64 6] w fun e w' => ∃ a c, e = .returned (.tuple #[.slice a 6 c, .int .i64 0]) ∧ Nums w' w'.heap.size a pl6 ∧ Below w.heap.size w w' := by
  have h := pread_any ⟨#[100, 2, 1, 52, 8, 4, 166, 171]⟩ 6 w (by decide)
  have e : P.read (ByteArray.mk #[100, 2, 1, 52, 8, 4, 166, 171]).data.toList 6 = (pl6, 0) := by decide +kernel
  rw [e] at h
  exact h
theorem pbc (a : Option Addr) (c : Nat) (w : World) (h : Nums w w.heap.size a pl6) : Calls Try.prog 28 #[.slice a 6 c, .int .i64 2] w fun e w' => e = .returned (.tuple #[.int .i64 5, .int .i64 0]) ∧ Below w.heap.size w w' := by
  have h := pcost_any a c pl6 2 w pl6_lt h
  have e : costR pl6 2 = (5, 0) := by decide +kernel
  rw [e] at h
  exact h
theorem pbr2 (w : World) : Calls Try.prog 33 #[.string ⟨#[5, 0, 0]⟩, .int .i64 3] w fun e w' => ∃ a c, e = .returned (.tuple #[.slice a 3 c, .int .i64 0]) ∧ Below w.heap.size w w' := by
  have h := pread_any ⟨#[5, 0, 0]⟩ 3 w (by decide)
  have e : P.read (ByteArray.mk #[5, 0, 0]).data.toList 3 = ([5, 5, 5], 0) := by decide +kernel
  rw [e] at h
  exact h.mono fun e w' ⟨a, c, he, _, hb⟩ => ⟨a, c, he, hb⟩
theorem pbr3 (w : World) : Calls Try.prog 33 #[.string ⟨#[255, 255, 255, 255, 255, 255, 255, 255, 255, 1, 0, 1]⟩, .int .i64 1] w fun e w' => ∃ a c, e = .returned (.tuple #[.slice a 0 c, .int .i64 8]) ∧ Below w.heap.size w w' := by
  have h := pread_any ⟨#[255, 255, 255, 255, 255, 255, 255, 255, 255, 1, 0, 1]⟩ 1 w (by decide)
  have e : P.read (ByteArray.mk #[255, 255, 255, 255, 255, 255, 255, 255, 255, 1, 0, 1]).data.toList 1 = ([], 8) := by decide +kernel
  rw [e] at h
  exact h.mono fun e w' ⟨a, c, he, _, hb⟩ => ⟨a, c, he, hb⟩
theorem pbm (a a' : Option Addr) (c c' : Nat) (w : World) (h : Nums w w.heap.size a pl6) (h' : Nums w w.heap.size a' pl6) :
    Calls Try.prog 19 #[.slice a 6 c, .slice a' 6 c'] w fun e w' => e = .returned (.bool true) ∧ Below w.heap.size w w' := by
  have h2 := same_any a a' c c' pl6 pl6 w _ h h' (by decide)
  rw [decide_eq_true rfl] at h2
  exact h2

set_option maxHeartbeats 1000000 in
set_option maxRecDepth 100000 in
theorem pbegun_any (w : World) : Calls Try.prog 32 #[] w (BoolPost true w) := by
  have hb0 : Below w.heap.size w (w.alloc (.cells pl6V 23)) := (Below.refl _ _).alloc (Nat.le_refl _) _
  have hn0 : Nums (w.alloc (.cells pl6V 23)) (w.alloc (.cells pl6V 23)).heap.size (some ⟨w.heap.size, 0, none⟩) pl6 := nums_lit w pl6
  have HN := Lib.hid hn0
  clear hn0
  go_enter Try.func32, Try.ntmps32
  go_wp2_with fail
  refine (pbw _ _ _ HN.out).mono ?_
  rintro e w1 ⟨rfl, hb1⟩
  have h1 := below_then hb0 hb1
  go_wp2_with fail
  refine (pbr _).mono ?_
  rintro e w2 ⟨a2, c2, rfl, n2, hb2⟩
  have h2 := below_then h1 hb2
  go_wp2_with fail
  refine (pbc _ _ _ (HN.out.next (below_then hb1 hb2))).mono ?_
  rintro e w3 ⟨rfl, hb3⟩
  have h3 := below_then h2 hb3
  go_wp2_with fail
  refine (pbr2 _).mono ?_
  rintro e w4 ⟨a4, c4, rfl, hb4⟩
  have h4 := below_then h3 hb4
  go_wp2_with fail
  refine (pbr3 _).mono ?_
  rintro e w5 ⟨a5, c5, rfl, hb5⟩
  have h5 := below_then h4 hb5
  go_wp2_with fail
  refine (pbm _ _ _ _ _ (n2.next (below_then (below_then hb3 hb4) hb5)) (HN.out.next (below_then (below_then (below_then (below_then hb1 hb2) hb3) hb4) hb5))).mono ?_
  rintro e w6 ⟨rfl, hb6⟩
  go_wp2_with fail
  go_ret
  exact ⟨rfl, below_then h5 hb6⟩
end Go.Proofs.Ytpjmpbpbfjemdaa
