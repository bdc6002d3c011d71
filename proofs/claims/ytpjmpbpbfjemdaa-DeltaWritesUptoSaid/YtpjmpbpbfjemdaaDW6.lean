/- deltaBegun returns true. -/
import Derived.Test.YtpjmpbpbfjemdaaDW5
import Derived.Test.YtpjmpbpbfjemdaaSame
namespace Go.Proofs.Ytpjmpbpbfjemdaa
open Go.RowKit
set_option linter.unusedVariables false

abbrev d574 : List Nat := [5, 7, 4]
abbrev d52 : List Nat := [5, 2, 18446744073709551613]
abbrev d574V : Array Value := #[.int .u64 5, .int .u64 7, .int .u64 4]
abbrev d52V : Array Value := #[.int .u64 5, .int .u64 2, .int .u64 18446744073709551613]

theorem dbd (w : World) : Calls Try.prog 14 #[.slice (some ⟨w.heap.size, 0, none⟩) 3 3] (w.alloc (.cells d574V 23)) fun e w' => ∃ a c, e = .returned (.tuple #[.slice a 3 c, .int .i64 0]) ∧ Nums w' w'.heap.size a d52 ∧ Below w.heap.size w w' := by
  have h := diffs_any (some ⟨w.heap.size, 0, none⟩) 3 d574 (w.alloc (.cells (nv d574).toArray 23)) (by decide) (nums_lit w d574)
  have e : (if 64 < d574.length then (([] : List Nat), 2) else (D.diffs d574, 0)) = (d52, 0) := by decide +kernel
  rw [e] at h
  exact h.mono fun e w' ⟨a, c, he, hn, _, _, hb⟩ => ⟨a, c, he, hn, ((Below.refl _ _).alloc (Nat.le_refl _) _).trans (hb.mono (by simp))⟩
theorem dbs (w : World) : Calls Try.prog 15 #[.slice (some ⟨w.heap.size, 0, none⟩) 3 3] (w.alloc (.cells d52V 23)) fun e w' => ∃ a c, e = .returned (.tuple #[.slice a 3 c, .int .i64 0]) ∧ Nums w' w'.heap.size a d574 ∧ Below w.heap.size w w' := by
  have h := sums_any (some ⟨w.heap.size, 0, none⟩) 3 d52 (w.alloc (.cells (nv d52).toArray 23)) (by decide) (nums_lit w d52)
  have e : (if 64 < d52.length then (([] : List Nat), 2) else (D.sums d52, 0)) = (d574, 0) := by decide +kernel
  rw [e] at h
  exact h.mono fun e w' ⟨a, c, he, hn, _, _, hb⟩ => ⟨a, c, he, hn, ((Below.refl _ _).alloc (Nat.le_refl _) _).trans (hb.mono (by simp))⟩
theorem dbw (w : World) : Calls Try.prog 24 #[.slice (some ⟨w.heap.size, 0, none⟩) 3 3] (w.alloc (.cells d574V 23)) fun e w' => e = .returned (.tuple #[.string ⟨#[5, 3, 3, 44, 0, 0]⟩, .int .i64 0]) ∧ Below w.heap.size w w' := by
  have h := dwrite_any (some ⟨w.heap.size, 0, none⟩) 3 d574 (w.alloc (.cells (nv d574).toArray 23)) (by decide) (nums_lit w d574)
  have e : dwriteR d574 = ([5, 3, 3, 44, 0, 0], 0) := by decide +kernel
  rw [e] at h
  exact h.mono fun e w' ⟨he, hb⟩ => ⟨he, ((Below.refl _ _).alloc (Nat.le_refl _) _).trans (hb.mono (by simp))⟩
theorem dbr (w : World) : Calls Try.prog 25 #[.string ⟨#[5, 3, 3, 44, 0, 0]⟩, .int .i64 3] w fun e w' => ∃ a c, e = .returned (.tuple #[.slice a 3 c, .int .i64 0]) ∧ Nums w' w'.heap.size a d574 ∧ Below w.heap.size w w' := by
  have h := dread_any ⟨#[5, 3, 3, 44, 0, 0]⟩ 3 w (by decide)
  have e : dreadR (ByteArray.mk #[5, 3, 3, 44, 0, 0]).data.toList 3 = (d574, 0) := by decide +kernel
  rw [e] at h
  exact h.mono fun e w' ⟨a, c, he, hn, _, _, hb⟩ => ⟨a, c, he, hn, hb⟩
theorem dbr2 (w : World) : Calls Try.prog 25 #[.string ⟨#[5, 0]⟩, .int .i64 2] w fun e w' => ∃ a c, e = .returned (.tuple #[.slice a 0 c, .int .i64 5]) ∧ Below w.heap.size w w' := by
  have h := dread_any ⟨#[5, 0]⟩ 2 w (by decide)
  have e : dreadR (ByteArray.mk #[5, 0]).data.toList 2 = ([], 5) := by decide +kernel
  rw [e] at h
  exact h.mono fun e w' ⟨a, c, he, hn, _, _, hb⟩ => ⟨a, c, he, hb⟩
theorem dbm1 (a : Option Addr) (c : Nat) (w : World) (h : Nums w w.heap.size a d52) :
    Calls Try.prog 19 #[.slice a 3 c, .slice (some ⟨w.heap.size, 0, none⟩) 3 3] (w.alloc (.cells d52V 23)) fun e w' => e = .returned (.bool true) ∧ Below w.heap.size w w' := by
  have hb : Below w.heap.size w (w.alloc (.cells d52V 23)) := (Below.refl _ _).alloc (Nat.le_refl _) _
  have h2 := same_any a (some ⟨w.heap.size, 0, none⟩) c 3 d52 d52 (w.alloc (.cells d52V 23)) _ (h.next hb) (nums_lit w d52) (by decide)
  rw [decide_eq_true rfl] at h2
  exact h2.mono fun e w' ⟨he, hb'⟩ => ⟨he, below_then hb hb'⟩
theorem dbm2 (a : Option Addr) (c : Nat) (w : World) (h : Nums w w.heap.size a d574) :
    Calls Try.prog 19 #[.slice a 3 c, .slice (some ⟨w.heap.size, 0, none⟩) 3 3] (w.alloc (.cells d574V 23)) fun e w' => e = .returned (.bool true) ∧ Below w.heap.size w w' := by
  have hb : Below w.heap.size w (w.alloc (.cells d574V 23)) := (Below.refl _ _).alloc (Nat.le_refl _) _
  have h2 := same_any a (some ⟨w.heap.size, 0, none⟩) c 3 d574 d574 (w.alloc (.cells d574V 23)) _ (h.next hb) (nums_lit w d574) (by decide)
  rw [decide_eq_true rfl] at h2
  exact h2.mono fun e w' ⟨he, hb'⟩ => ⟨he, below_then hb hb'⟩
theorem dbz (w : World) : Calls Try.prog 20 #[.int .u64 18446744073709551613] w fun e w' => e = .returned (.int .u64 5) ∧ w = w' := by
  have h := zig_any 18446744073709551613 w (by decide)
  have e : D.zig 18446744073709551613 = 5 := by decide +kernel
  rw [e] at h
  exact h
theorem dbg (w : World) : Calls Try.prog 22 #[.int .u64 5] w fun e w' => e = .returned (.int .u64 18446744073709551613) ∧ w = w' := by
  have h := zag_any 5 w (by decide)
  have e : D.zag 5 = 18446744073709551613 := by decide +kernel
  rw [e] at h
  exact h

set_option maxHeartbeats 1000000 in
set_option maxRecDepth 100000 in
theorem dbegun_any (w : World) : Calls Try.prog 18 #[] w (BoolPost true w) := by
  go_enter Try.func18, Try.ntmps18
  go_wp2_with fail
  refine (dbd w).mono ?_
  rintro e w1 ⟨a1, c1, rfl, hn1, hb1⟩
  go_wp2_with fail
  refine (dbs _).mono ?_
  rintro e w2 ⟨a2, c2, rfl, hn2, hb2⟩
  have h2 := below_then hb1 hb2
  go_wp2_with fail
  refine (dbw _).mono ?_
  rintro e w3 ⟨rfl, hb3⟩
  have h3 := below_then h2 hb3
  go_wp2_with fail
  refine (dbr _).mono ?_
  rintro e w4 ⟨a4, c4, rfl, hn4, hb4⟩
  have h4 := below_then h3 hb4
  go_wp2_with fail
  refine (dbr2 _).mono ?_
  rintro e w5 ⟨a5, c5, rfl, hb5⟩
  have h5 := below_then h4 hb5
  go_wp2_with fail
  refine (dbm1 _ _ _ (hn1.next (below_then (below_then (below_then hb2 hb3) hb4) hb5))).mono ?_
  rintro e w6 ⟨rfl, hb6⟩
  have h6 := below_then h5 hb6
  go_wp2_with fail
  refine (dbm2 _ _ _ (hn2.next (below_then (below_then (below_then hb3 hb4) hb5) hb6))).mono ?_
  rintro e w7 ⟨rfl, hb7⟩
  have h7 := below_then h6 hb7
  go_wp2_with fail
  refine (dbz _).mono ?_
  rintro e w8 ⟨rfl, rfl⟩
  go_wp2_with fail
  refine (dbg _).mono ?_
  rintro e w9 ⟨rfl, rfl⟩
  go_wp2_with fail
  refine (dbm2 _ _ _ (hn4.next (below_then (below_then hb5 hb6) hb7))).mono ?_
  rintro e w10 ⟨rfl, hb10⟩
  go_wp2_with fail
  go_ret
  exact ⟨rfl, below_then h7 hb10⟩
end Go.Proofs.Ytpjmpbpbfjemdaa
