/- varyBegun returns true. -/
import Derived.Test.YtpdnjfkhhkaecaaVaryW3
namespace Go.Proofs.Ytpdnjfkhhkaecaa
open Go.RowKit
set_option linter.unusedVariables false

theorem read_all (s : ByteArray) (w : World) (hs : s.size ≤ maxLen) : Calls Try.prog 10 #[.string s] w (ReadPost (V.rd s.data.toList) w) := by
  by_cases h0 : s.size = 0
  · rw [data_empty s h0]; exact read_empty s w (empty_true s h0)
  · exact read_any s w hs (by omega) (empty_false s h0)

theorem br1 (w : World) : Calls Try.prog 10 #[.string ⟨#[129, 0, 122]⟩] w fun e w' => e = .returned (.tuple #[.int .u64 256, .int .i64 2, .int .i64 0]) ∧ Below w.heap.size w w' := by
  have h := read_all ⟨#[129, 0, 122]⟩ w (by decide)
  have e : V.rd (ByteArray.mk #[129, 0, 122]).data.toList = (256, 2, 0) := by decide +kernel
  rw [e] at h; exact h
theorem br2 (w : World) : Calls Try.prog 10 #[.string ⟨#[128, 5]⟩] w fun e w' => e = .returned (.tuple #[.int .u64 0, .int .i64 0, .int .i64 1]) ∧ Below w.heap.size w w' := by
  have h := read_all ⟨#[128, 5]⟩ w (by decide)
  have e : V.rd (ByteArray.mk #[128, 5]).data.toList = (0, 0, 1) := by decide +kernel
  rw [e] at h; exact h
theorem br3 (w : World) : Calls Try.prog 10 #[.string ⟨#[192, 1]⟩] w fun e w' => e = .returned (.tuple #[.int .u64 0, .int .i64 0, .int .i64 5]) ∧ Below w.heap.size w w' := by
  have h := read_all ⟨#[192, 1]⟩ w (by decide)
  have e : V.rd (ByteArray.mk #[192, 1]).data.toList = (0, 0, 5) := by decide +kernel
  rw [e] at h; exact h
theorem br4 (w : World) : Calls Try.prog 15 #[.string ⟨#[5, 129, 0]⟩] w fun e w' => ∃ a c, e = .returned (.tuple #[.slice a 2 c, .int .i64 0]) ∧ Nums w' w'.heap.size a [5, 256] ∧ Below w.heap.size w w' := by
  have h := readAll_any ⟨#[5, 129, 0]⟩ w (by decide)
  have e : V.rdl (ByteArray.mk #[5, 129, 0]).data.toList = ([5, 256], 0) := by decide +kernel
  rw [e] at h; exact h
theorem bw (n : Nat) (hn : n < 18446744073709551616) (s : ByteArray) (hs : str (V.enc n) = s) (w : World) : Calls Try.prog 13 #[.int .u64 n] w fun e w' => e = .returned (.string s) ∧ Below w.heap.size w w' := by
  subst hs; exact write_any n w hn
theorem bs (a : Option Addr) (c : Nat) (w : World) (h : Nums w w.heap.size a [5, 256]) :
    Calls Try.prog 19 #[.slice a 2 c, .slice (some ⟨w.heap.size, 0, none⟩) 2 2] (w.alloc (.cells #[.int .u64 5, .int .u64 256] 22)) (BoolPost true (w.alloc (.cells #[.int .u64 5, .int .u64 256] 22))) := by
  have h' := same_any a (some ⟨w.heap.size, 0, none⟩) c 2 [5, 256] [5, 256] (w.alloc (.cells #[.int .u64 5, .int .u64 256] 22)) (w.heap.size + 1)
    ((h.below ((Below.refl _ _).alloc (Nat.le_refl _) _)).mono (by omega)) (fun _ => ⟨w.heap.size, 0, rfl, by omega, fun i hi => by
      rw [Nat.zero_add, World.cell?_alloc_new]
      have : i = 0 ∨ i = 1 := by simp at hi; omega
      rcases this with rfl | rfl <;> rfl⟩) (by decide)
  simpa using h'

set_option maxHeartbeats 400000 in
set_option maxRecDepth 100000 in
theorem begun_any (w : World) : Calls Try.prog 12 #[] w (BoolPost true w) := by
  go_enter Try.func12, Try.ntmps12
  go_wp2_with fail
  refine (br1 _).mono ?_
  rintro e w1 ⟨rfl, hb1⟩
  go_wp2_with fail
  refine (br2 _).mono ?_
  rintro e w2 ⟨rfl, hb2⟩
  go_wp2_with fail
  refine (br3 _).mono ?_
  rintro e w3 ⟨rfl, hb3⟩
  go_wp2_with fail
  refine (br4 _).mono ?_
  rintro e w4 ⟨a, c, rfl, hn4, hb4⟩
  go_wp2_with fail
  refine (bw 256 (by decide) ⟨#[129, 0]⟩ (by decide +kernel) _).mono ?_
  rintro e w5 ⟨rfl, hb5⟩
  go_wp2_with fail
  refine (bw 127 (by decide) ⟨#[127]⟩ (by decide +kernel) _).mono ?_
  rintro e w6 ⟨rfl, hb6⟩
  go_wp2_with fail
  refine (bw 72057594037927936 (by decide) ⟨#[255, 1, 0, 0, 0, 0, 0, 0, 0]⟩ (by decide +kernel) _).mono ?_
  rintro e w7 ⟨rfl, hb7⟩
  go_wp2_with fail
  refine (bw 72057594037927935 (by decide) ⟨#[254, 255, 255, 255, 255, 255, 255, 255]⟩ (by decide +kernel) _).mono ?_
  rintro e w8 ⟨rfl, hb8⟩
  have h45 : Below w4.heap.size w4 w8 := ((hb5.trans (hb6.mono hb5.size)).trans (hb7.mono (Nat.le_trans hb5.size hb6.size))).trans (hb8.mono (Nat.le_trans hb5.size (Nat.le_trans hb6.size hb7.size)))
  have hn8 : Nums w8 w8.heap.size a [5, 256] := (hn4.below h45).mono h45.size
  have h04 : Below w.heap.size w w4 := ((hb1.trans (hb2.mono hb1.size)).trans (hb3.mono (Nat.le_trans hb1.size hb2.size))).trans (hb4.mono (Nat.le_trans hb1.size (Nat.le_trans hb2.size hb3.size)))
  have h08 : Below w.heap.size w w8 := h04.trans (h45.mono h04.size)
  go_wp2_with fail
  refine (bs a c w8 hn8).mono ?_
  rintro e w9 ⟨rfl, hb9⟩
  go_wp2_with fail
  go_ret
  exact ⟨rfl, (h08.alloc h08.size _).trans (hb9.mono (by simp; have := h08.size; omega))⟩
end Go.Proofs.Ytpdnjfkhhkaecaa
