/- frontBegun returns true. -/
import Derived.Test.YtplhlnlonjlcaaaFW6
import Derived.Test.YtplhlnlonjlcaaaTSame
namespace Go.Proofs.Ytplhlnlonjlcaaa
open Go.RowKit
set_option linter.unusedVariables false

theorem txts_lit (w : World) (l : List (List UInt8)) : Txts (w.alloc (.cells (tv l).toArray 9)) (w.alloc (.cells (tv l).toArray 9)).heap.size (some ⟨w.heap.size, 0, none⟩) l := by
  intro _
  refine ⟨w.heap.size, 0, rfl, by simp, fun i hi => ?_⟩
  rw [Nat.zero_add, World.cell?_alloc_new]
  simp [tv, List.getElem?_eq_getElem hi]

abbrev fx3 : List (List UInt8) := [[114, 111, 111, 107], [114, 111, 111, 107, 115], [119, 114, 101, 110]]
abbrev fxb : List UInt8 := [0, 4, 114, 111, 111, 107, 4, 1, 115, 0, 4, 119, 114, 101, 110]
theorem fbw (w : World) : Calls Try.prog 10 #[.slice (some ⟨w.heap.size, 0, none⟩) 3 3] (w.alloc (.cells #[.string ⟨#[114, 111, 111, 107]⟩, .string ⟨#[114, 111, 111, 107, 115]⟩, .string ⟨#[119, 114, 101, 110]⟩] 9)) fun e w' => e = .returned (.tuple #[.string (str fxb), .int .i64 0]) ∧ Below w.heap.size w w' := by
  have h := fwrite_any (some ⟨w.heap.size, 0, none⟩) 3 fx3 (w.alloc (.cells (tv fx3).toArray 9)) (txts_lit w fx3)
  have e : fwR fx3 = (fxb, 0) := by decide +kernel
  rw [e] at h
  exact h.mono fun e w' ⟨he, hb⟩ => ⟨he, ((Below.refl _ _).alloc (Nat.le_refl _) _).trans (hb.mono (by simp))⟩
theorem fbr1 (w : World) : Calls Try.prog 16 #[.string (str fxb), .int .i64 3] w fun e w' => ∃ a c, e = .returned (.tuple #[.slice a 3 c, .int .i64 0]) ∧ Txts w' w'.heap.size a fx3 ∧ Below w.heap.size w w' := by
  have h := fread_any fxb 3 w (by decide)
  have e : freadR fxb 3 = (fx3, 0) := by decide +kernel
  rw [e] at h
  exact h
theorem fbr2 (w : World) : Calls Try.prog 16 #[.string ⟨#[0, 1, 97, 0, 1, 97]⟩, .int .i64 2] w fun e w' => ∃ a c, e = .returned (.tuple #[.slice a 0 c, .int .i64 1]) ∧ Below w.heap.size w w' := by
  have h := fread_any [0, 1, 97, 0, 1, 97] 2 w (by decide)
  have e : freadR [0, 1, 97, 0, 1, 97] 2 = ([], 1) := by decide +kernel
  rw [e] at h
  exact h.mono fun e w' ⟨a, c, he, _, hb⟩ => ⟨a, c, he, hb⟩
theorem fbr3 (w : World) : Calls Try.prog 16 #[.string ⟨#[1, 1, 97]⟩, .int .i64 1] w fun e w' => ∃ a c, e = .returned (.tuple #[.slice a 0 c, .int .i64 3]) ∧ Below w.heap.size w w' := by
  have h := fread_any [1, 1, 97] 1 w (by decide)
  have e : freadR [1, 1, 97] 1 = ([], 3) := by decide +kernel
  rw [e] at h
  exact h.mono fun e w' ⟨a, c, he, _, hb⟩ => ⟨a, c, he, hb⟩
theorem fbs (w : World) : Calls Try.prog 14 #[.string ⟨#[97, 98, 99]⟩, .string ⟨#[97, 98, 100]⟩] w fun e w' => e = .returned (.int .i64 2) ∧ Below w.heap.size w w' := by
  have h := shared_any [97, 98, 99] [97, 98, 100] w (by decide) (by decide)
  have e : F.sh [97, 98, 99] [97, 98, 100] = 2 := by decide +kernel
  rw [e] at h
  exact h.mono fun e w' ⟨he, d, hb⟩ => ⟨he, by rw [hb]; exact below_drewN (Below.refl _ _) _⟩
theorem fbm (a : Option Addr) (c : Nat) (w : World) (h : Txts w w.heap.size a fx3) :
    Calls Try.prog 18 #[.slice a 3 c, .slice (some ⟨w.heap.size, 0, none⟩) 3 3] (w.alloc (.cells #[.string ⟨#[114, 111, 111, 107]⟩, .string ⟨#[114, 111, 111, 107, 115]⟩, .string ⟨#[119, 114, 101, 110]⟩] 9)) fun e w' => e = .returned (.bool true) ∧ Below w.heap.size w w' := by
  have hb : Below w.heap.size w (w.alloc (.cells (tv fx3).toArray 9)) := (Below.refl _ _).alloc (Nat.le_refl _) _
  have h2 := tsame_any a (some ⟨w.heap.size, 0, none⟩) c 3 fx3 fx3 (w.alloc (.cells (tv fx3).toArray 9)) _ (h.next hb) (txts_lit w fx3) (by decide)
  rw [decide_eq_true rfl] at h2
  exact h2.mono fun e w' ⟨he, hb'⟩ => ⟨he, below_then hb hb'⟩

set_option maxHeartbeats 1000000 in
set_option maxRecDepth 100000 in
theorem fbegun_any (w : World) : Calls Try.prog 13 #[] w (BoolPost true w) := by
  have hfx := show (str fxb).toList = fxb from str_toList _
  have HR1 := Lib.hid fbr1
  obtain ⟨X, hX⟩ : ∃ X, X = str fxb := ⟨_, rfl⟩
  have HW := Lib.hid fbw
  rw [← hX] at HR1 HW hfx
  have hq : (X.toList == [0, 4, 114, 111, 111, 107, 4, 1, 115, 0, 4, 119, 114, 101, 110]) = true := by rw [hfx]; decide +kernel
  have hq2 : X.toList = [0, 4, 114, 111, 111, 107, 4, 1, 115, 0, 4, 119, 114, 101, 110] := hfx
  clear hX hfx
  go_enter Try.func13, Try.ntmps13
  go_wp2_with fail
  refine (texts_any _ _).mono ?_
  rintro e w0 ⟨rfl, rfl⟩
  go_wp2_with fail
  refine (HW.out w).mono ?_
  rintro e w1 ⟨rfl, hb1⟩
  go_wp2_with fail
  refine (HR1.out _).mono ?_
  rintro e w2 ⟨a1, c1, rfl, t1, hb2⟩
  have h2 := below_then hb1 hb2
  go_wp2_with fail
  refine (fbr2 _).mono ?_
  rintro e w3 ⟨a3, c3, rfl, hb3⟩
  have h3 := below_then h2 hb3
  go_wp2_with fail
  refine (fbr3 _).mono ?_
  rintro e w4 ⟨a4, c4, rfl, hb4⟩
  have h4 := below_then h3 hb4
  go_wp2_with fail
  refine (texts_any _ _).mono ?_
  rintro e w5 ⟨rfl, rfl⟩
  go_wp2_with fail
  refine (fbm _ _ _ (t1.next (below_then hb3 hb4))).mono ?_
  rintro e w6 ⟨rfl, hb6⟩
  have h6 := below_then h4 hb6
  go_wp2_with fail
  refine (fbs _).mono ?_
  rintro e w7 ⟨rfl, hb7⟩
  go_wp2_with fail
  go_ret
  exact ⟨rfl, below_then h6 hb7⟩
end Go.Proofs.Ytplhlnlonjlcaaa
