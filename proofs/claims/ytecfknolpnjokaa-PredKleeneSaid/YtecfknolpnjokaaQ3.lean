/- CW1, CW2, SW3, SR2, CCells, CNum. -/
import Derived.RangeFuncBox
import Derived.Test.YtecfknolpnjokaaQ2
/- The walks of nulls.Check's function, hypostyleref.CellCheck. -/
namespace Go.Proofs.Ytecfknolpnjokaa
open Go.RowKit
set_option linter.unusedVariables false

set_option maxHeartbeats 1000000 in
set_option maxRecDepth 100000 in
theorem cchk_any (Cb : Nat) (k : Int) (c : C.Cl) (w : World) (hc : cOk c) (hB : Boxed w Cb 3 (.int .i64 k)) :
    Calls Try.prog 51 #[cag c, .pointer (some ⟨Cb, 0, none⟩)] w (CErrPost (C.cellE k c) w) := by
  have c0 := hB.cell
  have hlt := hB.lt
  have hne : ¬ Cb = w.heap.size := by omega
  have hne2 : ¬ w.heap.size = Cb := by omega
  obtain ⟨z, n, x⟩ := c
  unfold cOk at hc
  simp only at hc
  unfold cag
  simp only
  clear hB
  by_cases hz : z = 0
  · subst hz
    by_cases hn : n = 0
    · subst hn
      by_cases hx : x = []
      · subst hx
        have HR := Lib.hid (show C.cellE k ⟨0, 0, []⟩ = 0 by simp [C.cellE])
        have e1 : (str []).toList.isEmpty = true := by rw [str_toList]; rfl
        have e2 : (str []).size = 0 := rfl
        have e3 : (str []).toList = [] := str_toList _
        go_enter Try.func51, Try.ntmps51
        go_wp2_with fail
        go_ret
        exact ⟨by rw [HR.out]; rfl, (Below.refl _ _).alloc (Nat.le_refl _) _⟩
      · skip
        have HR := Lib.hid (show C.cellE k ⟨0, 0, x⟩ = 1 by simp [C.cellE, hx])
        have e1 : (str x).toList.isEmpty = false := by rw [str_toList]; cases x with | nil => exact absurd rfl hx | cons a t => rfl
        have e2 : 0 < (str x).size := by rw [str_size]; exact List.length_pos_iff.2 hx
        have e3 : decide ((0 : Int) < ((str x).size : Int)) = true := decide_eq_true (by omega)
        have e4 : ¬ (str x).toList = [] := by rw [str_toList]; exact hx
        generalize str x = X at *
        clear hx
        go_enter Try.func51, Try.ntmps51
        go_wp2_with fail
        go_ret
        exact ⟨by rw [HR.out]; rfl, (Below.refl _ _).alloc (Nat.le_refl _) _⟩
    · skip
      have HR := Lib.hid (show C.cellE k ⟨0, n, x⟩ = 1 by simp [C.cellE, hn])
      have f1 : ((n : Int) != 0) = true := by rw [bne_iff_ne]; omega
      have f2 : ¬ (n : Int) = 0 := by omega
      generalize str x = X at *
      go_enter Try.func51, Try.ntmps51
      go_wp2_with fail
      go_ret
      exact ⟨by rw [HR.out]; rfl, (Below.refl _ _).alloc (Nat.le_refl _) _⟩
  by_cases hk : z = k
  · subst hk
    by_cases hn : n = 0
    · subst hn
      by_cases hx : x = []
      · subst hx
        by_cases h1 : z = 1
        · subst h1
          have HR := Lib.hid (show C.cellE 1 ⟨1, 0, []⟩ = 0 by simp [C.cellE])
          have e1 : (str []).toList.isEmpty = true := by rw [str_toList]; rfl
          have e2 : (str []).size = 0 := rfl
          have e3 : (str []).toList = [] := str_toList _
          go_enter Try.func51, Try.ntmps51
          go_wp2_with fail
          go_ret
          exact ⟨by rw [HR.out]; rfl, (Below.refl _ _).alloc (Nat.le_refl _) _⟩
        by_cases h2 : z = 2
        · subst h2
          have HR := Lib.hid (show C.cellE 2 ⟨2, 0, []⟩ = 0 by simp [C.cellE])
          have e1 : (str []).toList.isEmpty = true := by rw [str_toList]; rfl
          have e2 : (str []).size = 0 := rfl
          have e3 : (str []).toList = [] := str_toList _
          go_enter Try.func51, Try.ntmps51
          go_wp2_with fail
          go_ret
          exact ⟨by rw [HR.out]; rfl, (Below.refl _ _).alloc (Nat.le_refl _) _⟩
        have HR := Lib.hid (show C.cellE z ⟨z, 0, []⟩ = 0 by simp [C.cellE, hz])
        have z1 : (z != 0) = true := by rw [bne_iff_ne]; exact hz
        have z2 : (z != z) = false := by rw [bne_eq_false_iff_eq]
        have z3 : (z != 1) = true := by rw [bne_iff_ne]; exact h1
        have z4 : (z != 2) = true := by rw [bne_iff_ne]; exact h2
        have e1 : (str []).toList.isEmpty = true := by rw [str_toList]; rfl
        have e2 : (str []).size = 0 := rfl
        have e3 : (str []).toList = [] := str_toList _
        go_enter Try.func51, Try.ntmps51
        go_wp2_with fail
        go_ret
        exact ⟨by rw [HR.out]; rfl, (Below.refl _ _).alloc (Nat.le_refl _) _⟩
      · by_cases h2 : z = 2
        · subst h2
          by_cases hl : 16 < x.length
          · skip
            have HR := Lib.hid (show C.cellE 2 ⟨2, 0, x⟩ = 2 by simp [C.cellE, hx, hl])
            have e1 : (str x).toList.isEmpty = false := by rw [str_toList]; cases x with | nil => exact absurd rfl hx | cons a t => rfl
            have e2 : 0 < (str x).size := by rw [str_size]; exact List.length_pos_iff.2 hx
            have e3 : decide ((0 : Int) < ((str x).size : Int)) = true := decide_eq_true (by omega)
            have e4 : ¬ (str x).toList = [] := by rw [str_toList]; exact hx
            have l1 : 16 < (str x).size := by rw [str_size]; exact hl
            have l2 : decide ((16 : Int) < ((str x).size : Int)) = true := decide_eq_true (by omega)
            generalize str x = X at *
            clear hx hl
            go_enter Try.func51, Try.ntmps51
            go_wp2_with fail
            go_ret
            exact ⟨by rw [HR.out]; rfl, (Below.refl _ _).alloc (Nat.le_refl _) _⟩
          · skip
            have HR := Lib.hid (show C.cellE 2 ⟨2, 0, x⟩ = 0 by simp [C.cellE, hx, hl])
            have e1 : (str x).toList.isEmpty = false := by rw [str_toList]; cases x with | nil => exact absurd rfl hx | cons a t => rfl
            have e2 : 0 < (str x).size := by rw [str_size]; exact List.length_pos_iff.2 hx
            have e3 : decide ((0 : Int) < ((str x).size : Int)) = true := decide_eq_true (by omega)
            have e4 : ¬ (str x).toList = [] := by rw [str_toList]; exact hx
            have l1 : ¬ 16 < (str x).size := by rw [str_size]; exact hl
            have l2 : decide ((16 : Int) < ((str x).size : Int)) = false := decide_eq_false (by omega)
            generalize str x = X at *
            clear hx hl
            go_enter Try.func51, Try.ntmps51
            go_wp2_with fail
            go_ret
            exact ⟨by rw [HR.out]; rfl, (Below.refl _ _).alloc (Nat.le_refl _) _⟩
        · by_cases h1 : z = 1
          · subst h1
            have HR := Lib.hid (show C.cellE 1 ⟨1, 0, x⟩ = 1 by simp [C.cellE, hx])
            have e1 : (str x).toList.isEmpty = false := by rw [str_toList]; cases x with | nil => exact absurd rfl hx | cons a t => rfl
            have e2 : 0 < (str x).size := by rw [str_size]; exact List.length_pos_iff.2 hx
            have e3 : decide ((0 : Int) < ((str x).size : Int)) = true := decide_eq_true (by omega)
            have e4 : ¬ (str x).toList = [] := by rw [str_toList]; exact hx
            generalize str x = X at *
            clear hx
            go_enter Try.func51, Try.ntmps51
            go_wp2_with fail
            go_ret
            exact ⟨by rw [HR.out]; rfl, (Below.refl _ _).alloc (Nat.le_refl _) _⟩
          have HR := Lib.hid (show C.cellE z ⟨z, 0, x⟩ = 1 by simp [C.cellE, hx, hz, h2])
          have z1 : (z != 0) = true := by rw [bne_iff_ne]; exact hz
          have z2 : (z != z) = false := by rw [bne_eq_false_iff_eq]
          have z3 : (z != 1) = true := by rw [bne_iff_ne]; exact h1
          have z4 : (z != 2) = true := by rw [bne_iff_ne]; exact h2
          have e1 : (str x).toList.isEmpty = false := by rw [str_toList]; cases x with | nil => exact absurd rfl hx | cons a t => rfl
          have e2 : 0 < (str x).size := by rw [str_size]; exact List.length_pos_iff.2 hx
          have e3 : decide ((0 : Int) < ((str x).size : Int)) = true := decide_eq_true (by omega)
          have e4 : ¬ (str x).toList = [] := by rw [str_toList]; exact hx
          generalize str x = X at *
          clear hx
          go_enter Try.func51, Try.ntmps51
          go_wp2_with fail
          go_ret
          exact ⟨by rw [HR.out]; rfl, (Below.refl _ _).alloc (Nat.le_refl _) _⟩
    · by_cases h1 : z = 1
      · subst h1
        by_cases hx : x = []
        · subst hx
          have HR := Lib.hid (show C.cellE 1 ⟨1, n, []⟩ = 0 by simp [C.cellE, hn])
          have f1 : ((n : Int) != 0) = true := by rw [bne_iff_ne]; omega
          have f2 : ¬ (n : Int) = 0 := by omega
          have e1 : (str []).toList.isEmpty = true := by rw [str_toList]; rfl
          have e2 : (str []).size = 0 := rfl
          have e3 : (str []).toList = [] := str_toList _
          go_enter Try.func51, Try.ntmps51
          go_wp2_with fail
          go_ret
          exact ⟨by rw [HR.out]; rfl, (Below.refl _ _).alloc (Nat.le_refl _) _⟩
        · skip
          have HR := Lib.hid (show C.cellE 1 ⟨1, n, x⟩ = 1 by simp [C.cellE, hn, hx])
          have f1 : ((n : Int) != 0) = true := by rw [bne_iff_ne]; omega
          have f2 : ¬ (n : Int) = 0 := by omega
          have e1 : (str x).toList.isEmpty = false := by rw [str_toList]; cases x with | nil => exact absurd rfl hx | cons a t => rfl
          have e2 : 0 < (str x).size := by rw [str_size]; exact List.length_pos_iff.2 hx
          have e3 : decide ((0 : Int) < ((str x).size : Int)) = true := decide_eq_true (by omega)
          have e4 : ¬ (str x).toList = [] := by rw [str_toList]; exact hx
          generalize str x = X at *
          clear hx
          go_enter Try.func51, Try.ntmps51
          go_wp2_with fail
          go_ret
          exact ⟨by rw [HR.out]; rfl, (Below.refl _ _).alloc (Nat.le_refl _) _⟩
      · skip
        have HR := Lib.hid (show C.cellE z ⟨z, n, x⟩ = 1 by simp [C.cellE, hn, hz, h1])
        have f1 : ((n : Int) != 0) = true := by rw [bne_iff_ne]; omega
        have f2 : ¬ (n : Int) = 0 := by omega
        have z1 : (z != 0) = true := by rw [bne_iff_ne]; exact hz
        have z2 : (z != z) = false := by rw [bne_eq_false_iff_eq]
        have z3 : (z != 1) = true := by rw [bne_iff_ne]; exact h1
        generalize str x = X at *
        go_enter Try.func51, Try.ntmps51
        go_wp2_with fail
        go_ret
        exact ⟨by rw [HR.out]; rfl, (Below.refl _ _).alloc (Nat.le_refl _) _⟩
  have HR := Lib.hid (show C.cellE k ⟨z, n, x⟩ = 7 by simp [C.cellE, hz, hk])
  have z1 : (z != 0) = true := by rw [bne_iff_ne]; exact hz
  have z2 : (z != k) = true := by rw [bne_iff_ne]; exact hk
  generalize str x = X at *
  go_enter Try.func51, Try.ntmps51
  go_wp2_with fail
  go_ret
  exact ⟨by rw [HR.out]; rfl, (Below.refl _ _).alloc (Nat.le_refl _) _⟩

set_option maxHeartbeats 1000000 in
set_option maxRecDepth 100000 in
theorem rchk_any (k : Int) (c : C.Cl) (w : World) (hc : cOk c) (hk64 : -9223372036854775808 ≤ k ∧ k ≤ 9223372036854775807) :
    Calls Try.prog 54 #[.int .i64 k, cag c] w (CErrPost (C.cellE k c) w) := by
  obtain ⟨z, n, x⟩ := c
  unfold cOk at hc
  simp only at hc
  unfold cag
  simp only
  by_cases hz : z = 0
  · subst hz
    by_cases hn : n = 0
    · subst hn
      by_cases hx : x = []
      · subst hx
        have HR := Lib.hid (show C.cellE k ⟨0, 0, []⟩ = 0 by simp [C.cellE])
        have e1 : (str []).toList.isEmpty = true := by rw [str_toList]; rfl
        have e2 : (str []).size = 0 := rfl
        have e3 : (str []).toList = [] := str_toList _
        go_enter Try.func54, Try.ntmps54
        go_wp2_with fail
        go_ret
        exact ⟨by rw [HR.out]; rfl, (Below.refl _ _).alloc (Nat.le_refl _) _⟩
      · skip
        have HR := Lib.hid (show C.cellE k ⟨0, 0, x⟩ = 1 by simp [C.cellE, hx])
        have e1 : (str x).toList.isEmpty = false := by rw [str_toList]; cases x with | nil => exact absurd rfl hx | cons a t => rfl
        have e2 : 0 < (str x).size := by rw [str_size]; exact List.length_pos_iff.2 hx
        have e3 : decide ((0 : Int) < ((str x).size : Int)) = true := decide_eq_true (by omega)
        have e4 : ¬ (str x).toList = [] := by rw [str_toList]; exact hx
        generalize str x = X at *
        clear hx
        go_enter Try.func54, Try.ntmps54
        go_wp2_with fail
        go_ret
        exact ⟨by rw [HR.out]; rfl, (Below.refl _ _).alloc (Nat.le_refl _) _⟩
    · skip
      have HR := Lib.hid (show C.cellE k ⟨0, n, x⟩ = 1 by simp [C.cellE, hn])
      have f1 : ((n : Int) != 0) = true := by rw [bne_iff_ne]; omega
      have f2 : ¬ (n : Int) = 0 := by omega
      generalize str x = X at *
      go_enter Try.func54, Try.ntmps54
      go_wp2_with fail
      go_ret
      exact ⟨by rw [HR.out]; rfl, (Below.refl _ _).alloc (Nat.le_refl _) _⟩
  by_cases hk : z = k
  · subst hk
    by_cases hn : n = 0
    · subst hn
      by_cases hx : x = []
      · subst hx
        by_cases h1 : z = 1
        · subst h1
          have HR := Lib.hid (show C.cellE 1 ⟨1, 0, []⟩ = 0 by simp [C.cellE])
          have e1 : (str []).toList.isEmpty = true := by rw [str_toList]; rfl
          have e2 : (str []).size = 0 := rfl
          have e3 : (str []).toList = [] := str_toList _
          go_enter Try.func54, Try.ntmps54
          go_wp2_with fail
          go_ret
          exact ⟨by rw [HR.out]; rfl, (Below.refl _ _).alloc (Nat.le_refl _) _⟩
        by_cases h2 : z = 2
        · subst h2
          have HR := Lib.hid (show C.cellE 2 ⟨2, 0, []⟩ = 0 by simp [C.cellE])
          have e1 : (str []).toList.isEmpty = true := by rw [str_toList]; rfl
          have e2 : (str []).size = 0 := rfl
          have e3 : (str []).toList = [] := str_toList _
          go_enter Try.func54, Try.ntmps54
          go_wp2_with fail
          go_ret
          exact ⟨by rw [HR.out]; rfl, (Below.refl _ _).alloc (Nat.le_refl _) _⟩
        have HR := Lib.hid (show C.cellE z ⟨z, 0, []⟩ = 0 by simp [C.cellE, hz])
        have z1 : (z != 0) = true := by rw [bne_iff_ne]; exact hz
        have z2 : (z != z) = false := by rw [bne_eq_false_iff_eq]
        have z3 : (z != 1) = true := by rw [bne_iff_ne]; exact h1
        have z4 : (z != 2) = true := by rw [bne_iff_ne]; exact h2
        have e1 : (str []).toList.isEmpty = true := by rw [str_toList]; rfl
        have e2 : (str []).size = 0 := rfl
        have e3 : (str []).toList = [] := str_toList _
        go_enter Try.func54, Try.ntmps54
        go_wp2_with fail
        go_ret
        exact ⟨by rw [HR.out]; rfl, (Below.refl _ _).alloc (Nat.le_refl _) _⟩
      · by_cases h2 : z = 2
        · subst h2
          by_cases hl : 16 < x.length
          · skip
            have HR := Lib.hid (show C.cellE 2 ⟨2, 0, x⟩ = 2 by simp [C.cellE, hx, hl])
            have e1 : (str x).toList.isEmpty = false := by rw [str_toList]; cases x with | nil => exact absurd rfl hx | cons a t => rfl
            have e2 : 0 < (str x).size := by rw [str_size]; exact List.length_pos_iff.2 hx
            have e3 : decide ((0 : Int) < ((str x).size : Int)) = true := decide_eq_true (by omega)
            have e4 : ¬ (str x).toList = [] := by rw [str_toList]; exact hx
            have l1 : 16 < (str x).size := by rw [str_size]; exact hl
            have l2 : decide ((16 : Int) < ((str x).size : Int)) = true := decide_eq_true (by omega)
            generalize str x = X at *
            clear hx hl
            go_enter Try.func54, Try.ntmps54
            go_wp2_with fail
            go_ret
            exact ⟨by rw [HR.out]; rfl, (Below.refl _ _).alloc (Nat.le_refl _) _⟩
          · skip
            have HR := Lib.hid (show C.cellE 2 ⟨2, 0, x⟩ = 0 by simp [C.cellE, hx, hl])
            have e1 : (str x).toList.isEmpty = false := by rw [str_toList]; cases x with | nil => exact absurd rfl hx | cons a t => rfl
            have e2 : 0 < (str x).size := by rw [str_size]; exact List.length_pos_iff.2 hx
            have e3 : decide ((0 : Int) < ((str x).size : Int)) = true := decide_eq_true (by omega)
            have e4 : ¬ (str x).toList = [] := by rw [str_toList]; exact hx
            have l1 : ¬ 16 < (str x).size := by rw [str_size]; exact hl
            have l2 : decide ((16 : Int) < ((str x).size : Int)) = false := decide_eq_false (by omega)
            generalize str x = X at *
            clear hx hl
            go_enter Try.func54, Try.ntmps54
            go_wp2_with fail
            go_ret
            exact ⟨by rw [HR.out]; rfl, (Below.refl _ _).alloc (Nat.le_refl _) _⟩
        · by_cases h1 : z = 1
          · subst h1
            have HR := Lib.hid (show C.cellE 1 ⟨1, 0, x⟩ = 1 by simp [C.cellE, hx])
            have e1 : (str x).toList.isEmpty = false := by rw [str_toList]; cases x with | nil => exact absurd rfl hx | cons a t => rfl
            have e2 : 0 < (str x).size := by rw [str_size]; exact List.length_pos_iff.2 hx
            have e3 : decide ((0 : Int) < ((str x).size : Int)) = true := decide_eq_true (by omega)
            have e4 : ¬ (str x).toList = [] := by rw [str_toList]; exact hx
            generalize str x = X at *
            clear hx
            go_enter Try.func54, Try.ntmps54
            go_wp2_with fail
            go_ret
            exact ⟨by rw [HR.out]; rfl, (Below.refl _ _).alloc (Nat.le_refl _) _⟩
          have HR := Lib.hid (show C.cellE z ⟨z, 0, x⟩ = 1 by simp [C.cellE, hx, hz, h2])
          have z1 : (z != 0) = true := by rw [bne_iff_ne]; exact hz
          have z2 : (z != z) = false := by rw [bne_eq_false_iff_eq]
          have z3 : (z != 1) = true := by rw [bne_iff_ne]; exact h1
          have z4 : (z != 2) = true := by rw [bne_iff_ne]; exact h2
          have e1 : (str x).toList.isEmpty = false := by rw [str_toList]; cases x with | nil => exact absurd rfl hx | cons a t => rfl
          have e2 : 0 < (str x).size := by rw [str_size]; exact List.length_pos_iff.2 hx
          have e3 : decide ((0 : Int) < ((str x).size : Int)) = true := decide_eq_true (by omega)
          have e4 : ¬ (str x).toList = [] := by rw [str_toList]; exact hx
          generalize str x = X at *
          clear hx
          go_enter Try.func54, Try.ntmps54
          go_wp2_with fail
          go_ret
          exact ⟨by rw [HR.out]; rfl, (Below.refl _ _).alloc (Nat.le_refl _) _⟩
    · by_cases h1 : z = 1
      · subst h1
        by_cases hx : x = []
        · subst hx
          have HR := Lib.hid (show C.cellE 1 ⟨1, n, []⟩ = 0 by simp [C.cellE, hn])
          have f1 : ((n : Int) != 0) = true := by rw [bne_iff_ne]; omega
          have f2 : ¬ (n : Int) = 0 := by omega
          have e1 : (str []).toList.isEmpty = true := by rw [str_toList]; rfl
          have e2 : (str []).size = 0 := rfl
          have e3 : (str []).toList = [] := str_toList _
          go_enter Try.func54, Try.ntmps54
          go_wp2_with fail
          go_ret
          exact ⟨by rw [HR.out]; rfl, (Below.refl _ _).alloc (Nat.le_refl _) _⟩
        · skip
          have HR := Lib.hid (show C.cellE 1 ⟨1, n, x⟩ = 1 by simp [C.cellE, hn, hx])
          have f1 : ((n : Int) != 0) = true := by rw [bne_iff_ne]; omega
          have f2 : ¬ (n : Int) = 0 := by omega
          have e1 : (str x).toList.isEmpty = false := by rw [str_toList]; cases x with | nil => exact absurd rfl hx | cons a t => rfl
          have e2 : 0 < (str x).size := by rw [str_size]; exact List.length_pos_iff.2 hx
          have e3 : decide ((0 : Int) < ((str x).size : Int)) = true := decide_eq_true (by omega)
          have e4 : ¬ (str x).toList = [] := by rw [str_toList]; exact hx
          generalize str x = X at *
          clear hx
          go_enter Try.func54, Try.ntmps54
          go_wp2_with fail
          go_ret
          exact ⟨by rw [HR.out]; rfl, (Below.refl _ _).alloc (Nat.le_refl _) _⟩
      · skip
        have HR := Lib.hid (show C.cellE z ⟨z, n, x⟩ = 1 by simp [C.cellE, hn, hz, h1])
        have f1 : ((n : Int) != 0) = true := by rw [bne_iff_ne]; omega
        have f2 : ¬ (n : Int) = 0 := by omega
        have z1 : (z != 0) = true := by rw [bne_iff_ne]; exact hz
        have z2 : (z != z) = false := by rw [bne_eq_false_iff_eq]
        have z3 : (z != 1) = true := by rw [bne_iff_ne]; exact h1
        generalize str x = X at *
        go_enter Try.func54, Try.ntmps54
        go_wp2_with fail
        go_ret
        exact ⟨by rw [HR.out]; rfl, (Below.refl _ _).alloc (Nat.le_refl _) _⟩
  have HR := Lib.hid (show C.cellE k ⟨z, n, x⟩ = 7 by simp [C.cellE, hz, hk])
  have z1 : (z != 0) = true := by rw [bne_iff_ne]; exact hz
  have z2 : (z != k) = true := by rw [bne_iff_ne]; exact hk
  generalize str x = X at *
  go_enter Try.func54, Try.ntmps54
  go_wp2_with fail
  go_ret
  exact ⟨by rw [HR.out]; rfl, (Below.refl _ _).alloc (Nat.le_refl _) _⟩
end Go.Proofs.Ytecfknolpnjokaa
/- The walks of nulls.first with each of its functions; of nulls.Check, nulls.fit, hypostyleref.CellsCheck. -/
namespace Go.Proofs.Ytecfknolpnjokaa
open Go.RowKit
set_option linter.unusedVariables false

/-- what is wrong with the first cell with which something is -/
def listE (e : C.Cl → Nat) : List C.Cl → Nat
  | [] => 0
  | c :: t => if e c ≠ 0 then e c else listE e t
theorem listE_step (e : C.Cl → Nat) (l : List C.Cl) (j : Nat) (h : j < l.length) : listE e (l.drop j) = if e (l.getD j C.null) ≠ 0 then e (l.getD j C.null) else listE e (l.drop (j + 1)) := by
  rw [List.drop_eq_getElem_cons h, listE]
  simp [List.getD, List.getElem?_eq_getElem h]
theorem chkL_listE (k : Int) : ∀ l : List C.Cl, C.chkL k l = listE (C.cellE k) l := by
  intro l
  induction l with
  | nil => rfl
  | cons c t ih => rw [C.chkL, listE, ih]
set_option maxHeartbeats 1000000 in
set_option maxRecDepth 100000 in
theorem first_chk (w : World) (Cb : Nat) (k : Int) (hB : Boxed w Cb 3 (.int .i64 k)) (a : Option Addr) (c : Nat) (l : List C.Cl) (hl : l.length ≤ 64) (hx : ∀ x ∈ l, cOk x) (hu : Cls w w.heap.size a l) :
    Calls Try.prog 50 #[.slice a l.length c, .func (.func 51) #[] #[.pointer (some ⟨Cb, 0, none⟩)]] w (CErrPost (listE (C.cellE k) l) w) := by
  have HU := Lib.hid hu
  have HST := Lib.hid (fun j h => listE_step (C.cellE k) l j h)
  have HC := Lib.hid (fun x W (hx : cOk x) (hb : Below w.heap.size w W) => cchk_any Cb k x W hx ((hb.block Cb hB.lt).trans hB))
  have HOK := Lib.hid (fun j (h : j < l.length) => hx _ (cgetD_mem l j h))
  have HR0 := Lib.hid (show listE (C.cellE k) l = listE (C.cellE k) (l.drop 0) from rfl)
  generalize (C.cellE k) = p at *
  obtain ⟨R, hR⟩ : ∃ R, R = listE p l := ⟨_, rfl⟩
  rw [← hR] at HR0 ⊢
  clear hu hx hR hB
  go_enter Try.func50, Try.ntmps50
  go_wp2_with fail
  go_loopw [6, 7, 10] (fun _ _ i wr => ∃ j : Nat, j ≤ l.length ∧ i = .int .i64 j ∧ Below w.heap.size w wr ∧ Hid (R = listE p (l.drop j))) (fun _ _ i _ => l.length - (intOf i).toNat)
  case atStart => exact ⟨0, by omega, rfl, Below.refl _ _, HR0⟩
  case round =>
    obtain ⟨j, hj, rfl, hbw, HJ⟩ := hrel
    by_cases hlt : j < l.length
    · obtain ⟨b, off, rfl, hb, hcc⟩ := HU.out (fun e => by rw [e] at hlt; simp at hlt)
      obtain ⟨k0, k1, k2⟩ := hcc j hlt
      have c0 := (hbw.cell (p := ⟨b, off + j * 3, none⟩) hb).trans k0
      have c1 := (hbw.cell (p := ⟨b, off + j * 3 + 1, none⟩) hb).trans k1
      have c2 := (hbw.cell (p := ⟨b, off + j * 3 + 2, none⟩) hb).trans k2
      have hst := HST.out j hlt
      have hok := HOK.out j hlt
      have hcall := HC.out (l.getD j C.null) (wr.alloc (.cells #[.int .i64 (l.getD j C.null).kind, .int .u64 ((l.getD j C.null).num : Int), .string (str (l.getD j C.null).txt)] 38)) hok (hbw.alloc hbw.size _)
      unfold cag at hcall
      generalize (l.getD j C.null).kind = z at *
      generalize (l.getD j C.null).num = n at *
      generalize str (l.getD j C.null).txt = X at *
      generalize p (l.getD j C.null) = er at *
      have HCX := Lib.hid hcall
      have hjI : (j : Int) < (l.length : Int) := by omega
      clear k0 k1 k2 hcc hcall hok
      by_cases ho : er ≠ 0
      · rw [if_pos ho] at hst
        have HRJ := Lib.hid (show R = er by rw [HJ.out, hst])
        have g1 : ((er : Int) != 0) = true := by rw [bne_iff_ne]; omega
        clear hst ho
        go_wp2_with fail
        refine (HCX.out).mono ?_
        rintro e w1 ⟨rfl, hb1⟩
        go_wp2_with fail
        go_ret
        exact ⟨by rw [HRJ.out]; rfl, below_then (hbw.alloc hbw.size _) hb1⟩
      · obtain rfl : er = 0 := by omega
        rw [if_neg (by simp)] at hst
        have HN := Lib.hid (show R = listE p (l.drop (j + 1)) by rw [HJ.out, hst])
        clear hst ho
        go_wp2_with fail
        refine (HCX.out).mono ?_
        rintro e w1 ⟨rfl, hb1⟩
        go_wp2_with fail
        exact ⟨⟨j + 1, by omega, by go_num, below_then (hbw.alloc hbw.size _) hb1, HN⟩, by simp [intOf]; omega⟩
    · obtain rfl : j = l.length := by omega
      have HRE := Lib.hid (show R = 0 by rw [HJ.out, List.drop_length]; rfl)
      go_wp2_with fail
      go_ret
      exact ⟨by rw [HRE.out]; rfl, hbw⟩

theorem chk_kind {k : Int} {l : List C.Cl} (h : k ≠ 1 ∧ k ≠ 2) : C.chk k l = 7 := by unfold C.chk; rw [if_pos h]
theorem chk_many {k : Int} {l : List C.Cl} (h : ¬ (k ≠ 1 ∧ k ≠ 2)) (h2 : 64 < l.length) : C.chk k l = 2 := by unfold C.chk; rw [if_neg h, if_pos h2]
theorem chk_list {k : Int} {l : List C.Cl} (h : ¬ (k ≠ 1 ∧ k ≠ 2)) (h2 : ¬ 64 < l.length) : C.chk k l = listE (C.cellE k) l := by unfold C.chk; rw [if_neg h, if_neg h2, chkL_listE]

theorem boxed_new (w : World) (v : Value) (t : TypeId) : Boxed (w.alloc (.cells #[v] t)) w.heap.size t v := heap_alloc_new _ _

set_option maxHeartbeats 1000000 in
set_option maxRecDepth 100000 in
theorem ncheck_any (k : Int) (a : Option Addr) (c : Nat) (l : List C.Cl) (w : World) (hm : l.length ≤ maxLen) (hx : ∀ x ∈ l, cOk x) (hu : Cls w w.heap.size a l) :
    Calls Try.prog 22 #[.int .i64 k, .slice a l.length c] w (CErrPost (C.chk k l) w) := by
  unfold maxLen at hm
  have hal : Below w.heap.size w (w.alloc (.cells #[.int .i64 k] 3)) := (Below.refl _ _).alloc (Nat.le_refl _) _
  by_cases hk : k ≠ 1 ∧ k ≠ 2
  · have HR := Lib.hid (chk_kind (l := l) hk)
    have g1 : (k != 1) = true := by rw [bne_iff_ne]; exact hk.1
    have g2 : (k != 2) = true := by rw [bne_iff_ne]; exact hk.2
    clear hu hx
    go_enter Try.func22, Try.ntmps22
    go_wp2_with fail
    go_ret
    exact ⟨by rw [HR.out]; rfl, hal⟩
  by_cases hl : 64 < l.length
  · have HR := Lib.hid (chk_many hk hl)
    have g3 : decide ((64 : Int) < (l.length : Int)) = true := decide_eq_true (by omega)
    clear hu hx
    have hk2 : k = 1 ∨ k = 2 := by omega
    rcases hk2 with rfl | rfl
    · go_enter Try.func22, Try.ntmps22
      go_wp2_with fail
      go_ret
      exact ⟨by rw [HR.out]; rfl, hal⟩
    · go_enter Try.func22, Try.ntmps22
      go_wp2_with fail
      go_ret
      exact ⟨by rw [HR.out]; rfl, hal⟩
  · have HR := Lib.hid (chk_list hk hl)
    have HF := Lib.hid (first_chk (w.alloc (.cells #[.int .i64 k] 3)) w.heap.size k (boxed_new _ _ _) a c l (by omega) hx (hu.next hal))
    have g3 : decide ((64 : Int) < (l.length : Int)) = false := decide_eq_false (by omega)
    clear hu hx
    have hk2 : k = 1 ∨ k = 2 := by omega
    rcases hk2 with rfl | rfl
    · go_enter Try.func22, Try.ntmps22
      go_wp2_with fail
      refine (HF.out).mono ?_
      rintro e w1 ⟨rfl, hb1⟩
      go_wp2_with fail
      go_ret
      exact ⟨by rw [HR.out]; rfl, below_then hal hb1⟩
    · go_enter Try.func22, Try.ntmps22
      go_wp2_with fail
      refine (HF.out).mono ?_
      rintro e w1 ⟨rfl, hb1⟩
      go_wp2_with fail
      go_ret
      exact ⟨by rw [HR.out]; rfl, below_then hal hb1⟩

set_option maxHeartbeats 1000000 in
set_option maxRecDepth 100000 in
theorem crcheck_any (k : Int) (a : Option Addr) (c : Nat) (l : List C.Cl) (w : World) (hk64 : -9223372036854775808 ≤ k ∧ k ≤ 9223372036854775807) (hm : l.length ≤ maxLen) (hx : ∀ x ∈ l, cOk x) (hu : Cls w w.heap.size a l) :
    Calls Try.prog 27 #[.int .i64 k, .slice a l.length c] w (CErrPost (C.chk k l) w) := by
  unfold maxLen at hm
  by_cases hk : k ≠ 1 ∧ k ≠ 2
  · have HR := Lib.hid (chk_kind (l := l) hk)
    have g1 : (k != 1) = true := by rw [bne_iff_ne]; exact hk.1
    have g2 : (k != 2) = true := by rw [bne_iff_ne]; exact hk.2
    clear hu hx
    go_enter Try.func27, Try.ntmps27
    go_wp2_with fail
    go_ret
    exact ⟨by rw [HR.out]; rfl, Below.refl _ _⟩
  by_cases hl : 64 < l.length
  · have HR := Lib.hid (chk_many hk hl)
    have g3 : decide ((64 : Int) < (l.length : Int)) = true := decide_eq_true (by omega)
    clear hu hx
    have hk2 : k = 1 ∨ k = 2 := by omega
    rcases hk2 with rfl | rfl
    · go_enter Try.func27, Try.ntmps27
      go_wp2_with fail
      go_ret
      exact ⟨by rw [HR.out]; rfl, Below.refl _ _⟩
    · go_enter Try.func27, Try.ntmps27
      go_wp2_with fail
      go_ret
      exact ⟨by rw [HR.out]; rfl, Below.refl _ _⟩
  have HU := Lib.hid hu
  have HST := Lib.hid (fun j h => listE_step (C.cellE k) l j h)
  have HC := Lib.hid (fun x W (hx : cOk x) => rchk_any k x W hx hk64)
  have HOK := Lib.hid (fun j (h : j < l.length) => hx _ (cgetD_mem l j h))
  have HR0 := Lib.hid (show listE (C.cellE k) l = listE (C.cellE k) (l.drop 0) from rfl)
  rw [chk_list hk hl]
  generalize (C.cellE k) = p at *
  obtain ⟨R, hR⟩ : ∃ R, R = listE p l := ⟨_, rfl⟩
  rw [← hR] at HR0 ⊢
  have g3 : decide ((64 : Int) < (l.length : Int)) = false := decide_eq_false (by omega)
  have hg : ((k != 1) && (k != 2)) = false := by
    have hk2 : k = 1 ∨ k = 2 := by omega
    rcases hk2 with rfl | rfl <;> rfl
  clear hu hx hR
  have hk2 : k = 1 ∨ k = 2 := by omega
  rcases hk2 with rfl | rfl
  · go_enter Try.func27, Try.ntmps27
    go_wp2_with fail
    go_loopw [5, 6] (fun i _ wr => ∃ j : Nat, j ≤ l.length ∧ i = .int .i64 j ∧ Below w.heap.size w wr ∧ Hid (R = listE p (l.drop j))) (fun i _ _ => l.length - (intOf i).toNat)
    case atStart => exact ⟨0, by omega, rfl, Below.refl _ _, HR0⟩
    case round =>
      obtain ⟨j, hj, rfl, hbw, HJ⟩ := hrel
      by_cases hlt : j < l.length
      · obtain ⟨b, off, rfl, hb, hcc⟩ := HU.out (fun e => by rw [e] at hlt; simp at hlt)
        obtain ⟨k0, k1, k2⟩ := hcc j hlt
        have c0 := (hbw.cell (p := ⟨b, off + j * 3, none⟩) hb).trans k0
        have c1 := (hbw.cell (p := ⟨b, off + j * 3 + 1, none⟩) hb).trans k1
        have c2 := (hbw.cell (p := ⟨b, off + j * 3 + 2, none⟩) hb).trans k2
        have hst := HST.out j hlt
        have hok := HOK.out j hlt
        have hcall := HC.out (l.getD j C.null) wr hok
        unfold cag at hcall
        generalize (l.getD j C.null).kind = z at *
        generalize (l.getD j C.null).num = n at *
        generalize str (l.getD j C.null).txt = X at *
        generalize p (l.getD j C.null) = er at *
        have HCX := Lib.hid hcall
        have hjI : (j : Int) < (l.length : Int) := by omega
        clear k0 k1 k2 hcc hcall hok
        by_cases ho : er ≠ 0
        · rw [if_pos ho] at hst
          have HRJ := Lib.hid (show R = er by rw [HJ.out, hst])
          have g1 : ((er : Int) != 0) = true := by rw [bne_iff_ne]; omega
          clear hst ho
          go_wp2_with fail
          refine (HCX.out).mono ?_
          rintro e w1 ⟨rfl, hb1⟩
          go_wp2_with fail
          go_ret
          exact ⟨by rw [HRJ.out]; rfl, below_then hbw hb1⟩
        · obtain rfl : er = 0 := by omega
          rw [if_neg (by simp)] at hst
          have HN := Lib.hid (show R = listE p (l.drop (j + 1)) by rw [HJ.out, hst])
          clear hst ho
          go_wp2_with fail
          refine (HCX.out).mono ?_
          rintro e w1 ⟨rfl, hb1⟩
          go_wp2_with fail
          exact ⟨⟨j + 1, by omega, by go_num, below_then hbw hb1, HN⟩, by simp [intOf]; omega⟩
      · obtain rfl : j = l.length := by omega
        have HRE := Lib.hid (show R = 0 by rw [HJ.out, List.drop_length]; rfl)
        go_wp2_with fail
        go_ret
        exact ⟨by rw [HRE.out]; rfl, hbw⟩
  · go_enter Try.func27, Try.ntmps27
    go_wp2_with fail
    go_loopw [5, 6] (fun i _ wr => ∃ j : Nat, j ≤ l.length ∧ i = .int .i64 j ∧ Below w.heap.size w wr ∧ Hid (R = listE p (l.drop j))) (fun i _ _ => l.length - (intOf i).toNat)
    case atStart => exact ⟨0, by omega, rfl, Below.refl _ _, HR0⟩
    case round =>
      obtain ⟨j, hj, rfl, hbw, HJ⟩ := hrel
      by_cases hlt : j < l.length
      · obtain ⟨b, off, rfl, hb, hcc⟩ := HU.out (fun e => by rw [e] at hlt; simp at hlt)
        obtain ⟨k0, k1, k2⟩ := hcc j hlt
        have c0 := (hbw.cell (p := ⟨b, off + j * 3, none⟩) hb).trans k0
        have c1 := (hbw.cell (p := ⟨b, off + j * 3 + 1, none⟩) hb).trans k1
        have c2 := (hbw.cell (p := ⟨b, off + j * 3 + 2, none⟩) hb).trans k2
        have hst := HST.out j hlt
        have hok := HOK.out j hlt
        have hcall := HC.out (l.getD j C.null) wr hok
        unfold cag at hcall
        generalize (l.getD j C.null).kind = z at *
        generalize (l.getD j C.null).num = n at *
        generalize str (l.getD j C.null).txt = X at *
        generalize p (l.getD j C.null) = er at *
        have HCX := Lib.hid hcall
        have hjI : (j : Int) < (l.length : Int) := by omega
        clear k0 k1 k2 hcc hcall hok
        by_cases ho : er ≠ 0
        · rw [if_pos ho] at hst
          have HRJ := Lib.hid (show R = er by rw [HJ.out, hst])
          have g1 : ((er : Int) != 0) = true := by rw [bne_iff_ne]; omega
          clear hst ho
          go_wp2_with fail
          refine (HCX.out).mono ?_
          rintro e w1 ⟨rfl, hb1⟩
          go_wp2_with fail
          go_ret
          exact ⟨by rw [HRJ.out]; rfl, below_then hbw hb1⟩
        · obtain rfl : er = 0 := by omega
          rw [if_neg (by simp)] at hst
          have HN := Lib.hid (show R = listE p (l.drop (j + 1)) by rw [HJ.out, hst])
          clear hst ho
          go_wp2_with fail
          refine (HCX.out).mono ?_
          rintro e w1 ⟨rfl, hb1⟩
          go_wp2_with fail
          exact ⟨⟨j + 1, by omega, by go_num, below_then hbw hb1, HN⟩, by simp [intOf]; omega⟩
      · obtain rfl : j = l.length := by omega
        have HRE := Lib.hid (show R = 0 by rw [HJ.out, List.drop_length]; rfl)
        go_wp2_with fail
        go_ret
        exact ⟨by rw [HRE.out]; rfl, hbw⟩
end Go.Proofs.Ytecfknolpnjokaa
/- The walks of stats.Check's function, slices.IndexFunc and ContainsFunc with it, stats.Check. -/
namespace Go.Proofs.Ytecfknolpnjokaa
open Go.RowKit
set_option linter.unusedVariables false

/-- is a cell a Null, where there should be none, or none, where there should be Nulls? -/
def wrg (n : Bool) (c : C.Cl) : Bool := (c.kind == 0) != n
set_option maxHeartbeats 400000 in
theorem wclos_any (Cb : Nat) (n : Bool) (c : C.Cl) (w : World) (hB : Boxed w Cb 4 (.bool n)) :
    Calls Try.prog 59 #[cag c, .pointer (some ⟨Cb, 0, none⟩)] w (BoolPost (wrg n c) w) := by
  have c0 := hB.cell
  have hlt := hB.lt
  have hne : ¬ Cb = w.heap.size := by omega
  have hne2 : ¬ w.heap.size = Cb := by omega
  have HR := Lib.hid (show wrg n c = ((c.kind == 0) != n) from rfl)
  generalize wrg n c = R at *
  unfold cag
  generalize str c.txt = cx at *
  generalize c.kind = ck at *
  generalize c.num = cn at *
  clear hB
  go_enter Try.func59, Try.ntmps59
  go_wp2_with fail
  go_ret
  exact ⟨by rw [HR.out]; rfl, (Below.refl _ _).alloc (Nat.le_refl _) _⟩

theorem cidx_step (p : C.Cl → Bool) (l : List C.Cl) (j : Nat) (h : j < l.length) : (l.drop j).findIdx p = if p (l.getD j C.null) = true then 0 else (l.drop (j + 1)).findIdx p + 1 := by
  rw [List.drop_eq_getElem_cons h, List.findIdx_cons]
  simp only [List.getD, List.getElem?_eq_getElem h, Option.getD_some]
  cases p l[j] <;> simp
def cidx (p : C.Cl → Bool) (l : List C.Cl) : Int := if l.findIdx p < l.length then (l.findIdx p : Nat) else -1

set_option maxHeartbeats 1000000 in
set_option maxRecDepth 100000 in
theorem index_wrong (w : World) (Cb : Nat) (n : Bool) (hB : Boxed w Cb 4 (.bool n)) (a : Option Addr) (c : Nat) (l : List C.Cl) (hl : l.length ≤ 64) (hu : Cls w w.heap.size a l) :
    Calls Try.prog 72 #[.slice a l.length c, .func (.func 59) #[] #[.pointer (some ⟨Cb, 0, none⟩)]] w fun e w' => e = .returned (.int .i64 (cidx (wrg n) l)) ∧ Below w.heap.size w w' := by
  have HU := Lib.hid hu
  have HST := Lib.hid (fun j h => cidx_step (wrg n) l j h)
  have HC := Lib.hid (fun x W (hb : Below w.heap.size w W) => wclos_any Cb n x W ((hb.block Cb hB.lt).trans hB))
  have HI := Lib.hid (show cidx (wrg n) l = if l.findIdx (wrg n) < l.length then ((l.findIdx (wrg n) : Nat) : Int) else -1 from rfl)
  generalize cidx (wrg n) l = I at *
  generalize wrg n = p at *
  clear hu hB
  generalize hR : l.findIdx p = R at *
  have HR0 := Lib.hid (show R = 0 + (l.drop 0).findIdx p by rw [← hR]; simp)
  clear hR
  go_enter Try.func72, Try.ntmps72
  go_wp2_with fail
  go_loopw [5, 8] (fun _ i wr => ∃ j : Nat, j ≤ l.length ∧ i = .int .i64 j ∧ Below w.heap.size w wr ∧ Hid (R = j + (l.drop j).findIdx p)) (fun _ i _ => l.length - (intOf i).toNat)
  case atStart => exact ⟨0, by omega, rfl, Below.refl _ _, HR0⟩
  case round =>
    obtain ⟨j, hj, rfl, hbw, HJ⟩ := hrel
    by_cases hlt : j < l.length
    · obtain ⟨b, off, rfl, hb, hcc⟩ := HU.out (fun e => by rw [e] at hlt; simp at hlt)
      obtain ⟨k0, k1, k2⟩ := hcc j hlt
      have c0 := (hbw.cell (p := ⟨b, off + j * 3, none⟩) hb).trans k0
      have c1 := (hbw.cell (p := ⟨b, off + j * 3 + 1, none⟩) hb).trans k1
      have c2 := (hbw.cell (p := ⟨b, off + j * 3 + 2, none⟩) hb).trans k2
      have hst := HST.out j hlt
      have HCX := Lib.hid (HC.out (l.getD j C.null) wr hbw)
      have hjI : (j : Int) < (l.length : Int) := by omega
      unfold cag at HCX
      generalize (l.getD j C.null).kind = z at *
      generalize (l.getD j C.null).num = m at *
      generalize str (l.getD j C.null).txt = X at *
      generalize ho : p (l.getD j C.null) = q at *
      clear k0 k1 k2 hcc ho
      cases q
      · rw [if_neg (by simp)] at hst
        have HN := Lib.hid (show R = (j + 1) + (l.drop (j + 1)).findIdx p by rw [HJ.out, hst]; omega)
        clear hst
        go_wp2_with fail
        refine (HCX.out).mono ?_
        rintro e w1 ⟨rfl, hb1⟩
        have h2 := below_then hbw hb1
        go_wp2_with fail
        exact ⟨⟨j + 1, by omega, by go_num, h2, HN⟩, by simp [intOf]; omega⟩
      · rw [if_pos rfl] at hst
        have HRJ := Lib.hid (show I = (j : Int) by rw [HI.out, HJ.out, hst, Nat.add_zero, if_pos hlt])
        clear hst
        go_wp2_with fail
        refine (HCX.out).mono ?_
        rintro e w1 ⟨rfl, hb1⟩
        have h2 := below_then hbw hb1
        go_wp2_with fail
        go_ret
        exact ⟨by rw [HRJ.out]; rfl, h2⟩
    · obtain rfl : j = l.length := by omega
      have HRE := Lib.hid (show I = -1 by rw [HI.out, HJ.out, List.drop_length, if_neg (by simp)])
      go_wp2_with fail
      go_ret
      exact ⟨by rw [HRE.out]; rfl, hbw⟩

set_option maxHeartbeats 400000 in
theorem contains_wrong (w : World) (Cb : Nat) (n : Bool) (hB : Boxed w Cb 4 (.bool n)) (a : Option Addr) (c : Nat) (l : List C.Cl) (hl : l.length ≤ 64) (hu : Cls w w.heap.size a l) :
    Calls Try.prog 60 #[.slice a l.length c, .func (.func 59) #[] #[.pointer (some ⟨Cb, 0, none⟩)]] w (BoolPost (decide (l.findIdx (wrg n) < l.length)) w) := by
  have HC := Lib.hid (index_wrong w Cb n hB a c l hl hu)
  have HG := Lib.hid (show decide (0 ≤ cidx (wrg n) l) = decide (l.findIdx (wrg n) < l.length) by unfold cidx; by_cases h : l.findIdx (wrg n) < l.length <;> simp [h])
  generalize cidx (wrg n) l = I at *
  clear hu hB
  go_enter Try.func60, Try.ntmps60
  go_wp2_with fail
  refine (HC.out).mono ?_
  rintro e w1 ⟨rfl, hb⟩
  go_wp2_with fail
  go_ret
  exact ⟨by rw [← HG.out]; rfl, hb⟩

theorem six_cls {w : World} {b : Nat} {x y : C.Cl} (h : Six w b [.int .i64 x.kind, .int .u64 (x.num : Int), .string (str x.txt), .int .i64 y.kind, .int .u64 (y.num : Int), .string (str y.txt)]) : Cls w w.heap.size (some ⟨b, 0, none⟩) [x, y] := by
  intro _
  obtain ⟨a0, a1, a2, a3, a4, a5⟩ := h.cells
  refine ⟨b, 0, rfl, h.lt, fun i hi => ?_⟩
  match i, hi with
  | 0, _ => exact ⟨a0, a1, a2⟩
  | 1, _ => exact ⟨a3, a4, a5⟩
theorem two_idx (p : C.Cl → Bool) (x y : C.Cl) : decide ([x, y].findIdx p < [x, y].length) = (p x || p y) := by
  simp only [List.findIdx_cons, List.findIdx_nil, List.length_cons, List.length_nil]
  cases p x <;> cases p y <;> decide

/-- what is asked of both ends -/
theorem ck_ends {k : Int} {s : S.St} (h1 : ¬ (k ≠ 1 ∧ k ≠ 2)) (h2 : ¬ (s.rows < 0 ∨ 128 < s.rows ∨ s.nulls < 0 ∨ s.rows < s.nulls)) :
    S.ck k s = if C.chk k [s.least, s.most] ≠ 0 then C.chk k [s.least, s.most] else if (wrg (s.nulls == s.rows) s.least || wrg (s.nulls == s.rows) s.most) = true then 4 else if C.less s.most s.least = true then 4 else 0 := by
  have hc : C.chk k [s.least, s.most] = if C.cellE k s.least ≠ 0 then C.cellE k s.least else if C.cellE k s.most ≠ 0 then C.cellE k s.most else 0 := by
    rw [chk_list h1 (by simp)]; rfl
  unfold S.ck
  rw [if_neg h1, if_neg h2, hc]
  by_cases h3 : C.cellE k s.least ≠ 0
  · rw [if_pos h3, if_pos h3, if_pos h3]
  rw [if_neg h3, if_neg h3]
  by_cases h4 : C.cellE k s.most ≠ 0
  · rw [if_pos h4, if_pos h4, if_pos h4]
  rw [if_neg h4, if_neg h4]
  rw [if_neg (show ¬ ((0 : Nat) ≠ 0) by simp)]
  unfold wrg
  generalize C.less s.most s.least = lt
  generalize s.least.kind = lk at *
  generalize s.most.kind = mk at *
  have hn : s.nulls < s.rows ∨ s.nulls = s.rows := by omega
  rcases hn with hn | hn
  · have e1 : (s.nulls == s.rows) = false := by rw [beq_eq_false_iff_ne]; omega
    have e2 : ¬ s.nulls = s.rows := by omega
    rw [e1]
    by_cases a : lk = 0 <;> by_cases b : mk = 0 <;> cases lt <;> simp [a, b, e2, hn]
  · have e1 : (s.nulls == s.rows) = true := by rw [beq_iff_eq]; exact hn
    rw [e1, hn]
    by_cases a : lk = 0 <;> by_cases b : mk = 0 <;> cases lt <;> simp [a, b]

set_option maxHeartbeats 2000000 in
set_option maxRecDepth 100000 in
theorem scheck_any (k : Int) (s : S.St) (w : World) (hs : sOk s) :
    Calls Try.prog 38 #[.int .i64 k, sag s] w (CErrPost (S.ck k s) w) := by
  have hbel : Below w.heap.size w (w.alloc (.cells (sx s).toArray 40)) := (Below.refl _ _).alloc (Nat.le_refl _) _
  have hO := oct_new w (sx s)
  obtain ⟨hr, hn, hl, hm⟩ := hs
  have HC0 := Lib.hid (fun W => show Calls Try.prog 22 #[.int .i64 k, .slice none 0 0] W (CErrPost (C.chk k []) W) from ncheck_any k none 0 [] W (by simp) (fun x hx => by cases hx) (Cls.nil _ _ _))
  have hlm : ∀ x ∈ [s.least, s.most], cOk x := fun x hx => by
    simp only [List.mem_cons, List.not_mem_nil, or_false] at hx
    rcases hx with rfl | rfl
    · exact hl
    · exact hm
  have HC2 := Lib.hid (fun W b (h : Six W b [.int .i64 s.least.kind, .int .u64 (s.least.num : Int), .string (str s.least.txt), .int .i64 s.most.kind, .int .u64 (s.most.num : Int), .string (str s.most.txt)]) =>
    show Calls Try.prog 22 #[.int .i64 k, .slice (some ⟨b, 0, none⟩) 2 2] W (CErrPost (C.chk k [s.least, s.most]) W) from ncheck_any k (some ⟨b, 0, none⟩) 2 [s.least, s.most] W (by unfold maxLen; simp) hlm (six_cls h))
  have HCW := Lib.hid (fun W b Cb n (h : Six W b [.int .i64 s.least.kind, .int .u64 (s.least.num : Int), .string (str s.least.txt), .int .i64 s.most.kind, .int .u64 (s.most.num : Int), .string (str s.most.txt)]) (hB : Boxed W Cb 4 (.bool n)) =>
    show Calls Try.prog 60 #[.slice (some ⟨b, 0, none⟩) 2 2, .func (.func 59) #[] #[.pointer (some ⟨Cb, 0, none⟩)]] W (BoolPost (wrg n s.least || wrg n s.most) W) by
      rw [← two_idx]; exact contains_wrong W Cb n hB (some ⟨b, 0, none⟩) 2 [s.least, s.most] (by simp) (six_cls h))
  have HL := Lib.hid (fun W => nless_any s.most s.least W)
  unfold sag
  unfold sx at hbel hO
  unfold cag at HL
  have HB := Lib.hid hbel
  have HO := Lib.hid hO
  clear hbel hO hl hm hlm
  by_cases h1 : k ≠ 1 ∧ k ≠ 2
  · have HR := Lib.hid (show S.ck k s = 7 from if_pos h1)
    generalize S.ck k s = R at *
    rw [chk_kind h1] at HC0
    generalize str s.least.txt = lx at *
    generalize str s.most.txt = mx at *
    clear HC2 HCW HL h1
    go_enter Try.func38, Try.ntmps38
    go_wp2_with fail
    refine (HC0.out _).mono ?_
    rintro e w1 ⟨rfl, hb1⟩
    have h2 := below_then HB.out hb1
    go_wp2_with fail
    go_ret
    exact ⟨by rw [HR.out]; rfl, h2⟩
  rw [show C.chk k [] = 0 by rw [chk_list h1 (by simp)]; rfl] at HC0
  by_cases h2 : s.rows < 0 ∨ 128 < s.rows ∨ s.nulls < 0 ∨ s.rows < s.nulls
  · have HR := Lib.hid (show S.ck k s = 3 by unfold S.ck; rw [if_neg h1, if_pos h2])
    generalize S.ck k s = R at *
    have hr4 : (decide (s.rows < 0) = true) ∨ (decide (s.rows < 0) = false ∧ decide (128 < s.rows) = true) ∨ (decide (s.rows < 0) = false ∧ decide (128 < s.rows) = false ∧ decide (s.nulls < 0) = true) ∨ (decide (s.rows < 0) = false ∧ decide (128 < s.rows) = false ∧ decide (s.nulls < 0) = false ∧ decide (s.rows < s.nulls) = true) := by
      simp only [decide_eq_true_eq, decide_eq_false_iff_not]; omega
    generalize str s.least.txt = lx at *
    generalize str s.most.txt = mx at *
    generalize s.rows = r at *
    generalize s.nulls = n at *
    clear HC2 HCW HL h1 h2
    rcases hr4 with r1 | ⟨r1, r2⟩ | ⟨r1, r2, r3⟩ | ⟨r1, r2, r3, r4⟩
    all_goals
      go_enter Try.func38, Try.ntmps38
      go_wp2_with fail
      refine (HC0.out _).mono ?_
      rintro e w1 ⟨rfl, hb1⟩
      have h2 := below_then HB.out hb1
      obtain ⟨o0, o1, o2, o3, o4, o5, o6, o7⟩ := (HO.out.next hb1).cells
      go_wp2_with fail
      go_ret
      exact ⟨by rw [HR.out]; rfl, h2⟩
  have r1 : decide (s.rows < 0) = false := by rw [decide_eq_false_iff_not]; omega
  have r2 : decide (128 < s.rows) = false := by rw [decide_eq_false_iff_not]; omega
  have r3 : decide (s.nulls < 0) = false := by rw [decide_eq_false_iff_not]; omega
  have r4 : decide (s.rows < s.nulls) = false := by rw [decide_eq_false_iff_not]; omega
  have hR := ck_ends h1 h2
  have HSX := Lib.hid (fun (w1 : World) => six_new w1 [.int .i64 s.least.kind, .int .u64 (s.least.num : Int), .string (str s.least.txt), .int .i64 s.most.kind, .int .u64 (s.most.num : Int), .string (str s.most.txt)])
  generalize S.ck k s = R at *
  generalize C.chk k [s.least, s.most] = er at *
  generalize C.less s.most s.least = lt at *
  have HCW1 := Lib.hid (fun W b Cb h hB => HCW.out W b Cb (s.nulls == s.rows) h hB)
  generalize (wrg (s.nulls == s.rows) s.least || wrg (s.nulls == s.rows) s.most) = x at *
  have hnn : ∃ nn, (s.nulls == s.rows) = nn := ⟨_, rfl⟩
  obtain ⟨nn, hnn⟩ := hnn
  rw [hnn] at HCW1
  generalize str s.least.txt = lx at *
  generalize str s.most.txt = mx at *
  generalize s.rows = r at *
  generalize s.nulls = n at *
  generalize s.least.kind = lk at *
  generalize s.least.num = ln at *
  generalize s.most.kind = mk at *
  generalize s.most.num = mm at *
  clear HCW h1 h2 hr hn
  by_cases h3 : er ≠ 0
  · rw [if_pos h3] at hR
    have HR := Lib.hid hR
    have g1 : ((er : Int) != 0) = true := by rw [bne_iff_ne]; omega
    clear hR h3 HCW1 HL
    go_enter Try.func38, Try.ntmps38
    go_wp2_with fail
    refine (HC0.out _).mono ?_
    rintro e w1 ⟨rfl, hb1⟩
    have h2 := below_then HB.out hb1
    obtain ⟨o0, o1, o2, o3, o4, o5, o6, o7⟩ := (HO.out.next hb1).cells
    go_wp2_with fail
    refine (HC2.out _ _ (HSX.out w1)).mono ?_
    rintro e w2 ⟨rfl, hb2⟩
    have h3 := below_then (h2.alloc h2.size _) hb2
    go_wp2_with fail
    go_ret
    exact ⟨by rw [HR.out]; rfl, h3⟩
  obtain rfl : er = 0 := by omega
  rw [if_neg (show ¬ ((0 : Nat) ≠ 0) by simp)] at hR
  clear h3
  cases x
  · rw [if_neg (by decide)] at hR
    cases lt
    · rw [if_neg (by decide)] at hR
      have HR := Lib.hid hR
      clear hR
      go_enter Try.func38, Try.ntmps38
      go_wp2_with fail
      refine (HC0.out _).mono ?_
      rintro e w1 ⟨rfl, hb1⟩
      have h2 := below_then HB.out hb1
      have hO1 := HO.out.next hb1
      obtain ⟨o0, o1, o2, o3, o4, o5, o6, o7⟩ := hO1.cells
      have al := (Below.refl w1.heap.size w1).alloc (Nat.le_refl _) (.cells #[.int .i64 lk, .int .u64 (ln : Int), .string lx, .int .i64 mk, .int .u64 (mm : Int), .string mx] 82)
      have HO1 := Lib.hid (hO1.next al)
      have HB1 := Lib.hid (h2.alloc h2.size (.cells #[.int .i64 lk, .int .u64 (ln : Int), .string lx, .int .i64 mk, .int .u64 (mm : Int), .string mx] 82))
      clear h2 hO1 al hb1
      go_wp2_with fail
      refine (HC2.out _ _ (HSX.out w1)).mono ?_
      rintro e w2 ⟨rfl, hb2⟩
      clear o0 o1 o2 o3 o4 o5 o6 o7
      have hO2 := HO1.out.next hb2
      have hS2 := (HSX.out w1).next hb2
      have h2 := below_then HB1.out hb2
      have al := (Below.refl w2.heap.size w2).alloc (Nat.le_refl _) (.cells #[.bool nn] 4)
      have HS2 := Lib.hid (hS2.next al)
      have HB2 := Lib.hid (h2.alloc h2.size (.cells #[.bool nn] 4))
      have HO2 := Lib.hid (hO2.next al)
      obtain ⟨o0, o1, o2, o3, o4, o5, o6, o7⟩ := hO2.cells
      clear hS2 h2 al hO2 HO1 HB1 hb2
      go_wp2_with fail
      refine (HCW1.out _ _ _ HS2.out (Boxed.new _ _ _)).mono ?_
      rintro e w3 ⟨rfl, hb3⟩
      clear o0 o1 o2 o3 o4 o5 o6 o7
      obtain ⟨o0, o1, o2, o3, o4, o5, o6, o7⟩ := (HO2.out.next hb3).cells
      have h3 := below_then HB2.out hb3
      clear hb3
      go_wp2_with fail
      refine (HL.out _).mono ?_
      rintro e w4 ⟨rfl, hb4⟩
      have h4 := below_then h3 hb4
      go_wp2_with fail
      go_ret
      exact ⟨by rw [HR.out]; rfl, h4⟩
    · rw [if_pos rfl] at hR
      have HR := Lib.hid hR
      clear hR
      go_enter Try.func38, Try.ntmps38
      go_wp2_with fail
      refine (HC0.out _).mono ?_
      rintro e w1 ⟨rfl, hb1⟩
      have h2 := below_then HB.out hb1
      have hO1 := HO.out.next hb1
      obtain ⟨o0, o1, o2, o3, o4, o5, o6, o7⟩ := hO1.cells
      have al := (Below.refl w1.heap.size w1).alloc (Nat.le_refl _) (.cells #[.int .i64 lk, .int .u64 (ln : Int), .string lx, .int .i64 mk, .int .u64 (mm : Int), .string mx] 82)
      have HO1 := Lib.hid (hO1.next al)
      have HB1 := Lib.hid (h2.alloc h2.size (.cells #[.int .i64 lk, .int .u64 (ln : Int), .string lx, .int .i64 mk, .int .u64 (mm : Int), .string mx] 82))
      clear h2 hO1 al hb1
      go_wp2_with fail
      refine (HC2.out _ _ (HSX.out w1)).mono ?_
      rintro e w2 ⟨rfl, hb2⟩
      clear o0 o1 o2 o3 o4 o5 o6 o7
      have hO2 := HO1.out.next hb2
      have hS2 := (HSX.out w1).next hb2
      have h2 := below_then HB1.out hb2
      have al := (Below.refl w2.heap.size w2).alloc (Nat.le_refl _) (.cells #[.bool nn] 4)
      have HS2 := Lib.hid (hS2.next al)
      have HB2 := Lib.hid (h2.alloc h2.size (.cells #[.bool nn] 4))
      have HO2 := Lib.hid (hO2.next al)
      obtain ⟨o0, o1, o2, o3, o4, o5, o6, o7⟩ := hO2.cells
      clear hS2 h2 al hO2 HO1 HB1 hb2
      go_wp2_with fail
      refine (HCW1.out _ _ _ HS2.out (Boxed.new _ _ _)).mono ?_
      rintro e w3 ⟨rfl, hb3⟩
      clear o0 o1 o2 o3 o4 o5 o6 o7
      obtain ⟨o0, o1, o2, o3, o4, o5, o6, o7⟩ := (HO2.out.next hb3).cells
      have h3 := below_then HB2.out hb3
      clear hb3
      go_wp2_with fail
      refine (HL.out _).mono ?_
      rintro e w4 ⟨rfl, hb4⟩
      have h4 := below_then h3 hb4
      go_wp2_with fail
      go_ret
      exact ⟨by rw [HR.out]; rfl, h4⟩
  · rw [if_pos rfl] at hR
    have HR := Lib.hid hR
    clear hR
    go_enter Try.func38, Try.ntmps38
    go_wp2_with fail
    refine (HC0.out _).mono ?_
    rintro e w1 ⟨rfl, hb1⟩
    have h2 := below_then HB.out hb1
    have hO1 := HO.out.next hb1
    obtain ⟨o0, o1, o2, o3, o4, o5, o6, o7⟩ := hO1.cells
    have al := (Below.refl w1.heap.size w1).alloc (Nat.le_refl _) (.cells #[.int .i64 lk, .int .u64 (ln : Int), .string lx, .int .i64 mk, .int .u64 (mm : Int), .string mx] 82)
    have HO1 := Lib.hid (hO1.next al)
    have HB1 := Lib.hid (h2.alloc h2.size (.cells #[.int .i64 lk, .int .u64 (ln : Int), .string lx, .int .i64 mk, .int .u64 (mm : Int), .string mx] 82))
    clear h2 hO1 al hb1
    go_wp2_with fail
    refine (HC2.out _ _ (HSX.out w1)).mono ?_
    rintro e w2 ⟨rfl, hb2⟩
    clear o0 o1 o2 o3 o4 o5 o6 o7
    have hO2 := HO1.out.next hb2
    have hS2 := (HSX.out w1).next hb2
    have h2 := below_then HB1.out hb2
    have al := (Below.refl w2.heap.size w2).alloc (Nat.le_refl _) (.cells #[.bool nn] 4)
    have HS2 := Lib.hid (hS2.next al)
    have HB2 := Lib.hid (h2.alloc h2.size (.cells #[.bool nn] 4))
    have HO2 := Lib.hid (hO2.next al)
    obtain ⟨o0, o1, o2, o3, o4, o5, o6, o7⟩ := hO2.cells
    clear hS2 h2 al hO2 HO1 HB1 hb2
    go_wp2_with fail
    refine (HCW1.out _ _ _ HS2.out (Boxed.new _ _ _)).mono ?_
    rintro e w3 ⟨rfl, hb3⟩
    clear o0 o1 o2 o3 o4 o5 o6 o7
    have h3 := below_then HB2.out hb3
    clear hb3
    go_wp2_with fail
    go_ret
    exact ⟨by rw [HR.out]; rfl, h3⟩
end Go.Proofs.Ytecfknolpnjokaa
/- The walk of hypostyleref.KnownCheck. -/
namespace Go.Proofs.Ytecfknolpnjokaa
open Go.RowKit
set_option linter.unusedVariables false

theorem obel {w : World} (vs : List Value) : Below w.heap.size w (w.alloc (.cells vs.toArray 40)) := (Below.refl _ _).alloc (Nat.le_refl _) _

set_option maxHeartbeats 2000000 in
set_option maxRecDepth 100000 in
theorem kcheck_any (k : Int) (s : S.St) (w : World) (hk : -9223372036854775808 ≤ k ∧ k ≤ 9223372036854775807) (hs : sOk s) :
    Calls Try.prog 43 #[.int .i64 k, sag s] w (CErrPost (S.ck k s) w) := by
  have hbel := obel (w := w) (sx s)
  have hO := oct_new w (sx s)
  obtain ⟨hr, hn, hl, hm⟩ := hs
  have hcl := fun W => rchk_any k s.least W hl hk
  have hcm := fun W => rchk_any k s.most W hm hk
  have hle := fun W => cellLess_any s.most s.least W hm.2.2.2 hl.2.2.2
  unfold sag
  unfold sx at hbel hO
  unfold cag at hcl hcm hle
  by_cases h1 : k ≠ 1 ∧ k ≠ 2
  · have HR := Lib.hid (show S.ck k s = 7 from if_pos h1)
    generalize S.ck k s = R at *
    have g1 : (k != 1) = true := by rw [bne_iff_ne]; exact h1.1
    have g2 : (k != 2) = true := by rw [bne_iff_ne]; exact h1.2
    generalize str s.least.txt = lx at *
    generalize str s.most.txt = mx at *
    clear hcl hcm hle h1
    go_enter Try.func43, Try.ntmps43
    go_wp2_with fail
    go_ret
    exact ⟨by rw [HR.out]; rfl, hbel⟩
  have hg : ((k != 1) = false) ∨ ((k != 1) = true ∧ (k != 2) = false) := by
    by_cases e : k = 1
    · exact Or.inl (by rw [bne_eq_false_iff_eq]; exact e)
    · exact Or.inr ⟨by rw [bne_iff_ne]; exact e, by rw [bne_eq_false_iff_eq]; omega⟩
  by_cases h2 : s.rows < 0 ∨ 128 < s.rows ∨ s.nulls < 0 ∨ s.rows < s.nulls
  · have HR := Lib.hid (show S.ck k s = 3 by unfold S.ck; rw [if_neg h1, if_pos h2])
    generalize S.ck k s = R at *
    have hr4 : (decide (s.rows < 0) = true) ∨ (decide (s.rows < 0) = false ∧ decide (128 < s.rows) = true) ∨ (decide (s.rows < 0) = false ∧ decide (128 < s.rows) = false ∧ decide (s.nulls < 0) = true) ∨ (decide (s.rows < 0) = false ∧ decide (128 < s.rows) = false ∧ decide (s.nulls < 0) = false ∧ decide (s.rows < s.nulls) = true) := by
      simp only [decide_eq_true_eq, decide_eq_false_iff_not]; omega
    generalize str s.least.txt = lx at *
    generalize str s.most.txt = mx at *
    generalize s.rows = r at *
    generalize s.nulls = n at *
    clear hcl hcm hle h1 h2
    rcases hg with g1 | ⟨g1, g2⟩
    all_goals
      rcases hr4 with r1 | ⟨r1, r2⟩ | ⟨r1, r2, r3⟩ | ⟨r1, r2, r3, r4⟩
      all_goals
        go_enter Try.func43, Try.ntmps43
        go_wp2_with fail
        go_ret
        exact ⟨by rw [HR.out]; rfl, hbel⟩
  have r1 : decide (s.rows < 0) = false := by rw [decide_eq_false_iff_not]; omega
  have r2 : decide (128 < s.rows) = false := by rw [decide_eq_false_iff_not]; omega
  have r3 : decide (s.nulls < 0) = false := by rw [decide_eq_false_iff_not]; omega
  have r4 : decide (s.rows < s.nulls) = false := by rw [decide_eq_false_iff_not]; omega
  by_cases h3 : C.cellE k s.least ≠ 0
  · have HR := Lib.hid (show S.ck k s = C.cellE k s.least by unfold S.ck; rw [if_neg h1, if_neg h2, if_pos h3])
    generalize S.ck k s = R at *
    generalize C.cellE k s.least = er at *
    have e1 : ((er : Int) == 0) = false := by rw [beq_eq_false_iff_ne]; omega
    have e2 : ((er : Int) != 0) = true := by rw [bne_iff_ne]; omega
    generalize str s.least.txt = lx at *
    generalize str s.most.txt = mx at *
    generalize s.rows = r at *
    generalize s.nulls = n at *
    have HC := Lib.hid hcl
    clear hcl hcm hle h1 h2 h3
    rcases hg with g1 | ⟨g1, g2⟩
    all_goals
      go_enter Try.func43, Try.ntmps43
      go_wp2_with fail
      refine (HC.out _).mono ?_
      rintro e w1 ⟨rfl, hb1⟩
      go_wp2_with fail
      go_ret
      exact ⟨by rw [HR.out]; rfl, below_then hbel hb1⟩
  have h3' : C.cellE k s.least = 0 := Classical.not_not.1 h3
  rw [h3'] at hcl
  by_cases h4 : C.cellE k s.most ≠ 0
  · have HR := Lib.hid (show S.ck k s = C.cellE k s.most by unfold S.ck; rw [if_neg h1, if_neg h2, if_neg h3, if_pos h4])
    generalize S.ck k s = R at *
    generalize C.cellE k s.most = er at *
    have e2 : ((er : Int) != 0) = true := by rw [bne_iff_ne]; omega
    obtain ⟨o0, o1, o2, o3, o4, o5, o6, o7⟩ := hO.cells
    generalize str s.least.txt = lx at *
    generalize str s.most.txt = mx at *
    generalize s.rows = r at *
    generalize s.nulls = n at *
    generalize s.least.kind = lk at *
    generalize s.least.num = ln at *
    generalize s.most.kind = mk at *
    generalize s.most.num = mm at *
    have HC := Lib.hid hcl
    have HM := Lib.hid hcm
    have HO := Lib.hid hO
    clear hcl hcm hle h1 h2 h3 h3' h4 hO o0 o1 o2 o3 o4 o5 o6 o7
    rcases hg with g1 | ⟨g1, g2⟩
    all_goals
      go_enter Try.func43, Try.ntmps43
      go_wp2_with fail
      refine (HC.out _).mono ?_
      rintro e w1 ⟨rfl, hb1⟩
      obtain ⟨o0, o1, o2, o3, o4, o5, o6, o7⟩ := (HO.out.next hb1).cells
      go_wp2_with fail
      refine (HM.out _).mono ?_
      rintro e w2 ⟨rfl, hb2⟩
      go_wp2_with fail
      go_ret
      exact ⟨by rw [HR.out]; rfl, below_then (below_then hbel hb1) hb2⟩
  have h4' : C.cellE k s.most = 0 := Classical.not_not.1 h4
  rw [h4'] at hcm
  have HR := Lib.hid (show S.ck k s = if (s.nulls = s.rows ∧ (s.least.kind ≠ 0 ∨ s.most.kind ≠ 0)) ∨ (s.nulls < s.rows ∧ (s.least.kind = 0 ∨ s.most.kind = 0)) ∨ C.less s.most s.least = true then 4 else 0 by unfold S.ck; rw [if_neg h1, if_neg h2, if_neg h3, if_neg h4])
  have hnr : s.nulls ≤ s.rows := by omega
  generalize S.ck k s = R at *
  generalize C.less s.most s.least = lt at *
  generalize str s.least.txt = lx at *
  generalize str s.most.txt = mx at *
  generalize s.rows = r at *
  generalize s.nulls = n at *
  generalize s.least.kind = lk at *
  generalize s.least.num = ln at *
  generalize s.most.kind = mk at *
  generalize s.most.num = mm at *
  have HC := Lib.hid hcl
  have HM := Lib.hid hcm
  have HL := Lib.hid hle
  have HO := Lib.hid hO
  clear hcl hcm hle h1 h2 h3 h3' h4 h4' hO hl hm hr hn
  /- the seven ways of what is asked last -/
  have hway : (n = r ∧ lk ≠ 0 ∧ R = 4) ∨ (n = r ∧ lk = 0 ∧ mk ≠ 0 ∧ R = 4) ∨ (n = r ∧ lk = 0 ∧ mk = 0 ∧ R = if lt = true then 4 else 0) ∨ (n < r ∧ lk = 0 ∧ R = 4) ∨ (n < r ∧ lk ≠ 0 ∧ mk = 0 ∧ R = 4) ∨ (n < r ∧ lk ≠ 0 ∧ mk ≠ 0 ∧ R = if lt = true then 4 else 0) := by
    have hR := HR.out
    rcases Int.lt_or_eq_of_le hnr with e | e
    · have e1 : ¬ n = r := by omega
      by_cases a : lk = 0
      · rw [if_pos (Or.inr (Or.inl ⟨e, Or.inl a⟩))] at hR
        exact Or.inr (Or.inr (Or.inr (Or.inl ⟨e, a, hR⟩)))
      · by_cases b : mk = 0
        · rw [if_pos (Or.inr (Or.inl ⟨e, Or.inr b⟩))] at hR
          exact Or.inr (Or.inr (Or.inr (Or.inr (Or.inl ⟨e, a, b, hR⟩))))
        · refine Or.inr (Or.inr (Or.inr (Or.inr (Or.inr ⟨e, a, b, ?_⟩))))
          rw [hR]
          cases lt
          · rw [if_neg, if_neg (by decide)]
            rintro (⟨q, _⟩ | ⟨_, q⟩ | q)
            · exact e1 q
            · rcases q with q | q
              · exact a q
              · exact b q
            · exact absurd q (by decide)
          · rw [if_pos (Or.inr (Or.inr rfl)), if_pos rfl]
    · by_cases a : lk = 0
      · by_cases b : mk = 0
        · refine Or.inr (Or.inr (Or.inl ⟨e, a, b, ?_⟩))
          rw [hR]
          cases lt
          · rw [if_neg, if_neg (by decide)]
            rintro (⟨_, q⟩ | ⟨q, _⟩ | q)
            · rcases q with q | q
              · exact q a
              · exact q b
            · omega
            · exact absurd q (by decide)
          · rw [if_pos (Or.inr (Or.inr rfl)), if_pos rfl]
        · rw [if_pos (Or.inl ⟨e, Or.inr b⟩)] at hR
          exact Or.inr (Or.inl ⟨e, a, b, hR⟩)
      · rw [if_pos (Or.inl ⟨e, Or.inl a⟩)] at hR
        exact Or.inl ⟨e, a, hR⟩
  clear HR
  rcases hg with g1 | ⟨g1, g2⟩
  all_goals
    rcases hway with ⟨rfl, a, hR⟩ | ⟨rfl, rfl, b, hR⟩ | ⟨rfl, rfl, rfl, hR⟩ | ⟨e, rfl, hR⟩ | ⟨e, a, rfl, hR⟩ | ⟨e, a, b, hR⟩
    · have HR := Lib.hid hR
      have q1 : (lk != 0) = true := by rw [bne_iff_ne]; exact a
      clear hR a hnr
      go_enter Try.func43, Try.ntmps43
      go_wp2_with fail
      refine (HC.out _).mono ?_
      rintro e w1 ⟨rfl, hb1⟩
      obtain ⟨o0, o1, o2, o3, o4, o5, o6, o7⟩ := (HO.out.next hb1).cells
      go_wp2_with fail
      refine (HM.out _).mono ?_
      rintro e w2 ⟨rfl, hb2⟩
      obtain ⟨o0, o1, o2, o3, o4, o5, o6, o7⟩ := ((HO.out.next hb1).next hb2).cells
      have h2 := below_then (below_then hbel hb1) hb2
      go_wp2_with fail
      go_ret
      exact ⟨by rw [HR.out]; rfl, h2⟩
    · have HR := Lib.hid hR
      have q1 : (mk != 0) = true := by rw [bne_iff_ne]; exact b
      clear hR b hnr
      go_enter Try.func43, Try.ntmps43
      go_wp2_with fail
      refine (HC.out _).mono ?_
      rintro e w1 ⟨rfl, hb1⟩
      obtain ⟨o0, o1, o2, o3, o4, o5, o6, o7⟩ := (HO.out.next hb1).cells
      go_wp2_with fail
      refine (HM.out _).mono ?_
      rintro e w2 ⟨rfl, hb2⟩
      obtain ⟨o0, o1, o2, o3, o4, o5, o6, o7⟩ := ((HO.out.next hb1).next hb2).cells
      have h2 := below_then (below_then hbel hb1) hb2
      go_wp2_with fail
      go_ret
      exact ⟨by rw [HR.out]; rfl, h2⟩
    · cases lt
      all_goals
        have HR := Lib.hid hR
        clear hR hnr
        go_enter Try.func43, Try.ntmps43
        go_wp2_with fail
        refine (HC.out _).mono ?_
        rintro e w1 ⟨rfl, hb1⟩
        obtain ⟨o0, o1, o2, o3, o4, o5, o6, o7⟩ := (HO.out.next hb1).cells
        go_wp2_with fail
        refine (HM.out _).mono ?_
        rintro e w2 ⟨rfl, hb2⟩
        obtain ⟨o0, o1, o2, o3, o4, o5, o6, o7⟩ := ((HO.out.next hb1).next hb2).cells
        have h2 := below_then (below_then hbel hb1) hb2
        go_wp2_with fail
        refine (HL.out _).mono ?_
        rintro e w3 ⟨rfl, hb3⟩
        have h3 := below_then h2 hb3
        go_wp2_with fail
        go_ret
        exact ⟨by rw [HR.out]; rfl, h3⟩
    · have HR := Lib.hid hR
      have q1 : (n == r) = false := by rw [beq_eq_false_iff_ne]; omega
      have q2 : decide (n < r) = true := decide_eq_true e
      clear hR e hnr
      go_enter Try.func43, Try.ntmps43
      go_wp2_with fail
      refine (HC.out _).mono ?_
      rintro e w1 ⟨rfl, hb1⟩
      obtain ⟨o0, o1, o2, o3, o4, o5, o6, o7⟩ := (HO.out.next hb1).cells
      go_wp2_with fail
      refine (HM.out _).mono ?_
      rintro e w2 ⟨rfl, hb2⟩
      obtain ⟨o0, o1, o2, o3, o4, o5, o6, o7⟩ := ((HO.out.next hb1).next hb2).cells
      have h2 := below_then (below_then hbel hb1) hb2
      go_wp2_with fail
      go_ret
      exact ⟨by rw [HR.out]; rfl, h2⟩
    · have HR := Lib.hid hR
      have q1 : (n == r) = false := by rw [beq_eq_false_iff_ne]; omega
      have q2 : decide (n < r) = true := decide_eq_true e
      have q3 : (lk == 0) = false := by rw [beq_eq_false_iff_ne]; exact a
      clear hR e a hnr
      go_enter Try.func43, Try.ntmps43
      go_wp2_with fail
      refine (HC.out _).mono ?_
      rintro e w1 ⟨rfl, hb1⟩
      obtain ⟨o0, o1, o2, o3, o4, o5, o6, o7⟩ := (HO.out.next hb1).cells
      go_wp2_with fail
      refine (HM.out _).mono ?_
      rintro e w2 ⟨rfl, hb2⟩
      obtain ⟨o0, o1, o2, o3, o4, o5, o6, o7⟩ := ((HO.out.next hb1).next hb2).cells
      have h2 := below_then (below_then hbel hb1) hb2
      go_wp2_with fail
      go_ret
      exact ⟨by rw [HR.out]; rfl, h2⟩
    · have q1 : (n == r) = false := by rw [beq_eq_false_iff_ne]; omega
      have q2 : decide (n < r) = true := decide_eq_true e
      have q3 : (lk == 0) = false := by rw [beq_eq_false_iff_ne]; exact a
      have q4 : (mk == 0) = false := by rw [beq_eq_false_iff_ne]; exact b
      cases lt
      all_goals
        have HR := Lib.hid hR
        clear hR e a b hnr
        go_enter Try.func43, Try.ntmps43
        go_wp2_with fail
        refine (HC.out _).mono ?_
        rintro e w1 ⟨rfl, hb1⟩
        obtain ⟨o0, o1, o2, o3, o4, o5, o6, o7⟩ := (HO.out.next hb1).cells
        go_wp2_with fail
        refine (HM.out _).mono ?_
        rintro e w2 ⟨rfl, hb2⟩
        obtain ⟨o0, o1, o2, o3, o4, o5, o6, o7⟩ := ((HO.out.next hb1).next hb2).cells
        have h2 := below_then (below_then hbel hb1) hb2
        go_wp2_with fail
        refine (HL.out _).mono ?_
        rintro e w3 ⟨rfl, hb3⟩
        have h3 := below_then h2 hb3
        go_wp2_with fail
        go_ret
        exact ⟨by rw [HR.out]; rfl, h3⟩
end Go.Proofs.Ytecfknolpnjokaa
/- The walk of cells. -/
namespace Go.Proofs.Ytecfknolpnjokaa
open Go.RowKit
set_option linter.unusedVariables false

theorem ccells_any (v : Value) (w : World) : Calls Try.prog 31 #[v] w (ValPost v w) := by
  go_enter Try.func31, Try.ntmps31
  go_wp2_with fail
  go_ret
  exact ⟨rfl, rfl⟩
def CellPost (v : Value) (w : World) (e : Ending) (w' : World) : Prop := e = .returned v ∧ Below w.heap.size w w'
end Go.Proofs.Ytecfknolpnjokaa
/- The walk of cNum. -/
namespace Go.Proofs.Ytecfknolpnjokaa
open Go.RowKit
set_option linter.unusedVariables false

set_option maxHeartbeats 1000000 in
set_option maxRecDepth 100000 in
theorem cnum_any (n : Int) (w : World) : Calls Try.prog 30 #[.int .u64 n] w (CellPost (.agg #[.int .i64 1, .int .u64 n, .string ⟨#[]⟩]) w) := by
  have q0 := tri_new w (.int .i64 0) (.int .u64 0) (.string ByteArray.empty)
  have hal : Below w.heap.size w (w.alloc (.cells #[.int .i64 0, .int .u64 0, .string ByteArray.empty] 38)) := (Below.refl _ _).alloc (Nat.le_refl _) _
  go_enter Try.func30, Try.ntmps30
  go_wp2_with fail
  refine bodyPost_ret (v := .agg #[.int .i64 1, .int .u64 n, .string ⟨#[]⟩]) (by simp [results, Try.results30, go_sem]) rfl ⟨rfl, ?_⟩
  exact (Below.refl _ _).alloc (Nat.le_refl _) _

end Go.Proofs.Ytecfknolpnjokaa
