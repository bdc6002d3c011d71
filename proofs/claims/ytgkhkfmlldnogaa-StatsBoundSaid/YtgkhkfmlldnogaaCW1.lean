/- The walks of nulls.Check's function, hypostyleref.CellCheck. -/
import Derived.Test.YtgkhkfmlldnogaaCBase
import Derived.Test.YtgkhkfmlldnogaaTStr
import Derived.RangeFuncBox
namespace Go.Proofs.Ytgkhkfmlldnogaa
open Go.RowKit
set_option linter.unusedVariables false

set_option maxHeartbeats 1000000 in
set_option maxRecDepth 100000 in
theorem cchk_any (Cb : Nat) (k : Int) (c : C.Cl) (w : World) (hc : cOk c) (hB : Boxed w Cb 3 (.int .i64 k)) :
    Calls Try.prog 34 #[cag c, .pointer (some ⟨Cb, 0, none⟩)] w (CErrPost (C.cellE k c) w) := by
  have c0 := hB.cell
  have hlt := hB.lt
  have hne : ¬ Cb = w.heap.size := by omega
  have hne2 : ¬ w.heap.size = Cb := by omega
  obtain ⟨z, n, x⟩ := c
  unfold cOk at hc
  simp only at hc
  unfold cag
  simp only
  clear hB
  by_cases hz : z = 0
  · subst hz
    by_cases hn : n = 0
    · subst hn
      by_cases hx : x = []
      · subst hx
        have HR := Lib.hid (show C.cellE k ⟨0, 0, []⟩ = 0 by simp [C.cellE])
        have e1 : (str []).toList.isEmpty = true := by rw [str_toList]; rfl
        have e2 : (str []).size = 0 := rfl
        have e3 : (str []).toList = [] := str_toList _
        go_enter Try.func34, Try.ntmps34
        go_wp2_with fail
        go_ret
        exact ⟨by rw [HR.out]; rfl, (Below.refl _ _).alloc (Nat.le_refl _) _⟩
      · skip
        have HR := Lib.hid (show C.cellE k ⟨0, 0, x⟩ = 1 by simp [C.cellE, hx])
        have e1 : (str x).toList.isEmpty = false := by rw [str_toList]; cases x with | nil => exact absurd rfl hx | cons a t => rfl
        have e2 : 0 < (str x).size := by rw [str_size]; exact List.length_pos_iff.2 hx
        have e3 : decide ((0 : Int) < ((str x).size : Int)) = true := decide_eq_true (by omega)
        have e4 : ¬ (str x).toList = [] := by rw [str_toList]; exact hx
        generalize str x = X at *
        clear hx
        go_enter Try.func34, Try.ntmps34
        go_wp2_with fail
        go_ret
        exact ⟨by rw [HR.out]; rfl, (Below.refl _ _).alloc (Nat.le_refl _) _⟩
    · skip
      have HR := Lib.hid (show C.cellE k ⟨0, n, x⟩ = 1 by simp [C.cellE, hn])
      have f1 : ((n : Int) != 0) = true := by rw [bne_iff_ne]; omega
      have f2 : ¬ (n : Int) = 0 := by omega
      generalize str x = X at *
      go_enter Try.func34, Try.ntmps34
      go_wp2_with fail
      go_ret
      exact ⟨by rw [HR.out]; rfl, (Below.refl _ _).alloc (Nat.le_refl _) _⟩
  by_cases hk : z = k
  · subst hk
    by_cases hn : n = 0
    · subst hn
      by_cases hx : x = []
      · subst hx
        by_cases h1 : z = 1
        · subst h1
          have HR := Lib.hid (show C.cellE 1 ⟨1, 0, []⟩ = 0 by simp [C.cellE])
          have e1 : (str []).toList.isEmpty = true := by rw [str_toList]; rfl
          have e2 : (str []).size = 0 := rfl
          have e3 : (str []).toList = [] := str_toList _
          go_enter Try.func34, Try.ntmps34
          go_wp2_with fail
          go_ret
          exact ⟨by rw [HR.out]; rfl, (Below.refl _ _).alloc (Nat.le_refl _) _⟩
        by_cases h2 : z = 2
        · subst h2
          have HR := Lib.hid (show C.cellE 2 ⟨2, 0, []⟩ = 0 by simp [C.cellE])
          have e1 : (str []).toList.isEmpty = true := by rw [str_toList]; rfl
          have e2 : (str []).size = 0 := rfl
          have e3 : (str []).toList = [] := str_toList _
          go_enter Try.func34, Try.ntmps34
          go_wp2_with fail
          go_ret
          exact ⟨by rw [HR.out]; rfl, (Below.refl _ _).alloc (Nat.le_refl _) _⟩
        have HR := Lib.hid (show C.cellE z ⟨z, 0, []⟩ = 0 by simp [C.cellE, hz])
        have z1 : (z != 0) = true := by rw [bne_iff_ne]; exact hz
        have z2 : (z != z) = false := by rw [bne_eq_false_iff_eq]
        have z3 : (z != 1) = true := by rw [bne_iff_ne]; exact h1
        have z4 : (z != 2) = true := by rw [bne_iff_ne]; exact h2
        have e1 : (str []).toList.isEmpty = true := by rw [str_toList]; rfl
        have e2 : (str []).size = 0 := rfl
        have e3 : (str []).toList = [] := str_toList _
        go_enter Try.func34, Try.ntmps34
        go_wp2_with fail
        go_ret
        exact ⟨by rw [HR.out]; rfl, (Below.refl _ _).alloc (Nat.le_refl _) _⟩
      · by_cases h2 : z = 2
        · subst h2
          by_cases hl : 16 < x.length
          · skip
            have HR := Lib.hid (show C.cellE 2 ⟨2, 0, x⟩ = 2 by simp [C.cellE, hx, hl])
            have e1 : (str x).toList.isEmpty = false := by rw [str_toList]; cases x with | nil => exact absurd rfl hx | cons a t => rfl
            have e2 : 0 < (str x).size := by rw [str_size]; exact List.length_pos_iff.2 hx
            have e3 : decide ((0 : Int) < ((str x).size : Int)) = true := decide_eq_true (by omega)
            have e4 : ¬ (str x).toList = [] := by rw [str_toList]; exact hx
            have l1 : 16 < (str x).size := by rw [str_size]; exact hl
            have l2 : decide ((16 : Int) < ((str x).size : Int)) = true := decide_eq_true (by omega)
            generalize str x = X at *
            clear hx hl
            go_enter Try.func34, Try.ntmps34
            go_wp2_with fail
            go_ret
            exact ⟨by rw [HR.out]; rfl, (Below.refl _ _).alloc (Nat.le_refl _) _⟩
          · skip
            have HR := Lib.hid (show C.cellE 2 ⟨2, 0, x⟩ = 0 by simp [C.cellE, hx, hl])
            have e1 : (str x).toList.isEmpty = false := by rw [str_toList]; cases x with | nil => exact absurd rfl hx | cons a t => rfl
            have e2 : 0 < (str x).size := by rw [str_size]; exact List.length_pos_iff.2 hx
            have e3 : decide ((0 : Int) < ((str x).size : Int)) = true := decide_eq_true (by omega)
            have e4 : ¬ (str x).toList = [] := by rw [str_toList]; exact hx
            have l1 : ¬ 16 < (str x).size := by rw [str_size]; exact hl
            have l2 : decide ((16 : Int) < ((str x).size : Int)) = false := decide_eq_false (by omega)
            generalize str x = X at *
            clear hx hl
            go_enter Try.func34, Try.ntmps34
            go_wp2_with fail
            go_ret
            exact ⟨by rw [HR.out]; rfl, (Below.refl _ _).alloc (Nat.le_refl _) _⟩
        · by_cases h1 : z = 1
          · subst h1
            have HR := Lib.hid (show C.cellE 1 ⟨1, 0, x⟩ = 1 by simp [C.cellE, hx])
            have e1 : (str x).toList.isEmpty = false := by rw [str_toList]; cases x with | nil => exact absurd rfl hx | cons a t => rfl
            have e2 : 0 < (str x).size := by rw [str_size]; exact List.length_pos_iff.2 hx
            have e3 : decide ((0 : Int) < ((str x).size : Int)) = true := decide_eq_true (by omega)
            have e4 : ¬ (str x).toList = [] := by rw [str_toList]; exact hx
            generalize str x = X at *
            clear hx
            go_enter Try.func34, Try.ntmps34
            go_wp2_with fail
            go_ret
            exact ⟨by rw [HR.out]; rfl, (Below.refl _ _).alloc (Nat.le_refl _) _⟩
          have HR := Lib.hid (show C.cellE z ⟨z, 0, x⟩ = 1 by simp [C.cellE, hx, hz, h2])
          have z1 : (z != 0) = true := by rw [bne_iff_ne]; exact hz
          have z2 : (z != z) = false := by rw [bne_eq_false_iff_eq]
          have z3 : (z != 1) = true := by rw [bne_iff_ne]; exact h1
          have z4 : (z != 2) = true := by rw [bne_iff_ne]; exact h2
          have e1 : (str x).toList.isEmpty = false := by rw [str_toList]; cases x with | nil => exact absurd rfl hx | cons a t => rfl
          have e2 : 0 < (str x).size := by rw [str_size]; exact List.length_pos_iff.2 hx
          have e3 : decide ((0 : Int) < ((str x).size : Int)) = true := decide_eq_true (by omega)
          have e4 : ¬ (str x).toList = [] := by rw [str_toList]; exact hx
          generalize str x = X at *
          clear hx
          go_enter Try.func34, Try.ntmps34
          go_wp2_with fail
          go_ret
          exact ⟨by rw [HR.out]; rfl, (Below.refl _ _).alloc (Nat.le_refl _) _⟩
    · by_cases h1 : z = 1
      · subst h1
        by_cases hx : x = []
        · subst hx
          have HR := Lib.hid (show C.cellE 1 ⟨1, n, []⟩ = 0 by simp [C.cellE, hn])
          have f1 : ((n : Int) != 0) = true := by rw [bne_iff_ne]; omega
          have f2 : ¬ (n : Int) = 0 := by omega
          have e1 : (str []).toList.isEmpty = true := by rw [str_toList]; rfl
          have e2 : (str []).size = 0 := rfl
          have e3 : (str []).toList = [] := str_toList _
          go_enter Try.func34, Try.ntmps34
          go_wp2_with fail
          go_ret
          exact ⟨by rw [HR.out]; rfl, (Below.refl _ _).alloc (Nat.le_refl _) _⟩
        · skip
          have HR := Lib.hid (show C.cellE 1 ⟨1, n, x⟩ = 1 by simp [C.cellE, hn, hx])
          have f1 : ((n : Int) != 0) = true := by rw [bne_iff_ne]; omega
          have f2 : ¬ (n : Int) = 0 := by omega
          have e1 : (str x).toList.isEmpty = false := by rw [str_toList]; cases x with | nil => exact absurd rfl hx | cons a t => rfl
          have e2 : 0 < (str x).size := by rw [str_size]; exact List.length_pos_iff.2 hx
          have e3 : decide ((0 : Int) < ((str x).size : Int)) = true := decide_eq_true (by omega)
          have e4 : ¬ (str x).toList = [] := by rw [str_toList]; exact hx
          generalize str x = X at *
          clear hx
          go_enter Try.func34, Try.ntmps34
          go_wp2_with fail
          go_ret
          exact ⟨by rw [HR.out]; rfl, (Below.refl _ _).alloc (Nat.le_refl _) _⟩
      · skip
        have HR := Lib.hid (show C.cellE z ⟨z, n, x⟩ = 1 by simp [C.cellE, hn, hz, h1])
        have f1 : ((n : Int) != 0) = true := by rw [bne_iff_ne]; omega
        have f2 : ¬ (n : Int) = 0 := by omega
        have z1 : (z != 0) = true := by rw [bne_iff_ne]; exact hz
        have z2 : (z != z) = false := by rw [bne_eq_false_iff_eq]
        have z3 : (z != 1) = true := by rw [bne_iff_ne]; exact h1
        generalize str x = X at *
        go_enter Try.func34, Try.ntmps34
        go_wp2_with fail
        go_ret
        exact ⟨by rw [HR.out]; rfl, (Below.refl _ _).alloc (Nat.le_refl _) _⟩
  have HR := Lib.hid (show C.cellE k ⟨z, n, x⟩ = 7 by simp [C.cellE, hz, hk])
  have z1 : (z != 0) = true := by rw [bne_iff_ne]; exact hz
  have z2 : (z != k) = true := by rw [bne_iff_ne]; exact hk
  generalize str x = X at *
  go_enter Try.func34, Try.ntmps34
  go_wp2_with fail
  go_ret
  exact ⟨by rw [HR.out]; rfl, (Below.refl _ _).alloc (Nat.le_refl _) _⟩

set_option maxHeartbeats 1000000 in
set_option maxRecDepth 100000 in
theorem rchk_any (k : Int) (c : C.Cl) (w : World) (hc : cOk c) (hk64 : -9223372036854775808 ≤ k ∧ k ≤ 9223372036854775807) :
    Calls Try.prog 20 #[.int .i64 k, cag c] w (CErrPost (C.cellE k c) w) := by
  obtain ⟨z, n, x⟩ := c
  unfold cOk at hc
  simp only at hc
  unfold cag
  simp only
  by_cases hz : z = 0
  · subst hz
    by_cases hn : n = 0
    · subst hn
      by_cases hx : x = []
      · subst hx
        have HR := Lib.hid (show C.cellE k ⟨0, 0, []⟩ = 0 by simp [C.cellE])
        have e1 : (str []).toList.isEmpty = true := by rw [str_toList]; rfl
        have e2 : (str []).size = 0 := rfl
        have e3 : (str []).toList = [] := str_toList _
        go_enter Try.func20, Try.ntmps20
        go_wp2_with fail
        go_ret
        exact ⟨by rw [HR.out]; rfl, (Below.refl _ _).alloc (Nat.le_refl _) _⟩
      · skip
        have HR := Lib.hid (show C.cellE k ⟨0, 0, x⟩ = 1 by simp [C.cellE, hx])
        have e1 : (str x).toList.isEmpty = false := by rw [str_toList]; cases x with | nil => exact absurd rfl hx | cons a t => rfl
        have e2 : 0 < (str x).size := by rw [str_size]; exact List.length_pos_iff.2 hx
        have e3 : decide ((0 : Int) < ((str x).size : Int)) = true := decide_eq_true (by omega)
        have e4 : ¬ (str x).toList = [] := by rw [str_toList]; exact hx
        generalize str x = X at *
        clear hx
        go_enter Try.func20, Try.ntmps20
        go_wp2_with fail
        go_ret
        exact ⟨by rw [HR.out]; rfl, (Below.refl _ _).alloc (Nat.le_refl _) _⟩
    · skip
      have HR := Lib.hid (show C.cellE k ⟨0, n, x⟩ = 1 by simp [C.cellE, hn])
      have f1 : ((n : Int) != 0) = true := by rw [bne_iff_ne]; omega
      have f2 : ¬ (n : Int) = 0 := by omega
      generalize str x = X at *
      go_enter Try.func20, Try.ntmps20
      go_wp2_with fail
      go_ret
      exact ⟨by rw [HR.out]; rfl, (Below.refl _ _).alloc (Nat.le_refl _) _⟩
  by_cases hk : z = k
  · subst hk
    by_cases hn : n = 0
    · subst hn
      by_cases hx : x = []
      · subst hx
        by_cases h1 : z = 1
        · subst h1
          have HR := Lib.hid (show C.cellE 1 ⟨1, 0, []⟩ = 0 by simp [C.cellE])
          have e1 : (str []).toList.isEmpty = true := by rw [str_toList]; rfl
          have e2 : (str []).size = 0 := rfl
          have e3 : (str []).toList = [] := str_toList _
          go_enter Try.func20, Try.ntmps20
          go_wp2_with fail
          go_ret
          exact ⟨by rw [HR.out]; rfl, (Below.refl _ _).alloc (Nat.le_refl _) _⟩
        by_cases h2 : z = 2
        · subst h2
          have HR := Lib.hid (show C.cellE 2 ⟨2, 0, []⟩ = 0 by simp [C.cellE])
          have e1 : (str []).toList.isEmpty = true := by rw [str_toList]; rfl
          have e2 : (str []).size = 0 := rfl
          have e3 : (str []).toList = [] := str_toList _
          go_enter Try.func20, Try.ntmps20
          go_wp2_with fail
          go_ret
          exact ⟨by rw [HR.out]; rfl, (Below.refl _ _).alloc (Nat.le_refl _) _⟩
        have HR := Lib.hid (show C.cellE z ⟨z, 0, []⟩ = 0 by simp [C.cellE, hz])
        have z1 : (z != 0) = true := by rw [bne_iff_ne]; exact hz
        have z2 : (z != z) = false := by rw [bne_eq_false_iff_eq]
        have z3 : (z != 1) = true := by rw [bne_iff_ne]; exact h1
        have z4 : (z != 2) = true := by rw [bne_iff_ne]; exact h2
        have e1 : (str []).toList.isEmpty = true := by rw [str_toList]; rfl
        have e2 : (str []).size = 0 := rfl
        have e3 : (str []).toList = [] := str_toList _
        go_enter Try.func20, Try.ntmps20
        go_wp2_with fail
        go_ret
        exact ⟨by rw [HR.out]; rfl, (Below.refl _ _).alloc (Nat.le_refl _) _⟩
      · by_cases h2 : z = 2
        · subst h2
          by_cases hl : 16 < x.length
          · skip
            have HR := Lib.hid (show C.cellE 2 ⟨2, 0, x⟩ = 2 by simp [C.cellE, hx, hl])
            have e1 : (str x).toList.isEmpty = false := by rw [str_toList]; cases x with | nil => exact absurd rfl hx | cons a t => rfl
            have e2 : 0 < (str x).size := by rw [str_size]; exact List.length_pos_iff.2 hx
            have e3 : decide ((0 : Int) < ((str x).size : Int)) = true := decide_eq_true (by omega)
            have e4 : ¬ (str x).toList = [] := by rw [str_toList]; exact hx
            have l1 : 16 < (str x).size := by rw [str_size]; exact hl
            have l2 : decide ((16 : Int) < ((str x).size : Int)) = true := decide_eq_true (by omega)
            generalize str x = X at *
            clear hx hl
            go_enter Try.func20, Try.ntmps20
            go_wp2_with fail
            go_ret
            exact ⟨by rw [HR.out]; rfl, (Below.refl _ _).alloc (Nat.le_refl _) _⟩
          · skip
            have HR := Lib.hid (show C.cellE 2 ⟨2, 0, x⟩ = 0 by simp [C.cellE, hx, hl])
            have e1 : (str x).toList.isEmpty = false := by rw [str_toList]; cases x with | nil => exact absurd rfl hx | cons a t => rfl
            have e2 : 0 < (str x).size := by rw [str_size]; exact List.length_pos_iff.2 hx
            have e3 : decide ((0 : Int) < ((str x).size : Int)) = true := decide_eq_true (by omega)
            have e4 : ¬ (str x).toList = [] := by rw [str_toList]; exact hx
            have l1 : ¬ 16 < (str x).size := by rw [str_size]; exact hl
            have l2 : decide ((16 : Int) < ((str x).size : Int)) = false := decide_eq_false (by omega)
            generalize str x = X at *
            clear hx hl
            go_enter Try.func20, Try.ntmps20
            go_wp2_with fail
            go_ret
            exact ⟨by rw [HR.out]; rfl, (Below.refl _ _).alloc (Nat.le_refl _) _⟩
        · by_cases h1 : z = 1
          · subst h1
            have HR := Lib.hid (show C.cellE 1 ⟨1, 0, x⟩ = 1 by simp [C.cellE, hx])
            have e1 : (str x).toList.isEmpty = false := by rw [str_toList]; cases x with | nil => exact absurd rfl hx | cons a t => rfl
            have e2 : 0 < (str x).size := by rw [str_size]; exact List.length_pos_iff.2 hx
            have e3 : decide ((0 : Int) < ((str x).size : Int)) = true := decide_eq_true (by omega)
            have e4 : ¬ (str x).toList = [] := by rw [str_toList]; exact hx
            generalize str x = X at *
            clear hx
            go_enter Try.func20, Try.ntmps20
            go_wp2_with fail
            go_ret
            exact ⟨by rw [HR.out]; rfl, (Below.refl _ _).alloc (Nat.le_refl _) _⟩
          have HR := Lib.hid (show C.cellE z ⟨z, 0, x⟩ = 1 by simp [C.cellE, hx, hz, h2])
          have z1 : (z != 0) = true := by rw [bne_iff_ne]; exact hz
          have z2 : (z != z) = false := by rw [bne_eq_false_iff_eq]
          have z3 : (z != 1) = true := by rw [bne_iff_ne]; exact h1
          have z4 : (z != 2) = true := by rw [bne_iff_ne]; exact h2
          have e1 : (str x).toList.isEmpty = false := by rw [str_toList]; cases x with | nil => exact absurd rfl hx | cons a t => rfl
          have e2 : 0 < (str x).size := by rw [str_size]; exact List.length_pos_iff.2 hx
          have e3 : decide ((0 : Int) < ((str x).size : Int)) = true := decide_eq_true (by omega)
          have e4 : ¬ (str x).toList = [] := by rw [str_toList]; exact hx
          generalize str x = X at *
          clear hx
          go_enter Try.func20, Try.ntmps20
          go_wp2_with fail
          go_ret
          exact ⟨by rw [HR.out]; rfl, (Below.refl _ _).alloc (Nat.le_refl _) _⟩
    · by_cases h1 : z = 1
      · subst h1
        by_cases hx : x = []
        · subst hx
          have HR := Lib.hid (show C.cellE 1 ⟨1, n, []⟩ = 0 by simp [C.cellE, hn])
          have f1 : ((n : Int) != 0) = true := by rw [bne_iff_ne]; omega
          have f2 : ¬ (n : Int) = 0 := by omega
          have e1 : (str []).toList.isEmpty = true := by rw [str_toList]; rfl
          have e2 : (str []).size = 0 := rfl
          have e3 : (str []).toList = [] := str_toList _
          go_enter Try.func20, Try.ntmps20
          go_wp2_with fail
          go_ret
          exact ⟨by rw [HR.out]; rfl, (Below.refl _ _).alloc (Nat.le_refl _) _⟩
        · skip
          have HR := Lib.hid (show C.cellE 1 ⟨1, n, x⟩ = 1 by simp [C.cellE, hn, hx])
          have f1 : ((n : Int) != 0) = true := by rw [bne_iff_ne]; omega
          have f2 : ¬ (n : Int) = 0 := by omega
          have e1 : (str x).toList.isEmpty = false := by rw [str_toList]; cases x with | nil => exact absurd rfl hx | cons a t => rfl
          have e2 : 0 < (str x).size := by rw [str_size]; exact List.length_pos_iff.2 hx
          have e3 : decide ((0 : Int) < ((str x).size : Int)) = true := decide_eq_true (by omega)
          have e4 : ¬ (str x).toList = [] := by rw [str_toList]; exact hx
          generalize str x = X at *
          clear hx
          go_enter Try.func20, Try.ntmps20
          go_wp2_with fail
          go_ret
          exact ⟨by rw [HR.out]; rfl, (Below.refl _ _).alloc (Nat.le_refl _) _⟩
      · skip
        have HR := Lib.hid (show C.cellE z ⟨z, n, x⟩ = 1 by simp [C.cellE, hn, hz, h1])
        have f1 : ((n : Int) != 0) = true := by rw [bne_iff_ne]; omega
        have f2 : ¬ (n : Int) = 0 := by omega
        have z1 : (z != 0) = true := by rw [bne_iff_ne]; exact hz
        have z2 : (z != z) = false := by rw [bne_eq_false_iff_eq]
        have z3 : (z != 1) = true := by rw [bne_iff_ne]; exact h1
        generalize str x = X at *
        go_enter Try.func20, Try.ntmps20
        go_wp2_with fail
        go_ret
        exact ⟨by rw [HR.out]; rfl, (Below.refl _ _).alloc (Nat.le_refl _) _⟩
  have HR := Lib.hid (show C.cellE k ⟨z, n, x⟩ = 7 by simp [C.cellE, hz, hk])
  have z1 : (z != 0) = true := by rw [bne_iff_ne]; exact hz
  have z2 : (z != k) = true := by rw [bne_iff_ne]; exact hk
  generalize str x = X at *
  go_enter Try.func20, Try.ntmps20
  go_wp2_with fail
  go_ret
  exact ⟨by rw [HR.out]; rfl, (Below.refl _ _).alloc (Nat.le_refl _) _⟩
end Go.Proofs.Ytgkhkfmlldnogaa
