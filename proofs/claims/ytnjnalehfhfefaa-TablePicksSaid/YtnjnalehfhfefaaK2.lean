/- CW1, CW2, CApp, OW2, WB, OW3, OW4, OPlain2, OW6, OR1, OR2, CLess. -/
import Derived.RangeFuncBox
import Derived.Deep.AppendLies
import Derived.Deep.QuietTactic
import Derived.Lib.Hide
import Derived.Deep.RegionLaw
import Derived.Test.YtnjnalehfhfefaaK1
/- The walks of nulls.Check's function, hypostyleref.CellCheck. -/
namespace Go.Proofs.Ytnjnalehfhfefaa
open Go.RowKit
set_option linter.unusedVariables false

set_option maxHeartbeats 1000000 in
set_option maxRecDepth 100000 in
theorem cchk_any (Cb : Nat) (k : Int) (c : C.Cl) (w : World) (hc : cOk c) (hB : Boxed w Cb 3 (.int .i64 k)) :
    Calls Try.prog 85 #[cag c, .pointer (some ⟨Cb, 0, none⟩)] w (CErrPost (C.cellE k c) w) := by
  have c0 := hB.cell
  have hlt := hB.lt
  have hne : ¬ Cb = w.heap.size := by omega
  have hne2 : ¬ w.heap.size = Cb := by omega
  obtain ⟨z, n, x⟩ := c
  unfold cOk at hc
  simp only at hc
  unfold cag
  simp only
  clear hB
  by_cases hz : z = 0
  · subst hz
    by_cases hn : n = 0
    · subst hn
      by_cases hx : x = []
      · subst hx
        have HR := Lib.hid (show C.cellE k ⟨0, 0, []⟩ = 0 by simp [C.cellE])
        have e1 : (str []).toList.isEmpty = true := by rw [str_toList]; rfl
        have e2 : (str []).size = 0 := rfl
        have e3 : (str []).toList = [] := str_toList _
        go_enter Try.func85, Try.ntmps85
        go_wp2_with fail
        go_ret
        exact ⟨by rw [HR.out]; rfl, (Below.refl _ _).alloc (Nat.le_refl _) _⟩
      · skip
        have HR := Lib.hid (show C.cellE k ⟨0, 0, x⟩ = 1 by simp [C.cellE, hx])
        have e1 : (str x).toList.isEmpty = false := by rw [str_toList]; cases x with | nil => exact absurd rfl hx | cons a t => rfl
        have e2 : 0 < (str x).size := by rw [str_size]; exact List.length_pos_iff.2 hx
        have e3 : decide ((0 : Int) < ((str x).size : Int)) = true := decide_eq_true (by omega)
        have e4 : ¬ (str x).toList = [] := by rw [str_toList]; exact hx
        generalize str x = X at *
        clear hx
        go_enter Try.func85, Try.ntmps85
        go_wp2_with fail
        go_ret
        exact ⟨by rw [HR.out]; rfl, (Below.refl _ _).alloc (Nat.le_refl _) _⟩
    · skip
      have HR := Lib.hid (show C.cellE k ⟨0, n, x⟩ = 1 by simp [C.cellE, hn])
      have f1 : ((n : Int) != 0) = true := by rw [bne_iff_ne]; omega
      have f2 : ¬ (n : Int) = 0 := by omega
      generalize str x = X at *
      go_enter Try.func85, Try.ntmps85
      go_wp2_with fail
      go_ret
      exact ⟨by rw [HR.out]; rfl, (Below.refl _ _).alloc (Nat.le_refl _) _⟩
  by_cases hk : z = k
  · subst hk
    by_cases hn : n = 0
    · subst hn
      by_cases hx : x = []
      · subst hx
        by_cases h1 : z = 1
        · subst h1
          have HR := Lib.hid (show C.cellE 1 ⟨1, 0, []⟩ = 0 by simp [C.cellE])
          have e1 : (str []).toList.isEmpty = true := by rw [str_toList]; rfl
          have e2 : (str []).size = 0 := rfl
          have e3 : (str []).toList = [] := str_toList _
          go_enter Try.func85, Try.ntmps85
          go_wp2_with fail
          go_ret
          exact ⟨by rw [HR.out]; rfl, (Below.refl _ _).alloc (Nat.le_refl _) _⟩
        by_cases h2 : z = 2
        · subst h2
          have HR := Lib.hid (show C.cellE 2 ⟨2, 0, []⟩ = 0 by simp [C.cellE])
          have e1 : (str []).toList.isEmpty = true := by rw [str_toList]; rfl
          have e2 : (str []).size = 0 := rfl
          have e3 : (str []).toList = [] := str_toList _
          go_enter Try.func85, Try.ntmps85
          go_wp2_with fail
          go_ret
          exact ⟨by rw [HR.out]; rfl, (Below.refl _ _).alloc (Nat.le_refl _) _⟩
        have HR := Lib.hid (show C.cellE z ⟨z, 0, []⟩ = 0 by simp [C.cellE, hz])
        have z1 : (z != 0) = true := by rw [bne_iff_ne]; exact hz
        have z2 : (z != z) = false := by rw [bne_eq_false_iff_eq]
        have z3 : (z != 1) = true := by rw [bne_iff_ne]; exact h1
        have z4 : (z != 2) = true := by rw [bne_iff_ne]; exact h2
        have e1 : (str []).toList.isEmpty = true := by rw [str_toList]; rfl
        have e2 : (str []).size = 0 := rfl
        have e3 : (str []).toList = [] := str_toList _
        go_enter Try.func85, Try.ntmps85
        go_wp2_with fail
        go_ret
        exact ⟨by rw [HR.out]; rfl, (Below.refl _ _).alloc (Nat.le_refl _) _⟩
      · by_cases h2 : z = 2
        · subst h2
          by_cases hl : 16 < x.length
          · skip
            have HR := Lib.hid (show C.cellE 2 ⟨2, 0, x⟩ = 2 by simp [C.cellE, hx, hl])
            have e1 : (str x).toList.isEmpty = false := by rw [str_toList]; cases x with | nil => exact absurd rfl hx | cons a t => rfl
            have e2 : 0 < (str x).size := by rw [str_size]; exact List.length_pos_iff.2 hx
            have e3 : decide ((0 : Int) < ((str x).size : Int)) = true := decide_eq_true (by omega)
            have e4 : ¬ (str x).toList = [] := by rw [str_toList]; exact hx
            have l1 : 16 < (str x).size := by rw [str_size]; exact hl
            have l2 : decide ((16 : Int) < ((str x).size : Int)) = true := decide_eq_true (by omega)
            generalize str x = X at *
            clear hx hl
            go_enter Try.func85, Try.ntmps85
            go_wp2_with fail
            go_ret
            exact ⟨by rw [HR.out]; rfl, (Below.refl _ _).alloc (Nat.le_refl _) _⟩
          · skip
            have HR := Lib.hid (show C.cellE 2 ⟨2, 0, x⟩ = 0 by simp [C.cellE, hx, hl])
            have e1 : (str x).toList.isEmpty = false := by rw [str_toList]; cases x with | nil => exact absurd rfl hx | cons a t => rfl
            have e2 : 0 < (str x).size := by rw [str_size]; exact List.length_pos_iff.2 hx
            have e3 : decide ((0 : Int) < ((str x).size : Int)) = true := decide_eq_true (by omega)
            have e4 : ¬ (str x).toList = [] := by rw [str_toList]; exact hx
            have l1 : ¬ 16 < (str x).size := by rw [str_size]; exact hl
            have l2 : decide ((16 : Int) < ((str x).size : Int)) = false := decide_eq_false (by omega)
            generalize str x = X at *
            clear hx hl
            go_enter Try.func85, Try.ntmps85
            go_wp2_with fail
            go_ret
            exact ⟨by rw [HR.out]; rfl, (Below.refl _ _).alloc (Nat.le_refl _) _⟩
        · by_cases h1 : z = 1
          · subst h1
            have HR := Lib.hid (show C.cellE 1 ⟨1, 0, x⟩ = 1 by simp [C.cellE, hx])
            have e1 : (str x).toList.isEmpty = false := by rw [str_toList]; cases x with | nil => exact absurd rfl hx | cons a t => rfl
            have e2 : 0 < (str x).size := by rw [str_size]; exact List.length_pos_iff.2 hx
            have e3 : decide ((0 : Int) < ((str x).size : Int)) = true := decide_eq_true (by omega)
            have e4 : ¬ (str x).toList = [] := by rw [str_toList]; exact hx
            generalize str x = X at *
            clear hx
            go_enter Try.func85, Try.ntmps85
            go_wp2_with fail
            go_ret
            exact ⟨by rw [HR.out]; rfl, (Below.refl _ _).alloc (Nat.le_refl _) _⟩
          have HR := Lib.hid (show C.cellE z ⟨z, 0, x⟩ = 1 by simp [C.cellE, hx, hz, h2])
          have z1 : (z != 0) = true := by rw [bne_iff_ne]; exact hz
          have z2 : (z != z) = false := by rw [bne_eq_false_iff_eq]
          have z3 : (z != 1) = true := by rw [bne_iff_ne]; exact h1
          have z4 : (z != 2) = true := by rw [bne_iff_ne]; exact h2
          have e1 : (str x).toList.isEmpty = false := by rw [str_toList]; cases x with | nil => exact absurd rfl hx | cons a t => rfl
          have e2 : 0 < (str x).size := by rw [str_size]; exact List.length_pos_iff.2 hx
          have e3 : decide ((0 : Int) < ((str x).size : Int)) = true := decide_eq_true (by omega)
          have e4 : ¬ (str x).toList = [] := by rw [str_toList]; exact hx
          generalize str x = X at *
          clear hx
          go_enter Try.func85, Try.ntmps85
          go_wp2_with fail
          go_ret
          exact ⟨by rw [HR.out]; rfl, (Below.refl _ _).alloc (Nat.le_refl _) _⟩
    · by_cases h1 : z = 1
      · subst h1
        by_cases hx : x = []
        · subst hx
          have HR := Lib.hid (show C.cellE 1 ⟨1, n, []⟩ = 0 by simp [C.cellE, hn])
          have f1 : ((n : Int) != 0) = true := by rw [bne_iff_ne]; omega
          have f2 : ¬ (n : Int) = 0 := by omega
          have e1 : (str []).toList.isEmpty = true := by rw [str_toList]; rfl
          have e2 : (str []).size = 0 := rfl
          have e3 : (str []).toList = [] := str_toList _
          go_enter Try.func85, Try.ntmps85
          go_wp2_with fail
          go_ret
          exact ⟨by rw [HR.out]; rfl, (Below.refl _ _).alloc (Nat.le_refl _) _⟩
        · skip
          have HR := Lib.hid (show C.cellE 1 ⟨1, n, x⟩ = 1 by simp [C.cellE, hn, hx])
          have f1 : ((n : Int) != 0) = true := by rw [bne_iff_ne]; omega
          have f2 : ¬ (n : Int) = 0 := by omega
          have e1 : (str x).toList.isEmpty = false := by rw [str_toList]; cases x with | nil => exact absurd rfl hx | cons a t => rfl
          have e2 : 0 < (str x).size := by rw [str_size]; exact List.length_pos_iff.2 hx
          have e3 : decide ((0 : Int) < ((str x).size : Int)) = true := decide_eq_true (by omega)
          have e4 : ¬ (str x).toList = [] := by rw [str_toList]; exact hx
          generalize str x = X at *
          clear hx
          go_enter Try.func85, Try.ntmps85
          go_wp2_with fail
          go_ret
          exact ⟨by rw [HR.out]; rfl, (Below.refl _ _).alloc (Nat.le_refl _) _⟩
      · skip
        have HR := Lib.hid (show C.cellE z ⟨z, n, x⟩ = 1 by simp [C.cellE, hn, hz, h1])
        have f1 : ((n : Int) != 0) = true := by rw [bne_iff_ne]; omega
        have f2 : ¬ (n : Int) = 0 := by omega
        have z1 : (z != 0) = true := by rw [bne_iff_ne]; exact hz
        have z2 : (z != z) = false := by rw [bne_eq_false_iff_eq]
        have z3 : (z != 1) = true := by rw [bne_iff_ne]; exact h1
        generalize str x = X at *
        go_enter Try.func85, Try.ntmps85
        go_wp2_with fail
        go_ret
        exact ⟨by rw [HR.out]; rfl, (Below.refl _ _).alloc (Nat.le_refl _) _⟩
  have HR := Lib.hid (show C.cellE k ⟨z, n, x⟩ = 7 by simp [C.cellE, hz, hk])
  have z1 : (z != 0) = true := by rw [bne_iff_ne]; exact hz
  have z2 : (z != k) = true := by rw [bne_iff_ne]; exact hk
  generalize str x = X at *
  go_enter Try.func85, Try.ntmps85
  go_wp2_with fail
  go_ret
  exact ⟨by rw [HR.out]; rfl, (Below.refl _ _).alloc (Nat.le_refl _) _⟩

set_option maxHeartbeats 1000000 in
set_option maxRecDepth 100000 in
theorem rchk_any (k : Int) (c : C.Cl) (w : World) (hc : cOk c) (hk64 : -9223372036854775808 ≤ k ∧ k ≤ 9223372036854775807) :
    Calls Try.prog 54 #[.int .i64 k, cag c] w (CErrPost (C.cellE k c) w) := by
  obtain ⟨z, n, x⟩ := c
  unfold cOk at hc
  simp only at hc
  unfold cag
  simp only
  by_cases hz : z = 0
  · subst hz
    by_cases hn : n = 0
    · subst hn
      by_cases hx : x = []
      · subst hx
        have HR := Lib.hid (show C.cellE k ⟨0, 0, []⟩ = 0 by simp [C.cellE])
        have e1 : (str []).toList.isEmpty = true := by rw [str_toList]; rfl
        have e2 : (str []).size = 0 := rfl
        have e3 : (str []).toList = [] := str_toList _
        go_enter Try.func54, Try.ntmps54
        go_wp2_with fail
        go_ret
        exact ⟨by rw [HR.out]; rfl, (Below.refl _ _).alloc (Nat.le_refl _) _⟩
      · skip
        have HR := Lib.hid (show C.cellE k ⟨0, 0, x⟩ = 1 by simp [C.cellE, hx])
        have e1 : (str x).toList.isEmpty = false := by rw [str_toList]; cases x with | nil => exact absurd rfl hx | cons a t => rfl
        have e2 : 0 < (str x).size := by rw [str_size]; exact List.length_pos_iff.2 hx
        have e3 : decide ((0 : Int) < ((str x).size : Int)) = true := decide_eq_true (by omega)
        have e4 : ¬ (str x).toList = [] := by rw [str_toList]; exact hx
        generalize str x = X at *
        clear hx
        go_enter Try.func54, Try.ntmps54
        go_wp2_with fail
        go_ret
        exact ⟨by rw [HR.out]; rfl, (Below.refl _ _).alloc (Nat.le_refl _) _⟩
    · skip
      have HR := Lib.hid (show C.cellE k ⟨0, n, x⟩ = 1 by simp [C.cellE, hn])
      have f1 : ((n : Int) != 0) = true := by rw [bne_iff_ne]; omega
      have f2 : ¬ (n : Int) = 0 := by omega
      generalize str x = X at *
      go_enter Try.func54, Try.ntmps54
      go_wp2_with fail
      go_ret
      exact ⟨by rw [HR.out]; rfl, (Below.refl _ _).alloc (Nat.le_refl _) _⟩
  by_cases hk : z = k
  · subst hk
    by_cases hn : n = 0
    · subst hn
      by_cases hx : x = []
      · subst hx
        by_cases h1 : z = 1
        · subst h1
          have HR := Lib.hid (show C.cellE 1 ⟨1, 0, []⟩ = 0 by simp [C.cellE])
          have e1 : (str []).toList.isEmpty = true := by rw [str_toList]; rfl
          have e2 : (str []).size = 0 := rfl
          have e3 : (str []).toList = [] := str_toList _
          go_enter Try.func54, Try.ntmps54
          go_wp2_with fail
          go_ret
          exact ⟨by rw [HR.out]; rfl, (Below.refl _ _).alloc (Nat.le_refl _) _⟩
        by_cases h2 : z = 2
        · subst h2
          have HR := Lib.hid (show C.cellE 2 ⟨2, 0, []⟩ = 0 by simp [C.cellE])
          have e1 : (str []).toList.isEmpty = true := by rw [str_toList]; rfl
          have e2 : (str []).size = 0 := rfl
          have e3 : (str []).toList = [] := str_toList _
          go_enter Try.func54, Try.ntmps54
          go_wp2_with fail
          go_ret
          exact ⟨by rw [HR.out]; rfl, (Below.refl _ _).alloc (Nat.le_refl _) _⟩
        have HR := Lib.hid (show C.cellE z ⟨z, 0, []⟩ = 0 by simp [C.cellE, hz])
        have z1 : (z != 0) = true := by rw [bne_iff_ne]; exact hz
        have z2 : (z != z) = false := by rw [bne_eq_false_iff_eq]
        have z3 : (z != 1) = true := by rw [bne_iff_ne]; exact h1
        have z4 : (z != 2) = true := by rw [bne_iff_ne]; exact h2
        have e1 : (str []).toList.isEmpty = true := by rw [str_toList]; rfl
        have e2 : (str []).size = 0 := rfl
        have e3 : (str []).toList = [] := str_toList _
        go_enter Try.func54, Try.ntmps54
        go_wp2_with fail
        go_ret
        exact ⟨by rw [HR.out]; rfl, (Below.refl _ _).alloc (Nat.le_refl _) _⟩
      · by_cases h2 : z = 2
        · subst h2
          by_cases hl : 16 < x.length
          · skip
            have HR := Lib.hid (show C.cellE 2 ⟨2, 0, x⟩ = 2 by simp [C.cellE, hx, hl])
            have e1 : (str x).toList.isEmpty = false := by rw [str_toList]; cases x with | nil => exact absurd rfl hx | cons a t => rfl
            have e2 : 0 < (str x).size := by rw [str_size]; exact List.length_pos_iff.2 hx
            have e3 : decide ((0 : Int) < ((str x).size : Int)) = true := decide_eq_true (by omega)
            have e4 : ¬ (str x).toList = [] := by rw [str_toList]; exact hx
            have l1 : 16 < (str x).size := by rw [str_size]; exact hl
            have l2 : decide ((16 : Int) < ((str x).size : Int)) = true := decide_eq_true (by omega)
            generalize str x = X at *
            clear hx hl
            go_enter Try.func54, Try.ntmps54
            go_wp2_with fail
            go_ret
            exact ⟨by rw [HR.out]; rfl, (Below.refl _ _).alloc (Nat.le_refl _) _⟩
          · skip
            have HR := Lib.hid (show C.cellE 2 ⟨2, 0, x⟩ = 0 by simp [C.cellE, hx, hl])
            have e1 : (str x).toList.isEmpty = false := by rw [str_toList]; cases x with | nil => exact absurd rfl hx | cons a t => rfl
            have e2 : 0 < (str x).size := by rw [str_size]; exact List.length_pos_iff.2 hx
            have e3 : decide ((0 : Int) < ((str x).size : Int)) = true := decide_eq_true (by omega)
            have e4 : ¬ (str x).toList = [] := by rw [str_toList]; exact hx
            have l1 : ¬ 16 < (str x).size := by rw [str_size]; exact hl
            have l2 : decide ((16 : Int) < ((str x).size : Int)) = false := decide_eq_false (by omega)
            generalize str x = X at *
            clear hx hl
            go_enter Try.func54, Try.ntmps54
            go_wp2_with fail
            go_ret
            exact ⟨by rw [HR.out]; rfl, (Below.refl _ _).alloc (Nat.le_refl _) _⟩
        · by_cases h1 : z = 1
          · subst h1
            have HR := Lib.hid (show C.cellE 1 ⟨1, 0, x⟩ = 1 by simp [C.cellE, hx])
            have e1 : (str x).toList.isEmpty = false := by rw [str_toList]; cases x with | nil => exact absurd rfl hx | cons a t => rfl
            have e2 : 0 < (str x).size := by rw [str_size]; exact List.length_pos_iff.2 hx
            have e3 : decide ((0 : Int) < ((str x).size : Int)) = true := decide_eq_true (by omega)
            have e4 : ¬ (str x).toList = [] := by rw [str_toList]; exact hx
            generalize str x = X at *
            clear hx
            go_enter Try.func54, Try.ntmps54
            go_wp2_with fail
            go_ret
            exact ⟨by rw [HR.out]; rfl, (Below.refl _ _).alloc (Nat.le_refl _) _⟩
          have HR := Lib.hid (show C.cellE z ⟨z, 0, x⟩ = 1 by simp [C.cellE, hx, hz, h2])
          have z1 : (z != 0) = true := by rw [bne_iff_ne]; exact hz
          have z2 : (z != z) = false := by rw [bne_eq_false_iff_eq]
          have z3 : (z != 1) = true := by rw [bne_iff_ne]; exact h1
          have z4 : (z != 2) = true := by rw [bne_iff_ne]; exact h2
          have e1 : (str x).toList.isEmpty = false := by rw [str_toList]; cases x with | nil => exact absurd rfl hx | cons a t => rfl
          have e2 : 0 < (str x).size := by rw [str_size]; exact List.length_pos_iff.2 hx
          have e3 : decide ((0 : Int) < ((str x).size : Int)) = true := decide_eq_true (by omega)
          have e4 : ¬ (str x).toList = [] := by rw [str_toList]; exact hx
          generalize str x = X at *
          clear hx
          go_enter Try.func54, Try.ntmps54
          go_wp2_with fail
          go_ret
          exact ⟨by rw [HR.out]; rfl, (Below.refl _ _).alloc (Nat.le_refl _) _⟩
    · by_cases h1 : z = 1
      · subst h1
        by_cases hx : x = []
        · subst hx
          have HR := Lib.hid (show C.cellE 1 ⟨1, n, []⟩ = 0 by simp [C.cellE, hn])
          have f1 : ((n : Int) != 0) = true := by rw [bne_iff_ne]; omega
          have f2 : ¬ (n : Int) = 0 := by omega
          have e1 : (str []).toList.isEmpty = true := by rw [str_toList]; rfl
          have e2 : (str []).size = 0 := rfl
          have e3 : (str []).toList = [] := str_toList _
          go_enter Try.func54, Try.ntmps54
          go_wp2_with fail
          go_ret
          exact ⟨by rw [HR.out]; rfl, (Below.refl _ _).alloc (Nat.le_refl _) _⟩
        · skip
          have HR := Lib.hid (show C.cellE 1 ⟨1, n, x⟩ = 1 by simp [C.cellE, hn, hx])
          have f1 : ((n : Int) != 0) = true := by rw [bne_iff_ne]; omega
          have f2 : ¬ (n : Int) = 0 := by omega
          have e1 : (str x).toList.isEmpty = false := by rw [str_toList]; cases x with | nil => exact absurd rfl hx | cons a t => rfl
          have e2 : 0 < (str x).size := by rw [str_size]; exact List.length_pos_iff.2 hx
          have e3 : decide ((0 : Int) < ((str x).size : Int)) = true := decide_eq_true (by omega)
          have e4 : ¬ (str x).toList = [] := by rw [str_toList]; exact hx
          generalize str x = X at *
          clear hx
          go_enter Try.func54, Try.ntmps54
          go_wp2_with fail
          go_ret
          exact ⟨by rw [HR.out]; rfl, (Below.refl _ _).alloc (Nat.le_refl _) _⟩
      · skip
        have HR := Lib.hid (show C.cellE z ⟨z, n, x⟩ = 1 by simp [C.cellE, hn, hz, h1])
        have f1 : ((n : Int) != 0) = true := by rw [bne_iff_ne]; omega
        have f2 : ¬ (n : Int) = 0 := by omega
        have z1 : (z != 0) = true := by rw [bne_iff_ne]; exact hz
        have z2 : (z != z) = false := by rw [bne_eq_false_iff_eq]
        have z3 : (z != 1) = true := by rw [bne_iff_ne]; exact h1
        generalize str x = X at *
        go_enter Try.func54, Try.ntmps54
        go_wp2_with fail
        go_ret
        exact ⟨by rw [HR.out]; rfl, (Below.refl _ _).alloc (Nat.le_refl _) _⟩
  have HR := Lib.hid (show C.cellE k ⟨z, n, x⟩ = 7 by simp [C.cellE, hz, hk])
  have z1 : (z != 0) = true := by rw [bne_iff_ne]; exact hz
  have z2 : (z != k) = true := by rw [bne_iff_ne]; exact hk
  generalize str x = X at *
  go_enter Try.func54, Try.ntmps54
  go_wp2_with fail
  go_ret
  exact ⟨by rw [HR.out]; rfl, (Below.refl _ _).alloc (Nat.le_refl _) _⟩
end Go.Proofs.Ytnjnalehfhfefaa
/- The walks of nulls.first with each of its functions; of nulls.Check, nulls.fit, hypostyleref.CellsCheck. -/
namespace Go.Proofs.Ytnjnalehfhfefaa
open Go.RowKit
set_option linter.unusedVariables false

/-- what is wrong with the first cell with which something is -/
def listE (e : C.Cl → Nat) : List C.Cl → Nat
  | [] => 0
  | c :: t => if e c ≠ 0 then e c else listE e t
theorem listE_step (e : C.Cl → Nat) (l : List C.Cl) (j : Nat) (h : j < l.length) : listE e (l.drop j) = if e (l.getD j C.null) ≠ 0 then e (l.getD j C.null) else listE e (l.drop (j + 1)) := by
  rw [List.drop_eq_getElem_cons h, listE]
  simp [List.getD, List.getElem?_eq_getElem h]
theorem chkL_listE (k : Int) : ∀ l : List C.Cl, C.chkL k l = listE (C.cellE k) l := by
  intro l
  induction l with
  | nil => rfl
  | cons c t ih => rw [C.chkL, listE, ih]
set_option maxHeartbeats 1000000 in
set_option maxRecDepth 100000 in
theorem first_chk (w : World) (Cb : Nat) (k : Int) (hB : Boxed w Cb 3 (.int .i64 k)) (a : Option Addr) (c : Nat) (l : List C.Cl) (hl : l.length ≤ 64) (hx : ∀ x ∈ l, cOk x) (hu : Cls w w.heap.size a l) :
    Calls Try.prog 84 #[.slice a l.length c, .func (.func 85) #[] #[.pointer (some ⟨Cb, 0, none⟩)]] w (CErrPost (listE (C.cellE k) l) w) := by
  have HU := Lib.hid hu
  have HST := Lib.hid (fun j h => listE_step (C.cellE k) l j h)
  have HC := Lib.hid (fun x W (hx : cOk x) (hb : Below w.heap.size w W) => cchk_any Cb k x W hx ((hb.block Cb hB.lt).trans hB))
  have HOK := Lib.hid (fun j (h : j < l.length) => hx _ (cgetD_mem l j h))
  have HR0 := Lib.hid (show listE (C.cellE k) l = listE (C.cellE k) (l.drop 0) from rfl)
  generalize (C.cellE k) = p at *
  obtain ⟨R, hR⟩ : ∃ R, R = listE p l := ⟨_, rfl⟩
  rw [← hR] at HR0 ⊢
  clear hu hx hR hB
  go_enter Try.func84, Try.ntmps84
  go_wp2_with fail
  go_loopw [6, 7, 10] (fun _ _ i wr => ∃ j : Nat, j ≤ l.length ∧ i = .int .i64 j ∧ Below w.heap.size w wr ∧ Hid (R = listE p (l.drop j))) (fun _ _ i _ => l.length - (intOf i).toNat)
  case atStart => exact ⟨0, by omega, rfl, Below.refl _ _, HR0⟩
  case round =>
    obtain ⟨j, hj, rfl, hbw, HJ⟩ := hrel
    by_cases hlt : j < l.length
    · obtain ⟨b, off, rfl, hb, hcc⟩ := HU.out (fun e => by rw [e] at hlt; simp at hlt)
      obtain ⟨k0, k1, k2⟩ := hcc j hlt
      have c0 := (hbw.cell (p := ⟨b, off + j * 3, none⟩) hb).trans k0
      have c1 := (hbw.cell (p := ⟨b, off + j * 3 + 1, none⟩) hb).trans k1
      have c2 := (hbw.cell (p := ⟨b, off + j * 3 + 2, none⟩) hb).trans k2
      have hst := HST.out j hlt
      have hok := HOK.out j hlt
      have hcall := HC.out (l.getD j C.null) (wr.alloc (.cells #[.int .i64 (l.getD j C.null).kind, .int .u64 ((l.getD j C.null).num : Int), .string (str (l.getD j C.null).txt)] 30)) hok (hbw.alloc hbw.size _)
      unfold cag at hcall
      generalize (l.getD j C.null).kind = z at *
      generalize (l.getD j C.null).num = n at *
      generalize str (l.getD j C.null).txt = X at *
      generalize p (l.getD j C.null) = er at *
      have HCX := Lib.hid hcall
      have hjI : (j : Int) < (l.length : Int) := by omega
      clear k0 k1 k2 hcc hcall hok
      by_cases ho : er ≠ 0
      · rw [if_pos ho] at hst
        have HRJ := Lib.hid (show R = er by rw [HJ.out, hst])
        have g1 : ((er : Int) != 0) = true := by rw [bne_iff_ne]; omega
        clear hst ho
        go_wp2_with fail
        refine (HCX.out).mono ?_
        rintro e w1 ⟨rfl, hb1⟩
        go_wp2_with fail
        go_ret
        exact ⟨by rw [HRJ.out]; rfl, below_then (hbw.alloc hbw.size _) hb1⟩
      · obtain rfl : er = 0 := by omega
        rw [if_neg (by simp)] at hst
        have HN := Lib.hid (show R = listE p (l.drop (j + 1)) by rw [HJ.out, hst])
        clear hst ho
        go_wp2_with fail
        refine (HCX.out).mono ?_
        rintro e w1 ⟨rfl, hb1⟩
        go_wp2_with fail
        exact ⟨⟨j + 1, by omega, by go_num, below_then (hbw.alloc hbw.size _) hb1, HN⟩, by simp [intOf]; omega⟩
    · obtain rfl : j = l.length := by omega
      have HRE := Lib.hid (show R = 0 by rw [HJ.out, List.drop_length]; rfl)
      go_wp2_with fail
      go_ret
      exact ⟨by rw [HRE.out]; rfl, hbw⟩
theorem chk_kind {k : Int} {l : List C.Cl} (h : k ≠ 1 ∧ k ≠ 2) : C.chk k l = 7 := by unfold C.chk; rw [if_pos h]
theorem chk_many {k : Int} {l : List C.Cl} (h : ¬ (k ≠ 1 ∧ k ≠ 2)) (h2 : 64 < l.length) : C.chk k l = 2 := by unfold C.chk; rw [if_neg h, if_pos h2]
theorem chk_list {k : Int} {l : List C.Cl} (h : ¬ (k ≠ 1 ∧ k ≠ 2)) (h2 : ¬ 64 < l.length) : C.chk k l = listE (C.cellE k) l := by unfold C.chk; rw [if_neg h, if_neg h2, chkL_listE]
theorem boxed_new (w : World) (v : Value) (t : TypeId) : Boxed (w.alloc (.cells #[v] t)) w.heap.size t v := heap_alloc_new _ _
set_option maxHeartbeats 1000000 in
set_option maxRecDepth 100000 in
theorem ncheck_any (k : Int) (a : Option Addr) (c : Nat) (l : List C.Cl) (w : World) (hm : l.length ≤ maxLen) (hx : ∀ x ∈ l, cOk x) (hu : Cls w w.heap.size a l) :
    Calls Try.prog 44 #[.int .i64 k, .slice a l.length c] w (CErrPost (C.chk k l) w) := by
  unfold maxLen at hm
  have hal : Below w.heap.size w (w.alloc (.cells #[.int .i64 k] 3)) := (Below.refl _ _).alloc (Nat.le_refl _) _
  by_cases hk : k ≠ 1 ∧ k ≠ 2
  · have HR := Lib.hid (chk_kind (l := l) hk)
    have g1 : (k != 1) = true := by rw [bne_iff_ne]; exact hk.1
    have g2 : (k != 2) = true := by rw [bne_iff_ne]; exact hk.2
    clear hu hx
    go_enter Try.func44, Try.ntmps44
    go_wp2_with fail
    go_ret
    exact ⟨by rw [HR.out]; rfl, hal⟩
  by_cases hl : 64 < l.length
  · have HR := Lib.hid (chk_many hk hl)
    have g3 : decide ((64 : Int) < (l.length : Int)) = true := decide_eq_true (by omega)
    clear hu hx
    have hk2 : k = 1 ∨ k = 2 := by omega
    rcases hk2 with rfl | rfl
    · go_enter Try.func44, Try.ntmps44
      go_wp2_with fail
      go_ret
      exact ⟨by rw [HR.out]; rfl, hal⟩
    · go_enter Try.func44, Try.ntmps44
      go_wp2_with fail
      go_ret
      exact ⟨by rw [HR.out]; rfl, hal⟩
  · have HR := Lib.hid (chk_list hk hl)
    have HF := Lib.hid (first_chk (w.alloc (.cells #[.int .i64 k] 3)) w.heap.size k (boxed_new _ _ _) a c l (by omega) hx (hu.next hal))
    have g3 : decide ((64 : Int) < (l.length : Int)) = false := decide_eq_false (by omega)
    clear hu hx
    have hk2 : k = 1 ∨ k = 2 := by omega
    rcases hk2 with rfl | rfl
    · go_enter Try.func44, Try.ntmps44
      go_wp2_with fail
      refine (HF.out).mono ?_
      rintro e w1 ⟨rfl, hb1⟩
      go_wp2_with fail
      go_ret
      exact ⟨by rw [HR.out]; rfl, below_then hal hb1⟩
    · go_enter Try.func44, Try.ntmps44
      go_wp2_with fail
      refine (HF.out).mono ?_
      rintro e w1 ⟨rfl, hb1⟩
      go_wp2_with fail
      go_ret
      exact ⟨by rw [HR.out]; rfl, below_then hal hb1⟩
end Go.Proofs.Ytnjnalehfhfefaa
/- Append of cells that came in, nil too, at an operation of whatever region. -/
namespace Go.Proofs.Ytnjnalehfhfefaa
open Go.RowKit
set_option linter.unusedVariables false

theorem wp_append_cells {w : World} {o : Oper} {a : Act} {K : Act → World → Prop} {Q : Exit → Act → World → Prop} (s x : Operand)
    (ho : o.op = .call { callee := .builtin .append, args := #[s, x], argTypes := #[34, 34] }) (base : Nat)
    (v : Value) (xs : List C.Cl) (hs : a.eval s = v) (hown : CRow base xs v w)
    (A : Option Addr) (m c : Nat) (l : List C.Cl) (hm : l.length = m) (hx : a.eval x = .slice A m c) (hnil : A = none → c = 0) (hu : Cls w w.heap.size A l)
    (hbytes : (xs.length + m) * 32 ≤ 140737488355328) (hbase : base ≤ w.heap.size)
    (h : ∀ v' w', CRow base (xs ++ l) v' w' → Below base w w' → (∀ k, k < w.heap.size → some k ≠ v.ownBlock → w'.heap[k]? = w.heap[k]?) → w.heap.size ≤ w'.heap.size → K (a.put o.dst v') w') : o.wp Try.prog a w K Q := by
  obtain ⟨i, hi, hz0, hz1, hz2⟩ := info_parts info_cell
  match A, hnil, hu, hx with
  | none, hnil, hu, hx =>
    have hl : l = [] := by
      by_cases hl : l = []
      · exact hl
      · obtain ⟨b, off, e, _⟩ := hu hl; cases e
    subst hl
    obtain rfl : m = 0 := hm.symm
    obtain rfl : c = 0 := hnil rfl
    have hrun := run_append_owned_none (P := Try.prog) (w := w) base 34 o.type 30 i 3 Try.underlying34 hi v xs.length (cv xs) hown
    unfold Oper.wp
    simp [execOp, ho, resolve, invoke, builtin, hs, hx, hrun, Result.andThen]
    exact h v w (by simpa using hown) (Below.refl _ _) (fun _ _ _ => rfl) (Nat.le_refl _)
  | some ad, hnil, hu, hx =>
    refine wp_append_own w s x 34 ho base 30 i (.agg #[.int .i64 0, .int .u64 0, .string ByteArray.empty]) 3 32 Try.underlying34 hi hz0 hz1 hz2 rfl (by decide) v xs.length (cv xs) hs hown ad m c (cv l) hx (by rw [cv_length, hm]) ?_ ?_ (by unfold maxLen; omega) hbytes hbase (fun v' w' h1 h2 _ => h v' w' ?_ ?_ (fun k hk hne => h2.block k hk hne) h2.size)
    · intro j u hj
      have hjl : j < l.length * 3 := by
        rcases Nat.lt_or_ge j (l.length * 3) with h | h
        · exact h
        · rw [List.getElem?_eq_none (by rw [cv_length]; exact h)] at hj; simp at hj
      obtain ⟨b, off, e, _, hc⟩ := hu (by intro e; rw [e] at hjl; simp at hjl)
      have e := Option.some.inj e
      subst e
      have hadd : (⟨b, off, none⟩ : Addr).add j = ⟨b, off + j, none⟩ := by unfold Addr.add; split <;> simp_all
      have hk : j / 3 < l.length := by omega
      obtain ⟨c0, c1, c2⟩ := hc (j / 3) hk
      obtain ⟨g0, g1, g2⟩ := cv_get l (j / 3) hk
      rw [hadd]
      have h3 : j % 3 = 0 ∨ j % 3 = 1 ∨ j % 3 = 2 := by omega
      rcases h3 with h | h | h
      · rw [show off + j / 3 * 3 = off + j by omega] at c0
        rw [show j / 3 * 3 = j by omega] at g0
        rw [c0, ← hj, g0]
      · rw [show off + j / 3 * 3 + 1 = off + j by omega] at c1
        rw [show j / 3 * 3 + 1 = j by omega] at g1
        rw [c1, ← hj, g1]
      · rw [show off + j / 3 * 3 + 2 = off + j by omega] at c2
        rw [show j / 3 * 3 + 2 = j by omega] at g2
        rw [c2, ← hj, g2]
    · intro u hu
      simp only [cv, List.mem_flatMap] at hu
      obtain ⟨x, _, hx⟩ := hu
      simp [cx] at hx
      rcases hx with rfl | rfl | rfl <;> rfl
    · unfold CRow; rw [cv_append, List.length_append, hm]; exact h1
    · exact (Below.refl base w).grown h2 hbase (fun k hk => (hown.lt k hk).1)

theorem step_append_cells {w : World} {ops : Array Oper} {o : Oper} {a : Act} {K : Act → World → Prop} {Q : Exit → Act → World → Prop} {E : Prop} (hw : Region.wanted o (yielded ops a.tmps) = true) (s x : Operand)
    (ho : o.op = .call { callee := .builtin .append, args := #[s, x], argTypes := #[34, 34] }) (base : Nat)
    (v : Value) (xs : List C.Cl) (hs : a.eval s = v) (hown : CRow base xs v w)
    (A : Option Addr) (m c : Nat) (l : List C.Cl) (hm : l.length = m) (hx : a.eval x = .slice A m c) (hnil : A = none → c = 0) (hu : Cls w w.heap.size A l)
    (hbytes : (xs.length + m) * 32 ≤ 140737488355328) (hbase : base ≤ w.heap.size)
    (h : ∀ v' w', CRow base (xs ++ l) v' w' → Below base w w' → (∀ k, k < w.heap.size → some k ≠ v.ownBlock → w'.heap[k]? = w.heap[k]?) → w.heap.size ≤ w'.heap.size → K (a.put o.dst v') w') :
    if Region.wanted o (yielded ops a.tmps) = true then Oper.wp Try.prog o a w K Q else E := by
  rw [if_pos hw]
  exact wp_append_cells s x ho base v xs hs hown A m c l hm hx hnil hu hbytes hbase h
theorem cempty (B : Nat) (w : World) (hB : B ≤ w.heap.size) : CRow B [] (.slice (some ⟨w.heap.size, 0, none⟩) 0 0) (w.alloc (.cells #[] 30)) :=
  ⟨by simp [cv], Or.inr ⟨w.heap.size, 0, #[], rfl, hB, heap_alloc_new w _, Nat.le_refl _, by unfold maxLen; omega, rfl, rfl⟩⟩
theorem Cls.far {w w' : World} {g : Nat} {l : List C.Cl} {row : Option Nat} (h : Cls w w.heap.size (some ⟨g, 0, none⟩) l) (hf : ∀ k, k < w.heap.size → some k ≠ row → w'.heap[k]? = w.heap[k]?) (hne : some g ≠ row) (hs : w.heap.size ≤ w'.heap.size) : Cls w' w'.heap.size (some ⟨g, 0, none⟩) l := by
  intro hl
  obtain ⟨b, off, e, hb, hc⟩ := h hl
  injection e with e
  injection e with e1 e2
  subst e1 e2
  refine ⟨g, 0, rfl, by omega, fun i hi => ?_⟩
  have hk := hf g hb hne
  have hcell : ∀ o, w'.cell? ⟨g, o, none⟩ = w.cell? ⟨g, o, none⟩ := fun o => World.cell?_of_block hk
  rw [hcell, hcell, hcell]; exact hc i hi
end Go.Proofs.Ytnjnalehfhfefaa
/- The walks of pred.leaf, node, Check. -/
namespace Go.Proofs.Ytnjnalehfhfefaa
open Go.RowKit
set_option linter.unusedVariables false

theorem check_none (K : Int) (W : World) : Calls Try.prog 44 #[.int .i64 K, .slice none 0 0] W (CErrPost (if K ≠ 1 ∧ K ≠ 2 then 7 else 0) W) := by
  have h := ncheck_any K none 0 [] W (by simp [maxLen]) (by simp) (Cls.nil _ _ _)
  rw [show C.chk K [] = if K ≠ 1 ∧ K ≠ 2 then 7 else 0 by unfold C.chk; split <;> rfl] at h
  exact h
def oneE (K : Int) (c : C.Cl) : Nat := if K ≠ 1 ∧ K ≠ 2 then 7 else C.cellE K c
theorem chk_one (K : Int) (c : C.Cl) : C.chk K [c] = oneE K c := by
  unfold C.chk oneE
  split
  · rfl
  · rw [if_neg (by simp)]
    unfold C.chkL
    split
    · rfl
    · rename_i h; unfold C.chkL; omega
theorem check_one (K : Int) (c : C.Cl) (hc : cOk c) (W : World) :
    Calls Try.prog 44 #[.int .i64 K, .slice (some ⟨W.heap.size, 0, none⟩) 1 1] (W.alloc (.cells #[.int .i64 c.kind, .int .u64 (c.num : Int), .string (str c.txt)] 30)) (CErrPost (oneE K c) (W.alloc (.cells #[.int .i64 c.kind, .int .u64 (c.num : Int), .string (str c.txt)] 30))) := by
  have h := ncheck_any K (some ⟨W.heap.size, 0, none⟩) 1 [c] (W.alloc (.cells #[.int .i64 c.kind, .int .u64 (c.num : Int), .string (str c.txt)] 30)) (by simp [maxLen]) (by intro x hx; rw [List.mem_singleton.1 hx]; exact hc) (cls_lit W [c])
  rw [chk_one] at h
  exact h

theorem oneE_lt (K : Int) (c : C.Cl) : oneE K c < 9 := by
  unfold oneE C.cellE
  (repeat' split) <;> omega

set_option maxHeartbeats 1000000 in
set_option maxRecDepth 100000 in
theorem leaf_any (c : O.Cd) (a : Option Addr) (cap : Nat) (ks : List Int) (w : World) (hc : dOk c) (hop : 1 ≤ c.op ∧ c.op ≤ 4) (hm : ks.length ≤ maxLen) (hu : Ints w w.heap.size a ks) :
    Calls Try.prog 101 #[dag c, .slice a ks.length cap] w (CErrPost (O.alone ks c) w) := by
  obtain ⟨op, col, k, n, t⟩ := c
  obtain ⟨_, hcol, hcc⟩ := hc
  simp only at hop hcol hcc
  unfold maxLen at hm
  have hA : O.alone ks ⟨op, col, ⟨k, n, t⟩⟩ = if col < 0 ∨ (ks.length : Int) ≤ col then 3
      else if op = 4 then (if ks.getD col.toNat 0 ≠ 1 ∧ ks.getD col.toNat 0 ≠ 2 then 7 else if (⟨k, n, t⟩ : C.Cl) ≠ C.null then 1 else 0)
      else if oneE (ks.getD col.toNat 0) ⟨k, n, t⟩ ≠ 0 then oneE (ks.getD col.toNat 0) ⟨k, n, t⟩ else if k = 0 then 7 else 0 := by
    unfold O.alone oneE
    simp only
    rw [if_neg (by omega), if_neg (by omega)]
    by_cases h1 : col < 0 ∨ (ks.length : Int) ≤ col
    · rw [if_pos h1, if_pos h1]
    · rw [if_neg h1, if_neg h1]
      by_cases h2 : ks.getD col.toNat 0 ≠ 1 ∧ ks.getD col.toNat 0 ≠ 2
      · rw [if_pos h2, if_pos h2, if_pos h2]
        by_cases h4 : op = 4
        · rw [if_pos h4]
        · rw [if_neg h4, if_pos (by omega)]
      · rw [if_neg h2, if_neg h2, if_neg h2]
  rw [hA]
  clear hA
  have hE := empty_any ⟨k, n, t⟩
  have hO := fun K W => check_one K ⟨k, n, t⟩ hcc W
  simp only at hO
  have hOl := fun K => oneE_lt K ⟨k, n, t⟩
  unfold cag at hE
  simp only at hE
  have hp := pen_new w (.int .i64 op) (.int .i64 col) (.int .i64 k) (.int .u64 (n : Int)) (.string (str t))
  have hb0 : Below w.heap.size w (w.alloc (.cells #[.int .i64 op, .int .i64 col, .int .i64 k, .int .u64 (n : Int), .string (str t)] 59)) := (Below.refl _ _).alloc (Nat.le_refl _) _
  unfold dag
  simp only
  generalize str t = X at *
  have HEE := Lib.hid hE
  have HOO := Lib.hid hO
  clear hE hO hcc
  by_cases hbad : col < 0 ∨ (ks.length : Int) ≤ col
  · rw [if_pos hbad]
    rcases hbad with hbad | hbad
    · go_enter Try.func101, Try.ntmps101
      go_wp2_with fail
      go_ret
      exact ⟨rfl, hb0⟩
    · by_cases h0 : col < 0
      · exact absurd h0 (by omega)
      · obtain ⟨j, rfl⟩ : ∃ j : Nat, col = j := ⟨col.toNat, by omega⟩
        have g0 : decide ((j : Int) < 0) = false := by simp
        have g1 : decide ((ks.length : Int) ≤ (j : Int)) = true := by simp; omega
        have g2 : decide (ks.length ≤ j) = true := by simp; omega
        clear h0
        go_enter Try.func101, Try.ntmps101
        go_wp2_with fail
        go_ret
        exact ⟨rfl, hb0⟩
  rw [if_neg hbad]
  obtain ⟨j, rfl⟩ : ∃ j : Nat, col = j := ⟨col.toNat, by omega⟩
  have hj : j < ks.length := by omega
  rw [Int.toNat_natCast]
  obtain ⟨b, off, rfl, hlt, hcell⟩ := hu (by intro e; rw [e] at hj; simp at hj)
  have hk := hcell j hj
  unfold at1 at hk
  rw [Nat.mul_one] at hk
  generalize ks.getD j 0 = K at *
  have hk1 := hb0.cell (p := ⟨b, off + j, none⟩) hlt
  rw [hk] at hk1
  clear hcell hk hbad
  have hOK := hOl K
  clear hOl
  by_cases h4 : op = 4
  · subst h4
    rw [if_pos rfl]
    have HN := Lib.hid (fun W => check_none K W)
    by_cases hK : K ≠ 1 ∧ K ≠ 2
    · rw [if_pos hK]
      rw [if_pos hK] at HN
      clear hK
      go_enter Try.func101, Try.ntmps101
      go_wp2_with fail
      refine (HN.out _).mono ?_
      rintro e w1 ⟨rfl, hb1⟩
      go_wp2_with fail
      go_ret
      exact ⟨rfl, below_then hb0 hb1⟩
    · rw [if_neg hK]
      rw [if_neg hK] at HN
      obtain ⟨er, her⟩ : ∃ er, er = (if (⟨k, n, t⟩ : C.Cl) ≠ C.null then 1 else 0) := ⟨_, rfl⟩
      rw [← her] at HEE ⊢
      clear hK her
      go_enter Try.func101, Try.ntmps101
      go_wp2_with fail
      refine (HN.out _).mono ?_
      rintro e w1 ⟨rfl, hb1⟩
      obtain ⟨c0, c1, c2, c3, c4⟩ := (hp.next hb1).all
      go_wp2_with fail
      refine (HEE.out _).mono ?_
      rintro e w2 ⟨rfl, hb2⟩
      go_wp2_with fail
      go_ret
      exact ⟨rfl, below_then (below_then hb0 hb1) hb2⟩
  · rw [if_neg h4]
    have HO := Lib.hid (show Calls Try.prog 44 #[.int .i64 K, .slice (some ⟨w.heap.size + 1, 0, none⟩) 1 1] ((w.alloc (.cells #[.int .i64 op, .int .i64 j, .int .i64 k, .int .u64 (n : Int), .string X] 59)).alloc (.cells #[.int .i64 k, .int .u64 (n : Int), .string X] 30)) (CErrPost (oneE K ⟨k, n, t⟩) ((w.alloc (.cells #[.int .i64 op, .int .i64 j, .int .i64 k, .int .u64 (n : Int), .string X] 59)).alloc (.cells #[.int .i64 k, .int .u64 (n : Int), .string X] 30))) by
      have h := HOO.out K (w.alloc (.cells #[.int .i64 op, .int .i64 j, .int .i64 k, .int .u64 (n : Int), .string X] 59))
      rwa [show (w.alloc (.cells #[.int .i64 op, .int .i64 j, .int .i64 k, .int .u64 (n : Int), .string X] 59)).heap.size = w.heap.size + 1 by simp] at h)
    clear HOO
    generalize oneE K ⟨k, n, t⟩ = er at *
    have hb1 : Below w.heap.size w ((w.alloc (.cells #[.int .i64 op, .int .i64 j, .int .i64 k, .int .u64 (n : Int), .string X] 59)).alloc (.cells #[.int .i64 k, .int .u64 (n : Int), .string X] 30)) := hb0.alloc (by simp) _
    have hp1 : Pen ((w.alloc (.cells #[.int .i64 op, .int .i64 j, .int .i64 k, .int .u64 (n : Int), .string X] 59)).alloc (.cells #[.int .i64 k, .int .u64 (n : Int), .string X] 30)) w.heap.size (.int .i64 op) (.int .i64 j) (.int .i64 k) (.int .u64 (n : Int)) (.string X) := hp.next ((Below.refl _ _).alloc (Nat.le_refl _) _)
    by_cases he : er = 0
    · subst he
      rw [if_neg (by simp)]
      by_cases hk0 : k = 0
      · subst hk0
        rw [if_pos rfl]
        go_enter Try.func101, Try.ntmps101
        go_wp2_with fail
        refine HO.out.mono ?_
        rintro e w1 ⟨rfl, hb2⟩
        obtain ⟨c0, c1, c2, c3, c4⟩ := (hp1.next hb2).all
        go_wp2_with fail
        go_ret
        exact ⟨rfl, below_then hb1 hb2⟩
      · rw [if_neg hk0]
        go_enter Try.func101, Try.ntmps101
        go_wp2_with fail
        refine HO.out.mono ?_
        rintro e w1 ⟨rfl, hb2⟩
        obtain ⟨c0, c1, c2, c3, c4⟩ := (hp1.next hb2).all
        go_wp2_with fail
        go_ret
        exact ⟨rfl, below_then hb1 hb2⟩
    · rw [if_pos he]
      have g1 : ((er : Int) != 0) = true := by rw [bne_iff_ne]; omega
      go_enter Try.func101, Try.ntmps101
      go_wp2_with fail
      refine HO.out.mono ?_
      rintro e w1 ⟨rfl, hb2⟩
      go_wp2_with fail
      go_ret
      exact ⟨rfl, below_then hb1 hb2⟩

set_option maxHeartbeats 2000000 in
set_option maxRecDepth 100000 in
theorem node_any (c : O.Cd) (a : Option Addr) (cap : Nat) (ks : List Int) (free : Nat) (w : World) (hc : dOk c) (hm : ks.length ≤ maxLen) (hu : Ints w w.heap.size a ks) :
    Calls Try.prog 94 #[dag c, .slice a ks.length cap, .int .i64 free] w (CErrPost (O.nodeE ks free c) w) := by
  have hL := fun (h : 1 ≤ c.op ∧ c.op ≤ 4) W (hb : Below w.heap.size w W) => leaf_any c a cap ks W hc h hm (hu.next at1_firm hb)
  have hE := empty_any c.c
  obtain ⟨op, col, k, n, t⟩ := c
  simp only at hL hE
  have hp := pen_new w (.int .i64 op) (.int .i64 col) (.int .i64 k) (.int .u64 (n : Int)) (.string (str t))
  have hb0 : Below w.heap.size w (w.alloc (.cells #[.int .i64 op, .int .i64 col, .int .i64 k, .int .u64 (n : Int), .string (str t)] 59)) := (Below.refl _ _).alloc (Nat.le_refl _) _
  have hL1 := fun h => hL h _ hb0
  have hP := parts_any op
  by_cases h1 : 1 ≤ op ∧ op ≤ 4
  · have hN : O.nodeE ks free ⟨op, col, ⟨k, n, t⟩⟩ = O.alone ks ⟨op, col, ⟨k, n, t⟩⟩ := by
      unfold O.nodeE
      by_cases h : O.alone ks ⟨op, col, ⟨k, n, t⟩⟩ ≠ 0
      · rw [if_pos h]
      · rw [if_neg h, if_neg (by
          rcases O.parts_cases op with hc | hc | hc
          · rw [hc.1]; omega
          · omega
          · omega)]
        omega
    rw [hN]
    have HL := Lib.hid (hL1 h1)
    generalize O.alone ks ⟨op, col, ⟨k, n, t⟩⟩ = er at *
    unfold dag at HL ⊢
    unfold cag at hE
    simp only at HL hE ⊢
    generalize str t = X at *
    clear hL hL1 hE hP hN hc hu
    have h2 : op = 1 ∨ op = 2 ∨ op = 3 ∨ op = 4 := by omega
    rcases h2 with rfl | rfl | rfl | rfl
    all_goals
      go_enter Try.func94, Try.ntmps94
      go_wp2_with fail
      refine HL.out.mono ?_
      rintro e w1 ⟨rfl, hb1⟩
      go_wp2_with fail
      go_ret
      exact ⟨rfl, below_then hb0 hb1⟩
  by_cases h2 : 5 ≤ op ∧ op ≤ 7
  · have hA : O.nodeE ks free ⟨op, col, ⟨k, n, t⟩⟩ = if col ≠ 0 ∨ free < O.parts op then 1 else if (⟨k, n, t⟩ : C.Cl) ≠ C.null then 1 else 0 := by
      have hAl : O.alone ks ⟨op, col, ⟨k, n, t⟩⟩ = if col ≠ 0 ∨ (⟨k, n, t⟩ : C.Cl) ≠ C.null then 1 else 0 := by
        unfold O.alone
        simp only
        rw [if_neg (by omega), if_pos (by omega)]
      unfold O.nodeE
      rw [hAl]
      simp only
      generalize (⟨k, n, t⟩ : C.Cl) = Z
      by_cases q1 : col = 0 <;> by_cases q2 : Z = C.null <;> by_cases q3 : free < O.parts op <;> simp [q1, q2, q3]
    rw [hA]
    clear hA hL hL1 hc hu
    unfold dag
    unfold cag at hE
    simp only at hE ⊢
    obtain ⟨er, her⟩ : ∃ er, er = (if (⟨k, n, t⟩ : C.Cl) ≠ C.null then 1 else 0) := ⟨_, rfl⟩
    rw [← her] at hE ⊢
    clear her
    generalize str t = X at *
    have HE := Lib.hid hE
    have hp2 := O.parts_le op
    generalize O.parts op = m at *
    have HP := Lib.hid hP
    clear hE hP
    have h3 : op = 5 ∨ op = 6 ∨ op = 7 := by omega
    by_cases q1 : col = 0
    · subst q1
      by_cases q3 : free < m
      · rw [if_pos (Or.inr q3)]
        have g1 : decide (free < m) = true := decide_eq_true q3
        have g2 : decide ((free : Int) < (m : Int)) = true := decide_eq_true (by omega)
        rcases h3 with rfl | rfl | rfl
        all_goals
          go_enter Try.func94, Try.ntmps94
          go_wp2_with fail
          refine (HP.out _).mono ?_
          rintro e w1 ⟨rfl, rfl⟩
          go_wp2_with fail
          go_ret
          exact ⟨rfl, hb0⟩
      · rw [if_neg (by omega)]
        have g1 : decide (free < m) = false := decide_eq_false q3
        have g2 : decide ((free : Int) < (m : Int)) = false := decide_eq_false (by omega)
        rcases h3 with rfl | rfl | rfl
        all_goals
          go_enter Try.func94, Try.ntmps94
          go_wp2_with fail
          refine (HP.out _).mono ?_
          rintro e w1 ⟨rfl, rfl⟩
          go_wp2_with fail
          refine (HE.out _).mono ?_
          rintro e w2 ⟨rfl, hb2⟩
          go_wp2_with fail
          go_ret
          exact ⟨rfl, below_then hb0 hb2⟩
    · rw [if_pos (Or.inl q1)]
      have g1 : (col != 0) = true := by rw [bne_iff_ne]; exact q1
      rcases h3 with rfl | rfl | rfl
      all_goals
        go_enter Try.func94, Try.ntmps94
        go_wp2_with fail
        go_ret
        exact ⟨rfl, hb0⟩
  · have hA : O.nodeE ks free ⟨op, col, ⟨k, n, t⟩⟩ = 7 := by
      have hAl : O.alone ks ⟨op, col, ⟨k, n, t⟩⟩ = 7 := by
        unfold O.alone
        simp only
        rw [if_pos (by omega)]
      unfold O.nodeE
      rw [hAl]
      rfl
    rw [hA]
    clear hA hL hL1 hc hu hE hP
    have n1 : op ≠ 1 := by omega
    have n2 : op ≠ 2 := by omega
    have n3 : op ≠ 3 := by omega
    have n4 : op ≠ 4 := by omega
    have n5 : op ≠ 5 := by omega
    have n6 : op ≠ 6 := by omega
    have n7 : op ≠ 7 := by omega
    clear h1 h2
    unfold dag
    go_enter Try.func94, Try.ntmps94
    go_wp2_with fail
    go_ret
    exact ⟨rfl, hb0⟩

theorem nodeE_lt (ks : List Int) (free : Nat) (c : O.Cd) : O.nodeE ks free c < 9 := by
  unfold O.nodeE O.alone C.cellE
  (repeat' split) <;> omega

set_option maxHeartbeats 2000000 in
set_option maxRecDepth 100000 in
theorem pcheck_any (ap : Option Addr) (cp : Nat) (p : List O.Cd) (a : Option Addr) (cap : Nat) (ks : List Int) (w : World) (hpm : p.length ≤ maxLen) (hpx : ∀ x ∈ p, dOk x) (hpu : Cds w w.heap.size ap p) (hm : ks.length ≤ maxLen) (hu : Ints w w.heap.size a ks) :
    Calls Try.prog 75 #[.slice ap p.length cp, .slice a ks.length cap] w (CErrPost (O.check p ks) w) := by
  have hpm' := hpm
  unfold maxLen at hpm'
  by_cases h16 : 16 < p.length
  · have hR : O.check p ks = 2 := by unfold O.check; rw [if_pos h16]
    have g3 : decide ((16 : Int) < (p.length : Int)) = true := decide_eq_true (by omega)
    rw [hR]
    clear hpx hpu hu hR
    go_enter Try.func75, Try.ntmps75
    go_wp2_with fail
    go_ret
    exact ⟨rfl, Below.refl _ _⟩
  have hR : O.check p ks = O.chk ks 0 (p.drop 0) := by unfold O.check; rw [if_neg h16]; rfl
  obtain ⟨R, hRR⟩ : ∃ R, R = O.check p ks := ⟨_, rfl⟩
  rw [← hRR] at hR ⊢
  have HR0 := Lib.hid hR
  have g3 : decide ((16 : Int) < (p.length : Int)) = false := decide_eq_false (by omega)
  have HSTEP := Lib.hid (fun (j : Nat) (free : Nat) (h : j < p.length) => show O.chk ks free (p.drop j) = if O.nodeE ks free (p.getD j O.nullC) ≠ 0 then O.nodeE ks free (p.getD j O.nullC) else O.chk ks (free + 1 - O.parts (p.getD j O.nullC).op) (p.drop (j + 1)) by
    rw [List.drop_eq_getElem_cons h, O.chk]
    simp only [List.getD, List.getElem?_eq_getElem h, Option.getD_some])
  have HX := Lib.hid (fun (j : Nat) (h : j < p.length) => show dOk (p.getD j O.nullC) by
    simp only [List.getD, List.getElem?_eq_getElem h, Option.getD_some]; exact hpx _ (List.getElem_mem h))
  have HN := Lib.hid (fun (c : O.Cd) (hc : dOk c) (free : Nat) W (hb : Below w.heap.size w W) => node_any c a cap ks free W hc hm (hu.next at1_firm hb))
  have HCE := Lib.hid (fun (j : Nat) (h : j < p.length) => hpu.next at5_firm (Below.refl w.heap.size w))
  have hpu' : ∀ W, Below w.heap.size w W → ∀ j, j < p.length → ∃ b off, ap = some ⟨b, off, none⟩ ∧ at5 W b (off + j * 5) (p.getD j O.nullC) := by
    intro W hb j hj
    obtain ⟨b, off, e, _, hc⟩ := hpu.next at5_firm hb (by intro e; rw [e] at hj; simp at hj)
    exact ⟨b, off, e, hc j hj⟩
  have HPU := Lib.hid hpu'
  clear HCE hpu' hpu hu hpx hm hR hRR
  go_enter Try.func75, Try.ntmps75
  go_wp2_with fail
  go_loopw [5, 14] (fun u i wr => ∃ j f : Nat, j ≤ p.length ∧ f ≤ 2 * j ∧ u = .int .i64 f ∧ i = .int .i64 j ∧ Below w.heap.size w wr ∧ Hid (R = O.chk ks f (p.drop j))) (fun _ i _ => p.length - (intOf i).toNat)
  case atStart => exact ⟨0, 0, by omega, by omega, rfl, rfl, Below.refl _ _, HR0⟩
  case round =>
    obtain ⟨j, f, hj, hf, rfl, rfl, hb, HJ⟩ := hrel
    by_cases hlt : j < p.length
    · obtain ⟨b, off, rfl, c0, c1, c2, c3, c4⟩ := HPU.out wr hb j hlt
      have hst := HSTEP.out j f hlt
      have hx := HX.out j hlt
      have hE := nodeE_lt ks f (p.getD j O.nullC)
      generalize p.getD j O.nullC = x at *
      have HND := Lib.hid (HN.out x hx f)
      have hb1 : Below w.heap.size w (wr.alloc (.cells #[.int .i64 x.op, .int .i64 x.col, .int .i64 x.c.kind, .int .u64 (x.c.num : Int), .string (str x.c.txt)] 59)) := hb.alloc hb.size _
      have hp := pen_new wr (.int .i64 x.op) (.int .i64 x.col) (.int .i64 x.c.kind) (.int .u64 (x.c.num : Int)) (.string (str x.c.txt))
      have HPA := Lib.hid (fun W => parts_any x.op W)
      have hpl := O.parts_le x.op
      obtain ⟨er, her⟩ : ∃ er, er = O.nodeE ks f x := ⟨_, rfl⟩
      have HND := Lib.hid (show Calls Try.prog 94 #[.agg #[.int .i64 x.op, .int .i64 x.col, .int .i64 x.c.kind, .int .u64 (x.c.num : Int), .string (str x.c.txt)], .slice a ks.length cap, .int .i64 f] (wr.alloc (.cells #[.int .i64 x.op, .int .i64 x.col, .int .i64 x.c.kind, .int .u64 (x.c.num : Int), .string (str x.c.txt)] 59)) (CErrPost er (wr.alloc (.cells #[.int .i64 x.op, .int .i64 x.col, .int .i64 x.c.kind, .int .u64 (x.c.num : Int), .string (str x.c.txt)] 59))) by
        rw [her]; exact HND.out _ hb1)
      rw [← her] at hst hE
      have hpz : O.nodeE ks f x = 0 → O.parts x.op ≤ f := fun h => (O.nodeE_zero h).2
      rw [← her] at hpz
      have HJ2 := Lib.hid (HJ.out.trans hst)
      clear her hst HJ hx
      generalize O.parts x.op = m at *
      generalize str x.c.txt = X at *
      generalize x.c.num = xn at *
      generalize x.c.kind = xk at *
      generalize x.op = xo at *
      generalize x.col = xc at *
      by_cases he : er = 0
      · subst he
        have hmf := hpz rfl
        have HN1 := Lib.hid (show R = O.chk ks (f + 1 - m) (p.drop (j + 1)) by rw [HJ2.out, if_neg (by simp)])
        have hw1 : IntKind.i64.wrap (1 - (m : Int)) = 1 - (m : Int) := by rw [IntKind.wrap_i64]; omega
        have hw2 : IntKind.i64.wrap ((f : Int) + (1 - (m : Int))) = ((f + 1 - m : Nat) : Int) := by rw [IntKind.wrap_i64]; omega
        clear hpz
        go_wp2_with fail
        refine HND.out.mono ?_
        rintro e w1 ⟨rfl, hb2⟩
        obtain ⟨d0, d1, d2, d3, d4⟩ := (hp.next hb2).all
        have hb3 := below_then hb1 hb2
        go_wp2_with fail
        refine (HPA.out _).mono ?_
        rintro e w2 ⟨rfl, rfl⟩
        go_wp2_with fail
        exact ⟨⟨j + 1, f + 1 - m, by omega, by omega, by first | rfl | (rw [hw1, hw2]) | (rw [hw2]), by go_num, hb3, HN1⟩, by simp [intOf]; omega⟩
      · have HRE := Lib.hid (show R = er by rw [HJ2.out, if_pos he])
        have g1 : ((er : Int) != 0) = true := by rw [bne_iff_ne]; omega
        clear hpz
        go_wp2_with fail
        refine HND.out.mono ?_
        rintro e w1 ⟨rfl, hb2⟩
        go_wp2_with fail
        go_ret
        exact ⟨by rw [HRE.out]; rfl, below_then hb1 hb2⟩
    · obtain rfl : j = p.length := by omega
      have HRE := Lib.hid (show R = if f ≠ 1 then 1 else 0 by rw [HJ.out, List.drop_length]; rfl)
      by_cases hf1 : f = 1
      · subst hf1
        have HRE := Lib.hid (show R = 0 by rw [HRE.out, if_neg (by simp)])
        go_wp2_with fail
        go_ret
        exact ⟨by rw [HRE.out]; rfl, hb⟩
      · have HRE := Lib.hid (show R = 1 by rw [HRE.out, if_pos hf1])
        have g1 : ((f : Int) != 1) = true := by rw [bne_iff_ne]; omega
        go_wp2_with fail
        go_ret
        exact ⟨by rw [HRE.out]; rfl, hb⟩
end Go.Proofs.Ytnjnalehfhfefaa
/- A region that draws its order, whose operations only read, and whose callees leave the old blocks alone: walked once, in the order of the text. -/
namespace Go.Proofs.Ytnjnalehfhfefaa
open Go.RowKit
set_option linter.unusedVariables false

/-- a world in which all blocks of w0 are as they were -/
structure WB (w0 : World) where
  w : World
  below : Below w0.heap.size w0 w
instance wbHas (w0 : World) : Nonempty (WB w0) := ⟨⟨w0, Below.refl _ _⟩⟩
theorem WB.cell {w0 : World} (p : WB w0) {b o : Nat} {v : Value} (hb : b < w0.heap.size) (h : w0.cell? ⟨b, o, none⟩ = some v) : p.w.cell? ⟨b, o, none⟩ = some v := (p.below.cell (p := ⟨b, o, none⟩) hb).trans h
theorem wp_region_wb {P : Program} {id : Nat} {Q : Exit → Act → World → Prop} {a : Act} {w : World} {l : List Oper} (hm : P.follows .mixedOrders = true) (hB : Region.lexB .any l.toArray = true)
    (h : wpQuiet P l.toArray (fun w' => ∃ p : WB w, w' = p.w) (fun a' => ∀ w', (∃ p : WB w, w' = p.w) → Q .normal a' w') l a) : (Code.region id l.toArray true).wp P Q a w :=
  wp_region_quiet (C := fun w' => ∃ p : WB w, w' = p.w) hm hB ⟨⟨_, (Below.refl w.heap.size w).drew⟩, rfl⟩ (by simpa using h)
theorem calls_wb {P : Program} {f : FuncId} {args : Array Value} {w0 : World} {p : WB w0} {v : Value} (h : Calls P f args p.w fun e w' => e = .returned v ∧ Below p.w.heap.size p.w w') :
    Calls P f args p.w fun e w'' => e = .returned v ∧ ∃ p' : WB w0, w'' = p'.w := h.mono fun _ _ ⟨he, hb⟩ => ⟨he, ⟨_, below_then p.below hb⟩, rfl⟩

/-- hidden even from unfolding -/
structure Veil (p : Prop) : Prop where
  out : p
/- The same walk with what follows hidden: else each 'refine' lays open all operations that follow and are not wanted (ten in a row: no end).
   One step: (refine wq_step (fun K hK => ?_); go_simp; first | (refine hK _ ?_; clear hK K) | (apply Exists.intro; refine ⟨fun _ => ?_, hK _ ?_⟩; (the call's arms); clear hK K)) -/
theorem wq_step {P : Program} {ops : Array Oper} {C : World → Prop} {Q : Act → Prop} {a : Act} {o : Oper} {rest : List Oper}
    (h : ∀ K : Act → Prop, (∀ a, Veil (wpQuiet P ops C Q rest a) → K a) → if Region.wanted o (yielded ops a.tmps) then o.quiet P a C K else K (a.put o.dst undef)) : Veil (wpQuiet P ops C Q (o :: rest) a) :=
  ⟨wpQuiet_step fun K hK => h K fun a k => hK a k.out⟩
theorem wq_nil {P : Program} {ops : Array Oper} {C : World → Prop} {Q : Act → Prop} {a : Act} (h : Q a) : Veil (wpQuiet P ops C Q [] a) := ⟨wpQuiet_nil h⟩
theorem wp_region_wbh {P : Program} {id : Nat} {Q : Exit → Act → World → Prop} {a : Act} {w : World} {l : List Oper} (hm : P.follows .mixedOrders = true) (hB : Region.lexB .any l.toArray = true)
    (h : Veil (wpQuiet P l.toArray (fun w' => ∃ p : WB w, w' = p.w) (fun a' => ∀ w', (∃ p : WB w, w' = p.w) → Q .normal a' w') l a)) : (Code.region id l.toArray true).wp P Q a w :=
  wp_region_wb hm hB h.out
end Go.Proofs.Ytnjnalehfhfefaa
/- The walks of pred.told and of the closures of pred.Ask. -/
namespace Go.Proofs.Ytnjnalehfhfefaa
open Go.RowKit
set_option linter.unusedVariables false

set_option maxHeartbeats 2000000 in
set_option maxRecDepth 100000 in
theorem told_any' (op col k : Int) (n : Nat) (t : List UInt8) (k' : Int) (n' : Nat) (t' : List UInt8) (w : World) :
    Calls Try.prog 80 #[.agg #[.int .i64 op, .int .i64 col, .int .i64 k, .int .u64 (n : Int), .string (str t)], .agg #[.int .i64 k', .int .u64 (n' : Int), .string (str t')]] w (CErrPost (O.told ⟨op, col, ⟨k, n, t⟩⟩ ⟨k', n', t'⟩) w) := by
  have hW := whether_any
  have hL1 := nless_any ⟨k', n', t'⟩ ⟨k, n, t⟩
  have hL2 := nless_any ⟨k, n, t⟩ ⟨k', n', t'⟩
  have hgd := guards_cell .eql
  have heq := fun W => ceql k' n' t' k n t W
  unfold cag at hL1 hL2
  simp only at hL1 hL2
  have hp := pen_new w (.int .i64 op) (.int .i64 col) (.int .i64 k) (.int .u64 (n : Int)) (.string (str t))
  have hb0 : Below w.heap.size w (w.alloc (.cells #[.int .i64 op, .int .i64 col, .int .i64 k, .int .u64 (n : Int), .string (str t)] 59)) := (Below.refl _ _).alloc (Nat.le_refl _) _
  have hb1 : Below w.heap.size w ((w.alloc (.cells #[.int .i64 op, .int .i64 col, .int .i64 k, .int .u64 (n : Int), .string (str t)] 59)).alloc (.cells #[.int .i64 k', .int .u64 (n' : Int), .string (str t')] 30)) := hb0.alloc (by simp) _
  have HW := Lib.hid hW
  clear hW
  unfold O.told
  simp only
  by_cases h4 : op = 4
  · rw [if_pos h4]
    subst h4
    by_cases hk : k' = 0
    · rw [if_pos hk]
      subst hk
      clear hL1 hL2 heq hgd
      go_enter Try.func80, Try.ntmps80
      go_wp2_with fail
      refine (HW.out true _).mono ?_
      rintro e w1 ⟨rfl, rfl⟩
      go_wp2_with fail
      go_ret
      exact ⟨rfl, hb1⟩
    · rw [if_neg hk]
      have gk : (k' == 0) = false := by simpa using hk
      clear hL1 hL2 heq hgd
      go_enter Try.func80, Try.ntmps80
      go_wp2_with fail
      refine (HW.out false _).mono ?_
      rintro e w1 ⟨rfl, rfl⟩
      go_wp2_with fail
      go_ret
      exact ⟨rfl, hb1⟩
  rw [if_neg h4]
  by_cases hk : k' = 0
  · rw [if_pos hk]
    subst hk
    clear hL1 hL2 heq hgd
    go_enter Try.func80, Try.ntmps80
    go_wp2_with fail
    go_ret
    exact ⟨rfl, hb1⟩
  rw [if_neg hk]
  by_cases h2 : op = 2
  · subst h2
    rw [if_pos rfl]
    obtain ⟨bl, hbl⟩ : ∃ bl, bl = C.less ⟨k', n', t'⟩ ⟨k, n, t⟩ := ⟨_, rfl⟩
    rw [← hbl] at hL1 ⊢
    have HL := Lib.hid hL1
    clear hL1 hL2 heq hgd hbl
    generalize str t = X at *
    generalize str t' = X' at *
    have gk : (k' == 0) = false := by simpa using hk
    cases bl
    all_goals
      go_enter Try.func80, Try.ntmps80
      go_wp2_with fail
      refine (HL.out _).mono ?_
      rintro e w1 ⟨rfl, hb2⟩
      go_wp2_with fail
      first | refine (HW.out true _).mono ?_ | refine (HW.out false _).mono ?_
      rintro e w2 ⟨rfl, rfl⟩
      go_wp2_with fail
      go_ret
      exact ⟨rfl, below_then hb1 hb2⟩
  rw [if_neg h2]
  by_cases h3 : op = 3
  · subst h3
    rw [if_pos rfl]
    obtain ⟨bl, hbl⟩ : ∃ bl, bl = C.less ⟨k, n, t⟩ ⟨k', n', t'⟩ := ⟨_, rfl⟩
    rw [← hbl] at hL2 ⊢
    have HL := Lib.hid hL2
    clear hL1 hL2 heq hgd hbl
    generalize str t = X at *
    generalize str t' = X' at *
    have gk : (k' == 0) = false := by simpa using hk
    cases bl
    all_goals
      go_enter Try.func80, Try.ntmps80
      go_wp2_with fail
      refine (HL.out _).mono ?_
      rintro e w1 ⟨rfl, hb2⟩
      go_wp2_with fail
      first | refine (HW.out true _).mono ?_ | refine (HW.out false _).mono ?_
      rintro e w2 ⟨rfl, rfl⟩
      go_wp2_with fail
      go_ret
      exact ⟨rfl, below_then hb1 hb2⟩
  rw [if_neg h3]
  obtain ⟨bl, hbl⟩ : ∃ bl, bl = decide ((⟨k', n', t'⟩ : C.Cl) = ⟨k, n, t⟩) := ⟨_, rfl⟩
  rw [← hbl] at heq ⊢
  clear hL1 hL2 hbl
  generalize str t = X at *
  generalize str t' = X' at *
  have gk : (k' == 0) = false := by simpa using hk
  cases bl
  all_goals
    go_enter Try.func80, Try.ntmps80
    go_wp2_with fail
    first | refine (HW.out true _).mono ?_ | refine (HW.out false _).mono ?_
    rintro e w2 ⟨rfl, rfl⟩
    go_wp2_with fail
    go_ret
    exact ⟨rfl, hb1⟩
theorem told_any (c : O.Cd) (x : C.Cl) (w : World) : Calls Try.prog 80 #[dag c, cag x] w (CErrPost (O.told c x) w) := told_any' c.op c.col c.c.kind c.c.num c.c.txt x.kind x.num x.txt w

theorem wb_pen {W : World} {b : Nat} {v0 v1 v2 v3 v4 : Value} (h : Pen W b v0 v1 v2 v3 v4) : (∀ p : WB W, p.w.cell? ⟨b, 0, none⟩ = some v0) ∧ (∀ p : WB W, p.w.cell? ⟨b, 1, none⟩ = some v1) ∧ (∀ p : WB W, p.w.cell? ⟨b, 2, none⟩ = some v2) ∧ (∀ p : WB W, p.w.cell? ⟨b, 3, none⟩ = some v3) ∧ (∀ p : WB W, p.w.cell? ⟨b, 4, none⟩ = some v4) :=
  ⟨fun p => p.cell h.lt h.all.1, fun p => p.cell h.lt h.all.2.1, fun p => p.cell h.lt h.all.2.2.1, fun p => p.cell h.lt h.all.2.2.2.1, fun p => p.cell h.lt h.all.2.2.2.2⟩
theorem boxed_c0 {w : World} {Cb : Nat} {t : TypeId} {v : Value} (h : Boxed w Cb t v) : w.cell? ⟨Cb, 0, none⟩ = some v := by unfold Boxed at h; simp [World.cell?, h]
theorem boxed_lt {w : World} {Cb : Nat} {t : TypeId} {v : Value} (h : Boxed w Cb t v) : Cb < w.heap.size := lt_of_block h
theorem boxed_next {w w' : World} {Cb : Nat} {t : TypeId} {v : Value} (h : Boxed w Cb t v) (hb : Below w.heap.size w w') : Boxed w' Cb t v := (hb.block Cb (boxed_lt h)).trans h

set_option maxHeartbeats 2000000 in
set_option maxRecDepth 100000 in
theorem askleaf_any (Rb : Nat) (c : O.Cd) (a : Option Addr) (cap : Nat) (row : List C.Cl) (w : World) (hB : Boxed w Rb 34 (.slice a row.length cap)) (hm : row.length ≤ maxLen) (hu : Cls w w.heap.size a row) (hcol : 0 ≤ c.col ∧ c.col < row.length) :
    Calls Try.prog 79 #[dag c, .pointer (some ⟨Rb, 0, none⟩)] w (CErrPost (O.askL row c) w) := by
  obtain ⟨op, col, k, n, t⟩ := c
  simp only at hcol
  obtain ⟨j, rfl⟩ : ∃ j : Nat, col = j := ⟨col.toNat, by omega⟩
  have hj : j < row.length := by omega
  obtain ⟨b, off, rfl, hlt, hcell⟩ := hu (by intro e; rw [e] at hj; simp at hj)
  obtain ⟨r0, r1, r2⟩ := hcell j hj
  have hT := fun W => told_any' op j k n t (row.getD j C.null).kind (row.getD j C.null).num (row.getD j C.null).txt W
  have hR : O.askL row ⟨op, j, ⟨k, n, t⟩⟩ = O.told ⟨op, j, ⟨k, n, t⟩⟩ (row.getD j C.null) := by unfold O.askL; rw [Int.toNat_natCast]
  rw [hR]
  generalize row.getD j C.null = x at *
  obtain ⟨k', n', t'⟩ := x
  simp only at r0 r1 r2 hT
  have hp := pen_new w (.int .i64 op) (.int .i64 j) (.int .i64 k) (.int .u64 (n : Int)) (.string (str t))
  have hb0 : Below w.heap.size w (w.alloc (.cells #[.int .i64 op, .int .i64 j, .int .i64 k, .int .u64 (n : Int), .string (str t)] 59)) := (Below.refl _ _).alloc (Nat.le_refl _) _
  have hrt : O.told ⟨op, j, ⟨k, n, t⟩⟩ ⟨k', n', t'⟩ ≤ 2 := O.told_le _ _
  unfold dag
  simp only
  generalize O.told ⟨op, j, ⟨k, n, t⟩⟩ ⟨k', n', t'⟩ = r at *
  generalize str t = X at *
  generalize str t' = X' at *
  unfold maxLen at hm
  have hjI : (j : Int) < (row.length : Int) := by omega
  have HT := Lib.hid (fun W => show Calls Try.prog 80 #[.agg #[.int .i64 op, .int .i64 j, .int .i64 k, .int .u64 (n : Int), .string X], .agg #[.int .i64 k', .int .u64 (n' : Int), .string X']] W (fun e w' => e = .returned (.int .i64 (r : Int)) ∧ Below W.heap.size W w') from hT W)
  obtain ⟨p0, p1, p2, p3, p4⟩ := wb_pen hp
  have hlt1 : b < (w.alloc (.cells #[.int .i64 op, .int .i64 j, .int .i64 k, .int .u64 (n : Int), .string X] 59)).heap.size := by simp; omega
  have q0 := fun p : WB (w.alloc (.cells #[.int .i64 op, .int .i64 j, .int .i64 k, .int .u64 (n : Int), .string X] 59)) => p.cell hlt1 ((hb0.cell (p := ⟨b, off + j * 3, none⟩) hlt).trans r0)
  have q1 := fun p : WB (w.alloc (.cells #[.int .i64 op, .int .i64 j, .int .i64 k, .int .u64 (n : Int), .string X] 59)) => p.cell hlt1 ((hb0.cell (p := ⟨b, off + j * 3 + 1, none⟩) hlt).trans r1)
  have q2 := fun p : WB (w.alloc (.cells #[.int .i64 op, .int .i64 j, .int .i64 k, .int .u64 (n : Int), .string X] 59)) => p.cell hlt1 ((hb0.cell (p := ⟨b, off + j * 3 + 2, none⟩) hlt).trans r2)
  have hB1 := boxed_next hB hb0
  have q3 := fun p : WB (w.alloc (.cells #[.int .i64 op, .int .i64 j, .int .i64 k, .int .u64 (n : Int), .string X] 59)) => p.cell (boxed_lt hB1) (boxed_c0 hB1)
  clear hcell hT hp r0 r1 r2 hB hB1 hlt1 hu
  go_enter Try.func79, Try.ntmps79
  go_wp2_with fail
  generalize w.alloc (.cells #[.int .i64 op, .int .i64 j, .int .i64 k, .int .u64 (n : Int), .string X] 59) = W0 at *
  refine wp_region_wb (by kernel_rfl) (by kernel_rfl) ?_
  repeat (quiet_step ((go_at_call 80; refine calls_wb (v := .int .i64 (r : Int)) ?_; with_reducible exact HT.out _)))
  refine wpQuiet_nil ?_
  rintro _ ⟨p, rfl⟩
  have hp := p.below
  clear p0 p1 p2 p3 p4 q0 q1 q2 q3
  go_wp2_with fail
  go_ret
  exact ⟨rfl, below_then hb0 hp⟩

set_option maxHeartbeats 2000000 in
set_option maxRecDepth 100000 in
theorem askcol_any (Kb Rb j : Nat) (ka : Option Addr) (kcap : Nat) (ks : List Int) (a : Option Addr) (cap : Nat) (row : List C.Cl) (w : World) (hK : Boxed w Kb 61 (.slice ka ks.length kcap)) (hB : Boxed w Rb 34 (.slice a row.length cap))
    (hku : Ints w w.heap.size ka ks) (hu : Cls w w.heap.size a row) (hx : ∀ x ∈ row, cOk x) (h1 : j < ks.length) (h2 : j < row.length) (hm : row.length ≤ maxLen) (hkm : ks.length ≤ maxLen) :
    Calls Try.prog 77 #[.int .i64 j, .pointer (some ⟨Kb, 0, none⟩), .pointer (some ⟨Rb, 0, none⟩)] w (CErrPost (oneE (ks.getD j 0) (row.getD j C.null)) w) := by
  obtain ⟨b, off, rfl, hlt, hcell⟩ := hu (by intro e; rw [e] at h2; simp at h2)
  obtain ⟨r0, r1, r2⟩ := hcell j h2
  obtain ⟨kb, koff, rfl, hklt, hkcell⟩ := hku (by intro e; rw [e] at h1; simp at h1)
  have k0 := hkcell j h1
  unfold at1 at k0
  rw [Nat.mul_one] at k0
  have hcx := hx _ (cgetD_mem row j h2)
  generalize row.getD j C.null = x at *
  generalize ks.getD j 0 = K at *
  have kw : ∀ W, Below w.heap.size w W → W.cell? ⟨kb, koff + j, none⟩ = some (.int .i64 K) := fun W h => (h.cell (p := ⟨kb, koff + j, none⟩) hklt).trans k0
  have rw0 : ∀ W, Below w.heap.size w W → W.cell? ⟨b, off + j * 3, none⟩ = some (.int .i64 x.kind) := fun W h => (h.cell (p := ⟨b, off + j * 3, none⟩) hlt).trans r0
  have rw1 : ∀ W, Below w.heap.size w W → W.cell? ⟨b, off + j * 3 + 1, none⟩ = some (.int .u64 (x.num : Int)) := fun W h => (h.cell (p := ⟨b, off + j * 3 + 1, none⟩) hlt).trans r1
  have rw2 : ∀ W, Below w.heap.size w W → W.cell? ⟨b, off + j * 3 + 2, none⟩ = some (.string (str x.txt)) := fun W h => (h.cell (p := ⟨b, off + j * 3 + 2, none⟩) hlt).trans r2
  have bw0 : ∀ W, Below w.heap.size w W → W.cell? ⟨Rb, 0, none⟩ = some (.slice (some ⟨b, off, none⟩) row.length cap) := fun W h => (h.cell (p := ⟨Rb, 0, none⟩) (boxed_lt hB)).trans (boxed_c0 hB)
  have bw1 : ∀ W, Below w.heap.size w W → W.cell? ⟨Kb, 0, none⟩ = some (.slice (some ⟨kb, koff, none⟩) ks.length kcap) := fun W h => (h.cell (p := ⟨Kb, 0, none⟩) (boxed_lt hK)).trans (boxed_c0 hK)
  unfold maxLen at hm hkm
  have hC := fun W a (h : Cls W W.heap.size a [x]) => by
    have h2 := ncheck_any K a 1 [x] W (by simp [maxLen]) (by intro x hx; rw [List.mem_singleton.1 hx]; exact hcx) h
    rw [chk_one] at h2
    exact h2
  have hCL := fun W : World => cls_lit W [x]
  have HC := Lib.hid (fun W a (h : Cls W W.heap.size a [x]) => show Calls Try.prog 44 #[.int .i64 K, .slice a 1 1] W (CErrPost (oneE K x) W) from hC W a h)
  have HCL := Lib.hid (fun W : World => show Cls (W.alloc (.cells #[.int .i64 x.kind, .int .u64 (x.num : Int), .string (str x.txt)] 30)) (W.alloc (.cells #[.int .i64 x.kind, .int .u64 (x.num : Int), .string (str x.txt)] 30)).heap.size (some ⟨W.heap.size, 0, none⟩) [x] from hCL W)
  generalize oneE K x = er at *
  have hjI : (j : Int) < (row.length : Int) := by omega
  have hjK : (j : Int) < (ks.length : Int) := by omega
  have hself : Below w.heap.size w w := Below.refl _ _
  clear hcell hkcell hB hK hC hcx k0 r0 r1 r2 hCL
  go_enter Try.func77, Try.ntmps77
  go_wp2_with fail
  go_region_held3 (fun W => Below w.heap.size w W)
    (first
      | assumption
      | exact (show Below w.heap.size w _ by assumption).drew
      | exact Below.alloc (by assumption) (Below.size (by assumption)) _
      | exact below_then (by assumption) hb9)
    (first
      | (go_at_call 44; (with_reducible refine (HC.out _ _ ?_).mono ?_); (first | exact HCL.out _ | exact (HCL.out _).next hb9); rintro e w9 ⟨rfl, hb9⟩))
  all_goals
    go_wp2_with fail
    go_ret
    exact ⟨rfl, by assumption⟩
end Go.Proofs.Ytnjnalehfhfefaa
/- The walks of pred.each and pred.along, as Ask uses them. -/
namespace Go.Proofs.Ytnjnalehfhfefaa
open Go.RowKit
set_option linter.unusedVariables false

/-- the first error of columns from j on, k of them -/
def firE (e : Nat → Nat) : Nat → Nat → Nat
  | _, 0 => 0
  | j, k + 1 => if e j ≠ 0 then e j else firE e (j + 1) k
def iv (l : List Nat) : List Value := l.map fun x : Nat => Value.int .i64 (x : Int)

set_option maxHeartbeats 1000000 in
set_option maxRecDepth 100000 in
theorem each_ask (Kb Rb : Nat) (a : Option Addr) (n cap : Nat) (e : Nat → Nat) (he : ∀ j, e j < 4294967296) (w : World) (hm : n ≤ maxLen)
    (HF : ∀ W, Below w.heap.size w W → ∀ j, j < n → Calls Try.prog 77 #[.int .i64 j, .pointer (some ⟨Kb, 0, none⟩), .pointer (some ⟨Rb, 0, none⟩)] W (CErrPost (e j) W)) :
    Calls Try.prog 76 #[.slice a n cap, .func (.func 77) #[] #[.pointer (some ⟨Kb, 0, none⟩), .pointer (some ⟨Rb, 0, none⟩)]] w (CErrPost (firE e 0 n) w) := by
  unfold maxLen at hm
  obtain ⟨R, hR⟩ : ∃ R, R = firE e 0 n := ⟨_, rfl⟩
  rw [← hR]
  have HR0 := Lib.hid (show R = firE e 0 (n - 0) by rw [hR, Nat.sub_zero])
  have HS := Lib.hid (fun j k => show firE e j (k + 1) = if e j ≠ 0 then e j else firE e (j + 1) k from rfl)
  have HF := Lib.hid HF
  clear hR
  go_enter Try.func76, Try.ntmps76
  go_wp2_with fail
  go_loopw [9] (fun i wr => ∃ j : Nat, j ≤ n ∧ i = .int .i64 j ∧ Below w.heap.size w wr ∧ Hid (R = firE e j (n - j))) (fun i _ => n - (intOf i).toNat)
  case atStart => exact ⟨0, by omega, rfl, Below.refl _ _, HR0⟩
  case round =>
    obtain ⟨j, hj, rfl, hb, HJ⟩ := hrel
    by_cases hlt : j < n
    · have HC := Lib.hid (HF.out wr hb j hlt)
      have hst := HS.out j (n - (j + 1))
      rw [show n - (j + 1) + 1 = n - j by omega] at hst
      have HJ2 := Lib.hid (HJ.out.trans hst)
      have hlt2 := he j
      clear hst HJ
      generalize e j = er at *
      by_cases h0 : er = 0
      · subst h0
        have HN := Lib.hid (show R = firE e (j + 1) (n - (j + 1)) by rw [HJ2.out, if_neg (by simp)])
        go_wp2_with fail
        refine HC.out.mono ?_
        rintro e w1 ⟨rfl, hb1⟩
        go_wp2_with fail
        exact ⟨⟨j + 1, by omega, by go_num, below_then hb hb1, HN⟩, by simp [intOf]; omega⟩
      · have HN := Lib.hid (show R = er by rw [HJ2.out, if_pos h0])
        have g1 : ((er : Int) != 0) = true := by rw [bne_iff_ne]; omega
        go_wp2_with fail
        refine HC.out.mono ?_
        rintro e w1 ⟨rfl, hb1⟩
        go_wp2_with fail
        go_ret
        exact ⟨by rw [HN.out]; rfl, below_then hb hb1⟩
    · obtain rfl : j = n := by omega
      have HN := Lib.hid (show R = 0 by rw [HJ.out, Nat.sub_self]; rfl)
      go_wp2_with fail
      go_ret
      exact ⟨by rw [HN.out]; rfl, hb⟩

/-- a row of whole numbers, of pred.truth -/
def TrRow (B : Nat) (xs : List Nat) (v : Value) (wr : World) : Prop := wr.ownsRow B 95 1 v xs.length (iv xs)
theorem info_ask : (Try.prog.info? 95).map (fun i => (i.zero, i.size, i.bytes)) = some (some (.int .i64 0), 1, 8) := by kernel_rfl
theorem TrRow.form {B : Nat} {xs : List Nat} {v : Value} {w : World} (h : TrRow B xs v w) (hn : 0 < xs.length) : ∃ g cap, v = .slice (some ⟨g, 0, none⟩) xs.length cap ∧ xs.length ≤ cap ∧ cap ≤ maxLen ∧ (∀ i, i < xs.length → w.cell? ⟨g, i, none⟩ = some (.int .i64 (xs.getD i 0 : Nat))) ∧ g < w.heap.size := by
  unfold TrRow at h
  rcases h.2 with ⟨_, h0⟩ | ⟨g, cap, cur, rfl, e2, e3, e4, e5, _⟩
  · omega
  · refine ⟨g, cap, rfl, e4, e5, fun i hi => ?_, lt_of_block e3⟩
    rw [h.cellAt i (by omega)]
    simp [iv, List.getD, List.getElem?_eq_getElem hi]
theorem TrRow.cut {B : Nat} {xs : List Nat} {g n cap : Nat} {w : World} (h : TrRow B xs (.slice (some ⟨g, 0, none⟩) n cap) w) (k : Nat) (hk : k ≤ xs.length) : TrRow B (xs.take k) (.slice (some ⟨g, 0, none⟩) k cap) w := by
  unfold TrRow at *
  obtain ⟨h1, h2⟩ := h
  have hlen : (xs.take k).length = k := by rw [List.length_take]; omega
  rcases h2 with ⟨h0, _⟩ | ⟨g', cap', cur, e1, e2, e3, e4, e5, e6, e7⟩
  · cases h0
  · have hs : g = g' ∧ n = xs.length ∧ cap = cap' := by simpa using e1
    obtain ⟨rfl, rfl, rfl⟩ := hs
    rw [hlen]
    refine ⟨by simp [iv]; omega, Or.inr ⟨g, cap, cur, rfl, e2, e3, by omega, e5, e6, ?_⟩⟩
    have := congrArg (List.take k) e7
    rw [List.take_take] at this
    rw [show min k (xs.length * 1) = k * 1 by omega] at this
    rw [this]; simp [iv]
theorem wpList_append_ask {w : World} {ops : Array Oper} {rest : List Oper} {o : Oper} {a : Act} {Q : Exit → Act → World → Prop} (hgd : o.guard = none) (s x : Operand)
    (ho : o.op = .call { callee := .builtin .append, args := #[s, x], argTypes := #[115, 115] }) (base : Nat)
    (v : Value) (xs : List Nat) (hs : a.eval s = v) (hown : TrRow base xs v w)
    (g : Nat) (y : Nat) (hx : a.eval x = .slice (some ⟨g, 0, none⟩) 1 1) (hc : w.cell? ⟨g, 0, none⟩ = some (.int .i64 (y : Int)))
    (hbytes : (xs.length + 1) * 8 ≤ 140737488355328) (hbase : base ≤ w.heap.size)
    (h : ∀ v' w', TrRow base (xs ++ [y]) v' w' → Below base w w' → wpList Try.prog ops Q rest (a.put o.dst v') w') : wpList Try.prog ops Q (o :: rest) a w := by
  obtain ⟨i, hi, hz0, hz1, hz2⟩ := info_parts info_ask
  refine wpList_append_own w hgd s x 115 ho base 95 i (.int .i64 0) 1 8 Try.underlying115 hi hz0 hz1 hz2 rfl (by decide) v xs.length (iv xs) hs hown ⟨g, 0, none⟩ 1 1 [.int .i64 (y : Int)] hx rfl ?_ ?_ (by unfold maxLen; omega) hbytes hbase (fun v' w' h1 h2 _ => h v' w' ?_ ?_)
  · intro j u hj
    match j, hj with
    | 0, hj => simp at hj; subst hj; simpa [Addr.add] using hc
  · intro u hu; simp at hu; subst hu; rfl
  · unfold TrRow; rw [List.length_append]; simpa [iv] using h1
  · exact (Below.refl base w).grown h2 hbase (fun k hk => (hown.lt k hk).1)
theorem step_append_ask {w : World} {ops : Array Oper} {o : Oper} {a : Act} {K : Act → World → Prop} {Q : Exit → Act → World → Prop} {E : Prop} (hgd : o.guard = none) (s x : Operand)
    (ho : o.op = .call { callee := .builtin .append, args := #[s, x], argTypes := #[115, 115] }) (base : Nat)
    (v : Value) (xs : List Nat) (hs : a.eval s = v) (hown : TrRow base xs v w)
    (g : Nat) (y : Nat) (hx : a.eval x = .slice (some ⟨g, 0, none⟩) 1 1) (hc : w.cell? ⟨g, 0, none⟩ = some (.int .i64 (y : Int)))
    (hbytes : (xs.length + 1) * 8 ≤ 140737488355328) (hbase : base ≤ w.heap.size)
    (h : ∀ v' w', TrRow base (xs ++ [y]) v' w' → Below base w w' → K (a.put o.dst v') w') :
    if Region.wanted o (yielded ops a.tmps) = true then Oper.wp Try.prog o a w K Q else E := by
  obtain ⟨i, hi, hz0, hz1, hz2⟩ := info_parts info_ask
  refine step_append_lies w hgd s x 115 ho base 95 i (.int .i64 0) 1 8 Try.underlying115 hi hz0 hz1 hz2 rfl (by decide) v xs.length (iv xs) hs hown ⟨g, 0, none⟩ 1 1 [.int .i64 (y : Int)] hx rfl ?_ ?_ (by decide) (by unfold maxLen; omega) hbytes hbase _ rfl ?_
  · intro j u hj
    match j, hj with
    | 0, hj => simp at hj; subst hj; simpa [Addr.add] using hc
  · intro u hu; simp at hu; subst hu; rfl
  · intro g' cap w' h1 h2 h3 h4
    refine h _ w' ?_ ?_
    · unfold TrRow; rw [List.length_append]; simpa [iv] using h1
    · exact (Below.refl base w).grown h2 hbase (fun k hk => (hown.lt k hk).1)
theorem TrRow.below {B : Nat} {xs : List Nat} {v : Value} {w w' : World} (h : TrRow B xs v w) (hb : Below w.heap.size w w') : TrRow B xs v w' := row_below h hb

set_option maxHeartbeats 2000000 in
set_option maxRecDepth 100000 in
theorem along_ask (Rb : Nat) (ap : Option Addr) (cp : Nat) (p : List O.Cd) (ask : O.Cd → Nat) (bnd : Nat) (hbnd : bnd < 4294967296) (hask : ∀ c, ask c ≤ bnd) (hjo : ∀ op a b, a ≤ bnd → b ≤ bnd → O.jo op a b ≤ bnd) (w : World)
    (h16 : p.length ≤ 16) (hpx : ∀ x ∈ p, dOk x) (hpu : Cds w w.heap.size ap p) (hfree : ∀ j, j < p.length → O.parts (p.getD j O.nullC).op ≤ (O.run ask O.jo [] (p.take j)).length) (hend : (O.run ask O.jo [] p).length = 1)
    (HA : ∀ W, Below w.heap.size w W → ∀ j, j < p.length → O.parts (p.getD j O.nullC).op = 0 → Calls Try.prog 79 #[dag (p.getD j O.nullC), .pointer (some ⟨Rb, 0, none⟩)] W (CErrPost (ask (p.getD j O.nullC)) W))
    (HJ : ∀ W op a b, a ≤ bnd → b ≤ bnd → Calls Try.prog 81 #[.int .i64 op, .int .i64 a, .int .i64 b] W (ValPost (.int .i64 (O.jo op a b : Nat)) W)) :
    Calls Try.prog 78 #[.slice ap p.length cp, .func (.func 79) #[] #[.pointer (some ⟨Rb, 0, none⟩)], .func (.func 81) #[] #[]] w (CErrPost ((O.run ask O.jo [] p).getD 0 0) w) := by
  obtain ⟨st, hst⟩ : ∃ st : Nat → List Nat, st = fun j => O.run ask O.jo [] (p.take j) := ⟨_, rfl⟩
  have hst0 : st 0 = [] := by rw [hst]; rfl
  have hstp : ∀ j, j < p.length → st (j + 1) = O.step ask O.jo (st j) (p.getD j O.nullC) := by
    intro j hj
    rw [hst]
    simp only
    rw [List.take_succ_eq_append_getElem hj, O.run_snoc]
    simp only [List.getD, List.getElem?_eq_getElem hj, Option.getD_some]
  have hstl : st p.length = O.run ask O.jo [] p := by rw [hst]; simp
  have hfr : ∀ j, j < p.length → O.parts (p.getD j O.nullC).op ≤ (st j).length := by intro j hj; rw [hst]; exact hfree j hj
  rw [← hstl] at hend ⊢
  clear hst hstl hfree
  have hle : ∀ j, j ≤ p.length → (st j).length ≤ j ∧ ∀ x ∈ st j, x ≤ bnd := by
    intro j
    induction j with
    | zero => intro _; rw [hst0]; simp
    | succ j ih =>
      intro hj
      obtain ⟨i1, i2⟩ := ih (by omega)
      have hf := hfr j (by omega)
      rw [hstp j (by omega)]
      refine ⟨by rw [O.run_len _ _ _ _ hf]; omega, fun x hx => ?_⟩
      unfold O.step at hx
      have hg : ∀ i, (st j).getD i 0 ≤ bnd := by
        intro i
        by_cases hi : i < (st j).length
        · simp only [List.getD, List.getElem?_eq_getElem hi, Option.getD_some]; exact i2 _ (List.getElem_mem hi)
        · simp only [List.getD, List.getElem?_eq_none (by omega : (st j).length ≤ i), Option.getD_none]; omega
      split at hx
      · rcases List.mem_append.1 hx with hx | hx
        · exact i2 x hx
        · rw [List.mem_singleton.1 hx]; exact hask _
      · rcases List.mem_append.1 hx with hx | hx
        · exact i2 x (List.mem_of_mem_take hx)
        · rw [List.mem_singleton.1 hx]; exact hjo _ _ _ (hg _) (hg _)
  have hpu' : ∀ W, Below w.heap.size w W → ∀ j, j < p.length → ∃ b off, ap = some ⟨b, off, none⟩ ∧ at5 W b (off + j * 5) (p.getD j O.nullC) := by
    intro W hb j hj
    obtain ⟨b, off, e, _, hc⟩ := hpu.next at5_firm hb (by intro e; rw [e] at hj; simp at hj)
    exact ⟨b, off, e, hc j hj⟩
  have HPU := Lib.hid hpu'
  have HLE := Lib.hid hle
  have HSTP := Lib.hid hstp
  have HFR := Lib.hid hfr
  have HA := Lib.hid HA
  have HJ := Lib.hid HJ
  have HST0 := Lib.hid hst0
  have HEND := Lib.hid hend
  have HG : Hid (∀ j i, j ≤ p.length → i < (st j).length → (st j).getD i 0 ≤ bnd) := Lib.hid (fun j i hj hi => by
    simp only [List.getD, List.getElem?_eq_getElem hi, Option.getD_some]; exact (HLE.out j hj).2 _ (List.getElem_mem hi))
  clear hpu' hle hstp hfr hst0 hend hpu hpx
  go_enter Try.func78, Try.ntmps78
  go_wp2_with fail
  go_loopw [7, 14] (fun u i wr => ∃ j : Nat, j ≤ p.length ∧ i = .int .i64 j ∧ Below w.heap.size w wr ∧ TrRow w.heap.size (st j) u wr) (fun _ i _ => p.length - (intOf i).toNat)
  case atStart => exact ⟨0, by omega, rfl, Below.refl _ _, by rw [HST0.out]; exact ⟨rfl, Or.inl ⟨rfl, rfl⟩⟩⟩
  case round =>
    obtain ⟨j, hj, rfl, hb, hrow⟩ := hrel
    by_cases hlt : j < p.length
    · obtain ⟨b, off, rfl, c0, c1, c2, c3, c4⟩ := HPU.out wr hb j hlt
      have hst := HSTP.out j hlt
      have hfj := HFR.out j hlt
      obtain ⟨hl1, hl2⟩ := HLE.out j hj
      have HAJ := Lib.hid (fun W (h : Below w.heap.size w W) => HA.out W h j hlt)
      have hGJ := HG.out j
      generalize p.getD j O.nullC = x at *
      have hb1 : Below w.heap.size w (wr.alloc (.cells #[.int .i64 x.op, .int .i64 x.col, .int .i64 x.c.kind, .int .u64 (x.c.num : Int), .string (str x.c.txt)] 59)) := hb.alloc hb.size _
      have hp := pen_new wr (.int .i64 x.op) (.int .i64 x.col) (.int .i64 x.c.kind) (.int .u64 (x.c.num : Int)) (.string (str x.c.txt))
      have hrow1 := hrow.below (show Below wr.heap.size wr (wr.alloc (.cells #[.int .i64 x.op, .int .i64 x.col, .int .i64 x.c.kind, .int .u64 (x.c.num : Int), .string (str x.c.txt)] 59)) from (Below.refl _ _).alloc (Nat.le_refl _) _)
      have HPA := Lib.hid (fun W => parts_any x.op W)
      have hpl := O.parts_le x.op
      have HHA := Lib.hid (fun (h0 : O.parts x.op = 0) => show Calls Try.prog 79 #[.agg #[.int .i64 x.op, .int .i64 x.col, .int .i64 x.c.kind, .int .u64 (x.c.num : Int), .string (str x.c.txt)], .pointer (some ⟨Rb, 0, none⟩)] (wr.alloc (.cells #[.int .i64 x.op, .int .i64 x.col, .int .i64 x.c.kind, .int .u64 (x.c.num : Int), .string (str x.c.txt)] 59)) (CErrPost (ask x) (wr.alloc (.cells #[.int .i64 x.op, .int .i64 x.col, .int .i64 x.c.kind, .int .u64 (x.c.num : Int), .string (str x.c.txt)] 59))) from HAJ.out _ hb1 h0)
      clear HAJ
      have hq := hask x
      unfold O.step at hst
      obtain ⟨q0, q1, q2, q3, q4⟩ := hp.all
      have HST := Lib.hid hst
      clear hst hp
      generalize O.parts x.op = m at *
      generalize ask x = aq at *
      generalize str x.c.txt = X at *
      generalize x.c.num = xn at *
      generalize x.c.kind = xk at *
      generalize x.op = xo at *
      generalize x.col = xc at *
      have hsz : (wr.alloc (.cells #[.int .i64 xo, .int .i64 xc, .int .i64 xk, .int .u64 (xn : Int), .string X] 59)).heap.size = wr.heap.size + 1 := by simp
      have HB1 := Lib.hid hb1
      have HROW1 := Lib.hid hrow1
      have HHS := Lib.hid hb.size
      by_cases h0 : m = 0
      · subst h0
        have HHB := Lib.hid (HHA.out rfl)
        clear HHA
        have HST := Lib.hid (show st (j + 1) = st j ++ [aq] by rw [HST.out, if_pos rfl])
        go_wp2_with fail
        refine (HPA.out _).mono ?_
        rintro e w1 ⟨rfl, rfl⟩
        go_wp2_with fail
        refine HHB.out.mono ?_
        rintro e w1 ⟨rfl, hb2⟩
        have hb3 := below_then HB1.out hb2
        have hr5 := (HROW1.out.below hb2).below (show Below w1.heap.size w1 (w1.alloc (.cells #[.int .i64 (aq : Int)] 95)) from (Below.refl _ _).alloc (Nat.le_refl _) _)
        have hb5 : w.heap.size ≤ (w1.alloc (.cells #[.int .i64 (aq : Int)] 95)).heap.size := by have := hb3.size; simp; omega
        have hlb : ((st j).length + 1) * 8 ≤ 140737488355328 := by omega
        have HR5 := Lib.hid hr5
        clear hr5 hrow hrow1 hGJ
        go_wp2_with (at_builtin; refine wpList_append_ask rfl (.tmp 23) (.tmp 27) rfl w.heap.size _ (st j) rfl HR5.out w1.heap.size aq rfl (World.cell?_alloc_new _ _ _ _) hlb hb5 ?_)
        intro v' w4 hr4 hb4
        go_wp2_with fail
        exact ⟨⟨j + 1, by omega, by go_num, (hb3.alloc hb3.size _).trans hb4, by rw [HST.out]; exact hr4⟩, by simp [intOf]; omega⟩
      · have HSU := Lib.hid (show st (j + 1) = (st j).take ((st j).length - m) ++ [O.jo xo ((st j).getD ((st j).length - m) 0) ((st j).getD ((st j).length - 1) 0)] by rw [HST.out, if_neg h0])
        clear HST
        obtain ⟨g, cap, rfl, hgc, hcm, hcells, hgl⟩ := HROW1.out.form (by omega)
        obtain ⟨fr, hfr⟩ : ∃ fr, fr = (st j).length - m := ⟨_, rfl⟩
        obtain ⟨la, hla⟩ : ∃ la, la = (st j).length - 1 := ⟨_, rfl⟩
        rw [← hfr, ← hla] at HSU
        have d1 := hcells fr (by omega)
        have d2 := hcells la (by omega)
        have hx1 := hGJ fr hj (by omega)
        have hx2 := hGJ la hj (by omega)
        have HCUT := Lib.hid (HROW1.out.cut fr (by omega))
        generalize (st j).getD fr 0 = A1 at *
        generalize (st j).getD la 0 = A2 at *
        have HHJ := Lib.hid (fun W => HJ.out W xo A1 A2 hx1 hx2)
        have hjj := hjo xo A1 A2 hx1 hx2
        generalize O.jo xo A1 A2 = jr at *
        have hw1 : IntKind.i64.wrap (((st j).length : Int) - (m : Int)) = (fr : Int) := by rw [IntKind.wrap_i64]; omega
        have hw2 : IntKind.i64.wrap (((st j).length : Int) - 1) = (la : Int) := by rw [IntKind.wrap_i64]; omega
        have g0 : ((m : Int) == 0) = false := by rw [beq_eq_false_iff_ne]; omega
        have g1 : (m == 0) = false := by rw [beq_eq_false_iff_ne]; omega
        have l1 : (fr : Int) < ((st j).length : Int) := by omega
        have l2 : (la : Int) < ((st j).length : Int) := by omega
        have l3 : (fr : Int) ≤ ((st j).length : Int) := by omega
        have l4 : (fr : Int) ≤ (cap : Int) := by omega
        have l5 : fr ≤ cap := by omega
        have hfl : ((st j).take fr).length = fr := by rw [List.length_take]; omega
        have hbig : (fr + 1) * 8 ≤ 140737488355328 := by omega
        have hnn : (st j).length ≤ 16 := by omega
        have HFL := Lib.hid hfl
        clear hcells hGJ hfr hla hl1 hl2 hx1 hx2 hgc hfl hrow hrow1 hfj
        generalize (st j).length = n1 at *
        unfold maxLen at hcm
        go_wp2_with fail
        refine (HPA.out _).mono ?_
        rintro e w1 ⟨rfl, rfl⟩
        go_wp2_with fail
        generalize hW0 : wr.alloc (.cells #[.int .i64 xo, .int .i64 xc, .int .i64 xk, .int .u64 (xn : Int), .string X] 59) = W0 at *
        clear hW0
        have HR5 := Lib.hid (show TrRow w.heap.size ((st j).take fr) (.slice (some ⟨g, 0, none⟩) fr cap) (W0.alloc (.cells #[.int .i64 (jr : Int)] 95)).drew from HCUT.out.below (w' := W0.alloc (.cells #[.int .i64 (jr : Int)] 95)) ((Below.refl _ _).alloc (Nat.le_refl _) _))
        have hb5 : w.heap.size ≤ (W0.alloc (.cells #[.int .i64 (jr : Int)] 95)).drew.heap.size := by have := HB1.out.size; simp; omega
        have hb6 := HB1.out.alloc HB1.out.size (.cells #[.int .i64 (jr : Int)] 95)
        have HB6 := Lib.hid hb6.drew
        have hlb : (((st j).take fr).length + 1) * 8 ≤ 140737488355328 := by rw [HFL.out]; exact hbig
        clear hgl hb1 HROW1 q1 q2 q3 q4 hsz hb6
        go_region_law (first
          | (go_simp; go_at_call 81; refine (HHJ.out _).mono ?_; rintro e w9 ⟨rfl, rfl⟩)
          | (refine step_append_ask rfl (.tmp 35) (.tmp 50) rfl w.heap.size _ ((st j).take fr) rfl HR5.out W0.heap.size jr rfl (by simp) hlb hb5 ?_; intro v' w4 hr4 hb4))
        all_goals
          go_wp2_with fail
          exact ⟨⟨j + 1, by omega, by go_num, HB6.out.trans hb4, by rw [HSU.out]; exact hr4⟩, by simp [intOf]; omega⟩
    · obtain rfl : j = p.length := by omega
      obtain ⟨g, cap, rfl, hgc, hcm, hcells, hgl⟩ := hrow.form (by rw [HEND.out]; omega)
      have hone := HEND.out
      have d1 := hcells 0 (by omega)
      have hz := HG.out p.length 0 hj (by omega)
      generalize (st p.length).getD 0 0 = A1 at *
      rw [hone] at *
      clear hone hcells
      go_wp2_with fail
      go_ret
      exact ⟨rfl, hb⟩
end Go.Proofs.Ytnjnalehfhfefaa
/- More of conditions: how many stand behind k nodes, the reference's ways, De Morgan, what is more. -/
namespace Go.Proofs.Ytnjnalehfhfefaa.O
set_option linter.unusedVariables false

theorem chk_alone (ks : List Int) : ∀ (p : List Cd) (free : Nat), chk ks free p = 0 → ∀ c ∈ p, alone ks c = 0 := by
  intro p
  induction p with
  | nil => intro _ _ c hc; simp at hc
  | cons x p ih =>
    intro free h c hc
    rw [chk] at h
    by_cases hn : nodeE ks free x ≠ 0
    · rw [if_pos hn] at h; exact absurd h hn
    · rw [if_neg hn] at h
      rcases List.mem_cons.1 hc with rfl | hc
      · exact (nodeE_zero (show nodeE ks free c = 0 by omega)).1
      · exact ih _ h c hc
theorem run_free (ask : Cd → Nat) (jo : Int → Nat → Nat → Nat) (ks : List Int) : ∀ (p : List Cd) (st : List Nat), chk ks st.length p = 0 →
    (∀ j, j < p.length → parts (p.getD j nullC).op ≤ (run ask jo st (p.take j)).length) ∧ (run ask jo st p).length = 1 := by
  intro p
  induction p with
  | nil =>
    intro st h
    unfold chk at h
    refine ⟨fun j hj => by simp at hj, ?_⟩
    by_cases h1 : st.length ≠ 1
    · rw [if_pos h1] at h; cases h
    · show st.length = 1; omega
  | cons c p ih =>
    intro st h
    rw [chk] at h
    by_cases hn : nodeE ks st.length c ≠ 0
    · rw [if_pos hn] at h; exact absurd h hn
    · rw [if_neg hn] at h
      have hz := nodeE_zero (show nodeE ks st.length c = 0 by omega)
      have hl := run_len ask jo st c hz.2
      rw [← hl] at h
      obtain ⟨i1, i2⟩ := ih (step ask jo st c) h
      refine ⟨fun j hj => ?_, i2⟩
      cases j with
      | zero => exact hz.2
      | succ j =>
        exact i1 j (by simpa using hj)
theorem check_zero {p : List Cd} {ks : List Int} (h : check p ks = 0) : p.length ≤ 16 ∧ chk ks 0 p = 0 := by
  unfold check at h
  by_cases h1 : 16 < p.length
  · rw [if_pos h1] at h; cases h
  · rw [if_neg h1] at h; exact ⟨by omega, h⟩
theorem cellE_lt (k : Int) (c : C.Cl) : C.cellE k c < 9 := by
  unfold C.cellE
  (repeat' split) <;> omega
theorem alone_lt (ks : List Int) (c : Cd) : alone ks c < 9 := by
  unfold alone
  have := cellE_lt (ks.getD c.col.toNat 0) c.c
  generalize C.cellE (ks.getD c.col.toNat 0) c.c = z at *
  (repeat' split) <;> omega
theorem nodeE_lt9 (ks : List Int) (free : Nat) (c : Cd) : nodeE ks free c < 9 := by
  unfold nodeE
  have := alone_lt ks c
  generalize alone ks c = z at *
  (repeat' split) <;> omega
theorem chk_lt9 (ks : List Int) : ∀ (p : List Cd) (free : Nat), chk ks free p < 9 := by
  intro p
  induction p with
  | nil => intro free; unfold chk; split <;> omega
  | cons c p ih =>
    intro free
    rw [chk]
    have := nodeE_lt9 ks free c
    split
    · omega
    · exact ih _
theorem check_lt (p : List Cd) (ks : List Int) : check p ks < 9 := by
  unfold check
  split
  · omega
  · exact chk_lt9 ks p 0
theorem Ok_here {k : Int} {s : S.St} (h : S.Ok k s) (hr : s.nulls < s.rows) : s.least.kind ≠ 0 ∧ s.most.kind ≠ 0 := by
  have := h.kind
  rcases h.st with ⟨h1, _⟩ | ⟨_, h2, h3⟩
  · omega
  · rw [h2, h3]; omega
/-- a leaf that is right -/
theorem alone_leaf {ks : List Int} {c : Cd} (h : alone ks c = 0) (hp : parts c.op = 0) : 1 ≤ c.op ∧ c.op ≤ 4 ∧ 0 ≤ c.col ∧ c.col < ks.length ∧ (c.op ≠ 4 → c.c.kind ≠ 0) := by
  unfold alone at h
  rcases parts_cases c.op with ⟨_, h5, h6, h7⟩ | hc | hc
  · by_cases a1 : c.op < 1 ∨ 7 < c.op
    · rw [if_pos a1] at h; cases h
    rw [if_neg a1, if_neg (by omega)] at h
    by_cases a2 : c.col < 0 ∨ (ks.length : Int) ≤ c.col
    · rw [if_pos a2] at h; cases h
    rw [if_neg a2] at h
    refine ⟨by omega, by omega, by omega, by omega, fun h4 => ?_⟩
    by_cases a3 : ks.getD c.col.toNat 0 ≠ 1 ∧ ks.getD c.col.toNat 0 ≠ 2
    · rw [if_pos a3] at h; cases h
    rw [if_neg a3, if_neg h4] at h
    by_cases a4 : C.cellE (ks.getD c.col.toNat 0) c.c ≠ 0
    · rw [if_pos a4] at h; exact absurd h a4
    rw [if_neg a4] at h
    intro hk
    rw [if_pos hk] at h; cases h
  · omega
  · omega
theorem alone_node {ks : List Int} {c : Cd} (h : alone ks c = 0) : 1 ≤ c.op ∧ c.op ≤ 7 := by
  unfold alone at h
  by_cases a1 : c.op < 1 ∨ 7 < c.op
  · rw [if_pos a1] at h; cases h
  · omega

/-- sets: what the reference reckons -/
def ms (no unknown yes : Bool) : Nat := (if no then 1 else 0) + (if unknown then 2 else 0) + (if yes then 4 else 0)
theorem ms_lt (a b c : Bool) : ms a b c < 8 := by cases a <;> cases b <;> cases c <;> decide
def nt (x : Nat) : Nat := ms (has x 2) (has x 1) (has x 0)
def rt (op : Int) (a b : Nat) : Nat := if (op = 5 ∧ b < a) ∨ (op = 6 ∧ a < b) then b else a
def rj (op : Int) (x y : Nat) : Nat → Nat
  | 0 => 0
  | n + 1 => if has x (n / 3) && has y (n % 3) && !has (rj op x y n) (rt op (n / 3) (n % 3)) then rj op x y n + 2 ^ rt op (n / 3) (n % 3) else rj op x y n
theorem joS_not : ∀ x : Fin 8, joS 7 x.val x.val = nt x.val := by decide +kernel
theorem joS_and : ∀ x y : Fin 8, joS 5 x.val y.val = rj 5 x.val y.val 9 := by decide +kernel
theorem joS_or : ∀ x y : Fin 8, joS 6 x.val y.val = rj 6 x.val y.val 9 := by decide +kernel
theorem joS_7 {x : Nat} (hx : x < 8) : joS 7 x x = nt x := joS_not ⟨x, hx⟩
theorem joS_5 {x y : Nat} (hx : x < 8) (hy : y < 8) : joS 5 x y = rj 5 x y 9 := joS_and ⟨x, hx⟩ ⟨y, hy⟩
theorem joS_6 {x y : Nat} (hx : x < 8) (hy : y < 8) : joS 6 x y = rj 6 x y 9 := joS_or ⟨x, hx⟩ ⟨y, hy⟩
theorem rt_le (op : Int) (a b : Nat) (ha : a ≤ 2) (hb : b ≤ 2) : rt op a b ≤ 2 := by unfold rt; split <;> omega
theorem rj_lt : ∀ x y : Fin 8, ∀ n : Fin 10, rj 5 x.val y.val n.val < 8 ∧ rj 6 x.val y.val n.val < 8 := by decide +kernel

/-- a leaf's set, as the reference says it -/
def leafS (c : Cd) (s : S.St) (f : Bl.F) : Nat :=
  if c.op = 4 then ms (decide (s.nulls < s.rows)) false (decide (0 < s.nulls))
  else if ¬ s.nulls < s.rows then ms false (decide (0 < s.nulls)) false
  else if c.op = 1 then (if C.less c.c s.least || C.less s.most c.c || !Bl.may f c.c then ms true (decide (0 < s.nulls)) false else if s.least = s.most then ms false (decide (0 < s.nulls)) true else ms true (decide (0 < s.nulls)) true)
  else if c.op = 2 then ms (!C.less s.most c.c) (decide (0 < s.nulls)) (C.less s.most c.c || C.less s.least c.c)
  else ms (!C.less c.c s.least) (decide (0 < s.nulls)) (C.less c.c s.least || C.less c.c s.most)
theorem leaf_is {k : Int} {c : Cd} {s : S.St} (f : Bl.F) (hs : S.Ok k s) (h1 : 1 ≤ c.op) (h4 : c.op ≤ 4) : mayBe c s f = leafS c s f := by
  have hn0 : told c C.null = if c.op = 4 then 2 else 1 := by
    unfold told; simp [C.null]
  unfold mayBe leafS there
  rw [hn0]
  by_cases a4 : c.op = 4
  · rw [if_pos a4, if_pos a4]
    by_cases hr : s.nulls < s.rows
    · have hk := Ok_here hs hr
      have t1 : told c s.least = 0 := by unfold told; rw [if_pos a4, if_neg hk.1]
      have t2 : told c s.most = 0 := by unfold told; rw [if_pos a4, if_neg hk.2]
      by_cases hn : 0 < s.nulls <;> simp [hr, hn, t1, t2, a4, ms]
    · by_cases hn : 0 < s.nulls <;> simp [hr, hn, ms]
  · rw [if_neg a4, if_neg a4]
    by_cases hr : s.nulls < s.rows
    · have hk := Ok_here hs hr
      rw [if_pos hr, if_neg (show ¬ ¬ s.nulls < s.rows from fun h => h hr)]
      by_cases b1 : c.op = 1
      · rw [if_neg (show ¬ c.op ≠ 1 from fun h => h b1), if_pos b1]
        by_cases q1 : (C.less c.c s.least || C.less s.most c.c || !Bl.may f c.c) = true
        · rw [if_pos q1, if_pos q1]
          by_cases hn : 0 < s.nulls <;> simp [hn, ms]
        · rw [if_neg q1, if_neg q1]
          by_cases q2 : s.least = s.most
          · rw [if_pos q2, if_pos q2]
            by_cases hn : 0 < s.nulls <;> simp [hn, ms]
          · rw [if_neg q2, if_neg q2]
            by_cases hn : 0 < s.nulls <;> simp [hn, ms]
      · rw [if_pos b1, if_neg b1]
        have hlm := hs.lm
        by_cases b2 : c.op = 2
        · rw [if_pos b2]
          have t1 : told c s.least = if C.less s.least c.c = true then 2 else 0 := by unfold told; rw [if_neg a4, if_neg hk.1, if_pos b2]
          have t2 : told c s.most = if C.less s.most c.c = true then 2 else 0 := by unfold told; rw [if_neg a4, if_neg hk.2, if_pos b2]
          rw [t1, t2]
          have himp : C.less s.most c.c = true → C.less s.least c.c = true := by
            intro h
            cases hl : C.less s.least c.c
            · have := S.le_tr (a := c.c) (b := s.least) (c := s.most) hl hlm
              rw [this] at h; cases h
            · rfl
          cases e1 : C.less s.most c.c <;> cases e2 : C.less s.least c.c
          · by_cases hn : 0 < s.nulls <;> simp [hn, ms]
          · by_cases hn : 0 < s.nulls <;> simp [hn, ms]
          · rw [himp e1] at e2; cases e2
          · by_cases hn : 0 < s.nulls <;> simp [hn, ms]
        · rw [if_neg b2]
          have b3 : c.op = 3 := by omega
          have t1 : told c s.least = if C.less c.c s.least = true then 2 else 0 := by unfold told; rw [if_neg a4, if_neg hk.1, if_neg b2, if_pos b3]
          have t2 : told c s.most = if C.less c.c s.most = true then 2 else 0 := by unfold told; rw [if_neg a4, if_neg hk.2, if_neg b2, if_pos b3]
          rw [t1, t2]
          have himp : C.less c.c s.least = true → C.less c.c s.most = true := by
            intro h
            cases hl : C.less c.c s.most
            · have := S.le_tr (a := s.least) (b := s.most) (c := c.c) hlm hl
              rw [this] at h; cases h
            · rfl
          cases e1 : C.less c.c s.least <;> cases e2 : C.less c.c s.most
          · by_cases hn : 0 < s.nulls <;> simp [hn, ms]
          · by_cases hn : 0 < s.nulls <;> simp [hn, ms]
          · rw [himp e1] at e2; cases e2
          · by_cases hn : 0 < s.nulls <;> simp [hn, ms]
    · rw [if_neg hr, if_pos (show ¬ s.nulls < s.rows from hr)]
      by_cases hn : 0 < s.nulls <;> simp [hn, ms]
end Go.Proofs.Ytnjnalehfhfefaa.O
/- The walk of pred.Ask. -/
namespace Go.Proofs.Ytnjnalehfhfefaa
open Go.RowKit
set_option linter.unusedVariables false

def IEPost (r : Nat × Nat) (w : World) (e : Ending) (w' : World) : Prop := e = .returned (.tuple #[.int .i64 (r.1 : Nat), .int .i64 (r.2 : Nat)]) ∧ Below w.heap.size w w'
theorem firE_shift (e : Nat → Nat) : ∀ (k j : Nat), firE e (j + 1) k = firE (fun i => e (i + 1)) j k
  | 0, _ => rfl
  | k + 1, j => by rw [firE, firE, firE_shift e k (j + 1)]
theorem firE_row : ∀ (ks : List Int) (row : List C.Cl), row.length = ks.length → firE (fun j => oneE (ks.getD j 0) (row.getD j C.null)) 0 ks.length = O.rowE ks row
  | [], row, h => by cases row <;> rfl
  | k :: ks, [], h => by simp at h
  | k :: ks, c :: row, h => by
    rw [List.length_cons, firE, firE_shift]
    rw [show (fun i => oneE ((k :: ks).getD (i + 1) 0) ((c :: row).getD (i + 1) C.null)) = fun i => oneE (ks.getD i 0) (row.getD i C.null) from rfl, firE_row ks row (by simpa using h)]
    rw [O.rowE, chk_one]
    rfl
theorem rowE_lt : ∀ (ks : List Int) (row : List C.Cl), O.rowE ks row < 9
  | [], row => by unfold O.rowE; omega
  | k :: ks, [] => by unfold O.rowE; omega
  | k :: ks, c :: row => by
    rw [O.rowE, chk_one]
    have := oneE_lt k c
    split
    · exact this
    · exact rowE_lt ks row

set_option maxHeartbeats 2000000 in
set_option maxRecDepth 100000 in
theorem ask_any (ap : Option Addr) (cp : Nat) (p : List O.Cd) (ka : Option Addr) (kcap : Nat) (ks : List Int) (a : Option Addr) (cap : Nat) (row : List C.Cl) (w : World)
    (hpm : p.length ≤ maxLen) (hpx : ∀ x ∈ p, dOk x) (hpu : Cds w w.heap.size ap p) (hkm : ks.length ≤ maxLen) (hku : Ints w w.heap.size ka ks) (hm : row.length ≤ maxLen) (hx : ∀ x ∈ row, cOk x) (hu : Cls w w.heap.size a row) :
    Calls Try.prog 36 #[.slice ap p.length cp, .slice ka ks.length kcap, .slice a row.length cap] w (IEPost (O.askR p ks row) w) := by
  have hb0 : Below w.heap.size w (w.alloc (.cells #[.slice ka ks.length kcap] 61)) := (Below.refl _ _).alloc (Nat.le_refl _) _
  have hb1 : Below w.heap.size w ((w.alloc (.cells #[.slice ka ks.length kcap] 61)).alloc (.cells #[.slice a row.length cap] 34)) := hb0.alloc (by simp) _
  have hB0 : Boxed (w.alloc (.cells #[.slice ka ks.length kcap] 61)) w.heap.size 61 (.slice ka ks.length kcap) := boxed_new _ _ _
  have hB0' : Boxed ((w.alloc (.cells #[.slice ka ks.length kcap] 61)).alloc (.cells #[.slice a row.length cap] 34)) w.heap.size 61 (.slice ka ks.length kcap) := boxed_next hB0 ((Below.refl _ _).alloc (Nat.le_refl _) _)
  have hB1 : Boxed ((w.alloc (.cells #[.slice ka ks.length kcap] 61)).alloc (.cells #[.slice a row.length cap] 34)) (w.heap.size + 1) 34 (.slice a row.length cap) := by
    have h := boxed_new (w.alloc (.cells #[.slice ka ks.length kcap] 61)) (.slice a row.length cap) 34
    rwa [show (w.alloc (.cells #[.slice ka ks.length kcap] 61)).heap.size = w.heap.size + 1 by simp] at h
  have HC := Lib.hid (fun W (hb : Below w.heap.size w W) => pcheck_any ap cp p ka kcap ks W hpm hpx (hpu.next at5_firm hb) hkm (hku.next at1_firm hb))
  have hcl := O.check_lt p ks
  have hR : O.askR p ks row = if O.check p ks ≠ 0 then (0, O.check p ks) else if row.length ≠ ks.length then (0, 1) else if O.rowE ks row ≠ 0 then (0, O.rowE ks row) else ((O.run (O.askL row) O.jo [] p).getD 0 0, 0) := rfl
  rw [hR]
  clear hR
  by_cases hc : O.check p ks ≠ 0
  · rw [if_pos hc]
    generalize O.check p ks = er at *
    have g1 : ((er : Int) != 0) = true := by rw [bne_iff_ne]; omega
    have HC := Lib.hid (HC.out _ hb1)
    generalize hW : (w.alloc (.cells #[.slice ka ks.length kcap] 61)).alloc (.cells #[.slice a row.length cap] 34) = W1 at *
    have HW := Lib.hid hW
    clear hW
    go_enter Try.func36, Try.ntmps36
    go_wp2_with fail
    rw [HW.out]
    refine HC.out.mono ?_
    rintro e w1 ⟨rfl, hb2⟩
    go_wp2_with fail
    go_ret2
    exact ⟨rfl, below_then hb1 hb2⟩
  rw [if_neg hc]
  have hc0 : O.check p ks = 0 := by omega
  have HC := Lib.hid (HC.out _ hb1)
  rw [hc0] at HC
  obtain ⟨h16, hck⟩ := O.check_zero hc0
  have hal := O.chk_alone ks p 0 hck
  have hrf := O.run_free (O.askL row) O.jo ks p [] hck
  have hw2 : ((w.alloc (.cells #[.slice ka ks.length kcap] 61)).alloc (.cells #[.slice a row.length cap] 34)).heap.size = w.heap.size + 1 + 1 := by simp
  generalize hW : (w.alloc (.cells #[.slice ka ks.length kcap] 61)).alloc (.cells #[.slice a row.length cap] 34) = W1 at *
  have HW := Lib.hid hW
  clear hW
  by_cases hlen : ¬ row.length = ks.length
  · rw [if_pos hlen]
    have g1 : ((row.length : Int) != (ks.length : Int)) = true := by rw [bne_iff_ne]; omega
    clear hpx hpu hku hx hu hal hrf
    go_enter Try.func36, Try.ntmps36
    go_wp2_with fail
    rw [HW.out]
    refine HC.out.mono ?_
    rintro e w1 ⟨rfl, hb2⟩
    have c0 := boxed_c0 (boxed_next hB0' hb2)
    have c1 := boxed_c0 (boxed_next hB1 hb2)
    go_wp2_with fail
    go_ret2
    exact ⟨rfl, below_then hb1 hb2⟩
  have hlen : row.length = ks.length := Classical.not_not.1 hlen
  rw [if_neg (by omega)]
  have HE := Lib.hid (fun W (hb : Below W1.heap.size W1 W) => each_ask w.heap.size (w.heap.size + 1) ka ks.length kcap (fun j => oneE (ks.getD j 0) (row.getD j C.null)) (fun j => Nat.lt_trans (oneE_lt (ks.getD j 0) (row.getD j C.null)) (by omega)) W hkm (fun W2 hb2 j hj => by
    have hbb := below_then hb hb2
    exact askcol_any w.heap.size (w.heap.size + 1) j ka kcap ks a cap row W2 (boxed_next hB0' hbb) (boxed_next hB1 hbb) (hku.next at1_firm (below_then hb1 hbb)) (hu.next (below_then hb1 hbb)) hx hj (by omega) hm hkm))
  rw [firE_row ks row hlen] at HE
  have hrl := rowE_lt ks row
  by_cases hre : O.rowE ks row ≠ 0
  · rw [if_pos hre]
    generalize O.rowE ks row = er at *
    have g2 : ((row.length : Int) != (ks.length : Int)) = false := by rw [hlen]; simp
    have g1 : ((er : Int) != 0) = true := by rw [bne_iff_ne]; omega
    clear hpx hpu hku hx hu hal hrf hlen
    go_enter Try.func36, Try.ntmps36
    go_wp2_with fail
    rw [HW.out]
    refine HC.out.mono ?_
    rintro e w1 ⟨rfl, hb2⟩
    have c0 := boxed_c0 (boxed_next hB0' hb2)
    have c1 := boxed_c0 (boxed_next hB1 hb2)
    go_wp2_with fail
    refine (HE.out _ hb2).mono ?_
    rintro e w2 ⟨rfl, hb3⟩
    go_wp2_with fail
    go_ret2
    exact ⟨rfl, below_then (below_then hb1 hb2) hb3⟩
  rw [if_neg hre]
  have hre0 : O.rowE ks row = 0 := by omega
  rw [hre0] at HE
  have HAL := Lib.hid (fun W (hb : Below W1.heap.size W1 W) => along_ask (w.heap.size + 1) ap cp p (O.askL row) 2 (by omega) (fun c => O.told_le _ _) (fun op a b ha hb => O.jo_le op a b ha hb) W h16 hpx (hpu.next at5_firm (below_then hb1 hb)) hrf.1 hrf.2
    (fun W2 hb2 j hj hp0 => by
      have hbb := below_then hb hb2
      have hcx : O.alone ks (p.getD j O.nullC) = 0 := hal _ (by simp only [List.getD, List.getElem?_eq_getElem hj, Option.getD_some]; exact List.getElem_mem hj)
      have hl := O.alone_leaf hcx hp0
      exact askleaf_any (w.heap.size + 1) (p.getD j O.nullC) a cap row W2 (boxed_next hB1 hbb) hm (hu.next (below_then hb1 hbb)) ⟨hl.2.2.1, by omega⟩)
    (fun W2 op a b ha hb => joined_any op a b W2 ha hb))
  generalize (O.run (O.askL row) O.jo [] p).getD 0 0 = rr at *
  have g2 : ((row.length : Int) != (ks.length : Int)) = false := by rw [hlen]; simp
  clear hpx hpu hku hx hu hal hrf hlen
  go_enter Try.func36, Try.ntmps36
  go_wp2_with fail
  rw [HW.out]
  refine HC.out.mono ?_
  rintro e w1 ⟨rfl, hb2⟩
  have c0 := boxed_c0 (boxed_next hB0' hb2)
  have c1 := boxed_c0 (boxed_next hB1 hb2)
  go_wp2_with fail
  refine (HE.out _ hb2).mono ?_
  rintro e w2 ⟨rfl, hb3⟩
  have hb4 := below_then hb2 hb3
  have d0 := boxed_c0 (boxed_next hB0' hb4)
  have d1 := boxed_c0 (boxed_next hB1 hb4)
  go_wp2_with fail
  refine (HAL.out _ hb4).mono ?_
  rintro e w3 ⟨rfl, hb5⟩
  go_wp2_with fail
  go_ret2
  exact ⟨rfl, below_then (below_then hb1 hb4) hb5⟩
end Go.Proofs.Ytnjnalehfhfefaa
/- The walks of hypostyleref.condSize, condAlone, CondCheck. -/
namespace Go.Proofs.Ytnjnalehfhfefaa
open Go.RowKit
set_option linter.unusedVariables false

def csz (op : Int) : Int := if op < 1 ∨ 7 < op then -1 else (O.parts op : Nat)
set_option maxHeartbeats 1000000 in
theorem csize_any (op : Int) (w : World) : Calls Try.prog 91 #[.int .i64 op] w (ValPost (.int .i64 (csz op)) w) := by
  by_cases h1 : op < 1
  · have hc : csz op = -1 := by unfold csz; rw [if_pos (Or.inl h1)]
    rw [hc]
    go_enter Try.func91, Try.ntmps91
    go_wp2_with fail
    go_ret
    exact ⟨rfl, rfl⟩
  by_cases h2 : 7 < op
  · have hc : csz op = -1 := by unfold csz; rw [if_pos (Or.inr h2)]
    rw [hc]
    have g1 : decide (op < 1) = false := decide_eq_false h1
    have g2 : decide (7 < op) = true := decide_eq_true h2
    clear h1 h2
    go_enter Try.func91, Try.ntmps91
    go_wp2_with fail
    go_ret
    exact ⟨rfl, rfl⟩
  have h7 : op = 1 ∨ op = 2 ∨ op = 3 ∨ op = 4 ∨ op = 5 ∨ op = 6 ∨ op = 7 := by omega
  rcases h7 with rfl | rfl | rfl | rfl | rfl | rfl | rfl
  all_goals
    go_enter Try.func91, Try.ntmps91
    go_wp2_with fail
    go_ret
    exact ⟨rfl, rfl⟩

set_option maxHeartbeats 4000000 in
set_option maxRecDepth 100000 in
theorem calone_any (c : O.Cd) (a : Option Addr) (cap : Nat) (ks : List Int) (w : World) (hc : dOk c) (hk64 : ∀ k ∈ ks, -9223372036854775808 ≤ k ∧ k ≤ 9223372036854775807) (hm : ks.length ≤ maxLen) (hu : Ints w w.heap.size a ks) :
    Calls Try.prog 90 #[dag c, .slice a ks.length cap] w (CErrPost (O.alone ks c) w) := by
  obtain ⟨op, col, k, n, t⟩ := c
  obtain ⟨_, hcol, hcc⟩ := hc
  simp only at hcol hcc
  unfold maxLen at hm
  have hS := csize_any op
  have hne : ∀ W, (binOp .neq 30 (.agg #[.int .i64 k, .int .u64 (n : Int), .string (str t)]) (.agg #[.int .i64 0, .int .u64 0, .string ⟨#[]⟩])).run Try.prog W = .ok (.bool (decide ((⟨k, n, t⟩ : C.Cl) ≠ C.null))) W := fun W => cneq k n t 0 0 [] W
  have hgd := guards_cell .neq
  have hcell : ∀ K, (-9223372036854775808 ≤ K ∧ K ≤ 9223372036854775807) → ∀ W, Calls Try.prog 54 #[.int .i64 K, .agg #[.int .i64 k, .int .u64 (n : Int), .string (str t)]] W (CErrPost (C.cellE K ⟨k, n, t⟩) W) := fun K hK W => rchk_any K ⟨k, n, t⟩ W hcc hK
  have hA : O.alone ks ⟨op, col, ⟨k, n, t⟩⟩ = if op < 1 ∨ 7 < op then 7 else if 5 ≤ op then (if col ≠ 0 ∨ (⟨k, n, t⟩ : C.Cl) ≠ C.null then 1 else 0)
      else if col < 0 ∨ (ks.length : Int) ≤ col then 3
      else if ks.getD col.toNat 0 ≠ 1 ∧ ks.getD col.toNat 0 ≠ 2 then 7
      else if op = 4 then (if (⟨k, n, t⟩ : C.Cl) ≠ C.null then 1 else 0)
      else if C.cellE (ks.getD col.toNat 0) ⟨k, n, t⟩ ≠ 0 then C.cellE (ks.getD col.toNat 0) ⟨k, n, t⟩ else if k = 0 then 7 else 0 := rfl
  rw [hA]
  clear hA
  have hE9 := fun K => O.cellE_lt K ⟨k, n, t⟩
  have hp := pen_new w (.int .i64 op) (.int .i64 col) (.int .i64 k) (.int .u64 (n : Int)) (.string (str t))
  have hb0 : Below w.heap.size w (w.alloc (.cells #[.int .i64 op, .int .i64 col, .int .i64 k, .int .u64 (n : Int), .string (str t)] 59)) := (Below.refl _ _).alloc (Nat.le_refl _) _
  have HSZ := Lib.hid hS
  have HCELL := Lib.hid hcell
  clear hS hcell hcc
  unfold dag
  simp only
  generalize hZ : decide ((⟨k, n, t⟩ : C.Cl) ≠ C.null) = z at *
  have HZ := Lib.hid (show (if (⟨k, n, t⟩ : C.Cl) ≠ C.null then 1 else 0) = (if z = true then 1 else 0) by
    by_cases h : (⟨k, n, t⟩ : C.Cl) ≠ C.null
    · rw [if_pos h, if_pos (by rw [← hZ]; exact decide_eq_true h)]
    · rw [if_neg h, if_neg (by rw [← hZ, decide_eq_false h]; simp)])
  have HZ2 := Lib.hid (show ((⟨k, n, t⟩ : C.Cl) ≠ C.null) ↔ z = true by rw [← hZ]; exact (decide_eq_true_iff).symm)
  clear hZ
  by_cases h17 : op < 1 ∨ 7 < op
  · rw [if_pos h17]
    have HSZ := Lib.hid (fun W => show Calls Try.prog 91 #[.int .i64 op] W (ValPost (.int .i64 (-1)) W) by have h := HSZ.out W; unfold csz at h; rwa [if_pos h17] at h)
    clear h17 hne
    generalize str t = X at *
    go_enter Try.func90, Try.ntmps90
    go_wp2_with fail
    refine (HSZ.out _).mono ?_
    rintro e w1 ⟨rfl, rfl⟩
    go_wp2_with fail
    go_ret
    exact ⟨rfl, hb0⟩
  rw [if_neg h17]
  have HSZ := Lib.hid (fun W => show Calls Try.prog 91 #[.int .i64 op] W (ValPost (.int .i64 (O.parts op : Nat)) W) by have h := HSZ.out W; unfold csz at h; rwa [if_neg h17] at h)
  by_cases h5 : 5 ≤ op
  · rw [if_pos h5]
    have hpp : 0 < O.parts op := by
      rcases O.parts_cases op with h | h | h <;> omega
    have hpl := O.parts_le op
    generalize O.parts op = m at *
    have g0 : decide ((m : Int) < 0) = false := by simp
    have g1 : decide ((0 : Int) < (m : Int)) = true := by simp; omega
    have g2 : decide (0 < m) = true := by simp; omega
    generalize str t = X at *
    by_cases q1 : col ≠ 0
    · rw [if_pos (Or.inl q1)]
      have g3 : (col != 0) = true := by rw [bne_iff_ne]; exact q1
      clear h17 h5 hne
      go_enter Try.func90, Try.ntmps90
      go_wp2_with fail
      refine (HSZ.out _).mono ?_
      rintro e w1 ⟨rfl, rfl⟩
      go_wp2_with fail
      go_ret
      exact ⟨rfl, hb0⟩
    · have q1 : col = 0 := by omega
      subst q1
      have HIF := Lib.hid (show (if (0 : Int) ≠ 0 ∨ (⟨k, n, t⟩ : C.Cl) ≠ C.null then 1 else 0) = (if z = true then 1 else 0) by
        rw [← HZ.out]
        by_cases h : (⟨k, n, t⟩ : C.Cl) ≠ C.null
        · rw [if_pos (Or.inr h), if_pos h]
        · rw [if_neg (by rintro (h0 | h0); exact h0 rfl; exact h h0), if_neg h])
      rw [HIF.out]
      clear HIF h17 h5 HZ HZ2
      cases z
      all_goals
        go_enter Try.func90, Try.ntmps90
        go_wp2_with fail
        refine (HSZ.out _).mono ?_
        rintro e w1 ⟨rfl, rfl⟩
        go_wp2_with fail
        go_ret
        exact ⟨rfl, hb0⟩
  rw [if_neg h5]
  have hp0 : O.parts op = 0 := by rcases O.parts_cases op with h | h | h <;> omega
  rw [hp0] at HSZ
  by_cases hbad : col < 0 ∨ (ks.length : Int) ≤ col
  · rw [if_pos hbad]
    clear h17 h5 hne
    generalize str t = X at *
    rcases hbad with hbad | hbad
    · go_enter Try.func90, Try.ntmps90
      go_wp2_with fail
      refine (HSZ.out _).mono ?_
      rintro e w1 ⟨rfl, rfl⟩
      go_wp2_with fail
      go_ret
      exact ⟨rfl, hb0⟩
    · obtain ⟨j, rfl⟩ : ∃ j : Nat, col = j := ⟨col.toNat, by omega⟩
      have g0 : decide ((j : Int) < 0) = false := by simp
      have g1 : decide ((ks.length : Int) ≤ (j : Int)) = true := by simp; omega
      have g2 : decide (ks.length ≤ j) = true := by simp; omega
      go_enter Try.func90, Try.ntmps90
      go_wp2_with fail
      refine (HSZ.out _).mono ?_
      rintro e w1 ⟨rfl, rfl⟩
      go_wp2_with fail
      go_ret
      exact ⟨rfl, hb0⟩
  rw [if_neg hbad]
  obtain ⟨j, rfl⟩ : ∃ j : Nat, col = j := ⟨col.toNat, by omega⟩
  have hj : j < ks.length := by omega
  rw [Int.toNat_natCast]
  obtain ⟨b, off, rfl, hlt, hcells⟩ := hu (by intro e; rw [e] at hj; simp at hj)
  have hk := hcells j hj
  unfold at1 at hk
  rw [Nat.mul_one] at hk
  have hK64 := hk64 (ks.getD j 0) (by simp only [List.getD, List.getElem?_eq_getElem hj, Option.getD_some]; exact List.getElem_mem hj)
  have hE := hE9 (ks.getD j 0)
  generalize ks.getD j 0 = K at *
  have hk1 := hb0.cell (p := ⟨b, off + j, none⟩) hlt
  rw [hk] at hk1
  have HC := Lib.hid (fun W => show Calls Try.prog 54 #[.int .i64 K, .agg #[.int .i64 k, .int .u64 (n : Int), .string (str t)]] W (fun e w' => e = .returned (.int .i64 (C.cellE K ⟨k, n, t⟩ : Nat)) ∧ Below W.heap.size W w') from HCELL.out K hK64 W)
  have hjI : (j : Int) < (ks.length : Int) := by omega
  clear hcells hbad HCELL hE9 hk64
  by_cases hK : K ≠ 1 ∧ K ≠ 2
  · rw [if_pos hK]
    have g1 : (K != 1) = true := by rw [bne_iff_ne]; exact hK.1
    have g2 : (K != 2) = true := by rw [bne_iff_ne]; exact hK.2
    generalize str t = X at *
    clear h17 h5 hne hK
    go_enter Try.func90, Try.ntmps90
    go_wp2_with fail
    refine (HSZ.out _).mono ?_
    rintro e w1 ⟨rfl, rfl⟩
    go_wp2_with fail
    go_ret
    exact ⟨rfl, hb0⟩
  rw [if_neg hK]
  have hK2 : K = 1 ∨ K = 2 := by omega
  by_cases h4 : op = 4
  · rw [if_pos h4]
    subst h4
    rw [HZ.out]
    generalize str t = X at *
    clear h17 h5 HZ HZ2 HC
    cases z <;> rcases hK2 with rfl | rfl
    all_goals
      go_enter Try.func90, Try.ntmps90
      go_wp2_with fail
      refine (HSZ.out _).mono ?_
      rintro e w1 ⟨rfl, rfl⟩
      go_wp2_with fail
      go_ret
      exact ⟨rfl, hb0⟩
  rw [if_neg h4]
  generalize C.cellE K ⟨k, n, t⟩ = er at *
  generalize str t = X at *
  have g4 : (op == 4) = false := by rw [beq_eq_false_iff_ne]; exact h4
  obtain ⟨p0, p1, p2, p3, p4⟩ := wb_pen hp
  have hltA : b < (w.alloc (.cells #[.int .i64 op, .int .i64 j, .int .i64 k, .int .u64 (n : Int), .string X] 59)).heap.size := by simp; omega
  have pk := fun p : WB (w.alloc (.cells #[.int .i64 op, .int .i64 j, .int .i64 k, .int .u64 (n : Int), .string X] 59)) => p.cell hltA hk1
  obtain ⟨R, hR⟩ : ∃ R, R = (if er ≠ 0 then er else if k = 0 then 7 else 0) := ⟨_, rfl⟩
  rw [← hR]
  have HR := Lib.hid hR
  clear h17 h5 hne hR hK HZ HZ2 hcol hltA
  rcases hK2 with rfl | rfl
  all_goals
    by_cases he : er = 0
    · subst he
      by_cases hk0 : k = 0
      · have HR := Lib.hid (show R = 7 by rw [HR.out, if_neg (by simp), if_pos hk0])
        subst hk0
        go_enter Try.func90, Try.ntmps90
        go_wp2_with fail
        refine (HSZ.out _).mono ?_
        rintro e w1 ⟨rfl, rfl⟩
        go_wp2_with fail
        generalize w.alloc (.cells #[.int .i64 op, .int .i64 j, .int .i64 0, .int .u64 (n : Int), .string X] 59) = W0 at *
        refine wp_region_wb (by kernel_rfl) (by kernel_rfl) ?_
        repeat (quiet_step ((go_at_call 54; refine calls_wb (v := .int .i64 ((0 : Nat) : Int)) ?_; with_reducible exact HC.out _)))
        refine wpQuiet_nil ?_
        rintro _ ⟨p, rfl⟩
        have hpb := p.below
        have c2 := p2 p
        clear p0 p1 p2 p3 p4 pk
        go_wp2_with fail
        go_ret
        exact ⟨by rw [HR.out]; rfl, below_then hb0 hpb⟩
      · have HR := Lib.hid (show R = 0 by rw [HR.out, if_neg (by simp), if_neg hk0])
        have g5 : (k == 0) = false := by rw [beq_eq_false_iff_ne]; exact hk0
        go_enter Try.func90, Try.ntmps90
        go_wp2_with fail
        refine (HSZ.out _).mono ?_
        rintro e w1 ⟨rfl, rfl⟩
        go_wp2_with fail
        generalize w.alloc (.cells #[.int .i64 op, .int .i64 j, .int .i64 k, .int .u64 (n : Int), .string X] 59) = W0 at *
        refine wp_region_wb (by kernel_rfl) (by kernel_rfl) ?_
        repeat (quiet_step ((go_at_call 54; refine calls_wb (v := .int .i64 ((0 : Nat) : Int)) ?_; with_reducible exact HC.out _)))
        refine wpQuiet_nil ?_
        rintro _ ⟨p, rfl⟩
        have hpb := p.below
        have c2 := p2 p
        clear p0 p1 p2 p3 p4 pk
        go_wp2_with fail
        go_ret
        exact ⟨by rw [HR.out]; rfl, below_then hb0 hpb⟩
    · have HR := Lib.hid (show R = er by rw [HR.out, if_pos he])
      have g5 : ((er : Int) == 0) = false := by rw [beq_eq_false_iff_ne]; omega
      have g6 : (er == 0) = false := by rw [beq_eq_false_iff_ne]; omega
      go_enter Try.func90, Try.ntmps90
      go_wp2_with fail
      refine (HSZ.out _).mono ?_
      rintro e w1 ⟨rfl, rfl⟩
      go_wp2_with fail
      generalize w.alloc (.cells #[.int .i64 op, .int .i64 j, .int .i64 k, .int .u64 (n : Int), .string X] 59) = W0 at *
      refine wp_region_wb (by kernel_rfl) (by kernel_rfl) ?_
      repeat (quiet_step ((go_at_call 54; refine calls_wb (v := .int .i64 (er : Int)) ?_; with_reducible exact HC.out _)))
      refine wpQuiet_nil ?_
      rintro _ ⟨p, rfl⟩
      have hpb := p.below
      clear p0 p1 p2 p3 p4 pk
      go_wp2_with fail
      go_ret
      exact ⟨by rw [HR.out]; rfl, below_then hb0 hpb⟩
end Go.Proofs.Ytnjnalehfhfefaa
/- The walks of hypostyleref.CondCheck, condBegin. -/
namespace Go.Proofs.Ytnjnalehfhfefaa
open Go.RowKit
set_option linter.unusedVariables false

set_option maxHeartbeats 4000000 in
set_option maxRecDepth 100000 in
theorem ccheck_any (ap : Option Addr) (cp : Nat) (p : List O.Cd) (a : Option Addr) (cap : Nat) (ks : List Int) (w : World) (hpm : p.length ≤ maxLen) (hpx : ∀ x ∈ p, dOk x) (hpu : Cds w w.heap.size ap p) (hk64 : ∀ k ∈ ks, -9223372036854775808 ≤ k ∧ k ≤ 9223372036854775807) (hm : ks.length ≤ maxLen) (hu : Ints w w.heap.size a ks) :
    Calls Try.prog 72 #[.slice ap p.length cp, .slice a ks.length cap] w (CErrPost (O.check p ks) w) := by
  have hpm' := hpm
  unfold maxLen at hpm'
  by_cases h16 : 16 < p.length
  · have hR : O.check p ks = 2 := by unfold O.check; rw [if_pos h16]
    have g3 : decide ((16 : Int) < (p.length : Int)) = true := decide_eq_true (by omega)
    rw [hR]
    clear hpx hpu hu hR
    go_enter Try.func72, Try.ntmps72
    go_wp2_with fail
    go_ret
    exact ⟨rfl, Below.refl _ _⟩
  have hR : O.check p ks = O.chk ks 0 (p.drop 0) := by unfold O.check; rw [if_neg h16]; rfl
  obtain ⟨R, hRR⟩ : ∃ R, R = O.check p ks := ⟨_, rfl⟩
  rw [← hRR] at hR ⊢
  have HR0 := Lib.hid hR
  have g3 : decide ((16 : Int) < (p.length : Int)) = false := decide_eq_false (by omega)
  have HSTEP := Lib.hid (fun (j : Nat) (free : Nat) (h : j < p.length) => show O.chk ks free (p.drop j) = if O.alone ks (p.getD j O.nullC) ≠ 0 then O.alone ks (p.getD j O.nullC) else if free < O.parts (p.getD j O.nullC).op then 1 else O.chk ks (free + 1 - O.parts (p.getD j O.nullC).op) (p.drop (j + 1)) by
    rw [List.drop_eq_getElem_cons h, O.chk]
    simp only [List.getD, List.getElem?_eq_getElem h, Option.getD_some]
    unfold O.nodeE
    by_cases q1 : O.alone ks p[j] ≠ 0
    · rw [if_pos q1, if_pos q1, if_pos q1]
    · rw [if_neg q1, if_neg q1]
      by_cases q2 : free < O.parts p[j].op
      · rw [if_pos q2, if_pos (by omega), if_pos q2]
      · rw [if_neg q2, if_neg (by omega), if_neg q2])
  have HX := Lib.hid (fun (j : Nat) (h : j < p.length) => show dOk (p.getD j O.nullC) by
    simp only [List.getD, List.getElem?_eq_getElem h, Option.getD_some]; exact hpx _ (List.getElem_mem h))
  have HN := Lib.hid (fun (c : O.Cd) (hc : dOk c) W (hb : Below w.heap.size w W) => calone_any c a cap ks W hc hk64 hm (hu.next at1_firm hb))
  have hpu' : ∀ W, Below w.heap.size w W → ∀ j, j < p.length → ∃ b off, ap = some ⟨b, off, none⟩ ∧ at5 W b (off + j * 5) (p.getD j O.nullC) := by
    intro W hb j hj
    obtain ⟨b, off, e, _, hc⟩ := hpu.next at5_firm hb (by intro e; rw [e] at hj; simp at hj)
    exact ⟨b, off, e, hc j hj⟩
  have HPU := Lib.hid hpu'
  have HAN := Lib.hid (fun c => O.alone_node (ks := ks) (c := c))
  clear hpu' hpu hu hpx hm hR hRR hk64
  go_enter Try.func72, Try.ntmps72
  go_wp2_with fail
  go_loopw [5, 6] (fun u i wr => ∃ j f : Nat, j ≤ p.length ∧ f ≤ 2 * j ∧ u = .int .i64 f ∧ i = .int .i64 j ∧ Below w.heap.size w wr ∧ Hid (R = O.chk ks f (p.drop j))) (fun _ i _ => p.length - (intOf i).toNat)
  case atStart => exact ⟨0, 0, by omega, by omega, rfl, rfl, Below.refl _ _, HR0⟩
  case round =>
    obtain ⟨j, f, hj, hf, rfl, rfl, hb, HJ⟩ := hrel
    by_cases hlt : j < p.length
    · have hjI : (j : Int) < (p.length : Int) := by omega
      obtain ⟨b, off, rfl, c0, c1, c2, c3, c4⟩ := HPU.out wr hb j hlt
      have hst := HSTEP.out j f hlt
      have hx := HX.out j hlt
      have hE := O.alone_lt ks (p.getD j O.nullC)
      have hAN := HAN.out (p.getD j O.nullC)
      have HPJ := Lib.hid (fun W (h : Below w.heap.size w W) => HPU.out W h j hlt)
      generalize p.getD j O.nullC = x at *
      have HND := Lib.hid (HN.out x hx wr hb)
      have HPA := Lib.hid (fun W => csize_any x.op W)
      have hpl := O.parts_le x.op
      have hcz : (1 ≤ x.op ∧ x.op ≤ 7) → csz x.op = (O.parts x.op : Nat) := fun h => by unfold csz; rw [if_neg (by omega)]
      have HJ2 := Lib.hid (HJ.out.trans hst)
      unfold dag at HND
      obtain ⟨er, her⟩ : ∃ er, er = O.alone ks x := ⟨_, rfl⟩
      rw [← her] at hE HND HJ2 hAN
      have HC0 := Lib.hid (fun W (h : Below w.heap.size w W) => show W.cell? ⟨b, off + j * 5, none⟩ = some (.int .i64 x.op) by
        obtain ⟨b', off', e, h0, _⟩ := HPJ.out W h
        have e' := Option.some.inj e
        obtain ⟨rfl, rfl⟩ : b = b' ∧ off = off' := by simpa using e'
        exact h0)
      clear her hst HJ hx HPJ
      generalize O.parts x.op = m at *
      generalize csz x.op = cz at *
      generalize str x.c.txt = X at *
      generalize x.c.num = xn at *
      generalize x.c.kind = xk at *
      generalize x.op = xo at *
      generalize x.col = xc at *
      by_cases he : er = 0
      · have hcz2 := hcz (hAN he)
        subst hcz2
        subst he
        clear hAN hcz
        by_cases hfm : f < m
        · have HRE := Lib.hid (show R = 1 by rw [HJ2.out, if_neg (by simp), if_pos hfm])
          have g4 : decide ((f : Int) < (m : Int)) = true := decide_eq_true (by omega)
          have g5 : decide (f < m) = true := decide_eq_true hfm
          go_wp2_with fail
          refine HND.out.mono ?_
          rintro e w1 ⟨rfl, hb2⟩
          have d0 := HC0.out _ (below_then hb hb2)
          go_wp2_with fail
          refine (HPA.out _).mono ?_
          rintro e w2 ⟨rfl, rfl⟩
          go_wp2_with fail
          go_ret
          exact ⟨by rw [HRE.out]; rfl, below_then hb hb2⟩
        · have HN1 := Lib.hid (show R = O.chk ks (f + 1 - m) (p.drop (j + 1)) by rw [HJ2.out, if_neg (by simp), if_neg hfm])
          have g4 : decide ((f : Int) < (m : Int)) = false := decide_eq_false (by omega)
          have g5 : decide (f < m) = false := decide_eq_false hfm
          have hw1 : IntKind.i64.wrap ((f : Int) - (m : Int)) = (f : Int) - (m : Int) := by rw [IntKind.wrap_i64]; omega
          have hw2 : IntKind.i64.wrap ((f : Int) - (m : Int) + 1) = ((f + 1 - m : Nat) : Int) := by rw [IntKind.wrap_i64]; omega
          go_wp2_with fail
          refine HND.out.mono ?_
          rintro e w1 ⟨rfl, hb2⟩
          have d0 := HC0.out _ (below_then hb hb2)
          go_wp2_with fail
          refine (HPA.out _).mono ?_
          rintro e w2 ⟨rfl, rfl⟩
          go_wp2_with fail
          refine (HPA.out _).mono ?_
          rintro e w2 ⟨rfl, rfl⟩
          go_wp2_with fail
          exact ⟨⟨j + 1, f + 1 - m, by omega, by omega, by first | rfl | (rw [hw1, hw2]) | (rw [hw2]), by go_num, below_then hb hb2, HN1⟩, by simp [intOf]; omega⟩
      · have HRE := Lib.hid (show R = er by rw [HJ2.out, if_pos he])
        have g1 : ((er : Int) != 0) = true := by rw [bne_iff_ne]; omega
        clear hAN hcz
        go_wp2_with fail
        refine HND.out.mono ?_
        rintro e w1 ⟨rfl, hb2⟩
        go_wp2_with fail
        go_ret
        exact ⟨by rw [HRE.out]; rfl, below_then hb hb2⟩
    · obtain rfl : j = p.length := by omega
      have HRE := Lib.hid (show R = if f ≠ 1 then 1 else 0 by rw [HJ.out, List.drop_length]; rfl)
      by_cases hf1 : f = 1
      · subst hf1
        have HRE := Lib.hid (show R = 0 by rw [HRE.out, if_neg (by simp)])
        go_wp2_with fail
        go_ret
        exact ⟨by rw [HRE.out]; rfl, hb⟩
      · have HRE := Lib.hid (show R = 1 by rw [HRE.out, if_pos hf1])
        have g1 : ((f : Int) != 1) = true := by rw [bne_iff_ne]; omega
        go_wp2_with fail
        go_ret
        exact ⟨by rw [HRE.out]; rfl, hb⟩

set_option maxHeartbeats 4000000 in
set_option maxRecDepth 100000 in
theorem begin_core (b off n cp e m : Nat) (c : O.Cd) (pos : Nat → Nat) (w : World) (hlt : b < w.heap.size) (he : 1 ≤ e) (hen : e ≤ n) (hn : n ≤ maxLen) (hc : at5 w b (off + (e - 1) * 5) c) (hop : 1 ≤ c.op ∧ c.op ≤ 7) (hpm : O.parts c.op = m) (hp0 : pos 0 = e - 1)
    (HR : ∀ W, Below w.heap.size w W → ∀ k, k < m → Calls Try.prog 92 #[.slice (some ⟨b, off, none⟩) n cp, .int .i64 (pos k : Nat)] W (fun e w' => e = .returned (.int .i64 (pos (k + 1) : Nat)) ∧ Below W.heap.size W w')) :
    Calls Try.prog 92 #[.slice (some ⟨b, off, none⟩) n cp, .int .i64 (e : Nat)] w (CErrPost (pos m) w) := by
  have HS := Lib.hid (fun W => show Calls Try.prog 91 #[.int .i64 c.op] W (ValPost (.int .i64 (m : Nat)) W) by
    have h := csize_any c.op W; unfold csz at h; rwa [if_neg (by omega), hpm] at h)
  obtain ⟨l, hl⟩ : ∃ l, l = e - 1 := ⟨_, rfl⟩
  have HC := Lib.hid (fun W (h : Below w.heap.size w W) => show W.cell? ⟨b, off + l * 5, none⟩ = some (.int .i64 c.op) by
    rw [hl]; exact (h.cell (p := ⟨b, off + (e - 1) * 5, none⟩) hlt).trans hc.1)
  have HR := Lib.hid HR
  have HP0 := Lib.hid (show pos 0 = l by rw [hl]; exact hp0)
  unfold maxLen at hn
  have hw1 : IntKind.i64.wrap ((e : Int) - 1) = (l : Int) := by rw [IntKind.wrap_i64]; omega
  have hlI : (l : Int) < (n : Int) := by omega
  have hm2 : m ≤ 2 := by rw [← hpm]; exact O.parts_le _
  generalize c.op = op at *
  clear hc hl hpm hp0 hop
  go_enter Try.func92, Try.ntmps92
  go_wp2_with fail
  go_loopw [5, 6] (fun u i wr => ∃ k : Nat, k ≤ m ∧ u = .int .i64 (pos k : Nat) ∧ i = .int .i64 k ∧ Below w.heap.size w wr) (fun _ i _ => m - (intOf i).toNat)
  case atStart => exact ⟨0, by omega, by rw [HP0.out], rfl, Below.refl _ _⟩
  case round =>
    obtain ⟨k, hk, rfl, rfl, hb⟩ := hrel
    have c0 := HC.out wr hb
    by_cases hlt2 : k < m
    · have HRR := Lib.hid (HR.out wr hb k hlt2)
      have g4 : decide ((k : Int) < (m : Int)) = true := decide_eq_true (by omega)
      have g5 : decide (k < m) = true := decide_eq_true hlt2
      generalize pos k = q1 at *
      generalize hq2 : pos (k + 1) = q2 at *
      have HQ := Lib.hid hq2
      clear hq2
      go_wp2_with fail
      refine (HS.out _).mono ?_
      rintro e w1 ⟨rfl, rfl⟩
      go_wp2_with fail
      refine HRR.out.mono ?_
      rintro e w1 ⟨rfl, hb2⟩
      go_wp2_with fail
      exact ⟨⟨k + 1, by omega, by rw [HQ.out], by go_num, below_then hb hb2⟩, by simp [intOf]; omega⟩
    · obtain rfl : k = m := by omega
      have g4 : decide ((k : Int) < (k : Int)) = false := decide_eq_false (by omega)
      go_wp2_with fail
      refine (HS.out _).mono ?_
      rintro e w1 ⟨rfl, rfl⟩
      go_wp2_with fail
      go_ret
      exact ⟨rfl, hb⟩

theorem begin_any (ks : List Int) (b off n cp : Nat) : ∀ (t : O.T), O.ok ks t → ∀ (pre rest : List O.Cd) (w : World), pre.length + (O.flat t).length + rest.length = n → n ≤ maxLen → b < w.heap.size →
    (∀ i, i < n → at5 w b (off + i * 5) ((pre ++ O.flat t ++ rest).getD i O.nullC)) →
    Calls Try.prog 92 #[.slice (some ⟨b, off, none⟩) n cp, .int .i64 ((pre.length + (O.flat t).length : Nat) : Int)] w (CErrPost pre.length w)
  | .leaf c, h, pre, rest, w, hl, hn, hlt, hc => by
    refine begin_core b off n cp _ 0 c (fun _ => pre.length) w hlt (by simp [O.flat]) (by omega) hn ?_ (O.alone_node h.2) h.1 (by simp [O.flat]) (fun W hb k hk => by omega)
    have := hc pre.length (by simp [O.flat] at hl; omega)
    simp [O.flat] at this ⊢
    exact this
  | .one c t, h, pre, rest, w, hl, hn, hlt, hc => by
    have hfl : (O.flat (.one c t)).length = (O.flat t).length + 1 := by simp [O.flat]
    have hcc : ∀ i, i < n → at5 w b (off + i * 5) ((pre ++ O.flat t ++ (c :: rest)).getD i O.nullC) := fun i hi => by
      have := hc i hi
      rwa [show pre ++ O.flat (.one c t) ++ rest = pre ++ O.flat t ++ (c :: rest) by simp [O.flat]] at this
    have h1 := fun W (hb : Below w.heap.size w W) => begin_any ks b off n cp t h.2.2 pre (c :: rest) W (by simp; omega) hn (by have := hb.size; omega) (fun i hi => at5_firm w W b _ _ (fun j => hb.cell (p := ⟨b, j, none⟩) hlt) (hcc i hi))
    refine begin_core b off n cp _ 1 c (fun k => if k = 0 then pre.length + (O.flat t).length else pre.length) w hlt (by omega) (by omega) hn ?_ (O.alone_node h.2.1) h.1 (by show pre.length + (O.flat t).length = pre.length + (O.flat (.one c t)).length - 1; omega) (fun W hb k hk => by
      obtain rfl : k = 0 := by omega
      exact h1 W hb)
    have := hcc (pre.length + (O.flat t).length) (by omega)
    rw [show (pre ++ O.flat t ++ (c :: rest)).getD (pre.length + (O.flat t).length) O.nullC = c by simp [List.getD]] at this
    rw [show pre.length + (O.flat (.one c t)).length - 1 = pre.length + (O.flat t).length by omega]
    exact this
  | .two c t u, h, pre, rest, w, hl, hn, hlt, hc => by
    have hfl : (O.flat (.two c t u)).length = (O.flat t).length + (O.flat u).length + 1 := by simp [O.flat]; omega
    have hcc : ∀ i, i < n → at5 w b (off + i * 5) ((pre ++ O.flat t ++ O.flat u ++ (c :: rest)).getD i O.nullC) := fun i hi => by
      have := hc i hi
      rwa [show pre ++ O.flat (.two c t u) ++ rest = pre ++ O.flat t ++ O.flat u ++ (c :: rest) by simp [O.flat]] at this
    have h1 := fun W (hb : Below w.heap.size w W) => begin_any ks b off n cp u h.2.2.2 (pre ++ O.flat t) (c :: rest) W (by simp; omega) hn (by have := hb.size; omega) (fun i hi => at5_firm w W b _ _ (fun j => hb.cell (p := ⟨b, j, none⟩) hlt) (hcc i hi))
    have h2 := fun W (hb : Below w.heap.size w W) => begin_any ks b off n cp t h.2.2.1 pre (O.flat u ++ (c :: rest)) W (by simp; omega) hn (by have := hb.size; omega) (fun i hi => at5_firm w W b _ _ (fun j => hb.cell (p := ⟨b, j, none⟩) hlt) (by
      have := hcc i hi
      rwa [show pre ++ O.flat t ++ O.flat u ++ (c :: rest) = pre ++ O.flat t ++ (O.flat u ++ (c :: rest)) by simp] at this))
    refine begin_core b off n cp _ 2 c (fun k => if k = 0 then pre.length + (O.flat t).length + (O.flat u).length else if k = 1 then pre.length + (O.flat t).length else pre.length) w hlt (by omega) (by omega) hn ?_ (O.alone_node h.2.1) h.1 (by show pre.length + (O.flat t).length + (O.flat u).length = pre.length + (O.flat (.two c t u)).length - 1; omega) (fun W hb k hk => by
      have hk2 : k = 0 ∨ k = 1 := by omega
      rcases hk2 with rfl | rfl
      · have := h1 W hb
        rw [List.length_append] at this
        exact this
      · exact h2 W hb)
    have := hcc (pre.length + (O.flat t).length + (O.flat u).length) (by omega)
    rw [show (pre ++ O.flat t ++ O.flat u ++ (c :: rest)).getD (pre.length + (O.flat t).length + (O.flat u).length) O.nullC = c by
      simp only [List.getD]
      rw [List.getElem?_append_right (by simp; omega)]
      simp [Nat.add_assoc]] at this
    rw [show pre.length + (O.flat (.two c t u)).length - 1 = pre.length + (O.flat t).length + (O.flat u).length by omega]
    exact this
end Go.Proofs.Ytnjnalehfhfefaa
/- The walk of hypostyleref.CellLess. -/
namespace Go.Proofs.Ytnjnalehfhfefaa
open Go.RowKit
set_option linter.unusedVariables false

set_option maxHeartbeats 2000000 in
set_option maxRecDepth 100000 in
theorem cellLess_any (a b : C.Cl) (w : World) (ha : a.txt.length ≤ maxLen) (hb : b.txt.length ≤ maxLen) : Calls Try.prog 93 #[cag a, cag b] w (BoolPost (C.less a b) w) := by
  have hbel : Below w.heap.size w ((w.alloc (.cells #[.int .i64 a.kind, .int .u64 (a.num : Int), .string (str a.txt)] 30)).alloc (.cells #[.int .i64 b.kind, .int .u64 (b.num : Int), .string (str b.txt)] 30)) := ((Below.refl _ _).alloc (Nat.le_refl _) _).alloc (by simp) _
  have HB := Lib.hid hbel
  have HTL := Lib.hid (fun W => tless_any a.txt b.txt W ha hb)
  clear hbel ha hb
  obtain ⟨ak, an, ax⟩ := a
  obtain ⟨bk, bn, bx⟩ := b
  unfold cag
  simp only at HB HTL ⊢
  by_cases h1 : ak = 0 ∧ bk ≠ 0
  · have HR := Lib.hid (show C.less ⟨ak, an, ax⟩ ⟨bk, bn, bx⟩ = true from if_pos h1)
    generalize C.less ⟨ak, an, ax⟩ ⟨bk, bn, bx⟩ = r at *
    obtain ⟨rfl, h1⟩ := h1
    have g1 : (bk != 0) = true := by rw [bne_iff_ne]; exact h1
    generalize str ax = X at *
    generalize str bx = Y at *
    clear h1
    go_enter Try.func93, Try.ntmps93
    go_wp2_with fail
    go_ret
    exact ⟨by rw [HR.out]; rfl, HB.out⟩
  by_cases h2 : bk = 0 ∧ ak ≠ 0
  · have HR := Lib.hid (show C.less ⟨ak, an, ax⟩ ⟨bk, bn, bx⟩ = false by unfold C.less; rw [if_neg h1, if_pos h2])
    generalize C.less ⟨ak, an, ax⟩ ⟨bk, bn, bx⟩ = r at *
    obtain ⟨rfl, h2⟩ := h2
    have g1 : (ak != 0) = true := by rw [bne_iff_ne]; exact h2
    have g2 : (ak == 0) = false := by rw [beq_eq_false_iff_ne]; exact h2
    generalize str ax = X at *
    generalize str bx = Y at *
    clear h1 h2
    go_enter Try.func93, Try.ntmps93
    go_wp2_with fail
    go_ret
    exact ⟨by rw [HR.out]; rfl, HB.out⟩
  by_cases h3 : ak = bk
  · subst h3
    have hz : (ak == 0) = false ∧ (ak != 0) = true ∨ ak = 0 := by
      by_cases h0 : ak = 0
      · exact Or.inr h0
      · exact Or.inl ⟨by rw [beq_eq_false_iff_ne]; exact h0, by rw [bne_iff_ne]; exact h0⟩
    by_cases h4 : an = bn
    · subst h4
      have HR := Lib.hid (show C.less ⟨ak, an, ax⟩ ⟨ak, an, bx⟩ = decide (ax < bx) by unfold C.less; rw [if_neg h1, if_neg h2, if_neg (by simp), if_neg (by simp)])
      generalize C.less ⟨ak, an, ax⟩ ⟨ak, an, bx⟩ = r at *
      rw [← HR.out] at HTL
      generalize str ax = X at *
      generalize str bx = Y at *
      clear h1 h2
      rcases hz with ⟨g1, g2⟩ | rfl
      all_goals
        go_enter Try.func93, Try.ntmps93
        go_wp2_with fail
        refine (HTL.out _).mono ?_
        rintro e w4 ⟨rfl, hd⟩
        have hbd : Below w.heap.size w w4 := by
          obtain ⟨d, rfl⟩ := hd
          exact below_drewN HB.out _
        clear hd
        go_wp2_with fail
        go_ret
        exact ⟨rfl, hbd⟩
    · have HR := Lib.hid (show C.less ⟨ak, an, ax⟩ ⟨ak, bn, bx⟩ = decide (an < bn) by unfold C.less; rw [if_neg h1, if_neg h2, if_neg (by simp), if_pos h4])
      have g4 : ((an : Int) != (bn : Int)) = true := by rw [bne_iff_ne]; omega
      generalize C.less ⟨ak, an, ax⟩ ⟨ak, bn, bx⟩ = r at *
      generalize str ax = X at *
      generalize str bx = Y at *
      clear h1 h2 h4
      rcases hz with ⟨g1, g2⟩ | rfl
      all_goals
        go_enter Try.func93, Try.ntmps93
        go_wp2_with fail
        go_ret
        exact ⟨by rw [HR.out]; rfl, HB.out⟩
  · have HR := Lib.hid (show C.less ⟨ak, an, ax⟩ ⟨bk, bn, bx⟩ = decide (ak < bk) by unfold C.less; rw [if_neg h1, if_neg h2, if_pos h3])
    have g4 : (ak != bk) = true := by rw [bne_iff_ne]; exact h3
    generalize C.less ⟨ak, an, ax⟩ ⟨bk, bn, bx⟩ = r at *
    have ha0 : ak ≠ 0 := fun e => by
      by_cases hb0 : bk = 0
      · exact h3 (by rw [e, hb0])
      · exact h1 ⟨e, hb0⟩
    have hb0 : bk ≠ 0 := fun e => h2 ⟨e, ha0⟩
    have g1 : (ak == 0) = false := by rw [beq_eq_false_iff_ne]; exact ha0
    have g2 : (bk == 0) = false := by rw [beq_eq_false_iff_ne]; exact hb0
    generalize str ax = X at *
    generalize str bx = Y at *
    clear h1 h2 h3 ha0 hb0
    go_enter Try.func93, Try.ntmps93
    go_wp2_with fail
    go_ret
    exact ⟨by rw [HR.out]; rfl, HB.out⟩
end Go.Proofs.Ytnjnalehfhfefaa
