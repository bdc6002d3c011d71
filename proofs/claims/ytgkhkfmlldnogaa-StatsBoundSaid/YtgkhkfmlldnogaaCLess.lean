/- The walk of hypostyleref.CellLess. -/
import Derived.Test.YtgkhkfmlldnogaaCBase
import Derived.Test.YtgkhkfmlldnogaaTLess
namespace Go.Proofs.Ytgkhkfmlldnogaa
open Go.RowKit
set_option linter.unusedVariables false

set_option maxHeartbeats 2000000 in
set_option maxRecDepth 100000 in
theorem cellLess_any (a b : C.Cl) (w : World) (ha : a.txt.length ≤ maxLen) (hb : b.txt.length ≤ maxLen) : Calls Try.prog 22 #[cag a, cag b] w (BoolPost (C.less a b) w) := by
  have hbel : Below w.heap.size w ((w.alloc (.cells #[.int .i64 a.kind, .int .u64 (a.num : Int), .string (str a.txt)] 25)).alloc (.cells #[.int .i64 b.kind, .int .u64 (b.num : Int), .string (str b.txt)] 25)) := ((Below.refl _ _).alloc (Nat.le_refl _) _).alloc (by simp) _
  have HB := Lib.hid hbel
  have HTL := Lib.hid (fun W => tless_any a.txt b.txt W ha hb)
  clear hbel ha hb
  obtain ⟨ak, an, ax⟩ := a
  obtain ⟨bk, bn, bx⟩ := b
  unfold cag
  simp only at HB HTL ⊢
  by_cases h1 : ak = 0 ∧ bk ≠ 0
  · have HR := Lib.hid (show C.less ⟨ak, an, ax⟩ ⟨bk, bn, bx⟩ = true from if_pos h1)
    generalize C.less ⟨ak, an, ax⟩ ⟨bk, bn, bx⟩ = r at *
    obtain ⟨rfl, h1⟩ := h1
    have g1 : (bk != 0) = true := by rw [bne_iff_ne]; exact h1
    generalize str ax = X at *
    generalize str bx = Y at *
    clear h1
    go_enter Try.func22, Try.ntmps22
    go_wp2_with fail
    go_ret
    exact ⟨by rw [HR.out]; rfl, HB.out⟩
  by_cases h2 : bk = 0 ∧ ak ≠ 0
  · have HR := Lib.hid (show C.less ⟨ak, an, ax⟩ ⟨bk, bn, bx⟩ = false by unfold C.less; rw [if_neg h1, if_pos h2])
    generalize C.less ⟨ak, an, ax⟩ ⟨bk, bn, bx⟩ = r at *
    obtain ⟨rfl, h2⟩ := h2
    have g1 : (ak != 0) = true := by rw [bne_iff_ne]; exact h2
    have g2 : (ak == 0) = false := by rw [beq_eq_false_iff_ne]; exact h2
    generalize str ax = X at *
    generalize str bx = Y at *
    clear h1 h2
    go_enter Try.func22, Try.ntmps22
    go_wp2_with fail
    go_ret
    exact ⟨by rw [HR.out]; rfl, HB.out⟩
  by_cases h3 : ak = bk
  · subst h3
    have hz : (ak == 0) = false ∧ (ak != 0) = true ∨ ak = 0 := by
      by_cases h0 : ak = 0
      · exact Or.inr h0
      · exact Or.inl ⟨by rw [beq_eq_false_iff_ne]; exact h0, by rw [bne_iff_ne]; exact h0⟩
    by_cases h4 : an = bn
    · subst h4
      have HR := Lib.hid (show C.less ⟨ak, an, ax⟩ ⟨ak, an, bx⟩ = decide (ax < bx) by unfold C.less; rw [if_neg h1, if_neg h2, if_neg (by simp), if_neg (by simp)])
      generalize C.less ⟨ak, an, ax⟩ ⟨ak, an, bx⟩ = r at *
      rw [← HR.out] at HTL
      generalize str ax = X at *
      generalize str bx = Y at *
      clear h1 h2
      rcases hz with ⟨g1, g2⟩ | rfl
      all_goals
        go_enter Try.func22, Try.ntmps22
        go_wp2_with fail
        refine (HTL.out _).mono ?_
        rintro e w4 ⟨rfl, hd⟩
        have hbd : Below w.heap.size w w4 := by
          obtain ⟨d, rfl⟩ := hd
          exact below_drewN HB.out _
        clear hd
        go_wp2_with fail
        go_ret
        exact ⟨rfl, hbd⟩
    · have HR := Lib.hid (show C.less ⟨ak, an, ax⟩ ⟨ak, bn, bx⟩ = decide (an < bn) by unfold C.less; rw [if_neg h1, if_neg h2, if_neg (by simp), if_pos h4])
      have g4 : ((an : Int) != (bn : Int)) = true := by rw [bne_iff_ne]; omega
      generalize C.less ⟨ak, an, ax⟩ ⟨ak, bn, bx⟩ = r at *
      generalize str ax = X at *
      generalize str bx = Y at *
      clear h1 h2 h4
      rcases hz with ⟨g1, g2⟩ | rfl
      all_goals
        go_enter Try.func22, Try.ntmps22
        go_wp2_with fail
        go_ret
        exact ⟨by rw [HR.out]; rfl, HB.out⟩
  · have HR := Lib.hid (show C.less ⟨ak, an, ax⟩ ⟨bk, bn, bx⟩ = decide (ak < bk) by unfold C.less; rw [if_neg h1, if_neg h2, if_pos h3])
    have g4 : (ak != bk) = true := by rw [bne_iff_ne]; exact h3
    generalize C.less ⟨ak, an, ax⟩ ⟨bk, bn, bx⟩ = r at *
    have ha0 : ak ≠ 0 := fun e => by
      by_cases hb0 : bk = 0
      · exact h3 (by rw [e, hb0])
      · exact h1 ⟨e, hb0⟩
    have hb0 : bk ≠ 0 := fun e => h2 ⟨e, ha0⟩
    have g1 : (ak == 0) = false := by rw [beq_eq_false_iff_ne]; exact ha0
    have g2 : (bk == 0) = false := by rw [beq_eq_false_iff_ne]; exact hb0
    generalize str ax = X at *
    generalize str bx = Y at *
    clear h1 h2 h3 ha0 hb0
    go_enter Try.func22, Try.ntmps22
    go_wp2_with fail
    go_ret
    exact ⟨by rw [HR.out]; rfl, HB.out⟩
end Go.Proofs.Ytgkhkfmlldnogaa
