/- The laws SharedUltra, SharedRises. -/
import Derived.Test.YtplhlnlonjlcaaaFB
namespace Go.Proofs.Ytplhlnlonjlcaaa
open Go.RowKit
set_option linter.unusedVariables false

theorem str_ex (s : ByteArray) : ∃ x : List UInt8, s = str x ∧ s.size = x.length := ⟨s.data.toList, by simp [str], (len_data s).symm⟩

set_option maxHeartbeats 1000000 in
set_option maxRecDepth 100000 in
theorem sharedUltra_walk (w : World) (s0 : ByteArray) (hs0 : s0.size ≤ maxLen) (s1 : ByteArray) (hs1 : s1.size ≤ maxLen) (s2 : ByteArray) (hs2 : s2.size ≤ maxLen) :
    Calls Try.prog 7 #[.string s0, .string s1, .string s2] w (BoolPost true w) := by
  obtain ⟨a, ha, la⟩ := str_ex s0
  obtain ⟨b, hb, lb⟩ := str_ex s1
  obtain ⟨c, hc, lc⟩ := str_ex s2
  have hxy := fun W => shared_any a b W (by omega) (by omega)
  have hyz := fun W => shared_any b c W (by omega) (by omega)
  have hxz := fun W => shared_any a c W (by omega) (by omega)
  have hyx := fun W => shared_any b a W (by omega) (by omega)
  have hxx := fun W => shared_any a a W (by omega) (by omega)
  have hu := F.sh_ultra a b c
  have h1 := F.sh_le_left a b
  have h2 := F.sh_le_right a b
  have he := fun h => F.sh_eq (a := a) (b := b) h
  have hte := tl_eq a b
  rw [F.sh_comm b a] at hyx
  rw [F.sh_self, ← la] at hxx
  rw [← ha, ← hb] at hte
  rw [← ha] at hxx
  rw [← ha, ← hb] at hxy hyx
  rw [← hb, ← hc] at hyz
  rw [← ha, ← hc] at hxz
  generalize F.sh a b = x at *
  generalize F.sh b c = y at *
  generalize F.sh a c = z at *
  have HXY := Lib.hid hxy
  have HYZ := Lib.hid hyz
  have HXZ := Lib.hid hxz
  have HYX := Lib.hid hyx
  have HXX := Lib.hid hxx
  have g1 : decide (min (x : Int) (y : Int) ≤ (z : Int)) = true := decide_eq_true (by omega)
  have g2 : decide ((x : Int) ≤ (s0.size : Int)) = true := decide_eq_true (by omega)
  have g3 : decide ((x : Int) ≤ (s1.size : Int)) = true := decide_eq_true (by omega)
  have n2 : x ≤ s0.size := by omega
  have n3 : x ≤ s1.size := by omega
  by_cases hl : s0.size = s1.size
  · have g4 : ((s0.size : Int) != (s1.size : Int)) = false := by rw [bne_eq_false_iff_eq]; omega
    have hq : ((x : Int) == (s0.size : Int)) = (s0.toList == s1.toList) := by
      rw [hte, Bool.eq_iff_iff, beq_iff_eq, decide_eq_true_iff, ← he (by omega)]; omega
    clear hxy hyz hxz hyx hxx ha hb hc la lb lc hu h1 h2 he hte hl
    go_enter Try.func7, Try.ntmps7
    go_wp2_with fail
    refine (HXY.out _).mono ?_
    rintro e w1 ⟨rfl, d1, rfl⟩
    go_wp2_with fail
    refine (HYZ.out _).mono ?_
    rintro e w2 ⟨rfl, d2, rfl⟩
    go_wp2_with fail
    refine (HXZ.out _).mono ?_
    rintro e w3 ⟨rfl, d3, rfl⟩
    go_wp2_with fail
    refine (fbegun_any _).mono ?_
    rintro e w4 ⟨rfl, hb4⟩
    go_wp2_with fail
    refine (HYX.out _).mono ?_
    rintro e w5 ⟨rfl, d5, rfl⟩
    go_wp2_with fail
    refine (HXX.out _).mono ?_
    rintro e w6 ⟨rfl, d6, rfl⟩
    go_wp2_with fail
    go_ret
    exact ⟨by first | rfl | simp, by first | exact below_drewN (below_then (below_drewN (Below.refl _ _) _) hb4) _ | exact below_drewN (below_drewN (below_then (below_drewN (Below.refl _ _) _) hb4) _) _⟩
  · have g4 : ((s0.size : Int) != (s1.size : Int)) = true := by rw [bne_iff_ne]; omega
    clear hxy hyz hxz hyx hxx ha hb hc la lb lc hu h1 h2 he hte hl
    go_enter Try.func7, Try.ntmps7
    go_wp2_with fail
    refine (HXY.out _).mono ?_
    rintro e w1 ⟨rfl, d1, rfl⟩
    go_wp2_with fail
    refine (HYZ.out _).mono ?_
    rintro e w2 ⟨rfl, d2, rfl⟩
    go_wp2_with fail
    refine (HXZ.out _).mono ?_
    rintro e w3 ⟨rfl, d3, rfl⟩
    go_wp2_with fail
    refine (fbegun_any _).mono ?_
    rintro e w4 ⟨rfl, hb4⟩
    go_wp2_with fail
    refine (HYX.out _).mono ?_
    rintro e w5 ⟨rfl, d5, rfl⟩
    go_wp2_with fail
    refine (HXX.out _).mono ?_
    rintro e w6 ⟨rfl, d6, rfl⟩
    go_wp2_with fail
    go_ret
    exact ⟨by first | rfl | simp, by first | exact below_drewN (below_then (below_drewN (Below.refl _ _) _) hb4) _ | exact below_drewN (below_drewN (below_then (below_drewN (Below.refl _ _) _) hb4) _) _⟩

set_option maxHeartbeats 1000000 in
set_option maxRecDepth 100000 in
theorem sharedRises_walk (w : World) (s0 : ByteArray) (hs0 : s0.size ≤ maxLen) (s1 : ByteArray) (hs1 : s1.size ≤ maxLen) (s2 : ByteArray) (hs2 : s2.size ≤ maxLen) :
    Calls Try.prog 8 #[.string s0, .string s1, .string s2] w (BoolPost true w) := by
  obtain ⟨a, ha, la⟩ := str_ex s0
  obtain ⟨b, hb, lb⟩ := str_ex s1
  obtain ⟨c, hc, lc⟩ := str_ex s2
  have l1 := less_eq a b
  have l2 := less_eq b c
  have q1 := tl_eq a b
  have q2 := tl_eq b c
  rw [← ha, ← hb] at l1 q1
  rw [← hb, ← hc] at l2 q2
  by_cases h1 : b < a
  · rw [decide_eq_false (fun h => T.lt_irr _ (T.lt_tr h h1))] at l1
    rw [decide_eq_false (fun h => by rw [h] at h1; exact T.lt_irr _ h1)] at q1
    have q1' : ¬ s0.toList = s1.toList := beq_eq_false_iff_ne.1 q1
    clear h1 l2 q2 ha hb hc la lb lc
    go_enter Try.func8, Try.ntmps8
    go_wp2_with fail
    refine (fbegun_any _).mono ?_
    rintro e w4 ⟨rfl, hb4⟩
    go_wp2_with fail
    go_ret
    exact ⟨rfl, hb4⟩
  have o1 : (!Op.bytesLess s0.toList s1.toList && !(s0.toList == s1.toList)) = false := by
    rw [l1, q1]
    rcases T.tri a b with h | h | h
    · simp [h]
    · simp [h]
    · exact absurd h h1
  have o1' : Op.bytesLess s0.toList s1.toList = true ∨ s0.toList = s1.toList := by
    rcases T.tri a b with h | h | h
    · exact Or.inl (by rw [l1]; simp [h])
    · exact Or.inr (by rw [ha, hb, h])
    · exact absurd h h1
  by_cases h2 : c < b
  · rw [decide_eq_false (fun h => T.lt_irr _ (T.lt_tr h h2))] at l2
    rw [decide_eq_false (fun h => by rw [h] at h2; exact T.lt_irr _ h2)] at q2
    have q2' : ¬ s1.toList = s2.toList := beq_eq_false_iff_ne.1 q2
    clear l1 q1 h1 h2 ha hb hc la lb lc
    go_enter Try.func8, Try.ntmps8
    go_wp2_with fail
    refine (fbegun_any _).mono ?_
    rintro e w4 ⟨rfl, hb4⟩
    go_wp2_with fail
    go_ret
    exact ⟨rfl, hb4⟩
  have o2 : (!Op.bytesLess s1.toList s2.toList && !(s1.toList == s2.toList)) = false := by
    rw [l2, q2]
    rcases T.tri b c with h | h | h
    · simp [h]
    · simp [h]
    · exact absurd h h2
  have o2' : Op.bytesLess s1.toList s2.toList = true ∨ s1.toList = s2.toList := by
    rcases T.tri b c with h | h | h
    · exact Or.inl (by rw [l2]; simp [h])
    · exact Or.inr (by rw [hb, hc, h])
    · exact absurd h h2
  clear l1 l2 q1 q2
  have hu := F.sh_rises a b c h1 h2
  have hxy := fun W => shared_any a b W (by omega) (by omega)
  have hyz := fun W => shared_any b c W (by omega) (by omega)
  have hxz := fun W => shared_any a c W (by omega) (by omega)
  rw [← ha, ← hb] at hxy
  rw [← hb, ← hc] at hyz
  rw [← ha, ← hc] at hxz
  generalize F.sh a b = x at *
  generalize F.sh b c = y at *
  generalize F.sh a c = z at *
  have HXY := Lib.hid hxy
  have HYZ := Lib.hid hyz
  have HXZ := Lib.hid hxz
  have g1 : ((z : Int) == min (x : Int) (y : Int)) = true := by rw [beq_iff_eq]; omega
  have g2 : (z : Int) = min (x : Int) (y : Int) := by omega
  clear h1 h2 ha hb hc la lb lc hu hxy hyz hxz
  go_enter Try.func8, Try.ntmps8
  go_wp2_with fail
  refine (fbegun_any _).mono ?_
  rintro e w4 ⟨rfl, hb4⟩
  go_wp2_with fail
  refine (HXZ.out _).mono ?_
  rintro e w3 ⟨rfl, d3, rfl⟩
  go_wp2_with fail
  refine (HXY.out _).mono ?_
  rintro e w1 ⟨rfl, d1, rfl⟩
  go_wp2_with fail
  refine (HYZ.out _).mono ?_
  rintro e w2 ⟨rfl, d2, rfl⟩
  go_wp2_with fail
  go_ret
  exact ⟨by first | rfl | simp, by first | exact below_drewN hb4 _ | exact below_drewN (below_drewN (below_drewN hb4 _) _) _⟩
end Go.Proofs.Ytplhlnlonjlcaaa
