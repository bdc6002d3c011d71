/- The law CodecNumbers. -/
import Derived.Test.YtmiboibadccceaaGreatKB
namespace Go.Proofs.YtmiboibadccceaaGreat
open Go.RowKit
set_option linter.unusedVariables false

set_option maxHeartbeats 2000000 in
set_option maxRecDepth 100000 in
theorem codecNumbers_walk (w : World) (a : Option Addr) (c : Nat) (l : List Nat) (hm : l.length ≤ maxLen) (hcap : l.length ≤ c ∧ c ≤ maxLen ∧ (a = none → c = 0)) (hx : ∀ x ∈ l, x < 18446744073709551616) (hu : Nums w w.heap.size a l) (way : Int) (hway : -9223372036854775808 ≤ way ∧ way ≤ 9223372036854775807) :
    Calls Tryz.prog 3 #[.slice a l.length c, .int .i64 way] w (BoolPost true w) := by
  have hN := fun W (hq : Nums W W.heap.size a l) => knumbers_any way a c l W hcap.1 hcap.2.1 hx hq
  have hB := fun W (hq : Nums W W.heap.size a l) => kbestNumbers_any a c l W hcap.1 hcap.2.1 hx hq
  unfold PackPost at hN hB
  have hF := Below.refl w.heap.size w
  by_cases hbig : 64 < l.length
  · rw [show bestNR l = ([], 2) from if_pos hbig] at hB
    have HB := Lib.hid (fun W (hq : Nums W W.heap.size a l) => show Calls Tryz.prog 13 #[.slice a l.length c] W (fun e w' => e = .returned (.tuple #[.string ⟨#[]⟩, .int .i64 2]) ∧ Below W.heap.size W w') from hB W hq)
    have gl : decide ((64 : Int) < (l.length : Int)) = true := decide_eq_true (by omega)
    by_cases h0 : way < 1 ∨ 4 < way
    · rw [show numR way l = ([], 7) from if_pos h0] at hN
      have HN := Lib.hid (fun W (hq : Nums W W.heap.size a l) => show Calls Tryz.prog 12 #[.slice a l.length c, .int .i64 way] W (fun e w' => e = .returned (.tuple #[.string ⟨#[]⟩, .int .i64 7]) ∧ Below W.heap.size W w') from hN W hq)
      have hg : decide (way < 1) = true ∨ (decide (way < 1) = false ∧ decide (4 < way) = true) := by simp; omega
      clear hN hB h0 hbig hx hcap hm
      rcases hg with g1 | ⟨g1, g2⟩
      all_goals
        go_enter Tryz.func3, Tryz.ntmps3
        go_wp2_with fail
        refine (HN.out _ hu).mono ?_
        rintro e w1 ⟨rfl, hb1⟩
        replace hu := hu.next hb1
        replace hF := below_then hF hb1
        clear hb1
        go_wp2_with fail
        refine (HB.out _ hu).mono ?_
        rintro e w1 ⟨rfl, hb1⟩
        replace hu := hu.next hb1
        replace hF := below_then hF hb1
        clear hb1
        go_wp2_with fail
        refine (kbegun_any _).mono ?_
        rintro e w1 ⟨rfl, hb1⟩
        replace hu := hu.next hb1
        replace hF := below_then hF hb1
        clear hb1
        go_wp2_with fail
        go_ret
        exact ⟨rfl, hF⟩
    · rw [show numR way l = ([], 2) by unfold numR; rw [if_neg h0, if_pos hbig]] at hN
      have HN := Lib.hid (fun W (hq : Nums W W.heap.size a l) => show Calls Tryz.prog 12 #[.slice a l.length c, .int .i64 way] W (fun e w' => e = .returned (.tuple #[.string ⟨#[]⟩, .int .i64 2]) ∧ Below W.heap.size W w') from hN W hq)
      have g1 : decide (way < 1) = false := by simp; omega
      have g2 : decide (4 < way) = false := by simp; omega
      clear hN hB h0 hbig hx hcap hm
      go_enter Tryz.func3, Tryz.ntmps3
      go_wp2_with fail
      refine (HN.out _ hu).mono ?_
      rintro e w1 ⟨rfl, hb1⟩
      replace hu := hu.next hb1
      replace hF := below_then hF hb1
      clear hb1
      go_wp2_with fail
      refine (HB.out _ hu).mono ?_
      rintro e w1 ⟨rfl, hb1⟩
      replace hu := hu.next hb1
      replace hF := below_then hF hb1
      clear hb1
      go_wp2_with fail
      refine (kbegun_any _).mono ?_
      rintro e w1 ⟨rfl, hb1⟩
      replace hu := hu.next hb1
      replace hF := below_then hF hb1
      clear hb1
      go_wp2_with fail
      go_ret
      exact ⟨rfl, hF⟩
  rw [show bestNR l = (bestNW l, 0) from if_neg hbig] at hB
  have hRB := fun W (hq : Nums W W.heap.size a l) => bestNumberBytes_any a c l W (by omega) hcap.1 hcap.2.1 hx hq
  unfold TextPost at hRB
  have gl : decide ((64 : Int) < (l.length : Int)) = false := decide_eq_false (by omega)
  by_cases h0 : way < 1 ∨ 4 < way
  · rw [show numR way l = ([], 7) from if_pos h0] at hN
    have HN := Lib.hid (fun W (hq : Nums W W.heap.size a l) => show Calls Tryz.prog 12 #[.slice a l.length c, .int .i64 way] W (fun e w' => e = .returned (.tuple #[.string ⟨#[]⟩, .int .i64 7]) ∧ Below W.heap.size W w') from hN W hq)
    have HB := Lib.hid (fun W (hq : Nums W W.heap.size a l) => show Calls Tryz.prog 13 #[.slice a l.length c] W (fun e w' => e = .returned (.tuple #[.string (str (bestNW l)), .int .i64 0]) ∧ Below W.heap.size W w') from hB W hq)
    have HRB := Lib.hid hRB
    generalize str (bestNW l) = T at *
    have hg : decide (way < 1) = true ∨ (decide (way < 1) = false ∧ decide (4 < way) = true) := by simp; omega
    clear hN hB hRB h0 hbig hx hcap hm
    rcases hg with g1 | ⟨g1, g2⟩
    all_goals
      go_enter Tryz.func3, Tryz.ntmps3
      go_wp2_with fail
      refine (HN.out _ hu).mono ?_
      rintro e w1 ⟨rfl, hb1⟩
      replace hu := hu.next hb1
      replace hF := below_then hF hb1
      clear hb1
      go_wp2_with fail
      refine (HB.out _ hu).mono ?_
      rintro e w1 ⟨rfl, hb1⟩
      replace hu := hu.next hb1
      replace hF := below_then hF hb1
      clear hb1
      go_wp2_with fail
      refine (HRB.out _ hu).mono ?_
      rintro e w1 ⟨rfl, hb1⟩
      replace hu := hu.next hb1
      replace hF := below_then hF hb1
      clear hb1
      go_wp2_with fail
      refine (kbegun_any _).mono ?_
      rintro e w1 ⟨rfl, hb1⟩
      replace hu := hu.next hb1
      replace hF := below_then hF hb1
      clear hb1
      go_wp2_with fail
      go_ret
      exact ⟨rfl, hF⟩
  obtain ⟨m, rfl⟩ : ∃ m : Nat, way = m := ⟨way.toNat, by omega⟩
  have hm4 : 1 ≤ m ∧ m ≤ 4 := by omega
  have hR := fun W (hq : Nums W W.heap.size a l) => numberBytes_any m a c l W hm4 (by omega) hcap.1 hcap.2.1 hx hq
  unfold TextPost at hR
  rw [show numR (m : Int) l = (nbW m l, 0) by unfold numR; rw [if_neg h0, if_neg hbig, Int.toNat_natCast]] at hN
  have HN := Lib.hid (fun W (hq : Nums W W.heap.size a l) => show Calls Tryz.prog 12 #[.slice a l.length c, .int .i64 (m : Int)] W (fun e w' => e = .returned (.tuple #[.string (str (nbW m l)), .int .i64 0]) ∧ Below W.heap.size W w') from hN W hq)
  have HB := Lib.hid (fun W (hq : Nums W W.heap.size a l) => show Calls Tryz.prog 13 #[.slice a l.length c] W (fun e w' => e = .returned (.tuple #[.string (str (bestNW l)), .int .i64 0]) ∧ Below W.heap.size W w') from hB W hq)
  have HRB := Lib.hid hRB
  have HR := Lib.hid hR
  generalize str (bestNW l) = T at *
  generalize str (nbW m l) = S at *
  have g1 : decide ((m : Int) < 1) = false := by simp; omega
  have g2 : decide ((4 : Int) < (m : Int)) = false := by simp; omega
  generalize (m : Int) = way at *
  clear hN hB hRB hR h0 hbig hx hcap hm hm4
  go_enter Tryz.func3, Tryz.ntmps3
  go_wp2_with fail
  refine (HN.out _ hu).mono ?_
  rintro e w1 ⟨rfl, hb1⟩
  replace hu := hu.next hb1
  replace hF := below_then hF hb1
  clear hb1
  go_wp2_with fail
  refine (HB.out _ hu).mono ?_
  rintro e w1 ⟨rfl, hb1⟩
  replace hu := hu.next hb1
  replace hF := below_then hF hb1
  clear hb1
  go_wp2_with fail
  refine (HRB.out _ hu).mono ?_
  rintro e w1 ⟨rfl, hb1⟩
  replace hu := hu.next hb1
  replace hF := below_then hF hb1
  clear hb1
  go_wp2_with fail
  refine (HR.out _ hu).mono ?_
  rintro e w1 ⟨rfl, hb1⟩
  replace hu := hu.next hb1
  replace hF := below_then hF hb1
  clear hb1
  go_wp2_with fail
  refine (kbegun_any _).mono ?_
  rintro e w1 ⟨rfl, hb1⟩
  replace hu := hu.next hb1
  replace hF := below_then hF hb1
  clear hb1
  go_wp2_with fail
  go_ret
  exact ⟨rfl, hF⟩
end Go.Proofs.YtmiboibadccceaaGreat
