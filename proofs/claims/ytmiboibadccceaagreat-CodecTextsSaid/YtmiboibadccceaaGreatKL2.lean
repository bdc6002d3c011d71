/- The law CodecTexts. -/
import Derived.Test.YtmiboibadccceaaGreatKB
namespace Go.Proofs.YtmiboibadccceaaGreat
open Go.RowKit
set_option linter.unusedVariables false

theorem textBytes_any (m : Nat) (hm : 5 ≤ m ∧ m ≤ 7) (a : Option Addr) (c : Nat) (l : List (List UInt8)) (w : World) (hf : fitR l = 0) (hu : Txts w w.heap.size a l) :
    Calls Tryz.prog 21 #[.slice a l.length c, .int .i64 m] w (TextPost (txB m l) w) := by
  have h : m = 5 ∨ m = 6 ∨ m = 7 := by omega
  rcases h with rfl | rfl | rfl
  · exact textBytes5_any a c l w hf hu
  · exact textBytes6_any a c l w hf hu
  · exact textBytes7_any a c l w hf hu

set_option maxHeartbeats 2000000 in
set_option maxRecDepth 100000 in
theorem codecTexts_walk (w : World) (a : Option Addr) (c : Nat) (l : List (List UInt8)) (hm : l.length ≤ maxLen) (hcap : l.length ≤ c ∧ c ≤ maxLen ∧ (a = none → c = 0)) (hx : ∀ x ∈ l, x.length ≤ maxLen) (hu : Txts w w.heap.size a l) (way : Int) (hway : -9223372036854775808 ≤ way ∧ way ≤ 9223372036854775807) :
    Calls Tryz.prog 4 #[.slice a l.length c, .int .i64 way] w (BoolPost true w) := by
  have hN := fun W (hq : Txts W W.heap.size a l) => ktexts_any way a c l W hq
  have hB := fun W (hq : Txts W W.heap.size a l) => kbestTexts_any a c l W hq
  unfold PackPost at hN hB
  have hF := Below.refl w.heap.size w
  have hM := fun W (hq : Txts W W.heap.size a l) => many_any a c l W hm hq
  by_cases hbig : fitR l ≠ 0
  · rw [show bestTR l = ([], 2) from if_pos hbig] at hB
    have HB := Lib.hid (fun W (hq : Txts W W.heap.size a l) => show Calls Tryz.prog 18 #[.slice a l.length c] W (fun e w' => e = .returned (.tuple #[.string ⟨#[]⟩, .int .i64 2]) ∧ Below W.heap.size W w') from hB W hq)
    rw [decide_eq_true hbig] at hM
    have HM := Lib.hid hM
    by_cases h0 : way < 5 ∨ 7 < way
    · rw [show txtR way l = ([], 7) from if_pos h0] at hN
      have HN := Lib.hid (fun W (hq : Txts W W.heap.size a l) => show Calls Tryz.prog 17 #[.slice a l.length c, .int .i64 way] W (fun e w' => e = .returned (.tuple #[.string ⟨#[]⟩, .int .i64 7]) ∧ Below W.heap.size W w') from hN W hq)
      have hg : decide (way < 5) = true ∨ (decide (way < 5) = false ∧ decide (7 < way) = true) := by simp; omega
      clear hN hB h0 hbig hx hcap hm hM
      rcases hg with g1 | ⟨g1, g2⟩
      all_goals
        go_enter Tryz.func4, Tryz.ntmps4
        go_wp2_with fail
        refine (HN.out _ hu).mono ?_
        rintro e w1 ⟨rfl, hb1⟩
        replace hu := hu.next hb1
        replace hF := below_then hF hb1
        clear hb1
        go_wp2_with fail
        refine (HB.out _ hu).mono ?_
        rintro e w1 ⟨rfl, hb1⟩
        replace hu := hu.next hb1
        replace hF := below_then hF hb1
        clear hb1
        go_wp2_with fail
        refine (HM.out _ hu).mono ?_
        rintro e w1 ⟨rfl, rfl⟩
        go_wp2_with fail
        refine (kbegun_any _).mono ?_
        rintro e w1 ⟨rfl, hb1⟩
        replace hu := hu.next hb1
        replace hF := below_then hF hb1
        clear hb1
        go_wp2_with fail
        go_ret
        exact ⟨rfl, hF⟩
    · rw [show txtR way l = ([], 2) by unfold txtR; rw [if_neg h0, if_pos hbig]] at hN
      have HN := Lib.hid (fun W (hq : Txts W W.heap.size a l) => show Calls Tryz.prog 17 #[.slice a l.length c, .int .i64 way] W (fun e w' => e = .returned (.tuple #[.string ⟨#[]⟩, .int .i64 2]) ∧ Below W.heap.size W w') from hN W hq)
      have g1 : decide (way < 5) = false := by simp; omega
      have g2 : decide (7 < way) = false := by simp; omega
      clear hN hB h0 hbig hx hcap hm hM
      go_enter Tryz.func4, Tryz.ntmps4
      go_wp2_with fail
      refine (HN.out _ hu).mono ?_
      rintro e w1 ⟨rfl, hb1⟩
      replace hu := hu.next hb1
      replace hF := below_then hF hb1
      clear hb1
      go_wp2_with fail
      refine (HB.out _ hu).mono ?_
      rintro e w1 ⟨rfl, hb1⟩
      replace hu := hu.next hb1
      replace hF := below_then hF hb1
      clear hb1
      go_wp2_with fail
      refine (HM.out _ hu).mono ?_
      rintro e w1 ⟨rfl, rfl⟩
      go_wp2_with fail
      refine (kbegun_any _).mono ?_
      rintro e w1 ⟨rfl, hb1⟩
      replace hu := hu.next hb1
      replace hF := below_then hF hb1
      clear hb1
      go_wp2_with fail
      go_ret
      exact ⟨rfl, hF⟩
  have hf : fitR l = 0 := Decidable.not_not.1 hbig
  rw [show bestTR l = (bestTW l, 0) from if_neg hbig] at hB
  have hRB := fun W (hq : Txts W W.heap.size a l) => bestTextBytes_any a c l W hf hq
  unfold TextPost at hRB
  rw [decide_eq_false hbig] at hM
  have HM := Lib.hid hM
  by_cases h0 : way < 5 ∨ 7 < way
  · rw [show txtR way l = ([], 7) from if_pos h0] at hN
    have HN := Lib.hid (fun W (hq : Txts W W.heap.size a l) => show Calls Tryz.prog 17 #[.slice a l.length c, .int .i64 way] W (fun e w' => e = .returned (.tuple #[.string ⟨#[]⟩, .int .i64 7]) ∧ Below W.heap.size W w') from hN W hq)
    have HB := Lib.hid (fun W (hq : Txts W W.heap.size a l) => show Calls Tryz.prog 18 #[.slice a l.length c] W (fun e w' => e = .returned (.tuple #[.string (str (bestTW l)), .int .i64 0]) ∧ Below W.heap.size W w') from hB W hq)
    have HRB := Lib.hid hRB
    generalize str (bestTW l) = T at *
    have hg : decide (way < 5) = true ∨ (decide (way < 5) = false ∧ decide (7 < way) = true) := by simp; omega
    clear hN hB hRB h0 hbig hx hcap hm hM hf
    rcases hg with g1 | ⟨g1, g2⟩
    all_goals
      go_enter Tryz.func4, Tryz.ntmps4
      go_wp2_with fail
      refine (HN.out _ hu).mono ?_
      rintro e w1 ⟨rfl, hb1⟩
      replace hu := hu.next hb1
      replace hF := below_then hF hb1
      clear hb1
      go_wp2_with fail
      refine (HB.out _ hu).mono ?_
      rintro e w1 ⟨rfl, hb1⟩
      replace hu := hu.next hb1
      replace hF := below_then hF hb1
      clear hb1
      go_wp2_with fail
      refine (HM.out _ hu).mono ?_
      rintro e w1 ⟨rfl, rfl⟩
      go_wp2_with fail
      refine (HRB.out _ hu).mono ?_
      rintro e w1 ⟨rfl, hb1⟩
      replace hu := hu.next hb1
      replace hF := below_then hF hb1
      clear hb1
      go_wp2_with fail
      refine (kbegun_any _).mono ?_
      rintro e w1 ⟨rfl, hb1⟩
      replace hu := hu.next hb1
      replace hF := below_then hF hb1
      clear hb1
      go_wp2_with fail
      go_ret
      exact ⟨rfl, hF⟩
  obtain ⟨m, rfl⟩ : ∃ m : Nat, way = m := ⟨way.toNat, by omega⟩
  have hm4 : 5 ≤ m ∧ m ≤ 7 := by omega
  have hR := fun W (hq : Txts W W.heap.size a l) => textBytes_any m hm4 a c l W hf hq
  unfold TextPost at hR
  rw [show txtR (m : Int) l = (txB m l, 0) by unfold txtR; rw [if_neg h0, if_neg hbig, Int.toNat_natCast]] at hN
  have HN := Lib.hid (fun W (hq : Txts W W.heap.size a l) => show Calls Tryz.prog 17 #[.slice a l.length c, .int .i64 (m : Int)] W (fun e w' => e = .returned (.tuple #[.string (str (txB m l)), .int .i64 0]) ∧ Below W.heap.size W w') from hN W hq)
  have HB := Lib.hid (fun W (hq : Txts W W.heap.size a l) => show Calls Tryz.prog 18 #[.slice a l.length c] W (fun e w' => e = .returned (.tuple #[.string (str (bestTW l)), .int .i64 0]) ∧ Below W.heap.size W w') from hB W hq)
  have HRB := Lib.hid hRB
  have HR := Lib.hid hR
  generalize str (bestTW l) = T at *
  generalize str (txB m l) = S at *
  have g1 : decide ((m : Int) < 5) = false := by simp; omega
  have g2 : decide ((7 : Int) < (m : Int)) = false := by simp; omega
  generalize (m : Int) = way at *
  clear hN hB hRB hR h0 hbig hx hcap hm hm4 hM hf
  go_enter Tryz.func4, Tryz.ntmps4
  go_wp2_with fail
  refine (HN.out _ hu).mono ?_
  rintro e w1 ⟨rfl, hb1⟩
  replace hu := hu.next hb1
  replace hF := below_then hF hb1
  clear hb1
  go_wp2_with fail
  refine (HB.out _ hu).mono ?_
  rintro e w1 ⟨rfl, hb1⟩
  replace hu := hu.next hb1
  replace hF := below_then hF hb1
  clear hb1
  go_wp2_with fail
  refine (HM.out _ hu).mono ?_
  rintro e w1 ⟨rfl, rfl⟩
  go_wp2_with fail
  refine (HRB.out _ hu).mono ?_
  rintro e w1 ⟨rfl, hb1⟩
  replace hu := hu.next hb1
  replace hF := below_then hF hb1
  clear hb1
  go_wp2_with fail
  refine (HR.out _ hu).mono ?_
  rintro e w1 ⟨rfl, hb1⟩
  replace hu := hu.next hb1
  replace hF := below_then hF hb1
  clear hb1
  go_wp2_with fail
  refine (kbegun_any _).mono ?_
  rintro e w1 ⟨rfl, hb1⟩
  replace hu := hu.next hb1
  replace hF := below_then hF hb1
  clear hb1
  go_wp2_with fail
  go_ret
  exact ⟨rfl, hF⟩
end Go.Proofs.YtmiboibadccceaaGreat
