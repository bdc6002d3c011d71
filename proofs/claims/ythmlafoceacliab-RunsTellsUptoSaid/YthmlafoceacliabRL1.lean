/- The law RunsTells. -/
import Derived.Test.YthmlafoceacliabRL0
import Derived.Test.YthmlafoceacliabRW1
namespace Go.Proofs.Ythmlafoceacliab
open Go.RowKit
set_option linter.unusedVariables false

set_option maxHeartbeats 1000000 in
set_option maxRecDepth 100000 in
theorem runsTells_walk (w : World) (a : Option Addr) (c : Nat) (l : List Nat) (hm : l.length ≤ maxLen) (hcap : l.length ≤ c ∧ c ≤ maxLen ∧ (a = none → c = 0)) (hx : ∀ x ∈ l, x < 18446744073709551616) (hu : Nums w w.heap.size a l)
    (b : Option Addr) (d : Nat) (r : List R.Run) (hm2 : r.length ≤ maxLen) (hcap2 : r.length ≤ d ∧ d ≤ maxLen ∧ (b = none → d = 0)) (hx2 : ∀ x ∈ r, x.1 < 18446744073709551616 ∧ -9223372036854775808 ≤ x.2 ∧ x.2 ≤ 9223372036854775807) (hv : Runs w w.heap.size b r)
    (hbd : l.length + r.length ≤ 1048576) :
    Calls Try.prog 3 #[.slice a l.length c, .slice b r.length d] w (BoolPost true w) := by
  have hof := of_any a c l w hu
  have HRO := Lib.hid (fun w hu => runsOf_any a c l w (by omega) hu)
  have HCK := Lib.hid (fun w hu => check_any b d r w hm2 hu)
  have HRC := Lib.hid (fun w B' hu => rcheck_any b d r w B' hm2 hu)
  have hrl := rle_length_le l
  clear hm hcap hx hm2 hcap2 hx2
  generalize R.chk r = k at *
  unfold ofR at hof
  by_cases h64 : 64 < l.length
  · have g1 : decide ((64 : Int) < (l.length : Int)) = true := by simp; omega
    rw [if_pos h64] at hof
    have HOF := Lib.hid hof
    clear hof h64
    go_enter Try.func3, Try.ntmps3
    go_wp2_with fail
    refine (HOF.out).mono ?_
    rintro e w1 ⟨a1, c1, rfl, hr1, hb1⟩
    go_wp2_with fail
    refine (HRO.out w1 (hu.next hb1)).mono ?_
    rintro e w2 ⟨a2, c2, rfl, hr2, hb2⟩
    replace hb2 := below_then hb1 hb2
    clear hr2
    go_wp2_with fail
    refine (rubegun_any _).mono ?_
    rintro e w3 ⟨rfl, hb3⟩
    replace hb3 := below_then hb2 hb3
    go_wp2_with fail
    refine (rsame_any a1 none c1 0 [] [] w3 w3.heap.size (Runs.nil _ _ _) (Runs.nil _ _ _) (by decide)).mono ?_
    rintro e w4 ⟨rfl, hb4⟩
    replace hb4 := below_then hb3 hb4
    go_wp2_with fail
    refine (HCK.out w4 (hv.next hb4)).mono ?_
    rintro e w5 ⟨rfl, hb5⟩
    replace hb5 := below_then hb4 hb5
    go_wp2_with fail
    refine (HRC.out w5 _ (hv.next hb5)).mono ?_
    rintro e w6 ⟨rfl, hb6⟩
    replace hb6 := below_then hb5 hb6
    go_wp2_with fail
    go_ret
    exact ⟨by simp, hb6⟩
  · have g1 : decide ((64 : Int) < (l.length : Int)) = false := by simp; omega
    rw [if_neg h64] at hof
    have hsm : ∀ a b c d w, Runs w w.heap.size a (R.rle l) → Runs w w.heap.size b (R.rle l) → Calls Try.prog 11 #[.slice a (R.rle l).length c, .slice b (R.rle l).length d] w (BoolPost true w) := fun a b c d w h h2 => by
      have h := rsame_any a b c d _ _ w _ h h2 (by omega)
      rw [decide_eq_true rfl] at h; exact h
    generalize R.rle l = z at *
    have HOF := Lib.hid hof
    have HSM := Lib.hid hsm
    clear hof h64 hsm
    go_enter Try.func3, Try.ntmps3
    go_wp2_with fail
    refine (HOF.out).mono ?_
    rintro e w1 ⟨a1, c1, rfl, hr1, hb1⟩
    go_wp2_with fail
    refine (HRO.out w1 (hu.next hb1)).mono ?_
    rintro e w2 ⟨a2, c2, rfl, hr2, hb2⟩
    replace hr1 := hr1.next hb2
    replace hb2 := below_then hb1 hb2
    go_wp2_with fail
    refine (rubegun_any _).mono ?_
    rintro e w3 ⟨rfl, hb3⟩
    replace hr1 := hr1.next hb3
    replace hr2 := hr2.next hb3
    replace hb3 := below_then hb2 hb3
    go_wp2_with fail
    refine (HSM.out a1 a2 c1 c2 w3 hr1 hr2).mono ?_
    rintro e w4 ⟨rfl, hb4⟩
    replace hb4 := below_then hb3 hb4
    go_wp2_with fail
    refine (HCK.out w4 (hv.next hb4)).mono ?_
    rintro e w5 ⟨rfl, hb5⟩
    replace hb5 := below_then hb4 hb5
    go_wp2_with fail
    refine (HRC.out w5 _ (hv.next hb5)).mono ?_
    rintro e w6 ⟨rfl, hb6⟩
    replace hb6 := below_then hb5 hb6
    go_wp2_with fail
    go_ret
    exact ⟨by simp, hb6⟩
end Go.Proofs.Ythmlafoceacliab
