/- The law RunsBack. -/
import Derived.Test.YthmlafoceacliabRL0
namespace Go.Proofs.Ythmlafoceacliab
open Go.RowKit
set_option linter.unusedVariables false

/-- what the law does with the runs that came in -/
theorem back_facts (r : List R.Run) (h : R.chk r = 0) : ofR (R.ex r) = (r, 0) ∧ (R.ex r).length ≤ 64 := by
  obtain ⟨g, hs, hp⟩ := R.chk_facts r h
  obtain ⟨h1, h2⟩ := R.chk_ex_length r h
  refine ⟨?_, h2⟩
  rw [ofR, if_neg (by omega), ← R.join_ex r (fun p hq => (hp p hq).1), R.good_join r g]

set_option maxHeartbeats 1000000 in
set_option maxRecDepth 100000 in
theorem runsBack_walk (w : World) (a : Option Addr) (c : Nat) (l : List Nat) (hm : l.length ≤ maxLen) (hcap : l.length ≤ c ∧ c ≤ maxLen ∧ (a = none → c = 0)) (hx : ∀ x ∈ l, x < 18446744073709551616) (hu : Nums w w.heap.size a l)
    (b : Option Addr) (d : Nat) (r : List R.Run) (hm2 : r.length ≤ maxLen) (hcap2 : r.length ≤ d ∧ d ≤ maxLen ∧ (b = none → d = 0)) (hx2 : ∀ x ∈ r, x.1 < 18446744073709551616 ∧ -9223372036854775808 ≤ x.2 ∧ x.2 ≤ 9223372036854775807) (hv : Runs w w.heap.size b r) :
    Calls Try.prog 5 #[.slice a l.length c, .slice b r.length d] w (BoolPost true w) := by
  have hof := of_any a c l w hu
  have hex := fun w hu => expand_any b d r w hm2 hu
  unfold ofR at hof
  unfold expR at hex
  have hrl := rle_length_le l
  have HSR := Lib.hid (show r.length ≤ 64 → ∀ a c w, Runs w w.heap.size a r → Runs w w.heap.size b r → Calls Try.prog 11 #[.slice a r.length c, .slice b r.length d] w (BoolPost true w) from fun hr a c w h h2 => by
    have h := rsame_any a b c d _ _ w _ h h2 (by omega)
    rw [decide_eq_true rfl] at h; exact h)
  have HSN := Lib.hid (show l.length ≤ 64 → ∀ a' c' w, Nums w w.heap.size a' l → Nums w w.heap.size a l → Calls Try.prog 18 #[.slice a' l.length c', .slice a l.length c] w (BoolPost true w) from fun hl a' c' w h h2 => by
    have h := same_any a' a c' c _ _ w _ h h2 (by omega)
    rw [decide_eq_true rfl] at h; exact h)
  have HEND := Lib.hid (show ∀ (w' : World), Below w.heap.size w w' → (R.chk r ≠ 0 → ∃ k : Nat, k ≠ 0 ∧ Calls Try.prog 14 #[.slice b r.length d] w' (AllPost ([], k) w')) ∧
      (R.chk r = 0 → ∃ y : List Nat, (y.length ≤ 64 ∧ r.length ≤ 64) ∧ Calls Try.prog 14 #[.slice b r.length d] w' (AllPost (y, 0) w') ∧ ∀ a c w, Nums w w.heap.size a y → Calls Try.prog 8 #[.slice a y.length c] w (RunsPost (r, 0) w)) from fun w' hb => by
    have h := hex w' (hv.next hb)
    refine ⟨fun hc => ⟨R.chk r, hc, by rw [if_neg hc] at h; exact h⟩, fun hc => ?_⟩
    rw [if_pos hc] at h
    obtain ⟨h1, h2⟩ := back_facts r hc
    exact ⟨R.ex r, ⟨h2, good_len r (R.chk_facts r hc).1 (R.chk_facts r hc).2.1⟩, h, fun a c w hu => by have := of_any a c (R.ex r) w hu; rw [h1] at this; exact this⟩)
  have hck0 := fun a c w hu (h : l.length ≤ 64) => check_any a c (R.rle l) w (by unfold maxLen at *; omega) hu
  have hex0 := fun a c w hu (h : l.length ≤ 64) => expand_any a c (R.rle l) w (by unfold maxLen at *; omega) hu
  unfold expR at hex0
  by_cases h64 : 64 < l.length
  · have g1 : decide ((l.length : Int) ≤ 64) = false := by simp; omega
    rw [if_pos h64] at hof
    have HOF := Lib.hid hof
    clear hof h64 hck0 hex0 hex hrl hm hcap hx hm2 hcap2 hx2
    go_enter Try.func5, Try.ntmps5
    go_wp2_with fail
    refine (HOF.out).mono ?_
    rintro e w1 ⟨a1, c1, rfl, hr1, hb1⟩
    go_wp2_with fail
    refine (rubegun_any _).mono ?_
    rintro e w2 ⟨rfl, hb2⟩
    replace hb2 := below_then hb1 hb2
    by_cases hc : R.chk r = 0
    · obtain ⟨y, ⟨hy, hrr⟩, he, ho⟩ := (HEND.out w2 hb2).2 hc
      have HE := Lib.hid he
      have HO := Lib.hid ho
      clear he ho hc
      go_wp2_with fail
      refine (HE.out).mono ?_
      rintro e w3 ⟨a3, c3, rfl, hn3, hb3⟩
      replace hb3 := below_then hb2 hb3
      go_wp2_with fail
      refine (HO.out a3 c3 w3 hn3).mono ?_
      rintro e w4 ⟨a4, c4, rfl, hr4, hb4⟩
      replace hb4 := below_then hb3 hb4
      go_wp2_with fail
      refine (HSR.out hrr a4 c4 w4 hr4 (hv.next hb4)).mono ?_
      rintro e w5 ⟨rfl, hb5⟩
      replace hb5 := below_then hb4 hb5
      go_wp2_with fail
      go_ret
      exact ⟨rfl, hb5⟩
    · obtain ⟨k, hk, he⟩ := (HEND.out w2 hb2).1 hc
      have HE := Lib.hid he
      have g2 : ((k : Int) != 0) = true := by simp; omega
      clear he hc hk
      go_wp2_with fail
      refine (HE.out).mono ?_
      rintro e w3 ⟨a3, c3, rfl, hn3, hb3⟩
      replace hb3 := below_then hb2 hb3
      go_wp2_with fail
      go_ret
      exact ⟨rfl, hb3⟩
  · have g1 : decide ((l.length : Int) ≤ 64) = true := by simp; omega
    have h64' : l.length ≤ 64 := by omega
    rw [if_neg h64] at hof
    have HCK := Lib.hid (show ∀ a c w, Runs w w.heap.size a (R.rle l) → Calls Try.prog 12 #[.slice a (R.rle l).length c] w (ErrPost 0 w) from fun a c w hu => by
      have h := hck0 a c w hu h64'
      rw [R.chk_rle l h64'] at h; exact h)
    have HEX := Lib.hid (show ∀ a c w, Runs w w.heap.size a (R.rle l) → Calls Try.prog 14 #[.slice a (R.rle l).length c] w (AllPost (l, 0) w) from fun a c w hu => by
      have h := hex0 a c w hu h64'
      rw [R.chk_rle l h64', if_pos rfl, R.ex_rle] at h; exact h)
    generalize R.rle l = z at *
    have HOF := Lib.hid hof
    clear hof h64 hck0 hex0 hex hrl hm hcap hx hm2 hcap2 hx2
    go_enter Try.func5, Try.ntmps5
    go_wp2_with fail
    refine (HOF.out).mono ?_
    rintro e w1 ⟨a1, c1, rfl, hr1, hb1⟩
    go_wp2_with fail
    refine (rubegun_any _).mono ?_
    rintro e w2 ⟨rfl, hb2⟩
    replace hr1 := hr1.next hb2
    replace hb2 := below_then hb1 hb2
    go_wp2_with fail
    refine (HEX.out a1 c1 w2 hr1).mono ?_
    rintro e w6 ⟨a6, c6, rfl, hn6, hb6⟩
    replace hr1 := hr1.next hb6
    replace hb6 := below_then hb2 hb6
    go_wp2_with fail
    refine (HSN.out h64' a6 c6 w6 hn6 (hu.next hb6)).mono ?_
    rintro e w7 ⟨rfl, hb7⟩
    replace hr1 := hr1.next hb7
    replace hb7 := below_then hb6 hb7
    go_wp2_with fail
    refine (HCK.out a1 c1 w7 hr1).mono ?_
    rintro e w8 ⟨rfl, hb8⟩
    replace hb8 := below_then hb7 hb8
    by_cases hc : R.chk r = 0
    · obtain ⟨y, ⟨hy, hrr⟩, he, ho⟩ := (HEND.out w8 hb8).2 hc
      have HE := Lib.hid he
      have HO := Lib.hid ho
      clear he ho hc
      go_wp2_with fail
      refine (HE.out).mono ?_
      rintro e w3 ⟨a3, c3, rfl, hn3, hb3⟩
      replace hb3 := below_then hb8 hb3
      go_wp2_with fail
      refine (HO.out a3 c3 w3 hn3).mono ?_
      rintro e w4 ⟨a4, c4, rfl, hr4, hb4⟩
      replace hb4 := below_then hb3 hb4
      go_wp2_with fail
      refine (HSR.out hrr a4 c4 w4 hr4 (hv.next hb4)).mono ?_
      rintro e w5 ⟨rfl, hb5⟩
      replace hb5 := below_then hb4 hb5
      go_wp2_with fail
      go_ret
      exact ⟨rfl, hb5⟩
    · obtain ⟨k, hk, he⟩ := (HEND.out w8 hb8).1 hc
      have HE := Lib.hid he
      have g2 : ((k : Int) != 0) = true := by simp; omega
      clear he hc hk
      go_wp2_with fail
      refine (HE.out).mono ?_
      rintro e w3 ⟨a3, c3, rfl, hn3, hb3⟩
      replace hb3 := below_then hb8 hb3
      go_wp2_with fail
      go_ret
      exact ⟨rfl, hb3⟩
end Go.Proofs.Ythmlafoceacliab
