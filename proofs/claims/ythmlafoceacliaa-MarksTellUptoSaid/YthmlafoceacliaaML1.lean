/- The laws RankTells, RankSelects. -/
import Derived.Test.YthmlafoceacliaaMW7
namespace Go.Proofs.Ythmlafoceacliaa
open Go.RowKit
set_option linter.unusedVariables false

set_option maxHeartbeats 1000000 in
set_option maxRecDepth 100000 in
theorem rankTells_walk (w : World) (a : Option Addr) (c : Nat) (l : List Bool) (hm : l.length ≤ maxLen) (hcap : l.length ≤ c ∧ c ≤ maxLen ∧ (a = none → c = 0)) (hu : Bools w w.heap.size a l)
    (p : Int) (hp : -9223372036854775808 ≤ p ∧ p ≤ 9223372036854775807) (k : Int) (hk : -9223372036854775808 ≤ k ∧ k ≤ 9223372036854775807) :
    Calls Try.prog 3 #[.slice a l.length c, .int .i64 p, .int .i64 k] w (BoolPost true w) := by
  have H1 := Lib.hid (rank_any a c l p w _ hcap hu)
  have H2 := Lib.hid (sel_any a c l k w _ hm hk.2 hu)
  have H3 := Lib.hid (rankOf_any a c l p w _ hm hu)
  have H4 := Lib.hid (selOf_any a c l k w _ hm hk.2 hu)
  have H5 := Lib.hid (fun w B' hu => count_any a c l w B' hm hu)
  have hco := fun w B' hu => countOf_any a c l.length l w B' hm (Nat.le_refl _) hu
  simp only [List.take_length] at hco
  have H6 := Lib.hid hco
  clear hco hp hk
  generalize M.rankR l p = r at *
  generalize M.selR l k = s at *
  generalize M.cnt l = n at *
  obtain ⟨r1, r2⟩ := r
  obtain ⟨s1, s2⟩ := s
  go_enter Try.func3, Try.ntmps3
  go_wp2_with fail
  refine (H1.out).mono ?_
  rintro e wx ⟨rfl, rfl⟩
  go_wp2_with fail
  refine (H2.out).mono ?_
  rintro e wx ⟨rfl, rfl⟩
  go_wp2_with fail
  refine (H3.out).mono ?_
  rintro e wx ⟨rfl, rfl⟩
  go_wp2_with fail
  refine (H4.out).mono ?_
  rintro e wx ⟨rfl, rfl⟩
  go_wp2_with fail
  refine (rbegun_any _).mono ?_
  rintro e w1 ⟨rfl, hb1⟩
  go_wp2_with fail
  refine (H5.out w1 _ (hu.next hb1)).mono ?_
  rintro e wx ⟨rfl, rfl⟩
  go_wp2_with fail
  refine (H6.out w1 _ (hu.next hb1)).mono ?_
  rintro e wx ⟨rfl, rfl⟩
  go_wp2_with fail
  go_ret
  exact ⟨rfl, hb1⟩
end Go.Proofs.Ythmlafoceacliaa
