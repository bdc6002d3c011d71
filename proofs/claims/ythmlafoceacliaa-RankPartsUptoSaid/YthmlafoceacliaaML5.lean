/- The law RankParts. -/
import Derived.Test.YthmlafoceacliaaML1
import Derived.Test.YthmlafoceacliaaMApp
namespace Go.Proofs.Ythmlafoceacliaa
open Go.RowKit
set_option linter.unusedVariables false

theorem rise (N : Nat) (x : Bool) (N2 : Nat) (h : N2 = N + if x = true then 1 else 0) : ((N2 : Int) == (N : Int) + 1) = x ∧ ((N2 : Int) == (N : Int)) = !x := by
  cases x with
  | false =>
    obtain rfl : N2 = N := by simpa using h
    exact ⟨by rw [beq_eq_false_iff_ne]; omega, by simp⟩
  | true =>
    obtain rfl : N2 = N + 1 := by simpa using h
    exact ⟨by rw [beq_iff_eq]; omega, by rw [Bool.not_true, beq_eq_false_iff_ne]; omega⟩

set_option maxHeartbeats 1000000 in
set_option maxRecDepth 100000 in
theorem rankParts_walk (w : World) (a : Option Addr) (c : Nat) (l : List Bool) (hm : l.length ≤ maxLen) (hcap : l.length ≤ c ∧ c ≤ maxLen ∧ (a = none → c = 0)) (hu : Bools w w.heap.size a l)
    (b : Option Addr) (d : Nat) (m : List Bool) (hm2 : m.length ≤ maxLen) (hcap2 : m.length ≤ d ∧ d ≤ maxLen ∧ (b = none → d = 0)) (hv : Bools w w.heap.size b m)
    (p : Int) (hp : -9223372036854775808 ≤ p ∧ p ≤ 9223372036854775807) (hbd : l.length + m.length ≤ 1048576) :
    Calls Try.prog 6 #[.slice a l.length c, .slice b m.length d, .int .i64 p] w (BoolPost true w) := by
  have HNIL := Lib.hid hcap.2.2
  have HNIL' := Lib.hid hcap2.2.2
  have HCAP := Lib.hid hcap
  have HCAP2 := Lib.hid hcap2
  clear hcap hcap2
  unfold maxLen at hm hm2
  have hown0 : (w.alloc (.cells #[] 4)).ownsRow w.heap.size 4 1 (.slice (some ⟨w.heap.size, 0, none⟩) 0 0) 0 [] :=
    ⟨by simp, Or.inr ⟨w.heap.size, 0, #[], rfl, Nat.le_refl _, heap_alloc_new w _, Nat.le_refl _, by unfold maxLen; omega, rfl, rfl⟩⟩
  have hb3 : Below w.heap.size w (w.alloc (.cells #[] 4)) := (Below.refl _ _).alloc (Nat.le_refl _) _
  go_enter Try.func6, Try.ntmps6
  go_wp2_with (at_builtin; refine wpList_append_marks rfl (.tmp 16) (.tmp 17) rfl w.heap.size _ 0 _ rfl hown0 a l.length c l rfl rfl HNIL.out (hu.next hb3) (by omega) (by simp) ?_)
  intro v4 w4 hown4 hg4
  have hb4 : Below w.heap.size w w4 := hb3.grown hg4 (by simp) (fun k hk => (hown0.lt k hk).1)
  have hs4 : w.heap.size ≤ w4.heap.size := hb4.size
  have hbb : (l.length + m.length) * 1 ≤ 140737488355328 := by omega
  have hown4' : w4.ownsRow w.heap.size 4 1 v4 l.length (mv l) := by simpa using hown4
  go_wp2_with (at_builtin; refine wpList_append_marks rfl (.tmp 18) (.tmp 19) rfl w.heap.size _ l.length _ rfl hown4' b m.length d m rfl rfl HNIL'.out (hv.next hb4) hbb hs4 ?_)
  intro v5 w5 hown5 hg5
  have hb5 : Below w.heap.size w w5 := hb4.grown hg5 hb4.size (fun k hk => (hown4'.lt k hk).1)
  have hnr : MarkRow w.heap.size (l ++ m) v5 w5 := by
    unfold MarkRow
    simpa [mv] using hown5
  obtain ⟨a5, c5, hv5, hn5, hc5⟩ := markRow_slice hnr
  rw [List.length_append] at hv5
  rw [hv5]
  clear hv5 hown0 hown4 hown4' hown5 hg4 hg5 hnr hbb hb3 hb4 hs4
  have HC5 := Lib.hid hc5
  clear hc5
  have hrl := fun (p : Int) w B' hu => rank_any a5 c5 (l ++ m) p w B' HC5.out hu
  simp only [List.length_append] at hrl
  have HRL := Lib.hid hrl
  clear hrl
  have hLlen : ((l ++ m).length : Int) = (l.length : Int) + (m.length : Int) := by rw [List.length_append]; simp
  by_cases h0 : p < 0 ∨ (l.length : Int) + (m.length : Int) < p
  · have HR1 := Lib.hid (show Calls Try.prog 9 #[.slice a5 (l.length + m.length) c5, .int .i64 p] w5 (TwoPost (0, 3) w5) from by have := HRL.out p w5 _ hn5; rw [M.rankR, if_pos (by rw [hLlen]; exact h0)] at this; exact this)
    have hguard : (decide (p < 0) = true) ∨ (decide (p < 0) = false ∧ decide ((l.length : Int) + (m.length : Int) < p) = true) := by simp; omega
    clear hLlen h0
    rcases hguard with g1 | ⟨g1, g2⟩
    all_goals
      go_wp2_with fail
      refine (HR1.out).mono ?_
      rintro e wx ⟨rfl, rfl⟩
      go_wp2_with fail
      refine (rbegun_any _).mono ?_
      rintro e w6 ⟨rfl, hb6⟩
      go_wp2_with fail
      go_ret
      exact ⟨rfl, below_then hb5 hb6⟩
  obtain ⟨k, rfl⟩ : ∃ k : Nat, p = k := ⟨p.toNat, by omega⟩
  have hkl : k ≤ l.length + m.length := by omega
  have hRk : ∀ k : Nat, k ≤ l.length + m.length → ∀ w B', Bools w B' a5 (l ++ m) → Calls Try.prog 9 #[.slice a5 (l.length + m.length) c5, .int .i64 k] w (TwoPost (M.cnt ((l ++ m).take k), 0) w) := by
    intro k hk w B' hu
    have := HRL.out k w B' hu
    rw [M.rankR, if_neg (by rw [hLlen]; omega), Int.toNat_natCast] at this; exact this
  have HRK := Lib.hid hRk
  have hRa : ∀ k : Nat, k ≤ l.length → ∀ w B', Bools w B' a l → Calls Try.prog 9 #[.slice a l.length c, .int .i64 k] w (TwoPost (M.cnt (l.take k), 0) w) := by
    intro k hk w B' hu
    have := rank_any a c l k w B' HCAP.out hu
    rw [M.rankR, if_neg (by omega), Int.toNat_natCast] at this; exact this
  have HRA := Lib.hid hRa
  have hRb : ∀ k : Nat, k ≤ m.length → ∀ w B', Bools w B' b m → Calls Try.prog 9 #[.slice b m.length d, .int .i64 k] w (TwoPost (M.cnt (m.take k), 0) w) := by
    intro k hk w B' hu
    have := rank_any b d m k w B' HCAP2.out hu
    rw [M.rankR, if_neg (by omega), Int.toNat_natCast] at this; exact this
  have HRB := Lib.hid hRb
  have hcL := fun w B' h => count_any a5 c5 (l ++ m) w B' (by rw [List.length_append]; unfold maxLen; omega) h
  rw [List.length_append] at hcL
  have HCL := Lib.hid hcL
  have g1 : decide ((k : Int) < 0) = false := by simp
  have g2 : decide ((l.length : Int) + (m.length : Int) < (k : Int)) = false := by simp; omega
  have HEND := Lib.hid (show k = l.length + m.length → M.cnt ((l ++ m).take k) = M.cnt (l ++ m) from fun e => by rw [List.take_of_length_le (by rw [List.length_append]; omega)])
  have HSN := Lib.hid (show k < l.length + m.length → M.cnt ((l ++ m).take (k + 1)) = M.cnt ((l ++ m).take k) + if (l ++ m).getD k false = true then 1 else 0 from fun h => M.cnt_snoc _ _ (by rw [List.length_append]; omega))
  have HJ1 := Lib.hid (show k ≤ l.length → M.cnt ((l ++ m).take k) = M.cnt (l.take k) from fun h => by rw [List.take_append_of_le_length h])
  have HJ2 := Lib.hid (show l.length < k → M.cnt ((l ++ m).take k) = M.cnt (l.take l.length) + M.cnt (m.take (k - l.length)) from fun h => by
    rw [List.take_append, List.take_length, List.take_of_length_le (by omega), M.cnt_append])
  have hcb1 : M.cnt ((l ++ m).take k) ≤ 1048576 := by have := M.cnt_le ((l ++ m).take k); simp only [List.length_take, List.length_append] at this; omega
  have hcb2 : M.cnt (l.take l.length) ≤ 1048576 := by have := M.cnt_le (l.take l.length); simp only [List.length_take] at this; omega
  have hcb3 : M.cnt (m.take (k - l.length)) ≤ 1048576 := by have := M.cnt_le (m.take (k - l.length)); simp only [List.length_take] at this; omega
  clear hRk hRa hRb hcL hLlen h0
  by_cases hka : k ≤ l.length
  · have hN := HJ1.out hka
    have hr1 := HRK.out k hkl w5 _ hn5
    have hr2 := HRA.out k hka
    have g3 : decide (l.length < k) = false := by simp; omega
    rw [← hN] at hr2
    generalize M.cnt ((l ++ m).take k) = N at *
    have HR1 := Lib.hid hr1
    have HR2 := Lib.hid hr2
    clear hN hr1 hr2
    have g0 : ((N : Int) != (N : Int)) = false := by simp
    by_cases hend : k = l.length + m.length
    · have HC := Lib.hid (show ∀ w B', Bools w B' a5 (l ++ m) → Calls Try.prog 14 #[.slice a5 (l.length + m.length) c5] w (IntPost N w) from fun w B' h => by have := HCL.out w B' h; rw [← HEND.out hend] at this; exact this)
      have g4 : ((k : Int) == (l.length : Int) + (m.length : Int)) = true := by rw [beq_iff_eq]; omega
      clear hend
      go_wp2_with fail
      refine (HR1.out).mono ?_
      rintro e wx ⟨rfl, rfl⟩
      go_wp2_with fail
      refine (rbegun_any _).mono ?_
      rintro e w6 ⟨rfl, hb6⟩
      have hb06 := below_then hb5 hb6
      go_wp2_with fail
      rw [show min (k : Int) (l.length : Int) = (k : Int) by omega]
      refine (HR2.out w6 _ (hu.next hb06)).mono ?_
      rintro e wx ⟨rfl, rfl⟩
      go_wp2_with fail
      refine (HC.out w6 _ (hn5.next hb6)).mono ?_
      rintro e wx ⟨rfl, rfl⟩
      go_wp2_with fail
      go_ret
      exact ⟨rfl, hb06⟩
    · have hkl2 : k < l.length + m.length := by omega
      have g4 : ((k : Int) == (l.length : Int) + (m.length : Int)) = false := by rw [beq_eq_false_iff_ne]; omega
      have hs := HSN.out hkl2
      have hr3 := HRK.out (k + 1) (by omega)
      rw [show ((k + 1 : Nat) : Int) = (k : Int) + 1 by omega] at hr3
      obtain ⟨b5, o5, rfl, hbl5, hcl5⟩ := hn5 (by intro e; have := congrArg List.length e; rw [List.length_append] at this; simp at this; simp [this.1, this.2] at hkl2)
      have hn5 : Bools w5 w5.heap.size (some ⟨b5, o5, none⟩) (l ++ m) := fun _ => ⟨b5, o5, rfl, hbl5, hcl5⟩
      have hcx := hcl5 k (by rw [List.length_append]; exact hkl2)
      clear hcl5
      generalize (l ++ m).getD k false = x at *
      have hq : (((M.cnt ((l ++ m).take (k + 1)) : Nat) : Int) == (N : Int) + 1) = x ∧ (((M.cnt ((l ++ m).take (k + 1)) : Nat) : Int) == (N : Int)) = !x := rise _ _ _ hs
      obtain ⟨q1, q2⟩ := hq
      have HS := Lib.hid hs
      generalize M.cnt ((l ++ m).take (k + 1)) = N2 at *
      have HR3 := Lib.hid hr3
      have HQ1 := Lib.hid q1
      have HQ2 := Lib.hid q2
      clear hr3 hs hend q1 q2
      go_wp2_with fail
      refine (HR1.out).mono ?_
      rintro e wx ⟨rfl, rfl⟩
      go_wp2_with fail
      refine (rbegun_any _).mono ?_
      rintro e w6 ⟨rfl, hb6⟩
      have hb06 := below_then hb5 hb6
      go_wp2_with fail
      rw [show min (k : Int) (l.length : Int) = (k : Int) by omega]
      refine (HR2.out w6 _ (hu.next hb06)).mono ?_
      rintro e wx ⟨rfl, rfl⟩
      go_wp2_with fail
      refine (HR3.out w6 _ (hn5.next hb6)).mono ?_
      rintro e wx ⟨rfl, rfl⟩
      have hcx6 : w6.cell? ⟨b5, o5 + k, none⟩ = some (.bool x) := (hb6.cell (p := ⟨b5, o5 + k, none⟩) hbl5).trans hcx
      have q1 := HQ1.out
      have q2 := HQ2.out
      have g5 : decide (k < l.length + m.length) = true := by simp; omega
      cases x
      all_goals
        go_wp2_with fail
        go_ret
        exact ⟨rfl, hb06⟩
  · have hN := HJ2.out (by omega)
    have hr1 := HRK.out k hkl w5 _ hn5
    have hr2 := HRA.out l.length (Nat.le_refl _)
    have hr4 := HRB.out (k - l.length) (by omega)
    have g3 : decide (l.length < k) = true := by simp; omega
    generalize M.cnt ((l ++ m).take k) = N at *
    generalize M.cnt (l.take l.length) = c1 at *
    generalize M.cnt (m.take (k - l.length)) = c2 at *
    have g6 : ((N : Int) != (c1 : Int) + (c2 : Int)) = false := by rw [bne_eq_false_iff_eq]; omega
    have HR1 := Lib.hid hr1
    have HR2 := Lib.hid hr2
    have HR4 := Lib.hid hr4
    clear hN hr1 hr2 hr4
    have g0 : ((N : Int) != (N : Int)) = false := by simp
    by_cases hend : k = l.length + m.length
    · have HC := Lib.hid (show ∀ w B', Bools w B' a5 (l ++ m) → Calls Try.prog 14 #[.slice a5 (l.length + m.length) c5] w (IntPost N w) from fun w B' h => by have := HCL.out w B' h; rw [← HEND.out hend] at this; exact this)
      have g4 : ((k : Int) == (l.length : Int) + (m.length : Int)) = true := by rw [beq_iff_eq]; omega
      clear hend
      go_wp2_with fail
      refine (HR1.out).mono ?_
      rintro e wx ⟨rfl, rfl⟩
      go_wp2_with fail
      refine (rbegun_any _).mono ?_
      rintro e w6 ⟨rfl, hb6⟩
      have hb06 := below_then hb5 hb6
      go_wp2_with fail
      rw [show min (k : Int) (l.length : Int) = (l.length : Int) by omega]
      refine (HR2.out w6 _ (hu.next hb06)).mono ?_
      rintro e wx ⟨rfl, rfl⟩
      go_wp2_with fail
      rw [show (k : Int) - (l.length : Int) = ((k - l.length : Nat) : Int) by omega]
      refine (HR4.out w6 _ (hv.next hb06)).mono ?_
      rintro e wx ⟨rfl, rfl⟩
      go_wp2_with fail
      refine (HC.out w6 _ (hn5.next hb6)).mono ?_
      rintro e wx ⟨rfl, rfl⟩
      go_wp2_with fail
      go_ret
      exact ⟨rfl, hb06⟩
    · have hkl2 : k < l.length + m.length := by omega
      have g4 : ((k : Int) == (l.length : Int) + (m.length : Int)) = false := by rw [beq_eq_false_iff_ne]; omega
      have hs := HSN.out hkl2
      have hr3 := HRK.out (k + 1) (by omega)
      rw [show ((k + 1 : Nat) : Int) = (k : Int) + 1 by omega] at hr3
      obtain ⟨b5, o5, rfl, hbl5, hcl5⟩ := hn5 (by intro e; have := congrArg List.length e; rw [List.length_append] at this; simp at this; simp [this.1, this.2] at hkl2)
      have hn5 : Bools w5 w5.heap.size (some ⟨b5, o5, none⟩) (l ++ m) := fun _ => ⟨b5, o5, rfl, hbl5, hcl5⟩
      have hcx := hcl5 k (by rw [List.length_append]; exact hkl2)
      clear hcl5
      generalize (l ++ m).getD k false = x at *
      have hq : (((M.cnt ((l ++ m).take (k + 1)) : Nat) : Int) == (N : Int) + 1) = x ∧ (((M.cnt ((l ++ m).take (k + 1)) : Nat) : Int) == (N : Int)) = !x := rise _ _ _ hs
      obtain ⟨q1, q2⟩ := hq
      have HS := Lib.hid hs
      generalize M.cnt ((l ++ m).take (k + 1)) = N2 at *
      have HR3 := Lib.hid hr3
      have HQ1 := Lib.hid q1
      have HQ2 := Lib.hid q2
      clear hr3 hs hend q1 q2
      go_wp2_with fail
      refine (HR1.out).mono ?_
      rintro e wx ⟨rfl, rfl⟩
      go_wp2_with fail
      refine (rbegun_any _).mono ?_
      rintro e w6 ⟨rfl, hb6⟩
      have hb06 := below_then hb5 hb6
      go_wp2_with fail
      rw [show min (k : Int) (l.length : Int) = (l.length : Int) by omega]
      refine (HR2.out w6 _ (hu.next hb06)).mono ?_
      rintro e wx ⟨rfl, rfl⟩
      go_wp2_with fail
      rw [show (k : Int) - (l.length : Int) = ((k - l.length : Nat) : Int) by omega]
      refine (HR4.out w6 _ (hv.next hb06)).mono ?_
      rintro e wx ⟨rfl, rfl⟩
      go_wp2_with fail
      refine (HR3.out w6 _ (hn5.next hb6)).mono ?_
      rintro e wx ⟨rfl, rfl⟩
      have hcx6 : w6.cell? ⟨b5, o5 + k, none⟩ = some (.bool x) := (hb6.cell (p := ⟨b5, o5 + k, none⟩) hbl5).trans hcx
      have q1 := HQ1.out
      have q2 := HQ2.out
      have g5 : decide (k < l.length + m.length) = true := by simp; omega
      cases x
      all_goals
        go_wp2_with fail
        go_ret
        exact ⟨rfl, hb06⟩
end Go.Proofs.Ythmlafoceacliaa
