/- The law RunsJoins. -/
import Derived.Test.YthmlafoceacliabRL0
namespace Go.Proofs.Ythmlafoceacliab
open Go.RowKit
set_option linter.unusedVariables false

theorem joined_rle (l m : List Nat) (h : l.length + m.length ≤ 64) : joinedR (R.rle l) (R.rle m) = (R.rle (l ++ m), 0) := by
  have h1 := R.chk_rle l (by omega)
  have h2 := R.chk_rle m (by omega)
  rw [joinedR, if_neg (by omega), if_neg (by omega), if_neg (by rw [R.sum_rle, R.sum_rle]; omega)]
  rw [R.join_ex _ (by intro p hp; rcases List.mem_append.1 hp with h | h; exact R.good_mem _ (R.good_rle l) p h; exact R.good_mem _ (R.good_rle m) p h), R.ex_append, R.ex_rle, R.ex_rle]

set_option maxHeartbeats 1000000 in
set_option maxRecDepth 100000 in
theorem runsJoins_long (w : World) (a : Option Addr) (c : Nat) (l : List Nat) (hm : l.length ≤ maxLen) (hu : Nums w w.heap.size a l)
    (b : Option Addr) (d : Nat) (m : List Nat) (hm2 : m.length ≤ maxLen) (hv : Nums w w.heap.size b m) (hs : 64 < l.length + m.length) :
    Calls Try.prog 7 #[.slice a l.length c, .slice b m.length d] w (BoolPost true w) := by
  have hof1 := of_any a c l w hu
  have hof2 := fun w' (hb : Below w.heap.size w w') => of_any b d m w' (hv.next hb)
  have hk : (ofR l).2 = 0 ∧ (ofR m).2 = 0 → l.length ≤ 64 ∧ m.length ≤ 64 := by
    unfold ofR
    intro h
    by_cases h1 : 64 < l.length
    · rw [if_pos h1] at h; simp at h
    · by_cases h2 : 64 < m.length
      · rw [if_pos h2] at h; simp at h
      · omega
  generalize ofR l = r1 at *
  generalize ofR m = r2 at *
  obtain ⟨x, e1⟩ := r1
  obtain ⟨y, e2⟩ := r2
  simp only at hk
  have HO1 := Lib.hid hof1
  have HO2 := Lib.hid hof2
  have HK := Lib.hid hk
  clear hof1 hof2 hk
  unfold maxLen at hm hm2
  go_enter Try.func7, Try.ntmps7
  go_wp2_with fail
  refine (HO1.out).mono ?_
  rintro e w1 ⟨a1, c1, rfl, hr1, hb1⟩
  go_wp2_with fail
  refine (HO2.out w1 hb1).mono ?_
  rintro e w2 ⟨a2, c2, rfl, hr2, hb2⟩
  replace hb2 := below_then hb1 hb2
  go_wp2_with fail
  refine (rubegun_any _).mono ?_
  rintro e w3 ⟨rfl, hb3⟩
  replace hb3 := below_then hb2 hb3
  by_cases k1 : e1 = 0
  · subst k1
    by_cases k2 : e2 = 0
    · subst k2
      obtain ⟨hl64, hm64⟩ := HK.out ⟨rfl, rfl⟩
      have g3 : decide ((64 : Int) < (l.length : Int) + (m.length : Int)) = true := by simp; omega
      have g3' : decide (64 < l.length + m.length) = true := by simp; omega
      go_wp2_with fail
      go_ret
      exact ⟨rfl, hb3⟩
    · have g2 : ((e2 : Int) != 0) = true := by rw [bne_iff_ne]; omega
      go_wp2_with fail
      go_ret
      exact ⟨rfl, hb3⟩
  · have g1 : ((e1 : Int) != 0) = true := by rw [bne_iff_ne]; omega
    go_wp2_with fail
    go_ret
    exact ⟨rfl, hb3⟩

set_option maxHeartbeats 2000000 in
set_option maxRecDepth 100000 in
theorem runsJoins_short (w : World) (a : Option Addr) (c : Nat) (l : List Nat) (hnil : a = none → c = 0) (hu : Nums w w.heap.size a l)
    (b : Option Addr) (d : Nat) (m : List Nat) (hnil' : b = none → d = 0) (hv : Nums w w.heap.size b m) (hs : l.length + m.length ≤ 64) :
    Calls Try.prog 7 #[.slice a l.length c, .slice b m.length d] w (BoolPost true w) := by
  have hof1 := of_any a c l w hu
  have hof2 := fun w' (hb : Below w.heap.size w w') => of_any b d m w' (hv.next hb)
  have hof3 := fun a c w' hu => of_any a c (l ++ m) w' hu
  have h1 : ofR l = (R.rle l, 0) := by rw [ofR, if_neg (by omega)]
  have h2 : ofR m = (R.rle m, 0) := by rw [ofR, if_neg (by omega)]
  have h3 : ofR (l ++ m) = (R.rle (l ++ m), 0) := by rw [ofR, if_neg (by rw [List.length_append]; omega)]
  rw [h1] at hof1
  rw [h2] at hof2
  rw [h3] at hof3
  rw [List.length_append] at hof3
  have r1 := rle_length_le l
  have r2 := rle_length_le m
  have r3 := rle_length_le (l ++ m)
  rw [List.length_append] at r3
  have hj := fun a b c d w' hu hv => joined_any a b c d (R.rle l) (R.rle m) w' (by unfold maxLen; omega) (by unfold maxLen; omega) hu hv
  rw [joined_rle l m hs] at hj
  have hsm : ∀ a b c d w, Runs w w.heap.size a (R.rle (l ++ m)) → Runs w w.heap.size b (R.rle (l ++ m)) → Calls Try.prog 11 #[.slice a (R.rle (l ++ m)).length c, .slice b (R.rle (l ++ m)).length d] w (BoolPost true w) := fun a b c d w h h2 => by
    have h := rsame_any a b c d _ _ w _ h h2 (by omega)
    rw [decide_eq_true rfl] at h; exact h
  have hlen := R.rle_len_append l m
  generalize R.rle l = x at *
  generalize R.rle m = y at *
  generalize R.rle (l ++ m) = z at *
  have HO1 := Lib.hid hof1
  have HO2 := Lib.hid hof2
  have HO3 := Lib.hid hof3
  have HJ := Lib.hid hj
  have HSM := Lib.hid hsm
  have HLEN := Lib.hid hlen
  have HNIL := Lib.hid hnil
  have HNIL' := Lib.hid hnil'
  clear hof1 hof2 hof3 hj hsm hlen h1 h2 h3 hnil hnil'
  go_enter Try.func7, Try.ntmps7
  go_wp2_with fail
  refine (HO1.out).mono ?_
  rintro e w1 ⟨a1, c1, rfl, hr1, hb1⟩
  go_wp2_with fail
  refine (HO2.out w1 hb1).mono ?_
  rintro e w2 ⟨a2, c2, rfl, hr2, hb2⟩
  replace hr1 := hr1.next hb2
  replace hb2 := below_then hb1 hb2
  go_wp2_with fail
  refine (rubegun_any _).mono ?_
  rintro e w3 ⟨rfl, hb3⟩
  replace hr1 := hr1.next hb3
  replace hr2 := hr2.next hb3
  replace hb3 := below_then hb2 hb3
  have g3 : decide ((64 : Int) < (l.length : Int) + (m.length : Int)) = false := by simp; omega
  have g3' : decide (64 < l.length + m.length) = false := by simp; omega
  go_wp2_with fail
  refine (HJ.out a1 a2 c1 c2 w3 hr1 hr2).mono ?_
  rintro e w4 ⟨a4, c4, rfl, hr4, hb4⟩
  replace hb4 := below_then hb3 hb4
  clear hr1 hr2 hb1 hb2 hb3
  have hown0 : (w4.alloc (.cells #[] 34)).ownsRow w4.heap.size 34 1 (.slice (some ⟨w4.heap.size, 0, none⟩) 0 0) 0 [] :=
    ⟨by simp, Or.inr ⟨w4.heap.size, 0, #[], rfl, Nat.le_refl _, heap_alloc_new w4 _, Nat.le_refl _, by unfold maxLen; omega, rfl, rfl⟩⟩
  have hb5 : Below w4.heap.size w4 (w4.alloc (.cells #[] 34)) := (Below.refl _ _).alloc (Nat.le_refl _) _
  have hb5' := below_then hb4 hb5
  go_wp2_with (at_builtin; refine wpList_append_nums rfl (.tmp 47) (.tmp 48) rfl w4.heap.size _ 0 _ rfl hown0 a l.length c l rfl rfl HNIL.out (hu.next hb5') (by omega) (by simp) ?_)
  intro v6 w6 hown6 hg6
  have hb6 : Below w4.heap.size w4 w6 := hb5.grown hg6 (by simp) (fun k hk => (hown0.lt k hk).1)
  have hs6 : w4.heap.size ≤ w6.heap.size := hb6.size
  have hb6' := below_then hb4 hb6
  have hbb : (l.length + m.length) * 8 ≤ 140737488355328 := by omega
  go_wp2_with (at_builtin; refine wpList_append_nums rfl (.tmp 49) (.tmp 50) rfl w4.heap.size _ l.length _ rfl hown6 b m.length d m rfl rfl HNIL'.out (hv.next hb6') hbb hs6 ?_)
  intro v7 w7 hown7 hg7
  have hb7 : Below w4.heap.size w4 w7 := hb6.grown hg7 hs6 (fun k hk => (hown6.lt k hk).1)
  have hnr : NumRow w4.heap.size (l ++ m) v7 w7 := by
    unfold NumRow
    simpa [nv] using hown7
  obtain ⟨a7, c7, hv7, hn7⟩ := numRow_nums hnr
  rw [List.length_append] at hv7
  rw [hv7]
  clear hv7
  clear hown0 hown6 hown7 hg6 hg7 hnr hb5 hb5' hb6 hb6'
  replace hr4 := hr4.next hb7
  replace hb7 := below_then hb4 hb7
  clear hb4
  go_wp2_with fail
  refine (HO3.out a7 c7 w7 hn7).mono ?_
  rintro e w8 ⟨a8, c8, rfl, hr8, hb8⟩
  replace hr4 := hr4.next hb8
  replace hb8 := below_then hb7 hb8
  clear hb7 hn7
  have HSM2 := Lib.hid (fun w' (hb : Below w8.heap.size w8 w') => HSM.out a4 a8 c4 c8 w' (hr4.next hb) (hr8.next hb))
  have hlen := HLEN.out
  unfold R.less at hlen
  by_cases hl0 : l = []
  · rw [if_neg (by simp [hl0])] at hlen
    obtain rfl := hl0
    have g5 : ((z.length : Int) == (x.length : Int) + (y.length : Int)) = true := by rw [beq_iff_eq]; omega
    clear hlen HLEN
    simp only [List.length_nil] at *
    go_wp2_with fail
    go_quiet (fail)
    go_wp2_with fail
    refine (HSM2.out _ (below_drewN (Below.refl _ _) _)).mono ?_
    rintro e w9 ⟨rfl, hb9⟩
    go_wp2_with fail
    go_ret
    exact ⟨rfl, below_then hb8 (below_then (below_drewN (Below.refl _ _) _) hb9)⟩
  · by_cases hm0 : m = []
    · rw [if_neg (by simp [hm0])] at hlen
      obtain rfl := hm0
      have g5 : ((z.length : Int) == (x.length : Int) + (y.length : Int)) = true := by rw [beq_iff_eq]; omega
      have g6 : decide (0 < l.length) = true := by have := List.length_pos_iff.2 hl0; simp; omega
      clear hlen HLEN
      simp only [List.length_nil] at *
      go_wp2_with fail
      go_quiet (fail)
      go_wp2_with fail
      refine (HSM2.out _ (below_drewN (Below.refl _ _) _)).mono ?_
      rintro e w9 ⟨rfl, hb9⟩
      go_wp2_with fail
      go_ret
      exact ⟨rfl, below_then hb8 (below_then (below_drewN (Below.refl _ _) _) hb9)⟩
    · obtain ⟨ba, oa, rfl, hba, hca⟩ := hu hl0
      obtain ⟨bb, ob, rfl, hbb1, hcb⟩ := hv hm0
      obtain ⟨n, hn⟩ : ∃ n, l.length = n + 1 := ⟨l.length - 1, by have := List.length_pos_iff.2 hl0; omega⟩
      have hm1 := List.length_pos_iff.2 hm0
      have ca : w8.cell? ⟨ba, oa + n, none⟩ = some (.int .u64 ((l.getD n 0 : Nat) : Int)) := (hb8.cell (p := ⟨ba, oa + n, none⟩) hba).trans (hca n (by omega))
      have cb : w8.cell? ⟨bb, ob, none⟩ = some (.int .u64 ((m.getD 0 0 : Nat) : Int)) := (hb8.cell (p := ⟨bb, ob, none⟩) hbb1).trans (hcb 0 (by omega))
      have hn1 : l.length - 1 = n := by omega
      rw [hn1] at hlen
      have g6 : decide (0 < n + 1) = true := by simp
      have gw : IntKind.i64.wrap (n : Int) = (n : Int) := IntWalk.i64_in _ ⟨by omega, by omega⟩
      have g7 : decide (0 < m.length) = true := by simp; omega
      rw [hn] at *
      generalize l.getD n 0 = p at *
      generalize m.getD 0 0 = q at *
      by_cases hpq : p = q
      · rw [if_pos ⟨hl0, hm0, hpq⟩] at hlen
        have g5 : ((z.length : Int) == (x.length : Int) + (y.length : Int) - 1) = true := by rw [beq_iff_eq]; omega
        subst hpq
        clear hlen HLEN hca hcb
        go_wp2_with fail
        go_quiet (fail)
        go_wp2_with fail
        refine (HSM2.out _ (below_drewN (Below.refl _ _) _)).mono ?_
        rintro e w9 ⟨rfl, hb9⟩
        go_wp2_with fail
        go_ret
        exact ⟨rfl, below_then hb8 (below_then (below_drewN (Below.refl _ _) _) hb9)⟩
      · rw [if_neg (fun h => hpq h.2.2)] at hlen
        have g5 : ((z.length : Int) == (x.length : Int) + (y.length : Int)) = true := by rw [beq_iff_eq]; omega
        have g8 : ((p : Int) == (q : Int)) = false := by rw [beq_eq_false_iff_ne]; omega
        clear hlen HLEN hca hcb
        go_wp2_with fail
        go_quiet (fail)
        go_wp2_with fail
        refine (HSM2.out _ (below_drewN (Below.refl _ _) _)).mono ?_
        rintro e w9 ⟨rfl, hb9⟩
        go_wp2_with fail
        go_ret
        exact ⟨rfl, below_then hb8 (below_then (below_drewN (Below.refl _ _) _) hb9)⟩

theorem runsJoins_walk (w : World) (a : Option Addr) (c : Nat) (l : List Nat) (hm : l.length ≤ maxLen) (hcap : l.length ≤ c ∧ c ≤ maxLen ∧ (a = none → c = 0)) (hx : ∀ x ∈ l, x < 18446744073709551616) (hu : Nums w w.heap.size a l)
    (b : Option Addr) (d : Nat) (m : List Nat) (hm2 : m.length ≤ maxLen) (hcap2 : m.length ≤ d ∧ d ≤ maxLen ∧ (b = none → d = 0)) (hx2 : ∀ x ∈ m, x < 18446744073709551616) (hv : Nums w w.heap.size b m) :
    Calls Try.prog 7 #[.slice a l.length c, .slice b m.length d] w (BoolPost true w) := by
  by_cases h : 64 < l.length + m.length
  · exact runsJoins_long w a c l hm hu b d m hm2 hv h
  · exact runsJoins_short w a c l hcap.2.2 hu b d m hcap2.2.2 hv (by omega)
end Go.Proofs.Ythmlafoceacliab
