/- The walk of hypostyleref.KnownCheck. -/
import Derived.Test.YtgkhkfmlldnogaaSBase
import Derived.Test.YtgkhkfmlldnogaaCW1
import Derived.Test.YtgkhkfmlldnogaaCLess
namespace Go.Proofs.Ytgkhkfmlldnogaa
open Go.RowKit
set_option linter.unusedVariables false

theorem obel {w : World} (vs : List Value) : Below w.heap.size w (w.alloc (.cells vs.toArray 27)) := (Below.refl _ _).alloc (Nat.le_refl _) _

set_option maxHeartbeats 2000000 in
set_option maxRecDepth 100000 in
theorem kcheck_any (k : Int) (s : S.St) (w : World) (hk : -9223372036854775808 ≤ k ∧ k ≤ 9223372036854775807) (hs : sOk s) :
    Calls Try.prog 13 #[.int .i64 k, sag s] w (CErrPost (S.ck k s) w) := by
  have hbel := obel (w := w) (sx s)
  have hO := oct_new w (sx s)
  obtain ⟨hr, hn, hl, hm⟩ := hs
  have hcl := fun W => rchk_any k s.least W hl hk
  have hcm := fun W => rchk_any k s.most W hm hk
  have hle := fun W => cellLess_any s.most s.least W hm.2.2.2 hl.2.2.2
  unfold sag
  unfold sx at hbel hO
  unfold cag at hcl hcm hle
  by_cases h1 : k ≠ 1 ∧ k ≠ 2
  · have HR := Lib.hid (show S.ck k s = 7 from if_pos h1)
    generalize S.ck k s = R at *
    have g1 : (k != 1) = true := by rw [bne_iff_ne]; exact h1.1
    have g2 : (k != 2) = true := by rw [bne_iff_ne]; exact h1.2
    generalize str s.least.txt = lx at *
    generalize str s.most.txt = mx at *
    clear hcl hcm hle h1
    go_enter Try.func13, Try.ntmps13
    go_wp2_with fail
    go_ret
    exact ⟨by rw [HR.out]; rfl, hbel⟩
  have hg : ((k != 1) = false) ∨ ((k != 1) = true ∧ (k != 2) = false) := by
    by_cases e : k = 1
    · exact Or.inl (by rw [bne_eq_false_iff_eq]; exact e)
    · exact Or.inr ⟨by rw [bne_iff_ne]; exact e, by rw [bne_eq_false_iff_eq]; omega⟩
  by_cases h2 : s.rows < 0 ∨ 128 < s.rows ∨ s.nulls < 0 ∨ s.rows < s.nulls
  · have HR := Lib.hid (show S.ck k s = 3 by unfold S.ck; rw [if_neg h1, if_pos h2])
    generalize S.ck k s = R at *
    have hr4 : (decide (s.rows < 0) = true) ∨ (decide (s.rows < 0) = false ∧ decide (128 < s.rows) = true) ∨ (decide (s.rows < 0) = false ∧ decide (128 < s.rows) = false ∧ decide (s.nulls < 0) = true) ∨ (decide (s.rows < 0) = false ∧ decide (128 < s.rows) = false ∧ decide (s.nulls < 0) = false ∧ decide (s.rows < s.nulls) = true) := by
      simp only [decide_eq_true_eq, decide_eq_false_iff_not]; omega
    generalize str s.least.txt = lx at *
    generalize str s.most.txt = mx at *
    generalize s.rows = r at *
    generalize s.nulls = n at *
    clear hcl hcm hle h1 h2
    rcases hg with g1 | ⟨g1, g2⟩
    all_goals
      rcases hr4 with r1 | ⟨r1, r2⟩ | ⟨r1, r2, r3⟩ | ⟨r1, r2, r3, r4⟩
      all_goals
        go_enter Try.func13, Try.ntmps13
        go_wp2_with fail
        go_ret
        exact ⟨by rw [HR.out]; rfl, hbel⟩
  have r1 : decide (s.rows < 0) = false := by rw [decide_eq_false_iff_not]; omega
  have r2 : decide (128 < s.rows) = false := by rw [decide_eq_false_iff_not]; omega
  have r3 : decide (s.nulls < 0) = false := by rw [decide_eq_false_iff_not]; omega
  have r4 : decide (s.rows < s.nulls) = false := by rw [decide_eq_false_iff_not]; omega
  by_cases h3 : C.cellE k s.least ≠ 0
  · have HR := Lib.hid (show S.ck k s = C.cellE k s.least by unfold S.ck; rw [if_neg h1, if_neg h2, if_pos h3])
    generalize S.ck k s = R at *
    generalize C.cellE k s.least = er at *
    have e1 : ((er : Int) == 0) = false := by rw [beq_eq_false_iff_ne]; omega
    have e2 : ((er : Int) != 0) = true := by rw [bne_iff_ne]; omega
    generalize str s.least.txt = lx at *
    generalize str s.most.txt = mx at *
    generalize s.rows = r at *
    generalize s.nulls = n at *
    have HC := Lib.hid hcl
    clear hcl hcm hle h1 h2 h3
    rcases hg with g1 | ⟨g1, g2⟩
    all_goals
      go_enter Try.func13, Try.ntmps13
      go_wp2_with fail
      refine (HC.out _).mono ?_
      rintro e w1 ⟨rfl, hb1⟩
      go_wp2_with fail
      go_ret
      exact ⟨by rw [HR.out]; rfl, below_then hbel hb1⟩
  have h3' : C.cellE k s.least = 0 := Classical.not_not.1 h3
  rw [h3'] at hcl
  by_cases h4 : C.cellE k s.most ≠ 0
  · have HR := Lib.hid (show S.ck k s = C.cellE k s.most by unfold S.ck; rw [if_neg h1, if_neg h2, if_neg h3, if_pos h4])
    generalize S.ck k s = R at *
    generalize C.cellE k s.most = er at *
    have e2 : ((er : Int) != 0) = true := by rw [bne_iff_ne]; omega
    obtain ⟨o0, o1, o2, o3, o4, o5, o6, o7⟩ := hO.cells
    generalize str s.least.txt = lx at *
    generalize str s.most.txt = mx at *
    generalize s.rows = r at *
    generalize s.nulls = n at *
    generalize s.least.kind = lk at *
    generalize s.least.num = ln at *
    generalize s.most.kind = mk at *
    generalize s.most.num = mm at *
    have HC := Lib.hid hcl
    have HM := Lib.hid hcm
    have HO := Lib.hid hO
    clear hcl hcm hle h1 h2 h3 h3' h4 hO o0 o1 o2 o3 o4 o5 o6 o7
    rcases hg with g1 | ⟨g1, g2⟩
    all_goals
      go_enter Try.func13, Try.ntmps13
      go_wp2_with fail
      refine (HC.out _).mono ?_
      rintro e w1 ⟨rfl, hb1⟩
      obtain ⟨o0, o1, o2, o3, o4, o5, o6, o7⟩ := (HO.out.next hb1).cells
      go_wp2_with fail
      refine (HM.out _).mono ?_
      rintro e w2 ⟨rfl, hb2⟩
      go_wp2_with fail
      go_ret
      exact ⟨by rw [HR.out]; rfl, below_then (below_then hbel hb1) hb2⟩
  have h4' : C.cellE k s.most = 0 := Classical.not_not.1 h4
  rw [h4'] at hcm
  have HR := Lib.hid (show S.ck k s = if (s.nulls = s.rows ∧ (s.least.kind ≠ 0 ∨ s.most.kind ≠ 0)) ∨ (s.nulls < s.rows ∧ (s.least.kind = 0 ∨ s.most.kind = 0)) ∨ C.less s.most s.least = true then 4 else 0 by unfold S.ck; rw [if_neg h1, if_neg h2, if_neg h3, if_neg h4])
  have hnr : s.nulls ≤ s.rows := by omega
  generalize S.ck k s = R at *
  generalize C.less s.most s.least = lt at *
  generalize str s.least.txt = lx at *
  generalize str s.most.txt = mx at *
  generalize s.rows = r at *
  generalize s.nulls = n at *
  generalize s.least.kind = lk at *
  generalize s.least.num = ln at *
  generalize s.most.kind = mk at *
  generalize s.most.num = mm at *
  have HC := Lib.hid hcl
  have HM := Lib.hid hcm
  have HL := Lib.hid hle
  have HO := Lib.hid hO
  clear hcl hcm hle h1 h2 h3 h3' h4 h4' hO hl hm hr hn
  /- the seven ways of what is asked last -/
  have hway : (n = r ∧ lk ≠ 0 ∧ R = 4) ∨ (n = r ∧ lk = 0 ∧ mk ≠ 0 ∧ R = 4) ∨ (n = r ∧ lk = 0 ∧ mk = 0 ∧ R = if lt = true then 4 else 0) ∨ (n < r ∧ lk = 0 ∧ R = 4) ∨ (n < r ∧ lk ≠ 0 ∧ mk = 0 ∧ R = 4) ∨ (n < r ∧ lk ≠ 0 ∧ mk ≠ 0 ∧ R = if lt = true then 4 else 0) := by
    have hR := HR.out
    rcases Int.lt_or_eq_of_le hnr with e | e
    · have e1 : ¬ n = r := by omega
      by_cases a : lk = 0
      · rw [if_pos (Or.inr (Or.inl ⟨e, Or.inl a⟩))] at hR
        exact Or.inr (Or.inr (Or.inr (Or.inl ⟨e, a, hR⟩)))
      · by_cases b : mk = 0
        · rw [if_pos (Or.inr (Or.inl ⟨e, Or.inr b⟩))] at hR
          exact Or.inr (Or.inr (Or.inr (Or.inr (Or.inl ⟨e, a, b, hR⟩))))
        · refine Or.inr (Or.inr (Or.inr (Or.inr (Or.inr ⟨e, a, b, ?_⟩))))
          rw [hR]
          cases lt
          · rw [if_neg, if_neg (by decide)]
            rintro (⟨q, _⟩ | ⟨_, q⟩ | q)
            · exact e1 q
            · rcases q with q | q
              · exact a q
              · exact b q
            · exact absurd q (by decide)
          · rw [if_pos (Or.inr (Or.inr rfl)), if_pos rfl]
    · by_cases a : lk = 0
      · by_cases b : mk = 0
        · refine Or.inr (Or.inr (Or.inl ⟨e, a, b, ?_⟩))
          rw [hR]
          cases lt
          · rw [if_neg, if_neg (by decide)]
            rintro (⟨_, q⟩ | ⟨q, _⟩ | q)
            · rcases q with q | q
              · exact q a
              · exact q b
            · omega
            · exact absurd q (by decide)
          · rw [if_pos (Or.inr (Or.inr rfl)), if_pos rfl]
        · rw [if_pos (Or.inl ⟨e, Or.inr b⟩)] at hR
          exact Or.inr (Or.inl ⟨e, a, b, hR⟩)
      · rw [if_pos (Or.inl ⟨e, Or.inl a⟩)] at hR
        exact Or.inl ⟨e, a, hR⟩
  clear HR
  rcases hg with g1 | ⟨g1, g2⟩
  all_goals
    rcases hway with ⟨rfl, a, hR⟩ | ⟨rfl, rfl, b, hR⟩ | ⟨rfl, rfl, rfl, hR⟩ | ⟨e, rfl, hR⟩ | ⟨e, a, rfl, hR⟩ | ⟨e, a, b, hR⟩
    · have HR := Lib.hid hR
      have q1 : (lk != 0) = true := by rw [bne_iff_ne]; exact a
      clear hR a hnr
      go_enter Try.func13, Try.ntmps13
      go_wp2_with fail
      refine (HC.out _).mono ?_
      rintro e w1 ⟨rfl, hb1⟩
      obtain ⟨o0, o1, o2, o3, o4, o5, o6, o7⟩ := (HO.out.next hb1).cells
      go_wp2_with fail
      refine (HM.out _).mono ?_
      rintro e w2 ⟨rfl, hb2⟩
      obtain ⟨o0, o1, o2, o3, o4, o5, o6, o7⟩ := ((HO.out.next hb1).next hb2).cells
      have h2 := below_then (below_then hbel hb1) hb2
      go_wp2_with fail
      go_ret
      exact ⟨by rw [HR.out]; rfl, h2⟩
    · have HR := Lib.hid hR
      have q1 : (mk != 0) = true := by rw [bne_iff_ne]; exact b
      clear hR b hnr
      go_enter Try.func13, Try.ntmps13
      go_wp2_with fail
      refine (HC.out _).mono ?_
      rintro e w1 ⟨rfl, hb1⟩
      obtain ⟨o0, o1, o2, o3, o4, o5, o6, o7⟩ := (HO.out.next hb1).cells
      go_wp2_with fail
      refine (HM.out _).mono ?_
      rintro e w2 ⟨rfl, hb2⟩
      obtain ⟨o0, o1, o2, o3, o4, o5, o6, o7⟩ := ((HO.out.next hb1).next hb2).cells
      have h2 := below_then (below_then hbel hb1) hb2
      go_wp2_with fail
      go_ret
      exact ⟨by rw [HR.out]; rfl, h2⟩
    · cases lt
      all_goals
        have HR := Lib.hid hR
        clear hR hnr
        go_enter Try.func13, Try.ntmps13
        go_wp2_with fail
        refine (HC.out _).mono ?_
        rintro e w1 ⟨rfl, hb1⟩
        obtain ⟨o0, o1, o2, o3, o4, o5, o6, o7⟩ := (HO.out.next hb1).cells
        go_wp2_with fail
        refine (HM.out _).mono ?_
        rintro e w2 ⟨rfl, hb2⟩
        obtain ⟨o0, o1, o2, o3, o4, o5, o6, o7⟩ := ((HO.out.next hb1).next hb2).cells
        have h2 := below_then (below_then hbel hb1) hb2
        go_wp2_with fail
        refine (HL.out _).mono ?_
        rintro e w3 ⟨rfl, hb3⟩
        have h3 := below_then h2 hb3
        go_wp2_with fail
        go_ret
        exact ⟨by rw [HR.out]; rfl, h3⟩
    · have HR := Lib.hid hR
      have q1 : (n == r) = false := by rw [beq_eq_false_iff_ne]; omega
      have q2 : decide (n < r) = true := decide_eq_true e
      clear hR e hnr
      go_enter Try.func13, Try.ntmps13
      go_wp2_with fail
      refine (HC.out _).mono ?_
      rintro e w1 ⟨rfl, hb1⟩
      obtain ⟨o0, o1, o2, o3, o4, o5, o6, o7⟩ := (HO.out.next hb1).cells
      go_wp2_with fail
      refine (HM.out _).mono ?_
      rintro e w2 ⟨rfl, hb2⟩
      obtain ⟨o0, o1, o2, o3, o4, o5, o6, o7⟩ := ((HO.out.next hb1).next hb2).cells
      have h2 := below_then (below_then hbel hb1) hb2
      go_wp2_with fail
      go_ret
      exact ⟨by rw [HR.out]; rfl, h2⟩
    · have HR := Lib.hid hR
      have q1 : (n == r) = false := by rw [beq_eq_false_iff_ne]; omega
      have q2 : decide (n < r) = true := decide_eq_true e
      have q3 : (lk == 0) = false := by rw [beq_eq_false_iff_ne]; exact a
      clear hR e a hnr
      go_enter Try.func13, Try.ntmps13
      go_wp2_with fail
      refine (HC.out _).mono ?_
      rintro e w1 ⟨rfl, hb1⟩
      obtain ⟨o0, o1, o2, o3, o4, o5, o6, o7⟩ := (HO.out.next hb1).cells
      go_wp2_with fail
      refine (HM.out _).mono ?_
      rintro e w2 ⟨rfl, hb2⟩
      obtain ⟨o0, o1, o2, o3, o4, o5, o6, o7⟩ := ((HO.out.next hb1).next hb2).cells
      have h2 := below_then (below_then hbel hb1) hb2
      go_wp2_with fail
      go_ret
      exact ⟨by rw [HR.out]; rfl, h2⟩
    · have q1 : (n == r) = false := by rw [beq_eq_false_iff_ne]; omega
      have q2 : decide (n < r) = true := decide_eq_true e
      have q3 : (lk == 0) = false := by rw [beq_eq_false_iff_ne]; exact a
      have q4 : (mk == 0) = false := by rw [beq_eq_false_iff_ne]; exact b
      cases lt
      all_goals
        have HR := Lib.hid hR
        clear hR e a b hnr
        go_enter Try.func13, Try.ntmps13
        go_wp2_with fail
        refine (HC.out _).mono ?_
        rintro e w1 ⟨rfl, hb1⟩
        obtain ⟨o0, o1, o2, o3, o4, o5, o6, o7⟩ := (HO.out.next hb1).cells
        go_wp2_with fail
        refine (HM.out _).mono ?_
        rintro e w2 ⟨rfl, hb2⟩
        obtain ⟨o0, o1, o2, o3, o4, o5, o6, o7⟩ := ((HO.out.next hb1).next hb2).cells
        have h2 := below_then (below_then hbel hb1) hb2
        go_wp2_with fail
        refine (HL.out _).mono ?_
        rintro e w3 ⟨rfl, hb3⟩
        have h3 := below_then h2 hb3
        go_wp2_with fail
        go_ret
        exact ⟨by rw [HR.out]; rfl, h3⟩
end Go.Proofs.Ytgkhkfmlldnogaa
